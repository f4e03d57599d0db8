/- A graph's copy: its objects; Clone. Conditions: as each theorem states them. -/
import Derived.Test.YtmbhhadghiojeaaGreatGl5
import Derived.Deep.RegionLaw
namespace Go.Proofs.YtmbhhadghiojeaaGreat
set_option linter.unusedVariables false
set_option linter.unusedSimpArgs false
open Go.RowKit Go.Maps

/-- The copies of the objects that are not left. -/
structure Oc (w0 : World) (s : Gs) (g0 : Nat) (left : Lit → Bool) (ig dg : Nat → Nat) (wr : World) : Prop where
  ri : ∀ n : Nat, 1 ≤ n → n ≤ s.m → left (.int .i64 n) = false → Ro 3 .i64 wr (ig n) (s.R n) ∧ w0.heap.size ≤ ig n
  rd : ∀ n : Nat, 1 ≤ n → n ≤ s.m → left (.int .i64 n) = false → Ro 31 .u64 wr (dg n) (s.D n) ∧ w0.heap.size ≤ dg n
  ai : ∀ n k : Nat, 1 ≤ n → n ≤ s.m → left (.int .i64 n) = false → 1 ≤ k → k ≤ s.m → left (.int .i64 k) = false → ig n = ig k → n = k
  ad : ∀ n k : Nat, 1 ≤ n → n ≤ s.m → left (.int .i64 n) = false → 1 ≤ k → k ≤ s.m → left (.int .i64 k) = false → dg n = dg k → n = k
  a0 : ∀ n : Nat, 1 ≤ n → n ≤ s.m → left (.int .i64 n) = false → ig n ≠ g0
theorem Oc.keep {w0 wr w2 : World} {s : Gs} {g0 : Nat} {left : Lit → Bool} {ig dg : Nat → Nat} {S : List Nat} (h : Oc w0 s g0 left ig dg wr) (k : Kp S wr w2) (hS : ∀ b ∈ S, NoCells wr b) : Oc w0 s g0 left ig dg w2 := by
  have nb : ∀ {x : Nat} {cs : Array Value} {t : TypeId}, wr.heap[x]? = some (.cells cs t (0, 0)) → x ∉ S := fun hx => NoCells.nin hS hx
  refine ⟨fun n a b c => ⟨(h.ri n a b c).1.keep k ?_, (h.ri n a b c).2⟩, fun n a b c => ⟨(h.rd n a b c).1.keep k ?_, (h.rd n a b c).2⟩, h.ai, h.ad, h.a0⟩
  · obtain ⟨cs, hc, _⟩ := (h.ri n a b c).1
    exact nb hc
  · obtain ⟨cs, hc, _⟩ := (h.rd n a b c).1
    exact nb hc
theorem sk_other {k n : Nat} (hk : k ≠ n) : (Lit.int .i64 (k : Int)).sameKey (.int .i64 (n : Int)) = false := Bool.eq_false_iff.2 fun e => by
  have := WideAt.sameKey_eq e
  injection this with _ q
  omega
theorem Oc.step {w0 wr w5 : World} {s : Gs} {g0 n a1 a2 : Nat} {left : Lit → Bool} {ig dg : Nat → Nat} (h : Oc w0 s g0 left ig dg wr) (k5 : Kp [] wr w5) (hg0 : g0 < wr.heap.size) (hw : w0.heap.size ≤ wr.heap.size)
    (r1 : Ro 3 .i64 w5 a1 (s.R n)) (z1 : wr.heap.size ≤ a1) (r2 : Ro 31 .u64 w5 a2 (s.D n)) (z2 : wr.heap.size ≤ a2) : Oc w0 s g0 (fun z => left z && !z.sameKey (.int .i64 n)) (up ig n a1) (up dg n a2) w5 := by
  have old : ∀ k : Nat, k ≠ n → (left (.int .i64 (k : Int)) && !(Lit.int .i64 (k : Int)).sameKey (.int .i64 (n : Int))) = false → left (.int .i64 (k : Int)) = false := fun k hk e => by simpa [sk_other hk] using e
  refine ⟨fun k a b c => ?_, fun k a b c => ?_, fun k j a b c a' b' c' e => ?_, fun k j a b c a' b' c' e => ?_, fun k a b c => ?_⟩
  · by_cases e : k = n
    · subst e; rw [up_same]; exact ⟨r1, by omega⟩
    · rw [up_other _ _ e]
      have := h.ri k a b (old k e c)
      exact ⟨this.1.keep0 k5, this.2⟩
  · by_cases e : k = n
    · subst e; rw [up_same]; exact ⟨r2, by omega⟩
    · rw [up_other _ _ e]
      have := h.rd k a b (old k e c)
      exact ⟨this.1.keep0 k5, this.2⟩
  · by_cases e1 : k = n <;> by_cases e2 : j = n
    · omega
    · subst e1
      rw [up_same, up_other _ _ e2] at e
      have := (h.ri j a' b' (old j e2 c')).1.lt
      omega
    · subst e2
      rw [up_same, up_other _ _ e1] at e
      have := (h.ri k a b (old k e1 c)).1.lt
      omega
    · rw [up_other _ _ e1, up_other _ _ e2] at e
      exact h.ai k j a b (old k e1 c) a' b' (old j e2 c') e
  · by_cases e1 : k = n <;> by_cases e2 : j = n
    · omega
    · subst e1
      rw [up_same, up_other _ _ e2] at e
      have := (h.rd j a' b' (old j e2 c')).1.lt
      omega
    · subst e2
      rw [up_same, up_other _ _ e1] at e
      have := (h.rd k a b (old k e1 c)).1.lt
      omega
    · rw [up_other _ _ e1, up_other _ _ e2] at e
      exact h.ad k j a b (old k e1 c) a' b' (old j e2 c') e
  · by_cases e1 : k = n
    · subst e1; rw [up_same]; omega
    · rw [up_other _ _ e1]
      exact h.a0 k a b (old k e1 c)

/-- A copy whose objects are under way. -/
def Cm (w0 : World) (s : Gs) (p B g0 c0 : Nat) (v : Value) (us : List Nat) (c : Nat) (left : Lit → Bool) (wr : World) : Prop :=
  Cl w0 s p B g0 c0 v us wr ∧ ∃ ig ic dg dc, Mq wr B c s.m left (obj ig ic dg dc s.R s.D) ∧ Oc w0 s g0 left ig dg wr
theorem obj_up (ig ic dg dc : Nat → Nat) (R D : Nat → List Int) (n a1 e1 a2 e2 : Nat) : up (obj ig ic dg dc R D) n (.agg #[.slice (some ⟨a1, 0, none⟩) (R n).length e1, .slice (some ⟨a2, 0, none⟩) (D n).length e2]) = obj (up ig n a1) (up ic n e1) (up dg n a2) (up dc n e2) R D := by
  funext k
  by_cases e : k = n
  · subst e
    rw [up_same, obj, up_same, up_same, up_same, up_same]
  · rw [up_other _ _ e, obj, obj, up_other _ _ e, up_other _ _ e, up_other _ _ e, up_other _ _ e]

section
variable {w0 wr w2 w5 : World} {s : Gs} {p B g0 c0 c : Nat} {v : Value} {us : List Nat} {left : Lit → Bool}
theorem Cm.on (h : Cm w0 s p B g0 c0 v us c left wr) (k : Kp [] wr w2) : Cm w0 s p B g0 c0 v us c left w2 := by
  obtain ⟨h1, ig, ic, dg, dc, h2, h3⟩ := h
  exact ⟨h1.on k, ig, ic, dg, dc, h2.keep k (by simp), h3.keep k (by simp)⟩
theorem Cm.keep {S : List Nat} (h : Cm w0 s p B g0 c0 v us c left wr) (k : Kp S wr w2) (hS : ∀ b ∈ S, NoCells wr b) (hB : ∀ b ∈ S, w0.heap.size ≤ b) (hn : B ∉ S) : Cm w0 s p B g0 c0 v us c left w2 := by
  obtain ⟨h1, ig, ic, dg, dc, h2, h3⟩ := h
  exact ⟨h1.keep k hS hB, ig, ic, dg, dc, h2.keep k hn, h3.keep k hS⟩
theorem Cm.isMap (h : Cm w0 s p B g0 c0 v us c left wr) : IsMapB wr B := by
  obtain ⟨h1, ig, ic, dg, dc, h2, h3⟩ := h
  exact h2.isMap
/-- An object's copy is put. -/
theorem Cm.put (h : Cm w0 s p B g0 c0 v us c left wr) (k5 : Kp [] wr w5) {n n1 n2 a1 e1 a2 e2 : Nat} (h1 : 1 ≤ n) (hn : n ≤ s.m) (hm : s.m ≤ 10000) (hc : c ≤ 10000) (l1 : (s.R n).length = n1) (l2 : (s.D n).length = n2)
    (r1 : Ro 3 .i64 w5 a1 (s.R n)) (z1 : wr.heap.size ≤ a1) (r2 : Ro 31 .u64 w5 a2 (s.D n)) (z2 : wr.heap.size ≤ a2) :
    ∃ w', (Instr.mapUpdate 51 (.map (some B)) (.int .i64 (n : Int)) (.agg #[.slice (some ⟨a1, 0, none⟩) n1 e1, .slice (some ⟨a2, 0, none⟩) n2 e2])).run Tryz.prog w5 = .ok () w' ∧
      Cm w0 s p B g0 c0 v us (c + 1) (fun z => left z && !z.sameKey (.int .i64 n)) w' ∧ Kp [B] w5 w' ∧ IsMapB w5 B := by
  subst l1 l2
  obtain ⟨hl, ig, ic, dg, dc, h2, h3⟩ := h
  have h2' := h2.keep k5 (by simp)
  have hB := h2'.isMap
  have hl5 := hl.on k5
  obtain ⟨w', hrun, hm', hk'⟩ := h2'.put h1 hn hm hc (.agg #[.slice (some ⟨a1, 0, none⟩) (s.R n).length e1, .slice (some ⟨a2, 0, none⟩) (s.D n).length e2])
  rw [obj_up] at hm'
  refine ⟨w', hrun, ⟨hl5.keep hk' (by simpa using hB.no) (by simpa using hl.lo.2.1), _, _, _, _, hm', ((h3.step k5 hl.hg.lt hl.kp.size r1 z1 r2 z2).keep hk' (by simpa using hB.no))⟩, hk', hB⟩
/-- All is copied. -/
theorem Cm.gy (h : Cm w0 s p B g0 c0 v us c left wr) (hu : us.length = s.nt) (h1 : 1 ≤ s.nt) (hc : c ≤ s.m) (hl : ∀ l, left l = false) : Gx (fun b => w0.heap.size ≤ b ∧ b < wr.heap.size) wr p s := by
  obtain ⟨hC, ig, ic, dg, dc, h2, h3⟩ := h
  have hm := h2.done hc hl
  rcases hC.own.2 with ⟨_, h0⟩ | ⟨tb, tc, cur, e, hge, hb, k1, k2, k3, k4⟩
  · omega
  have hown := hC.own
  subst e
  have hy : Gy wr p s ⟨tb, tc, B, fun i => us.getD i 0, up ig 0 g0, up ic 0 c0, dg, dc⟩ := by
    refine ⟨?_, ⟨cur, hb, fun i hi => ?_⟩, fun i hi => hC.hq i (by omega), fun n hn => ?_, fun n n1 hn => (h3.rd n n1 hn (hl _)).1, hm.congr fun n n1 hn => ?_, fun i j hi hj e => hC.nd i j (by omega) (by omega) e, fun n k hn hk e => ?_, fun n k n1 hn k1 hk e => h3.ad n k n1 hn (hl _) k1 hk (hl _) e⟩
    · rw [hC.hp, hu]
      simp [up_same]
    · have hi' : i < us.length := by omega
      have := ptrs_get us i hi'
      rw [← k4, Nat.mul_one, List.getElem?_take_of_lt hi'] at this
      simpa using this
    · by_cases e : n = 0
      · subst e
        show Ro _ _ _ (up ig 0 g0 0) _
        rw [up_same]; exact hC.hg
      · show Ro _ _ _ (up ig 0 g0 n) _
        rw [up_other _ _ e]
        exact (h3.ri n (by omega) hn (hl _)).1
    · show obj ig ic dg dc s.R s.D n = obj (up ig 0 g0) (up ic 0 c0) dg dc s.R s.D n
      rw [obj, obj, up_other _ _ (by omega), up_other _ _ (by omega)]
    · have e : up ig 0 g0 n = up ig 0 g0 k := e
      by_cases e1 : n = 0 <;> by_cases e2 : k = 0
      · omega
      · subst e1
        rw [up_same, up_other _ _ e2] at e
        exact absurd e.symm (h3.a0 k (by omega) hk (hl _))
      · subst e2
        rw [up_same, up_other _ _ e1] at e
        exact absurd e (h3.a0 n (by omega) hn (hl _))
      · rw [up_other _ _ e1, up_other _ _ e2] at e
        exact h3.ai n k (by omega) hn (hl _) (by omega) hk (hl _) e
  refine ⟨_, hy, fun b hbb => ⟨?_, hy.lt hbb⟩⟩
  rcases hbb with rfl | rfl | rfl | ⟨i, hi, rfl⟩ | ⟨n, hn, rfl⟩ | ⟨n, n1, hn, rfl⟩
  · exact hC.lo.1
  · exact hge
  · exact hC.lo.2.1
  · exact hC.lo.2.2.2 i (by omega)
  · by_cases e : n = 0
    · subst e
      show _ ≤ up ig 0 g0 0
      rw [up_same]; exact hC.lo.2.2.1
    · show _ ≤ up ig 0 g0 n
      rw [up_other _ _ e]
      exact (h3.ri n (by omega) hn (hl _)).2
  · exact (h3.rd n n1 hn (hl _)).2
end

end Go.Proofs.YtmbhhadghiojeaaGreat
