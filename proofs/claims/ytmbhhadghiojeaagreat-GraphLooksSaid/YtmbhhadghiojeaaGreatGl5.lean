/- A graph's copy under way: its roots, its map. Conditions: as each theorem states them. -/
import Derived.Test.YtmbhhadghiojeaaGreatGl4
import Derived.Maps.RangeWalk
namespace Go.Proofs.YtmbhhadghiojeaaGreat
set_option linter.unusedVariables false
set_option linter.unusedSimpArgs false
open Go.RowKit Go.Maps

/-! ### a map with so many keys -/
/-- Each key is one that can be found again. -/
def Finds {H : Type} (D : DataW H) : Prop := ∀ es, D = .map es → ∀ p ∈ es, p.1.sameKey p.1 = true
theorem Finds.del {H : Type} {D : DataW H} (h : Finds D) (k : Lit) : Finds (D.del k) := by
  intro es he p hp
  cases D with
  | map es0 =>
    have e : (DataW.map es0 : DataW H).del k = .map (es0.filter fun p => !p.1.sameKey k) := rfl
    rw [e] at he
    cases he
    exact h es0 rfl p (List.mem_filter.1 hp).1
  | _ => first | (cases he) | (exact h _ he p hp)
/-- A map that reads so has as many keys. -/
theorem size_keys {H : Type} : ∀ (xs : List Int) (D : DataW H), Tidy D → Finds D → xs.Nodup → (∀ k : Lit, Maps.has D k = true ↔ ∃ x ∈ xs, k = .int .i64 x) → Maps.size D = xs.length
  | [], D, ht, hf, _, h => by
    obtain ⟨es, rfl, hp⟩ := ht
    cases es with
    | nil => rfl
    | cons p es =>
      exfalso
      have h1 : Maps.has (DataW.map (p :: es) : DataW H) p.1 = true := by
        rw [has_eq]
        exact List.any_eq_true.2 ⟨p, List.mem_cons_self, hf _ rfl p List.mem_cons_self⟩
      obtain ⟨x, hx, _⟩ := (h _).1 h1
      simp at hx
  | x :: xs, D, ht, hf, hn, h => by
    rw [List.nodup_cons] at hn
    have hx : Maps.has D (.int .i64 x) = true := (h _).2 ⟨x, List.mem_cons_self, rfl⟩
    have h2 := size_keys xs (D.del (.int .i64 x)) (ht.del _) (hf.del _) hn.2 (fun k => by
      by_cases e : k = .int .i64 x
      · subst e
        rw [has_del_same]
        constructor
        · intro q; cases q
        · rintro ⟨y, hy, e⟩
          injection e with _ e
          exact absurd (e ▸ hy) hn.1
      · rw [has_del_other e, h k]
        constructor
        · rintro ⟨y, hy, rfl⟩
          rcases List.mem_cons.1 hy with rfl | hy
          · exact absurd rfl e
          · exact ⟨y, hy, rfl⟩
        · rintro ⟨y, hy, rfl⟩
          exact ⟨y, List.mem_cons_of_mem _ hy, rfl⟩)
    have h3 := size_del ht (k := .int .i64 x)
    rw [hx, if_pos rfl, h2] at h3
    rw [List.length_cons]; exact h3.symm


/-! ### the copy of the roots -/
/-- A copy, under way: so many threads' roots are copied. -/
structure Cl (w0 : World) (s : Gs) (p B g0 c0 : Nat) (v : Value) (us : List Nat) (wr : World) : Prop where
  hp : wr.heap[p]? = some (.cells #[v, .slice (some ⟨g0, 0, none⟩) (s.R 0).length c0, .map (some B)] 54 (0, 0))
  own : wr.ownsRow w0.heap.size 55 1 v us.length (ptrs us)
  hq : ∀ i, i < us.length → Rt wr (us.getD i 0) (s.A i) (s.L i)
  nd : ∀ i j, i < us.length → j < us.length → us.getD i 0 = us.getD j 0 → i = j
  hg : Ro 3 .i64 wr g0 (s.R 0)
  kp : Kp [] w0 wr
  lo : w0.heap.size ≤ p ∧ w0.heap.size ≤ B ∧ w0.heap.size ≤ g0 ∧ ∀ i, i < us.length → w0.heap.size ≤ us.getD i 0
def IsMapB (w : World) (B : Nat) : Prop := ∃ es clock, w.heap[B]? = some (.map es clock)
theorem IsMapB.ne {w : World} {B b : Nat} {cs : Array Value} {t : TypeId} {fr : Nat × Nat} (h : IsMapB w B) (hb : w.heap[b]? = some (.cells cs t fr)) : b ≠ B := by
  obtain ⟨_, _, hm⟩ := h
  intro e; subst e
  have := hm.symm.trans hb
  simp at this
/-- No block of cells. -/
def NoCells (w : World) (b : Nat) : Prop := ∀ cs t fr, w.heap[b]? ≠ some (.cells cs t fr)
theorem IsMapB.no {w : World} {B : Nat} (h : IsMapB w B) : NoCells w B := fun cs t fr hc => h.ne hc rfl
theorem NoCells.nin {w : World} {S : List Nat} (h : ∀ b ∈ S, NoCells w b) {x : Nat} {cs : Array Value} {t : TypeId} {fr : Nat × Nat} (hx : w.heap[x]? = some (.cells cs t fr)) : x ∉ S := fun e => h x e _ _ _ hx

section
variable {w0 wr w2 w5 w6 : World} {s : Gs} {p B g0 c0 : Nat} {v : Value} {us : List Nat}
theorem Cl.blk (h : Cl w0 s p B g0 c0 v us wr) : ∀ g ∈ blk v, w0.heap.size ≤ g ∧ ∃ cur, wr.heap[g]? = some (.cells cur 55 (0, 0)) := by
  intro y hy
  rcases h.own.2 with ⟨rfl, _⟩ | ⟨g, c, cur, rfl, hge, hg, _⟩
  · simp [blk_nil] at hy
  · rw [blk_some, List.mem_singleton] at hy
    subst hy
    exact ⟨hge, cur, hg⟩
theorem Cl.form (h : Cl w0 s p B g0 c0 v us wr) : ∃ ao cap, v = .slice ao us.length cap := by
  rcases h.own.2 with ⟨rfl, h0⟩ | ⟨g, c, cur, rfl, _⟩
  · exact ⟨none, 0, by rw [h0]⟩
  · exact ⟨_, c, rfl⟩
theorem Cl.keep {S : List Nat} (h : Cl w0 s p B g0 c0 v us wr) (k : Kp S wr w2) (hS : ∀ b ∈ S, NoCells wr b) (hB : ∀ b ∈ S, w0.heap.size ≤ b) : Cl w0 s p B g0 c0 v us w2 := by
  have nb : ∀ {x : Nat} {cs : Array Value} {t : TypeId}, wr.heap[x]? = some (.cells cs t (0, 0)) → x ∉ S := fun hx => NoCells.nin hS hx
  refine ⟨k.row (nb h.hp) h.hp, ⟨h.own.1, ?_⟩, fun i hi => (h.hq i hi).keep k ?_, h.nd, h.hg.keep k ?_, (kp_then h.kp k).mono fun x hx hlt => ?_, h.lo⟩
  · rcases h.own.2 with h0 | ⟨g, c, cur, rfl, hge, hg', r⟩
    · exact .inl h0
    · exact .inr ⟨g, c, cur, rfl, hge, k.row (nb hg') hg', r⟩
  · obtain ⟨cs, hc⟩ := (h.hq i hi).row
    exact nb hc
  · obtain ⟨cs, hc, _⟩ := h.hg
    exact nb hc
  · have := hB x hx
    omega
theorem Cl.on (h : Cl w0 s p B g0 c0 v us wr) (k : Kp [] wr w2) : Cl w0 s p B g0 c0 v us w2 := by
  refine ⟨k.row (by simp) h.hp, ⟨h.own.1, ?_⟩, fun i hi => (h.hq i hi).keep0 k, h.nd, h.hg.keep0 k, h.kp.trans k, h.lo⟩
  rcases h.own.2 with h0 | ⟨g, c, cur, rfl, hge, hg', r⟩
  · exact .inl h0
  · exact .inr ⟨g, c, cur, rfl, hge, k.row (by simp) hg', r⟩
/-- One more. -/
theorem Cl.more (h : Cl w0 s p B g0 c0 v us wr) {q : Nat} (hR : Rt wr q (s.A us.length) (s.L us.length)) (hq0 : w0.heap.size ≤ q) (hqn : ∀ i, i < us.length → us.getD i 0 ≠ q) {v' : Value}
    (hown : w2.ownsRow w0.heap.size 55 1 v' (us ++ [q]).length (ptrs (us ++ [q]))) (k : Kp (Go.Proofs.YtmbhhadghiojeaaGreat.blk v) wr w2) :
    w2.heap[p]? = some (.cells #[v, .slice (some ⟨g0, 0, none⟩) (s.R 0).length c0, .map (some B)] 54 (0, 0)) ∧ Cl w0 s p B g0 c0 v' (us ++ [q]) (w2.setCell ⟨p, 0, none⟩ v') := by
  have hpn : p ∉ Go.Proofs.YtmbhhadghiojeaaGreat.blk v := fun e => by
    obtain ⟨_, cur, hc⟩ := h.blk p e
    exact ne_types hc h.hp (by decide) rfl
  have hp2 := k.row hpn h.hp
  have k1 : Kp [p] w2 (w2.setCell ⟨p, 0, none⟩ v') := (Kp.refl _ _).setCell (.inl (by simp)) _
  have rn : ∀ {b A L}, Rt wr b A L → b ∉ Go.Proofs.YtmbhhadghiojeaaGreat.blk v := fun hb e => by
    obtain ⟨cs, hc⟩ := hb.row
    obtain ⟨_, cur, hc2⟩ := h.blk _ e
    exact ne_types hc hc2 (by decide) rfl
  have rp : ∀ {b A L}, Rt wr b A L → b ∉ [p] := fun hb => by
    obtain ⟨cs, hc⟩ := hb.row
    simpa using ne_types hc h.hp (by decide)
  have gn : g0 ∉ Go.Proofs.YtmbhhadghiojeaaGreat.blk v := fun e => by
    obtain ⟨_, cur, hc⟩ := h.blk _ e
    exact h.hg.ne hc (by decide) rfl
  refine ⟨hp2, ?_, ⟨hown.1, ?_⟩, fun i hi => ?_, fun i j hi hj e => ?_, (h.hg.keep k gn).keep k1 (by simpa using h.hg.ne h.hp (by decide)), ?_, h.lo.1, h.lo.2.1, h.lo.2.2.1, fun i hi => ?_⟩
  · rw [heap_setCell_same _ _ _ _ _ _ hp2]; rfl
  · rcases hown.2 with ⟨rfl, h0⟩ | ⟨g, c, cur, rfl, hge, hg', r⟩
    · simp at h0
    · exact .inr ⟨g, c, cur, rfl, hge, k1.row (by simpa using ne_types hg' hp2 (by decide)) hg', r⟩
  · by_cases e : i < us.length
    · rw [show (us ++ [q]).getD i 0 = us.getD i 0 from by simp [List.getD, List.getElem?_append_left e]]
      exact ((h.hq i e).keep k (rn (h.hq i e))).keep k1 (rp (h.hq i e))
    · have : i = us.length := by simp at hi; omega
      rw [show (us ++ [q]).getD i 0 = q from by subst this; simp [List.getD]]
      subst this
      exact (hR.keep k (rn hR)).keep k1 (rp hR)
  · have g : ∀ i, i < (us ++ [q]).length → (i < us.length ∧ (us ++ [q]).getD i 0 = us.getD i 0) ∨ (i = us.length ∧ (us ++ [q]).getD i 0 = q) := fun i hi => by
      by_cases e : i < us.length
      · exact .inl ⟨e, by simp [List.getD, List.getElem?_append_left e]⟩
      · have : i = us.length := by simp at hi; omega
        exact .inr ⟨this, by subst this; simp [List.getD]⟩
    rcases g i hi with ⟨a, ea⟩ | ⟨a, ea⟩ <;> rcases g j hj with ⟨b, eb⟩ | ⟨b, eb⟩ <;> rw [ea, eb] at e
    · exact h.nd i j a b e
    · exact absurd e (hqn i a)
    · exact absurd e.symm (hqn j b)
    · omega
  · have k2 : Kp (p :: Go.Proofs.YtmbhhadghiojeaaGreat.blk v) wr (w2.setCell ⟨p, 0, none⟩ v') := (k.mono (by simp +contextual)).trans (k1.mono (by simp))
    exact ((h.kp.mono (by simp)).trans k2).mono fun y hy hlt => by
      rw [List.mem_cons] at hy
      rcases hy with rfl | hy
      · have := h.lo.1; omega
      · have := (h.blk y hy).1; omega
  · by_cases e : i < us.length
    · rw [show (us ++ [q]).getD i 0 = us.getD i 0 from by simp [List.getD, List.getElem?_append_left e]]
      exact h.lo.2.2.2 i e
    · have : i = us.length := by simp at hi; omega
      rw [show (us ++ [q]).getD i 0 = q from by subst this; simp [List.getD]]
      exact hq0
end


section
variable {w w' : World} {B c m : Nat} {left : Lit → Bool} {f : Nat → Value}
/-- Block B is a map of the numbers from 1 to m that are not left, f of each. -/
def Mq (w : World) (B c m : Nat) (left : Lit → Bool) (f : Nat → Value) : Prop :=
  ∃ D : DataW Value, w.ownsMap Tryz.prog 3 heldR B c D ∧ (∀ l, Maps.has D l = true → ∃ n : Nat, 1 ≤ n ∧ n ≤ m ∧ l = .int .i64 n) ∧ (∀ n : Nat, 1 ≤ n → n ≤ m → Maps.has D (.int .i64 n) = !left (.int .i64 n)) ∧ ∀ n : Nat, 1 ≤ n → n ≤ m → left (.int .i64 n) = false → ∀ z, D.atKey (.int .i64 n) z = .held (f n)
theorem Mq.isMap (h : Mq w B c m left f) : IsMapB w B := by
  obtain ⟨D, ⟨es, clock, hb, _⟩, _⟩ := h
  exact ⟨es, clock, hb⟩
theorem Mq.keep {S : List Nat} (h : Mq w B c m left f) (k : Kp S w w') (hB : B ∉ S) : Mq w' B c m left f := by
  obtain ⟨D, ⟨es, clock, hb, r⟩, h2⟩ := h
  exact ⟨D, ⟨es, clock, k.row hB hb, r⟩, h2⟩
theorem Mq.start {f0 : Nat → Value} (h : Mo w B 0 f0) (hl : ∀ n : Nat, 1 ≤ n → n ≤ m → left (.int .i64 n) = true) : Mq w B 0 m left f := by
  obtain ⟨D, ho, h2, h3, h4, h5⟩ := h
  have no : ∀ l, Maps.has D l = false := fun l => Bool.eq_false_iff.2 fun hh => by
    obtain ⟨n, a, b, _⟩ := h3 _ hh
    omega
  exact ⟨D, ho, fun l hh => (by rw [no] at hh; cases hh), fun n a b => by rw [no, hl n a b]; rfl, fun n a b hh => by rw [hl n a b] at hh; cases hh⟩
theorem Mq.put (h : Mq w B c m left f) {n : Nat} (h1 : 1 ≤ n) (hn : n ≤ m) (hm : m ≤ 10000) (hc : c ≤ 10000) (u : Value) :
    ∃ w', (Instr.mapUpdate 51 (.map (some B)) (.int .i64 (n : Int)) u).run Tryz.prog w = .ok () w' ∧ Mq w' B (c + 1) m (fun z => left z && !z.sameKey (.int .i64 n)) (up f n u) ∧ Kp [B] w w' := by
  obtain ⟨D, ho, h3, h4, h5⟩ := h
  have hw : (Lit.int .i64 (n : Int)).wf = true := wf_nat (by omega)
  obtain ⟨w', hrun, ho', hg⟩ := ho.update (val := u) (d := .held u) (ps := []) kint Tryz.underlying51 (by unfold maxLen; omega) (keyOf_int_mk Tryz.underlying3 hw) rfl
  have hkl : WideAt.IsKeyLit (.int .i64 (n : Int)) := trivial
  have sk : ∀ k : Nat, k ≠ n → (Lit.int .i64 (k : Int)).sameKey (.int .i64 (n : Int)) = false := fun k hk => Bool.eq_false_iff.2 fun e => by
    have := WideAt.sameKey_eq e
    injection this with _ q
    omega
  have ss : (Lit.int .i64 (n : Int)).sameKey (.int .i64 (n : Int)) = true := WideAt.sameKey_self hkl
  refine ⟨w', hrun, ⟨_, ho', fun l hl => ?_, fun k a b => ?_, fun k a b hl z => ?_⟩, (Kp.refl [B] w).grown hg (fun j hj => by cases hj; simp)⟩
  · by_cases e : l = .int .i64 (n : Int)
    · exact ⟨n, h1, hn, e⟩
    · rw [has_put_other e] at hl
      exact h3 _ hl
  · by_cases e : k = n
    · subst e
      rw [has_put_same ho.isMap hkl _]
      simp [ss]
    · rw [has_put_other (by intro q; injection q with _ q; omega), h4 k a b]
      simp [sk k e]
  · by_cases e : k = n
    · subst e
      rw [up_same]
      exact atKey_put_same ho.isMap hkl _ _
    · rw [up_other _ _ e, atKey_put_other (by intro q; injection q with _ q; omega)]
      refine h5 k a b ?_ z
      simpa [sk k e] using hl
theorem Mq.done (h : Mq w B c m left f) (hc : c ≤ m) (hl : ∀ l, left l = false) : Mo w B m f := by
  obtain ⟨D, ho, h3, h4, h5⟩ := h
  have hs : Maps.size D = m := by
    have := size_keys ((List.range m).map fun i => ((i + 1 : Nat) : Int)) D (ho.tidy kint) ?_ ?_ fun l => ?_
    · simpa using this
    · obtain ⟨es, rfl, _, hk⟩ := ho.entries kint
      intro es' e p hp
      cases e
      exact WideAt.sameKey_self (hk p hp)
    · rw [List.nodup_iff_pairwise_ne]
      refine List.pairwise_map.2 (List.nodup_range.imp fun {a b} h e => h ?_)
      omega
    · constructor
      · intro hh
        obtain ⟨n, a, b, rfl⟩ := h3 _ hh
        refine ⟨n, List.mem_map.2 ⟨n - 1, List.mem_range.2 (by omega), ?_⟩, rfl⟩
        rw [show n - 1 + 1 = n from by omega]
      · rintro ⟨x, hx, rfl⟩
        obtain ⟨i, hi, rfl⟩ := List.mem_map.1 hx
        rw [List.mem_range] at hi
        rw [h4 (i + 1) (by omega) (by omega), hl]; rfl
  exact ⟨D, ho.mono hc, hs, h3, fun n a b => by rw [h4 n a b, hl]; rfl, fun n a b z => h5 n a b (hl _) z⟩
end

end Go.Proofs.YtmbhhadghiojeaaGreat
