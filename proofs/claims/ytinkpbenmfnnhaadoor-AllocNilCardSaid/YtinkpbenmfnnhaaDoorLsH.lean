/- The walk of Has: each row of the list is asked. Conditions: as each theorem states them. -/
import Derived.Test.YtinkpbenmfnnhaaDoorLsR
namespace Go.Proofs.YtinkpbenmfnnhaaDoor.Li
set_option linter.unusedVariables false
set_option linter.unusedSimpArgs false
open Go.RowKit Go.Shelf
attribute [local go_sem] Oper.semAt_some

/-- Whether x is in a row. -/
def inR (x : Int) (xs : List Int) : Bool := xs.any fun y => x == y
/-- Whether x is in one of the first k rows. -/
def inK (R : Nat → List Int) (x : Int) : Nat → Bool
  | 0 => false
  | k + 1 => inK R x k || inR x (R k)
def hasB (R : Nat → List Int) (x : Int) : Bool := inK R x 4

/-- A relation that speaks of blocks of cells, and of what lies below B, abides the loop's own turns. -/
theorem kp_putOwn {S : List Nat} {B : Nat} {w W W' : World} {row : Option Nat} (h : Kp S w W) (hw : w.heap.size ≤ B) (hg : W.grownBy W' row) (hr : ∀ r, row = some r → B ≤ r ∧ ∃ o : Obj, W.heap[r]? = some o ∧ o.isCells = false) : Kp S w W' :=
  h.grown hg fun k e => .inr (by have := (hr k e).1; omega)
theorem row_putOwn {B : Nat} {W W' : World} {row : Option Nat} {b : Nat} {cs : Array Value} {t : TypeId} {fr : Nat × Nat} (h : W.heap[b]? = some (.cells cs t fr)) (hg : W.grownBy W' row) (hr : ∀ r, row = some r → B ≤ r ∧ ∃ o : Obj, W.heap[r]? = some o ∧ o.isCells = false) : W'.heap[b]? = some (.cells cs t fr) := by
  refine (hg.block b (lt_of_block h) ?_).trans h
  intro e
  obtain ⟨_, o, ho, hc⟩ := hr b e.symm
  rw [h] at ho
  cases ho
  simp [Obj.isCells] at hc
theorem Rw.putOwn {B : Nat} {W W' : World} {row : Option Nat} {v : Value} {xs : List Int} (h : Rw W v xs) (hg : W.grownBy W' row) (hr : ∀ r, row = some r → B ≤ r ∧ ∃ o : Obj, W.heap[r]? = some o ∧ o.isCells = false) : Rw W' v xs := by
  rcases h with h | ⟨g, cap, cur, rfl, h1, r⟩
  · exact .inl h
  · exact .inr ⟨g, cap, cur, rfl, row_putOwn h1 hg hr, r⟩
theorem Ls.putOwn {B p : Nat} {vs : Nat → Value} {R : Nat → List Int} {W W' : World} {row : Option Nat} (h : Ls W p vs R) (hg : W.grownBy W' row) (hr : ∀ r, row = some r → B ≤ r ∧ ∃ o : Obj, W.heap[r]? = some o ∧ o.isCells = false) : Ls W' p vs R :=
  ⟨row_putOwn h.hp hg hr, fun c hc => (h.rw c hc).putOwn hg hr, h.ap⟩
theorem keepsFrom_kp {S : List Nat} {B : Nat} {W W' : World} (k : Kp S W W') (hS : ∀ x ∈ S, ∀ o, W.heap[x]? = some o → o.isCells = true) : KeepsFrom B W W' :=
  ⟨k.size, fun i o _ hi ho => k.row (fun e => by have := hS i e o hi; rw [this] at ho; cases ho) hi⟩

/-- What is so between two rounds of Has. -/
structure HasI (p : Nat) (vs : Nat → Value) (R : Nat → List Int) (x : Int) (w : World) (k : Nat) (W : World) : Prop where
  ls : Ls W p vs R
  hx : W.heap[w.heap.size]? = some (.cells #[.int .i64 x] 3 (0, 0))
  hr : W.heap[w.heap.size + 1]? = some (.cells #[.bool false] 4 (0, 0))
  kp : Kp [] w W
  no : inK R x k = false
structure HasX (R : Nat → List Int) (x : Int) (w W : World) : Prop where
  hr : W.heap[w.heap.size + 1]? = some (.cells #[.bool true] 4 (0, 0))
  kp : Kp [] w W
  yes : hasB R x = true

theorem inK_mono {R : Nat → List Int} {x : Int} {k : Nat} (h : inK R x k = true) : ∀ j, k ≤ j → inK R x j = true := by
  intro j hj
  induction j with
  | zero => obtain rfl : k = 0 := by omega
            exact h
  | succ j ih =>
    by_cases e : k = j + 1
    · subst e; exact h
    · rw [inK, ih (by omega)]; rfl

set_option maxRecDepth 100000 in
theorem has_any (w : World) (p : Nat) (vs : Nat → Value) (R : Nat → List Int) (x : Int) (h : Ls w p vs R) (hn : ∀ c, c < 4 → (R c).length ≤ 1000) :
    Calls Tryd.prog 62 #[.pointer (some ⟨p, 0, none⟩), .int .i64 x] w fun e w' => e = .returned (.bool (hasB R x)) ∧ Kp [] w w' := by
  refine (callsIn_wide (n := 3)).1 ?_
  refine callsIn_of_wp_marks Tryd.func62 rfl trivial ?_ rfl
  simp only [Tryd.ntmps62, List.size_toArray, List.length_cons, List.length_nil, Nat.reduceAdd, Nat.reduceSub, Array.replicate_succ, Array.replicate_zero, List.push_toArray, List.append_toArray, List.nil_append, List.cons_append]
  have hmf : ∀ (fn : Fn) (first cap : Array Value) (w : World), (Instr.makeFunc fn first cap).run Tryd.prog w = .ok (.func fn first cap) w := fun _ _ _ _ => rfl
  gi_wp2
  have hk0 : Kp [] w ((w.alloc (.cells #[.int .i64 x] 3)).alloc (.cells #[.bool false] 4)) := ((Kp.refl _ _).alloc _).alloc _
  have b0 := heap_alloc2_old w (.cells #[.int .i64 x] 3) (.cells #[.bool false] 4)
  have b1 := heap_alloc2_new w (.cells #[.int .i64 x] 3) (.cells #[.bool false] 4)
  refine range_rows rfl (by omega) trivial p rfl rfl (fun k W => HasI p vs R x w k W) (fun W => HasX R x w W)
    (fun s A B row hs hg hr => ⟨hs.ls.putOwn hg hr, row_putOwn hs.hx hg hr, row_putOwn hs.hr hg hr, kp_putOwn hs.kp (by simp; omega) hg hr, hs.no⟩)
    (fun s A B row hs hg hr => ⟨row_putOwn hs.hr hg hr, kp_putOwn hs.kp (by simp; omega) hg hr, hs.yes⟩)
    ⟨h.keep0 hk0, b0, b1, hk0, rfl⟩
    (fun k => { tmps := #[.pointer (some ⟨p, 0, none⟩), .int .i64 x, undef, .pointer (some ⟨w.heap.size, 0, none⟩), .pointer (some ⟨w.heap.size + 1, 0, none⟩), .pointer (some ⟨p, k, none⟩), .pointer (some ⟨p, 0, none⟩), .func (.func 76) #[.pointer (some ⟨p, 0, none⟩)] #[], .pointer (some ⟨p, k, none⟩), undef, undef, undef, undef, undef], defers := [] }) ?assign ?body ?done ?stop
  case assign =>
    intro l k W K hK
    gi_wp2
    exact hK
  case body =>
    intro l k W hk hI
    have hcv := hI.ls.cell hk
    have hcx := cell_of_one hI.hx
    have hcr := cell_of_one hI.hr
    have hfr := free_of_one hI.hr
    have hcon : ∀ W', Kp [] W W' → Calls Tryd.prog 77 #[vs k, .int .i64 x] W' fun e w2 => e = .returned (.bool (inR x (R k))) ∧ w2 = W' := fun W' hk' => contains_any W' (vs k) (R k) x ((hI.ls.rw k hk).keep0 hk') (hn k hk)
    have HI := Lib.hid hI
    clear hI hn h hk0 b0 b1 hmf
    obtain ⟨b, hb⟩ : ∃ b, b = inR x (R k) := ⟨_, rfl⟩
    have HB := Lib.hid hb
    rw [← hb] at hcon
    clear hb
    have hmx : Tryd.prog.follows .mixedOrders = true := by kernel_rfl
    cases b with
    | true =>
      gi_wp2
      gi_region_with_o (refine ⟨trivial, ?_⟩; gi_at_call 77; refine (CallsIn.inRound l (callsIn_wide.2 (hcon _ (by first | exact (Kp.refl _ _).drew | exact kp_drewN _ _)))).mono ?_; rintro e w' ⟨rfl, rfl⟩)
      all_goals gi_wp2
      all_goals (
        have hkd : Kp [] W W.drew := (Kp.refl _ _).drew
        have hrd := hkd.row (by simp) HI.out.hr
        have hks : Kp [w.heap.size + 1] W.drew (W.drew.setCell ⟨w.heap.size + 1, 0, none⟩ (.bool true)) := (Kp.refl _ _).setCell (.inl (by simp)) _
        refine ⟨keepsFrom_kp ((hkd.mono (by simp)).trans hks) (fun y hy o ho => ?_), one_setCell hrd, ?_, ?_⟩
        · rw [List.mem_singleton] at hy
          subst hy
          rw [HI.out.hr] at ho
          cases ho; rfl
        · exact HI.out.kp.drew.setCell (.inr (by simp)) _
        · exact inK_mono (k := k + 1) (by rw [inK, ← HB.out]; simp) 4 (by omega))
    | false =>
      gi_wp2
      gi_region_with_o (refine ⟨trivial, ?_⟩; gi_at_call 77; refine (CallsIn.inRound l (callsIn_wide.2 (hcon _ (by first | exact (Kp.refl _ _).drew | exact kp_drewN _ _)))).mono ?_; rintro e w' ⟨rfl, rfl⟩)
      all_goals gi_wp2
      all_goals (
        have hkd : Kp [] W W.drew := (Kp.refl _ _).drew
        exact ⟨keepsFrom_kp hkd (by simp), HI.out.ls.keep0 hkd, hkd.row (by simp) HI.out.hx, hkd.row (by simp) HI.out.hr, HI.out.kp.trans hkd, by rw [inK, ← HB.out, HI.out.no]; rfl⟩)
  case done =>
    rintro D W hD hI hK
    have hcr := cell_of_one hI.hr
    have hfr := free_of_one hI.hr
    have HI := Lib.hid hI
    clear hI
    gi_wp2
    have hks : Kp [w.heap.size + 1] W (W.setCell ⟨w.heap.size + 1, 0, none⟩ (.bool false)) := (Kp.refl _ _).setCell (.inl (by simp)) _
    have hne : D ≠ w.heap.size + 1 := by simp at hD; omega
    have hK' := hks.row (by simpa using hne) hK
    refine ⟨by simp, .inl ⟨_, _, rfl, run_takeDeferred hK', ?_⟩⟩
    have hc5 := cell_kept (World.cell?_setCell_same' W ⟨w.heap.size + 1, 0, none⟩ (.bool false) (by rw [hcr]; rfl)) (grownBy_putObj' _ D (.deferred none)) (fun r e => by cases e; exact ⟨_, hK', rfl⟩)
    refine ⟨.bool false, ?_, by rw [hasB, HI.out.no], ?_⟩
    · simp [results, Tryd.f62, go_sem, hc5]
    · exact (HI.out.kp.setCell (.inr (by simp)) _).grown (grownBy_putObj' _ D _) (fun k e => by cases e; exact .inr (by simp at hD; omega))
  case stop =>
    rintro D W hD hI hK
    have hcr := cell_of_one hI.hr
    have HI := Lib.hid hI
    clear hI
    gi_wp2
    refine ⟨by simp, .inl ⟨_, _, rfl, run_takeDeferred hK, ?_⟩⟩
    have hc5 := cell_kept hcr (grownBy_putObj' _ D (.deferred none)) (fun r e => by cases e; exact ⟨_, hK, rfl⟩)
    refine ⟨.bool true, ?_, by rw [HI.out.yes], ?_⟩
    · simp [results, Tryd.f62, go_sem, hc5]
    · exact HI.out.kp.grown (grownBy_putObj' _ D _) (fun k e => by cases e; exact .inr (by simp at hD; omega))

end Go.Proofs.YtinkpbenmfnnhaaDoor.Li
