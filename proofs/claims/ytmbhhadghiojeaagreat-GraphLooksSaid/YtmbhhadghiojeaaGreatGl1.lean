/- Copies: of a row, of an object, of roots; Object, Own, Globals of a graph. Conditions: as each theorem states them. -/
import Derived.Test.YtmbhhadghiojeaaGreatGrR
import Derived.Test.YtmbhhadghiojeaaGreatGdN
import Derived.Deep.RegionHeld3
namespace Go.Proofs.YtmbhhadghiojeaaGreat
set_option linter.unusedVariables false
set_option linter.unusedSimpArgs false
open Go.RowKit Go.Maps

theorem eq_nil_u64 (g n c : Nat) (w : World) : (binOp .eql 73 (.slice (some ⟨g, 0, none⟩) n c) (.slice none 0 0)).run Tryz.prog w = .ok (.bool false) w := by kernel_rfl
theorem clone_u64 (w : World) (g c : Nat) (xs : List Int) (h : Ro 31 .u64 w g xs) (hl : xs.length ≤ 100000) :
    Calls Tryz.prog 89 #[.slice (some ⟨g, 0, none⟩) xs.length c] w (CloneIs 31 .u64 w xs) := by
  obtain ⟨i, hi, hz0, hz1, hz2⟩ := info_parts u64_info
  have ka : Kp [] w (w.alloc (.cells #[] 31)) := (Kp.refl _ _).alloc _
  have hown : (w.alloc (.cells #[] 31)).ownsRow w.heap.size 31 1 (.slice (some ⟨w.heap.size, 0, none⟩) 0 0) 0 [] := ⟨rfl, .inr ⟨w.heap.size, 0, #[], rfl, Nat.le_refl _, heap_alloc_new w _, Nat.le_refl _, by decide, rfl, rfl⟩⟩
  obtain ⟨v', w', hrun, r1, r2, r3⟩ := run_append_own (P := Tryz.prog) _ w.heap.size 73 73 31 i (.int .u64 0) 1 8 Tryz.underlying73 hi hz0 hz1 hz2 rfl (by decide) _ 0 [] hown ⟨g, 0, none⟩ xs.length c (xs.map (Value.int .u64)) (by simp) ((h.keep0 ka).news) (ones_k _ _) (by unfold maxLen; omega) (by omega) ka.size
  rw [Nat.zero_add, List.nil_append] at r1
  have hk : Kp [] w w' := (ka.mono (T := [w.heap.size]) (by simp)).trans (kp_of_row (v := .slice (some ⟨w.heap.size, 0, none⟩) 0 0) r2 |>.mono (by simp [blk_some])) |>.mono (by simp)
  have HE : Hid (∃ g c, v' = .slice (some ⟨g, 0, none⟩) xs.length c ∧ w.heap.size ≤ g ∧ w'.ownsRow w.heap.size 31 1 (.slice (some ⟨g, 0, none⟩) xs.length c) xs.length (xs.map (Value.int .u64)) ∧ Kp [] w w') := Lib.hid (by
    rcases r1.2 with ⟨e, _⟩ | ⟨g2, c2, cur, e, hge, _⟩
    · exact absurd (r3.1 e).1 (by simp)
    · subst e
      exact ⟨g2, c2, rfl, hge, r1, hk⟩)
  clear r1 r2 r3 hk hown ka h hi
  have hq := eq_nil_u64 g xs.length c
  generalize hn : xs.length = n at hrun HE hl hq
  have HN := Lib.hid hn
  clear hn
  go_enter Tryz.func89, Tryz.ntmps89
  go_wp2_with (at_builtin; refine wpList_append_eq rfl _ _ 73 rfl _ _ _ rfl rfl hrun ?_)
  obtain ⟨g', c', rfl, h1, h2, h3⟩ := HE.out
  have hn := HN.out
  subst hn
  go_ret
  exact ⟨g', c', rfl, h1, h2, h3⟩

/-- What a copy of a row answers. -/
def Cop (T : TypeId) (k : IntKind) (w : World) (xs : List Int) (n : Nat) (e : Ending) (w' : World) : Prop :=
  ∃ g c, e = .returned (.slice (some ⟨g, 0, none⟩) n c) ∧ (w.heap.size ≤ g ∧ Ro T k w' g xs ∧ n ≤ c) ∧ Kp [] w w'
theorem own_cap {w' : World} {T : TypeId} {g c n : Nat} {vs : List Value} {B : Nat} (h : w'.ownsRow B T 1 (.slice (some ⟨g, 0, none⟩) n c) n vs) : n ≤ c := by
  rcases h.2 with ⟨e2, _⟩ | ⟨g2, c2, cur, e2, hge, hg, h1, h2, h3, h4⟩
  · cases e2
  · simp only [Value.slice.injEq, Option.some.injEq, Addr.mk.injEq, true_and, and_true] at e2
    obtain ⟨rfl, rfl⟩ := e2
    exact h1
theorem CloneIs.cop {T : TypeId} {k : IntKind} {w w' : World} {xs : List Int} {n : Nat} {e : Ending} (hn : xs.length = n) (h : CloneIs T k w xs e w') : Cop T k w xs n e w' := by
  subst hn
  obtain ⟨g, c, rfl, h1, h2, h3⟩ := h
  exact ⟨g, c, rfl, ⟨h1, own_ro (w := w) h2, own_cap h2⟩, h3⟩

/-! ### an object -/
/-- What holds in each world behind the boxes. -/
def Ox (w0 : World) (u v : Value) (w' : World) : Prop :=
  w'.cell? ⟨w0.heap.size, 0, none⟩ = some u ∧ w'.cell? ⟨w0.heap.size, 1, none⟩ = some v ∧
    w'.heap[w0.heap.size]? = some (.cells #[u, v] 75 (0, 0)) ∧
    (∃ cs, w'.heap[w0.heap.size + 1]? = some (.cells cs 75 (0, 0)) ∧ cs.size = 2) ∧ Kp [] w0 w'
section
variable {w0 w w' : World} {u v : Value}
theorem ox_mk (h1 : w'.heap[w0.heap.size]? = some (.cells #[u, v] 75 (0, 0))) (h2 : ∃ cs, w'.heap[w0.heap.size + 1]? = some (.cells cs 75 (0, 0)) ∧ cs.size = 2) (h3 : Kp [] w0 w') : Ox w0 u v w' :=
  ⟨by rw [cell_of_row h1]; rfl, by rw [cell_of_row h1]; rfl, h1, h2, h3⟩
theorem ox_kp (h : Ox w0 u v w) : Kp [] w0 w := h.2.2.2.2
theorem ox_to (h : Ox w0 u v w) (k : Ky w w') (hk : Kp [] w0 w') : Ox w0 u v w' := by
  obtain ⟨_, _, h1, ⟨cs, h2, h3⟩, _⟩ := h
  exact ox_mk (k _ _ _ (by decide) h1) ⟨cs, k _ _ _ (by decide) h2, h3⟩ hk
theorem ox_on (h : Ox w0 u v w) (k : Kp [] w w') : Ox w0 u v w' := ox_to h (ky_of k) ((ox_kp h).trans k)
theorem ox_drew (h : Ox w0 u v w) : Ox w0 u v w.drew := ox_on h (Kp.refl _ _).drew
theorem ox_alloc (h : Ox w0 u v w) (x : Obj) : Ox w0 u v (w.alloc x) := ox_on h ((Kp.refl _ _).alloc _)
theorem ox_ans (h : Ox w0 u v w) : ∃ cs, w.heap[w0.heap.size + 1]? = some (.cells cs 75 (0, 0)) ∧ cs.size = 2 := h.2.2.2.1
theorem ox_cells (h : Ox w0 u v w) : ∃ v0 v1, w.cell? ⟨w0.heap.size + 1, 0, none⟩ = some v0 ∧ w.cell? ⟨w0.heap.size + 1, 1, none⟩ = some v1 ∧
    w.frozen? ⟨w0.heap.size + 1, 0, none⟩ = false ∧ w.frozen? ⟨w0.heap.size + 1, 1, none⟩ = false := by
  obtain ⟨cs, h1, h2⟩ := ox_ans h
  refine ⟨cs[0], cs[1], ?_, ?_, free_of_row h1 _, free_of_row h1 _⟩ <;> rw [cell_of_row h1] <;> simp [h2]
theorem ox_set (h : Ox w0 u v w) (i : Nat) (z : Value) : Ox w0 u v (w.setCell ⟨w0.heap.size + 1, i, none⟩ z) := by
  obtain ⟨_, _, h1, ⟨cs, h2, h3⟩, h4⟩ := h
  exact ox_mk ((heap_setCell_other _ _ _ _ (by simp)).trans h1) ⟨_, heap_setCell_same _ _ _ _ _ _ h2, by simpa using h3⟩ (h4.setCell (.inr (by simp)) _)
theorem ox_set2 (h : Ox w0 u v w) (a b : Value) : Ox w0 u v ((w.setCell ⟨w0.heap.size + 1, 0, none⟩ a).setCell ⟨w0.heap.size + 1, 1, none⟩ b) := ox_set (ox_set h 0 a) 1 b
/-- The answer, stored. -/
theorem ox_fin (h : Ox w0 u v w) (a b : Value) : ((w.setCell ⟨w0.heap.size + 1, 0, none⟩ a).setCell ⟨w0.heap.size + 1, 1, none⟩ b).heap[w0.heap.size + 1]? = some (.cells #[a, b] 75 (0, 0)) := by
  obtain ⟨cs, h1, h2⟩ := ox_ans h
  rw [heap_setCell_same _ _ _ _ _ _ (heap_setCell_same _ _ _ _ _ _ h1)]
  congr 2
  apply Array.ext
  · simp [h2]
  · intro i hi _
    have : i = 0 ∨ i = 1 := by simp [h2] at hi; omega
    rcases this with rfl | rfl <;> simp [h2]
theorem ox_rd (h : Ox w0 u v w) {x : Value} {xs : List Int} (hr : Rd w x xs) (a b : Value) : Rd ((w.setCell ⟨w0.heap.size + 1, 0, none⟩ a).setCell ⟨w0.heap.size + 1, 1, none⟩ b) x xs := by
  obtain ⟨cs, h1, h2⟩ := ox_ans h
  have k : Kp [w0.heap.size + 1] w ((w.setCell ⟨w0.heap.size + 1, 0, none⟩ a).setCell ⟨w0.heap.size + 1, 1, none⟩ b) := ((Kp.refl _ _).setCell (.inl (by simp)) _).setCell (.inl (by simp)) _
  exact hr.keep k fun g hg => by simpa using hr.nin h1 (by decide) g hg
/-- The struct, boxed, and the answer's box behind it. -/
theorem ox_start (w0 : World) (u v : Value) : Ox w0 u v ((w0.alloc (.cells #[u, v] 75)).alloc (.cells #[.slice none 0 0, .slice none 0 0] 75)) := by
  have hz := heap_alloc_new (w0.alloc (Obj.cells #[u, v] 75)) (Obj.cells #[.slice none 0 0, .slice none 0 0] 75)
  rw [World.size_alloc] at hz
  exact ox_mk (heap_alloc2_old _ _ _) ⟨_, hz, rfl⟩ (((Kp.refl _ _).alloc _).alloc _)
end

theorem ox_ro {w0 w : World} {u v : Value} {T : TypeId} {k : IntKind} {g : Nat} {xs : List Int} (h : Ox w0 u v w) (hr : Ro T k w g xs) (hT : T ≠ 75) (a b : Value) : Ro T k ((w.setCell ⟨w0.heap.size + 1, 0, none⟩ a).setCell ⟨w0.heap.size + 1, 1, none⟩ b) g xs := by
  obtain ⟨cs, h1, h2⟩ := ox_ans h
  have k : Kp [w0.heap.size + 1] w ((w.setCell ⟨w0.heap.size + 1, 0, none⟩ a).setCell ⟨w0.heap.size + 1, 1, none⟩ b) := ((Kp.refl _ _).setCell (.inl (by simp)) _).setCell (.inl (by simp)) _
  exact hr.keep k (by simpa using hr.ne h1 hT)

/-- What an object's copy answers. -/
def ObCop (w : World) (R D : List Int) (n1 n2 : Nat) (e : Ending) (w' : World) : Prop :=
  ∃ g1 c1 g2 c2, e = .returned (.agg #[.slice (some ⟨g1, 0, none⟩) n1 c1, .slice (some ⟨g2, 0, none⟩) n2 c2]) ∧ (w.heap.size ≤ g1 ∧ Ro 3 .i64 w' g1 R) ∧ (w.heap.size ≤ g2 ∧ Ro 31 .u64 w' g2 D) ∧ Kp [] w w'

set_option maxRecDepth 100000 in
set_option maxHeartbeats 4000000 in
theorem oclone_any (w : World) (g1 n1 c1 g2 n2 c2 : Nat) (R D : List Int) (h1 : Ro 3 .i64 w g1 R) (h2 : Ro 31 .u64 w g2 D) (e1 : R.length = n1) (e2 : D.length = n2) (l1 : n1 ≤ 1000) (l2 : n2 ≤ 1000) :
    Calls Tryz.prog 51 #[.agg #[.slice (some ⟨g1, 0, none⟩) n1 c1, .slice (some ⟨g2, 0, none⟩) n2 c2]] w (ObCop w R D n1 n2) := by
  have HC1 : Hid (∀ w', Kp [] w w' → Calls Tryz.prog 45 #[.slice (some ⟨g1, 0, none⟩) n1 c1] w' fun e w2 => ∃ g c, e = .returned (.slice (some ⟨g, 0, none⟩) n1 c) ∧ (w.heap.size ≤ g ∧ Ro 3 .i64 w2 g R) ∧ Kp [] w' w2) := Lib.hid fun w' k => by
    have := clone_int w' g1 c1 R (h1.keep0 k) (by omega)
    rw [e1] at this
    refine this.mono fun e w2 h => ?_
    obtain ⟨g, c, q1, q2, q3⟩ := h.cop e1
    exact ⟨g, c, q1, ⟨Nat.le_trans k.size q2.1, q2.2.1⟩, q3⟩
  have HC2 : Hid (∀ w', Kp [] w w' → Calls Tryz.prog 89 #[.slice (some ⟨g2, 0, none⟩) n2 c2] w' fun e w2 => ∃ g c, e = .returned (.slice (some ⟨g, 0, none⟩) n2 c) ∧ (w.heap.size ≤ g ∧ Ro 31 .u64 w2 g D) ∧ Kp [] w' w2) := Lib.hid fun w' k => by
    have := clone_u64 w' g2 c2 D (h2.keep0 k) (by omega)
    rw [e2] at this
    refine this.mono fun e w2 h => ?_
    obtain ⟨g, c, q1, q2, q3⟩ := h.cop e2
    exact ⟨g, c, q1, ⟨Nat.le_trans k.size q2.1, q2.2.1⟩, q3⟩
  have B := Lib.hid (ox_start w (.slice (some ⟨g1, 0, none⟩) n1 c1) (.slice (some ⟨g2, 0, none⟩) n2 c2))
  clear h1 h2 e1 e2
  go_enter Tryz.func51, Tryz.ntmps51
  go_wp2_with fail
  go_region_held3 (fun w' => w'.cell? ⟨w.heap.size, 0, none⟩ = some (.slice (some ⟨g1, 0, none⟩) n1 c1) ∧ w'.cell? ⟨w.heap.size, 1, none⟩ = some (.slice (some ⟨g2, 0, none⟩) n2 c2) ∧
      w'.heap[w.heap.size]? = some (.cells #[.slice (some ⟨g1, 0, none⟩) n1 c1, .slice (some ⟨g2, 0, none⟩) n2 c2] 75 (0, 0)) ∧
      (∃ cs, w'.heap[w.heap.size + 1]? = some (.cells cs 75 (0, 0)) ∧ cs.size = 2) ∧ Kp [] w w')
    (first
      | exact ox_drew B.out
      | exact ox_on ‹Ox w (.slice (some ⟨g1, 0, none⟩) n1 c1) (.slice (some ⟨g2, 0, none⟩) n2 c2) _› hk
      | exact ox_set2 ‹Ox w (.slice (some ⟨g1, 0, none⟩) n1 c1) (.slice (some ⟨g2, 0, none⟩) n2 c2) _› _ _)
    (first
      | (refine (HC1.out _ (ox_kp ‹Ox w (.slice (some ⟨g1, 0, none⟩) n1 c1) (.slice (some ⟨g2, 0, none⟩) n2 c2) _›)).mono ?_
         rintro e w3 ⟨a1, b1, rfl, hr1, hk⟩
         have HB := Lib.hid (ox_on ‹Ox w (.slice (some ⟨g1, 0, none⟩) n1 c1) (.slice (some ⟨g2, 0, none⟩) n2 c2) _› hk)
         have HS1 := Lib.hid hr1
         obtain ⟨v0, v1, e0, e1, f0, f1⟩ := ox_cells HB.out
         clear hr1)
      | (refine (HC2.out _ (ox_kp ‹Ox w (.slice (some ⟨g1, 0, none⟩) n1 c1) (.slice (some ⟨g2, 0, none⟩) n2 c2) _›)).mono ?_
         rintro e w4 ⟨a2, b2, rfl, hr2, hk⟩
         have HB := Lib.hid (ox_on ‹Ox w (.slice (some ⟨g1, 0, none⟩) n1 c1) (.slice (some ⟨g2, 0, none⟩) n2 c2) _› hk)
         have HS2 := Lib.hid hr2
         obtain ⟨v0, v1, e0, e1, f0, f1⟩ := ox_cells HB.out
         clear hr2))
  all_goals go_wp2_with fail
  all_goals
    have q1 := HS1.out
    have q2 := HS2.out
    exact bodyPost_row rfl (w.heap.size + 1) 75 #[.slice (some ⟨a1, 0, none⟩) n1 b1, .slice (some ⟨a2, 0, none⟩) n2 b2] (0, 0) _ rfl rfl (ox_fin HB.out _ _) Tryz.underlying75 rfl (by kernel_rfl)
      ⟨a1, b1, a2, b2, rfl, ⟨q1.1, ox_ro HB.out (by first | exact q1.2 | exact q1.2.keep0 hk | exact q1.2.keep0 hk.drew_l) (by decide) _ _⟩, ⟨q2.1, ox_ro HB.out (by first | exact q2.2 | exact q2.2.keep0 hk | exact q2.2.keep0 hk.drew_l) (by decide) _ _⟩, ox_kp (ox_set2 HB.out _ _)⟩

end Go.Proofs.YtmbhhadghiojeaaGreat
