/- No graph: Object, Own, Globals, Clone; 'nothing'; 'wakes' of layer 10; the law GraphNil's walk. Conditions: as each theorem states them. -/
import Derived.Test.YtmbhhadghiojeaaGreatGdG
import Derived.Test.YtmbhhadghiojeaaGreatGrR
namespace Go.Proofs.YtmbhhadghiojeaaGreat
set_option linter.unusedVariables false
set_option linter.unusedSimpArgs false
open Go.RowKit Go.Shelf

theorem mkf : ∀ (fn : Fn) (first cap : Array Value) (w : World), (Instr.makeFunc fn first cap).run Tryz.prog w = .ok (.func fn first cap) w := fun _ _ _ _ => rfl
section
variable {w w' : World} {b1 b2 : Nat} {u1 u2 : Value} {T1 T2 : TypeId}
theorem s2_start (hne : b1 ≠ b2) (h1 : w.heap[b1]? = some (.cells #[u1] T1 (0, 0))) (h2 : w.heap[b2]? = some (.cells #[u2] T2 (0, 0))) :
    w.cell? ⟨b1, 0, none⟩ = some u1 ∧ w.cell? ⟨b2, 0, none⟩ = some u2 ∧ w.frozen? ⟨b1, 0, none⟩ = false ∧ w.frozen? ⟨b2, 0, none⟩ = false ∧ b1 ≠ b2 ∧ w.heap[b1]? = some (.cells #[u1] T1 (0, 0)) ∧ w.heap[b2]? = some (.cells #[u2] T2 (0, 0)) ∧ Kp [b1, b2] w w :=
  ⟨by rw [cell_of_row h1]; rfl, by rw [cell_of_row h2]; rfl, free_of_row h1 0, free_of_row h2 0, hne, h1, h2, Kp.refl _ _⟩
theorem s2_of {w0 : World} (hne : b1 ≠ b2) (h1 : w.heap[b1]? = some (.cells #[u1] T1 (0, 0))) (h2 : w.heap[b2]? = some (.cells #[u2] T2 (0, 0))) (k : Kp [b1, b2] w0 w) :
    w.cell? ⟨b1, 0, none⟩ = some u1 ∧ w.cell? ⟨b2, 0, none⟩ = some u2 ∧ w.frozen? ⟨b1, 0, none⟩ = false ∧ w.frozen? ⟨b2, 0, none⟩ = false ∧ b1 ≠ b2 ∧ w.heap[b1]? = some (.cells #[u1] T1 (0, 0)) ∧ w.heap[b2]? = some (.cells #[u2] T2 (0, 0)) ∧ Kp [b1, b2] w0 w :=
  ⟨by rw [cell_of_row h1]; rfl, by rw [cell_of_row h2]; rfl, free_of_row h1 0, free_of_row h2 0, hne, h1, h2, k⟩
variable {w0 : World} (h : w.cell? ⟨b1, 0, none⟩ = some u1 ∧ w.cell? ⟨b2, 0, none⟩ = some u2 ∧ w.frozen? ⟨b1, 0, none⟩ = false ∧ w.frozen? ⟨b2, 0, none⟩ = false ∧ b1 ≠ b2 ∧ w.heap[b1]? = some (.cells #[u1] T1 (0, 0)) ∧ w.heap[b2]? = some (.cells #[u2] T2 (0, 0)) ∧ Kp [b1, b2] w0 w)
include h
theorem s2_drew : w.drew.cell? ⟨b1, 0, none⟩ = some u1 ∧ w.drew.cell? ⟨b2, 0, none⟩ = some u2 ∧ w.drew.frozen? ⟨b1, 0, none⟩ = false ∧ w.drew.frozen? ⟨b2, 0, none⟩ = false ∧ b1 ≠ b2 ∧ w.drew.heap[b1]? = some (.cells #[u1] T1 (0, 0)) ∧ w.drew.heap[b2]? = some (.cells #[u2] T2 (0, 0)) ∧ Kp [b1, b2] w0 w.drew := by
  obtain ⟨_, _, _, _, h5, h6, h7, h8⟩ := h
  exact s2_of h5 h6 h7 h8.drew
theorem s2_set1 : (w.setCell ⟨b1, 0, none⟩ u1).cell? ⟨b1, 0, none⟩ = some u1 ∧ (w.setCell ⟨b1, 0, none⟩ u1).cell? ⟨b2, 0, none⟩ = some u2 ∧ (w.setCell ⟨b1, 0, none⟩ u1).frozen? ⟨b1, 0, none⟩ = false ∧ (w.setCell ⟨b1, 0, none⟩ u1).frozen? ⟨b2, 0, none⟩ = false ∧ b1 ≠ b2 ∧ (w.setCell ⟨b1, 0, none⟩ u1).heap[b1]? = some (.cells #[u1] T1 (0, 0)) ∧ (w.setCell ⟨b1, 0, none⟩ u1).heap[b2]? = some (.cells #[u2] T2 (0, 0)) ∧ Kp [b1, b2] w0 (w.setCell ⟨b1, 0, none⟩ u1) := by
  obtain ⟨_, _, _, _, h5, h6, h7, h8⟩ := h
  exact s2_of h5 (by rw [heap_setCell_same _ _ _ _ _ _ h6]; rfl) (((Kp.refl [b1] w).setCell (.inl (by simp)) u1).row (by simpa using h5.symm) h7) (h8.setCell (.inl (by simp)) u1)
theorem s2_set2 : (w.setCell ⟨b2, 0, none⟩ u2).cell? ⟨b1, 0, none⟩ = some u1 ∧ (w.setCell ⟨b2, 0, none⟩ u2).cell? ⟨b2, 0, none⟩ = some u2 ∧ (w.setCell ⟨b2, 0, none⟩ u2).frozen? ⟨b1, 0, none⟩ = false ∧ (w.setCell ⟨b2, 0, none⟩ u2).frozen? ⟨b2, 0, none⟩ = false ∧ b1 ≠ b2 ∧ (w.setCell ⟨b2, 0, none⟩ u2).heap[b1]? = some (.cells #[u1] T1 (0, 0)) ∧ (w.setCell ⟨b2, 0, none⟩ u2).heap[b2]? = some (.cells #[u2] T2 (0, 0)) ∧ Kp [b1, b2] w0 (w.setCell ⟨b2, 0, none⟩ u2) := by
  obtain ⟨_, _, _, _, h5, h6, h7, h8⟩ := h
  exact s2_of h5 (((Kp.refl [b2] w).setCell (.inl (by simp)) u2).row (by simpa using h5) h6) (by rw [heap_setCell_same _ _ _ _ _ _ h7]; rfl) (h8.setCell (.inl (by simp)) u2)
end


/-- Object, over what 'caught' answers of its closure. -/
theorem me_Object (w : World) (gv : Option Addr) (k x : Int) (Q : World → Prop)
    (hc : Calls Tryz.prog 19 #[.func (.func 90) #[] #[.pointer (some ⟨w.heap.size, 0, none⟩), .pointer (some ⟨w.heap.size + 1, 0, none⟩), .pointer (some ⟨w.heap.size + 1 + 1, 0, none⟩), .pointer (some ⟨w.heap.size + 1 + 1 + 1, 0, none⟩)]]
      ((((w.alloc (.cells #[.pointer gv] 24)).alloc (.cells #[.int .i64 k] 3)).alloc (.cells #[.slice none 0 0] 37)).alloc (.cells #[.slice none 0 0] 73))
      (Caught ((((w.alloc (.cells #[.pointer gv] 24)).alloc (.cells #[.int .i64 k] 3)).alloc (.cells #[.slice none 0 0] 37)).alloc (.cells #[.slice none 0 0] 73)) x Q))
    (a1 a2 : Option Addr) (n1 c1 n2 c2 : Nat) (hQ : ∀ w2, Q w2 → w2.heap[w.heap.size + 1 + 1]? = some (.cells #[.slice a1 n1 c1] 37 (0, 0)) ∧ w2.heap[w.heap.size + 1 + 1 + 1]? = some (.cells #[.slice a2 n2 c2] 73 (0, 0))) :
    Calls Tryz.prog 52 #[.pointer gv, .int .i64 k] w (Told (.tuple #[.slice a1 n1 c1, .slice a2 n2 c2, .int .i64 x]) [w.heap.size + 1 + 1, w.heap.size + 1 + 1 + 1, w.heap.size + 1 + 1 + 1 + 1] Q) := by
  have hmf := mkf
  have HQ := Lib.hid hQ
  have HC := Lib.hid hc
  clear hQ hc
  go_enter Tryz.func52, Tryz.ntmps52
  go_wp2_with fail
  refine HC.out.mono ?_
  rintro e w3 ⟨rfl, w2, hq, hk⟩
  obtain ⟨b1, hb1⟩ : ∃ b1, b1 = w.heap.size + 1 + 1 := ⟨_, rfl⟩
  obtain ⟨b2, hb2⟩ : ∃ b2, b2 = w.heap.size + 1 + 1 + 1 := ⟨_, rfl⟩
  have hS := s2_start (b1 := b1) (b2 := b2) (by omega) (hk.row (by simp [hb1]) (by rw [hb1]; exact (HQ.out w2 hq).1)) (hk.row (by simp [hb2]) (by rw [hb2]; exact (HQ.out w2 hq).2))
  have hkk : Kp [b2 + 1] w2 w3 := by rw [hb2]; simpa using hk
  have HS := Lib.hid hS
  have HKK := Lib.hid hkk
  have HB := Lib.hid (And.intro hb1 hb2)
  clear hmf HC hk hkk hS HQ
  rw [← hb2, ← hb1]
  clear hb1 hb2
  go_wp2_with fail
  go_region_held3 (fun w' => w'.cell? ⟨b1, 0, none⟩ = some (.slice a1 n1 c1) ∧ w'.cell? ⟨b2, 0, none⟩ = some (.slice a2 n2 c2) ∧ w'.frozen? ⟨b1, 0, none⟩ = false ∧ w'.frozen? ⟨b2, 0, none⟩ = false ∧ b1 ≠ b2 ∧
      w'.heap[b1]? = some (.cells #[.slice a1 n1 c1] 37 (0, 0)) ∧ w'.heap[b2]? = some (.cells #[.slice a2 n2 c2] 73 (0, 0)) ∧ Kp [b1, b2] w3 w')
    (first
      | exact s2_drew HS.out
      | exact s2_drew ‹_ ∧ _›
      | exact s2_set1 ‹_ ∧ _›
      | exact s2_set2 ‹_ ∧ _›)
    (fail)
  all_goals
    obtain ⟨k1, k2, k3, k4, k5, k6, k7, k8⟩ := ‹_ ∧ _›
    have HE := Lib.hid (show Kp [b1, b2, b2 + 1] w2 _ from (HKK.out.mono (by simp)).trans (k8.mono (by simp)))
    clear k3 k4 k5 k6 k7 k8
    go_wp2_with fail
    exact bodyPost_ret (v := .tuple #[.slice a1 n1 c1, .slice a2 n2 c2, .int .i64 x]) (by simp [results, Tryz.results52, go_sem, k1, k2]) rfl ⟨rfl, w2, hq, by rw [← HB.out.2, ← HB.out.1]; exact HE.out⟩


/-- Own, over what 'caught' answers of its closure. -/
theorem me_Own (w : World) (gv : Option Addr) (k x : Int) (Q : World → Prop)
    (hc : Calls Tryz.prog 19 #[.func (.func 91) #[] #[.pointer (some ⟨w.heap.size, 0, none⟩), .pointer (some ⟨w.heap.size + 1, 0, none⟩), .pointer (some ⟨w.heap.size + 1 + 1, 0, none⟩), .pointer (some ⟨w.heap.size + 1 + 1 + 1, 0, none⟩)]]
      ((((w.alloc (.cells #[.pointer gv] 24)).alloc (.cells #[.int .i64 k] 3)).alloc (.cells #[.slice none 0 0] 37)).alloc (.cells #[.slice none 0 0] 37))
      (Caught ((((w.alloc (.cells #[.pointer gv] 24)).alloc (.cells #[.int .i64 k] 3)).alloc (.cells #[.slice none 0 0] 37)).alloc (.cells #[.slice none 0 0] 37)) x Q))
    (a1 a2 : Option Addr) (n1 c1 n2 c2 : Nat) (hQ : ∀ w2, Q w2 → w2.heap[w.heap.size + 1 + 1]? = some (.cells #[.slice a1 n1 c1] 37 (0, 0)) ∧ w2.heap[w.heap.size + 1 + 1 + 1]? = some (.cells #[.slice a2 n2 c2] 37 (0, 0))) :
    Calls Tryz.prog 54 #[.pointer gv, .int .i64 k] w (Told (.tuple #[.slice a1 n1 c1, .slice a2 n2 c2, .int .i64 x]) [w.heap.size + 1 + 1, w.heap.size + 1 + 1 + 1, w.heap.size + 1 + 1 + 1 + 1] Q) := by
  have hmf := mkf
  have HQ := Lib.hid hQ
  have HC := Lib.hid hc
  clear hQ hc
  go_enter Tryz.func54, Tryz.ntmps54
  go_wp2_with fail
  refine HC.out.mono ?_
  rintro e w3 ⟨rfl, w2, hq, hk⟩
  obtain ⟨b1, hb1⟩ : ∃ b1, b1 = w.heap.size + 1 + 1 := ⟨_, rfl⟩
  obtain ⟨b2, hb2⟩ : ∃ b2, b2 = w.heap.size + 1 + 1 + 1 := ⟨_, rfl⟩
  have hS := s2_start (b1 := b1) (b2 := b2) (by omega) (hk.row (by simp [hb1]) (by rw [hb1]; exact (HQ.out w2 hq).1)) (hk.row (by simp [hb2]) (by rw [hb2]; exact (HQ.out w2 hq).2))
  have hkk : Kp [b2 + 1] w2 w3 := by rw [hb2]; simpa using hk
  have HS := Lib.hid hS
  have HKK := Lib.hid hkk
  have HB := Lib.hid (And.intro hb1 hb2)
  clear hmf HC hk hkk hS HQ
  rw [← hb2, ← hb1]
  clear hb1 hb2
  go_wp2_with fail
  go_region_held3 (fun w' => w'.cell? ⟨b1, 0, none⟩ = some (.slice a1 n1 c1) ∧ w'.cell? ⟨b2, 0, none⟩ = some (.slice a2 n2 c2) ∧ w'.frozen? ⟨b1, 0, none⟩ = false ∧ w'.frozen? ⟨b2, 0, none⟩ = false ∧ b1 ≠ b2 ∧
      w'.heap[b1]? = some (.cells #[.slice a1 n1 c1] 37 (0, 0)) ∧ w'.heap[b2]? = some (.cells #[.slice a2 n2 c2] 37 (0, 0)) ∧ Kp [b1, b2] w3 w')
    (first
      | exact s2_drew HS.out
      | exact s2_drew ‹_ ∧ _›
      | exact s2_set1 ‹_ ∧ _›
      | exact s2_set2 ‹_ ∧ _›)
    (fail)
  all_goals
    obtain ⟨k1, k2, k3, k4, k5, k6, k7, k8⟩ := ‹_ ∧ _›
    have HE := Lib.hid (show Kp [b1, b2, b2 + 1] w2 _ from (HKK.out.mono (by simp)).trans (k8.mono (by simp)))
    clear k3 k4 k5 k6 k7 k8
    go_wp2_with fail
    exact bodyPost_ret (v := .tuple #[.slice a1 n1 c1, .slice a2 n2 c2, .int .i64 x]) (by simp [results, Tryz.results54, go_sem, k1, k2]) rfl ⟨rfl, w2, hq, by rw [← HB.out.2, ← HB.out.1]; exact HE.out⟩


theorem bx_Object (w : World) (gv : Option Addr) (k : Int) : (((((w.alloc (.cells #[.pointer gv] 24)).alloc (.cells #[.int .i64 k] 3)).alloc (.cells #[.slice none 0 0] 37)).alloc (.cells #[.slice none 0 0] 73)).alloc (.cells #[.int .i64 0] 25)).heap[w.heap.size]? = some (.cells #[.pointer gv] 24 (0, 0)) ∧ (((((w.alloc (.cells #[.pointer gv] 24)).alloc (.cells #[.int .i64 k] 3)).alloc (.cells #[.slice none 0 0] 37)).alloc (.cells #[.slice none 0 0] 73)).alloc (.cells #[.int .i64 0] 25)).heap[w.heap.size + 1]? = some (.cells #[.int .i64 k] 3 (0, 0)) ∧ (((((w.alloc (.cells #[.pointer gv] 24)).alloc (.cells #[.int .i64 k] 3)).alloc (.cells #[.slice none 0 0] 37)).alloc (.cells #[.slice none 0 0] 73)).alloc (.cells #[.int .i64 0] 25)).heap[w.heap.size + 1 + 1]? = some (.cells #[.slice none 0 0] 37 (0, 0)) ∧
    (((((w.alloc (.cells #[.pointer gv] 24)).alloc (.cells #[.int .i64 k] 3)).alloc (.cells #[.slice none 0 0] 37)).alloc (.cells #[.slice none 0 0] 73)).alloc (.cells #[.int .i64 0] 25)).heap[w.heap.size + 1 + 1 + 1]? = some (.cells #[.slice none 0 0] 73 (0, 0)) ∧ (((((w.alloc (.cells #[.pointer gv] 24)).alloc (.cells #[.int .i64 k] 3)).alloc (.cells #[.slice none 0 0] 37)).alloc (.cells #[.slice none 0 0] 73)).alloc (.cells #[.int .i64 0] 25)).heap[w.heap.size + 1 + 1 + 1 + 1]? = some (.cells #[.int .i64 0] 25 (0, 0)) ∧ Kp [] w (((((w.alloc (.cells #[.pointer gv] 24)).alloc (.cells #[.int .i64 k] 3)).alloc (.cells #[.slice none 0 0] 37)).alloc (.cells #[.slice none 0 0] 73)).alloc (.cells #[.int .i64 0] 25)) :=
  ⟨box_at [.cells #[.pointer gv] 24 (0, 0), .cells #[.int .i64 k] 3 (0, 0), .cells #[.slice none 0 0] 37 (0, 0), .cells #[.slice none 0 0] 73 (0, 0), .cells #[.int .i64 0] 25 (0, 0)] w 0 _ rfl, box_at [.cells #[.pointer gv] 24 (0, 0), .cells #[.int .i64 k] 3 (0, 0), .cells #[.slice none 0 0] 37 (0, 0), .cells #[.slice none 0 0] 73 (0, 0), .cells #[.int .i64 0] 25 (0, 0)] w 1 _ rfl, box_at [.cells #[.pointer gv] 24 (0, 0), .cells #[.int .i64 k] 3 (0, 0), .cells #[.slice none 0 0] 37 (0, 0), .cells #[.slice none 0 0] 73 (0, 0), .cells #[.int .i64 0] 25 (0, 0)] w 2 _ rfl, box_at [.cells #[.pointer gv] 24 (0, 0), .cells #[.int .i64 k] 3 (0, 0), .cells #[.slice none 0 0] 37 (0, 0), .cells #[.slice none 0 0] 73 (0, 0), .cells #[.int .i64 0] 25 (0, 0)] w 3 _ rfl, box_at [.cells #[.pointer gv] 24 (0, 0), .cells #[.int .i64 k] 3 (0, 0), .cells #[.slice none 0 0] 37 (0, 0), .cells #[.slice none 0 0] 73 (0, 0), .cells #[.int .i64 0] 25 (0, 0)] w 4 _ rfl, kp_allocs [.cells #[.pointer gv] 24 (0, 0), .cells #[.int .i64 k] 3 (0, 0), .cells #[.slice none 0 0] 37 (0, 0), .cells #[.slice none 0 0] 73 (0, 0), .cells #[.int .i64 0] 25 (0, 0)] w⟩
theorem no_Object (w : World) (gv : Option Addr) (k x : Int) (hcl : Calls Tryz.prog 90 #[.pointer (some ⟨w.heap.size, 0, none⟩), .pointer (some ⟨w.heap.size + 1, 0, none⟩), .pointer (some ⟨w.heap.size + 1 + 1, 0, none⟩), .pointer (some ⟨w.heap.size + 1 + 1 + 1, 0, none⟩)] (((((w.alloc (.cells #[.pointer gv] 24)).alloc (.cells #[.int .i64 k] 3)).alloc (.cells #[.slice none 0 0] 37)).alloc (.cells #[.slice none 0 0] 73)).alloc (.cells #[.int .i64 0] 25)) (Threw (((((w.alloc (.cells #[.pointer gv] 24)).alloc (.cells #[.int .i64 k] 3)).alloc (.cells #[.slice none 0 0] 37)).alloc (.cells #[.slice none 0 0] 73)).alloc (.cells #[.int .i64 0] 25)) x)) :
    Calls Tryz.prog 52 #[.pointer gv, .int .i64 k] w (Fail w (.tuple #[.slice none 0 0, .slice none 0 0, .int .i64 x])) := by
  have B := bx_Object w gv k
  refine (me_Object w gv k x (fun w2 => Kp [] (((((w.alloc (.cells #[.pointer gv] 24)).alloc (.cells #[.int .i64 k] 3)).alloc (.cells #[.slice none 0 0] 37)).alloc (.cells #[.slice none 0 0] 73)).alloc (.cells #[.int .i64 0] 25)) w2) (caught_no _ 90 #[.pointer (some ⟨w.heap.size, 0, none⟩), .pointer (some ⟨w.heap.size + 1, 0, none⟩), .pointer (some ⟨w.heap.size + 1 + 1, 0, none⟩), .pointer (some ⟨w.heap.size + 1 + 1 + 1, 0, none⟩)] x (fun w2 => Kp [] (((((w.alloc (.cells #[.pointer gv] 24)).alloc (.cells #[.int .i64 k] 3)).alloc (.cells #[.slice none 0 0] 37)).alloc (.cells #[.slice none 0 0] 73)).alloc (.cells #[.int .i64 0] 25)) w2) (enters_of Tryz.func90 (by kernel_rfl) rfl) hcl fun w2 hk => ?_) none none 0 0 0 0 fun w2 hk => ?_).mono ?_
  · exact hk.row (by simp) (by simpa [World.size_alloc] using B.2.2.2.2.1)
  · exact ⟨hk.row (by simp) B.2.2.1, hk.row (by simp) B.2.2.2.1⟩
  · rintro e w' ⟨rfl, w2, hk, hk2⟩
    exact ⟨rfl, kp_end B.2.2.2.2.2 hk hk2 (by simp <;> omega)⟩
theorem ok_Object (w : World) (gv : Option Addr) (k : Int) (Q : World → Prop) (a1 a2 : Option Addr) (n1 c1 n2 c2 : Nat) (hcl : Calls Tryz.prog 90 #[.pointer (some ⟨w.heap.size, 0, none⟩), .pointer (some ⟨w.heap.size + 1, 0, none⟩), .pointer (some ⟨w.heap.size + 1 + 1, 0, none⟩), .pointer (some ⟨w.heap.size + 1 + 1 + 1, 0, none⟩)] (((((w.alloc (.cells #[.pointer gv] 24)).alloc (.cells #[.int .i64 k] 3)).alloc (.cells #[.slice none 0 0] 37)).alloc (.cells #[.slice none 0 0] 73)).alloc (.cells #[.int .i64 0] 25)) fun e w2 => e = .returned (.tuple #[]) ∧ Q w2)
    (h1 : ∀ w2, Q w2 → w2.heap[w.heap.size + 1 + 1 + 1 + 1]? = some (.cells #[.int .i64 0] 25 (0, 0))) (h2 : ∀ w2, Q w2 → w2.heap[w.heap.size + 1 + 1]? = some (.cells #[.slice a1 n1 c1] 37 (0, 0)) ∧ w2.heap[w.heap.size + 1 + 1 + 1]? = some (.cells #[.slice a2 n2 c2] 73 (0, 0))) :
    Calls Tryz.prog 52 #[.pointer gv, .int .i64 k] w (Told (.tuple #[.slice a1 n1 c1, .slice a2 n2 c2, .int .i64 0]) [w.heap.size + 1 + 1, w.heap.size + 1 + 1 + 1, w.heap.size + 1 + 1 + 1 + 1] Q) :=
  me_Object w gv k 0 Q (caught_ok _ 90 #[.pointer (some ⟨w.heap.size, 0, none⟩), .pointer (some ⟨w.heap.size + 1, 0, none⟩), .pointer (some ⟨w.heap.size + 1 + 1, 0, none⟩), .pointer (some ⟨w.heap.size + 1 + 1 + 1, 0, none⟩)] Q (enters_of Tryz.func90 (by kernel_rfl) rfl) hcl fun w2 hq => by simpa [World.size_alloc] using h1 w2 hq) a1 a2 n1 c1 n2 c2 h2


theorem bx_Own (w : World) (gv : Option Addr) (k : Int) : (((((w.alloc (.cells #[.pointer gv] 24)).alloc (.cells #[.int .i64 k] 3)).alloc (.cells #[.slice none 0 0] 37)).alloc (.cells #[.slice none 0 0] 37)).alloc (.cells #[.int .i64 0] 25)).heap[w.heap.size]? = some (.cells #[.pointer gv] 24 (0, 0)) ∧ (((((w.alloc (.cells #[.pointer gv] 24)).alloc (.cells #[.int .i64 k] 3)).alloc (.cells #[.slice none 0 0] 37)).alloc (.cells #[.slice none 0 0] 37)).alloc (.cells #[.int .i64 0] 25)).heap[w.heap.size + 1]? = some (.cells #[.int .i64 k] 3 (0, 0)) ∧ (((((w.alloc (.cells #[.pointer gv] 24)).alloc (.cells #[.int .i64 k] 3)).alloc (.cells #[.slice none 0 0] 37)).alloc (.cells #[.slice none 0 0] 37)).alloc (.cells #[.int .i64 0] 25)).heap[w.heap.size + 1 + 1]? = some (.cells #[.slice none 0 0] 37 (0, 0)) ∧
    (((((w.alloc (.cells #[.pointer gv] 24)).alloc (.cells #[.int .i64 k] 3)).alloc (.cells #[.slice none 0 0] 37)).alloc (.cells #[.slice none 0 0] 37)).alloc (.cells #[.int .i64 0] 25)).heap[w.heap.size + 1 + 1 + 1]? = some (.cells #[.slice none 0 0] 37 (0, 0)) ∧ (((((w.alloc (.cells #[.pointer gv] 24)).alloc (.cells #[.int .i64 k] 3)).alloc (.cells #[.slice none 0 0] 37)).alloc (.cells #[.slice none 0 0] 37)).alloc (.cells #[.int .i64 0] 25)).heap[w.heap.size + 1 + 1 + 1 + 1]? = some (.cells #[.int .i64 0] 25 (0, 0)) ∧ Kp [] w (((((w.alloc (.cells #[.pointer gv] 24)).alloc (.cells #[.int .i64 k] 3)).alloc (.cells #[.slice none 0 0] 37)).alloc (.cells #[.slice none 0 0] 37)).alloc (.cells #[.int .i64 0] 25)) :=
  ⟨box_at [.cells #[.pointer gv] 24 (0, 0), .cells #[.int .i64 k] 3 (0, 0), .cells #[.slice none 0 0] 37 (0, 0), .cells #[.slice none 0 0] 37 (0, 0), .cells #[.int .i64 0] 25 (0, 0)] w 0 _ rfl, box_at [.cells #[.pointer gv] 24 (0, 0), .cells #[.int .i64 k] 3 (0, 0), .cells #[.slice none 0 0] 37 (0, 0), .cells #[.slice none 0 0] 37 (0, 0), .cells #[.int .i64 0] 25 (0, 0)] w 1 _ rfl, box_at [.cells #[.pointer gv] 24 (0, 0), .cells #[.int .i64 k] 3 (0, 0), .cells #[.slice none 0 0] 37 (0, 0), .cells #[.slice none 0 0] 37 (0, 0), .cells #[.int .i64 0] 25 (0, 0)] w 2 _ rfl, box_at [.cells #[.pointer gv] 24 (0, 0), .cells #[.int .i64 k] 3 (0, 0), .cells #[.slice none 0 0] 37 (0, 0), .cells #[.slice none 0 0] 37 (0, 0), .cells #[.int .i64 0] 25 (0, 0)] w 3 _ rfl, box_at [.cells #[.pointer gv] 24 (0, 0), .cells #[.int .i64 k] 3 (0, 0), .cells #[.slice none 0 0] 37 (0, 0), .cells #[.slice none 0 0] 37 (0, 0), .cells #[.int .i64 0] 25 (0, 0)] w 4 _ rfl, kp_allocs [.cells #[.pointer gv] 24 (0, 0), .cells #[.int .i64 k] 3 (0, 0), .cells #[.slice none 0 0] 37 (0, 0), .cells #[.slice none 0 0] 37 (0, 0), .cells #[.int .i64 0] 25 (0, 0)] w⟩
theorem no_Own (w : World) (gv : Option Addr) (k x : Int) (hcl : Calls Tryz.prog 91 #[.pointer (some ⟨w.heap.size, 0, none⟩), .pointer (some ⟨w.heap.size + 1, 0, none⟩), .pointer (some ⟨w.heap.size + 1 + 1, 0, none⟩), .pointer (some ⟨w.heap.size + 1 + 1 + 1, 0, none⟩)] (((((w.alloc (.cells #[.pointer gv] 24)).alloc (.cells #[.int .i64 k] 3)).alloc (.cells #[.slice none 0 0] 37)).alloc (.cells #[.slice none 0 0] 37)).alloc (.cells #[.int .i64 0] 25)) (Threw (((((w.alloc (.cells #[.pointer gv] 24)).alloc (.cells #[.int .i64 k] 3)).alloc (.cells #[.slice none 0 0] 37)).alloc (.cells #[.slice none 0 0] 37)).alloc (.cells #[.int .i64 0] 25)) x)) :
    Calls Tryz.prog 54 #[.pointer gv, .int .i64 k] w (Fail w (.tuple #[.slice none 0 0, .slice none 0 0, .int .i64 x])) := by
  have B := bx_Own w gv k
  refine (me_Own w gv k x (fun w2 => Kp [] (((((w.alloc (.cells #[.pointer gv] 24)).alloc (.cells #[.int .i64 k] 3)).alloc (.cells #[.slice none 0 0] 37)).alloc (.cells #[.slice none 0 0] 37)).alloc (.cells #[.int .i64 0] 25)) w2) (caught_no _ 91 #[.pointer (some ⟨w.heap.size, 0, none⟩), .pointer (some ⟨w.heap.size + 1, 0, none⟩), .pointer (some ⟨w.heap.size + 1 + 1, 0, none⟩), .pointer (some ⟨w.heap.size + 1 + 1 + 1, 0, none⟩)] x (fun w2 => Kp [] (((((w.alloc (.cells #[.pointer gv] 24)).alloc (.cells #[.int .i64 k] 3)).alloc (.cells #[.slice none 0 0] 37)).alloc (.cells #[.slice none 0 0] 37)).alloc (.cells #[.int .i64 0] 25)) w2) (enters_of Tryz.func91 (by kernel_rfl) rfl) hcl fun w2 hk => ?_) none none 0 0 0 0 fun w2 hk => ?_).mono ?_
  · exact hk.row (by simp) (by simpa [World.size_alloc] using B.2.2.2.2.1)
  · exact ⟨hk.row (by simp) B.2.2.1, hk.row (by simp) B.2.2.2.1⟩
  · rintro e w' ⟨rfl, w2, hk, hk2⟩
    exact ⟨rfl, kp_end B.2.2.2.2.2 hk hk2 (by simp <;> omega)⟩
theorem ok_Own (w : World) (gv : Option Addr) (k : Int) (Q : World → Prop) (a1 a2 : Option Addr) (n1 c1 n2 c2 : Nat) (hcl : Calls Tryz.prog 91 #[.pointer (some ⟨w.heap.size, 0, none⟩), .pointer (some ⟨w.heap.size + 1, 0, none⟩), .pointer (some ⟨w.heap.size + 1 + 1, 0, none⟩), .pointer (some ⟨w.heap.size + 1 + 1 + 1, 0, none⟩)] (((((w.alloc (.cells #[.pointer gv] 24)).alloc (.cells #[.int .i64 k] 3)).alloc (.cells #[.slice none 0 0] 37)).alloc (.cells #[.slice none 0 0] 37)).alloc (.cells #[.int .i64 0] 25)) fun e w2 => e = .returned (.tuple #[]) ∧ Q w2)
    (h1 : ∀ w2, Q w2 → w2.heap[w.heap.size + 1 + 1 + 1 + 1]? = some (.cells #[.int .i64 0] 25 (0, 0))) (h2 : ∀ w2, Q w2 → w2.heap[w.heap.size + 1 + 1]? = some (.cells #[.slice a1 n1 c1] 37 (0, 0)) ∧ w2.heap[w.heap.size + 1 + 1 + 1]? = some (.cells #[.slice a2 n2 c2] 37 (0, 0))) :
    Calls Tryz.prog 54 #[.pointer gv, .int .i64 k] w (Told (.tuple #[.slice a1 n1 c1, .slice a2 n2 c2, .int .i64 0]) [w.heap.size + 1 + 1, w.heap.size + 1 + 1 + 1, w.heap.size + 1 + 1 + 1 + 1] Q) :=
  me_Own w gv k 0 Q (caught_ok _ 91 #[.pointer (some ⟨w.heap.size, 0, none⟩), .pointer (some ⟨w.heap.size + 1, 0, none⟩), .pointer (some ⟨w.heap.size + 1 + 1, 0, none⟩), .pointer (some ⟨w.heap.size + 1 + 1 + 1, 0, none⟩)] Q (enters_of Tryz.func91 (by kernel_rfl) rfl) hcl fun w2 hq => by simpa [World.size_alloc] using h1 w2 hq) a1 a2 n1 c1 n2 c2 h2


set_option maxRecDepth 100000 in
theorem object1_nil (w : World) (bg bk b1 b2 : Nat) (hg : w.cell? ⟨bg, 0, none⟩ = some (.pointer none)) :
    Calls Tryz.prog 90 #[.pointer (some ⟨bg, 0, none⟩), .pointer (some ⟨bk, 0, none⟩), .pointer (some ⟨b1, 0, none⟩), .pointer (some ⟨b2, 0, none⟩)] w (Threw w 1) := by
  have hn := need_no w 1
  go_enter Tryz.func90, Tryz.ntmps90
  go_wp2_with ((with_reducible refine hn.mono ?_); rintro e w2 ⟨rfl, rfl⟩)
  exact ⟨rfl, rfl, Kp.refl _ _⟩
theorem own1_th (w : World) (bg bk b1 b2 : Nat) (gv : Option Addr) (t x : Int) (hg : w.cell? ⟨bg, 0, none⟩ = some (.pointer gv)) (hk : w.cell? ⟨bk, 0, none⟩ = some (.int .i64 t)) (hth : ThNo w gv t [] x) :
    Calls Tryz.prog 91 #[.pointer (some ⟨bg, 0, none⟩), .pointer (some ⟨bk, 0, none⟩), .pointer (some ⟨b1, 0, none⟩), .pointer (some ⟨b2, 0, none⟩)] w (Threw w x) := by
  have hn := hth (.slice none 0 0) w (Kp.refl _ _) (Rd.nil w)
  clear hth
  go_enter Tryz.func91, Tryz.ntmps91
  go_wp2_with ((with_reducible refine hn.mono ?_); rintro e w2 ⟨rfl, rfl⟩)
  exact ⟨rfl, rfl, Kp.refl _ _⟩
theorem object_nil (w : World) (k : Int) : Calls Tryz.prog 52 #[.pointer none, .int .i64 k] w (Fail w (.tuple #[.slice none 0 0, .slice none 0 0, .int .i64 1])) :=
  no_Object w none k 1 (object1_nil _ _ _ _ _ (cell_of_row (bx_Object w none k).1 0))
theorem own_nil (w : World) (t : Int) : Calls Tryz.prog 54 #[.pointer none, .int .i64 t] w (Fail w (.tuple #[.slice none 0 0, .slice none 0 0, .int .i64 1])) :=
  no_Own w none t 1 (own1_th _ _ _ _ _ none t 1 (cell_of_row (bx_Own w none t).1 0) (cell_of_row (bx_Own w none t).2.1 0) (th_nil _ _ _))
theorem globals_nil (w : World) : Calls Tryz.prog 55 #[.pointer none] w fun e w' => e = .returned (.slice none 0 0) ∧ w = w' := by
  go_enter Tryz.func55, Tryz.ntmps55
  go_wp2
  go_ret
  exact ⟨rfl, rfl⟩
theorem clone_nil (w : World) : Calls Tryz.prog 13 #[.pointer none] w fun e w' => e = .returned (.pointer none) ∧ w = w' := by
  go_enter Tryz.func13, Tryz.ntmps13
  go_wp2
  go_ret
  exact ⟨rfl, rfl⟩

end Go.Proofs.YtmbhhadghiojeaaGreat
