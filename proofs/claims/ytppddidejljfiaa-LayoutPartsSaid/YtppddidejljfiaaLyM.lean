/- The world of LayoutParts: a layout's box, the number's box, the box of a row, the row of marks; and the closure that marks. Conditions: as each theorem states them. -/
import Derived.Test.YtppddidejljfiaaLyT
import Derived.Deep.LoopGhost
import Derived.Deep.WholeRow
import Derived.Laws.CopyRow
namespace Go.Proofs.Ytppddidejljfiaa
set_option linter.unusedVariables false
set_option linter.unusedSimpArgs false
open Go.RowKit

/-- A row of n ints. -/
def rv (n : Nat) (f : Nat → Int) : Array Value := ((List.range n).map fun i => Value.int .i64 (f i)).toArray
theorem rv_size (n : Nat) (f : Nat → Int) : (rv n f).size = n := by simp [rv]
theorem rv_get (n : Nat) (f : Nat → Int) (i : Nat) (h : i < n) : (rv n f)[i]? = some (.int .i64 (f i)) := by simp [rv, h]
theorem rv_set (n : Nat) (f : Nat → Int) (i : Nat) (z : Int) : (rv n f).setIfInBounds i (.int .i64 z) = rv n fun j => if j = i then z else f j := by
  apply Array.ext_getElem?
  intro j
  by_cases hj : j < n
  · rw [rv_get _ _ j hj]
    by_cases e : i = j
    · subst e
      rw [Array.getElem?_setIfInBounds_self_of_lt (by rw [rv_size]; exact hj)]; simp
    · rw [Array.getElem?_setIfInBounds_ne e, rv_get n f j hj, if_neg (fun q => e q.symm)]
  · rw [Array.getElem?_eq_none (by rw [Array.size_setIfInBounds, rv_size]; omega), Array.getElem?_eq_none (by rw [rv_size]; omega)]

theorem made_ints (n : Nat) : madeCells #[.int .i64 0] n = rv n fun _ => 0 := by
  apply Array.ext'
  rw [toList_madeCells_one]
  simp [rv, List.map_const']
theorem make_ints (n : Nat) (h2 : n ≤ 4096) (w : World) : (Instr.makeSlice 37 (.int .i64 (n : Int)) (.int .i64 (n : Int))).run Try.prog w = .ok (.slice (some ⟨w.heap.size, 0, none⟩) n n) (w.alloc (.cells (rv n fun _ => 0) 3)) := by
  obtain ⟨i, hi, hz0, hz1, hz2⟩ := info_parts (P := Try.prog) (e := 3) (z := .int .i64 0) (size := 1) (bytes := 8) (by kernel_rfl)
  have := run_make (P := Try.prog) w 37 3 i (.int .i64 0) Try.underlying37 hi hz0 .i64 .i64 n n (by omega) (Int.le_refl _) (by rw [hz2]; omega) (by omega)
  rw [this, hz1]
  simp [Value.cells, made_ints]

/-- The layout's box at p, the number's at q, the row's at s, the row at r. -/
structure Sn (p q s r : Nat) (t g b : Int) (n : Nat) (f : Nat → Int) (w0 w : World) : Prop where
  hl : w.heap[p]? = some (.cells #[.int .i64 t, .int .i64 g, .int .i64 b] 23 (0, 0))
  hn : w.heap[q]? = some (.cells #[.int .i64 n] 3 (0, 0))
  hs : w.heap[s]? = some (.cells #[.slice (some ⟨r, 0, none⟩) n n] 37 (0, 0))
  hr : w.heap[r]? = some (.cells (rv n f) 3 (0, 0))
  kp : Kp [] w0 w
  ge : w0.heap.size ≤ r
  n1 : p ≠ r
  n2 : q ≠ r
  n3 : s ≠ r

section
variable {p q s r : Nat} {t g b : Int} {n : Nat} {f : Nat → Int} {w0 w w' : World}
theorem Sn.on (h : Sn p q s r t g b n f w0 w) (k : Kp [] w w') : Sn p q s r t g b n f w0 w' :=
  ⟨k.row (by simp) h.hl, k.row (by simp) h.hn, k.row (by simp) h.hs, k.row (by simp) h.hr, h.kp.trans k, h.ge, h.n1, h.n2, h.n3⟩
theorem Sn.store (h : Sn p q s r t g b n f w0 w) (i : Nat) (z : Int) : Sn p q s r t g b n (fun j => if j = i then z else f j) w0 (w.setCell ⟨r, i, none⟩ (.int .i64 z)) := by
  refine ⟨?_, ?_, ?_, ?_, h.kp.setCell (.inr h.ge) _, h.ge, h.n1, h.n2, h.n3⟩
  · rw [heap_setCell_other _ _ _ _ (by simpa using h.n1)]; exact h.hl
  · rw [heap_setCell_other _ _ _ _ (by simpa using h.n2)]; exact h.hn
  · rw [heap_setCell_other _ _ _ _ (by simpa using h.n3)]; exact h.hs
  · rw [heap_setCell_same _ _ _ _ _ _ h.hr, rv_set]
theorem Sn.cl0 (h : Sn p q s r t g b n f w0 w) : w.cell? ⟨p, 0, none⟩ = some (.int .i64 t) := by rw [cell_of_row h.hl]; rfl
theorem Sn.cl1 (h : Sn p q s r t g b n f w0 w) : w.cell? ⟨p, 1, none⟩ = some (.int .i64 g) := by rw [cell_of_row h.hl]; rfl
theorem Sn.cl2 (h : Sn p q s r t g b n f w0 w) : w.cell? ⟨p, 2, none⟩ = some (.int .i64 b) := by rw [cell_of_row h.hl]; rfl
theorem Sn.cn (h : Sn p q s r t g b n f w0 w) : w.cell? ⟨q, 0, none⟩ = some (.int .i64 n) := by rw [cell_of_row h.hn]; rfl
theorem Sn.cs (h : Sn p q s r t g b n f w0 w) : w.cell? ⟨s, 0, none⟩ = some (.slice (some ⟨r, 0, none⟩) n n) := by rw [cell_of_row h.hs]; rfl
theorem Sn.cr (h : Sn p q s r t g b n f w0 w) {i : Nat} (hi : i < n) : w.cell? ⟨r, i, none⟩ = some (.int .i64 (f i)) := by rw [cell_of_row h.hr, rv_get _ _ _ hi]
theorem Sn.fr (h : Sn p q s r t g b n f w0 w) (i : Nat) : w.frozen? ⟨r, i, none⟩ = false := free_of_row h.hr i
theorem Sn.as (h : Sn p q s r t g b n f w0 w) {f' : Nat → Int} (e : f = f') : Sn p q s r t g b n f' w0 w := e ▸ h
end

/-- What is marked behind a call of the closure. -/
def mk (a k : Nat) (f : Nat → Int) (j : Nat) : Int := if a ≤ j ∧ j < a + k then 1 else f j

set_option maxRecDepth 100000 in
set_option maxHeartbeats 1000000 in
theorem mark_is (p q s r a k n : Nat) (t g b : Int) (f : Nat → Int) (w0 w : World) (h : Sn p q s r t g b n f w0 w) (hn : n ≤ 4096) (hak : a + k ≤ n) (hf : ∀ j, a ≤ j → j < a + k → f j = 0) :
    Calls Try.prog 22 #[.int .i64 a, .int .i64 k, .pointer (some ⟨q, 0, none⟩), .pointer (some ⟨s, 0, none⟩)] w fun e w' => e = .returned (.bool true) ∧ Sn p q s r t g b n (mk a k f) w0 w' := by
  have H := Lib.hid h
  have HF := Lib.hid hf
  clear h hf
  go_enter Try.func22, Try.ntmps22
  go_wp2_with fail
  go_loopg [7] k (fun gg iv wr => ∃ j : Nat, a ≤ j ∧ j + gg = a + k ∧ iv = .int .i64 j ∧ Sn p q s r t g b n (mk a (j - a) f) w0 wr)
  case atStart => exact ⟨a, Nat.le_refl _, rfl, rfl, H.out.as (by funext i; unfold mk; rw [if_neg (by omega)])⟩
  case round =>
    obtain ⟨j, haj, hjg, rfl, S⟩ := hrel
    have HS := Lib.hid S
    have cn := S.cn
    have cs := S.cs
    by_cases hj : j < a + k
    · have cr := S.cr (i := j) (by omega)
      rw [show mk a (j - a) f j = 0 from by unfold mk; rw [if_neg (by omega)]; exact HF.out j haj hj] at cr
      have fr := S.fr j
      have hjn : j < n := by omega
      clear S
      go_wp2
      go_roundg (a + k - (j + 1))
      case rel =>
        refine ⟨j + 1, by omega, by omega, by go_num, (HS.out.store j 1).as ?_⟩
        funext i
        unfold mk
        by_cases e : i = j
        · rw [if_pos e, if_pos (by omega)]
        · rw [if_neg e]
          by_cases e2 : a ≤ i ∧ i < a + (j - a)
          · rw [if_pos e2, if_pos (by omega)]
          · rw [if_neg e2, if_neg (by omega)]
      case measure => omega
    · obtain rfl : j = a + k := by omega
      clear S cn cs
      go_wp2
      go_ret
      exact ⟨rfl, HS.out.as (by rw [show a + k - a = k from by omega])⟩

end Go.Proofs.Ytppddidejljfiaa
