/- A thread's roots as the walks hold them: a block with the slots, how many there are, the stack, and how many it has. Conditions: as each lemma states them. -/
import Derived.Test.YtmbhhadghiojeaaGreatRow
namespace Go.Proofs.YtmbhhadghiojeaaGreat
set_option linter.unusedVariables false
set_option linter.unusedSimpArgs false
open Go.RowKit

/-- Roots at p: the slots' references, the stack's. -/
structure Rt (w : World) (p : Nat) (A L : List Int) : Prop where
  ex : ∃ cs : Array Value, w.heap[p]? = some (.cells cs 97 (0, 0)) ∧ cs.size = 26 ∧ (∀ i, i < A.length → cs[i]? = some (.int .i64 (A.getD i 0))) ∧ cs[8]? = some (.int .i64 A.length) ∧ (∀ i, i < L.length → cs[9 + i]? = some (.int .i64 (L.getD i 0))) ∧ cs[25]? = some (.int .i64 L.length)
  la : A.length ≤ 8
  ll : L.length ≤ 16

section
variable {w w' : World} {p : Nat} {A L : List Int}
theorem Rt.keep {S : List Nat} (h : Rt w p A L) (k : Kp S w w') (hp : p ∉ S) : Rt w' p A L := by
  obtain ⟨cs, h1, h2⟩ := h.ex
  exact ⟨⟨cs, k.row hp h1, h2⟩, h.la, h.ll⟩
theorem Rt.keep0 (h : Rt w p A L) (k : Kp [] w w') : Rt w' p A L := h.keep k (by simp)
theorem Rt.c8 (h : Rt w p A L) : w.cell? ⟨p, 8, none⟩ = some (.int .i64 A.length) := by
  obtain ⟨cs, h1, _, _, h2, _⟩ := h.ex
  rw [cell_of_row h1, h2]
theorem Rt.c25 (h : Rt w p A L) : w.cell? ⟨p, 25, none⟩ = some (.int .i64 L.length) := by
  obtain ⟨cs, h1, _, _, _, _, h2⟩ := h.ex
  rw [cell_of_row h1, h2]
theorem Rt.cA (h : Rt w p A L) {i : Nat} (hi : i < A.length) : w.cell? ⟨p, i, none⟩ = some (.int .i64 (A.getD i 0)) := by
  obtain ⟨cs, h1, _, h2, _⟩ := h.ex
  rw [cell_of_row h1, h2 i hi]
theorem Rt.cL (h : Rt w p A L) {i : Nat} (hi : i < L.length) : w.cell? ⟨p, 9 + i, none⟩ = some (.int .i64 (L.getD i 0)) := by
  obtain ⟨cs, h1, _, _, _, h2, _⟩ := h.ex
  rw [cell_of_row h1, h2 i hi]
theorem Rt.room (h : Rt w p A L) {i : Nat} (hi : i < 26) : ∃ v, w.cell? ⟨p, i, none⟩ = some v := by
  obtain ⟨cs, h1, h2, _⟩ := h.ex
  rw [cell_of_row h1]
  exact ⟨cs[i], by simp [h2, hi]⟩
theorem Rt.f (h : Rt w p A L) (i : Nat) : w.frozen? ⟨p, i, none⟩ = false := by
  obtain ⟨cs, h1, _⟩ := h.ex
  exact free_of_row h1 i
theorem Rt.lt (h : Rt w p A L) : p < w.heap.size := by
  obtain ⟨cs, h1, _⟩ := h.ex
  exact lt_of_block h1
theorem Rt.row (h : Rt w p A L) : ∃ cs : Array Value, w.heap[p]? = some (.cells cs 97 (0, 0)) := by
  obtain ⟨cs, h1, _⟩ := h.ex
  exact ⟨cs, h1⟩
theorem getD_set (A : List Int) (k i : Nat) (x : Int) (h : k < A.length) : (A.set k x).getD i 0 = if i = k then x else A.getD i 0 := by
  by_cases e : i = k
  · subst e; simp [List.getD, h]
  · rw [if_neg e]
    simp only [List.getD]
    rw [List.getElem?_set_ne (Ne.symm e)]
/-- A slot's reference is stored. -/
theorem Rt.set (h : Rt w p A L) {k : Nat} (x : Int) (hk : k < A.length) : Rt (w.setCell ⟨p, k, none⟩ (.int .i64 x)) p (A.set k x) L := by
  obtain ⟨cs, h1, h2, h3, h4, h5, h6⟩ := h.ex
  have la := h.la
  refine ⟨⟨_, heap_setCell_same _ _ _ _ _ _ h1, by simpa using h2, ?_, ?_, ?_, ?_⟩, by simpa using h.la, h.ll⟩
  · intro i hi
    rw [getD_set A k i x hk]
    by_cases e : i = k
    · subst e
      rw [Array.getElem?_setIfInBounds_self_of_lt (by omega), if_pos rfl]
    · rw [Array.getElem?_setIfInBounds_ne (Ne.symm e), h3 i (by simpa using hi), if_neg e]
  · rw [Array.getElem?_setIfInBounds_ne (by omega), h4]; simp
  · intro i hi
    rw [Array.getElem?_setIfInBounds_ne (by omega), h5 i hi]
  · rw [Array.getElem?_setIfInBounds_ne (by omega), h6]
/-- A reference is put onto the stack. -/
theorem Rt.push (h : Rt w p A L) (x : Int) (hl : L.length < 16) : Rt ((w.setCell ⟨p, 9 + L.length, none⟩ (.int .i64 x)).setCell ⟨p, 25, none⟩ (.int .i64 ((L.length : Int) + 1))) p A (L ++ [x]) := by
  obtain ⟨cs, h1, h2, h3, h4, h5, h6⟩ := h.ex
  have la := h.la
  refine ⟨⟨_, heap_setCell_same _ _ _ _ _ _ (heap_setCell_same _ _ _ _ _ _ h1), by simpa using h2, ?_, ?_, ?_, ?_⟩, h.la, by simp; omega⟩
  · intro i hi
    rw [Array.getElem?_setIfInBounds_ne (by omega), Array.getElem?_setIfInBounds_ne (by omega), h3 i hi]
  · rw [Array.getElem?_setIfInBounds_ne (by omega), Array.getElem?_setIfInBounds_ne (by omega), h4]
  · intro i hi
    rw [Array.getElem?_setIfInBounds_ne (by simp at hi; omega)]
    by_cases e : i = L.length
    · subst e
      rw [Array.getElem?_setIfInBounds_self_of_lt (by omega)]
      simp
    · have hi' : i < L.length := by simp at hi; omega
      rw [Array.getElem?_setIfInBounds_ne (by omega), h5 i hi']
      simp [List.getD, hi', List.getElem?_append_left hi']
  · rw [Array.getElem?_setIfInBounds_self_of_lt (by simp; omega)]
    simp
/-- The stack's top reference is taken away, and its place is cleared. -/
theorem Rt.pop {x : Int} (h : Rt w p A (L ++ [x])) {k : Nat} (hk : k < A.length) : Rt (((w.setCell ⟨p, 25, none⟩ (.int .i64 L.length)).setCell ⟨p, k, none⟩ (.int .i64 x)).setCell ⟨p, 9 + L.length, none⟩ (.int .i64 0)) p (A.set k x) L := by
  obtain ⟨cs, h1, h2, h3, h4, h5, h6⟩ := h.ex
  have la := h.la
  have ll := h.ll
  simp at ll
  refine ⟨⟨_, heap_setCell_same _ _ _ _ _ _ (heap_setCell_same _ _ _ _ _ _ (heap_setCell_same _ _ _ _ _ _ h1)), by simpa using h2, ?_, ?_, ?_, ?_⟩, by simpa using h.la, by omega⟩
  · intro i hi
    simp at hi
    rw [Array.getElem?_setIfInBounds_ne (by omega), getD_set A k i x hk]
    by_cases e : i = k
    · subst e
      rw [Array.getElem?_setIfInBounds_self_of_lt (by simp; omega), if_pos rfl]
    · rw [Array.getElem?_setIfInBounds_ne (Ne.symm e), Array.getElem?_setIfInBounds_ne (by omega), h3 i hi, if_neg e]
  · rw [Array.getElem?_setIfInBounds_ne (by omega), Array.getElem?_setIfInBounds_ne (by omega), Array.getElem?_setIfInBounds_ne (by omega), h4]; simp
  · intro i hi
    rw [Array.getElem?_setIfInBounds_ne (by omega), Array.getElem?_setIfInBounds_ne (by omega), Array.getElem?_setIfInBounds_ne (by omega), h5 i (by simp; omega)]
    simp [List.getD, hi, List.getElem?_append_left hi]
  · rw [Array.getElem?_setIfInBounds_ne (by omega), Array.getElem?_setIfInBounds_ne (by omega), Array.getElem?_setIfInBounds_self_of_lt (by omega)]
end

end Go.Proofs.YtmbhhadghiojeaaGreat
