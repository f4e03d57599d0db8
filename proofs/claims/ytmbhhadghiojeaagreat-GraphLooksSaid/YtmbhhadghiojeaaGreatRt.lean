/- The walks of package roots but All: New, Get, Set, Push, Pop, Slots, Depth, Stack, and all of them at nil. Conditions: as each theorem states them. -/
import Derived.Test.YtmbhhadghiojeaaGreatRtB
import Derived.WalkKit
import Derived.WalkSpells
import Derived.WalkLawsBesides
import Derived.BigQuiet
import Derived.RegionTactic
import Derived.ArgAppend
import Derived.Laws.CopyRow
import Derived.Deep.WholeRow
import Derived.Lib.Hide
namespace Go.Proofs.YtmbhhadghiojeaaGreat
set_option linter.unusedVariables false
set_option linter.unusedSimpArgs false
open Go.RowKit

theorem new_bad (w : World) (n : Int) (h : n < 1 ∨ 8 < n) : Calls Tryz.prog 22 #[.int .i64 n] w fun e w' => e = .returned (.tuple #[.pointer none, .int .i64 2]) ∧ w = w' := by
  rcases h with h | h
  · go_enter Tryz.func22, Tryz.ntmps22
    go_wp2
    go_ret2
    exact ⟨rfl, rfl⟩
  · have h1 : ¬ n < 1 := by omega
    go_enter Tryz.func22, Tryz.ntmps22
    go_wp2
    go_ret2
    exact ⟨rfl, rfl⟩

theorem new_good (w : World) (n : Nat) (h1 : 1 ≤ n) (h2 : n ≤ 8) : Calls Tryz.prog 22 #[.int .i64 n] w fun e w' => e = .returned (.tuple #[.pointer (some ⟨w.heap.size, 0, none⟩), .int .i64 0]) ∧ Rt w' w.heap.size (List.replicate n 0) [] ∧ Kp [] w w' := by
  go_enter Tryz.func22, Tryz.ntmps22
  go_wp2
  go_ret2
  refine ⟨rfl, ⟨⟨_, heap_alloc_new w _, rfl, ?_, by simp, fun i hi => by simp at hi, rfl⟩, by simpa using h2, Nat.zero_le _⟩, (Kp.refl _ _).alloc _⟩
  intro i hi
  rw [List.length_replicate] at hi
  have hg : (List.replicate n (0 : Int)).getD i 0 = 0 := by simp [List.getD, hi]
  rw [hg]
  have h8 : i < 8 := by omega
  clear hg hi
  have : i = 0 ∨ i = 1 ∨ i = 2 ∨ i = 3 ∨ i = 4 ∨ i = 5 ∨ i = 6 ∨ i = 7 := by omega
  rcases this with rfl | rfl | rfl | rfl | rfl | rfl | rfl | rfl <;> rfl

theorem slots_any (w : World) (p : Nat) (A L : List Int) (h : Rt w p A L) :
    Calls Tryz.prog 86 #[.pointer (some ⟨p, 0, none⟩)] w fun e w' => e = .returned (.int .i64 A.length) ∧ w = w' := by
  have hc1 := h.c8
  go_enter Tryz.func86, Tryz.ntmps86
  go_wp2
  go_ret
  exact ⟨rfl, rfl⟩
theorem slots_nil (w : World) : Calls Tryz.prog 86 #[.pointer none] w fun e w' => e = .returned (.int .i64 0) ∧ w = w' := by
  go_enter Tryz.func86, Tryz.ntmps86
  go_wp2
  go_ret
  exact ⟨rfl, rfl⟩
theorem depth_any (w : World) (p : Nat) (A L : List Int) (h : Rt w p A L) :
    Calls Tryz.prog 101 #[.pointer (some ⟨p, 0, none⟩)] w fun e w' => e = .returned (.int .i64 L.length) ∧ w = w' := by
  have hc1 := h.c25
  go_enter Tryz.func101, Tryz.ntmps101
  go_wp2
  go_ret
  exact ⟨rfl, rfl⟩
theorem depth_nil (w : World) : Calls Tryz.prog 101 #[.pointer none] w fun e w' => e = .returned (.int .i64 0) ∧ w = w' := by
  go_enter Tryz.func101, Tryz.ntmps101
  go_wp2
  go_ret
  exact ⟨rfl, rfl⟩

theorem wrong_nil (w : World) (k : Int) : Calls Tryz.prog 93 #[.pointer none, .int .i64 k] w fun e w' => e = .returned (.int .i64 1) ∧ w = w' := by
  go_enter Tryz.func93, Tryz.ntmps93
  go_wp2
  go_ret
  exact ⟨rfl, rfl⟩
theorem wrong_bad (w : World) (p : Nat) (A L : List Int) (h : Rt w p A L) (k : Int) (hk : k < 0 ∨ (A.length : Int) ≤ k) :
    Calls Tryz.prog 93 #[.pointer (some ⟨p, 0, none⟩), .int .i64 k] w fun e w' => e = .returned (.int .i64 2) ∧ w = w' := by
  have hc1 := h.c8
  clear h
  rcases hk with hk | hk
  · go_enter Tryz.func93, Tryz.ntmps93
    go_wp2
    go_ret
    exact ⟨rfl, rfl⟩
  · have hk0 : ¬ k < 0 := by omega
    go_enter Tryz.func93, Tryz.ntmps93
    go_wp2
    go_ret
    exact ⟨rfl, rfl⟩
theorem wrong_ok (w : World) (p : Nat) (A L : List Int) (h : Rt w p A L) (k : Nat) (hk : k < A.length) :
    Calls Tryz.prog 93 #[.pointer (some ⟨p, 0, none⟩), .int .i64 k] w fun e w' => e = .returned (.int .i64 0) ∧ w = w' := by
  have hc1 := h.c8
  clear h
  generalize A.length = n at *
  go_enter Tryz.func93, Tryz.ntmps93
  go_wp2
  go_ret
  exact ⟨rfl, rfl⟩

theorem get_nil (w : World) (k : Int) : Calls Tryz.prog 94 #[.pointer none, .int .i64 k] w fun e w' => e = .returned (.tuple #[.int .i64 0, .int .i64 1]) ∧ w = w' := by
  have hw := wrong_nil w k
  go_enter Tryz.func94, Tryz.ntmps94
  go_wp2_with ((with_reducible refine hw.mono ?_); rintro e w1 ⟨rfl, rfl⟩)
  go_ret2
  exact ⟨rfl, rfl⟩
theorem get_bad (w : World) (p : Nat) (A L : List Int) (h : Rt w p A L) (k : Int) (hk : k < 0 ∨ (A.length : Int) ≤ k) :
    Calls Tryz.prog 94 #[.pointer (some ⟨p, 0, none⟩), .int .i64 k] w fun e w' => e = .returned (.tuple #[.int .i64 0, .int .i64 2]) ∧ w = w' := by
  have hw := wrong_bad w p A L h k hk
  clear h hk
  go_enter Tryz.func94, Tryz.ntmps94
  go_wp2_with ((with_reducible refine hw.mono ?_); rintro e w1 ⟨rfl, rfl⟩)
  go_ret2
  exact ⟨rfl, rfl⟩
theorem get_ok (w : World) (p : Nat) (A L : List Int) (h : Rt w p A L) (k : Nat) (hk : k < A.length) :
    Calls Tryz.prog 94 #[.pointer (some ⟨p, 0, none⟩), .int .i64 k] w fun e w' => e = .returned (.tuple #[.int .i64 (A.getD k 0), .int .i64 0]) ∧ w = w' := by
  have hw := wrong_ok w p A L h k hk
  have hc := h.cA hk
  have hk8 : k < 8 := by have := h.la; omega
  clear h hk
  generalize A.getD k 0 = x at *
  go_enter Tryz.func94, Tryz.ntmps94
  go_wp2_with ((with_reducible refine hw.mono ?_); rintro e w1 ⟨rfl, rfl⟩)
  go_ret2
  exact ⟨rfl, rfl⟩

theorem set_nil (w : World) (k x : Int) : Calls Tryz.prog 58 #[.pointer none, .int .i64 k, .int .i64 x] w fun e w' => e = .returned (.int .i64 1) ∧ w = w' := by
  have hw := wrong_nil w k
  go_enter Tryz.func58, Tryz.ntmps58
  go_wp2_with ((with_reducible refine hw.mono ?_); rintro e w1 ⟨rfl, rfl⟩)
  go_ret
  exact ⟨rfl, rfl⟩
theorem set_bad (w : World) (p : Nat) (A L : List Int) (h : Rt w p A L) (k x : Int) (hk : k < 0 ∨ (A.length : Int) ≤ k ∨ x < 0) :
    Calls Tryz.prog 58 #[.pointer (some ⟨p, 0, none⟩), .int .i64 k, .int .i64 x] w fun e w' => e = .returned (.int .i64 2) ∧ w = w' := by
  by_cases hb : k < 0 ∨ (A.length : Int) ≤ k
  · have hw := wrong_bad w p A L h k hb
    clear h hk hb
    go_enter Tryz.func58, Tryz.ntmps58
    go_wp2_with ((with_reducible refine hw.mono ?_); rintro e w1 ⟨rfl, rfl⟩)
    go_ret
    exact ⟨rfl, rfl⟩
  · obtain ⟨j, rfl⟩ : ∃ j : Nat, k = j := ⟨k.toNat, by omega⟩
    have hw := wrong_ok w p A L h j (by omega)
    have hx : x < 0 := by omega
    clear h hk hb
    go_enter Tryz.func58, Tryz.ntmps58
    go_wp2_with ((with_reducible refine hw.mono ?_); rintro e w1 ⟨rfl, rfl⟩)
    go_ret
    exact ⟨rfl, rfl⟩
theorem set_ok (w : World) (p : Nat) (A L : List Int) (h : Rt w p A L) (k : Nat) (x : Int) (hk : k < A.length) (hx : 0 ≤ x) :
    Calls Tryz.prog 58 #[.pointer (some ⟨p, 0, none⟩), .int .i64 k, .int .i64 x] w fun e w' => e = .returned (.int .i64 0) ∧ Rt w' p (A.set k x) L ∧ Kp [p] w w' := by
  have hw := wrong_ok w p A L h k hk
  have hc := h.cA hk
  have hf := h.f k
  have hk8 : k < 8 := by have := h.la; omega
  have HS := Lib.hid (And.intro (h.set x hk) ((Kp.refl [p] w).setCell (p := ⟨p, k, none⟩) (.inl (by simp)) (.int .i64 x)))
  clear h hk
  generalize A.getD k 0 = y at *
  go_enter Tryz.func58, Tryz.ntmps58
  go_wp2_with ((with_reducible refine hw.mono ?_); rintro e w1 ⟨rfl, rfl⟩)
  go_ret
  exact ⟨rfl, HS.out⟩

theorem push_nil (w : World) (k : Int) : Calls Tryz.prog 73 #[.pointer none, .int .i64 k] w fun e w' => e = .returned (.int .i64 1) ∧ w = w' := by
  have hw := wrong_nil w k
  go_enter Tryz.func73, Tryz.ntmps73
  go_wp2_with ((with_reducible refine hw.mono ?_); rintro e w1 ⟨rfl, rfl⟩)
  go_ret
  exact ⟨rfl, rfl⟩
theorem push_bad (w : World) (p : Nat) (A L : List Int) (h : Rt w p A L) (k : Int) (hk : k < 0 ∨ (A.length : Int) ≤ k) :
    Calls Tryz.prog 73 #[.pointer (some ⟨p, 0, none⟩), .int .i64 k] w fun e w' => e = .returned (.int .i64 2) ∧ w = w' := by
  have hw := wrong_bad w p A L h k hk
  clear h hk
  go_enter Tryz.func73, Tryz.ntmps73
  go_wp2_with ((with_reducible refine hw.mono ?_); rintro e w1 ⟨rfl, rfl⟩)
  go_ret
  exact ⟨rfl, rfl⟩
theorem push_full (w : World) (p : Nat) (A L : List Int) (h : Rt w p A L) (k : Nat) (hk : k < A.length) (hl : L.length = 16) :
    Calls Tryz.prog 73 #[.pointer (some ⟨p, 0, none⟩), .int .i64 k] w fun e w' => e = .returned (.int .i64 4) ∧ w = w' := by
  have hw := wrong_ok w p A L h k hk
  have hc := h.c25
  rw [hl] at hc
  clear h hk hl
  go_enter Tryz.func73, Tryz.ntmps73
  go_wp2_with ((with_reducible refine hw.mono ?_); rintro e w1 ⟨rfl, rfl⟩)
  go_ret
  exact ⟨rfl, rfl⟩
theorem push_ok (w : World) (p : Nat) (A L : List Int) (h : Rt w p A L) (k : Nat) (hk : k < A.length) (hl : L.length < 16) :
    Calls Tryz.prog 73 #[.pointer (some ⟨p, 0, none⟩), .int .i64 k] w fun e w' => e = .returned (.int .i64 0) ∧ Rt w' p A (L ++ [A.getD k 0]) ∧ Kp [p] w w' := by
  have hw := wrong_ok w p A L h k hk
  have hc := h.c25
  have hcA := h.cA hk
  have hf1 := h.f 25
  have hf2 := h.f (9 + L.length)
  obtain ⟨v, hv⟩ := h.room (i := 9 + L.length) (by omega)
  have hk8 : k < 8 := by have := h.la; omega
  have HS := Lib.hid (And.intro (h.push (A.getD k 0) hl) (((Kp.refl [p] w).setCell (p := ⟨p, 9 + L.length, none⟩) (.inl (by simp)) (.int .i64 (A.getD k 0))).setCell (p := ⟨p, 25, none⟩) (.inl (by simp)) (.int .i64 ((L.length : Int) + 1))))
  clear h hk
  generalize A.getD k 0 = x at *
  generalize L.length = m at *
  go_enter Tryz.func73, Tryz.ntmps73
  go_wp2_with ((with_reducible refine hw.mono ?_); rintro e w1 ⟨rfl, rfl⟩)
  go_region
  go_wp2_with fail
  go_ret
  exact ⟨rfl, HS.out.1.keep0 (Kp.refl _ _).drew, HS.out.2.drew⟩

theorem pop_nil (w : World) (k : Int) : Calls Tryz.prog 75 #[.pointer none, .int .i64 k] w fun e w' => e = .returned (.int .i64 1) ∧ w = w' := by
  have hw := wrong_nil w k
  go_enter Tryz.func75, Tryz.ntmps75
  go_wp2_with ((with_reducible refine hw.mono ?_); rintro e w1 ⟨rfl, rfl⟩)
  go_ret
  exact ⟨rfl, rfl⟩
theorem pop_bad (w : World) (p : Nat) (A L : List Int) (h : Rt w p A L) (k : Int) (hk : k < 0 ∨ (A.length : Int) ≤ k) :
    Calls Tryz.prog 75 #[.pointer (some ⟨p, 0, none⟩), .int .i64 k] w fun e w' => e = .returned (.int .i64 2) ∧ w = w' := by
  have hw := wrong_bad w p A L h k hk
  clear h hk
  go_enter Tryz.func75, Tryz.ntmps75
  go_wp2_with ((with_reducible refine hw.mono ?_); rintro e w1 ⟨rfl, rfl⟩)
  go_ret
  exact ⟨rfl, rfl⟩
theorem pop_empty (w : World) (p : Nat) (A : List Int) (h : Rt w p A []) (k : Nat) (hk : k < A.length) :
    Calls Tryz.prog 75 #[.pointer (some ⟨p, 0, none⟩), .int .i64 k] w fun e w' => e = .returned (.int .i64 5) ∧ w = w' := by
  have hw := wrong_ok w p A [] h k hk
  have hc : w.cell? ⟨p, 25, none⟩ = some (.int .i64 0) := h.c25
  clear h hk
  go_enter Tryz.func75, Tryz.ntmps75
  go_wp2_with ((with_reducible refine hw.mono ?_); rintro e w1 ⟨rfl, rfl⟩)
  go_ret
  exact ⟨rfl, rfl⟩
theorem pop_ok (w : World) (p : Nat) (A L : List Int) (x : Int) (h : Rt w p A (L ++ [x])) (k : Nat) (hk : k < A.length) :
    Calls Tryz.prog 75 #[.pointer (some ⟨p, 0, none⟩), .int .i64 k] w fun e w' => e = .returned (.int .i64 0) ∧ Rt w' p (A.set k x) L ∧ Kp [p] w w' := by
  have hw := wrong_ok w p A (L ++ [x]) h k hk
  have hl := h.ll
  have hc := h.c25
  have hcL := h.cL (i := L.length) (by simp)
  rw [show (L ++ [x]).getD L.length 0 = x from by simp [List.getD]] at hcL
  rw [show (L ++ [x]).length = L.length + 1 from by simp] at hc hl
  have hcA := h.cA hk
  have hf0 := h.f k
  have hf1 := h.f 25
  have hf2 := h.f (9 + L.length)
  have hk8 : k < 8 := by have := h.la; omega
  have HS := Lib.hid (And.intro (h.pop hk) ((((Kp.refl [p] w).setCell (p := ⟨p, 25, none⟩) (.inl (by simp)) (.int .i64 L.length)).setCell (p := ⟨p, k, none⟩) (.inl (by simp)) (.int .i64 x)).setCell (p := ⟨p, 9 + L.length, none⟩) (.inl (by simp)) (.int .i64 0)))
  clear h hk
  generalize A.getD k 0 = y at *
  generalize L.length = m at *
  go_enter Tryz.func75, Tryz.ntmps75
  go_wp2_with ((with_reducible refine hw.mono ?_); rintro e w1 ⟨rfl, rfl⟩)
  go_region
  go_wp2_with fail
  go_region
  go_wp2_with fail
  go_ret
  exact ⟨rfl, HS.out.1.keep0 (kp_drewN _ 2), HS.out.2.trans (kp_drewN _ 2)⟩

theorem stack_nil (w : World) : Calls Tryz.prog 87 #[.pointer none] w fun e w' => e = .returned (.slice (some ⟨w.heap.size, 0, none⟩) 0 0) ∧ Kp [] w w' := by
  have hl := depth_nil w
  have hmk : ∀ w : World, (Instr.makeSlice 37 (.int .i64 0) (.int .i64 0)).run Tryz.prog w = .ok (.slice (some ⟨w.heap.size, 0, none⟩) 0 0) (w.alloc (.cells #[] 3)) := make_ints 0 (by omega)
  go_enter Tryz.func87, Tryz.ntmps87
  go_wp2_with ((with_reducible refine hl.mono ?_); rintro e w1 ⟨rfl, rfl⟩)
  go_ret
  exact ⟨rfl, (Kp.refl _ _).alloc _⟩
/-- Stack: the stack's references, in a row of their own. -/
theorem stack_any (w : World) (p : Nat) (A L : List Int) (h : Rt w p A L) :
    Calls Tryz.prog 87 #[.pointer (some ⟨p, 0, none⟩)] w fun e w' => e = .returned (.slice (some ⟨w.heap.size, 0, none⟩) L.length L.length) ∧ w'.heap[w.heap.size]? = some (.cells (ints L).toArray 3 (0, 0)) ∧ Kp [] w w' := by
  have hl := depth_any w p A L h
  have hm := h.ll
  have hmk := make_ints L.length (by omega)
  have ha := heap_alloc_new w (Obj.cells (ints (List.replicate L.length 0)).toArray 3)
  have hkp : Kp [] w (w.alloc (Obj.cells (ints (List.replicate L.length 0)).toArray 3)) := (Kp.refl [] w).alloc _
  have hsrc : ∀ j v, (ints L)[j]? = some v → (w.alloc (Obj.cells (ints (List.replicate L.length 0)).toArray 3)).cell? ((⟨p, 9, none⟩ : Addr).add j) = some v := by
    intro j v hv
    have hj : j < L.length := by
      have := (List.getElem?_eq_some_iff.1 hv).1
      simpa [ints] using this
    rw [Addr.add_lit, hkp.cell (by simp) (h.cL hj), ← hv, ints_get L j hj]
  have hcp := run_copy_row (P := Tryz.prog) (w.alloc (Obj.cells (ints (List.replicate L.length 0)).toArray 3)) 37 37 3 3 w.heap.size 0 L.length L.length ⟨p, 9, none⟩ 16 16 (ints (List.replicate L.length 0)).toArray 3 (ints L)
    Tryz.underlying37 (by kernel_rfl) ha (by rw [ints_len]; exact (Nat.min_eq_right hm).symm) hsrc (by simp [ints]) (ones_ints L)
  have e1 : ((ints (List.replicate L.length 0)).toArray.toList.take 0 ++ ints L ++ (ints (List.replicate L.length 0)).toArray.toList.drop (0 + (ints L).length)).toArray = (ints L).toArray := by
    simp [ints]
  rw [e1] at hcp
  have hend := setRow_heap (w.alloc (Obj.cells (ints (List.replicate L.length 0)).toArray 3)) w.heap.size _ (ints L).toArray 3 (0, 0) ha
  have hkp2 : Kp [] w ((w.alloc (Obj.cells (ints (List.replicate L.length 0)).toArray 3)).setRow w.heap.size (ints L).toArray) := hkp.setRow (.inr (Nat.le_refl _)) _
  have hpl := h.lt
  clear hsrc e1 ha hkp h
  generalize (w.alloc (Obj.cells (ints (List.replicate L.length 0)).toArray 3)).setRow w.heap.size (ints L).toArray = w2 at hcp hend hkp2
  have HE := Lib.hid (And.intro hend hkp2)
  clear hend hkp2
  generalize (ints (List.replicate L.length 0)).toArray = zs at hmk hcp
  generalize L.length = k at hl hmk hcp hm
  go_enter Tryz.func87, Tryz.ntmps87
  go_wp2_with ((with_reducible refine hl.mono ?_); rintro e w1 ⟨rfl, rfl⟩)
  go_ret
  exact ⟨rfl, HE.out⟩

/-! ### Whatever the numbers are: what each act answers, and what it makes of the roots -/

def badS (A : List Int) (k : Int) : Bool := decide (k < 0) || decide ((A.length : Int) ≤ k)
def setE (A : List Int) (k x : Int) : Int := if badS A k || decide (x < 0) then 2 else 0
def setA (A : List Int) (k x : Int) : List Int := if badS A k || decide (x < 0) then A else A.set k.toNat x
def pushE (A L : List Int) (k : Int) : Int := if badS A k then 2 else if L.length = 16 then 4 else 0
def pushL (A L : List Int) (k : Int) : List Int := if badS A k then L else if L.length = 16 then L else L ++ [A.getD k.toNat 0]
def popE (A L : List Int) (k : Int) : Int := if badS A k then 2 else if L = [] then 5 else 0
def popA (A L : List Int) (k : Int) : List Int := if badS A k then A else if L = [] then A else A.set k.toNat (L.getLastD 0)
def popL (A L : List Int) (k : Int) : List Int := if badS A k then L else L.dropLast

theorem badS_or {A : List Int} {k : Int} (h : badS A k = true) : k < 0 ∨ (A.length : Int) ≤ k := by simpa [badS] using h
theorem badS_no {A : List Int} {k : Int} (h : badS A k = false) : ∃ j : Nat, k = j ∧ j < A.length := by
  simp [badS] at h
  exact ⟨k.toNat, by omega, by omega⟩

theorem set_any (w : World) (p : Nat) (A L : List Int) (h : Rt w p A L) (k x : Int) :
    Calls Tryz.prog 58 #[.pointer (some ⟨p, 0, none⟩), .int .i64 k, .int .i64 x] w fun e w' => e = .returned (.int .i64 (setE A k x)) ∧ Rt w' p (setA A k x) L ∧ Kp [p] w w' := by
  by_cases hb : (badS A k || decide (x < 0)) = true
  · rw [show setE A k x = 2 from if_pos hb, show setA A k x = A from if_pos hb]
    refine (set_bad w p A L h k x ?_).mono ?_
    · rw [Bool.or_eq_true] at hb
      rcases hb with hb | hb
      · rcases badS_or hb with q | q
        · exact .inl q
        · exact .inr (.inl q)
      · exact .inr (.inr (by simpa using hb))
    · rintro e w' ⟨rfl, rfl⟩
      exact ⟨rfl, h, Kp.refl _ _⟩
  · rw [show setE A k x = 0 from if_neg hb, show setA A k x = A.set k.toNat x from if_neg hb]
    rw [Bool.not_eq_true, Bool.or_eq_false_iff] at hb
    obtain ⟨j, rfl, hj⟩ := badS_no hb.1
    exact set_ok w p A L h j x hj (by simpa using hb.2)
theorem push_any (w : World) (p : Nat) (A L : List Int) (h : Rt w p A L) (k : Int) :
    Calls Tryz.prog 73 #[.pointer (some ⟨p, 0, none⟩), .int .i64 k] w fun e w' => e = .returned (.int .i64 (pushE A L k)) ∧ Rt w' p A (pushL A L k) ∧ Kp [p] w w' := by
  by_cases hb : badS A k = true
  · rw [show pushE A L k = 2 from if_pos hb, show pushL A L k = L from if_pos hb]
    refine (push_bad w p A L h k (badS_or hb)).mono ?_
    rintro e w' ⟨rfl, rfl⟩
    exact ⟨rfl, h, Kp.refl _ _⟩
  · rw [pushE, pushL, if_neg hb, if_neg hb]
    obtain ⟨j, rfl, hj⟩ := badS_no (by simpa using hb)
    by_cases hl : L.length = 16
    · rw [if_pos hl, if_pos hl]
      refine (push_full w p A L h j hj hl).mono ?_
      rintro e w' ⟨rfl, rfl⟩
      exact ⟨rfl, h, Kp.refl _ _⟩
    · rw [if_neg hl, if_neg hl]
      exact push_ok w p A L h j hj (by have := h.ll; omega)
theorem pop_any (w : World) (p : Nat) (A L : List Int) (h : Rt w p A L) (k : Int) :
    Calls Tryz.prog 75 #[.pointer (some ⟨p, 0, none⟩), .int .i64 k] w fun e w' => e = .returned (.int .i64 (popE A L k)) ∧ Rt w' p (popA A L k) (popL A L k) ∧ Kp [p] w w' := by
  by_cases hb : badS A k = true
  · rw [popE, popA, popL, if_pos hb, if_pos hb, if_pos hb]
    refine (pop_bad w p A L h k (badS_or hb)).mono ?_
    rintro e w' ⟨rfl, rfl⟩
    exact ⟨rfl, h, Kp.refl _ _⟩
  · rw [popE, popA, popL, if_neg hb, if_neg hb, if_neg hb]
    obtain ⟨j, rfl, hj⟩ := badS_no (by simpa using hb)
    rcases List.eq_nil_or_concat L with rfl | ⟨M, x, hM⟩
    · refine (pop_empty w p A h j hj).mono ?_
      rintro e w' ⟨rfl, rfl⟩
      exact ⟨rfl, h, Kp.refl _ _⟩
    · rw [List.concat_eq_append] at hM
      subst hM
      have hne : ¬ (M ++ [x] = []) := by simp
      rw [if_neg hne, if_neg hne, show (M ++ [x]).getLastD 0 = x from by simp, show (M ++ [x]).dropLast = M from by simp]
      exact pop_ok w p A M x h j hj

end Go.Proofs.YtmbhhadghiojeaaGreat
