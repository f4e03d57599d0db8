/- The walks of layer class, and of the document's own answers beside it: each function returns what the plain functions below say, and leaves the world as it was. Conditions: the package's table holds its four numbers. -/
import Derived.Test.YtinkpbenmfnnhaaDoorRows
import Derived.WalkKit
import Derived.ProofKit
import Derived.LoopTactic
import Derived.Lib.Hide
namespace Go.Proofs.YtinkpbenmfnnhaaDoor.Cl
set_option linter.unusedVariables false
set_option linter.unusedSimpArgs false
open Go.RowKit

/-- The package's table. -/
structure Tab (w : World) : Prop where
  c0 : w.cell? ⟨0, 0, none⟩ = some (.int .i64 1)
  c1 : w.cell? ⟨0, 1, none⟩ = some (.int .i64 2)
  c2 : w.cell? ⟨0, 2, none⟩ = some (.int .i64 4)
  c3 : w.cell? ⟨0, 3, none⟩ = some (.int .i64 8)

/-- Fields, words, cells of a class. -/
def rmC (c : Int) : Int := if c = 0 then 1 else if c = 1 then 2 else if c = 2 then 4 else if c = 3 then 8 else 0
def wdC (c : Int) : Int := if c = 0 then 2 else if c = 1 then 3 else if c = 2 then 5 else if c = 3 then 9 else 0
def clC (c : Int) : Int := if c = 0 then 16 else if c = 1 then 10 else if c = 2 then 6 else if c = 3 then 3 else 0

theorem class_cases (c : Int) : c = 0 ∨ c = 1 ∨ c = 2 ∨ c = 3 ∨ (c < 0 ∨ 3 < c) := by omega
theorem rm_out {c : Int} (h : c < 0 ∨ 3 < c) : rmC c = 0 := by unfold rmC; repeat (first | rw [if_neg (by omega)] | rfl)
theorem wd_out {c : Int} (h : c < 0 ∨ 3 < c) : wdC c = 0 := by unfold wdC; repeat (first | rw [if_neg (by omega)] | rfl)
theorem cl_out {c : Int} (h : c < 0 ∨ 3 < c) : clC c = 0 := by unfold clC; repeat (first | rw [if_neg (by omega)] | rfl)

theorem room_is (w : World) (T : Tab w) (c r : Int) (h : rmC c = r) : Calls Tryd.prog 75 #[.int .i64 c] w fun e w' => e = .returned (.int .i64 r) ∧ w = w' := by
  obtain ⟨t0, t1, t2, t3⟩ := T
  subst h
  rcases class_cases c with rfl | rfl | rfl | rfl | h
  · go_enter Tryd.func75, Tryd.ntmps75
    go_wp2
    go_ret
    exact ⟨rfl, rfl⟩
  · go_enter Tryd.func75, Tryd.ntmps75
    go_wp2
    go_ret
    exact ⟨rfl, rfl⟩
  · go_enter Tryd.func75, Tryd.ntmps75
    go_wp2
    go_ret
    exact ⟨rfl, rfl⟩
  · go_enter Tryd.func75, Tryd.ntmps75
    go_wp2
    go_ret
    exact ⟨rfl, rfl⟩
  · rw [rm_out h]
    rcases h with h | h
    · go_enter Tryd.func75, Tryd.ntmps75
      go_wp2
      go_ret
      exact ⟨rfl, rfl⟩
    · have h0 : 0 ≤ c := by omega
      go_enter Tryd.func75, Tryd.ntmps75
      go_wp2
      go_ret
      exact ⟨rfl, rfl⟩

theorem words_is (w : World) (T : Tab w) (c n : Int) (h : wdC c = n) : Calls Tryd.prog 61 #[.int .i64 c] w fun e w' => e = .returned (.int .i64 n) ∧ w = w' := by
  subst h
  rcases class_cases c with rfl | rfl | rfl | rfl | h
  · go_enter Tryd.func61, Tryd.ntmps61
    go_wp2_with ((refine (room_is w T 0 1 rfl).mono ?_); rintro e w' ⟨rfl, rfl⟩)
    go_ret
    exact ⟨rfl, rfl⟩
  · go_enter Tryd.func61, Tryd.ntmps61
    go_wp2_with ((refine (room_is w T 1 2 rfl).mono ?_); rintro e w' ⟨rfl, rfl⟩)
    go_ret
    exact ⟨rfl, rfl⟩
  · go_enter Tryd.func61, Tryd.ntmps61
    go_wp2_with ((refine (room_is w T 2 4 rfl).mono ?_); rintro e w' ⟨rfl, rfl⟩)
    go_ret
    exact ⟨rfl, rfl⟩
  · go_enter Tryd.func61, Tryd.ntmps61
    go_wp2_with ((refine (room_is w T 3 8 rfl).mono ?_); rintro e w' ⟨rfl, rfl⟩)
    go_ret
    exact ⟨rfl, rfl⟩
  · rw [wd_out h]
    have hr := rm_out h
    have HR := Lib.hid hr
    clear hr
    go_enter Tryd.func61, Tryd.ntmps61
    go_wp2_with ((refine (room_is w T c 0 HR.out).mono ?_); rintro e w' ⟨rfl, rfl⟩)
    go_ret
    exact ⟨rfl, rfl⟩

theorem cells_is (w : World) (T : Tab w) (c m : Int) (h : clC c = m) : Calls Tryd.prog 47 #[.int .i64 c] w fun e w' => e = .returned (.int .i64 m) ∧ w = w' := by
  subst h
  rcases class_cases c with rfl | rfl | rfl | rfl | h
  · go_enter Tryd.func47, Tryd.ntmps47
    go_wp2_with ((refine (words_is w T 0 2 rfl).mono ?_); rintro e w' ⟨rfl, rfl⟩)
    go_ret
    exact ⟨rfl, rfl⟩
  · go_enter Tryd.func47, Tryd.ntmps47
    go_wp2_with ((refine (words_is w T 1 3 rfl).mono ?_); rintro e w' ⟨rfl, rfl⟩)
    go_ret
    exact ⟨rfl, rfl⟩
  · go_enter Tryd.func47, Tryd.ntmps47
    go_wp2_with ((refine (words_is w T 2 5 rfl).mono ?_); rintro e w' ⟨rfl, rfl⟩)
    go_ret
    exact ⟨rfl, rfl⟩
  · go_enter Tryd.func47, Tryd.ntmps47
    go_wp2_with ((refine (words_is w T 3 9 rfl).mono ?_); rintro e w' ⟨rfl, rfl⟩)
    go_ret
    exact ⟨rfl, rfl⟩
  · rw [cl_out h]
    have hr := wd_out h
    have HR := Lib.hid hr
    clear hr
    go_enter Tryd.func47, Tryd.ntmps47
    go_wp2_with ((refine (words_is w T c 0 HR.out).mono ?_); rintro e w' ⟨rfl, rfl⟩)
    go_ret
    exact ⟨rfl, rfl⟩

end Go.Proofs.YtinkpbenmfnnhaaDoor.Cl
