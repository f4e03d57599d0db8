/- Layer 10's small ones: need, must, item, reference: what is thrown, and what is answered. Conditions: as each theorem states them. -/
import Derived.Test.YtmbhhadghiojeaaRt
import Derived.Defers
import Derived.Recover
namespace Go.Proofs.Ytmbhhadghiojeaa
set_option linter.unusedVariables false
set_option linter.unusedSimpArgs false
open Go.RowKit

theorem need_ok (w : World) (x : Int) : Calls Try.prog 32 #[.bool true, .int .i64 x] w fun e w' => e = .returned (.tuple #[]) ∧ w = w' := by
  go_enter Try.func32, Try.ntmps32
  go_wp2
  go_end0
  exact ⟨rfl, rfl⟩
theorem need_no (w : World) (x : Int) : Calls Try.prog 32 #[.bool false, .int .i64 x] w fun e w' => e = .panicked [{ v := .iface 26 (.int .i64 x), recovered := false }] ∧ w = w' := by
  go_enter Try.func32, Try.ntmps32
  go_wp2
  exact ⟨rfl, rfl, rfl⟩
theorem must_ok (w : World) : Calls Try.prog 34 #[.int .i64 0] w fun e w' => e = .returned (.tuple #[]) ∧ w = w' := by
  have h := need_ok w 0
  go_enter Try.func34, Try.ntmps34
  go_wp2_with ((with_reducible refine h.mono ?_); rintro e w1 ⟨rfl, rfl⟩)
  go_end0
  exact ⟨rfl, rfl⟩
theorem must_no (w : World) (x : Int) (hx : (x == 0) = false) : Calls Try.prog 34 #[.int .i64 x] w fun e w' => e = .panicked [{ v := .iface 26 (.int .i64 x), recovered := false }] ∧ w = w' := by
  have h := need_no w x
  go_enter Try.func34, Try.ntmps34
  go_wp2_with ((with_reducible refine h.mono ?_); rintro e w1 ⟨rfl, rfl⟩)
  exact ⟨rfl, rfl, rfl⟩

theorem item_int_ok (w : World) (b o n c i : Nat) (hi : i < n) (hn : n ≤ 100000) : Calls Try.prog 39 #[.slice (some ⟨b, o, none⟩) n c, .int .i64 i] w fun e w' => e = .returned (.pointer (some ⟨b, o + i, none⟩)) ∧ w = w' := by
  have h := need_ok w 2
  go_enter Try.func39, Try.ntmps39
  go_wp2_with ((with_reducible refine h.mono ?_); rintro e w1 ⟨rfl, rfl⟩)
  go_ret
  exact ⟨rfl, rfl⟩
theorem item_int_no (w : World) (ao : Option Addr) (n c : Nat) (i : Int) (hi : i < 0 ∨ (n : Int) ≤ i) : Calls Try.prog 39 #[.slice ao n c, .int .i64 i] w fun e w' => e = .panicked [{ v := .iface 26 (.int .i64 2), recovered := false }] ∧ w = w' := by
  have h := need_no w 2
  by_cases hi0 : 0 ≤ i
  · have hi1 : decide (i < (n : Int)) = false := by simp; omega
    clear hi
    go_enter Try.func39, Try.ntmps39
    go_wp2_with ((with_reducible refine h.mono ?_); rintro e w1 ⟨rfl, rfl⟩)
    exact ⟨rfl, rfl, rfl⟩
  · clear hi
    go_enter Try.func39, Try.ntmps39
    go_wp2_with ((with_reducible refine h.mono ?_); rintro e w1 ⟨rfl, rfl⟩)
    exact ⟨rfl, rfl, rfl⟩

theorem item_u64_ok (w : World) (b o n c i : Nat) (hi : i < n) (hn : n ≤ 100000) : Calls Try.prog 44 #[.slice (some ⟨b, o, none⟩) n c, .int .i64 i] w fun e w' => e = .returned (.pointer (some ⟨b, o + i, none⟩)) ∧ w = w' := by
  have h := need_ok w 2
  go_enter Try.func44, Try.ntmps44
  go_wp2_with ((with_reducible refine h.mono ?_); rintro e w1 ⟨rfl, rfl⟩)
  go_ret
  exact ⟨rfl, rfl⟩
theorem item_u64_no (w : World) (ao : Option Addr) (n c : Nat) (i : Int) (hi : i < 0 ∨ (n : Int) ≤ i) : Calls Try.prog 44 #[.slice ao n c, .int .i64 i] w fun e w' => e = .panicked [{ v := .iface 26 (.int .i64 2), recovered := false }] ∧ w = w' := by
  have h := need_no w 2
  by_cases hi0 : 0 ≤ i
  · have hi1 : decide (i < (n : Int)) = false := by simp; omega
    clear hi
    go_enter Try.func44, Try.ntmps44
    go_wp2_with ((with_reducible refine h.mono ?_); rintro e w1 ⟨rfl, rfl⟩)
    exact ⟨rfl, rfl, rfl⟩
  · clear hi
    go_enter Try.func44, Try.ntmps44
    go_wp2_with ((with_reducible refine h.mono ?_); rintro e w1 ⟨rfl, rfl⟩)
    exact ⟨rfl, rfl, rfl⟩

theorem item_rts_ok (w : World) (b o n c i : Nat) (hi : i < n) (hn : n ≤ 100000) : Calls Try.prog 66 #[.slice (some ⟨b, o, none⟩) n c, .int .i64 i] w fun e w' => e = .returned (.pointer (some ⟨b, o + i, none⟩)) ∧ w = w' := by
  have h := need_ok w 2
  go_enter Try.func66, Try.ntmps66
  go_wp2_with ((with_reducible refine h.mono ?_); rintro e w1 ⟨rfl, rfl⟩)
  go_ret
  exact ⟨rfl, rfl⟩
theorem item_rts_no (w : World) (ao : Option Addr) (n c : Nat) (i : Int) (hi : i < 0 ∨ (n : Int) ≤ i) : Calls Try.prog 66 #[.slice ao n c, .int .i64 i] w fun e w' => e = .panicked [{ v := .iface 26 (.int .i64 2), recovered := false }] ∧ w = w' := by
  have h := need_no w 2
  by_cases hi0 : 0 ≤ i
  · have hi1 : decide (i < (n : Int)) = false := by simp; omega
    clear hi
    go_enter Try.func66, Try.ntmps66
    go_wp2_with ((with_reducible refine h.mono ?_); rintro e w1 ⟨rfl, rfl⟩)
    exact ⟨rfl, rfl, rfl⟩
  · clear hi
    go_enter Try.func66, Try.ntmps66
    go_wp2_with ((with_reducible refine h.mono ?_); rintro e w1 ⟨rfl, rfl⟩)
    exact ⟨rfl, rfl, rfl⟩

theorem reference_ok (w : World) (p : Nat) (A L : List Int) (h : Rt w p A L) (k : Nat) (hk : k < A.length) :
    Calls Try.prog 42 #[.pointer (some ⟨p, 0, none⟩), .int .i64 k] w fun e w' => e = .returned (.int .i64 (A.getD k 0)) ∧ w = w' := by
  have h1 := get_ok w p A L h k hk
  have h2 := must_ok w
  clear h hk
  go_enter Try.func42, Try.ntmps42
  go_wp2_with (first | ((with_reducible refine h1.mono ?_); rintro e w1 ⟨rfl, rfl⟩) | ((with_reducible refine h2.mono ?_); rintro e w1 ⟨rfl, rfl⟩))
  go_ret
  exact ⟨rfl, rfl⟩
theorem reference_no (w : World) (p : Nat) (A L : List Int) (h : Rt w p A L) (k : Int) (hk : k < 0 ∨ (A.length : Int) ≤ k) :
    Calls Try.prog 42 #[.pointer (some ⟨p, 0, none⟩), .int .i64 k] w fun e w' => e = .panicked [{ v := .iface 26 (.int .i64 2), recovered := false }] ∧ w = w' := by
  have h1 := get_bad w p A L h k hk
  have h2 := must_no w 2 (by decide)
  clear h hk
  go_enter Try.func42, Try.ntmps42
  go_wp2_with (first | ((with_reducible refine h1.mono ?_); rintro e w1 ⟨rfl, rfl⟩) | ((with_reducible refine h2.mono ?_); rintro e w1 ⟨rfl, rfl⟩))
  exact ⟨rfl, rfl, rfl⟩

end Go.Proofs.Ytmbhhadghiojeaa
