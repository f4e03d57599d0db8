/- The walks of Args (the program's and the document's own). Conditions: as each theorem states them. -/
import Derived.Test.YtclegfpgmhajmaaScP
import Derived.Test.YtclegfpgmhajmaaRows
import Derived.Test.YtclegfpgmhajmaaKeep
import Derived.Test.YtclegfpgmhajmaaLaw
import Derived.OneCell
import Derived.Lib.Hide
import Derived.Carry
import Derived.Deep.LoopGhost
import Derived.Deep.CutRange
import Derived.IntWalk
import Derived.Handy
import Derived.Outline
namespace Go.Proofs.Ytclegfpgmhajmaa
set_option linter.unusedVariables false
set_option linter.unusedSimpArgs false
open Go.RowKit

theorem args_lit (w : World) (d : Int) (n : Int) (h : (d = 1 ∧ n = 3) ∨ (d = 2 ∧ n = 3) ∨ (d = 3 ∧ n = 3) ∨ (d = 5 ∧ n = 3) ∨ (d = 4 ∧ n = 2) ∨ (d = 6 ∧ n = 2) ∨ (d = 7 ∧ n = 2) ∨ (d = 8 ∧ n = 2) ∨ (d = 9 ∧ n = 1) ∨ (d = 10 ∧ n = 1) ∨ (d = 11 ∧ n = 1)) :
    Calls Try.prog 12 #[.int .u8 d] w fun e w' => e = .returned (.int .i64 n) ∧ w = w' := by
  rcases h with ⟨rfl, rfl⟩ | ⟨rfl, rfl⟩ | ⟨rfl, rfl⟩ | ⟨rfl, rfl⟩ | ⟨rfl, rfl⟩ | ⟨rfl, rfl⟩ | ⟨rfl, rfl⟩ | ⟨rfl, rfl⟩ | ⟨rfl, rfl⟩ | ⟨rfl, rfl⟩ | ⟨rfl, rfl⟩
  all_goals
    go_enter Try.func12, Try.ntmps12
    go_wp2
    go_ret
    exact ⟨rfl, rfl⟩

theorem args_out (w : World) (d : Int) (h0 : 0 ≤ d) (h : d = 0 ∨ 11 < d) : Calls Try.prog 12 #[.int .u8 d] w fun e w' => e = .returned (.int .i64 0) ∧ w = w' := by
  have e1 : (d == 1) = false := by simp; omega
  have e2 : (d == 2) = false := by simp; omega
  have e3 : (d == 3) = false := by simp; omega
  have e4 : (d == 4) = false := by simp; omega
  have e5 : (d == 5) = false := by simp; omega
  have e6 : (d == 6) = false := by simp; omega
  have e7 : (d == 7) = false := by simp; omega
  have e8 : (d == 8) = false := by simp; omega
  have e9 : (d == 9) = false := by simp; omega
  have e10 : (d == 10) = false := by simp; omega
  have e11 : (d == 11) = false := by simp; omega
  clear h
  go_enter Try.func12, Try.ntmps12
  go_wp2
  go_ret
  exact ⟨rfl, rfl⟩

theorem argsN_ways (d : Int) : ((d = 1 ∧ (argsN d : Int) = 3) ∨ (d = 2 ∧ (argsN d : Int) = 3) ∨ (d = 3 ∧ (argsN d : Int) = 3) ∨ (d = 5 ∧ (argsN d : Int) = 3) ∨ (d = 4 ∧ (argsN d : Int) = 2) ∨ (d = 6 ∧ (argsN d : Int) = 2) ∨ (d = 7 ∧ (argsN d : Int) = 2) ∨ (d = 8 ∧ (argsN d : Int) = 2) ∨ (d = 9 ∧ (argsN d : Int) = 1) ∨ (d = 10 ∧ (argsN d : Int) = 1) ∨ (d = 11 ∧ (argsN d : Int) = 1)) ∨
    ((d < 1 ∨ 11 < d) ∧ argsN d = 0) := by
  have h : d = 1 ∨ d = 2 ∨ d = 3 ∨ d = 5 ∨ d = 4 ∨ d = 6 ∨ d = 7 ∨ d = 8 ∨ d = 9 ∨ d = 10 ∨ d = 11 ∨ (d < 1 ∨ 11 < d) := by omega
  rcases h with rfl | rfl | rfl | rfl | rfl | rfl | rfl | rfl | rfl | rfl | rfl | h
  all_goals first
    | exact .inl (by decide)
    | (refine .inr ⟨h, ?_⟩
       unfold argsN
       rw [if_neg (by omega), if_neg (by omega), if_neg (by omega)])

/-- Args. -/
theorem args_is (w : World) (d : Int) (n : Nat) (h0 : 0 ≤ d) (h : argsN d = n) : Calls Try.prog 12 #[.int .u8 d] w fun e w' => e = .returned (.int .i64 (n : Int)) ∧ w = w' := by
  subst h
  rcases argsN_ways d with k | ⟨k, e⟩
  · exact args_lit w d _ k
  · rw [e]
    exact args_out w d h0 (by omega)

set_option maxHeartbeats 1000000 in
theorem rargs_lit (w : World) (d : Int) (n : Int) (h : (d = 1 ∧ n = 3) ∨ (d = 2 ∧ n = 3) ∨ (d = 3 ∧ n = 3) ∨ (d = 5 ∧ n = 3) ∨ (d = 4 ∧ n = 2) ∨ (d = 6 ∧ n = 2) ∨ (d = 7 ∧ n = 2) ∨ (d = 8 ∧ n = 2) ∨ (d = 9 ∧ n = 1) ∨ (d = 10 ∧ n = 1) ∨ (d = 11 ∧ n = 1) ∨ (d = 0 ∧ n = 0) ∨ (d = 12 ∧ n = 0) ∨ (d = 13 ∧ n = 0)) :
    Calls Try.prog 13 #[.int .u8 d] w fun e w' => e = .returned (.int .i64 n) ∧ Kp [] w w' := by
  rcases h with ⟨rfl, rfl⟩ | ⟨rfl, rfl⟩ | ⟨rfl, rfl⟩ | ⟨rfl, rfl⟩ | ⟨rfl, rfl⟩ | ⟨rfl, rfl⟩ | ⟨rfl, rfl⟩ | ⟨rfl, rfl⟩ | ⟨rfl, rfl⟩ | ⟨rfl, rfl⟩ | ⟨rfl, rfl⟩ | ⟨rfl, rfl⟩ | ⟨rfl, rfl⟩ | ⟨rfl, rfl⟩
  all_goals
    go_enter Try.func13, Try.ntmps13
    go_wp2
    go_ret
    exact ⟨rfl, (Kp.refl _ _).alloc _⟩

theorem rargs_out (w : World) (d : Int) (h : 13 < d) (h1 : d < 256) : Calls Try.prog 13 #[.int .u8 d] w fun e w' => e = .returned (.int .i64 0) ∧ Kp [] w w' := by
  go_enter Try.func13, Try.ntmps13
  go_wp2
  go_ret
  exact ⟨rfl, (Kp.refl _ _).alloc _⟩

/-- Args, as the document has it. -/
theorem rargs_is (w : World) (d : Int) (n : Nat) (h0 : 0 ≤ d) (h1 : d < 256) (h : argsN d = n) : Calls Try.prog 13 #[.int .u8 d] w fun e w' => e = .returned (.int .i64 (n : Int)) ∧ Kp [] w w' := by
  subst h
  rcases argsN_ways d with k | ⟨k, e⟩
  · exact rargs_lit w d _ (by rcases k with ⟨rfl, e⟩ | ⟨rfl, e⟩ | ⟨rfl, e⟩ | ⟨rfl, e⟩ | ⟨rfl, e⟩ | ⟨rfl, e⟩ | ⟨rfl, e⟩ | ⟨rfl, e⟩ | ⟨rfl, e⟩ | ⟨rfl, e⟩ | ⟨rfl, e⟩ <;> simp [e])
  · rw [e]
    by_cases hd : d = 0 ∨ d = 12 ∨ d = 13
    · exact rargs_lit w d 0 (by rcases hd with k | k | k <;> simp [k])
    · exact rargs_out w d (by omega) h1

end Go.Proofs.Ytclegfpgmhajmaa
