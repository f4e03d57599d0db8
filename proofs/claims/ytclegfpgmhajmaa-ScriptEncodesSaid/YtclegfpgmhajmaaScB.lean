/- The walks of args, plain, isThreads, isCollectors, May (both), Of. Conditions: as each theorem states them. -/
import Derived.Test.YtclegfpgmhajmaaScA
import Derived.Test.YtclegfpgmhajmaaRows
import Derived.Test.YtclegfpgmhajmaaKeep
import Derived.Test.YtclegfpgmhajmaaLaw
import Derived.OneCell
import Derived.Lib.Hide
import Derived.Carry
import Derived.Deep.LoopGhost
import Derived.Deep.CutRange
import Derived.IntWalk
import Derived.Handy
import Derived.Outline
namespace Go.Proofs.Ytclegfpgmhajmaa
set_option linter.unusedVariables false
set_option linter.unusedSimpArgs false
open Go.RowKit

/-- An operation's arguments. -/
theorem opargs_any (w : World) (d a b c : Int) : Calls Try.prog 19 #[.agg #[.int .u8 d, .int .u8 a, .int .u8 b, .int .u8 c]] w fun e w' => e = .returned (.agg #[.int .u8 a, .int .u8 b, .int .u8 c]) ∧ Kp [] w w' := by
  go_enter Try.func19, Try.ntmps19
  go_wp2
  go_returns
  exact ⟨rfl, ((Kp.refl _ _).alloc _).alloc _⟩

theorem thr_is (w : World) (g d a b c : Int) (r : Bool) (h : thrB g d = r) : Calls Try.prog 17 #[.agg #[.int .u8 g, .int .u8 d, .int .u8 a, .int .u8 b, .int .u8 c]] w fun e w' => e = .returned (.bool r) ∧ Kp [] w w' := by
  subst h
  unfold thrB
  by_cases h1 : g < 64
  · by_cases h2 : d < 13
    · rw [decide_eq_true ⟨h1, h2⟩]
      go_enter Try.func17, Try.ntmps17
      go_wp2
      go_ret
      exact ⟨rfl, (Kp.refl _ _).alloc _⟩
    · rw [decide_eq_false (fun h => h2 h.2)]
      go_enter Try.func17, Try.ntmps17
      go_wp2
      go_ret
      exact ⟨rfl, (Kp.refl _ _).alloc _⟩
  · rw [decide_eq_false (fun h => h1 h.1)]
    go_enter Try.func17, Try.ntmps17
    go_wp2
    go_ret
    exact ⟨rfl, (Kp.refl _ _).alloc _⟩

theorem col_is (w : World) (g d a b c : Int) (r : Bool) (h : colB g d = r) : Calls Try.prog 18 #[.agg #[.int .u8 g, .int .u8 d, .int .u8 a, .int .u8 b, .int .u8 c]] w fun e w' => e = .returned (.bool r) ∧ Kp [] w w' := by
  subst h
  unfold colB
  by_cases h1 : g = 255
  · subst h1
    by_cases h2 : d = 0
    · subst h2
      rw [decide_eq_true ⟨rfl, .inl rfl⟩]
      go_enter Try.func18, Try.ntmps18
      go_wp2
      go_ret
      exact ⟨rfl, (Kp.refl _ _).alloc _⟩
    · by_cases h3 : d = 13
      · subst h3
        rw [decide_eq_true ⟨rfl, .inr rfl⟩]
        go_enter Try.func18, Try.ntmps18
        go_wp2
        go_ret
        exact ⟨rfl, (Kp.refl _ _).alloc _⟩
      · rw [decide_eq_false (fun h => h.2.elim h2 h3)]
        have b2 : (d == 0) = false := by simp [h2]
        have b3 : (d == 13) = false := by simp [h3]
        clear h2 h3
        go_enter Try.func18, Try.ntmps18
        go_wp2
        go_ret
        exact ⟨rfl, (Kp.refl _ _).alloc _⟩
  · rw [decide_eq_false (fun h => h1 h.1)]
    have b1 : (g == 255) = false := by simp [h1]
    clear h1
    go_enter Try.func18, Try.ntmps18
    go_wp2
    go_ret
    exact ⟨rfl, (Kp.refl _ _).alloc _⟩

/-- The program's entry of the document's own. -/
theorem of_any (w : World) (g d a b c : Int) : Calls Try.prog 7 #[.agg #[.int .u8 g, .int .u8 d, .int .u8 a, .int .u8 b, .int .u8 c]] w fun e w' => e = .returned (.agg #[.int .u8 g, .int .u8 d, .int .u8 a, .int .u8 b, .int .u8 c]) ∧ Kp [] w w' := by
  go_enter Try.func7, Try.ntmps7
  go_wp2
  go_returns
  exact ⟨rfl, ((Kp.refl _ _).alloc _).alloc _⟩

end Go.Proofs.Ytclegfpgmhajmaa
