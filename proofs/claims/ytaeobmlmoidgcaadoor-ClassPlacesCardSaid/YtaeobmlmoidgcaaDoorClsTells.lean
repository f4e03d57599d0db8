/- ClassTells, walked. Conditions: the package's table holds its four numbers. -/
import Derived.Test.YtaeobmlmoidgcaaDoorClsC
namespace Go.Proofs.YtaeobmlmoidgcaaDoor
set_option linter.unusedVariables false
set_option linter.unusedSimpArgs false
open Go.RowKit

theorem Tab.keep {w w' : World} (T : Tab w) (k : Kp [] w w') : Tab w' := by
  have key : ∀ (i : Nat) (v : Value), w.cell? ⟨0, i, none⟩ = some v → w'.cell? ⟨0, i, none⟩ = some v := fun i v h =>
    (World.cell?_of_block (k.block 0 (World.block_lt_of_cell? w _ h) (by simp))).trans h
  exact ⟨key _ _ T.c0, key _ _ T.c1, key _ _ T.c2, key _ _ T.c3⟩

/-- What Starts answers, as far as its length goes. -/
theorem starts_len (w : World) (c : Int) (m : Nat) (h : clC c = m) :
    Calls Tryd.prog 15 #[.int .i64 c] w fun e w' => ∃ v cap, e = .returned (.slice v m cap) ∧ Kp [] w w' := by
  have key : ∀ n, Cls c n m → Calls Tryd.prog 15 #[.int .i64 c] w fun e w' => ∃ v cap, e = .returned (.slice v m cap) ∧ Kp [] w w' := fun n hc =>
    (starts_in w c n m hc).mono (by
      rintro e w' ⟨v, rfl, hown, hk⟩
      obtain ⟨_, ⟨rfl, h0⟩ | ⟨g, cap, cur, rfl, _⟩⟩ := hown
      · subst h0; exact ⟨_, _, rfl, hk⟩
      · exact ⟨_, _, rfl, hk⟩)
  rcases class_cases c with rfl | rfl | rfl | rfl | hc
  · obtain rfl : m = 16 := by have : clC 0 = 16 := rfl; omega
    exact key 2 (.inl ⟨rfl, rfl, rfl⟩)
  · obtain rfl : m = 10 := by have : clC 1 = 10 := rfl; omega
    exact key 3 (.inr (.inl ⟨rfl, rfl, rfl⟩))
  · obtain rfl : m = 6 := by have : clC 2 = 6 := rfl; omega
    exact key 5 (.inr (.inr (.inl ⟨rfl, rfl, rfl⟩)))
  · obtain rfl : m = 3 := by have : clC 3 = 3 := rfl; omega
    exact key 9 (.inr (.inr (.inr ⟨rfl, rfl, rfl⟩)))
  · obtain rfl : m = 0 := by have := cl_out hc; omega
    exact (starts_out w c hc).mono (by rintro e w' ⟨rfl, rfl⟩; exact ⟨_, _, rfl, Kp.refl _ _⟩)

set_option maxHeartbeats 2000000 in
set_option maxRecDepth 100000 in
theorem tells_core (w : World) (T : Tab w) (f c a x n q r : Int) (m : Nat) (b l : Bool) (hf : f ≤ 1099511627776) (hc : c ≤ 1099511627776)
    (h1 : Calls Tryd.prog 7 #[.int .i64 f] w fun e w' => e = .returned (.tuple #[.int .i64 x, .bool b]) ∧ w = w')
    (h2 : Calls Tryd.prog 8 #[.int .i64 f] w fun e w' => e = .returned (.tuple #[.int .i64 n, .bool l]) ∧ w = w')
    (h3 : Calls Tryd.prog 9 #[.int .i64 f] w fun e w' => e = .returned (.int .i64 a) ∧ w = w')
    (h4 : Calls Tryd.prog 10 #[.int .i64 f] w fun e w' => e = .returned (.int .i64 n) ∧ w = w')
    (h5 : Calls Tryd.prog 11 #[.int .i64 c] w fun e w' => e = .returned (.int .i64 q) ∧ w = w')
    (h6 : Calls Tryd.prog 12 #[.int .i64 c] w fun e w' => e = .returned (.int .i64 q) ∧ w = w')
    (h7 : Calls Tryd.prog 13 #[.int .i64 c] w fun e w' => e = .returned (.int .i64 r) ∧ w = w')
    (h8 : Calls Tryd.prog 14 #[.int .i64 c] w fun e w' => e = .returned (.int .i64 m) ∧ w = w')
    (h9 : Calls Tryd.prog 15 #[.int .i64 c] w fun e w' => ∃ v cap, e = .returned (.slice v m cap) ∧ Kp [] w w')
    (hx : (b = true ∧ l = false ∧ n = 0 ∧ x = a ∧ 0 ≤ a) ∨ (b = false ∧ l = false ∧ n = 0 ∧ x = 0 ∧ a = -1) ∨ (b = false ∧ l = true ∧ 0 < n ∧ x = 0 ∧ a = -1))
    (hy : (q = 0 ∧ r = 0) ∨ (0 < q ∧ q ≤ 9 ∧ r = q - 1)) :
    Calls Tryd.prog 3 #[.int .i64 f, .int .i64 c] w fun e w' => e = .returned (.bool true) ∧ Kp [] w w' := by
  rcases hx with ⟨rfl, rfl, rfl, rfl, ha⟩ | ⟨rfl, rfl, rfl, rfl, rfl⟩ | ⟨rfl, rfl, hn, rfl, rfl⟩
  all_goals
    rcases hy with ⟨rfl, rfl⟩ | ⟨hq, hq9, rfl⟩
  all_goals
    go_enter Tryd.func3, Tryd.ntmps3
    go_wp2_with (first
      | ((with_reducible refine h1.mono ?_); rintro e w' ⟨rfl, rfl⟩)
      | ((with_reducible refine h2.mono ?_); rintro e w' ⟨rfl, rfl⟩)
      | ((with_reducible refine h3.mono ?_); rintro e w' ⟨rfl, rfl⟩)
      | ((with_reducible refine h4.mono ?_); rintro e w' ⟨rfl, rfl⟩)
      | ((with_reducible refine h5.mono ?_); rintro e w' ⟨rfl, rfl⟩)
      | ((with_reducible refine h6.mono ?_); rintro e w' ⟨rfl, rfl⟩)
      | ((with_reducible refine h7.mono ?_); rintro e w' ⟨rfl, rfl⟩)
      | ((with_reducible refine h8.mono ?_); rintro e w' ⟨rfl, rfl⟩)
      | ((with_reducible refine h9.mono ?_); rintro e w1 ⟨v, cap, rfl, hk⟩)
      | ((refine (wakes_is _ (T.keep hk)).mono ?_); rintro e w' ⟨rfl, rfl⟩))
    go_ret
    exact ⟨rfl, hk⟩

theorem tells_wide (w : World) (T : Tab w) (f c : Int) (h : 1099511627776 < f ∨ (f ≤ 1099511627776 ∧ 1099511627776 < c)) :
    Calls Tryd.prog 3 #[.int .i64 f, .int .i64 c] w fun e w' => e = .returned (.bool true) ∧ Kp [] w w' := by
  rcases h with h | ⟨h, h'⟩
  · go_enter Tryd.func3, Tryd.ntmps3
    go_wp2_with ((refine (wakes_is w T).mono ?_); rintro e w' ⟨rfl, rfl⟩)
    go_ret
    exact ⟨rfl, Kp.refl _ _⟩
  · go_enter Tryd.func3, Tryd.ntmps3
    go_wp2_with ((refine (wakes_is w T).mono ?_); rintro e w' ⟨rfl, rfl⟩)
    go_ret
    exact ⟨rfl, Kp.refl _ _⟩

theorem tells_any (w : World) (T : Tab w) (f c : Int) :
    Calls Tryd.prog 3 #[.int .i64 f, .int .i64 c] w fun e w' => e = .returned (.bool true) ∧ Kp [] w w' := by
  by_cases hf : 1099511627776 < f
  · exact tells_wide w T f c (.inl hf)
  by_cases hc : 1099511627776 < c
  · exact tells_wide w T f c (.inr ⟨by omega, hc⟩)
  have hy : (wdC c = 0 ∧ rmC c = 0) ∨ (0 < wdC c ∧ wdC c ≤ 9 ∧ rmC c = wdC c - 1) := by
    rcases class_cases c with rfl | rfl | rfl | rfl | h
    · decide
    · decide
    · decide
    · decide
    · exact .inl ⟨wd_out h, rm_out h⟩
  obtain ⟨m, hm⟩ : ∃ m : Nat, clC c = m := by
    rcases class_cases c with rfl | rfl | rfl | rfl | h
    · exact ⟨16, rfl⟩
    · exact ⟨10, rfl⟩
    · exact ⟨6, rfl⟩
    · exact ⟨3, rfl⟩
    · exact ⟨0, cl_out h⟩
  by_cases ha : 0 ≤ ofC f
  · have ho := of_ofs f
    have hr := run_ofs f
    refine tells_core w T f c (ofC f) (ofC f) 0 _ _ m true false (by omega) (by omega) (of_yes w T f _ (by omega) rfl ha) (run_is2 w f 0 false (by omega) rfl) (rof_is w f _ (by omega) rfl) (rrun_is w f 0 (by omega)) (rwords_is w c _ rfl) (words_is w T c _ rfl) (room_is w T c _ rfl) (cells_is w T c _ hm) (starts_len w c m hm) (.inl ⟨rfl, rfl, rfl, rfl, ha⟩) hy
  · have ho := of_ofs f
    have hr := run_ofs f
    have ha1 : ofC f = -1 := by omega
    by_cases hn : 0 < runC f
    · refine tells_core w T f c (-1) 0 (runC f) _ _ m false true (by omega) (by omega) (of_no w T f ha1) (run_is2 w f _ true rfl (decide_eq_true hn)) (rof_is w f _ (by omega) ha1) (rrun_is w f _ rfl) (rwords_is w c _ rfl) (words_is w T c _ rfl) (room_is w T c _ rfl) (cells_is w T c _ hm) (starts_len w c m hm) (.inr (.inr ⟨rfl, rfl, hn, rfl, rfl⟩)) hy
    · have hn0 : runC f = 0 := by omega
      refine tells_core w T f c (-1) 0 0 _ _ m false false (by omega) (by omega) (of_no w T f ha1) (run_is2 w f 0 false hn0 rfl) (rof_is w f _ (by omega) ha1) (rrun_is w f 0 hn0) (rwords_is w c _ rfl) (words_is w T c _ rfl) (room_is w T c _ rfl) (cells_is w T c _ hm) (starts_len w c m hm) (.inr (.inl ⟨rfl, rfl, rfl, rfl, rfl⟩)) hy

end Go.Proofs.YtaeobmlmoidgcaaDoor
