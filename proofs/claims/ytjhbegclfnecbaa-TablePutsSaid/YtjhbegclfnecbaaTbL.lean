/- The laws of layer 5 (table), walked: TablePuts and TableTakes return true, and no block that was there has turned. Conditions: the numbers are those of a uint8, of a uint64. -/
import Derived.Test.YtjhbegclfnecbaaTbR
namespace Go.Proofs.Ytjhbegclfnecbaa
set_option linter.unusedVariables false
set_option linter.unusedSimpArgs false
open Go.RowKit

set_option maxHeartbeats 1000000 in
theorem puts_core (k c r o y z n : Int) (b : Bool) (w : World) (hr0 : 0 ≤ r) (hr1 : r ≤ 255)
    (hP : Hid (∀ w, Calls Try.prog 6 #[.agg #[.int .u8 k, .int .u8 c, .int .u8 r, .int .u8 o]] w fun e w' => e = .returned (.tuple #[.int .u64 y, .int .i64 z]) ∧ Kp [] w w'))
    (hB : Hid (∀ w, Calls Try.prog 8 #[.agg #[.int .u8 k, .int .u8 c, .int .u8 r, .int .u8 o]] w fun e w' => e = .returned (.int .i64 n) ∧ Kp [] w w'))
    (hM : Hid (∀ w, Calls Try.prog 9 #[.agg #[.int .u8 k, .int .u8 c, .int .u8 r, .int .u8 o]] w fun e w' => e = .returned (.bool b) ∧ Kp [] w w'))
    (hW : Hid (∀ w, Calls Try.prog 11 #[.agg #[.int .u8 k, .int .u8 c, .int .u8 r, .int .u8 o]] w fun e w' => e = .returned (.int .u64 (wordE k c r o)) ∧ Kp [] w w'))
    (hb : (b = true ∧ y = wordE k c r o ∧ z = 0) ∨ (b = false ∧ y = 0 ∧ z = 2))
    (hk : (k = 2 ∧ n = r) ∨ (k = 5 ∧ n = r) ∨ ((k == 2) = false ∧ (k == 5) = false ∧ n = 1)) :
    Calls Try.prog 3 #[.agg #[.int .u8 k, .int .u8 c, .int .u8 r, .int .u8 o]] w fun e w' => e = .returned (.bool true) ∧ Kp [] w w' := by
  obtain ⟨v, hv⟩ : ∃ v, v = wordE k c r o := ⟨_, rfl⟩
  rw [← hv] at hW hb
  clear hv
  rcases hb with ⟨rfl, rfl, rfl⟩ | ⟨rfl, rfl, rfl⟩
  all_goals
    rcases hk with ⟨rfl, rfl⟩ | ⟨rfl, rfl⟩ | ⟨h2, h5, rfl⟩
  all_goals
    go_enter Try.func3, Try.ntmps3
    go_wp2_with fail
    refine (of_is _ _ _ _ _).mono ?_; rintro e w1 ⟨rfl, hk1⟩
    obtain ⟨c1, f1⟩ := bcell hk1.to_below
    have z1 : w.heap.size < w1.heap.size := by have := hk1.size; simp at this; omega
    have kp1 := Lib.hid (((Kp.refl [] w).alloc _).trans hk1)
    clear hk1
    go_wp2_with fail
    refine (hP.out _).mono ?_; rintro e w2 ⟨rfl, hk2⟩
    obtain ⟨c2, f2⟩ := bcell hk2.to_below
    have z2 : w.heap.size < w2.heap.size := Nat.lt_of_lt_of_le z1 hk2.size
    have kp2 := Lib.hid (kp1.out.trans hk2)
    clear hk2 kp1
    go_wp2_with fail
    refine (of_is _ _ _ _ _).mono ?_; rintro e w3 ⟨rfl, hk3⟩
    obtain ⟨c3, f3⟩ := bcell hk3.to_below
    have z3 : w.heap.size < w3.heap.size := Nat.lt_of_lt_of_le z2 hk3.size
    have kp3 := Lib.hid (kp2.out.trans hk3)
    clear hk3 kp2
    go_wp2_with fail
    refine (hB.out _).mono ?_; rintro e w4 ⟨rfl, hk4⟩
    obtain ⟨c4, f4⟩ := bcell hk4.to_below
    have z4 : w.heap.size < w4.heap.size := Nat.lt_of_lt_of_le z3 hk4.size
    have kp4 := Lib.hid (kp3.out.trans hk4)
    clear hk4 kp3
    go_wp2_with fail
    refine (hM.out _).mono ?_; rintro e w5 ⟨rfl, hk5⟩
    obtain ⟨c5, f5⟩ := bcell hk5.to_below
    have z5 : w.heap.size < w5.heap.size := Nat.lt_of_lt_of_le z4 hk5.size
    have kp5 := Lib.hid (kp4.out.trans hk5)
    clear hk5 kp4
    go_wp2_with (first
      | (go_at_call 11; refine (hW.out _).mono ?_; rintro e w6 ⟨rfl, hk6⟩)
      | (go_at_call 10; refine (wakes_is _).mono ?_; rintro e w7 ⟨rfl, hk7⟩))
    go_ret
    first
      | exact ⟨rfl, (kp5.out.trans hk6).trans hk7⟩
      | exact ⟨rfl, kp5.out.trans hk7⟩

theorem puts_any (k c r o : Int) (w : World) (hk : 0 ≤ k) (hc : 0 ≤ c) (hr : 0 ≤ r) (ho : 0 ≤ o) (hk1 : k ≤ 255) (hc1 : c ≤ 255) (hr1 : r ≤ 255) (ho1 : o ≤ 255) :
    Calls Try.prog 3 #[.agg #[.int .u8 k, .int .u8 c, .int .u8 r, .int .u8 o]] w fun e w' => e = .returned (.bool true) ∧ Kp [] w w' := by
  have hkk : (k = 2 ∧ blkE k r = r) ∨ (k = 5 ∧ blkE k r = r) ∨ ((k == 2) = false ∧ (k == 5) = false ∧ blkE k r = 1) := by
    by_cases h2 : k = 2
    · exact .inl ⟨h2, by simp [blkE, h2]⟩
    by_cases h5 : k = 5
    · exact .inr (.inl ⟨h5, by simp [blkE, h5]⟩)
    exact .inr (.inr ⟨by simpa using h2, by simpa using h5, by simp [blkE, h2, h5]⟩)
  by_cases h : mayE k c r o = true
  · exact puts_core k c r o _ _ _ true w hr hr1 (Lib.hid fun w => put_yes k c r o w hk hc hr ho h) (Lib.hid fun w => blocks_is k c r o w hr hr1) (Lib.hid fun w => rmay_is k c r o true w hk hc hr ho h) (Lib.hid fun w => rword_is k c r o w hk hc hr ho hk1 hc1 hr1 ho1) (.inl ⟨rfl, rfl, rfl⟩) hkk
  · have h : mayE k c r o = false := by simpa using h
    exact puts_core k c r o _ _ _ false w hr hr1 (Lib.hid fun w => put_no k c r o w hk hc hr ho h) (Lib.hid fun w => blocks_is k c r o w hr hr1) (Lib.hid fun w => rmay_is k c r o false w hk hc hr ho h) (Lib.hid fun w => rword_is k c r o w hk hc hr ho hk1 hc1 hr1 ho1) (.inr ⟨rfl, rfl, rfl⟩) hkk

end Go.Proofs.Ytjhbegclfnecbaa
