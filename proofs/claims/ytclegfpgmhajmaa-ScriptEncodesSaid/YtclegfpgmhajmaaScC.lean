/- The walks of plain and of May (the program's and the document's own). Conditions: as each theorem states them. -/
import Derived.Test.YtclegfpgmhajmaaScB
import Derived.BigQuiet
import Derived.Deep.RegionWith
namespace Go.Proofs.Ytclegfpgmhajmaa
set_option linter.unusedVariables false
set_option linter.unusedSimpArgs false
open Go.RowKit

set_option maxRecDepth 100000 in
theorem plain_0 (w : World) (d a b c : Int) (h0 : 0 ≤ d) (h : argsN d = 0) (r : Bool) (hr : plainB d a b c = r) : Calls Try.prog 16 #[.agg #[.int .u8 d, .int .u8 a, .int .u8 b, .int .u8 c]] w fun e w' => e = .returned (.bool r) ∧ Kp [] w w' := by
  have HR : Hid (r = decide (a = 0 ∧ b = 0 ∧ c = 0)) := Lib.hid (by rw [← hr]; unfold plainB; rw [h]; simp)
  have H := Lib.hid h
  clear h hr
  go_enter Try.func16, Try.ntmps16
  go_wp2_with fail
  refine (opargs_any _ d a b c).mono ?_
  rintro e w1 ⟨rfl, hk⟩
  obtain ⟨hc1, hf1⟩ := bcell hk.to_below
  have hz : w.heap.size < w1.heap.size := by have := hk.size; simp at this; omega
  have K := Lib.hid (((Kp.refl [] w).alloc _).trans hk)
  clear hk
  go_wp2_with fail
  refine (args_is _ d 0 h0 H.out).mono ?_
  rintro e w2 ⟨rfl, rfl⟩
  clear H hc1 hf1
  go_wp2_with fail
  have K2 := Lib.hid (K.out.alloc (.cells #[.int .u8 a, .int .u8 b, .int .u8 c] 48))
  clear K
  go_loop [5, 13] (fun v k => ∃ i : Nat, i ≤ 3 ∧ k = .int .i64 (i : Int) ∧ Hid ((0 < i → a = 0) ∧ (1 < i → b = 0) ∧ (2 < i → c = 0))) (fun _ k => 3 - (intOf k).toNat)
  case atStart => exact ⟨0, by omega, rfl, Lib.hid (by simp)⟩
  case round =>
    obtain ⟨i, hi, rfl, hZ⟩ := hrel
    have hc : i = 0 ∨ i = 1 ∨ i = 2 ∨ i = 3 := by omega
    rcases hc with rfl | rfl | rfl | rfl
    · by_cases hx : a = 0
      · have hb : (a != 0) = false := by simp [hx]
        have HX := Lib.hid hx
        clear hx
        go_wp2
        go_round
        case rel => exact ⟨1, by omega, rfl, Lib.hid (⟨fun _ => HX.out, fun h => absurd h (by omega), fun h => absurd h (by omega)⟩)⟩
        case measure => simp [intOf]
      · have hb : (a != 0) = true := by simp [hx]
        have HX := Lib.hid hx
        clear hx
        go_wp2
        go_ret
        obtain rfl : r = false := HR.out.trans (decide_eq_false (fun h => HX.out h.1))
        exact ⟨rfl, K2.out⟩
    · by_cases hx : b = 0
      · have hb : (b != 0) = false := by simp [hx]
        have HX := Lib.hid hx
        clear hx
        go_wp2
        go_round
        case rel => exact ⟨2, by omega, rfl, Lib.hid (⟨fun _ => hZ.out.1 (by omega), fun _ => HX.out, fun h => absurd h (by omega)⟩)⟩
        case measure => simp [intOf]
      · have hb : (b != 0) = true := by simp [hx]
        have HX := Lib.hid hx
        clear hx
        go_wp2
        go_ret
        obtain rfl : r = false := HR.out.trans (decide_eq_false (fun h => HX.out h.2.1))
        exact ⟨rfl, K2.out⟩
    · by_cases hx : c = 0
      · have hb : (c != 0) = false := by simp [hx]
        have HX := Lib.hid hx
        clear hx
        go_wp2
        go_round
        case rel => exact ⟨3, by omega, rfl, Lib.hid (⟨fun _ => hZ.out.1 (by omega), fun _ => hZ.out.2.1 (by omega), fun _ => HX.out⟩)⟩
        case measure => simp [intOf]
      · have hb : (c != 0) = true := by simp [hx]
        have HX := Lib.hid hx
        clear hx
        go_wp2
        go_ret
        obtain rfl : r = false := HR.out.trans (decide_eq_false (fun h => HX.out h.2.2))
        exact ⟨rfl, K2.out⟩
    · go_wp2
      go_ret
      obtain rfl : r = true := HR.out.trans (decide_eq_true (⟨hZ.out.1 (by omega), hZ.out.2.1 (by omega), hZ.out.2.2 (by omega)⟩))
      exact ⟨rfl, K2.out⟩

set_option maxRecDepth 100000 in
theorem plain_1 (w : World) (d a b c : Int) (h0 : 0 ≤ d) (h : argsN d = 1) (r : Bool) (hr : plainB d a b c = r) : Calls Try.prog 16 #[.agg #[.int .u8 d, .int .u8 a, .int .u8 b, .int .u8 c]] w fun e w' => e = .returned (.bool r) ∧ Kp [] w w' := by
  have HR : Hid (r = decide (b = 0 ∧ c = 0)) := Lib.hid (by rw [← hr]; unfold plainB; rw [h]; simp)
  have H := Lib.hid h
  clear h hr
  go_enter Try.func16, Try.ntmps16
  go_wp2_with fail
  refine (opargs_any _ d a b c).mono ?_
  rintro e w1 ⟨rfl, hk⟩
  obtain ⟨hc1, hf1⟩ := bcell hk.to_below
  have hz : w.heap.size < w1.heap.size := by have := hk.size; simp at this; omega
  have K := Lib.hid (((Kp.refl [] w).alloc _).trans hk)
  clear hk
  go_wp2_with fail
  refine (args_is _ d 1 h0 H.out).mono ?_
  rintro e w2 ⟨rfl, rfl⟩
  clear H hc1 hf1
  go_wp2_with fail
  have K2 := Lib.hid (K.out.alloc (.cells #[.int .u8 a, .int .u8 b, .int .u8 c] 48))
  clear K
  go_loop [5, 13] (fun v k => ∃ i : Nat, i ≤ 2 ∧ k = .int .i64 (i : Int) ∧ Hid ((0 < i → b = 0) ∧ (1 < i → c = 0))) (fun _ k => 2 - (intOf k).toNat)
  case atStart => exact ⟨0, by omega, rfl, Lib.hid (by simp)⟩
  case round =>
    obtain ⟨i, hi, rfl, hZ⟩ := hrel
    have hc : i = 0 ∨ i = 1 ∨ i = 2 := by omega
    rcases hc with rfl | rfl | rfl
    · by_cases hx : b = 0
      · have hb : (b != 0) = false := by simp [hx]
        have HX := Lib.hid hx
        clear hx
        go_wp2
        go_round
        case rel => exact ⟨1, by omega, rfl, Lib.hid (⟨fun _ => HX.out, fun h => absurd h (by omega)⟩)⟩
        case measure => simp [intOf]
      · have hb : (b != 0) = true := by simp [hx]
        have HX := Lib.hid hx
        clear hx
        go_wp2
        go_ret
        obtain rfl : r = false := HR.out.trans (decide_eq_false (fun h => HX.out h.1))
        exact ⟨rfl, K2.out⟩
    · by_cases hx : c = 0
      · have hb : (c != 0) = false := by simp [hx]
        have HX := Lib.hid hx
        clear hx
        go_wp2
        go_round
        case rel => exact ⟨2, by omega, rfl, Lib.hid (⟨fun _ => hZ.out.1 (by omega), fun _ => HX.out⟩)⟩
        case measure => simp [intOf]
      · have hb : (c != 0) = true := by simp [hx]
        have HX := Lib.hid hx
        clear hx
        go_wp2
        go_ret
        obtain rfl : r = false := HR.out.trans (decide_eq_false (fun h => HX.out h.2))
        exact ⟨rfl, K2.out⟩
    · go_wp2
      go_ret
      obtain rfl : r = true := HR.out.trans (decide_eq_true (⟨hZ.out.1 (by omega), hZ.out.2 (by omega)⟩))
      exact ⟨rfl, K2.out⟩

set_option maxRecDepth 100000 in
theorem plain_2 (w : World) (d a b c : Int) (h0 : 0 ≤ d) (h : argsN d = 2) (r : Bool) (hr : plainB d a b c = r) : Calls Try.prog 16 #[.agg #[.int .u8 d, .int .u8 a, .int .u8 b, .int .u8 c]] w fun e w' => e = .returned (.bool r) ∧ Kp [] w w' := by
  have HR : Hid (r = decide (c = 0)) := Lib.hid (by rw [← hr]; unfold plainB; rw [h]; simp)
  have H := Lib.hid h
  clear h hr
  go_enter Try.func16, Try.ntmps16
  go_wp2_with fail
  refine (opargs_any _ d a b c).mono ?_
  rintro e w1 ⟨rfl, hk⟩
  obtain ⟨hc1, hf1⟩ := bcell hk.to_below
  have hz : w.heap.size < w1.heap.size := by have := hk.size; simp at this; omega
  have K := Lib.hid (((Kp.refl [] w).alloc _).trans hk)
  clear hk
  go_wp2_with fail
  refine (args_is _ d 2 h0 H.out).mono ?_
  rintro e w2 ⟨rfl, rfl⟩
  clear H hc1 hf1
  go_wp2_with fail
  have K2 := Lib.hid (K.out.alloc (.cells #[.int .u8 a, .int .u8 b, .int .u8 c] 48))
  clear K
  go_loop [5, 13] (fun v k => ∃ i : Nat, i ≤ 1 ∧ k = .int .i64 (i : Int) ∧ Hid ((0 < i → c = 0))) (fun _ k => 1 - (intOf k).toNat)
  case atStart => exact ⟨0, by omega, rfl, Lib.hid (by simp)⟩
  case round =>
    obtain ⟨i, hi, rfl, hZ⟩ := hrel
    have hc : i = 0 ∨ i = 1 := by omega
    rcases hc with rfl | rfl
    · by_cases hx : c = 0
      · have hb : (c != 0) = false := by simp [hx]
        have HX := Lib.hid hx
        clear hx
        go_wp2
        go_round
        case rel => exact ⟨1, by omega, rfl, Lib.hid (fun _ => HX.out)⟩
        case measure => simp [intOf]
      · have hb : (c != 0) = true := by simp [hx]
        have HX := Lib.hid hx
        clear hx
        go_wp2
        go_ret
        obtain rfl : r = false := HR.out.trans (decide_eq_false (fun h => HX.out h))
        exact ⟨rfl, K2.out⟩
    · go_wp2
      go_ret
      obtain rfl : r = true := HR.out.trans (decide_eq_true (hZ.out (by omega)))
      exact ⟨rfl, K2.out⟩

set_option maxRecDepth 100000 in
theorem plain_3 (w : World) (d a b c : Int) (h0 : 0 ≤ d) (h : argsN d = 3) (r : Bool) (hr : plainB d a b c = r) : Calls Try.prog 16 #[.agg #[.int .u8 d, .int .u8 a, .int .u8 b, .int .u8 c]] w fun e w' => e = .returned (.bool r) ∧ Kp [] w w' := by
  have HR : Hid (r = decide (True)) := Lib.hid (by rw [← hr]; unfold plainB; rw [h]; simp)
  have H := Lib.hid h
  clear h hr
  go_enter Try.func16, Try.ntmps16
  go_wp2_with fail
  refine (opargs_any _ d a b c).mono ?_
  rintro e w1 ⟨rfl, hk⟩
  obtain ⟨hc1, hf1⟩ := bcell hk.to_below
  have hz : w.heap.size < w1.heap.size := by have := hk.size; simp at this; omega
  have K := Lib.hid (((Kp.refl [] w).alloc _).trans hk)
  clear hk
  go_wp2_with fail
  refine (args_is _ d 3 h0 H.out).mono ?_
  rintro e w2 ⟨rfl, rfl⟩
  clear H hc1 hf1
  go_wp2_with fail
  have K2 := Lib.hid (K.out.alloc (.cells #[.int .u8 a, .int .u8 b, .int .u8 c] 48))
  clear K
  go_loop [5, 13] (fun v k => ∃ i : Nat, i ≤ 0 ∧ k = .int .i64 (i : Int) ∧ Hid (True)) (fun _ k => 0 - (intOf k).toNat)
  case atStart => exact ⟨0, by omega, rfl, Lib.hid (by simp)⟩
  case round =>
    obtain ⟨i, hi, rfl, hZ⟩ := hrel
    obtain rfl : i = 0 := by omega
    · go_wp2
      go_ret
      obtain rfl : r = true := HR.out.trans (decide_eq_true (trivial))
      exact ⟨rfl, K2.out⟩

theorem plain_is (w : World) (d a b c : Int) (h0 : 0 ≤ d) (r : Bool) (hr : plainB d a b c = r) : Calls Try.prog 16 #[.agg #[.int .u8 d, .int .u8 a, .int .u8 b, .int .u8 c]] w fun e w' => e = .returned (.bool r) ∧ Kp [] w w' := by
  have hn := argsN_le d
  have hc : argsN d = 0 ∨ argsN d = 1 ∨ argsN d = 2 ∨ argsN d = 3 := by omega
  rcases hc with h | h | h | h
  · exact plain_0 w d a b c h0 h r hr
  · exact plain_1 w d a b c h0 h r hr
  · exact plain_2 w d a b c h0 h r hr
  · exact plain_3 w d a b c h0 h r hr

end Go.Proofs.Ytclegfpgmhajmaa
