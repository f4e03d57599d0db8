/- The walks of May (the program's and the document's own). Conditions: as each theorem states them. -/
import Derived.Test.YtclegfpgmhajmaaScC
namespace Go.Proofs.Ytclegfpgmhajmaa
set_option linter.unusedVariables false
set_option linter.unusedSimpArgs false
open Go.RowKit

theorem may_is (w : World) (g d a b c : Int) (h0 : 0 ≤ d) (r : Bool) (hr : mayB g d a b c = r) : Calls Try.prog 8 #[.agg #[.int .u8 g, .int .u8 d, .int .u8 a, .int .u8 b, .int .u8 c]] w fun e w' => e = .returned (.bool r) ∧ Kp [] w w' := by
  unfold mayB at hr
  cases hp : plainB d a b c
  · rw [hp] at hr
    obtain rfl : false = r := hr
    have HP := Lib.hid hp
    clear hp
    go_enter Try.func8, Try.ntmps8
    go_wp2_with fail
    refine (plain_is _ d a b c h0 false HP.out).mono ?_
    rintro e w1 ⟨rfl, hk⟩
    have K := Lib.hid (((Kp.refl [] w).alloc _).trans hk)
    clear hk
    go_wp2
    go_ret
    exact ⟨rfl, K.out⟩
  · rw [hp] at hr
    have HP := Lib.hid hp
    clear hp
    cases ht : thrB g d
    · rw [ht] at hr
      have hr' : colB g d = r := hr
      have HC := Lib.hid hr'
      have HT := Lib.hid ht
      clear ht hr hr'
      go_enter Try.func8, Try.ntmps8
      go_wp2_with fail
      refine (plain_is _ d a b c h0 true HP.out).mono ?_
      rintro e w1 ⟨rfl, hk⟩
      obtain ⟨hc1, hf1⟩ := bcell hk.to_below
      have hz : w.heap.size < w1.heap.size := by have := hk.size; simp at this; omega
      have K := Lib.hid hk
      clear hk
      go_wp2_with fail
      refine (thr_is _ g d a b c false HT.out).mono ?_
      rintro e w2 ⟨rfl, hk⟩
      have hk2 := K.out.trans hk
      clear K hk hc1 hf1
      obtain ⟨hc1, hf1⟩ := bcell hk2.to_below
      have hz2 : w.heap.size < w2.heap.size := by have := hk2.size; simp at this; omega
      have K := Lib.hid hk2
      clear hk2
      go_wp2_with fail
      refine (col_is _ g d a b c r HC.out).mono ?_
      rintro e w3 ⟨rfl, hk⟩
      have K3 := Lib.hid (((Kp.refl [] w).alloc _).trans (K.out.trans hk))
      clear K hk hc1 hf1
      go_wp2
      go_ret
      exact ⟨rfl, K3.out⟩
    · rw [ht] at hr
      obtain rfl : true = r := hr
      have HT := Lib.hid ht
      clear ht
      go_enter Try.func8, Try.ntmps8
      go_wp2_with fail
      refine (plain_is _ d a b c h0 true HP.out).mono ?_
      rintro e w1 ⟨rfl, hk⟩
      obtain ⟨hc1, hf1⟩ := bcell hk.to_below
      have hz : w.heap.size < w1.heap.size := by have := hk.size; simp at this; omega
      have K := Lib.hid hk
      clear hk
      go_wp2_with fail
      refine (thr_is _ g d a b c true HT.out).mono ?_
      rintro e w2 ⟨rfl, hk⟩
      have K3 := Lib.hid (((Kp.refl [] w).alloc _).trans (K.out.trans hk))
      clear K hk hc1 hf1
      go_wp2
      go_ret
      exact ⟨rfl, K3.out⟩

set_option maxHeartbeats 2000000 in
theorem rtail_0 (w : World) (g d a b c : Int) (h0 : 0 ≤ d) (h1 : d < 256) (hd : d ≤ 13) (h : argsN d = 0) (hg : (g = 255 ∧ (d = 0 ∨ d = 13)) ∨ (g ≤ 63 ∧ d ≠ 13)) (r : Bool) (hr : plainB d a b c = r) :
    Calls Try.prog 9 #[.agg #[.int .u8 g, .int .u8 d, .int .u8 a, .int .u8 b, .int .u8 c]] w fun e w' => e = .returned (.bool r) ∧ Kp [] w w' := by
  have HR : Hid (r = decide (a = 0 ∧ b = 0 ∧ c = 0)) := Lib.hid (by rw [← hr]; unfold plainB; rw [h]; simp)
  have H := Lib.hid h
  clear h hr
  by_cases ha : a = 0
  rotate_left
  · have ba : (a == 0) = false := by simp [ha]
    have Ha := Lib.hid ha
    clear ha
    rcases hg with ⟨hg1, hg2⟩ | ⟨hg1, hg2⟩
    · obtain rfl := hg1
      rcases hg2 with rfl | rfl
      · go_enter Try.func9, Try.ntmps9
        go_wp2_with fail
        refine (rargs_is _ _ 0 (by omega) (by omega) H.out).mono ?_
        rintro e w1 ⟨rfl, hk⟩
        obtain ⟨hc1, hf1⟩ := bcell hk.to_below
        have K := Lib.hid (((Kp.refl [] w).alloc _).trans hk)
        clear hk
        go_wp2
        go_ret
        obtain rfl : r = false := HR.out.trans (decide_eq_false (fun h => Ha.out h.1))
        exact ⟨rfl, K.out⟩
      · go_enter Try.func9, Try.ntmps9
        go_wp2_with fail
        refine (rargs_is _ _ 0 (by omega) (by omega) H.out).mono ?_
        rintro e w1 ⟨rfl, hk⟩
        obtain ⟨hc1, hf1⟩ := bcell hk.to_below
        have K := Lib.hid (((Kp.refl [] w).alloc _).trans hk)
        clear hk
        go_wp2
        go_ret
        obtain rfl : r = false := HR.out.trans (decide_eq_false (fun h => Ha.out h.1))
        exact ⟨rfl, K.out⟩
    · have bg : (g == 255) = false := by simp; omega
      have bd : (d == 13) = false := by simp [hg2]
      clear hg2
      go_enter Try.func9, Try.ntmps9
      go_wp2_with fail
      refine (rargs_is _ _ 0 (by omega) (by omega) H.out).mono ?_
      rintro e w1 ⟨rfl, hk⟩
      obtain ⟨hc1, hf1⟩ := bcell hk.to_below
      have K := Lib.hid (((Kp.refl [] w).alloc _).trans hk)
      clear hk
      go_wp2
      go_ret
      obtain rfl : r = false := HR.out.trans (decide_eq_false (fun h => Ha.out h.1))
      exact ⟨rfl, K.out⟩
  by_cases hb : b = 0
  rotate_left
  · have ba : (a == 0) = true := by simp [ha]
    have Ha := Lib.hid ha
    clear ha
    have bb : (b == 0) = false := by simp [hb]
    have Hb := Lib.hid hb
    clear hb
    rcases hg with ⟨hg1, hg2⟩ | ⟨hg1, hg2⟩
    · obtain rfl := hg1
      rcases hg2 with rfl | rfl
      · go_enter Try.func9, Try.ntmps9
        go_wp2_with fail
        refine (rargs_is _ _ 0 (by omega) (by omega) H.out).mono ?_
        rintro e w1 ⟨rfl, hk⟩
        obtain ⟨hc1, hf1⟩ := bcell hk.to_below
        have K := Lib.hid (((Kp.refl [] w).alloc _).trans hk)
        clear hk
        go_wp2
        go_ret
        obtain rfl : r = false := HR.out.trans (decide_eq_false (fun h => Hb.out h.2.1))
        exact ⟨rfl, K.out⟩
      · go_enter Try.func9, Try.ntmps9
        go_wp2_with fail
        refine (rargs_is _ _ 0 (by omega) (by omega) H.out).mono ?_
        rintro e w1 ⟨rfl, hk⟩
        obtain ⟨hc1, hf1⟩ := bcell hk.to_below
        have K := Lib.hid (((Kp.refl [] w).alloc _).trans hk)
        clear hk
        go_wp2
        go_ret
        obtain rfl : r = false := HR.out.trans (decide_eq_false (fun h => Hb.out h.2.1))
        exact ⟨rfl, K.out⟩
    · have bg : (g == 255) = false := by simp; omega
      have bd : (d == 13) = false := by simp [hg2]
      clear hg2
      go_enter Try.func9, Try.ntmps9
      go_wp2_with fail
      refine (rargs_is _ _ 0 (by omega) (by omega) H.out).mono ?_
      rintro e w1 ⟨rfl, hk⟩
      obtain ⟨hc1, hf1⟩ := bcell hk.to_below
      have K := Lib.hid (((Kp.refl [] w).alloc _).trans hk)
      clear hk
      go_wp2
      go_ret
      obtain rfl : r = false := HR.out.trans (decide_eq_false (fun h => Hb.out h.2.1))
      exact ⟨rfl, K.out⟩
  by_cases hc : c = 0
  rotate_left
  · have ba : (a == 0) = true := by simp [ha]
    have Ha := Lib.hid ha
    clear ha
    have bb : (b == 0) = true := by simp [hb]
    have Hb := Lib.hid hb
    clear hb
    have bc : (c == 0) = false := by simp [hc]
    have Hc := Lib.hid hc
    clear hc
    rcases hg with ⟨hg1, hg2⟩ | ⟨hg1, hg2⟩
    · obtain rfl := hg1
      rcases hg2 with rfl | rfl
      · go_enter Try.func9, Try.ntmps9
        go_wp2_with fail
        refine (rargs_is _ _ 0 (by omega) (by omega) H.out).mono ?_
        rintro e w1 ⟨rfl, hk⟩
        obtain ⟨hc1, hf1⟩ := bcell hk.to_below
        have K := Lib.hid (((Kp.refl [] w).alloc _).trans hk)
        clear hk
        go_wp2
        go_ret
        obtain rfl : r = false := HR.out.trans (decide_eq_false (fun h => Hc.out h.2.2))
        exact ⟨rfl, K.out⟩
      · go_enter Try.func9, Try.ntmps9
        go_wp2_with fail
        refine (rargs_is _ _ 0 (by omega) (by omega) H.out).mono ?_
        rintro e w1 ⟨rfl, hk⟩
        obtain ⟨hc1, hf1⟩ := bcell hk.to_below
        have K := Lib.hid (((Kp.refl [] w).alloc _).trans hk)
        clear hk
        go_wp2
        go_ret
        obtain rfl : r = false := HR.out.trans (decide_eq_false (fun h => Hc.out h.2.2))
        exact ⟨rfl, K.out⟩
    · have bg : (g == 255) = false := by simp; omega
      have bd : (d == 13) = false := by simp [hg2]
      clear hg2
      go_enter Try.func9, Try.ntmps9
      go_wp2_with fail
      refine (rargs_is _ _ 0 (by omega) (by omega) H.out).mono ?_
      rintro e w1 ⟨rfl, hk⟩
      obtain ⟨hc1, hf1⟩ := bcell hk.to_below
      have K := Lib.hid (((Kp.refl [] w).alloc _).trans hk)
      clear hk
      go_wp2
      go_ret
      obtain rfl : r = false := HR.out.trans (decide_eq_false (fun h => Hc.out h.2.2))
      exact ⟨rfl, K.out⟩
  have ba : (a == 0) = true := by simp [ha]
  have Ha := Lib.hid ha
  clear ha
  have bb : (b == 0) = true := by simp [hb]
  have Hb := Lib.hid hb
  clear hb
  have bc : (c == 0) = true := by simp [hc]
  have Hc := Lib.hid hc
  clear hc
  rcases hg with ⟨hg1, hg2⟩ | ⟨hg1, hg2⟩
  · obtain rfl := hg1
    rcases hg2 with rfl | rfl
    · go_enter Try.func9, Try.ntmps9
      go_wp2_with fail
      refine (rargs_is _ _ 0 (by omega) (by omega) H.out).mono ?_
      rintro e w1 ⟨rfl, hk⟩
      obtain ⟨hc1, hf1⟩ := bcell hk.to_below
      have K := Lib.hid (((Kp.refl [] w).alloc _).trans hk)
      clear hk
      go_wp2
      go_ret
      obtain rfl : r = true := HR.out.trans (decide_eq_true (⟨Ha.out, Hb.out, Hc.out⟩))
      exact ⟨rfl, K.out⟩
    · go_enter Try.func9, Try.ntmps9
      go_wp2_with fail
      refine (rargs_is _ _ 0 (by omega) (by omega) H.out).mono ?_
      rintro e w1 ⟨rfl, hk⟩
      obtain ⟨hc1, hf1⟩ := bcell hk.to_below
      have K := Lib.hid (((Kp.refl [] w).alloc _).trans hk)
      clear hk
      go_wp2
      go_ret
      obtain rfl : r = true := HR.out.trans (decide_eq_true (⟨Ha.out, Hb.out, Hc.out⟩))
      exact ⟨rfl, K.out⟩
  · have bg : (g == 255) = false := by simp; omega
    have bd : (d == 13) = false := by simp [hg2]
    clear hg2
    go_enter Try.func9, Try.ntmps9
    go_wp2_with fail
    refine (rargs_is _ _ 0 (by omega) (by omega) H.out).mono ?_
    rintro e w1 ⟨rfl, hk⟩
    obtain ⟨hc1, hf1⟩ := bcell hk.to_below
    have K := Lib.hid (((Kp.refl [] w).alloc _).trans hk)
    clear hk
    go_wp2
    go_ret
    obtain rfl : r = true := HR.out.trans (decide_eq_true (⟨Ha.out, Hb.out, Hc.out⟩))
    exact ⟨rfl, K.out⟩

set_option maxHeartbeats 2000000 in
theorem rtail_1 (w : World) (g d a b c : Int) (h0 : 0 ≤ d) (h1 : d < 256) (hd : d ≤ 13) (h : argsN d = 1) (hg : (g = 255 ∧ (d = 0 ∨ d = 13)) ∨ (g ≤ 63 ∧ d ≠ 13)) (r : Bool) (hr : plainB d a b c = r) :
    Calls Try.prog 9 #[.agg #[.int .u8 g, .int .u8 d, .int .u8 a, .int .u8 b, .int .u8 c]] w fun e w' => e = .returned (.bool r) ∧ Kp [] w w' := by
  have HR : Hid (r = decide (b = 0 ∧ c = 0)) := Lib.hid (by rw [← hr]; unfold plainB; rw [h]; simp)
  have H := Lib.hid h
  clear h hr
  by_cases hb : b = 0
  rotate_left
  · have bb : (b == 0) = false := by simp [hb]
    have Hb := Lib.hid hb
    clear hb
    rcases hg with ⟨hg1, hg2⟩ | ⟨hg1, hg2⟩
    · obtain rfl := hg1
      rcases hg2 with rfl | rfl
      · exact absurd H.out (by decide)
      · exact absurd H.out (by decide)
    · have bg : (g == 255) = false := by simp; omega
      have bd : (d == 13) = false := by simp [hg2]
      clear hg2
      go_enter Try.func9, Try.ntmps9
      go_wp2_with fail
      refine (rargs_is _ _ 1 (by omega) (by omega) H.out).mono ?_
      rintro e w1 ⟨rfl, hk⟩
      obtain ⟨hc1, hf1⟩ := bcell hk.to_below
      have K := Lib.hid (((Kp.refl [] w).alloc _).trans hk)
      clear hk
      go_wp2
      go_ret
      obtain rfl : r = false := HR.out.trans (decide_eq_false (fun h => Hb.out h.1))
      exact ⟨rfl, K.out⟩
  by_cases hc : c = 0
  rotate_left
  · have bb : (b == 0) = true := by simp [hb]
    have Hb := Lib.hid hb
    clear hb
    have bc : (c == 0) = false := by simp [hc]
    have Hc := Lib.hid hc
    clear hc
    rcases hg with ⟨hg1, hg2⟩ | ⟨hg1, hg2⟩
    · obtain rfl := hg1
      rcases hg2 with rfl | rfl
      · exact absurd H.out (by decide)
      · exact absurd H.out (by decide)
    · have bg : (g == 255) = false := by simp; omega
      have bd : (d == 13) = false := by simp [hg2]
      clear hg2
      go_enter Try.func9, Try.ntmps9
      go_wp2_with fail
      refine (rargs_is _ _ 1 (by omega) (by omega) H.out).mono ?_
      rintro e w1 ⟨rfl, hk⟩
      obtain ⟨hc1, hf1⟩ := bcell hk.to_below
      have K := Lib.hid (((Kp.refl [] w).alloc _).trans hk)
      clear hk
      go_wp2
      go_ret
      obtain rfl : r = false := HR.out.trans (decide_eq_false (fun h => Hc.out h.2))
      exact ⟨rfl, K.out⟩
  have bb : (b == 0) = true := by simp [hb]
  have Hb := Lib.hid hb
  clear hb
  have bc : (c == 0) = true := by simp [hc]
  have Hc := Lib.hid hc
  clear hc
  rcases hg with ⟨hg1, hg2⟩ | ⟨hg1, hg2⟩
  · obtain rfl := hg1
    rcases hg2 with rfl | rfl
    · exact absurd H.out (by decide)
    · exact absurd H.out (by decide)
  · have bg : (g == 255) = false := by simp; omega
    have bd : (d == 13) = false := by simp [hg2]
    clear hg2
    go_enter Try.func9, Try.ntmps9
    go_wp2_with fail
    refine (rargs_is _ _ 1 (by omega) (by omega) H.out).mono ?_
    rintro e w1 ⟨rfl, hk⟩
    obtain ⟨hc1, hf1⟩ := bcell hk.to_below
    have K := Lib.hid (((Kp.refl [] w).alloc _).trans hk)
    clear hk
    go_wp2
    go_ret
    obtain rfl : r = true := HR.out.trans (decide_eq_true (⟨Hb.out, Hc.out⟩))
    exact ⟨rfl, K.out⟩

set_option maxHeartbeats 2000000 in
theorem rtail_2 (w : World) (g d a b c : Int) (h0 : 0 ≤ d) (h1 : d < 256) (hd : d ≤ 13) (h : argsN d = 2) (hg : (g = 255 ∧ (d = 0 ∨ d = 13)) ∨ (g ≤ 63 ∧ d ≠ 13)) (r : Bool) (hr : plainB d a b c = r) :
    Calls Try.prog 9 #[.agg #[.int .u8 g, .int .u8 d, .int .u8 a, .int .u8 b, .int .u8 c]] w fun e w' => e = .returned (.bool r) ∧ Kp [] w w' := by
  have HR : Hid (r = decide (c = 0)) := Lib.hid (by rw [← hr]; unfold plainB; rw [h]; simp)
  have H := Lib.hid h
  clear h hr
  by_cases hc : c = 0
  rotate_left
  · have bc : (c == 0) = false := by simp [hc]
    have Hc := Lib.hid hc
    clear hc
    rcases hg with ⟨hg1, hg2⟩ | ⟨hg1, hg2⟩
    · obtain rfl := hg1
      rcases hg2 with rfl | rfl
      · exact absurd H.out (by decide)
      · exact absurd H.out (by decide)
    · have bg : (g == 255) = false := by simp; omega
      have bd : (d == 13) = false := by simp [hg2]
      clear hg2
      go_enter Try.func9, Try.ntmps9
      go_wp2_with fail
      refine (rargs_is _ _ 2 (by omega) (by omega) H.out).mono ?_
      rintro e w1 ⟨rfl, hk⟩
      obtain ⟨hc1, hf1⟩ := bcell hk.to_below
      have K := Lib.hid (((Kp.refl [] w).alloc _).trans hk)
      clear hk
      go_wp2
      go_ret
      obtain rfl : r = false := HR.out.trans (decide_eq_false (fun h => Hc.out h))
      exact ⟨rfl, K.out⟩
  have bc : (c == 0) = true := by simp [hc]
  have Hc := Lib.hid hc
  clear hc
  rcases hg with ⟨hg1, hg2⟩ | ⟨hg1, hg2⟩
  · obtain rfl := hg1
    rcases hg2 with rfl | rfl
    · exact absurd H.out (by decide)
    · exact absurd H.out (by decide)
  · have bg : (g == 255) = false := by simp; omega
    have bd : (d == 13) = false := by simp [hg2]
    clear hg2
    go_enter Try.func9, Try.ntmps9
    go_wp2_with fail
    refine (rargs_is _ _ 2 (by omega) (by omega) H.out).mono ?_
    rintro e w1 ⟨rfl, hk⟩
    obtain ⟨hc1, hf1⟩ := bcell hk.to_below
    have K := Lib.hid (((Kp.refl [] w).alloc _).trans hk)
    clear hk
    go_wp2
    go_ret
    obtain rfl : r = true := HR.out.trans (decide_eq_true (Hc.out))
    exact ⟨rfl, K.out⟩

set_option maxHeartbeats 2000000 in
theorem rtail_3 (w : World) (g d a b c : Int) (h0 : 0 ≤ d) (h1 : d < 256) (hd : d ≤ 13) (h : argsN d = 3) (hg : (g = 255 ∧ (d = 0 ∨ d = 13)) ∨ (g ≤ 63 ∧ d ≠ 13)) (r : Bool) (hr : plainB d a b c = r) :
    Calls Try.prog 9 #[.agg #[.int .u8 g, .int .u8 d, .int .u8 a, .int .u8 b, .int .u8 c]] w fun e w' => e = .returned (.bool r) ∧ Kp [] w w' := by
  have HR : Hid (r = decide (True)) := Lib.hid (by rw [← hr]; unfold plainB; rw [h]; simp)
  have H := Lib.hid h
  clear h hr
  rcases hg with ⟨hg1, hg2⟩ | ⟨hg1, hg2⟩
  · obtain rfl := hg1
    rcases hg2 with rfl | rfl
    · exact absurd H.out (by decide)
    · exact absurd H.out (by decide)
  · have bg : (g == 255) = false := by simp; omega
    have bd : (d == 13) = false := by simp [hg2]
    clear hg2
    go_enter Try.func9, Try.ntmps9
    go_wp2_with fail
    refine (rargs_is _ _ 3 (by omega) (by omega) H.out).mono ?_
    rintro e w1 ⟨rfl, hk⟩
    obtain ⟨hc1, hf1⟩ := bcell hk.to_below
    have K := Lib.hid (((Kp.refl [] w).alloc _).trans hk)
    clear hk
    go_wp2
    go_ret
    obtain rfl : r = true := HR.out.trans (decide_eq_true (trivial))
    exact ⟨rfl, K.out⟩

theorem rtail_is (w : World) (g d a b c : Int) (h0 : 0 ≤ d) (h1 : d < 256) (hd : d ≤ 13) (hg : (g = 255 ∧ (d = 0 ∨ d = 13)) ∨ (g ≤ 63 ∧ d ≠ 13)) (r : Bool) (hr : plainB d a b c = r) :
    Calls Try.prog 9 #[.agg #[.int .u8 g, .int .u8 d, .int .u8 a, .int .u8 b, .int .u8 c]] w fun e w' => e = .returned (.bool r) ∧ Kp [] w w' := by
  have hn := argsN_le d
  have hc : argsN d = 0 ∨ argsN d = 1 ∨ argsN d = 2 ∨ argsN d = 3 := by omega
  rcases hc with h | h | h | h
  · exact rtail_0 w g d a b c h0 h1 hd h hg r hr
  · exact rtail_1 w g d a b c h0 h1 hd h hg r hr
  · exact rtail_2 w g d a b c h0 h1 hd h hg r hr
  · exact rtail_3 w g d a b c h0 h1 hd h hg r hr

theorem rmay_is (w : World) (g d a b c : Int) (hg0 : 0 ≤ g) (hg1 : g < 256) (h0 : 0 ≤ d) (h1 : d < 256) (r : Bool) (hr : mayB g d a b c = r) : Calls Try.prog 9 #[.agg #[.int .u8 g, .int .u8 d, .int .u8 a, .int .u8 b, .int .u8 c]] w fun e w' => e = .returned (.bool r) ∧ Kp [] w w' := by
  unfold mayB thrB colB at hr
  by_cases hok : (g = 255 ∧ (d = 0 ∨ d = 13)) ∨ (g ≤ 63 ∧ d < 13)
  · refine rtail_is w g d a b c h0 h1 (by omega) (by omega) r ?_
    rw [← hr]
    have : (decide (g < 64 ∧ d < 13) || decide (g = 255 ∧ (d = 0 ∨ d = 13))) = true := by
      rw [Bool.or_eq_true, decide_eq_true_eq, decide_eq_true_eq]; omega
    rw [this, Bool.and_true]
  · obtain rfl : false = r := by
      rw [← hr]
      have : (decide (g < 64 ∧ d < 13) || decide (g = 255 ∧ (d = 0 ∨ d = 13))) = false := by
        rw [Bool.or_eq_false_iff, decide_eq_false_iff_not, decide_eq_false_iff_not]; omega
      rw [this, Bool.and_false]
    clear hr
    by_cases hd : 13 < d
    · clear hok
      go_enter Try.func9, Try.ntmps9
      go_wp2
      go_ret
      exact ⟨rfl, (Kp.refl _ _).alloc _⟩
    · by_cases hg : g = 255
      · subst hg
        have b0 : (d != 0) = true := by simp; omega
        have b1 : (d != 13) = true := by simp; omega
        clear hok
        go_enter Try.func9, Try.ntmps9
        go_wp2
        go_ret
        exact ⟨rfl, (Kp.refl _ _).alloc _⟩
      · have bg : (g == 255) = false := by simp [hg]
        by_cases hg3 : 63 < g
        · clear hok hg
          go_enter Try.func9, Try.ntmps9
          go_wp2
          go_ret
          exact ⟨rfl, (Kp.refl _ _).alloc _⟩
        · have bd : (d == 13) = true := by simp; omega
          clear hok hg
          go_enter Try.func9, Try.ntmps9
          go_wp2
          go_ret
          exact ⟨rfl, (Kp.refl _ _).alloc _⟩

end Go.Proofs.Ytclegfpgmhajmaa
