/- The walks of the document's own Shaded and Blackened, and of the law's wakes. Conditions: as each theorem states them (the numbers are those of a uint8, of a uint64). -/
import Derived.Test.YtjdihjndcpkndaaShC
namespace Go.Proofs.Ytjdihjndcpkndaa
set_option linter.unusedVariables false
set_option linter.unusedSimpArgs false
open Go.RowKit

theorem rword_is (k c o r s y : Int) (g m : Bool) (w : World) (hk : 0 ≤ k) (hc : 0 ≤ c) (ho : 0 ≤ o) (hr : 0 ≤ r) (hs : 0 ≤ s) (hk1 : k ≤ 255) (hc1 : c ≤ 255) (ho1 : o ≤ 255) (hr1 : r ≤ 255) (hs1 : s ≤ 255) (hy : wordI k c o r s g m = y) :
    Calls Try.prog 23 #[.agg (hcells k c g m o r s)] w fun e w' => e = .returned (.int .u64 y) ∧ Kp [] w w' :=
  (rword_any k c o r s g m w hk hc ho hr hs hk1 hc1 ho1 hr1 hs1).mono fun e w' ⟨he, hb⟩ => ⟨by rw [he, hy], kp_of_below hb⟩

theorem shaded_not (x c t : Int) (b : Bool) (w : World) (h0 : 0 ≤ x) (h1 : x < 18446744073709551616) (hT : tellI x c = t) (ht1 : (t == 1) = false) (hb : (t == 2) = b) :
    Calls Try.prog 11 #[.int .u64 x, .int .u8 c] w fun e w' => e = .returned (.tuple #[.int .u64 x, .bool b]) ∧ Kp [] w w' := by
  have HX := Lib.hid h1
  have HT := Lib.hid hT
  clear h1 hT
  subst hb
  go_enter Try.func11, Try.ntmps11
  go_wp2_with fail
  refine (rtell_is x c t _ h0 HX.out HT.out).mono ?_; rintro e w1 ⟨rfl, hk⟩
  have HK := Lib.hid hk
  clear hk
  go_wp2
  go_ret2
  exact ⟨rfl, HK.out⟩

theorem rtake_glob (x : Int) (w : World) (h0 : 0 ≤ x) (h : glob x = true) :
    Calls Try.prog 17 #[.int .u64 x] w fun e w' => e = .returned (.tuple #[.agg (hcells 3 (x / 4 % 2) (x / 8 % 2 == 1) false (x / 32 % 64) (x / 2048 % 128) (x / 262144 % 128)), .int .i64 0]) ∧ Kp [] w w' := by
  have := rtake_some x w h0 (glob_take h).1
  rw [gparts x h] at this
  exact this.mono fun e w' ⟨he, hb⟩ => ⟨he, kp_of_below hb⟩

theorem shaded_one (x c : Int) (w : World) (h0 : 0 ≤ x) (h1 : x < 18446744073709551616) (hc0 : 0 ≤ c) (hT : tellI x c = 1) :
    Calls Try.prog 11 #[.int .u64 x, .int .u8 c] w fun e w' => e = .returned (.tuple #[.int .u64 (shadeI x c), .bool true]) ∧ Kp [] w w' := by
  have HX := Lib.hid h1
  have HT := Lib.hid hT
  obtain ⟨hg, hc1⟩ := tell_pos (x := x) (c := c) (by omega)
  rw [shadeI, if_pos hT]
  have hk := fun w => rtake_glob x w h0 hg
  have hw : Hid (∀ w, Calls Try.prog 23 #[.agg (hcells 3 c true false (x / 32 % 64) (x / 2048 % 128) (x / 262144 % 128))] w fun e w' => e = .returned (.int .u64 (dyed x c true)) ∧ Kp [] w w') :=
    Lib.hid fun w => rword_is _ _ _ _ _ _ _ _ w (by omega) (by omega) (by omega) (by omega) (by omega) (by omega) (by omega) (by omega) (by omega) (by omega) rfl
  have HD := Lib.hid hk
  clear h1 hT hk hg
  generalize dyed x c true = y at hw ⊢
  generalize x / 32 % 64 = o at *
  generalize x / 2048 % 128 = r at *
  generalize x / 262144 % 128 = s at *
  generalize x / 4 % 2 = c0 at *
  generalize (x / 8 % 2 == 1) = g0 at *
  go_enter Try.func11, Try.ntmps11
  go_wp2_with fail
  refine (rtell_is x c 1 _ h0 HX.out HT.out).mono ?_; rintro e w1 ⟨rfl, hk⟩
  have HK := Lib.hid hk
  clear hk
  go_wp2_with fail
  refine (HD.out _).mono ?_; rintro e w2 ⟨rfl, hk⟩
  have HK2 := Lib.hid (HK.out.trans hk)
  have hz := HK2.out.size
  clear hk HK
  go_wp2_with fail
  refine (hw.out _).mono ?_; rintro e w3 ⟨rfl, hk⟩
  have HK3 := Lib.hid ((HK2.out.alloc _).trans hk)
  clear hk HK2
  go_wp2
  go_ret2
  exact ⟨rfl, HK3.out⟩

theorem blackened_core (x k c o r s n y : Int) (g m : Bool) (w : World) (hw : (n != 0) = true ∧ y = x ∨ n = 0 ∧ (k != 3) = true ∧ y = x)
    (hT : Hid (∀ w, Calls Try.prog 17 #[.int .u64 x] w fun e w' => e = .returned (.tuple #[.agg (hcells k c g m o r s), .int .i64 n]) ∧ Kp [] w w')) :
    Calls Try.prog 14 #[.int .u64 x] w fun e w' => e = .returned (.int .u64 y) ∧ Kp [] w w' := by
  rcases hw with ⟨h1, rfl⟩ | ⟨rfl, h1, rfl⟩
  all_goals
    go_enter Try.func14, Try.ntmps14
    go_wp2_with fail
    refine (hT.out _).mono ?_; rintro e w1 ⟨rfl, hk⟩
    have HK := Lib.hid (hk.alloc (.cells (hcells k c g m o r s) 43))
    clear hk
    go_wp2
    go_ret
    exact ⟨rfl, HK.out⟩

theorem blackened_yes (x : Int) (w : World) (h0 : 0 ≤ x) (hg : glob x = true) :
    Calls Try.prog 14 #[.int .u64 x] w fun e w' => e = .returned (.int .u64 (blackI x)) ∧ Kp [] w w' := by
  rw [blackI, if_pos hg]
  have hk := fun w => rtake_glob x w h0 hg
  have hw : Hid (∀ w, Calls Try.prog 23 #[.agg (hcells 3 (x / 4 % 2) false false (x / 32 % 64) (x / 2048 % 128) (x / 262144 % 128))] w fun e w' => e = .returned (.int .u64 (dyed x (x / 4 % 2) false)) ∧ Kp [] w w') :=
    Lib.hid fun w => rword_is _ _ _ _ _ _ _ _ w (by omega) (by omega) (by omega) (by omega) (by omega) (by omega) (by omega) (by omega) (by omega) (by omega) rfl
  have HD := Lib.hid hk
  clear hk hg
  generalize dyed x (x / 4 % 2) false = y at hw ⊢
  generalize x / 32 % 64 = o at *
  generalize x / 2048 % 128 = r at *
  generalize x / 262144 % 128 = s at *
  generalize x / 4 % 2 = c0 at *
  generalize (x / 8 % 2 == 1) = g0 at *
  go_enter Try.func14, Try.ntmps14
  go_wp2_with fail
  refine (HD.out _).mono ?_; rintro e w2 ⟨rfl, hk⟩
  have HK2 := Lib.hid hk
  have hz := hk.size
  clear hk
  go_wp2_with fail
  refine (hw.out _).mono ?_; rintro e w3 ⟨rfl, hk⟩
  have HK3 := Lib.hid ((HK2.out.alloc _).trans hk)
  clear hk HK2
  go_wp2
  go_ret
  exact ⟨rfl, HK3.out⟩

theorem blackened_is (x : Int) (w : World) (h0 : 0 ≤ x) (h1 : x < 18446744073709551616) :
    Calls Try.prog 14 #[.int .u64 x] w fun e w' => e = .returned (.int .u64 (blackI x)) ∧ Kp [] w w' := by
  by_cases hg : glob x = true
  · exact blackened_yes x w h0 hg
  rw [blackI, if_neg hg]
  by_cases hk : takeB x = true
  · refine blackened_core x _ _ _ _ _ 0 x _ _ w (.inr ⟨rfl, ?_, rfl⟩) (Lib.hid fun w => (rtake_some x w h0 hk).mono fun e w' ⟨he, hb⟩ => ⟨he, kp_of_below hb⟩)
    simp [glob, hk] at hg
    simpa using hg
  · exact blackened_core x 0 0 0 0 0 3 x false false w (.inl ⟨rfl, rfl⟩) (Lib.hid fun w => (rtake_none x w h0 h1 (by simpa using hk)).mono fun e w' ⟨he, hb⟩ => ⟨he, kp_of_below hb⟩)

theorem stake_lit (w : World) : Calls Try.prog 28 #[.int .u64 262151] w fun e w' => e = .returned (.tuple #[.agg (hcells 3 1 false false 0 0 1), .int .i64 0]) ∧ Kp [] w w' :=
  (take_yes 262151 w (by decide) (by decide) (by decide)).mono fun _ _ ⟨he, hb⟩ => ⟨he, kp_of_below hb⟩
theorem sput_lit (w : World) : Calls Try.prog 27 #[.agg #[.int .u8 3, .int .u8 0, .bool false, .bool false, .int .u8 0, .int .u8 0, .int .u8 1]] w fun e w' => e = .returned (.tuple #[.int .u64 262147, .int .i64 0]) ∧ Kp [] w w' :=
  sput_yes 3 0 0 0 1 262147 false false w (by decide) (by decide) (by decide) (by decide) (by decide) (by decide) (by decide)

set_option maxHeartbeats 1000000 in
theorem swakes_any (w : World) : Calls Try.prog 15 #[] w fun e w' => e = .returned (.bool true) ∧ Kp [] w w' := by
  have hnew : Calls Try.prog 7 #[.int .i64 1] w _ := new_good w 1 (by omega) (by omega)
  have heq := fun w => (eq28 3 1 0 0 1 3 1 0 0 1 false false false false w)
  rw [show heqB 3 1 0 0 1 3 1 0 0 1 false false false false = true from rfl] at heq
  go_enter Try.func15, Try.ntmps15
  go_wp2_with fail
  refine hnew.mono ?_
  rintro e w1 ⟨rfl, ha1, hk1⟩
  have HB : Hid (w.heap.size ≤ w.heap.size + 1) := Lib.hid (by omega)
  have HA1 := Lib.hid ha1
  have K1 := Lib.hid hk1
  clear hk1 ha1
  go_wp2_with fail
  refine (sput_lit _).mono ?_
  rintro e w2 ⟨rfl, hk⟩
  have HA2 := Lib.hid (HA1.out.keep hk (by simp) (by simp))
  have K2 := Lib.hid (K1.out.trans hk)
  clear hk HA1 K1
  go_wp2_with fail
  refine (write_any _ _ _ _ 0 262147 HA2.out (by decide) (by decide)).mono ?_
  rintro e w3 ⟨rfl, ha, hk⟩
  have HA3 := Lib.hid ha
  have K3 := Lib.hid (show Kp [] w w3 from Kp.trans_two K2.out hk (by omega) (by omega))
  clear hk ha HA2 K2
  go_wp2_with fail
  refine (shade_one _ _ _ _ 0 1 262147 HA3.out (by decide) (by decide) (by decide) (by decide) (by rfl) (by decide) (by decide) (by decide)).mono ?_
  rintro e w4 ⟨rfl, ha, hk⟩
  have HA4 := Lib.hid ha
  have K4 := Lib.hid (show Kp [] w w4 from Kp.trans_two K3.out hk (by omega) (by omega))
  clear hk ha HA3 K3
  go_wp2_with fail
  refine (shade_low _ _ _ _ 0 1 262159 2 true HA4.out (by decide) (by decide) (by decide) (by decide) (by decide) (by decide) (by decide) (by decide) (by decide) (by decide)).mono ?_
  rintro e w5 ⟨rfl, ha, hk⟩
  have HA5 := Lib.hid ha
  have K5 := Lib.hid (show Kp [] w w5 from Kp.trans_two K4.out hk (by omega) (by omega))
  clear hk ha HA4 K4
  go_wp2_with fail
  refine (black_any _ _ _ _ 0 HA5.out (by decide) (by decide) (by decide) (by decide)).mono ?_
  rintro e w6 ⟨rfl, ha, hk⟩
  have HA6 := Lib.hid ha
  have K6 := Lib.hid (show Kp [] w w6 from Kp.trans_two K5.out hk (by omega) (by omega))
  clear hk ha HA5 K5
  go_wp2_with fail
  refine (shade_low _ _ _ _ 0 1 262151 3 false HA6.out (by decide) (by decide) (by decide) (by decide) (by decide) (by decide) (by decide) (by decide) (by decide) (by decide)).mono ?_
  rintro e w7 ⟨rfl, ha, hk⟩
  have HA7 := Lib.hid ha
  have K7 := Lib.hid (show Kp [] w w7 from Kp.trans_two K6.out hk (by omega) (by omega))
  clear hk ha HA6 K6
  go_wp2_with fail
  have hrd : Calls Try.prog 12 #[.pointer (some ⟨w.heap.size + 1, 0, none⟩), .int .i64 0] w7 fun e w' => e = .returned (.int .u64 262151) ∧ Kp [w.heap.size + 1, w.heap.size] w7 w' :=
    (read_any _ _ _ _ 0 HA7.out (by decide) (by decide)).mono fun e w' ⟨he, _, hk⟩ => ⟨by rw [he]; rfl, hk⟩
  refine hrd.mono ?_
  rintro e w8 ⟨rfl, hk⟩
  have K8 := Lib.hid (show Kp [] w w8 from Kp.trans_two K7.out hk (by omega) (by omega))
  clear hk HA7 K7 hrd
  go_wp2_with fail
  refine (stake_lit _).mono ?_
  rintro e w9 ⟨rfl, hk⟩
  have K9 := Lib.hid ((K8.out.trans hk).alloc (.cells (hcells 3 1 false false 0 0 1) 40))
  clear hk K8
  go_wp2_with fail
  refine (tell_is 262147 1 1 _ (by decide) (by decide) (by decide)).mono ?_
  rintro e w10 ⟨rfl, hk⟩
  have K10 := Lib.hid (K9.out.trans hk)
  clear hk K9
  go_wp2
  go_ret
  exact ⟨rfl, K10.out⟩

theorem snil_any (w : World) (k c : Int) : Calls Try.prog 4 #[.int .i64 k, .int .u8 c] w fun e w' => e = .returned (.bool true) ∧ Kp [] w w' := by
  go_enter Try.func4, Try.ntmps4
  go_wp2_with fail
  refine (black_none _ _).mono ?_
  rintro e w1 ⟨rfl, hk⟩
  have K1 := Lib.hid hk
  clear hk
  go_wp2_with fail
  refine (shade_none _ _ _).mono ?_
  rintro e w2 ⟨rfl, hk⟩
  have K2 := Lib.hid (K1.out.trans hk)
  clear hk K1
  go_wp2_with fail
  refine (swakes_any _).mono ?_
  rintro e w3 ⟨rfl, hk⟩
  have K3 := Lib.hid (K2.out.trans hk)
  clear hk K2
  go_wp2
  go_ret
  exact ⟨rfl, K3.out⟩

end Go.Proofs.Ytjdihjndcpkndaa
