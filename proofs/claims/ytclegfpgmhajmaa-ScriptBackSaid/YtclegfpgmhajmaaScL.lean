/- ScriptBack, walked: for every entries, every text and every cut it returns true. Conditions: the entries lie where the slice leads. -/
import Derived.Test.YtclegfpgmhajmaaScJ
import Derived.Test.YtclegfpgmhajmaaScO
import Derived.Test.YtclegfpgmhajmaaScB
import Derived.RegionTactic
namespace Go.Proofs.Ytclegfpgmhajmaa
set_option linter.unusedVariables false
set_option linter.unusedSimpArgs false
open Go.RowKit

set_option maxRecDepth 100000 in
theorem back_skip (w : World) (ao : Option Addr) (n cap : Nat) (s : ByteArray) (y : Int) (h : 300 < n ∨ 5000 < s.size) :
    Calls Try.prog 5 #[.slice ao n cap, .string s, .int .u16 y] w fun e w' => e = .returned (.bool true) ∧ Kp [] w w' := by
  by_cases h1 : 300 < n
  · clear h
    go_enter Try.func5, Try.ntmps5
    go_wp2_with fail
    refine (wakes_any _).mono ?_
    rintro e w1 ⟨rfl, hk⟩
    have K := Lib.hid hk
    clear hk
    go_wp2_with fail
    go_ret
    exact ⟨rfl, K.out⟩
  · have h1' : n ≤ 300 := by omega
    have h2 : 5000 < s.size := by omega
    clear h
    go_enter Try.func5, Try.ntmps5
    go_wp2_with fail
    refine (wakes_any _).mono ?_
    rintro e w1 ⟨rfl, hk⟩
    have K := Lib.hid hk
    clear hk
    go_wp2_with fail
    go_ret
    exact ⟨rfl, K.out⟩

set_option maxRecDepth 100000 in
set_option maxHeartbeats 16000000 in
theorem back_no (w : World) (ao : Option Addr) (cap : Nat) (A : List Ent) (s : ByteArray) (y : Int) (hm : A.length ≤ 300) (hA : Ents w ao A) (hs : s.size ≤ 5000) (x : Ent) (hx : x ∈ A) (hxm : x.may = false) :
    Calls Try.prog 5 #[.slice ao A.length cap, .string s, .int .u16 y] w fun e w' => e = .returned (.bool true) ∧ Kp [] w w' := by
  obtain ⟨N, hN⟩ : ∃ N, N = A.length := ⟨_, rfl⟩
  have HN := Lib.hid hN
  rw [← hN] at hm ⊢
  have HA := Lib.hid hA
  clear hN hA
  have HV : Hid (encV A = .tuple #[.string ⟨#[]⟩, .int .i64 3]) := Lib.hid (encV_no hx hxm)
  clear hx hxm
  go_enter Try.func5, Try.ntmps5
  go_wp2_with fail
  go_loopg [7, 8] N (fun gg va vi wr => ∃ (k : Nat) (bo : Option Addr) (c' : Nat), k + gg = N ∧ vi = .int .i64 (k : Int) ∧ va = .slice bo k c' ∧ Hid (Er 28 w.heap.size wr (.slice bo k c') k (A.take k)) ∧ Hid (Kp [] w wr))
  case atStart => exact ⟨0, none, 0, by omega, rfl, rfl, Lib.hid (Er.nil _ _ _), Lib.hid (Kp.refl _ _)⟩
  case round =>
    obtain ⟨k, bo, c', hkg, rfl, rfl, HE, HK⟩ := hrel
    by_cases hkn : k < N
    · have hkl : k < A.length := by have := HN.out; omega
      obtain ⟨e, he⟩ : ∃ e, A[k]? = some e := ⟨_, List.getElem?_eq_getElem hkl⟩
      obtain ⟨ab, ob, hao, _, q0, q1, q2, q3, q4⟩ := HA.out k e he
      subst hao
      replace q0 := HK.out.cell (by simp) q0
      replace q1 := HK.out.cell (by simp) q1
      replace q2 := HK.out.cell (by simp) q2
      replace q3 := HK.out.cell (by simp) q3
      replace q4 := HK.out.cell (by simp) q4
      have HEe := Lib.hid he
      obtain ⟨x0, h0⟩ : ∃ x, x = u e.g := ⟨_, rfl⟩
      obtain ⟨x1, h1⟩ : ∃ x, x = u e.d := ⟨_, rfl⟩
      obtain ⟨x2, h2⟩ : ∃ x, x = u e.a := ⟨_, rfl⟩
      obtain ⟨x3, h3⟩ : ∃ x, x = u e.b := ⟨_, rfl⟩
      obtain ⟨x4, h4⟩ : ∃ x, x = u e.c := ⟨_, rfl⟩
      rw [← h0] at q0
      rw [← h1] at q1
      rw [← h2] at q2
      rw [← h3] at q3
      rw [← h4] at q4
      have HCS : Hid (#[.int .u8 x0, .int .u8 x1, .int .u8 x2, .int .u8 x3, .int .u8 x4] = e.cells.toArray) := Lib.hid (by rw [h0, h1, h2, h3, h4]; rfl)
      clear he hkl h0 h1 h2 h3 h4
      go_wp2_with fail
      refine (of_any _ x0 x1 x2 x3 x4).mono ?_
      rintro r w4 ⟨rfl, hk⟩
      have k4 := hk.alloc (.cells #[.int .u8 x0, .int .u8 x1, .int .u8 x2, .int .u8 x3, .int .u8 x4] 28)
      have hE4 := HE.out.keep0 k4
      have hK4 := HK.out.trans k4
      obtain ⟨g5, cap5, w5, hrun, hE5, hk5⟩ := run_snoc (ty := 24) Try.underlying24 info_entry hE4 hK4.size w4.heap.size e _ HCS.out (heap_alloc_new _ _) (by omega)
      have HK5 : Hid (Kp [] w w5) := Lib.hid (hE4.2.old rfl hK4 hk5)
      have HE5 : Hid (Er 28 w.heap.size w5 (.slice (some ⟨g5, 0, none⟩) (k + 1) cap5) (k + 1) (A.take (k + 1))) := Lib.hid (by
        rw [List.take_add_one, HEe.out]
        exact hE5)
      have HRun := Lib.hid hrun
      clear hk k4 hE4 hK4 hrun hE5 hk5 q0 q1 q2 q3 q4
      go_wp2_with (at_builtin; refine wpList_append_eq rfl (.tmp 35) (.tmp 41) 24 rfl _ _ _ rfl rfl HRun.out ?_)
      clear HRun HE HK
      go_roundg (N - (k + 1))
      case measure => omega
      case rel => exact ⟨k + 1, some ⟨g5, 0, none⟩, cap5, by omega, by go_num, rfl, HE5, HK5⟩
    · obtain rfl : k = N := by omega
      have hE1 := HE.out
      rw [show A.take k = A from by rw [HN.out]; exact List.take_length] at hE1
      have E1 := Lib.hid hE1
      clear hE1 HE
      go_wp2_with fail
      refine (enc_any _ _ _ k A E1.out (by omega)).mono ?_
      rintro e w2 ⟨he, hk⟩
      rw [HV.out] at he
      obtain rfl := he
      have F1 := Lib.hid (E1.out.keep0 hk)
      have K2 := Lib.hid (HK.out.trans hk)
      clear hk HK E1
      have HK := K2
      clear K2 F1
      go_wp2_with fail
      refine (dec_any _ s).mono ?_
      rintro e w5 hD
      obtain ⟨hk5, hD⟩ := hD
      have K5 := Lib.hid (HK.out.trans hk5)
      clear hk5 HK
      rcases hD with ⟨_, rfl⟩ | ⟨_, _, rfl⟩ | ⟨hl4, L, n9, ao9, c9, hi9, rfl, hE9⟩
      · go_wp2_with fail
        refine (wakes_any _).mono ?_
        rintro e w6 ⟨rfl, hk⟩
        have K6 := Lib.hid (K5.out.trans hk)
        clear hk
        go_wp2_with fail
        go_ret
        exact ⟨rfl, K6.out⟩
      · go_wp2_with fail
        refine (wakes_any _).mono ?_
        rintro e w6 ⟨rfl, hk⟩
        have K6 := Lib.hid (K5.out.trans hk)
        clear hk
        go_wp2_with fail
        go_ret
        exact ⟨rfl, K6.out⟩
      · have hn9 : n9 ≤ 2100 := by
          have h1 := script_ge L
          rw [hi9.2] at h1
          have h2 := hE9.1
          omega
        have E9 := Lib.hid hE9
        have HV : Hid (encV L = .tuple #[.string s, .int .i64 0]) := Lib.hid (by rw [encV_yes hi9.1, hi9.2, str_data])
        clear hE9 hi9 hl4
        go_wp2_with fail
        refine (enc_any w5 _ _ n9 L E9.out hn9).mono ?_
        rintro e w6 ⟨he, hk⟩
        rw [HV.out] at he
        obtain rfl := he
        have K6 := Lib.hid (K5.out.trans hk)
        clear hk
        go_wp2_with fail
        refine (wakes_any _).mono ?_
        rintro e w7 ⟨rfl, hk⟩
        have K7 := Lib.hid (K6.out.trans hk)
        clear hk
        go_wp2_with fail
        go_ret
        exact ⟨rfl, K7.out⟩

set_option maxRecDepth 100000 in
set_option maxHeartbeats 16000000 in
theorem back_yes (w : World) (ao : Option Addr) (cap : Nat) (A : List Ent) (s : ByteArray) (y : Int) (hm : A.length ≤ 300) (hA : Ents w ao A) (hs : s.size ≤ 5000) (hy0 : 0 ≤ y) (hy1 : y < 65536) (hall : allMay A) :
    Calls Try.prog 5 #[.slice ao A.length cap, .string s, .int .u16 y] w fun e w' => e = .returned (.bool true) ∧ Kp [] w w' := by
  obtain ⟨N, hN⟩ : ∃ N, N = A.length := ⟨_, rfl⟩
  have HN := Lib.hid hN
  rw [← hN] at hm ⊢
  have HA := Lib.hid hA
  clear hN hA
  obtain ⟨B, hBB⟩ : ∃ B, B = str (script A) := ⟨_, rfl⟩
  have HB : Hid (B.data.toList = script A) := Lib.hid (by rw [hBB]; rfl)
  have hB : B.size ≤ 1500 := by
    have h1 := script_le A
    have h2 := HN.out
    rw [hBB, str_size]; omega
  have HV : Hid (encV A = .tuple #[.string B, .int .i64 0]) := Lib.hid (by rw [hBB]; exact encV_yes hall)
  have HAll := Lib.hid hall
  clear hBB hall
  go_enter Try.func5, Try.ntmps5
  go_wp2_with fail
  go_loopg [7, 8] N (fun gg va vi wr => ∃ (k : Nat) (bo : Option Addr) (c' : Nat), k + gg = N ∧ vi = .int .i64 (k : Int) ∧ va = .slice bo k c' ∧ Hid (Er 28 w.heap.size wr (.slice bo k c') k (A.take k)) ∧ Hid (Kp [] w wr))
  case atStart => exact ⟨0, none, 0, by omega, rfl, rfl, Lib.hid (Er.nil _ _ _), Lib.hid (Kp.refl _ _)⟩
  case round =>
    obtain ⟨k, bo, c', hkg, rfl, rfl, HE, HK⟩ := hrel
    by_cases hkn : k < N
    · have hkl : k < A.length := by have := HN.out; omega
      obtain ⟨e, he⟩ : ∃ e, A[k]? = some e := ⟨_, List.getElem?_eq_getElem hkl⟩
      obtain ⟨ab, ob, hao, _, q0, q1, q2, q3, q4⟩ := HA.out k e he
      subst hao
      replace q0 := HK.out.cell (by simp) q0
      replace q1 := HK.out.cell (by simp) q1
      replace q2 := HK.out.cell (by simp) q2
      replace q3 := HK.out.cell (by simp) q3
      replace q4 := HK.out.cell (by simp) q4
      have HEe := Lib.hid he
      obtain ⟨x0, h0⟩ : ∃ x, x = u e.g := ⟨_, rfl⟩
      obtain ⟨x1, h1⟩ : ∃ x, x = u e.d := ⟨_, rfl⟩
      obtain ⟨x2, h2⟩ : ∃ x, x = u e.a := ⟨_, rfl⟩
      obtain ⟨x3, h3⟩ : ∃ x, x = u e.b := ⟨_, rfl⟩
      obtain ⟨x4, h4⟩ : ∃ x, x = u e.c := ⟨_, rfl⟩
      rw [← h0] at q0
      rw [← h1] at q1
      rw [← h2] at q2
      rw [← h3] at q3
      rw [← h4] at q4
      have HCS : Hid (#[.int .u8 x0, .int .u8 x1, .int .u8 x2, .int .u8 x3, .int .u8 x4] = e.cells.toArray) := Lib.hid (by rw [h0, h1, h2, h3, h4]; rfl)
      clear he hkl h0 h1 h2 h3 h4
      go_wp2_with fail
      refine (of_any _ x0 x1 x2 x3 x4).mono ?_
      rintro r w4 ⟨rfl, hk⟩
      have k4 := hk.alloc (.cells #[.int .u8 x0, .int .u8 x1, .int .u8 x2, .int .u8 x3, .int .u8 x4] 28)
      have hE4 := HE.out.keep0 k4
      have hK4 := HK.out.trans k4
      obtain ⟨g5, cap5, w5, hrun, hE5, hk5⟩ := run_snoc (ty := 24) Try.underlying24 info_entry hE4 hK4.size w4.heap.size e _ HCS.out (heap_alloc_new _ _) (by omega)
      have HK5 : Hid (Kp [] w w5) := Lib.hid (hE4.2.old rfl hK4 hk5)
      have HE5 : Hid (Er 28 w.heap.size w5 (.slice (some ⟨g5, 0, none⟩) (k + 1) cap5) (k + 1) (A.take (k + 1))) := Lib.hid (by
        rw [List.take_add_one, HEe.out]
        exact hE5)
      have HRun := Lib.hid hrun
      clear hk k4 hE4 hK4 hrun hE5 hk5 q0 q1 q2 q3 q4
      go_wp2_with (at_builtin; refine wpList_append_eq rfl (.tmp 35) (.tmp 41) 24 rfl _ _ _ rfl rfl HRun.out ?_)
      clear HRun HE HK
      go_roundg (N - (k + 1))
      case measure => omega
      case rel => exact ⟨k + 1, some ⟨g5, 0, none⟩, cap5, by omega, by go_num, rfl, HE5, HK5⟩
    · obtain rfl : k = N := by omega
      have hE1 := HE.out
      rw [show A.take k = A from by rw [HN.out]; exact List.take_length] at hE1
      have E1 := Lib.hid hE1
      clear hE1 HE
      go_wp2_with fail
      refine (enc_any _ _ _ k A E1.out (by omega)).mono ?_
      rintro e w2 ⟨he, hk⟩
      rw [HV.out] at he
      obtain rfl := he
      have F1 := Lib.hid (E1.out.keep0 hk)
      have K2 := Lib.hid (HK.out.trans hk)
      clear hk HK E1
      have hi1 : Is B.data.toList A := ⟨HAll.out, HB.out.symm⟩
      have hl1 : B.data.toList.length ≤ 4000 := by rw [← Lib.size_eq]; omega
      have hdec := (dec_any w2 B).mono fun e w' hh => hh.got hi1 hl1
      clear hi1 hl1
      go_wp2_with fail
      refine hdec.mono ?_
      rintro e w3 ⟨n1, ao1, c1, rfl, hE, hk⟩
      clear hdec
      obtain rfl : n1 = k := hE.1.trans HN.out.symm
      have G1 := Lib.hid (F1.out.keep0 hk)
      have G2 := Lib.hid hE
      have K3 := Lib.hid (K2.out.trans hk)
      clear hk hE F1 K2
      go_wp2_with fail
      go_loopg [13] n1 (fun gg vi wr => ∃ k2 : Nat, k2 + gg = n1 ∧ vi = .int .i64 (k2 : Int) ∧ Hid (Kp [] w3 wr))
      case atStart => exact ⟨0, by omega, rfl, Lib.hid (Kp.refl _ _)⟩
      case round =>
        obtain ⟨k2, hkg2, rfl, HK⟩ := hrel
        by_cases hkn2 : k2 < n1
        · obtain ⟨b1, d1, hv, hd1⟩ := G1.out.at (by omega)
          simp only [Value.slice.injEq, true_and] at hv
          obtain ⟨rfl, rfl⟩ := hv
          obtain ⟨b2, d2, hv, hd2⟩ := G2.out.at (by omega)
          simp only [Value.slice.injEq, true_and] at hv
          obtain ⟨rfl, rfl⟩ := hv
          have hkl : k2 < A.length := by have := G1.out.1; omega
          obtain ⟨e, he⟩ : ∃ e, A[k2]? = some e := ⟨_, List.getElem?_eq_getElem hkl⟩
          have HS : Hid (∀ w', Kp [] wr w' → w'.cell? ⟨b2, k2 * 5, none⟩ = some (.int .u8 (u e.g)) ∧ w'.cell? ⟨b2, k2 * 5 + 1, none⟩ = some (.int .u8 (u e.d)) ∧ w'.cell? ⟨b2, k2 * 5 + 2, none⟩ = some (.int .u8 (u e.a)) ∧ w'.cell? ⟨b2, k2 * 5 + 3, none⟩ = some (.int .u8 (u e.b)) ∧ w'.cell? ⟨b2, k2 * 5 + 4, none⟩ = some (.int .u8 (u e.c)) ∧ w'.cell? ⟨b1, k2 * 5, none⟩ = some (.int .u8 (u e.g)) ∧ w'.cell? ⟨b1, k2 * 5 + 1, none⟩ = some (.int .u8 (u e.d)) ∧ w'.cell? ⟨b1, k2 * 5 + 2, none⟩ = some (.int .u8 (u e.a)) ∧ w'.cell? ⟨b1, k2 * 5 + 3, none⟩ = some (.int .u8 (u e.b)) ∧ w'.cell? ⟨b1, k2 * 5 + 4, none⟩ = some (.int .u8 (u e.c)) ∧ Kp [] wr w') := Lib.hid fun w' hk' => by
            have g1 := G1.out.keep0 (HK.out.trans hk')
            have g2 := G2.out.keep0 (HK.out.trans hk')
            exact ⟨g2.cell he (j := 0) (by decide), g2.cell he (j := 1) (by decide), g2.cell he (j := 2) (by decide), g2.cell he (j := 3) (by decide), g2.cell he (j := 4) (by decide), g1.cell he (j := 0) (by decide), g1.cell he (j := 1) (by decide), g1.cell he (j := 2) (by decide), g1.cell he (j := 3) (by decide), g1.cell he (j := 4) (by decide), hk'⟩
          have hmy : Hid (mayB (u e.g) (u e.d) (u e.a) (u e.b) (u e.c) = true) := Lib.hid (HAll.out e (List.mem_of_getElem? he))
          have hu1 := (u_lt e.d).1
          generalize u e.g = x0 at HS hmy
          generalize u e.d = x1 at HS hmy hu1
          generalize u e.a = x2 at HS hmy
          generalize u e.b = x3 at HS hmy
          generalize u e.c = x4 at HS hmy
          clear he hkl
          have hq := neq_self x0 x1 x2 x3 x4
          go_wp2_with fail
          go_region_held3 (fun w' => w'.cell? ⟨b2, k2 * 5, none⟩ = some (.int .u8 x0) ∧ w'.cell? ⟨b2, k2 * 5 + 1, none⟩ = some (.int .u8 x1) ∧ w'.cell? ⟨b2, k2 * 5 + 2, none⟩ = some (.int .u8 x2) ∧ w'.cell? ⟨b2, k2 * 5 + 3, none⟩ = some (.int .u8 x3) ∧ w'.cell? ⟨b2, k2 * 5 + 4, none⟩ = some (.int .u8 x4) ∧ w'.cell? ⟨b1, k2 * 5, none⟩ = some (.int .u8 x0) ∧ w'.cell? ⟨b1, k2 * 5 + 1, none⟩ = some (.int .u8 x1) ∧ w'.cell? ⟨b1, k2 * 5 + 2, none⟩ = some (.int .u8 x2) ∧ w'.cell? ⟨b1, k2 * 5 + 3, none⟩ = some (.int .u8 x3) ∧ w'.cell? ⟨b1, k2 * 5 + 4, none⟩ = some (.int .u8 x4) ∧ Kp [] wr w')
            (first
              | exact HS.out _ (kp_drewk _)
              | exact HS.out _ ((kp_drewk _).trans hk))
            ((refine (may_is _ x0 x1 x2 x3 x4 hu1 true hmy.out).mono ?_
              rintro r w4 ⟨rfl, hk⟩))
          have HK4 := Lib.hid (HK.out.trans ((kp_drewk _).trans hk))
          rename_i hHeld
          clear hHeld hk HS hq HK
          go_wp2_with fail
          go_roundg (n1 - (k2 + 1))
          case measure => omega
          case rel => exact ⟨k2 + 1, by omega, by go_num, HK4⟩
        · have hk2' : ¬ ((k2 : Int) < (n1 : Int)) := by omega
          have K4 := Lib.hid (K3.out.trans HK.out)
          have J1 := Lib.hid (G1.out.keep0 HK.out)
          clear HK G1 G2 K3 hkg2
          obtain ⟨wc, rfl⟩ : ∃ wc : World, wc = wr := ⟨_, rfl⟩
          have m0 : 0 ≤ y % ((B.size : Int) + 1) := Int.emod_nonneg _ (by omega)
          have m1 : y % ((B.size : Int) + 1) ≤ (B.size : Int) := by have := Int.emod_lt_of_pos y (show (0 : Int) < (B.size : Int) + 1 by omega); omega
          go_wp2_with fail
          generalize y % ((B.size : Int) + 1) = X at m0 m1 ⊢
          have hex : (B.extract 0 X.toNat).data.toList = (script A).take X.toNat := by
            rw [Lib.extract_data, List.drop_zero, Nat.sub_zero, HB.out]
          have hBl : (script A).length = B.size := by rw [← HB.out, ← Lib.size_eq]
          refine (dec_any wc (B.extract 0 X.toNat)).mono ?_
          rintro e w5 hD
          rw [hex] at hD
          obtain ⟨hk5, hD⟩ := hD
          have K5 := Lib.hid (K4.out.trans hk5)
          have J5 := Lib.hid (J1.out.keep0 hk5)
          clear hk5 hex K4 J1
          rcases hD with ⟨hfar, rfl⟩ | ⟨_, _, rfl⟩ | ⟨_, M, n5, ao5, c5, hiM, rfl, hE5⟩
          · exfalso
            rw [List.length_take] at hfar
            omega
          · clear hBl
            go_wp2_with fail
            go_loopg [15] 0 (fun gg vi wr => vi = .int .i64 0 ∧ gg = 0 ∧ Hid (Kp [] w wr))
            case atStart => exact ⟨rfl, rfl, K5⟩
            case round =>
              clear K5
              obtain ⟨rfl, rfl, HK⟩ := hrel
              go_wp2_with fail
              refine (dec_any _ s).mono ?_
              rintro e w5 hD
              obtain ⟨hk5, hD⟩ := hD
              have K5 := Lib.hid (HK.out.trans hk5)
              clear hk5 HK
              rcases hD with ⟨_, rfl⟩ | ⟨_, _, rfl⟩ | ⟨hl4, L, n9, ao9, c9, hi9, rfl, hE9⟩
              · go_wp2_with fail
                refine (wakes_any _).mono ?_
                rintro e w6 ⟨rfl, hk⟩
                have K6 := Lib.hid (K5.out.trans hk)
                clear hk
                go_wp2_with fail
                go_ret
                exact ⟨rfl, K6.out⟩
              · go_wp2_with fail
                refine (wakes_any _).mono ?_
                rintro e w6 ⟨rfl, hk⟩
                have K6 := Lib.hid (K5.out.trans hk)
                clear hk
                go_wp2_with fail
                go_ret
                exact ⟨rfl, K6.out⟩
              · have hn9 : n9 ≤ 2100 := by
                  have h1 := script_ge L
                  rw [hi9.2] at h1
                  have h2 := hE9.1
                  omega
                have E9 := Lib.hid hE9
                have HV : Hid (encV L = .tuple #[.string s, .int .i64 0]) := Lib.hid (by rw [encV_yes hi9.1, hi9.2, str_data])
                clear hE9 hi9 hl4
                go_wp2_with fail
                refine (enc_any w5 _ _ n9 L E9.out hn9).mono ?_
                rintro e w6 ⟨he, hk⟩
                rw [HV.out] at he
                obtain rfl := he
                have K6 := Lib.hid (K5.out.trans hk)
                clear hk
                go_wp2_with fail
                refine (wakes_any _).mono ?_
                rintro e w7 ⟨rfl, hk⟩
                have K7 := Lib.hid (K6.out.trans hk)
                clear hk
                go_wp2_with fail
                go_ret
                exact ⟨rfl, K7.out⟩
          · obtain ⟨L', hLL, hcut⟩ := Is.cut (⟨HAll.out, rfl⟩ : Is (script A) A) hiM
            have h5n := hE5.1
            have h1n := HN.out
            rw [hLL, List.length_append] at h1n
            have hnn : n5 ≤ n1 := by omega
            have hlt : X < (B.size : Int) → n5 < n1 := by
              intro h
              have := hcut (by omega)
              omega
            have HL' := Lib.hid hLL
            have J6 := Lib.hid hE5
            clear hE5 hiM hcut hLL hBl h5n h1n
            by_cases hXB : X < (B.size : Int)
            · replace hlt := hlt hXB
              go_wp2_with fail
              go_loopg [15] n5 (fun gg vi wr => ∃ k3 : Nat, k3 + gg = n5 ∧ vi = .int .i64 (k3 : Int) ∧ Hid (Kp [] w5 wr))
              case atStart => exact ⟨0, by omega, rfl, Lib.hid (Kp.refl _ _)⟩
              case round =>
                obtain ⟨k3, hkg3, rfl, HK⟩ := hrel
                by_cases hkn3 : k3 < n5
                · have hkn3' : k3 < n1 := by omega
                  obtain ⟨b1, d1, hv, hd1⟩ := J5.out.at (by omega)
                  simp only [Value.slice.injEq, true_and] at hv
                  obtain ⟨rfl, rfl⟩ := hv
                  obtain ⟨b2, d2, hv, hd2⟩ := J6.out.at (by omega)
                  simp only [Value.slice.injEq, true_and] at hv
                  obtain ⟨rfl, rfl⟩ := hv
                  have hkl : k3 < M.length := by have := J6.out.1; omega
                  obtain ⟨e, he⟩ : ∃ e, M[k3]? = some e := ⟨_, List.getElem?_eq_getElem hkl⟩
                  have heA : A[k3]? = some e := by rw [HL'.out, List.getElem?_append_left hkl]; exact he
                  have g1 := J5.out.keep0 HK.out
                  have g2 := J6.out.keep0 HK.out
                  have p0 := g2.cell he (j := 0) (by decide)
                  have p1 := g2.cell he (j := 1) (by decide)
                  have p2 := g2.cell he (j := 2) (by decide)
                  have p3 := g2.cell he (j := 3) (by decide)
                  have p4 := g2.cell he (j := 4) (by decide)
                  have q0 := g1.cell heA (j := 0) (by decide)
                  have q1 := g1.cell heA (j := 1) (by decide)
                  have q2 := g1.cell heA (j := 2) (by decide)
                  have q3 := g1.cell heA (j := 3) (by decide)
                  have q4 := g1.cell heA (j := 4) (by decide)
                  simp only [Ent.cells, List.getElem?_cons_zero, List.getElem?_cons_succ, Nat.add_zero] at p0 p1 p2 p3 p4 q0 q1 q2 q3 q4
                  generalize u e.g = x0 at p0 q0
                  generalize u e.d = x1 at p1 q1
                  generalize u e.a = x2 at p2 q2
                  generalize u e.b = x3 at p3 q3
                  generalize u e.c = x4 at p4 q4
                  clear he heA hkl g1 g2
                  have hq := neq_self x0 x1 x2 x3 x4
                  go_wp2_with fail
                  go_region
                  clear p0 p1 p2 p3 p4 q0 q1 q2 q3 q4 hq
                  have HK4 := Lib.hid (HK.out.trans (kp_drewk (S := []) _))
                  clear HK
                  go_wp2_with fail
                  go_roundg (n5 - (k3 + 1))
                  case measure => omega
                  case rel => exact ⟨k3 + 1, by omega, by go_num, HK4⟩
                · have hk3' : ¬ ((k3 : Int) < (n5 : Int)) := by omega
                  have HK' := Lib.hid (K5.out.trans HK.out)
                  clear HK K5 J5 J6 hkg3
                  have HK := HK'
                  clear HK'
                  go_wp2_with fail
                  refine (dec_any _ s).mono ?_
                  rintro e w5 hD
                  obtain ⟨hk5, hD⟩ := hD
                  have K5 := Lib.hid (HK.out.trans hk5)
                  clear hk5 HK
                  rcases hD with ⟨_, rfl⟩ | ⟨_, _, rfl⟩ | ⟨hl4, L, n9, ao9, c9, hi9, rfl, hE9⟩
                  · go_wp2_with fail
                    refine (wakes_any _).mono ?_
                    rintro e w6 ⟨rfl, hk⟩
                    have K6 := Lib.hid (K5.out.trans hk)
                    clear hk
                    go_wp2_with fail
                    go_ret
                    exact ⟨rfl, K6.out⟩
                  · go_wp2_with fail
                    refine (wakes_any _).mono ?_
                    rintro e w6 ⟨rfl, hk⟩
                    have K6 := Lib.hid (K5.out.trans hk)
                    clear hk
                    go_wp2_with fail
                    go_ret
                    exact ⟨rfl, K6.out⟩
                  · have hn9 : n9 ≤ 2100 := by
                      have h1 := script_ge L
                      rw [hi9.2] at h1
                      have h2 := hE9.1
                      omega
                    have E9 := Lib.hid hE9
                    have HV : Hid (encV L = .tuple #[.string s, .int .i64 0]) := Lib.hid (by rw [encV_yes hi9.1, hi9.2, str_data])
                    clear hE9 hi9 hl4
                    go_wp2_with fail
                    refine (enc_any w5 _ _ n9 L E9.out hn9).mono ?_
                    rintro e w6 ⟨he, hk⟩
                    rw [HV.out] at he
                    obtain rfl := he
                    have K6 := Lib.hid (K5.out.trans hk)
                    clear hk
                    go_wp2_with fail
                    refine (wakes_any _).mono ?_
                    rintro e w7 ⟨rfl, hk⟩
                    have K7 := Lib.hid (K6.out.trans hk)
                    clear hk
                    go_wp2_with fail
                    go_ret
                    exact ⟨rfl, K7.out⟩
            · clear hlt
              go_wp2_with fail
              go_loopg [15] n5 (fun gg vi wr => ∃ k3 : Nat, k3 + gg = n5 ∧ vi = .int .i64 (k3 : Int) ∧ Hid (Kp [] w5 wr))
              case atStart => exact ⟨0, by omega, rfl, Lib.hid (Kp.refl _ _)⟩
              case round =>
                obtain ⟨k3, hkg3, rfl, HK⟩ := hrel
                by_cases hkn3 : k3 < n5
                · have hkn3' : k3 < n1 := by omega
                  obtain ⟨b1, d1, hv, hd1⟩ := J5.out.at (by omega)
                  simp only [Value.slice.injEq, true_and] at hv
                  obtain ⟨rfl, rfl⟩ := hv
                  obtain ⟨b2, d2, hv, hd2⟩ := J6.out.at (by omega)
                  simp only [Value.slice.injEq, true_and] at hv
                  obtain ⟨rfl, rfl⟩ := hv
                  have hkl : k3 < M.length := by have := J6.out.1; omega
                  obtain ⟨e, he⟩ : ∃ e, M[k3]? = some e := ⟨_, List.getElem?_eq_getElem hkl⟩
                  have heA : A[k3]? = some e := by rw [HL'.out, List.getElem?_append_left hkl]; exact he
                  have g1 := J5.out.keep0 HK.out
                  have g2 := J6.out.keep0 HK.out
                  have p0 := g2.cell he (j := 0) (by decide)
                  have p1 := g2.cell he (j := 1) (by decide)
                  have p2 := g2.cell he (j := 2) (by decide)
                  have p3 := g2.cell he (j := 3) (by decide)
                  have p4 := g2.cell he (j := 4) (by decide)
                  have q0 := g1.cell heA (j := 0) (by decide)
                  have q1 := g1.cell heA (j := 1) (by decide)
                  have q2 := g1.cell heA (j := 2) (by decide)
                  have q3 := g1.cell heA (j := 3) (by decide)
                  have q4 := g1.cell heA (j := 4) (by decide)
                  simp only [Ent.cells, List.getElem?_cons_zero, List.getElem?_cons_succ, Nat.add_zero] at p0 p1 p2 p3 p4 q0 q1 q2 q3 q4
                  generalize u e.g = x0 at p0 q0
                  generalize u e.d = x1 at p1 q1
                  generalize u e.a = x2 at p2 q2
                  generalize u e.b = x3 at p3 q3
                  generalize u e.c = x4 at p4 q4
                  clear he heA hkl g1 g2
                  have hq := neq_self x0 x1 x2 x3 x4
                  go_wp2_with fail
                  go_region
                  clear p0 p1 p2 p3 p4 q0 q1 q2 q3 q4 hq
                  have HK4 := Lib.hid (HK.out.trans (kp_drewk (S := []) _))
                  clear HK
                  go_wp2_with fail
                  go_roundg (n5 - (k3 + 1))
                  case measure => omega
                  case rel => exact ⟨k3 + 1, by omega, by go_num, HK4⟩
                · have hk3' : ¬ ((k3 : Int) < (n5 : Int)) := by omega
                  have HK' := Lib.hid (K5.out.trans HK.out)
                  clear HK K5 J5 J6 hkg3
                  have HK := HK'
                  clear HK'
                  go_wp2_with fail
                  refine (dec_any _ s).mono ?_
                  rintro e w5 hD
                  obtain ⟨hk5, hD⟩ := hD
                  have K5 := Lib.hid (HK.out.trans hk5)
                  clear hk5 HK
                  rcases hD with ⟨_, rfl⟩ | ⟨_, _, rfl⟩ | ⟨hl4, L, n9, ao9, c9, hi9, rfl, hE9⟩
                  · go_wp2_with fail
                    refine (wakes_any _).mono ?_
                    rintro e w6 ⟨rfl, hk⟩
                    have K6 := Lib.hid (K5.out.trans hk)
                    clear hk
                    go_wp2_with fail
                    go_ret
                    exact ⟨rfl, K6.out⟩
                  · go_wp2_with fail
                    refine (wakes_any _).mono ?_
                    rintro e w6 ⟨rfl, hk⟩
                    have K6 := Lib.hid (K5.out.trans hk)
                    clear hk
                    go_wp2_with fail
                    go_ret
                    exact ⟨rfl, K6.out⟩
                  · have hn9 : n9 ≤ 2100 := by
                      have h1 := script_ge L
                      rw [hi9.2] at h1
                      have h2 := hE9.1
                      omega
                    have E9 := Lib.hid hE9
                    have HV : Hid (encV L = .tuple #[.string s, .int .i64 0]) := Lib.hid (by rw [encV_yes hi9.1, hi9.2, str_data])
                    clear hE9 hi9 hl4
                    go_wp2_with fail
                    refine (enc_any w5 _ _ n9 L E9.out hn9).mono ?_
                    rintro e w6 ⟨he, hk⟩
                    rw [HV.out] at he
                    obtain rfl := he
                    have K6 := Lib.hid (K5.out.trans hk)
                    clear hk
                    go_wp2_with fail
                    refine (wakes_any _).mono ?_
                    rintro e w7 ⟨rfl, hk⟩
                    have K7 := Lib.hid (K6.out.trans hk)
                    clear hk
                    go_wp2_with fail
                    go_ret
                    exact ⟨rfl, K7.out⟩

theorem back_any (w : World) (ao : Option Addr) (cap : Nat) (A : List Ent) (s : ByteArray) (y : Int) (hy0 : 0 ≤ y) (hy1 : y < 65536) (hA : Ents w ao A) :
    Calls Try.prog 5 #[.slice ao A.length cap, .string s, .int .u16 y] w fun e w' => e = .returned (.bool true) ∧ Kp [] w w' := by
  by_cases h : 300 < A.length ∨ 5000 < s.size
  · exact back_skip w ao A.length cap s y h
  · by_cases hall : allMay A
    · exact back_yes w ao cap A s y (by omega) hA (by omega) hy0 hy1 hall
    · obtain ⟨x, hx, hxm⟩ : ∃ x ∈ A, x.may = false := by
        apply Classical.byContradiction
        intro hc
        apply hall
        intro x hx
        cases hxm : x.may
        · exact absurd ⟨x, hx, hxm⟩ hc
        · rfl
      exact back_no w ao cap A s y (by omega) hA (by omega) x hx hxm

end Go.Proofs.Ytclegfpgmhajmaa
