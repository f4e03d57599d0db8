/- ScriptEncodes, walked: for every entries and every number of an operation it returns true. Conditions: the entries lie where the slice leads. -/
import Derived.Test.YtclegfpgmhajmaaScF
import Derived.Test.YtclegfpgmhajmaaScJ
import Derived.Test.YtclegfpgmhajmaaScO
import Derived.RegionTactic
namespace Go.Proofs.Ytclegfpgmhajmaa
set_option linter.unusedVariables false
set_option linter.unusedSimpArgs false
open Go.RowKit

/-- An entry's numbers somewhere. -/
def EnA (w0 : World) (b o : Nat) (x0 x1 x2 x3 x4 : Int) (w : World) : Prop :=
  w.cell? ⟨b, o, none⟩ = some (.int .u8 x0) ∧ w.cell? ⟨b, o + 1, none⟩ = some (.int .u8 x1) ∧ w.cell? ⟨b, o + 2, none⟩ = some (.int .u8 x2) ∧ w.cell? ⟨b, o + 3, none⟩ = some (.int .u8 x3) ∧ w.cell? ⟨b, o + 4, none⟩ = some (.int .u8 x4) ∧ Kp [] w0 w
theorem EnA.on {w0 w w' : World} {b o : Nat} {x0 x1 x2 x3 x4 : Int} (h : EnA w0 b o x0 x1 x2 x3 x4 w) (k : Kp [] w w') : EnA w0 b o x0 x1 x2 x3 x4 w' := by
  obtain ⟨c0, c1, c2, c3, c4, hk⟩ := h
  exact ⟨k.cell (by simp) c0, k.cell (by simp) c1, k.cell (by simp) c2, k.cell (by simp) c3, k.cell (by simp) c4, hk.trans k⟩

theorem all_take {A : List Ent} {k : Nat} {e : Ent} (hk : A[k]? = some e) : (A.take (k + 1)).all Ent.may = ((A.take k).all Ent.may && e.may) := by
  rw [List.take_add_one, hk]
  simp
theorem script_take1 {A : List Ent} {k : Nat} {e : Ent} (hk : A[k]? = some e) : script (A.take (k + 1)) = script (A.take k) ++ e.bytes := by
  rw [List.take_add_one, hk, script_app]
  congr 1
  exact script_one e
/-- The text so far, where all entries so far may be. -/
def Wd (mb : Bool) (ws : ByteArray) (l : List UInt8) : Prop := mb = true → ws.data.toList = l
theorem add_data (a b : ByteArray) : (a ++ b).data.toList = a.data.toList ++ b.data.toList := by simp

set_option maxRecDepth 100000 in
theorem encodes_skip (w : World) (ao : Option Addr) (n cap : Nat) (z : Int) (h1 : 300 < n) :
    Calls Try.prog 3 #[.slice ao n cap, .int .u8 z] w fun e w' => e = .returned (.bool true) ∧ Kp [] w w' := by
  go_enter Try.func3, Try.ntmps3
  go_wp2_with fail
  refine (wakes_any _).mono ?_
  rintro e w1 ⟨rfl, hk⟩
  have K := Lib.hid hk
  clear hk
  go_wp2_with fail
  go_ret
  exact ⟨rfl, K.out⟩

set_option maxRecDepth 100000 in
set_option maxHeartbeats 16000000 in
theorem encodes_main (w : World) (ao : Option Addr) (cap : Nat) (A : List Ent) (z : Int) (hm : A.length ≤ 300) (hA : Ents w ao A) (hz0 : 0 ≤ z) (hz1 : z < 256) :
    Calls Try.prog 3 #[.slice ao A.length cap, .int .u8 z] w fun e w' => e = .returned (.bool true) ∧ Kp [] w w' := by
  obtain ⟨N, hN⟩ : ∃ N, N = A.length := ⟨_, rfl⟩
  have HN := Lib.hid hN
  rw [← hN] at hm ⊢
  have HA := Lib.hid hA
  clear hN hA
  go_enter Try.func3, Try.ntmps3
  go_wp2_with fail
  go_loopg [5, 6, 7, 8] N (fun gg va vw vm vi wr => ∃ (k : Nat) (bo : Option Addr) (c' : Nat) (ws : ByteArray) (mb : Bool), k + gg = N ∧ vi = .int .i64 (k : Int) ∧ va = .slice bo k c' ∧ vw = .string ws ∧ vm = .bool mb ∧ ws.size ≤ 5 * k ∧ Hid (Er 28 w.heap.size wr (.slice bo k c') k (A.take k)) ∧ Hid ((A.take k).all Ent.may = mb) ∧ Hid (Wd mb ws (script (A.take k))) ∧ Hid (Kp [] w wr))
  case atStart => exact ⟨0, none, 0, ⟨#[]⟩, true, by omega, rfl, rfl, rfl, rfl, by simp [ByteArray.size], Lib.hid (Er.nil _ _ _), Lib.hid rfl, Lib.hid (fun _ => rfl), Lib.hid (Kp.refl _ _)⟩
  case round =>
    obtain ⟨k, bo, c', ws, mb, hkg, rfl, rfl, rfl, rfl, hws, HE, HM, HW, HK⟩ := hrel
    by_cases hkn : k < N
    · have hkl : k < A.length := by have := HN.out; omega
      obtain ⟨e, he⟩ : ∃ e, A[k]? = some e := ⟨_, List.getElem?_eq_getElem hkl⟩
      obtain ⟨ab, ob, hao, _, q0, q1, q2, q3, q4⟩ := HA.out k e he
      subst hao
      replace q0 := HK.out.cell (by simp) q0
      replace q1 := HK.out.cell (by simp) q1
      replace q2 := HK.out.cell (by simp) q2
      replace q3 := HK.out.cell (by simp) q3
      replace q4 := HK.out.cell (by simp) q4
      have HEe := Lib.hid he
      obtain ⟨x0, h0⟩ : ∃ x, x = u e.g := ⟨_, rfl⟩
      obtain ⟨x1, h1⟩ : ∃ x, x = u e.d := ⟨_, rfl⟩
      obtain ⟨x2, h2⟩ : ∃ x, x = u e.a := ⟨_, rfl⟩
      obtain ⟨x3, h3⟩ : ∃ x, x = u e.b := ⟨_, rfl⟩
      obtain ⟨x4, h4⟩ : ∃ x, x = u e.c := ⟨_, rfl⟩
      obtain ⟨em, hem⟩ : ∃ em, em = e.may := ⟨_, rfl⟩
      rw [← h0] at q0
      rw [← h1] at q1
      rw [← h2] at q2
      rw [← h3] at q3
      rw [← h4] at q4
      obtain ⟨hu00, hu01⟩ : 0 ≤ x0 ∧ x0 < 256 := by rw [h0]; exact u_lt _
      obtain ⟨hu10, hu11⟩ : 0 ≤ x1 ∧ x1 < 256 := by rw [h1]; exact u_lt _
      have hmy : Hid (mayB x0 x1 x2 x3 x4 = em) := Lib.hid (by rw [h0, h1, h2, h3, h4, hem]; rfl)
      have HCS : Hid (#[.int .u8 x0, .int .u8 x1, .int .u8 x2, .int .u8 x3, .int .u8 x4] = e.cells.toArray) := Lib.hid (by rw [h0, h1, h2, h3, h4]; rfl)
      have X0 := Lib.hid h0
      have X1 := Lib.hid h1
      have X2 := Lib.hid h2
      have X3 := Lib.hid h3
      have X4 := Lib.hid h4
      have HEm := Lib.hid hem.symm
      clear he hkl h0 h1 h2 h3 h4 hem
      go_wp2_with fail
      refine (of_any _ x0 x1 x2 x3 x4).mono ?_
      rintro r w4 ⟨rfl, hk⟩
      have k4 := hk.alloc (.cells #[.int .u8 x0, .int .u8 x1, .int .u8 x2, .int .u8 x3, .int .u8 x4] 28)
      have hE4 := HE.out.keep0 k4
      have hK4 := HK.out.trans k4
      obtain ⟨g5, cap5, w5, hrun, hE5, hk5⟩ := run_snoc (ty := 24) Try.underlying24 info_entry hE4 hK4.size w4.heap.size e _ HCS.out (heap_alloc_new _ _) (by omega)
      have HK5 : Hid (Kp [] w w5) := Lib.hid (hE4.2.old rfl hK4 hk5)
      have HE5 : Hid (Er 28 w.heap.size w5 (.slice (some ⟨g5, 0, none⟩) (k + 1) cap5) (k + 1) (A.take (k + 1))) := Lib.hid (by
        rw [List.take_add_one, HEe.out]
        exact hE5)
      obtain ⟨ab', ob', hao', _, p0, p1, p2, p3, p4⟩ := HA.out k e HEe.out
      obtain ⟨rfl, rfl⟩ : ab' = ab ∧ ob' = ob := by simpa using hao'.symm
      rw [← X0.out] at p0
      rw [← X1.out] at p1
      rw [← X2.out] at p2
      rw [← X3.out] at p3
      rw [← X4.out] at p4
      have HS : Hid (∀ w', Kp [] w5 w' → EnA w5 ab' (ob' + k * 5) x0 x1 x2 x3 x4 w') := Lib.hid fun w' hk' => by
        have kk := HK5.out.trans hk'
        exact ⟨kk.cell (by simp) p0, kk.cell (by simp) p1, kk.cell (by simp) p2, kk.cell (by simp) p3, kk.cell (by simp) p4, hk'⟩
      have HRun := Lib.hid hrun
      clear hk k4 hE4 hK4 hrun hE5 hk5 q0 q1 q2 q3 q4 p0 p1 p2 p3 p4 hao'
      go_wp2_with (at_builtin; refine wpList_append_eq rfl (.tmp 21) (.tmp 27) 24 rfl _ _ _ rfl rfl HRun.out ?_)
      clear HRun HE HK
      cases mb
      · -- [PART false
        go_wp2_with fail
        go_region_held3 (fun w' => w'.cell? ⟨ab', ob' + k * 5, none⟩ = some (.int .u8 x0) ∧ w'.cell? ⟨ab', ob' + k * 5 + 1, none⟩ = some (.int .u8 x1) ∧ w'.cell? ⟨ab', ob' + k * 5 + 2, none⟩ = some (.int .u8 x2) ∧ w'.cell? ⟨ab', ob' + k * 5 + 3, none⟩ = some (.int .u8 x3) ∧ w'.cell? ⟨ab', ob' + k * 5 + 4, none⟩ = some (.int .u8 x4) ∧ Kp [] w5 w')
            (first
              | exact HS.out _ (kp_drewk _)
              | exact HS.out _ ((kp_drewk _).trans k6)
              | exact HS.out _ (((kp_drewk _).trans k6).trans k7)
              | exact HS.out _ ((((kp_drewk _).trans k6).trans k7).trans k8)
              | exact HS.out _ (((kp_drewk _).trans k6).trans k8)
              | exact HS.out _ ((((kp_drewk _).trans k6).trans k8).trans k7)
              | exact HS.out _ ((kp_drewk _).trans k8)
              | exact HS.out _ (((kp_drewk _).trans k8).trans k6)
              | exact HS.out _ ((((kp_drewk _).trans k8).trans k6).trans k7))
            (first
              | (go_at_call 7
                 refine (of_any _ x0 x1 x2 x3 x4).mono ?_
                 rintro r w6 ⟨rfl, k6⟩)
              | (go_at_call 8
                 refine (may_is _ x0 x1 x2 x3 x4 hu10 em hmy.out).mono ?_
                 rintro r w7 ⟨rfl, k7⟩)
              | (go_at_call 9
                 refine (rmay_is _ x0 x1 x2 x3 x4 hu00 hu01 hu10 hu11 em hmy.out).mono ?_
                 rintro r w8 ⟨rfl, k8⟩))
        all_goals
          have hX := (show EnA w5 ab' (ob' + k * 5) x0 x1 x2 x3 x4 _ from ‹_ ∧ _›)
          have kX := hX.2.2.2.2.2
          have HE9 := Lib.hid (HE5.out.keep0 kX)
          have HK9 := Lib.hid (HK5.out.trans kX)
          clear HE5 HK5 HS
          clear kX hX
          rename_i hHeld
          clear hHeld
          go_wp2_with fail
          have HM9 : Hid ((A.take (k + 1)).all Ent.may = false) := Lib.hid (by rw [all_take HEe.out, HM.out]; rfl)
          go_roundg (N - (k + 1))
          case measure => omega
          case rel => exact ⟨k + 1, some ⟨g5, 0, none⟩, cap5, ws, false, by omega, by go_num, rfl, rfl, rfl, by omega, HE9, HM9, Lib.hid (fun h => by cases h), HK9⟩
        -- ]PART
      · -- [PART true
        go_wp2_with fail
        go_region_held3 (fun w' => w'.cell? ⟨ab', ob' + k * 5, none⟩ = some (.int .u8 x0) ∧ w'.cell? ⟨ab', ob' + k * 5 + 1, none⟩ = some (.int .u8 x1) ∧ w'.cell? ⟨ab', ob' + k * 5 + 2, none⟩ = some (.int .u8 x2) ∧ w'.cell? ⟨ab', ob' + k * 5 + 3, none⟩ = some (.int .u8 x3) ∧ w'.cell? ⟨ab', ob' + k * 5 + 4, none⟩ = some (.int .u8 x4) ∧ Kp [] w5 w')
            (first
              | exact HS.out _ (kp_drewk _)
              | exact HS.out _ ((kp_drewk _).trans k6)
              | exact HS.out _ (((kp_drewk _).trans k6).trans k7)
              | exact HS.out _ ((((kp_drewk _).trans k6).trans k7).trans k8)
              | exact HS.out _ (((kp_drewk _).trans k6).trans k8)
              | exact HS.out _ ((((kp_drewk _).trans k6).trans k8).trans k7)
              | exact HS.out _ ((kp_drewk _).trans k8)
              | exact HS.out _ (((kp_drewk _).trans k8).trans k6)
              | exact HS.out _ ((((kp_drewk _).trans k8).trans k6).trans k7))
            (first
              | (go_at_call 7
                 refine (of_any _ x0 x1 x2 x3 x4).mono ?_
                 rintro r w6 ⟨rfl, k6⟩)
              | (go_at_call 8
                 refine (may_is _ x0 x1 x2 x3 x4 hu10 em hmy.out).mono ?_
                 rintro r w7 ⟨rfl, k7⟩)
              | (go_at_call 9
                 refine (rmay_is _ x0 x1 x2 x3 x4 hu00 hu01 hu10 hu11 em hmy.out).mono ?_
                 rintro r w8 ⟨rfl, k8⟩))
        all_goals
          have hX := (show EnA w5 ab' (ob' + k * 5) x0 x1 x2 x3 x4 _ from ‹_ ∧ _›)
          have HX := Lib.hid hX
          rename_i hHeld
          clear hHeld
          obtain ⟨c0, c1, c2, c3, c4, kX⟩ := hX
          clear kX
          cases em
          · go_wp2_with fail
            refine (rmay_is _ x0 x1 x2 x3 x4 hu00 hu01 hu10 hu11 false hmy.out).mono ?_
            rintro r w9 ⟨rfl, k9⟩
            have kX := (HX.out.on k9).2.2.2.2.2
            clear k9 HX c0 c1 c2 c3 c4
            have HE9 := Lib.hid (HE5.out.keep0 kX)
            have HK9 := Lib.hid (HK5.out.trans kX)
            clear HE5 HK5 HS
            clear kX
            go_wp2_with fail
            have HM9 : Hid ((A.take (k + 1)).all Ent.may = false) := Lib.hid (by rw [all_take HEe.out, HEm.out, Bool.and_false])
            go_roundg (N - (k + 1))
            case measure => omega
            case rel => exact ⟨k + 1, some ⟨g5, 0, none⟩, cap5, ws, false, by omega, by go_num, rfl, rfl, rfl, by omega, HE9, HM9, Lib.hid (fun h => by cases h), HK9⟩
          · go_wp2_with fail
            refine (rmay_is _ x0 x1 x2 x3 x4 hu00 hu01 hu10 hu11 true hmy.out).mono ?_
            rintro r w9 ⟨rfl, k9⟩
            have HX9 := Lib.hid (HX.out.on k9)
            clear k9 HX c0 c1 c2 c3 c4
            obtain ⟨c0, c1, c2, c3, c4, kX⟩ := HX9.out
            clear kX
            go_wp2_with fail
            refine (rbytes_is _ e x0 x1 x2 x3 x4 X0.out X1.out X2.out X3.out X4.out).mono ?_
            rintro r w10 ⟨rfl, k10⟩
            have kX := (HX9.out.on k10).2.2.2.2.2
            clear k10 HX9 c0 c1 c2 c3 c4
            have HE9 := Lib.hid (HE5.out.keep0 kX)
            have HK9 := Lib.hid (HK5.out.trans kX)
            clear HE5 HK5 HS
            clear kX
            have HM9 : Hid ((A.take (k + 1)).all Ent.may = true) := Lib.hid (by rw [all_take HEe.out, HEm.out, HM.out]; rfl)
            have HB9 : Hid (Wd true (ws ++ str e.bytes) (script (A.take (k + 1)))) := Lib.hid (fun _ => by rw [add_data, HW.out rfl, script_take1 HEe.out]; rfl)
            have hz9 : (ws ++ str e.bytes).size ≤ 5 * (k + 1) := by
              rw [ByteArray.size_append, str_size, e.bytes_len]
              have := e.n_le
              omega
            have HZ9 := Lib.hid hz9
            have hz8 : (str e.bytes).size ≤ 5 := by rw [str_size, e.bytes_len]; have := e.n_le; omega
            clear hz9
            have hadd := fun W => run_string_add_sum (P := Try.prog) W ws (str e.bytes) (by omega)
            generalize str e.bytes = eb at HB9 HZ9 hadd hz8 ⊢
            go_wp2_with fail
            go_roundg (N - (k + 1))
            case measure => omega
            case rel => exact ⟨k + 1, some ⟨g5, 0, none⟩, cap5, ws ++ eb, true, by omega, by go_num, rfl, rfl, rfl, HZ9.out, HE9, HM9, HB9, HK9⟩
        -- ]PART
    · obtain rfl : k = N := by omega
      have hE1 := HE.out
      have hM1 := HM.out
      have hW1 := HW.out
      rw [show A.take k = A from by rw [HN.out]; exact List.take_length] at hE1 hM1 hW1
      have E1 := Lib.hid hE1
      have M1 := Lib.hid hM1
      have W1 := Lib.hid hW1
      clear hE1 hM1 hW1 HE HM HW
      obtain ⟨m, hm9⟩ : ∃ m, argsN z = m := ⟨_, rfl⟩
      have HM9 := Lib.hid hm9
      clear hm9
      cases mb
      · have HV : Hid (encV A = .tuple #[.string ⟨#[]⟩, .int .i64 3]) := Lib.hid (by
          unfold encV
          rw [M1.out]; rfl)
        go_wp2_with fail
        refine (enc_any _ _ _ k A E1.out (by omega)).mono ?_
        rintro e w2 ⟨he, hk⟩
        rw [HV.out] at he
        obtain rfl := he
        have K2 := Lib.hid (HK.out.trans hk)
        clear hk HK
        go_wp2_with fail
        refine (args_is _ z m hz0 HM9.out).mono ?_
        rintro e w3 ⟨rfl, rfl⟩
        go_wp2_with fail
        refine (rargs_is _ z m hz0 hz1 HM9.out).mono ?_
        rintro e w3 ⟨rfl, hk⟩
        have K3 := Lib.hid (K2.out.trans hk)
        clear hk K2
        go_wp2_with fail
        refine (wakes_any _).mono ?_
        rintro e w4 ⟨rfl, hk⟩
        have K4 := Lib.hid (K3.out.trans hk)
        clear hk K3
        go_wp2_with fail
        go_ret
        exact ⟨rfl, K4.out⟩
      · have HV : Hid (encV A = .tuple #[.string ws, .int .i64 0]) := Lib.hid (by
          unfold encV
          rw [M1.out, ← W1.out rfl, str_data]; rfl)
        go_wp2_with fail
        refine (enc_any _ _ _ k A E1.out (by omega)).mono ?_
        rintro e w2 ⟨he, hk⟩
        rw [HV.out] at he
        obtain rfl := he
        have K2 := Lib.hid (HK.out.trans hk)
        clear hk HK
        go_wp2_with fail
        refine (args_is _ z m hz0 HM9.out).mono ?_
        rintro e w3 ⟨rfl, rfl⟩
        go_wp2_with fail
        refine (rargs_is _ z m hz0 hz1 HM9.out).mono ?_
        rintro e w3 ⟨rfl, hk⟩
        have K3 := Lib.hid (K2.out.trans hk)
        clear hk K2
        go_wp2_with fail
        refine (wakes_any _).mono ?_
        rintro e w4 ⟨rfl, hk⟩
        have K4 := Lib.hid (K3.out.trans hk)
        clear hk K3
        go_wp2_with fail
        go_ret
        exact ⟨rfl, K4.out⟩


theorem encodes_any (w : World) (ao : Option Addr) (cap : Nat) (A : List Ent) (z : Int) (hz0 : 0 ≤ z) (hz1 : z < 256) (hA : Ents w ao A) :
    Calls Try.prog 3 #[.slice ao A.length cap, .int .u8 z] w fun e w' => e = .returned (.bool true) ∧ Kp [] w w' := by
  by_cases h : 300 < A.length
  · exact encodes_skip w ao A.length cap z h
  · exact encodes_main w ao cap A z (by omega) hA hz0 hz1

end Go.Proofs.Ytclegfpgmhajmaa
