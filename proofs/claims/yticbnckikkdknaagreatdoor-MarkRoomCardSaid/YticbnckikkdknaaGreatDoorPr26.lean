/- A walk cut into declarations: mroom main. A walk cut into declarations: mroom main. A walk cut into declarations: mroom main. A walk cut into declarations: mroom main. A walk cut into declarations: mroom main. A walk cut into declarations: mroom main. The package's table, as the rows of layer class list it: what it gives a walk, and a world that holds it. Conditions: none. MarkRoom, as stated: for every number of blocks, of threads, every row of things, every owner, two rooms and row of numbers the law returns true, and its arguments read as they did. Conditions: none; the package's table is tied to the program's text. Conditions: as each theorem states them. -/
import Derived.Test.YticbnckikkdknaaGreatDoorCards
import Derived.Test.YticbnckikkdknaaGreatDoorTie
import Derived.WalkKit
import Derived.ProofKit
import Derived.OpenShut
import Derived.Deep.DeepHandedRow
import Derived.Lib.LaidTab
import Derived.Test.YticbnckikkdknaaGreatDoorPr01
import Derived.Test.YticbnckikkdknaaGreatDoorPr04
import Derived.Test.YticbnckikkdknaaGreatDoorPr23
import Derived.Test.YticbnckikkdknaaGreatDoorPr24
import Derived.Test.YticbnckikkdknaaGreatDoorPr25
namespace Go.Proofs.YticbnckikkdknaaGreatDoor
set_option linter.unusedVariables false
set_option linter.unusedSimpArgs false
set_option maxRecDepth 100000
open Go.RowKit

set_option maxHeartbeats 8000000 in
theorem mroom_main_11 : mroom_main_cut.A2 := by
  delta mroom_main_cut
  intro HMd
  unhygienic intros
  have k0 : Kp [] w5 w5 := Kp.refl _ _
  go_region_held3 (fun wx => wx.cell? ⟨hb, 0, none⟩ = some (.pointer (some ⟨sp, 0, none⟩)) ∧ wx.cell? ⟨sp, 0, none⟩ = some (.pointer (some ⟨B + 1, 0, none⟩)) ∧ wx.cell? ⟨hb2, 0, none⟩ = some (.pointer (some ⟨sp2, 0, none⟩)) ∧ wx.cell? ⟨sp2, 0, none⟩ = some (.pointer (some ⟨B2 + 1, 0, none⟩)) ∧ Kp [] w5 wx)
    (first
      | with_reducible assumption
      | (refine HC5.out _ ?_
         repeat (first
           | with_reducible first
            | exact KT2.out
            | exact KT1.out
            | exact Kp.refl _ _
           | with_reducible refine Kp.drew ?_)))
    (first
      | (go_at_call 13
         with_reducible refine Calls.mono (HAl1.out _ ?hk) ?_
         case hk => repeat (first | with_reducible exact KT2.out | with_reducible exact Kp.refl _ _ | with_reducible refine Kp.drew ?_)
         rintro e w6 ⟨rfl, hr6, k6⟩
         have KT1 : Hid (Kp [] w5 w6) := Lib.hid (by
           refine Kp.trans ?_ k6
           repeat (first | with_reducible exact KT2.out | with_reducible exact Kp.refl _ _ | with_reducible refine Kp.drew ?_))
         have R1 := Lib.hid hr6
         have KS1 := Lib.hid k6
         clear hr6 k6)
      | (go_at_call 13
         with_reducible refine Calls.mono (HAl2.out _ ?hk) ?_
         case hk => repeat (first | with_reducible exact KT1.out | with_reducible exact Kp.refl _ _ | with_reducible refine Kp.drew ?_)
         rintro e w7 ⟨rfl, hr7, k7⟩
         have KT2 : Hid (Kp [] w5 w7) := Lib.hid (by
           refine Kp.trans ?_ k7
           repeat (first | with_reducible exact KT1.out | with_reducible exact Kp.refl _ _ | with_reducible refine Kp.drew ?_))
         have R2 := Lib.hid hr7
         have KS2 := Lib.hid k7
         clear hr7 k7))
  all_goals
    rename_i hHeld
    clear hHeld
  all_goals go_wp2_with fail
  all_goals go_meet
  all_goals subst hN
  all_goals
    first
      | exact ⟨_, _, rfl, rfl, Lib.hid ⟨KT2.out, KS2.out.row (by simp) R1.out, R2.out⟩⟩
      | exact ⟨_, _, rfl, rfl, Lib.hid ⟨KT1.out, R1.out, KS1.out.row (by simp) R2.out⟩⟩

end Go.Proofs.YticbnckikkdknaaGreatDoor

namespace Go.Proofs.YticbnckikkdknaaGreatDoor
set_option linter.unusedVariables false
set_option linter.unusedSimpArgs false
set_option maxRecDepth 100000
open Go.RowKit

set_option maxHeartbeats 8000000 in
theorem mroom_main_L1 : mroom_main_cut.A3 := by
  delta mroom_main_cut
  intro HMd
  unhygienic intros
  have hkr := HK6.out.1.trans HR.out
  have hml : (markL S.H Mf).length = N := by rw [markL_len, H5.out.2.2.2.2.2.2.2.2.1]
  have c1 : wr.cell? ⟨ga, i, none⟩ = some (.int .u64 ((markL S.H Mf).getD i 0)) := by rw [cell_of_row (HR.out.row (by simp) HK6.out.2.1), u64s_get _ _ (by rw [hml]; exact hlt)]
  have c2 : wr.cell? ⟨gb, i, none⟩ = some (.int .u64 ((markL S.H Mf).getD i 0)) := by rw [cell_of_row (HR.out.row (by simp) HK6.out.2.2), u64s_get _ _ (by rw [hml]; exact hlt)]
  obtain ⟨b1, b2, -, -, -, -⟩ := HTL.out wr hkr
  have hk1 : ∀ j, (Instr.lookup 29 (.map (some mb)) (.int .i64 i) false).run Tryz.prog (wr.drewN j) = .ok (.bool (tl i)) (wr.drewN j) := fun j => (HTL.out _ (hkr.trans (Gx.kp_drewN _ _))).2.2.1 i (by omega)
  have hk2 : ∀ j, (Instr.lookup 29 (.map (some (mb + 1))) (.int .i64 i) false).run Tryz.prog (wr.drewN j) = .ok (.bool (tl i)) (wr.drewN j) := fun j => (HTL.out _ (hkr.trans (Gx.kp_drewN _ _))).2.2.2.1 i (by omega)
  generalize (markL S.H Mf).getD i 0 = y at *
  generalize tl i = bt at *
  have hny : (y != y) = false := by simp
  have hnt : (bt != bt) = false := by simp
  have F := Lib.hid (HR.out.trans (Gx.kp_drewN wr 0))
  clear hml hkr F
  go_wp2_with fail
  go_quiet (fail)
  go_wp2_with fail
  go_roundg (N - (i + 1))
  case rel => exact ⟨i + 1, by omega, by go_num, Lib.hid (HR.out.trans (Gx.kp_drewN _ _))⟩
  case measure => omega

end Go.Proofs.YticbnckikkdknaaGreatDoor

namespace Go.Proofs.YticbnckikkdknaaGreatDoor
set_option linter.unusedVariables false
set_option linter.unusedSimpArgs false
set_option maxRecDepth 100000
open Go.RowKit

set_option maxHeartbeats 8000000 in
theorem mroom_main_L2 : mroom_main_cut.A4 := by
  delta mroom_main_cut
  intro HMd
  unhygienic intros
  obtain ⟨g, hao, hge, hcl⟩ := HRc.out i (by rw [HRl.out]; exact hlt)
  have cq := kp_cell HR.out.2.2 (by have := HL.out.2.2.1; simp; omega) hcl
  have hmem : (plR P fr).getD i 0 ∈ plR P fr := by
    rw [List.getD_eq_getElem?_getD, List.getElem?_eq_getElem (by rw [HRl.out]; exact hlt)]
    exact List.getElem_mem _
  have hy := plR_ok HG.out.2.1 _ hmem
  obtain ⟨y, hyy⟩ : ∃ y, (plR P fr).getD i 0 = y := ⟨_, rfl⟩
  rw [hyy] at cq hy
  have hyN : y < 5001 := by
    rcases hy with e | e
    · omega
    · have := ((HG.out.1.dw (by omega)).tb y e).2.1
      have := H5.out.2.2.2.2.2.2.2.2.1
      omega
  obtain ⟨w8, hrun, hm8, hk8⟩ := HR.out.1.put (by omega) hyN
  have F : Hid (Mt w8 lb 5001 (fun z => f z || decide (z = y)) ∧ (∀ z, (f z || decide (z = y)) = true ↔ ∃ j, j < i + 1 ∧ z = (plR P fr).getD j 0) ∧ Kp [lb] w7 w8) := Lib.hid ⟨hm8, fun z => by
    simp only [Bool.or_eq_true, decide_eq_true_eq]
    rw [HR.out.2.1 z]
    constructor
    · rintro (⟨j, hj, e⟩ | e)
      · exact ⟨j, by omega, e⟩
      · exact ⟨i, by omega, by rw [e, hyy]⟩
    · rintro ⟨j, hj, e⟩
      by_cases ej : j = i
      · subst ej; right; rw [e, hyy]
      · exact .inl ⟨j, by omega, e⟩, HR.out.2.2.trans hk8⟩
  subst hao
  clear hge hcl hmem hy hyy hyN hm8 hk8 HR
  go_wp2_with fail
  go_roundg (M - (i + 1))
  case rel => exact ⟨i + 1, _, by omega, by go_num, F⟩
  case measure => omega

end Go.Proofs.YticbnckikkdknaaGreatDoor

namespace Go.Proofs.YticbnckikkdknaaGreatDoor
set_option linter.unusedVariables false
set_option linter.unusedSimpArgs false
set_option maxRecDepth 100000
open Go.RowKit

set_option maxHeartbeats 8000000 in
theorem mroom_main_L3 : mroom_main_cut.A5 := by
  delta mroom_main_cut
  intro HMd
  unhygienic intros
  obtain ⟨gP, hgP, cx⟩ := p2 i hlt
  rcases HObj.out i hlt with e0 | ⟨x, k, c, o', rf, sz, ex, hx0, hxN, hO, hk3, hc1, ho63, hrs, hs95, hown, htk⟩
  · have F : Hid (Mt wr lb 5001 f ∧ (∀ z, f z = true ↔ LdP (gpOf O S.H o true) Mf (plR P fr) P (i + 1) z) ∧ Kp [lb] w7 wr) := Lib.hid ⟨HR.out.1, fun z => (HR.out.2.1 z).trans (LdP.skip (.inl e0) z).symm, HR.out.2.2⟩
    rw [e0] at cx
    subst hgP
    clear HR p2 p3 e0
    go_wp2_with fail
    go_roundg (L - (i + 1))
    case rel => exact ⟨i + 1, f, by omega, by go_num, F⟩
    case measure => omega
  · rw [ex] at cx
    have cw := p3 x hxN
    have HTk := Lib.hid htk
    have HX := Lib.hid (And.intro ex (And.intro hx0 (And.intro hO (And.intro hrs hs95))))
    have hx0' : ((x : Int) == 0) = false := by simp; omega
    have hxN' : ¬ ((S.H.length : Int) ≤ (x : Int)) := by omega
    have hxN2 : decide (S.H.length ≤ x) = false := by simp; omega
    subst hgP
    clear p2 p3 htk ex hO
    generalize hY : (markL S.H Mf).getD x 0 = Y at cw HTk
    clear hY
    go_wp2_with fail
    refine (HTk.out _).mono ?_
    rintro e w8 ⟨rfl, k8⟩
    have hA : (w8.alloc (.cells #[.int .u8 k, .int .u8 c, .bool false, .bool (Mf x), .int .u8 o', .int .u8 rf, .int .u8 sz] 59)).heap[w8.heap.size]? = some (.cells #[.int .u8 k, .int .u8 c, .bool false, .bool (Mf x), .int .u8 o', .int .u8 rf, .int .u8 sz] 59 (0, 0)) := heap_alloc_new _ _
    have KA : Hid (Kp [] wr (w8.alloc (.cells #[.int .u8 k, .int .u8 c, .bool false, .bool (Mf x), .int .u8 o', .int .u8 rf, .int .u8 sz] 59))) := Lib.hid (k8.alloc _)
    have hsz : lb < w8.heap.size := Nat.lt_of_lt_of_le HR.out.1.lt k8.size
    clear k8 cx cw HTk
    go_upto_region 31 with (fail)
    generalize w8.heap.size = bh at *
    generalize w8.alloc (.cells #[.int .u8 k, .int .u8 c, .bool false, .bool (Mf x), .int .u8 o', .int .u8 rf, .int .u8 sz] 59) = w9 at *
    have HA := Lib.hid (And.intro hA hsz)
    obtain ⟨p0', p1', -, -⟩ := HPc.out w9 (HR.out.2.2.trans (KA.out.mono (by simp)))
    have m9 := HR.out.1.keep KA.out (by simp)
    have k9 : Kp [lb] w7 w9 := HR.out.2.2.trans (KA.out.mono (by simp))
    have HR9 := Lib.hid (And.intro m9 (And.intro HR.out.2.1 k9))
    clear hA hsz m9 k9 p0 p1 HR KA
    cases hMx : Mf x with
    | false =>
      have a3 := (cell_of_row HA.out.1 3).trans (show _ = some (.bool (Mf x)) from rfl)
      rw [hMx] at a3
      have F : Hid (Mt w9 lb 5001 f ∧ (∀ z, f z = true ↔ LdP (gpOf O S.H o true) Mf (plR P fr) P (i + 1) z) ∧ Kp [lb] w7 w9) := Lib.hid ⟨HR9.out.1, fun z => (HR9.out.2.1 z).trans (LdP.skip (.inr ⟨x, HX.out.1, hMx⟩) z).symm, HR9.out.2.2⟩
      clear HR9 hMx
      go_wp2_with fail
      go_loopg [34] 0 (fun gg v34 wq => gg = 0 ∧ v34 = .int .i64 1 ∧ Hid (wq = w9))
      case atStart => exact ⟨rfl, rfl, Lib.hid rfl⟩
      case round =>
        obtain ⟨-, rfl, HE⟩ := hrel
        obtain rfl := HE.out
        go_wp2_with fail
        go_roundg (L - (i + 1))
        case rel => exact ⟨i + 1, f, by omega, by go_num, F⟩
        case measure => omega
    | true =>
      go_wp2_with fail
      go_loopg [34] rf (fun gg v34 wq => ∃ (q : Nat) (f' : Nat → Bool), q + gg = rf ∧ v34 = .int .i64 ((q : Int) + 1) ∧ Hid (Mt wq lb 5001 f' ∧ (∀ z, f' z = true ↔ (LdP (gpOf O S.H o true) Mf (plR P fr) P i z ∨ ∃ q', q' < q ∧ z = (S.H.getD (x + 1 + q') 0).toNat)) ∧ Kp [lb] w9 wq))
      case atStart => exact ⟨0, f, by omega, rfl, Lib.hid ⟨HR9.out.1, fun z => (HR9.out.2.1 z).trans ⟨.inl, fun h => h.resolve_right (fun ⟨q', h, _⟩ => by omega)⟩, Kp.refl _ _⟩⟩
      case round =>
        obtain ⟨q, f', hq, rfl, HQ⟩ := hrel
        obtain ⟨w10, rfl⟩ : ∃ w10 : World, w10 = wr := ⟨_, rfl⟩
        have hlb := HA.out.2
        have r10 := HQ.out.2.2.row (by simp; omega) HA.out.1
        have a3 := (cell_of_row r10 3).trans (show _ = some (.bool (Mf x)) from rfl)
        have a5 := (cell_of_row r10 5).trans (show _ = some (.int .u8 rf) from rfl)
        rw [hMx] at a3
        have cr : IntKind.i64.wrap (rf : Int) = rf := IntWalk.i64_in _ (by have := HX.out.2.2.2; omega)
        by_cases hqr : q < rf
        · obtain ⟨f2, v, hv, hv5, hvt⟩ := HRf.out x o' rf sz q HX.out.2.2.1 hqr HX.out.2.2.2.1
          obtain ⟨-, -, -, p3'⟩ := HPc.out w10 (HR9.out.2.2.trans HQ.out.2.2)
          have cv := p3' (x + 1 + q) f2
          rw [hv] at cv
          obtain ⟨w11, hrun, hm11, hk11⟩ := HQ.out.1.put (by omega) hv5
          have F : Hid (Mt w11 lb 5001 (fun z => f' z || decide (z = v)) ∧ (∀ z, (f' z || decide (z = v)) = true ↔ (LdP (gpOf O S.H o true) Mf (plR P fr) P i z ∨ ∃ q', q' < q + 1 ∧ z = (S.H.getD (x + 1 + q') 0).toNat)) ∧ Kp [lb] w9 w11) := Lib.hid ⟨hm11, fun z => by
            simp only [Bool.or_eq_true, decide_eq_true_eq]
            rw [HQ.out.2.1 z]
            constructor
            · rintro ((h | ⟨q', h, e⟩) | e)
              · exact .inl h
              · exact .inr ⟨q', by omega, e⟩
              · exact .inr ⟨q, by omega, by rw [e, hvt]⟩
            · rintro (h | ⟨q', h, e⟩)
              · exact .inl (.inl h)
              · by_cases eq' : q' = q
                · subst eq'; exact .inr (by rw [e, hvt])
                · exact .inl (.inr ⟨q', by omega, e⟩), HQ.out.2.2.trans hk11⟩
          have i1 : ((q : Int) + 1 ≤ (rf : Int)) := by omega
          have i2 : ((x : Int) + ((q : Int) + 1) < (S.H.length : Int)) := by omega
          have i3 : x + (q + 1) < S.H.length := by omega
          have cv' : w10.cell? ⟨ga, x + (q + 1), none⟩ = some (.int .u64 v) := by rw [show x + (q + 1) = x + 1 + q by omega]; exact cv
          have cvi : IntKind.i64.wrap (v : Int) = v := IntWalk.i64_in _ (by omega)
          clear hv hv5 hvt p3' cv hm11 hk11 r10 HQ hlb
          go_wp2_with fail
          go_roundg (rf - (q + 1))
          case rel => exact ⟨q + 1, _, by omega, by go_num, F⟩
          case measure => omega
        · have eq2 : q = rf := by omega
          have F : Hid (Mt w10 lb 5001 f' ∧ (∀ z, f' z = true ↔ LdP (gpOf O S.H o true) Mf (plR P fr) P (i + 1) z) ∧ Kp [lb] w7 w10) := Lib.hid ⟨HQ.out.1, fun z => by
            rw [HQ.out.2.1 z, LdP.hit HX.out.1 HX.out.2.1 hMx z]
            have hrl : (S.H.getD x 0 / 2048 % 128).toNat = rf := by
              have := (HG.out.1.head (by omega) HX.out.2.2.1).2.1
              omega
            constructor
            · rintro (h | ⟨q', h, e⟩)
              · exact .inl h
              · right
                rw [e]
                exact ref_mem x q' (by omega)
            · rintro (h | h)
              · exact .inl h
              · right
                have h' : z ∈ (List.range (S.H.getD x 0 / 2048 % 128).toNat).map fun k => (S.H.getD (x + 1 + k) 0).toNat := h
                rw [List.mem_map] at h'
                obtain ⟨q', hq', e⟩ := h'
                rw [List.mem_range] at hq'
                exact ⟨q', by omega, e.symm⟩, HR9.out.2.2.trans HQ.out.2.2⟩
          have i1 : ¬ ((q : Int) + 1 ≤ (rf : Int)) := by omega
          clear r10 HQ hlb eq2
          go_wp2_with fail
          go_roundg (L - (i + 1))
          case rel => exact ⟨i + 1, f', by omega, by go_num, F⟩
          case measure => omega

end Go.Proofs.YticbnckikkdknaaGreatDoor

namespace Go.Proofs.YticbnckikkdknaaGreatDoor
set_option linter.unusedVariables false
set_option linter.unusedSimpArgs false
set_option maxRecDepth 100000
open Go.RowKit

set_option maxHeartbeats 8000000 in
theorem mroom_main_R7 : mroom_main_cut.A6 := by
  delta mroom_main_cut
  intro HMd
  unhygienic intros
  have ei : i = L := by omega
  have hPL : P.length = L := by rw [HG.out.2.2.2, HLM.out.1]
  have hfz : ∀ z, z ≠ 0 → (Mf z = true ↔ (f z = true ∧ (gpOf O S.H o true).own z = true)) := fun z hz => by
    rw [HR.out.2.1 z, ei, ← hPL]
    have hd0 : (O 0).isSome = false := by
      cases h : (O 0).isSome with
      | false => rfl
      | true => have := ((HG.out.1.dw (by omega)).tb 0 h).1; omega
    exact led_mark HG.out.1 HG.out.2.2.1 H5.out.1 hd0 hz
  obtain ⟨w12, rfl⟩ : ∃ w12 : World, w12 = wr := ⟨_, rfl⟩
  have HF5 := Lib.hid (And.intro HR.out.1 (And.intro hfz HR.out.2.2))
  clear HR hfz hPL ei
  go_wp2_with fail
  go_loopg [35] L (fun gg v35 wr => ∃ i : Nat, i + gg = L ∧ v35 = .int .i64 i ∧ Hid (Kp [] w12 wr))
  case atStart => exact ⟨0, by omega, rfl, Lib.hid (Kp.refl _ _)⟩
  case round =>
    obtain ⟨i, hi, rfl, HR⟩ := hrel
    have k7 : Kp [lb] w7 wr := HF5.out.2.2.trans (HR.out.mono (by simp))
    obtain ⟨p0, p1, p2, p3⟩ := HPc.out wr k7
    by_cases hlt : i < L
    · obtain ⟨gP, hgP, cx⟩ := p2 i hlt
      rcases HObj.out i hlt with e0 | ⟨x, k, c, o', rf, sz, ex, hx0, hxN, hO, hk3, hc1, ho63, hrs, hs95, hown, htk⟩
      · rw [e0] at cx
        subst hgP
        clear p2 p3 e0 k7
        go_wp2_with fail
        go_roundg (L - (i + 1))
        case rel => exact ⟨i + 1, by omega, by go_num, HR⟩
        case measure => omega
      · rw [ex] at cx
        have cw := p3 x hxN
        have HTk := Lib.hid htk
        have hx0' : ((x : Int) == 0) = false := by simp; omega
        have hxN' : ¬ ((S.H.length : Int) ≤ (x : Int)) := by omega
        have hxN2 : decide (S.H.length ≤ x) = false := by simp; omega
        have HZ := Lib.hid (And.intro (HF5.out.2.1 x hx0) (And.intro hown hxN))
        subst hgP
        clear p2 p3 htk ex hO hown k7
        generalize hY : (markL S.H Mf).getD x 0 = Y at cw HTk
        clear hY
        go_wp2_with fail
        refine (HTk.out _).mono ?_
        rintro e w8 ⟨rfl, k8⟩
        have hA : (w8.alloc (.cells #[.int .u8 k, .int .u8 c, .bool false, .bool (Mf x), .int .u8 o', .int .u8 rf, .int .u8 sz] 59)).heap[w8.heap.size]? = some (.cells #[.int .u8 k, .int .u8 c, .bool false, .bool (Mf x), .int .u8 o', .int .u8 rf, .int .u8 sz] 59 (0, 0)) := heap_alloc_new _ _
        have KA : Hid (Kp [] w12 (w8.alloc (.cells #[.int .u8 k, .int .u8 c, .bool false, .bool (Mf x), .int .u8 o', .int .u8 rf, .int .u8 sz] 59))) := Lib.hid (HR.out.trans (k8.alloc _))
        clear k8 cx cw HTk
        go_upto_region 41 with (fail)
        generalize w8.heap.size = bh at *
        generalize w8.alloc (.cells #[.int .u8 k, .int .u8 c, .bool false, .bool (Mf x), .int .u8 o', .int .u8 rf, .int .u8 sz] 59) = w9 at *
        have a0 := (cell_of_row hA 0).trans (show _ = some (.int .u8 k) from rfl)
        have a3 := (cell_of_row hA 3).trans (show _ = some (.bool (Mf x)) from rfl)
        have a4 := (cell_of_row hA 4).trans (show _ = some (.int .u8 o') from rfl)
        have hlk := (HF5.out.1.keep KA.out (by simp)).at (n := x) (by omega)
        clear hA p0 p1
        cases hfx : f x with
        | false =>
          have hM0 : Mf x = false := by
            cases hm : Mf x with
            | false => rfl
            | true => have := (HZ.out.1.1 hm).1; rw [hfx] at this; cases this
          rw [hfx] at hlk
          rw [hM0] at a3
          clear hfx hM0
          go_wp2_with fail
          go_roundg (L - (i + 1))
          case rel => exact ⟨i + 1, by omega, by go_num, KA⟩
          case measure => omega
        | true =>
          rw [hfx] at hlk
          by_cases hk : k = 2
          · have e1 : ((k : Int) == 2) = true := by simp; omega
            by_cases hoo : o' = o
            · have e2 : ((o' : Int) == (o : Int)) = true := by simp; omega
              have hM1 : Mf x = true := HZ.out.1.2 ⟨hfx, by rw [HZ.out.2.1]; simp [hk, hoo]⟩
              rw [hM1] at a3
              clear hfx hM1 hk hoo
              go_wp2_with fail
              go_roundg (L - (i + 1))
              case rel => exact ⟨i + 1, by omega, by go_num, KA⟩
              case measure => omega
            · have e2 : ((o' : Int) == (o : Int)) = false := by simp; omega
              have hM0 : Mf x = false := by
                cases hm : Mf x with
                | false => rfl
                | true => have := (HZ.out.1.1 hm).2; rw [HZ.out.2.1] at this; simp [hoo] at this
              rw [hM0] at a3
              clear hfx hM0 hk hoo
              go_wp2_with fail
              go_roundg (L - (i + 1))
              case rel => exact ⟨i + 1, by omega, by go_num, KA⟩
              case measure => omega
          · have e1 : ((k : Int) == 2) = false := by simp; omega
            have hM0 : Mf x = false := by
              cases hm : Mf x with
              | false => rfl
              | true => have := (HZ.out.1.1 hm).2; rw [HZ.out.2.1] at this; simp [hk] at this
            rw [hM0] at a3
            clear hfx hM0 hk
            go_wp2_with fail
            go_roundg (L - (i + 1))
            case rel => exact ⟨i + 1, by omega, by go_num, KA⟩
            case measure => omega
    · have K5r : Kp [] w5 wr := HK6.out.1.trans (HKr.out wr k7)
      have HWk := Lib.hid (wakes18 HMd wr (tab_keep H5.out.2.2.2.2.1 K5r (by simp)))
      have F := Lib.hid (H5.out.2.2.2.2.2.2.1.trans K5r)
      clear K5r k7 p2 p3
      go_wp2_with fail
      refine HWk.out.mono ?_
      rintro e w13 ⟨rfl, k13⟩
      have F13 := Lib.hid (F.out.trans k13)
      clear k13
      go_wp2_with fail
      go_ret
      exact ⟨rfl, F13.out⟩

end Go.Proofs.YticbnckikkdknaaGreatDoor

namespace Go.Proofs.YticbnckikkdknaaGreatDoor
set_option linter.unusedVariables false
set_option linter.unusedSimpArgs false
set_option maxRecDepth 100000
open Go.RowKit

theorem mroom_main (HMd : Hid CMade) (w : World) (T0 : Cl.Tab w) (n T o0 ra rb : Nat) (hn1 : 1 ≤ n) (hn2 : n ≤ 12) (hT1 : 1 ≤ T) (hT4 : T ≤ 4) (ho : o0 ≤ 255) (ha1 : 1 ≤ ra) (ha2 : ra ≤ 64) (hrb1 : 1 ≤ rb) (hrb2 : rb ≤ 64) (ao ao2 : Option Addr) (cap cap2 : Nat) (l : List Th) (hl : l.length ≤ 60) (hA : Tgs w ao l) (fr : List Nat) (hfl : fr.length ≤ 60) (hF : Nms w ao2 fr) :
    Calls Tryz.prog 3 #[.int .u8 n, .int .u8 T, .slice ao l.length cap, .int .u8 o0, .int .u8 ra, .int .u8 rb, .slice ao2 fr.length cap2] w fun e w' => e = .returned (.bool true) ∧ Kp [] w w' :=
  mroom_main_cut.use (Lib.hid mroom_main_9) (Lib.hid mroom_main_10) (Lib.hid mroom_main_11) (Lib.hid mroom_main_L1) (Lib.hid mroom_main_L2) (Lib.hid mroom_main_L3) (Lib.hid mroom_main_R7) HMd w T0 n T o0 ra rb hn1 hn2 hT1 hT4 ho ha1 ha2 hrb1 hrb2 ao ao2 cap cap2 l hl hA fr hfl hF

end Go.Proofs.YticbnckikkdknaaGreatDoor

namespace Go.Proofs.YticbnckikkdknaaGreatDoor
open Go.ChangeShapes Go.WideShapes Go.ChangeAt Go.RowKit

theorem Tryz.own : ownKnob Tryz.prog.godebug = none := by kernel_rfl
theorem Tryz.laidOut : laidOutB Tryz.prog = true := by kernel_rfl
theorem gTab : Tryz.prog.globalNamed "demesne/class.rooms" = some 0 := by kernel_rfl
theorem gTabType : (Tryz.prog.globals[0]?).map (·.type) = some 199 := by kernel_rfl
theorem gTabCells : Tryz.prog.cellsOf 199 = 4 := by kernel_rfl
theorem gIntCells : Tryz.prog.cellsOf 3 = 1 := by kernel_rfl

/-- What the rows' list gives: the table's cells hold its four numbers. -/
theorem tab_of {W : World} (h : laidMetH Tryz.prog [("demesne/class.rooms", Rows.laid_demesne_class_rooms)] W) : Cl.Tab W := by
  have t : Lib.TabIs Tryz.prog W "demesne/class.rooms" .i64 [1, 2, 4, 8] := Lib.tabIs_of_head (rest := []) gTab gTabType Tryz.underlying199 Tryz.underlying3 gIntCells gTabCells h
  exact ⟨t.cell gTab 0 (by decide), t.cell gTab 1 (by decide), t.cell gTab 2 (by decide), t.cell gTab 3 (by decide)⟩

/-- The settled world, the table laid into it. -/
noncomputable def laidWorld (os : Os) : World :=
  { World.holding Tryz.prog os ⟨#[], #[], []⟩ with heap := (World.holding Tryz.prog os ⟨#[], #[], []⟩).heap.modify 0 fun
      | .cells _ t frozen => .cells #[.int .i64 1, .int .i64 2, .int .i64 4, .int .i64 8] t frozen
      | o => o }

end Go.Proofs.YticbnckikkdknaaGreatDoor

namespace Go.Proofs.YticbnckikkdknaaGreatDoor
set_option linter.unusedVariables false
set_option linter.unusedSimpArgs false
set_option maxRecDepth 100000
open Go.ChangeShapes Go.WideShapes Go.ChangeAt Go.RowKit

theorem markRoom_contract (H : Type) (enc : TypeId × Value → H) (W : World) (base : Nat) (args : Array Value) (ds gs : List (DataW H)) (before : List MemPlace)
    (hval : ∀ (j : Nat) t v, Tryz.f3.params[j]? = some t → args[j]? = some v → Value.okWide Tryz.prog W .any base t v)
    (hW : DataW.Whole enc Tryz.prog Tryz.f3.params.toList Rows.markRoomSpec.vars false W args.toList ds gs before) (hL : laidMetH Tryz.prog Rows.markRoomRow.laid W) :
    Calls Tryz.prog 3 args W fun e W' => ∃ v, e = .returned v ∧ Rows.markRoomSpec.post enc Tryz.prog Tryz.f3 false true false false W args v W' := by
  have hW' := hW
  obtain ⟨p, q, hA0, hV, rfl, hfz, hnd⟩ := hW
  have hA : DataW.TrodAll enc Tryz.prog W 0 (fun _ => true) true Tryz.f3.params.toList args.toList ds p := hA0
  rw [Tryz.params3] at hA hval
  obtain ⟨v0, v1, v2, v3, v4, v5, v6, d0, d1, d2, d3, d4, d5, d6, p0, p1, p2, p3, p4, p5, p6, rfl, rfl, rfl, h0, h1, h2, h3, h4, h5, h6⟩ := trodAll_seven hA
  obtain ⟨x, rfl, _, _, w0⟩ := open_int Tryz.underlying5 (hval 0 5 v0 rfl rfl) h0
  obtain ⟨x0, x1⟩ := bounds_u8 w0
  obtain ⟨y, rfl, _, _, w1⟩ := open_int Tryz.underlying5 (hval 1 5 v1 rfl rfl) h1
  obtain ⟨y0, y1⟩ := bounds_u8 w1
  obtain ⟨ao, cap, L, rfl, hlm, hLa⟩ := open_things18 (hval 2 22 v2 rfl rfl) h2
  obtain ⟨z, rfl, _, _, w3⟩ := open_int Tryz.underlying5 (hval 3 5 v3 rfl rfl) h3
  obtain ⟨z0, z1⟩ := bounds_u8 w3
  obtain ⟨ra, rfl, _, _, w4⟩ := open_int Tryz.underlying5 (hval 4 5 v4 rfl rfl) h4
  obtain ⟨ra0, ra1⟩ := bounds_u8 w4
  obtain ⟨rb, rfl, _, _, w5⟩ := open_int Tryz.underlying5 (hval 5 5 v5 rfl rfl) h5
  obtain ⟨rb0, rb1⟩ := bounds_u8 w5
  obtain ⟨ao2, cap2, fr, rfl, hfm, hFa⟩ := open_nums (hval 6 23 v6 rfl rfl) h6
  have hT : Cl.Tab W := tab_of hL
  have fin : ∀ (e : Ending) (W' : World), (e = .returned (.bool true) ∧ Kp [] W W') → ∃ v, e = .returned v ∧ Rows.markRoomSpec.post enc Tryz.prog Tryz.f3 false true false false W #[.int .u8 x, .int .u8 y, .slice ao L.length cap, .int .u8 z, .int .u8 ra, .int .u8 rb, .slice ao2 fr.length cap2] v W' := by
    rintro e W' ⟨rfl, kp⟩
    exact ⟨_, rfl, post_true Tryz.laidOut (by kernel_rfl) rfl Tryz.underlying4 rfl rfl hW' kp.to_below⟩
  by_cases hs : x < 1 ∨ 12 < x ∨ y < 1 ∨ 4 < y ∨ 60 < L.length ∨ 60 < fr.length ∨ ra < 1 ∨ 64 < ra ∨ rb < 1 ∨ 64 < rb
  · exact (mroom_skip (Lib.hid made_all) W hT x y z ra rb ⟨x0, x1⟩ ⟨y0, y1⟩ ao ao2 L.length cap fr.length cap2 hlm hfm hs).mono fin
  · obtain ⟨N, rfl⟩ : ∃ N : Nat, x = N := ⟨x.toNat, by omega⟩
    obtain ⟨T, rfl⟩ : ∃ T : Nat, y = T := ⟨y.toNat, by omega⟩
    obtain ⟨o, rfl⟩ : ∃ o : Nat, z = o := ⟨z.toNat, by omega⟩
    obtain ⟨a, rfl⟩ : ∃ a : Nat, ra = a := ⟨ra.toNat, by omega⟩
    obtain ⟨b, rfl⟩ : ∃ b : Nat, rb = b := ⟨rb.toNat, by omega⟩
    exact (mroom_main (Lib.hid made_all) W hT N T o a b (by omega) (by omega) (by omega) (by omega) (by omega) (by omega) (by omega) (by omega) (by omega) ao ao2 cap cap2 L (by omega) hLa fr (by omega) hFa).mono fin

theorem markRoom_laid_met (os : Os) : laidMet Tryz.prog Rows.markRoomRow.laid ((laidWorld os).forCall (fun _ _ => 0) ⟨#[], #[.int .u8 0, .int .u8 0, .slice none 0 0, .int .u8 0, .int .u8 0, .int .u8 0, .slice none 0 0], []⟩).memory :=
  laidMet_of_run' 8 (by kernel_rfl) (by kernel_rfl)
theorem markRoom_reads (os : Os) {H : Type} (enc : TypeId × Value → H) : ∃ places, DataW.whole enc Tryz.prog ((laidWorld os).forCall (fun _ _ => 0) ⟨#[], #[.int .u8 0, .int .u8 0, .slice none 0 0, .int .u8 0, .int .u8 0, .int .u8 0, .slice none 0 0], []⟩).memory Tryz.f3.params.toList Rows.markRoomSpec.vars false #[Value.int .u8 0, Value.int .u8 0, Value.slice none 0 0, Value.int .u8 0, Value.int .u8 0, Value.int .u8 0, Value.slice none 0 0].toList 8 = some ([.lit (.int .u8 0), .lit (.int .u8 0), .nil, .lit (.int .u8 0), .lit (.int .u8 0), .lit (.int .u8 0), .nil], [], places) :=
  ⟨[], by kernel_rfl⟩

set_option maxRecDepth 100000 in
theorem markRoom_lifted (os : Os) (started : os.Started) (H : Type) (enc : TypeId × Value → H) (F : Stop.Interp) :
    ReturnsInHanded {} Tryz.checked os 3 .any ((OpenSpec.ofChange Rows.markRoomSpec).preRow enc Tryz.prog Tryz.f3 Rows.markRoomRow.domain false Rows.markRoomRow.laid) (((OpenSpec.ofChange Rows.markRoomSpec).at F).post enc Tryz.prog Tryz.f3 false true false false) := by
  obtain ⟨places, hx⟩ := markRoom_reads os enc
  refine returnsInHanded_of_row (C := Tryz.checked) (s := OpenSpec.ofChange Rows.markRoomSpec) Tryz.own started (by kernel_rfl) Tryz.func3
    (witness_row_at (enc := enc) (C := Tryz.checked) false (laidWorld os) #[.int .u8 0, .int .u8 0, .slice none 0 0, .int .u8 0, .int .u8 0, .int .u8 0, .slice none 0 0] rfl (by kernel_rfl) (by kernel_rfl) (by kernel_rfl)
      (OpenSpec.preRow_of_cond 8 hx (by kernel_rfl) (fun k hk => by cases hk) (by kernel_rfl) (markRoom_laid_met os))) ?_
  intro W base args ds gs before hval hW _ _ _ hL _ _
  exact markRoom_contract H enc W base args ds gs before hval hW hL

theorem markRoom_said : Rows.MarkRoomSaid :=
  OpenClaim.holds_of_cond 3 Tryz.f3 rfl rfl rfl rfl rfl rfl rfl ⟨rfl, rfl, rfl, rfl, rfl⟩ rfl rfl rfl rfl rfl (by kernel_rfl) Tryz.func3 (by kernel_rfl)
    (of_decide_eq_true (by kernel_rfl)) (by unfold Func.isWrapper; first | (rw [if_pos (by decide +kernel)]; kernel_rfl) | (rw [if_neg (by decide +kernel)]; exact ⟨rfl, rfl⟩))
    (fun os started H enc _ F => by rw [OpenClaim.pre_eq_preRow]; exact markRoom_lifted os started H enc F)

theorem markRoom_plain (f : FuncId) (fn : Func) (hf : Tryz.pinned.checked.prog.funcNamed "demesne/demesnelaw18.MarkRoom" = some f) (hfn : Tryz.pinned.checked.prog.funcs[f]? = some fn) :
    false = Tryz.pinned.checked.prog.looks [] ∧ ∀ (j : Nat) t, fn.params[j]? = some t → Tryz.pinned.checked.prog.wantsStandIn t = false := by
  obtain rfl : f = 3 := Option.some.inj ((show Tryz.prog.funcNamed "demesne/demesnelaw18.MarkRoom" = some 3 by kernel_rfl).symm.trans hf) |>.symm
  obtain rfl : fn = Tryz.f3 := (Option.some.inj (Tryz.func3.symm.trans hfn)).symm
  refine ⟨by kernel_rfl, fun j t ht => ?_⟩
  rw [Tryz.params3] at ht
  have hm : t ∈ [5, 5, 22, 5, 5, 5, 23] := by simpa using Array.mem_of_getElem? ht
  have hall : ([5, 5, 22, 5, 5, 5, 23].all fun u => !Tryz.prog.wantsStandIn u) = true := by kernel_rfl
  exact (show Tryz.prog.wantsStandIn t = false by simpa using List.all_eq_true.1 hall t hm)

/-- THE STATEMENT. -/
theorem markRoom_card : Rows.MarkRoomCardSaid :=
  Claim7.holds_tied_plain_at .later [] _ _ _ _ markRoom_said (fun _ h => by cases h) (by kernel_rfl) (fun _ h => by cases h) markRoom_row_tie rfl ⟨rfl, rfl⟩ (by kernel_rfl) rfl markRoom_plain (by kernel_rfl)

end Go.Proofs.YticbnckikkdknaaGreatDoor
