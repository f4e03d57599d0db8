/- Two rows that are alike; all that a graph tells is the document's: row, looks. Conditions: as each theorem states them. -/
import Derived.Test.YtmbhhadghiojeaaGreatGl4
import Derived.Test.YtmbhhadghiojeaaGreatDg6
namespace Go.Proofs.YtmbhhadghiojeaaGreat
set_option linter.unusedVariables false
set_option linter.unusedSimpArgs false
open Go.RowKit Go.Maps

/-- The numbers xs lie from there on. -/
def At (w : World) (ao : Option Addr) (xs : List Int) : Prop := ∀ i, i < xs.length → ∃ g o, ao = some ⟨g, o, none⟩ ∧ w.cell? ⟨g, o + i, none⟩ = some (.int .i64 (xs.getD i 0))
theorem At.keep0 {w w' : World} {ao : Option Addr} {xs : List Int} (h : At w ao xs) (k : Kp [] w w') : At w' ao xs := fun i hi => by
  obtain ⟨g, o, e, hc⟩ := h i hi
  exact ⟨g, o, e, k.cell (by simp) hc⟩
theorem at_rd {w : World} {ao : Option Addr} {n c : Nat} {xs : List Int} (h : Rd w (.slice ao n c) xs) : At w ao xs := fun i hi => h.cellAt hi
theorem at_ro {w : World} {g : Nat} {xs : List Int} (h : Ro 3 .i64 w g xs) : At w (some ⟨g, 0, none⟩) xs := fun i hi => ⟨g, 0, rfl, by rw [Nat.zero_add]; exact h.cell hi⟩

set_option maxRecDepth 100000 in
theorem row_same (w : World) (ao bo : Option Addr) (n c1 c2 : Nat) (xs : List Int) (h1 : At w ao xs) (h2 : At w bo xs) (hn : xs.length = n) (hl : n ≤ 100000) :
    Calls Tryz.prog 53 #[.slice ao n c1, .slice bo n c2] w fun e w' => e = .returned (.bool true) ∧ Kp [] w w' := by
  have HR := Lib.hid (And.intro h1 h2)
  have HN := Lib.hid hn
  clear h1 h2 hn
  go_enter Tryz.func53, Tryz.ntmps53
  go_wp2_with fail
  go_loopg [5] n (fun gg v wr => ∃ (k : Nat), k + gg = n ∧ v = .int .i64 (k : Int) ∧ Hid (Kp [] w wr))
  case atStart => exact ⟨0, by omega, rfl, Lib.hid (Kp.refl _ _)⟩
  case round =>
    obtain ⟨k, hkg, rfl, H⟩ := hrel
    by_cases hkn : k < n
    · obtain ⟨g1, o1, rfl, c1'⟩ := (HR.out.1.keep0 H.out) k (by rw [HN.out]; exact hkn)
      obtain ⟨g2, o2, rfl, c2'⟩ := (HR.out.2.keep0 H.out) k (by rw [HN.out]; exact hkn)
      have HK := Lib.hid (H.out.drew)
      generalize xs.getD k 0 = x at c1' c2'
      clear H
      go_wp2_with fail
      go_region
      all_goals go_wp2_with fail
      all_goals
        go_roundg (n - (k + 1))
        case measure => omega
        case rel => exact ⟨k + 1, by omega, by go_num, HK⟩
    · have hnn : ¬ ((k : Int) < (n : Int)) := by omega
      go_wp2_with fail
      go_ret
      exact ⟨rfl, H.out⟩

set_option maxRecDepth 100000 in
set_option maxHeartbeats 8000000 in
theorem looks_any (w : World) (p q M : Nat) (s : Gs) (y : Ly) (z : Dl) (hy : Gy w p s y) (hz : Dy w q s z) (hw : Wf s M) (hM : M ≤ 10000) :
    Calls Tryz.prog 14 #[.pointer (some ⟨p, 0, none⟩), .pointer (some ⟨q, 0, none⟩)] w fun e w' => e = .returned (.bool true) ∧ Kp [] w w' := by
  have HY := Lib.hid hy
  have HZ := Lib.hid hz
  have HW := Lib.hid hw
  obtain ⟨m, hm⟩ : ∃ m, m = s.m := ⟨_, rfl⟩
  have HM := Lib.hid hm
  have hmb : m ≤ 10000 := by have := hw.m; omega
  obtain ⟨oo, oc, ho⟩ := hz.ho.form
  rw [← hm] at ho
  have HO := Lib.hid ho
  have HC2 : Hid (∀ w', Kp [] w w' → w'.cell? ⟨q, 2, none⟩ = some (.slice oo m oc)) := Lib.hid fun w' k => by rw [← ho]; exact (hz.keep0 k).c2
  clear hy hz hw hm ho
  go_enter Tryz.func14, Tryz.ntmps14
  go_wp2_with fail
  go_loopg [5] (m + 3) (fun gg v wr => ∃ x : Int, v = .int .i64 x ∧ -1 ≤ x ∧ Hid (x + gg = m + 2) ∧ Hid (Kp [] w wr))
  case atStart => exact ⟨-1, rfl, by omega, Lib.hid (by omega), Lib.hid (Kp.refl _ _)⟩
  case round =>
    obtain ⟨x, rfl, hx1, HG, H⟩ := hrel
    have c2 := HC2.out wr H.out
    by_cases hxm : x ≤ (m : Int) + 1
    · obtain ⟨G, hG⟩ : ∃ G, G + 1 = gk := ⟨gk - 1, by have := HG.out; omega⟩
      by_cases hbad : x < 1 ∨ (m : Int) < x
      · have hob := g_Object_no (HY.out.keep0 H.out) HW.out hM (x := x) (by have := HM.out; omega) (WalkArith.wf_i64 (by omega))
        by_cases hx0 : x < 1
        · clear hbad
          go_wp2_with fail
          refine hob.mono ?_
          rintro e w5 ⟨rfl, hk5⟩
          have H5 := Lib.hid (H.out.trans hk5)
          have c2 := HC2.out w5 H5.out
          clear H hob hk5
          go_wp2_with fail
          go_roundg G
          case measure => omega
          case rel => exact ⟨x + 1, by go_num, by omega, Lib.hid (by have := HG.out; omega), H5⟩
        · have hx9 : (m : Int) < x := by omega
          clear hbad
          go_wp2_with fail
          refine hob.mono ?_
          rintro e w5 ⟨rfl, hk5⟩
          have H5 := Lib.hid (H.out.trans hk5)
          have c2 := HC2.out w5 H5.out
          clear H hob hk5
          go_wp2_with fail
          go_roundg G
          case measure => omega
          case rel => exact ⟨x + 1, by go_num, by omega, Lib.hid (by have := HG.out; omega), H5⟩
      · obtain ⟨k, hk⟩ : ∃ k : Nat, x = (k : Int) + 1 := ⟨(x - 1).toNat, by omega⟩
        subst hk
        have hkm : k < m := by omega
        have hkm' : k + 1 ≤ s.m := by have := HM.out; omega
        have hob := g_Object_ok (HY.out.keep0 H.out) HW.out hM (n := k + 1) (by omega) hkm'
        rw [show ((k + 1 : Nat) : Int) = (k : Int) + 1 from by omega] at hob
        have h95 := HW.out.r95 (k + 1) (by omega) hkm'
        obtain ⟨b9, cc, e9, d1, d2⟩ := HZ.out.ob (n := k + 1) (by omega) hkm'
        rw [HO.out] at e9
        simp only [Value.slice.injEq] at e9
        obtain ⟨e9, -, -⟩ := e9
        subst e9
        rw [Nat.add_sub_cancel] at d1 d2
        have HD := Lib.hid (And.intro d1 d2)
        have HRI := Lib.hid (HZ.out.hi (k + 1) hkm').1
        have HRD := Lib.hid (HZ.out.hd (k + 1) (by omega) hkm').1
        have hx0 : ¬ ((k : Int) + 1 < 1) := by omega
        have hx9 : ¬ ((m : Int) < (k : Int) + 1) := by omega
        unfold refsV at d1 HD
        unfold dataV at d2 HD
        unfold ObIs at hob
        have HL1 := Lib.hid (show (s.R (k + 1)).length = (s.R (k + 1)).length from rfl)
        generalize hl1 : (s.R (k + 1)).length = l1 at d1 HD hob h95
        generalize hl2 : (s.D (k + 1)).length = l2 at d2 HD hob h95
        have HLL := Lib.hid (And.intro hl1 hl2)
        generalize z.ig (k + 1) = ig at d1 HD HRI
        generalize z.ic (k + 1) = ic at d1 HD
        generalize z.dg (k + 1) = dg at d2 HD HRD
        generalize z.dc (k + 1) = dc at d2 HD
        clear hbad hl1 hl2 d1 d2 HL1
        go_wp2_with fail
        refine hob.mono ?_
        rintro e w5 ⟨a1, e1, a2, e2, rfl, hr1, hr2, hk5⟩
        have H5 := Lib.hid (H.out.trans hk5)
        have HRR := Lib.hid (And.intro hr1 hr2)
        have c2 := HC2.out w5 H5.out
        have d1 := H5.out.cell (by simp) HD.out.1
        have d2 := H5.out.cell (by simp) HD.out.2
        clear H hob hk5 hr1 hr2
        have ka : Kp [] w5 (w5.alloc (.cells #[.slice (some ⟨ig, 0, none⟩) l1 ic, .slice (some ⟨dg, 0, none⟩) l2 dc] 81)) := (Kp.refl _ _).alloc _
        have hrow := row_same (w5.alloc (.cells #[.slice (some ⟨ig, 0, none⟩) l1 ic, .slice (some ⟨dg, 0, none⟩) l2 dc] 81)) (some ⟨a1, 0, none⟩) (some ⟨ig, 0, none⟩) l1 e1 ic (s.R (k + 1)) ((at_ro HRR.out.1).keep0 ka) ((at_ro (HRI.out.keep0 H5.out)).keep0 ka) HLL.out.1 (by omega)
        have HKA := Lib.hid (H5.out.trans ka)
        have HB9 := Lib.hid (heap_alloc_new w5 (.cells #[.slice (some ⟨ig, 0, none⟩) l1 ic, .slice (some ⟨dg, 0, none⟩) l2 dc] 81))
        have HRA := Lib.hid (HRR.out.2.keep0 ka)
        clear ka
        go_wp2_with fail
        refine hrow.mono ?_
        rintro e w6 ⟨rfl, hk6⟩
        have H6 := Lib.hid (HKA.out.trans hk6)
        have HB6 := Lib.hid (hk6.row (by simp) HB9.out)
        have HRA6 := Lib.hid (HRA.out.keep0 hk6)
        have HRD6 := Lib.hid (HRD.out.keep0 H6.out)
        have HX := Lib.hid (show (k : Int) + 1 + gk = m + 2 from HG.out)
        generalize w5.heap.size = b at HB6 ⊢
        have dd2 : w6.cell? ⟨b, 1, none⟩ = some (.slice (some ⟨dg, 0, none⟩) l2 dc) := by rw [cell_of_row HB6.out]; rfl
        have HLD := Lib.hid (show (s.D (k + 1)).length = l2 from HLL.out.2)
        generalize s.D (k + 1) = Dn at HRA6 HRD6 HLD
        have hl2b : l2 ≤ 1000 := by omega
        clear hrow hk6 HKA HB9 HRA HRD HRR HLL HRI HD c2 d1 d2 H5 h95 HG
        go_wp2_with fail
        go_loopg [10] l2 (fun gg v wr => ∃ j : Nat, j + gg = l2 ∧ v = .int .i64 (j : Int) ∧ Hid (Kp [] w6 wr))
        case atStart => exact ⟨0, by omega, rfl, Lib.hid (Kp.refl _ _)⟩
        case round =>
          obtain ⟨j, hjg, rfl, HJ⟩ := hrel
          by_cases hjl : j < l2
          · have k1 := (HRA6.out.keep0 HJ.out).cell (i := j) (by rw [HLD.out]; exact hjl)
            have k2 := (HRD6.out.keep0 HJ.out).cell (i := j) (by rw [HLD.out]; exact hjl)
            have k3 := HJ.out.cell (by simp) dd2
            have HK := Lib.hid (HJ.out.drew)
            generalize Dn.getD j 0 = xx at k1 k2
            clear HJ dd2
            go_wp2_with fail
            go_region
            all_goals go_wp2_with fail
            all_goals
              go_roundg (l2 - (j + 1))
              case measure => omega
              case rel => exact ⟨j + 1, by omega, by go_num, HK⟩
          · have hnn : ¬ ((j : Int) < (l2 : Int)) := by omega
            have HE := Lib.hid (H6.out.trans HJ.out)
            clear HJ
            go_wp2_with fail
            go_roundg G
            case measure => omega
            case rel => exact ⟨(k : Int) + 1 + 1, by go_num, by omega, Lib.hid (by have := HX.out; omega), HE⟩
    · obtain ⟨wa, rfl⟩ : ∃ wa : World, wa = wr := ⟨_, rfl⟩
      obtain ⟨nt, hnt⟩ : ∃ nt, nt = s.nt := ⟨_, rfl⟩
      have HNT := Lib.hid hnt
      have hnt64 : nt ≤ 64 := by rw [hnt]; exact HW.out.n64
      have HC0 : Hid (∀ w', Kp [] w w' → w'.cell? ⟨q, 0, none⟩ = some (.slice (some ⟨z.tb, 0, none⟩) nt z.tc)) := Lib.hid fun w' k => by rw [hnt]; exact (HZ.out.keep0 k).c0
      clear hnt
      go_wp2_with fail
      go_loopg [11] nt (fun gg v wr => ∃ t : Nat, t + gg = nt ∧ v = .int .i64 (t : Int) ∧ Hid (Kp [] w wr))
      case atStart => exact ⟨0, by omega, rfl, H⟩
      case round =>
        clear H c2
        obtain ⟨t, htg, rfl, H⟩ := hrel
        have c0 := HC0.out wr H.out
        by_cases htn : t < nt
        · have ht' : t < s.nt := by have := HNT.out; omega
          have hown := g_Own_ok (HY.out.keep0 H.out) HW.out ht'
          have hdz := HZ.out.tu ht'
          have hu := HZ.out.hu t ht'
          have hv := HZ.out.hv t ht'
          have hla := HZ.out.la t ht'
          obtain ⟨uo, uc, hue, -⟩ := hu.form
          obtain ⟨vo, vc, hve, -⟩ := hv.form
          rw [hue, hve] at hdz
          rw [hue] at hu
          rw [hve] at hv
          have HUV := Lib.hid (And.intro (at_rd hu) (at_rd hv))
          have HDZ := Lib.hid (And.intro hdz.1 hdz.2.1)
          unfold OwIs at hown
          generalize hla1 : (s.A t).length = la at hown HDZ hla
          generalize hll1 : (s.L t).length = ll at hown HDZ hla
          have HLA := Lib.hid (And.intro hla1 hll1)
          clear hdz hu hv hue hve hla1 hll1
          go_wp2_with fail
          refine hown.mono ?_
          rintro e w5 ⟨a1, e1, a2, e2, rfl, hr1, hr2, hk5⟩
          have H5 := Lib.hid (H.out.trans hk5)
          have c0 := HC0.out w5 H5.out
          have d1 := H5.out.cell (by simp) HDZ.out.1
          have d2 := H5.out.cell (by simp) HDZ.out.2
          have hrow1 := row_same w5 (some ⟨a1, 0, none⟩) uo la e1 uc (s.A t) (at_rd hr1) (HUV.out.1.keep0 H5.out) HLA.out.1 (by omega)
          have HROW2 : Hid (∀ w6, Kp [] w5 w6 → Calls Tryz.prog 53 #[.slice (some ⟨a2, 0, none⟩) ll e2, .slice vo ll vc] w6 fun e w' => e = .returned (.bool true) ∧ Kp [] w6 w') := Lib.hid fun w6 k6 =>
            row_same w6 (some ⟨a2, 0, none⟩) vo ll e2 vc (s.L t) ((at_rd hr2).keep0 k6) ((HUV.out.2.keep0 H5.out).keep0 k6) HLA.out.2 (by omega)
          clear H hown hk5 hr1 hr2
          go_wp2_with fail
          refine hrow1.mono ?_
          rintro e w6 ⟨rfl, hk6⟩
          have H6 := Lib.hid (H5.out.trans hk6)
          have c0' := HC0.out w6 H6.out
          have d1' := H6.out.cell (by simp) HDZ.out.1
          have d2' := H6.out.cell (by simp) HDZ.out.2
          have hrow2 := HROW2.out w6 hk6
          clear hrow1 hk6 HROW2 c0 d1 d2
          go_wp2_with fail
          refine hrow2.mono ?_
          rintro e w7 ⟨rfl, hk7⟩
          have H7 := Lib.hid (H6.out.trans hk7)
          clear hrow2 hk7 c0' d1' d2' HDZ HUV
          go_wp2_with fail
          go_roundg (nt - (t + 1))
          case measure => omega
          case rel => exact ⟨t + 1, by omega, by go_num, H7⟩
        · have hnn : ¬ ((t : Int) < (nt : Int)) := by omega
          have hlo := g_Own_no (HY.out.keep0 H.out) (t := -1) (by simp [bT])
          have HHI : Hid (∀ w', Kp [] w w' → Calls Tryz.prog 54 #[.pointer (some ⟨p, 0, none⟩), .int .i64 (nt : Int)] w' (Fail w' (.tuple #[.slice none 0 0, .slice none 0 0, .int .i64 2]))) := Lib.hid fun w' k => g_Own_no (HY.out.keep0 k) (by rw [HNT.out]; simp [bT])
          go_wp2_with fail
          refine hlo.mono ?_
          rintro e w5 ⟨rfl, hk5⟩
          have H5 := Lib.hid (H.out.trans hk5)
          have c0' := HC0.out w5 H5.out
          have hhi := HHI.out w5 H5.out
          clear hlo hk5 H c0 HHI
          go_wp2_with fail
          refine hhi.mono ?_
          rintro e w6 ⟨rfl, hk6⟩
          have H6 := Lib.hid (H5.out.trans hk6)
          have h8 := HW.out.g8
          have HGL : Hid (∀ w', Kp [] w w' → Calls Tryz.prog 55 #[.pointer (some ⟨p, 0, none⟩)] w' fun e w2 => ∃ g c, e = .returned (.slice (some ⟨g, 0, none⟩) (s.R 0).length c) ∧ Ro 3 .i64 w2 g (s.R 0) ∧ Kp [] w' w2) := Lib.hid fun w' k => g_Globals (HY.out.keep0 k) HW.out
          have HRO : Hid (∀ w', Kp [] w w' → Ro 3 .i64 w' (z.ig 0) (s.R 0)) := Lib.hid fun w' k => (HZ.out.keep0 k).hi 0 (Nat.zero_le _) |>.1
          have HS : Hid (∀ w', Kp [] w w' → w'.cell? ⟨q, 1, none⟩ = some (.slice (some ⟨z.ig 0, 0, none⟩) (s.R 0).length (z.ic 0)) ∧ Kp [] w w') := Lib.hid fun w' k => ⟨(HZ.out.keep0 k).c1, k⟩
          generalize z.ig 0 = zi at HRO HS
          generalize z.ic 0 = zc at HS
          generalize s.R 0 = R0 at HGL HRO HS h8
          generalize hl0 : R0.length = l0 at HGL HS h8
          have HL0 := Lib.hid hl0
          clear hhi hk6 H5 c0' hl0
          go_wp2_with fail
          go_region_held3 (fun w' => w'.cell? ⟨q, 1, none⟩ = some (.slice (some ⟨zi, 0, none⟩) l0 zc) ∧ Kp [] w w')
            (first
              | exact HS.out _ H6.out.drew
              | exact HS.out _ ((‹_ ∧ Kp [] w _›).2.trans hk))
            (first
              | (go_at_call 55
                 refine (HGL.out _ (‹_ ∧ Kp [] w _›).2).mono ?_
                 rintro e w8 ⟨g8, c8, rfl, hr8, hk⟩
                 have H8 := Lib.hid hr8
                 clear hr8)
              | (go_at_call 53
                 refine (row_same _ (some ⟨g8, 0, none⟩) (some ⟨zi, 0, none⟩) l0 c8 zc R0 (at_ro H8.out) (at_ro (HRO.out _ (‹_ ∧ Kp [] w _›).2)) HL0.out (by omega)).mono ?_
                 rintro e w9 ⟨rfl, hk⟩))
          all_goals
            have hfin := Lib.hid (‹_ ∧ Kp [] w _›).2
            go_wp2_with fail
            go_ret
            exact ⟨rfl, hfin.out⟩

end Go.Proofs.YtmbhhadghiojeaaGreat
