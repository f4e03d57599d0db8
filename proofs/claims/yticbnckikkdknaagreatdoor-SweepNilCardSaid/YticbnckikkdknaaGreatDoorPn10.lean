/- The walks of the document's own heap (demesneref15), on: Back, its entries. The walks of the document's own heap (demesneref15), on: Entry. The walks of the document's own heap (demesneref15), on: Waiting. The document's own list (demesneref07): its rows as the walks hold them; Has. The document's own list (demesneref07): Pop and Push. Conditions: as each theorem states them. -/
import Derived.Laws.Tables
import Derived.Test.YticbnckikkdknaaGreatDoorPn05
import Derived.Test.YticbnckikkdknaaGreatDoorPn09
namespace Go.Proofs.YticbnckikkdknaaGreatDoor
set_option linter.unusedVariables false
set_option linter.unusedSimpArgs false
set_option maxRecDepth 100000
open Go.RowKit
variable {Bz : Nat}

section
variable {T G n b c : Nat} {H : List Int} {w w' : World}
set_option maxHeartbeats 4000000 in
theorem d_back (h : Dh Bz T G n b c H w) (bl run : Nat) (hr : 1 ≤ run ∧ run ≤ 3) (hb : bl + run ≤ n) :
    Calls Tryz.prog 89 #[hV b c H.length T G n, .int .i64 bl, .int .i64 run] w fun e w' => ∃ b' c', e = .returned (hV b' c' H.length T G n) ∧ Dh Bz T G n b' c' (backH T G n H bl run) w' ∧ Kp [] w w' := by
  have HEn := Lib.hid (fun (j : Nat) (w : World) (hj : j < n) => Ly.rentry_is T G n j ((3 + T + G + j : Nat) : Int) w (by rw [Ly.rowP_in (by omega) (by omega)]; omega) (by omega) (by have := h.hT; omega) (by omega) (by have := h.hG; omega) (by omega) (by have := h.hn; omega))
  have HWt : Hid (∀ (i b' c' : Nat) (w' : World), i < run → Dh Bz T G n b' c' (zer H (3 + T + G + bl) i) w' → Calls Tryz.prog 49 #[hV b' c' H.length T G n, .int .i64 ((3 + T + G + (bl + i) : Nat) : Int), .int .u64 0] w' fun e w2 => ∃ b2 c2, e = .returned (hV b2 c2 H.length T G n) ∧ Dh Bz T G n b2 c2 (zer H (3 + T + G + bl) (i + 1)) w2 ∧ Kp [] w' w2) := by
    refine Lib.hid fun i b' c' w' hi hd => ?_
    have hl := hd.len
    have := hd.with (k := 3 + T + G + (bl + i)) (by omega) (x := 0) (by decide) (by decide)
    rw [zer_len] at this
    have hz := zer_up H (3 + T + G + bl) i
    rw [show 3 + T + G + bl + i = 3 + T + G + (bl + i) from by omega] at hz
    rw [hz] at this
    exact this
  have HK0 := Lib.hid (clw_kp w b c H.length T G n)
  have HR0 := Lib.hid (clw_rows w b c H.length T G n)
  have hn64 := h.hn
  have HA : Hid (∃ b' c', (clw w b c H.length T G n).heap[w.heap.size]? = some (.cells #[.slice (some ⟨b', 0, none⟩) H.length c', .int .i64 T, .int .i64 G, .int .i64 n] 40 (0, 0)) ∧ Dh Bz T G n b' c' (zer H (3 + T + G + bl) 0) (clw w b c H.length T G n) ∧ Kp [] w (clw w b c H.length T G n) ∧ (clw w b c H.length T G n).heap[w.heap.size + 1]? = some (.cells #[.slice none 0 0, .int .i64 0, .int .i64 0, .int .i64 0] 40 (0, 0))) :=
    Lib.hid ⟨b, c, HR0.out.1, by rw [zer_none]; exact h.on HK0.out, HK0.out, HR0.out.2⟩
  have HD := Lib.hid h
  generalize hN : H.length = N at HWt HK0 HR0 HA ⊢
  have HN := Lib.hid hN
  have HBl := Lib.hid hb
  have hr3 := hr.2
  have hr1 := hr.1
  unfold clw at HA
  clear h hN hr HK0 HR0
  go_enter Tryz.func89, Tryz.ntmps89
  go_wp2_with fail
  go_loopg [7] run (fun gg v7 wr => ∃ i : Nat, i + gg = run ∧ v7 = .int .i64 i ∧ Hid (∃ b' c', wr.heap[w.heap.size]? = some (.cells #[.slice (some ⟨b', 0, none⟩) N c', .int .i64 T, .int .i64 G, .int .i64 n] 40 (0, 0)) ∧ Dh Bz T G n b' c' (zer H (3 + T + G + bl) i) wr ∧ Kp [] w wr ∧ wr.heap[w.heap.size + 1]? = some (.cells #[.slice none 0 0, .int .i64 0, .int .i64 0, .int .i64 0] 40 (0, 0))))
  case atStart => exact ⟨0, by omega, rfl, HA⟩
  case round =>
    obtain ⟨i, hi, rfl, HR⟩ := hrel
    obtain ⟨b1, c1, hrow, hd, hkk, hres⟩ := HR.out
    by_cases hlt : i < run
    · obtain ⟨j, hj⟩ : ∃ j, j = bl + i := ⟨_, rfl⟩
      have e1 : (bl : Int) + i = (j : Int) := by omega
      have e2 := IntWalk.i64_in (j : Int) (by omega)
      have HEj := Lib.hid (fun w => HEn.out j w (by omega))
      have HWj := Lib.hid (fun w' kk => HWt.out i b1 c1 w' hlt (hd.on kk))
      rw [← hj] at HWj
      generalize 3 + T + G + j = P at HEj HWj
      have F := Lib.hid (And.intro hrow (And.intro hkk hres))
      have a0 := (cell_of_row hrow 0).trans (show _ = some (.slice (some ⟨b1, 0, none⟩) N c1) from rfl)
      have a1 := (cell_of_row hrow 1).trans (show _ = some (.int .i64 T) from rfl)
      have a2 := (cell_of_row hrow 2).trans (show _ = some (.int .i64 G) from rfl)
      have a3 := (cell_of_row hrow 3).trans (show _ = some (.int .i64 n) from rfl)
      clear hj hrow hd hkk hres
      go_upto_region 4 with (fail)
      go_region_with (first
        | (go_at_call 84
           refine (HEj.out _).mono ?_
           rintro e w5 ⟨rfl, hk9⟩
           have K5 : Hid (Kp [] wr w5) := Lib.hid (by refine Kp.trans ?_ hk9; exact ⟨rfl, rfl, rfl, Nat.le_refl _, fun _ _ _ => rfl⟩)
           have hr5 := K5.out.row (by simp) F.out.1
           have q0 := (cell_of_row hr5 0).trans (show _ = some (.slice (some ⟨b1, 0, none⟩) N c1) from rfl)
           have q1 := (cell_of_row hr5 1).trans (show _ = some (.int .i64 T) from rfl)
           have q2 := (cell_of_row hr5 2).trans (show _ = some (.int .i64 G) from rfl)
           have q3 := (cell_of_row hr5 3).trans (show _ = some (.int .i64 n) from rfl)
           clear hk9 hr5)
        | (go_at_call 49
           refine (HWj.out _ ?_).mono ?_
           · exact K5.out.trans ⟨rfl, rfl, rfl, Nat.le_refl _, fun _ _ _ => rfl⟩
           rintro e w7 ⟨b2, c2, rfl, hd7, hk9⟩
           have K7 : Hid (Kp [] wr w7) := Lib.hid (K5.out.trans (by refine Kp.trans ?_ hk9; exact ⟨rfl, rfl, rfl, Nat.le_refl _, fun _ _ _ => rfl⟩))
           have hr7 := K7.out.row (by simp) F.out.1
           have s0 := (cell_of_row hr7 0).trans (show _ = some (.slice (some ⟨b1, 0, none⟩) N c1) from rfl)
           have s1 := (cell_of_row hr7 1).trans (show _ = some (.int .i64 T) from rfl)
           have s2 := (cell_of_row hr7 2).trans (show _ = some (.int .i64 G) from rfl)
           have s3 := (cell_of_row hr7 3).trans (show _ = some (.int .i64 n) from rfl)
           have g0 := free_of_row hr7 0
           have g1 := free_of_row hr7 1
           have g2 := free_of_row hr7 2
           have g3 := free_of_row hr7 3
           have HR7 := Lib.hid hr7
           have HD7 := Lib.hid hd7
           clear hk9 hr7 hd7))
      all_goals
        clear a0 a1 a2 a3
        have k9 := put4v_kp w7 w.heap.size (.slice (some ⟨b2, 0, none⟩) N c2) (.int .i64 T) (.int .i64 G) (.int .i64 n)
        have r9 := put4v_row (.slice (some ⟨b2, 0, none⟩) N c2) (.int .i64 T) (.int .i64 G) (.int .i64 n) HR7.out
        have s9 := k9.row (by simp) (K7.out.row (by simp) F.out.2.2)
        have kk9 := kp_new_set (F.out.2.1.trans K7.out) k9 (Nat.le_refl _)
        have d9 := HD7.out.box (v0 := .slice (some ⟨b2, 0, none⟩) N c2) (v1 := .int .i64 T) (v2 := .int .i64 G) (v3 := .int .i64 n) HR7.out
        have HC := Lib.hid (And.intro r9 (And.intro d9 (And.intro kk9 s9)))
        clear k9 r9 s9 d9 kk9
        go_wp2_with fail
        go_roundg (run - (i + 1))
        case rel =>
          first
            | exact ⟨i + 1, by omega, by go_num, Lib.hid ⟨b2, c2, HC.out.1, HC.out.2.1, HC.out.2.2.1, HC.out.2.2.2⟩⟩
            | exact ⟨i + 1, by omega, by go_num, Lib.hid ⟨b2, c2, HC.out.1, HC.out.2.1.on ((Kp.refl [] _).drew), HC.out.2.2.1.drew, HC.out.2.2.2⟩⟩
        case measure => omega
    · obtain rfl : i = run := by omega
      have hx0 := HD.out.ok 0
      obtain ⟨M, hM⟩ := Int.eq_ofNat_of_zero_le hx0.1
      have hMz : (zer H (3 + T + G + bl) i).getD 0 0 = (M : Int) := by rw [zer_get, if_neg (by omega), hM]
      have hl0 : 0 < (zer H (3 + T + G + bl) i).length := by rw [zer_len, HN.out]; have := HD.out.len; have := HN.out; omega
      have c5 : wr.cell? ⟨b1, 0, none⟩ = some (.int .u64 M) := by rw [hd.cell hl0, hMz]
      obtain ⟨q, hq⟩ : ∃ q, Bm.isR M bl i false = q := ⟨_, rfl⟩
      have HIs := Lib.hid (fun w => Bm.ris_is M bl i false q w (by omega) hq)
      have HMt : Hid ((H.getD 0 0).toNat = M) := Lib.hid (by rw [hM]; rfl)
      have HBk0 : Hid (backH T G n H bl i = (zer H (3 + T + G + bl) i).set 0 (giveM M bl i : Int)) := Lib.hid (by unfold backH; rw [if_pos (runG_iff.2 (by have := HBl.out; omega)), HMt.out]; rfl)
      have F := Lib.hid (And.intro hrow (And.intro hd (And.intro hkk hres)))
      have hln : (zer H (3 + T + G + bl) i).length = N := by rw [zer_len, HN.out]
      have hbn := HBl.out
      have hN0 : 0 < N := by omega
      cases q
      · have HBk : Hid (backH T G n H bl i = zer H (3 + T + G + bl) i) := Lib.hid (by
          rw [HBk0.out]; unfold giveM; rw [if_neg (by rw [hq]; simp), ← hMz, set_same'])
        have a0 := (cell_of_row hrow 0).trans (show _ = some (.slice (some ⟨b1, 0, none⟩) N c1) from rfl)
        have a1 := (cell_of_row hrow 1).trans (show _ = some (.int .i64 T) from rfl)
        have a2 := (cell_of_row hrow 2).trans (show _ = some (.int .i64 G) from rfl)
        have a3 := (cell_of_row hrow 3).trans (show _ = some (.int .i64 n) from rfl)
        clear hx0 hM hMz hl0 hq hrow hd hkk hres hln hbn HBk0
        go_wp2_with fail
        refine (HIs.out _).mono ?_
        rintro e w1 ⟨rfl, hk1⟩
        have K1 := Lib.hid hk1
        have hro1 := hk1.row (by simp) F.out.1
        have hs1 := hk1.row (by simp) F.out.2.2.2
        have d0 := (cell_of_row hro1 0).trans (show _ = some (.slice (some ⟨b1, 0, none⟩) N c1) from rfl)
        have d1 := (cell_of_row hro1 1).trans (show _ = some (.int .i64 T) from rfl)
        have d2 := (cell_of_row hro1 2).trans (show _ = some (.int .i64 G) from rfl)
        have d3 := (cell_of_row hro1 3).trans (show _ = some (.int .i64 n) from rfl)
        have z0 := (cell_of_row hs1 0).trans (show _ = some (.slice none 0 0) from rfl)
        have z1 := (cell_of_row hs1 1).trans (show _ = some (.int .i64 0) from rfl)
        have z2 := (cell_of_row hs1 2).trans (show _ = some (.int .i64 0) from rfl)
        have z3 := (cell_of_row hs1 3).trans (show _ = some (.int .i64 0) from rfl)
        have y0 := free_of_row hs1 0
        have y1 := free_of_row hs1 1
        have y2 := free_of_row hs1 2
        have y3 := free_of_row hs1 3
        have HS1 := Lib.hid hs1
        clear hk1 hro1 hs1 a0 a1 a2 a3 c5
        go_wp2_with fail
        exact bodyPost_row rfl (w.heap.size + 1) 40 #[.slice (some ⟨b1, 0, none⟩) N c1, .int .i64 T, .int .i64 G, .int .i64 n] (0, 0) _ rfl rfl (put4v_row _ _ _ _ HS1.out) Tryz.underlying40 rfl (by kernel_rfl) ⟨b1, c1, rfl, by rw [HBk.out]; exact (F.out.2.1.on K1.out).box HS1.out, kp_new_set (F.out.2.2.1.trans K1.out) (put4v_kp _ _ _ _ _ _) (by omega)⟩
      · have HBk : Hid (backH T G n H bl i = (zer H (3 + T + G + bl) i).set 0 (Bm.setN M bl i true : Int)) := Lib.hid (by
          rw [HBk0.out]; unfold giveM; rw [if_pos hq])
        have hsl := Bm.setN_lt M bl i true
        have HBw := Lib.hid (fun w => Bm.rwith_is M bl i (Bm.setN M bl i true) true w (by omega) (by omega) (by omega) (by omega) rfl)
        have HWt2 : Hid (∀ w', Kp [] wr w' → Calls Tryz.prog 49 #[hV b1 c1 N T G n, .int .i64 0, .int .u64 (Bm.setN M bl i true : Int)] w' fun e w2 => ∃ b2 c2, e = .returned (hV b2 c2 N T G n) ∧ Dh Bz T G n b2 c2 ((zer H (3 + T + G + bl) i).set 0 (Bm.setN M bl i true : Int)) w2 ∧ Kp [] w' w2) := by
          refine Lib.hid fun w' kk => ?_
          have := (F.out.2.1.on kk).with (k := 0) hl0 (x := (Bm.setN M bl i true : Int)) (by omega) (by omega)
          rw [hln] at this
          exact this
        have HC5 : Hid (∀ w', Kp [] wr w' → w'.cell? ⟨b1, 0, none⟩ = some (.int .u64 M)) := Lib.hid fun w' kk => by rw [(F.out.2.1.on kk).cell hl0, hMz]
        have HB1 : Hid (b1 ≠ w.heap.size) := Lib.hid (fun e => by
          have h1 := (F.out.2.1.ww.heap hl0).2
          obtain ⟨cur, hc, _⟩ := h1
          rw [e, F.out.1] at hc
          simp at hc)
        generalize Bm.setN M bl i true = M2 at HBw HWt2 HBk
        have a0 := (cell_of_row hrow 0).trans (show _ = some (.slice (some ⟨b1, 0, none⟩) N c1) from rfl)
        have a1 := (cell_of_row hrow 1).trans (show _ = some (.int .i64 T) from rfl)
        have a2 := (cell_of_row hrow 2).trans (show _ = some (.int .i64 G) from rfl)
        have a3 := (cell_of_row hrow 3).trans (show _ = some (.int .i64 n) from rfl)
        clear hx0 hM hMz hl0 hq hrow hd hkk hres hln hbn HBk0 hsl
        go_wp2_with fail
        refine (HIs.out _).mono ?_
        rintro e w1 ⟨rfl, hk1⟩
        have K1 := Lib.hid hk1
        have hro1 := hk1.row (by simp) F.out.1
        have c6 := HC5.out _ K1.out
        have d0 := (cell_of_row hro1 0).trans (show _ = some (.slice (some ⟨b1, 0, none⟩) N c1) from rfl)
        have d1 := (cell_of_row hro1 1).trans (show _ = some (.int .i64 T) from rfl)
        have d2 := (cell_of_row hro1 2).trans (show _ = some (.int .i64 G) from rfl)
        have d3 := (cell_of_row hro1 3).trans (show _ = some (.int .i64 n) from rfl)
        have HRo1 := Lib.hid hro1
        clear hk1 hro1 a0 a1 a2 a3 c5
        go_upto_region 6 with (fail)
        go_region_with (first
          | (go_at_call 130
             refine (HBw.out _).mono ?_
             rintro e w6 ⟨rfl, hk9⟩
             have K6 : Hid (Kp [] w1 w6) := Lib.hid (by refine Kp.trans ?_ hk9; exact ⟨rfl, rfl, rfl, Nat.le_refl _, fun _ _ _ => rfl⟩)
             have hr6 := K6.out.row (by simp) HRo1.out
             have q0 := (cell_of_row hr6 0).trans (show _ = some (.slice (some ⟨b1, 0, none⟩) N c1) from rfl)
             have q1 := (cell_of_row hr6 1).trans (show _ = some (.int .i64 T) from rfl)
             have q2 := (cell_of_row hr6 2).trans (show _ = some (.int .i64 G) from rfl)
             have q3 := (cell_of_row hr6 3).trans (show _ = some (.int .i64 n) from rfl)
             clear hk9 hr6)
          | (go_at_call 49
             refine (HWt2.out _ ?_).mono ?_
             · exact K1.out.trans (K6.out.trans ⟨rfl, rfl, rfl, Nat.le_refl _, fun _ _ _ => rfl⟩)
             rintro e w7 ⟨b2, c2, rfl, hd7, hk9⟩
             have K7 : Hid (Kp [] w1 w7) := Lib.hid (K6.out.trans (by refine Kp.trans ?_ hk9; exact ⟨rfl, rfl, rfl, Nat.le_refl _, fun _ _ _ => rfl⟩))
             have hr7 := K7.out.row (by simp) HRo1.out
             have s0 := (cell_of_row hr7 0).trans (show _ = some (.slice (some ⟨b1, 0, none⟩) N c1) from rfl)
             have s1 := (cell_of_row hr7 1).trans (show _ = some (.int .i64 T) from rfl)
             have s2 := (cell_of_row hr7 2).trans (show _ = some (.int .i64 G) from rfl)
             have s3 := (cell_of_row hr7 3).trans (show _ = some (.int .i64 n) from rfl)
             have g0 := free_of_row hr7 0
             have g1 := free_of_row hr7 1
             have g2 := free_of_row hr7 2
             have g3 := free_of_row hr7 3
             have HR7 := Lib.hid hr7
             have HD7 := Lib.hid hd7
             clear hk9 hr7 hd7))
        all_goals
          have k9 := put4v_kp w7 w.heap.size (.slice (some ⟨b2, 0, none⟩) N c2) (.int .i64 T) (.int .i64 G) (.int .i64 n)
          have r9 := put4v_row (.slice (some ⟨b2, 0, none⟩) N c2) (.int .i64 T) (.int .i64 G) (.int .i64 n) HR7.out
          have s9 := k9.row (by simp) ((K1.out.trans K7.out).row (by simp) F.out.2.2.2)
          have kk9 := kp_new_set (F.out.2.2.1.trans (K1.out.trans K7.out)) k9 (Nat.le_refl _)
          have d9 := HD7.out.box (v0 := .slice (some ⟨b2, 0, none⟩) N c2) (v1 := .int .i64 T) (v2 := .int .i64 G) (v3 := .int .i64 n) HR7.out
          go_upto_region 7 with (fail)
          obtain ⟨w8, hw8, k8, r8, s8, d8⟩ : ∃ w8, w8 = put4v w7 w.heap.size (.slice (some ⟨b2, 0, none⟩) N c2) (.int .i64 T) (.int .i64 G) (.int .i64 n) ∧ Kp [] w w8 ∧ w8.heap[w.heap.size]? = some (.cells #[.slice (some ⟨b2, 0, none⟩) N c2, .int .i64 T, .int .i64 G, .int .i64 n] 40 (0, 0)) ∧ w8.heap[w.heap.size + 1]? = some (.cells #[.slice none 0 0, .int .i64 0, .int .i64 0, .int .i64 0] 40 (0, 0)) ∧ Dh Bz T G n b2 c2 ((zer H (3 + T + G + bl) i).set 0 (M2 : Int)) w8 := ⟨_, rfl, kk9, r9, s9, d9⟩
          unfold put4v at hw8
          rw [← hw8]
          have K8 := Lib.hid (And.intro k8 (And.intro s8 d8))
          have u0 := (cell_of_row r8 0).trans (show _ = some (.slice (some ⟨b2, 0, none⟩) N c2) from rfl)
          have u1 := (cell_of_row r8 1).trans (show _ = some (.int .i64 T) from rfl)
          have u2 := (cell_of_row r8 2).trans (show _ = some (.int .i64 G) from rfl)
          have u3 := (cell_of_row r8 3).trans (show _ = some (.int .i64 n) from rfl)
          have z0 := (cell_of_row s8 0).trans (show _ = some (.slice none 0 0) from rfl)
          have z1 := (cell_of_row s8 1).trans (show _ = some (.int .i64 0) from rfl)
          have z2 := (cell_of_row s8 2).trans (show _ = some (.int .i64 0) from rfl)
          have z3 := (cell_of_row s8 3).trans (show _ = some (.int .i64 0) from rfl)
          have y0 := free_of_row s8 0
          have y1 := free_of_row s8 1
          have y2 := free_of_row s8 2
          have y3 := free_of_row s8 3
          clear k9 r9 s9 kk9 d9 hw8 k8 r8 s8 d8 g0 g1 g2 g3 s0 s1 s2 s3 q0 q1 q2 q3 d0 d1 d2 d3 c6
          go_wp2_with fail
          exact bodyPost_row rfl (w.heap.size + 1) 40 #[.slice (some ⟨b2, 0, none⟩) N c2, .int .i64 T, .int .i64 G, .int .i64 n] (0, 0) _ rfl rfl (put4v_row _ _ _ _ K8.out.2.1) Tryz.underlying40 rfl (by kernel_rfl) ⟨b2, c2, rfl, by rw [HBk.out]; exact K8.out.2.2.box K8.out.2.1, kp_new_set K8.out.1 (put4v_kp _ _ _ _ _ _) (by omega)⟩
end

end Go.Proofs.YticbnckikkdknaaGreatDoor

namespace Go.Proofs.YticbnckikkdknaaGreatDoor
set_option linter.unusedVariables false
set_option linter.unusedSimpArgs false
set_option maxRecDepth 100000
open Go.RowKit
variable {Bz : Nat}

section
variable {T G n b c : Nat} {H : List Int} {w w' : World}

/-- Entry's boxes: the heap's, the answer's. -/
def ew (w : World) (b c N T G n : Nat) : World := (w.alloc (.cells #[.slice (some ⟨b, 0, none⟩) N c, .int .i64 T, .int .i64 G, .int .i64 n] 40)).alloc (.cells (cs4 0 0 0 0) 115)
theorem ew_kp (w : World) (b c N T G n : Nat) : Kp [] w (ew w b c N T G n) := ((Kp.refl _ _).alloc _).alloc _
theorem ew_rows (w : World) (b c N T G n : Nat) : (ew w b c N T G n).heap[w.heap.size]? = some (.cells #[.slice (some ⟨b, 0, none⟩) N c, .int .i64 T, .int .i64 G, .int .i64 n] 40 (0, 0)) ∧ (ew w b c N T G n).heap[w.heap.size + 1]? = some (.cells (cs4 0 0 0 0) 115 (0, 0)) := by
  have z1 := World.size_alloc w (.cells #[.slice (some ⟨b, 0, none⟩) N c, .int .i64 T, .int .i64 G, .int .i64 n] 40)
  exact ⟨((Kp.refl [] _).alloc _).row (by simp) (heap_alloc_new w _), by rw [← z1]; exact heap_alloc_new _ _⟩
/-- What is known once the entry lies in a box of its own. -/
structure PD (w0 W0 : World) (b : Nat) (k c r' o : Int) (wc : World) : Prop where
  kp : Kp [] W0 wc
  hb : wc.heap[b]? = some (.cells (cs4 k c r' o) 115 (0, 0))
  ho : wc.heap[w0.heap.size + 1]? = some (.cells (cs4 0 0 0 0) 115 (0, 0))
  ge : W0.heap.size ≤ b
theorem PD.make1 {w0 W0 w4 : World} {k c r' o : Int} (hk : Kp [] W0 w4) (ho : w4.heap[w0.heap.size + 1]? = some (.cells (cs4 0 0 0 0) 115 (0, 0))) :
    PD w0 W0 w4.heap.size k c r' o (w4.alloc (.cells (cs4 k c r' o) 115)) :=
  ⟨hk.alloc _, heap_alloc_new _ _, ((Kp.refl [] w4).alloc _).row (by simp) ho, hk.size⟩
theorem PD.make2 {w0 W0 w4 : World} {k c r' o : Int} {b : Nat} (hk : Kp [] W0 w4) (ho : w4.heap[w0.heap.size + 1]? = some (.cells (cs4 0 0 0 0) 115 (0, 0))) (hb : w4.heap[b]? = some (.cells (cs4 0 0 0 0) 115 (0, 0))) (hge : W0.heap.size ≤ b) (hz : w0.heap.size + 1 < W0.heap.size) :
    PD w0 W0 b k c r' o (put4 w4 b k c r' o) :=
  ⟨kp_new_set hk (put4_kp _ _ _ _ _ _) hge, put4_row _ _ _ _ hb, (put4_kp _ _ _ _ _ _).row (by simp; omega) ho, hge⟩

set_option maxHeartbeats 8000000 in
theorem d_entry (h : Dh Bz T G n b c H w) (i : Nat) (hi : i < n) (x : Int) (hx : H.getD (3 + T + G + i) 0 = x) :
    Calls Tryz.prog 46 #[hV b c H.length T G n, .int .i64 i] w fun e w' => e = .returned (.agg #[.int .u8 (ek x), .int .u8 (ec x), .int .u8 (er x), .int .u8 (eo x)]) ∧ Kp [] w w' := by
  have HEn := Lib.hid (fun w => Ly.rentry_is T G n i ((3 + T + G + i : Nat) : Int) w (by rw [Ly.rowP_in (by omega) (by omega)]; omega) (by omega) (by have := h.hT; omega) (by omega) (by have := h.hG; omega) (by omega) (by have := h.hn; omega))
  have hx0 := h.ok (3 + T + G + i)
  rw [hx] at hx0
  have HTk := Lib.hid (fun w => rtake_part x w hx0.1 hx0.2)
  have hlt : 3 + T + G + i < H.length := by have := h.len; omega
  have HWc := Lib.hid (fun (w' : World) (kk : Kp [] w w') => ((h.on kk).cell hlt).trans (congrArg (fun z => some (Value.int .u64 z)) hx))
  have HK0 := Lib.hid (ew_kp w b c H.length T G n)
  have HR0 := Lib.hid (ew_rows w b c H.length T G n)
  generalize 3 + T + G + i = P at HEn HWc hlt
  generalize H.length = N at HK0 HR0 hlt ⊢
  obtain ⟨W0, hW0⟩ : ∃ W0, W0 = ew w b c N T G n := ⟨_, rfl⟩
  rw [← hW0] at HK0 HR0
  unfold ew cs4 at hW0
  have HS0 : Hid (Hs4 w.heap.size b c N T G n W0) := Lib.hid ⟨cell_of_row HR0.out.1 0, cell_of_row HR0.out.1 1, cell_of_row HR0.out.1 2, cell_of_row HR0.out.1 3⟩
  have HW0 := Lib.hid hW0
  have HZ : Hid (w.heap.size + 1 < W0.heap.size) := Lib.hid (lt_of_block HR0.out.2)
  clear h hi hx hx0 hW0
  generalize ek x = xk at HTk ⊢
  generalize ec x = xc at HTk ⊢
  generalize er x = xr at HTk ⊢
  generalize eo x = xo at HTk ⊢
  generalize ee x = xe at HTk
  go_enter Tryz.func46, Tryz.ntmps46
  go_upto_region 1 with (fail)
  rw [← HW0.out]
  go_cut [5] (fun v5 wc => ∃ bb, v5 = .pointer (some ⟨bb, 0, none⟩) ∧ Hid (PD w W0 bb xk xc xr xo wc))
  case first =>
    obtain ⟨a0, a1, a2, a3⟩ := HS0.out
    have kA : Kp [] W0 (W0.alloc (.cells (cs4 0 0 0 0) 115)) := (Kp.refl [] W0).alloc _
    obtain ⟨z0, z1, z2, z3⟩ := HS0.out.keep kA (by simp)
    unfold cs4 at z0 z1 z2 z3
    clear kA
    go_region_with (first
      | (go_at_call 84
         refine (HEn.out _).mono ?_
         rintro e w5 ⟨rfl, hk⟩
         try replace hk := hk.drew_l
         try have B7 := hk.row (by simp) (heap_alloc_new _ _)
         have K5 : Hid (Kp [] W0 w5) := Lib.hid (by refine Kp.trans ?_ hk; first | exact ⟨rfl, rfl, rfl, Nat.le_refl _, fun _ _ _ => rfl⟩ | exact Kp.alloc ⟨rfl, rfl, rfl, Nat.le_refl _, fun _ _ _ => rfl⟩ _)
         have c5 := HWc.out _ (HK0.out.trans K5.out)
         have c5a := HWc.out _ (HK0.out.trans (K5.out.alloc (.cells #[.int .u8 0, .int .u8 0, .int .u8 0, .int .u8 0] 115)))
         obtain ⟨a0', a1', a2', a3'⟩ := HS0.out.keep K5.out (by simp)
         obtain ⟨y0, y1, y2, y3⟩ := HS0.out.keep (K5.out.alloc (.cells #[.int .u8 0, .int .u8 0, .int .u8 0, .int .u8 0] 115)) (by simp)
         clear hk)
      | (go_at_call 83
         refine (HTk.out _).mono ?_
         rintro e w6 ⟨rfl, hk⟩
         try replace hk := hk.drew_l
         try have B7 := hk.row (by simp) B7
         try have B7 := hk.row (by simp) (heap_alloc_new _ _)
         try have e70 := (cell_of_row B7 0).trans (show _ = some (.int .u8 0) from rfl)
         try have e71 := (cell_of_row B7 1).trans (show _ = some (.int .u8 0) from rfl)
         try have e72 := (cell_of_row B7 2).trans (show _ = some (.int .u8 0) from rfl)
         try have e73 := (cell_of_row B7 3).trans (show _ = some (.int .u8 0) from rfl)
         try have f70 := free_of_row B7 0
         try have f71 := free_of_row B7 1
         try have f72 := free_of_row B7 2
         try have f73 := free_of_row B7 3
         have K6 : Hid (Kp [] W0 w6) := Lib.hid (K5.out.trans (by refine Kp.trans ?_ hk; first | exact ⟨rfl, rfl, rfl, Nat.le_refl _, fun _ _ _ => rfl⟩ | exact Kp.alloc ⟨rfl, rfl, rfl, Nat.le_refl _, fun _ _ _ => rfl⟩ _))
         clear hk))
    all_goals go_wp2_with fail
    all_goals go_meet
    all_goals
      have B6 := K6.out.row (by simp) HR0.out.2
      first
        | exact ⟨_, rfl, Lib.hid (PD.make1 K6.out B6)⟩
        | exact ⟨_, rfl, Lib.hid (PD.make2 K6.out B6 B7 (by first | exact Nat.le_refl _ | exact K5.out.size | omega) HZ.out)⟩
  case rest =>
    obtain ⟨bb, rfl, HM⟩ := hcut
    have c0 := (cell_of_row HM.out.hb 0).trans (show _ = some (.int .u8 xk) from rfl)
    have c1 := (cell_of_row HM.out.hb 1).trans (show _ = some (.int .u8 xc) from rfl)
    have c2 := (cell_of_row HM.out.hb 2).trans (show _ = some (.int .u8 xr) from rfl)
    have c3 := (cell_of_row HM.out.hb 3).trans (show _ = some (.int .u8 xo) from rfl)
    have d0 := (cell_of_row HM.out.ho 0).trans (show _ = some (.int .u8 0) from rfl)
    have d1 := (cell_of_row HM.out.ho 1).trans (show _ = some (.int .u8 0) from rfl)
    have d2 := (cell_of_row HM.out.ho 2).trans (show _ = some (.int .u8 0) from rfl)
    have d3 := (cell_of_row HM.out.ho 3).trans (show _ = some (.int .u8 0) from rfl)
    have f0 := free_of_row HM.out.ho 0
    have f1 := free_of_row HM.out.ho 1
    have f2 := free_of_row HM.out.ho 2
    have f3 := free_of_row HM.out.ho 3
    go_wp2_with fail
    exact bodyPost_row rfl (w.heap.size + 1) 115 (cs4 xk xc xr xo) (0, 0) _ rfl rfl (put4_row xk xc xr xo HM.out.ho) Tryz.underlying115 rfl (by kernel_rfl) ⟨rfl, kp_new_set (HK0.out.trans HM.out.kp) (put4_kp _ _ _ _ _ _) (by omega)⟩
end

end Go.Proofs.YticbnckikkdknaaGreatDoor

namespace Go.Proofs.YticbnckikkdknaaGreatDoor
set_option linter.unusedVariables false
set_option linter.unusedSimpArgs false
set_option maxRecDepth 100000
open Go.RowKit
variable {Bz : Nat}

/-- What a block's turn may be. -/
theorem turn_ways (T G n o : Nat) (H : List Int) (i : Nat) (x : Int) (hx : H.getD (3 + T + G + i) 0 = x) :
    ((eo x == (o : Int)) = false ∧ turnH T G n o H i = H) ∨ ((eo x == (o : Int)) = true ∧ ek x = 4 ∧ turnH T G n o H i = backH T G n H i 1) ∨
    ((eo x == (o : Int)) = true ∧ ek x = 5 ∧ ∃ r : Nat, er x = r ∧ 1 ≤ r ∧ r ≤ 3 ∧ turnH T G n o H i = backH T G n H i r) ∨
    ((eo x == (o : Int)) = true ∧ (ek x == 4) = false ∧ (ek x == 5) = false ∧ turnH T G n o H i = H) := by
  cases ho : (eo x == (o : Int))
  · refine .inl ⟨rfl, ?_⟩
    cases hd : decide (ek x = 4 ∨ ek x = 5)
    · exact turn_no hx hd
    · exact turn_other hx hd ho
  · by_cases h4 : ek x = 4
    · refine .inr (.inl ⟨rfl, h4, ?_⟩)
      rw [turn_back hx (by simp [h4]) ho, h4]; rfl
    · by_cases h5 : ek x = 5
      · have hr : 0 < er x ∧ er x ≤ 3 := by
          unfold ek at h5
          unfold er
          cases ht : Tb.takeE x
          · rw [ht] at h5; simp at h5
          · rw [ht] at h5
            simp only [if_true] at h5 ⊢
            have := Tb.mayE_iff.1 (Tb.takeE_may ht)
            omega
        refine .inr (.inr (.inl ⟨rfl, h5, (er x).toNat, by omega, by omega, by omega, ?_⟩))
        rw [turn_back hx (by simp [h5]) ho, h5, show ((er x).toNat : Int) = er x from by omega]; rfl
      · exact .inr (.inr (.inr ⟨rfl, by simpa using h4, by simpa using h5, turn_no hx (by simp [h4, h5])⟩))

section
variable {T G n b c : Nat} {H : List Int} {w w' : World}
set_option maxHeartbeats 8000000 in
theorem d_waiting (h : Dh Bz T G n b c H w) (o : Nat) (ho : o ≤ 255) (hfit : ∀ i, i < n → ek ((waitH T G n o H i).getD (3 + T + G + i) 0) = 5 → (i : Int) + er ((waitH T G n o H i).getD (3 + T + G + i) 0) ≤ n) :
    Calls Tryz.prog 98 #[hV b c H.length T G n, .int .u8 o] w fun e w' => ∃ b' c', e = .returned (hV b' c' H.length T G n) ∧ Dh Bz T G n b' c' (waitH T G n o H n) w' ∧ Kp [] w w' := by
  have HK0 := Lib.hid (clw_kp w b c H.length T G n)
  have HR0 := Lib.hid (clw_rows w b c H.length T G n)
  have hn64 := h.hn
  have HA : Hid (∃ b' c', (clw w b c H.length T G n).heap[w.heap.size]? = some (.cells #[.slice (some ⟨b', 0, none⟩) H.length c', .int .i64 T, .int .i64 G, .int .i64 n] 40 (0, 0)) ∧ Dh Bz T G n b' c' (waitH T G n o H 0) (clw w b c H.length T G n) ∧ Kp [] w (clw w b c H.length T G n) ∧ (clw w b c H.length T G n).heap[w.heap.size + 1]? = some (.cells #[.slice none 0 0, .int .i64 0, .int .i64 0, .int .i64 0] 40 (0, 0))) :=
    Lib.hid ⟨b, c, HR0.out.1, h.on HK0.out, HK0.out, HR0.out.2⟩
  have HLn : Hid (∀ i, (waitH T G n o H i).length = H.length) := Lib.hid fun i => waitH_len _ _
  generalize H.length = N at HK0 HR0 HA HLn ⊢
  unfold clw at HA
  clear h HK0 HR0
  go_enter Tryz.func98, Tryz.ntmps98
  go_wp2_with fail
  go_loopg [5] n (fun gg v5 wr => ∃ i : Nat, i + gg = n ∧ v5 = .int .i64 i ∧ Hid (∃ b' c', wr.heap[w.heap.size]? = some (.cells #[.slice (some ⟨b', 0, none⟩) N c', .int .i64 T, .int .i64 G, .int .i64 n] 40 (0, 0)) ∧ Dh Bz T G n b' c' (waitH T G n o H i) wr ∧ Kp [] w wr ∧ wr.heap[w.heap.size + 1]? = some (.cells #[.slice none 0 0, .int .i64 0, .int .i64 0, .int .i64 0] 40 (0, 0))))
  case atStart => exact ⟨0, by omega, rfl, HA⟩
  case round =>
    obtain ⟨i, hi, rfl, HR⟩ := hrel
    obtain ⟨b1, c1, hrow, hd, hkk, hres⟩ := HR.out
    have F := Lib.hid (And.intro hrow (And.intro hd (And.intro hkk hres)))
    have a0 := (cell_of_row hrow 0).trans (show _ = some (.slice (some ⟨b1, 0, none⟩) N c1) from rfl)
    have a1 := (cell_of_row hrow 1).trans (show _ = some (.int .i64 T) from rfl)
    have a2 := (cell_of_row hrow 2).trans (show _ = some (.int .i64 G) from rfl)
    have a3 := (cell_of_row hrow 3).trans (show _ = some (.int .i64 n) from rfl)
    by_cases hlt : i < n
    · obtain ⟨x, hx⟩ : ∃ x, (waitH T G n o H i).getD (3 + T + G + i) 0 = x := ⟨_, rfl⟩
      have hways := turn_ways T G n o (waitH T G n o H i) i x hx
      have hft := hfit i hlt
      rw [hx] at hft
      have hen := d_entry hd i hlt x hx
      rw [HLn.out i] at hen
      have HEn := Lib.hid hen
      clear hrow hd hkk hres hen hx
      generalize ek x = xk at HEn hways hft
      generalize ec x = xc at HEn
      generalize er x = xr at HEn hways hft
      generalize eo x = xo at HEn hways
      go_wp2_with fail
      refine HEn.out.mono ?_
      rintro e w4 ⟨rfl, hk4⟩
      have kA : Kp [] w4 (w4.alloc (.cells (cs4 xk xc xr xo) 115)) := (Kp.refl _ _).alloc _
      have hz4 := hk4.size
      have hzr : w.heap.size < wr.heap.size := lt_of_block F.out.1
      have heb := heap_alloc_new w4 (.cells (cs4 xk xc xr xo) 115)
      have hro := (hk4.trans kA).row (by simp) F.out.1
      have F5 := Lib.hid (And.intro hro (And.intro (F.out.2.1.on (hk4.trans kA)) (And.intro (F.out.2.2.1.trans (hk4.trans kA)) ((hk4.trans kA).row (by simp) F.out.2.2.2))))
      have HE5 := Lib.hid heb
      have HZ5 : Hid (w.heap.size < w4.heap.size) := Lib.hid (by omega)
      have HBa : Hid (∀ run : Nat, 1 ≤ run ∧ run ≤ 3 → i + run ≤ n → Calls Tryz.prog 89 #[hV b1 c1 N T G n, .int .i64 i, .int .i64 run] (w4.alloc (.cells (cs4 xk xc xr xo) 115)) fun e w' => ∃ b' c', e = .returned (hV b' c' N T G n) ∧ Dh Bz T G n b' c' (backH T G n (waitH T G n o H i) i run) w' ∧ Kp [] (w4.alloc (.cells (cs4 xk xc xr xo) 115)) w') := Lib.hid fun run h1 h2 => by
        have := d_back F5.out.2.1 i run h1 h2
        rwa [HLn.out i] at this
      have x0 := (cell_of_row hro 0).trans (show _ = some (.slice (some ⟨b1, 0, none⟩) N c1) from rfl)
      have x1 := (cell_of_row hro 1).trans (show _ = some (.int .i64 T) from rfl)
      have x2 := (cell_of_row hro 2).trans (show _ = some (.int .i64 G) from rfl)
      have x3 := (cell_of_row hro 3).trans (show _ = some (.int .i64 n) from rfl)
      have t0 := (cell_of_row heb 0).trans (show _ = some (.int .u8 xk) from rfl)
      have t1 := (cell_of_row heb 1).trans (show _ = some (.int .u8 xc) from rfl)
      have t2 := (cell_of_row heb 2).trans (show _ = some (.int .u8 xr) from rfl)
      have t3 := (cell_of_row heb 3).trans (show _ = some (.int .u8 xo) from rfl)
      unfold cs4 at x0 x1 x2 x3 t0 t1 t2 t3 HBa F5 HE5
      clear hk4 kA heb hro a0 a1 a2 a3 hz4 hzr
      rcases hways with ⟨hu, hturn⟩ | ⟨hu, rfl, hturn⟩ | ⟨hu, rfl, r, rfl, h1, h3, hturn⟩ | ⟨hu, hk4', hk5', hturn⟩
      · have HQ := Lib.hid (show waitH T G n o H (i + 1) = waitH T G n o H i from hturn)
        clear hturn
        go_wp2_with fail
        go_roundg (n - (i + 1))
        case rel => exact ⟨i + 1, by omega, by go_num, Lib.hid ⟨b1, c1, F5.out.1, by rw [HQ.out]; exact F5.out.2.1, F5.out.2.2.1, F5.out.2.2.2⟩⟩
        case measure => omega
      · have HQ := Lib.hid (show waitH T G n o H (i + 1) = backH T G n (waitH T G n o H i) i 1 from hturn)
        have HBk := Lib.hid (HBa.out 1 (by omega) (by omega))
        clear hturn
        go_wp2_with fail
        refine HBk.out.mono ?_
        rintro e w6 ⟨b2, c2, rfl, hd6, hk6⟩
        have hro6 := hk6.row (by simp) F5.out.1
        have hre6 := hk6.row (by simp) F5.out.2.2.2
        have heb6 := hk6.row (by simp) HE5.out
        have q0 := (cell_of_row hro6 0).trans (show _ = some (.slice (some ⟨b1, 0, none⟩) N c1) from rfl)
        have q1 := (cell_of_row hro6 1).trans (show _ = some (.int .i64 T) from rfl)
        have q2 := (cell_of_row hro6 2).trans (show _ = some (.int .i64 G) from rfl)
        have q3 := (cell_of_row hro6 3).trans (show _ = some (.int .i64 n) from rfl)
        have g0 := free_of_row hro6 0
        have g1 := free_of_row hro6 1
        have g2 := free_of_row hro6 2
        have g3 := free_of_row hro6 3
        have k9 := put4v_kp w6 w.heap.size (.slice (some ⟨b2, 0, none⟩) N c2) (.int .i64 T) (.int .i64 G) (.int .i64 n)
        have r9 := put4v_row (.slice (some ⟨b2, 0, none⟩) N c2) (.int .i64 T) (.int .i64 G) (.int .i64 n) hro6
        have s9 := k9.row (by simp) hre6
        have h9 := k9.row (by have := HZ5.out; simp; omega) heb6
        have kk9 := kp_new_set (F5.out.2.2.1.trans hk6) k9 (Nat.le_refl _)
        have d9 := hd6.box (v0 := .slice (some ⟨b2, 0, none⟩) N c2) (v1 := .int .i64 T) (v2 := .int .i64 G) (v3 := .int .i64 n) hro6
        have F9 := Lib.hid (And.intro r9 (And.intro d9 (And.intro kk9 s9)))
        have H9 := Lib.hid h9
        have j0 := (cell_of_row h9 0).trans (show _ = some (.int .u8 4) from rfl)
        have j1 := (cell_of_row h9 1).trans (show _ = some (.int .u8 xc) from rfl)
        have j2 := (cell_of_row h9 2).trans (show _ = some (.int .u8 xr) from rfl)
        have j3 := (cell_of_row h9 3).trans (show _ = some (.int .u8 xo) from rfl)
        have j4 := (cell_of_row heb6 0).trans (show _ = some (.int .u8 4) from rfl)
        have j5 := (cell_of_row heb6 1).trans (show _ = some (.int .u8 xc) from rfl)
        have j6 := (cell_of_row heb6 2).trans (show _ = some (.int .u8 xr) from rfl)
        have j7 := (cell_of_row heb6 3).trans (show _ = some (.int .u8 xo) from rfl)
        have hz := HZ5.out
        unfold put4v at j0 j1 j2 j3
        clear hd6 hk6 hro6 hre6 heb6 k9 r9 s9 h9 kk9 d9 x0 x1 x2 x3 t0 t1 t2 t3
        go_wp2_with fail
        go_roundg (n - (i + 1))
        case rel => exact ⟨i + 1, by omega, by go_num, Lib.hid ⟨b2, c2, F9.out.1, by rw [HQ.out]; exact F9.out.2.1, F9.out.2.2.1, F9.out.2.2.2⟩⟩
        case measure => omega
      · have HQ := Lib.hid (show waitH T G n o H (i + 1) = backH T G n (waitH T G n o H i) i r from hturn)
        have HBk := Lib.hid (HBa.out r (by omega) (by have := hft rfl; omega))
        clear hturn
        go_wp2_with fail
        refine HBk.out.mono ?_
        rintro e w6 ⟨b2, c2, rfl, hd6, hk6⟩
        have hro6 := hk6.row (by simp) F5.out.1
        have hre6 := hk6.row (by simp) F5.out.2.2.2
        have heb6 := hk6.row (by simp) HE5.out
        have q0 := (cell_of_row hro6 0).trans (show _ = some (.slice (some ⟨b1, 0, none⟩) N c1) from rfl)
        have q1 := (cell_of_row hro6 1).trans (show _ = some (.int .i64 T) from rfl)
        have q2 := (cell_of_row hro6 2).trans (show _ = some (.int .i64 G) from rfl)
        have q3 := (cell_of_row hro6 3).trans (show _ = some (.int .i64 n) from rfl)
        have g0 := free_of_row hro6 0
        have g1 := free_of_row hro6 1
        have g2 := free_of_row hro6 2
        have g3 := free_of_row hro6 3
        have k9 := put4v_kp w6 w.heap.size (.slice (some ⟨b2, 0, none⟩) N c2) (.int .i64 T) (.int .i64 G) (.int .i64 n)
        have r9 := put4v_row (.slice (some ⟨b2, 0, none⟩) N c2) (.int .i64 T) (.int .i64 G) (.int .i64 n) hro6
        have s9 := k9.row (by simp) hre6
        have h9 := k9.row (by have := HZ5.out; simp; omega) heb6
        have kk9 := kp_new_set (F5.out.2.2.1.trans hk6) k9 (Nat.le_refl _)
        have d9 := hd6.box (v0 := .slice (some ⟨b2, 0, none⟩) N c2) (v1 := .int .i64 T) (v2 := .int .i64 G) (v3 := .int .i64 n) hro6
        have F9 := Lib.hid (And.intro r9 (And.intro d9 (And.intro kk9 s9)))
        have H9 := Lib.hid h9
        clear hd6 hk6 hro6 hre6 heb6 k9 r9 s9 h9 kk9 d9 x0 x1 x2 x3 t0 t1 t2 t3
        go_wp2_with fail
        go_roundg (n - (i + 1))
        case rel => exact ⟨i + 1, by omega, by go_num, Lib.hid ⟨b2, c2, F9.out.1, by rw [HQ.out]; exact F9.out.2.1, F9.out.2.2.1, F9.out.2.2.2⟩⟩
        case measure => omega
      · have HQ := Lib.hid (show waitH T G n o H (i + 1) = waitH T G n o H i from hturn)
        clear hturn
        go_wp2_with fail
        go_roundg (n - (i + 1))
        case rel => exact ⟨i + 1, by omega, by go_num, Lib.hid ⟨b1, c1, F5.out.1, by rw [HQ.out]; exact F5.out.2.1, F5.out.2.2.1, F5.out.2.2.2⟩⟩
        case measure => omega
    · obtain rfl : i = n := by omega
      have hw1 : wr.heap[w.heap.size + 1]? = some (.cells #[.slice none 0 0, .int .i64 0, .int .i64 0, .int .i64 0] 40 (0, 0)) := hres
      have z0 := (cell_of_row hw1 0).trans (show _ = some (.slice none 0 0) from rfl)
      have z1 := (cell_of_row hw1 1).trans (show _ = some (.int .i64 0) from rfl)
      have z2 := (cell_of_row hw1 2).trans (show _ = some (.int .i64 0) from rfl)
      have z3 := (cell_of_row hw1 3).trans (show _ = some (.int .i64 0) from rfl)
      have y0 := free_of_row hw1 0
      have y1 := free_of_row hw1 1
      have y2 := free_of_row hw1 2
      have y3 := free_of_row hw1 3
      clear hrow hd hkk hres hw1 hfit HA HLn
      go_wp2_with fail
      exact bodyPost_row rfl (w.heap.size + 1) 40 #[.slice (some ⟨b1, 0, none⟩) N c1, .int .i64 T, .int .i64 G, .int .i64 i] (0, 0) _ rfl rfl (put4v_row _ _ _ _ F.out.2.2.2) Tryz.underlying40 rfl (by kernel_rfl) ⟨b1, c1, rfl, F.out.2.1.box F.out.2.2.2, kp_new_set F.out.2.2.1 (put4v_kp _ _ _ _ _ _) (by omega)⟩
end

end Go.Proofs.YticbnckikkdknaaGreatDoor

namespace Go.Proofs.YticbnckikkdknaaGreatDoor.Li
set_option linter.unusedVariables false
set_option linter.unusedSimpArgs false
open Go.RowKit

/-- The numbers xs lie where the slice u leads. -/
structure Rd (w : World) (u : Value) (xs : List Int) : Prop where
  form : ∃ ao cap, u = .slice ao xs.length cap ∧ xs.length ≤ cap ∧ (ao = none → cap = 0) ∧ (xs ≠ [] → ∃ g o, ao = some ⟨g, o, none⟩ ∧ ∀ i, i < xs.length → w.cell? ⟨g, o + i, none⟩ = some (.int .i64 (xs.getD i 0)))

theorem Rd.nil (w : World) : Rd w (.slice none 0 0) [] := ⟨none, 0, rfl, Nat.le_refl _, fun _ => rfl, fun h => absurd rfl h⟩
theorem Rd.keep {w w' : World} {u : Value} {xs : List Int} {S : List Nat} (h : Rd w u xs) (k : Kp S w w') (hS : ∀ g ∈ blk u, g ∉ S) : Rd w' u xs := by
  obtain ⟨ao, cap, rfl, hc, hz, hx⟩ := h.form
  refine ⟨ao, cap, rfl, hc, hz, fun hne => ?_⟩
  obtain ⟨g, o, rfl, hcell⟩ := hx hne
  refine ⟨g, o, rfl, fun i hi => ?_⟩
  have := hcell i hi
  exact (World.cell?_of_block (a := ⟨g, o + i, none⟩) (k.block g (block_lt_of_cell this) (hS g (by simp [blk_some])))).trans this
theorem Rd.keep0 {w w' : World} {u : Value} {xs : List Int} (h : Rd w u xs) (k : Kp [] w w') : Rd w' u xs := h.keep k (by simp)
theorem Rd.of_rw {w : World} {v : Value} {xs : List Int} (h : Rw w v xs) : Rd w v xs := by
  rcases h with ⟨rfl, rfl⟩ | ⟨g, cap, cur, rfl, hg, h1, h2, h3, h4⟩
  · exact Rd.nil w
  · exact ⟨_, cap, rfl, h1, fun e => (by cases e), fun _ => ⟨g, 0, rfl, fun i hi => by rw [Nat.zero_add]; exact row_cell hg h4 hi⟩⟩

/-- A struct of the document's own list at b, and its four rows. -/
structure Rs (w : World) (b : Nat) (us : Nat → Value) (Q : Nat → List Int) : Prop where
  hb : w.heap[b]? = some (.cells #[us 0, us 1, us 2, us 3] 72 (0, 0))
  rd : ∀ c, c < 4 → Rd w (us c) (Q c)
theorem Rs.cell {w : World} {b : Nat} {us : Nat → Value} {Q : Nat → List Int} (h : Rs w b us Q) {c : Nat} (hc : c < 4) : w.cell? ⟨b, c, none⟩ = some (us c) := by
  rw [cell_of_row h.hb]
  rcases four hc with rfl | rfl | rfl | rfl <;> rfl
theorem Rs.keep0 {w w' : World} {b : Nat} {us : Nat → Value} {Q : Nat → List Int} (h : Rs w b us Q) (k : Kp [] w w') : Rs w' b us Q := ⟨k.row (by simp) h.hb, fun c hc => (h.rd c hc).keep0 k⟩

theorem inR_hit {x : Int} {xs : List Int} {i : Nat} (hi : i < xs.length) (h : (xs.getD i 0 == x) = true) : inR x xs = true := by
  rw [getD_lt _ _ hi] at h
  exact List.any_eq_true.2 ⟨_, List.getElem_mem hi, by rw [beq_iff_eq] at h ⊢; exact h.symm⟩
theorem inR_miss {x : Int} {xs : List Int} (h : ∀ j, j < xs.length → (xs.getD j 0 == x) = false) : inR x xs = false := by
  cases hc : inR x xs with
  | false => rfl
  | true =>
    obtain ⟨y, hy, he⟩ := List.any_eq_true.1 hc
    obtain ⟨j, hj, rfl⟩ := List.getElem_of_mem hy
    have := h j hj
    rw [getD_lt _ _ hj] at this
    rw [beq_iff_eq] at he
    rw [he] at this
    simp at this

set_option maxRecDepth 100000 in
theorem rhas_any (w : World) (us : Nat → Value) (Q : Nat → List Int) (x : Int) (hq : ∀ c, c < 4 → Rd w (us c) (Q c)) (hn : Len Q 1000) :
    Calls Tryz.prog 128 #[.agg #[us 0, us 1, us 2, us 3], .int .i64 x] w fun e w' => e = .returned (.bool (hasB Q x)) ∧ Kp [] w w' := by
  obtain ⟨w1, hw1⟩ : ∃ w1, w.alloc (.cells #[us 0, us 1, us 2, us 3] 72) = w1 := ⟨_, rfl⟩
  have hk1 : Kp [] w w1 := by rw [← hw1]; exact (Kp.refl _ _).alloc _
  have S1 : Rs w1 w.heap.size us Q := ⟨by rw [← hw1]; exact heap_alloc_new w _, fun c hc => (hq c hc).keep0 hk1⟩
  have HS := Lib.hid S1
  have HK := Lib.hid hk1
  obtain ⟨b, hbb⟩ : ∃ b, b = w.heap.size := ⟨_, rfl⟩
  obtain ⟨r, hrr⟩ : ∃ r, r = hasB Q x := ⟨_, rfl⟩
  have HR := Lib.hid hrr
  rw [← hrr]
  rw [← hbb] at HS
  clear S1 hk1 hq hrr
  go_enter Tryz.func128, Tryz.ntmps128
  go_wp2
  try rw [hw1]
  rw [← hbb]
  clear hw1 hbb
  go_loopg [5, 6] 4 (fun g cv _ wr => ∃ c : Nat, c + g = 4 ∧ cv = .int .i64 (c : Int) ∧ Hid (inK Q x c = false) ∧ wr = w1)
  case atStart => exact ⟨0, by omega, rfl, Lib.hid rfl, rfl⟩
  case round =>
    obtain ⟨c, hcg, rfl, hno, rfl⟩ := hrel
    by_cases hc4 : c < 4
    · have hcell := HS.out.cell hc4
      obtain ⟨ao, cap, hu, hcap, _, hcs⟩ := (HS.out.rd c hc4).form
      have hl := hn c hc4
      rw [hu] at hcell
      obtain ⟨n, hnn⟩ : ∃ n, n = (Q c).length := ⟨_, rfl⟩
      have HN := Lib.hid hnn
      rw [← hnn] at hcell hl hcap
      have HC := Lib.hid hcs
      clear hcs hu hnn hn
      obtain ⟨G, hG⟩ : ∃ G, G + 1 = gk := ⟨gk - 1, by omega⟩
      go_wp2
      go_loopg [6] n (fun g iv wq => ∃ i : Nat, i + g = n ∧ iv = .int .i64 (i : Int) ∧ Hid (∀ j, j < i → ((Q c).getD j 0 == x) = false) ∧ wq = wr)
      case atStart => exact ⟨0, by omega, rfl, Lib.hid (fun j hj => by omega), rfl⟩
      case round =>
        obtain ⟨i, hig, rfl, hp, rfl⟩ := hrel
        by_cases hin : i < n
        · obtain ⟨g, o, rfl, hcs⟩ := HC.out (fun e => by have := HN.out; rw [e] at this; simp at this; omega)
          have hci := hcs i (by have := HN.out; omega)
          clear hcs
          obtain ⟨y, hy⟩ : ∃ y, y = (Q c).getD i 0 := ⟨_, rfl⟩
          have HY := Lib.hid hy
          rw [← hy] at hci
          clear hy
          go_wp2
          · have hyx : (y == x) = true := by assumption
            go_ret
            refine ⟨?_, HK.out⟩
            have e1 : inR x (Q c) = true := inR_hit (i := i) (by have := HN.out; omega) (by rw [← HY.out]; exact hyx)
            have e2 : hasB Q x = true := inK_mono (k := c + 1) (by rw [inK, e1]; simp) 4 (by omega)
            rw [HR.out, e2]
            rfl
          · have hyx : (y == x) = false := by assumption
            go_roundg (n - (i + 1))
            case measure => omega
            case rel => exact ⟨i + 1, by omega, by go_num, Lib.hid (fun j hj => by
              by_cases e : j = i
              · subst e; rw [← HY.out]; exact hyx
              · exact hp.out j (by omega)), rfl⟩
        · have hin' : i = n := by omega
          have hno' := Lib.hid (show inK Q x (c + 1) = false from by
            rw [inK, hno.out, inR_miss (fun j hj => hp.out j (by have := HN.out; omega))]; rfl)
          clear HC
          go_wp2
          go_roundg G
          case measure => omega
          case rel => exact ⟨c + 1, by omega, by go_num, hno', rfl⟩
    · have : c = 4 := by omega
      subst this
      clear hn
      go_wp2
      go_ret
      refine ⟨?_, HK.out⟩
      have e := hno.out
      rw [HR.out, hasB, e]
      rfl

end Go.Proofs.YticbnckikkdknaaGreatDoor.Li

namespace Go.Proofs.YticbnckikkdknaaGreatDoor.Li
set_option linter.unusedVariables false
set_option linter.unusedSimpArgs false
open Go.RowKit

/-- Three results, the first a struct that lies in a block. -/
theorem results_cell_tmp2 {fn : Func} {p u v : Tmp} {ty : TypeId} (h : fn.results = #[.cell p ty, .tmp u, .tmp v]) (tmps : Array Value) (P : Program) (w : World) :
    (results fn tmps).run P w = ((asAddr (tmps.getD p undef)).run P w).andThen fun a w₁ => ((loadVar ty a).run P w₁).andThen fun x w₂ => .ok (.tuple #[x, tmps.getD u undef, tmps.getD v undef]) w₂ := by
  simp only [results, h]
  simp [Sem.run_bind, Result.andThen]
theorem results_row_tmp2 {P : Program} {fn : Func} {p u v : Tmp} {ty : TypeId} (h : fn.results = #[.cell p ty, .tmp u, .tmp v]) (tmps : Array Value) (w : World) (g : Nat) (t : TypeId) (cs : Array Value) (fr : Nat × Nat) (d : TypeDesc)
    (hp : tmps.getD p undef = .pointer (some ⟨g, 0, none⟩)) (hg : w.heap[g]? = some (.cells cs t fr))
    (hu : P.underlying ty = some d) (hd : (match d with | .struct _ | .array _ _ => true | _ => false) = true) (hi : (P.info? ty).map (·.size) = some cs.size) :
    (results fn tmps).run P w = .ok (.tuple #[.agg cs, tmps.getD u undef, tmps.getD v undef]) w := by
  rw [results_cell_tmp2 h, hp]
  simp [asAddr, run_loadVar_row w g t ty cs fr d hg hu hd hi, Result.andThen]
theorem bodyPost_row_tmp2 {P : Program} {fn : Func} {R : Ending → World → Prop} {a : Act} {w : World} {p u v : Tmp} {ty : TypeId} (h : fn.results = #[.cell p ty, .tmp u, .tmp v]) (g : Nat) (t : TypeId) (cs : Array Value) (fr : Nat × Nat) (d : TypeDesc) (x y : Value)
    (hp : a.tmps.getD p undef = .pointer (some ⟨g, 0, none⟩)) (hx : a.tmps.getD u undef = x) (hy : a.tmps.getD v undef = y) (hdef : a.defers = []) (hg : w.heap[g]? = some (.cells cs t fr))
    (hu : P.underlying ty = some d) (hd : (match d with | .struct _ | .array _ _ => true | _ => false) = true) (hi : (P.info? ty).map (·.size) = some cs.size)
    (hR : R (.returned (.tuple #[.agg cs, x, y])) w) : bodyPost P fn R .ret a w := by
  subst hx hy
  exact bodyPost_ret (results_row_tmp2 h a.tmps w g t cs fr d hp hg hu hd hi) hdef hR

theorem Rd.one {w : World} {u : Value} {xs : List Int} (h : Rd w u xs) : u.oneCell' = true := by
  obtain ⟨ao, cap, rfl, _⟩ := h.form
  rfl
theorem ones {w : World} {us : Nat → Value} {Q : Nat → List Int} (hq : ∀ c, c < 4 → Rd w (us c) (Q c)) : (#[us 0, us 1, us 2, us 3] : Array Value).all (·.oneCell') = true := by
  simp [(hq 0 (by omega)).one, (hq 1 (by omega)).one, (hq 2 (by omega)).one, (hq 3 (by omega)).one]
theorem ones_of {a b c d : Value} (ha : a.oneCell' = true) (hb : b.oneCell' = true) (hc : c.oneCell' = true) (hd : d.oneCell' = true) : (#[a, b, c, d] : Array Value).all (·.oneCell') = true := by
  simp [ha, hb, hc, hd]

theorem rpop_bad (w : World) (us : Nat → Value) (Q : Nat → List Int) (c : Int) (h : c < 0 ∨ 4 ≤ c) (hq : ∀ c, c < 4 → Rd w (us c) (Q c)) :
    Calls Tryz.prog 101 #[.agg #[us 0, us 1, us 2, us 3], .int .i64 c] w fun e w' => e = .returned (.tuple #[.agg #[us 0, us 1, us 2, us 3], .int .i64 0, .int .i64 2]) ∧ Kp [] w w' := by
  have h1 := ones hq
  have hb2 := heap_alloc2_new w (.cells #[us 0, us 1, us 2, us 3] 72) (.cells #[.slice none 0 0, .slice none 0 0, .slice none 0 0, .slice none 0 0] 72)
  have hk := (((Kp.refl [] w).alloc (.cells #[us 0, us 1, us 2, us 3] 72)).alloc (.cells #[.slice none 0 0, .slice none 0 0, .slice none 0 0, .slice none 0 0] 72)).setRow (g := w.heap.size + 1) (.inr (by omega)) #[us 0, us 1, us 2, us 3]
  have hfin := setRow_heap _ _ _ #[us 0, us 1, us 2, us 3] _ _ hb2
  have HB := Lib.hid (And.intro h1 (And.intro hb2 (And.intro hk hfin)))
  clear h1 hb2 hk hfin hq
  rcases h with h | h
  · go_enter Tryz.func101, Tryz.ntmps101
    go_wp2_with (refine wpList_store_row rfl 72 _ _ rfl (w.heap.size + 1) _ rfl rfl 72 _ HB.out.2.1 (by kernel_rfl) rfl HB.out.1 ?_)
    exact bodyPost_row_tmp2 rfl (w.heap.size + 1) 72 _ (0, 0) _ (.int .i64 0) (.int .i64 2) rfl rfl rfl rfl HB.out.2.2.2 Tryz.underlying72 rfl (by kernel_rfl) ⟨rfl, HB.out.2.2.1⟩
  · have h1 : ¬ c < 0 := by omega
    have h2 : 3 < c := by omega
    go_enter Tryz.func101, Tryz.ntmps101
    go_wp2_with (refine wpList_store_row rfl 72 _ _ rfl (w.heap.size + 1) _ rfl rfl 72 _ HB.out.2.1 (by kernel_rfl) rfl HB.out.1 ?_)
    exact bodyPost_row_tmp2 rfl (w.heap.size + 1) 72 _ (0, 0) _ (.int .i64 0) (.int .i64 2) rfl rfl rfl rfl HB.out.2.2.2 Tryz.underlying72 rfl (by kernel_rfl) ⟨rfl, HB.out.2.2.1⟩

/-- The two blocks that each of the document's own calls lays first: its list, and the one that it will answer. -/
structure Pre (w w2 : World) (us : Nat → Value) (Q : Nat → List Int) : Prop where
  hb1 : w2.heap[w.heap.size]? = some (.cells #[us 0, us 1, us 2, us 3] 72 (0, 0))
  hb2 : ∃ old, w2.heap[w.heap.size + 1]? = some (.cells old 72 (0, 0)) ∧ old.size = 4
  kp : Kp [] w w2
  rd : ∀ c, c < 4 → Rd w2 (us c) (Q c)
theorem Pre.cell {w w2 : World} {us : Nat → Value} {Q : Nat → List Int} (h : Pre w w2 us Q) {c : Nat} (hc : c < 4) : w2.cell? ⟨w.heap.size, c, none⟩ = some (us c) := by
  rw [cell_of_row h.hb1]
  rcases four hc with rfl | rfl | rfl | rfl <;> rfl
theorem pre_of (w : World) (us : Nat → Value) (Q : Nat → List Int) (hq : ∀ c, c < 4 → Rd w (us c) (Q c)) :
    Pre w ((w.alloc (.cells #[us 0, us 1, us 2, us 3] 72)).alloc (.cells #[.slice none 0 0, .slice none 0 0, .slice none 0 0, .slice none 0 0] 72)) us Q := by
  have hk : Kp [] w ((w.alloc (.cells #[us 0, us 1, us 2, us 3] 72)).alloc (.cells #[.slice none 0 0, .slice none 0 0, .slice none 0 0, .slice none 0 0] 72)) := ((Kp.refl [] w).alloc _).alloc _
  exact ⟨heap_alloc2_old w _ _, ⟨_, heap_alloc2_new w _ _, rfl⟩, hk, fun c hc => (hq c hc).keep0 hk⟩
/-- The answer's block is filled. -/
theorem Pre.fin {w w2 w3 : World} {us : Nat → Value} {Q : Nat → List Int} (h : Pre w w2 us Q) (k : Kp [w.heap.size] w2 w3) (cs : Array Value) :
    (∃ old, w3.heap[w.heap.size + 1]? = some (.cells old 72 (0, 0)) ∧ old.size = 4) ∧ (w3.setRow (w.heap.size + 1) cs).heap[w.heap.size + 1]? = some (.cells cs 72 (0, 0)) ∧ Kp [] w (w3.setRow (w.heap.size + 1) cs) := by
  obtain ⟨old, ho, hs⟩ := h.hb2
  have h3 := k.row (by simp) ho
  refine ⟨⟨old, h3, hs⟩, setRow_heap _ _ _ _ _ _ h3, ?_⟩
  have k2 : Kp [] w w3 := ⟨k.os.trans h.kp.os, k.tape.trans h.kp.tape, k.output.trans h.kp.output, Nat.le_trans h.kp.size k.size, fun i hi _ => (k.block i (Nat.lt_of_lt_of_le hi h.kp.size) (by rw [List.mem_singleton]; omega)).trans (h.kp.block i hi (by simp))⟩
  exact k2.setRow (.inr (by omega)) _

theorem rpop_empty (w : World) (us : Nat → Value) (Q : Nat → List Int) (c : Nat) (hc : c < 4) (hq : ∀ c, c < 4 → Rd w (us c) (Q c)) (h0 : Q c = []) :
    Calls Tryz.prog 101 #[.agg #[us 0, us 1, us 2, us 3], .int .i64 c] w fun e w' => e = .returned (.tuple #[.agg #[us 0, us 1, us 2, us 3], .int .i64 0, .int .i64 5]) ∧ Kp [] w w' := by
  have h1 := ones hq
  have H := pre_of w us Q hq
  obtain ⟨w2, hw2⟩ : ∃ w2, (w.alloc (.cells #[us 0, us 1, us 2, us 3] 72)).alloc (.cells #[.slice none 0 0, .slice none 0 0, .slice none 0 0, .slice none 0 0] 72) = w2 := ⟨_, rfl⟩
  rw [hw2] at H
  obtain ⟨⟨old, ho, hs⟩, f2, f3⟩ := H.fin (Kp.refl _ w2) #[us 0, us 1, us 2, us 3]
  have hcc := H.cell hc
  have c0 := H.cell (c := 0) (by omega)
  have c1 := H.cell (c := 1) (by omega)
  have c2 := H.cell (c := 2) (by omega)
  have c3 := H.cell (c := 3) (by omega)
  obtain ⟨ao, cap, hu, _⟩ := (hq c hc).form
  rw [h0] at hu
  change us c = .slice ao 0 cap at hu
  rw [hu] at hcc
  have HB := Lib.hid (And.intro h1 (And.intro ho (And.intro hs (And.intro f2 f3))))
  clear h1 hq h0 H ho hs f2 f3 hu
  go_enter Tryz.func101, Tryz.ntmps101
  go_wp2_with (refine wpList_store_row rfl 72 _ _ rfl (w.heap.size + 1) _ rfl rfl 72 _ HB.out.2.1 (by kernel_rfl) HB.out.2.2.1 HB.out.1 ?_)
  exact bodyPost_row_tmp2 rfl (w.heap.size + 1) 72 _ (0, 0) _ (.int .i64 0) (.int .i64 5) rfl rfl rfl rfl HB.out.2.2.2.1 Tryz.underlying72 rfl (by kernel_rfl) ⟨rfl, HB.out.2.2.2.2⟩

theorem Rd.head {w : World} {u : Value} {x : Int} {xs : List Int} (h : Rd w u (x :: xs)) : ∃ g o cap, u = .slice (some ⟨g, o, none⟩) (xs.length + 1) cap ∧ xs.length + 1 ≤ cap ∧ w.cell? ⟨g, o, none⟩ = some (.int .i64 x) ∧
    ∀ a : Addr, (xs ≠ [] → a = ⟨g, o + 1, none⟩) → Rd w (.slice (some a) xs.length (cap - 1)) xs := by
  obtain ⟨ao, cap, rfl, hc, hz, hx⟩ := h.form
  obtain ⟨g, o, rfl, hcell⟩ := hx (by simp)
  refine ⟨g, o, cap, rfl, by simpa using hc, by simpa using hcell 0 (by simp), fun a ha => ⟨some a, cap - 1, rfl, by simp at hc; omega, fun e => (by cases e), fun hne => ⟨g, o + 1, by rw [ha hne], fun i hi => ?_⟩⟩⟩
  have := hcell (i + 1) (by simpa using hi)
  rw [show o + (i + 1) = o + 1 + i by omega] at this
  rw [this]
  simp [List.getD]

/-- A row's slice stored into the list's block, and the list answered: what lies behind. -/
theorem Pre.answer {w w2 : World} {us : Nat → Value} {Q : Nat → List Int} (h : Pre w w2 us Q) (w3 : World) (k : Kp [w.heap.size] w2 w3) (cs : Array Value) (c : Nat) (V : Value) (ys : List Int) (hV : Rd w3 V ys) (hb : ∀ y ∈ blk V, y ∈ blk (us c) ∨ (w.heap.size ≤ y ∧ y < w3.heap.size)) (hlt : ∀ d, d < 4 → ∀ y ∈ blk (us d), y ≠ w.heap.size) (hVn : ∀ y ∈ blk V, y ≠ w.heap.size + 1) (hln : ∀ d, d < 4 → ∀ y ∈ blk (us d), y ≠ w.heap.size + 1) :
    Kp [] w (w3.setRow (w.heap.size + 1) cs) ∧ (∀ d, d < 4 → Rd (w3.setRow (w.heap.size + 1) cs) (updV us c V d) (upd Q c ys d)) ∧ ∀ d, d < 4 → ∀ y ∈ blk (updV us c V d), y ∈ blk (us d) ∨ (w.heap.size ≤ y ∧ y < (w3.setRow (w.heap.size + 1) cs).heap.size) := by
  have ks : Kp [w.heap.size + 1] w3 (w3.setRow (w.heap.size + 1) cs) := (Kp.refl _ _).setRow (.inl (by simp)) _
  refine ⟨(h.fin k cs).2.2, fun d hd => ?_, fun d hd y hy => ?_⟩
  · by_cases e : d = c
    · subst e
      rw [updV_same, upd_same]
      exact hV.keep ks (fun g hg hg' => hVn g hg (by simpa using hg'))
    · rw [updV_ne _ _ _ _ e, upd_ne _ _ _ _ e]
      exact ((h.rd d hd).keep k (fun g hg hg' => hlt d hd g hg (by simpa using hg'))).keep ks (fun g hg hg' => hln d hd g hg (by simpa using hg'))
  · by_cases e : d = c
    · subst e
      rw [updV_same] at hy
      rw [size_setRow]
      exact hb y hy
    · rw [updV_ne _ _ _ _ e] at hy
      exact .inl hy

/-- Rows that lay ahead of a call are in no block that it makes. -/
theorem rows_lt {w : World} {us : Nat → Value} {N : Nat} (hl : ∀ d, d < 4 → ∀ y ∈ blk (us d), y < w.heap.size) : (∀ d, d < 4 → ∀ y ∈ blk (us d), y ≠ w.heap.size) ∧ (∀ d, d < 4 → ∀ y ∈ blk (us d), y ≠ w.heap.size + 1) :=
  ⟨fun d hd y hy => by have := hl d hd y hy; omega, fun d hd y hy => by have := hl d hd y hy; omega⟩

set_option maxHeartbeats 2000000 in
theorem rpop_good (w : World) (us : Nat → Value) (Q : Nat → List Int) (c : Nat) (hc : c < 4) (hq : ∀ c, c < 4 → Rd w (us c) (Q c)) (x : Int) (xs : List Int) (h0 : Q c = x :: xs) (hn : (Q c).length ≤ 1000) (hlt : ∀ d, d < 4 → ∀ y ∈ blk (us d), y < w.heap.size) :
    Calls Tryz.prog 101 #[.agg #[us 0, us 1, us 2, us 3], .int .i64 c] w fun e w' => ∃ us' : Nat → Value, e = .returned (.tuple #[.agg #[us' 0, us' 1, us' 2, us' 3], .int .i64 x, .int .i64 0]) ∧ Kp [] w w' ∧ (∀ d, d < 4 → Rd w' (us' d) (upd Q c xs d)) ∧ ∀ d, d < 4 → ∀ y ∈ blk (us' d), y ∈ blk (us d) ∨ (w.heap.size ≤ y ∧ y < w'.heap.size) := by
  have H := pre_of w us Q hq
  have h1 := fun d hd => (hq d hd).one
  obtain ⟨w2, hw2⟩ : ∃ w2, (w.alloc (.cells #[us 0, us 1, us 2, us 3] 72)).alloc (.cells #[.slice none 0 0, .slice none 0 0, .slice none 0 0, .slice none 0 0] 72) = w2 := ⟨_, rfl⟩
  rw [hw2] at H
  have hRc := H.rd c hc
  rw [h0] at hRc
  obtain ⟨g, o, cap, hu, hcap, hx, hcut⟩ := hRc.head
  have hgl : g < w.heap.size := hlt c hc g (by rw [hu, blk_some]; simp)
  have hcc := H.cell hc
  have hfr := free_of_row H.hb1 c
  rw [hu] at hcc
  have c0 := H.cell (c := 0) (by omega)
  have c1 := H.cell (c := 1) (by omega)
  have c2 := H.cell (c := 2) (by omega)
  have c3 := H.cell (c := 3) (by omega)
  rw [h0, List.length_cons] at hn
  -- what lies behind, whatever slice is stored
  have hend : ∀ (a : Addr), (xs ≠ [] → a = ⟨g, o + 1, none⟩) → (∀ y ∈ blk (.slice (some a) xs.length (cap - 1)), y = g) → ∀ cs : Array Value,
      (∃ old, (w2.setCell ⟨w.heap.size, c, none⟩ (.slice (some a) xs.length (cap - 1))).heap[w.heap.size + 1]? = some (.cells old 72 (0, 0)) ∧ old.size = 4) ∧
      ((w2.setCell ⟨w.heap.size, c, none⟩ (.slice (some a) xs.length (cap - 1))).setRow (w.heap.size + 1) cs).heap[w.heap.size + 1]? = some (.cells cs 72 (0, 0)) ∧
      Kp [] w ((w2.setCell ⟨w.heap.size, c, none⟩ (.slice (some a) xs.length (cap - 1))).setRow (w.heap.size + 1) cs) ∧
      (∀ d, d < 4 → Rd ((w2.setCell ⟨w.heap.size, c, none⟩ (.slice (some a) xs.length (cap - 1))).setRow (w.heap.size + 1) cs) (updV us c (.slice (some a) xs.length (cap - 1)) d) (upd Q c xs d)) ∧
      ∀ d, d < 4 → ∀ y ∈ blk (updV us c (.slice (some a) xs.length (cap - 1)) d), y ∈ blk (us d) ∨ (w.heap.size ≤ y ∧ y < ((w2.setCell ⟨w.heap.size, c, none⟩ (.slice (some a) xs.length (cap - 1))).setRow (w.heap.size + 1) cs).heap.size) := by
    intro a ha hba cs
    have k3 : Kp [w.heap.size] w2 (w2.setCell ⟨w.heap.size, c, none⟩ (.slice (some a) xs.length (cap - 1))) := (Kp.refl _ _).setCell (.inl (by simp)) _
    obtain ⟨r1, r2⟩ := rows_lt (N := 0) hlt
    have hV := (hcut a ha).keep k3 (fun y hy hy' => by have := hba y hy; simp at hy'; omega)
    have hf := H.fin k3 cs
    have han := H.answer _ k3 cs c _ xs hV (fun y hy => .inl (by rw [hba y hy, hu, blk_some]; simp)) r1 (fun y hy => by have := hba y hy; omega) r2
    exact ⟨hf.1, hf.2.1, han.1, han.2.1, han.2.2⟩
  have HE := Lib.hid hend
  have H1 := Lib.hid h1
  have HX : Hid (xs = [] ↔ xs.length = 0) := Lib.hid List.length_eq_zero_iff.symm
  clear H hRc h0 hq hcut hend h1 hlt
  obtain ⟨n, hnn⟩ : ∃ n, n = xs.length := ⟨_, rfl⟩
  rw [← hnn] at hu hcc hcap hn HE HX
  clear hnn
  have HU := Lib.hid hu
  by_cases hc1 : cap = 1
  · obtain rfl : n = 0 := by omega
    subst hc1
    have E := HE.out ⟨g, o, none⟩ (fun e => absurd (HX.out.2 rfl) e) (fun y hy => by simpa [blk_some] using hy)
    rw [Nat.sub_self] at E
    rw [show (0 : Nat) + 1 = 1 from rfl] at hu hcc HU
    have HE2 := Lib.hid E
    clear HE E hcap hgl
    rcases four hc with rfl | rfl | rfl | rfl
    · obtain ⟨⟨old, ho, hs⟩, f2, f3, f4, f5⟩ := HE2.out #[Value.slice (some ⟨g, o, none⟩) 0 0, us 1, us 2, us 3]
      have HF := Lib.hid (And.intro ho (And.intro hs (And.intro f2 (And.intro f3 (And.intro f4 f5)))))
      have HO := Lib.hid (show (#[Value.slice (some ⟨g, o, none⟩) 0 0, us 1, us 2, us 3] : Array Value).all (·.oneCell') = true from ones_of rfl (H1.out 1 (by omega)) (H1.out 2 (by omega)) (H1.out 3 (by omega)))
      rw [hu] at c0
      clear HE2 ho hs f2 f3 f4 f5 hu H1
      go_enter Tryz.func101, Tryz.ntmps101
      go_wp2_with (refine wpList_store_row rfl 72 _ _ rfl (w.heap.size + 1) _ rfl rfl 72 _ HF.out.1 (by kernel_rfl) HF.out.2.1 HO.out ?_)
      refine bodyPost_row_tmp2 rfl (w.heap.size + 1) 72 #[Value.slice (some ⟨g, o, none⟩) 0 0, us 1, us 2, us 3] (0, 0) _ (.int .i64 x) (.int .i64 0) rfl rfl rfl rfl HF.out.2.2.1 Tryz.underlying72 rfl (by kernel_rfl) ⟨updV us 0 (Value.slice (some ⟨g, o, none⟩) 0 0), ?_, HF.out.2.2.2.1, HF.out.2.2.2.2.1, HF.out.2.2.2.2.2⟩
      simp [updV]
    · obtain ⟨⟨old, ho, hs⟩, f2, f3, f4, f5⟩ := HE2.out #[us 0, Value.slice (some ⟨g, o, none⟩) 0 0, us 2, us 3]
      have HF := Lib.hid (And.intro ho (And.intro hs (And.intro f2 (And.intro f3 (And.intro f4 f5)))))
      have HO := Lib.hid (show (#[us 0, Value.slice (some ⟨g, o, none⟩) 0 0, us 2, us 3] : Array Value).all (·.oneCell') = true from ones_of (H1.out 0 (by omega)) rfl (H1.out 2 (by omega)) (H1.out 3 (by omega)))
      rw [hu] at c1
      clear HE2 ho hs f2 f3 f4 f5 hu H1
      go_enter Tryz.func101, Tryz.ntmps101
      go_wp2_with (refine wpList_store_row rfl 72 _ _ rfl (w.heap.size + 1) _ rfl rfl 72 _ HF.out.1 (by kernel_rfl) HF.out.2.1 HO.out ?_)
      refine bodyPost_row_tmp2 rfl (w.heap.size + 1) 72 #[us 0, Value.slice (some ⟨g, o, none⟩) 0 0, us 2, us 3] (0, 0) _ (.int .i64 x) (.int .i64 0) rfl rfl rfl rfl HF.out.2.2.1 Tryz.underlying72 rfl (by kernel_rfl) ⟨updV us 1 (Value.slice (some ⟨g, o, none⟩) 0 0), ?_, HF.out.2.2.2.1, HF.out.2.2.2.2.1, HF.out.2.2.2.2.2⟩
      simp [updV]
    · obtain ⟨⟨old, ho, hs⟩, f2, f3, f4, f5⟩ := HE2.out #[us 0, us 1, Value.slice (some ⟨g, o, none⟩) 0 0, us 3]
      have HF := Lib.hid (And.intro ho (And.intro hs (And.intro f2 (And.intro f3 (And.intro f4 f5)))))
      have HO := Lib.hid (show (#[us 0, us 1, Value.slice (some ⟨g, o, none⟩) 0 0, us 3] : Array Value).all (·.oneCell') = true from ones_of (H1.out 0 (by omega)) (H1.out 1 (by omega)) rfl (H1.out 3 (by omega)))
      rw [hu] at c2
      clear HE2 ho hs f2 f3 f4 f5 hu H1
      go_enter Tryz.func101, Tryz.ntmps101
      go_wp2_with (refine wpList_store_row rfl 72 _ _ rfl (w.heap.size + 1) _ rfl rfl 72 _ HF.out.1 (by kernel_rfl) HF.out.2.1 HO.out ?_)
      refine bodyPost_row_tmp2 rfl (w.heap.size + 1) 72 #[us 0, us 1, Value.slice (some ⟨g, o, none⟩) 0 0, us 3] (0, 0) _ (.int .i64 x) (.int .i64 0) rfl rfl rfl rfl HF.out.2.2.1 Tryz.underlying72 rfl (by kernel_rfl) ⟨updV us 2 (Value.slice (some ⟨g, o, none⟩) 0 0), ?_, HF.out.2.2.2.1, HF.out.2.2.2.2.1, HF.out.2.2.2.2.2⟩
      simp [updV]
    · obtain ⟨⟨old, ho, hs⟩, f2, f3, f4, f5⟩ := HE2.out #[us 0, us 1, us 2, Value.slice (some ⟨g, o, none⟩) 0 0]
      have HF := Lib.hid (And.intro ho (And.intro hs (And.intro f2 (And.intro f3 (And.intro f4 f5)))))
      have HO := Lib.hid (show (#[us 0, us 1, us 2, Value.slice (some ⟨g, o, none⟩) 0 0] : Array Value).all (·.oneCell') = true from ones_of (H1.out 0 (by omega)) (H1.out 1 (by omega)) (H1.out 2 (by omega)) rfl)
      rw [hu] at c3
      clear HE2 ho hs f2 f3 f4 f5 hu H1
      go_enter Tryz.func101, Tryz.ntmps101
      go_wp2_with (refine wpList_store_row rfl 72 _ _ rfl (w.heap.size + 1) _ rfl rfl 72 _ HF.out.1 (by kernel_rfl) HF.out.2.1 HO.out ?_)
      refine bodyPost_row_tmp2 rfl (w.heap.size + 1) 72 #[us 0, us 1, us 2, Value.slice (some ⟨g, o, none⟩) 0 0] (0, 0) _ (.int .i64 x) (.int .i64 0) rfl rfl rfl rfl HF.out.2.2.1 Tryz.underlying72 rfl (by kernel_rfl) ⟨updV us 3 (Value.slice (some ⟨g, o, none⟩) 0 0), ?_, HF.out.2.2.2.1, HF.out.2.2.2.2.1, HF.out.2.2.2.2.2⟩
      simp [updV]
  · have hcl : 1 < cap := by omega
    have E := HE.out ⟨g, o + 1, none⟩ (fun _ => rfl) (fun y hy => by simpa [blk_some] using hy)
    have HE2 := Lib.hid E
    clear HE E hgl hc1
    rcases four hc with rfl | rfl | rfl | rfl
    · obtain ⟨⟨old, ho, hs⟩, f2, f3, f4, f5⟩ := HE2.out #[Value.slice (some ⟨g, o + 1, none⟩) n (cap - 1), us 1, us 2, us 3]
      have HF := Lib.hid (And.intro ho (And.intro hs (And.intro f2 (And.intro f3 (And.intro f4 f5)))))
      have HO := Lib.hid (show (#[Value.slice (some ⟨g, o + 1, none⟩) n (cap - 1), us 1, us 2, us 3] : Array Value).all (·.oneCell') = true from ones_of rfl (H1.out 1 (by omega)) (H1.out 2 (by omega)) (H1.out 3 (by omega)))
      rw [hu] at c0
      clear HE2 ho hs f2 f3 f4 f5 hu H1
      go_enter Tryz.func101, Tryz.ntmps101
      go_wp2_with (refine wpList_store_row rfl 72 _ _ rfl (w.heap.size + 1) _ rfl rfl 72 _ HF.out.1 (by kernel_rfl) HF.out.2.1 HO.out ?_)
      refine bodyPost_row_tmp2 rfl (w.heap.size + 1) 72 #[Value.slice (some ⟨g, o + 1, none⟩) n (cap - 1), us 1, us 2, us 3] (0, 0) _ (.int .i64 x) (.int .i64 0) rfl rfl rfl rfl HF.out.2.2.1 Tryz.underlying72 rfl (by kernel_rfl) ⟨updV us 0 (Value.slice (some ⟨g, o + 1, none⟩) n (cap - 1)), ?_, HF.out.2.2.2.1, HF.out.2.2.2.2.1, HF.out.2.2.2.2.2⟩
      simp [updV]
    · obtain ⟨⟨old, ho, hs⟩, f2, f3, f4, f5⟩ := HE2.out #[us 0, Value.slice (some ⟨g, o + 1, none⟩) n (cap - 1), us 2, us 3]
      have HF := Lib.hid (And.intro ho (And.intro hs (And.intro f2 (And.intro f3 (And.intro f4 f5)))))
      have HO := Lib.hid (show (#[us 0, Value.slice (some ⟨g, o + 1, none⟩) n (cap - 1), us 2, us 3] : Array Value).all (·.oneCell') = true from ones_of (H1.out 0 (by omega)) rfl (H1.out 2 (by omega)) (H1.out 3 (by omega)))
      rw [hu] at c1
      clear HE2 ho hs f2 f3 f4 f5 hu H1
      go_enter Tryz.func101, Tryz.ntmps101
      go_wp2_with (refine wpList_store_row rfl 72 _ _ rfl (w.heap.size + 1) _ rfl rfl 72 _ HF.out.1 (by kernel_rfl) HF.out.2.1 HO.out ?_)
      refine bodyPost_row_tmp2 rfl (w.heap.size + 1) 72 #[us 0, Value.slice (some ⟨g, o + 1, none⟩) n (cap - 1), us 2, us 3] (0, 0) _ (.int .i64 x) (.int .i64 0) rfl rfl rfl rfl HF.out.2.2.1 Tryz.underlying72 rfl (by kernel_rfl) ⟨updV us 1 (Value.slice (some ⟨g, o + 1, none⟩) n (cap - 1)), ?_, HF.out.2.2.2.1, HF.out.2.2.2.2.1, HF.out.2.2.2.2.2⟩
      simp [updV]
    · obtain ⟨⟨old, ho, hs⟩, f2, f3, f4, f5⟩ := HE2.out #[us 0, us 1, Value.slice (some ⟨g, o + 1, none⟩) n (cap - 1), us 3]
      have HF := Lib.hid (And.intro ho (And.intro hs (And.intro f2 (And.intro f3 (And.intro f4 f5)))))
      have HO := Lib.hid (show (#[us 0, us 1, Value.slice (some ⟨g, o + 1, none⟩) n (cap - 1), us 3] : Array Value).all (·.oneCell') = true from ones_of (H1.out 0 (by omega)) (H1.out 1 (by omega)) rfl (H1.out 3 (by omega)))
      rw [hu] at c2
      clear HE2 ho hs f2 f3 f4 f5 hu H1
      go_enter Tryz.func101, Tryz.ntmps101
      go_wp2_with (refine wpList_store_row rfl 72 _ _ rfl (w.heap.size + 1) _ rfl rfl 72 _ HF.out.1 (by kernel_rfl) HF.out.2.1 HO.out ?_)
      refine bodyPost_row_tmp2 rfl (w.heap.size + 1) 72 #[us 0, us 1, Value.slice (some ⟨g, o + 1, none⟩) n (cap - 1), us 3] (0, 0) _ (.int .i64 x) (.int .i64 0) rfl rfl rfl rfl HF.out.2.2.1 Tryz.underlying72 rfl (by kernel_rfl) ⟨updV us 2 (Value.slice (some ⟨g, o + 1, none⟩) n (cap - 1)), ?_, HF.out.2.2.2.1, HF.out.2.2.2.2.1, HF.out.2.2.2.2.2⟩
      simp [updV]
    · obtain ⟨⟨old, ho, hs⟩, f2, f3, f4, f5⟩ := HE2.out #[us 0, us 1, us 2, Value.slice (some ⟨g, o + 1, none⟩) n (cap - 1)]
      have HF := Lib.hid (And.intro ho (And.intro hs (And.intro f2 (And.intro f3 (And.intro f4 f5)))))
      have HO := Lib.hid (show (#[us 0, us 1, us 2, Value.slice (some ⟨g, o + 1, none⟩) n (cap - 1)] : Array Value).all (·.oneCell') = true from ones_of (H1.out 0 (by omega)) (H1.out 1 (by omega)) (H1.out 2 (by omega)) rfl)
      rw [hu] at c3
      clear HE2 ho hs f2 f3 f4 f5 hu H1
      go_enter Tryz.func101, Tryz.ntmps101
      go_wp2_with (refine wpList_store_row rfl 72 _ _ rfl (w.heap.size + 1) _ rfl rfl 72 _ HF.out.1 (by kernel_rfl) HF.out.2.1 HO.out ?_)
      refine bodyPost_row_tmp2 rfl (w.heap.size + 1) 72 #[us 0, us 1, us 2, Value.slice (some ⟨g, o + 1, none⟩) n (cap - 1)] (0, 0) _ (.int .i64 x) (.int .i64 0) rfl rfl rfl rfl HF.out.2.2.1 Tryz.underlying72 rfl (by kernel_rfl) ⟨updV us 3 (Value.slice (some ⟨g, o + 1, none⟩) n (cap - 1)), ?_, HF.out.2.2.2.1, HF.out.2.2.2.2.1, HF.out.2.2.2.2.2⟩
      simp [updV]

end Go.Proofs.YticbnckikkdknaaGreatDoor.Li
