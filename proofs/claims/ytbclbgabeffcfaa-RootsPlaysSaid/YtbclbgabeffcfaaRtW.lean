/- RootsPlays, walked: for every number of slots and every row of acts it returns true. Conditions: the acts lie where the slice leads. -/
import Derived.Test.YtbclbgabeffcfaaRtP
import Derived.Test.YtbclbgabeffcfaaRtO
import Derived.Deep.LoopGhost
import Derived.Deep.CutRange
import Derived.Deep.CutBlock
import Derived.Deep.DeepCutAuto
import Derived.Deep.RegionHeld3
import Derived.Carry
import Derived.BigQuiet
namespace Go.Proofs.Ytbclbgabeffcfaa
set_option linter.unusedVariables false
set_option linter.unusedSimpArgs false
open Go.RowKit

set_option maxRecDepth 100000 in
theorem plays_skip (w : World) (N : Int) (ao : Option Addr) (n cap : Nat) (h : 150 < n ∨ N < 1 ∨ 8 < N) :
    Calls Try.prog 3 #[.int .i64 N, .slice ao n cap] w fun e w' => e = .returned (.bool true) ∧ Kp [] w w' := by
  have hwk := wakes_any w
  by_cases h1 : 150 < n
  · go_enter Try.func3, Try.ntmps3
    go_wp2_with ((with_reducible refine hwk.mono ?_); rintro e w1 ⟨rfl, hb⟩; have H := Lib.hid hb; clear hb)
    go_ret
    exact ⟨rfl, H.out⟩
  · have h1' : n ≤ 150 := by omega
    have hnew := new_bad w N (by omega)
    by_cases h2 : N < 1
    · go_enter Try.func3, Try.ntmps3
      go_wp2_with fail
      refine hnew.mono ?_
      rintro e w1 ⟨rfl, rfl⟩
      go_wp2_with ((with_reducible refine hwk.mono ?_); rintro e w1 ⟨rfl, hb⟩; have H := Lib.hid hb; clear hb)
      go_ret
      exact ⟨rfl, H.out⟩
    · have h2' : 1 ≤ N := by omega
      have h3 : 8 < N := by omega
      go_enter Try.func3, Try.ntmps3
      go_wp2_with fail
      refine hnew.mono ?_
      rintro e w1 ⟨rfl, rfl⟩
      go_wp2_with ((with_reducible refine hwk.mono ?_); rintro e w1 ⟨rfl, hb⟩; have H := Lib.hid hb; clear hb)
      go_ret
      exact ⟨rfl, H.out⟩

set_option maxRecDepth 100000 in
set_option maxHeartbeats 8000000 in
theorem plays_main (w : World) (N : Nat) (ao : Option Addr) (cap : Nat) (T : List (Int × Int × Int)) (hN1 : 1 ≤ N) (hN2 : N ≤ 8) (hm : T.length ≤ 150) (hT : Acts w ao T) :
    Calls Try.prog 3 #[.int .i64 N, .slice ao T.length cap] w fun e w' => e = .returned (.bool true) ∧ Kp [] w w' := by
  obtain ⟨p, hp⟩ : ∃ p, p = w.heap.size := ⟨_, rfl⟩
  have hnew : Calls Try.prog 7 #[.int .i64 N] w fun e w' => e = .returned (.tuple #[.pointer (some ⟨p, 0, none⟩), .int .i64 0]) ∧ Own w p (List.replicate N 0) [] w' :=
    (new_good w N hN1 hN2).mono (by rintro e w' ⟨rfl, hs, hk⟩; exact ⟨by rw [hp], hp ▸ hs, hk, by omega⟩)
  clear hp
  obtain ⟨m, hmm⟩ : ∃ m, m = T.length := ⟨_, rfl⟩
  have HM := Lib.hid hmm
  have HT := Lib.hid hT
  rw [← hmm] at hm ⊢
  clear hmm hT
  go_enter Try.func3, Try.ntmps3
  go_wp2_with fail
  refine hnew.mono ?_
  rintro e w1 ⟨rfl, hs1⟩
  have H1 := Lib.hid hs1
  clear hs1 hnew
  have h1 := rnew_any w1 N hN1 hN2
  go_wp2_with fail
  refine h1.mono ?_
  rintro e w2 ⟨u2, v2, rfl, hu2, hv2, hk2⟩
  obtain ⟨uo, uc, hue, -⟩ := hu2.form
  obtain ⟨vo, vc, hve, -⟩ := hv2.form
  obtain ⟨b, hb⟩ : ∃ b, b = w2.heap.size := ⟨_, rfl⟩
  have ka : Kp [] w2 (w2.alloc (.cells #[u2, v2] 30)) := (Kp.refl _ _).alloc _
  have H2 : Hid (PL w p b (List.replicate N 0) [] (List.replicate N 0) [] u2 v2 (w2.alloc (.cells #[u2, v2] 30))) :=
    Lib.hid ⟨(H1.out.on hk2).on ka, by rw [hb]; exact heap_alloc_new w2 _, hu2.keep0 ka, hv2.keep0 ka, by rw [hb]; exact Nat.le_trans H1.out.kp.size hk2.size⟩
  have HL2 : Hid ((List.replicate N (0 : Int)).length = N) := Lib.hid (by simp)
  clear hu2 hv2 hk2 ka h1 H1
  generalize List.replicate N (0 : Int) = A2 at H2 HL2 hue
  generalize A2.length = nu at hue
  generalize ([] : List Int).length = nv at hve
  subst hue hve
  go_wp2_with fail
  rw [← hb]
  clear hb
  generalize w2.alloc (.cells #[.slice uo nu uc, .slice vo nv vc] 30) = w3 at H2 ⊢
  generalize (Value.slice uo nu uc) = u2 at H2
  generalize (Value.slice vo nv vc) = v2 at H2
  clear w2 w1
  go_loopg [8] m (fun gg vk wr => ∃ (k : Nat) (A L : List Int) (u v : Value), k + gg = m ∧ vk = .int .i64 (k : Int) ∧ Hid (A.length = N) ∧ Hid (PL w p b A L A L u v wr))
  case atStart => exact ⟨0, A2, [], _, _, by omega, rfl, HL2, H2⟩
  case round =>
    clear H2 HL2
    obtain ⟨k, A, L, u, v, hkg, rfl, HAL, H⟩ := hrel
    by_cases hkm : k < m
    · have hkl : k < T.length := HM.out ▸ hkm
      obtain ⟨ab, i, hao, hbw, q0, q1, q2, f0, f1, f2⟩ := HT.out k _ (List.getElem?_eq_getElem hkl)
      subst hao
      generalize T[k].1 = d at q0 f0
      generalize T[k].2.1 = sl at q1 f1
      generalize T[k].2.2 = at' at q2 f2
      replace q0 := H.out.st.kp.cell (by simp) q0
      replace q1 := H.out.st.kp.cell (by simp) q1
      replace q2 := H.out.st.kp.cell (by simp) q2
      have hA8 : A.length ≤ 8 := H.out.st.rt.la
      have hL16 : L.length ≤ 16 := H.out.st.rt.ll
      clear f1 f2 hkl hbw
      go_upto_block 2 with (fail)
      obtain ⟨c, hc⟩ : ∃ c, c = wr.heap.size := ⟨_, rfl⟩
      have HC : Hid ((wr.alloc (.cells #[.int .u8 d, .int .i64 sl, .int .i64 at'] 33)).heap[c]? = some (.cells #[.int .u8 d, .int .i64 sl, .int .i64 at'] 33 (0, 0))) := Lib.hid (by rw [hc]; exact heap_alloc_new wr _)
      have H' := Lib.hid (H.out.on ((Kp.refl [] wr).alloc (.cells #[.int .u8 d, .int .i64 sl, .int .i64 at'] 33)))
      rw [← hc]
      clear H q0 q1 q2 hc
      have H := H'
      clear H'
      generalize wr.alloc (.cells #[.int .u8 d, .int .i64 sl, .int .i64 at'] 33) = W1 at HC H ⊢
      have HCP : Hid (c ≠ p) := Lib.hid (by
        obtain ⟨cs, hp⟩ := H.out.st.rt.row
        exact ne_types HC.out hp (by decide))
      have g0 : W1.cell? ⟨c, 0, none⟩ = some (.int .u8 d) := cell_of_row HC.out 0
      have g1 : W1.cell? ⟨c, 1, none⟩ = some (.int .i64 sl) := cell_of_row HC.out 1
      have g2 : W1.cell? ⟨c, 2, none⟩ = some (.int .i64 at') := cell_of_row HC.out 2
      go_cut [10, 11] from 62 to 104 (fun v10 v11 w' => ∃ (ee : Int) (A' L' : List Int) (u' v' : Value), v10 = .int .i64 ee ∧ v11 = .int .i64 ee ∧ Hid (A'.length = N) ∧ Hid (PL w p b A' L' A' L' u' v' w'))
      case first =>
        by_cases hd : d = 0
        · -- [PART PUSH
          have hdb : (d == 0) = true := by simp [hd]
          clear hd f0
          have h1 := push_any W1 p A L H.out.st.rt sl
          have h2 : ∀ w5, PL w p b A (pushL A L sl) A L u v w5 → Calls Try.prog 10 #[.agg #[u, v], .int .i64 sl] w5 _ := fun w5 h5 => rpush_any w5 u v A L sl h5.ru h5.rv (by omega) (by omega)
          generalize pushE A L sl = ee at h1 h2
          have HP : Hid ((A).length = N) := Lib.hid HAL.out
          go_wp2_with fail
          refine h1.mono ?_
          rintro e w5 ⟨rfl, s5, k5⟩
          have H5 := Lib.hid (H.out.rt s5 k5)
          have hc5 := k5.row (by simpa using HCP.out) HC.out
          have a1 : w5.cell? ⟨c, 1, none⟩ = some (.int .i64 sl) := cell_of_row hc5 1
          have a2 : w5.cell? ⟨c, 2, none⟩ = some (.int .i64 at') := cell_of_row hc5 2
          have z0 := H5.out.c0
          have z1 := H5.out.c1
          clear H s5 k5 h1 hc5 g1 g2
          go_wp2_with fail
          refine (h2 w5 H5.out).mono ?_
          rintro e w6 ⟨u6, v6, rfl, ru6, rv6, k6⟩
          have F := Lib.hid (H5.out.next k6 ru6 rv6)
          clear k6 ru6 rv6 h2 z0 z1 H5 a1 a2
          go_wp2_with (refine wpList_store_row rfl 30 _ _ rfl b _ rfl rfl 30 _ F.out.1.1 (by kernel_rfl) rfl F.out.1.2 ?_)
          go_meet
          case rel => exact ⟨ee, _, _, _, _, rfl, rfl, HP, Lib.hid F.out.2⟩
          -- ]PART
        · have hdb : (d == 0) = false := by simp [hd]
          by_cases hd1 : d = 1
          · -- [PART POP
            have hdb1 : (d == 1) = true := by simp [hd1]
            clear hd hd1 f0
            have h1 := pop_any W1 p A L H.out.st.rt sl
            have h2 : ∀ w5, PL w p b (popA A L sl) (popL A L sl) A L u v w5 → Calls Try.prog 12 #[.agg #[u, v], .int .i64 sl] w5 _ := fun w5 h5 => rpop_any w5 u v A L sl h5.ru h5.rv (by omega) (by omega)
            generalize popE A L sl = ee at h1 h2
            have HP : Hid (((popA A L sl)).length = N) := Lib.hid (by rw [popA_len]; exact HAL.out)
            go_wp2_with fail
            refine h1.mono ?_
            rintro e w5 ⟨rfl, s5, k5⟩
            have H5 := Lib.hid (H.out.rt s5 k5)
            have hc5 := k5.row (by simpa using HCP.out) HC.out
            have a1 : w5.cell? ⟨c, 1, none⟩ = some (.int .i64 sl) := cell_of_row hc5 1
            have a2 : w5.cell? ⟨c, 2, none⟩ = some (.int .i64 at') := cell_of_row hc5 2
            have z0 := H5.out.c0
            have z1 := H5.out.c1
            clear H s5 k5 h1 hc5 g1 g2
            go_wp2_with fail
            refine (h2 w5 H5.out).mono ?_
            rintro e w6 ⟨u6, v6, rfl, ru6, rv6, k6⟩
            have F := Lib.hid (H5.out.next k6 ru6 rv6)
            clear k6 ru6 rv6 h2 z0 z1 H5 a1 a2
            go_wp2_with (refine wpList_store_row rfl 30 _ _ rfl b _ rfl rfl 30 _ F.out.1.1 (by kernel_rfl) rfl F.out.1.2 ?_)
            go_meet
            case rel => exact ⟨ee, _, _, _, _, rfl, rfl, HP, Lib.hid F.out.2⟩
            -- ]PART
          · -- [PART SET
            have hdb1 : (d == 1) = false := by simp [hd1]
            clear hd hd1 f0
            have h1 := set_any W1 p A L H.out.st.rt sl at'
            have h2 : ∀ w5, PL w p b (setA A sl at') L A L u v w5 → Calls Try.prog 14 #[.agg #[u, v], .int .i64 sl, .int .i64 at'] w5 _ := fun w5 h5 => rset_any w5 u v A L sl at' h5.ru h5.rv (by omega)
            generalize setE A sl at' = ee at h1 h2
            have HP : Hid (((setA A sl at')).length = N) := Lib.hid (by rw [setA_len]; exact HAL.out)
            go_wp2_with fail
            refine h1.mono ?_
            rintro e w5 ⟨rfl, s5, k5⟩
            have H5 := Lib.hid (H.out.rt s5 k5)
            have hc5 := k5.row (by simpa using HCP.out) HC.out
            have a1 : w5.cell? ⟨c, 1, none⟩ = some (.int .i64 sl) := cell_of_row hc5 1
            have a2 : w5.cell? ⟨c, 2, none⟩ = some (.int .i64 at') := cell_of_row hc5 2
            have z0 := H5.out.c0
            have z1 := H5.out.c1
            clear H s5 k5 h1 hc5 g1 g2
            go_wp2_with fail
            refine (h2 w5 H5.out).mono ?_
            rintro e w6 ⟨u6, v6, rfl, ru6, rv6, k6⟩
            have F := Lib.hid (H5.out.next k6 ru6 rv6)
            clear k6 ru6 rv6 h2 z0 z1 H5 a1 a2
            go_wp2_with (refine wpList_store_row rfl 30 _ _ rfl b _ rfl rfl 30 _ F.out.1.1 (by kernel_rfl) rfl F.out.1.2 ?_)
            go_meet
            case rel => exact ⟨ee, _, _, _, _, rfl, rfl, HP, Lib.hid F.out.2⟩
            -- ]PART
      case rest =>
        -- [PART REST
        clear H g0 g1 g2 hA8 hL16 f0 HC HCP HAL
        obtain ⟨ee, A', L', u', v', rfl, rfl, HAL, HX⟩ := hcut
        obtain ⟨nl, hnl⟩ : ∃ nl, nl = L'.length := ⟨_, rfl⟩
        have HNL := Lib.hid hnl
        obtain ⟨uo, uc, hu, -⟩ := HX.out.ru.form
        obtain ⟨vo, vc, hv, -⟩ := HX.out.rv.form
        rw [HAL.out] at hu
        rw [← hnl] at hv
        have hL16 : nl ≤ 16 := by rw [hnl]; exact HX.out.st.rt.ll
        subst hu hv
        clear hnl
        obtain ⟨zs, hzs⟩ : ∃ zs, zs = nz (A' ++ L') := ⟨_, rfl⟩
        obtain ⟨n, hn⟩ : ∃ n, n = zs.length := ⟨_, rfl⟩
        have HZ := Lib.hid hzs
        have HN := Lib.hid hn
        clear hzs hn
        go_upto_region 23 with (fail)
        go_cut [12, 13] from 105 to 108 (fun v12 v13 w' => ∃ (ao5 : Option Addr) (c5 : Nat) (ao6 : Option Addr) (c6 : Nat), v12 = .slice ao5 n c5 ∧ v13 = .slice ao6 n c6 ∧ Hid (PA w p b A' L' (.slice uo N uc) (.slice vo nl vc) zs (.slice ao5 n c5) (.slice ao6 n c6) w'))
        case first =>
          have hall : ∀ w', Kp [] wc w' → Calls Try.prog 15 #[.pointer (some ⟨p, 0, none⟩)] w' (AnsR w' n zs) := fun w' hk =>
            (all_any w' p A' L' (HX.out.st.rt.keep0 hk)).mono fun e w2 h => ansR HN.out (by rw [HZ.out]; exact h)
          have hrall : ∀ w', Kp [] wc w' → Calls Try.prog 16 #[.agg #[.slice uo N uc, .slice vo nl vc]] w' (AnsR w' n zs) := fun w' hk =>
            (rall_any w' _ _ A' L' (HX.out.ru.keep0 hk) (HX.out.rv.keep0 hk) HX.out.st.rt.la HX.out.st.rt.ll).mono fun e w2 h => ansR HN.out (by rw [HZ.out]; exact h)
          have HALL := Lib.hid hall
          have HRALL := Lib.hid hrall
          have B := Lib.hid (look_mk HX.out.c0 HX.out.c1 (Kp.refl [] wc))
          clear hall hrall
          go_region_held3 (fun w' => w'.cell? ⟨b, 0, none⟩ = some (.slice uo N uc) ∧ w'.cell? ⟨b, 1, none⟩ = some (.slice vo nl vc) ∧ wc.cell? ⟨b, 0, none⟩ = some (.slice uo N uc) ∧ wc.cell? ⟨b, 1, none⟩ = some (.slice vo nl vc) ∧ Kp [] wc w')
            (first
              | exact look_on B.out (Kp.refl _ _).drew
              | exact look_on ‹Look wc b (.slice uo N uc) (.slice vo nl vc) _› k5
              | exact look_on ‹Look wc b (.slice uo N uc) (.slice vo nl vc) _› k6)
            (first
              | (go_at_call 15
                 refine (HALL.out _ (look_kp ‹Look wc b (.slice uo N uc) (.slice vo nl vc) _›)).mono ?_
                 rintro e w5 ⟨ao5, c5, rfl, r5, k5⟩
                 have R5 := Lib.hid r5
                 clear r5)
              | (go_at_call 16
                 refine (HRALL.out _ (look_kp ‹Look wc b (.slice uo N uc) (.slice vo nl vc) _›)).mono ?_
                 rintro e w6 ⟨ao6, c6, rfl, r6, k6⟩
                 have R6 := Lib.hid r6
                 clear r6))
          all_goals
            go_wp2_with fail
            go_meet
            first
              | exact ⟨_, _, _, _, rfl, rfl, Lib.hid ⟨HX.out.on (((Kp.refl _ _).drew.trans k5).trans k6), R5.out.keep0 k6, R6.out⟩⟩
              | exact ⟨_, _, _, _, rfl, rfl, Lib.hid ⟨HX.out.on (((Kp.refl _ _).drew.trans k6).trans k5), R5.out, R6.out.keep0 k5⟩⟩
        case rest =>
          obtain ⟨ao5, c5, ao6, c6, rfl, rfl, HA⟩ := hcut
          clear HX
          have h1 : ∀ j, Calls Try.prog 17 #[.pointer (some ⟨p, 0, none⟩)] (wc.drewN j) fun e w' => e = .returned (.int .i64 nl) ∧ w' = wc.drewN j := fun j =>
            (depth_any (wc.drewN j) p A' L' (HA.out.pl.st.rt.keep0 (kp_drewN wc j))).mono fun e w' h => ⟨by rw [HNL.out]; exact h.1, h.2.symm⟩
          have h2 : ∀ j, Calls Try.prog 18 #[.pointer (some ⟨p, 0, none⟩)] (wc.drewN j) fun e w' => e = .returned (.int .i64 N) ∧ w' = wc.drewN j := fun j =>
            (slots_any (wc.drewN j) p A' L' (HA.out.pl.st.rt.keep0 (kp_drewN wc j))).mono fun e w' h => ⟨by rw [← HAL.out]; exact h.1, h.2.symm⟩
          have z1 := HA.out.pl.c1
          have hn24 : n ≤ 100 := by
            have := nz_le (A' ++ L'); rw [List.length_append, HAL.out, ← HNL.out] at this
            rw [HN.out, HZ.out]; omega
          go_wp2_with fail
          go_quiet (first | (go_at_call 17; exact Calls.quiet_of_same (h1 _)) | (go_at_call 18; exact Calls.quiet_of_same (h2 _)))
          have H7 := Lib.hid (HA.out.on (kp_drewN wc nq))
          clear h1 h2 z1 HA
          generalize wc.drewN nq = w7 at H7 ⊢
          go_wp2_with fail
          go_loopg [14] n (fun gg jv wi => ∃ j : Nat, j + gg = n ∧ jv = .int .i64 (j : Int) ∧ Hid (PA w p b A' L' (.slice uo N uc) (.slice vo nl vc) zs (.slice ao5 n c5) (.slice ao6 n c6) wi))
          case atStart => exact ⟨0, by omega, rfl, H7⟩
          case round =>
            clear H7
            obtain ⟨j, hjg, rfl, H8⟩ := hrel
            by_cases hjn : j < n
            · obtain ⟨g5, i5, rfl, d5⟩ := H8.out.rx.cellAt (i := j) (by rw [← HN.out]; exact hjn)
              obtain ⟨g6, i6, rfl, d6⟩ := H8.out.ry.cellAt (i := j) (by rw [← HN.out]; exact hjn)
              generalize zs.getD j 0 = y at d5 d6
              go_wp2_with fail
              go_quiet (fail)
              have H9 := Lib.hid (H8.out.on (kp_drewN wr nq))
              clear d5 d6 H8
              go_wp2_with fail
              go_roundg (n - (j + 1))
              case measure => omega
              case rel => exact ⟨j + 1, by omega, by go_num, H9⟩
            · have hnn : ¬ ((j : Int) < (n : Int)) := by omega
              have hst := stack_any wr p A' L' H8.out.pl.st.rt
              obtain ⟨z, hz⟩ : ∃ z, z = wr.heap.size := ⟨_, rfl⟩
              rw [← hz, ← HNL.out] at hst
              clear hz
              go_wp2_with fail
              refine hst.mono ?_
              rintro e w5 ⟨rfl, hrow, hk⟩
              have H5 := Lib.hid (H8.out.pl.on hk)
              have HZR := Lib.hid hrow
              clear H8 hst hrow hk hjg hnn
              have z1 := H5.out.c1
              go_wp2_with fail
              clear z1
              go_loopg [16] nl (fun gg jv wi => ∃ j : Nat, j + gg = nl ∧ jv = .int .i64 (j : Int) ∧ Hid (PL w p b A' L' A' L' (.slice uo N uc) (.slice vo nl vc) wi) ∧ Hid (wi.heap[z]? = some (.cells (ints L').toArray 3 (0, 0))))
              case atStart => exact ⟨0, by omega, rfl, H5, HZR⟩
              case round =>
                clear H5 HZR
                obtain ⟨j, hjg, rfl, H6, HZR⟩ := hrel
                have z1 := H6.out.c1
                by_cases hjn : j < nl
                · have hjl : j < L'.length := by rw [← HNL.out]; exact hjn
                  obtain ⟨g, i', rfl, hcu⟩ := H6.out.rv.cellAt hjl
                  have hcz : wr.cell? ⟨z, j, none⟩ = some (.int .i64 (L'.getD j 0)) := by rw [cell_of_row HZR.out, ← ints_get L' j hjl]; simp
                  generalize L'.getD j 0 = y at hcu hcz
                  clear hjl
                  go_wp2_with fail
                  go_quiet (fail)
                  have H7 := Lib.hid (H6.out.on (kp_drewN wr nq))
                  have HZ2 : Hid ((wr.drewN nq).heap[z]? = some (.cells (ints L').toArray 3 (0, 0))) := Lib.hid ((kp_drewN (S := []) wr nq).row (by simp) HZR.out)
                  clear hcu hcz z1 H6 HZR
                  go_wp2_with fail
                  go_roundg (nl - (j + 1))
                  case measure => omega
                  case rel => exact ⟨j + 1, by omega, by go_num, H7, HZ2⟩
                · have hnn : ¬ ((j : Int) < (nl : Int)) := by omega
                  clear HZR hjg z1
                  go_wp2_with fail
                  go_loopg [17] (N + 2) (fun gg qv wi => ∃ q : Int, qv = .int .i64 q ∧ -1 ≤ q ∧ q ≤ (N : Int) + 1 - gg ∧ (N : Int) + 1 - gg ≤ q ∧ Hid (PL w p b A' L' A' L' (.slice uo N uc) (.slice vo nl vc) wi))
                  case atStart => exact ⟨-1, rfl, by omega, by omega, by omega, H6⟩
                  case round =>
                    clear H6
                    obtain ⟨q, rfl, hq0, hq1, hq2, H7⟩ := hrel
                    by_cases hqN : q ≤ (N : Int)
                    · by_cases hqn : q < 0
                      · obtain rfl : q = -1 := by omega
                        have hg := get_bad wr p A' L' H7.out.st.rt (-1) (.inl (by omega))
                        have HG := Lib.hid (And.intro hq1 hq2)
                        clear hq0 hq1 hq2 hqn
                        go_wp2_with fail
                        refine hg.mono ?_
                        rintro e w8 ⟨rfl, rfl⟩
                        clear hg
                        go_wp2_with fail
                        go_roundg (N + 1)
                        case measure => have := HG.out; omega
                        case rel => exact ⟨0, rfl, by omega, by omega, by omega, H7⟩
                      · by_cases hqe : q = N
                        · subst hqe
                          have hg := get_bad wr p A' L' H7.out.st.rt (N : Int) (.inr (by rw [HAL.out]; exact Int.le_refl _))
                          have HG := Lib.hid (And.intro hq1 hq2)
                          clear hq0 hq1 hq2
                          go_wp2_with fail
                          refine hg.mono ?_
                          rintro e w8 ⟨rfl, rfl⟩
                          clear hg
                          go_wp2_with fail
                          go_roundg 0
                          case measure => have := HG.out; omega
                          case rel => exact ⟨(N : Int) + 1, rfl, by omega, by omega, by omega, H7⟩
                        · obtain ⟨j2, rfl⟩ : ∃ j2 : Nat, q = j2 := ⟨q.toNat, by omega⟩
                          have hj2 : j2 < N := by omega
                          have hj2A : j2 < A'.length := by rw [HAL.out]; exact hj2
                          have hg := get_ok wr p A' L' H7.out.st.rt j2 hj2A
                          obtain ⟨gu, iu, rfl, hcu⟩ := H7.out.ru.cellAt hj2A
                          have z0 := H7.out.c0
                          have hqb : ((j2 : Int) == (N : Int)) = false := by simp; omega
                          generalize A'.getD j2 0 = y at hg hcu
                          have HG := Lib.hid (And.intro hq1 hq2)
                          clear hq0 hq1 hq2 hqe hj2A
                          go_wp2_with fail
                          refine hg.mono ?_
                          rintro e w8 ⟨rfl, rfl⟩
                          clear hg
                          go_wp2_with fail
                          clear z0 hcu
                          go_roundg (N - j2)
                          case measure => have := HG.out; omega
                          case rel => exact ⟨(j2 : Int) + 1, rfl, by omega, by omega, by omega, H7⟩
                    · clear hq0 hq1 hq2
                      go_wp2_with fail
                      go_roundg (m - (k + 1))
                      case measure => omega
                      case rel => exact ⟨k + 1, A', L', _, _, by omega, by go_num, HAL, H7⟩
        -- ]PART
    · have hkm' : ¬ ((k : Int) < (m : Int)) := by omega
      have hwk := wakes_any wr
      have HB := Lib.hid H.out.st.kp
      clear H hkg
      go_wp2_with fail
      refine hwk.mono ?_
      rintro e w7 ⟨rfl, hb7⟩
      have hb8 := Lib.hid (HB.out.trans hb7)
      clear hb7 HB hwk
      go_wp2_with fail
      go_ret
      exact ⟨rfl, hb8.out⟩

end Go.Proofs.Ytbclbgabeffcfaa
