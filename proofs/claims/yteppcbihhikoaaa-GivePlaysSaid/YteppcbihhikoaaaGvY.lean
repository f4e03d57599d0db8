/- GivePlays, walked: for every number of blocks and every row of acts it returns true. Conditions: the acts lie where the slice leads. -/
import Derived.Test.YteppcbihhikoaaaGvX
import Derived.Deep.LoopGhost
import Derived.Deep.CutRange
import Derived.Deep.CutBlock
import Derived.Deep.DeepCutAuto
import Derived.Deep.RegionHeld3
import Derived.Carry
import Derived.BigQuiet
namespace Go.Proofs.Yteppcbihhikoaaa
set_option linter.unusedVariables false
set_option linter.unusedSimpArgs false
open Go.RowKit

set_option maxRecDepth 100000 in
set_option maxHeartbeats 8000000 in
theorem plays_main (w : World) (n : Nat) (h1 : 1 ≤ n) (h20 : n ≤ 20) (ao : Option Addr) (cap0 : Nat) (A : List (Int × Int × Int × Int × Int × Int × Int × Int)) (hm : A.length ≤ 100) (hA : Acts w ao A) :
    Calls Try.prog 3 #[.int .u8 n, .slice ao A.length cap0] w fun e w' => e = .returned (.bool true) ∧ Kp [] w w' := by
  have e1 := IntWalk.i64_in (n : Int) (by omega)
  have hmade := Lib.hid (made_is w n h1 (by omega))
  have hrb := Lib.hid (fun w => r_begin w n h1 (by omega) _ rfl)
  obtain ⟨m, hmm⟩ : ∃ m, m = A.length := ⟨_, rfl⟩
  have HM := Lib.hid hmm
  rw [← hmm] at hm ⊢
  clear hmm
  go_enter Try.func3, Try.ntmps3
  go_wp2_with fail
  refine hmade.out.mono ?_
  rintro e w1 ⟨rfl, hg, hk⟩
  obtain ⟨p, hp⟩ : ∃ p, p = w.heap.size + 1 + 1 := ⟨_, rfl⟩
  obtain ⟨r, hr⟩ : ∃ r, r = w.heap.size + 1 := ⟨_, rfl⟩
  rw [← hp, ← hr] at hg
  rw [← hp]
  have H0 : Hid (Wk w1.heap.size p r n ⟨0, List.replicate n 0⟩ 0 w (w1.alloc (.cells #[.int .i64 1, .int .i64 1, .int .i64 n] 26))) := Lib.hid (Wk.new hg hk (by omega) (by omega))
  have hpr := hg.lt
  have hz1 := hk.size
  clear hg hk hp hr hmade
  go_wp2_with fail
  refine (g_begin H0.out.gw (by omega) (2 ^ min n 64 - 1) rfl).mono ?_
  rintro e w2 ⟨rfl, hg, hk⟩
  have H1 := Lib.hid (H0.out.step hg hk)
  have hz2 := hk.size
  rw [World.size_alloc] at hz2
  clear hg hk H0
  go_wp2_with fail
  refine (hrb.out _).mono ?_
  rintro e w3 ⟨v, rfl, hD, hk⟩
  generalize 2 ^ min n 64 - 1 = M at H1 hD
  obtain ⟨q, cap, rfl, hrow, hq⟩ := hD.ex
  have hz3 := hk.size
  have k4 : Kp [] w3 (w3.alloc (.cells (s3 n M q cap) 33)) := (Kp.refl _ _).alloc _
  have HG : Hid (GP w w1.heap.size p r n w3.heap.size w2.heap.size ⟨M, List.replicate n 0⟩ ⟨M, List.replicate n 0⟩ 1 q cap (w3.alloc (.cells (s3 n M q cap) 33))) :=
    Lib.hid ⟨(H1.out.on hk).on k4, heap_alloc_new _ _, hrow.keep k4 (by simp), hq, ⟨by omega, by omega, by omega, by omega, by have := H1.out.kp.size; omega⟩, (H1.out.gw.ok), h1, h20⟩
  clear hD hrow hq hk H1 k4 hrb
  unfold sv
  unfold s3 at HG
  go_wp2_with fail
  obtain ⟨a, ha⟩ : ∃ a, a = w1.heap.size := ⟨_, rfl⟩
  obtain ⟨b, hb⟩ : ∃ b, b = w3.heap.size := ⟨_, rfl⟩
  obtain ⟨w4, hw4⟩ : ∃ w4, w4 = w3.alloc (.cells #[.int .i64 n, .int .u64 M, .slice (some ⟨q, 0, none⟩) n cap] 33) := ⟨_, rfl⟩
  rw [← ha, ← hb, ← hw4] at HG
  rw [← ha, ← hb, ← hw4]
  generalize w2.heap.size = base at HG hz2 hz3
  clear ha hb hw4 hz1 hz2 hz3 hpr
  go_loopg [10] m (fun gg vi wr => ∃ (k : Nat) (g : Gv) (t q cap : Nat), k + gg = m ∧ vi = .int .i64 (k : Int) ∧ t ≤ 1 + 200 * k ∧ Hid (GP w a p r n b base g g t q cap wr))
  case atStart => exact ⟨0, _, 1, q, cap, by omega, rfl, by omega, HG⟩
  case round =>
    clear HG
    obtain ⟨k, g, t, q, cap, hkg, rfl, ht, H⟩ := hrel
    by_cases hkm : k < m
    · have hkl : k < A.length := HM.out ▸ hkm
      obtain ⟨ab, i, hao, hbw, q0, q1, q2, q3, q4, q5, q6, q7, f0, f1, f2, f3, f4, f5, f6, f7⟩ := hA k _ (List.getElem?_eq_getElem hkl)
      subst hao
      generalize A[k].1 = d at q0 f0
      generalize A[k].2.1 = bl at q1 f1
      generalize A[k].2.2.1 = ru at q2 f2
      generalize A[k].2.2.2.1 = ow at q3 f3
      generalize A[k].2.2.2.2.1 = ek0 at q4 f4
      generalize A[k].2.2.2.2.2.1 = ec0 at q5 f5
      generalize A[k].2.2.2.2.2.2.1 = er0 at q6 f6
      generalize A[k].2.2.2.2.2.2.2 = eo0 at q7 f7
      have g0 : wr.cell? ⟨ab, i + k * 8, none⟩ = some (.int .u8 d) := kp_cell H.out.wk.kp (by simp) q0
      have g1 : wr.cell? ⟨ab, i + k * 8 + 1, none⟩ = some (.int .i64 bl) := kp_cell H.out.wk.kp (by simp) q1
      have g2 : wr.cell? ⟨ab, i + k * 8 + 2, none⟩ = some (.int .i64 ru) := kp_cell H.out.wk.kp (by simp) q2
      have g3 : wr.cell? ⟨ab, i + k * 8 + 3, none⟩ = some (.int .u8 ow) := kp_cell H.out.wk.kp (by simp) q3
      have g4 : wr.cell? ⟨ab, i + k * 8 + 4, none⟩ = some (.int .u8 ek0) := kp_cell H.out.wk.kp (by simp) q4
      have g5 : wr.cell? ⟨ab, i + k * 8 + 5, none⟩ = some (.int .u8 ec0) := kp_cell H.out.wk.kp (by simp) q5
      have g6 : wr.cell? ⟨ab, i + k * 8 + 6, none⟩ = some (.int .u8 er0) := kp_cell H.out.wk.kp (by simp) q6
      have g7 : wr.cell? ⟨ab, i + k * 8 + 7, none⟩ = some (.int .u8 eo0) := kp_cell H.out.wk.kp (by simp) q7
      clear q0 q1 q2 q3 q4 q5 q6 q7
      have B := Lib.hid (And.intro (bounds_u8 f0) (And.intro (bounds_u8 f3) (And.intro (bounds_u8 f4) (And.intro (bounds_u8 f5) (And.intro (bounds_u8 f6) (bounds_u8 f7))))))
      clear f0 f1 f2 f3 f4 f5 f6 f7 hbw
      have HA := Lib.hid (heap_alloc_new wr (.cells #[.int .u8 d, .int .i64 bl, .int .i64 ru, .int .u8 ow, .int .u8 ek0, .int .u8 ec0, .int .u8 er0, .int .u8 eo0] 38))
      have H2 := Lib.hid (H.out.on ((Kp.refl [] wr).alloc (.cells #[.int .u8 d, .int .i64 bl, .int .i64 ru, .int .u8 ow, .int .u8 ek0, .int .u8 ec0, .int .u8 er0, .int .u8 eo0] 38)))
      have hcb := lt_of_block H.out.box
      clear H
      go_wp2_with fail
      refine (g_touched H2.out.wk.gw).mono ?_
      rintro e w5 ⟨rfl, rfl⟩
      obtain ⟨c, hc⟩ : ∃ c, c = wr.heap.size := ⟨_, rfl⟩
      obtain ⟨wa, hwa⟩ : ∃ wa, wa = wr.alloc (.cells #[.int .u8 d, .int .i64 bl, .int .i64 ru, .int .u8 ow, .int .u8 ek0, .int .u8 ec0, .int .u8 er0, .int .u8 eo0] 38) := ⟨_, rfl⟩
      rw [← hc, ← hwa] at HA
      rw [← hwa] at H2
      rw [← hc] at hcb
      rw [← hc, ← hwa]
      clear hc hwa g0 g1 g2 g3 g4 g5 g6 g7
      have x0 : wa.cell? ⟨c, 0, none⟩ = some (.int .u8 d) := cell_of_row HA.out 0
      have x1 : wa.cell? ⟨c, 1, none⟩ = some (.int .i64 bl) := cell_of_row HA.out 1
      have x2 : wa.cell? ⟨c, 2, none⟩ = some (.int .i64 ru) := cell_of_row HA.out 2
      have x3 : wa.cell? ⟨c, 3, none⟩ = some (.int .u8 ow) := cell_of_row HA.out 3
      have x4 : wa.cell? ⟨c, 4, none⟩ = some (.int .u8 ek0) := cell_of_row HA.out 4
      have x5 : wa.cell? ⟨c, 5, none⟩ = some (.int .u8 ec0) := cell_of_row HA.out 5
      have x6 : wa.cell? ⟨c, 6, none⟩ = some (.int .u8 er0) := cell_of_row HA.out 6
      have x7 : wa.cell? ⟨c, 7, none⟩ = some (.int .u8 eo0) := cell_of_row HA.out 7
      obtain ⟨l0, l1, l2⟩ := H2.out.wk.lx
      go_upto_block 2 with (fail)
      go_cut [13, 14, 15, 16, 17] from 49 to 243 (fun v13 _ _ _ _ w' => ∃ (g' : Gv) (t' q' cap' want : Nat), v13 = .int .u64 want ∧ t + want = t' ∧ want ≤ 100 ∧ Hid (GP w a p r n b base g' g' t' q' cap' w') ∧ Hid (w'.heap[c]? = some (.cells #[.int .u8 d, .int .i64 bl, .int .i64 ru, .int .u8 ow, .int .u8 ek0, .int .u8 ec0, .int .u8 er0, .int .u8 eo0] 38 (0, 0))))
      case first =>
        by_cases hd : d = 0
        · as_aux_lemma =>
            have hdb : (d == 0) = true := by simp [hd]

            obtain ⟨at', ok, M', hcl⟩ := claims_any g.M ru
            obtain ⟨xx, hxx⟩ : ∃ xx : Int, (if ok then at' else -1) = xx := ⟨_, rfl⟩
            have hM' := claims_lt hcl H2.out.okh.map
            obtain ⟨dd, hdd⟩ : ∃ dd : Nat, (decide (1 ≤ ru ∧ ru ≤ 3)).toNat = dd := ⟨_, rfl⟩
            have HC := Lib.hid (g_claim H2.out.wk.gw (by omega) hcl dd hdd)
            have HR := Lib.hid (fun (w' : World) (H' : GP w a p r n b base ⟨M', g.E⟩ g (t + dd) q cap w') => r_claim H'.dv H2.out.okh.map hcl xx hxx)
            have HOK : Hid (Gv.Ok n ⟨M', g.E⟩) := Lib.hid (H2.out.okh.setM hM')
            have hw0 : (ok = true ∧ 0 ≤ xx ∧ at' = xx ∧ 1 ≤ ru ∧ ru ≤ 3 ∧ dd = 1) ∨ (ok = false ∧ xx = -1 ∧ at' = 0 ∧ 1 ≤ ru ∧ ru ≤ 3 ∧ dd = 1) ∨ (ok = false ∧ xx = -1 ∧ at' = 0 ∧ ru < 1 ∧ ru < 1 ∧ dd = 0) ∨ (ok = false ∧ xx = -1 ∧ at' = 0 ∧ 1 ≤ ru ∧ 3 < ru ∧ dd = 0) := by
              have hd1 : (1 ≤ ru ∧ ru ≤ 3 ∧ dd = 1) ∨ (ru < 1 ∧ dd = 0) ∨ (1 ≤ ru ∧ 3 < ru ∧ dd = 0) := by
                by_cases hr : 1 ≤ ru ∧ ru ≤ 3
                · rw [decide_eq_true hr] at hdd; exact .inl ⟨hr.1, hr.2, hdd.symm⟩
                · rw [decide_eq_false hr] at hdd
                  by_cases hr1 : ru < 1
                  · exact .inr (.inl ⟨hr1, hdd.symm⟩)
                  · exact .inr (.inr ⟨by omega, by omega, hdd.symm⟩)
              rcases hcl with ⟨k0, _, hf, ha, hok, _⟩ | ⟨_, ha, hok, _⟩
              · have hk1 := hf.1
                simp only [Bm.isR, Bool.and_eq_true, decide_eq_true_eq] at hk1
                have h3 : 1 ≤ ru ∧ ru ≤ 3 ∧ dd = 1 := by
                  rcases hd1 with h | h | h
                  · exact h
                  · omega
                  · exact absurd (show Bm.isR g.M k0 ru true = false from none_bad (by omega) k0) (by rw [hf.1]; simp)
                subst hok; simp only [if_true] at hxx; subst hxx
                exact .inl ⟨rfl, by omega, rfl, h3⟩
              · subst hok; simp at hxx; subst hxx
                rcases hd1 with h | h | h
                · exact .inr (.inl ⟨rfl, rfl, ha, h⟩)
                · exact .inr (.inr (.inl ⟨rfl, rfl, ha, h.1, h⟩))
                · exact .inr (.inr (.inr ⟨rfl, rfl, ha, h⟩))
            clear hcl hxx hM' hdd
            have HW0 := Lib.hid hw0
            clear hw0
            go_wp2_with fail
            refine HC.out.mono ?_
            rintro e w6 ⟨rfl, hg, hk⟩
            have H3 := Lib.hid (H2.out.step hg hk)
            have HA3 := Lib.hid (hk.row (by have := H2.out.lo; simp; omega) HA.out)
            obtain ⟨b0, b1, b2⟩ := H3.out.cells
            have y2 : w6.cell? ⟨c, 2, none⟩ = some (.int .i64 ru) := cell_of_row HA3.out 2
            clear hg hk x0 x1 x2 x3 x4 x5 x6 x7 l0 l1 l2
            go_wp2_with fail
            refine (HR.out _ H3.out).mono ?_
            rintro e w7 ⟨v, rfl, hD, hk⟩
            obtain ⟨q2, cap2, rfl, hr2, hq2⟩ := hD.ex
            have k8 : Kp [] w6 (w7.alloc (.cells (s3 n M' q2 cap2) 33)) := hk.trans ((Kp.refl _ _).alloc _)
            have B8 := Lib.hid (k8.row (by simp) H3.out.box)
            have H8 := Lib.hid (H3.out.put (h' := ⟨M', g.E⟩) k8 (hr2.keep ((Kp.refl [] w7).alloc (.cells (s3 n M' q2 cap2) 33)) (by simp)) hq2 HOK.out)
            have ka : Kp [b] (w7.alloc (.cells (s3 n M' q2 cap2) 33)) ((w7.alloc (.cells (s3 n M' q2 cap2) 33)).setRow b (s3 n M' q2 cap2)) := (Kp.refl _ _).setRow (.inl (by simp)) _
            have HA8 := Lib.hid (ka.row (by simp; omega) (k8.row (by simp) HA3.out))
            obtain ⟨w8, hw8⟩ : ∃ w8, w8 = (w7.alloc (.cells (s3 n M' q2 cap2) 33)).setRow b (s3 n M' q2 cap2) := ⟨_, rfl⟩
            rw [← hw8] at H8 HA8
            unfold s3 at hw8
            have z2 : w8.cell? ⟨c, 2, none⟩ = some (.int .i64 ru) := cell_of_row HA8.out 2
            clear hD hk hr2 hq2 k8 ka b0 b1 b2 y2
            unfold sv
            go_upto_region 24 with (refine wpList_store_row rfl 33 _ _ rfl b _ rfl rfl 33 _ B8.out (by kernel_rfl) rfl (by simp [Value.oneCell']) ?_)
            rw [← hw8]
            clear hw8 B8 H3 HA3 H2 HA HC HR HOK
            have hw0 := HW0.out
            clear HW0
            rcases hw0 with ⟨rfl, c1, rfl, c2, c3, rfl⟩ | ⟨rfl, rfl, rfl, c2, c3, rfl⟩ | ⟨rfl, rfl, rfl, c2, c3, rfl⟩ | ⟨rfl, rfl, rfl, c2, c3, rfl⟩
            all_goals
              go_wp2_with fail
              go_meet
              case rel => first | exact ⟨_, _, q2, cap2, 1, rfl, rfl, by decide, H8, HA8⟩ | exact ⟨_, _, q2, cap2, 0, rfl, rfl, by decide, H8, HA8⟩
        · have hdb : (d == 0) = false := by simp [hd]
          by_cases hd1 : d = 1
          · as_aux_lemma =>
              have hdb1 : (d == 1) = true := by simp [hd1]

              obtain ⟨gj, hgj⟩ : ∃ gj, gj = backG n g bl ru := ⟨_, rfl⟩
              obtain ⟨dd, hdd⟩ : ∃ dd : Nat, (if runG n bl ru then ru.toNat + 1 else 0) = dd := ⟨_, rfl⟩
              have HC := Lib.hid (g_back H2.out.wk.gw (by omega) bl ru dd hdd)
              have HR := Lib.hid (fun (w' : World) (H' : GP w a p r n b base gj g (t + dd) q cap w') => r_Back H'.dv H2.out.okh.map H'.size bl ru)
              have HOK : Hid (Gv.Ok n gj) := Lib.hid (hgj ▸ H2.out.okh.back bl ru)
              rw [← hgj] at HC HR
              have hw0 : (1 ≤ ru ∧ ru ≤ 3 ∧ 0 ≤ bl ∧ bl ≤ n - ru ∧ dd = ru.toNat + 1) ∨ (ru < 1 ∧ ru < 1 ∧ ru < 1 ∧ ru < 1 ∧ dd = 0) ∨ (1 ≤ ru ∧ 3 < ru ∧ 3 < ru ∧ 3 < ru ∧ dd = 0) ∨ (1 ≤ ru ∧ ru ≤ 3 ∧ bl < 0 ∧ bl < 0 ∧ dd = 0) ∨ (1 ≤ ru ∧ ru ≤ 3 ∧ 0 ≤ bl ∧ n - ru < bl ∧ dd = 0) := by
                cases hr : runG n bl ru
                · have h := runG_not.1 hr
                  rw [hr] at hdd
                  simp only [Bool.false_eq_true, if_false] at hdd
                  omega
                · have h := runG_iff.1 hr
                  rw [hr] at hdd
                  simp only [if_true] at hdd
                  omega
              have e9 : 1 ≤ ru ∧ ru ≤ 3 → IntKind.i64.wrap ((n : Int) - ru) = n - ru := fun h => IntWalk.i64_in _ (by omega)
              clear hdd hgj
              have HW0 := Lib.hid hw0
              have E9 := Lib.hid e9
              clear hw0 e9
              go_wp2_with fail
              refine HC.out.mono ?_
              rintro e w6 ⟨rfl, hg, hk⟩
              have H3 := Lib.hid (H2.out.step hg hk)
              have HA3 := Lib.hid (hk.row (by have := H2.out.lo; simp; omega) HA.out)
              obtain ⟨b0, b1, b2⟩ := H3.out.cells
              have y1 : w6.cell? ⟨c, 1, none⟩ = some (.int .i64 bl) := cell_of_row HA3.out 1
              have y2 : w6.cell? ⟨c, 2, none⟩ = some (.int .i64 ru) := cell_of_row HA3.out 2
              clear hg hk x0 x1 x2 x3 x4 x5 x6 x7 l0 l1 l2
              go_wp2_with fail
              refine (HR.out _ H3.out).mono ?_
              rintro e w7 ⟨v, rfl, hD, hk⟩
              obtain ⟨q2, cap2, rfl, hr2, hq2⟩ := hD.ex

              have k8 : Kp [b] w7 (w7.setRow b (s3 n gj.M q2 cap2)) := (Kp.refl _ _).setRow (.inl (by simp)) _
              have B8 := Lib.hid (hk.row (by simp) H3.out.box)
              have H8 := Lib.hid (H3.out.put hk hr2 hq2 HOK.out)
              have HA8 := Lib.hid (k8.row (by simp; omega) (hk.row (by simp) HA3.out))
              obtain ⟨w8, hw8⟩ : ∃ w8, w8 = w7.setRow b (s3 n gj.M q2 cap2) := ⟨_, rfl⟩
              rw [← hw8] at H8 HA8
              unfold s3 at hw8

              have z1 : w8.cell? ⟨c, 1, none⟩ = some (.int .i64 bl) := cell_of_row HA8.out 1
              have z2 : w8.cell? ⟨c, 2, none⟩ = some (.int .i64 ru) := cell_of_row HA8.out 2
              clear hD hk hr2 hq2 k8 b0 b1 b2 y1 y2
              unfold sv
              go_upto_region 31 with (refine wpList_store_row rfl 33 _ _ rfl b _ rfl rfl 33 _ B8.out (by kernel_rfl) rfl (by simp [Value.oneCell']) ?_)
              rw [← hw8]
              clear hw8 B8 H3 HA3 H2 HA HC HR HOK
              have hw0 := HW0.out
              clear HW0
              rcases hw0 with ⟨c1, c2, c3, c4, c5⟩ | ⟨c1, c2, c3, c4, c5⟩ | ⟨c1, c2, c3, c4, c5⟩ | ⟨c1, c2, c3, c4, c5⟩ | ⟨c1, c2, c3, c4, c5⟩
              all_goals
                try have e9 := E9.out ⟨by omega, by omega⟩
                go_wp2_with fail
                go_meet
                case rel => first | exact ⟨_, _, q2, cap2, 0, rfl, by omega, by decide, H8, HA8⟩ | exact ⟨_, _, q2, cap2, dd, by go_num, rfl, by omega, H8, HA8⟩
          · have hdb1 : (d == 1) = false := by simp [hd1]
            by_cases hd2 : d = 2
            · as_aux_lemma =>
                have hdb2 : (d == 2) = true := by simp [hd2]

                have HI : Hid (∀ (o' : Int) (w' : World), Kp [p, r] wa w' → Calls Try.prog 14 (#[.int .u8 o'] ++ #[.pointer (some ⟨c, 0, none⟩)]) w' fun e w2 => e = .returned (.bool (o' == ow)) ∧ Kp [] w' w2) :=
                  Lib.hid fun o' w' hk => is_ow c o' ow w' (cell_of_row (hk.row (by have := H2.out.lo; simp; omega) HA.out) 3)
                have HC := Lib.hid (g_waiting H2.out.wk.gw (by omega) ow 14 #[.pointer (some ⟨c, 0, none⟩)] (fun _ _ => rfl) HI.out)
                have HR := Lib.hid (fun (t' : Nat) (w' : World) (H' : GP w a p r n b base (waitG n ow g n) g t' q cap w') => r_Waiting H'.dv H2.out.okh H'.size ow)
                have HOK : Hid (Gv.Ok n (waitG n ow g n)) := Lib.hid (H2.out.okh.wait ow n)
                generalize waitG n ow g n = gj at HC HR HOK
                clear HI
                go_wp2_with fail
                refine HC.out.mono ?_
                rintro e w6 ⟨t', ht0, ht1, rfl, hg, hk⟩
                have H3 := Lib.hid (H2.out.step hg hk)
                have HA3 := Lib.hid (hk.row (by have := H2.out.lo; simp; omega) HA.out)
                obtain ⟨b0, b1, b2⟩ := H3.out.cells
                have y3 : w6.cell? ⟨c, 3, none⟩ = some (.int .u8 ow) := cell_of_row HA3.out 3
                clear hg hk x0 x1 x2 x3 x4 x5 x6 x7 l0 l1 l2
                go_wp2_with fail
                refine (HR.out _ _ H3.out).mono ?_
                rintro e w7 ⟨v, rfl, hD, hk⟩
                obtain ⟨q2, cap2, rfl, hr2, hq2⟩ := hD.ex

                have k8 : Kp [b] w7 (w7.setRow b (s3 n gj.M q2 cap2)) := (Kp.refl _ _).setRow (.inl (by simp)) _
                have B8 := Lib.hid (hk.row (by simp) H3.out.box)
                have H8 := Lib.hid (H3.out.put hk hr2 hq2 HOK.out)
                have HA8 := Lib.hid (k8.row (by simp; omega) (hk.row (by simp) HA3.out))
                obtain ⟨w8, hw8⟩ : ∃ w8, w8 = w7.setRow b (s3 n gj.M q2 cap2) := ⟨_, rfl⟩
                rw [← hw8] at H8 HA8
                unfold s3 at hw8

                have HT := Lib.hid (g_touched H8.out.wk.gw)
                obtain ⟨want, hwt⟩ : ∃ want : Nat, t + want = t' := ⟨t' - t, by omega⟩
                have e9 : IntKind.u64.wrap ((t' : Int) - t) = want := by rw [IntWalk.u64_in _ (by omega)]; omega
                clear hD hk hr2 hq2 k8 b0 b1 b2 y3
                unfold sv
                go_upto_region 36 with (refine wpList_store_row rfl 33 _ _ rfl b _ rfl rfl 33 _ B8.out (by kernel_rfl) rfl (by simp [Value.oneCell']) ?_)
                rw [← hw8]
                clear hw8 B8 H3 HA3 H2 HA HC HR HOK
                go_wp2_with fail
                refine HT.out.mono ?_
                rintro e w9 ⟨rfl, rfl⟩
                go_wp2_with fail
                go_meet
                case rel => exact ⟨_, t', q2, cap2, want, rfl, hwt, by omega, H8, HA8⟩
            · as_aux_lemma =>
                have hdb2 : (d == 2) = false := by simp [hd2]

                obtain ⟨gj, hgj⟩ : ∃ gj, gj = setG n g bl ek0 ec0 er0 eo0 := ⟨_, rfl⟩
                obtain ⟨my, hmy⟩ : ∃ my, Tb.mayE ek0 ec0 er0 eo0 = my := ⟨_, rfl⟩
                obtain ⟨qq, hqq⟩ : ∃ qq : Bool, (decide (0 ≤ bl ∧ bl < n) && Tb.mayE ek0 ec0 er0 eo0) = qq := ⟨_, rfl⟩
                obtain ⟨⟨_, _⟩, ⟨_, _⟩, ⟨k0, _⟩, ⟨k1, _⟩, ⟨k2, _⟩, ⟨k3, _⟩⟩ := B.out
                have HEN := Lib.hid (fun w => entry_is ek0 ec0 er0 eo0 w)
                have HC := Lib.hid (fun (w' : World) (k : Kp [] wa w') => g_set (H2.out.wk.gw.on k) (by omega) bl ek0 ec0 er0 eo0 k0 k1 k2 k3 qq hqq)
                have HR := Lib.hid (fun (w' : World) (H' : GP w a p r n b base gj g (t + qq.toNat) q cap w') => r_Set H'.dv H'.size bl ek0 ec0 er0 eo0 k0 k1 k2 k3)
                have HMY := Lib.hid (fun w => Tb.rmay_is ek0 ec0 er0 eo0 my w k0 k1 k2 k3 hmy)
                have HOK : Hid (Gv.Ok n gj) := Lib.hid (hgj ▸ H2.out.okh.set bl ek0 ec0 er0 eo0 k0 k1 k2 k3)
                rw [← hgj] at HC HR
                have HW0 : Hid ((bl < 0 ∧ bl < 0 ∧ qq = false) ∨ (0 ≤ bl ∧ n ≤ bl ∧ qq = false) ∨ (0 ≤ bl ∧ bl < n ∧ qq = my)) := by
                  refine Lib.hid ?_
                  rw [hmy] at hqq
                  by_cases hb : 0 ≤ bl ∧ bl < n
                  · rw [decide_eq_true hb, Bool.true_and] at hqq
                    exact .inr (.inr ⟨hb.1, hb.2, hqq.symm⟩)
                  · rw [decide_eq_false hb, Bool.false_and] at hqq
                    by_cases h0 : bl < 0
                    · exact .inl ⟨h0, h0, hqq.symm⟩
                    · exact .inr (.inl ⟨by omega, by omega, hqq.symm⟩)
                clear hgj hmy hqq
                go_upto_region 16 with (fail)
                have HS := Lib.hid (ss_of (bl := bl) H2.out.wk.lx HA.out (Kp.refl [p, r] wa))
                have HP : Hid (a ≠ p ∧ a ≠ r ∧ c ≠ p ∧ c ≠ r) := Lib.hid (by have := H2.out.lo; have := H2.out.wk.ge; omega)
                go_region_held3 (fun wx => wx.cell? ⟨a, 0, none⟩ = some (.int .i64 1) ∧ wx.cell? ⟨a, 1, none⟩ = some (.int .i64 1) ∧ wx.cell? ⟨a, 2, none⟩ = some (.int .i64 n) ∧ wx.cell? ⟨c, 1, none⟩ = some (.int .i64 bl) ∧ wx.cell? ⟨c, 4, none⟩ = some (.int .u8 ek0) ∧ wx.cell? ⟨c, 5, none⟩ = some (.int .u8 ec0) ∧ wx.cell? ⟨c, 6, none⟩ = some (.int .u8 er0) ∧ wx.cell? ⟨c, 7, none⟩ = some (.int .u8 eo0) ∧ Kp [p, r] wa wx)
                  (first
                    | exact ss_keep HS.out ((Kp.refl _ _).drew) HP.out
                    | exact ss_keep ‹Ss a c n bl ek0 ec0 er0 eo0 p r wa _› (hk9.mono (by simp)) HP.out
                    | exact ss_keep ‹Ss a c n bl ek0 ec0 er0 eo0 p r wa _› hk8 HP.out)
                  (first
                  | (go_at_call 17; refine (HEN.out _).mono ?_; rintro e w3 ⟨rfl, hk9⟩
                     have K3 : Hid (Kp [] wa w3) := Lib.hid (by refine Kp.trans ?_ hk9; exact ⟨rfl, rfl, rfl, Nat.le_refl _, fun _ _ _ => rfl⟩))
                  | (go_at_call 16; refine (HC.out _ K3.out).mono ?_; rintro e w6 ⟨rfl, hg, hk8⟩
                     have HG6 := Lib.hid hg
                     have K6 := Lib.hid ((K3.out.mono (by simp)).trans hk8)
                     clear hg))
                rename_i hHeld
                clear hHeld
                have H3 := Lib.hid (H2.out.step HG6.out K6.out)
                have HA3 := Lib.hid (K6.out.row (by have := H2.out.lo; simp; omega) HA.out)
                obtain ⟨b0, b1, b2⟩ := H3.out.cells
                have y1 : w6.cell? ⟨c, 1, none⟩ = some (.int .i64 bl) := cell_of_row HA3.out 1
                have y4 : w6.cell? ⟨c, 4, none⟩ = some (.int .u8 ek0) := cell_of_row HA3.out 4
                have y5 : w6.cell? ⟨c, 5, none⟩ = some (.int .u8 ec0) := cell_of_row HA3.out 5
                have y6 : w6.cell? ⟨c, 6, none⟩ = some (.int .u8 er0) := cell_of_row HA3.out 6
                have y7 : w6.cell? ⟨c, 7, none⟩ = some (.int .u8 eo0) := cell_of_row HA3.out 7
                clear x0 x1 x2 x3 x4 x5 x6 x7 l0 l1 l2
                go_wp2_with fail
                refine (HR.out _ H3.out).mono ?_
                rintro e w7 ⟨v, rfl, hD, hk⟩
                obtain ⟨q2, cap2, rfl, hr2, hq2⟩ := hD.ex

                have k8 : Kp [b] w7 (w7.setRow b (s3 n gj.M q2 cap2)) := (Kp.refl _ _).setRow (.inl (by simp)) _
                have B8 := Lib.hid (hk.row (by simp) H3.out.box)
                have H8 := Lib.hid (H3.out.put hk hr2 hq2 HOK.out)
                have HA8 := Lib.hid (k8.row (by simp; omega) (hk.row (by simp) HA3.out))
                obtain ⟨w8, hw8⟩ : ∃ w8, w8 = w7.setRow b (s3 n gj.M q2 cap2) := ⟨_, rfl⟩
                rw [← hw8] at H8 HA8
                unfold s3 at hw8
                have z1 : w8.cell? ⟨c, 1, none⟩ = some (.int .i64 bl) := cell_of_row HA8.out 1
                have z4 : w8.cell? ⟨c, 4, none⟩ = some (.int .u8 ek0) := cell_of_row HA8.out 4
                have z5 : w8.cell? ⟨c, 5, none⟩ = some (.int .u8 ec0) := cell_of_row HA8.out 5
                have z6 : w8.cell? ⟨c, 6, none⟩ = some (.int .u8 er0) := cell_of_row HA8.out 6
                have z7 : w8.cell? ⟨c, 7, none⟩ = some (.int .u8 eo0) := cell_of_row HA8.out 7
                clear hD hk hr2 hq2 k8 b0 b1 b2 y1 y4 y5 y6 y7
                unfold sv
                go_upto_region 18 with (refine wpList_store_row rfl 33 _ _ rfl b _ rfl rfl 33 _ B8.out (by kernel_rfl) rfl (by simp [Value.oneCell']) ?_)
                rw [← hw8]
                clear hw8 B8 H3 HA3 H2 HA HC HR HOK
                have hw0 := HW0.out
                clear HW0 HS HP HG6 K6 K3
                rcases hw0 with ⟨c1, c2, rfl⟩ | ⟨c1, c2, rfl⟩ | ⟨c1, c2, rfl⟩
                · go_wp2_with fail
                  go_meet
                  case rel => exact ⟨_, _, q2, cap2, 0, rfl, rfl, by decide, H8, HA8⟩
                · go_wp2_with fail
                  go_meet
                  case rel => exact ⟨_, _, q2, cap2, 0, rfl, rfl, by decide, H8, HA8⟩
                · go_wp2_with fail
                  refine (HMY.out _).mono ?_
                  rintro e w9 ⟨rfl, hk9⟩
                  have H9 := Lib.hid (H8.out.on hk9)
                  have HA9 := Lib.hid (hk9.row (by simp) HA8.out)
                  clear hk9 H8 HA8
                  cases qq
                  all_goals
                    go_wp2_with fail
                    go_meet
                    case rel => first | exact ⟨_, _, q2, cap2, 0, rfl, rfl, by decide, H9, HA9⟩ | exact ⟨_, _, q2, cap2, 1, rfl, rfl, by decide, H9, HA9⟩
      case rest =>
        as_aux_lemma =>
          obtain ⟨g', t', q', cap', want, rfl, hwt, hw1, H, -⟩ := hcut
          clear H2 HA B l0 l1 l2 x0 x1 x2 x3 x4 x5 x6 x7
          have e9 : IntKind.u64.wrap ((t' : Int) - t) = want := by rw [IntWalk.u64_in _ (by omega)]; omega
          have HS := Lib.hid (ms1_of (p := p) (r := r) H.out.cells.2.1 (Kp.refl [p, r] wc))
          have HP : Hid (b ≠ p ∧ b ≠ r) := Lib.hid (by have := H.out.lo; omega)
          go_upto_region 37 with (fail)
          go_region_held3 (fun wx => wx.cell? ⟨b, 1, none⟩ = some (.int .u64 g'.M) ∧ Kp [p, r] wc wx)
            (first
              | exact ms1_keep HS.out ((Kp.refl _ _).drew) HP.out
              | exact ms1_keep ‹Ms1 b g'.M p r wc _› hk8 HP.out)
            (first
            | (go_at_call 8; refine (g_touched (H.out.wk.gw.on (w' := _) ?_)).mono ?_
               · exact ⟨rfl, rfl, rfl, Nat.le_refl _, fun _ _ _ => rfl⟩
               rintro e w5 ⟨rfl, rfl⟩)
            | (go_at_call 20; refine (rd_map (H.out.wk.gw.on (w' := _) ?_) (by omega)).mono ?_
               · exact ⟨rfl, rfl, rfl, Nat.le_refl _, fun _ _ _ => rfl⟩
               rintro e w6 ⟨rfl, hg, hk8⟩
               have HG6 := Lib.hid hg
               have K6 : Hid (Kp [p, r] wc w6) := Lib.hid (by refine Kp.trans ?_ hk8; exact ⟨rfl, rfl, rfl, Nat.le_refl _, fun _ _ _ => rfl⟩)
               clear hg))
          rename_i hHeld
          clear hHeld
          have H6 := Lib.hid (H.out.step HG6.out K6.out)
          clear hk8 HG6 K6 HS HP H e9
          go_wp2_with fail
          go_loopg [18] n (fun gg jv wi => ∃ j t2 : Nat, j + gg = n ∧ jv = .int .i64 (j : Int) ∧ t2 ≤ t' + 1 + 2 * j ∧ Hid (GP w a p r n b base g' g' t2 q' cap' wi))
          case atStart => exact ⟨0, t' + 1, by omega, rfl, by omega, H6⟩
          case round =>
            clear H6
            obtain ⟨j, t2, hjg, rfl, ht2, H⟩ := hrel
            by_cases hjn : j < n
            · obtain ⟨b0, b1, b2⟩ := H.out.cells
              obtain ⟨x, hx⟩ : ∃ x, g'.E.getD j 0 = x := ⟨_, rfl⟩
              have hx0 := H.out.okh.ent j
              rw [hx] at hx0
              have b3 : wr.cell? ⟨q', j, none⟩ = some (.int .u64 x) := by have := H.out.row.cell (i := j) (by rw [H.out.okh.len]; exact hjn); rwa [hx] at this
              have HT := Lib.hid (fun w => rtake_part x w hx0.1 hx0.2)
              have HEA := Lib.hid (fun w => entry_at (n := n) j w (by omega) hjn)
              have HRD := Lib.hid (fun (w' : World) (hg : Gw n p r g' t2 w') => rd_ent hg (by omega) j hjn (5 + j) x rfl hx)
              have HGE := Lib.hid (fun (w' : World) (hg : Gw n p r g' (t2 + 1) w') => g_entry hg (by omega) j hjn x hx)
              have hns : ∀ (k c r o : Int) (w : World), (binOp .neq 50 (.agg #[.int .u8 k, .int .u8 c, .int .u8 r, .int .u8 o]) (.agg #[.int .u8 k, .int .u8 c, .int .u8 r, .int .u8 o])).run Try.prog w = .ok (.bool false) w := entry_same
              clear hx hx0 b0 b1
              generalize ek x = xk at HT HGE
              generalize ec x = xc at HT HGE
              generalize er x = xr at HT HGE
              generalize eo x = xo at HT HGE
              have HEN := Lib.hid (fun w => entry_is xk xc xr xo w)
              go_wp2_with fail
              refine (HT.out _).mono ?_
              rintro e w3 ⟨rfl, hk3⟩
              have k4 : Kp [] wr (w3.alloc (.cells #[.int .u8 xk, .int .u8 xc, .int .u8 xr, .int .u8 xo] 36)) := hk3.trans ((Kp.refl _ _).alloc _)
              have H4 := Lib.hid (H.out.on k4)
              have N4 := heap_alloc_new w3 (.cells #[.int .u8 xk, .int .u8 xc, .int .u8 xr, .int .u8 xo] 36)
              have hl3 := lt_of_block (hk3.row (by simp) H.out.box)
              have hq3 : q' < w3.heap.size := Nat.lt_of_lt_of_le (World.block_lt_of_cell? _ _ b3) hk3.size
              obtain ⟨f, hf⟩ : ∃ f, f = w3.heap.size := ⟨_, rfl⟩
              obtain ⟨w4', hw4⟩ : ∃ w4', w4' = w3.alloc (.cells #[.int .u8 xk, .int .u8 xc, .int .u8 xr, .int .u8 xo] 36) := ⟨_, rfl⟩
              have d3 := kp_cell k4 (by simp) b3
              rw [← hw4] at H4 k4 N4 d3
              rw [← hf] at N4 hl3 hq3
              have HX := Lib.hid (es_of H4.out.wk.lx H4.out.cells.2.2 d3 N4 (Kp.refl [p, r] w4'))
              have HP : Hid (a ∉ [p, r] ∧ b ∉ [p, r] ∧ q' ∉ [p, r] ∧ f ∉ [p, r]) := Lib.hid (by have := H.out.lo; have := H.out.ge; have := H.out.wk.ge; simp; omega)
              clear H b2 b3 hk3 k4 d3 N4 hl3 hq3 HT
              go_upto_region 43 with (fail)
              rw [← hf, ← hw4]
              clear hf hw4
              go_region_held3 (fun wx => wx.cell? ⟨a, 0, none⟩ = some (.int .i64 1) ∧ wx.cell? ⟨a, 1, none⟩ = some (.int .i64 1) ∧ wx.cell? ⟨a, 2, none⟩ = some (.int .i64 n) ∧ wx.cell? ⟨b, 2, none⟩ = some (.slice (some ⟨q', 0, none⟩) n cap') ∧ wx.cell? ⟨q', j, none⟩ = some (.int .u64 x) ∧ wx.cell? ⟨f, 0, none⟩ = some (.int .u8 xk) ∧ wx.cell? ⟨f, 1, none⟩ = some (.int .u8 xc) ∧ wx.cell? ⟨f, 2, none⟩ = some (.int .u8 xr) ∧ wx.cell? ⟨f, 3, none⟩ = some (.int .u8 xo) ∧ Kp [p, r] w4' wx)
                (first
                  | exact es_keep HX.out ((Kp.refl _ _).drew) HP.out
                  | exact es_keep ‹Es a n b q' j cap' f x xk xc xr xo p r w4' _› (hk6.mono (by simp)) HP.out
                  | exact es_keep ‹Es a n b q' j cap' f x xk xc xr xo p r w4' _› hk7 HP.out
                  | exact es_keep ‹Es a n b q' j cap' f x xk xc xr xo p r w4' _› hk8 HP.out
                  | exact es_keep ‹Es a n b q' j cap' f x xk xc xr xo p r w4' _› (hk9.mono (by simp)) HP.out)
                (first
                | (go_at_call 22; refine (HEA.out _).mono ?_; rintro e w5 ⟨rfl, hk9⟩
                   have K5 : Hid (Kp [] w4' w5) := Lib.hid (by refine Kp.trans ?_ hk9; exact ⟨rfl, rfl, rfl, Nat.le_refl _, fun _ _ _ => rfl⟩))
                | (go_at_call 20; refine (HRD.out _ (H4.out.wk.gw.on (K5.out.trans ?_))).mono ?_
                   · exact ⟨rfl, rfl, rfl, Nat.le_refl _, fun _ _ _ => rfl⟩
                   rintro e w6 ⟨rfl, hg, hk8⟩
                   have G6 := Lib.hid hg
                   have K6 : Hid (Kp [p, r] w4' w6) := Lib.hid (by refine (K5.out.mono (by simp)).trans (Kp.trans ?_ hk8); exact ⟨rfl, rfl, rfl, Nat.le_refl _, fun _ _ _ => rfl⟩)
                   clear hg)
                | (go_at_call 23; refine (HGE.out _ (G6.out.on ?_)).mono ?_
                   · exact ⟨rfl, rfl, rfl, Nat.le_refl _, fun _ _ _ => rfl⟩
                   rintro e w7 ⟨rfl, hg, hk7⟩
                   have G7 := Lib.hid hg
                   have K7 : Hid (Kp [p, r] w4' w7) := Lib.hid (by refine K6.out.trans (Kp.trans ?_ hk7); exact ⟨rfl, rfl, rfl, Nat.le_refl _, fun _ _ _ => rfl⟩)
                   clear hg)
                | (go_at_call 17; refine (HEN.out _).mono ?_; rintro e w8 ⟨rfl, hk6⟩
                   have G8 : Hid (Gw n p r g' (t2 + 1 + 1) w8) := Lib.hid (by refine G7.out.on (Kp.trans ?_ hk6); exact ⟨rfl, rfl, rfl, Nat.le_refl _, fun _ _ _ => rfl⟩)
                   have K8 : Hid (Kp [p, r] w4' w8) := Lib.hid (by refine K7.out.trans (Kp.trans ?_ (hk6.mono (by simp))); exact ⟨rfl, rfl, rfl, Nat.le_refl _, fun _ _ _ => rfl⟩)))
              all_goals
                rename_i hHeld
                clear hHeld
                have H8 := Lib.hid (H4.out.step G8.out K8.out)
                clear HX HP H4
                go_wp2_with fail
                go_roundg (n - (j + 1))
                case measure => omega
                case rel => exact ⟨j + 1, t2 + 1 + 1, by omega, by go_num, by omega, H8⟩
            · have hnn : ¬ ((j : Int) < (n : Int)) := by omega
              go_wp2_with fail
              go_roundg (m - (k + 1))
              case measure => omega
              case rel => exact ⟨k + 1, g', t2, q', cap', by omega, by go_num, by omega, H⟩
    · as_aux_lemma =>
        have hkm' : ¬ ((k : Int) < (m : Int)) := by omega
        have hz : ∀ (w : World), (binOp .eql 50 (.agg #[.int .u8 0, .int .u8 0, .int .u8 0, .int .u8 0]) (.agg #[.int .u8 0, .int .u8 0, .int .u8 0, .int .u8 0])).run Try.prog w = .ok (.bool true) w := entry_zero
        have HE := Lib.hid (fun w => g_entry_no w n (by omega) n ⟨p, 0, none⟩ (runG_not.2 (by omega)))
        obtain ⟨l0, l1, l2⟩ := H.out.wk.lx
        have HK := Lib.hid H.out.wk.kp
        clear H hkg
        go_wp2_with fail
        refine (HE.out _).mono ?_
        rintro e w5 ⟨rfl, hk⟩
        have HK5 := Lib.hid (HK.out.trans hk)
        clear hk
        go_wp2_with fail
        refine (wakes_is _).mono ?_
        rintro e w6 ⟨rfl, hk⟩
        have HK6 := Lib.hid (HK5.out.trans hk)
        clear hk
        go_wp2_with fail
        go_ret
        exact ⟨rfl, HK6.out⟩
end Go.Proofs.Yteppcbihhikoaaa
