/- The law GraphLooks, walked. Conditions: as each theorem states them. -/
import Derived.Test.YtmbhhadghiojeaaGreatGl9
namespace Go.Proofs.YtmbhhadghiojeaaGreat
set_option linter.unusedVariables false
set_option linter.unusedSimpArgs false
open Go.RowKit

/-- An act of the list, in each world behind. -/
theorem acts_at {w : World} {ao : Option Addr} {T : List (Int × Int × Int × Int × Int × Int)} (hT : Acts w ao T) {k : Nat} (hk : k < T.length) :
    ∃ (ab i : Nat) (d t a b c v : Int), ao = some ⟨ab, i, none⟩ ∧ 0 ≤ d ∧ ∀ w', Kp [] w w' → w'.cell? ⟨ab, i + k * 6, none⟩ = some (.int .u8 d) ∧ w'.cell? ⟨ab, i + k * 6 + 1, none⟩ = some (.int .i64 t) ∧ w'.cell? ⟨ab, i + k * 6 + 2, none⟩ = some (.int .i64 a) ∧ w'.cell? ⟨ab, i + k * 6 + 3, none⟩ = some (.int .i64 b) ∧ w'.cell? ⟨ab, i + k * 6 + 4, none⟩ = some (.int .i64 c) ∧ w'.cell? ⟨ab, i + k * 6 + 5, none⟩ = some (.int .u64 v) := by
  obtain ⟨ab, i, hao, hbw, q0, q1, q2, q3, q4, q5, f0, f1, f2, f3, f4, f5⟩ := hT k _ (List.getElem?_eq_getElem hk)
  exact ⟨ab, i, _, _, _, _, _, _, hao, (bounds_u8 f0).1, fun w' kw => ⟨kw.cell (by simp) q0, kw.cell (by simp) q1, kw.cell (by simp) q2, kw.cell (by simp) q3, kw.cell (by simp) q4, kw.cell (by simp) q5⟩⟩

set_option maxRecDepth 100000 in
set_option maxHeartbeats 16000000 in
theorem looks_main (w : World) (nt ns nl : Nat) (ao bo : Option Addr) (cap cap' : Nat) (T U : List (Int × Int × Int × Int × Int × Int)) (h1 : 1 ≤ nt) (h2 : nt ≤ 64) (h3 : 1 ≤ ns) (h4 : ns ≤ 8) (h5 : nl ≤ 8) (hm : T.length ≤ 100) (hmu : U.length ≤ 50) (hT : Acts w ao T) (hU : Acts w bo U) :
    Calls Tryz.prog 4 #[.int .i64 nt, .int .i64 ns, .int .i64 nl, .slice ao T.length cap, .slice bo U.length cap'] w fun e w' => e = .returned (.bool true) ∧ Kp [] w w' := by
  have hmb : mayB nt ns nl = true := by unfold mayB; simp; omega
  have hmay := may_any w nt ns nl
  rw [hmb] at hmay
  have hnew := g_New w nt ns nl h1 h2 h5 h3 h4
  have HD : Hid (∀ w', Calls Tryz.prog 8 #[.int .i64 nt, .int .i64 ns, .int .i64 nl] w' fun e w2 => ∃ q, e = .returned (.pointer (some ⟨q, 0, none⟩)) ∧ Dx (fun b => w'.heap.size ≤ b ∧ b < w2.heap.size) w2 q (fresh nt ns nl) ∧ Kp [] w' w2) := Lib.hid fun w' => d_New w' nt ns nl h1 h2 h3 h4 h5
  have HW0 : Hid (Wf (fresh nt ns nl) 0 ∧ Sl (fresh nt ns nl)) := Lib.hid ⟨wf_fresh h1 h2 h5, sl_fresh h3⟩
  obtain ⟨m, hmm⟩ : ∃ m, m = T.length := ⟨_, rfl⟩
  obtain ⟨m', hmm'⟩ : ∃ m, m = U.length := ⟨_, rfl⟩
  have HM := Lib.hid (And.intro hmm hmm')
  have HT := Lib.hid hT
  have HU := Lib.hid hU
  rw [← hmm] at hm ⊢
  rw [← hmm'] at hmu ⊢
  clear hmm hmm' hT hU h1 h2 h3 h4 h5 hmb
  go_enter Tryz.func4, Tryz.ntmps4
  go_wp2_with fail
  refine hmay.mono ?_
  rintro e w1' ⟨rfl, rfl⟩
  clear hmay
  go_wp2_with fail
  refine hnew.mono ?_
  rintro e w1 ⟨p, rfl, hg1, hk1⟩
  have H1 := Lib.hid ((p4_start w).new_g hg1 hk1).rot
  have hd := HD.out w1
  clear hnew hg1 hk1
  go_wp2_with fail
  refine hd.mono ?_
  rintro e w2 ⟨q, rfl, hd2, hk2⟩
  have H2 := Lib.hid (H1.out.new_d hd2 hk2).rot
  have hd := HD.out w2
  clear hd2 hk2 H1
  go_wp2_with fail
  refine hd.mono ?_
  rintro e w3 ⟨q2, rfl, hd3, hk3⟩
  have H3 : Hid (Wf (fresh nt ns nl) 0 ∧ Sl (fresh nt ns nl) ∧ ∃ F1 F2 F3, P4 w no F1 F2 F3 tt (QG F1 p (fresh nt ns nl)) (QD F2 q (fresh nt ns nl)) (QD F3 q2 (fresh nt ns nl)) w3) := Lib.hid ⟨HW0.out.1, HW0.out.2, _, _, _, (H2.out.new_d hd3 hk3).rot⟩
  clear hd hd3 hk3 H2 HD HW0
  generalize fresh nt ns nl = s0 at H3
  go_wp2_with fail
  go_loopg [15] m (fun gg v wr => ∃ (k : Nat) (s : Gs), k + gg = m ∧ v = .int .i64 (k : Int) ∧ Hid (Wf s k ∧ Sl s ∧ ∃ F1 F2 F3, P4 w no F1 F2 F3 tt (QG F1 p s) (QD F2 q s) (QD F3 q2 s) wr))
  case atStart => exact ⟨0, s0, by omega, rfl, H3⟩
  case round =>
    clear H3
    obtain ⟨k, s, hkg, rfl, H⟩ := hrel
    by_cases hkm : k < m
    · obtain ⟨ab, i, d, t, a, b, c, v, rfl, hd0, hQ⟩ := acts_at HT.out (k := k) (by rw [← HM.out.1]; exact hkm)
      have HQ := Lib.hid hQ
      clear hQ
      obtain ⟨hwf, hsl, F1, F2, F3, hp⟩ := H.out
      have HP := Lib.hid hp.rot
      obtain ⟨q0, q1, q2', q3, q4, q5⟩ := HQ.out wr hp.kp
      have hdo : Calls Tryz.prog 9 #[.pointer (some ⟨p, 0, none⟩), .agg #[.int .u8 d, .int .i64 t, .int .i64 a, .int .i64 b, .int .i64 c, .int .u64 v]] wr (Ended F1 wr p (.tuple #[.int .u64 (doV s ⟨d, t, a, b, c, v⟩), .int .i64 (doE s ⟨d, t, a, b, c, v⟩)]) (doS s ⟨d, t, a, b, c, v⟩)) := does_any hp.p2.q hwf (by omega) ⟨d, t, a, b, c, v⟩ hd0
      have HS : Hid (∀ F qq w5, Dx F w5 qq s → Calls Tryz.prog 10 #[.pointer (some ⟨qq, 0, none⟩), .agg #[.int .u8 d, .int .i64 t, .int .i64 a, .int .i64 b, .int .i64 c, .int .u64 v]] w5 fun e w' => e = .returned (.tuple #[.int .u64 (doV s ⟨d, t, a, b, c, v⟩), .int .i64 (doE s ⟨d, t, a, b, c, v⟩)]) ∧ Left F w5 qq (doS s ⟨d, t, a, b, c, v⟩) w') := Lib.hid fun F qq w5 hx => says_any hx hwf (by omega) ⟨d, t, a, b, c, v⟩ hd0
      have HW2 := Lib.hid (And.intro (wf_do hwf ⟨d, t, a, b, c, v⟩) (sl_do hsl ⟨d, t, a, b, c, v⟩))
      generalize doV s ⟨d, t, a, b, c, v⟩ = dv at hdo HS
      generalize doE s ⟨d, t, a, b, c, v⟩ = de at hdo HS
      generalize doS s ⟨d, t, a, b, c, v⟩ = s2 at hdo HS HW2
      clear H hp hwf hsl hd0
      go_wp2_with fail
      refine hdo.mono ?_
      intro e w5 hE
      obtain ⟨rfl, hp5⟩ := HP.out.act_g hE
      have H5 := Lib.hid hp5.rot
      clear hdo hE hp5 q0 q1 q2' q3 q4 q5 HP
      obtain ⟨q0, q1, q2', q3, q4, q5⟩ := HQ.out w5 H5.out.kp
      have hsay := HS.out _ _ w5 H5.out.p1.q
      go_wp2_with fail
      refine hsay.mono ?_
      rintro e w6 ⟨rfl, hl⟩
      have H6 := Lib.hid (H5.out.act_d hl).rot
      clear hsay hl q0 q1 q2' q3 q4 q5 H5
      obtain ⟨q0, q1, q2', q3, q4, q5⟩ := HQ.out w6 H6.out.kp
      have hsay := HS.out _ _ w6 H6.out.p1.q
      go_wp2_with fail
      refine hsay.mono ?_
      rintro e w7 ⟨rfl, hl⟩
      have H7 : Hid (Wf s2 (k + 1) ∧ Sl s2 ∧ ∃ F1 F2 F3, P4 w no F1 F2 F3 tt (QG F1 p s2) (QD F2 q s2) (QD F3 q2 s2) w7) := Lib.hid ⟨HW2.out.1, HW2.out.2, _, _, _, (H6.out.act_d hl).rot⟩
      clear hsay hl q0 q1 q2' q3 q4 q5 H6 HS HW2 HQ
      go_wp2_with fail
      go_roundg (m - (k + 1))
      case measure => omega
      case rel => exact ⟨k + 1, s2, by omega, by go_num, H7⟩
    · have hnn : ¬ ((k : Int) < (m : Int)) := by omega
      have hkm2 : k = m := by omega
      obtain ⟨hwf, hsl, F1, F2, F3, hp⟩ := H.out
      have HX := Lib.hid hp
      have HWS := Lib.hid (show Wf s m ∧ Sl s from ⟨hkm2 ▸ hwf, hsl⟩)
      obtain ⟨y, hy, -⟩ := hp.p2.q
      have hcl := clone_any wr p k s y hy hwf (by omega) hsl
      clear H hp hwf hsl hy
      go_wp2_with fail
      refine hcl.mono ?_
      rintro e w5 ⟨pc, rfl, hgc, hkc⟩
      have H5 := Lib.hid (HX.out.new_g hgc hkc)
      clear hcl hgc hkc HX
      obtain ⟨yc, hyc, -⟩ := H5.out.p1.q
      obtain ⟨zq, hzq, -⟩ := H5.out.p3.q
      have hlk := looks_any w5 pc q m s yc zq hyc hzq HWS.out.1 (by omega)
      clear hyc hzq
      go_wp2_with fail
      refine hlk.mono ?_
      rintro e w6 ⟨rfl, hk6⟩
      have H6 : Hid (Wf s (m + 0) ∧ ∃ F0 F1 F2 F3, P4 w F0 F1 F2 F3 (QG F0 pc s) (QG F1 p s) (QD F2 q s) (QD F3 q2 s) w6) := Lib.hid ⟨HWS.out.1, _, _, _, _, H5.out.on hk6⟩
      clear hlk hk6 H5
      go_wp2_with fail
      go_loopg [17] m' (fun gg v wr => ∃ (j : Nat) (s' : Gs), j + gg = m' ∧ v = .int .i64 (j : Int) ∧ Hid (Wf s' (m + j) ∧ ∃ F0 F1 F2 F3, P4 w F0 F1 F2 F3 (QG F0 pc s') (QG F1 p s) (QD F2 q s) (QD F3 q2 s') wr))
      case atStart => exact ⟨0, s, by omega, rfl, H6⟩
      case round =>
        clear H6
        obtain ⟨j, s', hjg, rfl, H⟩ := hrel
        by_cases hjm : j < m'
        · obtain ⟨ab, i, d, t, a, b, c, v, rfl, hd0, hQ⟩ := acts_at HU.out (k := j) (by rw [← HM.out.2]; exact hjm)
          have HQ := Lib.hid hQ
          clear hQ
          obtain ⟨hwf, F0, F1, F2, F3, hp⟩ := H.out
          have HP := Lib.hid hp
          obtain ⟨q0, q1, q2', q3, q4, q5⟩ := HQ.out wr hp.kp
          have hdo : Calls Tryz.prog 9 #[.pointer (some ⟨pc, 0, none⟩), .agg #[.int .u8 d, .int .i64 t, .int .i64 a, .int .i64 b, .int .i64 c, .int .u64 v]] wr (Ended F0 wr pc (.tuple #[.int .u64 (doV s' ⟨d, t, a, b, c, v⟩), .int .i64 (doE s' ⟨d, t, a, b, c, v⟩)]) (doS s' ⟨d, t, a, b, c, v⟩)) := does_any hp.p1.q hwf (by omega) ⟨d, t, a, b, c, v⟩ hd0
          have HS : Hid (∀ F qq w5, Dx F w5 qq s' → Calls Tryz.prog 10 #[.pointer (some ⟨qq, 0, none⟩), .agg #[.int .u8 d, .int .i64 t, .int .i64 a, .int .i64 b, .int .i64 c, .int .u64 v]] w5 fun e w' => e = .returned (.tuple #[.int .u64 (doV s' ⟨d, t, a, b, c, v⟩), .int .i64 (doE s' ⟨d, t, a, b, c, v⟩)]) ∧ Left F w5 qq (doS s' ⟨d, t, a, b, c, v⟩) w') := Lib.hid fun F qq w5 hx => says_any hx hwf (by omega) ⟨d, t, a, b, c, v⟩ hd0
          have HW2 := Lib.hid (wf_do hwf ⟨d, t, a, b, c, v⟩)
          generalize doV s' ⟨d, t, a, b, c, v⟩ = dv at hdo HS
          generalize doE s' ⟨d, t, a, b, c, v⟩ = de at hdo HS
          generalize doS s' ⟨d, t, a, b, c, v⟩ = s2 at hdo HS HW2
          clear H hp hwf hd0
          go_wp2_with fail
          refine hdo.mono ?_
          intro e w5 hE
          obtain ⟨rfl, hp5⟩ := HP.out.act_g hE
          have H5 := Lib.hid hp5.rot.rot.rot
          clear hdo hE hp5 q0 q1 q2' q3 q4 q5 HP
          obtain ⟨q0, q1, q2', q3, q4, q5⟩ := HQ.out w5 H5.out.kp
          have hsay := HS.out _ _ w5 H5.out.p1.q
          go_wp2_with fail
          refine hsay.mono ?_
          rintro e w6 ⟨rfl, hl⟩
          have H7 : Hid (Wf s2 (m + (j + 1)) ∧ ∃ F0 F1 F2 F3, P4 w F0 F1 F2 F3 (QG F0 pc s2) (QG F1 p s) (QD F2 q s) (QD F3 q2 s2) w6) := Lib.hid ⟨HW2.out, _, _, _, _, (H5.out.act_d hl).rot⟩
          clear hsay hl q0 q1 q2' q3 q4 q5 H5 HS HW2 HQ
          go_wp2_with fail
          go_roundg (m' - (j + 1))
          case measure => omega
          case rel => exact ⟨j + 1, s2, by omega, by go_num, H7⟩
        · have hnn2 : ¬ ((j : Int) < (m' : Int)) := by omega
          obtain ⟨hwf, F0, F1, F2, F3, hp⟩ := H.out
          have HX := Lib.hid (And.intro hwf hp)
          obtain ⟨yg, hyg, -⟩ := hp.p2.q
          obtain ⟨zq, hzq, -⟩ := hp.p3.q
          have hlk := looks_any wr p q m s yg zq hyg hzq HWS.out.1 (by omega)
          clear H hp hwf hyg hzq
          go_wp2_with fail
          refine hlk.mono ?_
          rintro e w8 ⟨rfl, hk8⟩
          have hp8 := HX.out.2.on hk8
          have HK8 := Lib.hid hp8.kp
          obtain ⟨yg, hyg, -⟩ := hp8.p1.q
          obtain ⟨zq, hzq, -⟩ := hp8.p4.q
          have hlk2 := looks_any w8 pc q2 (m + j) s' yg zq hyg hzq HX.out.1 (by omega)
          clear hlk hk8 hp8 hyg hzq HX
          go_wp2_with fail
          refine hlk2.mono ?_
          rintro e w9 ⟨rfl, hk9⟩
          have hwk := wakes_any w9
          have HK9 := Lib.hid (HK8.out.trans hk9)
          clear hlk2 hk9
          go_wp2_with ((with_reducible refine hwk.mono ?_); rintro e w10 ⟨rfl, hb⟩; have H10 := Lib.hid (HK9.out.trans hb); clear hb)
          go_ret
          exact ⟨rfl, H10.out⟩

end Go.Proofs.YtmbhhadghiojeaaGreat
