/- BitmapApart, walked. Conditions: as each theorem states them. -/
import Derived.Test.YtdpgefagdpoobaaBmO
import Derived.OwnWalk
import Derived.Deep.CutBlock
namespace Go.Proofs.Ytdpgefagdpoobaa
set_option linter.unusedVariables false
set_option linter.unusedSimpArgs false
open Go.RowKit

theorem apart_skip (W : World) (x : Nat) (ao : Option Addr) (len cap : Nat) (hs : 40 < len) :
    Calls Try.prog 5 #[.int .u64 x, .slice ao len cap] W fun e w' => e = .returned (.bool true) ∧ Kp [] W w' := by
  have kw := wakes_is
  go_enter Try.func5, Try.ntmps5
  go_wp2_with ((with_reducible refine (kw _).mono ?_); rintro e w3 ⟨rfl, hk3⟩)
  go_ret
  exact ⟨rfl, hk3⟩

theorem ne_shift (x j : Nat) (hx : x < 18446744073709551616) (h : x.testBit j = true) : bits .and .u64 ((x : Int) / 2 ^ j) 1 = 1 := by
  have := shift_bit x j hx
  rw [h] at this
  simpa using this

set_option maxHeartbeats 1000000 in
set_option maxRecDepth 100000 in
theorem apart_main (W : World) (x : Nat) (ao : Option Addr) (R : List Int) (cap : Nat) (hx : x < 18446744073709551616) (hR : R.length ≤ 40) (hA : Runs W ao R) :
    Calls Try.prog 5 #[.int .u64 x, .slice ao R.length cap] W fun e w' => e = .returned (.bool true) ∧ Kp [] W w' := by
  have kw := wakes_is
  obtain ⟨i0, hi, hz0, hz1, hz2⟩ := info_parts (P := Try.prog) (e := 3) (z := .int .i64 0) (size := 1) (bytes := 8) (by kernel_rfl)
  have hz := iv_zero
  obtain ⟨len, hlen⟩ : ∃ len, len = R.length := ⟨_, rfl⟩
  rw [← hlen] at hR ⊢
  have HL := Lib.hid hlen
  have HA := Lib.hid hA
  have HX := Lib.hid hx
  clear hlen hA hx
  go_enter Try.func5, Try.ntmps5
  go_wp2_with fail
  go_loopg [5, 6, 8, 9] len (fun gg va vn nowv iv' wr => ∃ (i now : Nat) (L : List (Nat × Nat)) (g : Nat → Int), i + gg = len ∧ iv' = .int .i64 i ∧ nowv = .int .u64 now ∧ now < 18446744073709551616 ∧ L.length ≤ i ∧ PInv x now L g ∧
    Two W.heap.size va vn (L.map fun p => (p.1 : Int)) (L.map fun p => (p.2 : Int)) g wr ∧ Kp [] W wr)
  case atStart =>
    exact ⟨0, x, [], fun _ => 0, by omega, rfl, rfl, HX.out, by simp, PInv.start HX.out, ⟨heap_alloc_last _ _, World.ownsRow_nil _ _ _ _, World.ownsRow_nil _ _ _ _, by simp [Value.ownBlock]⟩, (Kp.refl _ _).alloc _⟩
  case round =>
    obtain ⟨i, now, L, g, hig, rfl, rfl, hnow, hLi, P, T, K⟩ := hrel
    by_cases hil : i < len
    · obtain ⟨ab, oo, rfl, hab, hcell0, v0, v255⟩ := HA.out i (by rw [← HL.out]; exact hil)
      obtain ⟨v, hv⟩ : ∃ v, v = R.getD i 0 := ⟨_, rfl⟩
      rw [← hv] at hcell0 v0 v255
      have hcell : wr.cell? ⟨ab, oo + i, none⟩ = some (.int .u8 v) := by
        rw [World.cell?_of_block (K.block ab hab (by simp))]; exact hcell0
      obtain ⟨kk, hkk⟩ : ∃ kk : Nat, 1 + v % 3 = (kk : Int) := ⟨(1 + v % 3).toNat, by omega⟩
      have hk1 : 1 ≤ kk := by omega
      have hk3 : kk ≤ 3 := by omega
      clear hcell0 hv
      rcases least_or now kk with ⟨bb, hb1, hb2⟩ | hno
      · obtain ⟨_, _, _, hbk0⟩ := isR_lt hb1
        have hbk : bb + kk ≤ 64 := by omega
        have hall : allN now bb kk true = true := by
          rw [isR_nat _ _ _ _ hk1 hk3, Bool.and_eq_true] at hb1; exact hb1.2
        have cF := find_at now kk bb wr hnow hb1 hb2
        obtain ⟨nw, hnw⟩ : ∃ nw, nw = setN now bb kk false := ⟨_, rfl⟩
        have hnw2 : nw < 18446744073709551616 := by rw [hnw]; exact setN_lt _ _ _ _
        have cT : ∀ w, Calls Try.prog 14 #[.int .u64 now, .int .i64 bb, .int .i64 kk] w fun e w' => e = .returned (.tuple #[.int .u64 nw, .bool true]) ∧ w = w' := fun w =>
          take_is now bb kk nw true w hnow hb1 (by rw [if_pos rfl, hnw]; rfl)
        obtain ⟨c1, hc1⟩ : ∃ c1, c1 = cnt nw 64 := ⟨_, rfl⟩
        have hc64 : c1 ≤ 64 := by rw [hc1]; exact cnt_le _ _
        have cN1 : ∀ w, Calls Try.prog 10 #[.int .u64 nw] w fun e w' => e = .returned (.int .i64 c1) ∧ w = w' := fun w => count_is nw c1 w hnw2 hc1.symm
        have cN2 : ∀ w, Calls Try.prog 10 #[.int .u64 now] w fun e w' => e = .returned (.int .i64 ((c1 : Int) + kk)) ∧ w = w' := fun w => count_is now (c1 + kk) w hnow (by rw [hc1, hnw, cnt_taken hbk hall])
        have HW := Lib.hid hnw
        have PP := Lib.hid P
        have TT := Lib.hid T
        have HALL := Lib.hid hall
        clear P T hb1 hb2 hnw hc1 hall hbk0
        go_wp2_with (first
          | ((with_reducible refine cF.mono ?_); rintro e w2 ⟨rfl, hk2⟩)
          | ((with_reducible refine (cT _).mono ?_); rintro e w' ⟨rfl, rfl⟩)
          | ((with_reducible refine (cN1 _).mono ?_); rintro e w' ⟨rfl, rfl⟩)
          | ((with_reducible refine (cN2 _).mono ?_); rintro e w' ⟨rfl, rfl⟩))
        obtain ⟨G, hG⟩ : ∃ G, G + 1 = gk := ⟨len - i - 1, by omega⟩
        have TQ0 := Lib.hid (TT.out.on hk2)
        have KQ0 := K.trans hk2
        clear TT K hk2 hcell cF cT cN1 cN2
        go_loopg [15] kk (fun g2 jv wq => ∃ (j : Nat) (g' : Nat → Int), bb ≤ j ∧ j + g2 = bb + kk ∧ jv = .int .i64 j ∧ Hid (∀ s, s < 64 → ¬ (bb ≤ s ∧ s < j) → g' s = g s) ∧
          Two W.heap.size u5 u6 (L.map fun p => (p.1 : Int)) (L.map fun p => (p.2 : Int)) g' wq ∧ Kp [] W wq)
        case atStart => exact ⟨bb, g, Nat.le_refl _, rfl, rfl, fun s _ _ => rfl, TQ0.out, KQ0⟩
        case round =>
          obtain ⟨j, g', hbj, hjg, rfl, HG, TQ, KQ⟩ := hrel
          by_cases hj : j < bb + kk
          · obtain ⟨hxj, _, hgj⟩ := PP.out.free hbk HALL.out hbj hj
            have hcell := TQ.cell (j := j) (by omega)
            rw [HG.out j (by omega) (by omega), hgj] at hcell
            have hfree := TQ.free j
            have hbit := ne_shift x j HX.out hxj
            have TS := Lib.hid (TQ.store (j := j) ((i : Int) + 1))
            have KS := KQ.setCell (p := ⟨W.heap.size, j, none⟩) (.inr (Nat.le_refl _)) (.int .i64 ((i : Int) + 1))
            have hj64 : j < 64 := by omega
            clear TQ hxj hgj
            go_wp2
            go_roundg (bb + kk - (j + 1))
            case rel =>
              refine ⟨j + 1, fun s => if s = j then (i : Int) + 1 else g' s, by omega, by omega, by go_num, fun s hs hn => ?_, TS.out, KS⟩
              simp only [if_neg (show ¬ s = j from by omega)]
              exact HG.out s hs (by omega)
            case measure => omega
          · have hje : j = bb + kk := by omega
            have PN := Lib.hid (PP.out.step (g' := g') hk1 hk3 hbk HALL.out fun s hs hn => HG.out s hs (by omega))
            obtain ⟨La, hLa⟩ : ∃ La : List Int, La = L.map fun p => (p.1 : Int) := ⟨_, rfl⟩
            obtain ⟨Ln, hLn⟩ : ∃ Ln : List Int, Ln = L.map fun p => (p.2 : Int) := ⟨_, rfl⟩
            rw [← hLa, ← hLn] at TQ
            have hla : La.length ≤ 40 := by rw [hLa, List.length_map]; omega
            have hln : Ln.length ≤ 40 := by rw [hLn, List.length_map]; omega
            have HLa := Lib.hid hLa
            have HLn := Lib.hid hLn
            have hlt := TQ.lt
            have T0 := Lib.hid TQ
            have K0 := Lib.hid KQ
            clear TQ KQ hLa hLn TQ0 KQ0
            go_wp2_with (first
              | (at_builtin; refine wpList_append_lies _ rfl _ _ 39 rfl (W.heap.size + 1) 3 i0 (.int .i64 0) 1 8 Try.underlying39 hi hz0 hz1 hz2 rfl (by decide) _ _ _ rfl (T0.out.ra.alloc _) ⟨wr.heap.size, 0, none⟩ 1 1 [.int .i64 bb] rfl rfl (news_one wr bb _ rfl) (one_cell _) (by decide) (by unfold maxLen; omega) (by omega) (by simp; omega) _ rfl ?_
                 intro g5 cap5 w5 hown5 hg5 hat5 hlt5
                 have T1 := Lib.hid (T0.out.pushA rfl hown5 hg5 hat5)
                 have K1 := Lib.hid (kp_push K0.out (Nat.le_refl _) T0.out.ra hg5)
                 have hlt1 := T1.out.lt
                 clear hown5 hg5 hat5 hlt5 T0 K0)
              | (at_builtin; refine wpList_append_lies _ rfl _ _ 39 rfl (W.heap.size + 1) 3 i0 (.int .i64 0) 1 8 Try.underlying39 hi hz0 hz1 hz2 rfl (by decide) _ _ _ rfl (T1.out.rn.alloc _) ⟨w5.heap.size, 0, none⟩ 1 1 [.int .i64 kk] rfl rfl (news_one w5 kk _ rfl) (one_cell _) (by decide) (by unfold maxLen; omega) (by omega) (by simp; omega) _ rfl ?_
                 intro g6 cap6 w6 hown6 hg6 hat6 hlt6
                 have T2 := Lib.hid (T1.out.pushN rfl hown6 hg6 hat6)
                 have K2 := Lib.hid (kp_push K1.out (Nat.le_refl _) T1.out.rn hg6)
                 clear hown6 hg6 hat6 hlt6))
            go_roundg G
            case rel =>
              refine ⟨i + 1, nw, L ++ [(bb, kk)], g', by omega, by go_num, rfl, hnw2, by rw [List.length_append]; simp; omega, by rw [HW.out]; exact PN.out, ?_, K2.out⟩
              have := T2.out
              rw [HLa.out, HLn.out] at this ⊢
              rw [List.map_append, List.map_append]
              simpa using this
            case measure => omega
      · have cF := find_none now kk wr hnow hno
        have PP := Lib.hid P
        have TT := Lib.hid T
        clear P T hno
        go_wp2_with ((with_reducible refine cF.mono ?_); rintro e w2 ⟨rfl, hk2⟩)
        go_roundg (len - (i + 1))
        case rel => exact ⟨i + 1, now, L, g, by omega, by go_num, rfl, hnow, by omega, PP.out, TT.out.on hk2, K.trans hk2⟩
        case measure => omega
    · obtain ⟨a5, cap5, e5, form5⟩ := T.formA
      obtain ⟨a6, cap6, e6, form6⟩ := T.formN
      subst e5 e6
      obtain ⟨n3, hn3⟩ : ∃ n3, n3 = L.length := ⟨_, rfl⟩
      have hlA : (L.map fun p => (p.1 : Int)).length = n3 := by rw [List.length_map, hn3]
      have hlN : (L.map fun p => (p.2 : Int)).length = n3 := by rw [List.length_map, hn3]
      rw [hlA] at form5 T
      rw [hlN] at form6 T
      have hnn : n3 ≤ 40 := by omega
      have HN3 := Lib.hid hn3
      have F5 := Lib.hid form5
      have F6 := Lib.hid form6
      have PB := Lib.hid P.back
      have PL := Lib.hid P.runs
      obtain ⟨w0, rfl⟩ : ∃ w0, w0 = wr := ⟨_, rfl⟩
      rw [hlA, hlN]
      clear P T form5 form6 hn3 hlA hlN hLi HA
      go_wp2_with fail
      go_loopg [8, 16] n3 (fun gg nowv tv wq => ∃ (t nw : Nat), t + gg = n3 ∧ tv = .int .i64 t ∧ nowv = .int .u64 nw ∧ nw < 18446744073709551616 ∧ Hid (BInv x nw L t) ∧ Kp [] w0 wq)
      case atStart => exact ⟨0, now, by omega, rfl, rfl, hnow, PB.out, Kp.refl _ _⟩
      case round =>
        obtain ⟨t, nw, htg, rfl, rfl, hnw, BI, KQ⟩ := hrel
        by_cases ht : t < n3
        · have htL : t < L.length := by rw [← HN3.out]; exact ht
          obtain ⟨⟨b, k⟩, hp⟩ : ∃ p, L[t]? = some p := ⟨L[t], List.getElem?_eq_getElem htL⟩
          obtain ⟨hall, hnext⟩ := BI.out.step PL.out hp
          obtain ⟨r1, r2, r3⟩ := PL.out.rng (b, k) (List.mem_of_getElem? hp)
          simp only at hall hnext r1 r2 r3
          obtain ⟨b5, rfl, f5⟩ := F5.out t ht
          obtain ⟨b6, rfl, f6⟩ := F6.out t ht
          have g5 : (L.map fun p => (p.1 : Int)).getD t 0 = (b : Int) := by simp [List.getD, hp]
          have g6 : (L.map fun p => (p.2 : Int)).getD t 0 = (k : Int) := by simp [List.getD, hp]
          rw [g5] at f5
          rw [g6] at f6
          have c5 : ∀ j, (wr.drewN j).cell? ⟨b5, t, none⟩ = some (.int .i64 b) := fun j => f5 _ (KQ.trans (kp_drewN _ _))
          have c6 : ∀ j, (wr.drewN j).cell? ⟨b6, t, none⟩ = some (.int .i64 k) := fun j => f6 _ (KQ.trans (kp_drewN _ _))
          obtain ⟨nx, hnx⟩ : ∃ nx, nx = setN nw b k true := ⟨_, rfl⟩
          have hnx2 : nx < 18446744073709551616 := by rw [hnx]; exact setN_lt _ _ _ _
          have cG : ∀ w, Calls Try.prog 15 #[.int .u64 nw, .int .i64 b, .int .i64 k] w fun e w' => e = .returned (.tuple #[.int .u64 nx, .bool true]) ∧ w' = w := fun w =>
            (give_is nw b k nx true w hnw (by rw [isR_nat _ _ _ _ r1 r2, hall, Bool.and_true]; exact decide_eq_true r3) (by rw [if_pos rfl, hnx]; rfl)).mono fun e w' h => ⟨h.1, h.2.symm⟩
          rw [← hnx] at hnext
          have HNX := Lib.hid hnext
          clear hall hnext f5 f6 g5 g6 hp hnx r1 r2 r3 BI
          go_wp2_with fail
          go_quiet ((go_at_call 15; exact Calls.quiet_of_same (cG _)))
          have KN := KQ.trans (kp_drewN wr nq)
          go_wp2
          go_roundg (n3 - (t + 1))
          case rel => exact ⟨t + 1, nx, by omega, by go_num, rfl, hnx2, HNX.out, KN⟩
          case measure => omega
        · obtain rfl : nw = x := BI.out.done HX.out (by rw [← HN3.out]; omega)
          go_wp2_with ((with_reducible refine (kw _).mono ?_); rintro e w3 ⟨rfl, hk3⟩)
          go_ret
          exact ⟨rfl, (K.trans KQ).trans hk3⟩

end Go.Proofs.Ytdpgefagdpoobaa
