/- The walks of law 15's own: Does (an act). Conditions: as each theorem states them. -/
import Derived.Test.YtbpgkocbfleajaaGreatDoorPa03
import Derived.Test.YtbpgkocbfleajaaGreatDoorPa16
import Derived.Test.YtbpgkocbfleajaaGreatDoorPa17
namespace Go.Proofs.YtbpgkocbfleajaaGreatDoor
open List renaming setIfInBounds_toArray → siA, set_cons_succ → scS, set_cons_zero → scZ
set_option linter.unusedVariables false
set_option linter.unusedSimpArgs false
set_option maxRecDepth 100000
open Go.RowKit

section
variable {T n p r sp t t' : Nat} {qs : Nat → Nat} {v : Av} {s : As} {col col' : Nat → Nat} {w w' w1 w2 w3 : World}
set_option maxHeartbeats 8000000 in
theorem aw_does {B : Nat} (HMk : Hid (CMake B T n p r sp qs)) (HBd : Hid (CBad B T n p r sp qs)) (HWt : Hid (CWaits B T n p r sp qs)) (h : Aw T n p r sp qs v s t col w) (hT : 0 < T) (hT4 : T ≤ 4) (hn : n ≤ 12) (ht : t ≤ 240000) {k : Nat} (hk : k ≤ 900) (hm : Mok T n k s) (hL : Lo B T p r sp qs v) (hB : B ≤ w.heap.size) (d ow kk rf sz : Int) (hd : 0 ≤ d) (hd2 : d ≤ 255) (ho : 0 ≤ ow) (ho2 : ow ≤ 255) (hk0 : 0 ≤ kk) (hk2 : kk ≤ 255) :
    Calls Tryz.prog 9 #[.pointer (some ⟨sp, 0, none⟩), .agg #[.int .u8 d, .int .u8 ow, .int .u8 kk, .int .i64 rf, .int .i64 sz]] w fun e w' => e = .returned (.bool true) ∧ Nd B T n p r sp (t + 600) (k + 1) qs w w' := by
  obtain ⟨i, hi0⟩ : ∃ i : Nat, ow % (T : Int) = i := ⟨(ow % (T : Int)).toNat, by have := Int.emod_nonneg ow (show (T : Int) ≠ 0 by omega); omega⟩
  have hi : i < T := by have := Int.emod_lt_of_pos ow (show (0 : Int) < T by omega); omega
  have KB : Kp [] w (w.alloc (.cells #[.int .u8 d, .int .u8 ow, .int .u8 kk, .int .i64 rf, .int .i64 sz] 29)) := (Kp.refl _ _).alloc _
  obtain ⟨b10, c10, e10, hc10, -, -⟩ := row4_at h.docs (by omega)
  have HB := Lib.hid (And.intro (heap_alloc_new w (.cells #[.int .u8 d, .int .u8 ow, .int .u8 kk, .int .i64 rf, .int .i64 sz] 29)) KB)
  have HA := Lib.hid h
  have HM := Lib.hid hm
  have HL := Lib.hid hL
  have x10 := kp_cell KB (by simp) ((h.cell (i := 10) (by decide)).trans (show _ = some (.slice (some ⟨b10, 0, none⟩) T c10) from by rw [e10]))
  have hTn : ¬ ((T : Int) = 0) := by omega
  clear h hm hL KB e10
  go_enter Tryz.func9, Tryz.ntmps9
  go_upto_region 1 with (fail)
  obtain ⟨W1, hW1⟩ : ∃ W1, W1 = w.alloc (.cells #[.int .u8 d, .int .u8 ow, .int .u8 kk, .int .i64 rf, .int .i64 sz] 29) := ⟨_, rfl⟩
  rw [← hW1] at HB x10 ⊢
  obtain ⟨kb, hkb⟩ : ∃ kb, kb = w.heap.size := ⟨_, rfl⟩
  rw [← hkb] at HB ⊢
  have HKb : Hid (w.heap.size ≤ kb) := Lib.hid (by omega)
  clear hW1 hkb
  have b0 := (cell_of_row HB.out.1 0).trans (show _ = some (.int .u8 d) from rfl)
  have b1 := (cell_of_row HB.out.1 1).trans (show _ = some (.int .u8 ow) from rfl)
  have b2 := (cell_of_row HB.out.1 2).trans (show _ = some (.int .u8 kk) from rfl)
  have b3 := (cell_of_row HB.out.1 3).trans (show _ = some (.int .i64 rf) from rfl)
  have b4 := (cell_of_row HB.out.1 4).trans (show _ = some (.int .i64 sz) from rfl)
  have hcw : IntKind.i64.wrap ow = ow := IntWalk.i64_in ow (by omega)
  have hcd : IntKind.i64.wrap kk = kk := IntWalk.i64_in kk (by omega)
  go_quiet (fail)
  go_upto_region 2 with (fail)
  rw [hi0]
  obtain ⟨W2, hW2⟩ : ∃ W2, W2 = W1.drewN nq := ⟨_, rfl⟩
  have k12 : Kp [] W1 W2 := by rw [hW2]; exact Gx.kp_drewN _ _
  rw [← hW2]
  have HB2 := Lib.hid (And.intro (k12.row (by simp) HB.out.1) (HB.out.2.trans k12))
  clear hW2 k12 b0 b1 b2 b3 b4 x10 hcw HB
  have HA2 := Lib.hid (HA.out.on HB2.out.2)
  obtain ⟨b11, c11, e11, hc11, ⟨cur11, hb11⟩, hcell11⟩ := rowF_at HA2.out.mades (by omega)
  have b0 := (cell_of_row HB2.out.1 0).trans (show _ = some (.int .u8 d) from rfl)
  have x11 := (HA2.out.cell (i := 11) (by decide)).trans (show _ = some (.slice (some ⟨b11, 0, none⟩) T c11) from by rw [e11])
  have y11 := hcell11 i hi
  obtain ⟨L, hL⟩ : ∃ L, L = (s.made i).length := ⟨_, rfl⟩
  have hmr := HA2.out.mr i hi
  obtain ⟨am, cm, hmv, hLc, ham⟩ : ∃ am cm, v.ms i = .slice am L cm ∧ L ≤ cm ∧ (0 < L → ∃ g, am = some ⟨g, 0, none⟩) := by
    rcases hmr with ⟨e1, e2⟩ | ⟨g, cap, cur, e1, _, h1, _⟩
    · exact ⟨none, 0, by rw [e1, hL, e2]; rfl, by rw [hL, e2]; simp, fun h => by rw [hL, e2] at h; simp at h⟩
    · exact ⟨_, cap, by rw [e1, hL], by rw [hL]; exact h1, fun _ => ⟨g, rfl⟩⟩
  rw [hmv] at y11
  have HMv := Lib.hid (And.intro hmv (And.intro hL (And.intro e11 hb11)))
  have hLk : L ≤ 1000 := by have := (HM.out.ln i hi).1; omega
  clear e11 hcell11 hmr hmv hL hb11
  by_cases h01 : d = 0 ∨ d = 1
  · by_cases hL0 : L = 0
    · subst hL0
      have HE : Hid (Nd B T n p r sp (t + 600) (k + 1) qs w W2) := Lib.hid ⟨v, s, col, HA2.out.more (by omega), HM.out.more (by omega), HL.out, HB2.out.2.below hB (by simp)⟩
      rcases h01 with rfl | rfl
      · go_wp2_with fail
        go_ret
        exact ⟨rfl, HE.out⟩
      · go_wp2_with fail
        go_ret
        exact ⟨rfl, HE.out⟩
    · have hLp : 0 < L := by omega
      obtain ⟨g, rfl⟩ := ham hLp
      obtain ⟨m, hm0⟩ : ∃ m : Nat, kk % (L : Int) = m := ⟨(kk % (L : Int)).toNat, by have := Int.emod_nonneg kk (show (L : Int) ≠ 0 by omega); omega⟩
      have hmL : m < L := by have := Int.emod_lt_of_pos kk (show (0 : Int) < L by omega); omega
      have hsrc : Src W2 ⟨g, 0, none⟩ (s.made i) := by
        have := HA2.out.mr i hi
        rw [HMv.out.1, HMv.out.2.1] at this
        exact Src.of_row this
      obtain ⟨a, ha, hax⟩ : ∃ a : Nat, (s.made i).getD m 0 = a ∧ (a : Int) ∈ s.made i := by
        have hlt : m < (s.made i).length := by rw [← HMv.out.2.1]; exact hmL
        have hmem : (s.made i).getD m 0 ∈ s.made i := by
          rw [List.getD_eq_getElem?_getD, List.getElem?_eq_getElem hlt]
          exact List.getElem_mem hlt
        obtain ⟨a, ha⟩ := Int.eq_ofNat_of_zero_le (show 0 ≤ (s.made i).getD m 0 by have := (HM.out.pl i hi _ hmem).1; omega)
        exact ⟨a, ha, ha ▸ hmem⟩
      have hab := HM.out.pl i hi _ hax
      have ca : W2.cell? ⟨g, m, none⟩ = some (.int .i64 a) := by
        have := hsrc m _ (Li.ints_get _ m (by rw [← HMv.out.2.1]; exact hmL))
        rw [Addr.add_lit, Nat.zero_add, ha] at this
        exact this
      have b2 := (cell_of_row HB2.out.1 2).trans (show _ = some (.int .u8 kk) from rfl)
      have hLn : ¬ ((L : Int) = 0) := by omega
      have hL0' : ((L : Int) == 0) = false := by simp; omega
      clear hsrc ha hax hL0
      have HD : Hid (d = 0 ∨ d = 1) := Lib.hid h01
      have hq : (d == 0) = true ∨ ((d == 0) = false ∧ (d == 1) = true) := by
        rcases h01 with rfl | rfl
        · exact .inl rfl
        · exact .inr ⟨rfl, rfl⟩
      go_upto_if 31 with (fail)
      go_cut [31] (fun v31 wd => v31 = .bool true ∧ W2 = wd)
      case first =>
        rcases hq with hq | ⟨hq, hq'⟩
        · go_wp2_with fail
          go_meet
          exact ⟨by first | rfl | rw [hq], rfl⟩
        · go_wp2_with fail
          go_meet
          exact ⟨by first | rfl | rw [hq'], rfl⟩
      case rest =>
        obtain ⟨rfl, rfl⟩ := hcut
        clear hq h01
        go_upto_region 8 with (fail)
        go_quiet (fail)
        go_upto_region 9 with (fail)
        obtain ⟨W3, hW3⟩ : ∃ W3, W3 = W2.drewN nq := ⟨_, rfl⟩
        have k23 : Kp [] W2 W3 := by rw [hW3]; exact Gx.kp_drewN _ _
        rw [← hW3]
        obtain ⟨colK, hKold, hKnew⟩ : ∃ colK : Nat → Nat, (∀ g, g < w.heap.size → colK g = col g) ∧ ∀ g, w.heap.size ≤ g → colK g = 1000 := ⟨fun g => if g < w.heap.size then col g else 1000, fun g hg => if_pos hg, fun g hg => if_neg (by omega)⟩
        have HA3 : Hid (Aw T n p r sp qs v s t colK W3) := Lib.hid ((HA.out.recol hT hKold).on (HB2.out.2.trans k23))
        have HB3 := Lib.hid (And.intro (k23.row (by simp) HB2.out.1) (And.intro (HB2.out.2.trans k23) (hKnew kb HKb.out)))
        have a1 : W3.cell? ⟨sp, 1, none⟩ = some (.int .i64 T) := (HA3.out.cell (by decide)).trans (by rw [HA3.out.f1])
        have a2 : W3.cell? ⟨sp, 2, none⟩ = some (.int .i64 ((0 : Nat) : Int)) := (HA3.out.cell (by decide)).trans (by rw [HA3.out.f2]; rfl)
        have a3 : W3.cell? ⟨sp, 3, none⟩ = some (.int .i64 n) := (HA3.out.cell (by decide)).trans (by rw [HA3.out.f3])
        have ha1 : 3 + T + n ≤ a := by omega
        have ha2 : a < 3 + T + 33 * n := by omega
        obtain ⟨b, m2, hb, hbe, hme⟩ := blk_of ha1 ha2
        have HBk := Lib.hid (fun w => Ly.block_in T ((0 : Nat) : Int) n a w (by omega) (by omega) (by omega) (by omega) (by omega) (by omega) (by omega) (by omega))
        rw [hbe, hme] at HBk
        clear hW3 k23 hKold hKnew hbe hme b0 b2 x11 y11 ca HB2 HA2
        go_wp2_with fail
        refine (HBk.out _).mono ?_
        rintro e W4 ⟨rfl, k34⟩
        have HA4 := Lib.hid (HA3.out.on k34)
        have HB4 := Lib.hid (And.intro (k34.row (by simp) HB3.out.1) (And.intro (HB3.out.2.1.trans k34) HB3.out.2.2))
        have c0 := (cell_of_row HB4.out.1 0).trans (show _ = some (.int .u8 d) from rfl)
        clear k34 HA3 HB3 a1 a2 a3 HBk
        go_upto_if 62 with (fail)
        go_cut [] (fun wd => Hid (∃ v1 s1 col1, Aw T n p r sp qs v1 s1 (t + 1) col1 wd ∧ s1.made = s.made ∧ s1.size = s.size ∧ Lo B T p r sp qs v1 ∧ BK B colK col1 W4 wd))
        case first =>
          --{{A
          have hB4 : B ≤ W4.heap.size := Nat.le_trans hB HB4.out.2.1.size
          rcases HD.out with rfl | rfl
          · -- the object is free
            have hq10 : ((0 : Int) == 1) = false := by decide
            obtain ⟨x, hx⟩ : ∃ x, s.H.getD (3 + T + 0 + b) 0 = x := ⟨_, rfl⟩
            have hlen := HA.out.fit.len
            have HEn : Hid (Calls Tryz.prog 39 #[hV v.db v.dc (3 + T + 33 * n) T 0 n, .int .i64 b] W4 fun e w'' => e = .returned (.agg #[.int .u8 (ek x), .int .u8 (ec x), .int .u8 (er x), .int .u8 (eo x)]) ∧ Kp [] W4 w'') := Lib.hid (by
              have := d_entry HA4.out.dh b hb x hx
              rw [hlen] at this
              exact this)
            obtain ⟨N, hN⟩ : ∃ N, N = 3 + T + 33 * n := ⟨_, rfl⟩
            rw [← hN] at HEn
            have a6 : W4.cell? ⟨sp, 6, none⟩ = some (.slice (some ⟨v.db, 0, none⟩) N v.dc) := (HA4.out.cell (by decide)).trans (by rw [HA4.out.f6, hN])
            have a7 : W4.cell? ⟨sp, 7, none⟩ = some (.int .i64 T) := (HA4.out.cell (by decide)).trans (by rw [HA4.out.f7])
            have a8 : W4.cell? ⟨sp, 8, none⟩ = some (.int .i64 ((0 : Nat) : Int)) := (HA4.out.cell (by decide)).trans (by rw [HA4.out.f8]; rfl)
            have a9 : W4.cell? ⟨sp, 9, none⟩ = some (.int .i64 n) := (HA4.out.cell (by decide)).trans (by rw [HA4.out.f9])
            have hob := eo_bd x
            generalize hek : ek x = xk at HEn
            generalize ec x = xc at HEn
            generalize er x = xr at HEn
            generalize heo : eo x = xo at HEn hob
            have hcv : IntKind.i64.wrap xo = xo := IntWalk.i64_in xo (by omega)
            clear hN hlen hx hek heo
            go_wp2_with fail
            refine HEn.out.mono ?_
            rintro e w5 ⟨rfl, hk5⟩
            have HK5 := Lib.hid hk5
            clear hk5 a6 a7 a8 a9 HEn c0
            have hAy := HA4.out.on HK5.out
            have hAw : Fit T n (s.H.set a (Wd.wordI 0 0 i 0 0 false false)) s.Rs := HA.out.fit.free ha1 _
            have hww : ∃ x : Int, x = Wd.wordI 0 0 i 0 0 false false ∧ 0 ≤ x ∧ x < 18446744073709551616 := ⟨_, rfl, by unfold Wd.wordI; simp [Wd.bitI]; omega, by unfold Wd.wordI; simp [Wd.bitI]; omega⟩
            obtain ⟨wx, hwx, hwx0, hwx1⟩ := hww
            rw [← hwx] at hAw
            have HWd := Lib.hid (fun w => Wd.rword_any 0 0 i 0 0 false false w (by omega) (by omega) (by omega) (by omega) (by omega) (by omega) (by omega) (by omega) (by omega) (by omega))
            rw [← hwx] at HWd
            have HSet : Hid (∀ w', Kp [] w5 w' → Calls Tryz.prog 40 #[.pointer (some ⟨sp, 0, none⟩), .int .i64 a, .int .u64 wx] w' fun e w'' => e = .returned (.tuple #[]) ∧ ∃ v1 s1 col1, Aw T n p r sp qs v1 s1 (t + 1) col1 w'' ∧ s1.made = s.made ∧ s1.size = s.size ∧ Lo B T p r sp qs v1 ∧ BK B colK col1 W4 w'') := by
              refine Lib.hid fun w' k => ?_
              have hA7 := hAy.on k
              refine (aw_set hA7 (by omega) (by omega) a (by omega) wx hwx0 hwx1 hAw).mono ?_
              rintro e w'' ⟨rfl, ⟨b', c', hA'⟩, hk'⟩
              have hL1 := HL.out
              refine ⟨rfl, _, _, _, hA', rfl, rfl, { hL1 with w0 := ?_, d0 := ?_, m0 := ?_, z0 := ?_ }, ?_⟩
              · intro g hg
                have hg2 : g ∈ Gx.blk (heapF v.f T n b' c' 5) := hg
                rw [hA7.heapF_ne b' c' 5 (by decide)] at hg2
                exact hL1.w0 g hg2
              · intro g hg
                have hg2 : g ∈ Gx.blk (heapF v.f T n b' c' 10) := hg
                rw [hA7.heapF_ne b' c' 10 (by decide)] at hg2
                exact hL1.d0 g hg2
              · intro g hg
                have hg2 : g ∈ Gx.blk (heapF v.f T n b' c' 11) := hg
                rw [hA7.heapF_ne b' c' 11 (by decide)] at hg2
                exact hL1.m0 g hg2
              · intro g hg
                have hg2 : g ∈ Gx.blk (heapF v.f T n b' c' 12) := hg
                rw [hA7.heapF_ne b' c' 12 (by decide)] at hg2
                exact hL1.z0 g hg2
              · have z1 := HK5.out.size
                have z2 := k.size
                refine (BK.of0 (HK5.out.trans k) hB4).trans (BK.of hk' (by omega) (fun x hx => ?_) (fun x hx _ => ?_))
                · simp only [List.mem_cons, List.not_mem_nil, or_false] at hx
                  rcases hx with e | e | e
                  · rw [e]; exact hL1.p0
                  · rw [e]; exact hL1.r0
                  · rw [e]; exact hL1.s0
                · simp only [List.mem_cons, List.not_mem_nil, or_false] at hx
                  rw [hA7.c0 x (by rcases hx with e | e | e <;> simp [e])]; decide
            have HNo : Hid (∀ w', Kp [] w5 w' → ∃ v1 s1 col1, Aw T n p r sp qs v1 s1 (t + 1) col1 w' ∧ s1.made = s.made ∧ s1.size = s.size ∧ Lo B T p r sp qs v1 ∧ BK B colK col1 W4 w') := Lib.hid fun w' k => ⟨v, s, colK, (hAy.on k).more (by omega), rfl, rfl, HL.out, BK.of0 (HK5.out.trans k) hB4⟩
            have hw8 : IntKind.u8.wrap (i : Int) = i := by unfold IntKind.wrap; simp [IntKind.bits, IntKind.signed]; omega
            have ka : Kp [] w5 (w5.alloc (.cells #[.int .u8 xk, .int .u8 xc, .int .u8 xr, .int .u8 xo] 103)) := (Kp.refl _ _).alloc _
            have HKa := Lib.hid ka
            clear hAy hAw hwx hwx0 hwx1 ka
            go_upto_region 13 with (fail)
            by_cases h1 : xk = 1
            · have hq1 : (xk == 1) = true := by simp [h1]
              by_cases h2 : xo = (i : Int)
              · have hq2 : (xo == (i : Int)) = true := by simp [h2]
                clear h1 h2
                go_wp2_with fail
                refine (HWd.out _).mono ?_
                rintro e w10 ⟨rfl, hk10⟩
                have HK10 := Lib.hid (HKa.out.trans (kp_of_below hk10))
                clear hk10
                go_wp2_with fail
                refine (HSet.out _ HK10.out).mono ?_
                rintro e w11 ⟨rfl, hN⟩
                have HNN := Lib.hid hN
                clear hN
                go_wp2_with fail
                go_meet
                exact HNN
              · have hq2 : (xo == (i : Int)) = false := by simp [h2]
                go_wp2_with fail
                go_meet
                exact Lib.hid (HNo.out _ ((Kp.refl _ _).alloc _))
            · have hq1 : (xk == 1) = false := by simp [h1]
              go_wp2_with fail
              go_meet
              exact Lib.hid (HNo.out _ ((Kp.refl _ _).alloc _))
          · -- its block waits
            have hq11 : ((1 : Int) == 1) = true := by decide
            have HW := Lib.hid (HWt.out v s t colK W4 i a HA4.out (by omega) hi HL.out hB4 ha1 ha2)
            go_wp2_with fail
            refine HW.out.mono ?_
            rintro e w5 ⟨rfl, v1, s1, col1, h1, h2, h3, h4, h5, -⟩
            have HNN := Lib.hid (show ∃ v1 s1 col1, Aw T n p r sp qs v1 s1 (t + 1) col1 w5 ∧ s1.made = s.made ∧ s1.size = s.size ∧ Lo B T p r sp qs v1 ∧ BK B colK col1 W4 w5 from ⟨v1, s1, col1, h1, h4, h5, h2, h3⟩)
            clear h1 h2 h3 h4 h5
            go_wp2_with fail
            go_meet
            exact HNN
          --}}
        case rest =>
          obtain ⟨W5, rfl⟩ : ∃ W5 : World, W5 = wc := ⟨_, rfl⟩
          obtain ⟨v1, s1, col1, hA1, hs1, hz1, hL1, hb1⟩ := hcut.out
          have HP := Lib.hid (And.intro hA1 (And.intro hs1 (And.intro hz1 (And.intro hL1 hb1))))
          have HBx5 : Hid (W5.heap[kb]? = some (.cells #[.int .u8 d, .int .u8 ow, .int .u8 kk, .int .i64 rf, .int .i64 sz] 29 (0, 0))) := Lib.hid ((hb1.st kb (lt_of_block HB4.out.1) HB4.out.2.2).trans HB4.out.1)
          have HLenA := Lib.hid HMv.out.2.1.symm
          have HLenB : Hid ((s.size i).length = L) := Lib.hid (by rw [(HM.out.ln i hi).2]; exact HMv.out.2.1.symm)
          have ewm := IntWalk.i64_in ((m : Int) + 1) (by omega)
          have hL0n : ¬ (L = 0) := by omega
          have hm10 : (0 : Int) ≤ (m : Int) + 1 := by omega
          have hm1L : (m : Int) + 1 ≤ (L : Int) := by omega
          have hmt : kk.tmod (L : Int) = m := by rw [Int.tmod_eq_emod_of_nonneg hk0]; exact hm0
          have etm : ((m : Int) + 1).toNat = m + 1 := by omega
          have hm1 : m + 1 ≤ L := by omega
          clear hcut hA1 hs1 hz1 hL1 hb1 HA4 c0
          obtain ⟨bbA, ccA, eeA, hccA, ⟨curA, hbbA⟩, hcellA⟩ := rowF_at HP.out.1.mades (by omega)
          have xA := (HP.out.1.cell (i := 11) (by decide)).trans (show _ = some (.slice (some ⟨bbA, 0, none⟩) T ccA) from by rw [eeA])
          obtain ⟨grA, cmA, hmsA, hcmA, hsrcA⟩ : ∃ gr cm, v1.ms i = .slice (some ⟨gr, 0, none⟩) L cm ∧ L ≤ cm ∧ Src W5 ⟨gr, 0, none⟩ (s.made i) := by
            have hmr := HP.out.1.mr i hi
            rw [HP.out.2.1] at hmr
            rcases hmr with ⟨e1, e2⟩ | ⟨g', cap, cur', e1, q1, q2, q3⟩
            · exfalso
              have : (s.made i).length = 0 := by rw [e2]; rfl
              have := HLenA.out
              omega
            · refine ⟨g', cap, by rw [e1, HLenA.out], by rw [← HLenA.out]; exact q2, ?_⟩
              exact Src.of_row (cap := cap) (.inr ⟨g', cap, cur', rfl, q1, q2, q3⟩)
          have yA := (hcellA i hi).trans (congrArg some hmsA)
          have zA := (cell_of_row HBx5.out 2).trans (show _ = some (.int .u8 kk) from rfl)
          have HXA := Lib.hid (And.intro eeA (And.intro hbbA (And.intro hmsA hsrcA)))
          have hltA : ((s.made i).take m).length = m := by rw [List.length_take, HLenA.out]; omega
          have hldA : ((s.made i).drop (m + 1)).length = L - (m + 1) := by rw [List.length_drop, HLenA.out]
          have HLsA := Lib.hid (And.intro hltA hldA)
          have HNsA : Hid (sp ∉ [bbA] ∧ kb ∉ [bbA]) := Lib.hid (by
            have hst := HP.out.1.st
            unfold S13 at hst
            have hbx := HBx5.out
            refine ⟨fun e => ?_, fun e => ?_⟩
            · rw [List.mem_singleton] at e
              rw [e, hbbA] at hst; simp at hst
            · rw [List.mem_singleton] at e
              rw [e, hbbA] at hbx; simp at hbx)
          clear eeA hbbA hcellA hmsA hsrcA hltA hldA
          go_upto_region 15 with (fail)
          go_cut [] (fun we => Hid (∃ mv W7, Kp [] W5 W7 ∧ Li.Rw W7 mv (cutL (s.made i) m) ∧ (∀ g ∈ Li.blk mv, W5.heap.size ≤ g) ∧ Kp [] (W7.setCell ⟨bbA, i, none⟩ mv) we))
          case first =>
            --{{P
            as_aux_lemma =>
              have hmcA : m ≤ cmA := by omega
              by_cases hcap : cmA = m + 1
              · have hLm : L ≤ m + 1 := by omega
                have hmm1 : (m : Int) ≤ (m : Int) + 1 := by omega
                refine region_held_last (S := (fun wx => wx.cell? ⟨sp, 11, none⟩ = some (.slice (some ⟨bbA, 0, none⟩) T ccA) ∧ wx.cell? ⟨kb, 2, none⟩ = some (.int .u8 kk) ∧ wx.cell? ⟨bbA, i, none⟩ = some (.slice (some ⟨grA, 0, none⟩) L cmA))) 35 _ (by kernel_rfl) rfl rfl (by kernel_rfl) (by kernel_rfl) ⟨xA, zA, yA⟩ (fun hHeld => ?_)
                simp only [idle, siA, scZ, scS]
                refine wpAnyH_take (i := 0) (oi := ({ dst := some 90, op := Op.move (Operand.tmp 0), type := 24, pos := "law.go:144", after := #[], guard := none } : Oper)) (v := ?_) rfl (by kernel_rfl) (by kernel_rfl) (by kernel_rfl) (fun _ _ _ h => h) (Or.inl ⟨by rfl, ?hy⟩) (by assumption) ?_
                case hy => (intro w hSw; (try dsimp only at hSw); go_simp; try with_reducible rfl)
                try simp only [Act.put, siA, scZ, scS]
                refine wpAnyH_take (i := 1) (oi := ({ dst := some 91, op := Op.nilCheck (Operand.tmp 90), type := 0, pos := "law.go:144", after := #[{ on := 0, ground := Ground.data }], guard := none } : Oper)) (v := ?_) rfl (by kernel_rfl) (by kernel_rfl) (by kernel_rfl) (fun _ _ _ h => h) (Or.inl ⟨by rfl, ?hy⟩) (by assumption) ?_
                case hy => (intro w hSw; (try dsimp only at hSw); go_simp; try with_reducible rfl)
                try simp only [Act.put, siA, scZ, scS]
                refine wpAnyH_take (i := 2) (oi := ({ dst := some 92, op := Op.fieldAddr 51 (Operand.tmp 91) 6, type := 0, pos := "law.go:144", after := #[{ on := 1, ground := Ground.data }], guard := none } : Oper)) (v := ?_) rfl (by kernel_rfl) (by kernel_rfl) (by kernel_rfl) (fun _ _ _ h => h) (Or.inl ⟨by rfl, ?hy⟩) (by assumption) ?_
                case hy => (intro w hSw; (try dsimp only at hSw); go_simp; try with_reducible rfl)
                try simp only [Act.put, siA, scZ, scS]
                refine wpAnyH_take (i := 3) (oi := ({ dst := some 93, op := Op.load 49 (Operand.tmp 92), type := 49, pos := "law.go:144", after := #[{ on := 2, ground := Ground.data }], guard := none } : Oper)) (v := ?_) rfl (by kernel_rfl) (by kernel_rfl) (by kernel_rfl) (fun _ _ _ h => h) (Or.inl ⟨by rfl, ?hy⟩) (by assumption) ?_
                case hy => (intro w hSw; (try dsimp only at hSw); go_simp; try with_reducible rfl)
                try simp only [Act.put, siA, scZ, scS]
                refine wpAnyH_take (i := 4) (oi := ({ dst := some 94, op := Op.move (Operand.tmp 5), type := 3, pos := "law.go:144", after := #[], guard := none } : Oper)) (v := ?_) rfl (by kernel_rfl) (by kernel_rfl) (by kernel_rfl) (fun _ _ _ h => h) (Or.inl ⟨by rfl, ?hy⟩) (by assumption) ?_
                case hy => (intro w hSw; (try dsimp only at hSw); go_simp; try with_reducible rfl)
                try simp only [Act.put, siA, scZ, scS]
                refine wpAnyH_take (i := 5) (oi := ({ dst := some 95, op := Op.move (Operand.tmp 0), type := 24, pos := "law.go:144", after := #[], guard := none } : Oper)) (v := ?_) rfl (by kernel_rfl) (by kernel_rfl) (by kernel_rfl) (fun _ _ _ h => h) (Or.inl ⟨by rfl, ?hy⟩) (by assumption) ?_
                case hy => (intro w hSw; (try dsimp only at hSw); go_simp; try with_reducible rfl)
                try simp only [Act.put, siA, scZ, scS]
                refine wpAnyH_take (i := 6) (oi := ({ dst := some 96, op := Op.nilCheck (Operand.tmp 95), type := 0, pos := "law.go:144", after := #[{ on := 5, ground := Ground.data }], guard := none } : Oper)) (v := ?_) rfl (by kernel_rfl) (by kernel_rfl) (by kernel_rfl) (fun _ _ _ h => h) (Or.inl ⟨by rfl, ?hy⟩) (by assumption) ?_
                case hy => (intro w hSw; (try dsimp only at hSw); go_simp; try with_reducible rfl)
                try simp only [Act.put, siA, scZ, scS]
                refine wpAnyH_take (i := 7) (oi := ({ dst := some 97, op := Op.fieldAddr 51 (Operand.tmp 96) 6, type := 0, pos := "law.go:144", after := #[{ on := 6, ground := Ground.data }], guard := none } : Oper)) (v := ?_) rfl (by kernel_rfl) (by kernel_rfl) (by kernel_rfl) (fun _ _ _ h => h) (Or.inl ⟨by rfl, ?hy⟩) (by assumption) ?_
                case hy => (intro w hSw; (try dsimp only at hSw); go_simp; try with_reducible rfl)
                try simp only [Act.put, siA, scZ, scS]
                refine wpAnyH_take (i := 8) (oi := ({ dst := some 98, op := Op.load 49 (Operand.tmp 97), type := 49, pos := "law.go:144", after := #[{ on := 7, ground := Ground.data }], guard := none } : Oper)) (v := ?_) rfl (by kernel_rfl) (by kernel_rfl) (by kernel_rfl) (fun _ _ _ h => h) (Or.inl ⟨by rfl, ?hy⟩) (by assumption) ?_
                case hy => (intro w hSw; (try dsimp only at hSw); go_simp; try with_reducible rfl)
                try simp only [Act.put, siA, scZ, scS]
                refine wpAnyH_take (i := 9) (oi := ({ dst := some 99, op := Op.move (Operand.tmp 5), type := 3, pos := "law.go:144", after := #[], guard := none } : Oper)) (v := ?_) rfl (by kernel_rfl) (by kernel_rfl) (by kernel_rfl) (fun _ _ _ h => h) (Or.inl ⟨by rfl, ?hy⟩) (by assumption) ?_
                case hy => (intro w hSw; (try dsimp only at hSw); go_simp; try with_reducible rfl)
                try simp only [Act.put, siA, scZ, scS]
                refine wpAnyH_take (i := 10) (oi := ({ dst := some 100, op := Op.indexAddr 49 (Operand.tmp 98) (Operand.tmp 99), type := 0, pos := "law.go:144", after := #[{ on := 8, ground := Ground.data }, { on := 9, ground := Ground.data }], guard := none } : Oper)) (v := ?_) rfl (by kernel_rfl) (by kernel_rfl) (by kernel_rfl) (fun _ _ _ h => h) (Or.inl ⟨by rfl, ?hy⟩) (by assumption) ?_
                case hy => (intro w hSw; (try dsimp only at hSw); go_simp; try with_reducible rfl)
                try simp only [Act.put, siA, scZ, scS]
                refine wpAnyH_take (i := 11) (oi := ({ dst := some 101, op := Op.load 52 (Operand.tmp 100), type := 52, pos := "law.go:144", after := #[{ on := 10, ground := Ground.data }], guard := none } : Oper)) (v := ?_) rfl (by kernel_rfl) (by kernel_rfl) (by kernel_rfl) (fun _ _ _ h => h) (Or.inl ⟨by rfl, ?hy⟩) (by assumption) ?_
                case hy => (intro w hSw; (try dsimp only at hSw); go_simp; try with_reducible rfl)
                try simp only [Act.put, siA, scZ, scS]
                refine wpAnyH_take (i := 12) (oi := ({ dst := some 102, op := Op.fieldAddr 29 (Operand.tmp 3) 2, type := 0, pos := "law.go:144", after := #[], guard := none } : Oper)) (v := ?_) rfl (by kernel_rfl) (by kernel_rfl) (by kernel_rfl) (fun _ _ _ h => h) (Or.inl ⟨by rfl, ?hy⟩) (by assumption) ?_
                case hy => (intro w hSw; (try dsimp only at hSw); go_simp; try with_reducible rfl)
                try simp only [Act.put, siA, scZ, scS]
                refine wpAnyH_take (i := 13) (oi := ({ dst := some 103, op := Op.load 5 (Operand.tmp 102), type := 5, pos := "law.go:144", after := #[{ on := 12, ground := Ground.data }], guard := none } : Oper)) (v := ?_) rfl (by kernel_rfl) (by kernel_rfl) (by kernel_rfl) (fun _ _ _ h => h) (Or.inl ⟨by rfl, ?hy⟩) (by assumption) ?_
                case hy => (intro w hSw; (try dsimp only at hSw); go_simp; try with_reducible rfl)
                try simp only [Act.put, siA, scZ, scS]
                refine wpAnyH_take (i := 14) (oi := ({ dst := some 104, op := Op.convert 5 3 (Operand.tmp 103), type := 3, pos := "law.go:144", after := #[{ on := 13, ground := Ground.data }], guard := none } : Oper)) (v := ?_) rfl (by kernel_rfl) (by kernel_rfl) (by kernel_rfl) (fun _ _ _ h => h) (Or.inl ⟨by rfl, ?hy⟩) (by assumption) ?_
                case hy => (intro w hSw; (try dsimp only at hSw); go_simp; try with_reducible rfl)
                try simp only [Act.put, siA, scZ, scS]
                refine wpAnyH_take (i := 15) (oi := ({ dst := some 105, op := Op.move (Operand.tmp 6), type := 3, pos := "law.go:144", after := #[], guard := none } : Oper)) (v := ?_) rfl (by kernel_rfl) (by kernel_rfl) (by kernel_rfl) (fun _ _ _ h => h) (Or.inl ⟨by rfl, ?hy⟩) (by assumption) ?_
                case hy => (intro w hSw; (try dsimp only at hSw); go_simp; try with_reducible rfl)
                try simp only [Act.put, siA, scZ, scS]
                refine wpAnyH_take (i := 16) (oi := ({ dst := some 106, op := Op.binOp BinOp.rem 3 (Operand.tmp 104) (Operand.tmp 105) 3, type := 3, pos := "law.go:144", after := #[{ on := 14, ground := Ground.data }, { on := 15, ground := Ground.data }], guard := none } : Oper)) (v := ?_) rfl (by kernel_rfl) (by kernel_rfl) (by kernel_rfl) (fun _ _ _ h => h) (Or.inl ⟨by rfl, ?hy⟩) (by assumption) ?_
                case hy => (intro w hSw; (try dsimp only at hSw); go_simp; try with_reducible rfl)
                try simp only [Act.put, siA, scZ, scS]
                refine wpAnyH_take (i := 17) (oi := ({ dst := some 107, op := Op.slice 52 (Operand.tmp 101) none (some (Operand.tmp 106)) none, type := 52, pos := "law.go:144", after := #[{ on := 11, ground := Ground.data }, { on := 16, ground := Ground.data }], guard := none } : Oper)) (v := ?_) rfl (by kernel_rfl) (by kernel_rfl) (by kernel_rfl) (fun _ _ _ h => h) (Or.inl ⟨by rfl, ?hy⟩) (by assumption) ?_
                case hy => (intro w hSw; (try dsimp only at hSw); go_simp; try with_reducible rfl)
                try simp only [Act.put, siA, scZ, scS]
                refine wpAnyH_take (i := 19) (oi := ({ dst := some 109, op := Op.move (Operand.tmp 0), type := 24, pos := "law.go:144", after := #[], guard := none } : Oper)) (v := ?_) rfl (by kernel_rfl) (by kernel_rfl) (by kernel_rfl) (fun _ _ _ h => h) (Or.inl ⟨by rfl, ?hy⟩) (by assumption) ?_
                case hy => (intro w hSw; (try dsimp only at hSw); go_simp; try with_reducible rfl)
                try simp only [Act.put, siA, scZ, scS]
                refine wpAnyH_take (i := 20) (oi := ({ dst := some 110, op := Op.nilCheck (Operand.tmp 109), type := 0, pos := "law.go:144", after := #[{ on := 19, ground := Ground.data }], guard := none } : Oper)) (v := ?_) rfl (by kernel_rfl) (by kernel_rfl) (by kernel_rfl) (fun _ _ _ h => h) (Or.inl ⟨by rfl, ?hy⟩) (by assumption) ?_
                case hy => (intro w hSw; (try dsimp only at hSw); go_simp; try with_reducible rfl)
                try simp only [Act.put, siA, scZ, scS]
                refine wpAnyH_take (i := 21) (oi := ({ dst := some 111, op := Op.fieldAddr 51 (Operand.tmp 110) 6, type := 0, pos := "law.go:144", after := #[{ on := 20, ground := Ground.data }], guard := none } : Oper)) (v := ?_) rfl (by kernel_rfl) (by kernel_rfl) (by kernel_rfl) (fun _ _ _ h => h) (Or.inl ⟨by rfl, ?hy⟩) (by assumption) ?_
                case hy => (intro w hSw; (try dsimp only at hSw); go_simp; try with_reducible rfl)
                try simp only [Act.put, siA, scZ, scS]
                refine wpAnyH_take (i := 22) (oi := ({ dst := some 112, op := Op.load 49 (Operand.tmp 111), type := 49, pos := "law.go:144", after := #[{ on := 21, ground := Ground.data }], guard := none } : Oper)) (v := ?_) rfl (by kernel_rfl) (by kernel_rfl) (by kernel_rfl) (fun _ _ _ h => h) (Or.inl ⟨by rfl, ?hy⟩) (by assumption) ?_
                case hy => (intro w hSw; (try dsimp only at hSw); go_simp; try with_reducible rfl)
                try simp only [Act.put, siA, scZ, scS]
                refine wpAnyH_take (i := 23) (oi := ({ dst := some 113, op := Op.move (Operand.tmp 5), type := 3, pos := "law.go:144", after := #[], guard := none } : Oper)) (v := ?_) rfl (by kernel_rfl) (by kernel_rfl) (by kernel_rfl) (fun _ _ _ h => h) (Or.inl ⟨by rfl, ?hy⟩) (by assumption) ?_
                case hy => (intro w hSw; (try dsimp only at hSw); go_simp; try with_reducible rfl)
                try simp only [Act.put, siA, scZ, scS]
                refine wpAnyH_take (i := 24) (oi := ({ dst := some 114, op := Op.indexAddr 49 (Operand.tmp 112) (Operand.tmp 113), type := 0, pos := "law.go:144", after := #[{ on := 22, ground := Ground.data }, { on := 23, ground := Ground.data }], guard := none } : Oper)) (v := ?_) rfl (by kernel_rfl) (by kernel_rfl) (by kernel_rfl) (fun _ _ _ h => h) (Or.inl ⟨by rfl, ?hy⟩) (by assumption) ?_
                case hy => (intro w hSw; (try dsimp only at hSw); go_simp; try with_reducible rfl)
                try simp only [Act.put, siA, scZ, scS]
                refine wpAnyH_take (i := 25) (oi := ({ dst := some 115, op := Op.load 52 (Operand.tmp 114), type := 52, pos := "law.go:144", after := #[{ on := 24, ground := Ground.data }], guard := none } : Oper)) (v := ?_) rfl (by kernel_rfl) (by kernel_rfl) (by kernel_rfl) (fun _ _ _ h => h) (Or.inl ⟨by rfl, ?hy⟩) (by assumption) ?_
                case hy => (intro w hSw; (try dsimp only at hSw); go_simp; try with_reducible rfl)
                try simp only [Act.put, siA, scZ, scS]
                refine wpAnyH_take (i := 26) (oi := ({ dst := some 116, op := Op.fieldAddr 29 (Operand.tmp 3) 2, type := 0, pos := "law.go:144", after := #[], guard := none } : Oper)) (v := ?_) rfl (by kernel_rfl) (by kernel_rfl) (by kernel_rfl) (fun _ _ _ h => h) (Or.inl ⟨by rfl, ?hy⟩) (by assumption) ?_
                case hy => (intro w hSw; (try dsimp only at hSw); go_simp; try with_reducible rfl)
                try simp only [Act.put, siA, scZ, scS]
                refine wpAnyH_take (i := 27) (oi := ({ dst := some 117, op := Op.load 5 (Operand.tmp 116), type := 5, pos := "law.go:144", after := #[{ on := 26, ground := Ground.data }], guard := none } : Oper)) (v := ?_) rfl (by kernel_rfl) (by kernel_rfl) (by kernel_rfl) (fun _ _ _ h => h) (Or.inl ⟨by rfl, ?hy⟩) (by assumption) ?_
                case hy => (intro w hSw; (try dsimp only at hSw); go_simp; try with_reducible rfl)
                try simp only [Act.put, siA, scZ, scS]
                refine wpAnyH_take (i := 28) (oi := ({ dst := some 118, op := Op.convert 5 3 (Operand.tmp 117), type := 3, pos := "law.go:144", after := #[{ on := 27, ground := Ground.data }], guard := none } : Oper)) (v := ?_) rfl (by kernel_rfl) (by kernel_rfl) (by kernel_rfl) (fun _ _ _ h => h) (Or.inl ⟨by rfl, ?hy⟩) (by assumption) ?_
                case hy => (intro w hSw; (try dsimp only at hSw); go_simp; try with_reducible rfl)
                try simp only [Act.put, siA, scZ, scS]
                refine wpAnyH_take (i := 29) (oi := ({ dst := some 119, op := Op.move (Operand.tmp 6), type := 3, pos := "law.go:144", after := #[], guard := none } : Oper)) (v := ?_) rfl (by kernel_rfl) (by kernel_rfl) (by kernel_rfl) (fun _ _ _ h => h) (Or.inl ⟨by rfl, ?hy⟩) (by assumption) ?_
                case hy => (intro w hSw; (try dsimp only at hSw); go_simp; try with_reducible rfl)
                try simp only [Act.put, siA, scZ, scS]
                refine wpAnyH_take (i := 30) (oi := ({ dst := some 120, op := Op.binOp BinOp.rem 3 (Operand.tmp 118) (Operand.tmp 119) 3, type := 3, pos := "law.go:144", after := #[{ on := 28, ground := Ground.data }, { on := 29, ground := Ground.data }], guard := none } : Oper)) (v := ?_) rfl (by kernel_rfl) (by kernel_rfl) (by kernel_rfl) (fun _ _ _ h => h) (Or.inl ⟨by rfl, ?hy⟩) (by assumption) ?_
                case hy => (intro w hSw; (try dsimp only at hSw); go_simp; try with_reducible rfl)
                try simp only [Act.put, siA, scZ, scS]
                refine wpAnyH_take (i := 31) (oi := ({ dst := some 121, op := Op.binOp BinOp.add 3 (Operand.tmp 120) (Operand.const (Value.int IntKind.i64 1)) 3, type := 3, pos := "law.go:144", after := #[{ on := 30, ground := Ground.data }], guard := none } : Oper)) (v := ?_) rfl (by kernel_rfl) (by kernel_rfl) (by kernel_rfl) (fun _ _ _ h => h) (Or.inl ⟨by rfl, ?hy⟩) (by assumption) ?_
                case hy => (intro w hSw; (try dsimp only at hSw); go_simp; try with_reducible rfl)
                try simp only [Act.put, siA, scZ, scS]
                refine wpAnyH_take (i := 32) (oi := ({ dst := some 122, op := Op.slice 52 (Operand.tmp 115) (some (Operand.tmp 121)) none none, type := 52, pos := "law.go:144", after := #[{ on := 25, ground := Ground.data }, { on := 31, ground := Ground.data }], guard := none } : Oper)) (v := ?_) rfl (by kernel_rfl) (by kernel_rfl) (by kernel_rfl) (fun _ _ _ h => h) (Or.inl ⟨by rfl, ?hy⟩) (by assumption) ?_
                case hy => (intro w hSw; (try dsimp only at hSw); go_simp; try with_reducible rfl)
                try simp only [Act.put, siA, scZ, scS]
                refine wpAnyH_ready (rs := [18]) (by kernel_rfl) (by simp) ?_
                refine AllReadyH.cons (o := ({ dst := some 108, op := Op.call { callee := Callee.builtin Builtin.append, args := #[Operand.const (Value.slice none 0 0), Operand.tmp 107], argTypes := #[52, 52] }, type := 52, pos := "law.go:144", after := #[{ on := 17, ground := Ground.data }], guard := none } : Oper)) rfl (fun K hK => ?_) AllReadyH.nil
                refine step_app0 rfl (.const (.slice none 0 0)) (.tmp 107) rfl (w0 := W5) HLsA.out.1 rfl rfl ((Src.keep HXA.out.2.2.2 (by
                  repeat (first
                    | with_reducible exact Kp.refl _ _
                    | with_reducible refine Kp.drew ?_)) : Src _ ⟨grA, 0, none⟩ (s.made i)).take m) (by omega) (by
                  repeat (first
                    | with_reducible exact Kp.refl _ _
                    | with_reducible refine Kp.drew ?_)) ?_
                intro ao5 cap5 W6 hr6 hk6
                have K6 : Kp [] W5 W6 := Kp.trans (by
                  repeat (first
                    | with_reducible exact Kp.refl _ _
                    | with_reducible refine Kp.drew ?_)) hk6
                have HR6 := Lib.hid (And.intro hr6 K6)
                have y6 := kp_cell K6 (by simp) yA
                have x6 := kp_cell K6 (by simp) xA
                have z6 := kp_cell K6 (by simp) zA
                clear hr6 hk6 K6
                refine hK.out _ _ ?_ (fun hHeld2 => ?_)
                · exact ⟨x6, z6, y6⟩
                clear hK K hHeld
                have hHeld := hHeld2
                clear hHeld2
                try simp only [Act.put, siA, scZ, scS]
                clear x6 z6 y6
                refine wpAnyH_ready (rs := [33]) (by kernel_rfl) (by simp) ?_
                refine AllReadyH.cons (o := ({ dst := some 123, op := Op.call { callee := Callee.builtin Builtin.append, args := #[Operand.tmp 108, Operand.tmp 122], argTypes := #[52, 52] }, type := 52, pos := "law.go:144", after := #[{ on := 18, ground := Ground.data }, { on := 32, ground := Ground.data }, { on := 18, ground := Ground.chain }], guard := none } : Oper)) rfl (fun K hK => ?_) AllReadyH.nil
                refine step_app1 rfl (.tmp 108) (.tmp 122) rfl (w0 := W5) (ys := []) (m := 0) rfl rfl rfl (HR6.out.1.keep0 (by
                  repeat (first
                    | with_reducible exact Kp.refl _ _
                    | with_reducible refine Kp.drew ?_))) (Src.of_len0 rfl) (by omega) (by
                  repeat (first
                    | with_reducible first
                     | exact HR6.out.2
                     | exact Kp.refl _ _
                    | with_reducible refine Kp.drew ?_)) ?_
                intro ao7 cap7 W7 hr7 hk7
                have y7 := kp_cell hk7 (by simp) yA
                have x7 := kp_cell hk7 (by simp) xA
                have z7 := kp_cell hk7 (by simp) zA
                have f7 := free_of_row (hk7.row (by simp) HXA.out.2.1) i
                have HR7 := Lib.hid (And.intro hr7 hk7)
                clear hr7 hk7
                refine hK.out _ _ ?_ (fun hHeld2 => ?_)
                · exact ⟨x7, z7, y7⟩
                clear hK K hHeld
                have hHeld := hHeld2
                clear hHeld2
                try simp only [Act.put, siA, scZ, scS]
                refine wpAnyH_take (i := 34)  (v := ?_) rfl (by kernel_rfl) (by kernel_rfl) (by kernel_rfl) (fun _ _ _ h => h) (Or.inl ⟨by rfl, ?hy⟩) (by assumption) ?_
                case hy => (intro w hSw; (try dsimp only at hSw); go_simp; try with_reducible rfl)
                try simp only [Act.put, siA, scZ, scS]
                refine wpAnyH_take (i := 35)  (v := ?_) rfl (by kernel_rfl) (by kernel_rfl) (by kernel_rfl) (fun _ _ _ h => h) (Or.inl ⟨by rfl, ?hy⟩) (by assumption) ?_
                case hy => (intro w hSw; (try dsimp only at hSw); go_simp; try with_reducible rfl)
                try simp only [Act.put, siA, scZ, scS]
                refine wpAnyH_done (by kernel_rfl) ?_ _
                clear hHeld x7 z7
                refine zq_normal ?_
                refine wpOp_step (o := _) rfl (fun K hK => ?_)
                go_simp
                refine hK _ _ ?_
                clear hK K
                try simp only [Act.put, siA, scZ, scS]
                go_wp2_with fail
                go_meet
                have hdr : List.drop (m + 1) (s.made i) = [] := List.eq_nil_of_length_eq_zero (by rw [HLsA.out.2]; omega)
                have hlc : (List.take m (s.made i) ++ ([] : List Int)).length = m + 0 := by rw [List.length_append, HLsA.out.1]; rfl
                obtain ⟨hrw, hge⟩ := rw_of_gx HR7.out.1 hlc
                have hrw2 : Li.Rw W7 (.slice ao7 (m + 0) cap7) (cutL (s.made i) m) := by unfold cutL; rw [hdr]; exact hrw
                first
                  | exact Lib.hid ⟨_, W7, HR7.out.2, hrw2, hge, Kp.refl _ _⟩
                  | exact Lib.hid ⟨_, W7, HR7.out.2, hrw2, hge, (Kp.refl [] _).drew⟩
              · have hcap1 : m + 1 ≤ cmA := by omega
                refine region_held_last (S := (fun wx => wx.cell? ⟨sp, 11, none⟩ = some (.slice (some ⟨bbA, 0, none⟩) T ccA) ∧ wx.cell? ⟨kb, 2, none⟩ = some (.int .u8 kk) ∧ wx.cell? ⟨bbA, i, none⟩ = some (.slice (some ⟨grA, 0, none⟩) L cmA))) 35 _ (by kernel_rfl) rfl rfl (by kernel_rfl) (by kernel_rfl) ⟨xA, zA, yA⟩ (fun hHeld => ?_)
                simp only [idle, siA, scZ, scS]
                refine wpAnyH_take (i := 0) (oi := ({ dst := some 90, op := Op.move (Operand.tmp 0), type := 24, pos := "law.go:144", after := #[], guard := none } : Oper)) (v := ?_) rfl (by kernel_rfl) (by kernel_rfl) (by kernel_rfl) (fun _ _ _ h => h) (Or.inl ⟨by rfl, ?hy⟩) (by assumption) ?_
                case hy => (intro w hSw; (try dsimp only at hSw); go_simp; try with_reducible rfl)
                try simp only [Act.put, siA, scZ, scS]
                refine wpAnyH_take (i := 1) (oi := ({ dst := some 91, op := Op.nilCheck (Operand.tmp 90), type := 0, pos := "law.go:144", after := #[{ on := 0, ground := Ground.data }], guard := none } : Oper)) (v := ?_) rfl (by kernel_rfl) (by kernel_rfl) (by kernel_rfl) (fun _ _ _ h => h) (Or.inl ⟨by rfl, ?hy⟩) (by assumption) ?_
                case hy => (intro w hSw; (try dsimp only at hSw); go_simp; try with_reducible rfl)
                try simp only [Act.put, siA, scZ, scS]
                refine wpAnyH_take (i := 2) (oi := ({ dst := some 92, op := Op.fieldAddr 51 (Operand.tmp 91) 6, type := 0, pos := "law.go:144", after := #[{ on := 1, ground := Ground.data }], guard := none } : Oper)) (v := ?_) rfl (by kernel_rfl) (by kernel_rfl) (by kernel_rfl) (fun _ _ _ h => h) (Or.inl ⟨by rfl, ?hy⟩) (by assumption) ?_
                case hy => (intro w hSw; (try dsimp only at hSw); go_simp; try with_reducible rfl)
                try simp only [Act.put, siA, scZ, scS]
                refine wpAnyH_take (i := 3) (oi := ({ dst := some 93, op := Op.load 49 (Operand.tmp 92), type := 49, pos := "law.go:144", after := #[{ on := 2, ground := Ground.data }], guard := none } : Oper)) (v := ?_) rfl (by kernel_rfl) (by kernel_rfl) (by kernel_rfl) (fun _ _ _ h => h) (Or.inl ⟨by rfl, ?hy⟩) (by assumption) ?_
                case hy => (intro w hSw; (try dsimp only at hSw); go_simp; try with_reducible rfl)
                try simp only [Act.put, siA, scZ, scS]
                refine wpAnyH_take (i := 4) (oi := ({ dst := some 94, op := Op.move (Operand.tmp 5), type := 3, pos := "law.go:144", after := #[], guard := none } : Oper)) (v := ?_) rfl (by kernel_rfl) (by kernel_rfl) (by kernel_rfl) (fun _ _ _ h => h) (Or.inl ⟨by rfl, ?hy⟩) (by assumption) ?_
                case hy => (intro w hSw; (try dsimp only at hSw); go_simp; try with_reducible rfl)
                try simp only [Act.put, siA, scZ, scS]
                refine wpAnyH_take (i := 5) (oi := ({ dst := some 95, op := Op.move (Operand.tmp 0), type := 24, pos := "law.go:144", after := #[], guard := none } : Oper)) (v := ?_) rfl (by kernel_rfl) (by kernel_rfl) (by kernel_rfl) (fun _ _ _ h => h) (Or.inl ⟨by rfl, ?hy⟩) (by assumption) ?_
                case hy => (intro w hSw; (try dsimp only at hSw); go_simp; try with_reducible rfl)
                try simp only [Act.put, siA, scZ, scS]
                refine wpAnyH_take (i := 6) (oi := ({ dst := some 96, op := Op.nilCheck (Operand.tmp 95), type := 0, pos := "law.go:144", after := #[{ on := 5, ground := Ground.data }], guard := none } : Oper)) (v := ?_) rfl (by kernel_rfl) (by kernel_rfl) (by kernel_rfl) (fun _ _ _ h => h) (Or.inl ⟨by rfl, ?hy⟩) (by assumption) ?_
                case hy => (intro w hSw; (try dsimp only at hSw); go_simp; try with_reducible rfl)
                try simp only [Act.put, siA, scZ, scS]
                refine wpAnyH_take (i := 7) (oi := ({ dst := some 97, op := Op.fieldAddr 51 (Operand.tmp 96) 6, type := 0, pos := "law.go:144", after := #[{ on := 6, ground := Ground.data }], guard := none } : Oper)) (v := ?_) rfl (by kernel_rfl) (by kernel_rfl) (by kernel_rfl) (fun _ _ _ h => h) (Or.inl ⟨by rfl, ?hy⟩) (by assumption) ?_
                case hy => (intro w hSw; (try dsimp only at hSw); go_simp; try with_reducible rfl)
                try simp only [Act.put, siA, scZ, scS]
                refine wpAnyH_take (i := 8) (oi := ({ dst := some 98, op := Op.load 49 (Operand.tmp 97), type := 49, pos := "law.go:144", after := #[{ on := 7, ground := Ground.data }], guard := none } : Oper)) (v := ?_) rfl (by kernel_rfl) (by kernel_rfl) (by kernel_rfl) (fun _ _ _ h => h) (Or.inl ⟨by rfl, ?hy⟩) (by assumption) ?_
                case hy => (intro w hSw; (try dsimp only at hSw); go_simp; try with_reducible rfl)
                try simp only [Act.put, siA, scZ, scS]
                refine wpAnyH_take (i := 9) (oi := ({ dst := some 99, op := Op.move (Operand.tmp 5), type := 3, pos := "law.go:144", after := #[], guard := none } : Oper)) (v := ?_) rfl (by kernel_rfl) (by kernel_rfl) (by kernel_rfl) (fun _ _ _ h => h) (Or.inl ⟨by rfl, ?hy⟩) (by assumption) ?_
                case hy => (intro w hSw; (try dsimp only at hSw); go_simp; try with_reducible rfl)
                try simp only [Act.put, siA, scZ, scS]
                refine wpAnyH_take (i := 10) (oi := ({ dst := some 100, op := Op.indexAddr 49 (Operand.tmp 98) (Operand.tmp 99), type := 0, pos := "law.go:144", after := #[{ on := 8, ground := Ground.data }, { on := 9, ground := Ground.data }], guard := none } : Oper)) (v := ?_) rfl (by kernel_rfl) (by kernel_rfl) (by kernel_rfl) (fun _ _ _ h => h) (Or.inl ⟨by rfl, ?hy⟩) (by assumption) ?_
                case hy => (intro w hSw; (try dsimp only at hSw); go_simp; try with_reducible rfl)
                try simp only [Act.put, siA, scZ, scS]
                refine wpAnyH_take (i := 11) (oi := ({ dst := some 101, op := Op.load 52 (Operand.tmp 100), type := 52, pos := "law.go:144", after := #[{ on := 10, ground := Ground.data }], guard := none } : Oper)) (v := ?_) rfl (by kernel_rfl) (by kernel_rfl) (by kernel_rfl) (fun _ _ _ h => h) (Or.inl ⟨by rfl, ?hy⟩) (by assumption) ?_
                case hy => (intro w hSw; (try dsimp only at hSw); go_simp; try with_reducible rfl)
                try simp only [Act.put, siA, scZ, scS]
                refine wpAnyH_take (i := 12) (oi := ({ dst := some 102, op := Op.fieldAddr 29 (Operand.tmp 3) 2, type := 0, pos := "law.go:144", after := #[], guard := none } : Oper)) (v := ?_) rfl (by kernel_rfl) (by kernel_rfl) (by kernel_rfl) (fun _ _ _ h => h) (Or.inl ⟨by rfl, ?hy⟩) (by assumption) ?_
                case hy => (intro w hSw; (try dsimp only at hSw); go_simp; try with_reducible rfl)
                try simp only [Act.put, siA, scZ, scS]
                refine wpAnyH_take (i := 13) (oi := ({ dst := some 103, op := Op.load 5 (Operand.tmp 102), type := 5, pos := "law.go:144", after := #[{ on := 12, ground := Ground.data }], guard := none } : Oper)) (v := ?_) rfl (by kernel_rfl) (by kernel_rfl) (by kernel_rfl) (fun _ _ _ h => h) (Or.inl ⟨by rfl, ?hy⟩) (by assumption) ?_
                case hy => (intro w hSw; (try dsimp only at hSw); go_simp; try with_reducible rfl)
                try simp only [Act.put, siA, scZ, scS]
                refine wpAnyH_take (i := 14) (oi := ({ dst := some 104, op := Op.convert 5 3 (Operand.tmp 103), type := 3, pos := "law.go:144", after := #[{ on := 13, ground := Ground.data }], guard := none } : Oper)) (v := ?_) rfl (by kernel_rfl) (by kernel_rfl) (by kernel_rfl) (fun _ _ _ h => h) (Or.inl ⟨by rfl, ?hy⟩) (by assumption) ?_
                case hy => (intro w hSw; (try dsimp only at hSw); go_simp; try with_reducible rfl)
                try simp only [Act.put, siA, scZ, scS]
                refine wpAnyH_take (i := 15) (oi := ({ dst := some 105, op := Op.move (Operand.tmp 6), type := 3, pos := "law.go:144", after := #[], guard := none } : Oper)) (v := ?_) rfl (by kernel_rfl) (by kernel_rfl) (by kernel_rfl) (fun _ _ _ h => h) (Or.inl ⟨by rfl, ?hy⟩) (by assumption) ?_
                case hy => (intro w hSw; (try dsimp only at hSw); go_simp; try with_reducible rfl)
                try simp only [Act.put, siA, scZ, scS]
                refine wpAnyH_take (i := 16) (oi := ({ dst := some 106, op := Op.binOp BinOp.rem 3 (Operand.tmp 104) (Operand.tmp 105) 3, type := 3, pos := "law.go:144", after := #[{ on := 14, ground := Ground.data }, { on := 15, ground := Ground.data }], guard := none } : Oper)) (v := ?_) rfl (by kernel_rfl) (by kernel_rfl) (by kernel_rfl) (fun _ _ _ h => h) (Or.inl ⟨by rfl, ?hy⟩) (by assumption) ?_
                case hy => (intro w hSw; (try dsimp only at hSw); go_simp; try with_reducible rfl)
                try simp only [Act.put, siA, scZ, scS]
                refine wpAnyH_take (i := 17) (oi := ({ dst := some 107, op := Op.slice 52 (Operand.tmp 101) none (some (Operand.tmp 106)) none, type := 52, pos := "law.go:144", after := #[{ on := 11, ground := Ground.data }, { on := 16, ground := Ground.data }], guard := none } : Oper)) (v := ?_) rfl (by kernel_rfl) (by kernel_rfl) (by kernel_rfl) (fun _ _ _ h => h) (Or.inl ⟨by rfl, ?hy⟩) (by assumption) ?_
                case hy => (intro w hSw; (try dsimp only at hSw); go_simp; try with_reducible rfl)
                try simp only [Act.put, siA, scZ, scS]
                refine wpAnyH_take (i := 19) (oi := ({ dst := some 109, op := Op.move (Operand.tmp 0), type := 24, pos := "law.go:144", after := #[], guard := none } : Oper)) (v := ?_) rfl (by kernel_rfl) (by kernel_rfl) (by kernel_rfl) (fun _ _ _ h => h) (Or.inl ⟨by rfl, ?hy⟩) (by assumption) ?_
                case hy => (intro w hSw; (try dsimp only at hSw); go_simp; try with_reducible rfl)
                try simp only [Act.put, siA, scZ, scS]
                refine wpAnyH_take (i := 20) (oi := ({ dst := some 110, op := Op.nilCheck (Operand.tmp 109), type := 0, pos := "law.go:144", after := #[{ on := 19, ground := Ground.data }], guard := none } : Oper)) (v := ?_) rfl (by kernel_rfl) (by kernel_rfl) (by kernel_rfl) (fun _ _ _ h => h) (Or.inl ⟨by rfl, ?hy⟩) (by assumption) ?_
                case hy => (intro w hSw; (try dsimp only at hSw); go_simp; try with_reducible rfl)
                try simp only [Act.put, siA, scZ, scS]
                refine wpAnyH_take (i := 21) (oi := ({ dst := some 111, op := Op.fieldAddr 51 (Operand.tmp 110) 6, type := 0, pos := "law.go:144", after := #[{ on := 20, ground := Ground.data }], guard := none } : Oper)) (v := ?_) rfl (by kernel_rfl) (by kernel_rfl) (by kernel_rfl) (fun _ _ _ h => h) (Or.inl ⟨by rfl, ?hy⟩) (by assumption) ?_
                case hy => (intro w hSw; (try dsimp only at hSw); go_simp; try with_reducible rfl)
                try simp only [Act.put, siA, scZ, scS]
                refine wpAnyH_take (i := 22) (oi := ({ dst := some 112, op := Op.load 49 (Operand.tmp 111), type := 49, pos := "law.go:144", after := #[{ on := 21, ground := Ground.data }], guard := none } : Oper)) (v := ?_) rfl (by kernel_rfl) (by kernel_rfl) (by kernel_rfl) (fun _ _ _ h => h) (Or.inl ⟨by rfl, ?hy⟩) (by assumption) ?_
                case hy => (intro w hSw; (try dsimp only at hSw); go_simp; try with_reducible rfl)
                try simp only [Act.put, siA, scZ, scS]
                refine wpAnyH_take (i := 23) (oi := ({ dst := some 113, op := Op.move (Operand.tmp 5), type := 3, pos := "law.go:144", after := #[], guard := none } : Oper)) (v := ?_) rfl (by kernel_rfl) (by kernel_rfl) (by kernel_rfl) (fun _ _ _ h => h) (Or.inl ⟨by rfl, ?hy⟩) (by assumption) ?_
                case hy => (intro w hSw; (try dsimp only at hSw); go_simp; try with_reducible rfl)
                try simp only [Act.put, siA, scZ, scS]
                refine wpAnyH_take (i := 24) (oi := ({ dst := some 114, op := Op.indexAddr 49 (Operand.tmp 112) (Operand.tmp 113), type := 0, pos := "law.go:144", after := #[{ on := 22, ground := Ground.data }, { on := 23, ground := Ground.data }], guard := none } : Oper)) (v := ?_) rfl (by kernel_rfl) (by kernel_rfl) (by kernel_rfl) (fun _ _ _ h => h) (Or.inl ⟨by rfl, ?hy⟩) (by assumption) ?_
                case hy => (intro w hSw; (try dsimp only at hSw); go_simp; try with_reducible rfl)
                try simp only [Act.put, siA, scZ, scS]
                refine wpAnyH_take (i := 25) (oi := ({ dst := some 115, op := Op.load 52 (Operand.tmp 114), type := 52, pos := "law.go:144", after := #[{ on := 24, ground := Ground.data }], guard := none } : Oper)) (v := ?_) rfl (by kernel_rfl) (by kernel_rfl) (by kernel_rfl) (fun _ _ _ h => h) (Or.inl ⟨by rfl, ?hy⟩) (by assumption) ?_
                case hy => (intro w hSw; (try dsimp only at hSw); go_simp; try with_reducible rfl)
                try simp only [Act.put, siA, scZ, scS]
                refine wpAnyH_take (i := 26) (oi := ({ dst := some 116, op := Op.fieldAddr 29 (Operand.tmp 3) 2, type := 0, pos := "law.go:144", after := #[], guard := none } : Oper)) (v := ?_) rfl (by kernel_rfl) (by kernel_rfl) (by kernel_rfl) (fun _ _ _ h => h) (Or.inl ⟨by rfl, ?hy⟩) (by assumption) ?_
                case hy => (intro w hSw; (try dsimp only at hSw); go_simp; try with_reducible rfl)
                try simp only [Act.put, siA, scZ, scS]
                refine wpAnyH_take (i := 27) (oi := ({ dst := some 117, op := Op.load 5 (Operand.tmp 116), type := 5, pos := "law.go:144", after := #[{ on := 26, ground := Ground.data }], guard := none } : Oper)) (v := ?_) rfl (by kernel_rfl) (by kernel_rfl) (by kernel_rfl) (fun _ _ _ h => h) (Or.inl ⟨by rfl, ?hy⟩) (by assumption) ?_
                case hy => (intro w hSw; (try dsimp only at hSw); go_simp; try with_reducible rfl)
                try simp only [Act.put, siA, scZ, scS]
                refine wpAnyH_take (i := 28) (oi := ({ dst := some 118, op := Op.convert 5 3 (Operand.tmp 117), type := 3, pos := "law.go:144", after := #[{ on := 27, ground := Ground.data }], guard := none } : Oper)) (v := ?_) rfl (by kernel_rfl) (by kernel_rfl) (by kernel_rfl) (fun _ _ _ h => h) (Or.inl ⟨by rfl, ?hy⟩) (by assumption) ?_
                case hy => (intro w hSw; (try dsimp only at hSw); go_simp; try with_reducible rfl)
                try simp only [Act.put, siA, scZ, scS]
                refine wpAnyH_take (i := 29) (oi := ({ dst := some 119, op := Op.move (Operand.tmp 6), type := 3, pos := "law.go:144", after := #[], guard := none } : Oper)) (v := ?_) rfl (by kernel_rfl) (by kernel_rfl) (by kernel_rfl) (fun _ _ _ h => h) (Or.inl ⟨by rfl, ?hy⟩) (by assumption) ?_
                case hy => (intro w hSw; (try dsimp only at hSw); go_simp; try with_reducible rfl)
                try simp only [Act.put, siA, scZ, scS]
                refine wpAnyH_take (i := 30) (oi := ({ dst := some 120, op := Op.binOp BinOp.rem 3 (Operand.tmp 118) (Operand.tmp 119) 3, type := 3, pos := "law.go:144", after := #[{ on := 28, ground := Ground.data }, { on := 29, ground := Ground.data }], guard := none } : Oper)) (v := ?_) rfl (by kernel_rfl) (by kernel_rfl) (by kernel_rfl) (fun _ _ _ h => h) (Or.inl ⟨by rfl, ?hy⟩) (by assumption) ?_
                case hy => (intro w hSw; (try dsimp only at hSw); go_simp; try with_reducible rfl)
                try simp only [Act.put, siA, scZ, scS]
                refine wpAnyH_take (i := 31) (oi := ({ dst := some 121, op := Op.binOp BinOp.add 3 (Operand.tmp 120) (Operand.const (Value.int IntKind.i64 1)) 3, type := 3, pos := "law.go:144", after := #[{ on := 30, ground := Ground.data }], guard := none } : Oper)) (v := ?_) rfl (by kernel_rfl) (by kernel_rfl) (by kernel_rfl) (fun _ _ _ h => h) (Or.inl ⟨by rfl, ?hy⟩) (by assumption) ?_
                case hy => (intro w hSw; (try dsimp only at hSw); go_simp; try with_reducible rfl)
                try simp only [Act.put, siA, scZ, scS]
                refine wpAnyH_take (i := 32) (oi := ({ dst := some 122, op := Op.slice 52 (Operand.tmp 115) (some (Operand.tmp 121)) none none, type := 52, pos := "law.go:144", after := #[{ on := 25, ground := Ground.data }, { on := 31, ground := Ground.data }], guard := none } : Oper)) (v := ?_) rfl (by kernel_rfl) (by kernel_rfl) (by kernel_rfl) (fun _ _ _ h => h) (Or.inl ⟨by rfl, ?hy⟩) (by assumption) ?_
                case hy => (intro w hSw; (try dsimp only at hSw); go_simp; try with_reducible rfl)
                try simp only [Act.put, siA, scZ, scS]
                refine wpAnyH_ready (rs := [18]) (by kernel_rfl) (by simp) ?_
                refine AllReadyH.cons (o := ({ dst := some 108, op := Op.call { callee := Callee.builtin Builtin.append, args := #[Operand.const (Value.slice none 0 0), Operand.tmp 107], argTypes := #[52, 52] }, type := 52, pos := "law.go:144", after := #[{ on := 17, ground := Ground.data }], guard := none } : Oper)) rfl (fun K hK => ?_) AllReadyH.nil
                refine step_app0 rfl (.const (.slice none 0 0)) (.tmp 107) rfl (w0 := W5) HLsA.out.1 rfl rfl ((Src.keep HXA.out.2.2.2 (by
                  repeat (first
                    | with_reducible exact Kp.refl _ _
                    | with_reducible refine Kp.drew ?_)) : Src _ ⟨grA, 0, none⟩ (s.made i)).take m) (by omega) (by
                  repeat (first
                    | with_reducible exact Kp.refl _ _
                    | with_reducible refine Kp.drew ?_)) ?_
                intro ao5 cap5 W6 hr6 hk6
                have K6 : Kp [] W5 W6 := Kp.trans (by
                  repeat (first
                    | with_reducible exact Kp.refl _ _
                    | with_reducible refine Kp.drew ?_)) hk6
                have HR6 := Lib.hid (And.intro hr6 K6)
                have y6 := kp_cell K6 (by simp) yA
                have x6 := kp_cell K6 (by simp) xA
                have z6 := kp_cell K6 (by simp) zA
                clear hr6 hk6 K6
                refine hK.out _ _ ?_ (fun hHeld2 => ?_)
                · exact ⟨x6, z6, y6⟩
                clear hK K hHeld
                have hHeld := hHeld2
                clear hHeld2
                try simp only [Act.put, siA, scZ, scS]
                clear x6 z6 y6
                refine wpAnyH_ready (rs := [33]) (by kernel_rfl) (by simp) ?_
                refine AllReadyH.cons (o := ({ dst := some 123, op := Op.call { callee := Callee.builtin Builtin.append, args := #[Operand.tmp 108, Operand.tmp 122], argTypes := #[52, 52] }, type := 52, pos := "law.go:144", after := #[{ on := 18, ground := Ground.data }, { on := 32, ground := Ground.data }, { on := 18, ground := Ground.chain }], guard := none } : Oper)) rfl (fun K hK => ?_) AllReadyH.nil
                refine step_app1 rfl (.tmp 108) (.tmp 122) rfl (w0 := W5) HLsA.out.2 rfl rfl (HR6.out.1.keep0 (by
                  repeat (first
                    | with_reducible exact Kp.refl _ _
                    | with_reducible refine Kp.drew ?_))) ((Src.keep HXA.out.2.2.2 (by
                  repeat (first
                    | with_reducible first
                     | exact HR6.out.2
                     | exact Kp.refl _ _
                    | with_reducible refine Kp.drew ?_)) : Src _ ⟨grA, 0, none⟩ (s.made i)).drop (m + 1)) (by omega) (by
                  repeat (first
                    | with_reducible first
                     | exact HR6.out.2
                     | exact Kp.refl _ _
                    | with_reducible refine Kp.drew ?_)) ?_
                intro ao7 cap7 W7 hr7 hk7
                have y7 := kp_cell hk7 (by simp) yA
                have x7 := kp_cell hk7 (by simp) xA
                have z7 := kp_cell hk7 (by simp) zA
                have f7 := free_of_row (hk7.row (by simp) HXA.out.2.1) i
                have HR7 := Lib.hid (And.intro hr7 hk7)
                clear hr7 hk7
                refine hK.out _ _ ?_ (fun hHeld2 => ?_)
                · exact ⟨x7, z7, y7⟩
                clear hK K hHeld
                have hHeld := hHeld2
                clear hHeld2
                try simp only [Act.put, siA, scZ, scS]
                refine wpAnyH_take (i := 34)  (v := ?_) rfl (by kernel_rfl) (by kernel_rfl) (by kernel_rfl) (fun _ _ _ h => h) (Or.inl ⟨by rfl, ?hy⟩) (by assumption) ?_
                case hy => (intro w hSw; (try dsimp only at hSw); go_simp; try with_reducible rfl)
                try simp only [Act.put, siA, scZ, scS]
                refine wpAnyH_take (i := 35)  (v := ?_) rfl (by kernel_rfl) (by kernel_rfl) (by kernel_rfl) (fun _ _ _ h => h) (Or.inl ⟨by rfl, ?hy⟩) (by assumption) ?_
                case hy => (intro w hSw; (try dsimp only at hSw); go_simp; try with_reducible rfl)
                try simp only [Act.put, siA, scZ, scS]
                refine wpAnyH_done (by kernel_rfl) ?_ _
                clear hHeld x7 z7
                refine zq_normal ?_
                refine wpOp_step (o := _) rfl (fun K hK => ?_)
                go_simp
                refine hK _ _ ?_
                clear hK K
                try simp only [Act.put, siA, scZ, scS]
                go_wp2_with fail
                go_meet
                have hlc : (List.take m (s.made i) ++ List.drop (m + 1) (s.made i)).length = m + (L - (m + 1)) := by rw [List.length_append, HLsA.out.1, HLsA.out.2]
                obtain ⟨hrw, hge⟩ := rw_of_gx HR7.out.1 hlc
                first
                  | exact Lib.hid ⟨_, W7, HR7.out.2, hrw, hge, Kp.refl _ _⟩
                  | exact Lib.hid ⟨_, W7, HR7.out.2, hrw, hge, (Kp.refl [] _).drew⟩
            --}}
          case rest =>
            obtain ⟨W8, rfl⟩ : ∃ W8 : World, W8 = wc := ⟨_, rfl⟩
            obtain ⟨mv, W7, K7, hr7, hg7, kd7⟩ := hcut.out
            obtain ⟨v2, s2, col2, hs2, HP2⟩ : ∃ v2 s2 col2, s2 = ({ s1 with made := upd1 s1.made i (cutL (s.made i) m) } : As) ∧ Hid (Aw T n p r sp qs v2 s2 (t + 1) col2 W8 ∧ s2.size = s.size ∧ Lo B T p r sp qs v2 ∧ BK B colK col2 W4 W8) := by
              have hbk : ∀ g ∈ Li.blk mv, g ∈ Li.blk (v1.ms i) ∨ W5.heap.size ≤ g := fun g hg => .inr (hg7 g hg)
              have hA := (HP.out.1.made_up hi HXA.out.1 (K7.mono (by simp)) hr7 hbk).on kd7
              have hB5 : B ≤ W5.heap.size := Nat.le_trans hB (Nat.le_trans HB4.out.2.1.size HP.out.2.2.2.2.size)
              have kset : Kp [bbA] W7 (W7.setCell ⟨bbA, i, none⟩ mv) := (Kp.refl _ _).setCell (.inl (by simp)) _
              have hbl := (by rw [HXA.out.1, Gx.blk_some]; simp : bbA ∈ Gx.blk (v1.f 11))
              have hbb0 : col1 bbA = 0 := HP.out.1.c0 bbA (by simp [hbl])
              have z1 := K7.size
              have z2 := kset.size
              have b1 : BK B col1 col1 W5 W7 := BK.of0 K7 hB5
              have b2 : BK B col1 col1 W7 _ := BK.of kset (by omega) (by simpa using HP.out.2.2.2.1.m0 bbA hbl) (by
                intro x hx _
                rw [List.mem_singleton] at hx
                rw [hx, hbb0]; decide)
              refine ⟨_, _, _, rfl, Lib.hid ⟨hA, HP.out.2.2.1, HP.out.2.2.2.1.made fun g hg => by have := hg7 g hg; omega, (((HP.out.2.2.2.2.trans b1).trans b2).trans (BK.of0 kd7 (by omega))).recol fun g hg => if_pos (Nat.lt_of_lt_of_le hg HP.out.2.2.2.2.size)⟩⟩
            have HS2 := Lib.hid hs2
            have HMd := Lib.hid HP.out.2.1
            have HBx8 : Hid (W8.heap[kb]? = some (.cells #[.int .u8 d, .int .u8 ow, .int .u8 kk, .int .i64 rf, .int .i64 sz] 29 (0, 0))) := Lib.hid ((HP2.out.2.2.2.st kb (lt_of_block HB4.out.1) HB4.out.2.2).trans HB4.out.1)
            clear hcut K7 hr7 hg7 kd7 hs2 xA yA zA HXA HLsA HP HBx5 hccA hcmA
            obtain ⟨bbB, ccB, eeB, hccB, ⟨curB, hbbB⟩, hcellB⟩ := rowF_at HP2.out.1.sizes (by omega)
            have xB := (HP2.out.1.cell (i := 12) (by decide)).trans (show _ = some (.slice (some ⟨bbB, 0, none⟩) T ccB) from by rw [eeB])
            obtain ⟨grB, cmB, hmsB, hcmB, hsrcB⟩ : ∃ gr cm, v2.ss i = .slice (some ⟨gr, 0, none⟩) L cm ∧ L ≤ cm ∧ Src W8 ⟨gr, 0, none⟩ (s.size i) := by
              have hmr := HP2.out.1.sr i hi
              rw [HP2.out.2.1] at hmr
              rcases hmr with ⟨e1, e2⟩ | ⟨g', cap, cur', e1, q1, q2, q3⟩
              · exfalso
                have : (s.size i).length = 0 := by rw [e2]; rfl
                have := HLenB.out
                omega
              · refine ⟨g', cap, by rw [e1, HLenB.out], by rw [← HLenB.out]; exact q2, ?_⟩
                exact Src.of_row (cap := cap) (.inr ⟨g', cap, cur', rfl, q1, q2, q3⟩)
            have yB := (hcellB i hi).trans (congrArg some hmsB)
            have zB := (cell_of_row HBx8.out 2).trans (show _ = some (.int .u8 kk) from rfl)
            have HXB := Lib.hid (And.intro eeB (And.intro hbbB (And.intro hmsB hsrcB)))
            have hltB : ((s.size i).take m).length = m := by rw [List.length_take, HLenB.out]; omega
            have hldB : ((s.size i).drop (m + 1)).length = L - (m + 1) := by rw [List.length_drop, HLenB.out]
            have HLsB := Lib.hid (And.intro hltB hldB)
            have HNsB : Hid (sp ∉ [bbB] ∧ kb ∉ [bbB]) := Lib.hid (by
              have hst := HP2.out.1.st
              unfold S13 at hst
              have hbx := HBx8.out
              refine ⟨fun e => ?_, fun e => ?_⟩
              · rw [List.mem_singleton] at e
                rw [e, hbbB] at hst; simp at hst
              · rw [List.mem_singleton] at e
                rw [e, hbbB] at hbx; simp at hbx)
            clear eeB hbbB hcellB hmsB hsrcB hltB hldB
            go_upto_region 16 with (fail)
            go_cut [] (fun we => Hid (∃ mv W7, Kp [] W8 W7 ∧ Li.Rw W7 mv (cutL (s.size i) m) ∧ (∀ g ∈ Li.blk mv, W8.heap.size ≤ g) ∧ Kp [] (W7.setCell ⟨bbB, i, none⟩ mv) we))
            case first =>
              --{{Q
              as_aux_lemma =>
                have hmcB : m ≤ cmB := by omega
                by_cases hcap : cmB = m + 1
                · have hLm : L ≤ m + 1 := by omega
                  have hmm1 : (m : Int) ≤ (m : Int) + 1 := by omega
                  refine region_held_last (S := (fun wx => wx.cell? ⟨sp, 12, none⟩ = some (.slice (some ⟨bbB, 0, none⟩) T ccB) ∧ wx.cell? ⟨kb, 2, none⟩ = some (.int .u8 kk) ∧ wx.cell? ⟨bbB, i, none⟩ = some (.slice (some ⟨grB, 0, none⟩) L cmB))) 35 _ (by kernel_rfl) rfl rfl (by kernel_rfl) (by kernel_rfl) ⟨xB, zB, yB⟩ (fun hHeld => ?_)
                  simp only [idle, siA, scZ, scS]
                  refine wpAnyH_take (i := 0) (oi := ({ dst := some 125, op := Op.move (Operand.tmp 0), type := 24, pos := "law.go:145", after := #[], guard := none } : Oper)) (v := ?_) rfl (by kernel_rfl) (by kernel_rfl) (by kernel_rfl) (fun _ _ _ h => h) (Or.inl ⟨by rfl, ?hy⟩) (by assumption) ?_
                  case hy => (intro w hSw; (try dsimp only at hSw); go_simp; try with_reducible rfl)
                  try simp only [Act.put, siA, scZ, scS]
                  refine wpAnyH_take (i := 1) (oi := ({ dst := some 126, op := Op.nilCheck (Operand.tmp 125), type := 0, pos := "law.go:145", after := #[{ on := 0, ground := Ground.data }], guard := none } : Oper)) (v := ?_) rfl (by kernel_rfl) (by kernel_rfl) (by kernel_rfl) (fun _ _ _ h => h) (Or.inl ⟨by rfl, ?hy⟩) (by assumption) ?_
                  case hy => (intro w hSw; (try dsimp only at hSw); go_simp; try with_reducible rfl)
                  try simp only [Act.put, siA, scZ, scS]
                  refine wpAnyH_take (i := 2) (oi := ({ dst := some 127, op := Op.fieldAddr 51 (Operand.tmp 126) 7, type := 0, pos := "law.go:145", after := #[{ on := 1, ground := Ground.data }], guard := none } : Oper)) (v := ?_) rfl (by kernel_rfl) (by kernel_rfl) (by kernel_rfl) (fun _ _ _ h => h) (Or.inl ⟨by rfl, ?hy⟩) (by assumption) ?_
                  case hy => (intro w hSw; (try dsimp only at hSw); go_simp; try with_reducible rfl)
                  try simp only [Act.put, siA, scZ, scS]
                  refine wpAnyH_take (i := 3) (oi := ({ dst := some 128, op := Op.load 49 (Operand.tmp 127), type := 49, pos := "law.go:145", after := #[{ on := 2, ground := Ground.data }], guard := none } : Oper)) (v := ?_) rfl (by kernel_rfl) (by kernel_rfl) (by kernel_rfl) (fun _ _ _ h => h) (Or.inl ⟨by rfl, ?hy⟩) (by assumption) ?_
                  case hy => (intro w hSw; (try dsimp only at hSw); go_simp; try with_reducible rfl)
                  try simp only [Act.put, siA, scZ, scS]
                  refine wpAnyH_take (i := 4) (oi := ({ dst := some 129, op := Op.move (Operand.tmp 5), type := 3, pos := "law.go:145", after := #[], guard := none } : Oper)) (v := ?_) rfl (by kernel_rfl) (by kernel_rfl) (by kernel_rfl) (fun _ _ _ h => h) (Or.inl ⟨by rfl, ?hy⟩) (by assumption) ?_
                  case hy => (intro w hSw; (try dsimp only at hSw); go_simp; try with_reducible rfl)
                  try simp only [Act.put, siA, scZ, scS]
                  refine wpAnyH_take (i := 5) (oi := ({ dst := some 130, op := Op.move (Operand.tmp 0), type := 24, pos := "law.go:145", after := #[], guard := none } : Oper)) (v := ?_) rfl (by kernel_rfl) (by kernel_rfl) (by kernel_rfl) (fun _ _ _ h => h) (Or.inl ⟨by rfl, ?hy⟩) (by assumption) ?_
                  case hy => (intro w hSw; (try dsimp only at hSw); go_simp; try with_reducible rfl)
                  try simp only [Act.put, siA, scZ, scS]
                  refine wpAnyH_take (i := 6) (oi := ({ dst := some 131, op := Op.nilCheck (Operand.tmp 130), type := 0, pos := "law.go:145", after := #[{ on := 5, ground := Ground.data }], guard := none } : Oper)) (v := ?_) rfl (by kernel_rfl) (by kernel_rfl) (by kernel_rfl) (fun _ _ _ h => h) (Or.inl ⟨by rfl, ?hy⟩) (by assumption) ?_
                  case hy => (intro w hSw; (try dsimp only at hSw); go_simp; try with_reducible rfl)
                  try simp only [Act.put, siA, scZ, scS]
                  refine wpAnyH_take (i := 7) (oi := ({ dst := some 132, op := Op.fieldAddr 51 (Operand.tmp 131) 7, type := 0, pos := "law.go:145", after := #[{ on := 6, ground := Ground.data }], guard := none } : Oper)) (v := ?_) rfl (by kernel_rfl) (by kernel_rfl) (by kernel_rfl) (fun _ _ _ h => h) (Or.inl ⟨by rfl, ?hy⟩) (by assumption) ?_
                  case hy => (intro w hSw; (try dsimp only at hSw); go_simp; try with_reducible rfl)
                  try simp only [Act.put, siA, scZ, scS]
                  refine wpAnyH_take (i := 8) (oi := ({ dst := some 133, op := Op.load 49 (Operand.tmp 132), type := 49, pos := "law.go:145", after := #[{ on := 7, ground := Ground.data }], guard := none } : Oper)) (v := ?_) rfl (by kernel_rfl) (by kernel_rfl) (by kernel_rfl) (fun _ _ _ h => h) (Or.inl ⟨by rfl, ?hy⟩) (by assumption) ?_
                  case hy => (intro w hSw; (try dsimp only at hSw); go_simp; try with_reducible rfl)
                  try simp only [Act.put, siA, scZ, scS]
                  refine wpAnyH_take (i := 9) (oi := ({ dst := some 134, op := Op.move (Operand.tmp 5), type := 3, pos := "law.go:145", after := #[], guard := none } : Oper)) (v := ?_) rfl (by kernel_rfl) (by kernel_rfl) (by kernel_rfl) (fun _ _ _ h => h) (Or.inl ⟨by rfl, ?hy⟩) (by assumption) ?_
                  case hy => (intro w hSw; (try dsimp only at hSw); go_simp; try with_reducible rfl)
                  try simp only [Act.put, siA, scZ, scS]
                  refine wpAnyH_take (i := 10) (oi := ({ dst := some 135, op := Op.indexAddr 49 (Operand.tmp 133) (Operand.tmp 134), type := 0, pos := "law.go:145", after := #[{ on := 8, ground := Ground.data }, { on := 9, ground := Ground.data }], guard := none } : Oper)) (v := ?_) rfl (by kernel_rfl) (by kernel_rfl) (by kernel_rfl) (fun _ _ _ h => h) (Or.inl ⟨by rfl, ?hy⟩) (by assumption) ?_
                  case hy => (intro w hSw; (try dsimp only at hSw); go_simp; try with_reducible rfl)
                  try simp only [Act.put, siA, scZ, scS]
                  refine wpAnyH_take (i := 11) (oi := ({ dst := some 136, op := Op.load 52 (Operand.tmp 135), type := 52, pos := "law.go:145", after := #[{ on := 10, ground := Ground.data }], guard := none } : Oper)) (v := ?_) rfl (by kernel_rfl) (by kernel_rfl) (by kernel_rfl) (fun _ _ _ h => h) (Or.inl ⟨by rfl, ?hy⟩) (by assumption) ?_
                  case hy => (intro w hSw; (try dsimp only at hSw); go_simp; try with_reducible rfl)
                  try simp only [Act.put, siA, scZ, scS]
                  refine wpAnyH_take (i := 12) (oi := ({ dst := some 137, op := Op.fieldAddr 29 (Operand.tmp 3) 2, type := 0, pos := "law.go:145", after := #[], guard := none } : Oper)) (v := ?_) rfl (by kernel_rfl) (by kernel_rfl) (by kernel_rfl) (fun _ _ _ h => h) (Or.inl ⟨by rfl, ?hy⟩) (by assumption) ?_
                  case hy => (intro w hSw; (try dsimp only at hSw); go_simp; try with_reducible rfl)
                  try simp only [Act.put, siA, scZ, scS]
                  refine wpAnyH_take (i := 13) (oi := ({ dst := some 138, op := Op.load 5 (Operand.tmp 137), type := 5, pos := "law.go:145", after := #[{ on := 12, ground := Ground.data }], guard := none } : Oper)) (v := ?_) rfl (by kernel_rfl) (by kernel_rfl) (by kernel_rfl) (fun _ _ _ h => h) (Or.inl ⟨by rfl, ?hy⟩) (by assumption) ?_
                  case hy => (intro w hSw; (try dsimp only at hSw); go_simp; try with_reducible rfl)
                  try simp only [Act.put, siA, scZ, scS]
                  refine wpAnyH_take (i := 14) (oi := ({ dst := some 139, op := Op.convert 5 3 (Operand.tmp 138), type := 3, pos := "law.go:145", after := #[{ on := 13, ground := Ground.data }], guard := none } : Oper)) (v := ?_) rfl (by kernel_rfl) (by kernel_rfl) (by kernel_rfl) (fun _ _ _ h => h) (Or.inl ⟨by rfl, ?hy⟩) (by assumption) ?_
                  case hy => (intro w hSw; (try dsimp only at hSw); go_simp; try with_reducible rfl)
                  try simp only [Act.put, siA, scZ, scS]
                  refine wpAnyH_take (i := 15) (oi := ({ dst := some 140, op := Op.move (Operand.tmp 6), type := 3, pos := "law.go:145", after := #[], guard := none } : Oper)) (v := ?_) rfl (by kernel_rfl) (by kernel_rfl) (by kernel_rfl) (fun _ _ _ h => h) (Or.inl ⟨by rfl, ?hy⟩) (by assumption) ?_
                  case hy => (intro w hSw; (try dsimp only at hSw); go_simp; try with_reducible rfl)
                  try simp only [Act.put, siA, scZ, scS]
                  refine wpAnyH_take (i := 16) (oi := ({ dst := some 141, op := Op.binOp BinOp.rem 3 (Operand.tmp 139) (Operand.tmp 140) 3, type := 3, pos := "law.go:145", after := #[{ on := 14, ground := Ground.data }, { on := 15, ground := Ground.data }], guard := none } : Oper)) (v := ?_) rfl (by kernel_rfl) (by kernel_rfl) (by kernel_rfl) (fun _ _ _ h => h) (Or.inl ⟨by rfl, ?hy⟩) (by assumption) ?_
                  case hy => (intro w hSw; (try dsimp only at hSw); go_simp; try with_reducible rfl)
                  try simp only [Act.put, siA, scZ, scS]
                  refine wpAnyH_take (i := 17) (oi := ({ dst := some 142, op := Op.slice 52 (Operand.tmp 136) none (some (Operand.tmp 141)) none, type := 52, pos := "law.go:145", after := #[{ on := 11, ground := Ground.data }, { on := 16, ground := Ground.data }], guard := none } : Oper)) (v := ?_) rfl (by kernel_rfl) (by kernel_rfl) (by kernel_rfl) (fun _ _ _ h => h) (Or.inl ⟨by rfl, ?hy⟩) (by assumption) ?_
                  case hy => (intro w hSw; (try dsimp only at hSw); go_simp; try with_reducible rfl)
                  try simp only [Act.put, siA, scZ, scS]
                  refine wpAnyH_take (i := 19) (oi := ({ dst := some 144, op := Op.move (Operand.tmp 0), type := 24, pos := "law.go:145", after := #[], guard := none } : Oper)) (v := ?_) rfl (by kernel_rfl) (by kernel_rfl) (by kernel_rfl) (fun _ _ _ h => h) (Or.inl ⟨by rfl, ?hy⟩) (by assumption) ?_
                  case hy => (intro w hSw; (try dsimp only at hSw); go_simp; try with_reducible rfl)
                  try simp only [Act.put, siA, scZ, scS]
                  refine wpAnyH_take (i := 20) (oi := ({ dst := some 145, op := Op.nilCheck (Operand.tmp 144), type := 0, pos := "law.go:145", after := #[{ on := 19, ground := Ground.data }], guard := none } : Oper)) (v := ?_) rfl (by kernel_rfl) (by kernel_rfl) (by kernel_rfl) (fun _ _ _ h => h) (Or.inl ⟨by rfl, ?hy⟩) (by assumption) ?_
                  case hy => (intro w hSw; (try dsimp only at hSw); go_simp; try with_reducible rfl)
                  try simp only [Act.put, siA, scZ, scS]
                  refine wpAnyH_take (i := 21) (oi := ({ dst := some 146, op := Op.fieldAddr 51 (Operand.tmp 145) 7, type := 0, pos := "law.go:145", after := #[{ on := 20, ground := Ground.data }], guard := none } : Oper)) (v := ?_) rfl (by kernel_rfl) (by kernel_rfl) (by kernel_rfl) (fun _ _ _ h => h) (Or.inl ⟨by rfl, ?hy⟩) (by assumption) ?_
                  case hy => (intro w hSw; (try dsimp only at hSw); go_simp; try with_reducible rfl)
                  try simp only [Act.put, siA, scZ, scS]
                  refine wpAnyH_take (i := 22) (oi := ({ dst := some 147, op := Op.load 49 (Operand.tmp 146), type := 49, pos := "law.go:145", after := #[{ on := 21, ground := Ground.data }], guard := none } : Oper)) (v := ?_) rfl (by kernel_rfl) (by kernel_rfl) (by kernel_rfl) (fun _ _ _ h => h) (Or.inl ⟨by rfl, ?hy⟩) (by assumption) ?_
                  case hy => (intro w hSw; (try dsimp only at hSw); go_simp; try with_reducible rfl)
                  try simp only [Act.put, siA, scZ, scS]
                  refine wpAnyH_take (i := 23) (oi := ({ dst := some 148, op := Op.move (Operand.tmp 5), type := 3, pos := "law.go:145", after := #[], guard := none } : Oper)) (v := ?_) rfl (by kernel_rfl) (by kernel_rfl) (by kernel_rfl) (fun _ _ _ h => h) (Or.inl ⟨by rfl, ?hy⟩) (by assumption) ?_
                  case hy => (intro w hSw; (try dsimp only at hSw); go_simp; try with_reducible rfl)
                  try simp only [Act.put, siA, scZ, scS]
                  refine wpAnyH_take (i := 24) (oi := ({ dst := some 149, op := Op.indexAddr 49 (Operand.tmp 147) (Operand.tmp 148), type := 0, pos := "law.go:145", after := #[{ on := 22, ground := Ground.data }, { on := 23, ground := Ground.data }], guard := none } : Oper)) (v := ?_) rfl (by kernel_rfl) (by kernel_rfl) (by kernel_rfl) (fun _ _ _ h => h) (Or.inl ⟨by rfl, ?hy⟩) (by assumption) ?_
                  case hy => (intro w hSw; (try dsimp only at hSw); go_simp; try with_reducible rfl)
                  try simp only [Act.put, siA, scZ, scS]
                  refine wpAnyH_take (i := 25) (oi := ({ dst := some 150, op := Op.load 52 (Operand.tmp 149), type := 52, pos := "law.go:145", after := #[{ on := 24, ground := Ground.data }], guard := none } : Oper)) (v := ?_) rfl (by kernel_rfl) (by kernel_rfl) (by kernel_rfl) (fun _ _ _ h => h) (Or.inl ⟨by rfl, ?hy⟩) (by assumption) ?_
                  case hy => (intro w hSw; (try dsimp only at hSw); go_simp; try with_reducible rfl)
                  try simp only [Act.put, siA, scZ, scS]
                  refine wpAnyH_take (i := 26) (oi := ({ dst := some 151, op := Op.fieldAddr 29 (Operand.tmp 3) 2, type := 0, pos := "law.go:145", after := #[], guard := none } : Oper)) (v := ?_) rfl (by kernel_rfl) (by kernel_rfl) (by kernel_rfl) (fun _ _ _ h => h) (Or.inl ⟨by rfl, ?hy⟩) (by assumption) ?_
                  case hy => (intro w hSw; (try dsimp only at hSw); go_simp; try with_reducible rfl)
                  try simp only [Act.put, siA, scZ, scS]
                  refine wpAnyH_take (i := 27) (oi := ({ dst := some 152, op := Op.load 5 (Operand.tmp 151), type := 5, pos := "law.go:145", after := #[{ on := 26, ground := Ground.data }], guard := none } : Oper)) (v := ?_) rfl (by kernel_rfl) (by kernel_rfl) (by kernel_rfl) (fun _ _ _ h => h) (Or.inl ⟨by rfl, ?hy⟩) (by assumption) ?_
                  case hy => (intro w hSw; (try dsimp only at hSw); go_simp; try with_reducible rfl)
                  try simp only [Act.put, siA, scZ, scS]
                  refine wpAnyH_take (i := 28) (oi := ({ dst := some 153, op := Op.convert 5 3 (Operand.tmp 152), type := 3, pos := "law.go:145", after := #[{ on := 27, ground := Ground.data }], guard := none } : Oper)) (v := ?_) rfl (by kernel_rfl) (by kernel_rfl) (by kernel_rfl) (fun _ _ _ h => h) (Or.inl ⟨by rfl, ?hy⟩) (by assumption) ?_
                  case hy => (intro w hSw; (try dsimp only at hSw); go_simp; try with_reducible rfl)
                  try simp only [Act.put, siA, scZ, scS]
                  refine wpAnyH_take (i := 29) (oi := ({ dst := some 154, op := Op.move (Operand.tmp 6), type := 3, pos := "law.go:145", after := #[], guard := none } : Oper)) (v := ?_) rfl (by kernel_rfl) (by kernel_rfl) (by kernel_rfl) (fun _ _ _ h => h) (Or.inl ⟨by rfl, ?hy⟩) (by assumption) ?_
                  case hy => (intro w hSw; (try dsimp only at hSw); go_simp; try with_reducible rfl)
                  try simp only [Act.put, siA, scZ, scS]
                  refine wpAnyH_take (i := 30) (oi := ({ dst := some 155, op := Op.binOp BinOp.rem 3 (Operand.tmp 153) (Operand.tmp 154) 3, type := 3, pos := "law.go:145", after := #[{ on := 28, ground := Ground.data }, { on := 29, ground := Ground.data }], guard := none } : Oper)) (v := ?_) rfl (by kernel_rfl) (by kernel_rfl) (by kernel_rfl) (fun _ _ _ h => h) (Or.inl ⟨by rfl, ?hy⟩) (by assumption) ?_
                  case hy => (intro w hSw; (try dsimp only at hSw); go_simp; try with_reducible rfl)
                  try simp only [Act.put, siA, scZ, scS]
                  refine wpAnyH_take (i := 31) (oi := ({ dst := some 156, op := Op.binOp BinOp.add 3 (Operand.tmp 155) (Operand.const (Value.int IntKind.i64 1)) 3, type := 3, pos := "law.go:145", after := #[{ on := 30, ground := Ground.data }], guard := none } : Oper)) (v := ?_) rfl (by kernel_rfl) (by kernel_rfl) (by kernel_rfl) (fun _ _ _ h => h) (Or.inl ⟨by rfl, ?hy⟩) (by assumption) ?_
                  case hy => (intro w hSw; (try dsimp only at hSw); go_simp; try with_reducible rfl)
                  try simp only [Act.put, siA, scZ, scS]
                  refine wpAnyH_take (i := 32) (oi := ({ dst := some 157, op := Op.slice 52 (Operand.tmp 150) (some (Operand.tmp 156)) none none, type := 52, pos := "law.go:145", after := #[{ on := 25, ground := Ground.data }, { on := 31, ground := Ground.data }], guard := none } : Oper)) (v := ?_) rfl (by kernel_rfl) (by kernel_rfl) (by kernel_rfl) (fun _ _ _ h => h) (Or.inl ⟨by rfl, ?hy⟩) (by assumption) ?_
                  case hy => (intro w hSw; (try dsimp only at hSw); go_simp; try with_reducible rfl)
                  try simp only [Act.put, siA, scZ, scS]
                  refine wpAnyH_ready (rs := [18]) (by kernel_rfl) (by simp) ?_
                  refine AllReadyH.cons (o := ({ dst := some 143, op := Op.call { callee := Callee.builtin Builtin.append, args := #[Operand.const (Value.slice none 0 0), Operand.tmp 142], argTypes := #[52, 52] }, type := 52, pos := "law.go:145", after := #[{ on := 17, ground := Ground.data }], guard := none } : Oper)) rfl (fun K hK => ?_) AllReadyH.nil
                  refine step_app0 rfl (.const (.slice none 0 0)) (.tmp 142) rfl (w0 := W8) HLsB.out.1 rfl rfl ((Src.keep HXB.out.2.2.2 (by
                    repeat (first
                      | with_reducible exact Kp.refl _ _
                      | with_reducible refine Kp.drew ?_)) : Src _ ⟨grB, 0, none⟩ (s.size i)).take m) (by omega) (by
                    repeat (first
                      | with_reducible exact Kp.refl _ _
                      | with_reducible refine Kp.drew ?_)) ?_
                  intro ao5 cap5 W6 hr6 hk6
                  have K6 : Kp [] W8 W6 := Kp.trans (by
                    repeat (first
                      | with_reducible exact Kp.refl _ _
                      | with_reducible refine Kp.drew ?_)) hk6
                  have HR6 := Lib.hid (And.intro hr6 K6)
                  have y6 := kp_cell K6 (by simp) yB
                  have x6 := kp_cell K6 (by simp) xB
                  have z6 := kp_cell K6 (by simp) zB
                  clear hr6 hk6 K6
                  refine hK.out _ _ ?_ (fun hHeld2 => ?_)
                  · exact ⟨x6, z6, y6⟩
                  clear hK K hHeld
                  have hHeld := hHeld2
                  clear hHeld2
                  try simp only [Act.put, siA, scZ, scS]
                  clear x6 z6 y6
                  refine wpAnyH_ready (rs := [33]) (by kernel_rfl) (by simp) ?_
                  refine AllReadyH.cons (o := ({ dst := some 158, op := Op.call { callee := Callee.builtin Builtin.append, args := #[Operand.tmp 143, Operand.tmp 157], argTypes := #[52, 52] }, type := 52, pos := "law.go:145", after := #[{ on := 18, ground := Ground.data }, { on := 32, ground := Ground.data }, { on := 18, ground := Ground.chain }], guard := none } : Oper)) rfl (fun K hK => ?_) AllReadyH.nil
                  refine step_app1 rfl (.tmp 143) (.tmp 157) rfl (w0 := W8) (ys := []) (m := 0) rfl rfl rfl (HR6.out.1.keep0 (by
                    repeat (first
                      | with_reducible exact Kp.refl _ _
                      | with_reducible refine Kp.drew ?_))) (Src.of_len0 rfl) (by omega) (by
                    repeat (first
                      | with_reducible first
                       | exact HR6.out.2
                       | exact Kp.refl _ _
                      | with_reducible refine Kp.drew ?_)) ?_
                  intro ao7 cap7 W7 hr7 hk7
                  have y7 := kp_cell hk7 (by simp) yB
                  have x7 := kp_cell hk7 (by simp) xB
                  have z7 := kp_cell hk7 (by simp) zB
                  have f7 := free_of_row (hk7.row (by simp) HXB.out.2.1) i
                  have HR7 := Lib.hid (And.intro hr7 hk7)
                  clear hr7 hk7
                  refine hK.out _ _ ?_ (fun hHeld2 => ?_)
                  · exact ⟨x7, z7, y7⟩
                  clear hK K hHeld
                  have hHeld := hHeld2
                  clear hHeld2
                  try simp only [Act.put, siA, scZ, scS]
                  refine wpAnyH_take (i := 34)  (v := ?_) rfl (by kernel_rfl) (by kernel_rfl) (by kernel_rfl) (fun _ _ _ h => h) (Or.inl ⟨by rfl, ?hy⟩) (by assumption) ?_
                  case hy => (intro w hSw; (try dsimp only at hSw); go_simp; try with_reducible rfl)
                  try simp only [Act.put, siA, scZ, scS]
                  refine wpAnyH_take (i := 35)  (v := ?_) rfl (by kernel_rfl) (by kernel_rfl) (by kernel_rfl) (fun _ _ _ h => h) (Or.inl ⟨by rfl, ?hy⟩) (by assumption) ?_
                  case hy => (intro w hSw; (try dsimp only at hSw); go_simp; try with_reducible rfl)
                  try simp only [Act.put, siA, scZ, scS]
                  refine wpAnyH_done (by kernel_rfl) ?_ _
                  clear hHeld x7 z7
                  refine zq_normal ?_
                  refine wpOp_step (o := _) rfl (fun K hK => ?_)
                  go_simp
                  refine hK _ _ ?_
                  clear hK K
                  try simp only [Act.put, siA, scZ, scS]
                  go_wp2_with fail
                  go_meet
                  have hdr : List.drop (m + 1) (s.size i) = [] := List.eq_nil_of_length_eq_zero (by rw [HLsB.out.2]; omega)
                  have hlc : (List.take m (s.size i) ++ ([] : List Int)).length = m + 0 := by rw [List.length_append, HLsB.out.1]; rfl
                  obtain ⟨hrw, hge⟩ := rw_of_gx HR7.out.1 hlc
                  have hrw2 : Li.Rw W7 (.slice ao7 (m + 0) cap7) (cutL (s.size i) m) := by unfold cutL; rw [hdr]; exact hrw
                  first
                    | exact Lib.hid ⟨_, W7, HR7.out.2, hrw2, hge, Kp.refl _ _⟩
                    | exact Lib.hid ⟨_, W7, HR7.out.2, hrw2, hge, (Kp.refl [] _).drew⟩
                · have hcap1 : m + 1 ≤ cmB := by omega
                  refine region_held_last (S := (fun wx => wx.cell? ⟨sp, 12, none⟩ = some (.slice (some ⟨bbB, 0, none⟩) T ccB) ∧ wx.cell? ⟨kb, 2, none⟩ = some (.int .u8 kk) ∧ wx.cell? ⟨bbB, i, none⟩ = some (.slice (some ⟨grB, 0, none⟩) L cmB))) 35 _ (by kernel_rfl) rfl rfl (by kernel_rfl) (by kernel_rfl) ⟨xB, zB, yB⟩ (fun hHeld => ?_)
                  simp only [idle, siA, scZ, scS]
                  refine wpAnyH_take (i := 0) (oi := ({ dst := some 125, op := Op.move (Operand.tmp 0), type := 24, pos := "law.go:145", after := #[], guard := none } : Oper)) (v := ?_) rfl (by kernel_rfl) (by kernel_rfl) (by kernel_rfl) (fun _ _ _ h => h) (Or.inl ⟨by rfl, ?hy⟩) (by assumption) ?_
                  case hy => (intro w hSw; (try dsimp only at hSw); go_simp; try with_reducible rfl)
                  try simp only [Act.put, siA, scZ, scS]
                  refine wpAnyH_take (i := 1) (oi := ({ dst := some 126, op := Op.nilCheck (Operand.tmp 125), type := 0, pos := "law.go:145", after := #[{ on := 0, ground := Ground.data }], guard := none } : Oper)) (v := ?_) rfl (by kernel_rfl) (by kernel_rfl) (by kernel_rfl) (fun _ _ _ h => h) (Or.inl ⟨by rfl, ?hy⟩) (by assumption) ?_
                  case hy => (intro w hSw; (try dsimp only at hSw); go_simp; try with_reducible rfl)
                  try simp only [Act.put, siA, scZ, scS]
                  refine wpAnyH_take (i := 2) (oi := ({ dst := some 127, op := Op.fieldAddr 51 (Operand.tmp 126) 7, type := 0, pos := "law.go:145", after := #[{ on := 1, ground := Ground.data }], guard := none } : Oper)) (v := ?_) rfl (by kernel_rfl) (by kernel_rfl) (by kernel_rfl) (fun _ _ _ h => h) (Or.inl ⟨by rfl, ?hy⟩) (by assumption) ?_
                  case hy => (intro w hSw; (try dsimp only at hSw); go_simp; try with_reducible rfl)
                  try simp only [Act.put, siA, scZ, scS]
                  refine wpAnyH_take (i := 3) (oi := ({ dst := some 128, op := Op.load 49 (Operand.tmp 127), type := 49, pos := "law.go:145", after := #[{ on := 2, ground := Ground.data }], guard := none } : Oper)) (v := ?_) rfl (by kernel_rfl) (by kernel_rfl) (by kernel_rfl) (fun _ _ _ h => h) (Or.inl ⟨by rfl, ?hy⟩) (by assumption) ?_
                  case hy => (intro w hSw; (try dsimp only at hSw); go_simp; try with_reducible rfl)
                  try simp only [Act.put, siA, scZ, scS]
                  refine wpAnyH_take (i := 4) (oi := ({ dst := some 129, op := Op.move (Operand.tmp 5), type := 3, pos := "law.go:145", after := #[], guard := none } : Oper)) (v := ?_) rfl (by kernel_rfl) (by kernel_rfl) (by kernel_rfl) (fun _ _ _ h => h) (Or.inl ⟨by rfl, ?hy⟩) (by assumption) ?_
                  case hy => (intro w hSw; (try dsimp only at hSw); go_simp; try with_reducible rfl)
                  try simp only [Act.put, siA, scZ, scS]
                  refine wpAnyH_take (i := 5) (oi := ({ dst := some 130, op := Op.move (Operand.tmp 0), type := 24, pos := "law.go:145", after := #[], guard := none } : Oper)) (v := ?_) rfl (by kernel_rfl) (by kernel_rfl) (by kernel_rfl) (fun _ _ _ h => h) (Or.inl ⟨by rfl, ?hy⟩) (by assumption) ?_
                  case hy => (intro w hSw; (try dsimp only at hSw); go_simp; try with_reducible rfl)
                  try simp only [Act.put, siA, scZ, scS]
                  refine wpAnyH_take (i := 6) (oi := ({ dst := some 131, op := Op.nilCheck (Operand.tmp 130), type := 0, pos := "law.go:145", after := #[{ on := 5, ground := Ground.data }], guard := none } : Oper)) (v := ?_) rfl (by kernel_rfl) (by kernel_rfl) (by kernel_rfl) (fun _ _ _ h => h) (Or.inl ⟨by rfl, ?hy⟩) (by assumption) ?_
                  case hy => (intro w hSw; (try dsimp only at hSw); go_simp; try with_reducible rfl)
                  try simp only [Act.put, siA, scZ, scS]
                  refine wpAnyH_take (i := 7) (oi := ({ dst := some 132, op := Op.fieldAddr 51 (Operand.tmp 131) 7, type := 0, pos := "law.go:145", after := #[{ on := 6, ground := Ground.data }], guard := none } : Oper)) (v := ?_) rfl (by kernel_rfl) (by kernel_rfl) (by kernel_rfl) (fun _ _ _ h => h) (Or.inl ⟨by rfl, ?hy⟩) (by assumption) ?_
                  case hy => (intro w hSw; (try dsimp only at hSw); go_simp; try with_reducible rfl)
                  try simp only [Act.put, siA, scZ, scS]
                  refine wpAnyH_take (i := 8) (oi := ({ dst := some 133, op := Op.load 49 (Operand.tmp 132), type := 49, pos := "law.go:145", after := #[{ on := 7, ground := Ground.data }], guard := none } : Oper)) (v := ?_) rfl (by kernel_rfl) (by kernel_rfl) (by kernel_rfl) (fun _ _ _ h => h) (Or.inl ⟨by rfl, ?hy⟩) (by assumption) ?_
                  case hy => (intro w hSw; (try dsimp only at hSw); go_simp; try with_reducible rfl)
                  try simp only [Act.put, siA, scZ, scS]
                  refine wpAnyH_take (i := 9) (oi := ({ dst := some 134, op := Op.move (Operand.tmp 5), type := 3, pos := "law.go:145", after := #[], guard := none } : Oper)) (v := ?_) rfl (by kernel_rfl) (by kernel_rfl) (by kernel_rfl) (fun _ _ _ h => h) (Or.inl ⟨by rfl, ?hy⟩) (by assumption) ?_
                  case hy => (intro w hSw; (try dsimp only at hSw); go_simp; try with_reducible rfl)
                  try simp only [Act.put, siA, scZ, scS]
                  refine wpAnyH_take (i := 10) (oi := ({ dst := some 135, op := Op.indexAddr 49 (Operand.tmp 133) (Operand.tmp 134), type := 0, pos := "law.go:145", after := #[{ on := 8, ground := Ground.data }, { on := 9, ground := Ground.data }], guard := none } : Oper)) (v := ?_) rfl (by kernel_rfl) (by kernel_rfl) (by kernel_rfl) (fun _ _ _ h => h) (Or.inl ⟨by rfl, ?hy⟩) (by assumption) ?_
                  case hy => (intro w hSw; (try dsimp only at hSw); go_simp; try with_reducible rfl)
                  try simp only [Act.put, siA, scZ, scS]
                  refine wpAnyH_take (i := 11) (oi := ({ dst := some 136, op := Op.load 52 (Operand.tmp 135), type := 52, pos := "law.go:145", after := #[{ on := 10, ground := Ground.data }], guard := none } : Oper)) (v := ?_) rfl (by kernel_rfl) (by kernel_rfl) (by kernel_rfl) (fun _ _ _ h => h) (Or.inl ⟨by rfl, ?hy⟩) (by assumption) ?_
                  case hy => (intro w hSw; (try dsimp only at hSw); go_simp; try with_reducible rfl)
                  try simp only [Act.put, siA, scZ, scS]
                  refine wpAnyH_take (i := 12) (oi := ({ dst := some 137, op := Op.fieldAddr 29 (Operand.tmp 3) 2, type := 0, pos := "law.go:145", after := #[], guard := none } : Oper)) (v := ?_) rfl (by kernel_rfl) (by kernel_rfl) (by kernel_rfl) (fun _ _ _ h => h) (Or.inl ⟨by rfl, ?hy⟩) (by assumption) ?_
                  case hy => (intro w hSw; (try dsimp only at hSw); go_simp; try with_reducible rfl)
                  try simp only [Act.put, siA, scZ, scS]
                  refine wpAnyH_take (i := 13) (oi := ({ dst := some 138, op := Op.load 5 (Operand.tmp 137), type := 5, pos := "law.go:145", after := #[{ on := 12, ground := Ground.data }], guard := none } : Oper)) (v := ?_) rfl (by kernel_rfl) (by kernel_rfl) (by kernel_rfl) (fun _ _ _ h => h) (Or.inl ⟨by rfl, ?hy⟩) (by assumption) ?_
                  case hy => (intro w hSw; (try dsimp only at hSw); go_simp; try with_reducible rfl)
                  try simp only [Act.put, siA, scZ, scS]
                  refine wpAnyH_take (i := 14) (oi := ({ dst := some 139, op := Op.convert 5 3 (Operand.tmp 138), type := 3, pos := "law.go:145", after := #[{ on := 13, ground := Ground.data }], guard := none } : Oper)) (v := ?_) rfl (by kernel_rfl) (by kernel_rfl) (by kernel_rfl) (fun _ _ _ h => h) (Or.inl ⟨by rfl, ?hy⟩) (by assumption) ?_
                  case hy => (intro w hSw; (try dsimp only at hSw); go_simp; try with_reducible rfl)
                  try simp only [Act.put, siA, scZ, scS]
                  refine wpAnyH_take (i := 15) (oi := ({ dst := some 140, op := Op.move (Operand.tmp 6), type := 3, pos := "law.go:145", after := #[], guard := none } : Oper)) (v := ?_) rfl (by kernel_rfl) (by kernel_rfl) (by kernel_rfl) (fun _ _ _ h => h) (Or.inl ⟨by rfl, ?hy⟩) (by assumption) ?_
                  case hy => (intro w hSw; (try dsimp only at hSw); go_simp; try with_reducible rfl)
                  try simp only [Act.put, siA, scZ, scS]
                  refine wpAnyH_take (i := 16) (oi := ({ dst := some 141, op := Op.binOp BinOp.rem 3 (Operand.tmp 139) (Operand.tmp 140) 3, type := 3, pos := "law.go:145", after := #[{ on := 14, ground := Ground.data }, { on := 15, ground := Ground.data }], guard := none } : Oper)) (v := ?_) rfl (by kernel_rfl) (by kernel_rfl) (by kernel_rfl) (fun _ _ _ h => h) (Or.inl ⟨by rfl, ?hy⟩) (by assumption) ?_
                  case hy => (intro w hSw; (try dsimp only at hSw); go_simp; try with_reducible rfl)
                  try simp only [Act.put, siA, scZ, scS]
                  refine wpAnyH_take (i := 17) (oi := ({ dst := some 142, op := Op.slice 52 (Operand.tmp 136) none (some (Operand.tmp 141)) none, type := 52, pos := "law.go:145", after := #[{ on := 11, ground := Ground.data }, { on := 16, ground := Ground.data }], guard := none } : Oper)) (v := ?_) rfl (by kernel_rfl) (by kernel_rfl) (by kernel_rfl) (fun _ _ _ h => h) (Or.inl ⟨by rfl, ?hy⟩) (by assumption) ?_
                  case hy => (intro w hSw; (try dsimp only at hSw); go_simp; try with_reducible rfl)
                  try simp only [Act.put, siA, scZ, scS]
                  refine wpAnyH_take (i := 19) (oi := ({ dst := some 144, op := Op.move (Operand.tmp 0), type := 24, pos := "law.go:145", after := #[], guard := none } : Oper)) (v := ?_) rfl (by kernel_rfl) (by kernel_rfl) (by kernel_rfl) (fun _ _ _ h => h) (Or.inl ⟨by rfl, ?hy⟩) (by assumption) ?_
                  case hy => (intro w hSw; (try dsimp only at hSw); go_simp; try with_reducible rfl)
                  try simp only [Act.put, siA, scZ, scS]
                  refine wpAnyH_take (i := 20) (oi := ({ dst := some 145, op := Op.nilCheck (Operand.tmp 144), type := 0, pos := "law.go:145", after := #[{ on := 19, ground := Ground.data }], guard := none } : Oper)) (v := ?_) rfl (by kernel_rfl) (by kernel_rfl) (by kernel_rfl) (fun _ _ _ h => h) (Or.inl ⟨by rfl, ?hy⟩) (by assumption) ?_
                  case hy => (intro w hSw; (try dsimp only at hSw); go_simp; try with_reducible rfl)
                  try simp only [Act.put, siA, scZ, scS]
                  refine wpAnyH_take (i := 21) (oi := ({ dst := some 146, op := Op.fieldAddr 51 (Operand.tmp 145) 7, type := 0, pos := "law.go:145", after := #[{ on := 20, ground := Ground.data }], guard := none } : Oper)) (v := ?_) rfl (by kernel_rfl) (by kernel_rfl) (by kernel_rfl) (fun _ _ _ h => h) (Or.inl ⟨by rfl, ?hy⟩) (by assumption) ?_
                  case hy => (intro w hSw; (try dsimp only at hSw); go_simp; try with_reducible rfl)
                  try simp only [Act.put, siA, scZ, scS]
                  refine wpAnyH_take (i := 22) (oi := ({ dst := some 147, op := Op.load 49 (Operand.tmp 146), type := 49, pos := "law.go:145", after := #[{ on := 21, ground := Ground.data }], guard := none } : Oper)) (v := ?_) rfl (by kernel_rfl) (by kernel_rfl) (by kernel_rfl) (fun _ _ _ h => h) (Or.inl ⟨by rfl, ?hy⟩) (by assumption) ?_
                  case hy => (intro w hSw; (try dsimp only at hSw); go_simp; try with_reducible rfl)
                  try simp only [Act.put, siA, scZ, scS]
                  refine wpAnyH_take (i := 23) (oi := ({ dst := some 148, op := Op.move (Operand.tmp 5), type := 3, pos := "law.go:145", after := #[], guard := none } : Oper)) (v := ?_) rfl (by kernel_rfl) (by kernel_rfl) (by kernel_rfl) (fun _ _ _ h => h) (Or.inl ⟨by rfl, ?hy⟩) (by assumption) ?_
                  case hy => (intro w hSw; (try dsimp only at hSw); go_simp; try with_reducible rfl)
                  try simp only [Act.put, siA, scZ, scS]
                  refine wpAnyH_take (i := 24) (oi := ({ dst := some 149, op := Op.indexAddr 49 (Operand.tmp 147) (Operand.tmp 148), type := 0, pos := "law.go:145", after := #[{ on := 22, ground := Ground.data }, { on := 23, ground := Ground.data }], guard := none } : Oper)) (v := ?_) rfl (by kernel_rfl) (by kernel_rfl) (by kernel_rfl) (fun _ _ _ h => h) (Or.inl ⟨by rfl, ?hy⟩) (by assumption) ?_
                  case hy => (intro w hSw; (try dsimp only at hSw); go_simp; try with_reducible rfl)
                  try simp only [Act.put, siA, scZ, scS]
                  refine wpAnyH_take (i := 25) (oi := ({ dst := some 150, op := Op.load 52 (Operand.tmp 149), type := 52, pos := "law.go:145", after := #[{ on := 24, ground := Ground.data }], guard := none } : Oper)) (v := ?_) rfl (by kernel_rfl) (by kernel_rfl) (by kernel_rfl) (fun _ _ _ h => h) (Or.inl ⟨by rfl, ?hy⟩) (by assumption) ?_
                  case hy => (intro w hSw; (try dsimp only at hSw); go_simp; try with_reducible rfl)
                  try simp only [Act.put, siA, scZ, scS]
                  refine wpAnyH_take (i := 26) (oi := ({ dst := some 151, op := Op.fieldAddr 29 (Operand.tmp 3) 2, type := 0, pos := "law.go:145", after := #[], guard := none } : Oper)) (v := ?_) rfl (by kernel_rfl) (by kernel_rfl) (by kernel_rfl) (fun _ _ _ h => h) (Or.inl ⟨by rfl, ?hy⟩) (by assumption) ?_
                  case hy => (intro w hSw; (try dsimp only at hSw); go_simp; try with_reducible rfl)
                  try simp only [Act.put, siA, scZ, scS]
                  refine wpAnyH_take (i := 27) (oi := ({ dst := some 152, op := Op.load 5 (Operand.tmp 151), type := 5, pos := "law.go:145", after := #[{ on := 26, ground := Ground.data }], guard := none } : Oper)) (v := ?_) rfl (by kernel_rfl) (by kernel_rfl) (by kernel_rfl) (fun _ _ _ h => h) (Or.inl ⟨by rfl, ?hy⟩) (by assumption) ?_
                  case hy => (intro w hSw; (try dsimp only at hSw); go_simp; try with_reducible rfl)
                  try simp only [Act.put, siA, scZ, scS]
                  refine wpAnyH_take (i := 28) (oi := ({ dst := some 153, op := Op.convert 5 3 (Operand.tmp 152), type := 3, pos := "law.go:145", after := #[{ on := 27, ground := Ground.data }], guard := none } : Oper)) (v := ?_) rfl (by kernel_rfl) (by kernel_rfl) (by kernel_rfl) (fun _ _ _ h => h) (Or.inl ⟨by rfl, ?hy⟩) (by assumption) ?_
                  case hy => (intro w hSw; (try dsimp only at hSw); go_simp; try with_reducible rfl)
                  try simp only [Act.put, siA, scZ, scS]
                  refine wpAnyH_take (i := 29) (oi := ({ dst := some 154, op := Op.move (Operand.tmp 6), type := 3, pos := "law.go:145", after := #[], guard := none } : Oper)) (v := ?_) rfl (by kernel_rfl) (by kernel_rfl) (by kernel_rfl) (fun _ _ _ h => h) (Or.inl ⟨by rfl, ?hy⟩) (by assumption) ?_
                  case hy => (intro w hSw; (try dsimp only at hSw); go_simp; try with_reducible rfl)
                  try simp only [Act.put, siA, scZ, scS]
                  refine wpAnyH_take (i := 30) (oi := ({ dst := some 155, op := Op.binOp BinOp.rem 3 (Operand.tmp 153) (Operand.tmp 154) 3, type := 3, pos := "law.go:145", after := #[{ on := 28, ground := Ground.data }, { on := 29, ground := Ground.data }], guard := none } : Oper)) (v := ?_) rfl (by kernel_rfl) (by kernel_rfl) (by kernel_rfl) (fun _ _ _ h => h) (Or.inl ⟨by rfl, ?hy⟩) (by assumption) ?_
                  case hy => (intro w hSw; (try dsimp only at hSw); go_simp; try with_reducible rfl)
                  try simp only [Act.put, siA, scZ, scS]
                  refine wpAnyH_take (i := 31) (oi := ({ dst := some 156, op := Op.binOp BinOp.add 3 (Operand.tmp 155) (Operand.const (Value.int IntKind.i64 1)) 3, type := 3, pos := "law.go:145", after := #[{ on := 30, ground := Ground.data }], guard := none } : Oper)) (v := ?_) rfl (by kernel_rfl) (by kernel_rfl) (by kernel_rfl) (fun _ _ _ h => h) (Or.inl ⟨by rfl, ?hy⟩) (by assumption) ?_
                  case hy => (intro w hSw; (try dsimp only at hSw); go_simp; try with_reducible rfl)
                  try simp only [Act.put, siA, scZ, scS]
                  refine wpAnyH_take (i := 32) (oi := ({ dst := some 157, op := Op.slice 52 (Operand.tmp 150) (some (Operand.tmp 156)) none none, type := 52, pos := "law.go:145", after := #[{ on := 25, ground := Ground.data }, { on := 31, ground := Ground.data }], guard := none } : Oper)) (v := ?_) rfl (by kernel_rfl) (by kernel_rfl) (by kernel_rfl) (fun _ _ _ h => h) (Or.inl ⟨by rfl, ?hy⟩) (by assumption) ?_
                  case hy => (intro w hSw; (try dsimp only at hSw); go_simp; try with_reducible rfl)
                  try simp only [Act.put, siA, scZ, scS]
                  refine wpAnyH_ready (rs := [18]) (by kernel_rfl) (by simp) ?_
                  refine AllReadyH.cons (o := ({ dst := some 143, op := Op.call { callee := Callee.builtin Builtin.append, args := #[Operand.const (Value.slice none 0 0), Operand.tmp 142], argTypes := #[52, 52] }, type := 52, pos := "law.go:145", after := #[{ on := 17, ground := Ground.data }], guard := none } : Oper)) rfl (fun K hK => ?_) AllReadyH.nil
                  refine step_app0 rfl (.const (.slice none 0 0)) (.tmp 142) rfl (w0 := W8) HLsB.out.1 rfl rfl ((Src.keep HXB.out.2.2.2 (by
                    repeat (first
                      | with_reducible exact Kp.refl _ _
                      | with_reducible refine Kp.drew ?_)) : Src _ ⟨grB, 0, none⟩ (s.size i)).take m) (by omega) (by
                    repeat (first
                      | with_reducible exact Kp.refl _ _
                      | with_reducible refine Kp.drew ?_)) ?_
                  intro ao5 cap5 W6 hr6 hk6
                  have K6 : Kp [] W8 W6 := Kp.trans (by
                    repeat (first
                      | with_reducible exact Kp.refl _ _
                      | with_reducible refine Kp.drew ?_)) hk6
                  have HR6 := Lib.hid (And.intro hr6 K6)
                  have y6 := kp_cell K6 (by simp) yB
                  have x6 := kp_cell K6 (by simp) xB
                  have z6 := kp_cell K6 (by simp) zB
                  clear hr6 hk6 K6
                  refine hK.out _ _ ?_ (fun hHeld2 => ?_)
                  · exact ⟨x6, z6, y6⟩
                  clear hK K hHeld
                  have hHeld := hHeld2
                  clear hHeld2
                  try simp only [Act.put, siA, scZ, scS]
                  clear x6 z6 y6
                  refine wpAnyH_ready (rs := [33]) (by kernel_rfl) (by simp) ?_
                  refine AllReadyH.cons (o := ({ dst := some 158, op := Op.call { callee := Callee.builtin Builtin.append, args := #[Operand.tmp 143, Operand.tmp 157], argTypes := #[52, 52] }, type := 52, pos := "law.go:145", after := #[{ on := 18, ground := Ground.data }, { on := 32, ground := Ground.data }, { on := 18, ground := Ground.chain }], guard := none } : Oper)) rfl (fun K hK => ?_) AllReadyH.nil
                  refine step_app1 rfl (.tmp 143) (.tmp 157) rfl (w0 := W8) HLsB.out.2 rfl rfl (HR6.out.1.keep0 (by
                    repeat (first
                      | with_reducible exact Kp.refl _ _
                      | with_reducible refine Kp.drew ?_))) ((Src.keep HXB.out.2.2.2 (by
                    repeat (first
                      | with_reducible first
                       | exact HR6.out.2
                       | exact Kp.refl _ _
                      | with_reducible refine Kp.drew ?_)) : Src _ ⟨grB, 0, none⟩ (s.size i)).drop (m + 1)) (by omega) (by
                    repeat (first
                      | with_reducible first
                       | exact HR6.out.2
                       | exact Kp.refl _ _
                      | with_reducible refine Kp.drew ?_)) ?_
                  intro ao7 cap7 W7 hr7 hk7
                  have y7 := kp_cell hk7 (by simp) yB
                  have x7 := kp_cell hk7 (by simp) xB
                  have z7 := kp_cell hk7 (by simp) zB
                  have f7 := free_of_row (hk7.row (by simp) HXB.out.2.1) i
                  have HR7 := Lib.hid (And.intro hr7 hk7)
                  clear hr7 hk7
                  refine hK.out _ _ ?_ (fun hHeld2 => ?_)
                  · exact ⟨x7, z7, y7⟩
                  clear hK K hHeld
                  have hHeld := hHeld2
                  clear hHeld2
                  try simp only [Act.put, siA, scZ, scS]
                  refine wpAnyH_take (i := 34)  (v := ?_) rfl (by kernel_rfl) (by kernel_rfl) (by kernel_rfl) (fun _ _ _ h => h) (Or.inl ⟨by rfl, ?hy⟩) (by assumption) ?_
                  case hy => (intro w hSw; (try dsimp only at hSw); go_simp; try with_reducible rfl)
                  try simp only [Act.put, siA, scZ, scS]
                  refine wpAnyH_take (i := 35)  (v := ?_) rfl (by kernel_rfl) (by kernel_rfl) (by kernel_rfl) (fun _ _ _ h => h) (Or.inl ⟨by rfl, ?hy⟩) (by assumption) ?_
                  case hy => (intro w hSw; (try dsimp only at hSw); go_simp; try with_reducible rfl)
                  try simp only [Act.put, siA, scZ, scS]
                  refine wpAnyH_done (by kernel_rfl) ?_ _
                  clear hHeld x7 z7
                  refine zq_normal ?_
                  refine wpOp_step (o := _) rfl (fun K hK => ?_)
                  go_simp
                  refine hK _ _ ?_
                  clear hK K
                  try simp only [Act.put, siA, scZ, scS]
                  go_wp2_with fail
                  go_meet
                  have hlc : (List.take m (s.size i) ++ List.drop (m + 1) (s.size i)).length = m + (L - (m + 1)) := by rw [List.length_append, HLsB.out.1, HLsB.out.2]
                  obtain ⟨hrw, hge⟩ := rw_of_gx HR7.out.1 hlc
                  first
                    | exact Lib.hid ⟨_, W7, HR7.out.2, hrw, hge, Kp.refl _ _⟩
                    | exact Lib.hid ⟨_, W7, HR7.out.2, hrw, hge, (Kp.refl [] _).drew⟩
              --}}
            case rest =>
              obtain ⟨W9, rfl⟩ : ∃ W9 : World, W9 = wc := ⟨_, rfl⟩
              obtain ⟨mv, W7, K7, hr7, hg7, kd7⟩ := hcut.out
              have HE : Hid (Nd B T n p r sp (t + 600) (k + 1) qs w W9) := Lib.hid (by
                have hbk : ∀ g ∈ Li.blk mv, g ∈ Li.blk (v2.ss i) ∨ W8.heap.size ≤ g := fun g hg => .inr (hg7 g hg)
                have hA := (HP2.out.1.size_up hi HXB.out.1 (K7.mono (by simp)) hr7 hbk).on kd7
                have hB8 : B ≤ W8.heap.size := Nat.le_trans hB (Nat.le_trans HB4.out.2.1.size HP2.out.2.2.2.size)
                have kset : Kp [bbB] W7 (W7.setCell ⟨bbB, i, none⟩ mv) := (Kp.refl _ _).setCell (.inl (by simp)) _
                have hbl := (by rw [HXB.out.1, Gx.blk_some]; simp : bbB ∈ Gx.blk (v2.f 12))
                have z1 := K7.size
                have z2 := kset.size
                have b2 : Below B W7 _ := kset.below (by omega) (by simpa using HP2.out.2.2.1.z0 bbB hbl)
                refine ⟨_, _, _, hA.more (by omega), ?_, HP2.out.2.2.1.size fun g hg => by have := hg7 g hg; omega, ((((HB4.out.2.1.below hB (by simp)).trans HP2.out.2.2.2.bel).trans (K7.below hB8 (by simp))).trans b2).trans (kd7.below (by omega) (by simp))⟩
                have hmo := HM.out.cut hi (m := m) (by rw [← HMv.out.2.1]; exact hmL)
                refine (hmo.more (by omega)).same ?_ ?_
                · show s2.made = _
                  rw [HS2.out]
                  show upd1 s1.made i _ = _
                  rw [HMd.out]
                · show upd1 s2.size i _ = _
                  rw [HP2.out.2.1])
              clear hcut K7 hr7 hg7 kd7 HP2
              go_wp2_with fail
              go_ret
              exact ⟨rfl, HE.out⟩
  · have hq0 : (d == 0) = false := by simp; omega
    have hq1 : (d == 1) = false := by simp; omega
    by_cases h2 : d = 2
    · subst h2
      obtain ⟨b5, c5, e5, hc5, ⟨cur5, hb5⟩, hcell5⟩ := rowF_at HA2.out.walks (by omega)
      have x5 := (HA2.out.cell (i := 5) (by decide)).trans (show _ = some (.slice (some ⟨b5, 0, none⟩) T c5) from by rw [e5])
      have y5 := hcell5 i hi
      have f5 := free_of_row hb5 i
      generalize hwk : s.wk i = wk at y5
      have HW : Hid (Nd B T n p r sp (t + 600) (k + 1) qs w (W2.setCell ⟨b5, i, none⟩ (.bool !wk))) := Lib.hid (by
        have hz := HB2.out.2.size
        have ks : Kp [b5] W2 (W2.setCell ⟨b5, i, none⟩ (.bool !wk)) := (Kp.refl _ _).setCell (.inl (by simp)) _
        refine ⟨v, _, col, (HA2.out.walk_up (b := !wk) hi e5).more (by omega), (HM.out.more (by omega)).same rfl rfl, HL.out, (HB2.out.2.below hB (by simp)).trans (ks.below (by omega) ?_)⟩
        have := HL.out.w0 b5 (by rw [e5, Gx.blk_some]; simp)
        simpa using this)
      have HWd : Hid (Nd B T n p r sp (t + 600) (k + 1) qs w ((W2.setCell ⟨b5, i, none⟩ (.bool !wk))).drew) := Lib.hid (by
        obtain ⟨v', s', col', h1, h2, h3, h4⟩ := HW.out
        have kk := (Kp.refl [] (W2.setCell ⟨b5, i, none⟩ (.bool !wk))).drew
        exact ⟨v', s', col', h1.on kk, h2, h3, h4.trans (kk.below (Nat.le_trans hB h4.size) (by simp))⟩)
      clear e5 hb5 hcell5 hwk
      go_wp2_with fail
      go_region
      all_goals go_wp2_with fail
      all_goals go_ret
      all_goals
        first
          | exact ⟨rfl, HW.out⟩
          | exact ⟨rfl, HWd.out⟩
    · have hq2 : (d == 2) = false := by simp [h2]
      have b3 := (cell_of_row HB2.out.1 3).trans (show _ = some (.int .i64 rf) from rfl)
      have b4 := (cell_of_row HB2.out.1 4).trans (show _ = some (.int .i64 sz) from rfl)
      have hln := HM.out.ln i hi
      have HMa : Hid (Calls Tryz.prog 42 #[.pointer (some ⟨sp, 0, none⟩), .int .i64 i, .int .i64 rf, .int .i64 sz] W2 fun e w' => e = .returned (.bool true) ∧ Nd B T n p r sp (t + 600) (k + 1) qs w w') := by
        have hz := HB2.out.2.size
        by_cases hbad : rf < 0 ∨ sz < rf ∨ 95 < sz
        · refine Lib.hid ((HBd.out v s t col W2 i rf sz HA2.out hi hbad).mono ?_)
          rintro e w' ⟨rfl, k'⟩
          exact ⟨rfl, v, s, col, (HA2.out.on k').more (by omega), HM.out.more (by omega), HL.out, (HB2.out.2.trans k').below hB (by simp)⟩
        · obtain ⟨rf', rfl⟩ := Int.eq_ofNat_of_zero_le (show 0 ≤ rf by omega)
          obtain ⟨sz', rfl⟩ := Int.eq_ofNat_of_zero_le (show 0 ≤ sz by omega)
          refine Lib.hid ((HMk.out v s t col W2 i rf' sz' HA2.out (by omega) hi (by omega) (by omega) HL.out (by omega) (by omega) (by omega)).mono ?_)
          rintro e w' ⟨rfl, v', col', h1, h2, h3⟩
          exact ⟨rfl, v', _, col', h1, HM.out.made HA.out.fit hi (by omega) (by omega) (by omega), h2, (HB2.out.2.below hB (by simp)).trans h3.bel⟩
      go_wp2_with fail
      refine HMa.out.mono ?_
      rintro e w9 ⟨rfl, hN⟩
      have HN := Lib.hid hN
      clear hN
      go_wp2_with fail
      go_ret
      exact ⟨rfl, HN.out⟩
end
end Go.Proofs.YtbpgkocbfleajaaGreatDoor
