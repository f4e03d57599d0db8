/- The walks of law 15's own: waits (a block of an owner's goes back later). Conditions: as each theorem states them. -/
import Derived.Test.YtbpgkocbfleajaaGreatDoorPa11
import Derived.Test.YtbpgkocbfleajaaGreatDoorPa13
import Derived.Test.YtbpgkocbfleajaaGreatDoorPa16
namespace Go.Proofs.YtbpgkocbfleajaaGreatDoor
set_option linter.unusedVariables false
set_option linter.unusedSimpArgs false
set_option maxRecDepth 100000
open Go.RowKit

section
variable {T n p r sp t t' : Nat} {qs : Nat → Nat} {v : Av} {s : As} {col col' : Nat → Nat} {w w' w1 w2 w3 : World}
set_option maxHeartbeats 16000000 in
theorem aw_waits (h : Aw T n p r sp qs v s t col w) (hT4 : T ≤ 4) (hn : n ≤ 12) (ht : t ≤ 700000) {i : Nat} (hi : i < T) {B : Nat} (hL : Lo B T p r sp qs v) (hB : B ≤ w.heap.size) (a : Nat) (ha : 3 + T + n ≤ a) (ha2 : a < 3 + T + 33 * n) :
    Calls Tryz.prog 38 #[.pointer (some ⟨sp, 0, none⟩), .int .i64 i, .int .i64 a] w fun e w' => e = .returned (.tuple #[]) ∧ Nw B T n p r sp (t + 1) qs s col w w' := by
  obtain ⟨b, m, hb, hbe, hme⟩ := blk_of ha ha2
  have HBk := Lib.hid (fun w => Ly.block_in T ((0 : Nat) : Int) n a w (by omega) (by omega) (by omega) (by omega) (by omega) (by omega) (by omega) (by omega))
  rw [hbe, hme] at HBk
  obtain ⟨x, hx⟩ : ∃ x, s.H.getD (3 + T + 0 + b) 0 = x := ⟨_, rfl⟩
  have hlen := h.fit.len
  have HEn : Hid (∀ w', Kp [] w w' → Calls Tryz.prog 39 #[hV v.db v.dc (3 + T + 33 * n) T 0 n, .int .i64 b] w' fun e w'' => e = .returned (.agg #[.int .u8 (ek x), .int .u8 (ec x), .int .u8 (er x), .int .u8 (eo x)]) ∧ Kp [] w' w'') := Lib.hid fun w' k => by
    have := d_entry (h.dh.on k) b hb x hx
    rw [hlen] at this
    exact this
  have HA := Lib.hid h
  have a1 : w.cell? ⟨sp, 1, none⟩ = some (.int .i64 T) := (h.cell (by decide)).trans (by rw [h.f1])
  have a2 : w.cell? ⟨sp, 2, none⟩ = some (.int .i64 ((0 : Nat) : Int)) := (h.cell (by decide)).trans (by rw [h.f2]; rfl)
  have a3 : w.cell? ⟨sp, 3, none⟩ = some (.int .i64 n) := (h.cell (by decide)).trans (by rw [h.f3])
  have HX := Lib.hid (And.intro hx hlen)
  have HL := Lib.hid hL
  have hL' := hL
  obtain ⟨N, hN⟩ : ∃ N, N = 3 + T + 33 * n := ⟨_, rfl⟩
  have HN := Lib.hid hN
  rw [← hN] at HEn
  clear h hx hlen hL hbe hme
  generalize hek : ek x = xk at HEn
  generalize hec : ec x = xc at HEn
  generalize her : er x = xr at HEn
  have hob := eo_bd x
  generalize heo : eo x = xo at HEn hob
  have HEK := Lib.hid (And.intro hek heo)
  clear hek hec her heo hN
  go_enter Tryz.func38, Tryz.ntmps38
  go_wp2_with fail
  refine (HBk.out _).mono ?_
  rintro e w1 ⟨rfl, hk1⟩
  have HK1 := Lib.hid hk1
  clear hk1 a1 a2 a3 HBk
  go_upto_region 3 with (fail)
  obtain ⟨wA, hwA⟩ : ∃ wA, wA = w1.alloc (.cells #[.int .u8 0, .int .u8 0, .int .u8 0, .int .u8 0] 103) := ⟨_, rfl⟩
  have hkA : Kp [] w wA := by rw [hwA]; exact HK1.out.alloc _
  have hbxA : wA.heap[w1.heap.size]? = some (.cells #[.int .u8 0, .int .u8 0, .int .u8 0, .int .u8 0] 103 (0, 0)) := by rw [hwA]; exact heap_alloc_new _ _
  rw [← hwA]
  obtain ⟨kb, hkb⟩ : ∃ kb, kb = w1.heap.size := ⟨_, rfl⟩
  rw [← hkb] at hbxA ⊢
  have HKb : Hid (w.heap.size ≤ kb) := Lib.hid (by rw [hkb]; exact HK1.out.size)
  have hAA := HA.out.on hkA
  have a6 : wA.cell? ⟨sp, 6, none⟩ = some (.slice (some ⟨v.db, 0, none⟩) N v.dc) := (hAA.cell (by decide)).trans (by rw [hAA.f6, HN.out])
  have a7 : wA.cell? ⟨sp, 7, none⟩ = some (.int .i64 T) := (hAA.cell (by decide)).trans (by rw [hAA.f7])
  have a8 : wA.cell? ⟨sp, 8, none⟩ = some (.int .i64 ((0 : Nat) : Int)) := (hAA.cell (by decide)).trans (by rw [hAA.f8]; rfl)
  have a9 : wA.cell? ⟨sp, 9, none⟩ = some (.int .i64 n) := (hAA.cell (by decide)).trans (by rw [hAA.f9])
  have HKA := Lib.hid (And.intro hkA hbxA)
  clear hwA hkb hkA hbxA hAA HK1
  go_wp2_with fail
  refine (HEn.out _ HKA.out.1).mono ?_
  rintro e w2 ⟨rfl, hk2⟩
  have hbx2 := hk2.row (by simp) HKA.out.2
  have e0 := (cell_of_row hbx2 0).trans (show _ = some (.int .u8 0) from rfl)
  have e1 := (cell_of_row hbx2 1).trans (show _ = some (.int .u8 0) from rfl)
  have e2 := (cell_of_row hbx2 2).trans (show _ = some (.int .u8 0) from rfl)
  have e3 := (cell_of_row hbx2 3).trans (show _ = some (.int .u8 0) from rfl)
  have g0 := free_of_row hbx2 0
  have g1 := free_of_row hbx2 1
  have g2 := free_of_row hbx2 2
  have g3 := free_of_row hbx2 3
  have HK2 := Lib.hid (And.intro (HKA.out.1.trans hk2) hbx2)
  clear hk2 hbx2 a6 a7 a8 a9 HKA HEn
  go_upto_region 4 with (fail)
  obtain ⟨W4, hW4⟩ : ∃ W4, W4 = ((((w2.setCell ⟨kb, 0, none⟩ (.int .u8 xk)).setCell ⟨kb, 1, none⟩ (.int .u8 xc)).setCell ⟨kb, 2, none⟩ (.int .u8 xr)).setCell ⟨kb, 3, none⟩ (.int .u8 xo)) := ⟨_, rfl⟩
  have hk4 : Kp [] w W4 := by rw [hW4]; exact kp_new_set HK2.out.1 (put4v_kp w2 kb (.int .u8 xk) (.int .u8 xc) (.int .u8 xr) (.int .u8 xo)) HKb.out
  have hb4 : W4.heap[kb]? = some (.cells #[.int .u8 xk, .int .u8 xc, .int .u8 xr, .int .u8 xo] 103 (0, 0)) := by rw [hW4]; exact put4v_row _ _ _ _ HK2.out.2
  rw [← hW4]
  have r0 := (cell_of_row hb4 0).trans (show _ = some (.int .u8 xk) from rfl)
  have r3 := (cell_of_row hb4 3).trans (show _ = some (.int .u8 xo) from rfl)
  have HK4 := Lib.hid hk4
  have HEnd : Hid (Nw B T n p r sp (t + 1) qs s col w W4) := Lib.hid ⟨v, s, col, (HA.out.on hk4).more (by omega), HL.out, BK.of0 hk4 hB, rfl, rfl, rfl⟩
  clear hW4 hk4 hb4 HK2 e0 e1 e2 e3 g0 g1 g2 g3
  have hcv : IntKind.i64.wrap xo = xo := IntWalk.i64_in xo (by omega)
  by_cases h1 : xk = 1
  · by_cases h2 : xo = (i : Int)
    · subst h1
      have hq1 : ((1 : Int) != 1) = false := by decide
      have hq2 : (xo != (i : Int)) = false := by simp [h2]
      have H2 := Lib.hid h2
      clear h2
      have hA4 := HA.out.on HK4.out
      have b7 : W4.cell? ⟨sp, 7, none⟩ = some (.int .i64 T) := (hA4.cell (by decide)).trans (by rw [hA4.f7])
      have b8 : W4.cell? ⟨sp, 8, none⟩ = some (.int .i64 ((0 : Nat) : Int)) := (hA4.cell (by decide)).trans (by rw [hA4.f8]; rfl)
      have b9 : W4.cell? ⟨sp, 9, none⟩ = some (.int .i64 n) := (hA4.cell (by decide)).trans (by rw [hA4.f9])
      have HSt := Lib.hid (fun w => Ly.rstart_is T ((0 : Nat) : Int) n b ((3 + T + 0 + n + 32 * b : Nat) : Int) w (by rw [Ly.rowP_in (by omega) (by omega)]; omega) (by omega) (by omega) (by omega) (by omega) (by omega) (by omega))
      obtain ⟨st, hst⟩ : ∃ st, st = 3 + T + 0 + n + 32 * b := ⟨_, rfl⟩
      rw [← hst] at HSt
      have hst1 : st ≤ 1000 := by omega
      have HSte := Lib.hid hst
      clear hst hA4 HEnd
      go_wp2_with fail
      refine (HSt.out _).mono ?_
      rintro e w5 ⟨rfl, hk5⟩
      have HK5 := Lib.hid (HK4.out.trans hk5)
      clear hk5 b7 b8 b9 r0 r3 HSt HK4
      obtain ⟨b4, c4, e4, hc4, -, hcell4⟩ := rowF_at HA.out.free (by omega)
      have x4 := kp_cell HK5.out (by simp) ((HA.out.cell (i := 4) (by decide)).trans (show _ = some (.slice (some ⟨b4, 0, none⟩) T c4) from by rw [e4]))
      have y4 := kp_cell HK5.out (by simp) (hcell4 i hi)
      have ew := IntWalk.i64_in ((st : Int) + 32) (by omega)
      have e32 : ((st : Int) + 32) = ((st + 32 : Nat) : Int) := by omega
      have HDr : Hid (Calls Tryz.prog 67 #[.pointer (some ⟨qs i, 0, none⟩), .int .i64 st, .int .i64 ((st : Int) + 32)] w5 fun e w' => (∃ N, e = .returned (.int .i64 N)) ∧ ∃ vs', Mw T 0 n p r (qs i) vs' s.H (Li.dropR (s.Rs i) st ((st : Int) + 32)) t w' ∧ Mh [] p r (qs i) (v.vss i) vs' w5 w') := Lib.hid (by
        have hm := (HA.out.on HK5.out).mws.one i hi
        refine (Li.drop_is w5 (qs i) (v.vss i) (s.Rs i) st ((st : Int) + 32) hm.ls (hm.lk.len hm.sm)).mono ?_
        rintro e w' ⟨rfl, vs', hl, hk⟩
        exact ⟨⟨_, rfl⟩, vs', hm.list hl hk (hm.lk.drop _ _), Mh.of_mk (Mk.of_lk hk)⟩)
      generalize hqi : qs i = qi at HDr y4
      have Hqi := Lib.hid hqi
      clear hqi e4 hcell4 e32
      go_wp2_with fail
      refine HDr.out.mono ?_
      rintro e w6 ⟨⟨dn, rfl⟩, vs', hm6, hk6⟩
      rw [← Hqi.out] at hm6 hk6
      have H6 := Lib.hid (And.intro hm6 hk6)
      clear hm6 hk6 HDr x4 y4
      -- the document's list
      have HA5 := Lib.hid (HA.out.on HK5.out)
      have hAp : Apart col w5 [] := by intro b hb; simp at hb
      have HAp := Lib.hid hAp
      have hsp := HA5.out.spp (by omega)
      have hof10 := HA5.out.offT (by omega) hi hAp HA5.out.docs (fun g hg => HA5.out.c0 g (by simp [hg])) (by decide) (by decide) (by decide) (by decide)
      have hofs : sp ∉ mhS [] p r (qs i) (v.vss i) := HA5.out.off hi hAp (by rw [HA5.out.c0 sp (by simp)]; decide) (by rw [HA5.out.c0 sp (by simp)]; decide) hsp.1 hsp.2.1 (fun e => by
        have := HA5.out.st
        obtain ⟨a1, a2, a3, e1, e2, e3⟩ := (HA5.out.mws.one i hi).types
        unfold S13 at this
        rw [e, e3] at this; simp at this)
      obtain ⟨b10, c10, e10, hc10, ⟨cur10, hb10⟩, hcell10⟩ := row4_at HA5.out.docs (by omega)
      obtain ⟨A0, A1, A2, A3, l0, k0, l1, k1, l2, k2, l3, k3, hsl⟩ := HA5.out.us_slices hi
      rw [e10, Gx.blk_some] at hof10
      have n10 := (hof10 b10 (by simp)).1
      have nsb := (hof10 b10 (by simp)).2
      have hk6 := H6.out.2
      have hb106 := hk6.kp.row n10 hb10
      have x10 := kp_cell hk6.kp hofs ((HA5.out.cell (i := 10) (by decide)).trans (show _ = some (.slice (some ⟨b10, 0, none⟩) T c10) from by rw [e10]))
      have y0 := kp_cell hk6.kp n10 (show w5.cell? ⟨b10, i * 4, none⟩ = some (.slice A0 l0 k0) from (hcell10 i 0 hi (by omega)).trans (by rw [hsl 0 (by omega)]; rfl))
      have y1 := kp_cell hk6.kp n10 (show w5.cell? ⟨b10, i * 4 + 1, none⟩ = some (.slice A1 l1 k1) from (hcell10 i 1 hi (by omega)).trans (by rw [hsl 1 (by omega)]; rfl))
      have y2 := kp_cell hk6.kp n10 (show w5.cell? ⟨b10, i * 4 + 2, none⟩ = some (.slice A2 l2 k2) from (hcell10 i 2 hi (by omega)).trans (by rw [hsl 2 (by omega)]; rfl))
      have y3 := kp_cell hk6.kp n10 (show w5.cell? ⟨b10, i * 4 + 3, none⟩ = some (.slice A3 l3 k3) from (hcell10 i 3 hi (by omega)).trans (by rw [hsl 3 (by omega)]; rfl))
      have HRd : Hid (∀ w', Kp [] w6 w' → Calls Tryz.prog 68 #[.agg #[.slice A0 l0 k0, .slice A1 l1 k1, .slice A2 l2 k2, .slice A3 l3 k3], .int .i64 st, .int .i64 ((st : Int) + 32)] w' fun e w'' => ∃ C0 C1 C2 C3 g0 h0 g1 h1 g2 h2 g3 h3 N, e = .returned (.tuple #[.agg #[.slice C0 g0 h0, .slice C1 g1 h1, .slice C2 g2 h2, .slice C3 g3 h3], .int .i64 N]) ∧ Li.Rows4 w'' (sl C0 C1 C2 C3 g0 h0 g1 h1 g2 h2 g3 h3) (Li.dropR (s.Rs i) st ((st : Int) + 32)) ∧ Kp [] w' w'' ∧ Li.Bl4 (v.us i) (sl C0 C1 C2 C3 g0 h0 g1 h1 g2 h2 g3 h3) w'.heap.size w''.heap.size) := by
        refine Lib.hid fun w' k => ?_
        have hr : Li.Rows4 w' (sl A0 A1 A2 A3 l0 k0 l1 k1 l2 k2 l3 k3) (s.Rs i) := rows4_eq (fun d hd' => ((HA5.out.rd i hi d hd').keep hk6.kp fun g hg => HA5.out.offK hi hAp (by rw [HA5.out.c2 i hi d hd' g hg]; decide) (by rw [HA5.out.c2 i hi d hd' g hg]; decide) (by rw [HA5.out.c2 i hi d hd' g hg]; decide)).keep0 k) hsl
        have hlt : Li.Lt4 (sl A0 A1 A2 A3 l0 k0 l1 k1 l2 k2 l3 k3) w'.heap.size := fun d hd' y hy => by
          rw [← hsl d hd'] at hy
          have := HA5.out.lt i hi d hd' y hy
          have := hk6.size
          have := k.size
          omega
        have hm := HA5.out.mws.one i hi
        have hmk := Li.rdrop_is w' (sl A0 A1 A2 A3 l0 k0 l1 k1 l2 k2 l3 k3) (s.Rs i) st ((st : Int) + 32) hr (hm.lk.len hm.sm) hlt
        refine Calls.mono hmk ?_
        rintro e w'' ⟨us', rfl, h3, h2, h4⟩
        obtain ⟨C0, C1, C2, C3, g0, h0, g1, h1', g2, h2', g3, h3', hE⟩ := rows_slices h2
        refine ⟨C0, C1, C2, C3, g0, h0, g1, h1', g2, h2', g3, h3', Li.dropN (s.Rs i) st ((st : Int) + 32), ?_, rows4_eq h2 hE, h3, bl4_eq h4 (fun d hd' => (hsl d hd').symm) hE⟩
        rw [hE 0 (by omega), hE 1 (by omega), hE 2 (by omega), hE 3 (by omega)]
        rfl
      have HS6 := Lib.hid (And.intro hofs (And.intro n10 (And.intro nsb (And.intro e10 hb106))))
      clear hAp hsp hof10 hofs e10 hcell10 hsl n10 nsb hk6 hb10 hb106
      go_upto_region 7 with (fail)
      go_cut [] (fun we => Hid (∃ C0 C1 C2 C3 g0 h0 g1 h1 g2 h2 g3 h3 w8 Wf, Li.Rows4 w8 (sl C0 C1 C2 C3 g0 h0 g1 h1 g2 h2 g3 h3) (Li.dropR (s.Rs i) st ((st : Int) + 32)) ∧ Kp [] w6 w8 ∧ Li.Bl4 (v.us i) (sl C0 C1 C2 C3 g0 h0 g1 h1 g2 h2 g3 h3) w6.heap.size w8.heap.size ∧ Wf = ((((w8.setCell ⟨b10, i * 4, none⟩ (.slice C0 g0 h0)).setCell ⟨b10, i * 4 + 1, none⟩ (.slice C1 g1 h1)).setCell ⟨b10, i * 4 + 2, none⟩ (.slice C2 g2 h2)).setCell ⟨b10, i * 4 + 3, none⟩ (.slice C3 g3 h3)) ∧ Kp [] Wf we))
      case first =>
        --{{A
        go_region_with (first
          | (go_at_call 68
             refine (HRd.out _ ?_).mono ?_
             · repeat (first
                 | with_reducible exact Kp.refl _ _
                 | with_reducible refine Kp.drew ?_
                 | with_reducible refine Kp.alloc ?_ _)
             rintro e w8 ⟨C0, C1, C2, C3, g0, h0, g1, h1, g2, h2, g3, h3, N8, rfl, hr8, hk8, hb8⟩
             have K8 : Kp [] w6 w8 := Kp.trans (by
               repeat (first
                 | with_reducible exact Kp.refl _ _
                 | with_reducible refine Kp.drew ?_
                 | with_reducible refine Kp.alloc ?_ _)) hk8
             have hb8' : Li.Bl4 (v.us i) (sl C0 C1 C2 C3 g0 h0 g1 h1 g2 h2 g3 h3) w6.heap.size w8.heap.size := hb8
             have hr108 := K8.row (by simp) HS6.out.2.2.2.2
             have x10' := kp_cell K8 (by simp) x10
             have y0' := kp_cell K8 (by simp) y0
             have y1' := kp_cell K8 (by simp) y1
             have y2' := kp_cell K8 (by simp) y2
             have y3' := kp_cell K8 (by simp) y3
             have f0 := free_of_row hr108 (i * 4)
             have f1 := free_of_row hr108 (i * 4 + 1)
             have f2 := free_of_row hr108 (i * 4 + 2)
             have f3 := free_of_row hr108 (i * 4 + 3)
             have H8 := Lib.hid (And.intro hr8 (And.intro K8 hb8'))
             clear hr8 hk8 hb8 K8 hb8' hr108))
        all_goals go_wp2_with fail
        all_goals go_meet
        all_goals
          first
            | exact Lib.hid ⟨C0, C1, C2, C3, g0, h0, g1, h1, g2, h2, g3, h3, w8, _, H8.out.1, H8.out.2.1, H8.out.2.2, rfl, Kp.refl _ _⟩
            | exact Lib.hid ⟨C0, C1, C2, C3, g0, h0, g1, h1, g2, h2, g3, h3, w8, _, H8.out.1, H8.out.2.1, H8.out.2.2, rfl, (Kp.refl [] _).drew⟩
        --}}
      case rest =>
        obtain ⟨we, rfl⟩ : ∃ we : World, we = wc := ⟨_, rfl⟩
        obtain ⟨C0, C1, C2, C3, g0, h0, g1, h1, g2, h2, g3, h3, w8, Wf, hr8, hk8, hb8, hWf, kd⟩ := hcut.out
        have hfit := HA.out.fit.waits hi (by omega) hb (st : Int) ((st : Int) + 32)
        have hww : ∃ x : Int, x = Tb.wordE 4 0 0 i ∧ 0 ≤ x ∧ x < 18446744073709551616 := ⟨_, rfl, by unfold Tb.wordE; omega, by unfold Tb.wordE; omega⟩
        obtain ⟨wx, hwx, hwx0, hwx1⟩ := hww
        rw [← hwx] at hfit
        obtain ⟨v1, s1, col1, hm1, HP⟩ : ∃ v1 s1 col1, (s1.made = s.made ∧ s1.size = s.size ∧ s1.wk = s.wk) ∧ Hid (Aw T n p r sp qs v1 s1 t col1 we ∧ Lo B T p r sp qs v1 ∧ BK B col col1 w we ∧ Fit T n (s1.H.set (3 + T + 0 + b) wx) s1.Rs) := by
          have kf : Kp [b10] w8 Wf := by rw [hWf]; exact ((((Kp.refl [b10] w8).setCell (.inl (by simp)) _).setCell (.inl (by simp)) _).setCell (.inl (by simp)) _).setCell (.inl (by simp)) _
          have hmk := H6.out.2
          have hB5 : B ≤ w5.heap.size := Nat.le_trans hB HK5.out.size
          have hst : S13 w8 sp v.f := (HA5.out.st.keep hmk.kp HS6.out.1).keep hk8 (by simp)
          have hd8 := (HA5.out.dh.keepS hmk.kp (HA5.out.db_off hi HAp.out)).on hk8
          have hdocs : Gx.Rw 98 4 0 Wf (.slice (some ⟨b10, 0, none⟩) T c10) T ((List.range (4 * T)).map fun k => updV4 v.us i (sl C0 C1 C2 C3 g0 h0 g1 h1 g2 h2 g3 h3) (k / 4) (k % 4)) := by
            have hd := HA5.out.docs
            rw [HS6.out.2.2.2.1] at hd
            have hd5 := (hd.keep hmk.kp (by rw [Gx.blk_some]; simpa using HS6.out.2.1)).keep0 hk8
            rw [hWf]
            exact docs_put hd5 i (sl C0 C1 C2 C3 g0 h0 g1 h1 g2 h2 g3 h3)
          have hA := (HA5.out.step (fb := b10) (fc := c10) hi HAp.out H6.out.1 rfl hmk hk8 hd8 hr8 hb8 (HA.out.fit.upd HA.out.fit.iv ((HA.out.fit.ls i hi).1.drop _ _) ((HA.out.fit.ls i hi).2.drop _ _)) HS6.out.2.2.2.1 (kf.mono (T := [sp, b10]) (fun x hx _ => by simp at hx; simp [hx])) (hst.keep kf (by simpa using fun e => HS6.out.2.2.1 e.symm)) (fun j _ => rfl) HA5.out.f6 (by rw [HS6.out.2.2.2.1]; exact hdocs)).on kd
          refine ⟨_, _, _, ?_, Lib.hid ⟨hA, hL'.step hi hmk hB5 (fun j _ => rfl), ?_, ?_⟩⟩
          · exact ⟨rfl, rfl, rfl⟩
          · have b1 : BK B col col w w5 := BK.of0 HK5.out hB
            have b2 : BK B col col w5 w6 := BK.of hmk.kp hB5 (hL'.mhs hi (by simp)) (HA5.out.mh_col hi (by simp))
            have z3 := hmk.size
            have b3 : BK B col col w6 w8 := BK.of0 hk8 (by omega)
            have z4 := hk8.size
            have hb0 : col b10 = 0 := HA5.out.c0 b10 (by simp [HS6.out.2.2.2.1, Gx.blk_some])
            have b5 : BK B col col w8 Wf := BK.of kf (by omega) (by
              have := hL'.d0 b10 (by rw [HS6.out.2.2.2.1, Gx.blk_some]; simp)
              simpa using this) (by
              intro x hx _
              rw [List.mem_singleton] at hx
              rw [hx, hb0]; decide)
            have z6 := kf.size
            have b6 : BK B col col Wf we := BK.of0 kd (by omega)
            have z1 := HK5.out.size
            exact ((((b1.trans b2).trans b3).trans b5).trans b6).recol fun g hg => col3_old (by omega)
          · exact hfit
        have Hm1 := Lib.hid hm1
        have HWx := Lib.hid (And.intro hwx (And.intro hwx0 hwx1))
        have b7 : we.cell? ⟨sp, 7, none⟩ = some (.int .i64 T) := (HP.out.1.cell (by decide)).trans (by rw [HP.out.1.f7])
        have b8 : we.cell? ⟨sp, 8, none⟩ = some (.int .i64 ((0 : Nat) : Int)) := (HP.out.1.cell (by decide)).trans (by rw [HP.out.1.f8]; rfl)
        have b9 : we.cell? ⟨sp, 9, none⟩ = some (.int .i64 n) := (HP.out.1.cell (by decide)).trans (by rw [HP.out.1.f9])
        have HEn2 := Lib.hid (fun w => Ly.rentry_is T ((0 : Nat) : Int) n b ((3 + T + 0 + b : Nat) : Int) w (by rw [Ly.rowP_in (by omega) (by omega)]; omega) (by omega) (by omega) (by omega) (by omega) (by omega) (by omega))
        have HWd := Lib.hid (fun w => Tb.rword_is 4 0 0 i w (by omega) (by omega) (by omega) (by omega) (by omega) (by omega) (by omega) (by omega))
        rw [← hwx] at HWd
        have HSet : Hid (∀ w', Kp [] we w' → Calls Tryz.prog 40 #[.pointer (some ⟨sp, 0, none⟩), .int .i64 ((3 + T + 0 + b : Nat) : Int), .int .u64 wx] w' fun e w'' => e = .returned (.tuple #[]) ∧ Nw B T n p r sp (t + 1) qs s col w w'') := by
          refine Lib.hid fun w' k => ?_
          refine (aw_set (HP.out.1.on k) (by omega) (by omega) (3 + T + 0 + b) (by omega) wx HWx.out.2.1 HWx.out.2.2 HP.out.2.2.2).mono ?_
          rintro e w'' ⟨rfl, ⟨b', c', hA'⟩, hk'⟩
          refine ⟨rfl, _, _, _, hA', { HP.out.2.1 with w0 := ?_, d0 := ?_, m0 := ?_, z0 := ?_ }, ?_, Hm1.out⟩
          · intro g hg
            have hg2 : g ∈ Gx.blk (heapF v1.f T n b' c' 5) := hg
            rw [HP.out.1.heapF_ne b' c' 5 (by decide)] at hg2
            exact HP.out.2.1.w0 g hg2
          · intro g hg
            have hg2 : g ∈ Gx.blk (heapF v1.f T n b' c' 10) := hg
            rw [HP.out.1.heapF_ne b' c' 10 (by decide)] at hg2
            exact HP.out.2.1.d0 g hg2
          · intro g hg
            have hg2 : g ∈ Gx.blk (heapF v1.f T n b' c' 11) := hg
            rw [HP.out.1.heapF_ne b' c' 11 (by decide)] at hg2
            exact HP.out.2.1.m0 g hg2
          · intro g hg
            have hg2 : g ∈ Gx.blk (heapF v1.f T n b' c' 12) := hg
            rw [HP.out.1.heapF_ne b' c' 12 (by decide)] at hg2
            exact HP.out.2.1.z0 g hg2
          · have z := HP.out.2.2.1.size
            have z2 := k.size
            have hA1 := HP.out.1
            have hL1 := HP.out.2.1
            refine (HP.out.2.2.1.trans (BK.of0 k (by omega))).trans (BK.of hk' (by omega) (fun x hx => ?_) (fun x hx _ => ?_))
            · simp only [List.mem_cons, List.not_mem_nil, or_false] at hx
              rcases hx with e | e | e
              · rw [e]; exact hL1.p0
              · rw [e]; exact hL1.r0
              · rw [e]; exact hL1.s0
            · simp only [List.mem_cons, List.not_mem_nil, or_false] at hx
              rw [hA1.c0 x (by rcases hx with e | e | e <;> simp [e])]; decide
        have hw8 : IntKind.u8.wrap (i : Int) = i := by unfold IntKind.wrap; simp [IntKind.bits, IntKind.signed]; omega
        obtain ⟨P, hP⟩ : ∃ P, P = 3 + T + 0 + b := ⟨_, rfl⟩
        rw [← hP] at HEn2 HSet
        clear hcut hr8 hk8 hb8 hWf kd hfit hwx hwx0 hwx1 hm1 HP hP HRd HS6 H6 HA5 x10 y0 y1 y2 y3 HAp Hm1 HWx HSte
        go_wp2_with fail
        refine (HEn2.out _).mono ?_
        rintro e w9 ⟨rfl, hk9⟩
        have HK9 := Lib.hid hk9
        clear hk9 b7 b8 b9 HEn2
        go_wp2_with fail
        refine (HWd.out _).mono ?_
        rintro e w10 ⟨rfl, hk10⟩
        have HK10 := Lib.hid (HK9.out.trans hk10)
        clear hk10 HWd HK9
        go_wp2_with fail
        refine (HSet.out _ HK10.out).mono ?_
        rintro e w11 ⟨rfl, hN⟩
        have HNN := Lib.hid hN
        clear hN HSet
        go_wp2_with fail
        go_end0
        exact ⟨rfl, HNN.out⟩
    · have hq1 : ((1 : Int) != 1) = false := by decide
      have hq2 : (xo != (i : Int)) = true := by simp [h2]
      subst h1
      go_wp2_with fail
      refine bodyPost_ret (results_none rfl _ _ _) rfl ?_
      exact ⟨rfl, HEnd.out⟩
  · have hq1 : (xk != 1) = true := by simp [h1]
    go_wp2_with fail
    refine bodyPost_ret (results_none rfl _ _ _) rfl ?_
    exact ⟨rfl, HEnd.out⟩
end
end Go.Proofs.YtbpgkocbfleajaaGreatDoor
