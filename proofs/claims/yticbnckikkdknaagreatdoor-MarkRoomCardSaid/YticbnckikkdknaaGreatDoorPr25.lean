/- A walk cut into declarations: mroom main. A walk cut into declarations: mroom main. A walk cut into declarations: mroom main. Conditions: as each theorem states them. -/
import Derived.Carry
import Derived.Test.YticbnckikkdknaaGreatDoorPr24
namespace Go.Proofs.YticbnckikkdknaaGreatDoor
set_option linter.unusedVariables false
set_option linter.unusedSimpArgs false
set_option maxRecDepth 100000
open Go.RowKit

/-- What a walk leaves open at places (7). -/
structure CutMmG (X : Prop) where
  A0 : Prop
  A1 : Prop
  A2 : Prop
  A3 : Prop
  A4 : Prop
  A5 : Prop
  A6 : Prop
  use : Hid A0 → Hid A1 → Hid A2 → Hid A3 → Hid A4 → Hid A5 → Hid A6 → X

set_option maxHeartbeats 8000000 in
noncomputable def mroom_main_cut : CutMmG (∀ (HMd : Hid CMade) (w : World) (T0 : Cl.Tab w) (n T o0 ra rb : Nat) (hn1 : 1 ≤ n) (hn2 : n ≤ 12) (hT1 : 1 ≤ T) (hT4 : T ≤ 4) (ho : o0 ≤ 255) (ha1 : 1 ≤ ra) (ha2 : ra ≤ 64) (hrb1 : 1 ≤ rb) (hrb2 : rb ≤ 64) (ao ao2 : Option Addr) (cap cap2 : Nat) (l : List Th) (hl : l.length ≤ 60) (hA : Tgs w ao l) (fr : List Nat) (hfl : fr.length ≤ 60) (hF : Nms w ao2 fr),
    Calls Tryz.prog 3 #[.int .u8 n, .int .u8 T, .slice ao l.length cap, .int .u8 o0, .int .u8 ra, .int .u8 rb, .slice ao2 fr.length cap2] w fun e w' => e = .returned (.bool true) ∧ Kp [] w w') := by
  apply CutMmG.mk
  focus
    intro g9 g10 g11 gL1 gL2 gL3 gR7
    intro HMd w T0 n T o0 ra rb hn1 hn2 hT1 hT4 ho ha1 ha2 hrb1 hrb2 ao ao2 cap cap2 l hl hA fr hfl hF
    have HGr := Lib.hid (great_is n T (by omega) (by omega) ao l.length cap w false (by simp; omega))
    have HMa := Lib.hid (fun (wq : World) (kq : Kp [] w wq) => HMd.out wq T n (tab_keep T0 kq (by simp)) hn1 hn2 hT1 hT4 ao cap l hl (hA.keep kq))
    have HF := Lib.hid hF
    obtain ⟨L, hL⟩ : ∃ L, L = l.length := ⟨_, rfl⟩
    obtain ⟨M, hM⟩ : ∃ M, M = fr.length := ⟨_, rfl⟩
    rw [← hL] at hl HGr
    rw [← hM] at hfl ⊢
    have HLM := Lib.hid (And.intro hL hM)
    have hM60 : ¬ ((60 : Int) < (M : Int)) := by omega
    obtain ⟨o, hoo⟩ : ∃ o, o = o0 % T := ⟨_, rfl⟩
    have hoT : o < T := by rw [hoo]; exact Nat.mod_lt _ (by omega)
    obtain ⟨S, hS⟩ : ∃ S : As, S = { (makesN T n l l.length).1 with H := kidsN (makesN T n l l.length).2 l (makesN T n l l.length).1.H l.length } := ⟨_, rfl⟩
    obtain ⟨P, hP⟩ : ∃ P, P = (makesN T n l l.length).2 := ⟨_, rfl⟩
    have HMa2 : Hid (∀ wq, Kp [] w wq → Calls Tryz.prog 8 #[.int .u8 n, .int .u8 T, .slice ao L cap] wq fun e w' => ∃ sp hb qs t, t ≤ 100000 ∧ e = .returned (.tuple #[.pointer (some ⟨hb, 0, none⟩), .bool true]) ∧ Hm wq.heap.size T n sp hb qs S P t wq w') := Lib.hid (fun wq kq => by rw [hL, hS, hP]; exact HMa.out wq kq)
    obtain ⟨O, V, F, hG, hPl, hPa⟩ := heap_good2 (T := T) (n := n) hT1 hT4 hn2 l
    have hPlen : P.length = l.length := by rw [hP]; exact makesN_len l l.length
    have hSH : S.H = kidsN (makesN T n l l.length).2 l (makesN T n l l.length).1.H l.length := by rw [hS]
    have hSR : S.Rs = (makesN T n l l.length).1.Rs := by rw [hS]
    rw [← hSH, ← hSR] at hG
    rw [← hP] at hPl hPa
    have HG := Lib.hid (And.intro hG (And.intro hPl (And.intro hPa hPlen)))
    rw [← hL]
    have hrem : IntKind.u8.wrap ((o0 : Int).tmod (T : Int)) = (o : Int) := by
      rw [hoo, Int.tmod_eq_emod_of_nonneg (by omega)]
      have : ((o0 : Int) % (T : Int)) = ((o0 % T : Nat) : Int) := by simp
      rw [this]
      unfold IntKind.wrap
      simp [IntKind.bits, IntKind.signed]
      have := Nat.mod_lt o0 (show 0 < T by omega)
      omega
    have hrem2 : (o0 : Int).tmod (T : Int) = (o : Int) := by
      rw [hoo, Int.tmod_eq_emod_of_nonneg (by omega)]; simp
    have hT0' : ¬ (T : Int) = 0 := by omega
    have hca : IntKind.i64.wrap (ra : Int) = ra := IntWalk.i64_in _ (by omega)
    have hcb : IntKind.i64.wrap (rb : Int) = rb := IntWalk.i64_in _ (by omega)
    have HT0 := Lib.hid T0
    clear hA hF T0 hL hM HMa hS hP hG hPl hPa hPlen hSH hSR
    go_enter Tryz.func3, Tryz.ntmps3
    go_wp2_with fail
    refine HGr.out.mono ?_
    rintro e w0 ⟨rfl, rfl⟩
    go_wp2_with fail
    have hmodo : ((o0 : Int) % (T : Int)) = (o : Int) := by rw [hoo]; simp
    rw [hmodo]
    clear hmodo hrem hrem2 hoo HGr
    refine (HMa2.out w (Kp.refl _ _)).mono ?_
    rintro e w1 ⟨sp, hb, qs, t, ht, rfl, hm⟩
    have HKA := Lib.hid (kp_of_below hm.bel)
    have HM1 := Lib.hid (And.intro ht hm)
    have HMb := Lib.hid (HMa2.out w1 HKA.out)
    clear ht hm HMa2
    go_wp2_with fail
    refine HMb.out.mono ?_
    rintro e w2 ⟨sp2, hb2, qs2, t2, ht2, rfl, hm2⟩
    have HKB := Lib.hid (kp_of_below hm2.bel)
    have HM2 := Lib.hid (And.intro ht2 hm2)
    clear ht2 hm2 HMb
    have hmk := @run_makeMap Tryz.prog
    go_upto_region 9 with (fail)
    clear hmk
    obtain ⟨ht1, hm1⟩ := HM1.out
    obtain ⟨ht2, hm2⟩ := HM2.out
    obtain ⟨⟨t0, ht0, hw⟩, htab, hr1, hr2, hl1, hl2, hlen⟩ := hm1.work (by omega)
    obtain ⟨⟨t20, ht20, hw2⟩, htab2, hr21, hr22, hl21, hl22, -⟩ := hm2.work (by omega)
    have hsf1 := (hm1.on HKB.out).stat (by omega)
    have hsf2 := hm2.stat (by omega)
    have hw1 := hw.on HKB.out
    obtain ⟨B, hB⟩ : ∃ B, B = w.heap.size := ⟨_, rfl⟩
    obtain ⟨B2, hB2⟩ : ∃ B2, B2 = w1.heap.size := ⟨_, rfl⟩
    rw [← hB] at hm1 hw1 hr1 hr2 hl1 hl2 hsf1
    rw [← hB2] at hm2 hw2 hr21 hr22 hl21 hl22 hsf2
    have hBB : B + 1 < B2 := by rw [hB2]; exact hl1
    have hrB2 : 0 < w2.heap.size := Nat.lt_of_lt_of_le (block_lt_of_cell htab.c0) HKB.out.size
    obtain ⟨mb, hmb⟩ : ∃ mb, mb = w2.heap.size := ⟨_, rfl⟩
    obtain ⟨wa, hwa⟩ : ∃ wa, wa = w2.alloc (.map #[] 0) := ⟨_, rfl⟩
    obtain ⟨wb, hwb⟩ : ∃ wb, wb = wa.alloc (.map #[] 0) := ⟨_, rfl⟩
    obtain ⟨wc, hwc⟩ : ∃ wc, wc = wb.alloc (.cells #[.map (some mb)] 29) := ⟨_, rfl⟩
    obtain ⟨w3, hw3⟩ : ∃ w3, w3 = wc.alloc (.cells #[.map (some (mb + 1))] 29) := ⟨_, rfl⟩
    have ea : wa.heap.size = mb + 1 := by rw [hwa, World.size_alloc, hmb]
    have eb : wb.heap.size = mb + 1 + 1 := by rw [hwb, World.size_alloc, ea]
    have ec : wc.heap.size = mb + 1 + 1 + 1 := by rw [hwc, World.size_alloc, eb]
    have ka : Kp [] w2 wa := by rw [hwa]; exact (Kp.refl _ _).alloc _
    have kb : Kp [] wa wb := by rw [hwb]; exact (Kp.refl _ _).alloc _
    have kc : Kp [] wb wc := by rw [hwc]; exact (Kp.refl _ _).alloc _
    have kd : Kp [] wc w3 := by rw [hw3]; exact (Kp.refl _ _).alloc _
    have ma : Mt wa mb 5001 (fun _ => false) := by rw [hwa, hmb]; exact Mt.made w2 5001
    have mbb : Mt wb (mb + 1) 5001 (fun _ => false) := by rw [hwb, ← ea]; exact Mt.made wa 5001
    have rc : wc.heap[mb + 1 + 1]? = some (.cells #[.map (some mb)] 29 (0, 0)) := by rw [hwc, ← eb]; exact heap_alloc_new _ _
    have rd : w3.heap[mb + 1 + 1 + 1]? = some (.cells #[.map (some (mb + 1))] 29 (0, 0)) := by rw [hw3, ← ec]; exact heap_alloc_new _ _
    have k23 : Kp [] w2 w3 := ((ka.trans kb).trans kc).trans kd
    have tl1 : TLm (mb + 1 + 1) mb (fun _ => false) w3 := ⟨kd.row (by simp) rc, ma.keep ((kb.trans kc).trans kd) (by simp)⟩
    have tl2 : TLm (mb + 1 + 1 + 1) (mb + 1) (fun _ => false) w3 := ⟨rd, mbb.keep (kc.trans kd) (by simp)⟩
    have HPl200 : P.length ≤ 200 := by rw [HG.out.2.2.2, ← HLM.out.1]; omega
    have KW2 := HKA.out.trans HKB.out
    have hm1' := hm1.on HKB.out
    have HNm := HF.out.keep KW2
    have HMk := Lib.hid (fun (wq : World) (ao5 : Option Addr) (c5 : Nat) (kq : Kp [] w3 wq) (hr : Gx.Rw 3 1 w3.heap.size wq (.slice ao5 M c5) M (plV P fr M)) => room_mark (rm := ra) (g := 9) HG.out.1 HG.out.2.1 hn2 hT4 hoT ha1 ha2 HLM.out.2 hfl (by omega) (hw1.on k23) (tab_keep htab2 k23 (by simp)) hr1 hr2 (by omega) tl1 (by omega) (fun x w => by kernel_rfl) (fun tl w a h ha => rooms_put1 _ _ tl w a h ha) kq hr)
    have HPc := Lib.hid (fun (wq : World) (kq : Kp [] w3 wq) => (by
      have h := places_any (cap := cap2) ((hm1'.on k23).on kq) HPl200 (l := fr) (by rw [← HLM.out.2]; exact hfl) ((HNm.keep k23).keep kq)
      rw [← HLM.out.2] at h
      exact h : Calls Tryz.prog 11 #[.pointer (some ⟨hb, 0, none⟩), .slice ao2 M cap2] wq fun e w' => ∃ ao' c, e = .returned (.slice ao' M c) ∧ Gx.Rw 3 1 wq.heap.size w' (.slice ao' M c) M (plV P fr M) ∧ Kp [] wq w'))
    obtain ⟨c0, d0, d1, d2, d3⟩ := hsf1.cells
    have HC : Hid (∀ wx, Kp [B + 1, B, mb + 1 + 1, mb] w3 wx → wx.cell? ⟨hb, 0, none⟩ = some (.pointer (some ⟨sp, 0, none⟩)) ∧ wx.cell? ⟨sp, 0, none⟩ = some (.pointer (some ⟨B + 1, 0, none⟩)) ∧ wx.cell? ⟨sp, 1, none⟩ = some (.int .i64 T) ∧ wx.cell? ⟨sp, 2, none⟩ = some (.int .i64 0) ∧ wx.cell? ⟨sp, 3, none⟩ = some (.int .i64 n) ∧ Kp [B + 1, B, mb + 1 + 1, mb] w3 wx) := Lib.hid fun wx k => by
      obtain ⟨a, b, e1, e2⟩ := hsf1.ty
      obtain ⟨f, f1, _⟩ := hsf1.st
      have q1 := lt_of_block hsf1.hx
      have q2 : sp < w2.heap.size := lt_of_block f1
      have n1 : hb ∉ [B + 1, B, mb + 1 + 1, mb] := fun e => by
        have hx := hsf1.hx
        simp at e
        rcases e with e | e | e | e
        · rw [e, e1] at hx; simp at hx
        · rw [e, e2] at hx; simp at hx
        · omega
        · omega
      have n2 : sp ∉ [B + 1, B, mb + 1 + 1, mb] := fun e => by
        unfold S13 at f1
        simp at e
        rcases e with e | e | e | e
        · rw [e, e1] at f1; simp at f1
        · rw [e, e2] at f1; simp at f1
        · omega
        · omega
      exact ⟨kp_cell k n1 (kp_cell k23 (by simp) c0), kp_cell k n2 (kp_cell k23 (by simp) d0), kp_cell k n2 (kp_cell k23 (by simp) d1), kp_cell k n2 (kp_cell k23 (by simp) d2), kp_cell k n2 (kp_cell k23 (by simp) d3), k⟩
    have H3 := Lib.hid (And.intro k23 (And.intro tl1 (And.intro tl2 (And.intro hmb (And.intro hBB (And.intro hrB2 (And.intro hB (And.intro hB2 (show B2 + 1 < mb by omega)))))))))
    have HS1 := Lib.hid (And.intro hsf1 (And.intro hm1' (And.intro hw1 (And.intro hr1 hr2))))
    have HS2 := Lib.hid (And.intro hsf2 (And.intro hm2 (And.intro hw2 (And.intro hr21 (And.intro hr22 (And.intro htab2 (show t20 ≤ 200000 by omega)))))))
    have HNm2 := Lib.hid HNm
    have HPL := Lib.hid HPl200
    have c0 := kp_cell k23 (by simp) c0
    have d0 := kp_cell k23 (by simp) d0
    have d1 := kp_cell k23 (by simp) d1
    have d2 := kp_cell k23 (by simp) d2
    have d3 := kp_cell k23 (by simp) d3
    clear ht1 ht2 hm1 hm2 ht0 ht20 hw hw2 hw1 htab htab2 hr1 hr2 hr21 hr22 hl1 hl2 hl21 hl22 hlen hsf1 hsf2 hB hB2 hBB hrB2 ea eb ec ka kb kc kd ma mbb rc rd k23 tl1 tl2 HPl200 KW2 hm1' HNm HM1 HM2
    rw [← hmb, ← hwa, ← hwb, ← hwc, ← hw3]
    clear hmb hwa hwb hwc hw3
    go_cut [22] (fun v we => v = .int .i64 0 ∧ Hid ((∃ (X : Mkg) (t' : Nat), (∀ x, X.M x = true ↔ Rc (gpOf O S.H o true) (plR P fr) x) ∧ (∀ y, X.tl y = true ↔ Tld (gpOf O S.H o true) (plR P fr) y) ∧ Hw T 0 n (B + 1) B (markL S.H X.M) t' we ∧ TLm (mb + 1 + 1) mb X.tl we) ∧ Kp [B + 1, B, mb + 1 + 1, mb] w3 we))
    case first =>
      rename_i aB aC aD aF aH aI aJ aK aM aO aQ aR aT aU aV aX
      revert HMd w n T o0 ra rb hn1 hn2 hT1 hT4 ho ha1 ha2 hrb1 hrb2 ao ao2 cap cap2 l fr HF L hl M hfl HLM o hoT S P O V F HG hT0' hca hcb HT0 aB hM60 aC aD aF aH w1 sp hb qs t HKA w2 sp2 hb2 qs2 t2 HKB aI aJ t0 t20 B B2 mb wa wb wc w3 HMk HPc aK aM aO aQ aR HC H3 HS1 HS2 HNm2 HPL c0 d0 d1 d2 d3 aT aU aV aX
      exact @Hid.out _ g9
    case rest =>
      obtain ⟨rfl, HK4⟩ := hcut
      obtain ⟨w4, rfl⟩ : ∃ w4 : World, w4 = wc := ⟨_, rfl⟩
      have z3 := H3.out
      obtain ⟨k23, tl1, tl2, hmb, hBB, hrB2, hB, hB2, hl21⟩ := z3
      have k34 := HK4.out.2
      obtain ⟨X1, t1', hX1, htl1, hwq1, tlq1⟩ := HK4.out.1
      have k24 : Kp [B + 1, B, mb + 1 + 1, mb] w2 w4 := (k23.mono (by simp)).trans k34
      obtain ⟨hsf2, hm2, hw2, hr21, hr22, htab2, ht2⟩ := HS2.out
      obtain ⟨hsf1, hm1', hw1, hr1, hr2⟩ := HS1.out
      have hrn : 0 ∉ [B + 1, B, mb + 1 + 1, mb] := by simp; omega
      have htab4 := tab_keep htab2 k24 hrn
      have hw24 : Hw T 0 n (B2 + 1) B2 S.H t20 w4 := hw2.keep k24 (by simp; omega) (by simp; omega)
      have tl24 : TLm (mb + 1 + 1 + 1) (mb + 1) (fun _ => false) w4 := tl2.keep k34 (by simp; omega) (by simp; omega)
      have hsf24 : Hsf B2 T n sp2 hb2 P w4 := hsf2.keep2 k24 (by
        obtain ⟨a, b, e1, e2⟩ := hsf1.ty
        intro g hg
        simp at hg
        rcases hg with e | e | e | e
        · exact .inl ⟨a, by rw [e]; exact e1⟩
        · exact .inr (.inl ⟨b, by rw [e]; exact e2⟩)
        · exact .inr (.inr (by omega))
        · exact .inr (.inr (by omega))) hrn hw24.ty
      have hsf14 : Hsf B T n sp hb P w4 := hsf1.keep k24 (by
        intro g hg
        simp at hg
        rcases hg with e | e | e | e
        · exact .inl e
        · exact .inr (.inl e)
        · exact .inr (.inr (by omega))
        · exact .inr (.inr (by omega))) hwq1.ty
      have hNm4 : Nms w4 ao2 fr := fun j hj => by
        obtain ⟨g, q, e, hc, hb255⟩ := HF.out j hj
        have hgw : g < w.heap.size := block_lt_of_cell hc
        have hc2 := kp_cell (HKA.out.trans HKB.out) (by simp) hc
        have z1 := HKA.out.size
        have z2 := HKB.out.size
        have hgB : g < B := by rw [hB]; exact hgw
        have hgm : g ∉ [B + 1, B, mb + 1 + 1, mb] := fun hm => by
          simp at hm
          rcases hm with e | e | e | e <;> omega
        exact ⟨g, q, e, kp_cell k24 hgm hc2, hb255⟩
      have HMk2 := Lib.hid (fun (wq : World) (ao5 : Option Addr) (c5 : Nat) (kq : Kp [] w4 wq) (hr : Gx.Rw 3 1 w4.heap.size wq (.slice ao5 M c5) M (plV P fr M)) => room_mark (rm := rb) (g := 12) HG.out.1 HG.out.2.1 hn2 hT4 hoT hrb1 hrb2 HLM.out.2 hfl ht2 hw24 htab4 hr21 hr22 (by omega) tl24 (by omega) (fun x w => by kernel_rfl) (fun tl w a h ha => rooms_put2 _ _ tl w a h ha) kq hr)
      have HPc2 := Lib.hid (fun (wq : World) (kq : Kp [] w4 wq) => (by
        have h := places_sf (cap := cap2) (hsf24.keep kq (by simp) (hw24.on kq).ty) HPL.out (l := fr) (by rw [← HLM.out.2]; exact hfl) (hNm4.keep kq)
        rw [← HLM.out.2] at h
        exact h : Calls Tryz.prog 11 #[.pointer (some ⟨hb2, 0, none⟩), .slice ao2 M cap2] wq fun e w' => ∃ ao' c, e = .returned (.slice ao' M c) ∧ Gx.Rw 3 1 wq.heap.size w' (.slice ao' M c) M (plV P fr M) ∧ Kp [] wq w'))
      obtain ⟨x0, y0, y1, y2, y3⟩ := hsf24.cells
      have HC2 : Hid (∀ wx, Kp [B2 + 1, B2, mb + 1 + 1 + 1, mb + 1] w4 wx → wx.cell? ⟨hb2, 0, none⟩ = some (.pointer (some ⟨sp2, 0, none⟩)) ∧ wx.cell? ⟨sp2, 0, none⟩ = some (.pointer (some ⟨B2 + 1, 0, none⟩)) ∧ wx.cell? ⟨sp2, 1, none⟩ = some (.int .i64 T) ∧ wx.cell? ⟨sp2, 2, none⟩ = some (.int .i64 0) ∧ wx.cell? ⟨sp2, 3, none⟩ = some (.int .i64 n) ∧ Kp [B2 + 1, B2, mb + 1 + 1 + 1, mb + 1] w4 wx) := Lib.hid fun wx k => by
        obtain ⟨a, b, e1, e2⟩ := hsf24.ty
        obtain ⟨f, f1, _⟩ := hsf24.st
        obtain ⟨f', f1', _⟩ := hsf2.st
        have q1 := lt_of_block hsf2.hx
        have q2 : sp2 < w2.heap.size := lt_of_block f1'
        have n1 : hb2 ∉ [B2 + 1, B2, mb + 1 + 1 + 1, mb + 1] := fun e => by
          have hx := hsf24.hx
          simp at e
          rcases e with e | e | e | e
          · rw [e, e1] at hx; simp at hx
          · rw [e, e2] at hx; simp at hx
          · omega
          · omega
        have n2 : sp2 ∉ [B2 + 1, B2, mb + 1 + 1 + 1, mb + 1] := fun e => by
          unfold S13 at f1
          simp at e
          rcases e with e | e | e | e
          · rw [e, e1] at f1; simp at f1
          · rw [e, e2] at f1; simp at f1
          · omega
          · omega
        exact ⟨kp_cell k n1 x0, kp_cell k n2 y0, kp_cell k n2 y1, kp_cell k n2 y2, kp_cell k n2 y3, k⟩
      have H4 := Lib.hid (And.intro k24 (And.intro hsf14 (And.intro hsf24 (And.intro hNm4 (And.intro htab4 (And.intro hX1 (And.intro htl1 (And.intro hwq1 tlq1))))))))
      have HSA := Lib.hid (And.intro hsf1 (And.intro hsf2 (And.intro k24 htab2)))
      have HMB := Lib.hid (And.intro hmb (And.intro hBB (And.intro hrB2 (And.intro hB (And.intro hB2 (And.intro hl21 (And.intro hr1 (And.intro hr2 (And.intro hr21 hr22)))))))))
      clear k23 tl1 tl2 hmb hBB hrB2 hB hB2 hl21 k34 k24 hsf2 hm2 hw2 hr21 hr22 htab2 ht2 hsf1 hm1' hw1 hr1 hr2 hrn htab4 hw24 tl24 hsf24 hsf14 hNm4 hX1 htl1 hwq1 tlq1 c0 d0 d1 d2 d3 HMk HPc HC HK4 H3 HS1 HS2
      go_wp2_with fail
      go_cut [23] (fun v we => v = .int .i64 0 ∧ Hid ((∃ (X : Mkg) (t' : Nat), (∀ x, X.M x = true ↔ Rc (gpOf O S.H o true) (plR P fr) x) ∧ (∀ y, X.tl y = true ↔ Tld (gpOf O S.H o true) (plR P fr) y) ∧ Hw T 0 n (B2 + 1) B2 (markL S.H X.M) t' we ∧ TLm (mb + 1 + 1 + 1) (mb + 1) X.tl we) ∧ Kp [B2 + 1, B2, mb + 1 + 1 + 1, mb + 1] w4 we))
      case first =>
        rename_i aB aC aD aF aH aI aJ aK aM aO aQ
        revert HMd w n T o0 ra rb hn1 hn2 hT1 hT4 ho ha1 ha2 hrb1 hrb2 ao ao2 cap cap2 l fr HF L hl M hfl HLM o hoT S P O V F HG hT0' hca hcb HT0 aB hM60 aC aD aF aH w1 sp hb qs t HKA w2 sp2 hb2 qs2 t2 HKB t0 t20 B B2 mb wa wb wc w3 c0 d0 d1 d2 d3 HNm2 HPL u39 u40 u41 u42 u43 u44 u45 u46 u47 u48 u49 u50 u51 u52 u53 u54 u55 u56 u57 u58 u59 u60 u61 u62 u63 u64 u65 u66 u67 u68 u69 u70 u71 u72 u73 u74 u75 u76 u77 u78 u79 u80 u81 u82 u83 u84 u85 u86 u87 u88 u89 u90 u91 u92 u93 u94 u95 u96 u97 u98 u99 u100 u101 u102 u103 u104 u105 u106 u107 u108 u109 u110 u111 u112 u113 u114 u115 u116 u117 u118 u119 u120 u121 u122 u123 u124 u125 u126 u127 u128 u129 u130 u131 u132 u133 u134 u135 u136 u137 u138 u139 u140 u141 u142 u143 u144 u145 u146 u147 u148 u149 u150 u151 u152 u153 u154 u155 u156 u157 u158 u159 u160 u161 u162 u163 u164 u165 u166 u167 u168 u169 u170 u171 u172 u173 u174 u175 u176 u177 u178 u179 u180 u181 u182 u183 u184 u185 u186 u187 u188 u189 u190 u191 u192 u193 u194 u195 u196 u197 u198 u199 u200 u201 u202 u203 u204 u205 u206 u207 u208 u209 u210 u211 u212 u213 u214 u215 u216 u217 u218 u219 u220 u221 u222 u223 u224 u225 u226 u227 u228 u229 u230 u231 u232 u233 u234 u235 u236 u237 u238 u239 u240 u241 u242 u243 u244 u245 u246 u247 u248 u249 u250 u251 u252 u253 u254 u255 u256 u257 u258 u259 u260 u261 u262 u263 u264 u265 u266 u267 u268 u269 u270 u271 u272 u273 u274 u275 u276 u277 u278 u279 u280 u281 u282 u283 u284 u285 u286 u287 u288 u289 u290 u291 u292 u293 u294 u295 u296 u297 u298 u299 u300 u301 u302 u303 u304 u305 u306 u307 u308 u309 u310 u311 u312 u313 u314 u315 u316 u317 u318 u319 u320 u321 u322 u323 u324 u325 w4 X1 t1' HMk2 HPc2 x0 y0 y1 y2 y3 HC2 H4 HSA HMB aI aJ aK aM aO aQ
        exact @Hid.out _ g10
      case rest =>
        obtain ⟨rfl, HK5⟩ := hcut
        obtain ⟨w5, rfl⟩ : ∃ w5 : World, w5 = wc := ⟨_, rfl⟩
        obtain ⟨k24, hsf14, hsf24, hNm4, htab4, hX1, htl1, hwq1, tlq1⟩ := H4.out
        obtain ⟨⟨X2, t2', hX2, htl2, hwq2, tlq2⟩, k45⟩ := HK5.out
        obtain ⟨hmb, hBB, hrB2, hB, hB2, hl21, hr1, hr2, hr21, hr22⟩ := HMB.out
        have eM : X2.M = X1.M := funext fun z => Bool.eq_iff_iff.2 ((hX2 z).trans (hX1 z).symm)
        have eT : X2.tl = X1.tl := funext fun z => Bool.eq_iff_iff.2 ((htl2 z).trans (htl1 z).symm)
        rw [eM] at hwq2
        rw [eT] at tlq2
        obtain ⟨Mf, hMf⟩ : ∃ Mf, Mf = X1.M := ⟨_, rfl⟩
        obtain ⟨tl, htl⟩ : ∃ tl, tl = X1.tl := ⟨_, rfl⟩
        rw [← hMf] at hwq1 hwq2 hX1
        rw [← htl] at tlq1 tlq2 htl1
        have hw15 : Hw T 0 n (B + 1) B (markL S.H Mf) t1' w5 := hwq1.keep k45 (by simp; omega) (by simp; omega)
        have tl15 : TLm (mb + 1 + 1) mb tl w5 := tlq1.keep k45 (by simp; omega) (by simp; omega)
        obtain ⟨hsf1, hsf2, -, htab2⟩ := HSA.out
        have k25 : Kp [B + 1, B, mb + 1 + 1, mb, B2 + 1, B2, mb + 1 + 1 + 1, mb + 1] w2 w5 := (k24.mono (by simp) : Kp [B + 1, B, mb + 1 + 1, mb, B2 + 1, B2, mb + 1 + 1 + 1, mb + 1] w2 w4).trans (k45.mono (by simp))
        have hrn5 : 0 ∉ [B + 1, B, mb + 1 + 1, mb, B2 + 1, B2, mb + 1 + 1 + 1, mb + 1] := by simp; omega
        have hS5 : ∀ g ∈ [B + 1, B, mb + 1 + 1, mb, B2 + 1, B2, mb + 1 + 1 + 1, mb + 1], (∃ a, w2.heap[g]? = some (.cells a 99 (0, 0))) ∨ (∃ a, w2.heap[g]? = some (.cells a 57 (0, 0))) ∨ w2.heap.size ≤ g := by
          obtain ⟨a, b, e1, e2⟩ := hsf1.ty
          obtain ⟨a', b', e1', e2'⟩ := hsf2.ty
          intro g hg
          simp at hg
          rcases hg with e | e | e | e | e | e | e | e
          · exact .inl ⟨a, by rw [e]; exact e1⟩
          · exact .inr (.inl ⟨b, by rw [e]; exact e2⟩)
          · exact .inr (.inr (by omega))
          · exact .inr (.inr (by omega))
          · exact .inl ⟨a', by rw [e]; exact e1'⟩
          · exact .inr (.inl ⟨b', by rw [e]; exact e2'⟩)
          · exact .inr (.inr (by omega))
          · exact .inr (.inr (by omega))
        have hsf15 := hsf1.keep2 k25 hS5 hrn5 hw15.ty
        have hsf25 := hsf2.keep2 k25 hS5 hrn5 hwq2.ty
        have htab5 := tab_keep htab2 k25 hrn5
        have hNm5 : Nms w5 ao2 fr := fun j hj => by
          obtain ⟨g, q, e, hc, hb255⟩ := HF.out j hj
          have hgw : g < w.heap.size := block_lt_of_cell hc
          have hc2 := kp_cell (HKA.out.trans HKB.out) (by simp) hc
          have z1 := HKA.out.size
          have z2 := HKB.out.size
          have hgB : g < B := by rw [hB]; exact hgw
          have hgm : g ∉ [B + 1, B, mb + 1 + 1, mb, B2 + 1, B2, mb + 1 + 1 + 1, mb + 1] := fun hm => by
            simp at hm
            rcases hm with e | e | e | e | e | e | e | e <;> omega
          exact ⟨g, q, e, kp_cell k25 hgm hc2, hb255⟩
        have KW5 : Kp [] w w5 := by
          have k02 := HKA.out.trans HKB.out
          refine ⟨k25.os.trans k02.os, k25.tape.trans k02.tape, k25.output.trans k02.output, Nat.le_trans k02.size k25.size, fun i hi hn => ?_⟩
          have hi2 := Nat.lt_of_lt_of_le hi k02.size
          refine (k25.block i hi2 ?_).trans (k02.block i hi hn)
          have z1 := HKA.out.size
          have z2 := HKB.out.size
          intro hm
          simp at hm
          rcases hm with e | e | e | e | e | e | e | e <;> omega
        obtain ⟨l1, har1⟩ := hw15.ar
        obtain ⟨l2, har2⟩ := hwq2.ar
        have hlen := HG.out.1.hp.len
        obtain ⟨N, hN⟩ : ∃ N, N = S.H.length := ⟨_, rfl⟩
        have hml : (markL S.H Mf).length = N := by rw [markL_len, hN]
        have HAl1 : Hid (∀ wq, Kp [] w5 wq → Calls Tryz.prog 13 #[.pointer (some ⟨B + 1, 0, none⟩)] wq fun e w' => e = .returned (.slice (some ⟨wq.heap.size, 0, none⟩) N N) ∧ w'.heap[wq.heap.size]? = some (.cells (u64s (markL S.H Mf)) 57 (0, 0)) ∧ Kp [] wq w') := Lib.hid fun wq kq => by
          have h := all_any wq (B + 1) B _ (har1.keep kq (by simp) (by simp)) (by show 1 ≤ (markL S.H Mf).length; omega) (hw15.top)
          rw [show (St.mk (markL S.H Mf) t1' l1).ws.length = N from hml] at h
          exact h
        have HAl2 : Hid (∀ wq, Kp [] w5 wq → Calls Tryz.prog 13 #[.pointer (some ⟨B2 + 1, 0, none⟩)] wq fun e w' => e = .returned (.slice (some ⟨wq.heap.size, 0, none⟩) N N) ∧ w'.heap[wq.heap.size]? = some (.cells (u64s (markL S.H Mf)) 57 (0, 0)) ∧ Kp [] wq w') := Lib.hid fun wq kq => by
          have h := all_any wq (B2 + 1) B2 _ (har2.keep kq (by simp) (by simp)) (by show 1 ≤ (markL S.H Mf).length; omega) (hwq2.top)
          rw [show (St.mk (markL S.H Mf) t2' l2).ws.length = N from hml] at h
          exact h
        obtain ⟨c0, d0, -, -, -⟩ := hsf15.cells
        obtain ⟨c20, d20, -, -, -⟩ := hsf25.cells
        have HC5 : Hid (∀ wx, Kp [] w5 wx → wx.cell? ⟨hb, 0, none⟩ = some (.pointer (some ⟨sp, 0, none⟩)) ∧ wx.cell? ⟨sp, 0, none⟩ = some (.pointer (some ⟨B + 1, 0, none⟩)) ∧ wx.cell? ⟨hb2, 0, none⟩ = some (.pointer (some ⟨sp2, 0, none⟩)) ∧ wx.cell? ⟨sp2, 0, none⟩ = some (.pointer (some ⟨B2 + 1, 0, none⟩)) ∧ Kp [] w5 wx) := Lib.hid fun wx k => ⟨kp_cell k (by simp) c0, kp_cell k (by simp) d0, kp_cell k (by simp) c20, kp_cell k (by simp) d20, k⟩
        have H5 := Lib.hid (And.intro hX1 (And.intro tl15 (And.intro tlq2 (And.intro hsf15 (And.intro htab5 (And.intro hNm5 (And.intro KW5 (And.intro hlen (And.intro hN hw15)))))))))
        clear k24 hsf14 hsf24 hNm4 htab4 hX1 htl1 hwq1 tlq1 hX2 htl2 hwq2 tlq2 k45 hmb hBB hrB2 hB hB2 hl21 hr1 hr2 hr21 hr22 eM eT hMf htl hw15 tl15 hsf1 hsf2 htab2 k25 hrn5 hS5 hsf15 hsf25 htab5 hNm5 KW5 har1 har2 hlen hml H4 HK5 HMk2 HPc2 HC2
        go_wp2_with fail
        go_cut [24, 25] (fun v24 v25 we => ∃ ga gb, v24 = .slice (some ⟨ga, 0, none⟩) N N ∧ v25 = .slice (some ⟨gb, 0, none⟩) N N ∧ Hid (Kp [] w5 we ∧ we.heap[ga]? = some (.cells (u64s (markL S.H Mf)) 57 (0, 0)) ∧ we.heap[gb]? = some (.cells (u64s (markL S.H Mf)) 57 (0, 0))))
        case first =>
          rename_i aB aC aD aF aH aI aJ aK aM aO aQ aR aT aU aV aX aY aZ bC bD bE bF bG bJ bM bP bQ bR bS bU bW bY bZ cI cJ cK cQ cW cY dD dE dF dG dH dJ dK dM dQ dU dX dY dZ eJ eK eQ eU eX eZ fA fC fD fF fG fH fJ fL fM fN fO fQ fR fU fW fX fY fZ gF gG gH gJ gK gL gM gN gU gV gW gX gY gZ iA iB iC iD iE iF iG iH iI iJ iK iL iM iN iP iQ iR iS iT iU iV iW iX iY iZ jA jB jC jD jF jG jH jI jJ jK jL jM jN jO jP jQ jR jS jT jU jV jW jX jY jZ kC kD kG kJ kL kM kQ kV kY kZ lD lE lG lH lO lP lQ lW lX lZ mE mF mI mJ mK mL mM mN mQ mR mU mW mX mY mZ nA nJ nQ nV nX nY nZ oB oC oD oE oG oH oJ oK oL oN oO oQ oR oV oW oX oY oZ pC pD pF pG pH pJ pK pO pP pQ pV pW pY pZ qA qC qD qE qF qH qI qJ qK qL qM qN qO qP qQ qU qV qW qX qY qZ rG rJ rK rM rQ rT rU rX rY rZ sJ sM sQ sV sZ tJ tQ tU tZ uA uB uC uD uE uF uG uH uI uJ uK uL uM uN uO uP uQ uR uU uV uW uX uY uZ vB vC vD vE vF vG vH vI vJ vK vM vN vO vP vQ vU vV vW vX vY vZ wD
          revert HMd w n T o0 ra rb hn1 hn2 hT1 hT4 ho ha1 ha2 hrb1 hrb2 ao ao2 cap cap2 l fr HF L hl M hfl HLM o hoT S P O V F HG hT0' hca hcb HT0 aB hM60 aC aD aF aH w1 sp hb qs t HKA w2 sp2 hb2 qs2 t2 HKB t0 t20 B B2 mb wa wb wc w3 aI aJ d1 d2 d3 HNm2 HPL aK aM aO aQ aR aT aU aV aX aY aZ bC bD bE bF bG bJ bM bP bQ bR bS bU bW bY bZ cI cJ cK cQ cW cY dD dE dF dG dH dJ dK dM dQ dU dX dY dZ eJ eK eQ eU eX eZ fA fC fD fF fG fH fJ fL fM fN fO fQ fR fU fW fX fY fZ gF gG gH gJ gK gL gM gN gU gV gW gX gY gZ iA iB iC iD iE iF iG iH iI iJ iK iL iM iN iP iQ iR iS iT iU iV iW iX iY iZ jA jB jC jD jF jG jH jI jJ jK jL jM jN jO jP jQ jR jS jT jU jV jW jX jY jZ kC kD kG kJ kL kM kQ kV kY kZ lD lE lG lH lO lP lQ lW lX lZ mE mF mI mJ mK mL mM mN mQ mR mU mW mX mY mZ nA nJ nQ nV nX nY nZ oB oC oD oE oG oH oJ oK oL oN oO oQ oR oV oW oX oY oZ pC pD pF pG pH pJ pK pO pP pQ pV pW pY pZ qA qC qD qE qF qH qI qJ qK qL qM qN qO qP qQ qU qV qW qX qY qZ rG rJ rK rM rQ rT rU rX rY rZ sJ sM sQ sV sZ tJ tQ tU tZ uA uB uC uD uE uF uG uH uI uJ uK uL uM uN uO uP uQ uR uU uV uW uX uY uZ vB vC vD vE vF vG vH vI vJ vK vM vN vO vP vQ vU w4 X1 t1' x0 y0 y1 y2 y3 HSA HMB u39 u40 u41 u42 u43 u44 u45 u46 u47 u48 u49 u50 u51 u52 u53 u54 u55 u56 u57 u58 u59 u60 u61 u62 u63 u64 u65 u66 u67 u68 u69 u70 u71 u72 u73 u74 u75 u76 u77 u78 u79 u80 u81 u82 u83 u84 u85 u86 u87 u88 u89 u90 u91 u92 u93 u94 u95 u96 u97 u98 u99 u100 u101 u102 u103 u104 u105 u106 u107 u108 u109 u110 u111 u112 u113 u114 u115 u116 u117 u118 u119 u120 u121 u122 u123 u124 u125 u126 u127 u128 u129 u130 u131 u132 u133 u134 u135 u136 u137 u138 u139 u140 u141 u142 u143 u144 u145 u146 u147 u148 u149 u150 u151 u152 u153 u154 u155 u156 u157 u158 u159 u160 u161 u162 u163 u164 u165 u166 u167 u168 u169 u170 u171 u172 u173 u174 u175 u176 u177 u178 u179 u180 u181 u182 u183 u184 u185 u186 u187 u188 u189 u190 u191 u192 u193 u194 u195 u196 u197 u198 u199 u200 u201 u202 u203 u204 u205 u206 u207 u208 u209 u210 u211 u212 u213 u214 u215 u216 u217 u218 u219 u220 u221 u222 u223 u224 u225 u226 u227 u228 u229 u230 u231 u232 u233 u234 u235 u236 u237 u238 u239 u240 u241 u242 u243 u244 u245 u246 u247 u248 u249 u250 u251 u252 u253 u254 u255 u256 u257 u258 u259 u260 u261 u262 u263 u264 u265 u266 u267 u268 u269 u270 u271 u272 u273 u274 u275 u276 u277 u278 u279 u280 u281 u282 u283 u284 u285 u286 u287 u288 u289 u290 u291 u292 u293 u294 u295 u296 u297 u298 u299 u300 u301 u302 u303 u304 u305 u306 u307 u308 u309 u310 u311 u312 u313 u314 u315 u316 u317 u318 u319 u320 u321 u322 u323 u324 u325 w5 X2 t2' Mf tl l1 l2 N hN HAl1 HAl2 c0 d0 c20 d20 HC5 H5 vV vW vX vY vZ wD
          exact @Hid.out _ g11
        case rest =>
          obtain ⟨ga, gb, rfl, rfl, HK6⟩ := hcut
          obtain ⟨w6, rfl⟩ : ∃ w6 : World, w6 = wc := ⟨_, rfl⟩
          have HTL : Hid (∀ wq, Kp [] w5 wq → wq.cell? ⟨mb + 1 + 1, 0, none⟩ = some (.map (some mb)) ∧ wq.cell? ⟨mb + 1 + 1 + 1, 0, none⟩ = some (.map (some (mb + 1))) ∧ (∀ i : Nat, i ≤ 100000 → (Instr.lookup 29 (.map (some mb)) (.int .i64 i) false).run Tryz.prog wq = .ok (.bool (tl i)) wq) ∧ (∀ i : Nat, i ≤ 100000 → (Instr.lookup 29 (.map (some (mb + 1))) (.int .i64 i) false).run Tryz.prog wq = .ok (.bool (tl i)) wq) ∧ (∀ ty, (Builtin.len_ #[29] ty #[.map (some mb)]).run Tryz.prog wq = .ok (.int .i64 ((List.range 5001).countP tl : Nat)) wq) ∧ (∀ ty, (Builtin.len_ #[29] ty #[.map (some (mb + 1))]).run Tryz.prog wq = .ok (.int .i64 ((List.range 5001).countP tl : Nat)) wq)) := Lib.hid fun wq kq => by
            have h1 := H5.out.2.1.keep kq (by simp) (by simp)
            have h2 := H5.out.2.2.1.keep kq (by simp) (by simp)
            exact ⟨(cell_of_row h1.1 0).trans rfl, (cell_of_row h2.1 0).trans rfl, fun i hi => h1.2.at hi, fun i hi => h2.2.at hi, fun ty => h1.2.len ty, fun ty => h2.2.len ty⟩
          obtain ⟨x1, x2, -, -, x5, x6⟩ := HTL.out w6 HK6.out.1
          have c06 := kp_cell HK6.out.1 (by simp) c0
          have hN1001 : N ≤ 1000 := by
            have := H5.out.2.2.2.2.2.2.2.1
            have := H5.out.2.2.2.2.2.2.2.2.1
            omega
          generalize (List.range 5001).countP tl = cnt at *
          clear c0 d0 c20 d20 HC5 HAl1 HAl2
          go_wp2_with fail
          go_loopg [26] N (fun gg v26 wr => ∃ i : Nat, i + gg = N ∧ v26 = .int .i64 i ∧ Hid (Kp [] w6 wr))
          case atStart => exact ⟨0, by omega, rfl, Lib.hid (Kp.refl _ _)⟩
          case round =>
            obtain ⟨i, hi, rfl, HR⟩ := hrel
            by_cases hlt : i < N
            · skip
              rename_i aB aC aD aF aH aI aJ aK aM aO aQ aR aT aU aV aX aY aZ bC bD bE bF bG bJ bM bP bQ bR bS bU bW bY bZ cI cJ cK cQ cW cY dD dE dF dG dH dJ dK dM dQ dU dX dY dZ eJ eK eQ eU eX eZ fA fC fD fF fG fH fJ fL fM fN fO fQ fR fU fW fX fY fZ gF gG gH gJ gK gL gM gN gU gV gW gX gY gZ iA iB iC iD iE iF iG iH iI iJ iK iL iM iN iP iQ iR iS iT iU iV iW iX iY iZ jA jB jC jD jF jG jH jI jJ jK jL jM jN jO jP jQ jR jS jT jU jV jW jX jY jZ kC kD kG kJ kL kM kQ kV kY kZ lD lE lG lH lO lP lQ lW lX lZ mE mF mI mJ mK mL mM mN mQ mR mU mW mX mY mZ nA nJ nQ nV nX nY nZ oB oC oD oE oG oH oJ oK oL oN oO oQ oR oV oW oX oY oZ pC pD pF pG pH pJ pK pO pP pQ pV pW pY pZ qA qC qD qE qF qH qI qJ qK qL qM qN qO qP qQ qU qV qW qX qY qZ rG rJ rK rM rQ rT rU rX rY rZ sJ sM sQ sV sZ tJ tQ tU tZ uA uB uC uD uE uF uG uH uI uJ uK uL uM uN uO uP uQ uR uU uV uW uX uY uZ vB vC vD vE vF vG vH vI vJ vK vM vN vO vP vQ vU vV vW vX vY vZ wD wE wG wH wL wM wN wQ wU wZ xC xE xG xJ xK xN xQ xS xU xV xX xY xZ yC yG yJ yK yN yP yQ yU yX yY zC zD zE zF zG zI zJ zK zM zN zO zP zQ zR zS zT zU zV zW zX zY zZ A9 G0 G9 I1 I4 I5 I6 I7 I8 I9 J0 J2 J3 J4 J7 J8 J9 N0 N3 N6 N7 N9 O0 O1 O2 O3 O4 O5 O6 O7 O8 O9 Q6 Q7 Q8 Q9 S4 S7 S8 T5 T6 T8 T9 U0 U1 U3 U4 U5 U6 U7 U8 U9 V1 V3 V4 V5 V6 V7 V8 V9 X8 X9 Y5 Y6 Y7 Y8 Y9 Z0 Z1 Z2 Z4 Z5 Z6 Z7 Z8 Z9 j8 j9 n8 o8 o9 aAA aAB aAC aAD aAE aAF aAG aAH aAI aAJ aAK aAL aAM aAN aAO aAP aAQ aAR aAS aAT aAU aAV aAW aAX aAY aAZ aBA aBB aBC aBD aBE aBF aBG aBH aBI aBJ aBK aBL aBM aBN aBO aBP aBQ aBR aBS aBT aBU aBV aBW aBX aBY aBZ aCA aCB aCC aCD aCE aCF aCG aCH aCI aCJ aCK aCL aCM aCN aCO aCP aCQ aCR aCS aCT aCU aCV aCW aCX aCY aCZ aDA aDB aDC aDD aDE aDF aDG aDH aDI aDJ aDK aDL aDM aDN aDO aDP aDQ aDR aDS aDT aDU aDV aDW aDX aDY aDZ aEA aEB aEC aED aEE aEF aEG aEH aEI aEJ aEK aEL aEM aEN aEO aEP aEQ aER aES aET aEU aEV aEW aEX aEY aEZ aFA aFB aFC aFD aFE aFF aFG aFH aFI aFJ aFK aFL aFM aFN aFO aFP aFQ aFR aFS aFT aFU aFV aFW aFX aFY aFZ aGA aGB aGC aGD aGE aGF aGG aGH aGI aGJ aGK aGL aGM aGN aGO aGP aGQ aGR
              revert HMd w n T o0 ra rb hn1 hn2 hT1 hT4 ho ha1 ha2 hrb1 hrb2 ao ao2 cap cap2 l fr HF L hl M hfl HLM o hoT S P O V F HG hT0' hca hcb HT0 aB hM60 aC aD aF aH w1 sp hb qs t HKA w2 sp2 hb2 qs2 t2 HKB t0 t20 B B2 mb wa wb wc w3 c0 d0 d1 d2 d3 HNm2 HPL aI aJ aK aM aO aQ aR aT aU aV aX aY aZ bC bD bE bF bG bJ bM bP bQ bR bS bU bW bY bZ cI cJ cK cQ cW cY dD dE dF dG dH dJ dK dM dQ dU dX dY dZ eJ eK eQ eU eX eZ fA fC fD fF fG fH fJ fL fM fN fO fQ fR fU fW fX fY fZ gF gG gH gJ gK gL gM gN gU gV gW gX gY gZ iA iB iC iD iE iF iG iH iI iJ iK iL iM iN iP iQ iR iS iT iU iV iW iX iY iZ jA jB jC jD jF jG jH jI jJ jK jL jM jN jO jP jQ jR jS jT jU jV jW jX jY jZ kC kD kG kJ kL kM kQ kV kY kZ lD lE lG lH lO lP lQ lW lX lZ mE mF mI mJ mK mL mM mN mQ mR mU mW mX mY mZ nA nJ nQ nV nX nY nZ oB oC oD oE oG oH oJ oK oL oN oO oQ oR oV oW oX oY oZ pC pD pF pG pH pJ pK pO pP pQ pV pW pY pZ qA qC qD qE qF qH qI qJ qK qL qM qN qO qP qQ qU qV qW qX qY qZ rG rJ rK rM rQ rT rU rX rY rZ sJ sM sQ sV sZ tJ tQ tU tZ uA uB uC uD uE uF uG uH uI uJ uK uL uM uN uO uP uQ uR uU uV uW uX uY uZ vB vC vD vE vF vG vH vI vJ vK vM vN vO vP w4 X1 t1' x0 y0 y1 y2 y3 HSA HMB vQ vU vV vW vX vY vZ wD wE wG wH wL wM wN wQ wU wZ xC xE xG xJ xK xN xQ xS xU xV xX xY xZ yC yG yJ yK yN yP yQ yU yX yY zC zD zE zF zG zI zJ zK zM zN zO zP zQ zR zS zT zU zV zW zX zY zZ A9 G0 G9 I1 I4 I5 I6 I7 I8 I9 J0 J2 J3 J4 J7 J8 J9 N0 N3 N6 N7 N9 O0 O1 O2 O3 O4 O5 O6 O7 O8 O9 Q6 Q7 Q8 Q9 S4 S7 S8 T5 T6 T8 T9 U0 U1 U3 U4 U5 U6 U7 U8 U9 V1 V3 V4 V5 V6 V7 V8 V9 X8 X9 Y5 Y6 Y7 Y8 Y9 Z0 Z1 Z2 Z4 Z5 Z6 Z7 Z8 Z9 j8 j9 n8 o8 o9 aAA aAB aAC aAD aAE aAF aAG aAH aAI aAJ aAK aAL aAM aAN aAO aAP aAQ aAR aAS aAT aAU aAV aAW aAX aAY aAZ aBA aBB aBC aBD aBE aBF aBG aBH aBI aBJ aBK aBL aBM aBN aBO aBP aBQ aBR aBS aBT aBU aBV aBW aBX aBY aBZ aCA aCB aCC aCD aCE aCF aCG aCH aCI aCJ aCK aCL aCM aCN aCO aCP aCQ aCR aCS aCT aCU aCV aCW aCX aCY aCZ aDA aDB aDC aDD aDE aDF aDG aDH aDI aDJ aDK aDL aDM aDN aDO aDP aDQ aDR aDS aDT aDU aDV aDW aDX aDY aDZ aEA aEB aEC aED aEE aEF aEG aEH aEI aEJ aEK aEL aEM aEN aEO aEP aEQ aER aES aET aEU aEV aEW aEX aEY aEZ aFA aFB aFC aFD aFE aFF aFG aFH aFI aFJ aFK aFL aFM aFN w5 X2 t2' Mf tl l1 l2 N hN H5 u39 u40 u41 u42 u43 u44 u45 u46 u47 u48 u49 u50 u51 u52 u53 u54 u55 u56 u57 u58 u59 u60 u61 u62 u63 u64 u65 u66 u67 u68 u69 u70 u71 u72 u73 u74 u75 u76 u77 u78 u79 u80 u81 u82 u83 u84 u85 u86 u87 u88 u89 u90 u91 u92 u93 u94 u95 u96 u97 u98 u99 u100 u101 u102 u103 u104 u105 u106 u107 u108 u109 u110 u111 u112 u113 u114 u115 u116 u117 u118 u119 u120 u121 u122 u123 u124 u125 u126 u127 u128 u129 u130 u131 u132 u133 u134 u135 u136 u137 u138 u139 u140 u141 u142 u143 u144 u145 u146 u147 u148 u149 u150 u151 u152 u153 u154 u155 u156 u157 u158 u159 u160 u161 u162 u163 u164 u165 u166 u167 u168 u169 u170 u171 u172 u173 aFO aFP aFQ aFR aFS aFT aFU aFV aFW aFX aFY aFZ aGA aGB aGC aGD aGE aGF aGG aGH aGI aGJ aGK aGL u198 u199 u200 u201 u202 u203 u204 u205 u206 u207 u208 u209 u210 u211 u212 u213 u214 u215 u216 u217 u218 u219 u220 u221 u222 u223 u224 u225 u226 u227 u228 u229 u230 u231 u232 u233 u234 u235 u236 u237 u238 u239 u240 u241 u242 u243 u244 u245 u246 u247 u248 u249 u250 u251 u252 u253 u254 u255 u256 u257 u258 u259 u260 u261 u262 u263 u264 u265 u266 u267 u268 u269 u270 u271 u272 u273 u274 u275 u276 u277 u278 u279 u280 u281 u282 u283 u284 u285 u286 u287 u288 u289 u290 u291 u292 u293 u294 u295 u296 u297 u298 u299 u300 u301 u302 u303 u304 u305 u306 u307 u308 u309 u310 u311 u312 u313 u314 u315 u316 u317 u318 u319 u320 u321 u322 u323 u324 u325 ga gb w6 HK6 x1 x2 c06 hN1001 cnt HTL x5 x6 aGM aGN gk wr u14 u174 u175 u176 u177 u178 u179 u180 u181 u182 u183 u184 u185 u186 u187 u188 u189 u190 u191 u192 u193 u194 u195 u196 u197 aGO aGP aGQ aGR i hi HR hlt
              exact @Hid.out _ gL1
            · skip
              have ei : i = N := by omega
              have hkr := HK6.out.1.trans HR.out
              have hmk := @run_makeMap Tryz.prog
              obtain ⟨wl, hwl⟩ : ∃ wl, wl = wr.alloc (.map #[] 0) := ⟨_, rfl⟩
              obtain ⟨lb, hlb⟩ : ∃ lb, lb = wr.heap.size := ⟨_, rfl⟩
              have kl : Kp [] wr wl := by rw [hwl]; exact (Kp.refl _ _).alloc _
              have el : wl.heap.size = lb + 1 := by rw [hwl, World.size_alloc, hlb]
              have ml : Mt wl lb 5001 (fun _ => false) := by rw [hwl, hlb]; exact Mt.made wr 5001
              have k6l := HR.out.trans kl
              have k5l := hkr.trans kl
              have hPc := places_sf (cap := cap2) (H5.out.2.2.2.1.keep k5l (by simp) (H5.out.2.2.2.2.2.2.2.2.2.on k5l).ty) HPL.out (l := fr) (by rw [← HLM.out.2]; exact hfl) (H5.out.2.2.2.2.2.1.keep k5l)
              rw [← HLM.out.2] at hPc
              have HPc := Lib.hid hPc
              have hl6 : w6.heap.size ≤ lb := by rw [hlb]; exact HR.out.size
              have HL := Lib.hid (And.intro k6l (And.intro ml (And.intro el hl6)))
              clear hkr kl el ml k6l k5l hPc hl6 HR x5 x6
              go_wp2_with fail
              rw [← hlb, ← hwl]
              clear hmk hlb hwl ei hlt hi
              refine HPc.out.mono ?_
              rintro e w7 ⟨ao7, c7, rfl, hrw7, k7⟩
              have HRc := Lib.hid (plR_cells HG.out.1 HG.out.2.1 HLM.out.2 (rw_low hrw7 (Nat.le_refl _)))
              have HRl : Hid ((plR P fr).length = M) := Lib.hid (plR_len.trans HLM.out.2.symm)
              have k67 : Kp [] w6 w7 := HL.out.1.trans k7
              have m7 : Mt w7 lb 5001 (fun _ => false) := HL.out.2.1.keep k7 (by simp)
              have H7 := Lib.hid (And.intro k67 m7)
              clear hrw7 k7 k67 m7 HPc
              go_wp2_with fail
              go_loopg [29] M (fun gg v29 wr => ∃ (i : Nat) (f : Nat → Bool), i + gg = M ∧ v29 = .int .i64 i ∧ Hid (Mt wr lb 5001 f ∧ (∀ z, f z = true ↔ ∃ j, j < i ∧ z = (plR P fr).getD j 0) ∧ Kp [lb] w7 wr))
              case atStart => exact ⟨0, _, by omega, rfl, Lib.hid ⟨H7.out.2, fun z => by simp, Kp.refl _ _⟩⟩
              case round =>
                obtain ⟨i, f, hi, rfl, HR⟩ := hrel
                by_cases hlt : i < M
                · skip
                  rename_i aB aC aD aF aH aI aJ aK aM aO aQ aR aT aU aV aX aY aZ bC bD bE bF bG bJ bM bP bQ bR bS bU bW bY bZ cI cJ cK cQ cW cY dD dE dF dG dH dJ dK dM dQ dU dX dY dZ eJ eK eQ eU eX eZ fA fC fD fF fG fH fJ fL fM fN fO fQ fR fU fW fX fY fZ gF gG gH gJ gK gL gM gN gU gV gW gX gY gZ iA iB iC iD iE iF iG iH iI iJ iK iL iM iN iP iQ iR iS iT iU iV iW iX iY iZ jA jB jC jD jF jG jH jI jJ jK jL jM jN jO jP jQ jR jS jT jU jV jW jX jY jZ kC kD kG kJ kL kM kQ kV kY kZ lD lE lG lH lO lP lQ lW lX lZ mE mF mI mJ mK mL mM mN mQ mR mU mW mX mY mZ nA nJ nQ nV nX nY nZ oB oC oD oE oG oH oJ oK oL oN oO oQ oR oV oW oX oY oZ pC pD pF pG pH pJ pK pO pP pQ pV pW pY pZ qA qC qD qE qF qH qI qJ qK qL qM qN qO qP qQ qU qV qW qX qY qZ rG rJ rK rM rQ rT rU rX rY rZ sJ sM sQ sV sZ tJ tQ tU tZ uA uB uC uD uE uF uG uH uI uJ uK uL uM uN uO uP uQ uR uU uV uW uX uY uZ vB vC vD vE vF vG vH vI vJ vK vM vN vO vP vQ vU vV vW vX vY vZ wD wE wG wH wL wM wN wQ wU wZ xC xE xG xJ xK xN xQ xS xU xV xX xY xZ yC yG yJ yK yN yP yQ yU yX yY zC zD zE zF zG zI zJ zK zM zN zO zP zQ zR zS zT zU zV zW zX zY zZ A9 G0 G9 I1 I4 I5 I6 I7 I8 I9 J0 J2 J3 J4 J7 J8 J9 N0 N3 N6 N7 N9 O0 O1 O2 O3 O4 O5 O6 O7 O8 O9 Q6 Q7 Q8 Q9 S4 S7 S8 T5 T6 T8 T9 U0 U1 U3 U4 U5 U6 U7 U8 U9 V1 V3 V4 V5 V6 V7 V8 V9 X8 X9 Y5 Y6 Y7 Y8 Y9 Z0 Z1 Z2 Z4 Z5 Z6 Z7 Z8 Z9 j8 j9 n8 o8 o9 aAA aAB aAC aAD aAE aAF aAG aAH aAI aAJ aAK aAL aAM aAN aAO aAP aAQ aAR aAS aAT aAU aAV aAW aAX aAY aAZ aBA aBB aBC aBD aBE aBF aBG aBH aBI aBJ aBK aBL aBM aBN aBO aBP aBQ aBR aBS aBT aBU aBV aBW aBX aBY aBZ aCA aCB aCC aCD aCE aCF aCG aCH aCI aCJ aCK aCL aCM aCN aCO aCP aCQ aCR aCS aCT aCU aCV aCW aCX aCY aCZ aDA aDB aDC aDD aDE aDF aDG aDH aDI aDJ aDK aDL aDM aDN aDO aDP aDQ aDR aDS aDT aDU aDV aDW aDX aDY aDZ aEA aEB aEC aED aEE aEF aEG aEH aEI aEJ aEK aEL aEM aEN aEO aEP aEQ aER aES aET aEU aEV aEW aEX aEY aEZ aFA aFB aFC aFD aFE aFF aFG aFH aFI aFJ aFK aFL aFM aFN aFO aFP aFQ aFR aFS aFT aFU aFV aFW aFX aFY aFZ aGA aGB aGC aGD aGE aGF aGG aGH aGI aGJ aGK aGL aGM aGN aGO aGP aGQ aGR aGS aGT aGU aGV aGW aGX aGY aGZ aHA aHB aHC aHD aHE aHF aHG aHH aHI aHJ aHK aHL aHM
                  revert HMd w n T o0 ra rb hn1 hn2 hT1 hT4 ho ha1 ha2 hrb1 hrb2 ao ao2 cap cap2 l fr HF L hl M hfl HLM o hoT S P O V F HG hT0' hca hcb HT0 aB hM60 aC aD aF aH w1 sp hb qs t HKA w2 sp2 hb2 qs2 t2 HKB t0 t20 B B2 mb wa wb wc w3 c0 d0 d1 d2 d3 HNm2 HPL aI aJ aK aM aO aQ aR aT aU aV aX aY aZ bC bD bE bF bG bJ bM bP bQ bR bS bU bW bY bZ cI cJ cK cQ cW cY dD dE dF dG dH dJ dK dM dQ dU dX dY dZ eJ eK eQ eU eX eZ fA fC fD fF fG fH fJ fL fM fN fO fQ fR fU fW fX fY fZ gF gG gH gJ gK gL gM gN gU gV gW gX gY gZ iA iB iC iD iE iF iG iH iI iJ iK iL iM iN iP iQ iR iS iT iU iV iW iX iY iZ jA jB jC jD jF jG jH jI jJ jK jL jM jN jO jP jQ jR jS jT jU jV jW jX jY jZ kC kD kG kJ kL kM kQ kV kY kZ lD lE lG lH lO lP lQ lW lX lZ mE mF mI mJ mK mL mM mN mQ mR mU mW mX mY mZ nA nJ nQ nV nX nY nZ oB oC oD oE oG oH oJ oK oL oN oO oQ oR oV oW oX oY oZ pC pD pF pG pH pJ pK pO pP pQ pV pW pY pZ qA qC qD qE qF qH qI qJ qK qL qM qN qO qP qQ qU qV qW qX qY qZ rG rJ rK rM rQ rT rU rX rY rZ sJ sM sQ sV sZ tJ tQ tU tZ uA uB uC uD uE uF uG uH uI uJ uK uL uM uN uO uP uQ uR uU uV uW uX uY uZ vB vC vD vE vF vG vH vI vJ vK vM vN vO vP w4 X1 t1' x0 y0 y1 y2 y3 HSA HMB vQ vU vV vW vX vY vZ wD wE wG wH wL wM wN wQ wU wZ xC xE xG xJ xK xN xQ xS xU xV xX xY xZ yC yG yJ yK yN yP yQ yU yX yY zC zD zE zF zG zI zJ zK zM zN zO zP zQ zR zS zT zU zV zW zX zY zZ A9 G0 G9 I1 I4 I5 I6 I7 I8 I9 J0 J2 J3 J4 J7 J8 J9 N0 N3 N6 N7 N9 O0 O1 O2 O3 O4 O5 O6 O7 O8 O9 Q6 Q7 Q8 Q9 S4 S7 S8 T5 T6 T8 T9 U0 U1 U3 U4 U5 U6 U7 U8 U9 V1 V3 V4 V5 V6 V7 V8 V9 X8 X9 Y5 Y6 Y7 Y8 Y9 Z0 Z1 Z2 Z4 Z5 Z6 Z7 Z8 Z9 j8 j9 n8 o8 o9 aAA aAB aAC aAD aAE aAF aAG aAH aAI aAJ aAK aAL aAM aAN aAO aAP aAQ aAR aAS aAT aAU aAV aAW aAX aAY aAZ aBA aBB aBC aBD aBE aBF aBG aBH aBI aBJ aBK aBL aBM aBN aBO aBP aBQ aBR aBS aBT aBU aBV aBW aBX aBY aBZ aCA aCB aCC aCD aCE aCF aCG aCH aCI aCJ aCK aCL aCM aCN aCO aCP aCQ aCR aCS aCT aCU aCV aCW aCX aCY aCZ aDA aDB aDC aDD aDE aDF aDG aDH aDI aDJ aDK aDL aDM aDN aDO aDP aDQ aDR aDS aDT aDU aDV aDW aDX aDY aDZ aEA aEB aEC aED aEE aEF aEG aEH aEI aEJ aEK aEL aEM aEN aEO aEP aEQ aER aES aET aEU aEV aEW aEX aEY aEZ aFA aFB aFC aFD aFE aFF aFG aFH aFI aFJ aFK aFL aFM aFN w5 X2 t2' Mf tl l1 l2 N hN H5 u39 u40 u41 u42 u43 u44 u45 u46 u47 u48 u49 u50 u51 u52 u53 u54 u55 u56 u57 u58 u59 u60 u61 u62 u63 u64 u65 u66 u67 u68 u69 u70 u71 u72 u73 u74 u75 u76 u77 u78 u79 u80 u81 u82 u83 u84 u85 u86 u87 u88 u89 u90 u91 u92 u93 u94 u95 u96 u97 u98 u99 u100 u101 u102 u103 u104 u105 u106 u107 u108 u109 u110 u111 u112 u113 u114 u115 u116 u117 u118 u119 u120 u121 u122 u123 u124 u125 u126 u127 u128 u129 u130 u131 u132 u133 u134 u135 u136 u137 u138 u139 u140 u141 u142 u143 u144 u145 u146 u147 u148 u149 u150 u151 u152 u153 u154 u155 u156 u157 u158 u159 u160 u161 u162 u163 u164 u165 u166 u167 u168 u169 u170 u171 u172 u173 aFO aFP aFQ aFR aFS aFT aFU aFV aFW aFX aFY aFZ aGA aGB aGC aGD aGE aGF aGG aGH aGI aGJ aGK aGL u198 u199 u200 u201 aGM aGN aGO aGP aGQ aGR aGS aGT aGU aGV aGW u213 u214 u215 u216 u217 u218 u219 u220 u221 u222 u223 u224 u225 u226 u227 u228 u229 u230 u231 u232 u233 u234 u235 u236 u237 u238 u239 u240 u241 u242 u243 u244 u245 u246 u247 u248 u249 u250 u251 u252 u253 u254 u255 u256 u257 u258 u259 u260 u261 u262 u263 u264 u265 u266 u267 u268 u269 u270 u271 u272 u273 u274 u275 u276 u277 u278 u279 u280 u281 u282 u283 u284 u285 u286 u287 u288 u289 u290 u291 u292 u293 u294 u295 u296 u297 u298 u299 u300 u301 u302 u303 u304 u305 u306 u307 u308 u309 u310 u311 u312 u313 u314 u315 u316 u317 u318 u319 u320 u321 u322 u323 u324 u325 ga gb w6 HK6 x1 x2 c06 hN1001 cnt HTL aGX aGY aGZ u14 u174 u175 u176 u177 u178 u179 u180 u181 u182 u183 u184 u185 u186 u187 u188 u189 u190 u191 u192 u193 u194 u195 u196 u197 aHA aHB aHC aHD aHE wl lb HL aHF aHG w7 ao7 c7 HRc HRl H7 aHH aHI gk wr u202 u203 u204 u205 u206 u207 u208 u209 u210 u211 u212 aHJ aHK aHL aHM i f hi HR hlt
                  exact @Hid.out _ gL2
                · skip
                  obtain rfl : i = M := by omega
                  obtain ⟨hf, hfz, hkf⟩ := HR.out
                  have hfz0 : ∀ z, f z = true ↔ LdP (gpOf O S.H o true) Mf (plR P fr) P 0 z := fun z => by
                    rw [hfz z]
                    unfold LdP
                    constructor
                    · rintro ⟨j, hj, e⟩
                      left
                      rw [e, List.getD_eq_getElem?_getD, List.getElem?_eq_getElem (by rw [HRl.out]; exact hj)]
                      exact List.getElem_mem _
                    · rintro (h | ⟨j, hj, _⟩)
                      · obtain ⟨j, hj, e⟩ := List.mem_iff_getElem.1 h
                        refine ⟨j, by rw [← HRl.out]; exact hj, ?_⟩
                        rw [List.getD_eq_getElem?_getD, List.getElem?_eq_getElem hj]; exact e.symm
                      · omega
                  have HF3 := Lib.hid (And.intro hf (And.intro hfz0 hkf))
                  clear hf hfz hkf hfz0 HR
                  go_wp2_with fail
                  have HKr : Hid (∀ wq, Kp [lb] w7 wq → Kp [] w6 wq) := Lib.hid fun wq kq => kp_new_set H7.out.1 kq HL.out.2.2.2
                  obtain ⟨aP, cP, cP1, hcP⟩ := (H5.out.2.2.2.1).row (m := L) (by rw [HG.out.2.2.2, HLM.out.1])
                  have HPc : Hid (∀ wq, Kp [lb] w7 wq → wq.cell? ⟨hb, 0, none⟩ = some (.pointer (some ⟨sp, 0, none⟩)) ∧ wq.cell? ⟨hb, 1, none⟩ = some (.slice aP L cP) ∧ (∀ k, k < L → ∃ g, aP = some ⟨g, 0, none⟩ ∧ wq.cell? ⟨g, k, none⟩ = some (.int .i64 (P.getD k 0))) ∧ ∀ k, k < S.H.length → wq.cell? ⟨ga, k, none⟩ = some (.int .u64 ((markL S.H Mf).getD k 0))) := Lib.hid fun wq kq => by
                    have k6 := HKr.out wq kq
                    have k5 := HK6.out.1.trans k6
                    refine ⟨kp_cell k6 (by simp) c06, kp_cell k5 (by simp) cP1, fun k hk => ?_, fun k hk => ?_⟩
                    · obtain ⟨g, e, hc⟩ := hcP k hk
                      exact ⟨g, e, kp_cell k5 (by simp) hc⟩
                    · rw [cell_of_row (k6.row (by simp) HK6.out.2.1), u64s_get _ _ (by rw [markL_len]; exact hk)]
                  have hMo : ∀ x, Mf x = true → (gpOf O S.H o true).own x = true := fun x hx => ((H5.out.1 x).1 hx).own
                  have hLn : L ≤ 60 := hl
                  have HObj : Hid (∀ i, i < L → P.getD i 0 = 0 ∨ ∃ (x k c o' rf sz : Nat), P.getD i 0 = x ∧ x ≠ 0 ∧ x < S.H.length ∧ O x = some (o', rf, sz) ∧ k ≤ 3 ∧ c ≤ 1 ∧ o' ≤ 63 ∧ rf ≤ sz ∧ sz ≤ 95 ∧ (gpOf O S.H o true).own x = (decide (k = 2) && decide (o' = o)) ∧ (∀ wq, Calls Tryz.prog 14 #[.int .u64 ((markL S.H Mf).getD x 0)] wq fun e w' => e = .returned (.tuple #[.agg #[.int .u8 k, .int .u8 c, .bool false, .bool (Mf x), .int .u8 o', .int .u8 rf, .int .u8 sz], .int .i64 0]) ∧ Kp [] wq w')) := Lib.hid fun i hi => by
                    have hmem : P.getD i 0 ∈ P := by
                      rw [List.getD_eq_getElem?_getD, List.getElem?_eq_getElem (by rw [HG.out.2.2.2, ← HLM.out.1]; exact hi)]
                      exact List.getElem_mem _
                    rcases HG.out.2.1 _ hmem with e | ⟨x, e, hx⟩
                    · exact .inl e
                    · right
                      cases hO : O x with
                      | none => rw [hO] at hx; cases hx
                      | some z =>
                        obtain ⟨o', rf, sz⟩ := z
                        obtain ⟨k, c, a1, a2, a3, a4, a5, a6, a7, a8, a9, a10, a11, a12, a13⟩ := HG.out.1.at (by omega) hMo hO
                        have hx0 := ((HG.out.1.dw (by omega)).tb x hx).1
                        obtain ⟨e1, e2, e3, e4, e5, e6, e7⟩ := Wd.parts_of_word k c o' rf sz false (Mf x) (by omega) (by omega) (by omega) (by omega) (by omega) a6
                        have hlw := Wd.word_lt k c o' rf sz false (Mf x) (by omega) (by omega) (by omega) (by omega) (by omega) a6
                        refine ⟨x, k, c, o', rf, sz, e, by omega, a1, hO, a9, a11, by omega, a3, a4, a7, fun wq => ?_⟩
                        have htk := Wd.take_some (Wd.wordI k c o' rf sz false (Mf x)) wq hlw.1 (Wd.takeB_of_word k c o' rf sz false (Mf x) (by omega) (by omega) (by omega) (by omega) (by omega) a6)
                        rw [e1, e2, e3, e4, e5, e6, e7] at htk
                        rw [a5]
                        exact htk.mono fun e w' ⟨q1, q2⟩ => ⟨q1, kp_of_below q2⟩
                  have HRf : Hid (∀ x o' rf sz q, O x = some (o', rf, sz) → q < rf → rf ≤ sz → x + 1 + q < S.H.length ∧ (∃ v : Nat, (markL S.H Mf).getD (x + 1 + q) 0 = v ∧ v < 5001 ∧ (S.H.getD (x + 1 + q) 0).toNat = v)) := Lib.hid fun x o' rf sz q hO hq hrs => by
                    obtain ⟨f1, f2⟩ := HG.out.1.field hO (show q < sz by omega)
                    have hMfn : Mf (x + 1 + q) = false := by
                      cases hm : Mf (x + 1 + q) with
                      | false => rfl
                      | true =>
                        have := hMo _ hm
                        simp [gpOf, f1] at this
                    refine ⟨f2, ?_⟩
                    rw [markL_get _ _ _ f2, hMfn]
                    simp only [Bool.false_eq_true, if_false]
                    rw [HG.out.1.hp.fld x o' rf sz hO q (by omega)]
                    rcases HG.out.1.fk x o' rf sz hO q (by omega) with e | ⟨y, e, hy⟩
                    · exact ⟨0, by rw [e]; rfl, by omega, by rw [e]; rfl⟩
                    · refine ⟨y, e, ?_, by rw [e]; rfl⟩
                      have := ((HG.out.1.dw (by omega)).tb y hy).2.1
                      have := H5.out.2.2.2.2.2.2.2.1
                      omega
                  have hN4 : S.H.length ≤ 1000 := by
                    have := H5.out.2.2.2.2.2.2.2.1
                    omega
                  have hnn : (gpOf O S.H o true).own 0 = false := (HG.out.1.dw (by omega)).own0
                  have HMo := Lib.hid (And.intro hMo hnn)
                  clear cP1 hcP hMo hnn
                  go_loopg [30] L (fun gg v30 wr => ∃ (i : Nat) (f : Nat → Bool), i + gg = L ∧ v30 = .int .i64 i ∧ Hid (Mt wr lb 5001 f ∧ (∀ z, f z = true ↔ LdP (gpOf O S.H o true) Mf (plR P fr) P i z) ∧ Kp [lb] w7 wr))
                  case atStart => exact ⟨0, f, by omega, rfl, HF3⟩
                  case round =>
                    clear HF3
                    obtain ⟨i, f, hi, rfl, HR⟩ := hrel
                    obtain ⟨p0, p1, p2, p3⟩ := HPc.out wr HR.out.2.2
                    by_cases hlt : i < L
                    · skip
                      rename_i aB aC aD aF aH aI aJ aK aM aO aQ aR aT aU aV aX aY aZ bC bD bE bF bG bJ bM bP bQ bR bS bU bW bY bZ cI cJ cK cQ cW cY dD dE dF dG dH dJ dK dM dQ dU dX dY dZ eJ eK eQ eU eX eZ fA fC fD fF fG fH fJ fL fM fN fO fQ fR fU fW fX fY fZ gF gG gH gJ gK gL gM gN gU gV gW gX gY gZ iA iB iC iD iE iF iG iH iI iJ iK iL iM iN iP iQ iR iS iT iU iV iW iX iY iZ jA jB jC jD jF jG jH jI jJ jK jL jM jN jO jP jQ jR jS jT jU jV jW jX jY jZ kC kD kG kJ kL kM kQ kV kY kZ lD lE lG lH lO lP lQ lW lX lZ mE mF mI mJ mK mL mM mN mQ mR mU mW mX mY mZ nA nJ nQ nV nX nY nZ oB oC oD oE oG oH oJ oK oL oN oO oQ oR oV oW oX oY oZ pC pD pF pG pH pJ pK pO pP pQ pV pW pY pZ qA qC qD qE qF qH qI qJ qK qL qM qN qO qP qQ qU qV qW qX qY qZ rG rJ rK rM rQ rT rU rX rY rZ sJ sM sQ sV sZ tJ tQ tU tZ uA uB uC uD uE uF uG uH uI uJ uK uL uM uN uO uP uQ uR uU uV uW uX uY uZ vB vC vD vE vF vG vH vI vJ vK vM vN vO vP vQ vU vV vW vX vY vZ wD wE wG wH wL wM wN wQ wU wZ xC xE xG xJ xK xN xQ xS xU xV xX xY xZ yC yG yJ yK yN yP yQ yU yX yY zC zD zE zF zG zI zJ zK zM zN zO zP zQ zR zS zT zU zV zW zX zY zZ A9 G0 G9 I1 I4 I5 I6 I7 I8 I9 J0 J2 J3 J4 J7 J8 J9 N0 N3 N6 N7 N9 O0 O1 O2 O3 O4 O5 O6 O7 O8 O9 Q6 Q7 Q8 Q9 S4 S7 S8 T5 T6 T8 T9 U0 U1 U3 U4 U5 U6 U7 U8 U9 V1 V3 V4 V5 V6 V7 V8 V9 X8 X9 Y5 Y6 Y7 Y8 Y9 Z0 Z1 Z2 Z4 Z5 Z6 Z7 Z8 Z9 j8 j9 n8 o8 o9 aAA aAB aAC aAD aAE aAF aAG aAH aAI aAJ aAK aAL aAM aAN aAO aAP aAQ aAR aAS aAT aAU aAV aAW aAX aAY aAZ aBA aBB aBC aBD aBE aBF aBG aBH aBI aBJ aBK aBL aBM aBN aBO aBP aBQ aBR aBS aBT aBU aBV aBW aBX aBY aBZ aCA aCB aCC aCD aCE aCF aCG aCH aCI aCJ aCK aCL aCM aCN aCO aCP aCQ aCR aCS aCT aCU aCV aCW aCX aCY aCZ aDA aDB aDC aDD aDE aDF aDG aDH aDI aDJ aDK aDL aDM aDN aDO aDP aDQ aDR aDS aDT aDU aDV aDW aDX aDY aDZ aEA aEB aEC aED aEE aEF aEG aEH aEI aEJ aEK aEL aEM aEN aEO aEP aEQ aER aES aET aEU aEV aEW aEX aEY aEZ aFA aFB aFC aFD aFE aFF aFG aFH aFI aFJ aFK aFL aFM aFN aFO aFP aFQ aFR aFS aFT aFU aFV aFW aFX aFY aFZ aGA aGB aGC aGD aGE aGF aGG aGH aGI aGJ aGK aGL aGM aGN aGO aGP aGQ aGR aGS aGT aGU aGV aGW aGX aGY aGZ aHA aHB aHC aHD aHE aHF aHG aHH aHI aHJ aHK aHL aHM aHN aHO aHP aHQ aHR aHS aHT aHU aHV aHW aHX aHY aHZ aIA aIB aIC aID aIE aIF aIG aIH aII aIJ aIK aIL aIM aIN aIO aIP aIQ aIR aIS aIT aIU aIV aIW aIX aIY aIZ aJA aJB aJC aJD aJE aJF aJG aJH aJI aJJ aJK aJL aJM aJN aJO aJP aJQ aJR aJS aJT aJU aJV aJW aJX aJY aJZ aKA aKB aKC aKD aKE aKF aKG
                      revert HMd w n T o0 ra rb hn1 hn2 hT1 hT4 ho ha1 ha2 hrb1 hrb2 ao ao2 cap cap2 l fr HF L hl o hoT S P O V F HG hT0' hca hcb HT0 aB aC aD aF w1 sp hb qs t HKA w2 sp2 hb2 qs2 t2 HKB t0 t20 B B2 mb wa wb wc w3 c0 d0 d1 d2 d3 HNm2 HPL aH aI aJ aK aM aO aQ aR aT aU aV aX aY aZ bC bD bE bF bG bJ bM bP bQ bR bS bU bW bY bZ cI cJ cK cQ cW cY dD dE dF dG dH dJ dK dM dQ dU dX dY dZ eJ eK eQ eU eX eZ fA fC fD fF fG fH fJ fL fM fN fO fQ fR fU fW fX fY fZ gF gG gH gJ gK gL gM gN gU gV gW gX gY gZ iA iB iC iD iE iF iG iH iI iJ iK iL iM iN iP iQ iR iS iT iU iV iW iX iY iZ jA jB jC jD jF jG jH jI jJ jK jL jM jN jO jP jQ jR jS jT jU jV jW jX jY jZ kC kD kG kJ kL kM kQ kV kY kZ lD lE lG lH lO lP lQ lW lX lZ mE mF mI mJ mK mL mM mN mQ mR mU mW mX mY mZ nA nJ nQ nV nX nY nZ oB oC oD oE oG oH oJ oK oL oN oO oQ oR oV oW oX oY oZ pC pD pF pG pH pJ pK pO pP pQ pV pW pY pZ qA qC qD qE qF qH qI qJ qK qL qM qN qO qP qQ qU qV qW qX qY qZ rG rJ rK rM rQ rT rU rX rY rZ sJ sM sQ sV sZ tJ tQ tU tZ uA uB uC uD uE uF uG uH uI uJ uK uL uM uN uO uP uQ uR uU uV uW uX uY uZ vB vC vD vE vF vG vH vI vJ vK vM vN vO w4 X1 t1' x0 y0 y1 y2 y3 HSA HMB vP vQ vU vV vW vX vY vZ wD wE wG wH wL wM wN wQ wU wZ xC xE xG xJ xK xN xQ xS xU xV xX xY xZ yC yG yJ yK yN yP yQ yU yX yY zC zD zE zF zG zI zJ zK zM zN zO zP zQ zR zS zT zU zV zW zX zY zZ A9 G0 G9 I1 I4 I5 I6 I7 I8 I9 J0 J2 J3 J4 J7 J8 J9 N0 N3 N6 N7 N9 O0 O1 O2 O3 O4 O5 O6 O7 O8 O9 Q6 Q7 Q8 Q9 S4 S7 S8 T5 T6 T8 T9 U0 U1 U3 U4 U5 U6 U7 U8 U9 V1 V3 V4 V5 V6 V7 V8 V9 X8 X9 Y5 Y6 Y7 Y8 Y9 Z0 Z1 Z2 Z4 Z5 Z6 Z7 Z8 Z9 j8 j9 n8 o8 o9 aAA aAB aAC aAD aAE aAF aAG aAH aAI aAJ aAK aAL aAM aAN aAO aAP aAQ aAR aAS aAT aAU aAV aAW aAX aAY aAZ aBA aBB aBC aBD aBE aBF aBG aBH aBI aBJ aBK aBL aBM aBN aBO aBP aBQ aBR aBS aBT aBU aBV aBW aBX aBY aBZ aCA aCB aCC aCD aCE aCF aCG aCH aCI aCJ aCK aCL aCM aCN aCO aCP aCQ aCR aCS aCT aCU aCV aCW aCX aCY aCZ aDA aDB aDC aDD aDE aDF aDG aDH aDI aDJ aDK aDL aDM aDN aDO aDP aDQ aDR aDS aDT aDU aDV aDW aDX aDY aDZ aEA aEB aEC aED aEE aEF aEG aEH aEI aEJ aEK aEL aEM aEN aEO aEP aEQ aER aES aET aEU aEV aEW aEX aEY aEZ aFA aFB aFC aFD aFE aFF aFG aFH aFI aFJ aFK aFL aFM w5 X2 t2' Mf tl l1 l2 N hN H5 u39 u40 u41 u42 u43 u44 u45 u46 u47 u48 u49 u50 u51 u52 u53 u54 u55 u56 u57 u58 u59 u60 u61 u62 u63 u64 u65 u66 u67 u68 u69 u70 u71 u72 u73 u74 u75 u76 u77 u78 u79 u80 u81 u82 u83 u84 u85 u86 u87 u88 u89 u90 u91 u92 u93 u94 u95 u96 u97 u98 u99 u100 u101 u102 u103 u104 u105 u106 u107 u108 u109 u110 u111 u112 u113 u114 u115 u116 u117 u118 u119 u120 u121 u122 u123 u124 u125 u126 u127 u128 u129 u130 u131 u132 u133 u134 u135 u136 u137 u138 u139 u140 u141 u142 u143 u144 u145 u146 u147 u148 u149 u150 u151 u152 u153 u154 u155 u156 u157 u158 u159 u160 u161 u162 u163 u164 u165 u166 u167 u168 u169 u170 u171 u172 u173 aFN aFO aFP aFQ aFR aFS aFT aFU aFV aFW aFX aFY aFZ aGA aGB aGC aGD aGE aGF aGG aGH aGI aGJ aGK u198 u199 u200 u201 aGL aGM aGN aGO aGP aGQ aGR aGS aGT aGU aGV aGW aGX aGY aGZ aHA aHB aHC aHD aHE aHF aHG aHH aHI aHJ aHK aHL aHM aHN aHO aHP aHQ aHR aHS aHT aHU aHV aHW aHX aHY aHZ aIA aIB aIC aID aIE aIF aIG aIH aII aIJ aIK aIL aIM aIN aIO aIP aIQ aIR aIS aIT aIU aIV aIW aIX aIY aIZ aJA aJB aJC u272 u273 u274 u275 u276 u277 u278 u279 u280 u281 u282 u283 u284 u285 u286 u287 u288 u289 u290 u291 u292 u293 u294 u295 u296 u297 u298 u299 u300 u301 u302 u303 u304 u305 u306 u307 u308 u309 u310 u311 u312 u313 u314 u315 u316 u317 u318 u319 u320 u321 u322 u323 u324 u325 ga gb w6 HK6 x1 x2 c06 hN1001 cnt HTL aJD aJE aJF u14 u174 u175 u176 u177 u178 u179 u180 u181 u182 u183 u184 u185 u186 u187 u188 u189 u190 u191 u192 u193 u194 u195 u196 u197 aJG aJH aJI aJJ wl lb HL aJK aJL w7 ao7 c7 HRc H7 aJM aJN aJO u202 u203 u204 u205 u206 u207 u208 u209 u210 u211 u212 aJP aJQ aJR aJS aJT hfl HLM hM60 aJU aJV HRl aJW aJX aJY aJZ aKA aKB aKC HKr aP cP HPc hLn HObj HRf hN4 HMo gk wr u31 u32 u33 u34 u213 u214 u215 u216 u217 u218 u219 u220 u221 u222 u223 u224 u225 u226 u227 u228 u229 u230 u231 u232 u233 u234 u235 u236 u237 u238 u239 u240 u241 u242 u243 u244 u245 u246 u247 u248 u249 u250 u251 u252 u253 u254 u255 u256 u257 u258 u259 u260 u261 u262 u263 u264 u265 u266 u267 u268 u269 u270 u271 aKD aKE aKF aKG i f hi HR p0 p1 p2 p3 hlt
                      exact @Hid.out _ gL3
                    · skip
                      rename_i aB aC aD aF aH aI aJ aK aM aO aQ aR aT aU aV aX aY aZ bC bD bE bF bG bJ bM bP bQ bR bS bU bW bY bZ cI cJ cK cQ cW cY dD dE dF dG dH dJ dK dM dQ dU dX dY dZ eJ eK eQ eU eX eZ fA fC fD fF fG fH fJ fL fM fN fO fQ fR fU fW fX fY fZ gF gG gH gJ gK gL gM gN gU gV gW gX gY gZ iA iB iC iD iE iF iG iH iI iJ iK iL iM iN iP iQ iR iS iT iU iV iW iX iY iZ jA jB jC jD jF jG jH jI jJ jK jL jM jN jO jP jQ jR jS jT jU jV jW jX jY jZ kC kD kG kJ kL kM kQ kV kY kZ lD lE lG lH lO lP lQ lW lX lZ mE mF mI mJ mK mL mM mN mQ mR mU mW mX mY mZ nA nJ nQ nV nX nY nZ oB oC oD oE oG oH oJ oK oL oN oO oQ oR oV oW oX oY oZ pC pD pF pG pH pJ pK pO pP pQ pV pW pY pZ qA qC qD qE qF qH qI qJ qK qL qM qN qO qP qQ qU qV qW qX qY qZ rG rJ rK rM rQ rT rU rX rY rZ sJ sM sQ sV sZ tJ tQ tU tZ uA uB uC uD uE uF uG uH uI uJ uK uL uM uN uO uP uQ uR uU uV uW uX uY uZ vB vC vD vE vF vG vH vI vJ vK vM vN vO vP vQ vU vV vW vX vY vZ wD wE wG wH wL wM wN wQ wU wZ xC xE xG xJ xK xN xQ xS xU xV xX xY xZ yC yG yJ yK yN yP yQ yU yX yY zC zD zE zF zG zI zJ zK zM zN zO zP zQ zR zS zT zU zV zW zX zY zZ A9 G0 G9 I1 I4 I5 I6 I7 I8 I9 J0 J2 J3 J4 J7 J8 J9 N0 N3 N6 N7 N9 O0 O1 O2 O3 O4 O5 O6 O7 O8 O9 Q6 Q7 Q8 Q9 S4 S7 S8 T5 T6 T8 T9 U0 U1 U3 U4 U5 U6 U7 U8 U9 V1 V3 V4 V5 V6 V7 V8 V9 X8 X9 Y5 Y6 Y7 Y8 Y9 Z0 Z1 Z2 Z4 Z5 Z6 Z7 Z8 Z9 j8 j9 n8 o8 o9 aAA aAB aAC aAD aAE aAF aAG aAH aAI aAJ aAK aAL aAM aAN aAO aAP aAQ aAR aAS aAT aAU aAV aAW aAX aAY aAZ aBA aBB aBC aBD aBE aBF aBG aBH aBI aBJ aBK aBL aBM aBN aBO aBP aBQ aBR aBS aBT aBU aBV aBW aBX aBY aBZ aCA aCB aCC aCD aCE aCF aCG aCH aCI aCJ aCK aCL aCM aCN aCO aCP aCQ aCR aCS aCT aCU aCV aCW aCX aCY aCZ aDA aDB aDC aDD aDE aDF aDG aDH aDI aDJ aDK aDL aDM aDN aDO aDP aDQ aDR aDS aDT aDU aDV aDW aDX aDY aDZ aEA aEB aEC aED aEE aEF aEG aEH aEI aEJ aEK aEL aEM aEN aEO aEP aEQ aER aES aET aEU aEV aEW aEX aEY aEZ aFA aFB aFC aFD aFE aFF aFG aFH aFI aFJ aFK aFL aFM aFN aFO aFP aFQ aFR aFS aFT aFU aFV aFW aFX aFY aFZ aGA aGB aGC aGD aGE aGF aGG aGH aGI aGJ aGK aGL aGM aGN aGO aGP aGQ aGR aGS aGT aGU aGV aGW aGX aGY aGZ aHA aHB aHC aHD aHE aHF aHG aHH aHI aHJ aHK aHL aHM aHN aHO aHP aHQ aHR aHS aHT aHU aHV aHW aHX aHY aHZ aIA aIB aIC aID aIE aIF aIG aIH aII aIJ aIK aIL aIM aIN aIO aIP aIQ aIR aIS aIT aIU aIV aIW aIX aIY aIZ aJA aJB aJC aJD aJE aJF aJG aJH aJI aJJ aJK aJL aJM aJN aJO aJP aJQ aJR aJS aJT aJU aJV aJW aJX aJY aJZ aKA aKB aKC aKD aKE aKF aKG
                      revert HMd w n T o0 ra rb hn1 hn2 hT1 hT4 ho ha1 ha2 hrb1 hrb2 ao ao2 cap cap2 l fr HF L hl o hoT S P O V F HG hT0' hca hcb HT0 aB aC aD aF w1 sp hb qs t HKA w2 sp2 hb2 qs2 t2 HKB t0 t20 B B2 mb wa wb wc w3 c0 d0 d1 d2 d3 HNm2 HPL aH aI aJ aK aM aO aQ aR aT aU aV aX aY aZ bC bD bE bF bG bJ bM bP bQ bR bS bU bW bY bZ cI cJ cK cQ cW cY dD dE dF dG dH dJ dK dM dQ dU dX dY dZ eJ eK eQ eU eX eZ fA fC fD fF fG fH fJ fL fM fN fO fQ fR fU fW fX fY fZ gF gG gH gJ gK gL gM gN gU gV gW gX gY gZ iA iB iC iD iE iF iG iH iI iJ iK iL iM iN iP iQ iR iS iT iU iV iW iX iY iZ jA jB jC jD jF jG jH jI jJ jK jL jM jN jO jP jQ jR jS jT jU jV jW jX jY jZ kC kD kG kJ kL kM kQ kV kY kZ lD lE lG lH lO lP lQ lW lX lZ mE mF mI mJ mK mL mM mN mQ mR mU mW mX mY mZ nA nJ nQ nV nX nY nZ oB oC oD oE oG oH oJ oK oL oN oO oQ oR oV oW oX oY oZ pC pD pF pG pH pJ pK pO pP pQ pV pW pY pZ qA qC qD qE qF qH qI qJ qK qL qM qN qO qP qQ qU qV qW qX qY qZ rG rJ rK rM rQ rT rU rX rY rZ sJ sM sQ sV sZ tJ tQ tU tZ uA uB uC uD uE uF uG uH uI uJ uK uL uM uN uO uP uQ uR uU uV uW uX uY uZ vB vC vD vE vF vG vH vI vJ vK vM vN vO w4 X1 t1' x0 y0 y1 y2 y3 HSA HMB vP vQ vU vV vW vX vY vZ wD wE wG wH wL wM wN wQ wU wZ xC xE xG xJ xK xN xQ xS xU xV xX xY xZ yC yG yJ yK yN yP yQ yU yX yY zC zD zE zF zG zI zJ zK zM zN zO zP zQ zR zS zT zU zV zW zX zY zZ A9 G0 G9 I1 I4 I5 I6 I7 I8 I9 J0 J2 J3 J4 J7 J8 J9 N0 N3 N6 N7 N9 O0 O1 O2 O3 O4 O5 O6 O7 O8 O9 Q6 Q7 Q8 Q9 S4 S7 S8 T5 T6 T8 T9 U0 U1 U3 U4 U5 U6 U7 U8 U9 V1 V3 V4 V5 V6 V7 V8 V9 X8 X9 Y5 Y6 Y7 Y8 Y9 Z0 Z1 Z2 Z4 Z5 Z6 Z7 Z8 Z9 j8 j9 n8 o8 o9 aAA aAB aAC aAD aAE aAF aAG aAH aAI aAJ aAK aAL aAM aAN aAO aAP aAQ aAR aAS aAT aAU aAV aAW aAX aAY aAZ aBA aBB aBC aBD aBE aBF aBG aBH aBI aBJ aBK aBL aBM aBN aBO aBP aBQ aBR aBS aBT aBU aBV aBW aBX aBY aBZ aCA aCB aCC aCD aCE aCF aCG aCH aCI aCJ aCK aCL aCM aCN aCO aCP aCQ aCR aCS aCT aCU aCV aCW aCX aCY aCZ aDA aDB aDC aDD aDE aDF aDG aDH aDI aDJ aDK aDL aDM aDN aDO aDP aDQ aDR aDS aDT aDU aDV aDW aDX aDY aDZ aEA aEB aEC aED aEE aEF aEG aEH aEI aEJ aEK aEL aEM aEN aEO aEP aEQ aER aES aET aEU aEV aEW aEX aEY aEZ aFA aFB aFC aFD aFE aFF aFG aFH aFI aFJ aFK aFL aFM w5 X2 t2' Mf tl l1 l2 N hN H5 u39 u40 u41 u42 u43 u44 u45 u46 u47 u48 u49 u50 u51 u52 u53 u54 u55 u56 u57 u58 u59 u60 u61 u62 u63 u64 u65 u66 u67 u68 u69 u70 u71 u72 u73 u74 u75 u76 u77 u78 u79 u80 u81 u82 u83 u84 u85 u86 u87 u88 u89 u90 u91 u92 u93 u94 u95 u96 u97 u98 u99 u100 u101 u102 u103 u104 u105 u106 u107 u108 u109 u110 u111 u112 u113 u114 u115 u116 u117 u118 u119 u120 u121 u122 u123 u124 u125 u126 u127 u128 u129 u130 u131 u132 u133 u134 u135 u136 u137 u138 u139 u140 u141 u142 u143 u144 u145 u146 u147 u148 u149 u150 u151 u152 u153 u154 u155 u156 u157 u158 u159 u160 u161 u162 u163 u164 u165 u166 u167 u168 u169 u170 u171 u172 u173 aFN aFO aFP aFQ aFR aFS aFT aFU aFV aFW aFX aFY aFZ aGA aGB aGC aGD aGE aGF aGG aGH aGI aGJ aGK u198 u199 u200 u201 aGL aGM aGN aGO aGP aGQ aGR aGS aGT aGU aGV aGW aGX aGY aGZ aHA aHB aHC aHD aHE aHF aHG aHH aHI aHJ aHK aHL aHM aHN aHO aHP aHQ aHR aHS aHT aHU aHV aHW aHX aHY aHZ aIA aIB aIC aID aIE aIF aIG aIH aII aIJ aIK aIL aIM aIN aIO aIP aIQ aIR aIS aIT aIU aIV aIW aIX aIY aIZ aJA aJB aJC u272 u273 u274 u275 u276 u277 u278 u279 u280 u281 u282 u283 u284 u285 u286 u287 u288 u289 u290 u291 u292 u293 u294 u295 u296 u297 u298 u299 u300 u301 u302 u303 u304 u305 u306 u307 u308 u309 u310 u311 u312 u313 u314 u315 u316 u317 u318 u319 u320 u321 u322 u323 u324 u325 ga gb w6 HK6 x1 x2 c06 hN1001 cnt HTL aJD aJE aJF u14 u174 u175 u176 u177 u178 u179 u180 u181 u182 u183 u184 u185 u186 u187 u188 u189 u190 u191 u192 u193 u194 u195 u196 u197 aJG aJH aJI aJJ wl lb HL aJK aJL w7 ao7 c7 HRc H7 aJM aJN aJO u202 u203 u204 u205 u206 u207 u208 u209 u210 u211 u212 aJP aJQ aJR aJS aJT hfl HLM hM60 aJU aJV HRl aJW aJX aJY aJZ aKA aKB aKC HKr aP cP HPc hLn HObj HRf hN4 HMo gk wr u31 u32 u33 u34 u213 u214 u215 u216 u217 u218 u219 u220 u221 u222 u223 u224 u225 u226 u227 u228 u229 u230 u231 u232 u233 u234 u235 u236 u237 u238 u239 u240 u241 u242 u243 u244 u245 u246 u247 u248 u249 u250 u251 u252 u253 u254 u255 u256 u257 u258 u259 u260 u261 u262 u263 u264 u265 u266 u267 u268 u269 u270 u271 aKD aKE aKF aKG i f hi HR p0 p1 p2 p3 hlt
                      exact @Hid.out _ gR7

end Go.Proofs.YticbnckikkdknaaGreatDoor

namespace Go.Proofs.YticbnckikkdknaaGreatDoor
set_option linter.unusedVariables false
set_option linter.unusedSimpArgs false
set_option maxRecDepth 100000
open Go.RowKit

set_option maxHeartbeats 8000000 in
theorem mroom_main_9 : mroom_main_cut.A0 := by
  delta mroom_main_cut
  intro HMd
  unhygienic intros
  have k0 : Kp [] w3 w3 := Kp.refl _ _
  go_region_held3 (fun wx => wx.cell? ⟨hb, 0, none⟩ = some (.pointer (some ⟨sp, 0, none⟩)) ∧ wx.cell? ⟨sp, 0, none⟩ = some (.pointer (some ⟨B + 1, 0, none⟩)) ∧ wx.cell? ⟨sp, 1, none⟩ = some (.int .i64 T) ∧ wx.cell? ⟨sp, 2, none⟩ = some (.int .i64 0) ∧ wx.cell? ⟨sp, 3, none⟩ = some (.int .i64 n) ∧ Kp [B + 1, B, mb + 1 + 1, mb] w3 wx)
    (first
      | with_reducible assumption
      | (refine HC.out _ ?_
         first
           | with_reducible first
            | exact K7.out
            | exact (Kp.drew K7.out))
      | (refine HC.out _ (Kp.mono (S := []) ?_ (by simp))
         repeat (first
           | with_reducible first
            | exact Kp.refl _ _
            | exact K5.out
           | with_reducible refine Kp.drew ?_)))
    (first
      | (go_at_call 11
         refine Calls.mono (HPc.out _ ?hk) ?_
         case hk => repeat (first | with_reducible exact Kp.refl _ _ | with_reducible refine Kp.drew ?_)
         rintro e w5 ⟨ao5, c5, rfl, hrw5, k5⟩
         have K5 : Hid (Kp [] w3 w5) := Lib.hid (by
           refine Kp.trans ?_ k5
           repeat (first | with_reducible exact Kp.refl _ _ | with_reducible refine Kp.drew ?_))
         have R5 : Hid (Gx.Rw 3 1 w3.heap.size w5 (.slice ao5 M c5) M (plV P fr M)) := Lib.hid (rw_low hrw5 (Nat.le_refl _))
         clear hrw5 k5)
      | (go_at_call 10
         with_reducible refine Calls.mono (HMk.out _ _ _ ?hk ?hr) ?_
         case hk => repeat (first | with_reducible exact K5.out | with_reducible refine Kp.drew ?_)
         case hr =>
           refine Gx.Rw.keep0 R5.out ?_
           repeat (first | with_reducible exact Kp.refl _ _ | with_reducible refine Kp.drew ?_)
         rintro e w7 ⟨rfl, h7, k7⟩
         have F7 := Lib.hid (And.intro h7 k7)
         have K7 := Lib.hid k7
         clear h7 k7))
  all_goals
    rename_i hHeld
    clear hHeld
  all_goals go_wp2_with fail
  all_goals go_meet
  all_goals exact ⟨rfl, F7⟩

end Go.Proofs.YticbnckikkdknaaGreatDoor

namespace Go.Proofs.YticbnckikkdknaaGreatDoor
set_option linter.unusedVariables false
set_option linter.unusedSimpArgs false
set_option maxRecDepth 100000
open Go.RowKit

set_option maxHeartbeats 8000000 in
theorem mroom_main_10 : mroom_main_cut.A1 := by
  delta mroom_main_cut
  intro HMd
  unhygienic intros
  have k0 : Kp [] w4 w4 := Kp.refl _ _
  go_region_held3 (fun wx => wx.cell? ⟨hb2, 0, none⟩ = some (.pointer (some ⟨sp2, 0, none⟩)) ∧ wx.cell? ⟨sp2, 0, none⟩ = some (.pointer (some ⟨B2 + 1, 0, none⟩)) ∧ wx.cell? ⟨sp2, 1, none⟩ = some (.int .i64 T) ∧ wx.cell? ⟨sp2, 2, none⟩ = some (.int .i64 0) ∧ wx.cell? ⟨sp2, 3, none⟩ = some (.int .i64 n) ∧ Kp [B2 + 1, B2, mb + 1 + 1 + 1, mb + 1] w4 wx)
    (first
      | with_reducible assumption
      | (refine HC2.out _ ?_
         first
           | with_reducible first
            | exact K7.out
            | exact (Kp.drew K7.out))
      | (refine HC2.out _ (Kp.mono (S := []) ?_ (by simp))
         repeat (first
           | with_reducible first
            | exact Kp.refl _ _
            | exact K5.out
           | with_reducible refine Kp.drew ?_)))
    (first
      | (go_at_call 11
         refine Calls.mono (HPc2.out _ ?hk) ?_
         case hk => repeat (first | with_reducible exact Kp.refl _ _ | with_reducible refine Kp.drew ?_)
         rintro e w5 ⟨ao5, c5, rfl, hrw5, k5⟩
         have K5 : Hid (Kp [] w4 w5) := Lib.hid (by
           refine Kp.trans ?_ k5
           repeat (first | with_reducible exact Kp.refl _ _ | with_reducible refine Kp.drew ?_))
         have R5 : Hid (Gx.Rw 3 1 w4.heap.size w5 (.slice ao5 M c5) M (plV P fr M)) := Lib.hid (rw_low hrw5 (Nat.le_refl _))
         clear hrw5 k5)
      | (go_at_call 10
         with_reducible refine Calls.mono (HMk2.out _ _ _ ?hk ?hr) ?_
         case hk => repeat (first | with_reducible exact K5.out | with_reducible refine Kp.drew ?_)
         case hr =>
           refine Gx.Rw.keep0 R5.out ?_
           repeat (first | with_reducible exact Kp.refl _ _ | with_reducible refine Kp.drew ?_)
         rintro e w7 ⟨rfl, h7, k7⟩
         have F7 := Lib.hid (And.intro h7 k7)
         have K7 := Lib.hid k7
         clear h7 k7))
  all_goals
    rename_i hHeld
    clear hHeld
  all_goals go_wp2_with fail
  all_goals go_meet
  all_goals exact ⟨rfl, F7⟩

end Go.Proofs.YticbnckikkdknaaGreatDoor
