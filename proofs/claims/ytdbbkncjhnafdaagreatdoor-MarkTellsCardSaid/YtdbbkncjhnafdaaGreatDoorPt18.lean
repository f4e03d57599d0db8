/- Package mark, its walks, on: Mark as a whole. Package mark, its walks, on: Mark as a whole, walked. The document's mark: a header by value. The document's mark, on: a header, whatever lies there; an object's references; rows of truths. Conditions: as each theorem states them. -/
import Derived.Test.YtdbbkncjhnafdaaGreatDoorPt17
namespace Go.Proofs.YtdbbkncjhnafdaaGreatDoor
set_option linter.unusedVariables false
set_option linter.unusedSimpArgs false
set_option maxRecDepth 100000
open Go.RowKit
/-- How many own ones are not marked. -/
def cntM (G : Gp) (N : Nat) (X : Mkg) : Nat := (List.range N).countP (fun x => G.own x && !X.M x)
/-- What overflowed has marked. -/
def Po (G : Gp) (N c0 : Nat) (X : Mkg) : Prop := cntM G N X ≤ c0 ∧ (X.ov = true → cntM G N X < c0)
section
variable {T n p r q ro o room t N c0 : Nat} {gf : Value} {H : List Int} {w w' : World} {Rs : Nat → Nat → List Int} {O : Obs} {V : Nat → Int} {F : Nat → Nat → Int} {tel : Bool} {Sg : List Nat} {TL : (Nat → Bool) → World → Prop} {X X' : Mkg} {G : Gp} {R : List Nat} {E : Nat → Prop}
theorem Po.tr (hN : ∀ y, G.own y = true → y < N) (h : Po G N c0 X) (y : Nat) : Po G N c0 (trS G room X y) := by
  unfold trS
  split
  · exact h
  · split
    · exact h
    · split
      · rename_i ho
        have hc := cnt_less (fun x => G.own x && !X.M x) (fun x => G.own x && !(X.M x || decide (x = y))) y ho (fun x => by cases G.own x <;> cases X.M x <;> simp) N
        rw [if_pos (hN y (Bool.and_eq_true _ _ ▸ ho).1)] at hc
        have h1 := h.1
        unfold Po cntM at *
        simp only
        exact ⟨by omega, fun _ => by omega⟩
      · exact h
theorem Po.lo (hN : ∀ y, G.own y = true → y < N) (l : List Nat) : ∀ {X : Mkg}, Po G N c0 X → Po G N c0 (loS G room X l) := by
  induction l with
  | nil => exact fun h => h
  | cons y l ih => exact fun h => ih (h.tr hN y)
theorem Po.dr (hN : ∀ y, G.own y = true → y < N) (d : Dr G room X X') : Po G N c0 X → Po G N c0 X' := by
  induction d with
  | nil X h => exact fun h => h
  | step X X' st x h k ih => exact fun hp => ih (Po.lo hN _ hp)
theorem Po.se (hN : ∀ y, G.own y = true → y < N) {l : List Nat} (d : Se G room l X X') : Po G N c0 X → Po G N c0 X' := by
  induction d with
  | nil X => exact fun h => h
  | skip l X X1 x h k ih => exact ih
  | hit l X X1 X2 x h k dd ih => exact fun hp => Po.dr hN dd (Po.lo hN _ (ih hp))
/-- It had overflowed: all are excused, and searched. -/
theorem Ji.over (h : Ji G R E X) : Ji G R (fun _ => True) { X with ov := false } := ⟨h.mr, h.tl, h.st, fun x hx => by
  rcases h.dn x hx with d | d | d | d
  · exact .inl d
  · exact .inr (.inl d)
  · exact .inr (.inr (.inr trivial))
  · exact .inr (.inr (.inr trivial))⟩
theorem Mrk.over (h : Mrk T n p r q ro room Sg H TL X t w) (hTL : TlOk p r q ro Sg gf tel TL) :
    Calls Tryz.prog 41 #[.pointer (some ⟨q, 0, none⟩)] w fun e w' => e = .returned (.bool X.ov) ∧ Mrk T n p r q ro room Sg H TL { X with ov := false } t w' ∧ Kp (p :: r :: q :: ro :: Sg) w w' := by
  refine (Sk.sover_any w q ro room (X.st.map Int.ofNat) X.ov h.sk).mono ?_
  rintro e w' ⟨rfl, hs, k⟩
  obtain ⟨t0, h0, h1⟩ := h.hw
  have hne := h.ne
  have sg := hTL.sg
  exact ⟨rfl, ⟨⟨t0, h0, h1.keep k (by simp; omega) (by simp; omega)⟩, hs, hTL.keep _ _ _ _ (by intro g hg; simp at hg; rcases hg with rfl | rfl; exact sg.2.2.1; exact sg.2.2.2) k h.tl, h.ne, fun g hg => Nat.lt_of_lt_of_le (h.lt g hg) k.size⟩, k.mono fun g hg _ => by simp at hg ⊢; omega⟩
/-- Each own object is searched. -/
theorem own_searched (hG : Gd T n H Rs O V F) (hT : T ≤ 64) {x : Nat} (hx : (gpOf O H o tel).own x = true) : x ∈ parL T n o H n 0 := by
  obtain ⟨b, i, h1, h2, h3⟩ := hG.own_cell hT hx
  unfold parL
  rw [List.mem_append]
  refine .inl (List.mem_flatMap.2 ⟨b, List.mem_range.2 h1, List.mem_map.2 ⟨i, List.mem_range.2 h2, h3.symm⟩⟩)
/-- Where a marking stands between two places, or two searches. -/
structure Sta (T n p r q ro o room : Nat) (Sg : List Nat) (H : List Int) (O : Obs) (tel : Bool) (TL : (Nat → Bool) → World → Prop) (R : List Nat) (i : Nat) (X : Mkg) (t : Nat) (wr : World) : Prop where
  ji : Ji (gpOf O H o tel) R (fun _ => False) X
  fin : ∀ y ∈ R.take i, Fin (gpOf O H o tel) X y
  wi : Wi (gpOf O H o tel) X
  st : X.st = []
  mrk : Mrk T n p r q ro room Sg H TL X t wr
theorem own_lt (hG : Gd T n H Rs O V F) {y : Nat} (hy : (gpOf O H o tel).own y = true) : y < H.length := by
  simp only [gpOf, Bool.and_eq_true] at hy
  cases hO : O y with
  | none => rw [hO] at hy; simp at hy
  | some z =>
    obtain ⟨o2, r2, s2⟩ := z
    have := hG.hp.inn hO
    omega
/-- A place is treated, and what waits is drained: plainly. -/
theorem Sta.next (hG : Gd T n H Rs O V F) {i : Nat} {wr : World} {X1 X2 : Mkg} {t2 : Nat} (h : Sta T n p r q ro o room Sg H O tel TL R i X1 t wr) (hi : i < R.length) (hw : Wi (gpOf O H o tel) X2) (hd : Dr (gpOf O H o tel) room (trS (gpOf O H o tel) room X1 (R.getD i 0)) X2) (hm : Mrk T n p r q ro room Sg H TL X2 t2 w') : Sta T n p r q ro o room Sg H O tel TL R (i + 1) X2 t2 w' := by
  have hA := gp_apt O H o tel
  have hmem : R.getD i 0 ∈ R := by
    rw [List.getD_eq_getElem?_getD, List.getElem?_eq_getElem hi]
    exact List.getElem_mem hi
  have h1 := h.ji.tr (room := room) (y := R.getD i 0) (.inl hmem)
  obtain ⟨a, b, c⟩ := h1.dr hA hd
  refine ⟨a, fun y hy => ?_, hw, c, hm⟩
  rw [List.take_add_one, List.getElem?_eq_getElem hi, List.mem_append] at hy
  rcases hy with hy | hy
  · exact ((h.fin y hy).ge (tr_ge _ _)).ge b
  · have e : y = R.getD i 0 := by
      rw [List.getD_eq_getElem?_getD, List.getElem?_eq_getElem hi]
      simpa using hy
    rw [e]
    exact (tr_fin hA X1 _).ge b
/-- It had overflowed, and all was searched: plainly. -/
theorem Sta.searched (hG : Gd T n H Rs O V F) (hT : T ≤ 64) {i : Nat} {wr : World} {X1 X2 : Mkg} {t2 : Nat} (h : Sta T n p r q ro o room Sg H O tel TL R i X1 t wr) (hw : Wi (gpOf O H o tel) X2) (hd : Se (gpOf O H o tel) room (parL T n o H n 0) { X1 with ov := false } X2) (hm : Mrk T n p r q ro room Sg H TL X2 t2 w') :
    Sta T n p r q ro o room Sg H O tel TL R i X2 t2 w' ∧ cntM (gpOf O H o tel) H.length X2 ≤ cntM (gpOf O H o tel) H.length X1 ∧ (X2.ov = true → cntM (gpOf O H o tel) H.length X2 < cntM (gpOf O H o tel) H.length X1) := by
  have hA := gp_apt O H o tel
  obtain ⟨a, b, c⟩ := h.ji.over.se hA hd h.st
  have hpo := Po.se (c0 := cntM (gpOf O H o tel) H.length X1) (fun y hy => own_lt hG hy) hd ⟨Nat.le_refl _, fun e => by cases e⟩
  refine ⟨⟨⟨a.mr, a.tl, a.st, fun x hx => ?_⟩, fun y hy => (h.fin y hy).ge ⟨b.m, b.t⟩, hw, c, hm⟩, hpo.1, hpo.2⟩
  rcases a.dn x hx with d | d | d | d
  · exact .inl d
  · exact .inr (.inl d)
  · exact .inr (.inr (.inl d))
  · exact absurd (own_searched hG hT (hw.own x hx)) d.2
end
end Go.Proofs.YtdbbkncjhnafdaaGreatDoor

namespace Go.Proofs.YtdbbkncjhnafdaaGreatDoor
set_option linter.unusedVariables false
set_option linter.unusedSimpArgs false
set_option maxRecDepth 100000
open Go.RowKit
def X0m : Mkg := ⟨fun _ => false, [], false, fun _ => false⟩
section
variable {T n p r o room t N : Nat} {gf : Value} {H : List Int} {w w' : World} {Rs : Nat → Nat → List Int} {O : Obs} {V : Nat → Int} {F : Nat → Nat → Int} {tel : Bool} {Sg : List Nat} {TL : (Nat → Bool) → World → Prop} {R : List Nat}
set_option maxHeartbeats 4000000 in
theorem mark_is (hG : Gd T n H Rs O V F) (hT : T ≤ 64) (hn : n ≤ 64) (ho : o < T) (hr1 : 1 ≤ room) (hr2 : room ≤ 64) (hw : Hw T 0 n p r H t w) (hTb : Cl.Tab w) (hrn : 0 ∉ p :: r :: Sg) (hlt : ∀ g ∈ p :: r :: Sg, g < w.heap.size)
    (hTL : ∀ q ro, w.heap.size ≤ q → w.heap.size ≤ ro → TlOk p r q ro Sg gf tel TL) (htl : TL (fun _ => false) w) {ao : Option Addr} {cap : Nat} (hR : ∀ y ∈ R, y = 0 ∨ (O y).isSome = true) (hLc : ∀ j, j < R.length → ∃ g o', ao = some ⟨g, o', none⟩ ∧ g ∉ p :: r :: Sg ∧ g < w.heap.size ∧ w.cell? ⟨g, o' + j, none⟩ = some (.int .i64 (R.getD j 0)))
    (hlen : R.length ≤ 1000) (ht : t + 300 * muM (gpOf O H o tel) H.length X0m + 2 * R.length + 4900 * n * (muM (gpOf O H o tel) H.length X0m + 1) ≤ 800000000000) :
    Calls Tryz.prog 14 #[.agg #[.iface 30 (.pointer (some ⟨p, 0, none⟩)), .int .i64 T, .int .i64 0, .int .i64 n, .int .u8 o, .int .i64 room, gf], .slice ao R.length cap] w fun e w' => e = .returned (.int .i64 0) ∧ ∃ (X : Mkg) (t' : Nat), (∀ x, X.M x = true ↔ Rc (gpOf O H o tel) R x) ∧ (tel = true → ∀ y, X.tl y = true ↔ ((gpOf O H o tel).glb y = true ∧ y ≠ 0 ∧ (y ∈ R ∨ ∃ x, Rc (gpOf O H o tel) R x ∧ y ∈ (gpOf O H o tel).ref x))) ∧ Hw T 0 n p r (markL H X.M) t' w' ∧ TL X.tl w' ∧ Kp (p :: r :: Sg) w w' := by
  have HG := Lib.hid hG
  obtain ⟨w1, hw1⟩ : ∃ w1, w1 = w.alloc (.cells #[.iface 30 (.pointer (some ⟨p, 0, none⟩)), .int .i64 T, .int .i64 0, .int .i64 n, .int .u8 o, .int .i64 room, gf] 52) := ⟨_, rfl⟩
  have kb : Kp [] w w1 := by rw [hw1]; exact (Kp.refl _ _).alloc _
  have r0 : w1.heap[w.heap.size]? = some (.cells #[.iface 30 (.pointer (some ⟨p, 0, none⟩)), .int .i64 T, .int .i64 0, .int .i64 n, .int .u8 o, .int .i64 room, gf] 52 (0, 0)) := by rw [hw1]; exact heap_alloc_new _ _
  have c0 := (cell_of_row r0 0).trans (show _ = some (.iface 30 (.pointer (some ⟨p, 0, none⟩))) from rfl)
  have c5 := (cell_of_row r0 5).trans (show _ = some (.int .i64 room) from rfl)
  have HNew := Lib.hid (Sk.snew_good w1 room hr1 hr2)
  have HB := Lib.hid (And.intro kb r0)
  have HA := Lib.hid (And.intro hw (And.intro hTb (And.intro hrn (And.intro hlt (And.intro htl hTL)))))
  have HLc := Lib.hid (And.intro hR hLc)
  obtain ⟨M, hM⟩ : ∃ M, M = R.length := ⟨_, rfl⟩
  have HM := Lib.hid hM
  rw [← hM] at hlen ht ⊢
  obtain ⟨mu0, hmu0⟩ : ∃ mu0, mu0 = muM (gpOf O H o tel) H.length X0m := ⟨_, rfl⟩
  have HMu := Lib.hid hmu0
  rw [← hmu0] at ht
  obtain ⟨KK, hKK⟩ : ∃ KK, KK = 4900 * n := ⟨_, rfl⟩
  have HKK := Lib.hid hKK
  rw [← hKK] at ht
  have HT := Lib.hid ht
  clear hG hw hTb hrn hlt htl hTL hR hLc kb r0 hM hmu0 hKK ht
  go_enter Tryz.func14, Tryz.ntmps14
  go_upto_region 1 with (fail)
  rw [← hw1]
  clear hw1
  go_wp2_with fail
  refine HNew.out.mono ?_
  rintro e w2 ⟨rfl, hs2, k2⟩
  obtain ⟨q, hq⟩ : ∃ q, q = w1.heap.size + 1 := ⟨_, rfl⟩
  obtain ⟨ro, hro⟩ : ∃ ro, ro = w1.heap.size := ⟨_, rfl⟩
  rw [← hq, ← hro] at hs2
  rw [← hq]
  have HS2 := Lib.hid (And.intro hs2 (And.intro k2 (And.intro hq hro)))
  have r0 := k2.row (by simp) HB.out.2
  have HR0 := Lib.hid r0
  have c1 := (cell_of_row r0 1).trans (show _ = some (.int .i64 T) from rfl)
  have c2 := (cell_of_row r0 2).trans (show _ = some (.int .i64 0) from rfl)
  have c3 := (cell_of_row r0 3).trans (show _ = some (.int .i64 n) from rfl)
  have c4 := (cell_of_row r0 4).trans (show _ = some (.int .u8 o) from rfl)
  have c0 := (cell_of_row r0 0).trans (show _ = some (.iface 30 (.pointer (some ⟨p, 0, none⟩))) from rfl)
  have c5 := (cell_of_row r0 5).trans (show _ = some (.int .i64 room) from rfl)
  have c6 := (cell_of_row r0 6).trans (show _ = some gf from rfl)
  have HTh := Lib.hid (fun wq => Ly.threads_is (T : Int) 0 (n : Int) wq)
  have co : IntKind.i64.wrap (o : Int) = o := IntWalk.i64_in _ (by omega)
  have hoT : decide ((T : Int) ≤ (o : Int)) = false := by simp; omega
  have hoT' : decide (T ≤ o) = false := by simp; omega
  clear hs2 k2 hq hro r0 HNew
  go_upto_region 4 with (fail)
  go_cut [30] (fun v30 we => v30 = .bool false ∧ Hid (Kp [] w2 we))
  case first =>
    have HC4 : Hid (∀ wx, Kp [] w2 wx → wx.cell? ⟨w.heap.size, 1, none⟩ = some (.int .i64 T) ∧ wx.cell? ⟨w.heap.size, 2, none⟩ = some (.int .i64 0) ∧ wx.cell? ⟨w.heap.size, 3, none⟩ = some (.int .i64 n) ∧ wx.cell? ⟨w.heap.size, 4, none⟩ = some (.int .u8 o) ∧ Kp [] w2 wx) := Lib.hid fun wx k => ⟨kp_cell k (by simp) c1, kp_cell k (by simp) c2, kp_cell k (by simp) c3, kp_cell k (by simp) c4, k⟩
    have k0 : Kp [] w2 w2 := Kp.refl _ _
    go_region_held3 (fun wx => wx.cell? ⟨w.heap.size, 1, none⟩ = some (.int .i64 T) ∧ wx.cell? ⟨w.heap.size, 2, none⟩ = some (.int .i64 0) ∧ wx.cell? ⟨w.heap.size, 3, none⟩ = some (.int .i64 n) ∧ wx.cell? ⟨w.heap.size, 4, none⟩ = some (.int .u8 o) ∧ Kp [] w2 wx)
      (first
        | with_reducible assumption
        | exact HC4.out _ K4.out
        | exact HC4.out _ (K4.out.trans ((Kp.refl [] _).drew))
        | exact HC4.out _ ((Kp.refl [] _).drew)
        | exact HC4.out _ (Kp.refl [] _))
      (first
        | (go_at_call 37
           refine (HTh.out _).mono ?_
           rintro e w4 ⟨rfl, k4⟩
           have K4 : Hid (Kp [] w2 w4) := Lib.hid (by
             refine Kp.trans ?_ k4
             repeat (first
               | with_reducible exact Kp.refl _ _
               | with_reducible refine Kp.drew ?_))
           clear k4))
    all_goals
      rename_i hHeld
      have HKp := Lib.hid hHeld.2.2.2.2
      clear hHeld
    all_goals go_wp2_with fail
    all_goals go_meet
    all_goals
      first
        | exact ⟨rfl, HKp⟩
        | exact ⟨by simp [*], HKp⟩
  case rest =>
    obtain ⟨rfl, HK3⟩ := hcut
    obtain ⟨w3, rfl⟩ : ∃ w3 : World, w3 = wc := ⟨_, rfl⟩
    have HR3 := Lib.hid (HK3.out.row (by simp) HR0.out)
    clear c0 c1 c2 c3 c4 c5 c6 HTh hoT hoT' co HR0
    have c0 := (cell_of_row HR3.out 0).trans (show _ = some (.iface 30 (.pointer (some ⟨p, 0, none⟩))) from rfl)
    have c1 := (cell_of_row HR3.out 1).trans (show _ = some (.int .i64 T) from rfl)
    have c2 := (cell_of_row HR3.out 2).trans (show _ = some (.int .i64 0) from rfl)
    have c3 := (cell_of_row HR3.out 3).trans (show _ = some (.int .i64 n) from rfl)
    have c4 := (cell_of_row HR3.out 4).trans (show _ = some (.int .u8 o) from rfl)
    have c5 := (cell_of_row HR3.out 5).trans (show _ = some (.int .i64 room) from rfl)
    have c6 := (cell_of_row HR3.out 6).trans (show _ = some gf from rfl)
    obtain ⟨w4, hw4⟩ : ∃ w4, w4 = w3.alloc (.cells #[.iface 30 (.pointer (some ⟨p, 0, none⟩)), .int .i64 T, .int .i64 0, .int .i64 n, .int .u8 o, .int .i64 room, gf, .pointer (some ⟨q, 0, none⟩)] 101) := ⟨_, rfl⟩
    have k4 : Kp [] w3 w4 := by rw [hw4]; exact (Kp.refl _ _).alloc _
    have r4 : w4.heap[w3.heap.size]? = some (.cells #[.iface 30 (.pointer (some ⟨p, 0, none⟩)), .int .i64 T, .int .i64 0, .int .i64 n, .int .u8 o, .int .i64 room, gf, .pointer (some ⟨q, 0, none⟩)] 101 (0, 0)) := by rw [hw4]; exact heap_alloc_new _ _
    have hqg : w.heap.size ≤ q ∧ w.heap.size ≤ ro ∧ q < w2.heap.size ∧ ro < w2.heap.size := by
      have z1 := HB.out.1.size
      have z2 := HS2.out.2.2.1
      have z3 := HS2.out.2.2.2
      have z4 := lt_of_block HS2.out.1.hp
      omega
    have hTL := HA.out.2.2.2.2.2 q ro hqg.1 hqg.2.1
    have hlt := HA.out.2.2.2.1
    have Kw : Kp [] w w4 := ((HB.out.1.trans HS2.out.2.1).trans HK3.out).trans k4
    have hpl := hlt p (by simp)
    have hrl := hlt r (by simp)
    have hM4 : Mrk T n p r q ro room Sg H TL X0m t w4 := ⟨⟨t, Nat.le_refl _, by
      show Hw T 0 n p r (markL H (fun _ => false)) t w4
      rw [markL_none]; exact HA.out.1.on Kw⟩, (HS2.out.1.keep0 HK3.out).keep0 k4, hTL.keep _ [] _ _ (by simp) Kw HA.out.2.2.2.2.1, by omega, fun g hg => by
      have z5 := HK3.out.size
      have z6 := k4.size
      have z7 := Kw.size
      simp only [List.mem_cons] at hg
      rcases hg with rfl | rfl | rfl | rfl | hg
      · omega
      · omega
      · omega
      · omega
      · have := hlt g (by simp [hg]); omega⟩
    have hSta : Sta T n p r q ro o room Sg H O tel TL R 0 X0m t w4 := ⟨⟨fun x hx => (by cases hx), fun y hy => (by cases hy), fun x hx => (by cases hx), fun x hx => (by cases hx)⟩, fun y hy => (by simp at hy), ⟨fun x hx => (by cases hx), fun x hx => (by cases hx)⟩, rfl, hM4⟩
    obtain ⟨b1, hb1⟩ : ∃ b1, b1 = w3.heap.size := ⟨_, rfl⟩
    rw [← hb1] at r4
    have hb1g : w.heap.size ≤ b1 ∧ b1 ≠ q ∧ b1 ≠ ro := by
      have z1 := HB.out.1.size
      have z2 := HS2.out.2.1.size
      have z5 := HK3.out.size
      omega
    have HTL := Lib.hid hTL
    have H4 := Lib.hid (And.intro Kw (And.intro (BoxM.of r4) (And.intro hqg hb1g)))
    have HSt := Lib.hid (show ∃ X1 t1, Sta T n p r q ro o room Sg H O tel TL R 0 X1 t1 w4 ∧ muM (gpOf O H o tel) H.length X1 ≤ mu0 ∧ t1 + 300 * muM (gpOf O H o tel) H.length X1 ≤ t + 300 * mu0 + 2 * 0 from ⟨X0m, t, hSta, by rw [HMu.out]; exact Nat.le_refl _, by rw [HMu.out]; omega⟩)
    clear hTL hlt Kw hpl hrl hM4 hSta k4 r4 hqg hb1g
    have HON : Hid ((#[.iface 30 (.pointer (some ⟨p, 0, none⟩)), .int .i64 T, .int .i64 0, .int .i64 n, .int .u8 o, .int .i64 room, gf, .pointer (some ⟨q, 0, none⟩)] : Array Value).all (·.oneCell') = true) := Lib.hid (by
      cases tel with
      | false => rw [HTL.out.no rfl]; simp [Value.oneCell']
      | true =>
        obtain ⟨g, cap, e, _⟩ := HTL.out.tell rfl
        rw [e]; simp [Value.oneCell'])
    go_upto_region 7 with (refine wpList_store_row rfl 101 _ _ rfl w3.heap.size _ rfl rfl 101 _ (heap_alloc_new _ _) (by kernel_rfl) rfl HON.out ?_)
    rw [World.setRow_alloc_new]
    rw [← hw4, ← hb1]
    rw [show ∀ a : Act, a.put none undef = a from fun _ => rfl]
    clear hw4 hb1 c0 c1 c2 c3 c4 c5 c6 HON
    obtain ⟨a0, a1, a2, a3, a4, a5, a6, a7⟩ := H4.out.2.1
    go_wp2_with fail
    clear a0 a1 a2 a3 a4 a5 a6 a7
    go_loopg [38] M (fun g v38 wr => ∃ i : Nat, i + g = M ∧ v38 = .int .i64 i ∧ Hid ((∃ X1 t1, Sta T n p r q ro o room Sg H O tel TL R i X1 t1 wr ∧ muM (gpOf O H o tel) H.length X1 ≤ mu0 ∧ t1 + 300 * muM (gpOf O H o tel) H.length X1 ≤ t + 300 * mu0 + 2 * i) ∧ Kp (p :: r :: q :: ro :: Sg) w4 wr ∧ BoxM p T n o room gf q b1 wr))
    case atStart => exact ⟨0, by omega, rfl, Lib.hid ⟨HSt.out, Kp.refl _ _, H4.out.2.1⟩⟩
    case round =>
      obtain ⟨i, hi, rfl, HR⟩ := hrel
      obtain ⟨X1, t1, hS, hm1, ht1⟩ := HR.out.1
      by_cases hiM : i < M
      · have hiR : i < R.length := by rw [← HM.out]; exact hiM
        obtain ⟨g, o', hao, hgn, hgl, hgc⟩ := HLc.out.2 i hiR
        have hgS : g ∉ p :: r :: q :: ro :: Sg := fun e => by
          have z1 := H4.out.2.2.1
          simp only [List.mem_cons, not_or] at hgn e
          rcases e with e | e | e | e | e
          · exact hgn.1 e
          · exact hgn.2.1 e
          · omega
          · omega
          · exact hgn.2.2 e
        have hcell := kp_cell HR.out.2.1 hgS (kp_cell H4.out.1 (by simp) hgc)
        have hbS : b1 ∉ p :: r :: q :: ro :: Sg := fun e => by
          have z1 := H4.out.2.2.2
          have z2 := HA.out.2.2.2.1
          simp only [List.mem_cons] at e
          rcases e with e | e | e | e | e
          · have := z2 p (by simp); omega
          · have := z2 r (by simp); omega
          · omega
          · omega
          · have := z2 b1 (by simp [e]); omega
        have hmem : R.getD i 0 ∈ R := by
          rw [List.getD_eq_getElem?_getD, List.getElem?_eq_getElem hiR]
          exact List.getElem_mem hiR
        have hy := HLc.out.1 _ hmem
        have htt := HT.out
        have hmt := mu_tr (room := room) (N := H.length) (G := gpOf O H o tel) (fun y hy => own_lt HG.out hy) X1 (R.getD i 0)
        have HTr := Lib.hid (treat_any (gf := gf) HG.out hT ho HTL.out hS.mrk hS.wi.own (by omega) hy)
        have HDr := Lib.hid (fun wq (hq : Mrk T n p r q ro room Sg H TL (trS (gpOf O H o tel) room X1 (R.getD i 0)) (t1 + 2) wq) => drain_is (gf := gf) HG.out hT ho HTL.out hq (hS.wi.tr _) (by omega))
        have HSx := Lib.hid (fun w2 (X2 : Mkg) t2 hw hd hm => Sta.next (w' := w2) (X2 := X2) (t2 := t2) HG.out hS hiR hw hd hm)
        have HRk := Lib.hid (And.intro HR.out.2.1 (And.intro HR.out.2.2 (And.intro hbS (And.intro hm1 (And.intro ht1 hmt)))))
        obtain ⟨a0, a1, a2, a3, a4, a5, a6, a7⟩ := HR.out.2.2
        subst hao
        generalize R.getD i 0 = y at *
        clear hgn hgl hgc hgS hbS hmem hy htt hmt HR hS hm1 ht1
        go_wp2_with fail
        refine HTr.out.mono ?_
        rintro e w5 ⟨rfl, m5, k5⟩
        have HD5 := Lib.hid (HDr.out w5 m5)
        have B5 := Lib.hid (HRk.out.2.1.keep k5 HRk.out.2.2.1)
        have K5 := Lib.hid (HRk.out.1.trans k5)
        clear a0 a1 a2 a3 a4 a5 a6 a7 m5 k5 HTr HDr
        obtain ⟨a0, a1, a2, a3, a4, a5, a6, a7⟩ := B5.out
        go_wp2_with fail
        refine HD5.out.mono ?_
        rintro e w6 ⟨rfl, X2, t2, hd2, hw2, hm2, ht2, m6, k6⟩
        have HN : Hid ((∃ X1 t1, Sta T n p r q ro o room Sg H O tel TL R (i + 1) X1 t1 w6 ∧ muM (gpOf O H o tel) H.length X1 ≤ mu0 ∧ t1 + 300 * muM (gpOf O H o tel) H.length X1 ≤ t + 300 * mu0 + 2 * (i + 1)) ∧ Kp (p :: r :: q :: ro :: Sg) w4 w6 ∧ BoxM p T n o room gf q b1 w6) := Lib.hid (by
          have z1 := HRk.out.2.2.2.1
          have z2 := HRk.out.2.2.2.2.1
          have z3 := HRk.out.2.2.2.2.2
          exact ⟨⟨X2, t2, HSx.out w6 X2 t2 hw2 hd2 m6, by omega, by omega⟩, K5.out.trans k6, B5.out.keep k6 HRk.out.2.2.1⟩)
        clear hd2 hw2 hm2 ht2 m6 k6
        go_wp2_with fail
        go_roundg (M - (i + 1))
        case rel => exact ⟨i + 1, by omega, by go_num, HN⟩
        case measure => omega
      · have eiM : i = M := by omega
        have hg0 : ∃ X1 t1 g0, 2 * cntM (gpOf O H o tel) H.length X1 + X1.ov.toNat = g0 ∧ Hid (Sta T n p r q ro o room Sg H O tel TL R M X1 t1 wr ∧ t1 + 300 * muM (gpOf O H o tel) H.length X1 + KK * g0 ≤ 800000000000 ∧ Kp (p :: r :: q :: ro :: Sg) w4 wr ∧ BoxM p T n o room gf q b1 wr) := by
          rw [eiM] at hS ht1
          refine ⟨X1, t1, _, rfl, Lib.hid ⟨hS, ?_, HR.out.2.1, HR.out.2.2⟩⟩
          have hst := hS.st
          have hmu : muM (gpOf O H o tel) H.length X1 = 2 * cntM (gpOf O H o tel) H.length X1 := by unfold muM cntM; rw [hst]; rfl
          have hov : X1.ov.toNat ≤ 1 := by cases X1.ov <;> decide
          have hle := Nat.mul_le_mul_left KK (show 2 * cntM (gpOf O H o tel) H.length X1 + X1.ov.toNat ≤ mu0 + 1 by omega)
          have := HT.out
          omega
        obtain ⟨X1', t1', g0, hg0e, hg0r⟩ := hg0
        clear hS ht1 hm1 HR eiM X1 t1
        go_wp2_with fail
        clear hiM hi
        go_loopg [] g0 (fun g wr => ∃ X1 t1, 2 * cntM (gpOf O H o tel) H.length X1 + X1.ov.toNat = g ∧ Hid (Sta T n p r q ro o room Sg H O tel TL R M X1 t1 wr ∧ t1 + 300 * muM (gpOf O H o tel) H.length X1 + KK * g ≤ 800000000000 ∧ Kp (p :: r :: q :: ro :: Sg) w4 wr ∧ BoxM p T n o room gf q b1 wr))
        case atStart => exact ⟨X1', t1', hg0e, hg0r⟩
        case round =>
          obtain ⟨X1, t1, hg, HR⟩ := hrel
          clear hg0e hg0r
          have HOv := Lib.hid (HR.out.1.mrk.over HTL.out)
          cases hov : X1.ov with
          | false =>
            rw [hov] at HOv
            have hend := HR.out.1.ji.ends HR.out.1.st hov (fun y hy => HR.out.1.fin y (by rw [HM.out, List.take_of_length_le (Nat.le_refl _)]; exact hy))
            have HE := Lib.hid (And.intro hend HR.out.2.2.1)
            have e0 : ({ X1 with ov := false } : Mkg) = X1 := by rw [← hov]
            rw [e0] at HOv
            clear hend e0 hov HR hg
            go_wp2_with fail
            refine HOv.out.mono ?_
            rintro e w5 ⟨rfl, m5, k5⟩
            have HF : Hid (∃ (X : Mkg) (t' : Nat), (∀ x, X.M x = true ↔ Rc (gpOf O H o tel) R x) ∧ (tel = true → ∀ y, X.tl y = true ↔ ((gpOf O H o tel).glb y = true ∧ y ≠ 0 ∧ (y ∈ R ∨ ∃ x, Rc (gpOf O H o tel) R x ∧ y ∈ (gpOf O H o tel).ref x))) ∧ Hw T 0 n p r (markL H X.M) t' w5 ∧ TL X.tl w5 ∧ Kp (p :: r :: Sg) w w5) := Lib.hid (by
              obtain ⟨t5, _, hh⟩ := m5.hw
              refine ⟨X1, t5, HE.out.1.1, HE.out.1.2, hh, m5.tl, ((H4.out.1.mono (by simp)).trans (HE.out.2.trans k5) : Kp (p :: r :: q :: ro :: Sg) w w5).mono fun g hg hl => ?_⟩
              have z1 := H4.out.2.2.1
              simp only [List.mem_cons] at hg ⊢
              rcases hg with e | e | e | e | e
              · exact .inl e
              · exact .inr (.inl e)
              · omega
              · omega
              · exact .inr (.inr e))
            clear m5 k5 HOv HE
            go_wp2_with fail
            go_ret
            exact ⟨rfl, HF.out⟩
          | true =>
            rw [hov] at HOv hg
            have hst := HR.out.1.st
            have hbd := HR.out.2.1
            have hmu : muM (gpOf O H o tel) H.length ({ X1 with ov := false } : Mkg) = muM (gpOf O H o tel) H.length X1 := rfl
            have hmc : muM (gpOf O H o tel) H.length X1 = 2 * cntM (gpOf O H o tel) H.length X1 := by unfold muM cntM; rw [hst]; rfl
            have hg1 : 1 ≤ gk := by rw [← hg]; simp
            have hKg : KK ≤ KK * gk := Nat.le_mul_of_pos_right KK hg1
            have hrS : 0 ∉ p :: r :: q :: ro :: Sg := fun e => by
              have z1 := H4.out.2.2.1
              have z2 := HA.out.2.2.1
              have z3 := block_lt_of_cell HA.out.2.1.c0
              simp only [List.mem_cons, not_or] at e z2
              rcases e with e | e | e | e | e
              · exact z2.1 e
              · exact z2.2.1 e
              · omega
              · omega
              · exact z2.2.2 e
            have hbS : b1 ∉ p :: r :: q :: ro :: Sg := fun e => by
              have z1 := H4.out.2.2.2
              have z2 := HA.out.2.2.2.1
              simp only [List.mem_cons] at e
              rcases e with e | e | e | e | e
              · have := z2 p (by simp); omega
              · have := z2 r (by simp); omega
              · omega
              · omega
              · have := z2 b1 (by simp [e]); omega
            have hkk := HKK.out
            have HSe := Lib.hid (fun wq (hq : Mrk T n p r q ro room Sg H TL { X1 with ov := false } t1 wq) (kq : Kp (p :: r :: q :: ro :: Sg) w4 wq) => search_is (gf := gf) HG.out hT hn ho HTL.out hq ⟨HR.out.1.wi.own, HR.out.1.wi.st⟩ hst (tab_keep (tab_keep HA.out.2.1 H4.out.1 (by simp)) kq hrS) hrS (by rw [hmu]; omega))
            have HSx := Lib.hid (fun w2 (X2 : Mkg) t2 hw hd hm => Sta.searched (w' := w2) (X2 := X2) (t2 := t2) HG.out hT HR.out.1 hw hd hm)
            have HNum := Lib.hid (And.intro hbd (And.intro hmc (And.intro hg (And.intro hkk (And.intro hmu hst)))))
            have HRk := Lib.hid (And.intro HR.out.2.2.1 (And.intro HR.out.2.2.2 hbS))
            clear hst hbd hmu hmc hg1 hKg hrS hbS hkk hov HR hg
            go_wp2_with fail
            refine HOv.out.mono ?_
            rintro e w5 ⟨rfl, m5, k5⟩
            have K5 := Lib.hid (HRk.out.1.trans k5)
            have B5 := Lib.hid (HRk.out.2.1.keep k5 HRk.out.2.2)
            have HS5 := Lib.hid (HSe.out w5 m5 K5.out)
            clear m5 k5 HOv HSe
            obtain ⟨a0, a1, a2, a3, a4, a5, a6, a7⟩ := B5.out
            go_wp2_with fail
            refine HS5.out.mono ?_
            rintro e w6 ⟨rfl, X3, t3, hd3, hw3, hs3, hm3, ht3, m6, k6⟩
            obtain ⟨hSt3, hc3, hc4⟩ := HSx.out w6 X3 t3 hw3 hd3 m6
            have hlt3 : 2 * cntM (gpOf O H o tel) H.length X3 + X3.ov.toNat < gk := by
              have z := HNum.out.2.2.1
              have hov3 : X3.ov.toNat = 0 ∨ (X3.ov = true ∧ X3.ov.toNat = 1) := by cases X3.ov <;> simp
              simp only [Bool.toNat_true] at z
              rcases hov3 with e | ⟨e, e2⟩
              · omega
              · have := hc4 e; omega
            have HN := Lib.hid (show ∃ X1 t1, 2 * cntM (gpOf O H o tel) H.length X1 + X1.ov.toNat = 2 * cntM (gpOf O H o tel) H.length X3 + X3.ov.toNat ∧ Hid (Sta T n p r q ro o room Sg H O tel TL R M X1 t1 w6 ∧ t1 + 300 * muM (gpOf O H o tel) H.length X1 + KK * (2 * cntM (gpOf O H o tel) H.length X3 + X3.ov.toNat) ≤ 800000000000 ∧ Kp (p :: r :: q :: ro :: Sg) w4 w6 ∧ BoxM p T n o room gf q b1 w6) from ⟨X3, t3, rfl, Lib.hid ⟨hSt3, by
              have z1 := HNum.out.1
              have z2 := HNum.out.2.2.2.1
              have z3 := Nat.mul_le_mul_left KK (show 2 * cntM (gpOf O H o tel) H.length X3 + X3.ov.toNat + 1 ≤ gk by omega)
              rw [Nat.mul_add, Nat.mul_one] at z3
              rw [HNum.out.2.2.2.2.1] at ht3
              omega, K5.out.trans k6, B5.out.keep k6 HRk.out.2.2⟩⟩)
            have HL3 := Lib.hid hlt3
            clear hSt3 hc3 hc4 hlt3 hd3 hw3 hs3 hm3 ht3 m6 k6 HSx HNum HRk HS5
            go_wp2_with fail
            go_roundg (2 * cntM (gpOf O H o tel) H.length X3 + X3.ov.toNat)
            case rel => exact HN.out
            case measure => exact HL3.out
end
end Go.Proofs.YtdbbkncjhnafdaaGreatDoor

namespace Go.Proofs.YtdbbkncjhnafdaaGreatDoor
set_option linter.unusedVariables false
set_option linter.unusedSimpArgs false
set_option maxRecDepth 100000
open Go.RowKit
section
variable {Bz T n db dc : Nat} {H : List Int} {w w' : World}
theorem dhead_yes (h : Dh Bz T 0 n db dc H w) {x : Nat} (hx : x < H.length) (hT : Wd.takeB (H.getD x 0) = true) :
    Calls Tryz.prog 20 #[.slice (some ⟨db, 0, none⟩) H.length dc, .int .i64 x] w fun e w' => e = .returned (.agg #[.int .u8 (H.getD x 0 % 4), .int .u8 (H.getD x 0 / 4 % 2), .bool (H.getD x 0 / 8 % 2 == 1), .bool (H.getD x 0 / 16 % 2 == 1), .int .u8 (H.getD x 0 / 32 % 64), .int .u8 (H.getD x 0 / 2048 % 128), .int .u8 (H.getD x 0 / 262144 % 128)]) ∧ Kp [] w w' := by
  obtain ⟨X, hX⟩ : ∃ X, X = H.getD x 0 := ⟨_, rfl⟩
  have hxc := h.cell hx
  have h0 := h.ok x
  have htop := h.top
  obtain ⟨N, hN⟩ : ∃ N, N = H.length := ⟨_, rfl⟩
  rw [← hX] at hxc h0 hT ⊢
  rw [← hN] at hx htop ⊢
  have hT' := hT
  simp only [Wd.takeB, Bool.and_eq_true, decide_eq_true_eq] at hT'
  have HTk := Lib.hid (fun wq => Wd.rtake_yes X wq h0.1 h0.2 hT'.1 hT'.2)
  generalize X % 4 = p0 at *
  generalize X / 4 % 2 = p1 at *
  generalize (X / 8 % 2 == 1) = p2 at *
  generalize (X / 16 % 2 == 1) = p3 at *
  generalize X / 32 % 64 = p4 at *
  generalize X / 2048 % 128 = p5 at *
  generalize X / 262144 % 128 = p6 at *
  obtain ⟨w1, hw1⟩ : ∃ w1, w1 = w.alloc (.cells #[.int .u8 0, .int .u8 0, .bool false, .bool false, .int .u8 0, .int .u8 0, .int .u8 0] 64) := ⟨_, rfl⟩
  have kb : Kp [] w w1 := by rw [hw1]; exact (Kp.refl _ _).alloc _
  have r0 : w1.heap[w.heap.size]? = some (.cells #[.int .u8 0, .int .u8 0, .bool false, .bool false, .int .u8 0, .int .u8 0, .int .u8 0] 64 (0, 0)) := by rw [hw1]; exact heap_alloc_new _ _
  have hxc := kp_cell kb (by simp) hxc
  have HB := Lib.hid (And.intro kb r0)
  have hx1 : ¬ ((x : Int) < 0) := by omega
  have hx2 : ¬ ((N : Int) ≤ (x : Int)) := by omega
  have hx3 : decide (N ≤ x) = false := by simp; omega
  clear h h0 hT hT' hX hN kb r0
  go_enter Tryz.func20, Tryz.ntmps20
  go_upto_region 1 with (fail)
  rw [← hw1]
  clear hw1
  go_wp2_with fail
  refine (HTk.out w1).mono ?_
  rintro e w2 ⟨rfl, k2⟩
  have k2 := kp_of_below k2
  have r2 := k2.row (by simp) HB.out.2
  have ka : Kp [] w2 (w2.alloc (.cells #[.int .u8 p0, .int .u8 p1, .bool p2, .bool p3, .int .u8 p4, .int .u8 p5, .int .u8 p6] 64)) := (Kp.refl _ _).alloc _
  have r3 := ka.row (by simp) r2
  have H3 := Lib.hid (And.intro k2 (And.intro ka r3))
  have z0 := (cell_of_row r3 0).trans (show _ = some (.int .u8 0) from rfl)
  have z1 := (cell_of_row r3 1).trans (show _ = some (.int .u8 0) from rfl)
  have z2 := (cell_of_row r3 2).trans (show _ = some (.bool false) from rfl)
  have z3 := (cell_of_row r3 3).trans (show _ = some (.bool false) from rfl)
  have z4 := (cell_of_row r3 4).trans (show _ = some (.int .u8 0) from rfl)
  have z5 := (cell_of_row r3 5).trans (show _ = some (.int .u8 0) from rfl)
  have z6 := (cell_of_row r3 6).trans (show _ = some (.int .u8 0) from rfl)
  have f0 := free_of_row r3 0
  have f1 := free_of_row r3 1
  have f2 := free_of_row r3 2
  have f3 := free_of_row r3 3
  have f4 := free_of_row r3 4
  have f5 := free_of_row r3 5
  have f6 := free_of_row r3 6
  clear k2 r2 ka r3
  go_wp2_with fail
  refine bodyPost_row rfl w.heap.size 64 #[.int .u8 p0, .int .u8 p1, .bool p2, .bool p3, .int .u8 p4, .int .u8 p5, .int .u8 p6] (0, 0) _ rfl rfl (set7_row H3.out.2.2 _ _ _ _ _ _ _) Tryz.underlying64 rfl (by kernel_rfl) ⟨rfl, set7_kp _ _ _ _ _ _ _ ((HB.out.1.trans H3.out.1).trans H3.out.2.1) (Nat.le_refl _)⟩
theorem dhead_no (h : Dh Bz T 0 n db dc H w) {x : Nat} (hx : x < H.length) (hT : Wd.takeB (H.getD x 0) = false) :
    Calls Tryz.prog 20 #[.slice (some ⟨db, 0, none⟩) H.length dc, .int .i64 x] w fun e w' => e = .returned (.agg #[.int .u8 0, .int .u8 0, .bool false, .bool false, .int .u8 0, .int .u8 0, .int .u8 0]) ∧ Kp [] w w' := by
  obtain ⟨X, hX⟩ : ∃ X, X = H.getD x 0 := ⟨_, rfl⟩
  have hxc := h.cell hx
  have h0 := h.ok x
  have htop := h.top
  obtain ⟨N, hN⟩ : ∃ N, N = H.length := ⟨_, rfl⟩
  rw [← hX] at hxc h0 hT
  rw [← hN] at hx htop ⊢
  have HTk : Hid (∀ wq, Calls Tryz.prog 33 #[.int .u64 X] wq fun e w' => e = .returned (.tuple #[.agg #[.int .u8 0, .int .u8 0, .bool false, .bool false, .int .u8 0, .int .u8 0, .int .u8 0], .int .i64 3]) ∧ Below wq.heap.size wq w') := Lib.hid fun wq => by
    cases hm : Wd.mayB (X % 4) (X / 4 % 2) (X / 32 % 64) (X / 2048 % 128) (X / 262144 % 128) (X / 8 % 2 == 1) (X / 16 % 2 == 1) with
    | false => exact Wd.rtake_no1 X wq h0.1 h0.2 hm
    | true =>
      refine Wd.rtake_no2 X wq h0.1 h0.2 ?_ hm
      simp only [Wd.takeB, hm, Bool.and_true, decide_eq_false_iff_not] at hT
      omega
  obtain ⟨w1, hw1⟩ : ∃ w1, w1 = w.alloc (.cells #[.int .u8 0, .int .u8 0, .bool false, .bool false, .int .u8 0, .int .u8 0, .int .u8 0] 64) := ⟨_, rfl⟩
  have kb : Kp [] w w1 := by rw [hw1]; exact (Kp.refl _ _).alloc _
  have r0 : w1.heap[w.heap.size]? = some (.cells #[.int .u8 0, .int .u8 0, .bool false, .bool false, .int .u8 0, .int .u8 0, .int .u8 0] 64 (0, 0)) := by rw [hw1]; exact heap_alloc_new _ _
  have hxc := kp_cell kb (by simp) hxc
  have HB := Lib.hid (And.intro kb r0)
  have hx1 : ¬ ((x : Int) < 0) := by omega
  have hx2 : ¬ ((N : Int) ≤ (x : Int)) := by omega
  have hx3 : decide (N ≤ x) = false := by simp; omega
  clear h h0 hT hX hN kb r0
  go_enter Tryz.func20, Tryz.ntmps20
  go_upto_region 1 with (fail)
  rw [← hw1]
  clear hw1
  go_wp2_with fail
  refine (HTk.out w1).mono ?_
  rintro e w2 ⟨rfl, k2⟩
  have k2 := kp_of_below k2
  have r2 := k2.row (by simp) HB.out.2
  have ka : Kp [] w2 (w2.alloc (.cells #[.int .u8 0, .int .u8 0, .bool false, .bool false, .int .u8 0, .int .u8 0, .int .u8 0] 64)) := (Kp.refl _ _).alloc _
  have r3 := ka.row (by simp) r2
  have H3 := Lib.hid (And.intro k2 (And.intro ka r3))
  have z0 := (cell_of_row r3 0).trans (show _ = some (.int .u8 0) from rfl)
  have z1 := (cell_of_row r3 1).trans (show _ = some (.int .u8 0) from rfl)
  have z2 := (cell_of_row r3 2).trans (show _ = some (.bool false) from rfl)
  have z3 := (cell_of_row r3 3).trans (show _ = some (.bool false) from rfl)
  have z4 := (cell_of_row r3 4).trans (show _ = some (.int .u8 0) from rfl)
  have z5 := (cell_of_row r3 5).trans (show _ = some (.int .u8 0) from rfl)
  have z6 := (cell_of_row r3 6).trans (show _ = some (.int .u8 0) from rfl)
  have f0 := free_of_row r3 0
  have f1 := free_of_row r3 1
  have f2 := free_of_row r3 2
  have f3 := free_of_row r3 3
  have f4 := free_of_row r3 4
  have f5 := free_of_row r3 5
  have f6 := free_of_row r3 6
  clear k2 r2 ka r3
  go_wp2_with fail
  refine bodyPost_row rfl w.heap.size 64 #[.int .u8 0, .int .u8 0, .bool false, .bool false, .int .u8 0, .int .u8 0, .int .u8 0] (0, 0) _ rfl rfl (set7_row H3.out.2.2 _ _ _ _ _ _ _) Tryz.underlying64 rfl (by kernel_rfl) ⟨rfl, set7_kp _ _ _ _ _ _ _ ((HB.out.1.trans H3.out.1).trans H3.out.2.1) (Nat.le_refl _)⟩
end
end Go.Proofs.YtdbbkncjhnafdaaGreatDoor

namespace Go.Proofs.YtdbbkncjhnafdaaGreatDoor
open List renaming set_cons_succ → scS, getElem?_cons_zero → gqZ
set_option linter.unusedVariables false
set_option linter.unusedSimpArgs false
set_option maxRecDepth 100000
open Go.RowKit

/-- Words over which the document's mark may be asked: objects have headers, and their references lead to objects, or nowhere. -/
structure Dw (O : Obs) (H : List Int) : Prop where
  tb : ∀ x, (O x).isSome = true → 0 < x ∧ x < H.length ∧ Wd.takeB (H.getD x 0) = true
  rf : ∀ x, (O x).isSome = true → ∀ q, q < (H.getD x 0 / 2048 % 128).toNat → x + 1 + q < H.length ∧ (H.getD (x + 1 + q) 0 = 0 ∨ ∃ y : Nat, H.getD (x + 1 + q) 0 = y ∧ (O y).isSome = true)

/-- A row of truths. -/
def mbls (B : List Bool) : Array Value := (B.map Value.bool).toArray
theorem mbls_set (B : List Bool) (i : Nat) (y : Bool) : (mbls B).setIfInBounds i (.bool y) = mbls (B.set i y) := by simp [mbls, List.map_set]
def MBl (w : World) (r : Nat) (B : List Bool) : Prop := w.heap[r]? = some (.cells (mbls B) 4 (0, 0))
theorem MBl.cell {w : World} {r : Nat} {B : List Bool} (h : MBl w r B) {i : Nat} (hi : i < B.length) : w.cell? ⟨r, i, none⟩ = some (.bool (B.getD i false)) := by
  rw [cell_of_row h]
  simp [mbls, List.getD, hi]
theorem MBl.free {w : World} {r : Nat} {B : List Bool} (h : MBl w r B) (i : Nat) : w.frozen? ⟨r, i, none⟩ = false := free_of_row h i
theorem MBl.keep {S : List Nat} {w w' : World} {r : Nat} {B : List Bool} (h : MBl w r B) (k : Kp S w w') (hr : r ∉ S) : MBl w' r B := k.row hr h
theorem MBl.set {w : World} {r : Nat} {B : List Bool} (h : MBl w r B) (i : Nat) (y : Bool) : MBl (w.setCell ⟨r, i, none⟩ (.bool y)) r (B.set i y) := by
  have := heap_setCell_same w r i _ _ (.bool y) h
  rw [mbls_set] at this
  exact this
theorem mmake_bools (n : Nat) (h2 : n ≤ 100000) (w : World) : (Instr.makeSlice 34 (.int .i64 (n : Int)) (.int .i64 (n : Int))).run Tryz.prog w = .ok (.slice (some ⟨w.heap.size, 0, none⟩) n n) (w.alloc (.cells (mbls (List.replicate n false)) 4)) := by
  obtain ⟨i, hi, hz0, hz1, hz2⟩ := info_parts (P := Tryz.prog) (e := 4) (z := .bool false) (size := 1) (bytes := 1) (by kernel_rfl)
  have := run_make (P := Tryz.prog) w 34 4 i (.bool false) Tryz.underlying34 hi hz0 .i64 .i64 n n (by omega) (Int.le_refl _) (by rw [hz2]; omega) (by omega)
  rw [this, hz1]
  have e : madeCells #[.bool false] n = mbls (List.replicate n false) := by
    apply Array.ext'
    rw [toList_madeCells_one]
    simp [mbls]
  simp [Value.cells, e]
theorem mgetD_set (B : List Bool) (i j : Nat) (h : i < B.length) : (B.set i true).getD j false = if j = i then true else B.getD j false := by
  simp only [List.getD]
  by_cases hj : j = i
  · subst hj
    rw [if_pos rfl, List.getElem?_set_self h]
    rfl
  · rw [if_neg hj, List.getElem?_set_ne (by omega)]
/-- How many are not yet. -/
def mcnt (B : List Bool) : Nat := B.countP (fun b => !b)
theorem mcnt_set (B : List Bool) (i : Nat) (h : i < B.length) (hb : B.getD i false = false) : mcnt (B.set i true) + 1 = mcnt B := by
  unfold mcnt
  induction B generalizing i with
  | nil => simp at h
  | cons a l ih =>
    cases i with
    | zero =>
      simp only [List.getD_cons_zero] at hb
      subst hb
      simp
    | succ i =>
      have := ih i (by simpa using h) (by simpa using hb)
      simp only [scS, List.countP_cons]
      omega

section
variable {Bz T n db dc : Nat} {H : List Int} {w w' : World} {O : Obs} {o : Nat} {tel : Bool}
/-- A header by value, whatever lies there. -/
abbrev mh7 (k c : Int) (g m : Bool) (o r s : Int) : Array Value := #[.int .u8 k, .int .u8 c, .bool g, .bool m, .int .u8 o, .int .u8 r, .int .u8 s]
theorem dhead_any (h : Dh Bz T 0 n db dc H w) {x : Nat} (hx : x < H.length) :
    Calls Tryz.prog 20 #[.slice (some ⟨db, 0, none⟩) H.length dc, .int .i64 x] w fun e w' => (∃ k c g m o' r s, e = .returned (.agg (mh7 k c g m o' r s)) ∧ (Wd.takeB (H.getD x 0) = true → k = H.getD x 0 % 4 ∧ o' = H.getD x 0 / 32 % 64)) ∧ Kp [] w w' := by
  cases hT : Wd.takeB (H.getD x 0) with
  | true => exact (dhead_yes h hx hT).mono fun e w' ⟨he, hk⟩ => ⟨⟨_, _, _, _, _, _, _, he, fun _ => ⟨rfl, rfl⟩⟩, hk⟩
  | false => exact (dhead_no h hx hT).mono fun e w' ⟨he, hk⟩ => ⟨⟨_, _, _, _, _, _, _, he, fun h => by cases h⟩, hk⟩
/-- What an object's header says by value. -/
theorem Dw.own (hD : Dw O H) {y : Nat} (hy : (O y).isSome = true) {k o' : Int} (h : Wd.takeB (H.getD y 0) = true → k = H.getD y 0 % 4 ∧ o' = H.getD y 0 / 32 % 64) : (gpOf O H o tel).own y = (decide (k = 2) && decide (o' = o)) ∧ (gpOf O H o tel).glb y = decide (k = 3) := by
  obtain ⟨h1, h2⟩ := h (hD.tb y hy).2.2
  subst h1; subst h2
  simp [gpOf, hy]
theorem Rc.some {R : List Nat} {x : Nat} (h : Rc (gpOf O H o tel) R x) : (O x).isSome = true := by
  have := h.own
  simp only [gpOf, Bool.and_eq_true] at this
  exact this.1.1

/-- One number more behind a row of words. -/
theorem app_one64 {w : World} {v : Value} {xs : List Value} {m : Nat} {base : Nat} (hown : Gx.Rw 53 1 base w v m xs) (hb : base ≤ w.heap.size) (z : Int) (hl : m ≤ 100000) (ty : TypeId) :
    ∃ g cap w', (Builtin.append_ #[35, 35] ty #[v, .slice (some ⟨w.heap.size, 0, none⟩) 1 1]).run Tryz.prog (w.alloc (.cells #[.int .u64 z] 53)) = .ok (.slice (some ⟨g, 0, none⟩) (m + 1) cap) w' ∧ Gx.Rw 53 1 base w' (.slice (some ⟨g, 0, none⟩) (m + 1) cap) (m + 1) (xs ++ [.int .u64 z]) ∧ Kp (Gx.blk v) w w' ∧ (g ∈ Gx.blk v ∨ w.heap.size ≤ g) := by
  have ka : Kp [] w (w.alloc (.cells #[.int .u64 z] 53)) := (Kp.refl _ _).alloc _
  obtain ⟨i, hi, hz0, hz1, hz2⟩ := info_parts (show (Tryz.prog.info? 53).map (fun i => (i.zero, i.size, i.bytes)) = some (some (.int .u64 0), 1, 8) by kernel_rfl)
  obtain ⟨g, cap, w', hrun, hrw, hkp, hg⟩ := Gx.run_app (T := 53) (t := 35) (ty := ty) (base := base) Tryz.underlying35 ⟨i, _, hi, hz0, hz1, hz2, rfl⟩ (by decide) (hown.keep0 ka) (Nat.le_trans hb ka.size) ⟨w.heap.size, 0, none⟩ 1 1 [.int .u64 z] rfl (by
    intro j u hu
    match j, hu with
    | 0, hu =>
      simp only [gqZ, Option.some.injEq] at hu
      subst hu
      rw [Addr.add_lit]
      exact cell_of_row (heap_alloc_new w (.cells #[.int .u64 z] 53)) 0
    | j + 1, hu => simp at hu) (by
    intro u hu
    simp only [List.mem_singleton] at hu
    subst hu
    rfl) (by omega) (by omega) (by omega)
  have ks := ka.size
  exact ⟨g, cap, w', hrun, hrw, (ka.mono (by simp)).trans hkp, hg.imp id fun e => by omega⟩

/-- An object's references, as values. -/
def refV (H : List Int) (x M : Nat) : List Value := (List.range M).map fun q => .int .u64 (H.getD (x + 1 + q) 0)
theorem refV_succ (H : List Int) (x M : Nat) : refV H x (M + 1) = refV H x M ++ [.int .u64 (H.getD (x + 1 + M) 0)] := by simp [refV, List.range_succ]
theorem refV_get (H : List Int) (x M q : Nat) (h : q < M) : (refV H x M)[q]? = some (.int .u64 (H.getD (x + 1 + q) 0)) := by simp [refV, h]
set_option maxHeartbeats 1000000 in
theorem drefs_any (h : Dh Bz T 0 n db dc H w) {x : Nat} (hx : x < H.length) (hT : Wd.takeB (H.getD x 0) = true) (M : Nat) (hM : (H.getD x 0 / 2048 % 128).toNat = M) (hin : ∀ q, q < M → x + 1 + q < H.length) :
    Calls Tryz.prog 44 #[.slice (some ⟨db, 0, none⟩) H.length dc, .int .i64 x] w fun e w' => ∃ ao c, e = .returned (.slice ao M c) ∧ Gx.Rw 53 1 w.heap.size w' (.slice ao M c) M (refV H x M) ∧ Kp [] w w' := by
  have hxc := h.cell hx
  have h0 := h.ok x
  have htop := h.top
  have hX2 : H.getD x 0 / 2048 % 128 = M := by omega
  obtain ⟨X, hX⟩ : ∃ X, X = H.getD x 0 := ⟨_, rfl⟩
  rw [← hX] at hxc h0 hT hX2 hM
  have hM2 : M ≤ 127 := by omega
  have hT' := hT
  simp only [Wd.takeB, Bool.and_eq_true, decide_eq_true_eq] at hT'
  have HTk := Lib.hid (fun wq => Wd.rtake_yes X wq h0.1 h0.2 hT'.1 hT'.2)
  rw [hX2] at HTk
  generalize X % 4 = p0 at *
  generalize X / 4 % 2 = p1 at *
  generalize (X / 8 % 2 == 1) = p2 at *
  generalize (X / 16 % 2 == 1) = p3 at *
  generalize X / 32 % 64 = p4 at *
  generalize X / 262144 % 128 = p6 at *
  have HD := Lib.hid h
  obtain ⟨N, hN⟩ : ∃ N, N = H.length := ⟨_, rfl⟩
  rw [← hN] at hx htop hin ⊢
  have HN := Lib.hid hN
  have hxN : x < N := hx
  clear h h0 hT hT' hX hX2 hM hN
  go_enter Tryz.func44, Tryz.ntmps44
  go_wp2_with fail
  refine (HTk.out _).mono ?_; rintro e w1 ⟨rfl, hk⟩
  have hk := kp_of_below hk
  have K1 := Lib.hid (hk.alloc (.cells (mh7 p0 p1 p2 p3 p4 M p6) 64))
  have HB1 := Lib.hid (heap_alloc_new w1 (.cells (mh7 p0 p1 p2 p3 p4 M p6) 64))
  clear hk hxc
  go_upto_region 3 with (fail)
  generalize hz1 : w1.heap.size = z1 at *
  generalize w1.alloc (.cells (mh7 p0 p1 p2 p3 p4 M p6) 64) = w2 at *
  clear hz1
  go_wp2_with fail
  go_loopg [5, 8] M (fun gg v5 v8 wr => ∃ q : Nat, ∃ ao c, q + gg = M ∧ v8 = .int .i64 q ∧ v5 = .slice ao q c ∧ Hid (Kp [] w2 wr ∧ Gx.Rw 53 1 w2.heap.size wr (.slice ao q c) q (refV H x q)))
  case atStart => exact ⟨0, none, 0, by omega, rfl, rfl, Lib.hid ⟨Kp.refl _ _, Gx.Rw.nil _ _ _ _⟩⟩
  case round =>
    obtain ⟨q, ao, cq, hq, rfl, rfl, HR⟩ := hrel
    have e5 := (cell_of_row (HR.out.1.row (by simp) HB1.out) 5).trans (show _ = some (.int .u8 (M : Int)) from rfl)
    by_cases hlt : q < M
    · have hs := refV_succ H x q
      have hi := hin q hlt
      have cc := (HD.out.on (K1.out.trans HR.out.1)).cell (k := x + 1 + q) (by rw [← HN.out]; exact hi)
      obtain ⟨y, hy⟩ : ∃ y, H.getD (x + 1 + q) 0 = y := ⟨_, rfl⟩
      rw [hy] at cc hs
      clear hy
      obtain ⟨ao8, cap8, w8, hrun8, hrw8, hk8, -⟩ := app_one64 HR.out.2 HR.out.1.size y (by omega) 35
      have HRun := Lib.hid hrun8
      have F8 : Hid (Kp [] w2 w8 ∧ Gx.Rw 53 1 w2.heap.size w8 (.slice (some ⟨ao8, 0, none⟩) (q + 1) cap8) (q + 1) (refV H x (q + 1))) := Lib.hid ⟨HR.out.2.old rfl HR.out.1 hk8, by rw [hs]; exact hrw8⟩
      clear hrun8 hrw8 hk8 hs HR
      go_wp2_with (at_builtin; refine Gx.wpList_append_eq rfl (.tmp 39) (.tmp 41) 35 rfl _ _ _ rfl rfl HRun.out ?_)
      go_roundg (M - (q + 1))
      case rel => exact ⟨q + 1, _, _, by omega, by go_num, rfl, F8⟩
      case measure => omega
    · obtain rfl : q = M := by omega
      have F : Hid (Gx.Rw 53 1 w.heap.size wr (.slice ao q cq) q (refV H x q) ∧ Kp [] w wr) := Lib.hid ⟨(by
        have hs := K1.out.size
        rcases HR.out.2.own.2 with ⟨e, h0⟩ | ⟨b, c', cur, he, hge, r⟩
        · exact ⟨HR.out.2.own.1, .inl ⟨e, h0⟩⟩
        · exact ⟨HR.out.2.own.1, .inr ⟨b, c', cur, he, Nat.le_trans hs hge, r⟩⟩), K1.out.trans HR.out.1⟩
      clear HR
      go_wp2_with fail
      go_ret
      exact ⟨ao, cq, rfl, F.out⟩
end
end Go.Proofs.YtdbbkncjhnafdaaGreatDoor
