/- Package mark, its walks, on: Mark as a whole. Package mark, its walks, on: Mark as a whole, walked. The document's mark: a header by value. The document's mark, on: a header, whatever lies there; an object's references; rows of truths. The document's mark, on: Reached. The document's mark, on: Told, Marked. The document's mark, on: Marked; marked words have the same objects. Law 18, its parts: a map of truths that is told, who is told by a map or a box, places by their numbers, Mark's errors. Law 18, its parts, on: places by their numbers, how great a heap may be, the known heap. Conditions: as each theorem states them. -/
import Derived.Maps.Own
import Derived.Maps.OwnSet
import Derived.Maps.Views
import Derived.WalkArith
import Derived.WalkKit
import Derived.Test.YticbnckikkdknaaGreatDoorPr17
namespace Go.Proofs.YticbnckikkdknaaGreatDoor
set_option linter.unusedVariables false
set_option linter.unusedSimpArgs false
set_option maxRecDepth 100000
open Go.RowKit
/-- How many own ones are not marked. -/
def cntM (G : Gp) (N : Nat) (X : Mkg) : Nat := (List.range N).countP (fun x => G.own x && !X.M x)
/-- What overflowed has marked. -/
def Po (G : Gp) (N c0 : Nat) (X : Mkg) : Prop := cntM G N X ≤ c0 ∧ (X.ov = true → cntM G N X < c0)
section
variable {T n p r q ro o room t N c0 : Nat} {gf : Value} {H : List Int} {w w' : World} {Rs : Nat → Nat → List Int} {O : Obs} {V : Nat → Int} {F : Nat → Nat → Int} {tel : Bool} {Sg : List Nat} {TL : (Nat → Bool) → World → Prop} {X X' : Mkg} {G : Gp} {R : List Nat} {E : Nat → Prop}
theorem Po.tr (hN : ∀ y, G.own y = true → y < N) (h : Po G N c0 X) (y : Nat) : Po G N c0 (trS G room X y) := by
  unfold trS
  split
  · exact h
  · split
    · exact h
    · split
      · rename_i ho
        have hc := cnt_less (fun x => G.own x && !X.M x) (fun x => G.own x && !(X.M x || decide (x = y))) y ho (fun x => by cases G.own x <;> cases X.M x <;> simp) N
        rw [if_pos (hN y (Bool.and_eq_true _ _ ▸ ho).1)] at hc
        have h1 := h.1
        unfold Po cntM at *
        simp only
        exact ⟨by omega, fun _ => by omega⟩
      · exact h
theorem Po.lo (hN : ∀ y, G.own y = true → y < N) (l : List Nat) : ∀ {X : Mkg}, Po G N c0 X → Po G N c0 (loS G room X l) := by
  induction l with
  | nil => exact fun h => h
  | cons y l ih => exact fun h => ih (h.tr hN y)
theorem Po.dr (hN : ∀ y, G.own y = true → y < N) (d : Dr G room X X') : Po G N c0 X → Po G N c0 X' := by
  induction d with
  | nil X h => exact fun h => h
  | step X X' st x h k ih => exact fun hp => ih (Po.lo hN _ hp)
theorem Po.se (hN : ∀ y, G.own y = true → y < N) {l : List Nat} (d : Se G room l X X') : Po G N c0 X → Po G N c0 X' := by
  induction d with
  | nil X => exact fun h => h
  | skip l X X1 x h k ih => exact ih
  | hit l X X1 X2 x h k dd ih => exact fun hp => Po.dr hN dd (Po.lo hN _ (ih hp))
/-- It had overflowed: all are excused, and searched. -/
theorem Ji.over (h : Ji G R E X) : Ji G R (fun _ => True) { X with ov := false } := ⟨h.mr, h.tl, h.st, fun x hx => by
  rcases h.dn x hx with d | d | d | d
  · exact .inl d
  · exact .inr (.inl d)
  · exact .inr (.inr (.inr trivial))
  · exact .inr (.inr (.inr trivial))⟩
theorem Mrk.over (h : Mrk T n p r q ro room Sg H TL X t w) (hTL : TlOk p r q ro Sg gf tel TL) :
    Calls Tryz.prog 36 #[.pointer (some ⟨q, 0, none⟩)] w fun e w' => e = .returned (.bool X.ov) ∧ Mrk T n p r q ro room Sg H TL { X with ov := false } t w' ∧ Kp (p :: r :: q :: ro :: Sg) w w' := by
  refine (Sk.sover_any w q ro room (X.st.map Int.ofNat) X.ov h.sk).mono ?_
  rintro e w' ⟨rfl, hs, k⟩
  obtain ⟨t0, h0, h1⟩ := h.hw
  have hne := h.ne
  have sg := hTL.sg
  exact ⟨rfl, ⟨⟨t0, h0, h1.keep k (by simp; omega) (by simp; omega)⟩, hs, hTL.keep _ _ _ _ (by intro g hg; simp at hg; rcases hg with rfl | rfl; exact sg.2.2.1; exact sg.2.2.2) k h.tl, h.ne, fun g hg => Nat.lt_of_lt_of_le (h.lt g hg) k.size⟩, k.mono fun g hg _ => by simp at hg ⊢; omega⟩
/-- Each own object is searched. -/
theorem own_searched (hG : Gd T n H Rs O V F) (hT : T ≤ 64) {x : Nat} (hx : (gpOf O H o tel).own x = true) : x ∈ parL T n o H n 0 := by
  obtain ⟨b, i, h1, h2, h3⟩ := hG.own_cell hT hx
  unfold parL
  rw [List.mem_append]
  refine .inl (List.mem_flatMap.2 ⟨b, List.mem_range.2 h1, List.mem_map.2 ⟨i, List.mem_range.2 h2, h3.symm⟩⟩)
/-- Where a marking stands between two places, or two searches. -/
structure Sta (T n p r q ro o room : Nat) (Sg : List Nat) (H : List Int) (O : Obs) (tel : Bool) (TL : (Nat → Bool) → World → Prop) (R : List Nat) (i : Nat) (X : Mkg) (t : Nat) (wr : World) : Prop where
  ji : Ji (gpOf O H o tel) R (fun _ => False) X
  fin : ∀ y ∈ R.take i, Fin (gpOf O H o tel) X y
  wi : Wi (gpOf O H o tel) X
  st : X.st = []
  mrk : Mrk T n p r q ro room Sg H TL X t wr
theorem own_lt (hG : Gd T n H Rs O V F) {y : Nat} (hy : (gpOf O H o tel).own y = true) : y < H.length := by
  simp only [gpOf, Bool.and_eq_true] at hy
  cases hO : O y with
  | none => rw [hO] at hy; simp at hy
  | some z =>
    obtain ⟨o2, r2, s2⟩ := z
    have := hG.hp.inn hO
    omega
/-- A place is treated, and what waits is drained: plainly. -/
theorem Sta.next (hG : Gd T n H Rs O V F) {i : Nat} {wr : World} {X1 X2 : Mkg} {t2 : Nat} (h : Sta T n p r q ro o room Sg H O tel TL R i X1 t wr) (hi : i < R.length) (hw : Wi (gpOf O H o tel) X2) (hd : Dr (gpOf O H o tel) room (trS (gpOf O H o tel) room X1 (R.getD i 0)) X2) (hm : Mrk T n p r q ro room Sg H TL X2 t2 w') : Sta T n p r q ro o room Sg H O tel TL R (i + 1) X2 t2 w' := by
  have hA := gp_apt O H o tel
  have hmem : R.getD i 0 ∈ R := by
    rw [List.getD_eq_getElem?_getD, List.getElem?_eq_getElem hi]
    exact List.getElem_mem hi
  have h1 := h.ji.tr (room := room) (y := R.getD i 0) (.inl hmem)
  obtain ⟨a, b, c⟩ := h1.dr hA hd
  refine ⟨a, fun y hy => ?_, hw, c, hm⟩
  rw [List.take_add_one, List.getElem?_eq_getElem hi, List.mem_append] at hy
  rcases hy with hy | hy
  · exact ((h.fin y hy).ge (tr_ge _ _)).ge b
  · have e : y = R.getD i 0 := by
      rw [List.getD_eq_getElem?_getD, List.getElem?_eq_getElem hi]
      simpa using hy
    rw [e]
    exact (tr_fin hA X1 _).ge b
/-- It had overflowed, and all was searched: plainly. -/
theorem Sta.searched (hG : Gd T n H Rs O V F) (hT : T ≤ 64) {i : Nat} {wr : World} {X1 X2 : Mkg} {t2 : Nat} (h : Sta T n p r q ro o room Sg H O tel TL R i X1 t wr) (hw : Wi (gpOf O H o tel) X2) (hd : Se (gpOf O H o tel) room (parL T n o H n 0) { X1 with ov := false } X2) (hm : Mrk T n p r q ro room Sg H TL X2 t2 w') :
    Sta T n p r q ro o room Sg H O tel TL R i X2 t2 w' ∧ cntM (gpOf O H o tel) H.length X2 ≤ cntM (gpOf O H o tel) H.length X1 ∧ (X2.ov = true → cntM (gpOf O H o tel) H.length X2 < cntM (gpOf O H o tel) H.length X1) := by
  have hA := gp_apt O H o tel
  obtain ⟨a, b, c⟩ := h.ji.over.se hA hd h.st
  have hpo := Po.se (c0 := cntM (gpOf O H o tel) H.length X1) (fun y hy => own_lt hG hy) hd ⟨Nat.le_refl _, fun e => by cases e⟩
  refine ⟨⟨⟨a.mr, a.tl, a.st, fun x hx => ?_⟩, fun y hy => (h.fin y hy).ge ⟨b.m, b.t⟩, hw, c, hm⟩, hpo.1, hpo.2⟩
  rcases a.dn x hx with d | d | d | d
  · exact .inl d
  · exact .inr (.inl d)
  · exact .inr (.inr (.inl d))
  · exact absurd (own_searched hG hT (hw.own x hx)) d.2
end
end Go.Proofs.YticbnckikkdknaaGreatDoor

namespace Go.Proofs.YticbnckikkdknaaGreatDoor
set_option linter.unusedVariables false
set_option linter.unusedSimpArgs false
set_option maxRecDepth 100000
open Go.RowKit
def X0m : Mkg := ⟨fun _ => false, [], false, fun _ => false⟩
section
variable {T n p r o room t N : Nat} {gf : Value} {H : List Int} {w w' : World} {Rs : Nat → Nat → List Int} {O : Obs} {V : Nat → Int} {F : Nat → Nat → Int} {tel : Bool} {Sg : List Nat} {TL : (Nat → Bool) → World → Prop} {R : List Nat}
set_option maxHeartbeats 4000000 in
theorem mark_is (hG : Gd T n H Rs O V F) (hT : T ≤ 64) (hn : n ≤ 64) (ho : o < T) (hr1 : 1 ≤ room) (hr2 : room ≤ 64) (hw : Hw T 0 n p r H t w) (hTb : Cl.Tab w) (hrn : 0 ∉ p :: r :: Sg) (hlt : ∀ g ∈ p :: r :: Sg, g < w.heap.size)
    (hTL : ∀ q ro, w.heap.size ≤ q → w.heap.size ≤ ro → TlOk p r q ro Sg gf tel TL) (htl : TL (fun _ => false) w) {ao : Option Addr} {cap : Nat} (hR : ∀ y ∈ R, y = 0 ∨ (O y).isSome = true) (hLc : ∀ j, j < R.length → ∃ g o', ao = some ⟨g, o', none⟩ ∧ g ∉ p :: r :: Sg ∧ g < w.heap.size ∧ w.cell? ⟨g, o' + j, none⟩ = some (.int .i64 (R.getD j 0)))
    (hlen : R.length ≤ 1000) (ht : t + 300 * muM (gpOf O H o tel) H.length X0m + 2 * R.length + 4900 * n * (muM (gpOf O H o tel) H.length X0m + 1) ≤ 800000000000) :
    Calls Tryz.prog 10 #[.agg #[.iface 31 (.pointer (some ⟨p, 0, none⟩)), .int .i64 T, .int .i64 0, .int .i64 n, .int .u8 o, .int .i64 room, gf], .slice ao R.length cap] w fun e w' => e = .returned (.int .i64 0) ∧ ∃ (X : Mkg) (t' : Nat), (∀ x, X.M x = true ↔ Rc (gpOf O H o tel) R x) ∧ (tel = true → ∀ y, X.tl y = true ↔ ((gpOf O H o tel).glb y = true ∧ y ≠ 0 ∧ (y ∈ R ∨ ∃ x, Rc (gpOf O H o tel) R x ∧ y ∈ (gpOf O H o tel).ref x))) ∧ Hw T 0 n p r (markL H X.M) t' w' ∧ TL X.tl w' ∧ Kp (p :: r :: Sg) w w' := by
  have HG := Lib.hid hG
  obtain ⟨w1, hw1⟩ : ∃ w1, w1 = w.alloc (.cells #[.iface 31 (.pointer (some ⟨p, 0, none⟩)), .int .i64 T, .int .i64 0, .int .i64 n, .int .u8 o, .int .i64 room, gf] 53) := ⟨_, rfl⟩
  have kb : Kp [] w w1 := by rw [hw1]; exact (Kp.refl _ _).alloc _
  have r0 : w1.heap[w.heap.size]? = some (.cells #[.iface 31 (.pointer (some ⟨p, 0, none⟩)), .int .i64 T, .int .i64 0, .int .i64 n, .int .u8 o, .int .i64 room, gf] 53 (0, 0)) := by rw [hw1]; exact heap_alloc_new _ _
  have c0 := (cell_of_row r0 0).trans (show _ = some (.iface 31 (.pointer (some ⟨p, 0, none⟩))) from rfl)
  have c5 := (cell_of_row r0 5).trans (show _ = some (.int .i64 room) from rfl)
  have HNew := Lib.hid (Sk.snew_good w1 room hr1 hr2)
  have HB := Lib.hid (And.intro kb r0)
  have HA := Lib.hid (And.intro hw (And.intro hTb (And.intro hrn (And.intro hlt (And.intro htl hTL)))))
  have HLc := Lib.hid (And.intro hR hLc)
  obtain ⟨M, hM⟩ : ∃ M, M = R.length := ⟨_, rfl⟩
  have HM := Lib.hid hM
  rw [← hM] at hlen ht ⊢
  obtain ⟨mu0, hmu0⟩ : ∃ mu0, mu0 = muM (gpOf O H o tel) H.length X0m := ⟨_, rfl⟩
  have HMu := Lib.hid hmu0
  rw [← hmu0] at ht
  obtain ⟨KK, hKK⟩ : ∃ KK, KK = 4900 * n := ⟨_, rfl⟩
  have HKK := Lib.hid hKK
  rw [← hKK] at ht
  have HT := Lib.hid ht
  clear hG hw hTb hrn hlt htl hTL hR hLc kb r0 hM hmu0 hKK ht
  go_enter Tryz.func10, Tryz.ntmps10
  go_upto_region 1 with (fail)
  rw [← hw1]
  clear hw1
  go_wp2_with fail
  refine HNew.out.mono ?_
  rintro e w2 ⟨rfl, hs2, k2⟩
  obtain ⟨q, hq⟩ : ∃ q, q = w1.heap.size + 1 := ⟨_, rfl⟩
  obtain ⟨ro, hro⟩ : ∃ ro, ro = w1.heap.size := ⟨_, rfl⟩
  rw [← hq, ← hro] at hs2
  rw [← hq]
  have HS2 := Lib.hid (And.intro hs2 (And.intro k2 (And.intro hq hro)))
  have r0 := k2.row (by simp) HB.out.2
  have HR0 := Lib.hid r0
  have c1 := (cell_of_row r0 1).trans (show _ = some (.int .i64 T) from rfl)
  have c2 := (cell_of_row r0 2).trans (show _ = some (.int .i64 0) from rfl)
  have c3 := (cell_of_row r0 3).trans (show _ = some (.int .i64 n) from rfl)
  have c4 := (cell_of_row r0 4).trans (show _ = some (.int .u8 o) from rfl)
  have c0 := (cell_of_row r0 0).trans (show _ = some (.iface 31 (.pointer (some ⟨p, 0, none⟩))) from rfl)
  have c5 := (cell_of_row r0 5).trans (show _ = some (.int .i64 room) from rfl)
  have c6 := (cell_of_row r0 6).trans (show _ = some gf from rfl)
  have HTh := Lib.hid (fun wq => Ly.threads_is (T : Int) 0 (n : Int) wq)
  have co : IntKind.i64.wrap (o : Int) = o := IntWalk.i64_in _ (by omega)
  have hoT : decide ((T : Int) ≤ (o : Int)) = false := by simp; omega
  have hoT' : decide (T ≤ o) = false := by simp; omega
  clear hs2 k2 hq hro r0 HNew
  go_upto_region 4 with (fail)
  go_cut [30] (fun v30 we => v30 = .bool false ∧ Hid (Kp [] w2 we))
  case first =>
    have HC4 : Hid (∀ wx, Kp [] w2 wx → wx.cell? ⟨w.heap.size, 1, none⟩ = some (.int .i64 T) ∧ wx.cell? ⟨w.heap.size, 2, none⟩ = some (.int .i64 0) ∧ wx.cell? ⟨w.heap.size, 3, none⟩ = some (.int .i64 n) ∧ wx.cell? ⟨w.heap.size, 4, none⟩ = some (.int .u8 o) ∧ Kp [] w2 wx) := Lib.hid fun wx k => ⟨kp_cell k (by simp) c1, kp_cell k (by simp) c2, kp_cell k (by simp) c3, kp_cell k (by simp) c4, k⟩
    have k0 : Kp [] w2 w2 := Kp.refl _ _
    go_region_held3 (fun wx => wx.cell? ⟨w.heap.size, 1, none⟩ = some (.int .i64 T) ∧ wx.cell? ⟨w.heap.size, 2, none⟩ = some (.int .i64 0) ∧ wx.cell? ⟨w.heap.size, 3, none⟩ = some (.int .i64 n) ∧ wx.cell? ⟨w.heap.size, 4, none⟩ = some (.int .u8 o) ∧ Kp [] w2 wx)
      (first
        | with_reducible assumption
        | exact HC4.out _ K4.out
        | exact HC4.out _ (K4.out.trans ((Kp.refl [] _).drew))
        | exact HC4.out _ ((Kp.refl [] _).drew)
        | exact HC4.out _ (Kp.refl [] _))
      (first
        | (go_at_call 32
           refine (HTh.out _).mono ?_
           rintro e w4 ⟨rfl, k4⟩
           have K4 : Hid (Kp [] w2 w4) := Lib.hid (by
             refine Kp.trans ?_ k4
             repeat (first
               | with_reducible exact Kp.refl _ _
               | with_reducible refine Kp.drew ?_))
           clear k4))
    all_goals
      rename_i hHeld
      have HKp := Lib.hid hHeld.2.2.2.2
      clear hHeld
    all_goals go_wp2_with fail
    all_goals go_meet
    all_goals
      first
        | exact ⟨rfl, HKp⟩
        | exact ⟨by simp [*], HKp⟩
  case rest =>
    obtain ⟨rfl, HK3⟩ := hcut
    obtain ⟨w3, rfl⟩ : ∃ w3 : World, w3 = wc := ⟨_, rfl⟩
    have HR3 := Lib.hid (HK3.out.row (by simp) HR0.out)
    clear c0 c1 c2 c3 c4 c5 c6 HTh hoT hoT' co HR0
    have c0 := (cell_of_row HR3.out 0).trans (show _ = some (.iface 31 (.pointer (some ⟨p, 0, none⟩))) from rfl)
    have c1 := (cell_of_row HR3.out 1).trans (show _ = some (.int .i64 T) from rfl)
    have c2 := (cell_of_row HR3.out 2).trans (show _ = some (.int .i64 0) from rfl)
    have c3 := (cell_of_row HR3.out 3).trans (show _ = some (.int .i64 n) from rfl)
    have c4 := (cell_of_row HR3.out 4).trans (show _ = some (.int .u8 o) from rfl)
    have c5 := (cell_of_row HR3.out 5).trans (show _ = some (.int .i64 room) from rfl)
    have c6 := (cell_of_row HR3.out 6).trans (show _ = some gf from rfl)
    obtain ⟨w4, hw4⟩ : ∃ w4, w4 = w3.alloc (.cells #[.iface 31 (.pointer (some ⟨p, 0, none⟩)), .int .i64 T, .int .i64 0, .int .i64 n, .int .u8 o, .int .i64 room, gf, .pointer (some ⟨q, 0, none⟩)] 95) := ⟨_, rfl⟩
    have k4 : Kp [] w3 w4 := by rw [hw4]; exact (Kp.refl _ _).alloc _
    have r4 : w4.heap[w3.heap.size]? = some (.cells #[.iface 31 (.pointer (some ⟨p, 0, none⟩)), .int .i64 T, .int .i64 0, .int .i64 n, .int .u8 o, .int .i64 room, gf, .pointer (some ⟨q, 0, none⟩)] 95 (0, 0)) := by rw [hw4]; exact heap_alloc_new _ _
    have hqg : w.heap.size ≤ q ∧ w.heap.size ≤ ro ∧ q < w2.heap.size ∧ ro < w2.heap.size := by
      have z1 := HB.out.1.size
      have z2 := HS2.out.2.2.1
      have z3 := HS2.out.2.2.2
      have z4 := lt_of_block HS2.out.1.hp
      omega
    have hTL := HA.out.2.2.2.2.2 q ro hqg.1 hqg.2.1
    have hlt := HA.out.2.2.2.1
    have Kw : Kp [] w w4 := ((HB.out.1.trans HS2.out.2.1).trans HK3.out).trans k4
    have hpl := hlt p (by simp)
    have hrl := hlt r (by simp)
    have hM4 : Mrk T n p r q ro room Sg H TL X0m t w4 := ⟨⟨t, Nat.le_refl _, by
      show Hw T 0 n p r (markL H (fun _ => false)) t w4
      rw [markL_none]; exact HA.out.1.on Kw⟩, (HS2.out.1.keep0 HK3.out).keep0 k4, hTL.keep _ [] _ _ (by simp) Kw HA.out.2.2.2.2.1, by omega, fun g hg => by
      have z5 := HK3.out.size
      have z6 := k4.size
      have z7 := Kw.size
      simp only [List.mem_cons] at hg
      rcases hg with rfl | rfl | rfl | rfl | hg
      · omega
      · omega
      · omega
      · omega
      · have := hlt g (by simp [hg]); omega⟩
    have hSta : Sta T n p r q ro o room Sg H O tel TL R 0 X0m t w4 := ⟨⟨fun x hx => (by cases hx), fun y hy => (by cases hy), fun x hx => (by cases hx), fun x hx => (by cases hx)⟩, fun y hy => (by simp at hy), ⟨fun x hx => (by cases hx), fun x hx => (by cases hx)⟩, rfl, hM4⟩
    obtain ⟨b1, hb1⟩ : ∃ b1, b1 = w3.heap.size := ⟨_, rfl⟩
    rw [← hb1] at r4
    have hb1g : w.heap.size ≤ b1 ∧ b1 ≠ q ∧ b1 ≠ ro := by
      have z1 := HB.out.1.size
      have z2 := HS2.out.2.1.size
      have z5 := HK3.out.size
      omega
    have HTL := Lib.hid hTL
    have H4 := Lib.hid (And.intro Kw (And.intro (BoxM.of r4) (And.intro hqg hb1g)))
    have HSt := Lib.hid (show ∃ X1 t1, Sta T n p r q ro o room Sg H O tel TL R 0 X1 t1 w4 ∧ muM (gpOf O H o tel) H.length X1 ≤ mu0 ∧ t1 + 300 * muM (gpOf O H o tel) H.length X1 ≤ t + 300 * mu0 + 2 * 0 from ⟨X0m, t, hSta, by rw [HMu.out]; exact Nat.le_refl _, by rw [HMu.out]; omega⟩)
    clear hTL hlt Kw hpl hrl hM4 hSta k4 r4 hqg hb1g
    have HON : Hid ((#[.iface 31 (.pointer (some ⟨p, 0, none⟩)), .int .i64 T, .int .i64 0, .int .i64 n, .int .u8 o, .int .i64 room, gf, .pointer (some ⟨q, 0, none⟩)] : Array Value).all (·.oneCell') = true) := Lib.hid (by
      cases tel with
      | false => rw [HTL.out.no rfl]; simp [Value.oneCell']
      | true =>
        obtain ⟨g, cap, e, _⟩ := HTL.out.tell rfl
        rw [e]; simp [Value.oneCell'])
    go_upto_region 7 with (refine wpList_store_row rfl 95 _ _ rfl w3.heap.size _ rfl rfl 95 _ (heap_alloc_new _ _) (by kernel_rfl) rfl HON.out ?_)
    rw [World.setRow_alloc_new]
    rw [← hw4, ← hb1]
    rw [show ∀ a : Act, a.put none undef = a from fun _ => rfl]
    clear hw4 hb1 c0 c1 c2 c3 c4 c5 c6 HON
    obtain ⟨a0, a1, a2, a3, a4, a5, a6, a7⟩ := H4.out.2.1
    go_wp2_with fail
    clear a0 a1 a2 a3 a4 a5 a6 a7
    go_loopg [38] M (fun g v38 wr => ∃ i : Nat, i + g = M ∧ v38 = .int .i64 i ∧ Hid ((∃ X1 t1, Sta T n p r q ro o room Sg H O tel TL R i X1 t1 wr ∧ muM (gpOf O H o tel) H.length X1 ≤ mu0 ∧ t1 + 300 * muM (gpOf O H o tel) H.length X1 ≤ t + 300 * mu0 + 2 * i) ∧ Kp (p :: r :: q :: ro :: Sg) w4 wr ∧ BoxM p T n o room gf q b1 wr))
    case atStart => exact ⟨0, by omega, rfl, Lib.hid ⟨HSt.out, Kp.refl _ _, H4.out.2.1⟩⟩
    case round =>
      obtain ⟨i, hi, rfl, HR⟩ := hrel
      obtain ⟨X1, t1, hS, hm1, ht1⟩ := HR.out.1
      by_cases hiM : i < M
      · have hiR : i < R.length := by rw [← HM.out]; exact hiM
        obtain ⟨g, o', hao, hgn, hgl, hgc⟩ := HLc.out.2 i hiR
        have hgS : g ∉ p :: r :: q :: ro :: Sg := fun e => by
          have z1 := H4.out.2.2.1
          simp only [List.mem_cons, not_or] at hgn e
          rcases e with e | e | e | e | e
          · exact hgn.1 e
          · exact hgn.2.1 e
          · omega
          · omega
          · exact hgn.2.2 e
        have hcell := kp_cell HR.out.2.1 hgS (kp_cell H4.out.1 (by simp) hgc)
        have hbS : b1 ∉ p :: r :: q :: ro :: Sg := fun e => by
          have z1 := H4.out.2.2.2
          have z2 := HA.out.2.2.2.1
          simp only [List.mem_cons] at e
          rcases e with e | e | e | e | e
          · have := z2 p (by simp); omega
          · have := z2 r (by simp); omega
          · omega
          · omega
          · have := z2 b1 (by simp [e]); omega
        have hmem : R.getD i 0 ∈ R := by
          rw [List.getD_eq_getElem?_getD, List.getElem?_eq_getElem hiR]
          exact List.getElem_mem hiR
        have hy := HLc.out.1 _ hmem
        have htt := HT.out
        have hmt := mu_tr (room := room) (N := H.length) (G := gpOf O H o tel) (fun y hy => own_lt HG.out hy) X1 (R.getD i 0)
        have HTr := Lib.hid (treat_any (gf := gf) HG.out hT ho HTL.out hS.mrk hS.wi.own (by omega) hy)
        have HDr := Lib.hid (fun wq (hq : Mrk T n p r q ro room Sg H TL (trS (gpOf O H o tel) room X1 (R.getD i 0)) (t1 + 2) wq) => drain_is (gf := gf) HG.out hT ho HTL.out hq (hS.wi.tr _) (by omega))
        have HSx := Lib.hid (fun w2 (X2 : Mkg) t2 hw hd hm => Sta.next (w' := w2) (X2 := X2) (t2 := t2) HG.out hS hiR hw hd hm)
        have HRk := Lib.hid (And.intro HR.out.2.1 (And.intro HR.out.2.2 (And.intro hbS (And.intro hm1 (And.intro ht1 hmt)))))
        obtain ⟨a0, a1, a2, a3, a4, a5, a6, a7⟩ := HR.out.2.2
        subst hao
        generalize R.getD i 0 = y at *
        clear hgn hgl hgc hgS hbS hmem hy htt hmt HR hS hm1 ht1
        go_wp2_with fail
        refine HTr.out.mono ?_
        rintro e w5 ⟨rfl, m5, k5⟩
        have HD5 := Lib.hid (HDr.out w5 m5)
        have B5 := Lib.hid (HRk.out.2.1.keep k5 HRk.out.2.2.1)
        have K5 := Lib.hid (HRk.out.1.trans k5)
        clear a0 a1 a2 a3 a4 a5 a6 a7 m5 k5 HTr HDr
        obtain ⟨a0, a1, a2, a3, a4, a5, a6, a7⟩ := B5.out
        go_wp2_with fail
        refine HD5.out.mono ?_
        rintro e w6 ⟨rfl, X2, t2, hd2, hw2, hm2, ht2, m6, k6⟩
        have HN : Hid ((∃ X1 t1, Sta T n p r q ro o room Sg H O tel TL R (i + 1) X1 t1 w6 ∧ muM (gpOf O H o tel) H.length X1 ≤ mu0 ∧ t1 + 300 * muM (gpOf O H o tel) H.length X1 ≤ t + 300 * mu0 + 2 * (i + 1)) ∧ Kp (p :: r :: q :: ro :: Sg) w4 w6 ∧ BoxM p T n o room gf q b1 w6) := Lib.hid (by
          have z1 := HRk.out.2.2.2.1
          have z2 := HRk.out.2.2.2.2.1
          have z3 := HRk.out.2.2.2.2.2
          exact ⟨⟨X2, t2, HSx.out w6 X2 t2 hw2 hd2 m6, by omega, by omega⟩, K5.out.trans k6, B5.out.keep k6 HRk.out.2.2.1⟩)
        clear hd2 hw2 hm2 ht2 m6 k6
        go_wp2_with fail
        go_roundg (M - (i + 1))
        case rel => exact ⟨i + 1, by omega, by go_num, HN⟩
        case measure => omega
      · have eiM : i = M := by omega
        have hg0 : ∃ X1 t1 g0, 2 * cntM (gpOf O H o tel) H.length X1 + X1.ov.toNat = g0 ∧ Hid (Sta T n p r q ro o room Sg H O tel TL R M X1 t1 wr ∧ t1 + 300 * muM (gpOf O H o tel) H.length X1 + KK * g0 ≤ 800000000000 ∧ Kp (p :: r :: q :: ro :: Sg) w4 wr ∧ BoxM p T n o room gf q b1 wr) := by
          rw [eiM] at hS ht1
          refine ⟨X1, t1, _, rfl, Lib.hid ⟨hS, ?_, HR.out.2.1, HR.out.2.2⟩⟩
          have hst := hS.st
          have hmu : muM (gpOf O H o tel) H.length X1 = 2 * cntM (gpOf O H o tel) H.length X1 := by unfold muM cntM; rw [hst]; rfl
          have hov : X1.ov.toNat ≤ 1 := by cases X1.ov <;> decide
          have hle := Nat.mul_le_mul_left KK (show 2 * cntM (gpOf O H o tel) H.length X1 + X1.ov.toNat ≤ mu0 + 1 by omega)
          have := HT.out
          omega
        obtain ⟨X1', t1', g0, hg0e, hg0r⟩ := hg0
        clear hS ht1 hm1 HR eiM X1 t1
        go_wp2_with fail
        clear hiM hi
        go_loopg [] g0 (fun g wr => ∃ X1 t1, 2 * cntM (gpOf O H o tel) H.length X1 + X1.ov.toNat = g ∧ Hid (Sta T n p r q ro o room Sg H O tel TL R M X1 t1 wr ∧ t1 + 300 * muM (gpOf O H o tel) H.length X1 + KK * g ≤ 800000000000 ∧ Kp (p :: r :: q :: ro :: Sg) w4 wr ∧ BoxM p T n o room gf q b1 wr))
        case atStart => exact ⟨X1', t1', hg0e, hg0r⟩
        case round =>
          obtain ⟨X1, t1, hg, HR⟩ := hrel
          clear hg0e hg0r
          have HOv := Lib.hid (HR.out.1.mrk.over HTL.out)
          cases hov : X1.ov with
          | false =>
            rw [hov] at HOv
            have hend := HR.out.1.ji.ends HR.out.1.st hov (fun y hy => HR.out.1.fin y (by rw [HM.out, List.take_of_length_le (Nat.le_refl _)]; exact hy))
            have HE := Lib.hid (And.intro hend HR.out.2.2.1)
            have e0 : ({ X1 with ov := false } : Mkg) = X1 := by rw [← hov]
            rw [e0] at HOv
            clear hend e0 hov HR hg
            go_wp2_with fail
            refine HOv.out.mono ?_
            rintro e w5 ⟨rfl, m5, k5⟩
            have HF : Hid (∃ (X : Mkg) (t' : Nat), (∀ x, X.M x = true ↔ Rc (gpOf O H o tel) R x) ∧ (tel = true → ∀ y, X.tl y = true ↔ ((gpOf O H o tel).glb y = true ∧ y ≠ 0 ∧ (y ∈ R ∨ ∃ x, Rc (gpOf O H o tel) R x ∧ y ∈ (gpOf O H o tel).ref x))) ∧ Hw T 0 n p r (markL H X.M) t' w5 ∧ TL X.tl w5 ∧ Kp (p :: r :: Sg) w w5) := Lib.hid (by
              obtain ⟨t5, _, hh⟩ := m5.hw
              refine ⟨X1, t5, HE.out.1.1, HE.out.1.2, hh, m5.tl, ((H4.out.1.mono (by simp)).trans (HE.out.2.trans k5) : Kp (p :: r :: q :: ro :: Sg) w w5).mono fun g hg hl => ?_⟩
              have z1 := H4.out.2.2.1
              simp only [List.mem_cons] at hg ⊢
              rcases hg with e | e | e | e | e
              · exact .inl e
              · exact .inr (.inl e)
              · omega
              · omega
              · exact .inr (.inr e))
            clear m5 k5 HOv HE
            go_wp2_with fail
            go_ret
            exact ⟨rfl, HF.out⟩
          | true =>
            rw [hov] at HOv hg
            have hst := HR.out.1.st
            have hbd := HR.out.2.1
            have hmu : muM (gpOf O H o tel) H.length ({ X1 with ov := false } : Mkg) = muM (gpOf O H o tel) H.length X1 := rfl
            have hmc : muM (gpOf O H o tel) H.length X1 = 2 * cntM (gpOf O H o tel) H.length X1 := by unfold muM cntM; rw [hst]; rfl
            have hg1 : 1 ≤ gk := by rw [← hg]; simp
            have hKg : KK ≤ KK * gk := Nat.le_mul_of_pos_right KK hg1
            have hrS : 0 ∉ p :: r :: q :: ro :: Sg := fun e => by
              have z1 := H4.out.2.2.1
              have z2 := HA.out.2.2.1
              have z3 := block_lt_of_cell HA.out.2.1.c0
              simp only [List.mem_cons, not_or] at e z2
              rcases e with e | e | e | e | e
              · exact z2.1 e
              · exact z2.2.1 e
              · omega
              · omega
              · exact z2.2.2 e
            have hbS : b1 ∉ p :: r :: q :: ro :: Sg := fun e => by
              have z1 := H4.out.2.2.2
              have z2 := HA.out.2.2.2.1
              simp only [List.mem_cons] at e
              rcases e with e | e | e | e | e
              · have := z2 p (by simp); omega
              · have := z2 r (by simp); omega
              · omega
              · omega
              · have := z2 b1 (by simp [e]); omega
            have hkk := HKK.out
            have HSe := Lib.hid (fun wq (hq : Mrk T n p r q ro room Sg H TL { X1 with ov := false } t1 wq) (kq : Kp (p :: r :: q :: ro :: Sg) w4 wq) => search_is (gf := gf) HG.out hT hn ho HTL.out hq ⟨HR.out.1.wi.own, HR.out.1.wi.st⟩ hst (tab_keep (tab_keep HA.out.2.1 H4.out.1 (by simp)) kq hrS) hrS (by rw [hmu]; omega))
            have HSx := Lib.hid (fun w2 (X2 : Mkg) t2 hw hd hm => Sta.searched (w' := w2) (X2 := X2) (t2 := t2) HG.out hT HR.out.1 hw hd hm)
            have HNum := Lib.hid (And.intro hbd (And.intro hmc (And.intro hg (And.intro hkk (And.intro hmu hst)))))
            have HRk := Lib.hid (And.intro HR.out.2.2.1 (And.intro HR.out.2.2.2 hbS))
            clear hst hbd hmu hmc hg1 hKg hrS hbS hkk hov HR hg
            go_wp2_with fail
            refine HOv.out.mono ?_
            rintro e w5 ⟨rfl, m5, k5⟩
            have K5 := Lib.hid (HRk.out.1.trans k5)
            have B5 := Lib.hid (HRk.out.2.1.keep k5 HRk.out.2.2)
            have HS5 := Lib.hid (HSe.out w5 m5 K5.out)
            clear m5 k5 HOv HSe
            obtain ⟨a0, a1, a2, a3, a4, a5, a6, a7⟩ := B5.out
            go_wp2_with fail
            refine HS5.out.mono ?_
            rintro e w6 ⟨rfl, X3, t3, hd3, hw3, hs3, hm3, ht3, m6, k6⟩
            obtain ⟨hSt3, hc3, hc4⟩ := HSx.out w6 X3 t3 hw3 hd3 m6
            have hlt3 : 2 * cntM (gpOf O H o tel) H.length X3 + X3.ov.toNat < gk := by
              have z := HNum.out.2.2.1
              have hov3 : X3.ov.toNat = 0 ∨ (X3.ov = true ∧ X3.ov.toNat = 1) := by cases X3.ov <;> simp
              simp only [Bool.toNat_true] at z
              rcases hov3 with e | ⟨e, e2⟩
              · omega
              · have := hc4 e; omega
            have HN := Lib.hid (show ∃ X1 t1, 2 * cntM (gpOf O H o tel) H.length X1 + X1.ov.toNat = 2 * cntM (gpOf O H o tel) H.length X3 + X3.ov.toNat ∧ Hid (Sta T n p r q ro o room Sg H O tel TL R M X1 t1 w6 ∧ t1 + 300 * muM (gpOf O H o tel) H.length X1 + KK * (2 * cntM (gpOf O H o tel) H.length X3 + X3.ov.toNat) ≤ 800000000000 ∧ Kp (p :: r :: q :: ro :: Sg) w4 w6 ∧ BoxM p T n o room gf q b1 w6) from ⟨X3, t3, rfl, Lib.hid ⟨hSt3, by
              have z1 := HNum.out.1
              have z2 := HNum.out.2.2.2.1
              have z3 := Nat.mul_le_mul_left KK (show 2 * cntM (gpOf O H o tel) H.length X3 + X3.ov.toNat + 1 ≤ gk by omega)
              rw [Nat.mul_add, Nat.mul_one] at z3
              rw [HNum.out.2.2.2.2.1] at ht3
              omega, K5.out.trans k6, B5.out.keep k6 HRk.out.2.2⟩⟩)
            have HL3 := Lib.hid hlt3
            clear hSt3 hc3 hc4 hlt3 hd3 hw3 hs3 hm3 ht3 m6 k6 HSx HNum HRk HS5
            go_wp2_with fail
            go_roundg (2 * cntM (gpOf O H o tel) H.length X3 + X3.ov.toNat)
            case rel => exact HN.out
            case measure => exact HL3.out
end
end Go.Proofs.YticbnckikkdknaaGreatDoor

namespace Go.Proofs.YticbnckikkdknaaGreatDoor
set_option linter.unusedVariables false
set_option linter.unusedSimpArgs false
set_option maxRecDepth 100000
open Go.RowKit
section
variable {Bz T n db dc : Nat} {H : List Int} {w w' : World}
theorem dhead_yes (h : Dh Bz T 0 n db dc H w) {x : Nat} (hx : x < H.length) (hT : Wd.takeB (H.getD x 0) = true) :
    Calls Tryz.prog 25 #[.slice (some ⟨db, 0, none⟩) H.length dc, .int .i64 x] w fun e w' => e = .returned (.agg #[.int .u8 (H.getD x 0 % 4), .int .u8 (H.getD x 0 / 4 % 2), .bool (H.getD x 0 / 8 % 2 == 1), .bool (H.getD x 0 / 16 % 2 == 1), .int .u8 (H.getD x 0 / 32 % 64), .int .u8 (H.getD x 0 / 2048 % 128), .int .u8 (H.getD x 0 / 262144 % 128)]) ∧ Kp [] w w' := by
  obtain ⟨X, hX⟩ : ∃ X, X = H.getD x 0 := ⟨_, rfl⟩
  have hxc := h.cell hx
  have h0 := h.ok x
  have htop := h.top
  obtain ⟨N, hN⟩ : ∃ N, N = H.length := ⟨_, rfl⟩
  rw [← hX] at hxc h0 hT ⊢
  rw [← hN] at hx htop ⊢
  have hT' := hT
  simp only [Wd.takeB, Bool.and_eq_true, decide_eq_true_eq] at hT'
  have HTk := Lib.hid (fun wq => Wd.rtake_yes X wq h0.1 h0.2 hT'.1 hT'.2)
  generalize X % 4 = p0 at *
  generalize X / 4 % 2 = p1 at *
  generalize (X / 8 % 2 == 1) = p2 at *
  generalize (X / 16 % 2 == 1) = p3 at *
  generalize X / 32 % 64 = p4 at *
  generalize X / 2048 % 128 = p5 at *
  generalize X / 262144 % 128 = p6 at *
  obtain ⟨w1, hw1⟩ : ∃ w1, w1 = w.alloc (.cells #[.int .u8 0, .int .u8 0, .bool false, .bool false, .int .u8 0, .int .u8 0, .int .u8 0] 81) := ⟨_, rfl⟩
  have kb : Kp [] w w1 := by rw [hw1]; exact (Kp.refl _ _).alloc _
  have r0 : w1.heap[w.heap.size]? = some (.cells #[.int .u8 0, .int .u8 0, .bool false, .bool false, .int .u8 0, .int .u8 0, .int .u8 0] 81 (0, 0)) := by rw [hw1]; exact heap_alloc_new _ _
  have hxc := kp_cell kb (by simp) hxc
  have HB := Lib.hid (And.intro kb r0)
  have hx1 : ¬ ((x : Int) < 0) := by omega
  have hx2 : ¬ ((N : Int) ≤ (x : Int)) := by omega
  have hx3 : decide (N ≤ x) = false := by simp; omega
  clear h h0 hT hT' hX hN kb r0
  go_enter Tryz.func25, Tryz.ntmps25
  go_upto_region 1 with (fail)
  rw [← hw1]
  clear hw1
  go_wp2_with fail
  refine (HTk.out w1).mono ?_
  rintro e w2 ⟨rfl, k2⟩
  have k2 := kp_of_below k2
  have r2 := k2.row (by simp) HB.out.2
  have ka : Kp [] w2 (w2.alloc (.cells #[.int .u8 p0, .int .u8 p1, .bool p2, .bool p3, .int .u8 p4, .int .u8 p5, .int .u8 p6] 81)) := (Kp.refl _ _).alloc _
  have r3 := ka.row (by simp) r2
  have H3 := Lib.hid (And.intro k2 (And.intro ka r3))
  have z0 := (cell_of_row r3 0).trans (show _ = some (.int .u8 0) from rfl)
  have z1 := (cell_of_row r3 1).trans (show _ = some (.int .u8 0) from rfl)
  have z2 := (cell_of_row r3 2).trans (show _ = some (.bool false) from rfl)
  have z3 := (cell_of_row r3 3).trans (show _ = some (.bool false) from rfl)
  have z4 := (cell_of_row r3 4).trans (show _ = some (.int .u8 0) from rfl)
  have z5 := (cell_of_row r3 5).trans (show _ = some (.int .u8 0) from rfl)
  have z6 := (cell_of_row r3 6).trans (show _ = some (.int .u8 0) from rfl)
  have f0 := free_of_row r3 0
  have f1 := free_of_row r3 1
  have f2 := free_of_row r3 2
  have f3 := free_of_row r3 3
  have f4 := free_of_row r3 4
  have f5 := free_of_row r3 5
  have f6 := free_of_row r3 6
  clear k2 r2 ka r3
  go_wp2_with fail
  refine bodyPost_row rfl w.heap.size 81 #[.int .u8 p0, .int .u8 p1, .bool p2, .bool p3, .int .u8 p4, .int .u8 p5, .int .u8 p6] (0, 0) _ rfl rfl (set7_row H3.out.2.2 _ _ _ _ _ _ _) Tryz.underlying81 rfl (by kernel_rfl) ⟨rfl, set7_kp _ _ _ _ _ _ _ ((HB.out.1.trans H3.out.1).trans H3.out.2.1) (Nat.le_refl _)⟩
end
end Go.Proofs.YticbnckikkdknaaGreatDoor

namespace Go.Proofs.YticbnckikkdknaaGreatDoor
set_option linter.unusedVariables false
set_option linter.unusedSimpArgs false
set_option maxRecDepth 100000
open Go.RowKit

/-- Words over which the document's mark may be asked: objects have headers, and their references lead to objects, or nowhere. -/
structure Dw (O : Obs) (H : List Int) : Prop where
  tb : ∀ x, (O x).isSome = true → 0 < x ∧ x < H.length ∧ Wd.takeB (H.getD x 0) = true
  rf : ∀ x, (O x).isSome = true → ∀ q, q < (H.getD x 0 / 2048 % 128).toNat → x + 1 + q < H.length ∧ (H.getD (x + 1 + q) 0 = 0 ∨ ∃ y : Nat, H.getD (x + 1 + q) 0 = y ∧ (O y).isSome = true)

/-- A row of truths. -/
def mbls (B : List Bool) : Array Value := (B.map Value.bool).toArray
theorem mbls_set (B : List Bool) (i : Nat) (y : Bool) : (mbls B).setIfInBounds i (.bool y) = mbls (B.set i y) := by simp [mbls, List.map_set]
def MBl (w : World) (r : Nat) (B : List Bool) : Prop := w.heap[r]? = some (.cells (mbls B) 4 (0, 0))
theorem MBl.cell {w : World} {r : Nat} {B : List Bool} (h : MBl w r B) {i : Nat} (hi : i < B.length) : w.cell? ⟨r, i, none⟩ = some (.bool (B.getD i false)) := by
  rw [cell_of_row h]
  simp [mbls, List.getD, hi]
theorem MBl.free {w : World} {r : Nat} {B : List Bool} (h : MBl w r B) (i : Nat) : w.frozen? ⟨r, i, none⟩ = false := free_of_row h i
theorem MBl.keep {S : List Nat} {w w' : World} {r : Nat} {B : List Bool} (h : MBl w r B) (k : Kp S w w') (hr : r ∉ S) : MBl w' r B := k.row hr h
theorem MBl.set {w : World} {r : Nat} {B : List Bool} (h : MBl w r B) (i : Nat) (y : Bool) : MBl (w.setCell ⟨r, i, none⟩ (.bool y)) r (B.set i y) := by
  have := heap_setCell_same w r i _ _ (.bool y) h
  rw [mbls_set] at this
  exact this
theorem mgetD_set (B : List Bool) (i j : Nat) (h : i < B.length) : (B.set i true).getD j false = if j = i then true else B.getD j false := by
  simp only [List.getD]
  by_cases hj : j = i
  · subst hj
    rw [if_pos rfl, List.getElem?_set_self h]
    rfl
  · rw [if_neg hj, List.getElem?_set_ne (by omega)]
section
variable {Bz T n db dc : Nat} {H : List Int} {w w' : World} {O : Obs} {o : Nat} {tel : Bool}
/-- A header by value, whatever lies there. -/
abbrev mh7 (k c : Int) (g m : Bool) (o r s : Int) : Array Value := #[.int .u8 k, .int .u8 c, .bool g, .bool m, .int .u8 o, .int .u8 r, .int .u8 s]
/-- What an object's header says by value. -/
theorem Dw.own (hD : Dw O H) {y : Nat} (hy : (O y).isSome = true) {k o' : Int} (h : Wd.takeB (H.getD y 0) = true → k = H.getD y 0 % 4 ∧ o' = H.getD y 0 / 32 % 64) : (gpOf O H o tel).own y = (decide (k = 2) && decide (o' = o)) ∧ (gpOf O H o tel).glb y = decide (k = 3) := by
  obtain ⟨h1, h2⟩ := h (hD.tb y hy).2.2
  subst h1; subst h2
  simp [gpOf, hy]
theorem Dw.own0 (hD : Dw O H) : (gpOf O H o tel).own 0 = false := by
  cases hO : (O 0).isSome with
  | false => simp [gpOf, hO]
  | true => have := (hD.tb 0 hO).1; omega
theorem Rc.some {R : List Nat} {x : Nat} (h : Rc (gpOf O H o tel) R x) : (O x).isSome = true := by
  have := h.own
  simp only [gpOf, Bool.and_eq_true] at this
  exact this.1.1

end
end Go.Proofs.YticbnckikkdknaaGreatDoor

namespace Go.Proofs.YticbnckikkdknaaGreatDoor
set_option linter.unusedVariables false
set_option linter.unusedSimpArgs false
set_option maxRecDepth 100000
open Go.RowKit

/-- What holds of the row of truths all the time. -/
structure Rr (w : World) (G : Gp) (R : List Nat) (N ro : Nat) (B : List Bool) (W : World) : Prop where
  len : B.length = N
  r : ∀ j, B.getD j false = true → Rc G R j
  bl : MBl W ro B
  kp : Kp [] w W
/-- The first i places are there. -/
def Rro (G : Gp) (R : List Nat) (B : List Bool) (i : Nat) : Prop := ∀ j, j < i → R.getD j 0 ≠ 0 → G.own (R.getD j 0) = true → B.getD (R.getD j 0) false = true
section
variable {w W W' : World} {G : Gp} {R : List Nat} {N ro : Nat} {B : List Bool}
theorem Rr.on (h : Rr w G R N ro B W) (k : Kp [] W W') : Rr w G R N ro B W' := ⟨h.len, h.r, h.bl.keep k (by simp), h.kp.trans k⟩
theorem Rr.put (h : Rr w G R N ro B W) (hro : w.heap.size ≤ ro) {v : Nat} (hv : v < N) (hr : Rc G R v) : Rr w G R N ro (B.set v true) (W.setCell ⟨ro, v, none⟩ (.bool true)) := by
  refine ⟨by simpa using h.len, fun j hj => ?_, h.bl.set _ _, kp_new_set h.kp ((Kp.refl [ro] _).setCell (.inl (by simp)) _) hro⟩
  rw [mgetD_set _ _ _ (by rw [h.len]; exact hv)] at hj
  split at hj
  · rename_i e; subst e; exact hr
  · exact h.r j hj
theorem set_more {B : List Bool} {v : Nat} (hv : v < B.length) (j : Nat) (h : B.getD j false = true) : (B.set v true).getD j false = true := by
  rw [mgetD_set _ _ _ hv]
  split
  · rfl
  · exact h
theorem Rro.put {v : Nat} (h : Rro G R B N) (hv : v < B.length) : Rro G R (B.set v true) N := fun j hj h0 ho => set_more hv _ (h j hj h0 ho)
end

section
variable {Bz T n db dc : Nat} {H : List Int} {w w' : World} {O : Obs} {o : Nat} {tel : Bool}
theorem ref_mem (x q : Nat) (h : q < (H.getD x 0 / 2048 % 128).toNat) : (H.getD (x + 1 + q) 0).toNat ∈ (gpOf O H o tel).ref x := by
  simp only [gpOf, List.mem_map, List.mem_range]
  exact ⟨q, h, rfl⟩
end
end Go.Proofs.YticbnckikkdknaaGreatDoor

namespace Go.Proofs.YticbnckikkdknaaGreatDoor
set_option linter.unusedVariables false
set_option linter.unusedSimpArgs false
set_option maxRecDepth 100000
open Go.RowKit

/-- Who is told of. -/
def Tld (G : Gp) (R : List Nat) (y : Nat) : Prop := G.glb y = true ∧ y ≠ 0 ∧ (y ∈ R ∨ ∃ x, Rc G R x ∧ y ∈ G.ref x)
structure Rt (w : World) (G : Gp) (R : List Nat) (N ro : Nat) (B : List Bool) (W : World) : Prop where
  len : B.length = N
  r : ∀ j, B.getD j false = true → Tld G R j
  bl : MBl W ro B
  kp : Kp [] w W
def Rto (G : Gp) (R : List Nat) (B : List Bool) (i : Nat) : Prop := ∀ j, j < i → R.getD j 0 ≠ 0 → G.glb (R.getD j 0) = true → B.getD (R.getD j 0) false = true
def Rtl (G : Gp) (B : List Bool) (j n : Nat) : Prop := ∀ q, q < n → (G.ref j).getD q 0 ≠ 0 → G.glb ((G.ref j).getD q 0) = true → B.getD ((G.ref j).getD q 0) false = true
def Rtc (G : Gp) (R : List Nat) (B : List Bool) (i : Nat) : Prop := ∀ j, j < i → Rc G R j → Rtl G B j (G.ref j).length
section
variable {w W W' : World} {G : Gp} {R : List Nat} {N ro : Nat} {B : List Bool}
theorem Rt.on (h : Rt w G R N ro B W) (k : Kp [] W W') : Rt w G R N ro B W' := ⟨h.len, h.r, h.bl.keep k (by simp), h.kp.trans k⟩
theorem Rt.put (h : Rt w G R N ro B W) (hro : w.heap.size ≤ ro) {v : Nat} (hv : v < N) (hr : Tld G R v) : Rt w G R N ro (B.set v true) (W.setCell ⟨ro, v, none⟩ (.bool true)) := by
  refine ⟨by simpa using h.len, fun j hj => ?_, h.bl.set _ _, kp_new_set h.kp ((Kp.refl [ro] _).setCell (.inl (by simp)) _) hro⟩
  rw [mgetD_set _ _ _ (by rw [h.len]; exact hv)] at hj
  split at hj
  · rename_i e; subst e; exact hr
  · exact h.r j hj
theorem Rto.put {v i : Nat} (h : Rto G R B i) (hv : v < B.length) : Rto G R (B.set v true) i := fun j hj h0 ho => set_more hv _ (h j hj h0 ho)
theorem Rtl.put {v j n : Nat} (h : Rtl G B j n) (hv : v < B.length) : Rtl G (B.set v true) j n := fun q hq h0 ho => set_more hv _ (h q hq h0 ho)
theorem Rtc.put {v i : Nat} (h : Rtc G R B i) (hv : v < B.length) : Rtc G R (B.set v true) i := fun j hj hb => (h j hj hb).put hv
end

section
variable {Bz T n db dc : Nat} {H : List Int} {w w' : World} {O : Obs} {o : Nat} {tel : Bool}
end
end Go.Proofs.YticbnckikkdknaaGreatDoor

namespace Go.Proofs.YticbnckikkdknaaGreatDoor
set_option linter.unusedVariables false
set_option linter.unusedSimpArgs false
set_option maxRecDepth 100000
open Go.RowKit

section
variable {G G' : Gp} {R : List Nat}
theorem Rc.congr (h1 : ∀ x, G.own x = G'.own x) (h2 : ∀ x, G.own x = true → G.ref x = G'.ref x) {x : Nat} (h : Rc G R x) : Rc G' R x := by
  induction h with
  | root x hx h0 ho => exact .root x hx h0 (by rw [← h1]; exact ho)
  | step x y hx hy h0 ho ih => exact .step x y ih (by rw [← h2 x hx.own]; exact hy) h0 (by rw [← h1]; exact ho)
theorem Tld.congr (h1 : ∀ x, G.own x = G'.own x) (h2 : ∀ x, G.own x = true → G.ref x = G'.ref x) (h3 : ∀ x, G.glb x = G'.glb x) {y : Nat} (h : Tld G R y) : Tld G' R y := by
  obtain ⟨a, b, c | ⟨x, hx, hy⟩⟩ := h
  · exact ⟨by rw [← h3]; exact a, b, .inl c⟩
  · exact ⟨by rw [← h3]; exact a, b, .inr ⟨x, hx.congr h1 h2, by rw [← h2 x hx.own]; exact hy⟩⟩
end
section
variable {Bz T n db dc : Nat} {H : List Int} {w w' : World} {O : Obs} {V : Nat → Int} {F : Nat → Nat → Int} {Rs : Nat → Nat → List Int} {o : Nat} {tel : Bool} {M : Nat → Bool} {R : List Nat}
/-- In an object's fields no other object lies. -/
theorem Gd.field (h : Gd T n H Rs O V F) {x o' rf sz q : Nat} (hx : O x = some (o', rf, sz)) (hq : q < sz) : O (x + 1 + q) = none ∧ x + 1 + q < H.length := by
  have hin := h.hp.inn hx
  refine ⟨?_, by omega⟩
  cases hO : O (x + 1 + q) with
  | none => rfl
  | some z =>
    obtain ⟨o2, r2, s2⟩ := z
    obtain ⟨H0, h0, h1, h2⟩ := h.hp.base
    rcases h0.apart hx hO (by omega) with e | e <;> omega
theorem Gd.dwM (h : Gd T n H Rs O V F) (hT : T ≤ 64) (hM : ∀ x, M x = true → (gpOf O H o tel).own x = true) : Dw O (markL H M) := by
  refine ⟨fun y hy => ?_, fun x hx q hq => ?_⟩
  · cases hO : O y with
    | none => rw [hO] at hy; cases hy
    | some z =>
      obtain ⟨o', rf, sz⟩ := z
      have hin := h.hp.inn hO
      obtain ⟨k, c, a1, a2, a3, a4, a5, a6, a7, a8, a9, a10, a11, a12, a13⟩ := h.at hT hM hO
      refine ⟨by unfold hd at hin; omega, by rw [markL_len]; exact a1, ?_⟩
      rw [a5]
      exact Wd.takeB_of_word k c o' rf sz false (M y) (by omega) (by omega) (by omega) (by omega) (by omega) a6
  · cases hO : O x with
    | none => rw [hO] at hx; cases hx
    | some z =>
      obtain ⟨o', rf, sz⟩ := z
      obtain ⟨k, c, a1, a2, a3, a4, a5, a6, a7, a8, a9, a10, a11, a12, a13⟩ := h.at hT hM hO
      obtain ⟨e1, e2, e3, e4, e5, e6, e7⟩ := Wd.parts_of_word k c o' rf sz false (M x) (by omega) (by omega) (by omega) (by omega) (by omega) a6
      rw [a5] at hq
      have hq2 : q < rf := by omega
      obtain ⟨f1, f2⟩ := h.field hO (show q < sz by omega)
      have hMf : M (x + 1 + q) = false := by
        cases hm : M (x + 1 + q) with
        | false => rfl
        | true =>
          have := hM _ hm
          simp [gpOf, f1] at this
      refine ⟨by rw [markL_len]; exact f2, ?_⟩
      rw [markL_get _ _ _ f2, hMf]
      simp only [Bool.false_eq_true, if_false]
      rw [h.hp.fld x o' rf sz hO q (by omega)]
      exact h.fk x o' rf sz hO q (by omega)
theorem Gd.dw (h : Gd T n H Rs O V F) (hT : T ≤ 64) : Dw O H := by
  have := h.dwM (o := 0) (tel := false) (M := fun _ => false) hT (fun x hx => by cases hx)
  rwa [markL_none] at this
end
end Go.Proofs.YticbnckikkdknaaGreatDoor

namespace Go.Proofs.YticbnckikkdknaaGreatDoor
set_option linter.unusedVariables false
set_option linter.unusedSimpArgs false
set_option maxRecDepth 100000
open Go.RowKit Go.Maps

theorem mkint : Keyed Tryz.prog 3 := int_keyed Tryz.underlying3
theorem mwf_nat {n : Nat} (h : n ≤ 100000) : (Lit.int .i64 (n : Int)).wf = true := by
  refine WalkArith.wf_i64 ?_
  omega
theorem mbool_inv {H : Type} {P : Program} {e : TypeId} (he : P.underlying e = some .bool) {v : Value} {z : DataW H × List MemPlace} (h : plainElem P e v = some z) : ∃ x, v = .bool x ∧ z = (.lit (.bool x), []) := by
  unfold plainElem at h
  rw [he] at h
  cases v <;> simp at h
  exact ⟨_, rfl, h.symm⟩
theorem mzero_bool (w : World) : (zeroValue 4).run Tryz.prog w = .ok (.bool false) w := by kernel_rfl
theorem cnt_more (f : Nat → Bool) (a : Nat) (hf : f a = false) : ∀ N, (List.range N).countP (fun z => f z || decide (z = a)) = (List.range N).countP f + if a < N then 1 else 0
  | 0 => rfl
  | N + 1 => by
    have ih := cnt_more f a hf N
    rw [List.range_succ, List.countP_append, List.countP_append, List.countP_singleton, List.countP_singleton]
    by_cases e : N = a
    · subst e
      rw [if_neg (by omega)] at ih
      simp [hf]; omega
    · have : decide (N = a) = false := by simp [e]
      rw [this]
      simp only [Bool.or_false]
      have e1 : (if a < N + 1 then 1 else 0) = (if a < N then 1 else 0) := by split <;> split <;> omega
      rw [e1]
      omega
theorem cnt_ext {f g : Nat → Bool} : ∀ N, (∀ z, z < N → f z = g z) → (List.range N).countP f = (List.range N).countP g
  | 0, _ => rfl
  | N + 1, h => by
    rw [List.range_succ, List.countP_append, List.countP_append, List.countP_singleton, List.countP_singleton, cnt_ext N (fun z hz => h z (by omega)), h N (by omega)]
/-- A map of numbers to truths, to which true alone is put. -/
def Mt (w : World) (B N : Nat) (f : Nat → Bool) : Prop :=
  ∃ D : DataW Unit, w.ownsMap Tryz.prog 3 (plainElem Tryz.prog 4) B (Maps.size D) D ∧ (∀ n : Nat, n ≤ 100000 → D.atKey (.int .i64 n) (.lit (.bool false)) = .lit (.bool (f n))) ∧ (∀ n : Nat, n ≤ 100000 → Maps.has D (.int .i64 n) = f n) ∧ Maps.size D = (List.range N).countP f ∧ ∀ n, f n = true → n < N
section
variable {w w' : World} {B N : Nat} {f : Nat → Bool}
theorem Mt.at (h : Mt w B N f) {n : Nat} (hb : n ≤ 100000) : (Instr.lookup 29 (.map (some B)) (.int .i64 n) false).run Tryz.prog w = .ok (.bool (f n)) w := by
  obtain ⟨D, ho, h5, _⟩ := h
  obtain ⟨v, ps, hrun, hv⟩ := ho.lookup mkint Tryz.underlying29 (mzero_bool w) (plainElem_bool (H := Unit) Tryz.underlying4 false) (keyOf_int_mk Tryz.underlying3 (mwf_nat hb))
  rw [h5 n hb] at hv
  obtain ⟨x, hx, e⟩ := mbool_inv Tryz.underlying4 hv
  have e1 : f n = x := by
    have := congrArg Prod.fst e
    simpa using this
  rw [hrun, hx, e1]
theorem Mt.made (w : World) (N : Nat) : Mt (w.alloc (.map #[] 0)) w.heap.size N (fun _ => false) :=
  ⟨.map [], World.ownsMap_made w Tryz.prog 3 (plainElem Tryz.prog 4), fun n a => rfl, fun n a => rfl, by simp [Maps.size], fun n h => by cases h⟩
theorem Mt.keep {S : List Nat} (h : Mt w B N f) (k : Kp S w w') (hB : B ∉ S) : Mt w' B N f := by
  obtain ⟨D, ⟨es, clock, hb, r⟩, h2⟩ := h
  exact ⟨D, ⟨es, clock, k.row hB hb, r⟩, h2⟩
theorem Mt.lt (h : Mt w B N f) : B < w.heap.size := by
  obtain ⟨D, ⟨es, clock, hb, r⟩, h2⟩ := h
  exact lt_of_block hb
theorem Mt.ne {b : Nat} {cs : Array Value} {t : TypeId} {fr : Nat × Nat} (h : Mt w B N f) (hb : w.heap[b]? = some (.cells cs t fr)) : B ≠ b := by
  obtain ⟨D, ⟨es, clock, hm, _⟩, _⟩ := h
  intro e; subst e
  have := hm.symm.trans hb
  simp at this
theorem Mt.len (h : Mt w B N f) (ty : TypeId) : (Builtin.len_ #[29] ty #[.map (some B)]).run Tryz.prog w = .ok (.int .i64 ((List.range N).countP f : Nat)) w := by
  obtain ⟨D, ho, _, _, h5, _⟩ := h
  rw [← h5]
  exact ho.len Tryz.underlying29 ty
theorem owns_tight {k : TypeId} {R : Value → Option (DataW Unit × List MemPlace)} {b n : Nat} {D : DataW Unit} (h : w.ownsMap Tryz.prog k R b n D) : w.ownsMap Tryz.prog k R b (Maps.size D) D := by
  obtain ⟨es, clock, hb, F, hs, rfl⟩ := h
  exact ⟨es, clock, hb, F, by simp [Maps.size, length_sorted], rfl⟩
theorem Mt.put (h : Mt w B N f) (hN : N ≤ 100000) {a : Nat} (ha : a < N) :
    ∃ w', (Instr.mapUpdate 29 (.map (some B)) (.int .i64 a) (.bool true)).run Tryz.prog w = .ok () w' ∧ Mt w' B N (fun z => f z || decide (z = a)) ∧ Kp [B] w w' := by
  obtain ⟨D, ho, h5, h6, h7, h8⟩ := h
  have hcl : (List.range N).countP f ≤ N := by
    have := List.countP_le_length (p := f) (l := List.range N)
    simpa using this
  obtain ⟨w', hrun, ho', hg⟩ := ho.update mkint Tryz.underlying29 (by unfold maxLen; omega) (keyOf_int_mk Tryz.underlying3 (mwf_nat (n := a) (by omega))) (plainElem_bool (H := Unit) Tryz.underlying4 true)
  have hkl : WideAt.IsKeyLit (.int .i64 (a : Int)) := trivial
  refine ⟨w', hrun, ⟨_, owns_tight ho', fun k b => ?_, fun k b => ?_, ?_, fun n hn => ?_⟩, (Kp.refl [B] w).grown hg (fun j hj => by cases hj; simp)⟩
  · by_cases e : k = a
    · subst e
      rw [Maps.atKey_put_same ho.isMap hkl]
      simp
    · rw [Maps.atKey_put_other (by intro q; injection q with _ q; omega), h5 k b]
      simp [e]
  · by_cases e : k = a
    · subst e
      rw [Maps.has_put_same ho.isMap hkl]
      simp
    · rw [Maps.has_put_other (by intro q; injection q with _ q; omega), h6 k b]
      simp [e]
  · rw [Maps.size_put (ho.tidy mkint), h6 a (by omega), h7]
    cases hfa : f a with
    | true =>
      rw [if_pos rfl]
      exact cnt_ext N fun z hz => by
        by_cases e : z = a
        · subst e; simp [hfa]
        · simp [e]
    | false =>
      rw [if_neg (by decide), cnt_more f a hfa N, if_pos ha]
  · simp only [Bool.or_eq_true, decide_eq_true_eq] at hn
    rcases hn with hn | rfl
    · exact h8 n hn
    · exact ha
end

section
variable {T n p r q ro o t : Nat} {gf : Value} {H : List Int} {w w' : World}
/-- Told by a map. -/
def TLm (bx mb : Nat) (tl : Nat → Bool) (w : World) : Prop := w.heap[bx]? = some (.cells #[.map (some mb)] 29 (0, 0)) ∧ Mt w mb 5001 tl
theorem TLm.keep {bx mb : Nat} {tl : Nat → Bool} {S : List Nat} (h : TLm bx mb tl w) (k : Kp S w w') (h1 : bx ∉ S) (h2 : mb ∉ S) : TLm bx mb tl w' := ⟨k.row h1 h.1, h.2.keep k h2⟩
theorem map_told {g : Nat} (bx mb : Nat) (hbm : bx ≠ mb) (hlt : bx ≠ p ∧ bx ≠ r ∧ mb ≠ p ∧ mb ≠ r ∧ bx ≠ q ∧ bx ≠ ro ∧ mb ≠ q ∧ mb ≠ ro)
    (hen : ∀ (x : Value) (w : World), (callFunc g (#[x] ++ #[.pointer (some ⟨bx, 0, none⟩)])).run Tryz.prog w = .ok (.enter g (#[x] ++ #[.pointer (some ⟨bx, 0, none⟩)])) w)
    (hc : ∀ tl w (a : Nat), TLm bx mb tl w → a ≤ 5000 → Calls Tryz.prog g (#[.int .i64 a] ++ #[.pointer (some ⟨bx, 0, none⟩)]) w fun e w' => e = .returned (.tuple #[]) ∧ TLm bx mb (fun z => tl z || decide (z = a)) w' ∧ Kp [bx, mb] w w') :
    TlOk p r q ro [bx, mb] (.func (.func g) #[] #[.pointer (some ⟨bx, 0, none⟩)]) true (TLm bx mb) where
  keep := fun tl S w w' hS k h => h.keep k (fun e => hS _ e (by simp)) (fun e => hS _ e (by simp))
  no := fun h => by cases h
  tell := fun _ => ⟨g, _, rfl, hen, hc⟩
  sg := by simp; omega
theorem rooms_put1 (bx mb : Nat) (tl : Nat → Bool) (w : World) (a : Nat) (h : TLm bx mb tl w) (ha : a ≤ 5000) : Calls Tryz.prog 9 #[.int .i64 a, .pointer (some ⟨bx, 0, none⟩)] w fun e w' => e = .returned (.tuple #[]) ∧ TLm bx mb (fun z => tl z || decide (z = a)) w' ∧ Kp [bx, mb] w w' := by
  obtain ⟨h1, h2⟩ := h
  have hne := h2.ne h1
  obtain ⟨w1, hrun, hm, hk⟩ := h2.put (by omega) (a := a) (by omega)
  have c0 := (cell_of_row h1 0).trans (show _ = some (.map (some mb)) from rfl)
  have F := Lib.hid (show TLm bx mb (fun z => tl z || decide (z = a)) w1 ∧ Kp [bx, mb] w w1 from ⟨⟨hk.row (by simp; omega) h1, hm⟩, hk.mono (by simp)⟩)
  clear h1 h2 hne hm hk
  go_enter Tryz.func9, Tryz.ntmps9
  go_wp2
  go_end0
  exact ⟨rfl, F.out⟩
theorem rooms_put2 (bx mb : Nat) (tl : Nat → Bool) (w : World) (a : Nat) (h : TLm bx mb tl w) (ha : a ≤ 5000) : Calls Tryz.prog 12 #[.int .i64 a, .pointer (some ⟨bx, 0, none⟩)] w fun e w' => e = .returned (.tuple #[]) ∧ TLm bx mb (fun z => tl z || decide (z = a)) w' ∧ Kp [bx, mb] w w' := by
  obtain ⟨h1, h2⟩ := h
  have hne := h2.ne h1
  obtain ⟨w1, hrun, hm, hk⟩ := h2.put (by omega) (a := a) (by omega)
  have c0 := (cell_of_row h1 0).trans (show _ = some (.map (some mb)) from rfl)
  have F := Lib.hid (show TLm bx mb (fun z => tl z || decide (z = a)) w1 ∧ Kp [bx, mb] w w1 from ⟨⟨hk.row (by simp; omega) h1, hm⟩, hk.mono (by simp)⟩)
  clear h1 h2 hne hm hk
  go_enter Tryz.func12, Tryz.ntmps12
  go_wp2
  go_end0
  exact ⟨rfl, F.out⟩

/-- Told by a box: the last one. -/
def TLb (bx : Nat) (tl : Nat → Bool) (w : World) : Prop := ∃ v : Nat, w.heap[bx]? = some (.cells #[.int .i64 v] 3 (0, 0)) ∧ ((v = 0 ∧ ∀ z, tl z = false) ∨ tl v = true)
theorem wakes_put (bx : Nat) (tl : Nat → Bool) (w : World) (a : Nat) (h : TLb bx tl w) (ha : a ≤ 5000) : Calls Tryz.prog 23 #[.int .i64 a, .pointer (some ⟨bx, 0, none⟩)] w fun e w' => e = .returned (.tuple #[]) ∧ TLb bx (fun z => tl z || decide (z = a)) w' ∧ Kp [bx] w w' := by
  obtain ⟨v, h1, h2⟩ := h
  have c0 := (cell_of_row h1 0).trans (show _ = some (.int .i64 v) from rfl)
  have f0 := free_of_row h1 0
  have F := Lib.hid (show TLb bx (fun z => tl z || decide (z = a)) (w.setCell ⟨bx, 0, none⟩ (.int .i64 a)) ∧ Kp [bx] w (w.setCell ⟨bx, 0, none⟩ (.int .i64 a)) from ⟨⟨a, by rw [heap_setCell_same _ _ _ _ _ _ h1]; rfl, .inr (by simp)⟩, (Kp.refl _ _).setCell (.inl (by simp)) _⟩)
  clear h1 h2
  go_enter Tryz.func23, Tryz.ntmps23
  go_wp2
  go_end0
  exact ⟨rfl, F.out⟩
theorem box_told (bx : Nat) (hlt : bx ≠ p ∧ bx ≠ r ∧ bx ≠ q ∧ bx ≠ ro) :
    TlOk p r q ro [bx] (.func (.func 23) #[] #[.pointer (some ⟨bx, 0, none⟩)]) true (TLb bx) where
  keep := fun tl S w w' hS k ⟨v, h, h2⟩ => ⟨v, k.row (fun e => hS _ e (by simp)) h, h2⟩
  no := fun h => by cases h
  tell := fun _ => ⟨_, _, rfl, fun x w => by kernel_rfl, fun tl w a h ha => wakes_put bx tl w a h ha⟩
  sg := by simp; omega
end
end Go.Proofs.YticbnckikkdknaaGreatDoor

namespace Go.Proofs.YticbnckikkdknaaGreatDoor
open List renaming getElem?_cons_zero → gqZ
set_option linter.unusedVariables false
set_option linter.unusedSimpArgs false
set_option maxRecDepth 100000
open Go.RowKit

/-- One number more behind a row of the call's own. -/
theorem app_oneI {w : World} {v : Value} {xs : List Value} {m : Nat} {base : Nat} (hown : Gx.Rw 3 1 base w v m xs) (hb : base ≤ w.heap.size) (z : Int) (hl : m ≤ 100000) (ty : TypeId) :
    ∃ g cap w', (Builtin.append_ #[46, 46] ty #[v, .slice (some ⟨w.heap.size, 0, none⟩) 1 1]).run Tryz.prog (w.alloc (.cells #[.int .i64 z] 3)) = .ok (.slice (some ⟨g, 0, none⟩) (m + 1) cap) w' ∧ Gx.Rw 3 1 base w' (.slice (some ⟨g, 0, none⟩) (m + 1) cap) (m + 1) (xs ++ [.int .i64 z]) ∧ Kp (Gx.blk v) w w' := by
  have ka : Kp [] w (w.alloc (.cells #[.int .i64 z] 3)) := (Kp.refl _ _).alloc _
  obtain ⟨i, hi, hz0, hz1, hz2⟩ := info_parts (show (Tryz.prog.info? 3).map (fun i => (i.zero, i.size, i.bytes)) = some (some (.int .i64 0), 1, 8) by kernel_rfl)
  obtain ⟨g, cap, w', hrun, hrw, hkp, hg⟩ := Gx.run_app (T := 3) (t := 46) (ty := ty) (base := base) Tryz.underlying46 ⟨i, _, hi, hz0, hz1, hz2, rfl⟩ (by decide) (hown.keep0 ka) (Nat.le_trans hb ka.size) ⟨w.heap.size, 0, none⟩ 1 1 [.int .i64 z] rfl (by
    intro j u hu
    match j, hu with
    | 0, hu =>
      simp only [gqZ, Option.some.injEq] at hu
      subst hu
      rw [Addr.add_lit]
      exact cell_of_row (heap_alloc_new w (.cells #[.int .i64 z] 3)) 0
    | j + 1, hu => simp at hu) (by
    intro u hu
    simp only [List.mem_singleton] at hu
    subst hu
    rfl) (by omega) (by omega) (by omega)
  exact ⟨g, cap, w', hrun, hrw, (ka.mono (by simp)).trans hkp⟩

/-- Numbers of things that came in. -/
def Nms (W : World) (ao : Option Addr) (l : List Nat) : Prop := ∀ j, j < l.length → ∃ g q, ao = some ⟨g, q, none⟩ ∧ W.cell? ⟨g, q + j, none⟩ = some (.int .u8 (l.getD j 0)) ∧ l.getD j 0 ≤ 255
theorem Nms.keep {W W' : World} {ao : Option Addr} {l : List Nat} (h : Nms W ao l) (k : Kp [] W W') : Nms W' ao l := fun j hj => by
  obtain ⟨g, q, e, hc, hb⟩ := h j hj
  exact ⟨g, q, e, kp_cell k (by simp) hc, hb⟩
/-- Their places, as values. -/
def plV (P : List Int) (l : List Nat) (m : Nat) : List Value := (List.range m).map fun j => .int .i64 (atP P (l.getD j 0))
theorem plV_succ (P : List Int) (l : List Nat) (m : Nat) : plV P l (m + 1) = plV P l m ++ [.int .i64 (atP P (l.getD m 0))] := by simp [plV, List.range_succ]
section
variable {T n : Nat} {B sp hb t : Nat} {qs : Nat → Nat} {s : As} {P : List Int} {w W : World}
set_option maxHeartbeats 1000000 in
theorem places_any (h : Hm B T n sp hb qs s P t w W) (hP : P.length ≤ 200) {ao : Option Addr} {cap : Nat} {l : List Nat} (hl : l.length ≤ 60) (hN : Nms W ao l) :
    Calls Tryz.prog 11 #[.pointer (some ⟨hb, 0, none⟩), .slice ao l.length cap] W fun e w' => ∃ ao' c, e = .returned (.slice ao' l.length c) ∧ Gx.Rw 3 1 W.heap.size w' (.slice ao' l.length c) l.length (plV P l l.length) ∧ Kp [] W w' := by
  have HAt := Lib.hid (fun (wq : World) (kq : Kp [] W wq) (m : Nat) (hm : m ≤ 255) => hm_at (h.on kq) hP m hm _ rfl)
  have HN := Lib.hid hN
  obtain ⟨M, hM⟩ : ∃ M, M = l.length := ⟨_, rfl⟩
  rw [← hM] at hl ⊢
  have HM := Lib.hid hM
  clear h hN hM hP
  go_enter Tryz.func11, Tryz.ntmps11
  go_wp2_with fail
  go_loopg [5, 6] M (fun gg v5 v6 wr => ∃ q : Nat, ∃ ao c, q + gg = M ∧ v6 = .int .i64 q ∧ v5 = .slice ao q c ∧ Hid (Kp [] W wr ∧ Gx.Rw 3 1 W.heap.size wr (.slice ao q c) q (plV P l q)))
  case atStart => exact ⟨0, none, 0, by omega, rfl, rfl, Lib.hid ⟨Kp.refl _ _, Gx.Rw.nil _ _ _ _⟩⟩
  case round =>
    obtain ⟨q, ao2, cq, hq, rfl, rfl, HR⟩ := hrel
    by_cases hlt : q < M
    · obtain ⟨g, o', hao, hc, hb255⟩ := HN.out q (by rw [← HM.out]; exact hlt)
      have hs := plV_succ P l q
      have cc := kp_cell HR.out.1 (by simp) hc
      obtain ⟨y, hy⟩ : ∃ y, l.getD q 0 = y := ⟨_, rfl⟩
      rw [hy] at cc hs hb255
      have HA := Lib.hid (HAt.out wr HR.out.1 y hb255)
      obtain ⟨z, hz⟩ : ∃ z, atP P y = z := ⟨_, rfl⟩
      rw [hz] at HA hs
      obtain ⟨ao8, cap8, w8, hrun8, hrw8, hk8⟩ := app_oneI HR.out.2 HR.out.1.size z (by omega) 46
      have HRun := Lib.hid hrun8
      have F8 : Hid (Kp [] W w8 ∧ Gx.Rw 3 1 W.heap.size w8 (.slice (some ⟨ao8, 0, none⟩) (q + 1) cap8) (q + 1) (plV P l (q + 1))) := Lib.hid ⟨HR.out.2.old rfl HR.out.1 hk8, by rw [hs]; exact hrw8⟩
      subst hao
      clear hrun8 hrw8 hk8 hs HR hc hy hz
      go_wp2_with fail
      refine HA.out.mono ?_
      rintro e w3 ⟨rfl, rfl⟩
      go_wp2_with (at_builtin; refine Gx.wpList_append_eq rfl (.tmp 13) (.tmp 20) 46 rfl _ _ _ rfl rfl HRun.out ?_)
      go_roundg (M - (q + 1))
      case rel => exact ⟨q + 1, _, _, by omega, by go_num, rfl, F8⟩
      case measure => omega
    · obtain rfl : q = M := by omega
      have F := Lib.hid HR.out
      clear HR
      go_wp2_with fail
      go_ret
      exact ⟨_, _, rfl, F.out.2, F.out.1⟩
end

/-- How great a heap may be. -/
theorem great_is (x y : Int) (hx : 0 ≤ x ∧ x ≤ 255) (hy : 0 ≤ y ∧ y ≤ 255) (ao : Option Addr) (m cap : Nat) (w : World) (b : Bool) (hb : b = true ↔ x < 1 ∨ 12 < x ∨ y < 1 ∨ 4 < y ∨ 60 < m) :
    Calls Tryz.prog 6 #[.int .u8 x, .int .u8 y, .slice ao m cap] w fun e w' => e = .returned (.bool b) ∧ w = w' := by
  have main : ∀ b0, (b0 = true ↔ x < 1 ∨ 12 < x ∨ y < 1 ∨ 4 < y ∨ 60 < m) → b = b0 := fun b0 h0 => Bool.eq_iff_iff.2 (hb.trans h0.symm)
  by_cases h1 : x < 1
  · have e := main true (by simp [h1])
    subst e
    clear hb main
    go_enter Tryz.func6, Tryz.ntmps6
    go_wp2
    go_ret
    exact ⟨rfl, rfl⟩
  · by_cases h2 : 12 < x
    · have e := main true (by simp [h2])
      subst e
      clear hb main
      go_enter Tryz.func6, Tryz.ntmps6
      go_wp2
      go_ret
      exact ⟨rfl, rfl⟩
    · by_cases h3 : y < 1
      · have e := main true (by simp [h3])
        subst e
        clear hb main
        go_enter Tryz.func6, Tryz.ntmps6
        go_wp2
        go_ret
        exact ⟨rfl, rfl⟩
      · by_cases h4 : 4 < y
        · have e := main true (by simp [h4])
          subst e
          clear hb main
          go_enter Tryz.func6, Tryz.ntmps6
          go_wp2
          go_ret
          exact ⟨rfl, rfl⟩
        · have e := main (decide (60 < m)) (by simp [h1, h2, h3, h4])
          subst e
          clear hb main
          have hm : ((60 : Int) < (m : Int)) = (60 < m) := by simp; omega
          cases h5 : decide (60 < m) with
          | true =>
            have h6 : (60 : Int) < (m : Int) := by simp at h5; omega
            go_enter Tryz.func6, Tryz.ntmps6
            go_wp2
            go_ret
            exact ⟨rfl, rfl⟩
          | false =>
            have h6 : ¬ ((60 : Int) < (m : Int)) := by simp at h5; omega
            go_enter Tryz.func6, Tryz.ntmps6
            go_wp2
            go_ret
            exact ⟨rfl, rfl⟩

/-- The known heap. -/
def kn : List Th := [⟨0, 2, 2, false, 0, [2, 3]⟩, ⟨0, 0, 1, false, 0, []⟩, ⟨0, 1, 1, false, 0, [4]⟩, ⟨0, 0, 0, true, 0, []⟩]
def knP : List Int := [8, 40, 42, 44]
theorem kn_P : (makesN 1 4 kn 4).2 = knP := by kernel_rfl
def knH : List Int := kidsN knP kn (makesN 1 4 kn 4).1.H 4
theorem kn_v : knH.getD 8 0 = 528386 ∧ knH.getD 9 0 = 40 ∧ knH.getD 10 0 = 42 ∧ knH.getD 40 0 = 262146 ∧ knH.getD 42 0 = 264194 ∧ knH.getD 43 0 = 44 ∧ knH.getD 44 0 = 3 := by
  refine ⟨?_, ?_, ?_, ?_, ?_, ?_, ?_⟩ <;> kernel_rfl
set_option maxHeartbeats 1000000 in
theorem known_any (w : World) : Calls Tryz.prog 22 #[] w fun e w' => (∃ ao, e = .returned (.slice ao 4 4) ∧ Tgs w' ao kn) ∧ Kp [] w w' := by
  go_enter Tryz.func22, Tryz.ntmps22
  go_wp2
  go_ret
  refine ⟨⟨some ⟨w.heap.size + 1 + 1, 0, none⟩, rfl, ?_⟩, (((Kp.refl _ _).alloc _).alloc _).alloc _⟩
  obtain ⟨w1, hw1⟩ : ∃ w1, w1 = w.alloc (.cells #[.int .u8 2, .int .u8 3] 5) := ⟨_, rfl⟩
  obtain ⟨w2, hw2⟩ : ∃ w2, w2 = w1.alloc (.cells #[.int .u8 4] 5) := ⟨_, rfl⟩
  obtain ⟨cs, hcs⟩ : ∃ cs : Array Value, cs = #[.int .u8 0, .int .u8 2, .int .u8 2, .bool false, .int .u8 0, .slice (some ⟨w.heap.size, 0, none⟩) 2 2, .int .u8 0, .int .u8 0, .int .u8 1, .bool false, .int .u8 0, .slice none 0 0, .int .u8 0, .int .u8 1, .int .u8 1, .bool false, .int .u8 0, .slice (some ⟨w.heap.size + 1, 0, none⟩) 1 1, .int .u8 0, .int .u8 0, .int .u8 0, .bool true, .int .u8 0, .slice none 0 0] := ⟨_, rfl⟩
  rw [← hw1, ← hw2, ← hcs]
  obtain ⟨w3, hw3⟩ : ∃ w3, w3 = w2.alloc (.cells cs 77) := ⟨_, rfl⟩
  rw [← hw3]
  have e1 : w1.heap.size = w.heap.size + 1 := by rw [hw1, World.size_alloc]
  have e2 : w2.heap.size = w.heap.size + 1 + 1 := by rw [hw2, World.size_alloc, e1]
  have r1 : w1.heap[w.heap.size]? = some (.cells #[.int .u8 2, .int .u8 3] 5 (0, 0)) := by rw [hw1]; exact heap_alloc_new _ _
  have r2 : w2.heap[w.heap.size + 1]? = some (.cells #[.int .u8 4] 5 (0, 0)) := by rw [hw2, ← e1]; exact heap_alloc_new _ _
  have r3 : w3.heap[w.heap.size + 1 + 1]? = some (.cells cs 77 (0, 0)) := by rw [hw3, ← e2]; exact heap_alloc_new _ _
  have k2 : Kp [] w1 w2 := by rw [hw2]; exact (Kp.refl _ _).alloc _
  have k3 : Kp [] w2 w3 := by rw [hw3]; exact (Kp.refl _ _).alloc _
  have q1 := (k2.trans k3).row (by simp) r1
  have q2 := k3.row (by simp) r2
  clear hw1 hw2 hw3 r1 r2 k2 k3 e1 e2
  generalize w.heap.size = b at *
  subst hcs
  have cl : ∀ i, w3.cell? ⟨b + 1 + 1, i, none⟩ = _ := fun i => cell_of_row r3 i
  intro j hj
  have hj4 : j < 4 := hj
  refine ⟨b + 1 + 1, 0, rfl, ?_, ?_⟩
  · match j, hj4 with
    | 0, _ => exact ⟨cl 0, cl 1, cl 2, cl 3, cl 4, some ⟨b, 0, none⟩, 2, cl 5, fun k hk => ⟨b, 0, rfl, by
        have hk2 : k < 2 := hk
        match k, hk2 with
        | 0, _ => exact cell_of_row q1 0
        | 1, _ => exact cell_of_row q1 1⟩⟩
    | 1, _ => exact ⟨cl 6, cl 7, cl 8, cl 9, cl 10, none, 0, cl 11, fun k hk => absurd (show k < 0 from hk) (Nat.not_lt_zero _)⟩
    | 2, _ => exact ⟨cl 12, cl 13, cl 14, cl 15, cl 16, some ⟨b + 1, 0, none⟩, 1, cl 17, fun k hk => ⟨b + 1, 0, rfl, by
        have hk2 : k < 1 := hk
        match k, hk2 with
        | 0, _ => exact cell_of_row q2 0⟩⟩
    | 3, _ => exact ⟨cl 18, cl 19, cl 20, cl 21, cl 22, none, 0, cl 23, fun k hk => absurd (show k < 0 from hk) (Nat.not_lt_zero _)⟩
  · match j, hj4 with
    | 0, _ => exact ⟨by decide, by decide, by decide, by decide, fun k => by
        match k with
        | 0 => decide
        | 1 => decide
        | k + 2 => exact Nat.zero_le _⟩
    | 1, _ => exact ⟨by decide, by decide, by decide, by decide, fun k => by exact Nat.zero_le _⟩
    | 2, _ => exact ⟨by decide, by decide, by decide, by decide, fun k => by
        match k with
        | 0 => decide
        | k + 1 => exact Nat.zero_le _⟩
    | 3, _ => exact ⟨by decide, by decide, by decide, by decide, fun k => by exact Nat.zero_le _⟩
end Go.Proofs.YticbnckikkdknaaGreatDoor
