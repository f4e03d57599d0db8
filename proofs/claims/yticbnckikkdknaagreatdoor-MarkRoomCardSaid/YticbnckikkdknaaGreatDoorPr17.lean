/- Package mark, its walks, on: an object is looked into. Package mark, its walks, on: what waits is drained. Package mark, its walks, on: how many cells of the owner there are in a block; what lies in them. Package mark, its walks, on: how many cells of the owner there are in a block. Package mark, its walks, on: all blocks are searched. Conditions: as each theorem states them. -/
import Derived.Test.YticbnckikkdknaaGreatDoorPr16
namespace Go.Proofs.YticbnckikkdknaaGreatDoor
set_option linter.unusedVariables false
set_option linter.unusedSimpArgs false
set_option maxRecDepth 100000
open Go.RowKit
/-- A marker's box. -/
def BoxM (p T n o room : Nat) (gf : Value) (q b : Nat) (wx : World) : Prop :=
  wx.cell? ⟨b, 0, none⟩ = some (.iface 31 (.pointer (some ⟨p, 0, none⟩))) ∧ wx.cell? ⟨b, 1, none⟩ = some (.int .i64 T) ∧ wx.cell? ⟨b, 2, none⟩ = some (.int .i64 0) ∧ wx.cell? ⟨b, 3, none⟩ = some (.int .i64 n) ∧ wx.cell? ⟨b, 4, none⟩ = some (.int .u8 o) ∧ wx.cell? ⟨b, 5, none⟩ = some (.int .i64 room) ∧ wx.cell? ⟨b, 6, none⟩ = some gf ∧ wx.cell? ⟨b, 7, none⟩ = some (.pointer (some ⟨q, 0, none⟩))
theorem BoxM.of {p T n o room q b : Nat} {gf : Value} {w : World} (h : w.heap[b]? = some (.cells #[.iface 31 (.pointer (some ⟨p, 0, none⟩)), .int .i64 T, .int .i64 0, .int .i64 n, .int .u8 o, .int .i64 room, gf, .pointer (some ⟨q, 0, none⟩)] 95 (0, 0))) : BoxM p T n o room gf q b w :=
  ⟨(cell_of_row h 0).trans rfl, (cell_of_row h 1).trans rfl, (cell_of_row h 2).trans rfl, (cell_of_row h 3).trans rfl, (cell_of_row h 4).trans rfl, (cell_of_row h 5).trans rfl, (cell_of_row h 6).trans rfl, (cell_of_row h 7).trans rfl⟩
theorem BoxM.keep {p T n o room q b : Nat} {gf : Value} {w w' : World} {S : List Nat} (h : BoxM p T n o room gf q b w) (k : Kp S w w') (hb : b ∉ S) : BoxM p T n o room gf q b w' := by
  obtain ⟨a0, a1, a2, a3, a4, a5, a6, a7⟩ := h
  exact ⟨kp_cell k hb a0, kp_cell k hb a1, kp_cell k hb a2, kp_cell k hb a3, kp_cell k hb a4, kp_cell k hb a5, kp_cell k hb a6, kp_cell k hb a7⟩
section
variable {T n p r q ro o room t : Nat} {gf : Value} {H : List Int} {w w' : World} {Rs : Nat → Nat → List Int} {O : Obs} {V : Nat → Int} {F : Nat → Nat → Int} {tel : Bool} {Sg : List Nat} {TL : (Nat → Bool) → World → Prop} {X : Mkg} {G : Gp}
/-- Only own ones are marked. -/
def OwnM (G : Gp) (X : Mkg) : Prop := ∀ x, X.M x = true → G.own x = true
theorem tr_own (h : OwnM G X) (y : Nat) : OwnM G (trS G room X y) := by
  intro x hx
  unfold trS at hx
  split at hx
  · exact h x hx
  · split at hx
    · exact h x hx
    · split at hx
      · rename_i ho
        simp only [Bool.or_eq_true, decide_eq_true_eq] at hx
        rcases hx with hx | rfl
        · exact h x hx
        · exact (Bool.and_eq_true _ _ ▸ ho).1
      · exact h x hx
theorem lo_own (l : List Nat) : ∀ {X : Mkg}, OwnM G X → OwnM G (loS G room X l) := by
  induction l with
  | nil => exact fun h => h
  | cons y l ih => exact fun h => ih (tr_own h y)
theorem lo_snoc (X : Mkg) (l : List Nat) (y : Nat) : loS G room X (l ++ [y]) = trS G room (loS G room X l) y := by unfold loS; rw [List.foldl_append]; rfl
theorem treat_any (hG : Gd T n H Rs O V F) (hT : T ≤ 64) (ho : o < T) (hTL : TlOk p r q ro Sg gf tel TL) (hX : Mrk T n p r q ro room Sg H TL X t w) (hM : OwnM (gpOf O H o tel) X) (ht : t ≤ 800000000000) {y : Nat} (hy : y = 0 ∨ (O y).isSome = true) :
    Calls Tryz.prog 34 #[mgV p T n o room gf q, .int .i64 y] w fun e w' => e = .returned (.tuple #[]) ∧ Mrk T n p r q ro room Sg H TL (trS (gpOf O H o tel) room X y) (t + 2) w' ∧ Kp (p :: r :: q :: ro :: Sg) w w' := by
  rcases hy with rfl | hy
  · exact treat_zero hTL hX _
  · cases hO : O y with
    | none => rw [hO] at hy; cases hy
    | some z =>
      obtain ⟨o', rf, sz⟩ := z
      exact treat_obj hG hT ho hTL hX hM ht hO
/-- A field of an object. -/
theorem Gd.fld (h : Gd T n H Rs O V F) (hT : T ≤ 64) (hlen : H.length ≤ 4096) (hM : OwnM (gpOf O H o tel) X) {x o' rf sz k : Nat} (hx : O x = some (o', rf, sz)) (hk : k < sz) : ∃ y : Nat, (markL H X.M).getD (x + 1 + k) 0 = y ∧ H.getD (x + 1 + k) 0 = y ∧ (y = 0 ∨ (O y).isSome = true) ∧ y < 5000 := by
  have hin := h.hp.inn hx
  have hf := h.hp.fld x o' rf sz hx k hk
  have hN := h.hp.len
  have hm : X.M (x + 1 + k) = false := by
    cases hc : X.M (x + 1 + k) with
    | false => rfl
    | true =>
      have := hM _ hc
      simp only [gpOf, Bool.and_eq_true] at this
      cases hO : O (x + 1 + k) with
      | none => rw [hO] at this; simp at this
      | some z =>
        obtain ⟨o2, r2, s2⟩ := z
        obtain ⟨H0, h0, _⟩ := h.hp.base
        rcases h0.apart hx hO (by omega) with q | q <;> omega
  have hm' := markL_get H X.M (x + 1 + k) (by omega)
  rw [hm] at hm'
  simp only [Bool.false_eq_true, if_false] at hm'
  rcases h.fk x o' rf sz hx k hk with e | ⟨y, e, hy⟩
  · exact ⟨0, by rw [hm', hf, e]; rfl, by rw [hf, e]; rfl, .inl rfl, by omega⟩
  · refine ⟨y, by rw [hm', hf, e], by rw [hf, e], .inr hy, ?_⟩
    cases hO : O y with
    | none => rw [hO] at hy; cases hy
    | some z =>
      obtain ⟨o2, r2, s2⟩ := z
      have := h.hp.inn hO
      omega
/-- A word is read. -/
theorem Mrk.read (h : Mrk T n p r q ro room Sg H TL X t w) (hTL : TlOk p r q ro Sg gf tel TL) (ht : t ≤ 800000000000) (a : Nat) (ha : a < H.length) (x : Int) (hx : (markL H X.M).getD a 0 = x) :
    Calls Tryz.prog 41 #[.pointer (some ⟨p, 0, none⟩), .int .i64 a] w fun e w' => e = .returned (.int .u64 x) ∧ Mrk T n p r q ro room Sg H TL X (t + 1) w' ∧ Kp (p :: r :: q :: ro :: Sg) w w' := by
  obtain ⟨t0, h0, h1⟩ := h.hw
  refine (rd_word h1 (by omega) a (by rw [markL_len]; exact ha) (a : Int) x rfl hx).mono ?_
  rintro e w' ⟨rfl, h2, k⟩
  have hne := h.ne
  have sg := hTL.sg
  exact ⟨rfl, ⟨⟨t0 + 1, by omega, h2⟩, h.sk.keep k (by simp; omega) (by simp; omega), hTL.keep _ _ _ _ (by intro g hg; simp at hg; rcases hg with rfl | rfl; exact sg.1; exact sg.2.1) k h.tl, h.ne, fun g hg => Nat.lt_of_lt_of_le (h.lt g hg) k.size⟩, k.mono fun g hg _ => by simp at hg ⊢; omega⟩
set_option maxHeartbeats 4000000 in
theorem look_is (hG : Gd T n H Rs O V F) (hT : T ≤ 64) (ho : o < T) (hTL : TlOk p r q ro Sg gf tel TL) (hX : Mrk T n p r q ro room Sg H TL X t w) (hM : OwnM (gpOf O H o tel) X) {x o' rf sz : Nat} (hx : O x = some (o', rf, sz)) (ht : t + 3 * rf ≤ 800000000000) (k c : Nat) (m : Bool) :
    Calls Tryz.prog 33 #[mgV p T n o room gf q, .int .i64 x, .agg (hp7 k c o' rf sz m)] w fun e w' => e = .returned (.tuple #[]) ∧ Mrk T n p r q ro room Sg H TL (loS (gpOf O H o tel) room X ((gpOf O H o tel).ref x)) (t + 3 * rf) w' ∧ Kp (p :: r :: q :: ro :: Sg) w w' := by
  obtain ⟨l, hl⟩ : ∃ l, l = (gpOf O H o tel).ref x := ⟨_, rfl⟩
  have hin := hG.hp.inn hx
  have hrf : H.getD x 0 / 2048 % 128 = rf := (hG.head hT hx).2.1
  have hll : l.length = rf := by
    rw [hl]
    show ((List.range _).map _).length = rf
    rw [List.length_map, List.length_range, hrf, Int.toNat_natCast]
  have hlg : ∀ j, j < rf → l.take (j + 1) = l.take j ++ [(H.getD (x + 1 + j) 0).toNat] := fun j hj => by
    rw [List.take_add_one, hl]
    congr 1
    show (((List.range _).map _)[j]?).toList = _
    rw [List.getElem?_map, List.getElem?_range (by rw [hrf, Int.toNat_natCast]; exact hj)]
    rfl
  rw [← hl]
  have HL := Lib.hid (And.intro hll hlg)
  have HG := Lib.hid (And.intro hG (And.intro hx hin))
  have HTL := Lib.hid hTL
  have HO := Lib.hid hM
  obtain ⟨w1, hw1⟩ : ∃ w1, w1 = (w.alloc (.cells #[.iface 31 (.pointer (some ⟨p, 0, none⟩)), .int .i64 T, .int .i64 0, .int .i64 n, .int .u8 o, .int .i64 room, gf, .pointer (some ⟨q, 0, none⟩)] 95)).alloc (.cells (hp7 k c o' rf sz m) 59) := ⟨_, rfl⟩
  have kb : Kp [] w w1 := by rw [hw1]; exact ((Kp.refl _ _).alloc _).alloc _
  have r0 : w1.heap[w.heap.size]? = some (.cells #[.iface 31 (.pointer (some ⟨p, 0, none⟩)), .int .i64 T, .int .i64 0, .int .i64 n, .int .u8 o, .int .i64 room, gf, .pointer (some ⟨q, 0, none⟩)] 95 (0, 0)) := by rw [hw1]; exact heap_alloc2_old _ _ _
  have r1 : w1.heap[w.heap.size + 1]? = some (.cells (hp7 k c o' rf sz m) 59 (0, 0)) := by
    rw [hw1]
    have := heap_alloc_new (w.alloc (.cells #[.iface 31 (.pointer (some ⟨p, 0, none⟩)), .int .i64 T, .int .i64 0, .int .i64 n, .int .u8 o, .int .i64 room, gf, .pointer (some ⟨q, 0, none⟩)] 95)) (.cells (hp7 k c o' rf sz m) 59)
    rw [World.size_alloc] at this
    exact this
  have hlt := hX.lt
  have H1 := Lib.hid (And.intro (hX.on hTL kb) (And.intro kb (And.intro (BoxM.of r0) (fun g hg => hlt g hg : ∀ g ∈ p :: r :: q :: ro :: Sg, g < w.heap.size))))
  have d5 := (cell_of_row r1 5).trans (show _ = some (.int .u8 rf) from rfl)
  have crf : IntKind.i64.wrap (rf : Int) = rf := IntWalk.i64_in _ (by omega)
  have hrf95 : rf ≤ 95 := by omega
  have hlen : H.length ≤ 4096 := by
    obtain ⟨_, _, hh⟩ := hX.hw
    have := hh.top
    rwa [markL_len] at this
  have hx5 : x < 5000 := by omega
  clear hin hrf hll hlg hG hx hTL hM hX r0 r1 kb hlt hl
  go_enter Tryz.func33, Tryz.ntmps33
  go_upto_region 1 with (fail)
  rw [← hw1]
  clear hw1
  go_wp2_with fail
  go_loopg [10] rf (fun g v10 wr => ∃ j : Nat, j + g = rf ∧ v10 = .int .i64 j ∧ Hid (Mrk T n p r q ro room Sg H TL (loS (gpOf O H o tel) room X (l.take j)) (t + 3 * j) wr ∧ Kp (p :: r :: q :: ro :: Sg) w wr ∧ BoxM p T n o room gf q w.heap.size wr))
  case atStart => exact ⟨0, by omega, rfl, Lib.hid ⟨by simpa [loS] using H1.out.1, H1.out.2.1.mono (by simp), H1.out.2.2.1⟩⟩
  case round =>
    obtain ⟨j, hj, rfl, HR⟩ := hrel
    by_cases hjr : j < rf
    · obtain ⟨y, hy1, hy2, hy3, hy4⟩ := HG.out.1.fld (o := o) (tel := tel) (X := loS (gpOf O H o tel) room X (l.take j)) hT hlen (lo_own _ HO.out) HG.out.2.1 (k := j) (by have := HG.out.2.2; omega)
      have hbn : w.heap.size ∉ p :: r :: q :: ro :: Sg := fun e => by have := H1.out.2.2.2 _ e; omega
      have htk := HL.out.2 j hjr
      rw [hy2, Int.toNat_natCast] at htk
      have HX1 := Lib.hid (show loS (gpOf O H o tel) room X (l.take (j + 1)) = trS (gpOf O H o tel) room (loS (gpOf O H o tel) room X (l.take j)) y by rw [htk, lo_snoc])
      have hxl : x + 1 + j < H.length := by have := HG.out.2.2; omega
      have HRd := Lib.hid (fun wq (kq : Kp [] wr wq) => (HR.out.1.on HTL.out kq).read HTL.out (by omega) (x + 1 + j) hxl (y : Int) hy1)
      have HTr := Lib.hid (fun wq (hq : Mrk T n p r q ro room Sg H TL (loS (gpOf O H o tel) room X (l.take j)) (t + 3 * j + 1) wq) => treat_any HG.out.1 hT ho HTL.out hq (lo_own _ HO.out) (by omega) hy3)
      have HB := Lib.hid (And.intro HR.out.2.2 (And.intro hbn HR.out.2.1))
      have ca1 : IntKind.i64.wrap ((x : Int) + 1) = (x : Int) + 1 := IntWalk.i64_in _ (by omega)
      have ca2 : IntKind.i64.wrap ((x : Int) + 1 + j) = (x : Int) + 1 + j := IntWalk.i64_in _ (by omega)
      have cy : IntKind.i64.wrap (y : Int) = y := IntWalk.i64_in _ (by omega)
      obtain ⟨a0, a1, a2, a3, a4, a5, a6, a7⟩ := HR.out.2.2
      clear hy1 hy2 hy3 hbn htk HR
      go_upto_region 4 with (fail)
      go_region_held3 (fun wx => wx.cell? ⟨w.heap.size, 0, none⟩ = some (.iface 31 (.pointer (some ⟨p, 0, none⟩))) ∧ wx.cell? ⟨w.heap.size, 1, none⟩ = some (.int .i64 T) ∧ wx.cell? ⟨w.heap.size, 2, none⟩ = some (.int .i64 0) ∧ wx.cell? ⟨w.heap.size, 3, none⟩ = some (.int .i64 n) ∧ wx.cell? ⟨w.heap.size, 4, none⟩ = some (.int .u8 o) ∧ wx.cell? ⟨w.heap.size, 5, none⟩ = some (.int .i64 room) ∧ wx.cell? ⟨w.heap.size, 6, none⟩ = some gf ∧ wx.cell? ⟨w.heap.size, 7, none⟩ = some (.pointer (some ⟨q, 0, none⟩)))
        (first
          | with_reducible assumption
          | exact BoxM.keep HB.out.1 K4.out HB.out.2.1
          | exact BoxM.keep HB.out.1 (K4.out.trans ((Kp.refl [] _).drew.mono (by simp))) HB.out.2.1
          | exact BoxM.keep HB.out.1 K5.out HB.out.2.1
          | exact BoxM.keep HB.out.1 ((Kp.refl [] _).drew) (by simp)
          | exact HB.out.1)
        (first
          | (go_at_call 41
             refine (HRd.out _ ?_).mono ?_
             · repeat (first
                 | with_reducible exact Kp.refl _ _
                 | with_reducible refine Kp.drew ?_)
             rintro e w4 ⟨rfl, m4, k4⟩
             have M4 := Lib.hid m4
             have K4 : Hid (Kp (p :: r :: q :: ro :: Sg) wr w4) := Lib.hid (by
               refine Kp.trans ?_ k4
               repeat (first
                 | with_reducible exact Kp.refl _ _
                 | with_reducible refine Kp.drew ?_))
             clear m4 k4)
          | (go_at_call 34
             refine (HTr.out _ ?_).mono ?_
             · first
                 | exact M4.out
                 | exact M4.out.on HTL.out ((Kp.refl [] _).drew)
             rintro e w5 ⟨rfl, m5, k5⟩
             have M5 := Lib.hid m5
             have K5 : Hid (Kp (p :: r :: q :: ro :: Sg) wr w5) := Lib.hid (by
               refine Kp.trans ?_ k5
               first
                 | exact K4.out
                 | exact K4.out.trans ((Kp.refl [] _).drew.mono (by simp)))
             clear m5 k5))
      all_goals
        rename_i hHeld
        clear hHeld
        have HN : Hid (Mrk T n p r q ro room Sg H TL (loS (gpOf O H o tel) room X (l.take (j + 1))) (t + 3 * (j + 1)) w5 ∧ Kp (p :: r :: q :: ro :: Sg) w w5 ∧ BoxM p T n o room gf q w.heap.size w5) := Lib.hid (by
          rw [HX1.out]
          exact ⟨M5.out.more (by omega), HB.out.2.2.trans K5.out, HB.out.1.keep K5.out HB.out.2.1⟩)
        clear M5 M4 K4 K5 HX1
        go_wp2_with fail
        go_roundg (rf - (j + 1))
        case rel => exact ⟨j + 1, by omega, by go_num, HN⟩
        case measure => omega
    · have ejr : j = rf := by omega
      have HF : Hid (Mrk T n p r q ro room Sg H TL (loS (gpOf O H o tel) room X l) (t + 3 * rf) wr ∧ Kp (p :: r :: q :: ro :: Sg) w wr) := Lib.hid (by
        have := HR.out
        rw [ejr, List.take_of_length_le (by rw [HL.out.1]; exact Nat.le_refl _)] at this
        exact ⟨this.1, this.2.1⟩)
      clear HR ejr
      go_wp2_with fail
      go_end0
      exact ⟨rfl, HF.out.1, HF.out.2⟩
end
end Go.Proofs.YticbnckikkdknaaGreatDoor

namespace Go.Proofs.YticbnckikkdknaaGreatDoor
set_option linter.unusedVariables false
set_option linter.unusedSimpArgs false
set_option maxRecDepth 100000
open Go.RowKit
/-- How much may still be done. -/
def muM (G : Gp) (N : Nat) (X : Mkg) : Nat := 2 * (List.range N).countP (fun x => G.own x && !X.M x) + X.st.length
section
variable {T n p r q ro o room t N : Nat} {gf : Value} {H : List Int} {w w' : World} {Rs : Nat → Nat → List Int} {O : Obs} {V : Nat → Int} {F : Nat → Nat → Int} {tel : Bool} {Sg : List Nat} {TL : (Nat → Bool) → World → Prop} {X : Mkg} {G : Gp}
theorem cnt_less (f g : Nat → Bool) (y : Nat) (hy : f y = true) (hg : ∀ x, g x = (f x && !decide (x = y))) : ∀ N, (List.range N).countP g + (if y < N then 1 else 0) = (List.range N).countP f
  | 0 => rfl
  | N + 1 => by
    have ih := cnt_less f g y hy hg N
    rw [List.range_succ, List.countP_append, List.countP_append, List.countP_singleton, List.countP_singleton, hg N]
    by_cases e : N = y
    · subst e
      rw [if_neg (by omega)] at ih
      simp [hy]; omega
    · have : decide (N = y) = false := by simp [e]
      rw [this]
      simp only [Bool.not_false, Bool.and_true]
      have e1 : (if y < N + 1 then 1 else 0) = (if y < N then 1 else 0) := by split <;> split <;> omega
      rw [e1]
      generalize (if y < N then 1 else 0) = z at ih ⊢
      generalize (if f N = true then 1 else 0) = z2
      omega
theorem mu_tr (hN : ∀ y, G.own y = true → y < N) (X : Mkg) (y : Nat) : muM G N (trS G room X y) ≤ muM G N X := by
  unfold trS
  split
  · exact Nat.le_refl _
  · split
    · exact Nat.le_refl _
    · split
      · rename_i ho
        have hc := cnt_less (fun x => G.own x && !X.M x) (fun x => G.own x && !(X.M x || decide (x = y))) y ho (fun x => by cases G.own x <;> cases X.M x <;> simp) N
        rw [if_pos (hN y (Bool.and_eq_true _ _ ▸ ho).1)] at hc
        unfold muM
        simp only
        split
        · rw [List.length_append, List.length_singleton]; omega
        · omega
      · exact Nat.le_refl _
theorem mu_lo (hN : ∀ y, G.own y = true → y < N) (l : List Nat) : ∀ X : Mkg, muM G N (loS G room X l) ≤ muM G N X := by
  induction l with
  | nil => exact fun X => Nat.le_refl _
  | cons y l ih => exact fun X => Nat.le_trans (ih _) (mu_tr hN X y)
/-- Only own ones are marked; what waits is marked. -/
structure Wi (G : Gp) (X : Mkg) : Prop where
  own : OwnM G X
  st : ∀ x ∈ X.st, X.M x = true
theorem Wi.tr (h : Wi G X) (y : Nat) : Wi G (trS G room X y) := by
  refine ⟨tr_own h.own y, ?_⟩
  unfold trS
  split
  · exact h.st
  · split
    · exact h.st
    · split
      · intro x hx
        simp only at hx ⊢
        split at hx
        · rcases List.mem_append.1 hx with hx | hx
          · simp [h.st x hx]
          · simp at hx; simp [hx]
        · simp [h.st x hx]
      · exact h.st
theorem Wi.lo (l : List Nat) : ∀ {X : Mkg}, Wi G X → Wi G (loS G room X l) := by
  induction l with
  | nil => exact fun h => h
  | cons y l ih => exact fun h => ih (h.tr y)
theorem Wi.pop (h : Wi G X) {st : List Nat} (hs : ∀ x ∈ st, x ∈ X.st) : Wi G { X with st := st } := ⟨h.own, fun x hx => h.st x (hs x hx)⟩
theorem Mrk.pop (h : Mrk T n p r q ro room Sg H TL X t w) (hTL : TlOk p r q ro Sg gf tel TL) :
    Calls Tryz.prog 67 #[.pointer (some ⟨q, 0, none⟩)] w fun e w' => e = .returned (.tuple #[.int .i64 (Sk.popX (X.st.map Int.ofNat)), .bool (Sk.popB (X.st.map Int.ofNat))]) ∧ Mrk T n p r q ro room Sg H TL { X with st := X.st.dropLast } t w' ∧ Kp (p :: r :: q :: ro :: Sg) w w' := by
  refine (Sk.spop_any w q ro room (X.st.map Int.ofNat) X.ov h.sk).mono ?_
  rintro e w' ⟨rfl, hs, k⟩
  obtain ⟨t0, h0, h1⟩ := h.hw
  have hne := h.ne
  have sg := hTL.sg
  refine ⟨rfl, ⟨⟨t0, h0, h1.keep k (by simp; omega) (by simp; omega)⟩, by rw [← List.map_dropLast] at hs; exact hs, hTL.keep _ _ _ _ (by intro g hg; simp at hg; rcases hg with rfl | rfl; exact sg.2.2.1; exact sg.2.2.2) k h.tl, h.ne, fun g hg => Nat.lt_of_lt_of_le (h.lt g hg) k.size⟩, k.mono fun g hg _ => by simp at hg ⊢; omega⟩
/-- A header of an object is read. -/
theorem Mrk.head (h : Mrk T n p r q ro room Sg H TL X t w) (hG : Gd T n H Rs O V F) (hT : T ≤ 64) (hTL : TlOk p r q ro Sg gf tel TL) (hM : OwnM (gpOf O H o tel) X) (ht : t ≤ 800000000000) {x o' rf sz : Nat} (hx : O x = some (o', rf, sz)) :
    ∃ k c : Nat, k ≤ 3 ∧ (gpOf O H o tel).own x = (decide (k = 2) && decide (o' = o)) ∧ Calls Tryz.prog 63 #[mgV p T n o room gf q, .int .i64 x] w fun e w' => e = .returned (.agg (hp7 k c o' rf sz (X.M x))) ∧ Mrk T n p r q ro room Sg H TL X (t + 1) w' ∧ Kp (p :: r :: q :: ro :: Sg) w w' := by
  obtain ⟨k, c, hyl, ho', hrf, hsz, hw0, hmay, hown, hglb, hk3, hkc, hc1, hMk, hH⟩ := hG.at hT hM hx
  refine ⟨k, c, hk3, hown, ?_⟩
  obtain ⟨t0, h0, h1⟩ := h.hw
  refine (head_is h1 (by omega) x (by rw [markL_len]; exact hyl) k c o' rf sz (X.M x) hw0 hmay).mono ?_
  rintro e w' ⟨rfl, h2, k⟩
  have hne := h.ne
  have sg := hTL.sg
  exact ⟨rfl, ⟨⟨t0 + 1, by omega, h2⟩, h.sk.keep k (by simp; omega) (by simp; omega), hTL.keep _ _ _ _ (by intro g hg; simp at hg; rcases hg with rfl | rfl; exact sg.1; exact sg.2.1) k h.tl, h.ne, fun g hg => Nat.lt_of_lt_of_le (h.lt g hg) k.size⟩, k.mono fun g hg _ => by simp at hg ⊢; omega⟩
abbrev lkV (p T n o room : Nat) (gf : Value) (q : Nat) : Value := .func (.func 33) #[mgV p T n o room gf q] #[]
set_option maxHeartbeats 4000000 in
theorem drain_is (hG : Gd T n H Rs O V F) (hT : T ≤ 64) (ho : o < T) (hTL : TlOk p r q ro Sg gf tel TL) (hX : Mrk T n p r q ro room Sg H TL X t w) (hW : Wi (gpOf O H o tel) X) (ht : t + 300 * muM (gpOf O H o tel) H.length X ≤ 800000000000) :
    Calls Tryz.prog 35 #[mgV p T n o room gf q, lkV p T n o room gf q] w fun e w' => e = .returned (.tuple #[]) ∧ ∃ X' t', Dr (gpOf O H o tel) room X X' ∧ Wi (gpOf O H o tel) X' ∧ muM (gpOf O H o tel) H.length X' ≤ muM (gpOf O H o tel) H.length X ∧ t' + 300 * muM (gpOf O H o tel) H.length X' ≤ t + 300 * muM (gpOf O H o tel) H.length X ∧ Mrk T n p r q ro room Sg H TL X' t' w' ∧ Kp (p :: r :: q :: ro :: Sg) w w' := by
  have hN : ∀ y, (gpOf O H o tel).own y = true → y < H.length := fun y hy => by
    simp only [gpOf, Bool.and_eq_true] at hy
    cases hO : O y with
    | none => rw [hO] at hy; simp at hy
    | some z =>
      obtain ⟨o2, r2, s2⟩ := z
      have := hG.hp.inn hO
      omega
  have HNn := Lib.hid hN
  have HG := Lib.hid hG
  have HTL := Lib.hid hTL
  obtain ⟨w1, hw1⟩ : ∃ w1, w1 = w.alloc (.cells #[.iface 31 (.pointer (some ⟨p, 0, none⟩)), .int .i64 T, .int .i64 0, .int .i64 n, .int .u8 o, .int .i64 room, gf, .pointer (some ⟨q, 0, none⟩)] 95) := ⟨_, rfl⟩
  have kb : Kp [] w w1 := by rw [hw1]; exact (Kp.refl _ _).alloc _
  have r0 : w1.heap[w.heap.size]? = some (.cells #[.iface 31 (.pointer (some ⟨p, 0, none⟩)), .int .i64 T, .int .i64 0, .int .i64 n, .int .u8 o, .int .i64 room, gf, .pointer (some ⟨q, 0, none⟩)] 95 (0, 0)) := by rw [hw1]; exact heap_alloc_new _ _
  have hlt := hX.lt
  have hbn : w.heap.size ∉ p :: r :: q :: ro :: Sg := fun e => by have := hlt _ e; omega
  have hX1 := hX.on hTL kb
  have HP := Lib.hid (hX1.pop hTL)
  have H1 := Lib.hid (And.intro kb (And.intro (BoxM.of r0) (And.intro hbn hW)))
  obtain ⟨a0, a1, a2, a3, a4, a5, a6, a7⟩ := BoxM.of r0
  obtain ⟨mu, hmu⟩ : ∃ mu, mu = muM (gpOf O H o tel) H.length X := ⟨_, rfl⟩
  rw [← hmu] at ht ⊢
  have HMu := Lib.hid (And.intro hmu ht)
  clear hN hG hTL hX hW r0 hlt kb hbn hX1 hmu ht
  go_enter Tryz.func35, Tryz.ntmps35
  go_upto_region 1 with (fail)
  rw [← hw1]
  clear hw1
  go_wp2_with fail
  refine HP.out.mono ?_
  rintro e w2 ⟨rfl, m2, k2⟩
  have H2 : Hid (∃ X1 : Mkg, ∃ t', muM (gpOf O H o tel) H.length X1 = mu ∧ Sk.popX (X.st.map Int.ofNat) = Sk.popX (X1.st.map Int.ofNat) ∧ Sk.popB (X.st.map Int.ofNat) = Sk.popB (X1.st.map Int.ofNat) ∧ (∀ X', Dr (gpOf O H o tel) room X1 X' → Dr (gpOf O H o tel) room X X') ∧ Wi (gpOf O H o tel) X1 ∧ t' + 300 * mu ≤ t + 300 * mu ∧ Mrk T n p r q ro room Sg H TL { X1 with st := X1.st.dropLast } t' w2 ∧ Kp (p :: r :: q :: ro :: Sg) w w2 ∧ BoxM p T n o room gf q w.heap.size w2) := Lib.hid ⟨X, t, HMu.out.1.symm, rfl, rfl, fun _ h => h, H1.out.2.2.2, by omega, m2, (H1.out.1.mono (by simp)).trans k2, H1.out.2.1.keep k2 H1.out.2.2.1⟩
  clear m2 k2 HP a0 a1 a2 a3 a4 a5 a6 a7
  generalize Sk.popX (X.st.map Int.ofNat) = px at *
  generalize Sk.popB (X.st.map Int.ofNat) = pb at *
  go_wp2_with fail
  go_loopg [4, 5] mu (fun g v4 v5 wr => ∃ (X1 : Mkg) (px : Int) (pb : Bool), muM (gpOf O H o tel) H.length X1 = g ∧ v4 = .int .i64 px ∧ v5 = .bool pb ∧ Hid (px = Sk.popX (X1.st.map Int.ofNat) ∧ pb = Sk.popB (X1.st.map Int.ofNat) ∧ ∃ t', (∀ X', Dr (gpOf O H o tel) room X1 X' → Dr (gpOf O H o tel) room X X') ∧ Wi (gpOf O H o tel) X1 ∧ g ≤ mu ∧ t' + 300 * g ≤ t + 300 * mu ∧ Mrk T n p r q ro room Sg H TL { X1 with st := X1.st.dropLast } t' wr ∧ Kp (p :: r :: q :: ro :: Sg) w wr ∧ BoxM p T n o room gf q w.heap.size wr))
  case atStart =>
    obtain ⟨X1, t', e1, e2, e3, e4, e5, e6, e7, e8, e9⟩ := H2.out
    exact ⟨X1, px, pb, e1, rfl, rfl, Lib.hid ⟨e2, e3, t', e4, e5, Nat.le_refl _, e6, e7, e8, e9⟩⟩
  case round =>
    obtain ⟨X1, px1, pb1, hg1, rfl, rfl, HR⟩ := hrel
    clear H2
    rcases List.eq_nil_or_concat X1.st with hs | ⟨st, x, hs⟩
    · have hpb : pb1 = false := by rw [HR.out.2.1, hs]; rfl
      subst hpb
      have HF : Hid (∃ X' t', Dr (gpOf O H o tel) room X X' ∧ Wi (gpOf O H o tel) X' ∧ muM (gpOf O H o tel) H.length X' ≤ mu ∧ t' + 300 * muM (gpOf O H o tel) H.length X' ≤ t + 300 * mu ∧ Mrk T n p r q ro room Sg H TL X' t' wr ∧ Kp (p :: r :: q :: ro :: Sg) w wr) := Lib.hid (by
        obtain ⟨_, _, t', h1, h2, h3, h4, h5, h6, h7⟩ := HR.out
        have e : ({ X1 with st := X1.st.dropLast } : Mkg) = X1 := by rw [hs]; cases X1; simp at hs; simp [hs]
        rw [e] at h5
        exact ⟨X1, t', h1 _ (.nil X1 hs), h2, by rw [hg1]; exact h3, by rw [hg1]; exact h4, h5, h6⟩)
      clear HR hs
      go_wp2_with fail
      go_end0
      exact ⟨rfl, HF.out⟩
    · have hs' : X1.st = st ++ [x] := by rw [hs, List.concat_eq_append]
      have hpb : pb1 = true := by rw [HR.out.2.1, hs']; simp [Sk.popB]
      have hpx : px1 = x := by rw [HR.out.1, hs']; simp [Sk.popX]
      subst hpb hpx
      obtain ⟨z1, z2, t', h1, h2, h3, h4, h5, h6, h7⟩ := HR.out
      clear z1 z2
      have hd : ({ X1 with st := X1.st.dropLast } : Mkg) = { X1 with st := st } := by rw [hs']; simp
      rw [hd] at h5
      obtain ⟨X2, hX2⟩ : ∃ X2 : Mkg, X2 = { X1 with st := st } := ⟨_, rfl⟩
      rw [← hX2] at h5
      have hxm : X1.M x = true := h2.st x (by rw [hs']; simp)
      have hW2 : Wi (gpOf O H o tel) X2 := by rw [hX2]; exact h2.pop fun z hz => by rw [hs']; simp [hz]
      have hmu2 : muM (gpOf O H o tel) H.length X2 + 1 = gk := by
        rw [← hg1, hX2]; unfold muM; simp only; rw [hs', List.length_append, List.length_singleton]; omega
      have hown := h2.own x hxm
      obtain ⟨o', rf, sz, hO⟩ : ∃ o' rf sz, O x = some (o', rf, sz) := by
        simp only [gpOf, Bool.and_eq_true] at hown
        cases hO : O x with
        | none => rw [hO] at hown; simp at hown
        | some z => exact ⟨z.1, z.2.1, z.2.2, rfl⟩
      have hin := HG.out.hp.inn hO
      have hmt := HMu.out.2
      obtain ⟨kk, cc, hk3, hown2, hHd⟩ := h5.head (room := room) (gf := gf) HG.out hT HTL.out hW2.own (by omega) hO
      have HHd := Lib.hid hHd
      have HLk := Lib.hid (fun wq t2 (hq : Mrk T n p r q ro room Sg H TL X2 t2 wq) (h2 : t2 + 3 * rf ≤ 800000000000) => look_is (gf := gf) HG.out hT ho HTL.out hq hW2.own hO h2 kk cc (X2.M x))
      have hmu3 := mu_lo (room := room) HNn.out ((gpOf O H o tel).ref x) X2
      have HX3 : Hid (∀ X', Dr (gpOf O H o tel) room (loS (gpOf O H o tel) room X2 ((gpOf O H o tel).ref x)) X' → Dr (gpOf O H o tel) room X X') := Lib.hid fun X' hd' => h1 X' (.step X1 X' st x hs' (by rw [hX2] at hd'; exact hd'))
      have HW3 := Lib.hid (Wi.lo (room := room) ((gpOf O H o tel).ref x) hW2)
      have HR2 := Lib.hid (And.intro h3 (And.intro h4 (And.intro h6 (And.intro hmu2 (And.intro hmu3 hin.2.2.2)))))
      have H7 := Lib.hid h7
      obtain ⟨a0, a1, a2, a3, a4, a5, a6, a7⟩ := h7
      clear hX2 hxm hW2 hown hown2 hO hin hHd h1 h2 h3 h4 h5 h6 HR hd hs' hs hg1 hmu2 hmu3
      go_wp2_with fail
      refine HHd.out.mono ?_
      rintro e w3 ⟨rfl, m3, k3⟩
      have M3 := Lib.hid (And.intro m3 k3)
      have HLk3 := Lib.hid (HLk.out w3 (t' + 1) m3 (by have z1 := HR2.out.2.1; have z2 := HR2.out.2.2.2.2.2; have z3 := HR2.out.2.2.2.1; omega))
      clear m3 k3 HHd HLk
      go_wp2_with fail
      refine HLk3.out.mono ?_
      rintro e w4 ⟨rfl, m4, k4⟩
      have B4 := H7.out.keep (M3.out.2.trans k4) H1.out.2.2.1
      have HP4 := Lib.hid (m4.pop HTL.out)
      have HK4 := Lib.hid (And.intro B4 (HR2.out.2.2.1.trans (M3.out.2.trans k4)))
      clear a0 a1 a2 a3 a4 a5 a6 a7
      obtain ⟨a0, a1, a2, a3, a4, a5, a6, a7⟩ := B4
      clear m4 k4
      go_wp2_with fail
      refine HP4.out.mono ?_
      rintro e w5 ⟨rfl, m5, k5⟩
      have HN : Hid (Sk.popX ((loS (gpOf O H o tel) room X2 ((gpOf O H o tel).ref x)).st.map Int.ofNat) = Sk.popX ((loS (gpOf O H o tel) room X2 ((gpOf O H o tel).ref x)).st.map Int.ofNat) ∧ Sk.popB ((loS (gpOf O H o tel) room X2 ((gpOf O H o tel).ref x)).st.map Int.ofNat) = Sk.popB ((loS (gpOf O H o tel) room X2 ((gpOf O H o tel).ref x)).st.map Int.ofNat) ∧ ∃ t', (∀ X', Dr (gpOf O H o tel) room (loS (gpOf O H o tel) room X2 ((gpOf O H o tel).ref x)) X' → Dr (gpOf O H o tel) room X X') ∧ Wi (gpOf O H o tel) (loS (gpOf O H o tel) room X2 ((gpOf O H o tel).ref x)) ∧ muM (gpOf O H o tel) H.length (loS (gpOf O H o tel) room X2 ((gpOf O H o tel).ref x)) ≤ mu ∧ t' + 300 * muM (gpOf O H o tel) H.length (loS (gpOf O H o tel) room X2 ((gpOf O H o tel).ref x)) ≤ t + 300 * mu ∧ Mrk T n p r q ro room Sg H TL { (loS (gpOf O H o tel) room X2 ((gpOf O H o tel).ref x)) with st := (loS (gpOf O H o tel) room X2 ((gpOf O H o tel).ref x)).st.dropLast } t' w5 ∧ Kp (p :: r :: q :: ro :: Sg) w w5 ∧ BoxM p T n o room gf q w.heap.size w5) := Lib.hid (by
        obtain ⟨z1, z2, z3, z4, z5, z6⟩ := HR2.out
        exact ⟨rfl, rfl, t' + 1 + 3 * rf, HX3.out, HW3.out, by omega, by omega, m5, HK4.out.2.trans k5, HK4.out.1.keep k5 H1.out.2.2.1⟩)
      have hlt5 : muM (gpOf O H o tel) H.length (loS (gpOf O H o tel) room X2 ((gpOf O H o tel).ref x)) < gk := by
        obtain ⟨z1, z2, z3, z4, z5, z6⟩ := HR2.out
        omega
      clear m5 k5 HK4 HX3 HW3 HR2
      generalize loS (gpOf O H o tel) room X2 ((gpOf O H o tel).ref x) = X3 at *
      generalize hpx : Sk.popX (X3.st.map Int.ofNat) = px3 at *
      generalize hpb : Sk.popB (X3.st.map Int.ofNat) = pb3 at *
      have HN2 := Lib.hid (show ∃ (X1 : Mkg) (px : Int) (pb : Bool), muM (gpOf O H o tel) H.length X1 = muM (gpOf O H o tel) H.length X3 ∧ (Value.int .i64 px3) = .int .i64 px ∧ (Value.bool pb3) = .bool pb ∧ Hid (px = Sk.popX (X1.st.map Int.ofNat) ∧ pb = Sk.popB (X1.st.map Int.ofNat) ∧ ∃ t', (∀ X', Dr (gpOf O H o tel) room X1 X' → Dr (gpOf O H o tel) room X X') ∧ Wi (gpOf O H o tel) X1 ∧ muM (gpOf O H o tel) H.length X3 ≤ mu ∧ t' + 300 * muM (gpOf O H o tel) H.length X3 ≤ t + 300 * mu ∧ Mrk T n p r q ro room Sg H TL { X1 with st := X1.st.dropLast } t' w5 ∧ Kp (p :: r :: q :: ro :: Sg) w w5 ∧ BoxM p T n o room gf q w.heap.size w5) from ⟨X3, px3, pb3, rfl, rfl, rfl, Lib.hid ⟨hpx.symm, hpb.symm, HN.out.2.2⟩⟩)
      clear hpx hpb HN
      go_wp2_with fail
      go_roundg (muM (gpOf O H o tel) H.length X3)
      case rel => exact HN2.out
      case measure => exact hlt5
end
end Go.Proofs.YticbnckikkdknaaGreatDoor

namespace Go.Proofs.YticbnckikkdknaaGreatDoor
set_option linter.unusedVariables false
set_option linter.unusedSimpArgs false
set_option maxRecDepth 100000
open Go.RowKit
/-- How many cells of the owner, of how many words. -/
def cellN (T o : Nat) (H : List Int) (b : Nat) : Nat × Nat :=
  if eo (en T H b) = (o : Int) then (if ek (en T H b) = 1 then ((Cl.clC (ec (en T H b))).toNat, (Cl.wdC (ec (en T H b))).toNat) else if ek (en T H b) = 2 then (1, 32) else (0, 0)) else (0, 0)
section
variable {T n p r q ro o room t N : Nat} {gf : Value} {H : List Int} {w w' : World} {Rs : Nat → Nat → List Int} {O : Obs} {V : Nat → Int} {F : Nat → Nat → Int} {tel : Bool} {Sg : List Nat} {TL : (Nat → Bool) → World → Prop} {X : Mkg} {G : Gp}
theorem ent_parts {k c r' o' : Nat} (h : Tb.mayE k c r' o' = true) : ek (Tb.wordE k c r' o') = k ∧ ec (Tb.wordE k c r' o') = c ∧ er (Tb.wordE k c r' o') = r' ∧ eo (Tb.wordE k c r' o') = o' := by
  have hm := Tb.mayE_iff.1 h
  have e1 : Tb.wordE k c r' o' % 8 = k := by unfold Tb.wordE; omega
  have e2 : Tb.wordE k c r' o' / 8 % 4 = c := by unfold Tb.wordE; omega
  have e3 : Tb.wordE k c r' o' / 32 % 4 = r' := by unfold Tb.wordE; omega
  have e4 : Tb.wordE k c r' o' / 128 % 64 = o' := by unfold Tb.wordE; omega
  have ht : Tb.takeE (Tb.wordE k c r' o') = true := by
    simp only [Tb.takeE, Bool.and_eq_true, decide_eq_true_eq]
    refine ⟨by unfold Tb.wordE; omega, ?_⟩
    rw [e1, e2, e3, e4]; exact h
  simp only [ek, ec, er, eo, if_pos ht]
  exact ⟨e1, e2, e3, e4⟩
theorem cellN_small {c o' b : Nat} (hc : c < 4) (ho : o' < 64) (he : en T H b = eS c o') : cellN T o H b = if o' = o then ((Cl.clC c).toNat, (Cl.wdC c).toNat) else (0, 0) := by
  obtain ⟨e1, e2, e3, e4⟩ := ent_parts (k := 1) (c := c) (r' := 0) (o' := o') (by rw [Tb.mayE_iff]; omega)
  unfold cellN
  rw [he]
  unfold eS
  have e1' : ek (Tb.wordE 1 (c : Int) 0 (o' : Int)) = 1 := e1
  have e2' : ec (Tb.wordE 1 (c : Int) 0 (o' : Int)) = c := e2
  have e4' : eo (Tb.wordE 1 (c : Int) 0 (o' : Int)) = o' := e4
  rw [e1', e2', e4']
  by_cases h : o' = o
  · rw [if_pos h, if_pos (by omega), if_pos rfl]
  · rw [if_neg h, if_neg (by omega)]
theorem cellN_large {run o' b : Nat} (h1 : 1 ≤ run) (h3 : run ≤ 3) (ho : o' < 64) (he : en T H b = eL run o') : cellN T o H b = if o' = o then (1, 32) else (0, 0) := by
  obtain ⟨e1, e2, e3, e4⟩ := ent_parts (k := 2) (c := 0) (r' := run) (o' := o') (by rw [Tb.mayE_iff]; omega)
  unfold cellN
  rw [he]
  unfold eL
  have e1' : ek (Tb.wordE 2 0 (run : Int) (o' : Int)) = 2 := e1
  have e4' : eo (Tb.wordE 2 0 (run : Int) (o' : Int)) = o' := e4
  rw [e1', e4']
  by_cases h : o' = o
  · rw [if_pos h, if_pos (by omega), if_neg (by omega), if_pos rfl]
  · rw [if_neg h, if_neg (by omega)]
theorem cellN_zero {b : Nat} (he : en T H b = 0) : cellN T o H b = (0, 0) := by
  have : ek (0 : Int) = 0 := by decide
  unfold cellN
  rw [he, this]
  split
  · rw [if_neg (by omega), if_neg (by omega)]
  · rfl
theorem cellN_three {b : Nat} (he : en T H b = 3) : cellN T o H b = (0, 0) := by
  have : ek (3 : Int) = 3 := by decide
  unfold cellN
  rw [he, this]
  split
  · rw [if_neg (by omega), if_neg (by omega)]
  · rfl
theorem Hp.cel (h : Hp T n H Rs O V F) : ∃ H0, Cel T n H0 Rs O ∧ (∀ b, b < n → en T H b = en T H0 b) ∧ H.length = H0.length ∧ ∀ k, (∀ x o rf sz, O x = some (o, rf, sz) → ¬ (x ≤ k ∧ k ≤ x + sz)) → H.getD k 0 = H0.getD k 0 := by
  obtain ⟨H0, h0, h1, h2⟩ := h.base
  refine ⟨H0, h0, fun b hb => h2 _ fun x o rf sz hx => ?_, h1, h2⟩
  have := (h0.inn hx).1
  unfold hd at this; omega
/-- What lies in a cell of the owner. -/
theorem Gd.cell (h : Gd T n H Rs O V F) (hT : T ≤ 64) {b i : Nat} (hb : b < n) (hi : i < (cellN T o H b).1) :
    (cellN T o H b).1 ≤ 16 ∧ (cellN T o H b).2 ≤ 32 ∧ hd T n b + i * (cellN T o H b).2 < H.length ∧ ((O (hd T n b + i * (cellN T o H b).2)).isSome = true ∨ (O (hd T n b + i * (cellN T o H b).2) = none ∧ H.getD (hd T n b + i * (cellN T o H b).2) 0 = lw o)) := by
  obtain ⟨H0, h0, hen, hlen, hw⟩ := h.hp.cel
  have hN := h0.len
  rcases h0.ent b hb with z | z | ⟨c', o', hc', ho', z, hz⟩ | ⟨r', o3, z1, z2, z3, z4, z5, ⟨rf3, sz3, z6⟩, z7⟩
  · rw [cellN_zero ((hen b hb).trans z)] at hi; omega
  · rw [cellN_three ((hen b hb).trans z)] at hi; omega
  · have hcn := cellN_small (T := T) (H := H) (o := o) hc' (by omega) ((hen b hb).trans z)
    rw [hcn] at hi ⊢
    by_cases ho : o' = o
    · subst ho
      rw [if_pos rfl] at hi ⊢
      simp only at hi ⊢
      have hp := pl_in (T := T) (n := n) (b := b) hc' hi
      have hwg := wd_ge hc'
      have e : hd T n b + i * (Cl.wdC c').toNat = pl T 0 n c' b i := by unfold hd pl; rw [Nat.mul_comm i]
      rw [e]
      refine ⟨by rcases wd_cl hc' with ⟨q1, q2⟩ | ⟨q1, q2⟩ | ⟨q1, q2⟩ | ⟨q1, q2⟩ <;> omega, by omega, by unfold hd at hp; omega, ?_⟩
      rcases hz i hi with ⟨rf, sz, hx⟩ | hx
      · rw [hx]; exact .inl rfl
      · obtain ⟨b', m', hb', hm', e', he', hO, hl⟩ := h0.lst o' ho' c' hc' _ hx
        have e2 : pl T 0 n c' b i = pl T 0 n c' b' m' := by exact_mod_cast e'
        rw [e2]
        refine .inr ⟨hO, ?_⟩
        rw [hw, hl]
        intro x o2 rf sz hx2 hin
        have hne : x ≠ pl T 0 n c' b' m' := fun e3 => by rw [e3, hO] at hx2; cases hx2
        rcases h0.apartL hb' hc' hm' he' hx2 hne with q | q <;> omega
    · rw [if_neg ho] at hi; exact absurd hi (Nat.not_lt_zero _)
  · have hcn := cellN_large (T := T) (H := H) (o := o) z1 z2 (by omega) ((hen b hb).trans z5)
    rw [hcn] at hi ⊢
    by_cases ho : o3 = o
    · rw [if_pos ho] at hi ⊢
      simp only at hi ⊢
      have : i = 0 := by omega
      subst this
      rw [Nat.zero_mul, Nat.add_zero, z6]
      exact ⟨by omega, by omega, by unfold hd; omega, .inl rfl⟩
    · rw [if_neg ho] at hi; exact absurd hi (Nat.not_lt_zero _)
/-- Each own object lies in a cell of the owner. -/
theorem Gd.own_cell (h : Gd T n H Rs O V F) (hT : T ≤ 64) {x : Nat} (hx : (gpOf O H o tel).own x = true) : ∃ b i, b < n ∧ i < (cellN T o H b).1 ∧ x = hd T n b + i * (cellN T o H b).2 := by
  obtain ⟨H0, h0, hen, hlen, hw⟩ := h.hp.cel
  have hx' := hx
  simp only [gpOf, Bool.and_eq_true, decide_eq_true_eq] at hx'
  cases hO : O x with
  | none => rw [hO] at hx'; simp at hx'
  | some z =>
    obtain ⟨o', rf, sz⟩ := z
    have hoo : o' = o := by
      have := (h.head hT hO).1
      have h2 := hx'.2
      rw [this] at h2
      exact_mod_cast h2
    subst hoo
    obtain ⟨ho', _, _, _, _, h6⟩ := h0.obj x o' rf sz hO
    rcases h6 with ⟨c1, b1, m1, q1, q2, q3, q4, q5, q6⟩ | ⟨b1, r1, q1, q2, q3, q4, q5, q6⟩
    · have hcn := cellN_small (T := T) (H := H) (o := o') q1 (by omega) ((hen b1 q2).trans q6)
      rw [if_pos rfl] at hcn
      refine ⟨b1, m1, q2, by rw [hcn]; exact q3, ?_⟩
      rw [hcn, q5]; unfold hd pl; simp only; rw [Nat.mul_comm m1]
    · have hcn := cellN_large (T := T) (H := H) (o := o') q1 q2 (by omega) ((hen b1 (by omega)).trans q6)
      rw [if_pos rfl] at hcn
      refine ⟨b1, 0, by omega, by rw [hcn]; exact Nat.one_pos, ?_⟩
      rw [q5]; simp
end
end Go.Proofs.YticbnckikkdknaaGreatDoor

namespace Go.Proofs.YticbnckikkdknaaGreatDoor
set_option linter.unusedVariables false
set_option linter.unusedSimpArgs false
set_option maxRecDepth 100000
open Go.RowKit
section
variable {T n p r q ro o room t N : Nat} {gf : Value} {H : List Int} {w w' : World} {Rs : Nat → Nat → List Int} {O : Obs} {V : Nat → Int} {F : Nat → Nat → Int} {tel : Bool} {Sg : List Nat} {TL : (Nat → Bool) → World → Prop} {X : Mkg} {G : Gp}
theorem markL_en (hG : Gd T n H Rs O V F) (hM : OwnM (gpOf O H o tel) X) {b : Nat} (hb : b < n) : (markL H X.M).getD (3 + T + 0 + b) 0 = en T H b := by
  have hN := hG.hp.len
  rw [markL_get _ _ _ (by omega)]
  cases hm : X.M (3 + T + 0 + b) with
  | false => rfl
  | true =>
    have := hM _ hm
    simp only [gpOf, Bool.and_eq_true] at this
    cases hO : O (3 + T + 0 + b) with
    | none => rw [hO] at this; simp at this
    | some z =>
      obtain ⟨o2, r2, s2⟩ := z
      have := (hG.hp.inn hO).1
      unfold hd at this; omega
theorem e_bd (x : Int) : 0 ≤ ek x ∧ ek x ≤ 7 ∧ 0 ≤ ec x ∧ ec x ≤ 3 ∧ 0 ≤ eo x ∧ eo x ≤ 63 := by
  unfold ek ec eo
  split <;> refine ⟨?_, ?_, ?_, ?_, ?_, ?_⟩ <;> omega
set_option maxHeartbeats 4000000 in
theorem cells_of (hG : Gd T n H Rs O V F) (hT : T ≤ 64) (hTL : TlOk p r q ro Sg gf tel TL) (hX : Mrk T n p r q ro room Sg H TL X t w) (hM : OwnM (gpOf O H o tel) X) (hTb : Cl.Tab w) (hrn : 0 ∉ p :: r :: q :: ro :: Sg) (ht : t ≤ 800000000000) {b : Nat} (hb : b < n) :
    Calls Tryz.prog 69 #[mgV p T n o room gf q, .int .i64 b] w fun e w' => e = .returned (.tuple #[.int .i64 (cellN T o H b).1, .int .i64 (cellN T o H b).2]) ∧ Mrk T n p r q ro room Sg H TL X (t + 1) w' ∧ Kp (p :: r :: q :: ro :: Sg) w w' := by
  obtain ⟨w1, hw1⟩ : ∃ w1, w1 = w.alloc (.cells #[.iface 31 (.pointer (some ⟨p, 0, none⟩)), .int .i64 T, .int .i64 0, .int .i64 n, .int .u8 o, .int .i64 room, gf, .pointer (some ⟨q, 0, none⟩)] 95) := ⟨_, rfl⟩
  have kb : Kp [] w w1 := by rw [hw1]; exact (Kp.refl _ _).alloc _
  have r0 : w1.heap[w.heap.size]? = some (.cells #[.iface 31 (.pointer (some ⟨p, 0, none⟩)), .int .i64 T, .int .i64 0, .int .i64 n, .int .u8 o, .int .i64 room, gf, .pointer (some ⟨q, 0, none⟩)] 95 (0, 0)) := by rw [hw1]; exact heap_alloc_new _ _
  have hlt := hX.lt
  have hbn : w.heap.size ∉ p :: r :: q :: ro :: Sg := fun e => by have := hlt _ e; omega
  have hX1 := hX.on hTL kb
  obtain ⟨t0, ht0, hh⟩ := hX1.hw
  have HEn := Lib.hid (g_entry hh (by omega) b hb _ (markL_en hG hM hb))
  have hne := hX.ne
  have sg := hTL.sg
  have HK : Hid (∀ w2, Hw T 0 n p r (markL H X.M) (t0 + 1) w2 → Kp [p, r] w1 w2 → Mrk T n p r q ro room Sg H TL X (t + 1) w2 ∧ Kp (p :: r :: q :: ro :: Sg) w w2 ∧ Cl.Tab w2 ∧ BoxM p T n o room gf q w.heap.size w2) := Lib.hid fun w2 h2 k2 => by
    have K : Kp (p :: r :: q :: ro :: Sg) w w2 := (kb.mono (by simp)).trans (k2.mono fun g hg _ => by simp at hg ⊢; omega)
    have K1 : Kp (p :: r :: q :: ro :: Sg) w1 w2 := k2.mono fun g hg _ => by simp at hg ⊢; omega
    exact ⟨⟨⟨t0 + 1, by omega, h2⟩, hX1.sk.keep k2 (by simp; omega) (by simp; omega), hTL.keep _ _ _ _ (by intro g hg; simp at hg; rcases hg with rfl | rfl; exact sg.1; exact sg.2.1) k2 hX1.tl, hX1.ne, fun g hg => Nat.lt_of_lt_of_le (hX1.lt g hg) k2.size⟩, K, tab_keep hTb K hrn, (BoxM.of r0).keep K1 hbn⟩
  have HTL := Lib.hid hTL
  obtain ⟨E, hE⟩ : ∃ E, E = en T H b := ⟨_, rfl⟩
  rw [← hE] at HEn
  have hcn : cellN T o H b = if eo E = (o : Int) then (if ek E = 1 then ((Cl.clC (ec E)).toNat, (Cl.wdC (ec E)).toNat) else if ek E = 2 then (1, 32) else (0, 0)) else (0, 0) := by rw [hE]; rfl
  obtain ⟨Z, hZ⟩ : ∃ Z, Z = cellN T o H b := ⟨_, rfl⟩
  rw [← hZ]
  rw [hcn] at hZ
  have hbd := e_bd E
  obtain ⟨a0, a1, a2, a3, a4, a5, a6, a7⟩ := BoxM.of r0
  clear hG hTL hX hM hTb kb r0 hlt hbn hX1 hh hne sg hE hcn
  generalize ek E = xk at *
  generalize ec E = xc at *
  generalize er E = xr at *
  generalize eo E = xo at *
  have HZ := Lib.hid hZ
  clear hZ
  go_enter Tryz.func69, Tryz.ntmps69
  go_upto_region 1 with (fail)
  rw [← hw1]
  clear hw1
  go_wp2_with fail
  refine HEn.out.mono ?_
  rintro e w2 ⟨rfl, h2, k2⟩
  obtain ⟨m2, kk2, tb2, bx2⟩ := HK.out w2 h2 k2
  obtain ⟨w3, hw3⟩ : ∃ w3, w3 = w2.alloc (.cells #[.int .u8 xk, .int .u8 xc, .int .u8 xr, .int .u8 xo] 110) := ⟨_, rfl⟩
  have k3 : Kp [] w2 w3 := by rw [hw3]; exact (Kp.refl _ _).alloc _
  have r3 : w3.heap[w2.heap.size]? = some (.cells #[.int .u8 xk, .int .u8 xc, .int .u8 xr, .int .u8 xo] 110 (0, 0)) := by rw [hw3]; exact heap_alloc_new _ _
  have T3 := Lib.hid (tab_keep tb2 k3 (by simp))
  have HF := Lib.hid (And.intro (m2.on HTL.out k3) (kk2.trans (k3.mono (by simp))))
  have c0 := (cell_of_row r3 0).trans (show _ = some (.int .u8 xk) from rfl)
  have c1 := (cell_of_row r3 1).trans (show _ = some (.int .u8 xc) from rfl)
  have c3 := (cell_of_row r3 3).trans (show _ = some (.int .u8 xo) from rfl)
  obtain ⟨b0, b1, b2, b3, b4, b5, b6, b7⟩ := bx2.keep k3 (by simp)
  clear a0 a1 a2 a3 a4 a5 a6 a7 m2 kk2 tb2 bx2 h2 k2 HK HEn r3 k3
  go_upto_region 2 with (fail)
  rw [← hw3]
  clear hw3
  by_cases ho : xo = (o : Int)
  · subst ho
    have hz := HZ.out
    rw [if_pos rfl] at hz
    by_cases hk1 : xk = 1
    · subst hk1
      rw [if_pos rfl] at hz
      have cc : IntKind.i64.wrap xc = xc := IntWalk.i64_in _ (by omega)
      obtain ⟨C, hC⟩ : ∃ C : Nat, Cl.clC xc = C := ⟨(Cl.clC xc).toNat, by unfold Cl.clC; split <;> (try split) <;> (try split) <;> (try split) <;> rfl⟩
      obtain ⟨D, hD⟩ : ∃ D : Nat, Cl.wdC xc = D := ⟨(Cl.wdC xc).toNat, by unfold Cl.wdC; split <;> (try split) <;> (try split) <;> (try split) <;> rfl⟩
      have HC := Lib.hid (fun j => (Cl.cells_is (w3.drewN j) (tab_keep (S := []) T3.out (Gx.kp_drewN _ j) (by simp)) xc C hC).mono fun e w' h => (⟨h.1, h.2.symm⟩ : e = .returned (.int .i64 C) ∧ w' = w3.drewN j))
      have HD := Lib.hid (fun j => (Cl.words_is (w3.drewN j) (tab_keep (S := []) T3.out (Gx.kp_drewN _ j) (by simp)) xc D hD).mono fun e w' h => (⟨h.1, h.2.symm⟩ : e = .returned (.int .i64 D) ∧ w' = w3.drewN j))
      have cj : ∀ j, (w3.drewN j).cell? ⟨w2.heap.size, 1, none⟩ = some (.int .u8 xc) := fun j => kp_cell (S := []) (Gx.kp_drewN _ j) (by simp) c1
      rw [hC, hD, Int.toNat_natCast, Int.toNat_natCast] at hz
      have HZ2 := Lib.hid hz
      clear hC hD hz HZ
      go_wp2_with fail
      go_quiet (first | (go_at_call 106; exact Calls.quiet_of_same (HC.out _)) | (go_at_call 107; exact Calls.quiet_of_same (HD.out _)))
      go_wp2_with fail
      go_ret2
      exact ⟨by rw [HZ2.out]; rfl, HF.out.1.on HTL.out (Gx.kp_drewN _ _), HF.out.2.trans ((Gx.kp_drewN (S := []) _ _).mono (by simp))⟩
    · rw [if_neg hk1] at hz
      have e1 : (xk == 1) = false := by simp [hk1]
      by_cases hk2 : xk = 2
      · subst hk2
        rw [if_pos rfl] at hz
        have HZ2 := Lib.hid hz
        clear hz HZ
        go_wp2_with fail
        go_ret2
        exact ⟨by rw [HZ2.out]; rfl, HF.out.1, HF.out.2⟩
      · rw [if_neg hk2] at hz
        have e2 : (xk == 2) = false := by simp [hk2]
        have HZ2 := Lib.hid hz
        clear hz HZ
        go_wp2_with fail
        go_ret2
        exact ⟨by rw [HZ2.out]; rfl, HF.out.1, HF.out.2⟩
  · have hz := HZ.out
    rw [if_neg ho] at hz
    have e1 : (xo != (o : Int)) = true := by simp [ho]
    have HZ2 := Lib.hid hz
    clear hz HZ
    go_wp2_with fail
    go_ret2
    exact ⟨by rw [HZ2.out]; rfl, HF.out.1, HF.out.2⟩
end
end Go.Proofs.YticbnckikkdknaaGreatDoor

namespace Go.Proofs.YticbnckikkdknaaGreatDoor
set_option linter.unusedVariables false
set_option linter.unusedSimpArgs false
set_option maxRecDepth 100000
open Go.RowKit
/-- The owner's cells of the blocks ahead of one, and so many of its own. -/
def parL (T n o : Nat) (H : List Int) (b i : Nat) : List Nat := ((List.range b).flatMap fun b' => (List.range (cellN T o H b').1).map fun j => hd T n b' + j * (cellN T o H b').2) ++ (List.range i).map fun j => hd T n b + j * (cellN T o H b).2
theorem parL_succ (T n o : Nat) (H : List Int) (b i : Nat) : parL T n o H b (i + 1) = parL T n o H b i ++ [hd T n b + i * (cellN T o H b).2] := by
  unfold parL
  rw [List.range_succ, List.map_append, ← List.append_assoc]
  rfl
theorem parL_next (T n o : Nat) (H : List Int) (b : Nat) : parL T n o H (b + 1) 0 = parL T n o H b (cellN T o H b).1 := by
  unfold parL
  rw [List.range_succ, List.flatMap_append]
  simp
section
variable {T n p r q ro o room t N : Nat} {gf : Value} {H : List Int} {w w' : World} {Rs : Nat → Nat → List Int} {O : Obs} {V : Nat → Int} {F : Nat → Nat → Int} {tel : Bool} {Sg : List Nat} {TL : (Nat → Bool) → World → Prop} {X : Mkg} {G : Gp}
theorem dr_empty {X X' : Mkg} (d : Dr G room X X') : X'.st = [] := by
  induction d with
  | nil X h => exact h
  | step X X' st x h k ih => exact ih
/-- The header in a cell is read. -/
theorem cell_head (hG : Gd T n H Rs O V F) (hT : T ≤ 64) (ho : o < T) (hTL : TlOk p r q ro Sg gf tel TL) (hX : Mrk T n p r q ro room Sg H TL X t w) (hM : OwnM (gpOf O H o tel) X) (ht : t ≤ 800000000000) {x : Nat} (hx : x < H.length) (hc : (O x).isSome = true ∨ (O x = none ∧ H.getD x 0 = lw o)) :
    ∃ (k c o' rf sz : Nat) (m : Bool), Calls Tryz.prog 63 #[mgV p T n o room gf q, .int .i64 x] w (fun e w' => e = .returned (.agg (hp7 k c o' rf sz m)) ∧ Mrk T n p r q ro room Sg H TL X (t + 1) w' ∧ Kp (p :: r :: q :: ro :: Sg) w w') ∧ ((decide (k = 2) && decide (o' = o)) && m) = X.M x ∧ (X.M x = true → O x = some (o', rf, sz) ∧ rf ≤ 95) := by
  rcases hc with hc | ⟨hc, hl⟩
  · cases hO : O x with
    | none => rw [hO] at hc; cases hc
    | some z =>
      obtain ⟨o', rf, sz⟩ := z
      obtain ⟨k, c, hk3, hown, hcall⟩ := hX.head (room := room) (gf := gf) hG hT hTL hM ht hO
      have hin := hG.hp.inn hO
      refine ⟨k, c, o', rf, sz, X.M x, hcall, ?_, fun _ => ⟨rfl, by omega⟩⟩
      rw [← hown]
      cases hm : X.M x with
      | false => simp
      | true => rw [hM x hm]; rfl
  · have hm : X.M x = false := by
      cases hm : X.M x with
      | false => rfl
      | true =>
        have := hM x hm
        simp only [gpOf, hc] at this
        simp at this
    obtain ⟨t0, h0, h1⟩ := hX.hw
    refine ⟨1, 0, o, 0, 0, false, ?_, by rw [hm]; rfl, fun h => by rw [hm] at h; cases h⟩
    have hw0 : (markL H X.M).getD x 0 = Wd.wordI (1 : Nat) (0 : Nat) (o : Nat) (0 : Nat) (0 : Nat) false false := by
      rw [markL_get _ _ _ hx, hm]
      simp only [Bool.false_eq_true, if_false]
      rw [hl]; rfl
    refine (head_is h1 (by omega) x (by rw [markL_len]; exact hx) 1 0 o 0 0 false hw0 (by rw [Wd.mayB_iff]; simp; omega)).mono ?_
    rintro e w' ⟨rfl, h2, k⟩
    have hne := hX.ne
    have sg := hTL.sg
    exact ⟨rfl, ⟨⟨t0 + 1, by omega, h2⟩, hX.sk.keep k (by simp; omega) (by simp; omega), hTL.keep _ _ _ _ (by intro g hg; simp at hg; rcases hg with rfl | rfl; exact sg.1; exact sg.2.1) k hX.tl, hX.ne, fun g hg => Nat.lt_of_lt_of_le (hX.lt g hg) k.size⟩, k.mono fun g hg _ => by simp at hg ⊢; omega⟩
/-- How a search stands. -/
structure Srch (T n p r q ro o room : Nat) (Sg : List Nat) (H : List Int) (O : Obs) (tel : Bool) (gf : Value) (TL : (Nat → Bool) → World → Prop) (X : Mkg) (t : Nat) (w : World) (b0 : Nat) (l : List Nat) (u : Nat) (wr : World) : Prop where
  ex : ∃ X1 t1, Se (gpOf O H o tel) room l X X1 ∧ Wi (gpOf O H o tel) X1 ∧ X1.st = [] ∧ muM (gpOf O H o tel) H.length X1 ≤ muM (gpOf O H o tel) H.length X ∧ t1 + 300 * muM (gpOf O H o tel) H.length X1 ≤ t + 300 * muM (gpOf O H o tel) H.length X + u ∧ Mrk T n p r q ro room Sg H TL X1 t1 wr
  kp : Kp (p :: r :: q :: ro :: Sg) w wr
  bx : BoxM p T n o room gf q b0 wr
set_option maxHeartbeats 4000000 in
theorem search_is (hG : Gd T n H Rs O V F) (hT : T ≤ 64) (hn : n ≤ 64) (ho : o < T) (hTL : TlOk p r q ro Sg gf tel TL) (hX : Mrk T n p r q ro room Sg H TL X t w) (hW : Wi (gpOf O H o tel) X) (hs : X.st = []) (hTb : Cl.Tab w) (hrn : 0 ∉ p :: r :: q :: ro :: Sg) (ht : t + 300 * muM (gpOf O H o tel) H.length X + 4900 * n ≤ 800000000000) :
    Calls Tryz.prog 37 #[mgV p T n o room gf q, lkV p T n o room gf q] w fun e w' => e = .returned (.tuple #[]) ∧ ∃ X' t', Se (gpOf O H o tel) room (parL T n o H n 0) X X' ∧ Wi (gpOf O H o tel) X' ∧ X'.st = [] ∧ muM (gpOf O H o tel) H.length X' ≤ muM (gpOf O H o tel) H.length X ∧ t' + 300 * muM (gpOf O H o tel) H.length X' ≤ t + 300 * muM (gpOf O H o tel) H.length X + 4900 * n ∧ Mrk T n p r q ro room Sg H TL X' t' w' ∧ Kp (p :: r :: q :: ro :: Sg) w w' := by
  have HG := Lib.hid hG
  have HTL := Lib.hid hTL
  obtain ⟨w1, hw1⟩ : ∃ w1, w1 = w.alloc (.cells #[.iface 31 (.pointer (some ⟨p, 0, none⟩)), .int .i64 T, .int .i64 0, .int .i64 n, .int .u8 o, .int .i64 room, gf, .pointer (some ⟨q, 0, none⟩)] 95) := ⟨_, rfl⟩
  have kb : Kp [] w w1 := by rw [hw1]; exact (Kp.refl _ _).alloc _
  have r0 : w1.heap[w.heap.size]? = some (.cells #[.iface 31 (.pointer (some ⟨p, 0, none⟩)), .int .i64 T, .int .i64 0, .int .i64 n, .int .u8 o, .int .i64 room, gf, .pointer (some ⟨q, 0, none⟩)] 95 (0, 0)) := by rw [hw1]; exact heap_alloc_new _ _
  have hlt := hX.lt
  have hbn : w.heap.size ∉ p :: r :: q :: ro :: Sg := fun e => by have := hlt _ e; omega
  obtain ⟨b0, hb0⟩ : ∃ b0, b0 = w.heap.size := ⟨_, rfl⟩
  rw [← hb0] at r0 hbn
  have HS : Hid (Srch T n p r q ro o room Sg H O tel gf TL X t w b0 (parL T n o H 0 0) (4900 * 0) w1) := Lib.hid ⟨⟨X, t, .nil X, hW, hs, Nat.le_refl _, by omega, hX.on hTL kb⟩, kb.mono (by simp), BoxM.of r0⟩
  have HB := Lib.hid (And.intro hbn (And.intro hTb hrn))
  obtain ⟨mu, hmu⟩ : ∃ mu, mu = muM (gpOf O H o tel) H.length X := ⟨_, rfl⟩
  have HMu := Lib.hid hmu
  rw [← hmu] at ht ⊢
  have HBl := Lib.hid (fun wq => Ly.blocks_is (T : Int) 0 (n : Int) wq)
  obtain ⟨a0, a1, a2, a3, a4, a5, a6, a7⟩ := BoxM.of r0
  clear hG hTL hX hW hs hTb hrn kb r0 hlt hbn hmu
  go_enter Tryz.func37, Tryz.ntmps37
  go_upto_region 1 with (fail)
  rw [← hw1, ← hb0]
  clear hw1 hb0
  go_wp2_with fail
  refine (HBl.out w1).mono ?_
  rintro e w2 ⟨rfl, k2⟩
  have HS2 : Hid (Srch T n p r q ro o room Sg H O tel gf TL X t w b0 (parL T n o H 0 0) (4900 * 0) w2) := Lib.hid (by
    obtain ⟨X1, t1, h1, h2, h3, h4, h5, h6⟩ := HS.out.ex
    exact ⟨⟨X1, t1, h1, h2, h3, h4, h5, h6.on HTL.out k2⟩, HS.out.kp.trans (k2.mono (by simp)), HS.out.bx.keep k2 (by simp)⟩)
  clear k2 HS a0 a1 a2 a3 a4 a5 a6 a7
  go_wp2_with fail
  go_loopg [14] n (fun g v14 wr => ∃ b : Nat, b + g = n ∧ v14 = .int .i64 b ∧ Hid (Srch T n p r q ro o room Sg H O tel gf TL X t w b0 (parL T n o H b 0) (4900 * b) wr))
  case atStart => exact ⟨0, by omega, rfl, HS2⟩
  case round =>
    obtain ⟨b, hb, rfl, HR⟩ := hrel
    clear HS2
    by_cases hbn : b < n
    · obtain ⟨X1, t1, h1, h2, h3, h4, h5, h6⟩ := HR.out.ex
      have hmu := HMu.out
      have HCe := Lib.hid (cells_of (gf := gf) HG.out hT HTL.out h6 h2.own (tab_keep HB.out.2.1 HR.out.kp HB.out.2.2) HB.out.2.2 (by omega) hbn)
      have hsmall : (cellN T o H b).1 ≤ 16 := by
        by_cases h0 : 0 < (cellN T o H b).1
        · exact (HG.out.cell hT hbn h0).1
        · omega
      have hcw : (cellN T o H b).2 ≤ 32 := by
        unfold cellN
        split
        · split
          · unfold Cl.wdC; simp only; split <;> (try split) <;> (try split) <;> (try split) <;> decide
          · split <;> decide
        · decide
      have HX1 := Lib.hid (And.intro h1 (And.intro h2 (And.intro h3 (And.intro h4 h5))))
      have HRk := Lib.hid (And.intro HR.out.kp HR.out.bx)
      obtain ⟨a0, a1, a2, a3, a4, a5, a6, a7⟩ := HR.out.bx
      have hcell := fun i (hi : i < (cellN T o H b).1) => HG.out.cell (o := o) hT hbn hi
      have HCl := Lib.hid hcell
      have hpn := parL_next T n o H b
      have hps := fun i => parL_succ T n o H b i
      have HPl := Lib.hid (And.intro hpn hps)
      generalize hcN : cellN T o H b = cN at *
      obtain ⟨C, D⟩ := cN
      simp only at hsmall hcw HCe
      clear h1 h2 h3 h4 h5 h6 HR hcell hpn hps hmu
      go_wp2_with fail
      refine HCe.out.mono ?_
      rintro e w3 ⟨rfl, m3, k3⟩
      have HS3 : Hid (Srch T n p r q ro o room Sg H O tel gf TL X t w b0 (parL T n o H b 0) (4900 * b + 1 + 301 * 0) w3) := Lib.hid ⟨⟨X1, t1 + 1, HX1.out.1, HX1.out.2.1, HX1.out.2.2.1, HX1.out.2.2.2.1, by have := HX1.out.2.2.2.2; omega, m3⟩, HRk.out.1.trans k3, HRk.out.2.keep k3 HB.out.1⟩
      clear m3 k3 HRk HX1 HCe a0 a1 a2 a3 a4 a5 a6 a7
      go_wp2_with fail
      go_loopg [24] C (fun g v24 wr => ∃ i : Nat, i + g = C ∧ v24 = .int .i64 i ∧ Hid (Srch T n p r q ro o room Sg H O tel gf TL X t w b0 (parL T n o H b i) (4900 * b + 1 + 301 * i) wr))
      case atStart => exact ⟨0, by omega, rfl, HS3⟩
      case round =>
        obtain ⟨i, hi, rfl, HR⟩ := hrel
        clear HS3
        by_cases hiC : i < C
        · obtain ⟨X1, t1, h1, h2, h3, h4, h5, h6⟩ := HR.out.ex
          have hmu := HMu.out
          rw [← hmu] at h4 h5
          obtain ⟨q1, q2, hxl, hxc⟩ := HCl.out i hiC
          try simp only at hxl hxc
          have hDi : i * D ≤ 512 := by
            have := Nat.mul_le_mul (show i ≤ 16 by omega) (show D ≤ 32 by omega)
            omega
          have HSt := Lib.hid (Ly.start_is (T : Int) 0 (n : Int) (b : Int) ((hd T n b : Nat) : Int) wr (by rw [Ly.rowP_in (by omega) (by omega)]; unfold hd; push_cast; omega) (by omega) (by omega) (by omega) (by omega) (by omega) (by omega))
          have hps := HPl.out.2 i
          try simp only at hps
          obtain ⟨x, hx⟩ : ∃ x, x = hd T n b + i * D := ⟨_, rfl⟩
          have hxi : ((hd T n b : Nat) : Int) + (i : Int) * (D : Int) = (x : Int) := by rw [hx]; push_cast; rfl
          rw [← hx] at hxl hxc hps
          have hh0 : hd T n b ≤ 5000 := by unfold hd; omega
          have hm0 : (0 : Int) ≤ (i : Int) * (D : Int) := Int.mul_nonneg (by omega) (by omega)
          have hm1 : (i : Int) * (D : Int) ≤ 512 := by exact_mod_cast hDi
          generalize hd T n b = h0 at *
          have HX1 := Lib.hid (And.intro h1 (And.intro h2 (And.intro h3 (And.intro h4 (And.intro h5 hps)))))
          have M1 := Lib.hid h6
          have HRk := Lib.hid (And.intro HR.out.kp HR.out.bx)
          have Hxc := Lib.hid (And.intro hxl hxc)
          obtain ⟨a0, a1, a2, a3, a4, a5, a6, a7⟩ := HR.out.bx
          clear h1 h2 h3 h4 h5 h6 hmu hps hxl hxc hx q1 q2 hDi HR
          go_upto_region 8 with (fail)
          go_wp2_with fail
          refine HSt.out.mono ?_
          rintro e w4 ⟨rfl, k4⟩
          have M4 := Lib.hid (M1.out.on HTL.out k4)
          have B4 := Lib.hid (HRk.out.2.keep k4 (by simp))
          have K4 := Lib.hid (HRk.out.1.trans (k4.mono (by simp)))
          have hht : t1 ≤ 800000000000 := by have := HX1.out.2.2.2.2.1; omega
          obtain ⟨kk, c, o', rf, sz, m, hcall, hres, hin⟩ := cell_head (room := room) (gf := gf) HG.out hT ho HTL.out M4.out HX1.out.2.1.own hht Hxc.out.1 Hxc.out.2
          have HHd := Lib.hid hcall
          have HRs := Lib.hid (And.intro hres hin)
          have HOw := Lib.hid (fun wq => own_is (T := T) (n := n) (p := p) (q := q) (o := o) (room := room) (gf := gf) kk c o' rf sz m wq _ rfl)
          clear a0 a1 a2 a3 a4 a5 a6 a7 k4 hcall hres hin HSt
          obtain ⟨a0, a1, a2, a3, a4, a5, a6, a7⟩ := B4.out
          go_upto_region 9 with (fail)
          clear hxi
          go_wp2_with fail
          refine HHd.out.mono ?_
          rintro e w5 ⟨rfl, m5, k5⟩
          obtain ⟨w6, hw6⟩ : ∃ w6, w6 = w5.alloc (.cells #[.int .u8 kk, .int .u8 c, .bool false, .bool m, .int .u8 o', .int .u8 rf, .int .u8 sz] 59) := ⟨_, rfl⟩
          have k6 : Kp [] w5 w6 := by rw [hw6]; exact (Kp.refl _ _).alloc _
          have r6 : w6.heap[w5.heap.size]? = some (.cells #[.int .u8 kk, .int .u8 c, .bool false, .bool m, .int .u8 o', .int .u8 rf, .int .u8 sz] 59 (0, 0)) := by rw [hw6]; exact heap_alloc_new _ _
          have M6 := Lib.hid (m5.on HTL.out k6)
          have B6 := Lib.hid ((B4.out.keep k5 HB.out.1).keep k6 (by simp))
          have K6 := Lib.hid (K4.out.trans (k5.trans (k6.mono (by simp))))
          have R6 := Lib.hid r6
          obtain ⟨xb, hxb⟩ : ∃ xb, xb = w5.heap.size := ⟨_, rfl⟩
          rw [← hxb] at R6
          have d0 := (cell_of_row R6.out 0).trans (show _ = some (.int .u8 kk) from rfl)
          have d1 := (cell_of_row R6.out 1).trans (show _ = some (.int .u8 c) from rfl)
          have d2 := (cell_of_row R6.out 2).trans (show _ = some (.bool false) from rfl)
          have d3 := (cell_of_row R6.out 3).trans (show _ = some (.bool m) from rfl)
          have d4 := (cell_of_row R6.out 4).trans (show _ = some (.int .u8 o') from rfl)
          have d5 := (cell_of_row R6.out 5).trans (show _ = some (.int .u8 rf) from rfl)
          have d6 := (cell_of_row R6.out 6).trans (show _ = some (.int .u8 sz) from rfl)
          clear a0 a1 a2 a3 a4 a5 a6 a7 m5 k5 k6 r6 HHd
          obtain ⟨a0, a1, a2, a3, a4, a5, a6, a7⟩ := B6.out
          go_upto_region 10 with (fail)
          rw [← hw6, ← hxb]
          clear hw6 hxb
          go_wp2_with fail
          refine (HOw.out w6).mono ?_
          rintro e w7 ⟨rfl, k7⟩
          have M7 := Lib.hid (M6.out.on HTL.out k7)
          have B7 := Lib.hid (B6.out.keep k7 (by simp))
          have K7 := Lib.hid (K6.out.trans (k7.mono (by simp)))
          have R7 := Lib.hid (k7.row (by simp) R6.out)
          have d0 := kp_cell k7 (by simp) d0
          have d1 := kp_cell k7 (by simp) d1
          have d2 := kp_cell k7 (by simp) d2
          have d3 := kp_cell k7 (by simp) d3
          have d4 := kp_cell k7 (by simp) d4
          have d5 := kp_cell k7 (by simp) d5
          have d6 := kp_cell k7 (by simp) d6
          clear a0 a1 a2 a3 a4 a5 a6 a7 k7
          obtain ⟨a0, a1, a2, a3, a4, a5, a6, a7⟩ := B7.out
          obtain ⟨res, hrs⟩ : ∃ res, res = (decide (kk = 2) && decide (o' = o)) := ⟨_, rfl⟩
          rw [← hrs] at HRs ⊢
          clear hrs
          cases hXm : X1.M x with
          | false =>
            have HN : Hid (Srch T n p r q ro o room Sg H O tel gf TL X t w b0 (parL T n o H b (i + 1)) (4900 * b + 1 + 301 * (i + 1)) w7) := Lib.hid (by
              rw [HX1.out.2.2.2.2.2]
              exact ⟨⟨X1, t1 + 1, .skip _ X X1 x HX1.out.1 hXm, HX1.out.2.1, HX1.out.2.2.1, by have := HMu.out; rw [← this]; exact HX1.out.2.2.2.1, by have := HMu.out; rw [← this]; have := HX1.out.2.2.2.2.1; omega, M7.out⟩, K7.out, B7.out⟩)
            have hrm : res = false ∨ (res = true ∧ m = false) := by
              have := HRs.out.1
              rw [hXm] at this
              cases res
              · exact .inl rfl
              · cases m
                · exact .inr ⟨rfl, rfl⟩
                · cases this
            have HRm := Lib.hid hrm
            clear hrm hXm
            rcases HRm.out with rfl | ⟨rfl, rfl⟩
            · go_wp2_with fail
              go_roundg (C - (i + 1))
              case rel => exact ⟨i + 1, by omega, by go_num, HN⟩
              case measure => omega
            · go_wp2_with fail
              go_roundg (C - (i + 1))
              case rel => exact ⟨i + 1, by omega, by go_num, HN⟩
              case measure => omega
          | true =>
            obtain ⟨hO, hrf⟩ := HRs.out.2 hXm
            have hrm : res = true ∧ m = true := by
              have := HRs.out.1
              rw [hXm] at this
              exact Bool.and_eq_true _ _ ▸ this
            obtain ⟨rfl, rfl⟩ := hrm
            have hmu := HMu.out
            have hb1 := HX1.out.2.2.2.2.1
            have HLk := Lib.hid (look_is (gf := gf) HG.out hT ho HTL.out M7.out HX1.out.2.1.own hO (by omega) kk c true)
            have hlo := mu_lo (room := room) (N := H.length) (G := gpOf O H o tel) (fun y hy => by
              simp only [gpOf, Bool.and_eq_true] at hy
              cases hO2 : O y with
              | none => rw [hO2] at hy; simp at hy
              | some z =>
                obtain ⟨o2, r2, s2⟩ := z
                have := HG.out.hp.inn hO2
                omega) ((gpOf O H o tel).ref x) X1
            have HW3 := Lib.hid (Wi.lo (room := room) ((gpOf O H o tel).ref x) HX1.out.2.1)
            have HDr := Lib.hid (fun wq (hq : Mrk T n p r q ro room Sg H TL (loS (gpOf O H o tel) room X1 ((gpOf O H o tel).ref x)) (t1 + 1 + 3 * rf) wq) => drain_is (gf := gf) HG.out hT ho HTL.out hq HW3.out (by omega))
            have HLo := Lib.hid (And.intro hlo (And.intro hrf hXm))
            clear hO hmu hb1 hlo hXm hrf
            go_wp2_with fail
            refine HLk.out.mono ?_
            rintro e w8 ⟨rfl, m8, k8⟩
            have B8 := Lib.hid (B7.out.keep k8 HB.out.1)
            have K8 := Lib.hid (K7.out.trans k8)
            have HD8 := Lib.hid (HDr.out w8 m8)
            clear a0 a1 a2 a3 a4 a5 a6 a7 d0 d1 d2 d3 d4 d5 d6 m8 k8 HDr HLk
            obtain ⟨a0, a1, a2, a3, a4, a5, a6, a7⟩ := B8.out
            go_wp2_with fail
            refine HD8.out.mono ?_
            rintro e w9 ⟨rfl, X3, t3, hd3, hw3, hm3, ht3, m9, k9⟩
            have HN : Hid (Srch T n p r q ro o room Sg H O tel gf TL X t w b0 (parL T n o H b (i + 1)) (4900 * b + 1 + 301 * (i + 1)) w9) := Lib.hid (by
              rw [HX1.out.2.2.2.2.2]
              have hst3 : X3.st = [] := dr_empty hd3
              have z1 := HMu.out
              have z2 := HX1.out.2.2.2.1
              have z3 := HX1.out.2.2.2.2.1
              have z4 := HLo.out.1
              have z5 := HLo.out.2.1
              exact ⟨⟨X3, t3, .hit _ X X1 X3 x HX1.out.1 HLo.out.2.2 hd3, hw3, hst3, by rw [← z1]; omega, by rw [← z1]; omega, m9⟩, K8.out.trans k9, B8.out.keep k9 HB.out.1⟩)
            clear hd3 hw3 hm3 ht3 m9 k9
            go_wp2_with fail
            go_roundg (C - (i + 1))
            case rel => exact ⟨i + 1, by omega, by go_num, HN⟩
            case measure => omega
        · have eiC : i = C := by omega
          have HN : Hid (Srch T n p r q ro o room Sg H O tel gf TL X t w b0 (parL T n o H (b + 1) 0) (4900 * (b + 1)) wr) := Lib.hid (by
            rw [HPl.out.1, ← eiC]
            obtain ⟨X1, t1, h1, h2, h3, h4, h5, h6⟩ := HR.out.ex
            exact ⟨⟨X1, t1, h1, h2, h3, h4, by omega, h6⟩, HR.out.kp, HR.out.bx⟩)
          clear HR eiC
          go_wp2_with fail
          go_roundg (n - (b + 1))
          case rel => exact ⟨b + 1, by omega, by go_num, HN⟩
          case measure => omega
    · have ebn : b = n := by omega
      have HF : Hid (∃ X' t', Se (gpOf O H o tel) room (parL T n o H n 0) X X' ∧ Wi (gpOf O H o tel) X' ∧ X'.st = [] ∧ muM (gpOf O H o tel) H.length X' ≤ mu ∧ t' + 300 * muM (gpOf O H o tel) H.length X' ≤ t + 300 * mu + 4900 * n ∧ Mrk T n p r q ro room Sg H TL X' t' wr ∧ Kp (p :: r :: q :: ro :: Sg) w wr) := Lib.hid (by
        obtain ⟨X1, t1, h1, h2, h3, h4, h5, h6⟩ := HR.out.ex
        rw [ebn] at h1 h5
        have hmu := HMu.out
        exact ⟨X1, t1, h1, h2, h3, by rw [hmu]; exact h4, by omega, h6, HR.out.kp⟩)
      clear HR ebn
      go_wp2_with fail
      go_end0
      exact ⟨rfl, HF.out⟩
end
end Go.Proofs.YticbnckikkdknaaGreatDoor
