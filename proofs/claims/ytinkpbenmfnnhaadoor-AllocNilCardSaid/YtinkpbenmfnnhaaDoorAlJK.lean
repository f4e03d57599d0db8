/- The walks of law 15's own: the arena that is known (wakes). Conditions: the package's table holds its four numbers. The walk of AllocNil: for whatever owner, references and size it returns true, and no block that was there has turned. Conditions: the package's table holds its four numbers; the owner is a uint8's. Conditions: as each theorem states them. -/
import Derived.Test.YtinkpbenmfnnhaaDoorAlGH
import Derived.Test.YtinkpbenmfnnhaaDoorAlDI
namespace Go.Proofs.YtinkpbenmfnnhaaDoor
set_option linter.unusedVariables false
set_option linter.unusedSimpArgs false
set_option maxRecDepth 100000
open Go.RowKit

/-- What a drawn region holds on to: the state's first cells, the owner's list. -/
def B7 (sp fb p q n fc : Nat) (F : World → Prop) (wx : World) : Prop :=
  wx.cell? ⟨sp, 0, none⟩ = some (.pointer (some ⟨p, 0, none⟩)) ∧ wx.cell? ⟨sp, 1, none⟩ = some (.int .i64 1) ∧ wx.cell? ⟨sp, 2, none⟩ = some (.int .i64 0) ∧ wx.cell? ⟨sp, 3, none⟩ = some (.int .i64 n) ∧ wx.cell? ⟨sp, 4, none⟩ = some (.slice (some ⟨fb, 0, none⟩) 1 fc) ∧ wx.cell? ⟨fb, 0, none⟩ = some (.pointer (some ⟨q, 0, none⟩)) ∧ F wx
theorem B7.keep {sp fb p q n fc : Nat} {F : World → Prop} {wx wy : World} {S : List Nat} (h : B7 sp fb p q n fc F wx) (k : Kp S wx wy) (ha : sp ∉ S) (hb : fb ∉ S) (hF : F wx → F wy) : B7 sp fb p q n fc F wy := by
  obtain ⟨h0, h1, h2, h3, h4, h5, h6⟩ := h
  exact ⟨kp_cell k ha h0, kp_cell k ha h1, kp_cell k ha h2, kp_cell k ha h3, kp_cell k ha h4, kp_cell k hb h5, hF h6⟩

/-- The beginning as a maker's. -/
theorem bg_mw {w0 : World} (T0 : Cl.Tab w0) {sp p r q fb : Nat} {w : World} (h : Bg w0 1 sp p r q fb w) : Mw 1 0 1 p r q (fun _ => .slice none 0 0) H0 (fun _ => []) 1 w := by
  have hlt : 0 < w0.heap.size := World.block_lt_of_cell? _ _ T0.c0
  refine ⟨⟨1, Nat.le_refl _, h.hw⟩, h.ls, fun c hc => ⟨by simp, by simp⟩, by decide, tab_keep T0 h.kp (by simp), ?_, ?_, ?_, ?_⟩
  · have := h.lo; omega
  · have := h.lo; omega
  · have := h.lo; omega
  · rintro ⟨c, _, hb⟩; simp [Li.blk_nil] at hb

/-- An object of one word, of the arena of one block. -/
theorem make_one {p r q : Nat} {vs : Nat → Value} {H : List Int} {R : Nat → List Int} {t : Nat} {w : World} (h : Mw 1 0 1 p r q vs H R t w) (ht : t ≤ 300000) :
    Calls Tryd.prog 5 #[.agg #[.iface 27 (.pointer (some ⟨p, 0, none⟩)), .int .i64 1, .int .i64 0, .int .i64 1, .int .u8 0, .pointer (some ⟨q, 0, none⟩), .bool false, .nilFunc], .int .i64 1, .int .i64 1] w fun e w' => e = .returned (.tuple #[.int .i64 ((smallS 1 0 1 0 false 0 1 1 (H, R)).2.getD 0), .int .i64 (erM (smallS 1 0 1 0 false 0 1 1 (H, R)).2)]) ∧ ∃ vs', Mw 1 0 1 p r q vs' (smallS 1 0 1 0 false 0 1 1 (H, R)).1.1 (smallS 1 0 1 0 false 0 1 1 (H, R)).1.2 (t + 200) w' ∧ Mh [] p r q vs vs' w w' := by
  refine (make_small h ht (by decide) 0 1 1 (by decide) (by decide) (by decide) (hold_nil 1 0 1 p q 0 false vs w (r := r))).mono ?_
  rintro e w' ⟨h1, v, h2, h3, _⟩
  exact ⟨h1, v, h2.more (by omega), h3⟩

/-- The state's blocks, and the maker's box, behind objects that were made. -/
structure Wk (w0 : World) (j sp p r q fb kb : Nat) (w : World) : Prop where
  mw : ∃ vs H R, Mw 1 0 1 p r q vs H R (1 + 200 * j) w ∧ Mst j H R ∧ ∀ g, Li.Owns vs g → w0.heap.size ≤ g
  kp : Kp [] w0 w
  st : ∃ f fc, S13 w sp f ∧ f 0 = .pointer (some ⟨p, 0, none⟩) ∧ f 1 = .int .i64 1 ∧ f 2 = .int .i64 0 ∧ f 3 = .int .i64 1 ∧ f 4 = .slice (some ⟨fb, 0, none⟩) 1 fc
  bx : w.heap[kb]? = some (.cells (mkC 1 0 1 p q 0 false .nilFunc) 46 (0, 0))
  lo : w0.heap.size ≤ p ∧ w0.heap.size ≤ r ∧ w0.heap.size ≤ q

theorem Wk.step {w0 : World} {j sp p r q fb kb : Nat} {w w' : World} {vs vs' : Nat → Value} {H H' : List Int} {R R' : Nat → List Int} (h : Wk w0 j sp p r q fb kb w) (hm : Mw 1 0 1 p r q vs H R (1 + 200 * j) w) (ho : ∀ g, Li.Owns vs g → w0.heap.size ≤ g) (hm' : Mw 1 0 1 p r q vs' H' R' (1 + 200 * (j + 1)) w') (hs : Mst (j + 1) H' R') (k : Mh [] p r q vs vs' w w') : Wk w0 (j + 1) sp p r q fb kb w' := by
  have kk : Mk p r q vs vs' w w' := ⟨k.os, k.tape, k.output, k.size, fun i h1 h2 h3 h4 h5 => k.block i h1 h2 h3 h4 h5 (by simp), k.own⟩
  obtain ⟨f, fc, hst, hf⟩ := h.st
  refine ⟨⟨vs', H', R', hm', hs, fun g hg => ?_⟩, ?_, ⟨f, fc, hm.row kk hst (by decide) (by decide) (by decide) (by decide), hf⟩, hm.row kk h.bx (by decide) (by decide) (by decide) (by decide), h.lo⟩
  · rcases k.own g hg with q | q
    · exact ho g q
    · exact Nat.le_trans h.kp.size q
  · exact ⟨k.os.trans h.kp.os, k.tape.trans h.kp.tape, k.output.trans h.kp.output, Nat.le_trans h.kp.size k.size, fun i hi _ => (kk.block i (Nat.lt_of_lt_of_le hi h.kp.size) (by have := h.lo; omega) (by have := h.lo; omega) (by have := h.lo; omega) (fun e => by have := ho i e; omega)).trans (h.kp.block i hi (by simp))⟩

theorem Wk.old {w0 : World} {j sp p r q fb kb : Nat} {w w' : World} {vs vs' : Nat → Value} (h : Wk w0 j sp p r q fb kb w) (ho : ∀ g, Li.Owns vs g → w0.heap.size ≤ g) (k : Mh [] p r q vs vs' w w') : Kp [] w0 w' :=
  ⟨k.os.trans h.kp.os, k.tape.trans h.kp.tape, k.output.trans h.kp.output, Nat.le_trans h.kp.size k.size, fun i hi _ => (k.block i (Nat.lt_of_lt_of_le hi h.kp.size) (by have := h.lo; omega) (by have := h.lo; omega) (by have := h.lo; omega) (fun e => by have := ho i e; omega) (by simp)).trans (h.kp.block i hi (by simp))⟩
theorem Wk.on {w0 : World} {j sp p r q fb kb : Nat} {w w' : World} (h : Wk w0 j sp p r q fb kb w) (k : Kp [] w w') : Wk w0 j sp p r q fb kb w' := by
  obtain ⟨vs, H, R, hm, hs, ho⟩ := h.mw
  obtain ⟨f, fc, hst, hf⟩ := h.st
  exact ⟨⟨vs, H, R, hm.on k, hs, ho⟩, h.kp.trans k, ⟨f, fc, hst.keep k (by simp), hf⟩, k.row (by simp) h.bx, h.lo⟩

set_option maxHeartbeats 4000000 in
theorem wakes_any (w : World) (T0 : Cl.Tab w) : Calls Tryd.prog 6 #[] w fun e w' => e = .returned (.bool true) ∧ Kp [] w w' := by
  have HBg : Hid (Calls Tryd.prog 4 #[.int .i64 1, .int .i64 1] w fun e w' => ∃ sp p r q fb, e = .returned (.tuple #[.pointer (some ⟨sp, 0, none⟩), .bool true]) ∧ Bg w 1 sp p r q fb w') := Lib.hid (begins_one w 1 (by decide) (by decide))
  have HT := Lib.hid T0
  clear T0
  go_enter Tryd.func6, Tryd.ntmps6
  go_wp2_with fail
  refine HBg.out.mono ?_
  rintro e w1 ⟨sp, p, r, q, fb, rfl, hB⟩
  have HB := Lib.hid hB
  obtain ⟨f, fc, hst, f0, f1, f2, f3, f4⟩ := hB.st
  obtain ⟨cur, hcur, hcur0⟩ := hB.fr
  have hS0 : B7 sp fb p q 1 fc (Kp [] w1) w1 := ⟨(hst.cell (i := 0) (by decide)).trans (congrArg some f0), (hst.cell (i := 1) (by decide)).trans (congrArg some f1), (hst.cell (i := 2) (by decide)).trans (congrArg some f2), (hst.cell (i := 3) (by decide)).trans (congrArg some f3), (hst.cell (i := 4) (by decide)).trans (congrArg some f4), (cell_of_row hcur 0).trans hcur0, Kp.refl _ _⟩
  have HS0 := Lib.hid hS0
  clear hB hst f0 f1 f2 f3 f4 hcur hcur0 hS0 HBg
  go_upto_region 4 with (fail)
  go_cut [3] (fun v3 wc => v3 = .pointer (some ⟨w1.heap.size, 0, none⟩) ∧ Hid (Kp [] w1 wc ∧ wc.heap[w1.heap.size]? = some (.cells (mkC 1 0 1 p q 0 false .nilFunc) 46 (0, 0))))
  case first =>
    obtain ⟨d0, d1, d2, d3, d4, d5, -⟩ := HS0.out
    have hrow : ((w1.alloc (.cells #[.iface 27 (.pointer (some ⟨p, 0, none⟩)), .int .i64 1, .int .i64 0, .int .i64 1, .int .u8 0, .pointer (some ⟨q, 0, none⟩), .bool false, .nilFunc] 46)).drew).heap[w1.heap.size]? = some (.cells (mkC 1 0 1 p q 0 false .nilFunc) 46 (0, 0)) := heap_alloc_new w1 _
    have hkb : Kp [] w1 ((w1.alloc (.cells #[.iface 27 (.pointer (some ⟨p, 0, none⟩)), .int .i64 1, .int .i64 0, .int .i64 1, .int .u8 0, .pointer (some ⟨q, 0, none⟩), .bool false, .nilFunc] 46)).drew) := ((Kp.refl _ _).alloc _).drew
    have hsf : (store ⟨w1.heap.size, 7, none⟩ .nilFunc).run Tryd.prog ((w1.alloc (.cells #[.iface 27 (.pointer (some ⟨p, 0, none⟩)), .int .i64 1, .int .i64 0, .int .i64 1, .int .u8 0, .pointer (some ⟨q, 0, none⟩), .bool false, .nilFunc] 46)).drew) = .ok () (((w1.alloc (.cells #[.iface 27 (.pointer (some ⟨p, 0, none⟩)), .int .i64 1, .int .i64 0, .int .i64 1, .int .u8 0, .pointer (some ⟨q, 0, none⟩), .bool false, .nilFunc] 46)).drew).setCell ⟨w1.heap.size, 7, none⟩ .nilFunc) := Li.store_one ((cell_of_row hrow 7).trans (show _ = some .nilFunc from rfl)) (free_of_row hrow 7) rfl
    have hk9 : Kp [] w1 (((w1.alloc (.cells #[.iface 27 (.pointer (some ⟨p, 0, none⟩)), .int .i64 1, .int .i64 0, .int .i64 1, .int .u8 0, .pointer (some ⟨q, 0, none⟩), .bool false, .nilFunc] 46)).drew).setCell ⟨w1.heap.size, 7, none⟩ .nilFunc) := kp_new_set hkb (b := w1.heap.size) ((Kp.refl _ _).setCell (.inl (by simp)) _) (Nat.le_refl _)
    have hr9 : (((w1.alloc (.cells #[.iface 27 (.pointer (some ⟨p, 0, none⟩)), .int .i64 1, .int .i64 0, .int .i64 1, .int .u8 0, .pointer (some ⟨q, 0, none⟩), .bool false, .nilFunc] 46)).drew).setCell ⟨w1.heap.size, 7, none⟩ .nilFunc).heap[w1.heap.size]? = some (.cells (mkC 1 0 1 p q 0 false .nilFunc) 46 (0, 0)) := by rw [heap_setCell_same _ _ _ _ _ _ hrow]; rfl
    have HS9 := Lib.hid (B7.keep HS0.out hk9 (by simp) (by simp) (fun k => k.trans hk9))
    have HS8 := Lib.hid (B7.keep HS0.out hkb (by simp) (by simp) (fun k => k.trans hkb))
    have HR9 := Lib.hid (And.intro hk9 hr9)
    have HR8 := Lib.hid (And.intro hkb hrow)
    clear hrow hkb hk9 hr9
    go_region_held3? (fun wx => wx.cell? ⟨sp, 0, none⟩ = some (.pointer (some ⟨p, 0, none⟩)) ∧ wx.cell? ⟨sp, 1, none⟩ = some (.int .i64 1) ∧ wx.cell? ⟨sp, 2, none⟩ = some (.int .i64 0) ∧ wx.cell? ⟨sp, 3, none⟩ = some (.int .i64 1) ∧ wx.cell? ⟨sp, 4, none⟩ = some (.slice (some ⟨fb, 0, none⟩) 1 fc) ∧ wx.cell? ⟨fb, 0, none⟩ = some (.pointer (some ⟨q, 0, none⟩)) ∧ Kp [] w1 wx)
      (first
        | assumption
        | exact B7.keep HS0.out ((Kp.refl [] _).drew) (by simp) (by simp) (fun k => k.trans ((Kp.refl [] _).drew))
        | exact B7.keep ‹B7 sp fb p q 1 fc (Kp [] w1) _› ((Kp.refl [] _).alloc _) (by simp) (by simp) (fun k => k.trans ((Kp.refl [] _).alloc _))
        | exact HS9.out
        | exact HS8.out)
      (fail)
    all_goals
      rename_i hHeld
      clear hHeld
      go_wp2_with fail
      go_meet
      first
        | exact ⟨rfl, Lib.hid HR8.out⟩
        | exact ⟨rfl, Lib.hid HR9.out⟩
  case rest =>
    obtain ⟨rfl, HC⟩ := hcut
    have HW0 : Hid (Wk w 0 sp p r q fb w1.heap.size wc) := by
      have hB := HB.out
      obtain ⟨f, fc, hst, hf⟩ := hB.st
      exact Lib.hid ⟨⟨_, _, _, (bg_mw HT.out hB).on HC.out.1, .inl ⟨rfl, rfl, rfl⟩, fun g hg => by obtain ⟨c, _, hb⟩ := hg; simp [Li.blk_nil] at hb⟩, hB.kp.trans HC.out.1, ⟨f, fc, hst.keep HC.out.1 (by simp), hf⟩, HC.out.2, by have := hB.lo; omega⟩
    have hSt := Lib.hid (fun w => Ly.start_is 1 0 1 0 5 w (by decide) (by decide) (by decide) (by decide) (by decide) (by decide) (by decide))
    clear HC HS0 HB
    go_wp2_with fail
    go_loopg [4, 5] 16 (fun gg v4 v5 wr => ∃ j l : Nat, j + gg = 16 ∧ v5 = .int .i64 j ∧ v4 = .int .i64 l ∧ Hid ((j = 0 ∧ l = 0) ∨ (1 ≤ j ∧ l = 3 + 2 * j)) ∧ Hid (Wk w j sp p r q fb w1.heap.size wr))
    case atStart => exact ⟨0, 0, by decide, rfl, rfl, Lib.hid (.inl ⟨rfl, rfl⟩), HW0⟩
    case round =>
      obtain ⟨j, l, hj, rfl, rfl, HL, HR⟩ := hrel
      obtain ⟨vs, H, R, hm, hs, ho⟩ := HR.out.mw
      have hbx := HR.out.bx
      obtain ⟨r0, r1, r2, r3, r4, r5, r6, r7, -⟩ := ms_of (F := fun _ => True) hbx trivial
      by_cases hlt : j < 16
      · obtain ⟨H', R', he, hs'⟩ := st_step hs hlt
        have hmk := make_one hm (by omega)
        rw [he] at hmk
        have HMk : Hid (Calls Tryd.prog 5 #[.agg #[.iface 27 (.pointer (some ⟨p, 0, none⟩)), .int .i64 1, .int .i64 0, .int .i64 1, .int .u8 0, .pointer (some ⟨q, 0, none⟩), .bool false, .nilFunc], .int .i64 1, .int .i64 1] wr fun e w' => e = .returned (.tuple #[.int .i64 ((5 + 2 * j : Nat) : Int), .int .i64 0]) ∧ Wk w (j + 1) sp p r q fb w1.heap.size w') := by
          refine Lib.hid (hmk.mono ?_)
          rintro e w' ⟨rfl, vs', h2, h3⟩
          exact ⟨rfl, HR.out.step hm ho (h2.more (by omega)) hs' h3⟩
        clear hmk he hs' hm hs ho hbx
        obtain ⟨k, hk⟩ : ∃ k, k = 5 + 2 * j := ⟨_, rfl⟩
        rw [← hk] at HMk
        have HKk := Lib.hid hk
        clear hk
        rcases HL.out with ⟨rfl, rfl⟩ | ⟨h1, hl⟩
        · have hk5 : k = 5 := HKk.out
          subst hk5
          clear HKk
          go_wp2_with fail
          refine HMk.out.mono ?_
          rintro e w2 ⟨rfl, hW2⟩
          have HW2 := Lib.hid hW2
          obtain ⟨f, fc2, hst, f0, f1, f2, f3, f4⟩ := hW2.st
          have c1 := (hst.cell (i := 1) (by decide)).trans (congrArg some f1)
          have c2 := (hst.cell (i := 2) (by decide)).trans (congrArg some f2)
          have c3 := (hst.cell (i := 3) (by decide)).trans (congrArg some f3)
          clear hW2 hst f0 f1 f2 f3 f4 r0 r1 r2 r3 r4 r5 r6 r7
          go_wp2_with fail
          refine (hSt.out _).mono ?_
          rintro e w3 ⟨rfl, hk3⟩
          have HW3 : Hid (Wk w (0 + 1) sp p r q fb w1.heap.size w3) := Lib.hid (HW2.out.on hk3)
          clear hk3 c1 c2 c3
          go_wp2_with fail
          go_roundg 15
          case rel => exact ⟨1, 5, by decide, by go_num, by go_num, Lib.hid (.inr ⟨by decide, by decide⟩), HW3⟩
          case measure => omega
        · have hj0 : ((j : Int) == 0) = false := by simp; omega
          have hjp : (0 : Int) < j := by omega
          have hjp2 : decide (0 < j) = true := by simp; omega
          have e1 : (l : Int) + 2 = k := by have := HKk.out; omega
          have e2 := IntWalk.i64_in (k : Int) (by have := HKk.out; omega)
          clear hl
          go_wp2_with fail
          refine HMk.out.mono ?_
          rintro e w2 ⟨rfl, hW2⟩
          have HW2 := Lib.hid hW2
          clear hW2 r0 r1 r2 r3 r4 r5 r6 r7
          go_wp2_with fail
          go_roundg (16 - (j + 1))
          case rel => exact ⟨j + 1, k, by omega, by go_num, by go_num, Lib.hid (.inr ⟨by omega, by have := HKk.out; omega⟩), HW2⟩
          case measure => omega
      · obtain rfl : j = 16 := by omega
        have hno := st_last hs
        have hmk := make_one hm (by decide)
        rw [hno] at hmk
        have HMk : Hid (Calls Tryd.prog 5 #[.agg #[.iface 27 (.pointer (some ⟨p, 0, none⟩)), .int .i64 1, .int .i64 0, .int .i64 1, .int .u8 0, .pointer (some ⟨q, 0, none⟩), .bool false, .nilFunc], .int .i64 1, .int .i64 1] wr fun e w' => e = .returned (.tuple #[.int .i64 0, .int .i64 7]) ∧ Kp [] w w') := by
          refine Lib.hid (hmk.mono ?_)
          rintro e w' ⟨rfl, vs', h2, h3⟩
          exact ⟨rfl, HR.out.old ho h3⟩
        clear hmk hno hm hs ho hbx
        go_wp2_with fail
        refine HMk.out.mono ?_
        rintro e w2 ⟨rfl, hk2⟩
        have HK2 := Lib.hid hk2
        clear hk2 r0 r1 r2 r3 r4 r5 r6 r7
        go_wp2_with fail
        go_ret
        exact ⟨rfl, HK2.out⟩

end Go.Proofs.YtinkpbenmfnnhaaDoor

namespace Go.Proofs.YtinkpbenmfnnhaaDoor
set_option linter.unusedVariables false
set_option linter.unusedSimpArgs false
set_option maxRecDepth 100000
open Go.RowKit

set_option maxHeartbeats 4000000 in
theorem nil_any (w : World) (T0 : Cl.Tab w) (o : Nat) (rf sz : Int) (ho : o ≤ 255) : Calls Tryd.prog 3 #[.int .u8 o, .int .i64 rf, .int .i64 sz] w fun e w' => e = .returned (.bool true) ∧ Kp [] w w' := by
  have HBg : Hid (Calls Tryd.prog 4 #[.int .i64 1, .int .i64 1] w fun e w' => ∃ sp p r q fb, e = .returned (.tuple #[.pointer (some ⟨sp, 0, none⟩), .bool true]) ∧ Bg w 1 sp p r q fb w') := Lib.hid (begins_one w 1 (by decide) (by decide))
  have HT := Lib.hid T0
  have HWk := Lib.hid (fun w' (k : Kp [] w w') => wakes_any w' (tab_keep T0 k (by simp)))
  have HO : Hid (o ≤ 255) := Lib.hid ho
  clear T0 ho
  rcases Nat.eq_zero_or_pos o with rfl | hpos
  · go_enter Tryd.func3, Tryd.ntmps3
    go_wp2_with fail
    refine HBg.out.mono ?_
    rintro e w1 ⟨sp, p, r, q, fb, rfl, hB⟩
    have HB := Lib.hid hB
    obtain ⟨f, fc, hst, f0, f1, f2, f3, f4⟩ := hB.st
    obtain ⟨cur, hcur, hcur0⟩ := hB.fr
    have hS0 : B7 sp fb p q 1 fc (Kp [] w1) w1 := ⟨(hst.cell (i := 0) (by decide)).trans (congrArg some f0), (hst.cell (i := 1) (by decide)).trans (congrArg some f1), (hst.cell (i := 2) (by decide)).trans (congrArg some f2), (hst.cell (i := 3) (by decide)).trans (congrArg some f3), (hst.cell (i := 4) (by decide)).trans (congrArg some f4), (cell_of_row hcur 0).trans hcur0, Kp.refl _ _⟩
    have HS0 := Lib.hid hS0
    have HK1 := Lib.hid hB.kp
    have HM1 : Hid (∀ w', Calls Tryd.prog 5 #[.agg #[.nilIface, .int .i64 1, .int .i64 0, .int .i64 1, .int .u8 0, .pointer (some ⟨q, 0, none⟩), .bool false, .nilFunc], .int .i64 rf, .int .i64 sz] w' fun e w'' => e = .returned (.tuple #[.int .i64 0, .int .i64 1]) ∧ Kp [] w' w'') := Lib.hid fun w' => make_nil1 1 0 1 0 _ _ _ rf sz w'
    have HM2 : Hid (∀ w', Calls Tryd.prog 5 #[.agg #[.iface 27 (.pointer (some ⟨p, 0, none⟩)), .int .i64 1, .int .i64 0, .int .i64 1, .int .u8 0, .pointer none, .bool false, .nilFunc], .int .i64 rf, .int .i64 sz] w' fun e w'' => e = .returned (.tuple #[.int .i64 0, .int .i64 1]) ∧ Kp [] w' w'') := Lib.hid fun w' => make_nil2 1 0 1 0 _ _ _ rf sz w'
    obtain ⟨d0, d1, d2, d3, d4, d5, -⟩ := hS0
    clear hB hst f0 f1 f2 f3 f4 hcur hcur0 HBg
    go_upto_region 4 with (fail)
    go_region_held3 (fun wx => wx.cell? ⟨sp, 0, none⟩ = some (.pointer (some ⟨p, 0, none⟩)) ∧ wx.cell? ⟨sp, 1, none⟩ = some (.int .i64 1) ∧ wx.cell? ⟨sp, 2, none⟩ = some (.int .i64 0) ∧ wx.cell? ⟨sp, 3, none⟩ = some (.int .i64 1) ∧ wx.cell? ⟨sp, 4, none⟩ = some (.slice (some ⟨fb, 0, none⟩) 1 fc) ∧ wx.cell? ⟨fb, 0, none⟩ = some (.pointer (some ⟨q, 0, none⟩)) ∧ Kp [] w1 wx)
      (first
        | assumption
        | exact B7.keep HS0.out ((Kp.refl [] _).drew) (by simp) (by simp) (fun k => k.trans ((Kp.refl [] _).drew))
        | exact B7.keep ‹B7 sp fb p q 1 fc (Kp [] w1) _› hk9 (by simp) (by simp) (fun k => k.trans hk9))
      (first | (go_at_call 5; refine (HM1.out _).mono ?_; rintro e w9 ⟨rfl, hk9⟩))
    all_goals
      rename_i hHeld
      have HS1 := Lib.hid hHeld
      obtain ⟨d0', d1', d2', d3', d4', d5', -⟩ := hHeld
      clear hk9 d0 d1 d2 d3 d4 d5
      go_upto_region 5 with (fail)
      go_region_held3 (fun wx => wx.cell? ⟨sp, 0, none⟩ = some (.pointer (some ⟨p, 0, none⟩)) ∧ wx.cell? ⟨sp, 1, none⟩ = some (.int .i64 1) ∧ wx.cell? ⟨sp, 2, none⟩ = some (.int .i64 0) ∧ wx.cell? ⟨sp, 3, none⟩ = some (.int .i64 1) ∧ wx.cell? ⟨sp, 4, none⟩ = some (.slice (some ⟨fb, 0, none⟩) 1 fc) ∧ wx.cell? ⟨fb, 0, none⟩ = some (.pointer (some ⟨q, 0, none⟩)) ∧ Kp [] w1 wx)
        (first
          | assumption
          | exact B7.keep HS1.out ((Kp.refl [] _).drew) (by simp) (by simp) (fun k => k.trans ((Kp.refl [] _).drew))
          | exact B7.keep ‹B7 sp fb p q 1 fc (Kp [] w1) _› hk9 (by simp) (by simp) (fun k => k.trans hk9))
        (first | (go_at_call 5; refine (HM2.out _).mono ?_; rintro e w9 ⟨rfl, hk9⟩))
      all_goals
        rename_i hHeld
        have HS2 := Lib.hid hHeld
        obtain ⟨d0, d1, d2, d3, d4, d5, -⟩ := hHeld
        clear hk9 d0' d1' d2' d3' d4' d5'
        have HW2 := Lib.hid (HWk.out _ (HK1.out.trans HS2.out.2.2.2.2.2.2))
        have HK2 := Lib.hid (HK1.out.trans HS2.out.2.2.2.2.2.2)
        clear d0 d1 d2 d3 d4 d5
        go_wp2_with fail
        refine HW2.out.mono ?_
        rintro e w8 ⟨rfl, hk8⟩
        have HK8 := Lib.hid (HK2.out.trans hk8)
        clear hk8
        go_wp2_with fail
        go_ret
        exact ⟨rfl, HK8.out⟩
  · go_enter Tryd.func3, Tryd.ntmps3
    go_wp2_with fail
    refine HBg.out.mono ?_
    rintro e w1 ⟨sp, p, r, q, fb, rfl, hB⟩
    have HB := Lib.hid hB
    obtain ⟨f, fc, hst, f0, f1, f2, f3, f4⟩ := hB.st
    obtain ⟨cur, hcur, hcur0⟩ := hB.fr
    have hS0 : B7 sp fb p q 1 fc (Kp [] w1) w1 := ⟨(hst.cell (i := 0) (by decide)).trans (congrArg some f0), (hst.cell (i := 1) (by decide)).trans (congrArg some f1), (hst.cell (i := 2) (by decide)).trans (congrArg some f2), (hst.cell (i := 3) (by decide)).trans (congrArg some f3), (hst.cell (i := 4) (by decide)).trans (congrArg some f4), (cell_of_row hcur 0).trans hcur0, Kp.refl _ _⟩
    have HS0 := Lib.hid hS0
    have HK1 := Lib.hid hB.kp
    have HM1 : Hid (∀ w', Calls Tryd.prog 5 #[.agg #[.nilIface, .int .i64 1, .int .i64 0, .int .i64 1, .int .u8 0, .pointer (some ⟨q, 0, none⟩), .bool false, .nilFunc], .int .i64 rf, .int .i64 sz] w' fun e w'' => e = .returned (.tuple #[.int .i64 0, .int .i64 1]) ∧ Kp [] w' w'') := Lib.hid fun w' => make_nil1 1 0 1 0 _ _ _ rf sz w'
    have HM2 : Hid (∀ w', Calls Tryd.prog 5 #[.agg #[.iface 27 (.pointer (some ⟨p, 0, none⟩)), .int .i64 1, .int .i64 0, .int .i64 1, .int .u8 0, .pointer none, .bool false, .nilFunc], .int .i64 rf, .int .i64 sz] w' fun e w'' => e = .returned (.tuple #[.int .i64 0, .int .i64 1]) ∧ Kp [] w' w'') := Lib.hid fun w' => make_nil2 1 0 1 0 _ _ _ rf sz w'
    have HM3 : Hid (∀ w', 1 ≤ o → Calls Tryd.prog 5 #[.agg #[.iface 27 (.pointer (some ⟨p, 0, none⟩)), .int .i64 1, .int .i64 0, .int .i64 1, .int .u8 o, .pointer (some ⟨q, 0, none⟩), .bool false, .nilFunc], .int .i64 0, .int .i64 1] w' fun e w'' => e = .returned (.tuple #[.int .i64 0, .int .i64 2]) ∧ Kp [] w' w'') := Lib.hid fun w' h1 => make_owner (T := 1) (G := 0) (n := 1) (p := p) (q := q) (o := o) (wk := false) (hd := .nilFunc) 0 1 HO.out h1 w'
    obtain ⟨d0, d1, d2, d3, d4, d5, -⟩ := hS0
    clear hB hst f0 f1 f2 f3 f4 hcur hcur0 HBg
    go_upto_region 4 with (fail)
    go_region_held3 (fun wx => wx.cell? ⟨sp, 0, none⟩ = some (.pointer (some ⟨p, 0, none⟩)) ∧ wx.cell? ⟨sp, 1, none⟩ = some (.int .i64 1) ∧ wx.cell? ⟨sp, 2, none⟩ = some (.int .i64 0) ∧ wx.cell? ⟨sp, 3, none⟩ = some (.int .i64 1) ∧ wx.cell? ⟨sp, 4, none⟩ = some (.slice (some ⟨fb, 0, none⟩) 1 fc) ∧ wx.cell? ⟨fb, 0, none⟩ = some (.pointer (some ⟨q, 0, none⟩)) ∧ Kp [] w1 wx)
      (first
        | assumption
        | exact B7.keep HS0.out ((Kp.refl [] _).drew) (by simp) (by simp) (fun k => k.trans ((Kp.refl [] _).drew))
        | exact B7.keep ‹B7 sp fb p q 1 fc (Kp [] w1) _› hk9 (by simp) (by simp) (fun k => k.trans hk9))
      (first | (go_at_call 5; refine (HM1.out _).mono ?_; rintro e w9 ⟨rfl, hk9⟩))
    all_goals
      rename_i hHeld
      have HS1 := Lib.hid hHeld
      obtain ⟨d0', d1', d2', d3', d4', d5', -⟩ := hHeld
      clear hk9 d0 d1 d2 d3 d4 d5
      go_upto_region 5 with (fail)
      go_region_held3 (fun wx => wx.cell? ⟨sp, 0, none⟩ = some (.pointer (some ⟨p, 0, none⟩)) ∧ wx.cell? ⟨sp, 1, none⟩ = some (.int .i64 1) ∧ wx.cell? ⟨sp, 2, none⟩ = some (.int .i64 0) ∧ wx.cell? ⟨sp, 3, none⟩ = some (.int .i64 1) ∧ wx.cell? ⟨sp, 4, none⟩ = some (.slice (some ⟨fb, 0, none⟩) 1 fc) ∧ wx.cell? ⟨fb, 0, none⟩ = some (.pointer (some ⟨q, 0, none⟩)) ∧ Kp [] w1 wx)
        (first
          | assumption
          | exact B7.keep HS1.out ((Kp.refl [] _).drew) (by simp) (by simp) (fun k => k.trans ((Kp.refl [] _).drew))
          | exact B7.keep ‹B7 sp fb p q 1 fc (Kp [] w1) _› hk9 (by simp) (by simp) (fun k => k.trans hk9))
        (first | (go_at_call 5; refine (HM2.out _).mono ?_; rintro e w9 ⟨rfl, hk9⟩))
      all_goals
        rename_i hHeld
        have HS2 := Lib.hid hHeld
        obtain ⟨d0, d1, d2, d3, d4, d5, -⟩ := hHeld
        clear hk9 d0' d1' d2' d3' d4' d5'
        have HM4 := Lib.hid (fun w' => HM3.out w' hpos)
        go_upto_region 8 with (fail)
        go_region_held3 (fun wx => wx.cell? ⟨sp, 0, none⟩ = some (.pointer (some ⟨p, 0, none⟩)) ∧ wx.cell? ⟨sp, 1, none⟩ = some (.int .i64 1) ∧ wx.cell? ⟨sp, 2, none⟩ = some (.int .i64 0) ∧ wx.cell? ⟨sp, 3, none⟩ = some (.int .i64 1) ∧ wx.cell? ⟨sp, 4, none⟩ = some (.slice (some ⟨fb, 0, none⟩) 1 fc) ∧ wx.cell? ⟨fb, 0, none⟩ = some (.pointer (some ⟨q, 0, none⟩)) ∧ Kp [] w1 wx)
          (first
            | assumption
            | exact B7.keep HS2.out ((Kp.refl [] _).drew) (by simp) (by simp) (fun k => k.trans ((Kp.refl [] _).drew))
            | exact B7.keep ‹B7 sp fb p q 1 fc (Kp [] w1) _› hk9 (by simp) (by simp) (fun k => k.trans hk9))
          (first | (go_at_call 5; refine (HM4.out _).mono ?_; rintro e w9 ⟨rfl, hk9⟩))
        all_goals
          rename_i hHeld
          have HW2 := Lib.hid (HWk.out _ (HK1.out.trans hHeld.2.2.2.2.2.2))
          have HK2 := Lib.hid (HK1.out.trans hHeld.2.2.2.2.2.2)
          clear d0 d1 d2 d3 d4 d5 hHeld hk9
          go_wp2_with fail
          refine HW2.out.mono ?_
          rintro e w8 ⟨rfl, hk8⟩
          have HK8 := Lib.hid (HK2.out.trans hk8)
          clear hk8
          go_wp2_with fail
          go_ret
          exact ⟨rfl, HK8.out⟩

/-- The walk as the card asks for it. -/
theorem nil_card (w : World) (T0 : Cl.Tab w) (a rf sz : Int) (h0 : 0 ≤ a) (h1 : a ≤ 255) : Calls Tryd.prog 3 #[.int .u8 a, .int .i64 rf, .int .i64 sz] w fun e w' => e = .returned (.bool true) ∧ Kp [] w w' := by
  obtain ⟨o, rfl⟩ := Int.eq_ofNat_of_zero_le h0
  exact nil_any w T0 o rf sz (by omega)

end Go.Proofs.YtinkpbenmfnnhaaDoor
