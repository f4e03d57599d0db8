/- Package publish, the document's own: Published. Conditions: as each theorem states them. -/
import Derived.Test.YtdnlddjgjceogaaPbI
namespace Go.Proofs.Ytdnlddjgjceogaa
set_option linter.unusedVariables false
set_option linter.unusedSimpArgs false
set_option maxRecDepth 100000
open Go.RowKit

theorem reached_no (w : World) (b0 o cap N : Nat) (k : Int) (ws : List Int) (hN : ws.length = N) (hN1 : 1 ≤ N) (hN2 : N ≤ 10000) (hW : Wd w b0 o cap ws) (hok : ∀ j, 0 ≤ ws.getD j 0 ∧ ws.getD j 0 < 33554432) (ha : lcl ws k = false) :
    Calls Try.prog 21 #[.slice (some ⟨b0, o, none⟩) N cap, .int .i64 k] w fun e w' => ∃ ro B, e = .returned (.slice (some ⟨ro, 0, none⟩) N N) ∧ Bl w' ro B ∧ B.length = N ∧ (∀ j, B.getD j false = false) ∧ w.heap.size ≤ ro ∧ Kp [] w w' := by
  have hmk := make_bools N (by omega)
  have HLA := Lib.hid (fun (w' : World) (kk : Kp [] w w') => local_any w' b0 o cap N ws k hN (by omega) (hW.keep kk (by simp)) hok false ha)
  have HB0 : Hid (Bl (w.alloc (.cells (bls (List.replicate N false)) 4)) w.heap.size (List.replicate N false)) := Lib.hid (heap_alloc_new w _)
  have HK0 := Lib.hid ((Kp.refl [] w).alloc (.cells (bls (List.replicate N false)) 4))
  clear hok hW ha
  go_enter Try.func21, Try.ntmps21
  go_wp2_with fail
  refine (HLA.out _ HK0.out).mono ?_
  rintro e w1 ⟨⟨k', c, o', r, s, g, m, rfl⟩, hk⟩
  have kb := (hk.alloc (.cells (hc7 k' c g m o' r s) 40))
  have F : Hid (∃ B, Bl (w1.alloc (.cells (hc7 k' c g m o' r s) 40)) w.heap.size B ∧ B.length = N ∧ (∀ j, B.getD j false = false) ∧ w.heap.size ≤ w.heap.size ∧ Kp [] w (w1.alloc (.cells (hc7 k' c g m o' r s) 40))) :=
    Lib.hid ⟨_, HB0.out.keep kb (by simp), by simp, fun j => by
      simp only [List.getD, List.getElem?_replicate]
      split <;> rfl, Nat.le_refl _, HK0.out.trans kb⟩
  clear hk kb HB0 HK0 HLA hmk
  go_wp2_with fail
  go_ret
  obtain ⟨B, F⟩ := F.out
  exact ⟨_, B, rfl, F⟩

theorem reached_any (w : World) (b0 o cap N : Nat) (k : Int) (ws : List Int) (hN : ws.length = N) (hN1 : 1 ≤ N) (hN2 : N ≤ 10000) (hW : Wd w b0 o cap ws) (hok : ∀ j, 0 ≤ ws.getD j 0 ∧ ws.getD j 0 < 33554432) :
    Calls Try.prog 21 #[.slice (some ⟨b0, o, none⟩) N cap, .int .i64 k] w fun e w' => ∃ ro B, e = .returned (.slice (some ⟨ro, 0, none⟩) N N) ∧ Bl w' ro B ∧ B.length = N ∧ (∀ j, B.getD j false = true ↔ (0 ≤ k ∧ Rch ws k.toNat j)) ∧ w.heap.size ≤ ro ∧ Kp [] w w' := by
  cases ha : lcl ws k
  · refine (reached_no w b0 o cap N k ws hN hN1 hN2 hW hok ha).mono ?_
    rintro e w' ⟨ro, B, h1, h2, h3, h4, h5, h6⟩
    refine ⟨ro, B, h1, h2, h3, fun j => ?_, h5, h6⟩
    rw [h4 j]
    constructor
    · intro h; cases h
    · rintro ⟨h0, hr⟩
      have := hr.first
      rw [show ((k.toNat : Nat) : Int) = k by omega, ha] at this
      exact this
  · have hk := lcl_in ha
    obtain ⟨n, rfl⟩ : ∃ n : Nat, k = n := ⟨k.toNat, by omega⟩
    refine (reached_yes w b0 o cap N n ws hN hN1 hN2 hW hok ha).mono ?_
    rintro e w' ⟨ro, B, h1, h2, h3, h4, h5, h6⟩
    exact ⟨ro, B, h1, h2, h3, fun j => by rw [h4 j]; simp, h5, h6⟩

/-- A row of words of the call's own. -/
def Ow (w : World) (g : Nat) (Y : List Int) : Prop := ∃ cur, w.heap[g]? = some (.cells cur 30 (0, 0)) ∧ ∀ j, j < Y.length → cur[j]? = some (.int .u64 (Y.getD j 0))
theorem Ow.keep {S : List Nat} {w w' : World} {g : Nat} {Y : List Int} (h : Ow w g Y) (k : Kp S w w') (hg : g ∉ S) : Ow w' g Y := by
  obtain ⟨cur, h1, h2⟩ := h
  exact ⟨cur, k.row hg h1, h2⟩
theorem Ow.set {w : World} {g : Nat} {Y : List Int} (h : Ow w g Y) (i : Nat) (hi : i < Y.length) (y : Int) : Ow (w.setCell ⟨g, i, none⟩ (.int .u64 y)) g (Y.set i y) := by
  obtain ⟨cur, h1, h2⟩ := h
  refine ⟨_, heap_setCell_same w g i _ _ _ h1, fun j hj => ?_⟩
  rw [List.length_set] at hj
  have hi2 := (Array.getElem?_eq_some_iff.1 (h2 i hi)).1
  rw [Array.getElem?_setIfInBounds]
  by_cases hij : i = j
  · subst hij
    simp [hi2, List.getD, hi]
  · rw [if_neg hij, h2 j hj]
    simp only [List.getD]
    rw [List.getElem?_set_ne hij]
theorem Ow.cell {w : World} {g : Nat} {Y : List Int} (h : Ow w g Y) {i : Nat} (hi : i < Y.length) : w.cell? ⟨g, i, none⟩ = some (.int .u64 (Y.getD i 0)) ∧ w.frozen? ⟨g, i, none⟩ = false := by
  obtain ⟨cur, h1, h2⟩ := h
  exact ⟨by rw [cell_of_row h1]; exact h2 i hi, free_of_row h1 i⟩
theorem Ow.wd {w : World} {g cap : Nat} {Y : List Int} (h : Ow w g Y) : Wd w g 0 cap Y := by
  obtain ⟨cur, h1, h2⟩ := h
  exact ⟨lt_of_block h1, fun i hi => by rw [Nat.zero_add, cell_of_row h1]; exact h2 i hi⟩
theorem Ow.of_rw {w : World} {base n g cap : Nat} {ws : List Int} (h : Rw 30 1 base w (.slice (some ⟨g, 0, none⟩) n cap) n (u64l ws)) (hn : ws.length = n) : Ow w g ws := by
  obtain ⟨_, cur, hc⟩ := h.block g (by simp [blk_some])
  refine ⟨cur, hc, fun j hj => ?_⟩
  rcases h.own.2 with ⟨e, h0⟩ | ⟨b, c, cur', e, _, hb, h1, h2, h3, h4⟩
  · cases e
  · obtain rfl : b = g := by cases e; rfl
    obtain rfl : cur = cur' := by
      have := hc.symm.trans hb
      simpa using this
    have e2 : cur[j]? = (cur.toList.take (n * 1))[j]? := by rw [List.getElem?_take_of_lt (by omega)]; simp
    rw [e2, h4]
    simp [u64l, List.getD, hj]

set_option maxHeartbeats 2000000 in
theorem published_any (w : World) (b0 o cap N : Nat) (k c : Int) (hc0 : 0 ≤ c) (hc1 : c ≤ 1) (ws : List Int) (hN : ws.length = N) (hN1 : 1 ≤ N) (hN2 : N ≤ 10000) (hW : Wd w b0 o cap ws) (hok : ∀ j, 0 ≤ ws.getD j 0 ∧ ws.getD j 0 < 33554432) :
    Calls Try.prog 11 #[.slice (some ⟨b0, o, none⟩) N cap, .int .i64 k, .int .u8 c] w fun e w' => ∃ g cp Y P, e = .returned (.slice (some ⟨g, 0, none⟩) N cp) ∧ Wd w' g 0 cp Y ∧ Y.length = N ∧ (∀ j, P j = true ↔ (0 ≤ k ∧ Rch ws k.toNat j)) ∧ (∀ j, j < N → Y.getD j 0 = mixW ws c P j) ∧ Kp [] w w' := by
  have HRD := Lib.hid (reached_any w b0 o cap N k ws hN hN1 hN2 hW hok)
  have HW := Lib.hid hW
  have HOK := Lib.hid hok
  clear hW hok
  go_enter Try.func11, Try.ntmps11
  go_wp2_with fail
  refine HRD.out.mono ?_
  rintro e w1 ⟨ro, B, rfl, hbl, hbn, hbr, hro, hk⟩
  obtain ⟨ao, cp, w2, hrun, hrw, hkb⟩ := (by
    obtain ⟨g, cp, w2, r1, r2, r3, _⟩ := run_appB (T := 30) (t := 23) (ty := 23) (sz := 1) (base := w1.heap.size) (bytes := 8) (w := w1) Try.underlying23 u64_info (by decide) (Rw.nil _ _ _ _) (Nat.le_refl _) ⟨b0, o, none⟩ N cap (u64l ws) (by simp [u64l, hN])
      (fun j u hj => by
        have hj2 : j < ws.length := by
          have := (List.getElem?_eq_some_iff.1 hj).1
          simpa [u64l] using this
        rw [Addr.add_lit, (HW.out.keep hk (by simp)).at_ j hj2, ← hj]
        simp [u64l, List.getD, hj2]) (by intro u hu; simp only [u64l, List.mem_map] at hu; obtain ⟨z, _, rfl⟩ := hu; rfl) (by omega) (by omega) (by decide)
    rw [Nat.zero_add] at r1 r2
    exact ⟨g, cp, w2, r1, by simpa using r2, r3⟩ : ∃ g cp w2, (Builtin.append_ #[23, 23] 23 #[.slice none 0 0, .slice (some ⟨b0, o, none⟩) N cap]).run Try.prog w1 = .ok (.slice (some ⟨g, 0, none⟩) N cp) w2 ∧ Rw 30 1 w1.heap.size w2 (.slice (some ⟨g, 0, none⟩) N cp) N (u64l ws) ∧ Kp (blk (.slice none 0 0)) w1 w2)
  rw [blk_nil] at hkb
  have HRun := Lib.hid hrun
  have HO := Lib.hid (Ow.of_rw hrw hN)
  have HK := Lib.hid (hk.trans hkb)
  have HBL := Lib.hid (hbl.keep hkb (by simp))
  have hg := (hrw.block ao (by simp [blk_some])).1
  have HG := Lib.hid (show w.heap.size ≤ ao from Nat.le_trans hk.size hg)
  have HRG := Lib.hid (show ro ≠ ao from by have := lt_of_block hbl; omega)
  have HBR := Lib.hid (And.intro hbn hbr)
  clear hrun hrw hkb hk hbl hbn hbr hro hg HRD
  go_wp2_with (at_builtin; refine wpList_append_eq rfl (.const (.slice none 0 0)) (.tmp 15) 23 rfl _ _ _ rfl rfl HRun.out ?_)
  go_loopg [9] N (fun gg v wr => ∃ i : Nat, i + gg = N ∧ v = .int .i64 i ∧ Hid (∃ Y, Ow wr ao Y ∧ Y.length = N ∧ (∀ j, j < i → Y.getD j 0 = mixW ws c (fun j => B.getD j false) j) ∧ (∀ j, i ≤ j → Y.getD j 0 = ws.getD j 0) ∧ Bl wr ro B ∧ Kp [] w wr))
  case atStart => exact ⟨0, by omega, rfl, Lib.hid ⟨ws, HO.out, hN, fun j hj => by omega, fun _ _ => rfl, HBL.out, HK.out⟩⟩
  case round =>
    obtain ⟨i, hi, rfl, HR⟩ := hrel
    by_cases hlt : i < N
    · obtain ⟨Y, y1, y2, y3, y4, y5, y6⟩ := HR.out
      have cB := y5.cell (i := i) (by rw [HBR.out.1]; exact hlt)
      obtain ⟨bi, hbi⟩ : ∃ bi, B.getD i false = bi := ⟨_, rfl⟩
      rw [hbi] at cB
      cases bi
      · have F : Hid (∃ Y, Ow wr ao Y ∧ Y.length = N ∧ (∀ j, j < i + 1 → Y.getD j 0 = mixW ws c (fun j => B.getD j false) j) ∧ (∀ j, i + 1 ≤ j → Y.getD j 0 = ws.getD j 0) ∧ Bl wr ro B ∧ Kp [] w wr) := by
          refine Lib.hid ⟨Y, y1, y2, fun j hj => ?_, fun j hj => y4 j (by omega), y5, y6⟩
          by_cases hji : j = i
          · subst hji
            rw [y4 j (Nat.le_refl _), mixW, if_neg (by rw [hbi]; decide)]
          · exact y3 j (by omega)
        clear y1 y2 y3 y4 y5 y6 HR hbi
        go_wp2_with fail
        go_roundg (N - (i + 1))
        exact ⟨i + 1, by omega, rfl, F⟩
        omega
      · have hrch := (HBR.out.2 i).1 hbi
        have hloc := hrch.2.loc
        simp only [lcl, Bool.and_eq_true, Int.toNat_natCast] at hloc
        have cw := (HW.out.keep y6 (by simp)).at_ i (by omega)
        have ho := HOK.out i
        have hmx : mixW ws c (fun j => B.getD j false) i = pubI (ws.getD i 0) c := by rw [mixW, if_pos hbi]
        obtain ⟨x, hx⟩ : ∃ x, ws.getD i 0 = x := ⟨_, rfl⟩
        rw [hx] at hloc cw ho hmx
        have HT : Hid (∀ w, Calls Try.prog 22 #[.int .u64 x] w fun e w' => e = .returned (.tuple #[.agg (hc7 2 0 false (x / 16 % 2 == 1) (x / 32 % 64) (x / 2048 % 128) (x / 262144 % 128)), .int .i64 0]) ∧ Kp [] w w') := by
          obtain ⟨h2, h3⟩ := locB_take hloc.2
          obtain ⟨h4, h5⟩ := locB_zero hloc.2
          refine Lib.hid fun w => ?_
          have := rtake_some x w ho.1 h2
          rw [h3, h4, h5] at this
          exact this.mono fun e w' ⟨he, hb⟩ => ⟨he, kp_of_below hb⟩
        have HWd : Hid (∀ w, Calls Try.prog 14 #[.agg (hc7 3 c false false (x / 32 % 64) (x / 2048 % 128) (x / 262144 % 128))] w fun e w' => e = .returned (.int .u64 (pubI x c)) ∧ Kp [] w w') :=
          Lib.hid fun w => (rword_any 3 c (x / 32 % 64) (x / 2048 % 128) (x / 262144 % 128) false false w (by omega) hc0 (by omega) (by omega) (by omega) (by omega) (by omega) (by omega) (by omega) (by omega)).mono fun e w' ⟨h1, h2⟩ => ⟨h1, kp_of_below h2⟩
        generalize pubI x c = y at HWd hmx
        generalize x / 32 % 64 = xo at HT HWd
        generalize x / 2048 % 128 = xr at HT HWd
        generalize x / 262144 % 128 = xz at HT HWd
        generalize (x / 16 % 2 == 1) = xm at HT HWd
        have HY := Lib.hid (And.intro y1 (And.intro y2 (And.intro y3 (And.intro y4 (And.intro y5 (And.intro y6 hmx))))))
        clear y1 y2 y3 y4 y5 y6 HR hbi hrch hloc ho hmx hx
        go_wp2_with fail
        refine (HT.out _).mono ?_
        rintro e w3 ⟨rfl, hk3⟩
        have hA : (w3.alloc (.cells (hc7 2 0 false xm xo xr xz) 40)).heap[w3.heap.size]? = some (.cells (hc7 2 0 false xm xo xr xz) 40 (0, 0)) := heap_alloc_new _ _
        have kA : Kp [] wr (w3.alloc (.cells (hc7 2 0 false xm xo xr xz) 40)) := hk3.alloc _
        have HZ3 := Lib.hid hk3.size
        go_upto_region 8 with (fail)
        generalize hbh : w3.heap.size = bh at *
        generalize w3.alloc (.cells (hc7 2 0 false xm xo xr xz) 40) = wA at *
        clear hbh hk3 cw cB
        have d0 := (cell_of_row hA 0).trans (show _ = some (.int .u8 2) from rfl)
        have d1 := (cell_of_row hA 1).trans (show _ = some (.int .u8 0) from rfl)
        have d3 := (cell_of_row hA 3).trans (show _ = some (.bool xm) from rfl)
        have f0 := free_of_row hA
        have hB : (((wA.setCell ⟨bh, 0, none⟩ (.int .u8 3)).setCell ⟨bh, 1, none⟩ (.int .u8 c)).setCell ⟨bh, 3, none⟩ (.bool false)).heap[bh]? = some (.cells (hc7 3 c false false xo xr xz) 40 (0, 0)) := by
          rw [heap_setCell_same _ _ _ _ _ _ (heap_setCell_same _ _ _ _ _ _ (heap_setCell_same _ _ _ _ _ _ hA))]; rfl
        have kB : Kp [bh] wA (((wA.setCell ⟨bh, 0, none⟩ (.int .u8 3)).setCell ⟨bh, 1, none⟩ (.int .u8 c)).setCell ⟨bh, 3, none⟩ (.bool false)) := (((Kp.refl _ _).setCell (.inl (by simp)) _).setCell (.inl (by simp)) _).setCell (.inl (by simp)) _
        have HBB := Lib.hid hB
        have KB := Lib.hid (kp_new kA kB HZ3.out)
        clear hA hB kA kB
        go_upto_region 11 with (fail)
        generalize ((wA.setCell ⟨bh, 0, none⟩ (.int .u8 3)).setCell ⟨bh, 1, none⟩ (.int .u8 c)).setCell ⟨bh, 3, none⟩ (.bool false) = wB at *
        clear d0 d1 d3 f0
        have e0 := (cell_of_row HBB.out 0).trans (show _ = some (.int .u8 3) from rfl)
        have e1 := (cell_of_row HBB.out 1).trans (show _ = some (.int .u8 c) from rfl)
        have e2 := (cell_of_row HBB.out 2).trans (show _ = some (.bool false) from rfl)
        have e3 := (cell_of_row HBB.out 3).trans (show _ = some (.bool false) from rfl)
        have e4 := (cell_of_row HBB.out 4).trans (show _ = some (.int .u8 xo) from rfl)
        have e5 := (cell_of_row HBB.out 5).trans (show _ = some (.int .u8 xr) from rfl)
        have e6 := (cell_of_row HBB.out 6).trans (show _ = some (.int .u8 xz) from rfl)
        go_wp2_with fail
        refine (HWd.out _).mono ?_
        rintro e w5 ⟨rfl, hk5⟩
        have K5 := Lib.hid (KB.out.trans hk5)
        have hOw := HY.out.1.keep K5.out (by simp)
        obtain ⟨c5, f5⟩ := hOw.cell (i := i) (by rw [HY.out.2.1]; exact hlt)
        have hbl5 := HY.out.2.2.2.2.1.keep K5.out (by simp)
        have F : Hid (∃ Y, Ow (w5.setCell ⟨ao, i, none⟩ (.int .u64 y)) ao Y ∧ Y.length = N ∧ (∀ j, j < i + 1 → Y.getD j 0 = mixW ws c (fun j => B.getD j false) j) ∧ (∀ j, i + 1 ≤ j → Y.getD j 0 = ws.getD j 0) ∧ Bl (w5.setCell ⟨ao, i, none⟩ (.int .u64 y)) ro B ∧ Kp [] w (w5.setCell ⟨ao, i, none⟩ (.int .u64 y))) := by
          obtain ⟨_, z2, z3, z4, _, z6, zm⟩ := HY.out
          refine Lib.hid ⟨_, hOw.set i (by rw [z2]; exact hlt) y, by simpa using z2, fun j hj => ?_, fun j hj => ?_, hbl5.keep ((Kp.refl [ao] _).setCell (.inl (by simp)) _) (by simpa using HRG.out), kp_new (z6.trans K5.out) ((Kp.refl [ao] _).setCell (.inl (by simp)) _) HG.out⟩
          · simp only [List.getD]
            by_cases hji : i = j
            · subst hji
              rw [List.getElem?_set_self (by rw [z2]; exact hlt)]
              exact zm.symm
            · rw [List.getElem?_set_ne hji]
              exact z3 j (by omega)
          · simp only [List.getD]
            rw [List.getElem?_set_ne (by omega)]
            exact z4 j (by omega)
        clear hOw hbl5 hk5 e0 e1 e2 e3 e4 e5 e6 HBB KB K5 HY HT HWd
        go_wp2_with fail
        go_roundg (N - (i + 1))
        exact ⟨i + 1, by omega, rfl, F⟩
        omega
    · obtain rfl : i = N := by omega
      have F : Hid (∃ Y P, Wd wr ao 0 cp Y ∧ Y.length = i ∧ (∀ j, P j = true ↔ (0 ≤ k ∧ Rch ws k.toNat j)) ∧ (∀ j, j < i → Y.getD j 0 = mixW ws c P j) ∧ Kp [] w wr) := by
        obtain ⟨Y, y1, y2, y3, y4, y5, y6⟩ := HR.out
        exact Lib.hid ⟨Y, fun j => B.getD j false, y1.wd, y2, HBR.out.2, y3, y6⟩
      clear HR
      go_wp2_with fail
      go_ret
      obtain ⟨Y, P, F⟩ := F.out
      exact ⟨ao, cp, Y, P, rfl, F⟩

end Go.Proofs.Ytdnlddjgjceogaa
