/- The walk of the document's own Decode. Conditions: none. -/
import Derived.Test.YtclegfpgmhajmaaScH
import Derived.RegionTactic
namespace Go.Proofs.Ytclegfpgmhajmaa
set_option linter.unusedVariables false
set_option linter.unusedSimpArgs false
open Go.RowKit

theorem drop_len (l : List UInt8) (k : Nat) : (l.drop k).length = l.length - k := by simp
theorem drop_getD (l : List UInt8) (k i : Nat) : (l.drop k).getD i 0 = l.getD (k + i) 0 := by simp [List.getD, List.getElem?_drop]

theorem rdec_long (w : World) (s : ByteArray) (h : 4000 < s.size) : Calls Try.prog 15 #[.string s] w (DecP 31 w s.data.toList) := by
  have HL : Hid (4000 < s.data.toList.length) := Lib.hid (by rw [← Lib.size_eq]; exact h)
  go_enter Try.func15, Try.ntmps15
  go_wp2_with fail
  go_ret2
  exact DecP.long HL.out (Kp.refl _ _)

set_option maxRecDepth 100000 in
set_option maxHeartbeats 8000000 in
theorem rdec_main (w : World) (s : ByteArray) (h : s.size ≤ 4000) : Calls Try.prog 15 #[.string s] w (DecP 31 w s.data.toList) := by
  have HL : Hid (s.data.toList.length ≤ 4000) := Lib.hid (by rw [← Lib.size_eq]; exact h)
  have H0 : Hid (DcX 31 w s.data.toList [] s.data.toList (.slice none 0 0) 0 w) := Lib.hid ⟨Er.nil _ _ _, allMay_nil, rfl, Kp.refl _ _⟩
  generalize hsl : s.data.toList = sl at HL H0 ⊢
  have HS := Lib.hid hsl
  clear hsl
  go_enter Try.func15, Try.ntmps15
  go_wp2_with fail
  go_loopg [4, 5] s.size (fun gg vl vk wr => ∃ (k : Nat) (L : List Ent) (bo : Option Addr) (n c : Nat), vk = .int .i64 (k : Int) ∧ vl = .slice bo n c ∧ k + gg = s.size ∧ n ≤ 4000 ∧ Hid (DcX 31 w sl L (sl.drop k) (.slice bo n c) n wr))
  case atStart => exact ⟨0, [], none, 0, 0, rfl, rfl, by omega, by omega, H0⟩
  case round =>
    clear H0
    obtain ⟨k, L, bo, n, c, rfl, rfl, hkg, hn4, H⟩ := hrel
    by_cases hk : k < s.size
    · have hne : sl.drop k ≠ [] := by
        intro h
        have := congrArg List.length h
        rw [drop_len, ← HS.out, ← Lib.size_eq] at this
        simp at this; omega
      have HNE := Lib.hid hne
      clear hne
      by_cases e2 : s.size < k + 2
      · have e2' : (s.size : Int) ≤ (k : Int) + 1 := by omega
        have HB : Hid (Bad (sl.drop k)) := Lib.hid (.inl (by rw [drop_len, ← HS.out, ← Lib.size_eq]; omega))
        go_wp2_with fail
        go_ret2
        exact DecP.bad HL.out (H.out.bad HNE.out HB.out) H.out.kp
      · have e2' : ¬ ((s.size : Int) ≤ (k : Int) + 1) := by omega
        have l0 : (k : Int) < (s.size : Int) := by omega
        have l1 : (k : Int) + 1 < (s.size : Int) := by omega
        have l1' : k + 1 < s.size := by omega
        go_wp2_with fail
        have w0 : (0 : Int) ≤ (k : Int) + 1 := by omega
        have w1 : IntKind.i64.wrap ((k : Int) + 1) = (k : Int) + 1 := IntWalk.i64_in _ (by omega)
        have w2 : ((k : Int) + 1).toNat = k + 1 := by omega
        go_region
        obtain ⟨x0, hx0⟩ : ∃ x : Int, ((s[k]'hk).toNat : Int) = x := ⟨_, rfl⟩
        obtain ⟨x1, hx1⟩ : ∃ x : Int, ((s[k + 1]'l1').toNat : Int) = x := ⟨_, rfl⟩
        rw [hx0, hx1]
        clear w0 w1 w2
        have y0 : x0 = u (sl.getD k 0) := by rw [← HS.out, byteD s k hk, ← hx0]; rfl
        have y1 : x1 = u (sl.getD (k + 1) 0) := by rw [← HS.out, byteD s (k + 1) l1', ← hx1]; rfl
        have Y0 := Lib.hid y0
        have Y1 := Lib.hid y1
        have r0 : 0 ≤ x0 ∧ x0 < 256 := by rw [y0]; exact u_lt _
        have r1 : 0 ≤ x1 ∧ x1 < 256 := by rw [y1]; exact u_lt _
        obtain ⟨r00, r01⟩ := r0
        obtain ⟨r10, r11⟩ := r1
        clear hx0 hx1 y0 y1
        have hm3 := argsN_le x1
        have hms : argsN x1 = 0 ∨ argsN x1 = 1 ∨ argsN x1 = 2 ∨ argsN x1 = 3 := by omega
        clear hm3
        rcases hms with hm | hm | hm | hm
        · have HM := Lib.hid hm
          have HEn : Hid ((entAt (sl.drop k)).n = 0) := Lib.hid (by rw [entAt_n, drop_getD, ← Y1.out]; exact hm)
          clear hm
          go_wp2_with fail
          refine (rargs_is _ x1 0 r10 r11 HM.out).mono ?_
          rintro r w2 ⟨hr, hk2⟩
          obtain rfl : r = .returned (.int .i64 0) := hr
          have b2 := hk2.row (by simp) (heap_alloc_new wr (.cells #[.int .u8 x0, .int .u8 x1, .int .u8 0, .int .u8 0, .int .u8 0] 31))
          have k2 := ((Kp.refl [] wr).alloc _).drew.trans hk2
          have hz2 : wr.heap.size < w2.heap.size := lt_of_block b2
          have B2 := Lib.hid b2
          have K2 := Lib.hid k2
          clear hk2 k2
          by_cases e3 : s.size < k + 2 + 0
          · exact absurd e3 (by omega)
          · have e3' : ¬ ((s.size : Int) < (k : Int) + 2) := by omega
            clear b2
            go_upto_region 18 with (fail)
            have b3 := B2.out
            have k3 := K2.out
            obtain ⟨w3, rfl⟩ : ∃ w3 : World, w3 = w2 := ⟨_, rfl⟩
            have H3 := Lib.hid (H.out.on k3)
            obtain ⟨c0, c1, c2, c3, c4⟩ := cells5 b3
            have hz3 : wr.heap.size < w3.heap.size := lt_of_block b3
            have B3 := Lib.hid b3
            clear b3 k3
            obtain ⟨ev, hev⟩ : ∃ ev, ev = entAt (sl.drop k) := ⟨_, rfl⟩
            have hec : ev = ⟨sl.getD k 0, sl.getD (k + 1) 0, 0, 0, 0⟩ := by
              rw [hev]; unfold entAt; simp only [drop_getD]; rw [← Y1.out, HM.out]; rfl
            have hcs : ev.cells.toArray = #[.int .u8 x0, .int .u8 x1, .int .u8 0, .int .u8 0, .int .u8 0] := by
              rw [hec, Y0.out, Y1.out]; rfl
            have hmy : Hid (mayB x0 x1 0 0 0 = ev.may) := Lib.hid (by rw [hec, Y0.out, Y1.out]; rfl)
            have HCS := Lib.hid hcs
            have HEV := Lib.hid hev
            clear hcs hec hev
            cases hmb : ev.may
            · rw [hmb] at hmy
              have HB : Hid (Bad (sl.drop k)) := Lib.hid (.inr (.inr (by rw [← HEV.out]; exact hmb)))
              clear hmb
              go_wp2_with fail
              refine (rmay_is _ _ _ _ _ _ r00 r01 r10 r11 false hmy.out).mono ?_
              rintro r w4 ⟨rfl, hk⟩
              have H4 := Lib.hid (H3.out.on hk)
              clear hk c0 c1 c2 c3 c4
              go_wp2_with fail
              go_ret2
              exact DecP.bad HL.out (H4.out.bad HNE.out HB.out) H4.out.kp
            · rw [hmb] at hmy
              have HY := Lib.hid hmb
              clear hmb
              go_wp2_with fail
              refine (rmay_is _ _ _ _ _ _ r00 r01 r10 r11 true hmy.out).mono ?_
              rintro r w4 ⟨rfl, hk⟩
              have b4 := hk.row (by simp) B3.out
              have H4 := Lib.hid (H3.out.on hk)
              clear hk c0 c1 c2 c3 c4
              obtain ⟨c0, c1, c2, c3, c4⟩ := cells5 b4
              have hz4 : wr.heap.size < w4.heap.size := lt_of_block b4
              clear b4
              have H4' := H4.out.on ((Kp.refl [] w4).alloc (.cells #[.int .u8 x0, .int .u8 x1, .int .u8 0, .int .u8 0, .int .u8 0] 31))
              obtain ⟨g5, cap5, w5, hrun, hE5, hk5⟩ := run_snoc (ty := 22) Try.underlying22 info_ref H4'.row H4'.kp.size w4.heap.size ev _ HCS.out.symm (heap_alloc_new _ _) (by omega)
              have H5 : Hid (DcX 31 w sl (L ++ [ev]) (sl.drop (k + 2 + 0)) (.slice (some ⟨g5, 0, none⟩) (n + 1) cap5) (n + 1) w5) := Lib.hid (by
                have hl : 2 + (entAt (sl.drop k)).n ≤ (sl.drop k).length := by rw [HEn.out, drop_len, ← HS.out, ← Lib.size_eq]; omega
                have := H4'.next hl (by rw [← HEV.out]; exact HY.out) (by rw [← HEV.out]; exact hE5) hk5
                rw [HEn.out, ← HEV.out, List.drop_drop, ← Nat.add_assoc] at this
                exact this)
              have hle5 := H5.out.le HL.out
              have HRun := Lib.hid hrun
              clear hrun hE5 hk5 H4'
              go_wp2_with (at_builtin; refine wpList_append_eq rfl (.tmp 62) (.tmp 64) 22 rfl _ _ _ rfl rfl HRun.out ?_)
              clear HRun c0 c1 c2 c3 c4 H3 H4 H
              go_roundg (gk - (2 + 0))
              case measure => omega
              case rel => exact ⟨k + 2 + 0, _, _, _, _, by go_num, rfl, by omega, hle5, H5⟩
        · have HM := Lib.hid hm
          have HEn : Hid ((entAt (sl.drop k)).n = 1) := Lib.hid (by rw [entAt_n, drop_getD, ← Y1.out]; exact hm)
          clear hm
          go_wp2_with fail
          refine (rargs_is _ x1 1 r10 r11 HM.out).mono ?_
          rintro r w2 ⟨hr, hk2⟩
          obtain rfl : r = .returned (.int .i64 1) := hr
          have b2 := hk2.row (by simp) (heap_alloc_new wr (.cells #[.int .u8 x0, .int .u8 x1, .int .u8 0, .int .u8 0, .int .u8 0] 31))
          have k2 := ((Kp.refl [] wr).alloc _).drew.trans hk2
          have hz2 : wr.heap.size < w2.heap.size := lt_of_block b2
          have B2 := Lib.hid b2
          have K2 := Lib.hid k2
          clear hk2 k2
          by_cases e3 : s.size < k + 2 + 1
          · have e3' : (s.size : Int) < (k : Int) + 2 + 1 := by omega
            have HB : Hid (Bad (sl.drop k)) := Lib.hid (.inr (.inl (by rw [HEn.out, drop_len, ← HS.out, ← Lib.size_eq]; omega)))
            clear b2
            go_wp2_with fail
            go_ret2
            exact DecP.bad HL.out (H.out.bad HNE.out HB.out) (H.out.kp.trans K2.out)
          · have e3' : ¬ ((s.size : Int) < (k : Int) + 2 + 1) := by omega
            obtain ⟨c0, c1, c2, c3, c4⟩ := cells5 b2
            have f2 := free_of_row b2 2
            have f3 := free_of_row b2 3
            have f4 := free_of_row b2 4
            have l2' : k + 2 < s.size := by omega
            have l2 : (k : Int) + 2 < (s.size : Int) := by omega
            have t2 : ((k : Int) + 2).toNat = k + 2 := by omega
            clear b2
            go_upto_region 18 with (fail)
            obtain ⟨x2, hx2⟩ : ∃ x : Int, ((s[k + 2]'l2').toNat : Int) = x := ⟨_, rfl⟩
            rw [hx2]
            have y2 : x2 = u (sl.getD (k + 2) 0) := by rw [← HS.out, byteD s (k + 2) l2', ← hx2]; rfl
            have Y2 := Lib.hid y2
            clear hx2 y2 t2 l2
            have q2 := heap_setCell_same w2 wr.heap.size 2 _ _ (.int .u8 x2) B2.out
            have b32 : (w2.setCell ⟨wr.heap.size, 2, none⟩ (.int .u8 x2)).heap[wr.heap.size]? = some (.cells #[.int .u8 x0, .int .u8 x1, .int .u8 x2, .int .u8 0, .int .u8 0] 31 (0, 0)) := q2
            clear q2
            have b3 := b32
            clear b32
            have k3 : Kp [] wr (w2.setCell ⟨wr.heap.size, 2, none⟩ (.int .u8 x2)) := (K2.out.setCell (p := ⟨wr.heap.size, 2, none⟩) (.inr (Nat.le_refl _)) _)
            obtain ⟨w3, hw3⟩ : ∃ w3 : World, w3 = (w2.setCell ⟨wr.heap.size, 2, none⟩ (.int .u8 x2)) := ⟨_, rfl⟩
            rw [← hw3] at b3 k3 ⊢
            clear hw3 c0 c1 c2 c3 c4 f2 f3 f4
            have H3 := Lib.hid (H.out.on k3)
            obtain ⟨c0, c1, c2, c3, c4⟩ := cells5 b3
            have hz3 : wr.heap.size < w3.heap.size := lt_of_block b3
            have B3 := Lib.hid b3
            clear b3 k3
            obtain ⟨ev, hev⟩ : ∃ ev, ev = entAt (sl.drop k) := ⟨_, rfl⟩
            have hec : ev = ⟨sl.getD k 0, sl.getD (k + 1) 0, sl.getD (k + 2) 0, 0, 0⟩ := by
              rw [hev]; unfold entAt; simp only [drop_getD]; rw [← Y1.out, HM.out]; rfl
            have hcs : ev.cells.toArray = #[.int .u8 x0, .int .u8 x1, .int .u8 x2, .int .u8 0, .int .u8 0] := by
              rw [hec, Y0.out, Y1.out, Y2.out]; rfl
            have hmy : Hid (mayB x0 x1 x2 0 0 = ev.may) := Lib.hid (by rw [hec, Y0.out, Y1.out, Y2.out]; rfl)
            have HCS := Lib.hid hcs
            have HEV := Lib.hid hev
            clear hcs hec hev
            cases hmb : ev.may
            · rw [hmb] at hmy
              have HB : Hid (Bad (sl.drop k)) := Lib.hid (.inr (.inr (by rw [← HEV.out]; exact hmb)))
              clear hmb
              go_wp2_with fail
              refine (rmay_is _ _ _ _ _ _ r00 r01 r10 r11 false hmy.out).mono ?_
              rintro r w4 ⟨rfl, hk⟩
              have H4 := Lib.hid (H3.out.on hk)
              clear hk c0 c1 c2 c3 c4
              go_wp2_with fail
              go_ret2
              exact DecP.bad HL.out (H4.out.bad HNE.out HB.out) H4.out.kp
            · rw [hmb] at hmy
              have HY := Lib.hid hmb
              clear hmb
              go_wp2_with fail
              refine (rmay_is _ _ _ _ _ _ r00 r01 r10 r11 true hmy.out).mono ?_
              rintro r w4 ⟨rfl, hk⟩
              have b4 := hk.row (by simp) B3.out
              have H4 := Lib.hid (H3.out.on hk)
              clear hk c0 c1 c2 c3 c4
              obtain ⟨c0, c1, c2, c3, c4⟩ := cells5 b4
              have hz4 : wr.heap.size < w4.heap.size := lt_of_block b4
              clear b4
              have H4' := H4.out.on ((Kp.refl [] w4).alloc (.cells #[.int .u8 x0, .int .u8 x1, .int .u8 x2, .int .u8 0, .int .u8 0] 31))
              obtain ⟨g5, cap5, w5, hrun, hE5, hk5⟩ := run_snoc (ty := 22) Try.underlying22 info_ref H4'.row H4'.kp.size w4.heap.size ev _ HCS.out.symm (heap_alloc_new _ _) (by omega)
              have H5 : Hid (DcX 31 w sl (L ++ [ev]) (sl.drop (k + 2 + 1)) (.slice (some ⟨g5, 0, none⟩) (n + 1) cap5) (n + 1) w5) := Lib.hid (by
                have hl : 2 + (entAt (sl.drop k)).n ≤ (sl.drop k).length := by rw [HEn.out, drop_len, ← HS.out, ← Lib.size_eq]; omega
                have := H4'.next hl (by rw [← HEV.out]; exact HY.out) (by rw [← HEV.out]; exact hE5) hk5
                rw [HEn.out, ← HEV.out, List.drop_drop, ← Nat.add_assoc] at this
                exact this)
              have hle5 := H5.out.le HL.out
              have HRun := Lib.hid hrun
              clear hrun hE5 hk5 H4'
              go_wp2_with (at_builtin; refine wpList_append_eq rfl (.tmp 62) (.tmp 64) 22 rfl _ _ _ rfl rfl HRun.out ?_)
              clear HRun c0 c1 c2 c3 c4 H3 H4 H
              go_roundg (gk - (2 + 1))
              case measure => omega
              case rel => exact ⟨k + 2 + 1, _, _, _, _, by go_num, rfl, by omega, hle5, H5⟩
        · have HM := Lib.hid hm
          have HEn : Hid ((entAt (sl.drop k)).n = 2) := Lib.hid (by rw [entAt_n, drop_getD, ← Y1.out]; exact hm)
          clear hm
          go_wp2_with fail
          refine (rargs_is _ x1 2 r10 r11 HM.out).mono ?_
          rintro r w2 ⟨hr, hk2⟩
          obtain rfl : r = .returned (.int .i64 2) := hr
          have b2 := hk2.row (by simp) (heap_alloc_new wr (.cells #[.int .u8 x0, .int .u8 x1, .int .u8 0, .int .u8 0, .int .u8 0] 31))
          have k2 := ((Kp.refl [] wr).alloc _).drew.trans hk2
          have hz2 : wr.heap.size < w2.heap.size := lt_of_block b2
          have B2 := Lib.hid b2
          have K2 := Lib.hid k2
          clear hk2 k2
          by_cases e3 : s.size < k + 2 + 2
          · have e3' : (s.size : Int) < (k : Int) + 2 + 2 := by omega
            have HB : Hid (Bad (sl.drop k)) := Lib.hid (.inr (.inl (by rw [HEn.out, drop_len, ← HS.out, ← Lib.size_eq]; omega)))
            clear b2
            go_wp2_with fail
            go_ret2
            exact DecP.bad HL.out (H.out.bad HNE.out HB.out) (H.out.kp.trans K2.out)
          · have e3' : ¬ ((s.size : Int) < (k : Int) + 2 + 2) := by omega
            obtain ⟨c0, c1, c2, c3, c4⟩ := cells5 b2
            have f2 := free_of_row b2 2
            have f3 := free_of_row b2 3
            have f4 := free_of_row b2 4
            have l2' : k + 2 < s.size := by omega
            have l2 : (k : Int) + 2 < (s.size : Int) := by omega
            have t2 : ((k : Int) + 2).toNat = k + 2 := by omega
            have l3' : k + 3 < s.size := by omega
            have l3 : (k : Int) + 3 < (s.size : Int) := by omega
            have t3 : ((k : Int) + 3).toNat = k + 3 := by omega
            clear b2
            go_upto_region 18 with (fail)
            obtain ⟨x2, hx2⟩ : ∃ x : Int, ((s[k + 2]'l2').toNat : Int) = x := ⟨_, rfl⟩
            obtain ⟨x3, hx3⟩ : ∃ x : Int, ((s[k + 3]'l3').toNat : Int) = x := ⟨_, rfl⟩
            rw [hx2, hx3]
            have y2 : x2 = u (sl.getD (k + 2) 0) := by rw [← HS.out, byteD s (k + 2) l2', ← hx2]; rfl
            have Y2 := Lib.hid y2
            have y3 : x3 = u (sl.getD (k + 3) 0) := by rw [← HS.out, byteD s (k + 3) l3', ← hx3]; rfl
            have Y3 := Lib.hid y3
            clear hx2 y2 t2 l2 hx3 y3 t3 l3
            have q2 := heap_setCell_same w2 wr.heap.size 2 _ _ (.int .u8 x2) B2.out
            have b32 : (w2.setCell ⟨wr.heap.size, 2, none⟩ (.int .u8 x2)).heap[wr.heap.size]? = some (.cells #[.int .u8 x0, .int .u8 x1, .int .u8 x2, .int .u8 0, .int .u8 0] 31 (0, 0)) := q2
            clear q2
            have q3 := heap_setCell_same (w2.setCell ⟨wr.heap.size, 2, none⟩ (.int .u8 x2)) wr.heap.size 3 _ _ (.int .u8 x3) b32
            have b33 : ((w2.setCell ⟨wr.heap.size, 2, none⟩ (.int .u8 x2)).setCell ⟨wr.heap.size, 3, none⟩ (.int .u8 x3)).heap[wr.heap.size]? = some (.cells #[.int .u8 x0, .int .u8 x1, .int .u8 x2, .int .u8 x3, .int .u8 0] 31 (0, 0)) := q3
            clear q3
            have b3 := b33
            clear b32 b33
            have k3 : Kp [] wr ((w2.setCell ⟨wr.heap.size, 2, none⟩ (.int .u8 x2)).setCell ⟨wr.heap.size, 3, none⟩ (.int .u8 x3)) := ((K2.out.setCell (p := ⟨wr.heap.size, 2, none⟩) (.inr (Nat.le_refl _)) _).setCell (p := ⟨wr.heap.size, 3, none⟩) (.inr (Nat.le_refl _)) _)
            obtain ⟨w3, hw3⟩ : ∃ w3 : World, w3 = ((w2.setCell ⟨wr.heap.size, 2, none⟩ (.int .u8 x2)).setCell ⟨wr.heap.size, 3, none⟩ (.int .u8 x3)) := ⟨_, rfl⟩
            rw [← hw3] at b3 k3 ⊢
            clear hw3 c0 c1 c2 c3 c4 f2 f3 f4
            have H3 := Lib.hid (H.out.on k3)
            obtain ⟨c0, c1, c2, c3, c4⟩ := cells5 b3
            have hz3 : wr.heap.size < w3.heap.size := lt_of_block b3
            have B3 := Lib.hid b3
            clear b3 k3
            obtain ⟨ev, hev⟩ : ∃ ev, ev = entAt (sl.drop k) := ⟨_, rfl⟩
            have hec : ev = ⟨sl.getD k 0, sl.getD (k + 1) 0, sl.getD (k + 2) 0, sl.getD (k + 3) 0, 0⟩ := by
              rw [hev]; unfold entAt; simp only [drop_getD]; rw [← Y1.out, HM.out]; rfl
            have hcs : ev.cells.toArray = #[.int .u8 x0, .int .u8 x1, .int .u8 x2, .int .u8 x3, .int .u8 0] := by
              rw [hec, Y0.out, Y1.out, Y2.out, Y3.out]; rfl
            have hmy : Hid (mayB x0 x1 x2 x3 0 = ev.may) := Lib.hid (by rw [hec, Y0.out, Y1.out, Y2.out, Y3.out]; rfl)
            have HCS := Lib.hid hcs
            have HEV := Lib.hid hev
            clear hcs hec hev
            cases hmb : ev.may
            · rw [hmb] at hmy
              have HB : Hid (Bad (sl.drop k)) := Lib.hid (.inr (.inr (by rw [← HEV.out]; exact hmb)))
              clear hmb
              go_wp2_with fail
              refine (rmay_is _ _ _ _ _ _ r00 r01 r10 r11 false hmy.out).mono ?_
              rintro r w4 ⟨rfl, hk⟩
              have H4 := Lib.hid (H3.out.on hk)
              clear hk c0 c1 c2 c3 c4
              go_wp2_with fail
              go_ret2
              exact DecP.bad HL.out (H4.out.bad HNE.out HB.out) H4.out.kp
            · rw [hmb] at hmy
              have HY := Lib.hid hmb
              clear hmb
              go_wp2_with fail
              refine (rmay_is _ _ _ _ _ _ r00 r01 r10 r11 true hmy.out).mono ?_
              rintro r w4 ⟨rfl, hk⟩
              have b4 := hk.row (by simp) B3.out
              have H4 := Lib.hid (H3.out.on hk)
              clear hk c0 c1 c2 c3 c4
              obtain ⟨c0, c1, c2, c3, c4⟩ := cells5 b4
              have hz4 : wr.heap.size < w4.heap.size := lt_of_block b4
              clear b4
              have H4' := H4.out.on ((Kp.refl [] w4).alloc (.cells #[.int .u8 x0, .int .u8 x1, .int .u8 x2, .int .u8 x3, .int .u8 0] 31))
              obtain ⟨g5, cap5, w5, hrun, hE5, hk5⟩ := run_snoc (ty := 22) Try.underlying22 info_ref H4'.row H4'.kp.size w4.heap.size ev _ HCS.out.symm (heap_alloc_new _ _) (by omega)
              have H5 : Hid (DcX 31 w sl (L ++ [ev]) (sl.drop (k + 2 + 2)) (.slice (some ⟨g5, 0, none⟩) (n + 1) cap5) (n + 1) w5) := Lib.hid (by
                have hl : 2 + (entAt (sl.drop k)).n ≤ (sl.drop k).length := by rw [HEn.out, drop_len, ← HS.out, ← Lib.size_eq]; omega
                have := H4'.next hl (by rw [← HEV.out]; exact HY.out) (by rw [← HEV.out]; exact hE5) hk5
                rw [HEn.out, ← HEV.out, List.drop_drop, ← Nat.add_assoc] at this
                exact this)
              have hle5 := H5.out.le HL.out
              have HRun := Lib.hid hrun
              clear hrun hE5 hk5 H4'
              go_wp2_with (at_builtin; refine wpList_append_eq rfl (.tmp 62) (.tmp 64) 22 rfl _ _ _ rfl rfl HRun.out ?_)
              clear HRun c0 c1 c2 c3 c4 H3 H4 H
              go_roundg (gk - (2 + 2))
              case measure => omega
              case rel => exact ⟨k + 2 + 2, _, _, _, _, by go_num, rfl, by omega, hle5, H5⟩
        · have HM := Lib.hid hm
          have HEn : Hid ((entAt (sl.drop k)).n = 3) := Lib.hid (by rw [entAt_n, drop_getD, ← Y1.out]; exact hm)
          clear hm
          go_wp2_with fail
          refine (rargs_is _ x1 3 r10 r11 HM.out).mono ?_
          rintro r w2 ⟨hr, hk2⟩
          obtain rfl : r = .returned (.int .i64 3) := hr
          have b2 := hk2.row (by simp) (heap_alloc_new wr (.cells #[.int .u8 x0, .int .u8 x1, .int .u8 0, .int .u8 0, .int .u8 0] 31))
          have k2 := ((Kp.refl [] wr).alloc _).drew.trans hk2
          have hz2 : wr.heap.size < w2.heap.size := lt_of_block b2
          have B2 := Lib.hid b2
          have K2 := Lib.hid k2
          clear hk2 k2
          by_cases e3 : s.size < k + 2 + 3
          · have e3' : (s.size : Int) < (k : Int) + 2 + 3 := by omega
            have HB : Hid (Bad (sl.drop k)) := Lib.hid (.inr (.inl (by rw [HEn.out, drop_len, ← HS.out, ← Lib.size_eq]; omega)))
            clear b2
            go_wp2_with fail
            go_ret2
            exact DecP.bad HL.out (H.out.bad HNE.out HB.out) (H.out.kp.trans K2.out)
          · have e3' : ¬ ((s.size : Int) < (k : Int) + 2 + 3) := by omega
            obtain ⟨c0, c1, c2, c3, c4⟩ := cells5 b2
            have f2 := free_of_row b2 2
            have f3 := free_of_row b2 3
            have f4 := free_of_row b2 4
            have l2' : k + 2 < s.size := by omega
            have l2 : (k : Int) + 2 < (s.size : Int) := by omega
            have t2 : ((k : Int) + 2).toNat = k + 2 := by omega
            have l3' : k + 3 < s.size := by omega
            have l3 : (k : Int) + 3 < (s.size : Int) := by omega
            have t3 : ((k : Int) + 3).toNat = k + 3 := by omega
            have l4' : k + 4 < s.size := by omega
            have l4 : (k : Int) + 4 < (s.size : Int) := by omega
            have t4 : ((k : Int) + 4).toNat = k + 4 := by omega
            clear b2
            go_upto_region 18 with (fail)
            obtain ⟨x2, hx2⟩ : ∃ x : Int, ((s[k + 2]'l2').toNat : Int) = x := ⟨_, rfl⟩
            obtain ⟨x3, hx3⟩ : ∃ x : Int, ((s[k + 3]'l3').toNat : Int) = x := ⟨_, rfl⟩
            obtain ⟨x4, hx4⟩ : ∃ x : Int, ((s[k + 4]'l4').toNat : Int) = x := ⟨_, rfl⟩
            rw [hx2, hx3, hx4]
            have y2 : x2 = u (sl.getD (k + 2) 0) := by rw [← HS.out, byteD s (k + 2) l2', ← hx2]; rfl
            have Y2 := Lib.hid y2
            have y3 : x3 = u (sl.getD (k + 3) 0) := by rw [← HS.out, byteD s (k + 3) l3', ← hx3]; rfl
            have Y3 := Lib.hid y3
            have y4 : x4 = u (sl.getD (k + 4) 0) := by rw [← HS.out, byteD s (k + 4) l4', ← hx4]; rfl
            have Y4 := Lib.hid y4
            clear hx2 y2 t2 l2 hx3 y3 t3 l3 hx4 y4 t4 l4
            have q2 := heap_setCell_same w2 wr.heap.size 2 _ _ (.int .u8 x2) B2.out
            have b32 : (w2.setCell ⟨wr.heap.size, 2, none⟩ (.int .u8 x2)).heap[wr.heap.size]? = some (.cells #[.int .u8 x0, .int .u8 x1, .int .u8 x2, .int .u8 0, .int .u8 0] 31 (0, 0)) := q2
            clear q2
            have q3 := heap_setCell_same (w2.setCell ⟨wr.heap.size, 2, none⟩ (.int .u8 x2)) wr.heap.size 3 _ _ (.int .u8 x3) b32
            have b33 : ((w2.setCell ⟨wr.heap.size, 2, none⟩ (.int .u8 x2)).setCell ⟨wr.heap.size, 3, none⟩ (.int .u8 x3)).heap[wr.heap.size]? = some (.cells #[.int .u8 x0, .int .u8 x1, .int .u8 x2, .int .u8 x3, .int .u8 0] 31 (0, 0)) := q3
            clear q3
            have q4 := heap_setCell_same ((w2.setCell ⟨wr.heap.size, 2, none⟩ (.int .u8 x2)).setCell ⟨wr.heap.size, 3, none⟩ (.int .u8 x3)) wr.heap.size 4 _ _ (.int .u8 x4) b33
            have b34 : (((w2.setCell ⟨wr.heap.size, 2, none⟩ (.int .u8 x2)).setCell ⟨wr.heap.size, 3, none⟩ (.int .u8 x3)).setCell ⟨wr.heap.size, 4, none⟩ (.int .u8 x4)).heap[wr.heap.size]? = some (.cells #[.int .u8 x0, .int .u8 x1, .int .u8 x2, .int .u8 x3, .int .u8 x4] 31 (0, 0)) := q4
            clear q4
            have b3 := b34
            clear b32 b33 b34
            have k3 : Kp [] wr (((w2.setCell ⟨wr.heap.size, 2, none⟩ (.int .u8 x2)).setCell ⟨wr.heap.size, 3, none⟩ (.int .u8 x3)).setCell ⟨wr.heap.size, 4, none⟩ (.int .u8 x4)) := (((K2.out.setCell (p := ⟨wr.heap.size, 2, none⟩) (.inr (Nat.le_refl _)) _).setCell (p := ⟨wr.heap.size, 3, none⟩) (.inr (Nat.le_refl _)) _).setCell (p := ⟨wr.heap.size, 4, none⟩) (.inr (Nat.le_refl _)) _)
            obtain ⟨w3, hw3⟩ : ∃ w3 : World, w3 = (((w2.setCell ⟨wr.heap.size, 2, none⟩ (.int .u8 x2)).setCell ⟨wr.heap.size, 3, none⟩ (.int .u8 x3)).setCell ⟨wr.heap.size, 4, none⟩ (.int .u8 x4)) := ⟨_, rfl⟩
            rw [← hw3] at b3 k3 ⊢
            clear hw3 c0 c1 c2 c3 c4 f2 f3 f4
            have H3 := Lib.hid (H.out.on k3)
            obtain ⟨c0, c1, c2, c3, c4⟩ := cells5 b3
            have hz3 : wr.heap.size < w3.heap.size := lt_of_block b3
            have B3 := Lib.hid b3
            clear b3 k3
            obtain ⟨ev, hev⟩ : ∃ ev, ev = entAt (sl.drop k) := ⟨_, rfl⟩
            have hec : ev = ⟨sl.getD k 0, sl.getD (k + 1) 0, sl.getD (k + 2) 0, sl.getD (k + 3) 0, sl.getD (k + 4) 0⟩ := by
              rw [hev]; unfold entAt; simp only [drop_getD]; rw [← Y1.out, HM.out]; rfl
            have hcs : ev.cells.toArray = #[.int .u8 x0, .int .u8 x1, .int .u8 x2, .int .u8 x3, .int .u8 x4] := by
              rw [hec, Y0.out, Y1.out, Y2.out, Y3.out, Y4.out]; rfl
            have hmy : Hid (mayB x0 x1 x2 x3 x4 = ev.may) := Lib.hid (by rw [hec, Y0.out, Y1.out, Y2.out, Y3.out, Y4.out]; rfl)
            have HCS := Lib.hid hcs
            have HEV := Lib.hid hev
            clear hcs hec hev
            cases hmb : ev.may
            · rw [hmb] at hmy
              have HB : Hid (Bad (sl.drop k)) := Lib.hid (.inr (.inr (by rw [← HEV.out]; exact hmb)))
              clear hmb
              go_wp2_with fail
              refine (rmay_is _ _ _ _ _ _ r00 r01 r10 r11 false hmy.out).mono ?_
              rintro r w4 ⟨rfl, hk⟩
              have H4 := Lib.hid (H3.out.on hk)
              clear hk c0 c1 c2 c3 c4
              go_wp2_with fail
              go_ret2
              exact DecP.bad HL.out (H4.out.bad HNE.out HB.out) H4.out.kp
            · rw [hmb] at hmy
              have HY := Lib.hid hmb
              clear hmb
              go_wp2_with fail
              refine (rmay_is _ _ _ _ _ _ r00 r01 r10 r11 true hmy.out).mono ?_
              rintro r w4 ⟨rfl, hk⟩
              have b4 := hk.row (by simp) B3.out
              have H4 := Lib.hid (H3.out.on hk)
              clear hk c0 c1 c2 c3 c4
              obtain ⟨c0, c1, c2, c3, c4⟩ := cells5 b4
              have hz4 : wr.heap.size < w4.heap.size := lt_of_block b4
              clear b4
              have H4' := H4.out.on ((Kp.refl [] w4).alloc (.cells #[.int .u8 x0, .int .u8 x1, .int .u8 x2, .int .u8 x3, .int .u8 x4] 31))
              obtain ⟨g5, cap5, w5, hrun, hE5, hk5⟩ := run_snoc (ty := 22) Try.underlying22 info_ref H4'.row H4'.kp.size w4.heap.size ev _ HCS.out.symm (heap_alloc_new _ _) (by omega)
              have H5 : Hid (DcX 31 w sl (L ++ [ev]) (sl.drop (k + 2 + 3)) (.slice (some ⟨g5, 0, none⟩) (n + 1) cap5) (n + 1) w5) := Lib.hid (by
                have hl : 2 + (entAt (sl.drop k)).n ≤ (sl.drop k).length := by rw [HEn.out, drop_len, ← HS.out, ← Lib.size_eq]; omega
                have := H4'.next hl (by rw [← HEV.out]; exact HY.out) (by rw [← HEV.out]; exact hE5) hk5
                rw [HEn.out, ← HEV.out, List.drop_drop, ← Nat.add_assoc] at this
                exact this)
              have hle5 := H5.out.le HL.out
              have HRun := Lib.hid hrun
              clear hrun hE5 hk5 H4'
              go_wp2_with (at_builtin; refine wpList_append_eq rfl (.tmp 62) (.tmp 64) 22 rfl _ _ _ rfl rfl HRun.out ?_)
              clear HRun c0 c1 c2 c3 c4 H3 H4 H
              go_roundg (gk - (2 + 3))
              case measure => omega
              case rel => exact ⟨k + 2 + 3, _, _, _, _, by go_num, rfl, by omega, hle5, H5⟩
    · have hk' : ¬ ((k : Int) < (s.size : Int)) := by omega
      have hnil : sl.drop k = [] := List.drop_eq_nil_of_le (by rw [← HS.out, ← Lib.size_eq]; omega)
      have HI : Hid (Is sl L) := Lib.hid (by have := H.out; rw [hnil] at this; exact this.ok)
      clear hnil
      go_wp2_with fail
      go_ret2
      exact DecP.ok HL.out HI.out H.out.row H.out.kp

theorem rdec_any (w : World) (s : ByteArray) : Calls Try.prog 15 #[.string s] w (DecP 31 w s.data.toList) := by
  by_cases h : 4000 < s.size
  · exact rdec_long w s h
  · exact rdec_main w s (by omega)

end Go.Proofs.Ytclegfpgmhajmaa
