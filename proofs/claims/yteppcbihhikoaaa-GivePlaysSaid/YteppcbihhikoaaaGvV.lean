/- The walks of the document's own blocks (demesneref14), on: Waiting. Conditions: as each theorem states them. -/
import Derived.Test.YteppcbihhikoaaaGvU
import Derived.Test.YteppcbihhikoaaaGvG
namespace Go.Proofs.Yteppcbihhikoaaa
set_option linter.unusedVariables false
set_option linter.unusedSimpArgs false
set_option maxRecDepth 100000
open Go.RowKit

theorem rtake_part (x : Int) (w : World) (h0 : 0 ≤ x) (h1 : x < 18446744073709551616) :
    Calls Try.prog 21 #[.int .u64 x] w fun e w' => e = .returned (.tuple #[.agg #[.int .u8 (ek x), .int .u8 (ec x), .int .u8 (er x), .int .u8 (eo x)], .int .i64 (ee x)]) ∧ Kp [] w w' := by
  unfold ek ec er eo ee
  cases h : Tb.takeE x
  · exact Tb.rtake_none x w h0 h1 h
  · exact Tb.rtake_some x w h0 h

section
variable {n : Nat} {g : Gv} {v : Value} {base : Nat} {w w' : World}
/-- Another row may lie there. -/
theorem Bl.put2 {M M2 : Nat} {E E2 : List Int} {q cap q2 cap2 : Nat} {wr wx : World} (h : Bl w n M E base q cap wr) (k : Kp [] wr wx) (hr : Rw wx q2 cap2 E2) (hq : base ≤ q2) : Bl w n M2 E2 base q2 cap2 (wx.setRow w.heap.size (s3 n M2 q2 cap2)) := by
  have hl := lt_of_block h.ans
  have hb := k.row (by simp) h.box
  have hk : Kp [w.heap.size] wx (wx.setRow w.heap.size (s3 n M2 q2 cap2)) := (Kp.refl _ _).setRow (.inl (by simp)) _
  have hne : q2 ≠ w.heap.size := by
    intro e
    obtain ⟨⟨cur, hc, _⟩, _⟩ := hr
    rw [e] at hc
    have := hc.symm.trans hb
    simp at this
  exact ⟨setRow_heap _ _ _ _ _ _ hb, hk.row (by simp) (k.row (by simp) h.ans), hr.keep hk (by simpa using hne), hq, (h.kp.trans k).setRow (.inr (Nat.le_refl _)) _⟩

set_option maxHeartbeats 8000000 in
theorem r_Waiting (D : Dv n g v base w) (hok : g.Ok n) (hb : base ≤ w.heap.size) (o : Int) :
    Calls Try.prog 15 #[v, .int .u8 o] w fun e w' => ∃ v', e = .returned v' ∧ Dv n (waitG n o g n) v' base w' ∧ Kp [] w w' := by
  obtain ⟨q, cap, rfl, hrw, hq⟩ := D.ex
  have hn := D.hn
  have R0 := Lib.hid (two_rows w n g.M q cap)
  have HB0 : Hid (Bl w n g.M g.E base q cap ((w.alloc (.cells #[.int .i64 n, .int .u64 g.M, .slice (some ⟨q, 0, none⟩) n cap] 33)).alloc (.cells #[.int .i64 0, .int .u64 0, .slice none 0 0] 33))) :=
    Lib.hid ⟨R0.out.1, R0.out.2.1, hrw.keep R0.out.2.2 (by simp), hq, R0.out.2.2⟩
  have HOK := Lib.hid hok
  clear D hrw hq hok
  unfold sv
  go_enter Try.func15, Try.ntmps15
  go_wp2_with fail
  go_loopg [5] n (fun gg v5 wr => ∃ i : Nat, i + gg = n ∧ v5 = .int .i64 i ∧ Hid (∃ q cap, Bl w n (waitG n o g i).M (waitG n o g i).E base q cap wr))
  case atStart => exact ⟨0, by omega, rfl, Lib.hid ⟨q, cap, HB0.out⟩⟩
  case round =>
    obtain ⟨i, hi, rfl, HR⟩ := hrel
    clear HB0
    obtain ⟨q, cap, hB⟩ := HR.out
    have hgi := HOK.out.wait o i
    have HN : Hid (waitG n o g (i + 1) = turnG n o (waitG n o g i) i) := Lib.hid rfl
    obtain ⟨gj, hgj⟩ : ∃ gj, gj = waitG n o g (i + 1) := ⟨_, rfl⟩
    rw [← hgj] at HN
    have HG2 : Hid (waitG n o g (i + 1) = gj) := Lib.hid hgj.symm
    clear hgj
    by_cases hlt : i < n
    · generalize waitG n o g i = gi at HN hB hgi
      obtain ⟨x, hx⟩ : ∃ x, gi.E.getD i 0 = x := ⟨_, rfl⟩
      have hx0 := hgi.ent i
      rw [hx] at hx0
      have h6 := er_in hx0.1
      have HT := Lib.hid (fun w => rtake_part x w hx0.1 hx0.2)
      have HB := Lib.hid hB
      have c0 : wr.cell? ⟨w.heap.size, 0, none⟩ = some (.int .i64 n) := cell_of_row hB.box 0
      have c1 : wr.cell? ⟨w.heap.size, 1, none⟩ = some (.int .u64 gi.M) := cell_of_row hB.box 1
      have c2 : wr.cell? ⟨w.heap.size, 2, none⟩ = some (.slice (some ⟨q, 0, none⟩) n cap) := cell_of_row hB.box 2
      have c3 : wr.cell? ⟨q, i, none⟩ = some (.int .u64 x) := by have := hB.row.cell (i := i) (by rw [hgi.len]; exact hlt); rwa [hx] at this
      have HBk : Hid (∀ (w' : World) (bl : Int), waitsE x o = true → Tb.blkE (x % 8) (x / 32 % 4) = bl → Bl w n gi.M gi.E base q cap w' → Calls Try.prog 12 #[.agg #[.int .i64 n, .int .u64 gi.M, .slice (some ⟨q, 0, none⟩) n cap], .int .i64 i, .int .i64 bl] w' fun e w2 => ∃ v2, e = .returned v2 ∧ Dv n gj v2 base w2 ∧ Kp [] w' w2) := by
        refine Lib.hid fun w' bl hw hbl hB' => ?_
        have := r_Back (n := n) (g := gi) (v := sv n gi.M q cap) (base := base) (w := w') ⟨⟨q, cap, rfl, hB'.row, hB'.ge⟩, hgi.len, hn⟩ hgi.map (by have := hB'.kp.size; omega) i bl
        rw [HN.out]
        unfold turnG
        rw [hx, if_pos hw, hbl]
        exact this
      have HNo : Hid (waitsE x o = false → gj = gi) := Lib.hid fun hw => by
        rw [HN.out]; unfold turnG; rw [hx, hw]; rfl
      have HW : Hid (waitsE x o = decide (eo x = o ∧ (ek x = 4 ∨ ek x = 5))) := by
        refine Lib.hid ?_
        unfold waitsE eo ek
        cases Tb.takeE x <;> simp
      have HBL : Hid (waitsE x o = true → Tb.blkE (x % 8) (x / 32 % 4) = if ek x = 5 then er x else 1) := by
        refine Lib.hid ?_
        unfold waitsE ek er Tb.blkE
        cases Tb.takeE x
        · simp
        · simp only [Bool.true_and, decide_eq_true_eq, if_true]
          intro h
          split <;> split <;> omega
      clear hx hx0 hB HR HN hgi
      generalize waitsE x o = wt at HBk HNo HW HBL
      generalize Tb.blkE (x % 8) (x / 32 % 4) = bl at HBk HBL
      generalize ek x = xk at HT HW HBL
      generalize ec x = xc at HT
      generalize er x = xr at HT HBL h6
      generalize eo x = xo at HT HW
      go_wp2_with fail
      refine (HT.out _).mono ?_
      rintro e w2 ⟨rfl, hk2⟩
      have kA : Kp [] w2 (w2.alloc (.cells #[.int .u8 xk, .int .u8 xc, .int .u8 xr, .int .u8 xo] 36)) := (Kp.refl _ _).alloc _
      have HB3 := Lib.hid (HB.out.on (hk2.trans kA))
      have hb2 := hk2.row (by simp) HB.out.box
      have d0 : w2.cell? ⟨w.heap.size, 0, none⟩ = some (.int .i64 n) := cell_of_row hb2 0
      have d1 : w2.cell? ⟨w.heap.size, 1, none⟩ = some (.int .u64 gi.M) := cell_of_row hb2 1
      have d2 : w2.cell? ⟨w.heap.size, 2, none⟩ = some (.slice (some ⟨q, 0, none⟩) n cap) := cell_of_row hb2 2
      have hlt2 := lt_of_block hb2
      have hne2 : ¬ w.heap.size = w2.heap.size := by omega
      have hne3 : ¬ w2.heap.size = w.heap.size := by omega
      clear hb2
      have hB3 := HB3.out.box
      have EN := Lib.hid (heap_alloc_new w2 (.cells #[.int .u8 xk, .int .u8 xc, .int .u8 xr, .int .u8 xo] 36))
      clear hk2 kA c0 c1 c2 c3 HB EN
      rcases (by omega : (¬ xo = o) ∨ (xo = o ∧ xk = 4) ∨ (xo = o ∧ xk = 5) ∨ (xo = o ∧ ¬ xk = 4 ∧ ¬ xk = 5)) with h1 | ⟨h1, h2⟩ | ⟨h1, h2⟩ | ⟨h1, h2, h3⟩
      · go_wp2_with fail
        go_roundg (n - (i + 1))
        case rel => exact ⟨i + 1, by omega, by go_num, Lib.hid ⟨q, cap, by rw [HG2.out, HNo.out (by rw [HW.out]; simp; omega)]; exact HB3.out⟩⟩
        case measure => omega
      · subst h2
        subst h1
        go_wp2_with fail
        refine (HBk.out _ 1 (by rw [HW.out]; simp) (by rw [HBL.out (by rw [HW.out]; simp)]; rfl) HB3.out).mono ?_
        rintro e w4 ⟨v2, rfl, hD, hk4⟩
        obtain ⟨q2, cap2, rfl, hr2, hq2⟩ := hD.ex
        have HP := Lib.hid (HB3.out.put2 (M2 := gj.M) hk4 hr2 hq2)
        have B4 := Lib.hid (hk4.row (by simp) hB3)
        clear hD hk4 hr2 hq2 hB3 d0 d1 d2
        unfold sv
        go_wp2_with (refine wpList_store_row rfl 33 _ _ rfl w.heap.size _ rfl rfl 33 _ B4.out (by kernel_rfl) rfl (by simp [Value.oneCell']) ?_)
        go_roundg (n - (i + 1))
        case rel => exact ⟨i + 1, by omega, by go_num, Lib.hid ⟨q2, cap2, by rw [HG2.out]; exact HP.out⟩⟩
        case measure => omega
      · subst h2
        subst h1
        go_wp2_with fail
        refine (HBk.out _ xr (by rw [HW.out]; simp) (by rw [HBL.out (by rw [HW.out]; simp)]; rfl) HB3.out).mono ?_
        rintro e w4 ⟨v2, rfl, hD, hk4⟩
        obtain ⟨q2, cap2, rfl, hr2, hq2⟩ := hD.ex
        have HP := Lib.hid (HB3.out.put2 (M2 := gj.M) hk4 hr2 hq2)
        have B4 := Lib.hid (hk4.row (by simp) hB3)
        clear hD hk4 hr2 hq2 hB3 d0 d1 d2
        unfold sv
        go_wp2_with (refine wpList_store_row rfl 33 _ _ rfl w.heap.size _ rfl rfl 33 _ B4.out (by kernel_rfl) rfl (by simp [Value.oneCell']) ?_)
        go_roundg (n - (i + 1))
        case rel => exact ⟨i + 1, by omega, by go_num, Lib.hid ⟨q2, cap2, by rw [HG2.out]; exact HP.out⟩⟩
        case measure => omega
      · subst h1
        have h5 : (xk != 4 && xk != 5) = true := by simp [h2, h3]
        go_wp2_with fail
        go_roundg (n - (i + 1))
        case rel => exact ⟨i + 1, by omega, by go_num, Lib.hid ⟨q, cap, by rw [HG2.out, HNo.out (by rw [HW.out]; simp; omega)]; exact HB3.out⟩⟩
        case measure => omega
    · obtain rfl : i = n := by omega
      have c0 : wr.cell? ⟨w.heap.size, 0, none⟩ = some (.int .i64 i) := cell_of_row hB.box 0
      have c1 : wr.cell? ⟨w.heap.size, 1, none⟩ = some (.int .u64 (waitG i o g i).M) := cell_of_row hB.box 1
      have c2 : wr.cell? ⟨w.heap.size, 2, none⟩ = some (.slice (some ⟨q, 0, none⟩) i cap) := cell_of_row hB.box 2
      have HB := Lib.hid hB
      have HA := Lib.hid hB.ans
      have HL := Lib.hid hgi.len
      clear hB HR HN
      go_wp2_with (refine wpList_store_row rfl 33 _ _ rfl (w.heap.size + 1) _ rfl rfl 33 _ HA.out (by kernel_rfl) rfl (by simp [Value.oneCell']) ?_)
      have hl := HB.out.row.lt
      have hne : q ≠ w.heap.size + 1 := by
        intro e
        obtain ⟨⟨cur, hc, _⟩, _⟩ := HB.out.row
        rw [e] at hc
        have := hc.symm.trans HA.out
        simp at this
      have k3 := HB.out.kp.setRow (g := w.heap.size + 1) (.inr (by omega)) (s3 i (waitG i o g i).M q cap)
      have k4 : Kp [w.heap.size + 1] wr (wr.setRow (w.heap.size + 1) (s3 i (waitG i o g i).M q cap)) := (Kp.refl _ _).setRow (.inl (by simp)) _
      exact bodyPost_row rfl (w.heap.size + 1) 33 _ (0, 0) _ rfl rfl (setRow_heap _ _ _ _ _ _ HA.out) Try.underlying33 rfl (by kernel_rfl) ⟨_, rfl, ⟨⟨q, cap, rfl, HB.out.row.keep k4 (by simpa using hne), HB.out.ge⟩, HL.out, hn⟩, k3⟩
end
end Go.Proofs.Yteppcbihhikoaaa
