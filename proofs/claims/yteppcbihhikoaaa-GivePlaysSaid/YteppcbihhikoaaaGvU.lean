/- The walks of the document's own blocks (demesneref14), on: Back. Conditions: as each theorem states them. -/
import Derived.Test.YteppcbihhikoaaaGvT
import Derived.IntWalk
namespace Go.Proofs.Yteppcbihhikoaaa
set_option linter.unusedVariables false
set_option linter.unusedSimpArgs false
set_option maxRecDepth 100000
open Go.RowKit

section
variable {n : Nat} {g : Gv} {v : Value} {base : Nat} {w w' : World}

/-- The boxes of a method of the blocks': theirs, the answer's. -/
theorem two_rows (w : World) (n M q cap : Nat) : ((w.alloc (.cells #[.int .i64 n, .int .u64 M, .slice (some ⟨q, 0, none⟩) n cap] 33)).alloc (.cells #[.int .i64 0, .int .u64 0, .slice none 0 0] 33)).heap[w.heap.size]? = some (.cells (s3 n M q cap) 33 (0, 0)) ∧ ((w.alloc (.cells #[.int .i64 n, .int .u64 M, .slice (some ⟨q, 0, none⟩) n cap] 33)).alloc (.cells #[.int .i64 0, .int .u64 0, .slice none 0 0] 33)).heap[w.heap.size + 1]? = some (.cells z3 33 (0, 0)) ∧ Kp [] w ((w.alloc (.cells #[.int .i64 n, .int .u64 M, .slice (some ⟨q, 0, none⟩) n cap] 33)).alloc (.cells #[.int .i64 0, .int .u64 0, .slice none 0 0] 33)) := by
  have z1 := World.size_alloc w (.cells #[.int .i64 n, .int .u64 M, .slice (some ⟨q, 0, none⟩) n cap] 33)
  refine ⟨?_, ?_, ((Kp.refl [] w).alloc _).alloc _⟩
  · exact ((Kp.refl [] _).alloc _).row (by simp) (heap_alloc_new _ _)
  · rw [← z1]; exact heap_alloc_new _ _

theorem r_Back_no (D : Dv n g v base w) (b r' : Int) (h : runG n b r' = false) :
    Calls Try.prog 12 #[v, .int .i64 b, .int .i64 r'] w fun e w' => ∃ v', e = .returned v' ∧ Dv n g v' base w' ∧ Kp [] w w' := by
  obtain ⟨q, cap, rfl, hr', hq⟩ := D.ex
  have HD := Lib.hid D
  have R0 := Lib.hid (two_rows w n g.M q cap)
  have hn := D.hn
  have h' := runG_not.1 h
  rcases (by omega : r' < 1 ∨ (1 ≤ r' ∧ 3 < r') ∨ (1 ≤ r' ∧ r' ≤ 3 ∧ b < 0) ∨ (1 ≤ r' ∧ r' ≤ 3 ∧ 0 ≤ b ∧ (n : Int) - r' < b)) with h1 | ⟨h1, h2⟩ | ⟨h1, h2, h3⟩ | ⟨h1, h2, h3, h4⟩
  all_goals
    clear h h' D hr'
    unfold sv
    try (have hb : decide ((n : Int) - r' < b) = true := by simp; omega)
    go_enter Try.func12, Try.ntmps12
    go_wp2_with (refine wpList_store_row rfl 33 _ _ rfl (w.heap.size + 1) _ rfl rfl 33 _ R0.out.2.1 (by kernel_rfl) rfl (by simp [Value.oneCell']) ?_)
    have k2 := R0.out.2.2.setRow (g := w.heap.size + 1) (.inr (by omega)) (s3 n g.M q cap)
    exact bodyPost_row rfl (w.heap.size + 1) 33 _ (0, 0) _ rfl rfl (setRow_heap _ _ _ _ _ _ R0.out.2.1) Try.underlying33 rfl (by kernel_rfl) ⟨_, rfl, HD.out.on k2, k2⟩

/-- What Back's loop holds on to. -/
structure Bl (w : World) (n : Nat) (M : Nat) (E : List Int) (base : Nat) (q cap : Nat) (wr : World) : Prop where
  box : wr.heap[w.heap.size]? = some (.cells (s3 n M q cap) 33 (0, 0))
  ans : wr.heap[w.heap.size + 1]? = some (.cells z3 33 (0, 0))
  row : Rw wr q cap E
  ge : base ≤ q
  kp : Kp [] w wr
theorem Bl.on {M : Nat} {E : List Int} {q cap : Nat} {wr wx : World} (h : Bl w n M E base q cap wr) (k : Kp [] wr wx) : Bl w n M E base q cap wx :=
  ⟨k.row (by simp) h.box, k.row (by simp) h.ans, h.row.keep k (by simp), h.ge, h.kp.trans k⟩
/-- Another row lies there. -/
theorem Bl.put {M : Nat} {E E2 : List Int} {q cap q2 cap2 : Nat} {wr wx : World} (h : Bl w n M E base q cap wr) (k : Kp [] wr wx) (hr : Rw wx q2 cap2 E2) (hq : wr.heap.size ≤ q2) (hb : base ≤ w.heap.size) : Bl w n M E2 base q2 cap2 (wx.setRow w.heap.size (s3 n M q2 cap2)) := by
  have hl := lt_of_block h.ans
  have hk : Kp [w.heap.size] wx (wx.setRow w.heap.size (s3 n M q2 cap2)) := (Kp.refl _ _).setRow (.inl (by simp)) _
  exact ⟨setRow_heap _ _ _ _ _ _ (k.row (by simp) h.box), hk.row (by simp) (k.row (by simp) h.ans), hr.keep hk (by simp; omega), by omega, (h.kp.trans k).setRow (.inr (Nat.le_refl _)) _⟩

set_option maxHeartbeats 4000000 in
theorem r_Back_yes (D : Dv n g v base w) (hM : g.M < 18446744073709551616) (hb : base ≤ w.heap.size) (b r' : Nat) (h1 : 1 ≤ r') (h3 : r' ≤ 3) (hbn : b + r' ≤ n) :
    Calls Try.prog 12 #[v, .int .i64 b, .int .i64 r'] w fun e w' => ∃ v', e = .returned v' ∧ Dv n ⟨giveM g.M b r', zer g.E b r'⟩ v' base w' ∧ Kp [] w w' := by
  obtain ⟨q, cap, rfl, hrw, hq⟩ := D.ex
  have hn := D.hn
  have R0 := Lib.hid (two_rows w n g.M q cap)
  have HB0 : Hid (Bl w n g.M (zer g.E b 0) base q cap ((w.alloc (.cells #[.int .i64 n, .int .u64 g.M, .slice (some ⟨q, 0, none⟩) n cap] 33)).alloc (.cells #[.int .i64 0, .int .u64 0, .slice none 0 0] 33))) :=
    Lib.hid ⟨R0.out.1, R0.out.2.1, by rw [zer_none]; exact hrw.keep R0.out.2.2 (by simp), hq, R0.out.2.2⟩
  have HRS : Hid (∀ (i : Nat) (q cap : Nat) (wr : World), i < r' → Bl w n g.M (zer g.E b i) base q cap wr → Calls Try.prog 38 #[.agg #[.int .i64 n, .int .u64 g.M, .slice (some ⟨q, 0, none⟩) n cap], .int .i64 ((b : Int) + i), .int .u64 0] wr fun e w' =>
      ∃ q' cap', e = .returned (.agg #[.int .i64 n, .int .u64 g.M, .slice (some ⟨q', 0, none⟩) n cap']) ∧ Rw w' q' cap' (zer g.E b (i + 1)) ∧ wr.heap.size ≤ q' ∧ Kp [] wr w') :=
    Lib.hid fun i q cap wr hi hB => by
      have := r_set q cap (zer g.E b i) g.M hB.row (by rw [zer_len]; exact D.len) hn.1 hn.2 (b + i) (by omega) ((b : Int) + i) 0 (by push_cast; rfl)
      rw [zer_up] at this
      exact this
  have HIS := Lib.hid (fun w => Bm.ris_is g.M b r' false _ w hM rfl)
  have HWI := Lib.hid (fun w => Bm.rwith_is g.M b r' (Bm.setN g.M b r' true) true w hM h1 h3 (by omega) rfl)
  have HD : Hid (∀ (M' : Nat) (q cap : Nat) (wx : World), Rw wx q cap (zer g.E b r') → base ≤ q → Dv n ⟨M', zer g.E b r'⟩ (.agg (s3 n M' q cap)) base wx) := Lib.hid fun M' q cap wx h1 h2 => ⟨⟨q, cap, rfl, h1, h2⟩, by rw [zer_len]; exact D.len, hn⟩
  have HGM : Hid (giveM g.M b r' = if Bm.isR g.M b r' false then Bm.setN g.M b r' true else g.M) := Lib.hid rfl
  clear D hrw hq
  generalize giveM g.M b r' = M2 at HGM ⊢
  generalize Bm.isR g.M b r' false = ir at HIS HGM
  generalize Bm.setN g.M b r' true = M1 at HWI HGM
  unfold sv
  go_enter Try.func12, Try.ntmps12
  go_wp2_with fail
  go_loopg [7] r' (fun gg v7 wr => ∃ i : Nat, i + gg = r' ∧ v7 = .int .i64 i ∧ Hid (∃ q cap, Bl w n g.M (zer g.E b i) base q cap wr))
  case atStart => exact ⟨0, by omega, rfl, Lib.hid ⟨q, cap, HB0.out⟩⟩
  case round =>
    obtain ⟨i, hi, rfl, HR⟩ := hrel
    clear HB0
    obtain ⟨q, cap, hB⟩ := HR.out
    have HB := Lib.hid hB
    have c0 : wr.cell? ⟨w.heap.size, 0, none⟩ = some (.int .i64 n) := cell_of_row hB.box 0
    have c1 : wr.cell? ⟨w.heap.size, 1, none⟩ = some (.int .u64 g.M) := cell_of_row hB.box 1
    have c2 : wr.cell? ⟨w.heap.size, 2, none⟩ = some (.slice (some ⟨q, 0, none⟩) n cap) := cell_of_row hB.box 2
    clear hB HR
    by_cases hlt : i < r'
    · have HS := Lib.hid (HRS.out i q cap wr hlt HB.out)
      have e1 := IntWalk.i64_in ((b : Int) + i) (by omega)
      go_wp2_with fail
      refine HS.out.mono ?_
      rintro e w2 ⟨q2, cap2, rfl, hr2, hq2, hk2⟩
      have B2 := Lib.hid (hk2.row (by simp) HB.out.box)
      have HP := Lib.hid (HB.out.put hk2 hr2 hq2 hb)
      clear hr2 hq2 hk2
      go_wp2_with (refine wpList_store_row rfl 33 _ _ rfl w.heap.size _ rfl rfl 33 _ B2.out (by kernel_rfl) rfl (by simp [Value.oneCell']) ?_)
      go_roundg (r' - (i + 1))
      case rel => exact ⟨i + 1, by omega, by go_num, Lib.hid ⟨q2, cap2, HP.out⟩⟩
      case measure => omega
    · obtain rfl : i = r' := by omega
      go_wp2_with fail
      refine (HIS.out _).mono ?_
      rintro e w2 ⟨rfl, hk2⟩
      have HB2 := Lib.hid (HB.out.on hk2)
      clear hk2 HB
      have d0 : w2.cell? ⟨w.heap.size, 0, none⟩ = some (.int .i64 n) := cell_of_row HB2.out.box 0
      have d1 : w2.cell? ⟨w.heap.size, 1, none⟩ = some (.int .u64 g.M) := cell_of_row HB2.out.box 1
      have d2 : w2.cell? ⟨w.heap.size, 2, none⟩ = some (.slice (some ⟨q, 0, none⟩) n cap) := cell_of_row HB2.out.box 2
      cases ir
      · have hM2 : M2 = g.M := by have := HGM.out; simpa using this
        have HA := Lib.hid HB2.out.ans
        go_wp2_with (refine wpList_store_row rfl 33 _ _ rfl (w.heap.size + 1) _ rfl rfl 33 _ HA.out (by kernel_rfl) rfl (by simp [Value.oneCell']) ?_)
        have hl := HB2.out.row.lt
        have k3 := HB2.out.kp.setRow (g := w.heap.size + 1) (.inr (by omega)) (s3 n g.M q cap)
        have k4 : Kp [w.heap.size + 1] w2 (w2.setRow (w.heap.size + 1) (s3 n g.M q cap)) := (Kp.refl _ _).setRow (.inl (by simp)) _
        have hne : q ≠ w.heap.size + 1 := by
          intro e
          obtain ⟨⟨cur, hc, _⟩, _⟩ := HB2.out.row
          rw [e] at hc
          have := hc.symm.trans HA.out
          simp at this
        subst hM2
        exact bodyPost_row rfl (w.heap.size + 1) 33 _ (0, 0) _ rfl rfl (setRow_heap _ _ _ _ _ _ HA.out) Try.underlying33 rfl (by kernel_rfl) ⟨_, rfl, HD.out _ q cap _ (HB2.out.row.keep k4 (by simpa using hne)) HB2.out.ge, k3⟩
      · have hM2 : M2 = M1 := by have := HGM.out; simpa using this
        subst hM2
        go_wp2_with fail
        refine (HWI.out _).mono ?_
        rintro e w3 ⟨rfl, hk3⟩
        have HB3 := Lib.hid (HB2.out.on hk3)
        have k5 : Kp [w.heap.size] w3 (w3.setCell ⟨w.heap.size, 1, none⟩ (.int .u64 M2)) := (Kp.refl _ _).setCell (.inl (by simp)) _
        have hne0 : q ≠ w.heap.size := by
          intro e
          obtain ⟨⟨cur, hc, _⟩, _⟩ := HB3.out.row
          rw [e] at hc
          have := hc.symm.trans HB3.out.box
          simp at this
        have hne : q ≠ w.heap.size + 1 := by
          intro e
          obtain ⟨⟨cur, hc, _⟩, _⟩ := HB3.out.row
          rw [e] at hc
          have := hc.symm.trans HB3.out.ans
          simp at this
        have HA := Lib.hid (k5.row (by simp) HB3.out.ans)
        have HQ := Lib.hid (HB3.out.row.keep k5 (by simpa using hne0))
        have HK := Lib.hid (HB3.out.kp.setCell (p := ⟨w.heap.size, 1, none⟩) (.inr (Nat.le_refl _)) (.int .u64 M2))
        have f1 := free_of_row HB3.out.box 1
        have d0 : w3.cell? ⟨w.heap.size, 0, none⟩ = some (.int .i64 n) := cell_of_row HB3.out.box 0
        have d1 : w3.cell? ⟨w.heap.size, 1, none⟩ = some (.int .u64 g.M) := cell_of_row HB3.out.box 1
        have d2 : w3.cell? ⟨w.heap.size, 2, none⟩ = some (.slice (some ⟨q, 0, none⟩) n cap) := cell_of_row HB3.out.box 2
        clear hk3 k5
        go_wp2_with (refine wpList_store_row rfl 33 _ _ rfl (w.heap.size + 1) _ rfl rfl 33 _ HA.out (by kernel_rfl) rfl (by simp [Value.oneCell']) ?_)
        have k3 := HK.out.setRow (g := w.heap.size + 1) (.inr (by omega)) (s3 n M2 q cap)
        have k4 : Kp [w.heap.size + 1] (w3.setCell ⟨w.heap.size, 1, none⟩ (.int .u64 M2)) ((w3.setCell ⟨w.heap.size, 1, none⟩ (.int .u64 M2)).setRow (w.heap.size + 1) (s3 n M2 q cap)) := (Kp.refl _ _).setRow (.inl (by simp)) _
        exact bodyPost_row rfl (w.heap.size + 1) 33 _ (0, 0) _ rfl rfl (setRow_heap _ _ _ _ _ _ HA.out) Try.underlying33 rfl (by kernel_rfl) ⟨_, rfl, HD.out _ q cap _ (HQ.out.keep k4 (by simpa using hne)) HB3.out.ge, k3⟩

/-- Back, whatever the block and the run. -/
theorem r_Back (D : Dv n g v base w) (hM : g.M < 18446744073709551616) (hb : base ≤ w.heap.size) (b r' : Int) :
    Calls Try.prog 12 #[v, .int .i64 b, .int .i64 r'] w fun e w' => ∃ v', e = .returned v' ∧ Dv n (backG n g b r') v' base w' ∧ Kp [] w w' := by
  cases hr : runG n b r'
  · rw [backG_out hr]
    exact r_Back_no D b r' hr
  · have hr' := runG_iff.1 hr
    obtain ⟨b', rfl⟩ := Int.eq_ofNat_of_zero_le (show 0 ≤ b by omega)
    obtain ⟨r2, rfl⟩ := Int.eq_ofNat_of_zero_le (show 0 ≤ r' by omega)
    rw [backG_in (by omega) (by omega) (by omega)]
    exact r_Back_yes D hM hb b' r2 (by omega) (by omega) (by omega)
end
end Go.Proofs.Yteppcbihhikoaaa
