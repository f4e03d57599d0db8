/- The walks of the document's own blocks (demesneref14), on: Set, Back. Conditions: as each theorem states them. -/
import Derived.Test.YteppcbihhikoaaaGvS
namespace Go.Proofs.Yteppcbihhikoaaa
set_option linter.unusedVariables false
set_option linter.unusedSimpArgs false
set_option maxRecDepth 100000
open Go.RowKit

section
variable {n : Nat} {g : Gv} {v : Value} {base : Nat} {w w' : World}

/-- The blocks' box, with its cells. -/
def s3 (n M q cap : Nat) : Array Value := #[.int .i64 n, .int .u64 M, .slice (some ⟨q, 0, none⟩) n cap]
def z3 : Array Value := #[.int .i64 0, .int .u64 0, .slice none 0 0]

/-- The boxes of Set: the blocks', the entry's, the answer's. -/
def tw3 (w : World) (n M q cap : Nat) (k c r' o : Int) : World := ((w.alloc (.cells #[.int .i64 n, .int .u64 M, .slice (some ⟨q, 0, none⟩) n cap] 33)).alloc (.cells #[.int .u8 k, .int .u8 c, .int .u8 r', .int .u8 o] 36)).alloc (.cells #[.int .i64 0, .int .u64 0, .slice none 0 0] 33)
theorem tw3_kp (w : World) (n M q cap : Nat) (k c r' o : Int) : Kp [] w (tw3 w n M q cap k c r' o) := (((Kp.refl [] w).alloc _).alloc _).alloc _
theorem tw3_rows (w : World) (n M q cap : Nat) (k c r' o : Int) : (tw3 w n M q cap k c r' o).heap[w.heap.size]? = some (.cells (s3 n M q cap) 33 (0, 0)) ∧ (tw3 w n M q cap k c r' o).heap[w.heap.size + 1]? = some (.cells #[.int .u8 k, .int .u8 c, .int .u8 r', .int .u8 o] 36 (0, 0)) ∧ (tw3 w n M q cap k c r' o).heap[w.heap.size + 1 + 1]? = some (.cells z3 33 (0, 0)) := by
  have z1 := World.size_alloc w (.cells #[.int .i64 n, .int .u64 M, .slice (some ⟨q, 0, none⟩) n cap] 33)
  have z2 := World.size_alloc (w.alloc (.cells #[.int .i64 n, .int .u64 M, .slice (some ⟨q, 0, none⟩) n cap] 33)) (.cells #[.int .u8 k, .int .u8 c, .int .u8 r', .int .u8 o] 36)
  refine ⟨?_, ?_, ?_⟩
  · exact (((Kp.refl [] _).alloc _).alloc _).row (by simp) (heap_alloc_new _ _)
  · exact ((Kp.refl [] _).alloc _).row (by simp) (by rw [← z1]; exact heap_alloc_new _ _)
  · rw [← z1, ← z2]; exact heap_alloc_new _ _

/-- What is no block's, or may not be, is not set. -/
theorem r_Set_no (D : Dv n g v base w) (b k c r' o : Int) (hk : 0 ≤ k) (hc : 0 ≤ c) (hr : 0 ≤ r') (ho : 0 ≤ o) (h : (decide (0 ≤ b ∧ b < n) && Tb.mayE k c r' o) = false) :
    Calls Try.prog 18 #[v, .int .i64 b, .agg #[.int .u8 k, .int .u8 c, .int .u8 r', .int .u8 o]] w fun e w' => ∃ v', e = .returned v' ∧ Dv n g v' base w' ∧ Kp [] w w' := by
  obtain ⟨q, cap, rfl, hr', hq⟩ := D.ex
  have HD := Lib.hid D
  have K0 := Lib.hid (tw3_kp w n g.M q cap k c r' o)
  have R0 := Lib.hid (tw3_rows w n g.M q cap k c r' o)
  have hn := D.hn
  unfold tw3 at K0 R0
  rcases (by omega : b < 0 ∨ (0 ≤ b ∧ (n : Int) ≤ b) ∨ (0 ≤ b ∧ b < n)) with h1 | ⟨h1, h2⟩ | ⟨h1, h2⟩
  · clear h D hr'
    unfold sv
    go_enter Try.func18, Try.ntmps18
    go_wp2_with (refine wpList_store_row rfl 33 _ _ rfl (w.heap.size + 1 + 1) _ rfl rfl 33 _ R0.out.2.2 (by kernel_rfl) rfl (by simp [Value.oneCell']) ?_)
    have k2 := K0.out.setRow (g := w.heap.size + 1 + 1) (.inr (by omega)) (s3 n g.M q cap)
    exact bodyPost_row rfl (w.heap.size + 1 + 1) 33 _ (0, 0) _ rfl rfl (setRow_heap _ _ _ _ _ _ R0.out.2.2) Try.underlying33 rfl (by kernel_rfl) ⟨_, rfl, HD.out.on k2, k2⟩
  · clear h D hr'
    unfold sv
    have hb : decide ((n : Int) ≤ b) = true := by simp [h2]
    go_enter Try.func18, Try.ntmps18
    go_wp2_with (refine wpList_store_row rfl 33 _ _ rfl (w.heap.size + 1 + 1) _ rfl rfl 33 _ R0.out.2.2 (by kernel_rfl) rfl (by simp [Value.oneCell']) ?_)
    have k2 := K0.out.setRow (g := w.heap.size + 1 + 1) (.inr (by omega)) (s3 n g.M q cap)
    exact bodyPost_row rfl (w.heap.size + 1 + 1) 33 _ (0, 0) _ rfl rfl (setRow_heap _ _ _ _ _ _ R0.out.2.2) Try.underlying33 rfl (by kernel_rfl) ⟨_, rfl, HD.out.on k2, k2⟩
  · have hm : Tb.mayE k c r' o = false := by
      rw [decide_eq_true (show 0 ≤ b ∧ b < n from ⟨h1, h2⟩)] at h
      simpa using h
    have HM := Lib.hid (fun w => Tb.rmay_is k c r' o false w hk hc hr ho hm)
    clear h D hr' hm
    unfold sv
    go_enter Try.func18, Try.ntmps18
    go_wp2_with fail
    refine (HM.out _).mono ?_
    rintro e w1 ⟨rfl, hk1⟩
    have B1 := hk1.row (by simp) R0.out.1
    have B2 := Lib.hid (hk1.row (by simp) R0.out.2.2)
    have K1 := Lib.hid (K0.out.trans hk1)
    have c0 : w1.cell? ⟨w.heap.size, 0, none⟩ = some (.int .i64 n) := cell_of_row B1 0
    have c1 : w1.cell? ⟨w.heap.size, 1, none⟩ = some (.int .u64 g.M) := cell_of_row B1 1
    have c2 : w1.cell? ⟨w.heap.size, 2, none⟩ = some (.slice (some ⟨q, 0, none⟩) n cap) := cell_of_row B1 2
    clear hk1 B1
    go_wp2_with (refine wpList_store_row rfl 33 _ _ rfl (w.heap.size + 1 + 1) _ rfl rfl 33 _ B2.out (by kernel_rfl) rfl (by simp [Value.oneCell']) ?_)
    have k2 := K1.out.setRow (g := w.heap.size + 1 + 1) (.inr (by omega)) (s3 n g.M q cap)
    exact bodyPost_row rfl (w.heap.size + 1 + 1) 33 _ (0, 0) _ rfl rfl (setRow_heap _ _ _ _ _ _ B2.out) Try.underlying33 rfl (by kernel_rfl) ⟨_, rfl, HD.out.on k2, k2⟩

set_option maxHeartbeats 2000000 in
theorem r_Set_yes (D : Dv n g v base w) (hb : base ≤ w.heap.size) (b : Nat) (k c r' o : Int) (hk : 0 ≤ k) (hc : 0 ≤ c) (hr : 0 ≤ r') (ho : 0 ≤ o) (hbn : b < n) (hm : Tb.mayE k c r' o = true) :
    Calls Try.prog 18 #[v, .int .i64 b, .agg #[.int .u8 k, .int .u8 c, .int .u8 r', .int .u8 o]] w fun e w' => ∃ v', e = .returned v' ∧ Dv n ⟨g.M, g.E.set b (Tb.wordE k c r' o)⟩ v' base w' ∧ Kp [] w w' := by
  obtain ⟨q, cap, rfl, hrw, hq⟩ := D.ex
  have hmm := Tb.mayE_iff.1 hm
  have HM := Lib.hid (fun w => Tb.rmay_is k c r' o true w hk hc hr ho hm)
  have HW := Lib.hid (fun w => Tb.rword_is k c r' o w hk hc hr ho (by omega) (by omega) (by omega) (by omega))
  have HRS := Lib.hid (fun (x : Int) (w' : World) (hk' : Kp [] w w') => r_set q cap g.E g.M (hrw.keep hk' (by simp)) D.len D.hn.1 D.hn.2 b hbn b x rfl)
  have HN := Lib.hid (And.intro D.len D.hn)
  have K0 := Lib.hid (tw3_kp w n g.M q cap k c r' o)
  have R0 := Lib.hid (tw3_rows w n g.M q cap k c r' o)
  unfold tw3 at K0 R0
  clear D hrw hmm hm
  generalize Tb.wordE k c r' o = x at HW ⊢
  unfold sv
  go_enter Try.func18, Try.ntmps18
  go_wp2_with fail
  refine (HM.out _).mono ?_
  rintro e w1 ⟨rfl, hk1⟩
  have B1 := hk1.row (by simp) R0.out.1
  have B2 := hk1.row (by simp) R0.out.2.1
  have HB := Lib.hid (And.intro B1 (And.intro B2 (hk1.row (by simp) R0.out.2.2)))
  have K1 := Lib.hid (K0.out.trans hk1)
  have c0 : w1.cell? ⟨w.heap.size, 0, none⟩ = some (.int .i64 n) := cell_of_row B1 0
  have c1 : w1.cell? ⟨w.heap.size, 1, none⟩ = some (.int .u64 g.M) := cell_of_row B1 1
  have c2 : w1.cell? ⟨w.heap.size, 2, none⟩ = some (.slice (some ⟨q, 0, none⟩) n cap) := cell_of_row B1 2
  have d0 : w1.cell? ⟨w.heap.size + 1, 0, none⟩ = some (.int .u8 k) := cell_of_row B2 0
  have d1 : w1.cell? ⟨w.heap.size + 1, 1, none⟩ = some (.int .u8 c) := cell_of_row B2 1
  have d2 : w1.cell? ⟨w.heap.size + 1, 2, none⟩ = some (.int .u8 r') := cell_of_row B2 2
  have d3 : w1.cell? ⟨w.heap.size + 1, 3, none⟩ = some (.int .u8 o) := cell_of_row B2 3
  clear hk1 B1 B2
  go_wp2_with fail
  go_region_with (first
    | (go_at_call 43; refine (HW.out _).mono ?_; rintro e w2 ⟨rfl, hk2⟩
       replace hk2 := hk2.drew_l
       have B1 := hk2.row (by simp) HB.out.1
       have B3 := hk2.row (by simp) HB.out.2.2
       have e0 : w2.cell? ⟨w.heap.size, 0, none⟩ = some (.int .i64 n) := cell_of_row B1 0
       have e1 : w2.cell? ⟨w.heap.size, 1, none⟩ = some (.int .u64 g.M) := cell_of_row B1 1
       have e2 : w2.cell? ⟨w.heap.size, 2, none⟩ = some (.slice (some ⟨q, 0, none⟩) n cap) := cell_of_row B1 2
       have R2 := Lib.hid B3
       have K2 := Lib.hid (K1.out.trans hk2)
       clear hk2 B1 B3)
    | (go_at_call 38; refine (HRS.out _ _ K2.out).mono ?_; rintro e w3 ⟨q3, cap3, rfl, hr3, hq3, hk3⟩
       have B3 := hk3.row (by simp) R2.out
       have g0 : w3.cell? ⟨w.heap.size + 1 + 1, 0, none⟩ = some (.int .i64 0) := cell_of_row B3 0
       have g1 : w3.cell? ⟨w.heap.size + 1 + 1, 1, none⟩ = some (.int .u64 0) := cell_of_row B3 1
       have g2 : w3.cell? ⟨w.heap.size + 1 + 1, 2, none⟩ = some (.slice none 0 0) := cell_of_row B3 2
       have g3 := free_of_row B3 0
       have g4 := free_of_row B3 1
       have g5 := free_of_row B3 2
       have hz := K2.out.size
       have hl := lt_of_block R2.out
       have R3 := Lib.hid B3
       have HR3 := Lib.hid (And.intro hr3 hq3)
       have K3 := Lib.hid (K2.out.trans hk3)
       clear B3 hr3 hq3 hk3))
  all_goals
    go_wp2_with fail
    have hq3 := HR3.out.2
    exact bodyPost_row rfl (w.heap.size + 1 + 1) 33 _ (0, 0) _ rfl rfl (put3_row (.int .i64 n) (.int .u64 g.M) (.slice (some ⟨q3, 0, none⟩) n cap3) R3.out) Try.underlying33 rfl (by kernel_rfl)
      ⟨_, rfl, ⟨⟨q3, cap3, rfl, HR3.out.1.keep (put3_kp _ _ _ _ _) (by simp; omega), by omega⟩, by simpa using HN.out.1, HN.out.2⟩, kp_own K3.out (put3_kp _ _ _ _ _) (by omega)⟩

/-- Set, whatever the block and the entry. -/
theorem r_Set (D : Dv n g v base w) (hb : base ≤ w.heap.size) (b k c r' o : Int) (hk : 0 ≤ k) (hc : 0 ≤ c) (hr : 0 ≤ r') (ho : 0 ≤ o) :
    Calls Try.prog 18 #[v, .int .i64 b, .agg #[.int .u8 k, .int .u8 c, .int .u8 r', .int .u8 o]] w fun e w' => ∃ v', e = .returned v' ∧ Dv n (setG n g b k c r' o) v' base w' ∧ Kp [] w w' := by
  unfold setG
  cases h : (decide (0 ≤ b ∧ b < n) && Tb.mayE k c r' o)
  · exact r_Set_no D b k c r' o hk hc hr ho h
  · simp only [Bool.and_eq_true, decide_eq_true_eq] at h
    obtain ⟨b', rfl⟩ := Int.eq_ofNat_of_zero_le h.1.1
    exact r_Set_yes D hb b' k c r' o hk hc hr ho (by omega) h.2

/-- What Claim answers, whatever the run. -/
theorem r_claim (D : Dv n g v base w) {r' a : Int} {ok : Bool} {M' : Nat} (hM : g.M < 18446744073709551616) (hc : Claims g.M r' a ok M') (x : Int) (hx : (if ok then a else -1) = x) :
    Calls Try.prog 10 #[v, .int .i64 r'] w fun e w' => ∃ v', e = .returned (.tuple #[v', .int .i64 x]) ∧ Dv n ⟨M', g.E⟩ v' base w' ∧ Kp [] w w' := by
  rcases hc with ⟨k, hk, hf, ha, hok, hM'⟩ | ⟨hno, ha, hok, hM'⟩
  · have h1 := hf.1
    simp only [Bm.isR, Bool.and_eq_true, decide_eq_true_eq] at h1
    obtain ⟨r2, rfl⟩ := Int.eq_ofNat_of_zero_le (show 0 ≤ r' by omega)
    obtain rfl : x = k := by rw [← hx, hok, ha]; rfl
    rw [hM']
    exact r_claim_yes D r2 k hM hf
  · obtain rfl : x = -1 := by rw [← hx, hok]; rfl
    rw [hM']
    exact r_claim_no D r' hM hno
end
end Go.Proofs.Yteppcbihhikoaaa
