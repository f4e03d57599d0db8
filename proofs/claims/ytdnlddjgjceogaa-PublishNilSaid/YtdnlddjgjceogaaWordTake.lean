/- The walks of the document's own Take (demesneref01), and of the known headers (wakes). Conditions: as each theorem states them (the numbers are those of a uint64). -/
import Derived.Test.YtdnlddjgjceogaaWordD
import Derived.Test.YtdnlddjgjceogaaWordRef
namespace Go.Proofs.Ytdnlddjgjceogaa
set_option linter.unusedVariables false
set_option linter.unusedSimpArgs false
open Go.RowKit

theorem rword_parts (x : Int) (w : World) (h0 : 0 ≤ x) :
    Calls Try.prog 14 #[.agg #[.int .u8 (x % 4), .int .u8 (x / 4 % 2), .bool (x / 8 % 2 == 1), .bool (x / 16 % 2 == 1), .int .u8 (x / 32 % 64), .int .u8 (x / 2048 % 128), .int .u8 (x / 262144 % 128)]] w fun e w' => e = .returned (.int .u64 (x % 33554432)) ∧ Below w.heap.size w w' :=
  (rword_any _ _ _ _ _ _ _ w (by omega) (by omega) (by omega) (by omega) (by omega) (by omega) (by omega) (by omega) (by omega) (by omega)).mono fun e w' ⟨he, hb⟩ => ⟨by rw [he, word_of_parts], hb⟩

theorem rtake_no1 (x : Int) (w : World) (h0 : 0 ≤ x) (h1 : x < 18446744073709551616) (hm : mayB (x % 4) (x / 4 % 2) (x / 32 % 64) (x / 2048 % 128) (x / 262144 % 128) (x / 8 % 2 == 1) (x / 16 % 2 == 1) = false) :
    Calls Try.prog 22 #[.int .u64 x] w fun e w' => e = .returned (.tuple #[.agg #[.int .u8 0, .int .u8 0, .bool false, .bool false, .int .u8 0, .int .u8 0, .int .u8 0], .int .i64 3]) ∧ Below w.heap.size w w' := by
  have hr : 0 ≤ x / 2048 % 128 := by omega
  go_enter Try.func22, Try.ntmps22
  go_wp2_with fail
  refine (rmay_any _ _ _ _ _ _ _ _ hr).mono ?_; rintro e w1 ⟨rfl, hb⟩
  have blk := Lib.hid (below_row hb (by simp; omega) (heap_alloc2_old w _ _))
  have bel := Lib.hid ((((Below.refl w.heap.size w).alloc (Nat.le_refl _) _).alloc (by simp) _).trans (hb.mono (by simp; omega)))
  clear hb
  go_wp2_with (refine wpList_store_row rfl 40 _ _ rfl w.heap.size _ rfl rfl 40 _ blk.out (by kernel_rfl) rfl (by simp [Value.oneCell']) ?_)
  exact bodyPost_row_tmp rfl w.heap.size 40 _ (0, 0) _ (.int .i64 3) rfl rfl rfl (setRow_heap _ _ _ _ _ _ blk.out) Try.underlying40 rfl (by kernel_rfl)
    ⟨rfl, below_setRow bel.out (Nat.le_refl _) _⟩

theorem rtake_no2 (x : Int) (w : World) (h0 : 0 ≤ x) (h1 : x < 18446744073709551616) (h : 33554432 ≤ x) (hm : mayB (x % 4) (x / 4 % 2) (x / 32 % 64) (x / 2048 % 128) (x / 262144 % 128) (x / 8 % 2 == 1) (x / 16 % 2 == 1) = true) :
    Calls Try.prog 22 #[.int .u64 x] w fun e w' => e = .returned (.tuple #[.agg #[.int .u8 0, .int .u8 0, .bool false, .bool false, .int .u8 0, .int .u8 0, .int .u8 0], .int .i64 3]) ∧ Below w.heap.size w w' := by
  have hr : 0 ≤ x / 2048 % 128 := by omega
  have hne : (x % 33554432 != x) = true := by simp; omega
  clear h
  go_enter Try.func22, Try.ntmps22
  go_wp2_with fail
  refine (rmay_any _ _ _ _ _ _ _ _ hr).mono ?_; rintro e w1 ⟨rfl, hb⟩
  obtain ⟨hc1, hf1⟩ := bcell hb
  have blk := Lib.hid (below_row hb (by simp; omega) (heap_alloc2_old w _ _))
  have bel := Lib.hid ((((Below.refl w.heap.size w).alloc (Nat.le_refl _) _).alloc (by simp) _).trans (hb.mono (by simp; omega)))
  have hz : w.heap.size + 2 ≤ w1.heap.size := by have := hb.size; simp at this; omega
  clear hb
  go_wp2_with fail
  refine (rword_parts x _ h0).mono ?_; rintro e w2 ⟨rfl, hb⟩
  have blk2 := Lib.hid (below_row hb (by omega) blk.out)
  have bel2 := Lib.hid (bel.out.trans (hb.mono (by omega)))
  clear hb hc1 hf1
  go_wp2_with (refine wpList_store_row rfl 40 _ _ rfl w.heap.size _ rfl rfl 40 _ blk2.out (by kernel_rfl) rfl (by simp [Value.oneCell']) ?_)
  exact bodyPost_row_tmp rfl w.heap.size 40 _ (0, 0) _ (.int .i64 3) rfl rfl rfl (setRow_heap _ _ _ _ _ _ blk2.out) Try.underlying40 rfl (by kernel_rfl)
    ⟨rfl, below_setRow bel2.out (Nat.le_refl _) _⟩

theorem rtake_yes (x : Int) (w : World) (h0 : 0 ≤ x) (h1 : x < 18446744073709551616) (h : x < 33554432) (hm : mayB (x % 4) (x / 4 % 2) (x / 32 % 64) (x / 2048 % 128) (x / 262144 % 128) (x / 8 % 2 == 1) (x / 16 % 2 == 1) = true) :
    Calls Try.prog 22 #[.int .u64 x] w fun e w' => e = .returned (.tuple #[.agg #[.int .u8 (x % 4), .int .u8 (x / 4 % 2), .bool (x / 8 % 2 == 1), .bool (x / 16 % 2 == 1), .int .u8 (x / 32 % 64), .int .u8 (x / 2048 % 128), .int .u8 (x / 262144 % 128)], .int .i64 0]) ∧ Below w.heap.size w w' := by
  have hr : 0 ≤ x / 2048 % 128 := by omega
  have hne : (x % 33554432 != x) = false := by simp; omega
  clear h
  go_enter Try.func22, Try.ntmps22
  go_wp2_with fail
  refine (rmay_any _ _ _ _ _ _ _ _ hr).mono ?_; rintro e w1 ⟨rfl, hb⟩
  obtain ⟨hc1, hf1⟩ := bcell hb
  have blk := Lib.hid (below_row hb (by simp; omega) (heap_alloc2_old w _ _))
  have bel := Lib.hid ((((Below.refl w.heap.size w).alloc (Nat.le_refl _) _).alloc (by simp) _).trans (hb.mono (by simp; omega)))
  have hz : w.heap.size + 1 < w1.heap.size := by have := hb.size; simp at this; omega
  clear hb
  go_wp2_with fail
  refine (rword_parts x _ h0).mono ?_; rintro e w2 ⟨rfl, hb⟩
  obtain ⟨hc2, hf2⟩ := bcell hb
  have blk2 := Lib.hid (below_row hb (by omega) blk.out)
  have bel2 := Lib.hid (bel.out.trans (hb.mono (by omega)))
  clear hb
  go_wp2_with (refine wpList_store_row rfl 40 _ _ rfl w.heap.size _ rfl rfl 40 _ blk2.out (by kernel_rfl) rfl (by simp [Value.oneCell']) ?_)
  exact bodyPost_row_tmp rfl w.heap.size 40 _ (0, 0) _ (.int .i64 0) rfl rfl rfl (setRow_heap _ _ _ _ _ _ blk2.out) Try.underlying40 rfl (by kernel_rfl)
    ⟨rfl, below_setRow bel2.out (Nat.le_refl _) _⟩

/-- Both Takes, where no header is the word's. -/
theorem take_none (x : Int) (w : World) (h0 : 0 ≤ x) (h1 : x < 18446744073709551616) (h : takeB x = false) :
    Calls Try.prog 15 #[.int .u64 x] w fun e w' => e = .returned (.tuple #[.agg #[.int .u8 0, .int .u8 0, .bool false, .bool false, .int .u8 0, .int .u8 0, .int .u8 0], .int .i64 3]) ∧ Below w.heap.size w w' := by
  by_cases hx : x < 33554432
  · exact take_no x w h0 hx (by simpa [takeB, hx] using h)
  · exact take_high x w h0 h1 (by omega)
theorem rtake_none (x : Int) (w : World) (h0 : 0 ≤ x) (h1 : x < 18446744073709551616) (h : takeB x = false) :
    Calls Try.prog 22 #[.int .u64 x] w fun e w' => e = .returned (.tuple #[.agg #[.int .u8 0, .int .u8 0, .bool false, .bool false, .int .u8 0, .int .u8 0, .int .u8 0], .int .i64 3]) ∧ Below w.heap.size w w' := by
  by_cases hm : mayB (x % 4) (x / 4 % 2) (x / 32 % 64) (x / 2048 % 128) (x / 262144 % 128) (x / 8 % 2 == 1) (x / 16 % 2 == 1) = true
  · by_cases hx : x < 33554432
    · simp [takeB, hx] at h
      rw [h] at hm; cases hm
    · exact rtake_no2 x w h0 h1 (by omega) hm
  · exact rtake_no1 x w h0 h1 (by simpa using hm)
theorem take_some (x : Int) (w : World) (h0 : 0 ≤ x) (h : takeB x = true) :
    Calls Try.prog 15 #[.int .u64 x] w fun e w' => e = .returned (.tuple #[.agg #[.int .u8 (x % 4), .int .u8 (x / 4 % 2), .bool (x / 8 % 2 == 1), .bool (x / 16 % 2 == 1), .int .u8 (x / 32 % 64), .int .u8 (x / 2048 % 128), .int .u8 (x / 262144 % 128)], .int .i64 0]) ∧ Below w.heap.size w w' := by
  simp only [takeB, Bool.and_eq_true, decide_eq_true_eq] at h
  exact take_yes x w h0 h.1 h.2
theorem rtake_some (x : Int) (w : World) (h0 : 0 ≤ x) (h : takeB x = true) :
    Calls Try.prog 22 #[.int .u64 x] w fun e w' => e = .returned (.tuple #[.agg #[.int .u8 (x % 4), .int .u8 (x / 4 % 2), .bool (x / 8 % 2 == 1), .bool (x / 16 % 2 == 1), .int .u8 (x / 32 % 64), .int .u8 (x / 2048 % 128), .int .u8 (x / 262144 % 128)], .int .i64 0]) ∧ Below w.heap.size w w' := by
  simp only [takeB, Bool.and_eq_true, decide_eq_true_eq] at h
  exact rtake_yes x w h0 (by omega) h.1 h.2

theorem put_a (w : World) : Calls Try.prog 30 #[.agg #[.int .u8 2, .int .u8 0, .bool false, .bool false, .int .u8 1, .int .u8 1, .int .u8 2]] w fun e w' => e = .returned (.tuple #[.int .u64 526370, .int .i64 0]) ∧ Below w.heap.size w w' :=
  (put_yes 2 0 1 1 2 false false w (by decide) (by decide) (by decide) (by decide) (by decide) (by decide)).mono fun _ _ ⟨he, hb⟩ => ⟨he, hb⟩
theorem put_b (w : World) : Calls Try.prog 30 #[.agg #[.int .u8 3, .int .u8 1, .bool true, .bool false, .int .u8 0, .int .u8 0, .int .u8 0]] w fun e w' => e = .returned (.tuple #[.int .u64 15, .int .i64 0]) ∧ Below w.heap.size w w' :=
  (put_yes 3 1 0 0 0 true false w (by decide) (by decide) (by decide) (by decide) (by decide) (by decide)).mono fun _ _ ⟨he, hb⟩ => ⟨he, hb⟩
theorem put_zero (w : World) : Calls Try.prog 30 #[.agg #[.int .u8 0, .int .u8 0, .bool false, .bool false, .int .u8 0, .int .u8 0, .int .u8 0]] w fun e w' => e = .returned (.tuple #[.int .u64 0, .int .i64 0]) ∧ Below w.heap.size w w' :=
  (put_yes 0 0 0 0 0 false false w (by decide) (by decide) (by decide) (by decide) (by decide) (by decide)).mono fun _ _ ⟨he, hb⟩ => ⟨he, hb⟩
theorem take_a (w : World) : Calls Try.prog 15 #[.int .u64 526370] w fun e w' => e = .returned (.tuple #[.agg #[.int .u8 2, .int .u8 0, .bool false, .bool false, .int .u8 1, .int .u8 1, .int .u8 2], .int .i64 0]) ∧ Below w.heap.size w w' :=
  (take_yes 526370 w (by decide) (by decide) (by decide)).mono fun _ _ ⟨he, hb⟩ => ⟨he, hb⟩
end Go.Proofs.Ytdnlddjgjceogaa
