/- The walks of package word, on: Take. Conditions: as each theorem states them (the numbers are those of a uint64). -/
import Derived.Test.YtdnlddjgjceogaaWordC
namespace Go.Proofs.Ytdnlddjgjceogaa
set_option linter.unusedVariables false
set_option linter.unusedSimpArgs false
open Go.RowKit

theorem take_high (x : Int) (w : World) (h0 : 0 ≤ x) (h1 : x < 18446744073709551616) (h : 33554432 ≤ x) :
    Calls Try.prog 15 #[.int .u64 x] w fun e w' => e = .returned (.tuple #[.agg #[.int .u8 0, .int .u8 0, .bool false, .bool false, .int .u8 0, .int .u8 0, .int .u8 0], .int .i64 3]) ∧ Below w.heap.size w w' := by
  have H1 := Lib.hid h1
  clear h1
  have hne : (x / 33554432 != 0) = true := by simp; omega
  clear h
  go_enter Try.func15, Try.ntmps15
  go_wp2_with fail
  refine (unpack_any x _ h0 H1.out).mono ?_; rintro e w1 ⟨rfl, hb⟩
  have blk := Lib.hid (below_row hb (by simp) (heap_alloc_new w _))
  have bel := Lib.hid (((Below.refl w.heap.size w).alloc (Nat.le_refl _) _).trans (hb.mono (by simp)))
  have hz : w.heap.size < w1.heap.size := by have := hb.size; simp at this; omega
  clear hb
  go_wp2_with (refine wpList_store_row rfl 46 _ _ rfl w.heap.size _ rfl rfl 46 _ ((Below.heap_alloc _ _ _ hz).trans blk.out) (by kernel_rfl) rfl (by simp [Value.oneCell']) ?_)
  exact bodyPost_row_tmp rfl w.heap.size 46 _ (0, 0) _ (.int .i64 3) rfl rfl rfl (setRow_heap _ _ _ _ _ _ ((Below.heap_alloc _ _ _ hz).trans blk.out)) Try.underlying46 rfl (by kernel_rfl)
    ⟨rfl, below_setRow (bel.out.alloc (Nat.le_of_lt hz) _) (Nat.le_refl _) _⟩

theorem take_no (x : Int) (w : World) (h0 : 0 ≤ x) (h : x < 33554432) (hm : mayB (x % 4) (x / 4 % 2) (x / 32 % 64) (x / 2048 % 128) (x / 262144 % 128) (x / 8 % 2 == 1) (x / 16 % 2 == 1) = false) :
    Calls Try.prog 15 #[.int .u64 x] w fun e w' => e = .returned (.tuple #[.agg #[.int .u8 0, .int .u8 0, .bool false, .bool false, .int .u8 0, .int .u8 0, .int .u8 0], .int .i64 3]) ∧ Below w.heap.size w w' := by
  have hne : (x / 33554432 != 0) = false := by simp; omega
  have hk : 0 ≤ x % 4 := by omega
  have hr : 0 ≤ x / 2048 % 128 := by omega
  have hx : x < 18446744073709551616 := by omega
  have H1 := Lib.hid hx
  clear hx h
  go_enter Try.func15, Try.ntmps15
  go_wp2_with fail
  refine (unpack_any x _ h0 H1.out).mono ?_; rintro e w1 ⟨rfl, hb⟩
  have blk := Lib.hid (below_row hb (by simp) (heap_alloc_new w _))
  have bel := Lib.hid (((Below.refl w.heap.size w).alloc (Nat.le_refl _) _).trans (hb.mono (by simp)))
  have hz : w.heap.size < w1.heap.size := by have := hb.size; simp at this; omega
  clear hb
  go_wp2_with fail
  refine (may_any _ _ _ _ _ _ _ _ hk hr).mono ?_; rintro e w2 ⟨rfl, hb⟩
  have blk2 := Lib.hid ((below_row hb (by simp; omega) ((Below.heap_alloc _ _ _ hz).trans blk.out)))
  have bel2 := Lib.hid ((bel.out.alloc (Nat.le_of_lt hz) _).trans (hb.mono (by simp; omega)))
  clear hb
  go_wp2_with (refine wpList_store_row rfl 46 _ _ rfl w.heap.size _ rfl rfl 46 _ blk2.out (by kernel_rfl) rfl (by simp [Value.oneCell']) ?_)
  exact bodyPost_row_tmp rfl w.heap.size 46 _ (0, 0) _ (.int .i64 3) rfl rfl rfl (setRow_heap _ _ _ _ _ _ blk2.out) Try.underlying46 rfl (by kernel_rfl)
    ⟨rfl, below_setRow bel2.out (Nat.le_refl _) _⟩

theorem take_yes (x : Int) (w : World) (h0 : 0 ≤ x) (h : x < 33554432) (hm : mayB (x % 4) (x / 4 % 2) (x / 32 % 64) (x / 2048 % 128) (x / 262144 % 128) (x / 8 % 2 == 1) (x / 16 % 2 == 1) = true) :
    Calls Try.prog 15 #[.int .u64 x] w fun e w' => e = .returned (.tuple #[.agg #[.int .u8 (x % 4), .int .u8 (x / 4 % 2), .bool (x / 8 % 2 == 1), .bool (x / 16 % 2 == 1), .int .u8 (x / 32 % 64), .int .u8 (x / 2048 % 128), .int .u8 (x / 262144 % 128)], .int .i64 0]) ∧ Below w.heap.size w w' := by
  have hne : (x / 33554432 != 0) = false := by simp; omega
  have hk : 0 ≤ x % 4 := by omega
  have hr : 0 ≤ x / 2048 % 128 := by omega
  have hx : x < 18446744073709551616 := by omega
  have H1 := Lib.hid hx
  clear hx h
  go_enter Try.func15, Try.ntmps15
  go_wp2_with fail
  refine (unpack_any x _ h0 H1.out).mono ?_; rintro e w1 ⟨rfl, hb⟩
  have blk := Lib.hid (below_row hb (by simp) (heap_alloc_new w _))
  have bel := Lib.hid (((Below.refl w.heap.size w).alloc (Nat.le_refl _) _).trans (hb.mono (by simp)))
  have hz : w.heap.size < w1.heap.size := by have := hb.size; simp at this; omega
  clear hb
  go_wp2_with fail
  refine (may_any _ _ _ _ _ _ _ _ hk hr).mono ?_; rintro e w2 ⟨rfl, hb⟩
  obtain ⟨hc1, hf1⟩ := bcell hb
  have blk2 := Lib.hid ((below_row hb (by simp; omega) ((Below.heap_alloc _ _ _ hz).trans blk.out)))
  have bel2 := Lib.hid ((bel.out.alloc (Nat.le_of_lt hz) _).trans (hb.mono (by simp; omega)))
  clear hb
  go_wp2_with (refine wpList_store_row rfl 46 _ _ rfl w.heap.size _ rfl rfl 46 _ blk2.out (by kernel_rfl) rfl (by simp [Value.oneCell']) ?_)
  exact bodyPost_row_tmp rfl w.heap.size 46 _ (0, 0) _ (.int .i64 0) rfl rfl rfl (setRow_heap _ _ _ _ _ _ blk2.out) Try.underlying46 rfl (by kernel_rfl)
    ⟨rfl, below_setRow bel2.out (Nat.le_refl _) _⟩

end Go.Proofs.Ytdnlddjgjceogaa
