/- The walks of package word, on: Put and Take as they are called. Conditions: as each theorem states them (the numbers are those of a uint8, of a uint64). -/
import Derived.Test.YtdnlddjgjceogaaWordB
import Derived.Lib.Hide
namespace Go.Proofs.Ytdnlddjgjceogaa
set_option linter.unusedVariables false
set_option linter.unusedSimpArgs false
open Go.RowKit

theorem put_yes (k c o r s : Int) (g m : Bool) (w : World) (hk : 0 ≤ k) (hc : 0 ≤ c) (ho : 0 ≤ o) (hr : 0 ≤ r) (hs : 0 ≤ s) (h : mayB k c o r s g m = true) :
    Calls Try.prog 30 #[.agg #[.int .u8 k, .int .u8 c, .bool g, .bool m, .int .u8 o, .int .u8 r, .int .u8 s]] w fun e w' => e = .returned (.tuple #[.int .u64 (wordI k c o r s g m), .int .i64 0]) ∧ Below w.heap.size w w' := by
  go_enter Try.func30, Try.ntmps30
  go_wp2_with fail
  refine (may_any k c o r s g m _ hk hr).mono ?_; rintro e w1 ⟨rfl, hb⟩
  obtain ⟨hc1, hf1⟩ := bcell hb
  go_wp2_with fail
  refine (pack_any k c o r s g m _ hk hc ho hr hs h).mono ?_; rintro e w2 ⟨rfl, hb2⟩
  have bel : Below w.heap.size w w2 := (((Below.refl _ _).alloc (Nat.le_refl _) _).trans (hb.mono (by simp))).trans (hb2.mono (by have := hb.size; simp at this; omega))
  clear hb hb2 hc1 hf1
  go_wp2
  go_ret2
  exact ⟨rfl, bel⟩

theorem put_no (k c o r s : Int) (g m : Bool) (w : World) (hk : 0 ≤ k) (hr : 0 ≤ r) (h : mayB k c o r s g m = false) :
    Calls Try.prog 30 #[.agg #[.int .u8 k, .int .u8 c, .bool g, .bool m, .int .u8 o, .int .u8 r, .int .u8 s]] w fun e w' => e = .returned (.tuple #[.int .u64 0, .int .i64 2]) ∧ Below w.heap.size w w' := by
  go_enter Try.func30, Try.ntmps30
  go_wp2_with fail
  refine (may_any k c o r s g m _ hk hr).mono ?_; rintro e w1 ⟨rfl, hb⟩
  have bel : Below w.heap.size w w1 := ((Below.refl _ _).alloc (Nat.le_refl _) _).trans (hb.mono (by simp))
  clear hb
  go_wp2
  go_ret2
  exact ⟨rfl, bel⟩

set_option maxHeartbeats 1000000 in
theorem unpack_any (x : Int) (w : World) (h0 : 0 ≤ x) (h1 : x < 18446744073709551616) :
    Calls Try.prog 24 #[.int .u64 x] w fun e w' => e = .returned (.agg #[.int .u8 (x % 4), .int .u8 (x / 4 % 2), .bool (x / 8 % 2 == 1), .bool (x / 16 % 2 == 1), .int .u8 (x / 32 % 64), .int .u8 (x / 2048 % 128), .int .u8 (x / 262144 % 128)]) ∧ Below w.heap.size w w' := by
  have H1 := Lib.hid h1
  clear h1
  go_enter Try.func24, Try.ntmps24
  go_wp2_with fail
  refine (part_any 0 2 x 4 1 w.heap.size _ (by omega) (by omega) (by omega) (by omega) (by decide) (by decide) h0 H1.out (by simp)).mono ?_; rintro e w' ⟨rfl, rfl⟩
  go_wp2_with fail
  refine (part_any 2 3 x 2 4 w.heap.size _ (by omega) (by omega) (by omega) (by omega) (by decide) (by decide) h0 H1.out (by simp)).mono ?_; rintro e w' ⟨rfl, rfl⟩
  go_wp2_with fail
  refine (part_any 3 4 x 2 8 w.heap.size _ (by omega) (by omega) (by omega) (by omega) (by decide) (by decide) h0 H1.out (by simp)).mono ?_; rintro e w' ⟨rfl, rfl⟩
  go_wp2_with fail
  refine (part_any 4 5 x 2 16 w.heap.size _ (by omega) (by omega) (by omega) (by omega) (by decide) (by decide) h0 H1.out (by simp)).mono ?_; rintro e w' ⟨rfl, rfl⟩
  go_wp2_with fail
  refine (part_any 5 11 x 64 32 w.heap.size _ (by omega) (by omega) (by omega) (by omega) (by decide) (by decide) h0 H1.out (by simp)).mono ?_; rintro e w' ⟨rfl, rfl⟩
  go_wp2_with fail
  refine (part_any 11 18 x 128 2048 w.heap.size _ (by omega) (by omega) (by omega) (by omega) (by decide) (by decide) h0 H1.out (by simp)).mono ?_; rintro e w' ⟨rfl, rfl⟩
  go_wp2_with fail
  refine (part_any 18 25 x 128 262144 w.heap.size _ (by omega) (by omega) (by omega) (by omega) (by decide) (by decide) h0 H1.out (by simp)).mono ?_; rintro e w' ⟨rfl, rfl⟩
  go_wp2
  go_returns
  exact ⟨rfl, by go_grown⟩

end Go.Proofs.Ytdnlddjgjceogaa
