/- The walks of the document's own Take (demesneref01), and of the known headers (wakes). Conditions: as each theorem states them (the numbers are those of a uint64). -/
import Derived.Test.YtinkpbenmfnnhaaDoorWordD
import Derived.Test.YtinkpbenmfnnhaaDoorWordRef
namespace Go.Proofs.YtinkpbenmfnnhaaDoor.Wd
set_option linter.unusedVariables false
set_option linter.unusedSimpArgs false
open Go.RowKit

/-- Both Takes, where no header is the word's. -/
theorem take_none (x : Int) (w : World) (h0 : 0 ≤ x) (h1 : x < 18446744073709551616) (h : takeB x = false) :
    Calls Tryd.prog 60 #[.int .u64 x] w fun e w' => e = .returned (.tuple #[.agg #[.int .u8 0, .int .u8 0, .bool false, .bool false, .int .u8 0, .int .u8 0, .int .u8 0], .int .i64 3]) ∧ Below w.heap.size w w' := by
  by_cases hx : x < 33554432
  · exact take_no x w h0 hx (by simpa [takeB, hx] using h)
  · exact take_high x w h0 h1 (by omega)
theorem take_some (x : Int) (w : World) (h0 : 0 ≤ x) (h : takeB x = true) :
    Calls Tryd.prog 60 #[.int .u64 x] w fun e w' => e = .returned (.tuple #[.agg #[.int .u8 (x % 4), .int .u8 (x / 4 % 2), .bool (x / 8 % 2 == 1), .bool (x / 16 % 2 == 1), .int .u8 (x / 32 % 64), .int .u8 (x / 2048 % 128), .int .u8 (x / 262144 % 128)], .int .i64 0]) ∧ Below w.heap.size w w' := by
  simp only [takeB, Bool.and_eq_true, decide_eq_true_eq] at h
  exact take_yes x w h0 h.1 h.2
theorem put_a (w : World) : Calls Tryd.prog 36 #[.agg #[.int .u8 2, .int .u8 0, .bool false, .bool false, .int .u8 1, .int .u8 1, .int .u8 2]] w fun e w' => e = .returned (.tuple #[.int .u64 526370, .int .i64 0]) ∧ Below w.heap.size w w' :=
  (put_yes 2 0 1 1 2 false false w (by decide) (by decide) (by decide) (by decide) (by decide) (by decide)).mono fun _ _ ⟨he, hb⟩ => ⟨he, hb⟩
theorem put_b (w : World) : Calls Tryd.prog 36 #[.agg #[.int .u8 3, .int .u8 1, .bool true, .bool false, .int .u8 0, .int .u8 0, .int .u8 0]] w fun e w' => e = .returned (.tuple #[.int .u64 15, .int .i64 0]) ∧ Below w.heap.size w w' :=
  (put_yes 3 1 0 0 0 true false w (by decide) (by decide) (by decide) (by decide) (by decide) (by decide)).mono fun _ _ ⟨he, hb⟩ => ⟨he, hb⟩
theorem put_zero (w : World) : Calls Tryd.prog 36 #[.agg #[.int .u8 0, .int .u8 0, .bool false, .bool false, .int .u8 0, .int .u8 0, .int .u8 0]] w fun e w' => e = .returned (.tuple #[.int .u64 0, .int .i64 0]) ∧ Below w.heap.size w w' :=
  (put_yes 0 0 0 0 0 false false w (by decide) (by decide) (by decide) (by decide) (by decide) (by decide)).mono fun _ _ ⟨he, hb⟩ => ⟨he, hb⟩
theorem take_a (w : World) : Calls Tryd.prog 60 #[.int .u64 526370] w fun e w' => e = .returned (.tuple #[.agg #[.int .u8 2, .int .u8 0, .bool false, .bool false, .int .u8 1, .int .u8 1, .int .u8 2], .int .i64 0]) ∧ Below w.heap.size w w' :=
  (take_yes 526370 w (by decide) (by decide) (by decide)).mono fun _ _ ⟨he, hb⟩ => ⟨he, hb⟩
end Go.Proofs.YtinkpbenmfnnhaaDoor.Wd
