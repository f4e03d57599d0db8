/- The walks of the document's own header functions (demesneref01), and of Of. Conditions: as each theorem states them (the numbers are those of a uint8, of a uint64). -/
import Derived.Test.YtdnlddjgjceogaaWordC
namespace Go.Proofs.Ytdnlddjgjceogaa
set_option linter.unusedVariables false
set_option linter.unusedSimpArgs false
open Go.RowKit

theorem ret_u64 {a b : Int} (h : a = b) : Ending.returned (.int .u64 a) = .returned (.int .u64 b) := by rw [h]
theorem ret_bool {a b : Bool} (h : a = b) : Ending.returned (.bool a) = .returned (.bool b) := by rw [h]

theorem rword_any (k c o r s : Int) (g m : Bool) (w : World) (hk : 0 ≤ k) (hc : 0 ≤ c) (ho : 0 ≤ o) (hr : 0 ≤ r) (hs : 0 ≤ s) (hk1 : k ≤ 255) (hc1 : c ≤ 255) (ho1 : o ≤ 255) (hr1 : r ≤ 255) (hs1 : s ≤ 255) :
    Calls Try.prog 14 #[.agg #[.int .u8 k, .int .u8 c, .bool g, .bool m, .int .u8 o, .int .u8 r, .int .u8 s]] w fun e w' => e = .returned (.int .u64 (wordI k c o r s g m)) ∧ Below w.heap.size w w' := by
  cases g <;> cases m <;> (
    go_enter Try.func14, Try.ntmps14
    go_wp2
    go_ret
    exact ⟨ret_u64 (by simp only [wordI, bitI]; omega), by go_grown⟩)

set_option maxHeartbeats 1000000 in
theorem rmay_any (k c o r s : Int) (g m : Bool) (w : World) (hr : 0 ≤ r) :
    Calls Try.prog 13 #[.agg #[.int .u8 k, .int .u8 c, .bool g, .bool m, .int .u8 o, .int .u8 r, .int .u8 s]] w fun e w' => e = .returned (.bool (mayB k c o r s g m)) ∧ Below w.heap.size w w' := by
  go_enter Try.func13, Try.ntmps13
  go_wp2
  all_goals go_ret
  all_goals (refine ⟨ret_bool ?_, by go_grown⟩)
  all_goals (rw [eq_comm]; first
    | exact mayB_false (by omega)
    | (rw [Bool.eq_iff_iff, mayB_iff]; cases g <;> cases m <;> first | omega | (simp_all; done) | (simp_all; omega)))

end Go.Proofs.Ytdnlddjgjceogaa
