/- The walks of package word, on: a header's word and back (Put, Take). Conditions: as each theorem states them (the numbers are those of a uint8, of a uint64). -/
import Derived.Test.YtdnlddjgjceogaaWord
namespace Go.Proofs.Ytdnlddjgjceogaa
set_option linter.unusedVariables false
set_option linter.unusedSimpArgs false
open Go.RowKit

set_option maxHeartbeats 1000000 in
theorem pack_any (k c o r s : Int) (g m : Bool) (w : World) (hk : 0 ≤ k) (hc : 0 ≤ c) (ho : 0 ≤ o) (hr : 0 ≤ r) (hs : 0 ≤ s) (h : mayB k c o r s g m = true) :
    Calls Try.prog 37 #[.agg #[.int .u8 k, .int .u8 c, .bool g, .bool m, .int .u8 o, .int .u8 r, .int .u8 s]] w fun e w' => e = .returned (.int .u64 (wordI k c o r s g m)) ∧ Below w.heap.size w w' := by
  obtain ⟨b1, b2, b3, b4, b5, _⟩ := mayB_iff.1 h
  have g1 := bitI_le g
  have g2 := bitI_le m
  have hw : wordI k c o r s g m = k + c * 4 + bitI g * 8 + bitI m * 16 + o * 32 + r * 2048 + s * 262144 := rfl
  clear h
  go_enter Try.func37, Try.ntmps37
  go_wp2_with fail
  refine (put_any k 0 0 1 k (w.heap.size + 1) _ (by omega) (by omega) (by omega) (by omega) (by decide) (by omega) (by omega) (by omega) (by simp) (by simp)).mono ?_; rintro e w' ⟨rfl, rfl⟩
  go_wp2_with fail
  refine (put_any c 2 k 4 (k + c * 4) (w.heap.size + 1) _ (by omega) (by omega) (by omega) (by omega) (by decide) (by omega) (by omega) (by omega) (by simp) (by simp)).mono ?_; rintro e w' ⟨rfl, rfl⟩
  go_wp2_with fail
  refine (bit_any g _).mono ?_; rintro e w' ⟨rfl, rfl⟩
  go_wp2_with fail
  refine (put_any (bitI g) 3 (k + c * 4) 8 (k + c * 4 + bitI g * 8) (w.heap.size + 1) _ (by omega) (by omega) (by omega) (by omega) (by decide) (by omega) (by omega) (by omega) (by simp) (by simp)).mono ?_; rintro e w' ⟨rfl, rfl⟩
  go_wp2_with fail
  refine (bit_any m _).mono ?_; rintro e w' ⟨rfl, rfl⟩
  go_wp2_with fail
  refine (put_any (bitI m) 4 (k + c * 4 + bitI g * 8) 16 (k + c * 4 + bitI g * 8 + bitI m * 16) (w.heap.size + 1) _ (by omega) (by omega) (by omega) (by omega) (by decide) (by omega) (by omega) (by omega) (by simp) (by simp)).mono ?_; rintro e w' ⟨rfl, rfl⟩
  go_wp2_with fail
  refine (put_any o 5 (k + c * 4 + bitI g * 8 + bitI m * 16) 32 (k + c * 4 + bitI g * 8 + bitI m * 16 + o * 32) (w.heap.size + 1) _ (by omega) (by omega) (by omega) (by omega) (by decide) (by omega) (by omega) (by omega) (by simp) (by simp)).mono ?_; rintro e w' ⟨rfl, rfl⟩
  go_wp2_with fail
  refine (put_any r 11 (k + c * 4 + bitI g * 8 + bitI m * 16 + o * 32) 2048 (k + c * 4 + bitI g * 8 + bitI m * 16 + o * 32 + r * 2048) (w.heap.size + 1) _ (by omega) (by omega) (by omega) (by omega) (by decide) (by omega) (by omega) (by omega) (by simp) (by simp)).mono ?_; rintro e w' ⟨rfl, rfl⟩
  go_wp2_with fail
  refine (put_any s 18 (k + c * 4 + bitI g * 8 + bitI m * 16 + o * 32 + r * 2048) 262144 (wordI k c o r s g m) (w.heap.size + 1) _ (by omega) (by omega) (by omega) (by omega) (by decide) (by omega) (by omega) (by omega) (by simp) (by simp)).mono ?_; rintro e w' ⟨rfl, rfl⟩
  clear hw
  go_wp2
  go_ret
  exact ⟨rfl, by go_grown⟩

end Go.Proofs.Ytdnlddjgjceogaa
