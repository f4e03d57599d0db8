/- BitmapTells, walked. Conditions: the map's number is that of a uint64. -/
import Derived.Test.YtdpgefagdpoobaaBmL
namespace Go.Proofs.Ytdpgefagdpoobaa
set_option linter.unusedVariables false
set_option linter.unusedSimpArgs false
open Go.RowKit

theorem has_nat (x k : Nat) (b : Bool) (w : World) (hx : x < 18446744073709551616) (hk : k < 64) (hb : x.testBit k = b) : Calls Try.prog 7 #[.int .u64 x, .int .i64 k] w fun e w' => e = .returned (.bool b) ∧ Kp [] w w' :=
  has_is x k b w hx (by rw [decide_eq_true (by omega), Bool.true_and]; exact hb)

set_option maxHeartbeats 1000000 in
set_option maxRecDepth 100000 in
theorem tells_core (x : Nat) (bl k r o xo : Int) (n : Nat) (q : Bool) (w : World) (hx : x < 18446744073709551616) (hoq : (q = true ∧ 0 ≤ o ∧ xo = o) ∨ (q = false ∧ o = 0 ∧ xo = -1))
    (cB : ∀ w, Calls Try.prog 6 #[.int .u64 x] w fun e w' => e = .returned (.agg (bv fun i => x.testBit i)) ∧ Kp [] w w')
    (cH : k < 0 ∨ 63 < k → ∀ w, Calls Try.prog 7 #[.int .u64 x, .int .i64 k] w fun e w' => e = .returned (.bool false) ∧ Kp [] w w')
    (cF : ∀ w, Calls Try.prog 8 #[.int .u64 x, .int .i64 r] w fun e w' => e = .returned (.tuple #[.int .i64 o, .bool q]) ∧ Kp [] w w')
    (cR : ∀ w, Calls Try.prog 9 #[.int .u64 x, .int .i64 r] w fun e w' => e = .returned (.int .i64 xo) ∧ Kp [] w w')
    (cC : ∀ w, Calls Try.prog 10 #[.int .u64 x] w fun e w' => e = .returned (.int .i64 (cnt x 64)) ∧ w = w')
    (cA : ∀ w, Calls Try.prog 11 #[.int .i64 bl] w fun e w' => e = .returned (.int .u64 n) ∧ w = w')
    (cD : ∀ w, Calls Try.prog 12 #[.int .i64 bl] w fun e w' => e = .returned (.int .u64 n) ∧ Kp [] w w') :
    Calls Try.prog 3 #[.int .u64 x, .int .i64 bl, .int .i64 k, .int .i64 r] w fun e w' => e = .returned (.bool true) ∧ Kp [] w w' := by
  obtain ⟨hz, hs⟩ := zero_of_info bv_info
  have kw := wakes_is
  have HOQ := Lib.hid hoq
  have HX := Lib.hid hx
  have CH := Lib.hid cH
  clear hs hoq cH hx
  go_enter Try.func3, Try.ntmps3
  go_wp2_with (first
    | ((with_reducible refine (cB _).mono ?_); rintro e w1 ⟨rfl, hkp⟩; have H1 := Lib.hid (heap_alloc_last w1 (.cells (bv fun _ => false) 23)))
    | (refine bv_store rfl _ _ rfl w1.heap.size rfl _ rfl _ H1.out ?_; rw [World.setRow_alloc_new]))
  clear cB H1
  go_loopg [10, 11] 64 (fun g nv iv wr => ∃ (j m : Nat), j + g = 64 ∧ nv = .int .i64 m ∧ Hid (m = cnt x j) ∧ m ≤ j ∧ iv = .int .i64 j ∧ Kp [] (w1.alloc (.cells (bv fun i => x.testBit i) 23)) wr)
  case atStart => exact ⟨0, 0, by omega, rfl, rfl, by omega, rfl, Kp.refl _ _⟩
  case round =>
    obtain ⟨j, m, hjg, rfl, HM, hmj, rfl, hkr⟩ := hrel
    by_cases hj : j < 64
    · have hrow := hkr.row (g := w1.heap.size) (by simp) (heap_alloc_last w1 (.cells (bv fun i => x.testBit i) 23))
      cases hb : x.testBit j
      · have cc : ∀ w, Calls Try.prog 7 #[.int .u64 x, .int .i64 j] w fun e w' => e = .returned (.bool false) ∧ Kp [] w w' := fun w => has_nat x j false w HX.out hj hb
        have hcell : ∀ w2 : World, w2.heap[w1.heap.size]? = some (.cells (bv fun i => x.testBit i) 23 (0, 0)) → w2.cell? ⟨w1.heap.size, j, none⟩ = some (.bool false) := fun w2 h2 => by
          rw [cell_of_row h2, bv_get _ j hj, hb]
        have hc := hcell wr hrow
        have HC := Lib.hid hcell
        have HR := Lib.hid hrow
        have HB := Lib.hid hb
        clear hcell hrow hb
        go_wp2_with fail
        go_region_with (go_at_call 7; refine (cc _).mono ?_; rintro e w2 ⟨rfl, hk2⟩; have hc2 := HC.out w2 (hk2.row (by simp) HR.out))
        all_goals (
          go_wp2
          go_roundg (64 - (j + 1))
          case rel =>
            refine ⟨j + 1, m, by omega, by go_num, ?_, by omega, by go_num, hkr.trans hk2.drew_l⟩
            show _ = _
            simp [cnt, HB.out, HM.out]
          case measure => omega)
      · have cc : ∀ w, Calls Try.prog 7 #[.int .u64 x, .int .i64 j] w fun e w' => e = .returned (.bool true) ∧ Kp [] w w' := fun w => has_nat x j true w HX.out hj hb
        have hcell : ∀ w2 : World, w2.heap[w1.heap.size]? = some (.cells (bv fun i => x.testBit i) 23 (0, 0)) → w2.cell? ⟨w1.heap.size, j, none⟩ = some (.bool true) := fun w2 h2 => by
          rw [cell_of_row h2, bv_get _ j hj, hb]
        have hc := hcell wr hrow
        have HC := Lib.hid hcell
        have HR := Lib.hid hrow
        have HB := Lib.hid hb
        clear hcell hrow hb
        go_wp2_with fail
        go_region_with (go_at_call 7; refine (cc _).mono ?_; rintro e w2 ⟨rfl, hk2⟩; have hc2 := HC.out w2 (hk2.row (by simp) HR.out))
        all_goals (
          go_wp2
          go_roundg (64 - (j + 1))
          case rel =>
            refine ⟨j + 1, m + 1, by omega, by go_num, ?_, by omega, by go_num, hkr.trans hk2.drew_l⟩
            show _ = _
            simp [cnt, HB.out, HM.out]
          case measure => omega)
    · obtain rfl : j = 64 := by omega
      obtain rfl : m = cnt x 64 := HM.out
      have K : Hid (Kp [] w wr) := Lib.hid ((hkp.alloc _).trans (hkr.mono (by simp)))
      clear hkp hkr hjg hj
      rcases HOQ.out with ⟨rfl, h0, rfl⟩ | ⟨rfl, rfl, rfl⟩
      all_goals (
        rcases (by omega : k < 0 ∨ 63 < k ∨ (0 ≤ k ∧ k ≤ 63)) with hk | hk | ⟨hk0, hk1⟩)
      · have cH := CH.out (.inl hk)
        go_wp2_with (first
          | ((with_reducible refine (cH _).mono ?_); rintro e w3 ⟨rfl, hk3⟩; have K := Lib.hid (K.out.trans (hk3.mono (by simp))); clear hk3)
          | ((with_reducible refine (cF _).mono ?_); rintro e w3 ⟨rfl, hk3⟩; have K := Lib.hid (K.out.trans (hk3.mono (by simp))); clear hk3)
          | ((with_reducible refine (cR _).mono ?_); rintro e w3 ⟨rfl, hk3⟩; have K := Lib.hid (K.out.trans (hk3.mono (by simp))); clear hk3)
          | ((with_reducible refine (cC _).mono ?_); rintro e w' ⟨rfl, rfl⟩)
          | ((with_reducible refine (cA _).mono ?_); rintro e w' ⟨rfl, rfl⟩)
          | ((with_reducible refine (cD _).mono ?_); rintro e w3 ⟨rfl, hk3⟩; have K := Lib.hid (K.out.trans (hk3.mono (by simp))); clear hk3)
          | ((with_reducible refine (kw _).mono ?_); rintro e w3 ⟨rfl, hk3⟩; have K := Lib.hid (K.out.trans (hk3.mono (by simp))); clear hk3))
        go_ret
        exact ⟨rfl, K.out⟩
      · have cH := CH.out (.inr hk)
        have hk9 : ¬ k < 0 := by omega
        go_wp2_with (first
          | ((with_reducible refine (cH _).mono ?_); rintro e w3 ⟨rfl, hk3⟩; have K := Lib.hid (K.out.trans (hk3.mono (by simp))); clear hk3)
          | ((with_reducible refine (cF _).mono ?_); rintro e w3 ⟨rfl, hk3⟩; have K := Lib.hid (K.out.trans (hk3.mono (by simp))); clear hk3)
          | ((with_reducible refine (cR _).mono ?_); rintro e w3 ⟨rfl, hk3⟩; have K := Lib.hid (K.out.trans (hk3.mono (by simp))); clear hk3)
          | ((with_reducible refine (cC _).mono ?_); rintro e w' ⟨rfl, rfl⟩)
          | ((with_reducible refine (cA _).mono ?_); rintro e w' ⟨rfl, rfl⟩)
          | ((with_reducible refine (cD _).mono ?_); rintro e w3 ⟨rfl, hk3⟩; have K := Lib.hid (K.out.trans (hk3.mono (by simp))); clear hk3)
          | ((with_reducible refine (kw _).mono ?_); rintro e w3 ⟨rfl, hk3⟩; have K := Lib.hid (K.out.trans (hk3.mono (by simp))); clear hk3))
        go_ret
        exact ⟨rfl, K.out⟩
      · go_wp2_with (first
          | ((with_reducible refine (cF _).mono ?_); rintro e w3 ⟨rfl, hk3⟩; have K := Lib.hid (K.out.trans (hk3.mono (by simp))); clear hk3)
          | ((with_reducible refine (cR _).mono ?_); rintro e w3 ⟨rfl, hk3⟩; have K := Lib.hid (K.out.trans (hk3.mono (by simp))); clear hk3)
          | ((with_reducible refine (cC _).mono ?_); rintro e w' ⟨rfl, rfl⟩)
          | ((with_reducible refine (cA _).mono ?_); rintro e w' ⟨rfl, rfl⟩)
          | ((with_reducible refine (cD _).mono ?_); rintro e w3 ⟨rfl, hk3⟩; have K := Lib.hid (K.out.trans (hk3.mono (by simp))); clear hk3)
          | ((with_reducible refine (kw _).mono ?_); rintro e w3 ⟨rfl, hk3⟩; have K := Lib.hid (K.out.trans (hk3.mono (by simp))); clear hk3))
        go_ret
        exact ⟨rfl, K.out⟩
      · have cH := CH.out (.inl hk)
        go_wp2_with (first
          | ((with_reducible refine (cH _).mono ?_); rintro e w3 ⟨rfl, hk3⟩; have K := Lib.hid (K.out.trans (hk3.mono (by simp))); clear hk3)
          | ((with_reducible refine (cF _).mono ?_); rintro e w3 ⟨rfl, hk3⟩; have K := Lib.hid (K.out.trans (hk3.mono (by simp))); clear hk3)
          | ((with_reducible refine (cR _).mono ?_); rintro e w3 ⟨rfl, hk3⟩; have K := Lib.hid (K.out.trans (hk3.mono (by simp))); clear hk3)
          | ((with_reducible refine (cC _).mono ?_); rintro e w' ⟨rfl, rfl⟩)
          | ((with_reducible refine (cA _).mono ?_); rintro e w' ⟨rfl, rfl⟩)
          | ((with_reducible refine (cD _).mono ?_); rintro e w3 ⟨rfl, hk3⟩; have K := Lib.hid (K.out.trans (hk3.mono (by simp))); clear hk3)
          | ((with_reducible refine (kw _).mono ?_); rintro e w3 ⟨rfl, hk3⟩; have K := Lib.hid (K.out.trans (hk3.mono (by simp))); clear hk3))
        go_ret
        exact ⟨rfl, K.out⟩
      · have cH := CH.out (.inr hk)
        have hk9 : ¬ k < 0 := by omega
        go_wp2_with (first
          | ((with_reducible refine (cH _).mono ?_); rintro e w3 ⟨rfl, hk3⟩; have K := Lib.hid (K.out.trans (hk3.mono (by simp))); clear hk3)
          | ((with_reducible refine (cF _).mono ?_); rintro e w3 ⟨rfl, hk3⟩; have K := Lib.hid (K.out.trans (hk3.mono (by simp))); clear hk3)
          | ((with_reducible refine (cR _).mono ?_); rintro e w3 ⟨rfl, hk3⟩; have K := Lib.hid (K.out.trans (hk3.mono (by simp))); clear hk3)
          | ((with_reducible refine (cC _).mono ?_); rintro e w' ⟨rfl, rfl⟩)
          | ((with_reducible refine (cA _).mono ?_); rintro e w' ⟨rfl, rfl⟩)
          | ((with_reducible refine (cD _).mono ?_); rintro e w3 ⟨rfl, hk3⟩; have K := Lib.hid (K.out.trans (hk3.mono (by simp))); clear hk3)
          | ((with_reducible refine (kw _).mono ?_); rintro e w3 ⟨rfl, hk3⟩; have K := Lib.hid (K.out.trans (hk3.mono (by simp))); clear hk3))
        go_ret
        exact ⟨rfl, K.out⟩
      · go_wp2_with (first
          | ((with_reducible refine (cF _).mono ?_); rintro e w3 ⟨rfl, hk3⟩; have K := Lib.hid (K.out.trans (hk3.mono (by simp))); clear hk3)
          | ((with_reducible refine (cR _).mono ?_); rintro e w3 ⟨rfl, hk3⟩; have K := Lib.hid (K.out.trans (hk3.mono (by simp))); clear hk3)
          | ((with_reducible refine (cC _).mono ?_); rintro e w' ⟨rfl, rfl⟩)
          | ((with_reducible refine (cA _).mono ?_); rintro e w' ⟨rfl, rfl⟩)
          | ((with_reducible refine (cD _).mono ?_); rintro e w3 ⟨rfl, hk3⟩; have K := Lib.hid (K.out.trans (hk3.mono (by simp))); clear hk3)
          | ((with_reducible refine (kw _).mono ?_); rintro e w3 ⟨rfl, hk3⟩; have K := Lib.hid (K.out.trans (hk3.mono (by simp))); clear hk3))
        go_ret
        exact ⟨rfl, K.out⟩

theorem tells_walk (x : Nat) (bl k r : Int) (w : World) (hx : x < 18446744073709551616) :
    Calls Try.prog 3 #[.int .u64 x, .int .i64 bl, .int .i64 k, .int .i64 r] w fun e w' => e = .returned (.bool true) ∧ Kp [] w w' := by
  have cB := fun w => rbits_is x w hx
  have cH : k < 0 ∨ 63 < k → ∀ w, Calls Try.prog 7 #[.int .u64 x, .int .i64 k] w fun e w' => e = .returned (.bool false) ∧ Kp [] w w' := fun h w =>
    has_is x k false w hx (by rw [decide_eq_false (by omega), Bool.false_and])
  have cC := fun w => count_is x _ w hx rfl
  have cA := fun w => all_is bl _ w rfl
  have cD := fun w => rall_is bl _ w rfl
  rcases least_or x r with ⟨o, h1, h2⟩ | h
  · exact tells_core x bl k r o o _ true w hx (.inl ⟨rfl, by omega, rfl⟩) cB cH (fun w => find_at x r o w hx h1 h2) (fun w => rfind_at x r o w hx h1 h2) cC cA cD
  · exact tells_core x bl k r 0 (-1) _ false w hx (.inr ⟨rfl, rfl, rfl⟩) cB cH (fun w => find_none x r w hx h) (fun w => rfind_none x r w hx h) cC cA cD

end Go.Proofs.Ytdpgefagdpoobaa
