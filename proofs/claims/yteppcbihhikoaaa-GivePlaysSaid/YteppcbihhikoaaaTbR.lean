/- The walks of the document's own table functions (demesneref05), and of the known entries (wakes). Conditions: as each theorem states them (the numbers are those of a uint8, of a uint64). -/
import Derived.Test.YteppcbihhikoaaaTbB
namespace Go.Proofs.Yteppcbihhikoaaa.Tb
set_option linter.unusedVariables false
set_option linter.unusedSimpArgs false
open Go.RowKit

theorem ret_u64 {a b : Int} (h : a = b) : Ending.returned (.int .u64 a) = .returned (.int .u64 b) := by rw [h]
theorem ret_bool {a b : Bool} (h : a = b) : Ending.returned (.bool a) = .returned (.bool b) := by rw [h]

theorem rword_is (k c r o : Int) (w : World) (hk : 0 ≤ k) (hc : 0 ≤ c) (hr : 0 ≤ r) (ho : 0 ≤ o) (hk1 : k ≤ 255) (hc1 : c ≤ 255) (hr1 : r ≤ 255) (ho1 : o ≤ 255) :
    Calls Try.prog 43 #[.agg #[.int .u8 k, .int .u8 c, .int .u8 r, .int .u8 o]] w fun e w' => e = .returned (.int .u64 (wordE k c r o)) ∧ Kp [] w w' := by
  go_enter Try.func43, Try.ntmps43
  go_wp2
  go_ret
  exact ⟨ret_u64 (by simp only [wordE]; omega), kp_of_below (by go_grown)⟩

set_option maxHeartbeats 1000000 in
theorem rmay_is (k c r o : Int) (b : Bool) (w : World) (hk : 0 ≤ k) (hc : 0 ≤ c) (hr : 0 ≤ r) (ho : 0 ≤ o) (h : mayE k c r o = b) :
    Calls Try.prog 19 #[.agg #[.int .u8 k, .int .u8 c, .int .u8 r, .int .u8 o]] w fun e w' => e = .returned (.bool b) ∧ Kp [] w w' := by
  subst h
  go_enter Try.func19, Try.ntmps19
  go_wp2
  all_goals go_ret
  all_goals (refine ⟨ret_bool ?_, kp_of_below (by go_grown)⟩)
  all_goals (rw [eq_comm]; first
    | (rw [mayE_false]; omega)
    | (rw [Bool.eq_iff_iff, mayE_iff]; first | omega | (simp_all; done) | (simp_all; omega) | (by_cases q2 : k = 2 <;> by_cases q5 : k = 5 <;> by_cases q0 : 0 < r <;> first | omega | (simp_all; done) | (simp_all; omega))))

theorem rword_parts (x : Int) (w : World) (h0 : 0 ≤ x) :
    Calls Try.prog 43 #[.agg #[.int .u8 (x % 8), .int .u8 (x / 8 % 4), .int .u8 (x / 32 % 4), .int .u8 (x / 128 % 64)]] w fun e w' => e = .returned (.int .u64 (x % 8192)) ∧ Kp [] w w' :=
  (rword_is _ _ _ _ w (by omega) (by omega) (by omega) (by omega) (by omega) (by omega) (by omega) (by omega)).mono fun e w' ⟨he, hk⟩ => ⟨by rw [he, word_mod], hk⟩

theorem rtake_core (x n k c r o : Int) (b b2 : Bool) (w : World) (h0 : 0 ≤ x) (h1 : x < 18446744073709551616) (hm : mayE (x % 8) (x / 8 % 4) (x / 32 % 4) (x / 128 % 64) = b) (hne : (x % 8192 != x) = b2)
    (hb : (b = true ∧ b2 = false ∧ n = 0 ∧ k = x % 8 ∧ c = x / 8 % 4 ∧ r = x / 32 % 4 ∧ o = x / 128 % 64) ∨ (b = true ∧ b2 = true ∧ n = 3 ∧ k = 0 ∧ c = 0 ∧ r = 0 ∧ o = 0) ∨ (b = false ∧ n = 3 ∧ k = 0 ∧ c = 0 ∧ r = 0 ∧ o = 0)) :
    Calls Try.prog 21 #[.int .u64 x] w fun e w' => e = .returned (.tuple #[.agg #[.int .u8 k, .int .u8 c, .int .u8 r, .int .u8 o], .int .i64 n]) ∧ Kp [] w w' := by
  have hmay := Lib.hid (fun w => rmay_is _ _ _ _ b w (by omega) (by omega) (by omega) (by omega) hm)
  have hwd := Lib.hid (fun w => rword_parts x w h0)
  clear hm
  rcases hb with ⟨rfl, rfl, rfl, rfl, rfl, rfl, rfl⟩ | ⟨rfl, rfl, rfl, rfl, rfl, rfl, rfl⟩ | ⟨rfl, rfl, rfl, rfl, rfl, rfl⟩
  · go_enter Try.func21, Try.ntmps21
    go_wp2_with fail
    refine (hmay.out _).mono ?_; rintro e w1 ⟨rfl, hk⟩
    obtain ⟨hc1, hf1⟩ := bcell hk.to_below
    have blk := Lib.hid (hk.row (by simp) (heap_alloc2_old w _ _))
    have kp := Lib.hid ((((Kp.refl [] w).alloc _).alloc _).trans hk)
    have hz : w.heap.size + 1 < w1.heap.size := by have := hk.size; simp at this; omega
    clear hk
    go_wp2_with fail
    refine (hwd.out _).mono ?_; rintro e w2 ⟨rfl, hk⟩
    obtain ⟨hc2, hf2⟩ := bcell hk.to_below
    have blk2 := Lib.hid (hk.row (by simp) blk.out)
    have kp2 := Lib.hid (kp.out.trans hk)
    clear hk
    go_wp2_with (refine wpList_store_row rfl 36 _ _ rfl w.heap.size _ rfl rfl 36 _ blk2.out (by kernel_rfl) rfl (by simp [Value.oneCell']) ?_)
    exact bodyPost_row_tmp rfl w.heap.size 36 _ (0, 0) _ (.int .i64 0) rfl rfl rfl (setRow_heap _ _ _ _ _ _ blk2.out) Try.underlying36 rfl (by kernel_rfl)
      ⟨rfl, kp2.out.setRow (.inr (Nat.le_refl _)) _⟩
  · go_enter Try.func21, Try.ntmps21
    go_wp2_with fail
    refine (hmay.out _).mono ?_; rintro e w1 ⟨rfl, hk⟩
    obtain ⟨hc1, hf1⟩ := bcell hk.to_below
    have blk := Lib.hid (hk.row (by simp) (heap_alloc2_old w _ _))
    have kp := Lib.hid ((((Kp.refl [] w).alloc _).alloc _).trans hk)
    have hz : w.heap.size + 1 < w1.heap.size := by have := hk.size; simp at this; omega
    clear hk
    go_wp2_with fail
    refine (hwd.out _).mono ?_; rintro e w2 ⟨rfl, hk⟩
    obtain ⟨hc2, hf2⟩ := bcell hk.to_below
    have blk2 := Lib.hid (hk.row (by simp) blk.out)
    have kp2 := Lib.hid (kp.out.trans hk)
    clear hk
    go_wp2_with (refine wpList_store_row rfl 36 _ _ rfl w.heap.size _ rfl rfl 36 _ blk2.out (by kernel_rfl) rfl (by simp [Value.oneCell']) ?_)
    exact bodyPost_row_tmp rfl w.heap.size 36 _ (0, 0) _ (.int .i64 3) rfl rfl rfl (setRow_heap _ _ _ _ _ _ blk2.out) Try.underlying36 rfl (by kernel_rfl)
      ⟨rfl, kp2.out.setRow (.inr (Nat.le_refl _)) _⟩
  · go_enter Try.func21, Try.ntmps21
    go_wp2_with fail
    refine (hmay.out _).mono ?_; rintro e w1 ⟨rfl, hk⟩
    obtain ⟨hc1, hf1⟩ := bcell hk.to_below
    have blk := Lib.hid (hk.row (by simp) (heap_alloc2_old w _ _))
    have kp := Lib.hid ((((Kp.refl [] w).alloc _).alloc _).trans hk)
    have hz : w.heap.size + 1 < w1.heap.size := by have := hk.size; simp at this; omega
    clear hk
    go_wp2_with (refine wpList_store_row rfl 36 _ _ rfl w.heap.size _ rfl rfl 36 _ blk.out (by kernel_rfl) rfl (by simp [Value.oneCell']) ?_)
    exact bodyPost_row_tmp rfl w.heap.size 36 _ (0, 0) _ (.int .i64 3) rfl rfl rfl (setRow_heap _ _ _ _ _ _ blk.out) Try.underlying36 rfl (by kernel_rfl)
      ⟨rfl, kp.out.setRow (.inr (Nat.le_refl _)) _⟩

theorem rtake_some (x : Int) (w : World) (h0 : 0 ≤ x) (h : takeE x = true) :
    Calls Try.prog 21 #[.int .u64 x] w fun e w' => e = .returned (.tuple #[.agg #[.int .u8 (x % 8), .int .u8 (x / 8 % 4), .int .u8 (x / 32 % 4), .int .u8 (x / 128 % 64)], .int .i64 0]) ∧ Kp [] w w' := by
  have h' := h
  simp only [takeE, Bool.and_eq_true, decide_eq_true_eq] at h'
  exact rtake_core x 0 _ _ _ _ true false w h0 (by omega) h'.2 (by simp; omega) (.inl ⟨rfl, rfl, rfl, rfl, rfl, rfl, rfl⟩)
theorem rtake_none (x : Int) (w : World) (h0 : 0 ≤ x) (h1 : x < 18446744073709551616) (h : takeE x = false) :
    Calls Try.prog 21 #[.int .u64 x] w fun e w' => e = .returned (.tuple #[.agg #[.int .u8 0, .int .u8 0, .int .u8 0, .int .u8 0], .int .i64 3]) ∧ Kp [] w w' := by
  by_cases hm : mayE (x % 8) (x / 8 % 4) (x / 32 % 4) (x / 128 % 64) = true
  · have hx : ¬ x < 8192 := by intro hx; simp [takeE, hx, hm] at h
    exact rtake_core x 3 _ _ _ _ true true w h0 h1 hm (by simp; omega) (.inr (.inl ⟨rfl, rfl, rfl, rfl, rfl, rfl, rfl⟩))
  · exact rtake_core x 3 _ _ _ _ false _ w h0 h1 (by simpa using hm) rfl (.inr (.inr ⟨rfl, rfl, rfl, rfl, rfl, rfl⟩))

theorem put_a (w : World) : Calls Try.prog 42 #[.agg #[.int .u8 1, .int .u8 2, .int .u8 0, .int .u8 3]] w fun e w' => e = .returned (.tuple #[.int .u64 401, .int .i64 0]) ∧ Kp [] w w' :=
  put_yes 1 2 0 3 w (by decide) (by decide) (by decide) (by decide) (by decide)
theorem put_b (w : World) : Calls Try.prog 42 #[.agg #[.int .u8 2, .int .u8 0, .int .u8 2, .int .u8 1]] w fun e w' => e = .returned (.tuple #[.int .u64 194, .int .i64 0]) ∧ Kp [] w w' :=
  put_yes 2 0 2 1 w (by decide) (by decide) (by decide) (by decide) (by decide)
theorem take_b (w : World) : Calls Try.prog 48 #[.int .u64 194] w fun e w' => e = .returned (.tuple #[.agg #[.int .u8 2, .int .u8 0, .int .u8 2, .int .u8 1], .int .i64 0]) ∧ Kp [] w w' :=
  take_some 194 w (by decide) (by decide)
theorem blocks_b (w : World) : Calls Try.prog 41 #[.agg #[.int .u8 2, .int .u8 0, .int .u8 2, .int .u8 1]] w fun e w' => e = .returned (.int .i64 2) ∧ Kp [] w w' :=
  blocks_is 2 0 2 1 w (by decide) (by decide)

end Go.Proofs.Yteppcbihhikoaaa.Tb
