/- The walks of layer layout, on: New. Conditions: as each theorem states them. -/
import Derived.Test.YtinkpbenmfnnhaaDoorLyB
namespace Go.Proofs.YtinkpbenmfnnhaaDoor.Ly
set_option linter.unusedVariables false
set_option linter.unusedSimpArgs false
open Go.RowKit

theorem new_bad (W T G : Int) (w : World) (h : ¬ (1 ≤ W ∧ W ≤ 4096 ∧ 1 ≤ T ∧ T ≤ 64 ∧ 0 ≤ G ∧ G ≤ 8)) :
    Calls Tryd.prog 8 #[.int .i64 W, .int .i64 T, .int .i64 G] w fun e w' => e = .returned (.tuple #[.agg #[.int .i64 0, .int .i64 0, .int .i64 0], .int .i64 2]) ∧ Kp [] w w' := by
  rcases (by omega : W < 1 ∨ (1 ≤ W ∧ 4096 < W) ∨ (1 ≤ W ∧ W ≤ 4096 ∧ T < 1) ∨ (1 ≤ W ∧ W ≤ 4096 ∧ 1 ≤ T ∧ 64 < T) ∨ (1 ≤ W ∧ W ≤ 4096 ∧ 1 ≤ T ∧ T ≤ 64 ∧ G < 0) ∨ (1 ≤ W ∧ W ≤ 4096 ∧ 1 ≤ T ∧ T ≤ 64 ∧ 0 ≤ G ∧ 8 < G)) with
    h1 | ⟨h1, h2⟩ | ⟨h1, h2, h3⟩ | ⟨h1, h2, h3, h4⟩ | ⟨h1, h2, h3, h4, h5⟩ | ⟨h1, h2, h3, h4, h5, h6⟩
  all_goals (
    clear h
    go_enter Tryd.func8, Tryd.ntmps8
    go_wp2
    go_returns
    exact ⟨rfl, (Kp.refl _ _).alloc _⟩)

theorem tdiv_in (x : Int) : (0 ≤ x ∧ x.tdiv 33 = x / 33) ∨ (x < 0 ∧ x.tdiv 33 = -((-x) / 33)) := by
  rcases Int.lt_or_le x 0 with h | h
  · refine .inr ⟨h, ?_⟩
    rw [← Int.tdiv_eq_ediv_of_nonneg (by omega), Int.neg_tdiv, Int.neg_neg]
  · exact .inl ⟨h, Int.tdiv_eq_ediv_of_nonneg h⟩
/-- The two boxes of New, behind the call of table. -/
theorem new_rows {w w3 : World} {T G : Int} (hk : Kp [] ((w.alloc (.cells #[.int .i64 0, .int .i64 0, .int .i64 0] 29)).alloc (.cells #[.int .i64 T, .int .i64 G, .int .i64 0] 29)) w3) :
    w3.heap[w.heap.size]? = some (.cells #[.int .i64 0, .int .i64 0, .int .i64 0] 29 (0, 0)) ∧ w3.heap[w.heap.size + 1]? = some (.cells #[.int .i64 T, .int .i64 G, .int .i64 0] 29 (0, 0)) ∧ Kp [] w w3 := by
  refine ⟨hk.row (by simp) (heap_alloc2_old w _ _), hk.row (by simp) ?_, (((Kp.refl _ _).alloc _).alloc _).trans hk⟩
  have := heap_alloc_new (w.alloc (.cells #[.int .i64 0, .int .i64 0, .int .i64 0] 29)) (.cells #[.int .i64 T, .int .i64 G, .int .i64 0] 29)
  rwa [World.size_alloc] at this

theorem new_store {w w3 : World} {T G : Int} (R0 : w3.heap[w.heap.size]? = some (.cells #[.int .i64 0, .int .i64 0, .int .i64 0] 29 (0, 0))) (R1 : w3.heap[w.heap.size + 1]? = some (.cells #[.int .i64 T, .int .i64 G, .int .i64 0] 29 (0, 0))) (K : Kp [] w w3) (q : Int) :
    (w3.setCell ⟨w.heap.size + 1, 2, none⟩ (.int .i64 q)).heap[w.heap.size]? = some (.cells #[.int .i64 0, .int .i64 0, .int .i64 0] 29 (0, 0)) ∧
    Kp [] w (w3.setCell ⟨w.heap.size + 1, 2, none⟩ (.int .i64 q)) :=
  ⟨by rw [heap_setCell_other _ _ _ _ (by simp)]; exact R0, K.setCell (.inr (by simp)) _⟩

set_option maxRecDepth 100000 in
set_option maxHeartbeats 1000000 in
theorem new_full (W T G : Int) (w : World) (w1 : 1 ≤ W) (w2 : W ≤ 4096) (t0 : 1 ≤ T) (t1 : T ≤ 64) (g0 : 0 ≤ G) (g1 : G ≤ 8) (h : W < 3 + T + G + 33) :
    Calls Tryd.prog 8 #[.int .i64 W, .int .i64 T, .int .i64 G] w fun e w' => e = .returned (.tuple #[.agg #[.int .i64 0, .int .i64 0, .int .i64 0], .int .i64 4]) ∧ Kp [] w w' := by
  have k1 := Lib.hid (fun w => table_is T G 0 w (by omega) t1 g0 g1)
  obtain ⟨tb, htb⟩ : ∃ tb, tb = 3 + T + G := ⟨_, rfl⟩
  rw [← htb] at k1 h
  have tb0 : 0 ≤ tb := by omega
  have tb1 : tb ≤ 75 := by omega
  have q1 : (W - tb).tdiv 33 < 1 := by rcases tdiv_in (W - tb) with ⟨_, h⟩ | ⟨_, h⟩ <;> rw [h] <;> omega
  clear h htb
  go_enter Tryd.func8, Tryd.ntmps8
  go_wp2_with fail
  refine (k1.out _).mono ?_; rintro e w3 ⟨rfl, hk⟩
  obtain ⟨R0, R1, K⟩ := new_rows hk
  obtain ⟨S0, KS⟩ := new_store R0 R1 K ((W - tb).tdiv 33)
  have hf2 := free_of_row R1 2
  have hc0 := cell_of_row R1 0
  have hc1 := cell_of_row R1 1
  have hc2 := cell_of_row R1 2
  have S0 := Lib.hid S0
  clear hk R0 R1 K
  simp at hc0 hc1 hc2
  go_wp2_with (refine wpList_store_row rfl 29 _ _ rfl w.heap.size _ rfl rfl 29 _ S0.out (by kernel_rfl) rfl (by simp [Value.oneCell']) ?_)
  exact bodyPost_row_tmp rfl w.heap.size 29 _ (0, 0) _ (.int .i64 4) rfl rfl rfl (setRow_heap _ _ _ _ _ _ S0.out) Tryd.underlying29 rfl (by kernel_rfl)
    ⟨rfl, KS.setRow (.inr (Nat.le_refl _)) _⟩

set_option maxRecDepth 100000 in
set_option maxHeartbeats 1000000 in
theorem new_low (W T G tb : Int) (w : World) (htb : tb = 3 + T + G) (w1 : 1 ≤ W) (w2 : W ≤ 4096) (t0 : 1 ≤ T) (t1 : T ≤ 64) (g0 : 0 ≤ G) (g1 : G ≤ 8) (h0 : 0 ≤ W - tb) (q1 : 1 ≤ (W - tb) / 33) (q2 : (W - tb) / 33 ≤ 64) :
    Calls Tryd.prog 8 #[.int .i64 W, .int .i64 T, .int .i64 G] w fun e w' => e = .returned (.tuple #[.agg #[.int .i64 T, .int .i64 G, .int .i64 ((W - tb) / 33)], .int .i64 0]) ∧ Kp [] w w' := by
  have k1 := Lib.hid (fun w => table_is T G 0 w (by omega) t1 g0 g1)
  rw [← htb] at k1
  have tb0 : 0 ≤ tb := by omega
  have tb1 : tb ≤ 75 := by omega
  clear htb
  go_enter Tryd.func8, Tryd.ntmps8
  go_wp2_with fail
  refine (k1.out _).mono ?_; rintro e w3 ⟨rfl, hk⟩
  obtain ⟨R0, R1, K⟩ := new_rows hk
  obtain ⟨S0, KS⟩ := new_store R0 R1 K ((W - tb) / 33)
  have hf2 := free_of_row R1 2
  have hc0 := cell_of_row R1 0
  have hc1 := cell_of_row R1 1
  have hc2 := cell_of_row R1 2
  have S0 := Lib.hid S0
  clear hk R0 R1 K
  simp at hc0 hc1 hc2
  go_wp2_with (refine wpList_store_row rfl 29 _ _ rfl w.heap.size _ rfl rfl 29 _ S0.out (by kernel_rfl) rfl (by simp [Value.oneCell']) ?_)
  exact bodyPost_row_tmp rfl w.heap.size 29 _ (0, 0) _ (.int .i64 0) rfl rfl rfl (setRow_heap _ _ _ _ _ _ S0.out) Tryd.underlying29 rfl (by kernel_rfl)
    ⟨rfl, KS.setRow (.inr (Nat.le_refl _)) _⟩

set_option maxRecDepth 100000 in
set_option maxHeartbeats 1000000 in
theorem new_high (W T G tb : Int) (w : World) (htb : tb = 3 + T + G) (w1 : 1 ≤ W) (w2 : W ≤ 4096) (t0 : 1 ≤ T) (t1 : T ≤ 64) (g0 : 0 ≤ G) (g1 : G ≤ 8) (h0 : 0 ≤ W - tb) (q1 : 1 ≤ (W - tb) / 33) (q2 : 64 < (W - tb) / 33) :
    Calls Tryd.prog 8 #[.int .i64 W, .int .i64 T, .int .i64 G] w fun e w' => e = .returned (.tuple #[.agg #[.int .i64 T, .int .i64 G, .int .i64 64], .int .i64 0]) ∧ Kp [] w w' := by
  have k1 := Lib.hid (fun w => table_is T G 0 w (by omega) t1 g0 g1)
  rw [← htb] at k1
  have tb0 : 0 ≤ tb := by omega
  have tb1 : tb ≤ 75 := by omega
  clear htb
  go_enter Tryd.func8, Tryd.ntmps8
  go_wp2_with fail
  refine (k1.out _).mono ?_; rintro e w3 ⟨rfl, hk⟩
  obtain ⟨R0, R1, K⟩ := new_rows hk
  obtain ⟨S0, KS⟩ := new_store R0 R1 K 64
  have hf2 := free_of_row R1 2
  have hc0 := cell_of_row R1 0
  have hc1 := cell_of_row R1 1
  have hc2 := cell_of_row R1 2
  have S0 := Lib.hid S0
  clear hk R0 R1 K
  simp at hc0 hc1 hc2
  go_wp2_with (refine wpList_store_row rfl 29 _ _ rfl w.heap.size _ rfl rfl 29 _ S0.out (by kernel_rfl) rfl (by simp [Value.oneCell']) ?_)
  exact bodyPost_row_tmp rfl w.heap.size 29 _ (0, 0) _ (.int .i64 0) rfl rfl rfl (setRow_heap _ _ _ _ _ _ S0.out) Tryd.underlying29 rfl (by kernel_rfl)
    ⟨rfl, KS.setRow (.inr (Nat.le_refl _)) _⟩

/-- How many blocks go in. -/
def blkP (W T G : Int) : Int := if (W - (3 + T + G)) / 33 ≤ 64 then (W - (3 + T + G)) / 33 else 64
theorem new_ok (W T G b : Int) (w : World) (hb : blkP W T G = b) (w1 : 1 ≤ W) (w2 : W ≤ 4096) (t0 : 1 ≤ T) (t1 : T ≤ 64) (g0 : 0 ≤ G) (g1 : G ≤ 8) (h : 3 + T + G + 33 ≤ W) :
    Calls Tryd.prog 8 #[.int .i64 W, .int .i64 T, .int .i64 G] w fun e w' => e = .returned (.tuple #[.agg #[.int .i64 T, .int .i64 G, .int .i64 b], .int .i64 0]) ∧ Kp [] w w' := by
  subst hb
  unfold blkP
  by_cases hq : (W - (3 + T + G)) / 33 ≤ 64
  · rw [if_pos hq]
    exact new_low W T G _ w rfl w1 w2 t0 t1 g0 g1 (by omega) (by omega) hq
  · rw [if_neg hq]
    exact new_high W T G _ w rfl w1 w2 t0 t1 g0 g1 (by omega) (by omega) (by omega)

end Go.Proofs.YtinkpbenmfnnhaaDoor.Ly
