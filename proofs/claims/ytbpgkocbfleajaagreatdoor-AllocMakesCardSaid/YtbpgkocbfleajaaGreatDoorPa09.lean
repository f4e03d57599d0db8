/- The walks of layer layout, on: New. The walks of the document's own layout (demesneref06). The walks of the document's own bitmap (demesneref04). Conditions: as each theorem states them. -/
import Derived.Deep.WholeRow
import Derived.OwnWalk
import Derived.Test.YtbpgkocbfleajaaGreatDoorPa01
import Derived.Test.YtbpgkocbfleajaaGreatDoorPa02
namespace Go.Proofs.YtbpgkocbfleajaaGreatDoor.Ly
set_option linter.unusedVariables false
set_option linter.unusedSimpArgs false
open Go.RowKit

/-- The two boxes of New, behind the call of table. -/
theorem new_rows {w w3 : World} {T G : Int} (hk : Kp [] ((w.alloc (.cells #[.int .i64 0, .int .i64 0, .int .i64 0] 40)).alloc (.cells #[.int .i64 T, .int .i64 G, .int .i64 0] 40)) w3) :
    w3.heap[w.heap.size]? = some (.cells #[.int .i64 0, .int .i64 0, .int .i64 0] 40 (0, 0)) ∧ w3.heap[w.heap.size + 1]? = some (.cells #[.int .i64 T, .int .i64 G, .int .i64 0] 40 (0, 0)) ∧ Kp [] w w3 := by
  refine ⟨hk.row (by simp) (heap_alloc2_old w _ _), hk.row (by simp) ?_, (((Kp.refl _ _).alloc _).alloc _).trans hk⟩
  have := heap_alloc_new (w.alloc (.cells #[.int .i64 0, .int .i64 0, .int .i64 0] 40)) (.cells #[.int .i64 T, .int .i64 G, .int .i64 0] 40)
  rwa [World.size_alloc] at this

theorem new_store {w w3 : World} {T G : Int} (R0 : w3.heap[w.heap.size]? = some (.cells #[.int .i64 0, .int .i64 0, .int .i64 0] 40 (0, 0))) (R1 : w3.heap[w.heap.size + 1]? = some (.cells #[.int .i64 T, .int .i64 G, .int .i64 0] 40 (0, 0))) (K : Kp [] w w3) (q : Int) :
    (w3.setCell ⟨w.heap.size + 1, 2, none⟩ (.int .i64 q)).heap[w.heap.size]? = some (.cells #[.int .i64 0, .int .i64 0, .int .i64 0] 40 (0, 0)) ∧
    Kp [] w (w3.setCell ⟨w.heap.size + 1, 2, none⟩ (.int .i64 q)) :=
  ⟨by rw [heap_setCell_other _ _ _ _ (by simp)]; exact R0, K.setCell (.inr (by simp)) _⟩

set_option maxRecDepth 100000 in
set_option maxHeartbeats 1000000 in
theorem new_low (W T G tb : Int) (w : World) (htb : tb = 3 + T + G) (w1 : 1 ≤ W) (w2 : W ≤ 4096) (t0 : 1 ≤ T) (t1 : T ≤ 64) (g0 : 0 ≤ G) (g1 : G ≤ 8) (h0 : 0 ≤ W - tb) (q1 : 1 ≤ (W - tb) / 33) (q2 : (W - tb) / 33 ≤ 64) :
    Calls Tryz.prog 30 #[.int .i64 W, .int .i64 T, .int .i64 G] w fun e w' => e = .returned (.tuple #[.agg #[.int .i64 T, .int .i64 G, .int .i64 ((W - tb) / 33)], .int .i64 0]) ∧ Kp [] w w' := by
  have k1 := Lib.hid (fun w => table_is T G 0 w (by omega) t1 g0 g1)
  rw [← htb] at k1
  have tb0 : 0 ≤ tb := by omega
  have tb1 : tb ≤ 75 := by omega
  clear htb
  go_enter Tryz.func30, Tryz.ntmps30
  go_wp2_with fail
  refine (k1.out _).mono ?_; rintro e w3 ⟨rfl, hk⟩
  obtain ⟨R0, R1, K⟩ := new_rows hk
  obtain ⟨S0, KS⟩ := new_store R0 R1 K ((W - tb) / 33)
  have hf2 := free_of_row R1 2
  have hc0 := cell_of_row R1 0
  have hc1 := cell_of_row R1 1
  have hc2 := cell_of_row R1 2
  have S0 := Lib.hid S0
  clear hk R0 R1 K
  simp at hc0 hc1 hc2
  go_wp2_with (refine wpList_store_row rfl 40 _ _ rfl w.heap.size _ rfl rfl 40 _ S0.out (by kernel_rfl) rfl (by simp [Value.oneCell']) ?_)
  exact bodyPost_row_tmp rfl w.heap.size 40 _ (0, 0) _ (.int .i64 0) rfl rfl rfl (setRow_heap _ _ _ _ _ _ S0.out) Tryz.underlying40 rfl (by kernel_rfl)
    ⟨rfl, KS.setRow (.inr (Nat.le_refl _)) _⟩

set_option maxRecDepth 100000 in
set_option maxHeartbeats 1000000 in
theorem new_high (W T G tb : Int) (w : World) (htb : tb = 3 + T + G) (w1 : 1 ≤ W) (w2 : W ≤ 4096) (t0 : 1 ≤ T) (t1 : T ≤ 64) (g0 : 0 ≤ G) (g1 : G ≤ 8) (h0 : 0 ≤ W - tb) (q1 : 1 ≤ (W - tb) / 33) (q2 : 64 < (W - tb) / 33) :
    Calls Tryz.prog 30 #[.int .i64 W, .int .i64 T, .int .i64 G] w fun e w' => e = .returned (.tuple #[.agg #[.int .i64 T, .int .i64 G, .int .i64 64], .int .i64 0]) ∧ Kp [] w w' := by
  have k1 := Lib.hid (fun w => table_is T G 0 w (by omega) t1 g0 g1)
  rw [← htb] at k1
  have tb0 : 0 ≤ tb := by omega
  have tb1 : tb ≤ 75 := by omega
  clear htb
  go_enter Tryz.func30, Tryz.ntmps30
  go_wp2_with fail
  refine (k1.out _).mono ?_; rintro e w3 ⟨rfl, hk⟩
  obtain ⟨R0, R1, K⟩ := new_rows hk
  obtain ⟨S0, KS⟩ := new_store R0 R1 K 64
  have hf2 := free_of_row R1 2
  have hc0 := cell_of_row R1 0
  have hc1 := cell_of_row R1 1
  have hc2 := cell_of_row R1 2
  have S0 := Lib.hid S0
  clear hk R0 R1 K
  simp at hc0 hc1 hc2
  go_wp2_with (refine wpList_store_row rfl 40 _ _ rfl w.heap.size _ rfl rfl 40 _ S0.out (by kernel_rfl) rfl (by simp [Value.oneCell']) ?_)
  exact bodyPost_row_tmp rfl w.heap.size 40 _ (0, 0) _ (.int .i64 0) rfl rfl rfl (setRow_heap _ _ _ _ _ _ S0.out) Tryz.underlying40 rfl (by kernel_rfl)
    ⟨rfl, KS.setRow (.inr (Nat.le_refl _)) _⟩

/-- How many blocks go in. -/
def blkP (W T G : Int) : Int := if (W - (3 + T + G)) / 33 ≤ 64 then (W - (3 + T + G)) / 33 else 64
theorem new_ok (W T G b : Int) (w : World) (hb : blkP W T G = b) (w1 : 1 ≤ W) (w2 : W ≤ 4096) (t0 : 1 ≤ T) (t1 : T ≤ 64) (g0 : 0 ≤ G) (g1 : G ≤ 8) (h : 3 + T + G + 33 ≤ W) :
    Calls Tryz.prog 30 #[.int .i64 W, .int .i64 T, .int .i64 G] w fun e w' => e = .returned (.tuple #[.agg #[.int .i64 T, .int .i64 G, .int .i64 b], .int .i64 0]) ∧ Kp [] w w' := by
  subst hb
  unfold blkP
  by_cases hq : (W - (3 + T + G)) / 33 ≤ 64
  · rw [if_pos hq]
    exact new_low W T G _ w rfl w1 w2 t0 t1 g0 g1 (by omega) (by omega) hq
  · rw [if_neg hq]
    exact new_high W T G _ w rfl w1 w2 t0 t1 g0 g1 (by omega) (by omega) (by omega)

end Go.Proofs.YtbpgkocbfleajaaGreatDoor.Ly

namespace Go.Proofs.YtbpgkocbfleajaaGreatDoor.Ly
set_option linter.unusedVariables false
set_option linter.unusedSimpArgs false
open Go.RowKit

set_option maxRecDepth 100000 in
set_option maxHeartbeats 1000000 in
/-- New: either no block goes in, or as many as go in. -/
theorem rnew_walk (W T G : Int) (w : World) (w1 : 1 ≤ W) (w2 : W ≤ 4096) (t0 : 1 ≤ T) (t1 : T ≤ 64) (g0 : 0 ≤ G) (g1 : G ≤ 8) (R : Ending → Prop)
    (hfull : W < 3 + T + G + 33 → R (.returned (.tuple #[.agg #[.int .i64 0, .int .i64 0, .int .i64 0], .int .i64 4])))
    (hok : ∀ b : Int, 1 ≤ b → b ≤ 64 → 3 + T + G + 33 * b ≤ W → (b < 64 → W < 3 + T + G + 33 * (b + 1)) → R (.returned (.tuple #[.agg #[.int .i64 T, .int .i64 G, .int .i64 b], .int .i64 0]))) :
    Calls Tryz.prog 31 #[.int .i64 W, .int .i64 T, .int .i64 G] w fun e w' => R e ∧ Kp [] w w' := by
  have HF := Lib.hid hfull
  have HO := Lib.hid hok
  clear hfull hok
  go_enter Tryz.func31, Tryz.ntmps31
  go_wp2_with fail
  go_loop [8] (fun bv => ∃ k : Nat, k ≤ 64 ∧ bv = .int .i64 k ∧ (k = 0 ∨ 3 + T + G + 33 * k ≤ W)) (fun bv => 64 - (intOf bv).toNat)
  case atStart => exact ⟨0, by omega, rfl, .inl rfl⟩
  case round =>
    obtain ⟨k, hk, rfl, hfit⟩ := hrel
    have HFIT := Lib.hid hfit
    clear hfit
    by_cases hk64 : k < 64
    · by_cases hm : 3 + T + G + 33 * (k + 1) ≤ W
      · go_wp2
        go_round
        case rel => exact ⟨k + 1, by omega, by go_num, .inr (by push_cast; omega)⟩
        case measure => simp [intOf]; omega
      · by_cases h0 : k = 0
        · subst h0
          have hd : decide ((3 + T + G + 33 * ((0 : Nat) + 1) : Int) ≤ W) = false := by simpa using hm
          go_wp2
          go_returns
          exact ⟨HF.out (by omega), (Kp.refl _ _).alloc _⟩
        · have hk0 : 0 < k := by omega
          have hne : ((k : Int) == 0) = false := by simpa using h0
          have HR := Lib.hid (HO.out k (by omega) (by omega) (by rcases HFIT.out with h | h <;> omega) (fun _ => by omega))
          go_wp2
          go_returns
          exact ⟨HR.out, (Kp.refl _ _).alloc _⟩
    · obtain rfl : k = 64 := by omega
      have HR := Lib.hid (HO.out 64 (by omega) (by omega) (by rcases HFIT.out with h | h <;> omega) (fun h => by omega))
      go_wp2
      go_returns
      exact ⟨HR.out, (Kp.refl _ _).alloc _⟩

theorem rnew_ok (W T G b : Int) (w : World) (hb : blkP W T G = b) (w1 : 1 ≤ W) (w2 : W ≤ 4096) (t0 : 1 ≤ T) (t1 : T ≤ 64) (g0 : 0 ≤ G) (g1 : G ≤ 8) (h : 3 + T + G + 33 ≤ W) :
    Calls Tryz.prog 31 #[.int .i64 W, .int .i64 T, .int .i64 G] w fun e w' => e = .returned (.tuple #[.agg #[.int .i64 T, .int .i64 G, .int .i64 b], .int .i64 0]) ∧ Kp [] w w' := by
  refine rnew_walk W T G w w1 w2 t0 t1 g0 g1 _ (fun _ => by omega) (fun c h1 h2 h3 h4 => ?_)
  have : c = b := by rw [← hb]; unfold blkP; split <;> omega
  rw [this]

theorem rentry_is (t g b k p : Int) (w : World) (hp : rowP (3 + t + g) b 1 k = p) (t0 : 0 ≤ t) (t1 : t ≤ 64) (g0 : 0 ≤ g) (g1 : g ≤ 8) (b0 : 0 ≤ b) (b1 : b ≤ 64) : Calls Tryz.prog 69 #[.agg #[.int .i64 t, .int .i64 g, .int .i64 b], .int .i64 k] w fun e w' => e = .returned (.int .i64 p) ∧ Kp [] w w' := by
  subst hp
  rcases (by omega : k < 0 ∨ (0 ≤ k ∧ b ≤ k) ∨ (0 ≤ k ∧ k < b)) with h | ⟨h0, h1⟩ | ⟨h0, h1⟩
  · rw [rowP_out (.inl h)]
    go_enter Tryz.func69, Tryz.ntmps69
    go_wp2
    go_ret
    exact ⟨rfl, (Kp.refl _ _).alloc _⟩
  · rw [rowP_out (.inr h1)]
    go_enter Tryz.func69, Tryz.ntmps69
    go_wp2
    go_ret
    exact ⟨rfl, (Kp.refl _ _).alloc _⟩
  · rw [rowP_in h0 h1, show (3 + t + g) + k * 1 = 3 + t + g + k from by omega]
    go_enter Tryz.func69, Tryz.ntmps69
    go_wp2
    go_ret
    exact ⟨rfl, (Kp.refl _ _).alloc _⟩

theorem rstart_is (t g b k p : Int) (w : World) (hp : rowP (3 + t + g + b) b 32 k = p) (t0 : 0 ≤ t) (t1 : t ≤ 64) (g0 : 0 ≤ g) (g1 : g ≤ 8) (b0 : 0 ≤ b) (b1 : b ≤ 64) : Calls Tryz.prog 66 #[.agg #[.int .i64 t, .int .i64 g, .int .i64 b], .int .i64 k] w fun e w' => e = .returned (.int .i64 p) ∧ Kp [] w w' := by
  subst hp
  rcases (by omega : k < 0 ∨ (0 ≤ k ∧ b ≤ k) ∨ (0 ≤ k ∧ k < b)) with h | ⟨h0, h1⟩ | ⟨h0, h1⟩
  · rw [rowP_out (.inl h)]
    go_enter Tryz.func66, Tryz.ntmps66
    go_wp2
    go_ret
    exact ⟨rfl, (Kp.refl _ _).alloc _⟩
  · rw [rowP_out (.inr h1)]
    go_enter Tryz.func66, Tryz.ntmps66
    go_wp2
    go_ret
    exact ⟨rfl, (Kp.refl _ _).alloc _⟩
  · rw [rowP_in h0 h1, show (3 + t + g + b) + k * 32 = 3 + t + g + b + 32 * k from by omega]
    go_enter Tryz.func66, Tryz.ntmps66
    go_wp2
    go_ret
    exact ⟨rfl, (Kp.refl _ _).alloc _⟩

end Go.Proofs.YtbpgkocbfleajaaGreatDoor.Ly

namespace Go.Proofs.YtbpgkocbfleajaaGreatDoor.Bm
set_option linter.unusedVariables false
set_option linter.unusedSimpArgs false
set_option maxRecDepth 100000
open Go.RowKit

/-- An array of 64 bools. -/
def bv (f : Nat → Bool) : Array Value := ((List.range 64).map fun i => Value.bool (f i)).toArray
theorem bv_size (f : Nat → Bool) : (bv f).size = 64 := by simp [bv]
theorem bv_get (f : Nat → Bool) (i : Nat) (h : i < 64) : (bv f)[i]? = some (.bool (f i)) := by simp [bv, h]
theorem bv_set (f : Nat → Bool) (i : Nat) (b : Bool) (g : Nat → Bool) (h : ∀ j, j < 64 → g j = if j = i then b else f j) : (bv f).setIfInBounds i (.bool b) = bv g := by
  apply Array.ext_getElem?
  intro j
  by_cases hj : j < 64
  · rw [bv_get g j hj, h j hj]
    by_cases e : i = j
    · subst e
      rw [Array.getElem?_setIfInBounds_self_of_lt (by rw [bv_size]; exact hj)]; simp
    · rw [Array.getElem?_setIfInBounds_ne e, bv_get f j hj, if_neg (fun q => e q.symm)]
  · rw [Array.getElem?_eq_none (by rw [Array.size_setIfInBounds, bv_size]; omega), Array.getElem?_eq_none (by rw [bv_size]; omega)]
theorem bv_one (f : Nat → Bool) : (bv f).all (·.oneCell') = true := by
  rw [Array.all_eq_true]
  intro i hi
  have hi' : i < 64 := by rwa [bv_size] at hi
  have := bv_get f i hi'
  rw [Array.getElem?_eq_getElem hi] at this
  injection this with this
  rw [this]; rfl
theorem bv_info : (Tryz.prog.info? 131).map (fun i => (i.zero, i.size)) = some (some (.agg (bv fun _ => false)), 64) := by kernel_rfl

/-- The block that was made last holds an array of bools. -/
theorem bv_cell (w : World) (f : Nat → Bool) (k : Nat) (hk : k < 64) (b : Nat) (hb : b = w.heap.size) : (w.alloc (.cells (bv f) 131)).cell? ⟨b, k, none⟩ = some (.bool (f k)) := by
  subst hb
  rw [cell_of_row (heap_alloc_last w _) k, bv_get f k hk]
theorem bv_free (w : World) (f : Nat → Bool) (k : Nat) (b : Nat) (hb : b = w.heap.size) : (w.alloc (.cells (bv f) 131)).frozen? ⟨b, k, none⟩ = false := by
  subst hb
  exact free_of_row (heap_alloc_last w _) k

theorem bv_szs : (Tryz.prog.info? 131).map (·.size) = some 64 := (zero_of_info bv_info).2

/-- The whole array is loaded, and stored. -/
theorem bv_load {w : World} {ops : Array Oper} {rest : List Oper} {o : Oper} {a : Act} {Q : Exit → Act → World → Prop} (hgd : o.guard = none) (x : Operand) (ho : o.op = .load 131 x) (g : Nat) (hx : a.eval x = .pointer (some ⟨g, 0, none⟩))
    (f : Nat → Bool) (hg : w.heap[g]? = some (.cells (bv f) 131 (0, 0))) (h : wpList Tryz.prog ops Q rest (a.put o.dst (.agg (bv f))) w) : wpList Tryz.prog ops Q (o :: rest) a w :=
  wpList_load_row hgd 131 x ho g hx 131 (bv f) (0, 0) _ hg Tryz.underlying131 rfl (by rw [bv_szs, bv_size]) h
theorem bv_store {w : World} {ops : Array Oper} {rest : List Oper} {o : Oper} {a : Act} {Q : Exit → Act → World → Prop} (hgd : o.guard = none) (x y : Operand) (ho : o.op = .store 131 x y) (g : Nat) (hx : a.eval x = .pointer (some ⟨g, 0, none⟩))
    (f : Nat → Bool) (hy : a.eval y = .agg (bv f)) (f0 : Nat → Bool) (hg : w.heap[g]? = some (.cells (bv f0) 131 (0, 0))) (h : wpList Tryz.prog ops Q rest (a.put o.dst undef) (w.setRow g (bv f))) : wpList Tryz.prog ops Q (o :: rest) a w :=
  wpList_store_row hgd 131 x y ho g (bv f) hx hy 131 (bv f0) hg (by rw [bv_szs, bv_size]) (by rw [bv_size, bv_size]) (bv_one f) h

theorem bit_of_half (x y k : Nat) (h : y = x / 2 ^ k) : ((y : Int) % 2 == 1) = x.testBit k := by
  rw [Nat.testBit_eq_decide_div_mod_eq, ← h, Bool.eq_iff_iff]
  simp only [beq_iff_eq, decide_eq_true_eq]
  omega
theorem bv_congr {f g : Nat → Bool} (h : ∀ j, j < 64 → f j = g j) : bv f = bv g := by
  apply Array.ext_getElem?
  intro j
  by_cases hj : j < 64
  · rw [bv_get f j hj, bv_get g j hj, h j hj]
  · rw [Array.getElem?_eq_none (by rw [bv_size]; omega), Array.getElem?_eq_none (by rw [bv_size]; omega)]

theorem rbits_is (x : Nat) (w : World) (hx : x < 18446744073709551616) : Calls Tryz.prog 148 #[.int .u64 x] w fun e w' => e = .returned (.agg (bv fun i => x.testBit i)) ∧ Kp [] w w' := by
  obtain ⟨hz, hs⟩ := zero_of_info bv_info
  have HS := Lib.hid hs
  clear hs
  go_enter Tryz.func148, Tryz.ntmps148
  go_wp2
  go_loopg [0, 4] 64 (fun g xv iv wr => ∃ (k y : Nat) (f : Nat → Bool), k + g = 64 ∧ xv = .int .u64 y ∧ y < 18446744073709551616 ∧ Hid (y = x / 2 ^ k) ∧ iv = .int .i64 k ∧ Hid (∀ j, j < k → f j = x.testBit j) ∧
    wr = (w.alloc (.cells (bv fun _ => false) 131)).alloc (.cells (bv f) 131))
  case atStart => exact ⟨0, x, _, by omega, rfl, hx, by simp [Hid], rfl, fun j hj => absurd hj (by omega), rfl⟩
  case round =>
    obtain ⟨k, y, f, hkg, rfl, hy, HY, rfl, HF, rfl⟩ := hrel
    by_cases hk : k < 64
    · have hc := bv_cell (w.alloc (.cells (bv fun _ => false) 131)) f k hk (w.heap.size + 1) (by simp)
      have hf := bv_free (w.alloc (.cells (bv fun _ => false) 131)) f k (w.heap.size + 1) (by simp)
      go_wp2
      go_roundg (64 - (k + 1))
      case rel =>
        refine ⟨k + 1, y / 2, fun j => if j = k then ((y : Int) % 2 == 1) else f j, by omega, by go_num, by omega, ?_, by go_num, fun j hj => ?_, ?_⟩
        · show y / 2 = x / 2 ^ (k + 1)
          rw [HY.out, Nat.div_div_eq_div_mul, Nat.pow_succ]
        · by_cases e : j = k
          · subst e
            simp only [if_true]; exact bit_of_half x y j HY.out
          · simp only [if_neg e]; exact HF.out j (by omega)
        · rw [bv_set f k _ (fun j => if j = k then ((y : Int) % 2 == 1) else f j) (fun j _ => rfl)]
      case measure => omega
    · have hb2 : bv f = bv fun i => x.testBit i := bv_congr fun j hj => HF.out j (by omega)
      rw [hb2]
      clear hb2
      have e1 := heap_alloc_last (w.alloc (.cells (bv fun _ => false) 131)) (.cells (bv fun i => x.testBit i) 131)
      rw [World.size_alloc] at e1
      have e0 := heap_alloc2_old w (.cells (bv fun _ => false) 131) (.cells (bv fun i => x.testBit i) 131)
      have H0 := Lib.hid e0
      have H1 := Lib.hid e1
      clear e0 e1
      go_wp2_with (first
        | refine bv_load rfl _ rfl (w.heap.size + 1) rfl _ H1.out ?_
        | refine bv_store rfl _ _ rfl w.heap.size rfl _ rfl _ H0.out ?_)
      exact bodyPost_row rfl w.heap.size 131 _ (0, 0) _ rfl rfl (setRow_heap _ _ _ _ _ _ H0.out) Tryz.underlying131 rfl (by rw [bv_szs, bv_size])
        ⟨rfl, (((Kp.refl [] w).alloc _).alloc _).setRow (.inr (Nat.le_refl _)) _⟩

theorem rword_is (f : Nat → Bool) (n : Nat) (w : World) (hn : wv f 0 64 = n) : Calls Tryz.prog 64 #[.agg (bv f)] w fun e w' => e = .returned (.int .u64 n) ∧ Kp [] w w' := by
  have HN := Lib.hid hn
  clear hn
  go_enter Tryz.func64, Tryz.ntmps64
  go_wp2
  go_loopg [3, 4] 64 (fun g nv iv wr => ∃ (m : Nat) (i : Int), g ≤ 64 ∧ nv = .int .u64 m ∧ Hid (m = wv f g (64 - g)) ∧ iv = .int .i64 i ∧ i + 1 = g ∧ wr = w.alloc (.cells (bv f) 131))
  case atStart => exact ⟨0, 63, by omega, rfl, rfl, rfl, by omega, rfl⟩
  case round =>
    obtain ⟨m, i, hg64, rfl, HM, rfl, hi, rfl⟩ := hrel
    by_cases h0 : gk = 0
    · subst h0
      obtain rfl : i = -1 := by omega
      obtain rfl : m = n := by rw [HM.out, ← HN.out]
      go_wp2
      go_ret
      exact ⟨rfl, (Kp.refl _ _).alloc _⟩
    · obtain ⟨q, rfl⟩ : ∃ q, gk = q + 1 := ⟨gk - 1, by omega⟩
      obtain rfl : i = q := by omega
      have hm : m < 2 ^ (64 - (q + 1)) := by rw [HM.out]; exact wv_lt _ _ _
      have hm2 : m < 9223372036854775808 := Nat.lt_of_lt_of_le hm (by
        have : 2 ^ (64 - (q + 1)) ≤ 2 ^ 63 := Nat.pow_le_pow_right (by omega) (by omega)
        exact this)
      clear hm
      have hc := bv_cell w f q (by omega) w.heap.size rfl
      have key : wv f q (64 - q) = (f q).toNat + 2 * m := by
        rw [show 64 - q = (64 - (q + 1)) + 1 from by omega, HM.out]; rfl
      have HK := Lib.hid key
      clear key
      cases hf : f q
      · rw [hf] at hc
        have HF := Lib.hid hf
        clear hf
        go_wp2
        go_roundg q
        case rel =>
          refine ⟨2 * m, (q : Int) - 1, by omega, by go_num, ?_, rfl, by omega, rfl⟩
          show _ = _
          rw [HK.out, HF.out]; simp
        case measure => omega
      · rw [hf] at hc
        have HF := Lib.hid hf
        clear hf
        go_wp2
        go_roundg q
        case rel =>
          refine ⟨1 + 2 * m, (q : Int) - 1, by omega, by go_num, ?_, rfl, by omega, rfl⟩
          show _ = _
          rw [HK.out, HF.out]; simp
        case measure => omega

theorem rall_num (b : Int) (n : Nat) (hn : 2 ^ min b.toNat 64 - 1 = n) (f : Nat → Bool) (hf : ∀ j, j < 64 → f j = decide ((j : Int) < b)) : wv f 0 64 = n := by
  subst hn
  have h0 := Nat.two_pow_pos (min b.toNat 64)
  have h1 : 2 ^ min b.toNat 64 ≤ 2 ^ 64 := Nat.pow_le_pow_right (by omega) (by omega)
  refine wv_of (by omega) fun i hi => ?_
  rw [hf i hi, Nat.testBit_two_pow_sub_one, Bool.eq_iff_iff]
  simp only [decide_eq_true_eq]
  omega

theorem rall_is (b : Int) (n : Nat) (w : World) (hn : 2 ^ min b.toNat 64 - 1 = n) : Calls Tryz.prog 35 #[.int .i64 b] w fun e w' => e = .returned (.int .u64 n) ∧ Kp [] w w' := by
  obtain ⟨hz, hs⟩ := zero_of_info bv_info
  have HN := Lib.hid hn
  clear hn hs
  go_enter Tryz.func35, Tryz.ntmps35
  go_wp2
  go_loopg [4] 64 (fun g iv wr => ∃ (k : Nat) (f : Nat → Bool), k + g = 64 ∧ iv = .int .i64 k ∧ Hid (∀ j, j < k → f j = decide ((j : Int) < b)) ∧ wr = w.alloc (.cells (bv f) 131))
  case atStart => exact ⟨0, _, by omega, rfl, fun j hj => absurd hj (by omega), rfl⟩
  case round =>
    obtain ⟨k, f, hkg, rfl, HF, rfl⟩ := hrel
    by_cases hk : k < 64
    · have hc := bv_cell w f k hk w.heap.size rfl
      have hf := bv_free w f k w.heap.size rfl
      go_wp2
      go_roundg (64 - (k + 1))
      case rel =>
        refine ⟨k + 1, fun j => if j = k then decide ((k : Int) < b) else f j, by omega, by go_num, fun j hj => ?_, ?_⟩
        · by_cases e : j = k
          · subst e
            simp only [if_true]
          · simp only [if_neg e]; exact HF.out j (by omega)
        · rw [bv_set f k _ (fun j => if j = k then decide ((k : Int) < b) else f j) (fun j _ => rfl)]
      case measure => omega
    · have hw := rword_is f n (w.alloc (.cells (bv f) 131)) (rall_num b n HN.out f fun j hj => HF.out j (by omega))
      have H0 := Lib.hid (heap_alloc_last w (.cells (bv f) 131))
      go_wp2_with (first
        | refine bv_load rfl _ rfl w.heap.size rfl _ H0.out ?_
        | ((with_reducible refine hw.mono ?_); rintro e w1 ⟨rfl, hkp⟩))
      go_ret
      exact ⟨rfl, ((Kp.refl [] w).alloc _).trans (hkp.mono (by simp))⟩

/-- Is: no such run. -/
theorem ris_out (x : Nat) (k r : Int) (b : Bool) (w : World) (h : ¬ (1 ≤ r ∧ r ≤ 3 ∧ 0 ≤ k ∧ k + r ≤ 64)) : Calls Tryz.prog 147 #[.int .u64 x, .int .i64 k, .int .i64 r, .bool b] w fun e w' => e = .returned (.bool false) ∧ Kp [] w w' := by
  rcases (by omega : r < 1 ∨ (1 ≤ r ∧ 3 < r) ∨ (1 ≤ r ∧ r ≤ 3 ∧ k < 0) ∨ (1 ≤ r ∧ r ≤ 3 ∧ 0 ≤ k ∧ 63 < k) ∨ (1 ≤ r ∧ r ≤ 3 ∧ 0 ≤ k ∧ k ≤ 63 ∧ 64 < k + r)) with h1 | ⟨h1, h2⟩ | ⟨h1, h2, h3⟩ | ⟨h1, h2, h3, h4⟩ | ⟨h1, h2, h3, h4, h5⟩
  all_goals (
    clear h
    go_enter Tryz.func147, Tryz.ntmps147
    go_wp2
    go_ret
    exact ⟨rfl, Kp.refl _ _⟩)

theorem ris_in (x : Nat) (k r : Nat) (b q : Bool) (w : World) (hx : x < 18446744073709551616) (h1 : 1 ≤ r) (h2 : r ≤ 3) (h3 : k + r ≤ 64) (hq : allN x k r b = q) : Calls Tryz.prog 147 #[.int .u64 x, .int .i64 k, .int .i64 r, .bool b] w fun e w' => e = .returned (.bool q) ∧ Kp [] w w' := by
  obtain ⟨hz, hs⟩ := zero_of_info bv_info
  have kb := rbits_is x w hx
  have HQ := Lib.hid hq
  clear hq hs
  go_enter Tryz.func147, Tryz.ntmps147
  go_wp2_with (first
    | ((with_reducible refine kb.mono ?_); rintro e w1 ⟨rfl, hkp⟩; have H1 := Lib.hid (heap_alloc_last w1 (.cells (bv fun _ => false) 131)))
    | (refine bv_store rfl _ _ rfl w1.heap.size rfl _ rfl _ H1.out ?_; rw [World.setRow_alloc_new]))
  clear kb H1
  go_loopg [10] r (fun g iv wr => ∃ j : Nat, j + g = r ∧ iv = .int .i64 j ∧ Hid (∀ i, i < j → x.testBit (k + i) = b) ∧ wr = w1.alloc (.cells (bv fun i => x.testBit i) 131))
  case atStart => exact ⟨0, by omega, rfl, fun i hi => absurd hi (by omega), rfl⟩
  case round =>
    obtain ⟨j, hjg, rfl, HI, rfl⟩ := hrel
    by_cases hj : j < r
    · have hc := bv_cell w1 (fun i => x.testBit i) (k + j) (by omega) w1.heap.size rfl
      cases hb : x.testBit (k + j) <;> cases b
      all_goals (
        rw [hb] at hc
        have HB := Lib.hid hb
        clear hb)
      · go_wp2
        go_roundg (r - (j + 1))
        case rel =>
          refine ⟨j + 1, by omega, by go_num, fun i hi => ?_, rfl⟩
          by_cases e : i = j
          · subst e; exact HB.out
          · exact HI.out i (by omega)
        case measure => omega
      · obtain rfl : q = false := by
          rw [← HQ.out]
          refine decide_eq_false fun h => ?_
          have := h j hj
          rw [HB.out] at this
          exact absurd this (by decide)
        go_wp2
        go_ret
        exact ⟨rfl, hkp.alloc _⟩
      · obtain rfl : q = false := by
          rw [← HQ.out]
          refine decide_eq_false fun h => ?_
          have := h j hj
          rw [HB.out] at this
          exact absurd this (by decide)
        go_wp2
        go_ret
        exact ⟨rfl, hkp.alloc _⟩
      · go_wp2
        go_roundg (r - (j + 1))
        case rel =>
          refine ⟨j + 1, by omega, by go_num, fun i hi => ?_, rfl⟩
          by_cases e : i = j
          · subst e; exact HB.out
          · exact HI.out i (by omega)
        case measure => omega
    · obtain rfl : q = true := by
        rw [← HQ.out]
        exact decide_eq_true fun i hi => HI.out i (by omega)
      go_wp2
      go_ret
      exact ⟨rfl, hkp.alloc _⟩

theorem ris_is (x : Nat) (k r : Int) (b q : Bool) (w : World) (hx : x < 18446744073709551616) (hq : isR x k r b = q) : Calls Tryz.prog 147 #[.int .u64 x, .int .i64 k, .int .i64 r, .bool b] w fun e w' => e = .returned (.bool q) ∧ Kp [] w w' := by
  by_cases h : 1 ≤ r ∧ r ≤ 3 ∧ 0 ≤ k ∧ k + r ≤ 64
  · obtain ⟨r', rfl⟩ := Int.eq_ofNat_of_zero_le (show 0 ≤ r by omega)
    obtain ⟨k', rfl⟩ := Int.eq_ofNat_of_zero_le h.2.2.1
    refine ris_in x k' r' b q w hx (by omega) (by omega) (by omega) ?_
    simp only [isR, decide_eq_true h, Bool.true_and] at hq
    exact hq
  · obtain rfl : q = false := by rw [← hq]; simp only [isR, decide_eq_false h, Bool.false_and]
    exact ris_out x k r b w h

theorem rwith_is (x : Nat) (k r n : Nat) (b : Bool) (w : World) (hx : x < 18446744073709551616) (h1 : 1 ≤ r) (h2 : r ≤ 3) (h3 : k + r ≤ 64) (hn : setN x k r b = n) : Calls Tryz.prog 127 #[.int .u64 x, .int .i64 k, .int .i64 r, .bool b] w fun e w' => e = .returned (.int .u64 n) ∧ Kp [] w w' := by
  obtain ⟨hz, hs⟩ := zero_of_info bv_info
  have kb := rbits_is x w hx
  have HN := Lib.hid hn
  clear hn hs
  go_enter Tryz.func127, Tryz.ntmps127
  go_wp2_with (first
    | ((with_reducible refine kb.mono ?_); rintro e w1 ⟨rfl, hkp⟩; have H1 := Lib.hid (heap_alloc_last w1 (.cells (bv fun _ => false) 131)))
    | (refine bv_store rfl _ _ rfl w1.heap.size rfl _ rfl _ H1.out ?_; rw [World.setRow_alloc_new]))
  clear kb H1
  go_loopg [10] r (fun g iv wr => ∃ (j : Nat) (f : Nat → Bool), j + g = r ∧ iv = .int .i64 j ∧ Hid (∀ i, i < 64 → f i = if k ≤ i ∧ i < k + j then b else x.testBit i) ∧ wr = w1.alloc (.cells (bv f) 131))
  case atStart => exact ⟨0, _, by omega, rfl, fun i hi => by rw [if_neg (by omega)], rfl⟩
  case round =>
    obtain ⟨j, f, hjg, rfl, HF, rfl⟩ := hrel
    by_cases hj : j < r
    · have hc := bv_cell w1 f (k + j) (by omega) w1.heap.size rfl
      have hf := bv_free w1 f (k + j) w1.heap.size rfl
      go_wp2
      go_roundg (r - (j + 1))
      case rel =>
        refine ⟨j + 1, fun i => if i = k + j then b else f i, by omega, by go_num, fun i hi => ?_, ?_⟩
        · by_cases e : i = k + j
          · subst e
            simp only [if_true]; rw [if_pos (by omega)]
          · simp only [if_neg e]; rw [HF.out i hi]
            by_cases c : k ≤ i ∧ i < k + j
            · rw [if_pos c, if_pos (by omega)]
            · rw [if_neg c, if_neg (by omega)]
        · rw [bv_set f (k + j) _ (fun i => if i = k + j then b else f i) (fun i _ => rfl)]
      case measure => omega
    · obtain rfl : j = r := by omega
      have hw := rword_is f n (w1.alloc (.cells (bv f) 131)) (by
        rw [← HN.out, setN]
        exact wv_of (wv_lt _ 64 0) fun i hi => by rw [HF.out i hi, wv_bit]; simp [hi])
      have H0 := Lib.hid (heap_alloc_last w1 (.cells (bv f) 131))
      go_wp2_with (first
        | refine bv_load rfl _ rfl w1.heap.size rfl _ H0.out ?_
        | ((with_reducible refine hw.mono ?_); rintro e w2 ⟨rfl, hk2⟩))
      go_ret
      exact ⟨rfl, (hkp.alloc _).trans (hk2.mono (by simp))⟩

theorem rfind_is (x : Nat) (r o : Int) (w : World) (hx : x < 18446744073709551616) (hyes : ∀ k : Nat, isR x k r true = true → (∀ j : Nat, j < k → isR x j r true = false) → o = k) (hno : (∀ j : Nat, j < 64 → isR x j r true = false) → o = -1) :
    Calls Tryz.prog 126 #[.int .u64 x, .int .i64 r] w fun e w' => e = .returned (.int .i64 o) ∧ Kp [] w w' := by
  have HY := Lib.hid hyes
  have HN := Lib.hid hno
  clear hyes hno
  go_enter Tryz.func126, Tryz.ntmps126
  go_wp2
  go_loopg [5] 64 (fun g iv wr => ∃ k : Nat, k + g = 64 ∧ iv = .int .i64 k ∧ Hid (∀ j : Nat, j < k → isR x j r true = false) ∧ Kp [] w wr)
  case atStart => exact ⟨0, by omega, rfl, fun i hi => absurd hi (by omega), Kp.refl _ _⟩
  case round =>
    obtain ⟨k, hkg, rfl, HB, hkp⟩ := hrel
    by_cases hk : k < 64
    · cases hb : isR x k r true
      · have ki := ris_is x k r true false wr hx hb
        have HI := Lib.hid hb
        clear hb
        go_wp2_with ((with_reducible refine ki.mono ?_); rintro e w2 ⟨rfl, hk2⟩)
        go_roundg (64 - (k + 1))
        case rel =>
          refine ⟨k + 1, by omega, by go_num, fun j hj => ?_, hkp.trans (hk2.mono (by simp))⟩
          by_cases e : j = k
          · subst e; exact HI.out
          · exact HB.out j (by omega)
        case measure => omega
      · have ki := ris_is x k r true true wr hx hb
        obtain rfl := HY.out k hb HB.out
        clear hb
        go_wp2_with ((with_reducible refine ki.mono ?_); rintro e w2 ⟨rfl, hk2⟩)
        go_ret
        exact ⟨rfl, hkp.trans (hk2.mono (by simp))⟩
    · obtain rfl := HN.out fun j hj => HB.out j (by omega)
      go_wp2
      go_ret
      exact ⟨rfl, hkp⟩

end Go.Proofs.YtbpgkocbfleajaaGreatDoor.Bm
