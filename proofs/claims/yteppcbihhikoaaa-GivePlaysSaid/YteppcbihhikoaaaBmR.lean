/- The walks of the document's own bitmap (demesneref04). Conditions: as each theorem states them. -/
import Derived.Test.YteppcbihhikoaaaBmF
import Derived.Test.YteppcbihhikoaaaLaw
import Derived.Deep.WholeRow
import Derived.OwnWalk
namespace Go.Proofs.Yteppcbihhikoaaa.Bm
set_option linter.unusedVariables false
set_option linter.unusedSimpArgs false
set_option maxRecDepth 100000
open Go.RowKit

/-- An array of 64 bools. -/
def bv (f : Nat → Bool) : Array Value := ((List.range 64).map fun i => Value.bool (f i)).toArray
theorem bv_size (f : Nat → Bool) : (bv f).size = 64 := by simp [bv]
theorem bv_get (f : Nat → Bool) (i : Nat) (h : i < 64) : (bv f)[i]? = some (.bool (f i)) := by simp [bv, h]
theorem bv_set (f : Nat → Bool) (i : Nat) (b : Bool) (g : Nat → Bool) (h : ∀ j, j < 64 → g j = if j = i then b else f j) : (bv f).setIfInBounds i (.bool b) = bv g := by
  apply Array.ext_getElem?
  intro j
  by_cases hj : j < 64
  · rw [bv_get g j hj, h j hj]
    by_cases e : i = j
    · subst e
      rw [Array.getElem?_setIfInBounds_self_of_lt (by rw [bv_size]; exact hj)]; simp
    · rw [Array.getElem?_setIfInBounds_ne e, bv_get f j hj, if_neg (fun q => e q.symm)]
  · rw [Array.getElem?_eq_none (by rw [Array.size_setIfInBounds, bv_size]; omega), Array.getElem?_eq_none (by rw [bv_size]; omega)]
theorem bv_one (f : Nat → Bool) : (bv f).all (·.oneCell') = true := by
  rw [Array.all_eq_true]
  intro i hi
  have hi' : i < 64 := by rwa [bv_size] at hi
  have := bv_get f i hi'
  rw [Array.getElem?_eq_getElem hi] at this
  injection this with this
  rw [this]; rfl
theorem bv_info : (Try.prog.info? 89).map (fun i => (i.zero, i.size)) = some (some (.agg (bv fun _ => false)), 64) := by kernel_rfl

/-- The block that was made last holds an array of bools. -/
theorem bv_cell (w : World) (f : Nat → Bool) (k : Nat) (hk : k < 64) (b : Nat) (hb : b = w.heap.size) : (w.alloc (.cells (bv f) 89)).cell? ⟨b, k, none⟩ = some (.bool (f k)) := by
  subst hb
  rw [cell_of_row (heap_alloc_last w _) k, bv_get f k hk]
theorem bv_free (w : World) (f : Nat → Bool) (k : Nat) (b : Nat) (hb : b = w.heap.size) : (w.alloc (.cells (bv f) 89)).frozen? ⟨b, k, none⟩ = false := by
  subst hb
  exact free_of_row (heap_alloc_last w _) k

theorem bv_szs : (Try.prog.info? 89).map (·.size) = some 64 := (zero_of_info bv_info).2

/-- The whole array is loaded, and stored. -/
theorem bv_load {w : World} {ops : Array Oper} {rest : List Oper} {o : Oper} {a : Act} {Q : Exit → Act → World → Prop} (hgd : o.guard = none) (x : Operand) (ho : o.op = .load 89 x) (g : Nat) (hx : a.eval x = .pointer (some ⟨g, 0, none⟩))
    (f : Nat → Bool) (hg : w.heap[g]? = some (.cells (bv f) 89 (0, 0))) (h : wpList Try.prog ops Q rest (a.put o.dst (.agg (bv f))) w) : wpList Try.prog ops Q (o :: rest) a w :=
  wpList_load_row hgd 89 x ho g hx 89 (bv f) (0, 0) _ hg Try.underlying89 rfl (by rw [bv_szs, bv_size]) h
theorem bv_store {w : World} {ops : Array Oper} {rest : List Oper} {o : Oper} {a : Act} {Q : Exit → Act → World → Prop} (hgd : o.guard = none) (x y : Operand) (ho : o.op = .store 89 x y) (g : Nat) (hx : a.eval x = .pointer (some ⟨g, 0, none⟩))
    (f : Nat → Bool) (hy : a.eval y = .agg (bv f)) (f0 : Nat → Bool) (hg : w.heap[g]? = some (.cells (bv f0) 89 (0, 0))) (h : wpList Try.prog ops Q rest (a.put o.dst undef) (w.setRow g (bv f))) : wpList Try.prog ops Q (o :: rest) a w :=
  wpList_store_row hgd 89 x y ho g (bv f) hx hy 89 (bv f0) hg (by rw [bv_szs, bv_size]) (by rw [bv_size, bv_size]) (bv_one f) h

theorem bit_of_half (x y k : Nat) (h : y = x / 2 ^ k) : ((y : Int) % 2 == 1) = x.testBit k := by
  rw [Nat.testBit_eq_decide_div_mod_eq, ← h, Bool.eq_iff_iff]
  simp only [beq_iff_eq, decide_eq_true_eq]
  omega
theorem bv_congr {f g : Nat → Bool} (h : ∀ j, j < 64 → f j = g j) : bv f = bv g := by
  apply Array.ext_getElem?
  intro j
  by_cases hj : j < 64
  · rw [bv_get f j hj, bv_get g j hj, h j hj]
  · rw [Array.getElem?_eq_none (by rw [bv_size]; omega), Array.getElem?_eq_none (by rw [bv_size]; omega)]

theorem rbits_is (x : Nat) (w : World) (hx : x < 18446744073709551616) : Calls Try.prog 53 #[.int .u64 x] w fun e w' => e = .returned (.agg (bv fun i => x.testBit i)) ∧ Kp [] w w' := by
  obtain ⟨hz, hs⟩ := zero_of_info bv_info
  have HS := Lib.hid hs
  clear hs
  go_enter Try.func53, Try.ntmps53
  go_wp2
  go_loopg [0, 4] 64 (fun g xv iv wr => ∃ (k y : Nat) (f : Nat → Bool), k + g = 64 ∧ xv = .int .u64 y ∧ y < 18446744073709551616 ∧ Hid (y = x / 2 ^ k) ∧ iv = .int .i64 k ∧ Hid (∀ j, j < k → f j = x.testBit j) ∧
    wr = (w.alloc (.cells (bv fun _ => false) 89)).alloc (.cells (bv f) 89))
  case atStart => exact ⟨0, x, _, by omega, rfl, hx, by simp [Hid], rfl, fun j hj => absurd hj (by omega), rfl⟩
  case round =>
    obtain ⟨k, y, f, hkg, rfl, hy, HY, rfl, HF, rfl⟩ := hrel
    by_cases hk : k < 64
    · have hc := bv_cell (w.alloc (.cells (bv fun _ => false) 89)) f k hk (w.heap.size + 1) (by simp)
      have hf := bv_free (w.alloc (.cells (bv fun _ => false) 89)) f k (w.heap.size + 1) (by simp)
      go_wp2
      go_roundg (64 - (k + 1))
      case rel =>
        refine ⟨k + 1, y / 2, fun j => if j = k then ((y : Int) % 2 == 1) else f j, by omega, by go_num, by omega, ?_, by go_num, fun j hj => ?_, ?_⟩
        · show y / 2 = x / 2 ^ (k + 1)
          rw [HY.out, Nat.div_div_eq_div_mul, Nat.pow_succ]
        · by_cases e : j = k
          · subst e
            simp only [if_true]; exact bit_of_half x y j HY.out
          · simp only [if_neg e]; exact HF.out j (by omega)
        · rw [bv_set f k _ (fun j => if j = k then ((y : Int) % 2 == 1) else f j) (fun j _ => rfl)]
      case measure => omega
    · have hb2 : bv f = bv fun i => x.testBit i := bv_congr fun j hj => HF.out j (by omega)
      rw [hb2]
      clear hb2
      have e1 := heap_alloc_last (w.alloc (.cells (bv fun _ => false) 89)) (.cells (bv fun i => x.testBit i) 89)
      rw [World.size_alloc] at e1
      have e0 := heap_alloc2_old w (.cells (bv fun _ => false) 89) (.cells (bv fun i => x.testBit i) 89)
      have H0 := Lib.hid e0
      have H1 := Lib.hid e1
      clear e0 e1
      go_wp2_with (first
        | refine bv_load rfl _ rfl (w.heap.size + 1) rfl _ H1.out ?_
        | refine bv_store rfl _ _ rfl w.heap.size rfl _ rfl _ H0.out ?_)
      exact bodyPost_row rfl w.heap.size 89 _ (0, 0) _ rfl rfl (setRow_heap _ _ _ _ _ _ H0.out) Try.underlying89 rfl (by rw [bv_szs, bv_size])
        ⟨rfl, (((Kp.refl [] w).alloc _).alloc _).setRow (.inr (Nat.le_refl _)) _⟩

theorem rword_is (f : Nat → Bool) (n : Nat) (w : World) (hn : wv f 0 64 = n) : Calls Try.prog 49 #[.agg (bv f)] w fun e w' => e = .returned (.int .u64 n) ∧ Kp [] w w' := by
  have HN := Lib.hid hn
  clear hn
  go_enter Try.func49, Try.ntmps49
  go_wp2
  go_loopg [3, 4] 64 (fun g nv iv wr => ∃ (m : Nat) (i : Int), g ≤ 64 ∧ nv = .int .u64 m ∧ Hid (m = wv f g (64 - g)) ∧ iv = .int .i64 i ∧ i + 1 = g ∧ wr = w.alloc (.cells (bv f) 89))
  case atStart => exact ⟨0, 63, by omega, rfl, rfl, rfl, by omega, rfl⟩
  case round =>
    obtain ⟨m, i, hg64, rfl, HM, rfl, hi, rfl⟩ := hrel
    by_cases h0 : gk = 0
    · subst h0
      obtain rfl : i = -1 := by omega
      obtain rfl : m = n := by rw [HM.out, ← HN.out]
      go_wp2
      go_ret
      exact ⟨rfl, (Kp.refl _ _).alloc _⟩
    · obtain ⟨q, rfl⟩ : ∃ q, gk = q + 1 := ⟨gk - 1, by omega⟩
      obtain rfl : i = q := by omega
      have hm : m < 2 ^ (64 - (q + 1)) := by rw [HM.out]; exact wv_lt _ _ _
      have hm2 : m < 9223372036854775808 := Nat.lt_of_lt_of_le hm (by
        have : 2 ^ (64 - (q + 1)) ≤ 2 ^ 63 := Nat.pow_le_pow_right (by omega) (by omega)
        exact this)
      clear hm
      have hc := bv_cell w f q (by omega) w.heap.size rfl
      have key : wv f q (64 - q) = (f q).toNat + 2 * m := by
        rw [show 64 - q = (64 - (q + 1)) + 1 from by omega, HM.out]; rfl
      have HK := Lib.hid key
      clear key
      cases hf : f q
      · rw [hf] at hc
        have HF := Lib.hid hf
        clear hf
        go_wp2
        go_roundg q
        case rel =>
          refine ⟨2 * m, (q : Int) - 1, by omega, by go_num, ?_, rfl, by omega, rfl⟩
          show _ = _
          rw [HK.out, HF.out]; simp
        case measure => omega
      · rw [hf] at hc
        have HF := Lib.hid hf
        clear hf
        go_wp2
        go_roundg q
        case rel =>
          refine ⟨1 + 2 * m, (q : Int) - 1, by omega, by go_num, ?_, rfl, by omega, rfl⟩
          show _ = _
          rw [HK.out, HF.out]; simp
        case measure => omega

theorem rall_num (b : Int) (n : Nat) (hn : 2 ^ min b.toNat 64 - 1 = n) (f : Nat → Bool) (hf : ∀ j, j < 64 → f j = decide ((j : Int) < b)) : wv f 0 64 = n := by
  subst hn
  have h0 := Nat.two_pow_pos (min b.toNat 64)
  have h1 : 2 ^ min b.toNat 64 ≤ 2 ^ 64 := Nat.pow_le_pow_right (by omega) (by omega)
  refine wv_of (by omega) fun i hi => ?_
  rw [hf i hi, Nat.testBit_two_pow_sub_one, Bool.eq_iff_iff]
  simp only [decide_eq_true_eq]
  omega

theorem rall_is (b : Int) (n : Nat) (w : World) (hn : 2 ^ min b.toNat 64 - 1 = n) : Calls Try.prog 28 #[.int .i64 b] w fun e w' => e = .returned (.int .u64 n) ∧ Kp [] w w' := by
  obtain ⟨hz, hs⟩ := zero_of_info bv_info
  have HN := Lib.hid hn
  clear hn hs
  go_enter Try.func28, Try.ntmps28
  go_wp2
  go_loopg [4] 64 (fun g iv wr => ∃ (k : Nat) (f : Nat → Bool), k + g = 64 ∧ iv = .int .i64 k ∧ Hid (∀ j, j < k → f j = decide ((j : Int) < b)) ∧ wr = w.alloc (.cells (bv f) 89))
  case atStart => exact ⟨0, _, by omega, rfl, fun j hj => absurd hj (by omega), rfl⟩
  case round =>
    obtain ⟨k, f, hkg, rfl, HF, rfl⟩ := hrel
    by_cases hk : k < 64
    · have hc := bv_cell w f k hk w.heap.size rfl
      have hf := bv_free w f k w.heap.size rfl
      go_wp2
      go_roundg (64 - (k + 1))
      case rel =>
        refine ⟨k + 1, fun j => if j = k then decide ((k : Int) < b) else f j, by omega, by go_num, fun j hj => ?_, ?_⟩
        · by_cases e : j = k
          · subst e
            simp only [if_true]
          · simp only [if_neg e]; exact HF.out j (by omega)
        · rw [bv_set f k _ (fun j => if j = k then decide ((k : Int) < b) else f j) (fun j _ => rfl)]
      case measure => omega
    · have hw := rword_is f n (w.alloc (.cells (bv f) 89)) (rall_num b n HN.out f fun j hj => HF.out j (by omega))
      have H0 := Lib.hid (heap_alloc_last w (.cells (bv f) 89))
      go_wp2_with (first
        | refine bv_load rfl _ rfl w.heap.size rfl _ H0.out ?_
        | ((with_reducible refine hw.mono ?_); rintro e w1 ⟨rfl, hkp⟩))
      go_ret
      exact ⟨rfl, ((Kp.refl [] w).alloc _).trans (hkp.mono (by simp))⟩

/-- Is: no such run. -/
theorem ris_out (x : Nat) (k r : Int) (b : Bool) (w : World) (h : ¬ (1 ≤ r ∧ r ≤ 3 ∧ 0 ≤ k ∧ k + r ≤ 64)) : Calls Try.prog 39 #[.int .u64 x, .int .i64 k, .int .i64 r, .bool b] w fun e w' => e = .returned (.bool false) ∧ Kp [] w w' := by
  rcases (by omega : r < 1 ∨ (1 ≤ r ∧ 3 < r) ∨ (1 ≤ r ∧ r ≤ 3 ∧ k < 0) ∨ (1 ≤ r ∧ r ≤ 3 ∧ 0 ≤ k ∧ 63 < k) ∨ (1 ≤ r ∧ r ≤ 3 ∧ 0 ≤ k ∧ k ≤ 63 ∧ 64 < k + r)) with h1 | ⟨h1, h2⟩ | ⟨h1, h2, h3⟩ | ⟨h1, h2, h3, h4⟩ | ⟨h1, h2, h3, h4, h5⟩
  all_goals (
    clear h
    go_enter Try.func39, Try.ntmps39
    go_wp2
    go_ret
    exact ⟨rfl, Kp.refl _ _⟩)

theorem ris_in (x : Nat) (k r : Nat) (b q : Bool) (w : World) (hx : x < 18446744073709551616) (h1 : 1 ≤ r) (h2 : r ≤ 3) (h3 : k + r ≤ 64) (hq : allN x k r b = q) : Calls Try.prog 39 #[.int .u64 x, .int .i64 k, .int .i64 r, .bool b] w fun e w' => e = .returned (.bool q) ∧ Kp [] w w' := by
  obtain ⟨hz, hs⟩ := zero_of_info bv_info
  have kb := rbits_is x w hx
  have HQ := Lib.hid hq
  clear hq hs
  go_enter Try.func39, Try.ntmps39
  go_wp2_with (first
    | ((with_reducible refine kb.mono ?_); rintro e w1 ⟨rfl, hkp⟩; have H1 := Lib.hid (heap_alloc_last w1 (.cells (bv fun _ => false) 89)))
    | (refine bv_store rfl _ _ rfl w1.heap.size rfl _ rfl _ H1.out ?_; rw [World.setRow_alloc_new]))
  clear kb H1
  go_loopg [10] r (fun g iv wr => ∃ j : Nat, j + g = r ∧ iv = .int .i64 j ∧ Hid (∀ i, i < j → x.testBit (k + i) = b) ∧ wr = w1.alloc (.cells (bv fun i => x.testBit i) 89))
  case atStart => exact ⟨0, by omega, rfl, fun i hi => absurd hi (by omega), rfl⟩
  case round =>
    obtain ⟨j, hjg, rfl, HI, rfl⟩ := hrel
    by_cases hj : j < r
    · have hc := bv_cell w1 (fun i => x.testBit i) (k + j) (by omega) w1.heap.size rfl
      cases hb : x.testBit (k + j) <;> cases b
      all_goals (
        rw [hb] at hc
        have HB := Lib.hid hb
        clear hb)
      · go_wp2
        go_roundg (r - (j + 1))
        case rel =>
          refine ⟨j + 1, by omega, by go_num, fun i hi => ?_, rfl⟩
          by_cases e : i = j
          · subst e; exact HB.out
          · exact HI.out i (by omega)
        case measure => omega
      · obtain rfl : q = false := by
          rw [← HQ.out]
          refine decide_eq_false fun h => ?_
          have := h j hj
          rw [HB.out] at this
          exact absurd this (by decide)
        go_wp2
        go_ret
        exact ⟨rfl, hkp.alloc _⟩
      · obtain rfl : q = false := by
          rw [← HQ.out]
          refine decide_eq_false fun h => ?_
          have := h j hj
          rw [HB.out] at this
          exact absurd this (by decide)
        go_wp2
        go_ret
        exact ⟨rfl, hkp.alloc _⟩
      · go_wp2
        go_roundg (r - (j + 1))
        case rel =>
          refine ⟨j + 1, by omega, by go_num, fun i hi => ?_, rfl⟩
          by_cases e : i = j
          · subst e; exact HB.out
          · exact HI.out i (by omega)
        case measure => omega
    · obtain rfl : q = true := by
        rw [← HQ.out]
        exact decide_eq_true fun i hi => HI.out i (by omega)
      go_wp2
      go_ret
      exact ⟨rfl, hkp.alloc _⟩

theorem ris_is (x : Nat) (k r : Int) (b q : Bool) (w : World) (hx : x < 18446744073709551616) (hq : isR x k r b = q) : Calls Try.prog 39 #[.int .u64 x, .int .i64 k, .int .i64 r, .bool b] w fun e w' => e = .returned (.bool q) ∧ Kp [] w w' := by
  by_cases h : 1 ≤ r ∧ r ≤ 3 ∧ 0 ≤ k ∧ k + r ≤ 64
  · obtain ⟨r', rfl⟩ := Int.eq_ofNat_of_zero_le (show 0 ≤ r by omega)
    obtain ⟨k', rfl⟩ := Int.eq_ofNat_of_zero_le h.2.2.1
    refine ris_in x k' r' b q w hx (by omega) (by omega) (by omega) ?_
    simp only [isR, decide_eq_true h, Bool.true_and] at hq
    exact hq
  · obtain rfl : q = false := by rw [← hq]; simp only [isR, decide_eq_false h, Bool.false_and]
    exact ris_out x k r b w h

theorem rwith_is (x : Nat) (k r n : Nat) (b : Bool) (w : World) (hx : x < 18446744073709551616) (h1 : 1 ≤ r) (h2 : r ≤ 3) (h3 : k + r ≤ 64) (hn : setN x k r b = n) : Calls Try.prog 34 #[.int .u64 x, .int .i64 k, .int .i64 r, .bool b] w fun e w' => e = .returned (.int .u64 n) ∧ Kp [] w w' := by
  obtain ⟨hz, hs⟩ := zero_of_info bv_info
  have kb := rbits_is x w hx
  have HN := Lib.hid hn
  clear hn hs
  go_enter Try.func34, Try.ntmps34
  go_wp2_with (first
    | ((with_reducible refine kb.mono ?_); rintro e w1 ⟨rfl, hkp⟩; have H1 := Lib.hid (heap_alloc_last w1 (.cells (bv fun _ => false) 89)))
    | (refine bv_store rfl _ _ rfl w1.heap.size rfl _ rfl _ H1.out ?_; rw [World.setRow_alloc_new]))
  clear kb H1
  go_loopg [10] r (fun g iv wr => ∃ (j : Nat) (f : Nat → Bool), j + g = r ∧ iv = .int .i64 j ∧ Hid (∀ i, i < 64 → f i = if k ≤ i ∧ i < k + j then b else x.testBit i) ∧ wr = w1.alloc (.cells (bv f) 89))
  case atStart => exact ⟨0, _, by omega, rfl, fun i hi => by rw [if_neg (by omega)], rfl⟩
  case round =>
    obtain ⟨j, f, hjg, rfl, HF, rfl⟩ := hrel
    by_cases hj : j < r
    · have hc := bv_cell w1 f (k + j) (by omega) w1.heap.size rfl
      have hf := bv_free w1 f (k + j) w1.heap.size rfl
      go_wp2
      go_roundg (r - (j + 1))
      case rel =>
        refine ⟨j + 1, fun i => if i = k + j then b else f i, by omega, by go_num, fun i hi => ?_, ?_⟩
        · by_cases e : i = k + j
          · subst e
            simp only [if_true]; rw [if_pos (by omega)]
          · simp only [if_neg e]; rw [HF.out i hi]
            by_cases c : k ≤ i ∧ i < k + j
            · rw [if_pos c, if_pos (by omega)]
            · rw [if_neg c, if_neg (by omega)]
        · rw [bv_set f (k + j) _ (fun i => if i = k + j then b else f i) (fun i _ => rfl)]
      case measure => omega
    · obtain rfl : j = r := by omega
      have hw := rword_is f n (w1.alloc (.cells (bv f) 89)) (by
        rw [← HN.out, setN]
        exact wv_of (wv_lt _ 64 0) fun i hi => by rw [HF.out i hi, wv_bit]; simp [hi])
      have H0 := Lib.hid (heap_alloc_last w1 (.cells (bv f) 89))
      go_wp2_with (first
        | refine bv_load rfl _ rfl w1.heap.size rfl _ H0.out ?_
        | ((with_reducible refine hw.mono ?_); rintro e w2 ⟨rfl, hk2⟩))
      go_ret
      exact ⟨rfl, (hkp.alloc _).trans (hk2.mono (by simp))⟩

theorem rfind_is (x : Nat) (r o : Int) (w : World) (hx : x < 18446744073709551616) (hyes : ∀ k : Nat, isR x k r true = true → (∀ j : Nat, j < k → isR x j r true = false) → o = k) (hno : (∀ j : Nat, j < 64 → isR x j r true = false) → o = -1) :
    Calls Try.prog 33 #[.int .u64 x, .int .i64 r] w fun e w' => e = .returned (.int .i64 o) ∧ Kp [] w w' := by
  have HY := Lib.hid hyes
  have HN := Lib.hid hno
  clear hyes hno
  go_enter Try.func33, Try.ntmps33
  go_wp2
  go_loopg [5] 64 (fun g iv wr => ∃ k : Nat, k + g = 64 ∧ iv = .int .i64 k ∧ Hid (∀ j : Nat, j < k → isR x j r true = false) ∧ Kp [] w wr)
  case atStart => exact ⟨0, by omega, rfl, fun i hi => absurd hi (by omega), Kp.refl _ _⟩
  case round =>
    obtain ⟨k, hkg, rfl, HB, hkp⟩ := hrel
    by_cases hk : k < 64
    · cases hb : isR x k r true
      · have ki := ris_is x k r true false wr hx hb
        have HI := Lib.hid hb
        clear hb
        go_wp2_with ((with_reducible refine ki.mono ?_); rintro e w2 ⟨rfl, hk2⟩)
        go_roundg (64 - (k + 1))
        case rel =>
          refine ⟨k + 1, by omega, by go_num, fun j hj => ?_, hkp.trans (hk2.mono (by simp))⟩
          by_cases e : j = k
          · subst e; exact HI.out
          · exact HB.out j (by omega)
        case measure => omega
      · have ki := ris_is x k r true true wr hx hb
        obtain rfl := HY.out k hb HB.out
        clear hb
        go_wp2_with ((with_reducible refine ki.mono ?_); rintro e w2 ⟨rfl, hk2⟩)
        go_ret
        exact ⟨rfl, hkp.trans (hk2.mono (by simp))⟩
    · obtain rfl := HN.out fun j hj => HB.out j (by omega)
      go_wp2
      go_ret
      exact ⟨rfl, hkp⟩

end Go.Proofs.Yteppcbihhikoaaa.Bm
