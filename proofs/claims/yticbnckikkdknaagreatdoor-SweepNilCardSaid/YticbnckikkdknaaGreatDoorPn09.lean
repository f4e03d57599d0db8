/- The walks of the document's own bitmap (demesneref04). The walks of law 15's own: the document's heap with a word more; the beginning of an arena of one owner. The walks of law 15's own: the beginning of an arena of one owner. The walks of the document's own table functions (demesneref05), and of the known entries (wakes). Conditions: as each theorem states them (the numbers are those of a uint8, of a uint64). The walks of the document's own heap (demesneref15): Entry, SetEntry. The walks of the document's own heap (demesneref15), on: Claim. Conditions: as each theorem states them. -/
import Derived.Deep.WholeRow
import Derived.OwnWalk
import Derived.Deep.CutBlock
import Derived.Deep.CutRange
import Derived.Deep.DeepCutAuto
import Derived.Test.YticbnckikkdknaaGreatDoorPn01
import Derived.Test.YticbnckikkdknaaGreatDoorPn02
import Derived.Test.YticbnckikkdknaaGreatDoorPn08
namespace Go.Proofs.YticbnckikkdknaaGreatDoor.Bm
set_option linter.unusedVariables false
set_option linter.unusedSimpArgs false
set_option maxRecDepth 100000
open Go.RowKit

/-- An array of 64 bools. -/
def bv (f : Nat → Bool) : Array Value := ((List.range 64).map fun i => Value.bool (f i)).toArray
theorem bv_size (f : Nat → Bool) : (bv f).size = 64 := by simp [bv]
theorem bv_get (f : Nat → Bool) (i : Nat) (h : i < 64) : (bv f)[i]? = some (.bool (f i)) := by simp [bv, h]
theorem bv_set (f : Nat → Bool) (i : Nat) (b : Bool) (g : Nat → Bool) (h : ∀ j, j < 64 → g j = if j = i then b else f j) : (bv f).setIfInBounds i (.bool b) = bv g := by
  apply Array.ext_getElem?
  intro j
  by_cases hj : j < 64
  · rw [bv_get g j hj, h j hj]
    by_cases e : i = j
    · subst e
      rw [Array.getElem?_setIfInBounds_self_of_lt (by rw [bv_size]; exact hj)]; simp
    · rw [Array.getElem?_setIfInBounds_ne e, bv_get f j hj, if_neg (fun q => e q.symm)]
  · rw [Array.getElem?_eq_none (by rw [Array.size_setIfInBounds, bv_size]; omega), Array.getElem?_eq_none (by rw [bv_size]; omega)]
theorem bv_one (f : Nat → Bool) : (bv f).all (·.oneCell') = true := by
  rw [Array.all_eq_true]
  intro i hi
  have hi' : i < 64 := by rwa [bv_size] at hi
  have := bv_get f i hi'
  rw [Array.getElem?_eq_getElem hi] at this
  injection this with this
  rw [this]; rfl
theorem bv_info : (Tryz.prog.info? 169).map (fun i => (i.zero, i.size)) = some (some (.agg (bv fun _ => false)), 64) := by kernel_rfl

/-- The block that was made last holds an array of bools. -/
theorem bv_cell (w : World) (f : Nat → Bool) (k : Nat) (hk : k < 64) (b : Nat) (hb : b = w.heap.size) : (w.alloc (.cells (bv f) 169)).cell? ⟨b, k, none⟩ = some (.bool (f k)) := by
  subst hb
  rw [cell_of_row (heap_alloc_last w _) k, bv_get f k hk]
theorem bv_free (w : World) (f : Nat → Bool) (k : Nat) (b : Nat) (hb : b = w.heap.size) : (w.alloc (.cells (bv f) 169)).frozen? ⟨b, k, none⟩ = false := by
  subst hb
  exact free_of_row (heap_alloc_last w _) k

theorem bv_szs : (Tryz.prog.info? 169).map (·.size) = some 64 := (zero_of_info bv_info).2

/-- The whole array is loaded, and stored. -/
theorem bv_load {w : World} {ops : Array Oper} {rest : List Oper} {o : Oper} {a : Act} {Q : Exit → Act → World → Prop} (hgd : o.guard = none) (x : Operand) (ho : o.op = .load 169 x) (g : Nat) (hx : a.eval x = .pointer (some ⟨g, 0, none⟩))
    (f : Nat → Bool) (hg : w.heap[g]? = some (.cells (bv f) 169 (0, 0))) (h : wpList Tryz.prog ops Q rest (a.put o.dst (.agg (bv f))) w) : wpList Tryz.prog ops Q (o :: rest) a w :=
  wpList_load_row hgd 169 x ho g hx 169 (bv f) (0, 0) _ hg Tryz.underlying169 rfl (by rw [bv_szs, bv_size]) h
theorem bv_store {w : World} {ops : Array Oper} {rest : List Oper} {o : Oper} {a : Act} {Q : Exit → Act → World → Prop} (hgd : o.guard = none) (x y : Operand) (ho : o.op = .store 169 x y) (g : Nat) (hx : a.eval x = .pointer (some ⟨g, 0, none⟩))
    (f : Nat → Bool) (hy : a.eval y = .agg (bv f)) (f0 : Nat → Bool) (hg : w.heap[g]? = some (.cells (bv f0) 169 (0, 0))) (h : wpList Tryz.prog ops Q rest (a.put o.dst undef) (w.setRow g (bv f))) : wpList Tryz.prog ops Q (o :: rest) a w :=
  wpList_store_row hgd 169 x y ho g (bv f) hx hy 169 (bv f0) hg (by rw [bv_szs, bv_size]) (by rw [bv_size, bv_size]) (bv_one f) h

theorem bit_of_half (x y k : Nat) (h : y = x / 2 ^ k) : ((y : Int) % 2 == 1) = x.testBit k := by
  rw [Nat.testBit_eq_decide_div_mod_eq, ← h, Bool.eq_iff_iff]
  simp only [beq_iff_eq, decide_eq_true_eq]
  omega
theorem bv_congr {f g : Nat → Bool} (h : ∀ j, j < 64 → f j = g j) : bv f = bv g := by
  apply Array.ext_getElem?
  intro j
  by_cases hj : j < 64
  · rw [bv_get f j hj, bv_get g j hj, h j hj]
  · rw [Array.getElem?_eq_none (by rw [bv_size]; omega), Array.getElem?_eq_none (by rw [bv_size]; omega)]

theorem rbits_is (x : Nat) (w : World) (hx : x < 18446744073709551616) : Calls Tryz.prog 152 #[.int .u64 x] w fun e w' => e = .returned (.agg (bv fun i => x.testBit i)) ∧ Kp [] w w' := by
  obtain ⟨hz, hs⟩ := zero_of_info bv_info
  have HS := Lib.hid hs
  clear hs
  go_enter Tryz.func152, Tryz.ntmps152
  go_wp2
  go_loopg [0, 4] 64 (fun g xv iv wr => ∃ (k y : Nat) (f : Nat → Bool), k + g = 64 ∧ xv = .int .u64 y ∧ y < 18446744073709551616 ∧ Hid (y = x / 2 ^ k) ∧ iv = .int .i64 k ∧ Hid (∀ j, j < k → f j = x.testBit j) ∧
    wr = (w.alloc (.cells (bv fun _ => false) 169)).alloc (.cells (bv f) 169))
  case atStart => exact ⟨0, x, _, by omega, rfl, hx, by simp [Hid], rfl, fun j hj => absurd hj (by omega), rfl⟩
  case round =>
    obtain ⟨k, y, f, hkg, rfl, hy, HY, rfl, HF, rfl⟩ := hrel
    by_cases hk : k < 64
    · have hc := bv_cell (w.alloc (.cells (bv fun _ => false) 169)) f k hk (w.heap.size + 1) (by simp)
      have hf := bv_free (w.alloc (.cells (bv fun _ => false) 169)) f k (w.heap.size + 1) (by simp)
      go_wp2
      go_roundg (64 - (k + 1))
      case rel =>
        refine ⟨k + 1, y / 2, fun j => if j = k then ((y : Int) % 2 == 1) else f j, by omega, by go_num, by omega, ?_, by go_num, fun j hj => ?_, ?_⟩
        · show y / 2 = x / 2 ^ (k + 1)
          rw [HY.out, Nat.div_div_eq_div_mul, Nat.pow_succ]
        · by_cases e : j = k
          · subst e
            simp only [if_true]; exact bit_of_half x y j HY.out
          · simp only [if_neg e]; exact HF.out j (by omega)
        · rw [bv_set f k _ (fun j => if j = k then ((y : Int) % 2 == 1) else f j) (fun j _ => rfl)]
      case measure => omega
    · have hb2 : bv f = bv fun i => x.testBit i := bv_congr fun j hj => HF.out j (by omega)
      rw [hb2]
      clear hb2
      have e1 := heap_alloc_last (w.alloc (.cells (bv fun _ => false) 169)) (.cells (bv fun i => x.testBit i) 169)
      rw [World.size_alloc] at e1
      have e0 := heap_alloc2_old w (.cells (bv fun _ => false) 169) (.cells (bv fun i => x.testBit i) 169)
      have H0 := Lib.hid e0
      have H1 := Lib.hid e1
      clear e0 e1
      go_wp2_with (first
        | refine bv_load rfl _ rfl (w.heap.size + 1) rfl _ H1.out ?_
        | refine bv_store rfl _ _ rfl w.heap.size rfl _ rfl _ H0.out ?_)
      exact bodyPost_row rfl w.heap.size 169 _ (0, 0) _ rfl rfl (setRow_heap _ _ _ _ _ _ H0.out) Tryz.underlying169 rfl (by rw [bv_szs, bv_size])
        ⟨rfl, (((Kp.refl [] w).alloc _).alloc _).setRow (.inr (Nat.le_refl _)) _⟩

theorem rword_is (f : Nat → Bool) (n : Nat) (w : World) (hn : wv f 0 64 = n) : Calls Tryz.prog 92 #[.agg (bv f)] w fun e w' => e = .returned (.int .u64 n) ∧ Kp [] w w' := by
  have HN := Lib.hid hn
  clear hn
  go_enter Tryz.func92, Tryz.ntmps92
  go_wp2
  go_loopg [3, 4] 64 (fun g nv iv wr => ∃ (m : Nat) (i : Int), g ≤ 64 ∧ nv = .int .u64 m ∧ Hid (m = wv f g (64 - g)) ∧ iv = .int .i64 i ∧ i + 1 = g ∧ wr = w.alloc (.cells (bv f) 169))
  case atStart => exact ⟨0, 63, by omega, rfl, rfl, rfl, by omega, rfl⟩
  case round =>
    obtain ⟨m, i, hg64, rfl, HM, rfl, hi, rfl⟩ := hrel
    by_cases h0 : gk = 0
    · subst h0
      obtain rfl : i = -1 := by omega
      obtain rfl : m = n := by rw [HM.out, ← HN.out]
      go_wp2
      go_ret
      exact ⟨rfl, (Kp.refl _ _).alloc _⟩
    · obtain ⟨q, rfl⟩ : ∃ q, gk = q + 1 := ⟨gk - 1, by omega⟩
      obtain rfl : i = q := by omega
      have hm : m < 2 ^ (64 - (q + 1)) := by rw [HM.out]; exact wv_lt _ _ _
      have hm2 : m < 9223372036854775808 := Nat.lt_of_lt_of_le hm (by
        have : 2 ^ (64 - (q + 1)) ≤ 2 ^ 63 := Nat.pow_le_pow_right (by omega) (by omega)
        exact this)
      clear hm
      have hc := bv_cell w f q (by omega) w.heap.size rfl
      have key : wv f q (64 - q) = (f q).toNat + 2 * m := by
        rw [show 64 - q = (64 - (q + 1)) + 1 from by omega, HM.out]; rfl
      have HK := Lib.hid key
      clear key
      cases hf : f q
      · rw [hf] at hc
        have HF := Lib.hid hf
        clear hf
        go_wp2
        go_roundg q
        case rel =>
          refine ⟨2 * m, (q : Int) - 1, by omega, by go_num, ?_, rfl, by omega, rfl⟩
          show _ = _
          rw [HK.out, HF.out]; simp
        case measure => omega
      · rw [hf] at hc
        have HF := Lib.hid hf
        clear hf
        go_wp2
        go_roundg q
        case rel =>
          refine ⟨1 + 2 * m, (q : Int) - 1, by omega, by go_num, ?_, rfl, by omega, rfl⟩
          show _ = _
          rw [HK.out, HF.out]; simp
        case measure => omega

theorem rall_num (b : Int) (n : Nat) (hn : 2 ^ min b.toNat 64 - 1 = n) (f : Nat → Bool) (hf : ∀ j, j < 64 → f j = decide ((j : Int) < b)) : wv f 0 64 = n := by
  subst hn
  have h0 := Nat.two_pow_pos (min b.toNat 64)
  have h1 : 2 ^ min b.toNat 64 ≤ 2 ^ 64 := Nat.pow_le_pow_right (by omega) (by omega)
  refine wv_of (by omega) fun i hi => ?_
  rw [hf i hi, Nat.testBit_two_pow_sub_one, Bool.eq_iff_iff]
  simp only [decide_eq_true_eq]
  omega

theorem rall_is (b : Int) (n : Nat) (w : World) (hn : 2 ^ min b.toNat 64 - 1 = n) : Calls Tryz.prog 56 #[.int .i64 b] w fun e w' => e = .returned (.int .u64 n) ∧ Kp [] w w' := by
  obtain ⟨hz, hs⟩ := zero_of_info bv_info
  have HN := Lib.hid hn
  clear hn hs
  go_enter Tryz.func56, Tryz.ntmps56
  go_wp2
  go_loopg [4] 64 (fun g iv wr => ∃ (k : Nat) (f : Nat → Bool), k + g = 64 ∧ iv = .int .i64 k ∧ Hid (∀ j, j < k → f j = decide ((j : Int) < b)) ∧ wr = w.alloc (.cells (bv f) 169))
  case atStart => exact ⟨0, _, by omega, rfl, fun j hj => absurd hj (by omega), rfl⟩
  case round =>
    obtain ⟨k, f, hkg, rfl, HF, rfl⟩ := hrel
    by_cases hk : k < 64
    · have hc := bv_cell w f k hk w.heap.size rfl
      have hf := bv_free w f k w.heap.size rfl
      go_wp2
      go_roundg (64 - (k + 1))
      case rel =>
        refine ⟨k + 1, fun j => if j = k then decide ((k : Int) < b) else f j, by omega, by go_num, fun j hj => ?_, ?_⟩
        · by_cases e : j = k
          · subst e
            simp only [if_true]
          · simp only [if_neg e]; exact HF.out j (by omega)
        · rw [bv_set f k _ (fun j => if j = k then decide ((k : Int) < b) else f j) (fun j _ => rfl)]
      case measure => omega
    · have hw := rword_is f n (w.alloc (.cells (bv f) 169)) (rall_num b n HN.out f fun j hj => HF.out j (by omega))
      have H0 := Lib.hid (heap_alloc_last w (.cells (bv f) 169))
      go_wp2_with (first
        | refine bv_load rfl _ rfl w.heap.size rfl _ H0.out ?_
        | ((with_reducible refine hw.mono ?_); rintro e w1 ⟨rfl, hkp⟩))
      go_ret
      exact ⟨rfl, ((Kp.refl [] w).alloc _).trans (hkp.mono (by simp))⟩

/-- Is: no such run. -/
theorem ris_out (x : Nat) (k r : Int) (b : Bool) (w : World) (h : ¬ (1 ≤ r ∧ r ≤ 3 ∧ 0 ≤ k ∧ k + r ≤ 64)) : Calls Tryz.prog 129 #[.int .u64 x, .int .i64 k, .int .i64 r, .bool b] w fun e w' => e = .returned (.bool false) ∧ Kp [] w w' := by
  rcases (by omega : r < 1 ∨ (1 ≤ r ∧ 3 < r) ∨ (1 ≤ r ∧ r ≤ 3 ∧ k < 0) ∨ (1 ≤ r ∧ r ≤ 3 ∧ 0 ≤ k ∧ 63 < k) ∨ (1 ≤ r ∧ r ≤ 3 ∧ 0 ≤ k ∧ k ≤ 63 ∧ 64 < k + r)) with h1 | ⟨h1, h2⟩ | ⟨h1, h2, h3⟩ | ⟨h1, h2, h3, h4⟩ | ⟨h1, h2, h3, h4, h5⟩
  all_goals (
    clear h
    go_enter Tryz.func129, Tryz.ntmps129
    go_wp2
    go_ret
    exact ⟨rfl, Kp.refl _ _⟩)

theorem ris_in (x : Nat) (k r : Nat) (b q : Bool) (w : World) (hx : x < 18446744073709551616) (h1 : 1 ≤ r) (h2 : r ≤ 3) (h3 : k + r ≤ 64) (hq : allN x k r b = q) : Calls Tryz.prog 129 #[.int .u64 x, .int .i64 k, .int .i64 r, .bool b] w fun e w' => e = .returned (.bool q) ∧ Kp [] w w' := by
  obtain ⟨hz, hs⟩ := zero_of_info bv_info
  have kb := rbits_is x w hx
  have HQ := Lib.hid hq
  clear hq hs
  go_enter Tryz.func129, Tryz.ntmps129
  go_wp2_with (first
    | ((with_reducible refine kb.mono ?_); rintro e w1 ⟨rfl, hkp⟩; have H1 := Lib.hid (heap_alloc_last w1 (.cells (bv fun _ => false) 169)))
    | (refine bv_store rfl _ _ rfl w1.heap.size rfl _ rfl _ H1.out ?_; rw [World.setRow_alloc_new]))
  clear kb H1
  go_loopg [10] r (fun g iv wr => ∃ j : Nat, j + g = r ∧ iv = .int .i64 j ∧ Hid (∀ i, i < j → x.testBit (k + i) = b) ∧ wr = w1.alloc (.cells (bv fun i => x.testBit i) 169))
  case atStart => exact ⟨0, by omega, rfl, fun i hi => absurd hi (by omega), rfl⟩
  case round =>
    obtain ⟨j, hjg, rfl, HI, rfl⟩ := hrel
    by_cases hj : j < r
    · have hc := bv_cell w1 (fun i => x.testBit i) (k + j) (by omega) w1.heap.size rfl
      cases hb : x.testBit (k + j) <;> cases b
      all_goals (
        rw [hb] at hc
        have HB := Lib.hid hb
        clear hb)
      · go_wp2
        go_roundg (r - (j + 1))
        case rel =>
          refine ⟨j + 1, by omega, by go_num, fun i hi => ?_, rfl⟩
          by_cases e : i = j
          · subst e; exact HB.out
          · exact HI.out i (by omega)
        case measure => omega
      · obtain rfl : q = false := by
          rw [← HQ.out]
          refine decide_eq_false fun h => ?_
          have := h j hj
          rw [HB.out] at this
          exact absurd this (by decide)
        go_wp2
        go_ret
        exact ⟨rfl, hkp.alloc _⟩
      · obtain rfl : q = false := by
          rw [← HQ.out]
          refine decide_eq_false fun h => ?_
          have := h j hj
          rw [HB.out] at this
          exact absurd this (by decide)
        go_wp2
        go_ret
        exact ⟨rfl, hkp.alloc _⟩
      · go_wp2
        go_roundg (r - (j + 1))
        case rel =>
          refine ⟨j + 1, by omega, by go_num, fun i hi => ?_, rfl⟩
          by_cases e : i = j
          · subst e; exact HB.out
          · exact HI.out i (by omega)
        case measure => omega
    · obtain rfl : q = true := by
        rw [← HQ.out]
        exact decide_eq_true fun i hi => HI.out i (by omega)
      go_wp2
      go_ret
      exact ⟨rfl, hkp.alloc _⟩

theorem ris_is (x : Nat) (k r : Int) (b q : Bool) (w : World) (hx : x < 18446744073709551616) (hq : isR x k r b = q) : Calls Tryz.prog 129 #[.int .u64 x, .int .i64 k, .int .i64 r, .bool b] w fun e w' => e = .returned (.bool q) ∧ Kp [] w w' := by
  by_cases h : 1 ≤ r ∧ r ≤ 3 ∧ 0 ≤ k ∧ k + r ≤ 64
  · obtain ⟨r', rfl⟩ := Int.eq_ofNat_of_zero_le (show 0 ≤ r by omega)
    obtain ⟨k', rfl⟩ := Int.eq_ofNat_of_zero_le h.2.2.1
    refine ris_in x k' r' b q w hx (by omega) (by omega) (by omega) ?_
    simp only [isR, decide_eq_true h, Bool.true_and] at hq
    exact hq
  · obtain rfl : q = false := by rw [← hq]; simp only [isR, decide_eq_false h, Bool.false_and]
    exact ris_out x k r b w h

theorem rwith_is (x : Nat) (k r n : Nat) (b : Bool) (w : World) (hx : x < 18446744073709551616) (h1 : 1 ≤ r) (h2 : r ≤ 3) (h3 : k + r ≤ 64) (hn : setN x k r b = n) : Calls Tryz.prog 130 #[.int .u64 x, .int .i64 k, .int .i64 r, .bool b] w fun e w' => e = .returned (.int .u64 n) ∧ Kp [] w w' := by
  obtain ⟨hz, hs⟩ := zero_of_info bv_info
  have kb := rbits_is x w hx
  have HN := Lib.hid hn
  clear hn hs
  go_enter Tryz.func130, Tryz.ntmps130
  go_wp2_with (first
    | ((with_reducible refine kb.mono ?_); rintro e w1 ⟨rfl, hkp⟩; have H1 := Lib.hid (heap_alloc_last w1 (.cells (bv fun _ => false) 169)))
    | (refine bv_store rfl _ _ rfl w1.heap.size rfl _ rfl _ H1.out ?_; rw [World.setRow_alloc_new]))
  clear kb H1
  go_loopg [10] r (fun g iv wr => ∃ (j : Nat) (f : Nat → Bool), j + g = r ∧ iv = .int .i64 j ∧ Hid (∀ i, i < 64 → f i = if k ≤ i ∧ i < k + j then b else x.testBit i) ∧ wr = w1.alloc (.cells (bv f) 169))
  case atStart => exact ⟨0, _, by omega, rfl, fun i hi => by rw [if_neg (by omega)], rfl⟩
  case round =>
    obtain ⟨j, f, hjg, rfl, HF, rfl⟩ := hrel
    by_cases hj : j < r
    · have hc := bv_cell w1 f (k + j) (by omega) w1.heap.size rfl
      have hf := bv_free w1 f (k + j) w1.heap.size rfl
      go_wp2
      go_roundg (r - (j + 1))
      case rel =>
        refine ⟨j + 1, fun i => if i = k + j then b else f i, by omega, by go_num, fun i hi => ?_, ?_⟩
        · by_cases e : i = k + j
          · subst e
            simp only [if_true]; rw [if_pos (by omega)]
          · simp only [if_neg e]; rw [HF.out i hi]
            by_cases c : k ≤ i ∧ i < k + j
            · rw [if_pos c, if_pos (by omega)]
            · rw [if_neg c, if_neg (by omega)]
        · rw [bv_set f (k + j) _ (fun i => if i = k + j then b else f i) (fun i _ => rfl)]
      case measure => omega
    · obtain rfl : j = r := by omega
      have hw := rword_is f n (w1.alloc (.cells (bv f) 169)) (by
        rw [← HN.out, setN]
        exact wv_of (wv_lt _ 64 0) fun i hi => by rw [HF.out i hi, wv_bit]; simp [hi])
      have H0 := Lib.hid (heap_alloc_last w1 (.cells (bv f) 169))
      go_wp2_with (first
        | refine bv_load rfl _ rfl w1.heap.size rfl _ H0.out ?_
        | ((with_reducible refine hw.mono ?_); rintro e w2 ⟨rfl, hk2⟩))
      go_ret
      exact ⟨rfl, (hkp.alloc _).trans (hk2.mono (by simp))⟩

theorem rfind_is (x : Nat) (r o : Int) (w : World) (hx : x < 18446744073709551616) (hyes : ∀ k : Nat, isR x k r true = true → (∀ j : Nat, j < k → isR x j r true = false) → o = k) (hno : (∀ j : Nat, j < 64 → isR x j r true = false) → o = -1) :
    Calls Tryz.prog 138 #[.int .u64 x, .int .i64 r] w fun e w' => e = .returned (.int .i64 o) ∧ Kp [] w w' := by
  have HY := Lib.hid hyes
  have HN := Lib.hid hno
  clear hyes hno
  go_enter Tryz.func138, Tryz.ntmps138
  go_wp2
  go_loopg [5] 64 (fun g iv wr => ∃ k : Nat, k + g = 64 ∧ iv = .int .i64 k ∧ Hid (∀ j : Nat, j < k → isR x j r true = false) ∧ Kp [] w wr)
  case atStart => exact ⟨0, by omega, rfl, fun i hi => absurd hi (by omega), Kp.refl _ _⟩
  case round =>
    obtain ⟨k, hkg, rfl, HB, hkp⟩ := hrel
    by_cases hk : k < 64
    · cases hb : isR x k r true
      · have ki := ris_is x k r true false wr hx hb
        have HI := Lib.hid hb
        clear hb
        go_wp2_with ((with_reducible refine ki.mono ?_); rintro e w2 ⟨rfl, hk2⟩)
        go_roundg (64 - (k + 1))
        case rel =>
          refine ⟨k + 1, by omega, by go_num, fun j hj => ?_, hkp.trans (hk2.mono (by simp))⟩
          by_cases e : j = k
          · subst e; exact HI.out
          · exact HB.out j (by omega)
        case measure => omega
      · have ki := ris_is x k r true true wr hx hb
        obtain rfl := HY.out k hb HB.out
        clear hb
        go_wp2_with ((with_reducible refine ki.mono ?_); rintro e w2 ⟨rfl, hk2⟩)
        go_ret
        exact ⟨rfl, hkp.trans (hk2.mono (by simp))⟩
    · obtain rfl := HN.out fun j hj => HB.out j (by omega)
      go_wp2
      go_ret
      exact ⟨rfl, hkp⟩

end Go.Proofs.YticbnckikkdknaaGreatDoor.Bm

namespace Go.Proofs.YticbnckikkdknaaGreatDoor
set_option linter.unusedVariables false
set_option linter.unusedSimpArgs false
set_option maxRecDepth 100000
open Go.RowKit

theorem info_u64 : ∃ i z, Tryz.prog.info? 57 = some i ∧ i.zero = some z ∧ i.size = 1 ∧ i.bytes = 8 ∧ z.cells.size = 1 := by
  obtain ⟨i, hi, hz0, hz1, hz2⟩ := info_parts (show (Tryz.prog.info? 57).map (fun i => (i.zero, i.size, i.bytes)) = some (some (.int .u64 0), 1, 8) by kernel_rfl)
  exact ⟨i, _, hi, hz0, hz1, hz2, rfl⟩

/-- The words of a heap. -/
def ws (xs : List Int) : List Value := xs.map (Value.int .u64)
theorem ws_len (xs : List Int) : (ws xs).length = xs.length := by simp [ws]
theorem ws_one (xs : List Int) : ∀ u ∈ ws xs, u.oneCell' = true := by
  intro u hu
  simp only [ws, List.mem_map] at hu
  obtain ⟨x, _, rfl⟩ := hu
  rfl
theorem ws_get (xs : List Int) (i : Nat) (h : i < xs.length) : (ws xs)[i]? = some (.int .u64 (xs.getD i 0)) := by simp [ws, List.getD, h]

/-- A heap's words lie at a slice of the call's own. -/
def Ww (base : Nat) (w : World) (b c : Nat) (xs : List Int) : Prop := Gx.Rw 57 1 base w (.slice (some ⟨b, 0, none⟩) xs.length c) xs.length (ws xs)
theorem Ww.heap {base : Nat} {w : World} {b c : Nat} {xs : List Int} (h : Ww base w b c xs) (hx : 0 < xs.length) : base ≤ b ∧ ∃ cur, w.heap[b]? = some (.cells cur 57 (0, 0)) ∧ cur.toList.take xs.length = ws xs ∧ cur.size = c ∧ xs.length ≤ c ∧ c ≤ maxLen := by
  rcases h.own.2 with ⟨h0, _⟩ | ⟨g, c', cur, he, hge, hb, h1, h2, h3, h4⟩
  · simp at h0
  · simp only [Value.slice.injEq, Option.some.injEq, Addr.mk.injEq] at he
    obtain ⟨⟨rfl, _⟩, _, rfl⟩ := he
    exact ⟨hge, cur, hb, by simpa using h4, by simpa using h3, h1, h2⟩

def put4v (w : World) (b : Nat) (v0 v1 v2 v3 : Value) : World := (((w.setCell ⟨b, 0, none⟩ v0).setCell ⟨b, 1, none⟩ v1).setCell ⟨b, 2, none⟩ v2).setCell ⟨b, 3, none⟩ v3
theorem put4v_kp (w : World) (b : Nat) (v0 v1 v2 v3 : Value) : Kp [b] w (put4v w b v0 v1 v2 v3) := ((((Kp.refl [b] w).setCell (.inl (by simp)) _).setCell (.inl (by simp)) _).setCell (.inl (by simp)) _).setCell (.inl (by simp)) _
theorem put4v_row {w : World} {b : Nat} {u0 u1 u2 u3 : Value} (v0 v1 v2 v3 : Value) {T : TypeId} (h : w.heap[b]? = some (.cells #[u0, u1, u2, u3] T (0, 0))) : (put4v w b v0 v1 v2 v3).heap[b]? = some (.cells #[v0, v1, v2, v3] T (0, 0)) := by
  unfold put4v
  rw [heap_setCell_same _ _ _ _ _ _ (heap_setCell_same _ _ _ _ _ _ (heap_setCell_same _ _ _ _ _ _ (heap_setCell_same _ _ _ _ _ _ h)))]
  rfl

set_option maxHeartbeats 1000000 in
theorem h_with (w : World) (base b c : Nat) (xs : List Int) (T G n : Int) (k : Nat) (x : Int) (h : Ww base w b c xs) (hk : k < xs.length) (hl : xs.length ≤ 4096) :
    Calls Tryz.prog 49 #[.agg #[.slice (some ⟨b, 0, none⟩) xs.length c, .int .i64 T, .int .i64 G, .int .i64 n], .int .i64 k, .int .u64 x] w fun e w' => ∃ b' c', e = .returned (.agg #[.slice (some ⟨b', 0, none⟩) xs.length c', .int .i64 T, .int .i64 G, .int .i64 n]) ∧ Ww w.heap.size w' b' c' (xs.set k x) ∧ Kp [] w w' := by
  have K0 : Kp [] w ((w.alloc (.cells #[.slice (some ⟨b, 0, none⟩) xs.length c, .int .i64 T, .int .i64 G, .int .i64 n] 40)).alloc (.cells #[.slice none 0 0, .int .i64 0, .int .i64 0, .int .i64 0] 40)) := ((Kp.refl _ _).alloc _).alloc _
  obtain ⟨hb0, cur, hcur, htk, hcs, hcl, -⟩ := h.heap (by omega)
  obtain ⟨g, cap, w1, hrun, hrw, hkp, hg⟩ := Gx.run_app (t := 36) (ty := 36) (base := w.heap.size) Tryz.underlying36 info_u64 (by decide) (Gx.Rw.nil 57 1 w.heap.size ((w.alloc (.cells #[.slice (some ⟨b, 0, none⟩) xs.length c, .int .i64 T, .int .i64 G, .int .i64 n] 40)).alloc (.cells #[.slice none 0 0, .int .i64 0, .int .i64 0, .int .i64 0] 40))) K0.size ⟨b, 0, none⟩ xs.length c (ws xs) (by rw [ws_len]; omega) (by
    intro j u hu
    have hj : j < xs.length := by
      have := (List.getElem?_eq_some_iff.1 hu).1
      rwa [ws_len] at this
    have e : (⟨b, 0, none⟩ : Addr).add j = ⟨b, j, none⟩ := by simp [Addr.add]; omega
    rw [e]
    refine kp_cell K0 (by simp) ?_
    rw [cell_of_row hcur, ← hu, ← htk, List.getElem?_take_of_lt hj]
    simp) (ws_one xs) (by omega) (by omega) (by omega)
  have hrun' : (Builtin.append_ #[36, 36] 36 #[.slice none 0 0, .slice (some ⟨b, 0, none⟩) xs.length c]).run Tryz.prog ((w.alloc (.cells #[.slice (some ⟨b, 0, none⟩) xs.length c, .int .i64 T, .int .i64 G, .int .i64 n] 40)).alloc (.cells #[.slice none 0 0, .int .i64 0, .int .i64 0, .int .i64 0] 40)) = .ok (.slice (some ⟨g, 0, none⟩) xs.length cap) w1 := by rw [Nat.zero_add] at hrun; exact hrun
  have hW1 : Ww w.heap.size w1 g cap xs := by
    have := hrw
    rw [Nat.zero_add, List.nil_append] at this
    exact this
  obtain ⟨hg0, cur1, hcur1, htk1, hcs1, hcl1, hmx1⟩ := hW1.heap (by omega)
  have z1 : ((w.alloc (.cells #[.slice (some ⟨b, 0, none⟩) xs.length c, .int .i64 T, .int .i64 G, .int .i64 n] 40)).alloc (.cells #[.slice none 0 0, .int .i64 0, .int .i64 0, .int .i64 0] 40)).heap.size = w.heap.size + 2 := by rw [World.size_alloc, World.size_alloc]
  have hgn : w.heap.size + 2 ≤ g := by
    rcases hg with hg | hg
    · simp [Gx.blk, Value.ownBlock] at hg
    · omega
  have r0 : w1.heap[w.heap.size]? = some (.cells #[.slice (some ⟨b, 0, none⟩) xs.length c, .int .i64 T, .int .i64 G, .int .i64 n] 40 (0, 0)) :=
    hkp.row (by simp [Gx.blk_nil]) (((Kp.refl [] _).alloc _).row (by simp) (heap_alloc_new w _))
  have r6 : w1.heap[w.heap.size + 1]? = some (.cells #[.slice none 0 0, .int .i64 0, .int .i64 0, .int .i64 0] 40 (0, 0)) :=
    hkp.row (by simp [Gx.blk_nil]) (by
      have := heap_alloc_new (w.alloc (.cells #[.slice (some ⟨b, 0, none⟩) xs.length c, .int .i64 T, .int .i64 G, .int .i64 n] 40)) (.cells #[.slice none 0 0, .int .i64 0, .int .i64 0, .int .i64 0] 40)
      rwa [World.size_alloc] at this)
  -- the box's slice is the new one; the word is stored
  have r1 : (w1.setCell ⟨w.heap.size, 0, none⟩ (.slice (some ⟨g, 0, none⟩) xs.length cap)).heap[w.heap.size]? = some (.cells #[.slice (some ⟨g, 0, none⟩) xs.length cap, .int .i64 T, .int .i64 G, .int .i64 n] 40 (0, 0)) := by rw [heap_setCell_same _ _ _ _ _ _ r0]; rfl
  have q1 : (w1.setCell ⟨w.heap.size, 0, none⟩ (.slice (some ⟨g, 0, none⟩) xs.length cap)).heap[g]? = some (.cells cur1 57 (0, 0)) := by rw [heap_setCell_other _ _ _ _ (by simp; omega), hcur1]
  have s1 : (w1.setCell ⟨w.heap.size, 0, none⟩ (.slice (some ⟨g, 0, none⟩) xs.length cap)).heap[w.heap.size + 1]? = some (.cells #[.slice none 0 0, .int .i64 0, .int .i64 0, .int .i64 0] 40 (0, 0)) := by rw [heap_setCell_other _ _ _ _ (by simp), r6]
  have hK1 : Kp [] w (w1.setCell ⟨w.heap.size, 0, none⟩ (.slice (some ⟨g, 0, none⟩) xs.length cap)) := kp_new_set ((K0.trans (hkp.mono (by simp [Gx.blk_nil])))) (b := w.heap.size) ((Kp.refl _ _).setCell (.inl (by simp)) _) (Nat.le_refl _)
  obtain ⟨w2, hw2⟩ : ∃ w2, w2 = w1.setCell ⟨w.heap.size, 0, none⟩ (.slice (some ⟨g, 0, none⟩) xs.length cap) := ⟨_, rfl⟩
  rw [← hw2] at r1 q1 s1 hK1
  have r2 : (w2.setCell ⟨g, k, none⟩ (.int .u64 x)).heap[w.heap.size]? = some (.cells #[.slice (some ⟨g, 0, none⟩) xs.length cap, .int .i64 T, .int .i64 G, .int .i64 n] 40 (0, 0)) := by rw [heap_setCell_other _ _ _ _ (by simp; omega), r1]
  have q2 : (w2.setCell ⟨g, k, none⟩ (.int .u64 x)).heap[g]? = some (.cells (cur1.setIfInBounds k (.int .u64 x)) 57 (0, 0)) := heap_setCell_same _ _ _ _ _ _ q1
  have s2 : (w2.setCell ⟨g, k, none⟩ (.int .u64 x)).heap[w.heap.size + 1]? = some (.cells #[.slice none 0 0, .int .i64 0, .int .i64 0, .int .i64 0] 40 (0, 0)) := by rw [heap_setCell_other _ _ _ _ (by simp; omega), s1]
  have hK2 : Kp [] w (w2.setCell ⟨g, k, none⟩ (.int .u64 x)) := kp_new_set hK1 (b := g) ((Kp.refl _ _).setCell (.inl (by simp)) _) hg0
  have c1 : w1.cell? ⟨w.heap.size, 0, none⟩ = some (.slice (some ⟨b, 0, none⟩) xs.length c) := cell_of_row r0 0
  have f1 : w1.frozen? ⟨w.heap.size, 0, none⟩ = false := free_of_row r0 0
  have c2 : w2.cell? ⟨w.heap.size, 0, none⟩ = some (.slice (some ⟨g, 0, none⟩) xs.length cap) := cell_of_row r1 0
  have c3 : w2.cell? ⟨g, k, none⟩ = some (.int .u64 (xs.getD k 0)) := by
    rw [cell_of_row q1, ← ws_get xs k hk, ← htk1, List.getElem?_take_of_lt hk]; simp
  have f3 : w2.frozen? ⟨g, k, none⟩ = false := free_of_row q1 k
  have R2 := Lib.hid (And.intro r2 (And.intro q2 (And.intro s2 hK2)))
  have HF := Lib.hid (And.intro htk1 (And.intro hcs1 (And.intro hcl1 (And.intro hg0 (And.intro hgn hmx1)))))
  have hlt : k < xs.length := hk
  obtain ⟨N, hN⟩ : ∃ N, N = xs.length := ⟨_, rfl⟩
  have HN := Lib.hid hN
  rw [← hN] at c1 c2 hrun' hlt hw2 hl ⊢
  clear hmx1 r0 r1 r2 r6 q1 q2 s1 s2 hK1 hK2 K0 hrun hrw hkp hg hW1 z1 hcur1 htk1 hcs1 hcl1 hcur htk hcs hcl hgn hg0 hb0 hk h hN
  have HW2 := Lib.hid hw2
  have HC := Lib.hid (And.intro c2 (And.intro c3 f3))
  have HRUN := Lib.hid hrun'
  clear hw2 c2 c3 f3 hrun'
  go_enter Tryz.func49, Tryz.ntmps49
  go_upto_region 2 with (at_builtin; refine Gx.wpList_append_eq rfl (.const (.slice none 0 0)) (.tmp 8) 36 rfl _ _ _ rfl rfl HRUN.out ?_)
  rw [← HW2.out]
  obtain ⟨c2, c3, f3⟩ := HC.out
  clear c1 f1 HRUN
  go_upto_region 3 with (fail)
  obtain ⟨r2, q2, s2, hK2⟩ := R2.out
  have d0 := (cell_of_row r2 0).trans (show _ = some (.slice (some ⟨g, 0, none⟩) N cap) from by rw [HN.out]; rfl)
  have d1 := (cell_of_row r2 1).trans (show _ = some (.int .i64 T) from rfl)
  have d2 := (cell_of_row r2 2).trans (show _ = some (.int .i64 G) from rfl)
  have d3 := (cell_of_row r2 3).trans (show _ = some (.int .i64 n) from rfl)
  have e0 := (cell_of_row s2 0).trans (show _ = some (.slice none 0 0) from rfl)
  have e1 := (cell_of_row s2 1).trans (show _ = some (.int .i64 0) from rfl)
  have e2 := (cell_of_row s2 2).trans (show _ = some (.int .i64 0) from rfl)
  have e3 := (cell_of_row s2 3).trans (show _ = some (.int .i64 0) from rfl)
  have g0 := free_of_row s2 0
  have g1 := free_of_row s2 1
  have g2 := free_of_row s2 2
  have g3 := free_of_row s2 3
  have R3 := Lib.hid (And.intro q2 (And.intro s2 hK2))
  clear r2 q2 s2 hK2 c2 c3 f3 HC R2
  obtain ⟨w3, hw3⟩ : ∃ w3, w3 = w2.setCell ⟨g, k, none⟩ (.int .u64 x) := ⟨_, rfl⟩
  rw [← hw3] at d0 d1 d2 d3 e0 e1 e2 e3 g0 g1 g2 g3 R3 ⊢
  clear hw3
  go_wp2_with fail
  refine bodyPost_row rfl (w.heap.size + 1) 40 #[.slice (some ⟨g, 0, none⟩) N cap, .int .i64 T, .int .i64 G, .int .i64 n] (0, 0) _ rfl rfl (put4v_row (.slice (some ⟨g, 0, none⟩) N cap) (.int .i64 T) (.int .i64 G) (.int .i64 n) R3.out.2.1) Tryz.underlying40 rfl (by kernel_rfl) ⟨g, cap, rfl, ?_, kp_new_set R3.out.2.2 (put4v_kp _ _ _ _ _ _) (by omega)⟩
  have hq := (put4v_kp w3 (w.heap.size + 1) (.slice (some ⟨g, 0, none⟩) N cap) (.int .i64 T) (.int .i64 G) (.int .i64 n)).row (by simp; have := HF.out; omega) R3.out.1
  obtain ⟨htk1, hcs1, hcl1, hg0, hgn, hmx1⟩ := HF.out
  refine ⟨by simp [ws_len], .inr ⟨g, cap, _, by simp, hg0, hq, by simp; omega, hmx1, by simp; omega, ?_⟩⟩
  rw [Nat.mul_one, Array.toList_setIfInBounds, List.take_set, List.length_set, htk1]
  simp [ws, List.map_set]

end Go.Proofs.YticbnckikkdknaaGreatDoor

namespace Go.Proofs.YticbnckikkdknaaGreatDoor
set_option linter.unusedVariables false
set_option linter.unusedSimpArgs false
set_option maxRecDepth 100000
open Go.RowKit

/-- The law's own state: thirteen cells. -/
def S13 (w : World) (sp : Nat) (f : Nat → Value) : Prop := w.heap[sp]? = some (.cells ((List.range 13).map f).toArray 44 (0, 0))
theorem S13.cell {w : World} {sp : Nat} {f : Nat → Value} (h : S13 w sp f) {i : Nat} (hi : i < 13) : w.cell? ⟨sp, i, none⟩ = some (f i) := by
  rw [cell_of_row h]; simp [hi]
theorem S13.free {w : World} {sp : Nat} {f : Nat → Value} (h : S13 w sp f) (i : Nat) : w.frozen? ⟨sp, i, none⟩ = false := free_of_row h i
theorem S13.set {w : World} {sp : Nat} {f : Nat → Value} (h : S13 w sp f) {i : Nat} (hi : i < 13) (v : Value) : S13 (w.setCell ⟨sp, i, none⟩ v) sp (fun j => if j = i then v else f j) := by
  unfold S13
  rw [heap_setCell_same _ _ _ _ _ _ h]
  congr 2
  apply Array.ext'
  simp only [Array.toList_setIfInBounds]
  apply List.ext_getElem (by simp)
  intro j h1 h2
  simp only [List.getElem_set, List.getElem_map, List.getElem_range]
  by_cases e : j = i
  · simp [e]
  · simp [e, Ne.symm e]
theorem S13.keep {S : List Nat} {w w' : World} {sp : Nat} {f : Nat → Value} (h : S13 w sp f) (k : Kp S w w') (hs : sp ∉ S) : S13 w' sp f := k.row hs h
theorem S13.of {w : World} {sp : Nat} {f : Nat → Value} {cs : Array Value} (h : w.heap[sp]? = some (.cells cs 44 (0, 0))) (e : cs = ((List.range 13).map f).toArray) : S13 w sp f := by
  unfold S13; rw [h, e]

theorem info_lst : ∃ i z, Tryz.prog.info? 69 = some i ∧ i.zero = some z ∧ i.size = 1 ∧ i.bytes = 8 ∧ z.cells.size = 1 := by
  obtain ⟨i, hi, hz0, hz1, hz2⟩ := info_parts (show (Tryz.prog.info? 69).map (fun i => (i.zero, i.size, i.bytes)) = some (some (.pointer none), 1, 8) by kernel_rfl)
  exact ⟨i, _, hi, hz0, hz1, hz2, rfl⟩
theorem info_bool : ∃ i z, Tryz.prog.info? 4 = some i ∧ i.zero = some z ∧ i.size = 1 ∧ i.bytes = 1 ∧ z.cells.size = 1 := by
  obtain ⟨i, hi, hz0, hz1, hz2⟩ := info_parts (show (Tryz.prog.info? 4).map (fun i => (i.zero, i.size, i.bytes)) = some (some (.bool false), 1, 1) by kernel_rfl)
  exact ⟨i, _, hi, hz0, hz1, hz2, rfl⟩
theorem info_rl : ∃ i z, Tryz.prog.info? 72 = some i ∧ i.zero = some z ∧ i.size = 4 ∧ i.bytes = 96 ∧ z.cells.size = 4 := by
  obtain ⟨i, hi, hz0, hz1, hz2⟩ := info_parts (show (Tryz.prog.info? 72).map (fun i => (i.zero, i.size, i.bytes)) = some (some (.agg #[.slice none 0 0, .slice none 0 0, .slice none 0 0, .slice none 0 0]), 4, 96) by kernel_rfl)
  exact ⟨i, _, hi, hz0, hz1, hz2, rfl⟩
theorem info_row : ∃ i z, Tryz.prog.info? 46 = some i ∧ i.zero = some z ∧ i.size = 1 ∧ i.bytes = 24 ∧ z.cells.size = 1 := by
  obtain ⟨i, hi, hz0, hz1, hz2⟩ := info_parts (show (Tryz.prog.info? 46).map (fun i => (i.zero, i.size, i.bytes)) = some (some (.slice none 0 0), 1, 24) by kernel_rfl)
  exact ⟨i, _, hi, hz0, hz1, hz2, rfl⟩

/-- The two layouts' boxes. -/
def B6 (a b n : Nat) (F : World → Prop) (wx : World) : Prop :=
  wx.cell? ⟨a, 0, none⟩ = some (.int .i64 1) ∧ wx.cell? ⟨a, 1, none⟩ = some (.int .i64 0) ∧ wx.cell? ⟨a, 2, none⟩ = some (.int .i64 n) ∧ wx.cell? ⟨b, 0, none⟩ = some (.int .i64 1) ∧ wx.cell? ⟨b, 1, none⟩ = some (.int .i64 0) ∧ wx.cell? ⟨b, 2, none⟩ = some (.int .i64 n) ∧ F wx
theorem B6.keep {a b n : Nat} {F : World → Prop} {wx wy : World} {S : List Nat} (h : B6 a b n F wx) (k : Kp S wx wy) (ha : a ∉ S) (hb : b ∉ S) (hF : F wx → F wy) : B6 a b n F wy := by
  obtain ⟨h0, h1, h2, h3, h4, h5, h6⟩ := h
  exact ⟨kp_cell k ha h0, kp_cell k ha h1, kp_cell k ha h2, kp_cell k hb h3, kp_cell k hb h4, kp_cell k hb h5, hF h6⟩

/-- What is carried through the beginning's rows. -/
structure Pk (w : World) (n N sp q fb : Nat) (f : Nat → Value) (W : World) : Prop where
  hs : S13 W sp f
  hh : Hw 1 0 n (w.heap.size + 1) w.heap.size ((List.replicate N 0).set 0 ((2 ^ n - 1 : Nat) : Int)) 1 W
  hk : Kp [] w W
  hl : Li.Ls W q (fun _ => .slice none 0 0) (fun _ => [])
  hb : ∃ cur, W.heap[fb]? = some (.cells cur 69 (0, 0)) ∧ cur[0]? = some (.pointer (some ⟨q, 0, none⟩))
  lo : w.heap.size + 2 ≤ sp ∧ w.heap.size ≤ q ∧ w.heap.size ≤ fb
theorem Pk.step {w : World} {n N sp q fb : Nat} {f : Nat → Value} {W Wa : World} (h : Pk w n N sp q fb f W) (k : Kp [] W Wa) {i : Nat} (hi : i < 13) (v : Value) : Pk w n N sp q fb (fun j => if j = i then v else f j) (Wa.setCell ⟨sp, i, none⟩ v) := by
  have hs := h.hs.keep k (by simp)
  have hl := h.hl.keep0 k
  obtain ⟨cur, hc, hc0⟩ := h.hb
  have hc' := k.row (by simp) hc
  have hq : sp ≠ q := fun e => by subst e; have := hs.symm.trans hl.hp; simp at this
  have hf : sp ≠ fb := fun e => by subst e; have := hs.symm.trans hc'; simp at this
  have k2 : Kp [sp] Wa (Wa.setCell ⟨sp, i, none⟩ v) := (Kp.refl _ _).setCell (.inl (by simp)) _
  exact ⟨hs.set hi v, (h.hh.on k).keep k2 (by have := h.lo; simp; omega) (by have := h.lo; simp; omega), kp_new_set (h.hk.trans k) k2 (by have := h.lo; omega), hl.keep k2 (by simpa using Ne.symm hq) (fun g hg => by obtain ⟨c, _, hb⟩ := hg; simp [Li.blk_nil] at hb), ⟨cur, k2.row (by simpa using Ne.symm hf) hc', hc0⟩, h.lo⟩

section
variable {ops : Array Oper} {o : Oper} {a : Act} {K : Act → World → Prop} {Q : Exit → Act → World → Prop} {E : Prop} {w : World}
theorem step_append_eq {P : Program} {w2 : World} (hgd : o.guard = none) (s x : Operand) (t : TypeId) (ho : o.op = .call { callee := .builtin .append, args := #[s, x], argTypes := #[t, t] }) (sv xv v : Value) (hs : a.eval s = sv) (hx : a.eval x = xv)
    (hrun : (Builtin.append_ #[t, t] o.type #[sv, xv]).run P w = .ok v w2) (hK : K (a.put o.dst v) w2) : if Region.wanted o (yielded ops a.tmps) = true then Oper.wp P o a w K Q else E := by
  have hw : Region.wanted o (yielded ops a.tmps) = true := by simp [Region.wanted, hgd]
  rw [if_pos hw]
  unfold Oper.wp
  simp [execOp, ho, resolve, invoke, builtin, hs, hx, hrun, Result.andThen]
  exact hK
end

end Go.Proofs.YticbnckikkdknaaGreatDoor

namespace Go.Proofs.YticbnckikkdknaaGreatDoor.Tb
set_option linter.unusedVariables false
set_option linter.unusedSimpArgs false
open Go.RowKit

theorem ret_u64 {a b : Int} (h : a = b) : Ending.returned (.int .u64 a) = .returned (.int .u64 b) := by rw [h]
theorem ret_bool {a b : Bool} (h : a = b) : Ending.returned (.bool a) = .returned (.bool b) := by rw [h]

theorem rword_is (k c r o : Int) (w : World) (hk : 0 ≤ k) (hc : 0 ≤ c) (hr : 0 ≤ r) (ho : 0 ≤ o) (hk1 : k ≤ 255) (hc1 : c ≤ 255) (hr1 : r ≤ 255) (ho1 : o ≤ 255) :
    Calls Tryz.prog 126 #[.agg #[.int .u8 k, .int .u8 c, .int .u8 r, .int .u8 o]] w fun e w' => e = .returned (.int .u64 (wordE k c r o)) ∧ Kp [] w w' := by
  go_enter Tryz.func126, Tryz.ntmps126
  go_wp2
  go_ret
  exact ⟨ret_u64 (by simp only [wordE]; omega), kp_of_below (by go_grown)⟩

set_option maxHeartbeats 1000000 in
theorem rmay_is (k c r o : Int) (b : Bool) (w : World) (hk : 0 ≤ k) (hc : 0 ≤ c) (hr : 0 ≤ r) (ho : 0 ≤ o) (h : mayE k c r o = b) :
    Calls Tryz.prog 125 #[.agg #[.int .u8 k, .int .u8 c, .int .u8 r, .int .u8 o]] w fun e w' => e = .returned (.bool b) ∧ Kp [] w w' := by
  subst h
  go_enter Tryz.func125, Tryz.ntmps125
  go_wp2
  all_goals go_ret
  all_goals (refine ⟨ret_bool ?_, kp_of_below (by go_grown)⟩)
  all_goals (rw [eq_comm]; first
    | (rw [mayE_false]; omega)
    | (rw [Bool.eq_iff_iff, mayE_iff]; first | omega | (simp_all; done) | (simp_all; omega) | (by_cases q2 : k = 2 <;> by_cases q5 : k = 5 <;> by_cases q0 : 0 < r <;> first | omega | (simp_all; done) | (simp_all; omega))))

theorem rword_parts (x : Int) (w : World) (h0 : 0 ≤ x) :
    Calls Tryz.prog 126 #[.agg #[.int .u8 (x % 8), .int .u8 (x / 8 % 4), .int .u8 (x / 32 % 4), .int .u8 (x / 128 % 64)]] w fun e w' => e = .returned (.int .u64 (x % 8192)) ∧ Kp [] w w' :=
  (rword_is _ _ _ _ w (by omega) (by omega) (by omega) (by omega) (by omega) (by omega) (by omega) (by omega)).mono fun e w' ⟨he, hk⟩ => ⟨by rw [he, word_mod], hk⟩

theorem rtake_core (x n k c r o : Int) (b b2 : Bool) (w : World) (h0 : 0 ≤ x) (h1 : x < 18446744073709551616) (hm : mayE (x % 8) (x / 8 % 4) (x / 32 % 4) (x / 128 % 64) = b) (hne : (x % 8192 != x) = b2)
    (hb : (b = true ∧ b2 = false ∧ n = 0 ∧ k = x % 8 ∧ c = x / 8 % 4 ∧ r = x / 32 % 4 ∧ o = x / 128 % 64) ∨ (b = true ∧ b2 = true ∧ n = 3 ∧ k = 0 ∧ c = 0 ∧ r = 0 ∧ o = 0) ∨ (b = false ∧ n = 3 ∧ k = 0 ∧ c = 0 ∧ r = 0 ∧ o = 0)) :
    Calls Tryz.prog 83 #[.int .u64 x] w fun e w' => e = .returned (.tuple #[.agg #[.int .u8 k, .int .u8 c, .int .u8 r, .int .u8 o], .int .i64 n]) ∧ Kp [] w w' := by
  have hmay := Lib.hid (fun w => rmay_is _ _ _ _ b w (by omega) (by omega) (by omega) (by omega) hm)
  have hwd := Lib.hid (fun w => rword_parts x w h0)
  clear hm
  rcases hb with ⟨rfl, rfl, rfl, rfl, rfl, rfl, rfl⟩ | ⟨rfl, rfl, rfl, rfl, rfl, rfl, rfl⟩ | ⟨rfl, rfl, rfl, rfl, rfl, rfl⟩
  · go_enter Tryz.func83, Tryz.ntmps83
    go_wp2_with fail
    refine (hmay.out _).mono ?_; rintro e w1 ⟨rfl, hk⟩
    obtain ⟨hc1, hf1⟩ := bcell hk.to_below
    have blk := Lib.hid (hk.row (by simp) (heap_alloc2_old w _ _))
    have kp := Lib.hid ((((Kp.refl [] w).alloc _).alloc _).trans hk)
    have hz : w.heap.size + 1 < w1.heap.size := by have := hk.size; simp at this; omega
    clear hk
    go_wp2_with fail
    refine (hwd.out _).mono ?_; rintro e w2 ⟨rfl, hk⟩
    obtain ⟨hc2, hf2⟩ := bcell hk.to_below
    have blk2 := Lib.hid (hk.row (by simp) blk.out)
    have kp2 := Lib.hid (kp.out.trans hk)
    clear hk
    go_wp2_with (refine wpList_store_row rfl 115 _ _ rfl w.heap.size _ rfl rfl 115 _ blk2.out (by kernel_rfl) rfl (by simp [Value.oneCell']) ?_)
    exact bodyPost_row_tmp rfl w.heap.size 115 _ (0, 0) _ (.int .i64 0) rfl rfl rfl (setRow_heap _ _ _ _ _ _ blk2.out) Tryz.underlying115 rfl (by kernel_rfl)
      ⟨rfl, kp2.out.setRow (.inr (Nat.le_refl _)) _⟩
  · go_enter Tryz.func83, Tryz.ntmps83
    go_wp2_with fail
    refine (hmay.out _).mono ?_; rintro e w1 ⟨rfl, hk⟩
    obtain ⟨hc1, hf1⟩ := bcell hk.to_below
    have blk := Lib.hid (hk.row (by simp) (heap_alloc2_old w _ _))
    have kp := Lib.hid ((((Kp.refl [] w).alloc _).alloc _).trans hk)
    have hz : w.heap.size + 1 < w1.heap.size := by have := hk.size; simp at this; omega
    clear hk
    go_wp2_with fail
    refine (hwd.out _).mono ?_; rintro e w2 ⟨rfl, hk⟩
    obtain ⟨hc2, hf2⟩ := bcell hk.to_below
    have blk2 := Lib.hid (hk.row (by simp) blk.out)
    have kp2 := Lib.hid (kp.out.trans hk)
    clear hk
    go_wp2_with (refine wpList_store_row rfl 115 _ _ rfl w.heap.size _ rfl rfl 115 _ blk2.out (by kernel_rfl) rfl (by simp [Value.oneCell']) ?_)
    exact bodyPost_row_tmp rfl w.heap.size 115 _ (0, 0) _ (.int .i64 3) rfl rfl rfl (setRow_heap _ _ _ _ _ _ blk2.out) Tryz.underlying115 rfl (by kernel_rfl)
      ⟨rfl, kp2.out.setRow (.inr (Nat.le_refl _)) _⟩
  · go_enter Tryz.func83, Tryz.ntmps83
    go_wp2_with fail
    refine (hmay.out _).mono ?_; rintro e w1 ⟨rfl, hk⟩
    obtain ⟨hc1, hf1⟩ := bcell hk.to_below
    have blk := Lib.hid (hk.row (by simp) (heap_alloc2_old w _ _))
    have kp := Lib.hid ((((Kp.refl [] w).alloc _).alloc _).trans hk)
    have hz : w.heap.size + 1 < w1.heap.size := by have := hk.size; simp at this; omega
    clear hk
    go_wp2_with (refine wpList_store_row rfl 115 _ _ rfl w.heap.size _ rfl rfl 115 _ blk.out (by kernel_rfl) rfl (by simp [Value.oneCell']) ?_)
    exact bodyPost_row_tmp rfl w.heap.size 115 _ (0, 0) _ (.int .i64 3) rfl rfl rfl (setRow_heap _ _ _ _ _ _ blk.out) Tryz.underlying115 rfl (by kernel_rfl)
      ⟨rfl, kp.out.setRow (.inr (Nat.le_refl _)) _⟩

theorem rtake_some (x : Int) (w : World) (h0 : 0 ≤ x) (h : takeE x = true) :
    Calls Tryz.prog 83 #[.int .u64 x] w fun e w' => e = .returned (.tuple #[.agg #[.int .u8 (x % 8), .int .u8 (x / 8 % 4), .int .u8 (x / 32 % 4), .int .u8 (x / 128 % 64)], .int .i64 0]) ∧ Kp [] w w' := by
  have h' := h
  simp only [takeE, Bool.and_eq_true, decide_eq_true_eq] at h'
  exact rtake_core x 0 _ _ _ _ true false w h0 (by omega) h'.2 (by simp; omega) (.inl ⟨rfl, rfl, rfl, rfl, rfl, rfl, rfl⟩)
theorem rtake_none (x : Int) (w : World) (h0 : 0 ≤ x) (h1 : x < 18446744073709551616) (h : takeE x = false) :
    Calls Tryz.prog 83 #[.int .u64 x] w fun e w' => e = .returned (.tuple #[.agg #[.int .u8 0, .int .u8 0, .int .u8 0, .int .u8 0], .int .i64 3]) ∧ Kp [] w w' := by
  by_cases hm : mayE (x % 8) (x / 8 % 4) (x / 32 % 4) (x / 128 % 64) = true
  · have hx : ¬ x < 8192 := by intro hx; simp [takeE, hx, hm] at h
    exact rtake_core x 3 _ _ _ _ true true w h0 h1 hm (by simp; omega) (.inr (.inl ⟨rfl, rfl, rfl, rfl, rfl, rfl, rfl⟩))
  · exact rtake_core x 3 _ _ _ _ false _ w h0 h1 (by simpa using hm) rfl (.inr (.inr ⟨rfl, rfl, rfl, rfl, rfl, rfl⟩))

end Go.Proofs.YticbnckikkdknaaGreatDoor.Tb

namespace Go.Proofs.YticbnckikkdknaaGreatDoor
set_option linter.unusedVariables false
set_option linter.unusedSimpArgs false
set_option maxRecDepth 100000
open Go.RowKit
variable {Bz : Nat}

/-- The document's heap by value: its words lie at a slice, its layout beside it. -/
abbrev hV (b c N T G n : Nat) : Value := .agg #[.slice (some ⟨b, 0, none⟩) N c, .int .i64 T, .int .i64 G, .int .i64 n]
structure Dh (Bz T G n b c : Nat) (H : List Int) (w : World) : Prop where
  ww : Ww Bz w b c H
  len : 3 + T + G + 33 * n ≤ H.length
  top : H.length ≤ 4096
  ok : ∀ k, 0 ≤ H.getD k 0 ∧ H.getD k 0 < 18446744073709551616
  hT : T ≤ 64
  hG : G ≤ 8
  hn : n ≤ 64

section
variable {T G n b c : Nat} {H : List Int} {w w' : World}
theorem Ww.on {base : Nat} {xs : List Int} (h : Ww base w b c xs) (k : Kp [] w w') : Ww base w' b c xs := Gx.Rw.keep0 h k
theorem Ww.low {base base' : Nat} {xs : List Int} (h : Ww base w b c xs) (hx : 0 < xs.length) (hb : base' ≤ base) : Ww base' w b c xs := by
  unfold Ww at *
  rcases h.own.2 with ⟨h0, h1⟩ | ⟨g, c', cur, he, hge, r⟩
  · simp at h0
  · exact ⟨h.own.1, .inr ⟨g, c', cur, he, Nat.le_trans hb hge, r⟩⟩
theorem Dh.on (h : Dh Bz T G n b c H w) (k : Kp [] w w') : Dh Bz T G n b c H w' := ⟨h.ww.on k, h.len, h.top, h.ok, h.hT, h.hG, h.hn⟩
theorem Dh.cell (h : Dh Bz T G n b c H w) {k : Nat} (hk : k < H.length) : w.cell? ⟨b, k, none⟩ = some (.int .u64 (H.getD k 0)) := by
  obtain ⟨_, cur, hc, ht, _⟩ := h.ww.heap (by omega)
  rw [cell_of_row hc, ← ws_get H k hk, ← ht, List.getElem?_take_of_lt hk]; simp
theorem Dh.with (h : Dh Bz T G n b c H w) {k : Nat} (hk : k < H.length) {x : Int} (h0 : 0 ≤ x) (h1 : x < 18446744073709551616) :
    Calls Tryz.prog 49 #[hV b c H.length T G n, .int .i64 k, .int .u64 x] w fun e w' => ∃ b' c', e = .returned (hV b' c' H.length T G n) ∧ Dh Bz T G n b' c' (H.set k x) w' ∧ Kp [] w w' := by
  have hB : Bz ≤ w.heap.size := by
    obtain ⟨h1, cur, h2⟩ := Gx.Rw.block h.ww b (by rw [Gx.blk_some]; simp)
    exact Nat.le_trans h1 (Nat.le_of_lt (lt_of_block h2))
  refine (h_with w Bz b c H T G n k x h.ww hk h.top).mono ?_
  rintro e w' ⟨b', c', rfl, h2, h3⟩
  refine ⟨b', c', rfl, ⟨h2.low (by simp; omega) hB, by simpa using h.len, by simpa using h.top, fun j => ?_, h.hT, h.hG, h.hn⟩, h3⟩
  rw [getD_set']
  split
  · exact ⟨h0, h1⟩
  · exact h.ok j

theorem rtake_part (x : Int) (w : World) (h0 : 0 ≤ x) (h1 : x < 18446744073709551616) :
    Calls Tryz.prog 83 #[.int .u64 x] w fun e w' => e = .returned (.tuple #[.agg #[.int .u8 (ek x), .int .u8 (ec x), .int .u8 (er x), .int .u8 (eo x)], .int .i64 (ee x)]) ∧ Kp [] w w' := by
  unfold ek ec er eo ee
  cases h : Tb.takeE x
  · exact Tb.rtake_none x w h0 h1 h
  · exact Tb.rtake_some x w h0 h

/-- What a drawn region holds on to: the heap's box. -/
def Hs4 (a b c N T G n : Nat) (wx : World) : Prop :=
  wx.cell? ⟨a, 0, none⟩ = some (.slice (some ⟨b, 0, none⟩) N c) ∧ wx.cell? ⟨a, 1, none⟩ = some (.int .i64 T) ∧ wx.cell? ⟨a, 2, none⟩ = some (.int .i64 G) ∧ wx.cell? ⟨a, 3, none⟩ = some (.int .i64 n)
theorem Hs4.keep {a N : Nat} {S : List Nat} (h : Hs4 a b c N T G n w) (k : Kp S w w') (ha : a ∉ S) : Hs4 a b c N T G n w' := by
  obtain ⟨h0, h1, h2, h3⟩ := h
  exact ⟨kp_cell k ha h0, kp_cell k ha h1, kp_cell k ha h2, kp_cell k ha h3⟩

/-- The same, and an entry's box. -/
def Hs8 (a e b c N T G n : Nat) (k cl r o : Int) (wx : World) : Prop :=
  wx.cell? ⟨a, 0, none⟩ = some (.slice (some ⟨b, 0, none⟩) N c) ∧ wx.cell? ⟨a, 1, none⟩ = some (.int .i64 T) ∧ wx.cell? ⟨a, 2, none⟩ = some (.int .i64 G) ∧ wx.cell? ⟨a, 3, none⟩ = some (.int .i64 n) ∧ wx.cell? ⟨e, 0, none⟩ = some (.int .u8 k) ∧ wx.cell? ⟨e, 1, none⟩ = some (.int .u8 cl) ∧ wx.cell? ⟨e, 2, none⟩ = some (.int .u8 r) ∧ wx.cell? ⟨e, 3, none⟩ = some (.int .u8 o)
theorem Hs8.keep {a e N : Nat} {k cl r o : Int} {S : List Nat} (h : Hs8 a e b c N T G n k cl r o w) (kk : Kp S w w') (ha : a ∉ S) (he : e ∉ S) : Hs8 a e b c N T G n k cl r o w' := by
  obtain ⟨h0, h1, h2, h3, h4, h5, h6, h7⟩ := h
  exact ⟨kp_cell kk ha h0, kp_cell kk ha h1, kp_cell kk ha h2, kp_cell kk ha h3, kp_cell kk he h4, kp_cell kk he h5, kp_cell kk he h6, kp_cell kk he h7⟩
/-- A box of another type turns. -/
theorem Dh.box (h : Dh Bz T G n b c H w) {a : Nat} {cs : Array Value} {v0 v1 v2 v3 : Value} (ha : w.heap[a]? = some (.cells cs 40 (0, 0))) : Dh Bz T G n b c H (put4v w a v0 v1 v2 v3) := by
  refine ⟨?_, h.len, h.top, h.ok, h.hT, h.hG, h.hn⟩
  refine Gx.Rw.keep h.ww (put4v_kp _ _ _ _ _ _) fun g hg e => ?_
  simp only [List.mem_singleton] at e
  subst e
  obtain ⟨_, cur, hc⟩ := Gx.Rw.block h.ww g hg
  rw [ha] at hc
  simp at hc

/-- SetEntry's boxes: the heap's, the entry's, the answer's. -/
def sw (w : World) (b c N T G n : Nat) (k cl r o : Int) : World := ((w.alloc (.cells #[.slice (some ⟨b, 0, none⟩) N c, .int .i64 T, .int .i64 G, .int .i64 n] 40)).alloc (.cells #[.int .u8 k, .int .u8 cl, .int .u8 r, .int .u8 o] 115)).alloc (.cells #[.slice none 0 0, .int .i64 0, .int .i64 0, .int .i64 0] 40)
theorem sw_kp (w : World) (b c N T G n : Nat) (k cl r o : Int) : Kp [] w (sw w b c N T G n k cl r o) := (((Kp.refl _ _).alloc _).alloc _).alloc _
theorem sw_rows (w : World) (b c N T G n : Nat) (k cl r o : Int) : (sw w b c N T G n k cl r o).heap[w.heap.size]? = some (.cells #[.slice (some ⟨b, 0, none⟩) N c, .int .i64 T, .int .i64 G, .int .i64 n] 40 (0, 0)) ∧ (sw w b c N T G n k cl r o).heap[w.heap.size + 1]? = some (.cells #[.int .u8 k, .int .u8 cl, .int .u8 r, .int .u8 o] 115 (0, 0)) ∧ (sw w b c N T G n k cl r o).heap[w.heap.size + 2]? = some (.cells #[.slice none 0 0, .int .i64 0, .int .i64 0, .int .i64 0] 40 (0, 0)) := by
  have z1 := World.size_alloc w (.cells #[.slice (some ⟨b, 0, none⟩) N c, .int .i64 T, .int .i64 G, .int .i64 n] 40)
  have z2 := World.size_alloc (w.alloc (.cells #[.slice (some ⟨b, 0, none⟩) N c, .int .i64 T, .int .i64 G, .int .i64 n] 40)) (.cells #[.int .u8 k, .int .u8 cl, .int .u8 r, .int .u8 o] 115)
  refine ⟨?_, ?_, ?_⟩
  · exact (((Kp.refl [] _).alloc _).alloc _).row (by simp) (heap_alloc_new w _)
  · exact ((Kp.refl [] _).alloc _).row (by simp) (by rw [← z1]; exact heap_alloc_new _ _)
  · rw [show w.heap.size + 2 = w.heap.size + 1 + 1 from rfl, ← z1, ← z2]; exact heap_alloc_new _ _

set_option maxHeartbeats 4000000 in
theorem d_setEntry (h : Dh Bz T G n b c H w) (i : Nat) (hi : i < n) (k cl r o : Int) (k0 : 0 ≤ k) (c0 : 0 ≤ cl) (r0 : 0 ≤ r) (o0 : 0 ≤ o) (hm : Tb.mayE k cl r o = true) :
    Calls Tryz.prog 87 #[hV b c H.length T G n, .int .i64 i, .agg #[.int .u8 k, .int .u8 cl, .int .u8 r, .int .u8 o]] w fun e w' => ∃ b' c', e = .returned (hV b' c' H.length T G n) ∧ Dh Bz T G n b' c' (H.set (3 + T + G + i) (Tb.wordE k cl r o)) w' ∧ Kp [] w w' := by
  have hmi := Tb.mayE_iff.1 hm
  have hw := Tb.wordE_lt k0 c0 r0 o0 hm
  have HEn := Lib.hid (fun w => Ly.rentry_is T G n i ((3 + T + G + i : Nat) : Int) w (by rw [Ly.rowP_in (by omega) (by omega)]; omega) (by omega) (by have := h.hT; omega) (by omega) (by have := h.hG; omega) (by omega) (by have := h.hn; omega))
  have HWd := Lib.hid (fun w => Tb.rword_is k cl r o w k0 c0 r0 o0 (by omega) (by omega) (by omega) (by omega))
  have HWt := Lib.hid (fun (w' : World) (kk : Kp [] w w') => (h.on kk).with (k := 3 + T + G + i) (by have := h.len; omega) hw.1 (by omega))
  have HK0 := Lib.hid (sw_kp w b c H.length T G n k cl r o)
  have HR0 := Lib.hid (sw_rows w b c H.length T G n k cl r o)
  generalize 3 + T + G + i = P at HEn HWt ⊢
  generalize H.length = N at HWt HK0 HR0 ⊢
  obtain ⟨W0, hW0⟩ : ∃ W0, W0 = sw w b c N T G n k cl r o := ⟨_, rfl⟩
  rw [← hW0] at HK0 HR0
  unfold sw at hW0
  clear h hi hm hmi hw k0 c0 r0 o0
  generalize Tb.wordE k cl r o = x at HWd HWt ⊢
  have HS0 : Hid (Hs4 w.heap.size b c N T G n W0) := Lib.hid ⟨cell_of_row HR0.out.1 0, cell_of_row HR0.out.1 1, cell_of_row HR0.out.1 2, cell_of_row HR0.out.1 3⟩
  have HW0 := Lib.hid hW0
  clear hW0
  go_enter Tryz.func87, Tryz.ntmps87
  go_upto_region 1 with (fail)
  rw [← HW0.out]
  have HS8 : Hid (Hs8 w.heap.size (w.heap.size + 1) b c N T G n k cl r o W0) := Lib.hid ⟨HS0.out.1, HS0.out.2.1, HS0.out.2.2.1, HS0.out.2.2.2, cell_of_row HR0.out.2.1 0, cell_of_row HR0.out.2.1 1, cell_of_row HR0.out.2.1 2, cell_of_row HR0.out.2.1 3⟩
  go_region_held3 (fun wx => wx.cell? ⟨w.heap.size, 0, none⟩ = some (.slice (some ⟨b, 0, none⟩) N c) ∧ wx.cell? ⟨w.heap.size, 1, none⟩ = some (.int .i64 T) ∧ wx.cell? ⟨w.heap.size, 2, none⟩ = some (.int .i64 G) ∧ wx.cell? ⟨w.heap.size, 3, none⟩ = some (.int .i64 n) ∧ wx.cell? ⟨w.heap.size + 1, 0, none⟩ = some (.int .u8 k) ∧ wx.cell? ⟨w.heap.size + 1, 1, none⟩ = some (.int .u8 cl) ∧ wx.cell? ⟨w.heap.size + 1, 2, none⟩ = some (.int .u8 r) ∧ wx.cell? ⟨w.heap.size + 1, 3, none⟩ = some (.int .u8 o))
    (first
      | assumption
      | exact Hs8.keep HS8.out ((Kp.refl [] _).drew) (by simp) (by simp)
      | exact Hs8.keep ‹Hs8 w.heap.size (w.heap.size + 1) b c N T G n k cl r o _› hk9 (by simp) (by simp)
      | exact Hs8.keep (HS8.out.keep K7.out (by simp) (by simp)) (put4v_kp _ _ _ _ _ _) (by simp; omega) (by simp))
    (first
    | (go_at_call 84
       refine (HEn.out _).mono ?_
       rintro e w5 ⟨rfl, hk9⟩
       have K5 : Hid (Kp [] W0 w5) := Lib.hid (by refine Kp.trans ?_ hk9; exact ⟨rfl, rfl, rfl, Nat.le_refl _, fun _ _ _ => rfl⟩))
    | (go_at_call 126
       refine (HWd.out _).mono ?_
       rintro e w6 ⟨rfl, hk9⟩
       have K6 : Hid (Kp [] W0 w6) := Lib.hid (K5.out.trans (by refine Kp.trans ?_ hk9; exact ⟨rfl, rfl, rfl, Nat.le_refl _, fun _ _ _ => rfl⟩)))
    | (go_at_call 49
       refine (HWt.out _ ?_).mono ?_
       · exact HK0.out.trans (K6.out.trans ⟨rfl, rfl, rfl, Nat.le_refl _, fun _ _ _ => rfl⟩)
       rintro e w7 ⟨b', c', rfl, hd, hk9⟩
       have K7 : Hid (Kp [] W0 w7) := Lib.hid (K6.out.trans (by refine Kp.trans ?_ hk9; exact ⟨rfl, rfl, rfl, Nat.le_refl _, fun _ _ _ => rfl⟩))
       have hr7 := K7.out.row (by simp) HR0.out.2.2
       have e0 := (cell_of_row hr7 0).trans (show _ = some (.slice none 0 0) from rfl)
       have e1 := (cell_of_row hr7 1).trans (show _ = some (.int .i64 0) from rfl)
       have e2 := (cell_of_row hr7 2).trans (show _ = some (.int .i64 0) from rfl)
       have e3 := (cell_of_row hr7 3).trans (show _ = some (.int .i64 0) from rfl)
       have g0 := free_of_row hr7 0
       have g1 := free_of_row hr7 1
       have g2 := free_of_row hr7 2
       have g3 := free_of_row hr7 3
       have HR7 := Lib.hid hr7
       have HD := Lib.hid hd
       clear hr7 hd))
  all_goals
    rename_i hHeld
    clear hHeld
    go_wp2_with fail
    refine bodyPost_row rfl (w.heap.size + 1 + 1) 40 #[.slice (some ⟨b', 0, none⟩) N c', .int .i64 T, .int .i64 G, .int .i64 n] (0, 0) _ rfl rfl (put4v_row _ _ _ _ HR7.out) Tryz.underlying40 rfl (by kernel_rfl) ⟨b', c', rfl, HD.out.box HR7.out, kp_new_set (HK0.out.trans K7.out) (put4v_kp _ _ _ _ _ _) (by omega)⟩
end

end Go.Proofs.YticbnckikkdknaaGreatDoor

namespace Go.Proofs.YticbnckikkdknaaGreatDoor
set_option linter.unusedVariables false
set_option linter.unusedSimpArgs false
set_option maxRecDepth 100000
open Go.RowKit
variable {Bz : Nat}

/-- Claim's boxes: the heap's, the answer's. -/
def clw (w : World) (b c N T G n : Nat) : World := (w.alloc (.cells #[.slice (some ⟨b, 0, none⟩) N c, .int .i64 T, .int .i64 G, .int .i64 n] 40)).alloc (.cells #[.slice none 0 0, .int .i64 0, .int .i64 0, .int .i64 0] 40)
theorem clw_kp (w : World) (b c N T G n : Nat) : Kp [] w (clw w b c N T G n) := ((Kp.refl _ _).alloc _).alloc _
theorem clw_rows (w : World) (b c N T G n : Nat) : (clw w b c N T G n).heap[w.heap.size]? = some (.cells #[.slice (some ⟨b, 0, none⟩) N c, .int .i64 T, .int .i64 G, .int .i64 n] 40 (0, 0)) ∧ (clw w b c N T G n).heap[w.heap.size + 1]? = some (.cells #[.slice none 0 0, .int .i64 0, .int .i64 0, .int .i64 0] 40 (0, 0)) := by
  have z1 := World.size_alloc w (.cells #[.slice (some ⟨b, 0, none⟩) N c, .int .i64 T, .int .i64 G, .int .i64 n] 40)
  exact ⟨((Kp.refl [] _).alloc _).row (by simp) (heap_alloc_new w _), by rw [← z1]; exact heap_alloc_new _ _⟩

/-- The heap's box, and its first word. -/
def Hs5 (a b c N T G n M : Nat) (wx : World) : Prop :=
  wx.cell? ⟨a, 0, none⟩ = some (.slice (some ⟨b, 0, none⟩) N c) ∧ wx.cell? ⟨a, 1, none⟩ = some (.int .i64 T) ∧ wx.cell? ⟨a, 2, none⟩ = some (.int .i64 G) ∧ wx.cell? ⟨a, 3, none⟩ = some (.int .i64 n) ∧ wx.cell? ⟨b, 0, none⟩ = some (.int .u64 M)
theorem Hs5.keep {a b c N T G n M : Nat} {S : List Nat} {w w' : World} (h : Hs5 a b c N T G n M w) (k : Kp S w w') (ha : a ∉ S) (hb : b ∉ S) : Hs5 a b c N T G n M w' := by
  obtain ⟨h0, h1, h2, h3, h4⟩ := h
  exact ⟨kp_cell k ha h0, kp_cell k ha h1, kp_cell k ha h2, kp_cell k ha h3, kp_cell k hb h4⟩

section
variable {T G n b c : Nat} {H : List Int} {w w' : World}
theorem find_first (M run : Nat) : (∀ k : Nat, Bm.isR M k run true = true → (∀ j : Nat, j < k → Bm.isR M j run true = false) → (match frst M run with | none => (-1 : Int) | some k => (k : Int)) = (k : Int)) ∧ ((∀ j : Nat, j < 64 → Bm.isR M j run true = false) → (match frst M run with | none => (-1 : Int) | some k => (k : Int)) = -1) := by
  rcases first_or_none M run with ⟨k, hk, hf⟩ | hno
  · have hfr : frst M run = some k := by
      unfold frst
      rw [List.find?_range_eq_some]
      exact ⟨hf.1, by simpa using hk, fun j hj => by simp [hf.2 j hj]⟩
    rw [hfr]
    refine ⟨fun k' h1 h2 => ?_, fun h => ?_⟩
    · rcases Nat.lt_trichotomy k k' with hl | hl | hl
      · have := h2 k hl; rw [hf.1] at this; simp at this
      · simp [hl]
      · have := hf.2 k' hl; rw [h1] at this; simp at this
    · have := h k hk; rw [hf.1] at this; simp at this
  · have hfr : frst M run = none := by
      unfold frst
      rw [List.find?_range_eq_none]
      intro j _
      simp [hno j]
    rw [hfr]
    exact ⟨fun k' h1 _ => by have := hno k'; rw [h1] at this; simp at this, fun _ => rfl⟩

/-- No run. -/
theorem d_claim_no (h : Dh Bz T G n b c H w) (run : Nat) (hf : frst (H.getD 0 0).toNat run = none) :
    Calls Tryz.prog 97 #[hV b c H.length T G n, .int .i64 run] w fun e w' => e = .returned (.tuple #[hV b c H.length T G n, .int .i64 (-1)]) ∧ Kp [] w w' := by
  have hx0 := h.ok 0
  obtain ⟨M, hM⟩ := Int.eq_ofNat_of_zero_le hx0.1
  have hft := find_first M run
  have hM' : (H.getD 0 0).toNat = M := by rw [hM]; rfl
  rw [hM'] at hf
  rw [hf] at hft
  have HFi := Lib.hid (fun w => Bm.rfind_is M run (-1) w (by omega) hft.1 hft.2)
  have hl0 : 0 < H.length := by have := h.len; omega
  have c5 : (clw w b c H.length T G n).cell? ⟨b, 0, none⟩ = some (.int .u64 M) := by rw [(h.on (clw_kp w b c H.length T G n)).cell hl0, hM]
  have HK0 := Lib.hid (clw_kp w b c H.length T G n)
  have HR0 := Lib.hid (clw_rows w b c H.length T G n)
  generalize H.length = N at HK0 HR0 c5 hl0 ⊢
  have C5 := Lib.hid c5
  clear h hf hft hx0 hM hM' c5
  unfold clw at C5
  go_enter Tryz.func97, Tryz.ntmps97
  have c5 := C5.out
  go_wp2_with fail
  refine (HFi.out _).mono ?_
  rintro e w1 ⟨rfl, hk1⟩
  have K1 : Hid (Kp [] (clw w b c N T G n) w1) := Lib.hid hk1
  have hr := K1.out.row (by simp) HR0.out.1
  have hs := K1.out.row (by simp) HR0.out.2
  have d0 := (cell_of_row hr 0).trans (show _ = some (.slice (some ⟨b, 0, none⟩) N c) from rfl)
  have d1 := (cell_of_row hr 1).trans (show _ = some (.int .i64 T) from rfl)
  have d2 := (cell_of_row hr 2).trans (show _ = some (.int .i64 G) from rfl)
  have d3 := (cell_of_row hr 3).trans (show _ = some (.int .i64 n) from rfl)
  have e0 := (cell_of_row hs 0).trans (show _ = some (.slice none 0 0) from rfl)
  have e1 := (cell_of_row hs 1).trans (show _ = some (.int .i64 0) from rfl)
  have e2 := (cell_of_row hs 2).trans (show _ = some (.int .i64 0) from rfl)
  have e3 := (cell_of_row hs 3).trans (show _ = some (.int .i64 0) from rfl)
  have g0 := free_of_row hs 0
  have g1 := free_of_row hs 1
  have g2 := free_of_row hs 2
  have g3 := free_of_row hs 3
  have HS := Lib.hid hs
  clear hk1 hr hs c5 C5
  go_wp2_with fail
  exact bodyPost_row_tmp rfl (w.heap.size + 1) 40 #[.slice (some ⟨b, 0, none⟩) N c, .int .i64 T, .int .i64 G, .int .i64 n] (0, 0) _ (.int .i64 (-1)) rfl rfl rfl (put4v_row _ _ _ _ HS.out) Tryz.underlying40 rfl (by kernel_rfl) ⟨rfl, kp_new_set (HK0.out.trans K1.out) (put4v_kp _ _ _ _ _ _) (by omega)⟩

set_option maxHeartbeats 2000000 in
/-- A run: it is not free any more. -/
theorem d_claim_yes (h : Dh Bz T G n b c H w) (run k : Nat) (hr : 1 ≤ run ∧ run ≤ 3) (hf : frst (H.getD 0 0).toNat run = some k) :
    Calls Tryz.prog 97 #[hV b c H.length T G n, .int .i64 run] w fun e w' => ∃ b' c', e = .returned (.tuple #[hV b' c' H.length T G n, .int .i64 k]) ∧ Dh Bz T G n b' c' (H.set 0 (Bm.setN (H.getD 0 0).toNat k run false : Int)) w' ∧ Kp [] w w' := by
  have hx0 := h.ok 0
  obtain ⟨M, hM⟩ := Int.eq_ofNat_of_zero_le hx0.1
  have hft := find_first M run
  have hM' : (H.getD 0 0).toNat = M := by rw [hM]; rfl
  rw [hM'] at hf ⊢
  rw [hf] at hft
  have hk3 : k + run ≤ 64 := by
    unfold frst at hf
    have h1 := List.find?_some hf
    simp only [Bm.isR, Bool.and_eq_true, decide_eq_true_eq] at h1
    omega
  have HFi := Lib.hid (fun w => Bm.rfind_is M run k w (by omega) hft.1 hft.2)
  have HBw := Lib.hid (fun w => Bm.rwith_is M k run (Bm.setN M k run false) false w (by omega) hr.1 hr.2 hk3 rfl)
  have hl0 : 0 < H.length := by have := h.len; omega
  have hsl := Bm.setN_lt M k run false
  have HWt := Lib.hid (fun (w' : World) (kk : Kp [] w w') => (h.on kk).with (k := 0) hl0 (x := (Bm.setN M k run false : Int)) (by omega) (by omega))
  have HBz : Hid (b < w.heap.size) := Lib.hid (World.block_lt_of_cell? _ _ (h.cell hl0))
  have HC5 : Hid (∀ w', Kp [] w w' → w'.cell? ⟨b, 0, none⟩ = some (.int .u64 M)) := Lib.hid fun w' kk => by rw [(h.on kk).cell hl0, hM]
  have HK0 := Lib.hid (clw_kp w b c H.length T G n)
  have HR0 := Lib.hid (clw_rows w b c H.length T G n)
  have hk64 : k ≤ 64 := by omega
  generalize H.length = N at HK0 HR0 HWt hl0 ⊢
  have c5 := HC5.out _ HK0.out
  generalize Bm.setN M k run false = M2 at HBw HWt ⊢
  clear h hf hft hx0 hM hM' hk3 hr hsl
  have C5 := Lib.hid c5
  unfold clw at C5
  clear c5
  go_enter Tryz.func97, Tryz.ntmps97
  have c5 := C5.out
  go_wp2_with fail
  refine (HFi.out _).mono ?_
  rintro e w1 ⟨rfl, hk1⟩
  have K1 : Hid (Kp [] (clw w b c N T G n) w1) := Lib.hid hk1
  have hr := K1.out.row (by simp) HR0.out.1
  have c6 := HC5.out _ (HK0.out.trans K1.out)
  have HS0 : Hid (Hs5 w.heap.size b c N T G n M w1) := Lib.hid ⟨cell_of_row hr 0, cell_of_row hr 1, cell_of_row hr 2, cell_of_row hr 3, c6⟩
  clear hk1 hr c5 C5
  go_wp2_with fail
  go_region_held3 (fun wx => wx.cell? ⟨w.heap.size, 0, none⟩ = some (.slice (some ⟨b, 0, none⟩) N c) ∧ wx.cell? ⟨w.heap.size, 1, none⟩ = some (.int .i64 T) ∧ wx.cell? ⟨w.heap.size, 2, none⟩ = some (.int .i64 G) ∧ wx.cell? ⟨w.heap.size, 3, none⟩ = some (.int .i64 n) ∧ wx.cell? ⟨b, 0, none⟩ = some (.int .u64 M))
    (first
      | assumption
      | exact Hs5.keep HS0.out ((Kp.refl [] _).drew) (by simp) (by simp)
      | exact Hs5.keep ‹Hs5 w.heap.size b c N T G n M _› hk9 (by simp) (by simp)
      | exact Hs5.keep (HS0.out.keep K7.out (by simp) (by simp)) (put4v_kp _ _ _ _ _ _) (by simp) (by have := HBz.out; simp; omega))
    (first
    | (go_at_call 130
       refine (HBw.out _).mono ?_
       rintro e w6 ⟨rfl, hk9⟩
       have K6 : Hid (Kp [] w1 w6) := Lib.hid (by refine Kp.trans ?_ hk9; exact ⟨rfl, rfl, rfl, Nat.le_refl _, fun _ _ _ => rfl⟩))
    | (go_at_call 49
       refine (HWt.out _ ?_).mono ?_
       · exact HK0.out.trans (K1.out.trans (K6.out.trans ⟨rfl, rfl, rfl, Nat.le_refl _, fun _ _ _ => rfl⟩))
       rintro e w7 ⟨b', c', rfl, hd, hk9⟩
       have K7 : Hid (Kp [] w1 w7) := Lib.hid (K6.out.trans (by refine Kp.trans ?_ hk9; exact ⟨rfl, rfl, rfl, Nat.le_refl _, fun _ _ _ => rfl⟩))
       have hr7 := (K1.out.trans K7.out).row (by simp) HR0.out.2
       have e0 := (cell_of_row hr7 0).trans (show _ = some (.slice none 0 0) from rfl)
       have e1 := (cell_of_row hr7 1).trans (show _ = some (.int .i64 0) from rfl)
       have e2 := (cell_of_row hr7 2).trans (show _ = some (.int .i64 0) from rfl)
       have e3 := (cell_of_row hr7 3).trans (show _ = some (.int .i64 0) from rfl)
       have g0 := free_of_row hr7 0
       have g1 := free_of_row hr7 1
       have g2 := free_of_row hr7 2
       have g3 := free_of_row hr7 3
       have HR7 := Lib.hid hr7
       have HD := Lib.hid hd
       clear hr7 hd))
  all_goals
    rename_i hHeld
    clear hHeld
    go_wp2_with fail
    exact bodyPost_row_tmp rfl (w.heap.size + 1) 40 #[.slice (some ⟨b', 0, none⟩) N c', .int .i64 T, .int .i64 G, .int .i64 n] (0, 0) _ (.int .i64 k) rfl rfl rfl (put4v_row _ _ _ _ HR7.out) Tryz.underlying40 rfl (by kernel_rfl) ⟨b', c', rfl, HD.out.box HR7.out, kp_new_set (HK0.out.trans (K1.out.trans K7.out)) (put4v_kp _ _ _ _ _ _) (by omega)⟩
end

end Go.Proofs.YticbnckikkdknaaGreatDoor
