/- The walks of the document's own bitmap (demesneref04). Conditions: as each theorem states them. -/
import Derived.Test.YtinkpbenmfnnhaaDoorBmF
import Derived.Test.YtinkpbenmfnnhaaDoorLaw
import Derived.Deep.WholeRow
import Derived.OwnWalk
namespace Go.Proofs.YtinkpbenmfnnhaaDoor.Bm
set_option linter.unusedVariables false
set_option linter.unusedSimpArgs false
set_option maxRecDepth 100000
open Go.RowKit

/-- An array of 64 bools. -/
def bv (f : Nat → Bool) : Array Value := ((List.range 64).map fun i => Value.bool (f i)).toArray
theorem bv_size (f : Nat → Bool) : (bv f).size = 64 := by simp [bv]
theorem bv_get (f : Nat → Bool) (i : Nat) (h : i < 64) : (bv f)[i]? = some (.bool (f i)) := by simp [bv, h]
theorem bv_set (f : Nat → Bool) (i : Nat) (b : Bool) (g : Nat → Bool) (h : ∀ j, j < 64 → g j = if j = i then b else f j) : (bv f).setIfInBounds i (.bool b) = bv g := by
  apply Array.ext_getElem?
  intro j
  by_cases hj : j < 64
  · rw [bv_get g j hj, h j hj]
    by_cases e : i = j
    · subst e
      rw [Array.getElem?_setIfInBounds_self_of_lt (by rw [bv_size]; exact hj)]; simp
    · rw [Array.getElem?_setIfInBounds_ne e, bv_get f j hj, if_neg (fun q => e q.symm)]
  · rw [Array.getElem?_eq_none (by rw [Array.size_setIfInBounds, bv_size]; omega), Array.getElem?_eq_none (by rw [bv_size]; omega)]
theorem bv_one (f : Nat → Bool) : (bv f).all (·.oneCell') = true := by
  rw [Array.all_eq_true]
  intro i hi
  have hi' : i < 64 := by rwa [bv_size] at hi
  have := bv_get f i hi'
  rw [Array.getElem?_eq_getElem hi] at this
  injection this with this
  rw [this]; rfl
theorem bv_info : (Tryd.prog.info? 76).map (fun i => (i.zero, i.size)) = some (some (.agg (bv fun _ => false)), 64) := by kernel_rfl

/-- The block that was made last holds an array of bools. -/
theorem bv_cell (w : World) (f : Nat → Bool) (k : Nat) (hk : k < 64) (b : Nat) (hb : b = w.heap.size) : (w.alloc (.cells (bv f) 76)).cell? ⟨b, k, none⟩ = some (.bool (f k)) := by
  subst hb
  rw [cell_of_row (heap_alloc_last w _) k, bv_get f k hk]
theorem bv_free (w : World) (f : Nat → Bool) (k : Nat) (b : Nat) (hb : b = w.heap.size) : (w.alloc (.cells (bv f) 76)).frozen? ⟨b, k, none⟩ = false := by
  subst hb
  exact free_of_row (heap_alloc_last w _) k

theorem bv_szs : (Tryd.prog.info? 76).map (·.size) = some 64 := (zero_of_info bv_info).2

/-- The whole array is loaded, and stored. -/
theorem bv_load {w : World} {ops : Array Oper} {rest : List Oper} {o : Oper} {a : Act} {Q : Exit → Act → World → Prop} (hgd : o.guard = none) (x : Operand) (ho : o.op = .load 76 x) (g : Nat) (hx : a.eval x = .pointer (some ⟨g, 0, none⟩))
    (f : Nat → Bool) (hg : w.heap[g]? = some (.cells (bv f) 76 (0, 0))) (h : wpList Tryd.prog ops Q rest (a.put o.dst (.agg (bv f))) w) : wpList Tryd.prog ops Q (o :: rest) a w :=
  wpList_load_row hgd 76 x ho g hx 76 (bv f) (0, 0) _ hg Tryd.underlying76 rfl (by rw [bv_szs, bv_size]) h
theorem bv_store {w : World} {ops : Array Oper} {rest : List Oper} {o : Oper} {a : Act} {Q : Exit → Act → World → Prop} (hgd : o.guard = none) (x y : Operand) (ho : o.op = .store 76 x y) (g : Nat) (hx : a.eval x = .pointer (some ⟨g, 0, none⟩))
    (f : Nat → Bool) (hy : a.eval y = .agg (bv f)) (f0 : Nat → Bool) (hg : w.heap[g]? = some (.cells (bv f0) 76 (0, 0))) (h : wpList Tryd.prog ops Q rest (a.put o.dst undef) (w.setRow g (bv f))) : wpList Tryd.prog ops Q (o :: rest) a w :=
  wpList_store_row hgd 76 x y ho g (bv f) hx hy 76 (bv f0) hg (by rw [bv_szs, bv_size]) (by rw [bv_size, bv_size]) (bv_one f) h

theorem bit_of_half (x y k : Nat) (h : y = x / 2 ^ k) : ((y : Int) % 2 == 1) = x.testBit k := by
  rw [Nat.testBit_eq_decide_div_mod_eq, ← h, Bool.eq_iff_iff]
  simp only [beq_iff_eq, decide_eq_true_eq]
  omega
theorem bv_congr {f g : Nat → Bool} (h : ∀ j, j < 64 → f j = g j) : bv f = bv g := by
  apply Array.ext_getElem?
  intro j
  by_cases hj : j < 64
  · rw [bv_get f j hj, bv_get g j hj, h j hj]
  · rw [Array.getElem?_eq_none (by rw [bv_size]; omega), Array.getElem?_eq_none (by rw [bv_size]; omega)]

theorem rword_is (f : Nat → Bool) (n : Nat) (w : World) (hn : wv f 0 64 = n) : Calls Tryd.prog 22 #[.agg (bv f)] w fun e w' => e = .returned (.int .u64 n) ∧ Kp [] w w' := by
  have HN := Lib.hid hn
  clear hn
  go_enter Tryd.func22, Tryd.ntmps22
  go_wp2
  go_loopg [3, 4] 64 (fun g nv iv wr => ∃ (m : Nat) (i : Int), g ≤ 64 ∧ nv = .int .u64 m ∧ Hid (m = wv f g (64 - g)) ∧ iv = .int .i64 i ∧ i + 1 = g ∧ wr = w.alloc (.cells (bv f) 76))
  case atStart => exact ⟨0, 63, by omega, rfl, rfl, rfl, by omega, rfl⟩
  case round =>
    obtain ⟨m, i, hg64, rfl, HM, rfl, hi, rfl⟩ := hrel
    by_cases h0 : gk = 0
    · subst h0
      obtain rfl : i = -1 := by omega
      obtain rfl : m = n := by rw [HM.out, ← HN.out]
      go_wp2
      go_ret
      exact ⟨rfl, (Kp.refl _ _).alloc _⟩
    · obtain ⟨q, rfl⟩ : ∃ q, gk = q + 1 := ⟨gk - 1, by omega⟩
      obtain rfl : i = q := by omega
      have hm : m < 2 ^ (64 - (q + 1)) := by rw [HM.out]; exact wv_lt _ _ _
      have hm2 : m < 9223372036854775808 := Nat.lt_of_lt_of_le hm (by
        have : 2 ^ (64 - (q + 1)) ≤ 2 ^ 63 := Nat.pow_le_pow_right (by omega) (by omega)
        exact this)
      clear hm
      have hc := bv_cell w f q (by omega) w.heap.size rfl
      have key : wv f q (64 - q) = (f q).toNat + 2 * m := by
        rw [show 64 - q = (64 - (q + 1)) + 1 from by omega, HM.out]; rfl
      have HK := Lib.hid key
      clear key
      cases hf : f q
      · rw [hf] at hc
        have HF := Lib.hid hf
        clear hf
        go_wp2
        go_roundg q
        case rel =>
          refine ⟨2 * m, (q : Int) - 1, by omega, by go_num, ?_, rfl, by omega, rfl⟩
          show _ = _
          rw [HK.out, HF.out]; simp
        case measure => omega
      · rw [hf] at hc
        have HF := Lib.hid hf
        clear hf
        go_wp2
        go_roundg q
        case rel =>
          refine ⟨1 + 2 * m, (q : Int) - 1, by omega, by go_num, ?_, rfl, by omega, rfl⟩
          show _ = _
          rw [HK.out, HF.out]; simp
        case measure => omega

theorem rall_num (b : Int) (n : Nat) (hn : 2 ^ min b.toNat 64 - 1 = n) (f : Nat → Bool) (hf : ∀ j, j < 64 → f j = decide ((j : Int) < b)) : wv f 0 64 = n := by
  subst hn
  have h0 := Nat.two_pow_pos (min b.toNat 64)
  have h1 : 2 ^ min b.toNat 64 ≤ 2 ^ 64 := Nat.pow_le_pow_right (by omega) (by omega)
  refine wv_of (by omega) fun i hi => ?_
  rw [hf i hi, Nat.testBit_two_pow_sub_one, Bool.eq_iff_iff]
  simp only [decide_eq_true_eq]
  omega

theorem rall_is (b : Int) (n : Nat) (w : World) (hn : 2 ^ min b.toNat 64 - 1 = n) : Calls Tryd.prog 13 #[.int .i64 b] w fun e w' => e = .returned (.int .u64 n) ∧ Kp [] w w' := by
  obtain ⟨hz, hs⟩ := zero_of_info bv_info
  have HN := Lib.hid hn
  clear hn hs
  go_enter Tryd.func13, Tryd.ntmps13
  go_wp2
  go_loopg [4] 64 (fun g iv wr => ∃ (k : Nat) (f : Nat → Bool), k + g = 64 ∧ iv = .int .i64 k ∧ Hid (∀ j, j < k → f j = decide ((j : Int) < b)) ∧ wr = w.alloc (.cells (bv f) 76))
  case atStart => exact ⟨0, _, by omega, rfl, fun j hj => absurd hj (by omega), rfl⟩
  case round =>
    obtain ⟨k, f, hkg, rfl, HF, rfl⟩ := hrel
    by_cases hk : k < 64
    · have hc := bv_cell w f k hk w.heap.size rfl
      have hf := bv_free w f k w.heap.size rfl
      go_wp2
      go_roundg (64 - (k + 1))
      case rel =>
        refine ⟨k + 1, fun j => if j = k then decide ((k : Int) < b) else f j, by omega, by go_num, fun j hj => ?_, ?_⟩
        · by_cases e : j = k
          · subst e
            simp only [if_true]
          · simp only [if_neg e]; exact HF.out j (by omega)
        · rw [bv_set f k _ (fun j => if j = k then decide ((k : Int) < b) else f j) (fun j _ => rfl)]
      case measure => omega
    · have hw := rword_is f n (w.alloc (.cells (bv f) 76)) (rall_num b n HN.out f fun j hj => HF.out j (by omega))
      have H0 := Lib.hid (heap_alloc_last w (.cells (bv f) 76))
      go_wp2_with (first
        | refine bv_load rfl _ rfl w.heap.size rfl _ H0.out ?_
        | ((with_reducible refine hw.mono ?_); rintro e w1 ⟨rfl, hkp⟩))
      go_ret
      exact ⟨rfl, ((Kp.refl [] w).alloc _).trans (hkp.mono (by simp))⟩

end Go.Proofs.YtinkpbenmfnnhaaDoor.Bm
