/- Plain facts on a map's bits: a number by its bits; a run of blocks; the least one that is free; how many are. Nothing here speaks of the program. Conditions: as each lemma states them. -/
import Derived.Laws.BitsAllLaws
import Derived.Laws.Bits64
namespace Go.Proofs.YtinkpbenmfnnhaaDoor.Bm
set_option linter.unusedVariables false
set_option linter.unusedSimpArgs false
open Go

/-- The number whose bits are f k, f (k + 1), .. (m of them). -/
def wv (f : Nat → Bool) : Nat → Nat → Nat
  | _, 0 => 0
  | k, m + 1 => (f k).toNat + 2 * wv f (k + 1) m

theorem wv_lt (f : Nat → Bool) : ∀ m k, wv f k m < 2 ^ m
  | 0, k => by simp [wv]
  | m + 1, k => by
    have := wv_lt f m (k + 1)
    have : (f k).toNat ≤ 1 := Bool.toNat_le _
    simp only [wv, Nat.pow_succ]; omega

theorem wv_bit (f : Nat → Bool) : ∀ m k i, (wv f k m).testBit i = (decide (i < m) && f (k + i))
  | 0, k, i => by simp [wv]
  | m + 1, k, 0 => by
    simp only [wv, Nat.testBit_zero]
    cases f k <;> simp <;> omega
  | m + 1, k, i + 1 => by
    have h : ((f k).toNat + 2 * wv f (k + 1) m) / 2 = wv f (k + 1) m := by
      have : (f k).toNat ≤ 1 := Bool.toNat_le _
      omega
    simp only [wv, Nat.testBit_succ, h, wv_bit f m (k + 1) i]
    have : k + 1 + i = k + (i + 1) := by omega
    simp [this]

theorem eq_of_bits {x y : Nat} (hx : x < 2 ^ 64) (hy : y < 2 ^ 64) (h : ∀ i, i < 64 → x.testBit i = y.testBit i) : x = y := by
  apply Nat.eq_of_testBit_eq
  intro i
  by_cases hi : i < 64
  · exact h i hi
  · have e : 2 ^ 64 ≤ 2 ^ i := Nat.pow_le_pow_right (by omega) (by omega)
    rw [Nat.testBit_lt_two_pow (Nat.lt_of_lt_of_le hx e), Nat.testBit_lt_two_pow (Nat.lt_of_lt_of_le hy e)]

theorem wv_of {x : Nat} {f : Nat → Bool} (h : x < 2 ^ 64) (hf : ∀ i, i < 64 → f i = x.testBit i) : wv f 0 64 = x :=
  eq_of_bits (wv_lt f 64 0) h (fun i hi => by rw [wv_bit]; simp [hi, hf i hi])

/-- The map with the blocks a .. a + r - 1 free, or none of them. -/
def setN (x a r : Nat) (b : Bool) : Nat := wv (fun i => if a ≤ i ∧ i < a + r then b else x.testBit i) 0 64
theorem setN_bit (x a r : Nat) (b : Bool) (i : Nat) (hi : i < 64) : (setN x a r b).testBit i = if a ≤ i ∧ i < a + r then b else x.testBit i := by
  rw [setN, wv_bit]; simp [hi]
theorem setN_lt (x a r : Nat) (b : Bool) : setN x a r b < 2 ^ 64 := wv_lt _ _ _

/-- The blocks a .. a + r - 1 alone. -/
def mk (a r : Nat) : Nat := (2 ^ r - 1) * 2 ^ a
theorem mk_bit (a r i : Nat) : (mk a r).testBit i = decide (a ≤ i ∧ i < a + r) := by
  rw [mk, Nat.testBit_mul_two_pow, Nat.testBit_two_pow_sub_one]
  by_cases h : a ≤ i
  · simp [h]; omega
  · simp [h]
theorem mk_lt {a r : Nat} (h : a + r ≤ 64) : mk a r < 2 ^ 64 := by
  have h1 : 2 ^ (a + r) ≤ 2 ^ 64 := Nat.pow_le_pow_right (by omega) h
  have h2 : 0 < 2 ^ a := Nat.two_pow_pos a
  have h3 : 2 ^ (a + r) = 2 ^ r * 2 ^ a := by rw [Nat.add_comm, Nat.pow_add]
  have h4 : (2 ^ r - 1) * 2 ^ a < 2 ^ r * 2 ^ a := Nat.mul_lt_mul_of_pos_right (by have := Nat.two_pow_pos r; omega) h2
  unfold mk; omega

/-- Are all blocks of a run free (none)? -/
def allN (x a r : Nat) (b : Bool) : Bool := decide (∀ i, i < r → x.testBit (a + i) = b)
theorem allN_iff {x a r : Nat} {b : Bool} : allN x a r b = true ↔ ∀ i, a ≤ i → i < a + r → x.testBit i = b := by
  simp only [allN, decide_eq_true_eq]
  constructor
  · intro h i h1 h2
    have := h (i - a) (by omega)
    rwa [show a + (i - a) = i from by omega] at this
  · intro h i hi
    exact h (a + i) (by omega) (by omega)

theorem and_mk_all {x a r : Nat} (hx : x < 2 ^ 64) (h : a + r ≤ 64) : (x &&& mk a r = mk a r) ↔ allN x a r true = true := by
  rw [allN_iff]
  constructor
  · intro e i h1 h2
    have := congrArg (fun n => Nat.testBit n i) e
    simp only [Nat.testBit_and, mk_bit] at this
    simpa [h1, h2] using this
  · intro hh
    apply Nat.eq_of_testBit_eq
    intro i
    rw [Nat.testBit_and, mk_bit]
    by_cases hi : a ≤ i ∧ i < a + r
    · simp [hi, hh i hi.1 hi.2]
    · simp [hi]
theorem and_mk_none {x a r : Nat} (hx : x < 2 ^ 64) (h : a + r ≤ 64) : (x &&& mk a r = 0) ↔ allN x a r false = true := by
  rw [allN_iff]
  constructor
  · intro e i h1 h2
    have := congrArg (fun n => Nat.testBit n i) e
    simp only [Nat.testBit_and, mk_bit] at this
    simpa [h1, h2] using this
  · intro hh
    apply Nat.eq_of_testBit_eq
    intro i
    rw [Nat.testBit_and, mk_bit]
    by_cases hi : a ≤ i ∧ i < a + r
    · simp [hi, hh i hi.1 hi.2]
    · simp [hi]
theorem not_bit {y : Nat} (hy : y < 2 ^ 64) {i : Nat} (hi : i < 64) : (18446744073709551615 - y).testBit i = !y.testBit i := by
  have := Nat.testBit_two_pow_sub_succ (n := 64) (x := y) (by simpa using hy) i
  rw [show (18446744073709551615 - y) = 2 ^ 64 - (y + 1) from by omega, this]
  simp [hi]
theorem clear_eq {x a r : Nat} (hx : x < 2 ^ 64) (h : a + r ≤ 64) : x &&& (18446744073709551615 - mk a r) = setN x a r false := by
  refine eq_of_bits (Nat.lt_of_le_of_lt Nat.and_le_left hx) (setN_lt _ _ _ _) fun i hi => ?_
  rw [setN_bit _ _ _ _ _ hi, Nat.testBit_and, not_bit (mk_lt h) hi, mk_bit]
  by_cases c : a ≤ i ∧ i < a + r
  · simp [c]
  · simp [c]
theorem put_eq {x a r : Nat} (hx : x < 2 ^ 64) (h : a + r ≤ 64) : x ||| mk a r = setN x a r true := by
  refine eq_of_bits (Nat.or_lt_two_pow hx (mk_lt h)) (setN_lt _ _ _ _) fun i hi => ?_
  rw [setN_bit _ _ _ _ _ hi, Nat.testBit_or, mk_bit]
  by_cases c : a ≤ i ∧ i < a + r
  · simp [c]
  · simp [c]

/-- How many of the first n blocks are free. -/
def cnt (x : Nat) : Nat → Nat
  | 0 => 0
  | n + 1 => cnt x n + (x.testBit n).toNat
theorem cnt_le (x : Nat) : ∀ n, cnt x n ≤ n
  | 0 => Nat.le_refl _
  | n + 1 => by have := cnt_le x n; have := Bool.toNat_le (x.testBit n); simp only [cnt]; omega
/-- Clearing a run of r free blocks leaves r less. -/
theorem cnt_clear (x a r : Nat) (hall : allN x a r true = true) : ∀ n, n ≤ 64 → cnt (setN x a r false) n + (min (a + r) n - min a n) = cnt x n
  | 0, _ => by simp [cnt]
  | n + 1, hn => by
    have ih := cnt_clear x a r hall n (by omega)
    simp only [cnt, setN_bit x a r false n (by omega)]
    by_cases c : a ≤ n ∧ n < a + r
    · have := allN_iff.1 hall n c.1 c.2
      simp only [if_pos c, this, Bool.toNat_true, Bool.toNat_false]; omega
    · simp only [if_neg c]; omega

end Go.Proofs.YtinkpbenmfnnhaaDoor.Bm
