/- Plain facts on a table entry's numbers and bits; nothing here speaks of the program. Conditions: as each lemma states them. -/
import Derived.Laws.BitsAllLaws
import Derived.Laws.Bits64
namespace Go.Proofs.YtinkpbenmfnnhaaDoor.Tb
set_option linter.unusedVariables false
set_option linter.unusedSimpArgs false
open Go

theorem or_put (x p q : Int) (n : Nat) (hn : n ≤ 18) (hq : q = 2 ^ n) (h0 : 0 ≤ x) (h1 : x < q) (hp : 0 ≤ p) (hp2 : p ≤ 255) :
    bits .or .u64 x (IntKind.u64.wrap (p * 2 ^ n)) = x + p * q := by
  subst hq
  obtain ⟨a, rfl⟩ := Int.eq_ofNat_of_zero_le h0
  obtain ⟨b, rfl⟩ := Int.eq_ofNat_of_zero_le hp
  have e : ((b : Int) * 2 ^ n) = ((b * 2 ^ n : Nat) : Int) := by push_cast; rfl
  have hq : (2 : Nat) ^ n ≤ 2 ^ 18 := Nat.pow_le_pow_right (by omega) hn
  have ha : a < 2 ^ n := by exact_mod_cast h1
  have hb : b ≤ 255 := by omega
  have hbq : b * 2 ^ n ≤ 255 * 2 ^ 18 := Nat.mul_le_mul hb hq
  rw [e, IntKind.wrap_u64, Int.emod_eq_of_lt (by omega) (by omega)]
  rw [u64_or_nat _ _ (by omega) (by omega), Nat.or_comm, nat_join n _ _ (by simp) ha]
  push_cast; omega

theorem or_mul (x p q : Int) (n : Nat) (hn : n ≤ 18) (hq : q = 2 ^ n) (h0 : 0 ≤ x) (h1 : x < q) (hp : 0 ≤ p) (hp2 : p ≤ 255) : bits .or .u64 x (p * q) = x + p * q := by
  have h := or_put x p q n hn hq h0 h1 hp hp2
  have h2 : q ≤ 262144 := by
    have : (2 : Int) ^ n ≤ 2 ^ 18 := by exact_mod_cast Nat.pow_le_pow_right (n := 2) (by omega) hn
    omega
  have h3 : 0 ≤ p * q := Int.mul_nonneg hp (by omega)
  have h4 : p * q ≤ 255 * 262144 := Int.mul_le_mul hp2 h2 (by omega) (by omega)
  rwa [← hq, IntKind.wrap_u64, Int.emod_eq_of_lt h3 (by omega)] at h

theorem and_part (x q d : Int) (f n : Nat) (hn : n ≤ 8) (hq : q = 2 ^ n) (hd : d = 2 ^ f) (h0 : 0 ≤ x) (h1 : x < 18446744073709551616) :
    bits .and .u64 (x / 2 ^ f) (IntKind.u64.wrap (IntKind.u64.wrap (2 ^ n) - 1)) = x / d % q := by
  subst hq hd
  obtain ⟨a, rfl⟩ := Int.eq_ofNat_of_zero_le h0
  have e : ((a : Int) / 2 ^ f) = ((a / 2 ^ f : Nat) : Int) := by push_cast; rfl
  have hq : (2 : Nat) ^ n ≤ 2 ^ 8 := Nat.pow_le_pow_right (by omega) hn
  have hq0 : 0 < (2 : Nat) ^ n := Nat.two_pow_pos n
  have e2 : (2 : Int) ^ n = ((2 ^ n : Nat) : Int) := by push_cast; rfl
  have hd : a / 2 ^ f ≤ a := Nat.div_le_self _ _
  rw [e, e2, IntKind.wrap_u64, IntKind.wrap_u64, Int.emod_eq_of_lt (a := ((2 ^ n : Nat) : Int)) (by omega) (by omega), Int.emod_eq_of_lt (by omega) (by omega)]
  have e3 : ((2 ^ n : Nat) : Int) - 1 = ((2 ^ n - 1 : Nat) : Int) := by omega
  rw [e3, u64_and_nat _ _ (by omega) (by omega), Nat.and_two_pow_sub_one_eq_mod]
  push_cast; rfl

theorem part_u8 (x q : Int) (n : Nat) (hn : n ≤ 8) (hq : q = 2 ^ n) : x % q % 256 = x % q := by
  have h1 : (2 : Int) ^ n ≤ 2 ^ 8 := by exact_mod_cast Nat.pow_le_pow_right (n := 2) (by omega) hn
  have h3 : (0 : Int) < 2 ^ n := by exact_mod_cast Nat.two_pow_pos _
  have := Int.emod_lt_of_pos x (b := q) (by omega)
  have := Int.emod_nonneg x (b := q) (by omega)
  omega

/-- May an entry be? -/
def mayE (k c r o : Int) : Bool :=
  decide (k ≤ 5 ∧ c ≤ 3 ∧ o ≤ 63 ∧ r ≤ 3 ∧ (k ≠ 1 → c ≤ 0) ∧ ((k = 2 ∨ k = 5) → 0 < r) ∧ (k ≠ 2 → k ≠ 5 → r ≤ 0) ∧ (k = 0 → o ≤ 0) ∧ (k = 3 → o ≤ 0))
/-- Its word. -/
def wordE (k c r o : Int) : Int := k + c * 8 + r * 32 + o * 128
/-- Two entries are the same. -/
def eqE (k c r o k' c' r' o' : Int) : Bool := decide (k = k' ∧ c = c' ∧ r = r' ∧ o = o')
/-- How many blocks it tells of. -/
def blkE (k r : Int) : Int := if k = 2 ∨ k = 5 then r else 1
/-- Has the word an entry? -/
def takeE (x : Int) : Bool := decide (x < 8192) && mayE (x % 8) (x / 8 % 4) (x / 32 % 4) (x / 128 % 64)

theorem mayE_iff {k c r o : Int} : mayE k c r o = true ↔ (k ≤ 5 ∧ c ≤ 3 ∧ o ≤ 63 ∧ r ≤ 3 ∧ (k ≠ 1 → c ≤ 0) ∧ ((k = 2 ∨ k = 5) → 0 < r) ∧ (k ≠ 2 → k ≠ 5 → r ≤ 0) ∧ (k = 0 → o ≤ 0) ∧ (k = 3 → o ≤ 0)) := by
  simp only [mayE, decide_eq_true_eq]
theorem mayE_false {k c r o : Int} : mayE k c r o = false ↔ ¬ (k ≤ 5 ∧ c ≤ 3 ∧ o ≤ 63 ∧ r ≤ 3 ∧ (k ≠ 1 → c ≤ 0) ∧ ((k = 2 ∨ k = 5) → 0 < r) ∧ (k ≠ 2 → k ≠ 5 → r ≤ 0) ∧ (k = 0 → o ≤ 0) ∧ (k = 3 → o ≤ 0)) := by
  simp only [mayE, decide_eq_false_iff_not]
theorem eqE_iff {k c r o k' c' r' o' : Int} : eqE k c r o k' c' r' o' = true ↔ (k = k' ∧ c = c' ∧ r = r' ∧ o = o') := by simp only [eqE, decide_eq_true_eq]
theorem eqE_refl (k c r o : Int) : eqE k c r o k c r o = true := by simp [eqE]
theorem word_mod (x : Int) : wordE (x % 8) (x / 8 % 4) (x / 32 % 4) (x / 128 % 64) = x % 8192 := by simp only [wordE]; omega
theorem takeE_word {x : Int} (h0 : 0 ≤ x) (h : takeE x = true) : wordE (x % 8) (x / 8 % 4) (x / 32 % 4) (x / 128 % 64) = x := by
  simp only [takeE, Bool.and_eq_true, decide_eq_true_eq] at h
  rw [word_mod]; omega
theorem takeE_may {x : Int} (h : takeE x = true) : mayE (x % 8) (x / 8 % 4) (x / 32 % 4) (x / 128 % 64) = true := by
  simp only [takeE, Bool.and_eq_true] at h; exact h.2
theorem takeE_zero {x : Int} (h0 : 0 ≤ x) (h : takeE x = false) : x ≠ 0 := by
  rintro rfl
  simp [takeE, mayE] at h
theorem wordE_lt {k c r o : Int} (hk : 0 ≤ k) (hc : 0 ≤ c) (hr : 0 ≤ r) (ho : 0 ≤ o) (h : mayE k c r o = true) : 0 ≤ wordE k c r o ∧ wordE k c r o < 8192 := by
  have h' := mayE_iff.1 h
  unfold wordE; omega
theorem parts_word {k c r o : Int} (hk : 0 ≤ k) (hc : 0 ≤ c) (hr : 0 ≤ r) (ho : 0 ≤ o) (h : mayE k c r o = true) :
    wordE k c r o % 8 = k ∧ wordE k c r o / 8 % 4 = c ∧ wordE k c r o / 32 % 4 = r ∧ wordE k c r o / 128 % 64 = o := by
  have h' := mayE_iff.1 h
  refine ⟨by unfold wordE; omega, by unfold wordE; omega, by unfold wordE; omega, by unfold wordE; omega⟩
theorem takeE_of_word {k c r o : Int} (hk : 0 ≤ k) (hc : 0 ≤ c) (hr : 0 ≤ r) (ho : 0 ≤ o) (h : mayE k c r o = true) : takeE (wordE k c r o) = true := by
  obtain ⟨e1, e2, e3, e4⟩ := parts_word hk hc hr ho h
  have := wordE_lt hk hc hr ho h
  simp only [takeE, e1, e2, e3, e4, h, Bool.and_true, decide_eq_true_eq]
  omega
theorem word_inj {k c r o k' c' r' o' : Int} (hk : 0 ≤ k) (hc : 0 ≤ c) (hr : 0 ≤ r) (ho : 0 ≤ o) (hk' : 0 ≤ k') (hc' : 0 ≤ c') (hr' : 0 ≤ r') (ho' : 0 ≤ o')
    (h : mayE k c r o = true) (h' : mayE k' c' r' o' = true) : (wordE k c r o == wordE k' c' r' o') = eqE k c r o k' c' r' o' := by
  obtain ⟨e1, e2, e3, e4⟩ := parts_word hk hc hr ho h
  obtain ⟨d1, d2, d3, d4⟩ := parts_word hk' hc' hr' ho' h'
  rw [Bool.eq_iff_iff]
  simp only [beq_iff_eq, eqE_iff]
  constructor
  · intro e
    rw [e] at e1 e2 e3 e4
    exact ⟨e1.symm.trans d1, e2.symm.trans d2, e3.symm.trans d3, e4.symm.trans d4⟩
  · rintro ⟨rfl, rfl, rfl, rfl⟩; rfl
theorem blkE_in {k c r o : Int} (hr : 0 ≤ r) (h : mayE k c r o = true) : 1 ≤ blkE k r ∧ blkE k r ≤ 3 := by
  have h' := mayE_iff.1 h
  unfold blkE
  split <;> omega

/-- The parts that a kind has, by bits. -/
def partsK (k : Int) : Int := if k = 1 then 5 else if k = 2 ∨ k = 5 then 6 else if k = 4 then 4 else 0
/-- An entry as its kind would have it. -/
def prC (k c : Int) : Int := if k = 1 then c else 0
def prR (k r : Int) : Int := if k = 2 ∨ k = 5 then max r 1 else 0
def prO (k o : Int) : Int := if k = 0 ∨ k = 3 ∨ k < 0 ∨ 5 < k then 0 else o

theorem kind_cases (k : Int) : k = 0 ∨ k = 1 ∨ k = 2 ∨ k = 3 ∨ k = 4 ∨ k = 5 ∨ ((k == 1) = false ∧ (k == 2) = false ∧ (k == 5) = false ∧ (k == 4) = false ∧ (k < 0 ∨ 5 < k)) := by
  have : (k = 0 ∨ k = 1 ∨ k = 2 ∨ k = 3 ∨ k = 4 ∨ k = 5) ∨ (k < 0 ∨ 5 < k) := by omega
  rcases this with h | h
  · rcases h with h | h | h | h | h | h <;> simp [h]
  · refine .inr (.inr (.inr (.inr (.inr (.inr ⟨by simp; omega, by simp; omega, by simp; omega, by simp; omega, h⟩)))))
theorem partsK_out {k : Int} (h : k < 0 ∨ 5 < k) : partsK k = 0 := by unfold partsK; rw [if_neg (by omega), if_neg (by omega), if_neg (by omega)]
theorem blkE_out {k r : Int} (h : k < 0 ∨ 5 < k) : blkE k r = 1 := by unfold blkE; rw [if_neg (by omega)]
theorem prC_out {k c : Int} (h : k < 0 ∨ 5 < k) : prC k c = 0 := by unfold prC; rw [if_neg (by omega)]
theorem prR_out {k r : Int} (h : k < 0 ∨ 5 < k) : prR k r = 0 := by unfold prR; rw [if_neg (by omega)]
theorem prO_out {k o : Int} (h : k < 0 ∨ 5 < k) : prO k o = 0 := by unfold prO; rw [if_pos (by omega)]
theorem proper_may {k c r o : Int} (hk : 0 ≤ k) (hc : 0 ≤ c) (hr : 0 ≤ r) (ho : 0 ≤ o) (k5 : k ≤ 5) (c3 : c < 4) (r3 : r ≤ 3) (o63 : o < 64) : eqE k c r o k (prC k c) (prR k r) (prO k o) = mayE k c r o := by
  rw [Bool.eq_iff_iff, eqE_iff, mayE_iff]
  have h : k = 0 ∨ k = 1 ∨ k = 2 ∨ k = 3 ∨ k = 4 ∨ k = 5 := by omega
  rcases h with rfl | rfl | rfl | rfl | rfl | rfl <;> simp [prC, prR, prO] <;> omega
theorem mayE_short {k c r o : Int} (h : ¬ (k ≤ 5 ∧ c < 4 ∧ r ≤ 3 ∧ o < 64)) : mayE k c r o = false := by
  rw [mayE_false]; omega

end Go.Proofs.YtinkpbenmfnnhaaDoor.Tb
