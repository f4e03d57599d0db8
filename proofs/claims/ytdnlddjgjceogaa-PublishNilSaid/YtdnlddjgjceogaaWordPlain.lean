/- Plain facts on a header's numbers and bits; nothing here speaks of the program. Conditions: as each lemma states them. -/
import Derived.Laws.BitsAllLaws
import Derived.Laws.Bits64
namespace Go.Proofs.Ytdnlddjgjceogaa
set_option linter.unusedVariables false
set_option linter.unusedSimpArgs false
open Go

def bitI : Bool → Int | true => 1 | false => 0
theorem bitI_le (b : Bool) : 0 ≤ bitI b ∧ bitI b ≤ 1 := by cases b <;> simp [bitI]

theorem or_put (x p q : Int) (n : Nat) (hn : n ≤ 18) (hq : q = 2 ^ n) (h0 : 0 ≤ x) (h1 : x < q) (hp : 0 ≤ p) (hp2 : p ≤ 255) :
    bits .or .u64 x (IntKind.u64.wrap (p * 2 ^ n)) = x + p * q := by
  subst hq
  obtain ⟨a, rfl⟩ := Int.eq_ofNat_of_zero_le h0
  obtain ⟨b, rfl⟩ := Int.eq_ofNat_of_zero_le hp
  have e : ((b : Int) * 2 ^ n) = ((b * 2 ^ n : Nat) : Int) := by push_cast; rfl
  have hq : (2 : Nat) ^ n ≤ 2 ^ 18 := Nat.pow_le_pow_right (by omega) hn
  have ha : a < 2 ^ n := by exact_mod_cast h1
  have hb : b ≤ 255 := by omega
  have hbq : b * 2 ^ n ≤ 255 * 2 ^ 18 := Nat.mul_le_mul hb hq
  rw [e, IntKind.wrap_u64, Int.emod_eq_of_lt (by omega) (by omega)]
  rw [u64_or_nat _ _ (by omega) (by omega), Nat.or_comm, nat_join n _ _ (by simp) ha]
  push_cast; omega

theorem and_part (x q d : Int) (f n : Nat) (hn : n ≤ 8) (hq : q = 2 ^ n) (hd : d = 2 ^ f) (h0 : 0 ≤ x) (h1 : x < 18446744073709551616) :
    bits .and .u64 (x / 2 ^ f) (IntKind.u64.wrap (IntKind.u64.wrap (2 ^ n) - 1)) = x / d % q := by
  subst hq hd
  obtain ⟨a, rfl⟩ := Int.eq_ofNat_of_zero_le h0
  have e : ((a : Int) / 2 ^ f) = ((a / 2 ^ f : Nat) : Int) := by push_cast; rfl
  have hq : (2 : Nat) ^ n ≤ 2 ^ 8 := Nat.pow_le_pow_right (by omega) hn
  have hq0 : 0 < (2 : Nat) ^ n := Nat.two_pow_pos n
  have e2 : (2 : Int) ^ n = ((2 ^ n : Nat) : Int) := by push_cast; rfl
  have hd : a / 2 ^ f ≤ a := Nat.div_le_self _ _
  rw [e, e2, IntKind.wrap_u64, IntKind.wrap_u64, Int.emod_eq_of_lt (a := ((2 ^ n : Nat) : Int)) (by omega) (by omega), Int.emod_eq_of_lt (by omega) (by omega)]
  have e3 : ((2 ^ n : Nat) : Int) - 1 = ((2 ^ n - 1 : Nat) : Int) := by omega
  rw [e3, u64_and_nat _ _ (by omega) (by omega), Nat.and_two_pow_sub_one_eq_mod]
  push_cast; rfl

theorem part_u8 (x q : Int) (n : Nat) (hn : n ≤ 8) (hq : q = 2 ^ n) : x % q % 256 = x % q := by
  have h1 : (2 : Int) ^ n ≤ 2 ^ 8 := by exact_mod_cast Nat.pow_le_pow_right (n := 2) (by omega) hn
  have h3 : (0 : Int) < 2 ^ n := by exact_mod_cast Nat.two_pow_pos _
  have := Int.emod_lt_of_pos x (b := q) (by omega)
  have := Int.emod_nonneg x (b := q) (by omega)
  omega

/-- May a header be? -/
def mayB (k c o r s : Int) (g m : Bool) : Bool :=
  decide (k ≤ 3 ∧ c ≤ 1 ∧ o ≤ 63 ∧ s ≤ 95 ∧ r ≤ s ∧ (k = 2 → c = 0 ∧ g = false) ∧ (k = 3 → m = false) ∧ (k ≤ 1 → c = 0 ∧ s = 0 ∧ r = 0 ∧ g = false ∧ m = false))
/-- Its word. -/
def wordI (k c o r s : Int) (g m : Bool) : Int := k + c * 4 + bitI g * 8 + bitI m * 16 + o * 32 + r * 2048 + s * 262144
def heqB (k c o r s k' c' o' r' s' : Int) (g m g' m' : Bool) : Bool := decide (k = k' ∧ c = c' ∧ g = g' ∧ m = m' ∧ o = o' ∧ r = r' ∧ s = s')

theorem mayB_iff {k c o r s : Int} {g m : Bool} : mayB k c o r s g m = true ↔ (k ≤ 3 ∧ c ≤ 1 ∧ o ≤ 63 ∧ s ≤ 95 ∧ r ≤ s ∧ (k = 2 → c = 0 ∧ g = false) ∧ (k = 3 → m = false) ∧ (k ≤ 1 → c = 0 ∧ s = 0 ∧ r = 0 ∧ g = false ∧ m = false)) := by
  simp only [mayB, decide_eq_true_eq]
theorem mayB_false {k c o r s : Int} {g m : Bool} (h : ¬ (k ≤ 3 ∧ c ≤ 1 ∧ o ≤ 63 ∧ s ≤ 95 ∧ r ≤ s)) : mayB k c o r s g m = false := by
  simp only [mayB, decide_eq_false_iff_not]; intro h'; exact h ⟨h'.1, h'.2.1, h'.2.2.1, h'.2.2.2.1, h'.2.2.2.2.1⟩

/-- The header of a word's bits. -/
def takeB (x : Int) : Bool := decide (x < 33554432) && mayB (x % 4) (x / 4 % 2) (x / 32 % 64) (x / 2048 % 128) (x / 262144 % 128) (x / 8 % 2 == 1) (x / 16 % 2 == 1)

theorem bitI_beq (x : Int) : bitI (x % 2 == 1) = x % 2 := by
  by_cases h : x % 2 = 1
  · simp [h, bitI]
  · have : x % 2 = 0 := by omega
    simp [this, bitI]
theorem word_of_parts (x : Int) : wordI (x % 4) (x / 4 % 2) (x / 32 % 64) (x / 2048 % 128) (x / 262144 % 128) (x / 8 % 2 == 1) (x / 16 % 2 == 1) = x % 33554432 := by
  simp only [wordI, bitI_beq]; omega
theorem takeB_word (x : Int) (h0 : 0 ≤ x) (h : takeB x = true) : wordI (x % 4) (x / 4 % 2) (x / 32 % 64) (x / 2048 % 128) (x / 262144 % 128) (x / 8 % 2 == 1) (x / 16 % 2 == 1) = x := by
  simp only [takeB, Bool.and_eq_true, decide_eq_true_eq] at h
  rw [word_of_parts x]; omega
theorem bitI_one (b : Bool) : (bitI b == 1) = b := by cases b <;> simp [bitI]
theorem word_lt (k c o r s : Int) (g m : Bool) (hk : 0 ≤ k) (hc : 0 ≤ c) (ho : 0 ≤ o) (hr : 0 ≤ r) (hs : 0 ≤ s) (h : mayB k c o r s g m = true) : 0 ≤ wordI k c o r s g m ∧ wordI k c o r s g m < 33554432 := by
  have h' := mayB_iff.1 h
  have h1 := bitI_le g
  have h2 := bitI_le m
  unfold wordI
  omega
theorem parts_of_word (k c o r s : Int) (g m : Bool) (hk : 0 ≤ k) (hc : 0 ≤ c) (ho : 0 ≤ o) (hr : 0 ≤ r) (hs : 0 ≤ s) (h : mayB k c o r s g m = true) :
    wordI k c o r s g m % 4 = k ∧ wordI k c o r s g m / 4 % 2 = c ∧ wordI k c o r s g m / 32 % 64 = o ∧ wordI k c o r s g m / 2048 % 128 = r ∧ wordI k c o r s g m / 262144 % 128 = s ∧
      (wordI k c o r s g m / 8 % 2 == 1) = g ∧ (wordI k c o r s g m / 16 % 2 == 1) = m := by
  have h' := mayB_iff.1 h
  have h1 := bitI_le g
  have h2 := bitI_le m
  have e1 : wordI k c o r s g m / 8 % 2 = bitI g := by unfold wordI; omega
  have e2 : wordI k c o r s g m / 16 % 2 = bitI m := by unfold wordI; omega
  refine ⟨by unfold wordI; omega, by unfold wordI; omega, by unfold wordI; omega, by unfold wordI; omega, by unfold wordI; omega, by rw [e1, bitI_one], by rw [e2, bitI_one]⟩
theorem takeB_of_word (k c o r s : Int) (g m : Bool) (hk : 0 ≤ k) (hc : 0 ≤ c) (ho : 0 ≤ o) (hr : 0 ≤ r) (hs : 0 ≤ s) (h : mayB k c o r s g m = true) : takeB (wordI k c o r s g m) = true := by
  obtain ⟨e1, e2, e3, e4, e5, e6, e7⟩ := parts_of_word k c o r s g m hk hc ho hr hs h
  have := word_lt k c o r s g m hk hc ho hr hs h
  simp only [takeB, e1, e2, e3, e4, e5, e6, e7, h, Bool.and_true, decide_eq_true_eq]
  omega
theorem word_inj (k c o r s k' c' o' r' s' : Int) (g m g' m' : Bool) (hk : 0 ≤ k) (hc : 0 ≤ c) (ho : 0 ≤ o) (hr : 0 ≤ r) (hs : 0 ≤ s) (hk' : 0 ≤ k') (hc' : 0 ≤ c') (ho' : 0 ≤ o') (hr' : 0 ≤ r') (hs' : 0 ≤ s')
    (h : mayB k c o r s g m = true) (h' : mayB k' c' o' r' s' g' m' = true) : (wordI k c o r s g m == wordI k' c' o' r' s' g' m') = heqB k c o r s k' c' o' r' s' g m g' m' := by
  obtain ⟨e1, e2, e3, e4, e5, e6, e7⟩ := parts_of_word k c o r s g m hk hc ho hr hs h
  obtain ⟨d1, d2, d3, d4, d5, d6, d7⟩ := parts_of_word k' c' o' r' s' g' m' hk' hc' ho' hr' hs' h'
  rw [Bool.eq_iff_iff]
  simp only [heqB, beq_iff_eq, decide_eq_true_eq]
  constructor
  · intro e
    rw [e] at e1 e2 e3 e4 e5 e6 e7
    exact ⟨e1.symm.trans d1, e2.symm.trans d2, e6.symm.trans d6, e7.symm.trans d7, e3.symm.trans d3, e4.symm.trans d4, e5.symm.trans d5⟩
  · rintro ⟨rfl, rfl, rfl, rfl, rfl, rfl, rfl⟩; rfl

theorem heq_listed (c o r s : Int) (g m : Bool) (h1 : c ≤ 1) (h2 : o < 64) (h3 : s ≤ 95) (h4 : r ≤ s) : heqB 1 c o r s 1 0 o 0 0 g m false false = mayB 1 c o r s g m := by
  rw [Bool.eq_iff_iff, mayB_iff]; simp only [heqB, decide_eq_true_eq]
  cases g <;> cases m <;> first | omega | (simp; done) | (simp; omega)
theorem heq_local (c o r s : Int) (g m : Bool) (h1 : c ≤ 1) (h2 : o < 64) (h3 : s ≤ 95) (h4 : r ≤ s) : heqB 2 c o r s 2 0 o r s g m false m = mayB 2 c o r s g m := by
  rw [Bool.eq_iff_iff, mayB_iff]; simp only [heqB, decide_eq_true_eq]
  cases g <;> cases m <;> first | omega | (simp; done) | (simp; omega)
theorem heq_global (c o r s : Int) (g m : Bool) (h1 : c ≤ 1) (h2 : o < 64) (h3 : s ≤ 95) (h4 : r ≤ s) : heqB 3 c o r s 3 c o r s g m g false = mayB 3 c o r s g m := by
  rw [Bool.eq_iff_iff, mayB_iff]; simp only [heqB, decide_eq_true_eq]
  cases g <;> cases m <;> first | omega | (simp; done) | (simp; omega)
theorem heq_none (k c o r s : Int) (g m : Bool) (hk : 0 ≤ k) (h1 : c ≤ 1) (h2 : o < 64) (h3 : s ≤ 95) (h4 : r ≤ s) (k1 : k ≠ 1) (k2 : k ≠ 2) (k3 : k ≠ 3) : heqB k c o r s 0 0 o 0 0 g m false false = mayB k c o r s g m := by
  rw [Bool.eq_iff_iff, mayB_iff]; simp only [heqB, decide_eq_true_eq]
  cases g <;> cases m <;> first | omega | (simp; done) | (simp; omega)

end Go.Proofs.Ytdnlddjgjceogaa
