/- Plain facts: the sum of a number's bits, by halves, pairs, nibbles and bytes. Nothing here speaks of the program. Conditions: the number is below 2^64. -/
import Derived.Test.YtinkpbenmfnnhaaDoorBmP
namespace Go.Proofs.YtinkpbenmfnnhaaDoor.Bm
set_option linter.unusedVariables false
set_option linter.unusedSimpArgs false
open Go

/-- The byte c, n times. -/
def rep (c : Nat) : Nat → Nat
  | 0 => 0
  | n + 1 => c + 256 * rep c n
/-- A number's n lowest bytes, each turned by f. -/
def mapB (f : Nat → Nat) : Nat → Nat → Nat
  | 0, _ => 0
  | n + 1, x => f (x % 256) + 256 * mapB f n (x / 256)

theorem and_split (a b c d : Nat) (ha : a < 256) (hc : c < 256) : (a + 256 * b) &&& (c + 256 * d) = (a &&& c) + 256 * (b &&& d) := by
  have h1 : ((a + 256 * b) &&& (c + 256 * d)) % 2 ^ 8 = (a &&& c) := by
    rw [Nat.and_mod_two_pow]
    have e1 : (a + 256 * b) % 2 ^ 8 = a := by omega
    have e2 : (c + 256 * d) % 2 ^ 8 = c := by omega
    rw [e1, e2]
  have h2 : ((a + 256 * b) &&& (c + 256 * d)) / 2 ^ 8 = (b &&& d) := by
    rw [Nat.and_div_two_pow]
    have e1 : (a + 256 * b) / 2 ^ 8 = b := by omega
    have e2 : (c + 256 * d) / 2 ^ 8 = d := by omega
    rw [e1, e2]
  omega

def f1 (a : Nat) : Nat := (a / 2 &&& 85) + (a &&& 85)
def f2 (a : Nat) : Nat := (a / 4 &&& 51) + (a &&& 51)
def f3 (a : Nat) : Nat := (a / 16 + a) % 16
theorem f1_lt : ∀ a, a < 256 → f1 a < 256 := by decide +kernel
theorem f21_ok : ∀ a, a < 256 → f2 (f1 a) % 16 ≤ 4 ∧ f2 (f1 a) / 16 ≤ 4 := by decide +kernel
theorem pop8 : ∀ a, a < 256 → f3 (f2 (f1 a)) = cnt a 8 := by decide +kernel
theorem low1 : ∀ a, a < 256 → ∀ t, t < 2 → (a / 2 + 128 * t) &&& 85 = a / 2 &&& 85 := by decide +kernel
theorem low2 : ∀ a, a < 256 → ∀ t, t < 4 → (a / 4 + 64 * t) &&& 51 = a / 4 &&& 51 := by decide +kernel

theorem swar1 : ∀ n x, (x / 2 &&& rep 85 n) + (x &&& rep 85 n) = mapB f1 n x
  | 0, x => by simp [rep, mapB]
  | n + 1, x => by
    obtain ⟨a, ha⟩ : ∃ a, a = x % 256 := ⟨_, rfl⟩
    obtain ⟨b, hb⟩ : ∃ b, b = x / 256 := ⟨_, rfl⟩
    have hx : x = a + 256 * b := by omega
    have ha' : a < 256 := by omega
    have e : (a + 256 * b) / 2 = (a / 2 + 128 * (b % 2)) + 256 * (b / 2) := by omega
    have ih := swar1 n b
    simp only [rep, mapB, ← ha, ← hb]
    rw [hx, e, and_split _ _ _ _ (by omega) (by omega), and_split _ _ _ _ ha' (by omega), low1 a ha' _ (by omega), ← ih, f1]
    omega
theorem swar2 : ∀ n x, (x / 4 &&& rep 51 n) + (x &&& rep 51 n) = mapB f2 n x
  | 0, x => by simp [rep, mapB]
  | n + 1, x => by
    obtain ⟨a, ha⟩ : ∃ a, a = x % 256 := ⟨_, rfl⟩
    obtain ⟨b, hb⟩ : ∃ b, b = x / 256 := ⟨_, rfl⟩
    have hx : x = a + 256 * b := by omega
    have ha' : a < 256 := by omega
    have e : (a + 256 * b) / 4 = (a / 4 + 64 * (b % 4)) + 256 * (b / 4) := by omega
    have ih := swar2 n b
    simp only [rep, mapB, ← ha, ← hb]
    rw [hx, e, and_split _ _ _ _ (by omega) (by omega), and_split _ _ _ _ ha' (by omega), low2 a ha' _ (by omega), ← ih, f2]
    omega
theorem mapB_mapB (f g : Nat → Nat) (hg : ∀ a, a < 256 → g a < 256) : ∀ n x, mapB f n (mapB g n x) = mapB (fun a => f (g a)) n x
  | 0, x => rfl
  | n + 1, x => by
    have h := hg (x % 256) (by omega)
    have e1 : (g (x % 256) + 256 * mapB g n (x / 256)) % 256 = g (x % 256) := by omega
    have e2 : (g (x % 256) + 256 * mapB g n (x / 256)) / 256 = mapB g n (x / 256) := by omega
    simp only [mapB, e1, e2, mapB_mapB f g hg n]
theorem mapB_low (g : Nat → Nat) (hg : ∀ a, a < 256 → g a % 16 ≤ 4 ∧ g a / 16 ≤ 4) : ∀ n x, mapB g n x % 16 ≤ 4
  | 0, x => by simp [mapB]
  | n + 1, x => by have := hg (x % 256) (by omega); simp only [mapB]; omega
theorem swar3 (g : Nat → Nat) (hg : ∀ a, a < 256 → g a % 16 ≤ 4 ∧ g a / 16 ≤ 4) : ∀ n x, (mapB g n x / 16 + mapB g n x) &&& rep 15 n = mapB (fun a => f3 (g a)) n x
  | 0, x => by simp [rep, mapB]
  | n + 1, x => by
    have h := hg (x % 256) (by omega)
    have hl := mapB_low g hg n (x / 256)
    have ih := swar3 g hg n (x / 256)
    simp only [rep, mapB]
    obtain ⟨b, hb⟩ : ∃ b, b = mapB g n (x / 256) := ⟨_, rfl⟩
    obtain ⟨a, ha⟩ : ∃ a, a = g (x % 256) := ⟨_, rfl⟩
    rw [← hb] at hl ih ⊢
    rw [← ha] at h ⊢
    have e : (a + 256 * b) / 16 + (a + 256 * b) = (a / 16 + 16 * (b % 16) + a) + 256 * (b / 16 + b) := by omega
    rw [e, and_split _ _ _ _ (by omega) (by omega), ih, nat_mask4, f3]
    omega

theorem cnt_byte (x n : Nat) : cnt x (n + 8) = cnt x n + cnt (x / 2 ^ n % 256) 8 := by
  have h : ∀ j, j < 8 → (x / 2 ^ n % 256).testBit j = x.testBit (n + j) := by
    intro j hj
    rw [show (256 : Nat) = 2 ^ 8 from rfl, Nat.testBit_mod_two_pow, Nat.testBit_div_two_pow, Nat.add_comm j n]
    simp [hj]
  simp only [cnt, h 0 (by omega), h 1 (by omega), h 2 (by omega), h 3 (by omega), h 4 (by omega), h 5 (by omega), h 6 (by omega), h 7 (by omega), Nat.add_zero]
  omega

/-- Behind the third step: the bytes' counts. -/
def cb (x : Nat) : Nat := mapB (fun a => f3 (f2 (f1 a))) 8 x
theorem cb_eq (x : Nat) : ∃ p0 p1 p2 p3 p4 p5 p6 p7, cb x = p0 + 256 * (p1 + 256 * (p2 + 256 * (p3 + 256 * (p4 + 256 * (p5 + 256 * (p6 + 256 * p7)))))) ∧ p0 ≤ 8 ∧ p1 ≤ 8 ∧ p2 ≤ 8 ∧ p3 ≤ 8 ∧ p4 ≤ 8 ∧ p5 ≤ 8 ∧ p6 ≤ 8 ∧ p7 ≤ 8 ∧ cnt x 64 = p0 + p1 + p2 + p3 + p4 + p5 + p6 + p7 := by
  have q : ∀ y, f3 (f2 (f1 (y % 256))) = cnt (y % 256) 8 := fun y => pop8 _ (by omega)
  have l : ∀ y, cnt (y % 256) 8 ≤ 8 := fun y => cnt_le _ _
  refine ⟨cnt (x % 256) 8, cnt (x / 2 ^ 8 % 256) 8, cnt (x / 2 ^ 16 % 256) 8, cnt (x / 2 ^ 24 % 256) 8, cnt (x / 2 ^ 32 % 256) 8, cnt (x / 2 ^ 40 % 256) 8, cnt (x / 2 ^ 48 % 256) 8, cnt (x / 2 ^ 56 % 256) 8, ?_, l _, l _, l _, l _, l _, l _, l _, l _, ?_⟩
  · simp only [cb, mapB, q, Nat.div_div_eq_div_mul]
    rfl
  · have c0 : cnt x 8 = cnt x 0 + cnt (x / 2 ^ 0 % 256) 8 := cnt_byte x 0
    have c1 : cnt x 16 = cnt x 8 + cnt (x / 2 ^ 8 % 256) 8 := cnt_byte x 8
    have c2 : cnt x 24 = cnt x 16 + cnt (x / 2 ^ 16 % 256) 8 := cnt_byte x 16
    have c3 : cnt x 32 = cnt x 24 + cnt (x / 2 ^ 24 % 256) 8 := cnt_byte x 24
    have c4 : cnt x 40 = cnt x 32 + cnt (x / 2 ^ 32 % 256) 8 := cnt_byte x 32
    have c5 : cnt x 48 = cnt x 40 + cnt (x / 2 ^ 40 % 256) 8 := cnt_byte x 40
    have c6 : cnt x 56 = cnt x 48 + cnt (x / 2 ^ 48 % 256) 8 := cnt_byte x 48
    have c7 : cnt x 64 = cnt x 56 + cnt (x / 2 ^ 56 % 256) 8 := cnt_byte x 56
    rw [Nat.pow_zero, Nat.div_one] at c0
    have z : cnt x 0 = 0 := rfl
    omega

/-- The steps of the sum, and its end. -/
theorem ones_steps (x : Nat) (hx : x < 18446744073709551616) : ∃ y1 y2 y3 y4 y5 y6 : Nat,
    ((x / 2 &&& 6148914691236517205) + (x &&& 6148914691236517205) = y1 ∧ y1 < 18446744073709551616) ∧
    ((y1 / 4 &&& 3689348814741910323) + (y1 &&& 3689348814741910323) = y2 ∧ y2 + y2 / 16 < 18446744073709551616) ∧
    ((y2 / 16 + y2) &&& 1085102592571150095 = y3) ∧
    (y3 + y3 / 256 = y4 ∧ y4 < 1844674407370955161) ∧ (y4 + y4 / 65536 = y5 ∧ y5 < 1844674407370955161) ∧ (y5 + y5 / 4294967296 = y6 ∧ y6 < 1844674407370955161) ∧ y6 % 128 = cnt x 64 := by
  have b1 : ∀ y c : Nat, y &&& c ≤ c := fun y c => Nat.and_le_right
  have m1 : rep 85 8 = 6148914691236517205 := by decide
  have m2 : rep 51 8 = 3689348814741910323 := by decide
  have m3 : rep 15 8 = 1085102592571150095 := by decide
  have s1 := swar1 8 x
  have s2 := swar2 8 (mapB f1 8 x)
  have s3 := swar3 (fun a => f2 (f1 a)) f21_ok 8 x
  rw [mapB_mapB f2 f1 f1_lt] at s2
  rw [m1] at s1
  rw [m2] at s2
  rw [m3] at s3
  have h1 := b1 (x / 2) 6148914691236517205
  have h2 := b1 x 6148914691236517205
  have h3 := b1 (mapB f1 8 x / 4) 3689348814741910323
  have h4 := b1 (mapB f1 8 x) 3689348814741910323
  obtain ⟨p0, p1, p2, p3, p4, p5, p6, p7, hc, q0, q1, q2, q3, q4, q5, q6, q7, hs⟩ := cb_eq x
  refine ⟨mapB f1 8 x, mapB (fun a => f2 (f1 a)) 8 x, cb x, _, _, _, ⟨s1, by omega⟩, ⟨s2, by omega⟩, s3, ⟨rfl, ?_⟩, ⟨rfl, ?_⟩, ⟨rfl, ?_⟩, ?_⟩
  · omega
  · omega
  · omega
  · rw [hs]
    clear s1 s2 s3 h1 h2 h3 h4 m1 m2 m3 b1 hs hx
    obtain ⟨r, hr⟩ : ∃ r, r = cb x := ⟨_, rfl⟩
    rw [← hr] at hc ⊢
    have d1 : r / 256 = p1 + 256 * (p2 + 256 * (p3 + 256 * (p4 + 256 * (p5 + 256 * (p6 + 256 * p7))))) := by omega
    obtain ⟨s, hs⟩ : ∃ s, s = r + r / 256 := ⟨_, rfl⟩
    have e1 : s = (p0 + p1) + 256 * ((p1 + p2) + 256 * ((p2 + p3) + 256 * ((p3 + p4) + 256 * ((p4 + p5) + 256 * ((p5 + p6) + 256 * ((p6 + p7) + 256 * p7)))))) := by omega
    rw [← hs]
    clear hs hc d1 hr
    have d2 : s / 65536 = (p2 + p3) + 256 * ((p3 + p4) + 256 * ((p4 + p5) + 256 * ((p5 + p6) + 256 * ((p6 + p7) + 256 * p7)))) := by omega
    obtain ⟨t, ht⟩ : ∃ t, t = s + s / 65536 := ⟨_, rfl⟩
    rw [← ht]
    have e2 : t = (p0 + p1 + p2 + p3) + 256 * ((p1 + p2 + p3 + p4) + 256 * ((p2 + p3 + p4 + p5) + 256 * ((p3 + p4 + p5 + p6) + 256 * ((p4 + p5 + p6 + p7) + 256 * (p5 + p6 + p7 + 256 * (p6 + p7 + 256 * p7)))))) := by omega
    clear ht d2 e1
    have d3 : t / 4294967296 = (p4 + p5 + p6 + p7) + 256 * (p5 + p6 + p7 + 256 * (p6 + p7 + 256 * p7)) := by omega
    omega

end Go.Proofs.YtinkpbenmfnnhaaDoor.Bm
