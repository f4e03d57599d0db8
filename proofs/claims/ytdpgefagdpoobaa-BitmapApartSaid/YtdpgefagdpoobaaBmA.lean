/- Plain facts for BitmapApart: which blocks the runs so far hold; what a further run makes of it; giving all back. Nothing here speaks of the program. Conditions: as each lemma states them. -/
import Derived.Test.YtdpgefagdpoobaaBmP
namespace Go.Proofs.Ytdpgefagdpoobaa
set_option linter.unusedVariables false
set_option linter.unusedSimpArgs false
open Go

/-- Does run p hold block j? -/
def inR (p : Nat × Nat) (j : Nat) : Bool := decide (p.1 ≤ j ∧ j < p.1 + p.2)
def cov (L : List (Nat × Nat)) (j : Nat) : Bool := L.any fun p => inR p j

theorem inR_iff {p : Nat × Nat} {j : Nat} : inR p j = true ↔ p.1 ≤ j ∧ j < p.1 + p.2 := by simp [inR]
theorem cov_snoc (L : List (Nat × Nat)) (p : Nat × Nat) (j : Nat) : cov (L ++ [p]) j = (cov L j || inR p j) := by simp [cov]
theorem cov_cons (L : List (Nat × Nat)) (p : Nat × Nat) (j : Nat) : cov (p :: L) j = (inR p j || cov L j) := by simp [cov]
theorem cov_false {L : List (Nat × Nat)} {j : Nat} : cov L j = false ↔ ∀ p ∈ L, inR p j = false := by simp [cov]

/-- Ahead of a round: the map that is left, the runs that were taken, who owns each block. -/
structure PInv (x now : Nat) (L : List (Nat × Nat)) (g : Nat → Int) : Prop where
  lt : now < 2 ^ 64
  rng : ∀ p ∈ L, 1 ≤ p.2 ∧ p.2 ≤ 3 ∧ p.1 + p.2 ≤ 64
  bit : ∀ j, j < 64 → now.testBit j = (x.testBit j && !cov L j)
  sub : ∀ j, j < 64 → cov L j = true → x.testBit j = true
  dis : L.Pairwise fun p q => ∀ j, inR p j = true → inR q j = false
  own : ∀ j, j < 64 → cov L j = false → g j = 0

theorem PInv.start {x : Nat} (hx : x < 2 ^ 64) : PInv x x [] fun _ => 0 :=
  ⟨hx, fun p hp => by simp at hp, fun j _ => by simp [cov], fun j _ h => by simp [cov] at h, List.Pairwise.nil, fun _ _ _ => rfl⟩

/-- A run that is free now: each of its blocks is free in the first map, and is nobody's. -/
theorem PInv.free {x now : Nat} {L : List (Nat × Nat)} {g : Nat → Int} (h : PInv x now L g) {b k : Nat} (hk : b + k ≤ 64) (ha : allN now b k true = true) {j : Nat} (h1 : b ≤ j) (h2 : j < b + k) : x.testBit j = true ∧ cov L j = false ∧ g j = 0 := by
  have e := allN_iff.1 ha j h1 h2
  rw [h.bit j (by omega), Bool.and_eq_true, Bool.not_eq_true'] at e
  exact ⟨e.1, e.2, h.own j (by omega) e.2⟩

theorem PInv.step {x now : Nat} {L : List (Nat × Nat)} {g g' : Nat → Int} (h : PInv x now L g) {b k : Nat} (k1 : 1 ≤ k) (k3 : k ≤ 3) (hk : b + k ≤ 64) (ha : allN now b k true = true) (hg : ∀ j, j < 64 → ¬ (b ≤ j ∧ j < b + k) → g' j = g j) :
    PInv x (setN now b k false) (L ++ [(b, k)]) g' := by
  refine ⟨setN_lt _ _ _ _, ?_, ?_, ?_, ?_, ?_⟩
  · intro p hp
    rcases List.mem_append.1 hp with hp | hp
    · exact h.rng p hp
    · rw [List.mem_singleton] at hp; subst hp; exact ⟨k1, k3, hk⟩
  · intro j hj
    rw [setN_bit _ _ _ _ _ hj, cov_snoc]
    by_cases c : b ≤ j ∧ j < b + k
    · rw [if_pos c, show inR (b, k) j = true from inR_iff.2 c]; simp
    · rw [if_neg c, h.bit j hj, show inR (b, k) j = false from by simp only [inR, decide_eq_false c], Bool.or_false]
  · intro j hj hc
    rw [cov_snoc, Bool.or_eq_true] at hc
    rcases hc with hc | hc
    · exact h.sub j hj hc
    · exact (h.free hk ha (inR_iff.1 hc).1 (inR_iff.1 hc).2).1
  · rw [List.pairwise_append]
    refine ⟨h.dis, List.pairwise_singleton _ _, ?_⟩
    intro p hp q hq j hpj
    rw [List.mem_singleton] at hq; subst hq
    cases hc : inR (b, k) j
    · rfl
    · have := (h.free hk ha (inR_iff.1 hc).1 (inR_iff.1 hc).2).2.1
      rw [cov_false.1 this p hp] at hpj
      exact absurd hpj (by decide)
  · intro j hj hc
    rw [cov_snoc, Bool.or_eq_false_iff] at hc
    rw [hg j hj (fun c => by rw [show inR (b, k) j = true from inR_iff.2 c] at hc; exact absurd hc.2 (by decide))]
    exact h.own j hj hc.1

/-- While all is given back: the first t runs are back. -/
structure BInv (x now : Nat) (L : List (Nat × Nat)) (t : Nat) : Prop where
  lt : now < 2 ^ 64
  bit : ∀ j, j < 64 → now.testBit j = (x.testBit j && !cov (L.drop t) j)

theorem PInv.back {x now : Nat} {L : List (Nat × Nat)} {g : Nat → Int} (h : PInv x now L g) : BInv x now L 0 := ⟨h.lt, by simpa using h.bit⟩

/-- What PInv says of the runs alone. -/
structure LInv (x : Nat) (L : List (Nat × Nat)) : Prop where
  rng : ∀ p ∈ L, 1 ≤ p.2 ∧ p.2 ≤ 3 ∧ p.1 + p.2 ≤ 64
  sub : ∀ j, j < 64 → cov L j = true → x.testBit j = true
  dis : L.Pairwise fun p q => ∀ j, inR p j = true → inR q j = false
theorem PInv.runs {x now : Nat} {L : List (Nat × Nat)} {g : Nat → Int} (h : PInv x now L g) : LInv x L := ⟨h.rng, h.sub, h.dis⟩

theorem BInv.step {x now : Nat} {L : List (Nat × Nat)} {t : Nat} (h : BInv x now L t) (hl : LInv x L) {p : Nat × Nat} (hp : L[t]? = some p) :
    allN now p.1 p.2 false = true ∧ BInv x (setN now p.1 p.2 true) L (t + 1) := by
  obtain ⟨ht, hpt⟩ := List.getElem?_eq_some_iff.1 hp
  have hmem : p ∈ L := hpt ▸ List.getElem_mem ht
  obtain ⟨r1, r2, r3⟩ := hl.rng p hmem
  have hd : L.drop t = p :: L.drop (t + 1) := by rw [List.drop_eq_getElem_cons ht, hpt]
  have hdis : (p :: L.drop (t + 1)).Pairwise fun p q => ∀ j, inR p j = true → inR q j = false := hd ▸ hl.dis.sublist (List.drop_sublist _ _)
  have hnot : ∀ j, inR p j = true → cov (L.drop (t + 1)) j = false := fun j hj => cov_false.2 fun q hq => (List.pairwise_cons.1 hdis).1 q hq j hj
  refine ⟨allN_iff.2 fun j h1 h2 => ?_, setN_lt _ _ _ _, fun j hj => ?_⟩
  · rw [h.bit j (by omega), hd, cov_cons, show inR p j = true from inR_iff.2 ⟨h1, h2⟩]; simp
  · rw [setN_bit _ _ _ _ _ hj]
    by_cases c : p.1 ≤ j ∧ j < p.1 + p.2
    · have hin : inR p j = true := inR_iff.2 c
      have hx : x.testBit j = true := hl.sub j hj (by
        rw [cov, List.any_eq_true]; exact ⟨p, hmem, hin⟩)
      rw [if_pos c, hnot j hin, hx]; rfl
    · rw [if_neg c, h.bit j hj, hd, cov_cons, show inR p j = false from by simp only [inR, decide_eq_false c], Bool.false_or]

theorem BInv.done {x now : Nat} {L : List (Nat × Nat)} {t : Nat} (hx : x < 2 ^ 64) (h : BInv x now L t) (ht : L.length ≤ t) : now = x :=
  eq_of_bits h.lt hx fun j hj => by rw [h.bit j hj, List.drop_eq_nil_of_le ht]; simp [cov]

/-- Behind taking a run of k, k blocks less are free. -/
theorem cnt_taken {now b k : Nat} (hk : b + k ≤ 64) (ha : allN now b k true = true) : cnt (setN now b k false) 64 + k = cnt now 64 := by
  have := cnt_clear now b k ha 64 (Nat.le_refl _)
  omega

end Go.Proofs.Ytdpgefagdpoobaa
