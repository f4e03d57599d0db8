/- Plain facts on lists of numbers: the first place at which something holds; what is kept; a row that is turned round. Conditions: as each lemma states them. -/
import Derived.Lib.Hide
namespace Go.Proofs.YtinkpbenmfnnhaaDoor.Li
set_option linter.unusedVariables false
set_option linter.unusedSimpArgs false

/-- The first place of xs at which q holds, or -1. -/
def idxI (q : Int → Bool) (xs : List Int) : Int := if xs.any q then (xs.findIdx q : Nat) else -1

theorem getD_lt (xs : List Int) (k : Nat) (h : k < xs.length) : xs.getD k 0 = xs[k] := by simp [List.getD, h]
theorem idx_hit {q : Int → Bool} {xs : List Int} {k : Nat} (hk : k < xs.length) (h : q (xs.getD k 0) = true) (hn : ∀ j, j < k → q (xs.getD j 0) = false) : idxI q xs = k := by
  rw [getD_lt _ _ hk] at h
  have ha : xs.any q = true := List.any_eq_true.2 ⟨_, List.getElem_mem hk, h⟩
  rw [idxI, if_pos ha]
  have : xs.findIdx q = k := by
    rw [List.findIdx_eq hk]
    exact ⟨h, fun j hj => by have := hn j hj; rw [getD_lt _ _ (by omega)] at this; exact this⟩
  rw [this]
theorem idx_miss {q : Int → Bool} {xs : List Int} (hn : ∀ j, j < xs.length → q (xs.getD j 0) = false) : idxI q xs = -1 := by
  rw [idxI, if_neg]
  intro h
  obtain ⟨x, hx, hq⟩ := List.any_eq_true.1 h
  obtain ⟨j, hj, rfl⟩ := List.getElem_of_mem hx
  have := hn j hj
  rw [getD_lt _ _ hj] at this
  rw [hq] at this; cases this
theorem idx_ge (q : Int → Bool) (xs : List Int) : decide (0 ≤ idxI q xs) = xs.any q := by
  unfold idxI
  split
  · rename_i h; rw [h]; simp
  · rename_i h
    rw [Bool.not_eq_true] at h
    rw [h]; simp
theorem idx_none {q : Int → Bool} {xs : List Int} (h : idxI q xs = -1) : xs.filter (fun x => !q x) = xs := by
  unfold idxI at h
  split at h
  · omega
  · rename_i h1
    rw [List.filter_eq_self]
    intro a ha
    cases hq : q a
    · rfl
    · exact absurd (List.any_eq_true.2 ⟨a, ha, hq⟩) h1
theorem idx_some {q : Int → Bool} {xs : List Int} (h : idxI q xs ≠ -1) : ∃ k : Nat, idxI q xs = k ∧ k < xs.length ∧ q (xs.getD k 0) = true ∧ ∀ j, j < k → q (xs.getD j 0) = false := by
  unfold idxI at h ⊢
  split at h
  · rename_i h1
    rw [if_pos h1]
    obtain ⟨x, hx, hq⟩ := List.any_eq_true.1 h1
    have hl : xs.findIdx q < xs.length := List.findIdx_lt_length_of_exists ⟨x, hx, hq⟩
    refine ⟨_, rfl, hl, ?_, ?_⟩
    · rw [getD_lt _ _ hl]; exact List.findIdx_getElem (w := hl)
    · intro j hj
      rw [getD_lt _ _ (by omega)]
      have := List.not_of_lt_findIdx hj
      simpa using this
  · exact absurd rfl h

/-- What is kept of the first j of xs. -/
def kept (q : Int → Bool) (xs : List Int) (j : Nat) : List Int := (xs.take j).filter (fun x => !q x)

theorem kept_step_no {q : Int → Bool} {xs : List Int} {j : Nat} (hj : j < xs.length) (h : q (xs.getD j 0) = true) : kept q xs (j + 1) = kept q xs j := by
  rw [getD_lt _ _ hj] at h
  unfold kept
  rw [List.take_succ_eq_append_getElem hj, List.filter_append]
  simp [h]
theorem kept_step_yes {q : Int → Bool} {xs : List Int} {j : Nat} (hj : j < xs.length) (h : q (xs.getD j 0) = false) : kept q xs (j + 1) = kept q xs j ++ [xs.getD j 0] := by
  rw [getD_lt _ _ hj] at h ⊢
  unfold kept
  rw [List.take_succ_eq_append_getElem hj, List.filter_append]
  simp [h]
theorem kept_le (q : Int → Bool) (xs : List Int) (j : Nat) : (kept q xs j).length ≤ j := by
  have h1 := List.length_filter_le (fun x => !q x) (xs.take j)
  have h2 : (xs.take j).length ≤ j := by simp; omega
  exact Nat.le_trans h1 h2
theorem kept_all (q : Int → Bool) (xs : List Int) : kept q xs xs.length = xs.filter (fun x => !q x) := by simp [kept]
theorem kept_first {q : Int → Bool} {xs : List Int} {k : Nat} (hk : k < xs.length) (h : q (xs.getD k 0) = true) (hn : ∀ j, j < k → q (xs.getD j 0) = false) : kept q xs (k + 1) = xs.take k := by
  rw [kept_step_no hk h, kept, List.filter_eq_self]
  intro a ha
  obtain ⟨j, hj, rfl⟩ := List.getElem_of_mem ha
  have hj' : j < k := by simp at hj; omega
  have := hn j hj'
  rw [getD_lt _ _ (by omega)] at this
  simpa using this

/-- How far the row is: the first of d are what is kept of the first j, and from j on d is xs. -/
structure Far (q : Int → Bool) (xs d : List Int) (i j : Nat) : Prop where
  len : d.length = xs.length
  hi : i = (kept q xs j).length
  hd : d.take i = kept q xs j
  hr : ∀ m, j ≤ m → d.getD m 0 = xs.getD m 0
  lt : i < j

theorem Far.start {q : Int → Bool} {xs : List Int} {k : Nat} (hk : k < xs.length) (h : q (xs.getD k 0) = true) (hn : ∀ j, j < k → q (xs.getD j 0) = false) : Far q xs xs k (k + 1) := by
  have e := kept_first hk h hn
  refine ⟨rfl, ?_, e.symm, fun _ _ => rfl, by omega⟩
  rw [e]; simp; omega
theorem Far.no {q : Int → Bool} {xs d : List Int} {i j : Nat} (F : Far q xs d i j) (hj : j < xs.length) (h : q (xs.getD j 0) = true) : Far q xs d i (j + 1) :=
  ⟨F.len, by rw [kept_step_no hj h]; exact F.hi, by rw [kept_step_no hj h]; exact F.hd, fun m hm => F.hr m (by omega), by have := F.lt; omega⟩
theorem Far.yes {q : Int → Bool} {xs d : List Int} {i j : Nat} (F : Far q xs d i j) (hj : j < xs.length) (h : q (xs.getD j 0) = false) : Far q xs (d.set i (xs.getD j 0)) (i + 1) (j + 1) := by
  have hlt := F.lt
  have hid : i < d.length := by have := F.len; omega
  refine ⟨by rw [List.length_set]; exact F.len, ?_, ?_, ?_, by omega⟩
  · rw [kept_step_yes hj h, List.length_append, ← F.hi]; rfl
  · rw [kept_step_yes hj h, ← F.hd, List.take_succ_eq_append_getElem (by simpa using hid), List.take_set_of_le (Nat.le_refl _)]
    simp
  · intro m hm
    rw [← F.hr m (by omega)]
    simp only [List.getD]
    rw [List.getElem?_set_ne (by omega)]
theorem Far.fin {q : Int → Bool} {xs d : List Int} {i : Nat} (F : Far q xs d i xs.length) : d.take i = xs.filter (fun x => !q x) ∧ i = (xs.filter (fun x => !q x)).length ∧ i < xs.length := by
  have h1 := F.hd
  have h2 := F.hi
  rw [kept_all] at h1 h2
  exact ⟨h1, h2, F.lt⟩

/-- How far a row is turned round: what lies outside of i .. j is turned. -/
structure Rvd (xs d : List Int) (i : Nat) (j : Int) : Prop where
  len : d.length = xs.length
  hij : (i : Int) + j + 1 = xs.length
  hd : ∀ m, m < xs.length → d.getD m 0 = if (m < i ∨ j < m) then xs.getD (xs.length - 1 - m) 0 else xs.getD m 0

theorem Rvd.start (xs : List Int) : Rvd xs xs 0 ((xs.length : Int) - 1) := ⟨rfl, by omega, fun m hm => by rw [if_neg (by omega)]⟩
theorem Rvd.step {xs d : List Int} {i : Nat} {j : Int} (h : Rvd xs d i j) (hlt : (i : Int) < j) : Rvd xs ((d.set i (d.getD j.toNat 0)).set j.toNat (d.getD i 0)) (i + 1) (j - 1) := by
  obtain ⟨h1, h2, h3⟩ := h
  obtain ⟨k, rfl⟩ : ∃ k : Nat, j = k := ⟨j.toNat, by omega⟩
  have hik : i < k := by omega
  refine ⟨by simpa using h1, by omega, fun m hm => ?_⟩
  have ei := h3 i (by omega)
  have ek := h3 k (by omega)
  rw [if_neg (by omega)] at ei ek
  simp only [Int.toNat_natCast]
  by_cases hmk : m = k
  · subst hmk
    rw [if_pos (by omega)]
    rw [List.getD, List.getElem?_set_self (by simp; omega)]
    simp only [Option.getD_some]
    rw [ei]; congr 1; omega
  · by_cases hmi : m = i
    · subst hmi
      rw [if_pos (by omega)]
      rw [List.getD, List.getElem?_set_ne (by omega), List.getElem?_set_self (by omega)]
      simp only [Option.getD_some]
      rw [ek]; congr 1; omega
    · rw [List.getD, List.getElem?_set_ne (by omega), List.getElem?_set_ne (by omega)]
      have := h3 m hm
      rw [List.getD] at this
      rw [this]
      by_cases hc : m < i ∨ (k : Int) < m
      · rw [if_pos hc, if_pos (by omega)]
      · rw [if_neg hc, if_neg (by omega)]
theorem Rvd.fin {xs d : List Int} {i : Nat} {j : Int} (h : Rvd xs d i j) (hge : ¬ (i : Int) < j) : d = xs.reverse := by
  obtain ⟨h1, h2, h3⟩ := h
  apply List.ext_getElem (by simpa using h1)
  intro m hm1 hm2
  have hm : m < xs.length := by omega
  have := h3 m hm
  rw [getD_lt _ _ hm1] at this
  rw [this, List.getElem_reverse]
  by_cases hc : m < i ∨ j < m
  · rw [if_pos hc, getD_lt _ _ (by omega)]
  · rw [if_neg hc, getD_lt _ _ hm]
    congr 1; omega

end Go.Proofs.YtinkpbenmfnnhaaDoor.Li
