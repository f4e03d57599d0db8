/- Package publish: the words of things, plainly; the law's wakes. Conditions: as each theorem states them. -/
import Derived.Test.YtdnlddjgjceogaaPbH
namespace Go.Proofs.Ytdnlddjgjceogaa
set_option linter.unusedVariables false
set_option linter.unusedSimpArgs false
set_option maxRecDepth 100000
open Go.RowKit

theorem body_get (n : Nat) : ∀ (L : List Tg) (t : Nat) (x : Tg) (j : Nat), L[t]? = some x → j < 4 → (L.flatMap (thW n)).getD (4 * t + j) 0 = (thW n x).getD j 0
  | [], t, x, j, h, _ => by simp at h
  | y :: L, 0, x, j, h, hj => by
    obtain rfl : y = x := by simpa using h
    simp only [List.flatMap_cons, List.getD, Nat.mul_zero, Nat.zero_add]
    rw [List.getElem?_append_left (by simp [thW]; omega)]
  | y :: L, t + 1, x, j, h, hj => by
    have ih := body_get n L t x j (by simpa using h) hj
    simp only [List.flatMap_cons, List.getD] at ih ⊢
    rw [List.getElem?_append_right (by simp [thW]; omega)]
    rw [show 4 * (t + 1) + j - (thW n y).length = 4 * t + j by simp [thW]; omega]
    exact ih
theorem wordsT_get (n : Nat) (L : List Tg) (t : Nat) (x : Tg) (j : Nat) (h : L[t]? = some x) (hj : j < 4) : (wordsT n L).getD (4 * t + 1 + j) 0 = (thW n x).getD j 0 := by
  rw [show 4 * t + 1 + j = (4 * t + j) + 1 by omega, wordsT, List.getD_cons_succ]
  exact body_get n L t x j h hj
theorem wordsT_out (n : Nat) (L : List Tg) (i : Nat) (h : 4 * L.length + 1 ≤ i) : (wordsT n L).getD i 0 = 0 := by
  have := wordsT_len n L
  simp [List.getD, List.getElem?_eq_none (show (wordsT n L).length ≤ i by omega)]
theorem thW_ok {n : Nat} {x : Tg} (hx : x.ok) (hm : mayT x = true) (hn : n ≤ 1000) (j : Nat) : 0 ≤ (thW n x).getD j 0 ∧ (thW n x).getD j 0 < 33554432 := by
  obtain ⟨a, b, c, d, e, f, g, h', i, j', a2, b2, c2, d2, e2, f2⟩ := hx
  simp only [mayT, Bool.and_eq_true] at hm
  have hw := word_lt x.k x.c x.o x.r x.s x.g x.m a c e g i hm.1
  have hr : ∀ f : Int, 0 ≤ f → f ≤ 255 → 0 ≤ refV n f ∧ refV n f < 33554432 := fun f h0 h1 => by
    unfold refV
    split
    · omega
    · split <;> omega
  rcases (by omega : j = 0 ∨ j = 1 ∨ j = 2 ∨ j = 3 ∨ 4 ≤ j) with rfl | rfl | rfl | rfl | hj
  · exact hw
  · exact hr _ a2 b2
  · exact hr _ c2 d2
  · exact hr _ e2 f2
  · simp only [List.getD]
    rw [List.getElem?_eq_none (by simp [thW]; omega)]
    simp
theorem things_ok {w : World} {ao : Option Addr} {L : List Tg} (h : Things w ao L) (x : Tg) (hx : x ∈ L) : x.ok := by
  obtain ⟨i, hi⟩ := List.getElem?_of_mem hx
  exact (h i x hi).1
theorem wordsT_ok {n : Nat} {L : List Tg} (hx : ∀ x ∈ L, x.ok) (hm : L.all mayT = true) (hn : n ≤ 1000) (i : Nat) : 0 ≤ (wordsT n L).getD i 0 ∧ (wordsT n L).getD i 0 < 33554432 := by
  rcases i with _ | i
  · simp [wordsT]
  · by_cases hi : i / 4 < L.length
    · have h1 : L[i / 4]? = some L[i / 4] := List.getElem?_eq_getElem hi
      have hmem : L[i / 4] ∈ L := List.getElem_mem hi
      have := wordsT_get n L (i / 4) _ (i % 4) h1 (by omega)
      rw [show 4 * (i / 4) + 1 + i % 4 = i + 1 by omega] at this
      rw [this]
      exact thW_ok (hx _ hmem) (List.all_eq_true.1 hm _ hmem) hn _
    · rw [wordsT_out n L (i + 1) (by omega)]
      decide
theorem nref_head {x : Tg} (hx : x.ok) (hm : mayT x = true) : nref (wordI x.k x.c x.o x.r x.s x.g x.m) = x.r ∧ x.r ≤ 3 := by
  obtain ⟨a, b, c, d, e, f, g, h', i, j', _⟩ := hx
  simp only [mayT, Bool.and_eq_true, decide_eq_true_eq] at hm
  have e1 := parts_of_word x.k x.c x.o x.r x.s x.g x.m a c e g i hm.1
  have t := takeB_of_word x.k x.c x.o x.r x.s x.g x.m a c e g i hm.1
  have := mayB_iff.1 hm.1
  exact ⟨by rw [nref, if_pos t]; exact e1.2.2.2.1, by omega⟩
theorem nref_zero : nref 0 = 0 := by decide
theorem hz_words {n : Nat} {L : List Tg} (hL : L.length = n) (hn : n ≤ 200) (hx : ∀ x ∈ L, x.ok) (hm : L.all mayT = true) : Hz (wordsT n L) := by
  have hlen := wordsT_len n L
  have key : ∀ t, t < L.length → ∃ x, L[t]? = some x ∧ x.ok ∧ mayT x = true ∧ (wordsT n L).getD (4 * t + 1) 0 = wordI x.k x.c x.o x.r x.s x.g x.m := fun t ht => by
    have h1 : L[t]? = some L[t] := List.getElem?_eq_getElem ht
    have hmem : L[t] ∈ L := List.getElem_mem ht
    exact ⟨_, h1, hx _ hmem, List.all_eq_true.1 hm _ hmem, wordsT_get n L t _ 0 h1 (by omega)⟩
  refine ⟨fun i hi => ?_, fun i q hi hq hl => ?_⟩
  · obtain ⟨t, rfl⟩ : ∃ t, i = 4 * t + 1 := ⟨i / 4, by omega⟩
    by_cases ht : t < L.length
    · obtain ⟨x, _, h2, h3, h4⟩ := key t ht
      rw [h4, (nref_head h2 h3).1]
      exact (nref_head h2 h3).2
    · rw [wordsT_out n L _ (by omega), nref_zero]; decide
  · obtain ⟨t, rfl⟩ : ∃ t, i = 4 * t + 1 := ⟨i / 4, by omega⟩
    by_cases ht : t < L.length
    · obtain ⟨x, h1, h2, h3, h4⟩ := key t ht
      rw [h4, (nref_head h2 h3).1] at hq
      have hr3 := (nref_head h2 h3).2
      have hq3 : q < 3 := by omega
      have hg := wordsT_get n L t x (1 + q) h1 (by omega)
      have e : refP (wordsT n L) (4 * t + 1) q = refV n (x.f q) := by
        rw [refP, if_pos (by omega), show 4 * t + 1 + 1 + q = 4 * t + 1 + (1 + q) by omega, hg]
        rcases (by omega : q = 0 ∨ q = 1 ∨ q = 2) with rfl | rfl | rfl <;> rfl
      rw [e] at hl ⊢
      have hf := Tg.f_ok h2 q
      have hb := lcl_in hl
      rw [hlen] at hb
      unfold refV at hl hb ⊢
      split at hl
      · rename_i h; rw [if_pos h] at hb ⊢; omega
      · rename_i h
        rw [if_neg h] at hb ⊢
        split at hl
        · rename_i h5; rw [if_pos h5] at hb; omega
        · have : lcl (wordsT n L) 0 = false := by simp [lcl, wordsT, locB_zero_no]
          rw [this] at hl; cases hl
    · rw [wordsT_out n L _ (by omega), nref_zero] at hq
      simp at hq

/-- What is left, from whatever place it began. -/
theorem pub_left {ws : List Int} {c k : Int} {s s' : St} {n : Nat} (h0 : 0 ≤ c) (h1 : c ≤ 1) (hz : Hz ws) (hk : k < 0 ∨ k.toNat % 4 = 1) (hs : s.ws = ws) (hn : itrP c n (shS s k c, shX s [] k) = (s', [])) :
    s'.ws.length = ws.length ∧ ∃ P : Nat → Bool, (∀ j, P j = true ↔ (0 ≤ k ∧ Rch ws k.toNat j)) ∧ ∀ j, s'.ws.getD j 0 = mixW ws c P j := by
  by_cases hk0 : 0 ≤ k
  · obtain ⟨a, rfl⟩ : ∃ a : Nat, k = a := ⟨k.toNat, by omega⟩
    obtain ⟨h2, P, h3, h4⟩ := pub_ends h0 h1 hz (by simpa using hk.resolve_left (by omega)) hs hn
    exact ⟨h2, P, fun j => by rw [h3 j]; simp, h4⟩
  · have hout : inB s k = false := by simp [inB]; omega
    have e1 : shS s k c = s := by rw [shS, upd_out hout]
    have e2 : shX s [] k = [] := by rw [shX, was_out hout, if_neg (by rw [locB_zero_no]; decide)]
    rw [e1, e2] at hn
    have hi : ∀ n, itrP c n (s, []) = (s, []) := fun n => by
      induction n with
      | zero => rfl
      | succ n ih => rw [itrP, ih]; rfl
    rw [hi n] at hn
    obtain rfl : s = s' := congrArg Prod.fst hn
    refine ⟨by rw [hs], fun _ => false, fun j => ?_, fun j => by simp [hs, mixW]⟩
    constructor
    · intro h; cases h
    · rintro ⟨h, _⟩; exact absurd h hk0

/-- The known heap. -/
def tgA (f0 f1 : Int) : Tg := ⟨2, 0, false, false, 0, 2, 2, f0, f1, 0⟩
def L3 : List Tg := [tgA 2 3, tgA 1 0, ⟨3, 0, false, false, 0, 0, 0, 0, 0, 0⟩]
theorem L3_ok : ∀ x ∈ L3, x.ok := by
  intro x hx
  simp only [L3, List.mem_cons, List.not_mem_nil, or_false] at hx
  rcases hx with rfl | rfl | rfl <;> simp [Tg.ok, tgA]
theorem L3_words : wordsT 3 L3 = [0, 528386, 5, 9, 0, 528386, 1, 0, 0, 3, 0, 0, 0] := by decide
theorem L3_all : L3.all mayT = true := by decide

theorem wakes_left {s s' : St} {n : Nat} (hs : s.ws = wordsT 3 L3) (hn : itrP 1 n (shS s 1 1, shX s [] 1) = (s', [])) : was s' 5 = 528391 ∧ was s' 9 = 3 := by
  obtain ⟨_, P, hp, hw⟩ := pub_left (by decide) (by decide) (hz_words (n := 3) (L := L3) rfl (by decide) L3_ok L3_all) (.inr rfl) hs hn
  have p5 : P 5 = true := by
    rw [hp]
    refine ⟨by decide, ?_⟩
    have h1 : Rch (wordsT 3 L3) 1 1 := .base (by rw [L3_words]; decide)
    have h2 := Rch.step (q := 0) h1 (by rw [L3_words]; decide) (by rw [L3_words]; decide) (by rw [L3_words]; decide)
    have e : (refP (wordsT 3 L3) 1 0).toNat = 5 := by rw [L3_words]; decide
    rw [e] at h2
    exact h2
  have p9 : P 9 = false := by
    cases h : P 9
    · rfl
    · have := ((hp 9).1 h).2.loc
      rw [L3_words] at this
      revert this; decide
  have h5 := hw 5
  have h9 := hw 9
  rw [← was_nat, mixW, p5, if_pos rfl, L3_words] at h5
  rw [← was_nat, mixW, p9, if_neg (by decide), L3_words] at h9
  exact ⟨by rw [show (5 : Int) = ((5 : Nat) : Int) from rfl, h5]; decide, by rw [show (9 : Int) = ((9 : Nat) : Int) from rfl, h9]; decide⟩

end Go.Proofs.Ytdnlddjgjceogaa
