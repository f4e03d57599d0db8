/- The document's own list answers what the list answers: its rows are the list's rows turned round. Conditions: as each theorem states them. -/
import Derived.Test.YthcblhombfggaaaLrD
namespace Go.Proofs.Ythcblhombfggaaa
set_option linter.unusedVariables false
set_option linter.unusedSimpArgs false
open Go.RowKit

def rev (R : Nat → List Int) : Nat → List Int := fun d => (R d).reverse
theorem rev_len {R : Nat → List Int} {N : Nat} (h : Len R N) : Len (rev R) N := fun d hd => by
  have := h d hd
  simpa [rev] using this
theorem inR_rev (x : Int) (xs : List Int) : inR x xs.reverse = inR x xs := by simp [inR]
theorem inK_rev (R : Nat → List Int) (x : Int) : ∀ k, inK (rev R) x k = inK R x k
  | 0 => rfl
  | k + 1 => by rw [inK, inK, inK_rev R x k]; simp only [rev, inR_rev]
theorem hasB_rev (R : Nat → List Int) (x : Int) : hasB (rev R) x = hasB R x := inK_rev R x 4
theorem left_rev (f t : Int) (xs : List Int) : left f t xs.reverse = (left f t xs).reverse := by simp [left, List.filter_reverse]
theorem Rk_rev (R : Nat → List Int) (f t : Int) (k d : Nat) : Rk (rev R) f t k d = rev (Rk R f t k) d := by
  by_cases h : d < k <;> simp [Rk, rev, h, left_rev]
theorem gone_rev (R : Nat → List Int) (f t : Int) : ∀ k, gone (rev R) f t k = gone R f t k
  | 0 => rfl
  | k + 1 => by
    rw [gone, gone, gone_rev R f t k]
    simp only [rev, left_rev, List.length_reverse]
theorem upd_rev (R : Nat → List Int) (c d : Nat) (xs : List Int) : upd (rev R) c xs.reverse d = rev (upd R c xs) d := by
  by_cases h : d = c <;> simp [upd, rev, h]

/-- The rows of the document's own list. -/
def Rows4 (w : World) (us : Nat → Value) (R : Nat → List Int) : Prop := ∀ d, d < 4 → Rd w (us d) (rev R d)
def Lt4 (us : Nat → Value) (n : Nat) : Prop := ∀ d, d < 4 → ∀ y ∈ blk (us d), y < n
def Bl4 (us us' : Nat → Value) (n m : Nat) : Prop := ∀ d, d < 4 → ∀ y ∈ blk (us' d), y ∈ blk (us d) ∨ (n ≤ y ∧ y < m)
theorem bl_refl (us : Nat → Value) (n m : Nat) : Bl4 us us n m := fun _ _ _ hy => .inl hy

theorem rhas_is (w : World) (us : Nat → Value) (R : Nat → List Int) (x : Int) (hq : Rows4 w us R) (hn : Len R 1000) :
    Calls Try.prog 15 #[.agg #[us 0, us 1, us 2, us 3], .int .i64 x] w fun e w' => e = .returned (.bool (hasB R x)) ∧ Kp [] w w' := by
  rw [← hasB_rev]
  exact rhas_any w us (rev R) x hq (rev_len hn)

theorem rpush_is (w : World) (us : Nat → Value) (R : Nat → List Int) (c x : Int) (hq : Rows4 w us R) (hn : Len R 1000) (hlt : Lt4 us w.heap.size) :
    Calls Try.prog 13 #[.agg #[us 0, us 1, us 2, us 3], .int .i64 c, .int .i64 x] w fun e w' => ∃ us' : Nat → Value, e = .returned (.tuple #[.agg #[us' 0, us' 1, us' 2, us' 3], .int .i64 (pushE R c x)]) ∧ Kp [] w w' ∧ Rows4 w' us' (pushR R c x) ∧ Bl4 us us' w.heap.size w'.heap.size := by
  unfold pushR pushE
  cases hb : badC c with
  | true =>
    simp only [if_true, show ¬ ((2 : Int) = 0) from by decide, if_false]
    refine (rpush_bad w us _ c x (.inl (badC_iff.1 hb)) hq).mono ?_
    rintro e w' ⟨rfl, hk⟩
    exact ⟨us, rfl, hk, fun d hd => (hq d hd).keep0 hk, bl_refl _ _ _⟩
  | false =>
    obtain ⟨k, rfl, hk⟩ := goodC hb
    simp only [Bool.false_eq_true, if_false, Int.toNat_natCast]
    by_cases hx : x < 1
    · simp only [if_pos hx, show ¬ ((2 : Int) = 0) from by decide, if_false]
      refine (rpush_bad w us _ k x (.inr ⟨by omega, hx⟩) hq).mono ?_
      rintro e w' ⟨rfl, hk⟩
      exact ⟨us, rfl, hk, fun d hd => (hq d hd).keep0 hk, bl_refl _ _ _⟩
    · simp only [if_neg hx]
      cases hh : hasB R x with
      | true =>
        simp only [if_true, show ¬ ((6 : Int) = 0) from by decide, if_false]
        refine (rpush_has w us _ k x hk (by omega) (by rw [hasB_rev]; exact hh) hq (rev_len hn)).mono ?_
        rintro e w' ⟨rfl, hk'⟩
        exact ⟨us, rfl, hk', fun d hd => (hq d hd).keep0 hk', bl_refl _ _ _⟩
      | false =>
        simp only [Bool.false_eq_true, if_false, if_true]
        refine (rpush_good w us _ k x hk (by omega) (by rw [hasB_rev]; exact hh) hq (rev_len hn) hlt).mono ?_
        rintro e w' ⟨us', rfl, hk', hr, hb'⟩
        refine ⟨us', rfl, hk', fun d hd => ?_, hb'⟩
        have := hr d hd
        rw [show x :: rev R k = (R k ++ [x]).reverse from by simp [rev], upd_rev] at this
        exact this

theorem rpop_is (w : World) (us : Nat → Value) (R : Nat → List Int) (c : Int) (hq : Rows4 w us R) (hn : Len R 1000) (hlt : Lt4 us w.heap.size) :
    Calls Try.prog 9 #[.agg #[us 0, us 1, us 2, us 3], .int .i64 c] w fun e w' => ∃ us' : Nat → Value, e = .returned (.tuple #[.agg #[us' 0, us' 1, us' 2, us' 3], .int .i64 (popX R c), .int .i64 (popE R c)]) ∧ Kp [] w w' ∧ Rows4 w' us' (popR R c) ∧ Bl4 us us' w.heap.size w'.heap.size := by
  unfold popX popR popE
  cases hb : badC c with
  | true =>
    simp only [if_true, show ¬ ((2 : Int) = 0) from by decide, if_false]
    refine (rpop_bad w us _ c (badC_iff.1 hb) hq).mono ?_
    rintro e w' ⟨rfl, hk⟩
    exact ⟨us, rfl, hk, fun d hd => (hq d hd).keep0 hk, bl_refl _ _ _⟩
  | false =>
    obtain ⟨k, rfl, hk⟩ := goodC hb
    simp only [Bool.false_eq_true, if_false, Int.toNat_natCast]
    by_cases hx : R k = []
    · simp only [if_pos hx, show ¬ ((5 : Int) = 0) from by decide, if_false]
      refine (rpop_empty w us _ k hk hq (by simp [rev, hx])).mono ?_
      rintro e w' ⟨rfl, hk'⟩
      exact ⟨us, rfl, hk', fun d hd => (hq d hd).keep0 hk', bl_refl _ _ _⟩
    · simp only [if_neg hx, if_true]
      have e := List.dropLast_concat_getLast hx
      have e2 : (R k).getLastD 0 = (R k).getLast hx := by rw [List.getLastD_eq_getLast?, List.getLast?_eq_some_getLast hx]; rfl
      rw [e2]
      have e3 : rev R k = (R k).getLast hx :: (R k).dropLast.reverse := by
        unfold rev
        conv => lhs; rw [← e]
        simp
      refine (rpop_good w us _ k hk hq _ _ e3 (rev_len hn k hk) hlt).mono ?_
      rintro e w' ⟨us', rfl, hk', hr, hb'⟩
      refine ⟨us', rfl, hk', fun d hd => ?_, hb'⟩
      have := hr d hd
      rw [upd_rev] at this
      exact this

theorem rdrop_is (w : World) (us : Nat → Value) (R : Nat → List Int) (f t : Int) (hq : Rows4 w us R) (hn : Len R 1000) (hlt : Lt4 us w.heap.size) :
    Calls Try.prog 11 #[.agg #[us 0, us 1, us 2, us 3], .int .i64 f, .int .i64 t] w fun e w' => ∃ us' : Nat → Value, e = .returned (.tuple #[.agg #[us' 0, us' 1, us' 2, us' 3], .int .i64 (dropN R f t)]) ∧ Kp [] w w' ∧ Rows4 w' us' (dropR R f t) ∧ Bl4 us us' w.heap.size w'.heap.size := by
  refine (rdrop_any w us _ f t hq (rev_len hn) hlt).mono ?_
  rintro e w' ⟨us', rfl, hk', hr, hb'⟩
  rw [gone_rev]
  refine ⟨us', rfl, hk', fun d hd => ?_, hb'⟩
  have := hr d hd
  rw [Rk_rev] at this
  exact this

/-! ### The law's own state -/

theorem Rd.same {w w' : World} {u : Value} {xs : List Int} (h : Rd w u xs) (k : ∀ g ∈ blk u, g < w.heap.size → w'.heap[g]? = w.heap[g]?) : Rd w' u xs := by
  obtain ⟨ao, cap, rfl, hc, hz, hx⟩ := h.form
  refine ⟨ao, cap, rfl, hc, hz, fun hne => ?_⟩
  obtain ⟨g, o, rfl, hcell⟩ := hx hne
  refine ⟨g, o, rfl, fun i hi => ?_⟩
  have := hcell i hi
  exact (World.cell?_of_block (a := ⟨g, o + i, none⟩) (k g (by simp [blk_some]) (block_lt_of_cell this))).trans this

theorem ne_types {w : World} {a b : Nat} {x y : Array Value} {t u : TypeId} (h : w.heap[a]? = some (.cells x t (0, 0))) (k : w.heap[b]? = some (.cells y u (0, 0))) (htu : t ≠ u) : a ≠ b := by
  intro e; subst e
  have := h.symm.trans k
  simp at this
  exact htu this.2
theorem not_own {w : World} {p : Nat} {vs : Nat → Value} {R : Nat → List Int} (L : Ls w p vs R) {b : Nat} {x : Array Value} {t : TypeId} (h : w.heap[b]? = some (.cells x t (0, 0))) (h1 : t ≠ 3) : ¬ Owns vs b := by
  rintro ⟨c, hc, hg⟩
  obtain ⟨cur, hcur⟩ := (L.rw c hc).block b hg
  exact ne_types h hcur h1 rfl

/-- The list at p with rows R; the document's own at b with rows Q. -/
structure PL (w : World) (p b : Nat) (R Q : Nat → List Int) (wr : World) (vs us : Nat → Value) : Prop where
  bag : Bag w p R wr vs
  hb : wr.heap[b]? = some (.cells #[us 0, us 1, us 2, us 3] 29 (0, 0))
  rd : Rows4 wr us Q
  ap : ∀ d, d < 4 → ∀ y ∈ blk (us d), ¬ Owns vs y ∧ y ≠ p ∧ y ≠ b ∧ y < wr.heap.size
  ge : w.heap.size ≤ b

section
variable {w wr w2 : World} {p b : Nat} {R R' Q Q' : Nat → List Int} {vs vs' us us' : Nat → Value}
theorem PL.lt (h : PL w p b R Q wr vs us) : Lt4 us wr.heap.size := fun d hd y hy => (h.ap d hd y hy).2.2.2
theorem PL.lst (h : PL w p b R Q wr vs us) (L : Ls w2 p vs' R') (k : Lk p vs vs' wr w2) : PL w p b R' Q w2 vs' us := by
  have hbp := ne_types h.hb h.bag.ls.hp (by decide)
  refine ⟨h.bag.step L k, k.row hbp (not_own h.bag.ls h.hb (by decide)) h.hb, fun d hd => (h.rd d hd).same (fun g hg hl => k.block g hl (h.ap d hd g hg).2.1 (h.ap d hd g hg).1), fun d hd y hy => ?_, h.ge⟩
  obtain ⟨a1, a2, a4, a3⟩ := h.ap d hd y hy
  refine ⟨fun e => ?_, a2, a4, Nat.lt_of_lt_of_le a3 k.size⟩
  rcases k.own y e with q | q
  · exact a1 q
  · omega
theorem PL.on (h : PL w p b R Q wr vs us) (k : Kp [] wr w2) : PL w p b R Q w2 vs us := h.lst (h.bag.ls.keep0 k) (Lk.of_kp k)
/-- The document's own list is replaced: by a box of its own at y. -/
theorem PL.ref {w3 : World} (h : PL w p b R Q wr vs us) (k : Kp [] wr w2) (hr : Rows4 w2 us' Q') (hbl : Bl4 us us' wr.heap.size w2.heap.size) (k3 : Kp [b, w2.heap.size] w2 w3) (hb2 : w3.heap[b]? = some (.cells #[us' 0, us' 1, us' 2, us' 3] 29 (0, 0))) : PL w p b R Q' w3 vs us' := by
  have hbp := ne_types h.hb h.bag.ls.hp (by decide)
  have hbo := not_own h.bag.ls h.hb (by decide)
  have hbl2 := lt_of_block h.hb
  have h2 := h.on k
  have hS : ∀ x ∈ [b, w2.heap.size], x = b ∨ w2.heap.size ≤ x := by
    intro x hx
    simp only [List.mem_cons, List.not_mem_nil, or_false] at hx
    omega
  have L3 := h2.bag.ls.keep k3 (fun e => by
    rcases hS _ e with q | q
    · exact hbp q.symm
    · have := h2.bag.ls.lt; omega) (fun g hg e => by
    rcases hS _ e with q | q
    · exact hbo (q ▸ hg)
    · have := h2.bag.ls.olt hg; omega)
  have hap : ∀ d, d < 4 → ∀ y ∈ blk (us' d), ¬ Owns vs y ∧ y ≠ p ∧ y ≠ b ∧ y < w2.heap.size := fun d hd y hy => by
    rcases hbl d hd y hy with q | q
    · exact h2.ap d hd y q
    · refine ⟨fun e => ?_, fun e => ?_, fun e => ?_, q.2⟩
      · have := h.bag.ls.olt e; omega
      · have := h.bag.ls.lt; omega
      · omega
  refine ⟨⟨L3, ?_, h.bag.hp, h.bag.ho⟩, hb2, fun d hd => (hr d hd).keep k3 (fun g hg e => ?_), fun d hd y hy => ?_, h.ge⟩
  · exact h2.bag.bel.trans (k3.below h2.bag.bel.size (fun x hx => by
      rcases hS x hx with q | q
      · rw [q]; exact h.ge
      · exact Nat.le_trans h2.bag.bel.size q))
  · obtain ⟨_, _, a3, a4⟩ := hap d hd g hg
    rcases hS g e with q | q
    · exact a3 q
    · omega
  · obtain ⟨a1, a2, a3, a4⟩ := hap d hd y hy
    exact ⟨a1, a2, a3, Nat.lt_of_lt_of_le a4 k3.size⟩
end

end Go.Proofs.Ythcblhombfggaaa
