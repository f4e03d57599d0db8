/- What the list's calls answer, plainly: Push, Pop, Drop of whatever arguments; 'wakes' of layer 7; ListNil's walk. Conditions: as each theorem states them. -/
import Derived.Test.YtinkpbenmfnnhaaDoorLsN
import Derived.Test.YtinkpbenmfnnhaaDoorLaw
namespace Go.Proofs.YtinkpbenmfnnhaaDoor.Li
set_option linter.unusedVariables false
set_option linter.unusedSimpArgs false
open Go.RowKit

def badC (c : Int) : Bool := decide (c < 0) || decide (4 ≤ c)
def pushE (R : Nat → List Int) (c x : Int) : Int := if badC c then 2 else if x < 1 then 2 else if hasB R x then 6 else 0
def pushR (R : Nat → List Int) (c x : Int) : Nat → List Int := if pushE R c x = 0 then upd R c.toNat (R c.toNat ++ [x]) else R
def popE (R : Nat → List Int) (c : Int) : Int := if badC c then 2 else if R c.toNat = [] then 5 else 0
def popX (R : Nat → List Int) (c : Int) : Int := if popE R c = 0 then (R c.toNat).getLastD 0 else 0
def popR (R : Nat → List Int) (c : Int) : Nat → List Int := if popE R c = 0 then upd R c.toNat (R c.toNat).dropLast else R
def dropN (R : Nat → List Int) (f t : Int) : Nat := gone R f t 4
def dropR (R : Nat → List Int) (f t : Int) : Nat → List Int := Rk R f t 4

theorem badC_iff {c : Int} : badC c = true ↔ c < 0 ∨ 4 ≤ c := by simp [badC]
theorem goodC {c : Int} (h : badC c = false) : ∃ k : Nat, c = k ∧ k < 4 := by
  simp only [badC, Bool.or_eq_false_iff, decide_eq_false_iff_not] at h
  exact ⟨c.toNat, by omega, by omega⟩

/-- No row is longer than N. -/
def Len (R : Nat → List Int) (N : Nat) : Prop := ∀ c, c < 4 → (R c).length ≤ N
theorem Len.push {R : Nat → List Int} {N : Nat} (h : Len R N) (c x : Int) : Len (pushR R c x) (N + 1) := by
  intro d hd
  have := h d hd
  unfold pushR
  split
  · by_cases e : d = c.toNat
    · subst e; rw [upd_same, List.length_append]; simp; omega
    · rw [upd_ne _ _ _ _ e]; omega
  · omega
theorem Len.pop {R : Nat → List Int} {N : Nat} (h : Len R N) (c : Int) : Len (popR R c) N := by
  intro d hd
  have := h d hd
  unfold popR
  split
  · by_cases e : d = c.toNat
    · subst e; rw [upd_same, List.length_dropLast]; omega
    · rw [upd_ne _ _ _ _ e]; omega
  · omega
theorem Len.drop {R : Nat → List Int} {N : Nat} (h : Len R N) (f t : Int) : Len (dropR R f t) N := by
  intro d hd
  have := h d hd
  have := left_le f t (R d)
  unfold dropR Rk
  split <;> omega
theorem Len.mono {R : Nat → List Int} {N M : Nat} (h : Len R N) (hm : N ≤ M) : Len R M := fun d hd => Nat.le_trans (h d hd) hm

theorem push_is (w : World) (p : Nat) (vs : Nat → Value) (R : Nat → List Int) (c x : Int) (L : Ls w p vs R) (hn : Len R 1000) :
    Calls Tryd.prog 50 #[.pointer (some ⟨p, 0, none⟩), .int .i64 c, .int .i64 x] w fun e w' => e = .returned (.int .i64 (pushE R c x)) ∧ ∃ vs', Ls w' p vs' (pushR R c x) ∧ Lk p vs vs' w w' := by
  unfold pushR pushE
  cases hb : badC c with
  | true =>
    simp only [if_true, show ¬ ((2 : Int) = 0) from by decide, if_false]
    refine (push_bad w p c x (badC_iff.1 hb)).mono ?_
    rintro e w' ⟨rfl, rfl⟩
    exact ⟨rfl, vs, L, Lk.of_kp (Kp.refl _ _)⟩
  | false =>
    obtain ⟨k, rfl, hk⟩ := goodC hb
    simp only [Bool.false_eq_true, if_false, Int.toNat_natCast]
    by_cases hx : x < 1
    · simp only [if_pos hx, show ¬ ((2 : Int) = 0) from by decide, if_false]
      refine (push_low w p k x hk hx).mono ?_
      rintro e w' ⟨rfl, rfl⟩
      exact ⟨rfl, vs, L, Lk.of_kp (Kp.refl _ _)⟩
    · simp only [if_neg hx]
      cases hh : hasB R x with
      | true =>
        simp only [if_true, show ¬ ((6 : Int) = 0) from by decide, if_false]
        refine (push_has w p k vs R L hn x hk (by omega) hh).mono ?_
        rintro e w' ⟨rfl, hk'⟩
        exact ⟨rfl, vs, L.keep0 hk', Lk.of_kp hk'⟩
      | false =>
        simp only [Bool.false_eq_true, if_false, if_true]
        exact push_good w p k vs R L hn x hk (by omega) hh

theorem pop_is (w : World) (p : Nat) (vs : Nat → Value) (R : Nat → List Int) (c : Int) (L : Ls w p vs R) (hn : Len R 1000) :
    Calls Tryd.prog 43 #[.pointer (some ⟨p, 0, none⟩), .int .i64 c] w fun e w' => e = .returned (.tuple #[.int .i64 (popX R c), .int .i64 (popE R c)]) ∧ ∃ vs', Ls w' p vs' (popR R c) ∧ Lk p vs vs' w w' := by
  unfold popX popR popE
  cases hb : badC c with
  | true =>
    simp only [if_true, show ¬ ((2 : Int) = 0) from by decide, if_false]
    refine (pop_bad w p c (badC_iff.1 hb)).mono ?_
    rintro e w' ⟨rfl, rfl⟩
    exact ⟨rfl, vs, L, Lk.of_kp (Kp.refl _ _)⟩
  | false =>
    obtain ⟨k, rfl, hk⟩ := goodC hb
    simp only [Bool.false_eq_true, if_false, Int.toNat_natCast]
    by_cases hx : R k = []
    · simp only [if_pos hx, show ¬ ((5 : Int) = 0) from by decide, if_false]
      refine (pop_empty w p k vs R L hk hx).mono ?_
      rintro e w' ⟨rfl, rfl⟩
      exact ⟨rfl, vs, L, Lk.of_kp (Kp.refl _ _)⟩
    · simp only [if_neg hx, if_true]
      have e := List.dropLast_concat_getLast hx
      have e2 : (R k).getLastD 0 = (R k).getLast hx := by rw [List.getLastD_eq_getLast?, List.getLast?_eq_some_getLast hx]; rfl
      rw [e2]
      exact pop_good w p k vs R L hk _ _ e.symm (hn k hk)

/-- A list of the caller's own: whatever it may turn lies at or beyond B. -/
structure Bag (w0 : World) (p : Nat) (R : Nat → List Int) (w : World) (vs : Nat → Value) : Prop where
  ls : Ls w p vs R
  bel : Below w0.heap.size w0 w
  hp : w0.heap.size ≤ p
  ho : ∀ g, Owns vs g → w0.heap.size ≤ g
theorem Bag.step {w0 w w' : World} {p : Nat} {R R' : Nat → List Int} {vs vs' : Nat → Value} (b : Bag w0 p R w vs) (L : Ls w' p vs' R') (k : Lk p vs vs' w w') : Bag w0 p R' w' vs' :=
  ⟨L, b.bel.trans (k.below b.bel.size b.hp b.ho), b.hp, fun g hg => by
    rcases k.own g hg with q | q
    · exact b.ho g q
    · exact Nat.le_trans b.bel.size q⟩
theorem Bag.on {w0 w w' : World} {p : Nat} {R : Nat → List Int} {vs : Nat → Value} (b : Bag w0 p R w vs) (k : Kp [] w w') : Bag w0 p R w' vs := b.step (b.ls.keep0 k) (Lk.of_kp k)

theorem bag_new (w : World) : Calls Tryd.prog 14 #[] w fun e w' => e = .returned (.pointer (some ⟨w.heap.size, 0, none⟩)) ∧ Bag w w.heap.size (fun _ => []) w' (fun _ => .slice none 0 0) := by
  refine (new_any w).mono ?_
  rintro e w' ⟨rfl, L, k⟩
  exact ⟨rfl, L, k.to_below, Nat.le_refl _, fun g ⟨c, hc, hg⟩ => by simp [blk_nil] at hg⟩

end Go.Proofs.YtinkpbenmfnnhaaDoor.Li
