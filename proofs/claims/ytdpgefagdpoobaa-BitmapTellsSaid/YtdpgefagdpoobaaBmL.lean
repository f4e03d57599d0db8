/- The laws of layer bitmap, walked: BitmapTells, BitmapTakes. Conditions: as each theorem states them. -/
import Derived.Test.YtdpgefagdpoobaaBmR
import Derived.Deep.RegionWith
namespace Go.Proofs.Ytdpgefagdpoobaa
set_option linter.unusedVariables false
set_option linter.unusedSimpArgs false
open Go.RowKit

theorem isR_nat (x k r : Nat) (b : Bool) (h1 : 1 ≤ r) (h2 : r ≤ 3) : isR x k r b = (decide (k + r ≤ 64) && allN x k r b) := by
  rw [isR, Bool.eq_iff_iff]
  simp only [Bool.and_eq_true, decide_eq_true_eq, Int.toNat_natCast]
  constructor
  · rintro ⟨h, ha⟩; exact ⟨by omega, ha⟩
  · rintro ⟨h, ha⟩; exact ⟨by omega, ha⟩
theorem isR_bad (x : Nat) (k r : Int) (b : Bool) (h : ¬ (1 ≤ r ∧ r ≤ 3)) : isR x k r b = false := by
  have : ¬ (1 ≤ r ∧ r ≤ 3 ∧ 0 ≤ k ∧ k + r ≤ 64) := fun g => h ⟨g.1, g.2.1⟩
  simp only [isR, decide_eq_false this, Bool.false_and]

theorem least_uniq {p : Nat → Bool} {a b : Nat} (ha : p a = true) (hb : p b = true) (la : ∀ j, j < a → p j = false) (lb : ∀ j, j < b → p j = false) : a = b := by
  rcases (by omega : a < b ∨ b < a ∨ a = b) with h | h | h
  · rw [lb a h] at ha; exact absurd ha (by decide)
  · rw [la b h] at hb; exact absurd hb (by decide)
  · exact h
theorem isR_lt {x k : Nat} {r : Int} {b : Bool} (h : isR x k r b = true) : k < 64 ∧ 1 ≤ r ∧ r ≤ 3 ∧ (k : Int) + r ≤ 64 := by
  simp only [isR, Bool.and_eq_true, decide_eq_true_eq] at h
  omega

theorem find_at (x : Nat) (r : Int) (k : Nat) (w : World) (hx : x < 18446744073709551616) (hk : isR x k r true = true) (hl : ∀ j : Nat, j < k → isR x j r true = false) :
    Calls Try.prog 8 #[.int .u64 x, .int .i64 r] w fun e w' => e = .returned (.tuple #[.int .i64 k, .bool true]) ∧ Kp [] w w' := by
  obtain ⟨k64, h1, h2, h3⟩ := isR_lt hk
  obtain ⟨r', rfl⟩ := Int.eq_ofNat_of_zero_le (show 0 ≤ r by omega)
  refine find_walk x r' w hx (by omega) (by omega) k true ?_ ?_
  · rintro k' ⟨g1, g2, g3⟩
    refine ⟨?_, rfl⟩
    have := least_uniq (p := fun j : Nat => isR x j r' true) (a := k) (b := k') hk (by rw [isR_nat _ _ _ _ (by omega) (by omega), g2]; simp; omega) hl (fun j hj => by
      rw [isR_nat _ _ _ _ (by omega) (by omega), g3 j hj, Bool.and_false])
    omega
  · intro hn
    exfalso
    rw [isR_nat _ _ _ _ (by omega) (by omega), hn k (by omega), Bool.and_false] at hk
    exact absurd hk (by decide)
theorem find_none (x : Nat) (r : Int) (w : World) (hx : x < 18446744073709551616) (hl : ∀ j : Nat, j < 64 → isR x j r true = false) :
    Calls Try.prog 8 #[.int .u64 x, .int .i64 r] w fun e w' => e = .returned (.tuple #[.int .i64 0, .bool false]) ∧ Kp [] w w' := by
  by_cases h : 1 ≤ r ∧ r ≤ 3
  · obtain ⟨r', rfl⟩ := Int.eq_ofNat_of_zero_le (show 0 ≤ r by omega)
    refine find_walk x r' w hx (by omega) (by omega) 0 false ?_ ?_
    · rintro k' ⟨g1, g2, g3⟩
      exfalso
      have := hl k' (by omega)
      rw [isR_nat _ _ _ _ (by omega) (by omega), g2] at this
      simp at this; omega
    · intro _; exact ⟨rfl, rfl⟩
  · exact find_bad x r w h
theorem rfind_at (x : Nat) (r : Int) (k : Nat) (w : World) (hx : x < 18446744073709551616) (hk : isR x k r true = true) (hl : ∀ j : Nat, j < k → isR x j r true = false) :
    Calls Try.prog 9 #[.int .u64 x, .int .i64 r] w fun e w' => e = .returned (.int .i64 k) ∧ Kp [] w w' := by
  obtain ⟨k64, h1, h2, h3⟩ := isR_lt hk
  refine rfind_is x r k w hx ?_ ?_
  · intro k' g1 g2
    have := least_uniq (p := fun j : Nat => isR x j r true) (a := k) (b := k') hk g1 hl g2
    omega
  · intro hn
    rw [hn k k64] at hk
    exact absurd hk (by decide)
theorem rfind_none (x : Nat) (r : Int) (w : World) (hx : x < 18446744073709551616) (hl : ∀ j : Nat, j < 64 → isR x j r true = false) :
    Calls Try.prog 9 #[.int .u64 x, .int .i64 r] w fun e w' => e = .returned (.int .i64 (-1)) ∧ Kp [] w w' := by
  refine rfind_is x r (-1) w hx ?_ ?_
  · intro k' g1 g2
    rw [hl k' (isR_lt g1).1] at g1
    exact absurd g1 (by decide)
  · intro _; rfl

/-- There is a least one, or none. -/
theorem least_or (x : Nat) (r : Int) : (∃ k : Nat, isR x k r true = true ∧ ∀ j : Nat, j < k → isR x j r true = false) ∨ (∀ j : Nat, j < 64 → isR x j r true = false) := by
  have key : ∀ n : Nat, (∃ k : Nat, k < n ∧ isR x k r true = true ∧ ∀ j : Nat, j < k → isR x j r true = false) ∨ (∀ j : Nat, j < n → isR x j r true = false) := by
    intro n
    induction n with
    | zero => exact .inr fun j hj => absurd hj (by omega)
    | succ n ih =>
      rcases ih with ⟨k, h1, h2, h3⟩ | h
      · exact .inl ⟨k, by omega, h2, h3⟩
      · cases hb : isR x n r true
        · refine .inr fun j hj => ?_
          by_cases e : j = n
          · subst e; exact hb
          · exact h j (by omega)
        · exact .inl ⟨n, by omega, hb, h⟩
  rcases key 64 with ⟨k, _, h2, h3⟩ | h
  · exact .inl ⟨k, h2, h3⟩
  · exact .inr h

theorem wakes_is (w : World) : Calls Try.prog 13 #[] w fun e w' => e = .returned (.bool true) ∧ Kp [] w w' := by
  have k1 : ∀ w, Calls Try.prog 8 #[.int .u64 182, .int .i64 2] w fun e w' => e = .returned (.tuple #[.int .i64 1, .bool true]) ∧ Kp [] w w' := fun w => find_at 182 2 1 w (by omega) (by decide +kernel) (by decide +kernel)
  have k2 : ∀ w, Calls Try.prog 8 #[.int .u64 182, .int .i64 3] w fun e w' => e = .returned (.tuple #[.int .i64 0, .bool false]) ∧ Kp [] w w' := fun w => find_none 182 3 w (by omega) (by decide +kernel)
  have k3 : ∀ w, Calls Try.prog 14 #[.int .u64 7, .int .i64 1, .int .i64 2] w fun e w' => e = .returned (.tuple #[.int .u64 1, .bool true]) ∧ w = w' := fun w => take_is 7 1 2 1 true w (by omega) (by decide +kernel) (by decide +kernel)
  have k4 : ∀ w, Calls Try.prog 15 #[.int .u64 1, .int .i64 2, .int .i64 1] w fun e w' => e = .returned (.tuple #[.int .u64 5, .bool true]) ∧ w = w' := fun w => give_is 1 2 1 5 true w (by omega) (by decide +kernel) (by decide +kernel)
  have k5 : ∀ w, Calls Try.prog 10 #[.int .u64 5] w fun e w' => e = .returned (.int .i64 2) ∧ w = w' := fun w => count_is 5 2 w (by omega) (by decide +kernel)
  have k6 : ∀ w, Calls Try.prog 7 #[.int .u64 5, .int .i64 2] w fun e w' => e = .returned (.bool true) ∧ Kp [] w w' := fun w => has_is 5 2 true w (by omega) (by decide +kernel)
  have k7 : ∀ w, Calls Try.prog 11 #[.int .i64 3] w fun e w' => e = .returned (.int .u64 7) ∧ w = w' := fun w => all_is 3 7 w (by decide +kernel)
  go_enter Try.func13, Try.ntmps13
  go_wp2_with (first
    | ((with_reducible refine (k1 _).mono ?_); rintro e w1 ⟨rfl, hk1⟩)
    | ((with_reducible refine (k2 _).mono ?_); rintro e w2 ⟨rfl, hk2⟩)
    | ((with_reducible refine (k3 _).mono ?_); rintro e w' ⟨rfl, rfl⟩)
    | ((with_reducible refine (k4 _).mono ?_); rintro e w' ⟨rfl, rfl⟩)
    | ((with_reducible refine (k5 _).mono ?_); rintro e w' ⟨rfl, rfl⟩)
    | ((with_reducible refine (k6 _).mono ?_); rintro e w3 ⟨rfl, hk3⟩)
    | ((with_reducible refine (k7 _).mono ?_); rintro e w' ⟨rfl, rfl⟩))
  go_ret
  exact ⟨rfl, (hk1.trans (hk2.mono (by simp))).trans (hk3.mono (by simp))⟩

theorem rwith_int (x : Nat) (k r : Int) (b c : Bool) (n : Nat) (w : World) (hx : x < 18446744073709551616) (h : isR x k r c = true) (hn : setN x k.toNat r.toNat b = n) : Calls Try.prog 17 #[.int .u64 x, .int .i64 k, .int .i64 r, .bool b] w fun e w' => e = .returned (.int .u64 n) ∧ Kp [] w w' := by
  have h' : 1 ≤ r ∧ r ≤ 3 ∧ 0 ≤ k ∧ k + r ≤ 64 := by
    simp only [isR, Bool.and_eq_true, decide_eq_true_eq] at h; exact h.1
  obtain ⟨r', rfl⟩ := Int.eq_ofNat_of_zero_le (show 0 ≤ r by omega)
  obtain ⟨k', rfl⟩ := Int.eq_ofNat_of_zero_le (show 0 ≤ k by omega)
  exact rwith_is x k' r' n b w hx (by omega) (by omega) (by omega) hn

/-- BitmapTakes, walked: its callees by what they answer. -/
theorem takes_core (x y1 y2 : Nat) (k r : Int) (q1 q2 : Bool) (w : World)
    (c1 : ∀ w, Calls Try.prog 14 #[.int .u64 x, .int .i64 k, .int .i64 r] w fun e w' => e = .returned (.tuple #[.int .u64 y1, .bool q1]) ∧ w = w')
    (c2 : ∀ w, Calls Try.prog 15 #[.int .u64 x, .int .i64 k, .int .i64 r] w fun e w' => e = .returned (.tuple #[.int .u64 y2, .bool q2]) ∧ w = w')
    (c3 : ∀ w, Calls Try.prog 16 #[.int .u64 x, .int .i64 k, .int .i64 r, .bool true] w fun e w' => e = .returned (.bool q1) ∧ Kp [] w w')
    (c4 : ∀ w, Calls Try.prog 16 #[.int .u64 x, .int .i64 k, .int .i64 r, .bool false] w fun e w' => e = .returned (.bool q2) ∧ Kp [] w w')
    (c5 : q1 = true → ∀ w, Calls Try.prog 17 #[.int .u64 x, .int .i64 k, .int .i64 r, .bool false] w fun e w' => e = .returned (.int .u64 y1) ∧ Kp [] w w')
    (c6 : q2 = true → ∀ w, Calls Try.prog 17 #[.int .u64 x, .int .i64 k, .int .i64 r, .bool true] w fun e w' => e = .returned (.int .u64 y2) ∧ Kp [] w w')
    (e1 : q1 = false → x = y1) (e2 : q2 = false → x = y2) :
    Calls Try.prog 4 #[.int .u64 x, .int .i64 k, .int .i64 r] w fun e w' => e = .returned (.bool true) ∧ Kp [] w w' := by
  have kw := wakes_is
  have K := Lib.hid (Kp.refl [] w)
  cases q1 <;> cases q2
  · obtain rfl := e1 rfl
    clear c5
    obtain rfl := e2 rfl
    clear c6
    clear e1 e2
    go_enter Try.func4, Try.ntmps4
    go_wp2_with (first
      | ((with_reducible refine (c1 _).mono ?_); rintro e w' ⟨rfl, rfl⟩)
      | ((with_reducible refine (c2 _).mono ?_); rintro e w' ⟨rfl, rfl⟩)
      | ((with_reducible refine (c3 _).mono ?_); rintro e w3 ⟨rfl, hk3⟩; have K := Lib.hid (K.out.trans (hk3.mono (by simp))); clear hk3)
      | ((with_reducible refine (c4 _).mono ?_); rintro e w3 ⟨rfl, hk3⟩; have K := Lib.hid (K.out.trans (hk3.mono (by simp))); clear hk3)
      | ((with_reducible refine (kw _).mono ?_); rintro e w3 ⟨rfl, hk3⟩; have K := Lib.hid (K.out.trans (hk3.mono (by simp))); clear hk3))
    go_ret
    exact ⟨rfl, K.out⟩
  · obtain rfl := e1 rfl
    clear c5
    replace c6 := c6 rfl
    clear e1 e2
    go_enter Try.func4, Try.ntmps4
    go_wp2_with (first
      | ((with_reducible refine (c1 _).mono ?_); rintro e w' ⟨rfl, rfl⟩)
      | ((with_reducible refine (c2 _).mono ?_); rintro e w' ⟨rfl, rfl⟩)
      | ((with_reducible refine (c3 _).mono ?_); rintro e w3 ⟨rfl, hk3⟩; have K := Lib.hid (K.out.trans (hk3.mono (by simp))); clear hk3)
      | ((with_reducible refine (c4 _).mono ?_); rintro e w3 ⟨rfl, hk3⟩; have K := Lib.hid (K.out.trans (hk3.mono (by simp))); clear hk3)
      | ((with_reducible refine (c6 _).mono ?_); rintro e w3 ⟨rfl, hk3⟩; have K := Lib.hid (K.out.trans (hk3.mono (by simp))); clear hk3)
      | ((with_reducible refine (kw _).mono ?_); rintro e w3 ⟨rfl, hk3⟩; have K := Lib.hid (K.out.trans (hk3.mono (by simp))); clear hk3))
    go_ret
    exact ⟨rfl, K.out⟩
  · replace c5 := c5 rfl
    obtain rfl := e2 rfl
    clear c6
    clear e1 e2
    go_enter Try.func4, Try.ntmps4
    go_wp2_with (first
      | ((with_reducible refine (c1 _).mono ?_); rintro e w' ⟨rfl, rfl⟩)
      | ((with_reducible refine (c2 _).mono ?_); rintro e w' ⟨rfl, rfl⟩)
      | ((with_reducible refine (c3 _).mono ?_); rintro e w3 ⟨rfl, hk3⟩; have K := Lib.hid (K.out.trans (hk3.mono (by simp))); clear hk3)
      | ((with_reducible refine (c4 _).mono ?_); rintro e w3 ⟨rfl, hk3⟩; have K := Lib.hid (K.out.trans (hk3.mono (by simp))); clear hk3)
      | ((with_reducible refine (c5 _).mono ?_); rintro e w3 ⟨rfl, hk3⟩; have K := Lib.hid (K.out.trans (hk3.mono (by simp))); clear hk3)
      | ((with_reducible refine (kw _).mono ?_); rintro e w3 ⟨rfl, hk3⟩; have K := Lib.hid (K.out.trans (hk3.mono (by simp))); clear hk3))
    go_ret
    exact ⟨rfl, K.out⟩
  · replace c5 := c5 rfl
    replace c6 := c6 rfl
    clear e1 e2
    go_enter Try.func4, Try.ntmps4
    go_wp2_with (first
      | ((with_reducible refine (c1 _).mono ?_); rintro e w' ⟨rfl, rfl⟩)
      | ((with_reducible refine (c2 _).mono ?_); rintro e w' ⟨rfl, rfl⟩)
      | ((with_reducible refine (c3 _).mono ?_); rintro e w3 ⟨rfl, hk3⟩; have K := Lib.hid (K.out.trans (hk3.mono (by simp))); clear hk3)
      | ((with_reducible refine (c4 _).mono ?_); rintro e w3 ⟨rfl, hk3⟩; have K := Lib.hid (K.out.trans (hk3.mono (by simp))); clear hk3)
      | ((with_reducible refine (c5 _).mono ?_); rintro e w3 ⟨rfl, hk3⟩; have K := Lib.hid (K.out.trans (hk3.mono (by simp))); clear hk3)
      | ((with_reducible refine (c6 _).mono ?_); rintro e w3 ⟨rfl, hk3⟩; have K := Lib.hid (K.out.trans (hk3.mono (by simp))); clear hk3)
      | ((with_reducible refine (kw _).mono ?_); rintro e w3 ⟨rfl, hk3⟩; have K := Lib.hid (K.out.trans (hk3.mono (by simp))); clear hk3))
    go_ret
    exact ⟨rfl, K.out⟩

theorem takes_walk (x : Nat) (k r : Int) (w : World) (hx : x < 18446744073709551616) :
    Calls Try.prog 4 #[.int .u64 x, .int .i64 k, .int .i64 r] w fun e w' => e = .returned (.bool true) ∧ Kp [] w w' :=
  takes_core x (if isR x k r true then setN x k.toNat r.toNat false else x) (if isR x k r false then setN x k.toNat r.toNat true else x) k r (isR x k r true) (isR x k r false) w
    (fun w => take_is x k r _ _ w hx rfl rfl) (fun w => give_is x k r _ _ w hx rfl rfl) (fun w => ris_is x k r true _ w hx rfl) (fun w => ris_is x k r false _ w hx rfl)
    (fun h w => rwith_int x k r false true _ w hx h (by rw [if_pos h])) (fun h w => rwith_int x k r true false _ w hx h (by rw [if_pos h]))
    (fun h => by rw [if_neg (by rw [h]; decide)]) (fun h => by rw [if_neg (by rw [h]; decide)])

end Go.Proofs.Ytdpgefagdpoobaa
