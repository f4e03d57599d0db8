/- The walks of layer bitmap: each function returns what the plain functions say. Conditions: as each theorem states them (a map's number is that of a uint64). -/
import Derived.Test.YtinkpbenmfnnhaaDoorRows
import Derived.Test.YtinkpbenmfnnhaaDoorBmC
import Derived.Test.YtinkpbenmfnnhaaDoorKeep
import Derived.WalkKit
import Derived.ProofKit
import Derived.LoopTactic
import Derived.Deep.LoopGhost
import Derived.BigQuiet
import Derived.Lib.Hide
import Derived.Laws.Bits128
namespace Go.Proofs.YtinkpbenmfnnhaaDoor.Bm
set_option linter.unusedVariables false
set_option linter.unusedSimpArgs false
open Go.RowKit

theorem shift_bit (x k : Nat) (hx : x < 18446744073709551616) : (bits .and .u64 ((x : Int) / 2 ^ k) 1 == 1) = x.testBit k := by
  have e : ((x : Int) / 2 ^ k) = ((x / 2 ^ k : Nat) : Int) := by push_cast; rfl
  have h := Nat.div_le_self x (2 ^ k)
  rw [e, show (1 : Int) = ((1 : Nat) : Int) from rfl, u64_and_nat _ _ (by omega) (by omega), nat_mask1, Nat.testBit_eq_decide_div_mod_eq]
  rw [Bool.eq_iff_iff]
  simp only [beq_iff_eq, decide_eq_true_eq]
  omega

theorem ret_bool {a b : Bool} (h : a = b) : Ending.returned (.bool a) = .returned (.bool b) := by rw [h]

theorem ret_i64 {a b : Int} (h : a = b) : Ending.returned (.int .i64 a) = .returned (.int .i64 b) := by rw [h]
theorem ret_u64 {a b : Int} (h : a = b) : Ending.returned (.int .u64 a) = .returned (.int .u64 b) := by rw [h]
theorem all_num (m : Nat) (h : m ≤ 64) : IntKind.u64.wrap (IntKind.u64.wrap (2 ^ m) - 1) = ((2 ^ m - 1 : Nat) : Int) := by
  have e : (2 : Int) ^ m = ((2 ^ m : Nat) : Int) := by push_cast; rfl
  have h1 : 2 ^ m ≤ 2 ^ 64 := Nat.pow_le_pow_right (by omega) h
  have h0 := Nat.two_pow_pos m
  rw [e, IntKind.wrap_u64, IntKind.wrap_u64]
  omega

theorem bit_at (x : Nat) (k : Int) (b : Nat) (r : Bool) (w : World) (hk : 0 ≤ k) (hk2 : k < 64) (hx : x < 18446744073709551616) (hr : x.testBit k.toNat = r) (hc : w.cell? ⟨b, 0, none⟩ = some (.int .u64 x)) :
    Calls Tryd.prog 87 #[.int .i64 k, .pointer (some ⟨b, 0, none⟩)] w fun e w' => e = .returned (.bool r) ∧ w = w' := by
  have hh := shift_bit x k.toNat hx
  rw [hr] at hh
  clear hr
  go_enter Tryd.func87, Tryd.ntmps87
  go_wp2
  go_ret
  exact ⟨rfl, rfl⟩

theorem bits_of (x : Nat) (w : World) : Calls Tryd.prog 79 #[.int .u64 x] w fun e w' => e = .returned (.func (.func 87) #[] #[.pointer (some ⟨w.heap.size, 0, none⟩)]) ∧ w.alloc (.cells #[.int .u64 x] 59) = w' := by
  go_enter Tryd.func79, Tryd.ntmps79
  go_wp2
  go_ret
  exact ⟨rfl, rfl⟩

theorem may_run (r : Int) (b : Bool) (w : World) (h : decide (1 ≤ r ∧ r ≤ 3) = b) : Calls Tryd.prog 78 #[.int .i64 r] w fun e w' => e = .returned (.bool b) ∧ w = w' := by
  have HH := Lib.hid h
  clear h
  go_enter Tryd.func78, Tryd.ntmps78
  go_wp2
  all_goals go_ret
  all_goals exact ⟨ret_bool (by rw [← HH.out, Bool.eq_iff_iff]; simp only [decide_eq_true_eq, Bool.false_eq_true]; constructor <;> intro hq <;> first | exact hq.elim | omega), rfl⟩

theorem all_is (b : Int) (n : Nat) (w : World) (hn : 2 ^ min b.toNat 64 - 1 = n) : Calls Tryd.prog 21 #[.int .i64 b] w fun e w' => e = .returned (.int .u64 n) ∧ w = w' := by
  rcases (by omega : b ≤ 0 ∨ 64 < b ∨ (0 < b ∧ b ≤ 64)) with h | h | ⟨h0, h1⟩
  · obtain rfl : n = 0 := by rw [show b.toNat = 0 from by omega] at hn; simpa using hn.symm
    have hh := all_num 0 (by omega)
    clear hn
    go_enter Tryd.func21, Tryd.ntmps21
    go_wp2
    go_ret
    exact ⟨ret_u64 hh, rfl⟩
  · obtain rfl : n = 18446744073709551615 := by rw [show min b.toNat 64 = 64 from by omega] at hn; simpa using hn.symm
    have hh := all_num 64 (by omega)
    clear hn
    go_enter Tryd.func21, Tryd.ntmps21
    go_wp2
    go_ret
    exact ⟨ret_u64 hh, rfl⟩
  · have hh := all_num b.toNat (by omega)
    rw [show min b.toNat 64 = b.toNat from by omega] at hn
    rw [hn] at hh
    clear hn
    go_enter Tryd.func21, Tryd.ntmps21
    go_wp2
    go_ret
    exact ⟨rfl, rfl⟩

/-- The blocks of a run, where there is such a run. -/
theorem span_no (k r : Int) (w : World) (h : ¬ (1 ≤ r ∧ r ≤ 3 ∧ 0 ≤ k ∧ k + r ≤ 64)) : Calls Tryd.prog 80 #[.int .i64 k, .int .i64 r] w fun e w' => e = .returned (.tuple #[.int .u64 0, .bool false]) ∧ w = w' := by
  by_cases hr : 1 ≤ r ∧ r ≤ 3
  · have km := may_run r true w (by simpa using hr)
    obtain ⟨hr1, hr2⟩ := hr
    rcases (by omega : k < 0 ∨ (0 ≤ k ∧ 64 - r < k)) with h0 | ⟨h0, h1⟩
    · clear h
      go_enter Tryd.func80, Tryd.ntmps80
      go_wp2_with ((with_reducible refine km.mono ?_); rintro e w' ⟨rfl, rfl⟩)
      go_ret2
      exact ⟨rfl, rfl⟩
    · clear h
      go_enter Tryd.func80, Tryd.ntmps80
      go_wp2_with ((with_reducible refine km.mono ?_); rintro e w' ⟨rfl, rfl⟩)
      go_ret2
      exact ⟨rfl, rfl⟩
  · have km := may_run r false w (by simpa using hr)
    clear h hr
    go_enter Tryd.func80, Tryd.ntmps80
    go_wp2_with ((with_reducible refine km.mono ?_); rintro e w' ⟨rfl, rfl⟩)
    go_ret2
    exact ⟨rfl, rfl⟩

theorem span_yes (k r : Int) (w : World) (h1 : 1 ≤ r) (h2 : r ≤ 3) (h3 : 0 ≤ k) (h4 : k + r ≤ 64) : Calls Tryd.prog 80 #[.int .i64 k, .int .i64 r] w fun e w' => e = .returned (.tuple #[.int .u64 (mk k.toNat r.toNat), .bool true]) ∧ w = w' := by
  have km := may_run r true w (by simp; omega)
  have ka := all_is r (2 ^ r.toNat - 1) w (by rw [show min r.toNat 64 = r.toNat from by omega])
  have hh : IntKind.u64.wrap (((2 ^ r.toNat - 1 : Nat) : Int) * 2 ^ k.toNat) = ((mk k.toNat r.toNat : Nat) : Int) := by
    have := mk_lt (a := k.toNat) (r := r.toNat) (by omega)
    have e : (((2 ^ r.toNat - 1 : Nat) : Int) * 2 ^ k.toNat) = ((mk k.toNat r.toNat : Nat) : Int) := by unfold mk; rw [Int.natCast_mul]; congr 1
    rw [e, IntKind.wrap_u64]; omega
  obtain ⟨n, hn⟩ : ∃ n, n = 2 ^ r.toNat - 1 := ⟨_, rfl⟩
  obtain ⟨m, hm⟩ : ∃ m, m = mk k.toNat r.toNat := ⟨_, rfl⟩
  rw [← hn] at ka hh
  rw [← hm] at hh ⊢
  clear hn hm
  go_enter Tryd.func80, Tryd.ntmps80
  go_wp2_with (first | ((with_reducible refine km.mono ?_); rintro e w' ⟨rfl, rfl⟩) | ((with_reducible refine ka.mono ?_); rintro e w' ⟨rfl, rfl⟩))
  go_ret2
  exact ⟨rfl, rfl⟩

/-- Take: the map, whether or not there is such a run, and it is free. -/
def isR (x : Nat) (k r : Int) (b : Bool) : Bool := decide (1 ≤ r ∧ r ≤ 3 ∧ 0 ≤ k ∧ k + r ≤ 64) && allN x k.toNat r.toNat b

theorem take_is (x : Nat) (k r : Int) (y : Nat) (b : Bool) (w : World) (hx : x < 18446744073709551616) (hb : isR x k r true = b) (hy : (if b then setN x k.toNat r.toNat false else x) = y) :
    Calls Tryd.prog 68 #[.int .u64 x, .int .i64 k, .int .i64 r] w fun e w' => e = .returned (.tuple #[.int .u64 y, .bool b]) ∧ w = w' := by
  by_cases h : 1 ≤ r ∧ r ≤ 3 ∧ 0 ≤ k ∧ k + r ≤ 64
  · obtain ⟨h1, h2, h3, h4⟩ := h
    have ks := span_yes k r w h1 h2 h3 h4
    have hm := mk_lt (a := k.toNat) (r := r.toNat) (by omega)
    have ha := and_mk_all (x := x) (a := k.toNat) (r := r.toNat) hx (by omega)
    have hcl := clear_eq (x := x) (a := k.toNat) (r := r.toNat) hx (by omega)
    obtain ⟨m, em⟩ : ∃ m, m = mk k.toNat r.toNat := ⟨_, rfl⟩
    rw [← em] at ks hm ha hcl
    have eand : bits .and .u64 (x : Int) (m : Int) = ((x &&& m : Nat) : Int) := u64_and_nat _ _ (by omega) (by omega)
    by_cases hf : allN x k.toNat r.toNat true = true
    · obtain rfl : b = true := by rw [← hb]; simp [isR, hf]; omega
      have e1 : bits .and .u64 (x : Int) (m : Int) = (m : Int) := by rw [eand, ha.2 hf]
      have e2 : bits .andNot .u64 (x : Int) (m : Int) = (y : Int) := by rw [u64_andNot_nat _ _ (by omega) (by omega), hcl, ← hy]; rfl
      clear hb hy eand ha hcl hm em hf
      go_enter Tryd.func68, Tryd.ntmps68
      go_wp2_with ((with_reducible refine ks.mono ?_); rintro e w' ⟨rfl, rfl⟩)
      go_ret2
      exact ⟨rfl, rfl⟩
    · obtain rfl : b = false := by rw [← hb]; simp [isR, hf]
      obtain rfl : x = y := by simpa using hy
      obtain ⟨u, hu⟩ : ∃ u, u = x &&& m := ⟨_, rfl⟩
      rw [← hu] at eand ha
      have hne : ((u : Int) != (m : Int)) = true := by
        simp only [bne_iff_ne, ne_eq]
        intro e
        exact hf (ha.1 (by omega))
      clear hb hy ha hcl hm em hf hu
      go_enter Tryd.func68, Tryd.ntmps68
      go_wp2_with ((with_reducible refine ks.mono ?_); rintro e w' ⟨rfl, rfl⟩)
      go_ret2
      exact ⟨rfl, rfl⟩
  · obtain rfl : b = false := by rw [← hb]; simp only [isR, decide_eq_false h, Bool.false_and]
    obtain rfl : x = y := by simpa using hy
    have ks := span_no k r w h
    clear hb hy h
    go_enter Tryd.func68, Tryd.ntmps68
    go_wp2_with ((with_reducible refine ks.mono ?_); rintro e w' ⟨rfl, rfl⟩)
    go_ret2
    exact ⟨rfl, rfl⟩

theorem give_is (x : Nat) (k r : Int) (y : Nat) (b : Bool) (w : World) (hx : x < 18446744073709551616) (hb : isR x k r false = b) (hy : (if b then setN x k.toNat r.toNat true else x) = y) :
    Calls Tryd.prog 82 #[.int .u64 x, .int .i64 k, .int .i64 r] w fun e w' => e = .returned (.tuple #[.int .u64 y, .bool b]) ∧ w = w' := by
  by_cases h : 1 ≤ r ∧ r ≤ 3 ∧ 0 ≤ k ∧ k + r ≤ 64
  · obtain ⟨h1, h2, h3, h4⟩ := h
    have ks := span_yes k r w h1 h2 h3 h4
    have hm := mk_lt (a := k.toNat) (r := r.toNat) (by omega)
    have ha := and_mk_none (x := x) (a := k.toNat) (r := r.toNat) hx (by omega)
    have hcl := put_eq (x := x) (a := k.toNat) (r := r.toNat) hx (by omega)
    obtain ⟨m, em⟩ : ∃ m, m = mk k.toNat r.toNat := ⟨_, rfl⟩
    rw [← em] at ks hm ha hcl
    have eand : bits .and .u64 (x : Int) (m : Int) = ((x &&& m : Nat) : Int) := u64_and_nat _ _ (by omega) (by omega)
    by_cases hf : allN x k.toNat r.toNat false = true
    · obtain rfl : b = true := by rw [← hb]; simp [isR, hf]; omega
      have e1 : bits .and .u64 (x : Int) (m : Int) = 0 := by rw [eand, ha.2 hf]; rfl
      have e2 : bits .or .u64 (x : Int) (m : Int) = (y : Int) := by rw [u64_or_nat _ _ (by omega) (by omega), hcl, ← hy]; rfl
      clear hb hy eand ha hcl hm em hf
      go_enter Tryd.func82, Tryd.ntmps82
      go_wp2_with ((with_reducible refine ks.mono ?_); rintro e w' ⟨rfl, rfl⟩)
      go_ret2
      exact ⟨rfl, rfl⟩
    · obtain rfl : b = false := by rw [← hb]; simp [isR, hf]
      obtain rfl : x = y := by simpa using hy
      obtain ⟨u, hu⟩ : ∃ u, u = x &&& m := ⟨_, rfl⟩
      rw [← hu] at eand ha
      have hne : ((u : Int) != 0) = true := by
        simp only [bne_iff_ne, ne_eq]
        intro e
        exact hf (ha.1 (by omega))
      clear hb hy ha hcl hm em hf hu
      go_enter Tryd.func82, Tryd.ntmps82
      go_wp2_with ((with_reducible refine ks.mono ?_); rintro e w' ⟨rfl, rfl⟩)
      go_ret2
      exact ⟨rfl, rfl⟩
  · obtain rfl : b = false := by rw [← hb]; simp only [isR, decide_eq_false h, Bool.false_and]
    obtain rfl : x = y := by simpa using hy
    have ks := span_no k r w h
    clear hb hy h
    go_enter Tryd.func82, Tryd.ntmps82
    go_wp2_with ((with_reducible refine ks.mono ?_); rintro e w' ⟨rfl, rfl⟩)
    go_ret2
    exact ⟨rfl, rfl⟩

end Go.Proofs.YtinkpbenmfnnhaaDoor.Bm
