/- Plain facts on a map's bits: a number by its bits; a run of blocks; the least one that is free; how many are. Nothing here speaks of the program. Conditions: as each lemma states them. Plain facts: the sum of a number's bits, by halves, pairs, nibbles and bytes. Nothing here speaks of the program. Conditions: the number is below 2^64. Worlds in which only some blocks may have turned, of whatever program: 'Kp S w w2': of the blocks that w has, none but those on the list S holds other than it held. And a block that is known whole. Conditions: none. The walks of layer bitmap: each function returns what the plain functions say. Conditions: as each theorem states them (a map's number is that of a uint64). The walk of Find: a labelled loop. Plain facts on a table entry's numbers and bits; nothing here speaks of the program. Conditions: as each lemma states them. Plain facts on blocks that are claimed and given back: the map's number, the entries' words, the arena's words of both. Conditions: none beyond the theorems' own. The arena as the walks hold it: a struct's block that leads to a row of words. The walks of package arena: touch, Update (by whatever closure), New, Len, Touched, Last, and all of them at nil. The walks of package arena, further: the closures, Update by a closure that writes nothing, Read, Write; and what 'wakes' asks. The frame of a law's proof, of whatever program: where a law's walk returns true and turns nothing below the heap's old size, what the row asks behind the call is so. Conditions: the arguments' types can be read and are rows of the table; no variable is named. Conditions: as each theorem states them. -/
import Derived.Laws.BitsAllLaws
import Derived.Laws.Bits64
import Derived.Below
import Derived.WalkKit
import Derived.Laws.Rows
import Derived.Laws.CopyRow
import Derived.Laws.MakeOwn
import Derived.Laws.OwnMore
import Derived.Test.YticbnckikkdknaaGreatDoorRows
import Derived.ProofKit
import Derived.LoopTactic
import Derived.Deep.LoopGhost
import Derived.BigQuiet
import Derived.Lib.Hide
import Derived.Laws.Bits128
import Derived.WalkSpells
import Derived.WalkLawsBesides
import Derived.Defers
import Derived.Recover
import Derived.RegionTactic
import Derived.Handy
import Derived.Carry
import Derived.ChangeOld
import Derived.Deep.Draws
import Derived.Laws.ResultCell
namespace Go.Proofs.YticbnckikkdknaaGreatDoor.Bm
set_option linter.unusedVariables false
set_option linter.unusedSimpArgs false
open Go

/-- The number whose bits are f k, f (k + 1), .. (m of them). -/
def wv (f : Nat → Bool) : Nat → Nat → Nat
  | _, 0 => 0
  | k, m + 1 => (f k).toNat + 2 * wv f (k + 1) m

theorem wv_lt (f : Nat → Bool) : ∀ m k, wv f k m < 2 ^ m
  | 0, k => by simp [wv]
  | m + 1, k => by
    have := wv_lt f m (k + 1)
    have : (f k).toNat ≤ 1 := Bool.toNat_le _
    simp only [wv, Nat.pow_succ]; omega

theorem wv_bit (f : Nat → Bool) : ∀ m k i, (wv f k m).testBit i = (decide (i < m) && f (k + i))
  | 0, k, i => by simp [wv]
  | m + 1, k, 0 => by
    simp only [wv, Nat.testBit_zero]
    cases f k <;> simp <;> omega
  | m + 1, k, i + 1 => by
    have h : ((f k).toNat + 2 * wv f (k + 1) m) / 2 = wv f (k + 1) m := by
      have : (f k).toNat ≤ 1 := Bool.toNat_le _
      omega
    simp only [wv, Nat.testBit_succ, h, wv_bit f m (k + 1) i]
    have : k + 1 + i = k + (i + 1) := by omega
    simp [this]

theorem eq_of_bits {x y : Nat} (hx : x < 2 ^ 64) (hy : y < 2 ^ 64) (h : ∀ i, i < 64 → x.testBit i = y.testBit i) : x = y := by
  apply Nat.eq_of_testBit_eq
  intro i
  by_cases hi : i < 64
  · exact h i hi
  · have e : 2 ^ 64 ≤ 2 ^ i := Nat.pow_le_pow_right (by omega) (by omega)
    rw [Nat.testBit_lt_two_pow (Nat.lt_of_lt_of_le hx e), Nat.testBit_lt_two_pow (Nat.lt_of_lt_of_le hy e)]

theorem wv_of {x : Nat} {f : Nat → Bool} (h : x < 2 ^ 64) (hf : ∀ i, i < 64 → f i = x.testBit i) : wv f 0 64 = x :=
  eq_of_bits (wv_lt f 64 0) h (fun i hi => by rw [wv_bit]; simp [hi, hf i hi])

/-- The map with the blocks a .. a + r - 1 free, or none of them. -/
def setN (x a r : Nat) (b : Bool) : Nat := wv (fun i => if a ≤ i ∧ i < a + r then b else x.testBit i) 0 64
theorem setN_bit (x a r : Nat) (b : Bool) (i : Nat) (hi : i < 64) : (setN x a r b).testBit i = if a ≤ i ∧ i < a + r then b else x.testBit i := by
  rw [setN, wv_bit]; simp [hi]
theorem setN_lt (x a r : Nat) (b : Bool) : setN x a r b < 2 ^ 64 := wv_lt _ _ _

/-- The blocks a .. a + r - 1 alone. -/
def mk (a r : Nat) : Nat := (2 ^ r - 1) * 2 ^ a
theorem mk_bit (a r i : Nat) : (mk a r).testBit i = decide (a ≤ i ∧ i < a + r) := by
  rw [mk, Nat.testBit_mul_two_pow, Nat.testBit_two_pow_sub_one]
  by_cases h : a ≤ i
  · simp [h]; omega
  · simp [h]
theorem mk_lt {a r : Nat} (h : a + r ≤ 64) : mk a r < 2 ^ 64 := by
  have h1 : 2 ^ (a + r) ≤ 2 ^ 64 := Nat.pow_le_pow_right (by omega) h
  have h2 : 0 < 2 ^ a := Nat.two_pow_pos a
  have h3 : 2 ^ (a + r) = 2 ^ r * 2 ^ a := by rw [Nat.add_comm, Nat.pow_add]
  have h4 : (2 ^ r - 1) * 2 ^ a < 2 ^ r * 2 ^ a := Nat.mul_lt_mul_of_pos_right (by have := Nat.two_pow_pos r; omega) h2
  unfold mk; omega

/-- Are all blocks of a run free (none)? -/
def allN (x a r : Nat) (b : Bool) : Bool := decide (∀ i, i < r → x.testBit (a + i) = b)
theorem allN_iff {x a r : Nat} {b : Bool} : allN x a r b = true ↔ ∀ i, a ≤ i → i < a + r → x.testBit i = b := by
  simp only [allN, decide_eq_true_eq]
  constructor
  · intro h i h1 h2
    have := h (i - a) (by omega)
    rwa [show a + (i - a) = i from by omega] at this
  · intro h i hi
    exact h (a + i) (by omega) (by omega)

theorem and_mk_all {x a r : Nat} (hx : x < 2 ^ 64) (h : a + r ≤ 64) : (x &&& mk a r = mk a r) ↔ allN x a r true = true := by
  rw [allN_iff]
  constructor
  · intro e i h1 h2
    have := congrArg (fun n => Nat.testBit n i) e
    simp only [Nat.testBit_and, mk_bit] at this
    simpa [h1, h2] using this
  · intro hh
    apply Nat.eq_of_testBit_eq
    intro i
    rw [Nat.testBit_and, mk_bit]
    by_cases hi : a ≤ i ∧ i < a + r
    · simp [hi, hh i hi.1 hi.2]
    · simp [hi]
theorem and_mk_none {x a r : Nat} (hx : x < 2 ^ 64) (h : a + r ≤ 64) : (x &&& mk a r = 0) ↔ allN x a r false = true := by
  rw [allN_iff]
  constructor
  · intro e i h1 h2
    have := congrArg (fun n => Nat.testBit n i) e
    simp only [Nat.testBit_and, mk_bit] at this
    simpa [h1, h2] using this
  · intro hh
    apply Nat.eq_of_testBit_eq
    intro i
    rw [Nat.testBit_and, mk_bit]
    by_cases hi : a ≤ i ∧ i < a + r
    · simp [hi, hh i hi.1 hi.2]
    · simp [hi]
theorem not_bit {y : Nat} (hy : y < 2 ^ 64) {i : Nat} (hi : i < 64) : (18446744073709551615 - y).testBit i = !y.testBit i := by
  have := Nat.testBit_two_pow_sub_succ (n := 64) (x := y) (by simpa using hy) i
  rw [show (18446744073709551615 - y) = 2 ^ 64 - (y + 1) from by omega, this]
  simp [hi]
theorem clear_eq {x a r : Nat} (hx : x < 2 ^ 64) (h : a + r ≤ 64) : x &&& (18446744073709551615 - mk a r) = setN x a r false := by
  refine eq_of_bits (Nat.lt_of_le_of_lt Nat.and_le_left hx) (setN_lt _ _ _ _) fun i hi => ?_
  rw [setN_bit _ _ _ _ _ hi, Nat.testBit_and, not_bit (mk_lt h) hi, mk_bit]
  by_cases c : a ≤ i ∧ i < a + r
  · simp [c]
  · simp [c]
theorem put_eq {x a r : Nat} (hx : x < 2 ^ 64) (h : a + r ≤ 64) : x ||| mk a r = setN x a r true := by
  refine eq_of_bits (Nat.or_lt_two_pow hx (mk_lt h)) (setN_lt _ _ _ _) fun i hi => ?_
  rw [setN_bit _ _ _ _ _ hi, Nat.testBit_or, mk_bit]
  by_cases c : a ≤ i ∧ i < a + r
  · simp [c]
  · simp [c]

end Go.Proofs.YticbnckikkdknaaGreatDoor.Bm

namespace Go.Proofs.YticbnckikkdknaaGreatDoor.Bm
set_option linter.unusedVariables false
set_option linter.unusedSimpArgs false
open Go

/-- A number's n lowest bytes, each turned by f. -/
def mapB (f : Nat → Nat) : Nat → Nat → Nat
  | 0, _ => 0
  | n + 1, x => f (x % 256) + 256 * mapB f n (x / 256)

def f1 (a : Nat) : Nat := (a / 2 &&& 85) + (a &&& 85)
def f2 (a : Nat) : Nat := (a / 4 &&& 51) + (a &&& 51)
def f3 (a : Nat) : Nat := (a / 16 + a) % 16
/-- Behind the third step: the bytes' counts. -/
def cb (x : Nat) : Nat := mapB (fun a => f3 (f2 (f1 a))) 8 x
end Go.Proofs.YticbnckikkdknaaGreatDoor.Bm

namespace Go.Proofs.YticbnckikkdknaaGreatDoor
set_option linter.unusedVariables false
open Go.RowKit

structure Kp (S : List Nat) (w w' : World) : Prop where
  os : w'.os = w.os
  tape : w'.tape = w.tape
  output : w'.output = w.output
  size : w.heap.size ≤ w'.heap.size
  block : ∀ k, k < w.heap.size → k ∉ S → w'.heap[k]? = w.heap[k]?

theorem Kp.refl (S : List Nat) (w : World) : Kp S w w := ⟨rfl, rfl, rfl, Nat.le_refl _, fun _ _ _ => rfl⟩
theorem Kp.trans {S : List Nat} {a b c : World} (h : Kp S a b) (k : Kp S b c) : Kp S a c :=
  ⟨k.os.trans h.os, k.tape.trans h.tape, k.output.trans h.output, Nat.le_trans h.size k.size, fun i hi hn => (k.block i (Nat.lt_of_lt_of_le hi h.size) hn).trans (h.block i hi hn)⟩
theorem Kp.mono {S T : List Nat} {w w' : World} (h : Kp S w w') (hs : ∀ x ∈ S, x < w.heap.size → x ∈ T) : Kp T w w' :=
  ⟨h.os, h.tape, h.output, h.size, fun k hk hn => h.block k hk (fun e => hn (hs k e hk))⟩
theorem Kp.alloc {S : List Nat} {a w : World} (h : Kp S a w) (o : Obj) : Kp S a (w.alloc o) :=
  h.trans ⟨rfl, rfl, rfl, by simp, fun k hk _ => Below.heap_alloc _ _ _ hk⟩
theorem Kp.drew {S : List Nat} {a w : World} (h : Kp S a w) : Kp S a w.drew := ⟨h.os, h.tape, h.output, h.size, h.block⟩
theorem Kp.drew_l {S : List Nat} {a w : World} (h : Kp S a.drew w) : Kp S a w := ⟨h.os, h.tape, h.output, h.size, h.block⟩
theorem Kp.setCell {S : List Nat} {a w : World} (h : Kp S a w) {p : Addr} (hp : p.block ∈ S ∨ a.heap.size ≤ p.block) (u : Value) : Kp S a (w.setCell p u) :=
  ⟨h.os, h.tape, h.output, by simpa [World.setCell] using h.size, fun k hk hn => (Below.heap_setCell _ _ _ _ (by
    intro e
    rcases hp with hp | hp
    · exact hn (e ▸ hp)
    · omega)).trans (h.block k hk hn)⟩
theorem Kp.setRow {S : List Nat} {a w : World} (h : Kp S a w) {g : Nat} (hp : g ∈ S ∨ a.heap.size ≤ g) (cs : Array Value) : Kp S a (w.setRow g cs) :=
  ⟨h.os, h.tape, h.output, by simpa using h.size, fun k hk hn => (setRow_other w g k cs (by
    intro e
    rcases hp with hp | hp
    · exact hn (e ▸ hp)
    · omega)).trans (h.block k hk hn)⟩
theorem Kp.grown {S : List Nat} {a w w' : World} {row : Option Nat} (h : Kp S a w) (hg : w.grownBy w' row) (hr : ∀ k, row = some k → k ∈ S ∨ a.heap.size ≤ k) : Kp S a w' :=
  ⟨hg.os.trans h.os, hg.tape.trans h.tape, hg.output.trans h.output, Nat.le_trans h.size hg.size, fun k hk hn => (hg.block k (Nat.lt_of_lt_of_le hk h.size) (fun e => by
    rcases hr k e.symm with q | q
    · exact hn q
    · omega)).trans (h.block k hk hn)⟩
theorem Kp.below {S : List Nat} {w w' : World} {B : Nat} (h : Kp S w w') (hB : B ≤ w.heap.size) (hS : ∀ x ∈ S, B ≤ x) : Below B w w' :=
  ⟨h.os, h.tape, h.output, h.size, fun k hk => h.block k (Nat.lt_of_lt_of_le hk hB) (fun e => by have := hS k e; omega)⟩
theorem kp_of_below {w w' : World} (h : Below w.heap.size w w') : Kp [] w w' := ⟨h.os, h.tape, h.output, h.size, fun k hk _ => h.block k hk⟩
theorem Kp.to_below {w w' : World} (h : Kp [] w w') : Below w.heap.size w w' := h.below (Nat.le_refl _) (by simp)

theorem Kp.row {S : List Nat} {w w' : World} (h : Kp S w w') {g : Nat} (hn : g ∉ S) {o : Obj} (ho : w.heap[g]? = some o) : w'.heap[g]? = some o := (h.block g (lt_of_block ho) hn).trans ho

/-- A block that is known whole: its cells, and that none is frozen. -/
theorem cell_of_row {w : World} {b : Nat} {cs : Array Value} {t : TypeId} (h : w.heap[b]? = some (.cells cs t (0, 0))) (i : Nat) : w.cell? ⟨b, i, none⟩ = cs[i]? := by simp [World.cell?, h]
theorem free_of_row {w : World} {b : Nat} {cs : Array Value} {t : TypeId} (h : w.heap[b]? = some (.cells cs t (0, 0))) (i : Nat) : w.frozen? ⟨b, i, none⟩ = false := by simp [World.frozen?, h]

end Go.Proofs.YticbnckikkdknaaGreatDoor

namespace Go.Proofs.YticbnckikkdknaaGreatDoor.Bm
set_option linter.unusedVariables false
set_option linter.unusedSimpArgs false
open Go.RowKit

theorem shift_bit (x k : Nat) (hx : x < 18446744073709551616) : (bits .and .u64 ((x : Int) / 2 ^ k) 1 == 1) = x.testBit k := by
  have e : ((x : Int) / 2 ^ k) = ((x / 2 ^ k : Nat) : Int) := by push_cast; rfl
  have h := Nat.div_le_self x (2 ^ k)
  rw [e, show (1 : Int) = ((1 : Nat) : Int) from rfl, u64_and_nat _ _ (by omega) (by omega), nat_mask1, Nat.testBit_eq_decide_div_mod_eq]
  rw [Bool.eq_iff_iff]
  simp only [beq_iff_eq, decide_eq_true_eq]
  omega

theorem ret_bool {a b : Bool} (h : a = b) : Ending.returned (.bool a) = .returned (.bool b) := by rw [h]

theorem ret_u64 {a b : Int} (h : a = b) : Ending.returned (.int .u64 a) = .returned (.int .u64 b) := by rw [h]
theorem all_num (m : Nat) (h : m ≤ 64) : IntKind.u64.wrap (IntKind.u64.wrap (2 ^ m) - 1) = ((2 ^ m - 1 : Nat) : Int) := by
  have e : (2 : Int) ^ m = ((2 ^ m : Nat) : Int) := by push_cast; rfl
  have h1 : 2 ^ m ≤ 2 ^ 64 := Nat.pow_le_pow_right (by omega) h
  have h0 := Nat.two_pow_pos m
  rw [e, IntKind.wrap_u64, IntKind.wrap_u64]
  omega

theorem bit_at (x : Nat) (k : Int) (b : Nat) (r : Bool) (w : World) (hk : 0 ≤ k) (hk2 : k < 64) (hx : x < 18446744073709551616) (hr : x.testBit k.toNat = r) (hc : w.cell? ⟨b, 0, none⟩ = some (.int .u64 x)) :
    Calls Tryz.prog 181 #[.int .i64 k, .pointer (some ⟨b, 0, none⟩)] w fun e w' => e = .returned (.bool r) ∧ w = w' := by
  have hh := shift_bit x k.toNat hx
  rw [hr] at hh
  clear hr
  go_enter Tryz.func181, Tryz.ntmps181
  go_wp2
  go_ret
  exact ⟨rfl, rfl⟩

theorem bits_of (x : Nat) (w : World) : Calls Tryz.prog 180 #[.int .u64 x] w fun e w' => e = .returned (.func (.func 181) #[] #[.pointer (some ⟨w.heap.size, 0, none⟩)]) ∧ w.alloc (.cells #[.int .u64 x] 57) = w' := by
  go_enter Tryz.func180, Tryz.ntmps180
  go_wp2
  go_ret
  exact ⟨rfl, rfl⟩

theorem may_run (r : Int) (b : Bool) (w : World) (h : decide (1 ≤ r ∧ r ≤ 3) = b) : Calls Tryz.prog 174 #[.int .i64 r] w fun e w' => e = .returned (.bool b) ∧ w = w' := by
  have HH := Lib.hid h
  clear h
  go_enter Tryz.func174, Tryz.ntmps174
  go_wp2
  all_goals go_ret
  all_goals exact ⟨ret_bool (by rw [← HH.out, Bool.eq_iff_iff]; simp only [decide_eq_true_eq, Bool.false_eq_true]; constructor <;> intro hq <;> first | exact hq.elim | omega), rfl⟩

theorem all_is (b : Int) (n : Nat) (w : World) (hn : 2 ^ min b.toNat 64 - 1 = n) : Calls Tryz.prog 91 #[.int .i64 b] w fun e w' => e = .returned (.int .u64 n) ∧ w = w' := by
  rcases (by omega : b ≤ 0 ∨ 64 < b ∨ (0 < b ∧ b ≤ 64)) with h | h | ⟨h0, h1⟩
  · obtain rfl : n = 0 := by rw [show b.toNat = 0 from by omega] at hn; simpa using hn.symm
    have hh := all_num 0 (by omega)
    clear hn
    go_enter Tryz.func91, Tryz.ntmps91
    go_wp2
    go_ret
    exact ⟨ret_u64 hh, rfl⟩
  · obtain rfl : n = 18446744073709551615 := by rw [show min b.toNat 64 = 64 from by omega] at hn; simpa using hn.symm
    have hh := all_num 64 (by omega)
    clear hn
    go_enter Tryz.func91, Tryz.ntmps91
    go_wp2
    go_ret
    exact ⟨ret_u64 hh, rfl⟩
  · have hh := all_num b.toNat (by omega)
    rw [show min b.toNat 64 = b.toNat from by omega] at hn
    rw [hn] at hh
    clear hn
    go_enter Tryz.func91, Tryz.ntmps91
    go_wp2
    go_ret
    exact ⟨rfl, rfl⟩

/-- The blocks of a run, where there is such a run. -/
theorem span_no (k r : Int) (w : World) (h : ¬ (1 ≤ r ∧ r ≤ 3 ∧ 0 ≤ k ∧ k + r ≤ 64)) : Calls Tryz.prog 162 #[.int .i64 k, .int .i64 r] w fun e w' => e = .returned (.tuple #[.int .u64 0, .bool false]) ∧ w = w' := by
  by_cases hr : 1 ≤ r ∧ r ≤ 3
  · have km := may_run r true w (by simpa using hr)
    obtain ⟨hr1, hr2⟩ := hr
    rcases (by omega : k < 0 ∨ (0 ≤ k ∧ 64 - r < k)) with h0 | ⟨h0, h1⟩
    · clear h
      go_enter Tryz.func162, Tryz.ntmps162
      go_wp2_with ((with_reducible refine km.mono ?_); rintro e w' ⟨rfl, rfl⟩)
      go_ret2
      exact ⟨rfl, rfl⟩
    · clear h
      go_enter Tryz.func162, Tryz.ntmps162
      go_wp2_with ((with_reducible refine km.mono ?_); rintro e w' ⟨rfl, rfl⟩)
      go_ret2
      exact ⟨rfl, rfl⟩
  · have km := may_run r false w (by simpa using hr)
    clear h hr
    go_enter Tryz.func162, Tryz.ntmps162
    go_wp2_with ((with_reducible refine km.mono ?_); rintro e w' ⟨rfl, rfl⟩)
    go_ret2
    exact ⟨rfl, rfl⟩

theorem span_yes (k r : Int) (w : World) (h1 : 1 ≤ r) (h2 : r ≤ 3) (h3 : 0 ≤ k) (h4 : k + r ≤ 64) : Calls Tryz.prog 162 #[.int .i64 k, .int .i64 r] w fun e w' => e = .returned (.tuple #[.int .u64 (mk k.toNat r.toNat), .bool true]) ∧ w = w' := by
  have km := may_run r true w (by simp; omega)
  have ka := all_is r (2 ^ r.toNat - 1) w (by rw [show min r.toNat 64 = r.toNat from by omega])
  have hh : IntKind.u64.wrap (((2 ^ r.toNat - 1 : Nat) : Int) * 2 ^ k.toNat) = ((mk k.toNat r.toNat : Nat) : Int) := by
    have := mk_lt (a := k.toNat) (r := r.toNat) (by omega)
    have e : (((2 ^ r.toNat - 1 : Nat) : Int) * 2 ^ k.toNat) = ((mk k.toNat r.toNat : Nat) : Int) := by unfold mk; rw [Int.natCast_mul]; congr 1
    rw [e, IntKind.wrap_u64]; omega
  obtain ⟨n, hn⟩ : ∃ n, n = 2 ^ r.toNat - 1 := ⟨_, rfl⟩
  obtain ⟨m, hm⟩ : ∃ m, m = mk k.toNat r.toNat := ⟨_, rfl⟩
  rw [← hn] at ka hh
  rw [← hm] at hh ⊢
  clear hn hm
  go_enter Tryz.func162, Tryz.ntmps162
  go_wp2_with (first | ((with_reducible refine km.mono ?_); rintro e w' ⟨rfl, rfl⟩) | ((with_reducible refine ka.mono ?_); rintro e w' ⟨rfl, rfl⟩))
  go_ret2
  exact ⟨rfl, rfl⟩

/-- Take: the map, whether or not there is such a run, and it is free. -/
def isR (x : Nat) (k r : Int) (b : Bool) : Bool := decide (1 ≤ r ∧ r ≤ 3 ∧ 0 ≤ k ∧ k + r ≤ 64) && allN x k.toNat r.toNat b

theorem take_is (x : Nat) (k r : Int) (y : Nat) (b : Bool) (w : World) (hx : x < 18446744073709551616) (hb : isR x k r true = b) (hy : (if b then setN x k.toNat r.toNat false else x) = y) :
    Calls Tryz.prog 177 #[.int .u64 x, .int .i64 k, .int .i64 r] w fun e w' => e = .returned (.tuple #[.int .u64 y, .bool b]) ∧ w = w' := by
  by_cases h : 1 ≤ r ∧ r ≤ 3 ∧ 0 ≤ k ∧ k + r ≤ 64
  · obtain ⟨h1, h2, h3, h4⟩ := h
    have ks := span_yes k r w h1 h2 h3 h4
    have hm := mk_lt (a := k.toNat) (r := r.toNat) (by omega)
    have ha := and_mk_all (x := x) (a := k.toNat) (r := r.toNat) hx (by omega)
    have hcl := clear_eq (x := x) (a := k.toNat) (r := r.toNat) hx (by omega)
    obtain ⟨m, em⟩ : ∃ m, m = mk k.toNat r.toNat := ⟨_, rfl⟩
    rw [← em] at ks hm ha hcl
    have eand : bits .and .u64 (x : Int) (m : Int) = ((x &&& m : Nat) : Int) := u64_and_nat _ _ (by omega) (by omega)
    by_cases hf : allN x k.toNat r.toNat true = true
    · obtain rfl : b = true := by rw [← hb]; simp [isR, hf]; omega
      have e1 : bits .and .u64 (x : Int) (m : Int) = (m : Int) := by rw [eand, ha.2 hf]
      have e2 : bits .andNot .u64 (x : Int) (m : Int) = (y : Int) := by rw [u64_andNot_nat _ _ (by omega) (by omega), hcl, ← hy]; rfl
      clear hb hy eand ha hcl hm em hf
      go_enter Tryz.func177, Tryz.ntmps177
      go_wp2_with ((with_reducible refine ks.mono ?_); rintro e w' ⟨rfl, rfl⟩)
      go_ret2
      exact ⟨rfl, rfl⟩
    · obtain rfl : b = false := by rw [← hb]; simp [isR, hf]
      obtain rfl : x = y := by simpa using hy
      obtain ⟨u, hu⟩ : ∃ u, u = x &&& m := ⟨_, rfl⟩
      rw [← hu] at eand ha
      have hne : ((u : Int) != (m : Int)) = true := by
        simp only [bne_iff_ne, ne_eq]
        intro e
        exact hf (ha.1 (by omega))
      clear hb hy ha hcl hm em hf hu
      go_enter Tryz.func177, Tryz.ntmps177
      go_wp2_with ((with_reducible refine ks.mono ?_); rintro e w' ⟨rfl, rfl⟩)
      go_ret2
      exact ⟨rfl, rfl⟩
  · obtain rfl : b = false := by rw [← hb]; simp only [isR, decide_eq_false h, Bool.false_and]
    obtain rfl : x = y := by simpa using hy
    have ks := span_no k r w h
    clear hb hy h
    go_enter Tryz.func177, Tryz.ntmps177
    go_wp2_with ((with_reducible refine ks.mono ?_); rintro e w' ⟨rfl, rfl⟩)
    go_ret2
    exact ⟨rfl, rfl⟩

theorem give_is (x : Nat) (k r : Int) (y : Nat) (b : Bool) (w : World) (hx : x < 18446744073709551616) (hb : isR x k r false = b) (hy : (if b then setN x k.toNat r.toNat true else x) = y) :
    Calls Tryz.prog 148 #[.int .u64 x, .int .i64 k, .int .i64 r] w fun e w' => e = .returned (.tuple #[.int .u64 y, .bool b]) ∧ w = w' := by
  by_cases h : 1 ≤ r ∧ r ≤ 3 ∧ 0 ≤ k ∧ k + r ≤ 64
  · obtain ⟨h1, h2, h3, h4⟩ := h
    have ks := span_yes k r w h1 h2 h3 h4
    have hm := mk_lt (a := k.toNat) (r := r.toNat) (by omega)
    have ha := and_mk_none (x := x) (a := k.toNat) (r := r.toNat) hx (by omega)
    have hcl := put_eq (x := x) (a := k.toNat) (r := r.toNat) hx (by omega)
    obtain ⟨m, em⟩ : ∃ m, m = mk k.toNat r.toNat := ⟨_, rfl⟩
    rw [← em] at ks hm ha hcl
    have eand : bits .and .u64 (x : Int) (m : Int) = ((x &&& m : Nat) : Int) := u64_and_nat _ _ (by omega) (by omega)
    by_cases hf : allN x k.toNat r.toNat false = true
    · obtain rfl : b = true := by rw [← hb]; simp [isR, hf]; omega
      have e1 : bits .and .u64 (x : Int) (m : Int) = 0 := by rw [eand, ha.2 hf]; rfl
      have e2 : bits .or .u64 (x : Int) (m : Int) = (y : Int) := by rw [u64_or_nat _ _ (by omega) (by omega), hcl, ← hy]; rfl
      clear hb hy eand ha hcl hm em hf
      go_enter Tryz.func148, Tryz.ntmps148
      go_wp2_with ((with_reducible refine ks.mono ?_); rintro e w' ⟨rfl, rfl⟩)
      go_ret2
      exact ⟨rfl, rfl⟩
    · obtain rfl : b = false := by rw [← hb]; simp [isR, hf]
      obtain rfl : x = y := by simpa using hy
      obtain ⟨u, hu⟩ : ∃ u, u = x &&& m := ⟨_, rfl⟩
      rw [← hu] at eand ha
      have hne : ((u : Int) != 0) = true := by
        simp only [bne_iff_ne, ne_eq]
        intro e
        exact hf (ha.1 (by omega))
      clear hb hy ha hcl hm em hf hu
      go_enter Tryz.func148, Tryz.ntmps148
      go_wp2_with ((with_reducible refine ks.mono ?_); rintro e w' ⟨rfl, rfl⟩)
      go_ret2
      exact ⟨rfl, rfl⟩
  · obtain rfl : b = false := by rw [← hb]; simp only [isR, decide_eq_false h, Bool.false_and]
    obtain rfl : x = y := by simpa using hy
    have ks := span_no k r w h
    clear hb hy h
    go_enter Tryz.func148, Tryz.ntmps148
    go_wp2_with ((with_reducible refine ks.mono ?_); rintro e w' ⟨rfl, rfl⟩)
    go_ret2
    exact ⟨rfl, rfl⟩

end Go.Proofs.YticbnckikkdknaaGreatDoor.Bm

namespace Go.Proofs.YticbnckikkdknaaGreatDoor.Bm
set_option linter.unusedVariables false
set_option linter.unusedSimpArgs false
open Go.RowKit

/-- Block k is the least one at which a run is free. -/
def Least (x : Nat) (r : Nat) (k : Nat) : Prop := k + r ≤ 64 ∧ allN x k r true = true ∧ ∀ j, j < k → allN x j r true = false
def NoRun (x : Nat) (r : Nat) : Prop := ∀ j, j + r ≤ 64 → allN x j r true = false

theorem find_walk (x : Nat) (r : Nat) (w : World) (hx : x < 18446744073709551616) (h1 : 1 ≤ r) (h3 : r ≤ 3) (o : Int) (b : Bool)
    (hyes : ∀ k : Nat, Least x r k → o = k ∧ b = true) (hno : NoRun x r → o = 0 ∧ b = false) :
    Calls Tryz.prog 176 #[.int .u64 x, .int .i64 r] w fun e w' => e = .returned (.tuple #[.int .i64 o, .bool b]) ∧ Kp [] w w' := by
  have km := may_run r true w (by simp; omega)
  have kb := bits_of x w
  have HY := Lib.hid hyes
  have HN := Lib.hid hno
  have hcell : (w.alloc (.cells #[.int .u64 x] 57)).cell? ⟨w.heap.size, 0, none⟩ = some (.int .u64 x) := by simp
  have kc : ∀ (i : Int) (q : Bool), 0 ≤ i → i < 64 → x.testBit i.toNat = q → _ := fun i q i0 i1 hq => bit_at x i w.heap.size q (w.alloc (.cells #[.int .u64 x] 57)) i0 i1 hx hq hcell
  have KC := Lib.hid kc
  clear hyes hno kc
  go_enter Tryz.func176, Tryz.ntmps176
  go_wp2
  go_step3
  go_wp2_with (first | ((with_reducible refine km.mono ?_); rintro e w' ⟨rfl, rfl⟩) | ((with_reducible refine kb.mono ?_); rintro e w' ⟨rfl, rfl⟩))
  clear km kb
  go_step3
  go_wp2
  go_loopg [17] (65 - r) (fun g i wr => ∃ k : Nat, k + g = 65 - r ∧ i = .int .i64 k ∧ Hid (∀ j, j < k → allN x j r true = false) ∧ wr = w.alloc (.cells #[.int .u64 x] 57))
  case atStart => exact ⟨0, by omega, rfl, fun j hj => absurd hj (by omega), rfl⟩
  case round =>
    obtain ⟨k, hkg, rfl, HB, rfl⟩ := hrel
    by_cases hk : k < 65 - r
    · have hgo : (k : Int) < 64 - r + 1 := by omega
      obtain ⟨G, hG⟩ : ∃ G, G + 1 = gk := ⟨65 - r - k - 1, by omega⟩
      go_wp2
      go_loopg [21] r (fun g i wr => ∃ j : Nat, j + g = r ∧ i = .int .i64 j ∧ Hid (∀ i, i < j → x.testBit (k + i) = true) ∧ wr = w.alloc (.cells #[.int .u64 x] 57))
      case atStart => exact ⟨0, by omega, rfl, fun j hj => absurd hj (by omega), rfl⟩
      case round =>
        obtain ⟨j, hjg, rfl, HI, rfl⟩ := hrel
        by_cases hj : j < r
        · cases hq : x.testBit (k + j)
          · have cc := KC.out (k + j) false (by omega) (by omega) (by rw [← hq]; congr 1)
            have HQ := Lib.hid hq
            clear hq
            go_wp2_with ((with_reducible refine cc.mono ?_); rintro e w' ⟨rfl, rfl⟩)
            go_roundg G
            case rel =>
              refine ⟨k + 1, by omega, by go_num, fun i hi => ?_, rfl⟩
              by_cases hik : i = k
              · subst hik
                by_cases ha : allN x i r true = true
                · have h5 := allN_iff.1 ha (i + j) (by omega) (by omega)
                  rw [HQ.out] at h5
                  exact absurd h5 (by decide)
                · simpa using ha
              · exact HB.out i (by omega)
            case measure => omega
          · have cc := KC.out (k + j) true (by omega) (by omega) (by rw [← hq]; congr 1)
            have HQ := Lib.hid hq
            clear hq
            go_wp2_with ((with_reducible refine cc.mono ?_); rintro e w' ⟨rfl, rfl⟩)
            go_roundg (r - (j + 1))
            case rel =>
              refine ⟨j + 1, by omega, by go_num, fun i hi => ?_, rfl⟩
              by_cases hij : i = j
              · subst hij; exact HQ.out
              · exact HI.out i (by omega)
            case measure => omega
        · have hjr : j = r := by omega
          obtain ⟨rfl, rfl⟩ := HY.out k ⟨by omega, decide_eq_true (fun i hi => HI.out i (by omega)), HB.out⟩
          go_wp2
          try rw [Exit.noGoto_ret]
          go_ret2
          exact ⟨rfl, (Kp.refl _ _).alloc _⟩
    · have hgo : ¬ (k : Int) < 64 - r + 1 := by omega
      obtain ⟨rfl, rfl⟩ := HN.out (fun j hj => HB.out j (by omega))
      go_wp2
      try rw [Exit.noGoto_ret]
      go_ret2
      exact ⟨rfl, (Kp.refl _ _).alloc _⟩

end Go.Proofs.YticbnckikkdknaaGreatDoor.Bm

namespace Go.Proofs.YticbnckikkdknaaGreatDoor.Tb
set_option linter.unusedVariables false
set_option linter.unusedSimpArgs false
open Go

theorem or_put (x p q : Int) (n : Nat) (hn : n ≤ 18) (hq : q = 2 ^ n) (h0 : 0 ≤ x) (h1 : x < q) (hp : 0 ≤ p) (hp2 : p ≤ 255) :
    bits .or .u64 x (IntKind.u64.wrap (p * 2 ^ n)) = x + p * q := by
  subst hq
  obtain ⟨a, rfl⟩ := Int.eq_ofNat_of_zero_le h0
  obtain ⟨b, rfl⟩ := Int.eq_ofNat_of_zero_le hp
  have e : ((b : Int) * 2 ^ n) = ((b * 2 ^ n : Nat) : Int) := by push_cast; rfl
  have hq : (2 : Nat) ^ n ≤ 2 ^ 18 := Nat.pow_le_pow_right (by omega) hn
  have ha : a < 2 ^ n := by exact_mod_cast h1
  have hb : b ≤ 255 := by omega
  have hbq : b * 2 ^ n ≤ 255 * 2 ^ 18 := Nat.mul_le_mul hb hq
  rw [e, IntKind.wrap_u64, Int.emod_eq_of_lt (by omega) (by omega)]
  rw [u64_or_nat _ _ (by omega) (by omega), Nat.or_comm, nat_join n _ _ (by simp) ha]
  push_cast; omega

theorem or_mul (x p q : Int) (n : Nat) (hn : n ≤ 18) (hq : q = 2 ^ n) (h0 : 0 ≤ x) (h1 : x < q) (hp : 0 ≤ p) (hp2 : p ≤ 255) : bits .or .u64 x (p * q) = x + p * q := by
  have h := or_put x p q n hn hq h0 h1 hp hp2
  have h2 : q ≤ 262144 := by
    have : (2 : Int) ^ n ≤ 2 ^ 18 := by exact_mod_cast Nat.pow_le_pow_right (n := 2) (by omega) hn
    omega
  have h3 : 0 ≤ p * q := Int.mul_nonneg hp (by omega)
  have h4 : p * q ≤ 255 * 262144 := Int.mul_le_mul hp2 h2 (by omega) (by omega)
  rwa [← hq, IntKind.wrap_u64, Int.emod_eq_of_lt h3 (by omega)] at h

theorem and_part (x q d : Int) (f n : Nat) (hn : n ≤ 8) (hq : q = 2 ^ n) (hd : d = 2 ^ f) (h0 : 0 ≤ x) (h1 : x < 18446744073709551616) :
    bits .and .u64 (x / 2 ^ f) (IntKind.u64.wrap (IntKind.u64.wrap (2 ^ n) - 1)) = x / d % q := by
  subst hq hd
  obtain ⟨a, rfl⟩ := Int.eq_ofNat_of_zero_le h0
  have e : ((a : Int) / 2 ^ f) = ((a / 2 ^ f : Nat) : Int) := by push_cast; rfl
  have hq : (2 : Nat) ^ n ≤ 2 ^ 8 := Nat.pow_le_pow_right (by omega) hn
  have hq0 : 0 < (2 : Nat) ^ n := Nat.two_pow_pos n
  have e2 : (2 : Int) ^ n = ((2 ^ n : Nat) : Int) := by push_cast; rfl
  have hd : a / 2 ^ f ≤ a := Nat.div_le_self _ _
  rw [e, e2, IntKind.wrap_u64, IntKind.wrap_u64, Int.emod_eq_of_lt (a := ((2 ^ n : Nat) : Int)) (by omega) (by omega), Int.emod_eq_of_lt (by omega) (by omega)]
  have e3 : ((2 ^ n : Nat) : Int) - 1 = ((2 ^ n - 1 : Nat) : Int) := by omega
  rw [e3, u64_and_nat _ _ (by omega) (by omega), Nat.and_two_pow_sub_one_eq_mod]
  push_cast; rfl

theorem part_u8 (x q : Int) (n : Nat) (hn : n ≤ 8) (hq : q = 2 ^ n) : x % q % 256 = x % q := by
  have h1 : (2 : Int) ^ n ≤ 2 ^ 8 := by exact_mod_cast Nat.pow_le_pow_right (n := 2) (by omega) hn
  have h3 : (0 : Int) < 2 ^ n := by exact_mod_cast Nat.two_pow_pos _
  have := Int.emod_lt_of_pos x (b := q) (by omega)
  have := Int.emod_nonneg x (b := q) (by omega)
  omega

/-- May an entry be? -/
def mayE (k c r o : Int) : Bool :=
  decide (k ≤ 5 ∧ c ≤ 3 ∧ o ≤ 63 ∧ r ≤ 3 ∧ (k ≠ 1 → c ≤ 0) ∧ ((k = 2 ∨ k = 5) → 0 < r) ∧ (k ≠ 2 → k ≠ 5 → r ≤ 0) ∧ (k = 0 → o ≤ 0) ∧ (k = 3 → o ≤ 0))
/-- Its word. -/
def wordE (k c r o : Int) : Int := k + c * 8 + r * 32 + o * 128
/-- Two entries are the same. -/
def eqE (k c r o k' c' r' o' : Int) : Bool := decide (k = k' ∧ c = c' ∧ r = r' ∧ o = o')
/-- How many blocks it tells of. -/
def blkE (k r : Int) : Int := if k = 2 ∨ k = 5 then r else 1
/-- Has the word an entry? -/
def takeE (x : Int) : Bool := decide (x < 8192) && mayE (x % 8) (x / 8 % 4) (x / 32 % 4) (x / 128 % 64)

theorem mayE_iff {k c r o : Int} : mayE k c r o = true ↔ (k ≤ 5 ∧ c ≤ 3 ∧ o ≤ 63 ∧ r ≤ 3 ∧ (k ≠ 1 → c ≤ 0) ∧ ((k = 2 ∨ k = 5) → 0 < r) ∧ (k ≠ 2 → k ≠ 5 → r ≤ 0) ∧ (k = 0 → o ≤ 0) ∧ (k = 3 → o ≤ 0)) := by
  simp only [mayE, decide_eq_true_eq]
theorem mayE_false {k c r o : Int} : mayE k c r o = false ↔ ¬ (k ≤ 5 ∧ c ≤ 3 ∧ o ≤ 63 ∧ r ≤ 3 ∧ (k ≠ 1 → c ≤ 0) ∧ ((k = 2 ∨ k = 5) → 0 < r) ∧ (k ≠ 2 → k ≠ 5 → r ≤ 0) ∧ (k = 0 → o ≤ 0) ∧ (k = 3 → o ≤ 0)) := by
  simp only [mayE, decide_eq_false_iff_not]
theorem eqE_iff {k c r o k' c' r' o' : Int} : eqE k c r o k' c' r' o' = true ↔ (k = k' ∧ c = c' ∧ r = r' ∧ o = o') := by simp only [eqE, decide_eq_true_eq]
theorem word_mod (x : Int) : wordE (x % 8) (x / 8 % 4) (x / 32 % 4) (x / 128 % 64) = x % 8192 := by simp only [wordE]; omega
theorem takeE_may {x : Int} (h : takeE x = true) : mayE (x % 8) (x / 8 % 4) (x / 32 % 4) (x / 128 % 64) = true := by
  simp only [takeE, Bool.and_eq_true] at h; exact h.2
theorem wordE_lt {k c r o : Int} (hk : 0 ≤ k) (hc : 0 ≤ c) (hr : 0 ≤ r) (ho : 0 ≤ o) (h : mayE k c r o = true) : 0 ≤ wordE k c r o ∧ wordE k c r o < 8192 := by
  have h' := mayE_iff.1 h
  unfold wordE; omega
theorem parts_word {k c r o : Int} (hk : 0 ≤ k) (hc : 0 ≤ c) (hr : 0 ≤ r) (ho : 0 ≤ o) (h : mayE k c r o = true) :
    wordE k c r o % 8 = k ∧ wordE k c r o / 8 % 4 = c ∧ wordE k c r o / 32 % 4 = r ∧ wordE k c r o / 128 % 64 = o := by
  have h' := mayE_iff.1 h
  refine ⟨by unfold wordE; omega, by unfold wordE; omega, by unfold wordE; omega, by unfold wordE; omega⟩
theorem takeE_of_word {k c r o : Int} (hk : 0 ≤ k) (hc : 0 ≤ c) (hr : 0 ≤ r) (ho : 0 ≤ o) (h : mayE k c r o = true) : takeE (wordE k c r o) = true := by
  obtain ⟨e1, e2, e3, e4⟩ := parts_word hk hc hr ho h
  have := wordE_lt hk hc hr ho h
  simp only [takeE, e1, e2, e3, e4, h, Bool.and_true, decide_eq_true_eq]
  omega
/-- The parts that a kind has, by bits. -/
def partsK (k : Int) : Int := if k = 1 then 5 else if k = 2 ∨ k = 5 then 6 else if k = 4 then 4 else 0
/-- An entry as its kind would have it. -/
def prC (k c : Int) : Int := if k = 1 then c else 0
def prR (k r : Int) : Int := if k = 2 ∨ k = 5 then max r 1 else 0
def prO (k o : Int) : Int := if k = 0 ∨ k = 3 ∨ k < 0 ∨ 5 < k then 0 else o

theorem kind_cases (k : Int) : k = 0 ∨ k = 1 ∨ k = 2 ∨ k = 3 ∨ k = 4 ∨ k = 5 ∨ ((k == 1) = false ∧ (k == 2) = false ∧ (k == 5) = false ∧ (k == 4) = false ∧ (k < 0 ∨ 5 < k)) := by
  have : (k = 0 ∨ k = 1 ∨ k = 2 ∨ k = 3 ∨ k = 4 ∨ k = 5) ∨ (k < 0 ∨ 5 < k) := by omega
  rcases this with h | h
  · rcases h with h | h | h | h | h | h <;> simp [h]
  · refine .inr (.inr (.inr (.inr (.inr (.inr ⟨by simp; omega, by simp; omega, by simp; omega, by simp; omega, h⟩)))))
theorem partsK_out {k : Int} (h : k < 0 ∨ 5 < k) : partsK k = 0 := by unfold partsK; rw [if_neg (by omega), if_neg (by omega), if_neg (by omega)]
theorem blkE_out {k r : Int} (h : k < 0 ∨ 5 < k) : blkE k r = 1 := by unfold blkE; rw [if_neg (by omega)]
theorem prC_out {k c : Int} (h : k < 0 ∨ 5 < k) : prC k c = 0 := by unfold prC; rw [if_neg (by omega)]
theorem prR_out {k r : Int} (h : k < 0 ∨ 5 < k) : prR k r = 0 := by unfold prR; rw [if_neg (by omega)]
theorem prO_out {k o : Int} (h : k < 0 ∨ 5 < k) : prO k o = 0 := by unfold prO; rw [if_pos (by omega)]
theorem proper_may {k c r o : Int} (hk : 0 ≤ k) (hc : 0 ≤ c) (hr : 0 ≤ r) (ho : 0 ≤ o) (k5 : k ≤ 5) (c3 : c < 4) (r3 : r ≤ 3) (o63 : o < 64) : eqE k c r o k (prC k c) (prR k r) (prO k o) = mayE k c r o := by
  rw [Bool.eq_iff_iff, eqE_iff, mayE_iff]
  have h : k = 0 ∨ k = 1 ∨ k = 2 ∨ k = 3 ∨ k = 4 ∨ k = 5 := by omega
  rcases h with rfl | rfl | rfl | rfl | rfl | rfl <;> simp [prC, prR, prO] <;> omega
theorem mayE_short {k c r o : Int} (h : ¬ (k ≤ 5 ∧ c < 4 ∧ r ≤ 3 ∧ o < 64)) : mayE k c r o = false := by
  rw [mayE_false]; omega

end Go.Proofs.YticbnckikkdknaaGreatDoor.Tb

namespace Go.Proofs.YticbnckikkdknaaGreatDoor
set_option linter.unusedVariables false
set_option linter.unusedSimpArgs false
open Go.RowKit

/-- The map, and the entries' words. -/
structure Gv where
  M : Nat
  E : List Int

/-- There are so many blocks; all words are words. -/
structure Gv.Ok (n : Nat) (g : Gv) : Prop where
  len : g.E.length = n
  map : g.M < 18446744073709551616
  ent : ∀ k, 0 ≤ g.E.getD k 0 ∧ g.E.getD k 0 < 18446744073709551616

theorem Gv.Ok.setM {n : Nat} {g : Gv} (h : g.Ok n) {x : Nat} (hx : x < 18446744073709551616) : Gv.Ok n ⟨x, g.E⟩ := ⟨h.len, hx, h.ent⟩
theorem Gv.Ok.setE {n : Nat} {g : Gv} (h : g.Ok n) (k : Nat) {v : Int} (h0 : 0 ≤ v) (h1 : v < 18446744073709551616) : Gv.Ok n ⟨g.M, g.E.set k v⟩ := by
  refine ⟨by simpa using h.len, h.map, fun j => ?_⟩
  have := h.ent j
  simp only [List.getD_eq_getElem?_getD, List.getElem?_set] at this ⊢
  split
  · split
    · simpa using ⟨h0, h1⟩
    · simp
  · exact this

/-- The entries from a on, r of them, are 0. -/
def zer (E : List Int) (a r : Nat) : List Int := (List.range E.length).map fun k => if a ≤ k ∧ k < a + r then 0 else E.getD k 0
theorem zer_len (E : List Int) (a r : Nat) : (zer E a r).length = E.length := by simp [zer]
theorem zer_get (E : List Int) (a r k : Nat) : (zer E a r).getD k 0 = if a ≤ k ∧ k < a + r then 0 else E.getD k 0 := by
  by_cases hk : k < E.length
  · simp [zer, List.getD_eq_getElem?_getD, hk]
  · have : E.getD k 0 = 0 := by simp [List.getD_eq_getElem?_getD, Nat.le_of_not_lt hk]
    rw [this]
    simp [zer, List.getD_eq_getElem?_getD, Nat.le_of_not_lt hk]
theorem ext_getD {xs ys : List Int} (hl : xs.length = ys.length) (h : ∀ k, k < xs.length → xs.getD k 0 = ys.getD k 0) : xs = ys := by
  apply List.ext_getElem hl
  intro i h1 h2
  have := h i h1
  simpa [List.getD_eq_getElem?_getD, h1, h2] using this
theorem zer_none (E : List Int) (a : Nat) : zer E a 0 = E := ext_getD (zer_len _ _ _) fun k _ => by rw [zer_get, if_neg (by omega)]
theorem getD_set (E : List Int) (k : Nat) (v : Int) (j : Nat) (hj : j < E.length) : (E.set k v).getD j 0 = if j = k then v else E.getD j 0 := by
  by_cases h : j = k
  · subst h; simp [List.getD_eq_getElem?_getD, hj]
  · rw [if_neg h, List.getD_eq_getElem?_getD, List.getElem?_set_ne (fun e => h e.symm), ← List.getD_eq_getElem?_getD]
/-- One more, upward. -/
theorem zer_up (E : List Int) (a i : Nat) : (zer E a i).set (a + i) 0 = zer E a (i + 1) := by
  refine ext_getD (by simp [zer_len]) fun k hk => ?_
  rw [getD_set _ _ _ _ (by simpa using hk), zer_get, zer_get]
  by_cases h : k = a + i
  · rw [if_pos h, if_pos (by omega)]
  · rw [if_neg h]
    by_cases h2 : a ≤ k ∧ k < a + i
    · rw [if_pos h2, if_pos (by omega)]
    · rw [if_neg h2, if_neg (by omega)]
/-- One more, downward. -/
theorem zer_down (E : List Int) (a i : Nat) : (zer E (a + 1) i).set a 0 = zer E a (i + 1) := by
  refine ext_getD (by simp [zer_len]) fun k hk => ?_
  rw [getD_set _ _ _ _ (by simpa using hk), zer_get, zer_get]
  by_cases h : k = a
  · rw [if_pos h, if_pos (by omega)]
  · rw [if_neg h]
    by_cases h2 : a + 1 ≤ k ∧ k < a + 1 + i
    · rw [if_pos h2, if_pos (by omega)]
    · rw [if_neg h2, if_neg (by omega)]
theorem Gv.Ok.zer {n : Nat} {g : Gv} (h : g.Ok n) (a r : Nat) : Gv.Ok n ⟨g.M, Go.Proofs.YticbnckikkdknaaGreatDoor.zer g.E a r⟩ := by
  refine ⟨by rw [zer_len]; exact h.len, h.map, fun k => ?_⟩
  simp only [zer_get]
  split
  · simp
  · exact h.ent k

/-- Is it a run of the blocks? -/
def runG (n : Nat) (b r : Int) : Bool := decide (1 ≤ r ∧ r ≤ 3 ∧ 0 ≤ b ∧ b + r ≤ n)
theorem runG_iff {n : Nat} {b r : Int} : runG n b r = true ↔ (1 ≤ r ∧ r ≤ 3 ∧ 0 ≤ b ∧ b + r ≤ n) := by simp [runG]
theorem runG_not {n : Nat} {b r : Int} : runG n b r = false ↔ ¬ (1 ≤ r ∧ r ≤ 3 ∧ 0 ≤ b ∧ b + r ≤ n) := by simp only [runG, decide_eq_false_iff_not]

/-- The map behind a run's being given. -/
def giveM (M : Nat) (b r : Nat) : Nat := if Bm.isR M b r false then Bm.setN M b r true else M
theorem giveM_lt {M b r : Nat} (h : M < 18446744073709551616) : giveM M b r < 18446744073709551616 := by
  unfold giveM; split
  · exact Bm.setN_lt _ _ _ _
  · exact h

/-- Blocks are given back. -/
def backG (n : Nat) (g : Gv) (b r : Int) : Gv := if runG n b r then ⟨giveM g.M b.toNat r.toNat, zer g.E b.toNat r.toNat⟩ else g
theorem Gv.Ok.back {n : Nat} {g : Gv} (h : g.Ok n) (b r : Int) : (backG n g b r).Ok n := by
  unfold backG; split
  · exact (h.zer b.toNat r.toNat).setM (x := giveM g.M b.toNat r.toNat) (giveM_lt h.map)
  · exact h

/-- An entry is set. -/
def setG (n : Nat) (g : Gv) (b k c r o : Int) : Gv := if decide (0 ≤ b ∧ b < n) && Tb.mayE k c r o then ⟨g.M, g.E.set b.toNat (Tb.wordE k c r o)⟩ else g
theorem Gv.Ok.set {n : Nat} {g : Gv} (h : g.Ok n) (b k c r o : Int) (hk : 0 ≤ k) (hc : 0 ≤ c) (hr : 0 ≤ r) (ho : 0 ≤ o) : (setG n g b k c r o).Ok n := by
  unfold setG; split
  · rename_i hh
    simp only [Bool.and_eq_true, decide_eq_true_eq] at hh
    have hw := Tb.wordE_lt hk hc hr ho hh.2
    exact h.setE _ hw.1 (Int.lt_trans hw.2 (by decide))
  · exact h

/-- Where the first run begins, if there is one. -/
def FirstRun (M : Nat) (r : Int) (k : Nat) : Prop := Bm.isR M k r true = true ∧ ∀ j : Nat, j < k → Bm.isR M j r true = false
def NoneRun (M : Nat) (r : Int) : Prop := ∀ k : Nat, Bm.isR M k r true = false
theorem first_or_none (M : Nat) (r : Int) : (∃ k, k < 64 ∧ FirstRun M r k) ∨ NoneRun M r := by
  by_cases h : ∃ k : Nat, Bm.isR M k r true = true
  · refine .inl ?_
    have key : ∀ m : Nat, Bm.isR M m r true = true → ∃ k, k ≤ m ∧ FirstRun M r k := by
      intro m
      induction m using Nat.strongRecOn with
      | ind m ih =>
        intro hm
        by_cases h2 : ∃ j : Nat, j < m ∧ Bm.isR M j r true = true
        · obtain ⟨j, hj, hr⟩ := h2
          obtain ⟨k, hk, hf⟩ := ih j hj hr
          exact ⟨k, by omega, hf⟩
        · refine ⟨m, Nat.le_refl _, hm, fun j hj => ?_⟩
          cases hb : Bm.isR M j r true with
          | false => rfl
          | true => exact absurd ⟨j, hj, hb⟩ h2
    obtain ⟨m, hm⟩ := h
    obtain ⟨k, hk, hf⟩ := key m hm
    refine ⟨k, ?_, hf⟩
    have := hf.1
    simp only [Bm.isR, Bool.and_eq_true, decide_eq_true_eq] at this
    omega
  · refine .inr fun k => ?_
    cases hb : Bm.isR M k r true with
    | false => rfl
    | true => exact absurd ⟨k, hb⟩ h

/-- What a claim answers, and the map behind it. -/
def Claims (M : Nat) (r : Int) (at' : Int) (ok : Bool) (M' : Nat) : Prop :=
  (∃ k : Nat, k < 64 ∧ FirstRun M r k ∧ at' = k ∧ ok = true ∧ M' = Bm.setN M k r.toNat false) ∨ (NoneRun M r ∧ at' = 0 ∧ ok = false ∧ M' = M)
theorem claims_lt {M : Nat} {r at' : Int} {ok : Bool} {M' : Nat} (h : Claims M r at' ok M') (hM : M < 18446744073709551616) : M' < 18446744073709551616 := by
  rcases h with ⟨k, _, _, _, _, h⟩ | ⟨_, _, _, h⟩
  · have := Bm.setN_lt M k r.toNat false
    rw [h]; omega
  · rw [h]; exact hM
/-- One block's turn, of an owner's that wait. -/
def waitsE (x o : Int) : Bool := Tb.takeE x && decide (x / 128 % 64 = o ∧ (x % 8 = 4 ∨ x % 8 = 5))
def turnG (n : Nat) (o : Int) (g : Gv) (i : Nat) : Gv := if waitsE (g.E.getD i 0) o then backG n g i (Tb.blkE (g.E.getD i 0 % 8) (g.E.getD i 0 / 32 % 4)) else g
def waitG (n : Nat) (o : Int) (g : Gv) : Nat → Gv
  | 0 => g
  | i + 1 => turnG n o (waitG n o g i) i
theorem Gv.Ok.turn {n : Nat} {g : Gv} (h : g.Ok n) (o : Int) (i : Nat) : (turnG n o g i).Ok n := by
  unfold turnG; split
  · exact h.back _ _
  · exact h
theorem Gv.Ok.wait {n : Nat} {g : Gv} (h : g.Ok n) (o : Int) (i : Nat) : (waitG n o g i).Ok n := by
  induction i with
  | zero => exact h
  | succ i ih => exact ih.turn o i

end Go.Proofs.YticbnckikkdknaaGreatDoor

namespace Go.Proofs.YticbnckikkdknaaGreatDoor
set_option linter.unusedVariables false
set_option linter.unusedSimpArgs false
open Go.RowKit

/-- What an arena is, plainly: its words, how often it was touched, the place that is kept. -/
structure St where
  ws : List Int
  t : Nat
  l : Int

def inB (s : St) (k : Int) : Bool := decide (0 ≤ k) && decide (k < s.ws.length)
def was (s : St) (k : Int) : Int := if inB s k then s.ws.getD k.toNat 0 else 0
def upd (s : St) (k : Int) (y : Int) : St := if inB s k then ⟨s.ws.set k.toNat y, s.t + 1, k⟩ else s

theorem inB_iff {s : St} {k : Int} : inB s k = true ↔ 0 ≤ k ∧ k < s.ws.length := by simp [inB]
theorem was_in {s : St} {k : Int} (h : inB s k = true) : was s k = s.ws.getD k.toNat 0 := by simp [was, h]
theorem was_out {s : St} {k : Int} (h : inB s k = false) : was s k = 0 := by simp [was, h]
theorem upd_in {s : St} {k y : Int} (h : inB s k = true) : upd s k y = ⟨s.ws.set k.toNat y, s.t + 1, k⟩ := by simp [upd, h]
theorem upd_out {s : St} {k y : Int} (h : inB s k = false) : upd s k y = s := by simp [upd, h]
def u64s (ws : List Int) : Array Value := (ws.map (Value.int .u64)).toArray

theorem u64s_get (ws : List Int) (i : Nat) (h : i < ws.length) : (u64s ws)[i]? = some (.int .u64 (ws.getD i 0)) := by
  simp [u64s, List.getD, h]
theorem u64s_set (ws : List Int) (i : Nat) (y : Int) : (u64s ws).setIfInBounds i (.int .u64 y) = u64s (ws.set i y) := by
  simp [u64s, List.map_set]
/-- The arena at p, its words at r. -/
structure Ar (w : World) (p r : Nat) (s : St) : Prop where
  hp : w.heap[p]? = some (.cells #[.slice (some ⟨r, 0, none⟩) s.ws.length s.ws.length, .int .u64 s.t, .int .i64 s.l] 99 (0, 0))
  hr : w.heap[r]? = some (.cells (u64s s.ws) 57 (0, 0))

theorem Ar.ne {w : World} {p r : Nat} {s : St} (h : Ar w p r s) : p ≠ r := by
  intro e; subst e
  have := h.hp.symm.trans h.hr
  simp at this
theorem Ar.lt {w : World} {p r : Nat} {s : St} (h : Ar w p r s) : p < w.heap.size ∧ r < w.heap.size := ⟨lt_of_block h.hp, lt_of_block h.hr⟩
theorem Ar.keep {w w' : World} {p r : Nat} {s : St} {S : List Nat} (h : Ar w p r s) (k : Kp S w w') (hp : p ∉ S) (hr : r ∉ S) : Ar w' p r s := ⟨k.row hp h.hp, k.row hr h.hr⟩
theorem Ar.c0 {w : World} {p r : Nat} {s : St} (h : Ar w p r s) : w.cell? ⟨p, 0, none⟩ = some (.slice (some ⟨r, 0, none⟩) s.ws.length s.ws.length) := by rw [cell_of_row h.hp]; rfl
theorem Ar.c1 {w : World} {p r : Nat} {s : St} (h : Ar w p r s) : w.cell? ⟨p, 1, none⟩ = some (.int .u64 s.t) := by rw [cell_of_row h.hp]; rfl
theorem Ar.c2 {w : World} {p r : Nat} {s : St} (h : Ar w p r s) : w.cell? ⟨p, 2, none⟩ = some (.int .i64 s.l) := by rw [cell_of_row h.hp]; rfl
theorem Ar.f {w : World} {p r : Nat} {s : St} (h : Ar w p r s) (i : Nat) : w.frozen? ⟨p, i, none⟩ = false := free_of_row h.hp i
theorem Ar.cr {w : World} {p r : Nat} {s : St} (h : Ar w p r s) {i : Nat} (hi : i < s.ws.length) : w.cell? ⟨r, i, none⟩ = some (.int .u64 (s.ws.getD i 0)) := by rw [cell_of_row h.hr, u64s_get _ _ hi]
theorem Ar.fr {w : World} {p r : Nat} {s : St} (h : Ar w p r s) (i : Nat) : w.frozen? ⟨r, i, none⟩ = false := free_of_row h.hr i

/-- The world behind a touch that has counted, ahead of the word's store. -/
def tw (w : World) (p : Nat) (t : Nat) (k : Int) : World := (w.setCell ⟨p, 1, none⟩ (.int .u64 (t + 1 : Nat))).setCell ⟨p, 2, none⟩ (.int .i64 k)

theorem tw_kp (w : World) (p t : Nat) (k : Int) : Kp [p] w (tw w p t k) := ((Kp.refl [p] w).setCell (.inl (by simp)) _).setCell (.inl (by simp)) _
theorem Ar.tw {w : World} {p r : Nat} {s : St} (h : Ar w p r s) (k : Int) : Ar (tw w p s.t k) p r ⟨s.ws, s.t + 1, k⟩ := by
  refine ⟨?_, (tw_kp w p s.t k).row (by simpa using h.ne.symm) h.hr⟩
  have h1 := heap_setCell_same w p 1 _ _ (.int .u64 (s.t + 1 : Nat)) h.hp
  have h2 := heap_setCell_same _ p 2 _ _ (.int .i64 k) h1
  rw [Go.Proofs.YticbnckikkdknaaGreatDoor.tw, h2]
  simp

/-- A store of a word. -/
theorem Ar.store {w : World} {p r : Nat} {s : St} (h : Ar w p r s) (i : Nat) (y : Int) : Ar (w.setCell ⟨r, i, none⟩ (.int .u64 y)) p r ⟨s.ws.set i y, s.t, s.l⟩ := by
  refine ⟨?_, ?_⟩
  · rw [heap_setCell_other _ _ _ _ (by simpa using h.ne), h.hp]; simp
  · rw [heap_setCell_same _ _ _ _ _ _ h.hr, u64s_set]

end Go.Proofs.YticbnckikkdknaaGreatDoor

namespace Go.Proofs.YticbnckikkdknaaGreatDoor
set_option linter.unusedVariables false
set_option linter.unusedSimpArgs false
open Go.RowKit

/-- The text's own panic: a place that there is not. -/
theorem touch_out (w : World) (p r : Nat) (s : St) (k : Int) (h : Ar w p r s) (hn : s.ws.length ≤ 4096) (hk : inB s k = false) :
    Calls Tryz.prog 111 #[.pointer (some ⟨p, 0, none⟩), .int .i64 k] w fun e w' => e = .panicked [{ v := .iface 203 (.int .i64 k), recovered := false }] ∧ w' = w := by
  have hc0 := h.c0
  have hk' : k < 0 ∨ (0 ≤ k ∧ (s.ws.length : Int) ≤ k) := by
    simp only [inB, Bool.and_eq_false_iff, decide_eq_false_iff_not] at hk; omega
  clear hk
  generalize s.ws.length = n at hc0 hn hk'
  rcases hk' with hk' | ⟨hk0, hk1⟩
  · go_enter Tryz.func111, Tryz.ntmps111
    go_wp2
    exact ⟨rfl, rfl, rfl⟩
  · go_enter Tryz.func111, Tryz.ntmps111
    go_wp2
    exact ⟨rfl, rfl, rfl⟩

theorem touch_in (w : World) (p r : Nat) (s : St) (k : Int) (h : Ar w p r s) (hn : s.ws.length ≤ 4096) (ht : s.t ≤ 1000000000000) (hk : inB s k = true) :
    Calls Tryz.prog 111 #[.pointer (some ⟨p, 0, none⟩), .int .i64 k] w fun e w' => e = .returned (.pointer (some ⟨r, k.toNat, none⟩)) ∧ w' = tw w p s.t k := by
  have hc0 := h.c0
  have hc1 := h.c1
  have hc2 := h.c2
  have hf := h.f
  obtain ⟨hk0, hk1⟩ := inB_iff.1 hk
  go_enter Tryz.func111, Tryz.ntmps111
  go_wp2
  go_ret
  exact ⟨rfl, by simp [tw]⟩

theorem catch_panicking (u : TypeId) (pv : Value) (older : List PanicEntry) (w : World) :
    CallsD Tryz.prog 110 #[] (.panicking ({ v := .iface u pv, recovered := false } :: older)) w fun e u' w' =>
      e = .returned (.tuple #[]) ∧ u' = .panicking ({ v := .iface u pv, recovered := true } :: older) ∧ w' = w := by
  refine callsD_of_wpS Tryz.func110 rfl fun c₀ cs hu => ?_
  apply wpS_region
  simp [wpOpsS, go_sem, recoverD, hu, Tryz.ntmps110, bodyPostS, results, Tryz.results110]

theorem catch_idle (w : World) :
    CallsD Tryz.prog 110 #[] .returning w fun e u' w' => e = .returned (.tuple #[]) ∧ u' = .returning ∧ w' = w := by
  refine callsD_of_wpS Tryz.func110 rfl fun c₀ cs hu => ?_
  apply wpS_region
  cases c₀
  simp_all [wpOpsS, go_sem, recoverD, Tryz.ntmps110, bodyPostS, results, Tryz.results110]

set_option maxRecDepth 100000 in
theorem func_nil (g : FuncId) (first cap : Array Value) (w : World) : (binOp .eql 155 (.func (.func g) first cap) .nilFunc).run Tryz.prog w = .ok (.bool false) w := rfl

/-- Update at a place that there is not: 0, nothing; f is not asked. -/
theorem upd_no (w : World) (p r : Nat) (s : St) (k : Int) (g : FuncId) (first cap : Array Value) (h : Ar w p r s) (hn : s.ws.length ≤ 4096) (hk : inB s k = false) :
    Calls Tryz.prog 74 #[.pointer (some ⟨p, 0, none⟩), .int .i64 k, .func (.func g) first cap] w fun e w' => e = .returned (.int .u64 0) ∧ w' = w := by
  have hmf : ∀ (fn : Fn) (first cap : Array Value) (w : World), (Instr.makeFunc fn first cap).run Tryz.prog w = .ok (.func fn first cap) w := fun _ _ _ _ => rfl
  have hfn := func_nil
  go_enter_defers Tryz.func74, Tryz.ntmps74
  go_wp2_with (go_at_call 111; refine (touch_out _ _ _ _ _ h hn hk).mono ?_; rintro e w1 ⟨rfl, rfl⟩)
  refine leaves_cons (f := 110) (args := #[]) (by simp) (by simp [go_sem]) ?_
  refine (catch_panicking _ _ [] _).mono ?_
  rintro e u' w'' ⟨rfl, rfl, rfl⟩
  simp [Leaves, settle, results, Tryz.results74, go_sem]

/-- Update at a place that there is: what it was; then it is what f says. The world behind f is W2, in which the word's cell stands. -/
theorem upd_yes (w : World) (p r : Nat) (s : St) (k : Int) (g : FuncId) (cap : Array Value) (y z : Int) (W2 : World) (h : Ar w p r s) (hn : s.ws.length ≤ 4096) (ht : s.t ≤ 1000000000000) (hk : inB s k = true)
    (hen : ∀ (x : Value) (w : World), (callFunc g (#[x] ++ cap)).run Tryz.prog w = .ok (.enter g (#[x] ++ cap)) w)
    (hcall : Calls Tryz.prog g (#[.int .u64 (s.ws.getD k.toNat 0)] ++ cap) (tw w p s.t k) fun e w' => e = .returned (.int .u64 y) ∧ w' = W2)
    (hc2 : W2.cell? ⟨r, k.toNat, none⟩ = some (.int .u64 z)) (hf2 : W2.frozen? ⟨r, k.toNat, none⟩ = false) :
    Calls Tryz.prog 74 #[.pointer (some ⟨p, 0, none⟩), .int .i64 k, .func (.func g) #[] cap] w fun e w' => e = .returned (.int .u64 (s.ws.getD k.toNat 0)) ∧ w' = W2.setCell ⟨r, k.toNat, none⟩ (.int .u64 y) := by
  have hmf : ∀ (fn : Fn) (first cap : Array Value) (w : World), (Instr.makeFunc fn first cap).run Tryz.prog w = .ok (.func fn first cap) w := fun _ _ _ _ => rfl
  have hfn := func_nil
  obtain ⟨hk0, hk1⟩ := inB_iff.1 hk
  have hk3 : k.toNat < s.ws.length := by omega
  have hcr := (h.tw k).cr hk3
  have hto := touch_in w p r s k h hn ht hk
  generalize s.ws.getD k.toNat 0 = x0 at hcall hcr ⊢
  generalize tw w p s.t k = w1 at hcall hcr hto
  go_enter_defers Tryz.func74, Tryz.ntmps74
  go_wp2_with (go_at_call 111; refine hto.mono ?_; rintro e w1 ⟨rfl, rfl⟩)
  refine hcall.mono ?_
  rintro e w2 ⟨rfl, rfl⟩
  go_wp2_with fail
  refine leaves_cons (f := 110) (args := #[]) (by simp) (by simp [go_sem]) ?_
  refine (catch_idle _).mono ?_
  rintro e u' w'' ⟨rfl, rfl, rfl⟩
  simp [Leaves, settle, results, Tryz.results74, go_sem]

/-- An arena that has just been made. -/
def fresh (n : Nat) : St := ⟨List.replicate n 0, 0, 0⟩

theorem made_u64s (n : Nat) : madeCells #[.int .u64 0] n = u64s (List.replicate n 0) := by
  apply Array.ext'
  rw [toList_madeCells_one]
  simp [u64s]

theorem make_u64s (n : Nat) (h2 : n ≤ 4096) (w : World) : (Instr.makeSlice 36 (.int .i64 (n : Int)) (.int .i64 (n : Int))).run Tryz.prog w = .ok (.slice (some ⟨w.heap.size, 0, none⟩) n n) (w.alloc (.cells (u64s (List.replicate n 0)) 57)) := by
  obtain ⟨i, hi, hz0, hz1, hz2⟩ := info_parts (P := Tryz.prog) (e := 57) (z := .int .u64 0) (size := 1) (bytes := 8) (by kernel_rfl)
  have := run_make (P := Tryz.prog) w 36 57 i (.int .u64 0) Tryz.underlying36 hi hz0 .i64 .i64 n n (by omega) (Int.le_refl _) (by rw [hz2]; omega) (by omega)
  rw [this, hz1]
  simp [Value.cells, made_u64s]

theorem new_good (w : World) (n : Nat) (h1 : 1 ≤ n) (h2 : n ≤ 4096) : Calls Tryz.prog 52 #[.int .i64 n] w fun e w' => e = .returned (.tuple #[.pointer (some ⟨w.heap.size + 1, 0, none⟩), .int .i64 0]) ∧ Ar w' (w.heap.size + 1) w.heap.size (fresh n) ∧ Kp [] w w' := by
  have hmk := make_u64s n h2
  go_enter Tryz.func52, Tryz.ntmps52
  go_wp2
  go_ret2
  refine ⟨rfl, ⟨?_, ?_⟩, ((Kp.refl _ _).alloc _).alloc _⟩
  · have := heap_alloc_new (w.alloc (Obj.cells (u64s (List.replicate n 0)) 57)) (Obj.cells #[Value.slice (some { block := w.heap.size, off := 0 }) n n, Value.int IntKind.u64 0, Value.int IntKind.i64 0] 99)
    rw [World.size_alloc] at this
    rw [this]
    simp [fresh]
  · rw [heap_alloc2_old]
    simp [fresh]

/-- All: the words, in a row of their own. -/
theorem all_any (w : World) (p r : Nat) (s : St) (h : Ar w p r s) (hn1 : 1 ≤ s.ws.length) (hn : s.ws.length ≤ 4096) :
    Calls Tryz.prog 13 #[.pointer (some ⟨p, 0, none⟩)] w fun e w' => e = .returned (.slice (some ⟨w.heap.size, 0, none⟩) s.ws.length s.ws.length) ∧ w'.heap[w.heap.size]? = some (.cells (u64s s.ws) 57 (0, 0)) ∧ Kp [] w w' := by
  have hc0 := h.c0
  have hmk := make_u64s s.ws.length hn
  have hpl := h.lt.1
  have hcs : (List.map (Value.int .u64) s.ws).length = Nat.min s.ws.length s.ws.length := by simp
  have hsrc : ∀ j v, (List.map (Value.int .u64) s.ws)[j]? = some v → w.cell? ((⟨r, 0, none⟩ : Addr).add j) = some v := by
    intro j v hv
    rw [Addr.add_lit, Nat.zero_add, cell_of_row h.hr]
    simpa [u64s] using hv
  have hg := heap_alloc_new w (Obj.cells (u64s (List.replicate s.ws.length 0)) 57)
  have hcp := run_copy_row (P := Tryz.prog) (w.alloc (Obj.cells (u64s (List.replicate s.ws.length 0)) 57)) 36 36 3 57 w.heap.size 0 s.ws.length s.ws.length ⟨r, 0, none⟩ s.ws.length s.ws.length (u64s (List.replicate s.ws.length 0)) 57 (List.map (Value.int .u64) s.ws)
    Tryz.underlying36 (by kernel_rfl) hg hcs
    (fun j v hv => by have := hsrc j v hv; rw [Addr.add_lit, Nat.zero_add] at this ⊢; rw [World.cell?_alloc_past _ _ _ h.lt.2]; exact this) (by simp [u64s]) (by intro v hv; obtain ⟨x, _, rfl⟩ := List.mem_map.1 hv; rfl)
  have e1 : ((u64s (List.replicate s.ws.length 0)).toList.take 0 ++ List.map (Value.int .u64) s.ws ++ (u64s (List.replicate s.ws.length 0)).toList.drop (0 + (List.map (Value.int .u64) s.ws).length)).toArray = u64s s.ws := by
    simp [u64s]
  rw [e1] at hcp
  have hend := setRow_heap (w.alloc (Obj.cells (u64s (List.replicate s.ws.length 0)) 57)) w.heap.size _ (u64s s.ws) 57 (0, 0) hg
  have hkp : Kp [] w ((w.alloc (Obj.cells (u64s (List.replicate s.ws.length 0)) 57)).setRow w.heap.size (u64s s.ws)) := ((Kp.refl [] w).alloc _).setRow (.inr (Nat.le_refl _)) _
  clear hsrc hcs e1
  generalize (w.alloc (Obj.cells (u64s (List.replicate s.ws.length 0)) 57)).setRow w.heap.size (u64s s.ws) = w2 at hcp hend hkp
  go_enter Tryz.func13, Tryz.ntmps13
  go_wp2
  go_ret
  exact ⟨rfl, hend, hkp⟩

end Go.Proofs.YticbnckikkdknaaGreatDoor

namespace Go.Proofs.YticbnckikkdknaaGreatDoor
set_option linter.unusedVariables false
set_option linter.unusedSimpArgs false
set_option maxRecDepth 100000
open Go.RowKit

/-- Update by a closure that writes nothing. -/
theorem upd_pure (w : World) (p r : Nat) (s : St) (k : Int) (g : FuncId) (cap : Array Value) (y : Int) (h : Ar w p r s) (hn : s.ws.length ≤ 4096) (ht : s.t ≤ 1000000000000)
    (hen : ∀ (x : Value) (w : World), (callFunc g (#[x] ++ cap)).run Tryz.prog w = .ok (.enter g (#[x] ++ cap)) w)
    (hcall : inB s k = true → ∀ w', Kp [p] w w' → Calls Tryz.prog g (#[.int .u64 (was s k)] ++ cap) w' fun e w2 => e = .returned (.int .u64 y) ∧ w2 = w') :
    Calls Tryz.prog 74 #[.pointer (some ⟨p, 0, none⟩), .int .i64 k, .func (.func g) #[] cap] w fun e w' => e = .returned (.int .u64 (was s k)) ∧ Ar w' p r (upd s k y) ∧ Kp [p, r] w w' := by
  by_cases hk : inB s k = true
  · have h3 : k.toNat < s.ws.length := by have := inB_iff.1 hk; omega
    have hc := hcall hk (tw w p s.t k) (tw_kp w p s.t k)
    rw [was_in hk] at hc ⊢
    rw [upd_in hk]
    refine (upd_yes w p r s k g cap y _ _ h hn ht hk hen hc ((h.tw k).cr h3) ((h.tw k).fr _)).mono ?_
    rintro e w' ⟨rfl, rfl⟩
    exact ⟨rfl, (h.tw k).store _ _, ((tw_kp w p s.t k).mono (by simp)).setCell (.inl (by simp)) _⟩
  · have hk' : inB s k = false := by simpa using hk
    rw [was_out hk', upd_out hk']
    refine (upd_no w p r s k g #[] cap h hn hk').mono ?_
    rintro e w' ⟨rfl, rfl⟩
    exact ⟨rfl, h, Kp.refl _ _⟩

theorem f21 (x : Int) (w : World) : Calls Tryz.prog 75 #[.int .u64 x] w fun e w2 => e = .returned (.int .u64 x) ∧ w2 = w := by
  go_enter Tryz.func75, Tryz.ntmps75
  go_wp2
  go_ret
  exact ⟨rfl, rfl⟩

theorem f22 (x v : Int) (b : Nat) (w : World) (hc : w.cell? ⟨b, 0, none⟩ = some (.int .u64 v)) : Calls Tryz.prog 102 #[.int .u64 x, .pointer (some ⟨b, 0, none⟩)] w fun e w2 => e = .returned (.int .u64 v) ∧ w2 = w := by
  go_enter Tryz.func102, Tryz.ntmps102
  go_wp2
  go_ret
  exact ⟨rfl, rfl⟩

theorem read_any (w : World) (p r : Nat) (s : St) (k : Int) (h : Ar w p r s) (hn : s.ws.length ≤ 4096) (ht : s.t ≤ 1000000000000) :
    Calls Tryz.prog 41 #[.pointer (some ⟨p, 0, none⟩), .int .i64 k] w fun e w' => e = .returned (.int .u64 (was s k)) ∧ Ar w' p r (upd s k (was s k)) ∧ Kp [p, r] w w' := by
  have hu := upd_pure w p r s k 75 #[] (was s k) h hn ht (fun _ _ => rfl) (fun _ w' _ => f21 _ w')
  go_enter Tryz.func41, Tryz.ntmps41
  go_wp2_with fail
  refine hu.mono ?_
  rintro e w1 ⟨rfl, ha, hk⟩
  go_wp2
  go_ret
  exact ⟨rfl, ha, hk⟩

theorem write_any (w : World) (p r : Nat) (s : St) (k v : Int) (h : Ar w p r s) (hn : s.ws.length ≤ 4096) (ht : s.t ≤ 1000000000000) :
    Calls Tryz.prog 62 #[.pointer (some ⟨p, 0, none⟩), .int .i64 k, .int .u64 v] w fun e w' => e = .returned (.tuple #[]) ∧ Ar w' p r (upd s k v) ∧ Kp [p, r] w w' := by
  have hmf : ∀ (fn : Fn) (first cap : Array Value) (w : World), (Instr.makeFunc fn first cap).run Tryz.prog w = .ok (.func fn first cap) w := fun _ _ _ _ => rfl
  have hka := (Kp.refl [] w).alloc (.cells #[.int .u64 v] 57)
  have hb := heap_alloc_new w (.cells #[.int .u64 v] 57)
  have hpl := h.lt
  have hu := upd_pure (w.alloc (.cells #[.int .u64 v] 57)) p r s k 102 #[.pointer (some ⟨w.heap.size, 0, none⟩)] v (h.keep hka (by simp) (by simp)) hn ht (fun _ _ => rfl)
    (fun _ w' hk' => f22 _ v _ w' (by rw [cell_of_row (hk'.row (by simp; omega) hb)]; rfl))
  go_enter Tryz.func62, Tryz.ntmps62
  go_wp2_with fail
  refine hu.mono ?_
  rintro e w1 ⟨rfl, ha, hk⟩
  have hkk := (hka.mono (T := [p, r]) (by simp)).trans hk
  clear hka hb hk hu
  go_wp2
  go_end0
  exact ⟨rfl, ha, hkk⟩

end Go.Proofs.YticbnckikkdknaaGreatDoor

namespace Go.Proofs.YticbnckikkdknaaGreatDoor
open Go.ChangeShapes Go.WideShapes Go.ChangeAt Go.RowKit

theorem bcell {W w1 : World} (hb : Below W.heap.size W w1) : (∀ b o, b < W.heap.size → w1.cell? ⟨b, o, none⟩ = W.cell? ⟨b, o, none⟩) ∧ (∀ b o, b < W.heap.size → w1.frozen? ⟨b, o, none⟩ = W.frozen? ⟨b, o, none⟩) :=
  ⟨fun b o h => hb.cell (p := ⟨b, o, none⟩) h, fun b o h => hb.frozen (p := ⟨b, o, none⟩) h⟩

theorem below_draws {B : Nat} {w w' : World} (h : Below B w w') (n : Nat) : Below B w (w'.drewN n) := ⟨h.os, h.tape, h.output, h.size, h.block⟩

def typesRowed (P : Program) (ts : List TypeId) : Bool := ts.all fun t => P.readableRec t && decide (t < P.types.size)

theorem trodAll_below {H : Type} {enc : TypeId × Value → H} {P : Program} (hl : laidOutB P = true) {W W' : World} (hb : Below W.heap.size W W') :
    ∀ {ts : List TypeId} {vs : List Value} {ds : List (DataW H)} {ps : List MemPlace}, typesRowed P ts = true → DataW.TrodAll enc P W 0 (fun _ => true) true ts vs ds ps → (∀ x ∈ ps, x.block < W.heap.size) →
      DataW.TrodAll enc P W' 0 (fun b => decide (b < W.heap.size)) true ts vs ds ps
  | [], vs, ds, ps, _, h, _ => by
    obtain ⟨rfl, rfl, rfl⟩ := trodAll_nil h
    exact rfl
  | t :: ts, vs, ds, ps, hr, h, hlt => by
    obtain ⟨v, vs1, d, ds1, a, b, rfl, rfl, rfl, h1, h2⟩ := trodAll_cons h
    simp only [typesRowed, List.all_cons, Bool.and_eq_true, decide_eq_true_eq] at hr
    exact ⟨a, b, Below.trod hl hr.1.1 hr.1.2 h1 hb (fun x hx => hlt x (by simp [hx])), trodAll_below hl hb hr.2 h2 (fun x hx => hlt x (by simp [hx])), rfl⟩

/-- What the row asks behind the call. -/
theorem post_true {H : Type} {enc : TypeId × Value → H} {P : Program} {f : Func} {s : ChangeSpec} {W W' : World} {args : Array Value} {ds gs : List (DataW H)} {before : List MemPlace} {tb : TypeId}
    (hl : laidOutB P = true) (hp : typesRowed P f.params.toList = true) (hr : f.resultTypes = #[tb]) (hb : P.underlying tb = some .bool) (hs : s.vars = [])
    (hfn : s.fn H ds = { results := [.lit (.bool true)], args := ds }) (hW : DataW.Whole enc P f.params.toList s.vars false W args.toList ds gs before) (bel : Below W.heap.size W W') :
    s.post enc P f false true false false W args (.bool true) W' := by
  obtain ⟨p, q, hA, hV, rfl, hz, hn⟩ := hW
  have hV' := hV
  rw [hs] at hV
  obtain ⟨rfl, rfl⟩ := trodVars_none hV
  have hlt : ∀ x ∈ p, x.block < W.heap.size := fun x hx => DataW.Whole.lt (⟨p, [], hA, hV', rfl, hz, hn⟩ : DataW.Whole enc P f.params.toList s.vars false W args.toList ds [] (p ++ [])) x (by simpa using hx)
  refine ⟨ds, [], p ++ [], [], p, [], ⟨p, [], hA, hV', rfl, hz, hn⟩, ?_, ?_, ?_, bel.frame _, fun h => by cases h⟩
  · rw [hr, List.append_nil, hfn]
    exact trodAll_mk1 (shut_bool hb _)
  · rw [List.append_nil, hfn]
    exact trodAll_below hl bel hp hA hlt
  · rw [List.append_nil, hfn, hs]
    exact rfl

/-- A whole row is stored into a block of the call's own. -/
theorem below_setRow {B g : Nat} {w0 w : World} (h : Below B w0 w) (hB : B ≤ g) (cs : Array Value) : Below B w0 (w.setRow g cs) :=
  ⟨h.os, h.tape, h.output, by rw [size_setRow]; exact h.size, fun k hk => (setRow_other w g k cs (by omega)).trans (h.block k hk)⟩

/-- Two results, the first a struct that lies in a block. -/
theorem results_row_tmp {P : Program} {fn : Func} {p u : Tmp} {ty : TypeId} (h : fn.results = #[.cell p ty, .tmp u]) (tmps : Array Value) (w : World) (g : Nat) (t : TypeId) (cs : Array Value) (fr : Nat × Nat) (d : TypeDesc)
    (hp : tmps.getD p undef = .pointer (some ⟨g, 0, none⟩)) (hg : w.heap[g]? = some (.cells cs t fr))
    (hu : P.underlying ty = some d) (hd : (match d with | .struct _ | .array _ _ => true | _ => false) = true) (hi : (P.info? ty).map (·.size) = some cs.size) :
    (results fn tmps).run P w = .ok (.tuple #[.agg cs, tmps.getD u undef]) w := by
  rw [results_cell_tmp h, hp]
  simp [asAddr, run_loadVar_row w g t ty cs fr d hg hu hd hi, Result.andThen]

theorem bodyPost_row_tmp {P : Program} {fn : Func} {R : Ending → World → Prop} {a : Act} {w : World} {p u : Tmp} {ty : TypeId} (h : fn.results = #[.cell p ty, .tmp u]) (g : Nat) (t : TypeId) (cs : Array Value) (fr : Nat × Nat) (d : TypeDesc) (v : Value)
    (hp : a.tmps.getD p undef = .pointer (some ⟨g, 0, none⟩)) (hv : a.tmps.getD u undef = v) (hdef : a.defers = []) (hg : w.heap[g]? = some (.cells cs t fr))
    (hu : P.underlying ty = some d) (hd : (match d with | .struct _ | .array _ _ => true | _ => false) = true) (hi : (P.info? ty).map (·.size) = some cs.size)
    (hR : R (.returned (.tuple #[.agg cs, v])) w) : bodyPost P fn R .ret a w := by
  subst hv
  exact bodyPost_ret (results_row_tmp h a.tmps w g t cs fr d hp hg hu hd hi) hdef hR

theorem bodyPost_row {P : Program} {fn : Func} {R : Ending → World → Prop} {a : Act} {w : World} {p : Tmp} {ty : TypeId} (h : fn.results = #[.cell p ty]) (g : Nat) (t : TypeId) (cs : Array Value) (fr : Nat × Nat) (d : TypeDesc)
    (hp : a.tmps.getD p undef = .pointer (some ⟨g, 0, none⟩)) (hdef : a.defers = []) (hg : w.heap[g]? = some (.cells cs t fr))
    (hu : P.underlying ty = some d) (hd : (match d with | .struct _ | .array _ _ => true | _ => false) = true) (hi : (P.info? ty).map (·.size) = some cs.size)
    (hR : R (.returned (.agg cs)) w) : bodyPost P fn R .ret a w :=
  bodyPost_ret (results_cell_row h a.tmps w g t cs fr d hp hg hu hd hi) hdef hR

/-- A block below B holds what it held. -/
theorem below_row {B : Nat} {w w' : World} (h : Below B w w') {g : Nat} (hg : g < B) {o : Obj} (ho : w.heap[g]? = some o) : w'.heap[g]? = some o := (h.block g hg).trans ho

end Go.Proofs.YticbnckikkdknaaGreatDoor
