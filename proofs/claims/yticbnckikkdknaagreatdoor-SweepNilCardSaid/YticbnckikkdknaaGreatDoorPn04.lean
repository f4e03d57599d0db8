/- The walks of the document's own Take (demesneref01), and of the known headers (wakes). Conditions: as each theorem states them (the numbers are those of a uint64). The walks of layer class, and of the document's own answers beside it: each function returns what the plain functions below say, and leaves the world as it was. Conditions: the package's table holds its four numbers. The walks of Of, Run and Place, and of the document's own Of and Run. Conditions: the package's table holds its four numbers. Plain facts on lists of numbers: the first place at which something holds; what is kept; a row that is turned round. Conditions: as each lemma states them. A row of numbers as the walks hold it, and a list of four such rows. Conditions: as each lemma states them. The library's own functions over a row of numbers: Index, Contains, IndexFunc, DeleteFunc, Reverse. Conditions: as each theorem states them. -/
import Derived.Test.YticbnckikkdknaaGreatDoorRows
import Derived.WalkKit
import Derived.ProofKit
import Derived.LoopTactic
import Derived.Lib.Hide
import Derived.OneCell
import Derived.Deep.Draws
import Derived.Laws.IdiomCopy
import Derived.WalkSpells
import Derived.WalkLawsBesides
import Derived.BigQuiet
import Derived.RegionTactic
import Derived.ChangeAlike
import Derived.Handy
import Derived.Lib.SliceRun
import Derived.Deep.LoopGhost
import Derived.Deep.WholeRow
import Derived.Test.YticbnckikkdknaaGreatDoorPn01
import Derived.Test.YticbnckikkdknaaGreatDoorPn03
namespace Go.Proofs.YticbnckikkdknaaGreatDoor.Wd
set_option linter.unusedVariables false
set_option linter.unusedSimpArgs false
open Go.RowKit

theorem rword_parts (x : Int) (w : World) (h0 : 0 ≤ x) :
    Calls Tryz.prog 30 #[.agg #[.int .u8 (x % 4), .int .u8 (x / 4 % 2), .bool (x / 8 % 2 == 1), .bool (x / 16 % 2 == 1), .int .u8 (x / 32 % 64), .int .u8 (x / 2048 % 128), .int .u8 (x / 262144 % 128)]] w fun e w' => e = .returned (.int .u64 (x % 33554432)) ∧ Below w.heap.size w w' :=
  (rword_any _ _ _ _ _ _ _ w (by omega) (by omega) (by omega) (by omega) (by omega) (by omega) (by omega) (by omega) (by omega) (by omega)).mono fun e w' ⟨he, hb⟩ => ⟨by rw [he, word_of_parts], hb⟩

theorem rtake_no1 (x : Int) (w : World) (h0 : 0 ≤ x) (h1 : x < 18446744073709551616) (hm : mayB (x % 4) (x / 4 % 2) (x / 32 % 64) (x / 2048 % 128) (x / 262144 % 128) (x / 8 % 2 == 1) (x / 16 % 2 == 1) = false) :
    Calls Tryz.prog 28 #[.int .u64 x] w fun e w' => e = .returned (.tuple #[.agg #[.int .u8 0, .int .u8 0, .bool false, .bool false, .int .u8 0, .int .u8 0, .int .u8 0], .int .i64 3]) ∧ Below w.heap.size w w' := by
  have hr : 0 ≤ x / 2048 % 128 := by omega
  go_enter Tryz.func28, Tryz.ntmps28
  go_wp2_with fail
  refine (rmay_any _ _ _ _ _ _ _ _ hr).mono ?_; rintro e w1 ⟨rfl, hb⟩
  have blk := Lib.hid (below_row hb (by simp; omega) (heap_alloc2_old w _ _))
  have bel := Lib.hid ((((Below.refl w.heap.size w).alloc (Nat.le_refl _) _).alloc (by simp) _).trans (hb.mono (by simp; omega)))
  clear hb
  go_wp2_with (refine wpList_store_row rfl 81 _ _ rfl w.heap.size _ rfl rfl 81 _ blk.out (by kernel_rfl) rfl (by simp [Value.oneCell']) ?_)
  exact bodyPost_row_tmp rfl w.heap.size 81 _ (0, 0) _ (.int .i64 3) rfl rfl rfl (setRow_heap _ _ _ _ _ _ blk.out) Tryz.underlying81 rfl (by kernel_rfl)
    ⟨rfl, below_setRow bel.out (Nat.le_refl _) _⟩

theorem rtake_no2 (x : Int) (w : World) (h0 : 0 ≤ x) (h1 : x < 18446744073709551616) (h : 33554432 ≤ x) (hm : mayB (x % 4) (x / 4 % 2) (x / 32 % 64) (x / 2048 % 128) (x / 262144 % 128) (x / 8 % 2 == 1) (x / 16 % 2 == 1) = true) :
    Calls Tryz.prog 28 #[.int .u64 x] w fun e w' => e = .returned (.tuple #[.agg #[.int .u8 0, .int .u8 0, .bool false, .bool false, .int .u8 0, .int .u8 0, .int .u8 0], .int .i64 3]) ∧ Below w.heap.size w w' := by
  have hr : 0 ≤ x / 2048 % 128 := by omega
  have hne : (x % 33554432 != x) = true := by simp; omega
  clear h
  go_enter Tryz.func28, Tryz.ntmps28
  go_wp2_with fail
  refine (rmay_any _ _ _ _ _ _ _ _ hr).mono ?_; rintro e w1 ⟨rfl, hb⟩
  obtain ⟨hc1, hf1⟩ := bcell hb
  have blk := Lib.hid (below_row hb (by simp; omega) (heap_alloc2_old w _ _))
  have bel := Lib.hid ((((Below.refl w.heap.size w).alloc (Nat.le_refl _) _).alloc (by simp) _).trans (hb.mono (by simp; omega)))
  have hz : w.heap.size + 2 ≤ w1.heap.size := by have := hb.size; simp at this; omega
  clear hb
  go_wp2_with fail
  refine (rword_parts x _ h0).mono ?_; rintro e w2 ⟨rfl, hb⟩
  have blk2 := Lib.hid (below_row hb (by omega) blk.out)
  have bel2 := Lib.hid (bel.out.trans (hb.mono (by omega)))
  clear hb hc1 hf1
  go_wp2_with (refine wpList_store_row rfl 81 _ _ rfl w.heap.size _ rfl rfl 81 _ blk2.out (by kernel_rfl) rfl (by simp [Value.oneCell']) ?_)
  exact bodyPost_row_tmp rfl w.heap.size 81 _ (0, 0) _ (.int .i64 3) rfl rfl rfl (setRow_heap _ _ _ _ _ _ blk2.out) Tryz.underlying81 rfl (by kernel_rfl)
    ⟨rfl, below_setRow bel2.out (Nat.le_refl _) _⟩

theorem rtake_yes (x : Int) (w : World) (h0 : 0 ≤ x) (h1 : x < 18446744073709551616) (h : x < 33554432) (hm : mayB (x % 4) (x / 4 % 2) (x / 32 % 64) (x / 2048 % 128) (x / 262144 % 128) (x / 8 % 2 == 1) (x / 16 % 2 == 1) = true) :
    Calls Tryz.prog 28 #[.int .u64 x] w fun e w' => e = .returned (.tuple #[.agg #[.int .u8 (x % 4), .int .u8 (x / 4 % 2), .bool (x / 8 % 2 == 1), .bool (x / 16 % 2 == 1), .int .u8 (x / 32 % 64), .int .u8 (x / 2048 % 128), .int .u8 (x / 262144 % 128)], .int .i64 0]) ∧ Below w.heap.size w w' := by
  have hr : 0 ≤ x / 2048 % 128 := by omega
  have hne : (x % 33554432 != x) = false := by simp; omega
  clear h
  go_enter Tryz.func28, Tryz.ntmps28
  go_wp2_with fail
  refine (rmay_any _ _ _ _ _ _ _ _ hr).mono ?_; rintro e w1 ⟨rfl, hb⟩
  obtain ⟨hc1, hf1⟩ := bcell hb
  have blk := Lib.hid (below_row hb (by simp; omega) (heap_alloc2_old w _ _))
  have bel := Lib.hid ((((Below.refl w.heap.size w).alloc (Nat.le_refl _) _).alloc (by simp) _).trans (hb.mono (by simp; omega)))
  have hz : w.heap.size + 1 < w1.heap.size := by have := hb.size; simp at this; omega
  clear hb
  go_wp2_with fail
  refine (rword_parts x _ h0).mono ?_; rintro e w2 ⟨rfl, hb⟩
  obtain ⟨hc2, hf2⟩ := bcell hb
  have blk2 := Lib.hid (below_row hb (by omega) blk.out)
  have bel2 := Lib.hid (bel.out.trans (hb.mono (by omega)))
  clear hb
  go_wp2_with (refine wpList_store_row rfl 81 _ _ rfl w.heap.size _ rfl rfl 81 _ blk2.out (by kernel_rfl) rfl (by simp [Value.oneCell']) ?_)
  exact bodyPost_row_tmp rfl w.heap.size 81 _ (0, 0) _ (.int .i64 0) rfl rfl rfl (setRow_heap _ _ _ _ _ _ blk2.out) Tryz.underlying81 rfl (by kernel_rfl)
    ⟨rfl, below_setRow bel2.out (Nat.le_refl _) _⟩

/-- Both Takes, where no header is the word's. -/
theorem take_none (x : Int) (w : World) (h0 : 0 ≤ x) (h1 : x < 18446744073709551616) (h : takeB x = false) :
    Calls Tryz.prog 14 #[.int .u64 x] w fun e w' => e = .returned (.tuple #[.agg #[.int .u8 0, .int .u8 0, .bool false, .bool false, .int .u8 0, .int .u8 0, .int .u8 0], .int .i64 3]) ∧ Below w.heap.size w w' := by
  by_cases hx : x < 33554432
  · exact take_no x w h0 hx (by simpa [takeB, hx] using h)
  · exact take_high x w h0 h1 (by omega)
theorem rtake_none (x : Int) (w : World) (h0 : 0 ≤ x) (h1 : x < 18446744073709551616) (h : takeB x = false) :
    Calls Tryz.prog 28 #[.int .u64 x] w fun e w' => e = .returned (.tuple #[.agg #[.int .u8 0, .int .u8 0, .bool false, .bool false, .int .u8 0, .int .u8 0, .int .u8 0], .int .i64 3]) ∧ Below w.heap.size w w' := by
  by_cases hm : mayB (x % 4) (x / 4 % 2) (x / 32 % 64) (x / 2048 % 128) (x / 262144 % 128) (x / 8 % 2 == 1) (x / 16 % 2 == 1) = true
  · by_cases hx : x < 33554432
    · simp [takeB, hx] at h
      rw [h] at hm; cases hm
    · exact rtake_no2 x w h0 h1 (by omega) hm
  · exact rtake_no1 x w h0 h1 (by simpa using hm)
theorem take_some (x : Int) (w : World) (h0 : 0 ≤ x) (h : takeB x = true) :
    Calls Tryz.prog 14 #[.int .u64 x] w fun e w' => e = .returned (.tuple #[.agg #[.int .u8 (x % 4), .int .u8 (x / 4 % 2), .bool (x / 8 % 2 == 1), .bool (x / 16 % 2 == 1), .int .u8 (x / 32 % 64), .int .u8 (x / 2048 % 128), .int .u8 (x / 262144 % 128)], .int .i64 0]) ∧ Below w.heap.size w w' := by
  simp only [takeB, Bool.and_eq_true, decide_eq_true_eq] at h
  exact take_yes x w h0 h.1 h.2
theorem rtake_some (x : Int) (w : World) (h0 : 0 ≤ x) (h : takeB x = true) :
    Calls Tryz.prog 28 #[.int .u64 x] w fun e w' => e = .returned (.tuple #[.agg #[.int .u8 (x % 4), .int .u8 (x / 4 % 2), .bool (x / 8 % 2 == 1), .bool (x / 16 % 2 == 1), .int .u8 (x / 32 % 64), .int .u8 (x / 2048 % 128), .int .u8 (x / 262144 % 128)], .int .i64 0]) ∧ Below w.heap.size w w' := by
  simp only [takeB, Bool.and_eq_true, decide_eq_true_eq] at h
  exact rtake_yes x w h0 (by omega) h.1 h.2

end Go.Proofs.YticbnckikkdknaaGreatDoor.Wd

namespace Go.Proofs.YticbnckikkdknaaGreatDoor.Cl
set_option linter.unusedVariables false
set_option linter.unusedSimpArgs false
open Go.RowKit

/-- The package's table. -/
structure Tab (w : World) : Prop where
  c0 : w.cell? ⟨0, 0, none⟩ = some (.int .i64 1)
  c1 : w.cell? ⟨0, 1, none⟩ = some (.int .i64 2)
  c2 : w.cell? ⟨0, 2, none⟩ = some (.int .i64 4)
  c3 : w.cell? ⟨0, 3, none⟩ = some (.int .i64 8)

/-- Fields, words, cells of a class. -/
def rmC (c : Int) : Int := if c = 0 then 1 else if c = 1 then 2 else if c = 2 then 4 else if c = 3 then 8 else 0
def wdC (c : Int) : Int := if c = 0 then 2 else if c = 1 then 3 else if c = 2 then 5 else if c = 3 then 9 else 0
def clC (c : Int) : Int := if c = 0 then 16 else if c = 1 then 10 else if c = 2 then 6 else if c = 3 then 3 else 0

theorem class_cases (c : Int) : c = 0 ∨ c = 1 ∨ c = 2 ∨ c = 3 ∨ (c < 0 ∨ 3 < c) := by omega
theorem rm_out {c : Int} (h : c < 0 ∨ 3 < c) : rmC c = 0 := by unfold rmC; repeat (first | rw [if_neg (by omega)] | rfl)
theorem wd_out {c : Int} (h : c < 0 ∨ 3 < c) : wdC c = 0 := by unfold wdC; repeat (first | rw [if_neg (by omega)] | rfl)
theorem cl_out {c : Int} (h : c < 0 ∨ 3 < c) : clC c = 0 := by unfold clC; repeat (first | rw [if_neg (by omega)] | rfl)

theorem room_is (w : World) (T : Tab w) (c r : Int) (h : rmC c = r) : Calls Tryz.prog 141 #[.int .i64 c] w fun e w' => e = .returned (.int .i64 r) ∧ w = w' := by
  obtain ⟨t0, t1, t2, t3⟩ := T
  subst h
  rcases class_cases c with rfl | rfl | rfl | rfl | h
  · go_enter Tryz.func141, Tryz.ntmps141
    go_wp2
    go_ret
    exact ⟨rfl, rfl⟩
  · go_enter Tryz.func141, Tryz.ntmps141
    go_wp2
    go_ret
    exact ⟨rfl, rfl⟩
  · go_enter Tryz.func141, Tryz.ntmps141
    go_wp2
    go_ret
    exact ⟨rfl, rfl⟩
  · go_enter Tryz.func141, Tryz.ntmps141
    go_wp2
    go_ret
    exact ⟨rfl, rfl⟩
  · rw [rm_out h]
    rcases h with h | h
    · go_enter Tryz.func141, Tryz.ntmps141
      go_wp2
      go_ret
      exact ⟨rfl, rfl⟩
    · have h0 : 0 ≤ c := by omega
      go_enter Tryz.func141, Tryz.ntmps141
      go_wp2
      go_ret
      exact ⟨rfl, rfl⟩

theorem words_is (w : World) (T : Tab w) (c n : Int) (h : wdC c = n) : Calls Tryz.prog 107 #[.int .i64 c] w fun e w' => e = .returned (.int .i64 n) ∧ w = w' := by
  subst h
  rcases class_cases c with rfl | rfl | rfl | rfl | h
  · go_enter Tryz.func107, Tryz.ntmps107
    go_wp2_with ((refine (room_is w T 0 1 rfl).mono ?_); rintro e w' ⟨rfl, rfl⟩)
    go_ret
    exact ⟨rfl, rfl⟩
  · go_enter Tryz.func107, Tryz.ntmps107
    go_wp2_with ((refine (room_is w T 1 2 rfl).mono ?_); rintro e w' ⟨rfl, rfl⟩)
    go_ret
    exact ⟨rfl, rfl⟩
  · go_enter Tryz.func107, Tryz.ntmps107
    go_wp2_with ((refine (room_is w T 2 4 rfl).mono ?_); rintro e w' ⟨rfl, rfl⟩)
    go_ret
    exact ⟨rfl, rfl⟩
  · go_enter Tryz.func107, Tryz.ntmps107
    go_wp2_with ((refine (room_is w T 3 8 rfl).mono ?_); rintro e w' ⟨rfl, rfl⟩)
    go_ret
    exact ⟨rfl, rfl⟩
  · rw [wd_out h]
    have hr := rm_out h
    have HR := Lib.hid hr
    clear hr
    go_enter Tryz.func107, Tryz.ntmps107
    go_wp2_with ((refine (room_is w T c 0 HR.out).mono ?_); rintro e w' ⟨rfl, rfl⟩)
    go_ret
    exact ⟨rfl, rfl⟩

theorem cells_is (w : World) (T : Tab w) (c m : Int) (h : clC c = m) : Calls Tryz.prog 106 #[.int .i64 c] w fun e w' => e = .returned (.int .i64 m) ∧ w = w' := by
  subst h
  rcases class_cases c with rfl | rfl | rfl | rfl | h
  · go_enter Tryz.func106, Tryz.ntmps106
    go_wp2_with ((refine (words_is w T 0 2 rfl).mono ?_); rintro e w' ⟨rfl, rfl⟩)
    go_ret
    exact ⟨rfl, rfl⟩
  · go_enter Tryz.func106, Tryz.ntmps106
    go_wp2_with ((refine (words_is w T 1 3 rfl).mono ?_); rintro e w' ⟨rfl, rfl⟩)
    go_ret
    exact ⟨rfl, rfl⟩
  · go_enter Tryz.func106, Tryz.ntmps106
    go_wp2_with ((refine (words_is w T 2 5 rfl).mono ?_); rintro e w' ⟨rfl, rfl⟩)
    go_ret
    exact ⟨rfl, rfl⟩
  · go_enter Tryz.func106, Tryz.ntmps106
    go_wp2_with ((refine (words_is w T 3 9 rfl).mono ?_); rintro e w' ⟨rfl, rfl⟩)
    go_ret
    exact ⟨rfl, rfl⟩
  · rw [cl_out h]
    have hr := wd_out h
    have HR := Lib.hid hr
    clear hr
    go_enter Tryz.func106, Tryz.ntmps106
    go_wp2_with ((refine (words_is w T c 0 HR.out).mono ?_); rintro e w' ⟨rfl, rfl⟩)
    go_ret
    exact ⟨rfl, rfl⟩

theorem rwords_is (w : World) (c n : Int) (h : wdC c = n) : Calls Tryz.prog 127 #[.int .i64 c] w fun e w' => e = .returned (.int .i64 n) ∧ w = w' := by
  subst h
  rcases class_cases c with rfl | rfl | rfl | rfl | h
  · go_enter Tryz.func127, Tryz.ntmps127
    go_wp2
    go_ret
    exact ⟨rfl, rfl⟩
  · go_enter Tryz.func127, Tryz.ntmps127
    go_wp2
    go_ret
    exact ⟨rfl, rfl⟩
  · go_enter Tryz.func127, Tryz.ntmps127
    go_wp2
    go_ret
    exact ⟨rfl, rfl⟩
  · go_enter Tryz.func127, Tryz.ntmps127
    go_wp2
    go_ret
    exact ⟨rfl, rfl⟩
  · rw [wd_out h]
    have h0 : ¬ c = 0 := by omega
    have h1 : ¬ c = 1 := by omega
    have h2 : ¬ c = 2 := by omega
    have h3 : ¬ c = 3 := by omega
    go_enter Tryz.func127, Tryz.ntmps127
    go_wp2
    go_ret
    exact ⟨rfl, rfl⟩

end Go.Proofs.YticbnckikkdknaaGreatDoor.Cl

namespace Go.Proofs.YticbnckikkdknaaGreatDoor.Cl
set_option linter.unusedVariables false
set_option linter.unusedSimpArgs false
open Go.RowKit

/-- The class of an object of so many fields, or -1. -/
def ofC (f : Int) : Int := if f < 0 then -1 else if f ≤ 1 then 0 else if f ≤ 2 then 1 else if f ≤ 4 then 2 else if f ≤ 8 then 3 else -1
/-- The blocks of a large object, or 0. -/
def runC (f : Int) : Int := if f < 9 then 0 else if f < 32 then 1 else if f < 64 then 2 else if f < 96 then 3 else 0

theorem of_ofs (f : Int) : (f < 0 ∧ ofC f = -1) ∨ (0 ≤ f ∧ f ≤ 1 ∧ ofC f = 0) ∨ (f = 2 ∧ ofC f = 1) ∨ (2 < f ∧ f ≤ 4 ∧ ofC f = 2) ∨ (4 < f ∧ f ≤ 8 ∧ ofC f = 3) ∨ (8 < f ∧ ofC f = -1) := by
  unfold ofC; repeat' split
  all_goals omega
theorem run_ofs (f : Int) : (f < 9 ∧ runC f = 0) ∨ (9 ≤ f ∧ f < 32 ∧ runC f = 1) ∨ (32 ≤ f ∧ f < 64 ∧ runC f = 2) ∨ (64 ≤ f ∧ f < 96 ∧ runC f = 3) ∨ (96 ≤ f ∧ runC f = 0) := by
  unfold runC; repeat' split
  all_goals omega

theorem ret_ib {k : IntKind} {a b : Int} {p q : Bool} (h : a = b) (g : p = q) : Ending.returned (.tuple #[.int k a, .bool p]) = .returned (.tuple #[.int k b, .bool q]) := by rw [h, g]

/-- Ahead of a round of Of's loop. -/
def Past (f : Int) (k : Nat) : Prop := k = 0 ∨ (k = 1 ∧ 1 < f) ∨ (k = 2 ∧ 2 < f) ∨ (k = 3 ∧ 4 < f) ∨ (k = 4 ∧ 8 < f)

theorem of_yes (w : World) (T : Tab w) (f a : Int) (h0 : 0 ≤ f) (h : ofC f = a) (ha : 0 ≤ a) : Calls Tryz.prog 93 #[.int .i64 f] w fun e w' => e = .returned (.tuple #[.int .i64 a, .bool true]) ∧ w = w' := by
  obtain ⟨t0, t1, t2, t3⟩ := T
  have H := of_ofs f
  have HH : Hid (ofC f = a) := h
  clear h
  have key : ∀ k : Int, 0 ≤ k → ofC f = k → a = k := fun k hk hh => by have := HH.out; omega
  have KK := Lib.hid key
  have H2 := Lib.hid H
  clear key H
  go_enter Tryz.func93, Tryz.ntmps93
  go_wp2
  go_loop [7] (fun i => ∃ k : Nat, Past f k ∧ i = .int .i64 k) (fun i => 4 - (intOf i).toNat)
  case atStart => exact ⟨0, .inl rfl, rfl⟩
  case round =>
    obtain ⟨k, hk, rfl⟩ := hrel
    rcases hk with rfl | ⟨rfl, h1⟩ | ⟨rfl, h1⟩ | ⟨rfl, h1⟩ | ⟨rfl, h1⟩
    · by_cases c : f ≤ 1
      · obtain rfl : a = 0 := KK.out 0 (by omega) (by have := H2.out; omega)
        go_wp2
        go_ret2
        exact ⟨rfl, rfl⟩
      · go_wp2
        go_round
        case rel => exact ⟨1, .inr (.inl ⟨rfl, by omega⟩), rfl⟩
        case measure => simp [intOf]
    · by_cases c : f ≤ 2
      · obtain rfl : a = 1 := KK.out 1 (by omega) (by have := H2.out; omega)
        go_wp2
        go_ret2
        exact ⟨rfl, rfl⟩
      · go_wp2
        go_round
        case rel => exact ⟨2, .inr (.inr (.inl ⟨rfl, by omega⟩)), rfl⟩
        case measure => simp [intOf]
    · by_cases c : f ≤ 4
      · obtain rfl : a = 2 := KK.out 2 (by omega) (by have := H2.out; omega)
        go_wp2
        go_ret2
        exact ⟨rfl, rfl⟩
      · go_wp2
        go_round
        case rel => exact ⟨3, .inr (.inr (.inr (.inl ⟨rfl, by omega⟩))), rfl⟩
        case measure => simp [intOf]
    · by_cases c : f ≤ 8
      · obtain rfl : a = 3 := KK.out 3 (by omega) (by have := H2.out; omega)
        go_wp2
        go_ret2
        exact ⟨rfl, rfl⟩
      · exfalso
        have := H2.out; have := HH.out; omega
    · exfalso
      have := H2.out; have := HH.out; omega

theorem of_no (w : World) (T : Tab w) (f : Int) (h : ofC f = -1) : Calls Tryz.prog 93 #[.int .i64 f] w fun e w' => e = .returned (.tuple #[.int .i64 0, .bool false]) ∧ w = w' := by
  obtain ⟨t0, t1, t2, t3⟩ := T
  have H := of_ofs f
  by_cases h0 : f < 0
  · clear h H
    go_enter Tryz.func93, Tryz.ntmps93
    go_wp2
    go_ret2
    exact ⟨rfl, rfl⟩
  · have h8 : 8 < f := by omega
    clear h H
    go_enter Tryz.func93, Tryz.ntmps93
    go_wp2
    go_loop [7] (fun i => ∃ k : Nat, k ≤ 4 ∧ i = .int .i64 k) (fun i => 4 - (intOf i).toNat)
    case atStart => exact ⟨0, by omega, rfl⟩
    case round =>
      obtain ⟨k, hk, rfl⟩ := hrel
      have hk' : k = 0 ∨ k = 1 ∨ k = 2 ∨ k = 3 ∨ k = 4 := by omega
      rcases hk' with rfl | rfl | rfl | rfl | rfl
      · go_wp2
        go_round
        case rel => exact ⟨1, by omega, rfl⟩
        case measure => simp [intOf]
      · go_wp2
        go_round
        case rel => exact ⟨2, by omega, rfl⟩
        case measure => simp [intOf]
      · go_wp2
        go_round
        case rel => exact ⟨3, by omega, rfl⟩
        case measure => simp [intOf]
      · go_wp2
        go_round
        case rel => exact ⟨4, by omega, rfl⟩
        case measure => simp [intOf]
      · go_wp2
        go_ret2
        exact ⟨rfl, rfl⟩

theorem run_is (w : World) (f n : Int) (h : runC f = n) : Calls Tryz.prog 136 #[.int .i64 f] w fun e w' => e = .returned (.tuple #[.int .i64 n, .bool (decide (0 < n))]) ∧ w = w' := by
  rcases run_ofs f with ⟨h1, hr⟩ | ⟨h1, h2, hr⟩ | ⟨h1, h2, hr⟩ | ⟨h1, h2, hr⟩ | ⟨h1, hr⟩
  · obtain rfl : n = 0 := by omega
    clear h hr
    go_enter Tryz.func136, Tryz.ntmps136
    go_wp2
    go_ret2
    exact ⟨rfl, rfl⟩
  · obtain rfl : n = 1 := by omega
    clear h hr
    go_enter Tryz.func136, Tryz.ntmps136
    go_wp2
    go_ret2
    exact ⟨ret_ib (by omega) rfl, rfl⟩
  · obtain rfl : n = 2 := by omega
    clear h hr
    go_enter Tryz.func136, Tryz.ntmps136
    go_wp2
    go_ret2
    exact ⟨ret_ib (by omega) rfl, rfl⟩
  · obtain rfl : n = 3 := by omega
    clear h hr
    go_enter Tryz.func136, Tryz.ntmps136
    go_wp2
    go_ret2
    exact ⟨ret_ib (by omega) rfl, rfl⟩
  · obtain rfl : n = 0 := by omega
    clear h hr
    go_enter Tryz.func136, Tryz.ntmps136
    go_wp2
    go_ret2
    exact ⟨rfl, rfl⟩

theorem rrun_is (w : World) (f n : Int) (h : runC f = n) : Calls Tryz.prog 96 #[.int .i64 f] w fun e w' => e = .returned (.int .i64 n) ∧ w = w' := by
  rcases run_ofs f with ⟨h1, hr⟩ | ⟨h1, h2, hr⟩ | ⟨h1, h2, hr⟩ | ⟨h1, h2, hr⟩ | ⟨h1, hr⟩
  · obtain rfl : n = 0 := by omega
    clear h hr
    go_enter Tryz.func96, Tryz.ntmps96
    go_wp2
    go_ret
    exact ⟨rfl, rfl⟩
  · obtain rfl : n = 1 := by omega
    clear h hr
    go_enter Tryz.func96, Tryz.ntmps96
    go_wp2
    go_ret
    exact ⟨rfl, rfl⟩
  · obtain rfl : n = 2 := by omega
    clear h hr
    go_enter Tryz.func96, Tryz.ntmps96
    go_wp2
    go_ret
    exact ⟨rfl, rfl⟩
  · obtain rfl : n = 3 := by omega
    clear h hr
    go_enter Tryz.func96, Tryz.ntmps96
    go_wp2
    go_ret
    exact ⟨rfl, rfl⟩
  · obtain rfl : n = 0 := by omega
    clear h hr
    go_enter Tryz.func96, Tryz.ntmps96
    go_wp2
    go_ret
    exact ⟨rfl, rfl⟩

theorem rof_is (w : World) (f a : Int) (hf : f ≤ 1099511627776) (h : ofC f = a) : Calls Tryz.prog 99 #[.int .i64 f] w fun e w' => e = .returned (.int .i64 a) ∧ w = w' := by
  have H := Lib.hid (of_ofs f)
  have HH : Hid (ofC f = a) := h
  clear h
  have key : ∀ k : Int, ofC f = k → a = k := fun k hh => by have := HH.out; omega
  have KK := Lib.hid key
  clear key
  by_cases h0 : f < 0
  · obtain rfl : a = -1 := KK.out (-1) (by have := H.out; omega)
    go_enter Tryz.func99, Tryz.ntmps99
    go_wp2
    go_loop [3] (fun i => ∃ k : Nat, k ≤ 4 ∧ i = .int .i64 k) (fun i => 4 - (intOf i).toNat)
    case atStart => exact ⟨0, by omega, rfl⟩
    case round =>
      obtain ⟨k, hk, rfl⟩ := hrel
      by_cases hk4 : k < 4
      · go_wp2
        go_round
        case rel => exact ⟨k + 1, by omega, by go_num⟩
        case measure => simp [intOf]; omega
      · go_wp2
        go_ret
        exact ⟨rfl, rfl⟩
  · have h0' : 0 ≤ f := by omega
    go_enter Tryz.func99, Tryz.ntmps99
    go_wp2
    go_loop [3] (fun i => ∃ k : Nat, Past f k ∧ i = .int .i64 k) (fun i => 4 - (intOf i).toNat)
    case atStart => exact ⟨0, .inl rfl, rfl⟩
    case round =>
      obtain ⟨k, hk, rfl⟩ := hrel
      rcases hk with rfl | ⟨rfl, h1⟩ | ⟨rfl, h1⟩ | ⟨rfl, h1⟩ | ⟨rfl, h1⟩
      · by_cases c : f + 1 ≤ 2
        · obtain rfl : a = 0 := KK.out 0 (by have := H.out; omega)
          go_wp2_with ((refine (rwords_is w 0 2 rfl).mono ?_); rintro e w' ⟨rfl, rfl⟩)
          go_ret
          exact ⟨rfl, rfl⟩
        · go_wp2_with ((refine (rwords_is w 0 2 rfl).mono ?_); rintro e w' ⟨rfl, rfl⟩)
          go_round
          case rel => exact ⟨1, .inr (.inl ⟨rfl, by omega⟩), rfl⟩
          case measure => simp [intOf]
      · by_cases c : f + 1 ≤ 3
        · obtain rfl : a = 1 := KK.out 1 (by have := H.out; omega)
          go_wp2_with ((refine (rwords_is w 1 3 rfl).mono ?_); rintro e w' ⟨rfl, rfl⟩)
          go_ret
          exact ⟨rfl, rfl⟩
        · go_wp2_with ((refine (rwords_is w 1 3 rfl).mono ?_); rintro e w' ⟨rfl, rfl⟩)
          go_round
          case rel => exact ⟨2, .inr (.inr (.inl ⟨rfl, by omega⟩)), rfl⟩
          case measure => simp [intOf]
      · by_cases c : f + 1 ≤ 5
        · obtain rfl : a = 2 := KK.out 2 (by have := H.out; omega)
          go_wp2_with ((refine (rwords_is w 2 5 rfl).mono ?_); rintro e w' ⟨rfl, rfl⟩)
          go_ret
          exact ⟨rfl, rfl⟩
        · go_wp2_with ((refine (rwords_is w 2 5 rfl).mono ?_); rintro e w' ⟨rfl, rfl⟩)
          go_round
          case rel => exact ⟨3, .inr (.inr (.inr (.inl ⟨rfl, by omega⟩))), rfl⟩
          case measure => simp [intOf]
      · by_cases c : f + 1 ≤ 9
        · obtain rfl : a = 3 := KK.out 3 (by have := H.out; omega)
          go_wp2_with ((refine (rwords_is w 3 9 rfl).mono ?_); rintro e w' ⟨rfl, rfl⟩)
          go_ret
          exact ⟨rfl, rfl⟩
        · go_wp2_with ((refine (rwords_is w 3 9 rfl).mono ?_); rintro e w' ⟨rfl, rfl⟩)
          go_round
          case rel => exact ⟨4, .inr (.inr (.inr (.inr ⟨rfl, by omega⟩))), rfl⟩
          case measure => simp [intOf]
      · obtain rfl : a = -1 := KK.out (-1) (by have := H.out; omega)
        go_wp2
        go_ret
        exact ⟨rfl, rfl⟩

end Go.Proofs.YticbnckikkdknaaGreatDoor.Cl

namespace Go.Proofs.YticbnckikkdknaaGreatDoor.Li
set_option linter.unusedVariables false
set_option linter.unusedSimpArgs false

/-- The first place of xs at which q holds, or -1. -/
def idxI (q : Int → Bool) (xs : List Int) : Int := if xs.any q then (xs.findIdx q : Nat) else -1

theorem getD_lt (xs : List Int) (k : Nat) (h : k < xs.length) : xs.getD k 0 = xs[k] := by simp [List.getD, h]
theorem idx_hit {q : Int → Bool} {xs : List Int} {k : Nat} (hk : k < xs.length) (h : q (xs.getD k 0) = true) (hn : ∀ j, j < k → q (xs.getD j 0) = false) : idxI q xs = k := by
  rw [getD_lt _ _ hk] at h
  have ha : xs.any q = true := List.any_eq_true.2 ⟨_, List.getElem_mem hk, h⟩
  rw [idxI, if_pos ha]
  have : xs.findIdx q = k := by
    rw [List.findIdx_eq hk]
    exact ⟨h, fun j hj => by have := hn j hj; rw [getD_lt _ _ (by omega)] at this; exact this⟩
  rw [this]
theorem idx_miss {q : Int → Bool} {xs : List Int} (hn : ∀ j, j < xs.length → q (xs.getD j 0) = false) : idxI q xs = -1 := by
  rw [idxI, if_neg]
  intro h
  obtain ⟨x, hx, hq⟩ := List.any_eq_true.1 h
  obtain ⟨j, hj, rfl⟩ := List.getElem_of_mem hx
  have := hn j hj
  rw [getD_lt _ _ hj] at this
  rw [hq] at this; cases this
theorem idx_ge (q : Int → Bool) (xs : List Int) : decide (0 ≤ idxI q xs) = xs.any q := by
  unfold idxI
  split
  · rename_i h; rw [h]; simp
  · rename_i h
    rw [Bool.not_eq_true] at h
    rw [h]; simp
theorem idx_none {q : Int → Bool} {xs : List Int} (h : idxI q xs = -1) : xs.filter (fun x => !q x) = xs := by
  unfold idxI at h
  split at h
  · omega
  · rename_i h1
    rw [List.filter_eq_self]
    intro a ha
    cases hq : q a
    · rfl
    · exact absurd (List.any_eq_true.2 ⟨a, ha, hq⟩) h1
theorem idx_some {q : Int → Bool} {xs : List Int} (h : idxI q xs ≠ -1) : ∃ k : Nat, idxI q xs = k ∧ k < xs.length ∧ q (xs.getD k 0) = true ∧ ∀ j, j < k → q (xs.getD j 0) = false := by
  unfold idxI at h ⊢
  split at h
  · rename_i h1
    rw [if_pos h1]
    obtain ⟨x, hx, hq⟩ := List.any_eq_true.1 h1
    have hl : xs.findIdx q < xs.length := List.findIdx_lt_length_of_exists ⟨x, hx, hq⟩
    refine ⟨_, rfl, hl, ?_, ?_⟩
    · rw [getD_lt _ _ hl]; exact List.findIdx_getElem (w := hl)
    · intro j hj
      rw [getD_lt _ _ (by omega)]
      have := List.not_of_lt_findIdx hj
      simpa using this
  · exact absurd rfl h

/-- What is kept of the first j of xs. -/
def kept (q : Int → Bool) (xs : List Int) (j : Nat) : List Int := (xs.take j).filter (fun x => !q x)

theorem kept_step_no {q : Int → Bool} {xs : List Int} {j : Nat} (hj : j < xs.length) (h : q (xs.getD j 0) = true) : kept q xs (j + 1) = kept q xs j := by
  rw [getD_lt _ _ hj] at h
  unfold kept
  rw [List.take_succ_eq_append_getElem hj, List.filter_append]
  simp [h]
theorem kept_step_yes {q : Int → Bool} {xs : List Int} {j : Nat} (hj : j < xs.length) (h : q (xs.getD j 0) = false) : kept q xs (j + 1) = kept q xs j ++ [xs.getD j 0] := by
  rw [getD_lt _ _ hj] at h ⊢
  unfold kept
  rw [List.take_succ_eq_append_getElem hj, List.filter_append]
  simp [h]
theorem kept_all (q : Int → Bool) (xs : List Int) : kept q xs xs.length = xs.filter (fun x => !q x) := by simp [kept]
theorem kept_first {q : Int → Bool} {xs : List Int} {k : Nat} (hk : k < xs.length) (h : q (xs.getD k 0) = true) (hn : ∀ j, j < k → q (xs.getD j 0) = false) : kept q xs (k + 1) = xs.take k := by
  rw [kept_step_no hk h, kept, List.filter_eq_self]
  intro a ha
  obtain ⟨j, hj, rfl⟩ := List.getElem_of_mem ha
  have hj' : j < k := by simp at hj; omega
  have := hn j hj'
  rw [getD_lt _ _ (by omega)] at this
  simpa using this

/-- How far the row is: the first of d are what is kept of the first j, and from j on d is xs. -/
structure Far (q : Int → Bool) (xs d : List Int) (i j : Nat) : Prop where
  len : d.length = xs.length
  hi : i = (kept q xs j).length
  hd : d.take i = kept q xs j
  hr : ∀ m, j ≤ m → d.getD m 0 = xs.getD m 0
  lt : i < j

theorem Far.start {q : Int → Bool} {xs : List Int} {k : Nat} (hk : k < xs.length) (h : q (xs.getD k 0) = true) (hn : ∀ j, j < k → q (xs.getD j 0) = false) : Far q xs xs k (k + 1) := by
  have e := kept_first hk h hn
  refine ⟨rfl, ?_, e.symm, fun _ _ => rfl, by omega⟩
  rw [e]; simp; omega
theorem Far.no {q : Int → Bool} {xs d : List Int} {i j : Nat} (F : Far q xs d i j) (hj : j < xs.length) (h : q (xs.getD j 0) = true) : Far q xs d i (j + 1) :=
  ⟨F.len, by rw [kept_step_no hj h]; exact F.hi, by rw [kept_step_no hj h]; exact F.hd, fun m hm => F.hr m (by omega), by have := F.lt; omega⟩
theorem Far.yes {q : Int → Bool} {xs d : List Int} {i j : Nat} (F : Far q xs d i j) (hj : j < xs.length) (h : q (xs.getD j 0) = false) : Far q xs (d.set i (xs.getD j 0)) (i + 1) (j + 1) := by
  have hlt := F.lt
  have hid : i < d.length := by have := F.len; omega
  refine ⟨by rw [List.length_set]; exact F.len, ?_, ?_, ?_, by omega⟩
  · rw [kept_step_yes hj h, List.length_append, ← F.hi]; rfl
  · rw [kept_step_yes hj h, ← F.hd, List.take_succ_eq_append_getElem (by simpa using hid), List.take_set_of_le (Nat.le_refl _)]
    simp
  · intro m hm
    rw [← F.hr m (by omega)]
    simp only [List.getD]
    rw [List.getElem?_set_ne (by omega)]
theorem Far.fin {q : Int → Bool} {xs d : List Int} {i : Nat} (F : Far q xs d i xs.length) : d.take i = xs.filter (fun x => !q x) ∧ i = (xs.filter (fun x => !q x)).length ∧ i < xs.length := by
  have h1 := F.hd
  have h2 := F.hi
  rw [kept_all] at h1 h2
  exact ⟨h1, h2, F.lt⟩

/-- How far a row is turned round: what lies outside of i .. j is turned. -/
structure Rvd (xs d : List Int) (i : Nat) (j : Int) : Prop where
  len : d.length = xs.length
  hij : (i : Int) + j + 1 = xs.length
  hd : ∀ m, m < xs.length → d.getD m 0 = if (m < i ∨ j < m) then xs.getD (xs.length - 1 - m) 0 else xs.getD m 0

theorem Rvd.start (xs : List Int) : Rvd xs xs 0 ((xs.length : Int) - 1) := ⟨rfl, by omega, fun m hm => by rw [if_neg (by omega)]⟩
theorem Rvd.step {xs d : List Int} {i : Nat} {j : Int} (h : Rvd xs d i j) (hlt : (i : Int) < j) : Rvd xs ((d.set i (d.getD j.toNat 0)).set j.toNat (d.getD i 0)) (i + 1) (j - 1) := by
  obtain ⟨h1, h2, h3⟩ := h
  obtain ⟨k, rfl⟩ : ∃ k : Nat, j = k := ⟨j.toNat, by omega⟩
  have hik : i < k := by omega
  refine ⟨by simpa using h1, by omega, fun m hm => ?_⟩
  have ei := h3 i (by omega)
  have ek := h3 k (by omega)
  rw [if_neg (by omega)] at ei ek
  simp only [Int.toNat_natCast]
  by_cases hmk : m = k
  · subst hmk
    rw [if_pos (by omega)]
    rw [List.getD, List.getElem?_set_self (by simp; omega)]
    simp only [Option.getD_some]
    rw [ei]; congr 1; omega
  · by_cases hmi : m = i
    · subst hmi
      rw [if_pos (by omega)]
      rw [List.getD, List.getElem?_set_ne (by omega), List.getElem?_set_self (by omega)]
      simp only [Option.getD_some]
      rw [ek]; congr 1; omega
    · rw [List.getD, List.getElem?_set_ne (by omega), List.getElem?_set_ne (by omega)]
      have := h3 m hm
      rw [List.getD] at this
      rw [this]
      by_cases hc : m < i ∨ (k : Int) < m
      · rw [if_pos hc, if_pos (by omega)]
      · rw [if_neg hc, if_neg (by omega)]
theorem Rvd.fin {xs d : List Int} {i : Nat} {j : Int} (h : Rvd xs d i j) (hge : ¬ (i : Int) < j) : d = xs.reverse := by
  obtain ⟨h1, h2, h3⟩ := h
  apply List.ext_getElem (by simpa using h1)
  intro m hm1 hm2
  have hm : m < xs.length := by omega
  have := h3 m hm
  rw [getD_lt _ _ hm1] at this
  rw [this, List.getElem_reverse]
  by_cases hc : m < i ∨ j < m
  · rw [if_pos hc, getD_lt _ _ (by omega)]
  · rw [if_neg hc, getD_lt _ _ hm]
    congr 1; omega

end Go.Proofs.YticbnckikkdknaaGreatDoor.Li

namespace Go.Proofs.YticbnckikkdknaaGreatDoor.Li
set_option linter.unusedVariables false
set_option linter.unusedSimpArgs false
open Go.RowKit

def ints (xs : List Int) : List Value := xs.map (Value.int .i64)
theorem ints_len (xs : List Int) : (ints xs).length = xs.length := by simp [ints]
theorem ints_get (xs : List Int) (i : Nat) (h : i < xs.length) : (ints xs)[i]? = some (.int .i64 (xs.getD i 0)) := by simp [ints, List.getD, h]
theorem ints_snoc (xs : List Int) (z : Int) : ints (xs ++ [z]) = ints xs ++ [.int .i64 z] := by simp [ints]
theorem ints_take (xs : List Int) (i : Nat) : (ints xs).take i = ints (xs.take i) := by simp [ints, List.map_take]

/-- The block that a slice leads to, as a list. -/
def blk (v : Value) : List Nat := v.ownBlock.toList
theorem blk_nil : blk (.slice none 0 0) = [] := rfl
theorem blk_some (g o n c : Nat) : blk (.slice (some ⟨g, o, none⟩) n c) = [g] := rfl

/-- The numbers xs lie at the head of the row to which v leads. -/
def Rw (w : World) (v : Value) (xs : List Int) : Prop :=
  (v = .slice none 0 0 ∧ xs = []) ∨
  ∃ g cap cur, v = .slice (some ⟨g, 0, none⟩) xs.length cap ∧ w.heap[g]? = some (.cells cur 3 (0, 0)) ∧ xs.length ≤ cap ∧ cap ≤ maxLen ∧ cur.size = cap ∧ cur.toList.take xs.length = ints xs

theorem Rw.nil (w : World) : Rw w (.slice none 0 0) [] := .inl ⟨rfl, rfl⟩
theorem Rw.own {w : World} {v : Value} {xs : List Int} (h : Rw w v xs) : w.ownsRow 0 3 1 v xs.length (ints xs) := by
  rcases h with ⟨rfl, rfl⟩ | ⟨g, cap, cur, rfl, hg, h1, h2, h3, h4⟩
  · exact World.ownsRow_nil _ _ _ _
  · exact ⟨by simp [ints], .inr ⟨g, cap, cur, rfl, Nat.zero_le _, hg, h1, h2, by omega, by simpa using h4⟩⟩
theorem Rw.of_own {w : World} {base : Nat} {v : Value} {xs : List Int} (h : w.ownsRow base 3 1 v xs.length (ints xs)) : Rw w v xs := by
  rcases h.2 with ⟨rfl, h0⟩ | ⟨g, cap, cur, rfl, hge, hg, h1, h2, h3, h4⟩
  · exact .inl ⟨rfl, List.eq_nil_of_length_eq_zero h0⟩
  · exact .inr ⟨g, cap, cur, rfl, hg, h1, h2, by omega, by simpa using h4⟩
theorem Rw.keep {w w' : World} {v : Value} {xs : List Int} {S : List Nat} (h : Rw w v xs) (k : Kp S w w') (hS : ∀ g ∈ blk v, g ∉ S) : Rw w' v xs := by
  rcases h with h | ⟨g, cap, cur, rfl, hg, r⟩
  · exact .inl h
  · exact .inr ⟨g, cap, cur, rfl, k.row (hS g (by simp [blk_some])) hg, r⟩
theorem Rw.keep0 {w w' : World} {v : Value} {xs : List Int} (h : Rw w v xs) (k : Kp [] w w') : Rw w' v xs := h.keep k (by simp)
theorem Rw.lt {w : World} {v : Value} {xs : List Int} (h : Rw w v xs) : ∀ g ∈ blk v, g < w.heap.size := by
  rcases h with ⟨rfl, rfl⟩ | ⟨g, cap, cur, rfl, hg, r⟩
  · simp [blk_nil]
  · intro k hk
    rw [blk_some, List.mem_singleton] at hk
    subst hk
    exact lt_of_block hg
/-- What block it is. -/
theorem Rw.block {w : World} {v : Value} {xs : List Int} (h : Rw w v xs) : ∀ g ∈ blk v, ∃ cur, w.heap[g]? = some (.cells cur 3 (0, 0)) := by
  rcases h with ⟨rfl, rfl⟩ | ⟨g, cap, cur, rfl, hg, r⟩
  · simp [blk_nil]
  · intro k hk
    rw [blk_some, List.mem_singleton] at hk
    subst hk
    exact ⟨_, hg⟩
/-- The two forms of a row that has something: where its cells lie. -/
theorem row_cell {w : World} {g : Nat} {cur : Array Value} {xs : List Int} (hg : w.heap[g]? = some (.cells cur 3 (0, 0))) (h4 : cur.toList.take xs.length = ints xs) {i : Nat} (hi : i < xs.length) : w.cell? ⟨g, i, none⟩ = some (.int .i64 (xs.getD i 0)) := by
  rw [cell_of_row hg, ← ints_get xs i hi, ← h4, List.getElem?_take_of_lt hi]; simp
theorem row_set {cur : Array Value} {xs : List Int} (h4 : cur.toList.take xs.length = ints xs) (i : Nat) (z : Int) : (cur.setIfInBounds i (.int .i64 z)).toList.take (xs.set i z).length = ints (xs.set i z) := by
  rw [Array.toList_setIfInBounds, List.take_set, List.length_set, h4]
  simp [ints, List.map_set]

/-- A row cut to its first i. -/
theorem row_cut {cur : Array Value} {xs : List Int} (h4 : cur.toList.take xs.length = ints xs) {i : Nat} (hi : i ≤ xs.length) : cur.toList.take (xs.take i).length = ints (xs.take i) := by
  have : (cur.toList.take xs.length).take i = (ints xs).take i := by rw [h4]
  rw [List.take_take, ints_take, Nat.min_eq_left hi] at this
  rw [List.length_take, Nat.min_eq_left hi]; exact this

/-- Cells that are set from o on. -/
theorem setCells_block (b : Nat) : ∀ (vs : List Value) (o : Nat) (w : World) (cur : Array Value) (t : TypeId), w.heap[b]? = some (.cells cur t (0, 0)) →
    ∃ cur', (w.setCells b o vs).heap[b]? = some (.cells cur' t (0, 0)) ∧ cur'.size = cur.size ∧ ∀ i, i < o → cur'[i]? = cur[i]?
  | [], o, w, cur, t, h => ⟨cur, h, rfl, fun _ _ => rfl⟩
  | v :: r, o, w, cur, t, h => by
    obtain ⟨cur', h1, h2, h3⟩ := setCells_block b r (o + 1) (w.setCell ⟨b, o, none⟩ v) (cur.setIfInBounds o v) t (heap_setCell_same w b o _ _ _ h)
    refine ⟨cur', h1, by simpa using h2, fun i hi => ?_⟩
    rw [h3 i (by omega), Array.getElem?_setIfInBounds_ne (by omega)]
theorem setCells_kp (b : Nat) : ∀ (vs : List Value) (o : Nat) (w : World), Kp [b] w (w.setCells b o vs)
  | [], _, w => Kp.refl _ _
  | v :: r, o, w => ((Kp.refl [b] w).setCell (p := ⟨b, o, none⟩) (.inl (by simp)) v).trans (setCells_kp b r (o + 1) _)
theorem take_same {cur cur' : Array Value} {n o : Nat} (hn : n ≤ o) (h : ∀ i, i < o → cur'[i]? = cur[i]?) : cur'.toList.take n = cur.toList.take n := by
  apply List.ext_getElem?
  intro i
  by_cases hi : i < n
  · rw [List.getElem?_take_of_lt hi, List.getElem?_take_of_lt hi]
    simpa using h i (by omega)
  · rw [List.getElem?_take, List.getElem?_take, if_neg hi, if_neg hi]

theorem kp_of_row {w w' : World} {v : Value} (h : w.grownBy w' v.ownBlock) : Kp (blk v) w w' := ⟨h.os, h.tape, h.output, h.size, fun k hk hn => h.block k hk (by
  intro e
  apply hn
  unfold blk
  rw [Option.mem_toList]
  exact e.symm)⟩
theorem kp_drewN {S : List Nat} (w : World) (j : Nat) : Kp S w (w.drewN j) := ⟨rfl, rfl, rfl, Nat.le_refl _, fun _ _ _ => rfl⟩

/-- A list at p: the four rows' slices, and what each row holds, the one put last at its end. -/
structure Ls (w : World) (p : Nat) (vs : Nat → Value) (R : Nat → List Int) : Prop where
  hp : w.heap[p]? = some (.cells #[vs 0, vs 1, vs 2, vs 3] 172 (0, 0))
  rw : ∀ c, c < 4 → Rw w (vs c) (R c)
  ap : ∀ c d, c < 4 → d < 4 → c ≠ d → ∀ g ∈ blk (vs c), g ∉ blk (vs d)

/-- The blocks of a list. -/
def Owns (vs : Nat → Value) (g : Nat) : Prop := ∃ c, c < 4 ∧ g ∈ blk (vs c)

def upd (R : Nat → List Int) (c : Nat) (xs : List Int) : Nat → List Int := fun d => if d = c then xs else R d
def updV (vs : Nat → Value) (c : Nat) (v : Value) : Nat → Value := fun d => if d = c then v else vs d
theorem upd_same (R : Nat → List Int) (c : Nat) (xs : List Int) : upd R c xs c = xs := by simp [upd]
theorem upd_ne (R : Nat → List Int) (c d : Nat) (xs : List Int) (h : d ≠ c) : upd R c xs d = R d := by simp [upd, h]
theorem updV_same (R : Nat → Value) (c : Nat) (xs : Value) : updV R c xs c = xs := by simp [updV]
theorem updV_ne (R : Nat → Value) (c d : Nat) (xs : Value) (h : d ≠ c) : updV R c xs d = R d := by simp [updV, h]

section
variable {w w' : World} {p : Nat} {vs : Nat → Value} {R : Nat → List Int}

theorem Ls.lt (h : Ls w p vs R) : p < w.heap.size := lt_of_block h.hp
theorem Ls.olt (h : Ls w p vs R) {g : Nat} (hg : Owns vs g) : g < w.heap.size := by
  obtain ⟨c, hc, hg⟩ := hg
  exact (h.rw c hc).lt g hg
theorem Ls.pne (h : Ls w p vs R) : ¬ Owns vs p := by
  rintro ⟨c, hc, hg⟩
  obtain ⟨cur, hcur⟩ := (h.rw c hc).block p hg
  have := h.hp.symm.trans hcur
  simp at this
theorem Ls.keep {S : List Nat} (h : Ls w p vs R) (k : Kp S w w') (hp : p ∉ S) (hS : ∀ g, Owns vs g → g ∉ S) : Ls w' p vs R :=
  ⟨k.row hp h.hp, fun c hc => (h.rw c hc).keep k fun g hg => hS g ⟨c, hc, hg⟩, h.ap⟩
theorem Ls.keep0 (h : Ls w p vs R) (k : Kp [] w w') : Ls w' p vs R := h.keep k (by simp) (by simp)
theorem four {c : Nat} (h : c < 4) : c = 0 ∨ c = 1 ∨ c = 2 ∨ c = 3 := by omega
theorem Ls.cell (h : Ls w p vs R) {c : Nat} (hc : c < 4) : w.cell? ⟨p, c, none⟩ = some (vs c) := by
  rw [cell_of_row h.hp]
  rcases four hc with rfl | rfl | rfl | rfl <;> rfl
theorem Ls.free (h : Ls w p vs R) (c : Nat) : w.frozen? ⟨p, c, none⟩ = false := free_of_row h.hp c

/-- A row's slice is stored: its own blocks are new, or the row's own; what else has turned is no row's. -/
theorem Ls.storeS (h : Ls w p vs R) {c : Nat} (hc : c < 4) {v : Value} {xs : List Int} {S : List Nat} (hr : Rw w' v xs) (k : Kp S w w') (hS : ∀ x ∈ S, x ≠ p ∧ ∀ d, d < 4 → d ≠ c → x ∉ blk (vs d)) (hb : ∀ g ∈ blk v, g ∈ blk (vs c) ∨ w.heap.size ≤ g) :
    Ls (w'.setCell ⟨p, c, none⟩ v) p (updV vs c v) (upd R c xs) := by
  have hp1 := k.row (fun e => (hS p e).1 rfl) h.hp
  have hpr : ∀ g, (∃ cur, w'.heap[g]? = some (.cells cur 3 (0, 0))) → g ≠ p := by
    rintro g ⟨cur, hg⟩ rfl
    have := hp1.symm.trans hg
    simp at this
  have ks : Kp [p] w' (w'.setCell ⟨p, c, none⟩ v) := (Kp.refl _ _).setCell (.inl (by simp)) _
  have hother : ∀ d, d < 4 → d ≠ c → Rw w' (vs d) (R d) := fun d hd hne => (h.rw d hd).keep k (fun g hg hg' => (hS g hg').2 d hd hne hg)
  refine ⟨?_, ?_, ?_⟩
  · rw [heap_setCell_same _ _ _ _ _ _ hp1]
    rcases four hc with rfl | rfl | rfl | rfl <;> simp [updV]
  · intro d hd
    by_cases e : d = c
    · subst e
      rw [updV_same, upd_same]
      exact hr.keep ks (fun g hg hg' => hpr g (hr.block g hg) (by simpa using hg'))
    · rw [updV_ne _ _ _ _ e, upd_ne _ _ _ _ e]
      exact (hother d hd e).keep ks (fun g hg hg' => hpr g ((hother d hd e).block g hg) (by simpa using hg'))
  · intro a b ha hb' hab g hg
    by_cases e1 : a = c
    · subst e1
      rw [updV_same] at hg
      rw [updV_ne _ _ _ _ (fun e => hab e.symm)]
      rcases hb g hg with q | q
      · exact h.ap a b ha hb' hab g q
      · intro e
        have := (h.rw b hb').lt g e
        omega
    · rw [updV_ne _ _ _ _ e1] at hg
      by_cases e2 : b = c
      · subst e2
        rw [updV_same]
        intro e
        rcases hb g e with q | q
        · exact h.ap a b ha hb' hab g hg q
        · have := (h.rw a ha).lt g hg
          omega
      · rw [updV_ne _ _ _ _ e2]
        exact h.ap a b ha hb' hab g hg
theorem Ls.rowS (h : Ls w p vs R) {c : Nat} (hc : c < 4) : ∀ x ∈ blk (vs c), x ≠ p ∧ ∀ d, d < 4 → d ≠ c → x ∉ blk (vs d) :=
  fun x hx => ⟨fun e => h.pne ⟨c, hc, e ▸ hx⟩, fun d hd hne => h.ap c d hc hd (fun e => hne e.symm) x hx⟩
theorem Ls.store (h : Ls w p vs R) {c : Nat} (hc : c < 4) {v : Value} {xs : List Int} (hr : Rw w' v xs) (k : Kp (blk (vs c)) w w') (hb : ∀ g ∈ blk v, g ∈ blk (vs c) ∨ w.heap.size ≤ g) :
    Ls (w'.setCell ⟨p, c, none⟩ v) p (updV vs c v) (upd R c xs) := h.storeS hc hr k (h.rowS hc) hb
end

/-- What a call on a list may turn: the list itself, and its rows. -/
structure Lk (p : Nat) (vs vs' : Nat → Value) (w w' : World) : Prop where
  os : w'.os = w.os
  tape : w'.tape = w.tape
  output : w'.output = w.output
  size : w.heap.size ≤ w'.heap.size
  block : ∀ k, k < w.heap.size → k ≠ p → ¬ Owns vs k → w'.heap[k]? = w.heap[k]?
  own : ∀ g, Owns vs' g → Owns vs g ∨ w.heap.size ≤ g

theorem Lk.of_kp {p : Nat} {vs : Nat → Value} {w w' : World} (h : Kp [] w w') : Lk p vs vs w w' := ⟨h.os, h.tape, h.output, h.size, fun k hk _ _ => h.block k hk (by simp), fun g hg => .inl hg⟩
theorem Lk.trans {p : Nat} {v1 v2 v3 : Nat → Value} {a b c : World} (h : Lk p v1 v2 a b) (k : Lk p v2 v3 b c) : Lk p v1 v3 a c :=
  ⟨k.os.trans h.os, k.tape.trans h.tape, k.output.trans h.output, Nat.le_trans h.size k.size, fun i hi hp hn => (k.block i (Nat.lt_of_lt_of_le hi h.size) hp (fun e => by
    rcases h.own i e with q | q
    · exact hn q
    · omega)).trans (h.block i hi hp hn), fun g hg => by
    rcases k.own g hg with q | q
    · exact h.own g q
    · exact .inr (Nat.le_trans h.size q)⟩
theorem Lk.row {p : Nat} {v1 v2 : Nat → Value} {w w' : World} (h : Lk p v1 v2 w w') {g : Nat} (hp : g ≠ p) (hn : ¬ Owns v1 g) {o : Obj} (ho : w.heap[g]? = some o) : w'.heap[g]? = some o := (h.block g (lt_of_block ho) hp hn).trans ho
theorem Lk.below {p : Nat} {v1 v2 : Nat → Value} {w w' : World} {B : Nat} (h : Lk p v1 v2 w w') (hB : B ≤ w.heap.size) (hp : B ≤ p) (hS : ∀ g, Owns v1 g → B ≤ g) : Below B w w' :=
  ⟨h.os, h.tape, h.output, h.size, fun k hk => h.block k (Nat.lt_of_lt_of_le hk hB) (by omega) (fun e => by have := hS k e; omega)⟩
/-- A row of the list's turned, and the slice stored. -/
theorem Lk.store {w w' : World} {p : Nat} {vs : Nat → Value} {c : Nat} (hc : c < 4) {v : Value} (k : Kp (blk (vs c)) w w') (hb : ∀ g ∈ blk v, g ∈ blk (vs c) ∨ w.heap.size ≤ g) : Lk p vs (updV vs c v) w (w'.setCell ⟨p, c, none⟩ v) := by
  refine ⟨k.os, k.tape, k.output, by simpa [World.setCell] using k.size, fun i hi hp hn => ?_, ?_⟩
  · rw [heap_setCell_other _ _ _ _ hp]
    exact k.block i hi (fun e => hn ⟨c, hc, e⟩)
  · rintro g ⟨d, hd, hg⟩
    by_cases e : d = c
    · subst e
      rw [updV_same] at hg
      rcases hb g hg with q | q
      · exact .inl ⟨d, hd, q⟩
      · exact .inr q
    · rw [updV_ne _ _ _ _ e] at hg
      exact .inl ⟨d, hd, hg⟩

theorem Lk.step {p : Nat} {vs vs' vs'' : Nat → Value} {w W W' : World} {S : List Nat} (h : Lk p vs vs' w W) (k : Kp S W W') (hS : ∀ x ∈ S, x < w.heap.size → x = p ∨ Owns vs' x) (ho : ∀ g, Owns vs'' g → Owns vs' g ∨ W.heap.size ≤ g) : Lk p vs vs'' w W' :=
  ⟨k.os.trans h.os, k.tape.trans h.tape, k.output.trans h.output, Nat.le_trans h.size k.size, fun i hi hp hn => (k.block i (Nat.lt_of_lt_of_le hi h.size) (fun e => by
    rcases hS i e hi with q | q
    · exact hp q
    · rcases h.own i q with r | r
      · exact hn r
      · omega)).trans (h.block i hi hp hn), fun g hg => by
    rcases ho g hg with q | q
    · exact h.own g q
    · exact .inr (Nat.le_trans h.size q)⟩
theorem owns_upd {vs : Nat → Value} {c : Nat} {v : Value} {g : Nat} (h : Owns (updV vs c v) g) : g ∈ blk v ∨ Owns vs g := by
  obtain ⟨d, hd, hg⟩ := h
  by_cases e : d = c
  · subst e
    rw [updV_same] at hg
    exact .inl hg
  · rw [updV_ne _ _ _ _ e] at hg
    exact .inr ⟨d, hd, hg⟩

end Go.Proofs.YticbnckikkdknaaGreatDoor.Li

namespace Go.Proofs.YticbnckikkdknaaGreatDoor.Li
set_option linter.unusedVariables false
set_option linter.unusedSimpArgs false
open Go.RowKit

theorem index_any (w : World) (v : Value) (xs : List Int) (x : Int) (h : Rw w v xs) (hn : xs.length ≤ 1000) :
    Calls Tryz.prog 179 #[v, .int .i64 x] w fun e w' => e = .returned (.int .i64 (idxI (fun y => x == y) xs)) ∧ w' = w := by
  rcases h with ⟨rfl, rfl⟩ | ⟨g, cap, cur, rfl, hg, h1, h2, h3, h4⟩
  · go_enter Tryz.func179, Tryz.ntmps179
    go_wp2
    go_loopg [5, 8] 1 (fun g _ i wr => i = .int .i64 0 ∧ wr = w)
    case atStart => exact ⟨rfl, rfl⟩
    case round =>
      obtain ⟨rfl, rfl⟩ := hrel
      go_wp2
      go_ret
      exact ⟨rfl, rfl⟩
  · obtain ⟨n, hnn⟩ : ∃ n, n = xs.length := ⟨_, rfl⟩
    have HN := Lib.hid hnn
    have hr := fun i (hi : i < xs.length) => row_cell hg h4 hi
    rw [← hnn] at hn h1 ⊢
    clear hnn h4 hg
    obtain ⟨r, hrr⟩ : ∃ r, r = idxI (fun y => x == y) xs := ⟨_, rfl⟩
    have HR := Lib.hid hrr
    rw [← hrr]
    clear hrr
    go_enter Tryz.func179, Tryz.ntmps179
    go_wp2
    go_loopg [5, 8] n (fun g _ i wr => ∃ k : Nat, k + g = n ∧ i = .int .i64 (k : Int) ∧ Hid (∀ j, j < k → (x == xs.getD j 0) = false) ∧ wr = w)
    case atStart => exact ⟨0, by omega, rfl, Lib.hid (fun j hj => by omega), rfl⟩
    case round =>
      obtain ⟨k, hkg, rfl, hp, rfl⟩ := hrel
      by_cases hk : k < n
      · have hc := hr k (by have := HN.out; omega)
        have hkl : k < xs.length := by have := HN.out; omega
        obtain ⟨y, hy⟩ : ∃ y, y = xs.getD k 0 := ⟨_, rfl⟩
        have HY := Lib.hid hy
        rw [← hy] at hc
        clear hy hr
        go_wp2
        · have hxy : (x == y) = true := by assumption
          go_ret
          refine ⟨?_, rfl⟩
          rw [HR.out, idx_hit hkl (by rw [← HY.out]; exact hxy) hp.out]
          rfl
        · have hxy : (x == y) = false := by assumption
          go_roundg (n - (k + 1))
          case measure => omega
          case rel => exact ⟨k + 1, by omega, by go_num, Lib.hid (fun j hj => by
            by_cases e : j = k
            · subst e; rw [← HY.out]; exact hxy
            · exact hp.out j (by omega)), rfl⟩
      · clear hr
        go_wp2
        go_ret
        refine ⟨?_, rfl⟩
        rw [HR.out, idx_miss (fun j hj => hp.out j (by have := HN.out; omega))]
        rfl

theorem contains_any (w : World) (v : Value) (xs : List Int) (x : Int) (h : Rw w v xs) (hn : xs.length ≤ 1000) :
    Calls Tryz.prog 172 #[v, .int .i64 x] w fun e w' => e = .returned (.bool (xs.any fun y => x == y)) ∧ w' = w := by
  have hi := index_any w v xs x h hn
  rw [← idx_ge]
  generalize idxI (fun y => x == y) xs = r at hi
  go_enter Tryz.func172, Tryz.ntmps172
  go_wp2_with ((with_reducible refine hi.mono ?_); rintro e w1 ⟨rfl, rfl⟩)
  go_ret
  exact ⟨rfl, rfl⟩

/-- IndexFunc, whatever closure: it is asked in one world, and leaves it. -/
theorem indexFunc_any (w : World) (v : Value) (xs : List Int) (g0 : FuncId) (cap0 : Array Value) (q : Int → Bool) (h : Rw w v xs) (hn : xs.length ≤ 1000)
    (hen : ∀ (x : Value) (w : World), (callFunc g0 (#[x] ++ cap0)).run Tryz.prog w = .ok (.enter g0 (#[x] ++ cap0)) w)
    (hcall : ∀ x, Calls Tryz.prog g0 (#[.int .i64 x] ++ cap0) w fun e w2 => e = .returned (.bool (q x)) ∧ w2 = w) :
    Calls Tryz.prog 173 #[v, .func (.func g0) #[] cap0] w fun e w' => e = .returned (.int .i64 (idxI q xs)) ∧ w' = w := by
  rcases h with ⟨rfl, rfl⟩ | ⟨g, cap, cur, rfl, hg, h1, h2, h3, h4⟩
  · go_enter Tryz.func173, Tryz.ntmps173
    go_wp2
    go_loopg [5, 8] 1 (fun g _ i wr => i = .int .i64 0 ∧ wr = w)
    case atStart => exact ⟨rfl, rfl⟩
    case round =>
      obtain ⟨rfl, rfl⟩ := hrel
      go_wp2
      go_ret
      exact ⟨rfl, rfl⟩
  · obtain ⟨n, hnn⟩ : ∃ n, n = xs.length := ⟨_, rfl⟩
    have HN := Lib.hid hnn
    have hr := fun i (hi : i < xs.length) => row_cell hg h4 hi
    rw [← hnn] at hn h1 ⊢
    clear hnn h4 hg
    obtain ⟨r, hrr⟩ : ∃ r, r = idxI q xs := ⟨_, rfl⟩
    have HR := Lib.hid hrr
    rw [← hrr]
    clear hrr
    go_enter Tryz.func173, Tryz.ntmps173
    go_wp2
    go_loopg [5, 8] n (fun g _ i wr => ∃ k : Nat, k + g = n ∧ i = .int .i64 (k : Int) ∧ Hid (∀ j, j < k → q (xs.getD j 0) = false) ∧ wr = w)
    case atStart => exact ⟨0, by omega, rfl, Lib.hid (fun j hj => by omega), rfl⟩
    case round =>
      obtain ⟨k, hkg, rfl, hp, rfl⟩ := hrel
      by_cases hk : k < n
      · have hc := hr k (by have := HN.out; omega)
        have hkl : k < xs.length := by have := HN.out; omega
        obtain ⟨y, hy⟩ : ∃ y, y = xs.getD k 0 := ⟨_, rfl⟩
        have HY := Lib.hid hy
        rw [← hy] at hc
        have hcy := hcall y
        obtain ⟨b, hb⟩ : ∃ b, b = q y := ⟨_, rfl⟩
        have HB := Lib.hid hb
        rw [← hb] at hcy
        clear hy hr hb hcall
        cases b with
        | true =>
          go_wp2_with fail
          refine hcy.mono ?_
          rintro e w2 ⟨rfl, rfl⟩
          go_wp2
          go_ret
          refine ⟨?_, rfl⟩
          rw [HR.out, idx_hit hkl (by rw [← HY.out]; exact HB.out.symm) hp.out]
          rfl
        | false =>
          go_wp2_with fail
          refine hcy.mono ?_
          rintro e w2 ⟨rfl, rfl⟩
          go_wp2
          go_roundg (n - (k + 1))
          case measure => omega
          case rel => exact ⟨k + 1, by omega, by go_num, Lib.hid (fun j hj => by
            by_cases e : j = k
            · subst e; rw [← HY.out]; exact HB.out.symm
            · exact hp.out j (by omega)), rfl⟩
      · clear hr
        go_wp2
        go_ret
        refine ⟨?_, rfl⟩
        rw [HR.out, idx_miss (fun j hj => hp.out j (by have := HN.out; omega))]
        rfl

/-- A row's slice and its numbers, in a world that may have turned in that row alone. -/
structure Dl (w0 wr : World) (g cap : Nat) (d : List Int) : Prop where
  row : ∃ cur, wr.heap[g]? = some (.cells cur 3 (0, 0)) ∧ cur.size = cap ∧ cur.toList.take d.length = ints d
  kp : Kp [g] w0 wr
theorem Dl.cell {w0 wr : World} {g cap : Nat} {d : List Int} (h : Dl w0 wr g cap d) {i : Nat} (hi : i < d.length) : wr.cell? ⟨g, i, none⟩ = some (.int .i64 (d.getD i 0)) := by
  obtain ⟨⟨cur, h1, h2, h3⟩, _⟩ := h
  exact row_cell h1 h3 hi
theorem Dl.free {w0 wr : World} {g cap : Nat} {d : List Int} (h : Dl w0 wr g cap d) (i : Nat) : wr.frozen? ⟨g, i, none⟩ = false := by
  obtain ⟨⟨cur, h1, h2, h3⟩, _⟩ := h
  exact free_of_row h1 i
theorem Dl.set {w0 wr : World} {g cap : Nat} {d : List Int} (h : Dl w0 wr g cap d) (i : Nat) (z : Int) : Dl w0 (wr.setCell ⟨g, i, none⟩ (.int .i64 z)) g cap (d.set i z) := by
  obtain ⟨⟨cur, h1, h2, h3⟩, k⟩ := h
  exact ⟨⟨_, heap_setCell_same _ _ _ _ _ _ h1, by simpa using h2, row_set h3 i z⟩, k.setCell (.inl (by simp)) _⟩
theorem Dl.rw {w0 wr : World} {g cap : Nat} {d : List Int} (h : Dl w0 wr g cap d) (h1 : d.length ≤ cap) (h2 : cap ≤ maxLen) : Rw wr (.slice (some ⟨g, 0, none⟩) d.length cap) d := by
  obtain ⟨⟨cur, r1, r2, r3⟩, _⟩ := h
  exact .inr ⟨g, cap, cur, rfl, r1, h1, h2, r2, r3⟩
/-- The rest of the row is cleared, and the row is cut. -/
theorem Dl.cleared {w0 wr : World} {g cap : Nat} {d : List Int} (h : Dl w0 wr g cap d) {i : Nat} (hi : i ≤ d.length) (zs : List Value) : Dl w0 (wr.setCells g i zs) g cap (d.take i) := by
  obtain ⟨⟨cur, h1, h2, h3⟩, k⟩ := h
  obtain ⟨cur', e1, e2, e3⟩ := setCells_block g zs i wr cur _ h1
  refine ⟨⟨cur', e1, by omega, ?_⟩, k.trans (setCells_kp g zs i wr)⟩
  rw [← row_cut h3 hi]
  exact take_same (by simp; omega) e3

theorem zero_int (w : World) : (zeroValue 3).run Tryz.prog w = .ok (.int .i64 0) w := (zero_of_info (show (Tryz.prog.info? 3).map (fun i => (i.zero, i.size)) = some (some (.int .i64 0), 1) from by kernel_rfl)).1 w

/-- DeleteFunc, whatever closure: in each world in which the row alone has turned it says the same, and leaves it. -/
theorem deleteFunc_any (w : World) (v : Value) (xs : List Int) (g0 : FuncId) (cap0 : Array Value) (q : Int → Bool) (h : Rw w v xs) (hn : xs.length ≤ 1000)
    (hen : ∀ (x : Value) (w : World), (callFunc g0 (#[x] ++ cap0)).run Tryz.prog w = .ok (.enter g0 (#[x] ++ cap0)) w)
    (hcall : ∀ x w1, Kp (blk v) w w1 → Calls Tryz.prog g0 (#[.int .i64 x] ++ cap0) w1 fun e w2 => e = .returned (.bool (q x)) ∧ w2 = w1) :
    Calls Tryz.prog 161 #[v, .func (.func g0) #[] cap0] w fun e w' =>
      ∃ v', e = .returned v' ∧ Rw w' v' (xs.filter fun x => !q x) ∧ blk v' = blk v ∧ Kp (blk v) w w' ∧ ∃ ao cap, v' = .slice ao (xs.filter fun x => !q x).length cap := by
  have hif := indexFunc_any w v xs g0 cap0 q h hn hen (fun x => hcall x w (Kp.refl _ _))
  by_cases hno : idxI q xs = -1
  · rw [hno] at hif
    have hf := Lib.hid (idx_none hno)
    have hv : ∃ ao cap, v = .slice ao xs.length cap := by
      rcases h with ⟨rfl, rfl⟩ | ⟨g, cap, cur, rfl, _⟩
      · exact ⟨none, 0, rfl⟩
      · exact ⟨_, _, rfl⟩
    clear hno hcall
    go_enter Tryz.func161, Tryz.ntmps161
    go_wp2_with ((with_reducible refine hif.mono ?_); rintro e w1 ⟨rfl, rfl⟩)
    go_ret
    refine ⟨v, rfl, ?_, rfl, Kp.refl _ _, ?_⟩
    · rw [hf.out]; exact h
    · rw [hf.out]; exact hv
  · obtain ⟨k, hk, hkl, hkq, hkn⟩ := idx_some hno
    rw [hk] at hif
    have F0 := Lib.hid (Far.start hkl hkq hkn)
    clear hk hkq hkn hno
    rcases h with ⟨rfl, rfl⟩ | ⟨g, cap, cur, rfl, hg, h1, h2, h3, h4⟩
    · simp at hkl
    · have D0 : Hid (Dl w w g cap xs) := Lib.hid ⟨⟨cur, hg, h3, h4⟩, Kp.refl _ _⟩
      obtain ⟨n, hnn⟩ : ∃ n, n = xs.length := ⟨_, rfl⟩
      have HN := Lib.hid hnn
      rw [← hnn] at hn h1 hkl hcall ⊢
      rw [← hnn] at hif
      clear hnn h4 hg h3
      have HC := Lib.hid hcall
      clear hcall
      go_enter Tryz.func161, Tryz.ntmps161
      go_wp2_with ((with_reducible refine hif.mono ?_); rintro e w1 ⟨rfl, rfl⟩)
      go_loopg [5, 6, 7] (n - (k + 1)) (fun gg iv jv _ wr => ∃ (i j : Nat) (d : List Int), j + gg = n ∧ iv = .int .i64 (i : Int) ∧ jv = .int .i64 (j : Int) ∧ i < j ∧ Hid (Far q xs d i j) ∧ Hid (Dl w1 wr g cap d))
      case atStart => exact ⟨k, k + 1, xs, by omega, rfl, rfl, by omega, F0, D0⟩
      case round =>
        obtain ⟨i, j, d, hjg, rfl, rfl, hij, F, D⟩ := hrel
        have hdn : d.length = n := F.out.len.trans HN.out.symm
        by_cases hjn : j < n
        · have hc := D.out.cell (i := j) (by omega)
          rw [F.out.hr j (Nat.le_refl _)] at hc
          have hjl : j < xs.length := by have := HN.out; omega
          have hci := D.out.cell (i := i) (by omega)
          have hfi := D.out.free i
          obtain ⟨y, hy⟩ : ∃ y, y = xs.getD j 0 := ⟨_, rfl⟩
          have HY := Lib.hid hy
          rw [← hy] at hc
          obtain ⟨y0, hy0⟩ : ∃ y0, y0 = d.getD i 0 := ⟨_, rfl⟩
          rw [← hy0] at hci
          have hcy := HC.out y wr D.out.kp
          obtain ⟨b, hb⟩ : ∃ b, b = q y := ⟨_, rfl⟩
          have HB := Lib.hid hb
          rw [← hb] at hcy
          clear hy hb hy0 hdn
          cases b with
          | true =>
            go_wp2_with fail
            refine hcy.mono ?_
            rintro e w2 ⟨rfl, rfl⟩
            go_wp2
            go_roundg (n - (j + 1))
            case measure => omega
            case rel => exact ⟨i, j + 1, d, by omega, rfl, by go_num, by omega, Lib.hid (F.out.no hjl (by rw [← HY.out]; exact HB.out.symm)), D⟩
          | false =>
            go_wp2_with fail
            refine hcy.mono ?_
            rintro e w2 ⟨rfl, rfl⟩
            go_wp2
            go_roundg (n - (j + 1))
            case measure => omega
            case rel => exact ⟨i + 1, j + 1, d.set i y, by omega, by go_num, by go_num, by omega, Lib.hid (by have := F.out.yes hjl (by rw [← HY.out]; exact HB.out.symm); rw [← HY.out] at this; exact this), Lib.hid (D.out.set i y)⟩
        · obtain rfl : j = n := by omega
          have F1 := F.out
          rw [HN.out] at F1
          obtain ⟨f1, f2, f3⟩ := F1.fin
          have hin : i < j := by have := HN.out; omega
          have hcl : ∀ ty, (Builtin.clear_ #[46] ty #[.slice (some ⟨g, i, none⟩) (j - i) (cap - i)]).run Tryz.prog wr = .ok (.tuple #[]) (wr.setCells g i (List.replicate (j - i) (.int .i64 0))) :=
            fun ty => Lib.run_clear_slice wr 46 3 ty (.int .i64 0) Tryz.underlying46 zero_int rfl rfl g i (j - i) (cap - i) (by omega)
              (fun k hk => by rw [D.out.cell (i := i + k) (by omega)]; rfl) (fun k hk => D.out.free _)
          have D2 := Lib.hid (D.out.cleared (i := i) (by omega) (List.replicate (j - i) (.int .i64 0)))
          have hil : (d.take i).length = i := by rw [List.length_take]; omega
          have HF := Lib.hid (And.intro f1 (And.intro f2 (And.intro hil (And.intro h1 h2))))
          clear F F1 f1 f2 f3 hdn D HC hif hil
          generalize wr.setCells g i (List.replicate (j - i) (.int .i64 0)) = w3 at hcl D2
          go_wp2
          go_ret
          obtain ⟨e1, e2, e3, e4, e5⟩ := HF.out
          have hR := D2.out.rw (by omega) e5
          rw [e3, e1] at hR
          rw [← e2]
          exact ⟨_, rfl, hR, rfl, D2.out.kp, _, _, rfl⟩

/-- Reverse: a row turned round. -/
theorem reverse_any (w : World) (v : Value) (xs : List Int) (h : Rw w v xs) (hn : xs.length ≤ 1000) :
    Calls Tryz.prog 82 #[v] w fun e w' => (∃ u, e = .returned u) ∧ Rw w' v xs.reverse ∧ Kp (blk v) w w' := by
  rcases h with ⟨rfl, rfl⟩ | ⟨g, cap, cur, rfl, hg, h1, h2, h3, h4⟩
  · go_enter Tryz.func82, Tryz.ntmps82
    go_wp2
    go_loopg [2, 3] 1 (fun g iv jv wr => iv = .int .i64 0 ∧ jv = .int .i64 (-1) ∧ wr = w)
    case atStart => exact ⟨rfl, rfl, rfl⟩
    case round =>
      obtain ⟨rfl, rfl, rfl⟩ := hrel
      go_wp2
      go_end0
      exact ⟨⟨_, rfl⟩, Rw.nil _, Kp.refl _ _⟩
  · have D0 : Hid (Dl w w g cap xs) := Lib.hid ⟨⟨cur, hg, h3, h4⟩, Kp.refl _ _⟩
    have V0 := Lib.hid (Rvd.start xs)
    have HH := Lib.hid (And.intro h1 h2)
    obtain ⟨n, hnn⟩ : ∃ n, n = xs.length := ⟨_, rfl⟩
    have HN := Lib.hid hnn
    rw [← hnn] at hn h1 V0 ⊢
    clear hnn h4 hg h3
    go_enter Tryz.func82, Tryz.ntmps82
    go_wp2
    go_loopg [2, 3] n (fun gg iv jv wr => ∃ (i : Nat) (j : Int) (d : List Int), i + gg = n ∧ iv = .int .i64 (i : Int) ∧ jv = .int .i64 j ∧ (i : Int) + j + 1 = n ∧ Hid (Rvd xs d i j) ∧ Hid (Dl w wr g cap d))
    case atStart => exact ⟨0, _, xs, by omega, rfl, rfl, by omega, V0, D0⟩
    case round =>
      obtain ⟨i, j, d, hig, rfl, rfl, hij, V, D⟩ := hrel
      have hdn : d.length = n := V.out.len.trans HN.out.symm
      by_cases hlt : (i : Int) < j
      · obtain ⟨k, rfl⟩ : ∃ k : Nat, j = k := ⟨j.toNat, by omega⟩
        have ci := D.out.cell (i := i) (by omega)
        have ck := D.out.cell (i := k) (by omega)
        have fi := D.out.free i
        have fk := D.out.free k
        have hkn : k < n := by omega
        have hin : i < n := by omega
        have hik : i ≠ k := by omega
        have D2 := Lib.hid ((D.out.set i (d.getD k 0)).set k (d.getD i 0))
        have V2 := Lib.hid (V.out.step hlt)
        simp only [Int.toNat_natCast] at V2
        generalize d.getD k 0 = a at *
        generalize d.getD i 0 = b at *
        clear V D
        go_wp2_with fail
        go_region
        go_wp2
        go_roundg (n - (i + 1))
        case measure => omega
        case rel => exact ⟨i + 1, (k : Int) - 1, _, by omega, by go_num, by go_num, by omega, V2, Lib.hid ⟨D2.out.row, D2.out.kp.drew⟩⟩
      · have HV := Lib.hid (V.out.fin hlt)
        have HD := D
        clear V D hdn
        go_wp2
        go_end0
        obtain ⟨h1, h2⟩ := HH.out
        have hl : d.length = xs.length := by rw [HV.out]; simp
        have hR := HD.out.rw (by omega) h2
        rw [hl, ← HN.out, HV.out] at hR
        exact ⟨⟨_, rfl⟩, hR, HD.out.kp⟩

end Go.Proofs.YticbnckikkdknaaGreatDoor.Li
