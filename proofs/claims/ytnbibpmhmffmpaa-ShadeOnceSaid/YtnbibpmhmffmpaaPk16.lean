/- The walks of package word, on: Put and Take as they are called. Conditions: as each theorem states them (the numbers are those of a uint8, of a uint64). The walks of package word, on: Take. Conditions: as each theorem states them (the numbers are those of a uint64). The walks of the document's own Take (demesneref01), and of the known headers (wakes). Conditions: as each theorem states them (the numbers are those of a uint64). Plain facts on what a header's word tells (layer 13); nothing here speaks of the program. Conditions: as each lemma states them. The walks of package shade: take, Tell; and of the document's own. Conditions: as each theorem states them (the numbers are those of a uint8, of a uint64). The walks of package shade, on: dye, the closures, Shade and Blacken over an arena; and the document's own. Conditions: as each theorem states them (the numbers are those of a uint8, of a uint64). Package shade over an agent's memory, in company: a read and an update that tell their bounds; Blacken. Written by gen/so_a.py. Conditions: as each theorem states them. -/
import Derived.Lib.Hide
import Derived.Deep.Cut
import Derived.Deep.RegionWith
import Derived.Test.YtnbibpmhmffmpaaPk10
import Derived.Test.YtnbibpmhmffmpaaPk15
namespace Go.Proofs.Ytnbibpmhmffmpaa
set_option linter.unusedVariables false
set_option linter.unusedSimpArgs false
open Go.RowKit

theorem put_yes (k c o r s : Int) (g m : Bool) (w : World) (hk : 0 ≤ k) (hc : 0 ≤ c) (ho : 0 ≤ o) (hr : 0 ≤ r) (hs : 0 ≤ s) (h : mayB k c o r s g m = true) :
    Calls Try.prog 21 #[.agg #[.int .u8 k, .int .u8 c, .bool g, .bool m, .int .u8 o, .int .u8 r, .int .u8 s]] w fun e w' => e = .returned (.tuple #[.int .u64 (wordI k c o r s g m), .int .i64 0]) ∧ Below w.heap.size w w' := by
  go_enter Try.func21, Try.ntmps21
  go_wp2_with fail
  refine (may_any k c o r s g m _ hk hr).mono ?_; rintro e w1 ⟨rfl, hb⟩
  obtain ⟨hc1, hf1⟩ := bcell hb
  go_wp2_with fail
  refine (pack_any k c o r s g m _ hk hc ho hr hs h).mono ?_; rintro e w2 ⟨rfl, hb2⟩
  have bel : Below w.heap.size w w2 := (((Below.refl _ _).alloc (Nat.le_refl _) _).trans (hb.mono (by simp))).trans (hb2.mono (by have := hb.size; simp at this; omega))
  clear hb hb2 hc1 hf1
  go_wp2
  go_ret2
  exact ⟨rfl, bel⟩

theorem put_no (k c o r s : Int) (g m : Bool) (w : World) (hk : 0 ≤ k) (hr : 0 ≤ r) (h : mayB k c o r s g m = false) :
    Calls Try.prog 21 #[.agg #[.int .u8 k, .int .u8 c, .bool g, .bool m, .int .u8 o, .int .u8 r, .int .u8 s]] w fun e w' => e = .returned (.tuple #[.int .u64 0, .int .i64 2]) ∧ Below w.heap.size w w' := by
  go_enter Try.func21, Try.ntmps21
  go_wp2_with fail
  refine (may_any k c o r s g m _ hk hr).mono ?_; rintro e w1 ⟨rfl, hb⟩
  have bel : Below w.heap.size w w1 := ((Below.refl _ _).alloc (Nat.le_refl _) _).trans (hb.mono (by simp))
  clear hb
  go_wp2
  go_ret2
  exact ⟨rfl, bel⟩

set_option maxHeartbeats 1000000 in
theorem unpack_any (x : Int) (w : World) (h0 : 0 ≤ x) (h1 : x < 18446744073709551616) :
    Calls Try.prog 78 #[.int .u64 x] w fun e w' => e = .returned (.agg #[.int .u8 (x % 4), .int .u8 (x / 4 % 2), .bool (x / 8 % 2 == 1), .bool (x / 16 % 2 == 1), .int .u8 (x / 32 % 64), .int .u8 (x / 2048 % 128), .int .u8 (x / 262144 % 128)]) ∧ Below w.heap.size w w' := by
  have H1 := Lib.hid h1
  clear h1
  go_enter Try.func78, Try.ntmps78
  go_wp2_with fail
  refine (part_any 0 2 x 4 1 w.heap.size _ (by omega) (by omega) (by omega) (by omega) (by decide) (by decide) h0 H1.out (by simp)).mono ?_; rintro e w' ⟨rfl, rfl⟩
  go_wp2_with fail
  refine (part_any 2 3 x 2 4 w.heap.size _ (by omega) (by omega) (by omega) (by omega) (by decide) (by decide) h0 H1.out (by simp)).mono ?_; rintro e w' ⟨rfl, rfl⟩
  go_wp2_with fail
  refine (part_any 3 4 x 2 8 w.heap.size _ (by omega) (by omega) (by omega) (by omega) (by decide) (by decide) h0 H1.out (by simp)).mono ?_; rintro e w' ⟨rfl, rfl⟩
  go_wp2_with fail
  refine (part_any 4 5 x 2 16 w.heap.size _ (by omega) (by omega) (by omega) (by omega) (by decide) (by decide) h0 H1.out (by simp)).mono ?_; rintro e w' ⟨rfl, rfl⟩
  go_wp2_with fail
  refine (part_any 5 11 x 64 32 w.heap.size _ (by omega) (by omega) (by omega) (by omega) (by decide) (by decide) h0 H1.out (by simp)).mono ?_; rintro e w' ⟨rfl, rfl⟩
  go_wp2_with fail
  refine (part_any 11 18 x 128 2048 w.heap.size _ (by omega) (by omega) (by omega) (by omega) (by decide) (by decide) h0 H1.out (by simp)).mono ?_; rintro e w' ⟨rfl, rfl⟩
  go_wp2_with fail
  refine (part_any 18 25 x 128 262144 w.heap.size _ (by omega) (by omega) (by omega) (by omega) (by decide) (by decide) h0 H1.out (by simp)).mono ?_; rintro e w' ⟨rfl, rfl⟩
  go_wp2
  go_returns
  exact ⟨rfl, by go_grown⟩

end Go.Proofs.Ytnbibpmhmffmpaa

namespace Go.Proofs.Ytnbibpmhmffmpaa
set_option linter.unusedVariables false
set_option linter.unusedSimpArgs false
open Go.RowKit

theorem take_high (x : Int) (w : World) (h0 : 0 ≤ x) (h1 : x < 18446744073709551616) (h : 33554432 ≤ x) :
    Calls Try.prog 44 #[.int .u64 x] w fun e w' => e = .returned (.tuple #[.agg #[.int .u8 0, .int .u8 0, .bool false, .bool false, .int .u8 0, .int .u8 0, .int .u8 0], .int .i64 3]) ∧ Below w.heap.size w w' := by
  have H1 := Lib.hid h1
  clear h1
  have hne : (x / 33554432 != 0) = true := by simp; omega
  clear h
  go_enter Try.func44, Try.ntmps44
  go_wp2_with fail
  refine (unpack_any x _ h0 H1.out).mono ?_; rintro e w1 ⟨rfl, hb⟩
  have blk := Lib.hid (below_row hb (by simp) (heap_alloc_new w _))
  have bel := Lib.hid (((Below.refl w.heap.size w).alloc (Nat.le_refl _) _).trans (hb.mono (by simp)))
  have hz : w.heap.size < w1.heap.size := by have := hb.size; simp at this; omega
  clear hb
  go_wp2_with (refine wpList_store_row rfl 59 _ _ rfl w.heap.size _ rfl rfl 59 _ ((Below.heap_alloc _ _ _ hz).trans blk.out) (by kernel_rfl) rfl (by simp [Value.oneCell']) ?_)
  exact bodyPost_row_tmp rfl w.heap.size 59 _ (0, 0) _ (.int .i64 3) rfl rfl rfl (setRow_heap _ _ _ _ _ _ ((Below.heap_alloc _ _ _ hz).trans blk.out)) Try.underlying59 rfl (by kernel_rfl)
    ⟨rfl, below_setRow (bel.out.alloc (Nat.le_of_lt hz) _) (Nat.le_refl _) _⟩

theorem take_no (x : Int) (w : World) (h0 : 0 ≤ x) (h : x < 33554432) (hm : mayB (x % 4) (x / 4 % 2) (x / 32 % 64) (x / 2048 % 128) (x / 262144 % 128) (x / 8 % 2 == 1) (x / 16 % 2 == 1) = false) :
    Calls Try.prog 44 #[.int .u64 x] w fun e w' => e = .returned (.tuple #[.agg #[.int .u8 0, .int .u8 0, .bool false, .bool false, .int .u8 0, .int .u8 0, .int .u8 0], .int .i64 3]) ∧ Below w.heap.size w w' := by
  have hne : (x / 33554432 != 0) = false := by simp; omega
  have hk : 0 ≤ x % 4 := by omega
  have hr : 0 ≤ x / 2048 % 128 := by omega
  have hx : x < 18446744073709551616 := by omega
  have H1 := Lib.hid hx
  clear hx h
  go_enter Try.func44, Try.ntmps44
  go_wp2_with fail
  refine (unpack_any x _ h0 H1.out).mono ?_; rintro e w1 ⟨rfl, hb⟩
  have blk := Lib.hid (below_row hb (by simp) (heap_alloc_new w _))
  have bel := Lib.hid (((Below.refl w.heap.size w).alloc (Nat.le_refl _) _).trans (hb.mono (by simp)))
  have hz : w.heap.size < w1.heap.size := by have := hb.size; simp at this; omega
  clear hb
  go_wp2_with fail
  refine (may_any _ _ _ _ _ _ _ _ hk hr).mono ?_; rintro e w2 ⟨rfl, hb⟩
  have blk2 := Lib.hid ((below_row hb (by simp; omega) ((Below.heap_alloc _ _ _ hz).trans blk.out)))
  have bel2 := Lib.hid ((bel.out.alloc (Nat.le_of_lt hz) _).trans (hb.mono (by simp; omega)))
  clear hb
  go_wp2_with (refine wpList_store_row rfl 59 _ _ rfl w.heap.size _ rfl rfl 59 _ blk2.out (by kernel_rfl) rfl (by simp [Value.oneCell']) ?_)
  exact bodyPost_row_tmp rfl w.heap.size 59 _ (0, 0) _ (.int .i64 3) rfl rfl rfl (setRow_heap _ _ _ _ _ _ blk2.out) Try.underlying59 rfl (by kernel_rfl)
    ⟨rfl, below_setRow bel2.out (Nat.le_refl _) _⟩

theorem take_yes (x : Int) (w : World) (h0 : 0 ≤ x) (h : x < 33554432) (hm : mayB (x % 4) (x / 4 % 2) (x / 32 % 64) (x / 2048 % 128) (x / 262144 % 128) (x / 8 % 2 == 1) (x / 16 % 2 == 1) = true) :
    Calls Try.prog 44 #[.int .u64 x] w fun e w' => e = .returned (.tuple #[.agg #[.int .u8 (x % 4), .int .u8 (x / 4 % 2), .bool (x / 8 % 2 == 1), .bool (x / 16 % 2 == 1), .int .u8 (x / 32 % 64), .int .u8 (x / 2048 % 128), .int .u8 (x / 262144 % 128)], .int .i64 0]) ∧ Below w.heap.size w w' := by
  have hne : (x / 33554432 != 0) = false := by simp; omega
  have hk : 0 ≤ x % 4 := by omega
  have hr : 0 ≤ x / 2048 % 128 := by omega
  have hx : x < 18446744073709551616 := by omega
  have H1 := Lib.hid hx
  clear hx h
  go_enter Try.func44, Try.ntmps44
  go_wp2_with fail
  refine (unpack_any x _ h0 H1.out).mono ?_; rintro e w1 ⟨rfl, hb⟩
  have blk := Lib.hid (below_row hb (by simp) (heap_alloc_new w _))
  have bel := Lib.hid (((Below.refl w.heap.size w).alloc (Nat.le_refl _) _).trans (hb.mono (by simp)))
  have hz : w.heap.size < w1.heap.size := by have := hb.size; simp at this; omega
  clear hb
  go_wp2_with fail
  refine (may_any _ _ _ _ _ _ _ _ hk hr).mono ?_; rintro e w2 ⟨rfl, hb⟩
  obtain ⟨hc1, hf1⟩ := bcell hb
  have blk2 := Lib.hid ((below_row hb (by simp; omega) ((Below.heap_alloc _ _ _ hz).trans blk.out)))
  have bel2 := Lib.hid ((bel.out.alloc (Nat.le_of_lt hz) _).trans (hb.mono (by simp; omega)))
  clear hb
  go_wp2_with (refine wpList_store_row rfl 59 _ _ rfl w.heap.size _ rfl rfl 59 _ blk2.out (by kernel_rfl) rfl (by simp [Value.oneCell']) ?_)
  exact bodyPost_row_tmp rfl w.heap.size 59 _ (0, 0) _ (.int .i64 0) rfl rfl rfl (setRow_heap _ _ _ _ _ _ blk2.out) Try.underlying59 rfl (by kernel_rfl)
    ⟨rfl, below_setRow bel2.out (Nat.le_refl _) _⟩

end Go.Proofs.Ytnbibpmhmffmpaa

namespace Go.Proofs.Ytnbibpmhmffmpaa
set_option linter.unusedVariables false
set_option linter.unusedSimpArgs false
open Go.RowKit

/-- Both Takes, where no header is the word's. -/
theorem take_none (x : Int) (w : World) (h0 : 0 ≤ x) (h1 : x < 18446744073709551616) (h : takeB x = false) :
    Calls Try.prog 44 #[.int .u64 x] w fun e w' => e = .returned (.tuple #[.agg #[.int .u8 0, .int .u8 0, .bool false, .bool false, .int .u8 0, .int .u8 0, .int .u8 0], .int .i64 3]) ∧ Below w.heap.size w w' := by
  by_cases hx : x < 33554432
  · exact take_no x w h0 hx (by simpa [takeB, hx] using h)
  · exact take_high x w h0 h1 (by omega)
theorem take_some (x : Int) (w : World) (h0 : 0 ≤ x) (h : takeB x = true) :
    Calls Try.prog 44 #[.int .u64 x] w fun e w' => e = .returned (.tuple #[.agg #[.int .u8 (x % 4), .int .u8 (x / 4 % 2), .bool (x / 8 % 2 == 1), .bool (x / 16 % 2 == 1), .int .u8 (x / 32 % 64), .int .u8 (x / 2048 % 128), .int .u8 (x / 262144 % 128)], .int .i64 0]) ∧ Below w.heap.size w w' := by
  simp only [takeB, Bool.and_eq_true, decide_eq_true_eq] at h
  exact take_yes x w h0 h.1 h.2
end Go.Proofs.Ytnbibpmhmffmpaa

namespace Go.Proofs.Ytnbibpmhmffmpaa
set_option linter.unusedVariables false
set_option linter.unusedSimpArgs false
open Go

/-- A Global object's header. -/
def glob (x : Int) : Bool := takeB x && decide (x % 4 = 3)
/-- What it tells. -/
def tellI (x c : Int) : Int := if glob x = true ∧ c ≤ 1 then (if x / 4 % 2 = c then (if x / 8 % 2 = 1 then 2 else 3) else 1) else 0
/-- The word behind a change of colour and grey. -/
def dyed (x c : Int) (g : Bool) : Int := wordI 3 c (x / 32 % 64) (x / 2048 % 128) (x / 262144 % 128) g false
def shadeI (x c : Int) : Int := if tellI x c = 1 then dyed x c true else x
def metI (x c : Int) : Bool := decide (tellI x c = 1 ∨ tellI x c = 2)
def blackI (x : Int) : Int := if glob x = true then dyed x (x / 4 % 2) false else x

theorem glob_take {x : Int} (h : glob x = true) : takeB x = true ∧ x % 4 = 3 := by
  simpa [glob] using h
theorem glob_may {x c : Int} {g : Bool} (h : glob x = true) (h0 : 0 ≤ c) (h1 : c ≤ 1) : mayB 3 c (x / 32 % 64) (x / 2048 % 128) (x / 262144 % 128) g false = true := by
  obtain ⟨h2, h3⟩ := glob_take h
  simp only [takeB, Bool.and_eq_true] at h2
  have := mayB_iff.1 h2.2
  rw [mayB_iff]
  refine ⟨by omega, by omega, by omega, by omega, by omega, by omega, by simp, by omega⟩
theorem glob_marked {x : Int} (h : glob x = true) : (x / 16 % 2 == 1) = false := by
  obtain ⟨h2, h3⟩ := glob_take h
  simp only [takeB, Bool.and_eq_true] at h2
  have := mayB_iff.1 h2.2
  exact this.2.2.2.2.2.2.1 (by omega)
theorem tell_le (x c : Int) : 0 ≤ tellI x c ∧ tellI x c ≤ 3 := by
  unfold tellI; split <;> (try split) <;> (try split) <;> omega
theorem tell_none {x c : Int} (h : glob x = false ∨ 1 < c) : tellI x c = 0 := by
  unfold tellI
  rw [if_neg]
  rintro ⟨a, b⟩
  rcases h with h | h
  · rw [h] at a; cases a
  · omega
theorem tell_pos {x c : Int} (h : tellI x c ≠ 0) : glob x = true ∧ c ≤ 1 := by
  unfold tellI at h
  split at h
  · assumption
  · exact absurd rfl h
theorem dyed_bounds {x c : Int} {g : Bool} (h : glob x = true) (h0 : 0 ≤ c) (h1 : c ≤ 1) : 0 ≤ dyed x c g ∧ dyed x c g < 33554432 := by
  exact word_lt _ _ _ _ _ _ _ (by omega) h0 (by omega) (by omega) (by omega) (glob_may h h0 h1)
theorem glob_dyed {x c : Int} {g : Bool} (h : glob x = true) (h0 : 0 ≤ c) (h1 : c ≤ 1) : glob (dyed x c g) = true := by
  have hm := glob_may (g := g) h h0 h1
  have e := parts_of_word 3 c (x / 32 % 64) (x / 2048 % 128) (x / 262144 % 128) g false (by omega) h0 (by omega) (by omega) (by omega) hm
  have t := takeB_of_word 3 c (x / 32 % 64) (x / 2048 % 128) (x / 262144 % 128) g false (by omega) h0 (by omega) (by omega) (by omega) hm
  have e1 : dyed x c g % 4 = 3 := e.1
  have t1 : takeB (dyed x c g) = true := t
  simp [glob, t1, e1]

end Go.Proofs.Ytnbibpmhmffmpaa

namespace Go.Proofs.Ytnbibpmhmffmpaa
set_option linter.unusedVariables false
set_option linter.unusedSimpArgs false
open Go.RowKit

/-- 'take', whatever word.Take says. -/
theorem stake_core (x k c o r s n : Int) (g m b : Bool) (w : World) (hb : (n == 0) = false ∧ b = false ∨ n = 0 ∧ (k == 3) = false ∧ b = false ∨ n = 0 ∧ k = 3 ∧ b = true)
    (hT : Hid (∀ w, Calls Try.prog 44 #[.int .u64 x] w fun e w' => e = .returned (.tuple #[.agg #[.int .u8 k, .int .u8 c, .bool g, .bool m, .int .u8 o, .int .u8 r, .int .u8 s], .int .i64 n]) ∧ Below w.heap.size w w')) :
    Calls Try.prog 60 #[.int .u64 x] w fun e w' => e = .returned (.tuple #[.agg #[.int .u8 k, .int .u8 c, .bool g, .bool m, .int .u8 o, .int .u8 r, .int .u8 s], .bool b]) ∧ Kp [] w w' := by
  rcases hb with ⟨hn, rfl⟩ | ⟨rfl, hk, rfl⟩ | ⟨rfl, rfl, rfl⟩
  · go_enter Try.func60, Try.ntmps60
    go_wp2_with fail
    refine (hT.out _).mono ?_; rintro e w1 ⟨rfl, hb⟩
    have blk := Lib.hid (below_row hb (by simp) (heap_alloc_new w _))
    have bel := Lib.hid (((Below.refl w.heap.size w).alloc (Nat.le_refl _) _).trans (hb.mono (by simp)))
    clear hb
    go_upto_region 2 with (refine wpList_store_row rfl 59 _ _ rfl w.heap.size _ rfl rfl 59 _ blk.out (by kernel_rfl) rfl (by simp [Value.oneCell']) ?_)
    have blk2 := setRow_heap w1 w.heap.size _ #[.int .u8 k, .int .u8 c, .bool g, .bool m, .int .u8 o, .int .u8 r, .int .u8 s] 59 (0, 0) blk.out
    have bel2 := Lib.hid (below_setRow bel.out (Nat.le_refl _) #[.int .u8 k, .int .u8 c, .bool g, .bool m, .int .u8 o, .int .u8 r, .int .u8 s])
    clear blk bel
    generalize w1.setRow w.heap.size #[.int .u8 k, .int .u8 c, .bool g, .bool m, .int .u8 o, .int .u8 r, .int .u8 s] = w2 at *
    have B2 := Lib.hid blk2
    have c0 := cell_of_row blk2 0
    have c1 := cell_of_row blk2 1
    have c2 := cell_of_row blk2 2
    have c3 := cell_of_row blk2 3
    have c4 := cell_of_row blk2 4
    have c5 := cell_of_row blk2 5
    have c6 := cell_of_row blk2 6
    clear blk2
    simp only [List.getElem?_toArray, List.getElem?_cons_zero, List.getElem?_cons_succ] at c0 c1 c2 c3 c4 c5 c6
    go_wp2_with (refine wpList_store_row rfl 59 _ _ rfl w.heap.size _ rfl rfl 59 _ B2.out (by kernel_rfl) rfl (by simp [Value.oneCell']) ?_)
    exact bodyPost_row_tmp rfl w.heap.size 59 _ (0, 0) _ _ rfl rfl rfl (setRow_heap _ _ _ _ _ _ B2.out) Try.underlying59 rfl (by kernel_rfl)
      ⟨rfl, kp_of_below (below_setRow bel2.out (Nat.le_refl _) _)⟩
  · go_enter Try.func60, Try.ntmps60
    go_wp2_with fail
    refine (hT.out _).mono ?_; rintro e w1 ⟨rfl, hb⟩
    have blk := Lib.hid (below_row hb (by simp) (heap_alloc_new w _))
    have bel := Lib.hid (((Below.refl w.heap.size w).alloc (Nat.le_refl _) _).trans (hb.mono (by simp)))
    clear hb
    go_upto_region 2 with (refine wpList_store_row rfl 59 _ _ rfl w.heap.size _ rfl rfl 59 _ blk.out (by kernel_rfl) rfl (by simp [Value.oneCell']) ?_)
    have blk2 := setRow_heap w1 w.heap.size _ #[.int .u8 k, .int .u8 c, .bool g, .bool m, .int .u8 o, .int .u8 r, .int .u8 s] 59 (0, 0) blk.out
    have bel2 := Lib.hid (below_setRow bel.out (Nat.le_refl _) #[.int .u8 k, .int .u8 c, .bool g, .bool m, .int .u8 o, .int .u8 r, .int .u8 s])
    clear blk bel
    generalize w1.setRow w.heap.size #[.int .u8 k, .int .u8 c, .bool g, .bool m, .int .u8 o, .int .u8 r, .int .u8 s] = w2 at *
    have B2 := Lib.hid blk2
    have c0 := cell_of_row blk2 0
    have c1 := cell_of_row blk2 1
    have c2 := cell_of_row blk2 2
    have c3 := cell_of_row blk2 3
    have c4 := cell_of_row blk2 4
    have c5 := cell_of_row blk2 5
    have c6 := cell_of_row blk2 6
    clear blk2
    simp only [List.getElem?_toArray, List.getElem?_cons_zero, List.getElem?_cons_succ] at c0 c1 c2 c3 c4 c5 c6
    go_wp2_with (refine wpList_store_row rfl 59 _ _ rfl w.heap.size _ rfl rfl 59 _ B2.out (by kernel_rfl) rfl (by simp [Value.oneCell']) ?_)
    exact bodyPost_row_tmp rfl w.heap.size 59 _ (0, 0) _ _ rfl rfl rfl (setRow_heap _ _ _ _ _ _ B2.out) Try.underlying59 rfl (by kernel_rfl)
      ⟨rfl, kp_of_below (below_setRow bel2.out (Nat.le_refl _) _)⟩
  · go_enter Try.func60, Try.ntmps60
    go_wp2_with fail
    refine (hT.out _).mono ?_; rintro e w1 ⟨rfl, hb⟩
    have blk := Lib.hid (below_row hb (by simp) (heap_alloc_new w _))
    have bel := Lib.hid (((Below.refl w.heap.size w).alloc (Nat.le_refl _) _).trans (hb.mono (by simp)))
    clear hb
    go_upto_region 2 with (refine wpList_store_row rfl 59 _ _ rfl w.heap.size _ rfl rfl 59 _ blk.out (by kernel_rfl) rfl (by simp [Value.oneCell']) ?_)
    have blk2 := setRow_heap w1 w.heap.size _ #[.int .u8 3, .int .u8 c, .bool g, .bool m, .int .u8 o, .int .u8 r, .int .u8 s] 59 (0, 0) blk.out
    have bel2 := Lib.hid (below_setRow bel.out (Nat.le_refl _) #[.int .u8 3, .int .u8 c, .bool g, .bool m, .int .u8 o, .int .u8 r, .int .u8 s])
    clear blk bel
    generalize w1.setRow w.heap.size #[.int .u8 3, .int .u8 c, .bool g, .bool m, .int .u8 o, .int .u8 r, .int .u8 s] = w2 at *
    have B2 := Lib.hid blk2
    have c0 := cell_of_row blk2 0
    have c1 := cell_of_row blk2 1
    have c2 := cell_of_row blk2 2
    have c3 := cell_of_row blk2 3
    have c4 := cell_of_row blk2 4
    have c5 := cell_of_row blk2 5
    have c6 := cell_of_row blk2 6
    clear blk2
    simp only [List.getElem?_toArray, List.getElem?_cons_zero, List.getElem?_cons_succ] at c0 c1 c2 c3 c4 c5 c6
    go_wp2_with (refine wpList_store_row rfl 59 _ _ rfl w.heap.size _ rfl rfl 59 _ B2.out (by kernel_rfl) rfl (by simp [Value.oneCell']) ?_)
    exact bodyPost_row_tmp rfl w.heap.size 59 _ (0, 0) _ _ rfl rfl rfl (setRow_heap _ _ _ _ _ _ B2.out) Try.underlying59 rfl (by kernel_rfl)
      ⟨rfl, kp_of_below (below_setRow bel2.out (Nat.le_refl _) _)⟩

theorem stake_glob (x : Int) (w : World) (h0 : 0 ≤ x) (h : glob x = true) :
    Calls Try.prog 60 #[.int .u64 x] w fun e w' => e = .returned (.tuple #[.agg #[.int .u8 (x % 4), .int .u8 (x / 4 % 2), .bool (x / 8 % 2 == 1), .bool (x / 16 % 2 == 1), .int .u8 (x / 32 % 64), .int .u8 (x / 2048 % 128), .int .u8 (x / 262144 % 128)], .bool true]) ∧ Kp [] w w' :=
  stake_core x _ _ _ _ _ 0 _ _ true w (.inr (.inr ⟨rfl, (glob_take h).2, rfl⟩)) (Lib.hid fun w => take_some x w h0 (glob_take h).1)

theorem stake_not (x : Int) (w : World) (h0 : 0 ≤ x) (h1 : x < 18446744073709551616) (h : glob x = false) :
    ∃ k c o r s g m, Hid (∀ w, Calls Try.prog 60 #[.int .u64 x] w fun e w' => e = .returned (.tuple #[.agg #[.int .u8 k, .int .u8 c, .bool g, .bool m, .int .u8 o, .int .u8 r, .int .u8 s], .bool false]) ∧ Kp [] w w') := by
  by_cases ht : takeB x = true
  · have hk : (x % 4 == 3) = false := by simp only [glob, ht, Bool.true_and, decide_eq_false_iff_not] at h; simpa using h
    exact ⟨_, _, _, _, _, _, _, Lib.hid fun w => stake_core x _ _ _ _ _ 0 _ _ false w (.inr (.inl ⟨rfl, hk, rfl⟩)) (Lib.hid fun w => take_some x w h0 ht)⟩
  · exact ⟨_, _, _, _, _, _, _, Lib.hid fun w => stake_core x 0 0 0 0 0 3 false false false w (.inl ⟨rfl, rfl⟩) (Lib.hid fun w => take_none x w h0 h1 (by simpa using ht))⟩

/-- Tell, whatever 'take' says. -/
theorem stell_core (x cc t k c o r s : Int) (g m b : Bool) (w : World)
    (hw : b = false ∧ t = 0 ∨ b = true ∧ 1 < cc ∧ t = 0 ∨ b = true ∧ cc ≤ 1 ∧ (c != cc) = true ∧ t = 1 ∨ b = true ∧ cc ≤ 1 ∧ c = cc ∧ g = true ∧ t = 2 ∨ b = true ∧ cc ≤ 1 ∧ c = cc ∧ g = false ∧ t = 3)
    (hT : Hid (∀ w, Calls Try.prog 60 #[.int .u64 x] w fun e w' => e = .returned (.tuple #[.agg #[.int .u8 k, .int .u8 c, .bool g, .bool m, .int .u8 o, .int .u8 r, .int .u8 s], .bool b]) ∧ Kp [] w w')) :
    Calls Try.prog 26 #[.int .u64 x, .int .u8 cc] w fun e w' => e = .returned (.int .u8 t) ∧ Kp [] w w' := by
  rcases hw with ⟨rfl, rfl⟩ | ⟨rfl, h1, rfl⟩ | ⟨rfl, h1, h2, rfl⟩ | ⟨rfl, h1, rfl, rfl, rfl⟩ | ⟨rfl, h1, rfl, rfl, rfl⟩
  all_goals
    go_enter Try.func26, Try.ntmps26
    go_wp2_with fail
    refine (hT.out _).mono ?_; rintro e w1 ⟨rfl, hk⟩
    have HK := Lib.hid hk
    clear hk
    go_wp2
    go_ret
    exact ⟨rfl, HK.out.alloc _⟩

theorem tell_is (x cc t : Int) (w : World) (h0 : 0 ≤ x) (h1 : x < 18446744073709551616) (ht : tellI x cc = t) :
    Calls Try.prog 26 #[.int .u64 x, .int .u8 cc] w fun e w' => e = .returned (.int .u8 t) ∧ Kp [] w w' := by
  by_cases hg : glob x = true
  · refine stell_core x cc t _ _ _ _ _ _ _ true w ?_ (Lib.hid fun w => stake_glob x w h0 hg)
    by_cases hc : cc ≤ 1
    · unfold tellI at ht
      rw [if_pos ⟨hg, hc⟩] at ht
      by_cases h4 : x / 4 % 2 = cc
      · rw [if_pos h4] at ht
        by_cases h8 : x / 8 % 2 = 1
        · rw [if_pos h8] at ht
          exact .inr (.inr (.inr (.inl ⟨rfl, hc, h4, by simpa using h8, ht.symm⟩)))
        · rw [if_neg h8] at ht
          exact .inr (.inr (.inr (.inr ⟨rfl, hc, h4, by simpa using h8, ht.symm⟩)))
      · rw [if_neg h4] at ht
        exact .inr (.inr (.inl ⟨rfl, hc, by simpa using h4, ht.symm⟩))
    · exact .inr (.inl ⟨rfl, by omega, by rw [← ht, tell_none (.inr (by omega))]⟩)
  · obtain ⟨k, c, o, r, s, g, m, hT⟩ := stake_not x w h0 h1 (by simpa using hg)
    exact stell_core x cc t _ _ _ _ _ _ _ false w (.inl ⟨rfl, by rw [← ht, tell_none (.inl (by simpa using hg))]⟩) hT

end Go.Proofs.Ytnbibpmhmffmpaa

namespace Go.Proofs.Ytnbibpmhmffmpaa
set_option linter.unusedVariables false
set_option linter.unusedSimpArgs false
set_option maxRecDepth 100000
open Go.RowKit

theorem sput_yes (k c o r s y : Int) (g m : Bool) (w : World) (hk : 0 ≤ k) (hc : 0 ≤ c) (ho : 0 ≤ o) (hr : 0 ≤ r) (hs : 0 ≤ s) (h : mayB k c o r s g m = true) (hy : wordI k c o r s g m = y) :
    Calls Try.prog 21 #[.agg #[.int .u8 k, .int .u8 c, .bool g, .bool m, .int .u8 o, .int .u8 r, .int .u8 s]] w fun e w' => e = .returned (.tuple #[.int .u64 y, .int .i64 0]) ∧ Kp [] w w' :=
  (put_yes k c o r s g m w hk hc ho hr hs h).mono fun e w' ⟨he, hb⟩ => ⟨by rw [he, hy], kp_of_below hb⟩

abbrev hcells (k c : Int) (g m : Bool) (o r s : Int) : Array Value := #[.int .u8 k, .int .u8 c, .bool g, .bool m, .int .u8 o, .int .u8 r, .int .u8 s]

/-- 'dye' of a Global object's header, by a closure that changes colour and grey alone. -/
theorem dye_core (f : FuncId) (cap : Array Value) (x k c o r s c2 y : Int) (g g2 m : Bool) (w : World)
    (hen : ∀ (v : Value) (w : World), (callFunc f (#[v] ++ cap)).run Try.prog w = .ok (.enter f (#[v] ++ cap)) w)
    (hT : Hid (∀ w, Calls Try.prog 60 #[.int .u64 x] w fun e w' => e = .returned (.tuple #[.agg (hcells k c g m o r s), .bool true]) ∧ Kp [] w w'))
    (hf : Hid (∀ w' b, Kp [] w w' → w'.heap[b]? = some (.cells (hcells k c g m o r s) 59 (0, 0)) → Calls Try.prog f (#[.pointer (some ⟨b, 0, none⟩)] ++ cap) w' fun e w2 => e = .returned (.tuple #[]) ∧ Kp [b] w' w2 ∧ w2.heap[b]? = some (.cells (hcells k c2 g2 m o r s) 59 (0, 0))))
    (hP : Hid (∀ w, Calls Try.prog 21 #[.agg (hcells k c2 g2 m o r s)] w fun e w' => e = .returned (.tuple #[.int .u64 y, .int .i64 0]) ∧ Kp [] w w')) :
    Calls Try.prog 56 #[.int .u64 x, .func (.func f) #[] cap] w fun e w' => e = .returned (.int .u64 y) ∧ Kp [] w w' := by
  go_enter Try.func56, Try.ntmps56
  go_wp2_with fail
  refine (hT.out _).mono ?_; rintro e w1 ⟨rfl, hk⟩
  have HK := Lib.hid (hk.alloc (.cells (hcells k c g m o r s) 59))
  have hz := hk.size
  clear hk
  go_wp2_with fail
  refine (hf.out _ w1.heap.size HK.out (heap_alloc_new w1 _)).mono ?_; rintro e w2 ⟨rfl, k2, hb⟩
  have K2 := Lib.hid (HK.out.trans_new k2 hz)
  have c0 := cell_of_row hb 0
  have c1 := cell_of_row hb 1
  have c2' := cell_of_row hb 2
  have c3 := cell_of_row hb 3
  have c4 := cell_of_row hb 4
  have c5 := cell_of_row hb 5
  have c6 := cell_of_row hb 6
  simp only [hcells, List.getElem?_toArray, List.getElem?_cons_zero, List.getElem?_cons_succ] at c0 c1 c2' c3 c4 c5 c6
  clear hb k2 HK hz
  go_wp2_with fail
  refine (hP.out _).mono ?_; rintro e w3 ⟨rfl, k3⟩
  have K3 := Lib.hid (K2.out.trans k3)
  clear k3 K2 c0 c1 c2' c3 c4 c5 c6
  go_wp2
  go_ret
  exact ⟨rfl, K3.out⟩

/-- 'dye' of what is no Global object's. -/
theorem dye_not (fv : Value) (x : Int) (w : World) (h0 : 0 ≤ x) (h1 : x < 18446744073709551616) (h : glob x = false) :
    Calls Try.prog 56 #[.int .u64 x, fv] w fun e w' => e = .returned (.int .u64 x) ∧ Kp [] w w' := by
  obtain ⟨k, c, o, r, s, g, m, hT⟩ := stake_not x w h0 h1 h
  clear h1
  go_enter Try.func56, Try.ntmps56
  go_wp2_with fail
  refine (hT.out _).mono ?_; rintro e w1 ⟨rfl, hk⟩
  have HK := Lib.hid (hk.alloc (.cells (hcells k c g m o r s) 59))
  clear hk
  go_wp2
  go_ret
  exact ⟨rfl, HK.out⟩

/-- The closures that change a header. -/
theorem ch_shade (w : World) (b d : Nat) (k c o r s cc : Int) (g m : Bool) (hb : w.heap[b]? = some (.cells (hcells k c g m o r s) 59 (0, 0))) (hc : w.cell? ⟨d, 0, none⟩ = some (.int .u8 cc)) :
    Calls Try.prog 59 #[.pointer (some ⟨b, 0, none⟩), .pointer (some ⟨d, 0, none⟩)] w fun e w2 => e = .returned (.tuple #[]) ∧ Kp [b] w w2 ∧ w2.heap[b]? = some (.cells (hcells k cc true m o r s) 59 (0, 0)) := by
  have c1 := cell_of_row hb 1
  have c2 := cell_of_row hb 2
  have f := free_of_row hb
  simp only [hcells, List.getElem?_toArray, List.getElem?_cons_zero, List.getElem?_cons_succ] at c1 c2
  have e1 := heap_setCell_same w b 1 _ _ (.int .u8 cc) hb
  have e2 := heap_setCell_same _ b 2 _ _ (.bool true) e1
  have E2 := Lib.hid e2
  have KK := Lib.hid (((Kp.refl [b] w).setCell (p := ⟨b, 1, none⟩) (.inl (by simp)) (.int .u8 cc)).setCell (p := ⟨b, 2, none⟩) (.inl (by simp)) (.bool true))
  clear e1 e2 hb
  go_enter Try.func59, Try.ntmps59
  go_wp2
  go_end0
  exact ⟨rfl, KK.out, by simpa using E2.out⟩

theorem ch_black (w : World) (b : Nat) (k c o r s : Int) (g m : Bool) (hb : w.heap[b]? = some (.cells (hcells k c g m o r s) 59 (0, 0))) :
    Calls Try.prog 57 #[.pointer (some ⟨b, 0, none⟩)] w fun e w2 => e = .returned (.tuple #[]) ∧ Kp [b] w w2 ∧ w2.heap[b]? = some (.cells (hcells k c false m o r s) 59 (0, 0)) := by
  have c2 := cell_of_row hb 2
  have f := free_of_row hb
  simp only [hcells, List.getElem?_toArray, List.getElem?_cons_zero, List.getElem?_cons_succ] at c2
  have e2 := heap_setCell_same w b 2 _ _ (.bool false) hb
  have E2 := Lib.hid e2
  have KK := Lib.hid ((Kp.refl [b] w).setCell (p := ⟨b, 2, none⟩) (.inl (by simp)) (.bool false))
  clear e2 hb
  go_enter Try.func57, Try.ntmps57
  go_wp2
  go_end0
  exact ⟨rfl, KK.out, by simpa using E2.out⟩

theorem gparts (x : Int) (h : glob x = true) : (Value.agg #[.int .u8 (x % 4), .int .u8 (x / 4 % 2), .bool (x / 8 % 2 == 1), .bool (x / 16 % 2 == 1), .int .u8 (x / 32 % 64), .int .u8 (x / 2048 % 128), .int .u8 (x / 262144 % 128)]) = .agg (hcells 3 (x / 4 % 2) (x / 8 % 2 == 1) false (x / 32 % 64) (x / 2048 % 128) (x / 262144 % 128)) := by
  rw [glob_marked h, (glob_take h).2]

theorem dye_shade (x cc : Int) (d : Nat) (w : World) (h0 : 0 ≤ x) (h1 : x < 18446744073709551616) (hc0 : 0 ≤ cc) (hc1 : cc ≤ 1) (hg : glob x = true) (hc : w.cell? ⟨d, 0, none⟩ = some (.int .u8 cc)) :
    Calls Try.prog 56 #[.int .u64 x, .func (.func 59) #[] #[.pointer (some ⟨d, 0, none⟩)]] w fun e w' => e = .returned (.int .u64 (dyed x cc true)) ∧ Kp [] w w' := by
  have hlt := World.block_lt_of_cell? _ _ hc
  refine dye_core 59 #[.pointer (some ⟨d, 0, none⟩)] x 3 (x / 4 % 2) (x / 32 % 64) (x / 2048 % 128) (x / 262144 % 128) cc (dyed x cc true) (x / 8 % 2 == 1) true false w (fun _ _ => rfl)
    (Lib.hid fun w => by have := stake_glob x w h0 hg; rw [gparts x hg] at this; exact this) (Lib.hid fun w' b k hb => ch_shade w' b d _ _ _ _ _ cc _ _ hb ?_) (Lib.hid fun w => sput_yes _ _ _ _ _ _ _ _ w (by omega) hc0 (by omega) (by omega) (by omega) (glob_may hg hc0 hc1) rfl)
  rw [World.cell?_of_block (k.block d hlt (by simp))]
  exact hc

theorem dye_black (x : Int) (w : World) (h0 : 0 ≤ x) (h1 : x < 18446744073709551616) :
    Calls Try.prog 56 #[.int .u64 x, .func (.func 57) #[] #[]] w fun e w' => e = .returned (.int .u64 (blackI x)) ∧ Kp [] w w' := by
  by_cases hg : glob x = true
  · rw [blackI, if_pos hg]
    exact dye_core 57 #[] x 3 (x / 4 % 2) (x / 32 % 64) (x / 2048 % 128) (x / 262144 % 128) (x / 4 % 2) (dyed x (x / 4 % 2) false) (x / 8 % 2 == 1) false false w (fun _ _ => rfl)
      (Lib.hid fun w => by have := stake_glob x w h0 hg; rw [gparts x hg] at this; exact this) (Lib.hid fun w' b k hb => ch_black w' b _ _ _ _ _ _ _ hb) (Lib.hid fun w => sput_yes _ _ _ _ _ _ _ _ w (by omega) (by omega) (by omega) (by omega) (by omega) (glob_may hg (by omega) (by omega)) rfl)
  · rw [blackI, if_neg hg]
    exact dye_not _ x w h0 h1 (by simpa using hg)

/-- The touches' closures. -/
theorem cl_shade (x cc : Int) (d : Nat) (w : World) (h0 : 0 ≤ x) (h1 : x < 18446744073709551616) (hc0 : 0 ≤ cc) (hc : w.cell? ⟨d, 0, none⟩ = some (.int .u8 cc)) :
    Calls Try.prog 58 #[.int .u64 x, .pointer (some ⟨d, 0, none⟩)] w fun e w' => e = .returned (.int .u64 (shadeI x cc)) ∧ Kp [] w w' := by
  have hmf : ∀ (fn : Fn) (first cap : Array Value) (w : World), (Instr.makeFunc fn first cap).run Try.prog w = .ok (.func fn first cap) w := fun _ _ _ _ => rfl
  have hlt := World.block_lt_of_cell? _ _ hc
  have HX := Lib.hid h1
  clear h1
  by_cases ht : tellI x cc = 1
  · obtain ⟨hg, hc1⟩ := tell_pos (x := x) (c := cc) (by omega)
    rw [shadeI, if_pos ht]
    go_enter Try.func58, Try.ntmps58
    go_wp2_with fail
    refine (tell_is x cc 1 _ h0 HX.out ht).mono ?_; rintro e w1 ⟨rfl, k1⟩
    have hc' : w1.cell? ⟨d, 0, none⟩ = some (.int .u8 cc) := by rw [World.cell?_of_block (k1.block d hlt (by simp))]; exact hc
    have K1 := Lib.hid k1
    clear k1
    go_wp2_with fail
    refine (dye_shade x cc d _ h0 HX.out hc0 hc1 hg hc').mono ?_; rintro e w2 ⟨rfl, k2⟩
    have K2 := Lib.hid (K1.out.trans k2)
    clear k2 K1 hc'
    go_wp2
    go_ret
    exact ⟨rfl, K2.out⟩
  · rw [shadeI, if_neg ht]
    obtain ⟨t, htt⟩ : ∃ t, tellI x cc = t := ⟨_, rfl⟩
    have hb : (t != 1) = true := by rw [← htt]; simpa using ht
    clear ht
    have HT := Lib.hid htt
    clear htt
    go_enter Try.func58, Try.ntmps58
    go_wp2_with fail
    refine (tell_is x cc t _ h0 HX.out HT.out).mono ?_; rintro e w1 ⟨rfl, k1⟩
    have K1 := Lib.hid k1
    clear k1
    go_wp2
    go_ret
    exact ⟨rfl, K1.out⟩

theorem cl_black (x : Int) (w : World) (h0 : 0 ≤ x) (h1 : x < 18446744073709551616) :
    Calls Try.prog 55 #[.int .u64 x] w fun e w' => e = .returned (.int .u64 (blackI x)) ∧ Kp [] w w' := by
  have HX := Lib.hid h1
  clear h1
  go_enter Try.func55, Try.ntmps55
  go_wp2_with fail
  refine (dye_black x _ h0 HX.out).mono ?_; rintro e w1 ⟨rfl, k1⟩
  have K1 := Lib.hid k1
  clear k1
  go_wp2
  go_ret
  exact ⟨rfl, K1.out⟩

end Go.Proofs.Ytnbibpmhmffmpaa

namespace Go.Proofs.Ytnbibpmhmffmpaa
set_option linter.unusedVariables false
set_option linter.unusedSimpArgs false
set_option maxRecDepth 100000
open Go.Conc
open Go.ConcN (upd_ne upd_same)

section
variable {G : Type} {Post : Value → World → Prop} {Sh : World → G → Prop} {SB : Nat → Prop} {pA rA : Nat} {a : Ag} {mv : Value} {home : Goroutine → Prop} {n : Nat} {T : Tree G} {runs ov : Bool}
variable {pl pl' : Nat → Option Place} {F F' F1 : Nat → Option (Nat × Nat)} {col col' col1 : Nat → Col} {w w' w1 : World} {g : G} {S : Nat → Prop}

set_option maxHeartbeats 1000000 in
/-- A READ. -/
theorem bread2 (hSh : ∀ g, Priv SB (fun w => Sh w g)) (hmv : mv = memV pA) {k : Int} {c : Int → G → G} {nx : Int → G → Tree G} {hl : G → G} {c₀ : Frame} {cs : List Frame} {own : Nat → Prop} {A : World → Prop}
    (hA : Acts SB pA rA a mv home true false pl F col w) (hown : ∀ b, own b → col b = .ag a.j) (hP : Priv own A) (hAw : A w) (hs : Sh w g)
    (hres : ∀ v, 0 ≤ v → v < 18446744073709551616 → ∀ home n pl' F' col' w' g, Acts SB pA rA a mv home true false pl' F' col' w' → (∀ b, own b → col' b = .ag a.j) → A w' → Sh w' g → Kont Post Sh SB pA rA a mv home n (nx v g) pl' F' col' w' (c v g) → Win Try.prog Post pl' n a.j (gor (c₀.finish (.int .u64 v)) cs) w')
    (hstop : ∀ home n pl' F' col' w' g, Ends SB pA rA a mv home pl' F' col' w' → (∀ b, own b → col' b = .ag a.j) → A w' → Sh w' g → Kont Post Sh SB pA rA a mv home n .ret pl' F' col' w' (hl g) → Win Try.prog Post pl' n a.j (gor (c₀.raise [haltE]) cs) w')
    (K : Kont Post Sh SB pA rA a mv home n (.node k (fun x => x) c nx hl) pl F col w g) :
    Win Try.prog Post pl n a.j (gor (Frame.enter Try.prog 120 #[.pointer (some ⟨a.m, 0, none⟩), .int .i64 k] .normal) (c₀ :: cs)) w := by
  have hL2 := (hA.lies.alloc (.cells #[.int .i64 k] 3)).alloc (.cells #[.int .u64 0] 40)
  have k2 : Ks (fun _ => False) w ((w.alloc (.cells #[.int .i64 k] 3)).alloc (.cells #[.int .u64 0] 40)) := (ks_alloc _ w _).trans (ks_alloc _ _ _)
  have hbA : ((w.alloc (.cells #[.int .i64 k] 3)).alloc (.cells #[.int .u64 0] 40)).heap[w.heap.size]? = some (.cells #[.int .i64 k] 3 (0, 0)) := (alloc_heap _ _ _ (by show _ < (w.heap.push _).size; simp)).trans (alloc_new w _)
  have hbV : ((w.alloc (.cells #[.int .i64 k] 3)).alloc (.cells #[.int .u64 0] 40)).heap[w.heap.size + 1]? = some (.cells #[.int .u64 0] 40 (0, 0)) := by
    have := alloc_new (w.alloc (.cells #[.int .i64 k] 3)) (.cells #[.int .u64 0] 40)
    rw [show (w.alloc (.cells #[.int .i64 k] 3)).heap.size = w.heap.size + 1 from Array.size_push _] at this
    exact this
  have hz : ((w.alloc (.cells #[.int .i64 k] 3)).alloc (.cells #[.int .u64 0] 40)).heap.size = w.heap.size + 2 := by
    show (Array.push (Array.push _ _) _).size = _
    simp
  refine read_in hA.lies ?_
  obtain ⟨hA2, hM⟩ := hA.grow k2 hL2
  have hAw2 := hP.grow hAw k2
  have hs2 := (hSh g).grow hs k2
  have hcA : pA < w.heap.size := by
    rcases Nat.lt_or_ge pA w.heap.size with z | z
    · exact z
    · have := hA.lay.ar.1; rw [hA.lay.above _ z] at this; cases this
  have hcR : rA < w.heap.size := by
    rcases Nat.lt_or_ge rA w.heap.size with z | z
    · exact z
    · have := hA.lay.ar.2; rw [hA.lay.above _ z] at this; cases this
  generalize (w.alloc (.cells #[.int .i64 k] 3)).alloc (.cells #[.int .u64 0] 40) = w2 at *
  have holt : ∀ b, own b → b < w.heap.size := fun b hb => hP.lt _ _ hAw hb
  refine btouch hSh (own := fun b => own b ∨ b = w.heap.size ∨ b = w.heap.size + 1) (A := fun w' => A w' ∧ w'.heap[w.heap.size]? = some (.cells #[.int .i64 k] 3 (0, 0)) ∧ w'.heap[w.heap.size + 1]? = some (.cells #[.int .u64 0] 40 (0, 0)))
    (B := fun v o w' => ((∀ b, own b ∨ b = w.heap.size + 1 ↔ o b) ∧ 0 ≤ v ∧ v < 18446744073709551616) ∧ A w' ∧ w'.heap[w.heap.size + 1]? = some (.cells #[.int .u64 v] 40 (0, 0))) hA2 ?_ ?_ ?_ ⟨hAw2, hbA, hbV⟩ hs2 ⟨_, Try.func125, rfl⟩ ?_ ?_ ?_ (Kont.moves hM K)
  · rintro b (hb | rfl | rfl)
    · exact grown_ag hA.lay (hown b hb)
    · exact grown_new (Nat.le_refl _) (by omega)
    · exact grown_new (by omega) (by omega)
  · refine ⟨fun u u' ⟨h1, h2, h3⟩ he => ⟨hP.st _ _ h1 fun b hb => he b (.inl hb), (he _ (.inr (.inl rfl))).trans h2, (he _ (.inr (.inr rfl))).trans h3⟩, fun u b ⟨h1, h2, h3⟩ hb => ?_, fun u b ⟨h1, h2, h3⟩ hb => ?_⟩
    · rcases hb with hb | rfl | rfl
      · exact hP.np _ _ h1 hb
      · exact rich_cells h2
      · exact rich_cells h3
    · rcases hb with hb | rfl | rfl
      · exact hP.lt _ _ h1 hb
      · exact lt_of_block h2
      · exact lt_of_block h3
  · intro v o
    refine ⟨fun u u' ⟨h0, h1, h3⟩ he => ⟨h0, hP.st _ _ h1 fun b hb => he b ((h0.1 b).1 (.inl hb)), (he _ ((h0.1 _).1 (.inr rfl))).trans h3⟩, fun u b ⟨h0, h1, h3⟩ hb => ?_, fun u b ⟨h0, h1, h3⟩ hb => ?_⟩
    · rcases (h0.1 b).2 hb with hb | rfl
      · exact hP.np _ _ h1 hb
      · exact rich_cells h3
    · rcases (h0.1 b).2 hb with hb | rfl
      · exact hP.lt _ _ h1 hb
      · exact lt_of_block h3
  · intro u s ⟨h1, h2, h3⟩ har hn ht hbn
    subst hmv
    refine (tch_read har hn ht h2 h3 (by omega) (by omega)).mono ?_
    rintro e u2 ⟨he, ha, hv, hk⟩
    have hk' := ks_of_kp hk
    refine ⟨he, ha, ⟨fun b => own b ∨ b = w.heap.size + 1, fun b hb => ?_, ⟨fun b => Iff.rfl, hbn.was k⟩, hP.st _ _ h1 fun b hb => hk'.block b (hP.lt _ _ h1 hb) ?_, hv⟩, hk'.mono fun b _ hb => ?_⟩
    · rcases hb with hb | rfl
      · exact .inl (.inl hb)
      · exact .inl (.inr (.inr rfl))
    · have hol := holt b hb
      have hc := hown b hb
      intro hx
      simp only [List.mem_cons, List.not_mem_nil, or_false] at hx
      rcases hx with rfl | rfl | rfl
      · rw [hA.lay.ar.1] at hc; cases hc
      · rw [hA.lay.ar.2] at hc; cases hc
      · omega
    · simp only [List.mem_cons, List.not_mem_nil, or_false] at hb
      rcases hb with rfl | rfl | rfl
      · exact .inl rfl
      · exact .inr (.inl rfl)
      · exact .inr (.inr (.inr (.inr rfl)))
  · intro v o home' n' pl' F' col' w' g' hA' ho hb hs' K'
    obtain ⟨h0, h1, h3⟩ := hb
    have hc : col' (w.heap.size + 1) = .ag a.j := ho _ ((h0.1 _).1 (.inr rfl))
    have hFn : F' (w.heap.size + 1) = none := hA'.lay.free _ (by rw [hc]; rfl)
    have kk := ks_setCell w' ⟨w.heap.size + 1, 0, none⟩ (.int .u64 v)
    obtain ⟨hA3, hM3⟩ := hA'.turn kk (hA'.lies.setCell _ _) (fun b hb => by
      have e : b = w.heap.size + 1 := hb
      subst e; exact .inl hc)
    refine read_out (cell_of_row h3 0) (free_of_row h3 0) ⟨fun i s' x hi hx => ?_, fun i s' x hi hx e => ?_⟩ (hres v h0.2.1 h0.2.2 home' n' pl' F' _ _ g' hA3 (fun b hb => ?_) (hP.st _ _ h1 fun b hb => kk.block b (hP.lt _ _ h1 hb) ?_) ((hSh g').st _ _ hs' fun b hb => kk.block b ((hSh g').lt _ _ hs' hb) ?_) (Kont.moves hM3 K'))
    · obtain ⟨lo, hi', z, _, _⟩ := hA'.lies.still i s' _ x hi hx
      rw [hFn] at z; cases z
    · obtain ⟨_, _, _, _, _, _, hh⟩ := hA'.lies.chans i s' x hi hx
      rw [e] at hh
      simp only at hh
      rw [h3] at hh; cases hh
    · exact grown_ag hA'.lay (ho b ((h0.1 b).1 (.inl hb)))
    · intro e
      have e' : b = w.heap.size + 1 := e
      have := holt b hb
      omega
    · intro e
      have e' : b = w.heap.size + 1 := e
      have := hA'.lay.sb b hb
      rw [e', hc] at this; cases this
  · intro home' n' pl' F' col' w' g' hE ho ha hs' K'
    have hne : (Frame.enter Try.prog 120 #[.pointer (some ⟨a.m, 0, none⟩), .int .i64 k] CallKind.normal).kind = .normal := rfl
    refine Win.unwinds (chain := [haltE]) rfl rfl rfl ?_
    exact hstop home' n' pl' F' col' w' g' hE (fun b hb => ho b (.inl hb)) ha.1 hs' K'

set_option maxHeartbeats 1000000 in
/-- AN UPDATE, by a closure that makes memory at most. -/
theorem bupdate2 (hSh : ∀ g, Priv SB (fun w => Sh w g)) (hmv : mv = memV pA) {k : Int} {φ : Int → Int} {f : FuncId} {cap : Array Value} {c : Int → G → G} {nx : Int → G → Tree G} {hl : G → G} {c₀ : Frame} {cs : List Frame} {own : Nat → Prop} {A : World → Prop}
    (hA : Acts SB pA rA a mv home true false pl F col w) (hown : ∀ b, own b → col b = .ag a.j) (hP : Priv own A) (hAw : A w) (hs : Sh w g)
    (hen : ∀ (x : Value) (w : World), (callFunc f (#[x] ++ cap)).run Try.prog w = .ok (.enter f (#[x] ++ cap)) w)
    (hcl : ∀ w' x, A w' → 0 ≤ x → x < 18446744073709551616 → Calls Try.prog f (#[.int .u64 x] ++ cap) w' fun e w2 => e = .returned (.int .u64 (φ x)) ∧ Kp [] w' w2)
    (hres : ∀ v, 0 ≤ v → v < 18446744073709551616 → ∀ home n pl' F' col' w' g, Acts SB pA rA a mv home true false pl' F' col' w' → (∀ b, own b → col' b = .ag a.j) → A w' → Sh w' g → Kont Post Sh SB pA rA a mv home n (nx v g) pl' F' col' w' (c v g) → Win Try.prog Post pl' n a.j (gor (c₀.finish (.int .u64 v)) cs) w')
    (hstop : ∀ home n pl' F' col' w' g, Ends SB pA rA a mv home pl' F' col' w' → (∀ b, own b → col' b = .ag a.j) → A w' → Sh w' g → Kont Post Sh SB pA rA a mv home n .ret pl' F' col' w' (hl g) → Win Try.prog Post pl' n a.j (gor (c₀.raise [haltE]) cs) w')
    (K : Kont Post Sh SB pA rA a mv home n (.node k φ c nx hl) pl F col w g) :
    Win Try.prog Post pl n a.j (gor (Frame.enter Try.prog 121 #[.pointer (some ⟨a.m, 0, none⟩), .int .i64 k, .func (.func f) #[] cap] .normal) (c₀ :: cs)) w := by
  have hL2 := ((hA.lies.alloc (.cells #[.int .i64 k] 3)).alloc (.cells #[.func (.func f) #[] cap] 66)).alloc (.cells #[.int .u64 0] 40)
  have k2 : Ks (fun _ => False) w (((w.alloc (.cells #[.int .i64 k] 3)).alloc (.cells #[.func (.func f) #[] cap] 66)).alloc (.cells #[.int .u64 0] 40)) := ((ks_alloc _ w _).trans (ks_alloc _ _ _)).trans (ks_alloc _ _ _)
  have z1 : (w.alloc (.cells #[.int .i64 k] 3)).heap.size = w.heap.size + 1 := Array.size_push _
  have z2 : ((w.alloc (.cells #[.int .i64 k] 3)).alloc (.cells #[.func (.func f) #[] cap] 66)).heap.size = w.heap.size + 2 := by
    show (Array.push (Array.push _ _) _).size = _
    simp
  have hbA : (((w.alloc (.cells #[.int .i64 k] 3)).alloc (.cells #[.func (.func f) #[] cap] 66)).alloc (.cells #[.int .u64 0] 40)).heap[w.heap.size]? = some (.cells #[.int .i64 k] 3 (0, 0)) := (alloc_heap _ _ _ (by omega)).trans ((alloc_heap _ _ _ (by omega)).trans (alloc_new w _))
  have hbX : (((w.alloc (.cells #[.int .i64 k] 3)).alloc (.cells #[.func (.func f) #[] cap] 66)).alloc (.cells #[.int .u64 0] 40)).heap[w.heap.size + 1]? = some (.cells #[.func (.func f) #[] cap] 66 (0, 0)) := (alloc_heap _ _ _ (by omega)).trans (by
    have := alloc_new (w.alloc (.cells #[.int .i64 k] 3)) (.cells #[.func (.func f) #[] cap] 66)
    rw [z1] at this
    exact this)
  have hbV : (((w.alloc (.cells #[.int .i64 k] 3)).alloc (.cells #[.func (.func f) #[] cap] 66)).alloc (.cells #[.int .u64 0] 40)).heap[w.heap.size + 2]? = some (.cells #[.int .u64 0] 40 (0, 0)) := by
    have := alloc_new ((w.alloc (.cells #[.int .i64 k] 3)).alloc (.cells #[.func (.func f) #[] cap] 66)) (.cells #[.int .u64 0] 40)
    rw [z2] at this
    exact this
  have hz : (((w.alloc (.cells #[.int .i64 k] 3)).alloc (.cells #[.func (.func f) #[] cap] 66)).alloc (.cells #[.int .u64 0] 40)).heap.size = w.heap.size + 3 := by
    show (Array.push (Array.push (Array.push _ _) _) _).size = _
    simp
  refine update_in hA.lies ?_
  obtain ⟨hA2, hM⟩ := hA.grow k2 hL2
  have hAw2 := hP.grow hAw k2
  have hs2 := (hSh g).grow hs k2
  have hcA : pA < w.heap.size := by
    rcases Nat.lt_or_ge pA w.heap.size with z | z
    · exact z
    · have := hA.lay.ar.1; rw [hA.lay.above _ z] at this; cases this
  have hcR : rA < w.heap.size := by
    rcases Nat.lt_or_ge rA w.heap.size with z | z
    · exact z
    · have := hA.lay.ar.2; rw [hA.lay.above _ z] at this; cases this
  clear z1 z2
  generalize ((w.alloc (.cells #[.int .i64 k] 3)).alloc (.cells #[.func (.func f) #[] cap] 66)).alloc (.cells #[.int .u64 0] 40) = w2 at *
  have holt : ∀ b, own b → b < w.heap.size := fun b hb => hP.lt _ _ hAw hb
  refine btouch hSh (own := fun b => own b ∨ b = w.heap.size ∨ b = w.heap.size + 1 ∨ b = w.heap.size + 2) (A := fun w' => A w' ∧ w'.heap[w.heap.size]? = some (.cells #[.int .i64 k] 3 (0, 0)) ∧ w'.heap[w.heap.size + 1]? = some (.cells #[.func (.func f) #[] cap] 66 (0, 0)) ∧ w'.heap[w.heap.size + 2]? = some (.cells #[.int .u64 0] 40 (0, 0)))
    (B := fun v o w' => ((∀ b, own b ∨ b = w.heap.size + 2 ↔ o b) ∧ 0 ≤ v ∧ v < 18446744073709551616) ∧ A w' ∧ w'.heap[w.heap.size + 2]? = some (.cells #[.int .u64 v] 40 (0, 0))) hA2 ?_ ?_ ?_ ⟨hAw2, hbA, hbX, hbV⟩ hs2 ⟨_, Try.func126, rfl⟩ ?_ ?_ ?_ (Kont.moves hM K)
  · rintro b (hb | rfl | rfl | rfl)
    · exact grown_ag hA.lay (hown b hb)
    · exact grown_new (Nat.le_refl _) (by omega)
    · exact grown_new (by omega) (by omega)
    · exact grown_new (by omega) (by omega)
  · refine ⟨fun u u' ⟨h1, h2, h4, h3⟩ he => ⟨hP.st _ _ h1 fun b hb => he b (.inl hb), (he _ (.inr (.inl rfl))).trans h2, (he _ (.inr (.inr (.inl rfl)))).trans h4, (he _ (.inr (.inr (.inr rfl)))).trans h3⟩, fun u b ⟨h1, h2, h4, h3⟩ hb => ?_, fun u b ⟨h1, h2, h4, h3⟩ hb => ?_⟩
    · rcases hb with hb | rfl | rfl | rfl
      · exact hP.np _ _ h1 hb
      · exact rich_cells h2
      · exact rich_cells h4
      · exact rich_cells h3
    · rcases hb with hb | rfl | rfl | rfl
      · exact hP.lt _ _ h1 hb
      · exact lt_of_block h2
      · exact lt_of_block h4
      · exact lt_of_block h3
  · intro v o
    refine ⟨fun u u' ⟨h0, h1, h3⟩ he => ⟨h0, hP.st _ _ h1 fun b hb => he b ((h0.1 b).1 (.inl hb)), (he _ ((h0.1 _).1 (.inr rfl))).trans h3⟩, fun u b ⟨h0, h1, h3⟩ hb => ?_, fun u b ⟨h0, h1, h3⟩ hb => ?_⟩
    · rcases (h0.1 b).2 hb with hb | rfl
      · exact hP.np _ _ h1 hb
      · exact rich_cells h3
    · rcases (h0.1 b).2 hb with hb | rfl
      · exact hP.lt _ _ h1 hb
      · exact lt_of_block h3
  · intro u s ⟨h1, h2, h4, h3⟩ har hn ht hbn
    subst hmv
    have hnA : ∀ b, own b → b ≠ pA := fun b hb e => by have hc := hown b hb; rw [e, hA.lay.ar.1] at hc; cases hc
    refine (tch_update har hn ht h2 h4 h3 (by omega) (by omega) hen (fun u' hk => hcl u' _ (hP.st _ _ h1 fun b hb => hk.block b (hP.lt _ _ h1 hb) (by simpa using hnA b hb)) (hbn.was k).1 (hbn.was k).2)).mono ?_
    rintro e u2 ⟨he, ha, hv, hk⟩
    have hk' := ks_of_kp hk
    refine ⟨he, ha, ⟨fun b => own b ∨ b = w.heap.size + 2, fun b hb => ?_, ⟨fun b => Iff.rfl, hbn.was k⟩, hP.st _ _ h1 fun b hb => hk'.block b (hP.lt _ _ h1 hb) ?_, hv⟩, hk'.mono fun b _ hb => ?_⟩
    · rcases hb with hb | rfl
      · exact .inl (.inl hb)
      · exact .inl (.inr (.inr (.inr rfl)))
    · have hol := holt b hb
      have hc := hown b hb
      intro hx
      simp only [List.mem_cons, List.not_mem_nil, or_false] at hx
      rcases hx with rfl | rfl | rfl
      · rw [hA.lay.ar.1] at hc; cases hc
      · rw [hA.lay.ar.2] at hc; cases hc
      · omega
    · simp only [List.mem_cons, List.not_mem_nil, or_false] at hb
      rcases hb with rfl | rfl | rfl
      · exact .inl rfl
      · exact .inr (.inl rfl)
      · exact .inr (.inr (.inr (.inr (.inr rfl))))
  · intro v o home' n' pl' F' col' w' g' hA' ho hb hs' K'
    obtain ⟨h0, h1, h3⟩ := hb
    have hc : col' (w.heap.size + 2) = .ag a.j := ho _ ((h0.1 _).1 (.inr rfl))
    have hFn : F' (w.heap.size + 2) = none := hA'.lay.free _ (by rw [hc]; rfl)
    have kk := ks_setCell w' ⟨w.heap.size + 2, 0, none⟩ (.int .u64 v)
    obtain ⟨hA3, hM3⟩ := hA'.turn kk (hA'.lies.setCell _ _) (fun b hb => by
      have e : b = w.heap.size + 2 := hb
      subst e; exact .inl hc)
    refine update_out (cell_of_row h3 0) (free_of_row h3 0) ⟨fun i s' x hi hx => ?_, fun i s' x hi hx e => ?_⟩ (hres v h0.2.1 h0.2.2 home' n' pl' F' _ _ g' hA3 (fun b hb => ?_) (hP.st _ _ h1 fun b hb => kk.block b (hP.lt _ _ h1 hb) ?_) ((hSh g').st _ _ hs' fun b hb => kk.block b ((hSh g').lt _ _ hs' hb) ?_) (Kont.moves hM3 K'))
    · obtain ⟨lo, hi', z, _, _⟩ := hA'.lies.still i s' _ x hi hx
      rw [hFn] at z; cases z
    · obtain ⟨_, _, _, _, _, _, hh⟩ := hA'.lies.chans i s' x hi hx
      rw [e] at hh
      simp only at hh
      rw [h3] at hh; cases hh
    · exact grown_ag hA'.lay (ho b ((h0.1 b).1 (.inl hb)))
    · intro e
      have e' : b = w.heap.size + 2 := e
      have := holt b hb
      omega
    · intro e
      have e' : b = w.heap.size + 2 := e
      have := hA'.lay.sb b hb
      rw [e', hc] at this; cases this
  · intro home' n' pl' F' col' w' g' hE ho ha hs' K'
    have hne : (Frame.enter Try.prog 121 #[.pointer (some ⟨a.m, 0, none⟩), .int .i64 k, .func (.func f) #[] cap] CallKind.normal).kind = .normal := rfl
    refine Win.unwinds (chain := [haltE]) rfl rfl rfl ?_
    exact hstop home' n' pl' F' col' w' g' hE (fun b hb => ho b (.inl hb)) ha.1 hs' K'

set_option maxHeartbeats 1000000 in
/-- BLACKEN, over an agent's memory. -/
theorem black_in (hSh : ∀ g, Priv SB (fun w => Sh w g)) (hmv : mv = memV pA) {k : Int} {c : Int → G → G} {nx : Int → G → Tree G} {hl : G → G} {c₀ : Frame} {cs : List Frame} {own : Nat → Prop} {A : World → Prop}
    (hA : Acts SB pA rA a mv home true false pl F col w) (hown : ∀ b, own b → col b = .ag a.j) (hP : Priv own A) (hAw : A w) (hs : Sh w g)
    (hres : ∀ v, 0 ≤ v → v < 18446744073709551616 → ∀ home n pl' F' col' w' g, Acts SB pA rA a mv home true false pl' F' col' w' → (∀ b, own b → col' b = .ag a.j) → A w' → Sh w' g → Kont Post Sh SB pA rA a mv home n (nx v g) pl' F' col' w' (c v g) → Win Try.prog Post pl' n a.j (gor (c₀.finish (.tuple #[])) cs) w')
    (hstop : ∀ home n pl' F' col' w' g, Ends SB pA rA a mv home pl' F' col' w' → (∀ b, own b → col' b = .ag a.j) → A w' → Sh w' g → Kont Post Sh SB pA rA a mv home n .ret pl' F' col' w' (hl g) → Win Try.prog Post pl' n a.j (gor (c₀.raise [haltE]) cs) w')
    (K : Kont Post Sh SB pA rA a mv home n (.node k blackI c nx hl) pl F col w g) :
    Win Try.prog Post pl n a.j (gor (Frame.enter Try.prog 24 #[.iface 136 (.pointer (some ⟨a.m, 0, none⟩)), .int .i64 k] .normal) (c₀ :: cs)) w := by
  have hb : (Frame.enter Try.prog 24 #[.iface 136 (.pointer (some ⟨a.m, 0, none⟩)), .int .i64 k] CallKind.normal).kind = .normal := rfl
  rw [enter_at Try.func24 rfl]
  simp only [Try.ntmps24, List.size_toArray, List.length_cons, List.length_nil, Nat.reduceAdd, Nat.reduceSub, Array.replicate_succ, Array.replicate_zero, List.push_toArray, List.append_toArray, List.nil_append, List.cons_append]
  refine Win.seq ?_
  refine Win.seq ?_
  refine Win.region ?_
  simp only [List.size_toArray, List.length_cons, List.length_nil, Nat.reduceAdd, List.range, List.range.loop]
  refine Win.pureOp (v := .iface 136 (.pointer (some ⟨a.m, 0, none⟩))) (.inl hb) rfl rfl (fun w => rfl) ?_
  simp only [Act.put, Act.eval, List.getElem?_toArray, List.getElem?_cons_zero, List.getElem?_cons_succ, Option.bind_some, List.getElem_toArray, List.getElem_cons_zero, List.getElem_cons_succ, List.setIfInBounds_toArray, List.set_cons_succ, List.set_cons_zero]
  refine Win.pureOp (v := .bool false) (.inl hb) rfl rfl (fun w => by rw [Sem.runT_eq]; simp [go_sem, execOp, Act.eval]; try (first | omega | rfl | exact ⟨rfl, rfl⟩ | kernel_rfl)) ?_
  simp only [Act.put, Act.eval, List.getElem?_toArray, List.getElem?_cons_zero, List.getElem?_cons_succ, Option.bind_some, List.getElem_toArray, List.getElem_cons_zero, List.getElem_cons_succ, List.setIfInBounds_toArray, List.set_cons_succ, List.set_cons_zero]
  refine Win.opsEnd ?_
  refine Win.cond (t := false) rfl ?_
  simp only [if_true, if_false, Bool.false_eq_true]
  refine Win.skip ?_
  refine Win.region ?_
  simp only [List.size_toArray, List.length_cons, List.length_nil, Nat.reduceAdd, List.range, List.range.loop]
  refine Win.pureOp (v := .iface 136 (.pointer (some ⟨a.m, 0, none⟩))) (.inl hb) rfl rfl (fun w => rfl) ?_
  simp only [Act.put, Act.eval, List.getElem?_toArray, List.getElem?_cons_zero, List.getElem?_cons_succ, Option.bind_some, List.getElem_toArray, List.getElem_cons_zero, List.getElem_cons_succ, List.setIfInBounds_toArray, List.set_cons_succ, List.set_cons_zero]
  refine Win.pureOp (v := .int .i64 k) (.inl hb) rfl rfl (fun w => rfl) ?_
  simp only [Act.put, Act.eval, List.getElem?_toArray, List.getElem?_cons_zero, List.getElem?_cons_succ, Option.bind_some, List.getElem_toArray, List.getElem_cons_zero, List.getElem_cons_succ, List.setIfInBounds_toArray, List.set_cons_succ, List.set_cons_zero]
  refine Win.enter (f := 121) (args := #[.pointer (some ⟨a.m, 0, none⟩), .int .i64 k, .func (.func 55) #[] #[]]) (.inl hb) rfl rfl (fun d => ⟨#[], by kernel_rfl, fun e he => by simp at he⟩) ?_
  refine bupdate2 (own := own) (A := A) (φ := blackI) hSh hmv hA hown hP hAw hs (fun _ _ => rfl) (fun w' x _ h0 h1 => cl_black x w' h0 h1) (fun v h0 h1 home n pl' F' col' w' g hA' hown' hA2 hs' K' => ?_) (fun home n pl' F' col' w' g hE hown' hA2 hs' K' => ?_) K
  · rw [Frame.finish_at]
    simp only [Act.put, Act.eval, List.getElem?_toArray, List.getElem?_cons_zero, List.getElem?_cons_succ, Option.bind_some, List.getElem_toArray, List.getElem_cons_zero, List.getElem_cons_succ, List.setIfInBounds_toArray, List.set_cons_succ, List.set_cons_zero]
    refine Win.opsEnd ?_
    refine Win.falls ?_
    refine Win.leave (v := .tuple #[]) rfl rfl rfl Try.func24 (fun d => ⟨#[], by rw [Sem.runT_eq]; simp [go_sem, results, Try.f24], fun e he => by simp at he⟩) ?_
    exact hres v h0 h1 home n pl' F' col' w' g hA' hown' hA2 hs' K'
  · refine Win.unwinds (chain := [haltE]) rfl rfl (by kernel_rfl) ?_
    exact hstop home n pl' F' col' w' g hE hown' hA2 hs' K'
end
end Go.Proofs.Ytnbibpmhmffmpaa
