/- The laws of layer 1 (word), walked: WordPuts and WordTakes return true, and turn nothing below the heap's old size. Conditions: the numbers are those of a uint8, of a uint64. -/
import Derived.Test.YthlogmafloibbaaWordTake
namespace Go.Proofs.Ythlogmafloibbaa
set_option linter.unusedVariables false
set_option linter.unusedSimpArgs false
open Go.RowKit

theorem eqw (a b : Int) (w : World) : (binOp .eql 24 (.int .u64 a) (.int .u64 b)).run Try.prog w = .ok (.bool (a == b)) w := by simp [go_sem]

theorem puts_no (k c o r s : Int) (g m : Bool) (w : World) (hk : 0 ≤ k) (hr : 0 ≤ r) (h : mayB k c o r s g m = false) :
    Calls Try.prog 3 #[.agg #[.int .u8 k, .int .u8 c, .bool g, .bool m, .int .u8 o, .int .u8 r, .int .u8 s]] w fun e w' => e = .returned (.bool true) ∧ Below w.heap.size w w' := by
  go_enter Try.func3, Try.ntmps3
  go_wp2_with fail
  refine (of_any _ _ _ _ _ _ _ _).mono ?_; rintro e w1 ⟨rfl, hb⟩
  obtain ⟨hc1, hf1⟩ := bcell hb
  have hz : w.heap.size < w1.heap.size := by have := hb.size; simp at this; omega
  have bel := Lib.hid (((Below.refl w.heap.size w).alloc (Nat.le_refl _) _).trans (hb.mono (by simp)))
  clear hb
  go_wp2_with fail
  refine (put_no _ _ _ _ _ _ _ _ hk hr h).mono ?_; rintro e w2 ⟨rfl, hb⟩
  obtain ⟨hc2, hf2⟩ := bcell hb
  have hz2 : w.heap.size < w2.heap.size := Nat.lt_of_lt_of_le hz hb.size
  have bel2 := Lib.hid (bel.out.trans (hb.mono (Nat.le_of_lt hz)))
  clear hb bel
  go_wp2_with fail
  refine (rmay_any _ _ _ _ _ _ _ _ hr).mono ?_; rintro e w3 ⟨rfl, hb⟩
  have bel3 := Lib.hid (bel2.out.trans (hb.mono (Nat.le_of_lt hz2)))
  clear hb bel2 hc1 hf1 hc2 hf2
  go_wp2_with fail
  refine (wakes_any _).mono ?_; rintro e w4 ⟨rfl, hb⟩
  have bel4 := Lib.hid (bel3.out.trans (hb.mono bel3.out.size))
  clear hb bel3
  go_wp2
  go_ret
  exact ⟨rfl, bel4.out⟩

/-- A header's box: its seven cells, and that below it all is as it was. -/
abbrev Box7 (w0 : World) (k c o r s : Int) (g m : Bool) (w' : World) : Prop :=
  w'.cell? ⟨w0.heap.size, 0, none⟩ = some (.int .u8 k) ∧ w'.cell? ⟨w0.heap.size, 1, none⟩ = some (.int .u8 c) ∧ w'.cell? ⟨w0.heap.size, 2, none⟩ = some (.bool g) ∧ w'.cell? ⟨w0.heap.size, 3, none⟩ = some (.bool m) ∧
      w'.cell? ⟨w0.heap.size, 4, none⟩ = some (.int .u8 o) ∧ w'.cell? ⟨w0.heap.size, 5, none⟩ = some (.int .u8 r) ∧ w'.cell? ⟨w0.heap.size, 6, none⟩ = some (.int .u8 s) ∧ Below w0.heap.size w0 w' ∧ w0.heap.size < w'.heap.size

theorem box7_new (w0 : World) (k c o r s : Int) (g m : Bool) (t : TypeId) : Box7 w0 k c o r s g m (w0.alloc (.cells #[.int .u8 k, .int .u8 c, .bool g, .bool m, .int .u8 o, .int .u8 r, .int .u8 s] t)) :=
  ⟨by simp, by simp, by simp, by simp, by simp, by simp, by simp, by go_grown, by simp⟩
theorem box7_step {w0 w w' : World} {k c o r s : Int} {g m : Bool} (h : Box7 w0 k c o r s g m w) (hb : Below w.heap.size w w') : Box7 w0 k c o r s g m w' := by
  obtain ⟨s0, s1, s2, s3, s4, s5, s6, s7, s8⟩ := h
  have hc := (bcell hb).1
  exact ⟨(hc _ _ s8).trans s0, (hc _ _ s8).trans s1, (hc _ _ s8).trans s2, (hc _ _ s8).trans s3, (hc _ _ s8).trans s4, (hc _ _ s8).trans s5, (hc _ _ s8).trans s6, s7.trans (hb.mono (Nat.le_of_lt s8)), Nat.lt_of_lt_of_le s8 hb.size⟩
theorem box7_drew {w0 w : World} {k c o r s : Int} {g m : Bool} (h : Box7 w0 k c o r s g m w) : Box7 w0 k c o r s g m w.drew := by
  obtain ⟨s0, s1, s2, s3, s4, s5, s6, s7, s8⟩ := h
  exact ⟨s0, s1, s2, s3, s4, s5, s6, s7.drew, s8⟩
theorem below_drew_l {B : Nat} {w w' : World} (h : Below B w.drew w') : Below B w w' := ⟨h.os, h.tape, h.output, h.size, h.block⟩

theorem live_k (k c o r s : Int) (g m : Bool) (w : World) (h0 : 0 ≤ k) (h1 : k ≤ 3) : Calls Try.prog 11 #[.agg #[.int .u8 k, .int .u8 c, .bool g, .bool m, .int .u8 o, .int .u8 r, .int .u8 s]] w fun e w' => e = .returned (.bool (decide (1 < k))) ∧ Below w.heap.size w w' :=
  (live_any k c o r s g m w).mono fun _ _ ⟨he, hb⟩ => ⟨by rw [he]; congr 2; exact decide_eq_decide.2 (by omega), hb⟩

set_option maxHeartbeats 1000000 in
theorem puts_yes (k c o r s : Int) (g m : Bool) (w : World) (hk : 0 ≤ k) (hc : 0 ≤ c) (ho : 0 ≤ o) (hr : 0 ≤ r) (hs : 0 ≤ s) (hk1 : k ≤ 255) (hc1 : c ≤ 255) (ho1 : o ≤ 255) (hr1 : r ≤ 255) (hs1 : s ≤ 255) (h : mayB k c o r s g m = true) :
    Calls Try.prog 3 #[.agg #[.int .u8 k, .int .u8 c, .bool g, .bool m, .int .u8 o, .int .u8 r, .int .u8 s]] w fun e w' => e = .returned (.bool true) ∧ Below w.heap.size w w' := by
  have hk3 : k ≤ 3 := (mayB_iff.1 h).1
  go_enter Try.func3, Try.ntmps3
  go_wp2_with fail
  refine (of_any _ _ _ _ _ _ _ _).mono ?_; rintro e w1 ⟨rfl, hb⟩
  have B1 := Lib.hid (box7_step (box7_new w k c o r s g m _) hb)
  clear hb
  go_wp2_with fail
  refine (put_yes _ _ _ _ _ _ _ _ hk hc ho hr hs h).mono ?_; rintro e w2 ⟨rfl, hb⟩
  have B2 := Lib.hid (box7_step B1.out hb)
  clear hb B1
  obtain ⟨s0, s1, s2, s3, s4, s5, s6, s7, s8⟩ := B2.out
  go_wp2_with fail
  refine (rmay_any _ _ _ _ _ _ _ _ hr).mono ?_; rintro e w3 ⟨rfl, hb⟩
  have B3 := Lib.hid (box7_step B2.out hb)
  clear hb B2 s0 s1 s2 s3 s4 s5 s6 s7 s8
  go_wp2_with fail
  go_region_held3 (fun w' => w'.cell? ⟨w.heap.size, 0, none⟩ = some (.int .u8 k) ∧ w'.cell? ⟨w.heap.size, 1, none⟩ = some (.int .u8 c) ∧ w'.cell? ⟨w.heap.size, 2, none⟩ = some (.bool g) ∧ w'.cell? ⟨w.heap.size, 3, none⟩ = some (.bool m) ∧
      w'.cell? ⟨w.heap.size, 4, none⟩ = some (.int .u8 o) ∧ w'.cell? ⟨w.heap.size, 5, none⟩ = some (.int .u8 r) ∧ w'.cell? ⟨w.heap.size, 6, none⟩ = some (.int .u8 s) ∧ Below w.heap.size w w' ∧ w.heap.size < w'.heap.size)
    (first
      | exact box7_drew B3.out
      | exact box7_step ‹Box7 w k c o r s g m _› hb)
    (first
      | (go_at_call 10; refine (rword_any _ _ _ _ _ _ _ _ hk hc ho hr hs hk1 hc1 ho1 hr1 hs1).mono ?_; rintro e w' ⟨rfl, hb⟩)
      | (go_at_call 7; refine (of_any _ _ _ _ _ _ _ _).mono ?_; rintro e w' ⟨rfl, hb⟩)
      | (go_at_call 11; refine (live_k _ _ _ _ _ _ _ _ hk hk3).mono ?_; rintro e w' ⟨rfl, hb⟩)
      | (go_at_call 9; refine (wakes_any _).mono ?_; rintro e w' ⟨rfl, hb⟩))
  obtain ⟨_, _, _, _, _, _, _, bel, _⟩ := ‹_ ∧ _›
  clear hb B3
  go_wp2
  go_ret
  exact ⟨rfl, bel⟩

/-- Two boxes of one header. -/
abbrev Two (w1 w2 : World) (k c o r s : Int) (g m : Bool) (w' : World) : Prop :=
  w'.cell? ⟨w1.heap.size, 0, none⟩ = some (.int .u8 k) ∧ w'.cell? ⟨w1.heap.size, 1, none⟩ = some (.int .u8 c) ∧ w'.cell? ⟨w1.heap.size, 2, none⟩ = some (.bool g) ∧ w'.cell? ⟨w1.heap.size, 3, none⟩ = some (.bool m) ∧ w'.cell? ⟨w1.heap.size, 4, none⟩ = some (.int .u8 o) ∧ w'.cell? ⟨w1.heap.size, 5, none⟩ = some (.int .u8 r) ∧ w'.cell? ⟨w1.heap.size, 6, none⟩ = some (.int .u8 s) ∧ Below w1.heap.size w1 w' ∧ w1.heap.size < w'.heap.size ∧ Box7 w2 k c o r s g m w'
theorem two_mk {w1 w2 w' : World} {k c o r s : Int} {g m : Bool} (h1 : Box7 w1 k c o r s g m w') (h2 : Box7 w2 k c o r s g m w') : Two w1 w2 k c o r s g m w' := by
  obtain ⟨s0, s1, s2, s3, s4, s5, s6, s7, s8⟩ := h1
  exact ⟨s0, s1, s2, s3, s4, s5, s6, s7, s8, h2⟩
theorem two_step {w1 w2 w w' : World} {k c o r s : Int} {g m : Bool} (h : Two w1 w2 k c o r s g m w) (hb : Below w.heap.size w w') : Two w1 w2 k c o r s g m w' := by
  obtain ⟨s0, s1, s2, s3, s4, s5, s6, s7, s8, h2⟩ := h
  exact two_mk (box7_step ⟨s0, s1, s2, s3, s4, s5, s6, s7, s8⟩ hb) (box7_step h2 hb)
theorem heqB_refl (k c o r s : Int) (g m : Bool) : heqB k c o r s k c o r s g m g m = true := by simp [heqB]

set_option maxHeartbeats 1000000 in
theorem takes_core (x k c o r s n : Int) (g m : Bool) (w : World)
    (hT : Hid (∀ w, Calls Try.prog 12 #[.int .u64 x] w fun e w' => e = .returned (.tuple #[.agg #[.int .u8 k, .int .u8 c, .bool g, .bool m, .int .u8 o, .int .u8 r, .int .u8 s], .int .i64 n]) ∧ Below w.heap.size w w'))
    (hR : Hid (∀ w, Calls Try.prog 13 #[.int .u64 x] w fun e w' => e = .returned (.tuple #[.agg #[.int .u8 k, .int .u8 c, .bool g, .bool m, .int .u8 o, .int .u8 r, .int .u8 s], .int .i64 n]) ∧ Below w.heap.size w w')) :
    Calls Try.prog 4 #[.int .u64 x] w fun e w' => e = .returned (.bool true) ∧ Below w.heap.size w w' := by
  have heq := fun w => (eq28 k c o r s k c o r s g m g m w).trans (by rw [heqB_refl])
  go_enter Try.func4, Try.ntmps4
  go_wp2_with fail
  refine (hT.out _).mono ?_; rintro e w1 ⟨rfl, hb1⟩
  go_wp2_with fail
  refine (hR.out _).mono ?_; rintro e w2 ⟨rfl, hb⟩
  have B1 := Lib.hid (box7_step (box7_new w1 k c o r s g m _) hb)
  have bel := Lib.hid ((hb1.alloc hb1.size _).trans (hb.mono (by have := hb1.size; simp; omega)))
  have hz := Lib.hid hb1.size
  clear hb hb1
  go_wp2_with fail
  go_region_held3 (fun w' => w'.cell? ⟨w1.heap.size, 0, none⟩ = some (.int .u8 k) ∧ w'.cell? ⟨w1.heap.size, 1, none⟩ = some (.int .u8 c) ∧ w'.cell? ⟨w1.heap.size, 2, none⟩ = some (.bool g) ∧ w'.cell? ⟨w1.heap.size, 3, none⟩ = some (.bool m) ∧ w'.cell? ⟨w1.heap.size, 4, none⟩ = some (.int .u8 o) ∧ w'.cell? ⟨w1.heap.size, 5, none⟩ = some (.int .u8 r) ∧ w'.cell? ⟨w1.heap.size, 6, none⟩ = some (.int .u8 s) ∧ Below w1.heap.size w1 w' ∧ w1.heap.size < w'.heap.size ∧ w'.cell? ⟨w2.heap.size, 0, none⟩ = some (.int .u8 k) ∧ w'.cell? ⟨w2.heap.size, 1, none⟩ = some (.int .u8 c) ∧ w'.cell? ⟨w2.heap.size, 2, none⟩ = some (.bool g) ∧ w'.cell? ⟨w2.heap.size, 3, none⟩ = some (.bool m) ∧ w'.cell? ⟨w2.heap.size, 4, none⟩ = some (.int .u8 o) ∧ w'.cell? ⟨w2.heap.size, 5, none⟩ = some (.int .u8 r) ∧ w'.cell? ⟨w2.heap.size, 6, none⟩ = some (.int .u8 s) ∧ Below w2.heap.size w2 w' ∧ w2.heap.size < w'.heap.size)
    (first
      | exact two_mk (box7_drew (box7_step B1.out ((Below.refl _ _).alloc (Nat.le_refl _) _))) (box7_drew (box7_new w2 k c o r s g m _))
      | exact two_step ‹Two w1 w2 k c o r s g m _› hb)
    (first
      | (go_at_call 7; refine (of_any _ _ _ _ _ _ _ _).mono ?_; rintro e w' ⟨rfl, hb⟩)
      | (go_at_call 9; refine (wakes_any _).mono ?_; rintro e w' ⟨rfl, hb⟩))
  obtain ⟨_, _, _, _, _, _, _, _, _, _, _, _, _, _, _, _, bel2, hz2⟩ := ‹_ ∧ _›
  have bel3 := Lib.hid (bel.out.trans (bel2.mono bel.out.size))
  clear hb B1 bel bel2 hz hz2
  go_wp2
  go_ret
  exact ⟨rfl, bel3.out⟩

end Go.Proofs.Ythlogmafloibbaa
