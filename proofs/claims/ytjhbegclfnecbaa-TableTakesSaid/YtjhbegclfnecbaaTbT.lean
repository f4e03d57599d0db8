/- TableTakes, walked: it returns true, and no block that was there has turned. Conditions: the number is that of a uint64. -/
import Derived.Test.YtjhbegclfnecbaaTbR
namespace Go.Proofs.Ytjhbegclfnecbaa
set_option linter.unusedVariables false
set_option linter.unusedSimpArgs false
open Go.RowKit

/-- An entry's box: its four cells, and that below it all is as it was. -/
abbrev Box4 (w0 : World) (k c r o : Int) (w' : World) : Prop :=
  w'.cell? ⟨w0.heap.size, 0, none⟩ = some (.int .u8 k) ∧ w'.cell? ⟨w0.heap.size, 1, none⟩ = some (.int .u8 c) ∧ w'.cell? ⟨w0.heap.size, 2, none⟩ = some (.int .u8 r) ∧ w'.cell? ⟨w0.heap.size, 3, none⟩ = some (.int .u8 o) ∧ Below w0.heap.size w0 w' ∧ w0.heap.size < w'.heap.size
theorem box4_new (w0 : World) (k c r o : Int) (t : TypeId) : Box4 w0 k c r o (w0.alloc (.cells #[.int .u8 k, .int .u8 c, .int .u8 r, .int .u8 o] t)) :=
  ⟨by simp, by simp, by simp, by simp, by go_grown, by simp⟩
theorem box4_step {w0 w w' : World} {k c r o : Int} (h : Box4 w0 k c r o w) (hk : Kp [] w w') : Box4 w0 k c r o w' := by
  obtain ⟨s0, s1, s2, s3, s7, s8⟩ := h
  have hb := hk.to_below
  have hc := (bcell hb).1
  exact ⟨(hc _ _ s8).trans s0, (hc _ _ s8).trans s1, (hc _ _ s8).trans s2, (hc _ _ s8).trans s3, s7.trans (hb.mono (Nat.le_of_lt s8)), Nat.lt_of_lt_of_le s8 hb.size⟩
theorem box4_drew {w0 w : World} {k c r o : Int} (h : Box4 w0 k c r o w) : Box4 w0 k c r o w.drew := by
  obtain ⟨s0, s1, s2, s3, s7, s8⟩ := h
  exact ⟨s0, s1, s2, s3, s7.drew, s8⟩

/-- Two boxes of one entry. -/
abbrev Two4 (w1 w2 : World) (k c r o : Int) (w' : World) : Prop :=
  w'.cell? ⟨w1.heap.size, 0, none⟩ = some (.int .u8 k) ∧ w'.cell? ⟨w1.heap.size, 1, none⟩ = some (.int .u8 c) ∧ w'.cell? ⟨w1.heap.size, 2, none⟩ = some (.int .u8 r) ∧ w'.cell? ⟨w1.heap.size, 3, none⟩ = some (.int .u8 o) ∧ Below w1.heap.size w1 w' ∧ w1.heap.size < w'.heap.size ∧ Box4 w2 k c r o w'
theorem two4_mk {w1 w2 w' : World} {k c r o : Int} (h1 : Box4 w1 k c r o w') (h2 : Box4 w2 k c r o w') : Two4 w1 w2 k c r o w' := by
  obtain ⟨s0, s1, s2, s3, s7, s8⟩ := h1
  exact ⟨s0, s1, s2, s3, s7, s8, h2⟩
theorem two4_step {w1 w2 w w' : World} {k c r o : Int} (h : Two4 w1 w2 k c r o w) (hk : Kp [] w w') : Two4 w1 w2 k c r o w' := by
  obtain ⟨s0, s1, s2, s3, s7, s8, h2⟩ := h
  exact two4_mk (box4_step ⟨s0, s1, s2, s3, s7, s8⟩ hk) (box4_step h2 hk)

set_option maxHeartbeats 1000000 in
theorem takes_core (x k c r o n : Int) (w : World)
    (hT : Hid (∀ w, Calls Try.prog 12 #[.int .u64 x] w fun e w' => e = .returned (.tuple #[.agg #[.int .u8 k, .int .u8 c, .int .u8 r, .int .u8 o], .int .i64 n]) ∧ Kp [] w w'))
    (hR : Hid (∀ w, Calls Try.prog 13 #[.int .u64 x] w fun e w' => e = .returned (.tuple #[.agg #[.int .u8 k, .int .u8 c, .int .u8 r, .int .u8 o], .int .i64 n]) ∧ Kp [] w w')) :
    Calls Try.prog 4 #[.int .u64 x] w fun e w' => e = .returned (.bool true) ∧ Kp [] w w' := by
  have heq := fun w => (eqT k c r o k c r o w).trans (by rw [eqE_refl])
  go_enter Try.func4, Try.ntmps4
  go_wp2_with fail
  refine (hT.out _).mono ?_; rintro e w1 ⟨rfl, hk1⟩
  go_wp2_with fail
  refine (hR.out _).mono ?_; rintro e w2 ⟨rfl, hk⟩
  have B1 := Lib.hid (box4_step (box4_new w1 k c r o _) hk)
  have kp := Lib.hid ((hk1.alloc _).trans hk)
  have hz := Lib.hid hk1.size
  clear hk hk1
  go_wp2_with fail
  go_region_held3 (fun w' => w'.cell? ⟨w1.heap.size, 0, none⟩ = some (.int .u8 k) ∧ w'.cell? ⟨w1.heap.size, 1, none⟩ = some (.int .u8 c) ∧ w'.cell? ⟨w1.heap.size, 2, none⟩ = some (.int .u8 r) ∧ w'.cell? ⟨w1.heap.size, 3, none⟩ = some (.int .u8 o) ∧ Below w1.heap.size w1 w' ∧ w1.heap.size < w'.heap.size ∧
      w'.cell? ⟨w2.heap.size, 0, none⟩ = some (.int .u8 k) ∧ w'.cell? ⟨w2.heap.size, 1, none⟩ = some (.int .u8 c) ∧ w'.cell? ⟨w2.heap.size, 2, none⟩ = some (.int .u8 r) ∧ w'.cell? ⟨w2.heap.size, 3, none⟩ = some (.int .u8 o) ∧ Below w2.heap.size w2 w' ∧ w2.heap.size < w'.heap.size)
    (first
      | exact two4_mk (box4_drew (box4_step B1.out ((Kp.refl [] _).alloc _))) (box4_drew (box4_new w2 k c r o _))
      | exact two4_step ‹Two4 w1 w2 k c r o _› hk)
    (first
      | (go_at_call 7; refine (of_is _ _ _ _ _).mono ?_; rintro e w' ⟨rfl, hk⟩)
      | (go_at_call 10; refine (wakes_is _).mono ?_; rintro e w' ⟨rfl, hk⟩))
  obtain ⟨_, _, _, _, _, _, _, _, _, _, bel2, hz2⟩ := ‹_ ∧ _›
  have kp3 := Lib.hid (kp.out.trans (kp_of_below bel2))
  clear hk B1 kp bel2 hz hz2
  go_wp2
  go_ret
  exact ⟨rfl, kp3.out⟩

theorem takes_any (x : Int) (w : World) (h0 : 0 ≤ x) (h1 : x < 18446744073709551616) :
    Calls Try.prog 4 #[.int .u64 x] w fun e w' => e = .returned (.bool true) ∧ Kp [] w w' := by
  by_cases h : takeE x = true
  · exact takes_core x _ _ _ _ _ w (Lib.hid fun w => take_some x w h0 h) (Lib.hid fun w => rtake_some x w h0 h)
  · have h : takeE x = false := by simpa using h
    exact takes_core x _ _ _ _ _ w (Lib.hid fun w => take_none x w h0 h1 h) (Lib.hid fun w => rtake_none x w h0 h1 h)

end Go.Proofs.Ytjhbegclfnecbaa
