/- LayoutTells, walked: it returns true, and no block that was there has turned. Conditions: the numbers are those of an int. -/
import Derived.Test.YtppddidejljfiaaLyR
namespace Go.Proofs.Ytppddidejljfiaa
set_option linter.unusedVariables false
set_option linter.unusedSimpArgs false
open Go.RowKit

/-- A call that answers v and makes memory at most. -/
abbrev Ans (f : FuncId) (args : Array Value) (v : Value) : Prop := ∀ w, Calls Try.prog f args w fun e w' => e = .returned v ∧ Kp [] w w'
abbrev layV (t g b : Int) : Value := .agg #[.int .i64 t, .int .i64 g, .int .i64 b]

set_option maxRecDepth 100000 in
set_option maxHeartbeats 1000000 in
theorem wakes_is (w : World) : Calls Try.prog 13 #[] w fun e w' => e = .returned (.bool true) ∧ Kp [] w w' := by
  have k0 := Lib.hid (fun w => new_ok 100 1 1 2 w (by decide) (by omega) (by omega) (by omega) (by omega) (by omega) (by omega) (by omega))
  have k1 : Hid (Ans 12 #[.agg #[.int .i64 1, .int .i64 1, .int .i64 2], .int .i64 40] (.tuple #[.int .i64 1, .int .i64 1, .bool true])) := Lib.hid (fun w => block_in 1 1 2 40 w (by omega) (by omega) (by omega) (by omega) (by omega) (by omega) (by omega) (by omega))
  have k2 := Lib.hid (fun w => blocks_is 1 1 2 w)
  have k3 := Lib.hid (fun w => answer_is 1 1 2 0 3 w (by decide) (by omega) (by omega))
  have k4 := Lib.hid (fun w => global_is 1 1 2 0 4 w (by decide) (by omega) (by omega) (by omega) (by omega))
  have k5 := Lib.hid (fun w => entry_is 1 1 2 0 5 w (by decide) (by omega) (by omega) (by omega) (by omega) (by omega) (by omega))
  have k6 := Lib.hid (fun w => start_is 1 1 2 0 7 w (by decide) (by omega) (by omega) (by omega) (by omega) (by omega) (by omega))
  have k7 : Hid (Ans 10 #[.agg #[.int .i64 1, .int .i64 1, .int .i64 2]] (.int .i64 71)) := Lib.hid (fun w => words_is 1 1 2 w (by omega) (by omega) (by omega) (by omega) (by omega) (by omega))
  go_enter Try.func13, Try.ntmps13
  go_wp2_with fail
  refine (k0.out _).mono ?_; rintro e w1 ⟨rfl, hk⟩
  have kp := Lib.hid hk
  have B1 := Lib.hid (box3_new w1 1 1 2 23)
  clear hk
  go_wp2_with fail
  refine (k1.out _).mono ?_; rintro e w2 ⟨rfl, hk⟩
  have B1 := Lib.hid (box3_step B1.out hk)
  clear hk
  obtain ⟨s0, s1, s2, s7, s8⟩ := B1.out
  go_wp2_with fail
  refine (k2.out _).mono ?_; rintro e w2 ⟨rfl, hk⟩
  have B1 := Lib.hid (box3_step B1.out hk)
  clear hk s0 s1 s2 s7 s8
  obtain ⟨s0, s1, s2, s7, s8⟩ := B1.out
  go_wp2_with fail
  refine (k3.out _).mono ?_; rintro e w2 ⟨rfl, hk⟩
  have B1 := Lib.hid (box3_step B1.out hk)
  clear hk s0 s1 s2 s7 s8
  obtain ⟨s0, s1, s2, s7, s8⟩ := B1.out
  go_wp2_with fail
  refine (k4.out _).mono ?_; rintro e w2 ⟨rfl, hk⟩
  have B1 := Lib.hid (box3_step B1.out hk)
  clear hk s0 s1 s2 s7 s8
  obtain ⟨s0, s1, s2, s7, s8⟩ := B1.out
  go_wp2_with fail
  refine (k5.out _).mono ?_; rintro e w2 ⟨rfl, hk⟩
  have B1 := Lib.hid (box3_step B1.out hk)
  clear hk s0 s1 s2 s7 s8
  obtain ⟨s0, s1, s2, s7, s8⟩ := B1.out
  go_wp2_with fail
  refine (k6.out _).mono ?_; rintro e w2 ⟨rfl, hk⟩
  have B1 := Lib.hid (box3_step B1.out hk)
  clear hk s0 s1 s2 s7 s8
  obtain ⟨s0, s1, s2, s7, s8⟩ := B1.out
  go_wp2_with fail
  refine (k7.out _).mono ?_; rintro e w2 ⟨rfl, hk⟩
  have B1 := Lib.hid (box3_step B1.out hk)
  clear hk s0 s1 s2 s7 s8
  obtain ⟨s0, s1, s2, s7, s8⟩ := B1.out
  go_wp2
  go_ret
  exact ⟨rfl, kp.out.trans (kp_of_below s7)⟩

/-- Two boxes of three cells. -/
abbrev Two3 (w1 w2 : World) (t g b : Int) (w' : World) : Prop :=
  w'.cell? ⟨w1.heap.size, 0, none⟩ = some (.int .i64 t) ∧ w'.cell? ⟨w1.heap.size, 1, none⟩ = some (.int .i64 g) ∧ w'.cell? ⟨w1.heap.size, 2, none⟩ = some (.int .i64 b) ∧ Below w1.heap.size w1 w' ∧ w1.heap.size < w'.heap.size ∧ Box3 w2 t g b w'
theorem two3_mk {w1 w2 w' : World} {t g b : Int} (h1 : Box3 w1 t g b w') (h2 : Box3 w2 t g b w') : Two3 w1 w2 t g b w' := by
  obtain ⟨s0, s1, s2, s7, s8⟩ := h1
  exact ⟨s0, s1, s2, s7, s8, h2⟩
theorem two3_one {w1 w2 w : World} {t g b : Int} (h : Two3 w1 w2 t g b w) : Box3 w1 t g b w ∧ Box3 w2 t g b w := by
  obtain ⟨s0, s1, s2, s7, s8, h2⟩ := h
  exact ⟨⟨s0, s1, s2, s7, s8⟩, h2⟩
theorem two3_step {w1 w2 w w' : World} {t g b : Int} (h : Two3 w1 w2 t g b w) (hk : Kp [] w w') : Two3 w1 w2 t g b w' :=
  two3_mk (box3_step (two3_one h).1 hk) (box3_step (two3_one h).2 hk)
theorem two3_drew {w1 w2 w : World} {t g b : Int} (h : Two3 w1 w2 t g b w) : Two3 w1 w2 t g b w.drew :=
  two3_mk (box3_drew (two3_one h).1) (box3_drew (two3_one h).2)

set_option maxRecDepth 100000 in
set_option maxHeartbeats 1000000 in
/-- No layout: why not, and what a zero layout tells. -/
theorem tells_none (W T G i n : Int) (w : World) (hn : n = 2 ∨ n = 4)
    (c1 : Hid (Ans 5 #[.int .i64 W, .int .i64 T, .int .i64 G] (.tuple #[.agg #[.int .i64 0, .int .i64 0, .int .i64 0], .int .i64 n])))
    (c2 : Hid (Ans 6 #[.int .i64 W, .int .i64 T, .int .i64 G] (.tuple #[.agg #[.int .i64 0, .int .i64 0, .int .i64 0], .int .i64 n]))) :
    Calls Try.prog 3 #[.int .i64 W, .int .i64 T, .int .i64 G, .int .i64 i] w fun e w' => e = .returned (.bool true) ∧ Kp [] w w' := by
  have k3 := Lib.hid (fun w => threads_is 0 0 0 w)
  have k4 := Lib.hid (fun w => globals_is 0 0 0 w)
  have k5 := Lib.hid (fun w => blocks_is 0 0 0 w)
  have k6 := Lib.hid (fun w => words_zero w)
  have k7 := Lib.hid (fun w => rwords_zero w)
  have k8 := Lib.hid (fun w => block_zero i w)
  have heq := fun w => eqL 0 0 0 0 0 0 true w rfl
  rcases hn with rfl | rfl
  all_goals (
    go_enter Try.func3, Try.ntmps3
    go_wp2_with fail
    refine (c1.out _).mono ?_; rintro e w1 ⟨rfl, hk⟩
    have kp := Lib.hid hk
    have B1 := Lib.hid (box3_new w1 0 0 0 23)
    clear hk
    go_wp2_with fail
    refine (c2.out _).mono ?_; rintro e w2 ⟨rfl, hk⟩
    have B2 := Lib.hid (two3_mk (box3_step (box3_step B1.out hk) ((Kp.refl [] _).alloc _)) (box3_new w2 0 0 0 28))
    have kp2 := Lib.hid ((kp.out.alloc (.cells #[.int .i64 0, .int .i64 0, .int .i64 0] 23)).trans hk)
    clear hk kp B1
    go_wp2_with fail
    go_region_held3 (fun w' => w'.cell? ⟨w1.heap.size, 0, none⟩ = some (.int .i64 0) ∧ w'.cell? ⟨w1.heap.size, 1, none⟩ = some (.int .i64 0) ∧ w'.cell? ⟨w1.heap.size, 2, none⟩ = some (.int .i64 0) ∧ Below w1.heap.size w1 w' ∧ w1.heap.size < w'.heap.size ∧
        w'.cell? ⟨w2.heap.size, 0, none⟩ = some (.int .i64 0) ∧ w'.cell? ⟨w2.heap.size, 1, none⟩ = some (.int .i64 0) ∧ w'.cell? ⟨w2.heap.size, 2, none⟩ = some (.int .i64 0) ∧ Below w2.heap.size w2 w' ∧ w2.heap.size < w'.heap.size)
      (first
        | exact two3_drew B2.out
        | exact two3_step ‹Two3 w1 w2 0 0 0 _› hk)
      (first
        | (go_at_call 7; refine (k3.out _).mono ?_; rintro e w' ⟨rfl, hk⟩)
        | (go_at_call 8; refine (k4.out _).mono ?_; rintro e w' ⟨rfl, hk⟩)
        | (go_at_call 9; refine (k5.out _).mono ?_; rintro e w' ⟨rfl, hk⟩)
        | (go_at_call 10; refine (k6.out _).mono ?_; rintro e w' ⟨rfl, hk⟩)
        | (go_at_call 11; refine (k7.out _).mono ?_; rintro e w' ⟨rfl, hk⟩))
    have B3 := Lib.hid (two3_one ‹_ ∧ _›).1
    have kp3 := Lib.hid (kp2.out.trans (kp_of_below (two3_one ‹_ ∧ _›).2.2.2.2.1))
    clear hk kp2 B2
    obtain ⟨s0, s1, s2, s7, s8⟩ := B3.out
    go_wp2_with fail
    refine (k8.out _).mono ?_; rintro e w4 ⟨rfl, hk⟩
    have B4 := Lib.hid (box3_step B3.out hk)
    have kp4 := Lib.hid (kp3.out.trans hk)
    clear hk s0 s1 s2 s7 s8 B3 kp3
    obtain ⟨s0, s1, s2, s7, s8⟩ := B4.out
    go_wp2_with fail
    refine (wakes_is _).mono ?_; rintro e w5 ⟨rfl, hk⟩
    have kp5 := Lib.hid (kp4.out.trans hk)
    clear hk s0 s1 s2 s7 s8 B4 kp4
    go_wp2
    go_ret
    exact ⟨rfl, kp5.out⟩)

end Go.Proofs.Ytppddidejljfiaa
