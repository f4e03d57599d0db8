/- TableBack, walked: it returns true, and no block that was there has turned. Conditions: the numbers are those of a uint8, of a uint64. -/
import Derived.Test.YtjhbegclfnecbaaTbT
namespace Go.Proofs.Ytjhbegclfnecbaa
set_option linter.unusedVariables false
set_option linter.unusedSimpArgs false
open Go.RowKit

theorem take_word (k c r o : Int) (w : World) (hk : 0 ≤ k) (hc : 0 ≤ c) (hr : 0 ≤ r) (ho : 0 ≤ o) (h : mayE k c r o = true) :
    Calls Try.prog 12 #[.int .u64 (wordE k c r o)] w fun e w' => e = .returned (.tuple #[.agg #[.int .u8 k, .int .u8 c, .int .u8 r, .int .u8 o], .int .i64 0]) ∧ Kp [] w w' := by
  obtain ⟨e1, e2, e3, e4⟩ := parts_word hk hc hr ho h
  have := take_some (wordE k c r o) w (wordE_lt hk hc hr ho h).1 (takeE_of_word hk hc hr ho h)
  rwa [e1, e2, e3, e4] at this
theorem put_parts (x : Int) (w : World) (h0 : 0 ≤ x) (h : takeE x = true) :
    Calls Try.prog 6 #[.agg #[.int .u8 (x % 8), .int .u8 (x / 8 % 4), .int .u8 (x / 32 % 4), .int .u8 (x / 128 % 64)]] w fun e w' => e = .returned (.tuple #[.int .u64 x, .int .i64 0]) ∧ Kp [] w w' := by
  have := put_yes _ _ _ _ w (by omega) (by omega) (by omega) (by omega) (takeE_may h)
  rwa [takeE_word h0 h] at this

/-- What stands behind the two Puts and, where there is one, the way back: the word's own entry. -/
abbrev Tail (x : Int) : Prop := Hid (∀ w, Calls Try.prog 12 #[.int .u64 x] w fun e w' => (∃ k c r o, e = .returned (.tuple #[.agg #[.int .u8 k, .int .u8 c, .int .u8 r, .int .u8 o], .int .i64 0]) ∧ Hid (∀ w, Calls Try.prog 6 #[.agg #[.int .u8 k, .int .u8 c, .int .u8 r, .int .u8 o]] w fun e w' => e = .returned (.tuple #[.int .u64 x, .int .i64 0]) ∧ Kp [] w w') ∧ Kp [] w w') ∨ (e = .returned (.tuple #[.agg #[.int .u8 0, .int .u8 0, .int .u8 0, .int .u8 0], .int .i64 3]) ∧ (x != 0) = true ∧ Kp [] w w'))

theorem tail_any (x : Int) (h0 : 0 ≤ x) (h1 : x < 18446744073709551616) : Tail x := by
  refine Lib.hid fun w => ?_
  by_cases h : takeE x = true
  · exact (take_some x w h0 h).mono fun e w' ⟨he, hk⟩ => .inl ⟨_, _, _, _, he, Lib.hid fun w => put_parts x w h0 h, hk⟩
  · have h : takeE x = false := by simpa using h
    exact (take_none x w h0 h1 h).mono fun e w' ⟨he, hk⟩ => .inr ⟨he, by simpa using takeE_zero h0 h, hk⟩

theorem box4_second {w w' : World} {o1 : Obj} {k c r o : Int} (h : Box4 (w.alloc o1) k c r o w') :
    w'.cell? ⟨w.heap.size + 1, 0, none⟩ = some (.int .u8 k) ∧ w'.cell? ⟨w.heap.size + 1, 1, none⟩ = some (.int .u8 c) ∧ w'.cell? ⟨w.heap.size + 1, 2, none⟩ = some (.int .u8 r) ∧ w'.cell? ⟨w.heap.size + 1, 3, none⟩ = some (.int .u8 o) := by
  obtain ⟨s0, s1, s2, s3, _, _⟩ := h
  have e : (w.alloc o1).heap.size = w.heap.size + 1 := by simp
  rw [e] at s0 s1 s2 s3
  exact ⟨s0, s1, s2, s3⟩

set_option maxHeartbeats 2000000 in
theorem back_yy (k c r o k' c' r' o' x y y' n : Int) (w : World)
    (hA : Hid (∀ w, Calls Try.prog 6 #[.agg #[.int .u8 k, .int .u8 c, .int .u8 r, .int .u8 o]] w fun e w' => e = .returned (.tuple #[.int .u64 y, .int .i64 0]) ∧ Kp [] w w'))
    (hB : Hid (∀ w, Calls Try.prog 6 #[.agg #[.int .u8 k', .int .u8 c', .int .u8 r', .int .u8 o']] w fun e w' => e = .returned (.tuple #[.int .u64 y', .int .i64 0]) ∧ Kp [] w w'))
    (hT : Hid (∀ w, Calls Try.prog 12 #[.int .u64 y] w fun e w' => e = .returned (.tuple #[.agg #[.int .u8 k, .int .u8 c, .int .u8 r, .int .u8 o], .int .i64 0]) ∧ Kp [] w w'))
    (hN : Hid (∀ w, Calls Try.prog 8 #[.agg #[.int .u8 k, .int .u8 c, .int .u8 r, .int .u8 o]] w fun e w' => e = .returned (.int .i64 n) ∧ Kp [] w w'))
    (n1 : 1 ≤ n) (n2 : n ≤ 3)
    (hy : (y == y') = eqE k c r o k' c' r' o')
    (hX : Tail x) :
    Calls Try.prog 5 #[.agg #[.int .u8 k, .int .u8 c, .int .u8 r, .int .u8 o], .agg #[.int .u8 k', .int .u8 c', .int .u8 r', .int .u8 o'], .int .u64 x] w fun e w' => e = .returned (.bool true) ∧ Kp [] w w' := by
  have heq := eqT k c r o k' c' r' o'
  have hne := fun w => (neT k c r o k c r o w).trans (by rw [eqE_refl])
  go_enter Try.func5, Try.ntmps5
  go_wp2_with fail
  refine (hA.out _).mono ?_; rintro e w1 ⟨rfl, hk⟩
  have BA := Lib.hid (box4_step (box4_step (box4_new w k c r o _) ((Kp.refl [] _).alloc _)) hk)
  have BB := Lib.hid (box4_step (box4_new (w.alloc _) k' c' r' o' _) hk)
  clear hk
  obtain ⟨t0, t1, t2, t3⟩ := box4_second BB.out
  go_wp2_with fail
  refine (hB.out _).mono ?_; rintro e w2 ⟨rfl, hk⟩
  have BA2 := Lib.hid (box4_step BA.out hk)
  have BB2 := Lib.hid (box4_step BB.out hk)
  clear hk BA BB t0 t1 t2 t3
  obtain ⟨s0, s1, s2, s3, s7, s8⟩ := BA2.out
  obtain ⟨t0, t1, t2, t3⟩ := box4_second BB2.out
  go_wp2_with fail
  refine (hT.out _).mono ?_; rintro e w3 ⟨rfl, hk⟩
  have BA3 := Lib.hid (box4_step BA2.out hk)
  clear hk BA2 BB2 s0 s1 s2 s3 s7 s8 t0 t1 t2 t3 heq hy
  obtain ⟨s0, s1, s2, s3, s7, s8⟩ := BA3.out
  go_wp2_with fail
  refine (hN.out _).mono ?_; rintro e w4 ⟨rfl, hk⟩
  have BA4 := Lib.hid (box4_step (box4_step BA3.out ((Kp.refl [] _).alloc _)) hk)
  clear hk BA3 s0 s1 s2 s3 s7 s8 hne
  obtain ⟨s0, s1, s2, s3, s7, s8⟩ := BA4.out
  go_wp2_with fail
  refine (hN.out _).mono ?_; rintro e w5 ⟨rfl, hk⟩
  have kpX := Lib.hid (kp_of_below (box4_step BA4.out hk).2.2.2.2.1)
  clear hk BA4 s0 s1 s2 s3 s7 s8
  go_wp2_with fail
  refine (hX.out _).mono ?_
  have hzq : ∀ w, (binOp .eql 28 (.agg #[.int .u8 0, .int .u8 0, .int .u8 0, .int .u8 0]) (.agg #[.int .u8 0, .int .u8 0, .int .u8 0, .int .u8 0])).run Try.prog w = .ok (.bool true) w := fun w => (eqT 0 0 0 0 0 0 0 0 w).trans (by rw [eqE_refl])
  rintro e w6 (⟨k6, c6, r6, o6, rfl, hP, hk6⟩ | ⟨rfl, hx0, hk6⟩)
  · have kp6 := Lib.hid (kpX.out.trans hk6)
    clear hk6 kpX hzq
    go_wp2_with fail
    refine (hP.out _).mono ?_; rintro e w7 ⟨rfl, hk⟩
    have kp7 := Lib.hid ((kp6.out.alloc _).trans hk)
    clear hk kp6
    go_wp2_with fail
    refine (wakes_is _).mono ?_; rintro e w8 ⟨rfl, hk⟩
    have kp8 := Lib.hid (kp7.out.trans hk)
    clear hk kp7
    go_wp2
    go_ret
    exact ⟨rfl, kp8.out⟩
  · have kp6 := Lib.hid (kpX.out.trans hk6)
    clear hk6 kpX
    go_wp2_with fail
    refine (wakes_is _).mono ?_; rintro e w8 ⟨rfl, hk⟩
    have kp8 := Lib.hid ((kp6.out.alloc _).trans hk)
    clear hk kp6
    go_wp2
    go_ret
    exact ⟨rfl, kp8.out⟩

set_option maxHeartbeats 2000000 in
theorem back_yn (k c r o k' c' r' o' x y y' n : Int) (w : World)
    (hA : Hid (∀ w, Calls Try.prog 6 #[.agg #[.int .u8 k, .int .u8 c, .int .u8 r, .int .u8 o]] w fun e w' => e = .returned (.tuple #[.int .u64 y, .int .i64 0]) ∧ Kp [] w w'))
    (hB : Hid (∀ w, Calls Try.prog 6 #[.agg #[.int .u8 k', .int .u8 c', .int .u8 r', .int .u8 o']] w fun e w' => e = .returned (.tuple #[.int .u64 y', .int .i64 2]) ∧ Kp [] w w'))
    (hT : Hid (∀ w, Calls Try.prog 12 #[.int .u64 y] w fun e w' => e = .returned (.tuple #[.agg #[.int .u8 k, .int .u8 c, .int .u8 r, .int .u8 o], .int .i64 0]) ∧ Kp [] w w'))
    (hN : Hid (∀ w, Calls Try.prog 8 #[.agg #[.int .u8 k, .int .u8 c, .int .u8 r, .int .u8 o]] w fun e w' => e = .returned (.int .i64 n) ∧ Kp [] w w'))
    (n1 : 1 ≤ n) (n2 : n ≤ 3)
    (hX : Tail x) :
    Calls Try.prog 5 #[.agg #[.int .u8 k, .int .u8 c, .int .u8 r, .int .u8 o], .agg #[.int .u8 k', .int .u8 c', .int .u8 r', .int .u8 o'], .int .u64 x] w fun e w' => e = .returned (.bool true) ∧ Kp [] w w' := by
  have hne := fun w => (neT k c r o k c r o w).trans (by rw [eqE_refl])
  go_enter Try.func5, Try.ntmps5
  go_wp2_with fail
  refine (hA.out _).mono ?_; rintro e w1 ⟨rfl, hk⟩
  have BA := Lib.hid (box4_step (box4_step (box4_new w k c r o _) ((Kp.refl [] _).alloc _)) hk)
  have BB := Lib.hid (box4_step (box4_new (w.alloc _) k' c' r' o' _) hk)
  clear hk
  obtain ⟨t0, t1, t2, t3⟩ := box4_second BB.out
  go_wp2_with fail
  refine (hB.out _).mono ?_; rintro e w2 ⟨rfl, hk⟩
  have BA2 := Lib.hid (box4_step BA.out hk)
  have BB2 := Lib.hid (box4_step BB.out hk)
  clear hk BA BB t0 t1 t2 t3
  obtain ⟨s0, s1, s2, s3, s7, s8⟩ := BA2.out
  obtain ⟨t0, t1, t2, t3⟩ := box4_second BB2.out
  go_wp2_with fail
  refine (hT.out _).mono ?_; rintro e w3 ⟨rfl, hk⟩
  have BA3 := Lib.hid (box4_step BA2.out hk)
  clear hk BA2 BB2 s0 s1 s2 s3 s7 s8 t0 t1 t2 t3
  obtain ⟨s0, s1, s2, s3, s7, s8⟩ := BA3.out
  go_wp2_with fail
  refine (hN.out _).mono ?_; rintro e w4 ⟨rfl, hk⟩
  have BA4 := Lib.hid (box4_step (box4_step BA3.out ((Kp.refl [] _).alloc _)) hk)
  clear hk BA3 s0 s1 s2 s3 s7 s8 hne
  obtain ⟨s0, s1, s2, s3, s7, s8⟩ := BA4.out
  go_wp2_with fail
  refine (hN.out _).mono ?_; rintro e w5 ⟨rfl, hk⟩
  have kpX := Lib.hid (kp_of_below (box4_step BA4.out hk).2.2.2.2.1)
  clear hk BA4 s0 s1 s2 s3 s7 s8
  go_wp2_with fail
  refine (hX.out _).mono ?_
  have hzq : ∀ w, (binOp .eql 28 (.agg #[.int .u8 0, .int .u8 0, .int .u8 0, .int .u8 0]) (.agg #[.int .u8 0, .int .u8 0, .int .u8 0, .int .u8 0])).run Try.prog w = .ok (.bool true) w := fun w => (eqT 0 0 0 0 0 0 0 0 w).trans (by rw [eqE_refl])
  rintro e w6 (⟨k6, c6, r6, o6, rfl, hP, hk6⟩ | ⟨rfl, hx0, hk6⟩)
  · have kp6 := Lib.hid (kpX.out.trans hk6)
    clear hk6 kpX hzq
    go_wp2_with fail
    refine (hP.out _).mono ?_; rintro e w7 ⟨rfl, hk⟩
    have kp7 := Lib.hid ((kp6.out.alloc _).trans hk)
    clear hk kp6
    go_wp2_with fail
    refine (wakes_is _).mono ?_; rintro e w8 ⟨rfl, hk⟩
    have kp8 := Lib.hid (kp7.out.trans hk)
    clear hk kp7
    go_wp2
    go_ret
    exact ⟨rfl, kp8.out⟩
  · have kp6 := Lib.hid (kpX.out.trans hk6)
    clear hk6 kpX
    go_wp2_with fail
    refine (wakes_is _).mono ?_; rintro e w8 ⟨rfl, hk⟩
    have kp8 := Lib.hid ((kp6.out.alloc _).trans hk)
    clear hk kp6
    go_wp2
    go_ret
    exact ⟨rfl, kp8.out⟩

set_option maxHeartbeats 2000000 in
theorem back_ny (k c r o k' c' r' o' x y y' n : Int) (w : World)
    (hA : Hid (∀ w, Calls Try.prog 6 #[.agg #[.int .u8 k, .int .u8 c, .int .u8 r, .int .u8 o]] w fun e w' => e = .returned (.tuple #[.int .u64 y, .int .i64 2]) ∧ Kp [] w w'))
    (hB : Hid (∀ w, Calls Try.prog 6 #[.agg #[.int .u8 k', .int .u8 c', .int .u8 r', .int .u8 o']] w fun e w' => e = .returned (.tuple #[.int .u64 y', .int .i64 0]) ∧ Kp [] w w'))
    (hX : Tail x) :
    Calls Try.prog 5 #[.agg #[.int .u8 k, .int .u8 c, .int .u8 r, .int .u8 o], .agg #[.int .u8 k', .int .u8 c', .int .u8 r', .int .u8 o'], .int .u64 x] w fun e w' => e = .returned (.bool true) ∧ Kp [] w w' := by
  go_enter Try.func5, Try.ntmps5
  go_wp2_with fail
  refine (hA.out _).mono ?_; rintro e w1 ⟨rfl, hk⟩
  have BA := Lib.hid (box4_step (box4_step (box4_new w k c r o _) ((Kp.refl [] _).alloc _)) hk)
  have BB := Lib.hid (box4_step (box4_new (w.alloc _) k' c' r' o' _) hk)
  clear hk
  obtain ⟨t0, t1, t2, t3⟩ := box4_second BB.out
  go_wp2_with fail
  refine (hB.out _).mono ?_; rintro e w2 ⟨rfl, hk⟩
  have BA2 := Lib.hid (box4_step BA.out hk)
  have BB2 := Lib.hid (box4_step BB.out hk)
  clear hk BA BB t0 t1 t2 t3
  have kpX := Lib.hid (kp_of_below BA2.out.2.2.2.2.1)
  clear BA2 BB2
  go_wp2_with fail
  refine (hX.out _).mono ?_
  have hzq : ∀ w, (binOp .eql 28 (.agg #[.int .u8 0, .int .u8 0, .int .u8 0, .int .u8 0]) (.agg #[.int .u8 0, .int .u8 0, .int .u8 0, .int .u8 0])).run Try.prog w = .ok (.bool true) w := fun w => (eqT 0 0 0 0 0 0 0 0 w).trans (by rw [eqE_refl])
  rintro e w6 (⟨k6, c6, r6, o6, rfl, hP, hk6⟩ | ⟨rfl, hx0, hk6⟩)
  · have kp6 := Lib.hid (kpX.out.trans hk6)
    clear hk6 kpX hzq
    go_wp2_with fail
    refine (hP.out _).mono ?_; rintro e w7 ⟨rfl, hk⟩
    have kp7 := Lib.hid ((kp6.out.alloc _).trans hk)
    clear hk kp6
    go_wp2_with fail
    refine (wakes_is _).mono ?_; rintro e w8 ⟨rfl, hk⟩
    have kp8 := Lib.hid (kp7.out.trans hk)
    clear hk kp7
    go_wp2
    go_ret
    exact ⟨rfl, kp8.out⟩
  · have kp6 := Lib.hid (kpX.out.trans hk6)
    clear hk6 kpX
    go_wp2_with fail
    refine (wakes_is _).mono ?_; rintro e w8 ⟨rfl, hk⟩
    have kp8 := Lib.hid ((kp6.out.alloc _).trans hk)
    clear hk kp6
    go_wp2
    go_ret
    exact ⟨rfl, kp8.out⟩

set_option maxHeartbeats 2000000 in
theorem back_nn (k c r o k' c' r' o' x y y' n : Int) (w : World)
    (hA : Hid (∀ w, Calls Try.prog 6 #[.agg #[.int .u8 k, .int .u8 c, .int .u8 r, .int .u8 o]] w fun e w' => e = .returned (.tuple #[.int .u64 y, .int .i64 2]) ∧ Kp [] w w'))
    (hB : Hid (∀ w, Calls Try.prog 6 #[.agg #[.int .u8 k', .int .u8 c', .int .u8 r', .int .u8 o']] w fun e w' => e = .returned (.tuple #[.int .u64 y', .int .i64 2]) ∧ Kp [] w w'))
    (hX : Tail x) :
    Calls Try.prog 5 #[.agg #[.int .u8 k, .int .u8 c, .int .u8 r, .int .u8 o], .agg #[.int .u8 k', .int .u8 c', .int .u8 r', .int .u8 o'], .int .u64 x] w fun e w' => e = .returned (.bool true) ∧ Kp [] w w' := by
  go_enter Try.func5, Try.ntmps5
  go_wp2_with fail
  refine (hA.out _).mono ?_; rintro e w1 ⟨rfl, hk⟩
  have BA := Lib.hid (box4_step (box4_step (box4_new w k c r o _) ((Kp.refl [] _).alloc _)) hk)
  have BB := Lib.hid (box4_step (box4_new (w.alloc _) k' c' r' o' _) hk)
  clear hk
  obtain ⟨t0, t1, t2, t3⟩ := box4_second BB.out
  go_wp2_with fail
  refine (hB.out _).mono ?_; rintro e w2 ⟨rfl, hk⟩
  have BA2 := Lib.hid (box4_step BA.out hk)
  have BB2 := Lib.hid (box4_step BB.out hk)
  clear hk BA BB t0 t1 t2 t3
  have kpX := Lib.hid (kp_of_below BA2.out.2.2.2.2.1)
  clear BA2 BB2
  go_wp2_with fail
  refine (hX.out _).mono ?_
  have hzq : ∀ w, (binOp .eql 28 (.agg #[.int .u8 0, .int .u8 0, .int .u8 0, .int .u8 0]) (.agg #[.int .u8 0, .int .u8 0, .int .u8 0, .int .u8 0])).run Try.prog w = .ok (.bool true) w := fun w => (eqT 0 0 0 0 0 0 0 0 w).trans (by rw [eqE_refl])
  rintro e w6 (⟨k6, c6, r6, o6, rfl, hP, hk6⟩ | ⟨rfl, hx0, hk6⟩)
  · have kp6 := Lib.hid (kpX.out.trans hk6)
    clear hk6 kpX hzq
    go_wp2_with fail
    refine (hP.out _).mono ?_; rintro e w7 ⟨rfl, hk⟩
    have kp7 := Lib.hid ((kp6.out.alloc _).trans hk)
    clear hk kp6
    go_wp2_with fail
    refine (wakes_is _).mono ?_; rintro e w8 ⟨rfl, hk⟩
    have kp8 := Lib.hid (kp7.out.trans hk)
    clear hk kp7
    go_wp2
    go_ret
    exact ⟨rfl, kp8.out⟩
  · have kp6 := Lib.hid (kpX.out.trans hk6)
    clear hk6 kpX
    go_wp2_with fail
    refine (wakes_is _).mono ?_; rintro e w8 ⟨rfl, hk⟩
    have kp8 := Lib.hid ((kp6.out.alloc _).trans hk)
    clear hk kp6
    go_wp2
    go_ret
    exact ⟨rfl, kp8.out⟩

end Go.Proofs.Ytjhbegclfnecbaa
