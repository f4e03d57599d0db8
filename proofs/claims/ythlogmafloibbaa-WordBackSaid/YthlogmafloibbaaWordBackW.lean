/- WordBack, walked: it returns true, and turns nothing below the heap's old size: one theorem for each of the eight ways (the first header may be or not, the second, the word has a header or not). Conditions: as each theorem states them. -/
import Derived.Test.YthlogmafloibbaaWordLaws
namespace Go.Proofs.Ythlogmafloibbaa
set_option linter.unusedVariables false
set_option linter.unusedSimpArgs false
open Go.RowKit

theorem take_word (k c o r s : Int) (g m : Bool) (w : World) (hk : 0 ≤ k) (hc : 0 ≤ c) (ho : 0 ≤ o) (hr : 0 ≤ r) (hs : 0 ≤ s) (h : mayB k c o r s g m = true) :
    Calls Try.prog 12 #[.int .u64 (wordI k c o r s g m)] w fun e w' => e = .returned (.tuple #[.agg #[.int .u8 k, .int .u8 c, .bool g, .bool m, .int .u8 o, .int .u8 r, .int .u8 s], .int .i64 0]) ∧ Below w.heap.size w w' := by
  obtain ⟨e1, e2, e3, e4, e5, e6, e7⟩ := parts_of_word k c o r s g m hk hc ho hr hs h
  refine (take_some _ w (word_lt k c o r s g m hk hc ho hr hs h).1 (takeB_of_word k c o r s g m hk hc ho hr hs h)).mono fun e w' ⟨he, hb⟩ => ⟨?_, hb⟩
  rw [he, e1, e2, e3, e4, e5, e6, e7]
theorem put_parts (x : Int) (w : World) (h0 : 0 ≤ x) (h : takeB x = true) :
    Calls Try.prog 6 #[.agg #[.int .u8 (x % 4), .int .u8 (x / 4 % 2), .bool (x / 8 % 2 == 1), .bool (x / 16 % 2 == 1), .int .u8 (x / 32 % 64), .int .u8 (x / 2048 % 128), .int .u8 (x / 262144 % 128)]] w fun e w' => e = .returned (.tuple #[.int .u64 x, .int .i64 0]) ∧ Below w.heap.size w w' := by
  have h' := h
  simp only [takeB, Bool.and_eq_true, decide_eq_true_eq] at h'
  exact (put_yes _ _ _ _ _ _ _ w (by omega) (by omega) (by omega) (by omega) (by omega) h'.2).mono fun e w' ⟨he, hb⟩ => ⟨by rw [he, takeB_word x h0 h], hb⟩
theorem box7_second {w w' : World} {o1 : Obj} {k c o r s : Int} {g m : Bool} (h : Box7 (w.alloc o1) k c o r s g m w') :
    w'.cell? ⟨w.heap.size + 1, 0, none⟩ = some (.int .u8 k) ∧ w'.cell? ⟨w.heap.size + 1, 1, none⟩ = some (.int .u8 c) ∧ w'.cell? ⟨w.heap.size + 1, 2, none⟩ = some (.bool g) ∧ w'.cell? ⟨w.heap.size + 1, 3, none⟩ = some (.bool m) ∧
      w'.cell? ⟨w.heap.size + 1, 4, none⟩ = some (.int .u8 o) ∧ w'.cell? ⟨w.heap.size + 1, 5, none⟩ = some (.int .u8 r) ∧ w'.cell? ⟨w.heap.size + 1, 6, none⟩ = some (.int .u8 s) := by
  obtain ⟨s0, s1, s2, s3, s4, s5, s6, _, _⟩ := h
  have e : (w.alloc o1).heap.size = w.heap.size + 1 := by simp
  rw [e] at s0 s1 s2 s3 s4 s5 s6
  exact ⟨s0, s1, s2, s3, s4, s5, s6⟩

set_option maxHeartbeats 1000000 in
theorem back_yyy (k c o r s k' c' o' r' s' hk hc ho hr hs x : Int) (g m g' m' hg hm : Bool) (w : World)
    (hA : Hid (∀ w, Calls Try.prog 6 #[.agg #[.int .u8 k, .int .u8 c, .bool g, .bool m, .int .u8 o, .int .u8 r, .int .u8 s]] w fun e w' => e = .returned (.tuple #[.int .u64 (wordI k c o r s g m), .int .i64 0]) ∧ Below w.heap.size w w'))
    (hB : Hid (∀ w, Calls Try.prog 6 #[.agg #[.int .u8 k', .int .u8 c', .bool g', .bool m', .int .u8 o', .int .u8 r', .int .u8 s']] w fun e w' => e = .returned (.tuple #[.int .u64 (wordI k' c' o' r' s' g' m'), .int .i64 0]) ∧ Below w.heap.size w w'))
    (hAT : Hid (∀ w, Calls Try.prog 12 #[.int .u64 (wordI k c o r s g m)] w fun e w' => e = .returned (.tuple #[.agg #[.int .u8 k, .int .u8 c, .bool g, .bool m, .int .u8 o, .int .u8 r, .int .u8 s], .int .i64 0]) ∧ Below w.heap.size w w'))
    (hinj : (wordI k c o r s g m == wordI k' c' o' r' s' g' m') = heqB k c o r s k' c' o' r' s' g m g' m')
    (hT : Hid (∀ w, Calls Try.prog 12 #[.int .u64 x] w fun e w' => e = .returned (.tuple #[.agg #[.int .u8 hk, .int .u8 hc, .bool hg, .bool hm, .int .u8 ho, .int .u8 hr, .int .u8 hs], .int .i64 0]) ∧ Below w.heap.size w w'))
    (hP : Hid (∀ w, Calls Try.prog 6 #[.agg #[.int .u8 hk, .int .u8 hc, .bool hg, .bool hm, .int .u8 ho, .int .u8 hr, .int .u8 hs]] w fun e w' => e = .returned (.tuple #[.int .u64 x, .int .i64 0]) ∧ Below w.heap.size w w')) :
    Calls Try.prog 5 #[.agg #[.int .u8 k, .int .u8 c, .bool g, .bool m, .int .u8 o, .int .u8 r, .int .u8 s], .agg #[.int .u8 k', .int .u8 c', .bool g', .bool m', .int .u8 o', .int .u8 r', .int .u8 s'], .int .u64 x] w fun e w' => e = .returned (.bool true) ∧ Below w.heap.size w w' := by
  have heq := eq28 k c o r s k' c' o' r' s' g m g' m'
  have hne := fun w => (ne28 k c o r s k c o r s g m g m w).trans (by rw [heqB_refl])
  go_enter Try.func5, Try.ntmps5
  go_wp2_with fail
  refine (hA.out _).mono ?_; rintro e w1 ⟨rfl, hb⟩
  have BA := Lib.hid (box7_step (box7_step (box7_new w k c o r s g m _) ((Below.refl _ _).alloc (Nat.le_refl _) _)) hb)
  have BB := Lib.hid (box7_step (box7_new (w.alloc _) k' c' o' r' s' g' m' _) hb)
  clear hb
  obtain ⟨t0, t1, t2, t3, t4, t5, t6⟩ := box7_second BB.out
  go_wp2_with fail
  refine (hB.out _).mono ?_; rintro e w2 ⟨rfl, hb⟩
  have BA2 := Lib.hid (box7_step BA.out hb)
  have BB2 := Lib.hid (box7_step BB.out hb)
  clear hb BA BB t0 t1 t2 t3 t4 t5 t6
  obtain ⟨s0, s1, s2, s3, s4, s5, s6, s7, s8⟩ := BA2.out
  obtain ⟨t0, t1, t2, t3, t4, t5, t6⟩ := box7_second BB2.out
  go_wp2_with fail
  refine (hAT.out _).mono ?_; rintro e w3 ⟨rfl, hb⟩
  have BA3 := Lib.hid (box7_step BA2.out hb)
  clear hb BA2 BB2 s0 s1 s2 s3 s4 s5 s6 s7 s8 t0 t1 t2 t3 t4 t5 t6 heq hinj
  obtain ⟨s0, s1, s2, s3, s4, s5, s6, s7, s8⟩ := BA3.out
  go_wp2_with fail
  refine (hT.out _).mono ?_; rintro e w4 ⟨rfl, hb⟩
  have bel4 := Lib.hid (BA3.out.2.2.2.2.2.2.2.1.alloc (Nat.le_of_lt BA3.out.2.2.2.2.2.2.2.2) _ |>.trans (hb.mono (by have := BA3.out.2.2.2.2.2.2.2.2; simp; omega)))
  clear hb BA3 s0 s1 s2 s3 s4 s5 s6 s7 s8 hne
  go_wp2_with fail
  refine (put_zero _).mono ?_; rintro e w5 ⟨rfl, hb⟩
  have B5 := Lib.hid (box7_step (box7_new w4 hk hc ho hr hs hg hm _) hb)
  have bel5 := Lib.hid ((bel4.out.alloc bel4.out.size _).trans (hb.mono (by have := bel4.out.size; simp; omega)))
  clear hb bel4
  obtain ⟨s0, s1, s2, s3, s4, s5, s6, s7, s8⟩ := B5.out
  go_wp2_with fail
  refine (hP.out _).mono ?_; rintro e w6 ⟨rfl, hb⟩
  have bel6 := Lib.hid (bel5.out.trans (hb.mono bel5.out.size))
  clear hb bel5 B5 s0 s1 s2 s3 s4 s5 s6 s7 s8
  go_wp2_with fail
  refine (wakes_any _).mono ?_; rintro e w7 ⟨rfl, hb⟩
  have bel7 := Lib.hid (bel6.out.trans (hb.mono bel6.out.size))
  clear hb bel6
  go_wp2
  go_ret
  exact ⟨rfl, bel7.out⟩

set_option maxHeartbeats 1000000 in
theorem back_yyn (k c o r s k' c' o' r' s' hk hc ho hr hs x : Int) (g m g' m' hg hm : Bool) (w : World)
    (hA : Hid (∀ w, Calls Try.prog 6 #[.agg #[.int .u8 k, .int .u8 c, .bool g, .bool m, .int .u8 o, .int .u8 r, .int .u8 s]] w fun e w' => e = .returned (.tuple #[.int .u64 (wordI k c o r s g m), .int .i64 0]) ∧ Below w.heap.size w w'))
    (hB : Hid (∀ w, Calls Try.prog 6 #[.agg #[.int .u8 k', .int .u8 c', .bool g', .bool m', .int .u8 o', .int .u8 r', .int .u8 s']] w fun e w' => e = .returned (.tuple #[.int .u64 (wordI k' c' o' r' s' g' m'), .int .i64 0]) ∧ Below w.heap.size w w'))
    (hAT : Hid (∀ w, Calls Try.prog 12 #[.int .u64 (wordI k c o r s g m)] w fun e w' => e = .returned (.tuple #[.agg #[.int .u8 k, .int .u8 c, .bool g, .bool m, .int .u8 o, .int .u8 r, .int .u8 s], .int .i64 0]) ∧ Below w.heap.size w w'))
    (hinj : (wordI k c o r s g m == wordI k' c' o' r' s' g' m') = heqB k c o r s k' c' o' r' s' g m g' m')
    (hT : Hid (∀ w, Calls Try.prog 12 #[.int .u64 x] w fun e w' => e = .returned (.tuple #[.agg #[.int .u8 0, .int .u8 0, .bool false, .bool false, .int .u8 0, .int .u8 0, .int .u8 0], .int .i64 3]) ∧ Below w.heap.size w w')) :
    Calls Try.prog 5 #[.agg #[.int .u8 k, .int .u8 c, .bool g, .bool m, .int .u8 o, .int .u8 r, .int .u8 s], .agg #[.int .u8 k', .int .u8 c', .bool g', .bool m', .int .u8 o', .int .u8 r', .int .u8 s'], .int .u64 x] w fun e w' => e = .returned (.bool true) ∧ Below w.heap.size w w' := by
  have heq := eq28 k c o r s k' c' o' r' s' g m g' m'
  have hne := fun w => (ne28 k c o r s k c o r s g m g m w).trans (by rw [heqB_refl])
  have hez := fun w => (eq28 0 0 0 0 0 0 0 0 0 0 false false false false w).trans (by rw [heqB_refl])
  go_enter Try.func5, Try.ntmps5
  go_wp2_with fail
  refine (hA.out _).mono ?_; rintro e w1 ⟨rfl, hb⟩
  have BA := Lib.hid (box7_step (box7_step (box7_new w k c o r s g m _) ((Below.refl _ _).alloc (Nat.le_refl _) _)) hb)
  have BB := Lib.hid (box7_step (box7_new (w.alloc _) k' c' o' r' s' g' m' _) hb)
  clear hb
  obtain ⟨t0, t1, t2, t3, t4, t5, t6⟩ := box7_second BB.out
  go_wp2_with fail
  refine (hB.out _).mono ?_; rintro e w2 ⟨rfl, hb⟩
  have BA2 := Lib.hid (box7_step BA.out hb)
  have BB2 := Lib.hid (box7_step BB.out hb)
  clear hb BA BB t0 t1 t2 t3 t4 t5 t6
  obtain ⟨s0, s1, s2, s3, s4, s5, s6, s7, s8⟩ := BA2.out
  obtain ⟨t0, t1, t2, t3, t4, t5, t6⟩ := box7_second BB2.out
  go_wp2_with fail
  refine (hAT.out _).mono ?_; rintro e w3 ⟨rfl, hb⟩
  have BA3 := Lib.hid (box7_step BA2.out hb)
  clear hb BA2 BB2 s0 s1 s2 s3 s4 s5 s6 s7 s8 t0 t1 t2 t3 t4 t5 t6 heq hinj
  obtain ⟨s0, s1, s2, s3, s4, s5, s6, s7, s8⟩ := BA3.out
  go_wp2_with fail
  refine (hT.out _).mono ?_; rintro e w4 ⟨rfl, hb⟩
  have bel4 := Lib.hid (BA3.out.2.2.2.2.2.2.2.1.alloc (Nat.le_of_lt BA3.out.2.2.2.2.2.2.2.2) _ |>.trans (hb.mono (by have := BA3.out.2.2.2.2.2.2.2.2; simp; omega)))
  clear hb BA3 s0 s1 s2 s3 s4 s5 s6 s7 s8 hne
  go_wp2_with fail
  refine (put_zero _).mono ?_; rintro e w5 ⟨rfl, hb⟩
  have B5 := Lib.hid (box7_step (box7_new w4 0 0 0 0 0 false false _) hb)
  have bel5 := Lib.hid ((bel4.out.alloc bel4.out.size _).trans (hb.mono (by have := bel4.out.size; simp; omega)))
  clear hb bel4
  obtain ⟨s0, s1, s2, s3, s4, s5, s6, s7, s8⟩ := B5.out
  go_wp2_with fail
  refine (wakes_any _).mono ?_; rintro e w7 ⟨rfl, hb⟩
  have bel7 := Lib.hid (bel5.out.trans (hb.mono bel5.out.size))
  clear hb bel5 B5 s0 s1 s2 s3 s4 s5 s6 s7 s8 hez
  go_wp2
  go_ret
  exact ⟨rfl, bel7.out⟩

set_option maxHeartbeats 1000000 in
theorem back_yny (k c o r s k' c' o' r' s' hk hc ho hr hs x : Int) (g m g' m' hg hm : Bool) (w : World)
    (hA : Hid (∀ w, Calls Try.prog 6 #[.agg #[.int .u8 k, .int .u8 c, .bool g, .bool m, .int .u8 o, .int .u8 r, .int .u8 s]] w fun e w' => e = .returned (.tuple #[.int .u64 (wordI k c o r s g m), .int .i64 0]) ∧ Below w.heap.size w w'))
    (hB : Hid (∀ w, Calls Try.prog 6 #[.agg #[.int .u8 k', .int .u8 c', .bool g', .bool m', .int .u8 o', .int .u8 r', .int .u8 s']] w fun e w' => e = .returned (.tuple #[.int .u64 0, .int .i64 2]) ∧ Below w.heap.size w w'))
    (hAT : Hid (∀ w, Calls Try.prog 12 #[.int .u64 (wordI k c o r s g m)] w fun e w' => e = .returned (.tuple #[.agg #[.int .u8 k, .int .u8 c, .bool g, .bool m, .int .u8 o, .int .u8 r, .int .u8 s], .int .i64 0]) ∧ Below w.heap.size w w'))
    (hT : Hid (∀ w, Calls Try.prog 12 #[.int .u64 x] w fun e w' => e = .returned (.tuple #[.agg #[.int .u8 hk, .int .u8 hc, .bool hg, .bool hm, .int .u8 ho, .int .u8 hr, .int .u8 hs], .int .i64 0]) ∧ Below w.heap.size w w'))
    (hP : Hid (∀ w, Calls Try.prog 6 #[.agg #[.int .u8 hk, .int .u8 hc, .bool hg, .bool hm, .int .u8 ho, .int .u8 hr, .int .u8 hs]] w fun e w' => e = .returned (.tuple #[.int .u64 x, .int .i64 0]) ∧ Below w.heap.size w w')) :
    Calls Try.prog 5 #[.agg #[.int .u8 k, .int .u8 c, .bool g, .bool m, .int .u8 o, .int .u8 r, .int .u8 s], .agg #[.int .u8 k', .int .u8 c', .bool g', .bool m', .int .u8 o', .int .u8 r', .int .u8 s'], .int .u64 x] w fun e w' => e = .returned (.bool true) ∧ Below w.heap.size w w' := by
  have hne := fun w => (ne28 k c o r s k c o r s g m g m w).trans (by rw [heqB_refl])
  go_enter Try.func5, Try.ntmps5
  go_wp2_with fail
  refine (hA.out _).mono ?_; rintro e w1 ⟨rfl, hb⟩
  have BA := Lib.hid (box7_step (box7_step (box7_new w k c o r s g m _) ((Below.refl _ _).alloc (Nat.le_refl _) _)) hb)
  have BB := Lib.hid (box7_step (box7_new (w.alloc _) k' c' o' r' s' g' m' _) hb)
  clear hb
  obtain ⟨t0, t1, t2, t3, t4, t5, t6⟩ := box7_second BB.out
  go_wp2_with fail
  refine (hB.out _).mono ?_; rintro e w2 ⟨rfl, hb⟩
  have BA2 := Lib.hid (box7_step BA.out hb)
  clear hb BA BB t0 t1 t2 t3 t4 t5 t6
  go_wp2_with fail
  refine (hAT.out _).mono ?_; rintro e w3 ⟨rfl, hb⟩
  have BA3 := Lib.hid (box7_step BA2.out hb)
  clear hb BA2
  obtain ⟨s0, s1, s2, s3, s4, s5, s6, s7, s8⟩ := BA3.out
  go_wp2_with fail
  refine (hT.out _).mono ?_; rintro e w4 ⟨rfl, hb⟩
  have bel4 := Lib.hid (BA3.out.2.2.2.2.2.2.2.1.alloc (Nat.le_of_lt BA3.out.2.2.2.2.2.2.2.2) _ |>.trans (hb.mono (by have := BA3.out.2.2.2.2.2.2.2.2; simp; omega)))
  clear hb BA3 s0 s1 s2 s3 s4 s5 s6 s7 s8 hne
  go_wp2_with fail
  refine (put_zero _).mono ?_; rintro e w5 ⟨rfl, hb⟩
  have B5 := Lib.hid (box7_step (box7_new w4 hk hc ho hr hs hg hm _) hb)
  have bel5 := Lib.hid ((bel4.out.alloc bel4.out.size _).trans (hb.mono (by have := bel4.out.size; simp; omega)))
  clear hb bel4
  obtain ⟨s0, s1, s2, s3, s4, s5, s6, s7, s8⟩ := B5.out
  go_wp2_with fail
  refine (hP.out _).mono ?_; rintro e w6 ⟨rfl, hb⟩
  have bel6 := Lib.hid (bel5.out.trans (hb.mono bel5.out.size))
  clear hb bel5 B5 s0 s1 s2 s3 s4 s5 s6 s7 s8
  go_wp2_with fail
  refine (wakes_any _).mono ?_; rintro e w7 ⟨rfl, hb⟩
  have bel7 := Lib.hid (bel6.out.trans (hb.mono bel6.out.size))
  clear hb bel6
  go_wp2
  go_ret
  exact ⟨rfl, bel7.out⟩

set_option maxHeartbeats 1000000 in
theorem back_ynn (k c o r s k' c' o' r' s' hk hc ho hr hs x : Int) (g m g' m' hg hm : Bool) (w : World)
    (hA : Hid (∀ w, Calls Try.prog 6 #[.agg #[.int .u8 k, .int .u8 c, .bool g, .bool m, .int .u8 o, .int .u8 r, .int .u8 s]] w fun e w' => e = .returned (.tuple #[.int .u64 (wordI k c o r s g m), .int .i64 0]) ∧ Below w.heap.size w w'))
    (hB : Hid (∀ w, Calls Try.prog 6 #[.agg #[.int .u8 k', .int .u8 c', .bool g', .bool m', .int .u8 o', .int .u8 r', .int .u8 s']] w fun e w' => e = .returned (.tuple #[.int .u64 0, .int .i64 2]) ∧ Below w.heap.size w w'))
    (hAT : Hid (∀ w, Calls Try.prog 12 #[.int .u64 (wordI k c o r s g m)] w fun e w' => e = .returned (.tuple #[.agg #[.int .u8 k, .int .u8 c, .bool g, .bool m, .int .u8 o, .int .u8 r, .int .u8 s], .int .i64 0]) ∧ Below w.heap.size w w'))
    (hT : Hid (∀ w, Calls Try.prog 12 #[.int .u64 x] w fun e w' => e = .returned (.tuple #[.agg #[.int .u8 0, .int .u8 0, .bool false, .bool false, .int .u8 0, .int .u8 0, .int .u8 0], .int .i64 3]) ∧ Below w.heap.size w w')) :
    Calls Try.prog 5 #[.agg #[.int .u8 k, .int .u8 c, .bool g, .bool m, .int .u8 o, .int .u8 r, .int .u8 s], .agg #[.int .u8 k', .int .u8 c', .bool g', .bool m', .int .u8 o', .int .u8 r', .int .u8 s'], .int .u64 x] w fun e w' => e = .returned (.bool true) ∧ Below w.heap.size w w' := by
  have hne := fun w => (ne28 k c o r s k c o r s g m g m w).trans (by rw [heqB_refl])
  have hez := fun w => (eq28 0 0 0 0 0 0 0 0 0 0 false false false false w).trans (by rw [heqB_refl])
  go_enter Try.func5, Try.ntmps5
  go_wp2_with fail
  refine (hA.out _).mono ?_; rintro e w1 ⟨rfl, hb⟩
  have BA := Lib.hid (box7_step (box7_step (box7_new w k c o r s g m _) ((Below.refl _ _).alloc (Nat.le_refl _) _)) hb)
  have BB := Lib.hid (box7_step (box7_new (w.alloc _) k' c' o' r' s' g' m' _) hb)
  clear hb
  obtain ⟨t0, t1, t2, t3, t4, t5, t6⟩ := box7_second BB.out
  go_wp2_with fail
  refine (hB.out _).mono ?_; rintro e w2 ⟨rfl, hb⟩
  have BA2 := Lib.hid (box7_step BA.out hb)
  clear hb BA BB t0 t1 t2 t3 t4 t5 t6
  go_wp2_with fail
  refine (hAT.out _).mono ?_; rintro e w3 ⟨rfl, hb⟩
  have BA3 := Lib.hid (box7_step BA2.out hb)
  clear hb BA2
  obtain ⟨s0, s1, s2, s3, s4, s5, s6, s7, s8⟩ := BA3.out
  go_wp2_with fail
  refine (hT.out _).mono ?_; rintro e w4 ⟨rfl, hb⟩
  have bel4 := Lib.hid (BA3.out.2.2.2.2.2.2.2.1.alloc (Nat.le_of_lt BA3.out.2.2.2.2.2.2.2.2) _ |>.trans (hb.mono (by have := BA3.out.2.2.2.2.2.2.2.2; simp; omega)))
  clear hb BA3 s0 s1 s2 s3 s4 s5 s6 s7 s8 hne
  go_wp2_with fail
  refine (put_zero _).mono ?_; rintro e w5 ⟨rfl, hb⟩
  have B5 := Lib.hid (box7_step (box7_new w4 0 0 0 0 0 false false _) hb)
  have bel5 := Lib.hid ((bel4.out.alloc bel4.out.size _).trans (hb.mono (by have := bel4.out.size; simp; omega)))
  clear hb bel4
  obtain ⟨s0, s1, s2, s3, s4, s5, s6, s7, s8⟩ := B5.out
  go_wp2_with fail
  refine (wakes_any _).mono ?_; rintro e w7 ⟨rfl, hb⟩
  have bel7 := Lib.hid (bel5.out.trans (hb.mono bel5.out.size))
  clear hb bel5 B5 s0 s1 s2 s3 s4 s5 s6 s7 s8 hez
  go_wp2
  go_ret
  exact ⟨rfl, bel7.out⟩

set_option maxHeartbeats 1000000 in
theorem back_nyy (k c o r s k' c' o' r' s' hk hc ho hr hs x : Int) (g m g' m' hg hm : Bool) (w : World)
    (hA : Hid (∀ w, Calls Try.prog 6 #[.agg #[.int .u8 k, .int .u8 c, .bool g, .bool m, .int .u8 o, .int .u8 r, .int .u8 s]] w fun e w' => e = .returned (.tuple #[.int .u64 0, .int .i64 2]) ∧ Below w.heap.size w w'))
    (hB : Hid (∀ w, Calls Try.prog 6 #[.agg #[.int .u8 k', .int .u8 c', .bool g', .bool m', .int .u8 o', .int .u8 r', .int .u8 s']] w fun e w' => e = .returned (.tuple #[.int .u64 (wordI k' c' o' r' s' g' m'), .int .i64 0]) ∧ Below w.heap.size w w'))
    (hT : Hid (∀ w, Calls Try.prog 12 #[.int .u64 x] w fun e w' => e = .returned (.tuple #[.agg #[.int .u8 hk, .int .u8 hc, .bool hg, .bool hm, .int .u8 ho, .int .u8 hr, .int .u8 hs], .int .i64 0]) ∧ Below w.heap.size w w'))
    (hP : Hid (∀ w, Calls Try.prog 6 #[.agg #[.int .u8 hk, .int .u8 hc, .bool hg, .bool hm, .int .u8 ho, .int .u8 hr, .int .u8 hs]] w fun e w' => e = .returned (.tuple #[.int .u64 x, .int .i64 0]) ∧ Below w.heap.size w w')) :
    Calls Try.prog 5 #[.agg #[.int .u8 k, .int .u8 c, .bool g, .bool m, .int .u8 o, .int .u8 r, .int .u8 s], .agg #[.int .u8 k', .int .u8 c', .bool g', .bool m', .int .u8 o', .int .u8 r', .int .u8 s'], .int .u64 x] w fun e w' => e = .returned (.bool true) ∧ Below w.heap.size w w' := by
  go_enter Try.func5, Try.ntmps5
  go_wp2_with fail
  refine (hA.out _).mono ?_; rintro e w1 ⟨rfl, hb⟩
  have BA := Lib.hid (box7_step (box7_step (box7_new w k c o r s g m _) ((Below.refl _ _).alloc (Nat.le_refl _) _)) hb)
  have BB := Lib.hid (box7_step (box7_new (w.alloc _) k' c' o' r' s' g' m' _) hb)
  clear hb
  obtain ⟨t0, t1, t2, t3, t4, t5, t6⟩ := box7_second BB.out
  go_wp2_with fail
  refine (hB.out _).mono ?_; rintro e w2 ⟨rfl, hb⟩
  have BA2 := Lib.hid (box7_step BA.out hb)
  clear hb BA BB t0 t1 t2 t3 t4 t5 t6
  go_wp2_with fail
  refine (hT.out _).mono ?_; rintro e w4 ⟨rfl, hb⟩
  have bel4 := Lib.hid (BA2.out.2.2.2.2.2.2.2.1 |>.trans (hb.mono (by have := BA2.out.2.2.2.2.2.2.2.2; simp; omega)))
  clear hb BA2
  go_wp2_with fail
  refine (put_zero _).mono ?_; rintro e w5 ⟨rfl, hb⟩
  have B5 := Lib.hid (box7_step (box7_new w4 hk hc ho hr hs hg hm _) hb)
  have bel5 := Lib.hid ((bel4.out.alloc bel4.out.size _).trans (hb.mono (by have := bel4.out.size; simp; omega)))
  clear hb bel4
  obtain ⟨s0, s1, s2, s3, s4, s5, s6, s7, s8⟩ := B5.out
  go_wp2_with fail
  refine (hP.out _).mono ?_; rintro e w6 ⟨rfl, hb⟩
  have bel6 := Lib.hid (bel5.out.trans (hb.mono bel5.out.size))
  clear hb bel5 B5 s0 s1 s2 s3 s4 s5 s6 s7 s8
  go_wp2_with fail
  refine (wakes_any _).mono ?_; rintro e w7 ⟨rfl, hb⟩
  have bel7 := Lib.hid (bel6.out.trans (hb.mono bel6.out.size))
  clear hb bel6
  go_wp2
  go_ret
  exact ⟨rfl, bel7.out⟩

set_option maxHeartbeats 1000000 in
theorem back_nyn (k c o r s k' c' o' r' s' hk hc ho hr hs x : Int) (g m g' m' hg hm : Bool) (w : World)
    (hA : Hid (∀ w, Calls Try.prog 6 #[.agg #[.int .u8 k, .int .u8 c, .bool g, .bool m, .int .u8 o, .int .u8 r, .int .u8 s]] w fun e w' => e = .returned (.tuple #[.int .u64 0, .int .i64 2]) ∧ Below w.heap.size w w'))
    (hB : Hid (∀ w, Calls Try.prog 6 #[.agg #[.int .u8 k', .int .u8 c', .bool g', .bool m', .int .u8 o', .int .u8 r', .int .u8 s']] w fun e w' => e = .returned (.tuple #[.int .u64 (wordI k' c' o' r' s' g' m'), .int .i64 0]) ∧ Below w.heap.size w w'))
    (hT : Hid (∀ w, Calls Try.prog 12 #[.int .u64 x] w fun e w' => e = .returned (.tuple #[.agg #[.int .u8 0, .int .u8 0, .bool false, .bool false, .int .u8 0, .int .u8 0, .int .u8 0], .int .i64 3]) ∧ Below w.heap.size w w')) :
    Calls Try.prog 5 #[.agg #[.int .u8 k, .int .u8 c, .bool g, .bool m, .int .u8 o, .int .u8 r, .int .u8 s], .agg #[.int .u8 k', .int .u8 c', .bool g', .bool m', .int .u8 o', .int .u8 r', .int .u8 s'], .int .u64 x] w fun e w' => e = .returned (.bool true) ∧ Below w.heap.size w w' := by
  have hez := fun w => (eq28 0 0 0 0 0 0 0 0 0 0 false false false false w).trans (by rw [heqB_refl])
  go_enter Try.func5, Try.ntmps5
  go_wp2_with fail
  refine (hA.out _).mono ?_; rintro e w1 ⟨rfl, hb⟩
  have BA := Lib.hid (box7_step (box7_step (box7_new w k c o r s g m _) ((Below.refl _ _).alloc (Nat.le_refl _) _)) hb)
  have BB := Lib.hid (box7_step (box7_new (w.alloc _) k' c' o' r' s' g' m' _) hb)
  clear hb
  obtain ⟨t0, t1, t2, t3, t4, t5, t6⟩ := box7_second BB.out
  go_wp2_with fail
  refine (hB.out _).mono ?_; rintro e w2 ⟨rfl, hb⟩
  have BA2 := Lib.hid (box7_step BA.out hb)
  clear hb BA BB t0 t1 t2 t3 t4 t5 t6
  go_wp2_with fail
  refine (hT.out _).mono ?_; rintro e w4 ⟨rfl, hb⟩
  have bel4 := Lib.hid (BA2.out.2.2.2.2.2.2.2.1 |>.trans (hb.mono (by have := BA2.out.2.2.2.2.2.2.2.2; simp; omega)))
  clear hb BA2
  go_wp2_with fail
  refine (put_zero _).mono ?_; rintro e w5 ⟨rfl, hb⟩
  have B5 := Lib.hid (box7_step (box7_new w4 0 0 0 0 0 false false _) hb)
  have bel5 := Lib.hid ((bel4.out.alloc bel4.out.size _).trans (hb.mono (by have := bel4.out.size; simp; omega)))
  clear hb bel4
  obtain ⟨s0, s1, s2, s3, s4, s5, s6, s7, s8⟩ := B5.out
  go_wp2_with fail
  refine (wakes_any _).mono ?_; rintro e w7 ⟨rfl, hb⟩
  have bel7 := Lib.hid (bel5.out.trans (hb.mono bel5.out.size))
  clear hb bel5 B5 s0 s1 s2 s3 s4 s5 s6 s7 s8 hez
  go_wp2
  go_ret
  exact ⟨rfl, bel7.out⟩

set_option maxHeartbeats 1000000 in
theorem back_nny (k c o r s k' c' o' r' s' hk hc ho hr hs x : Int) (g m g' m' hg hm : Bool) (w : World)
    (hA : Hid (∀ w, Calls Try.prog 6 #[.agg #[.int .u8 k, .int .u8 c, .bool g, .bool m, .int .u8 o, .int .u8 r, .int .u8 s]] w fun e w' => e = .returned (.tuple #[.int .u64 0, .int .i64 2]) ∧ Below w.heap.size w w'))
    (hB : Hid (∀ w, Calls Try.prog 6 #[.agg #[.int .u8 k', .int .u8 c', .bool g', .bool m', .int .u8 o', .int .u8 r', .int .u8 s']] w fun e w' => e = .returned (.tuple #[.int .u64 0, .int .i64 2]) ∧ Below w.heap.size w w'))
    (hT : Hid (∀ w, Calls Try.prog 12 #[.int .u64 x] w fun e w' => e = .returned (.tuple #[.agg #[.int .u8 hk, .int .u8 hc, .bool hg, .bool hm, .int .u8 ho, .int .u8 hr, .int .u8 hs], .int .i64 0]) ∧ Below w.heap.size w w'))
    (hP : Hid (∀ w, Calls Try.prog 6 #[.agg #[.int .u8 hk, .int .u8 hc, .bool hg, .bool hm, .int .u8 ho, .int .u8 hr, .int .u8 hs]] w fun e w' => e = .returned (.tuple #[.int .u64 x, .int .i64 0]) ∧ Below w.heap.size w w')) :
    Calls Try.prog 5 #[.agg #[.int .u8 k, .int .u8 c, .bool g, .bool m, .int .u8 o, .int .u8 r, .int .u8 s], .agg #[.int .u8 k', .int .u8 c', .bool g', .bool m', .int .u8 o', .int .u8 r', .int .u8 s'], .int .u64 x] w fun e w' => e = .returned (.bool true) ∧ Below w.heap.size w w' := by
  go_enter Try.func5, Try.ntmps5
  go_wp2_with fail
  refine (hA.out _).mono ?_; rintro e w1 ⟨rfl, hb⟩
  have BA := Lib.hid (box7_step (box7_step (box7_new w k c o r s g m _) ((Below.refl _ _).alloc (Nat.le_refl _) _)) hb)
  have BB := Lib.hid (box7_step (box7_new (w.alloc _) k' c' o' r' s' g' m' _) hb)
  clear hb
  obtain ⟨t0, t1, t2, t3, t4, t5, t6⟩ := box7_second BB.out
  go_wp2_with fail
  refine (hB.out _).mono ?_; rintro e w2 ⟨rfl, hb⟩
  have BA2 := Lib.hid (box7_step BA.out hb)
  clear hb BA BB t0 t1 t2 t3 t4 t5 t6
  go_wp2_with fail
  refine (hT.out _).mono ?_; rintro e w4 ⟨rfl, hb⟩
  have bel4 := Lib.hid (BA2.out.2.2.2.2.2.2.2.1 |>.trans (hb.mono (by have := BA2.out.2.2.2.2.2.2.2.2; simp; omega)))
  clear hb BA2
  go_wp2_with fail
  refine (put_zero _).mono ?_; rintro e w5 ⟨rfl, hb⟩
  have B5 := Lib.hid (box7_step (box7_new w4 hk hc ho hr hs hg hm _) hb)
  have bel5 := Lib.hid ((bel4.out.alloc bel4.out.size _).trans (hb.mono (by have := bel4.out.size; simp; omega)))
  clear hb bel4
  obtain ⟨s0, s1, s2, s3, s4, s5, s6, s7, s8⟩ := B5.out
  go_wp2_with fail
  refine (hP.out _).mono ?_; rintro e w6 ⟨rfl, hb⟩
  have bel6 := Lib.hid (bel5.out.trans (hb.mono bel5.out.size))
  clear hb bel5 B5 s0 s1 s2 s3 s4 s5 s6 s7 s8
  go_wp2_with fail
  refine (wakes_any _).mono ?_; rintro e w7 ⟨rfl, hb⟩
  have bel7 := Lib.hid (bel6.out.trans (hb.mono bel6.out.size))
  clear hb bel6
  go_wp2
  go_ret
  exact ⟨rfl, bel7.out⟩

set_option maxHeartbeats 1000000 in
theorem back_nnn (k c o r s k' c' o' r' s' hk hc ho hr hs x : Int) (g m g' m' hg hm : Bool) (w : World)
    (hA : Hid (∀ w, Calls Try.prog 6 #[.agg #[.int .u8 k, .int .u8 c, .bool g, .bool m, .int .u8 o, .int .u8 r, .int .u8 s]] w fun e w' => e = .returned (.tuple #[.int .u64 0, .int .i64 2]) ∧ Below w.heap.size w w'))
    (hB : Hid (∀ w, Calls Try.prog 6 #[.agg #[.int .u8 k', .int .u8 c', .bool g', .bool m', .int .u8 o', .int .u8 r', .int .u8 s']] w fun e w' => e = .returned (.tuple #[.int .u64 0, .int .i64 2]) ∧ Below w.heap.size w w'))
    (hT : Hid (∀ w, Calls Try.prog 12 #[.int .u64 x] w fun e w' => e = .returned (.tuple #[.agg #[.int .u8 0, .int .u8 0, .bool false, .bool false, .int .u8 0, .int .u8 0, .int .u8 0], .int .i64 3]) ∧ Below w.heap.size w w')) :
    Calls Try.prog 5 #[.agg #[.int .u8 k, .int .u8 c, .bool g, .bool m, .int .u8 o, .int .u8 r, .int .u8 s], .agg #[.int .u8 k', .int .u8 c', .bool g', .bool m', .int .u8 o', .int .u8 r', .int .u8 s'], .int .u64 x] w fun e w' => e = .returned (.bool true) ∧ Below w.heap.size w w' := by
  have hez := fun w => (eq28 0 0 0 0 0 0 0 0 0 0 false false false false w).trans (by rw [heqB_refl])
  go_enter Try.func5, Try.ntmps5
  go_wp2_with fail
  refine (hA.out _).mono ?_; rintro e w1 ⟨rfl, hb⟩
  have BA := Lib.hid (box7_step (box7_step (box7_new w k c o r s g m _) ((Below.refl _ _).alloc (Nat.le_refl _) _)) hb)
  have BB := Lib.hid (box7_step (box7_new (w.alloc _) k' c' o' r' s' g' m' _) hb)
  clear hb
  obtain ⟨t0, t1, t2, t3, t4, t5, t6⟩ := box7_second BB.out
  go_wp2_with fail
  refine (hB.out _).mono ?_; rintro e w2 ⟨rfl, hb⟩
  have BA2 := Lib.hid (box7_step BA.out hb)
  clear hb BA BB t0 t1 t2 t3 t4 t5 t6
  go_wp2_with fail
  refine (hT.out _).mono ?_; rintro e w4 ⟨rfl, hb⟩
  have bel4 := Lib.hid (BA2.out.2.2.2.2.2.2.2.1 |>.trans (hb.mono (by have := BA2.out.2.2.2.2.2.2.2.2; simp; omega)))
  clear hb BA2
  go_wp2_with fail
  refine (put_zero _).mono ?_; rintro e w5 ⟨rfl, hb⟩
  have B5 := Lib.hid (box7_step (box7_new w4 0 0 0 0 0 false false _) hb)
  have bel5 := Lib.hid ((bel4.out.alloc bel4.out.size _).trans (hb.mono (by have := bel4.out.size; simp; omega)))
  clear hb bel4
  obtain ⟨s0, s1, s2, s3, s4, s5, s6, s7, s8⟩ := B5.out
  go_wp2_with fail
  refine (wakes_any _).mono ?_; rintro e w7 ⟨rfl, hb⟩
  have bel7 := Lib.hid (bel5.out.trans (hb.mono bel5.out.size))
  clear hb bel5 B5 s0 s1 s2 s3 s4 s5 s6 s7 s8 hez
  go_wp2
  go_ret
  exact ⟨rfl, bel7.out⟩

end Go.Proofs.Ythlogmafloibbaa
