/- ShadeTells' walk. Conditions: as each theorem states them (the numbers are those of a uint8, of a uint64). -/
import Derived.Test.YtjdihjndcpkndaaShD
namespace Go.Proofs.Ytjdihjndcpkndaa
set_option linter.unusedVariables false
set_option linter.unusedSimpArgs false
open Go.RowKit

theorem rd_lit (w : World) (p r : Nat) (a b c v : Int) (t : Nat) (l : Int) (k : Int) (hk : k = 0 ∧ v = a ∨ k = 1 ∧ v = b ∨ k = 2 ∧ v = c) (ht : t ≤ 4000) (h : Ar w p r ⟨[a, b, c], t, l⟩) :
    Calls Try.prog 12 #[.pointer (some ⟨p, 0, none⟩), .int .i64 k] w fun e w' => e = .returned (.int .u64 v) ∧ Ar w' p r ⟨[a, b, c], t + 1, k⟩ ∧ Kp [p, r] w w' := by
  rcases hk with ⟨rfl, rfl⟩ | ⟨rfl, rfl⟩ | ⟨rfl, rfl⟩
  all_goals exact (read_any w p r _ _ h (by simp) (by simp; omega)).mono fun e w' ⟨he, ha, hk⟩ => ⟨by rw [he]; rfl, ha, hk⟩

set_option maxHeartbeats 2000000 in
theorem tells_off (x c k t : Int) (n : Nat) (l : Int) (w : World) (h0 : 0 ≤ x) (h1 : x < 18446744073709551616) (hT : tellI x c = t) (hk1 : (k == 1) = false)
    (hw : 1 < c ∧ n = 1 ∨ c ≤ 1 ∧ 0 ≤ k ∧ k < 3 ∧ n = 2 ∨ c ≤ 1 ∧ k < 0 ∧ n = 1 ∨ c ≤ 1 ∧ 3 ≤ k ∧ n = 1)
    (hS : Hid (∀ w p r, Ar w p r ⟨[0, x, 0], 1, 1⟩ → Calls Try.prog 10 #[.iface 24 (.pointer (some ⟨p, 0, none⟩)), .int .i64 k, .int .u8 c] w fun e w' => e = .returned (.bool false) ∧ Ar w' p r ⟨[0, x, 0], n, l⟩ ∧ Kp [p, r] w w'))
    (hB : Hid (∀ w p r t l, t ≤ 4000 → Ar w p r ⟨[0, x, 0], t, l⟩ → Calls Try.prog 13 #[.iface 24 (.pointer (some ⟨p, 0, none⟩)), .int .i64 k] w fun e w' => e = .returned (.tuple #[]) ∧ (∃ t' l', t' ≤ t + 1 ∧ Ar w' p r ⟨[0, x, 0], t', l'⟩) ∧ Kp [p, r] w w'))
    (hR : Hid (∀ w, Calls Try.prog 11 #[.int .u64 0, .int .u8 c] w fun e w' => e = .returned (.tuple #[.int .u64 0, .bool false]) ∧ Kp [] w w')) :
    Calls Try.prog 3 #[.int .u64 x, .int .u8 c, .int .i64 k] w fun e w' => e = .returned (.bool true) ∧ Kp [] w w' := by
  have HT := Lib.hid hT
  have HX := Lib.hid h1
  clear h1 hT
  have hnew : ∀ w, Calls Try.prog 7 #[.int .i64 3] w _ := fun w => new_good w 3 (by omega) (by omega)
  rcases hw with ⟨q1, rfl⟩ | ⟨q1, q2, q3, rfl⟩ | ⟨q1, q2, rfl⟩ | ⟨q1, q2, rfl⟩
  all_goals
    go_enter Try.func3, Try.ntmps3
    go_wp2_with fail
    refine (tell_is x c _ _ h0 HX.out HT.out).mono ?_
    rintro e w1 ⟨rfl, hk⟩
    have Kw1 := Lib.hid hk
    clear hk
    go_wp2_with fail
    refine (rtell_is x c _ _ h0 HX.out HT.out).mono ?_
    rintro e w2 ⟨rfl, hk⟩
    have Kw2 := Lib.hid (Kw1.out.trans hk)
    clear hk
    have hz := Kw2.out.size
    go_wp2_with fail
    refine (hnew _).mono ?_
    rintro e w3 ⟨rfl, ha, hk⟩
    have HA3 := Lib.hid ha
    have Kw3 := Lib.hid (Kw2.out.trans hk)
    clear ha hk Kw1 Kw2
    go_wp2_with fail
    refine (write_any _ _ _ _ 1 x HA3.out (by decide) (by decide)).mono ?_
    rintro e w4 ⟨rfl, ha, hk⟩
    have HA4 : Hid (Ar w4 (w2.heap.size + 1) w2.heap.size ⟨[0, x, 0], 1, 1⟩) := Lib.hid ha
    have Kw4 := Lib.hid (show Kp [] w w4 from Kp.trans_two Kw3.out hk (by omega) (by omega))
    clear ha hk
    clear HA3 Kw3
    go_wp2_with fail
    refine (touched_any _ _ _ _ HA4.out).mono ?_
    rintro e w5 ⟨rfl, rfl⟩
    go_wp2_with fail
    refine (hS.out _ _ _ HA4.out).mono ?_
    rintro e w6 ⟨rfl, ha, hk⟩
    have HA6 := Lib.hid ha
    have Kw6 := Lib.hid (show Kp [] w w6 from Kp.trans_two Kw4.out hk (by omega) (by omega))
    clear ha hk
    clear HA4 Kw4
    go_wp2_with fail
    refine (touched_any _ _ _ _ HA6.out).mono ?_
    rintro e w7 ⟨rfl, rfl⟩
    go_wp2_with fail
    refine (hR.out _).mono ?_
    rintro e w8 ⟨rfl, hk⟩
    have HA8 := Lib.hid (HA6.out.keep hk (by simp) (by simp))
    have Kw8 := Lib.hid (Kw6.out.trans hk)
    clear hk
    clear HA6 Kw6
    go_wp2_with fail
    refine (rd_lit _ _ _ _ _ _ x _ _ 1 (by simp) (by simp) HA8.out).mono ?_
    rintro e w10 ⟨rfl, ha, hk⟩
    have HA10 := Lib.hid ha
    have Kw10 := Lib.hid (show Kp [] w w10 from Kp.trans_two Kw8.out hk (by omega) (by omega))
    clear ha hk
    clear HA8 Kw8
    go_wp2_with fail
    refine (rd_lit _ _ _ _ _ _ 0 _ _ 0 (by simp) (by simp) HA10.out).mono ?_
    rintro e w11 ⟨rfl, ha, hk⟩
    have HA11 := Lib.hid ha
    have Kw11 := Lib.hid (show Kp [] w w11 from Kp.trans_two Kw10.out hk (by omega) (by omega))
    clear ha hk
    clear HA10 Kw10
    go_wp2_with fail
    refine (rd_lit _ _ _ _ _ _ 0 _ _ 2 (by simp) (by simp) HA11.out).mono ?_
    rintro e w12 ⟨rfl, ha, hk⟩
    have HA12 := Lib.hid ha
    have Kw12 := Lib.hid (show Kp [] w w12 from Kp.trans_two Kw11.out hk (by omega) (by omega))
    clear ha hk
    clear HA11 Kw11
    go_wp2_with fail
    refine (hB.out _ _ _ _ _ (by simp) HA12.out).mono ?_
    rintro e w13 ⟨rfl, ⟨t', l', ht', ha⟩, hk⟩
    have HA13 := Lib.hid ha
    have HT' : Hid (t' ≤ 4000) := Lib.hid (by omega)
    have Kw13 := Lib.hid (show Kp [] w w13 from Kp.trans_two Kw12.out hk (by omega) (by omega))
    clear ha hk ht' HA12 Kw12
    go_wp2_with fail
    refine (rd_lit _ _ _ _ _ _ x _ _ 1 (by simp) HT'.out HA13.out).mono ?_
    rintro e w15 ⟨rfl, ha, hk⟩
    have HA15 := Lib.hid ha
    have Kw15 := Lib.hid (show Kp [] w w15 from Kp.trans_two Kw13.out hk (by omega) (by omega))
    clear ha hk
    clear HA13 Kw13
    go_wp2_with fail
    refine (swakes_any _).mono ?_
    rintro e w16 ⟨rfl, hk⟩
    have Kw16 := Lib.hid (Kw15.out.trans hk)
    clear hk
    clear HA15 Kw15
    go_wp2
    go_ret
    exact ⟨rfl, Kw16.out⟩

set_option maxHeartbeats 2000000 in
theorem tells_at (x c t want : Int) (n l : Nat) (b : Bool) (w : World) (h0 : 0 ≤ x) (h1 : x < 18446744073709551616) (hw0 : 0 ≤ want) (hw1 : want < 18446744073709551616) (hT : tellI x c = t)
    (hw : 1 < c ∧ n = 1 ∨ c ≤ 1 ∧ t = 1 ∧ n = 3 ∨ c ≤ 1 ∧ (t == 1) = false ∧ n = 2)
    (hS : Hid (∀ w p r, Ar w p r ⟨[0, x, 0], 1, 1⟩ → Calls Try.prog 10 #[.iface 24 (.pointer (some ⟨p, 0, none⟩)), .int .i64 1, .int .u8 c] w fun e w' => e = .returned (.bool b) ∧ Ar w' p r ⟨[0, want, 0], n, l⟩ ∧ Kp [p, r] w w'))
    (hR : Hid (∀ w, Calls Try.prog 11 #[.int .u64 x, .int .u8 c] w fun e w' => e = .returned (.tuple #[.int .u64 want, .bool b]) ∧ Kp [] w w')) :
    Calls Try.prog 3 #[.int .u64 x, .int .u8 c, .int .i64 1] w fun e w' => e = .returned (.bool true) ∧ Kp [] w w' := by
  have HT := Lib.hid hT
  have HX := Lib.hid h1
  have HW0 := Lib.hid hw0
  have HW1 := Lib.hid hw1
  clear hw0 hw1
  clear h1 hT
  have hnew : ∀ w, Calls Try.prog 7 #[.int .i64 3] w _ := fun w => new_good w 3 (by omega) (by omega)
  rcases hw with ⟨q1, rfl⟩ | ⟨q1, rfl, rfl⟩ | ⟨q1, q2, rfl⟩
  · go_enter Try.func3, Try.ntmps3
    go_wp2_with fail
    refine (tell_is x c _ _ h0 HX.out HT.out).mono ?_
    rintro e w1 ⟨rfl, hk⟩
    have Kw1 := Lib.hid hk
    clear hk
    go_wp2_with fail
    refine (rtell_is x c _ _ h0 HX.out HT.out).mono ?_
    rintro e w2 ⟨rfl, hk⟩
    have Kw2 := Lib.hid (Kw1.out.trans hk)
    clear hk
    have hz := Kw2.out.size
    go_wp2_with fail
    refine (hnew _).mono ?_
    rintro e w3 ⟨rfl, ha, hk⟩
    have HA3 := Lib.hid ha
    have Kw3 := Lib.hid (Kw2.out.trans hk)
    clear ha hk Kw1 Kw2
    go_wp2_with fail
    refine (write_any _ _ _ _ 1 x HA3.out (by decide) (by decide)).mono ?_
    rintro e w4 ⟨rfl, ha, hk⟩
    have HA4 : Hid (Ar w4 (w2.heap.size + 1) w2.heap.size ⟨[0, x, 0], 1, 1⟩) := Lib.hid ha
    have Kw4 := Lib.hid (show Kp [] w w4 from Kp.trans_two Kw3.out hk (by omega) (by omega))
    clear ha hk
    clear HA3 Kw3
    go_wp2_with fail
    refine (touched_any _ _ _ _ HA4.out).mono ?_
    rintro e w5 ⟨rfl, rfl⟩
    go_wp2_with fail
    refine (hS.out _ _ _ HA4.out).mono ?_
    rintro e w6 ⟨rfl, ha, hk⟩
    have HA6 := Lib.hid ha
    have Kw6 := Lib.hid (show Kp [] w w6 from Kp.trans_two Kw4.out hk (by omega) (by omega))
    clear ha hk
    clear HA4 Kw4
    go_wp2_with fail
    refine (touched_any _ _ _ _ HA6.out).mono ?_
    rintro e w7 ⟨rfl, rfl⟩
    go_wp2_with fail
    refine (hR.out _).mono ?_
    rintro e w8 ⟨rfl, hk⟩
    have HA8 := Lib.hid (HA6.out.keep hk (by simp) (by simp))
    have Kw8 := Lib.hid (Kw6.out.trans hk)
    clear hk
    clear HA6 Kw6
    go_wp2_with fail
    refine (rd_lit _ _ _ _ _ _ want _ _ 1 (by simp) (by simp) HA8.out).mono ?_
    rintro e w10 ⟨rfl, ha, hk⟩
    have HA10 := Lib.hid ha
    have Kw10 := Lib.hid (show Kp [] w w10 from Kp.trans_two Kw8.out hk (by omega) (by omega))
    clear ha hk
    clear HA8 Kw8
    go_wp2_with fail
    refine (rd_lit _ _ _ _ _ _ 0 _ _ 0 (by simp) (by simp) HA10.out).mono ?_
    rintro e w11 ⟨rfl, ha, hk⟩
    have HA11 := Lib.hid ha
    have Kw11 := Lib.hid (show Kp [] w w11 from Kp.trans_two Kw10.out hk (by omega) (by omega))
    clear ha hk
    clear HA10 Kw10
    go_wp2_with fail
    refine (rd_lit _ _ _ _ _ _ 0 _ _ 2 (by simp) (by simp) HA11.out).mono ?_
    rintro e w12 ⟨rfl, ha, hk⟩
    have HA12 := Lib.hid ha
    have Kw12 := Lib.hid (show Kp [] w w12 from Kp.trans_two Kw11.out hk (by omega) (by omega))
    clear ha hk
    clear HA11 Kw11
    go_wp2_with fail
    refine (black_any _ _ _ _ 1 HA12.out (by simp) (by simp) HW0.out HW1.out).mono ?_
    rintro e w13 ⟨rfl, ha, hk⟩
    have HA13 : Hid (Ar w13 (w2.heap.size + 1) w2.heap.size ⟨[0, blackI want, 0], _, 1⟩) := Lib.hid ha
    have Kw13 := Lib.hid (show Kp [] w w13 from Kp.trans_two Kw12.out hk (by omega) (by omega))
    clear ha hk
    clear HA12 Kw12
    go_wp2_with fail
    refine (blackened_is want _ HW0.out HW1.out).mono ?_
    rintro e w14 ⟨rfl, hk⟩
    have HA14 := Lib.hid (HA13.out.keep hk (by simp) (by simp))
    have Kw14 := Lib.hid (Kw13.out.trans hk)
    clear hk
    clear HA13 Kw13
    go_wp2_with fail
    refine (rd_lit _ _ _ _ _ _ (blackI want) _ _ 1 (by simp) (by simp) HA14.out).mono ?_
    rintro e w15 ⟨rfl, ha, hk⟩
    have HA15 := Lib.hid ha
    have Kw15 := Lib.hid (show Kp [] w w15 from Kp.trans_two Kw14.out hk (by omega) (by omega))
    clear ha hk
    clear HA14 Kw14
    go_wp2_with fail
    refine (swakes_any _).mono ?_
    rintro e w16 ⟨rfl, hk⟩
    have Kw16 := Lib.hid (Kw15.out.trans hk)
    clear hk
    clear HA15 Kw15
    go_wp2
    go_ret
    exact ⟨rfl, Kw16.out⟩
  · go_enter Try.func3, Try.ntmps3
    go_wp2_with fail
    refine (tell_is x c _ _ h0 HX.out HT.out).mono ?_
    rintro e w1 ⟨rfl, hk⟩
    have Kw1 := Lib.hid hk
    clear hk
    go_wp2_with fail
    refine (rtell_is x c _ _ h0 HX.out HT.out).mono ?_
    rintro e w2 ⟨rfl, hk⟩
    have Kw2 := Lib.hid (Kw1.out.trans hk)
    clear hk
    have hz := Kw2.out.size
    go_wp2_with fail
    refine (hnew _).mono ?_
    rintro e w3 ⟨rfl, ha, hk⟩
    have HA3 := Lib.hid ha
    have Kw3 := Lib.hid (Kw2.out.trans hk)
    clear ha hk Kw1 Kw2
    go_wp2_with fail
    refine (write_any _ _ _ _ 1 x HA3.out (by decide) (by decide)).mono ?_
    rintro e w4 ⟨rfl, ha, hk⟩
    have HA4 : Hid (Ar w4 (w2.heap.size + 1) w2.heap.size ⟨[0, x, 0], 1, 1⟩) := Lib.hid ha
    have Kw4 := Lib.hid (show Kp [] w w4 from Kp.trans_two Kw3.out hk (by omega) (by omega))
    clear ha hk
    clear HA3 Kw3
    go_wp2_with fail
    refine (touched_any _ _ _ _ HA4.out).mono ?_
    rintro e w5 ⟨rfl, rfl⟩
    go_wp2_with fail
    refine (hS.out _ _ _ HA4.out).mono ?_
    rintro e w6 ⟨rfl, ha, hk⟩
    have HA6 := Lib.hid ha
    have Kw6 := Lib.hid (show Kp [] w w6 from Kp.trans_two Kw4.out hk (by omega) (by omega))
    clear ha hk
    clear HA4 Kw4
    go_wp2_with fail
    refine (touched_any _ _ _ _ HA6.out).mono ?_
    rintro e w7 ⟨rfl, rfl⟩
    go_wp2_with fail
    refine (hR.out _).mono ?_
    rintro e w8 ⟨rfl, hk⟩
    have HA8 := Lib.hid (HA6.out.keep hk (by simp) (by simp))
    have Kw8 := Lib.hid (Kw6.out.trans hk)
    clear hk
    clear HA6 Kw6
    go_wp2_with fail
    refine (rtell_is x c _ _ h0 HX.out HT.out).mono ?_
    rintro e w9 ⟨rfl, hk⟩
    have HA9 := Lib.hid (HA8.out.keep hk (by simp) (by simp))
    have Kw9 := Lib.hid (Kw8.out.trans hk)
    clear hk
    clear HA8 Kw8
    go_wp2_with fail
    refine (rd_lit _ _ _ _ _ _ want _ _ 1 (by simp) (by simp) HA9.out).mono ?_
    rintro e w10 ⟨rfl, ha, hk⟩
    have HA10 := Lib.hid ha
    have Kw10 := Lib.hid (show Kp [] w w10 from Kp.trans_two Kw9.out hk (by omega) (by omega))
    clear ha hk
    clear HA9 Kw9
    go_wp2_with fail
    refine (rd_lit _ _ _ _ _ _ 0 _ _ 0 (by simp) (by simp) HA10.out).mono ?_
    rintro e w11 ⟨rfl, ha, hk⟩
    have HA11 := Lib.hid ha
    have Kw11 := Lib.hid (show Kp [] w w11 from Kp.trans_two Kw10.out hk (by omega) (by omega))
    clear ha hk
    clear HA10 Kw10
    go_wp2_with fail
    refine (rd_lit _ _ _ _ _ _ 0 _ _ 2 (by simp) (by simp) HA11.out).mono ?_
    rintro e w12 ⟨rfl, ha, hk⟩
    have HA12 := Lib.hid ha
    have Kw12 := Lib.hid (show Kp [] w w12 from Kp.trans_two Kw11.out hk (by omega) (by omega))
    clear ha hk
    clear HA11 Kw11
    go_wp2_with fail
    refine (black_any _ _ _ _ 1 HA12.out (by simp) (by simp) HW0.out HW1.out).mono ?_
    rintro e w13 ⟨rfl, ha, hk⟩
    have HA13 : Hid (Ar w13 (w2.heap.size + 1) w2.heap.size ⟨[0, blackI want, 0], _, 1⟩) := Lib.hid ha
    have Kw13 := Lib.hid (show Kp [] w w13 from Kp.trans_two Kw12.out hk (by omega) (by omega))
    clear ha hk
    clear HA12 Kw12
    go_wp2_with fail
    refine (blackened_is want _ HW0.out HW1.out).mono ?_
    rintro e w14 ⟨rfl, hk⟩
    have HA14 := Lib.hid (HA13.out.keep hk (by simp) (by simp))
    have Kw14 := Lib.hid (Kw13.out.trans hk)
    clear hk
    clear HA13 Kw13
    go_wp2_with fail
    refine (rd_lit _ _ _ _ _ _ (blackI want) _ _ 1 (by simp) (by simp) HA14.out).mono ?_
    rintro e w15 ⟨rfl, ha, hk⟩
    have HA15 := Lib.hid ha
    have Kw15 := Lib.hid (show Kp [] w w15 from Kp.trans_two Kw14.out hk (by omega) (by omega))
    clear ha hk
    clear HA14 Kw14
    go_wp2_with fail
    refine (swakes_any _).mono ?_
    rintro e w16 ⟨rfl, hk⟩
    have Kw16 := Lib.hid (Kw15.out.trans hk)
    clear hk
    clear HA15 Kw15
    go_wp2
    go_ret
    exact ⟨rfl, Kw16.out⟩
  · go_enter Try.func3, Try.ntmps3
    go_wp2_with fail
    refine (tell_is x c _ _ h0 HX.out HT.out).mono ?_
    rintro e w1 ⟨rfl, hk⟩
    have Kw1 := Lib.hid hk
    clear hk
    go_wp2_with fail
    refine (rtell_is x c _ _ h0 HX.out HT.out).mono ?_
    rintro e w2 ⟨rfl, hk⟩
    have Kw2 := Lib.hid (Kw1.out.trans hk)
    clear hk
    have hz := Kw2.out.size
    go_wp2_with fail
    refine (hnew _).mono ?_
    rintro e w3 ⟨rfl, ha, hk⟩
    have HA3 := Lib.hid ha
    have Kw3 := Lib.hid (Kw2.out.trans hk)
    clear ha hk Kw1 Kw2
    go_wp2_with fail
    refine (write_any _ _ _ _ 1 x HA3.out (by decide) (by decide)).mono ?_
    rintro e w4 ⟨rfl, ha, hk⟩
    have HA4 : Hid (Ar w4 (w2.heap.size + 1) w2.heap.size ⟨[0, x, 0], 1, 1⟩) := Lib.hid ha
    have Kw4 := Lib.hid (show Kp [] w w4 from Kp.trans_two Kw3.out hk (by omega) (by omega))
    clear ha hk
    clear HA3 Kw3
    go_wp2_with fail
    refine (touched_any _ _ _ _ HA4.out).mono ?_
    rintro e w5 ⟨rfl, rfl⟩
    go_wp2_with fail
    refine (hS.out _ _ _ HA4.out).mono ?_
    rintro e w6 ⟨rfl, ha, hk⟩
    have HA6 := Lib.hid ha
    have Kw6 := Lib.hid (show Kp [] w w6 from Kp.trans_two Kw4.out hk (by omega) (by omega))
    clear ha hk
    clear HA4 Kw4
    go_wp2_with fail
    refine (touched_any _ _ _ _ HA6.out).mono ?_
    rintro e w7 ⟨rfl, rfl⟩
    go_wp2_with fail
    refine (hR.out _).mono ?_
    rintro e w8 ⟨rfl, hk⟩
    have HA8 := Lib.hid (HA6.out.keep hk (by simp) (by simp))
    have Kw8 := Lib.hid (Kw6.out.trans hk)
    clear hk
    clear HA6 Kw6
    go_wp2_with fail
    refine (rtell_is x c _ _ h0 HX.out HT.out).mono ?_
    rintro e w9 ⟨rfl, hk⟩
    have HA9 := Lib.hid (HA8.out.keep hk (by simp) (by simp))
    have Kw9 := Lib.hid (Kw8.out.trans hk)
    clear hk
    clear HA8 Kw8
    go_wp2_with fail
    refine (rd_lit _ _ _ _ _ _ want _ _ 1 (by simp) (by simp) HA9.out).mono ?_
    rintro e w10 ⟨rfl, ha, hk⟩
    have HA10 := Lib.hid ha
    have Kw10 := Lib.hid (show Kp [] w w10 from Kp.trans_two Kw9.out hk (by omega) (by omega))
    clear ha hk
    clear HA9 Kw9
    go_wp2_with fail
    refine (rd_lit _ _ _ _ _ _ 0 _ _ 0 (by simp) (by simp) HA10.out).mono ?_
    rintro e w11 ⟨rfl, ha, hk⟩
    have HA11 := Lib.hid ha
    have Kw11 := Lib.hid (show Kp [] w w11 from Kp.trans_two Kw10.out hk (by omega) (by omega))
    clear ha hk
    clear HA10 Kw10
    go_wp2_with fail
    refine (rd_lit _ _ _ _ _ _ 0 _ _ 2 (by simp) (by simp) HA11.out).mono ?_
    rintro e w12 ⟨rfl, ha, hk⟩
    have HA12 := Lib.hid ha
    have Kw12 := Lib.hid (show Kp [] w w12 from Kp.trans_two Kw11.out hk (by omega) (by omega))
    clear ha hk
    clear HA11 Kw11
    go_wp2_with fail
    refine (black_any _ _ _ _ 1 HA12.out (by simp) (by simp) HW0.out HW1.out).mono ?_
    rintro e w13 ⟨rfl, ha, hk⟩
    have HA13 : Hid (Ar w13 (w2.heap.size + 1) w2.heap.size ⟨[0, blackI want, 0], _, 1⟩) := Lib.hid ha
    have Kw13 := Lib.hid (show Kp [] w w13 from Kp.trans_two Kw12.out hk (by omega) (by omega))
    clear ha hk
    clear HA12 Kw12
    go_wp2_with fail
    refine (blackened_is want _ HW0.out HW1.out).mono ?_
    rintro e w14 ⟨rfl, hk⟩
    have HA14 := Lib.hid (HA13.out.keep hk (by simp) (by simp))
    have Kw14 := Lib.hid (Kw13.out.trans hk)
    clear hk
    clear HA13 Kw13
    go_wp2_with fail
    refine (rd_lit _ _ _ _ _ _ (blackI want) _ _ 1 (by simp) (by simp) HA14.out).mono ?_
    rintro e w15 ⟨rfl, ha, hk⟩
    have HA15 := Lib.hid ha
    have Kw15 := Lib.hid (show Kp [] w w15 from Kp.trans_two Kw14.out hk (by omega) (by omega))
    clear ha hk
    clear HA14 Kw14
    go_wp2_with fail
    refine (swakes_any _).mono ?_
    rintro e w16 ⟨rfl, hk⟩
    have Kw16 := Lib.hid (Kw15.out.trans hk)
    clear hk
    clear HA15 Kw15
    go_wp2
    go_ret
    exact ⟨rfl, Kw16.out⟩

theorem blackI_zero : blackI 0 = 0 := by decide
theorem tell_zero (c : Int) : tellI 0 c = 0 := tell_none (.inl (by decide))

theorem stells_any (w : World) (x c k : Int) (h0 : 0 ≤ x) (h1 : x < 18446744073709551616) (hc0 : 0 ≤ c) :
    Calls Try.prog 3 #[.int .u64 x, .int .u8 c, .int .i64 k] w fun e w' => e = .returned (.bool true) ∧ Kp [] w w' := by
  by_cases hk : k = 1
  · subst hk
    by_cases hc : c ≤ 1
    · by_cases ht : tellI x c = 1
      · obtain ⟨hg, _⟩ := tell_pos (x := x) (c := c) (by omega)
        have hb := dyed_bounds (g := true) hg hc0 hc
        have hsh : shadeI x c = dyed x c true := by rw [shadeI, if_pos ht]
        exact tells_at x c 1 (shadeI x c) 3 1 true w h0 h1 (by rw [hsh]; omega) (by rw [hsh]; omega) ht (.inr (.inl ⟨hc, rfl, rfl⟩))
          (Lib.hid fun w p r ha => shade_one w p r _ 1 c x ha (by simp) (by simp) hc0 hc rfl h0 h1 ht) (Lib.hid fun w => shaded_one x c w h0 h1 hc0 ht)
      · have ht1 : (tellI x c == 1) = false := by simpa using ht
        exact tells_at x c (tellI x c) x 2 1 (tellI x c == 2) w h0 h1 h0 h1 rfl (.inr (.inr ⟨hc, ht1, rfl⟩))
          (Lib.hid fun w p r ha => shade_low w p r _ 1 c x _ _ ha (by simp) (by simp) hc0 hc rfl h0 h1 rfl ht1 rfl) (Lib.hid fun w => shaded_not x c _ _ w h0 h1 rfl ht1 rfl)
    · have ht : tellI x c = 0 := tell_none (.inr (by omega))
      exact tells_at x c 0 x 1 1 false w h0 h1 h0 h1 ht (.inl ⟨by omega, rfl⟩)
        (Lib.hid fun w p r ha => (shade_high w _ 1 c (by omega)).mono fun e w' ⟨he, hk⟩ => ⟨he, ha.keep hk (by simp) (by simp), hk.mono (by simp)⟩) (Lib.hid fun w => shaded_not x c _ _ w h0 h1 ht rfl rfl)
  · have hk1 : (k == 1) = false := by simpa using hk
    have hR : Hid (∀ w, Calls Try.prog 11 #[.int .u64 0, .int .u8 c] w fun e w' => e = .returned (.tuple #[.int .u64 0, .bool false]) ∧ Kp [] w w') :=
      Lib.hid fun w => shaded_not 0 c 0 false w (by omega) (by omega) (tell_zero c) rfl rfl
    have hwas : ∀ t l, was ⟨[0, x, 0], t, l⟩ k = 0 := by
      intro t l
      by_cases hin : inB ⟨[0, x, 0], t, l⟩ k = true
      · rw [was_in hin]
        have := inB_iff.1 hin
        simp at this
        have hk : k = 0 ∨ k = 2 := by omega
        rcases hk with rfl | rfl <;> rfl
      · exact was_out (by simpa using hin)
    have hupd : ∀ t l, ∃ t' l', t' ≤ t + 1 ∧ upd ⟨[0, x, 0], t, l⟩ k 0 = ⟨[0, x, 0], t', l'⟩ := by
      intro t l
      by_cases hin : inB ⟨[0, x, 0], t, l⟩ k = true
      · rw [upd_in hin]
        have := inB_iff.1 hin
        simp at this
        have hk : k = 0 ∨ k = 2 := by omega
        rcases hk with rfl | rfl <;> exact ⟨_, _, Nat.le_refl _, rfl⟩
      · exact ⟨t, l, by omega, upd_out (by simpa using hin)⟩
    have hB : Hid (∀ w p r t l, t ≤ 4000 → Ar w p r ⟨[0, x, 0], t, l⟩ → Calls Try.prog 13 #[.iface 24 (.pointer (some ⟨p, 0, none⟩)), .int .i64 k] w fun e w' => e = .returned (.tuple #[]) ∧ (∃ t' l', t' ≤ t + 1 ∧ Ar w' p r ⟨[0, x, 0], t', l'⟩) ∧ Kp [p, r] w w') :=
      Lib.hid fun w p r t l ht ha => by
        refine (black_any w p r _ k ha (by simp) (by simp; omega) (by rw [hwas]; omega) (by rw [hwas]; omega)).mono ?_
        rintro e w' ⟨he, ha', hk'⟩
        rw [hwas, blackI_zero] at ha'
        obtain ⟨t', l', h2, h3⟩ := hupd t l
        rw [h3] at ha'
        exact ⟨he, ⟨t', l', h2, ha'⟩, hk'⟩
    by_cases hc : c ≤ 1
    · have hlow : ∀ w p r, Ar w p r ⟨[0, x, 0], 1, 1⟩ → Calls Try.prog 10 #[.iface 24 (.pointer (some ⟨p, 0, none⟩)), .int .i64 k, .int .u8 c] w fun e w' => e = .returned (.bool false) ∧ Ar w' p r (upd ⟨[0, x, 0], 1, 1⟩ k 0) ∧ Kp [p, r] w w' := fun w p r ha =>
        shade_low w p r _ k c 0 0 false ha (by simp) (by simp) hc0 hc (hwas 1 1) (by omega) (by omega) (tell_zero c) rfl rfl
      by_cases hin : inB ⟨[0, x, 0], 1, 1⟩ k = true
      · have hin' := inB_iff.1 hin
        simp at hin'
        have hu : upd ⟨[0, x, 0], 1, 1⟩ k 0 = ⟨[0, x, 0], 2, k⟩ := by
          rw [upd_in hin]
          have hk : k = 0 ∨ k = 2 := by omega
          rcases hk with rfl | rfl <;> rfl
        rw [hu] at hlow
        exact tells_off x c k _ 2 k w h0 h1 rfl hk1 (.inr (.inl ⟨hc, by omega, by omega, rfl⟩)) (Lib.hid hlow) hB hR
      · rw [upd_out (by simpa using hin)] at hlow
        have hout : k < 0 ∨ 3 ≤ k := by
          have h3 : ¬ (0 ≤ k ∧ k < 3) := fun h => hin (inB_iff.2 (by simpa using h))
          omega
        rcases hout with ho | ho
        · exact tells_off x c k _ 1 1 w h0 h1 rfl hk1 (.inr (.inr (.inl ⟨hc, ho, rfl⟩))) (Lib.hid hlow) hB hR
        · exact tells_off x c k _ 1 1 w h0 h1 rfl hk1 (.inr (.inr (.inr ⟨hc, ho, rfl⟩))) (Lib.hid hlow) hB hR
    · exact tells_off x c k _ 1 1 w h0 h1 rfl hk1 (.inl ⟨by omega, rfl⟩)
        (Lib.hid fun w p r ha => (shade_high w _ k c (by omega)).mono fun e w' ⟨he, hk⟩ => ⟨he, ha.keep hk (by simp) (by simp), hk.mono (by simp)⟩) hB hR

end Go.Proofs.Ytjdihjndcpkndaa
