/- 'wakes' of layer 2, and the law ArenaNil's walk: both return true; below the heap's old size nothing turns. Conditions: none. -/
import Derived.Test.YtpcoclbokpffaaaArnB
import Derived.Lib.Hide
namespace Go.Proofs.Ytpcoclbokpffaaa
set_option linter.unusedVariables false
set_option linter.unusedSimpArgs false
open Go.RowKit

theorem f20 (x : Int) (w : World) (h0 : 0 ≤ x) (h : x < 1000) : Calls Try.prog 20 #[.int .u64 x] w fun e w2 => e = .returned (.int .u64 (x + 1)) ∧ w2 = w := by
  go_enter Try.func20, Try.ntmps20
  go_wp2
  go_ret
  exact ⟨rfl, rfl⟩

theorem wakes_any (w : World) : Calls Try.prog 6 #[] w fun e w' => e = .returned (.bool true) ∧ Below w.heap.size w w' := by
  have hnew : Calls Try.prog 7 #[.int .i64 2] w _ := new_good w 2 (by omega) (by omega)
  go_enter Try.func6, Try.ntmps6
  go_wp2_with fail
  refine hnew.mono ?_
  rintro e w1 ⟨rfl, ha1, hk1⟩
  have hb1 := Lib.hid hk1.to_below
  clear hk1
  go_wp2_with fail
  refine (write_any w1 _ _ _ 1 7 ha1 (by decide) (by decide)).mono ?_
  rintro e w2 ⟨rfl, ha2, hk2⟩
  have hb2 := Lib.hid (hb1.out.trans (hk2.below hb1.out.size (by simp)))
  clear hk2 hb1 ha1
  go_wp2_with fail
  refine (upd_pure w2 _ _ _ 1 20 #[] 8 ha2 (by decide) (by decide) (fun _ _ => rfl) (fun _ w' _ => f20 7 w' (by omega) (by omega))).mono ?_
  rintro e w3 ⟨rfl, ha3, hk3⟩
  have hb3 := Lib.hid (hb2.out.trans (hk3.below hb2.out.size (by simp)))
  clear hk3 hb2 ha2
  rw [show was (upd (fresh 2) 1 7) 1 = 7 from rfl]
  go_wp2_with fail
  refine (read_any w3 _ _ _ 1 ha3 (by decide) (by decide)).mono ?_
  rintro e w4 ⟨rfl, ha4, hk4⟩
  have hb4 := Lib.hid (hb3.out.trans (hk4.below hb3.out.size (by simp)))
  clear hk4 hb3 ha3
  rw [show was (upd (upd (fresh 2) 1 7) 1 8) 1 = 8 from rfl]
  go_wp2_with fail
  refine (read_any w4 _ _ _ 2 ha4 (by decide) (by decide)).mono ?_
  rintro e w5 ⟨rfl, ha5, hk5⟩
  have hb5 := Lib.hid (hb4.out.trans (hk5.below hb4.out.size (by simp)))
  clear hk5 hb4 ha4
  have e5 : upd (upd (upd (upd (fresh 2) 1 7) 1 8) 1 (was (upd (upd (fresh 2) 1 7) 1 8) 1)) 2 (was (upd (upd (upd (fresh 2) 1 7) 1 8) 1 (was (upd (upd (fresh 2) 1 7) 1 8) 1)) 2) = ⟨[0, 8], 3, 1⟩ := rfl
  rw [e5] at ha5
  rw [show was (upd (upd (upd (fresh 2) 1 7) 1 8) 1 (was (upd (upd (fresh 2) 1 7) 1 8) 1)) 2 = 0 from rfl]
  go_wp2_with fail
  refine (touched_any _ _ _ _ ha5).mono ?_
  rintro e w6 ⟨rfl, rfl⟩
  go_wp2_with fail
  refine (last_any _ _ _ _ ha5).mono ?_
  rintro e w6 ⟨rfl, rfl⟩
  rw [show lastOf ⟨[0, 8], 3, 1⟩ = 1 from rfl]
  go_wp2_with fail
  refine (len_any _ _ _ _ ha5 (by decide)).mono ?_
  rintro e w6 ⟨rfl, rfl⟩
  go_wp2
  go_ret
  exact ⟨rfl, hb5.out⟩

/-- ArenaNil, walked. -/
theorem nil_any (w : World) (k v : Int) : Calls Try.prog 4 #[.int .i64 k, .int .u64 v] w fun e w' => e = .returned (.bool true) ∧ Below w.heap.size w w' := by
  go_enter Try.func4, Try.ntmps4
  go_wp2_with fail
  refine (write_nil _ _ _).mono ?_
  rintro e w1 ⟨rfl, hk1⟩
  have hb1 := Lib.hid hk1.to_below
  clear hk1
  go_wp2_with (first
    | (go_at_call 12; refine (upd_nil _ _ _).mono ?_; rintro e w2 ⟨rfl, rfl⟩)
    | (go_at_call 10; refine (read_nil _ _).mono ?_; rintro e w2 ⟨rfl, rfl⟩)
    | (go_at_call 17; refine (len_nil _).mono ?_; rintro e w2 ⟨rfl, rfl⟩)
    | (go_at_call 14; refine (touched_nil _).mono ?_; rintro e w2 ⟨rfl, rfl⟩)
    | (go_at_call 15; refine (last_nil _).mono ?_; rintro e w2 ⟨rfl, rfl⟩)
    | (go_at_call 16; refine (all_nil _).mono ?_; rintro e w2 ⟨rfl, rfl⟩))
  refine (wakes_any _).mono ?_
  rintro e w3 ⟨rfl, hb2⟩
  have hb3 := Lib.hid (hb1.out.trans (hb2.mono hb1.out.size))
  clear hb1 hb2
  go_wp2
  go_ret
  exact ⟨rfl, hb3.out⟩

end Go.Proofs.Ytpcoclbokpffaaa
