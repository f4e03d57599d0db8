/- The law GraphNil's walk. Conditions: as each theorem states them. -/
import Derived.Test.YtmbhhadghiojeaaGdN
import Derived.Test.YtmbhhadghiojeaaGdW
namespace Go.Proofs.Ytmbhhadghiojeaa
set_option linter.unusedVariables false
set_option linter.unusedSimpArgs false
open Go.RowKit

set_option maxRecDepth 100000 in
theorem nothing_nil (w : World) : Calls Try.prog 7 #[.pointer none] w fun e w' => e = .returned (.bool true) ∧ Kp [] w w' := by
  have c1 := object_nil w 1
  go_enter Try.func7, Try.ntmps7
  go_wp2_with fail
  refine c1.mono ?_
  rintro e w1 ⟨rfl, hk1⟩
  have H1 := Lib.hid hk1
  clear c1 hk1
  have c2 := own_nil w1 0
  go_wp2_with fail
  refine c2.mono ?_
  rintro e w2 ⟨rfl, hk2⟩
  have H2 := Lib.hid (H1.out.trans hk2)
  clear c2 hk2 H1
  have c3 := globals_nil w2
  have c4 := clone_nil w2
  go_wp2_with (first
    | ((with_reducible refine c3.mono ?_); rintro e w3 ⟨rfl, rfl⟩)
    | ((with_reducible refine c4.mono ?_); rintro e w3 ⟨rfl, rfl⟩))
  go_ret
  exact ⟨rfl, H2.out⟩

set_option maxRecDepth 100000 in
theorem nil_any (w : World) (d t a b c v : Int) (hd : 0 ≤ d) : Calls Try.prog 3 #[.agg #[.int .u8 d, .int .i64 t, .int .i64 a, .int .i64 b, .int .i64 c, .int .u64 v]] w fun e w' => e = .returned (.bool true) ∧ Kp [] w w' := by
  have ka : Kp [] w (w.alloc (.cells #[.int .u8 d, .int .i64 t, .int .i64 a, .int .i64 b, .int .i64 c, .int .u64 v] 24)) := (Kp.refl _ _).alloc _
  have c1 : Calls Try.prog 5 #[.pointer none, .agg #[.int .u8 d, .int .i64 t, .int .i64 a, .int .i64 b, .int .i64 c, .int .u64 v]] (w.alloc (.cells #[.int .u8 d, .int .i64 t, .int .i64 a, .int .i64 b, .int .i64 c, .int .u64 v] 24)) fun e w' => e = .returned (.tuple #[.int .u64 0, .int .i64 1]) ∧ Kp [] _ w' := does_nil _ ⟨d, t, a, b, c, v⟩ hd
  have KA := Lib.hid ka
  clear ka hd
  go_enter Try.func3, Try.ntmps3
  go_wp2_with fail
  refine c1.mono ?_
  rintro e w1 ⟨rfl, hk1⟩
  have H1 := Lib.hid (KA.out.trans hk1)
  clear c1 hk1 KA
  have c2 := reach_nil w1
  have c3 := nothing_nil w1
  go_wp2_with ((with_reducible refine c2.mono ?_); rintro e w3 ⟨rfl, rfl⟩)
  refine c3.mono ?_
  rintro e w2 ⟨rfl, hk2⟩
  have H2 := Lib.hid (H1.out.trans hk2)
  clear c2 c3 hk2 H1
  have c4 := wakes_any w2
  go_wp2_with fail
  refine c4.mono ?_
  rintro e w3 ⟨rfl, hk3⟩
  have H3 := Lib.hid (H2.out.trans hk3)
  clear c4 hk3 H2
  go_wp2_with fail
  go_ret
  exact ⟨rfl, H3.out⟩

end Go.Proofs.Ytmbhhadghiojeaa
