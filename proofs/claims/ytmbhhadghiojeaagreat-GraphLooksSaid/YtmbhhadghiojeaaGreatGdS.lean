/- Says, the law's switch over a graph's methods, whatever they answer. Conditions: as each theorem states them. -/
import Derived.Test.YtmbhhadghiojeaaGreatGrT
namespace Go.Proofs.YtmbhhadghiojeaaGreat
set_option linter.unusedVariables false
set_option linter.unusedSimpArgs false
open Go.RowKit

set_option maxRecDepth 100000 in
theorem says_0 (w : World) (gv : Value) (d t a b c v x y : Int) (Q : World → Prop) (hd : d = 0) (hx0 : 0 ≤ x) (hx1 : x ≤ 1000000)
    (hc : Calls Tryz.prog 33 #[gv, .int .i64 t, .int .i64 a, .int .i64 b, .int .i64 c] (w.alloc (.cells #[.int .u8 d, .int .i64 t, .int .i64 a, .int .i64 b, .int .i64 c, .int .u64 v] 35)) fun e w' => e = .returned (.tuple #[.int .i64 x, .int .i64 y]) ∧ Q w') :
    Calls Tryz.prog 10 #[gv, .agg #[.int .u8 d, .int .i64 t, .int .i64 a, .int .i64 b, .int .i64 c, .int .u64 v]] w fun e w' => e = .returned (.tuple #[.int .u64 x, .int .i64 y]) ∧ Q w' := by
  subst hd
  have HC := Lib.hid hc
  clear hc
  go_enter Tryz.func10, Tryz.ntmps10
  go_wp2_with fail
  refine HC.out.mono ?_
  rintro e w2 ⟨rfl, hq⟩
  have HQ := Lib.hid hq
  clear hq HC
  go_wp2_with fail
  go_ret2
  exact ⟨rfl, HQ.out⟩

set_option maxRecDepth 100000 in
theorem says_1 (w : World) (gv : Value) (d t a b c v x y : Int) (Q : World → Prop) (hd : d = 1) (hx0 : 0 ≤ x) (hx1 : x ≤ 1000000)
    (hc : Calls Tryz.prog 34 #[gv, .int .i64 t, .int .i64 a, .int .i64 b, .int .i64 c] (w.alloc (.cells #[.int .u8 d, .int .i64 t, .int .i64 a, .int .i64 b, .int .i64 c, .int .u64 v] 35)) fun e w' => e = .returned (.tuple #[.int .i64 x, .int .i64 y]) ∧ Q w') :
    Calls Tryz.prog 10 #[gv, .agg #[.int .u8 d, .int .i64 t, .int .i64 a, .int .i64 b, .int .i64 c, .int .u64 v]] w fun e w' => e = .returned (.tuple #[.int .u64 x, .int .i64 y]) ∧ Q w' := by
  subst hd
  have HC := Lib.hid hc
  clear hc
  go_enter Tryz.func10, Tryz.ntmps10
  go_wp2_with fail
  refine HC.out.mono ?_
  rintro e w2 ⟨rfl, hq⟩
  have HQ := Lib.hid hq
  clear hq HC
  go_wp2_with fail
  go_ret2
  exact ⟨rfl, HQ.out⟩

set_option maxRecDepth 100000 in
theorem says_2 (w : World) (gv : Value) (d t a b c v y : Int) (Q : World → Prop) (hd : d = 2)
    (hc : Calls Tryz.prog 35 #[gv, .int .i64 t, .int .i64 a, .int .i64 b, .int .i64 c] (w.alloc (.cells #[.int .u8 d, .int .i64 t, .int .i64 a, .int .i64 b, .int .i64 c, .int .u64 v] 35)) fun e w' => e = .returned (.int .i64 y) ∧ Q w') :
    Calls Tryz.prog 10 #[gv, .agg #[.int .u8 d, .int .i64 t, .int .i64 a, .int .i64 b, .int .i64 c, .int .u64 v]] w fun e w' => e = .returned (.tuple #[.int .u64 0, .int .i64 y]) ∧ Q w' := by
  subst hd
  have HC := Lib.hid hc
  clear hc
  go_enter Tryz.func10, Tryz.ntmps10
  go_wp2_with fail
  refine HC.out.mono ?_
  rintro e w2 ⟨rfl, hq⟩
  have HQ := Lib.hid hq
  clear hq HC
  go_wp2_with fail
  go_ret2
  exact ⟨rfl, HQ.out⟩

set_option maxRecDepth 100000 in
theorem says_3 (w : World) (gv : Value) (d t a b c v x y : Int) (Q : World → Prop) (hd : d = 3)
    (hc : Calls Tryz.prog 36 #[gv, .int .i64 t, .int .i64 a, .int .i64 b] (w.alloc (.cells #[.int .u8 d, .int .i64 t, .int .i64 a, .int .i64 b, .int .i64 c, .int .u64 v] 35)) fun e w' => e = .returned (.tuple #[.int .u64 x, .int .i64 y]) ∧ Q w') :
    Calls Tryz.prog 10 #[gv, .agg #[.int .u8 d, .int .i64 t, .int .i64 a, .int .i64 b, .int .i64 c, .int .u64 v]] w fun e w' => e = .returned (.tuple #[.int .u64 x, .int .i64 y]) ∧ Q w' := by
  subst hd
  have HC := Lib.hid hc
  clear hc
  go_enter Tryz.func10, Tryz.ntmps10
  go_wp2_with fail
  refine HC.out.mono ?_
  rintro e w2 ⟨rfl, hq⟩
  have HQ := Lib.hid hq
  clear hq HC
  go_wp2_with fail
  go_ret2
  exact ⟨rfl, HQ.out⟩

set_option maxRecDepth 100000 in
theorem says_4 (w : World) (gv : Value) (d t a b c v y : Int) (Q : World → Prop) (hd : d = 4)
    (hc : Calls Tryz.prog 37 #[gv, .int .i64 t, .int .i64 a, .int .i64 b, .int .u64 v] (w.alloc (.cells #[.int .u8 d, .int .i64 t, .int .i64 a, .int .i64 b, .int .i64 c, .int .u64 v] 35)) fun e w' => e = .returned (.int .i64 y) ∧ Q w') :
    Calls Tryz.prog 10 #[gv, .agg #[.int .u8 d, .int .i64 t, .int .i64 a, .int .i64 b, .int .i64 c, .int .u64 v]] w fun e w' => e = .returned (.tuple #[.int .u64 0, .int .i64 y]) ∧ Q w' := by
  subst hd
  have HC := Lib.hid hc
  clear hc
  go_enter Tryz.func10, Tryz.ntmps10
  go_wp2_with fail
  refine HC.out.mono ?_
  rintro e w2 ⟨rfl, hq⟩
  have HQ := Lib.hid hq
  clear hq HC
  go_wp2_with fail
  go_ret2
  exact ⟨rfl, HQ.out⟩

set_option maxRecDepth 100000 in
theorem says_5 (w : World) (gv : Value) (d t a b c v x y : Int) (Q : World → Prop) (hd : d = 5) (hx0 : 0 ≤ x) (hx1 : x ≤ 1000000)
    (hc : Calls Tryz.prog 38 #[gv, .int .i64 t, .int .i64 a, .int .i64 b] (w.alloc (.cells #[.int .u8 d, .int .i64 t, .int .i64 a, .int .i64 b, .int .i64 c, .int .u64 v] 35)) fun e w' => e = .returned (.tuple #[.int .i64 x, .int .i64 y]) ∧ Q w') :
    Calls Tryz.prog 10 #[gv, .agg #[.int .u8 d, .int .i64 t, .int .i64 a, .int .i64 b, .int .i64 c, .int .u64 v]] w fun e w' => e = .returned (.tuple #[.int .u64 x, .int .i64 y]) ∧ Q w' := by
  subst hd
  have HC := Lib.hid hc
  clear hc
  go_enter Tryz.func10, Tryz.ntmps10
  go_wp2_with fail
  refine HC.out.mono ?_
  rintro e w2 ⟨rfl, hq⟩
  have HQ := Lib.hid hq
  clear hq HC
  go_wp2_with fail
  go_ret2
  exact ⟨rfl, HQ.out⟩

set_option maxRecDepth 100000 in
theorem says_6 (w : World) (gv : Value) (d t a b c v y : Int) (Q : World → Prop) (hd : d = 6)
    (hc : Calls Tryz.prog 39 #[gv, .int .i64 t, .int .i64 a, .int .i64 b] (w.alloc (.cells #[.int .u8 d, .int .i64 t, .int .i64 a, .int .i64 b, .int .i64 c, .int .u64 v] 35)) fun e w' => e = .returned (.int .i64 y) ∧ Q w') :
    Calls Tryz.prog 10 #[gv, .agg #[.int .u8 d, .int .i64 t, .int .i64 a, .int .i64 b, .int .i64 c, .int .u64 v]] w fun e w' => e = .returned (.tuple #[.int .u64 0, .int .i64 y]) ∧ Q w' := by
  subst hd
  have HC := Lib.hid hc
  clear hc
  go_enter Tryz.func10, Tryz.ntmps10
  go_wp2_with fail
  refine HC.out.mono ?_
  rintro e w2 ⟨rfl, hq⟩
  have HQ := Lib.hid hq
  clear hq HC
  go_wp2_with fail
  go_ret2
  exact ⟨rfl, HQ.out⟩

set_option maxRecDepth 100000 in
theorem says_7 (w : World) (gv : Value) (d t a b c v y : Int) (Q : World → Prop) (hd : d = 7)
    (hc : Calls Tryz.prog 40 #[gv, .int .i64 t, .int .i64 a, .int .i64 b] (w.alloc (.cells #[.int .u8 d, .int .i64 t, .int .i64 a, .int .i64 b, .int .i64 c, .int .u64 v] 35)) fun e w' => e = .returned (.int .i64 y) ∧ Q w') :
    Calls Tryz.prog 10 #[gv, .agg #[.int .u8 d, .int .i64 t, .int .i64 a, .int .i64 b, .int .i64 c, .int .u64 v]] w fun e w' => e = .returned (.tuple #[.int .u64 0, .int .i64 y]) ∧ Q w' := by
  subst hd
  have HC := Lib.hid hc
  clear hc
  go_enter Tryz.func10, Tryz.ntmps10
  go_wp2_with fail
  refine HC.out.mono ?_
  rintro e w2 ⟨rfl, hq⟩
  have HQ := Lib.hid hq
  clear hq HC
  go_wp2_with fail
  go_ret2
  exact ⟨rfl, HQ.out⟩

set_option maxRecDepth 100000 in
theorem says_8 (w : World) (gv : Value) (d t a b c v y : Int) (Q : World → Prop) (hd : d = 8)
    (hc : Calls Tryz.prog 41 #[gv, .int .i64 t, .int .i64 a] (w.alloc (.cells #[.int .u8 d, .int .i64 t, .int .i64 a, .int .i64 b, .int .i64 c, .int .u64 v] 35)) fun e w' => e = .returned (.int .i64 y) ∧ Q w') :
    Calls Tryz.prog 10 #[gv, .agg #[.int .u8 d, .int .i64 t, .int .i64 a, .int .i64 b, .int .i64 c, .int .u64 v]] w fun e w' => e = .returned (.tuple #[.int .u64 0, .int .i64 y]) ∧ Q w' := by
  subst hd
  have HC := Lib.hid hc
  clear hc
  go_enter Tryz.func10, Tryz.ntmps10
  go_wp2_with fail
  refine HC.out.mono ?_
  rintro e w2 ⟨rfl, hq⟩
  have HQ := Lib.hid hq
  clear hq HC
  go_wp2_with fail
  go_ret2
  exact ⟨rfl, HQ.out⟩

set_option maxRecDepth 100000 in
theorem says_9 (w : World) (gv : Value) (d t a b c v y : Int) (Q : World → Prop) (hd : d = 9)
    (hc : Calls Tryz.prog 42 #[gv, .int .i64 t, .int .i64 a] (w.alloc (.cells #[.int .u8 d, .int .i64 t, .int .i64 a, .int .i64 b, .int .i64 c, .int .u64 v] 35)) fun e w' => e = .returned (.int .i64 y) ∧ Q w') :
    Calls Tryz.prog 10 #[gv, .agg #[.int .u8 d, .int .i64 t, .int .i64 a, .int .i64 b, .int .i64 c, .int .u64 v]] w fun e w' => e = .returned (.tuple #[.int .u64 0, .int .i64 y]) ∧ Q w' := by
  subst hd
  have HC := Lib.hid hc
  clear hc
  go_enter Tryz.func10, Tryz.ntmps10
  go_wp2_with fail
  refine HC.out.mono ?_
  rintro e w2 ⟨rfl, hq⟩
  have HQ := Lib.hid hq
  clear hq HC
  go_wp2_with fail
  go_ret2
  exact ⟨rfl, HQ.out⟩

set_option maxRecDepth 100000 in
theorem says_10 (w : World) (gv : Value) (d t a b c v y : Int) (Q : World → Prop) (hd : d = 10)
    (hc : Calls Tryz.prog 43 #[gv, .int .i64 t, .int .i64 a] (w.alloc (.cells #[.int .u8 d, .int .i64 t, .int .i64 a, .int .i64 b, .int .i64 c, .int .u64 v] 35)) fun e w' => e = .returned (.int .i64 y) ∧ Q w') :
    Calls Tryz.prog 10 #[gv, .agg #[.int .u8 d, .int .i64 t, .int .i64 a, .int .i64 b, .int .i64 c, .int .u64 v]] w fun e w' => e = .returned (.tuple #[.int .u64 0, .int .i64 y]) ∧ Q w' := by
  subst hd
  have HC := Lib.hid hc
  clear hc
  go_enter Tryz.func10, Tryz.ntmps10
  go_wp2_with fail
  refine HC.out.mono ?_
  rintro e w2 ⟨rfl, hq⟩
  have HQ := Lib.hid hq
  clear hq HC
  go_wp2_with fail
  go_ret2
  exact ⟨rfl, HQ.out⟩

set_option maxRecDepth 100000 in
theorem says_11 (w : World) (gv : Value) (d t a b c v x y : Int) (Q : World → Prop) (hd : 11 ≤ d) (hx0 : 0 ≤ x) (hx1 : x ≤ 1000000)
    (hc : Calls Tryz.prog 44 #[gv, .int .i64 t, .int .i64 a] (w.alloc (.cells #[.int .u8 d, .int .i64 t, .int .i64 a, .int .i64 b, .int .i64 c, .int .u64 v] 35)) fun e w' => e = .returned (.tuple #[.int .i64 x, .int .i64 y]) ∧ Q w') :
    Calls Tryz.prog 10 #[gv, .agg #[.int .u8 d, .int .i64 t, .int .i64 a, .int .i64 b, .int .i64 c, .int .u64 v]] w fun e w' => e = .returned (.tuple #[.int .u64 x, .int .i64 y]) ∧ Q w' := by
  have e0 : (d == 0) = false := by simp; omega
  have e1 : (d == 1) = false := by simp; omega
  have e2 : (d == 2) = false := by simp; omega
  have e3 : (d == 3) = false := by simp; omega
  have e4 : (d == 4) = false := by simp; omega
  have e5 : (d == 5) = false := by simp; omega
  have e6 : (d == 6) = false := by simp; omega
  have e7 : (d == 7) = false := by simp; omega
  have e8 : (d == 8) = false := by simp; omega
  have e9 : (d == 9) = false := by simp; omega
  have e10 : (d == 10) = false := by simp; omega
  clear hd
  have HC := Lib.hid hc
  clear hc
  go_enter Tryz.func10, Tryz.ntmps10
  go_wp2_with fail
  refine HC.out.mono ?_
  rintro e w2 ⟨rfl, hq⟩
  have HQ := Lib.hid hq
  clear hq HC
  go_wp2_with fail
  go_ret2
  exact ⟨rfl, HQ.out⟩

end Go.Proofs.YtmbhhadghiojeaaGreat
