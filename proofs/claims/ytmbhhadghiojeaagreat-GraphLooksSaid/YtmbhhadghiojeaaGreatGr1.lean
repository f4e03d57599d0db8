/- Layer 10's small ones: need, must, item, reference: what is thrown, and what is answered. Layer 10's thread and held. Layer 10's caught: what an act that ends, or throws, answers. Conditions: as each theorem states them. -/
import Derived.Test.YtmbhhadghiojeaaGreatRt
import Derived.Defers
import Derived.Recover
import Derived.Test.YtmbhhadghiojeaaGreatLaw
import Derived.Lib.Hide
import Derived.BigQuiet
import Derived.RegionTactic
import Derived.Deep.RegionHeld3
import Derived.Handy
namespace Go.Proofs.YtmbhhadghiojeaaGreat
set_option linter.unusedVariables false
set_option linter.unusedSimpArgs false
open Go.RowKit

theorem need_ok (w : World) (x : Int) : Calls Tryz.prog 21 #[.bool true, .int .i64 x] w fun e w' => e = .returned (.tuple #[]) ∧ w = w' := by
  go_enter Tryz.func21, Tryz.ntmps21
  go_wp2
  go_end0
  exact ⟨rfl, rfl⟩
theorem need_no (w : World) (x : Int) : Calls Tryz.prog 21 #[.bool false, .int .i64 x] w fun e w' => e = .panicked [{ v := .iface 25 (.int .i64 x), recovered := false }] ∧ w = w' := by
  go_enter Tryz.func21, Tryz.ntmps21
  go_wp2
  exact ⟨rfl, rfl, rfl⟩
theorem must_ok (w : World) : Calls Tryz.prog 23 #[.int .i64 0] w fun e w' => e = .returned (.tuple #[]) ∧ w = w' := by
  have h := need_ok w 0
  go_enter Tryz.func23, Tryz.ntmps23
  go_wp2_with ((with_reducible refine h.mono ?_); rintro e w1 ⟨rfl, rfl⟩)
  go_end0
  exact ⟨rfl, rfl⟩
theorem must_no (w : World) (x : Int) (hx : (x == 0) = false) : Calls Tryz.prog 23 #[.int .i64 x] w fun e w' => e = .panicked [{ v := .iface 25 (.int .i64 x), recovered := false }] ∧ w = w' := by
  have h := need_no w x
  go_enter Tryz.func23, Tryz.ntmps23
  go_wp2_with ((with_reducible refine h.mono ?_); rintro e w1 ⟨rfl, rfl⟩)
  exact ⟨rfl, rfl, rfl⟩

theorem item_int_ok (w : World) (b o n c i : Nat) (hi : i < n) (hn : n ≤ 100000) : Calls Tryz.prog 61 #[.slice (some ⟨b, o, none⟩) n c, .int .i64 i] w fun e w' => e = .returned (.pointer (some ⟨b, o + i, none⟩)) ∧ w = w' := by
  have h := need_ok w 2
  go_enter Tryz.func61, Tryz.ntmps61
  go_wp2_with ((with_reducible refine h.mono ?_); rintro e w1 ⟨rfl, rfl⟩)
  go_ret
  exact ⟨rfl, rfl⟩
theorem item_int_no (w : World) (ao : Option Addr) (n c : Nat) (i : Int) (hi : i < 0 ∨ (n : Int) ≤ i) : Calls Tryz.prog 61 #[.slice ao n c, .int .i64 i] w fun e w' => e = .panicked [{ v := .iface 25 (.int .i64 2), recovered := false }] ∧ w = w' := by
  have h := need_no w 2
  by_cases hi0 : 0 ≤ i
  · have hi1 : decide (i < (n : Int)) = false := by simp; omega
    clear hi
    go_enter Tryz.func61, Tryz.ntmps61
    go_wp2_with ((with_reducible refine h.mono ?_); rintro e w1 ⟨rfl, rfl⟩)
    exact ⟨rfl, rfl, rfl⟩
  · clear hi
    go_enter Tryz.func61, Tryz.ntmps61
    go_wp2_with ((with_reducible refine h.mono ?_); rintro e w1 ⟨rfl, rfl⟩)
    exact ⟨rfl, rfl, rfl⟩

theorem item_u64_ok (w : World) (b o n c i : Nat) (hi : i < n) (hn : n ≤ 100000) : Calls Tryz.prog 67 #[.slice (some ⟨b, o, none⟩) n c, .int .i64 i] w fun e w' => e = .returned (.pointer (some ⟨b, o + i, none⟩)) ∧ w = w' := by
  have h := need_ok w 2
  go_enter Tryz.func67, Tryz.ntmps67
  go_wp2_with ((with_reducible refine h.mono ?_); rintro e w1 ⟨rfl, rfl⟩)
  go_ret
  exact ⟨rfl, rfl⟩
theorem item_u64_no (w : World) (ao : Option Addr) (n c : Nat) (i : Int) (hi : i < 0 ∨ (n : Int) ≤ i) : Calls Tryz.prog 67 #[.slice ao n c, .int .i64 i] w fun e w' => e = .panicked [{ v := .iface 25 (.int .i64 2), recovered := false }] ∧ w = w' := by
  have h := need_no w 2
  by_cases hi0 : 0 ≤ i
  · have hi1 : decide (i < (n : Int)) = false := by simp; omega
    clear hi
    go_enter Tryz.func67, Tryz.ntmps67
    go_wp2_with ((with_reducible refine h.mono ?_); rintro e w1 ⟨rfl, rfl⟩)
    exact ⟨rfl, rfl, rfl⟩
  · clear hi
    go_enter Tryz.func67, Tryz.ntmps67
    go_wp2_with ((with_reducible refine h.mono ?_); rintro e w1 ⟨rfl, rfl⟩)
    exact ⟨rfl, rfl, rfl⟩

theorem item_rts_ok (w : World) (b o n c i : Nat) (hi : i < n) (hn : n ≤ 100000) : Calls Tryz.prog 92 #[.slice (some ⟨b, o, none⟩) n c, .int .i64 i] w fun e w' => e = .returned (.pointer (some ⟨b, o + i, none⟩)) ∧ w = w' := by
  have h := need_ok w 2
  go_enter Tryz.func92, Tryz.ntmps92
  go_wp2_with ((with_reducible refine h.mono ?_); rintro e w1 ⟨rfl, rfl⟩)
  go_ret
  exact ⟨rfl, rfl⟩
theorem item_rts_no (w : World) (ao : Option Addr) (n c : Nat) (i : Int) (hi : i < 0 ∨ (n : Int) ≤ i) : Calls Tryz.prog 92 #[.slice ao n c, .int .i64 i] w fun e w' => e = .panicked [{ v := .iface 25 (.int .i64 2), recovered := false }] ∧ w = w' := by
  have h := need_no w 2
  by_cases hi0 : 0 ≤ i
  · have hi1 : decide (i < (n : Int)) = false := by simp; omega
    clear hi
    go_enter Tryz.func92, Tryz.ntmps92
    go_wp2_with ((with_reducible refine h.mono ?_); rintro e w1 ⟨rfl, rfl⟩)
    exact ⟨rfl, rfl, rfl⟩
  · clear hi
    go_enter Tryz.func92, Tryz.ntmps92
    go_wp2_with ((with_reducible refine h.mono ?_); rintro e w1 ⟨rfl, rfl⟩)
    exact ⟨rfl, rfl, rfl⟩

theorem reference_ok (w : World) (p : Nat) (A L : List Int) (h : Rt w p A L) (k : Nat) (hk : k < A.length) :
    Calls Tryz.prog 60 #[.pointer (some ⟨p, 0, none⟩), .int .i64 k] w fun e w' => e = .returned (.int .i64 (A.getD k 0)) ∧ w = w' := by
  have h1 := get_ok w p A L h k hk
  have h2 := must_ok w
  clear h hk
  go_enter Tryz.func60, Tryz.ntmps60
  go_wp2_with (first | ((with_reducible refine h1.mono ?_); rintro e w1 ⟨rfl, rfl⟩) | ((with_reducible refine h2.mono ?_); rintro e w1 ⟨rfl, rfl⟩))
  go_ret
  exact ⟨rfl, rfl⟩
theorem reference_no (w : World) (p : Nat) (A L : List Int) (h : Rt w p A L) (k : Int) (hk : k < 0 ∨ (A.length : Int) ≤ k) :
    Calls Tryz.prog 60 #[.pointer (some ⟨p, 0, none⟩), .int .i64 k] w fun e w' => e = .panicked [{ v := .iface 25 (.int .i64 2), recovered := false }] ∧ w = w' := by
  have h1 := get_bad w p A L h k hk
  have h2 := must_no w 2 (by decide)
  clear h hk
  go_enter Tryz.func60, Tryz.ntmps60
  go_wp2_with (first | ((with_reducible refine h1.mono ?_); rintro e w1 ⟨rfl, rfl⟩) | ((with_reducible refine h2.mono ?_); rintro e w1 ⟨rfl, rfl⟩))
  exact ⟨rfl, rfl, rfl⟩

end Go.Proofs.YtmbhhadghiojeaaGreat

namespace Go.Proofs.YtmbhhadghiojeaaGreat
set_option linter.unusedVariables false
set_option linter.unusedSimpArgs false
open Go.RowKit

theorem thread_nil (w : World) (t : Int) (sv : Value) :
    Calls Tryz.prog 57 #[.pointer none, .int .i64 t, sv] w fun e w' => e = .panicked [{ v := .iface 25 (.int .i64 1), recovered := false }] ∧ w = w' := by
  have h := need_no w 1
  go_enter Tryz.func57, Tryz.ntmps57
  go_wp2_with ((with_reducible refine h.mono ?_); rintro e w1 ⟨rfl, rfl⟩)
  exact ⟨rfl, rfl, rfl⟩
theorem thread_bad (w : World) (p : Nat) (ao : Option Addr) (n c : Nat) (t : Int) (sv : Value) (hp : w.cell? ⟨p, 0, none⟩ = some (.slice ao n c)) (ht : t < 0 ∨ (n : Int) ≤ t) :
    Calls Tryz.prog 57 #[.pointer (some ⟨p, 0, none⟩), .int .i64 t, sv] w fun e w' => e = .panicked [{ v := .iface 25 (.int .i64 2), recovered := false }] ∧ w = w' := by
  have h := need_ok w 1
  have h2 := item_rts_no w ao n c t ht
  clear ht
  go_enter Tryz.func57, Tryz.ntmps57
  go_wp2_with (first | ((with_reducible refine h.mono ?_); rintro e w1 ⟨rfl, rfl⟩) | ((with_reducible refine h2.mono ?_); rintro e w1 ⟨rfl, rfl⟩))
  exact ⟨rfl, rfl, rfl⟩
/-- A thread's roots, where all the slots are there. -/
theorem thread_ok (w : World) (p tb n c q t : Nat) (A L xs : List Int) (sv : Value) (hp : w.cell? ⟨p, 0, none⟩ = some (.slice (some ⟨tb, 0, none⟩) n c)) (ht : t < n) (hn : n ≤ 64) (hq : w.cell? ⟨tb, t, none⟩ = some (.pointer (some ⟨q, 0, none⟩)))
    (hR : Rt w q A L) (hs : Rd w sv xs) (hl : xs.length ≤ 64) (hx : ∀ x ∈ xs, 0 ≤ x ∧ x < A.length) :
    Calls Tryz.prog 57 #[.pointer (some ⟨p, 0, none⟩), .int .i64 t, sv] w fun e w' => e = .returned (.pointer (some ⟨q, 0, none⟩)) ∧ w = w' := by
  have h := need_ok w 1
  have h2 := item_rts_ok w tb 0 n c t ht (by omega)
  rw [Nat.zero_add] at h2
  obtain ⟨ao, cap, rfl, hc, hz, hf⟩ := hs.form
  have HS := Lib.hid hs
  have HR := Lib.hid hR
  have HX := Lib.hid hx
  clear hs hR hx hz hf ht hc
  obtain ⟨m, hm⟩ : ∃ m, m = xs.length := ⟨_, rfl⟩
  rw [← hm] at hl ⊢
  have HM := Lib.hid hm
  clear hm
  go_enter Tryz.func57, Tryz.ntmps57
  go_wp2_with (first | ((with_reducible refine h.mono ?_); rintro e w1 ⟨rfl, rfl⟩) | ((with_reducible refine h2.mono ?_); rintro e w1 ⟨rfl, rfl⟩))
  clear h h2
  go_loop [23] (fun i => ∃ k : Nat, k ≤ m ∧ i = .int .i64 k) (fun i => m - (intOf i).toNat)
  case atStart => exact ⟨0, Nat.zero_le _, rfl⟩
  case round =>
    obtain ⟨k, hk, rfl⟩ := hrel
    by_cases hkn : k < m
    · obtain ⟨g, o, e, hcell⟩ := HS.out.cellAt (i := k) (by rw [← HM.out]; exact hkn)
      subst e
      obtain ⟨h0, h1⟩ := HX.out (xs.getD k 0) (by
        have : k < xs.length := by rw [← HM.out]; exact hkn
        simp [List.getD, this])
      obtain ⟨j, hj⟩ : ∃ j : Nat, xs.getD k 0 = j := ⟨(xs.getD k 0).toNat, by omega⟩
      rw [hj] at hcell h1
      have h3 := reference_ok w q A L HR.out j (by omega)
      clear hj h0 h1
      go_wp2_with ((with_reducible refine h3.mono ?_); rintro e w1 ⟨rfl, rfl⟩)
      go_round
      case rel => exact ⟨k + 1, by omega, by go_num⟩
      case measure => simp only [intOf]; omega
    · go_wp2
      go_ret
      exact ⟨rfl, rfl⟩
/-- One of the slots is not there. -/
theorem thread_no (w : World) (p tb n c q t : Nat) (A L ys zs : List Int) (x : Int) (sv : Value) (hp : w.cell? ⟨p, 0, none⟩ = some (.slice (some ⟨tb, 0, none⟩) n c)) (ht : t < n) (hn : n ≤ 64) (hq : w.cell? ⟨tb, t, none⟩ = some (.pointer (some ⟨q, 0, none⟩)))
    (hR : Rt w q A L) (hs : Rd w sv (ys ++ x :: zs)) (hl : (ys ++ x :: zs).length ≤ 64) (hx : ∀ x ∈ ys, 0 ≤ x ∧ x < A.length) (hb : x < 0 ∨ (A.length : Int) ≤ x) :
    Calls Tryz.prog 57 #[.pointer (some ⟨p, 0, none⟩), .int .i64 t, sv] w fun e w' => e = .panicked [{ v := .iface 25 (.int .i64 2), recovered := false }] ∧ w = w' := by
  have h := need_ok w 1
  have h2 := item_rts_ok w tb 0 n c t ht (by omega)
  rw [Nat.zero_add] at h2
  obtain ⟨ao, cap, rfl, hc, hz, hf⟩ := hs.form
  have hbad := reference_no w q A L hR x hb
  have HS := Lib.hid hs
  have HR := Lib.hid hR
  have HX := Lib.hid hx
  have HB := Lib.hid hbad
  clear hs hR hx hz hf ht hc hb hbad
  obtain ⟨m, hm⟩ : ∃ m, m = (ys ++ x :: zs).length := ⟨_, rfl⟩
  obtain ⟨d, hd⟩ : ∃ d, d = ys.length := ⟨_, rfl⟩
  have hdm : d < m := by rw [hm, hd]; simp
  rw [← hm] at hl ⊢
  have HM := Lib.hid hm
  have HD := Lib.hid hd
  clear hm hd
  go_enter Tryz.func57, Tryz.ntmps57
  go_wp2_with (first | ((with_reducible refine h.mono ?_); rintro e w1 ⟨rfl, rfl⟩) | ((with_reducible refine h2.mono ?_); rintro e w1 ⟨rfl, rfl⟩))
  clear h h2
  go_loop [23] (fun i => ∃ k : Nat, k ≤ d ∧ i = .int .i64 k) (fun i => d - (intOf i).toNat)
  case atStart => exact ⟨0, Nat.zero_le _, rfl⟩
  case round =>
    obtain ⟨k, hk, rfl⟩ := hrel
    have hkm : k < m := by omega
    obtain ⟨g, o, e, hcell⟩ := HS.out.cellAt (i := k) (by rw [← HM.out]; omega)
    subst e
    by_cases hkn : k < d
    · have hin : (ys ++ x :: zs).getD k 0 = ys.getD k 0 := by
        have : k < ys.length := by rw [← HD.out]; exact hkn
        simp [List.getD, List.getElem?_append_left this]
      rw [hin] at hcell
      obtain ⟨h0, h1⟩ := HX.out (ys.getD k 0) (by
        have : k < ys.length := by rw [← HD.out]; exact hkn
        simp [List.getD, this])
      obtain ⟨j, hj⟩ : ∃ j : Nat, ys.getD k 0 = j := ⟨(ys.getD k 0).toNat, by omega⟩
      rw [hj] at hcell h1
      have h3 := reference_ok w q A L HR.out j (by omega)
      clear hj h0 h1 hin
      go_wp2_with ((with_reducible refine h3.mono ?_); rintro e w1 ⟨rfl, rfl⟩)
      go_round
      case rel => exact ⟨k + 1, by omega, by go_num⟩
      case measure => simp only [intOf]; omega
    · have hkd : k = ys.length := by have := HD.out; omega
      have hin : (ys ++ x :: zs).getD k 0 = x := by subst hkd; simp [List.getD]
      rw [hin] at hcell
      have h3 := HB.out
      clear hkd hin
      go_wp2_with ((with_reducible refine h3.mono ?_); rintro e w1 ⟨rfl, rfl⟩)
      exact ⟨rfl, rfl, rfl⟩

theorem held_none (w : World) (q k : Nat) (gv : Value) (A L : List Int) (hR : Rt w q A L) (hk : k < A.length) (h0 : A.getD k 0 = 0) :
    Calls Tryz.prog 62 #[gv, .pointer (some ⟨q, 0, none⟩), .int .i64 k] w fun e w' => e = .panicked [{ v := .iface 25 (.int .i64 5), recovered := false }] ∧ Kp [] w w' := by
  have ha : Kp [] w (w.alloc (.cells #[.slice none 0 0, .slice none 0 0] 75)) := (Kp.refl _ _).alloc _
  have h1 := reference_ok _ q A L (hR.keep0 ha) k hk
  have h2 := need_no (w.alloc (.cells #[.slice none 0 0, .slice none 0 0] 75)) 5
  rw [h0] at h1
  have HA := Lib.hid ha
  clear hR hk h0 ha
  go_enter Tryz.func62, Tryz.ntmps62
  go_wp2_with (first | ((with_reducible refine h1.mono ?_); rintro e w1 ⟨rfl, rfl⟩) | ((with_reducible refine h2.mono ?_); rintro e w1 ⟨rfl, rfl⟩))
  exact ⟨rfl, rfl, HA.out⟩
theorem held_ok (w : World) (p q k B : Nat) (A L : List Int) (x : Int) (g1 n1 c1 g2 n2 c2 : Nat) (hR : Rt w q A L) (hk : k < A.length) (h0 : A.getD k 0 = x) (hx : (x == 0) = false) (hp : w.cell? ⟨p, 2, none⟩ = some (.map (some B)))
    (hlk : ∀ w1, Kp [] w w1 → (Instr.lookup 51 (.map (some B)) (.int .i64 x) false).run Tryz.prog w1 = .ok (.agg #[.slice (some ⟨g1, 0, none⟩) n1 c1, .slice (some ⟨g2, 0, none⟩) n2 c2]) w1) :
    Calls Tryz.prog 62 #[.pointer (some ⟨p, 0, none⟩), .pointer (some ⟨q, 0, none⟩), .int .i64 k] w fun e w' => e = .returned (.agg #[.slice (some ⟨g1, 0, none⟩) n1 c1, .slice (some ⟨g2, 0, none⟩) n2 c2]) ∧ Kp [] w w' := by
  have ha : Kp [] w (w.alloc (.cells #[.slice none 0 0, .slice none 0 0] 75)) := (Kp.refl _ _).alloc _
  have h1 := reference_ok _ q A L (hR.keep0 ha) k hk
  have h2 := need_ok (w.alloc (.cells #[.slice none 0 0, .slice none 0 0] 75)) 5
  have h3 := hlk _ ha
  have hx' : (x != 0) = true := by simpa using hx
  rw [h0] at h1
  have HA := Lib.hid ha
  have hpl : p < w.heap.size := block_lt_of_cell hp
  clear hR hk h0 ha hlk
  go_enter Tryz.func62, Tryz.ntmps62
  go_wp2_with (first | ((with_reducible refine h1.mono ?_); rintro e w1 ⟨rfl, rfl⟩) | ((with_reducible refine h2.mono ?_); rintro e w1 ⟨rfl, rfl⟩))
  exact bodyPost_row rfl w.heap.size _ _ (0, 0) _ rfl rfl (heap_alloc_new w _) Tryz.underlying75 rfl (by kernel_rfl) ⟨rfl, (Kp.refl _ _).alloc _⟩

end Go.Proofs.YtmbhhadghiojeaaGreat

namespace Go.Proofs.YtmbhhadghiojeaaGreat
set_option linter.unusedVariables false
set_option linter.unusedSimpArgs false
open Go.RowKit

theorem assert_errno (x : Int) (w : World) : (Instr.typeAssert (.iface 25 (.int .i64 x)) 20 25 false).run Tryz.prog w = .ok (.int .i64 x) w := by kernel_rfl

set_option maxRecDepth 100000 in
theorem catch_panicking (H : Nat) (x y : Int) (older : List PanicEntry) (w : World) (hc : w.cell? ⟨H, 0, none⟩ = some (.int .i64 y)) (hf : w.frozen? ⟨H, 0, none⟩ = false) :
    CallsD Tryz.prog 65 #[.pointer (some ⟨H, 0, none⟩)] (.panicking ({ v := .iface 25 (.int .i64 x), recovered := false } :: older)) w fun e u' w' =>
      e = .returned (.tuple #[]) ∧ u' = .panicking ({ v := .iface 25 (.int .i64 x), recovered := true } :: older) ∧ w' = w.setCell ⟨H, 0, none⟩ (.int .i64 x) := by
  refine callsD_of_wpS Tryz.func65 rfl fun c₀ cs hu => ?_
  refine wpS_seq ?_
  apply wpS_region
  simp only [Tryz.ntmps65, List.size_toArray, List.length_cons, List.length_nil, Nat.reduceAdd, Nat.reduceSub, Array.replicate_succ, Array.replicate_zero, List.push_toArray, List.append_toArray, List.nil_append, List.cons_append]
  have HC := Lib.hid hc
  have HF := Lib.hid hf
  clear hc hf
  simp [wpOpsS, go_sem, recoverD, hu]
  clear hu
  generalize FrameMode.panicking ({ v := Value.iface 25 (Value.int IntKind.i64 x), recovered := true } :: older) = md
  simp only [Exit.thenS]
  cases c₀
  dsimp only
  have hc := HC.out
  have hf := HF.out
  have hta := assert_errno x w
  refine wpS_of_wp ?_
  go_wp2
  simp [bodyPostS, results, Tryz.results65]

theorem catch_idle (H : Nat) (w : World) :
    CallsD Tryz.prog 65 #[.pointer (some ⟨H, 0, none⟩)] .returning w fun e u' w' => e = .returned (.tuple #[]) ∧ u' = .returning ∧ w' = w := by
  refine callsD_of_wpS Tryz.func65 rfl fun c₀ cs hu => ?_
  refine wpS_seq ?_
  apply wpS_region
  cases c₀
  simp only [Tryz.ntmps65, List.size_toArray, List.length_cons, List.length_nil, Nat.reduceAdd, Nat.reduceSub, Array.replicate_succ, Array.replicate_zero, List.push_toArray, List.append_toArray, List.nil_append, List.cons_append]
  simp_all [wpOpsS, go_sem, recoverD, Exit.thenS]
  refine wpS_of_wp ?_
  go_wp2
  simp [bodyPostS, results, Tryz.results65]

/-- What caught answers, and where: the act's own world, but for the answer's box. -/
def Caught (w : World) (x : Int) (Q : World → Prop) (e : Ending) (w' : World) : Prop := e = .returned (.int .i64 x) ∧ ∃ w2, Q w2 ∧ Kp [w.heap.size] w2 w'

/-- An act that ends. -/
theorem caught_ok (w : World) (g : FuncId) (cap : Array Value) (Q : World → Prop) (hen : ∀ (args : Array Value) (w : World), (callFunc g args).run Tryz.prog w = .ok (.enter g args) w)
    (hcall : Calls Tryz.prog g cap (w.alloc (.cells #[.int .i64 0] 25)) fun e w2 => e = .returned (.tuple #[]) ∧ Q w2)
    (hQ : ∀ w2, Q w2 → w2.heap[w.heap.size]? = some (.cells #[.int .i64 0] 25 (0, 0))) :
    Calls Tryz.prog 19 #[.func (.func g) #[] cap] w (Caught w 0 Q) := by
  have hmf : ∀ (fn : Fn) (first cap : Array Value) (w : World), (Instr.makeFunc fn first cap).run Tryz.prog w = .ok (.func fn first cap) w := fun _ _ _ _ => rfl
  have HQ := Lib.hid hQ
  clear hQ
  go_enter_defers Tryz.func19, Tryz.ntmps19
  go_wp2_with fail
  refine hcall.mono ?_
  rintro e w2 ⟨rfl, hq⟩
  have hb := HQ.out w2 hq
  have hc := cell_of_row hb 0
  have hf := free_of_row hb 0
  have HC := Lib.hid (And.intro hq hb)
  clear hq hb hcall
  go_wp2_with fail
  have hs := cell_of_row (heap_setCell_same w2 w.heap.size 0 _ _ (.int .i64 0) HC.out.2) 0
  have hk : Kp [w.heap.size] w2 (w2.setCell ⟨w.heap.size, 0, none⟩ (.int .i64 0)) := (Kp.refl _ _).setCell (.inl (by simp)) _
  have HK := Lib.hid (And.intro HC.out.1 hk)
  clear hk HC HQ
  refine leaves_cons (f := 65) (args := #[.pointer (some ⟨w.heap.size, 0, none⟩)]) (by simp) (by simp [go_sem]) ?_
  refine (catch_idle _ _).mono ?_
  rintro e u' w'' ⟨rfl, rfl, rfl⟩
  have hres : Caught w 0 Q (.returned (.int .i64 0)) (w2.setCell ⟨w.heap.size, 0, none⟩ (.int .i64 0)) := ⟨rfl, w2, HK.out⟩
  simp at hs
  simp [Leaves, settle, results, Tryz.results19, go_sem, hs, hres]

/-- An act that throws. -/
theorem caught_no (w : World) (g : FuncId) (cap : Array Value) (x : Int) (Q : World → Prop) (hen : ∀ (args : Array Value) (w : World), (callFunc g args).run Tryz.prog w = .ok (.enter g args) w)
    (hcall : Calls Tryz.prog g cap (w.alloc (.cells #[.int .i64 0] 25)) fun e w2 => e = .panicked [{ v := .iface 25 (.int .i64 x), recovered := false }] ∧ Q w2)
    (hQ : ∀ w2, Q w2 → w2.heap[w.heap.size]? = some (.cells #[.int .i64 0] 25 (0, 0))) :
    Calls Tryz.prog 19 #[.func (.func g) #[] cap] w (Caught w x Q) := by
  have hmf : ∀ (fn : Fn) (first cap : Array Value) (w : World), (Instr.makeFunc fn first cap).run Tryz.prog w = .ok (.func fn first cap) w := fun _ _ _ _ => rfl
  have HQ := Lib.hid hQ
  clear hQ
  go_enter_defers Tryz.func19, Tryz.ntmps19
  go_wp2_with fail
  refine hcall.mono ?_
  rintro e w2 ⟨rfl, hq⟩
  have hb := HQ.out w2 hq
  have hc := cell_of_row hb 0
  have hf := free_of_row hb 0
  have hs := cell_of_row (heap_setCell_same w2 w.heap.size 0 _ _ (.int .i64 x) hb) 0
  have hk : Kp [w.heap.size] w2 (w2.setCell ⟨w.heap.size, 0, none⟩ (.int .i64 x)) := (Kp.refl _ _).setCell (.inl (by simp)) _
  have HK := Lib.hid (And.intro hq hk)
  clear hk hq hb hcall HQ
  go_wp2_with fail
  refine leaves_cons (f := 65) (args := #[.pointer (some ⟨w.heap.size, 0, none⟩)]) (by simp) (by simp [go_sem]) ?_
  refine (catch_panicking _ _ 0 [] _ hc hf).mono ?_
  rintro e u' w'' ⟨rfl, rfl, rfl⟩
  have hres : Caught w x Q (.returned (.int .i64 x)) (w2.setCell ⟨w.heap.size, 0, none⟩ (.int .i64 x)) := ⟨rfl, w2, HK.out⟩
  simp at hs
  simp [Leaves, settle, results, Tryz.results19, go_sem, hs, hres]

end Go.Proofs.YtmbhhadghiojeaaGreat
