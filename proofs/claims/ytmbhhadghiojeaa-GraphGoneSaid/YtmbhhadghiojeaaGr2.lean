/- Layer 10's thread and held. Conditions: as each theorem states them. -/
import Derived.Test.YtmbhhadghiojeaaGr1
import Derived.Test.YtmbhhadghiojeaaLaw
import Derived.Lib.Hide
namespace Go.Proofs.Ytmbhhadghiojeaa
set_option linter.unusedVariables false
set_option linter.unusedSimpArgs false
open Go.RowKit

theorem thread_nil (w : World) (t : Int) (sv : Value) :
    Calls Try.prog 36 #[.pointer none, .int .i64 t, sv] w fun e w' => e = .panicked [{ v := .iface 26 (.int .i64 1), recovered := false }] ∧ w = w' := by
  have h := need_no w 1
  go_enter Try.func36, Try.ntmps36
  go_wp2_with ((with_reducible refine h.mono ?_); rintro e w1 ⟨rfl, rfl⟩)
  exact ⟨rfl, rfl, rfl⟩
theorem thread_bad (w : World) (p : Nat) (ao : Option Addr) (n c : Nat) (t : Int) (sv : Value) (hp : w.cell? ⟨p, 0, none⟩ = some (.slice ao n c)) (ht : t < 0 ∨ (n : Int) ≤ t) :
    Calls Try.prog 36 #[.pointer (some ⟨p, 0, none⟩), .int .i64 t, sv] w fun e w' => e = .panicked [{ v := .iface 26 (.int .i64 2), recovered := false }] ∧ w = w' := by
  have h := need_ok w 1
  have h2 := item_rts_no w ao n c t ht
  clear ht
  go_enter Try.func36, Try.ntmps36
  go_wp2_with (first | ((with_reducible refine h.mono ?_); rintro e w1 ⟨rfl, rfl⟩) | ((with_reducible refine h2.mono ?_); rintro e w1 ⟨rfl, rfl⟩))
  exact ⟨rfl, rfl, rfl⟩
/-- A thread's roots, where all the slots are there. -/
theorem thread_ok (w : World) (p tb n c q t : Nat) (A L xs : List Int) (sv : Value) (hp : w.cell? ⟨p, 0, none⟩ = some (.slice (some ⟨tb, 0, none⟩) n c)) (ht : t < n) (hn : n ≤ 64) (hq : w.cell? ⟨tb, t, none⟩ = some (.pointer (some ⟨q, 0, none⟩)))
    (hR : Rt w q A L) (hs : Rd w sv xs) (hl : xs.length ≤ 64) (hx : ∀ x ∈ xs, 0 ≤ x ∧ x < A.length) :
    Calls Try.prog 36 #[.pointer (some ⟨p, 0, none⟩), .int .i64 t, sv] w fun e w' => e = .returned (.pointer (some ⟨q, 0, none⟩)) ∧ w = w' := by
  have h := need_ok w 1
  have h2 := item_rts_ok w tb 0 n c t ht (by omega)
  rw [Nat.zero_add] at h2
  obtain ⟨ao, cap, rfl, hc, hz, hf⟩ := hs.form
  have HS := Lib.hid hs
  have HR := Lib.hid hR
  have HX := Lib.hid hx
  clear hs hR hx hz hf ht hc
  obtain ⟨m, hm⟩ : ∃ m, m = xs.length := ⟨_, rfl⟩
  rw [← hm] at hl ⊢
  have HM := Lib.hid hm
  clear hm
  go_enter Try.func36, Try.ntmps36
  go_wp2_with (first | ((with_reducible refine h.mono ?_); rintro e w1 ⟨rfl, rfl⟩) | ((with_reducible refine h2.mono ?_); rintro e w1 ⟨rfl, rfl⟩))
  clear h h2
  go_loop [23] (fun i => ∃ k : Nat, k ≤ m ∧ i = .int .i64 k) (fun i => m - (intOf i).toNat)
  case atStart => exact ⟨0, Nat.zero_le _, rfl⟩
  case round =>
    obtain ⟨k, hk, rfl⟩ := hrel
    by_cases hkn : k < m
    · obtain ⟨g, o, e, hcell⟩ := HS.out.cellAt (i := k) (by rw [← HM.out]; exact hkn)
      subst e
      obtain ⟨h0, h1⟩ := HX.out (xs.getD k 0) (by
        have : k < xs.length := by rw [← HM.out]; exact hkn
        simp [List.getD, this])
      obtain ⟨j, hj⟩ : ∃ j : Nat, xs.getD k 0 = j := ⟨(xs.getD k 0).toNat, by omega⟩
      rw [hj] at hcell h1
      have h3 := reference_ok w q A L HR.out j (by omega)
      clear hj h0 h1
      go_wp2_with ((with_reducible refine h3.mono ?_); rintro e w1 ⟨rfl, rfl⟩)
      go_round
      case rel => exact ⟨k + 1, by omega, by go_num⟩
      case measure => simp only [intOf]; omega
    · go_wp2
      go_ret
      exact ⟨rfl, rfl⟩
/-- One of the slots is not there. -/
theorem thread_no (w : World) (p tb n c q t : Nat) (A L ys zs : List Int) (x : Int) (sv : Value) (hp : w.cell? ⟨p, 0, none⟩ = some (.slice (some ⟨tb, 0, none⟩) n c)) (ht : t < n) (hn : n ≤ 64) (hq : w.cell? ⟨tb, t, none⟩ = some (.pointer (some ⟨q, 0, none⟩)))
    (hR : Rt w q A L) (hs : Rd w sv (ys ++ x :: zs)) (hl : (ys ++ x :: zs).length ≤ 64) (hx : ∀ x ∈ ys, 0 ≤ x ∧ x < A.length) (hb : x < 0 ∨ (A.length : Int) ≤ x) :
    Calls Try.prog 36 #[.pointer (some ⟨p, 0, none⟩), .int .i64 t, sv] w fun e w' => e = .panicked [{ v := .iface 26 (.int .i64 2), recovered := false }] ∧ w = w' := by
  have h := need_ok w 1
  have h2 := item_rts_ok w tb 0 n c t ht (by omega)
  rw [Nat.zero_add] at h2
  obtain ⟨ao, cap, rfl, hc, hz, hf⟩ := hs.form
  have hbad := reference_no w q A L hR x hb
  have HS := Lib.hid hs
  have HR := Lib.hid hR
  have HX := Lib.hid hx
  have HB := Lib.hid hbad
  clear hs hR hx hz hf ht hc hb hbad
  obtain ⟨m, hm⟩ : ∃ m, m = (ys ++ x :: zs).length := ⟨_, rfl⟩
  obtain ⟨d, hd⟩ : ∃ d, d = ys.length := ⟨_, rfl⟩
  have hdm : d < m := by rw [hm, hd]; simp
  rw [← hm] at hl ⊢
  have HM := Lib.hid hm
  have HD := Lib.hid hd
  clear hm hd
  go_enter Try.func36, Try.ntmps36
  go_wp2_with (first | ((with_reducible refine h.mono ?_); rintro e w1 ⟨rfl, rfl⟩) | ((with_reducible refine h2.mono ?_); rintro e w1 ⟨rfl, rfl⟩))
  clear h h2
  go_loop [23] (fun i => ∃ k : Nat, k ≤ d ∧ i = .int .i64 k) (fun i => d - (intOf i).toNat)
  case atStart => exact ⟨0, Nat.zero_le _, rfl⟩
  case round =>
    obtain ⟨k, hk, rfl⟩ := hrel
    have hkm : k < m := by omega
    obtain ⟨g, o, e, hcell⟩ := HS.out.cellAt (i := k) (by rw [← HM.out]; omega)
    subst e
    by_cases hkn : k < d
    · have hin : (ys ++ x :: zs).getD k 0 = ys.getD k 0 := by
        have : k < ys.length := by rw [← HD.out]; exact hkn
        simp [List.getD, List.getElem?_append_left this]
      rw [hin] at hcell
      obtain ⟨h0, h1⟩ := HX.out (ys.getD k 0) (by
        have : k < ys.length := by rw [← HD.out]; exact hkn
        simp [List.getD, this])
      obtain ⟨j, hj⟩ : ∃ j : Nat, ys.getD k 0 = j := ⟨(ys.getD k 0).toNat, by omega⟩
      rw [hj] at hcell h1
      have h3 := reference_ok w q A L HR.out j (by omega)
      clear hj h0 h1 hin
      go_wp2_with ((with_reducible refine h3.mono ?_); rintro e w1 ⟨rfl, rfl⟩)
      go_round
      case rel => exact ⟨k + 1, by omega, by go_num⟩
      case measure => simp only [intOf]; omega
    · have hkd : k = ys.length := by have := HD.out; omega
      have hin : (ys ++ x :: zs).getD k 0 = x := by subst hkd; simp [List.getD]
      rw [hin] at hcell
      have h3 := HB.out
      clear hkd hin
      go_wp2_with ((with_reducible refine h3.mono ?_); rintro e w1 ⟨rfl, rfl⟩)
      exact ⟨rfl, rfl, rfl⟩

theorem held_none (w : World) (q k : Nat) (gv : Value) (A L : List Int) (hR : Rt w q A L) (hk : k < A.length) (h0 : A.getD k 0 = 0) :
    Calls Try.prog 40 #[gv, .pointer (some ⟨q, 0, none⟩), .int .i64 k] w fun e w' => e = .panicked [{ v := .iface 26 (.int .i64 5), recovered := false }] ∧ Kp [] w w' := by
  have ha : Kp [] w (w.alloc (.cells #[.slice none 0 0, .slice none 0 0] 56)) := (Kp.refl _ _).alloc _
  have h1 := reference_ok _ q A L (hR.keep0 ha) k hk
  have h2 := need_no (w.alloc (.cells #[.slice none 0 0, .slice none 0 0] 56)) 5
  rw [h0] at h1
  have HA := Lib.hid ha
  clear hR hk h0 ha
  go_enter Try.func40, Try.ntmps40
  go_wp2_with (first | ((with_reducible refine h1.mono ?_); rintro e w1 ⟨rfl, rfl⟩) | ((with_reducible refine h2.mono ?_); rintro e w1 ⟨rfl, rfl⟩))
  exact ⟨rfl, rfl, HA.out⟩
theorem held_ok (w : World) (p q k B : Nat) (A L : List Int) (x : Int) (g1 n1 c1 g2 n2 c2 : Nat) (hR : Rt w q A L) (hk : k < A.length) (h0 : A.getD k 0 = x) (hx : (x == 0) = false) (hp : w.cell? ⟨p, 2, none⟩ = some (.map (some B)))
    (hlk : ∀ w1, Kp [] w w1 → (Instr.lookup 50 (.map (some B)) (.int .i64 x) false).run Try.prog w1 = .ok (.agg #[.slice (some ⟨g1, 0, none⟩) n1 c1, .slice (some ⟨g2, 0, none⟩) n2 c2]) w1) :
    Calls Try.prog 40 #[.pointer (some ⟨p, 0, none⟩), .pointer (some ⟨q, 0, none⟩), .int .i64 k] w fun e w' => e = .returned (.agg #[.slice (some ⟨g1, 0, none⟩) n1 c1, .slice (some ⟨g2, 0, none⟩) n2 c2]) ∧ Kp [] w w' := by
  have ha : Kp [] w (w.alloc (.cells #[.slice none 0 0, .slice none 0 0] 56)) := (Kp.refl _ _).alloc _
  have h1 := reference_ok _ q A L (hR.keep0 ha) k hk
  have h2 := need_ok (w.alloc (.cells #[.slice none 0 0, .slice none 0 0] 56)) 5
  have h3 := hlk _ ha
  have hx' : (x != 0) = true := by simpa using hx
  rw [h0] at h1
  have HA := Lib.hid ha
  have hpl : p < w.heap.size := block_lt_of_cell hp
  clear hR hk h0 ha hlk
  go_enter Try.func40, Try.ntmps40
  go_wp2_with (first | ((with_reducible refine h1.mono ?_); rintro e w1 ⟨rfl, rfl⟩) | ((with_reducible refine h2.mono ?_); rintro e w1 ⟨rfl, rfl⟩))
  exact bodyPost_row rfl w.heap.size _ _ (0, 0) _ rfl rfl (heap_alloc_new w _) Try.underlying56 rfl (by kernel_rfl) ⟨rfl, (Kp.refl _ _).alloc _⟩

end Go.Proofs.Ytmbhhadghiojeaa
