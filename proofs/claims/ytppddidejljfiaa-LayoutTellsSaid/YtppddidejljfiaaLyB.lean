/- The walks of layer layout, on: the places of global roots, entries, blocks. Conditions: as each theorem states them. -/
import Derived.Test.YtppddidejljfiaaLy
namespace Go.Proofs.Ytppddidejljfiaa
set_option linter.unusedVariables false
set_option linter.unusedSimpArgs false
open Go.RowKit

/-- What tells the places of a row: a closure over three cells. -/
def RowAt (f n d : Int) (w : World) (e : Ending) (w' : World) : Prop :=
  ∃ bf bn bd : Nat, e = .returned (.func (.func 27) #[] #[.pointer (some ⟨bn, 0, none⟩), .pointer (some ⟨bf, 0, none⟩), .pointer (some ⟨bd, 0, none⟩)]) ∧
    w'.cell? ⟨bf, 0, none⟩ = some (.int .i64 f) ∧ w'.cell? ⟨bn, 0, none⟩ = some (.int .i64 n) ∧ w'.cell? ⟨bd, 0, none⟩ = some (.int .i64 d) ∧ Kp [] w w'
theorem row_at (f n d : Int) (w : World) : Calls Try.prog 25 #[.int .i64 f, .int .i64 n, .int .i64 d] w (RowAt f n d w) :=
  (row_of f n d w).mono fun e w' ⟨he, hw⟩ => ⟨_, _, _, he, by rw [← hw]; simp [go_sem], by rw [← hw]; simp [go_sem], by rw [← hw]; simp [go_sem], by rw [← hw]; exact (((Kp.refl _ _).alloc _).alloc _).alloc _⟩

set_option maxHeartbeats 1000000 in
theorem global_is (t g b k p : Int) (w : World) (hp : rowP (3 + t) g 1 k = p) (t0 : 0 ≤ t) (t1 : t ≤ 64) (g0 : 0 ≤ g) (g1 : g ≤ 8) : Calls Try.prog 16 #[.agg #[.int .i64 t, .int .i64 g, .int .i64 b], .int .i64 k] w fun e w' => e = .returned (.int .i64 p) ∧ Kp [] w w' := by
  have k0 := Lib.hid (fun w => roots_is t g b w t0 t1)
  have k1 := Lib.hid (fun w => row_at (3 + t) g 1 w)
  have k2 := Lib.hid (fun bf bn bd w => place_is (3 + t) g 1 k p bf bn bd w hp (by omega) (by omega) g0 (by omega) (by omega) (by omega))
  clear hp
  have BN := Lib.hid (box3_new w t g b 23)
  go_enter Try.func16, Try.ntmps16
  go_wp2
  go_region_with (first
    | (go_at_call 26; refine (k0.out _).mono ?_; rintro e w1 ⟨rfl, hk⟩; have B1 := Lib.hid (box3_step (box3_drew BN.out) hk); clear hk; obtain ⟨s0, s1, s2, s7, s8⟩ := B1.out)
    | (go_at_call 25; refine (k1.out _).mono ?_; rintro e w2 ⟨bf, bn, bd, rfl, hf, hn, hd, hk2⟩))
  all_goals (
    have KK := Lib.hid ((kp_of_below s7).trans hk2)
    clear s0 s1 s2 s7 s8 B1 hk2
    go_wp2_with ((with_reducible refine (k2.out _ _ _ _ hf hn hd).mono ?_); rintro e w' ⟨rfl, rfl⟩)
    go_ret
    exact ⟨rfl, KK.out⟩)

set_option maxHeartbeats 1000000 in
theorem entry_is (t g b k p : Int) (w : World) (hp : rowP (3 + t + g) b 1 k = p) (t0 : 0 ≤ t) (t1 : t ≤ 64) (g0 : 0 ≤ g) (g1 : g ≤ 8) (b0 : 0 ≤ b) (b1 : b ≤ 64) : Calls Try.prog 18 #[.agg #[.int .i64 t, .int .i64 g, .int .i64 b], .int .i64 k] w fun e w' => e = .returned (.int .i64 p) ∧ Kp [] w w' := by
  have k0 := Lib.hid (fun w => table_is t g b w t0 t1 g0 g1)
  have k1 := Lib.hid (fun w => row_at (3 + t + g) b 1 w)
  have k2 := Lib.hid (fun bf bn bd w => place_is (3 + t + g) b 1 k p bf bn bd w hp (by omega) (by omega) b0 b1 (by omega) (by omega))
  clear hp
  have BN := Lib.hid (box3_new w t g b 23)
  go_enter Try.func18, Try.ntmps18
  go_wp2
  go_region_with (first
    | (go_at_call 23; refine (k0.out _).mono ?_; rintro e w1 ⟨rfl, hk⟩; have B1 := Lib.hid (box3_step (box3_drew BN.out) hk); clear hk; obtain ⟨s0, s1, s2, s7, s8⟩ := B1.out)
    | (go_at_call 25; refine (k1.out _).mono ?_; rintro e w2 ⟨bf, bn, bd, rfl, hf, hn, hd, hk2⟩))
  all_goals (
    have KK := Lib.hid ((kp_of_below s7).trans hk2)
    clear s0 s1 s2 s7 s8 B1 hk2
    go_wp2_with ((with_reducible refine (k2.out _ _ _ _ hf hn hd).mono ?_); rintro e w' ⟨rfl, rfl⟩)
    go_ret
    exact ⟨rfl, KK.out⟩)

set_option maxHeartbeats 1000000 in
theorem start_is (t g b k p : Int) (w : World) (hp : rowP (3 + t + g + b) b 32 k = p) (t0 : 0 ≤ t) (t1 : t ≤ 64) (g0 : 0 ≤ g) (g1 : g ≤ 8) (b0 : 0 ≤ b) (b1 : b ≤ 64) : Calls Try.prog 20 #[.agg #[.int .i64 t, .int .i64 g, .int .i64 b], .int .i64 k] w fun e w' => e = .returned (.int .i64 p) ∧ Kp [] w w' := by
  have k0 := Lib.hid (fun w => first_is t g b w t0 t1 g0 g1 b0 b1)
  have k1 := Lib.hid (fun w => row_at (3 + t + g + b) b 32 w)
  have k2 := Lib.hid (fun bf bn bd w => place_is (3 + t + g + b) b 32 k p bf bn bd w hp (by omega) (by omega) b0 b1 (by omega) (by omega))
  clear hp
  have BN := Lib.hid (box3_new w t g b 23)
  go_enter Try.func20, Try.ntmps20
  go_wp2
  go_region_with (first
    | (go_at_call 24; refine (k0.out _).mono ?_; rintro e w1 ⟨rfl, hk⟩; have B1 := Lib.hid (box3_step (box3_drew BN.out) hk); clear hk; obtain ⟨s0, s1, s2, s7, s8⟩ := B1.out)
    | (go_at_call 25; refine (k1.out _).mono ?_; rintro e w2 ⟨bf, bn, bd, rfl, hf, hn, hd, hk2⟩))
  all_goals (
    have KK := Lib.hid ((kp_of_below s7).trans hk2)
    clear s0 s1 s2 s7 s8 B1 hk2
    go_wp2_with ((with_reducible refine (k2.out _ _ _ _ hf hn hd).mono ?_); rintro e w' ⟨rfl, rfl⟩)
    go_ret
    exact ⟨rfl, KK.out⟩)

theorem block_out (t g b i : Int) (w : World) (t0 : 1 ≤ t) (t1 : t ≤ 64) (g0 : 0 ≤ g) (g1 : g ≤ 8) (b0 : 0 ≤ b) (b1 : b ≤ 64) (h : i < 3 + t + g + b ∨ (3 + t + g + b ≤ i ∧ 3 + t + g + b + b * 32 ≤ i)) :
    Calls Try.prog 12 #[.agg #[.int .i64 t, .int .i64 g, .int .i64 b], .int .i64 i] w fun e w' => e = .returned (.tuple #[.int .i64 0, .int .i64 0, .bool false]) ∧ Kp [] w w' := by
  have k1 := Lib.hid (fun w => first_is t g b w (by omega) t1 g0 g1 b0 b1)
  have k2 := Lib.hid (fun w => words_is t g b w t0 t1 g0 g1 b0 b1)
  obtain ⟨m, hm⟩ : ∃ m, m = 3 + t + g + b + b * 32 := ⟨_, rfl⟩
  obtain ⟨f, hf⟩ : ∃ f, f = 3 + t + g + b := ⟨_, rfl⟩
  rw [← hm] at k2 h
  rw [← hf] at k1 h
  have HM := Lib.hid hm
  have HF := Lib.hid hf
  clear hm hf
  rcases h with h | ⟨h, h2⟩
  · go_enter Try.func12, Try.ntmps12
    go_wp2_with fail
    refine (k1.out _).mono ?_; rintro e w1 ⟨rfl, hk⟩
    go_wp2
    go_returns
    exact ⟨rfl, ((Kp.refl _ _).alloc _).trans hk⟩
  · go_enter Try.func12, Try.ntmps12
    go_wp2_with fail
    refine (k1.out _).mono ?_; rintro e w1 ⟨rfl, hk⟩
    have B1 := Lib.hid (box3_step (box3_new w t g b _) hk)
    clear hk
    obtain ⟨s0, s1, s2, s7, s8⟩ := B1.out
    go_wp2_with fail
    refine (k2.out _).mono ?_; rintro e w2 ⟨rfl, hk⟩
    have B2 := Lib.hid (box3_step B1.out hk)
    clear hk s0 s1 s2 s7 s8
    go_wp2
    go_returns
    exact ⟨rfl, kp_of_below B2.out.2.2.2.1⟩

theorem block_in (t g b i : Int) (w : World) (t0 : 1 ≤ t) (t1 : t ≤ 64) (g0 : 0 ≤ g) (g1 : g ≤ 8) (b0 : 0 ≤ b) (b1 : b ≤ 64) (h : 3 + t + g + b ≤ i) (h2 : i < 3 + t + g + b + b * 32) :
    Calls Try.prog 12 #[.agg #[.int .i64 t, .int .i64 g, .int .i64 b], .int .i64 i] w fun e w' => e = .returned (.tuple #[.int .i64 ((i - (3 + t + g + b)) / 32), .int .i64 ((i - (3 + t + g + b)) % 32), .bool true]) ∧ Kp [] w w' := by
  have k1 := Lib.hid (fun w => first_is t g b w (by omega) t1 g0 g1 b0 b1)
  have k2 := Lib.hid (fun w => words_is t g b w t0 t1 g0 g1 b0 b1)
  obtain ⟨m, hm⟩ : ∃ m, m = 3 + t + g + b + b * 32 := ⟨_, rfl⟩
  obtain ⟨f, hf⟩ : ∃ f, f = 3 + t + g + b := ⟨_, rfl⟩
  rw [← hm] at k2 h2
  rw [← hf] at k1 h ⊢
  have f0 : 0 ≤ f := by omega
  have m1 : m ≤ 3000 := by omega
  clear hm hf
  go_enter Try.func12, Try.ntmps12
  go_wp2_with fail
  refine (k1.out _).mono ?_; rintro e w1 ⟨rfl, hk⟩
  have B1 := Lib.hid (box3_step (box3_new w t g b _) hk)
  clear hk
  obtain ⟨s0, s1, s2, s7, s8⟩ := B1.out
  go_wp2_with fail
  refine (k2.out _).mono ?_; rintro e w2 ⟨rfl, hk⟩
  have B2 := Lib.hid (box3_step B1.out hk)
  clear hk s0 s1 s2 s7 s8
  obtain ⟨s0, s1, s2, s7, s8⟩ := B2.out
  go_wp2_with fail
  refine (k1.out _).mono ?_; rintro e w3 ⟨rfl, hk⟩
  have B3 := Lib.hid (box3_step B2.out hk)
  clear hk s0 s1 s2 s7 s8
  go_wp2
  go_returns
  exact ⟨rfl, kp_of_below B3.out.2.2.2.1⟩

theorem block_zero (i : Int) (w : World) :
    Calls Try.prog 12 #[.agg #[.int .i64 0, .int .i64 0, .int .i64 0], .int .i64 i] w fun e w' => e = .returned (.tuple #[.int .i64 0, .int .i64 0, .bool false]) ∧ Kp [] w w' := by
  have k1 := Lib.hid (fun w => first_is 0 0 0 w (by omega) (by omega) (by omega) (by omega) (by omega) (by omega))
  have k2 := Lib.hid (fun w => words_zero w)
  by_cases h : i < 3
  · go_enter Try.func12, Try.ntmps12
    go_wp2_with fail
    refine (k1.out _).mono ?_; rintro e w1 ⟨rfl, hk⟩
    go_wp2
    go_returns
    exact ⟨rfl, ((Kp.refl _ _).alloc _).trans hk⟩
  · have h2 : 0 ≤ i := by omega
    go_enter Try.func12, Try.ntmps12
    go_wp2_with fail
    refine (k1.out _).mono ?_; rintro e w1 ⟨rfl, hk⟩
    have B1 := Lib.hid (box3_step (box3_new w 0 0 0 _) hk)
    clear hk
    obtain ⟨s0, s1, s2, s7, s8⟩ := B1.out
    go_wp2_with fail
    refine (k2.out _).mono ?_; rintro e w2 ⟨rfl, hk⟩
    have B2 := Lib.hid (box3_step B1.out hk)
    clear hk s0 s1 s2 s7 s8
    go_wp2
    go_returns
    exact ⟨rfl, kp_of_below B2.out.2.2.2.1⟩

end Go.Proofs.Ytppddidejljfiaa
