/- The walks of layer layout, on: the places of global roots, entries, blocks. Conditions: as each theorem states them. -/
import Derived.Test.YtinkpbenmfnnhaaDoorLy
namespace Go.Proofs.YtinkpbenmfnnhaaDoor.Ly
set_option linter.unusedVariables false
set_option linter.unusedSimpArgs false
open Go.RowKit

/-- What tells the places of a row: a closure over three cells. -/
def RowAt (f n d : Int) (w : World) (e : Ending) (w' : World) : Prop :=
  ∃ bf bn bd : Nat, e = .returned (.func (.func 42) #[] #[.pointer (some ⟨bn, 0, none⟩), .pointer (some ⟨bf, 0, none⟩), .pointer (some ⟨bd, 0, none⟩)]) ∧
    w'.cell? ⟨bf, 0, none⟩ = some (.int .i64 f) ∧ w'.cell? ⟨bn, 0, none⟩ = some (.int .i64 n) ∧ w'.cell? ⟨bd, 0, none⟩ = some (.int .i64 d) ∧ Kp [] w w'
theorem row_at (f n d : Int) (w : World) : Calls Tryd.prog 30 #[.int .i64 f, .int .i64 n, .int .i64 d] w (RowAt f n d w) :=
  (row_of f n d w).mono fun e w' ⟨he, hw⟩ => ⟨_, _, _, he, by rw [← hw]; simp [go_sem], by rw [← hw]; simp [go_sem], by rw [← hw]; simp [go_sem], by rw [← hw]; exact (((Kp.refl _ _).alloc _).alloc _).alloc _⟩

set_option maxHeartbeats 1000000 in
theorem entry_is (t g b k p : Int) (w : World) (hp : rowP (3 + t + g) b 1 k = p) (t0 : 0 ≤ t) (t1 : t ≤ 64) (g0 : 0 ≤ g) (g1 : g ≤ 8) (b0 : 0 ≤ b) (b1 : b ≤ 64) : Calls Tryd.prog 41 #[.agg #[.int .i64 t, .int .i64 g, .int .i64 b], .int .i64 k] w fun e w' => e = .returned (.int .i64 p) ∧ Kp [] w w' := by
  have k0 := Lib.hid (fun w => table_is t g b w t0 t1 g0 g1)
  have k1 := Lib.hid (fun w => row_at (3 + t + g) b 1 w)
  have k2 := Lib.hid (fun bf bn bd w => place_is (3 + t + g) b 1 k p bf bn bd w hp (by omega) (by omega) b0 b1 (by omega) (by omega))
  clear hp
  have BN := Lib.hid (box3_new w t g b 29)
  go_enter Tryd.func41, Tryd.ntmps41
  go_wp2
  go_region_with (first
    | (go_at_call 20; refine (k0.out _).mono ?_; rintro e w1 ⟨rfl, hk⟩; have B1 := Lib.hid (box3_step (box3_drew BN.out) hk); clear hk; obtain ⟨s0, s1, s2, s7, s8⟩ := B1.out)
    | (go_at_call 30; refine (k1.out _).mono ?_; rintro e w2 ⟨bf, bn, bd, rfl, hf, hn, hd, hk2⟩))
  all_goals (
    have KK := Lib.hid ((kp_of_below s7).trans hk2)
    clear s0 s1 s2 s7 s8 B1 hk2
    go_wp2_with ((with_reducible refine (k2.out _ _ _ _ hf hn hd).mono ?_); rintro e w' ⟨rfl, rfl⟩)
    go_ret
    exact ⟨rfl, KK.out⟩)

set_option maxHeartbeats 1000000 in
theorem start_is (t g b k p : Int) (w : World) (hp : rowP (3 + t + g + b) b 32 k = p) (t0 : 0 ≤ t) (t1 : t ≤ 64) (g0 : 0 ≤ g) (g1 : g ≤ 8) (b0 : 0 ≤ b) (b1 : b ≤ 64) : Calls Tryd.prog 19 #[.agg #[.int .i64 t, .int .i64 g, .int .i64 b], .int .i64 k] w fun e w' => e = .returned (.int .i64 p) ∧ Kp [] w w' := by
  have k0 := Lib.hid (fun w => first_is t g b w t0 t1 g0 g1 b0 b1)
  have k1 := Lib.hid (fun w => row_at (3 + t + g + b) b 32 w)
  have k2 := Lib.hid (fun bf bn bd w => place_is (3 + t + g + b) b 32 k p bf bn bd w hp (by omega) (by omega) b0 b1 (by omega) (by omega))
  clear hp
  have BN := Lib.hid (box3_new w t g b 29)
  go_enter Tryd.func19, Tryd.ntmps19
  go_wp2
  go_region_with (first
    | (go_at_call 31; refine (k0.out _).mono ?_; rintro e w1 ⟨rfl, hk⟩; have B1 := Lib.hid (box3_step (box3_drew BN.out) hk); clear hk; obtain ⟨s0, s1, s2, s7, s8⟩ := B1.out)
    | (go_at_call 30; refine (k1.out _).mono ?_; rintro e w2 ⟨bf, bn, bd, rfl, hf, hn, hd, hk2⟩))
  all_goals (
    have KK := Lib.hid ((kp_of_below s7).trans hk2)
    clear s0 s1 s2 s7 s8 B1 hk2
    go_wp2_with ((with_reducible refine (k2.out _ _ _ _ hf hn hd).mono ?_); rintro e w' ⟨rfl, rfl⟩)
    go_ret
    exact ⟨rfl, KK.out⟩)

end Go.Proofs.YtinkpbenmfnnhaaDoor.Ly
