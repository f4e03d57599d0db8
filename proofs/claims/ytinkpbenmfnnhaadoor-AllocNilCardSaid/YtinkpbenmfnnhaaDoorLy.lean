/- The walks of layer layout: each contract says what a call answers, and that no block that was there has turned. Conditions: as each theorem states them. -/
import Derived.Test.YtinkpbenmfnnhaaDoorRows
import Derived.Test.YtinkpbenmfnnhaaDoorLaw
import Derived.Test.YtinkpbenmfnnhaaDoorKeep
import Derived.Test.YtinkpbenmfnnhaaDoorLyP
import Derived.WalkKit
import Derived.WalkSpells
import Derived.WalkLawsBesides
import Derived.BigQuiet
import Derived.RegionTactic
import Derived.ChangeAlike
import Derived.Handy
import Derived.Deep.RegionHeld3
import Derived.Deep.RegionWith
import Derived.Lib.Hide
import Derived.IntWalk
namespace Go.Proofs.YtinkpbenmfnnhaaDoor.Ly
set_option linter.unusedVariables false
set_option linter.unusedSimpArgs false
open Go.RowKit

theorem eqL (t g b t' g' b' : Int) (q : Bool) (w : World) (h : (decide (t = t') && decide (g = g') && decide (b = b')) = q) :
    (binOp .eql 29 (.agg #[.int .i64 t, .int .i64 g, .int .i64 b]) (.agg #[.int .i64 t', .int .i64 g', .int .i64 b'])).run Tryd.prog w = .ok (.bool q) w := by
  subst h
  by_cases h1 : t = t'
  case neg => simp [go_sem, *]
  by_cases h2 : g = g'
  case neg => simp [go_sem, *]
  by_cases h3 : b = b'
  case neg => simp [go_sem, *]
  simp [go_sem, *]

theorem threads_is (t g b : Int) (w : World) : Calls Tryd.prog 15 #[.agg #[.int .i64 t, .int .i64 g, .int .i64 b]] w fun e w' => e = .returned (.int .i64 t) ∧ Kp [] w w' := by
  go_enter Tryd.func15, Tryd.ntmps15
  go_wp2
  go_ret
  exact ⟨rfl, (Kp.refl _ _).alloc _⟩
theorem blocks_is (t g b : Int) (w : World) : Calls Tryd.prog 10 #[.agg #[.int .i64 t, .int .i64 g, .int .i64 b]] w fun e w' => e = .returned (.int .i64 b) ∧ Kp [] w w' := by
  go_enter Tryd.func10, Tryd.ntmps10
  go_wp2
  go_ret
  exact ⟨rfl, (Kp.refl _ _).alloc _⟩
theorem roots_is (t g b : Int) (w : World) (t0 : 0 ≤ t) (t1 : t ≤ 64) : Calls Tryd.prog 32 #[.agg #[.int .i64 t, .int .i64 g, .int .i64 b]] w fun e w' => e = .returned (.int .i64 (3 + t)) ∧ Kp [] w w' := by
  go_enter Tryd.func32, Tryd.ntmps32
  go_wp2
  go_ret
  exact ⟨rfl, (Kp.refl _ _).alloc _⟩

/-- A layout's box: its three cells, and that below it all is as it was. -/
abbrev Box3 (w0 : World) (t g b : Int) (w' : World) : Prop :=
  w'.cell? ⟨w0.heap.size, 0, none⟩ = some (.int .i64 t) ∧ w'.cell? ⟨w0.heap.size, 1, none⟩ = some (.int .i64 g) ∧ w'.cell? ⟨w0.heap.size, 2, none⟩ = some (.int .i64 b) ∧ Below w0.heap.size w0 w' ∧ w0.heap.size < w'.heap.size
theorem box3_new (w0 : World) (t g b : Int) (T : TypeId) : Box3 w0 t g b (w0.alloc (.cells #[.int .i64 t, .int .i64 g, .int .i64 b] T)) :=
  ⟨by simp, by simp, by simp, by go_grown, by simp⟩
theorem box3_step {w0 w w' : World} {t g b : Int} (h : Box3 w0 t g b w) (hk : Kp [] w w') : Box3 w0 t g b w' := by
  obtain ⟨s0, s1, s2, s7, s8⟩ := h
  have hb := hk.to_below
  have hc := (bcell hb).1
  exact ⟨(hc _ _ s8).trans s0, (hc _ _ s8).trans s1, (hc _ _ s8).trans s2, s7.trans (hb.mono (Nat.le_of_lt s8)), Nat.lt_of_lt_of_le s8 hb.size⟩
theorem box3_drew {w0 w : World} {t g b : Int} (h : Box3 w0 t g b w) : Box3 w0 t g b w.drew := by
  obtain ⟨s0, s1, s2, s7, s8⟩ := h
  exact ⟨s0, s1, s2, s7.drew, s8⟩

theorem table_is (t g b : Int) (w : World) (t0 : 0 ≤ t) (t1 : t ≤ 64) (g0 : 0 ≤ g) (g1 : g ≤ 8) : Calls Tryd.prog 20 #[.agg #[.int .i64 t, .int .i64 g, .int .i64 b]] w fun e w' => e = .returned (.int .i64 (3 + t + g)) ∧ Kp [] w w' := by
  have k1 := Lib.hid (fun w => roots_is t g b w t0 t1)
  go_enter Tryd.func20, Tryd.ntmps20
  go_wp2
  have hw1 := IntWalk.i64_in (3 + t + g) (by omega)
  go_region_held3 (fun w' => w'.cell? ⟨w.heap.size, 0, none⟩ = some (.int .i64 t) ∧ w'.cell? ⟨w.heap.size, 1, none⟩ = some (.int .i64 g) ∧ w'.cell? ⟨w.heap.size, 2, none⟩ = some (.int .i64 b) ∧ Below w.heap.size w w' ∧ w.heap.size < w'.heap.size)
    (first
      | exact ⟨by simp, by simp, by simp, by go_grown, by simp⟩
      | exact box3_step ‹Box3 w t g b _› hk)
    (first | (go_at_call 32; refine (k1.out _).mono ?_; rintro e w' ⟨rfl, hk⟩))
  obtain ⟨_, _, _, bel, _⟩ := ‹_ ∧ _›
  clear hk
  go_wp2
  go_ret
  exact ⟨rfl, kp_of_below bel⟩

theorem first_is (t g b : Int) (w : World) (t0 : 0 ≤ t) (t1 : t ≤ 64) (g0 : 0 ≤ g) (g1 : g ≤ 8) (b0 : 0 ≤ b) (b1 : b ≤ 64) : Calls Tryd.prog 31 #[.agg #[.int .i64 t, .int .i64 g, .int .i64 b]] w fun e w' => e = .returned (.int .i64 (3 + t + g + b)) ∧ Kp [] w w' := by
  have k1 := Lib.hid (fun w => table_is t g b w t0 t1 g0 g1)
  go_enter Tryd.func31, Tryd.ntmps31
  go_wp2
  have hw1 := IntWalk.i64_in (3 + t + g + b) (by omega)
  go_region_held3 (fun w' => w'.cell? ⟨w.heap.size, 0, none⟩ = some (.int .i64 t) ∧ w'.cell? ⟨w.heap.size, 1, none⟩ = some (.int .i64 g) ∧ w'.cell? ⟨w.heap.size, 2, none⟩ = some (.int .i64 b) ∧ Below w.heap.size w w' ∧ w.heap.size < w'.heap.size)
    (first
      | exact ⟨by simp, by simp, by simp, by go_grown, by simp⟩
      | exact box3_step ‹Box3 w t g b _› hk)
    (first | (go_at_call 20; refine (k1.out _).mono ?_; rintro e w' ⟨rfl, hk⟩))
  obtain ⟨_, _, _, bel, _⟩ := ‹_ ∧ _›
  clear hk
  go_wp2
  go_ret
  exact ⟨rfl, kp_of_below bel⟩

theorem row_of (f n d : Int) (w : World) :
    Calls Tryd.prog 30 #[.int .i64 f, .int .i64 n, .int .i64 d] w fun e w' => e = .returned (.func (.func 42) #[] #[.pointer (some ⟨w.heap.size + 1, 0, none⟩), .pointer (some ⟨w.heap.size, 0, none⟩), .pointer (some ⟨w.heap.size + 2, 0, none⟩)]) ∧
      ((w.alloc (.cells #[.int .i64 f] 3)).alloc (.cells #[.int .i64 n] 3)).alloc (.cells #[.int .i64 d] 3) = w' := by
  go_enter Tryd.func30, Tryd.ntmps30
  go_wp2
  go_ret
  exact ⟨rfl, rfl⟩

theorem place_is (f n d k p : Int) (bf bn bd : Nat) (w : World) (hp : rowP f n d k = p) (f0 : 0 ≤ f) (f1 : f ≤ 200) (n0 : 0 ≤ n) (n1 : n ≤ 64) (d0 : 0 ≤ d) (d1 : d ≤ 32) (hf : w.cell? ⟨bf, 0, none⟩ = some (.int .i64 f)) (hn : w.cell? ⟨bn, 0, none⟩ = some (.int .i64 n)) (hd : w.cell? ⟨bd, 0, none⟩ = some (.int .i64 d)) :
    Calls Tryd.prog 42 #[.int .i64 k, .pointer (some ⟨bn, 0, none⟩), .pointer (some ⟨bf, 0, none⟩), .pointer (some ⟨bd, 0, none⟩)] w fun e w' => e = .returned (.int .i64 p) ∧ w = w' := by
  subst hp
  rcases (by omega : k < 0 ∨ (0 ≤ k ∧ n ≤ k) ∨ (0 ≤ k ∧ k < n)) with h | ⟨h0, h1⟩ | ⟨h0, h1⟩
  · rw [rowP_out (.inl h)]
    go_enter Tryd.func42, Tryd.ntmps42
    go_wp2
    go_ret
    exact ⟨rfl, rfl⟩
  · rw [rowP_out (.inr h1)]
    go_enter Tryd.func42, Tryd.ntmps42
    go_wp2
    go_ret
    exact ⟨rfl, rfl⟩
  · rw [rowP_in h0 h1]
    have h2 : 0 ≤ k * d := Int.mul_nonneg h0 d0
    have h3 : k * d ≤ 2048 := Int.le_trans (Int.mul_le_mul (show k ≤ 64 by omega) d1 d0 (by omega)) (by omega)
    go_enter Tryd.func42, Tryd.ntmps42
    go_wp2
    go_ret
    exact ⟨rfl, rfl⟩

end Go.Proofs.YtinkpbenmfnnhaaDoor.Ly
