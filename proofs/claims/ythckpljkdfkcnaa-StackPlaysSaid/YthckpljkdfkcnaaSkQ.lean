/- The document's own stack (demesneref08): Push, whatever it is; and the acts of a law, opened. Conditions: as each theorem states them. -/
import Derived.Test.YthckpljkdfkcnaaSkP
namespace Go.Proofs.Ythckpljkdfkcnaa
set_option linter.unusedVariables false
set_option linter.unusedSimpArgs false
open Go.RowKit

theorem rpush_full (w : World) (N : Nat) (u : Value) (L : List Int) (x : Int) (o : Bool) (h : Rd w u L) (hN : N ≤ L.length) (hl : L.length ≤ 100) :
    Calls Try.prog 11 #[.agg #[.int .i64 N, u, .bool o], .int .i64 x] w fun e w' => e = .returned (.tuple #[.agg #[.int .i64 N, u, .bool true], .bool false]) ∧ Kp [] w w' := by
  obtain ⟨ao, cap, hu, _⟩ := h.form
  subst hu
  clear h
  generalize L.length = n at hN hl
  go_enter Try.func11, Try.ntmps11
  go_wp2_with fail
  have hz := heap_alloc_new (w.alloc (Obj.cells #[.int .i64 N, .slice ao n cap, .bool o] 30)) (Obj.cells #[.int .i64 N, .slice ao n cap, .bool true] 30)
  rw [World.size_alloc] at hz
  exact bodyPost_row_tmp rfl (w.heap.size + 1) 30 _ (0, 0) _ (.bool false) rfl rfl rfl hz Try.underlying30 rfl (by kernel_rfl) ⟨rfl, ((Kp.refl _ _).alloc _).alloc _⟩

theorem rpush_any (w : World) (N : Nat) (u : Value) (L : List Int) (x : Int) (o : Bool) (h : Rd w u L) (hl : L.length ≤ 100) (hN : N ≤ 100) :
    Calls Try.prog 11 #[.agg #[.int .i64 N, u, .bool o], .int .i64 x] w fun e w' => ∃ u', e = .returned (.tuple #[.agg #[.int .i64 N, u', .bool (o || !decide (L.length < N))], .bool (decide (L.length < N))]) ∧ Rd w' u' (pushL N L x) ∧ Kp [] w w' := by
  by_cases hn : L.length < N
  · refine (rpush_room w N u L x o h hl hn hN).mono ?_
    rintro e w' ⟨u', rfl, hr, hk⟩
    refine ⟨u', ?_, ?_, hk⟩
    · simp [hn]
    · rw [pushL, if_pos hn]; exact hr
  · refine (rpush_full w N u L x o h (by omega) hl).mono ?_
    rintro e w' ⟨rfl, hk⟩
    refine ⟨u, ?_, ?_, hk⟩
    · simp [hn]
    · rw [pushL, if_neg hn]; exact h.keep0 hk

end Go.Proofs.Ythckpljkdfkcnaa
