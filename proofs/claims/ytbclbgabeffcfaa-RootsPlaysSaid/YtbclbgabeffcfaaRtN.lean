/- 'wakes' of layer 9, and the law RootsNil's walk: both return true; no older block turns. Conditions: none. -/
import Derived.Test.YtbclbgabeffcfaaRtC
namespace Go.Proofs.Ytbclbgabeffcfaa
set_option linter.unusedVariables false
set_option linter.unusedSimpArgs false
open Go.RowKit

/-- Roots of the call's own: made since w. -/
structure Own (w : World) (p : Nat) (A L : List Int) (w' : World) : Prop where
  rt : Rt w' p A L
  kp : Kp [] w w'
  hp : w.heap.size ≤ p

section
variable {w w' w'' : World} {p : Nat} {A A' L L' : List Int}
theorem Own.on (h : Own w p A L w') (k : Kp [] w' w'') : Own w p A L w'' := ⟨h.rt.keep0 k, h.kp.trans k, h.hp⟩
theorem Own.turn (h : Own w p A L w') (s : Rt w'' p A' L') (k : Kp [p] w' w'') : Own w p A' L' w'' :=
  ⟨s, ((h.kp.mono (by simp)).trans k).mono fun x hx hlt => by have := h.hp; simp at hx; omega, h.hp⟩
end

set_option maxRecDepth 100000 in
theorem wakes_any (w : World) : Calls Try.prog 6 #[] w fun e w' => e = .returned (.bool true) ∧ Kp [] w w' := by
  obtain ⟨p, hp⟩ : ∃ p, p = w.heap.size := ⟨_, rfl⟩
  have hnew : Calls Try.prog 7 #[.int .i64 2] w fun e w' => e = .returned (.tuple #[.pointer (some ⟨p, 0, none⟩), .int .i64 0]) ∧ Own w p [0, 0] [] w' :=
    (new_good w 2 (by omega) (by omega)).mono (by rintro e w' ⟨rfl, hs, hk⟩; exact ⟨by rw [hp], hp ▸ hs, hk, by omega⟩)
  clear hp
  go_enter Try.func6, Try.ntmps6
  go_wp2_with fail
  refine hnew.mono ?_
  rintro e w1 ⟨rfl, hs1⟩
  have H1 := Lib.hid hs1
  clear hs1 hnew
  have h1 : Calls Try.prog 13 #[.pointer (some ⟨p, 0, none⟩), .int .i64 0, .int .i64 7] w1 fun e w' => e = .returned (.int .i64 0) ∧ Rt w' p [7, 0] [] ∧ Kp [p] w1 w' := set_ok w1 p [0, 0] [] H1.out.rt 0 7 (by decide) (by decide)
  go_wp2_with fail
  refine h1.mono ?_
  rintro e w2 ⟨rfl, hs2, hk2⟩
  have H2 := Lib.hid (H1.out.turn hs2 hk2)
  clear hs2 hk2 h1 H1
  have h2 : Calls Try.prog 9 #[.pointer (some ⟨p, 0, none⟩), .int .i64 0] w2 fun e w' => e = .returned (.int .i64 0) ∧ Rt w' p [7, 0] [7] ∧ Kp [p] w2 w' := push_ok w2 p [7, 0] [] H2.out.rt 0 (by decide) (by decide)
  go_wp2_with fail
  refine h2.mono ?_
  rintro e w3 ⟨rfl, hs3, hk3⟩
  have H3 := Lib.hid (H2.out.turn hs3 hk3)
  clear hs3 hk3 h2 H2
  have h3 : Calls Try.prog 13 #[.pointer (some ⟨p, 0, none⟩), .int .i64 0, .int .i64 8] w3 fun e w' => e = .returned (.int .i64 0) ∧ Rt w' p [8, 0] [7] ∧ Kp [p] w3 w' := set_ok w3 p [7, 0] [7] H3.out.rt 0 8 (by decide) (by decide)
  go_wp2_with fail
  refine h3.mono ?_
  rintro e w4 ⟨rfl, hs4, hk4⟩
  have H4 := Lib.hid (H3.out.turn hs4 hk4)
  clear hs4 hk4 h3 H3
  have h4 : Calls Try.prog 11 #[.pointer (some ⟨p, 0, none⟩), .int .i64 1] w4 fun e w' => e = .returned (.int .i64 0) ∧ Rt w' p [8, 7] [] ∧ Kp [p] w4 w' := pop_ok w4 p [8, 0] [] 7 H4.out.rt 1 (by decide)
  go_wp2_with fail
  refine h4.mono ?_
  rintro e w5 ⟨rfl, hs5, hk5⟩
  have H5 := Lib.hid (H4.out.turn hs5 hk5)
  clear hs5 hk5 h4 H4
  have h5 : Calls Try.prog 15 #[.pointer (some ⟨p, 0, none⟩)] w5 (Ans w5 [8, 7]) := all_any w5 p [8, 7] [] H5.out.rt
  go_wp2_with fail
  refine h5.mono ?_
  rintro e w6 ⟨ao, c, rfl, hR, hk6⟩
  have H6 := Lib.hid (H5.out.on hk6)
  obtain ⟨g, c', hv, _⟩ := hR.at (by simp)
  rw [hv] at hR ⊢
  have c0 : w6.cell? ⟨g, 0, none⟩ = some (.int .i64 8) := hR.cell (i := 0) (by decide)
  have c1 : w6.cell? ⟨g, 1, none⟩ = some (.int .i64 7) := hR.cell (i := 1) (by decide)
  clear hR hv hk6 h5 H5
  have h6 : Calls Try.prog 18 #[.pointer (some ⟨p, 0, none⟩)] w6 fun e w' => e = .returned (.int .i64 2) ∧ w6 = w' := slots_any w6 p [8, 7] [] H6.out.rt
  have h7 : Calls Try.prog 17 #[.pointer (some ⟨p, 0, none⟩)] w6 fun e w' => e = .returned (.int .i64 0) ∧ w6 = w' := depth_any w6 p [8, 7] [] H6.out.rt
  simp only [List.length_cons, List.length_nil]
  go_wp2_with (first
    | ((with_reducible refine h6.mono ?_); rintro e w7 ⟨rfl, rfl⟩)
    | ((with_reducible refine h7.mono ?_); rintro e w7 ⟨rfl, rfl⟩))
  go_ret
  exact ⟨rfl, H6.out.kp⟩

set_option maxRecDepth 100000 in
/-- RootsNil, walked. -/
theorem nil_any (w : World) (k x : Int) : Calls Try.prog 4 #[.int .i64 k, .int .i64 x] w fun e w' => e = .returned (.bool true) ∧ Kp [] w w' := by
  have h1 := get_nil w k
  have h2 := set_nil w k x
  have h3 := push_nil w k
  have h4 := pop_nil w k
  have h5 := all_nil w
  go_enter Try.func4, Try.ntmps4
  go_wp2_with (first
    | ((with_reducible refine h1.mono ?_); rintro e w1 ⟨rfl, rfl⟩)
    | ((with_reducible refine h2.mono ?_); rintro e w1 ⟨rfl, rfl⟩)
    | ((with_reducible refine h3.mono ?_); rintro e w1 ⟨rfl, rfl⟩)
    | ((with_reducible refine h4.mono ?_); rintro e w1 ⟨rfl, rfl⟩))
  refine h5.mono ?_
  rintro e w1 ⟨ao, c, rfl, _, hk1⟩
  have H1 := Lib.hid hk1
  clear hk1 h1 h2 h3 h4 h5
  have h6 := stack_nil w1
  simp only [List.length_nil]
  go_wp2_with fail
  refine h6.mono ?_
  rintro e w2 ⟨rfl, hk2⟩
  have H2 := Lib.hid (H1.out.trans hk2)
  clear hk2 h6 H1
  have h7 := slots_nil w2
  have h8 := depth_nil w2
  have h9 := wakes_any w2
  go_wp2_with (first
    | ((with_reducible refine h7.mono ?_); rintro e w3 ⟨rfl, rfl⟩)
    | ((with_reducible refine h8.mono ?_); rintro e w3 ⟨rfl, rfl⟩))
  refine h9.mono ?_
  rintro e w3 ⟨rfl, hk3⟩
  have H3 := Lib.hid (H2.out.trans hk3)
  clear hk3 h9 H2
  go_wp2_with fail
  go_ret
  exact ⟨rfl, H3.out⟩

end Go.Proofs.Ytbclbgabeffcfaa
