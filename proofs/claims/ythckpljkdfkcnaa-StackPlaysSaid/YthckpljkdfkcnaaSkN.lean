/- 'wakes' of layer 8, and the law StackNil's walk: both return true; below the heap's old size nothing turns. Conditions: none. -/
import Derived.Test.YthckpljkdfkcnaaSk
namespace Go.Proofs.Ythckpljkdfkcnaa
set_option linter.unusedVariables false
set_option linter.unusedSimpArgs false
open Go.RowKit

/-- A stack of the call's own: made since w. -/
structure Own (w : World) (p r n : Nat) (L : List Int) (o : Bool) (w' : World) : Prop where
  sk : Sk w' p r n L o
  bel : Below w.heap.size w w'
  hp : w.heap.size ≤ p
  hr : w.heap.size ≤ r

section
variable {w w' w'' : World} {p r n : Nat} {L L' : List Int} {o o' : Bool}
theorem Own.on (h : Own w p r n L o w') (k : Kp [] w' w'') : Own w p r n L o w'' := ⟨h.sk.keep0 k, h.bel.trans (k.below h.bel.size (by simp)), h.hp, h.hr⟩
theorem Own.turn (h : Own w p r n L o w') (s : Sk w'' p r n L' o') (k : Kp [p, r] w' w'') : Own w p r n L' o' w'' :=
  ⟨s, h.bel.trans (k.below h.bel.size (by have := h.hp; have := h.hr; simp; omega)), h.hp, h.hr⟩

theorem Own.made (s : Sk w' p r n L o) (k : Kp [] w w') (hp : p = w.heap.size + 1) (hr : r = w.heap.size) : Own w p r n L o w' := ⟨s, k.to_below, by omega, by omega⟩
end

set_option maxRecDepth 100000 in
theorem wakes_any (w : World) : Calls Try.prog 6 #[] w fun e w' => e = .returned (.bool true) ∧ Below w.heap.size w w' := by
  obtain ⟨p, hp⟩ : ∃ p, p = w.heap.size + 1 := ⟨_, rfl⟩
  obtain ⟨r, hr⟩ : ∃ r, r = w.heap.size := ⟨_, rfl⟩
  have hnew : Calls Try.prog 7 #[.int .i64 2] w fun e w' => e = .returned (.tuple #[.pointer (some ⟨p, 0, none⟩), .int .i64 0]) ∧ Own w p r 2 [] false w' :=
    (new_good w 2 (by omega) (by omega)).mono (by rintro e w' ⟨rfl, hs, hk⟩; exact ⟨by rw [hp], Own.made (hp ▸ hr ▸ hs) hk hp hr⟩)
  clear hp hr
  go_enter Try.func6, Try.ntmps6
  go_wp2_with fail
  refine hnew.mono ?_
  rintro e w1 ⟨rfl, hs1⟩
  have H1 := Lib.hid hs1
  clear hs1 hnew
  have h1 : Calls Try.prog 12 #[.pointer (some ⟨p, 0, none⟩), .int .i64 5] w1 fun e w' => e = .returned (.bool true) ∧ Sk w' p r 2 [5] false ∧ Kp [p, r] w1 w' := push_room w1 p r 2 [] 5 false H1.out.sk (by decide)
  go_wp2_with fail
  refine h1.mono ?_
  rintro e w2 ⟨rfl, hs2, hk2⟩
  have H2 := Lib.hid (H1.out.turn hs2 hk2)
  clear hs2 hk2 h1 H1
  have h2 : Calls Try.prog 12 #[.pointer (some ⟨p, 0, none⟩), .int .i64 6] w2 fun e w' => e = .returned (.bool true) ∧ Sk w' p r 2 [5, 6] false ∧ Kp [p, r] w2 w' := push_room w2 p r 2 [5] 6 false H2.out.sk (by decide)
  go_wp2_with fail
  refine h2.mono ?_
  rintro e w3 ⟨rfl, hs3, hk3⟩
  have H3 := Lib.hid (H2.out.turn hs3 hk3)
  clear hs3 hk3 h2 H2
  have h3 := push_full w3 p r 2 [5, 6] 7 false H3.out.sk rfl
  go_wp2_with fail
  refine h3.mono ?_
  rintro e w4 ⟨rfl, hs4, hk4⟩
  have H4 := Lib.hid (H3.out.turn hs4 hk4)
  clear hs4 hk4 h3 H3
  have h4 : Calls Try.prog 8 #[.pointer (some ⟨p, 0, none⟩)] w4 fun e w' => e = .returned (.tuple #[.int .i64 6, .bool true]) ∧ Sk w' p r 2 [5] true ∧ Kp [p, r] w4 w' := pop_some w4 p r 2 [5] 6 true H4.out.sk
  go_wp2_with fail
  refine h4.mono ?_
  rintro e w5 ⟨rfl, hs5, hk5⟩
  have H5 := Lib.hid (H4.out.turn hs5 hk5)
  clear hs5 hk5 h4 H4
  have h5 := over_any w5 p r 2 [5] true H5.out.sk
  go_wp2_with fail
  refine h5.mono ?_
  rintro e w6 ⟨rfl, hs6, hk6⟩
  have H6 := Lib.hid (H5.out.turn hs6 hk6)
  clear hs6 hk6 h5 H5
  have h6 := over_any w6 p r 2 [5] false H6.out.sk
  go_wp2_with fail
  refine h6.mono ?_
  rintro e w7 ⟨rfl, hs7, hk7⟩
  have H7 := Lib.hid (H6.out.turn hs7 hk7)
  clear hs7 hk7 h6 H6
  have h7 : Calls Try.prog 14 #[.pointer (some ⟨p, 0, none⟩)] w7 fun e w' => e = .returned (.int .i64 1) ∧ w7 = w' := len_any w7 p r 2 [5] false H7.out.sk
  go_wp2_with ((with_reducible refine h7.mono ?_); rintro e w8 ⟨rfl, rfl⟩)
  go_ret
  exact ⟨rfl, H7.out.bel⟩

set_option maxRecDepth 100000 in
/-- StackNil, walked. -/
theorem nil_any (w : World) (x : Int) : Calls Try.prog 4 #[.int .i64 x] w fun e w' => e = .returned (.bool true) ∧ Below w.heap.size w w' := by
  have h1 := pop_nil w
  have h2 := push_nil w x
  have h3 := over_nil w
  have h4 := all_nil w
  have h5 : ∀ w, Calls Try.prog 14 #[.pointer none] w _ := len_nil
  go_enter Try.func4, Try.ntmps4
  go_wp2_with (first
    | ((with_reducible refine h1.mono ?_); rintro e w1 ⟨rfl, rfl⟩)
    | ((with_reducible refine h2.mono ?_); rintro e w1 ⟨rfl, rfl⟩)
    | ((with_reducible refine h3.mono ?_); rintro e w1 ⟨rfl, rfl⟩)
    | ((with_reducible refine h4.mono ?_); rintro e w1 ⟨rfl, hk1⟩; have HB := Lib.hid hk1.to_below; clear hk1))
  refine (h5 _).mono ?_
  rintro e w2 ⟨rfl, rfl⟩
  go_wp2_with fail
  refine (wakes_any _).mono ?_
  rintro e w3 ⟨rfl, hb⟩
  have HE := Lib.hid (HB.out.trans (hb.mono HB.out.size))
  clear hb HB
  go_wp2_with fail
  go_ret
  exact ⟨rfl, HE.out⟩

end Go.Proofs.Ythckpljkdfkcnaa
