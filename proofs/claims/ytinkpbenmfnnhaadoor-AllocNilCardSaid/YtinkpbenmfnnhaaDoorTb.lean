/- The walks of layer table: each contract says what a call answers, and that no block that was there has turned. Conditions: as each theorem states them (the numbers are those of a uint8, of a uint64). -/
import Derived.Test.YtinkpbenmfnnhaaDoorRows
import Derived.Test.YtinkpbenmfnnhaaDoorLaw
import Derived.Test.YtinkpbenmfnnhaaDoorKeep
import Derived.Test.YtinkpbenmfnnhaaDoorTbP
import Derived.WalkKit
import Derived.WalkSpells
import Derived.WalkLawsBesides
import Derived.BigQuiet
import Derived.RegionTactic
import Derived.ChangeAlike
import Derived.Handy
import Derived.Deep.RegionHeld3
import Derived.Lib.Hide
namespace Go.Proofs.YtinkpbenmfnnhaaDoor.Tb
set_option linter.unusedVariables false
set_option linter.unusedSimpArgs false
open Go.RowKit

abbrev entV (k c r o : Int) : Value := .agg #[.int .u8 k, .int .u8 c, .int .u8 r, .int .u8 o]

theorem eqT (k c r o k' c' r' o' : Int) (w : World) :
    (binOp .eql 84 (.agg #[.int .u8 k, .int .u8 c, .int .u8 r, .int .u8 o]) (.agg #[.int .u8 k', .int .u8 c', .int .u8 r', .int .u8 o'])).run Tryd.prog w = .ok (.bool (eqE k c r o k' c' r' o')) w := by
  by_cases h1 : k = k'
  case neg => simp [go_sem, eqE, *]
  by_cases h2 : c = c'
  case neg => simp [go_sem, eqE, *]
  by_cases h3 : r = r'
  case neg => simp [go_sem, eqE, *]
  by_cases h4 : o = o'
  case neg => simp [go_sem, eqE, *]
  simp [go_sem, eqE, *]
theorem neT (k c r o k' c' r' o' : Int) (w : World) :
    (binOp .neq 84 (.agg #[.int .u8 k, .int .u8 c, .int .u8 r, .int .u8 o]) (.agg #[.int .u8 k', .int .u8 c', .int .u8 r', .int .u8 o'])).run Tryd.prog w = .ok (.bool (!eqE k c r o k' c' r' o')) w := by
  by_cases h1 : k = k'
  case neg => simp [go_sem, eqE, *]
  by_cases h2 : c = c'
  case neg => simp [go_sem, eqE, *]
  by_cases h3 : r = r'
  case neg => simp [go_sem, eqE, *]
  by_cases h4 : o = o'
  case neg => simp [go_sem, eqE, *]
  simp [go_sem, eqE, *]

theorem has_is (m p : Int) (r : Bool) (b : Nat) (w : World) (hr : (bits .and .u8 p m != 0) = r) (hc : w.cell? ⟨b, 0, none⟩ = some (.int .u8 p)) :
    Calls Tryd.prog 88 #[.int .u8 m, .pointer (some ⟨b, 0, none⟩)] w fun e w' => e = .returned (.bool r) ∧ w = w' := by
  go_enter Tryd.func88, Tryd.ntmps88
  go_wp2
  go_ret
  exact ⟨rfl, rfl⟩

theorem parts_of (k q : Int) (w : World) (hq : partsK k = q) :
    Calls Tryd.prog 83 #[.int .u8 k] w fun e w' => e = .returned (.func (.func 88) #[] #[.pointer (some ⟨w.heap.size, 0, none⟩)]) ∧ w.alloc (.cells #[.int .u8 q] 5) = w' := by
  subst hq
  rcases kind_cases k with rfl | rfl | rfl | rfl | rfl | rfl | ⟨h1, h2, h5, h4, h⟩
  iterate 6
    · go_enter Tryd.func83, Tryd.ntmps83
      go_wp2
      go_ret
      exact ⟨rfl, rfl⟩
  rw [partsK_out h]
  clear h
  go_enter Tryd.func83, Tryd.ntmps83
  go_wp2
  go_ret
  exact ⟨rfl, rfl⟩

theorem blocks_is (k c r o : Int) (w : World) (hr0 : 0 ≤ r) (hr1 : r ≤ 255) :
    Calls Tryd.prog 71 #[.agg #[.int .u8 k, .int .u8 c, .int .u8 r, .int .u8 o]] w fun e w' => e = .returned (.int .i64 (blkE k r)) ∧ Kp [] w w' := by
  have key : ∀ (q : Int) (b : Bool), partsK k = q → (bits .and .u8 q 2 != 0) = b → (if b then r else 1) = blkE k r →
      Calls Tryd.prog 71 #[.agg #[.int .u8 k, .int .u8 c, .int .u8 r, .int .u8 o]] w fun e w' => e = .returned (.int .i64 (blkE k r)) ∧ Kp [] w w' := by
    intro q b hq hb hz
    have h1 := fun w => parts_of k q w hq
    have h2 := fun n w => has_is 2 q b n w hb
    rw [← hz]
    clear hq hb hz
    cases b
    · go_enter Tryd.func71, Tryd.ntmps71
      go_wp2_with (first | ((with_reducible refine (h1 _).mono ?_); rintro e w' ⟨rfl, rfl⟩) | ((with_reducible refine (h2 _ _ (by simp)).mono ?_); rintro e w' ⟨rfl, rfl⟩))
      go_ret
      exact ⟨rfl, ((Kp.refl _ _).alloc _).alloc _⟩
    · go_enter Tryd.func71, Tryd.ntmps71
      go_wp2_with (first | ((with_reducible refine (h1 _).mono ?_); rintro e w' ⟨rfl, rfl⟩) | ((with_reducible refine (h2 _ _ (by simp)).mono ?_); rintro e w' ⟨rfl, rfl⟩))
      go_ret
      exact ⟨rfl, ((Kp.refl _ _).alloc _).alloc _⟩
  rcases kind_cases k with rfl | rfl | rfl | rfl | rfl | rfl | ⟨h1, h2, h5, h4, h⟩
  iterate 6
    · exact key _ _ rfl rfl rfl
  exact key 0 false (partsK_out h) (by decide) (blkE_out h).symm

set_option maxHeartbeats 1000000 in
theorem proper_nnn (k c r o q : Int) (w : World) (hr0 : 0 ≤ r) (hr1 : r ≤ 255) (hq : partsK k = q) (g1 : (bits .and .u8 q 1 != 0) = false) (g2 : (bits .and .u8 q 2 != 0) = false) (g3 : (bits .and .u8 q 4 != 0) = false) :
    Calls Tryd.prog 72 #[.agg #[.int .u8 k, .int .u8 c, .int .u8 r, .int .u8 o]] w fun e w' => e = .returned (.agg #[.int .u8 k, .int .u8 0, .int .u8 0, .int .u8 0]) ∧ Kp [] w w' := by
  have h1 := fun w => parts_of k q w hq
  have a1 := fun n w => has_is 1 q false n w g1
  have a2 := fun n w => has_is 2 q false n w g2
  have a4 := fun n w => has_is 4 q false n w g3
  clear hq g1 g2 g3
  go_enter Tryd.func72, Tryd.ntmps72
  go_wp2_with (first
    | ((with_reducible refine (h1 _).mono ?_); rintro e w' ⟨rfl, rfl⟩)
    | ((with_reducible refine (a1 _ _ (by simp [go_sem])).mono ?_); rintro e w' ⟨rfl, rfl⟩)
    | ((with_reducible refine (a2 _ _ (by simp [go_sem])).mono ?_); rintro e w' ⟨rfl, rfl⟩)
    | ((with_reducible refine (a4 _ _ (by simp [go_sem])).mono ?_); rintro e w' ⟨rfl, rfl⟩))
  go_returns
  exact ⟨rfl, kp_of_below (by go_grown)⟩

set_option maxHeartbeats 1000000 in
theorem proper_yny (k c r o q : Int) (w : World) (hr0 : 0 ≤ r) (hr1 : r ≤ 255) (hq : partsK k = q) (g1 : (bits .and .u8 q 1 != 0) = true) (g2 : (bits .and .u8 q 2 != 0) = false) (g3 : (bits .and .u8 q 4 != 0) = true) :
    Calls Tryd.prog 72 #[.agg #[.int .u8 k, .int .u8 c, .int .u8 r, .int .u8 o]] w fun e w' => e = .returned (.agg #[.int .u8 k, .int .u8 c, .int .u8 0, .int .u8 o]) ∧ Kp [] w w' := by
  have h1 := fun w => parts_of k q w hq
  have a1 := fun n w => has_is 1 q true n w g1
  have a2 := fun n w => has_is 2 q false n w g2
  have a4 := fun n w => has_is 4 q true n w g3
  clear hq g1 g2 g3
  go_enter Tryd.func72, Tryd.ntmps72
  go_wp2_with (first
    | ((with_reducible refine (h1 _).mono ?_); rintro e w' ⟨rfl, rfl⟩)
    | ((with_reducible refine (a1 _ _ (by simp [go_sem])).mono ?_); rintro e w' ⟨rfl, rfl⟩)
    | ((with_reducible refine (a2 _ _ (by simp [go_sem])).mono ?_); rintro e w' ⟨rfl, rfl⟩)
    | ((with_reducible refine (a4 _ _ (by simp [go_sem])).mono ?_); rintro e w' ⟨rfl, rfl⟩))
  go_returns
  exact ⟨rfl, kp_of_below (by go_grown)⟩

set_option maxHeartbeats 1000000 in
theorem proper_nyy (k c r o q : Int) (w : World) (hr0 : 0 ≤ r) (hr1 : r ≤ 255) (hq : partsK k = q) (g1 : (bits .and .u8 q 1 != 0) = false) (g2 : (bits .and .u8 q 2 != 0) = true) (g3 : (bits .and .u8 q 4 != 0) = true) :
    Calls Tryd.prog 72 #[.agg #[.int .u8 k, .int .u8 c, .int .u8 r, .int .u8 o]] w fun e w' => e = .returned (.agg #[.int .u8 k, .int .u8 0, .int .u8 (max r 1), .int .u8 o]) ∧ Kp [] w w' := by
  have h1 := fun w => parts_of k q w hq
  have a1 := fun n w => has_is 1 q false n w g1
  have a2 := fun n w => has_is 2 q true n w g2
  have a4 := fun n w => has_is 4 q true n w g3
  clear hq g1 g2 g3
  go_enter Tryd.func72, Tryd.ntmps72
  go_wp2_with (first
    | ((with_reducible refine (h1 _).mono ?_); rintro e w' ⟨rfl, rfl⟩)
    | ((with_reducible refine (a1 _ _ (by simp [go_sem])).mono ?_); rintro e w' ⟨rfl, rfl⟩)
    | ((with_reducible refine (a2 _ _ (by simp [go_sem])).mono ?_); rintro e w' ⟨rfl, rfl⟩)
    | ((with_reducible refine (a4 _ _ (by simp [go_sem])).mono ?_); rintro e w' ⟨rfl, rfl⟩))
  all_goals go_returns
  all_goals (refine ⟨?_, kp_of_below (by go_grown)⟩; first | rw [show max r 1 = r from by omega] | rw [show max r 1 = 1 from by omega])

set_option maxHeartbeats 1000000 in
theorem proper_nny (k c r o q : Int) (w : World) (hr0 : 0 ≤ r) (hr1 : r ≤ 255) (hq : partsK k = q) (g1 : (bits .and .u8 q 1 != 0) = false) (g2 : (bits .and .u8 q 2 != 0) = false) (g3 : (bits .and .u8 q 4 != 0) = true) :
    Calls Tryd.prog 72 #[.agg #[.int .u8 k, .int .u8 c, .int .u8 r, .int .u8 o]] w fun e w' => e = .returned (.agg #[.int .u8 k, .int .u8 0, .int .u8 0, .int .u8 o]) ∧ Kp [] w w' := by
  have h1 := fun w => parts_of k q w hq
  have a1 := fun n w => has_is 1 q false n w g1
  have a2 := fun n w => has_is 2 q false n w g2
  have a4 := fun n w => has_is 4 q true n w g3
  clear hq g1 g2 g3
  go_enter Tryd.func72, Tryd.ntmps72
  go_wp2_with (first
    | ((with_reducible refine (h1 _).mono ?_); rintro e w' ⟨rfl, rfl⟩)
    | ((with_reducible refine (a1 _ _ (by simp [go_sem])).mono ?_); rintro e w' ⟨rfl, rfl⟩)
    | ((with_reducible refine (a2 _ _ (by simp [go_sem])).mono ?_); rintro e w' ⟨rfl, rfl⟩)
    | ((with_reducible refine (a4 _ _ (by simp [go_sem])).mono ?_); rintro e w' ⟨rfl, rfl⟩))
  go_returns
  exact ⟨rfl, kp_of_below (by go_grown)⟩

theorem proper_is (k c r o : Int) (w : World) (hr0 : 0 ≤ r) (hr1 : r ≤ 255) :
    Calls Tryd.prog 72 #[.agg #[.int .u8 k, .int .u8 c, .int .u8 r, .int .u8 o]] w fun e w' => e = .returned (.agg #[.int .u8 k, .int .u8 (prC k c), .int .u8 (prR k r), .int .u8 (prO k o)]) ∧ Kp [] w w' := by
  rcases kind_cases k with rfl | rfl | rfl | rfl | rfl | rfl | ⟨h1, h2, h5, h4, h⟩
  · exact proper_nnn 0 c r o 0 w hr0 hr1 rfl (by decide) (by decide) (by decide)
  · exact proper_yny 1 c r o 5 w hr0 hr1 rfl (by decide) (by decide) (by decide)
  · exact proper_nyy 2 c r o 6 w hr0 hr1 rfl (by decide) (by decide) (by decide)
  · exact proper_nnn 3 c r o 0 w hr0 hr1 rfl (by decide) (by decide) (by decide)
  · exact proper_nny 4 c r o 4 w hr0 hr1 rfl (by decide) (by decide) (by decide)
  · exact proper_nyy 5 c r o 6 w hr0 hr1 rfl (by decide) (by decide) (by decide)
  rw [prC_out h, prR_out h, prO_out h]
  exact proper_nnn k c r o 0 w hr0 hr1 (partsK_out h) (by decide) (by decide) (by decide)

theorem kp_draws {S : List Nat} {w w' : World} (h : Kp S w w') (n : Nat) : Kp S w (w'.drewN n) := ⟨h.os, h.tape, h.output, h.size, h.block⟩

set_option maxHeartbeats 1000000 in
theorem may_core (k c r o : Int) (w : World) (h1 : k ≤ 5) (h2 : c < 4) (h3 : r ≤ 3) (h4 : o < 64) (hr0 : 0 ≤ r) :
    Calls Tryd.prog 56 #[.agg #[.int .u8 k, .int .u8 c, .int .u8 r, .int .u8 o]] w fun e w' => e = .returned (.bool (eqE k c r o k (prC k c) (prR k r) (prO k o))) ∧ Kp [] w w' := by
  have heq := eqT k c r o k (prC k c) (prR k r) (prO k o)
  have hprop := Lib.hid (fun w => proper_is k c r o w hr0 (by omega))
  go_enter Tryd.func56, Tryd.ntmps56
  go_wp2
  go_region_held3 (fun w' => w'.cell? ⟨w.heap.size, 0, none⟩ = some (.int .u8 k) ∧ w'.cell? ⟨w.heap.size, 1, none⟩ = some (.int .u8 c) ∧ w'.cell? ⟨w.heap.size, 2, none⟩ = some (.int .u8 r) ∧ w'.cell? ⟨w.heap.size, 3, none⟩ = some (.int .u8 o) ∧
      Below w.heap.size w w' ∧ w.heap.size < w'.heap.size)
    (first
      | exact ⟨by simp, by simp, by simp, by simp, by go_grown, by simp⟩
      | (obtain ⟨s0, s1, s2, s3, s7, s8⟩ := ‹_ ∧ _›
         exact ⟨(hc _ _ s8).trans s0, (hc _ _ s8).trans s1, (hc _ _ s8).trans s2, (hc _ _ s8).trans s3, s7.trans (hb.mono (Nat.le_of_lt s8)), Nat.lt_of_lt_of_le s8 hb.size⟩))
    (first | (go_at_call 72; refine (hprop.out _).mono ?_; rintro e w' ⟨rfl, hk⟩; have hb := hk.to_below; obtain ⟨hc, hf⟩ := bcell hb))
  obtain ⟨_, _, _, _, bel, _⟩ := ‹_ ∧ _›
  clear hk hb hc hf
  go_wp2
  go_ret
  exact ⟨rfl, kp_of_below bel⟩

theorem may_short (k c r o : Int) (w : World) (h : ¬ (k ≤ 5 ∧ c < 4 ∧ r ≤ 3 ∧ o < 64)) :
    Calls Tryd.prog 56 #[.agg #[.int .u8 k, .int .u8 c, .int .u8 r, .int .u8 o]] w fun e w' => e = .returned (.bool false) ∧ Kp [] w w' := by
  by_cases h1 : k ≤ 5
  · by_cases h2 : c < 4
    · by_cases h3 : r ≤ 3
      · have h4 : ¬ o < 64 := fun h4 => h ⟨h1, h2, h3, h4⟩
        have hd : decide (o < 64) = false := by simpa using h4
        clear h
        go_enter Tryd.func56, Tryd.ntmps56
        go_wp2
        go_quiet (fail)
        go_wp2
        go_ret
        exact ⟨rfl, kp_of_below (below_draws (by go_grown) _)⟩
      · have hd : decide (r ≤ 3) = false := by simpa using h3
        clear h
        go_enter Tryd.func56, Tryd.ntmps56
        go_wp2
        go_quiet (fail)
        go_wp2
        go_ret
        exact ⟨rfl, kp_of_below (below_draws (by go_grown) _)⟩
    · have hd : decide (c < 4) = false := by simpa using h2
      clear h
      go_enter Tryd.func56, Tryd.ntmps56
      go_wp2
      go_quiet (fail)
      go_wp2
      go_ret
      exact ⟨rfl, kp_of_below (below_draws (by go_grown) _)⟩
  · have hd : decide (k ≤ 5) = false := by simpa using h1
    clear h
    go_enter Tryd.func56, Tryd.ntmps56
    go_wp2
    go_quiet (fail)
    go_wp2
    go_ret
    exact ⟨rfl, kp_of_below (below_draws (by go_grown) _)⟩

theorem may_is (k c r o : Int) (b : Bool) (w : World) (hk : 0 ≤ k) (hc : 0 ≤ c) (hr : 0 ≤ r) (ho : 0 ≤ o) (h : mayE k c r o = b) :
    Calls Tryd.prog 56 #[.agg #[.int .u8 k, .int .u8 c, .int .u8 r, .int .u8 o]] w fun e w' => e = .returned (.bool b) ∧ Kp [] w w' := by
  subst h
  by_cases h : k ≤ 5 ∧ c < 4 ∧ r ≤ 3 ∧ o < 64
  · obtain ⟨h1, h2, h3, h4⟩ := h
    refine (may_core k c r o w h1 h2 h3 h4 hr).mono fun e w' ⟨he, hb⟩ => ⟨?_, hb⟩
    rw [he, proper_may hk hc hr ho h1 h2 h3 h4]
  · refine (may_short k c r o w h).mono fun e w' ⟨he, hb⟩ => ⟨?_, hb⟩
    rw [he, mayE_short h]

end Go.Proofs.YtinkpbenmfnnhaaDoor.Tb
