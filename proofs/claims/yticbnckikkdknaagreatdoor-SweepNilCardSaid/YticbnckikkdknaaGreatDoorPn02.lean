/- The walks of layer table: each contract says what a call answers, and that no block that was there has turned. Conditions: as each theorem states them (the numbers are those of a uint8, of a uint64). The walks of layer table, on: an entry's word and back (Put, Take). Conditions: as each theorem states them (the numbers are those of a uint8, of a uint64). Plain facts on an arena's layout: its numbers as plain functions. Conditions: none beyond the theorems' own. The walks of layer layout: each contract says what a call answers, and that no block that was there has turned. The walks of layer layout, on: the places of global roots, entries, blocks. The arena of a layout as the walks hold it: its words, one touch each; what is asked of numbers. The walks of package give over whatever layout: Begin. The walks of package give, on: Set, Claim. Conditions: as each theorem states them. -/
import Derived.Test.YticbnckikkdknaaGreatDoorRows
import Derived.WalkKit
import Derived.WalkSpells
import Derived.WalkLawsBesides
import Derived.BigQuiet
import Derived.RegionTactic
import Derived.ChangeAlike
import Derived.Handy
import Derived.Deep.RegionHeld3
import Derived.Lib.Hide
import Derived.Deep.RegionWith
import Derived.IntWalk
import Derived.LoopTactic
import Derived.Deep.LoopGhost
import Derived.Deep.CutBlock
import Derived.Deep.CutRange
import Derived.Deep.DeepCutAuto
import Derived.Test.YticbnckikkdknaaGreatDoorPn01
namespace Go.Proofs.YticbnckikkdknaaGreatDoor.Tb
set_option linter.unusedVariables false
set_option linter.unusedSimpArgs false
open Go.RowKit

theorem eqT (k c r o k' c' r' o' : Int) (w : World) :
    (binOp .eql 110 (.agg #[.int .u8 k, .int .u8 c, .int .u8 r, .int .u8 o]) (.agg #[.int .u8 k', .int .u8 c', .int .u8 r', .int .u8 o'])).run Tryz.prog w = .ok (.bool (eqE k c r o k' c' r' o')) w := by
  by_cases h1 : k = k'
  case neg => simp [go_sem, eqE, *]
  by_cases h2 : c = c'
  case neg => simp [go_sem, eqE, *]
  by_cases h3 : r = r'
  case neg => simp [go_sem, eqE, *]
  by_cases h4 : o = o'
  case neg => simp [go_sem, eqE, *]
  simp [go_sem, eqE, *]
theorem has_is (m p : Int) (r : Bool) (b : Nat) (w : World) (hr : (bits .and .u8 p m != 0) = r) (hc : w.cell? ⟨b, 0, none⟩ = some (.int .u8 p)) :
    Calls Tryz.prog 163 #[.int .u8 m, .pointer (some ⟨b, 0, none⟩)] w fun e w' => e = .returned (.bool r) ∧ w = w' := by
  go_enter Tryz.func163, Tryz.ntmps163
  go_wp2
  go_ret
  exact ⟨rfl, rfl⟩

theorem parts_of (k q : Int) (w : World) (hq : partsK k = q) :
    Calls Tryz.prog 149 #[.int .u8 k] w fun e w' => e = .returned (.func (.func 163) #[] #[.pointer (some ⟨w.heap.size, 0, none⟩)]) ∧ w.alloc (.cells #[.int .u8 q] 5) = w' := by
  subst hq
  rcases kind_cases k with rfl | rfl | rfl | rfl | rfl | rfl | ⟨h1, h2, h5, h4, h⟩
  iterate 6
    · go_enter Tryz.func149, Tryz.ntmps149
      go_wp2
      go_ret
      exact ⟨rfl, rfl⟩
  rw [partsK_out h]
  clear h
  go_enter Tryz.func149, Tryz.ntmps149
  go_wp2
  go_ret
  exact ⟨rfl, rfl⟩

theorem blocks_is (k c r o : Int) (w : World) (hr0 : 0 ≤ r) (hr1 : r ≤ 255) :
    Calls Tryz.prog 121 #[.agg #[.int .u8 k, .int .u8 c, .int .u8 r, .int .u8 o]] w fun e w' => e = .returned (.int .i64 (blkE k r)) ∧ Kp [] w w' := by
  have key : ∀ (q : Int) (b : Bool), partsK k = q → (bits .and .u8 q 2 != 0) = b → (if b then r else 1) = blkE k r →
      Calls Tryz.prog 121 #[.agg #[.int .u8 k, .int .u8 c, .int .u8 r, .int .u8 o]] w fun e w' => e = .returned (.int .i64 (blkE k r)) ∧ Kp [] w w' := by
    intro q b hq hb hz
    have h1 := fun w => parts_of k q w hq
    have h2 := fun n w => has_is 2 q b n w hb
    rw [← hz]
    clear hq hb hz
    cases b
    · go_enter Tryz.func121, Tryz.ntmps121
      go_wp2_with (first | ((with_reducible refine (h1 _).mono ?_); rintro e w' ⟨rfl, rfl⟩) | ((with_reducible refine (h2 _ _ (by simp)).mono ?_); rintro e w' ⟨rfl, rfl⟩))
      go_ret
      exact ⟨rfl, ((Kp.refl _ _).alloc _).alloc _⟩
    · go_enter Tryz.func121, Tryz.ntmps121
      go_wp2_with (first | ((with_reducible refine (h1 _).mono ?_); rintro e w' ⟨rfl, rfl⟩) | ((with_reducible refine (h2 _ _ (by simp)).mono ?_); rintro e w' ⟨rfl, rfl⟩))
      go_ret
      exact ⟨rfl, ((Kp.refl _ _).alloc _).alloc _⟩
  rcases kind_cases k with rfl | rfl | rfl | rfl | rfl | rfl | ⟨h1, h2, h5, h4, h⟩
  iterate 6
    · exact key _ _ rfl rfl rfl
  exact key 0 false (partsK_out h) (by decide) (blkE_out h).symm

set_option maxHeartbeats 1000000 in
theorem proper_nnn (k c r o q : Int) (w : World) (hr0 : 0 ≤ r) (hr1 : r ≤ 255) (hq : partsK k = q) (g1 : (bits .and .u8 q 1 != 0) = false) (g2 : (bits .and .u8 q 2 != 0) = false) (g3 : (bits .and .u8 q 4 != 0) = false) :
    Calls Tryz.prog 151 #[.agg #[.int .u8 k, .int .u8 c, .int .u8 r, .int .u8 o]] w fun e w' => e = .returned (.agg #[.int .u8 k, .int .u8 0, .int .u8 0, .int .u8 0]) ∧ Kp [] w w' := by
  have h1 := fun w => parts_of k q w hq
  have a1 := fun n w => has_is 1 q false n w g1
  have a2 := fun n w => has_is 2 q false n w g2
  have a4 := fun n w => has_is 4 q false n w g3
  clear hq g1 g2 g3
  go_enter Tryz.func151, Tryz.ntmps151
  go_wp2_with (first
    | ((with_reducible refine (h1 _).mono ?_); rintro e w' ⟨rfl, rfl⟩)
    | ((with_reducible refine (a1 _ _ (by simp [go_sem])).mono ?_); rintro e w' ⟨rfl, rfl⟩)
    | ((with_reducible refine (a2 _ _ (by simp [go_sem])).mono ?_); rintro e w' ⟨rfl, rfl⟩)
    | ((with_reducible refine (a4 _ _ (by simp [go_sem])).mono ?_); rintro e w' ⟨rfl, rfl⟩))
  go_returns
  exact ⟨rfl, kp_of_below (by go_grown)⟩

set_option maxHeartbeats 1000000 in
theorem proper_yny (k c r o q : Int) (w : World) (hr0 : 0 ≤ r) (hr1 : r ≤ 255) (hq : partsK k = q) (g1 : (bits .and .u8 q 1 != 0) = true) (g2 : (bits .and .u8 q 2 != 0) = false) (g3 : (bits .and .u8 q 4 != 0) = true) :
    Calls Tryz.prog 151 #[.agg #[.int .u8 k, .int .u8 c, .int .u8 r, .int .u8 o]] w fun e w' => e = .returned (.agg #[.int .u8 k, .int .u8 c, .int .u8 0, .int .u8 o]) ∧ Kp [] w w' := by
  have h1 := fun w => parts_of k q w hq
  have a1 := fun n w => has_is 1 q true n w g1
  have a2 := fun n w => has_is 2 q false n w g2
  have a4 := fun n w => has_is 4 q true n w g3
  clear hq g1 g2 g3
  go_enter Tryz.func151, Tryz.ntmps151
  go_wp2_with (first
    | ((with_reducible refine (h1 _).mono ?_); rintro e w' ⟨rfl, rfl⟩)
    | ((with_reducible refine (a1 _ _ (by simp [go_sem])).mono ?_); rintro e w' ⟨rfl, rfl⟩)
    | ((with_reducible refine (a2 _ _ (by simp [go_sem])).mono ?_); rintro e w' ⟨rfl, rfl⟩)
    | ((with_reducible refine (a4 _ _ (by simp [go_sem])).mono ?_); rintro e w' ⟨rfl, rfl⟩))
  go_returns
  exact ⟨rfl, kp_of_below (by go_grown)⟩

set_option maxHeartbeats 1000000 in
theorem proper_nyy (k c r o q : Int) (w : World) (hr0 : 0 ≤ r) (hr1 : r ≤ 255) (hq : partsK k = q) (g1 : (bits .and .u8 q 1 != 0) = false) (g2 : (bits .and .u8 q 2 != 0) = true) (g3 : (bits .and .u8 q 4 != 0) = true) :
    Calls Tryz.prog 151 #[.agg #[.int .u8 k, .int .u8 c, .int .u8 r, .int .u8 o]] w fun e w' => e = .returned (.agg #[.int .u8 k, .int .u8 0, .int .u8 (max r 1), .int .u8 o]) ∧ Kp [] w w' := by
  have h1 := fun w => parts_of k q w hq
  have a1 := fun n w => has_is 1 q false n w g1
  have a2 := fun n w => has_is 2 q true n w g2
  have a4 := fun n w => has_is 4 q true n w g3
  clear hq g1 g2 g3
  go_enter Tryz.func151, Tryz.ntmps151
  go_wp2_with (first
    | ((with_reducible refine (h1 _).mono ?_); rintro e w' ⟨rfl, rfl⟩)
    | ((with_reducible refine (a1 _ _ (by simp [go_sem])).mono ?_); rintro e w' ⟨rfl, rfl⟩)
    | ((with_reducible refine (a2 _ _ (by simp [go_sem])).mono ?_); rintro e w' ⟨rfl, rfl⟩)
    | ((with_reducible refine (a4 _ _ (by simp [go_sem])).mono ?_); rintro e w' ⟨rfl, rfl⟩))
  all_goals go_returns
  all_goals (refine ⟨?_, kp_of_below (by go_grown)⟩; first | rw [show max r 1 = r from by omega] | rw [show max r 1 = 1 from by omega])

set_option maxHeartbeats 1000000 in
theorem proper_nny (k c r o q : Int) (w : World) (hr0 : 0 ≤ r) (hr1 : r ≤ 255) (hq : partsK k = q) (g1 : (bits .and .u8 q 1 != 0) = false) (g2 : (bits .and .u8 q 2 != 0) = false) (g3 : (bits .and .u8 q 4 != 0) = true) :
    Calls Tryz.prog 151 #[.agg #[.int .u8 k, .int .u8 c, .int .u8 r, .int .u8 o]] w fun e w' => e = .returned (.agg #[.int .u8 k, .int .u8 0, .int .u8 0, .int .u8 o]) ∧ Kp [] w w' := by
  have h1 := fun w => parts_of k q w hq
  have a1 := fun n w => has_is 1 q false n w g1
  have a2 := fun n w => has_is 2 q false n w g2
  have a4 := fun n w => has_is 4 q true n w g3
  clear hq g1 g2 g3
  go_enter Tryz.func151, Tryz.ntmps151
  go_wp2_with (first
    | ((with_reducible refine (h1 _).mono ?_); rintro e w' ⟨rfl, rfl⟩)
    | ((with_reducible refine (a1 _ _ (by simp [go_sem])).mono ?_); rintro e w' ⟨rfl, rfl⟩)
    | ((with_reducible refine (a2 _ _ (by simp [go_sem])).mono ?_); rintro e w' ⟨rfl, rfl⟩)
    | ((with_reducible refine (a4 _ _ (by simp [go_sem])).mono ?_); rintro e w' ⟨rfl, rfl⟩))
  go_returns
  exact ⟨rfl, kp_of_below (by go_grown)⟩

theorem proper_is (k c r o : Int) (w : World) (hr0 : 0 ≤ r) (hr1 : r ≤ 255) :
    Calls Tryz.prog 151 #[.agg #[.int .u8 k, .int .u8 c, .int .u8 r, .int .u8 o]] w fun e w' => e = .returned (.agg #[.int .u8 k, .int .u8 (prC k c), .int .u8 (prR k r), .int .u8 (prO k o)]) ∧ Kp [] w w' := by
  rcases kind_cases k with rfl | rfl | rfl | rfl | rfl | rfl | ⟨h1, h2, h5, h4, h⟩
  · exact proper_nnn 0 c r o 0 w hr0 hr1 rfl (by decide) (by decide) (by decide)
  · exact proper_yny 1 c r o 5 w hr0 hr1 rfl (by decide) (by decide) (by decide)
  · exact proper_nyy 2 c r o 6 w hr0 hr1 rfl (by decide) (by decide) (by decide)
  · exact proper_nnn 3 c r o 0 w hr0 hr1 rfl (by decide) (by decide) (by decide)
  · exact proper_nny 4 c r o 4 w hr0 hr1 rfl (by decide) (by decide) (by decide)
  · exact proper_nyy 5 c r o 6 w hr0 hr1 rfl (by decide) (by decide) (by decide)
  rw [prC_out h, prR_out h, prO_out h]
  exact proper_nnn k c r o 0 w hr0 hr1 (partsK_out h) (by decide) (by decide) (by decide)

set_option maxHeartbeats 1000000 in
theorem may_core (k c r o : Int) (w : World) (h1 : k ≤ 5) (h2 : c < 4) (h3 : r ≤ 3) (h4 : o < 64) (hr0 : 0 ≤ r) :
    Calls Tryz.prog 124 #[.agg #[.int .u8 k, .int .u8 c, .int .u8 r, .int .u8 o]] w fun e w' => e = .returned (.bool (eqE k c r o k (prC k c) (prR k r) (prO k o))) ∧ Kp [] w w' := by
  have heq := eqT k c r o k (prC k c) (prR k r) (prO k o)
  have hprop := Lib.hid (fun w => proper_is k c r o w hr0 (by omega))
  go_enter Tryz.func124, Tryz.ntmps124
  go_wp2
  go_region_held3 (fun w' => w'.cell? ⟨w.heap.size, 0, none⟩ = some (.int .u8 k) ∧ w'.cell? ⟨w.heap.size, 1, none⟩ = some (.int .u8 c) ∧ w'.cell? ⟨w.heap.size, 2, none⟩ = some (.int .u8 r) ∧ w'.cell? ⟨w.heap.size, 3, none⟩ = some (.int .u8 o) ∧
      Below w.heap.size w w' ∧ w.heap.size < w'.heap.size)
    (first
      | exact ⟨by simp, by simp, by simp, by simp, by go_grown, by simp⟩
      | (obtain ⟨s0, s1, s2, s3, s7, s8⟩ := ‹_ ∧ _›
         exact ⟨(hc _ _ s8).trans s0, (hc _ _ s8).trans s1, (hc _ _ s8).trans s2, (hc _ _ s8).trans s3, s7.trans (hb.mono (Nat.le_of_lt s8)), Nat.lt_of_lt_of_le s8 hb.size⟩))
    (first | (go_at_call 151; refine (hprop.out _).mono ?_; rintro e w' ⟨rfl, hk⟩; have hb := hk.to_below; obtain ⟨hc, hf⟩ := bcell hb))
  obtain ⟨_, _, _, _, bel, _⟩ := ‹_ ∧ _›
  clear hk hb hc hf
  go_wp2
  go_ret
  exact ⟨rfl, kp_of_below bel⟩

theorem may_short (k c r o : Int) (w : World) (h : ¬ (k ≤ 5 ∧ c < 4 ∧ r ≤ 3 ∧ o < 64)) :
    Calls Tryz.prog 124 #[.agg #[.int .u8 k, .int .u8 c, .int .u8 r, .int .u8 o]] w fun e w' => e = .returned (.bool false) ∧ Kp [] w w' := by
  by_cases h1 : k ≤ 5
  · by_cases h2 : c < 4
    · by_cases h3 : r ≤ 3
      · have h4 : ¬ o < 64 := fun h4 => h ⟨h1, h2, h3, h4⟩
        have hd : decide (o < 64) = false := by simpa using h4
        clear h
        go_enter Tryz.func124, Tryz.ntmps124
        go_wp2
        go_quiet (fail)
        go_wp2
        go_ret
        exact ⟨rfl, kp_of_below (below_draws (by go_grown) _)⟩
      · have hd : decide (r ≤ 3) = false := by simpa using h3
        clear h
        go_enter Tryz.func124, Tryz.ntmps124
        go_wp2
        go_quiet (fail)
        go_wp2
        go_ret
        exact ⟨rfl, kp_of_below (below_draws (by go_grown) _)⟩
    · have hd : decide (c < 4) = false := by simpa using h2
      clear h
      go_enter Tryz.func124, Tryz.ntmps124
      go_wp2
      go_quiet (fail)
      go_wp2
      go_ret
      exact ⟨rfl, kp_of_below (below_draws (by go_grown) _)⟩
  · have hd : decide (k ≤ 5) = false := by simpa using h1
    clear h
    go_enter Tryz.func124, Tryz.ntmps124
    go_wp2
    go_quiet (fail)
    go_wp2
    go_ret
    exact ⟨rfl, kp_of_below (below_draws (by go_grown) _)⟩

theorem may_is (k c r o : Int) (b : Bool) (w : World) (hk : 0 ≤ k) (hc : 0 ≤ c) (hr : 0 ≤ r) (ho : 0 ≤ o) (h : mayE k c r o = b) :
    Calls Tryz.prog 124 #[.agg #[.int .u8 k, .int .u8 c, .int .u8 r, .int .u8 o]] w fun e w' => e = .returned (.bool b) ∧ Kp [] w w' := by
  subst h
  by_cases h : k ≤ 5 ∧ c < 4 ∧ r ≤ 3 ∧ o < 64
  · obtain ⟨h1, h2, h3, h4⟩ := h
    refine (may_core k c r o w h1 h2 h3 h4 hr).mono fun e w' ⟨he, hb⟩ => ⟨?_, hb⟩
    rw [he, proper_may hk hc hr ho h1 h2 h3 h4]
  · refine (may_short k c r o w h).mono fun e w' ⟨he, hb⟩ => ⟨?_, hb⟩
    rw [he, mayE_short h]

end Go.Proofs.YticbnckikkdknaaGreatDoor.Tb

namespace Go.Proofs.YticbnckikkdknaaGreatDoor.Tb
set_option linter.unusedVariables false
set_option linter.unusedSimpArgs false
open Go.RowKit

theorem put_yes (k c r o : Int) (w : World) (hk : 0 ≤ k) (hc : 0 ≤ c) (hr : 0 ≤ r) (ho : 0 ≤ o) (h : mayE k c r o = true) :
    Calls Tryz.prog 146 #[.agg #[.int .u8 k, .int .u8 c, .int .u8 r, .int .u8 o]] w fun e w' => e = .returned (.tuple #[.int .u64 (wordE k c r o), .int .i64 0]) ∧ Kp [] w w' := by
  have hm := mayE_iff.1 h
  have o1 := or_mul k c 8 3 (by omega) (by decide) hk (by omega) hc (by omega)
  have o2 := or_mul (k + c * 8) r 32 5 (by omega) (by decide) (by omega) (by omega) hr (by omega)
  have o3 := or_mul (k + c * 8 + r * 32) o 128 7 (by omega) (by decide) (by omega) (by omega) ho (by omega)
  have hw : k + c * 8 + r * 32 + o * 128 = wordE k c r o := rfl
  rw [hw] at o3
  have hmay := Lib.hid (fun w => may_is k c r o true w hk hc hr ho h)
  have hm1 : k ≤ 5 ∧ c ≤ 3 ∧ o ≤ 63 ∧ r ≤ 3 := ⟨hm.1, hm.2.1, hm.2.2.1, hm.2.2.2.1⟩
  obtain ⟨m1, m2, m3, m4⟩ := hm1
  clear hm h hw
  go_enter Tryz.func146, Tryz.ntmps146
  go_wp2_with fail
  refine (hmay.out _).mono ?_; rintro e w1 ⟨rfl, hkp⟩
  have hb := hkp.to_below
  obtain ⟨hc1, hf1⟩ := bcell hb
  have kp := Lib.hid (((Kp.refl [] w).alloc _).trans hkp)
  clear hb hkp
  go_wp2
  go_ret2
  exact ⟨rfl, kp.out⟩

theorem part_any (f t x q d : Int) (b : Nat) (w : World) (h0 : 0 ≤ f) (h1 : f < t) (h2 : t - f ≤ 8) (ht2 : t ≤ 25) (hq : q = 2 ^ (t - f).toNat) (hd : d = 2 ^ f.toNat) (hx : 0 ≤ x) (hx2 : x < 18446744073709551616) (hc : w.cell? ⟨b, 0, none⟩ = some (.int .u64 x)) :
    Calls Tryz.prog 150 #[.int .i64 f, .int .i64 t, .pointer (some ⟨b, 0, none⟩)] w fun e w' => e = .returned (.int .u8 (x / d % q)) ∧ w.drew = w' := by
  have hh := and_part x q d f.toNat (t - f).toNat (by omega) hq hd hx hx2
  have hm := part_u8 (x / d) q (t - f).toNat (by omega) hq
  clear hq hd hx2
  go_enter Tryz.func150, Tryz.ntmps150
  go_wp2
  go_region
  go_wp2
  go_ret
  exact ⟨rfl, rfl⟩

theorem unpack_is (x : Int) (w : World) (h0 : 0 ≤ x) (h1 : x < 18446744073709551616) :
    Calls Tryz.prog 123 #[.int .u64 x] w fun e w' => e = .returned (.agg #[.int .u8 (x % 8), .int .u8 (x / 8 % 4), .int .u8 (x / 32 % 4), .int .u8 (x / 128 % 64)]) ∧ Kp [] w w' := by
  have H1 := Lib.hid h1
  clear h1
  go_enter Tryz.func123, Tryz.ntmps123
  go_wp2_with fail
  refine (part_any 0 3 x 8 1 w.heap.size _ (by omega) (by omega) (by omega) (by omega) (by decide) (by decide) h0 H1.out (by simp)).mono ?_; rintro e w' ⟨rfl, rfl⟩
  go_wp2_with fail
  refine (part_any 3 5 x 4 8 w.heap.size _ (by omega) (by omega) (by omega) (by omega) (by decide) (by decide) h0 H1.out (by simp)).mono ?_; rintro e w' ⟨rfl, rfl⟩
  go_wp2_with fail
  refine (part_any 5 7 x 4 32 w.heap.size _ (by omega) (by omega) (by omega) (by omega) (by decide) (by decide) h0 H1.out (by simp)).mono ?_; rintro e w' ⟨rfl, rfl⟩
  go_wp2_with fail
  refine (part_any 7 13 x 64 128 w.heap.size _ (by omega) (by omega) (by omega) (by omega) (by decide) (by decide) h0 H1.out (by simp)).mono ?_; rintro e w' ⟨rfl, rfl⟩
  go_wp2
  go_returns
  exact ⟨rfl, kp_of_below (by go_grown)⟩

theorem take_high (x : Int) (w : World) (h0 : 0 ≤ x) (h1 : x < 18446744073709551616) (h : 8192 ≤ x) :
    Calls Tryz.prog 80 #[.int .u64 x] w fun e w' => e = .returned (.tuple #[.agg #[.int .u8 0, .int .u8 0, .int .u8 0, .int .u8 0], .int .i64 3]) ∧ Kp [] w w' := by
  have H1 := Lib.hid h1
  clear h1
  have hne : (x / 8192 != 0) = true := by simp; omega
  clear h
  go_enter Tryz.func80, Tryz.ntmps80
  go_wp2_with fail
  refine (unpack_is x _ h0 H1.out).mono ?_; rintro e w1 ⟨rfl, hk⟩
  have blk := Lib.hid (hk.row (by simp) (heap_alloc_new w _))
  have kp := Lib.hid (((Kp.refl [] w).alloc _).trans hk)
  have hz : w.heap.size < w1.heap.size := by have := hk.size; simp at this; omega
  clear hk
  go_wp2_with (refine wpList_store_row rfl 110 _ _ rfl w.heap.size _ rfl rfl 110 _ ((Below.heap_alloc _ _ _ hz).trans blk.out) (by kernel_rfl) rfl (by simp [Value.oneCell']) ?_)
  exact bodyPost_row_tmp rfl w.heap.size 110 _ (0, 0) _ (.int .i64 3) rfl rfl rfl (setRow_heap _ _ _ _ _ _ ((Below.heap_alloc _ _ _ hz).trans blk.out)) Tryz.underlying110 rfl (by kernel_rfl)
    ⟨rfl, (kp.out.alloc _).setRow (.inr (Nat.le_refl _)) _⟩

theorem take_low (x n k c r o : Int) (b : Bool) (w : World) (h0 : 0 ≤ x) (h : x < 8192) (hm : mayE (x % 8) (x / 8 % 4) (x / 32 % 4) (x / 128 % 64) = b)
    (hb : (b = true ∧ n = 0 ∧ k = x % 8 ∧ c = x / 8 % 4 ∧ r = x / 32 % 4 ∧ o = x / 128 % 64) ∨ (b = false ∧ n = 3 ∧ k = 0 ∧ c = 0 ∧ r = 0 ∧ o = 0)) :
    Calls Tryz.prog 80 #[.int .u64 x] w fun e w' => e = .returned (.tuple #[.agg #[.int .u8 k, .int .u8 c, .int .u8 r, .int .u8 o], .int .i64 n]) ∧ Kp [] w w' := by
  have hne : (x / 8192 != 0) = false := by simp; omega
  have hx : x < 18446744073709551616 := by omega
  have H1 := Lib.hid hx
  have hmay := Lib.hid (fun w => may_is _ _ _ _ b w (by omega) (by omega) (by omega) (by omega) hm)
  clear hx h hm
  rcases hb with ⟨rfl, rfl, rfl, rfl, rfl, rfl⟩ | ⟨rfl, rfl, rfl, rfl, rfl, rfl⟩
  · go_enter Tryz.func80, Tryz.ntmps80
    go_wp2_with fail
    refine (unpack_is x _ h0 H1.out).mono ?_; rintro e w1 ⟨rfl, hk⟩
    have blk := Lib.hid (hk.row (by simp) (heap_alloc_new w _))
    have kp := Lib.hid (((Kp.refl [] w).alloc _).trans hk)
    have hz : w.heap.size < w1.heap.size := by have := hk.size; simp at this; omega
    clear hk
    go_wp2_with fail
    refine (hmay.out _).mono ?_; rintro e w2 ⟨rfl, hk⟩
    have hb := hk.to_below
    obtain ⟨hc1, hf1⟩ := bcell hb
    have blk2 := Lib.hid (hk.row (by simp) ((Below.heap_alloc _ _ _ hz).trans blk.out))
    have kp2 := Lib.hid ((kp.out.alloc _).trans hk)
    clear hk hb
    go_wp2_with (refine wpList_store_row rfl 110 _ _ rfl w.heap.size _ rfl rfl 110 _ blk2.out (by kernel_rfl) rfl (by simp [Value.oneCell']) ?_)
    exact bodyPost_row_tmp rfl w.heap.size 110 _ (0, 0) _ (.int .i64 0) rfl rfl rfl (setRow_heap _ _ _ _ _ _ blk2.out) Tryz.underlying110 rfl (by kernel_rfl)
      ⟨rfl, kp2.out.setRow (.inr (Nat.le_refl _)) _⟩
  · go_enter Tryz.func80, Tryz.ntmps80
    go_wp2_with fail
    refine (unpack_is x _ h0 H1.out).mono ?_; rintro e w1 ⟨rfl, hk⟩
    have blk := Lib.hid (hk.row (by simp) (heap_alloc_new w _))
    have kp := Lib.hid (((Kp.refl [] w).alloc _).trans hk)
    have hz : w.heap.size < w1.heap.size := by have := hk.size; simp at this; omega
    clear hk
    go_wp2_with fail
    refine (hmay.out _).mono ?_; rintro e w2 ⟨rfl, hk⟩
    have blk2 := Lib.hid (hk.row (by simp) ((Below.heap_alloc _ _ _ hz).trans blk.out))
    have kp2 := Lib.hid ((kp.out.alloc _).trans hk)
    clear hk
    go_wp2_with (refine wpList_store_row rfl 110 _ _ rfl w.heap.size _ rfl rfl 110 _ blk2.out (by kernel_rfl) rfl (by simp [Value.oneCell']) ?_)
    exact bodyPost_row_tmp rfl w.heap.size 110 _ (0, 0) _ (.int .i64 3) rfl rfl rfl (setRow_heap _ _ _ _ _ _ blk2.out) Tryz.underlying110 rfl (by kernel_rfl)
      ⟨rfl, kp2.out.setRow (.inr (Nat.le_refl _)) _⟩

theorem take_some (x : Int) (w : World) (h0 : 0 ≤ x) (h : takeE x = true) :
    Calls Tryz.prog 80 #[.int .u64 x] w fun e w' => e = .returned (.tuple #[.agg #[.int .u8 (x % 8), .int .u8 (x / 8 % 4), .int .u8 (x / 32 % 4), .int .u8 (x / 128 % 64)], .int .i64 0]) ∧ Kp [] w w' := by
  have h' := h
  simp only [takeE, Bool.and_eq_true, decide_eq_true_eq] at h'
  exact take_low x 0 _ _ _ _ true w h0 h'.1 h'.2 (.inl ⟨rfl, rfl, rfl, rfl, rfl, rfl⟩)
theorem take_none (x : Int) (w : World) (h0 : 0 ≤ x) (h1 : x < 18446744073709551616) (h : takeE x = false) :
    Calls Tryz.prog 80 #[.int .u64 x] w fun e w' => e = .returned (.tuple #[.agg #[.int .u8 0, .int .u8 0, .int .u8 0, .int .u8 0], .int .i64 3]) ∧ Kp [] w w' := by
  by_cases hx : x < 8192
  · refine take_low x 3 _ _ _ _ false w h0 hx ?_ (.inr ⟨rfl, rfl, rfl, rfl, rfl, rfl⟩)
    simpa [takeE, hx] using h
  · exact take_high x w h0 h1 (by omega)

end Go.Proofs.YticbnckikkdknaaGreatDoor.Tb

namespace Go.Proofs.YticbnckikkdknaaGreatDoor.Ly

/-- The place of thing k in a row. -/
def rowP (fr things wd k : Int) : Int := if k < 0 ∨ things ≤ k then -1 else fr + k * wd
theorem rowP_out {fr things wd k : Int} (h : k < 0 ∨ things ≤ k) : rowP fr things wd k = -1 := if_pos h
theorem rowP_in {fr things wd k : Int} (h0 : 0 ≤ k) (h1 : k < things) : rowP fr things wd k = fr + k * wd := if_neg (by omega)

end Go.Proofs.YticbnckikkdknaaGreatDoor.Ly

namespace Go.Proofs.YticbnckikkdknaaGreatDoor.Ly
set_option linter.unusedVariables false
set_option linter.unusedSimpArgs false
open Go.RowKit

theorem threads_is (t g b : Int) (w : World) : Calls Tryz.prog 32 #[.agg #[.int .i64 t, .int .i64 g, .int .i64 b]] w fun e w' => e = .returned (.int .i64 t) ∧ Kp [] w w' := by
  go_enter Tryz.func32, Tryz.ntmps32
  go_wp2
  go_ret
  exact ⟨rfl, (Kp.refl _ _).alloc _⟩
theorem blocks_is (t g b : Int) (w : World) : Calls Tryz.prog 43 #[.agg #[.int .i64 t, .int .i64 g, .int .i64 b]] w fun e w' => e = .returned (.int .i64 b) ∧ Kp [] w w' := by
  go_enter Tryz.func43, Tryz.ntmps43
  go_wp2
  go_ret
  exact ⟨rfl, (Kp.refl _ _).alloc _⟩
theorem roots_is (t g b : Int) (w : World) (t0 : 0 ≤ t) (t1 : t ≤ 64) : Calls Tryz.prog 131 #[.agg #[.int .i64 t, .int .i64 g, .int .i64 b]] w fun e w' => e = .returned (.int .i64 (3 + t)) ∧ Kp [] w w' := by
  go_enter Tryz.func131, Tryz.ntmps131
  go_wp2
  go_ret
  exact ⟨rfl, (Kp.refl _ _).alloc _⟩

/-- A layout's box: its three cells, and that below it all is as it was. -/
abbrev Box3 (w0 : World) (t g b : Int) (w' : World) : Prop :=
  w'.cell? ⟨w0.heap.size, 0, none⟩ = some (.int .i64 t) ∧ w'.cell? ⟨w0.heap.size, 1, none⟩ = some (.int .i64 g) ∧ w'.cell? ⟨w0.heap.size, 2, none⟩ = some (.int .i64 b) ∧ Below w0.heap.size w0 w' ∧ w0.heap.size < w'.heap.size
theorem box3_new (w0 : World) (t g b : Int) (T : TypeId) : Box3 w0 t g b (w0.alloc (.cells #[.int .i64 t, .int .i64 g, .int .i64 b] T)) :=
  ⟨by simp, by simp, by simp, by go_grown, by simp⟩
theorem box3_step {w0 w w' : World} {t g b : Int} (h : Box3 w0 t g b w) (hk : Kp [] w w') : Box3 w0 t g b w' := by
  obtain ⟨s0, s1, s2, s7, s8⟩ := h
  have hb := hk.to_below
  have hc := (bcell hb).1
  exact ⟨(hc _ _ s8).trans s0, (hc _ _ s8).trans s1, (hc _ _ s8).trans s2, s7.trans (hb.mono (Nat.le_of_lt s8)), Nat.lt_of_lt_of_le s8 hb.size⟩
theorem box3_drew {w0 w : World} {t g b : Int} (h : Box3 w0 t g b w) : Box3 w0 t g b w.drew := by
  obtain ⟨s0, s1, s2, s7, s8⟩ := h
  exact ⟨s0, s1, s2, s7.drew, s8⟩

theorem table_is (t g b : Int) (w : World) (t0 : 0 ≤ t) (t1 : t ≤ 64) (g0 : 0 ≤ g) (g1 : g ≤ 8) : Calls Tryz.prog 90 #[.agg #[.int .i64 t, .int .i64 g, .int .i64 b]] w fun e w' => e = .returned (.int .i64 (3 + t + g)) ∧ Kp [] w w' := by
  have k1 := Lib.hid (fun w => roots_is t g b w t0 t1)
  go_enter Tryz.func90, Tryz.ntmps90
  go_wp2
  have hw1 := IntWalk.i64_in (3 + t + g) (by omega)
  go_region_held3 (fun w' => w'.cell? ⟨w.heap.size, 0, none⟩ = some (.int .i64 t) ∧ w'.cell? ⟨w.heap.size, 1, none⟩ = some (.int .i64 g) ∧ w'.cell? ⟨w.heap.size, 2, none⟩ = some (.int .i64 b) ∧ Below w.heap.size w w' ∧ w.heap.size < w'.heap.size)
    (first
      | exact ⟨by simp, by simp, by simp, by go_grown, by simp⟩
      | exact box3_step ‹Box3 w t g b _› hk)
    (first | (go_at_call 131; refine (k1.out _).mono ?_; rintro e w' ⟨rfl, hk⟩))
  obtain ⟨_, _, _, bel, _⟩ := ‹_ ∧ _›
  clear hk
  go_wp2
  go_ret
  exact ⟨rfl, kp_of_below bel⟩

theorem first_is (t g b : Int) (w : World) (t0 : 0 ≤ t) (t1 : t ≤ 64) (g0 : 0 ≤ g) (g1 : g ≤ 8) (b0 : 0 ≤ b) (b1 : b ≤ 64) : Calls Tryz.prog 109 #[.agg #[.int .i64 t, .int .i64 g, .int .i64 b]] w fun e w' => e = .returned (.int .i64 (3 + t + g + b)) ∧ Kp [] w w' := by
  have k1 := Lib.hid (fun w => table_is t g b w t0 t1 g0 g1)
  go_enter Tryz.func109, Tryz.ntmps109
  go_wp2
  have hw1 := IntWalk.i64_in (3 + t + g + b) (by omega)
  go_region_held3 (fun w' => w'.cell? ⟨w.heap.size, 0, none⟩ = some (.int .i64 t) ∧ w'.cell? ⟨w.heap.size, 1, none⟩ = some (.int .i64 g) ∧ w'.cell? ⟨w.heap.size, 2, none⟩ = some (.int .i64 b) ∧ Below w.heap.size w w' ∧ w.heap.size < w'.heap.size)
    (first
      | exact ⟨by simp, by simp, by simp, by go_grown, by simp⟩
      | exact box3_step ‹Box3 w t g b _› hk)
    (first | (go_at_call 90; refine (k1.out _).mono ?_; rintro e w' ⟨rfl, hk⟩))
  obtain ⟨_, _, _, bel, _⟩ := ‹_ ∧ _›
  clear hk
  go_wp2
  go_ret
  exact ⟨rfl, kp_of_below bel⟩

theorem row_of (f n d : Int) (w : World) :
    Calls Tryz.prog 108 #[.int .i64 f, .int .i64 n, .int .i64 d] w fun e w' => e = .returned (.func (.func 142) #[] #[.pointer (some ⟨w.heap.size + 1, 0, none⟩), .pointer (some ⟨w.heap.size, 0, none⟩), .pointer (some ⟨w.heap.size + 2, 0, none⟩)]) ∧
      ((w.alloc (.cells #[.int .i64 f] 3)).alloc (.cells #[.int .i64 n] 3)).alloc (.cells #[.int .i64 d] 3) = w' := by
  go_enter Tryz.func108, Tryz.ntmps108
  go_wp2
  go_ret
  exact ⟨rfl, rfl⟩

theorem place_is (f n d k p : Int) (bf bn bd : Nat) (w : World) (hp : rowP f n d k = p) (f0 : 0 ≤ f) (f1 : f ≤ 200) (n0 : 0 ≤ n) (n1 : n ≤ 64) (d0 : 0 ≤ d) (d1 : d ≤ 32) (hf : w.cell? ⟨bf, 0, none⟩ = some (.int .i64 f)) (hn : w.cell? ⟨bn, 0, none⟩ = some (.int .i64 n)) (hd : w.cell? ⟨bd, 0, none⟩ = some (.int .i64 d)) :
    Calls Tryz.prog 142 #[.int .i64 k, .pointer (some ⟨bn, 0, none⟩), .pointer (some ⟨bf, 0, none⟩), .pointer (some ⟨bd, 0, none⟩)] w fun e w' => e = .returned (.int .i64 p) ∧ w = w' := by
  subst hp
  rcases (by omega : k < 0 ∨ (0 ≤ k ∧ n ≤ k) ∨ (0 ≤ k ∧ k < n)) with h | ⟨h0, h1⟩ | ⟨h0, h1⟩
  · rw [rowP_out (.inl h)]
    go_enter Tryz.func142, Tryz.ntmps142
    go_wp2
    go_ret
    exact ⟨rfl, rfl⟩
  · rw [rowP_out (.inr h1)]
    go_enter Tryz.func142, Tryz.ntmps142
    go_wp2
    go_ret
    exact ⟨rfl, rfl⟩
  · rw [rowP_in h0 h1]
    have h2 : 0 ≤ k * d := Int.mul_nonneg h0 d0
    have h3 : k * d ≤ 2048 := Int.le_trans (Int.mul_le_mul (show k ≤ 64 by omega) d1 d0 (by omega)) (by omega)
    go_enter Tryz.func142, Tryz.ntmps142
    go_wp2
    go_ret
    exact ⟨rfl, rfl⟩

end Go.Proofs.YticbnckikkdknaaGreatDoor.Ly

namespace Go.Proofs.YticbnckikkdknaaGreatDoor.Ly
set_option linter.unusedVariables false
set_option linter.unusedSimpArgs false
open Go.RowKit

/-- What tells the places of a row: a closure over three cells. -/
def RowAt (f n d : Int) (w : World) (e : Ending) (w' : World) : Prop :=
  ∃ bf bn bd : Nat, e = .returned (.func (.func 142) #[] #[.pointer (some ⟨bn, 0, none⟩), .pointer (some ⟨bf, 0, none⟩), .pointer (some ⟨bd, 0, none⟩)]) ∧
    w'.cell? ⟨bf, 0, none⟩ = some (.int .i64 f) ∧ w'.cell? ⟨bn, 0, none⟩ = some (.int .i64 n) ∧ w'.cell? ⟨bd, 0, none⟩ = some (.int .i64 d) ∧ Kp [] w w'
theorem row_at (f n d : Int) (w : World) : Calls Tryz.prog 108 #[.int .i64 f, .int .i64 n, .int .i64 d] w (RowAt f n d w) :=
  (row_of f n d w).mono fun e w' ⟨he, hw⟩ => ⟨_, _, _, he, by rw [← hw]; simp [go_sem], by rw [← hw]; simp [go_sem], by rw [← hw]; simp [go_sem], by rw [← hw]; exact (((Kp.refl _ _).alloc _).alloc _).alloc _⟩

set_option maxHeartbeats 1000000 in
theorem entry_is (t g b k p : Int) (w : World) (hp : rowP (3 + t + g) b 1 k = p) (t0 : 0 ≤ t) (t1 : t ≤ 64) (g0 : 0 ≤ g) (g1 : g ≤ 8) (b0 : 0 ≤ b) (b1 : b ≤ 64) : Calls Tryz.prog 81 #[.agg #[.int .i64 t, .int .i64 g, .int .i64 b], .int .i64 k] w fun e w' => e = .returned (.int .i64 p) ∧ Kp [] w w' := by
  have k0 := Lib.hid (fun w => table_is t g b w t0 t1 g0 g1)
  have k1 := Lib.hid (fun w => row_at (3 + t + g) b 1 w)
  have k2 := Lib.hid (fun bf bn bd w => place_is (3 + t + g) b 1 k p bf bn bd w hp (by omega) (by omega) b0 b1 (by omega) (by omega))
  clear hp
  have BN := Lib.hid (box3_new w t g b 33)
  go_enter Tryz.func81, Tryz.ntmps81
  go_wp2
  go_region_with (first
    | (go_at_call 90; refine (k0.out _).mono ?_; rintro e w1 ⟨rfl, hk⟩; have B1 := Lib.hid (box3_step (box3_drew BN.out) hk); clear hk; obtain ⟨s0, s1, s2, s7, s8⟩ := B1.out)
    | (go_at_call 108; refine (k1.out _).mono ?_; rintro e w2 ⟨bf, bn, bd, rfl, hf, hn, hd, hk2⟩))
  all_goals (
    have KK := Lib.hid ((kp_of_below s7).trans hk2)
    clear s0 s1 s2 s7 s8 B1 hk2
    go_wp2_with ((with_reducible refine (k2.out _ _ _ _ hf hn hd).mono ?_); rintro e w' ⟨rfl, rfl⟩)
    go_ret
    exact ⟨rfl, KK.out⟩)

set_option maxHeartbeats 1000000 in
theorem start_is (t g b k p : Int) (w : World) (hp : rowP (3 + t + g + b) b 32 k = p) (t0 : 0 ≤ t) (t1 : t ≤ 64) (g0 : 0 ≤ g) (g1 : g ≤ 8) (b0 : 0 ≤ b) (b1 : b ≤ 64) : Calls Tryz.prog 70 #[.agg #[.int .i64 t, .int .i64 g, .int .i64 b], .int .i64 k] w fun e w' => e = .returned (.int .i64 p) ∧ Kp [] w w' := by
  have k0 := Lib.hid (fun w => first_is t g b w t0 t1 g0 g1 b0 b1)
  have k1 := Lib.hid (fun w => row_at (3 + t + g + b) b 32 w)
  have k2 := Lib.hid (fun bf bn bd w => place_is (3 + t + g + b) b 32 k p bf bn bd w hp (by omega) (by omega) b0 b1 (by omega) (by omega))
  clear hp
  have BN := Lib.hid (box3_new w t g b 33)
  go_enter Tryz.func70, Tryz.ntmps70
  go_wp2
  go_region_with (first
    | (go_at_call 109; refine (k0.out _).mono ?_; rintro e w1 ⟨rfl, hk⟩; have B1 := Lib.hid (box3_step (box3_drew BN.out) hk); clear hk; obtain ⟨s0, s1, s2, s7, s8⟩ := B1.out)
    | (go_at_call 108; refine (k1.out _).mono ?_; rintro e w2 ⟨bf, bn, bd, rfl, hf, hn, hd, hk2⟩))
  all_goals (
    have KK := Lib.hid ((kp_of_below s7).trans hk2)
    clear s0 s1 s2 s7 s8 B1 hk2
    go_wp2_with ((with_reducible refine (k2.out _ _ _ _ hf hn hd).mono ?_); rintro e w' ⟨rfl, rfl⟩)
    go_ret
    exact ⟨rfl, KK.out⟩)

end Go.Proofs.YticbnckikkdknaaGreatDoor.Ly

namespace Go.Proofs.YticbnckikkdknaaGreatDoor
set_option linter.unusedVariables false
set_option linter.unusedSimpArgs false
open Go.RowKit

/-- The arena at p, r has the words H, was touched t times; a layout of T threads, G global roots, n blocks fits into it. -/
structure Hw (T G n p r : Nat) (H : List Int) (t : Nat) (w : World) : Prop where
  ar : ∃ l, Ar w p r ⟨H, t, l⟩
  len : 3 + T + G + 33 * n ≤ H.length
  top : H.length ≤ 4096
  ok : ∀ k, 0 ≤ H.getD k 0 ∧ H.getD k 0 < 18446744073709551616
  hT : T ≤ 64
  hG : G ≤ 8
  hn : n ≤ 64

theorem ext_getD' {xs ys : List Int} (hl : xs.length = ys.length) (h : ∀ k, k < xs.length → xs.getD k 0 = ys.getD k 0) : xs = ys := by
  apply List.ext_getElem hl
  intro i h1 h2
  have := h i h1
  simpa [List.getD_eq_getElem?_getD, h1, h2] using this
theorem getD_set' (H : List Int) (k : Nat) (v : Int) (j : Nat) : (H.set k v).getD j 0 = if j = k ∧ k < H.length then v else H.getD j 0 := by
  by_cases h : j = k
  · subst h
    by_cases hj : j < H.length
    · simp [List.getD_eq_getElem?_getD, hj]
    · simp [List.getD_eq_getElem?_getD, hj, Nat.le_of_not_lt hj]
  · rw [if_neg (fun e => h e.1), List.getD_eq_getElem?_getD, List.getElem?_set_ne (fun e => h e.symm), ← List.getD_eq_getElem?_getD]
theorem set_same' (H : List Int) (k : Nat) : H.set k (H.getD k 0) = H := by
  apply ext_getD' (by simp)
  intro j hj
  rw [getD_set']
  split
  · rename_i e; rw [e.1]
  · rfl

section
variable {T G n p r t : Nat} {H : List Int} {w w' : World}
theorem Hw.keep {S : List Nat} (h : Hw T G n p r H t w) (k : Kp S w w') (hp : p ∉ S) (hr : r ∉ S) : Hw T G n p r H t w' :=
  let ⟨l, a⟩ := h.ar
  ⟨⟨l, a.keep k hp hr⟩, h.len, h.top, h.ok, h.hT, h.hG, h.hn⟩
theorem Hw.on (h : Hw T G n p r H t w) (k : Kp [] w w') : Hw T G n p r H t w' := h.keep k (by simp) (by simp)
theorem Hw.lt (h : Hw T G n p r H t w) : p < w.heap.size ∧ r < w.heap.size :=
  let ⟨_, a⟩ := h.ar
  a.lt
theorem Hw.put (h : Hw T G n p r H t w) {k : Nat} {v : Int} {t' : Nat} (h0 : 0 ≤ v) (h1 : v < 18446744073709551616) {l : Int} (a : Ar w' p r ⟨H.set k v, t', l⟩) : Hw T G n p r (H.set k v) t' w' := by
  refine ⟨⟨l, a⟩, by simpa using h.len, by simpa using h.top, fun j => ?_, h.hT, h.hG, h.hn⟩
  rw [getD_set']
  split
  · exact ⟨h0, h1⟩
  · exact h.ok j
theorem in_words (H : List Int) (t : Nat) (l : Int) (k : Nat) (hk : k < H.length) : inB ⟨H, t, l⟩ (k : Int) = true := by
  simp only [inB_iff]; omega

/-- A word is read. -/
theorem rd_word (h : Hw T G n p r H t w) (ht : t ≤ 900000000000) (k : Nat) (hk : k < H.length) (j x : Int) (hj : j = k) (hx : H.getD k 0 = x) : Calls Tryz.prog 41 #[.pointer (some ⟨p, 0, none⟩), .int .i64 j] w fun e w' => e = .returned (.int .u64 x) ∧ Hw T G n p r H (t + 1) w' ∧ Kp [p, r] w w' := by
  obtain ⟨l, a⟩ := h.ar
  subst hj
  have := read_any w p r _ (k : Int) a h.top (by show t ≤ 1000000000000; omega)
  have hin := in_words H t l k hk
  rw [was_in hin, upd_in hin] at this
  simp only [Int.toNat_natCast] at this
  rw [set_same', hx] at this
  exact this.mono fun e w' ⟨h1, h2, h3⟩ => ⟨h1, ⟨⟨_, h2⟩, h.len, h.top, h.ok, h.hT, h.hG, h.hn⟩, h3⟩
/-- A word is written. -/
theorem wr_word (h : Hw T G n p r H t w) (ht : t ≤ 900000000000) (k : Nat) (hk : k < H.length) (j x : Int) (hj : j = k) (h0 : 0 ≤ x) (h1 : x < 18446744073709551616) : Calls Tryz.prog 62 #[.pointer (some ⟨p, 0, none⟩), .int .i64 j, .int .u64 x] w fun e w' => e = .returned (.tuple #[]) ∧ Hw T G n p r (H.set k x) (t + 1) w' ∧ Kp [p, r] w w' := by
  obtain ⟨l, a⟩ := h.ar
  subst hj
  have := write_any w p r _ (k : Int) x a h.top (by show t ≤ 1000000000000; omega)
  rw [upd_in (in_words H t l k hk)] at this
  simp only [Int.toNat_natCast] at this
  exact this.mono fun e w' ⟨h2, h3, h4⟩ => ⟨h2, h.put h0 h1 h3, h4⟩
end

/-- Update at a place that there is, by a closure that turns blocks of its own (B) and makes memory. -/
theorem upd_boxes (w : World) (p r : Nat) (s : St) (k : Int) (g : FuncId) (cap : Array Value) (y : Int) (B : List Nat) (R : World → Prop) (h : Ar w p r s) (hn : s.ws.length ≤ 4096) (ht : s.t ≤ 1000000000000) (hk : inB s k = true) (hp : p ∉ B) (hr : r ∉ B)
    (hR : ∀ w2 w3, R w2 → Kp [r] w2 w3 → R w3)
    (hen : ∀ (x : Value) (w : World), (callFunc g (#[x] ++ cap)).run Tryz.prog w = .ok (.enter g (#[x] ++ cap)) w)
    (hcall : ∀ w1, Kp [p] w w1 → Calls Tryz.prog g (#[.int .u64 (was s k)] ++ cap) w1 fun e w' => e = .returned (.int .u64 y) ∧ Kp B w1 w' ∧ R w') :
    Calls Tryz.prog 74 #[.pointer (some ⟨p, 0, none⟩), .int .i64 k, .func (.func g) #[] cap] w fun e w' => e = .returned (.int .u64 (was s k)) ∧ Ar w' p r (upd s k y) ∧ Kp (p :: r :: B) w w' ∧ R w' := by
  have hmf : ∀ (fn : Fn) (first cap : Array Value) (w : World), (Instr.makeFunc fn first cap).run Tryz.prog w = .ok (.func fn first cap) w := fun _ _ _ _ => rfl
  have hfn := func_nil
  obtain ⟨hk0, hk1⟩ := inB_iff.1 hk
  have hk3 : k.toNat < s.ws.length := by omega
  have HC := hcall (tw w p s.t k) (tw_kp w p s.t k)
  rw [was_in hk] at HC ⊢
  rw [upd_in hk]
  have hcr : Hid (∀ w2, Kp B (tw w p s.t k) w2 → w2.cell? ⟨r, k.toNat, none⟩ = some (.int .u64 (s.ws.getD k.toNat 0)) ∧ w2.frozen? ⟨r, k.toNat, none⟩ = false) :=
    Lib.hid fun w2 h2 => ⟨((h.tw k).keep h2 hp hr).cr hk3, ((h.tw k).keep h2 hp hr).fr _⟩
  have HF : Hid (∀ w2, Kp B (tw w p s.t k) w2 → R w2 → Ar (w2.setCell ⟨r, k.toNat, none⟩ (.int .u64 y)) p r ⟨s.ws.set k.toNat y, s.t + 1, k⟩ ∧ Kp (p :: r :: B) w (w2.setCell ⟨r, k.toNat, none⟩ (.int .u64 y)) ∧ R (w2.setCell ⟨r, k.toNat, none⟩ (.int .u64 y))) :=
    Lib.hid fun w2 h2 h3 => ⟨((h.tw k).keep h2 hp hr).store _ _, (((tw_kp w p s.t k).mono (by simp)).trans (h2.mono (fun x hx _ => by simp [hx]))).setCell (.inl (by simp)) _, hR _ _ h3 ((Kp.refl [r] w2).setCell (.inl (by simp)) _)⟩
  have hto := touch_in w p r s k h hn ht hk
  clear hcall hR
  generalize s.ws.getD k.toNat 0 = x0 at HC hcr ⊢
  generalize tw w p s.t k = w1 at HC hcr hto HF ⊢
  go_enter_defers Tryz.func74, Tryz.ntmps74
  go_wp2_with (go_at_call 111; refine hto.mono ?_; rintro e w1 ⟨rfl, rfl⟩; have hcr1 := (hcr.out _ (Kp.refl _ _)).1)
  refine HC.mono ?_
  rintro e w2 ⟨rfl, hk2, h3⟩
  obtain ⟨hc2, hf2⟩ := hcr.out w2 hk2
  have HK := Lib.hid (HF.out w2 hk2 h3)
  clear hk2 hcr h3
  go_wp2_with fail
  refine leaves_cons (f := 110) (args := #[]) (by simp) (by simp [go_sem]) ?_
  refine (catch_idle _).mono ?_
  rintro e u' w'' ⟨rfl, rfl, rfl⟩
  simp only [Leaves, settle, results, Tryz.results74]
  simp [go_sem]
  exact HK.out

/-- The map is made another one by a closure over its own boxes. -/
theorem up_map {T G n p r t : Nat} {H : List Int} {w : World} (h : Hw T G n p r H t w) (ht : t ≤ 900000000000) (f : FuncId) (cap : Array Value) (M y : Nat) (B : List Nat) (R : World → Prop) (hM : H.getD 0 0 = M) (hy : y < 18446744073709551616) (hp : p ∉ B) (hr : r ∉ B)
    (hR : ∀ w2 w3, R w2 → Kp [r] w2 w3 → R w3)
    (hen : ∀ (x : Value) (w : World), (callFunc f (#[x] ++ cap)).run Tryz.prog w = .ok (.enter f (#[x] ++ cap)) w)
    (hcall : ∀ w1, Kp [p] w w1 → Calls Tryz.prog f (#[.int .u64 M] ++ cap) w1 fun e w' => e = .returned (.int .u64 y) ∧ Kp B w1 w' ∧ R w') :
    Calls Tryz.prog 74 #[.pointer (some ⟨p, 0, none⟩), .int .i64 0, .func (.func f) #[] cap] w fun e w' => e = .returned (.int .u64 M) ∧ Hw T G n p r (H.set 0 y) (t + 1) w' ∧ Kp (p :: r :: B) w w' ∧ R w' := by
  obtain ⟨l, a⟩ := h.ar
  have hl := h.len
  have hin : inB ⟨H, t, l⟩ 0 = true := in_words H t l 0 (by omega)
  have hw : was ⟨H, t, l⟩ 0 = M := by rw [was_in hin]; exact hM
  have := upd_boxes w p r _ 0 f cap y B R a h.top (by show t ≤ 1000000000000; omega) hin hp hr hR hen (by rw [hw]; exact hcall)
  rw [hw, upd_in hin] at this
  exact this.mono fun e w' ⟨h1, h2, h3, h4⟩ => ⟨h1, h.put (by omega) (by omega) h2, h3, h4⟩

/-- What is asked of numbers. -/
theorem g_mayRun (r : Int) (b : Bool) (w : World) (h : decide (1 ≤ r ∧ r ≤ 3) = b) : Calls Tryz.prog 122 #[.int .i64 r] w fun e w' => e = .returned (.bool b) ∧ w = w' := by
  have HH := Lib.hid h
  clear h
  go_enter Tryz.func122, Tryz.ntmps122
  go_wp2
  all_goals go_ret
  all_goals exact ⟨Bm.ret_bool (by rw [← HH.out, Bool.eq_iff_iff]; simp only [decide_eq_true_eq, Bool.false_eq_true]; constructor <;> intro hq <;> first | exact hq.elim | omega), rfl⟩

theorem g_has (T G n : Nat) (b r : Int) (w : World) (hn : n ≤ 64) : Calls Tryz.prog 79 #[.agg #[.int .i64 T, .int .i64 G, .int .i64 n], .int .i64 b, .int .i64 r] w fun e w' => e = .returned (.bool (runG n b r)) ∧ Kp [] w w' := by
  have hb := Lib.hid (fun w => Ly.blocks_is T G n w)
  rcases (by omega : ¬ (1 ≤ r ∧ r ≤ 3) ∨ (1 ≤ r ∧ r ≤ 3 ∧ b < 0) ∨ (1 ≤ r ∧ r ≤ 3 ∧ 0 ≤ b ∧ (n : Int) - r < b) ∨ (1 ≤ r ∧ r ≤ 3 ∧ 0 ≤ b ∧ b ≤ (n : Int) - r)) with h1 | ⟨h1, h2, h3⟩ | ⟨h1, h2, h3, h4⟩ | ⟨h1, h2, h3, h4⟩
  · rw [runG_not.2 (by omega)]
    have hm := g_mayRun r false (w.alloc (.cells #[.int .i64 T, .int .i64 G, .int .i64 n] 33)) (by simp; omega)
    go_enter Tryz.func79, Tryz.ntmps79
    go_wp2_with ((with_reducible refine hm.mono ?_); rintro e w' ⟨rfl, rfl⟩)
    go_ret
    exact ⟨rfl, (Kp.refl _ _).alloc _⟩
  all_goals
    have hm := g_mayRun r true (w.alloc (.cells #[.int .i64 T, .int .i64 G, .int .i64 n] 33)) (by simp; omega)
  · rw [runG_not.2 (by omega)]
    go_enter Tryz.func79, Tryz.ntmps79
    go_wp2_with ((with_reducible refine hm.mono ?_); rintro e w' ⟨rfl, rfl⟩)
    go_ret
    exact ⟨rfl, (Kp.refl _ _).alloc _⟩
  · rw [runG_not.2 (by omega)]
    go_enter Tryz.func79, Tryz.ntmps79
    go_wp2_with (first | ((with_reducible refine hm.mono ?_); rintro e w' ⟨rfl, rfl⟩) | ((with_reducible refine (hb.out _).mono ?_); rintro e w' ⟨rfl, hk⟩; have K := Lib.hid (((Kp.refl [] w).alloc _).trans hk); clear hk))
    go_ret
    exact ⟨Bm.ret_bool (by simp; omega), K.out⟩
  · rw [runG_iff.2 (by omega)]
    go_enter Tryz.func79, Tryz.ntmps79
    go_wp2_with (first | ((with_reducible refine hm.mono ?_); rintro e w' ⟨rfl, rfl⟩) | ((with_reducible refine (hb.out _).mono ?_); rintro e w' ⟨rfl, hk⟩; have K := Lib.hid (((Kp.refl [] w).alloc _).trans hk); clear hk))
    go_ret
    exact ⟨rfl, K.out⟩

theorem g_waits (k c r o : Int) (q : Bool) (w : World) (h : decide (k = 4 ∨ k = 5) = q) : Calls Tryz.prog 178 #[.agg #[.int .u8 k, .int .u8 c, .int .u8 r, .int .u8 o]] w fun e w' => e = .returned (.bool q) ∧ Kp [] w w' := by
  rcases (by by_cases h4 : k = 4 <;> by_cases h5 : k = 5 <;> simp [h4, h5] : k = 4 ∨ k = 5 ∨ ((k == 4) = false ∧ (k == 5) = false)) with rfl | rfl | ⟨h4, h5⟩
  · obtain rfl : true = q := by simpa using h
    go_enter Tryz.func178, Tryz.ntmps178
    go_wp2
    go_ret
    exact ⟨rfl, (Kp.refl _ _).alloc _⟩
  · obtain rfl : true = q := by simpa using h
    go_enter Tryz.func178, Tryz.ntmps178
    go_wp2
    go_ret
    exact ⟨rfl, (Kp.refl _ _).alloc _⟩
  · obtain rfl : false = q := by rw [← h]; symm; simp only [decide_eq_false_iff_not]; simp at h4 h5; omega
    clear h
    go_enter Tryz.func178, Tryz.ntmps178
    go_wp2
    go_ret
    exact ⟨rfl, (Kp.refl _ _).alloc _⟩

end Go.Proofs.YticbnckikkdknaaGreatDoor

namespace Go.Proofs.YticbnckikkdknaaGreatDoor
set_option linter.unusedVariables false
set_option linter.unusedSimpArgs false
open Go.RowKit

theorem kp_cell {S : List Nat} {w w' : World} (k : Kp S w w') {g o : Nat} (hg : g ∉ S) {v : Value} (h : w.cell? ⟨g, o, none⟩ = some v) : w'.cell? ⟨g, o, none⟩ = some v :=
  (World.cell?_of_block (a := ⟨g, o, none⟩) (k.block g (World.block_lt_of_cell? _ _ h) hg)).trans h

/-- A layout's box. -/
structure Lx (a T G n : Nat) (w : World) : Prop where
  c0 : w.cell? ⟨a, 0, none⟩ = some (.int .i64 T)
  c1 : w.cell? ⟨a, 1, none⟩ = some (.int .i64 G)
  c2 : w.cell? ⟨a, 2, none⟩ = some (.int .i64 n)
theorem Lx.keep {S : List Nat} {a T G n : Nat} {w w' : World} (h : Lx a T G n w) (k : Kp S w w') (ha : a ∉ S) : Lx a T G n w' := ⟨kp_cell k ha h.c0, kp_cell k ha h.c1, kp_cell k ha h.c2⟩
theorem Lx.new (w : World) (T G n : Nat) : Lx w.heap.size T G n (w.alloc (.cells #[.int .i64 T, .int .i64 G, .int .i64 n] 33)) := ⟨by simp, by simp, by simp⟩

theorem na_write (k : Nat) (a : Addr) (w : World) : (nilAhead (k + 1) 31 (.pointer (some a)) "Write").run Tryz.prog w = .ok (some false) w := by kernel_rfl
theorem na_read (k : Nat) (a : Addr) (w : World) : (nilAhead (k + 1) 31 (.pointer (some a)) "Read").run Tryz.prog w = .ok (some false) w := by kernel_rfl

section
variable {T G n p r t : Nat} {H : List Int} {w w' : World}
set_option maxRecDepth 100000 in
set_option maxHeartbeats 2000000 in
theorem g_begin (h : Hw T G n p r H t w) (ht : t ≤ 900000000000) (M' : Nat) (hM : 2 ^ min n 64 - 1 = M') :
    Calls Tryz.prog 55 #[.iface 31 (.pointer (some ⟨p, 0, none⟩)), .agg #[.int .i64 T, .int .i64 G, .int .i64 n]] w fun e w' => e = .returned (.tuple #[]) ∧ Hw T G n p r (H.set 0 (M' : Int)) (t + 1) w' ∧ Kp [p, r] w w' := by
  have hB := Lib.hid (fun w => Ly.blocks_is T G n w)
  have hA := Lib.hid (fun w => Bm.all_is n M' w (by simpa using hM))
  have hlt : M' < 18446744073709551616 := by
    have h1 : 2 ^ min n 64 ≤ 2 ^ 64 := Nat.pow_le_pow_right (by omega) (Nat.min_le_right _ _)
    have h2 := Nat.two_pow_pos (min n 64)
    omega
  have HL := Lib.hid hlt
  have HZ : Hid (0 < H.length) := Lib.hid (by have := h.len; omega)
  have HL2 : Hid ((M' : Int) < 18446744073709551616) := Lib.hid (by omega)
  have K0 := Lib.hid ((Kp.refl [] w).alloc (.cells #[.int .i64 T, .int .i64 G, .int .i64 n] 33))
  have HG := Lib.hid h
  clear hM hlt
  have hna := na_write
  go_enter Tryz.func55, Tryz.ntmps55
  go_wp2
  go_region_with (first
    | (go_at_call 43; refine (hB.out _).mono ?_; rintro e w1 ⟨rfl, hk⟩; have K1 : Hid (Kp [] w w1) := Lib.hid (by refine K0.out.trans (Kp.trans ?_ hk); exact ⟨rfl, rfl, rfl, Nat.le_refl _, fun _ _ _ => rfl⟩); clear hk)
    | (go_at_call 91; refine (hA.out _).mono ?_; rintro e w2 ⟨rfl, rfl⟩)
    | (go_at_call 62
       refine (wr_word (HG.out.on (K1.out.trans ?_)) ht 0 HZ.out 0 M' rfl (Int.natCast_nonneg _) HL2.out).mono ?_
       · exact ⟨rfl, rfl, rfl, Nat.le_refl _, fun _ _ _ => rfl⟩
       rintro e w3 ⟨rfl, hg, hk⟩
       have G3 := Lib.hid hg
       have K3 : Hid (Kp [p, r] w w3) := Lib.hid (by refine (K1.out.mono (by simp)).trans (Kp.trans ?_ hk); exact ⟨rfl, rfl, rfl, Nat.le_refl _, fun _ _ _ => rfl⟩)
       clear hg hk))
  all_goals
    go_wp2
    go_end0
    exact ⟨rfl, G3.out, K3.out⟩

/-- The parts of an entry's word. -/
def ek (x : Int) : Int := if Tb.takeE x then x % 8 else 0
def ec (x : Int) : Int := if Tb.takeE x then x / 8 % 4 else 0
def er (x : Int) : Int := if Tb.takeE x then x / 32 % 4 else 0
def eo (x : Int) : Int := if Tb.takeE x then x / 128 % 64 else 0
def ee (x : Int) : Int := if Tb.takeE x then 0 else 3
theorem take_part (x : Int) (w : World) (h0 : 0 ≤ x) (h1 : x < 18446744073709551616) :
    Calls Tryz.prog 80 #[.int .u64 x] w fun e w' => e = .returned (.tuple #[.agg #[.int .u8 (ek x), .int .u8 (ec x), .int .u8 (er x), .int .u8 (eo x)], .int .i64 (ee x)]) ∧ Kp [] w w' := by
  unfold ek ec er eo ee
  cases h : Tb.takeE x
  · exact Tb.take_none x w h0 h1 h
  · exact Tb.take_some x w h0 h
theorem entry_at (k : Nat) (w : World) (hT : T ≤ 64) (hG : G ≤ 8) (hn : n ≤ 64) (hk : k < n) : Calls Tryz.prog 81 #[.agg #[.int .i64 T, .int .i64 G, .int .i64 n], .int .i64 k] w fun e w' => e = .returned (.int .i64 ((3 + T + G + k : Nat) : Int)) ∧ Kp [] w w' :=
  Ly.entry_is T G n k ((3 + T + G + k : Nat) : Int) w (by rw [Ly.rowP_in (by omega) (by omega)]; omega) (by omega) (by omega) (by omega) (by omega) (by omega) (by omega)

end
end Go.Proofs.YticbnckikkdknaaGreatDoor

namespace Go.Proofs.YticbnckikkdknaaGreatDoor
set_option linter.unusedVariables false
set_option linter.unusedSimpArgs false
open Go.RowKit

section
variable {T G n p r t : Nat} {H : List Int} {w w' : World}
theorem kp_new_set {S : List Nat} {w w1 w2 : World} {b : Nat} (h : Kp S w w1) (k : Kp [b] w1 w2) (hb : w.heap.size ≤ b) : Kp S w w2 :=
  ⟨k.os.trans h.os, k.tape.trans h.tape, k.output.trans h.output, Nat.le_trans h.size k.size, fun i hi hn => (k.block i (Nat.lt_of_lt_of_le hi h.size) (by simp; omega)).trans (h.block i hi hn)⟩
/-- The boxes of Set's layout and entry. -/
theorem set_boxes (w : World) (T G n : Nat) (k c r' o : Int) (w1 : World) (hk : Kp [] ((w.alloc (.cells #[.int .i64 T, .int .i64 G, .int .i64 n] 33)).alloc (.cells #[.int .u8 k, .int .u8 c, .int .u8 r', .int .u8 o] 110)) w1) : Lx w.heap.size T G n w1 ∧ Kp [] w w1 :=
  ⟨((Lx.new w T G n).keep ((Kp.refl [] _).alloc _) (by simp)).keep hk (by simp), (((Kp.refl [] w).alloc _).alloc _).trans hk⟩

set_option maxRecDepth 100000 in
set_option maxHeartbeats 2000000 in
theorem g_set_in (h : Hw T G n p r H t w) (ht : t ≤ 900000000000) (b : Nat) (hb : b < n) (k c r' o : Int) (hk : 0 ≤ k) (hc : 0 ≤ c) (hr : 0 ≤ r') (ho : 0 ≤ o) (hm : Tb.mayE k c r' o = true) :
    Calls Tryz.prog 119 #[.iface 31 (.pointer (some ⟨p, 0, none⟩)), .agg #[.int .i64 T, .int .i64 G, .int .i64 n], .int .i64 b, .agg #[.int .u8 k, .int .u8 c, .int .u8 r', .int .u8 o]] w fun e w' => e = .returned (.tuple #[]) ∧ Hw T G n p r (H.set (3 + T + G + b) (Tb.wordE k c r' o)) (t + 1) w' ∧ Kp [p, r] w w' := by
  have hp := Lib.hid (fun w => Tb.put_yes k c r' o w hk hc hr ho hm)
  have hhas := Lib.hid (fun w => g_has T G n b 1 w h.hn)
  rw [show runG n b 1 = true from runG_iff.2 (by omega)] at hhas
  have hen := Lib.hid (fun w => entry_at (T := T) (G := G) (n := n) b w h.hT h.hG h.hn hb)
  have hw := Tb.wordE_lt hk hc hr ho hm
  have HWR := Lib.hid (fun (w' : World) (hw' : Kp [] w w') => wr_word (h.on hw') ht (3 + T + G + b) (by have := h.len; omega) ((3 + T + G + b : Nat) : Int) (Tb.wordE k c r' o) rfl hw.1 (Int.lt_trans hw.2 (by decide)))
  have HB := Lib.hid (set_boxes w T G n k c r' o)
  clear hm hw
  generalize Tb.wordE k c r' o = x at hp HWR ⊢
  have hna := na_write
  go_enter Tryz.func119, Tryz.ntmps119
  go_wp2_with fail
  refine (hp.out _).mono ?_
  rintro e w1 ⟨rfl, hk1⟩
  obtain ⟨⟨a0, a1, a2⟩, k1⟩ := HB.out w1 hk1
  have K1 := Lib.hid k1
  have X1 := Lib.hid (HB.out w1 hk1).1
  clear hk1 k1
  go_wp2_with fail
  refine (hhas.out _).mono ?_
  rintro e w2 ⟨rfl, hk2⟩
  have K2 := Lib.hid (K1.out.trans hk2)
  obtain ⟨b0, b1, b2⟩ := X1.out.keep hk2 (by simp)
  clear hk2
  go_wp2
  go_region_with (first
    | (go_at_call 81; refine (hen.out _).mono ?_; rintro e w3 ⟨rfl, hk⟩
       have K3 : Hid (Kp [] w w3) := Lib.hid (by refine K2.out.trans (Kp.trans ?_ hk); exact ⟨rfl, rfl, rfl, Nat.le_refl _, fun _ _ _ => rfl⟩)
       clear hk)
    | (go_at_call 62
       refine (HWR.out _ (K3.out.trans ?_)).mono ?_
       · exact ⟨rfl, rfl, rfl, Nat.le_refl _, fun _ _ _ => rfl⟩
       rintro e w4 ⟨rfl, hg, hk⟩
       have G4 := Lib.hid hg
       have K4 : Hid (Kp [p, r] w w4) := Lib.hid (by refine (K3.out.mono (by simp)).trans (Kp.trans ?_ hk); exact ⟨rfl, rfl, rfl, Nat.le_refl _, fun _ _ _ => rfl⟩)
       clear hg hk))
  all_goals
    go_wp2
    go_end0
    exact ⟨rfl, G4.out, K4.out⟩

/-- What Find and Take answer. -/
theorem find_claims {M M' : Nat} {r' a : Int} {q : Bool} (hc : Claims M r' a q M') (hM : M < 18446744073709551616) (h1 : 1 ≤ r') (h3 : r' ≤ 3) (w : World) :
    Calls Tryz.prog 176 #[.int .u64 M, .int .i64 r'] w fun e w' => e = .returned (.tuple #[.int .i64 a, .bool q]) ∧ Kp [] w w' := by
  obtain ⟨m, rfl⟩ := Int.eq_ofNat_of_zero_le (show 0 ≤ r' by omega)
  refine Bm.find_walk M m w hM (by omega) (by omega) a q ?_ ?_
  · rintro k ⟨hk1, hk2, hk3⟩
    have hkr : Bm.isR M k m true = true := by simp only [Bm.isR, Bool.and_eq_true, decide_eq_true_eq]; exact ⟨by omega, by simpa using hk2⟩
    rcases hc with ⟨k', _, hf, ha, hq, _⟩ | ⟨hno, _⟩
    · have hk' := hf.1
      simp only [Bm.isR, Bool.and_eq_true, decide_eq_true_eq, Int.toNat_natCast] at hk'
      rcases Nat.lt_trichotomy k k' with hl | hl | hl
      · rw [hf.2 k hl] at hkr; simp at hkr
      · subst hl; exact ⟨ha, hq⟩
      · have := hk3 k' hl
        rw [hk'.2] at this; simp at this
    · rw [hno k] at hkr; simp at hkr
  · intro hno
    rcases hc with ⟨k', _, hf, ha, hq, _⟩ | ⟨_, ha, hq, _⟩
    · have hk' := hf.1
      simp only [Bm.isR, Bool.and_eq_true, decide_eq_true_eq, Int.toNat_natCast] at hk'
      have := hno k' (by omega)
      rw [hk'.2] at this; simp at this
    · exact ⟨ha, hq⟩
theorem take_claims {M M' : Nat} {r' a : Int} {q : Bool} (hc : Claims M r' a q M') (hM : M < 18446744073709551616) (w : World) :
    Calls Tryz.prog 177 #[.int .u64 M, .int .i64 a, .int .i64 r'] w fun e w' => e = .returned (.tuple #[.int .u64 M', .bool q]) ∧ w = w' := by
  rcases hc with ⟨k', _, hf, ha, hq, hM'⟩ | ⟨hno, ha, hq, hM'⟩
  · rw [ha, hq]
    exact Bm.take_is M k' r' M' true w hM hf.1 (by rw [hM']; simp)
  · rw [ha, hq]
    exact Bm.take_is M 0 r' M' false w hM (hno 0) (by rw [hM']; simp)

/-- What a claim's closure does. -/
theorem cl_claim {M M' : Nat} {r' a : Int} {q : Bool} (hc : Claims M r' a q M') (hM : M < 18446744073709551616) (h1 : 1 ≤ r') (h3 : r' ≤ 3) (b1 b2 b3 : Nat) (x : Int) (y : Bool) (w : World)
    (c1 : w.heap[b1]? = some (.cells #[.int .i64 r'] 3 (0, 0))) (c2 : w.heap[b2]? = some (.cells #[.int .i64 x] 3 (0, 0))) (c3 : w.heap[b3]? = some (.cells #[.bool y] 4 (0, 0))) (n12 : b1 ≠ b2) (n13 : b1 ≠ b3) (n23 : b2 ≠ b3) :
    Calls Tryz.prog 175 #[.int .u64 M, .pointer (some ⟨b1, 0, none⟩), .pointer (some ⟨b2, 0, none⟩), .pointer (some ⟨b3, 0, none⟩)] w fun e w' => e = .returned (.int .u64 M') ∧ Kp [b2, b3] w w' ∧ w'.heap[b2]? = some (.cells #[.int .i64 a] 3 (0, 0)) ∧ w'.heap[b3]? = some (.cells #[.bool q] 4 (0, 0)) := by
  have hf := Lib.hid (find_claims hc hM h1 h3)
  have hta := Lib.hid (take_claims hc hM)
  clear hc
  have e1 : w.cell? ⟨b1, 0, none⟩ = some (.int .i64 r') := cell_of_row c1 0
  have C := Lib.hid (And.intro c1 (And.intro c2 c3))
  have NE := Lib.hid (And.intro n12 (And.intro n13 n23))
  clear c1 c2 c3
  go_enter Tryz.func175, Tryz.ntmps175
  go_wp2_with fail
  refine (hf.out _).mono ?_
  rintro e w1 ⟨rfl, hk⟩
  have d1 := hk.row (by simp) C.out.1
  have d2 := hk.row (by simp) C.out.2.1
  have d3 := hk.row (by simp) C.out.2.2
  have K1 := Lib.hid hk
  clear hk
  have e2 : w1.cell? ⟨b2, 0, none⟩ = some (.int .i64 x) := cell_of_row d2 0
  have f2 := free_of_row d2 0
  have k2 : Kp [b2, b3] w1 (w1.setCell ⟨b2, 0, none⟩ (.int .i64 a)) := (Kp.refl _ _).setCell (.inl (by simp)) _
  have D2 : (w1.setCell ⟨b2, 0, none⟩ (.int .i64 a)).heap[b2]? = some (.cells #[.int .i64 a] 3 (0, 0)) := by rw [heap_setCell_same _ _ _ _ _ _ d2]; rfl
  have D1 : (w1.setCell ⟨b2, 0, none⟩ (.int .i64 a)).heap[b1]? = some (.cells #[.int .i64 r'] 3 (0, 0)) := by rw [heap_setCell_other _ _ _ _ (by exact n12), d1]
  have D3 : (w1.setCell ⟨b2, 0, none⟩ (.int .i64 a)).heap[b3]? = some (.cells #[.bool y] 4 (0, 0)) := by rw [heap_setCell_other _ _ _ _ (by exact n23.symm), d3]
  have HD := Lib.hid (And.intro D1 (And.intro D2 D3))
  have K2 := Lib.hid ((K1.out.mono (by simp)).trans k2)
  clear d1 d2 d3 D1 D2 D3 k2
  go_upto_region 2 with (fail)
  obtain ⟨w2, hw2⟩ : ∃ w2, w2 = w1.setCell ⟨b2, 0, none⟩ (.int .i64 a) := ⟨_, rfl⟩
  rw [← hw2] at HD K2 ⊢
  clear hw2 e2 f2
  have g1 : w2.cell? ⟨b1, 0, none⟩ = some (.int .i64 r') := cell_of_row HD.out.1 0
  have g2 : w2.cell? ⟨b2, 0, none⟩ = some (.int .i64 a) := cell_of_row HD.out.2.1 0
  have g3 : w2.cell? ⟨b3, 0, none⟩ = some (.bool y) := cell_of_row HD.out.2.2 0
  have f3 := free_of_row HD.out.2.2 0
  go_wp2_with fail
  refine (hta.out _).mono ?_
  rintro e w3 ⟨rfl, rfl⟩
  go_wp2
  go_ret
  refine ⟨rfl, K2.out.trans ((Kp.refl _ _).setCell (.inl (by simp)) _), ?_, ?_⟩
  · rw [heap_setCell_other _ _ _ _ (by exact NE.out.2.2), HD.out.2.1]
  · rw [heap_setCell_same _ _ _ _ _ _ HD.out.2.2]; rfl
theorem results_cell2 {fn : Func} {p u : Tmp} {ty tz : TypeId} (h : fn.results = #[.cell p ty, .cell u tz]) (tmps : Array Value) (P : Program) (w : World) (a b : Addr) (x y : Value) (hp : tmps.getD p undef = .pointer (some a)) (hu : tmps.getD u undef = .pointer (some b)) (hx : (loadVar ty a).run P w = .ok x w) (hy : (loadVar tz b).run P w = .ok y w) :
    (results fn tmps).run P w = .ok (.tuple #[x, y]) w := by
  rw [Array.getD_eq_getD_getElem?] at hp hu
  simp only [results, h]
  simp [Sem.run_bind, Result.andThen, hp, hu, asAddr, hx, hy]
theorem bodyPost_cell2 {P : Program} {fn : Func} {R : Ending → World → Prop} {a : Act} {w : World} {p u : Tmp} {ty tz : TypeId} (h : fn.results = #[.cell p ty, .cell u tz]) (b c : Addr) (x y : Value) (hp : a.tmps.getD p undef = .pointer (some b)) (hu : a.tmps.getD u undef = .pointer (some c)) (hx : (loadVar ty b).run P w = .ok x w) (hy : (loadVar tz c).run P w = .ok y w) (hdef : a.defers = []) (hR : R (.returned (.tuple #[x, y])) w) : bodyPost P fn R .ret a w :=
  bodyPost_ret (results_cell2 h a.tmps P w b c x y hp hu hx hy) hdef hR
theorem load_int {w : World} {b : Nat} {x : Int} (h : w.heap[b]? = some (.cells #[.int .i64 x] 3 (0, 0))) : (loadVar 3 ⟨b, 0, none⟩).run Tryz.prog w = .ok (.int .i64 x) w := by
  have e : w.cell? ⟨b, 0, none⟩ = some (.int .i64 x) := cell_of_row h 0
  simp [go_sem, e]
theorem load_bool {w : World} {b : Nat} {x : Bool} (h : w.heap[b]? = some (.cells #[.bool x] 4 (0, 0))) : (loadVar 4 ⟨b, 0, none⟩).run Tryz.prog w = .ok (.bool x) w := by
  have e : w.cell? ⟨b, 0, none⟩ = some (.bool x) := cell_of_row h 0
  simp [go_sem, e]

/-- The boxes of Claim: the layout's, the run's, the answers'. -/
def cw (w : World) (T G n : Nat) (r' : Int) : World := (((w.alloc (.cells #[.int .i64 T, .int .i64 G, .int .i64 n] 33)).alloc (.cells #[.int .i64 r'] 3)).alloc (.cells #[.int .i64 0] 3)).alloc (.cells #[.bool false] 4)
theorem cw_kp (w : World) (T G n : Nat) (r' : Int) : Kp [] w (cw w T G n r') := ((((Kp.refl [] w).alloc _).alloc _).alloc _).alloc _
theorem cw_rows (w : World) (T G n : Nat) (r' : Int) : (cw w T G n r').heap[w.heap.size + 1]? = some (.cells #[.int .i64 r'] 3 (0, 0)) ∧ (cw w T G n r').heap[w.heap.size + 2]? = some (.cells #[.int .i64 0] 3 (0, 0)) ∧ (cw w T G n r').heap[w.heap.size + 3]? = some (.cells #[.bool false] 4 (0, 0)) := by
  have z1 := World.size_alloc w (.cells #[.int .i64 T, .int .i64 G, .int .i64 n] 33)
  have z2 := World.size_alloc (w.alloc (.cells #[.int .i64 T, .int .i64 G, .int .i64 n] 33)) (.cells #[.int .i64 r'] 3)
  have z3 := World.size_alloc ((w.alloc (.cells #[.int .i64 T, .int .i64 G, .int .i64 n] 33)).alloc (.cells #[.int .i64 r'] 3)) (.cells #[.int .i64 0] 3)
  refine ⟨?_, ?_, ?_⟩
  · exact (((Kp.refl [] _).alloc _).alloc _).row (by simp) (by rw [← z1]; exact heap_alloc_new _ _)
  · exact ((Kp.refl [] _).alloc _).row (by simp) (by rw [show w.heap.size + 2 = w.heap.size + 1 + 1 from rfl, ← z1, ← z2]; exact heap_alloc_new _ _)
  · rw [show w.heap.size + 3 = w.heap.size + 1 + 1 + 1 from rfl, ← z1, ← z2, ← z3]; exact heap_alloc_new _ _

set_option maxRecDepth 100000 in
set_option maxHeartbeats 1000000 in
theorem g_claim_in (h : Hw T G n p r H t w) (ht : t ≤ 900000000000) {M M' : Nat} {r' a : Int} {q : Bool} (hM0 : H.getD 0 0 = M) (hc : Claims M r' a q M') (h1 : 1 ≤ r') (h3 : r' ≤ 3) :
    Calls Tryz.prog 169 #[.iface 31 (.pointer (some ⟨p, 0, none⟩)), .agg #[.int .i64 T, .int .i64 G, .int .i64 n], .int .i64 r'] w fun e w' => e = .returned (.tuple #[.int .i64 a, .bool q]) ∧ Hw T G n p r (H.set 0 (M' : Int)) (t + 1) w' ∧ Kp [p, r] w w' := by
  have hm := fun w => g_mayRun r' true w (by simp; omega)
  have hlt := h.lt
  have hM : M < 18446744073709551616 := by
    have := (h.ok 0).2
    rw [hM0] at this
    exact Int.ofNat_lt.1 this
  have HU := Lib.hid (up_map (h.on (cw_kp w T G n r')) ht 175 #[.pointer (some ⟨w.heap.size + 1, 0, none⟩), .pointer (some ⟨w.heap.size + 2, 0, none⟩), .pointer (some ⟨w.heap.size + 3, 0, none⟩)] M M' [w.heap.size + 2, w.heap.size + 3]
    (fun w' => w'.heap[w.heap.size + 2]? = some (.cells #[.int .i64 a] 3 (0, 0)) ∧ w'.heap[w.heap.size + 3]? = some (.cells #[.bool q] 4 (0, 0))) hM0 (claims_lt hc hM) (by simp; omega) (by simp; omega)
    (fun w2 w3 hR k => ⟨k.row (by simp; omega) hR.1, k.row (by simp; omega) hR.2⟩) (fun _ _ => rfl)
    (fun w1 k => cl_claim hc hM h1 h3 _ _ _ 0 false w1 (k.row (by simp; omega) (cw_rows w T G n r').1) (k.row (by simp; omega) (cw_rows w T G n r').2.1) (k.row (by simp; omega) (cw_rows w T G n r').2.2) (by omega) (by omega) (by omega)))
  have HK := Lib.hid (cw_kp w T G n r')
  unfold cw at HU HK
  clear hc hM
  go_enter Tryz.func169, Tryz.ntmps169
  go_wp2_with fail
  refine (hm _).mono ?_
  rintro e w1 ⟨rfl, rfl⟩
  go_wp2_with fail
  refine HU.out.mono ?_
  rintro e w2 ⟨rfl, hg, hk, r2, r3⟩
  have e2 : w2.cell? ⟨w.heap.size + 1 + 1, 0, none⟩ = some (.int .i64 a) := cell_of_row r2 0
  have e3 : w2.cell? ⟨w.heap.size + 1 + 1 + 1, 0, none⟩ = some (.bool q) := cell_of_row r3 0
  have f2 : w2.frozen? ⟨w.heap.size + 1 + 1, 0, none⟩ = false := free_of_row r2 0
  have f3 : w2.frozen? ⟨w.heap.size + 1 + 1 + 1, 0, none⟩ = false := free_of_row r3 0
  have HR := Lib.hid (And.intro r2 r3)
  have HG := Lib.hid hg
  have KK : Hid (Kp [p, r] w w2) := Lib.hid (((HK.out.mono (T := [p, r, w.heap.size + 2, w.heap.size + 3]) (by simp)).trans hk).mono fun x hx hlt' => by
    simp only [List.mem_cons, List.not_mem_nil, or_false] at hx ⊢
    omega)
  clear hg hk r2 r3
  go_wp2_with fail
  go_region
  all_goals
    go_wp2
    refine bodyPost_cell2 rfl ⟨w.heap.size + 2, 0, none⟩ ⟨w.heap.size + 3, 0, none⟩ (.int .i64 a) (.bool q) rfl rfl (load_int (b := w.heap.size + 2) ?_) (load_bool (b := w.heap.size + 3) ?_) rfl ⟨rfl, ?_⟩
  · exact (show Kp [w.heap.size + 3] _ _ from (Kp.refl _ _).setCell (.inl (by simp)) _).row (by simp) (by rw [heap_setCell_same _ _ _ _ _ _ HR.out.1]; rfl)
  · exact (heap_setCell_same _ _ _ _ _ _ ((show Kp [w.heap.size + 2] w2 (w2.setCell ⟨w.heap.size + 1 + 1, 0, none⟩ (.int .i64 a)) from (Kp.refl _ _).setCell (.inl (by simp)) _).row (by simp) HR.out.2)).trans rfl
  · have q1 : Kp [w.heap.size + 2] w2 (w2.setCell ⟨w.heap.size + 1 + 1, 0, none⟩ (.int .i64 a)) := (Kp.refl _ _).setCell (.inl (by simp)) _
    have q2 : Kp [w.heap.size + 3] (w2.setCell ⟨w.heap.size + 1 + 1, 0, none⟩ (.int .i64 a)) ((w2.setCell ⟨w.heap.size + 1 + 1, 0, none⟩ (.int .i64 a)).setCell ⟨w.heap.size + 1 + 1 + 1, 0, none⟩ (.bool q)).drew := ((Kp.refl _ _).setCell (.inl (by simp)) _).drew
    exact ⟨(HG.out.keep q1 (by simp; omega) (by simp; omega)).keep q2 (by simp; omega) (by simp; omega), kp_new_set (kp_new_set KK.out q1 (by omega)) q2 (by omega)⟩

end
end Go.Proofs.YticbnckikkdknaaGreatDoor
