/- The walk of Find: a labelled loop. Conditions: as each theorem states them. -/
import Derived.Test.YtinkpbenmfnnhaaDoorBm
import Derived.Deep.LoopGhost
namespace Go.Proofs.YtinkpbenmfnnhaaDoor.Bm
set_option linter.unusedVariables false
set_option linter.unusedSimpArgs false
open Go.RowKit

/-- Block k is the least one at which a run is free. -/
def Least (x : Nat) (r : Nat) (k : Nat) : Prop := k + r ≤ 64 ∧ allN x k r true = true ∧ ∀ j, j < k → allN x j r true = false
def NoRun (x : Nat) (r : Nat) : Prop := ∀ j, j + r ≤ 64 → allN x j r true = false

theorem find_bad (x : Nat) (r : Int) (w : World) (h : ¬ (1 ≤ r ∧ r ≤ 3)) : Calls Tryd.prog 67 #[.int .u64 x, .int .i64 r] w fun e w' => e = .returned (.tuple #[.int .i64 0, .bool false]) ∧ Kp [] w w' := by
  have km := may_run r false w (by simpa using h)
  clear h
  go_enter Tryd.func67, Tryd.ntmps67
  go_wp2
  go_step3
  go_wp2_with ((with_reducible refine km.mono ?_); rintro e w' ⟨rfl, rfl⟩)
  try rw [Exit.noGoto_ret]
  go_ret2
  exact ⟨rfl, Kp.refl _ _⟩

theorem find_walk (x : Nat) (r : Nat) (w : World) (hx : x < 18446744073709551616) (h1 : 1 ≤ r) (h3 : r ≤ 3) (o : Int) (b : Bool)
    (hyes : ∀ k : Nat, Least x r k → o = k ∧ b = true) (hno : NoRun x r → o = 0 ∧ b = false) :
    Calls Tryd.prog 67 #[.int .u64 x, .int .i64 r] w fun e w' => e = .returned (.tuple #[.int .i64 o, .bool b]) ∧ Kp [] w w' := by
  have km := may_run r true w (by simp; omega)
  have kb := bits_of x w
  have HY := Lib.hid hyes
  have HN := Lib.hid hno
  have hcell : (w.alloc (.cells #[.int .u64 x] 59)).cell? ⟨w.heap.size, 0, none⟩ = some (.int .u64 x) := by simp
  have kc : ∀ (i : Int) (q : Bool), 0 ≤ i → i < 64 → x.testBit i.toNat = q → _ := fun i q i0 i1 hq => bit_at x i w.heap.size q (w.alloc (.cells #[.int .u64 x] 59)) i0 i1 hx hq hcell
  have KC := Lib.hid kc
  clear hyes hno kc
  go_enter Tryd.func67, Tryd.ntmps67
  go_wp2
  go_step3
  go_wp2_with (first | ((with_reducible refine km.mono ?_); rintro e w' ⟨rfl, rfl⟩) | ((with_reducible refine kb.mono ?_); rintro e w' ⟨rfl, rfl⟩))
  clear km kb
  go_step3
  go_wp2
  go_loopg [17] (65 - r) (fun g i wr => ∃ k : Nat, k + g = 65 - r ∧ i = .int .i64 k ∧ Hid (∀ j, j < k → allN x j r true = false) ∧ wr = w.alloc (.cells #[.int .u64 x] 59))
  case atStart => exact ⟨0, by omega, rfl, fun j hj => absurd hj (by omega), rfl⟩
  case round =>
    obtain ⟨k, hkg, rfl, HB, rfl⟩ := hrel
    by_cases hk : k < 65 - r
    · have hgo : (k : Int) < 64 - r + 1 := by omega
      obtain ⟨G, hG⟩ : ∃ G, G + 1 = gk := ⟨65 - r - k - 1, by omega⟩
      go_wp2
      go_loopg [21] r (fun g i wr => ∃ j : Nat, j + g = r ∧ i = .int .i64 j ∧ Hid (∀ i, i < j → x.testBit (k + i) = true) ∧ wr = w.alloc (.cells #[.int .u64 x] 59))
      case atStart => exact ⟨0, by omega, rfl, fun j hj => absurd hj (by omega), rfl⟩
      case round =>
        obtain ⟨j, hjg, rfl, HI, rfl⟩ := hrel
        by_cases hj : j < r
        · cases hq : x.testBit (k + j)
          · have cc := KC.out (k + j) false (by omega) (by omega) (by rw [← hq]; congr 1)
            have HQ := Lib.hid hq
            clear hq
            go_wp2_with ((with_reducible refine cc.mono ?_); rintro e w' ⟨rfl, rfl⟩)
            go_roundg G
            case rel =>
              refine ⟨k + 1, by omega, by go_num, fun i hi => ?_, rfl⟩
              by_cases hik : i = k
              · subst hik
                by_cases ha : allN x i r true = true
                · have h5 := allN_iff.1 ha (i + j) (by omega) (by omega)
                  rw [HQ.out] at h5
                  exact absurd h5 (by decide)
                · simpa using ha
              · exact HB.out i (by omega)
            case measure => omega
          · have cc := KC.out (k + j) true (by omega) (by omega) (by rw [← hq]; congr 1)
            have HQ := Lib.hid hq
            clear hq
            go_wp2_with ((with_reducible refine cc.mono ?_); rintro e w' ⟨rfl, rfl⟩)
            go_roundg (r - (j + 1))
            case rel =>
              refine ⟨j + 1, by omega, by go_num, fun i hi => ?_, rfl⟩
              by_cases hij : i = j
              · subst hij; exact HQ.out
              · exact HI.out i (by omega)
            case measure => omega
        · have hjr : j = r := by omega
          obtain ⟨rfl, rfl⟩ := HY.out k ⟨by omega, decide_eq_true (fun i hi => HI.out i (by omega)), HB.out⟩
          go_wp2
          try rw [Exit.noGoto_ret]
          go_ret2
          exact ⟨rfl, (Kp.refl _ _).alloc _⟩
    · have hgo : ¬ (k : Int) < 64 - r + 1 := by omega
      obtain ⟨rfl, rfl⟩ := HN.out (fun j hj => HB.out j (by omega))
      go_wp2
      try rw [Exit.noGoto_ret]
      go_ret2
      exact ⟨rfl, (Kp.refl _ _).alloc _⟩

end Go.Proofs.YtinkpbenmfnnhaaDoor.Bm
