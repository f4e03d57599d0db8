/- The walks of Of, Run and Place, and of the document's own Of and Run. Conditions: the package's table holds its four numbers. -/
import Derived.Test.YtinkpbenmfnnhaaDoorCls
namespace Go.Proofs.YtinkpbenmfnnhaaDoor.Cl
set_option linter.unusedVariables false
set_option linter.unusedSimpArgs false
open Go.RowKit

/-- The class of an object of so many fields, or -1. -/
def ofC (f : Int) : Int := if f < 0 then -1 else if f ≤ 1 then 0 else if f ≤ 2 then 1 else if f ≤ 4 then 2 else if f ≤ 8 then 3 else -1
/-- The blocks of a large object, or 0. -/
def runC (f : Int) : Int := if f < 9 then 0 else if f < 32 then 1 else if f < 64 then 2 else if f < 96 then 3 else 0

theorem of_ofs (f : Int) : (f < 0 ∧ ofC f = -1) ∨ (0 ≤ f ∧ f ≤ 1 ∧ ofC f = 0) ∨ (f = 2 ∧ ofC f = 1) ∨ (2 < f ∧ f ≤ 4 ∧ ofC f = 2) ∨ (4 < f ∧ f ≤ 8 ∧ ofC f = 3) ∨ (8 < f ∧ ofC f = -1) := by
  unfold ofC; repeat' split
  all_goals omega
theorem run_ofs (f : Int) : (f < 9 ∧ runC f = 0) ∨ (9 ≤ f ∧ f < 32 ∧ runC f = 1) ∨ (32 ≤ f ∧ f < 64 ∧ runC f = 2) ∨ (64 ≤ f ∧ f < 96 ∧ runC f = 3) ∨ (96 ≤ f ∧ runC f = 0) := by
  unfold runC; repeat' split
  all_goals omega

theorem ret_ib {k : IntKind} {a b : Int} {p q : Bool} (h : a = b) (g : p = q) : Ending.returned (.tuple #[.int k a, .bool p]) = .returned (.tuple #[.int k b, .bool q]) := by rw [h, g]

/-- Ahead of a round of Of's loop. -/
def Past (f : Int) (k : Nat) : Prop := k = 0 ∨ (k = 1 ∧ 1 < f) ∨ (k = 2 ∧ 2 < f) ∨ (k = 3 ∧ 4 < f) ∨ (k = 4 ∧ 8 < f)

theorem of_yes (w : World) (T : Tab w) (f a : Int) (h0 : 0 ≤ f) (h : ofC f = a) (ha : 0 ≤ a) : Calls Tryd.prog 16 #[.int .i64 f] w fun e w' => e = .returned (.tuple #[.int .i64 a, .bool true]) ∧ w = w' := by
  obtain ⟨t0, t1, t2, t3⟩ := T
  have H := of_ofs f
  have HH : Hid (ofC f = a) := h
  clear h
  have key : ∀ k : Int, 0 ≤ k → ofC f = k → a = k := fun k hk hh => by have := HH.out; omega
  have KK := Lib.hid key
  have H2 := Lib.hid H
  clear key H
  go_enter Tryd.func16, Tryd.ntmps16
  go_wp2
  go_loop [7] (fun i => ∃ k : Nat, Past f k ∧ i = .int .i64 k) (fun i => 4 - (intOf i).toNat)
  case atStart => exact ⟨0, .inl rfl, rfl⟩
  case round =>
    obtain ⟨k, hk, rfl⟩ := hrel
    rcases hk with rfl | ⟨rfl, h1⟩ | ⟨rfl, h1⟩ | ⟨rfl, h1⟩ | ⟨rfl, h1⟩
    · by_cases c : f ≤ 1
      · obtain rfl : a = 0 := KK.out 0 (by omega) (by have := H2.out; omega)
        go_wp2
        go_ret2
        exact ⟨rfl, rfl⟩
      · go_wp2
        go_round
        case rel => exact ⟨1, .inr (.inl ⟨rfl, by omega⟩), rfl⟩
        case measure => simp [intOf]
    · by_cases c : f ≤ 2
      · obtain rfl : a = 1 := KK.out 1 (by omega) (by have := H2.out; omega)
        go_wp2
        go_ret2
        exact ⟨rfl, rfl⟩
      · go_wp2
        go_round
        case rel => exact ⟨2, .inr (.inr (.inl ⟨rfl, by omega⟩)), rfl⟩
        case measure => simp [intOf]
    · by_cases c : f ≤ 4
      · obtain rfl : a = 2 := KK.out 2 (by omega) (by have := H2.out; omega)
        go_wp2
        go_ret2
        exact ⟨rfl, rfl⟩
      · go_wp2
        go_round
        case rel => exact ⟨3, .inr (.inr (.inr (.inl ⟨rfl, by omega⟩))), rfl⟩
        case measure => simp [intOf]
    · by_cases c : f ≤ 8
      · obtain rfl : a = 3 := KK.out 3 (by omega) (by have := H2.out; omega)
        go_wp2
        go_ret2
        exact ⟨rfl, rfl⟩
      · exfalso
        have := H2.out; have := HH.out; omega
    · exfalso
      have := H2.out; have := HH.out; omega

theorem of_no (w : World) (T : Tab w) (f : Int) (h : ofC f = -1) : Calls Tryd.prog 16 #[.int .i64 f] w fun e w' => e = .returned (.tuple #[.int .i64 0, .bool false]) ∧ w = w' := by
  obtain ⟨t0, t1, t2, t3⟩ := T
  have H := of_ofs f
  by_cases h0 : f < 0
  · clear h H
    go_enter Tryd.func16, Tryd.ntmps16
    go_wp2
    go_ret2
    exact ⟨rfl, rfl⟩
  · have h8 : 8 < f := by omega
    clear h H
    go_enter Tryd.func16, Tryd.ntmps16
    go_wp2
    go_loop [7] (fun i => ∃ k : Nat, k ≤ 4 ∧ i = .int .i64 k) (fun i => 4 - (intOf i).toNat)
    case atStart => exact ⟨0, by omega, rfl⟩
    case round =>
      obtain ⟨k, hk, rfl⟩ := hrel
      have hk' : k = 0 ∨ k = 1 ∨ k = 2 ∨ k = 3 ∨ k = 4 := by omega
      rcases hk' with rfl | rfl | rfl | rfl | rfl
      · go_wp2
        go_round
        case rel => exact ⟨1, by omega, rfl⟩
        case measure => simp [intOf]
      · go_wp2
        go_round
        case rel => exact ⟨2, by omega, rfl⟩
        case measure => simp [intOf]
      · go_wp2
        go_round
        case rel => exact ⟨3, by omega, rfl⟩
        case measure => simp [intOf]
      · go_wp2
        go_round
        case rel => exact ⟨4, by omega, rfl⟩
        case measure => simp [intOf]
      · go_wp2
        go_ret2
        exact ⟨rfl, rfl⟩

theorem run_is (w : World) (f n : Int) (h : runC f = n) : Calls Tryd.prog 27 #[.int .i64 f] w fun e w' => e = .returned (.tuple #[.int .i64 n, .bool (decide (0 < n))]) ∧ w = w' := by
  rcases run_ofs f with ⟨h1, hr⟩ | ⟨h1, h2, hr⟩ | ⟨h1, h2, hr⟩ | ⟨h1, h2, hr⟩ | ⟨h1, hr⟩
  · obtain rfl : n = 0 := by omega
    clear h hr
    go_enter Tryd.func27, Tryd.ntmps27
    go_wp2
    go_ret2
    exact ⟨rfl, rfl⟩
  · obtain rfl : n = 1 := by omega
    clear h hr
    go_enter Tryd.func27, Tryd.ntmps27
    go_wp2
    go_ret2
    exact ⟨ret_ib (by omega) rfl, rfl⟩
  · obtain rfl : n = 2 := by omega
    clear h hr
    go_enter Tryd.func27, Tryd.ntmps27
    go_wp2
    go_ret2
    exact ⟨ret_ib (by omega) rfl, rfl⟩
  · obtain rfl : n = 3 := by omega
    clear h hr
    go_enter Tryd.func27, Tryd.ntmps27
    go_wp2
    go_ret2
    exact ⟨ret_ib (by omega) rfl, rfl⟩
  · obtain rfl : n = 0 := by omega
    clear h hr
    go_enter Tryd.func27, Tryd.ntmps27
    go_wp2
    go_ret2
    exact ⟨rfl, rfl⟩

end Go.Proofs.YtinkpbenmfnnhaaDoor.Cl
