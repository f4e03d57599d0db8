/- ClassParts, walked. Conditions: the package's table holds its four numbers. -/
import Derived.Test.YtaeobmlmoidgcaaDoorClsTells
namespace Go.Proofs.YtaeobmlmoidgcaaDoor
set_option linter.unusedVariables false
set_option linter.unusedSimpArgs false
open Go.RowKit

/-- How many cells begin below an offset. -/
def begunC (n : Int) (m t : Nat) : Int := if (t : Int) < n * m then (t + n - 1) / n else m

/-- What a round of the loop over a block's words does. -/
structure Step (n : Int) (m t : Nat) : Prop where
  ins : (t : Int) < n * m → ∀ p : Int, p = t - t % n → 0 ≤ p ∧ p ≤ t ∧ t - p < n ∧ p % n = 0 ∧ (p = t → begunC n m (t + 1) = begunC n m t + 1) ∧ (p ≠ t → begunC n m (t + 1) = begunC n m t)
  off : n * m ≤ (t : Int) → begunC n m (t + 1) = begunC n m t
  bnd : 0 ≤ begunC n m t ∧ begunC n m t ≤ 32

theorem step_of (c n : Int) (m t : Nat) (h : Cls c n m) (ht : t < 32) : Step n m t := by
  rcases h with ⟨rfl, rfl, rfl⟩ | ⟨rfl, rfl, rfl⟩ | ⟨rfl, rfl, rfl⟩ | ⟨rfl, rfl, rfl⟩
  all_goals
    refine ⟨fun h1 p hp => ⟨by omega, by omega, by omega, by omega, fun h2 => ?_, fun h2 => ?_⟩, fun h1 => ?_, ?_⟩
    all_goals
      unfold begunC
      repeat' split
      all_goals omega

set_option maxHeartbeats 4000000 in
set_option maxRecDepth 100000 in
theorem parts_core (w : World) (T : Tab w) (c f n x n' r r' : Int) (m : Nat) (b l : Bool) (hc0 : 0 ≤ c) (hc1 : c ≤ 255) (hf0 : 0 ≤ f) (hf1 : f ≤ 255) (h : Cls (c % 4) n m)
    (h1 : Calls Tryd.prog 7 #[.int .i64 (f % 96)] w fun e w' => e = .returned (.tuple #[.int .i64 x, .bool b]) ∧ w = w')
    (h2 : Calls Tryd.prog 8 #[.int .i64 (f % 96)] w fun e w' => e = .returned (.tuple #[.int .i64 n', .bool l]) ∧ w = w')
    (h3 : Calls Tryd.prog 13 #[.int .i64 x] w fun e w' => e = .returned (.int .i64 r) ∧ w = w')
    (h4 : Calls Tryd.prog 13 #[.int .i64 (x - 1)] w fun e w' => e = .returned (.int .i64 r') ∧ w = w')
    (hx : (b = true ∧ l = false ∧ f % 96 ≤ r ∧ x = 0) ∨ (b = true ∧ l = false ∧ f % 96 ≤ r ∧ 1 ≤ x ∧ x ≤ 3 ∧ r' < f % 96) ∨ (b = false ∧ l = true ∧ 1 ≤ n' ∧ n' ≤ 3 ∧ f % 96 + 1 ≤ n' * 32 ∧ (n' - 1) * 32 < f % 96 + 1)) :
    Calls Tryd.prog 5 #[.int .u8 c, .int .u8 f] w fun e w' => e = .returned (.bool true) ∧ Kp [] w w' := by
  have S := Lib.hid (fun t => step_of _ n m t h)
  have k1 : Calls Tryd.prog 12 #[.int .i64 (c % 4)] w fun e w' => e = .returned (.int .i64 n) ∧ w = w' := words_is w T _ _ (by rcases h with ⟨h, rfl, rfl⟩ | ⟨h, rfl, rfl⟩ | ⟨h, rfl, rfl⟩ | ⟨h, rfl, rfl⟩ <;> rw [h] <;> rfl)
  have k2 : Calls Tryd.prog 14 #[.int .i64 (c % 4)] w fun e w' => e = .returned (.int .i64 m) ∧ w = w' := cells_is w T _ _ (by rcases h with ⟨h, rfl, rfl⟩ | ⟨h, rfl, rfl⟩ | ⟨h, rfl, rfl⟩ | ⟨h, rfl, rfl⟩ <;> rw [h] <;> rfl)
  have k3 : ∀ t : Nat, (t : Int) < n * m → Calls Tryd.prog 16 #[.int .i64 (c % 4), .int .i64 t] w fun e w' => e = .returned (.tuple #[.int .i64 (t - t % n), .bool true]) ∧ w = w' := fun t ht => place_in w T _ n m h t (by omega) ht
  have k4 : ∀ t : Nat, n * m ≤ (t : Int) → Calls Tryd.prog 16 #[.int .i64 (c % 4), .int .i64 t] w fun e w' => e = .returned (.tuple #[.int .i64 0, .bool false]) ∧ w = w' := fun t ht => place_ge w T _ n m h t ht
  have hr0 : 0 ≤ f % 96 ∧ f % 96 ≤ 95 := by omega
  obtain ⟨hr0, hr1⟩ := hr0
  have hn : 2 ≤ n ∧ n ≤ 9 ∧ 1 ≤ m ∧ m ≤ 16 := by rcases h with ⟨h, rfl, rfl⟩ | ⟨h, rfl, rfl⟩ | ⟨h, rfl, rfl⟩ | ⟨h, rfl, rfl⟩ <;> omega
  have hend : begunC n m 32 = m ∧ 32 - (m : Int) * n < n ∧ 0 ≤ (m : Int) * n ∧ (m : Int) * n ≤ 32 := by
    rcases h with ⟨h, rfl, rfl⟩ | ⟨h, rfl, rfl⟩ | ⟨h, rfl, rfl⟩ | ⟨h, rfl, rfl⟩ <;> decide
  have hzero : begunC n m 0 = 0 := by rcases h with ⟨h, rfl, rfl⟩ | ⟨h, rfl, rfl⟩ | ⟨h, rfl, rfl⟩ | ⟨h, rfl, rfl⟩ <;> decide
  obtain ⟨hn2, hn9, hm1, hm16⟩ := hn
  obtain ⟨hend, hsl, hp0, hp1⟩ := hend
  have hcomm : n * (m : Int) = (m : Int) * n := Int.mul_comm _ _
  have HE := Lib.hid hend
  have HZ := Lib.hid hzero
  have HC := Lib.hid hcomm
  clear hend hcomm h hzero
  go_enter Tryd.func5, Tryd.ntmps5
  go_wp2_with (first
    | ((with_reducible refine k1.mono ?_); rintro e w' ⟨rfl, rfl⟩)
    | ((with_reducible refine k2.mono ?_); rintro e w' ⟨rfl, rfl⟩))
  go_loop [7, 8] (fun s i => ∃ t : Nat, t ≤ 32 ∧ i = .int .i64 t ∧ s = .int .i64 (begunC n m t)) (fun _ i => 32 - (intOf i).toNat)
  case atStart => exact ⟨0, by omega, rfl, by rw [HZ.out]⟩
  case round =>
    obtain ⟨t, ht, rfl, rfl⟩ := hrel
    obtain ⟨s, hs⟩ : ∃ s, s = begunC n m t := ⟨_, rfl⟩
    have HS := Lib.hid hs
    rw [← hs]
    clear hs
    by_cases htl : t < 32
    · have st := S.out t htl
      have hs0 : 0 ≤ s ∧ s ≤ 32 := by rw [HS.out]; exact st.bnd
      obtain ⟨hs0, hs1⟩ := hs0
      have HT := Lib.hid st
      clear st
      by_cases hin : (t : Int) < m * n
      · have k := k3 t (by rw [HC.out]; exact hin)
        obtain ⟨p, hp⟩ : ∃ p, p = (t : Int) - t % n := ⟨_, rfl⟩
        rw [← hp] at k
        obtain ⟨g1, g2, g3, g4, g5, g6⟩ := HT.out.ins (by rw [HC.out]; exact hin) p hp
        clear hp
        by_cases hpt : p = t
        · have G5 := Lib.hid (g5 hpt)
          subst hpt
          clear g5 g6
          go_wp2_with (first
            | ((with_reducible refine k.mono ?_); rintro e w' ⟨rfl, rfl⟩)
            | ((with_reducible refine k2.mono ?_); rintro e w' ⟨rfl, rfl⟩))
          go_round
          case rel => exact ⟨t + 1, by omega, by go_num, by rw [G5.out, HS.out]⟩
          case measure => simp [intOf]; omega
        · have G6 := Lib.hid (g6 hpt)
          clear g5 g6
          have hptb : (p == (t : Int)) = false := by simpa using hpt
          go_wp2_with (first
            | ((with_reducible refine k.mono ?_); rintro e w' ⟨rfl, rfl⟩)
            | ((with_reducible refine k2.mono ?_); rintro e w' ⟨rfl, rfl⟩))
          go_round
          case rel => exact ⟨t + 1, by omega, by go_num, by rw [G6.out, HS.out]⟩
          case measure => simp [intOf]; omega
      · have k := k4 t (by rw [HC.out]; omega)
        have G6 := Lib.hid (HT.out.off (by rw [HC.out]; omega))
        have hin' : (m : Int) * n ≤ t := by omega
        clear hin
        go_wp2_with (first
          | ((with_reducible refine k.mono ?_); rintro e w' ⟨rfl, rfl⟩)
          | ((with_reducible refine k2.mono ?_); rintro e w' ⟨rfl, rfl⟩))
        go_round
        case rel => exact ⟨t + 1, by omega, by go_num, by rw [G6.out, HS.out]⟩
        case measure => simp [intOf]; omega
    · obtain rfl : t = 32 := by omega
      obtain rfl : s = (m : Int) := HS.out.trans HE.out
      clear k3 k4 S
      rcases hx with ⟨rfl, rfl, hx1, rfl⟩ | ⟨rfl, rfl, hx1, hx2, hx3, hx4⟩ | ⟨rfl, rfl, hx1, hx2, hx3, hx4⟩
      all_goals
        go_wp2_with (first
          | ((with_reducible refine k2.mono ?_); rintro e w' ⟨rfl, rfl⟩)
          | ((with_reducible refine h1.mono ?_); rintro e w' ⟨rfl, rfl⟩)
          | ((with_reducible refine h2.mono ?_); rintro e w' ⟨rfl, rfl⟩)
          | ((with_reducible refine h3.mono ?_); rintro e w' ⟨rfl, rfl⟩)
          | ((with_reducible refine h4.mono ?_); rintro e w' ⟨rfl, rfl⟩)
          | ((refine (wakes_is _ T).mono ?_); rintro e w' ⟨rfl, rfl⟩))
        go_ret
        exact ⟨rfl, Kp.refl _ _⟩

theorem parts_any (w : World) (T : Tab w) (c f : Int) (hc0 : 0 ≤ c) (hc1 : c ≤ 255) (hf0 : 0 ≤ f) (hf1 : f ≤ 255) :
    Calls Tryd.prog 5 #[.int .u8 c, .int .u8 f] w fun e w' => e = .returned (.bool true) ∧ Kp [] w w' := by
  have hcl : ∃ n m, Cls (c % 4) n m := by
    have : c % 4 = 0 ∨ c % 4 = 1 ∨ c % 4 = 2 ∨ c % 4 = 3 := by omega
    rcases this with h | h | h | h
    · exact ⟨2, 16, .inl ⟨h, rfl, rfl⟩⟩
    · exact ⟨3, 10, .inr (.inl ⟨h, rfl, rfl⟩)⟩
    · exact ⟨5, 6, .inr (.inr (.inl ⟨h, rfl, rfl⟩))⟩
    · exact ⟨9, 3, .inr (.inr (.inr ⟨h, rfl, rfl⟩))⟩
  obtain ⟨n, m, hcl⟩ := hcl
  have ho := of_ofs (f % 96)
  have hr := run_ofs (f % 96)
  have hlo : 0 ≤ f % 96 := by omega
  have hhi : f % 96 ≤ 95 := by omega
  rcases ho with ⟨g, _⟩ | ⟨g1, g2, g3⟩ | ⟨g1, g3⟩ | ⟨g1, g2, g3⟩ | ⟨g1, g2, g3⟩ | ⟨g1, g3⟩
  · omega
  · exact parts_core w T c f n 0 0 1 (rmC (0 - 1)) m true false hc0 hc1 hf0 hf1 hcl (of_yes w T _ _ hlo g3 (by omega)) (run_is2 w _ 0 false (by omega) rfl) (room_is w T _ _ rfl) (room_is w T _ _ rfl) (.inl ⟨rfl, rfl, by omega, rfl⟩)
  · exact parts_core w T c f n 1 0 2 1 m true false hc0 hc1 hf0 hf1 hcl (of_yes w T _ _ hlo g3 (by omega)) (run_is2 w _ 0 false (by omega) rfl) (room_is w T _ _ rfl) (room_is w T _ _ rfl) (.inr (.inl ⟨rfl, rfl, by omega, by omega, by omega, by omega⟩))
  · exact parts_core w T c f n 2 0 4 2 m true false hc0 hc1 hf0 hf1 hcl (of_yes w T _ _ hlo g3 (by omega)) (run_is2 w _ 0 false (by omega) rfl) (room_is w T _ _ rfl) (room_is w T _ _ rfl) (.inr (.inl ⟨rfl, rfl, by omega, by omega, by omega, by omega⟩))
  · exact parts_core w T c f n 3 0 8 4 m true false hc0 hc1 hf0 hf1 hcl (of_yes w T _ _ hlo g3 (by omega)) (run_is2 w _ 0 false (by omega) rfl) (room_is w T _ _ rfl) (room_is w T _ _ rfl) (.inr (.inl ⟨rfl, rfl, by omega, by omega, by omega, by omega⟩))
  · exact parts_core w T c f n 0 (runC (f % 96)) (rmC 0) (rmC (0 - 1)) m false true hc0 hc1 hf0 hf1 hcl (of_no w T _ g3) (run_is2 w _ _ true rfl (decide_eq_true (by omega))) (room_is w T _ _ rfl) (room_is w T _ _ rfl) (.inr (.inr ⟨rfl, rfl, by omega, by omega, by omega, by omega⟩))

end Go.Proofs.YtaeobmlmoidgcaaDoor
