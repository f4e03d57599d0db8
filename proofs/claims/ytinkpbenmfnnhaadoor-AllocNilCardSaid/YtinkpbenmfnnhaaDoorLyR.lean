/- The walks of the document's own layout (demesneref06). Conditions: as each theorem states them. -/
import Derived.Test.YtinkpbenmfnnhaaDoorLyN
namespace Go.Proofs.YtinkpbenmfnnhaaDoor.Ly
set_option linter.unusedVariables false
set_option linter.unusedSimpArgs false
open Go.RowKit

theorem rnew_bad (W T G : Int) (w : World) (h : ¬ (1 ≤ W ∧ W ≤ 4096 ∧ 1 ≤ T ∧ T ≤ 64 ∧ 0 ≤ G ∧ G ≤ 8)) :
    Calls Tryd.prog 9 #[.int .i64 W, .int .i64 T, .int .i64 G] w fun e w' => e = .returned (.tuple #[.agg #[.int .i64 0, .int .i64 0, .int .i64 0], .int .i64 2]) ∧ Kp [] w w' := by
  rcases (by omega : W < 1 ∨ (1 ≤ W ∧ 4096 < W) ∨ (1 ≤ W ∧ W ≤ 4096 ∧ T < 1) ∨ (1 ≤ W ∧ W ≤ 4096 ∧ 1 ≤ T ∧ 64 < T) ∨ (1 ≤ W ∧ W ≤ 4096 ∧ 1 ≤ T ∧ T ≤ 64 ∧ G < 0) ∨ (1 ≤ W ∧ W ≤ 4096 ∧ 1 ≤ T ∧ T ≤ 64 ∧ 0 ≤ G ∧ 8 < G)) with
    h1 | ⟨h1, h2⟩ | ⟨h1, h2, h3⟩ | ⟨h1, h2, h3, h4⟩ | ⟨h1, h2, h3, h4, h5⟩ | ⟨h1, h2, h3, h4, h5, h6⟩
  all_goals (
    clear h
    go_enter Tryd.func9, Tryd.ntmps9
    go_wp2
    go_returns
    exact ⟨rfl, (Kp.refl _ _).alloc _⟩)

set_option maxRecDepth 100000 in
set_option maxHeartbeats 1000000 in
/-- New: either no block goes in, or as many as go in. -/
theorem rnew_walk (W T G : Int) (w : World) (w1 : 1 ≤ W) (w2 : W ≤ 4096) (t0 : 1 ≤ T) (t1 : T ≤ 64) (g0 : 0 ≤ G) (g1 : G ≤ 8) (R : Ending → Prop)
    (hfull : W < 3 + T + G + 33 → R (.returned (.tuple #[.agg #[.int .i64 0, .int .i64 0, .int .i64 0], .int .i64 4])))
    (hok : ∀ b : Int, 1 ≤ b → b ≤ 64 → 3 + T + G + 33 * b ≤ W → (b < 64 → W < 3 + T + G + 33 * (b + 1)) → R (.returned (.tuple #[.agg #[.int .i64 T, .int .i64 G, .int .i64 b], .int .i64 0]))) :
    Calls Tryd.prog 9 #[.int .i64 W, .int .i64 T, .int .i64 G] w fun e w' => R e ∧ Kp [] w w' := by
  have HF := Lib.hid hfull
  have HO := Lib.hid hok
  clear hfull hok
  go_enter Tryd.func9, Tryd.ntmps9
  go_wp2_with fail
  go_loop [8] (fun bv => ∃ k : Nat, k ≤ 64 ∧ bv = .int .i64 k ∧ (k = 0 ∨ 3 + T + G + 33 * k ≤ W)) (fun bv => 64 - (intOf bv).toNat)
  case atStart => exact ⟨0, by omega, rfl, .inl rfl⟩
  case round =>
    obtain ⟨k, hk, rfl, hfit⟩ := hrel
    have HFIT := Lib.hid hfit
    clear hfit
    by_cases hk64 : k < 64
    · by_cases hm : 3 + T + G + 33 * (k + 1) ≤ W
      · go_wp2
        go_round
        case rel => exact ⟨k + 1, by omega, by go_num, .inr (by push_cast; omega)⟩
        case measure => simp [intOf]; omega
      · by_cases h0 : k = 0
        · subst h0
          have hd : decide ((3 + T + G + 33 * ((0 : Nat) + 1) : Int) ≤ W) = false := by simpa using hm
          go_wp2
          go_returns
          exact ⟨HF.out (by omega), (Kp.refl _ _).alloc _⟩
        · have hk0 : 0 < k := by omega
          have hne : ((k : Int) == 0) = false := by simpa using h0
          have HR := Lib.hid (HO.out k (by omega) (by omega) (by rcases HFIT.out with h | h <;> omega) (fun _ => by omega))
          go_wp2
          go_returns
          exact ⟨HR.out, (Kp.refl _ _).alloc _⟩
    · obtain rfl : k = 64 := by omega
      have HR := Lib.hid (HO.out 64 (by omega) (by omega) (by rcases HFIT.out with h | h <;> omega) (fun h => by omega))
      go_wp2
      go_returns
      exact ⟨HR.out, (Kp.refl _ _).alloc _⟩

theorem rnew_full (W T G : Int) (w : World) (w1 : 1 ≤ W) (w2 : W ≤ 4096) (t0 : 1 ≤ T) (t1 : T ≤ 64) (g0 : 0 ≤ G) (g1 : G ≤ 8) (h : W < 3 + T + G + 33) :
    Calls Tryd.prog 9 #[.int .i64 W, .int .i64 T, .int .i64 G] w fun e w' => e = .returned (.tuple #[.agg #[.int .i64 0, .int .i64 0, .int .i64 0], .int .i64 4]) ∧ Kp [] w w' :=
  rnew_walk W T G w w1 w2 t0 t1 g0 g1 _ (fun _ => rfl) (fun b h1 h2 h3 h4 => by omega)
theorem rnew_ok (W T G b : Int) (w : World) (hb : blkP W T G = b) (w1 : 1 ≤ W) (w2 : W ≤ 4096) (t0 : 1 ≤ T) (t1 : T ≤ 64) (g0 : 0 ≤ G) (g1 : G ≤ 8) (h : 3 + T + G + 33 ≤ W) :
    Calls Tryd.prog 9 #[.int .i64 W, .int .i64 T, .int .i64 G] w fun e w' => e = .returned (.tuple #[.agg #[.int .i64 T, .int .i64 G, .int .i64 b], .int .i64 0]) ∧ Kp [] w w' := by
  refine rnew_walk W T G w w1 w2 t0 t1 g0 g1 _ (fun _ => by omega) (fun c h1 h2 h3 h4 => ?_)
  have : c = b := by rw [← hb]; unfold blkP; split <;> omega
  rw [this]

end Go.Proofs.YtinkpbenmfnnhaaDoor.Ly
