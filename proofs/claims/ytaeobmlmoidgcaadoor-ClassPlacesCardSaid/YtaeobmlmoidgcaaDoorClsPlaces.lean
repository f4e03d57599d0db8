/- ClassPlaces, walked. Conditions: the package's table holds its four numbers. -/
import Derived.Test.YtaeobmlmoidgcaaDoorClsTells
import Derived.Deep.QuietTactic
import Derived.BigQuiet
namespace Go.Proofs.YtaeobmlmoidgcaaDoor
set_option linter.unusedVariables false
set_option linter.unusedSimpArgs false
open Go.RowKit

theorem kp_drewN (w : World) (j : Nat) : Kp [] w (w.drewN j) := ⟨rfl, rfl, rfl, Nat.le_refl _, fun _ _ _ => rfl⟩

/-- Ahead of a round: the list's cells, the table. -/
structure PlRel (w : World) (n : Int) (m g : Nat) (wr : World) : Prop where
  own : ∀ k, k < m → wr.cell? ⟨g, k, none⟩ = some (.int .i64 (n * k))
  tab : Tab wr
  keep : Kp [] w wr
theorem PlRel.on {w wr w2 : World} {n : Int} {m g : Nat} (h : PlRel w n m g wr) (k : Kp [] wr w2) : PlRel w n m g w2 :=
  ⟨fun i hi => (World.cell?_of_block (k.block g (World.block_lt_of_cell? wr _ (h.own i hi)) (by simp))).trans (h.own i hi), h.tab.keep k, h.keep.trans k⟩

/-- What Starts answers, cell by cell. -/
theorem starts_at (w : World) (T : Tab w) (c n : Int) (m : Nat) (h : Cls c n m) :
    Calls Tryd.prog 15 #[.int .i64 c] w fun e w' => ∃ g cap, e = .returned (.slice (some ⟨g, 0, none⟩) m cap) ∧ PlRel w n m g w' := by
  have hm : 0 < m := by rcases h with ⟨rfl, rfl, rfl⟩ | ⟨rfl, rfl, rfl⟩ | ⟨rfl, rfl, rfl⟩ | ⟨rfl, rfl, rfl⟩ <;> omega
  refine (starts_in w c n m h).mono ?_
  rintro e w' ⟨v, rfl, hown, hk⟩
  obtain ⟨_, ⟨rfl, h0⟩ | ⟨g, cap, cur, rfl, _, hh, hle, _, _, htk⟩⟩ := hown
  · omega
  · refine ⟨g, cap, rfl, fun k hkm => ?_, T.keep hk, hk⟩
    have e := lst_get n m k hkm
    rw [← htk, List.getElem?_take_of_lt (by omega)] at e
    rw [cell_of_row hh]
    simpa using e

set_option maxHeartbeats 2000000 in
set_option maxRecDepth 100000 in
theorem places_in (w : World) (T : Tab w) (c n o : Int) (m : Nat) (h : Cls c n m) (ho0 : 0 ≤ o) (ho1 : o < n * m) :
    Calls Tryd.prog 4 #[.int .i64 c, .int .i64 o] w fun e w' => e = .returned (.bool true) ∧ Kp [] w w' := by
  have hp := place_in w T c n m h o ho0 ho1
  have hs := starts_at w T c n m h
  have hn : 2 ≤ n ∧ n ≤ 9 := by rcases h with ⟨rfl, rfl, rfl⟩ | ⟨rfl, rfl, rfl⟩ | ⟨rfl, rfl, rfl⟩ | ⟨rfl, rfl, rfl⟩ <;> omega
  have hm : m ≤ 16 := by rcases h with ⟨rfl, rfl, rfl⟩ | ⟨rfl, rfl, rfl⟩ | ⟨rfl, rfl, rfl⟩ | ⟨rfl, rfl, rfl⟩ <;> omega
  have ho : o < 32 := by rcases h with ⟨rfl, rfl, rfl⟩ | ⟨rfl, rfl, rfl⟩ | ⟨rfl, rfl, rfl⟩ | ⟨rfl, rfl, rfl⟩ <;> omega
  have hc : c ≤ 3 := by rcases h with ⟨rfl, rfl, rfl⟩ | ⟨rfl, rfl, rfl⟩ | ⟨rfl, rfl, rfl⟩ | ⟨rfl, rfl, rfl⟩ <;> omega
  have hwd : wdC c = n := by rcases h with ⟨rfl, rfl, rfl⟩ | ⟨rfl, rfl, rfl⟩ | ⟨rfl, rfl, rfl⟩ | ⟨rfl, rfl, rfl⟩ <;> rfl
  have hW : ∀ w, Calls Tryd.prog 11 #[.int .i64 c] w fun e w' => e = .returned (.int .i64 n) ∧ w' = w := fun w => (rwords_is w c n hwd).mono (fun e w' ⟨h1, h2⟩ => ⟨h1, h2.symm⟩)
  have key : ∀ k : Nat, k ≤ m → n * k ≤ o → k < m ∧ 0 ≤ n * k ∧ n * k ≤ 32 ∧ (o - n * k < n → o - o % n = n * k) ∧ (¬ o - n * k < n → n * (k + 1 : Nat) ≤ o) := by
    intro k hk hko
    rcases h with ⟨rfl, rfl, rfl⟩ | ⟨rfl, rfl, rfl⟩ | ⟨rfl, rfl, rfl⟩ | ⟨rfl, rfl, rfl⟩
    all_goals exact ⟨by omega, by omega, by omega, fun _ => by omega, fun _ => by omega⟩
  have KY := Lib.hid key
  obtain ⟨q, hq⟩ : ∃ q, q = o - o % n := ⟨_, rfl⟩
  have HQ := Lib.hid hq
  rw [← hq] at hp
  obtain ⟨hn1, hn2⟩ := hn
  clear key hwd ho1 hq h
  go_enter Tryd.func4, Tryd.ntmps4
  go_wp2_with (first
    | ((with_reducible refine hp.mono ?_); rintro e w' ⟨rfl, rfl⟩)
    | ((with_reducible refine hs.mono ?_); rintro e w1 ⟨g, cap, rfl, R⟩))
  go_loopw [8] (fun i wr => ∃ k : Nat, k ≤ m ∧ i = .int .i64 k ∧ n * k ≤ o ∧ PlRel w n m g wr) (fun i _ => 64 - (intOf i).toNat)
  case atStart => exact ⟨0, by omega, rfl, by simpa using ho0, R⟩
  case round =>
    obtain ⟨k, hk, rfl, hko, R1⟩ := hrel
    obtain ⟨hkm, hk0, hk32, hyes, hno⟩ := KY.out k hk hko
    have hcell : ∀ j, (wr.drewN j).cell? ⟨g, k, none⟩ = some (.int .i64 (n * k)) := fun j => (R1.on (kp_drewN _ _)).own k hkm
    have hc0 := R1.own k hkm
    obtain ⟨a, ha⟩ : ∃ a, a = n * (k : Int) := ⟨_, rfl⟩
    have HA := Lib.hid ha
    rw [← ha] at hko hk0 hk32 hyes hno hc0
    simp only [← ha] at hcell
    clear ha R
    have HY := Lib.hid hyes
    have HN := Lib.hid hno
    clear hyes hno
    by_cases hlt : o - a < n
    · have e1 : decide (a ≤ o) = true := by simpa using hko
      obtain rfl : q = a := HQ.out.trans (HY.out hlt)
      go_wp2
      go_quiet ((go_at_call 11; exact Calls.quiet_of_same (hW _)))
      have hck := hcell nq
      have hT := (R1.on (kp_drewN wr nq)).tab
      have hK := (R1.on (kp_drewN wr nq)).keep
      go_wp2_with ((refine (wakes_is _ hT).mono ?_); rintro e w' ⟨rfl, rfl⟩)
      go_ret
      exact ⟨rfl, hK⟩
    · have e1 : decide (a ≤ o) = true := by simpa using hko
      have e2 : decide (o - a < n) = false := by simpa using hlt
      go_wp2
      go_quiet ((go_at_call 11; exact Calls.quiet_of_same (hW _)))
      have R2 := R1.on (kp_drewN wr nq)
      go_wp2
      go_roundw
      case rel => exact ⟨k + 1, by omega, by go_num, HN.out hlt, R2⟩
      case measure => simp [intOf]; omega

set_option maxHeartbeats 2000000 in
set_option maxRecDepth 100000 in
theorem places_off (w : World) (T : Tab w) (c n o : Int) (m : Nat) (h : Cls c n m) (hb0 : -1099511627776 ≤ o) (hb1 : o ≤ 1099511627776) (ho : o < 0 ∨ n * m ≤ o) :
    Calls Tryd.prog 4 #[.int .i64 c, .int .i64 o] w fun e w' => e = .returned (.bool true) ∧ Kp [] w w' := by
  have hp : Calls Tryd.prog 16 #[.int .i64 c, .int .i64 o] w fun e w' => e = .returned (.tuple #[.int .i64 0, .bool false]) ∧ w = w' := by
    rcases ho with ho | ho
    · exact place_lt w T c o ho
    · exact place_ge w T c n m h o ho
  have hs := starts_at w T c n m h
  have hn : 2 ≤ n ∧ n ≤ 9 := by rcases h with ⟨rfl, rfl, rfl⟩ | ⟨rfl, rfl, rfl⟩ | ⟨rfl, rfl, rfl⟩ | ⟨rfl, rfl, rfl⟩ <;> omega
  have hm : m ≤ 16 := by rcases h with ⟨rfl, rfl, rfl⟩ | ⟨rfl, rfl, rfl⟩ | ⟨rfl, rfl, rfl⟩ | ⟨rfl, rfl, rfl⟩ <;> omega
  have hc : c ≤ 3 := by rcases h with ⟨rfl, rfl, rfl⟩ | ⟨rfl, rfl, rfl⟩ | ⟨rfl, rfl, rfl⟩ | ⟨rfl, rfl, rfl⟩ <;> omega
  have hwd : wdC c = n := by rcases h with ⟨rfl, rfl, rfl⟩ | ⟨rfl, rfl, rfl⟩ | ⟨rfl, rfl, rfl⟩ | ⟨rfl, rfl, rfl⟩ <;> rfl
  have hW : ∀ w, Calls Tryd.prog 11 #[.int .i64 c] w fun e w' => e = .returned (.int .i64 n) ∧ w' = w := fun w => (rwords_is w c n hwd).mono (fun e w' ⟨h1, h2⟩ => ⟨h1, h2.symm⟩)
  have key : ∀ k : Nat, k < m → 0 ≤ n * k ∧ n * k ≤ 32 ∧ (o < n * k ∨ (n * k ≤ o ∧ n ≤ o - n * k)) := by
    intro k hk
    rcases h with ⟨rfl, rfl, rfl⟩ | ⟨rfl, rfl, rfl⟩ | ⟨rfl, rfl, rfl⟩ | ⟨rfl, rfl, rfl⟩
    all_goals exact ⟨by omega, by omega, by omega⟩
  have KY := Lib.hid key
  obtain ⟨hn1, hn2⟩ := hn
  clear key hwd ho h
  go_enter Tryd.func4, Tryd.ntmps4
  go_wp2_with (first
    | ((with_reducible refine hp.mono ?_); rintro e w' ⟨rfl, rfl⟩)
    | ((with_reducible refine hs.mono ?_); rintro e w1 ⟨g, cap, rfl, R⟩))
  go_loopw [8] (fun i wr => ∃ k : Nat, k ≤ m ∧ i = .int .i64 k ∧ PlRel w n m g wr) (fun i _ => 64 - (intOf i).toNat)
  case atStart => exact ⟨0, by omega, rfl, R⟩
  case round =>
    obtain ⟨k, hk, rfl, R1⟩ := hrel
    by_cases hkm : k < m
    · obtain ⟨hk0, hk32, hno⟩ := KY.out k hkm
      have hcell : ∀ j, (wr.drewN j).cell? ⟨g, k, none⟩ = some (.int .i64 (n * k)) := fun j => (R1.on (kp_drewN _ _)).own k hkm
      have hc0 := R1.own k hkm
      obtain ⟨a, ha⟩ : ∃ a, a = n * (k : Int) := ⟨_, rfl⟩
      have HA := Lib.hid ha
      rw [← ha] at hk0 hk32 hno hc0
      simp only [← ha] at hcell
      clear ha R
      rcases hno with hlt | ⟨hle, hlt⟩
      · have e1 : decide (a ≤ o) = false := by simpa using hlt
        go_wp2
        go_quiet ((go_at_call 11; exact Calls.quiet_of_same (hW _)))
        have R2 := R1.on (kp_drewN wr nq)
        go_wp2
        go_roundw
        case rel => exact ⟨k + 1, by omega, by go_num, R2⟩
        case measure => simp [intOf]; omega
      · have e1 : decide (a ≤ o) = true := by simpa using hle
        have e2 : decide (o - a < n) = false := by simpa using hlt
        go_wp2
        go_quiet ((go_at_call 11; exact Calls.quiet_of_same (hW _)))
        have R2 := R1.on (kp_drewN wr nq)
        go_wp2
        go_roundw
        case rel => exact ⟨k + 1, by omega, by go_num, R2⟩
        case measure => simp [intOf]; omega
    · have hT := R1.tab
      have hK := R1.keep
      go_wp2_with ((refine (wakes_is _ hT).mono ?_); rintro e w' ⟨rfl, rfl⟩)
      go_ret
      exact ⟨rfl, hK⟩

set_option maxHeartbeats 2000000 in
theorem places_none (w : World) (T : Tab w) (c o : Int) (h : c < 0 ∨ 3 < c) (hc : c ≤ 1099511627776) (hb0 : -1099511627776 ≤ o) (hb1 : o ≤ 1099511627776) :
    Calls Tryd.prog 4 #[.int .i64 c, .int .i64 o] w fun e w' => e = .returned (.bool true) ∧ Kp [] w w' := by
  have hp : Calls Tryd.prog 16 #[.int .i64 c, .int .i64 o] w fun e w' => e = .returned (.tuple #[.int .i64 0, .bool false]) ∧ w = w' := by
    by_cases ho : o < 0
    · exact place_lt w T c o ho
    · exact place_none w T c h o (by omega)
  have hs := starts_out w c h
  clear h
  go_enter Tryd.func4, Tryd.ntmps4
  go_wp2_with (first
    | ((with_reducible refine hp.mono ?_); rintro e w' ⟨rfl, rfl⟩)
    | ((with_reducible refine hs.mono ?_); rintro e w' ⟨rfl, rfl⟩))
  go_loop [8] (fun i => i = .int .i64 0) (fun i => 0)
  case atStart => exact rfl
  case round =>
    obtain rfl := hrel
    go_wp2_with ((refine (wakes_is _ T).mono ?_); rintro e w' ⟨rfl, rfl⟩)
    go_ret
    exact ⟨rfl, Kp.refl _ _⟩

theorem places_wide (w : World) (T : Tab w) (c o : Int) (h : 1099511627776 < c ∨ (c ≤ 1099511627776 ∧ 1099511627776 < o) ∨ (c ≤ 1099511627776 ∧ o ≤ 1099511627776 ∧ o < -1099511627776)) :
    Calls Tryd.prog 4 #[.int .i64 c, .int .i64 o] w fun e w' => e = .returned (.bool true) ∧ Kp [] w w' := by
  rcases h with h | ⟨h, h'⟩ | ⟨h, h', h''⟩
  all_goals
    go_enter Tryd.func4, Tryd.ntmps4
    go_wp2_with ((refine (wakes_is w T).mono ?_); rintro e w' ⟨rfl, rfl⟩)
    go_ret
    exact ⟨rfl, Kp.refl _ _⟩

theorem cls_of (c : Int) (h : ¬ (c < 0 ∨ 3 < c)) : ∃ n m, Cls c n m := by
  rcases class_cases c with rfl | rfl | rfl | rfl | h'
  · exact ⟨2, 16, .inl ⟨rfl, rfl, rfl⟩⟩
  · exact ⟨3, 10, .inr (.inl ⟨rfl, rfl, rfl⟩)⟩
  · exact ⟨5, 6, .inr (.inr (.inl ⟨rfl, rfl, rfl⟩))⟩
  · exact ⟨9, 3, .inr (.inr (.inr ⟨rfl, rfl, rfl⟩))⟩
  · exact absurd h' h

theorem places_any (w : World) (T : Tab w) (c o : Int) :
    Calls Tryd.prog 4 #[.int .i64 c, .int .i64 o] w fun e w' => e = .returned (.bool true) ∧ Kp [] w w' := by
  by_cases h1 : 1099511627776 < c
  · exact places_wide w T c o (.inl h1)
  by_cases h2 : 1099511627776 < o
  · exact places_wide w T c o (.inr (.inl ⟨by omega, h2⟩))
  by_cases h3 : o < -1099511627776
  · exact places_wide w T c o (.inr (.inr ⟨by omega, by omega, h3⟩))
  by_cases h4 : c < 0 ∨ 3 < c
  · exact places_none w T c o h4 (by omega) (by omega) (by omega)
  obtain ⟨n, m, hc⟩ := cls_of c h4
  by_cases h5 : 0 ≤ o ∧ o < n * m
  · exact places_in w T c n o m hc h5.1 h5.2
  · exact places_off w T c n o m hc (by omega) (by omega) (by omega)

end Go.Proofs.YtaeobmlmoidgcaaDoor
