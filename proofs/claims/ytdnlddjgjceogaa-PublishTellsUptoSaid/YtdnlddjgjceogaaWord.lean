/- The walks of package word: each contract says what a call answers, and that below the heap's old size nothing has turned. Conditions: as each theorem states them (the numbers are those of a uint8, of a uint64). -/
import Derived.Test.YtdnlddjgjceogaaRows
import Derived.Test.YtdnlddjgjceogaaLaw
import Derived.Test.YtdnlddjgjceogaaWordPlain
import Derived.WalkKit
import Derived.WalkSpells
import Derived.WalkLawsBesides
import Derived.BigQuiet
import Derived.RegionTactic
import Derived.ChangeAlike
import Derived.Handy
import Derived.Deep.RegionHeld3
namespace Go.Proofs.Ytdnlddjgjceogaa
set_option linter.unusedVariables false
set_option linter.unusedSimpArgs false
open Go.RowKit

theorem eq28 (k c o r s k' c' o' r' s' : Int) (g m g' m' : Bool) (w : World) :
    (binOp .eql 46 (.agg #[.int .u8 k, .int .u8 c, .bool g, .bool m, .int .u8 o, .int .u8 r, .int .u8 s]) (.agg #[.int .u8 k', .int .u8 c', .bool g', .bool m', .int .u8 o', .int .u8 r', .int .u8 s'])).run Try.prog w = .ok (.bool (heqB k c o r s k' c' o' r' s' g m g' m')) w := by
  by_cases h1 : k = k'
  case neg => simp [go_sem, heqB, *]
  by_cases h2 : c = c'
  case neg => simp [go_sem, heqB, *]
  by_cases h3 : g = g'
  case neg => simp [go_sem, heqB, *]
  by_cases h4 : m = m'
  case neg => simp [go_sem, heqB, *]
  by_cases h5 : o = o'
  case neg => simp [go_sem, heqB, *]
  by_cases h6 : r = r'
  case neg => simp [go_sem, heqB, *]
  by_cases h7 : s = s'
  case neg => simp [go_sem, heqB, *]
  simp [go_sem, heqB, *]

theorem ne28 (k c o r s k' c' o' r' s' : Int) (g m g' m' : Bool) (w : World) :
    (binOp .neq 46 (.agg #[.int .u8 k, .int .u8 c, .bool g, .bool m, .int .u8 o, .int .u8 r, .int .u8 s]) (.agg #[.int .u8 k', .int .u8 c', .bool g', .bool m', .int .u8 o', .int .u8 r', .int .u8 s'])).run Try.prog w = .ok (.bool (!heqB k c o r s k' c' o' r' s' g m g' m')) w := by
  by_cases h1 : k = k'
  case neg => simp [go_sem, heqB, *]
  by_cases h2 : c = c'
  case neg => simp [go_sem, heqB, *]
  by_cases h3 : g = g'
  case neg => simp [go_sem, heqB, *]
  by_cases h4 : m = m'
  case neg => simp [go_sem, heqB, *]
  by_cases h5 : o = o'
  case neg => simp [go_sem, heqB, *]
  by_cases h6 : r = r'
  case neg => simp [go_sem, heqB, *]
  by_cases h7 : s = s'
  case neg => simp [go_sem, heqB, *]
  simp [go_sem, heqB, *]

theorem put_any (p t x q y : Int) (b : Nat) (w : World) (hp : 0 ≤ p) (hp2 : p ≤ 255) (ht : 0 ≤ t) (ht2 : t ≤ 18) (hq : q = 2 ^ t.toNat) (hx : 0 ≤ x) (hxq : x < q) (hy : x + p * q = y) (hc : w.cell? ⟨b, 0, none⟩ = some (.int .u64 x)) (hf : w.frozen? ⟨b, 0, none⟩ = false) :
    Calls Try.prog 38 #[.int .u8 p, .int .i64 t, .pointer (some ⟨b, 0, none⟩)] w fun e w' => e = .returned (.tuple #[]) ∧ (w.setCell ⟨b, 0, none⟩ (.int .u64 y)).drew = w' := by
  have hh := or_put x p q t.toNat (by omega) hq hx hxq hp hp2
  rw [hy] at hh
  clear hq hy
  go_enter Try.func38, Try.ntmps38
  go_wp2
  go_region
  go_end0
  exact ⟨rfl, rfl⟩

theorem part_any (f t x q d : Int) (b : Nat) (w : World) (h0 : 0 ≤ f) (h1 : f < t) (h2 : t - f ≤ 8) (ht2 : t ≤ 25) (hq : q = 2 ^ (t - f).toNat) (hd : d = 2 ^ f.toNat) (hx : 0 ≤ x) (hx2 : x < 18446744073709551616) (hc : w.cell? ⟨b, 0, none⟩ = some (.int .u64 x)) :
    Calls Try.prog 33 #[.int .i64 f, .int .i64 t, .pointer (some ⟨b, 0, none⟩)] w fun e w' => e = .returned (.int .u8 (x / d % q)) ∧ w.drew = w' := by
  have hh := and_part x q d f.toNat (t - f).toNat (by omega) hq hd hx hx2
  have hm := part_u8 (x / d) q (t - f).toNat (by omega) hq
  clear hq hd hx2
  go_enter Try.func33, Try.ntmps33
  go_wp2
  go_region
  go_wp2
  go_ret
  exact ⟨rfl, rfl⟩

theorem bit_any (b : Bool) (w : World) :
    Calls Try.prog 39 #[.bool b] w fun e w' => e = .returned (.int .u8 (bitI b)) ∧ w = w' := by
  cases b <;> (go_enter Try.func39, Try.ntmps39; go_wp2; go_ret; exact ⟨rfl, rfl⟩)

theorem proper_local (c o r s : Int) (g m : Bool) (w : World) :
    Calls Try.prog 34 #[.agg #[.int .u8 2, .int .u8 c, .bool g, .bool m, .int .u8 o, .int .u8 r, .int .u8 s]] w fun e w' => e = .returned (.agg #[.int .u8 2, .int .u8 0, .bool false, .bool m, .int .u8 o, .int .u8 r, .int .u8 s]) ∧ Below w.heap.size w w' := by
  go_enter Try.func34, Try.ntmps34
  go_wp2
  go_returns
  exact ⟨rfl, by go_grown⟩

theorem proper_global (c o r s : Int) (g m : Bool) (w : World) :
    Calls Try.prog 34 #[.agg #[.int .u8 3, .int .u8 c, .bool g, .bool m, .int .u8 o, .int .u8 r, .int .u8 s]] w fun e w' => e = .returned (.agg #[.int .u8 3, .int .u8 c, .bool g, .bool false, .int .u8 o, .int .u8 r, .int .u8 s]) ∧ Below w.heap.size w w' := by
  go_enter Try.func34, Try.ntmps34
  go_wp2
  go_returns
  exact ⟨rfl, by go_grown⟩

theorem proper_listed (c o r s : Int) (g m : Bool) (w : World) :
    Calls Try.prog 34 #[.agg #[.int .u8 1, .int .u8 c, .bool g, .bool m, .int .u8 o, .int .u8 r, .int .u8 s]] w fun e w' => e = .returned (.agg #[.int .u8 1, .int .u8 0, .bool false, .bool false, .int .u8 o, .int .u8 0, .int .u8 0]) ∧ Below w.heap.size w w' := by
  go_enter Try.func34, Try.ntmps34
  go_wp2
  go_returns
  exact ⟨rfl, by go_grown⟩

theorem proper_none (k c o r s : Int) (g m : Bool) (w : World) (h1 : (k == 1) = false) (h2 : (k == 2) = false) (h3 : (k == 3) = false) :
    Calls Try.prog 34 #[.agg #[.int .u8 k, .int .u8 c, .bool g, .bool m, .int .u8 o, .int .u8 r, .int .u8 s]] w fun e w' => e = .returned (.agg #[.int .u8 0, .int .u8 0, .bool false, .bool false, .int .u8 o, .int .u8 0, .int .u8 0]) ∧ Below w.heap.size w w' := by
  go_enter Try.func34, Try.ntmps34
  go_wp2
  go_returns
  exact ⟨rfl, by go_grown⟩

set_option maxHeartbeats 1000000 in
theorem may_core (k c o r s k' c' o' r' s' : Int) (g m g' m' : Bool) (w : World) (h1 : c ≤ 1) (h2 : o < 64) (h3 : s ≤ 95) (h4 : r ≤ s)
    (hprop : Hid (∀ w, Calls Try.prog 34 #[.agg #[.int .u8 k, .int .u8 c, .bool g, .bool m, .int .u8 o, .int .u8 r, .int .u8 s]] w fun e w' => e = .returned (.agg #[.int .u8 k', .int .u8 c', .bool g', .bool m', .int .u8 o', .int .u8 r', .int .u8 s']) ∧ Below w.heap.size w w')) :
    Calls Try.prog 25 #[.agg #[.int .u8 k, .int .u8 c, .bool g, .bool m, .int .u8 o, .int .u8 r, .int .u8 s]] w fun e w' => e = .returned (.bool (heqB k c o r s k' c' o' r' s' g m g' m')) ∧ Below w.heap.size w w' := by
  have heq := eq28 k c o r s k' c' o' r' s' g m g' m'
  go_enter Try.func25, Try.ntmps25
  go_wp2
  go_region_held3 (fun w' => w'.cell? ⟨w.heap.size, 0, none⟩ = some (.int .u8 k) ∧ w'.cell? ⟨w.heap.size, 1, none⟩ = some (.int .u8 c) ∧ w'.cell? ⟨w.heap.size, 2, none⟩ = some (.bool g) ∧ w'.cell? ⟨w.heap.size, 3, none⟩ = some (.bool m) ∧
      w'.cell? ⟨w.heap.size, 4, none⟩ = some (.int .u8 o) ∧ w'.cell? ⟨w.heap.size, 5, none⟩ = some (.int .u8 r) ∧ w'.cell? ⟨w.heap.size, 6, none⟩ = some (.int .u8 s) ∧ Below w.heap.size w w' ∧ w.heap.size < w'.heap.size)
    (first
      | exact ⟨by simp, by simp, by simp, by simp, by simp, by simp, by simp, by go_grown, by simp⟩
      | (obtain ⟨s0, s1, s2, s3, s4, s5, s6, s7, s8⟩ := ‹_ ∧ _›
         exact ⟨(hc _ _ s8).trans s0, (hc _ _ s8).trans s1, (hc _ _ s8).trans s2, (hc _ _ s8).trans s3, (hc _ _ s8).trans s4, (hc _ _ s8).trans s5, (hc _ _ s8).trans s6, s7.trans (hb.mono (Nat.le_of_lt s8)), Nat.lt_of_lt_of_le s8 hb.size⟩))
    (first | (go_at_call 34; refine (hprop.out _).mono ?_; rintro e w' ⟨rfl, hb⟩; obtain ⟨hc, hf⟩ := bcell hb))
  obtain ⟨_, _, _, _, _, _, _, bel, _⟩ := ‹_ ∧ _›
  clear hb hc hf
  go_wp2
  go_ret
  exact ⟨rfl, bel⟩

theorem may_short (k c o r s : Int) (g m : Bool) (w : World) (h : ¬ (c ≤ 1 ∧ o < 64 ∧ s ≤ 95 ∧ r ≤ s)) :
    Calls Try.prog 25 #[.agg #[.int .u8 k, .int .u8 c, .bool g, .bool m, .int .u8 o, .int .u8 r, .int .u8 s]] w fun e w' => e = .returned (.bool false) ∧ Below w.heap.size w w' := by
  by_cases h1 : c ≤ 1
  · by_cases h2 : o < 64
    · by_cases h3 : s ≤ 95
      · have h4 : ¬ r ≤ s := fun h4 => h ⟨h1, h2, h3, h4⟩
        have hd : decide (r ≤ s) = false := by simpa using h4
        clear h
        go_enter Try.func25, Try.ntmps25
        go_wp2
        go_quiet (fail)
        go_wp2
        go_ret
        exact ⟨rfl, below_draws (by go_grown) _⟩
      · have hd : decide (s ≤ 95) = false := by simpa using h3
        clear h
        go_enter Try.func25, Try.ntmps25
        go_wp2
        go_quiet (fail)
        go_wp2
        go_ret
        exact ⟨rfl, below_draws (by go_grown) _⟩
    · have hd : decide (o < 64) = false := by simpa using h2
      clear h
      go_enter Try.func25, Try.ntmps25
      go_wp2
      go_quiet (fail)
      go_wp2
      go_ret
      exact ⟨rfl, below_draws (by go_grown) _⟩
  · have hd : decide (c ≤ 1) = false := by simpa using h1
    clear h
    go_enter Try.func25, Try.ntmps25
    go_wp2
    go_quiet (fail)
    go_wp2
    go_ret
    exact ⟨rfl, below_draws (by go_grown) _⟩

theorem may_any (k c o r s : Int) (g m : Bool) (w : World) (hk : 0 ≤ k) (hr : 0 ≤ r) :
    Calls Try.prog 25 #[.agg #[.int .u8 k, .int .u8 c, .bool g, .bool m, .int .u8 o, .int .u8 r, .int .u8 s]] w fun e w' => e = .returned (.bool (mayB k c o r s g m)) ∧ Below w.heap.size w w' := by
  by_cases h : c ≤ 1 ∧ o < 64 ∧ s ≤ 95 ∧ r ≤ s
  · obtain ⟨h1, h2, h3, h4⟩ := h
    by_cases k1 : k = 1
    · subst k1
      refine (may_core 1 c o r s 1 0 o 0 0 g m false false w h1 h2 h3 h4 (fun w => proper_listed c o r s g m w)).mono fun e w' ⟨he, hb⟩ => ⟨?_, hb⟩
      rw [he, heq_listed c o r s g m h1 h2 h3 h4]
    by_cases k2 : k = 2
    · subst k2
      refine (may_core 2 c o r s 2 0 o r s g m false m w h1 h2 h3 h4 (fun w => proper_local c o r s g m w)).mono fun e w' ⟨he, hb⟩ => ⟨?_, hb⟩
      rw [he, heq_local c o r s g m h1 h2 h3 h4]
    by_cases k3 : k = 3
    · subst k3
      refine (may_core 3 c o r s 3 c o r s g m g false w h1 h2 h3 h4 (fun w => proper_global c o r s g m w)).mono fun e w' ⟨he, hb⟩ => ⟨?_, hb⟩
      rw [he, heq_global c o r s g m h1 h2 h3 h4]
    refine (may_core k c o r s 0 0 o 0 0 g m false false w h1 h2 h3 h4 (fun w => proper_none k c o r s g m w (by simpa using k1) (by simpa using k2) (by simpa using k3))).mono fun e w' ⟨he, hb⟩ => ⟨?_, hb⟩
    rw [he, heq_none k c o r s g m hk h1 h2 h3 h4 k1 k2 k3]
  · refine (may_short k c o r s g m w h).mono fun e w' ⟨he, hb⟩ => ⟨?_, hb⟩
    rw [he, mayB_false (by omega)]

end Go.Proofs.Ytdnlddjgjceogaa
