/- The walks of the list's other calls: row, New, Len, All, Pop, Push. Conditions: as each theorem states them. -/
import Derived.Test.YtinkpbenmfnnhaaDoorLsD
import Derived.Deep.AppendLies
import Derived.OwnWalk
namespace Go.Proofs.YtinkpbenmfnnhaaDoor.Li
set_option linter.unusedVariables false
set_option linter.unusedSimpArgs false
open Go.RowKit

theorem row_nil (w : World) (c : Int) : Calls Tryd.prog 58 #[.pointer none, .int .i64 c] w fun e w' => e = .returned (.tuple #[.pointer none, .int .i64 1]) ∧ w' = w := by
  go_enter Tryd.func58, Tryd.ntmps58
  go_wp2
  go_ret2
  exact ⟨rfl, rfl⟩

theorem row_bad (w : World) (p : Nat) (c : Int) (h : c < 0 ∨ 4 ≤ c) : Calls Tryd.prog 58 #[.pointer (some ⟨p, 0, none⟩), .int .i64 c] w fun e w' => e = .returned (.tuple #[.pointer none, .int .i64 2]) ∧ w' = w := by
  rcases h with h | h
  · go_enter Tryd.func58, Tryd.ntmps58
    go_wp2
    go_ret2
    exact ⟨rfl, rfl⟩
  · have h1 : ¬ c < 0 := by omega
    go_enter Tryd.func58, Tryd.ntmps58
    go_wp2
    go_ret2
    exact ⟨rfl, rfl⟩

theorem row_good (w : World) (p c : Nat) (h : c < 4) : Calls Tryd.prog 58 #[.pointer (some ⟨p, 0, none⟩), .int .i64 c] w fun e w' => e = .returned (.tuple #[.pointer (some ⟨p, c, none⟩), .int .i64 0]) ∧ w' = w := by
  go_enter Tryd.func58, Tryd.ntmps58
  go_wp2
  go_ret2
  exact ⟨rfl, rfl⟩

theorem new_any (w : World) : Calls Tryd.prog 14 #[] w fun e w' => e = .returned (.pointer (some ⟨w.heap.size, 0, none⟩)) ∧ Ls w' w.heap.size (fun _ => .slice none 0 0) (fun _ => []) ∧ Kp [] w w' := by
  go_enter Tryd.func14, Tryd.ntmps14
  go_wp2
  go_ret
  refine ⟨rfl, ⟨heap_alloc_new w _, fun _ _ => Rw.nil _, fun c d hc hd hcd g hg => by simp [blk_nil] at hg⟩, (Kp.refl _ _).alloc _⟩

theorem pop_nil (w : World) (c : Int) : Calls Tryd.prog 43 #[.pointer none, .int .i64 c] w fun e w' => e = .returned (.tuple #[.int .i64 0, .int .i64 1]) ∧ w' = w := by
  have hr := row_nil w c
  go_enter Tryd.func43, Tryd.ntmps43
  go_wp2_with ((with_reducible refine hr.mono ?_); rintro e w1 ⟨rfl, rfl⟩)
  go_ret2
  exact ⟨rfl, rfl⟩
theorem pop_bad (w : World) (p : Nat) (c : Int) (h : c < 0 ∨ 4 ≤ c) : Calls Tryd.prog 43 #[.pointer (some ⟨p, 0, none⟩), .int .i64 c] w fun e w' => e = .returned (.tuple #[.int .i64 0, .int .i64 2]) ∧ w' = w := by
  have hr := row_bad w p c h
  clear h
  go_enter Tryd.func43, Tryd.ntmps43
  go_wp2_with ((with_reducible refine hr.mono ?_); rintro e w1 ⟨rfl, rfl⟩)
  go_ret2
  exact ⟨rfl, rfl⟩
theorem pop_empty (w : World) (p c : Nat) (vs : Nat → Value) (R : Nat → List Int) (L : Ls w p vs R) (h : c < 4) (hn : R c = []) : Calls Tryd.prog 43 #[.pointer (some ⟨p, 0, none⟩), .int .i64 c] w fun e w' => e = .returned (.tuple #[.int .i64 0, .int .i64 5]) ∧ w' = w := by
  have hr := row_good w p c h
  have hc := L.cell h
  obtain ⟨ao, cap, hv⟩ := (L.rw c h).form
  rw [hv, hn] at hc
  change w.cell? _ = some (.slice ao 0 cap) at hc
  clear L hv hn
  go_enter Tryd.func43, Tryd.ntmps43
  go_wp2_with ((with_reducible refine hr.mono ?_); rintro e w1 ⟨rfl, rfl⟩)
  go_ret2
  exact ⟨rfl, rfl⟩

/-- Pop of a row that has something: the last one, which is there no more. -/
theorem pop_good (w : World) (p c : Nat) (vs : Nat → Value) (R : Nat → List Int) (L : Ls w p vs R) (h : c < 4) (xs : List Int) (x : Int) (hx : R c = xs ++ [x]) (hn : (R c).length ≤ 1000) :
    Calls Tryd.prog 43 #[.pointer (some ⟨p, 0, none⟩), .int .i64 c] w fun e w' => e = .returned (.tuple #[.int .i64 x, .int .i64 0]) ∧ ∃ vs', Ls w' p vs' (upd R c xs) ∧ Lk p vs vs' w w' := by
  have hr := row_good w p c h
  have hc := L.cell h
  have hf := L.free c
  have hR := L.rw c h
  rw [hx] at hR hn
  have hl : (xs ++ [x]).length = xs.length + 1 := by simp
  rcases hR with ⟨_, h0⟩ | ⟨g, cap, cur, hv, hg, h1, h2, h3, h4⟩
  · simp at h0
  · have hcx := row_cell hg h4 (i := xs.length) (by simp)
    have ex : (xs ++ [x]).getD xs.length 0 = x := by simp [List.getD]
    rw [ex] at hcx
    have hcut : Rw w (.slice (some ⟨g, 0, none⟩) xs.length cap) xs := by
      refine .inr ⟨g, cap, cur, rfl, hg, by omega, h2, h3, ?_⟩
      have := row_cut h4 (i := xs.length) (by simp)
      simpa using this
    have hb : ∀ y ∈ blk (.slice (some ⟨g, 0, none⟩) xs.length cap), y ∈ blk (vs c) ∨ w.heap.size ≤ y := by
      intro y hy
      rw [hv]
      exact .inl hy
    have fin := Lib.hid (And.intro (L.store h hcut (Kp.refl _ _) hb) (Lk.store (vs := vs) (p := p) h (Kp.refl _ w) hb))
    rw [hl] at h1 hv hn
    rw [hv] at hc
    clear L hv hg h4 ex hcut hb hx h3 hl
    generalize xs.length = n at hc hn hcx h1 fin
    go_enter Tryd.func43, Tryd.ntmps43
    go_wp2_with ((with_reducible refine hr.mono ?_); rintro e w1 ⟨rfl, rfl⟩)
    go_ret2
    exact ⟨rfl, _, fin.out.1, fin.out.2⟩

end Go.Proofs.YtinkpbenmfnnhaaDoor.Li
