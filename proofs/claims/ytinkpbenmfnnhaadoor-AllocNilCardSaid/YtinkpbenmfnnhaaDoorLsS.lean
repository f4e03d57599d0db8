/- The library's own functions over a row of numbers: Index, Contains, IndexFunc, DeleteFunc, Reverse. Conditions: as each theorem states them. -/
import Derived.Test.YtinkpbenmfnnhaaDoorLsB
import Derived.WalkKit
import Derived.WalkSpells
import Derived.WalkLawsBesides
import Derived.BigQuiet
import Derived.RegionTactic
import Derived.ChangeAlike
import Derived.Handy
import Derived.Lib.Hide
import Derived.Lib.SliceRun
import Derived.Deep.LoopGhost
import Derived.Deep.WholeRow
namespace Go.Proofs.YtinkpbenmfnnhaaDoor.Li
set_option linter.unusedVariables false
set_option linter.unusedSimpArgs false
open Go.RowKit

theorem index_any (w : World) (v : Value) (xs : List Int) (x : Int) (h : Rw w v xs) (hn : xs.length ≤ 1000) :
    Calls Tryd.prog 86 #[v, .int .i64 x] w fun e w' => e = .returned (.int .i64 (idxI (fun y => x == y) xs)) ∧ w' = w := by
  rcases h with ⟨rfl, rfl⟩ | ⟨g, cap, cur, rfl, hg, h1, h2, h3, h4⟩
  · go_enter Tryd.func86, Tryd.ntmps86
    go_wp2
    go_loopg [5, 8] 1 (fun g _ i wr => i = .int .i64 0 ∧ wr = w)
    case atStart => exact ⟨rfl, rfl⟩
    case round =>
      obtain ⟨rfl, rfl⟩ := hrel
      go_wp2
      go_ret
      exact ⟨rfl, rfl⟩
  · obtain ⟨n, hnn⟩ : ∃ n, n = xs.length := ⟨_, rfl⟩
    have HN := Lib.hid hnn
    have hr := fun i (hi : i < xs.length) => row_cell hg h4 hi
    rw [← hnn] at hn h1 ⊢
    clear hnn h4 hg
    obtain ⟨r, hrr⟩ : ∃ r, r = idxI (fun y => x == y) xs := ⟨_, rfl⟩
    have HR := Lib.hid hrr
    rw [← hrr]
    clear hrr
    go_enter Tryd.func86, Tryd.ntmps86
    go_wp2
    go_loopg [5, 8] n (fun g _ i wr => ∃ k : Nat, k + g = n ∧ i = .int .i64 (k : Int) ∧ Hid (∀ j, j < k → (x == xs.getD j 0) = false) ∧ wr = w)
    case atStart => exact ⟨0, by omega, rfl, Lib.hid (fun j hj => by omega), rfl⟩
    case round =>
      obtain ⟨k, hkg, rfl, hp, rfl⟩ := hrel
      by_cases hk : k < n
      · have hc := hr k (by have := HN.out; omega)
        have hkl : k < xs.length := by have := HN.out; omega
        obtain ⟨y, hy⟩ : ∃ y, y = xs.getD k 0 := ⟨_, rfl⟩
        have HY := Lib.hid hy
        rw [← hy] at hc
        clear hy hr
        go_wp2
        · have hxy : (x == y) = true := by assumption
          go_ret
          refine ⟨?_, rfl⟩
          rw [HR.out, idx_hit hkl (by rw [← HY.out]; exact hxy) hp.out]
          rfl
        · have hxy : (x == y) = false := by assumption
          go_roundg (n - (k + 1))
          case measure => omega
          case rel => exact ⟨k + 1, by omega, by go_num, Lib.hid (fun j hj => by
            by_cases e : j = k
            · subst e; rw [← HY.out]; exact hxy
            · exact hp.out j (by omega)), rfl⟩
      · clear hr
        go_wp2
        go_ret
        refine ⟨?_, rfl⟩
        rw [HR.out, idx_miss (fun j hj => hp.out j (by have := HN.out; omega))]
        rfl

theorem contains_any (w : World) (v : Value) (xs : List Int) (x : Int) (h : Rw w v xs) (hn : xs.length ≤ 1000) :
    Calls Tryd.prog 77 #[v, .int .i64 x] w fun e w' => e = .returned (.bool (xs.any fun y => x == y)) ∧ w' = w := by
  have hi := index_any w v xs x h hn
  rw [← idx_ge]
  generalize idxI (fun y => x == y) xs = r at hi
  go_enter Tryd.func77, Tryd.ntmps77
  go_wp2_with ((with_reducible refine hi.mono ?_); rintro e w1 ⟨rfl, rfl⟩)
  go_ret
  exact ⟨rfl, rfl⟩

/-- A row's slice and its numbers, in a world that may have turned in that row alone. -/
structure Dl (w0 wr : World) (g cap : Nat) (d : List Int) : Prop where
  row : ∃ cur, wr.heap[g]? = some (.cells cur 3 (0, 0)) ∧ cur.size = cap ∧ cur.toList.take d.length = ints d
  kp : Kp [g] w0 wr
theorem Dl.cell {w0 wr : World} {g cap : Nat} {d : List Int} (h : Dl w0 wr g cap d) {i : Nat} (hi : i < d.length) : wr.cell? ⟨g, i, none⟩ = some (.int .i64 (d.getD i 0)) := by
  obtain ⟨⟨cur, h1, h2, h3⟩, _⟩ := h
  exact row_cell h1 h3 hi
theorem Dl.free {w0 wr : World} {g cap : Nat} {d : List Int} (h : Dl w0 wr g cap d) (i : Nat) : wr.frozen? ⟨g, i, none⟩ = false := by
  obtain ⟨⟨cur, h1, h2, h3⟩, _⟩ := h
  exact free_of_row h1 i
theorem Dl.set {w0 wr : World} {g cap : Nat} {d : List Int} (h : Dl w0 wr g cap d) (i : Nat) (z : Int) : Dl w0 (wr.setCell ⟨g, i, none⟩ (.int .i64 z)) g cap (d.set i z) := by
  obtain ⟨⟨cur, h1, h2, h3⟩, k⟩ := h
  exact ⟨⟨_, heap_setCell_same _ _ _ _ _ _ h1, by simpa using h2, row_set h3 i z⟩, k.setCell (.inl (by simp)) _⟩
theorem Dl.rw {w0 wr : World} {g cap : Nat} {d : List Int} (h : Dl w0 wr g cap d) (h1 : d.length ≤ cap) (h2 : cap ≤ maxLen) : Rw wr (.slice (some ⟨g, 0, none⟩) d.length cap) d := by
  obtain ⟨⟨cur, r1, r2, r3⟩, _⟩ := h
  exact .inr ⟨g, cap, cur, rfl, r1, h1, h2, r2, r3⟩
/-- The rest of the row is cleared, and the row is cut. -/
theorem Dl.cleared {w0 wr : World} {g cap : Nat} {d : List Int} (h : Dl w0 wr g cap d) {i : Nat} (hi : i ≤ d.length) (zs : List Value) : Dl w0 (wr.setCells g i zs) g cap (d.take i) := by
  obtain ⟨⟨cur, h1, h2, h3⟩, k⟩ := h
  obtain ⟨cur', e1, e2, e3⟩ := setCells_block g zs i wr cur _ h1
  refine ⟨⟨cur', e1, by omega, ?_⟩, k.trans (setCells_kp g zs i wr)⟩
  rw [← row_cut h3 hi]
  exact take_same (by simp; omega) e3

theorem zero_int (w : World) : (zeroValue 3).run Tryd.prog w = .ok (.int .i64 0) w := (zero_of_info (show (Tryd.prog.info? 3).map (fun i => (i.zero, i.size)) = some (some (.int .i64 0), 1) from by kernel_rfl)).1 w

end Go.Proofs.YtinkpbenmfnnhaaDoor.Li
