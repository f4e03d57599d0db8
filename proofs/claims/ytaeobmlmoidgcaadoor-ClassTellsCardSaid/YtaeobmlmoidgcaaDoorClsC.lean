/- The walks of Place, of the document's own Starts, and of 'wakes'. Conditions: the package's table holds its four numbers. -/
import Derived.Test.YtaeobmlmoidgcaaDoorClsB
import Derived.Test.YtaeobmlmoidgcaaDoorKeep
import Derived.OwnWalk
namespace Go.Proofs.YtaeobmlmoidgcaaDoor
set_option linter.unusedVariables false
set_option linter.unusedSimpArgs false
open Go.RowKit

/-- A class, its words, its cells. -/
def Cls (c n : Int) (m : Nat) : Prop := (c = 0 ∧ n = 2 ∧ m = 16) ∨ (c = 1 ∧ n = 3 ∧ m = 10) ∨ (c = 2 ∧ n = 5 ∧ m = 6) ∨ (c = 3 ∧ n = 9 ∧ m = 3)

theorem place_in (w : World) (T : Tab w) (c n : Int) (m : Nat) (h : Cls c n m) (o : Int) (h0 : 0 ≤ o) (h1 : o < n * m) :
    Calls Tryd.prog 16 #[.int .i64 c, .int .i64 o] w fun e w' => e = .returned (.tuple #[.int .i64 (o - o % n), .bool true]) ∧ w = w' := by
  rcases h with ⟨rfl, rfl, rfl⟩ | ⟨rfl, rfl, rfl⟩ | ⟨rfl, rfl, rfl⟩ | ⟨rfl, rfl, rfl⟩
  · have h2 : o < 32 := by omega
    clear h1
    go_enter Tryd.func16, Tryd.ntmps16
    go_wp2_with (first | ((refine (words_is w T 0 2 rfl).mono ?_); rintro e w' ⟨rfl, rfl⟩) | ((refine (cells_is w T 0 16 rfl).mono ?_); rintro e w' ⟨rfl, rfl⟩))
    go_ret2
    exact ⟨rfl, rfl⟩
  · have h2 : o < 30 := by omega
    clear h1
    go_enter Tryd.func16, Tryd.ntmps16
    go_wp2_with (first | ((refine (words_is w T 1 3 rfl).mono ?_); rintro e w' ⟨rfl, rfl⟩) | ((refine (cells_is w T 1 10 rfl).mono ?_); rintro e w' ⟨rfl, rfl⟩))
    go_ret2
    exact ⟨rfl, rfl⟩
  · have h2 : o < 30 := by omega
    clear h1
    go_enter Tryd.func16, Tryd.ntmps16
    go_wp2_with (first | ((refine (words_is w T 2 5 rfl).mono ?_); rintro e w' ⟨rfl, rfl⟩) | ((refine (cells_is w T 2 6 rfl).mono ?_); rintro e w' ⟨rfl, rfl⟩))
    go_ret2
    exact ⟨rfl, rfl⟩
  · have h2 : o < 27 := by omega
    clear h1
    go_enter Tryd.func16, Tryd.ntmps16
    go_wp2_with (first | ((refine (words_is w T 3 9 rfl).mono ?_); rintro e w' ⟨rfl, rfl⟩) | ((refine (cells_is w T 3 3 rfl).mono ?_); rintro e w' ⟨rfl, rfl⟩))
    go_ret2
    exact ⟨rfl, rfl⟩

theorem place_lt (w : World) (T : Tab w) (c : Int) (o : Int) (h0 : o < 0) :
    Calls Tryd.prog 16 #[.int .i64 c, .int .i64 o] w fun e w' => e = .returned (.tuple #[.int .i64 0, .bool false]) ∧ w = w' := by
  go_enter Tryd.func16, Tryd.ntmps16
  go_wp2_with ((refine (words_is w T c _ rfl).mono ?_); rintro e w' ⟨rfl, rfl⟩)
  go_ret2
  exact ⟨rfl, rfl⟩

theorem place_ge (w : World) (T : Tab w) (c n : Int) (m : Nat) (h : Cls c n m) (o : Int) (h0 : n * m ≤ o) :
    Calls Tryd.prog 16 #[.int .i64 c, .int .i64 o] w fun e w' => e = .returned (.tuple #[.int .i64 0, .bool false]) ∧ w = w' := by
  rcases h with ⟨rfl, rfl, rfl⟩ | ⟨rfl, rfl, rfl⟩ | ⟨rfl, rfl, rfl⟩ | ⟨rfl, rfl, rfl⟩
  · have h2 : 32 ≤ o := by omega
    clear h0
    go_enter Tryd.func16, Tryd.ntmps16
    go_wp2_with (first | ((refine (words_is w T 0 2 rfl).mono ?_); rintro e w' ⟨rfl, rfl⟩) | ((refine (cells_is w T 0 16 rfl).mono ?_); rintro e w' ⟨rfl, rfl⟩))
    go_ret2
    exact ⟨rfl, rfl⟩
  · have h2 : 30 ≤ o := by omega
    clear h0
    go_enter Tryd.func16, Tryd.ntmps16
    go_wp2_with (first | ((refine (words_is w T 1 3 rfl).mono ?_); rintro e w' ⟨rfl, rfl⟩) | ((refine (cells_is w T 1 10 rfl).mono ?_); rintro e w' ⟨rfl, rfl⟩))
    go_ret2
    exact ⟨rfl, rfl⟩
  · have h2 : 30 ≤ o := by omega
    clear h0
    go_enter Tryd.func16, Tryd.ntmps16
    go_wp2_with (first | ((refine (words_is w T 2 5 rfl).mono ?_); rintro e w' ⟨rfl, rfl⟩) | ((refine (cells_is w T 2 6 rfl).mono ?_); rintro e w' ⟨rfl, rfl⟩))
    go_ret2
    exact ⟨rfl, rfl⟩
  · have h2 : 27 ≤ o := by omega
    clear h0
    go_enter Tryd.func16, Tryd.ntmps16
    go_wp2_with (first | ((refine (words_is w T 3 9 rfl).mono ?_); rintro e w' ⟨rfl, rfl⟩) | ((refine (cells_is w T 3 3 rfl).mono ?_); rintro e w' ⟨rfl, rfl⟩))
    go_ret2
    exact ⟨rfl, rfl⟩

theorem place_none (w : World) (T : Tab w) (c : Int) (h : c < 0 ∨ 3 < c) (o : Int) (h0 : 0 ≤ o) :
    Calls Tryd.prog 16 #[.int .i64 c, .int .i64 o] w fun e w' => e = .returned (.tuple #[.int .i64 0, .bool false]) ∧ w = w' := by
  have H1 := Lib.hid (wd_out h)
  have H2 := Lib.hid (cl_out h)
  go_enter Tryd.func16, Tryd.ntmps16
  go_wp2_with (first | ((refine (words_is w T c 0 H1.out).mono ?_); rintro e w' ⟨rfl, rfl⟩) | ((refine (cells_is w T c 0 H2.out).mono ?_); rintro e w' ⟨rfl, rfl⟩))
  go_ret2
  exact ⟨rfl, rfl⟩

/-- The places n * 0, n * 1, .. -/
def lstC (n : Int) (k : Nat) : List Value := (List.range k).map fun j : Nat => .int .i64 (n * (j : Int))
theorem lst_len (n : Int) (k : Nat) : (lstC n k).length = k := by simp [lstC]
theorem lst_succ (n : Int) (k : Nat) : lstC n (k + 1) = lstC n k ++ [.int .i64 (n * k)] := by simp [lstC, List.range_succ]
theorem lst_get (n : Int) (m k : Nat) (h : k < m) : (lstC n m)[k]? = some (.int .i64 (n * k)) := by simp [lstC, h]

/-- Ahead of a round of Starts' loop. -/
structure StRel (w : World) (n : Int) (k : Nat) (v : Value) (a : Int) (wr : World) : Prop where
  own : wr.ownsRow w.heap.size 3 1 v k (lstC n k)
  keep : Kp [] w wr
  lo : n * k ≤ a
  hi : a ≤ n * k

theorem StRel.step {w wr w1 : World} {n a : Int} {k : Nat} {v v' : Value} {o : Obj} (h : StRel w n k v a wr) (hown' : w1.ownsRow w.heap.size 3 1 v' (k + 1) (lstC n k ++ [.int .i64 a])) (hg : (wr.alloc o).grownBy w1 v.ownBlock) : StRel w n (k + 1) v' (a + n) w1 := by
  have ha : a = n * k := Int.le_antisymm h.hi h.lo
  refine ⟨?_, (h.keep.alloc o).grown hg (fun j hj => .inr (h.own.lt j hj).1), ?_, ?_⟩
  · rw [lst_succ, ← ha]; exact hown'
  · rw [ha]; push_cast; rw [Int.mul_add, Int.mul_one]; exact Int.le_refl _
  · rw [ha]; push_cast; rw [Int.mul_add, Int.mul_one]; exact Int.le_refl _

theorem int_info : (Tryd.prog.info? 3).map (fun i => (i.zero, i.size, i.bytes)) = some (some (.int .i64 0), 1, 8) := by kernel_rfl

set_option maxHeartbeats 1600000 in
theorem starts_in (w : World) (c n : Int) (m : Nat) (h : Cls c n m) :
    Calls Tryd.prog 15 #[.int .i64 c] w fun e w' => ∃ v, e = .returned v ∧ w'.ownsRow w.heap.size 3 1 v m (lstC n m) ∧ Kp [] w w' := by
  obtain ⟨i0, hi, hz0, hz1, hz2⟩ := info_parts int_info
  have hn : 2 ≤ n ∧ n ≤ 9 := by rcases h with ⟨rfl, rfl, rfl⟩ | ⟨rfl, rfl, rfl⟩ | ⟨rfl, rfl, rfl⟩ | ⟨rfl, rfl, rfl⟩ <;> omega
  obtain ⟨hn1, hn2⟩ := hn
  have hwd : wdC c = n := by rcases h with ⟨rfl, rfl, rfl⟩ | ⟨rfl, rfl, rfl⟩ | ⟨rfl, rfl, rfl⟩ | ⟨rfl, rfl, rfl⟩ <;> rfl
  have W := rwords_is w c n hwd
  have hstep : ∀ (k : Nat) (a : Int), n * k ≤ a → a ≤ n * k → (a + n ≤ 32 ↔ k < m) := by
    rcases h with ⟨rfl, rfl, rfl⟩ | ⟨rfl, rfl, rfl⟩ | ⟨rfl, rfl, rfl⟩ | ⟨rfl, rfl, rfl⟩ <;> intro k a h1 h2 <;> omega
  have hle : ∀ (k : Nat) (a : Int), k ≤ m → n * k ≤ a → a ≤ n * k → 0 ≤ a ∧ a ≤ 32 := by
    rcases h with ⟨rfl, rfl, rfl⟩ | ⟨rfl, rfl, rfl⟩ | ⟨rfl, rfl, rfl⟩ | ⟨rfl, rfl, rfl⟩ <;> intro k a h0 h1 h2 <;> omega
  have hm : m ≤ 16 := by rcases h with ⟨rfl, rfl, rfl⟩ | ⟨rfl, rfl, rfl⟩ | ⟨rfl, rfl, rfl⟩ | ⟨rfl, rfl, rfl⟩ <;> omega
  have HS := Lib.hid hstep
  have HL := Lib.hid hle
  clear hstep hle hwd h
  go_enter Tryd.func15, Tryd.ntmps15
  go_wp2_with ((refine W.mono ?_); rintro e w' ⟨rfl, rfl⟩)
  go_loopw [3, 5] (fun v i wr => ∃ (k : Nat) (a : Int), k ≤ m ∧ i = .int .i64 a ∧ StRel w n k v a wr) (fun _ i _ => 64 - (intOf i).toNat)
  case atStart => exact ⟨0, 0, by omega, rfl, World.ownsRow_nil _ _ _ _, Kp.refl _ _, by simp, by simp⟩
  case round =>
    obtain ⟨k, a, hk, rfl, R⟩ := hrel
    obtain ⟨ha0, ha1⟩ := HL.out k a hk R.lo R.hi
    by_cases hlt : k < m
    · have hgo : a + n ≤ 32 := (HS.out k a R.lo R.hi).2 hlt
      go_wp2_with (at_builtin; refine wpList_append_own _ rfl _ _ 26 rfl w.heap.size 3 i0 (.int .i64 0) 1 8 Tryd.underlying26 hi hz0 hz1 hz2 rfl (by decide) _ _ _ rfl (R.own.alloc _) ⟨wr.heap.size, 0, none⟩ 1 1 [.int .i64 a] rfl rfl ?c1 ?c2 ?c3 ?c4 ?c5 ?_)
      case c1 =>
        intro j u hj
        match j, hj with
        | 0, hj => simp at hj; subst hj; simp [Addr.add]
      case c2 => intro u hu; simp at hu; subst hu; rfl
      case c3 => unfold maxLen; omega
      case c4 => omega
      case c5 => have := R.keep.size; simp; omega
      intro v' w1 hown' hgrow _
      have R2 := R.step hown' hgrow
      clear hown' hgrow R
      go_wp2
      go_roundw
      case rel => exact ⟨k + 1, a + n, by omega, rfl, R2⟩
      case measure => simp [intOf]; omega
    · have hkm : k = m := by omega
      have hgo : ¬ a + n ≤ 32 := fun h => hlt ((HS.out k a R.lo R.hi).1 h)
      subst hkm
      go_wp2
      go_ret
      exact ⟨_, rfl, R.own, R.keep⟩

theorem starts_out (w : World) (c : Int) (h : c < 0 ∨ 3 < c) : Calls Tryd.prog 15 #[.int .i64 c] w fun e w' => e = .returned (.slice none 0 0) ∧ w = w' := by
  have H1 := Lib.hid (wd_out h)
  clear h
  go_enter Tryd.func15, Tryd.ntmps15
  go_wp2_with ((refine (rwords_is w c 0 H1.out).mono ?_); rintro e w' ⟨rfl, rfl⟩)
  go_loop [3, 5] (fun v i => v = .slice none 0 0 ∧ i = .int .i64 0) (fun _ _ => 0)
  case atStart => exact ⟨rfl, rfl⟩
  case round =>
    obtain ⟨rfl, rfl⟩ := hrel
    go_wp2
    go_ret
    exact ⟨rfl, rfl⟩

theorem run_is2 (w : World) (f n : Int) (b : Bool) (h : runC f = n) (hb : decide (0 < n) = b) : Calls Tryd.prog 8 #[.int .i64 f] w fun e w' => e = .returned (.tuple #[.int .i64 n, .bool b]) ∧ w = w' := by
  subst hb; exact run_is w f n h

theorem wakes_is (w : World) (T : Tab w) : Calls Tryd.prog 6 #[] w fun e w' => e = .returned (.bool true) ∧ w = w' := by
  have k1 := of_yes w T 3 2 (by omega) rfl (by omega)
  have k2 := of_no w T 9 rfl
  have k3 := run_is2 w 32 2 true rfl rfl
  have k4 := words_is w T 3 9 rfl
  have k5 := cells_is w T 0 16 rfl
  go_enter Tryd.func6, Tryd.ntmps6
  go_wp2_with (first
    | ((with_reducible refine k1.mono ?_); rintro e w' ⟨rfl, rfl⟩)
    | ((with_reducible refine k2.mono ?_); rintro e w' ⟨rfl, rfl⟩)
    | ((with_reducible refine k3.mono ?_); rintro e w' ⟨rfl, rfl⟩)
    | ((with_reducible refine k4.mono ?_); rintro e w' ⟨rfl, rfl⟩)
    | ((with_reducible refine k5.mono ?_); rintro e w' ⟨rfl, rfl⟩))
  go_ret
  exact ⟨rfl, rfl⟩

end Go.Proofs.YtaeobmlmoidgcaaDoor
