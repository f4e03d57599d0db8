/- The walks of package shade: take, Tell; and of the document's own. Conditions: as each theorem states them (the numbers are those of a uint8, of a uint64). -/
import Derived.Test.YtjdihjndcpkndaaWordTake
import Derived.Test.YtjdihjndcpkndaaShP
import Derived.Test.YtjdihjndcpkndaaKeep
import Derived.Deep.Cut
namespace Go.Proofs.Ytjdihjndcpkndaa
set_option linter.unusedVariables false
set_option linter.unusedSimpArgs false
open Go.RowKit

/-- 'take', whatever word.Take says. -/
theorem stake_core (x k c o r s n : Int) (g m b : Bool) (w : World) (hb : (n == 0) = false ∧ b = false ∨ n = 0 ∧ (k == 3) = false ∧ b = false ∨ n = 0 ∧ k = 3 ∧ b = true)
    (hT : Hid (∀ w, Calls Try.prog 28 #[.int .u64 x] w fun e w' => e = .returned (.tuple #[.agg #[.int .u8 k, .int .u8 c, .bool g, .bool m, .int .u8 o, .int .u8 r, .int .u8 s], .int .i64 n]) ∧ Below w.heap.size w w')) :
    Calls Try.prog 16 #[.int .u64 x] w fun e w' => e = .returned (.tuple #[.agg #[.int .u8 k, .int .u8 c, .bool g, .bool m, .int .u8 o, .int .u8 r, .int .u8 s], .bool b]) ∧ Kp [] w w' := by
  rcases hb with ⟨hn, rfl⟩ | ⟨rfl, hk, rfl⟩ | ⟨rfl, rfl, rfl⟩
  · go_enter Try.func16, Try.ntmps16
    go_wp2_with fail
    refine (hT.out _).mono ?_; rintro e w1 ⟨rfl, hb⟩
    have blk := Lib.hid (below_row hb (by simp) (heap_alloc_new w _))
    have bel := Lib.hid (((Below.refl w.heap.size w).alloc (Nat.le_refl _) _).trans (hb.mono (by simp)))
    clear hb
    go_upto_region 2 with (refine wpList_store_row rfl 40 _ _ rfl w.heap.size _ rfl rfl 40 _ blk.out (by kernel_rfl) rfl (by simp [Value.oneCell']) ?_)
    have blk2 := setRow_heap w1 w.heap.size _ #[.int .u8 k, .int .u8 c, .bool g, .bool m, .int .u8 o, .int .u8 r, .int .u8 s] 40 (0, 0) blk.out
    have bel2 := Lib.hid (below_setRow bel.out (Nat.le_refl _) #[.int .u8 k, .int .u8 c, .bool g, .bool m, .int .u8 o, .int .u8 r, .int .u8 s])
    clear blk bel
    generalize w1.setRow w.heap.size #[.int .u8 k, .int .u8 c, .bool g, .bool m, .int .u8 o, .int .u8 r, .int .u8 s] = w2 at *
    have B2 := Lib.hid blk2
    have c0 := cell_of_row blk2 0
    have c1 := cell_of_row blk2 1
    have c2 := cell_of_row blk2 2
    have c3 := cell_of_row blk2 3
    have c4 := cell_of_row blk2 4
    have c5 := cell_of_row blk2 5
    have c6 := cell_of_row blk2 6
    clear blk2
    simp only [List.getElem?_toArray, List.getElem?_cons_zero, List.getElem?_cons_succ] at c0 c1 c2 c3 c4 c5 c6
    go_wp2_with (refine wpList_store_row rfl 40 _ _ rfl w.heap.size _ rfl rfl 40 _ B2.out (by kernel_rfl) rfl (by simp [Value.oneCell']) ?_)
    exact bodyPost_row_tmp rfl w.heap.size 40 _ (0, 0) _ _ rfl rfl rfl (setRow_heap _ _ _ _ _ _ B2.out) Try.underlying40 rfl (by kernel_rfl)
      ⟨rfl, kp_of_below (below_setRow bel2.out (Nat.le_refl _) _)⟩
  · go_enter Try.func16, Try.ntmps16
    go_wp2_with fail
    refine (hT.out _).mono ?_; rintro e w1 ⟨rfl, hb⟩
    have blk := Lib.hid (below_row hb (by simp) (heap_alloc_new w _))
    have bel := Lib.hid (((Below.refl w.heap.size w).alloc (Nat.le_refl _) _).trans (hb.mono (by simp)))
    clear hb
    go_upto_region 2 with (refine wpList_store_row rfl 40 _ _ rfl w.heap.size _ rfl rfl 40 _ blk.out (by kernel_rfl) rfl (by simp [Value.oneCell']) ?_)
    have blk2 := setRow_heap w1 w.heap.size _ #[.int .u8 k, .int .u8 c, .bool g, .bool m, .int .u8 o, .int .u8 r, .int .u8 s] 40 (0, 0) blk.out
    have bel2 := Lib.hid (below_setRow bel.out (Nat.le_refl _) #[.int .u8 k, .int .u8 c, .bool g, .bool m, .int .u8 o, .int .u8 r, .int .u8 s])
    clear blk bel
    generalize w1.setRow w.heap.size #[.int .u8 k, .int .u8 c, .bool g, .bool m, .int .u8 o, .int .u8 r, .int .u8 s] = w2 at *
    have B2 := Lib.hid blk2
    have c0 := cell_of_row blk2 0
    have c1 := cell_of_row blk2 1
    have c2 := cell_of_row blk2 2
    have c3 := cell_of_row blk2 3
    have c4 := cell_of_row blk2 4
    have c5 := cell_of_row blk2 5
    have c6 := cell_of_row blk2 6
    clear blk2
    simp only [List.getElem?_toArray, List.getElem?_cons_zero, List.getElem?_cons_succ] at c0 c1 c2 c3 c4 c5 c6
    go_wp2_with (refine wpList_store_row rfl 40 _ _ rfl w.heap.size _ rfl rfl 40 _ B2.out (by kernel_rfl) rfl (by simp [Value.oneCell']) ?_)
    exact bodyPost_row_tmp rfl w.heap.size 40 _ (0, 0) _ _ rfl rfl rfl (setRow_heap _ _ _ _ _ _ B2.out) Try.underlying40 rfl (by kernel_rfl)
      ⟨rfl, kp_of_below (below_setRow bel2.out (Nat.le_refl _) _)⟩
  · go_enter Try.func16, Try.ntmps16
    go_wp2_with fail
    refine (hT.out _).mono ?_; rintro e w1 ⟨rfl, hb⟩
    have blk := Lib.hid (below_row hb (by simp) (heap_alloc_new w _))
    have bel := Lib.hid (((Below.refl w.heap.size w).alloc (Nat.le_refl _) _).trans (hb.mono (by simp)))
    clear hb
    go_upto_region 2 with (refine wpList_store_row rfl 40 _ _ rfl w.heap.size _ rfl rfl 40 _ blk.out (by kernel_rfl) rfl (by simp [Value.oneCell']) ?_)
    have blk2 := setRow_heap w1 w.heap.size _ #[.int .u8 3, .int .u8 c, .bool g, .bool m, .int .u8 o, .int .u8 r, .int .u8 s] 40 (0, 0) blk.out
    have bel2 := Lib.hid (below_setRow bel.out (Nat.le_refl _) #[.int .u8 3, .int .u8 c, .bool g, .bool m, .int .u8 o, .int .u8 r, .int .u8 s])
    clear blk bel
    generalize w1.setRow w.heap.size #[.int .u8 3, .int .u8 c, .bool g, .bool m, .int .u8 o, .int .u8 r, .int .u8 s] = w2 at *
    have B2 := Lib.hid blk2
    have c0 := cell_of_row blk2 0
    have c1 := cell_of_row blk2 1
    have c2 := cell_of_row blk2 2
    have c3 := cell_of_row blk2 3
    have c4 := cell_of_row blk2 4
    have c5 := cell_of_row blk2 5
    have c6 := cell_of_row blk2 6
    clear blk2
    simp only [List.getElem?_toArray, List.getElem?_cons_zero, List.getElem?_cons_succ] at c0 c1 c2 c3 c4 c5 c6
    go_wp2_with (refine wpList_store_row rfl 40 _ _ rfl w.heap.size _ rfl rfl 40 _ B2.out (by kernel_rfl) rfl (by simp [Value.oneCell']) ?_)
    exact bodyPost_row_tmp rfl w.heap.size 40 _ (0, 0) _ _ rfl rfl rfl (setRow_heap _ _ _ _ _ _ B2.out) Try.underlying40 rfl (by kernel_rfl)
      ⟨rfl, kp_of_below (below_setRow bel2.out (Nat.le_refl _) _)⟩

theorem stake_glob (x : Int) (w : World) (h0 : 0 ≤ x) (h : glob x = true) :
    Calls Try.prog 16 #[.int .u64 x] w fun e w' => e = .returned (.tuple #[.agg #[.int .u8 (x % 4), .int .u8 (x / 4 % 2), .bool (x / 8 % 2 == 1), .bool (x / 16 % 2 == 1), .int .u8 (x / 32 % 64), .int .u8 (x / 2048 % 128), .int .u8 (x / 262144 % 128)], .bool true]) ∧ Kp [] w w' :=
  stake_core x _ _ _ _ _ 0 _ _ true w (.inr (.inr ⟨rfl, (glob_take h).2, rfl⟩)) (Lib.hid fun w => take_some x w h0 (glob_take h).1)

theorem stake_not (x : Int) (w : World) (h0 : 0 ≤ x) (h1 : x < 18446744073709551616) (h : glob x = false) :
    ∃ k c o r s g m, Hid (∀ w, Calls Try.prog 16 #[.int .u64 x] w fun e w' => e = .returned (.tuple #[.agg #[.int .u8 k, .int .u8 c, .bool g, .bool m, .int .u8 o, .int .u8 r, .int .u8 s], .bool false]) ∧ Kp [] w w') := by
  by_cases ht : takeB x = true
  · have hk : (x % 4 == 3) = false := by simp only [glob, ht, Bool.true_and, decide_eq_false_iff_not] at h; simpa using h
    exact ⟨_, _, _, _, _, _, _, Lib.hid fun w => stake_core x _ _ _ _ _ 0 _ _ false w (.inr (.inl ⟨rfl, hk, rfl⟩)) (Lib.hid fun w => take_some x w h0 ht)⟩
  · exact ⟨_, _, _, _, _, _, _, Lib.hid fun w => stake_core x 0 0 0 0 0 3 false false false w (.inl ⟨rfl, rfl⟩) (Lib.hid fun w => take_none x w h0 h1 (by simpa using ht))⟩

/-- Tell, whatever 'take' says. -/
theorem stell_core (x cc t k c o r s : Int) (g m b : Bool) (w : World)
    (hw : b = false ∧ t = 0 ∨ b = true ∧ 1 < cc ∧ t = 0 ∨ b = true ∧ cc ≤ 1 ∧ (c != cc) = true ∧ t = 1 ∨ b = true ∧ cc ≤ 1 ∧ c = cc ∧ g = true ∧ t = 2 ∨ b = true ∧ cc ≤ 1 ∧ c = cc ∧ g = false ∧ t = 3)
    (hT : Hid (∀ w, Calls Try.prog 16 #[.int .u64 x] w fun e w' => e = .returned (.tuple #[.agg #[.int .u8 k, .int .u8 c, .bool g, .bool m, .int .u8 o, .int .u8 r, .int .u8 s], .bool b]) ∧ Kp [] w w')) :
    Calls Try.prog 5 #[.int .u64 x, .int .u8 cc] w fun e w' => e = .returned (.int .u8 t) ∧ Kp [] w w' := by
  rcases hw with ⟨rfl, rfl⟩ | ⟨rfl, h1, rfl⟩ | ⟨rfl, h1, h2, rfl⟩ | ⟨rfl, h1, rfl, rfl, rfl⟩ | ⟨rfl, h1, rfl, rfl, rfl⟩
  all_goals
    go_enter Try.func5, Try.ntmps5
    go_wp2_with fail
    refine (hT.out _).mono ?_; rintro e w1 ⟨rfl, hk⟩
    have HK := Lib.hid hk
    clear hk
    go_wp2
    go_ret
    exact ⟨rfl, HK.out.alloc _⟩

theorem tell_is (x cc t : Int) (w : World) (h0 : 0 ≤ x) (h1 : x < 18446744073709551616) (ht : tellI x cc = t) :
    Calls Try.prog 5 #[.int .u64 x, .int .u8 cc] w fun e w' => e = .returned (.int .u8 t) ∧ Kp [] w w' := by
  by_cases hg : glob x = true
  · refine stell_core x cc t _ _ _ _ _ _ _ true w ?_ (Lib.hid fun w => stake_glob x w h0 hg)
    by_cases hc : cc ≤ 1
    · unfold tellI at ht
      rw [if_pos ⟨hg, hc⟩] at ht
      by_cases h4 : x / 4 % 2 = cc
      · rw [if_pos h4] at ht
        by_cases h8 : x / 8 % 2 = 1
        · rw [if_pos h8] at ht
          exact .inr (.inr (.inr (.inl ⟨rfl, hc, h4, by simpa using h8, ht.symm⟩)))
        · rw [if_neg h8] at ht
          exact .inr (.inr (.inr (.inr ⟨rfl, hc, h4, by simpa using h8, ht.symm⟩)))
      · rw [if_neg h4] at ht
        exact .inr (.inr (.inl ⟨rfl, hc, by simpa using h4, ht.symm⟩))
    · exact .inr (.inl ⟨rfl, by omega, by rw [← ht, tell_none (.inr (by omega))]⟩)
  · obtain ⟨k, c, o, r, s, g, m, hT⟩ := stake_not x w h0 h1 (by simpa using hg)
    exact stell_core x cc t _ _ _ _ _ _ _ false w (.inl ⟨rfl, by rw [← ht, tell_none (.inl (by simpa using hg))]⟩) hT

/-- The document's own Tell, whatever its Take says. -/
theorem rtell_core (x cc t k c o r s n : Int) (g m : Bool) (w : World)
    (hw : (n != 0) = true ∧ t = 0 ∨ n = 0 ∧ (k != 3) = true ∧ t = 0 ∨ n = 0 ∧ k = 3 ∧ 1 < cc ∧ t = 0 ∨ n = 0 ∧ k = 3 ∧ cc ≤ 1 ∧ (c != cc) = true ∧ t = 1 ∨ n = 0 ∧ k = 3 ∧ cc ≤ 1 ∧ c = cc ∧ g = true ∧ t = 2 ∨ n = 0 ∧ k = 3 ∧ cc ≤ 1 ∧ c = cc ∧ g = false ∧ t = 3)
    (hT : Hid (∀ w, Calls Try.prog 17 #[.int .u64 x] w fun e w' => e = .returned (.tuple #[.agg #[.int .u8 k, .int .u8 c, .bool g, .bool m, .int .u8 o, .int .u8 r, .int .u8 s], .int .i64 n]) ∧ Below w.heap.size w w')) :
    Calls Try.prog 6 #[.int .u64 x, .int .u8 cc] w fun e w' => e = .returned (.int .u8 t) ∧ Kp [] w w' := by
  rcases hw with ⟨h1, rfl⟩ | ⟨rfl, h1, rfl⟩ | ⟨rfl, rfl, h1, rfl⟩ | ⟨rfl, rfl, h1, h2, rfl⟩ | ⟨rfl, rfl, h1, rfl, rfl, rfl⟩ | ⟨rfl, rfl, h1, rfl, rfl, rfl⟩
  all_goals
    go_enter Try.func6, Try.ntmps6
    go_wp2_with fail
    refine (hT.out _).mono ?_; rintro e w1 ⟨rfl, hk⟩
    have HK := Lib.hid (kp_of_below hk)
    clear hk
    go_wp2
    go_ret
    exact ⟨rfl, HK.out.alloc _⟩

theorem rtell_is (x cc t : Int) (w : World) (h0 : 0 ≤ x) (h1 : x < 18446744073709551616) (ht : tellI x cc = t) :
    Calls Try.prog 6 #[.int .u64 x, .int .u8 cc] w fun e w' => e = .returned (.int .u8 t) ∧ Kp [] w w' := by
  by_cases hk : takeB x = true
  · refine rtell_core x cc t _ _ _ _ _ 0 _ _ w ?_ (Lib.hid fun w => rtake_some x w h0 hk)
    by_cases h3 : x % 4 = 3
    · have hg : glob x = true := by simp [glob, hk, h3]
      by_cases hc : cc ≤ 1
      · unfold tellI at ht
        rw [if_pos ⟨hg, hc⟩] at ht
        by_cases h4 : x / 4 % 2 = cc
        · rw [if_pos h4] at ht
          by_cases h8 : x / 8 % 2 = 1
          · rw [if_pos h8] at ht
            exact .inr (.inr (.inr (.inr (.inl ⟨rfl, h3, hc, h4, by simpa using h8, ht.symm⟩))))
          · rw [if_neg h8] at ht
            exact .inr (.inr (.inr (.inr (.inr ⟨rfl, h3, hc, h4, by simpa using h8, ht.symm⟩))))
        · rw [if_neg h4] at ht
          exact .inr (.inr (.inr (.inl ⟨rfl, h3, hc, by simpa using h4, ht.symm⟩)))
      · exact .inr (.inr (.inl ⟨rfl, h3, by omega, by rw [← ht, tell_none (.inr (by omega))]⟩))
    · exact .inr (.inl ⟨rfl, by simpa using h3, by rw [← ht, tell_none (.inl (by simp [glob, h3]))]⟩)
  · exact rtell_core x cc t 0 0 0 0 0 3 false false w (.inl ⟨rfl, by rw [← ht, tell_none (.inl (by simp [glob, hk]))]⟩) (Lib.hid fun w => rtake_none x w h0 h1 (by simpa using hk))

end Go.Proofs.Ytjdihjndcpkndaa
