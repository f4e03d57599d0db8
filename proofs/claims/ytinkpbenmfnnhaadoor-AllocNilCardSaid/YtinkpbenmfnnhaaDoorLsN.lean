/- The walks of All and Push. Conditions: as each theorem states them. -/
import Derived.Test.YtinkpbenmfnnhaaDoorLsM
namespace Go.Proofs.YtinkpbenmfnnhaaDoor.Li
set_option linter.unusedVariables false
set_option linter.unusedSimpArgs false
set_option maxRecDepth 100000
open Go.RowKit

theorem int_info : (Tryd.prog.info? 3).map (fun i => (i.zero, i.size, i.bytes)) = some (some (.int .i64 0), 1, 8) := by kernel_rfl
theorem made_ints (n : Nat) : madeCells #[.int .i64 0] n = (ints (List.replicate n 0)).toArray := by
  apply Array.ext'
  rw [toList_madeCells_one]
  simp [ints]
theorem make_ints (n : Nat) (h2 : n ≤ 4096) (w : World) : (Instr.makeSlice 62 (.int .i64 (n : Int)) (.int .i64 (n : Int))).run Tryd.prog w = .ok (.slice (some ⟨w.heap.size, 0, none⟩) n n) (w.alloc (.cells (ints (List.replicate n 0)).toArray 3)) := by
  obtain ⟨i, hi, hz0, hz1, hz2⟩ := info_parts int_info
  have := run_make (P := Tryd.prog) w 62 3 i (.int .i64 0) Tryd.underlying62 hi hz0 .i64 .i64 n n (by omega) (Int.le_refl _) (by rw [hz2]; omega) (by omega)
  rw [this, hz1]
  simp [Value.cells, made_ints]

/-- copy of a row into one that has just been made. -/
theorem copy_row (w : World) (v : Value) (xs : List Int) (h : Rw w v xs) :
    ∃ w2, (∀ ty, (Builtin.copy_ #[62, 62] ty #[.slice (some ⟨w.heap.size, 0, none⟩) xs.length xs.length, v]).run Tryd.prog (w.alloc (.cells (ints (List.replicate xs.length 0)).toArray 3)) = .ok (goInt xs.length) w2) ∧
      Kp [] w w2 ∧ w2.heap[w.heap.size]? = some (.cells (ints xs).toArray 3 (0, 0)) := by
  have hk := (Kp.refl [] w).alloc (.cells (ints (List.replicate xs.length 0)).toArray 3)
  have hg := heap_alloc_new w (.cells (ints (List.replicate xs.length 0)).toArray 3)
  rcases h with ⟨rfl, rfl⟩ | ⟨g, cap, cur, rfl, hgc, h1, h2, h3, h4⟩
  · exact ⟨_, fun ty => Go.run_copy_nil (hu := Tryd.underlying62) (hs := by kernel_rfl) .., hk, hg⟩
  · refine ⟨_, fun ty => ?_, hk.setRow (.inr (Nat.le_refl _)) (ints xs).toArray, setRow_heap _ _ _ _ _ _ hg⟩
    have hcs : (ints xs).length = Nat.min xs.length xs.length := by simp [ints]
    have hgc' := hk.row (by simp) hgc
    have := run_copy_row (P := Tryd.prog) (w.alloc (.cells (ints (List.replicate xs.length 0)).toArray 3)) 62 62 ty 3 w.heap.size 0 xs.length xs.length ⟨g, 0, none⟩ xs.length cap (ints (List.replicate xs.length 0)).toArray 3 (ints xs)
      Tryd.underlying62 (by kernel_rfl) hg hcs
      (fun j v hv => by
        rw [Addr.add_lit, Nat.zero_add]
        have hj : j < xs.length := by
          have := (List.getElem?_eq_some_iff.1 hv).1
          simpa [ints] using this
        rw [row_cell hgc' h4 hj, ← ints_get xs j hj]; exact hv)
      (by simp [ints]) (by intro v hv; obtain ⟨x, _, rfl⟩ := List.mem_map.1 hv; rfl)
    rw [this]
    congr 1
    · simp [ints]
    · simp [ints]

theorem kp_fresh {w w2 w3 : World} {n cap : Nat} (h : Kp [] w w2) (k : Kp (blk (.slice (some ⟨w.heap.size, 0, none⟩) n cap)) w2 w3) : Kp [] w w3 :=
  ⟨k.os.trans h.os, k.tape.trans h.tape, k.output.trans h.output, Nat.le_trans h.size k.size, fun i hi hn => (k.block i (Nat.lt_of_lt_of_le hi h.size) (by rw [blk_some, List.mem_singleton]; omega)).trans (h.block i hi hn)⟩

theorem news_one (w : World) (z : Int) (H : Nat) (hH : H = w.heap.size) : ∀ j u, [Value.int .i64 z][j]? = some u → (w.alloc (.cells #[.int .i64 z] 3)).cell? ((⟨H, 0, none⟩ : Addr).add j) = some u := by
  subst hH
  intro j u hj
  match j, hj with
  | 0, hj => simp at hj; subst hj; simp [Addr.add]
theorem one_cell (z : Int) : ∀ u ∈ [Value.int .i64 z], u.oneCell' = true := by
  intro u hu; simp at hu; subst hu; rfl

theorem push_nil (w : World) (c x : Int) : Calls Tryd.prog 50 #[.pointer none, .int .i64 c, .int .i64 x] w fun e w' => e = .returned (.int .i64 1) ∧ w' = w := by
  have hr := row_nil w c
  go_enter Tryd.func50, Tryd.ntmps50
  go_wp2_with ((with_reducible refine hr.mono ?_); rintro e w1 ⟨rfl, rfl⟩)
  go_ret
  exact ⟨rfl, rfl⟩
theorem push_bad (w : World) (p : Nat) (c x : Int) (h : c < 0 ∨ 4 ≤ c) : Calls Tryd.prog 50 #[.pointer (some ⟨p, 0, none⟩), .int .i64 c, .int .i64 x] w fun e w' => e = .returned (.int .i64 2) ∧ w' = w := by
  have hr := row_bad w p c h
  clear h
  go_enter Tryd.func50, Tryd.ntmps50
  go_wp2_with ((with_reducible refine hr.mono ?_); rintro e w1 ⟨rfl, rfl⟩)
  go_ret
  exact ⟨rfl, rfl⟩
theorem push_low (w : World) (p c : Nat) (x : Int) (h : c < 4) (hx : x < 1) : Calls Tryd.prog 50 #[.pointer (some ⟨p, 0, none⟩), .int .i64 c, .int .i64 x] w fun e w' => e = .returned (.int .i64 2) ∧ w' = w := by
  have hr := row_good w p c h
  clear h
  go_enter Tryd.func50, Tryd.ntmps50
  go_wp2_with ((with_reducible refine hr.mono ?_); rintro e w1 ⟨rfl, rfl⟩)
  go_ret
  exact ⟨rfl, rfl⟩
theorem push_has (w : World) (p c : Nat) (vs : Nat → Value) (R : Nat → List Int) (L : Ls w p vs R) (hn : ∀ c, c < 4 → (R c).length ≤ 1000) (x : Int) (h : c < 4) (hx : 1 ≤ x) (hh : hasB R x = true) :
    Calls Tryd.prog 50 #[.pointer (some ⟨p, 0, none⟩), .int .i64 c, .int .i64 x] w fun e w' => e = .returned (.int .i64 6) ∧ Kp [] w w' := by
  have hr := row_good w p c h
  have hs := has_any w p vs R x L hn
  rw [hh] at hs
  clear h L hn hh
  go_enter Tryd.func50, Tryd.ntmps50
  go_wp2_with (first
    | ((with_reducible refine hr.mono ?_); rintro e w1 ⟨rfl, rfl⟩)
    | ((with_reducible refine hs.mono ?_); rintro e w1 ⟨rfl, hk⟩; have HK := Lib.hid hk; clear hk))
  go_ret
  exact ⟨rfl, HK.out⟩

theorem push_good (w : World) (p c : Nat) (vs : Nat → Value) (R : Nat → List Int) (L : Ls w p vs R) (hn : ∀ c, c < 4 → (R c).length ≤ 1000) (x : Int) (h : c < 4) (hx : 1 ≤ x) (hh : hasB R x = false) :
    Calls Tryd.prog 50 #[.pointer (some ⟨p, 0, none⟩), .int .i64 c, .int .i64 x] w fun e w' => e = .returned (.int .i64 0) ∧ ∃ vs', Ls w' p vs' (upd R c (R c ++ [x])) ∧ Lk p vs vs' w w' := by
  have hr := row_good w p c h
  have hs := has_any w p vs R x L hn
  rw [hh] at hs
  have hnc := hn c h
  obtain ⟨i0, hi, hz0, hz1, hz2⟩ := info_parts int_info
  have HL := Lib.hid (And.intro L h)
  clear h L hn hh
  go_enter Tryd.func50, Tryd.ntmps50
  go_wp2_with ((with_reducible refine hr.mono ?_); rintro e w1 ⟨rfl, rfl⟩)
  refine hs.mono ?_
  rintro e w2 ⟨rfl, hk2⟩
  have L2 := HL.out.1.keep0 hk2
  have hc2 := L2.cell HL.out.2
  have hR2 := L2.rw c HL.out.2
  have HK := Lib.hid (Lk.of_kp (p := p) (vs := vs) hk2)
  have hown := hR2.own
  have hplt := L2.lt
  have H2 := Lib.hid L2
  have HR := Lib.hid hR2
  clear hk2 L2 hR2
  go_wp2_with (first
    | (at_builtin; refine wpList_append_lies _ rfl _ _ 62 rfl 0 3 i0 (.int .i64 0) 1 8 Tryd.underlying62 hi hz0 hz1 hz2 rfl (by decide) _ _ _ rfl (hown.alloc _) ⟨w2.heap.size, 0, none⟩ 1 1 [.int .i64 x] rfl rfl (news_one w2 x _ rfl) (one_cell _) (by decide) (by unfold maxLen; omega) (by omega) (by simp) _ rfl ?_
       intro g5 cap5 w5 hown5 hg5 hat5 hlt5
       have e5 : (R c ++ [x]).length = (R c).length + 1 := by simp
       have hR5 : Rw w5 (.slice (some ⟨g5, 0, none⟩) ((R c).length + 1) cap5) (R c ++ [x]) := Rw.of_own (base := 0) (by rw [e5, ints_snoc]; exact hown5)
       have hk5 : Kp (blk (vs c)) w2 w5 := ((Kp.refl _ _).alloc _).trans (kp_of_row hg5)
       have hb5 : ∀ y ∈ blk (.slice (some ⟨g5, 0, none⟩) ((R c).length + 1) cap5), y ∈ blk (vs c) ∨ w2.heap.size ≤ y := (fun y hy => by
        rw [blk_some, List.mem_singleton] at hy
        subst hy
        rcases hat5 with q | q
        · have q' : (vs c).ownBlock = some y := q
          left; unfold blk; rw [q']; simp
        · right; rw [q]; simp)
       have fin := Lib.hid (And.intro (H2.out.store HL.out.2 hR5 hk5 hb5) (HK.out.trans (Lk.store (p := p) HL.out.2 hk5 hb5)))
       have hpo : p ∉ blk (vs c) := fun e => H2.out.pne ⟨c, HL.out.2, e⟩
       have c7 := (World.cell?_of_block (a := ⟨p, c, none⟩) (hk5.block p hplt hpo)).trans hc2
       have f7 := (World.frozen?_of_block (a := ⟨p, c, none⟩) (hk5.block p hplt hpo)).trans (H2.out.free c)
       clear hown5 hg5 hat5 hlt5 e5 hR5 hk5 hb5 hpo hc2 hown))
  go_ret
  exact ⟨rfl, _, fin.out.1, fin.out.2⟩

end Go.Proofs.YtinkpbenmfnnhaaDoor.Li
