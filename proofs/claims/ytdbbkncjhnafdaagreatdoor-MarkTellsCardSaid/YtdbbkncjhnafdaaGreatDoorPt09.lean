/- The walks of law 15's own: the document's heap with a word more; the beginning of an arena of one owner. The walks of law 15's own: the beginning of an arena of one owner. The walks of the document's own table functions (demesneref05), and of the known entries (wakes). Conditions: as each theorem states them (the numbers are those of a uint8, of a uint64). The walks of the document's own heap (demesneref15): Entry, SetEntry. The walks of the document's own heap (demesneref15), on: Claim. The walks of the document's own heap (demesneref15), on: Back, its entries. Conditions: as each theorem states them. -/
import Derived.Deep.CutBlock
import Derived.Deep.CutRange
import Derived.Deep.DeepCutAuto
import Derived.Test.YtdbbkncjhnafdaaGreatDoorPt02
import Derived.Test.YtdbbkncjhnafdaaGreatDoorPt08
namespace Go.Proofs.YtdbbkncjhnafdaaGreatDoor
set_option linter.unusedVariables false
set_option linter.unusedSimpArgs false
set_option maxRecDepth 100000
open Go.RowKit

theorem info_u64 : ∃ i z, Tryz.prog.info? 53 = some i ∧ i.zero = some z ∧ i.size = 1 ∧ i.bytes = 8 ∧ z.cells.size = 1 := by
  obtain ⟨i, hi, hz0, hz1, hz2⟩ := info_parts (show (Tryz.prog.info? 53).map (fun i => (i.zero, i.size, i.bytes)) = some (some (.int .u64 0), 1, 8) by kernel_rfl)
  exact ⟨i, _, hi, hz0, hz1, hz2, rfl⟩

/-- The words of a heap. -/
def ws (xs : List Int) : List Value := xs.map (Value.int .u64)
theorem ws_len (xs : List Int) : (ws xs).length = xs.length := by simp [ws]
theorem ws_one (xs : List Int) : ∀ u ∈ ws xs, u.oneCell' = true := by
  intro u hu
  simp only [ws, List.mem_map] at hu
  obtain ⟨x, _, rfl⟩ := hu
  rfl
theorem ws_get (xs : List Int) (i : Nat) (h : i < xs.length) : (ws xs)[i]? = some (.int .u64 (xs.getD i 0)) := by simp [ws, List.getD, h]

/-- A heap's words lie at a slice of the call's own. -/
def Ww (base : Nat) (w : World) (b c : Nat) (xs : List Int) : Prop := Gx.Rw 53 1 base w (.slice (some ⟨b, 0, none⟩) xs.length c) xs.length (ws xs)
theorem Ww.heap {base : Nat} {w : World} {b c : Nat} {xs : List Int} (h : Ww base w b c xs) (hx : 0 < xs.length) : base ≤ b ∧ ∃ cur, w.heap[b]? = some (.cells cur 53 (0, 0)) ∧ cur.toList.take xs.length = ws xs ∧ cur.size = c ∧ xs.length ≤ c ∧ c ≤ maxLen := by
  rcases h.own.2 with ⟨h0, _⟩ | ⟨g, c', cur, he, hge, hb, h1, h2, h3, h4⟩
  · simp at h0
  · simp only [Value.slice.injEq, Option.some.injEq, Addr.mk.injEq] at he
    obtain ⟨⟨rfl, _⟩, _, rfl⟩ := he
    exact ⟨hge, cur, hb, by simpa using h4, by simpa using h3, h1, h2⟩

def put4v (w : World) (b : Nat) (v0 v1 v2 v3 : Value) : World := (((w.setCell ⟨b, 0, none⟩ v0).setCell ⟨b, 1, none⟩ v1).setCell ⟨b, 2, none⟩ v2).setCell ⟨b, 3, none⟩ v3
theorem put4v_kp (w : World) (b : Nat) (v0 v1 v2 v3 : Value) : Kp [b] w (put4v w b v0 v1 v2 v3) := ((((Kp.refl [b] w).setCell (.inl (by simp)) _).setCell (.inl (by simp)) _).setCell (.inl (by simp)) _).setCell (.inl (by simp)) _
theorem put4v_row {w : World} {b : Nat} {u0 u1 u2 u3 : Value} (v0 v1 v2 v3 : Value) {T : TypeId} (h : w.heap[b]? = some (.cells #[u0, u1, u2, u3] T (0, 0))) : (put4v w b v0 v1 v2 v3).heap[b]? = some (.cells #[v0, v1, v2, v3] T (0, 0)) := by
  unfold put4v
  rw [heap_setCell_same _ _ _ _ _ _ (heap_setCell_same _ _ _ _ _ _ (heap_setCell_same _ _ _ _ _ _ (heap_setCell_same _ _ _ _ _ _ h)))]
  rfl

set_option maxHeartbeats 1000000 in
theorem h_with (w : World) (base b c : Nat) (xs : List Int) (T G n : Int) (k : Nat) (x : Int) (h : Ww base w b c xs) (hk : k < xs.length) (hl : xs.length ≤ 4096) :
    Calls Tryz.prog 56 #[.agg #[.slice (some ⟨b, 0, none⟩) xs.length c, .int .i64 T, .int .i64 G, .int .i64 n], .int .i64 k, .int .u64 x] w fun e w' => ∃ b' c', e = .returned (.agg #[.slice (some ⟨b', 0, none⟩) xs.length c', .int .i64 T, .int .i64 G, .int .i64 n]) ∧ Ww w.heap.size w' b' c' (xs.set k x) ∧ Kp [] w w' := by
  have K0 : Kp [] w ((w.alloc (.cells #[.slice (some ⟨b, 0, none⟩) xs.length c, .int .i64 T, .int .i64 G, .int .i64 n] 39)).alloc (.cells #[.slice none 0 0, .int .i64 0, .int .i64 0, .int .i64 0] 39)) := ((Kp.refl _ _).alloc _).alloc _
  obtain ⟨hb0, cur, hcur, htk, hcs, hcl, -⟩ := h.heap (by omega)
  obtain ⟨g, cap, w1, hrun, hrw, hkp, hg⟩ := Gx.run_app (t := 35) (ty := 35) (base := w.heap.size) Tryz.underlying35 info_u64 (by decide) (Gx.Rw.nil 53 1 w.heap.size ((w.alloc (.cells #[.slice (some ⟨b, 0, none⟩) xs.length c, .int .i64 T, .int .i64 G, .int .i64 n] 39)).alloc (.cells #[.slice none 0 0, .int .i64 0, .int .i64 0, .int .i64 0] 39))) K0.size ⟨b, 0, none⟩ xs.length c (ws xs) (by rw [ws_len]; omega) (by
    intro j u hu
    have hj : j < xs.length := by
      have := (List.getElem?_eq_some_iff.1 hu).1
      rwa [ws_len] at this
    have e : (⟨b, 0, none⟩ : Addr).add j = ⟨b, j, none⟩ := by simp [Addr.add]; omega
    rw [e]
    refine kp_cell K0 (by simp) ?_
    rw [cell_of_row hcur, ← hu, ← htk, List.getElem?_take_of_lt hj]
    simp) (ws_one xs) (by omega) (by omega) (by omega)
  have hrun' : (Builtin.append_ #[35, 35] 35 #[.slice none 0 0, .slice (some ⟨b, 0, none⟩) xs.length c]).run Tryz.prog ((w.alloc (.cells #[.slice (some ⟨b, 0, none⟩) xs.length c, .int .i64 T, .int .i64 G, .int .i64 n] 39)).alloc (.cells #[.slice none 0 0, .int .i64 0, .int .i64 0, .int .i64 0] 39)) = .ok (.slice (some ⟨g, 0, none⟩) xs.length cap) w1 := by rw [Nat.zero_add] at hrun; exact hrun
  have hW1 : Ww w.heap.size w1 g cap xs := by
    have := hrw
    rw [Nat.zero_add, List.nil_append] at this
    exact this
  obtain ⟨hg0, cur1, hcur1, htk1, hcs1, hcl1, hmx1⟩ := hW1.heap (by omega)
  have z1 : ((w.alloc (.cells #[.slice (some ⟨b, 0, none⟩) xs.length c, .int .i64 T, .int .i64 G, .int .i64 n] 39)).alloc (.cells #[.slice none 0 0, .int .i64 0, .int .i64 0, .int .i64 0] 39)).heap.size = w.heap.size + 2 := by rw [World.size_alloc, World.size_alloc]
  have hgn : w.heap.size + 2 ≤ g := by
    rcases hg with hg | hg
    · simp [Gx.blk, Value.ownBlock] at hg
    · omega
  have r0 : w1.heap[w.heap.size]? = some (.cells #[.slice (some ⟨b, 0, none⟩) xs.length c, .int .i64 T, .int .i64 G, .int .i64 n] 39 (0, 0)) :=
    hkp.row (by simp [Gx.blk_nil]) (((Kp.refl [] _).alloc _).row (by simp) (heap_alloc_new w _))
  have r6 : w1.heap[w.heap.size + 1]? = some (.cells #[.slice none 0 0, .int .i64 0, .int .i64 0, .int .i64 0] 39 (0, 0)) :=
    hkp.row (by simp [Gx.blk_nil]) (by
      have := heap_alloc_new (w.alloc (.cells #[.slice (some ⟨b, 0, none⟩) xs.length c, .int .i64 T, .int .i64 G, .int .i64 n] 39)) (.cells #[.slice none 0 0, .int .i64 0, .int .i64 0, .int .i64 0] 39)
      rwa [World.size_alloc] at this)
  -- the box's slice is the new one; the word is stored
  have r1 : (w1.setCell ⟨w.heap.size, 0, none⟩ (.slice (some ⟨g, 0, none⟩) xs.length cap)).heap[w.heap.size]? = some (.cells #[.slice (some ⟨g, 0, none⟩) xs.length cap, .int .i64 T, .int .i64 G, .int .i64 n] 39 (0, 0)) := by rw [heap_setCell_same _ _ _ _ _ _ r0]; rfl
  have q1 : (w1.setCell ⟨w.heap.size, 0, none⟩ (.slice (some ⟨g, 0, none⟩) xs.length cap)).heap[g]? = some (.cells cur1 53 (0, 0)) := by rw [heap_setCell_other _ _ _ _ (by simp; omega), hcur1]
  have s1 : (w1.setCell ⟨w.heap.size, 0, none⟩ (.slice (some ⟨g, 0, none⟩) xs.length cap)).heap[w.heap.size + 1]? = some (.cells #[.slice none 0 0, .int .i64 0, .int .i64 0, .int .i64 0] 39 (0, 0)) := by rw [heap_setCell_other _ _ _ _ (by simp), r6]
  have hK1 : Kp [] w (w1.setCell ⟨w.heap.size, 0, none⟩ (.slice (some ⟨g, 0, none⟩) xs.length cap)) := kp_new_set ((K0.trans (hkp.mono (by simp [Gx.blk_nil])))) (b := w.heap.size) ((Kp.refl _ _).setCell (.inl (by simp)) _) (Nat.le_refl _)
  obtain ⟨w2, hw2⟩ : ∃ w2, w2 = w1.setCell ⟨w.heap.size, 0, none⟩ (.slice (some ⟨g, 0, none⟩) xs.length cap) := ⟨_, rfl⟩
  rw [← hw2] at r1 q1 s1 hK1
  have r2 : (w2.setCell ⟨g, k, none⟩ (.int .u64 x)).heap[w.heap.size]? = some (.cells #[.slice (some ⟨g, 0, none⟩) xs.length cap, .int .i64 T, .int .i64 G, .int .i64 n] 39 (0, 0)) := by rw [heap_setCell_other _ _ _ _ (by simp; omega), r1]
  have q2 : (w2.setCell ⟨g, k, none⟩ (.int .u64 x)).heap[g]? = some (.cells (cur1.setIfInBounds k (.int .u64 x)) 53 (0, 0)) := heap_setCell_same _ _ _ _ _ _ q1
  have s2 : (w2.setCell ⟨g, k, none⟩ (.int .u64 x)).heap[w.heap.size + 1]? = some (.cells #[.slice none 0 0, .int .i64 0, .int .i64 0, .int .i64 0] 39 (0, 0)) := by rw [heap_setCell_other _ _ _ _ (by simp; omega), s1]
  have hK2 : Kp [] w (w2.setCell ⟨g, k, none⟩ (.int .u64 x)) := kp_new_set hK1 (b := g) ((Kp.refl _ _).setCell (.inl (by simp)) _) hg0
  have c1 : w1.cell? ⟨w.heap.size, 0, none⟩ = some (.slice (some ⟨b, 0, none⟩) xs.length c) := cell_of_row r0 0
  have f1 : w1.frozen? ⟨w.heap.size, 0, none⟩ = false := free_of_row r0 0
  have c2 : w2.cell? ⟨w.heap.size, 0, none⟩ = some (.slice (some ⟨g, 0, none⟩) xs.length cap) := cell_of_row r1 0
  have c3 : w2.cell? ⟨g, k, none⟩ = some (.int .u64 (xs.getD k 0)) := by
    rw [cell_of_row q1, ← ws_get xs k hk, ← htk1, List.getElem?_take_of_lt hk]; simp
  have f3 : w2.frozen? ⟨g, k, none⟩ = false := free_of_row q1 k
  have R2 := Lib.hid (And.intro r2 (And.intro q2 (And.intro s2 hK2)))
  have HF := Lib.hid (And.intro htk1 (And.intro hcs1 (And.intro hcl1 (And.intro hg0 (And.intro hgn hmx1)))))
  have hlt : k < xs.length := hk
  obtain ⟨N, hN⟩ : ∃ N, N = xs.length := ⟨_, rfl⟩
  have HN := Lib.hid hN
  rw [← hN] at c1 c2 hrun' hlt hw2 hl ⊢
  clear hmx1 r0 r1 r2 r6 q1 q2 s1 s2 hK1 hK2 K0 hrun hrw hkp hg hW1 z1 hcur1 htk1 hcs1 hcl1 hcur htk hcs hcl hgn hg0 hb0 hk h hN
  have HW2 := Lib.hid hw2
  have HC := Lib.hid (And.intro c2 (And.intro c3 f3))
  have HRUN := Lib.hid hrun'
  clear hw2 c2 c3 f3 hrun'
  go_enter Tryz.func56, Tryz.ntmps56
  go_upto_region 2 with (at_builtin; refine Gx.wpList_append_eq rfl (.const (.slice none 0 0)) (.tmp 8) 35 rfl _ _ _ rfl rfl HRUN.out ?_)
  rw [← HW2.out]
  obtain ⟨c2, c3, f3⟩ := HC.out
  clear c1 f1 HRUN
  go_upto_region 3 with (fail)
  obtain ⟨r2, q2, s2, hK2⟩ := R2.out
  have d0 := (cell_of_row r2 0).trans (show _ = some (.slice (some ⟨g, 0, none⟩) N cap) from by rw [HN.out]; rfl)
  have d1 := (cell_of_row r2 1).trans (show _ = some (.int .i64 T) from rfl)
  have d2 := (cell_of_row r2 2).trans (show _ = some (.int .i64 G) from rfl)
  have d3 := (cell_of_row r2 3).trans (show _ = some (.int .i64 n) from rfl)
  have e0 := (cell_of_row s2 0).trans (show _ = some (.slice none 0 0) from rfl)
  have e1 := (cell_of_row s2 1).trans (show _ = some (.int .i64 0) from rfl)
  have e2 := (cell_of_row s2 2).trans (show _ = some (.int .i64 0) from rfl)
  have e3 := (cell_of_row s2 3).trans (show _ = some (.int .i64 0) from rfl)
  have g0 := free_of_row s2 0
  have g1 := free_of_row s2 1
  have g2 := free_of_row s2 2
  have g3 := free_of_row s2 3
  have R3 := Lib.hid (And.intro q2 (And.intro s2 hK2))
  clear r2 q2 s2 hK2 c2 c3 f3 HC R2
  obtain ⟨w3, hw3⟩ : ∃ w3, w3 = w2.setCell ⟨g, k, none⟩ (.int .u64 x) := ⟨_, rfl⟩
  rw [← hw3] at d0 d1 d2 d3 e0 e1 e2 e3 g0 g1 g2 g3 R3 ⊢
  clear hw3
  go_wp2_with fail
  refine bodyPost_row rfl (w.heap.size + 1) 39 #[.slice (some ⟨g, 0, none⟩) N cap, .int .i64 T, .int .i64 G, .int .i64 n] (0, 0) _ rfl rfl (put4v_row (.slice (some ⟨g, 0, none⟩) N cap) (.int .i64 T) (.int .i64 G) (.int .i64 n) R3.out.2.1) Tryz.underlying39 rfl (by kernel_rfl) ⟨g, cap, rfl, ?_, kp_new_set R3.out.2.2 (put4v_kp _ _ _ _ _ _) (by omega)⟩
  have hq := (put4v_kp w3 (w.heap.size + 1) (.slice (some ⟨g, 0, none⟩) N cap) (.int .i64 T) (.int .i64 G) (.int .i64 n)).row (by simp; have := HF.out; omega) R3.out.1
  obtain ⟨htk1, hcs1, hcl1, hg0, hgn, hmx1⟩ := HF.out
  refine ⟨by simp [ws_len], .inr ⟨g, cap, _, by simp, hg0, hq, by simp; omega, hmx1, by simp; omega, ?_⟩⟩
  rw [Nat.mul_one, Array.toList_setIfInBounds, List.take_set, List.length_set, htk1]
  simp [ws, List.map_set]

end Go.Proofs.YtdbbkncjhnafdaaGreatDoor

namespace Go.Proofs.YtdbbkncjhnafdaaGreatDoor
set_option linter.unusedVariables false
set_option linter.unusedSimpArgs false
set_option maxRecDepth 100000
open Go.RowKit

/-- The law's own state: thirteen cells. -/
def S13 (w : World) (sp : Nat) (f : Nat → Value) : Prop := w.heap[sp]? = some (.cells ((List.range 13).map f).toArray 43 (0, 0))
theorem S13.cell {w : World} {sp : Nat} {f : Nat → Value} (h : S13 w sp f) {i : Nat} (hi : i < 13) : w.cell? ⟨sp, i, none⟩ = some (f i) := by
  rw [cell_of_row h]; simp [hi]
theorem S13.free {w : World} {sp : Nat} {f : Nat → Value} (h : S13 w sp f) (i : Nat) : w.frozen? ⟨sp, i, none⟩ = false := free_of_row h i
theorem S13.set {w : World} {sp : Nat} {f : Nat → Value} (h : S13 w sp f) {i : Nat} (hi : i < 13) (v : Value) : S13 (w.setCell ⟨sp, i, none⟩ v) sp (fun j => if j = i then v else f j) := by
  unfold S13
  rw [heap_setCell_same _ _ _ _ _ _ h]
  congr 2
  apply Array.ext'
  simp only [Array.toList_setIfInBounds]
  apply List.ext_getElem (by simp)
  intro j h1 h2
  simp only [List.getElem_set, List.getElem_map, List.getElem_range]
  by_cases e : j = i
  · simp [e]
  · simp [e, Ne.symm e]
theorem S13.keep {S : List Nat} {w w' : World} {sp : Nat} {f : Nat → Value} (h : S13 w sp f) (k : Kp S w w') (hs : sp ∉ S) : S13 w' sp f := k.row hs h
theorem S13.of {w : World} {sp : Nat} {f : Nat → Value} {cs : Array Value} (h : w.heap[sp]? = some (.cells cs 43 (0, 0))) (e : cs = ((List.range 13).map f).toArray) : S13 w sp f := by
  unfold S13; rw [h, e]

theorem info_lst : ∃ i z, Tryz.prog.info? 77 = some i ∧ i.zero = some z ∧ i.size = 1 ∧ i.bytes = 8 ∧ z.cells.size = 1 := by
  obtain ⟨i, hi, hz0, hz1, hz2⟩ := info_parts (show (Tryz.prog.info? 77).map (fun i => (i.zero, i.size, i.bytes)) = some (some (.pointer none), 1, 8) by kernel_rfl)
  exact ⟨i, _, hi, hz0, hz1, hz2, rfl⟩
theorem info_bool : ∃ i z, Tryz.prog.info? 4 = some i ∧ i.zero = some z ∧ i.size = 1 ∧ i.bytes = 1 ∧ z.cells.size = 1 := by
  obtain ⟨i, hi, hz0, hz1, hz2⟩ := info_parts (show (Tryz.prog.info? 4).map (fun i => (i.zero, i.size, i.bytes)) = some (some (.bool false), 1, 1) by kernel_rfl)
  exact ⟨i, _, hi, hz0, hz1, hz2, rfl⟩
theorem info_rl : ∃ i z, Tryz.prog.info? 80 = some i ∧ i.zero = some z ∧ i.size = 4 ∧ i.bytes = 96 ∧ z.cells.size = 4 := by
  obtain ⟨i, hi, hz0, hz1, hz2⟩ := info_parts (show (Tryz.prog.info? 80).map (fun i => (i.zero, i.size, i.bytes)) = some (some (.agg #[.slice none 0 0, .slice none 0 0, .slice none 0 0, .slice none 0 0]), 4, 96) by kernel_rfl)
  exact ⟨i, _, hi, hz0, hz1, hz2, rfl⟩
theorem info_row : ∃ i z, Tryz.prog.info? 45 = some i ∧ i.zero = some z ∧ i.size = 1 ∧ i.bytes = 24 ∧ z.cells.size = 1 := by
  obtain ⟨i, hi, hz0, hz1, hz2⟩ := info_parts (show (Tryz.prog.info? 45).map (fun i => (i.zero, i.size, i.bytes)) = some (some (.slice none 0 0), 1, 24) by kernel_rfl)
  exact ⟨i, _, hi, hz0, hz1, hz2, rfl⟩

/-- The two layouts' boxes. -/
def B6 (a b n : Nat) (F : World → Prop) (wx : World) : Prop :=
  wx.cell? ⟨a, 0, none⟩ = some (.int .i64 1) ∧ wx.cell? ⟨a, 1, none⟩ = some (.int .i64 0) ∧ wx.cell? ⟨a, 2, none⟩ = some (.int .i64 n) ∧ wx.cell? ⟨b, 0, none⟩ = some (.int .i64 1) ∧ wx.cell? ⟨b, 1, none⟩ = some (.int .i64 0) ∧ wx.cell? ⟨b, 2, none⟩ = some (.int .i64 n) ∧ F wx
theorem B6.keep {a b n : Nat} {F : World → Prop} {wx wy : World} {S : List Nat} (h : B6 a b n F wx) (k : Kp S wx wy) (ha : a ∉ S) (hb : b ∉ S) (hF : F wx → F wy) : B6 a b n F wy := by
  obtain ⟨h0, h1, h2, h3, h4, h5, h6⟩ := h
  exact ⟨kp_cell k ha h0, kp_cell k ha h1, kp_cell k ha h2, kp_cell k hb h3, kp_cell k hb h4, kp_cell k hb h5, hF h6⟩

/-- What is carried through the beginning's rows. -/
structure Pk (w : World) (n N sp q fb : Nat) (f : Nat → Value) (W : World) : Prop where
  hs : S13 W sp f
  hh : Hw 1 0 n (w.heap.size + 1) w.heap.size ((List.replicate N 0).set 0 ((2 ^ n - 1 : Nat) : Int)) 1 W
  hk : Kp [] w W
  hl : Li.Ls W q (fun _ => .slice none 0 0) (fun _ => [])
  hb : ∃ cur, W.heap[fb]? = some (.cells cur 77 (0, 0)) ∧ cur[0]? = some (.pointer (some ⟨q, 0, none⟩))
  lo : w.heap.size + 2 ≤ sp ∧ w.heap.size ≤ q ∧ w.heap.size ≤ fb
theorem Pk.step {w : World} {n N sp q fb : Nat} {f : Nat → Value} {W Wa : World} (h : Pk w n N sp q fb f W) (k : Kp [] W Wa) {i : Nat} (hi : i < 13) (v : Value) : Pk w n N sp q fb (fun j => if j = i then v else f j) (Wa.setCell ⟨sp, i, none⟩ v) := by
  have hs := h.hs.keep k (by simp)
  have hl := h.hl.keep0 k
  obtain ⟨cur, hc, hc0⟩ := h.hb
  have hc' := k.row (by simp) hc
  have hq : sp ≠ q := fun e => by subst e; have := hs.symm.trans hl.hp; simp at this
  have hf : sp ≠ fb := fun e => by subst e; have := hs.symm.trans hc'; simp at this
  have k2 : Kp [sp] Wa (Wa.setCell ⟨sp, i, none⟩ v) := (Kp.refl _ _).setCell (.inl (by simp)) _
  exact ⟨hs.set hi v, (h.hh.on k).keep k2 (by have := h.lo; simp; omega) (by have := h.lo; simp; omega), kp_new_set (h.hk.trans k) k2 (by have := h.lo; omega), hl.keep k2 (by simpa using Ne.symm hq) (fun g hg => by obtain ⟨c, _, hb⟩ := hg; simp [Li.blk_nil] at hb), ⟨cur, k2.row (by simpa using Ne.symm hf) hc', hc0⟩, h.lo⟩

section
variable {ops : Array Oper} {o : Oper} {a : Act} {K : Act → World → Prop} {Q : Exit → Act → World → Prop} {E : Prop} {w : World}
theorem step_append_eq {P : Program} {w2 : World} (hgd : o.guard = none) (s x : Operand) (t : TypeId) (ho : o.op = .call { callee := .builtin .append, args := #[s, x], argTypes := #[t, t] }) (sv xv v : Value) (hs : a.eval s = sv) (hx : a.eval x = xv)
    (hrun : (Builtin.append_ #[t, t] o.type #[sv, xv]).run P w = .ok v w2) (hK : K (a.put o.dst v) w2) : if Region.wanted o (yielded ops a.tmps) = true then Oper.wp P o a w K Q else E := by
  have hw : Region.wanted o (yielded ops a.tmps) = true := by simp [Region.wanted, hgd]
  rw [if_pos hw]
  unfold Oper.wp
  simp [execOp, ho, resolve, invoke, builtin, hs, hx, hrun, Result.andThen]
  exact hK
end

end Go.Proofs.YtdbbkncjhnafdaaGreatDoor

namespace Go.Proofs.YtdbbkncjhnafdaaGreatDoor.Tb
set_option linter.unusedVariables false
set_option linter.unusedSimpArgs false
open Go.RowKit

theorem ret_u64 {a b : Int} (h : a = b) : Ending.returned (.int .u64 a) = .returned (.int .u64 b) := by rw [h]
theorem ret_bool {a b : Bool} (h : a = b) : Ending.returned (.bool a) = .returned (.bool b) := by rw [h]

theorem rword_is (k c r o : Int) (w : World) (hk : 0 ≤ k) (hc : 0 ≤ c) (hr : 0 ≤ r) (ho : 0 ≤ o) (hk1 : k ≤ 255) (hc1 : c ≤ 255) (hr1 : r ≤ 255) (ho1 : o ≤ 255) :
    Calls Tryz.prog 133 #[.agg #[.int .u8 k, .int .u8 c, .int .u8 r, .int .u8 o]] w fun e w' => e = .returned (.int .u64 (wordE k c r o)) ∧ Kp [] w w' := by
  go_enter Tryz.func133, Tryz.ntmps133
  go_wp2
  go_ret
  exact ⟨ret_u64 (by simp only [wordE]; omega), kp_of_below (by go_grown)⟩

set_option maxHeartbeats 1000000 in
theorem rmay_is (k c r o : Int) (b : Bool) (w : World) (hk : 0 ≤ k) (hc : 0 ≤ c) (hr : 0 ≤ r) (ho : 0 ≤ o) (h : mayE k c r o = b) :
    Calls Tryz.prog 132 #[.agg #[.int .u8 k, .int .u8 c, .int .u8 r, .int .u8 o]] w fun e w' => e = .returned (.bool b) ∧ Kp [] w w' := by
  subst h
  go_enter Tryz.func132, Tryz.ntmps132
  go_wp2
  all_goals go_ret
  all_goals (refine ⟨ret_bool ?_, kp_of_below (by go_grown)⟩)
  all_goals (rw [eq_comm]; first
    | (rw [mayE_false]; omega)
    | (rw [Bool.eq_iff_iff, mayE_iff]; first | omega | (simp_all; done) | (simp_all; omega) | (by_cases q2 : k = 2 <;> by_cases q5 : k = 5 <;> by_cases q0 : 0 < r <;> first | omega | (simp_all; done) | (simp_all; omega))))

theorem rword_parts (x : Int) (w : World) (h0 : 0 ≤ x) :
    Calls Tryz.prog 133 #[.agg #[.int .u8 (x % 8), .int .u8 (x / 8 % 4), .int .u8 (x / 32 % 4), .int .u8 (x / 128 % 64)]] w fun e w' => e = .returned (.int .u64 (x % 8192)) ∧ Kp [] w w' :=
  (rword_is _ _ _ _ w (by omega) (by omega) (by omega) (by omega) (by omega) (by omega) (by omega) (by omega)).mono fun e w' ⟨he, hk⟩ => ⟨by rw [he, word_mod], hk⟩

theorem rtake_core (x n k c r o : Int) (b b2 : Bool) (w : World) (h0 : 0 ≤ x) (h1 : x < 18446744073709551616) (hm : mayE (x % 8) (x / 8 % 4) (x / 32 % 4) (x / 128 % 64) = b) (hne : (x % 8192 != x) = b2)
    (hb : (b = true ∧ b2 = false ∧ n = 0 ∧ k = x % 8 ∧ c = x / 8 % 4 ∧ r = x / 32 % 4 ∧ o = x / 128 % 64) ∨ (b = true ∧ b2 = true ∧ n = 3 ∧ k = 0 ∧ c = 0 ∧ r = 0 ∧ o = 0) ∨ (b = false ∧ n = 3 ∧ k = 0 ∧ c = 0 ∧ r = 0 ∧ o = 0)) :
    Calls Tryz.prog 90 #[.int .u64 x] w fun e w' => e = .returned (.tuple #[.agg #[.int .u8 k, .int .u8 c, .int .u8 r, .int .u8 o], .int .i64 n]) ∧ Kp [] w w' := by
  have hmay := Lib.hid (fun w => rmay_is _ _ _ _ b w (by omega) (by omega) (by omega) (by omega) hm)
  have hwd := Lib.hid (fun w => rword_parts x w h0)
  clear hm
  rcases hb with ⟨rfl, rfl, rfl, rfl, rfl, rfl, rfl⟩ | ⟨rfl, rfl, rfl, rfl, rfl, rfl, rfl⟩ | ⟨rfl, rfl, rfl, rfl, rfl, rfl⟩
  · go_enter Tryz.func90, Tryz.ntmps90
    go_wp2_with fail
    refine (hmay.out _).mono ?_; rintro e w1 ⟨rfl, hk⟩
    obtain ⟨hc1, hf1⟩ := bcell hk.to_below
    have blk := Lib.hid (hk.row (by simp) (heap_alloc2_old w _ _))
    have kp := Lib.hid ((((Kp.refl [] w).alloc _).alloc _).trans hk)
    have hz : w.heap.size + 1 < w1.heap.size := by have := hk.size; simp at this; omega
    clear hk
    go_wp2_with fail
    refine (hwd.out _).mono ?_; rintro e w2 ⟨rfl, hk⟩
    obtain ⟨hc2, hf2⟩ := bcell hk.to_below
    have blk2 := Lib.hid (hk.row (by simp) blk.out)
    have kp2 := Lib.hid (kp.out.trans hk)
    clear hk
    go_wp2_with (refine wpList_store_row rfl 120 _ _ rfl w.heap.size _ rfl rfl 120 _ blk2.out (by kernel_rfl) rfl (by simp [Value.oneCell']) ?_)
    exact bodyPost_row_tmp rfl w.heap.size 120 _ (0, 0) _ (.int .i64 0) rfl rfl rfl (setRow_heap _ _ _ _ _ _ blk2.out) Tryz.underlying120 rfl (by kernel_rfl)
      ⟨rfl, kp2.out.setRow (.inr (Nat.le_refl _)) _⟩
  · go_enter Tryz.func90, Tryz.ntmps90
    go_wp2_with fail
    refine (hmay.out _).mono ?_; rintro e w1 ⟨rfl, hk⟩
    obtain ⟨hc1, hf1⟩ := bcell hk.to_below
    have blk := Lib.hid (hk.row (by simp) (heap_alloc2_old w _ _))
    have kp := Lib.hid ((((Kp.refl [] w).alloc _).alloc _).trans hk)
    have hz : w.heap.size + 1 < w1.heap.size := by have := hk.size; simp at this; omega
    clear hk
    go_wp2_with fail
    refine (hwd.out _).mono ?_; rintro e w2 ⟨rfl, hk⟩
    obtain ⟨hc2, hf2⟩ := bcell hk.to_below
    have blk2 := Lib.hid (hk.row (by simp) blk.out)
    have kp2 := Lib.hid (kp.out.trans hk)
    clear hk
    go_wp2_with (refine wpList_store_row rfl 120 _ _ rfl w.heap.size _ rfl rfl 120 _ blk2.out (by kernel_rfl) rfl (by simp [Value.oneCell']) ?_)
    exact bodyPost_row_tmp rfl w.heap.size 120 _ (0, 0) _ (.int .i64 3) rfl rfl rfl (setRow_heap _ _ _ _ _ _ blk2.out) Tryz.underlying120 rfl (by kernel_rfl)
      ⟨rfl, kp2.out.setRow (.inr (Nat.le_refl _)) _⟩
  · go_enter Tryz.func90, Tryz.ntmps90
    go_wp2_with fail
    refine (hmay.out _).mono ?_; rintro e w1 ⟨rfl, hk⟩
    obtain ⟨hc1, hf1⟩ := bcell hk.to_below
    have blk := Lib.hid (hk.row (by simp) (heap_alloc2_old w _ _))
    have kp := Lib.hid ((((Kp.refl [] w).alloc _).alloc _).trans hk)
    have hz : w.heap.size + 1 < w1.heap.size := by have := hk.size; simp at this; omega
    clear hk
    go_wp2_with (refine wpList_store_row rfl 120 _ _ rfl w.heap.size _ rfl rfl 120 _ blk.out (by kernel_rfl) rfl (by simp [Value.oneCell']) ?_)
    exact bodyPost_row_tmp rfl w.heap.size 120 _ (0, 0) _ (.int .i64 3) rfl rfl rfl (setRow_heap _ _ _ _ _ _ blk.out) Tryz.underlying120 rfl (by kernel_rfl)
      ⟨rfl, kp.out.setRow (.inr (Nat.le_refl _)) _⟩

theorem rtake_some (x : Int) (w : World) (h0 : 0 ≤ x) (h : takeE x = true) :
    Calls Tryz.prog 90 #[.int .u64 x] w fun e w' => e = .returned (.tuple #[.agg #[.int .u8 (x % 8), .int .u8 (x / 8 % 4), .int .u8 (x / 32 % 4), .int .u8 (x / 128 % 64)], .int .i64 0]) ∧ Kp [] w w' := by
  have h' := h
  simp only [takeE, Bool.and_eq_true, decide_eq_true_eq] at h'
  exact rtake_core x 0 _ _ _ _ true false w h0 (by omega) h'.2 (by simp; omega) (.inl ⟨rfl, rfl, rfl, rfl, rfl, rfl, rfl⟩)
theorem rtake_none (x : Int) (w : World) (h0 : 0 ≤ x) (h1 : x < 18446744073709551616) (h : takeE x = false) :
    Calls Tryz.prog 90 #[.int .u64 x] w fun e w' => e = .returned (.tuple #[.agg #[.int .u8 0, .int .u8 0, .int .u8 0, .int .u8 0], .int .i64 3]) ∧ Kp [] w w' := by
  by_cases hm : mayE (x % 8) (x / 8 % 4) (x / 32 % 4) (x / 128 % 64) = true
  · have hx : ¬ x < 8192 := by intro hx; simp [takeE, hx, hm] at h
    exact rtake_core x 3 _ _ _ _ true true w h0 h1 hm (by simp; omega) (.inr (.inl ⟨rfl, rfl, rfl, rfl, rfl, rfl, rfl⟩))
  · exact rtake_core x 3 _ _ _ _ false _ w h0 h1 (by simpa using hm) rfl (.inr (.inr ⟨rfl, rfl, rfl, rfl, rfl, rfl⟩))

end Go.Proofs.YtdbbkncjhnafdaaGreatDoor.Tb

namespace Go.Proofs.YtdbbkncjhnafdaaGreatDoor
set_option linter.unusedVariables false
set_option linter.unusedSimpArgs false
set_option maxRecDepth 100000
open Go.RowKit
variable {Bz : Nat}

/-- The document's heap by value: its words lie at a slice, its layout beside it. -/
abbrev hV (b c N T G n : Nat) : Value := .agg #[.slice (some ⟨b, 0, none⟩) N c, .int .i64 T, .int .i64 G, .int .i64 n]
structure Dh (Bz T G n b c : Nat) (H : List Int) (w : World) : Prop where
  ww : Ww Bz w b c H
  len : 3 + T + G + 33 * n ≤ H.length
  top : H.length ≤ 4096
  ok : ∀ k, 0 ≤ H.getD k 0 ∧ H.getD k 0 < 18446744073709551616
  hT : T ≤ 64
  hG : G ≤ 8
  hn : n ≤ 64

section
variable {T G n b c : Nat} {H : List Int} {w w' : World}
theorem Ww.on {base : Nat} {xs : List Int} (h : Ww base w b c xs) (k : Kp [] w w') : Ww base w' b c xs := Gx.Rw.keep0 h k
theorem Ww.low {base base' : Nat} {xs : List Int} (h : Ww base w b c xs) (hx : 0 < xs.length) (hb : base' ≤ base) : Ww base' w b c xs := by
  unfold Ww at *
  rcases h.own.2 with ⟨h0, h1⟩ | ⟨g, c', cur, he, hge, r⟩
  · simp at h0
  · exact ⟨h.own.1, .inr ⟨g, c', cur, he, Nat.le_trans hb hge, r⟩⟩
theorem Dh.on (h : Dh Bz T G n b c H w) (k : Kp [] w w') : Dh Bz T G n b c H w' := ⟨h.ww.on k, h.len, h.top, h.ok, h.hT, h.hG, h.hn⟩
theorem Dh.cell (h : Dh Bz T G n b c H w) {k : Nat} (hk : k < H.length) : w.cell? ⟨b, k, none⟩ = some (.int .u64 (H.getD k 0)) := by
  obtain ⟨_, cur, hc, ht, _⟩ := h.ww.heap (by omega)
  rw [cell_of_row hc, ← ws_get H k hk, ← ht, List.getElem?_take_of_lt hk]; simp
theorem Dh.with (h : Dh Bz T G n b c H w) {k : Nat} (hk : k < H.length) {x : Int} (h0 : 0 ≤ x) (h1 : x < 18446744073709551616) :
    Calls Tryz.prog 56 #[hV b c H.length T G n, .int .i64 k, .int .u64 x] w fun e w' => ∃ b' c', e = .returned (hV b' c' H.length T G n) ∧ Dh Bz T G n b' c' (H.set k x) w' ∧ Kp [] w w' := by
  have hB : Bz ≤ w.heap.size := by
    obtain ⟨h1, cur, h2⟩ := Gx.Rw.block h.ww b (by rw [Gx.blk_some]; simp)
    exact Nat.le_trans h1 (Nat.le_of_lt (lt_of_block h2))
  refine (h_with w Bz b c H T G n k x h.ww hk h.top).mono ?_
  rintro e w' ⟨b', c', rfl, h2, h3⟩
  refine ⟨b', c', rfl, ⟨h2.low (by simp; omega) hB, by simpa using h.len, by simpa using h.top, fun j => ?_, h.hT, h.hG, h.hn⟩, h3⟩
  rw [getD_set']
  split
  · exact ⟨h0, h1⟩
  · exact h.ok j

theorem rtake_part (x : Int) (w : World) (h0 : 0 ≤ x) (h1 : x < 18446744073709551616) :
    Calls Tryz.prog 90 #[.int .u64 x] w fun e w' => e = .returned (.tuple #[.agg #[.int .u8 (ek x), .int .u8 (ec x), .int .u8 (er x), .int .u8 (eo x)], .int .i64 (ee x)]) ∧ Kp [] w w' := by
  unfold ek ec er eo ee
  cases h : Tb.takeE x
  · exact Tb.rtake_none x w h0 h1 h
  · exact Tb.rtake_some x w h0 h

/-- What a drawn region holds on to: the heap's box. -/
def Hs4 (a b c N T G n : Nat) (wx : World) : Prop :=
  wx.cell? ⟨a, 0, none⟩ = some (.slice (some ⟨b, 0, none⟩) N c) ∧ wx.cell? ⟨a, 1, none⟩ = some (.int .i64 T) ∧ wx.cell? ⟨a, 2, none⟩ = some (.int .i64 G) ∧ wx.cell? ⟨a, 3, none⟩ = some (.int .i64 n)
theorem Hs4.keep {a N : Nat} {S : List Nat} (h : Hs4 a b c N T G n w) (k : Kp S w w') (ha : a ∉ S) : Hs4 a b c N T G n w' := by
  obtain ⟨h0, h1, h2, h3⟩ := h
  exact ⟨kp_cell k ha h0, kp_cell k ha h1, kp_cell k ha h2, kp_cell k ha h3⟩

/-- The same, and an entry's box. -/
def Hs8 (a e b c N T G n : Nat) (k cl r o : Int) (wx : World) : Prop :=
  wx.cell? ⟨a, 0, none⟩ = some (.slice (some ⟨b, 0, none⟩) N c) ∧ wx.cell? ⟨a, 1, none⟩ = some (.int .i64 T) ∧ wx.cell? ⟨a, 2, none⟩ = some (.int .i64 G) ∧ wx.cell? ⟨a, 3, none⟩ = some (.int .i64 n) ∧ wx.cell? ⟨e, 0, none⟩ = some (.int .u8 k) ∧ wx.cell? ⟨e, 1, none⟩ = some (.int .u8 cl) ∧ wx.cell? ⟨e, 2, none⟩ = some (.int .u8 r) ∧ wx.cell? ⟨e, 3, none⟩ = some (.int .u8 o)
theorem Hs8.keep {a e N : Nat} {k cl r o : Int} {S : List Nat} (h : Hs8 a e b c N T G n k cl r o w) (kk : Kp S w w') (ha : a ∉ S) (he : e ∉ S) : Hs8 a e b c N T G n k cl r o w' := by
  obtain ⟨h0, h1, h2, h3, h4, h5, h6, h7⟩ := h
  exact ⟨kp_cell kk ha h0, kp_cell kk ha h1, kp_cell kk ha h2, kp_cell kk ha h3, kp_cell kk he h4, kp_cell kk he h5, kp_cell kk he h6, kp_cell kk he h7⟩
/-- A box of another type turns. -/
theorem Dh.box (h : Dh Bz T G n b c H w) {a : Nat} {cs : Array Value} {v0 v1 v2 v3 : Value} (ha : w.heap[a]? = some (.cells cs 39 (0, 0))) : Dh Bz T G n b c H (put4v w a v0 v1 v2 v3) := by
  refine ⟨?_, h.len, h.top, h.ok, h.hT, h.hG, h.hn⟩
  refine Gx.Rw.keep h.ww (put4v_kp _ _ _ _ _ _) fun g hg e => ?_
  simp only [List.mem_singleton] at e
  subst e
  obtain ⟨_, cur, hc⟩ := Gx.Rw.block h.ww g hg
  rw [ha] at hc
  simp at hc

/-- SetEntry's boxes: the heap's, the entry's, the answer's. -/
def sw (w : World) (b c N T G n : Nat) (k cl r o : Int) : World := ((w.alloc (.cells #[.slice (some ⟨b, 0, none⟩) N c, .int .i64 T, .int .i64 G, .int .i64 n] 39)).alloc (.cells #[.int .u8 k, .int .u8 cl, .int .u8 r, .int .u8 o] 120)).alloc (.cells #[.slice none 0 0, .int .i64 0, .int .i64 0, .int .i64 0] 39)
theorem sw_kp (w : World) (b c N T G n : Nat) (k cl r o : Int) : Kp [] w (sw w b c N T G n k cl r o) := (((Kp.refl _ _).alloc _).alloc _).alloc _
theorem sw_rows (w : World) (b c N T G n : Nat) (k cl r o : Int) : (sw w b c N T G n k cl r o).heap[w.heap.size]? = some (.cells #[.slice (some ⟨b, 0, none⟩) N c, .int .i64 T, .int .i64 G, .int .i64 n] 39 (0, 0)) ∧ (sw w b c N T G n k cl r o).heap[w.heap.size + 1]? = some (.cells #[.int .u8 k, .int .u8 cl, .int .u8 r, .int .u8 o] 120 (0, 0)) ∧ (sw w b c N T G n k cl r o).heap[w.heap.size + 2]? = some (.cells #[.slice none 0 0, .int .i64 0, .int .i64 0, .int .i64 0] 39 (0, 0)) := by
  have z1 := World.size_alloc w (.cells #[.slice (some ⟨b, 0, none⟩) N c, .int .i64 T, .int .i64 G, .int .i64 n] 39)
  have z2 := World.size_alloc (w.alloc (.cells #[.slice (some ⟨b, 0, none⟩) N c, .int .i64 T, .int .i64 G, .int .i64 n] 39)) (.cells #[.int .u8 k, .int .u8 cl, .int .u8 r, .int .u8 o] 120)
  refine ⟨?_, ?_, ?_⟩
  · exact (((Kp.refl [] _).alloc _).alloc _).row (by simp) (heap_alloc_new w _)
  · exact ((Kp.refl [] _).alloc _).row (by simp) (by rw [← z1]; exact heap_alloc_new _ _)
  · rw [show w.heap.size + 2 = w.heap.size + 1 + 1 from rfl, ← z1, ← z2]; exact heap_alloc_new _ _

set_option maxHeartbeats 4000000 in
theorem d_setEntry (h : Dh Bz T G n b c H w) (i : Nat) (hi : i < n) (k cl r o : Int) (k0 : 0 ≤ k) (c0 : 0 ≤ cl) (r0 : 0 ≤ r) (o0 : 0 ≤ o) (hm : Tb.mayE k cl r o = true) :
    Calls Tryz.prog 94 #[hV b c H.length T G n, .int .i64 i, .agg #[.int .u8 k, .int .u8 cl, .int .u8 r, .int .u8 o]] w fun e w' => ∃ b' c', e = .returned (hV b' c' H.length T G n) ∧ Dh Bz T G n b' c' (H.set (3 + T + G + i) (Tb.wordE k cl r o)) w' ∧ Kp [] w w' := by
  have hmi := Tb.mayE_iff.1 hm
  have hw := Tb.wordE_lt k0 c0 r0 o0 hm
  have HEn := Lib.hid (fun w => Ly.rentry_is T G n i ((3 + T + G + i : Nat) : Int) w (by rw [Ly.rowP_in (by omega) (by omega)]; omega) (by omega) (by have := h.hT; omega) (by omega) (by have := h.hG; omega) (by omega) (by have := h.hn; omega))
  have HWd := Lib.hid (fun w => Tb.rword_is k cl r o w k0 c0 r0 o0 (by omega) (by omega) (by omega) (by omega))
  have HWt := Lib.hid (fun (w' : World) (kk : Kp [] w w') => (h.on kk).with (k := 3 + T + G + i) (by have := h.len; omega) hw.1 (by omega))
  have HK0 := Lib.hid (sw_kp w b c H.length T G n k cl r o)
  have HR0 := Lib.hid (sw_rows w b c H.length T G n k cl r o)
  generalize 3 + T + G + i = P at HEn HWt ⊢
  generalize H.length = N at HWt HK0 HR0 ⊢
  obtain ⟨W0, hW0⟩ : ∃ W0, W0 = sw w b c N T G n k cl r o := ⟨_, rfl⟩
  rw [← hW0] at HK0 HR0
  unfold sw at hW0
  clear h hi hm hmi hw k0 c0 r0 o0
  generalize Tb.wordE k cl r o = x at HWd HWt ⊢
  have HS0 : Hid (Hs4 w.heap.size b c N T G n W0) := Lib.hid ⟨cell_of_row HR0.out.1 0, cell_of_row HR0.out.1 1, cell_of_row HR0.out.1 2, cell_of_row HR0.out.1 3⟩
  have HW0 := Lib.hid hW0
  clear hW0
  go_enter Tryz.func94, Tryz.ntmps94
  go_upto_region 1 with (fail)
  rw [← HW0.out]
  have HS8 : Hid (Hs8 w.heap.size (w.heap.size + 1) b c N T G n k cl r o W0) := Lib.hid ⟨HS0.out.1, HS0.out.2.1, HS0.out.2.2.1, HS0.out.2.2.2, cell_of_row HR0.out.2.1 0, cell_of_row HR0.out.2.1 1, cell_of_row HR0.out.2.1 2, cell_of_row HR0.out.2.1 3⟩
  go_region_held3 (fun wx => wx.cell? ⟨w.heap.size, 0, none⟩ = some (.slice (some ⟨b, 0, none⟩) N c) ∧ wx.cell? ⟨w.heap.size, 1, none⟩ = some (.int .i64 T) ∧ wx.cell? ⟨w.heap.size, 2, none⟩ = some (.int .i64 G) ∧ wx.cell? ⟨w.heap.size, 3, none⟩ = some (.int .i64 n) ∧ wx.cell? ⟨w.heap.size + 1, 0, none⟩ = some (.int .u8 k) ∧ wx.cell? ⟨w.heap.size + 1, 1, none⟩ = some (.int .u8 cl) ∧ wx.cell? ⟨w.heap.size + 1, 2, none⟩ = some (.int .u8 r) ∧ wx.cell? ⟨w.heap.size + 1, 3, none⟩ = some (.int .u8 o))
    (first
      | assumption
      | exact Hs8.keep HS8.out ((Kp.refl [] _).drew) (by simp) (by simp)
      | exact Hs8.keep ‹Hs8 w.heap.size (w.heap.size + 1) b c N T G n k cl r o _› hk9 (by simp) (by simp)
      | exact Hs8.keep (HS8.out.keep K7.out (by simp) (by simp)) (put4v_kp _ _ _ _ _ _) (by simp; omega) (by simp))
    (first
    | (go_at_call 91
       refine (HEn.out _).mono ?_
       rintro e w5 ⟨rfl, hk9⟩
       have K5 : Hid (Kp [] W0 w5) := Lib.hid (by refine Kp.trans ?_ hk9; exact ⟨rfl, rfl, rfl, Nat.le_refl _, fun _ _ _ => rfl⟩))
    | (go_at_call 133
       refine (HWd.out _).mono ?_
       rintro e w6 ⟨rfl, hk9⟩
       have K6 : Hid (Kp [] W0 w6) := Lib.hid (K5.out.trans (by refine Kp.trans ?_ hk9; exact ⟨rfl, rfl, rfl, Nat.le_refl _, fun _ _ _ => rfl⟩)))
    | (go_at_call 56
       refine (HWt.out _ ?_).mono ?_
       · exact HK0.out.trans (K6.out.trans ⟨rfl, rfl, rfl, Nat.le_refl _, fun _ _ _ => rfl⟩)
       rintro e w7 ⟨b', c', rfl, hd, hk9⟩
       have K7 : Hid (Kp [] W0 w7) := Lib.hid (K6.out.trans (by refine Kp.trans ?_ hk9; exact ⟨rfl, rfl, rfl, Nat.le_refl _, fun _ _ _ => rfl⟩))
       have hr7 := K7.out.row (by simp) HR0.out.2.2
       have e0 := (cell_of_row hr7 0).trans (show _ = some (.slice none 0 0) from rfl)
       have e1 := (cell_of_row hr7 1).trans (show _ = some (.int .i64 0) from rfl)
       have e2 := (cell_of_row hr7 2).trans (show _ = some (.int .i64 0) from rfl)
       have e3 := (cell_of_row hr7 3).trans (show _ = some (.int .i64 0) from rfl)
       have g0 := free_of_row hr7 0
       have g1 := free_of_row hr7 1
       have g2 := free_of_row hr7 2
       have g3 := free_of_row hr7 3
       have HR7 := Lib.hid hr7
       have HD := Lib.hid hd
       clear hr7 hd))
  all_goals
    rename_i hHeld
    clear hHeld
    go_wp2_with fail
    refine bodyPost_row rfl (w.heap.size + 1 + 1) 39 #[.slice (some ⟨b', 0, none⟩) N c', .int .i64 T, .int .i64 G, .int .i64 n] (0, 0) _ rfl rfl (put4v_row _ _ _ _ HR7.out) Tryz.underlying39 rfl (by kernel_rfl) ⟨b', c', rfl, HD.out.box HR7.out, kp_new_set (HK0.out.trans K7.out) (put4v_kp _ _ _ _ _ _) (by omega)⟩
end

end Go.Proofs.YtdbbkncjhnafdaaGreatDoor

namespace Go.Proofs.YtdbbkncjhnafdaaGreatDoor
set_option linter.unusedVariables false
set_option linter.unusedSimpArgs false
set_option maxRecDepth 100000
open Go.RowKit
variable {Bz : Nat}

/-- Claim's boxes: the heap's, the answer's. -/
def clw (w : World) (b c N T G n : Nat) : World := (w.alloc (.cells #[.slice (some ⟨b, 0, none⟩) N c, .int .i64 T, .int .i64 G, .int .i64 n] 39)).alloc (.cells #[.slice none 0 0, .int .i64 0, .int .i64 0, .int .i64 0] 39)
theorem clw_kp (w : World) (b c N T G n : Nat) : Kp [] w (clw w b c N T G n) := ((Kp.refl _ _).alloc _).alloc _
theorem clw_rows (w : World) (b c N T G n : Nat) : (clw w b c N T G n).heap[w.heap.size]? = some (.cells #[.slice (some ⟨b, 0, none⟩) N c, .int .i64 T, .int .i64 G, .int .i64 n] 39 (0, 0)) ∧ (clw w b c N T G n).heap[w.heap.size + 1]? = some (.cells #[.slice none 0 0, .int .i64 0, .int .i64 0, .int .i64 0] 39 (0, 0)) := by
  have z1 := World.size_alloc w (.cells #[.slice (some ⟨b, 0, none⟩) N c, .int .i64 T, .int .i64 G, .int .i64 n] 39)
  exact ⟨((Kp.refl [] _).alloc _).row (by simp) (heap_alloc_new w _), by rw [← z1]; exact heap_alloc_new _ _⟩

/-- The heap's box, and its first word. -/
def Hs5 (a b c N T G n M : Nat) (wx : World) : Prop :=
  wx.cell? ⟨a, 0, none⟩ = some (.slice (some ⟨b, 0, none⟩) N c) ∧ wx.cell? ⟨a, 1, none⟩ = some (.int .i64 T) ∧ wx.cell? ⟨a, 2, none⟩ = some (.int .i64 G) ∧ wx.cell? ⟨a, 3, none⟩ = some (.int .i64 n) ∧ wx.cell? ⟨b, 0, none⟩ = some (.int .u64 M)
theorem Hs5.keep {a b c N T G n M : Nat} {S : List Nat} {w w' : World} (h : Hs5 a b c N T G n M w) (k : Kp S w w') (ha : a ∉ S) (hb : b ∉ S) : Hs5 a b c N T G n M w' := by
  obtain ⟨h0, h1, h2, h3, h4⟩ := h
  exact ⟨kp_cell k ha h0, kp_cell k ha h1, kp_cell k ha h2, kp_cell k ha h3, kp_cell k hb h4⟩

section
variable {T G n b c : Nat} {H : List Int} {w w' : World}
theorem find_first (M run : Nat) : (∀ k : Nat, Bm.isR M k run true = true → (∀ j : Nat, j < k → Bm.isR M j run true = false) → (match frst M run with | none => (-1 : Int) | some k => (k : Int)) = (k : Int)) ∧ ((∀ j : Nat, j < 64 → Bm.isR M j run true = false) → (match frst M run with | none => (-1 : Int) | some k => (k : Int)) = -1) := by
  rcases first_or_none M run with ⟨k, hk, hf⟩ | hno
  · have hfr : frst M run = some k := by
      unfold frst
      rw [List.find?_range_eq_some]
      exact ⟨hf.1, by simpa using hk, fun j hj => by simp [hf.2 j hj]⟩
    rw [hfr]
    refine ⟨fun k' h1 h2 => ?_, fun h => ?_⟩
    · rcases Nat.lt_trichotomy k k' with hl | hl | hl
      · have := h2 k hl; rw [hf.1] at this; simp at this
      · simp [hl]
      · have := hf.2 k' hl; rw [h1] at this; simp at this
    · have := h k hk; rw [hf.1] at this; simp at this
  · have hfr : frst M run = none := by
      unfold frst
      rw [List.find?_range_eq_none]
      intro j _
      simp [hno j]
    rw [hfr]
    exact ⟨fun k' h1 _ => by have := hno k'; rw [h1] at this; simp at this, fun _ => rfl⟩

/-- No run. -/
theorem d_claim_no (h : Dh Bz T G n b c H w) (run : Nat) (hf : frst (H.getD 0 0).toNat run = none) :
    Calls Tryz.prog 104 #[hV b c H.length T G n, .int .i64 run] w fun e w' => e = .returned (.tuple #[hV b c H.length T G n, .int .i64 (-1)]) ∧ Kp [] w w' := by
  have hx0 := h.ok 0
  obtain ⟨M, hM⟩ := Int.eq_ofNat_of_zero_le hx0.1
  have hft := find_first M run
  have hM' : (H.getD 0 0).toNat = M := by rw [hM]; rfl
  rw [hM'] at hf
  rw [hf] at hft
  have HFi := Lib.hid (fun w => Bm.rfind_is M run (-1) w (by omega) hft.1 hft.2)
  have hl0 : 0 < H.length := by have := h.len; omega
  have c5 : (clw w b c H.length T G n).cell? ⟨b, 0, none⟩ = some (.int .u64 M) := by rw [(h.on (clw_kp w b c H.length T G n)).cell hl0, hM]
  have HK0 := Lib.hid (clw_kp w b c H.length T G n)
  have HR0 := Lib.hid (clw_rows w b c H.length T G n)
  generalize H.length = N at HK0 HR0 c5 hl0 ⊢
  have C5 := Lib.hid c5
  clear h hf hft hx0 hM hM' c5
  unfold clw at C5
  go_enter Tryz.func104, Tryz.ntmps104
  have c5 := C5.out
  go_wp2_with fail
  refine (HFi.out _).mono ?_
  rintro e w1 ⟨rfl, hk1⟩
  have K1 : Hid (Kp [] (clw w b c N T G n) w1) := Lib.hid hk1
  have hr := K1.out.row (by simp) HR0.out.1
  have hs := K1.out.row (by simp) HR0.out.2
  have d0 := (cell_of_row hr 0).trans (show _ = some (.slice (some ⟨b, 0, none⟩) N c) from rfl)
  have d1 := (cell_of_row hr 1).trans (show _ = some (.int .i64 T) from rfl)
  have d2 := (cell_of_row hr 2).trans (show _ = some (.int .i64 G) from rfl)
  have d3 := (cell_of_row hr 3).trans (show _ = some (.int .i64 n) from rfl)
  have e0 := (cell_of_row hs 0).trans (show _ = some (.slice none 0 0) from rfl)
  have e1 := (cell_of_row hs 1).trans (show _ = some (.int .i64 0) from rfl)
  have e2 := (cell_of_row hs 2).trans (show _ = some (.int .i64 0) from rfl)
  have e3 := (cell_of_row hs 3).trans (show _ = some (.int .i64 0) from rfl)
  have g0 := free_of_row hs 0
  have g1 := free_of_row hs 1
  have g2 := free_of_row hs 2
  have g3 := free_of_row hs 3
  have HS := Lib.hid hs
  clear hk1 hr hs c5 C5
  go_wp2_with fail
  exact bodyPost_row_tmp rfl (w.heap.size + 1) 39 #[.slice (some ⟨b, 0, none⟩) N c, .int .i64 T, .int .i64 G, .int .i64 n] (0, 0) _ (.int .i64 (-1)) rfl rfl rfl (put4v_row _ _ _ _ HS.out) Tryz.underlying39 rfl (by kernel_rfl) ⟨rfl, kp_new_set (HK0.out.trans K1.out) (put4v_kp _ _ _ _ _ _) (by omega)⟩

set_option maxHeartbeats 2000000 in
/-- A run: it is not free any more. -/
theorem d_claim_yes (h : Dh Bz T G n b c H w) (run k : Nat) (hr : 1 ≤ run ∧ run ≤ 3) (hf : frst (H.getD 0 0).toNat run = some k) :
    Calls Tryz.prog 104 #[hV b c H.length T G n, .int .i64 run] w fun e w' => ∃ b' c', e = .returned (.tuple #[hV b' c' H.length T G n, .int .i64 k]) ∧ Dh Bz T G n b' c' (H.set 0 (Bm.setN (H.getD 0 0).toNat k run false : Int)) w' ∧ Kp [] w w' := by
  have hx0 := h.ok 0
  obtain ⟨M, hM⟩ := Int.eq_ofNat_of_zero_le hx0.1
  have hft := find_first M run
  have hM' : (H.getD 0 0).toNat = M := by rw [hM]; rfl
  rw [hM'] at hf ⊢
  rw [hf] at hft
  have hk3 : k + run ≤ 64 := by
    unfold frst at hf
    have h1 := List.find?_some hf
    simp only [Bm.isR, Bool.and_eq_true, decide_eq_true_eq] at h1
    omega
  have HFi := Lib.hid (fun w => Bm.rfind_is M run k w (by omega) hft.1 hft.2)
  have HBw := Lib.hid (fun w => Bm.rwith_is M k run (Bm.setN M k run false) false w (by omega) hr.1 hr.2 hk3 rfl)
  have hl0 : 0 < H.length := by have := h.len; omega
  have hsl := Bm.setN_lt M k run false
  have HWt := Lib.hid (fun (w' : World) (kk : Kp [] w w') => (h.on kk).with (k := 0) hl0 (x := (Bm.setN M k run false : Int)) (by omega) (by omega))
  have HBz : Hid (b < w.heap.size) := Lib.hid (World.block_lt_of_cell? _ _ (h.cell hl0))
  have HC5 : Hid (∀ w', Kp [] w w' → w'.cell? ⟨b, 0, none⟩ = some (.int .u64 M)) := Lib.hid fun w' kk => by rw [(h.on kk).cell hl0, hM]
  have HK0 := Lib.hid (clw_kp w b c H.length T G n)
  have HR0 := Lib.hid (clw_rows w b c H.length T G n)
  have hk64 : k ≤ 64 := by omega
  generalize H.length = N at HK0 HR0 HWt hl0 ⊢
  have c5 := HC5.out _ HK0.out
  generalize Bm.setN M k run false = M2 at HBw HWt ⊢
  clear h hf hft hx0 hM hM' hk3 hr hsl
  have C5 := Lib.hid c5
  unfold clw at C5
  clear c5
  go_enter Tryz.func104, Tryz.ntmps104
  have c5 := C5.out
  go_wp2_with fail
  refine (HFi.out _).mono ?_
  rintro e w1 ⟨rfl, hk1⟩
  have K1 : Hid (Kp [] (clw w b c N T G n) w1) := Lib.hid hk1
  have hr := K1.out.row (by simp) HR0.out.1
  have c6 := HC5.out _ (HK0.out.trans K1.out)
  have HS0 : Hid (Hs5 w.heap.size b c N T G n M w1) := Lib.hid ⟨cell_of_row hr 0, cell_of_row hr 1, cell_of_row hr 2, cell_of_row hr 3, c6⟩
  clear hk1 hr c5 C5
  go_wp2_with fail
  go_region_held3 (fun wx => wx.cell? ⟨w.heap.size, 0, none⟩ = some (.slice (some ⟨b, 0, none⟩) N c) ∧ wx.cell? ⟨w.heap.size, 1, none⟩ = some (.int .i64 T) ∧ wx.cell? ⟨w.heap.size, 2, none⟩ = some (.int .i64 G) ∧ wx.cell? ⟨w.heap.size, 3, none⟩ = some (.int .i64 n) ∧ wx.cell? ⟨b, 0, none⟩ = some (.int .u64 M))
    (first
      | assumption
      | exact Hs5.keep HS0.out ((Kp.refl [] _).drew) (by simp) (by simp)
      | exact Hs5.keep ‹Hs5 w.heap.size b c N T G n M _› hk9 (by simp) (by simp)
      | exact Hs5.keep (HS0.out.keep K7.out (by simp) (by simp)) (put4v_kp _ _ _ _ _ _) (by simp) (by have := HBz.out; simp; omega))
    (first
    | (go_at_call 137
       refine (HBw.out _).mono ?_
       rintro e w6 ⟨rfl, hk9⟩
       have K6 : Hid (Kp [] w1 w6) := Lib.hid (by refine Kp.trans ?_ hk9; exact ⟨rfl, rfl, rfl, Nat.le_refl _, fun _ _ _ => rfl⟩))
    | (go_at_call 56
       refine (HWt.out _ ?_).mono ?_
       · exact HK0.out.trans (K1.out.trans (K6.out.trans ⟨rfl, rfl, rfl, Nat.le_refl _, fun _ _ _ => rfl⟩))
       rintro e w7 ⟨b', c', rfl, hd, hk9⟩
       have K7 : Hid (Kp [] w1 w7) := Lib.hid (K6.out.trans (by refine Kp.trans ?_ hk9; exact ⟨rfl, rfl, rfl, Nat.le_refl _, fun _ _ _ => rfl⟩))
       have hr7 := (K1.out.trans K7.out).row (by simp) HR0.out.2
       have e0 := (cell_of_row hr7 0).trans (show _ = some (.slice none 0 0) from rfl)
       have e1 := (cell_of_row hr7 1).trans (show _ = some (.int .i64 0) from rfl)
       have e2 := (cell_of_row hr7 2).trans (show _ = some (.int .i64 0) from rfl)
       have e3 := (cell_of_row hr7 3).trans (show _ = some (.int .i64 0) from rfl)
       have g0 := free_of_row hr7 0
       have g1 := free_of_row hr7 1
       have g2 := free_of_row hr7 2
       have g3 := free_of_row hr7 3
       have HR7 := Lib.hid hr7
       have HD := Lib.hid hd
       clear hr7 hd))
  all_goals
    rename_i hHeld
    clear hHeld
    go_wp2_with fail
    exact bodyPost_row_tmp rfl (w.heap.size + 1) 39 #[.slice (some ⟨b', 0, none⟩) N c', .int .i64 T, .int .i64 G, .int .i64 n] (0, 0) _ (.int .i64 k) rfl rfl rfl (put4v_row _ _ _ _ HR7.out) Tryz.underlying39 rfl (by kernel_rfl) ⟨b', c', rfl, HD.out.box HR7.out, kp_new_set (HK0.out.trans (K1.out.trans K7.out)) (put4v_kp _ _ _ _ _ _) (by omega)⟩
end

end Go.Proofs.YtdbbkncjhnafdaaGreatDoor

namespace Go.Proofs.YtdbbkncjhnafdaaGreatDoor
set_option linter.unusedVariables false
set_option linter.unusedSimpArgs false
set_option maxRecDepth 100000
open Go.RowKit
variable {Bz : Nat}

section
variable {T G n b c : Nat} {H : List Int} {w w' : World}
set_option maxHeartbeats 4000000 in
theorem d_back (h : Dh Bz T G n b c H w) (bl run : Nat) (hr : 1 ≤ run ∧ run ≤ 3) (hb : bl + run ≤ n) :
    Calls Tryz.prog 96 #[hV b c H.length T G n, .int .i64 bl, .int .i64 run] w fun e w' => ∃ b' c', e = .returned (hV b' c' H.length T G n) ∧ Dh Bz T G n b' c' (backH T G n H bl run) w' ∧ Kp [] w w' := by
  have HEn := Lib.hid (fun (j : Nat) (w : World) (hj : j < n) => Ly.rentry_is T G n j ((3 + T + G + j : Nat) : Int) w (by rw [Ly.rowP_in (by omega) (by omega)]; omega) (by omega) (by have := h.hT; omega) (by omega) (by have := h.hG; omega) (by omega) (by have := h.hn; omega))
  have HWt : Hid (∀ (i b' c' : Nat) (w' : World), i < run → Dh Bz T G n b' c' (zer H (3 + T + G + bl) i) w' → Calls Tryz.prog 56 #[hV b' c' H.length T G n, .int .i64 ((3 + T + G + (bl + i) : Nat) : Int), .int .u64 0] w' fun e w2 => ∃ b2 c2, e = .returned (hV b2 c2 H.length T G n) ∧ Dh Bz T G n b2 c2 (zer H (3 + T + G + bl) (i + 1)) w2 ∧ Kp [] w' w2) := by
    refine Lib.hid fun i b' c' w' hi hd => ?_
    have hl := hd.len
    have := hd.with (k := 3 + T + G + (bl + i)) (by omega) (x := 0) (by decide) (by decide)
    rw [zer_len] at this
    have hz := zer_up H (3 + T + G + bl) i
    rw [show 3 + T + G + bl + i = 3 + T + G + (bl + i) from by omega] at hz
    rw [hz] at this
    exact this
  have HK0 := Lib.hid (clw_kp w b c H.length T G n)
  have HR0 := Lib.hid (clw_rows w b c H.length T G n)
  have hn64 := h.hn
  have HA : Hid (∃ b' c', (clw w b c H.length T G n).heap[w.heap.size]? = some (.cells #[.slice (some ⟨b', 0, none⟩) H.length c', .int .i64 T, .int .i64 G, .int .i64 n] 39 (0, 0)) ∧ Dh Bz T G n b' c' (zer H (3 + T + G + bl) 0) (clw w b c H.length T G n) ∧ Kp [] w (clw w b c H.length T G n) ∧ (clw w b c H.length T G n).heap[w.heap.size + 1]? = some (.cells #[.slice none 0 0, .int .i64 0, .int .i64 0, .int .i64 0] 39 (0, 0))) :=
    Lib.hid ⟨b, c, HR0.out.1, by rw [zer_none]; exact h.on HK0.out, HK0.out, HR0.out.2⟩
  have HD := Lib.hid h
  generalize hN : H.length = N at HWt HK0 HR0 HA ⊢
  have HN := Lib.hid hN
  have HBl := Lib.hid hb
  have hr3 := hr.2
  have hr1 := hr.1
  unfold clw at HA
  clear h hN hr HK0 HR0
  go_enter Tryz.func96, Tryz.ntmps96
  go_wp2_with fail
  go_loopg [7] run (fun gg v7 wr => ∃ i : Nat, i + gg = run ∧ v7 = .int .i64 i ∧ Hid (∃ b' c', wr.heap[w.heap.size]? = some (.cells #[.slice (some ⟨b', 0, none⟩) N c', .int .i64 T, .int .i64 G, .int .i64 n] 39 (0, 0)) ∧ Dh Bz T G n b' c' (zer H (3 + T + G + bl) i) wr ∧ Kp [] w wr ∧ wr.heap[w.heap.size + 1]? = some (.cells #[.slice none 0 0, .int .i64 0, .int .i64 0, .int .i64 0] 39 (0, 0))))
  case atStart => exact ⟨0, by omega, rfl, HA⟩
  case round =>
    obtain ⟨i, hi, rfl, HR⟩ := hrel
    obtain ⟨b1, c1, hrow, hd, hkk, hres⟩ := HR.out
    by_cases hlt : i < run
    · obtain ⟨j, hj⟩ : ∃ j, j = bl + i := ⟨_, rfl⟩
      have e1 : (bl : Int) + i = (j : Int) := by omega
      have e2 := IntWalk.i64_in (j : Int) (by omega)
      have HEj := Lib.hid (fun w => HEn.out j w (by omega))
      have HWj := Lib.hid (fun w' kk => HWt.out i b1 c1 w' hlt (hd.on kk))
      rw [← hj] at HWj
      generalize 3 + T + G + j = P at HEj HWj
      have F := Lib.hid (And.intro hrow (And.intro hkk hres))
      have a0 := (cell_of_row hrow 0).trans (show _ = some (.slice (some ⟨b1, 0, none⟩) N c1) from rfl)
      have a1 := (cell_of_row hrow 1).trans (show _ = some (.int .i64 T) from rfl)
      have a2 := (cell_of_row hrow 2).trans (show _ = some (.int .i64 G) from rfl)
      have a3 := (cell_of_row hrow 3).trans (show _ = some (.int .i64 n) from rfl)
      clear hj hrow hd hkk hres
      go_upto_region 4 with (fail)
      go_region_with (first
        | (go_at_call 91
           refine (HEj.out _).mono ?_
           rintro e w5 ⟨rfl, hk9⟩
           have K5 : Hid (Kp [] wr w5) := Lib.hid (by refine Kp.trans ?_ hk9; exact ⟨rfl, rfl, rfl, Nat.le_refl _, fun _ _ _ => rfl⟩)
           have hr5 := K5.out.row (by simp) F.out.1
           have q0 := (cell_of_row hr5 0).trans (show _ = some (.slice (some ⟨b1, 0, none⟩) N c1) from rfl)
           have q1 := (cell_of_row hr5 1).trans (show _ = some (.int .i64 T) from rfl)
           have q2 := (cell_of_row hr5 2).trans (show _ = some (.int .i64 G) from rfl)
           have q3 := (cell_of_row hr5 3).trans (show _ = some (.int .i64 n) from rfl)
           clear hk9 hr5)
        | (go_at_call 56
           refine (HWj.out _ ?_).mono ?_
           · exact K5.out.trans ⟨rfl, rfl, rfl, Nat.le_refl _, fun _ _ _ => rfl⟩
           rintro e w7 ⟨b2, c2, rfl, hd7, hk9⟩
           have K7 : Hid (Kp [] wr w7) := Lib.hid (K5.out.trans (by refine Kp.trans ?_ hk9; exact ⟨rfl, rfl, rfl, Nat.le_refl _, fun _ _ _ => rfl⟩))
           have hr7 := K7.out.row (by simp) F.out.1
           have s0 := (cell_of_row hr7 0).trans (show _ = some (.slice (some ⟨b1, 0, none⟩) N c1) from rfl)
           have s1 := (cell_of_row hr7 1).trans (show _ = some (.int .i64 T) from rfl)
           have s2 := (cell_of_row hr7 2).trans (show _ = some (.int .i64 G) from rfl)
           have s3 := (cell_of_row hr7 3).trans (show _ = some (.int .i64 n) from rfl)
           have g0 := free_of_row hr7 0
           have g1 := free_of_row hr7 1
           have g2 := free_of_row hr7 2
           have g3 := free_of_row hr7 3
           have HR7 := Lib.hid hr7
           have HD7 := Lib.hid hd7
           clear hk9 hr7 hd7))
      all_goals
        clear a0 a1 a2 a3
        have k9 := put4v_kp w7 w.heap.size (.slice (some ⟨b2, 0, none⟩) N c2) (.int .i64 T) (.int .i64 G) (.int .i64 n)
        have r9 := put4v_row (.slice (some ⟨b2, 0, none⟩) N c2) (.int .i64 T) (.int .i64 G) (.int .i64 n) HR7.out
        have s9 := k9.row (by simp) (K7.out.row (by simp) F.out.2.2)
        have kk9 := kp_new_set (F.out.2.1.trans K7.out) k9 (Nat.le_refl _)
        have d9 := HD7.out.box (v0 := .slice (some ⟨b2, 0, none⟩) N c2) (v1 := .int .i64 T) (v2 := .int .i64 G) (v3 := .int .i64 n) HR7.out
        have HC := Lib.hid (And.intro r9 (And.intro d9 (And.intro kk9 s9)))
        clear k9 r9 s9 d9 kk9
        go_wp2_with fail
        go_roundg (run - (i + 1))
        case rel =>
          first
            | exact ⟨i + 1, by omega, by go_num, Lib.hid ⟨b2, c2, HC.out.1, HC.out.2.1, HC.out.2.2.1, HC.out.2.2.2⟩⟩
            | exact ⟨i + 1, by omega, by go_num, Lib.hid ⟨b2, c2, HC.out.1, HC.out.2.1.on ((Kp.refl [] _).drew), HC.out.2.2.1.drew, HC.out.2.2.2⟩⟩
        case measure => omega
    · obtain rfl : i = run := by omega
      have hx0 := HD.out.ok 0
      obtain ⟨M, hM⟩ := Int.eq_ofNat_of_zero_le hx0.1
      have hMz : (zer H (3 + T + G + bl) i).getD 0 0 = (M : Int) := by rw [zer_get, if_neg (by omega), hM]
      have hl0 : 0 < (zer H (3 + T + G + bl) i).length := by rw [zer_len, HN.out]; have := HD.out.len; have := HN.out; omega
      have c5 : wr.cell? ⟨b1, 0, none⟩ = some (.int .u64 M) := by rw [hd.cell hl0, hMz]
      obtain ⟨q, hq⟩ : ∃ q, Bm.isR M bl i false = q := ⟨_, rfl⟩
      have HIs := Lib.hid (fun w => Bm.ris_is M bl i false q w (by omega) hq)
      have HMt : Hid ((H.getD 0 0).toNat = M) := Lib.hid (by rw [hM]; rfl)
      have HBk0 : Hid (backH T G n H bl i = (zer H (3 + T + G + bl) i).set 0 (giveM M bl i : Int)) := Lib.hid (by unfold backH; rw [if_pos (runG_iff.2 (by have := HBl.out; omega)), HMt.out]; rfl)
      have F := Lib.hid (And.intro hrow (And.intro hd (And.intro hkk hres)))
      have hln : (zer H (3 + T + G + bl) i).length = N := by rw [zer_len, HN.out]
      have hbn := HBl.out
      have hN0 : 0 < N := by omega
      cases q
      · have HBk : Hid (backH T G n H bl i = zer H (3 + T + G + bl) i) := Lib.hid (by
          rw [HBk0.out]; unfold giveM; rw [if_neg (by rw [hq]; simp), ← hMz, set_same'])
        have a0 := (cell_of_row hrow 0).trans (show _ = some (.slice (some ⟨b1, 0, none⟩) N c1) from rfl)
        have a1 := (cell_of_row hrow 1).trans (show _ = some (.int .i64 T) from rfl)
        have a2 := (cell_of_row hrow 2).trans (show _ = some (.int .i64 G) from rfl)
        have a3 := (cell_of_row hrow 3).trans (show _ = some (.int .i64 n) from rfl)
        clear hx0 hM hMz hl0 hq hrow hd hkk hres hln hbn HBk0
        go_wp2_with fail
        refine (HIs.out _).mono ?_
        rintro e w1 ⟨rfl, hk1⟩
        have K1 := Lib.hid hk1
        have hro1 := hk1.row (by simp) F.out.1
        have hs1 := hk1.row (by simp) F.out.2.2.2
        have d0 := (cell_of_row hro1 0).trans (show _ = some (.slice (some ⟨b1, 0, none⟩) N c1) from rfl)
        have d1 := (cell_of_row hro1 1).trans (show _ = some (.int .i64 T) from rfl)
        have d2 := (cell_of_row hro1 2).trans (show _ = some (.int .i64 G) from rfl)
        have d3 := (cell_of_row hro1 3).trans (show _ = some (.int .i64 n) from rfl)
        have z0 := (cell_of_row hs1 0).trans (show _ = some (.slice none 0 0) from rfl)
        have z1 := (cell_of_row hs1 1).trans (show _ = some (.int .i64 0) from rfl)
        have z2 := (cell_of_row hs1 2).trans (show _ = some (.int .i64 0) from rfl)
        have z3 := (cell_of_row hs1 3).trans (show _ = some (.int .i64 0) from rfl)
        have y0 := free_of_row hs1 0
        have y1 := free_of_row hs1 1
        have y2 := free_of_row hs1 2
        have y3 := free_of_row hs1 3
        have HS1 := Lib.hid hs1
        clear hk1 hro1 hs1 a0 a1 a2 a3 c5
        go_wp2_with fail
        exact bodyPost_row rfl (w.heap.size + 1) 39 #[.slice (some ⟨b1, 0, none⟩) N c1, .int .i64 T, .int .i64 G, .int .i64 n] (0, 0) _ rfl rfl (put4v_row _ _ _ _ HS1.out) Tryz.underlying39 rfl (by kernel_rfl) ⟨b1, c1, rfl, by rw [HBk.out]; exact (F.out.2.1.on K1.out).box HS1.out, kp_new_set (F.out.2.2.1.trans K1.out) (put4v_kp _ _ _ _ _ _) (by omega)⟩
      · have HBk : Hid (backH T G n H bl i = (zer H (3 + T + G + bl) i).set 0 (Bm.setN M bl i true : Int)) := Lib.hid (by
          rw [HBk0.out]; unfold giveM; rw [if_pos hq])
        have hsl := Bm.setN_lt M bl i true
        have HBw := Lib.hid (fun w => Bm.rwith_is M bl i (Bm.setN M bl i true) true w (by omega) (by omega) (by omega) (by omega) rfl)
        have HWt2 : Hid (∀ w', Kp [] wr w' → Calls Tryz.prog 56 #[hV b1 c1 N T G n, .int .i64 0, .int .u64 (Bm.setN M bl i true : Int)] w' fun e w2 => ∃ b2 c2, e = .returned (hV b2 c2 N T G n) ∧ Dh Bz T G n b2 c2 ((zer H (3 + T + G + bl) i).set 0 (Bm.setN M bl i true : Int)) w2 ∧ Kp [] w' w2) := by
          refine Lib.hid fun w' kk => ?_
          have := (F.out.2.1.on kk).with (k := 0) hl0 (x := (Bm.setN M bl i true : Int)) (by omega) (by omega)
          rw [hln] at this
          exact this
        have HC5 : Hid (∀ w', Kp [] wr w' → w'.cell? ⟨b1, 0, none⟩ = some (.int .u64 M)) := Lib.hid fun w' kk => by rw [(F.out.2.1.on kk).cell hl0, hMz]
        have HB1 : Hid (b1 ≠ w.heap.size) := Lib.hid (fun e => by
          have h1 := (F.out.2.1.ww.heap hl0).2
          obtain ⟨cur, hc, _⟩ := h1
          rw [e, F.out.1] at hc
          simp at hc)
        generalize Bm.setN M bl i true = M2 at HBw HWt2 HBk
        have a0 := (cell_of_row hrow 0).trans (show _ = some (.slice (some ⟨b1, 0, none⟩) N c1) from rfl)
        have a1 := (cell_of_row hrow 1).trans (show _ = some (.int .i64 T) from rfl)
        have a2 := (cell_of_row hrow 2).trans (show _ = some (.int .i64 G) from rfl)
        have a3 := (cell_of_row hrow 3).trans (show _ = some (.int .i64 n) from rfl)
        clear hx0 hM hMz hl0 hq hrow hd hkk hres hln hbn HBk0 hsl
        go_wp2_with fail
        refine (HIs.out _).mono ?_
        rintro e w1 ⟨rfl, hk1⟩
        have K1 := Lib.hid hk1
        have hro1 := hk1.row (by simp) F.out.1
        have c6 := HC5.out _ K1.out
        have d0 := (cell_of_row hro1 0).trans (show _ = some (.slice (some ⟨b1, 0, none⟩) N c1) from rfl)
        have d1 := (cell_of_row hro1 1).trans (show _ = some (.int .i64 T) from rfl)
        have d2 := (cell_of_row hro1 2).trans (show _ = some (.int .i64 G) from rfl)
        have d3 := (cell_of_row hro1 3).trans (show _ = some (.int .i64 n) from rfl)
        have HRo1 := Lib.hid hro1
        clear hk1 hro1 a0 a1 a2 a3 c5
        go_upto_region 6 with (fail)
        go_region_with (first
          | (go_at_call 137
             refine (HBw.out _).mono ?_
             rintro e w6 ⟨rfl, hk9⟩
             have K6 : Hid (Kp [] w1 w6) := Lib.hid (by refine Kp.trans ?_ hk9; exact ⟨rfl, rfl, rfl, Nat.le_refl _, fun _ _ _ => rfl⟩)
             have hr6 := K6.out.row (by simp) HRo1.out
             have q0 := (cell_of_row hr6 0).trans (show _ = some (.slice (some ⟨b1, 0, none⟩) N c1) from rfl)
             have q1 := (cell_of_row hr6 1).trans (show _ = some (.int .i64 T) from rfl)
             have q2 := (cell_of_row hr6 2).trans (show _ = some (.int .i64 G) from rfl)
             have q3 := (cell_of_row hr6 3).trans (show _ = some (.int .i64 n) from rfl)
             clear hk9 hr6)
          | (go_at_call 56
             refine (HWt2.out _ ?_).mono ?_
             · exact K1.out.trans (K6.out.trans ⟨rfl, rfl, rfl, Nat.le_refl _, fun _ _ _ => rfl⟩)
             rintro e w7 ⟨b2, c2, rfl, hd7, hk9⟩
             have K7 : Hid (Kp [] w1 w7) := Lib.hid (K6.out.trans (by refine Kp.trans ?_ hk9; exact ⟨rfl, rfl, rfl, Nat.le_refl _, fun _ _ _ => rfl⟩))
             have hr7 := K7.out.row (by simp) HRo1.out
             have s0 := (cell_of_row hr7 0).trans (show _ = some (.slice (some ⟨b1, 0, none⟩) N c1) from rfl)
             have s1 := (cell_of_row hr7 1).trans (show _ = some (.int .i64 T) from rfl)
             have s2 := (cell_of_row hr7 2).trans (show _ = some (.int .i64 G) from rfl)
             have s3 := (cell_of_row hr7 3).trans (show _ = some (.int .i64 n) from rfl)
             have g0 := free_of_row hr7 0
             have g1 := free_of_row hr7 1
             have g2 := free_of_row hr7 2
             have g3 := free_of_row hr7 3
             have HR7 := Lib.hid hr7
             have HD7 := Lib.hid hd7
             clear hk9 hr7 hd7))
        all_goals
          have k9 := put4v_kp w7 w.heap.size (.slice (some ⟨b2, 0, none⟩) N c2) (.int .i64 T) (.int .i64 G) (.int .i64 n)
          have r9 := put4v_row (.slice (some ⟨b2, 0, none⟩) N c2) (.int .i64 T) (.int .i64 G) (.int .i64 n) HR7.out
          have s9 := k9.row (by simp) ((K1.out.trans K7.out).row (by simp) F.out.2.2.2)
          have kk9 := kp_new_set (F.out.2.2.1.trans (K1.out.trans K7.out)) k9 (Nat.le_refl _)
          have d9 := HD7.out.box (v0 := .slice (some ⟨b2, 0, none⟩) N c2) (v1 := .int .i64 T) (v2 := .int .i64 G) (v3 := .int .i64 n) HR7.out
          go_upto_region 7 with (fail)
          obtain ⟨w8, hw8, k8, r8, s8, d8⟩ : ∃ w8, w8 = put4v w7 w.heap.size (.slice (some ⟨b2, 0, none⟩) N c2) (.int .i64 T) (.int .i64 G) (.int .i64 n) ∧ Kp [] w w8 ∧ w8.heap[w.heap.size]? = some (.cells #[.slice (some ⟨b2, 0, none⟩) N c2, .int .i64 T, .int .i64 G, .int .i64 n] 39 (0, 0)) ∧ w8.heap[w.heap.size + 1]? = some (.cells #[.slice none 0 0, .int .i64 0, .int .i64 0, .int .i64 0] 39 (0, 0)) ∧ Dh Bz T G n b2 c2 ((zer H (3 + T + G + bl) i).set 0 (M2 : Int)) w8 := ⟨_, rfl, kk9, r9, s9, d9⟩
          unfold put4v at hw8
          rw [← hw8]
          have K8 := Lib.hid (And.intro k8 (And.intro s8 d8))
          have u0 := (cell_of_row r8 0).trans (show _ = some (.slice (some ⟨b2, 0, none⟩) N c2) from rfl)
          have u1 := (cell_of_row r8 1).trans (show _ = some (.int .i64 T) from rfl)
          have u2 := (cell_of_row r8 2).trans (show _ = some (.int .i64 G) from rfl)
          have u3 := (cell_of_row r8 3).trans (show _ = some (.int .i64 n) from rfl)
          have z0 := (cell_of_row s8 0).trans (show _ = some (.slice none 0 0) from rfl)
          have z1 := (cell_of_row s8 1).trans (show _ = some (.int .i64 0) from rfl)
          have z2 := (cell_of_row s8 2).trans (show _ = some (.int .i64 0) from rfl)
          have z3 := (cell_of_row s8 3).trans (show _ = some (.int .i64 0) from rfl)
          have y0 := free_of_row s8 0
          have y1 := free_of_row s8 1
          have y2 := free_of_row s8 2
          have y3 := free_of_row s8 3
          clear k9 r9 s9 kk9 d9 hw8 k8 r8 s8 d8 g0 g1 g2 g3 s0 s1 s2 s3 q0 q1 q2 q3 d0 d1 d2 d3 c6
          go_wp2_with fail
          exact bodyPost_row rfl (w.heap.size + 1) 39 #[.slice (some ⟨b2, 0, none⟩) N c2, .int .i64 T, .int .i64 G, .int .i64 n] (0, 0) _ rfl rfl (put4v_row _ _ _ _ K8.out.2.1) Tryz.underlying39 rfl (by kernel_rfl) ⟨b2, c2, rfl, by rw [HBk.out]; exact K8.out.2.2.box K8.out.2.1, kp_new_set K8.out.1 (put4v_kp _ _ _ _ _ _) (by omega)⟩
end

end Go.Proofs.YtdbbkncjhnafdaaGreatDoor
