/- The walks of law 15's own: the document's heap with a word more; the beginning of an arena of one owner. The walks of law 15's own: the beginning of an arena of one owner. The walks of the document's own table functions (demesneref05), and of the known entries (wakes). Conditions: as each theorem states them (the numbers are those of a uint8, of a uint64). The walks of the document's own heap (demesneref15): Entry, SetEntry. Conditions: as each theorem states them. -/
import Derived.Deep.CutBlock
import Derived.Deep.CutRange
import Derived.Deep.DeepCutAuto
import Derived.Test.YtbpgkocbfleajaaGreatDoorPa02
import Derived.Test.YtbpgkocbfleajaaGreatDoorPa08
import Derived.Test.YtbpgkocbfleajaaGreatDoorPa09
namespace Go.Proofs.YtbpgkocbfleajaaGreatDoor
set_option linter.unusedVariables false
set_option linter.unusedSimpArgs false
set_option maxRecDepth 100000
open Go.RowKit

theorem info_u64 : ∃ i z, Tryz.prog.info? 60 = some i ∧ i.zero = some z ∧ i.size = 1 ∧ i.bytes = 8 ∧ z.cells.size = 1 := by
  obtain ⟨i, hi, hz0, hz1, hz2⟩ := info_parts (show (Tryz.prog.info? 60).map (fun i => (i.zero, i.size, i.bytes)) = some (some (.int .u64 0), 1, 8) by kernel_rfl)
  exact ⟨i, _, hi, hz0, hz1, hz2, rfl⟩

/-- The words of a heap. -/
def ws (xs : List Int) : List Value := xs.map (Value.int .u64)
theorem ws_len (xs : List Int) : (ws xs).length = xs.length := by simp [ws]
theorem ws_one (xs : List Int) : ∀ u ∈ ws xs, u.oneCell' = true := by
  intro u hu
  simp only [ws, List.mem_map] at hu
  obtain ⟨x, _, rfl⟩ := hu
  rfl
theorem ws_get (xs : List Int) (i : Nat) (h : i < xs.length) : (ws xs)[i]? = some (.int .u64 (xs.getD i 0)) := by simp [ws, List.getD, h]

/-- A heap's words lie at a slice of the call's own. -/
def Ww (base : Nat) (w : World) (b c : Nat) (xs : List Int) : Prop := Gx.Rw 60 1 base w (.slice (some ⟨b, 0, none⟩) xs.length c) xs.length (ws xs)
theorem Ww.heap {base : Nat} {w : World} {b c : Nat} {xs : List Int} (h : Ww base w b c xs) (hx : 0 < xs.length) : base ≤ b ∧ ∃ cur, w.heap[b]? = some (.cells cur 60 (0, 0)) ∧ cur.toList.take xs.length = ws xs ∧ cur.size = c ∧ xs.length ≤ c ∧ c ≤ maxLen := by
  rcases h.own.2 with ⟨h0, _⟩ | ⟨g, c', cur, he, hge, hb, h1, h2, h3, h4⟩
  · simp at h0
  · simp only [Value.slice.injEq, Option.some.injEq, Addr.mk.injEq] at he
    obtain ⟨⟨rfl, _⟩, _, rfl⟩ := he
    exact ⟨hge, cur, hb, by simpa using h4, by simpa using h3, h1, h2⟩

def put4v (w : World) (b : Nat) (v0 v1 v2 v3 : Value) : World := (((w.setCell ⟨b, 0, none⟩ v0).setCell ⟨b, 1, none⟩ v1).setCell ⟨b, 2, none⟩ v2).setCell ⟨b, 3, none⟩ v3
theorem put4v_kp (w : World) (b : Nat) (v0 v1 v2 v3 : Value) : Kp [b] w (put4v w b v0 v1 v2 v3) := ((((Kp.refl [b] w).setCell (.inl (by simp)) _).setCell (.inl (by simp)) _).setCell (.inl (by simp)) _).setCell (.inl (by simp)) _
theorem put4v_row {w : World} {b : Nat} {u0 u1 u2 u3 : Value} (v0 v1 v2 v3 : Value) {T : TypeId} (h : w.heap[b]? = some (.cells #[u0, u1, u2, u3] T (0, 0))) : (put4v w b v0 v1 v2 v3).heap[b]? = some (.cells #[v0, v1, v2, v3] T (0, 0)) := by
  unfold put4v
  rw [heap_setCell_same _ _ _ _ _ _ (heap_setCell_same _ _ _ _ _ _ (heap_setCell_same _ _ _ _ _ _ (heap_setCell_same _ _ _ _ _ _ h)))]
  rfl

set_option maxHeartbeats 1000000 in
theorem h_with (w : World) (base b c : Nat) (xs : List Int) (T G n : Int) (k : Nat) (x : Int) (h : Ww base w b c xs) (hk : k < xs.length) (hl : xs.length ≤ 4096) :
    Calls Tryz.prog 34 #[.agg #[.slice (some ⟨b, 0, none⟩) xs.length c, .int .i64 T, .int .i64 G, .int .i64 n], .int .i64 k, .int .u64 x] w fun e w' => ∃ b' c', e = .returned (.agg #[.slice (some ⟨b', 0, none⟩) xs.length c', .int .i64 T, .int .i64 G, .int .i64 n]) ∧ Ww w.heap.size w' b' c' (xs.set k x) ∧ Kp [] w w' := by
  have K0 : Kp [] w ((w.alloc (.cells #[.slice (some ⟨b, 0, none⟩) xs.length c, .int .i64 T, .int .i64 G, .int .i64 n] 47)).alloc (.cells #[.slice none 0 0, .int .i64 0, .int .i64 0, .int .i64 0] 47)) := ((Kp.refl _ _).alloc _).alloc _
  obtain ⟨hb0, cur, hcur, htk, hcs, hcl, -⟩ := h.heap (by omega)
  obtain ⟨g, cap, w1, hrun, hrw, hkp, hg⟩ := Gx.run_app (t := 43) (ty := 43) (base := w.heap.size) Tryz.underlying43 info_u64 (by decide) (Gx.Rw.nil 60 1 w.heap.size ((w.alloc (.cells #[.slice (some ⟨b, 0, none⟩) xs.length c, .int .i64 T, .int .i64 G, .int .i64 n] 47)).alloc (.cells #[.slice none 0 0, .int .i64 0, .int .i64 0, .int .i64 0] 47))) K0.size ⟨b, 0, none⟩ xs.length c (ws xs) (by rw [ws_len]; omega) (by
    intro j u hu
    have hj : j < xs.length := by
      have := (List.getElem?_eq_some_iff.1 hu).1
      rwa [ws_len] at this
    have e : (⟨b, 0, none⟩ : Addr).add j = ⟨b, j, none⟩ := by simp [Addr.add]; omega
    rw [e]
    refine kp_cell K0 (by simp) ?_
    rw [cell_of_row hcur, ← hu, ← htk, List.getElem?_take_of_lt hj]
    simp) (ws_one xs) (by omega) (by omega) (by omega)
  have hrun' : (Builtin.append_ #[43, 43] 43 #[.slice none 0 0, .slice (some ⟨b, 0, none⟩) xs.length c]).run Tryz.prog ((w.alloc (.cells #[.slice (some ⟨b, 0, none⟩) xs.length c, .int .i64 T, .int .i64 G, .int .i64 n] 47)).alloc (.cells #[.slice none 0 0, .int .i64 0, .int .i64 0, .int .i64 0] 47)) = .ok (.slice (some ⟨g, 0, none⟩) xs.length cap) w1 := by rw [Nat.zero_add] at hrun; exact hrun
  have hW1 : Ww w.heap.size w1 g cap xs := by
    have := hrw
    rw [Nat.zero_add, List.nil_append] at this
    exact this
  obtain ⟨hg0, cur1, hcur1, htk1, hcs1, hcl1, hmx1⟩ := hW1.heap (by omega)
  have z1 : ((w.alloc (.cells #[.slice (some ⟨b, 0, none⟩) xs.length c, .int .i64 T, .int .i64 G, .int .i64 n] 47)).alloc (.cells #[.slice none 0 0, .int .i64 0, .int .i64 0, .int .i64 0] 47)).heap.size = w.heap.size + 2 := by rw [World.size_alloc, World.size_alloc]
  have hgn : w.heap.size + 2 ≤ g := by
    rcases hg with hg | hg
    · simp [Gx.blk, Value.ownBlock] at hg
    · omega
  have r0 : w1.heap[w.heap.size]? = some (.cells #[.slice (some ⟨b, 0, none⟩) xs.length c, .int .i64 T, .int .i64 G, .int .i64 n] 47 (0, 0)) :=
    hkp.row (by simp [Gx.blk_nil]) (((Kp.refl [] _).alloc _).row (by simp) (heap_alloc_new w _))
  have r6 : w1.heap[w.heap.size + 1]? = some (.cells #[.slice none 0 0, .int .i64 0, .int .i64 0, .int .i64 0] 47 (0, 0)) :=
    hkp.row (by simp [Gx.blk_nil]) (by
      have := heap_alloc_new (w.alloc (.cells #[.slice (some ⟨b, 0, none⟩) xs.length c, .int .i64 T, .int .i64 G, .int .i64 n] 47)) (.cells #[.slice none 0 0, .int .i64 0, .int .i64 0, .int .i64 0] 47)
      rwa [World.size_alloc] at this)
  -- the box's slice is the new one; the word is stored
  have r1 : (w1.setCell ⟨w.heap.size, 0, none⟩ (.slice (some ⟨g, 0, none⟩) xs.length cap)).heap[w.heap.size]? = some (.cells #[.slice (some ⟨g, 0, none⟩) xs.length cap, .int .i64 T, .int .i64 G, .int .i64 n] 47 (0, 0)) := by rw [heap_setCell_same _ _ _ _ _ _ r0]; rfl
  have q1 : (w1.setCell ⟨w.heap.size, 0, none⟩ (.slice (some ⟨g, 0, none⟩) xs.length cap)).heap[g]? = some (.cells cur1 60 (0, 0)) := by rw [heap_setCell_other _ _ _ _ (by simp; omega), hcur1]
  have s1 : (w1.setCell ⟨w.heap.size, 0, none⟩ (.slice (some ⟨g, 0, none⟩) xs.length cap)).heap[w.heap.size + 1]? = some (.cells #[.slice none 0 0, .int .i64 0, .int .i64 0, .int .i64 0] 47 (0, 0)) := by rw [heap_setCell_other _ _ _ _ (by simp), r6]
  have hK1 : Kp [] w (w1.setCell ⟨w.heap.size, 0, none⟩ (.slice (some ⟨g, 0, none⟩) xs.length cap)) := kp_new_set ((K0.trans (hkp.mono (by simp [Gx.blk_nil])))) (b := w.heap.size) ((Kp.refl _ _).setCell (.inl (by simp)) _) (Nat.le_refl _)
  obtain ⟨w2, hw2⟩ : ∃ w2, w2 = w1.setCell ⟨w.heap.size, 0, none⟩ (.slice (some ⟨g, 0, none⟩) xs.length cap) := ⟨_, rfl⟩
  rw [← hw2] at r1 q1 s1 hK1
  have r2 : (w2.setCell ⟨g, k, none⟩ (.int .u64 x)).heap[w.heap.size]? = some (.cells #[.slice (some ⟨g, 0, none⟩) xs.length cap, .int .i64 T, .int .i64 G, .int .i64 n] 47 (0, 0)) := by rw [heap_setCell_other _ _ _ _ (by simp; omega), r1]
  have q2 : (w2.setCell ⟨g, k, none⟩ (.int .u64 x)).heap[g]? = some (.cells (cur1.setIfInBounds k (.int .u64 x)) 60 (0, 0)) := heap_setCell_same _ _ _ _ _ _ q1
  have s2 : (w2.setCell ⟨g, k, none⟩ (.int .u64 x)).heap[w.heap.size + 1]? = some (.cells #[.slice none 0 0, .int .i64 0, .int .i64 0, .int .i64 0] 47 (0, 0)) := by rw [heap_setCell_other _ _ _ _ (by simp; omega), s1]
  have hK2 : Kp [] w (w2.setCell ⟨g, k, none⟩ (.int .u64 x)) := kp_new_set hK1 (b := g) ((Kp.refl _ _).setCell (.inl (by simp)) _) hg0
  have c1 : w1.cell? ⟨w.heap.size, 0, none⟩ = some (.slice (some ⟨b, 0, none⟩) xs.length c) := cell_of_row r0 0
  have f1 : w1.frozen? ⟨w.heap.size, 0, none⟩ = false := free_of_row r0 0
  have c2 : w2.cell? ⟨w.heap.size, 0, none⟩ = some (.slice (some ⟨g, 0, none⟩) xs.length cap) := cell_of_row r1 0
  have c3 : w2.cell? ⟨g, k, none⟩ = some (.int .u64 (xs.getD k 0)) := by
    rw [cell_of_row q1, ← ws_get xs k hk, ← htk1, List.getElem?_take_of_lt hk]; simp
  have f3 : w2.frozen? ⟨g, k, none⟩ = false := free_of_row q1 k
  have R2 := Lib.hid (And.intro r2 (And.intro q2 (And.intro s2 hK2)))
  have HF := Lib.hid (And.intro htk1 (And.intro hcs1 (And.intro hcl1 (And.intro hg0 (And.intro hgn hmx1)))))
  have hlt : k < xs.length := hk
  obtain ⟨N, hN⟩ : ∃ N, N = xs.length := ⟨_, rfl⟩
  have HN := Lib.hid hN
  rw [← hN] at c1 c2 hrun' hlt hw2 hl ⊢
  clear hmx1 r0 r1 r2 r6 q1 q2 s1 s2 hK1 hK2 K0 hrun hrw hkp hg hW1 z1 hcur1 htk1 hcs1 hcl1 hcur htk hcs hcl hgn hg0 hb0 hk h hN
  have HW2 := Lib.hid hw2
  have HC := Lib.hid (And.intro c2 (And.intro c3 f3))
  have HRUN := Lib.hid hrun'
  clear hw2 c2 c3 f3 hrun'
  go_enter Tryz.func34, Tryz.ntmps34
  go_upto_region 2 with (at_builtin; refine Gx.wpList_append_eq rfl (.const (.slice none 0 0)) (.tmp 8) 43 rfl _ _ _ rfl rfl HRUN.out ?_)
  rw [← HW2.out]
  obtain ⟨c2, c3, f3⟩ := HC.out
  clear c1 f1 HRUN
  go_upto_region 3 with (fail)
  obtain ⟨r2, q2, s2, hK2⟩ := R2.out
  have d0 := (cell_of_row r2 0).trans (show _ = some (.slice (some ⟨g, 0, none⟩) N cap) from by rw [HN.out]; rfl)
  have d1 := (cell_of_row r2 1).trans (show _ = some (.int .i64 T) from rfl)
  have d2 := (cell_of_row r2 2).trans (show _ = some (.int .i64 G) from rfl)
  have d3 := (cell_of_row r2 3).trans (show _ = some (.int .i64 n) from rfl)
  have e0 := (cell_of_row s2 0).trans (show _ = some (.slice none 0 0) from rfl)
  have e1 := (cell_of_row s2 1).trans (show _ = some (.int .i64 0) from rfl)
  have e2 := (cell_of_row s2 2).trans (show _ = some (.int .i64 0) from rfl)
  have e3 := (cell_of_row s2 3).trans (show _ = some (.int .i64 0) from rfl)
  have g0 := free_of_row s2 0
  have g1 := free_of_row s2 1
  have g2 := free_of_row s2 2
  have g3 := free_of_row s2 3
  have R3 := Lib.hid (And.intro q2 (And.intro s2 hK2))
  clear r2 q2 s2 hK2 c2 c3 f3 HC R2
  obtain ⟨w3, hw3⟩ : ∃ w3, w3 = w2.setCell ⟨g, k, none⟩ (.int .u64 x) := ⟨_, rfl⟩
  rw [← hw3] at d0 d1 d2 d3 e0 e1 e2 e3 g0 g1 g2 g3 R3 ⊢
  clear hw3
  go_wp2_with fail
  refine bodyPost_row rfl (w.heap.size + 1) 47 #[.slice (some ⟨g, 0, none⟩) N cap, .int .i64 T, .int .i64 G, .int .i64 n] (0, 0) _ rfl rfl (put4v_row (.slice (some ⟨g, 0, none⟩) N cap) (.int .i64 T) (.int .i64 G) (.int .i64 n) R3.out.2.1) Tryz.underlying47 rfl (by kernel_rfl) ⟨g, cap, rfl, ?_, kp_new_set R3.out.2.2 (put4v_kp _ _ _ _ _ _) (by omega)⟩
  have hq := (put4v_kp w3 (w.heap.size + 1) (.slice (some ⟨g, 0, none⟩) N cap) (.int .i64 T) (.int .i64 G) (.int .i64 n)).row (by simp; have := HF.out; omega) R3.out.1
  obtain ⟨htk1, hcs1, hcl1, hg0, hgn, hmx1⟩ := HF.out
  refine ⟨by simp [ws_len], .inr ⟨g, cap, _, by simp, hg0, hq, by simp; omega, hmx1, by simp; omega, ?_⟩⟩
  rw [Nat.mul_one, Array.toList_setIfInBounds, List.take_set, List.length_set, htk1]
  simp [ws, List.map_set]

end Go.Proofs.YtbpgkocbfleajaaGreatDoor

namespace Go.Proofs.YtbpgkocbfleajaaGreatDoor
set_option linter.unusedVariables false
set_option linter.unusedSimpArgs false
set_option maxRecDepth 100000
open Go.RowKit

/-- The law's own state: thirteen cells. -/
def S13 (w : World) (sp : Nat) (f : Nat → Value) : Prop := w.heap[sp]? = some (.cells ((List.range 13).map f).toArray 51 (0, 0))
theorem S13.cell {w : World} {sp : Nat} {f : Nat → Value} (h : S13 w sp f) {i : Nat} (hi : i < 13) : w.cell? ⟨sp, i, none⟩ = some (f i) := by
  rw [cell_of_row h]; simp [hi]
theorem S13.free {w : World} {sp : Nat} {f : Nat → Value} (h : S13 w sp f) (i : Nat) : w.frozen? ⟨sp, i, none⟩ = false := free_of_row h i
theorem S13.set {w : World} {sp : Nat} {f : Nat → Value} (h : S13 w sp f) {i : Nat} (hi : i < 13) (v : Value) : S13 (w.setCell ⟨sp, i, none⟩ v) sp (fun j => if j = i then v else f j) := by
  unfold S13
  rw [heap_setCell_same _ _ _ _ _ _ h]
  congr 2
  apply Array.ext'
  simp only [Array.toList_setIfInBounds]
  apply List.ext_getElem (by simp)
  intro j h1 h2
  simp only [List.getElem_set, List.getElem_map, List.getElem_range]
  by_cases e : j = i
  · simp [e]
  · simp [e, Ne.symm e]
theorem S13.keep {S : List Nat} {w w' : World} {sp : Nat} {f : Nat → Value} (h : S13 w sp f) (k : Kp S w w') (hs : sp ∉ S) : S13 w' sp f := k.row hs h
theorem S13.of {w : World} {sp : Nat} {f : Nat → Value} {cs : Array Value} (h : w.heap[sp]? = some (.cells cs 51 (0, 0))) (e : cs = ((List.range 13).map f).toArray) : S13 w sp f := by
  unfold S13; rw [h, e]

/-- One element behind nothing. -/
theorem app_nil {T t : TypeId} {sz bytes : Nat} (ht : Tryz.prog.underlying t = some (.slice T)) (hi : ∃ i z, Tryz.prog.info? T = some i ∧ i.zero = some z ∧ i.size = sz ∧ i.bytes = bytes ∧ z.cells.size = sz) (hsz : 0 < sz) (hb : bytes ≤ 100) (w : World) (news : List Value) (hl : news.length = 1 * sz) (h1 : ∀ u ∈ news, u.oneCell' = true) :
    ∃ g cap w', (Builtin.append_ #[t, t] t #[.slice none 0 0, .slice (some ⟨w.heap.size, 0, none⟩) 1 1]).run Tryz.prog (w.alloc (.cells news.toArray T)) = .ok (.slice (some ⟨g, 0, none⟩) 1 cap) w' ∧ Gx.Rw T sz w.heap.size w' (.slice (some ⟨g, 0, none⟩) 1 cap) 1 news ∧ Kp [] w w' ∧ w.heap.size ≤ g := by
  have hk : Kp [] w (w.alloc (.cells news.toArray T)) := (Kp.refl _ _).alloc _
  obtain ⟨g, cap, w', hr, hw, hkp, hg⟩ := Gx.run_app (T := T) (t := t) (ty := t) (sz := sz) (base := w.heap.size) (bytes := bytes) ht hi hsz (Gx.Rw.nil T sz w.heap.size (w.alloc (.cells news.toArray T))) hk.size ⟨w.heap.size, 0, none⟩ 1 1 news hl (by
    intro j u hu
    have e : (⟨w.heap.size, 0, none⟩ : Addr).add j = ⟨w.heap.size, j, none⟩ := by simp [Addr.add]; omega
    rw [e, cell_of_row (heap_alloc_new w _), ← hu]
    simp) h1 (by omega) (by omega) hb
  refine ⟨g, cap, w', hr, hw, hk.trans (hkp.mono (by simp [Gx.blk_nil])), ?_⟩
  rcases hg with hg | hg
  · simp [Gx.blk, Value.ownBlock] at hg
  · have := hk.size; omega

theorem info_lst : ∃ i z, Tryz.prog.info? 79 = some i ∧ i.zero = some z ∧ i.size = 1 ∧ i.bytes = 8 ∧ z.cells.size = 1 := by
  obtain ⟨i, hi, hz0, hz1, hz2⟩ := info_parts (show (Tryz.prog.info? 79).map (fun i => (i.zero, i.size, i.bytes)) = some (some (.pointer none), 1, 8) by kernel_rfl)
  exact ⟨i, _, hi, hz0, hz1, hz2, rfl⟩
theorem info_bool : ∃ i z, Tryz.prog.info? 4 = some i ∧ i.zero = some z ∧ i.size = 1 ∧ i.bytes = 1 ∧ z.cells.size = 1 := by
  obtain ⟨i, hi, hz0, hz1, hz2⟩ := info_parts (show (Tryz.prog.info? 4).map (fun i => (i.zero, i.size, i.bytes)) = some (some (.bool false), 1, 1) by kernel_rfl)
  exact ⟨i, _, hi, hz0, hz1, hz2, rfl⟩
theorem info_rl : ∃ i z, Tryz.prog.info? 98 = some i ∧ i.zero = some z ∧ i.size = 4 ∧ i.bytes = 96 ∧ z.cells.size = 4 := by
  obtain ⟨i, hi, hz0, hz1, hz2⟩ := info_parts (show (Tryz.prog.info? 98).map (fun i => (i.zero, i.size, i.bytes)) = some (some (.agg #[.slice none 0 0, .slice none 0 0, .slice none 0 0, .slice none 0 0]), 4, 96) by kernel_rfl)
  exact ⟨i, _, hi, hz0, hz1, hz2, rfl⟩
theorem info_row : ∃ i z, Tryz.prog.info? 52 = some i ∧ i.zero = some z ∧ i.size = 1 ∧ i.bytes = 24 ∧ z.cells.size = 1 := by
  obtain ⟨i, hi, hz0, hz1, hz2⟩ := info_parts (show (Tryz.prog.info? 52).map (fun i => (i.zero, i.size, i.bytes)) = some (some (.slice none 0 0), 1, 24) by kernel_rfl)
  exact ⟨i, _, hi, hz0, hz1, hz2, rfl⟩

theorem rw_one {T : TypeId} {base : Nat} {w : World} {g cap : Nat} {x : Value} (h : Gx.Rw T 1 base w (.slice (some ⟨g, 0, none⟩) 1 cap) 1 [x]) : ∃ cur, w.heap[g]? = some (.cells cur T (0, 0)) ∧ cur[0]? = some x := by
  rcases h.own.2 with ⟨h0, _⟩ | ⟨g', c', cur, he, hge, hb, h1, h2, h3, h4⟩
  · simp at h0
  · simp only [Value.slice.injEq, Option.some.injEq, Addr.mk.injEq] at he
    obtain ⟨⟨rfl, _⟩, _, rfl⟩ := he
    refine ⟨cur, hb, ?_⟩
    have := congrArg (fun l => l[0]?) h4
    simpa using this

/-- What stands behind the beginning. -/
structure Bg (w0 : World) (n sp p r q fb : Nat) (w : World) : Prop where
  hw : Hw 1 0 n p r ((List.replicate (4 + 33 * n) 0).set 0 ((2 ^ n - 1 : Nat) : Int)) 1 w
  ls : Li.Ls w q (fun _ => .slice none 0 0) (fun _ => [])
  kp : Kp [] w0 w
  st : ∃ f fc, S13 w sp f ∧ f 0 = .pointer (some ⟨p, 0, none⟩) ∧ f 1 = .int .i64 1 ∧ f 2 = .int .i64 0 ∧ f 3 = .int .i64 n ∧ f 4 = .slice (some ⟨fb, 0, none⟩) 1 fc
  fr : ∃ cur, w.heap[fb]? = some (.cells cur 79 (0, 0)) ∧ cur[0]? = some (.pointer (some ⟨q, 0, none⟩))
  lo : w0.heap.size ≤ p ∧ w0.heap.size ≤ r ∧ w0.heap.size ≤ q ∧ w0.heap.size ≤ sp ∧ w0.heap.size ≤ fb

/-- The two layouts' boxes. -/
def B6 (a b n : Nat) (F : World → Prop) (wx : World) : Prop :=
  wx.cell? ⟨a, 0, none⟩ = some (.int .i64 1) ∧ wx.cell? ⟨a, 1, none⟩ = some (.int .i64 0) ∧ wx.cell? ⟨a, 2, none⟩ = some (.int .i64 n) ∧ wx.cell? ⟨b, 0, none⟩ = some (.int .i64 1) ∧ wx.cell? ⟨b, 1, none⟩ = some (.int .i64 0) ∧ wx.cell? ⟨b, 2, none⟩ = some (.int .i64 n) ∧ F wx
theorem B6.keep {a b n : Nat} {F : World → Prop} {wx wy : World} {S : List Nat} (h : B6 a b n F wx) (k : Kp S wx wy) (ha : a ∉ S) (hb : b ∉ S) (hF : F wx → F wy) : B6 a b n F wy := by
  obtain ⟨h0, h1, h2, h3, h4, h5, h6⟩ := h
  exact ⟨kp_cell k ha h0, kp_cell k ha h1, kp_cell k ha h2, kp_cell k hb h3, kp_cell k hb h4, kp_cell k hb h5, hF h6⟩

/-- What is carried through the beginning's rows. -/
structure Pk (w : World) (n N sp q fb : Nat) (f : Nat → Value) (W : World) : Prop where
  hs : S13 W sp f
  hh : Hw 1 0 n (w.heap.size + 1) w.heap.size ((List.replicate N 0).set 0 ((2 ^ n - 1 : Nat) : Int)) 1 W
  hk : Kp [] w W
  hl : Li.Ls W q (fun _ => .slice none 0 0) (fun _ => [])
  hb : ∃ cur, W.heap[fb]? = some (.cells cur 79 (0, 0)) ∧ cur[0]? = some (.pointer (some ⟨q, 0, none⟩))
  lo : w.heap.size + 2 ≤ sp ∧ w.heap.size ≤ q ∧ w.heap.size ≤ fb
theorem Pk.step {w : World} {n N sp q fb : Nat} {f : Nat → Value} {W Wa : World} (h : Pk w n N sp q fb f W) (k : Kp [] W Wa) {i : Nat} (hi : i < 13) (v : Value) : Pk w n N sp q fb (fun j => if j = i then v else f j) (Wa.setCell ⟨sp, i, none⟩ v) := by
  have hs := h.hs.keep k (by simp)
  have hl := h.hl.keep0 k
  obtain ⟨cur, hc, hc0⟩ := h.hb
  have hc' := k.row (by simp) hc
  have hq : sp ≠ q := fun e => by subst e; have := hs.symm.trans hl.hp; simp at this
  have hf : sp ≠ fb := fun e => by subst e; have := hs.symm.trans hc'; simp at this
  have k2 : Kp [sp] Wa (Wa.setCell ⟨sp, i, none⟩ v) := (Kp.refl _ _).setCell (.inl (by simp)) _
  exact ⟨hs.set hi v, (h.hh.on k).keep k2 (by have := h.lo; simp; omega) (by have := h.lo; simp; omega), kp_new_set (h.hk.trans k) k2 (by have := h.lo; omega), hl.keep k2 (by simpa using Ne.symm hq) (fun g hg => by obtain ⟨c, _, hb⟩ := hg; simp [Li.blk_nil] at hb), ⟨cur, k2.row (by simpa using Ne.symm hf) hc', hc0⟩, h.lo⟩

section
variable {ops : Array Oper} {o : Oper} {a : Act} {K : Act → World → Prop} {Q : Exit → Act → World → Prop} {E : Prop} {w : World}
theorem step_append_eq {P : Program} {w2 : World} (hgd : o.guard = none) (s x : Operand) (t : TypeId) (ho : o.op = .call { callee := .builtin .append, args := #[s, x], argTypes := #[t, t] }) (sv xv v : Value) (hs : a.eval s = sv) (hx : a.eval x = xv)
    (hrun : (Builtin.append_ #[t, t] o.type #[sv, xv]).run P w = .ok v w2) (hK : K (a.put o.dst v) w2) : if Region.wanted o (yielded ops a.tmps) = true then Oper.wp P o a w K Q else E := by
  have hw : Region.wanted o (yielded ops a.tmps) = true := by simp [Region.wanted, hgd]
  rw [if_pos hw]
  unfold Oper.wp
  simp [execOp, ho, resolve, invoke, builtin, hs, hx, hrun, Result.andThen]
  exact hK
end

/-- The state's cells as it begins. -/
def st0 (p b n N : Nat) : Array Value := #[.pointer (some ⟨p, 0, none⟩), .int .i64 1, .int .i64 0, .int .i64 n, .slice none 0 0, .slice none 0 0, .slice (some ⟨b, 0, none⟩) N N, .int .i64 1, .int .i64 0, .int .i64 n, .slice none 0 0, .slice none 0 0, .slice none 0 0]
def stF (p b n N : Nat) (i : Nat) : Value := (st0 p b n N).getD i undef

set_option maxHeartbeats 4000000 in
theorem begins_one (w : World) (n : Nat) (hn1 : 1 ≤ n) (hn2 : n ≤ 12) :
    Calls Tryz.prog 8 #[.int .i64 n, .int .i64 1] w fun e w' => ∃ sp p r q fb, e = .returned (.tuple #[.pointer (some ⟨sp, 0, none⟩), .bool true]) ∧ Bg w n sp p r q fb w' := by
  have hNew := Lib.hid (fun w => new_good w (4 + 33 * n) (by omega) (by omega))
  have hbk : Ly.blkP ((4 + 33 * n : Nat) : Int) 1 0 = n := by unfold Ly.blkP; rw [if_pos (by omega)]; omega
  have hLay := Lib.hid (fun w => Ly.new_ok ((4 + 33 * n : Nat) : Int) 1 0 n w hbk (by omega) (by omega) (by omega) (by omega) (by omega) (by omega) (by omega))
  have hRLay := Lib.hid (fun w => Ly.rnew_ok ((4 + 33 * n : Nat) : Int) 1 0 n w hbk (by omega) (by omega) (by omega) (by omega) (by omega) (by omega) (by omega))
  have hB := Lib.hid (fun w => Ly.blocks_is 1 0 n w)
  have hmk := Lib.hid (make_u64s (4 + 33 * n) (by omega))
  have hAll := Lib.hid (fun w => Bm.rall_is (n : Int) (2 ^ n - 1) w (by rw [show min (n : Int).toNat 64 = n from by simp; omega]))
  have HH : Hid (∀ w', Ar w' (w.heap.size + 1) w.heap.size (fresh (4 + 33 * n)) → Hw 1 0 n (w.heap.size + 1) w.heap.size (List.replicate (4 + 33 * n) 0) 0 w') := by
    refine Lib.hid fun w' a => ⟨⟨0, a⟩, by simp; try omega, by simp; try omega, fun k => ?_, by omega, by omega, by omega⟩
    simp only [List.getD_eq_getElem?_getD, List.getElem?_replicate]
    split <;> simp
  have e1 : (33 * (n : Int)) = ((33 * n : Nat) : Int) := by omega
  have ew1 := IntWalk.i64_in ((33 * n : Nat) : Int) (by omega)
  obtain ⟨N, hN⟩ : ∃ N, N = 4 + 33 * n := ⟨_, rfl⟩
  have HN := Lib.hid hN
  have ew3 := IntWalk.i64_in (4 + ((33 * n : Nat) : Int)) (by omega)
  have e2 : (4 + ((33 * n : Nat) : Int)) = (N : Int) := by omega
  rw [← hN] at hNew hLay hRLay hmk HH
  rw [e2] at ew3
  obtain ⟨M33, hM33⟩ : ∃ M, M = 33 * n := ⟨_, rfl⟩
  rw [← hM33] at e1 ew1 e2
  clear hN hbk hM33
  go_enter Tryz.func8, Tryz.ntmps8
  go_wp2_with fail
  refine (hNew.out _).mono ?_
  rintro e w1 ⟨rfl, ha1, hk1⟩
  have F1 := Lib.hid (And.intro (HH.out _ ha1) hk1)
  clear ha1 hk1
  go_wp2_with fail
  refine (hLay.out _).mono ?_
  rintro e w2 ⟨rfl, hk2⟩
  have kA2 : Kp [] w2 (w2.alloc (.cells #[.int .i64 1, .int .i64 0, .int .i64 n] 40)) := (Kp.refl _ _).alloc _
  have F2 := Lib.hid (And.intro (F1.out.1.on (hk2.trans kA2)) (And.intro (F1.out.2.trans (hk2.trans kA2)) (heap_alloc_new w2 (.cells #[.int .i64 1, .int .i64 0, .int .i64 n] 40))))
  clear hk2 kA2
  go_wp2_with fail
  refine (hRLay.out _).mono ?_
  rintro e w3 ⟨rfl, hk3⟩
  have kA3 : Kp [] w3 (w3.alloc (.cells #[.int .i64 1, .int .i64 0, .int .i64 n] 45)) := (Kp.refl _ _).alloc _
  have hrl := (hk3.trans kA3).row (by simp) F2.out.2.2
  have hrr := heap_alloc_new w3 (.cells #[.int .i64 1, .int .i64 0, .int .i64 n] 45)
  have F3 := Lib.hid (And.intro (F2.out.1.on (hk3.trans kA3)) (And.intro (F2.out.2.1.trans (hk3.trans kA3)) (And.intro hrl hrr)))
  have c0 : (w3.alloc (.cells #[.int .i64 1, .int .i64 0, .int .i64 n] 45)).cell? ⟨w2.heap.size, 0, none⟩ = some (.int .i64 1) := cell_of_row hrl 0
  have c1 : (w3.alloc (.cells #[.int .i64 1, .int .i64 0, .int .i64 n] 45)).cell? ⟨w2.heap.size, 1, none⟩ = some (.int .i64 0) := cell_of_row hrl 1
  have c2 : (w3.alloc (.cells #[.int .i64 1, .int .i64 0, .int .i64 n] 45)).cell? ⟨w2.heap.size, 2, none⟩ = some (.int .i64 n) := cell_of_row hrl 2
  clear hk3 kA3 hrl hrr
  go_wp2_with fail
  refine (hB.out _).mono ?_
  rintro e w4 ⟨rfl, hk4⟩
  have hrl := hk4.row (by simp) F3.out.2.2.1
  have hrr := hk4.row (by simp) F3.out.2.2.2
  have F4 := Lib.hid (And.intro (F3.out.1.on hk4) (And.intro (F3.out.2.1.trans hk4) (And.intro hrl hrr)))
  have HS0 : Hid (B6 w2.heap.size w3.heap.size n (Kp [] w4) w4) := Lib.hid ⟨cell_of_row hrl 0, cell_of_row hrl 1, cell_of_row hrl 2, cell_of_row hrr 0, cell_of_row hrr 1, cell_of_row hrr 2, Kp.refl _ _⟩
  clear hk4 hrl hrr c0 c1 c2
  go_wp2_with fail
  have hmk' := hmk.out
  go_region_held3 (fun wx => wx.cell? ⟨w2.heap.size, 0, none⟩ = some (.int .i64 1) ∧ wx.cell? ⟨w2.heap.size, 1, none⟩ = some (.int .i64 0) ∧ wx.cell? ⟨w2.heap.size, 2, none⟩ = some (.int .i64 n) ∧ wx.cell? ⟨w3.heap.size, 0, none⟩ = some (.int .i64 1) ∧ wx.cell? ⟨w3.heap.size, 1, none⟩ = some (.int .i64 0) ∧ wx.cell? ⟨w3.heap.size, 2, none⟩ = some (.int .i64 n) ∧ Kp [] w4 wx)
    (first
      | assumption
      | exact B6.keep HS0.out ((Kp.refl [] _).drew) (by simp) (by simp) (fun k => k.trans ((Kp.refl [] _).drew))
      | exact B6.keep ‹B6 w2.heap.size w3.heap.size n (Kp [] w4) _› ((Kp.refl [] _).alloc _) (by simp) (by simp) (fun k => k.trans ((Kp.refl [] _).alloc _)))
    (fail)
  all_goals
    rename_i hHeld
    clear hHeld
    have kW : Kp [] w4 (w4.alloc (.cells (u64s (List.replicate N 0)) 60)) := (Kp.refl _ _).alloc _
    have kS : Kp [] w4 ((w4.alloc (.cells (u64s (List.replicate N 0)) 60)).alloc (.cells (st0 (w.heap.size + 1) w4.heap.size n N) 51)).drew := (kW.alloc _).drew
    have rW : (((w4.alloc (.cells (u64s (List.replicate N 0)) 60)).alloc (.cells (st0 (w.heap.size + 1) w4.heap.size n N) 51)).drew).heap[w4.heap.size]? = some (.cells (u64s (List.replicate N 0)) 60 (0, 0)) := (((Kp.refl [] _).alloc _).drew).row (by simp) (heap_alloc_new w4 _)
    have rS : (((w4.alloc (.cells (u64s (List.replicate N 0)) 60)).alloc (.cells (st0 (w.heap.size + 1) w4.heap.size n N) 51)).drew).heap[w4.heap.size + 1]? = some (.cells (st0 (w.heap.size + 1) w4.heap.size n N) 51 (0, 0)) := by
      have := heap_alloc_new (w4.alloc (.cells (u64s (List.replicate N 0)) 60)) (.cells (st0 (w.heap.size + 1) w4.heap.size n N) 51)
      rw [World.size_alloc] at this
      exact this
    unfold st0 at kS rW rS
    obtain ⟨w5, hw5⟩ : ∃ w5, w5 = ((w4.alloc (.cells (u64s (List.replicate N 0)) 60)).alloc (.cells #[.pointer (some ⟨w.heap.size + 1, 0, none⟩), .int .i64 1, .int .i64 0, .int .i64 n, .slice none 0 0, .slice none 0 0, .slice (some ⟨w4.heap.size, 0, none⟩) N N, .int .i64 1, .int .i64 0, .int .i64 n, .slice none 0 0, .slice none 0 0, .slice none 0 0] 51)).drew := ⟨_, rfl⟩
    have hK := F4.out.2.1.trans kS
    have hH5 := F4.out.1.on kS
    have hl5 := kS.row (by simp) F4.out.2.2.1
    have h0z : w.heap.size + 2 ≤ w4.heap.size := by
      have := F1.out.1.lt
      have h12 := F4.out.1.lt
      omega
    rw [← hw5] at rW rS hK hH5 hl5 ⊢
    have hS5 : S13 w5 (w4.heap.size + 1) (stF (w.heap.size + 1) w4.heap.size n N) := S13.of rS rfl
    have c0 := (cell_of_row hl5 0).trans (show _ = some (.int .i64 1) from rfl)
    have c1 := (cell_of_row hl5 1).trans (show _ = some (.int .i64 0) from rfl)
    have c2 := (cell_of_row hl5 2).trans (show _ = some (.int .i64 n) from rfl)
    have HBe := Lib.hid (g_begin hH5 (by omega) (2 ^ n - 1) (by rw [Nat.min_eq_left (by omega)]))
    have F5 := Lib.hid (And.intro hK (And.intro rW (And.intro hS5 h0z)))
    have HLt := Lib.hid hH5.lt
    clear kW kS rW rS hK hH5 hl5 hS5 h0z hw5 HS0
    go_wp2_with fail
    refine HBe.out.mono ?_
    rintro e w6 ⟨rfl, hh6, hk6⟩
    have hK6 : Kp [] w w6 := (F5.out.1.mono (by simp)).trans hk6 |>.mono (by simp)
    have hS6 := F5.out.2.2.1.keep hk6 (by have := F5.out.2.2.2; simp; omega)
    have hW6 := hk6.row (by have := F5.out.2.2.2; simp; omega) F5.out.2.1
    have F6 := Lib.hid (And.intro hK6 (And.intro hS6 (And.intro hW6 hh6)))
    have HWt : Hid (∀ w', Kp [] w6 w' → Calls Tryz.prog 34 #[.agg #[.slice (some ⟨w4.heap.size, 0, none⟩) N N, .int .i64 1, .int .i64 0, .int .i64 n], .int .i64 0, .int .u64 ((2 ^ n - 1 : Nat) : Int)] w' fun e w'' => ∃ b' c', e = .returned (.agg #[.slice (some ⟨b', 0, none⟩) N c', .int .i64 1, .int .i64 0, .int .i64 n]) ∧ Kp [] w' w'') := by
      refine Lib.hid fun w' k => ?_
      have hl : (List.replicate N (0 : Int)).length = N := List.length_replicate
      have hww : Ww 0 w' w4.heap.size N (List.replicate N 0) := by
        refine ⟨by simp [ws_len], .inr ⟨w4.heap.size, N, _, by simp, Nat.zero_le _, k.row (by simp) F6.out.2.2.1, by simp, ?_, by simp [u64s], ?_⟩⟩
        · have := HN.out; unfold maxLen; omega
        · simp [u64s, ws]
      have := h_with w' 0 w4.heap.size N (List.replicate N 0) 1 0 n 0 ((2 ^ n - 1 : Nat) : Int) hww (by have := HN.out; simp; omega) (by have := HN.out; simp; omega)
      rw [hl] at this
      refine this.mono ?_
      rintro e w2 ⟨b', c', rfl, _, k2⟩
      exact ⟨b', c', rfl, k2⟩
    generalize 2 ^ n - 1 = M at hAll HWt
    have d6 := (hS6.cell (i := 6) (by decide)).trans (show _ = some (.slice (some ⟨w4.heap.size, 0, none⟩) N N) from rfl)
    have d7 := (hS6.cell (i := 7) (by decide)).trans (show _ = some (.int .i64 1) from rfl)
    have d8 := (hS6.cell (i := 8) (by decide)).trans (show _ = some (.int .i64 0) from rfl)
    have d9 := (hS6.cell (i := 9) (by decide)).trans (show _ = some (.int .i64 n) from rfl)
    clear hh6 hk6 hK6 hS6 hW6 c0 c1 c2 hmk'
    go_upto_region 9 with (fail)
    go_cut [13] (fun v13 wc => v13 = .pointer (some ⟨w4.heap.size + 1, 0, none⟩) ∧ Hid (∃ f, S13 wc (w4.heap.size + 1) f ∧ Kp [w4.heap.size + 1] w6 wc ∧ f 0 = .pointer (some ⟨w.heap.size + 1, 0, none⟩) ∧ f 1 = .int .i64 1 ∧ f 2 = .int .i64 0 ∧ f 3 = .int .i64 n ∧ f 4 = .slice none 0 0 ∧ f 5 = .slice none 0 0 ∧ f 10 = .slice none 0 0 ∧ f 11 = .slice none 0 0 ∧ f 12 = .slice none 0 0))
    case first =>
      go_region_with (first
        | (go_at_call 35
           refine (hAll.out _).mono ?_
           rintro e w7 ⟨rfl, hk7⟩
           have K7 : Hid (Kp [] w6 w7) := Lib.hid (by refine Kp.trans ?_ hk7; exact ⟨rfl, rfl, rfl, Nat.le_refl _, fun _ _ _ => rfl⟩)
           have hS7 := F6.out.2.1.keep K7.out (by simp)
           have d6' := (hS7.cell (i := 6) (by decide)).trans (show _ = some (.slice (some ⟨w4.heap.size, 0, none⟩) N N) from rfl)
           have d7' := (hS7.cell (i := 7) (by decide)).trans (show _ = some (.int .i64 1) from rfl)
           have d8' := (hS7.cell (i := 8) (by decide)).trans (show _ = some (.int .i64 0) from rfl)
           have d9' := (hS7.cell (i := 9) (by decide)).trans (show _ = some (.int .i64 n) from rfl)
           clear hS7 hk7)
        | (go_at_call 34
           refine (HWt.out _ ?_).mono ?_
           · exact K7.out.trans ⟨rfl, rfl, rfl, Nat.le_refl _, fun _ _ _ => rfl⟩
           rintro e w8 ⟨b', c', rfl, hk8⟩
           have K8 : Hid (Kp [] w6 w8) := Lib.hid (K7.out.trans (by refine Kp.trans ?_ hk8; exact ⟨rfl, rfl, rfl, Nat.le_refl _, fun _ _ _ => rfl⟩))
           have hS8 := F6.out.2.1.keep K8.out (by simp)
           have d6'' := (hS8.cell (i := 6) (by decide)).trans (show _ = some (.slice (some ⟨w4.heap.size, 0, none⟩) N N) from rfl)
           have d7'' := (hS8.cell (i := 7) (by decide)).trans (show _ = some (.int .i64 1) from rfl)
           have d8'' := (hS8.cell (i := 8) (by decide)).trans (show _ = some (.int .i64 0) from rfl)
           have d9'' := (hS8.cell (i := 9) (by decide)).trans (show _ = some (.int .i64 n) from rfl)
           have g6 := hS8.free 6
           have g7 := hS8.free 7
           have g8 := hS8.free 8
           have g9 := hS8.free 9
           have HS8 := Lib.hid hS8
           clear hS8 hk8))
      all_goals go_wp2_with fail
      all_goals go_meet
      all_goals
        have hs4 := (((HS8.out.set (i := 6) (by decide) (.slice (some ⟨b', 0, none⟩) N c')).set (i := 7) (by decide) (.int .i64 1)).set (i := 8) (by decide) (.int .i64 0)).set (i := 9) (by decide) (.int .i64 n)
        have hk4 : Kp [w4.heap.size + 1] w8 ((((w8.setCell ⟨w4.heap.size + 1, 6, none⟩ (.slice (some ⟨b', 0, none⟩) N c')).setCell ⟨w4.heap.size + 1, 7, none⟩ (.int .i64 1)).setCell ⟨w4.heap.size + 1, 8, none⟩ (.int .i64 0)).setCell ⟨w4.heap.size + 1, 9, none⟩ (.int .i64 n)) := ((((Kp.refl _ _).setCell (.inl (by simp)) _).setCell (.inl (by simp)) _).setCell (.inl (by simp)) _).setCell (.inl (by simp)) _
        have hk5 := (K8.out.mono (T := [w4.heap.size + 1]) (by simp)).trans hk4
        first
          | exact ⟨rfl, Lib.hid ⟨_, hs4, hk5, rfl, rfl, rfl, rfl, rfl, rfl, rfl, rfl, rfl⟩⟩
          | exact ⟨rfl, Lib.hid ⟨_, hs4.keep ((Kp.refl [] _).drew) (by simp), hk5.drew, rfl, rfl, rfl, rfl, rfl, rfl, rfl, rfl, rfl⟩⟩
    case rest =>
      obtain ⟨rfl, HF⟩ := hcut
      clear d6 d7 d8 d9 HWt hAll HBe
      have HA0 : Hid (∃ f, S13 wc (w4.heap.size + 1) f ∧ Hw 1 0 n (w.heap.size + 1) w.heap.size ((List.replicate N 0).set 0 ((2 ^ n - 1 : Nat) : Int)) 1 wc ∧ Kp [] w wc ∧ f 0 = .pointer (some ⟨w.heap.size + 1, 0, none⟩) ∧ f 1 = .int .i64 1 ∧ f 2 = .int .i64 0 ∧ f 3 = .int .i64 n ∧ f 4 = .slice none 0 0 ∧ f 5 = .slice none 0 0 ∧ f 10 = .slice none 0 0 ∧ f 11 = .slice none 0 0 ∧ f 12 = .slice none 0 0) := by
        obtain ⟨f, hs, hk, hf⟩ := HF.out
        have hz := F5.out.2.2.2
        refine Lib.hid ⟨f, hs, F6.out.2.2.2.keep hk (by simp; omega) (by simp; omega), kp_new_set F6.out.1 hk (by omega), hf⟩
      clear HF F1 F2 F3 F4 F6 hB hmk hNew hLay hRLay HH
      go_wp2_with fail
      go_loopg [14] 1 (fun gg v14 wr => (gg = 1 ∧ v14 = .int .i64 0 ∧ wr = wc) ∨ (gg = 0 ∧ v14 = .int .i64 1 ∧ Hid (∃ q fb fc f cur, S13 wr (w4.heap.size + 1) f ∧ Hw 1 0 n (w.heap.size + 1) w.heap.size ((List.replicate N 0).set 0 ((2 ^ n - 1 : Nat) : Int)) 1 wr ∧ Kp [] w wr ∧ Li.Ls wr q (fun _ => .slice none 0 0) (fun _ => []) ∧ wr.heap[fb]? = some (.cells cur 79 (0, 0)) ∧ cur[0]? = some (.pointer (some ⟨q, 0, none⟩)) ∧ w.heap.size ≤ q ∧ w.heap.size ≤ fb ∧ f 0 = .pointer (some ⟨w.heap.size + 1, 0, none⟩) ∧ f 1 = .int .i64 1 ∧ f 2 = .int .i64 0 ∧ f 3 = .int .i64 n ∧ f 4 = .slice (some ⟨fb, 0, none⟩) 1 fc)))
      case atStart => exact .inl ⟨rfl, rfl, rfl⟩
      case round =>
        rcases hrel with ⟨rfl, rfl, rfl⟩ | ⟨rfl, rfl, HA⟩
        · obtain ⟨f, hs, hh, hk, f0, f1, f2, f3, f4, f5, f10, f11, f12⟩ := HA0.out
          have HFf := Lib.hid (And.intro f0 (And.intro f1 (And.intro f2 f3)))
          have HFn := Lib.hid (And.intro f5 (And.intro f10 (And.intro f11 f12)))
          have HS := Lib.hid hs
          have HF4 := Lib.hid f4
          have HW := Lib.hid (And.intro hh hk)
          have c4 := (hs.cell (i := 4) (by decide)).trans (congrArg some f4)
          clear hs hh hk f0 f1 f2 f3 f4 f5 f10 f11 f12 HA0
          have HNw : Hid (∀ w', Calls Tryz.prog 36 #[] w' fun e w'' => ∃ q, e = .returned (.pointer (some ⟨q, 0, none⟩)) ∧ Li.Ls w'' q (fun _ => .slice none 0 0) (fun _ => []) ∧ Kp [] w' w'' ∧ w'.heap.size ≤ q) := Lib.hid fun w' => (Li.new_any w').mono fun e w'' ⟨h1, h2, h3⟩ => ⟨_, h1, h2, h3, Nat.le_refl _⟩
          go_upto_region 13 with (fail)
          go_cut [13] (fun v13 wd => v13 = .pointer (some ⟨w4.heap.size + 1, 0, none⟩) ∧ Hid (∃ q fb fc cur, S13 wd (w4.heap.size + 1) (fun j => if j = 4 then .slice (some ⟨fb, 0, none⟩) 1 fc else f j) ∧ Kp [w4.heap.size + 1] wr wd ∧ Li.Ls wd q (fun _ => .slice none 0 0) (fun _ => []) ∧ wd.heap[fb]? = some (.cells cur 79 (0, 0)) ∧ cur[0]? = some (.pointer (some ⟨q, 0, none⟩)) ∧ wr.heap.size ≤ q ∧ wr.heap.size ≤ fb))
          case first =>
            go_region_law (first
              | (refine step_append_eq rfl (.tmp 84) (.tmp 86) 41 rfl _ _ _ rfl rfl hrun ?_)
              | (go_simp
                 go_at_call 36
                 refine (HNw.out _).mono ?_
                 rintro e w5 ⟨q5, rfl, L5, k5, hq5⟩
                 have hq5' : wr.heap.size ≤ q5 := hq5
                 have k5' : Kp [] wr w5 := by refine Kp.trans ?_ k5; exact ⟨rfl, rfl, rfl, Nat.le_refl _, fun _ _ _ => rfl⟩
                 obtain ⟨g6, cap6, w6', hrun, hrw, hkp, hge⟩ := app_nil (T := 79) (t := 41) Tryz.underlying41 info_lst (by decide) (by decide) w5 [.pointer (some ⟨q5, 0, none⟩)] (by rfl) (by simp [Value.oneCell'])
                 have hs5 := HS.out.keep k5' (by simp)
                 have hs6 := hs5.keep hkp (by simp)
                 have c5 := (hs5.cell (i := 4) (by decide)).trans (congrArg some HF4.out)
                 have c5a := (hs5.keep ((Kp.refl [] w5).alloc (.cells #[.pointer (some ⟨q5, 0, none⟩)] 79)) (by simp)).cell (i := 4) (by decide) |>.trans (congrArg some HF4.out)
                 have c6 := (hs6.cell (i := 4) (by decide)).trans (congrArg some HF4.out)
                 have g06 := hs6.free 4
                 have HST := Lib.hid (And.intro hs6 (And.intro hrw (And.intro (k5'.trans hkp) (And.intro (L5.keep0 hkp) (And.intro hge (And.intro k5'.size hq5'))))))
                 clear L5 k5 k5' hrw hkp hge hs5 hs6 hq5 hq5'))
            all_goals go_wp2_with fail
            all_goals go_meet
            all_goals
              obtain ⟨hs6, hrw, hkk, hL6, hge, hz5, hq5⟩ := HST.out
              obtain ⟨cur, hcur, hc0⟩ := rw_one hrw
              have hk6 : Kp [w4.heap.size + 1] wr (w6'.setCell ⟨w4.heap.size + 1, 4, none⟩ (.slice (some ⟨g6, 0, none⟩) 1 cap6)) := (hkk.mono (by simp)).setCell (.inl (by simp)) _
              have hspz : w4.heap.size + 1 < wr.heap.size := lt_of_block HS.out
              have hL7 : Li.Ls (w6'.setCell ⟨w4.heap.size + 1, 4, none⟩ (.slice (some ⟨g6, 0, none⟩) 1 cap6)) q5 (fun _ => .slice none 0 0) (fun _ => []) := hL6.keep (S := [w4.heap.size + 1]) ((Kp.refl _ _).setCell (.inl (by simp)) _) (by simp; omega) (fun g hg => by obtain ⟨c, _, hb⟩ := hg; simp [Li.blk_nil] at hb)
              have hcur7 : (w6'.setCell ⟨w4.heap.size + 1, 4, none⟩ (.slice (some ⟨g6, 0, none⟩) 1 cap6)).heap[g6]? = some (.cells cur 79 (0, 0)) := by rw [heap_setCell_other _ _ _ _ (by simp; omega), hcur]
              first
                | exact ⟨rfl, Lib.hid ⟨q5, g6, cap6, cur, hs6.set (by decide) _, hk6, hL7, hcur7, hc0, hq5, by omega⟩⟩
                | exact ⟨rfl, Lib.hid ⟨q5, g6, cap6, cur, (hs6.set (by decide) _).keep ((Kp.refl [] _).drew) (by simp), hk6.drew, hL7.keep0 ((Kp.refl [] _).drew), hcur7, hc0, hq5, by omega⟩⟩
          case rest =>
            obtain ⟨rfl, HG⟩ := hcut
            obtain ⟨q, fb, fc, cur, hs1, hk1, hl1, hcur1, hc01, hq1, hfb1⟩ := HG.out
            have hz := F5.out.2.2.2
            have W0z := HW.out.2.size
            obtain ⟨W0, hW0⟩ : ∃ W, W = wc := ⟨_, rfl⟩
            rw [← hW0] at hs1 hk1 hl1 hcur1 ⊢
            have P0 : Hid (Pk w n N (w4.heap.size + 1) q fb (fun j => if j = 4 then .slice (some ⟨fb, 0, none⟩) 1 fc else f j) W0) :=
              Lib.hid ⟨hs1, HW.out.1.keep hk1 (by simp; omega) (by simp; omega), kp_new_set HW.out.2 hk1 (by omega), hl1, ⟨cur, hcur1, hc01⟩, by omega, by omega, by omega⟩
            have n5 : f 5 = .slice none 0 0 := HFn.out.1
            have n10 : f 10 = .slice none 0 0 := HFn.out.2.1
            have n11 : f 11 = .slice none 0 0 := HFn.out.2.2.1
            have n12 : f 12 = .slice none 0 0 := HFn.out.2.2.2
            have N5 := Lib.hid n5
            have N10 := Lib.hid n10
            have N11 := Lib.hid n11
            have N12 := Lib.hid n12
            clear hs1 hk1 hl1 hcur1 hc01 hq1 hfb1 HG n5 n10 n11 n12 hz W0z hW0 c4
            obtain ⟨g0, cap0, wa0, hrun0, -, hkp0, -⟩ := app_nil (T := 98) (t := 48) Tryz.underlying48 info_rl (by decide) (by decide) W0 [.slice none 0 0, .slice none 0 0, .slice none 0 0, .slice none 0 0] (by rfl) (by simp [Value.oneCell'])
            have HRun0 := Lib.hid hrun0
            have l0 := (P0.out.hs.cell (i := 10) (by decide)).trans (congrArg some N10.out)
            have m0 := ((P0.out.hs.keep hkp0 (by simp)).cell (i := 10) (by decide)).trans (congrArg some N10.out)
            have o0 := (P0.out.hs.keep hkp0 (by simp)).free 10
            have P1 := Lib.hid (P0.out.step hkp0 (i := 10) (by decide) (.slice (some ⟨g0, 0, none⟩) 1 cap0))
            clear hrun0 hkp0
            go_upto_region 15 with (at_builtin; refine Gx.wpList_append_eq rfl (.tmp 94) (.tmp 96) 48 rfl _ _ _ rfl rfl HRun0.out ?_)
            obtain ⟨W1, hW1⟩ : ∃ W, W = wa0.setCell ⟨w4.heap.size + 1, 10, none⟩ (.slice (some ⟨g0, 0, none⟩) 1 cap0) := ⟨_, rfl⟩
            rw [← hW1] at P1 ⊢
            clear hW1 l0 m0 o0 HRun0 P0
            obtain ⟨g1, cap1, wa1, hrun1, -, hkp1, -⟩ := app_nil (T := 4) (t := 42) Tryz.underlying42 info_bool (by decide) (by decide) W1 [.bool false] (by rfl) (by simp [Value.oneCell'])
            have HRun1 := Lib.hid hrun1
            have l1 := (P1.out.hs.cell (i := 5) (by decide)).trans (congrArg some N5.out)
            have m1 := ((P1.out.hs.keep hkp1 (by simp)).cell (i := 5) (by decide)).trans (congrArg some N5.out)
            have o1 := (P1.out.hs.keep hkp1 (by simp)).free 5
            have P2 := Lib.hid (P1.out.step hkp1 (i := 5) (by decide) (.slice (some ⟨g1, 0, none⟩) 1 cap1))
            clear hrun1 hkp1
            go_upto_region 16 with (at_builtin; refine Gx.wpList_append_eq rfl (.tmp 104) (.tmp 105) 42 rfl _ _ _ rfl rfl HRun1.out ?_)
            obtain ⟨W2, hW2⟩ : ∃ W, W = wa1.setCell ⟨w4.heap.size + 1, 5, none⟩ (.slice (some ⟨g1, 0, none⟩) 1 cap1) := ⟨_, rfl⟩
            rw [← hW2] at P2 ⊢
            clear hW2 l1 m1 o1 HRun1 P1
            obtain ⟨g2, cap2, wa2, hrun2, -, hkp2, -⟩ := app_nil (T := 52) (t := 49) Tryz.underlying49 info_row (by decide) (by decide) W2 [.slice none 0 0] (by rfl) (by simp [Value.oneCell'])
            have HRun2 := Lib.hid hrun2
            have l2 := (P2.out.hs.cell (i := 11) (by decide)).trans (congrArg some N11.out)
            have m2 := ((P2.out.hs.keep hkp2 (by simp)).cell (i := 11) (by decide)).trans (congrArg some N11.out)
            have o2 := (P2.out.hs.keep hkp2 (by simp)).free 11
            have P3 := Lib.hid (P2.out.step hkp2 (i := 11) (by decide) (.slice (some ⟨g2, 0, none⟩) 1 cap2))
            clear hrun2 hkp2
            go_upto_region 17 with (at_builtin; refine Gx.wpList_append_eq rfl (.tmp 113) (.tmp 114) 49 rfl _ _ _ rfl rfl HRun2.out ?_)
            obtain ⟨W3, hW3⟩ : ∃ W, W = wa2.setCell ⟨w4.heap.size + 1, 11, none⟩ (.slice (some ⟨g2, 0, none⟩) 1 cap2) := ⟨_, rfl⟩
            rw [← hW3] at P3 ⊢
            clear hW3 l2 m2 o2 HRun2 P2
            obtain ⟨g3, cap3, wa3, hrun3, -, hkp3, -⟩ := app_nil (T := 52) (t := 49) Tryz.underlying49 info_row (by decide) (by decide) W3 [.slice none 0 0] (by rfl) (by simp [Value.oneCell'])
            have HRun3 := Lib.hid hrun3
            have l3 := (P3.out.hs.cell (i := 12) (by decide)).trans (congrArg some N12.out)
            have m3 := ((P3.out.hs.keep hkp3 (by simp)).cell (i := 12) (by decide)).trans (congrArg some N12.out)
            have o3 := (P3.out.hs.keep hkp3 (by simp)).free 12
            have P4 := Lib.hid (P3.out.step hkp3 (i := 12) (by decide) (.slice (some ⟨g3, 0, none⟩) 1 cap3))
            clear hrun3 hkp3
            go_wp2_with (at_builtin; refine Gx.wpList_append_eq rfl (.tmp 122) (.tmp 123) 49 rfl _ _ _ rfl rfl HRun3.out ?_)
            go_roundg 0
            case rel =>
              obtain ⟨cur, hc, hc0⟩ := P4.out.hb
              exact .inr ⟨rfl, by go_num, Lib.hid ⟨q, fb, fc, _, cur, P4.out.hs, P4.out.hh, P4.out.hk, P4.out.hl, hc, hc0, P4.out.lo.2.1, P4.out.lo.2.2, HFf.out.1, HFf.out.2.1, HFf.out.2.2.1, HFf.out.2.2.2, rfl⟩⟩
            case measure => decide
        · go_wp2_with fail
          go_ret2
          obtain ⟨q, fb, fc, f, cur, hs, hh, hk, hl, hc, hc0, hq, hfb, f0, f1, f2, f3, f4⟩ := HA.out
          have hz := F5.out.2.2.2
          have hh' := hh
          rw [HN.out] at hh'
          exact ⟨w4.heap.size + 1, w.heap.size + 1, w.heap.size, q, fb, rfl, ⟨hh', hl, hk, ⟨f, fc, hs, f0, f1, f2, f3, f4⟩, ⟨cur, hc, hc0⟩, by omega, by omega, hq, by omega, hfb⟩⟩

end Go.Proofs.YtbpgkocbfleajaaGreatDoor

namespace Go.Proofs.YtbpgkocbfleajaaGreatDoor.Tb
set_option linter.unusedVariables false
set_option linter.unusedSimpArgs false
open Go.RowKit

theorem ret_u64 {a b : Int} (h : a = b) : Ending.returned (.int .u64 a) = .returned (.int .u64 b) := by rw [h]
theorem ret_bool {a b : Bool} (h : a = b) : Ending.returned (.bool a) = .returned (.bool b) := by rw [h]

theorem rword_is (k c r o : Int) (w : World) (hk : 0 ≤ k) (hc : 0 ≤ c) (hr : 0 ≤ r) (ho : 0 ≤ o) (hk1 : k ≤ 255) (hc1 : c ≤ 255) (hr1 : r ≤ 255) (ho1 : o ≤ 255) :
    Calls Tryz.prog 70 #[.agg #[.int .u8 k, .int .u8 c, .int .u8 r, .int .u8 o]] w fun e w' => e = .returned (.int .u64 (wordE k c r o)) ∧ Kp [] w w' := by
  go_enter Tryz.func70, Tryz.ntmps70
  go_wp2
  go_ret
  exact ⟨ret_u64 (by simp only [wordE]; omega), kp_of_below (by go_grown)⟩

set_option maxHeartbeats 1000000 in
theorem rmay_is (k c r o : Int) (b : Bool) (w : World) (hk : 0 ≤ k) (hc : 0 ≤ c) (hr : 0 ≤ r) (ho : 0 ≤ o) (h : mayE k c r o = b) :
    Calls Tryz.prog 99 #[.agg #[.int .u8 k, .int .u8 c, .int .u8 r, .int .u8 o]] w fun e w' => e = .returned (.bool b) ∧ Kp [] w w' := by
  subst h
  go_enter Tryz.func99, Tryz.ntmps99
  go_wp2
  all_goals go_ret
  all_goals (refine ⟨ret_bool ?_, kp_of_below (by go_grown)⟩)
  all_goals (rw [eq_comm]; first
    | (rw [mayE_false]; omega)
    | (rw [Bool.eq_iff_iff, mayE_iff]; first | omega | (simp_all; done) | (simp_all; omega) | (by_cases q2 : k = 2 <;> by_cases q5 : k = 5 <;> by_cases q0 : 0 < r <;> first | omega | (simp_all; done) | (simp_all; omega))))

theorem rword_parts (x : Int) (w : World) (h0 : 0 ≤ x) :
    Calls Tryz.prog 70 #[.agg #[.int .u8 (x % 8), .int .u8 (x / 8 % 4), .int .u8 (x / 32 % 4), .int .u8 (x / 128 % 64)]] w fun e w' => e = .returned (.int .u64 (x % 8192)) ∧ Kp [] w w' :=
  (rword_is _ _ _ _ w (by omega) (by omega) (by omega) (by omega) (by omega) (by omega) (by omega) (by omega)).mono fun e w' ⟨he, hk⟩ => ⟨by rw [he, word_mod], hk⟩

theorem rtake_core (x n k c r o : Int) (b b2 : Bool) (w : World) (h0 : 0 ≤ x) (h1 : x < 18446744073709551616) (hm : mayE (x % 8) (x / 8 % 4) (x / 32 % 4) (x / 128 % 64) = b) (hne : (x % 8192 != x) = b2)
    (hb : (b = true ∧ b2 = false ∧ n = 0 ∧ k = x % 8 ∧ c = x / 8 % 4 ∧ r = x / 32 % 4 ∧ o = x / 128 % 64) ∨ (b = true ∧ b2 = true ∧ n = 3 ∧ k = 0 ∧ c = 0 ∧ r = 0 ∧ o = 0) ∨ (b = false ∧ n = 3 ∧ k = 0 ∧ c = 0 ∧ r = 0 ∧ o = 0)) :
    Calls Tryz.prog 71 #[.int .u64 x] w fun e w' => e = .returned (.tuple #[.agg #[.int .u8 k, .int .u8 c, .int .u8 r, .int .u8 o], .int .i64 n]) ∧ Kp [] w w' := by
  have hmay := Lib.hid (fun w => rmay_is _ _ _ _ b w (by omega) (by omega) (by omega) (by omega) hm)
  have hwd := Lib.hid (fun w => rword_parts x w h0)
  clear hm
  rcases hb with ⟨rfl, rfl, rfl, rfl, rfl, rfl, rfl⟩ | ⟨rfl, rfl, rfl, rfl, rfl, rfl, rfl⟩ | ⟨rfl, rfl, rfl, rfl, rfl, rfl⟩
  · go_enter Tryz.func71, Tryz.ntmps71
    go_wp2_with fail
    refine (hmay.out _).mono ?_; rintro e w1 ⟨rfl, hk⟩
    obtain ⟨hc1, hf1⟩ := bcell hk.to_below
    have blk := Lib.hid (hk.row (by simp) (heap_alloc2_old w _ _))
    have kp := Lib.hid ((((Kp.refl [] w).alloc _).alloc _).trans hk)
    have hz : w.heap.size + 1 < w1.heap.size := by have := hk.size; simp at this; omega
    clear hk
    go_wp2_with fail
    refine (hwd.out _).mono ?_; rintro e w2 ⟨rfl, hk⟩
    obtain ⟨hc2, hf2⟩ := bcell hk.to_below
    have blk2 := Lib.hid (hk.row (by simp) blk.out)
    have kp2 := Lib.hid (kp.out.trans hk)
    clear hk
    go_wp2_with (refine wpList_store_row rfl 103 _ _ rfl w.heap.size _ rfl rfl 103 _ blk2.out (by kernel_rfl) rfl (by simp [Value.oneCell']) ?_)
    exact bodyPost_row_tmp rfl w.heap.size 103 _ (0, 0) _ (.int .i64 0) rfl rfl rfl (setRow_heap _ _ _ _ _ _ blk2.out) Tryz.underlying103 rfl (by kernel_rfl)
      ⟨rfl, kp2.out.setRow (.inr (Nat.le_refl _)) _⟩
  · go_enter Tryz.func71, Tryz.ntmps71
    go_wp2_with fail
    refine (hmay.out _).mono ?_; rintro e w1 ⟨rfl, hk⟩
    obtain ⟨hc1, hf1⟩ := bcell hk.to_below
    have blk := Lib.hid (hk.row (by simp) (heap_alloc2_old w _ _))
    have kp := Lib.hid ((((Kp.refl [] w).alloc _).alloc _).trans hk)
    have hz : w.heap.size + 1 < w1.heap.size := by have := hk.size; simp at this; omega
    clear hk
    go_wp2_with fail
    refine (hwd.out _).mono ?_; rintro e w2 ⟨rfl, hk⟩
    obtain ⟨hc2, hf2⟩ := bcell hk.to_below
    have blk2 := Lib.hid (hk.row (by simp) blk.out)
    have kp2 := Lib.hid (kp.out.trans hk)
    clear hk
    go_wp2_with (refine wpList_store_row rfl 103 _ _ rfl w.heap.size _ rfl rfl 103 _ blk2.out (by kernel_rfl) rfl (by simp [Value.oneCell']) ?_)
    exact bodyPost_row_tmp rfl w.heap.size 103 _ (0, 0) _ (.int .i64 3) rfl rfl rfl (setRow_heap _ _ _ _ _ _ blk2.out) Tryz.underlying103 rfl (by kernel_rfl)
      ⟨rfl, kp2.out.setRow (.inr (Nat.le_refl _)) _⟩
  · go_enter Tryz.func71, Tryz.ntmps71
    go_wp2_with fail
    refine (hmay.out _).mono ?_; rintro e w1 ⟨rfl, hk⟩
    obtain ⟨hc1, hf1⟩ := bcell hk.to_below
    have blk := Lib.hid (hk.row (by simp) (heap_alloc2_old w _ _))
    have kp := Lib.hid ((((Kp.refl [] w).alloc _).alloc _).trans hk)
    have hz : w.heap.size + 1 < w1.heap.size := by have := hk.size; simp at this; omega
    clear hk
    go_wp2_with (refine wpList_store_row rfl 103 _ _ rfl w.heap.size _ rfl rfl 103 _ blk.out (by kernel_rfl) rfl (by simp [Value.oneCell']) ?_)
    exact bodyPost_row_tmp rfl w.heap.size 103 _ (0, 0) _ (.int .i64 3) rfl rfl rfl (setRow_heap _ _ _ _ _ _ blk.out) Tryz.underlying103 rfl (by kernel_rfl)
      ⟨rfl, kp.out.setRow (.inr (Nat.le_refl _)) _⟩

theorem rtake_some (x : Int) (w : World) (h0 : 0 ≤ x) (h : takeE x = true) :
    Calls Tryz.prog 71 #[.int .u64 x] w fun e w' => e = .returned (.tuple #[.agg #[.int .u8 (x % 8), .int .u8 (x / 8 % 4), .int .u8 (x / 32 % 4), .int .u8 (x / 128 % 64)], .int .i64 0]) ∧ Kp [] w w' := by
  have h' := h
  simp only [takeE, Bool.and_eq_true, decide_eq_true_eq] at h'
  exact rtake_core x 0 _ _ _ _ true false w h0 (by omega) h'.2 (by simp; omega) (.inl ⟨rfl, rfl, rfl, rfl, rfl, rfl, rfl⟩)
theorem rtake_none (x : Int) (w : World) (h0 : 0 ≤ x) (h1 : x < 18446744073709551616) (h : takeE x = false) :
    Calls Tryz.prog 71 #[.int .u64 x] w fun e w' => e = .returned (.tuple #[.agg #[.int .u8 0, .int .u8 0, .int .u8 0, .int .u8 0], .int .i64 3]) ∧ Kp [] w w' := by
  by_cases hm : mayE (x % 8) (x / 8 % 4) (x / 32 % 4) (x / 128 % 64) = true
  · have hx : ¬ x < 8192 := by intro hx; simp [takeE, hx, hm] at h
    exact rtake_core x 3 _ _ _ _ true true w h0 h1 hm (by simp; omega) (.inr (.inl ⟨rfl, rfl, rfl, rfl, rfl, rfl, rfl⟩))
  · exact rtake_core x 3 _ _ _ _ false _ w h0 h1 (by simpa using hm) rfl (.inr (.inr ⟨rfl, rfl, rfl, rfl, rfl, rfl⟩))

end Go.Proofs.YtbpgkocbfleajaaGreatDoor.Tb

namespace Go.Proofs.YtbpgkocbfleajaaGreatDoor
set_option linter.unusedVariables false
set_option linter.unusedSimpArgs false
set_option maxRecDepth 100000
open Go.RowKit
variable {Bz : Nat}

/-- The document's heap by value: its words lie at a slice, its layout beside it. -/
abbrev hV (b c N T G n : Nat) : Value := .agg #[.slice (some ⟨b, 0, none⟩) N c, .int .i64 T, .int .i64 G, .int .i64 n]
structure Dh (Bz T G n b c : Nat) (H : List Int) (w : World) : Prop where
  ww : Ww Bz w b c H
  len : 3 + T + G + 33 * n ≤ H.length
  top : H.length ≤ 4096
  ok : ∀ k, 0 ≤ H.getD k 0 ∧ H.getD k 0 < 18446744073709551616
  hT : T ≤ 64
  hG : G ≤ 8
  hn : n ≤ 64

section
variable {T G n b c : Nat} {H : List Int} {w w' : World}
theorem Ww.on {base : Nat} {xs : List Int} (h : Ww base w b c xs) (k : Kp [] w w') : Ww base w' b c xs := Gx.Rw.keep0 h k
theorem Ww.low {base base' : Nat} {xs : List Int} (h : Ww base w b c xs) (hx : 0 < xs.length) (hb : base' ≤ base) : Ww base' w b c xs := by
  unfold Ww at *
  rcases h.own.2 with ⟨h0, h1⟩ | ⟨g, c', cur, he, hge, r⟩
  · simp at h0
  · exact ⟨h.own.1, .inr ⟨g, c', cur, he, Nat.le_trans hb hge, r⟩⟩
theorem Dh.on (h : Dh Bz T G n b c H w) (k : Kp [] w w') : Dh Bz T G n b c H w' := ⟨h.ww.on k, h.len, h.top, h.ok, h.hT, h.hG, h.hn⟩
theorem Dh.cell (h : Dh Bz T G n b c H w) {k : Nat} (hk : k < H.length) : w.cell? ⟨b, k, none⟩ = some (.int .u64 (H.getD k 0)) := by
  obtain ⟨_, cur, hc, ht, _⟩ := h.ww.heap (by omega)
  rw [cell_of_row hc, ← ws_get H k hk, ← ht, List.getElem?_take_of_lt hk]; simp
theorem Dh.with (h : Dh Bz T G n b c H w) {k : Nat} (hk : k < H.length) {x : Int} (h0 : 0 ≤ x) (h1 : x < 18446744073709551616) :
    Calls Tryz.prog 34 #[hV b c H.length T G n, .int .i64 k, .int .u64 x] w fun e w' => ∃ b' c', e = .returned (hV b' c' H.length T G n) ∧ Dh Bz T G n b' c' (H.set k x) w' ∧ Kp [] w w' := by
  have hB : Bz ≤ w.heap.size := by
    obtain ⟨h1, cur, h2⟩ := Gx.Rw.block h.ww b (by rw [Gx.blk_some]; simp)
    exact Nat.le_trans h1 (Nat.le_of_lt (lt_of_block h2))
  refine (h_with w Bz b c H T G n k x h.ww hk h.top).mono ?_
  rintro e w' ⟨b', c', rfl, h2, h3⟩
  refine ⟨b', c', rfl, ⟨h2.low (by simp; omega) hB, by simpa using h.len, by simpa using h.top, fun j => ?_, h.hT, h.hG, h.hn⟩, h3⟩
  rw [getD_set']
  split
  · exact ⟨h0, h1⟩
  · exact h.ok j

theorem rtake_part (x : Int) (w : World) (h0 : 0 ≤ x) (h1 : x < 18446744073709551616) :
    Calls Tryz.prog 71 #[.int .u64 x] w fun e w' => e = .returned (.tuple #[.agg #[.int .u8 (ek x), .int .u8 (ec x), .int .u8 (er x), .int .u8 (eo x)], .int .i64 (ee x)]) ∧ Kp [] w w' := by
  unfold ek ec er eo ee
  cases h : Tb.takeE x
  · exact Tb.rtake_none x w h0 h1 h
  · exact Tb.rtake_some x w h0 h

/-- What a drawn region holds on to: the heap's box. -/
def Hs4 (a b c N T G n : Nat) (wx : World) : Prop :=
  wx.cell? ⟨a, 0, none⟩ = some (.slice (some ⟨b, 0, none⟩) N c) ∧ wx.cell? ⟨a, 1, none⟩ = some (.int .i64 T) ∧ wx.cell? ⟨a, 2, none⟩ = some (.int .i64 G) ∧ wx.cell? ⟨a, 3, none⟩ = some (.int .i64 n)
theorem Hs4.keep {a N : Nat} {S : List Nat} (h : Hs4 a b c N T G n w) (k : Kp S w w') (ha : a ∉ S) : Hs4 a b c N T G n w' := by
  obtain ⟨h0, h1, h2, h3⟩ := h
  exact ⟨kp_cell k ha h0, kp_cell k ha h1, kp_cell k ha h2, kp_cell k ha h3⟩

/-- The same, and an entry's box. -/
def Hs8 (a e b c N T G n : Nat) (k cl r o : Int) (wx : World) : Prop :=
  wx.cell? ⟨a, 0, none⟩ = some (.slice (some ⟨b, 0, none⟩) N c) ∧ wx.cell? ⟨a, 1, none⟩ = some (.int .i64 T) ∧ wx.cell? ⟨a, 2, none⟩ = some (.int .i64 G) ∧ wx.cell? ⟨a, 3, none⟩ = some (.int .i64 n) ∧ wx.cell? ⟨e, 0, none⟩ = some (.int .u8 k) ∧ wx.cell? ⟨e, 1, none⟩ = some (.int .u8 cl) ∧ wx.cell? ⟨e, 2, none⟩ = some (.int .u8 r) ∧ wx.cell? ⟨e, 3, none⟩ = some (.int .u8 o)
theorem Hs8.keep {a e N : Nat} {k cl r o : Int} {S : List Nat} (h : Hs8 a e b c N T G n k cl r o w) (kk : Kp S w w') (ha : a ∉ S) (he : e ∉ S) : Hs8 a e b c N T G n k cl r o w' := by
  obtain ⟨h0, h1, h2, h3, h4, h5, h6, h7⟩ := h
  exact ⟨kp_cell kk ha h0, kp_cell kk ha h1, kp_cell kk ha h2, kp_cell kk ha h3, kp_cell kk he h4, kp_cell kk he h5, kp_cell kk he h6, kp_cell kk he h7⟩
/-- A box of another type turns. -/
theorem Dh.box (h : Dh Bz T G n b c H w) {a : Nat} {cs : Array Value} {v0 v1 v2 v3 : Value} (ha : w.heap[a]? = some (.cells cs 47 (0, 0))) : Dh Bz T G n b c H (put4v w a v0 v1 v2 v3) := by
  refine ⟨?_, h.len, h.top, h.ok, h.hT, h.hG, h.hn⟩
  refine Gx.Rw.keep h.ww (put4v_kp _ _ _ _ _ _) fun g hg e => ?_
  simp only [List.mem_singleton] at e
  subst e
  obtain ⟨_, cur, hc⟩ := Gx.Rw.block h.ww g hg
  rw [ha] at hc
  simp at hc

/-- SetEntry's boxes: the heap's, the entry's, the answer's. -/
def sw (w : World) (b c N T G n : Nat) (k cl r o : Int) : World := ((w.alloc (.cells #[.slice (some ⟨b, 0, none⟩) N c, .int .i64 T, .int .i64 G, .int .i64 n] 47)).alloc (.cells #[.int .u8 k, .int .u8 cl, .int .u8 r, .int .u8 o] 103)).alloc (.cells #[.slice none 0 0, .int .i64 0, .int .i64 0, .int .i64 0] 47)
theorem sw_kp (w : World) (b c N T G n : Nat) (k cl r o : Int) : Kp [] w (sw w b c N T G n k cl r o) := (((Kp.refl _ _).alloc _).alloc _).alloc _
theorem sw_rows (w : World) (b c N T G n : Nat) (k cl r o : Int) : (sw w b c N T G n k cl r o).heap[w.heap.size]? = some (.cells #[.slice (some ⟨b, 0, none⟩) N c, .int .i64 T, .int .i64 G, .int .i64 n] 47 (0, 0)) ∧ (sw w b c N T G n k cl r o).heap[w.heap.size + 1]? = some (.cells #[.int .u8 k, .int .u8 cl, .int .u8 r, .int .u8 o] 103 (0, 0)) ∧ (sw w b c N T G n k cl r o).heap[w.heap.size + 2]? = some (.cells #[.slice none 0 0, .int .i64 0, .int .i64 0, .int .i64 0] 47 (0, 0)) := by
  have z1 := World.size_alloc w (.cells #[.slice (some ⟨b, 0, none⟩) N c, .int .i64 T, .int .i64 G, .int .i64 n] 47)
  have z2 := World.size_alloc (w.alloc (.cells #[.slice (some ⟨b, 0, none⟩) N c, .int .i64 T, .int .i64 G, .int .i64 n] 47)) (.cells #[.int .u8 k, .int .u8 cl, .int .u8 r, .int .u8 o] 103)
  refine ⟨?_, ?_, ?_⟩
  · exact (((Kp.refl [] _).alloc _).alloc _).row (by simp) (heap_alloc_new w _)
  · exact ((Kp.refl [] _).alloc _).row (by simp) (by rw [← z1]; exact heap_alloc_new _ _)
  · rw [show w.heap.size + 2 = w.heap.size + 1 + 1 from rfl, ← z1, ← z2]; exact heap_alloc_new _ _

set_option maxHeartbeats 4000000 in
theorem d_setEntry (h : Dh Bz T G n b c H w) (i : Nat) (hi : i < n) (k cl r o : Int) (k0 : 0 ≤ k) (c0 : 0 ≤ cl) (r0 : 0 ≤ r) (o0 : 0 ≤ o) (hm : Tb.mayE k cl r o = true) :
    Calls Tryz.prog 108 #[hV b c H.length T G n, .int .i64 i, .agg #[.int .u8 k, .int .u8 cl, .int .u8 r, .int .u8 o]] w fun e w' => ∃ b' c', e = .returned (hV b' c' H.length T G n) ∧ Dh Bz T G n b' c' (H.set (3 + T + G + i) (Tb.wordE k cl r o)) w' ∧ Kp [] w w' := by
  have hmi := Tb.mayE_iff.1 hm
  have hw := Tb.wordE_lt k0 c0 r0 o0 hm
  have HEn := Lib.hid (fun w => Ly.rentry_is T G n i ((3 + T + G + i : Nat) : Int) w (by rw [Ly.rowP_in (by omega) (by omega)]; omega) (by omega) (by have := h.hT; omega) (by omega) (by have := h.hG; omega) (by omega) (by have := h.hn; omega))
  have HWd := Lib.hid (fun w => Tb.rword_is k cl r o w k0 c0 r0 o0 (by omega) (by omega) (by omega) (by omega))
  have HWt := Lib.hid (fun (w' : World) (kk : Kp [] w w') => (h.on kk).with (k := 3 + T + G + i) (by have := h.len; omega) hw.1 (by omega))
  have HK0 := Lib.hid (sw_kp w b c H.length T G n k cl r o)
  have HR0 := Lib.hid (sw_rows w b c H.length T G n k cl r o)
  generalize 3 + T + G + i = P at HEn HWt ⊢
  generalize H.length = N at HWt HK0 HR0 ⊢
  obtain ⟨W0, hW0⟩ : ∃ W0, W0 = sw w b c N T G n k cl r o := ⟨_, rfl⟩
  rw [← hW0] at HK0 HR0
  unfold sw at hW0
  clear h hi hm hmi hw k0 c0 r0 o0
  generalize Tb.wordE k cl r o = x at HWd HWt ⊢
  have HS0 : Hid (Hs4 w.heap.size b c N T G n W0) := Lib.hid ⟨cell_of_row HR0.out.1 0, cell_of_row HR0.out.1 1, cell_of_row HR0.out.1 2, cell_of_row HR0.out.1 3⟩
  have HW0 := Lib.hid hW0
  clear hW0
  go_enter Tryz.func108, Tryz.ntmps108
  go_upto_region 1 with (fail)
  rw [← HW0.out]
  have HS8 : Hid (Hs8 w.heap.size (w.heap.size + 1) b c N T G n k cl r o W0) := Lib.hid ⟨HS0.out.1, HS0.out.2.1, HS0.out.2.2.1, HS0.out.2.2.2, cell_of_row HR0.out.2.1 0, cell_of_row HR0.out.2.1 1, cell_of_row HR0.out.2.1 2, cell_of_row HR0.out.2.1 3⟩
  go_region_held3 (fun wx => wx.cell? ⟨w.heap.size, 0, none⟩ = some (.slice (some ⟨b, 0, none⟩) N c) ∧ wx.cell? ⟨w.heap.size, 1, none⟩ = some (.int .i64 T) ∧ wx.cell? ⟨w.heap.size, 2, none⟩ = some (.int .i64 G) ∧ wx.cell? ⟨w.heap.size, 3, none⟩ = some (.int .i64 n) ∧ wx.cell? ⟨w.heap.size + 1, 0, none⟩ = some (.int .u8 k) ∧ wx.cell? ⟨w.heap.size + 1, 1, none⟩ = some (.int .u8 cl) ∧ wx.cell? ⟨w.heap.size + 1, 2, none⟩ = some (.int .u8 r) ∧ wx.cell? ⟨w.heap.size + 1, 3, none⟩ = some (.int .u8 o))
    (first
      | assumption
      | exact Hs8.keep HS8.out ((Kp.refl [] _).drew) (by simp) (by simp)
      | exact Hs8.keep ‹Hs8 w.heap.size (w.heap.size + 1) b c N T G n k cl r o _› hk9 (by simp) (by simp)
      | exact Hs8.keep (HS8.out.keep K7.out (by simp) (by simp)) (put4v_kp _ _ _ _ _ _) (by simp; omega) (by simp))
    (first
    | (go_at_call 69
       refine (HEn.out _).mono ?_
       rintro e w5 ⟨rfl, hk9⟩
       have K5 : Hid (Kp [] W0 w5) := Lib.hid (by refine Kp.trans ?_ hk9; exact ⟨rfl, rfl, rfl, Nat.le_refl _, fun _ _ _ => rfl⟩))
    | (go_at_call 70
       refine (HWd.out _).mono ?_
       rintro e w6 ⟨rfl, hk9⟩
       have K6 : Hid (Kp [] W0 w6) := Lib.hid (K5.out.trans (by refine Kp.trans ?_ hk9; exact ⟨rfl, rfl, rfl, Nat.le_refl _, fun _ _ _ => rfl⟩)))
    | (go_at_call 34
       refine (HWt.out _ ?_).mono ?_
       · exact HK0.out.trans (K6.out.trans ⟨rfl, rfl, rfl, Nat.le_refl _, fun _ _ _ => rfl⟩)
       rintro e w7 ⟨b', c', rfl, hd, hk9⟩
       have K7 : Hid (Kp [] W0 w7) := Lib.hid (K6.out.trans (by refine Kp.trans ?_ hk9; exact ⟨rfl, rfl, rfl, Nat.le_refl _, fun _ _ _ => rfl⟩))
       have hr7 := K7.out.row (by simp) HR0.out.2.2
       have e0 := (cell_of_row hr7 0).trans (show _ = some (.slice none 0 0) from rfl)
       have e1 := (cell_of_row hr7 1).trans (show _ = some (.int .i64 0) from rfl)
       have e2 := (cell_of_row hr7 2).trans (show _ = some (.int .i64 0) from rfl)
       have e3 := (cell_of_row hr7 3).trans (show _ = some (.int .i64 0) from rfl)
       have g0 := free_of_row hr7 0
       have g1 := free_of_row hr7 1
       have g2 := free_of_row hr7 2
       have g3 := free_of_row hr7 3
       have HR7 := Lib.hid hr7
       have HD := Lib.hid hd
       clear hr7 hd))
  all_goals
    rename_i hHeld
    clear hHeld
    go_wp2_with fail
    refine bodyPost_row rfl (w.heap.size + 1 + 1) 47 #[.slice (some ⟨b', 0, none⟩) N c', .int .i64 T, .int .i64 G, .int .i64 n] (0, 0) _ rfl rfl (put4v_row _ _ _ _ HR7.out) Tryz.underlying47 rfl (by kernel_rfl) ⟨b', c', rfl, HD.out.box HR7.out, kp_new_set (HK0.out.trans K7.out) (put4v_kp _ _ _ _ _ _) (by omega)⟩
end

end Go.Proofs.YtbpgkocbfleajaaGreatDoor
