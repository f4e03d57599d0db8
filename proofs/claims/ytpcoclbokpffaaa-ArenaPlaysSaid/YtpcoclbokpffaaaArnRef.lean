/- The walks of the document's own arena (demesneref02): New, Touch. Conditions: as each theorem states them. -/
import Derived.Test.YtpcoclbokpffaaaArnC
import Derived.Test.YtpcoclbokpffaaaLaw
import Derived.OwnWalk
namespace Go.Proofs.Ytpcoclbokpffaaa
set_option linter.unusedVariables false
set_option linter.unusedSimpArgs false
open Go.RowKit

/-- The words ws lie at the head of row g, which has room for cap. -/
structure Rw (w : World) (g cap : Nat) (ws : List Int) : Prop where
  row : ∃ cur : Array Value, w.heap[g]? = some (.cells cur 29 (0, 0)) ∧ ∀ i, i < ws.length → cur[i]? = some (.int .u64 (ws.getD i 0))
  le : ws.length ≤ cap

theorem Rw.keep {w w' : World} {g cap : Nat} {ws : List Int} {S : List Nat} (h : Rw w g cap ws) (k : Kp S w w') (hg : g ∉ S) : Rw w' g cap ws := by
  obtain ⟨⟨cur, h1, h2⟩, h3⟩ := h
  exact ⟨⟨cur, k.row hg h1, h2⟩, h3⟩
theorem Rw.cell {w : World} {g cap : Nat} {ws : List Int} (h : Rw w g cap ws) {i : Nat} (hi : i < ws.length) : w.cell? ⟨g, i, none⟩ = some (.int .u64 (ws.getD i 0)) := by
  obtain ⟨⟨cur, h1, h2⟩, h3⟩ := h
  rw [cell_of_row h1, h2 i hi]
theorem Rw.free {w : World} {g cap : Nat} {ws : List Int} (h : Rw w g cap ws) (i : Nat) : w.frozen? ⟨g, i, none⟩ = false := by
  obtain ⟨⟨cur, h1, h2⟩, h3⟩ := h
  exact free_of_row h1 i
theorem Rw.lt {w : World} {g cap : Nat} {ws : List Int} (h : Rw w g cap ws) : g < w.heap.size := by
  obtain ⟨⟨cur, h1, h2⟩, h3⟩ := h
  exact lt_of_block h1
theorem Rw.store {w : World} {g cap : Nat} {ws : List Int} (h : Rw w g cap ws) {k : Nat} (hk : k < ws.length) (y : Int) : Rw (w.setCell ⟨g, k, none⟩ (.int .u64 y)) g cap (ws.set k y) := by
  obtain ⟨⟨cur, h1, h2⟩, h3⟩ := h
  refine ⟨⟨_, heap_setCell_same w g k _ _ _ h1, ?_⟩, by simpa using h3⟩
  intro i hi
  have hi' : i < ws.length := by simpa using hi
  have hks : k < cur.size := by
    have := h2 k hk
    exact (Array.getElem?_eq_some_iff.1 this).1
  by_cases e : k = i
  · subst e
    rw [Array.getElem?_setIfInBounds_self_of_lt hks]
    simp [List.getD, hk]
  · rw [Array.getElem?_setIfInBounds_ne e, h2 i hi']
    simp [List.getD, e]

theorem rw_of_u64s {w : World} {g : Nat} {ws : List Int} (h : w.heap[g]? = some (.cells (u64s ws) 29 (0, 0))) : Rw w g ws.length ws := ⟨⟨_, h, fun i hi => u64s_get ws i hi⟩, Nat.le_refl _⟩

/-- 'append(nil, ws...)': the words again, in a row that is new. -/
theorem wpList_append_copy {w : World} {ops : Array Oper} {rest : List Oper} {o : Oper} {a : Act} {Q : Exit → Act → World → Prop} (hgd : o.guard = none) (s x : Operand)
    (ho : o.op = .call { callee := .builtin .append, args := #[s, x], argTypes := #[28, 28] }) (g0 cap0 n : Nat) (ws : List Int) (hn : n = ws.length) (hs : a.eval s = .slice none 0 0) (hx : a.eval x = .slice (some ⟨g0, 0, none⟩) n cap0)
    (hrow : Rw w g0 cap0 ws) (h1 : 1 ≤ n) (h2 : n ≤ 4096)
    (h : ∀ g cap w', Rw w' g cap ws → w.heap.size ≤ g → Kp [] w w' → wpList Try.prog ops Q rest (a.put o.dst (.slice (some ⟨g, 0, none⟩) n cap)) w') : wpList Try.prog ops Q (o :: rest) a w := by
  subst hn
  obtain ⟨i, hi, hz0, hz1, hz2⟩ := info_parts (P := Try.prog) (e := 29) (z := .int .u64 0) (size := 1) (bytes := 8) (by kernel_rfl)
  refine wpList_append_own _ hgd s x 28 ho w.heap.size 29 i (.int .u64 0) 1 8 Try.underlying28 hi hz0 hz1 hz2 rfl (by decide) _ 0 [] hs (World.ownsRow_nil _ _ _ _) ⟨g0, 0, none⟩ ws.length cap0 (ws.map (Value.int .u64)) hx (by simp) ?_ ?_ ?_ ?_ (Nat.le_refl _) ?_
  · intro j u hu
    rw [Addr.add_lit, Nat.zero_add]
    have hj : j < ws.length := by
      have := (List.getElem?_eq_some_iff.1 hu).1
      simpa using this
    rw [hrow.cell hj]
    simpa [List.getD, hj] using hu
  · intro u hu
    obtain ⟨_, _, rfl⟩ := List.mem_map.1 hu
    rfl
  · unfold maxLen; omega
  · omega
  · intro v' w' hown hg hnil
    obtain ⟨_, hown⟩ := hown
    rcases hown with ⟨rfl, h0⟩ | ⟨g, cap, cur, rfl, hge, hh, hle, hmx, hsz, htk⟩
    · omega
    · rw [Nat.zero_add] at hle htk ⊢
      refine h g cap w' ⟨⟨cur, hh, ?_⟩, hle⟩ hge ((Kp.refl [] w).grown hg (fun k hk => by cases hk))
      intro j hj
      have e : (cur.toList.take (ws.length * 1))[j]? = some (.int .u64 (ws.getD j 0)) := by
        rw [htk]; simp [List.getD, hj]
      rw [List.getElem?_take_of_lt (by omega)] at e
      simpa using e

theorem rnew_good (w : World) (n : Nat) (h1 : 1 ≤ n) (h2 : n ≤ 4096) : Calls Try.prog 8 #[.int .i64 n] w fun e w' => e = .returned (.agg #[.slice (some ⟨w.heap.size + 1, 0, none⟩) n n, .int .u64 0, .int .i64 (-1)]) ∧ Rw w' (w.heap.size + 1) n (List.replicate n 0) ∧ Kp [] w w' := by
  have hmk := make_u64s n h2
  go_enter Try.func8, Try.ntmps8
  go_wp2
  refine bodyPost_row rfl w.heap.size 31 _ (0, 0) _ rfl rfl (heap_alloc2_old w _ _) Try.underlying31 rfl (by kernel_rfl) ⟨rfl, ?_, ((Kp.refl _ _).alloc _).alloc _⟩
  have := heap_alloc_new (w.alloc (Obj.cells #[Value.slice (some { block := w.heap.size + 1, off := 0 }) n n, Value.int IntKind.u64 0, Value.int IntKind.i64 (-1)] 31)) (Obj.cells (u64s (List.replicate n 0)) 29)
  rw [World.size_alloc] at this
  have r := rw_of_u64s this
  simpa using r

/-- Touch at a place that there is not: as it was, 0. -/
theorem rtouch_out (w : World) (g cap n : Nat) (t : Nat) (l k v : Int) (wr : Bool) (hn : n ≤ 4096) (hk : k < 0 ∨ (0 ≤ k ∧ (n : Int) ≤ k)) :
    Calls Try.prog 9 #[.agg #[.slice (some ⟨g, 0, none⟩) n cap, .int .u64 t, .int .i64 l], .int .i64 k, .bool wr, .int .u64 v] w fun e w' =>
      e = .returned (.tuple #[.agg #[.slice (some ⟨g, 0, none⟩) n cap, .int .u64 t, .int .i64 l], .int .u64 0]) ∧ Kp [] w w' := by
  rcases hk with hk | ⟨hk0, hk⟩
  · go_enter Try.func9, Try.ntmps9
    go_wp2
    have hz := heap_alloc_new (w.alloc (Obj.cells #[.slice (some ⟨g, 0, none⟩) n cap, .int .u64 t, .int .i64 l] 31)) (Obj.cells #[.slice (some ⟨g, 0, none⟩) n cap, .int .u64 t, .int .i64 l] 31)
    rw [World.size_alloc] at hz
    exact bodyPost_row_tmp rfl (w.heap.size + 1) 31 _ (0, 0) _ (.int .u64 0) rfl rfl rfl hz Try.underlying31 rfl (by kernel_rfl) ⟨rfl, ((Kp.refl _ _).alloc _).alloc _⟩
  · go_enter Try.func9, Try.ntmps9
    go_wp2
    have hz := heap_alloc_new (w.alloc (Obj.cells #[.slice (some ⟨g, 0, none⟩) n cap, .int .u64 t, .int .i64 l] 31)) (Obj.cells #[.slice (some ⟨g, 0, none⟩) n cap, .int .u64 t, .int .i64 l] 31)
    rw [World.size_alloc] at hz
    exact bodyPost_row_tmp rfl (w.heap.size + 1) 31 _ (0, 0) _ (.int .u64 0) rfl rfl rfl hz Try.underlying31 rfl (by kernel_rfl) ⟨rfl, ((Kp.refl _ _).alloc _).alloc _⟩

/-- Touch at a place that there is: what is there; and the arena behind it. -/
theorem rtouch_in (w : World) (g cap : Nat) (ws : List Int) (t : Nat) (l k v : Int) (wr : Bool) (hrow : Rw w g cap ws) (hn1 : 1 ≤ ws.length) (hn : ws.length ≤ 4096) (ht : t ≤ 4096) (hk0 : 0 ≤ k) (hk1 : k < ws.length) :
    Calls Try.prog 9 #[.agg #[.slice (some ⟨g, 0, none⟩) ws.length cap, .int .u64 t, .int .i64 l], .int .i64 k, .bool wr, .int .u64 v] w fun e w' =>
      ∃ g' cap', e = .returned (.tuple #[.agg #[.slice (some ⟨g', 0, none⟩) ws.length cap', .int .u64 (t + 1 : Nat), .int .i64 k], .int .u64 (ws.getD k.toNat 0)]) ∧ Rw w' g' cap' (if wr then ws.set k.toNat v else ws) ∧ w.heap.size ≤ g' ∧ Kp [] w w' := by
  have hkn : k.toNat < ws.length := by omega
  obtain ⟨n, hnn⟩ : ∃ n, n = ws.length := ⟨_, rfl⟩
  have HN := Lib.hid hnn
  have hwn : 1 ≤ n ∧ n ≤ 4096 ∧ k < n := by omega
  obtain ⟨hw1, hw2, hw3⟩ := hwn
  rw [← hnn]
  have hka := ((Kp.refl [] w).alloc (Obj.cells #[.slice (some ⟨g, 0, none⟩) n cap, .int .u64 t, .int .i64 l] 31)).alloc (Obj.cells #[.slice none 0 0, .int .u64 0, .int .i64 0] 31)
  have hr2 := hrow.keep hka (by simp)
  have hb1 := heap_alloc2_old w (Obj.cells #[.slice (some ⟨g, 0, none⟩) n cap, .int .u64 t, .int .i64 l] 31) (Obj.cells #[.slice none 0 0, .int .u64 0, .int .i64 0] 31)
  have hb2 := heap_alloc_new (w.alloc (Obj.cells #[.slice (some ⟨g, 0, none⟩) n cap, .int .u64 t, .int .i64 l] 31)) (Obj.cells #[.slice none 0 0, .int .u64 0, .int .i64 0] 31)
  rw [World.size_alloc] at hb2
  clear hnn hk1 hn hn1
  obtain ⟨z, hz⟩ : ∃ z, z = ws.getD k.toNat 0 := ⟨_, rfl⟩
  have HZ := Lib.hid hz
  rw [← hz]
  clear hz
  cases wr
  · go_enter Try.func9, Try.ntmps9
    go_wp2_with (first
      | (at_builtin; refine wpList_append_copy rfl _ _ rfl g cap n ws HN.out rfl rfl hr2 hw1 hw2 ?_; intro g3 cap3 w3 hr3 hge3 hk3; have c3 := (hr3.cell hkn).trans (by rw [← HZ.out]); have d1 := cell_of_row (hk3.row (by simp) hb1) 1; have B2 := Lib.hid (hk3.row (by simp) hb2); have HR := Lib.hid hr3; have HK := Lib.hid (hka.trans hk3); have HG := Lib.hid hge3; clear hr3 hge3 hk3)
      | (refine wpList_store_row rfl 31 _ _ rfl (w.heap.size + 1) _ rfl rfl 31 _ B2.out (by kernel_rfl) rfl (by simp [Value.oneCell']) ?_))
    have hg3 : w.heap.size + 2 ≤ g3 := by have := HG.out; simpa using this
    exact bodyPost_row_tmp rfl (w.heap.size + 1) 31 _ (0, 0) _ (.int .u64 z) rfl rfl rfl (setRow_heap _ _ _ _ _ _ B2.out) Try.underlying31 rfl (by kernel_rfl)
      ⟨g3, cap3, rfl, HR.out.keep ((Kp.refl [w.heap.size + 1] w3).setRow (.inl (by simp)) _) (by simp; omega), by omega, HK.out.setRow (.inr (by omega)) _⟩
  · go_enter Try.func9, Try.ntmps9
    go_wp2_with (first
      | (at_builtin; refine wpList_append_copy rfl _ _ rfl g cap n ws HN.out rfl rfl hr2 hw1 hw2 ?_; intro g3 cap3 w3 hr3 hge3 hk3; have c3 := (hr3.cell hkn).trans (by rw [← HZ.out]); have f3 := hr3.free k.toNat; have hg3 : w.heap.size + 2 ≤ g3 := (by simpa using hge3); have hne : ¬ g3 = w.heap.size := (by omega); have d1 := cell_of_row (hk3.row (by simp) hb1) 1; have B2 := Lib.hid ((heap_setCell_other w3 ⟨g3, k.toNat, none⟩ (w.heap.size + 1) (.int .u64 v) (show w.heap.size + 1 ≠ g3 from by omega)).trans (hk3.row (by simp) hb2)); have HR := Lib.hid (hr3.store hkn v); have HK := Lib.hid ((hka.trans hk3).setCell (p := ⟨g3, k.toNat, none⟩) (.inr (show w.heap.size ≤ g3 from by omega)) (.int .u64 v)); clear hr3 hge3 hk3)
      | (refine wpList_store_row rfl 31 _ _ rfl (w.heap.size + 1) _ rfl rfl 31 _ B2.out (by kernel_rfl) rfl (by simp [Value.oneCell']) ?_))
    exact bodyPost_row_tmp rfl (w.heap.size + 1) 31 _ (0, 0) _ (.int .u64 z) rfl rfl rfl (setRow_heap _ _ _ _ _ _ B2.out) Try.underlying31 rfl (by kernel_rfl)
      ⟨g3, cap3, rfl, HR.out.keep ((Kp.refl [w.heap.size + 1] _).setRow (.inl (by simp)) _) (by simp; omega), by omega, HK.out.setRow (.inr (by omega)) _⟩

end Go.Proofs.Ytpcoclbokpffaaa
