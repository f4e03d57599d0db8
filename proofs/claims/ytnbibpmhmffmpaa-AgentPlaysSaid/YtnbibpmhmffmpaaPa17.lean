/- AgentPlays: what came in; rows of words; the document's Step. Written by gen/ap_b.py. AgentPlays: programs that came in; what is too great; the document's Step, whatever is done. Written by gen/ap_c.py. Conditions: as each theorem states them. -/
import Derived.Lib.Hide
import Derived.OwnWalk
import Derived.Deep.CutBlock
import Derived.Deep.DeepCutAuto
import Derived.Test.YtnbibpmhmffmpaaPa10
import Derived.Test.YtnbibpmhmffmpaaPa16
namespace Go.Proofs.Ytnbibpmhmffmpaa
set_option linter.unusedVariables false
set_option linter.unusedSimpArgs false
set_option maxRecDepth 100000
open Go.RowKit

/-- The words ws lie at the head of row g, which has room for cap. -/
structure Rm (w : World) (g cap : Nat) (ws : List Int) : Prop where
  row : ∃ cur : Array Value, w.heap[g]? = some (.cells cur 40 (0, 0)) ∧ ∀ i, i < ws.length → cur[i]? = some (.int .u64 (ws.getD i 0))
  le : ws.length ≤ cap

theorem Rm.keep {w w' : World} {g cap : Nat} {ws : List Int} {S : List Nat} (h : Rm w g cap ws) (k : Kp S w w') (hg : g ∉ S) : Rm w' g cap ws := by
  obtain ⟨⟨cur, h1, h2⟩, h3⟩ := h
  exact ⟨⟨cur, k.row hg h1, h2⟩, h3⟩
theorem Rm.cell {w : World} {g cap : Nat} {ws : List Int} (h : Rm w g cap ws) {i : Nat} (hi : i < ws.length) : w.cell? ⟨g, i, none⟩ = some (.int .u64 (ws.getD i 0)) := by
  obtain ⟨⟨cur, h1, h2⟩, h3⟩ := h
  rw [cell_of_row h1, h2 i hi]
theorem Rm.free {w : World} {g cap : Nat} {ws : List Int} (h : Rm w g cap ws) (i : Nat) : w.frozen? ⟨g, i, none⟩ = false := by
  obtain ⟨⟨cur, h1, h2⟩, h3⟩ := h
  exact free_of_row h1 i
theorem Rm.lt {w : World} {g cap : Nat} {ws : List Int} (h : Rm w g cap ws) : g < w.heap.size := by
  obtain ⟨⟨cur, h1, h2⟩, h3⟩ := h
  exact lt_of_block h1
theorem Rm.store {w : World} {g cap : Nat} {ws : List Int} (h : Rm w g cap ws) {k : Nat} (hk : k < ws.length) (y : Int) : Rm (w.setCell ⟨g, k, none⟩ (.int .u64 y)) g cap (ws.set k y) := by
  obtain ⟨⟨cur, h1, h2⟩, h3⟩ := h
  refine ⟨⟨_, heap_setCell_same w g k _ _ _ h1, ?_⟩, by simpa using h3⟩
  intro i hi
  have hi' : i < ws.length := by simpa using hi
  have hks : k < cur.size := by
    have := h2 k hk
    exact (Array.getElem?_eq_some_iff.1 this).1
  by_cases e : k = i
  · subst e
    rw [Array.getElem?_setIfInBounds_self_of_lt hks]
    simp [List.getD, hk]
  · rw [Array.getElem?_setIfInBounds_ne e, h2 i hi']
    simp [List.getD, e]

theorem rm_of_u64s {w : World} {g : Nat} {ws : List Int} (h : w.heap[g]? = some (.cells (u64s ws) 40 (0, 0))) : Rm w g ws.length ws := ⟨⟨_, h, fun i hi => u64s_get ws i hi⟩, Nat.le_refl _⟩

/-- 'append(nil, ws...)': the words again, in a row that is new. -/
theorem wpList_append_copy {w : World} {ops : Array Oper} {rest : List Oper} {o : Oper} {a : Act} {Q : Exit → Act → World → Prop} (hgd : o.guard = none) (s x : Operand)
    (ho : o.op = .call { callee := .builtin .append, args := #[s, x], argTypes := #[32, 32] }) (g0 cap0 n : Nat) (ws : List Int) (hn : n = ws.length) (hs : a.eval s = .slice none 0 0) (hx : a.eval x = .slice (some ⟨g0, 0, none⟩) n cap0)
    (hrow : Rm w g0 cap0 ws) (h1 : 1 ≤ n) (h2 : n ≤ 4096)
    (h : ∀ g cap w', Rm w' g cap ws → w.heap.size ≤ g → Kp [] w w' → wpList Try.prog ops Q rest (a.put o.dst (.slice (some ⟨g, 0, none⟩) n cap)) w') : wpList Try.prog ops Q (o :: rest) a w := by
  subst hn
  obtain ⟨i, hi, hz0, hz1, hz2⟩ := info_parts (P := Try.prog) (e := 40) (z := .int .u64 0) (size := 1) (bytes := 8) (by kernel_rfl)
  refine wpList_append_own _ hgd s x 32 ho w.heap.size 40 i (.int .u64 0) 1 8 Try.underlying32 hi hz0 hz1 hz2 rfl (by decide) _ 0 [] hs (World.ownsRow_nil _ _ _ _) ⟨g0, 0, none⟩ ws.length cap0 (ws.map (Value.int .u64)) hx (by simp) ?_ ?_ ?_ ?_ (Nat.le_refl _) ?_
  · intro j u hu
    rw [Addr.add_lit, Nat.zero_add]
    have hj : j < ws.length := by
      have := (List.getElem?_eq_some_iff.1 hu).1
      simpa using this
    rw [hrow.cell hj]
    simpa [List.getD, hj] using hu
  · intro u hu
    obtain ⟨_, _, rfl⟩ := List.mem_map.1 hu
    rfl
  · unfold maxLen; omega
  · omega
  · intro v' w' hown hg hnil
    obtain ⟨_, hown⟩ := hown
    rcases hown with ⟨rfl, h0⟩ | ⟨g, cap, cur, rfl, hge, hh, hle, hmx, hsz, htk⟩
    · omega
    · rw [Nat.zero_add] at hle htk ⊢
      refine h g cap w' ⟨⟨cur, hh, ?_⟩, hle⟩ hge ((Kp.refl [] w).grown hg (fun k hk => by cases hk))
      intro j hj
      have e : (cur.toList.take (ws.length * 1))[j]? = some (.int .u64 (ws.getD j 0)) := by
        rw [htk]; simp [List.getD, hj]
      rw [List.getElem?_take_of_lt (by omega)] at e
      simpa using e


/-- A touch: what it does, where, what with. -/
abbrev Tch := Int × Int × Int
def tchOk (x : Tch) : Prop := 0 ≤ x.1 ∧ x.1 ≤ 255 ∧ -9223372036854775808 ≤ x.2.1 ∧ x.2.1 < 9223372036854775808 ∧ 0 ≤ x.2.2 ∧ x.2.2 < 18446744073709551616
/-- Touches that lie where a slice leads. -/
def Touches (w : World) (ao : Option Addr) (l : List Tch) : Prop := ∀ i x, l[i]? = some x → tchOk x ∧ ∃ b o, ao = some ⟨b, o, none⟩ ∧ w.cell? ⟨b, o + 3 * i, none⟩ = some (.int .u8 x.1) ∧ w.cell? ⟨b, o + 3 * i + 1, none⟩ = some (.int .i64 x.2.1) ∧ w.cell? ⟨b, o + 3 * i + 2, none⟩ = some (.int .u64 x.2.2)
theorem Touches.keep {w w' : World} {ao : Option Addr} {l : List Tch} (h : Touches w ao l) (k : Kp [] w w') : Touches w' ao l := fun i x hx => by
  obtain ⟨h1, b, o, h2, h3, h4, h5⟩ := h i x hx
  have e : ∀ q, w'.cell? ⟨b, q, none⟩ = w.cell? ⟨b, q, none⟩ := fun q => World.cell?_of_block (k.block b (World.block_lt_of_cell? _ _ h3) (by simp))
  exact ⟨h1, b, o, h2, (e _).trans h3, (e _).trans h4, (e _).trans h5⟩
/-- What a step makes of what was read last, and of the words. -/
def stepL (x : Tch) (last : Int) (ws : List Int) : Int := if x.1 = 1 then last else if 0 ≤ x.2.1 ∧ x.2.1 < ws.length then ws.getD x.2.1.toNat 0 else 0
def stepW (x : Tch) (last : Int) (ws : List Int) : List Int :=
  if 0 ≤ x.2.1 ∧ x.2.1 < ws.length then (if x.1 = 0 then ws else ws.set x.2.1.toNat (IntKind.wrap .u64 ((if x.1 = 1 then last else ws.getD x.2.1.toNat 0) + x.2.2))) else ws

/-- At the end. -/
theorem rstep_end (w : World) (la : Option Addr) (n cp done g cap m : Nat) (last : Int) (h : done = n) (hn : n ≤ 1000) :
    Calls Try.prog 13 #[.agg #[.slice la n cp, .int .i64 done, .int .u64 last], .slice (some ⟨g, 0, none⟩) m cap] w fun e w' =>
      e = .returned (.tuple #[.agg #[.slice la n cp, .int .i64 done, .int .u64 last], .slice (some ⟨g, 0, none⟩) m cap, .bool false]) ∧ Kp [] w w' := by
  subst h
  go_enter Try.func13, Try.ntmps13
  go_wp2
  have hz := heap_alloc_new (w.alloc (Obj.cells #[.slice la done cp, .int .i64 done, .int .u64 last] 42)) (Obj.cells #[.slice la done cp, .int .i64 done, .int .u64 last] 42)
  rw [World.size_alloc] at hz
  exact bodyPost_row_tmp2 rfl (w.heap.size + 1) 42 _ (0, 0) _ (.slice (some ⟨g, 0, none⟩) m cap) (.bool false) rfl rfl rfl rfl hz Try.underlying42 rfl (by kernel_rfl) ⟨rfl, ((Kp.refl _ _).alloc _).alloc _⟩

theorem alloc3_rows {w w3 : World} {A B C : Obj} (k : Kp [] (((w.alloc A).alloc B).alloc C) w3) : w3.heap[w.heap.size]? = some A ∧ w3.heap[w.heap.size + 1]? = some B ∧ w3.heap[w.heap.size + 2]? = some C := by
  have z1 : (w.alloc A).heap.size = w.heap.size + 1 := World.size_alloc _ _
  have z2 : ((w.alloc A).alloc B).heap.size = w.heap.size + 2 := by rw [World.size_alloc, z1]
  have z3 : (((w.alloc A).alloc B).alloc C).heap.size = w.heap.size + 3 := by rw [World.size_alloc, z2]
  refine ⟨?_, ?_, ?_⟩
  · rw [k.block _ (by omega) (by simp), alloc_heap _ _ _ (by omega), alloc_heap _ _ _ (by omega)]; exact heap_alloc_new w A
  · rw [k.block _ (by omega) (by simp), alloc_heap _ _ _ (by omega), ← z1]; exact heap_alloc_new _ B
  · rw [k.block _ (by omega) (by simp), ← z2]; exact heap_alloc_new _ C


theorem rstep_0_in (w : World) (b o : Nat) (l : List Tch) (cp done g cap : Nat) (last : Int) (ws : List Int) (x : Tch) (hT : Touches w (some ⟨b, o, none⟩) l) (hx : l[done]? = some x) (hl : l.length ≤ 1000) (hrow : Rm w g cap ws) (hn1 : 1 ≤ ws.length) (hn2 : ws.length ≤ 1000) (h0 : x.1 = 0) (hin : 0 ≤ x.2.1 ∧ x.2.1 < ws.length) :
    Calls Try.prog 13 #[.agg #[.slice (some ⟨b, o, none⟩) l.length cp, .int .i64 done, .int .u64 last], .slice (some ⟨g, 0, none⟩) ws.length cap] w fun e w' =>
      ∃ g' cap', e = .returned (.tuple #[.agg #[.slice (some ⟨b, o, none⟩) l.length cp, .int .i64 (done + 1 : Nat), .int .u64 (stepL x last ws)], .slice (some ⟨g', 0, none⟩) ws.length cap', .bool true]) ∧ Rm w' g' cap' (stepW x last ws) ∧ w.heap.size ≤ g' ∧ Kp [] w w' := by
  obtain ⟨⟨i1, i2, i3, i4, i5, i6⟩, b', o', hbo, c1, c2, c3⟩ := hT done x hx
  cases hbo
  obtain ⟨d, k, v⟩ := x
  simp only at *
  have hdl : done < l.length := (List.getElem?_eq_some_iff.1 hx).1
  have hbl := World.block_lt_of_cell? _ _ c1
  have hgl := hrow.lt
  simp only at hbl
  rw [Nat.mul_comm 3 done] at c1 c2 c3
  obtain ⟨z, hz⟩ : ∃ z, z = ws.getD k.toNat 0 := ⟨_, rfl⟩
  obtain ⟨kn, hkn⟩ : ∃ kn : Nat, (kn : Int) = k := ⟨k.toNat, by omega⟩
  have hkl : kn < ws.length := by omega
  have hkt : k.toNat = kn := by omega
  have cg := hrow.cell hkl
  rw [hkt] at hz
  rw [← hz] at cg
  have eL : stepL (d, k, v) last ws = z := by
    have e1 : (0 : Int) ≤ k ∧ k < ws.length := by omega
    simp only [stepL]
    rw [h0, if_neg (by decide), if_pos e1, hkt, hz]
  have eW : stepW (d, k, v) last ws = ws := by
    have e1 : (0 : Int) ≤ k ∧ k < ws.length := by omega
    simp only [stepW]
    rw [if_pos e1, if_pos h0]
  rw [eL, eW]
  clear eL eW
  obtain ⟨N, hN⟩ : ∃ N, N = l.length := ⟨_, rfl⟩
  obtain ⟨n, hn⟩ : ∃ n, n = ws.length := ⟨_, rfl⟩
  have HN := Lib.hid hn
  have hdN : ¬ N ≤ done := by omega
  have hdN2 : done < N := by omega
  have hkn2 : kn < n := by omega
  have HKL := Lib.hid hkl
  have hn1' : 1 ≤ n := by omega
  have hn2' : n ≤ 4096 := by omega
  have hwrap := wrap_small (i := done) (by omega)
  subst hkn
  have HR := Lib.hid hrow
  rw [← hN, ← hn]
  clear hN hn hz hin hkl hkt hn1 hn2 hl hdl hx hT hrow i1 i2 i3 i4 i5 i6
  have cg3 := alloc_cell ((w.alloc (Obj.cells #[.slice (some ⟨b, o, none⟩) N cp, .int .i64 ((done : Int) + 1), .int .u64 last] 42)).alloc (Obj.cells #[.slice none 0 0, .int .i64 0, .int .u64 0] 42)) (Obj.cells #[.int .u8 d, .int .i64 kn, .int .u64 v] 48) (alloc_cell _ (Obj.cells #[.slice none 0 0, .int .i64 0, .int .u64 0] 42) (alloc_cell w (Obj.cells #[.slice (some ⟨b, o, none⟩) N cp, .int .i64 ((done : Int) + 1), .int .u64 last] 42) cg))
  subst h0
  go_enter Try.func13, Try.ntmps13
  have hka := (((Kp.refl [] w).alloc (Obj.cells #[.slice (some ⟨b, o, none⟩) N cp, .int .i64 ((done : Int) + 1), .int .u64 last] 42)).alloc (Obj.cells #[.slice none 0 0, .int .i64 0, .int .u64 0] 42)).alloc (Obj.cells #[.int .u8 0, .int .i64 kn, .int .u64 v] 48)
  have hr2 := HR.out.keep hka (by simp)
  have HKA := Lib.hid hka
  clear hka
  go_upto_region 10 with (
    (at_builtin; refine wpList_append_copy rfl _ _ rfl g cap n ws HN.out rfl rfl hr2 hn1' hn2' ?_; intro g3 cap3 w3 hr3 hge3 hk3; obtain ⟨r0, r1, r2⟩ := alloc3_rows hk3; have HR3 := Lib.hid hr3; have hg3 : w.heap.size + 3 ≤ g3 := (by have := hge3; simpa using this); have q0 := cell_of_row r0 0; have q1 := cell_of_row r0 1; have q2 := cell_of_row r0 2; have p0 := cell_of_row r2 0; have p1 := cell_of_row r2 1; have p2 := cell_of_row r2 2; have HK3 := Lib.hid (HKA.out.trans hk3); have R1 := Lib.hid r1; have f0 := free_of_row r0 2; clear hr3 hge3 hk3 r0 r1 r2 hr2 cg3))
  have B2 := Lib.hid ((heap_setCell_other w3 ⟨w.heap.size, 2, none⟩ (w.heap.size + 1) (.int .u64 z) (show w.heap.size + 1 ≠ w.heap.size from by omega)).trans (R1.out))
  go_wp2_with (refine wpList_store_row rfl 42 _ _ rfl (w.heap.size + 1) _ rfl rfl 42 _ B2.out (by kernel_rfl) rfl (by simp [Value.oneCell']) ?_)
  exact bodyPost_row_tmp2 rfl (w.heap.size + 1) 42 _ (0, 0) _ (.slice (some ⟨g3, 0, none⟩) n cap3) (.bool true) rfl rfl rfl rfl (setRow_heap _ _ _ _ _ _ B2.out) Try.underlying42 rfl (by kernel_rfl)
    ⟨g3, cap3, by first | rfl | simp, (HR3.out.keep ((Kp.refl [w.heap.size] _).setCell (p := ⟨w.heap.size, 2, none⟩) (.inl (by simp)) (.int .u64 z)) (by simp; omega)).keep ((Kp.refl [w.heap.size + 1] _).setRow (.inl (by simp)) _) (by simp; omega), by omega, (HK3.out.setCell (p := ⟨w.heap.size, 2, none⟩) (.inr (Nat.le_refl _)) (.int .u64 z)).setRow (.inr (by omega)) _⟩

theorem rstep_0_neg (w : World) (b o : Nat) (l : List Tch) (cp done g cap : Nat) (last : Int) (ws : List Int) (x : Tch) (hT : Touches w (some ⟨b, o, none⟩) l) (hx : l[done]? = some x) (hl : l.length ≤ 1000) (hrow : Rm w g cap ws) (hn1 : 1 ≤ ws.length) (hn2 : ws.length ≤ 1000) (h0 : x.1 = 0) (hin : x.2.1 < 0) :
    Calls Try.prog 13 #[.agg #[.slice (some ⟨b, o, none⟩) l.length cp, .int .i64 done, .int .u64 last], .slice (some ⟨g, 0, none⟩) ws.length cap] w fun e w' =>
      ∃ g' cap', e = .returned (.tuple #[.agg #[.slice (some ⟨b, o, none⟩) l.length cp, .int .i64 (done + 1 : Nat), .int .u64 (stepL x last ws)], .slice (some ⟨g', 0, none⟩) ws.length cap', .bool true]) ∧ Rm w' g' cap' (stepW x last ws) ∧ w.heap.size ≤ g' ∧ Kp [] w w' := by
  obtain ⟨⟨i1, i2, i3, i4, i5, i6⟩, b', o', hbo, c1, c2, c3⟩ := hT done x hx
  cases hbo
  obtain ⟨d, k, v⟩ := x
  simp only at *
  have hdl : done < l.length := (List.getElem?_eq_some_iff.1 hx).1
  have hbl := World.block_lt_of_cell? _ _ c1
  have hgl := hrow.lt
  simp only at hbl
  rw [Nat.mul_comm 3 done] at c1 c2 c3
  have eL : stepL (d, k, v) last ws = 0 := by
    simp only [stepL]
    rw [h0, if_neg (by decide), if_neg (fun e => by omega)]
  have eW : stepW (d, k, v) last ws = ws := by
    simp only [stepW]
    rw [if_neg (fun e => by omega)]
  rw [eL, eW]
  clear eL eW
  obtain ⟨N, hN⟩ : ∃ N, N = l.length := ⟨_, rfl⟩
  obtain ⟨n, hn⟩ : ∃ n, n = ws.length := ⟨_, rfl⟩
  have HN := Lib.hid hn
  have hdN : ¬ N ≤ done := by omega
  have hdN2 : done < N := by omega
  have hk1 : ¬ (0 : Int) ≤ k := by omega
  have hn1' : 1 ≤ n := by omega
  have hn2' : n ≤ 4096 := by omega
  have hwrap := wrap_small (i := done) (by omega)
  have HR := Lib.hid hrow
  rw [← hN, ← hn]
  clear hN hn hin hn1 hn2 hl hdl hx hT hrow i1 i2 i3 i4 i5 i6
  subst h0
  go_enter Try.func13, Try.ntmps13
  have hka := (((Kp.refl [] w).alloc (Obj.cells #[.slice (some ⟨b, o, none⟩) N cp, .int .i64 ((done : Int) + 1), .int .u64 last] 42)).alloc (Obj.cells #[.slice none 0 0, .int .i64 0, .int .u64 0] 42)).alloc (Obj.cells #[.int .u8 0, .int .i64 k, .int .u64 v] 48)
  have hr2 := HR.out.keep hka (by simp)
  have HKA := Lib.hid hka
  clear hka
  go_upto_region 10 with (
    (at_builtin; refine wpList_append_copy rfl _ _ rfl g cap n ws HN.out rfl rfl hr2 hn1' hn2' ?_; intro g3 cap3 w3 hr3 hge3 hk3; obtain ⟨r0, r1, r2⟩ := alloc3_rows hk3; have HR3 := Lib.hid hr3; have hg3 : w.heap.size + 3 ≤ g3 := (by have := hge3; simpa using this); have q0 := cell_of_row r0 0; have q1 := cell_of_row r0 1; have q2 := cell_of_row r0 2; have p0 := cell_of_row r2 0; have p1 := cell_of_row r2 1; have p2 := cell_of_row r2 2; have HK3 := Lib.hid (HKA.out.trans hk3); have R1 := Lib.hid r1; have f0 := free_of_row r0 2; clear hr3 hge3 hk3 r0 r1 r2 hr2))
  have B2 := Lib.hid ((heap_setCell_other w3 ⟨w.heap.size, 2, none⟩ (w.heap.size + 1) (.int .u64 0) (show w.heap.size + 1 ≠ w.heap.size from by omega)).trans (R1.out))
  go_wp2_with (refine wpList_store_row rfl 42 _ _ rfl (w.heap.size + 1) _ rfl rfl 42 _ B2.out (by kernel_rfl) rfl (by simp [Value.oneCell']) ?_)
  exact bodyPost_row_tmp2 rfl (w.heap.size + 1) 42 _ (0, 0) _ (.slice (some ⟨g3, 0, none⟩) n cap3) (.bool true) rfl rfl rfl rfl (setRow_heap _ _ _ _ _ _ B2.out) Try.underlying42 rfl (by kernel_rfl)
    ⟨g3, cap3, by first | rfl | simp, (HR3.out.keep ((Kp.refl [w.heap.size] _).setCell (p := ⟨w.heap.size, 2, none⟩) (.inl (by simp)) (.int .u64 0)) (by simp; omega)).keep ((Kp.refl [w.heap.size + 1] _).setRow (.inl (by simp)) _) (by simp; omega), by omega, (HK3.out.setCell (p := ⟨w.heap.size, 2, none⟩) (.inr (Nat.le_refl _)) (.int .u64 0)).setRow (.inr (by omega)) _⟩

theorem rstep_0_big (w : World) (b o : Nat) (l : List Tch) (cp done g cap : Nat) (last : Int) (ws : List Int) (x : Tch) (hT : Touches w (some ⟨b, o, none⟩) l) (hx : l[done]? = some x) (hl : l.length ≤ 1000) (hrow : Rm w g cap ws) (hn1 : 1 ≤ ws.length) (hn2 : ws.length ≤ 1000) (h0 : x.1 = 0) (hin : (ws.length : Int) ≤ x.2.1) :
    Calls Try.prog 13 #[.agg #[.slice (some ⟨b, o, none⟩) l.length cp, .int .i64 done, .int .u64 last], .slice (some ⟨g, 0, none⟩) ws.length cap] w fun e w' =>
      ∃ g' cap', e = .returned (.tuple #[.agg #[.slice (some ⟨b, o, none⟩) l.length cp, .int .i64 (done + 1 : Nat), .int .u64 (stepL x last ws)], .slice (some ⟨g', 0, none⟩) ws.length cap', .bool true]) ∧ Rm w' g' cap' (stepW x last ws) ∧ w.heap.size ≤ g' ∧ Kp [] w w' := by
  obtain ⟨⟨i1, i2, i3, i4, i5, i6⟩, b', o', hbo, c1, c2, c3⟩ := hT done x hx
  cases hbo
  obtain ⟨d, k, v⟩ := x
  simp only at *
  have hdl : done < l.length := (List.getElem?_eq_some_iff.1 hx).1
  have hbl := World.block_lt_of_cell? _ _ c1
  have hgl := hrow.lt
  simp only at hbl
  rw [Nat.mul_comm 3 done] at c1 c2 c3
  have eL : stepL (d, k, v) last ws = 0 := by
    simp only [stepL]
    rw [h0, if_neg (by decide), if_neg (fun e => by omega)]
  have eW : stepW (d, k, v) last ws = ws := by
    simp only [stepW]
    rw [if_neg (fun e => by omega)]
  rw [eL, eW]
  clear eL eW
  obtain ⟨N, hN⟩ : ∃ N, N = l.length := ⟨_, rfl⟩
  obtain ⟨n, hn⟩ : ∃ n, n = ws.length := ⟨_, rfl⟩
  have HN := Lib.hid hn
  have hdN : ¬ N ≤ done := by omega
  have hdN2 : done < N := by omega
  have hk1 : (0 : Int) ≤ k := by omega
  have hk2 : ¬ k < (n : Int) := by omega
  have hn1' : 1 ≤ n := by omega
  have hn2' : n ≤ 4096 := by omega
  have hwrap := wrap_small (i := done) (by omega)
  have HR := Lib.hid hrow
  rw [← hN, ← hn]
  clear hN hn hin hn1 hn2 hl hdl hx hT hrow i1 i2 i3 i4 i5 i6
  subst h0
  go_enter Try.func13, Try.ntmps13
  have hka := (((Kp.refl [] w).alloc (Obj.cells #[.slice (some ⟨b, o, none⟩) N cp, .int .i64 ((done : Int) + 1), .int .u64 last] 42)).alloc (Obj.cells #[.slice none 0 0, .int .i64 0, .int .u64 0] 42)).alloc (Obj.cells #[.int .u8 0, .int .i64 k, .int .u64 v] 48)
  have hr2 := HR.out.keep hka (by simp)
  have HKA := Lib.hid hka
  clear hka
  go_upto_region 10 with (
    (at_builtin; refine wpList_append_copy rfl _ _ rfl g cap n ws HN.out rfl rfl hr2 hn1' hn2' ?_; intro g3 cap3 w3 hr3 hge3 hk3; obtain ⟨r0, r1, r2⟩ := alloc3_rows hk3; have HR3 := Lib.hid hr3; have hg3 : w.heap.size + 3 ≤ g3 := (by have := hge3; simpa using this); have q0 := cell_of_row r0 0; have q1 := cell_of_row r0 1; have q2 := cell_of_row r0 2; have p0 := cell_of_row r2 0; have p1 := cell_of_row r2 1; have p2 := cell_of_row r2 2; have HK3 := Lib.hid (HKA.out.trans hk3); have R1 := Lib.hid r1; have f0 := free_of_row r0 2; clear hr3 hge3 hk3 r0 r1 r2 hr2))
  have B2 := Lib.hid ((heap_setCell_other w3 ⟨w.heap.size, 2, none⟩ (w.heap.size + 1) (.int .u64 0) (show w.heap.size + 1 ≠ w.heap.size from by omega)).trans (R1.out))
  go_wp2_with (refine wpList_store_row rfl 42 _ _ rfl (w.heap.size + 1) _ rfl rfl 42 _ B2.out (by kernel_rfl) rfl (by simp [Value.oneCell']) ?_)
  exact bodyPost_row_tmp2 rfl (w.heap.size + 1) 42 _ (0, 0) _ (.slice (some ⟨g3, 0, none⟩) n cap3) (.bool true) rfl rfl rfl rfl (setRow_heap _ _ _ _ _ _ B2.out) Try.underlying42 rfl (by kernel_rfl)
    ⟨g3, cap3, by first | rfl | simp, (HR3.out.keep ((Kp.refl [w.heap.size] _).setCell (p := ⟨w.heap.size, 2, none⟩) (.inl (by simp)) (.int .u64 0)) (by simp; omega)).keep ((Kp.refl [w.heap.size + 1] _).setRow (.inl (by simp)) _) (by simp; omega), by omega, (HK3.out.setCell (p := ⟨w.heap.size, 2, none⟩) (.inr (Nat.le_refl _)) (.int .u64 0)).setRow (.inr (by omega)) _⟩

theorem rstep_1_in (w : World) (b o : Nat) (l : List Tch) (cp done g cap : Nat) (last : Int) (ws : List Int) (x : Tch) (hT : Touches w (some ⟨b, o, none⟩) l) (hx : l[done]? = some x) (hl : l.length ≤ 1000) (hrow : Rm w g cap ws) (hn1 : 1 ≤ ws.length) (hn2 : ws.length ≤ 1000) (h0 : x.1 = 1) (hin : 0 ≤ x.2.1 ∧ x.2.1 < ws.length) :
    Calls Try.prog 13 #[.agg #[.slice (some ⟨b, o, none⟩) l.length cp, .int .i64 done, .int .u64 last], .slice (some ⟨g, 0, none⟩) ws.length cap] w fun e w' =>
      ∃ g' cap', e = .returned (.tuple #[.agg #[.slice (some ⟨b, o, none⟩) l.length cp, .int .i64 (done + 1 : Nat), .int .u64 (stepL x last ws)], .slice (some ⟨g', 0, none⟩) ws.length cap', .bool true]) ∧ Rm w' g' cap' (stepW x last ws) ∧ w.heap.size ≤ g' ∧ Kp [] w w' := by
  obtain ⟨⟨i1, i2, i3, i4, i5, i6⟩, b', o', hbo, c1, c2, c3⟩ := hT done x hx
  cases hbo
  obtain ⟨d, k, v⟩ := x
  simp only at *
  have hdl : done < l.length := (List.getElem?_eq_some_iff.1 hx).1
  have hbl := World.block_lt_of_cell? _ _ c1
  have hgl := hrow.lt
  simp only at hbl
  rw [Nat.mul_comm 3 done] at c1 c2 c3
  obtain ⟨z, hz⟩ : ∃ z, z = ws.getD k.toNat 0 := ⟨_, rfl⟩
  obtain ⟨kn, hkn⟩ : ∃ kn : Nat, (kn : Int) = k := ⟨k.toNat, by omega⟩
  have hkl : kn < ws.length := by omega
  have hkt : k.toNat = kn := by omega
  have cg := hrow.cell hkl
  rw [hkt] at hz
  rw [← hz] at cg
  have eL : stepL (d, k, v) last ws = last := by
    have e1 : (0 : Int) ≤ k ∧ k < ws.length := by omega
    simp only [stepL]
    rw [h0, if_pos rfl]
  have eW : stepW (d, k, v) last ws = ws.set kn (IntKind.wrap .u64 (last + v)) := by
    have e1 : (0 : Int) ≤ k ∧ k < ws.length := by omega
    simp only [stepW]
    rw [if_pos e1, h0, if_neg (by decide), if_pos rfl, hkt]
  rw [eL, eW]
  clear eL eW
  obtain ⟨N, hN⟩ : ∃ N, N = l.length := ⟨_, rfl⟩
  obtain ⟨n, hn⟩ : ∃ n, n = ws.length := ⟨_, rfl⟩
  have HN := Lib.hid hn
  have hdN : ¬ N ≤ done := by omega
  have hdN2 : done < N := by omega
  have hkn2 : kn < n := by omega
  have HKL := Lib.hid hkl
  have hn1' : 1 ≤ n := by omega
  have hn2' : n ≤ 4096 := by omega
  have hwrap := wrap_small (i := done) (by omega)
  subst hkn
  have HR := Lib.hid hrow
  rw [← hN, ← hn]
  clear hN hn hz hin hkl hkt hn1 hn2 hl hdl hx hT hrow i1 i2 i3 i4 i5 i6
  have cg3 := alloc_cell ((w.alloc (Obj.cells #[.slice (some ⟨b, o, none⟩) N cp, .int .i64 ((done : Int) + 1), .int .u64 last] 42)).alloc (Obj.cells #[.slice none 0 0, .int .i64 0, .int .u64 0] 42)) (Obj.cells #[.int .u8 d, .int .i64 kn, .int .u64 v] 48) (alloc_cell _ (Obj.cells #[.slice none 0 0, .int .i64 0, .int .u64 0] 42) (alloc_cell w (Obj.cells #[.slice (some ⟨b, o, none⟩) N cp, .int .i64 ((done : Int) + 1), .int .u64 last] 42) cg))
  subst h0
  go_enter Try.func13, Try.ntmps13
  have hka := (((Kp.refl [] w).alloc (Obj.cells #[.slice (some ⟨b, o, none⟩) N cp, .int .i64 ((done : Int) + 1), .int .u64 last] 42)).alloc (Obj.cells #[.slice none 0 0, .int .i64 0, .int .u64 0] 42)).alloc (Obj.cells #[.int .u8 1, .int .i64 kn, .int .u64 v] 48)
  have hr2 := HR.out.keep hka (by simp)
  have HKA := Lib.hid hka
  clear hka
  go_upto_region 10 with (
    (at_builtin; refine wpList_append_copy rfl _ _ rfl g cap n ws HN.out rfl rfl hr2 hn1' hn2' ?_; intro g3 cap3 w3 hr3 hge3 hk3; obtain ⟨r0, r1, r2⟩ := alloc3_rows hk3; have HR3 := Lib.hid hr3; have hg3 : w.heap.size + 3 ≤ g3 := (by have := hge3; simpa using this); have q0 := cell_of_row r0 0; have q1 := cell_of_row r0 1; have q2 := cell_of_row r0 2; have p0 := cell_of_row r2 0; have p1 := cell_of_row r2 1; have p2 := cell_of_row r2 2; have HK3 := Lib.hid (HKA.out.trans hk3); have R1 := Lib.hid r1; have f0 := free_of_row r0 2; have t3 := hr3.cell HKL.out; have t4 := hr3.free kn; have hne : ¬ g3 = w.heap.size := (by omega); have hne2 : ¬ g3 = w.heap.size + 1 + 1 := (by omega); clear hr3 hge3 hk3 r0 r1 r2 hr2 cg3))
  have B2 := Lib.hid ((heap_setCell_other w3 ⟨g3, kn, none⟩ (w.heap.size + 1) (.int .u64 (IntKind.wrap .u64 (last + v))) (show w.heap.size + 1 ≠ g3 from by omega)).trans (R1.out))
  go_wp2_with (refine wpList_store_row rfl 42 _ _ rfl (w.heap.size + 1) _ rfl rfl 42 _ B2.out (by kernel_rfl) rfl (by simp [Value.oneCell']) ?_)
  exact bodyPost_row_tmp2 rfl (w.heap.size + 1) 42 _ (0, 0) _ (.slice (some ⟨g3, 0, none⟩) n cap3) (.bool true) rfl rfl rfl rfl (setRow_heap _ _ _ _ _ _ B2.out) Try.underlying42 rfl (by kernel_rfl)
    ⟨g3, cap3, by first | rfl | simp, (HR3.out.store HKL.out (IntKind.wrap .u64 (last + v))).keep ((Kp.refl [w.heap.size + 1] _).setRow (.inl (by simp)) _) (by simp; omega), by omega, (HK3.out.setCell (p := ⟨g3, kn, none⟩) (.inr (show w.heap.size ≤ g3 from by omega)) (.int .u64 (IntKind.wrap .u64 (last + v)))).setRow (.inr (by omega)) _⟩

theorem rstep_1_neg (w : World) (b o : Nat) (l : List Tch) (cp done g cap : Nat) (last : Int) (ws : List Int) (x : Tch) (hT : Touches w (some ⟨b, o, none⟩) l) (hx : l[done]? = some x) (hl : l.length ≤ 1000) (hrow : Rm w g cap ws) (hn1 : 1 ≤ ws.length) (hn2 : ws.length ≤ 1000) (h0 : x.1 = 1) (hin : x.2.1 < 0) :
    Calls Try.prog 13 #[.agg #[.slice (some ⟨b, o, none⟩) l.length cp, .int .i64 done, .int .u64 last], .slice (some ⟨g, 0, none⟩) ws.length cap] w fun e w' =>
      ∃ g' cap', e = .returned (.tuple #[.agg #[.slice (some ⟨b, o, none⟩) l.length cp, .int .i64 (done + 1 : Nat), .int .u64 (stepL x last ws)], .slice (some ⟨g', 0, none⟩) ws.length cap', .bool true]) ∧ Rm w' g' cap' (stepW x last ws) ∧ w.heap.size ≤ g' ∧ Kp [] w w' := by
  obtain ⟨⟨i1, i2, i3, i4, i5, i6⟩, b', o', hbo, c1, c2, c3⟩ := hT done x hx
  cases hbo
  obtain ⟨d, k, v⟩ := x
  simp only at *
  have hdl : done < l.length := (List.getElem?_eq_some_iff.1 hx).1
  have hbl := World.block_lt_of_cell? _ _ c1
  have hgl := hrow.lt
  simp only at hbl
  rw [Nat.mul_comm 3 done] at c1 c2 c3
  have eL : stepL (d, k, v) last ws = last := by
    simp only [stepL]
    rw [h0, if_pos rfl]
  have eW : stepW (d, k, v) last ws = ws := by
    simp only [stepW]
    rw [if_neg (fun e => by omega)]
  rw [eL, eW]
  clear eL eW
  obtain ⟨N, hN⟩ : ∃ N, N = l.length := ⟨_, rfl⟩
  obtain ⟨n, hn⟩ : ∃ n, n = ws.length := ⟨_, rfl⟩
  have HN := Lib.hid hn
  have hdN : ¬ N ≤ done := by omega
  have hdN2 : done < N := by omega
  have hk1 : ¬ (0 : Int) ≤ k := by omega
  have hn1' : 1 ≤ n := by omega
  have hn2' : n ≤ 4096 := by omega
  have hwrap := wrap_small (i := done) (by omega)
  have HR := Lib.hid hrow
  rw [← hN, ← hn]
  clear hN hn hin hn1 hn2 hl hdl hx hT hrow i1 i2 i3 i4 i5 i6
  subst h0
  go_enter Try.func13, Try.ntmps13
  have hka := (((Kp.refl [] w).alloc (Obj.cells #[.slice (some ⟨b, o, none⟩) N cp, .int .i64 ((done : Int) + 1), .int .u64 last] 42)).alloc (Obj.cells #[.slice none 0 0, .int .i64 0, .int .u64 0] 42)).alloc (Obj.cells #[.int .u8 1, .int .i64 k, .int .u64 v] 48)
  have hr2 := HR.out.keep hka (by simp)
  have HKA := Lib.hid hka
  clear hka
  go_upto_region 10 with (
    (at_builtin; refine wpList_append_copy rfl _ _ rfl g cap n ws HN.out rfl rfl hr2 hn1' hn2' ?_; intro g3 cap3 w3 hr3 hge3 hk3; obtain ⟨r0, r1, r2⟩ := alloc3_rows hk3; have HR3 := Lib.hid hr3; have hg3 : w.heap.size + 3 ≤ g3 := (by have := hge3; simpa using this); have q0 := cell_of_row r0 0; have q1 := cell_of_row r0 1; have q2 := cell_of_row r0 2; have p0 := cell_of_row r2 0; have p1 := cell_of_row r2 1; have p2 := cell_of_row r2 2; have HK3 := Lib.hid (HKA.out.trans hk3); have R1 := Lib.hid r1; have f0 := free_of_row r0 2; clear hr3 hge3 hk3 r0 r1 r2 hr2))
  have B2 := Lib.hid (R1.out)
  go_wp2_with (refine wpList_store_row rfl 42 _ _ rfl (w.heap.size + 1) _ rfl rfl 42 _ B2.out (by kernel_rfl) rfl (by simp [Value.oneCell']) ?_)
  exact bodyPost_row_tmp2 rfl (w.heap.size + 1) 42 _ (0, 0) _ (.slice (some ⟨g3, 0, none⟩) n cap3) (.bool true) rfl rfl rfl rfl (setRow_heap _ _ _ _ _ _ B2.out) Try.underlying42 rfl (by kernel_rfl)
    ⟨g3, cap3, by first | rfl | simp, HR3.out.keep ((Kp.refl [w.heap.size + 1] _).setRow (.inl (by simp)) _) (by simp; omega), by omega, HK3.out.setRow (.inr (by omega)) _⟩

theorem rstep_1_big (w : World) (b o : Nat) (l : List Tch) (cp done g cap : Nat) (last : Int) (ws : List Int) (x : Tch) (hT : Touches w (some ⟨b, o, none⟩) l) (hx : l[done]? = some x) (hl : l.length ≤ 1000) (hrow : Rm w g cap ws) (hn1 : 1 ≤ ws.length) (hn2 : ws.length ≤ 1000) (h0 : x.1 = 1) (hin : (ws.length : Int) ≤ x.2.1) :
    Calls Try.prog 13 #[.agg #[.slice (some ⟨b, o, none⟩) l.length cp, .int .i64 done, .int .u64 last], .slice (some ⟨g, 0, none⟩) ws.length cap] w fun e w' =>
      ∃ g' cap', e = .returned (.tuple #[.agg #[.slice (some ⟨b, o, none⟩) l.length cp, .int .i64 (done + 1 : Nat), .int .u64 (stepL x last ws)], .slice (some ⟨g', 0, none⟩) ws.length cap', .bool true]) ∧ Rm w' g' cap' (stepW x last ws) ∧ w.heap.size ≤ g' ∧ Kp [] w w' := by
  obtain ⟨⟨i1, i2, i3, i4, i5, i6⟩, b', o', hbo, c1, c2, c3⟩ := hT done x hx
  cases hbo
  obtain ⟨d, k, v⟩ := x
  simp only at *
  have hdl : done < l.length := (List.getElem?_eq_some_iff.1 hx).1
  have hbl := World.block_lt_of_cell? _ _ c1
  have hgl := hrow.lt
  simp only at hbl
  rw [Nat.mul_comm 3 done] at c1 c2 c3
  have eL : stepL (d, k, v) last ws = last := by
    simp only [stepL]
    rw [h0, if_pos rfl]
  have eW : stepW (d, k, v) last ws = ws := by
    simp only [stepW]
    rw [if_neg (fun e => by omega)]
  rw [eL, eW]
  clear eL eW
  obtain ⟨N, hN⟩ : ∃ N, N = l.length := ⟨_, rfl⟩
  obtain ⟨n, hn⟩ : ∃ n, n = ws.length := ⟨_, rfl⟩
  have HN := Lib.hid hn
  have hdN : ¬ N ≤ done := by omega
  have hdN2 : done < N := by omega
  have hk1 : (0 : Int) ≤ k := by omega
  have hk2 : ¬ k < (n : Int) := by omega
  have hn1' : 1 ≤ n := by omega
  have hn2' : n ≤ 4096 := by omega
  have hwrap := wrap_small (i := done) (by omega)
  have HR := Lib.hid hrow
  rw [← hN, ← hn]
  clear hN hn hin hn1 hn2 hl hdl hx hT hrow i1 i2 i3 i4 i5 i6
  subst h0
  go_enter Try.func13, Try.ntmps13
  have hka := (((Kp.refl [] w).alloc (Obj.cells #[.slice (some ⟨b, o, none⟩) N cp, .int .i64 ((done : Int) + 1), .int .u64 last] 42)).alloc (Obj.cells #[.slice none 0 0, .int .i64 0, .int .u64 0] 42)).alloc (Obj.cells #[.int .u8 1, .int .i64 k, .int .u64 v] 48)
  have hr2 := HR.out.keep hka (by simp)
  have HKA := Lib.hid hka
  clear hka
  go_upto_region 10 with (
    (at_builtin; refine wpList_append_copy rfl _ _ rfl g cap n ws HN.out rfl rfl hr2 hn1' hn2' ?_; intro g3 cap3 w3 hr3 hge3 hk3; obtain ⟨r0, r1, r2⟩ := alloc3_rows hk3; have HR3 := Lib.hid hr3; have hg3 : w.heap.size + 3 ≤ g3 := (by have := hge3; simpa using this); have q0 := cell_of_row r0 0; have q1 := cell_of_row r0 1; have q2 := cell_of_row r0 2; have p0 := cell_of_row r2 0; have p1 := cell_of_row r2 1; have p2 := cell_of_row r2 2; have HK3 := Lib.hid (HKA.out.trans hk3); have R1 := Lib.hid r1; have f0 := free_of_row r0 2; clear hr3 hge3 hk3 r0 r1 r2 hr2))
  have B2 := Lib.hid (R1.out)
  go_wp2_with (refine wpList_store_row rfl 42 _ _ rfl (w.heap.size + 1) _ rfl rfl 42 _ B2.out (by kernel_rfl) rfl (by simp [Value.oneCell']) ?_)
  exact bodyPost_row_tmp2 rfl (w.heap.size + 1) 42 _ (0, 0) _ (.slice (some ⟨g3, 0, none⟩) n cap3) (.bool true) rfl rfl rfl rfl (setRow_heap _ _ _ _ _ _ B2.out) Try.underlying42 rfl (by kernel_rfl)
    ⟨g3, cap3, by first | rfl | simp, HR3.out.keep ((Kp.refl [w.heap.size + 1] _).setRow (.inl (by simp)) _) (by simp; omega), by omega, HK3.out.setRow (.inr (by omega)) _⟩

theorem rstep_2_in (w : World) (b o : Nat) (l : List Tch) (cp done g cap : Nat) (last : Int) (ws : List Int) (x : Tch) (hT : Touches w (some ⟨b, o, none⟩) l) (hx : l[done]? = some x) (hl : l.length ≤ 1000) (hrow : Rm w g cap ws) (hn1 : 1 ≤ ws.length) (hn2 : ws.length ≤ 1000) (h0 : x.1 ≠ 0) (h1 : x.1 ≠ 1) (hin : 0 ≤ x.2.1 ∧ x.2.1 < ws.length) :
    Calls Try.prog 13 #[.agg #[.slice (some ⟨b, o, none⟩) l.length cp, .int .i64 done, .int .u64 last], .slice (some ⟨g, 0, none⟩) ws.length cap] w fun e w' =>
      ∃ g' cap', e = .returned (.tuple #[.agg #[.slice (some ⟨b, o, none⟩) l.length cp, .int .i64 (done + 1 : Nat), .int .u64 (stepL x last ws)], .slice (some ⟨g', 0, none⟩) ws.length cap', .bool true]) ∧ Rm w' g' cap' (stepW x last ws) ∧ w.heap.size ≤ g' ∧ Kp [] w w' := by
  obtain ⟨⟨i1, i2, i3, i4, i5, i6⟩, b', o', hbo, c1, c2, c3⟩ := hT done x hx
  cases hbo
  obtain ⟨d, k, v⟩ := x
  simp only at *
  have hdl : done < l.length := (List.getElem?_eq_some_iff.1 hx).1
  have hbl := World.block_lt_of_cell? _ _ c1
  have hgl := hrow.lt
  simp only at hbl
  rw [Nat.mul_comm 3 done] at c1 c2 c3
  obtain ⟨z, hz⟩ : ∃ z, z = ws.getD k.toNat 0 := ⟨_, rfl⟩
  obtain ⟨kn, hkn⟩ : ∃ kn : Nat, (kn : Int) = k := ⟨k.toNat, by omega⟩
  have hkl : kn < ws.length := by omega
  have hkt : k.toNat = kn := by omega
  have cg := hrow.cell hkl
  rw [hkt] at hz
  rw [← hz] at cg
  have eL : stepL (d, k, v) last ws = z := by
    have e1 : (0 : Int) ≤ k ∧ k < ws.length := by omega
    simp only [stepL]
    rw [if_neg h1, if_pos e1, hkt, hz]
  have eW : stepW (d, k, v) last ws = ws.set kn (IntKind.wrap .u64 (z + v)) := by
    have e1 : (0 : Int) ≤ k ∧ k < ws.length := by omega
    simp only [stepW]
    rw [if_pos e1, if_neg h0, if_neg h1, hkt, hz]
  rw [eL, eW]
  clear eL eW
  obtain ⟨N, hN⟩ : ∃ N, N = l.length := ⟨_, rfl⟩
  obtain ⟨n, hn⟩ : ∃ n, n = ws.length := ⟨_, rfl⟩
  have HN := Lib.hid hn
  have hdN : ¬ N ≤ done := by omega
  have hdN2 : done < N := by omega
  have hkn2 : kn < n := by omega
  have HKL := Lib.hid hkl
  have hn1' : 1 ≤ n := by omega
  have hn2' : n ≤ 4096 := by omega
  have hwrap := wrap_small (i := done) (by omega)
  subst hkn
  have HR := Lib.hid hrow
  rw [← hN, ← hn]
  have hd0 : (d == 0) = false := by simpa using h0
  have hd1 : (d == 1) = false := by simpa using h1
  clear hN hn hz hin hkl hkt hn1 hn2 hl hdl hx hT hrow i1 i2 i3 i4 i5 i6 h0 h1
  have cg3 := alloc_cell ((w.alloc (Obj.cells #[.slice (some ⟨b, o, none⟩) N cp, .int .i64 ((done : Int) + 1), .int .u64 last] 42)).alloc (Obj.cells #[.slice none 0 0, .int .i64 0, .int .u64 0] 42)) (Obj.cells #[.int .u8 d, .int .i64 kn, .int .u64 v] 48) (alloc_cell _ (Obj.cells #[.slice none 0 0, .int .i64 0, .int .u64 0] 42) (alloc_cell w (Obj.cells #[.slice (some ⟨b, o, none⟩) N cp, .int .i64 ((done : Int) + 1), .int .u64 last] 42) cg))
  go_enter Try.func13, Try.ntmps13
  have hka := (((Kp.refl [] w).alloc (Obj.cells #[.slice (some ⟨b, o, none⟩) N cp, .int .i64 ((done : Int) + 1), .int .u64 last] 42)).alloc (Obj.cells #[.slice none 0 0, .int .i64 0, .int .u64 0] 42)).alloc (Obj.cells #[.int .u8 d, .int .i64 kn, .int .u64 v] 48)
  have hr2 := HR.out.keep hka (by simp)
  have HKA := Lib.hid hka
  clear hka
  go_upto_region 10 with (
    (at_builtin; refine wpList_append_copy rfl _ _ rfl g cap n ws HN.out rfl rfl hr2 hn1' hn2' ?_; intro g3 cap3 w3 hr3 hge3 hk3; obtain ⟨r0, r1, r2⟩ := alloc3_rows hk3; have HR3 := Lib.hid hr3; have hg3 : w.heap.size + 3 ≤ g3 := (by have := hge3; simpa using this); have q0 := cell_of_row r0 0; have q1 := cell_of_row r0 1; have q2 := cell_of_row r0 2; have p0 := cell_of_row r2 0; have p1 := cell_of_row r2 1; have p2 := cell_of_row r2 2; have HK3 := Lib.hid (HKA.out.trans hk3); have R1 := Lib.hid r1; have f0 := free_of_row r0 2; have t3 := hr3.cell HKL.out; have t4 := hr3.free kn; have hne : ¬ g3 = w.heap.size := (by omega); have hne2 : ¬ g3 = w.heap.size + 1 + 1 := (by omega); clear hr3 hge3 hk3 r0 r1 r2 hr2 cg3))
  have B2 := Lib.hid ((heap_setCell_other (w3.setCell ⟨g3, kn, none⟩ (.int .u64 (IntKind.wrap .u64 (z + v)))) ⟨w.heap.size, 2, none⟩ (w.heap.size + 1) (.int .u64 z) (show w.heap.size + 1 ≠ w.heap.size from by omega)).trans ((heap_setCell_other w3 ⟨g3, kn, none⟩ (w.heap.size + 1) (.int .u64 (IntKind.wrap .u64 (z + v))) (show w.heap.size + 1 ≠ g3 from by omega)).trans (R1.out)))
  go_wp2_with (refine wpList_store_row rfl 42 _ _ rfl (w.heap.size + 1) _ rfl rfl 42 _ B2.out (by kernel_rfl) rfl (by simp [Value.oneCell']) ?_)
  exact bodyPost_row_tmp2 rfl (w.heap.size + 1) 42 _ (0, 0) _ (.slice (some ⟨g3, 0, none⟩) n cap3) (.bool true) rfl rfl rfl rfl (setRow_heap _ _ _ _ _ _ B2.out) Try.underlying42 rfl (by kernel_rfl)
    ⟨g3, cap3, by first | rfl | simp, ((HR3.out.store HKL.out (IntKind.wrap .u64 (z + v))).keep ((Kp.refl [w.heap.size] _).setCell (p := ⟨w.heap.size, 2, none⟩) (.inl (by simp)) (.int .u64 z)) (by simp; omega)).keep ((Kp.refl [w.heap.size + 1] _).setRow (.inl (by simp)) _) (by simp; omega), by omega, ((HK3.out.setCell (p := ⟨g3, kn, none⟩) (.inr (show w.heap.size ≤ g3 from by omega)) (.int .u64 (IntKind.wrap .u64 (z + v)))).setCell (p := ⟨w.heap.size, 2, none⟩) (.inr (Nat.le_refl _)) (.int .u64 z)).setRow (.inr (by omega)) _⟩

theorem rstep_2_neg (w : World) (b o : Nat) (l : List Tch) (cp done g cap : Nat) (last : Int) (ws : List Int) (x : Tch) (hT : Touches w (some ⟨b, o, none⟩) l) (hx : l[done]? = some x) (hl : l.length ≤ 1000) (hrow : Rm w g cap ws) (hn1 : 1 ≤ ws.length) (hn2 : ws.length ≤ 1000) (h0 : x.1 ≠ 0) (h1 : x.1 ≠ 1) (hin : x.2.1 < 0) :
    Calls Try.prog 13 #[.agg #[.slice (some ⟨b, o, none⟩) l.length cp, .int .i64 done, .int .u64 last], .slice (some ⟨g, 0, none⟩) ws.length cap] w fun e w' =>
      ∃ g' cap', e = .returned (.tuple #[.agg #[.slice (some ⟨b, o, none⟩) l.length cp, .int .i64 (done + 1 : Nat), .int .u64 (stepL x last ws)], .slice (some ⟨g', 0, none⟩) ws.length cap', .bool true]) ∧ Rm w' g' cap' (stepW x last ws) ∧ w.heap.size ≤ g' ∧ Kp [] w w' := by
  obtain ⟨⟨i1, i2, i3, i4, i5, i6⟩, b', o', hbo, c1, c2, c3⟩ := hT done x hx
  cases hbo
  obtain ⟨d, k, v⟩ := x
  simp only at *
  have hdl : done < l.length := (List.getElem?_eq_some_iff.1 hx).1
  have hbl := World.block_lt_of_cell? _ _ c1
  have hgl := hrow.lt
  simp only at hbl
  rw [Nat.mul_comm 3 done] at c1 c2 c3
  have eL : stepL (d, k, v) last ws = 0 := by
    simp only [stepL]
    rw [if_neg h1, if_neg (fun e => by omega)]
  have eW : stepW (d, k, v) last ws = ws := by
    simp only [stepW]
    rw [if_neg (fun e => by omega)]
  rw [eL, eW]
  clear eL eW
  obtain ⟨N, hN⟩ : ∃ N, N = l.length := ⟨_, rfl⟩
  obtain ⟨n, hn⟩ : ∃ n, n = ws.length := ⟨_, rfl⟩
  have HN := Lib.hid hn
  have hdN : ¬ N ≤ done := by omega
  have hdN2 : done < N := by omega
  have hk1 : ¬ (0 : Int) ≤ k := by omega
  have hn1' : 1 ≤ n := by omega
  have hn2' : n ≤ 4096 := by omega
  have hwrap := wrap_small (i := done) (by omega)
  have HR := Lib.hid hrow
  rw [← hN, ← hn]
  have hd0 : (d == 0) = false := by simpa using h0
  have hd1 : (d == 1) = false := by simpa using h1
  clear hN hn hin hn1 hn2 hl hdl hx hT hrow i1 i2 i3 i4 i5 i6 h0 h1
  go_enter Try.func13, Try.ntmps13
  have hka := (((Kp.refl [] w).alloc (Obj.cells #[.slice (some ⟨b, o, none⟩) N cp, .int .i64 ((done : Int) + 1), .int .u64 last] 42)).alloc (Obj.cells #[.slice none 0 0, .int .i64 0, .int .u64 0] 42)).alloc (Obj.cells #[.int .u8 d, .int .i64 k, .int .u64 v] 48)
  have hr2 := HR.out.keep hka (by simp)
  have HKA := Lib.hid hka
  clear hka
  go_upto_region 10 with (
    (at_builtin; refine wpList_append_copy rfl _ _ rfl g cap n ws HN.out rfl rfl hr2 hn1' hn2' ?_; intro g3 cap3 w3 hr3 hge3 hk3; obtain ⟨r0, r1, r2⟩ := alloc3_rows hk3; have HR3 := Lib.hid hr3; have hg3 : w.heap.size + 3 ≤ g3 := (by have := hge3; simpa using this); have q0 := cell_of_row r0 0; have q1 := cell_of_row r0 1; have q2 := cell_of_row r0 2; have p0 := cell_of_row r2 0; have p1 := cell_of_row r2 1; have p2 := cell_of_row r2 2; have HK3 := Lib.hid (HKA.out.trans hk3); have R1 := Lib.hid r1; have f0 := free_of_row r0 2; clear hr3 hge3 hk3 r0 r1 r2 hr2))
  have B2 := Lib.hid ((heap_setCell_other w3 ⟨w.heap.size, 2, none⟩ (w.heap.size + 1) (.int .u64 0) (show w.heap.size + 1 ≠ w.heap.size from by omega)).trans (R1.out))
  go_wp2_with (refine wpList_store_row rfl 42 _ _ rfl (w.heap.size + 1) _ rfl rfl 42 _ B2.out (by kernel_rfl) rfl (by simp [Value.oneCell']) ?_)
  exact bodyPost_row_tmp2 rfl (w.heap.size + 1) 42 _ (0, 0) _ (.slice (some ⟨g3, 0, none⟩) n cap3) (.bool true) rfl rfl rfl rfl (setRow_heap _ _ _ _ _ _ B2.out) Try.underlying42 rfl (by kernel_rfl)
    ⟨g3, cap3, by first | rfl | simp, (HR3.out.keep ((Kp.refl [w.heap.size] _).setCell (p := ⟨w.heap.size, 2, none⟩) (.inl (by simp)) (.int .u64 0)) (by simp; omega)).keep ((Kp.refl [w.heap.size + 1] _).setRow (.inl (by simp)) _) (by simp; omega), by omega, (HK3.out.setCell (p := ⟨w.heap.size, 2, none⟩) (.inr (Nat.le_refl _)) (.int .u64 0)).setRow (.inr (by omega)) _⟩

theorem rstep_2_big (w : World) (b o : Nat) (l : List Tch) (cp done g cap : Nat) (last : Int) (ws : List Int) (x : Tch) (hT : Touches w (some ⟨b, o, none⟩) l) (hx : l[done]? = some x) (hl : l.length ≤ 1000) (hrow : Rm w g cap ws) (hn1 : 1 ≤ ws.length) (hn2 : ws.length ≤ 1000) (h0 : x.1 ≠ 0) (h1 : x.1 ≠ 1) (hin : (ws.length : Int) ≤ x.2.1) :
    Calls Try.prog 13 #[.agg #[.slice (some ⟨b, o, none⟩) l.length cp, .int .i64 done, .int .u64 last], .slice (some ⟨g, 0, none⟩) ws.length cap] w fun e w' =>
      ∃ g' cap', e = .returned (.tuple #[.agg #[.slice (some ⟨b, o, none⟩) l.length cp, .int .i64 (done + 1 : Nat), .int .u64 (stepL x last ws)], .slice (some ⟨g', 0, none⟩) ws.length cap', .bool true]) ∧ Rm w' g' cap' (stepW x last ws) ∧ w.heap.size ≤ g' ∧ Kp [] w w' := by
  obtain ⟨⟨i1, i2, i3, i4, i5, i6⟩, b', o', hbo, c1, c2, c3⟩ := hT done x hx
  cases hbo
  obtain ⟨d, k, v⟩ := x
  simp only at *
  have hdl : done < l.length := (List.getElem?_eq_some_iff.1 hx).1
  have hbl := World.block_lt_of_cell? _ _ c1
  have hgl := hrow.lt
  simp only at hbl
  rw [Nat.mul_comm 3 done] at c1 c2 c3
  have eL : stepL (d, k, v) last ws = 0 := by
    simp only [stepL]
    rw [if_neg h1, if_neg (fun e => by omega)]
  have eW : stepW (d, k, v) last ws = ws := by
    simp only [stepW]
    rw [if_neg (fun e => by omega)]
  rw [eL, eW]
  clear eL eW
  obtain ⟨N, hN⟩ : ∃ N, N = l.length := ⟨_, rfl⟩
  obtain ⟨n, hn⟩ : ∃ n, n = ws.length := ⟨_, rfl⟩
  have HN := Lib.hid hn
  have hdN : ¬ N ≤ done := by omega
  have hdN2 : done < N := by omega
  have hk1 : (0 : Int) ≤ k := by omega
  have hk2 : ¬ k < (n : Int) := by omega
  have hn1' : 1 ≤ n := by omega
  have hn2' : n ≤ 4096 := by omega
  have hwrap := wrap_small (i := done) (by omega)
  have HR := Lib.hid hrow
  rw [← hN, ← hn]
  have hd0 : (d == 0) = false := by simpa using h0
  have hd1 : (d == 1) = false := by simpa using h1
  clear hN hn hin hn1 hn2 hl hdl hx hT hrow i1 i2 i3 i4 i5 i6 h0 h1
  go_enter Try.func13, Try.ntmps13
  have hka := (((Kp.refl [] w).alloc (Obj.cells #[.slice (some ⟨b, o, none⟩) N cp, .int .i64 ((done : Int) + 1), .int .u64 last] 42)).alloc (Obj.cells #[.slice none 0 0, .int .i64 0, .int .u64 0] 42)).alloc (Obj.cells #[.int .u8 d, .int .i64 k, .int .u64 v] 48)
  have hr2 := HR.out.keep hka (by simp)
  have HKA := Lib.hid hka
  clear hka
  go_upto_region 10 with (
    (at_builtin; refine wpList_append_copy rfl _ _ rfl g cap n ws HN.out rfl rfl hr2 hn1' hn2' ?_; intro g3 cap3 w3 hr3 hge3 hk3; obtain ⟨r0, r1, r2⟩ := alloc3_rows hk3; have HR3 := Lib.hid hr3; have hg3 : w.heap.size + 3 ≤ g3 := (by have := hge3; simpa using this); have q0 := cell_of_row r0 0; have q1 := cell_of_row r0 1; have q2 := cell_of_row r0 2; have p0 := cell_of_row r2 0; have p1 := cell_of_row r2 1; have p2 := cell_of_row r2 2; have HK3 := Lib.hid (HKA.out.trans hk3); have R1 := Lib.hid r1; have f0 := free_of_row r0 2; clear hr3 hge3 hk3 r0 r1 r2 hr2))
  have B2 := Lib.hid ((heap_setCell_other w3 ⟨w.heap.size, 2, none⟩ (w.heap.size + 1) (.int .u64 0) (show w.heap.size + 1 ≠ w.heap.size from by omega)).trans (R1.out))
  go_wp2_with (refine wpList_store_row rfl 42 _ _ rfl (w.heap.size + 1) _ rfl rfl 42 _ B2.out (by kernel_rfl) rfl (by simp [Value.oneCell']) ?_)
  exact bodyPost_row_tmp2 rfl (w.heap.size + 1) 42 _ (0, 0) _ (.slice (some ⟨g3, 0, none⟩) n cap3) (.bool true) rfl rfl rfl rfl (setRow_heap _ _ _ _ _ _ B2.out) Try.underlying42 rfl (by kernel_rfl)
    ⟨g3, cap3, by first | rfl | simp, (HR3.out.keep ((Kp.refl [w.heap.size] _).setCell (p := ⟨w.heap.size, 2, none⟩) (.inl (by simp)) (.int .u64 0)) (by simp; omega)).keep ((Kp.refl [w.heap.size + 1] _).setRow (.inl (by simp)) _) (by simp; omega), by omega, (HK3.out.setCell (p := ⟨w.heap.size, 2, none⟩) (.inr (Nat.le_refl _)) (.int .u64 0)).setRow (.inr (by omega)) _⟩

end Go.Proofs.Ytnbibpmhmffmpaa

namespace Go.Proofs.Ytnbibpmhmffmpaa
set_option linter.unusedVariables false
set_option linter.unusedSimpArgs false
set_option maxRecDepth 100000
open Go.RowKit

/-- A program that came in: where its touches lie. -/
structure Pr where
  ao : Option Addr
  cap : Nat
  l : List Tch
def Pr.v (p : Pr) : Value := .slice p.ao p.l.length p.cap
/-- Programs that lie where a slice leads. -/
def Progs (w : World) (ao : Option Addr) (L : List Pr) : Prop := ∀ i p, L[i]? = some p → Touches w p.ao p.l ∧ ∃ b o, ao = some ⟨b, o, none⟩ ∧ w.cell? ⟨b, o + i, none⟩ = some p.v
def greatB (L : List Pr) (K : Nat) : Bool := decide (5 < L.length) || decide (150 < K) || L.any (fun p => decide (20 < p.l.length))

theorem great_long (w : World) (ao bo : Option Addr) (n c m d : Nat) (h : 5 < n ∨ (n ≤ 5 ∧ 150 < m)) : Calls Try.prog 8 #[.slice ao n c, .slice bo m d] w fun e w' => e = .returned (.bool true) ∧ w' = w := by
  rcases h with h | ⟨h1, h2⟩
  · go_enter Try.func8, Try.ntmps8
    go_wp2
    simp [bodyPost, results, Try.results8]
  · have h1' : ¬ 5 < n := by omega
    clear h1
    go_enter Try.func8, Try.ntmps8
    go_wp2
    simp [bodyPost, results, Try.results8]
theorem great_rows (w : World) (ao bo : Option Addr) (L : List Pr) (c m d : Nat) (r : Bool) (hr : r = L.any (fun p => decide (20 < p.l.length))) (hL : Progs w ao L) (h1 : L.length ≤ 5) (h2 : m ≤ 150) : Calls Try.prog 8 #[.slice ao L.length c, .slice bo m d] w fun e w' => e = .returned (.bool r) ∧ w' = w := by
  have HRR := Lib.hid hr
  clear hr
  obtain ⟨n, hn⟩ : ∃ n, n = L.length := ⟨_, rfl⟩
  have HN := Lib.hid hn
  have hn5 : ¬ 5 < n := by omega
  have hm : ¬ 150 < m := by omega
  have hw : ∀ j : Nat, j < n → IntKind.wrap .i64 ((j : Int) + 1) = (j : Int) + 1 := fun j hj => wrap_small (by omega)
  have HW := Lib.hid hw
  have HL := Lib.hid hL
  rw [← hn]
  have hnn : n ≤ 5 := by omega
  clear hn h1 h2 hL hw
  go_enter Try.func8, Try.ntmps8
  go_wp2
  go_loopg [5] n (fun g v5 wr => ∃ j : Nat, j + g = n ∧ v5 = .int .i64 j ∧ wr = w ∧ Hid (∀ i p, i < j → L[i]? = some p → p.l.length ≤ 20))
  case atStart => exact ⟨0, by omega, rfl, rfl, Lib.hid (fun i p hi => by omega)⟩
  case round =>
    obtain ⟨j, hj, rfl, rfl, HJ⟩ := hrel
    by_cases hlt : j < n
    · obtain ⟨p, hp⟩ : ∃ p, L[j]? = some p := ⟨L[j]'(by rw [← HN.out]; exact hlt), by simp [HN.out.symm, hlt]⟩
      obtain ⟨-, b, o, hao, hc⟩ := HL.out j p hp
      subst hao
      unfold Pr.v at hc
      obtain ⟨q, hq⟩ : ∃ q, q = p.l.length := ⟨_, rfl⟩
      rw [← hq] at hc
      have hwj := HW.out j hlt
      by_cases hb : 20 < q
      · have hx : L.any (fun p => decide (20 < p.l.length)) = true := List.any_eq_true.2 ⟨p, List.mem_of_getElem? hp, by rw [← hq]; simpa using hb⟩
        obtain rfl : r = true := HRR.out.trans hx
        clear hx hp hq hj HRR
        go_wp2
        simp [bodyPost, results, Try.results8]
      · have HJ2 : Hid (∀ i p, i < j + 1 → L[i]? = some p → p.l.length ≤ 20) := Lib.hid fun i p' hi hp' => by
          by_cases e : i = j
          · subst e; rw [hp] at hp'; cases hp'; omega
          · exact HJ.out i p' (by omega) hp'
        clear hp hq
        go_wp2
        go_roundg (n - (j + 1))
        exact ⟨j + 1, by omega, rfl, rfl, HJ2⟩
        omega
    · obtain rfl : j = n := by omega
      have hx : L.any (fun p => decide (20 < p.l.length)) = false := by
        rw [List.any_eq_false]
        intro p hp
        obtain ⟨i, hi, rfl⟩ := List.getElem_of_mem hp
        have := HJ.out i (L[i]) (by rw [HN.out]; exact hi) (List.getElem?_eq_getElem hi)
        simp only [decide_eq_true_eq]; omega
      obtain rfl : r = false := HRR.out.trans hx
      clear hx HRR
      go_wp2
      simp [bodyPost, results, Try.results8]
theorem great_is (w : World) (ao bo : Option Addr) (L : List Pr) (c m d : Nat) (hL : Progs w ao L) : Calls Try.prog 8 #[.slice ao L.length c, .slice bo m d] w fun e w' => e = .returned (.bool (greatB L m)) ∧ w' = w := by
  by_cases h1 : 5 < L.length
  · have e : greatB L m = true := by simp [greatB, h1]
    rw [e]; exact great_long w ao bo _ c m d (.inl h1)
  · by_cases h2 : 150 < m
    · have e : greatB L m = true := by simp [greatB, h2]
      rw [e]; exact great_long w ao bo _ c m d (.inr ⟨by omega, h2⟩)
    · have e : greatB L m = L.any (fun p => decide (20 < p.l.length)) := by simp [greatB, h1, h2]
      rw [e]; exact great_rows w ao bo L c m d _ rfl hL (by omega) (by omega)

/-- The document's Step, not at the end. -/
theorem rstep_is (w : World) (la : Option Addr) (l : List Tch) (cp done g cap : Nat) (last : Int) (ws : List Int) (x : Tch) (hT : Touches w la l) (hx : l[done]? = some x) (hl : l.length ≤ 1000) (hrow : Rm w g cap ws) (hn1 : 1 ≤ ws.length) (hn2 : ws.length ≤ 1000) :
    Calls Try.prog 13 #[.agg #[.slice la l.length cp, .int .i64 done, .int .u64 last], .slice (some ⟨g, 0, none⟩) ws.length cap] w fun e w' =>
      ∃ g' cap', e = .returned (.tuple #[.agg #[.slice la l.length cp, .int .i64 (done + 1 : Nat), .int .u64 (stepL x last ws)], .slice (some ⟨g', 0, none⟩) ws.length cap', .bool true]) ∧ Rm w' g' cap' (stepW x last ws) ∧ w.heap.size ≤ g' ∧ Kp [] w w' := by
  obtain ⟨_, b, o, hla, _⟩ := hT done x hx
  subst hla
  by_cases hk0 : 0 ≤ x.2.1
  · by_cases hk1 : x.2.1 < ws.length
    · by_cases h0 : x.1 = 0
      · exact rstep_0_in w b o l cp done g cap last ws x hT hx hl hrow hn1 hn2 h0 ⟨hk0, hk1⟩
      · by_cases h1 : x.1 = 1
        · exact rstep_1_in w b o l cp done g cap last ws x hT hx hl hrow hn1 hn2 h1 ⟨hk0, hk1⟩
        · exact rstep_2_in w b o l cp done g cap last ws x hT hx hl hrow hn1 hn2 h0 h1 ⟨hk0, hk1⟩
    · by_cases h0 : x.1 = 0
      · exact rstep_0_big w b o l cp done g cap last ws x hT hx hl hrow hn1 hn2 h0 (by omega)
      · by_cases h1 : x.1 = 1
        · exact rstep_1_big w b o l cp done g cap last ws x hT hx hl hrow hn1 hn2 h1 (by omega)
        · exact rstep_2_big w b o l cp done g cap last ws x hT hx hl hrow hn1 hn2 h0 h1 (by omega)
  · by_cases h0 : x.1 = 0
    · exact rstep_0_neg w b o l cp done g cap last ws x hT hx hl hrow hn1 hn2 h0 (by omega)
    · by_cases h1 : x.1 = 1
      · exact rstep_1_neg w b o l cp done g cap last ws x hT hx hl hrow hn1 hn2 h1 (by omega)
      · exact rstep_2_neg w b o l cp done g cap last ws x hT hx hl hrow hn1 hn2 h0 h1 (by omega)
end Go.Proofs.Ytnbibpmhmffmpaa
