/- The walks of the document's own arena (demesneref02): New, Touch. Conditions: as each theorem states them. -/
import Derived.Test.YteppcbihhikoaaaArnC
import Derived.Test.YteppcbihhikoaaaLaw
import Derived.OwnWalk
namespace Go.Proofs.Yteppcbihhikoaaa
set_option linter.unusedVariables false
set_option linter.unusedSimpArgs false
open Go.RowKit

/-- The words ws lie at the head of row g, which has room for cap. -/
structure Rw (w : World) (g cap : Nat) (ws : List Int) : Prop where
  row : ∃ cur : Array Value, w.heap[g]? = some (.cells cur 30 (0, 0)) ∧ ∀ i, i < ws.length → cur[i]? = some (.int .u64 (ws.getD i 0))
  le : ws.length ≤ cap

theorem Rw.keep {w w' : World} {g cap : Nat} {ws : List Int} {S : List Nat} (h : Rw w g cap ws) (k : Kp S w w') (hg : g ∉ S) : Rw w' g cap ws := by
  obtain ⟨⟨cur, h1, h2⟩, h3⟩ := h
  exact ⟨⟨cur, k.row hg h1, h2⟩, h3⟩
theorem Rw.cell {w : World} {g cap : Nat} {ws : List Int} (h : Rw w g cap ws) {i : Nat} (hi : i < ws.length) : w.cell? ⟨g, i, none⟩ = some (.int .u64 (ws.getD i 0)) := by
  obtain ⟨⟨cur, h1, h2⟩, h3⟩ := h
  rw [cell_of_row h1, h2 i hi]
theorem Rw.free {w : World} {g cap : Nat} {ws : List Int} (h : Rw w g cap ws) (i : Nat) : w.frozen? ⟨g, i, none⟩ = false := by
  obtain ⟨⟨cur, h1, h2⟩, h3⟩ := h
  exact free_of_row h1 i
theorem Rw.lt {w : World} {g cap : Nat} {ws : List Int} (h : Rw w g cap ws) : g < w.heap.size := by
  obtain ⟨⟨cur, h1, h2⟩, h3⟩ := h
  exact lt_of_block h1
theorem Rw.store {w : World} {g cap : Nat} {ws : List Int} (h : Rw w g cap ws) {k : Nat} (hk : k < ws.length) (y : Int) : Rw (w.setCell ⟨g, k, none⟩ (.int .u64 y)) g cap (ws.set k y) := by
  obtain ⟨⟨cur, h1, h2⟩, h3⟩ := h
  refine ⟨⟨_, heap_setCell_same w g k _ _ _ h1, ?_⟩, by simpa using h3⟩
  intro i hi
  have hi' : i < ws.length := by simpa using hi
  have hks : k < cur.size := by
    have := h2 k hk
    exact (Array.getElem?_eq_some_iff.1 this).1
  by_cases e : k = i
  · subst e
    rw [Array.getElem?_setIfInBounds_self_of_lt hks]
    simp [List.getD, hk]
  · rw [Array.getElem?_setIfInBounds_ne e, h2 i hi']
    simp [List.getD, e]

theorem rw_of_u64s {w : World} {g : Nat} {ws : List Int} (h : w.heap[g]? = some (.cells (u64s ws) 30 (0, 0))) : Rw w g ws.length ws := ⟨⟨_, h, fun i hi => u64s_get ws i hi⟩, Nat.le_refl _⟩

/-- 'append(nil, ws...)': the words again, in a row that is new. -/
theorem wpList_append_copy {w : World} {ops : Array Oper} {rest : List Oper} {o : Oper} {a : Act} {Q : Exit → Act → World → Prop} (hgd : o.guard = none) (s x : Operand)
    (ho : o.op = .call { callee := .builtin .append, args := #[s, x], argTypes := #[31, 31] }) (g0 cap0 n : Nat) (ws : List Int) (hn : n = ws.length) (hs : a.eval s = .slice none 0 0) (hx : a.eval x = .slice (some ⟨g0, 0, none⟩) n cap0)
    (hrow : Rw w g0 cap0 ws) (h1 : 1 ≤ n) (h2 : n ≤ 4096)
    (h : ∀ g cap w', Rw w' g cap ws → w.heap.size ≤ g → Kp [] w w' → wpList Try.prog ops Q rest (a.put o.dst (.slice (some ⟨g, 0, none⟩) n cap)) w') : wpList Try.prog ops Q (o :: rest) a w := by
  subst hn
  obtain ⟨i, hi, hz0, hz1, hz2⟩ := info_parts (P := Try.prog) (e := 30) (z := .int .u64 0) (size := 1) (bytes := 8) (by kernel_rfl)
  refine wpList_append_own _ hgd s x 31 ho w.heap.size 30 i (.int .u64 0) 1 8 Try.underlying31 hi hz0 hz1 hz2 rfl (by decide) _ 0 [] hs (World.ownsRow_nil _ _ _ _) ⟨g0, 0, none⟩ ws.length cap0 (ws.map (Value.int .u64)) hx (by simp) ?_ ?_ ?_ ?_ (Nat.le_refl _) ?_
  · intro j u hu
    rw [Addr.add_lit, Nat.zero_add]
    have hj : j < ws.length := by
      have := (List.getElem?_eq_some_iff.1 hu).1
      simpa using this
    rw [hrow.cell hj]
    simpa [List.getD, hj] using hu
  · intro u hu
    obtain ⟨_, _, rfl⟩ := List.mem_map.1 hu
    rfl
  · unfold maxLen; omega
  · omega
  · intro v' w' hown hg hnil
    obtain ⟨_, hown⟩ := hown
    rcases hown with ⟨rfl, h0⟩ | ⟨g, cap, cur, rfl, hge, hh, hle, hmx, hsz, htk⟩
    · omega
    · rw [Nat.zero_add] at hle htk ⊢
      refine h g cap w' ⟨⟨cur, hh, ?_⟩, hle⟩ hge ((Kp.refl [] w).grown hg (fun k hk => by cases hk))
      intro j hj
      have e : (cur.toList.take (ws.length * 1))[j]? = some (.int .u64 (ws.getD j 0)) := by
        rw [htk]; simp [List.getD, hj]
      rw [List.getElem?_take_of_lt (by omega)] at e
      simpa using e

end Go.Proofs.Yteppcbihhikoaaa
