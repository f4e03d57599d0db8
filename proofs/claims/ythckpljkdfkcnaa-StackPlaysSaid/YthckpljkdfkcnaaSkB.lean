/- A row of numbers as the walks hold it, and a stack: whether it overflowed, its places, its room. Conditions: as each lemma states them. -/
import Derived.Test.YthckpljkdfkcnaaRows
import Derived.Test.YthckpljkdfkcnaaKeep
import Derived.OneCell
import Derived.Deep.Draws
import Derived.Laws.IdiomCopy
namespace Go.Proofs.Ythckpljkdfkcnaa
set_option linter.unusedVariables false
set_option linter.unusedSimpArgs false
open Go.RowKit

def ints (xs : List Int) : List Value := xs.map (Value.int .i64)
theorem ints_len (xs : List Int) : (ints xs).length = xs.length := by simp [ints]
theorem ints_get (xs : List Int) (i : Nat) (h : i < xs.length) : (ints xs)[i]? = some (.int .i64 (xs.getD i 0)) := by simp [ints, List.getD, h]
theorem ints_snoc (xs : List Int) (z : Int) : ints (xs ++ [z]) = ints xs ++ [.int .i64 z] := by simp [ints]
theorem ints_take (xs : List Int) (i : Nat) : (ints xs).take i = ints (xs.take i) := by simp [ints, List.map_take]

/-- The block that a slice leads to, as a list. -/
def blk (v : Value) : List Nat := v.ownBlock.toList
theorem blk_nil : blk (.slice none 0 0) = [] := rfl
theorem blk_some (g o n c : Nat) : blk (.slice (some ⟨g, o, none⟩) n c) = [g] := rfl

theorem kp_row {w w' : World} {v : Value} (h : Kp (blk v) w w') : w.grownBy w' v.ownBlock := ⟨h.os, h.tape, h.output, h.size, fun k hk hn => h.block k hk (by
  intro e
  unfold blk at e
  rw [Option.mem_toList] at e
  exact hn e.symm)⟩
theorem kp_of_row {w w' : World} {v : Value} (h : w.grownBy w' v.ownBlock) : Kp (blk v) w w' := ⟨h.os, h.tape, h.output, h.size, fun k hk hn => h.block k hk (by
  intro e
  apply hn
  unfold blk
  rw [Option.mem_toList]
  exact e.symm)⟩
theorem kp_drewN {S : List Nat} (w : World) (j : Nat) : Kp S w (w.drewN j) := ⟨rfl, rfl, rfl, Nat.le_refl _, fun _ _ _ => rfl⟩
theorem ne_types {w : World} {a b : Nat} {x y : Array Value} {t u : TypeId} (h : w.heap[a]? = some (.cells x t (0, 0))) (k : w.heap[b]? = some (.cells y u (0, 0))) (htu : t ≠ u) : a ≠ b := by
  intro e; subst e
  have := h.symm.trans k
  simp at this
  exact htu this.2
theorem Kp.cell {S : List Nat} {w w' : World} (k : Kp S w w') {g o : Nat} (hg : g ∉ S) {v : Value} (h : w.cell? ⟨g, o, none⟩ = some v) : w'.cell? ⟨g, o, none⟩ = some v :=
  (World.cell?_of_block (a := ⟨g, o, none⟩) (k.block g (block_lt_of_cell h) hg)).trans h

/-- The numbers xs lie where the slice u leads, a row of ints. -/
structure Rd (w : World) (u : Value) (xs : List Int) : Prop where
  form : ∃ ao cap, u = .slice ao xs.length cap ∧ xs.length ≤ cap ∧ (ao = none → cap = 0) ∧ (xs ≠ [] → ∃ g o, ao = some ⟨g, o, none⟩ ∧ ∀ i, i < xs.length → w.cell? ⟨g, o + i, none⟩ = some (.int .i64 (xs.getD i 0)))
  ty : ∀ g ∈ blk u, ∃ cur, w.heap[g]? = some (.cells cur 3 (0, 0))

theorem Rd.nil (w : World) : Rd w (.slice none 0 0) [] := ⟨⟨none, 0, rfl, Nat.le_refl _, fun _ => rfl, fun h => absurd rfl h⟩, by simp [blk_nil]⟩
theorem Rd.keep {w w' : World} {u : Value} {xs : List Int} {S : List Nat} (h : Rd w u xs) (k : Kp S w w') (hS : ∀ g ∈ blk u, g ∉ S) : Rd w' u xs := by
  refine ⟨?_, fun g hg => ?_⟩
  · obtain ⟨ao, cap, rfl, hc, hz, hx⟩ := h.form
    refine ⟨ao, cap, rfl, hc, hz, fun hne => ?_⟩
    obtain ⟨g, o, rfl, hcell⟩ := hx hne
    exact ⟨g, o, rfl, fun i hi => k.cell (hS g (by simp [blk_some])) (hcell i hi)⟩
  · obtain ⟨cur, hc⟩ := h.ty g hg
    exact ⟨cur, k.row (hS g hg) hc⟩
theorem Rd.keep0 {w w' : World} {u : Value} {xs : List Int} (h : Rd w u xs) (k : Kp [] w w') : Rd w' u xs := h.keep k (by simp)
/-- A block of another type is none of its. -/
theorem Rd.nin {w : World} {u : Value} {xs : List Int} (h : Rd w u xs) {b : Nat} {x : Array Value} {t : TypeId} (hb : w.heap[b]? = some (.cells x t (0, 0))) (ht : 3 ≠ t) : ∀ g ∈ blk u, g ≠ b := by
  intro g hg
  obtain ⟨cur, hc⟩ := h.ty g hg
  exact ne_types hc hb ht
theorem Rd.lt {w : World} {u : Value} {xs : List Int} (h : Rd w u xs) : ∀ g ∈ blk u, g < w.heap.size := by
  intro g hg
  obtain ⟨cur, hc⟩ := h.ty g hg
  exact lt_of_block hc
theorem Rd.of_own {w : World} {base : Nat} {v : Value} {xs : List Int} (h : w.ownsRow base 3 1 v xs.length (ints xs)) : Rd w v xs := by
  rcases h.2 with ⟨rfl, h0⟩ | ⟨g, cap, cur, rfl, hge, hg, h1, h2, h3, h4⟩
  · rw [List.eq_nil_of_length_eq_zero h0]; exact Rd.nil w
  · refine ⟨⟨_, cap, rfl, h1, fun e => (by cases e), fun _ => ⟨g, 0, rfl, fun i hi => ?_⟩⟩, fun k hk => ?_⟩
    · rw [Nat.zero_add, cell_of_row hg, ← ints_get xs i hi, ← h4, List.getElem?_take_of_lt (by omega)]; simp
    · rw [blk_some, List.mem_singleton] at hk
      exact ⟨cur, hk ▸ hg⟩
theorem Rd.cellAt {w : World} {ao : Option Addr} {n cap : Nat} {xs : List Int} (h : Rd w (.slice ao n cap) xs) {i : Nat} (hi : i < xs.length) : ∃ g o, ao = some ⟨g, o, none⟩ ∧ w.cell? ⟨g, o + i, none⟩ = some (.int .i64 (xs.getD i 0)) := by
  obtain ⟨ao', cap', e, _, _, hx⟩ := h.form
  cases e
  obtain ⟨g, o, e2, hc⟩ := hx (fun e => by subst e; simp at hi)
  exact ⟨g, o, e2, hc i hi⟩
theorem Rd.one {w : World} {u : Value} {xs : List Int} (h : Rd w u xs) : u.oneCell' = true := by
  obtain ⟨ao, cap, rfl, _⟩ := h.form
  rfl
theorem blk_same (ao : Option Addr) (n c m d : Nat) : blk (.slice ao n c) = blk (.slice ao m d) := by cases ao <;> rfl
/-- Its last one is left out. -/
theorem Rd.less {w : World} {ao : Option Addr} {cap : Nat} {xs : List Int} {x : Int} {n : Nat} (h : Rd w (.slice ao n cap) (xs ++ [x])) : Rd w (.slice ao xs.length cap) xs := by
  refine ⟨?_, fun g hg => h.ty g (by rw [blk_same ao n cap xs.length cap]; exact hg)⟩
  obtain ⟨ao', cap', e, hl, hz, hx⟩ := h.form
  simp only [Value.slice.injEq] at e
  obtain ⟨rfl, _, rfl⟩ := e
  simp at hl
  refine ⟨ao, cap, rfl, by omega, hz, fun _ => ?_⟩
  obtain ⟨g, o, rfl, hc⟩ := hx (by simp)
  refine ⟨g, o, rfl, fun i hi => ?_⟩
  rw [hc i (by simp; omega)]
  simp [List.getD, hi, List.getElem?_append_left hi]
/-- Its last one. -/
theorem Rd.last {w : World} {u : Value} {xs : List Int} {x : Int} (h : Rd w u (xs ++ [x])) : ∃ g o cap, u = .slice (some ⟨g, o, none⟩) (xs.length + 1) cap ∧ xs.length + 1 ≤ cap ∧ w.cell? ⟨g, o + xs.length, none⟩ = some (.int .i64 x) ∧ Rd w (.slice (some ⟨g, o, none⟩) xs.length cap) xs := by
  obtain ⟨ao, cap, hu, hl, hz, hx⟩ := h.form
  obtain ⟨g, o, rfl, hc⟩ := hx (by simp)
  have e : (xs ++ [x]).length = xs.length + 1 := by simp
  subst hu
  have h' := h.less
  rw [e] at hl hc ⊢
  refine ⟨g, o, cap, rfl, hl, ?_, h'⟩
  rw [hc _ (Nat.lt_succ_self _)]
  simp [List.getD]
/-- What it holds, as what is appended to another row. -/
theorem Rd.news {w : World} {u : Value} {xs : List Int} (h : Rd w u xs) : (u = .slice none 0 0 ∧ xs = []) ∨ ∃ ad cap, u = .slice (some ad) xs.length cap ∧ ∀ j v, (ints xs)[j]? = some v → w.cell? (ad.add j) = some v := by
  obtain ⟨ao, cap, rfl, hc, hz, hx⟩ := h.form
  cases ao with
  | none =>
    obtain rfl := hz rfl
    have : xs = [] := List.eq_nil_of_length_eq_zero (by omega)
    subst this
    exact .inl ⟨rfl, rfl⟩
  | some ad =>
    refine .inr ⟨ad, cap, rfl, fun j v hv => ?_⟩
    have hj : j < xs.length := by
      have := (List.getElem?_eq_some_iff.1 hv).1
      simpa [ints] using this
    obtain ⟨g, o, e, hcell⟩ := hx (fun e => by subst e; simp at hj)
    cases e
    rw [Addr.add_lit, hcell j hj, ← ints_get xs j hj]
    exact hv

/-- A stack at p, whose places lie in row r: its room, its places, whether it has overflowed. -/
structure Sk (w : World) (p r n : Nat) (L : List Int) (o : Bool) : Prop where
  hp : w.heap[p]? = some (.cells #[.bool o, .slice (some ⟨r, 0, none⟩) L.length n] 48 (0, 0))
  row : ∃ cur, w.heap[r]? = some (.cells cur 44 (0, 0)) ∧ cur.size = 64 ∧ ∀ i, i < L.length → cur[i]? = some (.int .i64 (L.getD i 0))
  le : L.length ≤ n
  most : n ≤ 64

section
variable {w w' : World} {p r n : Nat} {L : List Int} {o : Bool}
theorem Sk.ne (h : Sk w p r n L o) : p ≠ r := by
  obtain ⟨cur, hr, _⟩ := h.row
  exact ne_types h.hp hr (by decide)
theorem Sk.keep {S : List Nat} (h : Sk w p r n L o) (k : Kp S w w') (hp : p ∉ S) (hr : r ∉ S) : Sk w' p r n L o := by
  obtain ⟨cur, h1, h2⟩ := h.row
  exact ⟨k.row hp h.hp, ⟨cur, k.row hr h1, h2⟩, h.le, h.most⟩
theorem Sk.keep0 (h : Sk w p r n L o) (k : Kp [] w w') : Sk w' p r n L o := h.keep k (by simp) (by simp)
theorem Sk.c0 (h : Sk w p r n L o) : w.cell? ⟨p, 0, none⟩ = some (.bool o) := by rw [cell_of_row h.hp]; rfl
theorem Sk.c1 (h : Sk w p r n L o) : w.cell? ⟨p, 1, none⟩ = some (.slice (some ⟨r, 0, none⟩) L.length n) := by rw [cell_of_row h.hp]; rfl
theorem Sk.f (h : Sk w p r n L o) (i : Nat) : w.frozen? ⟨p, i, none⟩ = false := free_of_row h.hp i
theorem Sk.cr (h : Sk w p r n L o) {i : Nat} (hi : i < L.length) : w.cell? ⟨r, i, none⟩ = some (.int .i64 (L.getD i 0)) := by
  obtain ⟨cur, h1, _, h2⟩ := h.row
  rw [cell_of_row h1, h2 i hi]
theorem Sk.room (h : Sk w p r n L o) {i : Nat} (hi : i < 64) : (w.cell? ⟨r, i, none⟩).isSome = true ∧ w.frozen? ⟨r, i, none⟩ = false := by
  obtain ⟨cur, h1, h2, _⟩ := h.row
  rw [cell_of_row h1]
  exact ⟨by simp [h2, hi], free_of_row h1 i⟩
theorem Sk.lt (h : Sk w p r n L o) : p < w.heap.size ∧ r < w.heap.size := by
  obtain ⟨cur, hr, _⟩ := h.row
  exact ⟨lt_of_block h.hp, lt_of_block hr⟩
/-- Whether it has overflowed is stored. -/
theorem Sk.over (h : Sk w p r n L o) (o' : Bool) : Sk (w.setCell ⟨p, 0, none⟩ (.bool o')) p r n L o' := by
  obtain ⟨cur, h1, h2⟩ := h.row
  refine ⟨?_, ⟨cur, (heap_setCell_other _ _ _ _ (Ne.symm h.ne)).trans h1, h2⟩, h.le, h.most⟩
  rw [heap_setCell_same _ _ _ _ _ _ h.hp]
  rfl
/-- A place is put. -/
theorem Sk.push (h : Sk w p r n L o) (x : Int) (hn : L.length < n) : Sk ((w.setCell ⟨r, L.length, none⟩ (.int .i64 x)).setCell ⟨p, 1, none⟩ (.slice (some ⟨r, 0, none⟩) (L.length + 1) n)) p r n (L ++ [x]) o := by
  obtain ⟨cur, h1, h2, h3⟩ := h.row
  have hm := h.most
  have a1 := (heap_setCell_other w ⟨r, L.length, none⟩ p (.int .i64 x) h.ne).trans h.hp
  have a2 := heap_setCell_same w r L.length _ _ (.int .i64 x) h1
  refine ⟨?_, ⟨_, (heap_setCell_other _ _ _ _ (Ne.symm h.ne)).trans a2, by simpa using h2, ?_⟩, by simp; omega, h.most⟩
  · rw [heap_setCell_same _ _ _ _ _ _ a1]
    simp
  · intro i hi
    by_cases e : i = L.length
    · subst e
      rw [Array.getElem?_setIfInBounds_self_of_lt (by omega)]
      simp
    · have hi' : i < L.length := by simp at hi; omega
      rw [Array.getElem?_setIfInBounds_ne (by omega), h3 i hi']
      simp [List.getD, hi', List.getElem?_append_left hi']
/-- The top place is taken away. -/
theorem Sk.pop {x : Int} (h : Sk w p r n (L ++ [x]) o) : Sk (w.setCell ⟨p, 1, none⟩ (.slice (some ⟨r, 0, none⟩) L.length n)) p r n L o := by
  obtain ⟨cur, h1, h2, h3⟩ := h.row
  have hl := h.le
  simp at hl
  refine ⟨?_, ⟨_, (heap_setCell_other _ _ _ _ (Ne.symm h.ne)).trans h1, h2, ?_⟩, by omega, h.most⟩
  · rw [heap_setCell_same _ _ _ _ _ _ h.hp]
    simp
  · intro i hi
    rw [h3 i (by simp; omega)]
    simp [List.getD, hi, List.getElem?_append_left hi]
end

end Go.Proofs.Ythckpljkdfkcnaa
