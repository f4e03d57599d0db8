/- A row of numbers as the walks hold it, and a stack: whether it overflowed, its places, its room. Conditions: as each lemma states them. The walks of package stack: New, Len, Push, Pop, Over, and all of them at nil. Package mark, its walks: a header is read, an object is the owner's, a place is treated. Package mark, its walks, on: whether an object is the owner's; a place is treated. Package mark, its walks, on: a place is treated. Conditions: as each theorem states them. -/
import Derived.Test.YticbnckikkdknaaGreatDoorRows
import Derived.OneCell
import Derived.Deep.Draws
import Derived.Laws.IdiomCopy
import Derived.WalkKit
import Derived.WalkSpells
import Derived.WalkLawsBesides
import Derived.BigQuiet
import Derived.RegionTactic
import Derived.ArgAppend
import Derived.Laws.CopyRow
import Derived.Deep.WholeRow
import Derived.Lib.Hide
import Derived.Test.YticbnckikkdknaaGreatDoorPr01
import Derived.Test.YticbnckikkdknaaGreatDoorPr15
namespace Go.Proofs.YticbnckikkdknaaGreatDoor.Sk
set_option linter.unusedVariables false
set_option linter.unusedSimpArgs false
open Go.RowKit

def ints (xs : List Int) : List Value := xs.map (Value.int .i64)
theorem ints_len (xs : List Int) : (ints xs).length = xs.length := by simp [ints]
theorem ints_get (xs : List Int) (i : Nat) (h : i < xs.length) : (ints xs)[i]? = some (.int .i64 (xs.getD i 0)) := by simp [ints, List.getD, h]
theorem ints_snoc (xs : List Int) (z : Int) : ints (xs ++ [z]) = ints xs ++ [.int .i64 z] := by simp [ints]
theorem ints_take (xs : List Int) (i : Nat) : (ints xs).take i = ints (xs.take i) := by simp [ints, List.map_take]

/-- The block that a slice leads to, as a list. -/
def blk (v : Value) : List Nat := v.ownBlock.toList
theorem blk_nil : blk (.slice none 0 0) = [] := rfl
theorem blk_some (g o n c : Nat) : blk (.slice (some ⟨g, o, none⟩) n c) = [g] := rfl

theorem kp_of_row {w w' : World} {v : Value} (h : w.grownBy w' v.ownBlock) : Kp (blk v) w w' := ⟨h.os, h.tape, h.output, h.size, fun k hk hn => h.block k hk (by
  intro e
  apply hn
  unfold blk
  rw [Option.mem_toList]
  exact e.symm)⟩
theorem kp_drewN {S : List Nat} (w : World) (j : Nat) : Kp S w (w.drewN j) := ⟨rfl, rfl, rfl, Nat.le_refl _, fun _ _ _ => rfl⟩
theorem ne_types {w : World} {a b : Nat} {x y : Array Value} {t u : TypeId} (h : w.heap[a]? = some (.cells x t (0, 0))) (k : w.heap[b]? = some (.cells y u (0, 0))) (htu : t ≠ u) : a ≠ b := by
  intro e; subst e
  have := h.symm.trans k
  simp at this
  exact htu this.2
theorem Kp.cell {S : List Nat} {w w' : World} (k : Kp S w w') {g o : Nat} (hg : g ∉ S) {v : Value} (h : w.cell? ⟨g, o, none⟩ = some v) : w'.cell? ⟨g, o, none⟩ = some v :=
  (World.cell?_of_block (a := ⟨g, o, none⟩) (k.block g (block_lt_of_cell h) hg)).trans h

/-- The numbers xs lie where the slice u leads, a row of ints. -/
structure Rd (w : World) (u : Value) (xs : List Int) : Prop where
  form : ∃ ao cap, u = .slice ao xs.length cap ∧ xs.length ≤ cap ∧ (ao = none → cap = 0) ∧ (xs ≠ [] → ∃ g o, ao = some ⟨g, o, none⟩ ∧ ∀ i, i < xs.length → w.cell? ⟨g, o + i, none⟩ = some (.int .i64 (xs.getD i 0)))
  ty : ∀ g ∈ blk u, ∃ cur, w.heap[g]? = some (.cells cur 3 (0, 0))

theorem Rd.nil (w : World) : Rd w (.slice none 0 0) [] := ⟨⟨none, 0, rfl, Nat.le_refl _, fun _ => rfl, fun h => absurd rfl h⟩, by simp [blk_nil]⟩
theorem Rd.keep {w w' : World} {u : Value} {xs : List Int} {S : List Nat} (h : Rd w u xs) (k : Kp S w w') (hS : ∀ g ∈ blk u, g ∉ S) : Rd w' u xs := by
  refine ⟨?_, fun g hg => ?_⟩
  · obtain ⟨ao, cap, rfl, hc, hz, hx⟩ := h.form
    refine ⟨ao, cap, rfl, hc, hz, fun hne => ?_⟩
    obtain ⟨g, o, rfl, hcell⟩ := hx hne
    exact ⟨g, o, rfl, fun i hi => Kp.cell k (hS g (by simp [blk_some])) (hcell i hi)⟩
  · obtain ⟨cur, hc⟩ := h.ty g hg
    exact ⟨cur, k.row (hS g hg) hc⟩
theorem Rd.keep0 {w w' : World} {u : Value} {xs : List Int} (h : Rd w u xs) (k : Kp [] w w') : Rd w' u xs := h.keep k (by simp)
theorem Rd.lt {w : World} {u : Value} {xs : List Int} (h : Rd w u xs) : ∀ g ∈ blk u, g < w.heap.size := by
  intro g hg
  obtain ⟨cur, hc⟩ := h.ty g hg
  exact lt_of_block hc
theorem Rd.of_own {w : World} {base : Nat} {v : Value} {xs : List Int} (h : w.ownsRow base 3 1 v xs.length (ints xs)) : Rd w v xs := by
  rcases h.2 with ⟨rfl, h0⟩ | ⟨g, cap, cur, rfl, hge, hg, h1, h2, h3, h4⟩
  · rw [List.eq_nil_of_length_eq_zero h0]; exact Rd.nil w
  · refine ⟨⟨_, cap, rfl, h1, fun e => (by cases e), fun _ => ⟨g, 0, rfl, fun i hi => ?_⟩⟩, fun k hk => ?_⟩
    · rw [Nat.zero_add, cell_of_row hg, ← ints_get xs i hi, ← h4, List.getElem?_take_of_lt (by omega)]; simp
    · rw [blk_some, List.mem_singleton] at hk
      exact ⟨cur, hk ▸ hg⟩
theorem Rd.one {w : World} {u : Value} {xs : List Int} (h : Rd w u xs) : u.oneCell' = true := by
  obtain ⟨ao, cap, rfl, _⟩ := h.form
  rfl
theorem blk_same (ao : Option Addr) (n c m d : Nat) : blk (.slice ao n c) = blk (.slice ao m d) := by cases ao <;> rfl
/-- Its last one is left out. -/
theorem Rd.less {w : World} {ao : Option Addr} {cap : Nat} {xs : List Int} {x : Int} {n : Nat} (h : Rd w (.slice ao n cap) (xs ++ [x])) : Rd w (.slice ao xs.length cap) xs := by
  refine ⟨?_, fun g hg => h.ty g (by rw [blk_same ao n cap xs.length cap]; exact hg)⟩
  obtain ⟨ao', cap', e, hl, hz, hx⟩ := h.form
  simp only [Value.slice.injEq] at e
  obtain ⟨rfl, _, rfl⟩ := e
  simp at hl
  refine ⟨ao, cap, rfl, by omega, hz, fun _ => ?_⟩
  obtain ⟨g, o, rfl, hc⟩ := hx (by simp)
  refine ⟨g, o, rfl, fun i hi => ?_⟩
  rw [hc i (by simp; omega)]
  simp [List.getD, hi, List.getElem?_append_left hi]
/-- Its last one. -/
theorem Rd.last {w : World} {u : Value} {xs : List Int} {x : Int} (h : Rd w u (xs ++ [x])) : ∃ g o cap, u = .slice (some ⟨g, o, none⟩) (xs.length + 1) cap ∧ xs.length + 1 ≤ cap ∧ w.cell? ⟨g, o + xs.length, none⟩ = some (.int .i64 x) ∧ Rd w (.slice (some ⟨g, o, none⟩) xs.length cap) xs := by
  obtain ⟨ao, cap, hu, hl, hz, hx⟩ := h.form
  obtain ⟨g, o, rfl, hc⟩ := hx (by simp)
  have e : (xs ++ [x]).length = xs.length + 1 := by simp
  subst hu
  have h' := h.less
  rw [e] at hl hc ⊢
  refine ⟨g, o, cap, rfl, hl, ?_, h'⟩
  rw [hc _ (Nat.lt_succ_self _)]
  simp [List.getD]
/-- What it holds, as what is appended to another row. -/
theorem Rd.news {w : World} {u : Value} {xs : List Int} (h : Rd w u xs) : (u = .slice none 0 0 ∧ xs = []) ∨ ∃ ad cap, u = .slice (some ad) xs.length cap ∧ ∀ j v, (ints xs)[j]? = some v → w.cell? (ad.add j) = some v := by
  obtain ⟨ao, cap, rfl, hc, hz, hx⟩ := h.form
  cases ao with
  | none =>
    obtain rfl := hz rfl
    have : xs = [] := List.eq_nil_of_length_eq_zero (by omega)
    subst this
    exact .inl ⟨rfl, rfl⟩
  | some ad =>
    refine .inr ⟨ad, cap, rfl, fun j v hv => ?_⟩
    have hj : j < xs.length := by
      have := (List.getElem?_eq_some_iff.1 hv).1
      simpa [ints] using this
    obtain ⟨g, o, e, hcell⟩ := hx (fun e => by subst e; simp at hj)
    cases e
    rw [Addr.add_lit, hcell j hj, ← ints_get xs j hj]
    exact hv

/-- A stack at p, whose places lie in row r: its room, its places, whether it has overflowed. -/
structure Sk (w : World) (p r n : Nat) (L : List Int) (o : Bool) : Prop where
  hp : w.heap[p]? = some (.cells #[.bool o, .slice (some ⟨r, 0, none⟩) L.length n] 140 (0, 0))
  row : ∃ cur, w.heap[r]? = some (.cells cur 136 (0, 0)) ∧ cur.size = 64 ∧ ∀ i, i < L.length → cur[i]? = some (.int .i64 (L.getD i 0))
  le : L.length ≤ n
  most : n ≤ 64

section
variable {w w' : World} {p r n : Nat} {L : List Int} {o : Bool}
theorem Sk.ne (h : Sk w p r n L o) : p ≠ r := by
  obtain ⟨cur, hr, _⟩ := h.row
  exact ne_types h.hp hr (by decide)
theorem Sk.keep {S : List Nat} (h : Sk w p r n L o) (k : Kp S w w') (hp : p ∉ S) (hr : r ∉ S) : Sk w' p r n L o := by
  obtain ⟨cur, h1, h2⟩ := h.row
  exact ⟨k.row hp h.hp, ⟨cur, k.row hr h1, h2⟩, h.le, h.most⟩
theorem Sk.keep0 (h : Sk w p r n L o) (k : Kp [] w w') : Sk w' p r n L o := h.keep k (by simp) (by simp)
theorem Sk.c0 (h : Sk w p r n L o) : w.cell? ⟨p, 0, none⟩ = some (.bool o) := by rw [cell_of_row h.hp]; rfl
theorem Sk.c1 (h : Sk w p r n L o) : w.cell? ⟨p, 1, none⟩ = some (.slice (some ⟨r, 0, none⟩) L.length n) := by rw [cell_of_row h.hp]; rfl
theorem Sk.f (h : Sk w p r n L o) (i : Nat) : w.frozen? ⟨p, i, none⟩ = false := free_of_row h.hp i
theorem Sk.cr (h : Sk w p r n L o) {i : Nat} (hi : i < L.length) : w.cell? ⟨r, i, none⟩ = some (.int .i64 (L.getD i 0)) := by
  obtain ⟨cur, h1, _, h2⟩ := h.row
  rw [cell_of_row h1, h2 i hi]
theorem Sk.room (h : Sk w p r n L o) {i : Nat} (hi : i < 64) : (w.cell? ⟨r, i, none⟩).isSome = true ∧ w.frozen? ⟨r, i, none⟩ = false := by
  obtain ⟨cur, h1, h2, _⟩ := h.row
  rw [cell_of_row h1]
  exact ⟨by simp [h2, hi], free_of_row h1 i⟩
theorem Sk.lt (h : Sk w p r n L o) : p < w.heap.size ∧ r < w.heap.size := by
  obtain ⟨cur, hr, _⟩ := h.row
  exact ⟨lt_of_block h.hp, lt_of_block hr⟩
/-- Whether it has overflowed is stored. -/
theorem Sk.over (h : Sk w p r n L o) (o' : Bool) : Sk (w.setCell ⟨p, 0, none⟩ (.bool o')) p r n L o' := by
  obtain ⟨cur, h1, h2⟩ := h.row
  refine ⟨?_, ⟨cur, (heap_setCell_other _ _ _ _ (Ne.symm h.ne)).trans h1, h2⟩, h.le, h.most⟩
  rw [heap_setCell_same _ _ _ _ _ _ h.hp]
  rfl
/-- A place is put. -/
theorem Sk.push (h : Sk w p r n L o) (x : Int) (hn : L.length < n) : Sk ((w.setCell ⟨r, L.length, none⟩ (.int .i64 x)).setCell ⟨p, 1, none⟩ (.slice (some ⟨r, 0, none⟩) (L.length + 1) n)) p r n (L ++ [x]) o := by
  obtain ⟨cur, h1, h2, h3⟩ := h.row
  have hm := h.most
  have a1 := (heap_setCell_other w ⟨r, L.length, none⟩ p (.int .i64 x) h.ne).trans h.hp
  have a2 := heap_setCell_same w r L.length _ _ (.int .i64 x) h1
  refine ⟨?_, ⟨_, (heap_setCell_other _ _ _ _ (Ne.symm h.ne)).trans a2, by simpa using h2, ?_⟩, by simp; omega, h.most⟩
  · rw [heap_setCell_same _ _ _ _ _ _ a1]
    simp
  · intro i hi
    by_cases e : i = L.length
    · subst e
      rw [Array.getElem?_setIfInBounds_self_of_lt (by omega)]
      simp
    · have hi' : i < L.length := by simp at hi; omega
      rw [Array.getElem?_setIfInBounds_ne (by omega), h3 i hi']
      simp [List.getD, hi', List.getElem?_append_left hi']
/-- The top place is taken away. -/
theorem Sk.pop {x : Int} (h : Sk w p r n (L ++ [x]) o) : Sk (w.setCell ⟨p, 1, none⟩ (.slice (some ⟨r, 0, none⟩) L.length n)) p r n L o := by
  obtain ⟨cur, h1, h2, h3⟩ := h.row
  have hl := h.le
  simp at hl
  refine ⟨?_, ⟨_, (heap_setCell_other _ _ _ _ (Ne.symm h.ne)).trans h1, h2, ?_⟩, by omega, h.most⟩
  · rw [heap_setCell_same _ _ _ _ _ _ h.hp]
    simp
  · intro i hi
    rw [h3 i (by simp; omega)]
    simp [List.getD, hi, List.getElem?_append_left hi]
end

end Go.Proofs.YticbnckikkdknaaGreatDoor.Sk

namespace Go.Proofs.YticbnckikkdknaaGreatDoor.Sk
set_option linter.unusedVariables false
set_option linter.unusedSimpArgs false
open Go.RowKit

def iv (g : Nat → Int) : Array Value := ((List.range 64).map fun i => Value.int .i64 (g i)).toArray
theorem iv_size (g : Nat → Int) : (iv g).size = 64 := by simp [iv]
theorem iv_zero (w : World) : (zeroValue 136).run Tryz.prog w = .ok (.agg (iv fun _ => 0)) w :=
  (zero_of_info (show (Tryz.prog.info? 136).map (fun i => (i.zero, i.size)) = some (some (.agg (iv fun _ => 0)), 64) from by kernel_rfl)).1 w

theorem snew_good (w : World) (n : Nat) (h1 : 1 ≤ n) (h2 : n ≤ 64) : Calls Tryz.prog 31 #[.int .i64 n] w fun e w' => e = .returned (.tuple #[.pointer (some ⟨w.heap.size + 1, 0, none⟩), .int .i64 0]) ∧ Sk w' (w.heap.size + 1) w.heap.size n [] false ∧ Kp [] w w' := by
  have hz := iv_zero
  go_enter Tryz.func31, Tryz.ntmps31
  go_wp2
  go_ret2
  refine ⟨rfl, ⟨?_, ⟨iv fun _ => 0, heap_alloc2_old _ _ _, iv_size _, fun i hi => by simp at hi⟩, Nat.zero_le _, h2⟩, ((Kp.refl _ _).alloc _).alloc _⟩
  have := heap_alloc_new (w.alloc (Obj.cells (iv fun _ => 0) 136)) (Obj.cells #[.bool false, .slice (some ⟨w.heap.size, 0, none⟩) 0 n] 140)
  rw [World.size_alloc] at this
  exact this

theorem slen_any (w : World) (p r n : Nat) (L : List Int) (o : Bool) (h : Sk w p r n L o) :
    Calls Tryz.prog 105 #[.pointer (some ⟨p, 0, none⟩)] w fun e w' => e = .returned (.int .i64 L.length) ∧ w = w' := by
  have hc1 := h.c1
  go_enter Tryz.func105, Tryz.ntmps105
  go_wp2
  go_ret
  exact ⟨rfl, rfl⟩
theorem shappens_is (w : World) (p : Nat) (o : Bool) (h : w.cell? ⟨p, 0, none⟩ = some (.bool o)) (hf : w.frozen? ⟨p, 0, none⟩ = false) :
    Calls Tryz.prog 104 #[.pointer (some ⟨p, 0, none⟩)] w fun e w' => e = .returned (.tuple #[]) ∧ w.setCell ⟨p, 0, none⟩ (.bool true) = w' := by
  go_enter Tryz.func104, Tryz.ntmps104
  go_wp2
  go_end0
  exact ⟨rfl, rfl⟩
theorem sask_is (w : World) (p : Nat) (o : Bool) (h : w.cell? ⟨p, 0, none⟩ = some (.bool o)) (hf : w.frozen? ⟨p, 0, none⟩ = false) :
    Calls Tryz.prog 68 #[.pointer (some ⟨p, 0, none⟩)] w fun e w' => e = .returned (.bool o) ∧ w.setCell ⟨p, 0, none⟩ (.bool false) = w' := by
  go_enter Tryz.func68, Tryz.ntmps68
  go_wp2
  go_ret
  exact ⟨rfl, rfl⟩

theorem sover_any (w : World) (p r n : Nat) (L : List Int) (o : Bool) (h : Sk w p r n L o) :
    Calls Tryz.prog 36 #[.pointer (some ⟨p, 0, none⟩)] w fun e w' => e = .returned (.bool o) ∧ Sk w' p r n L false ∧ Kp [p, r] w w' := by
  have ha := sask_is w p o h.c0 (h.f 0)
  have hS := Lib.hid (And.intro (h.over false) ((Kp.refl [p, r] w).setCell (p := ⟨p, 0, none⟩) (.inl (by simp)) (.bool false)))
  clear h
  go_enter Tryz.func36, Tryz.ntmps36
  go_wp2_with ((with_reducible refine ha.mono ?_); rintro e w1 ⟨rfl, rfl⟩)
  go_ret
  exact ⟨rfl, hS.out⟩
theorem spop_empty (w : World) (p r n : Nat) (o : Bool) (h : Sk w p r n [] o) :
    Calls Tryz.prog 67 #[.pointer (some ⟨p, 0, none⟩)] w fun e w' => e = .returned (.tuple #[.int .i64 0, .bool false]) ∧ w = w' := by
  have hl := slen_any w p r n [] o h
  clear h
  go_enter Tryz.func67, Tryz.ntmps67
  go_wp2_with ((with_reducible refine hl.mono ?_); rintro e w1 ⟨rfl, rfl⟩)
  go_ret2
  exact ⟨rfl, rfl⟩
theorem spop_some (w : World) (p r n : Nat) (L : List Int) (x : Int) (o : Bool) (h : Sk w p r n (L ++ [x]) o) :
    Calls Tryz.prog 67 #[.pointer (some ⟨p, 0, none⟩)] w fun e w' => e = .returned (.tuple #[.int .i64 x, .bool true]) ∧ Sk w' p r n L o ∧ Kp [p, r] w w' := by
  have hl := slen_any w p r n _ o h
  have hc1 := h.c1
  have hcx : w.cell? ⟨r, L.length, none⟩ = some (.int .i64 x) := by
    rw [h.cr (by simp)]; simp [List.getD]
  have hf := h.f 1
  have hle := h.le
  have hm := h.most
  have hS := Lib.hid (And.intro h.pop ((Kp.refl [p, r] w).setCell (p := ⟨p, 1, none⟩) (.inl (by simp)) (.slice (some ⟨r, 0, none⟩) L.length n)))
  clear h
  have e1 : (L ++ [x]).length = L.length + 1 := by simp
  rw [e1] at hl hc1 hle
  clear e1
  generalize L.length = k at hl hc1 hcx hle hS
  go_enter Tryz.func67, Tryz.ntmps67
  go_wp2_with ((with_reducible refine hl.mono ?_); rintro e w1 ⟨rfl, rfl⟩)
  go_ret2
  exact ⟨rfl, hS.out⟩

theorem spush_full (w : World) (p r n : Nat) (L : List Int) (x : Int) (o : Bool) (h : Sk w p r n L o) (hn : L.length = n) :
    Calls Tryz.prog 66 #[.pointer (some ⟨p, 0, none⟩), .int .i64 x] w fun e w' => e = .returned (.bool false) ∧ Sk w' p r n L true ∧ Kp [p, r] w w' := by
  have hc1 := fun j => (h.keep0 (kp_drewN w j)).c1
  have ha := fun j => shappens_is (w.drewN j) p o (h.keep0 (kp_drewN w j)).c0 ((h.keep0 (kp_drewN w j)).f 0)
  have hS := Lib.hid (fun j => And.intro ((h.keep0 (kp_drewN w j)).over true) ((kp_drewN (S := [p, r]) w j).setCell (p := ⟨p, 0, none⟩) (.inl (by simp)) (.bool true)))
  have hm := h.most
  clear h
  rw [hn] at hc1
  clear hn
  go_enter Tryz.func66, Tryz.ntmps66
  go_wp2_with fail
  go_quiet (fail)
  go_wp2_with ((with_reducible refine (ha nq).mono ?_); rintro e w1 ⟨rfl, rfl⟩)
  go_ret
  exact ⟨rfl, hS.out nq⟩
theorem one_cell (x : Int) : ∀ u ∈ [Value.int .i64 x], u.oneCell' = true := by simp [Value.oneCell']
theorem news_one (w : World) (x : Int) (t : TypeId) (a : Addr) (ha : a = ⟨w.heap.size, 0, none⟩) : ∀ (j : Nat) (v : Value), [Value.int .i64 x][j]? = some v → (w.alloc (.cells #[.int .i64 x] t)).cell? (a.add j) = some v := by
  subst ha
  intro j v hv
  have hj : j = 0 := by
    have := (List.getElem?_eq_some_iff.1 hv).1
    simpa using this
  subst hj
  rw [Addr.add_lit, cell_of_row (heap_alloc_new w _)]
  simpa using hv
theorem int_info : (Tryz.prog.info? 3).map (fun i => (i.zero, i.size, i.bytes)) = some (some (.int .i64 0), 1, 8) := by kernel_rfl
/-- 'append' where there is room: the cell behind the last one is stored. -/
theorem append_room {w : World} {p r n : Nat} {L : List Int} {o : Bool} (h : Sk w p r n L o) (x : Int) (hn : L.length < n) (ty : TypeId) :
    (Builtin.append_ #[46, 46] ty #[.slice (some ⟨r, 0, none⟩) L.length n, .slice (some ⟨w.heap.size, 0, none⟩) 1 1]).run Tryz.prog (w.alloc (.cells #[.int .i64 x] 3)) = .ok (.slice (some ⟨r, 0, none⟩) (L.length + 1) n) ((w.alloc (.cells #[.int .i64 x] 3)).setCell ⟨r, L.length, none⟩ (.int .i64 x)) := by
  obtain ⟨i0, hi, hz0, hz1, hz2⟩ := info_parts int_info
  have hm := h.most
  have hk : Kp [] w (w.alloc (.cells #[.int .i64 x] 3)) := (Kp.refl _ _).alloc _
  have hr := (h.keep0 hk).room (i := L.length) (by omega)
  have := run_append_room_cells (P := Tryz.prog) (w.alloc (.cells #[.int .i64 x] 3)) 46 ty 3 i0 Tryz.underlying46 hi r 0 L.length n ⟨w.heap.size, 0, none⟩ 1 1 [.int .i64 x] (by rw [hz1]; rfl) (news_one w x _ _ rfl) (one_cell x) (by omega)
    (fun j hj => by
      have : j = 0 := by simpa using hj
      subst this; rw [hz1]; simpa using hr.1) (fun j hj => by
      have : j = 0 := by simpa using hj
      subst this; rw [hz1]; simpa using hr.2)
  rw [this, hz1]
  simp [World.setCells]
/-- The world behind that 'append'. -/
theorem append_world {w : World} {p r n : Nat} {L : List Int} {o : Bool} (h : Sk w p r n L o) (x : Int) (hn : L.length < n) :
    ∃ W2 : Nat → World, (∀ j ty, (Builtin.append_ #[46, 46] ty #[.slice (some ⟨r, 0, none⟩) L.length n, .slice (some ⟨w.heap.size, 0, none⟩) 1 1]).run Tryz.prog ((w.drewN j).alloc (.cells #[.int .i64 x] 3)) = .ok (.slice (some ⟨r, 0, none⟩) (L.length + 1) n) (W2 j)) ∧
      (∀ j, (W2 j).cell? ⟨p, 1, none⟩ = some (.slice (some ⟨r, 0, none⟩) L.length n)) ∧ (∀ j, (W2 j).frozen? ⟨p, 1, none⟩ = false) ∧
      ∀ j, Sk ((W2 j).setCell ⟨p, 1, none⟩ (.slice (some ⟨r, 0, none⟩) (L.length + 1) n)) p r n (L ++ [x]) o ∧ Kp [p, r] w ((W2 j).setCell ⟨p, 1, none⟩ (.slice (some ⟨r, 0, none⟩) (L.length + 1) n)) := by
  have k1 : ∀ j, Kp [] w ((w.drewN j).alloc (.cells #[.int .i64 x] 3)) := fun j => (kp_drewN w j).alloc _
  refine ⟨fun j => ((w.drewN j).alloc (.cells #[.int .i64 x] 3)).setCell ⟨r, L.length, none⟩ (.int .i64 x), fun j ty => append_room (h.keep0 (kp_drewN w j)) x hn ty, fun j => ?_, fun j => ?_, fun j => ⟨(h.keep0 (k1 j)).push x hn, ?_⟩⟩
  · have k2 : Kp [r] w (((w.drewN j).alloc (.cells #[.int .i64 x] 3)).setCell ⟨r, L.length, none⟩ (.int .i64 x)) := ((k1 j).mono (by simp)).setCell (.inl (by simp)) _
    exact Kp.cell k2 (by simpa using h.ne) h.c1
  · have k2 : Kp [r] w (((w.drewN j).alloc (.cells #[.int .i64 x] 3)).setCell ⟨r, L.length, none⟩ (.int .i64 x)) := ((k1 j).mono (by simp)).setCell (.inl (by simp)) _
    exact free_of_row (k2.row (by simpa using h.ne) h.hp) 1
  · exact (((k1 j).mono (by simp)).setCell (.inl (by simp)) _).setCell (.inl (by simp)) _
/-- An 'append' whose run is known. -/
theorem wpList_append_eq {P : Program} {w w2 : World} {ops : Array Oper} {rest : List Oper} {o : Oper} {a : Act} {Q : Exit → Act → World → Prop} (hgd : o.guard = none) (s x : Operand) (t : TypeId)
    (ho : o.op = .call { callee := .builtin .append, args := #[s, x], argTypes := #[t, t] }) (sv xv v : Value) (hs : a.eval s = sv) (hx : a.eval x = xv)
    (hrun : (Builtin.append_ #[t, t] o.type #[sv, xv]).run P w = .ok v w2) (hK : wpList P ops Q rest (a.put o.dst v) w2) : wpList P ops Q (o :: rest) a w := by
  refine wpList_plain hgd fun K hK' => ?_
  unfold Oper.wp
  simp [execOp, ho, resolve, invoke, builtin, hs, hx, hrun, Result.andThen]
  exact hK' _ _ hK
theorem spush_room (w : World) (p r n : Nat) (L : List Int) (x : Int) (o : Bool) (h : Sk w p r n L o) (hn : L.length < n) :
    Calls Tryz.prog 66 #[.pointer (some ⟨p, 0, none⟩), .int .i64 x] w fun e w' => e = .returned (.bool true) ∧ Sk w' p r n (L ++ [x]) o ∧ Kp [p, r] w w' := by
  have hc1 := fun j => (h.keep0 (kp_drewN w j)).c1
  obtain ⟨W2, hap, c2, f2, hS⟩ := append_world h x hn
  have HS := Lib.hid hS
  have HA := Lib.hid hap
  have hm := h.most
  clear h hS hap
  generalize L.length = k at hc1 hn HA c2 HS
  go_enter Tryz.func66, Tryz.ntmps66
  go_wp2_with fail
  go_quiet (fail)
  go_wp2_with (at_builtin; refine wpList_append_eq rfl _ _ 46 rfl _ _ _ rfl rfl (HA.out nq _) ?_)
  go_ret
  exact ⟨rfl, HS.out nq⟩

/-- What Push makes of a stack. -/
def pushL (n : Nat) (L : List Int) (x : Int) : List Int := if L.length < n then L ++ [x] else L
theorem spush_any (w : World) (p r n : Nat) (L : List Int) (x : Int) (o : Bool) (h : Sk w p r n L o) :
    Calls Tryz.prog 66 #[.pointer (some ⟨p, 0, none⟩), .int .i64 x] w fun e w' => e = .returned (.bool (decide (L.length < n))) ∧ Sk w' p r n (pushL n L x) (o || !decide (L.length < n)) ∧ Kp [p, r] w w' := by
  by_cases hn : L.length < n
  · refine (spush_room w p r n L x o h hn).mono ?_
    rintro e w' ⟨rfl, hs, hk⟩
    simp only [pushL, if_pos hn, hn, decide_true, Bool.not_true, Bool.or_false]
    exact ⟨trivial, hs, hk⟩
  · refine (spush_full w p r n L x o h (by have := h.le; omega)).mono ?_
    rintro e w' ⟨rfl, hs, hk⟩
    simp only [pushL, if_neg hn, hn, decide_false, Bool.not_false, Bool.or_true]
    exact ⟨trivial, hs, hk⟩
/-- What Pop answers of a stack. -/
def popX (L : List Int) : Int := L.getLastD 0
def popB (L : List Int) : Bool := !L.isEmpty
theorem spop_any (w : World) (p r n : Nat) (L : List Int) (o : Bool) (h : Sk w p r n L o) :
    Calls Tryz.prog 67 #[.pointer (some ⟨p, 0, none⟩)] w fun e w' => e = .returned (.tuple #[.int .i64 (popX L), .bool (popB L)]) ∧ Sk w' p r n L.dropLast o ∧ Kp [p, r] w w' := by
  rcases List.eq_nil_or_concat L with rfl | ⟨M, x, hM⟩
  · refine (spop_empty w p r n o h).mono ?_
    rintro e w' ⟨rfl, rfl⟩
    exact ⟨rfl, h, Kp.refl _ _⟩
  · rw [List.concat_eq_append] at hM
    subst hM
    refine (spop_some w p r n M x o h).mono ?_
    rintro e w' ⟨rfl, hs, hk⟩
    simp only [popX, popB]
    refine ⟨?_, by simpa using hs, hk⟩
    simp

theorem make_ints (n : Nat) (h2 : n ≤ 64) (w : World) : (Instr.makeSlice 46 (.int .i64 (n : Int)) (.int .i64 (n : Int))).run Tryz.prog w = .ok (.slice (some ⟨w.heap.size, 0, none⟩) n n) (w.alloc (.cells (ints (List.replicate n 0)).toArray 3)) := by
  obtain ⟨i, hi, hz0, hz1, hz2⟩ := info_parts int_info
  have := run_make (P := Tryz.prog) w 46 3 i (.int .i64 0) Tryz.underlying46 hi hz0 .i64 .i64 n n (by omega) (Int.le_refl _) (by rw [hz2]; omega) (by omega)
  rw [this, hz1]
  have e : madeCells #[.int .i64 0] n = (ints (List.replicate n 0)).toArray := by
    apply Array.ext'
    rw [toList_madeCells_one]
    simp [ints]
  simp [Value.cells, e]

end Go.Proofs.YticbnckikkdknaaGreatDoor.Sk

namespace Go.Proofs.YticbnckikkdknaaGreatDoor
set_option linter.unusedVariables false
set_option linter.unusedSimpArgs false
set_option maxRecDepth 100000
open Go.RowKit

/-- A marker at work, as a value. -/
abbrev mgV (p T n o room : Nat) (gf : Value) (q : Nat) : Value := .agg #[.iface 31 (.pointer (some ⟨p, 0, none⟩)), .int .i64 T, .int .i64 0, .int .i64 n, .int .u8 o, .int .i64 room, gf, .pointer (some ⟨q, 0, none⟩)]
/-- The words, once these places are marked. -/
def markL (H : List Int) (M : Nat → Bool) : List Int := (List.range H.length).map fun k => if M k then H.getD k 0 + 16 else H.getD k 0
theorem markL_len (H : List Int) (M : Nat → Bool) : (markL H M).length = H.length := by simp [markL]
theorem markL_get (H : List Int) (M : Nat → Bool) (k : Nat) (hk : k < H.length) : (markL H M).getD k 0 = if M k then H.getD k 0 + 16 else H.getD k 0 := by
  unfold markL
  rw [List.getD_eq_getElem?_getD, List.getElem?_map, List.getElem?_range hk]
  rfl
theorem markL_none (H : List Int) : markL H (fun _ => false) = H := by
  refine List.ext_getElem (markL_len _ _) fun k h1 h2 => ?_
  have := markL_get H (fun _ => false) k h2
  rw [List.getD_eq_getElem?_getD, List.getElem?_eq_getElem h1] at this
  simp only [Option.getD_some, Bool.false_eq_true, if_false] at this
  rw [this, List.getD_eq_getElem?_getD, List.getElem?_eq_getElem h2]; rfl
theorem markL_set (H : List Int) (M : Nat → Bool) (y : Nat) (hy : y < H.length) : (markL H M).set y (H.getD y 0 + 16) = markL H (fun z => M z || decide (z = y)) := by
  refine List.ext_getElem (by simp [markL_len]) fun k h1 h2 => ?_
  rw [markL_len] at h2
  have a := markL_get H M k h2
  have b := markL_get H (fun z => M z || decide (z = y)) k h2
  rw [List.getD_eq_getElem?_getD, List.getElem?_eq_getElem (by rw [markL_len]; exact h2)] at a b
  simp only [Option.getD_some] at a b
  rw [List.getElem_set, b, a]
  by_cases e : y = k
  · subst e; simp
  · have : ¬ k = y := fun h => e h.symm
    simp [e, this]

theorem set7_row {w : World} {b : Nat} {t : TypeId} {a0 a1 a2 a3 a4 a5 a6 : Value} (h : w.heap[b]? = some (.cells #[a0, a1, a2, a3, a4, a5, a6] t (0, 0))) (v0 v1 v2 v3 v4 v5 v6 : Value) :
    (((((((w.setCell ⟨b, 0, none⟩ v0).setCell ⟨b, 1, none⟩ v1).setCell ⟨b, 2, none⟩ v2).setCell ⟨b, 3, none⟩ v3).setCell ⟨b, 4, none⟩ v4).setCell ⟨b, 5, none⟩ v5).setCell ⟨b, 6, none⟩ v6).heap[b]? = some (.cells #[v0, v1, v2, v3, v4, v5, v6] t (0, 0)) := by
  have h0 : (w.setCell ⟨b, 0, none⟩ v0).heap[b]? = some (.cells #[v0, a1, a2, a3, a4, a5, a6] t (0, 0)) := by rw [heap_setCell_same _ _ 0 _ _ v0 h]; rfl
  have h1 : ((w.setCell ⟨b, 0, none⟩ v0).setCell ⟨b, 1, none⟩ v1).heap[b]? = some (.cells #[v0, v1, a2, a3, a4, a5, a6] t (0, 0)) := by rw [heap_setCell_same _ _ 1 _ _ v1 h0]; rfl
  have h2 : (((w.setCell ⟨b, 0, none⟩ v0).setCell ⟨b, 1, none⟩ v1).setCell ⟨b, 2, none⟩ v2).heap[b]? = some (.cells #[v0, v1, v2, a3, a4, a5, a6] t (0, 0)) := by rw [heap_setCell_same _ _ 2 _ _ v2 h1]; rfl
  have h3 : ((((w.setCell ⟨b, 0, none⟩ v0).setCell ⟨b, 1, none⟩ v1).setCell ⟨b, 2, none⟩ v2).setCell ⟨b, 3, none⟩ v3).heap[b]? = some (.cells #[v0, v1, v2, v3, a4, a5, a6] t (0, 0)) := by rw [heap_setCell_same _ _ 3 _ _ v3 h2]; rfl
  have h4 : (((((w.setCell ⟨b, 0, none⟩ v0).setCell ⟨b, 1, none⟩ v1).setCell ⟨b, 2, none⟩ v2).setCell ⟨b, 3, none⟩ v3).setCell ⟨b, 4, none⟩ v4).heap[b]? = some (.cells #[v0, v1, v2, v3, v4, a5, a6] t (0, 0)) := by rw [heap_setCell_same _ _ 4 _ _ v4 h3]; rfl
  have h5 : ((((((w.setCell ⟨b, 0, none⟩ v0).setCell ⟨b, 1, none⟩ v1).setCell ⟨b, 2, none⟩ v2).setCell ⟨b, 3, none⟩ v3).setCell ⟨b, 4, none⟩ v4).setCell ⟨b, 5, none⟩ v5).heap[b]? = some (.cells #[v0, v1, v2, v3, v4, v5, a6] t (0, 0)) := by rw [heap_setCell_same _ _ 5 _ _ v5 h4]; rfl
  have h6 : (((((((w.setCell ⟨b, 0, none⟩ v0).setCell ⟨b, 1, none⟩ v1).setCell ⟨b, 2, none⟩ v2).setCell ⟨b, 3, none⟩ v3).setCell ⟨b, 4, none⟩ v4).setCell ⟨b, 5, none⟩ v5).setCell ⟨b, 6, none⟩ v6).heap[b]? = some (.cells #[v0, v1, v2, v3, v4, v5, v6] t (0, 0)) := by rw [heap_setCell_same _ _ 6 _ _ v6 h5]; rfl
  exact h6
theorem set7_kp {w w0 : World} {b : Nat} {S : List Nat} (v0 v1 v2 v3 v4 v5 v6 : Value) (k : Kp S w0 w) (hb : w0.heap.size ≤ b) :
    Kp S w0 (((((((w.setCell ⟨b, 0, none⟩ v0).setCell ⟨b, 1, none⟩ v1).setCell ⟨b, 2, none⟩ v2).setCell ⟨b, 3, none⟩ v3).setCell ⟨b, 4, none⟩ v4).setCell ⟨b, 5, none⟩ v5).setCell ⟨b, 6, none⟩ v6) :=
  ((((((k.setCell (.inr hb) _).setCell (.inr hb) _).setCell (.inr hb) _).setCell (.inr hb) _).setCell (.inr hb) _).setCell (.inr hb) _).setCell (.inr hb) _

section
variable {T n p r q ro o room t : Nat} {gf : Value} {H : List Int} {w w' : World}
abbrev hp7 (k c o r s : Nat) (m : Bool) : Array Value := #[.int .u8 k, .int .u8 c, .bool false, .bool m, .int .u8 o, .int .u8 r, .int .u8 s]
set_option maxHeartbeats 4000000 in
/-- A header is read. -/
theorem head_is (h : Hw T 0 n p r H t w) (ht : t ≤ 900000000000) (a : Nat) (ha : a < H.length) (k c o' rf sz : Nat) (m : Bool) (hx : H.getD a 0 = Wd.wordI k c o' rf sz false m) (hm : Wd.mayB k c o' rf sz false m = true) :
    Calls Tryz.prog 63 #[mgV p T n o room gf q, .int .i64 a] w fun e w' => e = .returned (.agg (hp7 k c o' rf sz m)) ∧ Hw T 0 n p r H (t + 1) w' ∧ Kp [p, r] w w' := by
  have hp := Wd.parts_of_word k c o' rf sz false m (by omega) (by omega) (by omega) (by omega) (by omega) hm
  have hl := Wd.word_lt k c o' rf sz false m (by omega) (by omega) (by omega) (by omega) (by omega) hm
  obtain ⟨e1, e2, e3, e4, e5, e6, e7⟩ := hp
  have htk := fun wq => Wd.take_some (Wd.wordI k c o' rf sz false m) wq hl.1 (by simp only [Wd.takeB, Bool.and_eq_true, decide_eq_true_eq]; refine ⟨hl.2, ?_⟩; rw [e1, e2, e3, e4, e5, e6, e7]; exact hm)
  rw [e1, e2, e3, e4, e5, e6, e7] at htk
  clear e1 e2 e3 e4 e5 e6 e7
  have HTk := Lib.hid htk
  have hlt := h.lt
  obtain ⟨w1, hw1⟩ : ∃ w1, w1 = (w.alloc (.cells #[.iface 31 (.pointer (some ⟨p, 0, none⟩)), .int .i64 T, .int .i64 0, .int .i64 n, .int .u8 o, .int .i64 room, gf, .pointer (some ⟨q, 0, none⟩)] 95)).alloc (.cells #[.int .u8 0, .int .u8 0, .bool false, .bool false, .int .u8 0, .int .u8 0, .int .u8 0] 59) := ⟨_, rfl⟩
  have kb : Kp [] w w1 := by rw [hw1]; exact ((Kp.refl _ _).alloc _).alloc _
  have r0 : w1.heap[w.heap.size]? = some (.cells #[.iface 31 (.pointer (some ⟨p, 0, none⟩)), .int .i64 T, .int .i64 0, .int .i64 n, .int .u8 o, .int .i64 room, gf, .pointer (some ⟨q, 0, none⟩)] 95 (0, 0)) := by rw [hw1]; exact heap_alloc2_old _ _ _
  have r1 : w1.heap[w.heap.size + 1]? = some (.cells #[.int .u8 0, .int .u8 0, .bool false, .bool false, .int .u8 0, .int .u8 0, .int .u8 0] 59 (0, 0)) := by
    rw [hw1]
    have := heap_alloc_new (w.alloc (.cells #[.iface 31 (.pointer (some ⟨p, 0, none⟩)), .int .i64 T, .int .i64 0, .int .i64 n, .int .u8 o, .int .i64 room, gf, .pointer (some ⟨q, 0, none⟩)] 95)) (.cells #[.int .u8 0, .int .u8 0, .bool false, .bool false, .int .u8 0, .int .u8 0, .int .u8 0] 59)
    rw [World.size_alloc] at this
    exact this
  have HRd := Lib.hid (rd_word (h.on kb) ht a ha (a : Int) _ rfl hx)
  have c0 := (cell_of_row r0 0).trans (show _ = some (.iface 31 (.pointer (some ⟨p, 0, none⟩))) from rfl)
  have HB := Lib.hid (And.intro kb (And.intro r1 hlt))
  obtain ⟨X, hX⟩ : ∃ X, X = Wd.wordI k c o' rf sz false m := ⟨_, rfl⟩
  rw [← hX] at HRd HTk
  clear htk h hm hl hx kb hX r0 r1 hlt
  go_enter Tryz.func63, Tryz.ntmps63
  go_upto_region 1 with (fail)
  rw [← hw1]
  clear hw1
  go_wp2_with fail
  refine HRd.out.mono ?_
  rintro e w2 ⟨rfl, h2, k2⟩
  have H2 := Lib.hid (And.intro h2 k2)
  clear h2 k2 c0
  go_wp2_with fail
  refine (HTk.out w2).mono ?_
  rintro e w3 ⟨rfl, k3⟩
  have k3 := kp_of_below k3
  have hz : w.heap.size + 1 < w2.heap.size := by
    have := lt_of_block HB.out.2.1
    have := H2.out.2.size
    omega
  have r1 := k3.row (by simp) (H2.out.2.row (by have := HB.out.2.2; simp; omega) HB.out.2.1)
  have ka : Kp [] w3 (w3.alloc (.cells #[.int .u8 k, .int .u8 c, .bool false, .bool m, .int .u8 o', .int .u8 rf, .int .u8 sz] 59)) := (Kp.refl _ _).alloc _
  have r2 := ka.row (by simp) r1
  have H3 := Lib.hid (And.intro k3 (And.intro ka r2))
  have z0 := (cell_of_row r2 0).trans (show _ = some (.int .u8 0) from rfl)
  have z1 := (cell_of_row r2 1).trans (show _ = some (.int .u8 0) from rfl)
  have z2 := (cell_of_row r2 2).trans (show _ = some (.bool false) from rfl)
  have z3 := (cell_of_row r2 3).trans (show _ = some (.bool false) from rfl)
  have z4 := (cell_of_row r2 4).trans (show _ = some (.int .u8 0) from rfl)
  have z5 := (cell_of_row r2 5).trans (show _ = some (.int .u8 0) from rfl)
  have z6 := (cell_of_row r2 6).trans (show _ = some (.int .u8 0) from rfl)
  have f0 := free_of_row r2 0
  have f1 := free_of_row r2 1
  have f2 := free_of_row r2 2
  have f3 := free_of_row r2 3
  have f4 := free_of_row r2 4
  have f5 := free_of_row r2 5
  have f6 := free_of_row r2 6
  clear k3 r1 ka r2 hz
  go_wp2_with fail
  refine bodyPost_row rfl (w.heap.size + 1) 59 (hp7 k c o' rf sz m) (0, 0) _ rfl rfl (set7_row H3.out.2.2 _ _ _ _ _ _ _) Tryz.underlying59 rfl (by kernel_rfl) ⟨rfl, ?_, set7_kp _ _ _ _ _ _ _ ((((HB.out.1.mono (by simp)).trans H2.out.2).trans (H3.out.1.mono (by simp))).trans (H3.out.2.1.mono (by simp))) (by omega)⟩
  have hlt := HB.out.2.2
  refine ((H2.out.1.on H3.out.1).on H3.out.2.1).keep (S := [w.heap.size + 1]) (((((((((Kp.refl _ _).setCell (.inl (by simp)) _).setCell (.inl (by simp)) _).setCell (.inl (by simp)) _).setCell (.inl (by simp)) _).setCell (.inl (by simp)) _).setCell (.inl (by simp)) _).setCell (.inl (by simp)) _)) (by simp; omega) (by simp; omega)
end
end Go.Proofs.YticbnckikkdknaaGreatDoor

namespace Go.Proofs.YticbnckikkdknaaGreatDoor
set_option linter.unusedVariables false
set_option linter.unusedSimpArgs false
set_option maxRecDepth 100000
open Go.RowKit

/-- The graph that a heap is to an owner. -/
def gpOf (O : Obs) (H : List Int) (o : Nat) (tel : Bool) : Gp where
  own := fun x => (O x).isSome && decide (H.getD x 0 % 4 = 2) && decide (H.getD x 0 / 32 % 64 = (o : Int))
  glb := fun x => (O x).isSome && decide (H.getD x 0 % 4 = 3)
  ref := fun x => (List.range (H.getD x 0 / 2048 % 128).toNat).map fun k => (H.getD (x + 1 + k) 0).toNat
  tel := tel
theorem gp_apt (O : Obs) (H : List Int) (o : Nat) (tel : Bool) : Apt (gpOf O H o tel) := fun x hx => by
  simp only [gpOf, Bool.and_eq_true, decide_eq_true_eq] at hx ⊢
  rw [hx.1.2]; simp

section
variable {T n p r q ro o room t : Nat} {gf : Value} {H : List Int} {w w' : World} {Rs : Nat → Nat → List Int} {O : Obs} {V : Nat → Int} {F : Nat → Nat → Int} {M : Nat → Bool} {tel : Bool}
theorem wordI_mark (o rf sz : Nat) : Wd.wordI 2 0 o rf sz false true = Wd.wordI 2 0 o rf sz false false + 16 := by
  unfold Wd.wordI Wd.bitI
  simp only [Bool.false_eq_true, if_false, if_true]
  omega
/-- What lies at a place. -/
theorem Gd.at (h : Gd T n H Rs O V F) (hT : T ≤ 64) (hM : ∀ x, M x = true → (gpOf O H o tel).own x = true) {y o' rf sz : Nat} (hy : O y = some (o', rf, sz)) :
    ∃ k c : Nat, y < H.length ∧ o' < T ∧ rf ≤ sz ∧ sz ≤ 95 ∧ (markL H M).getD y 0 = Wd.wordI k c o' rf sz false (M y) ∧ Wd.mayB k c o' rf sz false (M y) = true ∧ (gpOf O H o tel).own y = (decide (k = 2) && decide (o' = o)) ∧ (gpOf O H o tel).glb y = decide (k = 3) ∧ k ≤ 3 ∧ (k = 2 → c = 0) ∧ c ≤ 1 ∧ (M y = true → k = 2) ∧ H.getD y 0 = Wd.wordI k c o' rf sz false false := by
  have hin := h.hp.inn hy
  obtain ⟨k, c, e, hm, hk⟩ := h.word hT hy
  have hp := Wd.parts_of_word k c o' rf sz false false (by omega) (by omega) (by omega) (by omega) (by omega) hm
  obtain ⟨e1, e2, e3, e4, e5, e6, e7⟩ := hp
  have hown : (gpOf O H o tel).own y = (decide (k = 2) && decide (o' = o)) := by
    simp only [gpOf, hy, Option.isSome_some, Bool.true_and]
    rw [e, e1, e3]
    congr 1
    · exact decide_eq_decide.2 (by omega)
    · exact decide_eq_decide.2 (by omega)
  have hglb : (gpOf O H o tel).glb y = decide (k = 3) := by
    simp only [gpOf, hy, Option.isSome_some, Bool.true_and]
    rw [e, e1]
    exact decide_eq_decide.2 (by omega)
  refine ⟨k, c, by omega, hin.2.2.1, hin.2.2.2.1, hin.2.2.2.2, ?_, ?_, hown, hglb, by omega, by omega, by omega, ?_, e⟩
  · rw [markL_get _ _ _ (by omega)]
    cases hMy : M y with
    | false => simp only [Bool.false_eq_true, if_false]; exact e
    | true =>
      have := hM y hMy
      rw [hown] at this
      simp only [Bool.and_eq_true, decide_eq_true_eq] at this
      have hc0 : c = 0 := by omega
      simp only [if_true]
      rw [e, this.1, hc0]
      exact (wordI_mark o' rf sz).symm
  · cases hMy : M y with
    | false => exact hm
    | true =>
      have := hM y hMy
      rw [hown] at this
      simp only [Bool.and_eq_true, decide_eq_true_eq] at this
      rw [Wd.mayB_iff]
      simp; omega
  · intro hMy
    have := hM y hMy
    rw [hown] at this
    simp only [Bool.and_eq_true, decide_eq_true_eq] at this
    exact this.1

/-- Is it the owner's? -/
theorem own_is (k c o' rf sz : Nat) (m : Bool) (w : World) (res : Bool) (hr : (decide (k = 2) && decide (o' = o)) = res) :
    Calls Tryz.prog 64 #[mgV p T n o room gf q, .agg (hp7 k c o' rf sz m)] w fun e w' => e = .returned (.bool res) ∧ Kp [] w w' := by
  by_cases h1 : k = 2
  · have e1 : ((k : Int) == 2) = true := by simp; omega
    by_cases h2 : o' = o
    · have e2 : ((o' : Int) == (o : Int)) = true := by simp; omega
      have hres : res = true := by rw [← hr]; simp [h1, h2]
      subst hres
      clear hr h1 h2
      go_enter Tryz.func64, Tryz.ntmps64
      go_wp2
      go_ret
      exact ⟨by simp [*], ((Kp.refl _ _).alloc _).alloc _⟩
    · have e2 : ((o' : Int) == (o : Int)) = false := by simp; omega
      have hres : res = false := by rw [← hr]; simp [h1, h2]
      subst hres
      clear hr h1 h2
      go_enter Tryz.func64, Tryz.ntmps64
      go_wp2
      go_ret
      exact ⟨by simp [*], ((Kp.refl _ _).alloc _).alloc _⟩
  · have e1 : ((k : Int) == 2) = false := by simp; omega
    have hres : res = false := by rw [← hr]; simp [h1]
    subst hres
    clear hr h1
    go_enter Tryz.func64, Tryz.ntmps64
    go_wp2
    go_ret
    exact ⟨by simp [*], ((Kp.refl _ _).alloc _).alloc _⟩
/-- Who is told. -/
structure TlOk (p r q ro : Nat) (Sg : List Nat) (gf : Value) (tel : Bool) (TL : (Nat → Bool) → World → Prop) : Prop where
  keep : ∀ tl S w w', (∀ g ∈ S, g ∉ Sg) → Kp S w w' → TL tl w → TL tl w'
  no : tel = false → gf = .nilFunc
  tell : tel = true → ∃ g cap, gf = .func (.func g) #[] cap ∧ (∀ (x : Value) (w : World), (callFunc g (#[x] ++ cap)).run Tryz.prog w = .ok (.enter g (#[x] ++ cap)) w) ∧ ∀ tl w (a : Nat), TL tl w → a ≤ 5000 → Calls Tryz.prog g (#[.int .i64 a] ++ cap) w fun e w' => e = .returned (.tuple #[]) ∧ TL (fun z => tl z || decide (z = a)) w' ∧ Kp Sg w w'
  sg : p ∉ Sg ∧ r ∉ Sg ∧ q ∉ Sg ∧ ro ∉ Sg
/-- A marker at work: the arena, the stack, who was told. -/
structure Mrk (T n p r q ro room : Nat) (Sg : List Nat) (H : List Int) (TL : (Nat → Bool) → World → Prop) (X : Mkg) (t : Nat) (w : World) : Prop where
  hw : ∃ t0, t0 ≤ t ∧ Hw T 0 n p r (markL H X.M) t0 w
  sk : Sk.Sk w q ro room (X.st.map Int.ofNat) X.ov
  tl : TL X.tl w
  ne : q ≠ p ∧ q ≠ r ∧ ro ≠ p ∧ ro ≠ r
  lt : ∀ g ∈ p :: r :: q :: ro :: Sg, g < w.heap.size
theorem Mrk.on {Sg : List Nat} {TL : (Nat → Bool) → World → Prop} {X : Mkg} (hTL : TlOk p r q ro Sg gf tel TL) (h : Mrk T n p r q ro room Sg H TL X t w) (k : Kp [] w w') : Mrk T n p r q ro room Sg H TL X t w' := by
  obtain ⟨t0, h0, h1⟩ := h.hw
  exact ⟨⟨t0, h0, h1.on k⟩, h.sk.keep0 k, hTL.keep _ [] _ _ (by simp) k h.tl, h.ne, fun g hg => Nat.lt_of_lt_of_le (h.lt g hg) k.size⟩
theorem Mrk.more {Sg : List Nat} {TL : (Nat → Bool) → World → Prop} {X : Mkg} (h : Mrk T n p r q ro room Sg H TL X t w) {t' : Nat} (ht : t ≤ t') : Mrk T n p r q ro room Sg H TL X t' w := by
  obtain ⟨t0, h0, h1⟩ := h.hw
  exact ⟨⟨t0, by omega, h1⟩, h.sk, h.tl, h.ne, h.lt⟩
end
end Go.Proofs.YticbnckikkdknaaGreatDoor

namespace Go.Proofs.YticbnckikkdknaaGreatDoor
set_option linter.unusedVariables false
set_option linter.unusedSimpArgs false
set_option maxRecDepth 100000
open Go.RowKit
section
variable {T n p r q ro o room t : Nat} {gf : Value} {H : List Int} {w w' : World} {Rs : Nat → Nat → List Int} {O : Obs} {V : Nat → Int} {F : Nat → Nat → Int} {tel : Bool} {Sg : List Nat} {TL : (Nat → Bool) → World → Prop} {X : Mkg}
theorem tr_zero (G : Gp) (X : Mkg) : trS G room X 0 = X := by unfold trS; simp
theorem treat_zero (hTL : TlOk p r q ro Sg gf tel TL) (hX : Mrk T n p r q ro room Sg H TL X t w) (G : Gp) :
    Calls Tryz.prog 34 #[mgV p T n o room gf q, .int .i64 0] w fun e w' => e = .returned (.tuple #[]) ∧ Mrk T n p r q ro room Sg H TL (trS G room X 0) (t + 2) w' ∧ Kp (p :: r :: q :: ro :: Sg) w w' := by
  have ka : Kp [] w (w.alloc (.cells #[.iface 31 (.pointer (some ⟨p, 0, none⟩)), .int .i64 T, .int .i64 0, .int .i64 n, .int .u8 o, .int .i64 room, gf, .pointer (some ⟨q, 0, none⟩)] 95)) := (Kp.refl _ _).alloc _
  have h1 := hX.on hTL ka
  have HF := Lib.hid (And.intro h1 ka)
  clear h1 ka hX
  rw [tr_zero]
  go_enter Tryz.func34, Tryz.ntmps34
  go_wp2
  (try simp only [Exit.inBlock, Exit.then]); refine bodyPost_ret (results_none rfl _ _ _) rfl ?_
  obtain ⟨t0, h0, h1⟩ := HF.out.1.hw
  exact ⟨rfl, ⟨⟨t0, by omega, h1⟩, HF.out.1.sk, HF.out.1.tl, HF.out.1.ne, HF.out.1.lt⟩, HF.out.2.mono (by simp)⟩

set_option maxHeartbeats 4000000 in
theorem treat_obj (hG : Gd T n H Rs O V F) (hT : T ≤ 64) (ho : o < T) (hTL : TlOk p r q ro Sg gf tel TL) (hX : Mrk T n p r q ro room Sg H TL X t w) (hM : ∀ x, X.M x = true → (gpOf O H o tel).own x = true) (ht : t ≤ 800000000000) {y o' rf sz : Nat} (hy : O y = some (o', rf, sz)) :
    Calls Tryz.prog 34 #[mgV p T n o room gf q, .int .i64 y] w fun e w' => e = .returned (.tuple #[]) ∧ Mrk T n p r q ro room Sg H TL (trS (gpOf O H o tel) room X y) (t + 2) w' ∧ Kp (p :: r :: q :: ro :: Sg) w w' := by
  obtain ⟨k, c, hyl, ho', hrf, hsz, hw0, hmay, hown, hglb, hk3, hkc, hc1, hMk, hH⟩ := hG.at hT hM hy
  have hy0 : ¬ ((y : Int) = 0) := by
    have := (hG.hp.inn hy).1
    unfold hd at this; omega
  have hy0' : ((y : Int) == 0) = false := by simp; omega
  obtain ⟨t0, ht0, hw1⟩ := hX.hw
  obtain ⟨w1, hw1e⟩ : ∃ w1, w1 = w.alloc (.cells #[.iface 31 (.pointer (some ⟨p, 0, none⟩)), .int .i64 T, .int .i64 0, .int .i64 n, .int .u8 o, .int .i64 room, gf, .pointer (some ⟨q, 0, none⟩)] 95) := ⟨_, rfl⟩
  have ka : Kp [] w w1 := by rw [hw1e]; exact (Kp.refl _ _).alloc _
  have r0 : w1.heap[w.heap.size]? = some (.cells #[.iface 31 (.pointer (some ⟨p, 0, none⟩)), .int .i64 T, .int .i64 0, .int .i64 n, .int .u8 o, .int .i64 room, gf, .pointer (some ⟨q, 0, none⟩)] 95 (0, 0)) := by rw [hw1e]; exact heap_alloc_new _ _
  have hyl' : y < (markL H X.M).length := by rw [markL_len]; exact hyl
  have HHd := Lib.hid (head_is (o := o) (room := room) (gf := gf) (q := q) (hw1.on ka) (by omega) y hyl' k c o' rf sz (X.M y) hw0 hmay)
  have HX := Lib.hid hX
  have HTL := Lib.hid hTL
  have HS := Lib.hid (And.intro hw0 (And.intro hmay (And.intro hown (And.intro hglb (And.intro hMk (And.intro hH (And.intro hyl (And.intro hM (And.intro hkc ht0)))))))))
  have c0 := (cell_of_row r0 0).trans (show _ = some (.iface 31 (.pointer (some ⟨p, 0, none⟩))) from rfl)
  have c1 := (cell_of_row r0 1).trans (show _ = some (.int .i64 T) from rfl)
  have c2 := (cell_of_row r0 2).trans (show _ = some (.int .i64 0) from rfl)
  have c3 := (cell_of_row r0 3).trans (show _ = some (.int .i64 n) from rfl)
  have c4 := (cell_of_row r0 4).trans (show _ = some (.int .u8 o) from rfl)
  have c5 := (cell_of_row r0 5).trans (show _ = some (.int .i64 room) from rfl)
  have c6 := (cell_of_row r0 6).trans (show _ = some gf from rfl)
  have c7 := (cell_of_row r0 7).trans (show _ = some (.pointer (some ⟨q, 0, none⟩)) from rfl)
  obtain ⟨b0, hb0⟩ : ∃ b0, b0 = w.heap.size := ⟨_, rfl⟩
  rw [← hb0] at r0 c0 c1 c2 c3 c4 c5 c6 c7
  have HB := Lib.hid (And.intro r0 (And.intro ka hb0))
  clear hw1 hX hTL hw0 hmay hown hglb hMk hyl hM ht0 hG hyl' r0 hH
  go_enter Tryz.func34, Tryz.ntmps34
  go_upto_region 1 with (fail)
  rw [← hw1e, ← hb0]
  clear hw1e hb0 ka
  go_wp2_with fail
  refine HHd.out.mono ?_
  rintro e w2 ⟨rfl, h2, k2⟩
  obtain ⟨w3, hw3⟩ : ∃ w3, w3 = w2.alloc (.cells #[.int .u8 k, .int .u8 c, .bool false, .bool (X.M y), .int .u8 o', .int .u8 rf, .int .u8 sz] 59) := ⟨_, rfl⟩
  have k3 : Kp [] w2 w3 := by rw [hw3]; exact (Kp.refl _ _).alloc _
  have rh : w3.heap[w2.heap.size]? = some (.cells #[.int .u8 k, .int .u8 c, .bool false, .bool (X.M y), .int .u8 o', .int .u8 rf, .int .u8 sz] 59 (0, 0)) := by rw [hw3]; exact heap_alloc_new _ _
  have hlt := HX.out.lt
  have hb0n : b0 ∉ [p, r] := by
    have h1 := hlt p (by simp)
    have h2 := hlt r (by simp)
    have := HB.out.2.2
    simp; omega
  have r0 := k3.row (by simp) (k2.row hb0n HB.out.1)
  have c0 := kp_cell k3 (by simp) (kp_cell k2 hb0n c0)
  have c1 := kp_cell k3 (by simp) (kp_cell k2 hb0n c1)
  have c2 := kp_cell k3 (by simp) (kp_cell k2 hb0n c2)
  have c3 := kp_cell k3 (by simp) (kp_cell k2 hb0n c3)
  have c4 := kp_cell k3 (by simp) (kp_cell k2 hb0n c4)
  have c5 := kp_cell k3 (by simp) (kp_cell k2 hb0n c5)
  have c6 := kp_cell k3 (by simp) (kp_cell k2 hb0n c6)
  have c7 := kp_cell k3 (by simp) (kp_cell k2 hb0n c7)
  obtain ⟨b1, hb1⟩ : ∃ b1, b1 = w2.heap.size := ⟨_, rfl⟩
  rw [← hb1] at rh
  have d0 := (cell_of_row rh 0).trans (show _ = some (.int .u8 k) from rfl)
  have d1 := (cell_of_row rh 1).trans (show _ = some (.int .u8 c) from rfl)
  have d2 := (cell_of_row rh 2).trans (show _ = some (.bool false) from rfl)
  have d3 := (cell_of_row rh 3).trans (show _ = some (.bool (X.M y)) from rfl)
  have d4 := (cell_of_row rh 4).trans (show _ = some (.int .u8 o') from rfl)
  have d5 := (cell_of_row rh 5).trans (show _ = some (.int .u8 rf) from rfl)
  have d6 := (cell_of_row rh 6).trans (show _ = some (.int .u8 sz) from rfl)
  have hlt01 : b0 < b1 := by
    have := k2.size
    have := lt_of_block HB.out.1
    omega
  have H3 := Lib.hid (And.intro (h2.on k3) (And.intro ((HB.out.2.1.mono (by simp)).trans (k2.trans (k3.mono (by simp)))) (And.intro rh (And.intro r0 hlt01))))
  clear h2 k2 hlt hb0n HHd
  go_upto_region 3 with (fail)
  rw [← hw3, ← hb1]
  clear hw3 hb1 k3 rh r0 hlt01
  have HM : Hid (Mrk T n p r q ro room Sg H TL X (t + 1) w3) := Lib.hid (by
    have KK := H3.out.2.1
    exact ⟨⟨t0 + 1, by have := HS.out.2.2.2.2.2.2.2.2.2; omega, H3.out.1⟩, HX.out.sk.keep KK (by have := HX.out.ne; simp; omega) (by have := HX.out.ne; simp; omega), HTL.out.keep _ _ _ _ (by have := HTL.out.sg; intro g hg; simp at hg; rcases hg with rfl | rfl; exact this.1; exact this.2.1) KK HX.out.tl, HX.out.ne, fun g hg => Nat.lt_of_lt_of_le (HX.out.lt g hg) KK.size⟩)
  by_cases hg : k = 3
  · subst hg
    have hnown : (gpOf O H o tel).own y = false := by rw [HS.out.2.2.1]; rfl
    have hglb : (gpOf O H o tel).glb y = true := by rw [HS.out.2.2.2.1]; rfl
    cases tel with
    | true =>
      obtain ⟨g, cap, rfl, hen, htell⟩ := HTL.out.tell rfl
      have HTe := Lib.hid (htell X.tl w3 y HM.out.tl (by have := HS.out.2.2.2.2.2.2.1; have := HM.out.hw; obtain ⟨_, _, hh⟩ := this; have := hh.top; rw [markL_len] at this; omega))
      have HTr : Hid (trS (gpOf O H o true) room X y = { X with tl := fun z => X.tl z || decide (z = y) }) := Lib.hid (by
        unfold trS
        rw [if_neg (by omega), hglb]
        rfl)
      have hfn : ∀ wq, (binOp .neq 49 (.func (.func g) #[] cap) .nilFunc).run Tryz.prog wq = .ok (.bool true) wq := fun _ => rfl
      clear htell hnown hglb
      go_wp2_with fail
      refine HTe.out.mono ?_
      rintro e w4 ⟨rfl, htl, kS⟩
      have HF : Hid (Mrk T n p r q ro room Sg H TL (trS (gpOf O H o true) room X y) (t + 2) w4 ∧ Kp (p :: r :: q :: ro :: Sg) w w4) := Lib.hid (by
        rw [HTr.out]
        obtain ⟨t1, ht1, hh⟩ := HM.out.hw
        obtain ⟨s1, s2, s3, s4⟩ := HTL.out.sg
        refine ⟨⟨⟨t1, by omega, hh.keep kS s1 s2⟩, HM.out.sk.keep kS s3 s4, htl, HM.out.ne, fun g hg => Nat.lt_of_lt_of_le (HM.out.lt g hg) kS.size⟩, (H3.out.2.1.mono fun g hg _ => by simp at hg ⊢; omega).trans (kS.mono fun g hg _ => by simp [hg])⟩)
      clear htl kS
      go_wp2_with fail
      go_end0
      exact ⟨rfl, HF.out.1, HF.out.2⟩
    | false =>
      obtain rfl := HTL.out.no rfl
      have HOw := Lib.hid (own_is (T := T) (n := n) (p := p) (q := q) (o := o) (room := room) (gf := .nilFunc) 3 c o' rf sz (X.M y) w3 false rfl)
      have HTr : Hid (trS (gpOf O H o false) room X y = X) := Lib.hid (by
        unfold trS
        rw [if_neg (by omega), hglb, hnown]
        rfl)
      have hfn : ∀ wq, (binOp .neq 49 .nilFunc .nilFunc).run Tryz.prog wq = .ok (.bool false) wq := fun _ => rfl
      clear hnown hglb
      go_wp2_with fail
      refine HOw.out.mono ?_
      rintro e w4 ⟨rfl, kS⟩
      have HF : Hid (Mrk T n p r q ro room Sg H TL (trS (gpOf O H o false) room X y) (t + 2) w4 ∧ Kp (p :: r :: q :: ro :: Sg) w w4) := Lib.hid (by
        rw [HTr.out]
        exact ⟨(HM.out.on HTL.out kS).more (by omega), (H3.out.2.1.mono fun g hg _ => by simp at hg ⊢; omega).trans (kS.mono (by simp))⟩)
      clear kS
      go_wp2_with fail
      go_end0
      exact ⟨rfl, HF.out.1, HF.out.2⟩
  · have hg3 : ((k : Int) == 3) = false := by simp; omega
    have hglb : (gpOf O H o tel).glb y = false := by rw [HS.out.2.2.2.1]; simp [hg]
    obtain ⟨ow, how⟩ : ∃ ow, (decide (k = 2) && decide (o' = o)) = ow := ⟨_, rfl⟩
    have hown : (gpOf O H o tel).own y = ow := by rw [HS.out.2.2.1]; exact how
    have HOw := Lib.hid (fun wq => own_is (T := T) (n := n) (p := p) (q := q) (o := o) (room := room) (gf := gf) k c o' rf sz (X.M y) wq ow how)
    by_cases hdo : ow = true ∧ X.M y = false
    · obtain ⟨rfl, hMy⟩ := hdo
      simp only [Bool.and_eq_true, decide_eq_true_eq] at how
      obtain ⟨rfl, rfl⟩ := how
      have hc0 := HS.out.2.2.2.2.2.2.2.2.1 rfl
      subst hc0
      have hmay2 : Wd.mayB 2 0 o' rf sz false true = true := by
        have := HS.out.2.1
        rw [hMy] at this
        rw [Wd.mayB_iff] at this ⊢
        simp at this ⊢; omega
      have hwl := Wd.word_lt 2 0 o' rf sz false true (by omega) (by omega) (by omega) (by omega) (by omega) hmay2
      have HPut := Lib.hid (fun wq => Wd.put_yes 2 0 o' rf sz false true wq (by omega) (by omega) (by omega) (by omega) (by omega) hmay2)
      have hHy := HS.out.2.2.2.2.2.1
      have hval : Wd.wordI 2 0 o' rf sz false true = H.getD y 0 + 16 := by rw [wordI_mark]; have := hHy; push_cast at this; rw [this]
      obtain ⟨Z, hZ⟩ : ∃ Z, Z = Wd.wordI 2 0 o' rf sz false true := ⟨_, rfl⟩
      rw [← hZ] at hwl HPut hval
      have HTr : Hid (trS (gpOf O H o' tel) room X y = { X with M := fun z => X.M z || decide (z = y), st := if X.st.length < room then X.st ++ [y] else X.st, ov := X.ov || !decide (X.st.length < room) }) := Lib.hid (by
        unfold trS
        rw [if_neg (by omega), hglb, hown, hMy]
        rfl)
      have HZ := Lib.hid (And.intro hval hwl)
      rw [hMy] at d3
      have HMy := Lib.hid hMy
      have HOw := Lib.hid (fun wq => own_is (T := T) (n := n) (p := p) (q := q) (o := o') (room := room) (gf := gf) 2 0 o' rf sz false wq true (by simp))
      clear hown hglb hmay2 hwl hval hHy hZ hMy
      have e0 := free_of_row H3.out.2.2.1 3
      go_wp2_with fail
      refine (HOw.out w3).mono ?_
      rintro e w4 ⟨rfl, k4⟩
      have rh4 := k4.row (by simp) H3.out.2.2.1
      have r04 := k4.row (by simp) H3.out.2.2.2.1
      have hb01 := H3.out.2.2.2.2
      have hlw := HX.out.lt
      have hb0w := HB.out.2.2
      have hbs : ∀ g ∈ p :: r :: q :: ro :: Sg, g < b0 := fun g hg => by have := hlw g hg; omega
      have d0 := (cell_of_row rh4 0).trans (show _ = some (.int .u8 2) from rfl)
      have e0 := free_of_row rh4 3
      have d3 := (cell_of_row rh4 3).trans (show _ = some (.bool false) from by rw [HMy.out]; rfl)
      obtain ⟨w5, hw5⟩ : ∃ w5, w5 = w4.setCell ⟨b1, 3, none⟩ (.bool true) := ⟨_, rfl⟩
      have k5 : Kp [b1] w4 w5 := by rw [hw5]; exact (Kp.refl _ _).setCell (.inl (by simp)) _
      have rh5 : w5.heap[b1]? = some (.cells #[.int .u8 2, .int .u8 0, .bool false, .bool true, .int .u8 o', .int .u8 rf, .int .u8 sz] 59 (0, 0)) := by rw [hw5, heap_setCell_same _ _ 3 _ _ _ rh4]; rfl
      have r05 := k5.row (by simp; omega) r04
      have H5 := Lib.hid (And.intro k4 (And.intro k5 (And.intro rh5 (And.intro r05 hbs))))
      clear k4 k5 rh5 r05 hbs hlw hb0w rh4 r04 d1 d2 d4 d5 d6
      go_upto_region 7 with (fail)
      rw [← hw5]
      clear hw5 d0 d3 e0
      have c0 := (cell_of_row H5.out.2.2.2.1 0).trans (show _ = some (.iface 31 (.pointer (some ⟨p, 0, none⟩))) from rfl)
      have c1 := (cell_of_row H5.out.2.2.2.1 1).trans (show _ = some (.int .i64 T) from rfl)
      have c2 := (cell_of_row H5.out.2.2.2.1 2).trans (show _ = some (.int .i64 0) from rfl)
      have c3 := (cell_of_row H5.out.2.2.2.1 3).trans (show _ = some (.int .i64 n) from rfl)
      have c4 := (cell_of_row H5.out.2.2.2.1 4).trans (show _ = some (.int .u8 o') from rfl)
      have c5 := (cell_of_row H5.out.2.2.2.1 5).trans (show _ = some (.int .i64 room) from rfl)
      have c6 := (cell_of_row H5.out.2.2.2.1 6).trans (show _ = some gf from rfl)
      have c7 := (cell_of_row H5.out.2.2.2.1 7).trans (show _ = some (.pointer (some ⟨q, 0, none⟩)) from rfl)
      have d0 := (cell_of_row H5.out.2.2.1 0).trans (show _ = some (.int .u8 2) from rfl)
      have d1 := (cell_of_row H5.out.2.2.1 1).trans (show _ = some (.int .u8 0) from rfl)
      have d2 := (cell_of_row H5.out.2.2.1 2).trans (show _ = some (.bool false) from rfl)
      have d3 := (cell_of_row H5.out.2.2.1 3).trans (show _ = some (.bool true) from rfl)
      have d4 := (cell_of_row H5.out.2.2.1 4).trans (show _ = some (.int .u8 o') from rfl)
      have d5 := (cell_of_row H5.out.2.2.1 5).trans (show _ = some (.int .u8 rf) from rfl)
      have d6 := (cell_of_row H5.out.2.2.1 6).trans (show _ = some (.int .u8 sz) from rfl)
      go_wp2_with fail
      refine (HPut.out w5).mono ?_
      rintro e w6 ⟨rfl, k6⟩
      have k6 := kp_of_below k6
      have c0 := kp_cell k6 (by simp) c0
      have c7 := kp_cell k6 (by simp) c7
      obtain ⟨t1, ht1, hh⟩ := HM.out.hw
      have hh6 : Hw T 0 n p r (markL H X.M) t1 w6 := ((hh.on H5.out.1).keep H5.out.2.1 (by have := H5.out.2.2.2.2 p (by simp); simp; omega) (by have := H5.out.2.2.2.2 r (by simp); simp; omega)).on k6
      have hyl := HS.out.2.2.2.2.2.2.1
      have HWr := Lib.hid (wr_word hh6 (by omega) y (by rw [markL_len]; exact hyl) (y : Int) Z rfl HZ.out.2.1 (by have := HZ.out.2.2; omega))
      have H6 := Lib.hid (And.intro k6 ht1)
      clear k6 hh hh6 hyl ht1 c1 c2 c3 c4 c5 c6 d0 d1 d2 d3 d4 d5 d6
      go_wp2_with fail
      refine HWr.out.mono ?_
      rintro e w7 ⟨rfl, h7, k7⟩
      have c7 := kp_cell k7 (by have h1 := H5.out.2.2.2.2 p (by simp); have h2 := H5.out.2.2.2.2 r (by simp); simp; omega) c7
      have hne := HX.out.ne
      have hq0 := H5.out.2.2.2.2 q (by simp)
      have hr0 := H5.out.2.2.2.2 ro (by simp)
      have hs7 : Sk.Sk w7 q ro room (X.st.map Int.ofNat) X.ov := (((HM.out.sk.keep0 H5.out.1).keep H5.out.2.1 (by simp; omega) (by simp; omega)).keep0 H6.out.1).keep k7 (by simp; omega) (by simp; omega)
      have HPs := Lib.hid (Sk.spush_any w7 q ro room (X.st.map Int.ofNat) (y : Int) X.ov hs7)
      have H7 := Lib.hid (And.intro h7 k7)
      clear h7 k7 hs7 hne hq0 hr0 c0
      go_wp2_with fail
      refine HPs.out.mono ?_
      rintro e w8 ⟨rfl, h8, k8⟩
      have HF : Hid (Mrk T n p r q ro room Sg H TL (trS (gpOf O H o' tel) room X y) (t + 2) w8 ∧ Kp (p :: r :: q :: ro :: Sg) w w8) := Lib.hid (by
        rw [HTr.out]
        have hne := HX.out.ne
        have sg := HTL.out.sg
        have hb := H5.out.2.2.2.2
        have K : Kp (p :: r :: q :: ro :: Sg) w w8 := by
          have a1 : Kp (p :: r :: q :: ro :: Sg) w w4 := (H3.out.2.1.mono fun g hg _ => by simp at hg ⊢; omega).trans (H5.out.1.mono (by simp))
          have a2 : Kp (p :: r :: q :: ro :: Sg) w w5 := by
            have := H5.out.2.1
            refine ⟨this.os.trans a1.os, this.tape.trans a1.tape, this.output.trans a1.output, Nat.le_trans a1.size this.size, fun i hi hni => (this.block i (Nat.lt_of_lt_of_le hi a1.size) ?_).trans (a1.block i hi hni)⟩
            have z1 := HB.out.2.2
            have z2 := H3.out.2.2.2.2
            simp; omega
          exact ((a2.trans (H6.out.1.mono (by simp))).trans (H7.out.2.mono fun g hg _ => by simp at hg ⊢; omega)).trans (k8.mono fun g hg _ => by simp at hg ⊢; omega)
        refine ⟨⟨⟨t1 + 1, by have := H6.out.2; omega, ?_⟩, ?_, ?_, hne, fun g hg => Nat.lt_of_lt_of_le (HX.out.lt g hg) K.size⟩, K⟩
        · have := H7.out.1
          rw [HZ.out.1, markL_set _ _ _ HS.out.2.2.2.2.2.2.1] at this
          exact this.keep k8 (by simp; omega) (by simp; omega)
        · simp only [Sk.pushL, List.length_map] at h8
          by_cases hl : X.st.length < room
          · simp only [hl, if_true, decide_true, Bool.not_true, Bool.or_false] at h8 ⊢
            rw [List.map_append]; exact h8
          · simp only [hl, if_false, decide_false, Bool.not_false, Bool.or_true] at h8 ⊢
            exact h8
        · have b1n : b1 ∉ Sg := fun e => by have := hb b1 (by simp [e]); have := H3.out.2.2.2.2; omega
          have t1 := HTL.out.keep X.tl [] _ _ (by simp) H5.out.1 HM.out.tl
          have t2 := HTL.out.keep X.tl [b1] _ _ (by simpa using b1n) H5.out.2.1 t1
          have t3 := HTL.out.keep X.tl [] _ _ (by simp) H6.out.1 t2
          have t4 := HTL.out.keep X.tl [p, r] _ _ (by intro g hg; simp at hg; rcases hg with rfl | rfl; exact sg.1; exact sg.2.1) H7.out.2 t3
          exact HTL.out.keep X.tl [q, ro] _ _ (by intro g hg; simp at hg; rcases hg with rfl | rfl; exact sg.2.2.1; exact sg.2.2.2) k8 t4)
      clear h8 k8
      go_wp2_with fail
      go_end0
      exact ⟨rfl, HF.out.1, HF.out.2⟩
    · have hnot : (ow && !X.M y) = false := by
        cases ow
        · rfl
        · cases hh : X.M y
          · exact absurd ⟨rfl, hh⟩ hdo
          · rfl
      have HTr : Hid (trS (gpOf O H o tel) room X y = X) := Lib.hid (by
        unfold trS
        rw [if_neg (by omega), hglb, hown]
        simp only [Bool.false_and, Bool.false_eq_true, if_false]
        rw [hnot]
        rfl)
      have HQ : Hid (ow = false ∨ (ow = true ∧ X.M y = true)) := Lib.hid (by
        cases ow
        · exact .inl rfl
        · cases hh : X.M y
          · rw [hh] at hnot; cases hnot
          · exact .inr ⟨rfl, rfl⟩)
      clear hnot hdo hown hglb how
      go_wp2_with fail
      refine (HOw.out w3).mono ?_
      rintro e w4 ⟨rfl, kS⟩
      have HF : Hid (Mrk T n p r q ro room Sg H TL (trS (gpOf O H o tel) room X y) (t + 2) w4 ∧ Kp (p :: r :: q :: ro :: Sg) w w4) := Lib.hid (by
        rw [HTr.out]
        exact ⟨(HM.out.on HTL.out kS).more (by omega), (H3.out.2.1.mono fun g hg _ => by simp at hg ⊢; omega).trans (kS.mono (by simp))⟩)
      have d3 := kp_cell kS (by simp) d3
      clear kS HTr
      generalize X.M y = mm at d3 HQ
      rcases HQ.out with rfl | ⟨rfl, rfl⟩
      · go_wp2_with fail
        go_end0
        exact ⟨rfl, HF.out.1, HF.out.2⟩
      · go_wp2_with fail
        go_end0
        exact ⟨rfl, HF.out.1, HF.out.2⟩
end
end Go.Proofs.YticbnckikkdknaaGreatDoor
