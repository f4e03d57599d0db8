/- A row of numbers as the walks hold it, and a stack: whether it overflowed, its places, its room. Conditions: as each lemma states them. The walks of package stack: New, Len, Push, Pop, Over, and all of them at nil. Package mark, its walks: a header is read, an object is the owner's, a place is treated. Package mark, its walks, on: whether an object is the owner's; a place is treated. Package mark, its walks, on: an object is looked into. Package mark, its walks, on: what waits is drained. Package mark, its walks, on: how many cells of the owner there are in a block; what lies in them. Package mark, its walks, on: Mark as a whole. The document's mark, on: a header, whatever lies there; an object's references; rows of truths. The document's mark, on: Reached. The document's mark, on: Told, Marked. The document's mark, on: Marked; marked words have the same objects. Law 18, its parts: a map of truths that is told, who is told by a map or a box, places by their numbers, Mark's errors. Law 18, its parts, on: places by their numbers, how great a heap may be, the known heap. Law 18: what stands of a heap whose words turn; the known heap, marked. Conditions: as each theorem states them. -/
import Derived.Test.YticbnckikkdknaaGreatDoorRows
import Derived.OneCell
import Derived.Deep.Draws
import Derived.Laws.IdiomCopy
import Derived.WalkKit
import Derived.WalkSpells
import Derived.WalkLawsBesides
import Derived.BigQuiet
import Derived.RegionTactic
import Derived.ArgAppend
import Derived.Laws.CopyRow
import Derived.Deep.WholeRow
import Derived.Lib.Hide
import Derived.Maps.Own
import Derived.Maps.OwnSet
import Derived.Maps.Views
import Derived.WalkArith
import Derived.Test.YticbnckikkdknaaGreatDoorPn01
import Derived.Test.YticbnckikkdknaaGreatDoorPn16
namespace Go.Proofs.YticbnckikkdknaaGreatDoor.Sk
set_option linter.unusedVariables false
set_option linter.unusedSimpArgs false
open Go.RowKit

def ints (xs : List Int) : List Value := xs.map (Value.int .i64)
theorem ints_len (xs : List Int) : (ints xs).length = xs.length := by simp [ints]
theorem ints_get (xs : List Int) (i : Nat) (h : i < xs.length) : (ints xs)[i]? = some (.int .i64 (xs.getD i 0)) := by simp [ints, List.getD, h]
theorem ints_snoc (xs : List Int) (z : Int) : ints (xs ++ [z]) = ints xs ++ [.int .i64 z] := by simp [ints]
theorem ints_take (xs : List Int) (i : Nat) : (ints xs).take i = ints (xs.take i) := by simp [ints, List.map_take]

/-- The block that a slice leads to, as a list. -/
def blk (v : Value) : List Nat := v.ownBlock.toList
theorem blk_nil : blk (.slice none 0 0) = [] := rfl
theorem blk_some (g o n c : Nat) : blk (.slice (some ⟨g, o, none⟩) n c) = [g] := rfl

theorem kp_of_row {w w' : World} {v : Value} (h : w.grownBy w' v.ownBlock) : Kp (blk v) w w' := ⟨h.os, h.tape, h.output, h.size, fun k hk hn => h.block k hk (by
  intro e
  apply hn
  unfold blk
  rw [Option.mem_toList]
  exact e.symm)⟩
theorem kp_drewN {S : List Nat} (w : World) (j : Nat) : Kp S w (w.drewN j) := ⟨rfl, rfl, rfl, Nat.le_refl _, fun _ _ _ => rfl⟩
theorem ne_types {w : World} {a b : Nat} {x y : Array Value} {t u : TypeId} (h : w.heap[a]? = some (.cells x t (0, 0))) (k : w.heap[b]? = some (.cells y u (0, 0))) (htu : t ≠ u) : a ≠ b := by
  intro e; subst e
  have := h.symm.trans k
  simp at this
  exact htu this.2
theorem Kp.cell {S : List Nat} {w w' : World} (k : Kp S w w') {g o : Nat} (hg : g ∉ S) {v : Value} (h : w.cell? ⟨g, o, none⟩ = some v) : w'.cell? ⟨g, o, none⟩ = some v :=
  (World.cell?_of_block (a := ⟨g, o, none⟩) (k.block g (block_lt_of_cell h) hg)).trans h

/-- The numbers xs lie where the slice u leads, a row of ints. -/
structure Rd (w : World) (u : Value) (xs : List Int) : Prop where
  form : ∃ ao cap, u = .slice ao xs.length cap ∧ xs.length ≤ cap ∧ (ao = none → cap = 0) ∧ (xs ≠ [] → ∃ g o, ao = some ⟨g, o, none⟩ ∧ ∀ i, i < xs.length → w.cell? ⟨g, o + i, none⟩ = some (.int .i64 (xs.getD i 0)))
  ty : ∀ g ∈ blk u, ∃ cur, w.heap[g]? = some (.cells cur 3 (0, 0))

theorem Rd.nil (w : World) : Rd w (.slice none 0 0) [] := ⟨⟨none, 0, rfl, Nat.le_refl _, fun _ => rfl, fun h => absurd rfl h⟩, by simp [blk_nil]⟩
theorem Rd.keep {w w' : World} {u : Value} {xs : List Int} {S : List Nat} (h : Rd w u xs) (k : Kp S w w') (hS : ∀ g ∈ blk u, g ∉ S) : Rd w' u xs := by
  refine ⟨?_, fun g hg => ?_⟩
  · obtain ⟨ao, cap, rfl, hc, hz, hx⟩ := h.form
    refine ⟨ao, cap, rfl, hc, hz, fun hne => ?_⟩
    obtain ⟨g, o, rfl, hcell⟩ := hx hne
    exact ⟨g, o, rfl, fun i hi => Kp.cell k (hS g (by simp [blk_some])) (hcell i hi)⟩
  · obtain ⟨cur, hc⟩ := h.ty g hg
    exact ⟨cur, k.row (hS g hg) hc⟩
theorem Rd.keep0 {w w' : World} {u : Value} {xs : List Int} (h : Rd w u xs) (k : Kp [] w w') : Rd w' u xs := h.keep k (by simp)
theorem Rd.lt {w : World} {u : Value} {xs : List Int} (h : Rd w u xs) : ∀ g ∈ blk u, g < w.heap.size := by
  intro g hg
  obtain ⟨cur, hc⟩ := h.ty g hg
  exact lt_of_block hc
theorem Rd.of_own {w : World} {base : Nat} {v : Value} {xs : List Int} (h : w.ownsRow base 3 1 v xs.length (ints xs)) : Rd w v xs := by
  rcases h.2 with ⟨rfl, h0⟩ | ⟨g, cap, cur, rfl, hge, hg, h1, h2, h3, h4⟩
  · rw [List.eq_nil_of_length_eq_zero h0]; exact Rd.nil w
  · refine ⟨⟨_, cap, rfl, h1, fun e => (by cases e), fun _ => ⟨g, 0, rfl, fun i hi => ?_⟩⟩, fun k hk => ?_⟩
    · rw [Nat.zero_add, cell_of_row hg, ← ints_get xs i hi, ← h4, List.getElem?_take_of_lt (by omega)]; simp
    · rw [blk_some, List.mem_singleton] at hk
      exact ⟨cur, hk ▸ hg⟩
theorem Rd.one {w : World} {u : Value} {xs : List Int} (h : Rd w u xs) : u.oneCell' = true := by
  obtain ⟨ao, cap, rfl, _⟩ := h.form
  rfl
theorem blk_same (ao : Option Addr) (n c m d : Nat) : blk (.slice ao n c) = blk (.slice ao m d) := by cases ao <;> rfl
/-- Its last one is left out. -/
theorem Rd.less {w : World} {ao : Option Addr} {cap : Nat} {xs : List Int} {x : Int} {n : Nat} (h : Rd w (.slice ao n cap) (xs ++ [x])) : Rd w (.slice ao xs.length cap) xs := by
  refine ⟨?_, fun g hg => h.ty g (by rw [blk_same ao n cap xs.length cap]; exact hg)⟩
  obtain ⟨ao', cap', e, hl, hz, hx⟩ := h.form
  simp only [Value.slice.injEq] at e
  obtain ⟨rfl, _, rfl⟩ := e
  simp at hl
  refine ⟨ao, cap, rfl, by omega, hz, fun _ => ?_⟩
  obtain ⟨g, o, rfl, hc⟩ := hx (by simp)
  refine ⟨g, o, rfl, fun i hi => ?_⟩
  rw [hc i (by simp; omega)]
  simp [List.getD, hi, List.getElem?_append_left hi]
/-- Its last one. -/
theorem Rd.last {w : World} {u : Value} {xs : List Int} {x : Int} (h : Rd w u (xs ++ [x])) : ∃ g o cap, u = .slice (some ⟨g, o, none⟩) (xs.length + 1) cap ∧ xs.length + 1 ≤ cap ∧ w.cell? ⟨g, o + xs.length, none⟩ = some (.int .i64 x) ∧ Rd w (.slice (some ⟨g, o, none⟩) xs.length cap) xs := by
  obtain ⟨ao, cap, hu, hl, hz, hx⟩ := h.form
  obtain ⟨g, o, rfl, hc⟩ := hx (by simp)
  have e : (xs ++ [x]).length = xs.length + 1 := by simp
  subst hu
  have h' := h.less
  rw [e] at hl hc ⊢
  refine ⟨g, o, cap, rfl, hl, ?_, h'⟩
  rw [hc _ (Nat.lt_succ_self _)]
  simp [List.getD]
/-- What it holds, as what is appended to another row. -/
theorem Rd.news {w : World} {u : Value} {xs : List Int} (h : Rd w u xs) : (u = .slice none 0 0 ∧ xs = []) ∨ ∃ ad cap, u = .slice (some ad) xs.length cap ∧ ∀ j v, (ints xs)[j]? = some v → w.cell? (ad.add j) = some v := by
  obtain ⟨ao, cap, rfl, hc, hz, hx⟩ := h.form
  cases ao with
  | none =>
    obtain rfl := hz rfl
    have : xs = [] := List.eq_nil_of_length_eq_zero (by omega)
    subst this
    exact .inl ⟨rfl, rfl⟩
  | some ad =>
    refine .inr ⟨ad, cap, rfl, fun j v hv => ?_⟩
    have hj : j < xs.length := by
      have := (List.getElem?_eq_some_iff.1 hv).1
      simpa [ints] using this
    obtain ⟨g, o, e, hcell⟩ := hx (fun e => by subst e; simp at hj)
    cases e
    rw [Addr.add_lit, hcell j hj, ← ints_get xs j hj]
    exact hv

/-- A stack at p, whose places lie in row r: its room, its places, whether it has overflowed. -/
structure Sk (w : World) (p r n : Nat) (L : List Int) (o : Bool) : Prop where
  hp : w.heap[p]? = some (.cells #[.bool o, .slice (some ⟨r, 0, none⟩) L.length n] 140 (0, 0))
  row : ∃ cur, w.heap[r]? = some (.cells cur 136 (0, 0)) ∧ cur.size = 64 ∧ ∀ i, i < L.length → cur[i]? = some (.int .i64 (L.getD i 0))
  le : L.length ≤ n
  most : n ≤ 64

section
variable {w w' : World} {p r n : Nat} {L : List Int} {o : Bool}
theorem Sk.ne (h : Sk w p r n L o) : p ≠ r := by
  obtain ⟨cur, hr, _⟩ := h.row
  exact ne_types h.hp hr (by decide)
theorem Sk.keep {S : List Nat} (h : Sk w p r n L o) (k : Kp S w w') (hp : p ∉ S) (hr : r ∉ S) : Sk w' p r n L o := by
  obtain ⟨cur, h1, h2⟩ := h.row
  exact ⟨k.row hp h.hp, ⟨cur, k.row hr h1, h2⟩, h.le, h.most⟩
theorem Sk.keep0 (h : Sk w p r n L o) (k : Kp [] w w') : Sk w' p r n L o := h.keep k (by simp) (by simp)
theorem Sk.c0 (h : Sk w p r n L o) : w.cell? ⟨p, 0, none⟩ = some (.bool o) := by rw [cell_of_row h.hp]; rfl
theorem Sk.c1 (h : Sk w p r n L o) : w.cell? ⟨p, 1, none⟩ = some (.slice (some ⟨r, 0, none⟩) L.length n) := by rw [cell_of_row h.hp]; rfl
theorem Sk.f (h : Sk w p r n L o) (i : Nat) : w.frozen? ⟨p, i, none⟩ = false := free_of_row h.hp i
theorem Sk.cr (h : Sk w p r n L o) {i : Nat} (hi : i < L.length) : w.cell? ⟨r, i, none⟩ = some (.int .i64 (L.getD i 0)) := by
  obtain ⟨cur, h1, _, h2⟩ := h.row
  rw [cell_of_row h1, h2 i hi]
theorem Sk.room (h : Sk w p r n L o) {i : Nat} (hi : i < 64) : (w.cell? ⟨r, i, none⟩).isSome = true ∧ w.frozen? ⟨r, i, none⟩ = false := by
  obtain ⟨cur, h1, h2, _⟩ := h.row
  rw [cell_of_row h1]
  exact ⟨by simp [h2, hi], free_of_row h1 i⟩
theorem Sk.lt (h : Sk w p r n L o) : p < w.heap.size ∧ r < w.heap.size := by
  obtain ⟨cur, hr, _⟩ := h.row
  exact ⟨lt_of_block h.hp, lt_of_block hr⟩
/-- Whether it has overflowed is stored. -/
theorem Sk.over (h : Sk w p r n L o) (o' : Bool) : Sk (w.setCell ⟨p, 0, none⟩ (.bool o')) p r n L o' := by
  obtain ⟨cur, h1, h2⟩ := h.row
  refine ⟨?_, ⟨cur, (heap_setCell_other _ _ _ _ (Ne.symm h.ne)).trans h1, h2⟩, h.le, h.most⟩
  rw [heap_setCell_same _ _ _ _ _ _ h.hp]
  rfl
/-- A place is put. -/
theorem Sk.push (h : Sk w p r n L o) (x : Int) (hn : L.length < n) : Sk ((w.setCell ⟨r, L.length, none⟩ (.int .i64 x)).setCell ⟨p, 1, none⟩ (.slice (some ⟨r, 0, none⟩) (L.length + 1) n)) p r n (L ++ [x]) o := by
  obtain ⟨cur, h1, h2, h3⟩ := h.row
  have hm := h.most
  have a1 := (heap_setCell_other w ⟨r, L.length, none⟩ p (.int .i64 x) h.ne).trans h.hp
  have a2 := heap_setCell_same w r L.length _ _ (.int .i64 x) h1
  refine ⟨?_, ⟨_, (heap_setCell_other _ _ _ _ (Ne.symm h.ne)).trans a2, by simpa using h2, ?_⟩, by simp; omega, h.most⟩
  · rw [heap_setCell_same _ _ _ _ _ _ a1]
    simp
  · intro i hi
    by_cases e : i = L.length
    · subst e
      rw [Array.getElem?_setIfInBounds_self_of_lt (by omega)]
      simp
    · have hi' : i < L.length := by simp at hi; omega
      rw [Array.getElem?_setIfInBounds_ne (by omega), h3 i hi']
      simp [List.getD, hi', List.getElem?_append_left hi']
/-- The top place is taken away. -/
theorem Sk.pop {x : Int} (h : Sk w p r n (L ++ [x]) o) : Sk (w.setCell ⟨p, 1, none⟩ (.slice (some ⟨r, 0, none⟩) L.length n)) p r n L o := by
  obtain ⟨cur, h1, h2, h3⟩ := h.row
  have hl := h.le
  simp at hl
  refine ⟨?_, ⟨_, (heap_setCell_other _ _ _ _ (Ne.symm h.ne)).trans h1, h2, ?_⟩, by omega, h.most⟩
  · rw [heap_setCell_same _ _ _ _ _ _ h.hp]
    simp
  · intro i hi
    rw [h3 i (by simp; omega)]
    simp [List.getD, hi, List.getElem?_append_left hi]
end

end Go.Proofs.YticbnckikkdknaaGreatDoor.Sk

namespace Go.Proofs.YticbnckikkdknaaGreatDoor.Sk
set_option linter.unusedVariables false
set_option linter.unusedSimpArgs false
open Go.RowKit

def iv (g : Nat → Int) : Array Value := ((List.range 64).map fun i => Value.int .i64 (g i)).toArray
theorem slen_any (w : World) (p r n : Nat) (L : List Int) (o : Bool) (h : Sk w p r n L o) :
    Calls Tryz.prog 105 #[.pointer (some ⟨p, 0, none⟩)] w fun e w' => e = .returned (.int .i64 L.length) ∧ w = w' := by
  have hc1 := h.c1
  go_enter Tryz.func105, Tryz.ntmps105
  go_wp2
  go_ret
  exact ⟨rfl, rfl⟩
theorem sask_is (w : World) (p : Nat) (o : Bool) (h : w.cell? ⟨p, 0, none⟩ = some (.bool o)) (hf : w.frozen? ⟨p, 0, none⟩ = false) :
    Calls Tryz.prog 68 #[.pointer (some ⟨p, 0, none⟩)] w fun e w' => e = .returned (.bool o) ∧ w.setCell ⟨p, 0, none⟩ (.bool false) = w' := by
  go_enter Tryz.func68, Tryz.ntmps68
  go_wp2
  go_ret
  exact ⟨rfl, rfl⟩

theorem sover_any (w : World) (p r n : Nat) (L : List Int) (o : Bool) (h : Sk w p r n L o) :
    Calls Tryz.prog 36 #[.pointer (some ⟨p, 0, none⟩)] w fun e w' => e = .returned (.bool o) ∧ Sk w' p r n L false ∧ Kp [p, r] w w' := by
  have ha := sask_is w p o h.c0 (h.f 0)
  have hS := Lib.hid (And.intro (h.over false) ((Kp.refl [p, r] w).setCell (p := ⟨p, 0, none⟩) (.inl (by simp)) (.bool false)))
  clear h
  go_enter Tryz.func36, Tryz.ntmps36
  go_wp2_with ((with_reducible refine ha.mono ?_); rintro e w1 ⟨rfl, rfl⟩)
  go_ret
  exact ⟨rfl, hS.out⟩
theorem spop_empty (w : World) (p r n : Nat) (o : Bool) (h : Sk w p r n [] o) :
    Calls Tryz.prog 67 #[.pointer (some ⟨p, 0, none⟩)] w fun e w' => e = .returned (.tuple #[.int .i64 0, .bool false]) ∧ w = w' := by
  have hl := slen_any w p r n [] o h
  clear h
  go_enter Tryz.func67, Tryz.ntmps67
  go_wp2_with ((with_reducible refine hl.mono ?_); rintro e w1 ⟨rfl, rfl⟩)
  go_ret2
  exact ⟨rfl, rfl⟩
theorem spop_some (w : World) (p r n : Nat) (L : List Int) (x : Int) (o : Bool) (h : Sk w p r n (L ++ [x]) o) :
    Calls Tryz.prog 67 #[.pointer (some ⟨p, 0, none⟩)] w fun e w' => e = .returned (.tuple #[.int .i64 x, .bool true]) ∧ Sk w' p r n L o ∧ Kp [p, r] w w' := by
  have hl := slen_any w p r n _ o h
  have hc1 := h.c1
  have hcx : w.cell? ⟨r, L.length, none⟩ = some (.int .i64 x) := by
    rw [h.cr (by simp)]; simp [List.getD]
  have hf := h.f 1
  have hle := h.le
  have hm := h.most
  have hS := Lib.hid (And.intro h.pop ((Kp.refl [p, r] w).setCell (p := ⟨p, 1, none⟩) (.inl (by simp)) (.slice (some ⟨r, 0, none⟩) L.length n)))
  clear h
  have e1 : (L ++ [x]).length = L.length + 1 := by simp
  rw [e1] at hl hc1 hle
  clear e1
  generalize L.length = k at hl hc1 hcx hle hS
  go_enter Tryz.func67, Tryz.ntmps67
  go_wp2_with ((with_reducible refine hl.mono ?_); rintro e w1 ⟨rfl, rfl⟩)
  go_ret2
  exact ⟨rfl, hS.out⟩

theorem one_cell (x : Int) : ∀ u ∈ [Value.int .i64 x], u.oneCell' = true := by simp [Value.oneCell']
theorem news_one (w : World) (x : Int) (t : TypeId) (a : Addr) (ha : a = ⟨w.heap.size, 0, none⟩) : ∀ (j : Nat) (v : Value), [Value.int .i64 x][j]? = some v → (w.alloc (.cells #[.int .i64 x] t)).cell? (a.add j) = some v := by
  subst ha
  intro j v hv
  have hj : j = 0 := by
    have := (List.getElem?_eq_some_iff.1 hv).1
    simpa using this
  subst hj
  rw [Addr.add_lit, cell_of_row (heap_alloc_new w _)]
  simpa using hv
theorem int_info : (Tryz.prog.info? 3).map (fun i => (i.zero, i.size, i.bytes)) = some (some (.int .i64 0), 1, 8) := by kernel_rfl
/-- An 'append' whose run is known. -/
theorem wpList_append_eq {P : Program} {w w2 : World} {ops : Array Oper} {rest : List Oper} {o : Oper} {a : Act} {Q : Exit → Act → World → Prop} (hgd : o.guard = none) (s x : Operand) (t : TypeId)
    (ho : o.op = .call { callee := .builtin .append, args := #[s, x], argTypes := #[t, t] }) (sv xv v : Value) (hs : a.eval s = sv) (hx : a.eval x = xv)
    (hrun : (Builtin.append_ #[t, t] o.type #[sv, xv]).run P w = .ok v w2) (hK : wpList P ops Q rest (a.put o.dst v) w2) : wpList P ops Q (o :: rest) a w := by
  refine wpList_plain hgd fun K hK' => ?_
  unfold Oper.wp
  simp [execOp, ho, resolve, invoke, builtin, hs, hx, hrun, Result.andThen]
  exact hK' _ _ hK
/-- What Pop answers of a stack. -/
def popX (L : List Int) : Int := L.getLastD 0
def popB (L : List Int) : Bool := !L.isEmpty
theorem spop_any (w : World) (p r n : Nat) (L : List Int) (o : Bool) (h : Sk w p r n L o) :
    Calls Tryz.prog 67 #[.pointer (some ⟨p, 0, none⟩)] w fun e w' => e = .returned (.tuple #[.int .i64 (popX L), .bool (popB L)]) ∧ Sk w' p r n L.dropLast o ∧ Kp [p, r] w w' := by
  rcases List.eq_nil_or_concat L with rfl | ⟨M, x, hM⟩
  · refine (spop_empty w p r n o h).mono ?_
    rintro e w' ⟨rfl, rfl⟩
    exact ⟨rfl, h, Kp.refl _ _⟩
  · rw [List.concat_eq_append] at hM
    subst hM
    refine (spop_some w p r n M x o h).mono ?_
    rintro e w' ⟨rfl, hs, hk⟩
    simp only [popX, popB]
    refine ⟨?_, by simpa using hs, hk⟩
    simp

theorem make_ints (n : Nat) (h2 : n ≤ 64) (w : World) : (Instr.makeSlice 46 (.int .i64 (n : Int)) (.int .i64 (n : Int))).run Tryz.prog w = .ok (.slice (some ⟨w.heap.size, 0, none⟩) n n) (w.alloc (.cells (ints (List.replicate n 0)).toArray 3)) := by
  obtain ⟨i, hi, hz0, hz1, hz2⟩ := info_parts int_info
  have := run_make (P := Tryz.prog) w 46 3 i (.int .i64 0) Tryz.underlying46 hi hz0 .i64 .i64 n n (by omega) (Int.le_refl _) (by rw [hz2]; omega) (by omega)
  rw [this, hz1]
  have e : madeCells #[.int .i64 0] n = (ints (List.replicate n 0)).toArray := by
    apply Array.ext'
    rw [toList_madeCells_one]
    simp [ints]
  simp [Value.cells, e]

end Go.Proofs.YticbnckikkdknaaGreatDoor.Sk

namespace Go.Proofs.YticbnckikkdknaaGreatDoor
set_option linter.unusedVariables false
set_option linter.unusedSimpArgs false
set_option maxRecDepth 100000
open Go.RowKit

/-- A marker at work, as a value. -/
abbrev mgV (p T n o room : Nat) (gf : Value) (q : Nat) : Value := .agg #[.iface 31 (.pointer (some ⟨p, 0, none⟩)), .int .i64 T, .int .i64 0, .int .i64 n, .int .u8 o, .int .i64 room, gf, .pointer (some ⟨q, 0, none⟩)]
/-- The words, once these places are marked. -/
def markL (H : List Int) (M : Nat → Bool) : List Int := (List.range H.length).map fun k => if M k then H.getD k 0 + 16 else H.getD k 0
theorem markL_len (H : List Int) (M : Nat → Bool) : (markL H M).length = H.length := by simp [markL]
theorem markL_get (H : List Int) (M : Nat → Bool) (k : Nat) (hk : k < H.length) : (markL H M).getD k 0 = if M k then H.getD k 0 + 16 else H.getD k 0 := by
  unfold markL
  rw [List.getD_eq_getElem?_getD, List.getElem?_map, List.getElem?_range hk]
  rfl
theorem set7_row {w : World} {b : Nat} {t : TypeId} {a0 a1 a2 a3 a4 a5 a6 : Value} (h : w.heap[b]? = some (.cells #[a0, a1, a2, a3, a4, a5, a6] t (0, 0))) (v0 v1 v2 v3 v4 v5 v6 : Value) :
    (((((((w.setCell ⟨b, 0, none⟩ v0).setCell ⟨b, 1, none⟩ v1).setCell ⟨b, 2, none⟩ v2).setCell ⟨b, 3, none⟩ v3).setCell ⟨b, 4, none⟩ v4).setCell ⟨b, 5, none⟩ v5).setCell ⟨b, 6, none⟩ v6).heap[b]? = some (.cells #[v0, v1, v2, v3, v4, v5, v6] t (0, 0)) := by
  have h0 : (w.setCell ⟨b, 0, none⟩ v0).heap[b]? = some (.cells #[v0, a1, a2, a3, a4, a5, a6] t (0, 0)) := by rw [heap_setCell_same _ _ 0 _ _ v0 h]; rfl
  have h1 : ((w.setCell ⟨b, 0, none⟩ v0).setCell ⟨b, 1, none⟩ v1).heap[b]? = some (.cells #[v0, v1, a2, a3, a4, a5, a6] t (0, 0)) := by rw [heap_setCell_same _ _ 1 _ _ v1 h0]; rfl
  have h2 : (((w.setCell ⟨b, 0, none⟩ v0).setCell ⟨b, 1, none⟩ v1).setCell ⟨b, 2, none⟩ v2).heap[b]? = some (.cells #[v0, v1, v2, a3, a4, a5, a6] t (0, 0)) := by rw [heap_setCell_same _ _ 2 _ _ v2 h1]; rfl
  have h3 : ((((w.setCell ⟨b, 0, none⟩ v0).setCell ⟨b, 1, none⟩ v1).setCell ⟨b, 2, none⟩ v2).setCell ⟨b, 3, none⟩ v3).heap[b]? = some (.cells #[v0, v1, v2, v3, a4, a5, a6] t (0, 0)) := by rw [heap_setCell_same _ _ 3 _ _ v3 h2]; rfl
  have h4 : (((((w.setCell ⟨b, 0, none⟩ v0).setCell ⟨b, 1, none⟩ v1).setCell ⟨b, 2, none⟩ v2).setCell ⟨b, 3, none⟩ v3).setCell ⟨b, 4, none⟩ v4).heap[b]? = some (.cells #[v0, v1, v2, v3, v4, a5, a6] t (0, 0)) := by rw [heap_setCell_same _ _ 4 _ _ v4 h3]; rfl
  have h5 : ((((((w.setCell ⟨b, 0, none⟩ v0).setCell ⟨b, 1, none⟩ v1).setCell ⟨b, 2, none⟩ v2).setCell ⟨b, 3, none⟩ v3).setCell ⟨b, 4, none⟩ v4).setCell ⟨b, 5, none⟩ v5).heap[b]? = some (.cells #[v0, v1, v2, v3, v4, v5, a6] t (0, 0)) := by rw [heap_setCell_same _ _ 5 _ _ v5 h4]; rfl
  have h6 : (((((((w.setCell ⟨b, 0, none⟩ v0).setCell ⟨b, 1, none⟩ v1).setCell ⟨b, 2, none⟩ v2).setCell ⟨b, 3, none⟩ v3).setCell ⟨b, 4, none⟩ v4).setCell ⟨b, 5, none⟩ v5).setCell ⟨b, 6, none⟩ v6).heap[b]? = some (.cells #[v0, v1, v2, v3, v4, v5, v6] t (0, 0)) := by rw [heap_setCell_same _ _ 6 _ _ v6 h5]; rfl
  exact h6
theorem set7_kp {w w0 : World} {b : Nat} {S : List Nat} (v0 v1 v2 v3 v4 v5 v6 : Value) (k : Kp S w0 w) (hb : w0.heap.size ≤ b) :
    Kp S w0 (((((((w.setCell ⟨b, 0, none⟩ v0).setCell ⟨b, 1, none⟩ v1).setCell ⟨b, 2, none⟩ v2).setCell ⟨b, 3, none⟩ v3).setCell ⟨b, 4, none⟩ v4).setCell ⟨b, 5, none⟩ v5).setCell ⟨b, 6, none⟩ v6) :=
  ((((((k.setCell (.inr hb) _).setCell (.inr hb) _).setCell (.inr hb) _).setCell (.inr hb) _).setCell (.inr hb) _).setCell (.inr hb) _).setCell (.inr hb) _

section
variable {T n p r q ro o room t : Nat} {gf : Value} {H : List Int} {w w' : World}
abbrev hp7 (k c o r s : Nat) (m : Bool) : Array Value := #[.int .u8 k, .int .u8 c, .bool false, .bool m, .int .u8 o, .int .u8 r, .int .u8 s]
set_option maxHeartbeats 4000000 in
/-- A header is read. -/
theorem head_is (h : Hw T 0 n p r H t w) (ht : t ≤ 900000000000) (a : Nat) (ha : a < H.length) (k c o' rf sz : Nat) (m : Bool) (hx : H.getD a 0 = Wd.wordI k c o' rf sz false m) (hm : Wd.mayB k c o' rf sz false m = true) :
    Calls Tryz.prog 63 #[mgV p T n o room gf q, .int .i64 a] w fun e w' => e = .returned (.agg (hp7 k c o' rf sz m)) ∧ Hw T 0 n p r H (t + 1) w' ∧ Kp [p, r] w w' := by
  have hp := Wd.parts_of_word k c o' rf sz false m (by omega) (by omega) (by omega) (by omega) (by omega) hm
  have hl := Wd.word_lt k c o' rf sz false m (by omega) (by omega) (by omega) (by omega) (by omega) hm
  obtain ⟨e1, e2, e3, e4, e5, e6, e7⟩ := hp
  have htk := fun wq => Wd.take_some (Wd.wordI k c o' rf sz false m) wq hl.1 (by simp only [Wd.takeB, Bool.and_eq_true, decide_eq_true_eq]; refine ⟨hl.2, ?_⟩; rw [e1, e2, e3, e4, e5, e6, e7]; exact hm)
  rw [e1, e2, e3, e4, e5, e6, e7] at htk
  clear e1 e2 e3 e4 e5 e6 e7
  have HTk := Lib.hid htk
  have hlt := h.lt
  obtain ⟨w1, hw1⟩ : ∃ w1, w1 = (w.alloc (.cells #[.iface 31 (.pointer (some ⟨p, 0, none⟩)), .int .i64 T, .int .i64 0, .int .i64 n, .int .u8 o, .int .i64 room, gf, .pointer (some ⟨q, 0, none⟩)] 95)).alloc (.cells #[.int .u8 0, .int .u8 0, .bool false, .bool false, .int .u8 0, .int .u8 0, .int .u8 0] 59) := ⟨_, rfl⟩
  have kb : Kp [] w w1 := by rw [hw1]; exact ((Kp.refl _ _).alloc _).alloc _
  have r0 : w1.heap[w.heap.size]? = some (.cells #[.iface 31 (.pointer (some ⟨p, 0, none⟩)), .int .i64 T, .int .i64 0, .int .i64 n, .int .u8 o, .int .i64 room, gf, .pointer (some ⟨q, 0, none⟩)] 95 (0, 0)) := by rw [hw1]; exact heap_alloc2_old _ _ _
  have r1 : w1.heap[w.heap.size + 1]? = some (.cells #[.int .u8 0, .int .u8 0, .bool false, .bool false, .int .u8 0, .int .u8 0, .int .u8 0] 59 (0, 0)) := by
    rw [hw1]
    have := heap_alloc_new (w.alloc (.cells #[.iface 31 (.pointer (some ⟨p, 0, none⟩)), .int .i64 T, .int .i64 0, .int .i64 n, .int .u8 o, .int .i64 room, gf, .pointer (some ⟨q, 0, none⟩)] 95)) (.cells #[.int .u8 0, .int .u8 0, .bool false, .bool false, .int .u8 0, .int .u8 0, .int .u8 0] 59)
    rw [World.size_alloc] at this
    exact this
  have HRd := Lib.hid (rd_word (h.on kb) ht a ha (a : Int) _ rfl hx)
  have c0 := (cell_of_row r0 0).trans (show _ = some (.iface 31 (.pointer (some ⟨p, 0, none⟩))) from rfl)
  have HB := Lib.hid (And.intro kb (And.intro r1 hlt))
  obtain ⟨X, hX⟩ : ∃ X, X = Wd.wordI k c o' rf sz false m := ⟨_, rfl⟩
  rw [← hX] at HRd HTk
  clear htk h hm hl hx kb hX r0 r1 hlt
  go_enter Tryz.func63, Tryz.ntmps63
  go_upto_region 1 with (fail)
  rw [← hw1]
  clear hw1
  go_wp2_with fail
  refine HRd.out.mono ?_
  rintro e w2 ⟨rfl, h2, k2⟩
  have H2 := Lib.hid (And.intro h2 k2)
  clear h2 k2 c0
  go_wp2_with fail
  refine (HTk.out w2).mono ?_
  rintro e w3 ⟨rfl, k3⟩
  have k3 := kp_of_below k3
  have hz : w.heap.size + 1 < w2.heap.size := by
    have := lt_of_block HB.out.2.1
    have := H2.out.2.size
    omega
  have r1 := k3.row (by simp) (H2.out.2.row (by have := HB.out.2.2; simp; omega) HB.out.2.1)
  have ka : Kp [] w3 (w3.alloc (.cells #[.int .u8 k, .int .u8 c, .bool false, .bool m, .int .u8 o', .int .u8 rf, .int .u8 sz] 59)) := (Kp.refl _ _).alloc _
  have r2 := ka.row (by simp) r1
  have H3 := Lib.hid (And.intro k3 (And.intro ka r2))
  have z0 := (cell_of_row r2 0).trans (show _ = some (.int .u8 0) from rfl)
  have z1 := (cell_of_row r2 1).trans (show _ = some (.int .u8 0) from rfl)
  have z2 := (cell_of_row r2 2).trans (show _ = some (.bool false) from rfl)
  have z3 := (cell_of_row r2 3).trans (show _ = some (.bool false) from rfl)
  have z4 := (cell_of_row r2 4).trans (show _ = some (.int .u8 0) from rfl)
  have z5 := (cell_of_row r2 5).trans (show _ = some (.int .u8 0) from rfl)
  have z6 := (cell_of_row r2 6).trans (show _ = some (.int .u8 0) from rfl)
  have f0 := free_of_row r2 0
  have f1 := free_of_row r2 1
  have f2 := free_of_row r2 2
  have f3 := free_of_row r2 3
  have f4 := free_of_row r2 4
  have f5 := free_of_row r2 5
  have f6 := free_of_row r2 6
  clear k3 r1 ka r2 hz
  go_wp2_with fail
  refine bodyPost_row rfl (w.heap.size + 1) 59 (hp7 k c o' rf sz m) (0, 0) _ rfl rfl (set7_row H3.out.2.2 _ _ _ _ _ _ _) Tryz.underlying59 rfl (by kernel_rfl) ⟨rfl, ?_, set7_kp _ _ _ _ _ _ _ ((((HB.out.1.mono (by simp)).trans H2.out.2).trans (H3.out.1.mono (by simp))).trans (H3.out.2.1.mono (by simp))) (by omega)⟩
  have hlt := HB.out.2.2
  refine ((H2.out.1.on H3.out.1).on H3.out.2.1).keep (S := [w.heap.size + 1]) (((((((((Kp.refl _ _).setCell (.inl (by simp)) _).setCell (.inl (by simp)) _).setCell (.inl (by simp)) _).setCell (.inl (by simp)) _).setCell (.inl (by simp)) _).setCell (.inl (by simp)) _).setCell (.inl (by simp)) _)) (by simp; omega) (by simp; omega)
end
end Go.Proofs.YticbnckikkdknaaGreatDoor

namespace Go.Proofs.YticbnckikkdknaaGreatDoor
set_option linter.unusedVariables false
set_option linter.unusedSimpArgs false
set_option maxRecDepth 100000
open Go.RowKit

/-- The graph that a heap is to an owner. -/
def gpOf (O : Obs) (H : List Int) (o : Nat) (tel : Bool) : Gp where
  own := fun x => (O x).isSome && decide (H.getD x 0 % 4 = 2) && decide (H.getD x 0 / 32 % 64 = (o : Int))
  glb := fun x => (O x).isSome && decide (H.getD x 0 % 4 = 3)
  ref := fun x => (List.range (H.getD x 0 / 2048 % 128).toNat).map fun k => (H.getD (x + 1 + k) 0).toNat
  tel := tel
section
variable {T n p r q ro o room t : Nat} {gf : Value} {H : List Int} {w w' : World} {Rs : Nat → Nat → List Int} {O : Obs} {V : Nat → Int} {F : Nat → Nat → Int} {M : Nat → Bool} {tel : Bool}
theorem wordI_mark (o rf sz : Nat) : Wd.wordI 2 0 o rf sz false true = Wd.wordI 2 0 o rf sz false false + 16 := by
  unfold Wd.wordI Wd.bitI
  simp only [Bool.false_eq_true, if_false, if_true]
  omega
/-- What lies at a place. -/
theorem Gd.at (h : Gd T n H Rs O V F) (hT : T ≤ 64) (hM : ∀ x, M x = true → (gpOf O H o tel).own x = true) {y o' rf sz : Nat} (hy : O y = some (o', rf, sz)) :
    ∃ k c : Nat, y < H.length ∧ o' < T ∧ rf ≤ sz ∧ sz ≤ 95 ∧ (markL H M).getD y 0 = Wd.wordI k c o' rf sz false (M y) ∧ Wd.mayB k c o' rf sz false (M y) = true ∧ (gpOf O H o tel).own y = (decide (k = 2) && decide (o' = o)) ∧ (gpOf O H o tel).glb y = decide (k = 3) ∧ k ≤ 3 ∧ (k = 2 → c = 0) ∧ c ≤ 1 ∧ (M y = true → k = 2) ∧ H.getD y 0 = Wd.wordI k c o' rf sz false false := by
  have hin := h.hp.inn hy
  obtain ⟨k, c, e, hm, hk⟩ := h.word hT hy
  have hp := Wd.parts_of_word k c o' rf sz false false (by omega) (by omega) (by omega) (by omega) (by omega) hm
  obtain ⟨e1, e2, e3, e4, e5, e6, e7⟩ := hp
  have hown : (gpOf O H o tel).own y = (decide (k = 2) && decide (o' = o)) := by
    simp only [gpOf, hy, Option.isSome_some, Bool.true_and]
    rw [e, e1, e3]
    congr 1
    · exact decide_eq_decide.2 (by omega)
    · exact decide_eq_decide.2 (by omega)
  have hglb : (gpOf O H o tel).glb y = decide (k = 3) := by
    simp only [gpOf, hy, Option.isSome_some, Bool.true_and]
    rw [e, e1]
    exact decide_eq_decide.2 (by omega)
  refine ⟨k, c, by omega, hin.2.2.1, hin.2.2.2.1, hin.2.2.2.2, ?_, ?_, hown, hglb, by omega, by omega, by omega, ?_, e⟩
  · rw [markL_get _ _ _ (by omega)]
    cases hMy : M y with
    | false => simp only [Bool.false_eq_true, if_false]; exact e
    | true =>
      have := hM y hMy
      rw [hown] at this
      simp only [Bool.and_eq_true, decide_eq_true_eq] at this
      have hc0 : c = 0 := by omega
      simp only [if_true]
      rw [e, this.1, hc0]
      exact (wordI_mark o' rf sz).symm
  · cases hMy : M y with
    | false => exact hm
    | true =>
      have := hM y hMy
      rw [hown] at this
      simp only [Bool.and_eq_true, decide_eq_true_eq] at this
      rw [Wd.mayB_iff]
      simp; omega
  · intro hMy
    have := hM y hMy
    rw [hown] at this
    simp only [Bool.and_eq_true, decide_eq_true_eq] at this
    exact this.1

/-- Who is told. -/
structure TlOk (p r q ro : Nat) (Sg : List Nat) (gf : Value) (tel : Bool) (TL : (Nat → Bool) → World → Prop) : Prop where
  keep : ∀ tl S w w', (∀ g ∈ S, g ∉ Sg) → Kp S w w' → TL tl w → TL tl w'
  no : tel = false → gf = .nilFunc
  tell : tel = true → ∃ g cap, gf = .func (.func g) #[] cap ∧ (∀ (x : Value) (w : World), (callFunc g (#[x] ++ cap)).run Tryz.prog w = .ok (.enter g (#[x] ++ cap)) w) ∧ ∀ tl w (a : Nat), TL tl w → a ≤ 5000 → Calls Tryz.prog g (#[.int .i64 a] ++ cap) w fun e w' => e = .returned (.tuple #[]) ∧ TL (fun z => tl z || decide (z = a)) w' ∧ Kp Sg w w'
  sg : p ∉ Sg ∧ r ∉ Sg ∧ q ∉ Sg ∧ ro ∉ Sg
/-- A marker at work: the arena, the stack, who was told. -/
structure Mrk (T n p r q ro room : Nat) (Sg : List Nat) (H : List Int) (TL : (Nat → Bool) → World → Prop) (X : Mkg) (t : Nat) (w : World) : Prop where
  hw : ∃ t0, t0 ≤ t ∧ Hw T 0 n p r (markL H X.M) t0 w
  sk : Sk.Sk w q ro room (X.st.map Int.ofNat) X.ov
  tl : TL X.tl w
  ne : q ≠ p ∧ q ≠ r ∧ ro ≠ p ∧ ro ≠ r
  lt : ∀ g ∈ p :: r :: q :: ro :: Sg, g < w.heap.size
theorem Mrk.on {Sg : List Nat} {TL : (Nat → Bool) → World → Prop} {X : Mkg} (hTL : TlOk p r q ro Sg gf tel TL) (h : Mrk T n p r q ro room Sg H TL X t w) (k : Kp [] w w') : Mrk T n p r q ro room Sg H TL X t w' := by
  obtain ⟨t0, h0, h1⟩ := h.hw
  exact ⟨⟨t0, h0, h1.on k⟩, h.sk.keep0 k, hTL.keep _ [] _ _ (by simp) k h.tl, h.ne, fun g hg => Nat.lt_of_lt_of_le (h.lt g hg) k.size⟩
theorem Mrk.more {Sg : List Nat} {TL : (Nat → Bool) → World → Prop} {X : Mkg} (h : Mrk T n p r q ro room Sg H TL X t w) {t' : Nat} (ht : t ≤ t') : Mrk T n p r q ro room Sg H TL X t' w := by
  obtain ⟨t0, h0, h1⟩ := h.hw
  exact ⟨⟨t0, by omega, h1⟩, h.sk, h.tl, h.ne, h.lt⟩
end
end Go.Proofs.YticbnckikkdknaaGreatDoor

namespace Go.Proofs.YticbnckikkdknaaGreatDoor
set_option linter.unusedVariables false
set_option linter.unusedSimpArgs false
set_option maxRecDepth 100000
open Go.RowKit
/-- A marker's box. -/
def BoxM (p T n o room : Nat) (gf : Value) (q b : Nat) (wx : World) : Prop :=
  wx.cell? ⟨b, 0, none⟩ = some (.iface 31 (.pointer (some ⟨p, 0, none⟩))) ∧ wx.cell? ⟨b, 1, none⟩ = some (.int .i64 T) ∧ wx.cell? ⟨b, 2, none⟩ = some (.int .i64 0) ∧ wx.cell? ⟨b, 3, none⟩ = some (.int .i64 n) ∧ wx.cell? ⟨b, 4, none⟩ = some (.int .u8 o) ∧ wx.cell? ⟨b, 5, none⟩ = some (.int .i64 room) ∧ wx.cell? ⟨b, 6, none⟩ = some gf ∧ wx.cell? ⟨b, 7, none⟩ = some (.pointer (some ⟨q, 0, none⟩))
theorem BoxM.of {p T n o room q b : Nat} {gf : Value} {w : World} (h : w.heap[b]? = some (.cells #[.iface 31 (.pointer (some ⟨p, 0, none⟩)), .int .i64 T, .int .i64 0, .int .i64 n, .int .u8 o, .int .i64 room, gf, .pointer (some ⟨q, 0, none⟩)] 95 (0, 0))) : BoxM p T n o room gf q b w :=
  ⟨(cell_of_row h 0).trans rfl, (cell_of_row h 1).trans rfl, (cell_of_row h 2).trans rfl, (cell_of_row h 3).trans rfl, (cell_of_row h 4).trans rfl, (cell_of_row h 5).trans rfl, (cell_of_row h 6).trans rfl, (cell_of_row h 7).trans rfl⟩
theorem BoxM.keep {p T n o room q b : Nat} {gf : Value} {w w' : World} {S : List Nat} (h : BoxM p T n o room gf q b w) (k : Kp S w w') (hb : b ∉ S) : BoxM p T n o room gf q b w' := by
  obtain ⟨a0, a1, a2, a3, a4, a5, a6, a7⟩ := h
  exact ⟨kp_cell k hb a0, kp_cell k hb a1, kp_cell k hb a2, kp_cell k hb a3, kp_cell k hb a4, kp_cell k hb a5, kp_cell k hb a6, kp_cell k hb a7⟩
section
variable {T n p r q ro o room t : Nat} {gf : Value} {H : List Int} {w w' : World} {Rs : Nat → Nat → List Int} {O : Obs} {V : Nat → Int} {F : Nat → Nat → Int} {tel : Bool} {Sg : List Nat} {TL : (Nat → Bool) → World → Prop} {X : Mkg} {G : Gp}
/-- Only own ones are marked. -/
def OwnM (G : Gp) (X : Mkg) : Prop := ∀ x, X.M x = true → G.own x = true
theorem tr_own (h : OwnM G X) (y : Nat) : OwnM G (trS G room X y) := by
  intro x hx
  unfold trS at hx
  split at hx
  · exact h x hx
  · split at hx
    · exact h x hx
    · split at hx
      · rename_i ho
        simp only [Bool.or_eq_true, decide_eq_true_eq] at hx
        rcases hx with hx | rfl
        · exact h x hx
        · exact (Bool.and_eq_true _ _ ▸ ho).1
      · exact h x hx
/-- A field of an object. -/
theorem Gd.fld (h : Gd T n H Rs O V F) (hT : T ≤ 64) (hlen : H.length ≤ 4096) (hM : OwnM (gpOf O H o tel) X) {x o' rf sz k : Nat} (hx : O x = some (o', rf, sz)) (hk : k < sz) : ∃ y : Nat, (markL H X.M).getD (x + 1 + k) 0 = y ∧ H.getD (x + 1 + k) 0 = y ∧ (y = 0 ∨ (O y).isSome = true) ∧ y < 5000 := by
  have hin := h.hp.inn hx
  have hf := h.hp.fld x o' rf sz hx k hk
  have hN := h.hp.len
  have hm : X.M (x + 1 + k) = false := by
    cases hc : X.M (x + 1 + k) with
    | false => rfl
    | true =>
      have := hM _ hc
      simp only [gpOf, Bool.and_eq_true] at this
      cases hO : O (x + 1 + k) with
      | none => rw [hO] at this; simp at this
      | some z =>
        obtain ⟨o2, r2, s2⟩ := z
        obtain ⟨H0, h0, _⟩ := h.hp.base
        rcases h0.apart hx hO (by omega) with q | q <;> omega
  have hm' := markL_get H X.M (x + 1 + k) (by omega)
  rw [hm] at hm'
  simp only [Bool.false_eq_true, if_false] at hm'
  rcases h.fk x o' rf sz hx k hk with e | ⟨y, e, hy⟩
  · exact ⟨0, by rw [hm', hf, e]; rfl, by rw [hf, e]; rfl, .inl rfl, by omega⟩
  · refine ⟨y, by rw [hm', hf, e], by rw [hf, e], .inr hy, ?_⟩
    cases hO : O y with
    | none => rw [hO] at hy; cases hy
    | some z =>
      obtain ⟨o2, r2, s2⟩ := z
      have := h.hp.inn hO
      omega
/-- A word is read. -/
theorem Mrk.read (h : Mrk T n p r q ro room Sg H TL X t w) (hTL : TlOk p r q ro Sg gf tel TL) (ht : t ≤ 800000000000) (a : Nat) (ha : a < H.length) (x : Int) (hx : (markL H X.M).getD a 0 = x) :
    Calls Tryz.prog 41 #[.pointer (some ⟨p, 0, none⟩), .int .i64 a] w fun e w' => e = .returned (.int .u64 x) ∧ Mrk T n p r q ro room Sg H TL X (t + 1) w' ∧ Kp (p :: r :: q :: ro :: Sg) w w' := by
  obtain ⟨t0, h0, h1⟩ := h.hw
  refine (rd_word h1 (by omega) a (by rw [markL_len]; exact ha) (a : Int) x rfl hx).mono ?_
  rintro e w' ⟨rfl, h2, k⟩
  have hne := h.ne
  have sg := hTL.sg
  exact ⟨rfl, ⟨⟨t0 + 1, by omega, h2⟩, h.sk.keep k (by simp; omega) (by simp; omega), hTL.keep _ _ _ _ (by intro g hg; simp at hg; rcases hg with rfl | rfl; exact sg.1; exact sg.2.1) k h.tl, h.ne, fun g hg => Nat.lt_of_lt_of_le (h.lt g hg) k.size⟩, k.mono fun g hg _ => by simp at hg ⊢; omega⟩
end
end Go.Proofs.YticbnckikkdknaaGreatDoor

namespace Go.Proofs.YticbnckikkdknaaGreatDoor
set_option linter.unusedVariables false
set_option linter.unusedSimpArgs false
set_option maxRecDepth 100000
open Go.RowKit
section
variable {T n p r q ro o room t N : Nat} {gf : Value} {H : List Int} {w w' : World} {Rs : Nat → Nat → List Int} {O : Obs} {V : Nat → Int} {F : Nat → Nat → Int} {tel : Bool} {Sg : List Nat} {TL : (Nat → Bool) → World → Prop} {X : Mkg} {G : Gp}
theorem cnt_less (f g : Nat → Bool) (y : Nat) (hy : f y = true) (hg : ∀ x, g x = (f x && !decide (x = y))) : ∀ N, (List.range N).countP g + (if y < N then 1 else 0) = (List.range N).countP f
  | 0 => rfl
  | N + 1 => by
    have ih := cnt_less f g y hy hg N
    rw [List.range_succ, List.countP_append, List.countP_append, List.countP_singleton, List.countP_singleton, hg N]
    by_cases e : N = y
    · subst e
      rw [if_neg (by omega)] at ih
      simp [hy]; omega
    · have : decide (N = y) = false := by simp [e]
      rw [this]
      simp only [Bool.not_false, Bool.and_true]
      have e1 : (if y < N + 1 then 1 else 0) = (if y < N then 1 else 0) := by split <;> split <;> omega
      rw [e1]
      generalize (if y < N then 1 else 0) = z at ih ⊢
      generalize (if f N = true then 1 else 0) = z2
      omega
/-- Only own ones are marked; what waits is marked. -/
structure Wi (G : Gp) (X : Mkg) : Prop where
  own : OwnM G X
  st : ∀ x ∈ X.st, X.M x = true
theorem Wi.tr (h : Wi G X) (y : Nat) : Wi G (trS G room X y) := by
  refine ⟨tr_own h.own y, ?_⟩
  unfold trS
  split
  · exact h.st
  · split
    · exact h.st
    · split
      · intro x hx
        simp only at hx ⊢
        split at hx
        · rcases List.mem_append.1 hx with hx | hx
          · simp [h.st x hx]
          · simp at hx; simp [hx]
        · simp [h.st x hx]
      · exact h.st
theorem Wi.lo (l : List Nat) : ∀ {X : Mkg}, Wi G X → Wi G (loS G room X l) := by
  induction l with
  | nil => exact fun h => h
  | cons y l ih => exact fun h => ih (h.tr y)
theorem Wi.pop (h : Wi G X) {st : List Nat} (hs : ∀ x ∈ st, x ∈ X.st) : Wi G { X with st := st } := ⟨h.own, fun x hx => h.st x (hs x hx)⟩
theorem Mrk.pop (h : Mrk T n p r q ro room Sg H TL X t w) (hTL : TlOk p r q ro Sg gf tel TL) :
    Calls Tryz.prog 67 #[.pointer (some ⟨q, 0, none⟩)] w fun e w' => e = .returned (.tuple #[.int .i64 (Sk.popX (X.st.map Int.ofNat)), .bool (Sk.popB (X.st.map Int.ofNat))]) ∧ Mrk T n p r q ro room Sg H TL { X with st := X.st.dropLast } t w' ∧ Kp (p :: r :: q :: ro :: Sg) w w' := by
  refine (Sk.spop_any w q ro room (X.st.map Int.ofNat) X.ov h.sk).mono ?_
  rintro e w' ⟨rfl, hs, k⟩
  obtain ⟨t0, h0, h1⟩ := h.hw
  have hne := h.ne
  have sg := hTL.sg
  refine ⟨rfl, ⟨⟨t0, h0, h1.keep k (by simp; omega) (by simp; omega)⟩, by rw [← List.map_dropLast] at hs; exact hs, hTL.keep _ _ _ _ (by intro g hg; simp at hg; rcases hg with rfl | rfl; exact sg.2.2.1; exact sg.2.2.2) k h.tl, h.ne, fun g hg => Nat.lt_of_lt_of_le (h.lt g hg) k.size⟩, k.mono fun g hg _ => by simp at hg ⊢; omega⟩
/-- A header of an object is read. -/
theorem Mrk.head (h : Mrk T n p r q ro room Sg H TL X t w) (hG : Gd T n H Rs O V F) (hT : T ≤ 64) (hTL : TlOk p r q ro Sg gf tel TL) (hM : OwnM (gpOf O H o tel) X) (ht : t ≤ 800000000000) {x o' rf sz : Nat} (hx : O x = some (o', rf, sz)) :
    ∃ k c : Nat, k ≤ 3 ∧ (gpOf O H o tel).own x = (decide (k = 2) && decide (o' = o)) ∧ Calls Tryz.prog 63 #[mgV p T n o room gf q, .int .i64 x] w fun e w' => e = .returned (.agg (hp7 k c o' rf sz (X.M x))) ∧ Mrk T n p r q ro room Sg H TL X (t + 1) w' ∧ Kp (p :: r :: q :: ro :: Sg) w w' := by
  obtain ⟨k, c, hyl, ho', hrf, hsz, hw0, hmay, hown, hglb, hk3, hkc, hc1, hMk, hH⟩ := hG.at hT hM hx
  refine ⟨k, c, hk3, hown, ?_⟩
  obtain ⟨t0, h0, h1⟩ := h.hw
  refine (head_is h1 (by omega) x (by rw [markL_len]; exact hyl) k c o' rf sz (X.M x) hw0 hmay).mono ?_
  rintro e w' ⟨rfl, h2, k⟩
  have hne := h.ne
  have sg := hTL.sg
  exact ⟨rfl, ⟨⟨t0 + 1, by omega, h2⟩, h.sk.keep k (by simp; omega) (by simp; omega), hTL.keep _ _ _ _ (by intro g hg; simp at hg; rcases hg with rfl | rfl; exact sg.1; exact sg.2.1) k h.tl, h.ne, fun g hg => Nat.lt_of_lt_of_le (h.lt g hg) k.size⟩, k.mono fun g hg _ => by simp at hg ⊢; omega⟩
end
end Go.Proofs.YticbnckikkdknaaGreatDoor

namespace Go.Proofs.YticbnckikkdknaaGreatDoor
set_option linter.unusedVariables false
set_option linter.unusedSimpArgs false
set_option maxRecDepth 100000
open Go.RowKit
/-- How many cells of the owner, of how many words. -/
def cellN (T o : Nat) (H : List Int) (b : Nat) : Nat × Nat :=
  if eo (en T H b) = (o : Int) then (if ek (en T H b) = 1 then ((Cl.clC (ec (en T H b))).toNat, (Cl.wdC (ec (en T H b))).toNat) else if ek (en T H b) = 2 then (1, 32) else (0, 0)) else (0, 0)
section
variable {T n p r q ro o room t N : Nat} {gf : Value} {H : List Int} {w w' : World} {Rs : Nat → Nat → List Int} {O : Obs} {V : Nat → Int} {F : Nat → Nat → Int} {tel : Bool} {Sg : List Nat} {TL : (Nat → Bool) → World → Prop} {X : Mkg} {G : Gp}
theorem ent_parts {k c r' o' : Nat} (h : Tb.mayE k c r' o' = true) : ek (Tb.wordE k c r' o') = k ∧ ec (Tb.wordE k c r' o') = c ∧ er (Tb.wordE k c r' o') = r' ∧ eo (Tb.wordE k c r' o') = o' := by
  have hm := Tb.mayE_iff.1 h
  have e1 : Tb.wordE k c r' o' % 8 = k := by unfold Tb.wordE; omega
  have e2 : Tb.wordE k c r' o' / 8 % 4 = c := by unfold Tb.wordE; omega
  have e3 : Tb.wordE k c r' o' / 32 % 4 = r' := by unfold Tb.wordE; omega
  have e4 : Tb.wordE k c r' o' / 128 % 64 = o' := by unfold Tb.wordE; omega
  have ht : Tb.takeE (Tb.wordE k c r' o') = true := by
    simp only [Tb.takeE, Bool.and_eq_true, decide_eq_true_eq]
    refine ⟨by unfold Tb.wordE; omega, ?_⟩
    rw [e1, e2, e3, e4]; exact h
  simp only [ek, ec, er, eo, if_pos ht]
  exact ⟨e1, e2, e3, e4⟩
theorem cellN_small {c o' b : Nat} (hc : c < 4) (ho : o' < 64) (he : en T H b = eS c o') : cellN T o H b = if o' = o then ((Cl.clC c).toNat, (Cl.wdC c).toNat) else (0, 0) := by
  obtain ⟨e1, e2, e3, e4⟩ := ent_parts (k := 1) (c := c) (r' := 0) (o' := o') (by rw [Tb.mayE_iff]; omega)
  unfold cellN
  rw [he]
  unfold eS
  have e1' : ek (Tb.wordE 1 (c : Int) 0 (o' : Int)) = 1 := e1
  have e2' : ec (Tb.wordE 1 (c : Int) 0 (o' : Int)) = c := e2
  have e4' : eo (Tb.wordE 1 (c : Int) 0 (o' : Int)) = o' := e4
  rw [e1', e2', e4']
  by_cases h : o' = o
  · rw [if_pos h, if_pos (by omega), if_pos rfl]
  · rw [if_neg h, if_neg (by omega)]
theorem cellN_large {run o' b : Nat} (h1 : 1 ≤ run) (h3 : run ≤ 3) (ho : o' < 64) (he : en T H b = eL run o') : cellN T o H b = if o' = o then (1, 32) else (0, 0) := by
  obtain ⟨e1, e2, e3, e4⟩ := ent_parts (k := 2) (c := 0) (r' := run) (o' := o') (by rw [Tb.mayE_iff]; omega)
  unfold cellN
  rw [he]
  unfold eL
  have e1' : ek (Tb.wordE 2 0 (run : Int) (o' : Int)) = 2 := e1
  have e4' : eo (Tb.wordE 2 0 (run : Int) (o' : Int)) = o' := e4
  rw [e1', e4']
  by_cases h : o' = o
  · rw [if_pos h, if_pos (by omega), if_neg (by omega), if_pos rfl]
  · rw [if_neg h, if_neg (by omega)]
theorem cellN_zero {b : Nat} (he : en T H b = 0) : cellN T o H b = (0, 0) := by
  have : ek (0 : Int) = 0 := by decide
  unfold cellN
  rw [he, this]
  split
  · rw [if_neg (by omega), if_neg (by omega)]
  · rfl
theorem cellN_three {b : Nat} (he : en T H b = 3) : cellN T o H b = (0, 0) := by
  have : ek (3 : Int) = 3 := by decide
  unfold cellN
  rw [he, this]
  split
  · rw [if_neg (by omega), if_neg (by omega)]
  · rfl
theorem Hp.cel (h : Hp T n H Rs O V F) : ∃ H0, Cel T n H0 Rs O ∧ (∀ b, b < n → en T H b = en T H0 b) ∧ H.length = H0.length ∧ ∀ k, (∀ x o rf sz, O x = some (o, rf, sz) → ¬ (x ≤ k ∧ k ≤ x + sz)) → H.getD k 0 = H0.getD k 0 := by
  obtain ⟨H0, h0, h1, h2⟩ := h.base
  refine ⟨H0, h0, fun b hb => h2 _ fun x o rf sz hx => ?_, h1, h2⟩
  have := (h0.inn hx).1
  unfold hd at this; omega
/-- What lies in a cell of the owner. -/
theorem Gd.cell (h : Gd T n H Rs O V F) (hT : T ≤ 64) {b i : Nat} (hb : b < n) (hi : i < (cellN T o H b).1) :
    (cellN T o H b).1 ≤ 16 ∧ (cellN T o H b).2 ≤ 32 ∧ hd T n b + i * (cellN T o H b).2 < H.length ∧ ((O (hd T n b + i * (cellN T o H b).2)).isSome = true ∨ (O (hd T n b + i * (cellN T o H b).2) = none ∧ H.getD (hd T n b + i * (cellN T o H b).2) 0 = lw o)) := by
  obtain ⟨H0, h0, hen, hlen, hw⟩ := h.hp.cel
  have hN := h0.len
  rcases h0.ent b hb with z | z | ⟨c', o', hc', ho', z, hz⟩ | ⟨r', o3, z1, z2, z3, z4, z5, ⟨rf3, sz3, z6⟩, z7⟩
  · rw [cellN_zero ((hen b hb).trans z)] at hi; omega
  · rw [cellN_three ((hen b hb).trans z)] at hi; omega
  · have hcn := cellN_small (T := T) (H := H) (o := o) hc' (by omega) ((hen b hb).trans z)
    rw [hcn] at hi ⊢
    by_cases ho : o' = o
    · subst ho
      rw [if_pos rfl] at hi ⊢
      simp only at hi ⊢
      have hp := pl_in (T := T) (n := n) (b := b) hc' hi
      have hwg := wd_ge hc'
      have e : hd T n b + i * (Cl.wdC c').toNat = pl T 0 n c' b i := by unfold hd pl; rw [Nat.mul_comm i]
      rw [e]
      refine ⟨by rcases wd_cl hc' with ⟨q1, q2⟩ | ⟨q1, q2⟩ | ⟨q1, q2⟩ | ⟨q1, q2⟩ <;> omega, by omega, by unfold hd at hp; omega, ?_⟩
      rcases hz i hi with ⟨rf, sz, hx⟩ | hx
      · rw [hx]; exact .inl rfl
      · obtain ⟨b', m', hb', hm', e', he', hO, hl⟩ := h0.lst o' ho' c' hc' _ hx
        have e2 : pl T 0 n c' b i = pl T 0 n c' b' m' := by exact_mod_cast e'
        rw [e2]
        refine .inr ⟨hO, ?_⟩
        rw [hw, hl]
        intro x o2 rf sz hx2 hin
        have hne : x ≠ pl T 0 n c' b' m' := fun e3 => by rw [e3, hO] at hx2; cases hx2
        rcases h0.apartL hb' hc' hm' he' hx2 hne with q | q <;> omega
    · rw [if_neg ho] at hi; exact absurd hi (Nat.not_lt_zero _)
  · have hcn := cellN_large (T := T) (H := H) (o := o) z1 z2 (by omega) ((hen b hb).trans z5)
    rw [hcn] at hi ⊢
    by_cases ho : o3 = o
    · rw [if_pos ho] at hi ⊢
      simp only at hi ⊢
      have : i = 0 := by omega
      subst this
      rw [Nat.zero_mul, Nat.add_zero, z6]
      exact ⟨by omega, by omega, by unfold hd; omega, .inl rfl⟩
    · rw [if_neg ho] at hi; exact absurd hi (Nat.not_lt_zero _)
end
end Go.Proofs.YticbnckikkdknaaGreatDoor

namespace Go.Proofs.YticbnckikkdknaaGreatDoor
set_option linter.unusedVariables false
set_option linter.unusedSimpArgs false
set_option maxRecDepth 100000
open Go.RowKit
/-- How many own ones are not marked. -/
def cntM (G : Gp) (N : Nat) (X : Mkg) : Nat := (List.range N).countP (fun x => G.own x && !X.M x)
/-- What overflowed has marked. -/
def Po (G : Gp) (N c0 : Nat) (X : Mkg) : Prop := cntM G N X ≤ c0 ∧ (X.ov = true → cntM G N X < c0)
section
variable {T n p r q ro o room t N c0 : Nat} {gf : Value} {H : List Int} {w w' : World} {Rs : Nat → Nat → List Int} {O : Obs} {V : Nat → Int} {F : Nat → Nat → Int} {tel : Bool} {Sg : List Nat} {TL : (Nat → Bool) → World → Prop} {X X' : Mkg} {G : Gp} {R : List Nat} {E : Nat → Prop}
theorem Po.tr (hN : ∀ y, G.own y = true → y < N) (h : Po G N c0 X) (y : Nat) : Po G N c0 (trS G room X y) := by
  unfold trS
  split
  · exact h
  · split
    · exact h
    · split
      · rename_i ho
        have hc := cnt_less (fun x => G.own x && !X.M x) (fun x => G.own x && !(X.M x || decide (x = y))) y ho (fun x => by cases G.own x <;> cases X.M x <;> simp) N
        rw [if_pos (hN y (Bool.and_eq_true _ _ ▸ ho).1)] at hc
        have h1 := h.1
        unfold Po cntM at *
        simp only
        exact ⟨by omega, fun _ => by omega⟩
      · exact h
theorem Po.lo (hN : ∀ y, G.own y = true → y < N) (l : List Nat) : ∀ {X : Mkg}, Po G N c0 X → Po G N c0 (loS G room X l) := by
  induction l with
  | nil => exact fun h => h
  | cons y l ih => exact fun h => ih (h.tr hN y)
/-- It had overflowed: all are excused, and searched. -/
theorem Ji.over (h : Ji G R E X) : Ji G R (fun _ => True) { X with ov := false } := ⟨h.mr, h.tl, h.st, fun x hx => by
  rcases h.dn x hx with d | d | d | d
  · exact .inl d
  · exact .inr (.inl d)
  · exact .inr (.inr (.inr trivial))
  · exact .inr (.inr (.inr trivial))⟩
theorem Mrk.over (h : Mrk T n p r q ro room Sg H TL X t w) (hTL : TlOk p r q ro Sg gf tel TL) :
    Calls Tryz.prog 36 #[.pointer (some ⟨q, 0, none⟩)] w fun e w' => e = .returned (.bool X.ov) ∧ Mrk T n p r q ro room Sg H TL { X with ov := false } t w' ∧ Kp (p :: r :: q :: ro :: Sg) w w' := by
  refine (Sk.sover_any w q ro room (X.st.map Int.ofNat) X.ov h.sk).mono ?_
  rintro e w' ⟨rfl, hs, k⟩
  obtain ⟨t0, h0, h1⟩ := h.hw
  have hne := h.ne
  have sg := hTL.sg
  exact ⟨rfl, ⟨⟨t0, h0, h1.keep k (by simp; omega) (by simp; omega)⟩, hs, hTL.keep _ _ _ _ (by intro g hg; simp at hg; rcases hg with rfl | rfl; exact sg.2.2.1; exact sg.2.2.2) k h.tl, h.ne, fun g hg => Nat.lt_of_lt_of_le (h.lt g hg) k.size⟩, k.mono fun g hg _ => by simp at hg ⊢; omega⟩
end
end Go.Proofs.YticbnckikkdknaaGreatDoor

namespace Go.Proofs.YticbnckikkdknaaGreatDoor
set_option linter.unusedVariables false
set_option linter.unusedSimpArgs false
set_option maxRecDepth 100000
open Go.RowKit

/-- Words over which the document's mark may be asked: objects have headers, and their references lead to objects, or nowhere. -/
structure Dw (O : Obs) (H : List Int) : Prop where
  tb : ∀ x, (O x).isSome = true → 0 < x ∧ x < H.length ∧ Wd.takeB (H.getD x 0) = true
  rf : ∀ x, (O x).isSome = true → ∀ q, q < (H.getD x 0 / 2048 % 128).toNat → x + 1 + q < H.length ∧ (H.getD (x + 1 + q) 0 = 0 ∨ ∃ y : Nat, H.getD (x + 1 + q) 0 = y ∧ (O y).isSome = true)

/-- A row of truths. -/
def mbls (B : List Bool) : Array Value := (B.map Value.bool).toArray
theorem mbls_set (B : List Bool) (i : Nat) (y : Bool) : (mbls B).setIfInBounds i (.bool y) = mbls (B.set i y) := by simp [mbls, List.map_set]
def MBl (w : World) (r : Nat) (B : List Bool) : Prop := w.heap[r]? = some (.cells (mbls B) 4 (0, 0))
theorem MBl.cell {w : World} {r : Nat} {B : List Bool} (h : MBl w r B) {i : Nat} (hi : i < B.length) : w.cell? ⟨r, i, none⟩ = some (.bool (B.getD i false)) := by
  rw [cell_of_row h]
  simp [mbls, List.getD, hi]
theorem MBl.free {w : World} {r : Nat} {B : List Bool} (h : MBl w r B) (i : Nat) : w.frozen? ⟨r, i, none⟩ = false := free_of_row h i
theorem MBl.keep {S : List Nat} {w w' : World} {r : Nat} {B : List Bool} (h : MBl w r B) (k : Kp S w w') (hr : r ∉ S) : MBl w' r B := k.row hr h
theorem MBl.set {w : World} {r : Nat} {B : List Bool} (h : MBl w r B) (i : Nat) (y : Bool) : MBl (w.setCell ⟨r, i, none⟩ (.bool y)) r (B.set i y) := by
  have := heap_setCell_same w r i _ _ (.bool y) h
  rw [mbls_set] at this
  exact this
theorem mgetD_set (B : List Bool) (i j : Nat) (h : i < B.length) : (B.set i true).getD j false = if j = i then true else B.getD j false := by
  simp only [List.getD]
  by_cases hj : j = i
  · subst hj
    rw [if_pos rfl, List.getElem?_set_self h]
    rfl
  · rw [if_neg hj, List.getElem?_set_ne (by omega)]
section
variable {Bz T n db dc : Nat} {H : List Int} {w w' : World} {O : Obs} {o : Nat} {tel : Bool}
/-- What an object's header says by value. -/
theorem Dw.own (hD : Dw O H) {y : Nat} (hy : (O y).isSome = true) {k o' : Int} (h : Wd.takeB (H.getD y 0) = true → k = H.getD y 0 % 4 ∧ o' = H.getD y 0 / 32 % 64) : (gpOf O H o tel).own y = (decide (k = 2) && decide (o' = o)) ∧ (gpOf O H o tel).glb y = decide (k = 3) := by
  obtain ⟨h1, h2⟩ := h (hD.tb y hy).2.2
  subst h1; subst h2
  simp [gpOf, hy]
theorem Rc.some {R : List Nat} {x : Nat} (h : Rc (gpOf O H o tel) R x) : (O x).isSome = true := by
  have := h.own
  simp only [gpOf, Bool.and_eq_true] at this
  exact this.1.1

end
end Go.Proofs.YticbnckikkdknaaGreatDoor

namespace Go.Proofs.YticbnckikkdknaaGreatDoor
set_option linter.unusedVariables false
set_option linter.unusedSimpArgs false
set_option maxRecDepth 100000
open Go.RowKit

/-- What holds of the row of truths all the time. -/
structure Rr (w : World) (G : Gp) (R : List Nat) (N ro : Nat) (B : List Bool) (W : World) : Prop where
  len : B.length = N
  r : ∀ j, B.getD j false = true → Rc G R j
  bl : MBl W ro B
  kp : Kp [] w W
/-- The first i places are there. -/
def Rro (G : Gp) (R : List Nat) (B : List Bool) (i : Nat) : Prop := ∀ j, j < i → R.getD j 0 ≠ 0 → G.own (R.getD j 0) = true → B.getD (R.getD j 0) false = true
section
variable {w W W' : World} {G : Gp} {R : List Nat} {N ro : Nat} {B : List Bool}
theorem Rr.on (h : Rr w G R N ro B W) (k : Kp [] W W') : Rr w G R N ro B W' := ⟨h.len, h.r, h.bl.keep k (by simp), h.kp.trans k⟩
theorem Rr.put (h : Rr w G R N ro B W) (hro : w.heap.size ≤ ro) {v : Nat} (hv : v < N) (hr : Rc G R v) : Rr w G R N ro (B.set v true) (W.setCell ⟨ro, v, none⟩ (.bool true)) := by
  refine ⟨by simpa using h.len, fun j hj => ?_, h.bl.set _ _, kp_new_set h.kp ((Kp.refl [ro] _).setCell (.inl (by simp)) _) hro⟩
  rw [mgetD_set _ _ _ (by rw [h.len]; exact hv)] at hj
  split at hj
  · rename_i e; subst e; exact hr
  · exact h.r j hj
theorem set_more {B : List Bool} {v : Nat} (hv : v < B.length) (j : Nat) (h : B.getD j false = true) : (B.set v true).getD j false = true := by
  rw [mgetD_set _ _ _ hv]
  split
  · rfl
  · exact h
theorem Rro.put {v : Nat} (h : Rro G R B N) (hv : v < B.length) : Rro G R (B.set v true) N := fun j hj h0 ho => set_more hv _ (h j hj h0 ho)
end

section
variable {Bz T n db dc : Nat} {H : List Int} {w w' : World} {O : Obs} {o : Nat} {tel : Bool}
end
end Go.Proofs.YticbnckikkdknaaGreatDoor

namespace Go.Proofs.YticbnckikkdknaaGreatDoor
set_option linter.unusedVariables false
set_option linter.unusedSimpArgs false
set_option maxRecDepth 100000
open Go.RowKit

/-- Who is told of. -/
def Tld (G : Gp) (R : List Nat) (y : Nat) : Prop := G.glb y = true ∧ y ≠ 0 ∧ (y ∈ R ∨ ∃ x, Rc G R x ∧ y ∈ G.ref x)
structure Rt (w : World) (G : Gp) (R : List Nat) (N ro : Nat) (B : List Bool) (W : World) : Prop where
  len : B.length = N
  r : ∀ j, B.getD j false = true → Tld G R j
  bl : MBl W ro B
  kp : Kp [] w W
def Rto (G : Gp) (R : List Nat) (B : List Bool) (i : Nat) : Prop := ∀ j, j < i → R.getD j 0 ≠ 0 → G.glb (R.getD j 0) = true → B.getD (R.getD j 0) false = true
def Rtl (G : Gp) (B : List Bool) (j n : Nat) : Prop := ∀ q, q < n → (G.ref j).getD q 0 ≠ 0 → G.glb ((G.ref j).getD q 0) = true → B.getD ((G.ref j).getD q 0) false = true
def Rtc (G : Gp) (R : List Nat) (B : List Bool) (i : Nat) : Prop := ∀ j, j < i → Rc G R j → Rtl G B j (G.ref j).length
section
variable {w W W' : World} {G : Gp} {R : List Nat} {N ro : Nat} {B : List Bool}
theorem Rt.on (h : Rt w G R N ro B W) (k : Kp [] W W') : Rt w G R N ro B W' := ⟨h.len, h.r, h.bl.keep k (by simp), h.kp.trans k⟩
theorem Rt.put (h : Rt w G R N ro B W) (hro : w.heap.size ≤ ro) {v : Nat} (hv : v < N) (hr : Tld G R v) : Rt w G R N ro (B.set v true) (W.setCell ⟨ro, v, none⟩ (.bool true)) := by
  refine ⟨by simpa using h.len, fun j hj => ?_, h.bl.set _ _, kp_new_set h.kp ((Kp.refl [ro] _).setCell (.inl (by simp)) _) hro⟩
  rw [mgetD_set _ _ _ (by rw [h.len]; exact hv)] at hj
  split at hj
  · rename_i e; subst e; exact hr
  · exact h.r j hj
theorem Rto.put {v i : Nat} (h : Rto G R B i) (hv : v < B.length) : Rto G R (B.set v true) i := fun j hj h0 ho => set_more hv _ (h j hj h0 ho)
theorem Rtl.put {v j n : Nat} (h : Rtl G B j n) (hv : v < B.length) : Rtl G (B.set v true) j n := fun q hq h0 ho => set_more hv _ (h q hq h0 ho)
theorem Rtc.put {v i : Nat} (h : Rtc G R B i) (hv : v < B.length) : Rtc G R (B.set v true) i := fun j hj hb => (h j hj hb).put hv
end

section
variable {Bz T n db dc : Nat} {H : List Int} {w w' : World} {O : Obs} {o : Nat} {tel : Bool}
end
end Go.Proofs.YticbnckikkdknaaGreatDoor

namespace Go.Proofs.YticbnckikkdknaaGreatDoor
set_option linter.unusedVariables false
set_option linter.unusedSimpArgs false
set_option maxRecDepth 100000
open Go.RowKit

section
variable {G G' : Gp} {R : List Nat}
theorem Rc.congr (h1 : ∀ x, G.own x = G'.own x) (h2 : ∀ x, G.own x = true → G.ref x = G'.ref x) {x : Nat} (h : Rc G R x) : Rc G' R x := by
  induction h with
  | root x hx h0 ho => exact .root x hx h0 (by rw [← h1]; exact ho)
  | step x y hx hy h0 ho ih => exact .step x y ih (by rw [← h2 x hx.own]; exact hy) h0 (by rw [← h1]; exact ho)
theorem Tld.congr (h1 : ∀ x, G.own x = G'.own x) (h2 : ∀ x, G.own x = true → G.ref x = G'.ref x) (h3 : ∀ x, G.glb x = G'.glb x) {y : Nat} (h : Tld G R y) : Tld G' R y := by
  obtain ⟨a, b, c | ⟨x, hx, hy⟩⟩ := h
  · exact ⟨by rw [← h3]; exact a, b, .inl c⟩
  · exact ⟨by rw [← h3]; exact a, b, .inr ⟨x, hx.congr h1 h2, by rw [← h2 x hx.own]; exact hy⟩⟩
end
section
variable {Bz T n db dc : Nat} {H : List Int} {w w' : World} {O : Obs} {V : Nat → Int} {F : Nat → Nat → Int} {Rs : Nat → Nat → List Int} {o : Nat} {tel : Bool} {M : Nat → Bool} {R : List Nat}
/-- In an object's fields no other object lies. -/
theorem Gd.field (h : Gd T n H Rs O V F) {x o' rf sz q : Nat} (hx : O x = some (o', rf, sz)) (hq : q < sz) : O (x + 1 + q) = none ∧ x + 1 + q < H.length := by
  have hin := h.hp.inn hx
  refine ⟨?_, by omega⟩
  cases hO : O (x + 1 + q) with
  | none => rfl
  | some z =>
    obtain ⟨o2, r2, s2⟩ := z
    obtain ⟨H0, h0, h1, h2⟩ := h.hp.base
    rcases h0.apart hx hO (by omega) with e | e <;> omega
end
end Go.Proofs.YticbnckikkdknaaGreatDoor

namespace Go.Proofs.YticbnckikkdknaaGreatDoor
set_option linter.unusedVariables false
set_option linter.unusedSimpArgs false
set_option maxRecDepth 100000
open Go.RowKit Go.Maps

theorem mkint : Keyed Tryz.prog 3 := int_keyed Tryz.underlying3
theorem mwf_nat {n : Nat} (h : n ≤ 100000) : (Lit.int .i64 (n : Int)).wf = true := by
  refine WalkArith.wf_i64 ?_
  omega
theorem mbool_inv {H : Type} {P : Program} {e : TypeId} (he : P.underlying e = some .bool) {v : Value} {z : DataW H × List MemPlace} (h : plainElem P e v = some z) : ∃ x, v = .bool x ∧ z = (.lit (.bool x), []) := by
  unfold plainElem at h
  rw [he] at h
  cases v <;> simp at h
  exact ⟨_, rfl, h.symm⟩
theorem mzero_bool (w : World) : (zeroValue 4).run Tryz.prog w = .ok (.bool false) w := by kernel_rfl
theorem cnt_more (f : Nat → Bool) (a : Nat) (hf : f a = false) : ∀ N, (List.range N).countP (fun z => f z || decide (z = a)) = (List.range N).countP f + if a < N then 1 else 0
  | 0 => rfl
  | N + 1 => by
    have ih := cnt_more f a hf N
    rw [List.range_succ, List.countP_append, List.countP_append, List.countP_singleton, List.countP_singleton]
    by_cases e : N = a
    · subst e
      rw [if_neg (by omega)] at ih
      simp [hf]; omega
    · have : decide (N = a) = false := by simp [e]
      rw [this]
      simp only [Bool.or_false]
      have e1 : (if a < N + 1 then 1 else 0) = (if a < N then 1 else 0) := by split <;> split <;> omega
      rw [e1]
      omega
theorem cnt_ext {f g : Nat → Bool} : ∀ N, (∀ z, z < N → f z = g z) → (List.range N).countP f = (List.range N).countP g
  | 0, _ => rfl
  | N + 1, h => by
    rw [List.range_succ, List.countP_append, List.countP_append, List.countP_singleton, List.countP_singleton, cnt_ext N (fun z hz => h z (by omega)), h N (by omega)]
/-- A map of numbers to truths, to which true alone is put. -/
def Mt (w : World) (B N : Nat) (f : Nat → Bool) : Prop :=
  ∃ D : DataW Unit, w.ownsMap Tryz.prog 3 (plainElem Tryz.prog 4) B (Maps.size D) D ∧ (∀ n : Nat, n ≤ 100000 → D.atKey (.int .i64 n) (.lit (.bool false)) = .lit (.bool (f n))) ∧ (∀ n : Nat, n ≤ 100000 → Maps.has D (.int .i64 n) = f n) ∧ Maps.size D = (List.range N).countP f ∧ ∀ n, f n = true → n < N
section
variable {w w' : World} {B N : Nat} {f : Nat → Bool}
theorem Mt.at (h : Mt w B N f) {n : Nat} (hb : n ≤ 100000) : (Instr.lookup 29 (.map (some B)) (.int .i64 n) false).run Tryz.prog w = .ok (.bool (f n)) w := by
  obtain ⟨D, ho, h5, _⟩ := h
  obtain ⟨v, ps, hrun, hv⟩ := ho.lookup mkint Tryz.underlying29 (mzero_bool w) (plainElem_bool (H := Unit) Tryz.underlying4 false) (keyOf_int_mk Tryz.underlying3 (mwf_nat hb))
  rw [h5 n hb] at hv
  obtain ⟨x, hx, e⟩ := mbool_inv Tryz.underlying4 hv
  have e1 : f n = x := by
    have := congrArg Prod.fst e
    simpa using this
  rw [hrun, hx, e1]
theorem Mt.made (w : World) (N : Nat) : Mt (w.alloc (.map #[] 0)) w.heap.size N (fun _ => false) :=
  ⟨.map [], World.ownsMap_made w Tryz.prog 3 (plainElem Tryz.prog 4), fun n a => rfl, fun n a => rfl, by simp [Maps.size], fun n h => by cases h⟩
theorem Mt.keep {S : List Nat} (h : Mt w B N f) (k : Kp S w w') (hB : B ∉ S) : Mt w' B N f := by
  obtain ⟨D, ⟨es, clock, hb, r⟩, h2⟩ := h
  exact ⟨D, ⟨es, clock, k.row hB hb, r⟩, h2⟩
theorem Mt.lt (h : Mt w B N f) : B < w.heap.size := by
  obtain ⟨D, ⟨es, clock, hb, r⟩, h2⟩ := h
  exact lt_of_block hb
theorem Mt.ne {b : Nat} {cs : Array Value} {t : TypeId} {fr : Nat × Nat} (h : Mt w B N f) (hb : w.heap[b]? = some (.cells cs t fr)) : B ≠ b := by
  obtain ⟨D, ⟨es, clock, hm, _⟩, _⟩ := h
  intro e; subst e
  have := hm.symm.trans hb
  simp at this
theorem Mt.len (h : Mt w B N f) (ty : TypeId) : (Builtin.len_ #[29] ty #[.map (some B)]).run Tryz.prog w = .ok (.int .i64 ((List.range N).countP f : Nat)) w := by
  obtain ⟨D, ho, _, _, h5, _⟩ := h
  rw [← h5]
  exact ho.len Tryz.underlying29 ty
theorem owns_tight {k : TypeId} {R : Value → Option (DataW Unit × List MemPlace)} {b n : Nat} {D : DataW Unit} (h : w.ownsMap Tryz.prog k R b n D) : w.ownsMap Tryz.prog k R b (Maps.size D) D := by
  obtain ⟨es, clock, hb, F, hs, rfl⟩ := h
  exact ⟨es, clock, hb, F, by simp [Maps.size, length_sorted], rfl⟩
theorem Mt.put (h : Mt w B N f) (hN : N ≤ 100000) {a : Nat} (ha : a < N) :
    ∃ w', (Instr.mapUpdate 29 (.map (some B)) (.int .i64 a) (.bool true)).run Tryz.prog w = .ok () w' ∧ Mt w' B N (fun z => f z || decide (z = a)) ∧ Kp [B] w w' := by
  obtain ⟨D, ho, h5, h6, h7, h8⟩ := h
  have hcl : (List.range N).countP f ≤ N := by
    have := List.countP_le_length (p := f) (l := List.range N)
    simpa using this
  obtain ⟨w', hrun, ho', hg⟩ := ho.update mkint Tryz.underlying29 (by unfold maxLen; omega) (keyOf_int_mk Tryz.underlying3 (mwf_nat (n := a) (by omega))) (plainElem_bool (H := Unit) Tryz.underlying4 true)
  have hkl : WideAt.IsKeyLit (.int .i64 (a : Int)) := trivial
  refine ⟨w', hrun, ⟨_, owns_tight ho', fun k b => ?_, fun k b => ?_, ?_, fun n hn => ?_⟩, (Kp.refl [B] w).grown hg (fun j hj => by cases hj; simp)⟩
  · by_cases e : k = a
    · subst e
      rw [Maps.atKey_put_same ho.isMap hkl]
      simp
    · rw [Maps.atKey_put_other (by intro q; injection q with _ q; omega), h5 k b]
      simp [e]
  · by_cases e : k = a
    · subst e
      rw [Maps.has_put_same ho.isMap hkl]
      simp
    · rw [Maps.has_put_other (by intro q; injection q with _ q; omega), h6 k b]
      simp [e]
  · rw [Maps.size_put (ho.tidy mkint), h6 a (by omega), h7]
    cases hfa : f a with
    | true =>
      rw [if_pos rfl]
      exact cnt_ext N fun z hz => by
        by_cases e : z = a
        · subst e; simp [hfa]
        · simp [e]
    | false =>
      rw [if_neg (by decide), cnt_more f a hfa N, if_pos ha]
  · simp only [Bool.or_eq_true, decide_eq_true_eq] at hn
    rcases hn with hn | rfl
    · exact h8 n hn
    · exact ha
end

section
variable {T n p r q ro o t : Nat} {gf : Value} {H : List Int} {w w' : World}
/-- Told by a map. -/
def TLm (bx mb : Nat) (tl : Nat → Bool) (w : World) : Prop := w.heap[bx]? = some (.cells #[.map (some mb)] 29 (0, 0)) ∧ Mt w mb 5001 tl
theorem TLm.keep {bx mb : Nat} {tl : Nat → Bool} {S : List Nat} (h : TLm bx mb tl w) (k : Kp S w w') (h1 : bx ∉ S) (h2 : mb ∉ S) : TLm bx mb tl w' := ⟨k.row h1 h.1, h.2.keep k h2⟩
end
end Go.Proofs.YticbnckikkdknaaGreatDoor

namespace Go.Proofs.YticbnckikkdknaaGreatDoor
set_option linter.unusedVariables false
set_option linter.unusedSimpArgs false
set_option maxRecDepth 100000
open Go.RowKit

/-- Numbers of things that came in. -/
def Nms (W : World) (ao : Option Addr) (l : List Nat) : Prop := ∀ j, j < l.length → ∃ g q, ao = some ⟨g, q, none⟩ ∧ W.cell? ⟨g, q + j, none⟩ = some (.int .u8 (l.getD j 0)) ∧ l.getD j 0 ≤ 255
theorem Nms.keep {W W' : World} {ao : Option Addr} {l : List Nat} (h : Nms W ao l) (k : Kp [] W W') : Nms W' ao l := fun j hj => by
  obtain ⟨g, q, e, hc, hb⟩ := h j hj
  exact ⟨g, q, e, kp_cell k (by simp) hc, hb⟩
section
variable {T n : Nat} {B sp hb t : Nat} {qs : Nat → Nat} {s : As} {P : List Int} {w W : World}
end

/-- The known heap. -/
def kn : List Th := [⟨0, 2, 2, false, 0, [2, 3]⟩, ⟨0, 0, 1, false, 0, []⟩, ⟨0, 1, 1, false, 0, [4]⟩, ⟨0, 0, 0, true, 0, []⟩]
end Go.Proofs.YticbnckikkdknaaGreatDoor

namespace Go.Proofs.YticbnckikkdknaaGreatDoor
set_option linter.unusedVariables false
set_option linter.unusedSimpArgs false
set_option maxRecDepth 100000
open Go.RowKit

/-- Made, for whatever heap. -/
def CMade : Prop := ∀ (w : World) (T n : Nat), Cl.Tab w → 1 ≤ n → n ≤ 12 → 1 ≤ T → T ≤ 4 → ∀ (ao : Option Addr) (cap : Nat) (l : List Th), l.length ≤ 60 → Tgs w ao l →
    Calls Tryz.prog 8 #[.int .u8 n, .int .u8 T, .slice ao l.length cap] w fun e w' => ∃ sp hb qs t, t ≤ 100000 ∧ e = .returned (.tuple #[.pointer (some ⟨hb, 0, none⟩), .bool true]) ∧ Hm w.heap.size T n sp hb qs ({ (makesN T n l l.length).1 with H := kidsN (makesN T n l l.length).2 l (makesN T n l l.length).1.H l.length } : As) (makesN T n l l.length).2 t w w'
/-- What a heap's boxes say, whatever its words are. -/
structure Hsf (B T n sp hb : Nat) (P : List Int) (W : World) : Prop where
  st : ∃ f, S13 W sp f ∧ f 0 = .pointer (some ⟨B + 1, 0, none⟩) ∧ f 1 = .int .i64 T ∧ f 2 = .int .i64 0 ∧ f 3 = .int .i64 n
  hx : W.heap[hb]? = some (.cells #[.pointer (some ⟨sp, 0, none⟩), (W.cell? ⟨hb, 1, none⟩).getD undef] 48 (0, 0))
  pv : Li.Rw W ((W.cell? ⟨hb, 1, none⟩).getD undef) P
  tab : Cl.Tab W
  gn : 0 ≠ B + 1 ∧ 0 ≠ B
  ty : ∃ a b, W.heap[B + 1]? = some (.cells a 99 (0, 0)) ∧ W.heap[B]? = some (.cells b 57 (0, 0))
section
variable {B T n sp hb t : Nat} {qs : Nat → Nat} {s : As} {P : List Int} {w W W' : World}
theorem Hsf.keep (h : Hsf B T n sp hb P W) {S : List Nat} (k : Kp S W W') (hS : ∀ g ∈ S, g = B + 1 ∨ g = B ∨ W.heap.size ≤ g) (hty : ∃ a b, W'.heap[B + 1]? = some (.cells a 99 (0, 0)) ∧ W'.heap[B]? = some (.cells b 57 (0, 0))) : Hsf B T n sp hb P W' := by
  obtain ⟨a, b, e1, e2⟩ := h.ty
  have hne : ∀ {g : Nat} {cs : Array Value} {U : TypeId}, W.heap[g]? = some (.cells cs U (0, 0)) → U ≠ 99 → U ≠ 57 → g ∉ S := fun hg h1 h2 e => by
    rcases hS _ e with e | e | e
    · rw [e, e1] at hg; simp at hg; exact h1 hg.2.symm
    · rw [e, e2] at hg; simp at hg; exact h2 hg.2.symm
    · have := lt_of_block hg; omega
  obtain ⟨f, f1, f2⟩ := h.st
  have hb' := k.row (hne h.hx (by decide) (by decide)) h.hx
  have hc : (W'.cell? ⟨hb, 1, none⟩).getD undef = (W.cell? ⟨hb, 1, none⟩).getD undef := by rw [cell_of_row hb']; rfl
  refine ⟨⟨f, k.row (hne f1 (by decide) (by decide)) f1, f2⟩, by rw [hc]; exact hb', ?_, ?_, h.gn, hty⟩
  · rw [hc]
    rcases h.pv with q | ⟨g, cap, cur, e, g1, g2⟩
    · exact .inl q
    · exact .inr ⟨g, cap, cur, e, k.row (hne g1 (by decide) (by decide)) g1, g2⟩
  · have hrn : 0 ∉ S := fun e => by
      rcases hS _ e with e | e | e
      · exact h.gn.1 e
      · exact h.gn.2 e
      · have := block_lt_of_cell h.tab.c0; omega
    exact tab_keep h.tab k hrn
end
section
variable {O : Obs} {tel : Bool}
end
end Go.Proofs.YticbnckikkdknaaGreatDoor
