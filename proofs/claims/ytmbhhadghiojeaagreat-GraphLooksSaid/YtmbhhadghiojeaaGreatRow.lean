/- Rows of ints, of whatever program: where the numbers of a slice lie (Rd), a row of the call's own (Rw), what is appended to either: at a plain region's list, and as one step of a region that draws. Conditions: as each lemma states them. -/
import Derived.Test.YtmbhhadghiojeaaGreatRows
import Derived.Test.YtmbhhadghiojeaaGreatKeep
import Derived.OneCell
import Derived.Deep.Draws
import Derived.Laws.IdiomCopy
import Derived.ProofKit
import Derived.OwnWalk
import Derived.ArgAppend
import Derived.Deep.AppendLies
import Derived.Deep.RegionLaw
namespace Go.Proofs.YtmbhhadghiojeaaGreat
set_option linter.unusedVariables false
set_option linter.unusedSimpArgs false
open Go.RowKit

def ints (xs : List Int) : List Value := xs.map (Value.int .i64)
theorem ints_len (xs : List Int) : (ints xs).length = xs.length := by simp [ints]
theorem ints_get (xs : List Int) (i : Nat) (h : i < xs.length) : (ints xs)[i]? = some (.int .i64 (xs.getD i 0)) := by simp [ints, List.getD, h]
theorem ints_snoc (xs : List Int) (z : Int) : ints (xs ++ [z]) = ints xs ++ [.int .i64 z] := by simp [ints]
theorem ints_take (xs : List Int) (i : Nat) : (ints xs).take i = ints (xs.take i) := by simp [ints, List.map_take]

/-- The block that a slice leads to, as a list. -/
def blk (v : Value) : List Nat := v.ownBlock.toList
theorem blk_nil : blk (.slice none 0 0) = [] := rfl
theorem blk_some (g o n c : Nat) : blk (.slice (some ⟨g, o, none⟩) n c) = [g] := rfl

theorem kp_row {w w' : World} {v : Value} (h : Kp (blk v) w w') : w.grownBy w' v.ownBlock := ⟨h.os, h.tape, h.output, h.size, fun k hk hn => h.block k hk (by
  intro e
  unfold blk at e
  rw [Option.mem_toList] at e
  exact hn e.symm)⟩
theorem kp_of_row {w w' : World} {v : Value} (h : w.grownBy w' v.ownBlock) : Kp (blk v) w w' := ⟨h.os, h.tape, h.output, h.size, fun k hk hn => h.block k hk (by
  intro e
  apply hn
  unfold blk
  rw [Option.mem_toList]
  exact e.symm)⟩
theorem kp_drewN {S : List Nat} (w : World) (j : Nat) : Kp S w (w.drewN j) := ⟨rfl, rfl, rfl, Nat.le_refl _, fun _ _ _ => rfl⟩
theorem ne_types {w : World} {a b : Nat} {x y : Array Value} {t u : TypeId} (h : w.heap[a]? = some (.cells x t (0, 0))) (k : w.heap[b]? = some (.cells y u (0, 0))) (htu : t ≠ u) : a ≠ b := by
  intro e; subst e
  have := h.symm.trans k
  simp at this
  exact htu this.2
theorem Kp.cell {S : List Nat} {w w' : World} (k : Kp S w w') {g o : Nat} (hg : g ∉ S) {v : Value} (h : w.cell? ⟨g, o, none⟩ = some v) : w'.cell? ⟨g, o, none⟩ = some v :=
  (World.cell?_of_block (a := ⟨g, o, none⟩) (k.block g (block_lt_of_cell h) hg)).trans h

/-- The numbers xs lie where the slice u leads, a row of ints. -/
structure Rd (w : World) (u : Value) (xs : List Int) : Prop where
  form : ∃ ao cap, u = .slice ao xs.length cap ∧ xs.length ≤ cap ∧ (ao = none → cap = 0) ∧ (xs ≠ [] → ∃ g o, ao = some ⟨g, o, none⟩ ∧ ∀ i, i < xs.length → w.cell? ⟨g, o + i, none⟩ = some (.int .i64 (xs.getD i 0)))
  ty : ∀ g ∈ blk u, ∃ cur, w.heap[g]? = some (.cells cur 3 (0, 0))

theorem Rd.nil (w : World) : Rd w (.slice none 0 0) [] := ⟨⟨none, 0, rfl, Nat.le_refl _, fun _ => rfl, fun h => absurd rfl h⟩, by simp [blk_nil]⟩
theorem Rd.keep {w w' : World} {u : Value} {xs : List Int} {S : List Nat} (h : Rd w u xs) (k : Kp S w w') (hS : ∀ g ∈ blk u, g ∉ S) : Rd w' u xs := by
  refine ⟨?_, fun g hg => ?_⟩
  · obtain ⟨ao, cap, rfl, hc, hz, hx⟩ := h.form
    refine ⟨ao, cap, rfl, hc, hz, fun hne => ?_⟩
    obtain ⟨g, o, rfl, hcell⟩ := hx hne
    exact ⟨g, o, rfl, fun i hi => k.cell (hS g (by simp [blk_some])) (hcell i hi)⟩
  · obtain ⟨cur, hc⟩ := h.ty g hg
    exact ⟨cur, k.row (hS g hg) hc⟩
theorem Rd.keep0 {w w' : World} {u : Value} {xs : List Int} (h : Rd w u xs) (k : Kp [] w w') : Rd w' u xs := h.keep k (by simp)
/-- A block of another type is none of its. -/
theorem Rd.nin {w : World} {u : Value} {xs : List Int} (h : Rd w u xs) {b : Nat} {x : Array Value} {t : TypeId} (hb : w.heap[b]? = some (.cells x t (0, 0))) (ht : 3 ≠ t) : ∀ g ∈ blk u, g ≠ b := by
  intro g hg
  obtain ⟨cur, hc⟩ := h.ty g hg
  exact ne_types hc hb ht
theorem Rd.lt {w : World} {u : Value} {xs : List Int} (h : Rd w u xs) : ∀ g ∈ blk u, g < w.heap.size := by
  intro g hg
  obtain ⟨cur, hc⟩ := h.ty g hg
  exact lt_of_block hc
theorem Rd.of_own {w : World} {base : Nat} {v : Value} {xs : List Int} (h : w.ownsRow base 3 1 v xs.length (ints xs)) : Rd w v xs := by
  rcases h.2 with ⟨rfl, h0⟩ | ⟨g, cap, cur, rfl, hge, hg, h1, h2, h3, h4⟩
  · rw [List.eq_nil_of_length_eq_zero h0]; exact Rd.nil w
  · refine ⟨⟨_, cap, rfl, h1, fun e => (by cases e), fun _ => ⟨g, 0, rfl, fun i hi => ?_⟩⟩, fun k hk => ?_⟩
    · rw [Nat.zero_add, cell_of_row hg, ← ints_get xs i hi, ← h4, List.getElem?_take_of_lt (by omega)]; simp
    · rw [blk_some, List.mem_singleton] at hk
      exact ⟨cur, hk ▸ hg⟩
theorem Rd.cellAt {w : World} {ao : Option Addr} {n cap : Nat} {xs : List Int} (h : Rd w (.slice ao n cap) xs) {i : Nat} (hi : i < xs.length) : ∃ g o, ao = some ⟨g, o, none⟩ ∧ w.cell? ⟨g, o + i, none⟩ = some (.int .i64 (xs.getD i 0)) := by
  obtain ⟨ao', cap', e, _, _, hx⟩ := h.form
  cases e
  obtain ⟨g, o, e2, hc⟩ := hx (fun e => by subst e; simp at hi)
  exact ⟨g, o, e2, hc i hi⟩
theorem Rd.one {w : World} {u : Value} {xs : List Int} (h : Rd w u xs) : u.oneCell' = true := by
  obtain ⟨ao, cap, rfl, _⟩ := h.form
  rfl
theorem blk_same (ao : Option Addr) (n c m d : Nat) : blk (.slice ao n c) = blk (.slice ao m d) := by cases ao <;> rfl
/-- Its last one is left out. -/
theorem Rd.less {w : World} {ao : Option Addr} {cap : Nat} {xs : List Int} {x : Int} {n : Nat} (h : Rd w (.slice ao n cap) (xs ++ [x])) : Rd w (.slice ao xs.length cap) xs := by
  refine ⟨?_, fun g hg => h.ty g (by rw [blk_same ao n cap xs.length cap]; exact hg)⟩
  obtain ⟨ao', cap', e, hl, hz, hx⟩ := h.form
  simp only [Value.slice.injEq] at e
  obtain ⟨rfl, _, rfl⟩ := e
  simp at hl
  refine ⟨ao, cap, rfl, by omega, hz, fun _ => ?_⟩
  obtain ⟨g, o, rfl, hc⟩ := hx (by simp)
  refine ⟨g, o, rfl, fun i hi => ?_⟩
  rw [hc i (by simp; omega)]
  simp [List.getD, hi, List.getElem?_append_left hi]
/-- Its last one. -/
theorem Rd.last {w : World} {u : Value} {xs : List Int} {x : Int} (h : Rd w u (xs ++ [x])) : ∃ g o cap, u = .slice (some ⟨g, o, none⟩) (xs.length + 1) cap ∧ xs.length + 1 ≤ cap ∧ w.cell? ⟨g, o + xs.length, none⟩ = some (.int .i64 x) ∧ Rd w (.slice (some ⟨g, o, none⟩) xs.length cap) xs := by
  obtain ⟨ao, cap, hu, hl, hz, hx⟩ := h.form
  obtain ⟨g, o, rfl, hc⟩ := hx (by simp)
  have e : (xs ++ [x]).length = xs.length + 1 := by simp
  subst hu
  have h' := h.less
  rw [e] at hl hc ⊢
  refine ⟨g, o, cap, rfl, hl, ?_, h'⟩
  rw [hc _ (Nat.lt_succ_self _)]
  simp [List.getD]
/-- What it holds, as what is appended to another row. -/
theorem Rd.news {w : World} {u : Value} {xs : List Int} (h : Rd w u xs) : (u = .slice none 0 0 ∧ xs = []) ∨ ∃ ad cap, u = .slice (some ad) xs.length cap ∧ ∀ j v, (ints xs)[j]? = some v → w.cell? (ad.add j) = some v := by
  obtain ⟨ao, cap, rfl, hc, hz, hx⟩ := h.form
  cases ao with
  | none =>
    obtain rfl := hz rfl
    have : xs = [] := List.eq_nil_of_length_eq_zero (by omega)
    subst this
    exact .inl ⟨rfl, rfl⟩
  | some ad =>
    refine .inr ⟨ad, cap, rfl, fun j v hv => ?_⟩
    have hj : j < xs.length := by
      have := (List.getElem?_eq_some_iff.1 hv).1
      simpa [ints] using this
    obtain ⟨g, o, e, hcell⟩ := hx (fun e => by subst e; simp at hj)
    cases e
    rw [Addr.add_lit, hcell j hj, ← ints_get xs j hj]
    exact hv

theorem one_cell (x : Int) : ∀ u ∈ [Value.int .i64 x], u.oneCell' = true := by simp [Value.oneCell']
theorem news_one (w : World) (x : Int) (t : TypeId) (a : Addr) (ha : a = ⟨w.heap.size, 0, none⟩) : ∀ (j : Nat) (v : Value), [Value.int .i64 x][j]? = some v → (w.alloc (.cells #[.int .i64 x] t)).cell? (a.add j) = some v := by
  subst ha
  intro j v hv
  have hj : j = 0 := by
    have := (List.getElem?_eq_some_iff.1 hv).1
    simpa using this
  subst hj
  rw [Addr.add_lit, cell_of_row (heap_alloc_new w _)]
  simpa using hv
theorem int_info : (Tryz.prog.info? 3).map (fun i => (i.zero, i.size, i.bytes)) = some (some (.int .i64 0), 1, 8) := by kernel_rfl
theorem make_ints (n : Nat) (h2 : n ≤ 100000) (w : World) : (Instr.makeSlice 37 (.int .i64 (n : Int)) (.int .i64 (n : Int))).run Tryz.prog w = .ok (.slice (some ⟨w.heap.size, 0, none⟩) n n) (w.alloc (.cells (ints (List.replicate n 0)).toArray 3)) := by
  obtain ⟨i, hi, hz0, hz1, hz2⟩ := info_parts int_info
  have := run_make (P := Tryz.prog) w 37 3 i (.int .i64 0) Tryz.underlying37 hi hz0 .i64 .i64 n n (by omega) (Int.le_refl _) (by rw [hz2]; omega) (by omega)
  rw [this, hz1]
  have e : madeCells #[.int .i64 0] n = (ints (List.replicate n 0)).toArray := by
    apply Array.ext'
    rw [toList_madeCells_one]
    simp [ints]
  simp [Value.cells, e]

theorem ones_ints (xs : List Int) : ∀ v ∈ ints xs, v.oneCell' = true := by
  intro v hv
  obtain ⟨x, _, rfl⟩ := List.mem_map.1 hv
  rfl

/-- An 'append' whose run is known. -/
theorem wpList_append_eq {P : Program} {w w2 : World} {ops : Array Oper} {rest : List Oper} {o : Oper} {a : Act} {Q : Exit → Act → World → Prop} (hgd : o.guard = none) (s x : Operand) (t : TypeId)
    (ho : o.op = .call { callee := .builtin .append, args := #[s, x], argTypes := #[t, t] }) (sv xv v : Value) (hs : a.eval s = sv) (hx : a.eval x = xv)
    (hrun : (Builtin.append_ #[t, t] o.type #[sv, xv]).run P w = .ok v w2) (hK : wpList P ops Q rest (a.put o.dst v) w2) : wpList P ops Q (o :: rest) a w := by
  refine wpList_plain hgd fun K hK' => ?_
  unfold Oper.wp
  simp [execOp, ho, resolve, invoke, builtin, hs, hx, hrun, Result.andThen]
  exact hK' _ _ hK

/-- A row of the law's own, made since w: the numbers xs. -/
structure Rw (w : World) (v : Value) (xs : List Int) (w' : World) : Prop where
  own : w'.ownsRow w.heap.size 3 1 v xs.length (ints xs)

section
variable {w w' w'' : World} {v : Value} {xs : List Int}
theorem Rw.nil (w w' : World) : Rw w (.slice none 0 0) [] w' := ⟨World.ownsRow_nil _ _ _ _⟩
theorem Rw.block (h : Rw w v xs w') : ∀ g ∈ blk v, w.heap.size ≤ g ∧ ∃ cur, w'.heap[g]? = some (.cells cur 3 (0, 0)) := by
  intro y hy
  rcases h.own.2 with ⟨rfl, _⟩ | ⟨g, c, cur, rfl, hge, hg, _⟩
  · simp [blk_nil] at hy
  · rw [blk_some, List.mem_singleton] at hy
    subst hy
    exact ⟨hge, cur, hg⟩
theorem Rw.keep {S : List Nat} (h : Rw w v xs w') (k : Kp S w' w'') (hS : ∀ g ∈ S, ∃ cs t, w'.heap[g]? = some (.cells cs t (0, 0)) ∧ 3 ≠ t) : Rw w v xs w'' := by
  refine ⟨h.own.1, ?_⟩
  rcases h.own.2 with h0 | ⟨g, c, cur, rfl, hge, hg, r⟩
  · exact .inl h0
  · refine .inr ⟨g, c, cur, rfl, hge, k.row (fun e => ?_) hg, r⟩
    obtain ⟨cs, t, hc, ht⟩ := hS g e
    exact ne_types hg hc ht rfl
theorem Rw.keep0 (h : Rw w v xs w') (k : Kp [] w' w'') : Rw w v xs w'' := h.keep k (by simp)
theorem Rw.form (h : Rw w v xs w') : ∃ ao cap, v = .slice ao xs.length cap := by
  rcases h.own.2 with ⟨rfl, h0⟩ | ⟨g, c, cur, rfl, _⟩
  · exact ⟨none, 0, by rw [h0]⟩
  · exact ⟨_, c, rfl⟩
/-- Its last one. -/
theorem Rw.last {x : Int} (h : Rw w v (xs ++ [x]) w') : ∃ g cap, v = .slice (some ⟨g, 0, none⟩) (xs.length + 1) cap ∧ xs.length + 1 ≤ cap ∧ w'.cell? ⟨g, xs.length, none⟩ = some (.int .i64 x) ∧ Rw w (.slice (some ⟨g, 0, none⟩) xs.length cap) xs w' := by
  have e : (xs ++ [x]).length = xs.length + 1 := by simp
  rcases h.own.2 with ⟨rfl, h0⟩ | ⟨g, c, cur, rfl, hge, hg, h1, h2, h3, h4⟩
  · rw [e] at h0; omega
  · rw [e] at h1 h4 ⊢
    rw [Nat.mul_one] at h4
    refine ⟨g, c, rfl, h1, ?_, ⟨by simp [ints], .inr ⟨g, c, cur, rfl, hge, hg, by omega, h2, h3, ?_⟩⟩⟩
    · rw [cell_of_row hg]
      have : (cur.toList.take (xs.length + 1))[xs.length]? = some (.int .i64 x) := by rw [h4]; simp [ints]
      rw [List.getElem?_take_of_lt (by omega)] at this
      simpa using this
    · rw [Nat.mul_one]
      have : (cur.toList.take (xs.length + 1)).take xs.length = (ints (xs ++ [x])).take xs.length := by rw [h4]
      rw [List.take_take, Nat.min_eq_left (by omega)] at this
      rw [this]
      simp [ints]
theorem Rw.lt (h : Rw w v xs w') : ∀ g ∈ blk v, g < w'.heap.size := fun g hg => by
  obtain ⟨_, cur, hc⟩ := h.block g hg
  exact lt_of_block hc
theorem Rw.rd (h : Rw w v xs w') : Rd w' v xs := Rd.of_own h.own
theorem Rw.cell {g cap n : Nat} (h : Rw w (.slice (some ⟨g, 0, none⟩) n cap) xs w') {i : Nat} (hi : i < xs.length) : w'.cell? ⟨g, i, none⟩ = some (.int .i64 (xs.getD i 0)) := by
  obtain ⟨g', o, e, hc⟩ := h.rd.cellAt hi
  rcases h.own.2 with ⟨e2, _⟩ | ⟨g2, c, cur, e2, hge, hg, h1, h2, h3, h4⟩
  · cases e2
  · simp only [Value.slice.injEq, Option.some.injEq, Addr.mk.injEq, true_and, and_true] at e2
    obtain ⟨rfl, _, _⟩ := e2
    rw [Nat.mul_one] at h4
    rw [cell_of_row hg, ← ints_get xs i hi, ← h4, List.getElem?_take_of_lt hi]; simp
theorem Rw.free {g cap n : Nat} (h : Rw w (.slice (some ⟨g, 0, none⟩) n cap) xs w') (i : Nat) : w'.frozen? ⟨g, i, none⟩ = false := by
  obtain ⟨_, cur, hc⟩ := h.block g (by simp [blk_some])
  exact free_of_row hc i
/-- Where it lies, where it has something. -/
theorem Rw.at (h : Rw w v xs w') (hx : xs ≠ []) : ∃ g cap, v = .slice (some ⟨g, 0, none⟩) xs.length cap ∧ w.heap.size ≤ g := by
  rcases h.own.2 with ⟨rfl, h0⟩ | ⟨g, c, cur, rfl, hge, _⟩
  · exact absurd (List.eq_nil_of_length_eq_zero h0) hx
  · exact ⟨g, c, rfl, hge⟩
/-- One of its numbers is stored. -/
theorem Rw.set {g cap n : Nat} (h : Rw w (.slice (some ⟨g, 0, none⟩) n cap) xs w') (i : Nat) (z : Int) : Rw w (.slice (some ⟨g, 0, none⟩) n cap) (xs.set i z) (w'.setCell ⟨g, i, none⟩ (.int .i64 z)) := by
  refine ⟨by simp [ints], ?_⟩
  rcases h.own.2 with ⟨e2, _⟩ | ⟨g2, c, cur, e2, hge, hg, h1, h2, h3, h4⟩
  · cases e2
  · simp only [Value.slice.injEq, Option.some.injEq, Addr.mk.injEq, true_and, and_true] at e2
    obtain ⟨rfl, rfl, rfl⟩ := e2
    refine .inr ⟨g, cap, _, by simp, hge, heap_setCell_same _ _ _ _ _ _ hg, by simpa using h1, h2, by simpa using h3, ?_⟩
    rw [List.length_set, Array.toList_setIfInBounds, List.take_set, h4]
    simp [ints, List.map_set]
end

/-- Blocks that are no rows of ints are as they were. -/
def Ky (w w' : World) : Prop := ∀ (g : Nat) (cs : Array Value) (t : TypeId), 3 ≠ t → w.heap[g]? = some (Obj.cells cs t (0, 0)) → w'.heap[g]? = some (Obj.cells cs t (0, 0))
theorem ky_of {w w' : World} (h : Kp [] w w') : Ky w w' := fun g cs t _ hg => h.row (by simp) hg
theorem ky_row {w w' : World} {S : List Nat} (h : Kp S w w') (hS : ∀ g ∈ S, ∃ cur, w.heap[g]? = some (.cells cur 3 (0, 0))) : Ky w w' := fun g cs t ht hg => h.row (fun e => by
  obtain ⟨cur, hc⟩ := hS g e
  exact ne_types hc hg ht rfl) hg

theorem news_kp {w w' : World} {x : Int} {t : TypeId} {H : Nat} (hH : H = w.heap.size) (k : Kp [] (w.alloc (.cells #[.int .i64 x] t)) w') : ∀ (j : Nat) (v : Value), [Value.int .i64 x][j]? = some v → w'.cell? ((⟨H, 0, none⟩ : Addr).add j) = some v := by
  intro j v hv
  have := news_one w x t ⟨H, 0, none⟩ (by rw [hH]) j v hv
  rw [Addr.add_lit] at this ⊢
  exact k.cell (by simp) this

/-- 'append(nil, xs...)', its run. -/
theorem run_append_cp {w0 w : World} (u : Value) (L : List Int) (hr : Rd w u L) (hl : L.length ≤ 100000) (hk0 : Kp [] w0 w) (ty : TypeId) :
    ∃ ao cap w', (Builtin.append_ #[37, 37] ty #[.slice none 0 0, u]).run Tryz.prog w = .ok (.slice ao L.length cap) w' ∧ Rw w0 (.slice ao L.length cap) L w' ∧ Kp [] w w' := by
  obtain ⟨i, hi, hz0, hz1, hz2⟩ := info_parts int_info
  rcases hr.news with ⟨rfl, rfl⟩ | ⟨ad, cap, rfl, hnews⟩
  · exact ⟨none, 0, w, run_append_owned_none (P := Tryz.prog) (w := w) w0.heap.size 37 ty 3 i 1 Tryz.underlying37 hi (.slice none 0 0) 0 [] (World.ownsRow_nil _ _ _ _), Rw.nil _ _, Kp.refl _ _⟩
  · obtain ⟨v', w', hrun, r1, r2, _⟩ := run_append_own (P := Tryz.prog) w w0.heap.size 37 ty 3 i (.int .i64 0) 1 8 Tryz.underlying37 hi hz0 hz1 hz2 rfl (by decide) (.slice none 0 0) 0 [] (World.ownsRow_nil _ _ _ _) ad L.length cap (ints L) (by simp [ints]) hnews (ones_ints L) (by unfold maxLen; omega) (by omega) hk0.size
    have hr1 : Rw w0 v' L w' := ⟨by simpa using r1⟩
    obtain ⟨ao, c, rfl⟩ := hr1.form
    exact ⟨ao, c, w', hrun, hr1, by
      have := kp_of_row (v := .slice none 0 0) r2
      simpa [blk_nil] using this⟩

/-- 'append(v, x)' onto a row of the call's own, its run. -/
theorem run_append_snoc {w0 w : World} (v : Value) (L : List Int) (z : Int) (ad : Addr) (hown : Rw w0 v L w) (hl : L.length ≤ 100000) (hk0 : w0.heap.size ≤ w.heap.size) (hz : ∀ j u, [Value.int .i64 z][j]? = some u → w.cell? (ad.add j) = some u) (ty : TypeId) :
    ∃ g cap w', (Builtin.append_ #[37, 37] ty #[v, .slice (some ad) 1 1]).run Tryz.prog w = .ok (.slice (some ⟨g, 0, none⟩) (L.length + 1) cap) w' ∧ Rw w0 (.slice (some ⟨g, 0, none⟩) (L.length + 1) cap) (L ++ [z]) w' ∧ Kp (blk v) w w' ∧ (g ∈ blk v ∨ w.heap.size ≤ g) := by
  obtain ⟨i, hi, hz0, hz1, hz2⟩ := info_parts int_info
  obtain ⟨g, cap, w', hr, h2, h3, h4, h5⟩ := run_append_lies (P := Tryz.prog) w 37 ty w0.heap.size 3 i (.int .i64 0) 1 8 Tryz.underlying37 hi hz0 hz1 hz2 rfl (by decide) v L.length (ints L) hown.own ad 1 1 [.int .i64 z] rfl hz (one_cell z) (by decide) (by unfold maxLen; omega) (by omega) hk0 _ rfl
  refine ⟨g, cap, w', hr, ⟨?_⟩, kp_of_row h3, ?_⟩
  · rw [ints_snoc, show (L ++ [z]).length = L.length + 1 from by simp]
    exact h2
  · rcases h4 with q | q
    · exact .inl (by unfold blk; rw [q]; simp)
    · exact .inr (by omega)

/-- A row of the call's own is turned: what is older than w0 stays, and what is no row of ints. -/
theorem Rw.turned {w0 w w' : World} {v : Value} {xs : List Int} (h : Rw w0 v xs w) (k : Kp (blk v) w w') (hk0 : Kp [] w0 w) : Kp [] w0 w' ∧ Ky w w' :=
  ⟨((hk0.mono (by simp)).trans k).mono fun y hy hlt => by have := (h.block y hy).1; omega, ky_row k fun g hg => (h.block g hg).2⟩

section
variable {w0 w : World} {ops : Array Oper} {rest : List Oper} {o : Oper} {a : Act} {K : Act → World → Prop} {Q : Exit → Act → World → Prop} {E : Prop}
theorem wpList_append_cp (hgd : o.guard = none) (s x : Operand) (ho : o.op = .call { callee := .builtin .append, args := #[s, x], argTypes := #[37, 37] }) (u : Value) (L : List Int) (n : Nat) (hn : n = L.length) (hs : a.eval s = .slice none 0 0) (hx : a.eval x = u) (hr : Rd w u L) (hl : n ≤ 100000) (hk0 : Kp [] w0 w)
    (h : ∀ ao cap w', Rw w0 (.slice ao n cap) L w' → Kp [] w w' → wpList Tryz.prog ops Q rest (a.put o.dst (.slice ao n cap)) w') : wpList Tryz.prog ops Q (o :: rest) a w := by
  subst hn
  obtain ⟨ao, cap, w', hrun, r1, r2⟩ := run_append_cp (w0 := w0) u L hr hl hk0 o.type
  exact wpList_append_eq hgd s x 37 ho _ _ _ hs hx hrun (h ao cap w' r1 r2)
theorem wpList_append_snoc (hgd : o.guard = none) (s x : Operand) (ho : o.op = .call { callee := .builtin .append, args := #[s, x], argTypes := #[37, 37] }) (v : Value) (L : List Int) (n : Nat) (hn : n = L.length) (z : Int) (ad : Addr) (hs : a.eval s = v) (hx : a.eval x = .slice (some ad) 1 1) (hown : Rw w0 v L w) (hl : n ≤ 100000) (hk0 : w0.heap.size ≤ w.heap.size)
    (hz : ∀ j u, [Value.int .i64 z][j]? = some u → w.cell? (ad.add j) = some u)
    (h : ∀ g cap w', Rw w0 (.slice (some ⟨g, 0, none⟩) (n + 1) cap) (L ++ [z]) w' → Kp (blk v) w w' → (g ∈ blk v ∨ w.heap.size ≤ g) → wpList Tryz.prog ops Q rest (a.put o.dst (.slice (some ⟨g, 0, none⟩) (n + 1) cap)) w') : wpList Tryz.prog ops Q (o :: rest) a w := by
  subst hn
  obtain ⟨g, cap, w', hrun, r1, r2, r3⟩ := run_append_snoc (w0 := w0) v L z ad hown hl hk0 hz o.type
  exact wpList_append_eq hgd s x 37 ho _ _ _ hs hx hrun (h g cap w' r1 r2 r3)
theorem step_append_eq {P : Program} {w2 : World} (hgd : o.guard = none) (s x : Operand) (t : TypeId) (ho : o.op = .call { callee := .builtin .append, args := #[s, x], argTypes := #[t, t] }) (sv xv v : Value) (hs : a.eval s = sv) (hx : a.eval x = xv)
    (hrun : (Builtin.append_ #[t, t] o.type #[sv, xv]).run P w = .ok v w2) (hK : K (a.put o.dst v) w2) : if Region.wanted o (yielded ops a.tmps) = true then Oper.wp P o a w K Q else E := by
  have hw : Region.wanted o (yielded ops a.tmps) = true := by simp [Region.wanted, hgd]
  rw [if_pos hw]
  unfold Oper.wp
  simp [execOp, ho, resolve, invoke, builtin, hs, hx, hrun, Result.andThen]
  exact hK
theorem step_append_cp (hgd : o.guard = none) (s x : Operand) (ho : o.op = .call { callee := .builtin .append, args := #[s, x], argTypes := #[37, 37] }) (u : Value) (L : List Int) (n : Nat) (hn : n = L.length) (hs : a.eval s = .slice none 0 0) (hx : a.eval x = u) (hr : Rd w u L) (hl : n ≤ 100000) (hk0 : Kp [] w0 w)
    (h : ∀ ao cap w', Rw w0 (.slice ao n cap) L w' → Kp [] w w' → K (a.put o.dst (.slice ao n cap)) w') : if Region.wanted o (yielded ops a.tmps) = true then Oper.wp Tryz.prog o a w K Q else E := by
  subst hn
  obtain ⟨ao, cap, w', hrun, r1, r2⟩ := run_append_cp (w0 := w0) u L hr hl hk0 o.type
  exact step_append_eq hgd s x 37 ho _ _ _ hs hx hrun (h ao cap w' r1 r2)
theorem step_append_snoc (hgd : o.guard = none) (s x : Operand) (ho : o.op = .call { callee := .builtin .append, args := #[s, x], argTypes := #[37, 37] }) (v : Value) (L : List Int) (n : Nat) (hn : n = L.length) (z : Int) (ad : Addr) (hs : a.eval s = v) (hx : a.eval x = .slice (some ad) 1 1) (hown : Rw w0 v L w) (hl : n ≤ 100000) (hk0 : Kp [] w0 w)
    (hz : ∀ j u, [Value.int .i64 z][j]? = some u → w.cell? (ad.add j) = some u)
    (h : ∀ g cap w', Rw w0 (.slice (some ⟨g, 0, none⟩) (n + 1) cap) (L ++ [z]) w' → Ky w w' → Kp [] w0 w' → K (a.put o.dst (.slice (some ⟨g, 0, none⟩) (n + 1) cap)) w') : if Region.wanted o (yielded ops a.tmps) = true then Oper.wp Tryz.prog o a w K Q else E := by
  subst hn
  obtain ⟨g, cap, w', hrun, r1, r2, r3⟩ := run_append_snoc (w0 := w0) v L z ad hown hl hk0.size hz o.type
  obtain ⟨k0, ky⟩ := hown.turned r2 hk0
  exact step_append_eq hgd s x 37 ho _ _ _ hs hx hrun (h g cap w' r1 ky k0)
end

end Go.Proofs.YtmbhhadghiojeaaGreat
