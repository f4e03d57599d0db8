/- The walks of package stack: New, Len, Push, Pop, Over, and all of them at nil. Conditions: as each theorem states them. -/
import Derived.Test.YthckpljkdfkcnaaSkB
import Derived.WalkKit
import Derived.WalkSpells
import Derived.WalkLawsBesides
import Derived.BigQuiet
import Derived.RegionTactic
import Derived.ArgAppend
import Derived.Laws.CopyRow
import Derived.Deep.WholeRow
import Derived.Lib.Hide
namespace Go.Proofs.Ythckpljkdfkcnaa
set_option linter.unusedVariables false
set_option linter.unusedSimpArgs false
open Go.RowKit

def iv (g : Nat → Int) : Array Value := ((List.range 64).map fun i => Value.int .i64 (g i)).toArray
theorem iv_size (g : Nat → Int) : (iv g).size = 64 := by simp [iv]
theorem iv_zero (w : World) : (zeroValue 44).run Try.prog w = .ok (.agg (iv fun _ => 0)) w :=
  (zero_of_info (show (Try.prog.info? 44).map (fun i => (i.zero, i.size)) = some (some (.agg (iv fun _ => 0)), 64) from by kernel_rfl)).1 w

theorem new_bad (w : World) (n : Int) (h : n < 1 ∨ 64 < n) : Calls Try.prog 7 #[.int .i64 n] w fun e w' => e = .returned (.tuple #[.pointer none, .int .i64 2]) ∧ w' = w := by
  rcases h with h | h
  · go_enter Try.func7, Try.ntmps7
    go_wp2
    go_ret2
    exact ⟨rfl, rfl⟩
  · have h1 : ¬ n < 1 := by omega
    go_enter Try.func7, Try.ntmps7
    go_wp2
    go_ret2
    exact ⟨rfl, rfl⟩

theorem new_good (w : World) (n : Nat) (h1 : 1 ≤ n) (h2 : n ≤ 64) : Calls Try.prog 7 #[.int .i64 n] w fun e w' => e = .returned (.tuple #[.pointer (some ⟨w.heap.size + 1, 0, none⟩), .int .i64 0]) ∧ Sk w' (w.heap.size + 1) w.heap.size n [] false ∧ Kp [] w w' := by
  have hz := iv_zero
  go_enter Try.func7, Try.ntmps7
  go_wp2
  go_ret2
  refine ⟨rfl, ⟨?_, ⟨iv fun _ => 0, heap_alloc2_old _ _ _, iv_size _, fun i hi => by simp at hi⟩, Nat.zero_le _, h2⟩, ((Kp.refl _ _).alloc _).alloc _⟩
  have := heap_alloc_new (w.alloc (Obj.cells (iv fun _ => 0) 44)) (Obj.cells #[.bool false, .slice (some ⟨w.heap.size, 0, none⟩) 0 n] 48)
  rw [World.size_alloc] at this
  exact this

theorem len_any (w : World) (p r n : Nat) (L : List Int) (o : Bool) (h : Sk w p r n L o) :
    Calls Try.prog 14 #[.pointer (some ⟨p, 0, none⟩)] w fun e w' => e = .returned (.int .i64 L.length) ∧ w = w' := by
  have hc1 := h.c1
  go_enter Try.func14, Try.ntmps14
  go_wp2
  go_ret
  exact ⟨rfl, rfl⟩
theorem len_nil (w : World) : Calls Try.prog 14 #[.pointer none] w fun e w' => e = .returned (.int .i64 0) ∧ w = w' := by
  go_enter Try.func14, Try.ntmps14
  go_wp2
  go_ret
  exact ⟨rfl, rfl⟩

theorem happens_is (w : World) (p : Nat) (o : Bool) (h : w.cell? ⟨p, 0, none⟩ = some (.bool o)) (hf : w.frozen? ⟨p, 0, none⟩ = false) :
    Calls Try.prog 16 #[.pointer (some ⟨p, 0, none⟩)] w fun e w' => e = .returned (.tuple #[]) ∧ w.setCell ⟨p, 0, none⟩ (.bool true) = w' := by
  go_enter Try.func16, Try.ntmps16
  go_wp2
  go_end0
  exact ⟨rfl, rfl⟩
theorem ask_is (w : World) (p : Nat) (o : Bool) (h : w.cell? ⟨p, 0, none⟩ = some (.bool o)) (hf : w.frozen? ⟨p, 0, none⟩ = false) :
    Calls Try.prog 15 #[.pointer (some ⟨p, 0, none⟩)] w fun e w' => e = .returned (.bool o) ∧ w.setCell ⟨p, 0, none⟩ (.bool false) = w' := by
  go_enter Try.func15, Try.ntmps15
  go_wp2
  go_ret
  exact ⟨rfl, rfl⟩

theorem over_any (w : World) (p r n : Nat) (L : List Int) (o : Bool) (h : Sk w p r n L o) :
    Calls Try.prog 10 #[.pointer (some ⟨p, 0, none⟩)] w fun e w' => e = .returned (.bool o) ∧ Sk w' p r n L false ∧ Kp [p, r] w w' := by
  have ha := ask_is w p o h.c0 (h.f 0)
  have hS := Lib.hid (And.intro (h.over false) ((Kp.refl [p, r] w).setCell (p := ⟨p, 0, none⟩) (.inl (by simp)) (.bool false)))
  clear h
  go_enter Try.func10, Try.ntmps10
  go_wp2_with ((with_reducible refine ha.mono ?_); rintro e w1 ⟨rfl, rfl⟩)
  go_ret
  exact ⟨rfl, hS.out⟩
theorem over_nil (w : World) : Calls Try.prog 10 #[.pointer none] w fun e w' => e = .returned (.bool false) ∧ w = w' := by
  go_enter Try.func10, Try.ntmps10
  go_wp2
  go_ret
  exact ⟨rfl, rfl⟩

theorem pop_nil (w : World) : Calls Try.prog 8 #[.pointer none] w fun e w' => e = .returned (.tuple #[.int .i64 0, .bool false]) ∧ w = w' := by
  have hl := len_nil w
  go_enter Try.func8, Try.ntmps8
  go_wp2_with ((with_reducible refine hl.mono ?_); rintro e w1 ⟨rfl, rfl⟩)
  go_ret2
  exact ⟨rfl, rfl⟩
theorem pop_empty (w : World) (p r n : Nat) (o : Bool) (h : Sk w p r n [] o) :
    Calls Try.prog 8 #[.pointer (some ⟨p, 0, none⟩)] w fun e w' => e = .returned (.tuple #[.int .i64 0, .bool false]) ∧ w = w' := by
  have hl := len_any w p r n [] o h
  clear h
  go_enter Try.func8, Try.ntmps8
  go_wp2_with ((with_reducible refine hl.mono ?_); rintro e w1 ⟨rfl, rfl⟩)
  go_ret2
  exact ⟨rfl, rfl⟩
theorem pop_some (w : World) (p r n : Nat) (L : List Int) (x : Int) (o : Bool) (h : Sk w p r n (L ++ [x]) o) :
    Calls Try.prog 8 #[.pointer (some ⟨p, 0, none⟩)] w fun e w' => e = .returned (.tuple #[.int .i64 x, .bool true]) ∧ Sk w' p r n L o ∧ Kp [p, r] w w' := by
  have hl := len_any w p r n _ o h
  have hc1 := h.c1
  have hcx : w.cell? ⟨r, L.length, none⟩ = some (.int .i64 x) := by
    rw [h.cr (by simp)]; simp [List.getD]
  have hf := h.f 1
  have hle := h.le
  have hm := h.most
  have hS := Lib.hid (And.intro h.pop ((Kp.refl [p, r] w).setCell (p := ⟨p, 1, none⟩) (.inl (by simp)) (.slice (some ⟨r, 0, none⟩) L.length n)))
  clear h
  have e1 : (L ++ [x]).length = L.length + 1 := by simp
  rw [e1] at hl hc1 hle
  clear e1
  generalize L.length = k at hl hc1 hcx hle hS
  go_enter Try.func8, Try.ntmps8
  go_wp2_with ((with_reducible refine hl.mono ?_); rintro e w1 ⟨rfl, rfl⟩)
  go_ret2
  exact ⟨rfl, hS.out⟩

theorem push_nil (w : World) (x : Int) : Calls Try.prog 12 #[.pointer none, .int .i64 x] w fun e w' => e = .returned (.bool false) ∧ w = w' := by
  go_enter Try.func12, Try.ntmps12
  go_wp2
  go_ret
  exact ⟨rfl, rfl⟩
theorem push_full (w : World) (p r n : Nat) (L : List Int) (x : Int) (o : Bool) (h : Sk w p r n L o) (hn : L.length = n) :
    Calls Try.prog 12 #[.pointer (some ⟨p, 0, none⟩), .int .i64 x] w fun e w' => e = .returned (.bool false) ∧ Sk w' p r n L true ∧ Kp [p, r] w w' := by
  have hc1 := fun j => (h.keep0 (kp_drewN w j)).c1
  have ha := fun j => happens_is (w.drewN j) p o (h.keep0 (kp_drewN w j)).c0 ((h.keep0 (kp_drewN w j)).f 0)
  have hS := Lib.hid (fun j => And.intro ((h.keep0 (kp_drewN w j)).over true) ((kp_drewN (S := [p, r]) w j).setCell (p := ⟨p, 0, none⟩) (.inl (by simp)) (.bool true)))
  have hm := h.most
  clear h
  rw [hn] at hc1
  clear hn
  go_enter Try.func12, Try.ntmps12
  go_wp2_with fail
  go_quiet (fail)
  go_wp2_with ((with_reducible refine (ha nq).mono ?_); rintro e w1 ⟨rfl, rfl⟩)
  go_ret
  exact ⟨rfl, hS.out nq⟩
theorem one_cell (x : Int) : ∀ u ∈ [Value.int .i64 x], u.oneCell' = true := by simp [Value.oneCell']
theorem news_one (w : World) (x : Int) (t : TypeId) (a : Addr) (ha : a = ⟨w.heap.size, 0, none⟩) : ∀ (j : Nat) (v : Value), [Value.int .i64 x][j]? = some v → (w.alloc (.cells #[.int .i64 x] t)).cell? (a.add j) = some v := by
  subst ha
  intro j v hv
  have hj : j = 0 := by
    have := (List.getElem?_eq_some_iff.1 hv).1
    simpa using this
  subst hj
  rw [Addr.add_lit, cell_of_row (heap_alloc_new w _)]
  simpa using hv
theorem int_info : (Try.prog.info? 3).map (fun i => (i.zero, i.size, i.bytes)) = some (some (.int .i64 0), 1, 8) := by kernel_rfl
/-- 'append' where there is room: the cell behind the last one is stored. -/
theorem append_room {w : World} {p r n : Nat} {L : List Int} {o : Bool} (h : Sk w p r n L o) (x : Int) (hn : L.length < n) (ty : TypeId) :
    (Builtin.append_ #[28, 28] ty #[.slice (some ⟨r, 0, none⟩) L.length n, .slice (some ⟨w.heap.size, 0, none⟩) 1 1]).run Try.prog (w.alloc (.cells #[.int .i64 x] 3)) = .ok (.slice (some ⟨r, 0, none⟩) (L.length + 1) n) ((w.alloc (.cells #[.int .i64 x] 3)).setCell ⟨r, L.length, none⟩ (.int .i64 x)) := by
  obtain ⟨i0, hi, hz0, hz1, hz2⟩ := info_parts int_info
  have hm := h.most
  have hk : Kp [] w (w.alloc (.cells #[.int .i64 x] 3)) := (Kp.refl _ _).alloc _
  have hr := (h.keep0 hk).room (i := L.length) (by omega)
  have := run_append_room_cells (P := Try.prog) (w.alloc (.cells #[.int .i64 x] 3)) 28 ty 3 i0 Try.underlying28 hi r 0 L.length n ⟨w.heap.size, 0, none⟩ 1 1 [.int .i64 x] (by rw [hz1]; rfl) (news_one w x _ _ rfl) (one_cell x) (by omega)
    (fun j hj => by
      have : j = 0 := by simpa using hj
      subst this; rw [hz1]; simpa using hr.1) (fun j hj => by
      have : j = 0 := by simpa using hj
      subst this; rw [hz1]; simpa using hr.2)
  rw [this, hz1]
  simp [World.setCells]
/-- The world behind that 'append'. -/
theorem append_world {w : World} {p r n : Nat} {L : List Int} {o : Bool} (h : Sk w p r n L o) (x : Int) (hn : L.length < n) :
    ∃ W2 : Nat → World, (∀ j ty, (Builtin.append_ #[28, 28] ty #[.slice (some ⟨r, 0, none⟩) L.length n, .slice (some ⟨w.heap.size, 0, none⟩) 1 1]).run Try.prog ((w.drewN j).alloc (.cells #[.int .i64 x] 3)) = .ok (.slice (some ⟨r, 0, none⟩) (L.length + 1) n) (W2 j)) ∧
      (∀ j, (W2 j).cell? ⟨p, 1, none⟩ = some (.slice (some ⟨r, 0, none⟩) L.length n)) ∧ (∀ j, (W2 j).frozen? ⟨p, 1, none⟩ = false) ∧
      ∀ j, Sk ((W2 j).setCell ⟨p, 1, none⟩ (.slice (some ⟨r, 0, none⟩) (L.length + 1) n)) p r n (L ++ [x]) o ∧ Kp [p, r] w ((W2 j).setCell ⟨p, 1, none⟩ (.slice (some ⟨r, 0, none⟩) (L.length + 1) n)) := by
  have k1 : ∀ j, Kp [] w ((w.drewN j).alloc (.cells #[.int .i64 x] 3)) := fun j => (kp_drewN w j).alloc _
  refine ⟨fun j => ((w.drewN j).alloc (.cells #[.int .i64 x] 3)).setCell ⟨r, L.length, none⟩ (.int .i64 x), fun j ty => append_room (h.keep0 (kp_drewN w j)) x hn ty, fun j => ?_, fun j => ?_, fun j => ⟨(h.keep0 (k1 j)).push x hn, ?_⟩⟩
  · have k2 : Kp [r] w (((w.drewN j).alloc (.cells #[.int .i64 x] 3)).setCell ⟨r, L.length, none⟩ (.int .i64 x)) := ((k1 j).mono (by simp)).setCell (.inl (by simp)) _
    exact k2.cell (by simpa using h.ne) h.c1
  · have k2 : Kp [r] w (((w.drewN j).alloc (.cells #[.int .i64 x] 3)).setCell ⟨r, L.length, none⟩ (.int .i64 x)) := ((k1 j).mono (by simp)).setCell (.inl (by simp)) _
    exact free_of_row (k2.row (by simpa using h.ne) h.hp) 1
  · exact (((k1 j).mono (by simp)).setCell (.inl (by simp)) _).setCell (.inl (by simp)) _
/-- An 'append' whose run is known. -/
theorem wpList_append_eq {P : Program} {w w2 : World} {ops : Array Oper} {rest : List Oper} {o : Oper} {a : Act} {Q : Exit → Act → World → Prop} (hgd : o.guard = none) (s x : Operand) (t : TypeId)
    (ho : o.op = .call { callee := .builtin .append, args := #[s, x], argTypes := #[t, t] }) (sv xv v : Value) (hs : a.eval s = sv) (hx : a.eval x = xv)
    (hrun : (Builtin.append_ #[t, t] o.type #[sv, xv]).run P w = .ok v w2) (hK : wpList P ops Q rest (a.put o.dst v) w2) : wpList P ops Q (o :: rest) a w := by
  refine wpList_plain hgd fun K hK' => ?_
  unfold Oper.wp
  simp [execOp, ho, resolve, invoke, builtin, hs, hx, hrun, Result.andThen]
  exact hK' _ _ hK
theorem push_room (w : World) (p r n : Nat) (L : List Int) (x : Int) (o : Bool) (h : Sk w p r n L o) (hn : L.length < n) :
    Calls Try.prog 12 #[.pointer (some ⟨p, 0, none⟩), .int .i64 x] w fun e w' => e = .returned (.bool true) ∧ Sk w' p r n (L ++ [x]) o ∧ Kp [p, r] w w' := by
  have hc1 := fun j => (h.keep0 (kp_drewN w j)).c1
  obtain ⟨W2, hap, c2, f2, hS⟩ := append_world h x hn
  have HS := Lib.hid hS
  have HA := Lib.hid hap
  have hm := h.most
  clear h hS hap
  generalize L.length = k at hc1 hn HA c2 HS
  go_enter Try.func12, Try.ntmps12
  go_wp2_with fail
  go_quiet (fail)
  go_wp2_with (at_builtin; refine wpList_append_eq rfl _ _ 28 rfl _ _ _ rfl rfl (HA.out nq _) ?_)
  go_ret
  exact ⟨rfl, HS.out nq⟩

/-- What Push makes of a stack. -/
def pushL (n : Nat) (L : List Int) (x : Int) : List Int := if L.length < n then L ++ [x] else L
theorem push_any (w : World) (p r n : Nat) (L : List Int) (x : Int) (o : Bool) (h : Sk w p r n L o) :
    Calls Try.prog 12 #[.pointer (some ⟨p, 0, none⟩), .int .i64 x] w fun e w' => e = .returned (.bool (decide (L.length < n))) ∧ Sk w' p r n (pushL n L x) (o || !decide (L.length < n)) ∧ Kp [p, r] w w' := by
  by_cases hn : L.length < n
  · refine (push_room w p r n L x o h hn).mono ?_
    rintro e w' ⟨rfl, hs, hk⟩
    simp only [pushL, if_pos hn, hn, decide_true, Bool.not_true, Bool.or_false]
    exact ⟨trivial, hs, hk⟩
  · refine (push_full w p r n L x o h (by have := h.le; omega)).mono ?_
    rintro e w' ⟨rfl, hs, hk⟩
    simp only [pushL, if_neg hn, hn, decide_false, Bool.not_false, Bool.or_true]
    exact ⟨trivial, hs, hk⟩
/-- What Pop answers of a stack. -/
def popX (L : List Int) : Int := L.getLastD 0
def popB (L : List Int) : Bool := !L.isEmpty
theorem pop_any (w : World) (p r n : Nat) (L : List Int) (o : Bool) (h : Sk w p r n L o) :
    Calls Try.prog 8 #[.pointer (some ⟨p, 0, none⟩)] w fun e w' => e = .returned (.tuple #[.int .i64 (popX L), .bool (popB L)]) ∧ Sk w' p r n L.dropLast o ∧ Kp [p, r] w w' := by
  rcases List.eq_nil_or_concat L with rfl | ⟨M, x, hM⟩
  · refine (pop_empty w p r n o h).mono ?_
    rintro e w' ⟨rfl, rfl⟩
    exact ⟨rfl, h, Kp.refl _ _⟩
  · rw [List.concat_eq_append] at hM
    subst hM
    refine (pop_some w p r n M x o h).mono ?_
    rintro e w' ⟨rfl, hs, hk⟩
    simp only [popX, popB]
    refine ⟨?_, by simpa using hs, hk⟩
    simp

theorem make_ints (n : Nat) (h2 : n ≤ 64) (w : World) : (Instr.makeSlice 28 (.int .i64 (n : Int)) (.int .i64 (n : Int))).run Try.prog w = .ok (.slice (some ⟨w.heap.size, 0, none⟩) n n) (w.alloc (.cells (ints (List.replicate n 0)).toArray 3)) := by
  obtain ⟨i, hi, hz0, hz1, hz2⟩ := info_parts int_info
  have := run_make (P := Try.prog) w 28 3 i (.int .i64 0) Try.underlying28 hi hz0 .i64 .i64 n n (by omega) (Int.le_refl _) (by rw [hz2]; omega) (by omega)
  rw [this, hz1]
  have e : madeCells #[.int .i64 0] n = (ints (List.replicate n 0)).toArray := by
    apply Array.ext'
    rw [toList_madeCells_one]
    simp [ints]
  simp [Value.cells, e]

theorem all_nil (w : World) : Calls Try.prog 13 #[.pointer none] w fun e w' => e = .returned (.slice (some ⟨w.heap.size, 0, none⟩) 0 0) ∧ Kp [] w w' := by
  have hl := len_nil w
  have hmk : ∀ w : World, (Instr.makeSlice 28 (.int .i64 0) (.int .i64 0)).run Try.prog w = .ok (.slice (some ⟨w.heap.size, 0, none⟩) 0 0) (w.alloc (.cells #[] 3)) := make_ints 0 (by omega)
  go_enter Try.func13, Try.ntmps13
  go_wp2_with ((with_reducible refine hl.mono ?_); rintro e w1 ⟨rfl, rfl⟩)
  go_ret
  exact ⟨rfl, (Kp.refl _ _).alloc _⟩

theorem ones_ints (xs : List Int) : ∀ v ∈ ints xs, v.oneCell' = true := by
  intro v hv
  obtain ⟨x, _, rfl⟩ := List.mem_map.1 hv
  rfl
/-- All: the places, in a row of their own. -/
theorem all_any (w : World) (p r n : Nat) (L : List Int) (o : Bool) (h : Sk w p r n L o) :
    Calls Try.prog 13 #[.pointer (some ⟨p, 0, none⟩)] w fun e w' => e = .returned (.slice (some ⟨w.heap.size, 0, none⟩) L.length L.length) ∧ w'.heap[w.heap.size]? = some (.cells (ints L).toArray 3 (0, 0)) ∧ Kp [] w w' := by
  have hl := len_any w p r n L o h
  have hm := h.most
  have hle := h.le
  have hmk := make_ints L.length (by omega)
  have hc1 := h.c1
  have hpl := h.lt.1
  have ha := heap_alloc_new w (Obj.cells (ints (List.replicate L.length 0)).toArray 3)
  have hkp : Kp [] w (w.alloc (Obj.cells (ints (List.replicate L.length 0)).toArray 3)) := (Kp.refl [] w).alloc _
  by_cases h0 : L = []
  · subst h0
    clear h hmk
    have hmk : ∀ w : World, (Instr.makeSlice 28 (.int .i64 0) (.int .i64 0)).run Try.prog w = .ok (.slice (some ⟨w.heap.size, 0, none⟩) 0 0) (w.alloc (.cells #[] 3)) := make_ints 0 (by omega)
    replace ha : (w.alloc (.cells #[] 3)).heap[w.heap.size]? = some (.cells #[] 3 (0, 0)) := ha
    replace hkp : Kp [] w (w.alloc (.cells #[] 3)) := hkp
    replace hl : Calls Try.prog 14 #[.pointer (some ⟨p, 0, none⟩)] w fun e w' => e = .returned (.int .i64 0) ∧ w = w' := hl
    change Calls _ _ _ _ fun e w' => e = .returned (.slice (some ⟨w.heap.size, 0, none⟩) 0 0) ∧ w'.heap[w.heap.size]? = some (.cells #[] 3 (0, 0)) ∧ Kp [] w w'
    go_enter Try.func13, Try.ntmps13
    go_wp2_with ((with_reducible refine hl.mono ?_); rintro e w1 ⟨rfl, rfl⟩)
    go_ret
    exact ⟨rfl, ha, hkp⟩
  · have hl0 : 0 < L.length := List.length_pos_iff.2 h0
    have hsrc : ∀ j v, (ints L)[j]? = some v → (w.alloc (Obj.cells (ints (List.replicate L.length 0)).toArray 3)).cell? ((⟨r, 0, none⟩ : Addr).add j) = some v := by
      intro j v hv
      have hj : j < L.length := by
        have := (List.getElem?_eq_some_iff.1 hv).1
        simpa [ints] using this
      rw [Addr.add_lit, Nat.zero_add, hkp.cell (by simp) (h.cr hj), ← hv, ints_get L j hj]
    have hcp := run_copy_row (P := Try.prog) (w.alloc (Obj.cells (ints (List.replicate L.length 0)).toArray 3)) 28 28 3 3 w.heap.size 0 L.length L.length ⟨r, 0, none⟩ L.length n (ints (List.replicate L.length 0)).toArray 3 (ints L)
      Try.underlying28 (by kernel_rfl) ha (by simp [ints]) hsrc (by simp [ints]) (ones_ints L)
    have e1 : ((ints (List.replicate L.length 0)).toArray.toList.take 0 ++ ints L ++ (ints (List.replicate L.length 0)).toArray.toList.drop (0 + (ints L).length)).toArray = (ints L).toArray := by
      simp [ints]
    rw [e1] at hcp
    have hend := setRow_heap (w.alloc (Obj.cells (ints (List.replicate L.length 0)).toArray 3)) w.heap.size _ (ints L).toArray 3 (0, 0) ha
    have hkp2 : Kp [] w ((w.alloc (Obj.cells (ints (List.replicate L.length 0)).toArray 3)).setRow w.heap.size (ints L).toArray) := hkp.setRow (.inr (Nat.le_refl _)) _
    clear hsrc e1 ha hkp h h0
    generalize (w.alloc (Obj.cells (ints (List.replicate L.length 0)).toArray 3)).setRow w.heap.size (ints L).toArray = w2 at hcp hend hkp2
    have HE := Lib.hid (And.intro hend hkp2)
    clear hend hkp2
    generalize (ints (List.replicate L.length 0)).toArray = zs at hmk hcp
    generalize L.length = k at hl hmk hc1 hcp hl0 hle
    go_enter Try.func13, Try.ntmps13
    go_wp2_with ((with_reducible refine hl.mono ?_); rintro e w1 ⟨rfl, rfl⟩)
    go_ret
    exact ⟨rfl, HE.out⟩

end Go.Proofs.Ythckpljkdfkcnaa
