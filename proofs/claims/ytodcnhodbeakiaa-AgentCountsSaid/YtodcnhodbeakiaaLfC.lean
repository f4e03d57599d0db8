/- The veiled twin, through the operations' own words: loads, stores, variables, types, numbers, panics. Of whatever program. Conditions: none. -/
import Derived.Test.YtodcnhodbeakiaaLfB
import GoSem.Dispatch
namespace Go.Proofs.Ytodcnhodbeakiaa
set_option linter.unusedVariables false
set_option linter.unusedSimpArgs false

section
variable {V : Veil} {P : Program} {α β : Type}

abbrev SimT {α : Type} (V : Veil) (P : Program) (s : Sem α) : Prop := Sim V P s fun _ => True

theorem Sim.toT {s : Sem α} {Q : α → Prop} (h : Sim V P s Q) : SimT V P s := h.mono fun _ _ => trivial
theorem SimT.unsup {u : Unsupported} {Q : α → Prop} (hu : (match u with | .initOrder _ => False | _ => True)) : Sim V P (Go.unsupported u : Sem α) Q := Sim.unsupported fun g e => by subst e; exact hu
theorem SimT.newObj (o : Obj) (ho : NiceO o) : SimT V P (Go.newObj o) := (Sim.newObj o ho).toT
theorem SimT.program : SimT V P Go.program := Sim.program.toT
theorem SimT.map {s : Sem α} {f : α → β} (h : SimT V P s) : SimT V P (f <$> s) := by
  show SimT V P (s.bind fun a => .pure (f a))
  exact Sim.bindT h fun _ => Sim.pureT

theorem simT_typeInfo (t : TypeId) : SimT V P (typeInfo t) := by
  unfold typeInfo
  refine Sim.bindT SimT.program fun p => ?_
  split
  · exact Sim.pureT
  · exact Sim.stuck
theorem simT_underlying (t : TypeId) : SimT V P (underlying t) := by
  unfold underlying
  refine Sim.bindT SimT.program fun p => ?_
  split
  · exact Sim.pureT
  · exact Sim.stuck
theorem simT_zeroValue (t : TypeId) : SimT V P (zeroValue t) := by
  unfold zeroValue
  refine Sim.bindT (simT_typeInfo t) fun p => ?_
  split
  · exact Sim.pureT
  · exact SimT.unsup trivial
theorem simT_sizeOf (t : TypeId) : SimT V P (sizeOf t) := by
  unfold sizeOf
  exact Sim.bindT (simT_typeInfo t) fun p => Sim.pureT
theorem simT_isAgg (t : TypeId) : SimT V P (isAgg t) := by
  unfold isAgg
  refine Sim.bindT (simT_underlying t) fun p => ?_
  split <;> exact Sim.pureT
theorem simT_loadCellsFrom (a : Addr) : ∀ (n i : Nat) (acc : Array Value), SimT V P (loadCellsFrom a i n acc)
  | 0, i, acc => Sim.pureT
  | n + 1, i, acc => by
    unfold loadCellsFrom
    exact Sim.bindT (Sim.load _ _) fun v => simT_loadCellsFrom a n (i + 1) _
theorem simT_loadCells (a : Addr) (n : Nat) : SimT V P (loadCells a n) := simT_loadCellsFrom a n 0 _
theorem simT_storeCells (a : Addr) : ∀ (vs : List Value) (i : Nat), SimT V P (storeCells a vs i)
  | [], i => Sim.pureT
  | v :: rest, i => by
    unfold storeCells
    exact Sim.bindT (Sim.store _ _ _) fun _ => simT_storeCells a rest (i + 1)
theorem simT_loadVar (t : TypeId) (a : Addr) : SimT V P (loadVar t a) := by
  unfold loadVar
  refine Sim.bindT (simT_isAgg t) fun b => ?_
  split
  · exact Sim.bindT (simT_sizeOf t) fun n => Sim.bindT (simT_loadCells a n) fun _ => Sim.pureT
  · exact Sim.load _ _
theorem simT_storeVar (t : TypeId) (a : Addr) (v : Value) : SimT V P (storeVar t a v) := by
  unfold storeVar
  refine Sim.bindT (simT_sizeOf t) fun n => ?_
  split
  · exact Sim.bindT Sim.stuck fun _ => simT_storeCells _ _ _
  · exact simT_storeCells _ _ _
theorem simT_newRow (t : TypeId) (cs : Array Value) : SimT V P (newRow t cs) := by
  unfold newRow
  exact Sim.bindT (SimT.newObj _ trivial) fun _ => Sim.pureT
theorem simT_newVar (t : TypeId) (v : Value) : SimT V P (newVar t v) := simT_newRow t _
theorem simT_part (t : TypeId) (cs : Array Value) (off : Nat) : SimT V P (part t cs off) := by
  unfold part
  refine Sim.bindT (simT_isAgg t) fun b => ?_
  split
  · exact Sim.bindT (simT_sizeOf t) fun n => Sim.pureT
  · split
    · exact Sim.pureT
    · exact Sim.stuck
theorem simT_elemOf (t : TypeId) : SimT V P (elemOf t) := by
  unfold elemOf
  refine Sim.bindT (simT_underlying t) fun d => ?_
  split
  · exact Sim.pureT
  · exact Sim.stuck
theorem simT_runtimePanic (e : RuntimeError) {Q : α → Prop} : Sim V P (runtimePanic e : Sem α) Q := by
  unfold runtimePanic
  refine Sim.bind (Q := fun _ => True) SimT.program fun p _ => ?_
  cases e with
  | typeAssertion i c a m => exact Sim.bind (Q := fun _ => True) (simT_elemOf _) fun _ _ => Sim.bind (Q := fun _ => True) (simT_newVar _ _) fun _ _ => Sim.goPanic
  | panicNil => exact Sim.bind (Q := fun _ => True) (simT_elemOf _) fun _ _ => Sim.bind (Q := fun _ => True) (simT_newVar _ _) fun _ _ => Sim.goPanic
  | _ => exact Sim.goPanic
theorem simT_boundsPanic (k : IntKind) (x y : Int) (c : BoundsCode) {Q : α → Prop} : Sim V P (boundsPanic k x y c : Sem α) Q := by
  unfold boundsPanic
  dsimp only
  split
  · exact Sim.bind (Q := fun _ => True) (SimT.map (Sim.choose _)) fun _ _ => simT_runtimePanic _
  · exact Sim.bind (Q := fun _ => True) Sim.pureT fun _ _ => simT_runtimePanic _
theorem simT_asIntOf (v : Value) : SimT V P (asIntOf v) := by
  unfold asIntOf
  split
  · exact Sim.pureT
  · exact SimT.unsup trivial
  · exact Sim.stuck
theorem simT_asInt (v : Value) : SimT V P (asInt v) := Sim.bindT (simT_asIntOf v) fun _ => Sim.pureT
theorem simT_asBool (v : Value) : SimT V P (asBool v) := by
  unfold asBool
  split
  · exact Sim.pureT
  · exact Sim.stuck
theorem simT_asString (v : Value) : SimT V P (asString v) := by
  unfold asString
  split
  · exact Sim.pureT
  · exact Sim.stuck
theorem simT_asAgg (v : Value) : SimT V P (asAgg v) := by
  unfold asAgg
  split
  · exact Sim.pureT
  · exact Sim.stuck
theorem simT_asAddr (v : Value) : SimT V P (asAddr v) := by
  unfold asAddr
  split
  · exact Sim.pureT
  · exact simT_runtimePanic _
  · exact Sim.stuck
theorem simT_sureAddr (v : Value) : SimT V P (Instr.sureAddr v) := by
  unfold Instr.sureAddr
  split
  · exact Sim.pureT
  · exact Sim.stuck
theorem simT_askRoom (n : Nat) : SimT V P (askRoom n) := by
  unfold askRoom
  split
  · exact Sim.mark _ (by simp) (by simp) (by simp)
  · exact Sim.pureT
end
end Go.Proofs.Ytodcnhodbeakiaa
