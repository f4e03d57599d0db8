/- The run-time's own errors tell of themselves in the twin as in the world. Of whatever program. Conditions: none. -/
import Derived.Test.YtodcnhodbeakiaaLfN
namespace Go.Proofs.Ytodcnhodbeakiaa
set_option linter.unusedVariables false
set_option linter.unusedSimpArgs false

section
variable {V : Veil} {P : Program}
open Go.Extern.RuntimeError

theorem simT_text (s : String) : SimT V P (text s) := Sim.pureT
theorem simT_typeStr (t : TypeId) : SimT V P (typeStr t) := by
  unfold typeStr
  repeat' (first
    | with_reducible exact Sim.pureT
    | with_reducible exact Sim.stuck
    | exact SimT.unsup trivial
    | with_reducible exact simT_typeInfo _
    | with_reducible exact SimT.program
    | (with_reducible refine Sim.bindT ?_ fun _ => ?_)
    | (with_reducible refine Sim.ite (fun _ => ?_) (fun _ => ?_))
    | split
    | dsimp only)
theorem simT_described (v : Value) : SimT V P (described v) := by
  unfold described
  repeat' (first
    | with_reducible exact Sim.pureT
    | with_reducible exact Sim.stuck
    | exact SimT.unsup trivial
    | with_reducible exact simT_typeInfo _
    | with_reducible exact simT_typeStr _
    | with_reducible exact SimT.program
    | (with_reducible refine Sim.bindT ?_ fun _ => ?_)
    | (with_reducible refine Sim.ite (fun _ => ?_) (fun _ => ?_))
    | split
    | dsimp only)
theorem simT_pkgpathOf (i : TypeInfo) : SimT V P (pkgpathOf i) := by
  unfold pkgpathOf
  repeat' (first
    | with_reducible exact Sim.pureT
    | with_reducible exact Sim.stuck
    | exact SimT.unsup trivial
    | with_reducible exact simT_typeInfo _
    | (with_reducible refine Sim.bindT ?_ fun _ => ?_)
    | (with_reducible refine Sim.ite (fun _ => ?_) (fun _ => ?_))
    | split
    | dsimp only)
theorem simT_boundsError (args : Array Value) : SimT V P (boundsError args) := by
  rcases args with ⟨_ | ⟨x, _ | ⟨y, l⟩⟩⟩
  · exact Sim.stuck
  · cases x <;> first | exact Sim.stuck | skip
    rename_i a
    rcases a with ⟨_ | ⟨x1, _ | ⟨x2, _ | ⟨x3, _ | ⟨x4, _ | ⟨x5, l⟩⟩⟩⟩⟩⟩ <;> first | exact Sim.stuck | skip
    · cases x1 <;> first | exact Sim.stuck | skip
      cases x2 <;> first | exact Sim.stuck | skip
      cases x3 <;> first | exact Sim.stuck | skip
      cases x4 <;> first | exact Sim.stuck | skip
      rename_i k1 x k2 y sg k3 code
      show SimT V P (match (if (sg && decide (x < 0)) = true then boundsNegErrorFmts else boundsErrorFmts)[code.toNat]? with
        | some fmt => text _
        | none => stuck "boundsError: no such code")
      split
      · exact simT_text _
      · exact Sim.stuck
  · cases x <;> exact Sim.stuck
theorem simT_unhashable (args : Array Value) : SimT V P (unhashableTypeError args) := by
  rcases args with ⟨_ | ⟨x, _ | ⟨y, l⟩⟩⟩
  · exact Sim.stuck
  · cases x <;> first | exact Sim.stuck | skip
    rename_i a
    rcases a with ⟨_ | ⟨x1, _ | ⟨x2, l⟩⟩⟩ <;> first | exact Sim.stuck | skip
    refine Sim.bindT (simT_described x1) fun o => ?_
    cases o with
    | none => exact simT_runtimePanic _
    | some t => exact simT_text _
  · cases x <;> exact Sim.stuck
theorem simT_typeAssertionError (args : Array Value) : SimT V P (typeAssertionError args) := by
  unfold typeAssertionError
  repeat' (first
    | with_reducible exact Sim.pureT
    | with_reducible exact Sim.stuck
    | exact SimT.unsup trivial
    | exact simT_text _
    | exact simT_runtimePanic _
    | with_reducible exact simT_described _
    | with_reducible exact simT_pkgpathOf _
    | with_reducible exact simT_asAddr _
    | with_reducible exact simT_asString _
    | with_reducible exact Sim.load _ _
    | (with_reducible refine Sim.bindT ?_ fun _ => ?_)
    | (with_reducible refine Sim.ite (fun _ => ?_) (fun _ => ?_))
    | split
    | dsimp only)

/-- A row of the run-time's own errors. -/
theorem simT_errorRow {n : String} {e : Array Value → Sem Value} (h : rows.lookup n = some e) (args : Array Value) : SimT V P (e args) := by
  have hm := List.lookup_eq_some_iff.1 h
  obtain ⟨l₁, l₂, hl, _⟩ := hm
  have hin : (n, e) ∈ rows := by rw [hl]; simp
  simp only [rows, List.mem_cons, List.not_mem_nil, or_false, Prod.mk.injEq] at hin
  rcases hin with ⟨_, rfl⟩ | ⟨_, rfl⟩ | ⟨_, rfl⟩ | ⟨_, rfl⟩ | ⟨_, rfl⟩ | ⟨_, rfl⟩ | ⟨_, rfl⟩ | ⟨_, rfl⟩ | ⟨_, rfl⟩ | ⟨_, rfl⟩ | ⟨_, rfl⟩ | ⟨_, rfl⟩ | ⟨_, rfl⟩ | ⟨_, rfl⟩ | ⟨_, rfl⟩
  · exact Sim.bindT (simT_asString _) fun _ => Sim.pureT
  · exact Sim.bindT (simT_asString _) fun _ => Sim.pureT
  · exact Sim.bindT (simT_asAgg _) fun _ => Sim.bindT (simT_asString _) fun _ => Sim.pureT
  · exact Sim.bindT (simT_asAgg _) fun _ => Sim.bindT (simT_asInt _) fun _ => Sim.pureT
  · exact simT_boundsError _
  · exact simT_typeAssertionError _
  · exact simT_text _
  · exact simT_unhashable _
  all_goals exact Sim.pureT
end
end Go.Proofs.Ytodcnhodbeakiaa
