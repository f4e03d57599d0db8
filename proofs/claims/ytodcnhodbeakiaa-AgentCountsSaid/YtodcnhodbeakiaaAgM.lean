/- The program as a whole: every code of it is of operations that go in a veiled twin as in the world. Conditions: none. -/
import Derived.Test.YtodcnhodbeakiaaLfO
import Derived.Test.YtodcnhodbeakiaaChecked
namespace Go.Proofs.Ytodcnhodbeakiaa
set_option linter.unusedVariables false
set_option linter.unusedSimpArgs false
set_option maxRecDepth 100000

theorem mild_code : (Try.prog.funcs.all fun fn => match fn.body with | some c => codeOK Try.prog c | none => true) = true := by kernel_rfl
theorem mild_goro : (Try.prog.funcs.all fun fn => !(fn.name == "runtime.NumGoroutine")) = true := by kernel_rfl
theorem mild_next : (Try.prog.funcs.all fun fn => fn.body.isSome || (Extern.findNext fn).isNone) = true := by kernel_rfl
theorem mild_ext : ((List.range Try.prog.funcs.size).all fun i => (Try.prog.funcs[i]?).all fun fn => fn.body.isSome || (Extern.find fn).isNone || [93, 94, 95, 96, 97, 98, 99, 100, 101, 102, 103, 104, 106, 107, 121].contains i) = true := by kernel_rfl
theorem mild_row0 : (Try.prog.funcs[93]?).map Extern.find = some (Extern.RuntimeError.rows.lookup "(runtime.boundsError).Error") := by kernel_rfl
theorem mild_row1 : (Try.prog.funcs[94]?).map Extern.find = some (Extern.RuntimeError.rows.lookup "(runtime.boundsError).RuntimeError") := by kernel_rfl
theorem mild_row2 : (Try.prog.funcs[95]?).map Extern.find = some (Extern.RuntimeError.rows.lookup "(runtime.errorString).Error") := by kernel_rfl
theorem mild_row3 : (Try.prog.funcs[96]?).map Extern.find = some (Extern.RuntimeError.rows.lookup "(runtime.errorString).RuntimeError") := by kernel_rfl
theorem mild_row4 : (Try.prog.funcs[97]?).map Extern.find = some (Extern.RuntimeError.rows.lookup "(runtime.plainError).Error") := by kernel_rfl
theorem mild_row5 : (Try.prog.funcs[98]?).map Extern.find = some (Extern.RuntimeError.rows.lookup "(runtime.plainError).RuntimeError") := by kernel_rfl
theorem mild_row6 : (Try.prog.funcs[99]?).map Extern.find = some (Extern.RuntimeError.rows.lookup "(runtime.errorAddressString).Error") := by kernel_rfl
theorem mild_row7 : (Try.prog.funcs[100]?).map Extern.find = some (Extern.RuntimeError.rows.lookup "(runtime.errorAddressString).RuntimeError") := by kernel_rfl
theorem mild_row8 : (Try.prog.funcs[101]?).map Extern.find = some (Extern.RuntimeError.rows.lookup "(*runtime.TypeAssertionError).Error") := by kernel_rfl
theorem mild_row9 : (Try.prog.funcs[102]?).map Extern.find = some (Extern.RuntimeError.rows.lookup "(*runtime.TypeAssertionError).RuntimeError") := by kernel_rfl
theorem mild_row10 : (Try.prog.funcs[103]?).map Extern.find = some (Extern.RuntimeError.rows.lookup "(*runtime.PanicNilError).Error") := by kernel_rfl
theorem mild_row11 : (Try.prog.funcs[104]?).map Extern.find = some (Extern.RuntimeError.rows.lookup "(*runtime.PanicNilError).RuntimeError") := by kernel_rfl
theorem mild_row12 : (Try.prog.funcs[106]?).map Extern.find = some (Extern.RuntimeError.rows.lookup "(internal/runtime/maps.unhashableTypeError).Error") := by kernel_rfl
theorem mild_row13 : (Try.prog.funcs[107]?).map Extern.find = some (Extern.RuntimeError.rows.lookup "(internal/runtime/maps.unhashableTypeError).RuntimeError") := by kernel_rfl
theorem mild_kind : (Try.prog.funcs[121]?).map Extern.find = some (some fun args => do pure (strVal (Extern.Rtype.kindName (← asInt (args.getD 0 (.tuple #[]))).toNat))) := by kernel_rfl

theorem all_get {α : Type} {l : Array α} {p : α → Bool} (h : l.all p = true) {i : Nat} {x : α} (hx : l[i]? = some x) : p x = true := by
  rw [Array.all_eq_true_iff_forall_mem] at h
  exact h x (Array.mem_of_getElem? hx)

theorem row_sim {f : FuncId} {fn : Func} {n : String} (hr : (Try.prog.funcs[f]?).map Extern.find = some (Extern.RuntimeError.rows.lookup n)) (hf : Try.prog.funcs[f]? = some fn) {e : Array Value → Sem Value} (he : Extern.find fn = some e) (V : Veil) (args : Array Value) : SimT V Try.prog (e args) := by
  rw [hf, Option.map_some, he] at hr
  exact simT_errorRow (Option.some.inj hr).symm args

theorem mild : Mild2 Try.prog where
  goro f fn hf := by simpa using all_get mild_goro hf
  code f fn c hf hb := by have := all_get mild_code hf; rw [hb] at this; exact this
  ext f fn hf hb := by
    have hb' : fn.body.isSome = false := by cases h : fn.body <;> simp_all
    have h1 := all_get mild_next hf
    rw [hb', Bool.false_or] at h1
    refine ⟨by simpa using h1, fun e he V args => ?_⟩
    have h2 := mild_ext
    rw [List.all_eq_true] at h2
    have h3 := h2 f (List.mem_range.2 (Array.getElem?_eq_some_iff.1 hf).1)
    rw [hf] at h3
    simp only [Option.all_some, hb', he, Bool.false_or, Option.isNone_some] at h3
    simp only [List.contains_eq_mem, List.mem_cons, List.not_mem_nil, or_false, decide_eq_true_eq] at h3
    rcases h3 with rfl | rfl | rfl | rfl | rfl | rfl | rfl | rfl | rfl | rfl | rfl | rfl | rfl | rfl | rfl
    · exact row_sim mild_row0 hf he V args
    · exact row_sim mild_row1 hf he V args
    · exact row_sim mild_row2 hf he V args
    · exact row_sim mild_row3 hf he V args
    · exact row_sim mild_row4 hf he V args
    · exact row_sim mild_row5 hf he V args
    · exact row_sim mild_row6 hf he V args
    · exact row_sim mild_row7 hf he V args
    · exact row_sim mild_row8 hf he V args
    · exact row_sim mild_row9 hf he V args
    · exact row_sim mild_row10 hf he V args
    · exact row_sim mild_row11 hf he V args
    · exact row_sim mild_row12 hf he V args
    · exact row_sim mild_row13 hf he V args
    · have hk := mild_kind
      rw [hf, Option.map_some, he] at hk
      obtain rfl := Option.some.inj (Option.some.inj hk)
      exact Sim.bindT (simT_asInt _) fun _ => Sim.pureT
end Go.Proofs.Ytodcnhodbeakiaa
