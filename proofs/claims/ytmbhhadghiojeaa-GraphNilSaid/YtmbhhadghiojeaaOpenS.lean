/- An argument that is a struct of one-cell fields is opened to its values, of whatever program. Conditions: its type is a struct whose fields are one cell each. -/
import Derived.ProofKit
import Derived.Lib.SmallJoins
import Derived.OpenShut
namespace Go.Proofs.Ytmbhhadghiojeaa
set_option linter.unusedVariables false
set_option linter.unusedSimpArgs false
open Go.ChangeShapes Go.WideShapes Go.ChangeAt Go.RowKit Go.Joins Go.Deep

section
variable {H : Type} {enc : TypeId × Value → H} {P : Program} {w : World} {base : Nat} {spare : Nat → Bool} {held : Bool}
/-- The values of a struct's fields, each as its type reads it. -/
theorem open_struct {r : Reach} {b0 : Nat} {t : TypeId} {fs : Array Field} {v : Value} {d : DataW H} {p : List MemPlace} (m : Nat) (hs : P.underlying t = some (.struct fs)) (hone : oneCellFields P fs = true) (hC : P.cellsOf t = m) (hF : fs.size = m)
    (hv : Value.okWide P w r b0 t v) (h : DataW.Trod enc P w base spare held t v d p) :
    ∃ (cs : List Value) (n : Nat), v = .agg cs.toArray ∧ cs.length = m ∧ ∀ i f, fs[i]? = some f → ∃ y, DataW.trod enc P w base spare held n f.type [cs.getD i undef] = some y := by
  obtain ⟨cs, rfl, hsz⟩ := okWide_struct hs hv
  obtain ⟨fuel, hf⟩ := h
  obtain ⟨xs, n, _, hx, _, hlen, hg⟩ := DataW.trod_struct hs hf
  refine ⟨cs.toList, n, rfl, by simpa using hsz.trans hC, fun i f hi => ?_⟩
  obtain ⟨o0, k0⟩ := hone_of hone i f hi
  have hlt : i < fs.size := (Array.getElem?_eq_some_iff.1 hi).1
  have hcs : cs.size = fs.size := hsz.trans (hC.trans hF.symm)
  have hx' := hg i f hi
  rw [List.getElem?_eq_getElem (by omega)] at hx'
  refine ⟨xs[i]'(by omega), ?_⟩
  rw [← hx', o0, k0]
  congr 1
  have h1 : i < cs.toList.length := by simp; omega
  rw [Value.cells, List.drop_eq_getElem_cons h1]
  simp [List.getD, h1]
  rw [Array.getElem?_eq_getElem (by omega)]
  rfl
end

end Go.Proofs.Ytmbhhadghiojeaa
