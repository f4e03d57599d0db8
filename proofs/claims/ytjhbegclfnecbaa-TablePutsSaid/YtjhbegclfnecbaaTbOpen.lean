/- An entry that comes in as an argument is opened to its four numbers. Conditions: its type is one of the two entry types. -/
import Derived.Test.YtjhbegclfnecbaaRows
import Derived.Test.YtjhbegclfnecbaaOpenS
namespace Go.Proofs.Ytjhbegclfnecbaa
set_option linter.unusedVariables false
set_option linter.unusedSimpArgs false
open Go.ChangeShapes Go.WideShapes Go.ChangeAt Go.RowKit Go.Joins Go.Deep

/-- An entry that came in: its four values, each within its kind. -/
theorem open_entry {H : Type} {enc : TypeId × Value → H} {w : World} {base : Nat} {spare : Nat → Bool} {held : Bool} {r : Reach} {b0 : Nat} {t : TypeId} {v : Value} {d : DataW H} {p : List MemPlace}
    (ht : t = 28 ∨ t = 23) (hv : Value.okWide Try.prog w r b0 t v) (h : DataW.Trod enc Try.prog w base spare held t v d p) :
    ∃ (k c r o : Int), v = .agg #[.int .u8 k, .int .u8 c, .int .u8 r, .int .u8 o] ∧ (0 ≤ k ∧ k ≤ 255) ∧ (0 ≤ c ∧ c ≤ 255) ∧ (0 ≤ r ∧ r ≤ 255) ∧ (0 ≤ o ∧ o ≤ 255) := by
  have key : ∃ (cs : List Value) (n : Nat), v = .agg cs.toArray ∧ cs.length = 4 ∧ ∀ i, i < 4 → ∃ y, DataW.trod enc Try.prog w base spare held n 5 [cs.getD i undef] = some y := by
    rcases ht with rfl | rfl
    · obtain ⟨cs, n, h1, h2, h3⟩ := open_struct 4 Try.underlying28 (by kernel_rfl) (by kernel_rfl) rfl hv h
      exact ⟨cs, n, h1, h2, fun i hi => by
        have hh : i = 0 ∨ i = 1 ∨ i = 2 ∨ i = 3 := by omega
        rcases hh with rfl | rfl | rfl | rfl
        · exact h3 0 _ rfl
        · exact h3 1 _ rfl
        · exact h3 2 _ rfl
        · exact h3 3 _ rfl⟩
    · obtain ⟨cs, n, h1, h2, h3⟩ := open_struct 4 Try.underlying23 (by kernel_rfl) (by kernel_rfl) rfl hv h
      exact ⟨cs, n, h1, h2, fun i hi => by
        have hh : i = 0 ∨ i = 1 ∨ i = 2 ∨ i = 3 := by omega
        rcases hh with rfl | rfl | rfl | rfl
        · exact h3 0 _ rfl
        · exact h3 1 _ rfl
        · exact h3 2 _ rfl
        · exact h3 3 _ rfl⟩
  obtain ⟨cs, n, rfl, hl, hh⟩ := key
  match cs, hl with
  | [v0, v1, v2, v3], _ =>
    obtain ⟨y0, h0⟩ := hh 0 (by omega)
    obtain ⟨y1, h1⟩ := hh 1 (by omega)
    obtain ⟨y2, h2⟩ := hh 2 (by omega)
    obtain ⟨y3, h3⟩ := hh 3 (by omega)
    obtain ⟨k, e0, _, w0⟩ := DataW.trod_int Try.underlying5 h0
    obtain ⟨c, e1, _, w1⟩ := DataW.trod_int Try.underlying5 h1
    obtain ⟨r, e2, _, w2⟩ := DataW.trod_int Try.underlying5 h2
    obtain ⟨o, e3, _, w3⟩ := DataW.trod_int Try.underlying5 h3
    simp at e0 e1 e2 e3
    subst e0 e1 e2 e3
    exact ⟨k, c, r, o, rfl, bounds_u8 w0, bounds_u8 w1, bounds_u8 w2, bounds_u8 w3⟩

end Go.Proofs.Ytjhbegclfnecbaa
