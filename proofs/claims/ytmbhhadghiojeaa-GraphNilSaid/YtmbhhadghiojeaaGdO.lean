/- An act of the graph that comes in as an argument is opened to its six numbers. Conditions: none. -/
import Derived.Test.YtmbhhadghiojeaaRows
import Derived.Test.YtmbhhadghiojeaaOpenS
namespace Go.Proofs.Ytmbhhadghiojeaa
set_option linter.unusedVariables false
set_option linter.unusedSimpArgs false
open Go.ChangeShapes Go.WideShapes Go.ChangeAt Go.RowKit Go.Joins Go.Deep

set_option maxRecDepth 100000 in
/-- An act that came in: its six values, its deed within a byte. -/
theorem open_act {H : Type} {enc : TypeId × Value → H} {w : World} {base : Nat} {spare : Nat → Bool} {held : Bool} {r : Reach} {b0 : Nat} {v : Value} {d : DataW H} {p : List MemPlace}
    (hv : Value.okWide Try.prog w r b0 24 v) (h : DataW.Trod enc Try.prog w base spare held 24 v d p) :
    ∃ (k t a b c x : Int), v = .agg #[.int .u8 k, .int .i64 t, .int .i64 a, .int .i64 b, .int .i64 c, .int .u64 x] ∧ (0 ≤ k ∧ k ≤ 255) := by
  obtain ⟨cs, n, rfl, hl, h3⟩ := open_struct 6 Try.underlying24 (by kernel_rfl) (by kernel_rfl) rfl hv h
  match cs, hl with
  | [v0, v1, v2, v3, v4, v5], _ =>
    obtain ⟨y0, h0⟩ := h3 0 _ rfl
    obtain ⟨y1, h1⟩ := h3 1 _ rfl
    obtain ⟨y2, h2⟩ := h3 2 _ rfl
    obtain ⟨y3, h3'⟩ := h3 3 _ rfl
    obtain ⟨y4, h4⟩ := h3 4 _ rfl
    obtain ⟨y5, h5⟩ := h3 5 _ rfl
    obtain ⟨k, e0, _, w0⟩ := DataW.trod_int Try.underlying5 h0
    obtain ⟨t, e1, _, w1⟩ := DataW.trod_int Try.underlying3 h1
    obtain ⟨a, e2, _, w2⟩ := DataW.trod_int Try.underlying3 h2
    obtain ⟨b, e3, _, w3⟩ := DataW.trod_int Try.underlying3 h3'
    obtain ⟨c, e4, _, w4⟩ := DataW.trod_int Try.underlying3 h4
    obtain ⟨x, e5, _, w5⟩ := DataW.trod_int Try.underlying22 h5
    simp at e0 e1 e2 e3 e4 e5
    subst e0 e1 e2 e3 e4 e5
    exact ⟨k, t, a, b, c, x, rfl, bounds_u8 w0⟩

end Go.Proofs.Ytmbhhadghiojeaa
