/- A slice of acts that comes in, opened to its numbers. Conditions: none. -/
import Derived.Test.YteppcbihhikoaaaRows
import Derived.Test.YteppcbihhikoaaaLaw
import Derived.ProofKit
import Derived.Deep.Slices
import Derived.Deep.Fields
import Derived.ChangeSame
namespace Go.Proofs.Yteppcbihhikoaaa
set_option linter.unusedVariables false
set_option linter.unusedSimpArgs false
open Go.ChangeShapes Go.WideShapes Go.ChangeAt Go.RowKit Go.Deep

/-- The acts that lie where a slice leads: each one's numbers. -/
def Acts (w : World) (ao : Option Addr) (L : List (Int × Int × Int × Int × Int × Int × Int × Int)) : Prop :=
  ∀ i x, L[i]? = some x → ∃ b o, ao = some ⟨b, o, none⟩ ∧ b < w.heap.size ∧ w.cell? ⟨b, o + i * 8, none⟩ = some (.int .u8 x.1) ∧ w.cell? ⟨b, o + i * 8 + 1, none⟩ = some (.int .i64 x.2.1) ∧ w.cell? ⟨b, o + i * 8 + 2, none⟩ = some (.int .i64 x.2.2.1) ∧ w.cell? ⟨b, o + i * 8 + 3, none⟩ = some (.int .u8 x.2.2.2.1) ∧ w.cell? ⟨b, o + i * 8 + 4, none⟩ = some (.int .u8 x.2.2.2.2.1) ∧ w.cell? ⟨b, o + i * 8 + 5, none⟩ = some (.int .u8 x.2.2.2.2.2.1) ∧ w.cell? ⟨b, o + i * 8 + 6, none⟩ = some (.int .u8 x.2.2.2.2.2.2.1) ∧ w.cell? ⟨b, o + i * 8 + 7, none⟩ = some (.int .u8 x.2.2.2.2.2.2.2) ∧
    (Lit.int .u8 x.1).wf = true ∧ (Lit.int .i64 x.2.1).wf = true ∧ (Lit.int .i64 x.2.2.1).wf = true ∧ (Lit.int .u8 x.2.2.2.1).wf = true ∧ (Lit.int .u8 x.2.2.2.2.1).wf = true ∧ (Lit.int .u8 x.2.2.2.2.2.1).wf = true ∧ (Lit.int .u8 x.2.2.2.2.2.2.1).wf = true ∧ (Lit.int .u8 x.2.2.2.2.2.2.2).wf = true

theorem spot_none {w : World} {a : Addr} {v : Value} (h : w.cell? a = some v) : a.spot = none := by
  unfold World.cell? at h
  split at h
  · split at h
    · cases h
    · rename_i hs
      simpa using hs
  · cases h

theorem list4 {α : Type} {l : List α} (h : l.length = 4) : ∃ a b c d, l = [a, b, c, d] := by
  match l, h with
  | [a, b, c, d], _ => exact ⟨a, b, c, d, rfl⟩

theorem list5 {α : Type} {l : List α} (h : l.length = 5) : ∃ a b c d e, l = [a, b, c, d, e] := by
  match l, h with
  | [a, b, c, d, e], _ => exact ⟨a, b, c, d, e, rfl⟩

theorem list8 {α : Type} {l : List α} (h : l.length = 8) : ∃ a b c d e f g h, l = [a, b, c, d, e, f, g, h] := by
  match l, h with
  | [a, b, c, d, e, f, g, h], _ => exact ⟨a, b, c, d, e, f, g, h, rfl⟩

section
variable {H : Type} {enc : TypeId × Value → H} {W : World} {base : Nat} {spare : Nat → Bool} {held : Bool}
set_option maxRecDepth 100000 in
theorem open_acts {v : Value} {d : DataW H} {p : List MemPlace} (hv : Value.okWide Try.prog W .any base 22 v) (h : DataW.Trod enc Try.prog W 0 spare held 22 v d p) :
    ∃ (ao : Option Addr) (cap : Nat) (L : List (Int × Int × Int × Int × Int × Int × Int × Int)), v = .slice ao L.length cap ∧ L.length ≤ maxLen ∧ Acts W ao L := by
  obtain ⟨fuel, hf⟩ := h
  obtain ⟨ao, l0, c0, rfl⟩ := okWide_slice Try.underlying22 hv
  rcases open_slice Try.underlying22 hf with ⟨hc, _⟩ | ⟨a, len, cap, m, n, D, Pl, hcs, hb, hl, hm, hmm, hx, hi⟩
  · have e : Value.slice ao l0 c0 = .slice none 0 0 := by simpa [Value.cells] using hc
    exact ⟨none, 0, [], by rw [e]; rfl, by unfold maxLen; simp, fun i x hx => by simp at hx⟩
  · have e : Value.slice ao l0 c0 = .slice (some a) len cap := by simpa [Value.cells] using hcs
    rw [e]
    have hlm : len ≤ m := by rw [hmm]; split <;> omega
    have hC : Try.prog.cellsOf 38 = 8 := by kernel_rfl
    rw [hC] at hi
    have key : ∀ i, ∃ x : Int × Int × Int × Int × Int × Int × Int × Int, i < len → ∃ b o, a = ⟨b, o, none⟩ ∧ b < W.heap.size ∧ W.cell? ⟨b, o + i * 8, none⟩ = some (.int .u8 x.1) ∧ W.cell? ⟨b, o + i * 8 + 1, none⟩ = some (.int .i64 x.2.1) ∧ W.cell? ⟨b, o + i * 8 + 2, none⟩ = some (.int .i64 x.2.2.1) ∧ W.cell? ⟨b, o + i * 8 + 3, none⟩ = some (.int .u8 x.2.2.2.1) ∧ W.cell? ⟨b, o + i * 8 + 4, none⟩ = some (.int .u8 x.2.2.2.2.1) ∧ W.cell? ⟨b, o + i * 8 + 5, none⟩ = some (.int .u8 x.2.2.2.2.2.1) ∧ W.cell? ⟨b, o + i * 8 + 6, none⟩ = some (.int .u8 x.2.2.2.2.2.2.1) ∧ W.cell? ⟨b, o + i * 8 + 7, none⟩ = some (.int .u8 x.2.2.2.2.2.2.2) ∧
    (Lit.int .u8 x.1).wf = true ∧ (Lit.int .i64 x.2.1).wf = true ∧ (Lit.int .i64 x.2.2.1).wf = true ∧ (Lit.int .u8 x.2.2.2.1).wf = true ∧ (Lit.int .u8 x.2.2.2.2.1).wf = true ∧ (Lit.int .u8 x.2.2.2.2.2.1).wf = true ∧ (Lit.int .u8 x.2.2.2.2.2.2.1).wf = true ∧ (Lit.int .u8 x.2.2.2.2.2.2.2).wf = true := by
      intro i
      by_cases hil : i < len
      · obtain ⟨cs', hc', ht'⟩ := hi i (by omega)
        obtain ⟨_, hcl, hat⟩ := World.cells?_some hc'
        obtain ⟨ys, n', _, hy, hlen, hyl, hfs⟩ := DataW.trod_struct Try.underlying38 ht'
        obtain ⟨q0, q1, q2, q3, q4, q5, q6, q7, rfl⟩ := list8 hcl
        obtain ⟨y0, y1, y2, y3, y4, rfl⟩ := list5 (hyl.trans rfl)
        have hsp : a.spot = none := by
          obtain ⟨cs0, hc0, _⟩ := hi 0 (by omega)
          obtain ⟨_, hl0, hat0⟩ := World.cells?_some hc0
          obtain ⟨p0, p1, p2, p3, p4, p5, p6, p7, rfl⟩ := list8 hl0
          have := hat0 0 (by omega)
          simp only [Nat.zero_mul, Addr.add, if_true] at this
          exact spot_none this
        obtain ⟨b, o, sp⟩ := a
        simp only at hsp
        subst hsp
        have k0 : DataW.trod enc Try.prog W 0 spare held n' 5 (([q0, q1, q2, q3, q4, q5, q6, q7].drop 0).take (Try.prog.cellsOf 5)) = some y0 := hfs 0 _ rfl
        have k1 : DataW.trod enc Try.prog W 0 spare held n' 3 (([q0, q1, q2, q3, q4, q5, q6, q7].drop 1).take (Try.prog.cellsOf 3)) = some y1 := hfs 1 _ rfl
        have k2 : DataW.trod enc Try.prog W 0 spare held n' 3 (([q0, q1, q2, q3, q4, q5, q6, q7].drop 2).take (Try.prog.cellsOf 3)) = some y2 := hfs 2 _ rfl
        have k3 : DataW.trod enc Try.prog W 0 spare held n' 5 (([q0, q1, q2, q3, q4, q5, q6, q7].drop 3).take (Try.prog.cellsOf 5)) = some y3 := hfs 3 _ rfl
        rw [show Try.prog.cellsOf 5 = 1 from by kernel_rfl] at k0
        rw [show Try.prog.cellsOf 3 = 1 from by kernel_rfl] at k1
        rw [show Try.prog.cellsOf 3 = 1 from by kernel_rfl] at k2
        rw [show Try.prog.cellsOf 5 = 1 from by kernel_rfl] at k3
        have kE : DataW.trod enc Try.prog W 0 spare held n' 36 (([q0, q1, q2, q3, q4, q5, q6, q7].drop 4).take (Try.prog.cellsOf 36)) = some y4 := hfs 4 _ rfl
        rw [show Try.prog.cellsOf 36 = 4 from by kernel_rfl] at kE
        obtain ⟨zs, n2, _, hz, hzl, hzyl, hzs⟩ := DataW.trod_struct Try.underlying36 kE
        obtain ⟨z0, z1, z2, z3, rfl⟩ := list4 (hzyl.trans rfl)
        have k4 : DataW.trod enc Try.prog W 0 spare held n2 5 (([q4, q5, q6, q7].drop 0).take (Try.prog.cellsOf 5)) = some z0 := hzs 0 _ rfl
        rw [show Try.prog.cellsOf 5 = 1 from by kernel_rfl] at k4
        have k5 : DataW.trod enc Try.prog W 0 spare held n2 5 (([q4, q5, q6, q7].drop 1).take (Try.prog.cellsOf 5)) = some z1 := hzs 1 _ rfl
        rw [show Try.prog.cellsOf 5 = 1 from by kernel_rfl] at k5
        have k6 : DataW.trod enc Try.prog W 0 spare held n2 5 (([q4, q5, q6, q7].drop 2).take (Try.prog.cellsOf 5)) = some z2 := hzs 2 _ rfl
        rw [show Try.prog.cellsOf 5 = 1 from by kernel_rfl] at k6
        have k7 : DataW.trod enc Try.prog W 0 spare held n2 5 (([q4, q5, q6, q7].drop 3).take (Try.prog.cellsOf 5)) = some z3 := hzs 3 _ rfl
        rw [show Try.prog.cellsOf 5 = 1 from by kernel_rfl] at k7
        obtain ⟨x0, e0, _, w0⟩ := DataW.trod_int Try.underlying5 k0
        obtain ⟨x1, e1, _, w1⟩ := DataW.trod_int Try.underlying3 k1
        obtain ⟨x2, e2, _, w2⟩ := DataW.trod_int Try.underlying3 k2
        obtain ⟨x3, e3, _, w3⟩ := DataW.trod_int Try.underlying5 k3
        obtain ⟨x4, e4, _, w4⟩ := DataW.trod_int Try.underlying5 k4
        obtain ⟨x5, e5, _, w5⟩ := DataW.trod_int Try.underlying5 k5
        obtain ⟨x6, e6, _, w6⟩ := DataW.trod_int Try.underlying5 k6
        obtain ⟨x7, e7, _, w7⟩ := DataW.trod_int Try.underlying5 k7
        obtain rfl : q0 = .int .u8 x0 := by simpa using e0
        obtain rfl : q1 = .int .i64 x1 := by simpa using e1
        obtain rfl : q2 = .int .i64 x2 := by simpa using e2
        obtain rfl : q3 = .int .u8 x3 := by simpa using e3
        obtain rfl : q4 = .int .u8 x4 := by simpa using e4
        obtain rfl : q5 = .int .u8 x5 := by simpa using e5
        obtain rfl : q6 = .int .u8 x6 := by simpa using e6
        obtain rfl : q7 = .int .u8 x7 := by simpa using e7
        have h0 := hat 0 (by omega)
        have h1 := hat 1 (by omega)
        have h2 := hat 2 (by omega)
        have h3 := hat 3 (by omega)
        have h4 := hat 4 (by omega)
        have h5 := hat 5 (by omega)
        have h6 := hat 6 (by omega)
        have h7 := hat 7 (by omega)
        simp only [Addr.add_lit, Nat.add_zero] at h0 h1 h2 h3 h4 h5 h6 h7
        exact ⟨(x0, x1, x2, x3, x4, x5, x6, x7), fun _ => ⟨b, o, rfl, block_lt_of_cell h0, h0, h1, h2, h3, h4, h5, h6, h7, w0, w1, w2, w3, w4, w5, w6, w7⟩⟩
      · exact ⟨(0, 0, 0, 0, 0, 0, 0, 0), fun h => absurd h hil⟩
    obtain ⟨f, hf'⟩ := Classical.skolem.1 key
    refine ⟨some a, cap, (List.range len).map f, by simp, by simp; omega, ?_⟩
    intro i x hx'
    have hil : i < len := by
      have := (List.getElem?_eq_some_iff.1 hx').1
      simpa using this
    obtain rfl : f i = x := by simpa [hil] using hx'
    obtain ⟨b, o, rfl, r⟩ := hf' i hil
    exact ⟨b, o, rfl, r⟩
end

end Go.Proofs.Yteppcbihhikoaaa
