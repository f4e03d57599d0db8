/- A slice of acts that comes in, opened to its numbers. Conditions: none. -/
import Derived.Test.YtclegfpgmhajmaaRows
import Derived.Test.YtclegfpgmhajmaaLaw
import Derived.Test.YtclegfpgmhajmaaScP
import Derived.ProofKit
import Derived.OpenShut
import Derived.Deep.Slices
import Derived.Deep.Fields
import Derived.ChangeSame
namespace Go.Proofs.Ytclegfpgmhajmaa
set_option linter.unusedVariables false
set_option linter.unusedSimpArgs false
open Go.ChangeShapes Go.WideShapes Go.ChangeAt Go.RowKit Go.Deep

/-- The acts that lie where a slice leads: each one's numbers. -/
def Acts (w : World) (ao : Option Addr) (L : List (Int × Int × Int × Int × Int)) : Prop :=
  ∀ i x, L[i]? = some x → ∃ b o, ao = some ⟨b, o, none⟩ ∧ b < w.heap.size ∧ w.cell? ⟨b, o + i * 5, none⟩ = some (.int .u8 x.1) ∧ w.cell? ⟨b, o + i * 5 + 1, none⟩ = some (.int .u8 x.2.1) ∧ w.cell? ⟨b, o + i * 5 + 2, none⟩ = some (.int .u8 x.2.2.1) ∧ w.cell? ⟨b, o + i * 5 + 3, none⟩ = some (.int .u8 x.2.2.2.1) ∧ w.cell? ⟨b, o + i * 5 + 4, none⟩ = some (.int .u8 x.2.2.2.2) ∧
    (Lit.int .u8 x.1).wf = true ∧ (Lit.int .u8 x.2.1).wf = true ∧ (Lit.int .u8 x.2.2.1).wf = true ∧ (Lit.int .u8 x.2.2.2.1).wf = true ∧ (Lit.int .u8 x.2.2.2.2).wf = true

theorem spot_none {w : World} {a : Addr} {v : Value} (h : w.cell? a = some v) : a.spot = none := by
  unfold World.cell? at h
  split at h
  · split at h
    · cases h
    · rename_i hs
      simpa using hs
  · cases h

theorem list5 {α : Type} {l : List α} (h : l.length = 5) : ∃ a b c d e, l = [a, b, c, d, e] := by
  match l, h with
  | [a, b, c, d, e], _ => exact ⟨a, b, c, d, e, rfl⟩

section
variable {H : Type} {enc : TypeId × Value → H} {W : World} {base : Nat} {spare : Nat → Bool} {held : Bool}
set_option maxRecDepth 100000 in
theorem open_acts {v : Value} {d : DataW H} {p : List MemPlace} (hv : Value.okWide Try.prog W .any base 22 v) (h : DataW.Trod enc Try.prog W 0 spare held 22 v d p) :
    ∃ (ao : Option Addr) (cap : Nat) (L : List (Int × Int × Int × Int × Int)), v = .slice ao L.length cap ∧ L.length ≤ maxLen ∧ Acts W ao L := by
  obtain ⟨fuel, hf⟩ := h
  obtain ⟨ao, l0, c0, rfl⟩ := okWide_slice Try.underlying22 hv
  rcases open_slice Try.underlying22 hf with ⟨hc, _⟩ | ⟨a, len, cap, m, n, D, Pl, hcs, hb, hl, hm, hmm, hx, hi⟩
  · have e : Value.slice ao l0 c0 = .slice none 0 0 := by simpa [Value.cells] using hc
    exact ⟨none, 0, [], by rw [e]; rfl, by unfold maxLen; simp, fun i x hx => by simp at hx⟩
  · have e : Value.slice ao l0 c0 = .slice (some a) len cap := by simpa [Value.cells] using hcs
    rw [e]
    have hlm : len ≤ m := by rw [hmm]; split <;> omega
    have hC : Try.prog.cellsOf 31 = 5 := by kernel_rfl
    rw [hC] at hi
    have key : ∀ i, ∃ x : Int × Int × Int × Int × Int, i < len → ∃ b o, a = ⟨b, o, none⟩ ∧ b < W.heap.size ∧ W.cell? ⟨b, o + i * 5, none⟩ = some (.int .u8 x.1) ∧ W.cell? ⟨b, o + i * 5 + 1, none⟩ = some (.int .u8 x.2.1) ∧ W.cell? ⟨b, o + i * 5 + 2, none⟩ = some (.int .u8 x.2.2.1) ∧ W.cell? ⟨b, o + i * 5 + 3, none⟩ = some (.int .u8 x.2.2.2.1) ∧ W.cell? ⟨b, o + i * 5 + 4, none⟩ = some (.int .u8 x.2.2.2.2) ∧
    (Lit.int .u8 x.1).wf = true ∧ (Lit.int .u8 x.2.1).wf = true ∧ (Lit.int .u8 x.2.2.1).wf = true ∧ (Lit.int .u8 x.2.2.2.1).wf = true ∧ (Lit.int .u8 x.2.2.2.2).wf = true := by
      intro i
      by_cases hil : i < len
      · obtain ⟨cs', hc', ht'⟩ := hi i (by omega)
        obtain ⟨_, hcl, hat⟩ := World.cells?_some hc'
        obtain ⟨ys, n', _, hy, hlen, hyl, hfs⟩ := DataW.trod_struct Try.underlying31 ht'
        obtain ⟨q0, q1, q2, q3, q4, rfl⟩ := list5 hcl
        obtain ⟨y0, y1, y2, y3, y4, rfl⟩ := list5 (hyl.trans rfl)
        have hsp : a.spot = none := by
          obtain ⟨cs0, hc0, _⟩ := hi 0 (by omega)
          obtain ⟨_, hl0, hat0⟩ := World.cells?_some hc0
          obtain ⟨p0, p1, p2, p3, p4, rfl⟩ := list5 hl0
          have := hat0 0 (by omega)
          simp only [Nat.zero_mul, Addr.add, if_true] at this
          exact spot_none this
        obtain ⟨b, o, sp⟩ := a
        simp only at hsp
        subst hsp
        have k0 : DataW.trod enc Try.prog W 0 spare held n' 5 (([q0, q1, q2, q3, q4].drop 0).take (Try.prog.cellsOf 5)) = some y0 := hfs 0 _ rfl
        have k1 : DataW.trod enc Try.prog W 0 spare held n' 5 (([q0, q1, q2, q3, q4].drop 1).take (Try.prog.cellsOf 5)) = some y1 := hfs 1 _ rfl
        have k2 : DataW.trod enc Try.prog W 0 spare held n' 5 (([q0, q1, q2, q3, q4].drop 2).take (Try.prog.cellsOf 5)) = some y2 := hfs 2 _ rfl
        have k3 : DataW.trod enc Try.prog W 0 spare held n' 5 (([q0, q1, q2, q3, q4].drop 3).take (Try.prog.cellsOf 5)) = some y3 := hfs 3 _ rfl
        have k4 : DataW.trod enc Try.prog W 0 spare held n' 5 (([q0, q1, q2, q3, q4].drop 4).take (Try.prog.cellsOf 5)) = some y4 := hfs 4 _ rfl
        rw [show Try.prog.cellsOf 5 = 1 from by kernel_rfl] at k0
        rw [show Try.prog.cellsOf 5 = 1 from by kernel_rfl] at k1
        rw [show Try.prog.cellsOf 5 = 1 from by kernel_rfl] at k2
        rw [show Try.prog.cellsOf 5 = 1 from by kernel_rfl] at k3
        rw [show Try.prog.cellsOf 5 = 1 from by kernel_rfl] at k4
        obtain ⟨x0, e0, _, w0⟩ := DataW.trod_int Try.underlying5 k0
        obtain ⟨x1, e1, _, w1⟩ := DataW.trod_int Try.underlying5 k1
        obtain ⟨x2, e2, _, w2⟩ := DataW.trod_int Try.underlying5 k2
        obtain ⟨x3, e3, _, w3⟩ := DataW.trod_int Try.underlying5 k3
        obtain ⟨x4, e4, _, w4⟩ := DataW.trod_int Try.underlying5 k4
        obtain rfl : q0 = .int .u8 x0 := by simpa using e0
        obtain rfl : q1 = .int .u8 x1 := by simpa using e1
        obtain rfl : q2 = .int .u8 x2 := by simpa using e2
        obtain rfl : q3 = .int .u8 x3 := by simpa using e3
        obtain rfl : q4 = .int .u8 x4 := by simpa using e4
        have h0 := hat 0 (by omega)
        have h1 := hat 1 (by omega)
        have h2 := hat 2 (by omega)
        have h3 := hat 3 (by omega)
        have h4 := hat 4 (by omega)
        simp only [Addr.add_lit, Nat.add_zero] at h0 h1 h2 h3 h4
        exact ⟨(x0, x1, x2, x3, x4), fun _ => ⟨b, o, rfl, block_lt_of_cell h0, h0, h1, h2, h3, h4, w0, w1, w2, w3, w4⟩⟩
      · exact ⟨(0, 0, 0, 0, 0), fun h => absurd h hil⟩
    obtain ⟨f, hf'⟩ := Classical.skolem.1 key
    refine ⟨some a, cap, (List.range len).map f, by simp, by simp; omega, ?_⟩
    intro i x hx'
    have hil : i < len := by
      have := (List.getElem?_eq_some_iff.1 hx').1
      simpa using this
    obtain rfl : f i = x := by simpa [hil] using hx'
    obtain ⟨b, o, rfl, r⟩ := hf' i hil
    exact ⟨b, o, rfl, r⟩
end

/-- The entries that lie where a slice leads. -/
def Ents (w : World) (ao : Option Addr) (L : List Ent) : Prop :=
  ∀ i e, L[i]? = some e → ∃ b o, ao = some ⟨b, o, none⟩ ∧ b < w.heap.size ∧ w.cell? ⟨b, o + i * 5, none⟩ = some (.int .u8 (u e.g)) ∧ w.cell? ⟨b, o + i * 5 + 1, none⟩ = some (.int .u8 (u e.d)) ∧ w.cell? ⟨b, o + i * 5 + 2, none⟩ = some (.int .u8 (u e.a)) ∧ w.cell? ⟨b, o + i * 5 + 3, none⟩ = some (.int .u8 (u e.b)) ∧ w.cell? ⟨b, o + i * 5 + 4, none⟩ = some (.int .u8 (u e.c))
theorem u_of {x : Int} (h : (Lit.int .u8 x).wf = true) : u (UInt8.ofNat x.toNat) = x := by
  have h2 : 0 ≤ x ∧ x ≤ 255 := bounds_u8 h
  unfold u
  rw [UInt8.toNat_ofNat']
  omega
theorem acts_ents {w : World} {ao : Option Addr} {L : List (Int × Int × Int × Int × Int)} (h : Acts w ao L) : ∃ M : List Ent, M.length = L.length ∧ Ents w ao M := by
  refine ⟨L.map fun x => ⟨UInt8.ofNat x.1.toNat, UInt8.ofNat x.2.1.toNat, UInt8.ofNat x.2.2.1.toNat, UInt8.ofNat x.2.2.2.1.toNat, UInt8.ofNat x.2.2.2.2.toNat⟩, by simp, ?_⟩
  intro i e he
  rw [List.getElem?_map, Option.map_eq_some_iff] at he
  obtain ⟨x, hx, rfl⟩ := he
  obtain ⟨b, o, e1, e2, c0, c1, c2, c3, c4, w0, w1, w2, w3, w4⟩ := h i x hx
  refine ⟨b, o, e1, e2, ?_⟩
  simp only [u_of w0, u_of w1, u_of w2, u_of w3, u_of w4]
  exact ⟨c0, c1, c2, c3, c4⟩

end Go.Proofs.Ytclegfpgmhajmaa
