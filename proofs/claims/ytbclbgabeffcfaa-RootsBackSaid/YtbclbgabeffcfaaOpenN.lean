/- Five arguments that come in; a slice of uint16 that comes in, opened to its numbers. Conditions: none. -/
import Derived.Test.YtbclbgabeffcfaaRows
import Derived.Test.YtbclbgabeffcfaaLaw
import Derived.ProofKit
import Derived.Deep.Slices
import Derived.Deep.Fields
import Derived.ChangeSame
import Derived.OpenShut
import Derived.Carry
namespace Go.Proofs.Ytbclbgabeffcfaa
set_option linter.unusedVariables false
set_option linter.unusedSimpArgs false
open Go.ChangeShapes Go.WideShapes Go.ChangeAt Go.RowKit Go.Deep

section
variable {H : Type} {enc : TypeId × Value → H} {P : Program} {w : World} {base : Nat} {spare : Nat → Bool} {held : Bool}
theorem trodAll_five {t0 t1 t2 t3 t4 : TypeId} {args : Array Value} {ds : List (DataW H)} {ps : List MemPlace} (h : DataW.TrodAll enc P w base spare held [t0, t1, t2, t3, t4] args.toList ds ps) :
    ∃ v0 v1 v2 v3 v4 d0 d1 d2 d3 d4 p0 p1 p2 p3 p4, args = #[v0, v1, v2, v3, v4] ∧ ds = [d0, d1, d2, d3, d4] ∧ ps = p0 ++ p1 ++ p2 ++ p3 ++ p4 ∧ DataW.Trod enc P w base spare held t0 v0 d0 p0 ∧ DataW.Trod enc P w base spare held t1 v1 d1 p1 ∧ DataW.Trod enc P w base spare held t2 v2 d2 p2 ∧ DataW.Trod enc P w base spare held t3 v3 d3 p3 ∧ DataW.Trod enc P w base spare held t4 v4 d4 p4 := by
  obtain ⟨v0, vs0, d0, ds0, p0, q0, hargs, rfl, rfl, hd0, r0⟩ := trodAll_cons h
  obtain ⟨v1, vs1, d1, ds1, p1, q1, rfl, rfl, rfl, hd1, r1⟩ := trodAll_cons r0
  obtain ⟨v2, vs2, d2, ds2, p2, q2, rfl, rfl, rfl, hd2, r2⟩ := trodAll_cons r1
  obtain ⟨v3, vs3, d3, ds3, p3, q3, rfl, rfl, rfl, hd3, r3⟩ := trodAll_cons r2
  obtain ⟨v4, vs4, d4, ds4, p4, q4, rfl, rfl, rfl, hd4, r4⟩ := trodAll_cons r3
  obtain ⟨rfl, rfl, rfl⟩ := trodAll_nil r4
  exact ⟨v0, v1, v2, v3, v4, d0, d1, d2, d3, d4, p0, p1, p2, p3, p4, by cases args; simp_all, rfl, by simp, hd0, hd1, hd2, hd3, hd4⟩
end

/-- The numbers that lie where a slice leads. -/
def Nums (w : World) (ao : Option Addr) (R : List Int) : Prop :=
  ∀ i, i < R.length → ∃ b o, ao = some ⟨b, o, none⟩ ∧ b < w.heap.size ∧ w.cell? ⟨b, o + i, none⟩ = some (.int .u16 (R.getD i 0)) ∧ 0 ≤ R.getD i 0 ∧ R.getD i 0 ≤ 65535

theorem nums_spot {w : World} {a : Addr} {v : Value} (h : w.cell? a = some v) : a.spot = none := by
  unfold World.cell? at h
  split at h
  · split at h
    · cases h
    · rename_i hs
      simpa using hs
  · cases h
theorem open_nums {H : Type} {enc : TypeId × Value → H} {W : World} {base : Nat} {spare : Nat → Bool} {held : Bool} {v : Value} {d : DataW H} {p : List MemPlace} (hv : Value.okWide Try.prog W .any base 45 v) (h : DataW.Trod enc Try.prog W 0 spare held 45 v d p) :
    ∃ (ao : Option Addr) (cap : Nat) (R : List Int), v = .slice ao R.length cap ∧ R.length ≤ maxLen ∧ Nums W ao R := by
  obtain ⟨fuel, hf⟩ := h
  obtain ⟨ao, l0, c0, rfl⟩ := okWide_slice Try.underlying45 hv
  rcases open_ints Try.underlying45 Try.underlying46 (by kernel_rfl) hf with ⟨hc, _⟩ | ⟨a, len, cap, ns, hcs, _, hl, hm, hlen, _, hcell, hwf⟩
  · have e : Value.slice ao l0 c0 = .slice none 0 0 := by simpa [Value.cells] using hc
    exact ⟨none, 0, [], by rw [e]; rfl, by unfold maxLen; simp, fun i hi => by simp at hi⟩
  · have e : Value.slice ao l0 c0 = .slice (some a) len cap := by simpa [Value.cells] using hcs
    rw [e]
    have hlz : len ≤ ns.length := by rw [hlen]; split <;> omega
    refine ⟨some a, cap, ns.take len, by rw [List.length_take, Nat.min_eq_left hlz], by rw [List.length_take]; omega, ?_⟩
    intro i hi
    rw [List.length_take, Nat.min_eq_left hlz] at hi
    have h0 := hcell 0 (by omega)
    simp only [Addr.add, if_true] at h0
    have hsp := nums_spot h0
    obtain ⟨b, o, sp⟩ := a
    simp only at hsp
    subst hsp
    have hi' := hcell i (by omega)
    rw [Addr.add_lit] at hi'
    have eg : (ns.take len).getD i 0 = ns.getD i 0 := by simp [List.getD, hi]
    have hmem : ns.getD i 0 ∈ ns := by
      have : i < ns.length := by omega
      simp [List.getD, this]
    have hb := bounds_u16 (hwf _ hmem)
    exact ⟨b, o, rfl, block_lt_of_cell hi', by rw [eg]; exact hi', by rw [eg]; exact hb.1, by rw [eg]; exact hb.2⟩

end Go.Proofs.Ytbclbgabeffcfaa
