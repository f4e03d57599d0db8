/- AgentCounts, as stated: two rows of bytes, opened to their numbers; whatever they are, the law returns true and the rows read as they did. Conditions: none. -/
import Derived.Test.YtodcnhodbeakiaaAkJP
import Derived.Test.YtodcnhodbeakiaaLaw
import Derived.Test.YtodcnhodbeakiaaOwn
import Derived.ProofKit
import Derived.ChangeOld
import Derived.OpenShut
import Derived.Carry
import Derived.Deep.Slices
import Derived.Deep.Fields
import Derived.ChangeSame
import Derived.Conc.LeavingOf
namespace Go.Proofs.Ytodcnhodbeakiaa
set_option linter.unusedVariables false
set_option linter.unusedSimpArgs false
set_option maxRecDepth 100000
open Go.ChangeShapes Go.WideShapes Go.ChangeAt Go.RowKit Go.Deep Go.Conc

theorem us_spot {w : World} {a : Addr} {v : Value} (h : w.cell? a = some v) : a.spot = none := by
  unfold World.cell? at h
  split at h
  · split at h
    · cases h
    · rename_i hs
      simpa using hs
  · cases h
theorem us_getD {L : List Int} {i : Nat} {x : Int} (h : L[i]? = some x) : L.getD i 0 = x := by simp [List.getD, h]
theorem open_us {H : Type} {enc : TypeId × Value → H} {W : World} {base : Nat} {spare : Nat → Bool} {held : Bool} {v : Value} {d : DataW H} {p : List MemPlace} (hv : Value.okWide Try.prog W .any base 23 v) (h : DataW.Trod enc Try.prog W 0 spare held 23 v d p) :
    ∃ (ao : Option Addr) (cap : Nat) (R : List Int), v = .slice ao R.length cap ∧ Us W ao R ∧ (ao = none → R = [] ∧ cap = 0) := by
  obtain ⟨fuel, hf⟩ := h
  obtain ⟨ao, l0, c0, rfl⟩ := okWide_slice Try.underlying23 hv
  rcases open_ints Try.underlying23 Try.underlying5 (by kernel_rfl) hf with ⟨hc, _⟩ | ⟨a, len, cap, ns, hcs, _, hl, hm, hlen, _, hcell, hwf⟩
  · have e : Value.slice ao l0 c0 = .slice none 0 0 := by simpa [Value.cells] using hc
    exact ⟨none, 0, [], by rw [e]; rfl, fun i x hi => by simp at hi, fun _ => ⟨rfl, rfl⟩⟩
  · have e : Value.slice ao l0 c0 = .slice (some a) len cap := by simpa [Value.cells] using hcs
    rw [e]
    have hlz : len ≤ ns.length := by rw [hlen]; split <;> omega
    have hlz2 : (ns.take len).length = len := by rw [List.length_take, Nat.min_eq_left hlz]
    refine ⟨some a, cap, ns.take len, by rw [hlz2], ?_, fun z => (by cases z)⟩
    · intro i x hi
      have hil : i < len := by have := (List.getElem?_eq_some_iff.1 hi).1; omega
      have h0 := hcell 0 (by omega)
      simp only [Addr.add, if_true] at h0
      have hsp := us_spot h0
      obtain ⟨b, o, sp⟩ := a
      simp only at hsp
      subst hsp
      have hi' := hcell i (by omega)
      rw [Addr.add_lit] at hi'
      have eg : ns.getD i 0 = x := by
        rw [← us_getD hi]
        simp [List.getD, hil]
      have hmem : ns.getD i 0 ∈ ns := by
        have : i < ns.length := by omega
        simp [List.getD, this]
      have hb := bounds_u8 (hwf _ hmem)
      rw [eg] at hi' hb
      exact ⟨b, o, rfl, hi', hb.1, hb.2⟩
theorem trodAll_ks {H : Type} {enc : TypeId × Value → H} {W W' : World} (hk : Ks (fun _ => False) W W') {ts : List TypeId} {vs : List Value} {ds : List (DataW H)} {ps : List MemPlace} (hr : typesRowed Try.prog ts = true) (h : DataW.TrodAll enc Try.prog W 0 (fun _ => true) true ts vs ds ps) (hlt : ∀ x ∈ ps, x.block < W.heap.size) :
    DataW.TrodAll enc Try.prog W' 0 (fun b => decide (b < W.heap.size)) true ts vs ds ps := by
  have hb : Below W.heap.size W {W' with tape := W.tape} := ⟨hk.os, rfl, hk.output, hk.size, fun k h => hk.block k h fun z => z⟩
  have h2 := trodAll_below (W' := {W' with tape := W.tape}) Try.laidOut hb hr h hlt
  have he : ({W' with tape := W.tape} : World).heap = W'.heap := rfl
  exact DataW.TrodAll.of_heap he h2
theorem Ks.kept0 {W W' : World} (k : Ks (fun _ => False) W W') (may : MemPlace → Prop) : W.keptBut W' may := by
  refine ⟨k.os, k.output, fun i hi => ?_⟩
  rw [k.block i hi fun z => z]
  split <;> simp_all

theorem agentCounts_lifted (os : Os) (started : os.Started) (H : Type) (enc : TypeId × Value → H) :
    ReturnsInLeavingWide {} Try.checked os 5 .any (Rows.agentCountsSpec.pre6 enc Try.prog Try.f5 Rows.agentCountsRow.domain false) (Rows.agentCountsSpec.post enc Try.prog Try.f5 false true false false) := by
  refine returnsInLeavingWide_of_change_sized (C := Try.checked) Try.own started Try.func5
    (ChangeSpec.witness6 (enc := enc) (C := Try.checked) false ⟨#[], #[.slice none 0 0, .slice none 0 0], []⟩ 8 (by kernel_rfl) (by kernel_rfl) (by kernel_rfl) (by kernel_rfl)) ?_
  intro W base args ds gs before hval0 hW _ _ _
  have hval : ∀ (j : Nat) t v, Try.f5.params[j]? = some t → args[j]? = some v → Value.okWide Try.prog W .any base t v := hval0
  have hW' := hW
  obtain ⟨p, q, hA0, hV, rfl, hz, hnn⟩ := hW
  have hA : DataW.TrodAll enc Try.prog W 0 (fun _ => true) true Try.f5.params.toList args.toList ds p := hA0
  have hV' := hV
  obtain ⟨rfl, rfl⟩ := trodVars_none hV
  have hlt : ∀ x ∈ p, x.block < W.heap.size := fun x hx => DataW.Whole.lt (⟨p, [], hA0, hV', rfl, hz, hnn⟩ : DataW.Whole enc Try.prog _ _ false W args.toList ds [] (p ++ [])) x (by simpa using hx)
  rw [Try.params5] at hA hval
  have hA2 := hA
  obtain ⟨v0, v1, d0, d1, p0, p1, rfl, rfl, rfl, h0, h1⟩ := trodAll_two hA
  obtain ⟨ao, ca, L, rfl, hL, hn⟩ := open_us (hval 0 23 v0 rfl rfl) h0
  obtain ⟨bo, cb, O, rfl, hO, _⟩ := open_us (hval 1 23 v1 rfl rfl) h1
  clear hA0 hval0
  simp only [List.append_nil] at hW'
  obtain ⟨M, last, o, w', t', r1, r2, r3, r4⟩ := Win.runs (Post := fun v w' => v = .bool true ∧ Ks (fun _ => False) W w') (counts_walk (ct := ca) (co := cb) hL hO hn fun w' k => ⟨rfl, k⟩)
  refine ⟨M, last, o, w', t', r1, r2, r3, r4.mono fun v hF => ?_⟩
  obtain ⟨rfl, hk⟩ := hF
  exact ⟨_, _, _, [], _, [], hW', trodAll_mk1 (shut_bool Try.underlying4 _), trodAll_ks hk (by kernel_rfl) hA2 hlt, rfl, hk.kept0 _, fun h => by cases h⟩

/-- THE STATEMENT. -/
theorem agentCounts_holds : Rows.AgentCountsSaid :=
  OpenClaim.holds_of_wide_leaving 5 Try.f5 rfl rfl rfl rfl rfl rfl rfl ⟨rfl, rfl, rfl, rfl, rfl⟩ rfl rfl rfl rfl rfl (by kernel_rfl) Try.func5 (by kernel_rfl)
    (of_decide_eq_true (by kernel_rfl)) (by unfold Func.isWrapper; first | (rw [if_pos (by decide +kernel)]; kernel_rfl) | (rw [if_neg (by decide +kernel)]; exact ⟨rfl, rfl⟩))
    (fun os started H enc _ => agentCounts_lifted os started H enc)
end Go.Proofs.Ytodcnhodbeakiaa
