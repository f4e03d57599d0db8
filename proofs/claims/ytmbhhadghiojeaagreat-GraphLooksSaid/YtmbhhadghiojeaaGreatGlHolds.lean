/- GraphLooks, as stated: for all sizes and every two rows of acts the law returns true, and its arguments read as they did. Conditions: none. -/
import Derived.Test.YtmbhhadghiojeaaGreatGlW
import Derived.Test.YtmbhhadghiojeaaGreatFive
import Derived.Test.YtmbhhadghiojeaaGreatLaw
import Derived.Test.YtmbhhadghiojeaaGreatOwn
import Derived.ProofKit
import Derived.ChangeOld
import Derived.OpenShut
import Derived.Carry
namespace Go.Proofs.YtmbhhadghiojeaaGreat
set_option linter.unusedVariables false
set_option linter.unusedSimpArgs false
open Go.ChangeShapes Go.WideShapes Go.ChangeAt Go.RowKit

set_option maxRecDepth 100000 in
theorem graphLooks_lifted (os : Os) (started : os.Started) (H : Type) (enc : TypeId × Value → H) :
    ReturnsInHanded {} Tryz.checked os 4 .any (Rows.graphLooksSpec.pre6 enc Tryz.prog Tryz.f4 Rows.graphLooksRow.domain false) (Rows.graphLooksSpec.post enc Tryz.prog Tryz.f4 false true false false) := by
  refine returnsInHanded_of_change (C := Tryz.checked) Tryz.own started (by kernel_rfl) Tryz.func4
    (ChangeSpec.witness6 (enc := enc) (C := Tryz.checked) false ⟨#[], #[.int .i64 0, .int .i64 0, .int .i64 0, .slice none 0 0, .slice none 0 0], []⟩ 8 (by kernel_rfl) (by kernel_rfl) (by kernel_rfl) (by kernel_rfl)) ?_
  intro W base args ds gs before hval0 hW hcnd _
  have hval : ∀ (j : Nat) t v, Tryz.f4.params[j]? = some t → args[j]? = some v → Value.okWide Tryz.prog W .any base t v := hval0
  have hW' := hW
  obtain ⟨p, q, hA0, hV, rfl, hfz, hnd⟩ := hW
  have hA : DataW.TrodAll enc Tryz.prog W 0 (fun _ => true) true Tryz.f4.params.toList args.toList ds p := hA0
  rw [Tryz.params4] at hA hval
  obtain ⟨v0, v1, v2, v3, v4, d0, d1, d2, d3, d4, p0, p1, p2, p3, p4, rfl, rfl, rfl, h0, h1, h2, h3, h4⟩ := trodAll_five hA
  obtain ⟨h, rfl, _, _, w0⟩ := open_int Tryz.underlying3 (hval 0 3 v0 rfl rfl) h0
  obtain ⟨k, rfl, _, _, w1⟩ := open_int Tryz.underlying3 (hval 1 3 v1 rfl rfl) h1
  obtain ⟨l, rfl, _, _, w2⟩ := open_int Tryz.underlying3 (hval 2 3 v2 rfl rfl) h2
  obtain ⟨ao, cap, L, rfl, _, hL⟩ := open_acts (hval 3 22 v3 rfl rfl) h3
  obtain ⟨bo, cap2, U, rfl, _, hU⟩ := open_acts (hval 4 22 v4 rfl rfl) h4
  have fin : ∀ (e : Ending) (W' : World), (e = .returned (.bool true) ∧ Kp [] W W') → ∃ v, e = .returned v ∧ Rows.graphLooksSpec.post enc Tryz.prog Tryz.f4 false true false false W #[.int .i64 h, .int .i64 k, .int .i64 l, .slice ao L.length cap, .slice bo U.length cap2] v W' := by
    rintro e W' ⟨rfl, kp⟩
    exact ⟨_, rfl, post_true Tryz.laidOut (by kernel_rfl) rfl Tryz.underlying4 rfl rfl hW' kp.to_below⟩
  by_cases hs : 100 < L.length ∨ 50 < U.length ∨ mayB h k l = false
  · exact (looks_skip W h k l ao bo L.length cap U.length cap2 hs).mono fin
  · have hm : mayB h k l = true := by simpa using fun e => hs (.inr (.inr e))
    have hm2 := hm
    unfold mayB at hm2
    simp only [Bool.and_eq_true, decide_eq_true_eq] at hm2
    obtain ⟨nt, rfl⟩ : ∃ N : Nat, h = N := ⟨h.toNat, by omega⟩
    obtain ⟨ns, rfl⟩ : ∃ N : Nat, k = N := ⟨k.toNat, by omega⟩
    obtain ⟨nl, rfl⟩ : ∃ N : Nat, l = N := ⟨l.toNat, by omega⟩
    exact (looks_main W nt ns nl ao bo cap cap2 L U (by omega) (by omega) (by omega) (by omega) (by omega) (by omega) (by omega) hL hU).mono fin

/-- THE STATEMENT. -/
theorem graphLooks_holds : Rows.GraphLooksSaid :=
  OpenClaim.holds_of_wide 4 Tryz.f4 rfl rfl rfl rfl rfl rfl rfl ⟨rfl, rfl, rfl, rfl, rfl⟩ rfl rfl rfl rfl rfl (by kernel_rfl) Tryz.func4 (by kernel_rfl)
    (of_decide_eq_true (by kernel_rfl)) (by unfold Func.isWrapper; rw [if_neg (of_decide_eq_false (by kernel_rfl))]; exact ⟨rfl, rfl⟩)
    (fun os started H enc _ => graphLooks_lifted os started H enc)

end Go.Proofs.YtmbhhadghiojeaaGreat
