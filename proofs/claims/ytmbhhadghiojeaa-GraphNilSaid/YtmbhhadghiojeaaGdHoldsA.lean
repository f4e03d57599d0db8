/- GraphNil, as stated: for every act the law returns true, and its argument reads as it did. Conditions: none. -/
import Derived.Test.YtmbhhadghiojeaaGdM
import Derived.Test.YtmbhhadghiojeaaGdO
import Derived.Test.YtmbhhadghiojeaaLaw
import Derived.Test.YtmbhhadghiojeaaOwn
import Derived.ProofKit
import Derived.ChangeOld
import Derived.OpenShut
import Derived.Carry
namespace Go.Proofs.Ytmbhhadghiojeaa
set_option linter.unusedVariables false
set_option linter.unusedSimpArgs false
open Go.ChangeShapes Go.WideShapes Go.ChangeAt Go.RowKit

set_option maxRecDepth 100000 in
theorem graphNil_lifted (os : Os) (started : os.Started) (H : Type) (enc : TypeId × Value → H) :
    ReturnsInHanded {} Try.checked os 3 .any (Rows.graphNilSpec.pre6 enc Try.prog Try.f3 Rows.graphNilRow.domain false) (Rows.graphNilSpec.post enc Try.prog Try.f3 false true false false) := by
  refine returnsInHanded_of_change (C := Try.checked) Try.own started (by kernel_rfl) Try.func3
    (ChangeSpec.witness6 (enc := enc) (C := Try.checked) false ⟨#[], #[.agg #[.int .u8 0, .int .i64 0, .int .i64 0, .int .i64 0, .int .i64 0, .int .u64 0]], []⟩ 8 (by kernel_rfl) (by kernel_rfl) (by kernel_rfl) (by kernel_rfl)) ?_
  intro W base args ds gs before hval0 hW hcnd _
  have hval : ∀ (j : Nat) t v, Try.f3.params[j]? = some t → args[j]? = some v → Value.okWide Try.prog W .any base t v := hval0
  have hW' := hW
  obtain ⟨p, q, hA0, hV, rfl, hfz, hnd⟩ := hW
  have hA : DataW.TrodAll enc Try.prog W 0 (fun _ => true) true Try.f3.params.toList args.toList ds p := hA0
  rw [Try.params3] at hA hval
  obtain ⟨v0, d0, rfl, rfl, h0⟩ := trodAll_one hA
  obtain ⟨k, t, a, b, c, x, rfl, ⟨bk0, bk1⟩⟩ := open_act (hval 0 _ v0 rfl rfl) h0
  have fin : ∀ (e : Ending) (W' : World), (e = .returned (.bool true) ∧ Kp [] W W') → ∃ v, e = .returned v ∧ Rows.graphNilSpec.post enc Try.prog Try.f3 false true false false W #[.agg #[.int .u8 k, .int .i64 t, .int .i64 a, .int .i64 b, .int .i64 c, .int .u64 x]] v W' := by
    rintro e W' ⟨rfl, kp⟩
    exact ⟨_, rfl, post_true Try.laidOut (by kernel_rfl) rfl Try.underlying4 rfl rfl hW' kp.to_below⟩
  exact (nil_any W k t a b c x bk0).mono fin

/-- THE STATEMENT. -/
theorem graphNil_holds : Rows.GraphNilSaid :=
  OpenClaim.holds_of_wide 3 Try.f3 rfl rfl rfl rfl rfl rfl rfl ⟨rfl, rfl, rfl, rfl, rfl⟩ rfl rfl rfl rfl rfl (by kernel_rfl) Try.func3 (by kernel_rfl)
    (of_decide_eq_true (by kernel_rfl)) (by unfold Func.isWrapper; rw [if_neg (of_decide_eq_false (by kernel_rfl))]; exact ⟨rfl, rfl⟩)
    (fun os started H enc _ => graphNil_lifted os started H enc)

end Go.Proofs.Ytmbhhadghiojeaa
