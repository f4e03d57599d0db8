/- StackKeeps, as stated: for every room and every row of acts the law returns true, and its arguments read as they did. Conditions: none. -/
import Derived.Test.YthckpljkdfkcnaaSkK
import Derived.Test.YthckpljkdfkcnaaLaw
import Derived.Test.YthckpljkdfkcnaaOwn
import Derived.ProofKit
import Derived.ChangeOld
import Derived.OpenShut
import Derived.Carry
namespace Go.Proofs.Ythckpljkdfkcnaa
set_option linter.unusedVariables false
set_option linter.unusedSimpArgs false
open Go.ChangeShapes Go.WideShapes Go.ChangeAt Go.RowKit

set_option maxRecDepth 100000 in
theorem stackKeeps_lifted (os : Os) (started : os.Started) (H : Type) (enc : TypeId × Value → H) :
    ReturnsInHanded {} Try.checked os 5 .any (Rows.stackKeepsSpec.pre6 enc Try.prog Try.f5 Rows.stackKeepsRow.domain false) (Rows.stackKeepsSpec.post enc Try.prog Try.f5 false true false false) := by
  refine returnsInHanded_of_change (C := Try.checked) Try.own started (by kernel_rfl) Try.func5
    (ChangeSpec.witness6 (enc := enc) (C := Try.checked) false ⟨#[], #[.int .u8 0, .slice none 0 0], []⟩ 8 (by kernel_rfl) (by kernel_rfl) (by kernel_rfl) (by kernel_rfl)) ?_
  intro W base args ds gs before hval0 hW hcnd _
  have hval : ∀ (j : Nat) t v, Try.f5.params[j]? = some t → args[j]? = some v → Value.okWide Try.prog W .any base t v := hval0
  have hW' := hW
  obtain ⟨p, q, hA0, hV, rfl, hfz, hnd⟩ := hW
  have hA : DataW.TrodAll enc Try.prog W 0 (fun _ => true) true Try.f5.params.toList args.toList ds p := hA0
  rw [Try.params5] at hA hval
  obtain ⟨v0, v1, d0, d1, p0, p1, rfl, rfl, rfl, h0, h1⟩ := trodAll_two hA
  obtain ⟨x, rfl, _, _, w0⟩ := open_int Try.underlying5 (hval 0 5 v0 rfl rfl) h0
  obtain ⟨ao, cap, L, rfl, hlm, hL⟩ := open_acts (hval 1 22 v1 rfl rfl) h1
  have fin : ∀ (e : Ending) (W' : World), (e = .returned (.bool true) ∧ Kp [] W W') → ∃ v, e = .returned v ∧ Rows.stackKeepsSpec.post enc Try.prog Try.f5 false true false false W #[.int .u8 x, .slice ao L.length cap] v W' := by
    rintro e W' ⟨rfl, kp⟩
    exact ⟨_, rfl, post_true Try.laidOut (by kernel_rfl) rfl Try.underlying4 rfl rfl hW' kp.to_below⟩
  by_cases hs : 200 < L.length ∨ x < 1 ∨ 64 < x
  · exact ((keeps_skip W x ao L.length cap hs).mono fun e w h => ⟨h.1, kp_of_below h.2⟩).mono fin
  · obtain ⟨N, rfl⟩ : ∃ N : Nat, x = N := ⟨x.toNat, by omega⟩
    exact ((keeps_main W N ao cap L (by omega) (by omega) (by omega) hL).mono fun e w h => ⟨h.1, kp_of_below h.2⟩).mono fin

/-- THE STATEMENT. -/
theorem stackKeeps_holds : Rows.StackKeepsSaid :=
  OpenClaim.holds_of_wide 5 Try.f5 rfl rfl rfl rfl rfl rfl rfl ⟨rfl, rfl, rfl, rfl, rfl⟩ rfl rfl rfl rfl rfl (by kernel_rfl) Try.func5 (by kernel_rfl)
    (of_decide_eq_true (by kernel_rfl)) (by unfold Func.isWrapper; rw [if_neg (of_decide_eq_false (by kernel_rfl))]; exact ⟨rfl, rfl⟩)
    (fun os started H enc _ => stackKeeps_lifted os started H enc)

end Go.Proofs.Ythckpljkdfkcnaa
