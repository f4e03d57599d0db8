/- RootsBack, as stated: for every row of numbers, whatever slots, the law returns true, and its arguments read as they did. Conditions: none. -/
import Derived.Test.YtbclbgabeffcfaaRtK
import Derived.Test.YtbclbgabeffcfaaOpenN
import Derived.Test.YtbclbgabeffcfaaLaw
import Derived.Test.YtbclbgabeffcfaaOwn
import Derived.ProofKit
import Derived.ChangeOld
import Derived.OpenShut
import Derived.Carry
namespace Go.Proofs.Ytbclbgabeffcfaa
set_option linter.unusedVariables false
set_option linter.unusedSimpArgs false
open Go.ChangeShapes Go.WideShapes Go.ChangeAt Go.RowKit

set_option maxRecDepth 100000 in
theorem rootsBack_lifted (os : Os) (started : os.Started) (H : Type) (enc : TypeId × Value → H) :
    ReturnsInHanded {} Try.checked os 5 .any (Rows.rootsBackSpec.pre6 enc Try.prog Try.f5 Rows.rootsBackRow.domain false) (Rows.rootsBackSpec.post enc Try.prog Try.f5 false true false false) := by
  refine returnsInHanded_of_change (C := Try.checked) Try.own started (by kernel_rfl) Try.func5
    (ChangeSpec.witness6 (enc := enc) (C := Try.checked) false ⟨#[], #[.slice none 0 0, .int .u8 0, .int .u8 0, .int .u8 0, .int .u16 0], []⟩ 8 (by kernel_rfl) (by kernel_rfl) (by kernel_rfl) (by kernel_rfl)) ?_
  intro W base args ds gs before hval0 hW hcnd _
  have hval : ∀ (j : Nat) t v, Try.f5.params[j]? = some t → args[j]? = some v → Value.okWide Try.prog W .any base t v := hval0
  have hW' := hW
  obtain ⟨p, q, hA0, hV, rfl, hfz, hnd⟩ := hW
  have hA : DataW.TrodAll enc Try.prog W 0 (fun _ => true) true Try.f5.params.toList args.toList ds p := hA0
  rw [Try.params5] at hA hval
  obtain ⟨v0, v1, v2, v3, v4, d0, d1, d2, d3, d4, p0, p1, p2, p3, p4, rfl, rfl, rfl, h0, h1, h2, h3, h4⟩ := trodAll_five hA
  obtain ⟨ao, cap, R, rfl, hlm, hR⟩ := open_nums (hval 0 45 v0 rfl rfl) h0
  obtain ⟨a, rfl, _, _, w1⟩ := open_int Try.underlying5 (hval 1 5 v1 rfl rfl) h1
  have ba := bounds_u8 w1
  obtain ⟨b, rfl, _, _, w2⟩ := open_int Try.underlying5 (hval 2 5 v2 rfl rfl) h2
  have bb := bounds_u8 w2
  obtain ⟨c, rfl, _, _, w3⟩ := open_int Try.underlying5 (hval 3 5 v3 rfl rfl) h3
  have bc := bounds_u8 w3
  obtain ⟨kp, rfl, _, _, w4⟩ := open_int Try.underlying46 (hval 4 46 v4 rfl rfl) h4
  have bkp := bounds_u16 w4
  have fin : ∀ (e : Ending) (W' : World), (e = .returned (.bool true) ∧ Kp [] W W') → ∃ v, e = .returned v ∧ Rows.rootsBackSpec.post enc Try.prog Try.f5 false true false false W #[.slice ao R.length cap, .int .u8 a, .int .u8 b, .int .u8 c, .int .u16 kp] v W' := by
    rintro e W' ⟨rfl, kp⟩
    exact ⟨_, rfl, post_true Try.laidOut (by kernel_rfl) rfl Try.underlying4 rfl rfl hW' kp.to_below⟩
  by_cases hs : 16 < R.length
  · exact (back_long W ao R.length cap a b c kp hs).mono fin
  · obtain ⟨x, hx⟩ : ∃ x : Nat, a % 8 = x := ⟨(a % 8).toNat, by omega⟩
    obtain ⟨y, hy⟩ : ∃ y : Nat, b % 8 = y := ⟨(b % 8).toNat, by omega⟩
    obtain ⟨z, hz⟩ : ∃ z : Nat, c % 8 = z := ⟨(c % 8).toNat, by omega⟩
    by_cases hxz : x = z ∨ y = z
    · exact (back_same W ao R.length cap a b c kp x y z (by omega) ba bb bc hx hy hz hxz).mono fin
    · exact (back_main W ao cap R a b c kp x y z (by omega) hR ba bb bc bkp hx hy hz (fun e => hxz (.inl e)) (fun e => hxz (.inr e))).mono fin

/-- THE STATEMENT. -/
theorem rootsBack_holds : Rows.RootsBackSaid :=
  OpenClaim.holds_of_wide 5 Try.f5 rfl rfl rfl rfl rfl rfl rfl ⟨rfl, rfl, rfl, rfl, rfl⟩ rfl rfl rfl rfl rfl (by kernel_rfl) Try.func5 (by kernel_rfl)
    (of_decide_eq_true (by kernel_rfl)) (by unfold Func.isWrapper; rw [if_neg (of_decide_eq_false (by kernel_rfl))]; exact ⟨rfl, rfl⟩)
    (fun os started H enc _ => rootsBack_lifted os started H enc)

end Go.Proofs.Ytbclbgabeffcfaa
