/- TableBack, as stated: for every two entries and every word the law returns true, and its arguments read as they did. Conditions: none. -/
import Derived.Test.YtjhbegclfnecbaaTbW
import Derived.Test.YtjhbegclfnecbaaTbOpen
import Derived.Test.YtjhbegclfnecbaaLaw
import Derived.Test.YtjhbegclfnecbaaOwn
import Derived.ProofKit
import Derived.ChangeOld
import Derived.OpenShut
import Derived.Carry
namespace Go.Proofs.Ytjhbegclfnecbaa
set_option linter.unusedVariables false
set_option linter.unusedSimpArgs false
open Go.ChangeShapes Go.WideShapes Go.ChangeAt Go.RowKit

set_option maxRecDepth 100000 in
theorem tableBack_lifted (os : Os) (started : os.Started) (H : Type) (enc : TypeId × Value → H) :
    ReturnsInHanded {} Try.checked os 5 .any (Rows.tableBackSpec.pre6 enc Try.prog Try.f5 Rows.tableBackRow.domain false) (Rows.tableBackSpec.post enc Try.prog Try.f5 false true false false) := by
  refine returnsInHanded_of_change (C := Try.checked) Try.own started (by kernel_rfl) Try.func5
    (ChangeSpec.witness6 (enc := enc) (C := Try.checked) false ⟨#[], #[.agg #[.int .u8 0, .int .u8 0, .int .u8 0, .int .u8 0], .agg #[.int .u8 0, .int .u8 0, .int .u8 0, .int .u8 0], .int .u64 0], []⟩ 8 (by kernel_rfl) (by kernel_rfl) (by kernel_rfl) (by kernel_rfl)) ?_
  intro W base args ds gs before hval0 hW hcnd _
  have hval : ∀ (j : Nat) t v, Try.f5.params[j]? = some t → args[j]? = some v → Value.okWide Try.prog W .any base t v := hval0
  have hW' := hW
  obtain ⟨p, q, hA0, hV, rfl, hfz, hnd⟩ := hW
  have hA : DataW.TrodAll enc Try.prog W 0 (fun _ => true) true Try.f5.params.toList args.toList ds p := hA0
  rw [Try.params5] at hA hval
  obtain ⟨v0, v1, v2, d0, d1, d2, p0, p1, p2, rfl, rfl, rfl, h0, h1, h2⟩ := trodAll_three hA
  obtain ⟨k, c, r, o, rfl, ⟨bk0, bk1⟩, ⟨bc0, bc1⟩, ⟨br0, br1⟩, ⟨bo0, bo1⟩⟩ := open_entry (.inl rfl) (hval 0 _ v0 rfl rfl) h0
  obtain ⟨k', c', r', o', rfl, ⟨jk0, jk1⟩, ⟨jc0, jc1⟩, ⟨jr0, jr1⟩, ⟨jo0, jo1⟩⟩ := open_entry (.inl rfl) (hval 1 _ v1 rfl rfl) h1
  obtain ⟨x, rfl, _, _, w2⟩ := open_int Try.underlying24 (hval 2 24 v2 rfl rfl) h2
  obtain ⟨bx0, bx1⟩ := bounds_u64 w2
  have fin : ∀ (e : Ending) (W' : World), (e = .returned (.bool true) ∧ Kp [] W W') → ∃ v, e = .returned v ∧ Rows.tableBackSpec.post enc Try.prog Try.f5 false true false false W #[.agg #[.int .u8 k, .int .u8 c, .int .u8 r, .int .u8 o], .agg #[.int .u8 k', .int .u8 c', .int .u8 r', .int .u8 o'], .int .u64 x] v W' := by
    rintro e W' ⟨rfl, kp⟩
    exact ⟨_, rfl, post_true Try.laidOut (by kernel_rfl) rfl Try.underlying4 rfl rfl hW' kp.to_below⟩
  have hX := tail_any x bx0 (by omega)
  have hN := Lib.hid (fun w => blocks_is k c r o w br0 br1)
  by_cases ha : mayE k c r o = true
  · obtain ⟨n1, n2⟩ := blkE_in br0 ha
    have hT := Lib.hid (fun w => take_word k c r o w bk0 bc0 br0 bo0 ha)
    have hA := Lib.hid (fun w => put_yes k c r o w bk0 bc0 br0 bo0 ha)
    by_cases hb : mayE k' c' r' o' = true
    · exact (back_yy k c r o k' c' r' o' x _ _ _ W hA (Lib.hid fun w => put_yes k' c' r' o' w jk0 jc0 jr0 jo0 hb) hT hN n1 n2 (word_inj bk0 bc0 br0 bo0 jk0 jc0 jr0 jo0 ha hb) hX).mono fin
    · exact (back_yn k c r o k' c' r' o' x _ _ _ W hA (Lib.hid fun w => put_no k' c' r' o' w jk0 jc0 jr0 jo0 (by simpa using hb)) hT hN n1 n2 hX).mono fin
  · have hA := Lib.hid (fun w => put_no k c r o w bk0 bc0 br0 bo0 (by simpa using ha))
    by_cases hb : mayE k' c' r' o' = true
    · exact (back_ny k c r o k' c' r' o' x _ _ 1 W hA (Lib.hid fun w => put_yes k' c' r' o' w jk0 jc0 jr0 jo0 hb) hX).mono fin
    · exact (back_nn k c r o k' c' r' o' x _ _ 1 W hA (Lib.hid fun w => put_no k' c' r' o' w jk0 jc0 jr0 jo0 (by simpa using hb)) hX).mono fin

/-- THE STATEMENT. -/
theorem tableBack_holds : Rows.TableBackSaid :=
  OpenClaim.holds_of_wide 5 Try.f5 rfl rfl rfl rfl rfl rfl rfl ⟨rfl, rfl, rfl, rfl, rfl⟩ rfl rfl rfl rfl rfl (by kernel_rfl) Try.func5 (by kernel_rfl)
    (of_decide_eq_true (by kernel_rfl)) (by unfold Func.isWrapper; rw [if_neg (of_decide_eq_false (by kernel_rfl))]; exact ⟨rfl, rfl⟩)
    (fun os started H enc _ => tableBack_lifted os started H enc)

end Go.Proofs.Ytjhbegclfnecbaa
