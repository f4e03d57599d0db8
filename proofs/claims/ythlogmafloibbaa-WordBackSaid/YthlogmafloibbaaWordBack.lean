/- WordBack, as stated: for every two headers and every word the law returns true, and its arguments read as they did. Conditions: none. -/
import Derived.Test.YthlogmafloibbaaWordBackW
import Derived.Test.YthlogmafloibbaaWordOpen
namespace Go.Proofs.Ythlogmafloibbaa
set_option linter.unusedVariables false
set_option linter.unusedSimpArgs false
open Go.ChangeShapes Go.WideShapes Go.ChangeAt Go.RowKit Go.Joins Go.Deep

set_option maxRecDepth 100000 in
theorem wordBack_lifted (os : Os) (started : os.Started) (H : Type) (enc : TypeId × Value → H) :
    ReturnsInHanded {} Try.checked os 5 .any (Rows.wordBackSpec.pre6 enc Try.prog Try.f5 Rows.wordBackRow.domain false) (Rows.wordBackSpec.post enc Try.prog Try.f5 false true false false) := by
  refine returnsInHanded_of_change (C := Try.checked) Try.own started (by kernel_rfl) Try.func5
    (ChangeSpec.witness6 (enc := enc) (C := Try.checked) false ⟨#[], #[.agg #[.int .u8 0, .int .u8 0, .bool false, .bool false, .int .u8 0, .int .u8 0, .int .u8 0], .agg #[.int .u8 0, .int .u8 0, .bool false, .bool false, .int .u8 0, .int .u8 0, .int .u8 0], .int .u64 0], []⟩ 8 (by kernel_rfl) (by kernel_rfl) (by kernel_rfl) (by kernel_rfl)) ?_
  intro W base args ds gs before hval0 hW hcnd _
  have hval : ∀ (j : Nat) t v, Try.f5.params[j]? = some t → args[j]? = some v → Value.okWide Try.prog W .any base t v := hval0
  have hW' := hW
  obtain ⟨p, q, hA0, hV, rfl, hfz, hnd⟩ := hW
  have hA : DataW.TrodAll enc Try.prog W 0 (fun _ => true) true Try.f5.params.toList args.toList ds p := hA0
  rw [Try.params5] at hA hval
  obtain ⟨v0, v1, v2, d0, d1, d2, p0, p1, p2, rfl, rfl, rfl, h0, h1, h2⟩ := trodAll_three hA
  obtain ⟨k, c, o, r, s, g, m, rfl, ⟨hk, hk1⟩, ⟨hc, hc1⟩, ⟨ho, ho1⟩, ⟨hr, hr1⟩, ⟨hs, hs1⟩⟩ := open_head (.inl rfl) (hval 0 _ v0 rfl rfl) h0
  obtain ⟨k', c', o', r', s', g', m', rfl, ⟨jk, jk1⟩, ⟨jc, jc1⟩, ⟨jo, jo1⟩, ⟨jr, jr1⟩, ⟨js, js1⟩⟩ := open_head (.inl rfl) (hval 1 _ v1 rfl rfl) h1
  obtain ⟨x, rfl, _, _, wx⟩ := open_int Try.underlying24 (hval 2 24 v2 rfl rfl) h2
  obtain ⟨hx0, hx1⟩ := bounds_u64 wx
  have fin : ∀ (e : Ending) (W' : World), (e = .returned (.bool true) ∧ Below W.heap.size W W') → ∃ v, e = .returned v ∧ Rows.wordBackSpec.post enc Try.prog Try.f5 false true false false W #[.agg #[.int .u8 k, .int .u8 c, .bool g, .bool m, .int .u8 o, .int .u8 r, .int .u8 s], .agg #[.int .u8 k', .int .u8 c', .bool g', .bool m', .int .u8 o', .int .u8 r', .int .u8 s'], .int .u64 x] v W' := by
    rintro e W' ⟨rfl, bel⟩
    exact ⟨_, rfl, post_true Try.laidOut (by kernel_rfl) rfl Try.underlying4 rfl rfl hW' bel⟩
  by_cases ha : mayB k c o r s g m = true
  · by_cases hb : mayB k' c' o' r' s' g' m' = true
    · by_cases hm : takeB x = true
      · exact (back_yyy k c o r s k' c' o' r' s' _ _ _ _ _ x g m g' m' _ _ W (fun w => put_yes k c o r s g m w hk hc ho hr hs ha) (fun w => put_yes k' c' o' r' s' g' m' w jk jc jo jr js hb) (fun w => take_word k c o r s g m w hk hc ho hr hs ha) (word_inj k c o r s k' c' o' r' s' g m g' m' hk hc ho hr hs jk jc jo jr js ha hb) (fun w => take_some x w hx0 hm) (fun w => put_parts x w hx0 hm)).mono fin
      · exact (back_yyn k c o r s k' c' o' r' s' 0 0 0 0 0 x g m g' m' false false W (fun w => put_yes k c o r s g m w hk hc ho hr hs ha) (fun w => put_yes k' c' o' r' s' g' m' w jk jc jo jr js hb) (fun w => take_word k c o r s g m w hk hc ho hr hs ha) (word_inj k c o r s k' c' o' r' s' g m g' m' hk hc ho hr hs jk jc jo jr js ha hb) (fun w => take_none x w hx0 (by omega) (by simpa using hm))).mono fin
    · by_cases hm : takeB x = true
      · exact (back_yny k c o r s k' c' o' r' s' _ _ _ _ _ x g m g' m' _ _ W (fun w => put_yes k c o r s g m w hk hc ho hr hs ha) (fun w => put_no k' c' o' r' s' g' m' w jk jr (by simpa using hb)) (fun w => take_word k c o r s g m w hk hc ho hr hs ha) (fun w => take_some x w hx0 hm) (fun w => put_parts x w hx0 hm)).mono fin
      · exact (back_ynn k c o r s k' c' o' r' s' 0 0 0 0 0 x g m g' m' false false W (fun w => put_yes k c o r s g m w hk hc ho hr hs ha) (fun w => put_no k' c' o' r' s' g' m' w jk jr (by simpa using hb)) (fun w => take_word k c o r s g m w hk hc ho hr hs ha) (fun w => take_none x w hx0 (by omega) (by simpa using hm))).mono fin
  · by_cases hb : mayB k' c' o' r' s' g' m' = true
    · by_cases hm : takeB x = true
      · exact (back_nyy k c o r s k' c' o' r' s' _ _ _ _ _ x g m g' m' _ _ W (fun w => put_no k c o r s g m w hk hr (by simpa using ha)) (fun w => put_yes k' c' o' r' s' g' m' w jk jc jo jr js hb) (fun w => take_some x w hx0 hm) (fun w => put_parts x w hx0 hm)).mono fin
      · exact (back_nyn k c o r s k' c' o' r' s' 0 0 0 0 0 x g m g' m' false false W (fun w => put_no k c o r s g m w hk hr (by simpa using ha)) (fun w => put_yes k' c' o' r' s' g' m' w jk jc jo jr js hb) (fun w => take_none x w hx0 (by omega) (by simpa using hm))).mono fin
    · by_cases hm : takeB x = true
      · exact (back_nny k c o r s k' c' o' r' s' _ _ _ _ _ x g m g' m' _ _ W (fun w => put_no k c o r s g m w hk hr (by simpa using ha)) (fun w => put_no k' c' o' r' s' g' m' w jk jr (by simpa using hb)) (fun w => take_some x w hx0 hm) (fun w => put_parts x w hx0 hm)).mono fin
      · exact (back_nnn k c o r s k' c' o' r' s' 0 0 0 0 0 x g m g' m' false false W (fun w => put_no k c o r s g m w hk hr (by simpa using ha)) (fun w => put_no k' c' o' r' s' g' m' w jk jr (by simpa using hb)) (fun w => take_none x w hx0 (by omega) (by simpa using hm))).mono fin

/-- THE STATEMENT. -/
theorem wordBack_holds : Rows.WordBackSaid :=
  OpenClaim.holds_of_wide 5 Try.f5 rfl rfl rfl rfl rfl rfl rfl ⟨rfl, rfl, rfl, rfl, rfl⟩ rfl rfl rfl rfl rfl (by kernel_rfl) Try.func5 (by kernel_rfl)
    (of_decide_eq_true (by kernel_rfl)) (by unfold Func.isWrapper; rw [if_neg (of_decide_eq_false (by kernel_rfl))]; exact ⟨rfl, rfl⟩)
    (fun os started H enc _ => wordBack_lifted os started H enc)

end Go.Proofs.Ythlogmafloibbaa
