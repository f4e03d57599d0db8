/- ScriptDecodes, walked: for every text it returns true. Conditions: none. -/
import Derived.Test.YtclegfpgmhajmaaScI
import Derived.Test.YtclegfpgmhajmaaScJ
import Derived.Test.YtclegfpgmhajmaaScB
namespace Go.Proofs.Ytclegfpgmhajmaa
set_option linter.unusedVariables false
set_option linter.unusedSimpArgs false
open Go.RowKit

set_option maxRecDepth 100000 in
theorem decodes_far (w : World) (s : ByteArray) (h : 5000 < s.size) : Calls Try.prog 4 #[.string s] w fun e w' => e = .returned (.bool true) ∧ Kp [] w w' := by
  go_enter Try.func4, Try.ntmps4
  go_wp2_with fail
  refine (wakes_any _).mono ?_
  rintro e w1 ⟨rfl, hk⟩
  have K := Lib.hid hk
  clear hk
  go_wp2_with fail
  go_ret
  exact ⟨rfl, K.out⟩

set_option maxRecDepth 100000 in
set_option maxHeartbeats 4000000 in
theorem decodes_err (w : World) (s : ByteArray) (x : Int) (h : s.size ≤ 5000) (hx : x = 8 ∨ x = 3)
    (h1 : ∀ w, Calls Try.prog 14 #[.string s] w fun e w' => e = .returned (.tuple #[.slice none 0 0, .int .i64 x]) ∧ Kp [] w w')
    (h2 : ∀ w, Calls Try.prog 15 #[.string s] w fun e w' => e = .returned (.tuple #[.slice none 0 0, .int .i64 x]) ∧ Kp [] w w') :
    Calls Try.prog 4 #[.string s] w fun e w' => e = .returned (.bool true) ∧ Kp [] w w' := by
  have H1 := Lib.hid h1
  have H2 := Lib.hid h2
  clear h1 h2
  rcases hx with rfl | rfl
  all_goals
    go_enter Try.func4, Try.ntmps4
    go_wp2_with fail
    refine (H1.out _).mono ?_
    rintro e w1 ⟨rfl, hk⟩
    have K1 := Lib.hid hk
    clear hk
    go_wp2_with fail
    refine (H2.out _).mono ?_
    rintro e w2 ⟨rfl, hk⟩
    have K2 := Lib.hid (K1.out.trans hk)
    clear hk K1
    go_wp2_with fail
    go_loopg [7] 0 (fun gg vi wr => vi = .int .i64 0 ∧ gg = 0 ∧ Hid (Kp [] w wr))
    case atStart => exact ⟨rfl, rfl, K2⟩
    case round =>
      clear K2
      obtain ⟨rfl, rfl, HK⟩ := hrel
      go_wp2_with fail
      refine (wakes_any _).mono ?_
      rintro e w3 ⟨rfl, hk⟩
      have K := Lib.hid (HK.out.trans hk)
      clear hk
      go_wp2_with fail
      go_ret
      exact ⟨rfl, K.out⟩

set_option maxRecDepth 100000 in
set_option maxHeartbeats 4000000 in
theorem decodes_ok (w : World) (s : ByteArray) (L : List Ent) (h : s.size ≤ 4000) (hi : Is s.data.toList L) : Calls Try.prog 4 #[.string s] w fun e w' => e = .returned (.bool true) ∧ Kp [] w w' := by
  have h4 : s.data.toList.length ≤ 4000 := by rw [← Lib.size_eq]; exact h
  have H1 : Hid (∀ w, Calls Try.prog 14 #[.string s] w fun e w' => ∃ (n : Nat) (ao : Option Addr) (c : Nat), e = .returned (.tuple #[.slice ao n c, .int .i64 0]) ∧ Er 28 w.heap.size w' (.slice ao n c) n L ∧ Kp [] w w') := Lib.hid fun w => (dec_any w s).mono fun e w' hh => hh.got hi h4
  have H2 : Hid (∀ w, Calls Try.prog 15 #[.string s] w fun e w' => ∃ (n : Nat) (ao : Option Addr) (c : Nat), e = .returned (.tuple #[.slice ao n c, .int .i64 0]) ∧ Er 31 w.heap.size w' (.slice ao n c) n L ∧ Kp [] w w') := Lib.hid fun w => (rdec_any w s).mono fun e w' hh => hh.got hi h4
  have hL4 : L.length ≤ 2000 := by
    have := script_ge L
    rw [hi.2] at this; omega
  clear h4 hi
  go_enter Try.func4, Try.ntmps4
  go_wp2_with fail
  refine (H1.out _).mono ?_
  rintro e w1 ⟨n, ao, c, rfl, hE, hk⟩
  have K1 := Lib.hid hk
  have E1 := Lib.hid hE
  clear hk hE
  go_wp2_with fail
  refine (H2.out _).mono ?_
  rintro e w2 ⟨n2, ao2, c2, rfl, hE, hk⟩
  obtain rfl : n2 = n := hE.1.trans E1.out.1.symm
  have K2 := Lib.hid (K1.out.trans hk)
  have F1 := Lib.hid (E1.out.keep0 hk)
  have F2 := Lib.hid hE
  have hn4 : n2 ≤ 2000 := by have := F2.out.1; omega
  clear hk hE K1 E1 H1 H2 hL4
  go_wp2_with fail
  go_loopg [7] n2 (fun gg vi wr => ∃ k : Nat, k + gg = n2 ∧ vi = .int .i64 (k : Int) ∧ Hid (Kp [] w2 wr))
  case atStart => exact ⟨0, by omega, rfl, Lib.hid (Kp.refl _ _)⟩
  case round =>
    obtain ⟨k, hkg, rfl, HK⟩ := hrel
    by_cases hkn : k < n2
    · obtain ⟨b1, d1, hv, hd1⟩ := F1.out.at (by omega)
      simp only [Value.slice.injEq, true_and] at hv
      obtain ⟨rfl, rfl⟩ := hv
      obtain ⟨b2, d2, hv, hd2⟩ := F2.out.at (by omega)
      simp only [Value.slice.injEq, true_and] at hv
      obtain ⟨rfl, rfl⟩ := hv
      have hkl : k < L.length := by have := F1.out.1; omega
      obtain ⟨e, he⟩ : ∃ e, L[k]? = some e := ⟨_, List.getElem?_eq_getElem hkl⟩
      have HS : Hid (∀ w', Kp [] wr w' → w'.cell? ⟨b1, k * 5, none⟩ = some (.int .u8 (u e.g)) ∧ w'.cell? ⟨b1, k * 5 + 1, none⟩ = some (.int .u8 (u e.d)) ∧ w'.cell? ⟨b1, k * 5 + 2, none⟩ = some (.int .u8 (u e.a)) ∧ w'.cell? ⟨b1, k * 5 + 3, none⟩ = some (.int .u8 (u e.b)) ∧ w'.cell? ⟨b1, k * 5 + 4, none⟩ = some (.int .u8 (u e.c)) ∧
          w'.cell? ⟨b2, k * 5, none⟩ = some (.int .u8 (u e.g)) ∧ w'.cell? ⟨b2, k * 5 + 1, none⟩ = some (.int .u8 (u e.d)) ∧ w'.cell? ⟨b2, k * 5 + 2, none⟩ = some (.int .u8 (u e.a)) ∧ w'.cell? ⟨b2, k * 5 + 3, none⟩ = some (.int .u8 (u e.b)) ∧ w'.cell? ⟨b2, k * 5 + 4, none⟩ = some (.int .u8 (u e.c)) ∧ Kp [] wr w') := Lib.hid fun w' hk' => by
        have g1 := F1.out.keep0 (HK.out.trans hk')
        have g2 := F2.out.keep0 (HK.out.trans hk')
        exact ⟨g1.cell he (j := 0) (by decide), g1.cell he (j := 1) (by decide), g1.cell he (j := 2) (by decide), g1.cell he (j := 3) (by decide), g1.cell he (j := 4) (by decide), g2.cell he (j := 0) (by decide), g2.cell he (j := 1) (by decide), g2.cell he (j := 2) (by decide), g2.cell he (j := 3) (by decide), g2.cell he (j := 4) (by decide), hk'⟩
      generalize u e.g = x0 at HS
      generalize u e.d = x1 at HS
      generalize u e.a = x2 at HS
      generalize u e.b = x3 at HS
      generalize u e.c = x4 at HS
      clear he hkl
      have hq := neq_self x0 x1 x2 x3 x4
      go_wp2_with fail
      go_region_held3 (fun w' => w'.cell? ⟨b1, k * 5, none⟩ = some (.int .u8 x0) ∧ w'.cell? ⟨b1, k * 5 + 1, none⟩ = some (.int .u8 x1) ∧ w'.cell? ⟨b1, k * 5 + 2, none⟩ = some (.int .u8 x2) ∧ w'.cell? ⟨b1, k * 5 + 3, none⟩ = some (.int .u8 x3) ∧ w'.cell? ⟨b1, k * 5 + 4, none⟩ = some (.int .u8 x4) ∧
          w'.cell? ⟨b2, k * 5, none⟩ = some (.int .u8 x0) ∧ w'.cell? ⟨b2, k * 5 + 1, none⟩ = some (.int .u8 x1) ∧ w'.cell? ⟨b2, k * 5 + 2, none⟩ = some (.int .u8 x2) ∧ w'.cell? ⟨b2, k * 5 + 3, none⟩ = some (.int .u8 x3) ∧ w'.cell? ⟨b2, k * 5 + 4, none⟩ = some (.int .u8 x4) ∧ Kp [] wr w')
        (first
          | exact HS.out _ (kp_drewk _)
          | exact HS.out _ ((kp_drewk _).trans hk))
        ((refine (of_any _ x0 x1 x2 x3 x4).mono ?_
          rintro r w4 ⟨rfl, hk⟩))
      have HK4 := Lib.hid (HK.out.trans ((kp_drewk _).trans hk))
      rename_i hHeld
      clear hHeld hk HS hq HK
      go_wp2_with fail
      go_roundg (n2 - (k + 1))
      case measure => omega
      case rel => exact ⟨k + 1, by omega, by go_num, HK4⟩
    · have hk' : ¬ ((k : Int) < (n2 : Int)) := by omega
      clear hkg
      go_wp2_with fail
      refine (wakes_any _).mono ?_
      rintro e w3 ⟨rfl, hk⟩
      have K := Lib.hid ((K2.out.trans HK.out).trans hk)
      clear hk
      go_wp2_with fail
      go_ret
      exact ⟨rfl, K.out⟩

theorem decodes_any (w : World) (s : ByteArray) : Calls Try.prog 4 #[.string s] w fun e w' => e = .returned (.bool true) ∧ Kp [] w w' := by
  by_cases h5 : 5000 < s.size
  · exact decodes_far w s h5
  · by_cases h4 : 4000 < s.size
    · have hl : 4000 < s.data.toList.length := by rw [← Lib.size_eq]; exact h4
      exact decodes_err w s 8 (by omega) (.inl rfl) (fun w => (dec_any w s).mono fun e w' hh => hh.far hl) (fun w => (rdec_any w s).mono fun e w' hh => hh.far hl)
    · have hl : s.data.toList.length ≤ 4000 := by rw [← Lib.size_eq]; omega
      by_cases hi : ∃ L, Is s.data.toList L
      · obtain ⟨L, hi⟩ := hi
        exact decodes_ok w s L (by omega) hi
      · have hb : ∀ M, ¬ Is s.data.toList M := fun M h => hi ⟨M, h⟩
        exact decodes_err w s 3 (by omega) (.inr rfl) (fun w => (dec_any w s).mono fun e w' hh => hh.not hb hl) (fun w => (rdec_any w s).mono fun e w' hh => hh.not hb hl)

end Go.Proofs.Ytclegfpgmhajmaa
