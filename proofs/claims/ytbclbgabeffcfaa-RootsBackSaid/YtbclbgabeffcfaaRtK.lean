/- RootsBack, walked: for every row of at most 16 numbers, whatever slots, it returns true. Conditions: the numbers lie where the slice leads. -/
import Derived.Test.YtbclbgabeffcfaaRtN
import Derived.Test.YtbclbgabeffcfaaOpenN
import Derived.Deep.LoopGhost
import Derived.Deep.CutRange
import Derived.Deep.CutBlock
import Derived.Deep.DeepCutAuto
import Derived.Carry
import Derived.BigQuiet
namespace Go.Proofs.Ytbclbgabeffcfaa
set_option linter.unusedVariables false
set_option linter.unusedSimpArgs false
open Go.RowKit

/-- What is known between two acts: eight slots, of which z has what it was given; the stack has L. -/
structure BK (w : World) (p z : Nat) (kp : Int) (L : List Int) (A : List Int) (w' : World) : Prop where
  own : Own w p A L w'
  len : A.length = 8
  keep : A.getD z 0 = kp

section
variable {w w' w'' : World} {p z : Nat} {kp : Int} {L L' A : List Int}
theorem BK.set (h : BK w p z kp L A w') {x : Nat} {v : Int} (hx : x ≠ z) (h8 : x < 8) (s : Rt w'' p (A.set x v) L') (k : Kp [p] w' w'') : BK w p z kp L' (A.set x v) w'' :=
  ⟨h.own.turn s k, by rw [List.length_set]; exact h.len, by rw [getD_set A x z v (by rw [h.len]; exact h8), if_neg (Ne.symm hx)]; exact h.keep⟩
theorem BK.same (h : BK w p z kp L A w') (s : Rt w'' p A L') (k : Kp [p] w' w'') : BK w p z kp L' A w'' := ⟨h.own.turn s k, h.len, h.keep⟩
theorem BK.on (h : BK w p z kp L A w') (k : Kp [] w' w'') : BK w p z kp L A w'' := ⟨h.own.on k, h.len, h.keep⟩
end

theorem take_more {R : List Int} {i : Nat} (h : i < R.length) : R.take (i + 1) = R.take i ++ [R.getD i 0] := take_at h

theorem back_long (w : World) (ao : Option Addr) (n cap : Nat) (a b c kp : Int) (h : 16 < n) :
    Calls Try.prog 5 #[.slice ao n cap, .int .u8 a, .int .u8 b, .int .u8 c, .int .u16 kp] w fun e w' => e = .returned (.bool true) ∧ Kp [] w w' := by
  have h1 := wakes_any w
  go_enter Try.func5, Try.ntmps5
  go_wp2_with ((with_reducible refine h1.mono ?_); rintro e w1 ⟨rfl, hb⟩; have H := Lib.hid hb; clear hb)
  go_ret
  exact ⟨rfl, H.out⟩

set_option maxRecDepth 100000 in
theorem back_same (w : World) (ao : Option Addr) (n cap : Nat) (a b c kp : Int) (x y z : Nat) (h : n ≤ 16) (ha : 0 ≤ a ∧ a ≤ 255) (hb : 0 ≤ b ∧ b ≤ 255) (hc : 0 ≤ c ∧ c ≤ 255) (hx : a % 8 = x) (hy : b % 8 = y) (hz : c % 8 = z) (hxyz : x = z ∨ y = z) :
    Calls Try.prog 5 #[.slice ao n cap, .int .u8 a, .int .u8 b, .int .u8 c, .int .u16 kp] w fun e w' => e = .returned (.bool true) ∧ Kp [] w w' := by
  obtain ⟨p, hp⟩ : ∃ p, p = w.heap.size := ⟨_, rfl⟩
  have hnew : Calls Try.prog 7 #[.int .i64 8] w fun e w' => e = .returned (.tuple #[.pointer (some ⟨p, 0, none⟩), .int .i64 0]) ∧ Kp [] w w' :=
    (new_good w 8 (by omega) (by omega)).mono (by rintro e w' ⟨rfl, hs, hk⟩; exact ⟨by rw [hp], hk⟩)
  clear hp
  obtain ⟨ha0, ha1⟩ := ha
  obtain ⟨hb0, hb1⟩ := hb
  obtain ⟨hc0, hc1⟩ := hc
  rcases hxyz with rfl | rfl
  all_goals
    go_enter Try.func5, Try.ntmps5
    go_wp2_with fail
    refine hnew.mono ?_
    rintro e w1 ⟨rfl, hk1⟩
    have H1 := Lib.hid hk1
    clear hk1 hnew
    have h1 := wakes_any w1
    go_wp2_with ((with_reducible refine h1.mono ?_); rintro e w2 ⟨rfl, hb⟩; have H := Lib.hid hb; clear hb)
    all_goals
      go_ret
      exact ⟨rfl, H1.out.trans H.out⟩

set_option maxRecDepth 100000 in
theorem back_main (w : World) (ao : Option Addr) (cap : Nat) (R : List Int) (a b c kp : Int) (x y z : Nat) (h : R.length ≤ 16) (hR : Nums w ao R) (ha : 0 ≤ a ∧ a ≤ 255) (hb : 0 ≤ b ∧ b ≤ 255) (hc : 0 ≤ c ∧ c ≤ 255) (hk : 0 ≤ kp ∧ kp ≤ 65535) (hx : a % 8 = x) (hy : b % 8 = y) (hz : c % 8 = z) (hxz : x ≠ z) (hyz : y ≠ z) :
    Calls Try.prog 5 #[.slice ao R.length cap, .int .u8 a, .int .u8 b, .int .u8 c, .int .u16 kp] w fun e w' => e = .returned (.bool true) ∧ Kp [] w w' := by
  have hx8 : x < 8 := by omega
  have hy8 : y < 8 := by omega
  have hz8 : z < 8 := by omega
  obtain ⟨p, hp⟩ : ∃ p, p = w.heap.size := ⟨_, rfl⟩
  have hnew : Calls Try.prog 7 #[.int .i64 8] w fun e w' => e = .returned (.tuple #[.pointer (some ⟨p, 0, none⟩), .int .i64 0]) ∧ Own w p (List.replicate 8 0) [] w' :=
    (new_good w 8 (by omega) (by omega)).mono (by rintro e w' ⟨rfl, hs, hk⟩; exact ⟨by rw [hp], hp ▸ hs, hk, by omega⟩)
  clear hp
  obtain ⟨ha0, ha1⟩ := ha
  obtain ⟨hb0, hb1⟩ := hb
  obtain ⟨hc0, hc1⟩ := hc
  obtain ⟨hk0, hk1⟩ := hk
  obtain ⟨m, hm⟩ : ∃ m, m = R.length := ⟨_, rfl⟩
  have HM := Lib.hid hm
  have HR := Lib.hid hR
  rw [← hm] at h ⊢
  clear hm hR
  have NXZ := Lib.hid hxz
  have NYZ := Lib.hid hyz
  have f1 : ((x : Int) == (z : Int)) = false := by simp; omega
  have f2 : ((y : Int) == (z : Int)) = false := by simp; omega
  clear hxz hyz
  go_enter Try.func5, Try.ntmps5
  go_wp2_with fail
  refine hnew.mono ?_
  rintro e w1 ⟨rfl, hs1⟩
  have H1 := Lib.hid hs1
  clear hs1 hnew
  have h1 := set_ok w1 p _ _ H1.out.rt z kp (by simpa using hz8) hk0
  go_wp2_with fail
  refine h1.mono ?_
  rintro e w2 ⟨rfl, hs2, hk2⟩
  have H2 : Hid (BK w p z kp (R.take 0) ((List.replicate 8 0).set z kp) w2) := Lib.hid ⟨H1.out.turn hs2 hk2, by simp, by rw [getD_set _ z z kp (by simpa using hz8), if_pos rfl]⟩
  clear hs2 hk2 h1 H1 f1 f2
  go_wp2_with fail
  go_loopg [16] m (fun gg iv wr => ∃ (i : Nat) (A : List Int), i + gg = m ∧ iv = .int .i64 (i : Int) ∧ Hid (BK w p z kp (R.take i) A wr))
  case atStart => exact ⟨0, _, by omega, rfl, H2⟩
  case round =>
    clear H2
    obtain ⟨i, A, hig, rfl, H⟩ := hrel
    by_cases him : i < m
    · have hiR : i < R.length := by rw [← HM.out]; exact him
      obtain ⟨bl, o, rfl, hbl, hcell, hv0, hv1⟩ := HR.out i hiR
      have hcv := H.out.own.kp.cell (by simp) hcell
      have HT := Lib.hid (take_more hiR)
      generalize R.getD i 0 = v at hcell hv0 hv1 hcv HT
      have h1 := set_ok wr p _ _ H.out.own.rt x v (by rw [H.out.len]; exact hx8) hv0
      clear hiR hcell
      go_wp2_with fail
      refine h1.mono ?_
      rintro e w3 ⟨rfl, hs3, hk3⟩
      have H3 := Lib.hid (H.out.set NXZ.out hx8 hs3 hk3)
      have e3 : (A.set x v).getD x 0 = v := by rw [getD_set A x x v (by rw [H.out.len]; exact hx8), if_pos rfl]
      have h2 := push_ok w3 p _ _ H3.out.own.rt x (by rw [H3.out.len]; exact hx8) (by rw [List.length_take]; omega)
      rw [e3, ← HT.out] at h2
      clear hs3 hk3 h1 H hcv e3
      go_wp2_with fail
      refine h2.mono ?_
      rintro e w4 ⟨rfl, hs4, hk4⟩
      have H4 := Lib.hid (H3.out.same hs4 hk4)
      clear hs4 hk4 h2 H3
      go_wp2_with fail
      go_roundg (m - (i + 1))
      case measure => omega
      case rel => exact ⟨i + 1, _, by omega, by go_num, H4⟩
    · obtain rfl : i = m := by omega
      have e5 : R.take i = R := List.take_of_length_le (by rw [← HM.out]; exact Nat.le_refl _)
      rw [e5] at H
      clear e5 hig
      have hRl : i = R.length := HM.out
      by_cases h16 : i = 16
      · have i1 : ((i : Int) == 16) = true := by simp; omega
        have h1 := push_full wr p _ _ H.out.own.rt x (by rw [H.out.len]; exact hx8) (by rw [← hRl]; exact h16)
        clear h16 hRl
        go_wp2_with ((with_reducible refine h1.mono ?_); rintro e w5 ⟨rfl, rfl⟩)
        clear h1 i1
        go_loopg [18] i (fun gg iv wr => ∃ (q : Int) (k : Nat) (A : List Int), k = gg ∧ k ≤ i ∧ q ≤ (k : Int) - 1 ∧ (k : Int) - 1 ≤ q ∧ iv = .int .i64 q ∧ Hid (BK w p z kp (R.take k) A wr))
        case atStart => exact ⟨_, i, _, rfl, Nat.le_refl _, Int.le_refl _, Int.le_refl _, rfl, by rw [HM.out, List.take_length]; exact H⟩
        case round =>
          clear H
          obtain ⟨q, k, A, rfl, hki, hq1, hq2, rfl, H⟩ := hrel
          by_cases hq : 0 ≤ q
          · obtain ⟨j, rfl⟩ : ∃ j : Nat, q = j := ⟨q.toNat, by omega⟩
            obtain rfl : k = j + 1 := by omega
            have hjR : j < R.length := by rw [← HM.out]; omega
            obtain ⟨bl, o, rfl, hbl, hcell, hv0, hv1⟩ := HR.out j hjR
            have HT := take_more hjR
            rw [HT] at H
            generalize R.getD j 0 = v at hcell hv0 hv1 H
            have hji : j < i := by omega
            have h1 := pop_ok wr p _ _ v H.out.own.rt y (by rw [H.out.len]; exact hy8)
            clear hjR HT hq1 hq2
            go_wp2_with fail
            refine h1.mono ?_
            rintro e w6 ⟨rfl, hs6, hk6⟩
            have H6 := Lib.hid (H.out.set (Ne.symm (Ne.symm NYZ.out)) hy8 hs6 hk6)
            have e6 : (A.set y v).getD y 0 = v := by rw [getD_set A y y v (by rw [H.out.len]; exact hy8), if_pos rfl]
            have h2 := get_ok w6 p _ _ H6.out.own.rt y (by rw [H6.out.len]; exact hy8)
            have h3 := get_ok w6 p _ _ H6.out.own.rt z (by rw [H6.out.len]; exact hz8)
            have h4 := depth_any w6 p _ _ H6.out.own.rt
            rw [e6] at h2
            rw [H6.out.keep] at h3
            rw [List.length_take, Nat.min_eq_left (by rw [← HM.out]; omega)] at h4
            have hcv := H6.out.own.kp.cell (by simp) hcell
            clear hs6 hk6 h1 H e6 hcell
            go_wp2_with fail
            refine h2.mono ?_
            rintro e w7 ⟨rfl, rfl⟩
            go_wp2_with fail
            refine h3.mono ?_
            rintro e w7 ⟨rfl, rfl⟩
            clear h2 h3
            go_wp2_with ((with_reducible refine h4.mono ?_); rintro e w7 ⟨rfl, rfl⟩)
            go_roundg j
            case measure => omega
            case rel => exact ⟨_, j, _, rfl, by omega, by omega, by omega, rfl, H6⟩
          · obtain rfl : k = 0 := by omega
            have h1 := pop_empty wr p _ (show Rt wr p A [] from by simpa using H.out.own.rt) y (by rw [H.out.len]; exact hy8)
            have h2 := wakes_any wr
            have HK := Lib.hid H.out.own.kp
            clear hq1 hq2 H
            go_wp2_with ((with_reducible refine h1.mono ?_); rintro e w6 ⟨rfl, rfl⟩)
            refine h2.mono ?_
            rintro e w7 ⟨rfl, hk7⟩
            have H7 := Lib.hid (HK.out.trans hk7)
            clear hk7 h2 HK
            go_wp2_with fail
            go_ret
            exact ⟨rfl, H7.out⟩
      · have i1 : ((i : Int) == 16) = false := by simp; omega
        have h1 := push_ok wr p _ _ H.out.own.rt x (by rw [H.out.len]; exact hx8) (by omega)
        clear hRl
        go_wp2_with fail
        refine h1.mono ?_
        rintro e w5 ⟨rfl, hs5, hk5⟩
        have H5 := Lib.hid (H.out.same hs5 hk5)
        clear hs5 hk5 h1 H
        have h2 := pop_ok w5 p _ _ _ H5.out.own.rt x (by rw [H5.out.len]; exact hx8)
        go_wp2_with fail
        refine h2.mono ?_
        rintro e w6 ⟨rfl, hs6, hk6⟩
        have H := Lib.hid (H5.out.set NXZ.out hx8 hs6 hk6)
        clear hs6 hk6 h2 H5 h16
        go_wp2_with fail
        clear i1
        go_loopg [18] i (fun gg iv wr => ∃ (q : Int) (k : Nat) (A : List Int), k = gg ∧ k ≤ i ∧ q ≤ (k : Int) - 1 ∧ (k : Int) - 1 ≤ q ∧ iv = .int .i64 q ∧ Hid (BK w p z kp (R.take k) A wr))
        case atStart => exact ⟨_, i, _, rfl, Nat.le_refl _, Int.le_refl _, Int.le_refl _, rfl, by rw [HM.out, List.take_length]; exact H⟩
        case round =>
          clear H
          obtain ⟨q, k, A, rfl, hki, hq1, hq2, rfl, H⟩ := hrel
          by_cases hq : 0 ≤ q
          · obtain ⟨j, rfl⟩ : ∃ j : Nat, q = j := ⟨q.toNat, by omega⟩
            obtain rfl : k = j + 1 := by omega
            have hjR : j < R.length := by rw [← HM.out]; omega
            obtain ⟨bl, o, rfl, hbl, hcell, hv0, hv1⟩ := HR.out j hjR
            have HT := take_more hjR
            rw [HT] at H
            generalize R.getD j 0 = v at hcell hv0 hv1 H
            have hji : j < i := by omega
            have h1 := pop_ok wr p _ _ v H.out.own.rt y (by rw [H.out.len]; exact hy8)
            clear hjR HT hq1 hq2
            go_wp2_with fail
            refine h1.mono ?_
            rintro e w6 ⟨rfl, hs6, hk6⟩
            have H6 := Lib.hid (H.out.set (Ne.symm (Ne.symm NYZ.out)) hy8 hs6 hk6)
            have e6 : (A.set y v).getD y 0 = v := by rw [getD_set A y y v (by rw [H.out.len]; exact hy8), if_pos rfl]
            have h2 := get_ok w6 p _ _ H6.out.own.rt y (by rw [H6.out.len]; exact hy8)
            have h3 := get_ok w6 p _ _ H6.out.own.rt z (by rw [H6.out.len]; exact hz8)
            have h4 := depth_any w6 p _ _ H6.out.own.rt
            rw [e6] at h2
            rw [H6.out.keep] at h3
            rw [List.length_take, Nat.min_eq_left (by rw [← HM.out]; omega)] at h4
            have hcv := H6.out.own.kp.cell (by simp) hcell
            clear hs6 hk6 h1 H e6 hcell
            go_wp2_with fail
            refine h2.mono ?_
            rintro e w7 ⟨rfl, rfl⟩
            go_wp2_with fail
            refine h3.mono ?_
            rintro e w7 ⟨rfl, rfl⟩
            clear h2 h3
            go_wp2_with ((with_reducible refine h4.mono ?_); rintro e w7 ⟨rfl, rfl⟩)
            go_roundg j
            case measure => omega
            case rel => exact ⟨_, j, _, rfl, by omega, by omega, by omega, rfl, H6⟩
          · obtain rfl : k = 0 := by omega
            have h1 := pop_empty wr p _ (show Rt wr p A [] from by simpa using H.out.own.rt) y (by rw [H.out.len]; exact hy8)
            have h2 := wakes_any wr
            have HK := Lib.hid H.out.own.kp
            clear hq1 hq2 H
            go_wp2_with ((with_reducible refine h1.mono ?_); rintro e w6 ⟨rfl, rfl⟩)
            refine h2.mono ?_
            rintro e w7 ⟨rfl, hk7⟩
            have H7 := Lib.hid (HK.out.trans hk7)
            clear hk7 h2 HK
            go_wp2_with fail
            go_ret
            exact ⟨rfl, H7.out⟩

end Go.Proofs.Ytbclbgabeffcfaa
