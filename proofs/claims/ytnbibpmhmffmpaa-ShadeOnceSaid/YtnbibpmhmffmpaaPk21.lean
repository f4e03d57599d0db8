/- ShadeOnce: what is looked at behind a turn, done alone. Written by gen/so_e.py. ShadeOnce: a turn; its third loop. Written by gen/so_s.py. ShadeOnce: its last loop, its end. Written by gen/so_t.py. Conditions: as each theorem states them. -/
import Derived.Deep.RegionHeld3
import Derived.Deep.CutRange
import Derived.Deep.CutBlock
import Derived.Deep.DeepCutAuto
import Derived.BigQuiet
import Derived.Test.YtnbibpmhmffmpaaPk18
import Derived.Test.YtnbibpmhmffmpaaPk19
import Derived.Test.YtnbibpmhmffmpaaPk20
namespace Go.Proofs.Ytnbibpmhmffmpaa
set_option linter.unusedVariables false
set_option linter.unusedSimpArgs false
set_option maxRecDepth 100000
open Go.RowKit

set_option maxHeartbeats 16000000 in
theorem so_rest {x : Nat → Value} {wt : World} {Q : Exit → Act → World → Prop} {pA rA bd od cd M bc n bf be ba ca bw kk d a p : Nat} {cc gt : Int} {s : St} {V Z : List Int} {ended over : Bool}
    (hx1 : x 1 = .slice (some ⟨bd, od, none⟩) M cd) (hx7 : x 7 = .pointer (some ⟨bc, 0, none⟩)) (hx9 : x 9 = .int .i64 n) (hx10 : x 10 = .pointer (some ⟨pA, 0, none⟩)) (hx15 : x 15 = .slice (some ⟨bf, 0, none⟩) n n) (hx16 : x 16 = .slice (some ⟨be, 0, none⟩) M M) (hx17 : x 17 = .slice (some ⟨ba, 0, none⟩) M ca) (hx18 : x 18 = .bool true) (hx25 : x 25 = .slice (some ⟨bw, 0, none⟩) n n) (hx27 : x 27 = .int .i64 kk) (hx28 : x 28 = .bool ended)
    (hn1 : 1 ≤ n) (hn4 : n ≤ 4) (hkk : kk < M) (hM : M ≤ 4) (hd : d ≤ 255) (ha : a = d % n) (hca : M ≤ ca)
    (har : Ar wt pA rA s) (hs : s.ws.length = n) (hc : wt.cell? ⟨bc, 0, none⟩ = some (.int .u8 cc)) (hc0 : 0 ≤ cc) (hc1 : cc ≤ 1)
    (hZ : RowC wt bf n Z) (hV : RowC wt bw n V) (hdo : wt.cell? ⟨bd, od + kk, none⟩ = some (.int .u8 d)) (hag : wt.cell? ⟨ba, kk, none⟩ = some (.pointer (some ⟨p, 0, none⟩))) (hov : wt.cell? ⟨p, 6, none⟩ = some (.bool over)) (hto : wt.cell? ⟨be, kk, none⟩ = some (.int .i64 gt))
    (hask : Asked cc n a V s.ws Z) (hend : ended = false → over = true → d < 128 → (gt = 2 ↔ (tellI (V.getD a 0) cc = 1 ∨ tellI (V.getD a 0) cc = 2)) ∧ tellI (s.ws.getD a 0) cc ≠ 1)
    (hQ : ∀ a' w', FrX [(0, x 0), (1, x 1), (2, x 2), (7, x 7), (9, x 9), (10, x 10), (15, x 15), (16, x 16), (17, x 17), (18, .bool true), (25, .slice (some ⟨wt.heap.size, 0, none⟩) n n), (26, x 26)] a' → RowC w' wt.heap.size n s.ws → Kp [] wt w' → Q .normal a' w') :
    (soRest Try.f5).wp Try.prog Q ⟨T318 x, []⟩ wt := by
  have HAll := Lib.hid (all_any wt pA rA s har (by omega) (by omega))
  rw [hs] at HAll
  have HQ := Lib.hid hQ
  have hmod : (d : Int) % (n : Int) = (a : Int) := by rw [ha]; push_cast; rfl
  have htm : (d : Int).tmod (n : Int) = (a : Int) := by rw [Int.tmod_eq_emod_of_nonneg (by omega)]; exact hmod
  have e0 := IntWalk.i64_in (d : Int) (by omega)
  have e1 := IntWalk.i64_in (a : Int) (by rw [ha]; have := Nat.mod_lt d (show 0 < n by omega); omega)
  have haN : a < n := by rw [ha]; exact Nat.mod_lt _ (by omega)
  have HF : Hid (∀ w', Kp [] wt w' → w'.cell? ⟨bc, 0, none⟩ = some (.int .u8 cc) ∧ RowC w' bf n Z ∧ RowC w' bw n V ∧ w'.cell? ⟨bd, od + kk, none⟩ = some (.int .u8 d) ∧ w'.cell? ⟨ba, kk, none⟩ = some (.pointer (some ⟨p, 0, none⟩)) ∧ w'.cell? ⟨p, 6, none⟩ = some (.bool over) ∧ w'.cell? ⟨be, kk, none⟩ = some (.int .i64 gt)) :=
    Lib.hid fun w' k => by
      have kc : ∀ b o v, wt.cell? ⟨b, o, none⟩ = some v → w'.cell? ⟨b, o, none⟩ = some v := fun b o v h => by
        rw [World.cell?_of_block (k.block b (World.block_lt_of_cell? _ _ h) (by simp))]; exact h
      exact ⟨kc _ _ _ hc, hZ.keep k (by simp), hV.keep k (by simp), kc _ _ _ hdo, kc _ _ _ hag, kc _ _ _ hov, kc _ _ _ hto⟩
  have HAsk := Lib.hid hask
  have HEnd := Lib.hid hend
  have HT := Lib.hid (fun (w : World) (x t : Int) (h0 : 0 ≤ x ∧ x < 18446744073709551616) (ht : tellI x cc = t) => tell_is x cc t w h0.1 h0.2 ht)
  clear hQ hask hend hZ hV hto har hag hov hdo hc ha
  simp only [soRest, soB3, soX3, soS, bodyOf, Try.f5, codeL, codeR, blockOf, loopOf, Option.getD_some, T318]
  simp only [hx1, hx7, hx9, hx10, hx15, hx16, hx17, hx18, hx25, hx27, hx28]
  go_wp2_with fail
  refine HAll.out.mono ?_
  rintro e w1 ⟨rfl, hb1, hk1⟩
  have HB1 : Hid (RowC w1 wt.heap.size n s.ws) := Lib.hid ⟨hs, fun j hj => by rw [cell_of_row hb1, u64s_get _ _ (by omega)]⟩
  have HK1 := Lib.hid hk1
  have cdo := (HF.out w1 hk1).2.2.2.1
  clear hb1 hk1 HAll
  go_wp2_with fail
  clear cdo
  go_loopg [18, 31] n (fun g v18 v31 wr => ∃ j : Nat, j + g = n ∧ v31 = .int .i64 j ∧ v18 = .bool true ∧ Hid (Kp [] w1 wr))
  case atStart => exact ⟨0, by omega, rfl, rfl, Lib.hid (Kp.refl _ _)⟩
  case round =>
    obtain ⟨j, hj, rfl, rfl, HR⟩ := hrel
    by_cases hlt : j < n
    · obtain ⟨u, hu⟩ : ∃ u, V.getD j 0 = u := ⟨_, rfl⟩
      obtain ⟨v, hv⟩ : ∃ v, s.ws.getD j 0 = v := ⟨_, rfl⟩
      obtain ⟨z, hz⟩ : ∃ z, Z.getD j 0 = z := ⟨_, rfl⟩
      obtain ⟨tu, htu⟩ : ∃ t, tellI u cc = t := ⟨_, rfl⟩
      obtain ⟨tv, htv⟩ : ∃ t, tellI v cc = t := ⟨_, rfl⟩
      have hu0 := HAsk.out.v0 j
      have hv0 := HAsk.out.y0 j
      have hz0 := HAsk.out.z0 j
      have hw := tell_ways (tell_le (V.getD j 0) cc) (tell_le (s.ws.getD j 0) cc) (HAsk.out.t j)
      have hpl := HAsk.out.pl j
      have hot := HAsk.out.other j
      rw [hu] at hu0 hw hot
      rw [hv] at hv0 hw hpl hot
      rw [hz] at hz0 hpl
      rw [htu, htv] at hw
      have HTu := Lib.hid (fun w => HT.out w u tu hu0 htu)
      have HTv := Lib.hid (fun w => HT.out w v tv hv0 htv)
      have HPv := Lib.hid (fun w => plain_is v (plnI v) w hv0.1 hv0.2 rfl)
      have HPz := Lib.hid (fun w => plain_is z (plnI v) w hz0.1 hz0.2 hpl.symm)
      generalize plnI v = y at HPv HPz
      have HS : Hid (∀ w', Kp [] wr w' → w'.cell? ⟨bw, j, none⟩ = some (.int .u64 u) ∧ w'.cell? ⟨wt.heap.size, j, none⟩ = some (.int .u64 v) ∧ w'.cell? ⟨bf, j, none⟩ = some (.int .u64 z) ∧ w'.cell? ⟨bc, 0, none⟩ = some (.int .u8 cc) ∧ Kp [] wr w') :=
        Lib.hid fun w' k => by
          have kk' := (HR.out.trans k)
          obtain ⟨f1, f2, f3, _⟩ := HF.out w' (HK1.out.trans kk')
          exact ⟨by rw [f3.2 j hlt, hu], by rw [(HB1.out.keep kk' (by simp)).2 j hlt, hv], by rw [f2.2 j hlt, hz], f1, k⟩
      clear hu hv hz htu htv hu0 hv0 hz0 hpl
      go_upto_region 41 with (fail)
      go_cut [32, 33] from 190 to 201 (fun v32 v33 wd => v32 = .int .u8 tu ∧ v33 = .int .u8 tv ∧ Hid (Kp [] wr wd))
      case first =>
        go_region_held3 (fun w' => w'.cell? ⟨bw, j, none⟩ = some (.int .u64 u) ∧ w'.cell? ⟨wt.heap.size, j, none⟩ = some (.int .u64 v) ∧ w'.cell? ⟨bf, j, none⟩ = some (.int .u64 z) ∧ w'.cell? ⟨bc, 0, none⟩ = some (.int .u8 cc) ∧ Kp [] wr w')
            (first
              | exact HS.out _ ((Kp.refl _ _).drew)
              | exact HS.out _ (((Kp.refl _ _).drew).trans k6)
              | exact HS.out _ ((((Kp.refl _ _).drew).trans k6).trans k7)
              | exact HS.out _ (((Kp.refl _ _).drew).trans k7)
              | exact HS.out _ ((((Kp.refl _ _).drew).trans k7).trans k6))
            (first
              | (go_at_call 26
                 (with_reducible refine (HTu.out _).mono ?_)
                 rintro r w6 ⟨rfl, k6⟩)
              | (go_at_call 26
                 (with_reducible refine (HTv.out _).mono ?_)
                 rintro r w7 ⟨rfl, k7⟩))
        all_goals go_wp2_with fail
        all_goals go_meet
        all_goals exact ⟨rfl, rfl, Lib.hid (‹_ ∧ _ ∧ _ ∧ _ ∧ Kp [] wr w7›.2.2.2.2)⟩
      case rest =>
        obtain ⟨rfl, rfl, HK4⟩ := hcut
        rename_i wd
        have q1 := fun jj => (HS.out (wc.drewN jj) (HK4.out.trans (kp_drewN wc jj))).1
        have q2 := fun jj => (HS.out (wc.drewN jj) (HK4.out.trans (kp_drewN wc jj))).2.1
        go_upto_region 42 with (fail)
        go_cut [18] from 202 to 241 (fun v18 we => v18 = .bool true ∧ Hid (Kp [] wr we))
        case first =>
          by_cases hja : j = a
          · have hjb : (((j : Nat) : Int) == (a : Int)) = true := by simp [hja]
            rcases hw with ⟨rfl, rfl⟩ | ⟨rfl, rfl⟩ | ⟨rfl, rfl⟩ | ⟨rfl, rfl⟩ | ⟨rfl, rfl⟩ | ⟨rfl, rfl⟩ | ⟨rfl, rfl⟩
            all_goals
              go_quiet (fail)
              go_wp2_with fail
              go_meet
              first | exact ⟨rfl, HK4⟩ | exact ⟨rfl, Lib.hid (HK4.out.trans (kp_drewN _ _))⟩
          · have hjb : (((j : Nat) : Int) == (a : Int)) = false := by simp; omega
            have huv := hot hja
            subst huv
            have hvv : (v == v) = true := by simp
            rcases hw with ⟨rfl, rfl⟩ | ⟨rfl, rfl⟩ | ⟨rfl, rfl⟩ | ⟨rfl, rfl⟩ | ⟨rfl, rfl⟩ | ⟨rfl, rfl⟩ | ⟨rfl, rfl⟩
            all_goals
              go_quiet (fail)
              go_wp2_with fail
              go_meet
              first | exact ⟨rfl, HK4⟩ | exact ⟨rfl, Lib.hid (HK4.out.trans (kp_drewN _ _))⟩
        case rest =>
          obtain ⟨rfl, HK5⟩ := hcut
          have r2 := fun jj => (HS.out (wc.drewN jj) (HK5.out.trans (kp_drewN wc jj))).2.1
          have r3 := fun jj => (HS.out (wc.drewN jj) (HK5.out.trans (kp_drewN wc jj))).2.2.1
          clear q1 q2
          have hyy : (y == y) = true := by simp
          go_upto_region 43 with (fail)
          go_quiet (first
            | (go_at_call 27; exact Calls.quiet_of_same (HPv.out _))
            | (go_at_call 27; exact Calls.quiet_of_same (HPz.out _)))
          go_wp2_with fail
          go_roundg (n - (j + 1))
          exact ⟨j + 1, by omega, rfl, rfl, Lib.hid (HR.out.trans (HK5.out.trans (kp_drewN _ _)))⟩
          omega
    · obtain rfl : j = n := by omega
      have HK2 := Lib.hid (HK1.out.trans HR.out)
      obtain ⟨f1, f2, f3, f4, f5, f6, f7⟩ := HF.out wr HK2.out
      have HB2 := Lib.hid (HB1.out.keep HR.out (by simp))
      clear HR
      have hdn := done_at wr p over f6
      cases ended
      case true =>
        go_wp2_with fail
        exact HQ.out _ _ ⟨rfl, rfl, ⟨rfl, hx1.symm, rfl, hx7.symm, hx9.symm, hx10.symm, hx15.symm, hx16.symm, hx17.symm, rfl, rfl, rfl, trivial⟩⟩ (HB2.out.keep (S := []) (Kp.refl _ _) (by simp)) (HK2.out.trans (Kp.refl _ _))
      case false =>
        cases over
        case false =>
          go_wp2_with ((with_reducible refine hdn.mono ?_); rintro e w9 ⟨rfl, rfl⟩)
          exact HQ.out _ _ ⟨rfl, rfl, ⟨rfl, hx1.symm, rfl, hx7.symm, hx9.symm, hx10.symm, hx15.symm, hx16.symm, hx17.symm, rfl, rfl, rfl, trivial⟩⟩ (HB2.out.keep (S := []) (Kp.refl _ _) (by simp)) (HK2.out.trans (Kp.refl _ _))
        case true =>
          by_cases hd1 : d < 128
          case neg =>
            have hd2 : ¬ ((d : Int) < 128) := by omega
            go_wp2_with ((with_reducible refine hdn.mono ?_); rintro e w9 ⟨rfl, rfl⟩)
            exact HQ.out _ _ ⟨rfl, rfl, ⟨rfl, hx1.symm, rfl, hx7.symm, hx9.symm, hx10.symm, hx15.symm, hx16.symm, hx17.symm, rfl, rfl, rfl, trivial⟩⟩ (HB2.out.keep (S := []) (Kp.refl _ _) (by simp)) (HK2.out.trans (Kp.refl _ _))
          case pos =>
            have hd2 : (d : Int) < 128 := by omega
            obtain ⟨u, hu⟩ : ∃ u, V.getD a 0 = u := ⟨_, rfl⟩
            obtain ⟨v, hv⟩ : ∃ v, s.ws.getD a 0 = v := ⟨_, rfl⟩
            have hen := HEnd.out rfl rfl hd1
            have hu0 := HAsk.out.v0 a
            have hv0 := HAsk.out.y0 a
            have htl := tell_le (V.getD a 0) cc
            rw [hu, hv] at hen
            rw [hu] at hu0 htl
            rw [hv] at hv0
            obtain ⟨tu, htu⟩ : ∃ t, tellI u cc = t := ⟨_, rfl⟩
            obtain ⟨tv, htv⟩ : ∃ t, tellI v cc = t := ⟨_, rfl⟩
            rw [htu, htv] at hen
            rw [htu] at htl
            have HTu := Lib.hid (fun w => HT.out w u tu hu0 htu)
            have HTv := Lib.hid (fun w => HT.out w v tv hv0 htv)
            have htvb : (tv != 1) = true := by simpa using hen.2
            have HS : Hid (∀ w', Kp [] wr w' → w'.cell? ⟨bw, a, none⟩ = some (.int .u64 u) ∧ w'.cell? ⟨wt.heap.size, a, none⟩ = some (.int .u64 v) ∧ w'.cell? ⟨bc, 0, none⟩ = some (.int .u8 cc) ∧ w'.cell? ⟨be, kk, none⟩ = some (.int .i64 gt) ∧ Kp [] wr w') :=
              Lib.hid fun w' k => by
                obtain ⟨g1, g2, g3, _, _, _, g7⟩ := HF.out w' (HK2.out.trans k)
                exact ⟨by rw [g3.2 a haN, hu], by rw [(HB2.out.keep k (by simp)).2 a haN, hv], g1, g7, k⟩
            have hg : (tu = 0 ∧ (gt == 2) = false) ∨ (tu = 1 ∧ (gt == 2) = true) ∨ (tu = 2 ∧ (gt == 2) = true) ∨ (tu = 3 ∧ (gt == 2) = false) := by
              have h5 := hen.1
              rcases (by omega : tu = 0 ∨ tu = 1 ∨ tu = 2 ∨ tu = 3) with h | h | h | h
              · exact .inl ⟨h, by simp; intro h6; have := h5.1 h6; omega⟩
              · exact .inr (.inl ⟨h, by simpa using h5.2 (.inl h)⟩)
              · exact .inr (.inr (.inl ⟨h, by simpa using h5.2 (.inr h)⟩))
              · exact .inr (.inr (.inr ⟨h, by simp; intro h6; have := h5.1 h6; omega⟩))
            clear hen htl hu hv htu htv hu0 hv0
            go_upto_region 45 with ((with_reducible refine hdn.mono ?_); rintro e w9 ⟨rfl, rfl⟩)
            go_cut [34] from 275 to 280 (fun v34 we => v34 = .int .u8 tu ∧ Hid (Kp [] w9 we))
            case first =>
              go_region_held3 (fun w' => w'.cell? ⟨bw, a, none⟩ = some (.int .u64 u) ∧ w'.cell? ⟨wt.heap.size, a, none⟩ = some (.int .u64 v) ∧ w'.cell? ⟨bc, 0, none⟩ = some (.int .u8 cc) ∧ w'.cell? ⟨be, kk, none⟩ = some (.int .i64 gt) ∧ Kp [] w9 w')
                (first
                  | exact HS.out _ ((Kp.refl _ _).drew)
                  | exact HS.out _ (((Kp.refl _ _).drew).trans k6))
                (first
                  | (go_at_call 26
                     (with_reducible refine (HTu.out _).mono ?_)
                     rintro r w6 ⟨rfl, k6⟩)
                  | (go_at_call 26
                     (with_reducible refine (HTu.out _).mono ?_)
                     rintro r w6 ⟨rfl, k6⟩))
              all_goals go_wp2_with fail
              all_goals go_meet
              all_goals exact ⟨rfl, Lib.hid (‹_ ∧ _ ∧ _ ∧ _ ∧ Kp [] w9 w6›.2.2.2.2)⟩
            case rest =>
              obtain ⟨rfl, HK5⟩ := hcut
              go_upto_region 46 with (fail)
              go_cut [18] from 281 to 301 (fun v18 we => v18 = .bool true ∧ Hid (Kp [] w9 we))
              case first =>
                rcases hg with ⟨rfl, hg⟩ | ⟨rfl, hg⟩ | ⟨rfl, hg⟩ | ⟨rfl, hg⟩
                · go_region_held3 (fun w' => w'.cell? ⟨bw, a, none⟩ = some (.int .u64 u) ∧ w'.cell? ⟨wt.heap.size, a, none⟩ = some (.int .u64 v) ∧ w'.cell? ⟨bc, 0, none⟩ = some (.int .u8 cc) ∧ w'.cell? ⟨be, kk, none⟩ = some (.int .i64 gt) ∧ Kp [] w9 w')
                    (first
                      | exact HS.out _ (HK5.out.trans ((Kp.refl _ _).drew))
                      | exact HS.out _ (HK5.out.trans (((Kp.refl _ _).drew).trans k7)))
                    (first
                      | (go_at_call 26
                         (with_reducible refine (HTv.out _).mono ?_)
                         rintro r w7 ⟨rfl, k7⟩)
                      | (go_at_call 26
                         (with_reducible refine (HTv.out _).mono ?_)
                         rintro r w7 ⟨rfl, k7⟩))
                  all_goals go_wp2_with fail
                  all_goals go_meet
                  all_goals exact ⟨rfl, Lib.hid (‹_ ∧ _ ∧ _ ∧ _ ∧ Kp [] w9 w7›.2.2.2.2)⟩
                · refine wp_region_noPanic ?_
                  refine wp_region_held_drew (S := (fun w' => w'.cell? ⟨bw, a, none⟩ = some (.int .u64 u) ∧ w'.cell? ⟨wt.heap.size, a, none⟩ = some (.int .u64 v) ∧ w'.cell? ⟨bc, 0, none⟩ = some (.int .u8 cc) ∧ w'.cell? ⟨be, kk, none⟩ = some (.int .i64 gt) ∧ Kp [] w9 w')) (by kernel_rfl) ?_ (fun hHeld => ?_)
                  · exact HS.out _ (HK5.out.trans ((Kp.refl _ _).drew))
                  refine wpAnyH_take (i := 0) (v := ?_) rfl (by kernel_rfl) (by kernel_rfl) (by kernel_rfl) (fun _ _ _ h => h) (Or.inl ⟨by rfl, ?hy⟩) (by assumption) ?_
                  case hy => (intro w hSw; (try dsimp only at hSw); go_simp; try with_reducible rfl)
                  try simp only [Act.put, List.getElem_toArray, List.getElem_cons_zero, List.getElem_cons_succ, List.setIfInBounds_toArray, List.set_cons_zero, List.set_cons_succ]
                  refine wpAnyH_take (i := 1) (v := ?_) rfl (by kernel_rfl) (by kernel_rfl) (by kernel_rfl) (fun _ _ _ h => h) (Or.inl ⟨by rfl, ?hy⟩) (by assumption) ?_
                  case hy => (intro w hSw; (try dsimp only at hSw); go_simp; try with_reducible rfl)
                  try simp only [Act.put, List.getElem_toArray, List.getElem_cons_zero, List.getElem_cons_succ, List.setIfInBounds_toArray, List.set_cons_zero, List.set_cons_succ]
                  refine wpAnyH_take (i := 2) (v := ?_) rfl (by kernel_rfl) (by kernel_rfl) (by kernel_rfl) (fun _ _ _ h => h) (Or.inl ⟨by rfl, ?hy⟩) (by assumption) ?_
                  case hy => (intro w hSw; (try dsimp only at hSw); go_simp; try with_reducible rfl)
                  try simp only [Act.put, List.getElem_toArray, List.getElem_cons_zero, List.getElem_cons_succ, List.setIfInBounds_toArray, List.set_cons_zero, List.set_cons_succ]
                  refine wpAnyH_take (i := 3) (v := ?_) rfl (by kernel_rfl) (by kernel_rfl) (by kernel_rfl) (fun _ _ _ h => h) (Or.inl ⟨by rfl, ?hy⟩) (by assumption) ?_
                  case hy => (intro w hSw; (try dsimp only at hSw); go_simp; try with_reducible rfl)
                  try simp only [Act.put, List.getElem_toArray, List.getElem_cons_zero, List.getElem_cons_succ, List.setIfInBounds_toArray, List.set_cons_zero, List.set_cons_succ]
                  refine wpAnyH_take (i := 4) (v := ?_) rfl (by kernel_rfl) (by kernel_rfl) (by kernel_rfl) (fun _ _ _ h => h) (Or.inl ⟨by rfl, ?hy⟩) (by assumption) ?_
                  case hy => (intro w hSw; (try dsimp only at hSw); go_simp; try with_reducible rfl)
                  try simp only [Act.put, List.getElem_toArray, List.getElem_cons_zero, List.getElem_cons_succ, List.setIfInBounds_toArray, List.set_cons_zero, List.set_cons_succ]
                  refine wpAnyH_take (i := 5) (v := ?_) rfl (by kernel_rfl) (by kernel_rfl) (by kernel_rfl) (fun _ _ _ h => h) (Or.inl ⟨by rfl, ?hy⟩) (by assumption) ?_
                  case hy => (intro w hSw; (try dsimp only at hSw); go_simp; try with_reducible rfl)
                  try simp only [Act.put, List.getElem_toArray, List.getElem_cons_zero, List.getElem_cons_succ, List.setIfInBounds_toArray, List.set_cons_zero, List.set_cons_succ]
                  refine wpAnyH_take (i := 6) (v := ?_) rfl (by kernel_rfl) (by kernel_rfl) (by kernel_rfl) (fun _ _ _ h => h) (Or.inl ⟨by rfl, ?hy⟩) (by assumption) ?_
                  case hy => (intro w hSw; (try dsimp only at hSw); go_simp; try with_reducible rfl)
                  try simp only [Act.put, List.getElem_toArray, List.getElem_cons_zero, List.getElem_cons_succ, List.setIfInBounds_toArray, List.set_cons_zero, List.set_cons_succ]
                  refine wpAnyH_take (i := 7) (v := ?_) rfl (by kernel_rfl) (by kernel_rfl) (by kernel_rfl) (fun _ _ _ h => h) (Or.inl ⟨by rfl, ?hy⟩) (by assumption) ?_
                  case hy => (intro w hSw; (try dsimp only at hSw); go_simp; try with_reducible rfl)
                  try simp only [Act.put, List.getElem_toArray, List.getElem_cons_zero, List.getElem_cons_succ, List.setIfInBounds_toArray, List.set_cons_zero, List.set_cons_succ]
                  refine wpAnyH_ready (rs := [8]) (by kernel_rfl) (by simp) ?_
                  refine AllReadyH.cons rfl (fun K hK => ?_) AllReadyH.nil
                  go_simp
                  refine hK.out _ _ ?_ (fun hHeld2 => ?_)
                  · exact hHeld
                  clear hK K hHeld
                  have hHeld := hHeld2
                  clear hHeld2
                  try simp only [Act.put, List.getElem_toArray, List.getElem_cons_zero, List.getElem_cons_succ, List.setIfInBounds_toArray, List.set_cons_zero, List.set_cons_succ]
                  refine wpAnyH_ready (rs := [9]) (by kernel_rfl) (by simp) ?_
                  refine AllReadyH.cons rfl (fun K hK => ?_) AllReadyH.nil
                  go_simp
                  refine hK.out _ _ ?_ (fun hHeld2 => ?_)
                  · exact hHeld
                  clear hK K hHeld
                  have hHeld := hHeld2
                  clear hHeld2
                  try simp only [Act.put, List.getElem_toArray, List.getElem_cons_zero, List.getElem_cons_succ, List.setIfInBounds_toArray, List.set_cons_zero, List.set_cons_succ]
                  refine wpAnyH_take (i := 10) (v := ?_) rfl (by kernel_rfl) (by kernel_rfl) (by kernel_rfl) (fun _ _ _ h => h) (Or.inl ⟨by rfl, ?hy⟩) (by assumption) ?_
                  case hy => (intro w hSw; (try dsimp only at hSw); go_simp; try with_reducible rfl)
                  try simp only [Act.put, List.getElem_toArray, List.getElem_cons_zero, List.getElem_cons_succ, List.setIfInBounds_toArray, List.set_cons_zero, List.set_cons_succ]
                  refine wpAnyH_take (i := 11) (v := ?_) rfl (by kernel_rfl) (by kernel_rfl) (by kernel_rfl) (fun _ _ _ h => h) (Or.inl ⟨by rfl, ?hy⟩) (by assumption) ?_
                  case hy => (intro w hSw; (try dsimp only at hSw); go_simp; try with_reducible rfl)
                  try simp only [Act.put, List.getElem_toArray, List.getElem_cons_zero, List.getElem_cons_succ, List.setIfInBounds_toArray, List.set_cons_zero, List.set_cons_succ]
                  refine wpAnyH_take (i := 12) (v := ?_) rfl (by kernel_rfl) (by kernel_rfl) (by kernel_rfl) (fun _ _ _ h => h) (Or.inl ⟨by rfl, ?hy⟩) (by assumption) ?_
                  case hy => (intro w hSw; (try dsimp only at hSw); go_simp; try with_reducible rfl)
                  try simp only [Act.put, List.getElem_toArray, List.getElem_cons_zero, List.getElem_cons_succ, List.setIfInBounds_toArray, List.set_cons_zero, List.set_cons_succ]
                  refine wpAnyH_take (i := 13) (v := ?_) rfl (by kernel_rfl) (by kernel_rfl) (by kernel_rfl) (fun _ _ _ h => h) (Or.inl ⟨by rfl, ?hy⟩) (by assumption) ?_
                  case hy => (intro w hSw; (try dsimp only at hSw); go_simp; try with_reducible rfl)
                  try simp only [Act.put, List.getElem_toArray, List.getElem_cons_zero, List.getElem_cons_succ, List.setIfInBounds_toArray, List.set_cons_zero, List.set_cons_succ]
                  refine wpAnyH_take (i := 14) (v := ?_) rfl (by kernel_rfl) (by kernel_rfl) (by kernel_rfl) (fun _ _ _ h => h) (Or.inl ⟨by rfl, ?hy⟩) (by assumption) ?_
                  case hy => (intro w hSw; (try dsimp only at hSw); go_simp; try with_reducible rfl)
                  try simp only [Act.put, List.getElem_toArray, List.getElem_cons_zero, List.getElem_cons_succ, List.setIfInBounds_toArray, List.set_cons_zero, List.set_cons_succ]
                  refine wpAnyH_take (i := 15) (v := ?_) rfl (by kernel_rfl) (by kernel_rfl) (by kernel_rfl) (fun _ _ _ h => h) (Or.inl ⟨by rfl, ?hy⟩) (by assumption) ?_
                  case hy => (intro w hSw; (try dsimp only at hSw); go_simp; try with_reducible rfl)
                  try simp only [Act.put, List.getElem_toArray, List.getElem_cons_zero, List.getElem_cons_succ, List.setIfInBounds_toArray, List.set_cons_zero, List.set_cons_succ]
                  refine wpAnyH_take (i := 16) (v := ?_) rfl (by kernel_rfl) (by kernel_rfl) (by kernel_rfl) (fun _ _ _ h => h) (Or.inl ⟨by rfl, ?hy⟩) (by assumption) ?_
                  case hy => (intro w hSw; (try dsimp only at hSw); go_simp; try with_reducible rfl)
                  try simp only [Act.put, List.getElem_toArray, List.getElem_cons_zero, List.getElem_cons_succ, List.setIfInBounds_toArray, List.set_cons_zero, List.set_cons_succ]
                  refine wpAnyH_take (i := 17) (v := ?_) rfl (by kernel_rfl) (by kernel_rfl) (by kernel_rfl) (fun _ _ _ h => h) (Or.inl ⟨by rfl, ?hy⟩) (by assumption) ?_
                  case hy => (intro w hSw; (try dsimp only at hSw); go_simp; try with_reducible rfl)
                  try simp only [Act.put, List.getElem_toArray, List.getElem_cons_zero, List.getElem_cons_succ, List.setIfInBounds_toArray, List.set_cons_zero, List.set_cons_succ]
                  refine wpAnyH_ready (rs := [18]) (by kernel_rfl) (by simp) ?_
                  refine AllReadyH.cons rfl (fun K hK => ?_) AllReadyH.nil
                  go_simp
                  (with_reducible refine (HTv.out _).mono ?_)
                  rintro r w7 ⟨rfl, k7⟩
                  refine hK.out _ _ ?_ (fun hHeld2 => ?_)
                  · exact HS.out _ (hHeld.2.2.2.2.trans k7)
                  clear hK K hHeld
                  have hHeld := hHeld2
                  clear hHeld2
                  try simp only [Act.put, List.getElem_toArray, List.getElem_cons_zero, List.getElem_cons_succ, List.setIfInBounds_toArray, List.set_cons_zero, List.set_cons_succ]
                  refine wpAnyH_take (i := 19) (v := ?_) rfl (by kernel_rfl) (by kernel_rfl) (by kernel_rfl) (fun _ _ _ h => h) (Or.inl ⟨by rfl, ?hy⟩) (by assumption) ?_
                  case hy => (intro w hSw; (try dsimp only at hSw); go_simp; try with_reducible rfl)
                  try simp only [Act.put, List.getElem_toArray, List.getElem_cons_zero, List.getElem_cons_succ, List.setIfInBounds_toArray, List.set_cons_zero, List.set_cons_succ]
                  refine wpAnyH_take (i := 20) (v := ?_) rfl (by kernel_rfl) (by kernel_rfl) (by kernel_rfl) (fun _ _ _ h => h) (Or.inl ⟨by rfl, ?hy⟩) (by assumption) ?_
                  case hy => (intro w hSw; (try dsimp only at hSw); go_simp; try with_reducible rfl)
                  try simp only [Act.put, List.getElem_toArray, List.getElem_cons_zero, List.getElem_cons_succ, List.setIfInBounds_toArray, List.set_cons_zero, List.set_cons_succ]
                  refine wpAnyH_take (i := 21) (v := ?_) rfl (by kernel_rfl) (by kernel_rfl) (by kernel_rfl) (fun _ _ _ h => h) (Or.inl ⟨by rfl, ?hy⟩) (by assumption) ?_
                  case hy => (intro w hSw; (try dsimp only at hSw); go_simp; try with_reducible rfl)
                  try simp only [Act.put, List.getElem_toArray, List.getElem_cons_zero, List.getElem_cons_succ, List.setIfInBounds_toArray, List.set_cons_zero, List.set_cons_succ]
                  refine wpAnyH_done (by kernel_rfl) ?_ _
                  refine NoPanic.normal ?_
                  go_wp2_with fail
                  go_meet
                  exact ⟨rfl, Lib.hid hHeld.2.2.2.2⟩
                · go_region_held3 (fun w' => w'.cell? ⟨bw, a, none⟩ = some (.int .u64 u) ∧ w'.cell? ⟨wt.heap.size, a, none⟩ = some (.int .u64 v) ∧ w'.cell? ⟨bc, 0, none⟩ = some (.int .u8 cc) ∧ w'.cell? ⟨be, kk, none⟩ = some (.int .i64 gt) ∧ Kp [] w9 w')
                    (first
                      | exact HS.out _ (HK5.out.trans ((Kp.refl _ _).drew))
                      | exact HS.out _ (HK5.out.trans (((Kp.refl _ _).drew).trans k7)))
                    (first
                      | (go_at_call 26
                         (with_reducible refine (HTv.out _).mono ?_)
                         rintro r w7 ⟨rfl, k7⟩)
                      | (go_at_call 26
                         (with_reducible refine (HTv.out _).mono ?_)
                         rintro r w7 ⟨rfl, k7⟩))
                  all_goals go_wp2_with fail
                  all_goals go_meet
                  all_goals exact ⟨rfl, Lib.hid (‹_ ∧ _ ∧ _ ∧ _ ∧ Kp [] w9 w7›.2.2.2.2)⟩
                · go_region_held3 (fun w' => w'.cell? ⟨bw, a, none⟩ = some (.int .u64 u) ∧ w'.cell? ⟨wt.heap.size, a, none⟩ = some (.int .u64 v) ∧ w'.cell? ⟨bc, 0, none⟩ = some (.int .u8 cc) ∧ w'.cell? ⟨be, kk, none⟩ = some (.int .i64 gt) ∧ Kp [] w9 w')
                    (first
                      | exact HS.out _ (HK5.out.trans ((Kp.refl _ _).drew))
                      | exact HS.out _ (HK5.out.trans (((Kp.refl _ _).drew).trans k7)))
                    (first
                      | (go_at_call 26
                         (with_reducible refine (HTv.out _).mono ?_)
                         rintro r w7 ⟨rfl, k7⟩)
                      | (go_at_call 26
                         (with_reducible refine (HTv.out _).mono ?_)
                         rintro r w7 ⟨rfl, k7⟩))
                  all_goals go_wp2_with fail
                  all_goals go_meet
                  all_goals exact ⟨rfl, Lib.hid (‹_ ∧ _ ∧ _ ∧ _ ∧ Kp [] w9 w7›.2.2.2.2)⟩
              case rest =>
                obtain ⟨rfl, HK6⟩ := hcut
                go_wp2_with fail
                exact HQ.out _ _ ⟨rfl, rfl, ⟨rfl, hx1.symm, rfl, hx7.symm, hx9.symm, hx10.symm, hx15.symm, hx16.symm, hx17.symm, rfl, rfl, rfl, trivial⟩⟩ (HB2.out.keep (S := []) (HK6.out) (by simp)) (HK2.out.trans (HK6.out))

end Go.Proofs.Ytnbibpmhmffmpaa

namespace Go.Proofs.Ytnbibpmhmffmpaa
set_option linter.unusedVariables false
set_option linter.unusedSimpArgs false
set_option maxRecDepth 100000
open Go.RowKit
open Go.Conc
open Go.ConcN (upd_ne upd_same)

def soQ32 (f : Func) : Code := codeL (codeR (soB3 f))
def soQ33 (f : Func) : Code := codeL (codeR (codeR (soB3 f)))
theorem size_agent : Try.t33.size = 1 := rfl
section
variable {W : World} {ρ : Operand → Value} {o : Oper}
theorem op_index_ag (ba i n cp : Nat) {x y : Nat} (hi : i < n) (ho : o.op = .indexAddr 30 (.tmp x) (.tmp y)) (hρ : ρ (.tmp x) = .slice (some ⟨ba, 0, none⟩) n cp) (hρ' : ρ (.tmp y) = .int .i64 i) :
    (execOp ρ o).runT Try.prog W #[] = (.ok (.value (.pointer (some ⟨ba, i, none⟩))) W, #[]) := by
  have s48 := size_agent
  rw [Sem.runT_eq]
  simp [go_sem, execOp, ho, hρ, hρ', hi]
  try (first | done | (simp [Addr.add, s48]; done) | (simp [Addr.add, s48]; omega) | rfl)
end
section
variable {x : Nat → Value} {wt : World} {Q : Exit → Act → World → Prop} {bh oh n ch bd od M cd K co bc pA bf be ba ca bw i kk bO oo p : Nat} {ov : Bool}
theorem so_q32 (hx0 : x 0 = .slice (some ⟨bh, oh, none⟩) n ch) (hx1 : x 1 = .slice (some ⟨bd, od, none⟩) M cd) (hx2 : x 2 = .slice (some ⟨bO, oo, none⟩) K co) (hx7 : x 7 = .pointer (some ⟨bc, 0, none⟩)) (hx9 : x 9 = .int .i64 n) (hx10 : x 10 = .pointer (some ⟨pA, 0, none⟩)) (hx15 : x 15 = .slice (some ⟨bf, 0, none⟩) n n) (hx16 : x 16 = .slice (some ⟨be, 0, none⟩) M M) (hx17 : x 17 = .slice (some ⟨ba, 0, none⟩) M ca) (hx18 : x 18 = .bool true) (hx25 : x 25 = .slice (some ⟨bw, 0, none⟩) n n) (hx26 : x 26 = .int .i64 i) (hx27 : x 27 = .int .i64 kk) (hkk : kk < M) (hM4 : M ≤ 4) (hag : wt.cell? ⟨ba, kk, none⟩ = some (.pointer (some ⟨p, 0, none⟩))) (hov : wt.cell? ⟨p, 6, none⟩ = some (.bool ov)) (hQ : ∀ a', FrX [(0, .slice (some ⟨bh, oh, none⟩) n ch), (1, .slice (some ⟨bd, od, none⟩) M cd), (2, .slice (some ⟨bO, oo, none⟩) K co), (7, .pointer (some ⟨bc, 0, none⟩)), (9, .int .i64 n), (10, .pointer (some ⟨pA, 0, none⟩)), (15, .slice (some ⟨bf, 0, none⟩) n n), (16, .slice (some ⟨be, 0, none⟩) M M), (17, .slice (some ⟨ba, 0, none⟩) M ca), (18, .bool true), (25, .slice (some ⟨bw, 0, none⟩) n n), (26, .int .i64 i), (27, .int .i64 kk), (28, .bool ov)] a' → Q .normal a' wt) : (soQ32 Try.f5).wp Try.prog Q ⟨T318 x, []⟩ wt := by
  have HQ := Lib.hid hQ
  have HN := Lib.hid (done_at wt p ov hov)
  clear hQ hov
  simp only [soQ32, soB3, soX3, soS, soR10, bodyOf, Try.f5, codeL, codeR, blockOf, loopOf, Option.getD_some, T318]
  simp only [hx0, hx1, hx2, hx7, hx9, hx10, hx15, hx16, hx17, hx18, hx25, hx26, hx27]
  go_wp2_with fail
  refine HN.out.mono ?_
  rintro e w9 ⟨rfl, rfl⟩
  go_wp2
  exact HQ.out _ ⟨rfl, rfl, ⟨rfl, rfl, rfl, rfl, rfl, rfl, rfl, rfl, rfl, rfl, rfl, rfl, rfl, rfl, trivial⟩⟩
end

section
variable {Post : Value → World → Prop} {W : World} {pA rA be bc bf bw M n k N : Nat} {cc : Int} {ws0 : List Int} {ag : Nat → Ag} {dl : Nat → Int} {σ : Nat → Nat} {V : List Int} {va : Value} {pl : Nat → Option Place} {F : Nat → Option (Nat × Nat)} {col : Nat → Col} {w w' : World} {g : List Int} {s : St}

set_option maxHeartbeats 4000000 in
/-- Behind a Step: what the law looks at. -/
theorem so_after {args : Array Value} {x : Nat → Value} {bh oh ch bd od cd K co bO oo ba ca i kk : Nat} {ov : Bool} (A : Turns Post W pA rA be bc bf bw M n cc ws0 ag dl σ V (.slice (some ⟨ba, 0, none⟩) M ca) pl F col w g s) (hx : HasX x [(0, .slice (some ⟨bh, oh, none⟩) n ch), (1, .slice (some ⟨bd, od, none⟩) M cd), (2, .slice (some ⟨bO, oo, none⟩) K co), (7, .pointer (some ⟨bc, 0, none⟩)), (9, .int .i64 n), (10, .pointer (some ⟨pA, 0, none⟩)), (15, .slice (some ⟨bf, 0, none⟩) n n), (16, .slice (some ⟨be, 0, none⟩) M M), (17, .slice (some ⟨ba, 0, none⟩) M ca), (18, .bool true), (25, .slice (some ⟨bw, 0, none⟩) n n), (26, .int .i64 i), (27, .int .i64 kk), (28, .bool ov)]) (hkM : kk < M) (hi : i < K) (hK : K ≤ 100) (hM4 : M ≤ 4) (hn4 : n ≤ 4) (hc0 : 0 ≤ cc) (hc1 : cc ≤ 1) (hd : 0 ≤ dl kk ∧ dl kk ≤ 255) (hdl : w.cell? ⟨bd, od + kk, none⟩ = some (.int .u8 (dl kk))) {a : Nat} (ha : (a : Int) = dl kk % n)
    (hask : Asked cc n a V s.ws ws0) (hend : ov = false → 2 ≤ σ kk → ¬ 127 < dl kk → (g.getD kk 0 = 2 ↔ (tellI (V.getD a 0) cc = 1 ∨ tellI (V.getD a 0) cc = 2)) ∧ tellI (s.ws.getD a 0) cc ≠ 1)
    (H : ∀ bw' w' (x' : Nat → Value), Turns Post W pA rA be bc bf bw' M n cc ws0 ag dl σ s.ws (.slice (some ⟨ba, 0, none⟩) M ca) pl F col w' g s → HasX x' [(0, .slice (some ⟨bh, oh, none⟩) n ch), (1, .slice (some ⟨bd, od, none⟩) M cd), (2, .slice (some ⟨bO, oo, none⟩) K co), (7, .pointer (some ⟨bc, 0, none⟩)), (9, .int .i64 n), (10, .pointer (some ⟨pA, 0, none⟩)), (15, .slice (some ⟨bf, 0, none⟩) n n), (16, .slice (some ⟨be, 0, none⟩) M M), (17, .slice (some ⟨ba, 0, none⟩) M ca), (18, .bool true), (25, .slice (some ⟨bw', 0, none⟩) n n), (26, .int .i64 ((i + 1 : Nat) : Int))] →
      Win Try.prog Post pl N 0 (gor ((Frame.enter Try.prog 5 args .normal).at ⟨T318 x', []⟩ (soK3 Try.f5)) []) w') :
    Win Try.prog Post pl N 0 (gor ((Frame.enter Try.prog 5 args .normal).at ⟨T318 x, []⟩ (.code (soRest Try.f5) :: .inBlock 5 :: .code (soQ30 Try.f5) :: soK3 Try.f5)) []) w := by
  have hb : (Frame.enter Try.prog 5 args .normal).kind = .normal := rfl
  obtain ⟨dN, hdN⟩ : ∃ dN : Nat, (dN : Int) = dl kk := ⟨(dl kk).toNat, by omega⟩
  have haN : a = dN % n := by rw [← hdN] at ha; exact_mod_cast ha
  obtain ⟨hx0, hx1, hx2, hx7, hx9, hx10, hx15, hx16, hx17, hx18, hx25, hx26, hx27, hx28, -⟩ := hx
  obtain ⟨_, _, hva, hca, hall⟩ := A.all.at (by omega) (by decide)
  cases hva
  have hag : w.cell? ⟨ba, kk, none⟩ = some (.pointer (some ⟨(ag kk).p, 0, none⟩)) := by rw [hall kk (by omega)]; simp [ptrs, hkM]
  have hov := A.over hkM
  have hto := (ends_cell A.crew.sh.1 hkM).1
  have hc : w.cell? ⟨bc, 0, none⟩ = some (.int .u8 cc) := cell_of_row A.crew.sh.2 0
  have hZ : RowC w bf n ws0 := ⟨A.len0, fun j hj => by rw [cell_of_row A.row, u64s_get _ _ (by rw [A.len0]; exact hj)]⟩
  have hrc : ∀ {u : World} {b : Nat} {L : List Int}, (∀ ad, u.cell? ad = w.cell? ad) → RowC w b n L → RowC u b n L := fun h r => ⟨r.1, fun j hj => (h _).trans (r.2 j hj)⟩
  refine A.crew.desk.piece (own := fun b => b = pA ∨ b = rA) (S := fun _ => False) (A := fun w => Ar w pA rA s) (priv_ar pA rA s) A.ar (fun b hb => hb.elim (fun e => by rw [e, A.crew.desk.lay.ar.1]; rfl) (fun e => by rw [e, A.crew.desk.lay.ar.2]; rfl)) (ι := Unit) (own' := fun _ => (· = w.heap.size)) (A' := fun _ w' => 1 ≤ n ∧ RowC w' w.heap.size n s.ws) (fun _ => priv_rowc _ _ _) (K' := fun _ => [(0, x 0), (1, x 1), (2, x 2), (7, x 7), (9, x 9), (10, x 10), (15, x 15), (16, x 16), (17, x 17), (18, .bool true), (25, .slice (some ⟨w.heap.size, 0, none⟩) n n), (26, x 26)]) (stok_at rfl rfl (by simp) (by kernel_rfl)) (fun wt Q h1 h2 h3 hQ => so_rest (d := dN) (a := a) (p := (ag kk).p) (over := decide (2 ≤ σ kk)) (gt := g.getD kk 0) (V := V) (Z := ws0) hx1 hx7 hx9 hx10 hx15 hx16 hx17 hx18 hx25 hx27 hx28 A.was.1 hn4 hkM hM4 (by omega) haN hca h1 A.len ((h3 _).trans hc) hc0 hc1 (hrc h3 hZ) (hrc h3 A.was.2) (by rw [hdN]; exact (h3 _).trans hdl) ((h3 _).trans hag) ((h3 _).trans hov) ((h3 _).trans hto) hask (fun e1 e2 e3 => hend e1 (by simpa using e2) (by omega)) fun a' w' hf hr hk => ?_) fun x1 _ w1 _ hx r1 k1 D1 => ?_
  · rw [h2] at hf hr
    exact hQ a' () w' (fun y hy => .inr (by
      have hy' : y = w.heap.size := hy
      have := World.block_lt_of_cell? _ _ (hr.2 0 (by have := A.was.1; omega))
      simp only at this
      omega)) hf ⟨A.was.1, hr⟩ ((ks_of_kp hk).mono fun _ _ z => by simp at z)
  have A1 := (A.made D1 k1).row2 r1 (A.crew.desk.lay.above _ (Nat.le_refl _))
  obtain ⟨bw', hbw'⟩ : ∃ bw', bw' = w.heap.size := ⟨_, rfl⟩
  rw [← hbw'] at hx A1
  obtain ⟨y0, y1, y2, y7, y9, y10, y15, y16, y17, y18, y25, y26, -⟩ := hx
  refine Win.inBlock ?_
  exact desk_still D1 (stok_at rfl rfl (by simp) (by kernel_rfl)) (fun wt Q hQ => so_q30 (y0.trans hx0) (y1.trans hx1) (y2.trans hx2) (y7.trans hx7) (y9.trans hx9) (y10.trans hx10) (y15.trans hx15) (y16.trans hx16) (y17.trans hx17) y18 y25 (y26.trans hx26) hi hK hQ) fun x2 w2 hx k2 D2 => H bw' w2 x2 (A1.made D2 k2) hx

set_option maxHeartbeats 4000000 in
/-- A TURN. -/
theorem so_turn {args : Array Value} {x : Nat → Value} {bh oh ch bd od cd K co bO oo i : Nat} {d : Int} (A : Turns Post W pA rA be bc bf bw M n cc ws0 ag dl σ s.ws va pl F col w g s) (hx : HasX x [(0, .slice (some ⟨bh, oh, none⟩) n ch), (1, .slice (some ⟨bd, od, none⟩) M cd), (2, .slice (some ⟨bO, oo, none⟩) K co), (7, .pointer (some ⟨bc, 0, none⟩)), (9, .int .i64 n), (10, .pointer (some ⟨pA, 0, none⟩)), (15, .slice (some ⟨bf, 0, none⟩) n n), (16, .slice (some ⟨be, 0, none⟩) M M), (17, va), (18, .bool true), (25, .slice (some ⟨bw, 0, none⟩) n n), (26, .int .i64 i)]) (hi : i < K) (hK : K ≤ 100) (hM1 : 1 ≤ M) (hM4 : M ≤ 4) (hn4 : n ≤ 4) (hc0 : 0 ≤ cc) (hc1 : cc ≤ 1) (hd : 0 ≤ d ∧ d ≤ 255) (hcl : w.cell? ⟨bO, oo + i, none⟩ = some (.int .u8 d)) (hdl : ∀ j, j < M → w.cell? ⟨bd, od + j, none⟩ = some (.int .u8 (dl j)) ∧ 0 ≤ dl j ∧ dl j ≤ 255) (hbd : col bd = .main) (ht : s.t ≤ 3000)
    (H : ∀ bw' σ' g' s' pl' F' col' w' (x' : Nat → Value), Turns Post W pA rA be bc bf bw' M n cc ws0 ag dl σ' s'.ws va pl' F' col' w' g' s' → s'.t ≤ s.t + 1 → HasX x' [(0, .slice (some ⟨bh, oh, none⟩) n ch), (1, .slice (some ⟨bd, od, none⟩) M cd), (2, .slice (some ⟨bO, oo, none⟩) K co), (7, .pointer (some ⟨bc, 0, none⟩)), (9, .int .i64 n), (10, .pointer (some ⟨pA, 0, none⟩)), (15, .slice (some ⟨bf, 0, none⟩) n n), (16, .slice (some ⟨be, 0, none⟩) M M), (17, va), (18, .bool true), (25, .slice (some ⟨bw', 0, none⟩) n n), (26, .int .i64 ((i + 1 : Nat) : Int))] →
      Win Try.prog Post pl' N 0 (gor ((Frame.enter Try.prog 5 args .normal).at ⟨T318 x', []⟩ (soK3 Try.f5)) []) w') :
    Win Try.prog Post pl N 0 (gor ((Frame.enter Try.prog 5 args .normal).at ⟨T318 x, []⟩ (.code (soX3 Try.f5) :: soK3 Try.f5)) []) w := by
  have hb : (Frame.enter Try.prog 5 args .normal).kind = .normal := rfl
  have e29 : soX3 Try.f5 = .seq (soQ29 Try.f5) (.seq (.block 5 (soB3 Try.f5)) (soQ30 Try.f5)) := by kernel_rfl
  have e31 : soB3 Try.f5 = .seq (soQ31 Try.f5) (codeR (soB3 Try.f5)) := by kernel_rfl
  have e32 : codeR (soB3 Try.f5) = .seq (soQ32 Try.f5) (codeR (codeR (soB3 Try.f5))) := by kernel_rfl
  have e33 : codeR (codeR (soB3 Try.f5)) = .seq (soQ33 Try.f5) (soRest Try.f5) := by kernel_rfl
  obtain ⟨ba, ca, hva, hca, _⟩ := A.all.at hM1 (by decide)
  subst hva
  have kcell : ∀ {u v : World}, Ks (fun _ => False) u v → ∀ {b o : Nat} {z : Value}, u.cell? ⟨b, o, none⟩ = some z → v.cell? ⟨b, o, none⟩ = some z := by
    intro u v k b o z h
    exact (World.cell?_of_block (k.block _ (World.block_lt_of_cell? _ _ h) fun z => z)).trans h
  obtain ⟨hx0, hx1, hx2, hx7, hx9, hx10, hx15, hx16, hx17, hx18, hx25, hx26, -⟩ := hx
  rw [show (Item.code (soX3 Try.f5) :: soK3 Try.f5) = .code (.seq (soQ29 Try.f5) (.seq (.block 5 (soB3 Try.f5)) (soQ30 Try.f5))) :: soK3 Try.f5 by rw [← e29]]
  refine Win.seq ?_
  refine desk_still A.crew.desk (stok_at rfl rfl (by simp) (by kernel_rfl)) (fun wt Q hQ => so_q29 hx0 hx1 hx2 hx7 hx9 hx10 hx15 hx16 hx17 hx18 hx25 hx26 hi hK hQ) fun x1 w1 hx k1 D1 => ?_
  have A1 := A.made D1 k1
  have hcl1 := kcell k1 hcl
  have hdl1 := fun j hj => kcell k1 (hdl j hj).1
  clear hx0 hx1 hx2 hx7 hx9 hx10 hx15 hx16 hx17 hx18 hx25 hx26
  obtain ⟨hx0, hx1, hx2, hx7, hx9, hx10, hx15, hx16, hx17, hx18, hx25, hx26, -⟩ := hx
  refine Win.seq ?_
  refine Win.block ?_
  rw [e31]
  refine Win.seq ?_
  refine desk_look D1 (stok_at rfl rfl (by simp) (by kernel_rfl)) (fun wt Q hcell hQ => so_q31 hx0 hx1 hx2 hx7 hx9 hx10 hx15 hx16 hx17 hx18 hx25 hx26 hi hK hM1 hM4 hd ((hcell _).trans hcl1) hQ) fun x2 w2 hx k2 D2 => ?_
  have A2 := A1.made D2 k2
  have hdl2 := fun j hj => kcell k2 (hdl1 j hj)
  clear hx0 hx1 hx2 hx7 hx9 hx10 hx15 hx16 hx17 hx18 hx25 hx26
  have hm0 := Int.emod_nonneg d (show (M : Int) ≠ 0 by omega)
  have hm1 := Int.emod_lt_of_pos d (show (0 : Int) < M by omega)
  obtain ⟨kk, hkk⟩ : ∃ kk : Nat, (kk : Int) = d % M := ⟨(d % M).toNat, by omega⟩
  rw [← hkk] at hx hm0 hm1
  have hkM : kk < M := by omega
  obtain ⟨hx0, hx1, hx2, hx7, hx9, hx10, hx15, hx16, hx17, hx18, hx25, hx26, hx27, -⟩ := hx
  have hag : ∀ {σ' : Nat → Nat} {V' : List Int} {pl' : Nat → Option Place} {F' : Nat → Option (Nat × Nat)} {col' : Nat → Col} {w' : World} {g' : List Int} {s' : St}, Turns Post W pA rA be bc bf bw M n cc ws0 ag dl σ' V' (.slice (some ⟨ba, 0, none⟩) M ca) pl' F' col' w' g' s' → w'.cell? ⟨ba, kk, none⟩ = some (.pointer (some ⟨(ag kk).p, 0, none⟩)) := fun A' => by
    obtain ⟨_, _, h1, _, h2⟩ := A'.all.at (by omega) (by decide)
    cases h1
    rw [h2 kk (by omega)]; simp [ptrs, hkM]
  rw [e32]
  refine Win.seq ?_
  refine desk_look D2 (stok_at rfl rfl (by simp) (by kernel_rfl)) (fun wt Q hcell hQ => so_q32 hx0 hx1 hx2 hx7 hx9 hx10 hx15 hx16 hx17 hx18 hx25 hx26 hx27 hkM hM4 ((hcell _).trans (hag A2)) ((hcell _).trans (A2.over hkM)) hQ) fun x3 w3 hx k3 D3 => ?_
  have A3 := A2.made D3 k3
  have hdl3 := fun j hj => kcell k3 (hdl2 j hj)
  clear hx0 hx1 hx2 hx7 hx9 hx10 hx15 hx16 hx17 hx18 hx25 hx26 hx27
  obtain ⟨hx0, hx1, hx2, hx7, hx9, hx10, hx15, hx16, hx17, hx18, hx25, hx26, hx27, hx28, -⟩ := hx
  rw [e33]
  refine Win.seq ?_
  obtain ⟨hdk0, hdk1⟩ := (hdl kk hkM).2
  have hn1 := A.was.1
  have hma := Int.emod_nonneg (dl kk) (show (n : Int) ≠ 0 by omega)
  have hmb := Int.emod_lt_of_pos (dl kk) (show (0 : Int) < n by omega)
  obtain ⟨a, ha⟩ : ∃ a : Nat, (a : Int) = dl kk % n := ⟨(dl kk % n).toNat, by omega⟩
  have haN : a < n := by omega
  have hbdlt : bd < w3.heap.size := by
    have := World.block_lt_of_cell? _ _ (hdl3 0 (by omega))
    exact this
  generalize hC : soRest Try.f5 = CR4
  generalize hK3 : soK3 Try.f5 = KK3
  generalize hQ30 : soQ30 Try.f5 = Q30
  simp only [soQ33, soB3, soX3, soS, soR10, bodyOf, Try.f5, codeL, codeR, blockOf, loopOf, Option.getD_some, T318]
  simp only [hx0, hx1, hx2, hx7, hx9, hx10, hx15, hx16, hx17, hx18, hx25, hx26, hx27, hx28]
  refine Win.region ?_
  simp only [List.size_toArray, List.length_cons, List.length_nil, Nat.reduceAdd, List.range, List.range.loop]
  refine Win.pureOp (v := .slice (some ⟨ba, 0, none⟩) M ca) (.inl hb) rfl rfl (fun w => by rw [Sem.runT_eq]; simp [go_sem, execOp, Act.eval]; try (first | omega | rfl | exact ⟨rfl, rfl⟩ | kernel_rfl)) ?_
  simp only [Act.put, Act.eval, List.getElem?_toArray, List.getElem?_cons_zero, List.getElem?_cons_succ, Option.bind_some, List.getElem_toArray, List.getElem_cons_zero, List.getElem_cons_succ, List.setIfInBounds_toArray, List.set_cons_succ, List.set_cons_zero]
  refine Win.pureOp (v := .int .i64 kk) (.inl hb) rfl rfl (fun w => by rw [Sem.runT_eq]; simp [go_sem, execOp, Act.eval]; try (first | omega | rfl | exact ⟨rfl, rfl⟩ | kernel_rfl)) ?_
  simp only [Act.put, Act.eval, List.getElem?_toArray, List.getElem?_cons_zero, List.getElem?_cons_succ, Option.bind_some, List.getElem_toArray, List.getElem_cons_zero, List.getElem_cons_succ, List.setIfInBounds_toArray, List.set_cons_succ, List.set_cons_zero]
  refine Win.pureOp (v := .pointer (some ⟨ba, kk, none⟩)) (.inl hb) rfl rfl (fun w => op_index_ag ba kk M ca hkM rfl rfl rfl) ?_
  simp only [Act.put, Act.eval, List.getElem?_toArray, List.getElem?_cons_zero, List.getElem?_cons_succ, Option.bind_some, List.getElem_toArray, List.getElem_cons_zero, List.getElem_cons_succ, List.setIfInBounds_toArray, List.set_cons_succ, List.set_cons_zero]
  refine Win.lookOp (v := .pointer (some ⟨(ag kk).p, 0, none⟩)) (ad := ⟨ba, kk, none⟩) (x := .pointer (some ⟨(ag kk).p, 0, none⟩)) (.inl hb) rfl rfl (hag A3) (fun w hc => by rw [Sem.runT_eq]; simp [go_sem, execOp, Act.eval, hc]) ?_
  simp only [Act.put, Act.eval, List.getElem?_toArray, List.getElem?_cons_zero, List.getElem?_cons_succ, Option.bind_some, List.getElem_toArray, List.getElem_cons_zero, List.getElem_cons_succ, List.setIfInBounds_toArray, List.set_cons_succ, List.set_cons_zero]
  refine Win.enter (f := 15) (args := #[.pointer (some ⟨(ag kk).p, 0, none⟩)]) (.inl hb) rfl rfl (fun d => ⟨#[], call_enter mild.toMild Try.func15 rfl rfl rfl rfl _ _ (by simp [Act.eval]), fun e he => by simp at he⟩) ?_
  rcases Nat.lt_or_ge (σ kk) 2 with hσ | hσ
  · have hov : decide (2 ≤ σ kk) = false := by simp; omega
    have hst : σ kk = 0 ∨ (σ kk = 1 ∧ ¬ 127 < dl kk) := by
      rcases (by omega : σ kk = 0 ∨ σ kk = 1) with h | h
      · exact .inl h
      · exact .inr ⟨h, A.st1 kk h⟩
    refine so_step A3.crew hkM hst A3.ar (by rw [A3.len]; omega) (by omega) A3.bnd fun pl4 F4 col4 w4 C4 ar4 ks4 sm4 => ?_
    have A4 := A3.stepped hkM hc0 hc1 hdk0 hst ha rfl rfl C4 ar4 ks4 sm4
    have hdl4 : w4.cell? ⟨bd, od + kk, none⟩ = some (.int .u8 (dl kk)) := (World.cell?_of_block (a := ⟨bd, od + kk, none⟩) (ks4.block bd hbdlt (main_not hbd))).trans (hdl3 kk hkM)
    have hmay := phS_may (cc := cc) (d := dl kk) (v := s.ws.getD a 0) (st := σ kk)
    have hvb : 0 ≤ s.ws.getD a 0 ∧ s.ws.getD a 0 < 18446744073709551616 := by
      have e : s.ws.getD a 0 = s.ws[a]'(by rw [A.len]; exact haN) := by simp [List.getD, A.len, haN]
      rw [e]; exact A.bnd _ (List.getElem_mem _)
    have hyb := phS_bnd (cc := cc) (d := dl kk) (st := σ kk) hc0 hc1 hvb
    rw [Frame.finish_at]
    simp only [Act.put, Act.eval, List.getElem?_toArray, List.getElem?_cons_zero, List.getElem?_cons_succ, Option.bind_some, List.getElem_toArray, List.getElem_cons_zero, List.getElem_cons_succ, List.setIfInBounds_toArray, List.set_cons_succ, List.set_cons_zero]
    refine Win.opsEnd ?_
    refine win_slots (K := [(0, .slice (some ⟨bh, oh, none⟩) n ch), (1, .slice (some ⟨bd, od, none⟩) M cd), (2, .slice (some ⟨bO, oo, none⟩) K co), (7, .pointer (some ⟨bc, 0, none⟩)), (9, .int .i64 n), (10, .pointer (some ⟨pA, 0, none⟩)), (15, .slice (some ⟨bf, 0, none⟩) n n), (16, .slice (some ⟨be, 0, none⟩) M M), (17, .slice (some ⟨ba, 0, none⟩) M ca), (18, .bool true), (25, .slice (some ⟨bw, 0, none⟩) n n), (26, .int .i64 i), (27, .int .i64 kk), (28, .bool (decide (2 ≤ σ kk)))]) rfl ⟨rfl, rfl, rfl, rfl, rfl, rfl, rfl, rfl, rfl, rfl, rfl, rfl, rfl, rfl, trivial⟩ fun x5 hx => ?_
    subst hC hK3 hQ30
    refine so_after A4 hx hkM hi hK hM4 hn4 hc0 hc1 ⟨hdk0, hdk1⟩ hdl4 ha (asked_turn hc0 hc1 A.bnd A.bnd0 A.pln (by rw [A.len]; exact haN) hmay hyb) (fun _ h2 h3 => ?_) fun bw' w' x' A' hx' => H bw' _ _ _ _ _ _ w' x' A' (Nat.le_refl _) hx'
    simp only [if_true] at h2
    have hn2 : nxS cc (dl kk) (s.ws.getD a 0) (σ kk) = 2 := by
      unfold nxS at h2 ⊢
      split
      · rename_i h; rw [if_pos h] at h2; omega
      · rfl
    have hgl : kk < g.length := by rw [A.crew.sh.1.2]; exact hkM
    refine ⟨gS_self hgl h3 (A.one kk hkM h3 hσ) hn2, ?_⟩
    have h1 : (s.ws.set a (phS cc (dl kk) (s.ws.getD a 0) (σ kk))).getD a 0 = phS cc (dl kk) (s.ws.getD a 0) (σ kk) := by simp [List.getD, A.len, haN]
    show tellI ((s.ws.set a (phS cc (dl kk) (s.ws.getD a 0) (σ kk))).getD a 0) cc ≠ 1
    rw [h1]
    exact phS_end hc0 hc1 h3 (by rcases hst with h | h <;> omega) hn2
  · have hov : decide (2 ≤ σ kk) = true := by simp; omega
    have h6 := A3.over hkM
    rw [hov] at h6
    refine Win.calls mild D3.lies (stok_at rfl rfl (by simp) (by kernel_rfl)) (R := fun e w' => e = .returned (.int .i64 6) ∧ Ks (fun _ => False) (D3.lies.veil.world (fun _ _ => 0) 0 w3) w') (fun τ => (step_over _ (ag kk).p (by rw [veil_cell]; exact h6)).mono (by rintro e w' ⟨h1, h2⟩; exact ⟨h1, ks_twin0 h2.ks0⟩)) (fun e w' h => ⟨_, h.1⟩) ?_
    intro v' w4 τ Dd hok' hVOK hVK hR
    obtain ⟨hv, hku⟩ := hR
    obtain rfl : v' = .int .i64 6 := by simpa using hv
    have ks4 := ks_of_twin D3.lies hVOK hVK hku
    have D4 := D3.turned (D3.lies.keeps hVK hVOK) ks4.size
    have A4 := A3.made D4 ks4
    have hdl4 := kcell ks4 (hdl3 kk hkM)
    clear hv hku hok' hVOK hVK
    rw [Frame.finish_at]
    simp only [Act.put, Act.eval, List.getElem?_toArray, List.getElem?_cons_zero, List.getElem?_cons_succ, Option.bind_some, List.getElem_toArray, List.getElem_cons_zero, List.getElem_cons_succ, List.setIfInBounds_toArray, List.set_cons_succ, List.set_cons_zero]
    refine Win.opsEnd ?_
    refine win_slots (K := [(0, .slice (some ⟨bh, oh, none⟩) n ch), (1, .slice (some ⟨bd, od, none⟩) M cd), (2, .slice (some ⟨bO, oo, none⟩) K co), (7, .pointer (some ⟨bc, 0, none⟩)), (9, .int .i64 n), (10, .pointer (some ⟨pA, 0, none⟩)), (15, .slice (some ⟨bf, 0, none⟩) n n), (16, .slice (some ⟨be, 0, none⟩) M M), (17, .slice (some ⟨ba, 0, none⟩) M ca), (18, .bool true), (25, .slice (some ⟨bw, 0, none⟩) n n), (26, .int .i64 i), (27, .int .i64 kk), (28, .bool (decide (2 ≤ σ kk)))]) rfl ⟨rfl, rfl, rfl, rfl, rfl, rfl, rfl, rfl, rfl, rfl, rfl, rfl, rfl, rfl, trivial⟩ fun x5 hx => ?_
    subst hC hK3 hQ30
    exact so_after A4 hx hkM hi hK hM4 hn4 hc0 hc1 ⟨hdk0, hdk1⟩ hdl4 ha (asked_same A.bnd A.bnd0 A.pln) (fun h1 => by rw [hov] at h1; cases h1) fun bw' w' x' A' hx' => H bw' _ _ _ _ _ _ w' x' A' (by omega) hx'

/-- THE THIRD LOOP: the agents step in whatever order. -/
theorem so_loop3 {args : Array Value} {bh oh ch bd od cd K co : Nat} {bo : Option Addr} (hK : K ≤ 100) (hM1 : 1 ≤ M) (hM4 : M ≤ 4) (hn4 : n ≤ 4) (hc0 : 0 ≤ cc) (hc1 : cc ≤ 1)
    (hor : ∀ i, i < K → ∃ bO oo d, bo = some ⟨bO, oo, none⟩ ∧ W.cell? ⟨bO, oo + i, none⟩ = some (.int .u8 d) ∧ 0 ≤ d ∧ d ≤ 255) (hdl : ∀ j, j < M → W.cell? ⟨bd, od + j, none⟩ = some (.int .u8 (dl j)) ∧ 0 ≤ dl j ∧ dl j ≤ 255)
    (H : ∀ bw σ pl F col w g s (x : Nat → Value), Turns Post W pA rA be bc bf bw M n cc ws0 ag dl σ s.ws va pl F col w g s → s.t ≤ 3000 → HasX x [(10, .pointer (some ⟨pA, 0, none⟩)), (17, va), (18, .bool true)] → Win Try.prog Post pl N 0 (gor ((Frame.enter Try.prog 5 args .normal).at ⟨T318 x, []⟩ [.code (soR13 Try.f5)]) []) w) :
    ∀ e i, i + e = K → ∀ bw σ pl F col w g s (x : Nat → Value), Turns Post W pA rA be bc bf bw M n cc ws0 ag dl σ s.ws va pl F col w g s → s.t ≤ 4 + i → HasX x [(0, .slice (some ⟨bh, oh, none⟩) n ch), (1, .slice (some ⟨bd, od, none⟩) M cd), (2, .slice bo K co), (7, .pointer (some ⟨bc, 0, none⟩)), (9, .int .i64 n), (10, .pointer (some ⟨pA, 0, none⟩)), (15, .slice (some ⟨bf, 0, none⟩) n n), (16, .slice (some ⟨be, 0, none⟩) M M), (17, va), (18, .bool true), (25, .slice (some ⟨bw, 0, none⟩) n n), (26, .int .i64 i)] →
      Win Try.prog Post pl N 0 (gor ((Frame.enter Try.prog 5 args .normal).at ⟨T318 x, []⟩ (.code (soX3 Try.f5) :: soK3 Try.f5)) []) w := by
  intro e
  induction e with
  | zero =>
    intro i hi bw σ pl F col w g s x A ht hx
    obtain rfl : i = K := by omega
    have e29 : soX3 Try.f5 = .seq (soQ29 Try.f5) (.seq (.block 5 (soB3 Try.f5)) (soQ30 Try.f5)) := by kernel_rfl
    obtain ⟨ba, ca, hva, hca, _⟩ := A.all.at hM1 (by decide)
    subst hva
    obtain ⟨hx0, hx1, hx2, hx7, hx9, hx10, hx15, hx16, hx17, hx18, hx25, hx26, -⟩ := hx
    rw [show (Item.code (soX3 Try.f5) :: soK3 Try.f5) = .code (.seq (soQ29 Try.f5) (.seq (.block 5 (soB3 Try.f5)) (soQ30 Try.f5))) :: soK3 Try.f5 by rw [← e29]]
    refine Win.seq ?_
    have he : ∀ X : Code, exitTo 4 (.code X :: soK3 Try.f5) = some [.code (soR13 Try.f5)] := fun X => rfl
    refine desk_exit A.crew.desk (he _) (stok_at rfl rfl (by simp) (by kernel_rfl)) (fun wt Q hQ => so_q29_end hx0 hx1 hx2 hx7 hx9 hx10 hx15 hx16 hx17 hx18 hx25 hx26 rfl hK hQ) fun x1 w1 hx k1 D1 => ?_
    obtain ⟨-, -, -, -, -, y10, -, -, y17, y18, -⟩ := hx
    exact H bw σ pl F col w1 g s x1 (A.made D1 k1) (by omega) ⟨y10, y17, y18, trivial⟩
  | succ e ih =>
    intro i hi bw σ pl F col w g s x A ht hx
    obtain ⟨bO, oo, d, hbo, hcl, hd⟩ := hor i (by omega)
    subst hbo
    have kc : ∀ {b o : Nat} {z : Value}, W.cell? ⟨b, o, none⟩ = some z → w.cell? ⟨b, o, none⟩ = some z := fun h => (World.cell?_of_block (A.ks.block _ (World.block_lt_of_cell? _ _ h) fun z => z)).trans h
    refine so_turn A hx (by omega) hK hM1 hM4 hn4 hc0 hc1 hd (kc hcl) (fun j hj => ⟨kc (hdl j hj).1, (hdl j hj).2⟩) (A.old bd (World.block_lt_of_cell? _ _ (hdl 0 (by omega)).1)) (by omega) fun bw' σ' g' s' pl' F' col' w' x' A' ht' hx' => ?_
    exact Win.inLoop (ih (i + 1) (by omega) bw' σ' pl' F' col' w' g' s' x' A' (by omega) hx')
end
end Go.Proofs.Ytnbibpmhmffmpaa

namespace Go.Proofs.Ytnbibpmhmffmpaa
set_option linter.unusedVariables false
set_option linter.unusedSimpArgs false
set_option maxRecDepth 100000
open Go.RowKit
open Go.Conc
open Go.ConcN (upd_ne upd_same)

theorem stop_over (w : World) (p : Nat) (h6 : w.cell? ⟨p, 6, none⟩ = some (.bool true)) : Calls Try.prog 18 #[.pointer (some ⟨p, 0, none⟩)] w fun e w' => e = .returned (.tuple #[]) ∧ w' = w := by
  go_enter Try.func18, Try.ntmps18
  go_wp2_with (go_at_call 16; refine (done_at _ p true h6).mono ?_; rintro e w1 ⟨rfl, rfl⟩)
  simp [bodyPost, results, Try.results18]

section
variable {x : Nat → Value} {wt : World} {Q : Exit → Act → World → Prop}
theorem so_q52 (hx18 : x 18 = .bool true) (hQ : ∀ a' w', a'.defers = [] → a'.tmps.size = 318 → a'.tmps.getD 8 undef = .bool true → Ks (fun _ => False) wt w' → Q .ret a' w') : (codeR (soR13 Try.f5)).wp Try.prog Q ⟨T318 x, []⟩ wt := by
  have HQ := Lib.hid hQ
  have HN := Lib.hid (swakes_any wt)
  clear hQ
  simp only [soR13, soR10, bodyOf, Try.f5, codeL, codeR, blockOf, loopOf, Option.getD_some, T318]
  simp only [hx18]
  go_wp2_with fail
  refine HN.out.mono ?_
  rintro e w1 ⟨rfl, hk⟩
  have HK := Lib.hid hk
  clear hk HN
  go_wp2
  exact HQ.out _ _ rfl rfl rfl ((ks_of_kp HK.out).mono fun _ _ z => by simp at z)
end

section
variable {Post : Value → World → Prop} {W : World} {pA rA be bc bf bw M n k N : Nat} {cc : Int} {ws0 : List Int} {ag : Nat → Ag} {dl : Nat → Int} {σ : Nat → Nat} {V : List Int} {va : Value} {pl : Nat → Option Place} {F : Nat → Option (Nat × Nat)} {col : Nat → Col} {w w' : World} {g : List Int} {s : St}

/-- What stands while all are stopped. -/
structure Stops (Post : Value → World → Prop) (W : World) (pA rA be bc M n : Nat) (cc : Int) (ag : Nat → Ag) (dl : Nat → Int) (σ : Nat → Nat) (va : Value) (pl : Nat → Option Place) (F : Nat → Option (Nat × Nat)) (col : Nat → Col) (w : World) (g : List Int) : Prop where
  crew : Crew Post (onceSh be bc M cc) (fun b => b = be ∨ b = bc) pA rA (memV pA) 1 M ag (fun j => trS n cc j (dl j) (σ j)) pl F col w g
  all : Rw 33 1 W.heap.size w va M (ptrs ag M)
  allc : ∀ b ∈ blk va, col b = .main
  old : ∀ b, b < W.heap.size → col b = .main
  ks : Ks (fun _ => False) W w
theorem Turns.stops (A : Turns Post W pA rA be bc bf bw M n cc ws0 ag dl σ V va pl F col w g s) : Stops Post W pA rA be bc M n cc ag dl σ va pl F col w g := ⟨A.crew, A.all, A.allc, A.old, A.ks⟩
theorem Stops.made (A : Stops Post W pA rA be bc M n cc ag dl σ va pl F col w g) (D : Desk (fun b => b = be ∨ b = bc) pA rA pl F col w') (ks : Ks (fun _ => False) w w') : Stops Post W pA rA be bc M n cc ag dl σ va pl F col w' g :=
  { A with
    crew := A.crew.keep D ks (fun _ _ z => z.elim) ((priv_once be bc M cc g).st _ _ A.crew.sh fun b hb => ks.block b ((priv_once be bc M cc g).lt _ _ A.crew.sh hb) fun z => z)
    all := (priv_rw _ _ _ _ _ _).st _ _ A.all fun b hb => ks.block b ((priv_rw _ _ _ _ _ _).lt _ _ A.all hb) fun z => z
    ks := A.ks.trans ks }

/-- A Stop, whatever the agent is. -/
theorem so_stop {i : Nat} (A : Stops Post W pA rA be bc M n cc ag dl σ va pl F col w g) (hi : i < M) {c₀ : Frame} {cs : List Frame} (hok : StOK Try.prog c₀ [])
    (H : ∀ pl' F' col' w' g', Stops Post W pA rA be bc M n cc ag dl (fun j => if j = i then 2 else σ j) va pl' F' col' w' g' → Win Try.prog Post pl' N 0 (gor (c₀.finish (.tuple #[])) cs) w') :
    Win Try.prog Post pl N 0 (gor (Frame.enter Try.prog 18 #[.pointer (some ⟨(ag i).p, 0, none⟩)] .normal) (c₀ :: cs)) w := by
  rcases Nat.lt_or_ge (σ i) 2 with hσ | hσ
  · have hnode : ∃ kk φ c nx hl, trS n cc i (dl i) (σ i) = .node kk φ c nx hl := by
      rcases (by omega : σ i = 0 ∨ σ i = 1) with e | e
      · rw [e]; exact otree_node _ _ _ _
      · rw [e]; exact ⟨_, _, _, _, _, rfl⟩
    obtain ⟨kk, φ, c, nx, hl, hT⟩ := hnode
    refine A.crew.stops (priv_once be bc M cc) hi hT fun pl' F' col' w' C' ks sm => H pl' F' col' w' (hl g) ?_
    have e : (fun j => if j = i then (.ret : Tree (List Int)) else trS n cc j (dl j) (σ j)) = fun j => trS n cc j (dl j) (if j = i then 2 else σ j) := by
      funext j
      by_cases e : j = i
      · subst e; simp [trS]
      · simp [e]
    rw [e] at C'
    have hnm : ∀ b, col b = .main → ¬ (col b = .ag (ag i).j ∨ col b = .sys (ag i).j ∨ col b = .shared) := fun b hb z => by rw [hb] at z; rcases z with z | z | z <;> cases z
    have hlva : ∀ b ∈ blk va, b < w.heap.size := fun b hb => (priv_rw _ _ _ _ _ _).lt _ _ A.all hb
    have hzW := A.ks.size
    exact ⟨C', (priv_rw _ _ _ _ _ _).st _ _ A.all fun b hb => ks.block b (hlva b hb) (hnm b (A.allc b hb)), fun b hb => (sm.co b (hlva b hb)).trans (A.allc b hb), fun b hb => (sm.co b (by omega)).trans (A.old b hb), A.ks.then ks fun b hb z => (hnm b (A.old b hb) z).elim⟩
  · have hst := A.crew.st i hi
    simp only [trS_ret hσ] at hst
    obtain ⟨hpk, hSk⟩ := hst
    have D := A.crew.desk
    refine Win.calls mild D.lies hok (R := fun e w' => e = .returned (.tuple #[]) ∧ Ks (fun _ => False) (D.lies.veil.world (fun _ _ => 0) 0 w) w') (fun τ => (stop_over _ (ag i).p (by rw [veil_cell]; exact cell_of_row hSk 6)).mono (by rintro e w' ⟨h1, rfl⟩; exact ⟨h1, ks_twin0 (Ks.refl _ _)⟩)) (fun e w' h => ⟨_, h.1⟩) ?_
    intro v' w2 τ Dd hok' hVOK hVK hR
    obtain ⟨hv, hku⟩ := hR
    obtain rfl : v' = .tuple #[] := by simpa using hv
    have ks2 := ks_of_twin D.lies hVOK hVK hku
    have A2 := A.made (D.turned (D.lies.keeps hVK hVOK) ks2.size) ks2
    have e : (fun j => trS n cc j (dl j) (σ j)) = fun j => trS n cc j (dl j) (if j = i then 2 else σ j) := by
      funext j
      by_cases e : j = i
      · subst e
        simp only [if_true]
        rw [trS_ret hσ]
        rfl
      · simp [e]
    refine H pl F col w2 g { A2 with crew := ?_ }
    have C2 := A2.crew
    rw [e] at C2
    exact C2

set_option maxHeartbeats 4000000 in
/-- A round of the last loop. -/
theorem so_body5 {args : Array Value} {x : Nat → Value} {ba ca i : Nat} (A : Stops Post W pA rA be bc M n cc ag dl σ (.slice (some ⟨ba, 0, none⟩) M ca) pl F col w g) (hx : HasX x [(10, .pointer (some ⟨pA, 0, none⟩)), (17, .slice (some ⟨ba, 0, none⟩) M ca), (18, .bool true), (35, .int .i64 i)]) (hi : i < M) (hM4 : M ≤ 4)
    (H : ∀ pl' F' col' w' g' (x' : Nat → Value), Stops Post W pA rA be bc M n cc ag dl (fun j => if j = i then 2 else σ j) (.slice (some ⟨ba, 0, none⟩) M ca) pl' F' col' w' g' → HasX x' [(10, .pointer (some ⟨pA, 0, none⟩)), (17, .slice (some ⟨ba, 0, none⟩) M ca), (18, .bool true), (35, .int .i64 ((i + 1 : Nat) : Int))] → Win Try.prog Post pl' N 0 (gor ((Frame.enter Try.prog 5 args .normal).at ⟨T318 x', []⟩ (soK5 Try.f5)) []) w') :
    Win Try.prog Post pl N 0 (gor ((Frame.enter Try.prog 5 args .normal).at ⟨T318 x, []⟩ (.code (soX5 Try.f5) :: soK5 Try.f5)) []) w := by
  have hb : (Frame.enter Try.prog 5 args .normal).kind = .normal := rfl
  have e49 : soX5 Try.f5 = .seq (soQ49 Try.f5) (.seq (.block 9 (soB5 Try.f5)) (soQ50 Try.f5)) := by kernel_rfl
  have hag : ∀ {σ' : Nat → Nat} {pl' : Nat → Option Place} {F' : Nat → Option (Nat × Nat)} {col' : Nat → Col} {w' : World} {g' : List Int}, Stops Post W pA rA be bc M n cc ag dl σ' (.slice (some ⟨ba, 0, none⟩) M ca) pl' F' col' w' g' → w'.cell? ⟨ba, i, none⟩ = some (.pointer (some ⟨(ag i).p, 0, none⟩)) := fun A' => by
    obtain ⟨_, _, h1, _, h2⟩ := A'.all.at (by omega) (by decide)
    cases h1
    rw [h2 i (by omega)]; simp [ptrs, hi]
  obtain ⟨hx10, hx17, hx18, hx35, -⟩ := hx
  rw [show (Item.code (soX5 Try.f5) :: soK5 Try.f5) = .code (.seq (soQ49 Try.f5) (.seq (.block 9 (soB5 Try.f5)) (soQ50 Try.f5))) :: soK5 Try.f5 by rw [← e49]]
  refine Win.seq ?_
  refine desk_still A.crew.desk (stok_at rfl rfl (by simp) (by kernel_rfl)) (fun wt Q hQ => so_q49 hx10 hx17 hx18 hx35 hi hM4 hQ) fun x1 w1 hx k1 D1 => ?_
  have A1 := A.made D1 k1
  clear hx10 hx17 hx18 hx35
  obtain ⟨hx10, hx17, hx18, hx35, -⟩ := hx
  refine Win.seq ?_
  refine Win.block ?_
  generalize hK5 : soK5 Try.f5 = KK5
  generalize hQ50 : soQ50 Try.f5 = Q50
  simp only [soB5, soX5, soS5, soR13, soR10, bodyOf, Try.f5, codeL, codeR, blockOf, loopOf, Option.getD_some, T318]
  simp only [hx10, hx17, hx18, hx35]
  refine Win.region ?_
  simp only [List.size_toArray, List.length_cons, List.length_nil, Nat.reduceAdd, List.range, List.range.loop]
  refine Win.pureOp (v := .slice (some ⟨ba, 0, none⟩) M ca) (.inl hb) rfl rfl (fun w => by rw [Sem.runT_eq]; simp [go_sem, execOp, Act.eval]; try (first | omega | rfl | exact ⟨rfl, rfl⟩ | kernel_rfl)) ?_
  simp only [Act.put, Act.eval, List.getElem?_toArray, List.getElem?_cons_zero, List.getElem?_cons_succ, Option.bind_some, List.getElem_toArray, List.getElem_cons_zero, List.getElem_cons_succ, List.setIfInBounds_toArray, List.set_cons_succ, List.set_cons_zero]
  refine Win.pureOp (v := .int .i64 i) (.inl hb) rfl rfl (fun w => by rw [Sem.runT_eq]; simp [go_sem, execOp, Act.eval]; try (first | omega | rfl | exact ⟨rfl, rfl⟩ | kernel_rfl)) ?_
  simp only [Act.put, Act.eval, List.getElem?_toArray, List.getElem?_cons_zero, List.getElem?_cons_succ, Option.bind_some, List.getElem_toArray, List.getElem_cons_zero, List.getElem_cons_succ, List.setIfInBounds_toArray, List.set_cons_succ, List.set_cons_zero]
  refine Win.pureOp (v := .pointer (some ⟨ba, i, none⟩)) (.inl hb) rfl rfl (fun w => op_index_ag ba i M ca hi rfl rfl rfl) ?_
  simp only [Act.put, Act.eval, List.getElem?_toArray, List.getElem?_cons_zero, List.getElem?_cons_succ, Option.bind_some, List.getElem_toArray, List.getElem_cons_zero, List.getElem_cons_succ, List.setIfInBounds_toArray, List.set_cons_succ, List.set_cons_zero]
  refine Win.lookOp (v := .pointer (some ⟨(ag i).p, 0, none⟩)) (ad := ⟨ba, i, none⟩) (x := .pointer (some ⟨(ag i).p, 0, none⟩)) (.inl hb) rfl rfl (hag A1) (fun w hc => by rw [Sem.runT_eq]; simp [go_sem, execOp, Act.eval, hc]) ?_
  simp only [Act.put, Act.eval, List.getElem?_toArray, List.getElem?_cons_zero, List.getElem?_cons_succ, Option.bind_some, List.getElem_toArray, List.getElem_cons_zero, List.getElem_cons_succ, List.setIfInBounds_toArray, List.set_cons_succ, List.set_cons_zero]
  refine Win.enter (f := 18) (args := #[.pointer (some ⟨(ag i).p, 0, none⟩)]) (.inl hb) rfl rfl (fun d => ⟨#[], call_enter mild.toMild Try.func18 rfl rfl rfl rfl _ _ (by simp [Act.eval]), fun e he => by simp at he⟩) ?_
  refine so_stop A1 hi (stok_at rfl rfl (by simp) (by kernel_rfl)) fun pl2 F2 col2 w2 g2 A2 => ?_
  rw [Frame.finish_at]
  simp only [Act.put, Act.eval, List.getElem?_toArray, List.getElem?_cons_zero, List.getElem?_cons_succ, Option.bind_some, List.getElem_toArray, List.getElem_cons_zero, List.getElem_cons_succ, List.setIfInBounds_toArray, List.set_cons_succ, List.set_cons_zero]
  refine Win.opsEnd ?_
  refine win_slots (K := [(10, .pointer (some ⟨pA, 0, none⟩)), (17, .slice (some ⟨ba, 0, none⟩) M ca), (18, .bool true), (35, .int .i64 i)]) rfl ⟨rfl, rfl, rfl, rfl, trivial⟩ fun x5 hx => ?_
  subst hK5 hQ50
  obtain ⟨y10, y17, y18, y35, -⟩ := hx
  refine Win.inBlock ?_
  exact desk_still A2.crew.desk (stok_at rfl rfl (by simp) (by kernel_rfl)) (fun wt Q hQ => so_q50 y10 y17 y18 y35 hi hM4 hQ) fun x6 w6 hx k6 D6 => H pl2 F2 col2 w6 g2 x6 (A2.made D6 k6) hx

/-- THE LAST LOOP: all are stopped. -/
theorem so_loop5 {args : Array Value} (hM1 : 1 ≤ M) (hM4 : M ≤ 4)
    (H : ∀ σ pl F col w g (x : Nat → Value), Stops Post W pA rA be bc M n cc ag dl σ va pl F col w g → (∀ j, j < M → 2 ≤ σ j) → x 18 = .bool true → Win Try.prog Post pl N 0 (gor ((Frame.enter Try.prog 5 args .normal).at ⟨T318 x, []⟩ [.code (codeR (soR13 Try.f5))]) []) w) :
    ∀ e i, i + e = M → ∀ σ pl F col w g (x : Nat → Value), Stops Post W pA rA be bc M n cc ag dl σ va pl F col w g → (∀ j, j < i → 2 ≤ σ j) → HasX x [(10, .pointer (some ⟨pA, 0, none⟩)), (17, va), (18, .bool true), (35, .int .i64 i)] →
      Win Try.prog Post pl N 0 (gor ((Frame.enter Try.prog 5 args .normal).at ⟨T318 x, []⟩ (.code (soX5 Try.f5) :: soK5 Try.f5)) []) w := by
  intro e
  induction e with
  | zero =>
    intro i hi σ pl F col w g x A h0 hx
    obtain rfl : i = M := by omega
    have e49 : soX5 Try.f5 = .seq (soQ49 Try.f5) (.seq (.block 9 (soB5 Try.f5)) (soQ50 Try.f5)) := by kernel_rfl
    obtain ⟨ba, ca, hva, hca, _⟩ := A.all.at hM1 (by decide)
    subst hva
    obtain ⟨hx10, hx17, hx18, hx35, -⟩ := hx
    rw [show (Item.code (soX5 Try.f5) :: soK5 Try.f5) = .code (.seq (soQ49 Try.f5) (.seq (.block 9 (soB5 Try.f5)) (soQ50 Try.f5))) :: soK5 Try.f5 by rw [← e49]]
    refine Win.seq ?_
    have he : ∀ X : Code, exitTo 8 (.code X :: soK5 Try.f5) = some [.code (codeR (soR13 Try.f5))] := fun X => rfl
    refine desk_exit A.crew.desk (he _) (stok_at rfl rfl (by simp) (by kernel_rfl)) (fun wt Q hQ => so_q49_end hx10 hx17 hx18 hx35 rfl hM4 hQ) fun x1 w1 hx k1 D1 => ?_
    obtain ⟨-, -, y18, -⟩ := hx
    exact H σ pl F col w1 g x1 (A.made D1 k1) h0 y18
  | succ e ih =>
    intro i hi σ pl F col w g x A h0 hx
    obtain ⟨ba, ca, hva, hca, _⟩ := A.all.at hM1 (by decide)
    subst hva
    refine so_body5 A hx (by omega) hM4 fun pl' F' col' w' g' x' A' hx' => ?_
    refine Win.inLoop (ih (i + 1) (by omega) _ pl' F' col' w' g' x' A' (fun j hj => ?_) hx')
    show 2 ≤ (if j = i then 2 else σ j)
    split
    · exact Nat.le_refl _
    · exact h0 j (by omega)

/-- From the third loop's end to the law's. -/
theorem so_last {args : Array Value} {x : Nat → Value} (A : Stops Post W pA rA be bc M n cc ag dl σ va pl F col w g) (hx : HasX x [(10, .pointer (some ⟨pA, 0, none⟩)), (17, va), (18, .bool true)]) (hM1 : 1 ≤ M) (hM4 : M ≤ 4) (hPost : ∀ w', Ks (fun _ => False) W w' → Post (.bool true) w') :
    Win Try.prog Post pl N 0 (gor ((Frame.enter Try.prog 5 args .normal).at ⟨T318 x, []⟩ [.code (soR13 Try.f5)]) []) w := by
  have e48 : soR13 Try.f5 = .seq (.seq (soQ48 Try.f5) (.block 8 (.loop (soX5 Try.f5)))) (codeR (soR13 Try.f5)) := by kernel_rfl
  obtain ⟨ba, ca, hva, hca, _⟩ := A.all.at hM1 (by decide)
  subst hva
  obtain ⟨hx10, hx17, hx18, -⟩ := hx
  rw [show ([.code (soR13 Try.f5)] : List Item) = [.code (.seq (.seq (soQ48 Try.f5) (.block 8 (.loop (soX5 Try.f5)))) (codeR (soR13 Try.f5)))] by rw [← e48]]
  refine Win.seq ?_
  refine Win.seq ?_
  refine desk_still A.crew.desk (stok_at rfl rfl (by simp) (by kernel_rfl)) (fun wt Q hQ => so_q48 hx10 hx17 hx18 hQ) fun x1 w1 hx k1 D1 => ?_
  refine Win.block ?_
  refine Win.loop ?_
  refine so_loop5 hM1 hM4 (fun σ pl F col w g x A h0 hx18 => ?_) M 0 (by omega) σ pl F col w1 g x1 (A.made D1 k1) (fun j hj => by omega) hx
  have hpl : ∀ i, pl i = none := fun i => by
    rcases Nat.lt_or_ge i 1 with z | z
    · obtain rfl : i = 0 := by omega
      exact A.crew.desk.pl0
    · rcases Nat.lt_or_ge i (1 + M) with z2 | z2
      · have hst := A.crew.st (i - 1) (by omega)
        simp only [trS_ret (h0 (i - 1) (by omega))] at hst
        have hj := A.crew.num (i - 1) (by omega)
        have := hst.1
        rw [hj, show 1 + (i - 1) = i from by omega] at this
        exact this
      · exact A.crew.out i z2
  exact piece_ret hpl (Priv.const True) trivial (stok_at rfl rfl (by simp) (by kernel_rfl)) (fun wt Q _ hQ => so_q52 hx18 hQ) fun w' k => hPost w' (A.ks.trans k)
end
end Go.Proofs.Ytnbibpmhmffmpaa
