/- ListOnce, walked. Conditions: the acts lie where the slice leads. -/
import Derived.Test.YthcblhombfggaaaLoM
import Derived.Test.YthcblhombfggaaaLpO
import Derived.Deep.LoopGhost
import Derived.Deep.CutRange
import Derived.Deep.CutBlock
import Derived.Deep.DeepCutAuto
import Derived.Carry
namespace Go.Proofs.Ythcblhombfggaaa
set_option linter.unusedVariables false
set_option linter.unusedSimpArgs false
open Go.RowKit Go.Maps

/-- Between two rounds. -/
structure OB (w : World) (p B m : Nat) (R : Nat → List Int) (wr : World) (vs : Nat → Value) : Prop where
  bag : Bag w p R wr vs
  mp : Mp wr B m R
  ge : w.heap.size ≤ B
theorem OB.on {w wr w2 : World} {p B m : Nat} {R : Nat → List Int} {vs : Nat → Value} (h : OB w p B m R wr vs) (k : Kp [] wr w2) : OB w p B m R w2 vs :=
  ⟨h.bag.on k, h.mp.same (k.block B h.mp.lt (by simp)), h.ge⟩

theorem cellAt_row {w : World} {g n cap : Nat} {xs : List Int} (h : Rw w (.slice (some ⟨g, 0, none⟩) n cap) xs) {i : Nat} (hi : i < xs.length) : w.cell? ⟨g, i, none⟩ = some (.int .i64 (xs.getD i 0)) := by
  rcases h with ⟨e, _⟩ | ⟨g', cap', cur, e, hg, _, _, _, h4⟩
  · cases e
  · cases e
    exact row_cell hg h4 hi

set_option maxRecDepth 100000 in
theorem once_skip (w : World) (ao : Option Addr) (n cap : Nat) (h : 150 < n) :
    Calls Try.prog 5 #[.slice ao n cap] w fun e w' => e = .returned (.bool true) ∧ Below w.heap.size w w' := by
  go_enter Try.func5, Try.ntmps5
  go_wp2_with ((with_reducible refine (wakes_any _).mono ?_); rintro e w1 ⟨rfl, hb⟩; have H := Lib.hid hb; clear hb)
  go_ret
  exact ⟨rfl, H.out⟩

set_option maxRecDepth 100000 in
set_option maxHeartbeats 4000000 in
theorem once_main (w : World) (ao : Option Addr) (cap : Nat) (L : List (Int × Int × Int × Int)) (hm : L.length ≤ 150) (hA : Acts w ao L) :
    Calls Try.prog 5 #[.slice ao L.length cap] w fun e w' => e = .returned (.bool true) ∧ Below w.heap.size w w' := by
  have hnew := bag_new w
  have hmm := @run_makeMap Try.prog
  obtain ⟨m, hmL⟩ : ∃ m, m = L.length := ⟨_, rfl⟩
  have HM := Lib.hid hmL
  rw [← hmL] at hm ⊢
  clear hmL
  go_enter Try.func5, Try.ntmps5
  go_wp2_with fail
  refine hnew.mono ?_
  rintro e w1 ⟨rfl, B1⟩
  obtain ⟨p, hp⟩ : ∃ p, p = w.heap.size := ⟨_, rfl⟩
  rw [← hp] at B1 ⊢
  have hk2 := (Kp.refl [] w1).alloc (.map #[] 0)
  have hown := World.ownsMap_made w1 Try.prog 3 (plainElem (H := Unit) Try.prog 3)
  obtain ⟨B, hB⟩ : ∃ B, B = w1.heap.size := ⟨_, rfl⟩
  have R0 : OB w p B 0 (fun _ => []) (w1.alloc (.map #[] 0)) (fun _ => .slice none 0 0) :=
    ⟨B1.on hk2, by rw [hB]; exact ⟨_, hown, ki_nil⟩, by rw [hB]; exact B1.bel.size⟩
  have HR := Lib.hid R0
  clear hk2 hown R0 B1 hnew hp
  go_wp2_with fail
  rw [← hB]
  clear hB hmm
  generalize w1.alloc (.map #[] 0) = w2 at HR ⊢
  clear w1
  go_loopg [5] m (fun gg i wr => ∃ (k : Nat) (R : Nat → List Int) (vs : Nat → Value), k + gg = m ∧ i = .int .i64 (k : Int) ∧ Hid (Len R k) ∧ Hid (Good R) ∧ Hid (OB w p B k R wr vs))
  case atStart => exact ⟨0, _, _, by omega, rfl, Lib.hid (fun _ _ => Nat.le_refl _), Lib.hid good_nil, HR⟩
  case round =>
    clear HR
    obtain ⟨k, R, vs, hkg, rfl, HL, HG, H⟩ := hrel
    by_cases hkm : k < m
    · have hkl : k < L.length := HM.out ▸ hkm
      obtain ⟨ab, o, hao, hbw, q0, q1, q2, q3, f0, f1, f2, f3⟩ := hA k _ (List.getElem?_eq_getElem hkl)
      subst hao
      generalize L[k].1 = d at q0 f0
      generalize L[k].2.1 = c at q1 f1
      generalize L[k].2.2.1 = a at q2 f2
      generalize L[k].2.2.2 = t at q3 f3
      have g0 := (H.out.bag.bel.cell (p := ⟨ab, o + k * 4, none⟩) hbw).trans q0
      have g1 := (H.out.bag.bel.cell (p := ⟨ab, o + k * 4 + 1, none⟩) hbw).trans q1
      have g2 := (H.out.bag.bel.cell (p := ⟨ab, o + k * 4 + 2, none⟩) hbw).trans q2
      have g3 := (H.out.bag.bel.cell (p := ⟨ab, o + k * 4 + 3, none⟩) hbw).trans q3
      clear q0 q1 q2 q3
      have hka := (Kp.refl [] wr).alloc (.cells #[.int .u8 d, .int .i64 c, .int .i64 a, .int .i64 t] 31)
      have hxa := heap_alloc_new wr (.cells #[.int .u8 d, .int .i64 c, .int .i64 a, .int .i64 t] 31)
      obtain ⟨x, hx⟩ : ∃ x, x = wr.heap.size := ⟨_, rfl⟩
      rw [← hx] at hxa
      have HX : Hid (OX w p B x k d c a t R R (wr.alloc (.cells #[.int .u8 d, .int .i64 c, .int .i64 a, .int .i64 t] 31)) vs) := Lib.hid ⟨(H.out.on hka).bag, (H.out.on hka).mp, H.out.ge, hxa⟩
      have HW := Lib.hid f2
      clear hka hxa H f0 f1 f2 f3
      go_upto_region 9 with (fail)
      rw [← hx]
      clear hx g0 g1 g2 g3
      generalize wr.alloc (.cells #[.int .u8 d, .int .i64 c, .int .i64 a, .int .i64 t] 31) = w4 at HX ⊢
      clear wr
      obtain ⟨x0, x1, x2, x3⟩ := HX.out.x0
      go_upto_block 2 with (fail)
      go_cut [7, 8, 9, 10, 11, 12, 13, 14] from 37 to 148 (fun _ _ _ _ _ _ _ _ w' => ∃ (R' : Nat → List Int) (vs' : Nat → Value), Len R' (k + 1) ∧ Good R' ∧ Hid (OX w p B x (k + 1) d c a t R' R' w' vs'))
      case first =>
        -- FIRST
        have l1 := HL.out.mono (show k ≤ 1000 by omega)
        by_cases hd : d = 0
        · have hdb : (d == 0) = true := by simp [hd]
          clear hd
          -- [POP
          have HLN : Hid (Len (popR R c) (k + 1)) := Lib.hid ((HL.out.pop c).mono (by omega))
          have HGN : Hid (Good (popR R c)) := Lib.hid (HG.out.sub (pop_sub R c))
          have h1 := pop_is w4 p vs R c HX.out.bag.ls l1
          by_cases hp : popE R c = 0
          · obtain ⟨q, rfl, hq, hmem, _⟩ := pop_out HG.out hp
            rw [hp] at h1
            have HP := Lib.hid hp
            obtain ⟨y, hy⟩ : ∃ y, y = popX R q := ⟨_, rfl⟩
            have HY := Lib.hid hy
            rw [← hy] at h1 hmem
            have hyw := (HG.out.lo q hq y hmem).2
            clear hp hy
            go_wp2_with fail
            refine h1.mono ?_
            rintro e w5 ⟨rfl, vs5, L5, k5⟩
            have H5 := Lib.hid (HX.out.lst L5 k5)
            have hlk := H5.out.mp.at HG.out hq hmem
            clear HX L5 k5 h1 x0 x1 x2 x3
            obtain ⟨y0, y1, y2, y3⟩ := H5.out.x0
            obtain ⟨D, hown, hKI⟩ := H5.out.mp
            have HK := Lib.hid hKI
            clear hKI
            go_wp2_with (first
              | (at_delete; refine wpList_delete_own _ rfl _ _ 48 3 rfl 3 kint Try.underlying48 _ B k D rfl hown _ _ rfl (keyOf_int_mk Try.underlying3 hyw) ?_
                 intro w6 hown6 hturn6
                 have F : Hid (OX w p B x (k + 1) d q a t (popR R q) (popR R q) w6 vs5) := Lib.hid ((H5.out.map (kp_turned hturn6) ⟨_, hown6, by rw [HY.out]; exact HK.out.pop HG.out HP.out⟩).mono (Nat.le_succ _))
                 clear hown6 hturn6 y0 y1 y2 y3 hown hlk))
            go_meet
            case rel => exact ⟨_, _, HLN.out, HGN.out, F⟩
          · have hpb : (popE R c == 0) = false := by simp [hp]
            have hx0 : popX R c = 0 := by rw [popX, if_neg hp]
            have hR0 : popR R c = R := by rw [popR, if_neg hp]
            rw [hx0] at h1
            rw [hR0] at HLN HGN
            have HRR := Lib.hid hR0
            generalize hpe : popE R c = pe at h1 hpb hp
            clear hx0 hR0 hpe
            go_wp2_with fail
            refine h1.mono ?_
            rintro e w5 ⟨rfl, vs5, L5, k5⟩
            have F : Hid (OX w p B x (k + 1) d c a t R R w5 vs5) := Lib.hid ((HX.out.lst (HRR.out ▸ L5) k5).mono (Nat.le_succ _))
            clear HX L5 k5 h1
            obtain ⟨y0, y1, y2, y3⟩ := F.out.x0
            clear x0 x1 x2 x3
            go_wp2_with fail
            go_meet
            case rel => exact ⟨_, _, HLN.out, HGN.out, F⟩
          -- ]POP
        · have hdb : (d == 0) = false := by simp [hd]
          by_cases hd1 : d = 1
          · have hdb1 : (d == 1) = true := by simp [hd1]
            clear hd hd1
            -- [DROP
            have HLN : Hid (Len (dropR R a t) (k + 1)) := Lib.hid ((HL.out.drop a t).mono (by omega))
            have HGN : Hid (Good (dropR R a t)) := Lib.hid (HG.out.sub (drop_sub R a t))
            obtain ⟨D, hown, hKI⟩ := HX.out.mp
            have HAL : Hid (∀ y ∈ allR R, Maps.has D (.int .i64 y) = true) := Lib.hid (fun y hy => (hKI.key _).2 ⟨y, (mem_allR R y).1 hy, rfl⟩)
            have HKI := Lib.hid hKI
            clear hKI
            obtain ⟨r, hr⟩ : ∃ r, r = w4.heap.size := ⟨_, rfl⟩
            have HRS := Lib.hid hr
            go_wp2_with (first
              | (at_range; refine wpList_range_own _ rfl _ 48 rfl 3 3 kint Try.underlying48 _ B k D rfl hown ?_; intro w0 hrg0 hg0 hs0; rw [← hr] at hrg0 ⊢; clear hr))
            have HK0 : Hid (Kp [] w4 w0) := Lib.hid ((Kp.refl _ _).grown hg0 (by simp))
            have HR0 := Lib.hid hrg0
            clear hrg0 hg0 hs0 hown x0 x1 x2 x3
            go_frame
            go_loopw [9] (fun nv wr => ∃ (left : Lit → Bool) (cnt : Nat), Hid (wr.ranges Try.prog 3 (plainElem (H := Unit) Try.prog 3) B r k D left cnt) ∧ nv = .int .i64 (num a t left (allR R) : Nat) ∧ Hid (Kp [] w4 wr))
              (fun _ wr => wr.rangeLeft B r)
            case atStart => exact ⟨_, _, HR0, by rw [num_start _ _ _ _ HAL.out]; rfl, HK0⟩
            case round =>
              clear HR0 HK0 HAL
              obtain ⟨left, cnt, HR, rfl, HKP⟩ := hrel
              have hrg := HR.out
              obtain ⟨x0, x1, x2, x3⟩ := (HX.out.on HKP.out).x0
              have hNb : num a t left (allR R) ≤ 4000 := by
                have q1 := num_le a t left (allR R)
                have q2 := tot_le l1 4 (by omega)
                rw [tot_all] at q2
                omega
              obtain ⟨N, hN⟩ : ∃ N, N = num a t left (allR R) := ⟨_, rfl⟩
              rw [← hN] at hNb ⊢
              have HN := Lib.hid hN
              clear hN
              go_wp2_with (first
                | (at_next; refine wpList_next_ranges_ii _ rfl _ rfl 3 3 .i64 .i64 kint Try.underlying3 Try.underlying3 B r k _ _ _ rfl hrg ?_ ?_))
              · -- nothing is left
                -- [DROPB
                intro _ hl0
                have hdr := drop_is wr p vs R a t (HX.out.on HKP.out).bag.ls l1
                rw [← num_end R a t left hl0, ← HN.out] at hdr
                have H4 := Lib.hid (HX.out.on HKP.out)
                clear HX HR hrg HKP hl0
                go_wp2_with fail
                refine hdr.mono ?_
                rintro e w5 ⟨rfl, vs5, L5, k5⟩
                have H5 := Lib.hid (H4.out.lst L5 k5)
                clear H4 hdr L5 k5 x0 x1 x2 x3
                obtain ⟨D5, hown, hKI⟩ := H5.out.mp
                have HKD := Lib.hid (KD.start hKI a t)
                clear hKI
                obtain ⟨r2, hr2⟩ : ∃ r2, r2 = w5.heap.size := ⟨_, rfl⟩
                have HR2 := Lib.hid hr2
                go_wp2_with (first
                  | (at_range; refine wpList_range_own _ rfl _ 48 rfl 3 3 kint Try.underlying48 _ B k D5 rfl hown ?_; intro w6 hrg0 hg0 hs0; rw [← hr2] at hrg0 ⊢; clear hr2))
                have HK0 : Hid (Kp [B] w5 w6) := Lib.hid ((Kp.refl _ _).grown hg0 (by simp))
                have HR0 := Lib.hid hrg0
                clear hrg0 hg0 hs0 hown
                go_frame
                go_loopw [11] (fun _ wr => ∃ (D' : DataW Unit) (left : Lit → Bool) (cnt : Nat), Hid (wr.ranges Try.prog 3 (plainElem (H := Unit) Try.prog 3) B r2 k D' left cnt) ∧ Hid (KD D' R a t left) ∧ Hid (Kp [B] w5 wr))
                  (fun _ wr => wr.rangeLeft B r2)
                case atStart => exact ⟨_, _, _, HR0, HKD, HK0⟩
                case round =>
                  clear HR0 HK0 HKD
                  obtain ⟨D', left, cnt, HR, HD, HKP⟩ := hrel
                  have hrg := HR.out
                  go_wp2_with (first
                    | (at_next; refine wpList_next_ranges_ii _ rfl _ rfl 3 3 .i64 .i64 kint Try.underlying3 Try.underlying3 B r2 k _ _ _ rfl hrg ?_ ?_))
                  · -- nothing is left
                    intro _ hl0
                    have F : Hid (OX w p B x (k + 1) d c a t (dropR R a t) (dropR R a t) wr vs5) := Lib.hid ((H5.out.map HKP.out ⟨D', HR.out.owns, HD.out.fin hl0⟩).mono (Nat.le_succ _))
                    clear HR hrg HD HKP hl0
                    go_wp2_with fail
                    go_meet
                    case rel => exact ⟨_, _, HLN.out, HGN.out, F⟩
                  · -- an entry has come
                    intro y c1 w1 cnt1 hwy hwc hly hat hrg1 hlt hg1 hs1 hen
                    have HKP1 : Hid (Kp [B] w5 w1) := Lib.hid (HKP.out.grown hg1 (by intro q hq; cases hq; exact .inr (Nat.le_of_eq HR2.out.symm)))
                    have hx1 := HKP1.out.row (by intro e; exact H5.out.mp.ne H5.out.hx (by simpa using e : x = B).symm) H5.out.hx
                    have x2 : w1.cell? ⟨x, 2, none⟩ = some (.int .i64 a) := by rw [cell_of_row hx1]; rfl
                    have x3 : w1.cell? ⟨x, 3, none⟩ = some (.int .i64 t) := by rw [cell_of_row hx1]; rfl
                    have HL1 := Lib.hid hrg.left_eq
                    have HR1 := Lib.hid hrg1
                    have HLT := Lib.hid hlt
                    clear hx1 hat hlt hg1 hs1 hwc hly hrg HKP HR
                    by_cases ha : a ≤ y
                    · by_cases ht : y < t
                      · have HG1 : Hid (goes a t y = true) := Lib.hid (by simp [goes, ha, ht])
                        go_wp2_with (first
                          | (at_delete; refine wpList_delete_ranges _ rfl _ _ 48 3 rfl 3 kint Try.underlying48 _ B r2 k _ _ _ rfl hrg1 _ _ rfl (keyOf_int_mk Try.underlying3 hwy) ?_; intro w2 cnt2 hrg2 hle hturn; go_frame))
                        rw [strike_twice] at hrg2
                        go_roundw
                        case rel => exact ⟨_, _, cnt2, Lib.hid hrg2, Lib.hid (HD.out.struck HG1.out), Lib.hid (HKP1.out.grown hturn.grown (by simp))⟩
                        case measure => rw [hrg2.left_eq, HL1.out]; have := HLT.out; omega
                      · have HG1 : Hid (goes a t y = false) := Lib.hid (by simp [goes, ht])
                        clear hrg1
                        go_wp2_with fail
                        go_roundw
                        case rel => exact ⟨_, _, cnt1, HR1, Lib.hid (HD.out.stays HG1.out), HKP1⟩
                        case measure => rw [HR1.out.left_eq, HL1.out]; exact HLT.out
                    · have HG1 : Hid (goes a t y = false) := Lib.hid (by simp [goes, ha])
                      clear hrg1
                      go_wp2_with fail
                      go_roundw
                      case rel => exact ⟨_, _, cnt1, HR1, Lib.hid (HD.out.stays HG1.out), HKP1⟩
                      case measure => rw [HR1.out.left_eq, HL1.out]; exact HLT.out
                -- ]DROPB
              · -- an entry has come
                -- [DROPC
                intro y c1 w1 cnt1 hwy hwc hly hat hrg1 hlt hg1 hs1 hen
                have HKP1 : Hid (Kp [] w4 w1) := Lib.hid (HKP.out.grown hg1 (by intro q hq; cases hq; exact .inr (Nat.le_of_eq HRS.out.symm)))
                obtain ⟨z0, z1, z2, z3⟩ := (HX.out.on HKP1.out).x0
                have hin : y ∈ allR R := by
                  have hD : Maps.has D (.int .i64 y) = true := has_true_of_atKey hat
                  obtain ⟨x', hx', e⟩ := (HKI.out.key _).1 hD
                  injection e with _ e
                  subst e
                  exact (mem_allR R y).2 hx'
                have hst := num_step a t left y hly (allR R) HG.out.all hin
                rw [← HN.out] at hst
                have HST := Lib.hid hst
                have HL1 := Lib.hid hrg.left_eq
                have HR1 := Lib.hid hrg1
                have HLT := Lib.hid hlt
                clear hst hin hat hlt hg1 hs1 hwc hly hrg hrg1 HKP HR HN x0 x1 x2 x3
                by_cases ha : a ≤ y
                · by_cases ht : y < t
                  · have hg : goes a t y = true := by simp [goes, ha, ht]
                    have HG1 := Lib.hid hg
                    clear hg
                    go_wp2_with fail
                    go_roundw
                    case rel => exact ⟨_, cnt1, HR1, by rw [HST.out, HG1.out]; go_num, HKP1⟩
                    case measure => rw [HR1.out.left_eq, HL1.out]; exact HLT.out
                  · have hg : goes a t y = false := by simp [goes, ht]
                    have HG1 := Lib.hid hg
                    clear hg
                    go_wp2_with fail
                    go_roundw
                    case rel => exact ⟨_, cnt1, HR1, by rw [HST.out, HG1.out]; go_num, HKP1⟩
                    case measure => rw [HR1.out.left_eq, HL1.out]; exact HLT.out
                · have hg : goes a t y = false := by simp [goes, ha]
                  have HG1 := Lib.hid hg
                  clear hg
                  go_wp2_with fail
                  go_roundw
                  case rel => exact ⟨_, cnt1, HR1, by rw [HST.out, HG1.out]; go_num, HKP1⟩
                  case measure => rw [HR1.out.left_eq, HL1.out]; exact HLT.out
                -- ]DROPC
            -- ]DROP
          · have hdb1 : (d == 1) = false := by simp [hd1]
            clear hd hd1
            -- [PUSH
            have HLN : Hid (Len (pushR R c a) (k + 1)) := Lib.hid (HL.out.push c a)
            have HGN : Hid (Good (pushR R c a)) := Lib.hid (HG.out.push HW.out)
            have h1 := push_is w4 p vs R c a HX.out.bag.ls l1
            by_cases hp : pushE R c a = 0
            · have HP := Lib.hid hp
              have hno : hasB R a = false := by
                cases h2 : hasB R a
                · rfl
                · unfold pushE at hp
                  split at hp
                  · cases hp
                  · split at hp
                    · cases hp
                    · simp [h2] at hp
              have HN := Lib.hid hno
              rw [hp] at h1
              clear hp hno
              go_wp2_with fail
              refine h1.mono ?_
              rintro e w5 ⟨rfl, vs5, L5, k5⟩
              have H5 := Lib.hid (HX.out.lst L5 k5)
              obtain ⟨v, hlk⟩ := H5.out.mp.ok HW.out
              rw [HN.out] at hlk
              clear HX L5 k5 h1 x0 x1 x2 x3
              obtain ⟨y0, y1, y2, y3⟩ := H5.out.x0
              obtain ⟨D, hown, hKI⟩ := H5.out.mp
              have HK := Lib.hid hKI
              clear hKI
              obtain ⟨q, hq, hq4, hKP⟩ := HK.out.push HG.out hown.isMap HP.out
              have HKP := Lib.hid hKP
              clear hKP
              subst hq
              have hwf : (Lit.int .i64 ((q : Int) + 1)).wf = true := by rcases four hq4 with rfl | rfl | rfl | rfl <;> decide
              go_wp2_with (first
                | (at_mapUpdate; refine wpList_mapUpdate_own _ rfl _ _ _ 48 rfl 3 3 kint Try.underlying48 _ B k D rfl hown (by unfold maxLen; omega) _ _ _ rfl rfl (keyOf_int_mk Try.underlying3 HW.out) _ [] (plainElem_int (H := Unit) Try.underlying3 hwf) ?_
                   intro w6 hown6 hgrow6
                   have F : Hid (OX w p B x (k + 1) d q a t (pushR R q a) (pushR R q a) w6 vs5) := Lib.hid (H5.out.map (kp_update hgrow6) ⟨_, hown6, HKP.out⟩)
                   clear hown6 hgrow6 y0 y1 y2 y3 hown hlk))
              go_meet
              case rel => exact ⟨_, _, HLN.out, HGN.out, F⟩
            · have hpb : (pushE R c a == 0) = false := by simp [hp]
              have hR0 : pushR R c a = R := by rw [pushR, if_neg hp]
              have h26 : (pushE R c a = 2 ∧ (pushE R c a == 6) = false) ∨ (pushE R c a = 6 ∧ hasB R a = true) := by
                unfold pushE at hp ⊢
                split
                · exact .inl ⟨rfl, rfl⟩
                · rename_i hbad
                  rw [if_neg hbad] at hp
                  split
                  · exact .inl ⟨rfl, rfl⟩
                  · rename_i h1'
                    rw [if_neg h1'] at hp
                    split
                    · rename_i h2
                      exact .inr ⟨rfl, h2⟩
                    · rename_i h2
                      rw [if_neg h2] at hp
                      exact absurd rfl hp
              rw [hR0] at HLN HGN
              have HRR := Lib.hid hR0
              have HO := HX.out.mp.ok HW.out
              clear hR0
              rcases h26 with ⟨he, h6⟩ | ⟨he, hin⟩
              · rw [he] at h1 hpb hp h6
                generalize hasB R a = hb at HO
                clear he
                go_wp2_with fail
                refine h1.mono ?_
                rintro e w5 ⟨rfl, vs5, L5, k5⟩
                have F : Hid (OX w p B x (k + 1) d c a t R R w5 vs5) := Lib.hid ((HX.out.lst (HRR.out ▸ L5) k5).mono (Nat.le_succ _))
                obtain ⟨v, hlk⟩ := F.out.mp.ok HW.out
                generalize hasB R a = hb at hlk
                clear HX L5 k5 h1 HO
                obtain ⟨y0, y1, y2, y3⟩ := F.out.x0
                clear x0 x1 x2 x3
                go_wp2_with fail
                go_meet
                case rel => exact ⟨_, _, HLN.out, HGN.out, F⟩
              · rw [he] at h1 hpb hp
                have HI := Lib.hid hin
                clear he hin HO
                go_wp2_with fail
                refine h1.mono ?_
                rintro e w5 ⟨rfl, vs5, L5, k5⟩
                have F : Hid (OX w p B x (k + 1) d c a t R R w5 vs5) := Lib.hid ((HX.out.lst (HRR.out ▸ L5) k5).mono (Nat.le_succ _))
                obtain ⟨v, hlk⟩ := F.out.mp.ok HW.out
                rw [HI.out] at hlk
                clear HX L5 k5 h1
                obtain ⟨y0, y1, y2, y3⟩ := F.out.x0
                clear x0 x1 x2 x3
                go_wp2_with fail
                go_meet
                case rel => exact ⟨_, _, HLN.out, HGN.out, F⟩
            -- ]PUSH
        -- ENDFIRST
      case rest =>
        -- [REST
        clear HX HL HG HW x0 x1 x2 x3
        obtain ⟨R', vs', hl, hg', HX⟩ := hcut
        have HLN := Lib.hid hl
        have HGN := Lib.hid hg'
        have l1 := hl.mono (show k + 1 ≤ 1000 by omega)
        have H6 : Hid (OB w p B (k + 1) R' wc vs') := Lib.hid ⟨HX.out.bag, HX.out.mp, HX.out.ge⟩
        clear hl hg' HX
        go_wp2_with fail
        go_loopg [15, 16] 4 (fun gg nv cv wi => ∃ c : Nat, c + gg = 4 ∧ nv = .int .i64 (tot R' c : Nat) ∧ cv = .int .i64 (c : Int) ∧ Hid (OB w p B (k + 1) R' wi vs'))
        case atStart => exact ⟨0, by omega, rfl, rfl, H6⟩
        case round =>
          clear H6
          obtain ⟨c, hcg, rfl, rfl, H7⟩ := hrel
          by_cases hc4 : c < 4
          · have hnc := l1 c hc4
            have hall := all_good wr p c vs' R' H7.out.bag.ls hc4 hnc
            obtain ⟨z, hz⟩ : ∃ z, z = wr.heap.size := ⟨_, rfl⟩
            rw [← hz] at hall
            clear hz
            obtain ⟨n, hnn⟩ : ∃ n, n = (R' c).length := ⟨_, rfl⟩
            have HN := Lib.hid hnn
            rw [← hnn] at hall hnc
            have hT : tot R' c ≤ 1000 * c := tot_le l1 c (by omega)
            have hT2 : tot R' (c + 1) = tot R' c + n := by rw [hnn]; rfl
            obtain ⟨T, hTT⟩ : ∃ T, T = tot R' c := ⟨_, rfl⟩
            rw [← hTT] at hT hT2 ⊢
            have HT := Lib.hid hT2
            obtain ⟨G, hG⟩ : ∃ G, G + 1 = gk := ⟨gk - 1, by omega⟩
            clear hT2 hTT hnn
            go_wp2_with fail
            refine hall.mono ?_
            rintro e w5 ⟨rfl, hrow, hk5⟩
            have H8 := Lib.hid (H7.out.on hk5)
            have HZ := Lib.hid hrow
            clear H7 hall hrow hk5
            go_wp2_with fail
            go_loopg [18] n (fun gg jv wi => ∃ j : Nat, j + gg = n ∧ jv = .int .i64 (j : Int) ∧ Hid (OB w p B (k + 1) R' wi vs') ∧ Hid (Rw wi (.slice (some ⟨z, 0, none⟩) n n) (R' c).reverse))
            case atStart => exact ⟨0, by omega, rfl, H8, HZ⟩
            case round =>
              clear H8 HZ
              obtain ⟨j, hjg, rfl, H9, HZ⟩ := hrel
              by_cases hjn : j < n
              · have hjl : j < (R' c).reverse.length := by rw [List.length_reverse, ← HN.out]; exact hjn
                have hcz := cellAt_row HZ.out hjl
                have hy : (R' c).reverse.getD j 0 ∈ R' c := by
                  rw [List.getD_eq_getElem?_getD, List.getElem?_eq_getElem hjl, Option.getD_some]
                  exact List.mem_reverse.1 (List.getElem_mem hjl)
                have hlk := H9.out.mp.at HGN.out hc4 hy
                have hhas := has_any wr p vs' R' ((R' c).reverse.getD j 0) H9.out.bag.ls l1
                rw [(hasB_iff R' _).2 ⟨c, hc4, hy⟩] at hhas
                generalize (R' c).reverse.getD j 0 = y at hcz hlk hhas
                clear hjl hy
                go_wp2_with fail
                refine hhas.mono ?_
                rintro e w8 ⟨rfl, hk8⟩
                have H10 := Lib.hid (H9.out.on hk8)
                have HZ2 := Lib.hid (HZ.out.keep0 hk8)
                clear hcz hlk hhas hk8 H9 HZ
                go_wp2_with fail
                go_roundg (n - (j + 1))
                case measure => omega
                case rel => exact ⟨j + 1, by omega, by go_num, H10, HZ2⟩
              · have hnn : ¬ ((j : Int) < (n : Int)) := by omega
                clear HZ hjg
                go_wp2_with fail
                go_roundg G
                case measure => omega
                case rel => exact ⟨c + 1, by omega, by rw [HT.out]; go_num, by go_num, H9⟩
          · have hc44 : ¬ ((c : Int) < 4) := by omega
            have hc : c = 4 := by omega
            subst hc
            have hml := H7.out.mp.len HGN.out
            generalize tot R' 4 = T at hml ⊢
            go_wp2_with fail
            go_roundg (m - (k + 1))
            case measure => omega
            case rel => exact ⟨k + 1, R', vs', by omega, by go_num, HLN, HGN, H7⟩
        -- ]REST
    · have hkm' : ¬ ((k : Int) < (m : Int)) := by omega
      -- [END
      have HB := Lib.hid H.out.bag.bel
      clear H hkg
      go_wp2_with fail
      refine (wakes_any _).mono ?_
      rintro e w7 ⟨rfl, hb7⟩
      have hb8 := Lib.hid (HB.out.trans (hb7.mono HB.out.size))
      clear hb7 HB
      go_wp2
      go_ret
      exact ⟨rfl, hb8.out⟩
      -- ]END

end Go.Proofs.Ythcblhombfggaaa
