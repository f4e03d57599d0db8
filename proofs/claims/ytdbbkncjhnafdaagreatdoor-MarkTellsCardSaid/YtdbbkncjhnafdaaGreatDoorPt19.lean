/- The document's mark, on: Reached. The document's mark, on: Told, Marked. The document's mark, on: Marked; marked words have the same objects. Conditions: as each theorem states them. -/
import Derived.Test.YtdbbkncjhnafdaaGreatDoorPt18
namespace Go.Proofs.YtdbbkncjhnafdaaGreatDoor
set_option linter.unusedVariables false
set_option linter.unusedSimpArgs false
set_option maxRecDepth 100000
open Go.RowKit

/-- What holds of the row of truths all the time. -/
structure Rr (w : World) (G : Gp) (R : List Nat) (N ro : Nat) (B : List Bool) (W : World) : Prop where
  len : B.length = N
  r : ∀ j, B.getD j false = true → Rc G R j
  bl : MBl W ro B
  kp : Kp [] w W
/-- The first i places are there. -/
def Rro (G : Gp) (R : List Nat) (B : List Bool) (i : Nat) : Prop := ∀ j, j < i → R.getD j 0 ≠ 0 → G.own (R.getD j 0) = true → B.getD (R.getD j 0) false = true
/-- All that one leads to is there. -/
def Rcl (G : Gp) (B : List Bool) (j n : Nat) : Prop := ∀ q, q < n → (G.ref j).getD q 0 ≠ 0 → G.own ((G.ref j).getD q 0) = true → B.getD ((G.ref j).getD q 0) false = true
def Rcls (G : Gp) (B : List Bool) (i : Nat) : Prop := ∀ j, j < i → B.getD j false = true → Rcl G B j (G.ref j).length
section
variable {w W W' : World} {G : Gp} {R : List Nat} {N ro : Nat} {B : List Bool}
theorem Rr.on (h : Rr w G R N ro B W) (k : Kp [] W W') : Rr w G R N ro B W' := ⟨h.len, h.r, h.bl.keep k (by simp), h.kp.trans k⟩
theorem Rr.put (h : Rr w G R N ro B W) (hro : w.heap.size ≤ ro) {v : Nat} (hv : v < N) (hr : Rc G R v) : Rr w G R N ro (B.set v true) (W.setCell ⟨ro, v, none⟩ (.bool true)) := by
  refine ⟨by simpa using h.len, fun j hj => ?_, h.bl.set _ _, kp_new_set h.kp ((Kp.refl [ro] _).setCell (.inl (by simp)) _) hro⟩
  rw [mgetD_set _ _ _ (by rw [h.len]; exact hv)] at hj
  split at hj
  · rename_i e; subst e; exact hr
  · exact h.r j hj
theorem set_more {B : List Bool} {v : Nat} (hv : v < B.length) (j : Nat) (h : B.getD j false = true) : (B.set v true).getD j false = true := by
  rw [mgetD_set _ _ _ hv]
  split
  · rfl
  · exact h
theorem Rro.put {v : Nat} (h : Rro G R B N) (hv : v < B.length) : Rro G R (B.set v true) N := fun j hj h0 ho => set_more hv _ (h j hj h0 ho)
theorem Rr.iff (h : Rr w G R N ro B W) (hro : Rro G R B R.length) (hc : Rcls G B N) (j : Nat) : B.getD j false = true ↔ Rc G R j := by
  refine ⟨h.r j, fun hr => ?_⟩
  induction hr with
  | root x hx h0 ho =>
    obtain ⟨i, hi, e⟩ := List.mem_iff_getElem.1 hx
    have e2 : R.getD i 0 = x := by rw [List.getD_eq_getElem?_getD, List.getElem?_eq_getElem hi]; exact e
    have := hro i hi (by rw [e2]; exact h0) (by rw [e2]; exact ho)
    rw [e2] at this
    exact this
  | step x y hx hy h0 ho ih =>
    obtain ⟨i, hi, e⟩ := List.mem_iff_getElem.1 hy
    have e2 : (G.ref x).getD i 0 = y := by rw [List.getD_eq_getElem?_getD, List.getElem?_eq_getElem hi]; exact e
    have hl : x < N := by
      by_cases hl : x < N
      · exact hl
      · exfalso
        rw [← h.len] at hl
        simp [List.getD, hl] at ih
    have := hc x hl ih i hi (by rw [e2]; exact h0) (by rw [e2]; exact ho)
    rw [e2] at this
    exact this
end

section
variable {Bz T n db dc : Nat} {H : List Int} {w w' : World} {O : Obs} {o : Nat} {tel : Bool}
theorem ref_len (x : Nat) : ((gpOf O H o tel).ref x).length = (H.getD x 0 / 2048 % 128).toNat := by simp [gpOf]
theorem ref_get (x q : Nat) (h : q < (H.getD x 0 / 2048 % 128).toNat) : ((gpOf O H o tel).ref x).getD q 0 = (H.getD (x + 1 + q) 0).toNat := by
  show ((List.range (H.getD x 0 / 2048 % 128).toNat).map fun k => (H.getD (x + 1 + k) 0).toNat).getD q 0 = _
  rw [List.getD_eq_getElem?_getD, List.getElem?_map, List.getElem?_range h]; rfl
theorem ref_mem (x q : Nat) (h : q < (H.getD x 0 / 2048 % 128).toNat) : (H.getD (x + 1 + q) 0).toNat ∈ (gpOf O H o tel).ref x := by
  simp only [gpOf, List.mem_map, List.mem_range]
  exact ⟨q, h, rfl⟩
set_option maxHeartbeats 4000000 in
theorem reached_is (hD : Dw O H) (h : Dh Bz T 0 n db dc H w) (ho : o ≤ 255) {ao : Option Addr} {cap : Nat} {R : List Nat} (hR : ∀ y ∈ R, y = 0 ∨ (O y).isSome = true) (hLc : ∀ j, j < R.length → ∃ g o', ao = some ⟨g, o', none⟩ ∧ w.cell? ⟨g, o' + j, none⟩ = some (.int .i64 (R.getD j 0))) (hlen : R.length ≤ 1000) :
    Calls Tryz.prog 43 #[.slice (some ⟨db, 0, none⟩) H.length dc, .int .u8 o, .slice ao R.length cap] w fun e w' => ∃ ro B, e = .returned (.slice (some ⟨ro, 0, none⟩) H.length H.length) ∧ MBl w' ro B ∧ B.length = H.length ∧ (∀ j, B.getD j false = true ↔ Rc (gpOf O H o tel) R j) ∧ w.heap.size ≤ ro ∧ Kp [] w w' := by
  have htop := h.top
  have hlo := h.len
  have HHd := Lib.hid (fun (wq : World) (kq : Kp [] w wq) (x : Nat) (hx : x < H.length) => dhead_any (h.on kq) hx)
  have HRf := Lib.hid (fun (wq : World) (kq : Kp [] w wq) (x : Nat) (hx : (O x).isSome = true) => drefs_any (h.on kq) (hD.tb x hx).2.1 (hD.tb x hx).2.2 _ rfl (fun q hq => (hD.rf x hx q hq).1))
  have HD := Lib.hid hD
  have HLc := Lib.hid (And.intro hR hLc)
  obtain ⟨N, hN⟩ : ∃ N, N = H.length := ⟨_, rfl⟩
  obtain ⟨M, hM⟩ : ∃ M, M = R.length := ⟨_, rfl⟩
  rw [← hN] at htop hlo ⊢
  rw [← hM] at hlen ⊢
  have HN := Lib.hid (And.intro hN hM)
  have hN1 : 1 ≤ N := by omega
  rw [← hN] at HHd
  have hmk := mmake_bools N (by omega)
  have HB0 : Hid (MBl (w.alloc (.cells (mbls (List.replicate N false)) 4)) w.heap.size (List.replicate N false)) := Lib.hid (heap_alloc_new w _)
  have HK0 := Lib.hid ((Kp.refl [] w).alloc (.cells (mbls (List.replicate N false)) 4))
  clear h hD hR hLc hN hM hlo
  go_enter Tryz.func43, Tryz.ntmps43
  go_upto_region 2 with (fail)
  have HR0 : Hid (Rr w (gpOf O H o tel) R N w.heap.size (List.replicate N false) (w.alloc (.cells (mbls (List.replicate N false)) 4))) := Lib.hid ⟨by simp, fun j hj => by
    simp [List.getD, List.getElem?_replicate] at hj
    split at hj <;> simp_all, HB0.out, HK0.out⟩
  generalize w.alloc (.cells (mbls (List.replicate N false)) 4) = w1 at *
  obtain ⟨ro, hro⟩ : ∃ ro, w.heap.size = ro := ⟨_, rfl⟩
  rw [hro] at HR0 ⊢
  generalize List.replicate N false = B0 at *
  have HRO := Lib.hid hro
  clear hro HB0 HK0 hmk
  go_wp2_with fail
  go_loopg [8] M (fun gg v8 wr => ∃ (i : Nat) (B : List Bool), i + gg = M ∧ v8 = .int .i64 i ∧ Hid (Rr w (gpOf O H o tel) R N ro B wr ∧ Rro (gpOf O H o tel) R B i))
  case atStart => exact ⟨0, B0, by omega, rfl, Lib.hid ⟨HR0.out, fun j hj => by omega⟩⟩
  case round =>
    obtain ⟨i, B, hi, rfl, HR⟩ := hrel
    by_cases hlt : i < M
    · have hiR : i < R.length := by rw [← HN.out.2]; exact hlt
      obtain ⟨g, o', hao, hcell⟩ := HLc.out.2 i hiR
      have cq := kp_cell HR.out.1.kp (by simp) hcell
      have hmem : R.getD i 0 ∈ R := by
        rw [List.getD_eq_getElem?_getD, List.getElem?_eq_getElem hiR]
        exact List.getElem_mem hiR
      have hy := HLc.out.1 _ hmem
      obtain ⟨y, hyy⟩ : ∃ y, R.getD i 0 = y := ⟨_, rfl⟩
      rw [hyy] at cq hy hmem
      have hyN : y < N := by
        rcases hy with e | e
        · omega
        · have := (HD.out.tb y e).2.1; rw [HN.out.1]; exact this
      have HH := Lib.hid (HHd.out wr HR.out.1.kp y hyN)
      have HSk : Hid (∀ wq, Kp [] wr wq → (y = 0 ∨ (gpOf O H o tel).own y = false) → Rr w (gpOf O H o tel) R N ro B wq ∧ Rro (gpOf O H o tel) R B (i + 1)) := Lib.hid fun wq kq hor => ⟨HR.out.1.on kq, fun j hj h0 ho => by
        by_cases e : j = i
        · subst e
          rw [hyy] at h0 ho ⊢
          rcases hor with q | q
          · exact absurd q h0
          · rw [q] at ho; cases ho
        · exact HR.out.2 j (by omega) h0 ho⟩
      have HPt : Hid (∀ wq, Kp [] wr wq → y ≠ 0 → (gpOf O H o tel).own y = true → Rr w (gpOf O H o tel) R N ro (B.set y true) (wq.setCell ⟨ro, y, none⟩ (.bool true)) ∧ Rro (gpOf O H o tel) R (B.set y true) (i + 1) ∧ wq.frozen? ⟨ro, y, none⟩ = false ∧ wq.cell? ⟨ro, y, none⟩ = some (.bool (B.getD y false))) := Lib.hid fun wq kq h0 ho => by
        have hB : y < B.length := by rw [HR.out.1.len]; exact hyN
        have h7 := HR.out.1.on kq
        refine ⟨h7.put (by rw [HRO.out]; exact Nat.le_refl _) hyN (.root y hmem h0 ho), fun j hj h0' ho' => ?_, h7.bl.free y, h7.bl.cell hB⟩
        by_cases e : j = i
        · subst e
          rw [hyy, mgetD_set _ _ _ hB, if_pos rfl]
        · exact set_more hB _ (HR.out.2 j (by omega) h0' ho')
      have HY := Lib.hid hy
      have HyN := Lib.hid hyN
      subst hao
      clear hcell hmem hy hyy HR
      go_wp2_with fail
      refine HH.out.mono ?_
      rintro e w3 ⟨⟨k7, c7, g7, m7, o7, r7, s7, rfl, hko⟩, hk3⟩
      have KA : Hid (Kp [] wr (w3.alloc (.cells (mh7 k7 c7 g7 m7 o7 r7 s7) 64))) := Lib.hid (hk3.alloc _)
      have hA : (w3.alloc (.cells (mh7 k7 c7 g7 m7 o7 r7 s7) 64)).heap[w3.heap.size]? = some (.cells (mh7 k7 c7 g7 m7 o7 r7 s7) 64 (0, 0)) := heap_alloc_new _ _
      have HKO := Lib.hid hko
      clear hko hk3 HH
      go_upto_region 6 with (fail)
      generalize w3.heap.size = bh at *
      generalize w3.alloc (.cells (mh7 k7 c7 g7 m7 o7 r7 s7) 64) = wA at *
      have a0 := (cell_of_row hA 0).trans (show _ = some (.int .u8 k7) from rfl)
      have a4 := (cell_of_row hA 4).trans (show _ = some (.int .u8 o7) from rfl)
      have cq := kp_cell KA.out (by simp) cq
      clear hA
      by_cases h0 : y = 0
      · have F := Lib.hid (HSk.out wA KA.out (.inl h0))
        subst h0
        clear HSk HPt
        go_wp2_with fail
        go_roundg (M - (i + 1))
        case rel => exact ⟨i + 1, B, by omega, by go_num, F⟩
        case measure => omega
      · have hy1 := HY.out.resolve_left h0
        have hown := (HD.out.own (o := o) (tel := tel) hy1 HKO.out).1
        have h0' : ((y : Int) != 0) = true := by simp; omega
        by_cases hk : k7 = 2
        · have hk' : (k7 == 2) = true := by simp [hk]
          by_cases ho2 : o7 = (o : Int)
          · have ho2' : (o7 == (o : Int)) = true := by simp [ho2]
            have hw : (gpOf O H o tel).own y = true := by rw [hown]; simp [hk, ho2]
            obtain ⟨p1, p2, p3, p4⟩ := HPt.out wA KA.out h0 hw
            have F := Lib.hid (And.intro p1 p2)
            clear p1 p2 hown hw HSk HPt hy1
            have hyN2 := HyN.out
            clear hk ho2 h0
            go_wp2_with fail
            go_roundg (M - (i + 1))
            case rel => exact ⟨i + 1, _, by omega, by go_num, F⟩
            case measure => omega
          · have ho2' : (o7 == (o : Int)) = false := by simp [ho2]
            have F := Lib.hid (HSk.out wA KA.out (.inr (by rw [hown]; simp [ho2])))
            clear HSk HPt hown hy1 hk ho2 h0
            go_wp2_with fail
            go_roundg (M - (i + 1))
            case rel => exact ⟨i + 1, B, by omega, by go_num, F⟩
            case measure => omega
        · have hk' : (k7 == 2) = false := by simp [hk]
          have F := Lib.hid (HSk.out wA KA.out (.inr (by rw [hown]; simp [hk])))
          clear HSk HPt hown hy1 hk h0
          go_wp2_with fail
          go_roundg (M - (i + 1))
          case rel => exact ⟨i + 1, B, by omega, by go_num, F⟩
          case measure => omega
    · have ei : i = M := by omega
      have HS : Hid (Rr w (gpOf O H o tel) R N ro B wr ∧ Rro (gpOf O H o tel) R B R.length) := Lib.hid (by rw [← HN.out.2, ← ei]; exact HR.out)
      clear HR ei HR0
      go_wp2_with fail
      go_loopg [10] (mcnt B + 1) (fun gg v10 wr => ∃ (m : Bool) (B1 : List Bool), v10 = .bool m ∧ gg = (if m = true then mcnt B1 + 1 else 0) ∧ Hid (Rr w (gpOf O H o tel) R N ro B1 wr ∧ Rro (gpOf O H o tel) R B1 R.length ∧ (m = false → Rcls (gpOf O H o tel) B1 N)))
      case atStart => exact ⟨true, B, rfl, rfl, Lib.hid ⟨HS.out.1, HS.out.2, fun h => by cases h⟩⟩
      case round =>
        obtain ⟨m, B1, rfl, hg, HR⟩ := hrel
        clear HS
        cases m
        · have F : Hid (∃ B, MBl wr ro B ∧ B.length = N ∧ (∀ j, B.getD j false = true ↔ Rc (gpOf O H o tel) R j) ∧ w.heap.size ≤ ro ∧ Kp [] w wr) :=
            Lib.hid ⟨B1, HR.out.1.bl, HR.out.1.len, HR.out.1.iff HR.out.2.1 (HR.out.2.2 rfl), by rw [HRO.out]; exact Nat.le_refl _, HR.out.1.kp⟩
          clear HR
          go_wp2_with fail
          go_ret
          obtain ⟨B, F⟩ := F.out
          exact ⟨ro, B, rfl, F⟩
        · simp only [if_true] at hg
          have HG := Lib.hid hg
          have HI := Lib.hid (And.intro HR.out.1 HR.out.2.1)
          clear HR hg
          go_wp2_with fail
          go_loopg [10, 11] N (fun g2 v10 v11 wr => ∃ (i : Nat) (m2 : Bool) (B2 : List Bool), i + g2 = N ∧ v11 = .int .i64 i ∧ v10 = .bool m2 ∧ Hid (Rr w (gpOf O H o tel) R N ro B2 wr ∧ Rro (gpOf O H o tel) R B2 R.length ∧ (m2 = false → Rcls (gpOf O H o tel) B2 i) ∧ (m2 = true → mcnt B2 < mcnt B1) ∧ mcnt B2 ≤ mcnt B1))
          case atStart => exact ⟨0, false, B1, by omega, rfl, rfl, Lib.hid ⟨HI.out.1, HI.out.2, fun _ j hj => by omega, fun h => by (cases h), Nat.le_refl _⟩⟩
          case round =>
            obtain ⟨i, m2, B2, hi, rfl, rfl, HR⟩ := hrel
            by_cases hlt : i < N
            · have c2 := HR.out.1.bl.cell (i := i) (by rw [HR.out.1.len]; omega)
              obtain ⟨bi, hbi⟩ : ∃ bi, B2.getD i false = bi := ⟨_, rfl⟩
              rw [hbi] at c2
              cases bi
              · have F : Hid (Rr w (gpOf O H o tel) R N ro B2 wr ∧ Rro (gpOf O H o tel) R B2 R.length ∧ (m2 = false → Rcls (gpOf O H o tel) B2 (i + 1)) ∧ (m2 = true → mcnt B2 < mcnt B1) ∧ mcnt B2 ≤ mcnt B1) :=
                  Lib.hid ⟨HR.out.1, HR.out.2.1, fun h j hj hb => by
                    by_cases hj2 : j = i
                    · subst hj2; rw [hbi] at hb; cases hb
                    · exact HR.out.2.2.1 h j (by omega) hb, HR.out.2.2.2⟩
                clear HR hbi
                go_wp2_with fail
                go_roundg (N - (i + 1))
                case rel => exact ⟨i + 1, m2, B2, by omega, by go_num, rfl, F⟩
                case measure => omega
              · have hrc := HR.out.1.r i hbi
                have hO := hrc.some
                obtain ⟨M2, hM2⟩ : ∃ M2, (H.getD i 0 / 2048 % 128).toNat = M2 := ⟨_, rfl⟩
                have hM3 : M2 ≤ 127 := by omega
                have hRF := HRf.out wr HR.out.1.kp i hO
                rw [hM2, ← HN.out.1] at hRF
                have HRF := Lib.hid hRF
                have HRi := Lib.hid (And.intro hrc hO)
                have HM := Lib.hid hM2
                clear hbi hM2 hrc hO hRF
                go_wp2_with fail
                refine HRF.out.mono ?_
                rintro e w5 ⟨ao5, c5, rfl, hrw5, hk5⟩
                have H5 := Lib.hid (HR.out.1.on hk5)
                have RW := Lib.hid hrw5
                have HR2 := Lib.hid HR.out.2
                have HSz := Lib.hid (show ro < wr.heap.size from lt_of_block HR.out.1.bl)
                clear HRF hrw5 hk5 HR c2
                go_wp2_with fail
                go_loopg [10, 13] M2 (fun g3 v10 v13 wq => ∃ (q : Nat) (m3 : Bool) (B3 : List Bool), q + g3 = M2 ∧ v13 = .int .i64 q ∧ v10 = .bool m3 ∧ Hid (Rr w (gpOf O H o tel) R N ro B3 wq ∧ Rro (gpOf O H o tel) R B3 R.length ∧ (m3 = false → Rcls (gpOf O H o tel) B3 i ∧ Rcl (gpOf O H o tel) B3 i q) ∧ (m3 = true → mcnt B3 < mcnt B1) ∧ mcnt B3 ≤ mcnt B1 ∧ Gx.Rw 53 1 wr.heap.size wq (.slice ao5 M2 c5) M2 (refV H i M2)))
                case atStart => exact ⟨0, m2, B2, by omega, rfl, rfl, Lib.hid ⟨H5.out, HR2.out.1, fun h => ⟨HR2.out.2.1 h, fun q hq => by omega⟩, HR2.out.2.2.1, HR2.out.2.2.2, RW.out⟩⟩
                case round =>
                  obtain ⟨q, m3, B3, hq, rfl, rfl, HR⟩ := hrel
                  obtain ⟨w8, rfl⟩ : ∃ w8 : World, w8 = wr := ⟨_, rfl⟩
                  by_cases hqM : q < M2
                  · obtain ⟨b6, c6, e6, g6, hcl⟩ := HR.out.2.2.2.2.2.at (by omega) (by decide)
                    obtain ⟨rfl, rfl⟩ : ao5 = some ⟨b6, 0, none⟩ ∧ c5 = c6 := by cases e6; exact ⟨rfl, rfl⟩
                    have cq := (hcl q (by omega)).trans (refV_get H i M2 q hqM)
                    have hrf := HD.out.rf i HRi.out.2 q (by rw [HM.out]; exact hqM)
                    obtain ⟨v, hv, hvO⟩ : ∃ v : Nat, H.getD (i + 1 + q) 0 = v ∧ (v = 0 ∨ (O v).isSome = true) := by
                      rcases hrf.2 with e | ⟨y, e, hy⟩
                      · exact ⟨0, e, .inl rfl⟩
                      · exact ⟨y, e, .inr hy⟩
                    rw [hv] at cq
                    have hgv : ((gpOf O H o tel).ref i).getD q 0 = v := by rw [ref_get i q (by rw [HM.out]; exact hqM), hv]; rfl
                    have hgm : v ∈ (gpOf O H o tel).ref i := by have := ref_mem (O := O) (o := o) (tel := tel) i q (by rw [HM.out]; exact hqM); rw [hv] at this; exact this
                    have hvN : v < N := by
                      rcases hvO with e | e
                      · omega
                      · have := (HD.out.tb v e).2.1; rw [HN.out.1]; exact this
                    have HH := Lib.hid (HHd.out w8 HR.out.1.kp v hvN)
                    have HSk : Hid (∀ wq, Kp [] w8 wq → (v = 0 ∨ (gpOf O H o tel).own v = false ∨ B3.getD v false = true) → Rr w (gpOf O H o tel) R N ro B3 wq ∧ Rro (gpOf O H o tel) R B3 R.length ∧ (m3 = false → Rcls (gpOf O H o tel) B3 i ∧ Rcl (gpOf O H o tel) B3 i (q + 1)) ∧ (m3 = true → mcnt B3 < mcnt B1) ∧ mcnt B3 ≤ mcnt B1 ∧ Gx.Rw 53 1 wr.heap.size wq (.slice (some ⟨b6, 0, none⟩) M2 c5) M2 (refV H i M2)) := by
                      refine Lib.hid fun wq kq hor => ⟨HR.out.1.on kq, HR.out.2.1, fun h => ⟨(HR.out.2.2.1 h).1, fun q' hq' h1 h2 => ?_⟩, HR.out.2.2.2.1, HR.out.2.2.2.2.1, HR.out.2.2.2.2.2.keep0 kq⟩
                      by_cases hqq : q' = q
                      · subst hqq
                        rw [hgv] at h1 h2 ⊢
                        rcases hor with h | h | h
                        · exact absurd h h1
                        · rw [h] at h2; cases h2
                        · exact h
                      · exact (HR.out.2.2.1 h).2 q' (by omega) h1 h2
                    have HPt : Hid (∀ wq, Kp [] w8 wq → v ≠ 0 → (gpOf O H o tel).own v = true → B3.getD v false = false → (Rr w (gpOf O H o tel) R N ro (B3.set v true) (wq.setCell ⟨ro, v, none⟩ (.bool true)) ∧ Rro (gpOf O H o tel) R (B3.set v true) R.length ∧ mcnt (B3.set v true) < mcnt B1 ∧ Gx.Rw 53 1 wr.heap.size (wq.setCell ⟨ro, v, none⟩ (.bool true)) (.slice (some ⟨b6, 0, none⟩) M2 c5) M2 (refV H i M2)) ∧ wq.frozen? ⟨ro, v, none⟩ = false) := Lib.hid fun wq kq h0 ho hb => by
                      have hB : v < B3.length := by rw [HR.out.1.len]; exact hvN
                      have h7 := HR.out.1.on kq
                      have hcs := mcnt_set B3 v hB hb
                      refine ⟨⟨h7.put (by rw [HRO.out]; exact Nat.le_refl _) hvN (.step i v HRi.out.1 hgm h0 ho), HR.out.2.1.put hB, by have := HR.out.2.2.2.2.1; omega, ?_⟩, h7.bl.free v⟩
                      refine (HR.out.2.2.2.2.2.keep0 kq).keep ((Kp.refl [ro] _).setCell (.inl (by simp)) _) (fun b hb hb' => ?_)
                      simp only [List.mem_singleton] at hb'
                      subst hb'
                      have := (HR.out.2.2.2.2.2.block b hb).1
                      have := HSz.out
                      omega
                    have cbv := fun (wq : World) (kq : Kp [] w8 wq) => (HR.out.1.on kq).bl.cell (i := v) (by rw [HR.out.1.len]; exact hvN)
                    obtain ⟨bv, hbv⟩ : ∃ bv, B3.getD v false = bv := ⟨_, rfl⟩
                    rw [hbv] at cbv
                    have HCb := Lib.hid cbv
                    have HVO := Lib.hid hvO
                    have HBV := Lib.hid hbv
                    have cqk := Lib.hid (fun (wq : World) (kq : Kp [] w8 wq) => kp_cell kq (by simp) cq)
                    clear hcl hrf hv hvO hgv hgm e6 g6 HR cbv hbv
                    have hwN : IntKind.u64.wrap (N : Int) = N := by rw [IntKind.wrap_u64, Int.emod_eq_of_lt (by omega) (by omega)]
                    have hvi : IntKind.i64.wrap (v : Int) = v := IntWalk.i64_in _ (by omega)
                    by_cases h0 : v = 0
                    · have F := Lib.hid (HSk.out w8 (Kp.refl _ _) (.inl h0))
                      subst h0
                      clear HSk HPt
                      go_wp2_with fail
                      go_roundg (M2 - (q + 1))
                      case rel => exact ⟨q + 1, m3, B3, by omega, by go_num, rfl, F⟩
                      case measure => omega
                    · have h0' : ((v : Int) == 0) = false := by simp; omega
                      have hvN' : decide (N ≤ v) = false := by simp; omega
                      go_wp2_with fail
                      refine HH.out.mono ?_
                      rintro e w3 ⟨⟨k7, c7, g7, m7, o7, r7, s7, rfl, hko⟩, hk3⟩
                      have KA : Hid (Kp [] w8 (w3.alloc (.cells (mh7 k7 c7 g7 m7 o7 r7 s7) 64))) := Lib.hid (hk3.alloc _)
                      have hA : (w3.alloc (.cells (mh7 k7 c7 g7 m7 o7 r7 s7) 64)).heap[w3.heap.size]? = some (.cells (mh7 k7 c7 g7 m7 o7 r7 s7) 64 (0, 0)) := heap_alloc_new _ _
                      have hown := (HD.out.own (o := o) (tel := tel) (HVO.out.resolve_left h0) hko).1
                      clear hko hk3 HH cq
                      go_upto_region 21 with (fail)
                      generalize w3.heap.size = bh at *
                      generalize w3.alloc (.cells (mh7 k7 c7 g7 m7 o7 r7 s7) 64) = wA at *
                      have a0 := (cell_of_row hA 0).trans (show _ = some (.int .u8 k7) from rfl)
                      have a4 := (cell_of_row hA 4).trans (show _ = some (.int .u8 o7) from rfl)
                      have cq := cqk.out wA KA.out
                      have cb := HCb.out wA KA.out
                      clear hA
                      by_cases hk : k7 = 2
                      · have hk' : (k7 == 2) = true := by simp [hk]
                        by_cases ho2 : o7 = (o : Int)
                        · have ho2' : (o7 == (o : Int)) = true := by simp [ho2]
                          have hw : (gpOf O H o tel).own v = true := by rw [hown]; simp [hk, ho2]
                          cases bv
                          · obtain ⟨p1, p2⟩ := HPt.out wA KA.out h0 hw HBV.out
                            have F := Lib.hid p1
                            clear p1 hown hw HSk HPt hk ho2 h0 cqk HCb
                            go_wp2_with fail
                            go_roundg (M2 - (q + 1))
                            case rel => exact ⟨q + 1, true, _, by omega, by go_num, rfl, Lib.hid ⟨F.out.1, F.out.2.1, (fun h => by cases h), (fun _ => F.out.2.2.1), Nat.le_of_lt F.out.2.2.1, F.out.2.2.2⟩⟩
                            case measure => omega
                          · have F := Lib.hid (HSk.out wA KA.out (.inr (.inr HBV.out)))
                            clear hown hw HSk HPt hk ho2 h0 cqk HCb
                            go_wp2_with fail
                            go_roundg (M2 - (q + 1))
                            case rel => exact ⟨q + 1, m3, B3, by omega, by go_num, rfl, F⟩
                            case measure => omega
                        · have ho2' : (o7 == (o : Int)) = false := by simp [ho2]
                          have F := Lib.hid (HSk.out wA KA.out (.inr (.inl (by rw [hown]; simp [ho2]))))
                          clear hown HSk HPt hk ho2 h0 cqk HCb
                          go_wp2_with fail
                          go_roundg (M2 - (q + 1))
                          case rel => exact ⟨q + 1, m3, B3, by omega, by go_num, rfl, F⟩
                          case measure => omega
                      · have hk' : (k7 == 2) = false := by simp [hk]
                        have F := Lib.hid (HSk.out wA KA.out (.inr (.inl (by rw [hown]; simp [hk]))))
                        clear hown HSk HPt hk h0 cqk HCb
                        go_wp2_with fail
                        go_roundg (M2 - (q + 1))
                        case rel => exact ⟨q + 1, m3, B3, by omega, by go_num, rfl, F⟩
                        case measure => omega
                  · obtain rfl : q = M2 := by omega
                    have F : Hid (Rr w (gpOf O H o tel) R N ro B3 w8 ∧ Rro (gpOf O H o tel) R B3 R.length ∧ (m3 = false → Rcls (gpOf O H o tel) B3 (i + 1)) ∧ (m3 = true → mcnt B3 < mcnt B1) ∧ mcnt B3 ≤ mcnt B1) :=
                      Lib.hid ⟨HR.out.1, HR.out.2.1, fun h j hj hb => by
                        by_cases hj2 : j = i
                        · subst hj2; rw [ref_len, HM.out]; exact (HR.out.2.2.1 h).2
                        · exact (HR.out.2.2.1 h).1 j (by omega) hb, HR.out.2.2.2.1, HR.out.2.2.2.2.1⟩
                    clear HR
                    go_wp2_with fail
                    go_roundg (N - (i + 1))
                    case rel => exact ⟨i + 1, m3, B3, by omega, by go_num, rfl, F⟩
                    case measure => omega
            · obtain rfl : i = N := by omega
              have F : Hid (Rr w (gpOf O H o tel) R i ro B2 wr ∧ Rro (gpOf O H o tel) R B2 R.length ∧ (m2 = false → Rcls (gpOf O H o tel) B2 i)) := Lib.hid ⟨HR.out.1, HR.out.2.1, HR.out.2.2.1⟩
              have HC := Lib.hid HR.out.2.2.2
              clear HR
              go_wp2_with fail
              go_roundg (if m2 = true then mcnt B2 + 1 else 0)
              case rel => exact ⟨m2, B2, rfl, rfl, F⟩
              case measure =>
                rw [HG.out]
                split
                · have := HC.out.1 ‹_›; omega
                · omega
end
end Go.Proofs.YtdbbkncjhnafdaaGreatDoor

namespace Go.Proofs.YtdbbkncjhnafdaaGreatDoor
set_option linter.unusedVariables false
set_option linter.unusedSimpArgs false
set_option maxRecDepth 100000
open Go.RowKit

/-- Who is told of. -/
def Tld (G : Gp) (R : List Nat) (y : Nat) : Prop := G.glb y = true ∧ y ≠ 0 ∧ (y ∈ R ∨ ∃ x, Rc G R x ∧ y ∈ G.ref x)
structure Rt (w : World) (G : Gp) (R : List Nat) (N ro : Nat) (B : List Bool) (W : World) : Prop where
  len : B.length = N
  r : ∀ j, B.getD j false = true → Tld G R j
  bl : MBl W ro B
  kp : Kp [] w W
def Rto (G : Gp) (R : List Nat) (B : List Bool) (i : Nat) : Prop := ∀ j, j < i → R.getD j 0 ≠ 0 → G.glb (R.getD j 0) = true → B.getD (R.getD j 0) false = true
def Rtl (G : Gp) (B : List Bool) (j n : Nat) : Prop := ∀ q, q < n → (G.ref j).getD q 0 ≠ 0 → G.glb ((G.ref j).getD q 0) = true → B.getD ((G.ref j).getD q 0) false = true
def Rtc (G : Gp) (R : List Nat) (B : List Bool) (i : Nat) : Prop := ∀ j, j < i → Rc G R j → Rtl G B j (G.ref j).length
section
variable {w W W' : World} {G : Gp} {R : List Nat} {N ro : Nat} {B : List Bool}
theorem Rt.on (h : Rt w G R N ro B W) (k : Kp [] W W') : Rt w G R N ro B W' := ⟨h.len, h.r, h.bl.keep k (by simp), h.kp.trans k⟩
theorem Rt.put (h : Rt w G R N ro B W) (hro : w.heap.size ≤ ro) {v : Nat} (hv : v < N) (hr : Tld G R v) : Rt w G R N ro (B.set v true) (W.setCell ⟨ro, v, none⟩ (.bool true)) := by
  refine ⟨by simpa using h.len, fun j hj => ?_, h.bl.set _ _, kp_new_set h.kp ((Kp.refl [ro] _).setCell (.inl (by simp)) _) hro⟩
  rw [mgetD_set _ _ _ (by rw [h.len]; exact hv)] at hj
  split at hj
  · rename_i e; subst e; exact hr
  · exact h.r j hj
theorem Rto.put {v i : Nat} (h : Rto G R B i) (hv : v < B.length) : Rto G R (B.set v true) i := fun j hj h0 ho => set_more hv _ (h j hj h0 ho)
theorem Rtl.put {v j n : Nat} (h : Rtl G B j n) (hv : v < B.length) : Rtl G (B.set v true) j n := fun q hq h0 ho => set_more hv _ (h q hq h0 ho)
theorem Rtc.put {v i : Nat} (h : Rtc G R B i) (hv : v < B.length) : Rtc G R (B.set v true) i := fun j hj hb => (h j hj hb).put hv
theorem Rt.iff (h : Rt w G R N ro B W) (hro : Rto G R B R.length) (hc : Rtc G R B N) (hN : ∀ x, Rc G R x → x < N) (j : Nat) : B.getD j false = true ↔ Tld G R j := by
  refine ⟨h.r j, ?_⟩
  rintro ⟨hg, h0, hm | ⟨x, hx, hy⟩⟩
  · obtain ⟨i, hi, e⟩ := List.mem_iff_getElem.1 hm
    have e2 : R.getD i 0 = j := by rw [List.getD_eq_getElem?_getD, List.getElem?_eq_getElem hi]; exact e
    have := hro i hi (by rw [e2]; exact h0) (by rw [e2]; exact hg)
    rw [e2] at this
    exact this
  · obtain ⟨i, hi, e⟩ := List.mem_iff_getElem.1 hy
    have e2 : (G.ref x).getD i 0 = j := by rw [List.getD_eq_getElem?_getD, List.getElem?_eq_getElem hi]; exact e
    have := hc x (hN x hx) hx i hi (by rw [e2]; exact h0) (by rw [e2]; exact hg)
    rw [e2] at this
    exact this
end

theorem field_kd (k c : Int) (g m : Bool) (o r s : Int) (w : World) : (Instr.field 64 (.agg #[.int .u8 k, .int .u8 c, .bool g, .bool m, .int .u8 o, .int .u8 r, .int .u8 s]) 0).run Tryz.prog w = .ok (.int .u8 k) w := by kernel_rfl
section
variable {Bz T n db dc : Nat} {H : List Int} {w w' : World} {O : Obs} {o : Nat} {tel : Bool}
set_option maxHeartbeats 4000000 in
theorem told_is (hD : Dw O H) (h : Dh Bz T 0 n db dc H w) (ho : o ≤ 255) {ao : Option Addr} {cap : Nat} {R : List Nat} (hR : ∀ y ∈ R, y = 0 ∨ (O y).isSome = true) (hLc : ∀ j, j < R.length → ∃ g o', ao = some ⟨g, o', none⟩ ∧ w.cell? ⟨g, o' + j, none⟩ = some (.int .i64 (R.getD j 0))) (hlen : R.length ≤ 1000) :
    Calls Tryz.prog 16 #[.slice (some ⟨db, 0, none⟩) H.length dc, .int .u8 o, .slice ao R.length cap] w fun e w' => ∃ ro B, e = .returned (.slice (some ⟨ro, 0, none⟩) H.length H.length) ∧ MBl w' ro B ∧ B.length = H.length ∧ (∀ j, B.getD j false = true ↔ Tld (gpOf O H o tel) R j) ∧ w.heap.size ≤ ro ∧ Kp [] w w' := by
  have htop := h.top
  have hlo := h.len
  have HHd := Lib.hid (fun (wq : World) (kq : Kp [] w wq) (x : Nat) (hx : x < H.length) => dhead_any (h.on kq) hx)
  have HRf := Lib.hid (fun (wq : World) (kq : Kp [] w wq) (x : Nat) (hx : (O x).isSome = true) => drefs_any (h.on kq) (hD.tb x hx).2.1 (hD.tb x hx).2.2 _ rfl (fun q hq => (hD.rf x hx q hq).1))
  have HRe := Lib.hid (fun (wq : World) (kq : Kp [] w wq) => reached_is (tel := tel) (cap := cap) hD (h.on kq) ho hR (fun j hj => by
    obtain ⟨g, o', e, hc⟩ := hLc j hj
    exact ⟨g, o', e, kp_cell kq (by simp) hc⟩) hlen)
  have HD := Lib.hid hD
  have HLc := Lib.hid (And.intro hR hLc)
  obtain ⟨N, hN⟩ : ∃ N, N = H.length := ⟨_, rfl⟩
  obtain ⟨M, hM⟩ : ∃ M, M = R.length := ⟨_, rfl⟩
  rw [← hN] at htop hlo HRe ⊢
  rw [← hM] at hlen HRe ⊢
  have HN := Lib.hid (And.intro hN hM)
  have hN1 : 1 ≤ N := by omega
  rw [← hN] at HHd
  have hmk := mmake_bools N (by omega)
  have HB0 : Hid (MBl (w.alloc (.cells (mbls (List.replicate N false)) 4)) w.heap.size (List.replicate N false)) := Lib.hid (heap_alloc_new w _)
  have HK0 := Lib.hid ((Kp.refl [] w).alloc (.cells (mbls (List.replicate N false)) 4))
  clear h hD hR hLc hN hM hlo
  go_enter Tryz.func16, Tryz.ntmps16
  go_upto_region 2 with (fail)
  have HR0 : Hid (Rt w (gpOf O H o tel) R N w.heap.size (List.replicate N false) (w.alloc (.cells (mbls (List.replicate N false)) 4))) := Lib.hid ⟨by simp, fun j hj => by
    simp [List.getD, List.getElem?_replicate] at hj
    split at hj <;> simp_all, HB0.out, HK0.out⟩
  generalize w.alloc (.cells (mbls (List.replicate N false)) 4) = w1 at *
  obtain ⟨ro, hro⟩ : ∃ ro, w.heap.size = ro := ⟨_, rfl⟩
  rw [hro] at HR0 ⊢
  generalize List.replicate N false = B0 at *
  have HRO := Lib.hid hro
  clear hro HB0 HK0 hmk
  go_wp2_with fail
  go_loopg [8] M (fun gg v8 wr => ∃ (i : Nat) (B : List Bool), i + gg = M ∧ v8 = .int .i64 i ∧ Hid (Rt w (gpOf O H o tel) R N ro B wr ∧ Rto (gpOf O H o tel) R B i))
  case atStart => exact ⟨0, B0, by omega, rfl, Lib.hid ⟨HR0.out, fun j hj => by omega⟩⟩
  case round =>
    obtain ⟨i, B, hi, rfl, HR⟩ := hrel
    by_cases hlt : i < M
    · have hiR : i < R.length := by rw [← HN.out.2]; exact hlt
      obtain ⟨g, o', hao, hcell⟩ := HLc.out.2 i hiR
      have cq := kp_cell HR.out.1.kp (by simp) hcell
      have hmem : R.getD i 0 ∈ R := by
        rw [List.getD_eq_getElem?_getD, List.getElem?_eq_getElem hiR]
        exact List.getElem_mem hiR
      have hy := HLc.out.1 _ hmem
      obtain ⟨y, hyy⟩ : ∃ y, R.getD i 0 = y := ⟨_, rfl⟩
      rw [hyy] at cq hy hmem
      have hyN : y < N := by
        rcases hy with e | e
        · omega
        · have := (HD.out.tb y e).2.1; rw [HN.out.1]; exact this
      have HH := Lib.hid (HHd.out wr HR.out.1.kp y hyN)
      have HSk : Hid (∀ wq, Kp [] wr wq → (y = 0 ∨ (gpOf O H o tel).glb y = false) → Rt w (gpOf O H o tel) R N ro B wq ∧ Rto (gpOf O H o tel) R B (i + 1)) := Lib.hid fun wq kq hor => ⟨HR.out.1.on kq, fun j hj h0 ho => by
        by_cases e : j = i
        · subst e
          rw [hyy] at h0 ho ⊢
          rcases hor with q | q
          · exact absurd q h0
          · rw [q] at ho; cases ho
        · exact HR.out.2 j (by omega) h0 ho⟩
      have HPt : Hid (∀ wq, Kp [] wr wq → y ≠ 0 → (gpOf O H o tel).glb y = true → (Rt w (gpOf O H o tel) R N ro (B.set y true) (wq.setCell ⟨ro, y, none⟩ (.bool true)) ∧ Rto (gpOf O H o tel) R (B.set y true) (i + 1)) ∧ wq.frozen? ⟨ro, y, none⟩ = false ∧ wq.cell? ⟨ro, y, none⟩ = some (.bool (B.getD y false))) := Lib.hid fun wq kq h0 ho => by
        have hB : y < B.length := by rw [HR.out.1.len]; exact hyN
        have h7 := HR.out.1.on kq
        refine ⟨⟨h7.put (by rw [HRO.out]; exact Nat.le_refl _) hyN ⟨ho, h0, .inl hmem⟩, fun j hj h0' ho' => ?_⟩, h7.bl.free y, h7.bl.cell hB⟩
        by_cases e : j = i
        · subst e
          rw [hyy, mgetD_set _ _ _ hB, if_pos rfl]
        · exact set_more hB _ (HR.out.2 j (by omega) h0' ho')
      have HY := Lib.hid hy
      have HyN := Lib.hid hyN
      have cqk := Lib.hid (fun (wq : World) (kq : Kp [] wr wq) => kp_cell kq (by simp) cq)
      subst hao
      clear hcell hmem hy hyy HR
      by_cases h0 : y = 0
      · have F := Lib.hid (HSk.out wr (Kp.refl _ _) (.inl h0))
        subst h0
        clear HSk HPt
        go_wp2_with fail
        go_roundg (M - (i + 1))
        case rel => exact ⟨i + 1, B, by omega, by go_num, F⟩
        case measure => omega
      · have hy1 := HY.out.resolve_left h0
        have h0' : ((y : Int) != 0) = true := by simp; omega
        go_wp2_with fail
        refine HH.out.mono ?_
        rintro e w3 ⟨⟨k7, c7, g7, m7, o7, r7, s7, rfl, hko⟩, hk3⟩
        have hown := (HD.out.own (o := o) (tel := tel) hy1 hko).2
        have hfld := field_kd k7 c7 g7 m7 o7 r7 s7
        have cq := cqk.out w3 hk3
        by_cases hk : k7 = 3
        · have hk' : (k7 == 3) = true := by simp [hk]
          have hw : (gpOf O H o tel).glb y = true := by rw [hown]; simp [hk]
          obtain ⟨p1, p2, p3⟩ := HPt.out w3 hk3 h0 hw
          have F := Lib.hid p1
          have hyN2 := HyN.out
          clear p1 hown hw HSk HPt hy1 hko hk3 HH hk h0 cqk
          go_wp2_with fail
          go_roundg (M - (i + 1))
          case rel => exact ⟨i + 1, _, by omega, by go_num, F⟩
          case measure => omega
        · have hk' : (k7 == 3) = false := by simp [hk]
          have F := Lib.hid (HSk.out w3 hk3 (.inr (by rw [hown]; simp [hk])))
          clear HSk HPt hown hy1 hk h0 hko hk3 HH cqk
          go_wp2_with fail
          go_roundg (M - (i + 1))
          case rel => exact ⟨i + 1, B, by omega, by go_num, F⟩
          case measure => omega
    · have ei : i = M := by omega
      have HS : Hid (Rt w (gpOf O H o tel) R N ro B wr ∧ Rto (gpOf O H o tel) R B R.length) := Lib.hid (by rw [← HN.out.2, ← ei]; exact HR.out)
      have HRr := Lib.hid (HRe.out wr HR.out.1.kp)
      clear HR ei HR0 HRe
      go_wp2_with fail
      refine HRr.out.mono ?_
      rintro e w2 ⟨rc, C, rfl, hcl, hcn, hci, hrc, hk2⟩
      have HC := Lib.hid (And.intro hcl (And.intro hcn hci))
      have HS2 := Lib.hid (And.intro (HS.out.1.on hk2) HS.out.2)
      have HRC : Hid (ro ≠ rc) := Lib.hid (by have := lt_of_block HS.out.1.bl; omega)
      clear hcl hcn hci hrc hk2 HRr HS
      go_wp2_with fail
      go_loopg [10] N (fun g2 v10 wr => ∃ (i : Nat) (B2 : List Bool), i + g2 = N ∧ v10 = .int .i64 i ∧ Hid (Rt w (gpOf O H o tel) R N ro B2 wr ∧ Rto (gpOf O H o tel) R B2 R.length ∧ Rtc (gpOf O H o tel) R B2 i ∧ MBl wr rc C))
      case atStart => exact ⟨0, B, by omega, rfl, Lib.hid ⟨HS2.out.1, HS2.out.2, fun j hj => by omega, HC.out.1⟩⟩
      case round =>
        obtain ⟨i, B2, hi, rfl, HR⟩ := hrel
        clear HS2
        by_cases hlt : i < N
        · have c2 := HR.out.2.2.2.cell (i := i) (by rw [HC.out.2.1]; exact hlt)
          obtain ⟨bi, hbi⟩ : ∃ bi, C.getD i false = bi := ⟨_, rfl⟩
          rw [hbi] at c2
          cases bi
          · have F : Hid (Rt w (gpOf O H o tel) R N ro B2 wr ∧ Rto (gpOf O H o tel) R B2 R.length ∧ Rtc (gpOf O H o tel) R B2 (i + 1) ∧ MBl wr rc C) :=
              Lib.hid ⟨HR.out.1, HR.out.2.1, fun j hj hb => by
                by_cases hj2 : j = i
                · subst hj2
                  rw [(HC.out.2.2 j).2 hb] at hbi; cases hbi
                · exact HR.out.2.2.1 j (by omega) hb, HR.out.2.2.2⟩
            clear HR hbi
            go_wp2_with fail
            go_roundg (N - (i + 1))
            case rel => exact ⟨i + 1, B2, by omega, by go_num, F⟩
            case measure => omega
          · have hrc := (HC.out.2.2 i).1 hbi
            have hO := hrc.some
            obtain ⟨M2, hM2⟩ : ∃ M2, (H.getD i 0 / 2048 % 128).toNat = M2 := ⟨_, rfl⟩
            have hM3 : M2 ≤ 127 := by omega
            have hRF := HRf.out wr HR.out.1.kp i hO
            rw [hM2, ← HN.out.1] at hRF
            have HRF := Lib.hid hRF
            have HRi := Lib.hid (And.intro hrc hO)
            have HM := Lib.hid hM2
            clear hbi hM2 hrc hO hRF
            go_wp2_with fail
            refine HRF.out.mono ?_
            rintro e w5 ⟨ao5, c5, rfl, hrw5, hk5⟩
            have H5 := Lib.hid (HR.out.1.on hk5)
            have RW := Lib.hid hrw5
            have HR2 := Lib.hid (And.intro HR.out.2.1 (And.intro HR.out.2.2.1 (HR.out.2.2.2.keep hk5 (by simp))))
            have HSz := Lib.hid (show ro < wr.heap.size from lt_of_block HR.out.1.bl)
            clear HRF hrw5 hk5 HR c2
            go_wp2_with fail
            go_loopg [12] M2 (fun g3 v12 wq => ∃ (q : Nat) (B3 : List Bool), q + g3 = M2 ∧ v12 = .int .i64 q ∧ Hid (Rt w (gpOf O H o tel) R N ro B3 wq ∧ Rto (gpOf O H o tel) R B3 R.length ∧ Rtc (gpOf O H o tel) R B3 i ∧ Rtl (gpOf O H o tel) B3 i q ∧ MBl wq rc C ∧ Gx.Rw 53 1 wr.heap.size wq (.slice ao5 M2 c5) M2 (refV H i M2)))
            case atStart => exact ⟨0, B2, by omega, rfl, Lib.hid ⟨H5.out, HR2.out.1, HR2.out.2.1, fun q hq => by omega, HR2.out.2.2, RW.out⟩⟩
            case round =>
              obtain ⟨q, B3, hq, rfl, HR⟩ := hrel
              obtain ⟨w8, rfl⟩ : ∃ w8 : World, w8 = wr := ⟨_, rfl⟩
              by_cases hqM : q < M2
              · obtain ⟨b6, c6, e6, g6, hcl⟩ := HR.out.2.2.2.2.2.at (by omega) (by decide)
                obtain ⟨rfl, rfl⟩ : ao5 = some ⟨b6, 0, none⟩ ∧ c5 = c6 := by cases e6; exact ⟨rfl, rfl⟩
                have cq := (hcl q (by omega)).trans (refV_get H i M2 q hqM)
                have hrf := HD.out.rf i HRi.out.2 q (by rw [HM.out]; exact hqM)
                obtain ⟨v, hv, hvO⟩ : ∃ v : Nat, H.getD (i + 1 + q) 0 = v ∧ (v = 0 ∨ (O v).isSome = true) := by
                  rcases hrf.2 with e | ⟨y, e, hy⟩
                  · exact ⟨0, e, .inl rfl⟩
                  · exact ⟨y, e, .inr hy⟩
                rw [hv] at cq
                have hgv : ((gpOf O H o tel).ref i).getD q 0 = v := by rw [ref_get i q (by rw [HM.out]; exact hqM), hv]; rfl
                have hgm : v ∈ (gpOf O H o tel).ref i := by have := ref_mem (O := O) (o := o) (tel := tel) i q (by rw [HM.out]; exact hqM); rw [hv] at this; exact this
                have hvN : v < N := by
                  rcases hvO with e | e
                  · omega
                  · have := (HD.out.tb v e).2.1; rw [HN.out.1]; exact this
                have HH := Lib.hid (HHd.out w8 HR.out.1.kp v hvN)
                have HSk : Hid (∀ wq, Kp [] w8 wq → (v = 0 ∨ (gpOf O H o tel).glb v = false) → Rt w (gpOf O H o tel) R N ro B3 wq ∧ Rto (gpOf O H o tel) R B3 R.length ∧ Rtc (gpOf O H o tel) R B3 i ∧ Rtl (gpOf O H o tel) B3 i (q + 1) ∧ MBl wq rc C ∧ Gx.Rw 53 1 wr.heap.size wq (.slice (some ⟨b6, 0, none⟩) M2 c5) M2 (refV H i M2)) := by
                  refine Lib.hid fun wq kq hor => ⟨HR.out.1.on kq, HR.out.2.1, HR.out.2.2.1, fun q' hq' h1 h2 => ?_, HR.out.2.2.2.2.1.keep kq (by simp), HR.out.2.2.2.2.2.keep0 kq⟩
                  by_cases hqq : q' = q
                  · subst hqq
                    rw [hgv] at h1 h2 ⊢
                    rcases hor with h | h
                    · exact absurd h h1
                    · rw [h] at h2; cases h2
                  · exact HR.out.2.2.2.1 q' (by omega) h1 h2
                have HPt : Hid (∀ wq, Kp [] w8 wq → v ≠ 0 → (gpOf O H o tel).glb v = true → (Rt w (gpOf O H o tel) R N ro (B3.set v true) (wq.setCell ⟨ro, v, none⟩ (.bool true)) ∧ Rto (gpOf O H o tel) R (B3.set v true) R.length ∧ Rtc (gpOf O H o tel) R (B3.set v true) i ∧ Rtl (gpOf O H o tel) (B3.set v true) i (q + 1) ∧ MBl (wq.setCell ⟨ro, v, none⟩ (.bool true)) rc C ∧ Gx.Rw 53 1 wr.heap.size (wq.setCell ⟨ro, v, none⟩ (.bool true)) (.slice (some ⟨b6, 0, none⟩) M2 c5) M2 (refV H i M2)) ∧ wq.frozen? ⟨ro, v, none⟩ = false ∧ wq.cell? ⟨ro, v, none⟩ = some (.bool (B3.getD v false))) := Lib.hid fun wq kq h0 ho => by
                  have hB : v < B3.length := by rw [HR.out.1.len]; exact hvN
                  have h7 := HR.out.1.on kq
                  refine ⟨⟨h7.put (by rw [HRO.out]; exact Nat.le_refl _) hvN ⟨ho, h0, .inr ⟨i, HRi.out.1, hgm⟩⟩, HR.out.2.1.put hB, HR.out.2.2.1.put hB, fun q' hq' h1 h2 => ?_, (HR.out.2.2.2.2.1.keep kq (by simp)).keep ((Kp.refl [ro] _).setCell (.inl (by simp)) _) (by have := HRC.out; simp; omega), ?_⟩, h7.bl.free v, h7.bl.cell hB⟩
                  · by_cases hqq : q' = q
                    · subst hqq
                      rw [hgv, mgetD_set _ _ _ hB, if_pos rfl]
                    · exact set_more hB _ (HR.out.2.2.2.1 q' (by omega) h1 h2)
                  · refine (HR.out.2.2.2.2.2.keep0 kq).keep ((Kp.refl [ro] _).setCell (.inl (by simp)) _) (fun b hb hb' => ?_)
                    simp only [List.mem_singleton] at hb'
                    subst hb'
                    have := (HR.out.2.2.2.2.2.block b hb).1
                    have := HSz.out
                    omega
                have HVO := Lib.hid hvO
                have HvN := Lib.hid hvN
                have cqk := Lib.hid (fun (wq : World) (kq : Kp [] w8 wq) => kp_cell kq (by simp) cq)
                clear hcl hrf hv hvO hgv hgm e6 g6 HR
                have hwN : IntKind.u64.wrap (N : Int) = N := by rw [IntKind.wrap_u64, Int.emod_eq_of_lt (by omega) (by omega)]
                have hvi : IntKind.i64.wrap (v : Int) = v := IntWalk.i64_in _ (by omega)
                by_cases h0 : v = 0
                · have F := Lib.hid (HSk.out w8 (Kp.refl _ _) (.inl h0))
                  subst h0
                  clear HSk HPt
                  go_wp2_with fail
                  go_roundg (M2 - (q + 1))
                  case rel => exact ⟨q + 1, B3, by omega, by go_num, F⟩
                  case measure => omega
                · have h0' : ((v : Int) != 0) = true := by simp; omega
                  have hvN' : decide (v < N) = true := by simp; omega
                  go_wp2_with fail
                  refine HH.out.mono ?_
                  rintro e w3 ⟨⟨k7, c7, g7, m7, o7, r7, s7, rfl, hko⟩, hk3⟩
                  have hown := (HD.out.own (o := o) (tel := tel) (HVO.out.resolve_left h0) hko).2
                  have hfld := field_kd k7 c7 g7 m7 o7 r7 s7
                  have cq := cqk.out w3 hk3
                  by_cases hk : k7 = 3
                  · have hk' : (k7 == 3) = true := by simp [hk]
                    have hw : (gpOf O H o tel).glb v = true := by rw [hown]; simp [hk]
                    obtain ⟨p1, p2, p3⟩ := HPt.out w3 hk3 h0 hw
                    have F := Lib.hid p1
                    have hvN2 := HvN.out
                    clear p1 hown hw HSk HPt hk h0 cqk hko hk3 HH
                    go_wp2_with fail
                    go_roundg (M2 - (q + 1))
                    case rel => exact ⟨q + 1, _, by omega, by go_num, F⟩
                    case measure => omega
                  · have hk' : (k7 == 3) = false := by simp [hk]
                    have F := Lib.hid (HSk.out w3 hk3 (.inr (by rw [hown]; simp [hk])))
                    clear hown HSk HPt hk h0 cqk hko hk3 HH
                    go_wp2_with fail
                    go_roundg (M2 - (q + 1))
                    case rel => exact ⟨q + 1, B3, by omega, by go_num, F⟩
                    case measure => omega
              · obtain rfl : q = M2 := by omega
                have F : Hid (Rt w (gpOf O H o tel) R N ro B3 w8 ∧ Rto (gpOf O H o tel) R B3 R.length ∧ Rtc (gpOf O H o tel) R B3 (i + 1) ∧ MBl w8 rc C) :=
                  Lib.hid ⟨HR.out.1, HR.out.2.1, fun j hj hb => by
                    by_cases hj2 : j = i
                    · subst hj2; rw [ref_len, HM.out]; exact HR.out.2.2.2.1
                    · exact HR.out.2.2.1 j (by omega) hb, HR.out.2.2.2.2.1⟩
                clear HR
                go_wp2_with fail
                go_roundg (N - (i + 1))
                case rel => exact ⟨i + 1, B3, by omega, by go_num, F⟩
                case measure => omega
        · obtain rfl : i = N := by omega
          have F : Hid (∃ B, MBl wr ro B ∧ B.length = i ∧ (∀ j, B.getD j false = true ↔ Tld (gpOf O H o tel) R j) ∧ w.heap.size ≤ ro ∧ Kp [] w wr) :=
            Lib.hid ⟨B2, HR.out.1.bl, HR.out.1.len, HR.out.1.iff HR.out.2.1 HR.out.2.2.1 (fun x hx => by have := (HD.out.tb x hx.some).2.1; rw [HN.out.1]; exact this), by rw [HRO.out]; exact Nat.le_refl _, HR.out.1.kp⟩
          clear HR
          go_wp2_with fail
          go_ret
          obtain ⟨B, F⟩ := F.out
          exact ⟨ro, B, rfl, F⟩
end
end Go.Proofs.YtdbbkncjhnafdaaGreatDoor

namespace Go.Proofs.YtdbbkncjhnafdaaGreatDoor
set_option linter.unusedVariables false
set_option linter.unusedSimpArgs false
set_option maxRecDepth 100000
open Go.RowKit

section
variable {G G' : Gp} {R : List Nat}
theorem Rc.congr (h1 : ∀ x, G.own x = G'.own x) (h2 : ∀ x, G.own x = true → G.ref x = G'.ref x) {x : Nat} (h : Rc G R x) : Rc G' R x := by
  induction h with
  | root x hx h0 ho => exact .root x hx h0 (by rw [← h1]; exact ho)
  | step x y hx hy h0 ho ih => exact .step x y ih (by rw [← h2 x hx.own]; exact hy) h0 (by rw [← h1]; exact ho)
theorem Tld.congr (h1 : ∀ x, G.own x = G'.own x) (h2 : ∀ x, G.own x = true → G.ref x = G'.ref x) (h3 : ∀ x, G.glb x = G'.glb x) {y : Nat} (h : Tld G R y) : Tld G' R y := by
  obtain ⟨a, b, c | ⟨x, hx, hy⟩⟩ := h
  · exact ⟨by rw [← h3]; exact a, b, .inl c⟩
  · exact ⟨by rw [← h3]; exact a, b, .inr ⟨x, hx.congr h1 h2, by rw [← h2 x hx.own]; exact hy⟩⟩
end
section
variable {Bz T n db dc : Nat} {H : List Int} {w w' : World} {O : Obs} {V : Nat → Int} {F : Nat → Nat → Int} {Rs : Nat → Nat → List Int} {o : Nat} {tel : Bool} {M : Nat → Bool} {R : List Nat}
/-- In an object's fields no other object lies. -/
theorem Gd.field (h : Gd T n H Rs O V F) {x o' rf sz q : Nat} (hx : O x = some (o', rf, sz)) (hq : q < sz) : O (x + 1 + q) = none ∧ x + 1 + q < H.length := by
  have hin := h.hp.inn hx
  refine ⟨?_, by omega⟩
  cases hO : O (x + 1 + q) with
  | none => rfl
  | some z =>
    obtain ⟨o2, r2, s2⟩ := z
    obtain ⟨H0, h0, h1, h2⟩ := h.hp.base
    rcases h0.apart hx hO (by omega) with e | e <;> omega
theorem Gd.dwM (h : Gd T n H Rs O V F) (hT : T ≤ 64) (hM : ∀ x, M x = true → (gpOf O H o tel).own x = true) : Dw O (markL H M) := by
  refine ⟨fun y hy => ?_, fun x hx q hq => ?_⟩
  · cases hO : O y with
    | none => rw [hO] at hy; cases hy
    | some z =>
      obtain ⟨o', rf, sz⟩ := z
      have hin := h.hp.inn hO
      obtain ⟨k, c, a1, a2, a3, a4, a5, a6, a7, a8, a9, a10, a11, a12, a13⟩ := h.at hT hM hO
      refine ⟨by unfold hd at hin; omega, by rw [markL_len]; exact a1, ?_⟩
      rw [a5]
      exact Wd.takeB_of_word k c o' rf sz false (M y) (by omega) (by omega) (by omega) (by omega) (by omega) a6
  · cases hO : O x with
    | none => rw [hO] at hx; cases hx
    | some z =>
      obtain ⟨o', rf, sz⟩ := z
      obtain ⟨k, c, a1, a2, a3, a4, a5, a6, a7, a8, a9, a10, a11, a12, a13⟩ := h.at hT hM hO
      obtain ⟨e1, e2, e3, e4, e5, e6, e7⟩ := Wd.parts_of_word k c o' rf sz false (M x) (by omega) (by omega) (by omega) (by omega) (by omega) a6
      rw [a5] at hq
      have hq2 : q < rf := by omega
      obtain ⟨f1, f2⟩ := h.field hO (show q < sz by omega)
      have hMf : M (x + 1 + q) = false := by
        cases hm : M (x + 1 + q) with
        | false => rfl
        | true =>
          have := hM _ hm
          simp [gpOf, f1] at this
      refine ⟨by rw [markL_len]; exact f2, ?_⟩
      rw [markL_get _ _ _ f2, hMf]
      simp only [Bool.false_eq_true, if_false]
      rw [h.hp.fld x o' rf sz hO q (by omega)]
      exact h.fk x o' rf sz hO q (by omega)
theorem Gd.dw (h : Gd T n H Rs O V F) (hT : T ≤ 64) : Dw O H := by
  have := h.dwM (o := 0) (tel := false) (M := fun _ => false) hT (fun x hx => by cases hx)
  rwa [markL_none] at this
/-- Marked words are the same graph. -/
theorem gp_mark (h : Gd T n H Rs O V F) (hT : T ≤ 64) (hM : ∀ x, M x = true → (gpOf O H o tel).own x = true) :
    (∀ x, (gpOf O (markL H M) o tel).own x = (gpOf O H o tel).own x) ∧ (∀ x, (gpOf O (markL H M) o tel).glb x = (gpOf O H o tel).glb x) ∧ ∀ x, (O x).isSome = true → (gpOf O (markL H M) o tel).ref x = (gpOf O H o tel).ref x := by
  have hp : ∀ y, (O y).isSome = true → (markL H M).getD y 0 % 4 = H.getD y 0 % 4 ∧ (markL H M).getD y 0 / 32 % 64 = H.getD y 0 / 32 % 64 ∧ (markL H M).getD y 0 / 2048 % 128 = H.getD y 0 / 2048 % 128 := fun y hy => by
    cases hO : O y with
    | none => rw [hO] at hy; cases hy
    | some z =>
      obtain ⟨o', rf, sz⟩ := z
      have hh := h.head hT hO
      have hin := h.hp.inn hO
      rw [markL_get _ _ _ (by omega)]
      cases M y with
      | false => simp
      | true => simp only [if_true]; omega
  refine ⟨fun x => ?_, fun x => ?_, fun x hx => ?_⟩
  · cases hO : (O x).isSome with
    | false => simp [gpOf, hO]
    | true => obtain ⟨e1, e2, e3⟩ := hp x hO; simp only [gpOf]; rw [e1, e2]
  · cases hO : (O x).isSome with
    | false => simp [gpOf, hO]
    | true => obtain ⟨e1, e2, e3⟩ := hp x hO; simp only [gpOf]; rw [e1]
  · obtain ⟨e1, e2, e3⟩ := hp x hx
    cases hO : O x with
    | none => rw [hO] at hx; cases hx
    | some z =>
      obtain ⟨o', rf, sz⟩ := z
      have hh := h.head hT hO
      have hin := h.hp.inn hO
      simp only [gpOf]
      rw [e3]
      refine List.map_congr_left fun k hk => ?_
      rw [List.mem_range, hh.2.1] at hk
      obtain ⟨f1, f2⟩ := h.field hO (show k < sz by omega)
      have hMf : M (x + 1 + k) = false := by
        cases hm : M (x + 1 + k) with
        | false => rfl
        | true =>
          have := hM _ hm
          simp [gpOf, f1] at this
      rw [markL_get _ _ _ f2, hMf]
      simp
theorem tld_mark (h : Gd T n H Rs O V F) (hT : T ≤ 64) (hM : ∀ x, M x = true → (gpOf O H o tel).own x = true) (y : Nat) : Tld (gpOf O (markL H M) o tel) R y ↔ Tld (gpOf O H o tel) R y := by
  obtain ⟨h1, h2, h3⟩ := gp_mark h hT hM
  have hs : ∀ x, (gpOf O H o tel).own x = true → (O x).isSome = true := fun x hx => by
    simp only [gpOf, Bool.and_eq_true] at hx
    exact hx.1.1
  exact ⟨fun k => k.congr h1 (fun x hx => h3 x (hs x (by rw [← h1]; exact hx))) h2, fun k => k.congr (fun x => (h1 x).symm) (fun x hx => (h3 x (hs x hx)).symm) (fun x => (h2 x).symm)⟩
theorem ww_set {base b c k : Nat} {xs : List Int} (h : Ww base w b c xs) (hk : k < xs.length) (x : Int) : Ww base (w.setCell ⟨b, k, none⟩ (.int .u64 x)) b c (xs.set k x) ∧ w.cell? ⟨b, k, none⟩ = some (.int .u64 (xs.getD k 0)) ∧ w.frozen? ⟨b, k, none⟩ = false := by
  obtain ⟨h1, cur, h2, h3, h4, h5, h6⟩ := h.heap (by omega)
  refine ⟨⟨by simp [ws_len], .inr ⟨b, c, cur.setIfInBounds k (.int .u64 x), by simp, h1, heap_setCell_same _ _ _ _ _ _ h2, by simp; omega, h6, by simp; omega, ?_⟩⟩, ?_, free_of_row h2 k⟩
  · rw [Nat.mul_one, Array.toList_setIfInBounds, List.take_set, List.length_set, h3]
    simp [ws, List.map_set]
  · rw [cell_of_row h2, ← ws_get xs k hk, ← h3, List.getElem?_take_of_lt hk]; simp
set_option maxHeartbeats 4000000 in
theorem marked_is (hG : Gd T n H Rs O V F) (hT : T ≤ 64) (h : Dh Bz T 0 n db dc H w) (ho : o ≤ 255) {ao : Option Addr} {cap : Nat} (hR : ∀ y ∈ R, y = 0 ∨ (O y).isSome = true) (hLc : ∀ j, j < R.length → ∃ g o', ao = some ⟨g, o', none⟩ ∧ w.cell? ⟨g, o' + j, none⟩ = some (.int .i64 (R.getD j 0))) (hlen : R.length ≤ 1000) (Mf : Nat → Bool) (hMf : ∀ x, Mf x = true ↔ Rc (gpOf O H o tel) R x) :
    Calls Tryz.prog 15 #[.slice (some ⟨db, 0, none⟩) H.length dc, .int .u8 o, .slice ao R.length cap] w fun e w' => ∃ b c, e = .returned (.slice (some ⟨b, 0, none⟩) H.length c) ∧ Ww w.heap.size w' b c (markL H Mf) ∧ Kp [] w w' := by
  have htop := h.top
  have hlo := h.len
  have HRr := Lib.hid (reached_is (tel := tel) (cap := cap) (hG.dw hT) h ho hR hLc hlen)
  have HAt : Hid (∀ (wq : World) (kq : Kp [] w wq) (x : Nat), Mf x = true → ∃ o' r s : Nat, x < H.length ∧ o' ≤ 63 ∧ r ≤ 127 ∧ s ≤ 127 ∧ Wd.wordI 2 0 o' r s false true = H.getD x 0 + 16 ∧ Calls Tryz.prog 20 #[.slice (some ⟨db, 0, none⟩) H.length dc, .int .i64 x] wq fun e w' => e = .returned (.agg (mh7 2 0 false false o' r s)) ∧ Kp [] wq w') := Lib.hid fun wq kq x hx => by
    have hown := ((hMf x).1 hx).own
    have hO := ((hMf x).1 hx).some
    cases hOx : O x with
    | none => rw [hOx] at hO; cases hO
    | some z =>
      obtain ⟨o', rf, sz⟩ := z
      obtain ⟨k, c, a1, a2, a3, a4, a5, a6, a7, a8, a9, a10, a11, a12, a13⟩ := hG.at (o := o) (tel := tel) (M := fun _ => false) hT (fun x hx => by cases hx) hOx
      rw [hown] at a7
      have a7 := a7.symm
      simp only [Bool.and_eq_true, decide_eq_true_eq] at a7
      have hk2 : k = 2 := a7.1
      subst hk2
      obtain rfl := a10 rfl
      obtain ⟨e1, e2, e3, e4, e5, e6, e7⟩ := Wd.parts_of_word (2 : Nat) (0 : Nat) o' rf sz false false (by omega) (by omega) (by omega) (by omega) (by omega) a6
      have hd := dhead_yes (h.on kq) a1 (by rw [a13]; exact Wd.takeB_of_word (2 : Nat) (0 : Nat) o' rf sz false false (by omega) (by omega) (by omega) (by omega) (by omega) a6)
      rw [a13, e1, e2, e3, e4, e5, e6, e7] at hd
      exact ⟨o', rf, sz, a1, by omega, by omega, by omega, by rw [a13]; exact wordI_mark o' rf sz, hd⟩
  have HDh := Lib.hid h
  have HMf := Lib.hid hMf
  have hpos : 0 < H.length := by omega
  obtain ⟨_, cur0, hcur0, htk0, _⟩ := h.ww.heap hpos
  have hcell0 : ∀ j u, (ws H)[j]? = some u → ∀ wq, Kp [] w wq → wq.cell? ((⟨db, 0, none⟩ : Addr).add j) = some u := fun j u hu wq kq => by
    have hj : j < H.length := by
      have := (List.getElem?_eq_some_iff.1 hu).1
      rwa [ws_len] at this
    rw [Addr.add_lit, Nat.zero_add]
    rw [ws_get H j hj] at hu
    rw [← hu]
    exact (h.on kq).cell hj
  have HC0 := Lib.hid hcell0
  obtain ⟨N, hN⟩ : ∃ N, N = H.length := ⟨_, rfl⟩
  obtain ⟨M', hM⟩ : ∃ M, M = R.length := ⟨_, rfl⟩
  rw [← hN] at htop hlo HRr HAt ⊢
  rw [← hM] at hlen HRr ⊢
  have HN := Lib.hid (And.intro hN hM)
  have hN1 : 1 ≤ N := by omega
  clear h hG hR hLc hN hM hlo hMf hcell0 hcur0 htk0 hpos
  go_enter Tryz.func15, Tryz.ntmps15
  go_wp2_with fail
  refine HRr.out.mono ?_
  rintro e w1 ⟨rc, C, rfl, hcl, hcn, hci, hrc, hk1⟩
  have hCM : ∀ x, C.getD x false = Mf x := fun x => Bool.eq_iff_iff.2 ((hci x).trans (HMf.out x).symm)
  obtain ⟨g, cap1, w2, hrun, hrw, hkp, hg⟩ := Gx.run_app (T := 53) (t := 35) (ty := 35) (base := w1.heap.size) Tryz.underlying35 info_u64 (by decide) (Gx.Rw.nil 53 1 w1.heap.size w1) (Nat.le_refl _) ⟨db, 0, none⟩ N dc (ws H) (by rw [ws_len, ← HN.out.1]; omega) (fun j u hu => HC0.out j u hu w1 hk1) (ws_one H) (by omega) (by omega) (by omega)
  rw [Nat.zero_add, List.nil_append] at hrw
  have HRun : Hid ((Builtin.append_ #[35, 35] 35 #[.slice none 0 0, .slice (some ⟨db, 0, none⟩) N dc]).run Tryz.prog w1 = .ok (.slice (some ⟨g, 0, none⟩) N cap1) w2) := Lib.hid (by rw [Nat.zero_add] at hrun; exact hrun)
  rw [Gx.blk_nil] at hkp
  have hgn : w1.heap.size ≤ g := by
    rcases hg with hg | hg
    · simp [Gx.blk, Value.ownBlock] at hg
    · omega
  have e0 : markL H (fun z => Mf z && decide (z < 0)) = H := by
    rw [show (fun z => Mf z && decide (z < 0)) = (fun _ : Nat => false) from funext fun z => by simp]
    exact markL_none H
  have HY : Hid (Ww w1.heap.size w2 g cap1 (markL H (fun z => Mf z && decide (z < 0)))) := Lib.hid (by
    rw [e0]
    show Gx.Rw _ _ _ _ _ _ _
    rw [← HN.out.1]
    exact hrw)
  have HC2 := Lib.hid (And.intro (hcl.keep hkp (by simp)) (And.intro hcn hCM))
  have HK2 := Lib.hid (And.intro (hk1.trans hkp) (And.intro hk1.size (And.intro hkp.size (And.intro hgn (lt_of_block hcl)))))
  clear hrun hrw hkp hg hcl hcn hci hCM hk1 hgn e0 HRr HC0
  go_wp2_with (at_builtin; refine Gx.wpList_append_eq rfl (.const (.slice none 0 0)) (.tmp 15) 35 rfl _ _ _ rfl rfl HRun.out ?_)
  go_loopg [9] N (fun gg v9 wr => ∃ i : Nat, i + gg = N ∧ v9 = .int .i64 i ∧ Hid (Ww w1.heap.size wr g cap1 (markL H (fun z => Mf z && decide (z < i))) ∧ MBl wr rc C ∧ Kp [] w wr))
  case atStart => exact ⟨0, by omega, rfl, Lib.hid ⟨HY.out, HC2.out.1, HK2.out.1⟩⟩
  case round =>
    obtain ⟨i, hi, rfl, HR⟩ := hrel
    clear HY HRun
    by_cases hlt : i < N
    · have c2 := HR.out.2.1.cell (i := i) (by rw [HC2.out.2.1]; exact hlt)
      rw [HC2.out.2.2 i] at c2
      obtain ⟨bi, hbi⟩ : ∃ bi, Mf i = bi := ⟨_, rfl⟩
      rw [hbi] at c2
      cases bi
      · have F : Hid (Ww w1.heap.size wr g cap1 (markL H (fun z => Mf z && decide (z < i + 1))) ∧ MBl wr rc C ∧ Kp [] w wr) := Lib.hid (by
          rw [show (fun z => Mf z && decide (z < i + 1)) = (fun z => Mf z && decide (z < i)) from funext fun z => by
            by_cases e : z = i
            · subst e; simp [hbi]
            · congr 1; exact decide_eq_decide.2 (by omega)]
          exact HR.out)
        clear HR hbi
        go_wp2_with fail
        go_roundg (N - (i + 1))
        case rel => exact ⟨i + 1, by omega, by go_num, F⟩
        case measure => omega
      · obtain ⟨o', r, s, h1, h2, h3, h4, h5, hcall⟩ := HAt.out wr HR.out.2.2 i hbi
        have HH := Lib.hid hcall
        have HWd : Hid (∀ wq, Calls Tryz.prog 35 #[.agg (mh7 2 0 false true o' r s)] wq fun e w' => e = .returned (.int .u64 (H.getD i 0 + 16)) ∧ Kp [] wq w') := Lib.hid fun wq => by
          have := Wd.rword_any 2 0 o' r s false true wq (by omega) (by omega) (by omega) (by omega) (by omega) (by omega) (by omega) (by omega) (by omega) (by omega)
          rw [h5] at this
          exact this.mono fun e w' ⟨a, b⟩ => ⟨a, kp_of_below b⟩
        have HSt : Hid (∀ wq, Kp [] wr wq → (Ww w1.heap.size (wq.setCell ⟨g, i, none⟩ (.int .u64 (H.getD i 0 + 16))) g cap1 (markL H (fun z => Mf z && decide (z < i + 1))) ∧ MBl (wq.setCell ⟨g, i, none⟩ (.int .u64 (H.getD i 0 + 16))) rc C ∧ Kp [] w (wq.setCell ⟨g, i, none⟩ (.int .u64 (H.getD i 0 + 16)))) ∧ wq.cell? ⟨g, i, none⟩ = some (.int .u64 ((markL H (fun z => Mf z && decide (z < i))).getD i 0)) ∧ wq.frozen? ⟨g, i, none⟩ = false) := Lib.hid fun wq kq => by
          obtain ⟨a, b, c⟩ := ww_set (HR.out.1.on kq) (k := i) (by rw [markL_len, ← HN.out.1]; exact hlt) (H.getD i 0 + 16)
          have e : (markL H (fun z => Mf z && decide (z < i))).set i (H.getD i 0 + 16) = markL H (fun z => Mf z && decide (z < i + 1)) := by
            rw [markL_set H _ i (by rw [← HN.out.1]; exact hlt)]
            congr 1
            funext z
            by_cases e : z = i
            · subst e; simp [hbi]
            · have : decide (z < i + 1) = decide (z < i) := decide_eq_decide.2 (by omega)
              simp [e, this]
          rw [e] at a
          have z1 := HK2.out.2.2.2
          refine ⟨⟨a, (HR.out.2.1.keep kq (by simp)).keep ((Kp.refl [g] _).setCell (.inl (by simp)) _) (by simp; omega), kp_new_set (HR.out.2.2.trans kq) ((Kp.refl [g] _).setCell (.inl (by simp)) _) (by have := HK2.out.2.1; omega)⟩, b, c⟩
        generalize H.getD i 0 + 16 = X at *
        generalize (markL H (fun z => Mf z && decide (z < i))).getD i 0 = X0 at *
        clear hbi hcall h1 h2 h3 h4 h5 HR
        go_wp2_with fail
        refine HH.out.mono ?_
        rintro e w3 ⟨rfl, hk3⟩
        have KA : Hid (Kp [] wr (w3.alloc (.cells (mh7 2 0 false false o' r s) 64))) := Lib.hid (hk3.alloc _)
        have hA : (w3.alloc (.cells (mh7 2 0 false false o' r s) 64)).heap[w3.heap.size]? = some (.cells (mh7 2 0 false false o' r s) 64 (0, 0)) := heap_alloc_new _ _
        have hsz := hk3.size
        clear hk3 HH
        go_upto_region 8 with (fail)
        obtain ⟨bh, hbh⟩ : ∃ bh, bh = w3.heap.size := ⟨_, rfl⟩
        rw [← hbh] at hA hsz ⊢
        clear hbh
        generalize w3.alloc (.cells (mh7 2 0 false false o' r s) 64) = wA at *
        have a3 := (cell_of_row hA 3).trans (show _ = some (.bool false) from rfl)
        have f3 := free_of_row hA 3
        have hB : (wA.setCell ⟨bh, 3, none⟩ (.bool true)).heap[bh]? = some (.cells (mh7 2 0 false true o' r s) 64 (0, 0)) := by
          rw [heap_setCell_same _ _ _ _ _ _ hA]; rfl
        have KB : Hid (Kp [] wr (wA.setCell ⟨bh, 3, none⟩ (.bool true))) := Lib.hid (kp_new_set KA.out ((Kp.refl [bh] _).setCell (.inl (by simp)) _) hsz)
        have HBB := Lib.hid hB
        clear hA hB hsz c2
        go_upto_region 9 with (fail)
        generalize wA.setCell ⟨bh, 3, none⟩ (.bool true) = wB at *
        clear a3 f3
        have e0 := (cell_of_row HBB.out 0).trans (show _ = some (.int .u8 2) from rfl)
        have e1 := (cell_of_row HBB.out 1).trans (show _ = some (.int .u8 0) from rfl)
        have e2 := (cell_of_row HBB.out 2).trans (show _ = some (.bool false) from rfl)
        have e3 := (cell_of_row HBB.out 3).trans (show _ = some (.bool true) from rfl)
        have e4 := (cell_of_row HBB.out 4).trans (show _ = some (.int .u8 o') from rfl)
        have e5 := (cell_of_row HBB.out 5).trans (show _ = some (.int .u8 r) from rfl)
        have e6 := (cell_of_row HBB.out 6).trans (show _ = some (.int .u8 s) from rfl)
        go_wp2_with fail
        refine (HWd.out _).mono ?_
        rintro e w5 ⟨rfl, hk5⟩
        obtain ⟨p1, p2, p3⟩ := HSt.out w5 (KB.out.trans hk5)
        have F := Lib.hid p1
        clear p1 hk5 e0 e1 e2 e3 e4 e5 e6 HBB KB HSt HWd
        go_wp2_with fail
        go_roundg (N - (i + 1))
        case rel => exact ⟨i + 1, by omega, by go_num, F⟩
        case measure => omega
    · obtain rfl : i = N := by omega
      have F : Hid (Ww w.heap.size wr g cap1 (markL H Mf) ∧ Kp [] w wr) := Lib.hid (by
        have e : markL H (fun z => Mf z && decide (z < i)) = markL H Mf := by
          unfold markL
          refine List.map_congr_left fun k hk => ?_
          rw [List.mem_range, ← HN.out.1] at hk
          simp [hk]
        have h1 := HR.out.1
        rw [e] at h1
        exact ⟨h1.low (by rw [markL_len, ← HN.out.1]; omega) HK2.out.2.1, HR.out.2.2⟩)
      clear HR
      go_wp2_with fail
      go_ret
      exact ⟨g, cap1, rfl, F.out⟩
end
end Go.Proofs.YtdbbkncjhnafdaaGreatDoor
