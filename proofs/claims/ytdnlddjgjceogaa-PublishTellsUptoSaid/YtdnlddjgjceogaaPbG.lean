/- Package publish, the document's own: Reached. Conditions: as each theorem states them. -/
import Derived.Test.YtdnlddjgjceogaaPbF
namespace Go.Proofs.Ytdnlddjgjceogaa
set_option linter.unusedVariables false
set_option linter.unusedSimpArgs false
set_option maxRecDepth 100000
open Go.RowKit

/-- What is reached by Local objects from one of them. -/
inductive Rch (ws : List Int) (a : Nat) : Nat → Prop
  | base : lcl ws a = true → Rch ws a a
  | step {i q : Nat} : Rch ws a i → q < (nref (ws.getD i 0)).toNat → refP ws i q ≠ 0 → lcl ws (refP ws i q) = true → Rch ws a (refP ws i q).toNat
theorem Rch.first {ws : List Int} {a j : Nat} (h : Rch ws a j) : lcl ws a = true := by
  induction h with
  | base h => exact h
  | step _ _ _ _ ih => exact ih
theorem lcl_in {ws : List Int} {k : Int} (h : lcl ws k = true) : 0 ≤ k ∧ k < ws.length := by
  simp only [lcl, Bool.and_eq_true, decide_eq_true_eq] at h
  exact h.1

/-- A row of truths. -/
def bls (B : List Bool) : Array Value := (B.map Value.bool).toArray
theorem bls_set (B : List Bool) (i : Nat) (y : Bool) : (bls B).setIfInBounds i (.bool y) = bls (B.set i y) := by simp [bls, List.map_set]
def Bl (w : World) (r : Nat) (B : List Bool) : Prop := w.heap[r]? = some (.cells (bls B) 4 (0, 0))
theorem Bl.cell {w : World} {r : Nat} {B : List Bool} (h : Bl w r B) {i : Nat} (hi : i < B.length) : w.cell? ⟨r, i, none⟩ = some (.bool (B.getD i false)) := by
  rw [cell_of_row h]
  simp [bls, List.getD, hi]
theorem Bl.free {w : World} {r : Nat} {B : List Bool} (h : Bl w r B) (i : Nat) : w.frozen? ⟨r, i, none⟩ = false := free_of_row h i
theorem Bl.keep {S : List Nat} {w w' : World} {r : Nat} {B : List Bool} (h : Bl w r B) (k : Kp S w w') (hr : r ∉ S) : Bl w' r B := k.row hr h
theorem Bl.set {w : World} {r : Nat} {B : List Bool} (h : Bl w r B) (i : Nat) (y : Bool) : Bl (w.setCell ⟨r, i, none⟩ (.bool y)) r (B.set i y) := by
  have := heap_setCell_same w r i _ _ (.bool y) h
  rw [bls_set] at this
  exact this
theorem make_bools (n : Nat) (h2 : n ≤ 100000) (w : World) : (Instr.makeSlice 58 (.int .i64 (n : Int)) (.int .i64 (n : Int))).run Try.prog w = .ok (.slice (some ⟨w.heap.size, 0, none⟩) n n) (w.alloc (.cells (bls (List.replicate n false)) 4)) := by
  obtain ⟨i, hi, hz0, hz1, hz2⟩ := info_parts (P := Try.prog) (e := 4) (z := .bool false) (size := 1) (bytes := 1) (by kernel_rfl)
  have := run_make (P := Try.prog) w 58 4 i (.bool false) Try.underlying58 hi hz0 .i64 .i64 n n (by omega) (Int.le_refl _) (by rw [hz2]; omega) (by omega)
  rw [this, hz1]
  have e : madeCells #[.bool false] n = bls (List.replicate n false) := by
    apply Array.ext'
    rw [toList_madeCells_one]
    simp [bls]
  simp [Value.cells, e]

/-- How many are not yet. -/
def cntF (B : List Bool) : Nat := B.countP (fun b => !b)
theorem cntF_set (B : List Bool) (i : Nat) (h : i < B.length) (hb : B.getD i false = false) : cntF (B.set i true) + 1 = cntF B := by
  unfold cntF
  induction B generalizing i with
  | nil => simp at h
  | cons a l ih =>
    cases i with
    | zero =>
      simp only [List.getD_cons_zero] at hb
      subst hb
      simp
    | succ i =>
      have := ih i (by simpa using h) (by simpa using hb)
      simp only [List.set_cons_succ, List.countP_cons]
      omega
theorem getD_setT (B : List Bool) (i j : Nat) (h : i < B.length) : (B.set i true).getD j false = if j = i then true else B.getD j false := by
  simp only [List.getD]
  by_cases hj : j = i
  · subst hj
    rw [if_pos rfl, List.getElem?_set_self h]
    rfl
  · rw [if_neg hj, List.getElem?_set_ne (by omega)]

/-- What holds of the row of truths all the time. -/
structure RI (w : World) (ws : List Int) (a ro : Nat) (B : List Bool) (W : World) : Prop where
  len : B.length = ws.length
  at_ : B.getD a false = true
  r : ∀ j, B.getD j false = true → Rch ws a j
  bl : Bl W ro B
  kp : Kp [] w W
/-- All that one leads to is there. -/
def Cl (ws : List Int) (B : List Bool) (j : Nat) (n : Nat) : Prop := ∀ q, q < n → refP ws j q ≠ 0 → lcl ws (refP ws j q) = true → B.getD (refP ws j q).toNat false = true
def Cls (ws : List Int) (B : List Bool) (i : Nat) : Prop := ∀ j, j < i → B.getD j false = true → Cl ws B j (nref (ws.getD j 0)).toNat
theorem RI.on {w W W' : World} {ws : List Int} {a ro : Nat} {B : List Bool} (h : RI w ws a ro B W) (k : Kp [] W W') : RI w ws a ro B W' := ⟨h.len, h.at_, h.r, h.bl.keep k (by simp), h.kp.trans k⟩
theorem RI.put {w W : World} {ws : List Int} {a ro : Nat} {B : List Bool} (h : RI w ws a ro B W) (hro : w.heap.size ≤ ro) {v : Nat} (hv : v < ws.length) (hr : Rch ws a v) : RI w ws a ro (B.set v true) (W.setCell ⟨ro, v, none⟩ (.bool true)) := by
  refine ⟨by simpa using h.len, ?_, fun j hj => ?_, h.bl.set _ _, kp_new h.kp ((Kp.refl [ro] _).setCell (.inl (by simp)) _) hro⟩
  · rw [getD_setT _ _ _ (by rw [h.len]; exact hv)]
    split
    · rfl
    · exact h.at_
  · rw [getD_setT _ _ _ (by rw [h.len]; exact hv)] at hj
    split at hj
    · rename_i e; subst e; exact hr
    · exact h.r j hj
theorem RI.iff {w W : World} {ws : List Int} {a ro : Nat} {B : List Bool} (h : RI w ws a ro B W) (hc : Cls ws B ws.length) (j : Nat) : B.getD j false = true ↔ Rch ws a j := by
  refine ⟨h.r j, fun hr => ?_⟩
  induction hr with
  | base _ => exact h.at_
  | step _ h1 h2 h3 ih =>
    refine hc _ ?_ ih _ h1 h2 h3
    rename_i i q _
    by_cases hl : i < ws.length
    · exact hl
    · exfalso
      rw [← h.len] at hl
      simp [List.getD, hl] at ih

set_option maxHeartbeats 4000000 in
theorem reached_yes (w : World) (b0 o cap N a : Nat) (ws : List Int) (hN : ws.length = N) (hN1 : 1 ≤ N) (hN2 : N ≤ 10000) (hW : Wd w b0 o cap ws) (hok : ∀ j, 0 ≤ ws.getD j 0 ∧ ws.getD j 0 < 33554432) (ha : lcl ws a = true) :
    Calls Try.prog 21 #[.slice (some ⟨b0, o, none⟩) N cap, .int .i64 a] w fun e w' => ∃ ro B, e = .returned (.slice (some ⟨ro, 0, none⟩) N N) ∧ Bl w' ro B ∧ B.length = N ∧ (∀ j, B.getD j false = true ↔ Rch ws a j) ∧ w.heap.size ≤ ro ∧ Kp [] w w' := by
  have hmk := make_bools N (by omega)
  have haN : a < N := by have := lcl_in ha; omega
  have HLA := Lib.hid (fun (w' : World) (k : Kp [] w w') => local_any w' b0 o cap N ws a hN (by omega) (hW.keep k (by simp)) hok true ha)
  have HOK := Lib.hid hok
  have HW := Lib.hid hW
  have HB0 : Hid (Bl (w.alloc (.cells (bls (List.replicate N false)) 4)) w.heap.size (List.replicate N false)) := Lib.hid (heap_alloc_new w _)
  have HK0 := Lib.hid ((Kp.refl [] w).alloc (.cells (bls (List.replicate N false)) 4))
  have HAL := Lib.hid ha
  clear hok hW ha
  go_enter Try.func21, Try.ntmps21
  go_wp2_with fail
  refine (HLA.out _ HK0.out).mono ?_
  rintro e w1 ⟨⟨k, c, o', r, s, g, m, rfl⟩, hk⟩
  have kb := (hk.alloc (.cells (hc7 k c g m o' r s) 40))
  have HB1 := Lib.hid (HB0.out.keep kb (by simp))
  have HK1 := Lib.hid (HK0.out.trans kb)
  clear hk kb HB0 HK0 HLA
  go_upto_region 3 with (fail)
  generalize w1.alloc (.cells (hc7 k c g m o' r s) 40) = w2 at *
  obtain ⟨ro, hro⟩ : ∃ ro, w.heap.size = ro := ⟨_, rfl⟩
  rw [hro] at HB1 ⊢
  have HRO := Lib.hid hro
  clear hro
  have cB := HB1.out.cell (i := a) (by simpa using haN)
  have fB := HB1.out.free a
  have R3 : Hid (RI w ws a ro ((List.replicate N false).set a true) (w2.setCell ⟨ro, a, none⟩ (.bool true))) := by
    refine Lib.hid ⟨by simp [hN], ?_, fun j hj => ?_, HB1.out.set _ _, kp_new HK1.out ((Kp.refl [ro] _).setCell (.inl (by simp)) _) (by rw [HRO.out]; exact Nat.le_refl _)⟩
    · rw [getD_setT _ _ _ (by simpa using haN), if_pos rfl]
    · rw [getD_setT _ _ _ (by simpa using haN)] at hj
      split at hj
      · rename_i e; subst e; exact .base HAL.out
      · simp [List.getD, List.getElem?_replicate] at hj
        split at hj <;> simp_all
  clear HB1 HK1
  go_upto_region 6 with (fail)
  generalize w2.setCell ⟨ro, a, none⟩ (.bool true) = w3 at *
  generalize (List.replicate N false).set a true = B0 at *
  clear cB fB hmk
  go_wp2_with fail
  go_loopg [8] (cntF B0 + 1) (fun gg v8 wr => ∃ (m : Bool) (B : List Bool), v8 = .bool m ∧ gg = (if m = true then cntF B + 1 else 0) ∧ Hid (RI w ws a ro B wr ∧ (m = false → Cls ws B N)))
  case atStart => exact ⟨true, B0, rfl, rfl, Lib.hid ⟨R3.out, fun h => by cases h⟩⟩
  case round =>
    obtain ⟨m, B, rfl, hg, HR⟩ := hrel
    cases m
    · have F : Hid (∃ B, Bl wr ro B ∧ B.length = N ∧ (∀ j, B.getD j false = true ↔ Rch ws a j) ∧ w.heap.size ≤ ro ∧ Kp [] w wr) :=
        Lib.hid ⟨B, HR.out.1.bl, HR.out.1.len.trans hN, HR.out.1.iff (by rw [hN]; exact HR.out.2 rfl), by rw [HRO.out]; exact Nat.le_refl _, HR.out.1.kp⟩
      clear HR R3
      go_wp2_with fail
      go_ret
      obtain ⟨B, F⟩ := F.out
      exact ⟨ro, B, rfl, F⟩
    · simp only [if_true] at hg
      have HG := Lib.hid hg
      have HI := Lib.hid HR.out.1
      clear HR R3 hg
      go_wp2_with fail
      go_loopg [8, 9] N (fun g2 v8 v9 wr => ∃ (i : Nat) (m2 : Bool) (B2 : List Bool), i + g2 = N ∧ v9 = .int .i64 i ∧ v8 = .bool m2 ∧ Hid (RI w ws a ro B2 wr ∧ (m2 = false → Cls ws B2 i) ∧ (m2 = true → cntF B2 < cntF B) ∧ cntF B2 ≤ cntF B))
      case atStart => exact ⟨0, false, B, by omega, rfl, rfl, Lib.hid ⟨HI.out, fun _ j hj => by omega, fun h => by (cases h), Nat.le_refl _⟩⟩
      case round =>
        obtain ⟨i, m2, B2, hi, rfl, rfl, HR⟩ := hrel
        by_cases hlt : i < N
        · have c2 := HR.out.1.bl.cell (i := i) (by rw [HR.out.1.len]; omega)
          obtain ⟨bi, hbi⟩ : ∃ bi, B2.getD i false = bi := ⟨_, rfl⟩
          rw [hbi] at c2
          cases bi
          · have F : Hid (RI w ws a ro B2 wr ∧ (m2 = false → Cls ws B2 (i + 1)) ∧ (m2 = true → cntF B2 < cntF B) ∧ cntF B2 ≤ cntF B) :=
              Lib.hid ⟨HR.out.1, fun h j hj hb => by
                by_cases hj2 : j = i
                · subst hj2; rw [hbi] at hb; cases hb
                · exact HR.out.2.1 h j (by omega) hb, HR.out.2.2⟩
            clear HR hbi
            go_wp2_with fail
            go_roundg (N - (i + 1))
            exact ⟨i + 1, m2, B2, by omega, rfl, rfl, F⟩
            omega
          · obtain ⟨M, hM⟩ : ∃ M, (nref (ws.getD i 0)).toNat = M := ⟨_, rfl⟩
            have hM2 : M ≤ 127 := by have := nref_bounds (ws.getD i 0); omega
            have HRF := Lib.hid (refs_any wr b0 o cap N ws i hN (by omega) hlt (HW.out.keep HR.out.1.kp (by simp)) HOK.out M hM)
            have HRi := Lib.hid (HR.out.1.r i hbi)
            have HM := Lib.hid hM
            clear hbi hM
            go_wp2_with fail
            refine HRF.out.mono ?_
            rintro e w5 ⟨ao5, c5, rfl, hrw5, hk5⟩
            have H5 := Lib.hid (HR.out.1.on hk5)
            have RW := Lib.hid (hrw5.mono HR.out.1.kp.size)
            have HR2 := Lib.hid HR.out.2
            clear HRF hrw5 hk5 HR c2
            go_wp2_with fail
            go_loopg [8, 11] M (fun g3 v8 v11 wr => ∃ (q : Nat) (m3 : Bool) (B3 : List Bool), q + g3 = M ∧ v11 = .int .i64 q ∧ v8 = .bool m3 ∧ Hid (RI w ws a ro B3 wr ∧ (m3 = false → Cls ws B3 i ∧ Cl ws B3 i q) ∧ (m3 = true → cntF B3 < cntF B) ∧ cntF B3 ≤ cntF B ∧ Rw 30 1 w.heap.size wr (.slice ao5 M c5) M (u64l (refsP ws i M))))
            case atStart => exact ⟨0, m2, B2, by omega, rfl, rfl, Lib.hid ⟨H5.out, fun h => ⟨HR2.out.1 h, fun q hq => by omega⟩, HR2.out.2.1, HR2.out.2.2, RW.out⟩⟩
            case round =>
              obtain ⟨q, m3, B3, hq, rfl, rfl, HR⟩ := hrel
              by_cases hqM : q < M
              · obtain ⟨b6, c6, e6, g6, g7, hwd⟩ := Wd.of_rw HR.out.2.2.2.2 (by omega)
                clear g6 g7
                obtain ⟨rfl, rfl⟩ : ao5 = some ⟨b6, 0, none⟩ ∧ c5 = c6 := by cases e6; exact ⟨rfl, rfl⟩
                have cq := hwd.at_ q (by rw [refsP_len]; exact hqM)
                have hvq : (refsP ws i M).getD q 0 = refP ws i q := by simp [refsP, List.getD, hqM]
                rw [Nat.zero_add, hvq] at cq
                have hv0 : 0 ≤ refP ws i q ∧ refP ws i q < 33554432 := by
                  unfold refP
                  split
                  · exact HOK.out _
                  · omega
                obtain ⟨v, hv⟩ : ∃ v, refP ws i q = v := ⟨_, rfl⟩
                rw [hv] at cq hv0
                -- what the next round holds where nothing is put
                have HSAME : Hid (∀ wq, Kp [] wr wq → (v = 0 ∨ lcl ws v = false ∨ B3.getD v.toNat false = true) → RI w ws a ro B3 wq ∧ (m3 = false → Cls ws B3 i ∧ Cl ws B3 i (q + 1)) ∧ (m3 = true → cntF B3 < cntF B) ∧ cntF B3 ≤ cntF B ∧ Rw 30 1 w.heap.size wq (.slice (some ⟨b6, 0, none⟩) M c5) M (u64l (refsP ws i M))) := by
                  refine Lib.hid fun wq kq hor => ⟨HR.out.1.on kq, fun h => ⟨(HR.out.2.1 h).1, fun q' hq' h1 h2 => ?_⟩, HR.out.2.2.1, HR.out.2.2.2.1, HR.out.2.2.2.2.keep0 kq⟩
                  by_cases hqq : q' = q
                  · subst hqq
                    rw [hv] at h1 h2 ⊢
                    rcases hor with h | h | h
                    · exact absurd h h1
                    · rw [h] at h2; cases h2
                    · exact h
                  · exact (HR.out.2.1 h).2 q' (by omega) h1 h2
                have HV := Lib.hid hv
                have HRR := Lib.hid HR.out
                clear hwd hvq HR hv e6
                by_cases hz : v = 0
                · have F := Lib.hid (HSAME.out wr (Kp.refl _ _) (.inl hz))
                  subst hz
                  clear HSAME
                  go_wp2_with fail
                  go_roundg (M - (q + 1))
                  exact ⟨q + 1, m3, B3, by omega, rfl, rfl, F⟩
                  omega
                · have hzb : (v == 0) = false := by simp [hz]
                  have hwN : IntKind.u64.wrap (N : Int) = N := by rw [IntKind.wrap_u64, Int.emod_eq_of_lt (by omega) (by omega)]
                  by_cases hvN : (N : Int) ≤ v
                  · have F := Lib.hid (HSAME.out wr (Kp.refl _ _) (.inr (.inl (by rw [lcl, hN]; simp; omega))))
                    clear HSAME hz
                    go_wp2_with fail
                    go_roundg (M - (q + 1))
                    exact ⟨q + 1, m3, B3, by omega, rfl, rfl, F⟩
                    omega
                  · have hvN' : v < N := by omega
                    have hwv := IntWalk.i64_in v (by omega)
                    have HKr := Lib.hid HRR.out.1.kp
                    obtain ⟨lq, hlq⟩ : ∃ lq, lcl ws v = lq := ⟨_, rfl⟩
                    have HLC := Lib.hid (local_any wr b0 o cap N ws v hN (by omega) (HW.out.keep HRR.out.1.kp (by simp)) HOK.out lq hlq)
                    have HLQ := Lib.hid hlq
                    have HZ := Lib.hid hz
                    clear hlq hz hvN
                    cases lq
                    · go_wp2_with fail
                      refine HLC.out.mono ?_
                      rintro e w7 ⟨⟨k7, c7, o7, r7, s7, g7, m7, rfl⟩, hk7⟩
                      have F := Lib.hid (HSAME.out (w7.alloc (.cells (hc7 k7 c7 g7 m7 o7 r7 s7) 40)) (hk7.alloc _) (.inr (.inl HLQ.out)))
                      clear HSAME hk7 cq HRR HLC
                      go_wp2_with fail
                      go_roundg (M - (q + 1))
                      exact ⟨q + 1, m3, B3, by omega, rfl, rfl, F⟩
                      omega
                    · obtain ⟨bv, hbv⟩ : ∃ bv, B3.getD v.toNat false = bv := ⟨_, rfl⟩
                      have cbv := HRR.out.1.bl.cell (i := v.toNat) (by rw [HRR.out.1.len]; omega)
                      rw [hbv] at cbv
                      have HBV := Lib.hid hbv
                      clear hbv
                      cases bv
                      · go_wp2_with fail
                        refine HLC.out.mono ?_
                        rintro e w7 ⟨⟨k7, c7, o7, r7, s7, g7, m7, rfl⟩, hk7⟩
                        have ka := hk7.alloc (.cells (hc7 k7 c7 g7 m7 o7 r7 s7) 40)
                        have KA := Lib.hid ka
                        have h7 := HRR.out.1.on ka
                        have fb := h7.bl.free v.toNat
                        have cb := h7.bl.cell (i := v.toNat) (by rw [h7.len]; omega)
                        rw [HBV.out] at cb
                        have cq7 : (w7.alloc (.cells (hc7 k7 c7 g7 m7 o7 r7 s7) 40)).cell? ⟨b6, q, none⟩ = some (.int .u64 v) := by
                          rw [World.cell?_of_block (ka.block b6 (World.block_lt_of_cell? _ _ cq) (by simp))]
                          exact cq
                        have hvw : v.toNat < ws.length := by omega
                        have hrv : Rch ws a v.toNat := by
                          have := Rch.step (q := q) HRi.out (by rw [HM.out]; exact hqM) (by rw [HV.out]; exact HZ.out) (by rw [HV.out]; exact HLQ.out)
                          rw [HV.out] at this
                          exact this
                        have F : Hid (RI w ws a ro (B3.set v.toNat true) ((w7.alloc (.cells (hc7 k7 c7 g7 m7 o7 r7 s7) 40)).setCell ⟨ro, v.toNat, none⟩ (.bool true)) ∧ cntF (B3.set v.toNat true) < cntF B ∧ Rw 30 1 w.heap.size ((w7.alloc (.cells (hc7 k7 c7 g7 m7 o7 r7 s7) 40)).setCell ⟨ro, v.toNat, none⟩ (.bool true)) (.slice (some ⟨b6, 0, none⟩) M c5) M (u64l (refsP ws i M))) := by
                          have hcs := cntF_set B3 v.toNat (by rw [h7.len]; exact hvw) HBV.out
                          refine Lib.hid ⟨h7.put (by rw [HRO.out]; exact Nat.le_refl _) hvw hrv, by have := HRR.out.2.2.2.1; omega, (HRR.out.2.2.2.2.keep0 ka).keep ((Kp.refl [ro] _).setCell (.inl (by simp)) _) (fun b hb hb' => ?_)⟩
                          simp only [List.mem_singleton] at hb'
                          exact (HRR.out.2.2.2.2.keep0 ka).nin h7.bl (by decide) (hb' ▸ hb)
                        clear HSAME hk7 ka h7 hrv cq cbv HRR HLC hvw
                        go_wp2_with fail
                        go_roundg (M - (q + 1))
                        exact ⟨q + 1, true, _, by omega, rfl, rfl, Lib.hid ⟨F.out.1, (fun h => by cases h), (fun _ => F.out.2.1), Nat.le_of_lt F.out.2.1, F.out.2.2⟩⟩
                        omega
                      · go_wp2_with fail
                        refine HLC.out.mono ?_
                        rintro e w7 ⟨⟨k7, c7, o7, r7, s7, g7, m7, rfl⟩, hk7⟩
                        have ka := hk7.alloc (.cells (hc7 k7 c7 g7 m7 o7 r7 s7) 40)
                        have h7 := HRR.out.1.on ka
                        have cb := h7.bl.cell (i := v.toNat) (by rw [h7.len]; omega)
                        rw [HBV.out] at cb
                        have cq7 : (w7.alloc (.cells (hc7 k7 c7 g7 m7 o7 r7 s7) 40)).cell? ⟨b6, q, none⟩ = some (.int .u64 v) := by
                          rw [World.cell?_of_block (ka.block b6 (World.block_lt_of_cell? _ _ cq) (by simp))]
                          exact cq
                        have F := Lib.hid (HSAME.out (w7.alloc (.cells (hc7 k7 c7 g7 m7 o7 r7 s7) 40)) ka (.inr (.inr HBV.out)))
                        clear HSAME hk7 ka h7 cq cbv HRR HLC
                        go_wp2_with fail
                        go_roundg (M - (q + 1))
                        exact ⟨q + 1, m3, B3, by omega, rfl, rfl, F⟩
                        omega
              · obtain rfl : q = M := by omega
                have F : Hid (RI w ws a ro B3 wr ∧ (m3 = false → Cls ws B3 (i + 1)) ∧ (m3 = true → cntF B3 < cntF B) ∧ cntF B3 ≤ cntF B) :=
                  Lib.hid ⟨HR.out.1, fun h j hj hb => by
                    by_cases hj2 : j = i
                    · subst hj2; rw [HM.out]; exact (HR.out.2.1 h).2
                    · exact (HR.out.2.1 h).1 j (by omega) hb, HR.out.2.2.1, HR.out.2.2.2.1⟩
                clear HR
                go_wp2_with fail
                go_roundg (N - (i + 1))
                exact ⟨i + 1, m3, B3, by omega, rfl, rfl, F⟩
                omega
        · obtain rfl : i = N := by omega
          have F : Hid (RI w ws a ro B2 wr ∧ (m2 = false → Cls ws B2 i)) := Lib.hid ⟨HR.out.1, HR.out.2.1⟩
          have HC := Lib.hid HR.out.2.2
          clear HR
          go_wp2_with fail
          go_roundg (if m2 = true then cntF B2 + 1 else 0)
          exact ⟨m2, B2, rfl, rfl, F⟩
          rw [HG.out]
          split
          · have := HC.out.1 ‹_›; omega
          · omega

end Go.Proofs.Ytdnlddjgjceogaa
