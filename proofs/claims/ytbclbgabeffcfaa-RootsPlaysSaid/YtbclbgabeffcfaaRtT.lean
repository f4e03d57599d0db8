/- The document's own roots (demesneref09): Push whatever it is; Pop. Conditions: as each theorem states them. -/
import Derived.Test.YtbclbgabeffcfaaRtS
import Derived.IntWalk
import Derived.Deep.CutRange
import Derived.Deep.CutBlock
import Derived.Deep.DeepCutAuto
namespace Go.Proofs.Ytbclbgabeffcfaa
set_option linter.unusedVariables false
set_option linter.unusedSimpArgs false
open Go.RowKit

theorem rpush_any (w : World) (u v : Value) (A L : List Int) (k : Int) (hA : Rd w u A) (hL : Rd w v L) (h8 : A.length ≤ 8) (h16 : L.length ≤ 16) :
    Calls Try.prog 10 #[.agg #[u, v], .int .i64 k] w (RAnsE w A (pushL A L k) (pushE A L k)) := by
  by_cases hb : badS A k = true
  · rw [show pushE A L k = 2 from if_pos hb, show pushL A L k = L from if_pos hb]
    exact rpush_bad w u v A L k hA hL h8 (badS_or hb)
  · rw [pushE, pushL, if_neg hb, if_neg hb]
    obtain ⟨j, rfl, hj⟩ := badS_no (by simpa using hb)
    by_cases hl : L.length = 16
    · rw [if_pos hl, if_pos hl]
      exact rpush_full w u v A L j hA hL h8 hj hl
    · rw [if_neg hl, if_neg hl]
      exact rpush_ok w u v A L j hA hL h8 hj (by omega)

theorem rpop_bad (w : World) (u v : Value) (A L : List Int) (k : Int) (hA : Rd w u A) (hL : Rd w v L) (h8 : A.length ≤ 8) (hk : k < 0 ∨ (A.length : Int) ≤ k) :
    Calls Try.prog 12 #[.agg #[u, v], .int .i64 k] w (RAnsE w A L 2) := by
  obtain ⟨ao, cap, hu, -⟩ := hA.form
  obtain ⟨lo, lcap, hv, -⟩ := hL.form
  have HS := Lib.hid (same_box w u v)
  have HA := Lib.hid (And.intro hA hL)
  generalize A.length = n at hu h8 hk
  generalize L.length = m at hv
  subst hu hv
  clear hA hL
  by_cases k0 : k < 0
  · clear hk
    go_enter Try.func12, Try.ntmps12
    go_wp2_with fail
    exact bodyPost_row_tmp rfl (w.heap.size + 1) 30 _ (0, 0) _ (.int .i64 2) rfl rfl rfl HS.out.1 Try.underlying30 rfl (by kernel_rfl) ⟨_, _, rfl, HA.out.1.keep0 HS.out.2, HA.out.2.keep0 HS.out.2, HS.out.2⟩
  · have k1 : (n : Int) ≤ k := by omega
    clear hk
    go_enter Try.func12, Try.ntmps12
    go_wp2_with fail
    exact bodyPost_row_tmp rfl (w.heap.size + 1) 30 _ (0, 0) _ (.int .i64 2) rfl rfl rfl HS.out.1 Try.underlying30 rfl (by kernel_rfl) ⟨_, _, rfl, HA.out.1.keep0 HS.out.2, HA.out.2.keep0 HS.out.2, HS.out.2⟩
theorem rpop_none (w : World) (u v : Value) (A : List Int) (k : Nat) (hA : Rd w u A) (hL : Rd w v []) (h8 : A.length ≤ 8) (hk : k < A.length) :
    Calls Try.prog 12 #[.agg #[u, v], .int .i64 k] w (RAnsE w A [] 5) := by
  obtain ⟨ao, cap, hu, -⟩ := hA.form
  obtain ⟨lo, lcap, hv, -⟩ := hL.form
  have HS := Lib.hid (same_box w u v)
  have HA := Lib.hid (And.intro hA hL)
  generalize A.length = n at hu h8 hk
  rw [List.length_nil] at hv
  subst hu hv
  clear hA hL
  go_enter Try.func12, Try.ntmps12
  go_wp2_with fail
  exact bodyPost_row_tmp rfl (w.heap.size + 1) 30 _ (0, 0) _ (.int .i64 5) rfl rfl rfl HS.out.1 Try.underlying30 rfl (by kernel_rfl) ⟨_, _, rfl, HA.out.1.keep0 HS.out.2, HA.out.2.keep0 HS.out.2, HS.out.2⟩

/-- A box of the call's own is turned. -/
theorem bx_keep {w0 w w' : World} {u v : Value} {S : List Nat} (h : Bx w0 u v w) (k : Kp S w w') (hS : ∀ y ∈ S, w0.heap.size + 2 ≤ y) : Bx w0 u v w' := by
  obtain ⟨_, _, h1, ⟨cs, h2, h3⟩, h4⟩ := h
  exact bx_mk (k.row (fun e => by have := hS _ e; omega) h1) ⟨cs, k.row (fun e => by have := hS _ e; omega) h2, h3⟩ (((h4.mono (by simp)).trans k).mono fun y hy hlt => by have := hS y hy; omega)

theorem by_set_y {w0 w : World} {u v : Value} {g j : Nat} {x : Int} (h : By w0 u v g j x w) {y : Nat} (hy : w0.heap.size + 2 ≤ y) (a b : Value) : By w0 u v g j x ((w.setCell ⟨y, 0, none⟩ a).setCell ⟨y, 1, none⟩ b) :=
  by_of (bx_keep (by_bx h) (((Kp.refl [y] w).setCell (p := ⟨y, 0, none⟩) (.inl (by simp)) a).setCell (p := ⟨y, 1, none⟩) (.inl (by simp)) b) (by simpa using hy)) (by_old h)
/-- What is known once the next one lies in a box of its own. -/
structure PM (w0 : World) (u v : Value) (y : Nat) (u6 : Value) (A : List Int) (w' : World) : Prop where
  bx : Bx w0 u v w'
  hy : w'.heap[y]? = some (.cells #[u6, v] 30 (0, 0))
  rd : Rd w' u6 A
  ge : w0.heap.size + 2 ≤ y
section
variable {w0 w w6 : World} {u v u6 : Value} {A : List Int}
theorem PM.make1 (h : Bx w0 u v w6) (hr : Rd w6 u6 A) (hge : w0.heap.size + 2 ≤ w6.heap.size) : PM w0 u v w6.heap.size u6 A (w6.alloc (.cells #[u6, v] 30)) :=
  ⟨bx_alloc h _, heap_alloc_new _ _, hr.keep0 ((Kp.refl _ _).alloc _), hge⟩
theorem PM.make2 {y : Nat} (h : Bx w0 u v w6) (hr : Rd w6 u6 A) (hy : w6.heap[y]? = some (.cells #[.slice none 0 0, .slice none 0 0] 30 (0, 0))) (hge : w0.heap.size + 2 ≤ y) :
    PM w0 u v y u6 A ((w6.setCell ⟨y, 0, none⟩ u6).setCell ⟨y, 1, none⟩ v) := by
  have k3 : Kp [y] w6 ((w6.setCell ⟨y, 0, none⟩ u6).setCell ⟨y, 1, none⟩ v) := ((Kp.refl _ _).setCell (.inl (by simp)) _).setCell (.inl (by simp)) _
  refine ⟨bx_keep h k3 (by simpa using hge), ?_, hr.keep k3 fun g hg => by
    have := hr.nin hy (by decide) g hg
    simpa using this, hge⟩
  rw [heap_setCell_same _ _ _ _ _ _ (heap_setCell_same _ _ _ _ _ _ hy)]
  simp
theorem PM.drew {y : Nat} (h : PM w0 u v y u6 A w) : PM w0 u v y u6 A w.drew := ⟨bx_drew h.bx, h.hy, h.rd.keep0 (Kp.refl _ _).drew, h.ge⟩
end

set_option maxHeartbeats 4000000 in
theorem rpop_ok (w : World) (u v : Value) (A L : List Int) (x : Int) (k : Nat) (hA : Rd w u A) (hL : Rd w v (L ++ [x])) (h8 : A.length ≤ 8) (hk : k < A.length) (h16 : L.length ≤ 16) :
    Calls Try.prog 12 #[.agg #[u, v], .int .i64 k] w (RAnsE w (A.set k x) L 0) := by
  obtain ⟨uo, cap, hu, -⟩ := hA.form
  obtain ⟨gv, ov, lcap, hv, hcap, hcv, hL'⟩ := hL.last
  have HA := Lib.hid (And.intro hA (And.intro hL hL'))
  have HK := Lib.hid hk
  have H8 := Lib.hid h8
  have B := Lib.hid (by_of (bx_start w u v) hcv)
  generalize A.length = na at hu h8 hk
  generalize L.length = m at hv hcap hcv B HA h16
  subst hu hv
  clear hA hL hL' hcv
  have d1 : decide ((k : Int) < 0) = false := by simp
  have d2 : decide (na ≤ k) = false := by simp; omega
  have d3 : ((m : Int) + 1 == 0) = false := by simp; omega
  go_enter Try.func12, Try.ntmps12
  go_upto_region 6 with (fail)
  go_cut [7] from 24 to 32 (fun v7 w' => ∃ (y : Nat) (u6 : Value), v7 = .pointer (some ⟨y, 0, none⟩) ∧ Hid (PM w (.slice uo na cap) (.slice (some ⟨gv, ov, none⟩) (m + 1) lcap) y u6 (A.set k x) w'))
  case first =>
    have hw1 := IntWalk.i64_in ((m : Int) + 1 - 1) (by omega)
    have hw2 := IntWalk.i64_in (m : Int) (by omega)
    have hb0 : (0 : Int) ≤ (m : Int) := by omega
    have hb1 : (m : Int) < (m : Int) + 1 := by omega
    have hb2 : (m : Int) + 1 - 1 < (m : Int) + 1 := by omega
    have hb3 : (0 : Int) ≤ (m : Int) + 1 - 1 := by omega
    have hb4 : ((m : Int) + 1 - 1).toNat = m := by omega
    go_region_held3 (fun w' => w'.cell? ⟨w.heap.size, 0, none⟩ = some (.slice uo na cap) ∧ w'.cell? ⟨w.heap.size, 1, none⟩ = some (.slice (some ⟨gv, ov, none⟩) (m + 1) lcap) ∧ w'.cell? ⟨gv, ov + m, none⟩ = some (.int .i64 x) ∧
        w'.heap[w.heap.size]? = some (.cells #[.slice uo na cap, .slice (some ⟨gv, ov, none⟩) (m + 1) lcap] 30 (0, 0)) ∧
        (∃ cs, w'.heap[w.heap.size + 1]? = some (.cells cs 30 (0, 0)) ∧ cs.size = 2) ∧ w.cell? ⟨gv, ov + m, none⟩ = some (.int .i64 x) ∧ Kp [] w w')
      (first
        | exact by_drew B.out
        | exact by_alloc ‹By w (.slice uo na cap) (.slice (some ⟨gv, ov, none⟩) (m + 1) lcap) gv (ov + m) x _› _
        | exact by_on ‹By w (.slice uo na cap) (.slice (some ⟨gv, ov, none⟩) (m + 1) lcap) gv (ov + m) x _› hk
        | exact B6.out
        | exact by_alloc B6.out _
        | exact by_set_y B6.out (by simp) _ _)
      (first
        | (go_at_call 22
           refine (rwith_any _ _ _ A (L ++ [x]) k x (HA.out.1.keep0 (by_kp ‹By w (.slice uo na cap) (.slice (some ⟨gv, ov, none⟩) (m + 1) lcap) gv (ov + m) x _›)) (HA.out.2.1.keep0 (by_kp ‹By w (.slice uo na cap) (.slice (some ⟨gv, ov, none⟩) (m + 1) lcap) gv (ov + m) x _›)) HK.out H8.out).mono ?_
           rintro e w6 ⟨u6, rfl, r6, hk⟩
           have B6 := Lib.hid (by_on ‹By w (.slice uo na cap) (.slice (some ⟨gv, ov, none⟩) (m + 1) lcap) gv (ov + m) x _› hk)
           have R6 := Lib.hid r6
           obtain ⟨ao6, c6, hu6, -⟩ := r6.form
           obtain ⟨n6, hn6⟩ : ∃ n6, n6 = (A.set k x).length := ⟨_, rfl⟩
           rw [← hn6] at hu6
           clear hn6
           subst hu6
           have hy0 := hk.drew_l.row (by simp) (heap_alloc_new _ _)
           have hy : w6.heap[w.heap.size + 1 + 1]? = some (.cells #[.slice none 0 0, .slice none 0 0] 30 (0, 0)) := by
             rw [World.size_alloc, World.size_alloc] at hy0
             exact hy0
           have e0 : w6.cell? ⟨w.heap.size + 1 + 1, 0, none⟩ = some (.slice none 0 0) := cell_of_row hy 0
           have e1 : w6.cell? ⟨w.heap.size + 1 + 1, 1, none⟩ = some (.slice none 0 0) := cell_of_row hy 1
           have f0 := free_of_row hy 0
           have f1 := free_of_row hy 1
           clear r6 hy0)
        | (go_at_call 22
           refine (rwith_any _ _ _ A (L ++ [x]) k x (HA.out.1.keep0 (by_kp ‹By w (.slice uo na cap) (.slice (some ⟨gv, ov, none⟩) (m + 1) lcap) gv (ov + m) x _›)) (HA.out.2.1.keep0 (by_kp ‹By w (.slice uo na cap) (.slice (some ⟨gv, ov, none⟩) (m + 1) lcap) gv (ov + m) x _›)) HK.out H8.out).mono ?_
           rintro e w6 ⟨u6, rfl, r6, hk⟩
           have B6 := Lib.hid (by_on ‹By w (.slice uo na cap) (.slice (some ⟨gv, ov, none⟩) (m + 1) lcap) gv (ov + m) x _› hk)
           have R6 := Lib.hid r6
           obtain ⟨ao6, c6, hu6, -⟩ := r6.form
           obtain ⟨n6, hn6⟩ : ∃ n6, n6 = (A.set k x).length := ⟨_, rfl⟩
           rw [← hn6] at hu6
           clear hn6
           subst hu6
           clear r6))
    all_goals go_wp2_with fail
    all_goals go_meet
    · exact ⟨_, _, rfl, Lib.hid (PM.make1 (by_bx B6.out) R6.out (by have := hk.size; simp at this; omega))⟩
    · exact ⟨_, _, rfl, Lib.hid (PM.make2 (by_bx B6.out) R6.out hy (by omega))⟩
  case rest =>
    obtain ⟨y, u6, rfl, HM⟩ := hcut
    have k7 : Kp [y] wc (wc.setCell ⟨y, 1, none⟩ (.slice (some ⟨gv, ov, none⟩) m lcap)) := (Kp.refl _ _).setCell (.inl (by simp)) _
    have hb7 := bx_keep HM.out.bx k7 (by simpa using HM.out.ge)
    have HB7 := Lib.hid hb7
    have cb := HM.out.bx.2.1
    have hy7 : (wc.setCell ⟨y, 1, none⟩ (.slice (some ⟨gv, ov, none⟩) m lcap)).heap[y]? = some (.cells #[u6, .slice (some ⟨gv, ov, none⟩) m lcap] 30 (0, 0)) := by
      rw [heap_setCell_same _ _ _ _ _ _ HM.out.hy]; simp
    have cy1 : wc.cell? ⟨y, 1, none⟩ = some (.slice (some ⟨gv, ov, none⟩) (m + 1) lcap) := cell_of_row HM.out.hy 1
    have fy1 := free_of_row HM.out.hy 1
    have HR7 := Lib.hid (And.intro (HM.out.rd.keep k7 fun g hg => by
      have := HM.out.rd.nin HM.out.hy (by decide) g hg
      simpa using this) (HA.out.2.2.keep0 (bx_kp hb7)))
    have cy0' : (wc.setCell ⟨y, 1, none⟩ (.slice (some ⟨gv, ov, none⟩) m lcap)).cell? ⟨y, 0, none⟩ = some u6 := cell_of_row hy7 0
    have cy1' : (wc.setCell ⟨y, 1, none⟩ (.slice (some ⟨gv, ov, none⟩) m lcap)).cell? ⟨y, 1, none⟩ = some (.slice (some ⟨gv, ov, none⟩) m lcap) := cell_of_row hy7 1
    obtain ⟨z0, z1, e0, e1, f0, f1⟩ := bx_cells hb7
    obtain ⟨ao6, c6, hu6, -⟩ := HM.out.rd.form
    generalize (A.set k x).length = n6 at hu6
    subst hu6
    clear HM hb7 k7 hy7
    go_wp2_with fail
    exact bodyPost_row_tmp rfl (w.heap.size + 1) 30 #[.slice ao6 n6 c6, .slice (some ⟨gv, ov, none⟩) m lcap] (0, 0) _ (.int .i64 0) rfl rfl rfl (bx_fin HB7.out _ _) Try.underlying30 rfl (by kernel_rfl) ⟨_, _, rfl, bx_rd HB7.out HR7.out.1 _ _, bx_rd HB7.out HR7.out.2 _ _, bx_kp (bx_set2 HB7.out _ _)⟩

theorem rpop_any (w : World) (u v : Value) (A L : List Int) (k : Int) (hA : Rd w u A) (hL : Rd w v L) (h8 : A.length ≤ 8) (h16 : L.length ≤ 16) :
    Calls Try.prog 12 #[.agg #[u, v], .int .i64 k] w (RAnsE w (popA A L k) (popL A L k) (popE A L k)) := by
  by_cases hb : badS A k = true
  · rw [popE, popA, popL, if_pos hb, if_pos hb, if_pos hb]
    exact rpop_bad w u v A L k hA hL h8 (badS_or hb)
  · rw [popE, popA, popL, if_neg hb, if_neg hb, if_neg hb]
    obtain ⟨j, rfl, hj⟩ := badS_no (by simpa using hb)
    rcases List.eq_nil_or_concat L with rfl | ⟨M, x, hM⟩
    · exact rpop_none w u v A j hA hL h8 hj
    · rw [List.concat_eq_append] at hM
      subst hM
      have hne : ¬ (M ++ [x] = []) := by simp
      rw [if_neg hne, if_neg hne, show (M ++ [x]).getLastD 0 = x from by simp, show (M ++ [x]).dropLast = M from by simp]
      exact rpop_ok w u v A M x j hA hL h8 hj (by simp at h16; omega)

end Go.Proofs.Ytbclbgabeffcfaa
