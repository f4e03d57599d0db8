/- The document's own roots (demesneref09): Push. Conditions: as each theorem states them. -/
import Derived.Test.YtbclbgabeffcfaaRtR
namespace Go.Proofs.Ytbclbgabeffcfaa
set_option linter.unusedVariables false
set_option linter.unusedSimpArgs false
open Go.RowKit

/-- As Bx, and a cell that is older. -/
def By (w0 : World) (u v : Value) (g j : Nat) (x : Int) (w' : World) : Prop :=
  w'.cell? ⟨w0.heap.size, 0, none⟩ = some u ∧ w'.cell? ⟨w0.heap.size, 1, none⟩ = some v ∧ w'.cell? ⟨g, j, none⟩ = some (.int .i64 x) ∧
    w'.heap[w0.heap.size]? = some (.cells #[u, v] 30 (0, 0)) ∧
    (∃ cs, w'.heap[w0.heap.size + 1]? = some (.cells cs 30 (0, 0)) ∧ cs.size = 2) ∧ w0.cell? ⟨g, j, none⟩ = some (.int .i64 x) ∧ Kp [] w0 w'
section
variable {w0 w w' : World} {u v : Value} {g j : Nat} {x : Int}
theorem by_bx (h : By w0 u v g j x w) : Bx w0 u v w := ⟨h.1, h.2.1, h.2.2.2.1, h.2.2.2.2.1, h.2.2.2.2.2.2⟩
theorem by_kp (h : By w0 u v g j x w) : Kp [] w0 w := h.2.2.2.2.2.2
theorem by_of (h : Bx w0 u v w) (c : w0.cell? ⟨g, j, none⟩ = some (.int .i64 x)) : By w0 u v g j x w := ⟨h.1, h.2.1, (bx_kp h).cell (by simp) c, h.2.2.1, h.2.2.2.1, c, h.2.2.2.2⟩
theorem by_old (h : By w0 u v g j x w) : w0.cell? ⟨g, j, none⟩ = some (.int .i64 x) := h.2.2.2.2.2.1
theorem by_drew (h : By w0 u v g j x w) : By w0 u v g j x w.drew := by_of (bx_drew (by_bx h)) (by_old h)
theorem by_alloc (h : By w0 u v g j x w) (o : Obj) : By w0 u v g j x (w.alloc o) := by_of (bx_alloc (by_bx h) o) (by_old h)
theorem by_on (h : By w0 u v g j x w) (k : Kp [] w w') : By w0 u v g j x w' := by_of (bx_on (by_bx h) k) (by_old h)
theorem by_to (h : By w0 u v g j x w) (k : Ky w w') (hk : Kp [] w0 w') : By w0 u v g j x w' := by_of (bx_to (by_bx h) k hk) (by_old h)
theorem by_set2 (h : By w0 u v g j x w) (a b : Value) : By w0 u v g j x ((w.setCell ⟨w0.heap.size + 1, 0, none⟩ a).setCell ⟨w0.heap.size + 1, 1, none⟩ b) := by_of (bx_set2 (by_bx h) a b) (by_old h)
end

theorem rpush_bad (w : World) (u v : Value) (A L : List Int) (k : Int) (hA : Rd w u A) (hL : Rd w v L) (h8 : A.length ≤ 8) (hk : k < 0 ∨ (A.length : Int) ≤ k) :
    Calls Try.prog 10 #[.agg #[u, v], .int .i64 k] w (RAnsE w A L 2) := by
  obtain ⟨ao, cap, hu, -⟩ := hA.form
  obtain ⟨lo, lcap, hv, -⟩ := hL.form
  have HS := Lib.hid (same_box w u v)
  have HA := Lib.hid (And.intro hA hL)
  generalize A.length = n at hu h8 hk
  generalize L.length = m at hv
  subst hu hv
  clear hA hL
  by_cases k0 : k < 0
  · clear hk
    go_enter Try.func10, Try.ntmps10
    go_wp2_with fail
    exact bodyPost_row_tmp rfl (w.heap.size + 1) 30 _ (0, 0) _ (.int .i64 2) rfl rfl rfl HS.out.1 Try.underlying30 rfl (by kernel_rfl) ⟨_, _, rfl, HA.out.1.keep0 HS.out.2, HA.out.2.keep0 HS.out.2, HS.out.2⟩
  · have k1 : (n : Int) ≤ k := by omega
    clear hk
    go_enter Try.func10, Try.ntmps10
    go_wp2_with fail
    exact bodyPost_row_tmp rfl (w.heap.size + 1) 30 _ (0, 0) _ (.int .i64 2) rfl rfl rfl HS.out.1 Try.underlying30 rfl (by kernel_rfl) ⟨_, _, rfl, HA.out.1.keep0 HS.out.2, HA.out.2.keep0 HS.out.2, HS.out.2⟩
theorem rpush_full (w : World) (u v : Value) (A L : List Int) (k : Nat) (hA : Rd w u A) (hL : Rd w v L) (h8 : A.length ≤ 8) (hk : k < A.length) (hl : L.length = 16) :
    Calls Try.prog 10 #[.agg #[u, v], .int .i64 k] w (RAnsE w A L 4) := by
  obtain ⟨ao, cap, hu, -⟩ := hA.form
  obtain ⟨lo, lcap, hv, -⟩ := hL.form
  have HS := Lib.hid (same_box w u v)
  have HA := Lib.hid (And.intro hA hL)
  generalize A.length = n at hu h8 hk
  rw [hl] at hv
  subst hu hv
  clear hA hL hl
  go_enter Try.func10, Try.ntmps10
  go_wp2_with fail
  exact bodyPost_row_tmp rfl (w.heap.size + 1) 30 _ (0, 0) _ (.int .i64 4) rfl rfl rfl HS.out.1 Try.underlying30 rfl (by kernel_rfl) ⟨_, _, rfl, HA.out.1.keep0 HS.out.2, HA.out.2.keep0 HS.out.2, HS.out.2⟩

set_option maxHeartbeats 4000000 in
theorem rpush_ok (w : World) (u v : Value) (A L : List Int) (k : Nat) (hA : Rd w u A) (hL : Rd w v L) (h8 : A.length ≤ 8) (hk : k < A.length) (hl : L.length < 16) :
    Calls Try.prog 10 #[.agg #[u, v], .int .i64 k] w (RAnsE w A (L ++ [A.getD k 0]) 0) := by
  obtain ⟨uo, cap, hu, -⟩ := hA.form
  obtain ⟨ao, lcap, hv, -⟩ := hL.form
  have hA' := hA
  rw [hu] at hA'
  obtain ⟨gu, ou, huo, hcu⟩ := hA'.cellAt hk
  subst huo
  clear hA'
  obtain ⟨n, hn⟩ : ∃ n, n = L.length := ⟨_, rfl⟩
  have HN := Lib.hid hn
  rw [← hn] at hv hl
  have HA := Lib.hid (And.intro hA hL)
  have B := Lib.hid (by_of (bx_start w u v) hcu)
  generalize A.length = na at hu h8 hk
  generalize A.getD k 0 = x at hcu B ⊢
  subst hu hv
  clear hn hA hL hcu
  go_enter Try.func10, Try.ntmps10
  go_wp2_with fail
  go_region_held3 (fun w' => w'.cell? ⟨w.heap.size, 0, none⟩ = some (.slice (some ⟨gu, ou, none⟩) na cap) ∧ w'.cell? ⟨w.heap.size, 1, none⟩ = some (.slice ao n lcap) ∧ w'.cell? ⟨gu, ou + k, none⟩ = some (.int .i64 x) ∧
      w'.heap[w.heap.size]? = some (.cells #[.slice (some ⟨gu, ou, none⟩) na cap, .slice ao n lcap] 30 (0, 0)) ∧
      (∃ cs, w'.heap[w.heap.size + 1]? = some (.cells cs 30 (0, 0)) ∧ cs.size = 2) ∧ w.cell? ⟨gu, ou + k, none⟩ = some (.int .i64 x) ∧ Kp [] w w')
    (first
      | exact by_drew B.out
      | exact by_alloc ‹By w (.slice (some ⟨gu, ou, none⟩) na cap) (.slice ao n lcap) gu (ou + k) x _› _
      | exact by_on ‹By w (.slice (some ⟨gu, ou, none⟩) na cap) (.slice ao n lcap) gu (ou + k) x _› hk
      | exact by_to ‹By w (.slice (some ⟨gu, ou, none⟩) na cap) (.slice ao n lcap) gu (ou + k) x _› hky hk
      | exact by_set2 ‹By w (.slice (some ⟨gu, ou, none⟩) na cap) (.slice ao n lcap) gu (ou + k) x _› _ _)
    (first
      | (refine step_append_cp (w0 := w) rfl (.const (.slice none 0 0)) (.tmp 24) rfl (.slice ao n lcap) L n HN.out rfl rfl (HA.out.2.keep0 (by_kp ‹By w (.slice (some ⟨gu, ou, none⟩) na cap) (.slice ao n lcap) gu (ou + k) x _›)) (by omega) (by_kp ‹By w (.slice (some ⟨gu, ou, none⟩) na cap) (.slice ao n lcap) gu (ou + k) x _›) ?_
         intro ao4 cap4 w4 hown4 hk
         have H4 := Lib.hid hown4
         clear hown4)
      | (refine step_append_snoc (w0 := w) rfl (.tmp 25) (.tmp 31) rfl (.slice ao4 n cap4) L n HN.out x _ rfl rfl (H4.out.keep0 ((Kp.refl _ _).alloc _)) (by omega) (by_kp ‹By w (.slice (some ⟨gu, ou, none⟩) na cap) (.slice ao n lcap) gu (ou + k) x _›) (news_one _ x _ _ rfl) ?_
         intro g7 cap7 w7 hr7 hky hk
         have H7 := Lib.hid hr7
         have HB7 := Lib.hid (by_to ‹By w (.slice (some ⟨gu, ou, none⟩) na cap) (.slice ao n lcap) gu (ou + k) x _› hky hk)
         obtain ⟨v0, v1, e0, e1, f0, f1⟩ := bx_cells (by_bx HB7.out)
         clear hr7)
      | (have hnw := news_kp (H := w.heap.size + 2) (by simp) hk.drew_l
         refine step_append_snoc (w0 := w) (w := w4) rfl (.tmp 25) (.tmp 31) rfl (.slice ao4 n cap4) L n HN.out x ⟨w.heap.size + 2, 0, none⟩ rfl rfl H4.out (by omega) (by_kp ‹By w (.slice (some ⟨gu, ou, none⟩) na cap) (.slice ao n lcap) gu (ou + k) x w4›) hnw ?_
         intro g7 cap7 w7 hr7 hky hk
         have H7 := Lib.hid hr7
         have HB7 := Lib.hid (by_to ‹By w (.slice (some ⟨gu, ou, none⟩) na cap) (.slice ao n lcap) gu (ou + k) x _› hky hk)
         obtain ⟨v0, v1, e0, e1, f0, f1⟩ := bx_cells (by_bx HB7.out)
         clear hr7))
  all_goals go_wp2_with fail
  all_goals exact bodyPost_row_tmp rfl (w.heap.size + 1) 30 #[.slice (some ⟨gu, ou, none⟩) na cap, .slice (some ⟨g7, 0, none⟩) (n + 1) cap7] (0, 0) _ (.int .i64 0) rfl rfl rfl (bx_fin (by_bx HB7.out) _ _) Try.underlying30 rfl (by kernel_rfl) ⟨_, _, rfl, bx_rd (by_bx HB7.out) (HA.out.1.keep0 (by_kp HB7.out)) _ _, bx_rd (by_bx HB7.out) H7.out.rd _ _, by_kp (by_set2 HB7.out _ _)⟩

end Go.Proofs.Ytbclbgabeffcfaa
