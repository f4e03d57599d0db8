/- The document's own stack (demesneref08): Push where there is room; Push. Conditions: as each theorem states them. -/
import Derived.Test.YthckpljkdfkcnaaSkR
namespace Go.Proofs.Ythckpljkdfkcnaa
set_option linter.unusedVariables false
set_option linter.unusedSimpArgs false
open Go.RowKit

set_option maxHeartbeats 4000000 in
theorem rpush_room (w : World) (N : Nat) (u : Value) (L : List Int) (x : Int) (o : Bool) (h : Rd w u L) (hl : L.length ≤ 100) (hN : L.length < N) (hN2 : N ≤ 100) :
    Calls Try.prog 11 #[.agg #[.int .i64 N, u, .bool o], .int .i64 x] w fun e w' => ∃ u', e = .returned (.tuple #[.agg #[.int .i64 N, u', .bool o], .bool true]) ∧ Rd w' u' (L ++ [x]) ∧ Kp [] w w' := by
  obtain ⟨ao, cap, hu, _⟩ := h.form
  obtain ⟨n, hn⟩ : ∃ n, n = L.length := ⟨_, rfl⟩
  have HN := Lib.hid hn
  rw [← hn] at hu hl hN
  subst hu
  have HR := Lib.hid h
  have k1 : Kp [] w (w.alloc (.cells #[.int .i64 N, .slice ao n cap, .bool o] 30)) := (Kp.refl _ _).alloc _
  have k2 := k1.alloc (.cells #[.int .i64 0, .slice none 0 0, .bool false] 30)
  have hz := heap_alloc_new (w.alloc (Obj.cells #[.int .i64 N, .slice ao n cap, .bool o] 30)) (Obj.cells #[.int .i64 0, .slice none 0 0, .bool false] 30)
  rw [World.size_alloc] at hz
  have B := Lib.hid (bx_mk (w0 := w) (heap_alloc2_old w (.cells #[.int .i64 N, .slice ao n cap, .bool o] 30) (.cells #[.int .i64 0, .slice none 0 0, .bool false] 30)) ⟨_, hz, rfl⟩ k2)
  clear h hn k1 k2 hz
  go_enter Try.func11, Try.ntmps11
  go_wp2_with fail
  go_region_held3 (fun w' => w'.cell? ⟨w.heap.size, 0, none⟩ = some (.int .i64 N) ∧ w'.cell? ⟨w.heap.size, 1, none⟩ = some (.slice ao n cap) ∧ w'.cell? ⟨w.heap.size, 2, none⟩ = some (.bool o) ∧
      w'.heap[w.heap.size]? = some (.cells #[.int .i64 N, .slice ao n cap, .bool o] 30 (0, 0)) ∧
      (∃ cs, w'.heap[w.heap.size + 1]? = some (.cells cs 30 (0, 0)) ∧ cs.size = 3) ∧ Kp [] w w')
    (first
      | exact bx_drew B.out
      | exact bx_alloc ‹Bx w N (.slice ao n cap) o _› _
      | exact bx_on ‹Bx w N (.slice ao n cap) o _› hk
      | exact bx_to ‹Bx w N (.slice ao n cap) o _› hky hk
      | exact bx_set3 ‹Bx w N (.slice ao n cap) o _› _ _ _)
    (first
      | (refine step_append_cp (w0 := w) rfl (.const (.slice none 0 0)) (.tmp 20) rfl (.slice ao n cap) L n HN.out rfl rfl (HR.out.keep0 (bx_kp ‹Bx w N (.slice ao n cap) o _›)) (by omega) (bx_kp ‹Bx w N (.slice ao n cap) o _›) ?_
         intro ao4 cap4 w4 hown4 hk
         have H4 := Lib.hid hown4
         clear hown4)
      | (refine step_append_snoc (w0 := w) rfl (.tmp 21) (.tmp 23) rfl ao4 cap4 n L x _ rfl rfl (H4.out.alloc _) (by omega) (bx_kp ‹Bx w N (.slice ao n cap) o _›) (news_one _ x _ _ rfl) ?_
         intro g7 cap7 w7 hr7 hky hk
         have H7 := Lib.hid hr7
         have HB7 := Lib.hid (bx_to ‹Bx w N (.slice ao n cap) o _› hky hk)
         obtain ⟨v0, v1, v2, e0, e1, e2, f0, f1, f2⟩ := bx_cells HB7.out
         clear hr7)
      | (have hnw := news_kp (H := w.heap.size + 2) (by simp) hk.drew_l
         refine step_append_snoc (w0 := w) (w := w4) rfl (.tmp 21) (.tmp 23) rfl ao4 cap4 n L x ⟨w.heap.size + 2, 0, none⟩ rfl rfl H4.out (by omega) (bx_kp ‹Bx w N (.slice ao n cap) o w4›) hnw ?_
         intro g7 cap7 w7 hr7 hky hk
         have H7 := Lib.hid hr7
         have HB7 := Lib.hid (bx_to ‹Bx w N (.slice ao n cap) o _› hky hk)
         obtain ⟨v0, v1, v2, e0, e1, e2, f0, f1, f2⟩ := bx_cells HB7.out
         clear hr7))
  all_goals go_wp2_with fail
  all_goals exact bodyPost_row_tmp rfl (w.heap.size + 1) 30 #[.int .i64 N, .slice (some ⟨g7, 0, none⟩) (n + 1) cap7, .bool o] (0, 0) _ (.bool true) rfl rfl rfl (bx_fin HB7.out _ _ _) Try.underlying30 rfl (by kernel_rfl) ⟨_, rfl, bx_rd HB7.out H7.out _ _ _, bx_kp (bx_set3 HB7.out _ _ _)⟩

end Go.Proofs.Ythckpljkdfkcnaa
