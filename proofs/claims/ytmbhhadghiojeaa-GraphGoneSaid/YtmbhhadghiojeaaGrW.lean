/- Layer 10's acts on a graph that lies somewhere: Move, Clear, Push, Pop, Slot, Alloc, New. Conditions: as each theorem states them. -/
import Derived.Test.YtmbhhadghiojeaaGrV
namespace Go.Proofs.Ytmbhhadghiojeaa
set_option linter.unusedVariables false
set_option linter.unusedSimpArgs false
open Go.RowKit


theorem on_push_no {w : World} {p : Nat} {s : Gs} {y : Ly} (hy : Gy w p s y) {t : Nat} (ht : t < s.nt) (k : Int) (h : pushE (s.A t) (s.L t) k ≠ 0) : OnNo w 51 (y.qs t) #[.int .i64 k] (pushE (s.A t) (s.L t) k) := fun w1 k1 => by
  have hR := (hy.keep0 k1).hq t ht
  by_cases hb : badS (s.A t) k = true
  · rw [show pushE (s.A t) (s.L t) k = 2 from if_pos hb]
    exact push_bad w1 _ _ _ hR k (badS_or hb)
  · obtain ⟨j, rfl, hj⟩ := badS_no (by simpa using hb)
    by_cases hl : (s.L t).length = 16
    · rw [pushE, if_neg hb, if_pos hl]
      exact push_full w1 _ _ _ hR j hj hl
    · rw [pushE, if_neg hb, if_neg hl] at h
      exact absurd rfl h
theorem on_push {w : World} {p : Nat} {s : Gs} {y : Ly} (hy : Gy w p s y) {t : Nat} (ht : t < s.nt) (k : Int) (h : pushE (s.A t) (s.L t) k = 0) : OnIs w 51 (y.qs t) #[.int .i64 k] 0 fun w' => Rt w' (y.qs t) (s.A t) (pushL (s.A t) (s.L t) k) := fun w1 k1 => by
  have := push_any w1 (y.qs t) _ _ ((hy.keep0 k1).hq t ht) k
  rw [h] at this
  exact this
theorem on_pop_no {w : World} {p : Nat} {s : Gs} {y : Ly} (hy : Gy w p s y) {t : Nat} (ht : t < s.nt) (k : Int) (h : popE (s.A t) (s.L t) k ≠ 0) : OnNo w 53 (y.qs t) #[.int .i64 k] (popE (s.A t) (s.L t) k) := fun w1 k1 => by
  have hR := (hy.keep0 k1).hq t ht
  by_cases hb : badS (s.A t) k = true
  · rw [show popE (s.A t) (s.L t) k = 2 from if_pos hb]
    exact pop_bad w1 _ _ _ hR k (badS_or hb)
  · obtain ⟨j, rfl, hj⟩ := badS_no (by simpa using hb)
    by_cases hl : s.L t = []
    · rw [popE, if_neg hb, if_pos hl]
      rw [hl] at hR
      exact pop_empty w1 _ _ hR j hj
    · rw [popE, if_neg hb, if_neg hl] at h
      exact absurd rfl h
theorem on_pop {w : World} {p : Nat} {s : Gs} {y : Ly} (hy : Gy w p s y) {t : Nat} (ht : t < s.nt) (k : Int) (h : popE (s.A t) (s.L t) k = 0) : OnIs w 53 (y.qs t) #[.int .i64 k] 0 fun w' => Rt w' (y.qs t) (popA (s.A t) (s.L t) k) (popL (s.A t) (s.L t) k) := fun w1 k1 => by
  have := pop_any w1 (y.qs t) _ _ ((hy.keep0 k1).hq t ht) k
  rw [h] at this
  exact this
theorem Grew.base {w W w5 : World} {B m r d : Nat} {f : Nat → Value} (h : Grew W B m r d f w5) (k : Kp [] w W) : Grew w B m r d f w5 := by
  obtain ⟨gi, gd, h1, h2, h3, h4, h5, h6⟩ := h
  exact ⟨gi, gd, Nat.le_trans k.size h1, Nat.le_trans k.size h2, h3, h4, h5, kp_then k h6⟩

theorem g_Move {F : Nat → Prop} {w : World} {p : Nat} {s : Gs} {M : Nat} (hx : Gx F w p s) (hw : Wf s M) (hM : M ≤ 10000) (t d k : Int) :
    Calls Try.prog 17 #[.pointer (some ⟨p, 0, none⟩), .int .i64 t, .int .i64 d, .int .i64 k] w (Ended F w p (.int .i64 (moveE s t d k)) (sta (moveE s t d k) (setS s t d (ofS s t k)) s)) := by
  obtain ⟨y, hy, hf⟩ := hx
  have err : ∀ x : Int, x ≠ 0 → moveE s t d k = x → Calls Try.prog 17 #[.pointer (some ⟨p, 0, none⟩), .int .i64 t, .int .i64 d, .int .i64 k] w (Fail w (.int .i64 x)) → Calls Try.prog 17 #[.pointer (some ⟨p, 0, none⟩), .int .i64 t, .int .i64 d, .int .i64 k] w (Ended F w p (.int .i64 (moveE s t d k)) (sta (moveE s t d k) (setS s t d (ofS s t k)) s)) := fun x hx0 hE hc => by
    rw [hE]
    rw [show sta x _ s = s from if_neg hx0]
    exact hc.mono fun _ _ h => ended_fail hy hf h
  cases hb : (bK s t d || bK s t k)
  · have hb2 := hb
    rw [Bool.or_eq_false_iff] at hb2
    obtain ⟨tn, dn, rfl, rfl, ht, hd⟩ := bK_no hb2.1
    obtain ⟨tn', kn, e1, rfl, _, hk⟩ := bK_no hb2.2
    obtain rfl : tn = tn' := by omega
    have bd : badS (s.A tn) (dn : Int) = false := by simpa [badS] using hd
    have bk : badS (s.A tn) (kn : Int) = false := by simpa [badS] using hk
    have hE : moveE s tn dn kn = 0 := if_neg (by simp [hb2.1, hb2.2])
    have hx0 := (hw.of ht hk).1
    rw [hE, show sta 0 _ s = _ from if_pos rfl]
    have B := bx_Move w (some ⟨p, 0, none⟩) (tn) (dn) (kn)
    have hql := qs_lt hy ht
    have hc := ac_move_ok _ (w.heap.size) (w.heap.size + 1) (w.heap.size + 1 + 1) (w.heap.size + 1 + 1 + 1) p (y.qs tn) tn dn kn ((s.A tn).getD kn 0) (cell_of_row B.1 0) (cell_of_row B.2.1 0) (cell_of_row B.2.2.1 0) (cell_of_row B.2.2.2.1 0) ((th_is hy hw ht (xs := [(dn : Int), (kn : Int)]) (by simp) (by simp [bd, bk])).on B.2.2.2.2.2) ((re_is hy ht hk).on B.2.2.2.2.2) _ ((on_set hy ht hd hx0).on B.2.2.2.2.2) ⟨by omega, by omega⟩
    refine (ok_Move w (some ⟨p, 0, none⟩) (tn) (dn) (kn) (fun w3 => Rt w3 (y.qs tn) ((s.A tn).set dn ((s.A tn).getD kn 0)) (s.L tn) ∧ Kp [y.qs tn] _ w3) hc ?_).mono ?_
    · rintro w3 ⟨hR, hk2⟩
      exact hk2.row (by simp; omega) B.2.2.2.2.1
    · rintro e w' ⟨rfl, w3, ⟨hR, hk2⟩, hk4⟩
      have := ended_root (r := .int .i64 0) hy hf ht (hR.keep hk4 (by simp; omega)) (kp_root B.2.2.2.2.2 hk2 hk4 (by simp <;> omega)) rfl
      rw [up_id] at this
      simpa [setS, ofS] using this
  · refine err 2 (by decide) (if_pos hb) ?_
    exact th_Move w (some ⟨p, 0, none⟩) t d k 2 (th_two hy hw hb)


theorem g_Clear {F : Nat → Prop} {w : World} {p : Nat} {s : Gs} {M : Nat} (hx : Gx F w p s) (hw : Wf s M) (hM : M ≤ 10000) (t d : Int) :
    Calls Try.prog 18 #[.pointer (some ⟨p, 0, none⟩), .int .i64 t, .int .i64 d] w (Ended F w p (.int .i64 (clearE s t d)) (sta (clearE s t d) (setS s t d 0) s)) := by
  obtain ⟨y, hy, hf⟩ := hx
  have err : ∀ x : Int, x ≠ 0 → clearE s t d = x → Calls Try.prog 18 #[.pointer (some ⟨p, 0, none⟩), .int .i64 t, .int .i64 d] w (Fail w (.int .i64 x)) → Calls Try.prog 18 #[.pointer (some ⟨p, 0, none⟩), .int .i64 t, .int .i64 d] w (Ended F w p (.int .i64 (clearE s t d)) (sta (clearE s t d) (setS s t d 0) s)) := fun x hx0 hE hc => by
    rw [hE]
    rw [show sta x _ s = s from if_neg hx0]
    exact hc.mono fun _ _ h => ended_fail hy hf h
  cases hb : bT s t
  · obtain ⟨tn, rfl, ht⟩ := bT_no hb
    cases hd : badS (s.A tn) d
    · obtain ⟨dn, rfl, hdn⟩ := badS_no hd
      have hE : clearE s tn dn = 0 := if_neg (by simp [bK, hb, hd])
      rw [hE, show sta 0 _ s = _ from if_pos rfl]
      have B := bx_Clear w (some ⟨p, 0, none⟩) (tn) (dn)
      have hql := qs_lt hy ht
      have hc := ac_clear_ok _ (w.heap.size) (w.heap.size + 1) (w.heap.size + 1 + 1) p (y.qs tn) tn dn (cell_of_row B.1 0) (cell_of_row B.2.1 0) (cell_of_row B.2.2.1 0) ((th_is hy hw ht (xs := []) (by simp) (by simp)).on B.2.2.2.2) _ ((on_set hy ht hdn (Int.le_refl 0)).on B.2.2.2.2) ⟨by omega, by omega, by omega⟩
      refine (ok_Clear w (some ⟨p, 0, none⟩) (tn) (dn) (fun w3 => Rt w3 (y.qs tn) ((s.A tn).set dn 0) (s.L tn) ∧ Kp [y.qs tn] _ w3) hc ?_).mono ?_
      · rintro w3 ⟨hR, hk2⟩
        exact hk2.row (by simp; omega) B.2.2.2.1
      · rintro e w' ⟨rfl, w3, ⟨hR, hk2⟩, hk4⟩
        have := ended_root (r := .int .i64 0) hy hf ht (hR.keep hk4 (by simp; omega)) (kp_root B.2.2.2.2 hk2 hk4 (by simp <;> omega)) rfl
        rw [up_id] at this
        simpa [setS] using this
    · refine err 2 (by decide) (if_pos (by simp [bK, hd])) ?_
      have B := bx_Clear w (some ⟨p, 0, none⟩) (tn) (d)
      exact no_Clear w (some ⟨p, 0, none⟩) (tn) (d) 2 [] (ac_clear_no _ (w.heap.size) (w.heap.size + 1) (w.heap.size + 1 + 1) p (y.qs tn) tn d 2 (cell_of_row B.1 0) (cell_of_row B.2.1 0) (cell_of_row B.2.2.1 0) ((th_is hy hw ht (xs := []) (by simp) (by simp)).on B.2.2.2.2) (by decide) fun w1 k1 => set_bad w1 (y.qs tn) _ _ ((hy.keep0 (B.2.2.2.2.trans k1)).hq tn ht) d 0 ((badS_or hd).elim .inl fun q => .inr (.inl q))) (by simp)
  · refine err 2 (by decide) (if_pos (by simp [bK, hb])) ?_
    exact th_Clear w (some ⟨p, 0, none⟩) t d 2 (th_bad hy hb [])


theorem push_stays {A L : List Int} {k : Int} (h : pushE A L k ≠ 0) : pushL A L k = L := by
  unfold pushE at h
  unfold pushL
  by_cases hb : badS A k = true
  · rw [if_pos hb]
  · rw [if_neg hb] at h ⊢
    by_cases hl : L.length = 16
    · rw [if_pos hl]
    · rw [if_neg hl] at h; exact absurd rfl h

theorem g_Push {F : Nat → Prop} {w : World} {p : Nat} {s : Gs} {M : Nat} (hx : Gx F w p s) (hw : Wf s M) (hM : M ≤ 10000) (t d : Int) :
    Calls Try.prog 19 #[.pointer (some ⟨p, 0, none⟩), .int .i64 t, .int .i64 d] w (Ended F w p (.int .i64 (gpushE s t d)) (gpushS s t d)) := by
  obtain ⟨y, hy, hf⟩ := hx
  cases hb : bT s t
  · obtain ⟨tn, rfl, ht⟩ := bT_no hb
    have eE : gpushE s tn d = pushE (s.A tn) (s.L tn) d := if_neg (by simp [hb])
    have eS : gpushS s tn d = { s with A := up s.A tn (s.A tn), L := up s.L tn (pushL (s.A tn) (s.L tn) d) } := if_neg (by simp [hb])
    rw [eE, eS]
    by_cases h0 : pushE (s.A tn) (s.L tn) d = 0
    · rw [h0]
      have B := bx_Push w (some ⟨p, 0, none⟩) (tn) (d)
      have hql := qs_lt hy ht
      have hc := ac_push_ok _ (w.heap.size) (w.heap.size + 1) (w.heap.size + 1 + 1) p (y.qs tn) tn d (cell_of_row B.1 0) (cell_of_row B.2.1 0) (cell_of_row B.2.2.1 0) ((th_is hy hw ht (xs := []) (by simp) (by simp)).on B.2.2.2.2) _ ((on_push hy ht d h0).on B.2.2.2.2) ⟨by omega, by omega, by omega⟩
      refine (ok_Push w (some ⟨p, 0, none⟩) (tn) (d) (fun w3 => Rt w3 (y.qs tn) ((s.A tn)) ((pushL (s.A tn) (s.L tn) d)) ∧ Kp [y.qs tn] _ w3) hc ?_).mono ?_
      · rintro w3 ⟨hR, hk2⟩
        exact hk2.row (by simp; omega) B.2.2.2.1
      · rintro e w' ⟨rfl, w3, ⟨hR, hk2⟩, hk4⟩
        have := ended_root (r := .int .i64 0) hy hf ht (hR.keep hk4 (by simp; omega)) (kp_root B.2.2.2.2 hk2 hk4 (by simp <;> omega)) rfl
        exact this
    · rw [show pushL (s.A tn) (s.L tn) d = s.L tn from push_stays h0, up_id, up_id]
      have B := bx_Push w (some ⟨p, 0, none⟩) (tn) (d)
      exact (no_Push w (some ⟨p, 0, none⟩) (tn) (d) (pushE (s.A tn) (s.L tn) d) [] (ac_push_no _ (w.heap.size) (w.heap.size + 1) (w.heap.size + 1 + 1) p (y.qs tn) tn d _ (cell_of_row B.1 0) (cell_of_row B.2.1 0) (cell_of_row B.2.2.1 0) ((th_is hy hw ht (xs := []) (by simp) (by simp)).on B.2.2.2.2) (by simpa using h0) ((on_push_no hy ht d h0).on B.2.2.2.2)) (by simp)).mono fun _ _ h => ended_fail hy hf h
  · rw [show gpushE s t d = 2 from if_pos hb, show gpushS s t d = s from if_pos hb]
    exact (th_Push w (some ⟨p, 0, none⟩) t d 2 (th_bad hy hb [])).mono fun _ _ h => ended_fail hy hf h

theorem pop_stays {A L : List Int} {k : Int} (h : popE A L k ≠ 0) : popA A L k = A ∧ popL A L k = L := by
  unfold popE at h
  unfold popA popL
  by_cases hb : badS A k = true
  · rw [if_pos hb, if_pos hb]; exact ⟨rfl, rfl⟩
  · rw [if_neg hb] at h
    rw [if_neg hb, if_neg hb]
    by_cases hl : L = []
    · rw [if_pos hl, hl]; exact ⟨rfl, rfl⟩
    · rw [if_neg hl] at h; exact absurd rfl h

theorem g_Pop {F : Nat → Prop} {w : World} {p : Nat} {s : Gs} {M : Nat} (hx : Gx F w p s) (hw : Wf s M) (hM : M ≤ 10000) (t d : Int) :
    Calls Try.prog 20 #[.pointer (some ⟨p, 0, none⟩), .int .i64 t, .int .i64 d] w (Ended F w p (.int .i64 (gpopE s t d)) (gpopS s t d)) := by
  obtain ⟨y, hy, hf⟩ := hx
  cases hb : bT s t
  · obtain ⟨tn, rfl, ht⟩ := bT_no hb
    have eE : gpopE s tn d = popE (s.A tn) (s.L tn) d := if_neg (by simp [hb])
    have eS : gpopS s tn d = { s with A := up s.A tn (popA (s.A tn) (s.L tn) d), L := up s.L tn (popL (s.A tn) (s.L tn) d) } := if_neg (by simp [hb])
    rw [eE, eS]
    by_cases h0 : popE (s.A tn) (s.L tn) d = 0
    · rw [h0]
      have B := bx_Pop w (some ⟨p, 0, none⟩) (tn) (d)
      have hql := qs_lt hy ht
      have hc := ac_pop_ok _ (w.heap.size) (w.heap.size + 1) (w.heap.size + 1 + 1) p (y.qs tn) tn d (cell_of_row B.1 0) (cell_of_row B.2.1 0) (cell_of_row B.2.2.1 0) ((th_is hy hw ht (xs := []) (by simp) (by simp)).on B.2.2.2.2) _ ((on_pop hy ht d h0).on B.2.2.2.2) ⟨by omega, by omega, by omega⟩
      refine (ok_Pop w (some ⟨p, 0, none⟩) (tn) (d) (fun w3 => Rt w3 (y.qs tn) ((popA (s.A tn) (s.L tn) d)) ((popL (s.A tn) (s.L tn) d)) ∧ Kp [y.qs tn] _ w3) hc ?_).mono ?_
      · rintro w3 ⟨hR, hk2⟩
        exact hk2.row (by simp; omega) B.2.2.2.1
      · rintro e w' ⟨rfl, w3, ⟨hR, hk2⟩, hk4⟩
        have := ended_root (r := .int .i64 0) hy hf ht (hR.keep hk4 (by simp; omega)) (kp_root B.2.2.2.2 hk2 hk4 (by simp <;> omega)) rfl
        exact this
    · rw [(pop_stays h0).1, (pop_stays h0).2, up_id, up_id]
      have B := bx_Pop w (some ⟨p, 0, none⟩) (tn) (d)
      exact (no_Pop w (some ⟨p, 0, none⟩) (tn) (d) (popE (s.A tn) (s.L tn) d) [] (ac_pop_no _ (w.heap.size) (w.heap.size + 1) (w.heap.size + 1 + 1) p (y.qs tn) tn d _ (cell_of_row B.1 0) (cell_of_row B.2.1 0) (cell_of_row B.2.2.1 0) ((th_is hy hw ht (xs := []) (by simp) (by simp)).on B.2.2.2.2) (by simpa using h0) ((on_pop_no hy ht d h0).on B.2.2.2.2)) (by simp)).mono fun _ _ h => ended_fail hy hf h
  · rw [show gpopE s t d = 2 from if_pos hb, show gpopS s t d = s from if_pos hb]
    exact (th_Pop w (some ⟨p, 0, none⟩) t d 2 (th_bad hy hb [])).mono fun _ _ h => ended_fail hy hf h

theorem g_Slot {F : Nat → Prop} {w : World} {p : Nat} {s : Gs} {M : Nat} (hx : Gx F w p s) (hw : Wf s M) (hM : M ≤ 10000) (t d : Int) :
    Calls Try.prog 21 #[.pointer (some ⟨p, 0, none⟩), .int .i64 t, .int .i64 d] w (Ended F w p (.tuple #[.int .i64 (val (clearE s t d) (ofS s t d)), .int .i64 (clearE s t d)]) (s)) := by
  obtain ⟨y, hy, hf⟩ := hx
  have err : ∀ x : Int, x ≠ 0 → clearE s t d = x → Calls Try.prog 21 #[.pointer (some ⟨p, 0, none⟩), .int .i64 t, .int .i64 d] w (Fail w (.tuple #[.int .i64 0, .int .i64 x])) → Calls Try.prog 21 #[.pointer (some ⟨p, 0, none⟩), .int .i64 t, .int .i64 d] w (Ended F w p (.tuple #[.int .i64 (val (clearE s t d) (ofS s t d)), .int .i64 (clearE s t d)]) (s)) := fun x hx0 hE hc => by
    rw [hE]
    rw [show val x _ = 0 from if_neg hx0]
    exact hc.mono fun _ _ h => ended_fail hy hf h
  cases hb : bT s t
  · obtain ⟨tn, rfl, ht⟩ := bT_no hb
    cases hd : badS (s.A tn) d
    · obtain ⟨kn, rfl, hk⟩ := badS_no hd
      have hE : clearE s tn kn = 0 := if_neg (by simp [bK, hb, hd])
      rw [hE, show val 0 _ = _ from if_pos rfl]
      have B := bx_Slot w (some ⟨p, 0, none⟩) (tn) (kn)
      have hc := ac_slot_ok _ (w.heap.size) (w.heap.size + 1) (w.heap.size + 1 + 1) (w.heap.size + 1 + 1 + 1) p (y.qs tn) tn kn ((s.A tn).getD kn 0) (cell_of_row B.1 0) (cell_of_row B.2.1 0) (cell_of_row B.2.2.1 0) ((th_is hy hw ht (xs := []) (by simp) (by simp)).on B.2.2.2.2.2) ((re_is hy ht hk).on B.2.2.2.2.2) 0 ⟨B.2.2.2.1, rfl, by omega, by omega, by omega⟩
      refine (ok_Slot w (some ⟨p, 0, none⟩) (tn) (kn) (fun w3 => ∃ w2, True ∧ Kp [] _ w2 ∧ w3 = w2.setCell _ _) ((s.A tn).getD kn 0) hc ?_ ?_).mono ?_
      · rintro w3 ⟨w2, _, hk2, rfl⟩
        exact ((Kp.refl [w.heap.size + 1 + 1 + 1] w2).setCell (.inl (by simp)) _).row (by simp) (hk2.row (by simp) B.2.2.2.2.1)
      · rintro w3 ⟨w2, _, hk2, rfl⟩
        rw [heap_setCell_same _ _ _ _ _ _ (hk2.row (by simp) B.2.2.2.1)]; rfl
      · rintro e w' ⟨rfl, w3, ⟨w2, _, hk2, rfl⟩, hk4⟩
        have hk3 : Kp [w.heap.size + 1 + 1 + 1, w.heap.size + 1 + 1 + 1 + 1] w2 w' := (((Kp.refl [w.heap.size + 1 + 1 + 1] w2).setCell (.inl (by simp)) _).mono (by simp)).trans hk4
        exact ended_fail hy hf ⟨rfl, kp_root B.2.2.2.2.2 hk2 hk3 (by simp <;> omega)⟩
    · refine err 2 (by decide) (if_pos (by simp [bK, hd])) ?_
      have B := bx_Slot w (some ⟨p, 0, none⟩) (tn) (d)
      exact no_Slot w (some ⟨p, 0, none⟩) (tn) (d) 2 (ac_slot_no _ (w.heap.size) (w.heap.size + 1) (w.heap.size + 1 + 1) (w.heap.size + 1 + 1 + 1) p (y.qs tn) tn d 2 (cell_of_row B.1 0) (cell_of_row B.2.1 0) (cell_of_row B.2.2.1 0) ((th_is hy hw ht (xs := []) (by simp) (by simp)).on B.2.2.2.2.2) ((re_no hy ht hd).on B.2.2.2.2.2))
  · refine err 2 (by decide) (if_pos (by simp [bK, hb])) ?_
    exact th_Slot w (some ⟨p, 0, none⟩) t d 2 (th_bad hy hb [])


theorem g_Alloc {F : Nat → Prop} {w : World} {p : Nat} {s : Gs} {M : Nat} (hx : Gx F w p s) (hw : Wf s M) (hM : M ≤ 10000) (t d r z : Int) :
    Calls Try.prog 10 #[.pointer (some ⟨p, 0, none⟩), .int .i64 t, .int .i64 d, .int .i64 r, .int .i64 z] w (Ended F w p (.tuple #[.int .i64 (val (allocE s t d r z) ((s.m : Int) + 1)), .int .i64 (allocE s t d r z)]) (sta (allocE s t d r z) (setS (newO s r z) t d ((s.m : Int) + 1)) s)) := by
  obtain ⟨y, hy, hf⟩ := hx
  have err : ∀ x : Int, x ≠ 0 → allocE s t d r z = x → Calls Try.prog 10 #[.pointer (some ⟨p, 0, none⟩), .int .i64 t, .int .i64 d, .int .i64 r, .int .i64 z] w (Fail w (.tuple #[.int .i64 0, .int .i64 x])) → Calls Try.prog 10 #[.pointer (some ⟨p, 0, none⟩), .int .i64 t, .int .i64 d, .int .i64 r, .int .i64 z] w (Ended F w p (.tuple #[.int .i64 (val (allocE s t d r z) ((s.m : Int) + 1)), .int .i64 (allocE s t d r z)]) (sta (allocE s t d r z) (setS (newO s r z) t d ((s.m : Int) + 1)) s)) := fun x hx0 hE hc => by
    rw [hE]
    rw [show val x _ = 0 from if_neg hx0]
    rw [show sta x _ s = s from if_neg hx0]
    exact hc.mono fun _ _ h => ended_fail hy hf h
  cases hb : bK s t d
  · obtain ⟨tn, kn, rfl, rfl, ht, hk⟩ := bK_no hb
    have bk : badS (s.A tn) (kn : Int) = false := by simpa [badS] using hk
    have hMm := hw.m
    have hql := qs_lt hy ht
    by_cases hr : r < 0 ∨ z < r ∨ 95 < z
    · refine err 2 (by decide) (by rw [allocE, hb]; simp; omega) ?_
      have B := bx_Alloc w (some ⟨p, 0, none⟩) (tn) (kn) (r) (z)
      exact no_Alloc w (some ⟨p, 0, none⟩) (tn) (kn) (r) (z) 2 (ac_alloc_need _ (w.heap.size) (w.heap.size + 1) (w.heap.size + 1 + 1) (w.heap.size + 1 + 1 + 1) (w.heap.size + 1 + 1 + 1 + 1) (w.heap.size + 1 + 1 + 1 + 1 + 1) p (y.qs tn) tn kn r z (cell_of_row B.1 0) (cell_of_row B.2.1 0) (cell_of_row B.2.2.1 0) (cell_of_row B.2.2.2.1 0) (cell_of_row B.2.2.2.2.1 0) ((th_is hy hw ht (xs := [(kn : Int)]) (by simp) (by simp [bk])).on B.2.2.2.2.2.2.2) hr)
    · have hE : allocE s tn kn r z = 0 := by rw [allocE, hb]; simp; omega
      rw [hE, show val 0 _ = _ from if_pos rfl, show sta 0 _ s = _ from if_pos rfl]
      obtain ⟨rn, rfl⟩ : ∃ rn : Nat, r = rn := ⟨r.toNat, by omega⟩
      obtain ⟨f, hfz⟩ : ∃ f : Nat, z = (rn : Int) + f := ⟨(z - rn).toNat, by omega⟩
      have B := bx_Alloc w (some ⟨p, 0, none⟩) (tn) (kn) (rn) (z)
      obtain ⟨csq, hqrow⟩ := (hy.hq tn ht).row
      have hBl := hy.lt (b := y.B) (.inr (.inr (.inl rfl)))
      have hyW := hy.keep0 B.2.2.2.2.2.2.2
      have hqB := hy.hm.ne hqrow
      have hpB := hy.hm.ne hy.hp
      have hc := ac_alloc_ok _ (w.heap.size) (w.heap.size + 1) (w.heap.size + 1 + 1) (w.heap.size + 1 + 1 + 1) (w.heap.size + 1 + 1 + 1 + 1) (w.heap.size + 1 + 1 + 1 + 1 + 1) p (y.qs tn) rn f y.B s.m tn kn z (cell_of_row B.1 0) (cell_of_row B.2.1 0) (cell_of_row B.2.2.1 0) (cell_of_row B.2.2.2.1 0) (cell_of_row B.2.2.2.2.1 0) ((th_is hy hw ht (xs := [(kn : Int)]) (by simp) (by simp [bk])).on B.2.2.2.2.2.2.2) hyW.c2 _ hyW.hm (by omega) ⟨hfz, by omega⟩
        (fun _ w' => Rt w' (y.qs tn) ((s.A tn).set kn ((s.m : Int) + 1)) (s.L tn))
        (fun w1 hg => set_ok w1 (y.qs tn) _ _ ((hyW.hq tn ht).keep hg.choose_spec.choose_spec.2.2.2.2.2 (by simpa using hqB.symm)) kn ((s.m : Int) + 1) hk (by omega)) 0 ⟨B.2.2.2.2.2.1, by omega, by omega⟩ ⟨by omega, by omega, by omega, by omega, fun e => hpB e.symm⟩
      refine (ok_Alloc w (some ⟨p, 0, none⟩) (tn) (kn) (rn) (z) (fun w3 => ∃ w1 w2, Grew _ y.B s.m rn f (y.obj s) w1 ∧ Rt w2 (y.qs tn) ((s.A tn).set kn ((s.m : Int) + 1)) (s.L tn) ∧ Kp [y.qs tn] w1 w2 ∧ w3 = w2.setCell _ _) ((s.m : Int) + 1) hc ?_ ?_).mono ?_
      · rintro w3 ⟨w1, w2, hg, hR, hk2, rfl⟩
        exact ((Kp.refl [w.heap.size + 1 + 1 + 1 + 1 + 1] w2).setCell (.inl (by simp)) _).row (by simp) (hk2.row (by simp; omega) (hg.choose_spec.choose_spec.2.2.2.2.2.row (by simp; omega) B.2.2.2.2.2.2.1))
      · rintro w3 ⟨w1, w2, hg, hR, hk2, rfl⟩
        rw [heap_setCell_same _ _ _ _ _ _ (hk2.row (by simp; omega) (hg.choose_spec.choose_spec.2.2.2.2.2.row (by simp; omega) B.2.2.2.2.2.1))]; rfl
      · rintro e w' ⟨rfl, w3, ⟨w1, w2, hg, hR, hk2, rfl⟩, hk4⟩
        have hk3 : Kp [w.heap.size + 1 + 1 + 1 + 1 + 1, w.heap.size + 1 + 1 + 1 + 1 + 1 + 1] w2 w' := (((Kp.refl [w.heap.size + 1 + 1 + 1 + 1 + 1] w2).setCell (.inl (by simp)) _).mono (by simp)).trans hk4
        have hB1 : Kp [y.B] w w1 := kp_then B.2.2.2.2.2.2.2 hg.choose_spec.choose_spec.2.2.2.2.2
        obtain ⟨y', hy', hft, hqs, htb⟩ := hyW.made hg
        have hy2 := hy'.root (t := tn) ht (A' := (s.A tn).set kn ((s.m : Int) + 1)) (L' := s.L tn) (by rw [hqs]; exact hR) (by rw [hqs]; exact hk2)
        have hlow : ∀ b, Foot p { s with m := s.m + 1, R := up s.R (s.m + 1) (List.replicate rn 0), D := up s.D (s.m + 1) (List.replicate f 0) } y' b → b < w.heap.size ∨ w.heap.size + 7 ≤ b := fun b hb => by
          rcases hft b hb with q | ⟨q, _⟩
          · exact .inl (hy.lt q)
          · simp [World.size_alloc] at q
            exact .inr q
        have hy3 := hy2.keep hk3 (by
          intro b hb hfoot
          have := hlow b hfoot
          simp at hb
          omega)
        have e1 : (((rn : Int) + f - rn).toNat) = f := by omega
        have es : setS (newO s rn z) tn kn ((s.m : Int) + 1) = { s with m := s.m + 1, R := up s.R (s.m + 1) (List.replicate rn 0), D := up s.D (s.m + 1) (List.replicate f 0), A := up s.A tn ((s.A tn).set kn ((s.m : Int) + 1)), L := up s.L tn (s.L tn) } := by
          rw [up_id, hfz]
          simp [setS, newO, e1]
        rw [es]
        have hsz : w1.heap.size ≤ w'.heap.size := Nat.le_trans hk2.size hk3.size
        refine ⟨rfl, ⟨y', hy3, fun b hb => ?_⟩, Fr.of (S := [y.B, y.qs tn]) ((hB1.mono (T := [y.B, y.qs tn, w.heap.size + 1 + 1 + 1 + 1 + 1, w.heap.size + 1 + 1 + 1 + 1 + 1 + 1]) (by simp +contextual)).trans ((hk2.mono (by simp +contextual)).trans (hk3.mono (by simp +contextual))) |>.mono fun b hb hlt => ?_) fun b hb => ?_⟩
        · rcases hft b hb with q | ⟨q1, q2⟩
          · exact .inl (hf b q)
          · exact .inr ⟨Nat.le_trans B.2.2.2.2.2.2.2.size q1, by omega⟩
        · simp at hb ⊢
          omega
        · simp at hb
          rcases hb with rfl | rfl
          · exact hf _ (.inr (.inr (.inl rfl)))
          · exact hf _ (.inr (.inr (.inr (.inl ⟨tn, ht, rfl⟩))))
  · refine err 2 (by decide) (by rw [allocE, hb]; rfl) ?_
    exact th_Alloc w (some ⟨p, 0, none⟩) t d r z 2 (th_one hy hw hb)


end Go.Proofs.Ytmbhhadghiojeaa
