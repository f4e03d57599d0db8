/- Layer 10's acts on a graph that lies somewhere: Load, Store, Read, Write. Conditions: as each theorem states them. -/
import Derived.Test.YtmbhhadghiojeaaGrT
namespace Go.Proofs.Ytmbhhadghiojeaa
set_option linter.unusedVariables false
set_option linter.unusedSimpArgs false
open Go.RowKit

theorem heldE_b {b : Bool} {n i : Int} {xs : List Int} (h : b = true) : heldE b n xs i = 2 := by simp [heldE, h]
theorem heldE_0 {b : Bool} {n i : Int} {xs : List Int} (h : b = false) (hn : n = 0) : heldE b n xs i = 5 := by simp [heldE, h, hn]
theorem heldE_i {b : Bool} {n i : Int} {xs : List Int} (h : b = false) (hn : n ≠ 0) (hi : badS xs i = true) : heldE b n xs i = 2 := by simp [heldE, h, hn, hi]
theorem heldE_ok {b : Bool} {n i : Int} {xs : List Int} (h : b = false) (hn : n ≠ 0) (hi : badS xs i = false) : heldE b n xs i = 0 := by simp [heldE, h, hn, hi]
theorem kp_root {S T : List Nat} {w W w2 w' : World} (h : Kp [] w W) (h2 : Kp T W w2) (k : Kp S w2 w') (hS : ∀ x ∈ S, w.heap.size ≤ x) : Kp T w w' :=
  (((kp_then h h2).mono (T := T ++ S) fun x hx _ => List.mem_append_left _ hx).trans (k.mono fun x hx _ => List.mem_append_right _ hx)).mono fun x hx hlt => by
    rw [List.mem_append] at hx
    rcases hx with hx | hx
    · exact hx
    · have := hS x hx; omega

theorem g_Load {F : Nat → Prop} {w : World} {p : Nat} {s : Gs} {M : Nat} (hx : Gx F w p s) (hw : Wf s M) (hM : M ≤ 10000) (t d k i : Int) :
    Calls Try.prog 11 #[.pointer (some ⟨p, 0, none⟩), .int .i64 t, .int .i64 d, .int .i64 k, .int .i64 i] w (Ended F w p (.tuple #[.int .i64 (val (loadE s t d k i) ((onR s t k).getD i.toNat 0)), .int .i64 (loadE s t d k i)]) (sta (loadE s t d k i) (setS s t d ((onR s t k).getD i.toNat 0)) s)) := by
  obtain ⟨y, hy, hf⟩ := hx
  have err : ∀ x : Int, x ≠ 0 → loadE s t d k i = x → Calls Try.prog 11 #[.pointer (some ⟨p, 0, none⟩), .int .i64 t, .int .i64 d, .int .i64 k, .int .i64 i] w (Fail w (.tuple #[.int .i64 0, .int .i64 x])) → Calls Try.prog 11 #[.pointer (some ⟨p, 0, none⟩), .int .i64 t, .int .i64 d, .int .i64 k, .int .i64 i] w (Ended F w p (.tuple #[.int .i64 (val (loadE s t d k i) ((onR s t k).getD i.toNat 0)), .int .i64 (loadE s t d k i)]) (sta (loadE s t d k i) (setS s t d ((onR s t k).getD i.toNat 0)) s)) := fun x hx0 hE hc => by
    rw [hE]
    rw [show val x _ = 0 from if_neg hx0]
    rw [show sta x _ s = s from if_neg hx0]
    exact hc.mono fun _ _ h => ended_fail hy hf h
  cases hb : (bK s t d || bK s t k)
  · have hb2 := hb
    rw [Bool.or_eq_false_iff] at hb2
    obtain ⟨tn, dn, rfl, rfl, ht, hd⟩ := bK_no hb2.1
    obtain ⟨tn', kn, e1, rfl, _, hk⟩ := bK_no hb2.2
    obtain rfl : tn = tn' := by omega
    have bd : badS (s.A tn) (dn : Int) = false := by simpa [badS] using hd
    have bk : badS (s.A tn) (kn : Int) = false := by simpa [badS] using hk
    have hv := hw.of ht hk
    by_cases h0 : (s.A tn).getD kn 0 = 0
    · refine err 5 (by decide) (heldE_0 hb h0) ?_
      have B := bx_Load w (some ⟨p, 0, none⟩) (tn) (dn) (kn) (i)
      exact no_Load w (some ⟨p, 0, none⟩) (tn) (dn) (kn) (i) 5 (ac_load_he _ (w.heap.size) (w.heap.size + 1) (w.heap.size + 1 + 1) (w.heap.size + 1 + 1 + 1) (w.heap.size + 1 + 1 + 1 + 1) (w.heap.size + 1 + 1 + 1 + 1 + 1) p (y.qs tn) tn dn kn i 5 (cell_of_row B.1 0) (cell_of_row B.2.1 0) (cell_of_row B.2.2.1 0) (cell_of_row B.2.2.2.1 0) (cell_of_row B.2.2.2.2.1 0) ((th_is hy hw ht (xs := [(dn : Int), (kn : Int)]) (by simp) (by simp [bd, bk])).on B.2.2.2.2.2.2.2) ((he_no hy ht hk h0).on B.2.2.2.2.2.2.2))
    · obtain ⟨m, hm⟩ : ∃ m : Nat, (s.A tn).getD kn 0 = m := ⟨((s.A tn).getD kn 0).toNat, by omega⟩
      have hm1 : 1 ≤ m := by omega
      have hms : m ≤ s.m := by omega
      have hMm := hw.m
      have h95 := hw.r95 m hm1 hms
      have hhe := he_is hy ht hk hm hm1 hms (by omega)
      have hon : onR s tn kn = s.R m := by show s.R ((s.A tn).getD kn 0).toNat = s.R m; rw [hm]; rfl
      cases hi : badS (s.R m) i
      · obtain ⟨j, rfl, hj⟩ := badS_no hi
        have hE : loadE s tn dn kn j = 0 := heldE_ok hb (show ofS s tn kn ≠ 0 from h0) ((congrArg (fun l => badS l _) hon).trans hi)
        rw [hE, show val 0 _ = _ from if_pos rfl, show sta 0 _ s = _ from if_pos rfl, hon]
        rw [show ((j : Int)).toNat = j from rfl]
        have B := bx_Load w (some ⟨p, 0, none⟩) (tn) (dn) (kn) (j)
        have hql := qs_lt hy ht
        have hrow := (hy.hi m hms)
        have hx0 := (hw.vR m hms _ (getD_mem hj)).1
        have hc := ac_load_ok _ (w.heap.size) (w.heap.size + 1) (w.heap.size + 1 + 1) (w.heap.size + 1 + 1 + 1) (w.heap.size + 1 + 1 + 1 + 1) (w.heap.size + 1 + 1 + 1 + 1 + 1) p (y.qs tn) j tn dn kn ((s.R m).getD j 0) (cell_of_row B.1 0) (cell_of_row B.2.1 0) (cell_of_row B.2.2.1 0) (cell_of_row B.2.2.2.1 0) (cell_of_row B.2.2.2.2.1 0) ((th_is hy hw ht (xs := [(dn : Int), (kn : Int)]) (by simp) (by simp [bd, bk])).on B.2.2.2.2.2.2.2) _ _ _ _ _ _ (hhe.on B.2.2.2.2.2.2.2) ⟨hj, by omega⟩ ((hrow.keep0 B.2.2.2.2.2.2.2).cell hj) _ ((on_set hy ht hd hx0).on B.2.2.2.2.2.2.2) 0 B.2.2.2.2.2.1 (by omega)
        refine (ok_Load w (some ⟨p, 0, none⟩) (tn) (dn) (kn) (j) (fun w3 => ∃ w2, Rt w2 (y.qs tn) ((s.A tn).set dn ((s.R m).getD j 0)) (s.L tn) ∧ Kp [y.qs tn] _ w2 ∧ w3 = w2.setCell _ _) ((s.R m).getD j 0) hc ?_ ?_).mono ?_
        · rintro w3 ⟨w2, hR, hk2, rfl⟩
          exact ((Kp.refl [w.heap.size + 1 + 1 + 1 + 1 + 1] w2).setCell (.inl (by simp)) _).row (by simp) (hk2.row (by simp; omega) B.2.2.2.2.2.2.1)
        · rintro w3 ⟨w2, hR, hk2, rfl⟩
          rw [heap_setCell_same _ _ _ _ _ _ (hk2.row (by simp; omega) B.2.2.2.2.2.1)]; rfl
        · rintro e w' ⟨rfl, w3, ⟨w2, hR, hk2, rfl⟩, hk4⟩
          have hk3 : Kp [w.heap.size + 1 + 1 + 1 + 1 + 1, w.heap.size + 1 + 1 + 1 + 1 + 1 + 1] w2 w' := (((Kp.refl [w.heap.size + 1 + 1 + 1 + 1 + 1] w2).setCell (.inl (by simp)) _).mono (by simp)).trans hk4
          have := ended_root (r := .tuple #[.int .i64 ((s.R m).getD j 0), .int .i64 0]) hy hf ht (hR.keep hk3 (by simp; omega)) (kp_root B.2.2.2.2.2.2.2 hk2 hk3 (by simp; omega)) rfl
          rw [up_id] at this
          simpa [setS] using this
      · refine err 2 (by decide) (heldE_i hb (show ofS s tn kn ≠ 0 from h0) ((congrArg (fun l => badS l i) hon).trans hi)) ?_
        have B := bx_Load w (some ⟨p, 0, none⟩) (tn) (dn) (kn) (i)
        exact no_Load w (some ⟨p, 0, none⟩) (tn) (dn) (kn) (i) 2 (ac_load_it _ (w.heap.size) (w.heap.size + 1) (w.heap.size + 1 + 1) (w.heap.size + 1 + 1 + 1) (w.heap.size + 1 + 1 + 1 + 1) (w.heap.size + 1 + 1 + 1 + 1 + 1) p (y.qs tn) tn dn kn i (cell_of_row B.1 0) (cell_of_row B.2.1 0) (cell_of_row B.2.2.1 0) (cell_of_row B.2.2.2.1 0) (cell_of_row B.2.2.2.2.1 0) ((th_is hy hw ht (xs := [(dn : Int), (kn : Int)]) (by simp) (by simp [bd, bk])).on B.2.2.2.2.2.2.2) _ _ _ _ _ _ (hhe.on B.2.2.2.2.2.2.2) (badS_or hi))
  · refine err 2 (by decide) (heldE_b hb) ?_
    exact th_Load w (some ⟨p, 0, none⟩) t d k i 2 (th_two hy hw hb)


theorem g_Store {F : Nat → Prop} {w : World} {p : Nat} {s : Gs} {M : Nat} (hx : Gx F w p s) (hw : Wf s M) (hM : M ≤ 10000) (t d i k : Int) :
    Calls Try.prog 12 #[.pointer (some ⟨p, 0, none⟩), .int .i64 t, .int .i64 d, .int .i64 i, .int .i64 k] w (Ended F w p (.int .i64 (storeE s t d i k)) (sta (storeE s t d i k) (setR s (ofS s t d).toNat i (ofS s t k)) s)) := by
  obtain ⟨y, hy, hf⟩ := hx
  have err : ∀ x : Int, x ≠ 0 → storeE s t d i k = x → Calls Try.prog 12 #[.pointer (some ⟨p, 0, none⟩), .int .i64 t, .int .i64 d, .int .i64 i, .int .i64 k] w (Fail w (.int .i64 x)) → Calls Try.prog 12 #[.pointer (some ⟨p, 0, none⟩), .int .i64 t, .int .i64 d, .int .i64 i, .int .i64 k] w (Ended F w p (.int .i64 (storeE s t d i k)) (sta (storeE s t d i k) (setR s (ofS s t d).toNat i (ofS s t k)) s)) := fun x hx0 hE hc => by
    rw [hE]
    rw [show sta x _ s = s from if_neg hx0]
    exact hc.mono fun _ _ h => ended_fail hy hf h
  cases hb : (bK s t d || bK s t k)
  · have hb2 := hb
    rw [Bool.or_eq_false_iff] at hb2
    obtain ⟨tn, dn, rfl, rfl, ht, hd⟩ := bK_no hb2.1
    obtain ⟨tn', kn, e1, rfl, _, hk⟩ := bK_no hb2.2
    obtain rfl : tn = tn' := by omega
    have bd : badS (s.A tn) (dn : Int) = false := by simpa [badS] using hd
    have bk : badS (s.A tn) (kn : Int) = false := by simpa [badS] using hk
    have hv := hw.of ht hd
    by_cases h0 : (s.A tn).getD dn 0 = 0
    · refine err 5 (by decide) (heldE_0 hb h0) ?_
      have B := bx_Store w (some ⟨p, 0, none⟩) (tn) (dn) (i) (kn)
      exact no_Store w (some ⟨p, 0, none⟩) (tn) (dn) (i) (kn) 5 [] (ac_store_he _ (w.heap.size) (w.heap.size + 1) (w.heap.size + 1 + 1) (w.heap.size + 1 + 1 + 1 + 1) (w.heap.size + 1 + 1 + 1) p (y.qs tn) tn dn kn i 5 (cell_of_row B.1 0) (cell_of_row B.2.1 0) (cell_of_row B.2.2.1 0) (cell_of_row B.2.2.2.2.1 0) (cell_of_row B.2.2.2.1 0) ((th_is hy hw ht (xs := [(dn : Int), (kn : Int)]) (by simp) (by simp [bd, bk])).on B.2.2.2.2.2.2) ((he_no hy ht hd h0).on B.2.2.2.2.2.2)) (by simp)
    · obtain ⟨m, hm⟩ : ∃ m : Nat, (s.A tn).getD dn 0 = m := ⟨((s.A tn).getD dn 0).toNat, by omega⟩
      have hm1 : 1 ≤ m := by omega
      have hms : m ≤ s.m := by omega
      have hMm := hw.m
      have h95 := hw.r95 m hm1 hms
      have hhe := he_is hy ht hd hm hm1 hms (by omega)
      have hon : onR s tn dn = s.R m := by show s.R ((s.A tn).getD dn 0).toNat = s.R m; rw [hm]; rfl
      cases hi : badS (s.R m) i
      · obtain ⟨j, rfl, hj⟩ := badS_no hi
        have hE : storeE s tn dn j kn = 0 := heldE_ok hb (show ofS s tn dn ≠ 0 from h0) ((congrArg (fun l => badS l _) hon).trans hi)
        rw [hE, show sta 0 _ s = _ from if_pos rfl, show (ofS s tn dn).toNat = m from by show ((s.A tn).getD dn 0).toNat = m; rw [hm]; rfl]
        have B := bx_Store w (some ⟨p, 0, none⟩) (tn) (dn) (j) (kn)
        have hrow := hy.hi m hms
        obtain ⟨cur, hcur, hcu⟩ := hrow
        have hrow := hy.hi m hms
        have hgl := hrow.lt
        have hc := ac_store_ok _ (w.heap.size) (w.heap.size + 1) (w.heap.size + 1 + 1) (w.heap.size + 1 + 1 + 1 + 1) (w.heap.size + 1 + 1 + 1) p (y.qs tn) j tn dn kn ((s.A tn).getD kn 0) (cell_of_row B.1 0) (cell_of_row B.2.1 0) (cell_of_row B.2.2.1 0) (cell_of_row B.2.2.2.2.1 0) (cell_of_row B.2.2.2.1 0) ((th_is hy hw ht (xs := [(dn : Int), (kn : Int)]) (by simp) (by simp [bd, bk])).on B.2.2.2.2.2.2) _ _ _ _ _ _ (hhe.on B.2.2.2.2.2.2) ⟨hj, by omega⟩ ((re_is hy ht hk).on B.2.2.2.2.2.2) cur _ ⟨B.2.2.2.2.2.2.row (by simp) hcur, hcu j hj, by omega, by omega, by omega, by omega⟩
        refine (ok_Store w (some ⟨p, 0, none⟩) (tn) (dn) (j) (kn) (fun w3 => ∃ w2, True ∧ Kp [] _ w2 ∧ w3 = w2.setCell _ _) hc ?_).mono ?_
        · rintro w3 ⟨w2, _, hk2, rfl⟩
          exact ((Kp.refl [y.ig m] w2).setCell (.inl (by simp)) _).row (by simp; omega) (hk2.row (by simp) B.2.2.2.2.2.1)
        · rintro e w' ⟨rfl, w3, ⟨w2, _, hk2, rfl⟩, hk4⟩
          have hrow2 := ((hrow.keep0 (B.2.2.2.2.2.2.trans hk2)).set hj ((s.A tn).getD kn 0)).keep hk4 (by simp; omega)
          have hkk : Kp [y.ig m] w w' := kp_root (B.2.2.2.2.2.2.trans hk2) ((Kp.refl [y.ig m] w2).setCell (.inl (by simp)) _) hk4 (by simp <;> omega)
          exact ⟨rfl, ⟨y, hy.refs hms hj _ hrow2 hkk, fun b hb => .inl (hf b hb)⟩, Fr.of hkk fun b hb => hf b (by rw [List.mem_singleton] at hb; exact .inr (.inr (.inr (.inr (.inl ⟨_, ‹_ ≤ s.m›, hb⟩)))))⟩
      · refine err 2 (by decide) (heldE_i hb (show ofS s tn dn ≠ 0 from h0) ((congrArg (fun l => badS l i) hon).trans hi)) ?_
        have B := bx_Store w (some ⟨p, 0, none⟩) (tn) (dn) (i) (kn)
        exact no_Store w (some ⟨p, 0, none⟩) (tn) (dn) (i) (kn) 2 [] (ac_store_it _ (w.heap.size) (w.heap.size + 1) (w.heap.size + 1 + 1) (w.heap.size + 1 + 1 + 1 + 1) (w.heap.size + 1 + 1 + 1) p (y.qs tn) tn dn kn i (cell_of_row B.1 0) (cell_of_row B.2.1 0) (cell_of_row B.2.2.1 0) (cell_of_row B.2.2.2.2.1 0) (cell_of_row B.2.2.2.1 0) ((th_is hy hw ht (xs := [(dn : Int), (kn : Int)]) (by simp) (by simp [bd, bk])).on B.2.2.2.2.2.2) _ _ _ _ _ _ (hhe.on B.2.2.2.2.2.2) (badS_or hi)) (by simp)
  · refine err 2 (by decide) (heldE_b hb) ?_
    exact th_Store w (some ⟨p, 0, none⟩) t d i k 2 (th_two hy hw hb)


end Go.Proofs.Ytmbhhadghiojeaa
