/- Layer 10's acts on a graph that lies somewhere: Read, Write, Get, Put. Conditions: as each theorem states them. -/
import Derived.Test.YtmbhhadghiojeaaGrU
namespace Go.Proofs.Ytmbhhadghiojeaa
set_option linter.unusedVariables false
set_option linter.unusedSimpArgs false
open Go.RowKit

theorem g_Read {F : Nat → Prop} {w : World} {p : Nat} {s : Gs} {M : Nat} (hx : Gx F w p s) (hw : Wf s M) (hM : M ≤ 10000) (t k i : Int) :
    Calls Try.prog 13 #[.pointer (some ⟨p, 0, none⟩), .int .i64 t, .int .i64 k, .int .i64 i] w (Ended F w p (.tuple #[.int .u64 (val (readE s t k i) ((onD s t k).getD i.toNat 0)), .int .i64 (readE s t k i)]) (s)) := by
  obtain ⟨y, hy, hf⟩ := hx
  have err : ∀ x : Int, x ≠ 0 → readE s t k i = x → Calls Try.prog 13 #[.pointer (some ⟨p, 0, none⟩), .int .i64 t, .int .i64 k, .int .i64 i] w (Fail w (.tuple #[.int .u64 0, .int .i64 x])) → Calls Try.prog 13 #[.pointer (some ⟨p, 0, none⟩), .int .i64 t, .int .i64 k, .int .i64 i] w (Ended F w p (.tuple #[.int .u64 (val (readE s t k i) ((onD s t k).getD i.toNat 0)), .int .i64 (readE s t k i)]) (s)) := fun x hx0 hE hc => by
    rw [hE]
    rw [show val x _ = 0 from if_neg hx0]
    exact hc.mono fun _ _ h => ended_fail hy hf h
  cases hb : bK s t k
  · obtain ⟨tn, kn, rfl, rfl, ht, hk⟩ := bK_no hb
    have bk : badS (s.A tn) (kn : Int) = false := by simpa [badS] using hk
    have hv := hw.of ht hk
    by_cases h0 : (s.A tn).getD kn 0 = 0
    · refine err 5 (by decide) (heldE_0 hb h0) ?_
      have B := bx_Read w (some ⟨p, 0, none⟩) (tn) (kn) (i)
      exact no_Read w (some ⟨p, 0, none⟩) (tn) (kn) (i) 5 (ac_read_he _ (w.heap.size) (w.heap.size + 1) (w.heap.size + 1 + 1) (w.heap.size + 1 + 1 + 1) (w.heap.size + 1 + 1 + 1 + 1) p (y.qs tn) tn kn i 5 (cell_of_row B.1 0) (cell_of_row B.2.1 0) (cell_of_row B.2.2.1 0) (cell_of_row B.2.2.2.1 0) ((th_is hy hw ht (xs := [(kn : Int)]) (by simp) (by simp [bk])).on B.2.2.2.2.2.2) ((he_no hy ht hk h0).on B.2.2.2.2.2.2))
    · obtain ⟨m, hm⟩ : ∃ m : Nat, (s.A tn).getD kn 0 = m := ⟨((s.A tn).getD kn 0).toNat, by omega⟩
      have hm1 : 1 ≤ m := by omega
      have hms : m ≤ s.m := by omega
      have hMm := hw.m
      have h95 := hw.r95 m hm1 hms
      have hhe := he_is hy ht hk hm hm1 hms (by omega)
      have hon : onD s tn kn = s.D m := by show s.D ((s.A tn).getD kn 0).toNat = s.D m; rw [hm]; rfl
      cases hi : badS (s.D m) i
      · obtain ⟨j, rfl, hj⟩ := badS_no hi
        have hE : readE s tn kn j = 0 := heldE_ok hb (show ofS s tn kn ≠ 0 from h0) ((congrArg (fun l => badS l _) hon).trans hi)
        rw [hE, show val 0 _ = _ from if_pos rfl, hon, show ((j : Int)).toNat = j from rfl]
        have B := bx_Read w (some ⟨p, 0, none⟩) (tn) (kn) (j)
        have hrow := hy.hd m hm1 hms
        have hc := ac_read_ok _ (w.heap.size) (w.heap.size + 1) (w.heap.size + 1 + 1) (w.heap.size + 1 + 1 + 1) (w.heap.size + 1 + 1 + 1 + 1) p (y.qs tn) j tn kn ((s.D m).getD j 0) (cell_of_row B.1 0) (cell_of_row B.2.1 0) (cell_of_row B.2.2.1 0) (cell_of_row B.2.2.2.1 0) ((th_is hy hw ht (xs := [(kn : Int)]) (by simp) (by simp [bk])).on B.2.2.2.2.2.2) _ _ _ _ _ _ (hhe.on B.2.2.2.2.2.2) ⟨hj, by omega⟩ ((hrow.keep0 B.2.2.2.2.2.2).cell hj) 0 ⟨B.2.2.2.2.1, rfl, by omega, by omega, by omega⟩
        refine (ok_Read w (some ⟨p, 0, none⟩) (tn) (kn) (j) (fun w3 => ∃ w2, True ∧ Kp [] _ w2 ∧ w3 = w2.setCell _ _) ((s.D m).getD j 0) hc ?_ ?_).mono ?_
        · rintro w3 ⟨w2, _, hk2, rfl⟩
          exact ((Kp.refl [w.heap.size + 1 + 1 + 1 + 1] w2).setCell (.inl (by simp)) _).row (by simp) (hk2.row (by simp) B.2.2.2.2.2.1)
        · rintro w3 ⟨w2, _, hk2, rfl⟩
          rw [heap_setCell_same _ _ _ _ _ _ (hk2.row (by simp) B.2.2.2.2.1)]; rfl
        · rintro e w' ⟨rfl, w3, ⟨w2, _, hk2, rfl⟩, hk4⟩
          have hk3 : Kp [w.heap.size + 1 + 1 + 1 + 1, w.heap.size + 1 + 1 + 1 + 1 + 1] w2 w' := (((Kp.refl [w.heap.size + 1 + 1 + 1 + 1] w2).setCell (.inl (by simp)) _).mono (by simp)).trans hk4
          exact ended_fail hy hf ⟨rfl, kp_root B.2.2.2.2.2.2 hk2 hk3 (by simp <;> omega)⟩
      · refine err 2 (by decide) (heldE_i hb (show ofS s tn kn ≠ 0 from h0) ((congrArg (fun l => badS l i) hon).trans hi)) ?_
        have B := bx_Read w (some ⟨p, 0, none⟩) (tn) (kn) (i)
        exact no_Read w (some ⟨p, 0, none⟩) (tn) (kn) (i) 2 (ac_read_it _ (w.heap.size) (w.heap.size + 1) (w.heap.size + 1 + 1) (w.heap.size + 1 + 1 + 1) (w.heap.size + 1 + 1 + 1 + 1) p (y.qs tn) tn kn i (cell_of_row B.1 0) (cell_of_row B.2.1 0) (cell_of_row B.2.2.1 0) (cell_of_row B.2.2.2.1 0) ((th_is hy hw ht (xs := [(kn : Int)]) (by simp) (by simp [bk])).on B.2.2.2.2.2.2) _ _ _ _ _ _ (hhe.on B.2.2.2.2.2.2) (badS_or hi))
  · refine err 2 (by decide) (heldE_b hb) ?_
    exact th_Read w (some ⟨p, 0, none⟩) t k i 2 (th_one hy hw hb)


theorem g_Write {F : Nat → Prop} {w : World} {p : Nat} {s : Gs} {M : Nat} (hx : Gx F w p s) (hw : Wf s M) (hM : M ≤ 10000) (t k i v : Int) :
    Calls Try.prog 14 #[.pointer (some ⟨p, 0, none⟩), .int .i64 t, .int .i64 k, .int .i64 i, .int .u64 v] w (Ended F w p (.int .i64 (readE s t k i)) (sta (readE s t k i) (setD s (ofS s t k).toNat i v) s)) := by
  obtain ⟨y, hy, hf⟩ := hx
  have err : ∀ x : Int, x ≠ 0 → readE s t k i = x → Calls Try.prog 14 #[.pointer (some ⟨p, 0, none⟩), .int .i64 t, .int .i64 k, .int .i64 i, .int .u64 v] w (Fail w (.int .i64 x)) → Calls Try.prog 14 #[.pointer (some ⟨p, 0, none⟩), .int .i64 t, .int .i64 k, .int .i64 i, .int .u64 v] w (Ended F w p (.int .i64 (readE s t k i)) (sta (readE s t k i) (setD s (ofS s t k).toNat i v) s)) := fun x hx0 hE hc => by
    rw [hE]
    rw [show sta x _ s = s from if_neg hx0]
    exact hc.mono fun _ _ h => ended_fail hy hf h
  cases hb : bK s t k
  · obtain ⟨tn, kn, rfl, rfl, ht, hk⟩ := bK_no hb
    have bk : badS (s.A tn) (kn : Int) = false := by simpa [badS] using hk
    have hv := hw.of ht hk
    by_cases h0 : (s.A tn).getD kn 0 = 0
    · refine err 5 (by decide) (heldE_0 hb h0) ?_
      have B := bx_Write w (some ⟨p, 0, none⟩) (tn) (kn) (i) (v)
      exact no_Write w (some ⟨p, 0, none⟩) (tn) (kn) (i) (v) 5 [] (ac_write_he _ (w.heap.size) (w.heap.size + 1) (w.heap.size + 1 + 1) (w.heap.size + 1 + 1 + 1 + 1) (w.heap.size + 1 + 1 + 1) p (y.qs tn) tn kn v i 5 (cell_of_row B.1 0) (cell_of_row B.2.1 0) (cell_of_row B.2.2.1 0) (cell_of_row B.2.2.2.2.1 0) (cell_of_row B.2.2.2.1 0) ((th_is hy hw ht (xs := [(kn : Int)]) (by simp) (by simp [bk])).on B.2.2.2.2.2.2) ((he_no hy ht hk h0).on B.2.2.2.2.2.2)) (by simp)
    · obtain ⟨m, hm⟩ : ∃ m : Nat, (s.A tn).getD kn 0 = m := ⟨((s.A tn).getD kn 0).toNat, by omega⟩
      have hm1 : 1 ≤ m := by omega
      have hms : m ≤ s.m := by omega
      have hMm := hw.m
      have h95 := hw.r95 m hm1 hms
      have hhe := he_is hy ht hk hm hm1 hms (by omega)
      have hon : onD s tn kn = s.D m := by show s.D ((s.A tn).getD kn 0).toNat = s.D m; rw [hm]; rfl
      cases hi : badS (s.D m) i
      · obtain ⟨j, rfl, hj⟩ := badS_no hi
        have hE : readE s tn kn j = 0 := heldE_ok hb (show ofS s tn kn ≠ 0 from h0) ((congrArg (fun l => badS l _) hon).trans hi)
        rw [hE, show sta 0 _ s = _ from if_pos rfl, show (ofS s tn kn).toNat = m from by show ((s.A tn).getD kn 0).toNat = m; rw [hm]; rfl]
        have B := bx_Write w (some ⟨p, 0, none⟩) (tn) (kn) (j) (v)
        have hrow := hy.hd m hm1 hms
        obtain ⟨cur, hcur, hcu⟩ := hrow
        have hrow := hy.hd m hm1 hms
        have hgl := hrow.lt
        have hc := ac_write_ok _ (w.heap.size) (w.heap.size + 1) (w.heap.size + 1 + 1) (w.heap.size + 1 + 1 + 1 + 1) (w.heap.size + 1 + 1 + 1) p (y.qs tn) j tn kn v (cell_of_row B.1 0) (cell_of_row B.2.1 0) (cell_of_row B.2.2.1 0) (cell_of_row B.2.2.2.2.1 0) (cell_of_row B.2.2.2.1 0) ((th_is hy hw ht (xs := [(kn : Int)]) (by simp) (by simp [bk])).on B.2.2.2.2.2.2) _ _ _ _ _ _ (hhe.on B.2.2.2.2.2.2) ⟨hj, by omega⟩ cur _ ⟨B.2.2.2.2.2.2.row (by simp) hcur, hcu j hj, by omega, by omega, by omega, by omega⟩
        refine (ok_Write w (some ⟨p, 0, none⟩) (tn) (kn) (j) (v) (fun w3 => ∃ w2, True ∧ Kp [] _ w2 ∧ w3 = w2.setCell _ _) hc ?_).mono ?_
        · rintro w3 ⟨w2, _, hk2, rfl⟩
          exact ((Kp.refl [y.dg m] w2).setCell (.inl (by simp)) _).row (by simp; omega) (hk2.row (by simp) B.2.2.2.2.2.1)
        · rintro e w' ⟨rfl, w3, ⟨w2, _, hk2, rfl⟩, hk4⟩
          have hrow2 := ((hrow.keep0 (B.2.2.2.2.2.2.trans hk2)).set hj (v)).keep hk4 (by simp; omega)
          have hkk : Kp [y.dg m] w w' := kp_root (B.2.2.2.2.2.2.trans hk2) ((Kp.refl [y.dg m] w2).setCell (.inl (by simp)) _) hk4 (by simp <;> omega)
          exact ⟨rfl, ⟨y, hy.data hm1 hms hj _ hrow2 hkk, fun b hb => .inl (hf b hb)⟩, Fr.of hkk fun b hb => hf b (by rw [List.mem_singleton] at hb; exact .inr (.inr (.inr (.inr (.inr ⟨_, hm1, hms, hb⟩)))))⟩
      · refine err 2 (by decide) (heldE_i hb (show ofS s tn kn ≠ 0 from h0) ((congrArg (fun l => badS l i) hon).trans hi)) ?_
        have B := bx_Write w (some ⟨p, 0, none⟩) (tn) (kn) (i) (v)
        exact no_Write w (some ⟨p, 0, none⟩) (tn) (kn) (i) (v) 2 [] (ac_write_it _ (w.heap.size) (w.heap.size + 1) (w.heap.size + 1 + 1) (w.heap.size + 1 + 1 + 1 + 1) (w.heap.size + 1 + 1 + 1) p (y.qs tn) tn kn v i (cell_of_row B.1 0) (cell_of_row B.2.1 0) (cell_of_row B.2.2.1 0) (cell_of_row B.2.2.2.2.1 0) (cell_of_row B.2.2.2.1 0) ((th_is hy hw ht (xs := [(kn : Int)]) (by simp) (by simp [bk])).on B.2.2.2.2.2.2) _ _ _ _ _ _ (hhe.on B.2.2.2.2.2.2) (badS_or hi)) (by simp)
  · refine err 2 (by decide) (heldE_b hb) ?_
    exact th_Write w (some ⟨p, 0, none⟩) t k i v 2 (th_one hy hw hb)


theorem g_Get {F : Nat → Prop} {w : World} {p : Nat} {s : Gs} {M : Nat} (hx : Gx F w p s) (hw : Wf s M) (hM : M ≤ 10000) (t d i : Int) :
    Calls Try.prog 15 #[.pointer (some ⟨p, 0, none⟩), .int .i64 t, .int .i64 d, .int .i64 i] w (Ended F w p (.tuple #[.int .i64 (val (getE s t d i) ((s.R 0).getD i.toNat 0)), .int .i64 (getE s t d i)]) (sta (getE s t d i) (setS s t d ((s.R 0).getD i.toNat 0)) s)) := by
  obtain ⟨y, hy, hf⟩ := hx
  have err : ∀ x : Int, x ≠ 0 → getE s t d i = x → Calls Try.prog 15 #[.pointer (some ⟨p, 0, none⟩), .int .i64 t, .int .i64 d, .int .i64 i] w (Fail w (.tuple #[.int .i64 0, .int .i64 x])) → Calls Try.prog 15 #[.pointer (some ⟨p, 0, none⟩), .int .i64 t, .int .i64 d, .int .i64 i] w (Ended F w p (.tuple #[.int .i64 (val (getE s t d i) ((s.R 0).getD i.toNat 0)), .int .i64 (getE s t d i)]) (sta (getE s t d i) (setS s t d ((s.R 0).getD i.toNat 0)) s)) := fun x hx0 hE hc => by
    rw [hE]
    rw [show val x _ = 0 from if_neg hx0]
    rw [show sta x _ s = s from if_neg hx0]
    exact hc.mono fun _ _ h => ended_fail hy hf h
  cases hb : bK s t d
  · obtain ⟨tn, dn, rfl, rfl, ht, hd⟩ := bK_no hb
    have bk : badS (s.A tn) (dn : Int) = false := by simpa [badS] using hd
    have h8 := hw.g8
    cases hi : badS (s.R 0) i
    · obtain ⟨j, rfl, hj⟩ := badS_no hi
      have hE : getE s tn dn j = 0 := if_neg (by simp [hb, hi])
      rw [hE, show val 0 _ = _ from if_pos rfl, show sta 0 _ s = _ from if_pos rfl, show ((j : Int)).toNat = j from rfl]
      have B := bx_Get w (some ⟨p, 0, none⟩) (tn) (dn) (j)
      have hql := qs_lt hy ht
      have hrow := hy.hi 0 (Nat.zero_le _)
      have hx0 := (hw.vR 0 (Nat.zero_le _) _ (getD_mem hj)).1
      have hc := ac_get_ok _ (w.heap.size) (w.heap.size + 1) (w.heap.size + 1 + 1) (w.heap.size + 1 + 1 + 1) (w.heap.size + 1 + 1 + 1 + 1) p (y.qs tn) j tn dn ((s.R 0).getD j 0) (cell_of_row B.1 0) (cell_of_row B.2.1 0) (cell_of_row B.2.2.1 0) (cell_of_row B.2.2.2.1 0) ((th_is hy hw ht (xs := [(dn : Int)]) (by simp) (by simp [bk])).on B.2.2.2.2.2.2) _ _ _ (hy.keep0 B.2.2.2.2.2.2).c1 ⟨hj, by omega⟩ ((hrow.keep0 B.2.2.2.2.2.2).cell hj) _ ((on_set hy ht hd hx0).on B.2.2.2.2.2.2) 0 B.2.2.2.2.1 (by omega)
      refine (ok_Get w (some ⟨p, 0, none⟩) (tn) (dn) (j) (fun w3 => ∃ w2, Rt w2 (y.qs tn) ((s.A tn).set dn ((s.R 0).getD j 0)) (s.L tn) ∧ Kp [y.qs tn] _ w2 ∧ w3 = w2.setCell _ _) ((s.R 0).getD j 0) hc ?_ ?_).mono ?_
      · rintro w3 ⟨w2, hR, hk2, rfl⟩
        exact ((Kp.refl [w.heap.size + 1 + 1 + 1 + 1] w2).setCell (.inl (by simp)) _).row (by simp) (hk2.row (by simp; omega) B.2.2.2.2.2.1)
      · rintro w3 ⟨w2, hR, hk2, rfl⟩
        rw [heap_setCell_same _ _ _ _ _ _ (hk2.row (by simp; omega) B.2.2.2.2.1)]; rfl
      · rintro e w' ⟨rfl, w3, ⟨w2, hR, hk2, rfl⟩, hk4⟩
        have hk3 : Kp [w.heap.size + 1 + 1 + 1 + 1, w.heap.size + 1 + 1 + 1 + 1 + 1] w2 w' := (((Kp.refl [w.heap.size + 1 + 1 + 1 + 1] w2).setCell (.inl (by simp)) _).mono (by simp)).trans hk4
        have := ended_root (r := .tuple #[.int .i64 ((s.R 0).getD j 0), .int .i64 0]) hy hf ht (hR.keep hk3 (by simp; omega)) (kp_root B.2.2.2.2.2.2 hk2 hk3 (by simp; omega)) rfl
        rw [up_id] at this
        simpa [setS] using this
    · refine err 2 (by decide) (if_pos (by simp [hi])) ?_
      have B := bx_Get w (some ⟨p, 0, none⟩) (tn) (dn) (i)
      exact no_Get w (some ⟨p, 0, none⟩) (tn) (dn) (i) 2 (ac_get_it _ (w.heap.size) (w.heap.size + 1) (w.heap.size + 1 + 1) (w.heap.size + 1 + 1 + 1) (w.heap.size + 1 + 1 + 1 + 1) p (y.qs tn) tn dn i (cell_of_row B.1 0) (cell_of_row B.2.1 0) (cell_of_row B.2.2.1 0) (cell_of_row B.2.2.2.1 0) ((th_is hy hw ht (xs := [(dn : Int)]) (by simp) (by simp [bk])).on B.2.2.2.2.2.2) _ _ _ (hy.keep0 B.2.2.2.2.2.2).c1 (badS_or hi))
  · refine err 2 (by decide) (if_pos (by simp [hb])) ?_
    exact th_Get w (some ⟨p, 0, none⟩) t d i 2 (th_one hy hw hb)


theorem g_Put {F : Nat → Prop} {w : World} {p : Nat} {s : Gs} {M : Nat} (hx : Gx F w p s) (hw : Wf s M) (hM : M ≤ 10000) (t i k : Int) :
    Calls Try.prog 16 #[.pointer (some ⟨p, 0, none⟩), .int .i64 t, .int .i64 i, .int .i64 k] w (Ended F w p (.int .i64 (getE s t k i)) (sta (getE s t k i) (setR s 0 i (ofS s t k)) s)) := by
  obtain ⟨y, hy, hf⟩ := hx
  have err : ∀ x : Int, x ≠ 0 → getE s t k i = x → Calls Try.prog 16 #[.pointer (some ⟨p, 0, none⟩), .int .i64 t, .int .i64 i, .int .i64 k] w (Fail w (.int .i64 x)) → Calls Try.prog 16 #[.pointer (some ⟨p, 0, none⟩), .int .i64 t, .int .i64 i, .int .i64 k] w (Ended F w p (.int .i64 (getE s t k i)) (sta (getE s t k i) (setR s 0 i (ofS s t k)) s)) := fun x hx0 hE hc => by
    rw [hE]
    rw [show sta x _ s = s from if_neg hx0]
    exact hc.mono fun _ _ h => ended_fail hy hf h
  cases hb : bK s t k
  · obtain ⟨tn, kn, rfl, rfl, ht, hk⟩ := bK_no hb
    have bk : badS (s.A tn) (kn : Int) = false := by simpa [badS] using hk
    have h8 := hw.g8
    cases hi : badS (s.R 0) i
    · obtain ⟨j, rfl, hj⟩ := badS_no hi
      have hE : getE s tn kn j = 0 := if_neg (by simp [hb, hi])
      rw [hE, show sta 0 _ s = _ from if_pos rfl]
      have B := bx_Put w (some ⟨p, 0, none⟩) (tn) (j) (kn)
      have hrow := hy.hi 0 (Nat.zero_le _)
      obtain ⟨cur, hcur, hcu⟩ := hrow
      have hrow := hy.hi 0 (Nat.zero_le _)
      have hgl := hrow.lt
      have hms := Nat.zero_le s.m
      have hpl := lt_of_block hy.hp
      have hpg := ne_types hy.hp hcur (by decide)
      have hc := ac_put_ok _ (w.heap.size) (w.heap.size + 1) (w.heap.size + 1 + 1 + 1) (w.heap.size + 1 + 1) p (y.qs tn) j tn kn ((s.A tn).getD kn 0) (cell_of_row B.1 0) (cell_of_row B.2.1 0) (cell_of_row B.2.2.2.1 0) (cell_of_row B.2.2.1 0) ((th_is hy hw ht (xs := [(kn : Int)]) (by simp) (by simp [bk])).on B.2.2.2.2.2) _ _ _ (hy.keep0 B.2.2.2.2.2).c1 ⟨hj, by omega⟩ ((re_is hy ht hk).on B.2.2.2.2.2) cur _ ⟨B.2.2.2.2.2.row (by simp) hcur, hcu j hj, by omega, by omega, by omega, by omega⟩
      refine (ok_Put w (some ⟨p, 0, none⟩) (tn) (j) (kn) (fun w3 => ∃ w2, True ∧ Kp [] _ w2 ∧ w3 = w2.setCell _ _) hc ?_).mono ?_
      · rintro w3 ⟨w2, _, hk2, rfl⟩
        exact ((Kp.refl [y.ig 0] w2).setCell (.inl (by simp)) _).row (by simp; omega) (hk2.row (by simp) B.2.2.2.2.1)
      · rintro e w' ⟨rfl, w3, ⟨w2, _, hk2, rfl⟩, hk4⟩
        have hrow2 := ((hrow.keep0 (B.2.2.2.2.2.trans hk2)).set hj ((s.A tn).getD kn 0)).keep hk4 (by simp; omega)
        have hkk : Kp [y.ig 0] w w' := kp_root (B.2.2.2.2.2.trans hk2) ((Kp.refl [y.ig 0] w2).setCell (.inl (by simp)) _) hk4 (by simp <;> omega)
        exact ⟨rfl, ⟨y, hy.refs hms hj _ hrow2 hkk, fun b hb => .inl (hf b hb)⟩, Fr.of hkk fun b hb => hf b (by rw [List.mem_singleton] at hb; exact .inr (.inr (.inr (.inr (.inl ⟨_, ‹_ ≤ s.m›, hb⟩)))))⟩
    · refine err 2 (by decide) (if_pos (by simp [hi])) ?_
      have B := bx_Put w (some ⟨p, 0, none⟩) (tn) (i) (kn)
      exact no_Put w (some ⟨p, 0, none⟩) (tn) (i) (kn) 2 [] (ac_put_it _ (w.heap.size) (w.heap.size + 1) (w.heap.size + 1 + 1 + 1) (w.heap.size + 1 + 1) p (y.qs tn) tn kn i (cell_of_row B.1 0) (cell_of_row B.2.1 0) (cell_of_row B.2.2.2.1 0) (cell_of_row B.2.2.1 0) ((th_is hy hw ht (xs := [(kn : Int)]) (by simp) (by simp [bk])).on B.2.2.2.2.2) _ _ _ (hy.keep0 B.2.2.2.2.2).c1 (badS_or hi)) (by simp)
  · refine err 2 (by decide) (if_pos (by simp [hb])) ?_
    exact th_Put w (some ⟨p, 0, none⟩) t i k 2 (th_one hy hw hb)


end Go.Proofs.Ytmbhhadghiojeaa
