/- The document's own graph: Slot, Move, Clear, Get, Put. The document's own graph: Get, Put. The document's own graph: Load, Store, Read, Write. The document's own graph: Push, Pop. The document's own graph: an object more. Conditions: as each lemma states them. Conditions: as each theorem states them. -/
import Derived.Test.YtmbhhadghiojeaaGreatDg1
namespace Go.Proofs.YtmbhhadghiojeaaGreat
set_option linter.unusedVariables false
set_option linter.unusedSimpArgs false
open Go.RowKit

section
variable {F : Nat → Prop} {w : World} {q : Nat} {s : Gs} {y : Dl} {M : Nat}
theorem slotV_val (s : Gs) (t k : Int) : slotV s t k = val (clearE s t k) (ofS s t k) := by
  unfold slotV val clearE
  cases bK s t k <;> simp
theorem clearE_t {t k : Int} (h : bK s t k = true) : clearE s t k = 2 := if_pos h
theorem clearE_f {t k : Int} (h : bK s t k = false) : clearE s t k = 0 := if_neg (by simp [h])
theorem slotV_f {t k : Int} (h : bK s t k = false) : slotV s t k = ofS s t k := if_neg (by simp [h])
theorem d_Slot (hx : Dx F w q s) (hw : Wf s M) (t a : Int) : Calls Tryz.prog 44 #[.pointer (some ⟨q, 0, none⟩), .int .i64 t, .int .i64 a] w fun e w' => e = .returned (.tuple #[.int .i64 (val (clearE s t a) (ofS s t a)), .int .i64 (clearE s t a)]) ∧ Left F w q s w' := by
  obtain ⟨y, hy, hf⟩ := hx
  refine (dslot_any hy hw t a).mono ?_
  rintro e w' ⟨rfl, rfl⟩
  exact ⟨by rw [slotV_val], left_same hy hf⟩

set_option maxRecDepth 100000 in
theorem d_Clear (hx : Dx F w q s) (hw : Wf s M) (t d : Int) : Calls Tryz.prog 41 #[.pointer (some ⟨q, 0, none⟩), .int .i64 t, .int .i64 d] w fun e w' => e = .returned (.int .i64 (clearE s t d)) ∧ Left F w q (sta (clearE s t d) (setS s t d 0) s) w' := by
  obtain ⟨y, hy, hf⟩ := hx
  have h1 := dslot_any hy hw t d
  cases hb : bK s t d
  · obtain ⟨tn, dn, rfl, rfl, ht, hd⟩ := bK_no hb
    rw [clearE_f hb] at h1 ⊢
    have h2 := dset_any hy hw ht dn 0
    have HE : Hid (∀ w', Stored w y.tb tn (y.u tn) (y.v tn) (setA (s.A tn) dn 0) (s.L tn) w' → Left F w q (setS s tn dn 0) w') := Lib.hid fun w' st => left_set hy hf ht hd (Int.le_refl 0) st
    generalize Stored w y.tb tn (y.u tn) (y.v tn) (setA (s.A tn) dn 0) (s.L tn) = ST at h2 HE
    generalize slotV s (tn : Int) (dn : Int) = x at h1
    rw [show sta 0 (setS s tn dn 0) s = setS s tn dn 0 from rfl]
    generalize setS s (tn : Int) (dn : Int) 0 = s' at HE ⊢
    clear hy hw ht hd hb hf
    go_enter Tryz.func41, Tryz.ntmps41
    go_wp2_with fail
    refine h1.mono ?_
    rintro e w1 ⟨rfl, rfl⟩
    go_wp2_with fail
    refine h2.mono ?_
    rintro e w2 ⟨rfl, st⟩
    have HS := Lib.hid (HE.out w2 st)
    clear st HE h1 h2
    go_wp2_with fail
    go_ret
    exact ⟨rfl, HS.out⟩
  · rw [clearE_t hb] at h1 ⊢
    rw [show sta 2 (setS s t d 0) s = s from rfl]
    have HL := Lib.hid (left_same hy hf)
    generalize slotV s t d = x at h1
    clear hy hw hb hf
    go_enter Tryz.func41, Tryz.ntmps41
    go_wp2_with fail
    refine h1.mono ?_
    rintro e w1 ⟨rfl, rfl⟩
    go_wp2_with fail
    go_ret
    exact ⟨rfl, HL.out⟩

set_option maxRecDepth 100000 in
theorem d_Move (hx : Dx F w q s) (hw : Wf s M) (t d k : Int) : Calls Tryz.prog 40 #[.pointer (some ⟨q, 0, none⟩), .int .i64 t, .int .i64 d, .int .i64 k] w fun e w' => e = .returned (.int .i64 (moveE s t d k)) ∧ Left F w q (sta (moveE s t d k) (setS s t d (ofS s t k)) s) w' := by
  obtain ⟨y, hy, hf⟩ := hx
  have h1 := dslot_any hy hw t d
  have h2 := dslot_any hy hw t k
  have HL := Lib.hid (left_same hy hf)
  cases hb : bK s t d
  · cases hb2 : bK s t k
    · have hin := ofS_in hw (k := k) (bK_bT hb2)
      rw [clearE_f hb] at h1
      rw [clearE_f hb2, slotV_f hb2] at h2
      have hE : moveE s t d k = 0 := by unfold moveE; rw [hb, hb2]; rfl
      rw [hE]
      obtain ⟨tn, dn, rfl, rfl, ht, hd⟩ := bK_no hb
      have h3 := dset_any hy hw ht dn (ofS s tn k)
      have HE : Hid (∀ w', Stored w y.tb tn (y.u tn) (y.v tn) (setA (s.A tn) dn (ofS s tn k)) (s.L tn) w' → Left F w q (setS s tn dn (ofS s tn k)) w') := Lib.hid fun w' st => left_set hy hf ht hd hin.1 st
      generalize Stored w y.tb tn (y.u tn) (y.v tn) (setA (s.A tn) dn (ofS s tn k)) (s.L tn) = ST at h3 HE
      rw [show sta 0 (setS s tn dn (ofS s tn k)) s = setS s tn dn (ofS s tn k) from rfl]
      generalize setS s (tn : Int) (dn : Int) (ofS s tn k) = s' at HE ⊢
      generalize slotV s (tn : Int) (dn : Int) = x at h1
      generalize ofS s (tn : Int) k = z at h2 h3
      clear hy hw ht hd hb hf hb2 hE hin HL
      go_enter Tryz.func40, Tryz.ntmps40
      go_wp2_with fail
      refine h1.mono ?_
      rintro e w1 ⟨rfl, rfl⟩
      go_wp2_with fail
      refine h2.mono ?_
      rintro e w1 ⟨rfl, rfl⟩
      go_wp2_with fail
      refine h3.mono ?_
      rintro e w2 ⟨rfl, st⟩
      have HS := Lib.hid (HE.out w2 st)
      clear st HE h1 h2 h3
      go_wp2_with fail
      go_ret
      exact ⟨rfl, HS.out⟩
    · rw [clearE_f hb] at h1
      rw [clearE_t hb2] at h2
      have hE : moveE s t d k = 2 := by unfold moveE; rw [hb, hb2]; rfl
      rw [hE, show sta 2 (setS s t d (ofS s t k)) s = s from rfl]
      generalize slotV s t d = x at h1
      generalize slotV s t k = z at h2
      clear hy hw hb hf hb2 hE
      go_enter Tryz.func40, Tryz.ntmps40
      go_wp2_with fail
      refine h1.mono ?_
      rintro e w1 ⟨rfl, rfl⟩
      go_wp2_with fail
      refine h2.mono ?_
      rintro e w1 ⟨rfl, rfl⟩
      go_wp2_with fail
      go_ret
      exact ⟨rfl, HL.out⟩
  · rw [clearE_t hb] at h1
    have hE : moveE s t d k = 2 := by unfold moveE; rw [hb]; rfl
    rw [hE, show sta 2 (setS s t d (ofS s t k)) s = s from rfl]
    generalize slotV s t d = x at h1
    generalize slotV s t k = z at h2
    generalize clearE s t k = ee at h2
    clear hy hw hb hf hE
    go_enter Tryz.func40, Tryz.ntmps40
    go_wp2_with fail
    refine h1.mono ?_
    rintro e w1 ⟨rfl, rfl⟩
    go_wp2_with fail
    refine h2.mono ?_
    rintro e w1 ⟨rfl, rfl⟩
    go_wp2_with fail
    go_ret
    exact ⟨rfl, HL.out⟩
end

end Go.Proofs.YtmbhhadghiojeaaGreat

namespace Go.Proofs.YtmbhhadghiojeaaGreat
set_option linter.unusedVariables false
set_option linter.unusedSimpArgs false
open Go.RowKit

section
variable {F : Nat → Prop} {w : World} {q : Nat} {s : Gs} {y : Dl} {M : Nat}
theorem Stored.kp {tb t : Nat} {u v : Value} {A L : List Int} {w' : World} (h : Stored w tb t u v A L w') : Kp [tb] w w' := by
  obtain ⟨w1, u', v', rfl, ru, rv, k1, fu, fv⟩ := h
  exact ((kp_then k1 (Kp.refl _ _)).setCell (.inl (by simp)) _).setCell (.inl (by simp)) _
/-- The global roots' row, and where it is told of, stay. -/
theorem Dy.glob (hy : Dy w q s y) {w' : World} (k : Kp [y.tb] w w') : w'.cell? ⟨q, 1, none⟩ = some (refsV y s 0) ∧ Ro 3 .i64 w' (y.ig 0) (s.R 0) := by
  obtain ⟨cur, hrow⟩ := hy.ht.block y.tb (by simp [blk_some])
  refine ⟨?_, (hy.hi 0 (Nat.zero_le _)).1.keep k (by simpa using (hy.hi 0 (Nat.zero_le _)).1.ne hrow (by decide))⟩
  rw [cell_of_row (k.row (by simpa using ne_types hy.hp hrow (by decide)) hy.hp)]
  rfl

set_option maxRecDepth 100000 in
theorem d_Get (hx : Dx F w q s) (hw : Wf s M) (t d g : Int) : Calls Tryz.prog 38 #[.pointer (some ⟨q, 0, none⟩), .int .i64 t, .int .i64 d, .int .i64 g] w fun e w' => e = .returned (.tuple #[.int .i64 (val (getE s t d g) ((s.R 0).getD g.toNat 0)), .int .i64 (getE s t d g)]) ∧ Left F w q (sta (getE s t d g) (setS s t d ((s.R 0).getD g.toNat 0)) s) w' := by
  obtain ⟨y, hy, hf⟩ := hx
  have h1 := dslot_any hy hw t d
  have HL := Lib.hid (left_same hy hf)
  have c1 := (hy.glob (Kp.refl _ _)).1
  have h8 := hw.g8
  unfold refsV at c1
  cases hb : bK s t d
  · rw [clearE_f hb] at h1
    cases hg : badS (s.R 0) g
    · have hE : getE s t d g = 0 := by unfold getE; rw [hb, hg]; rfl
      obtain ⟨gn, rfl, hgn⟩ := badS_no hg
      rw [hE]
      obtain ⟨tn, dn, rfl, rfl, ht, hd⟩ := bK_no hb
      have hin : 0 ≤ (s.R 0).getD gn 0 := (hw.vR 0 (Nat.zero_le _) _ (getD_mem hgn)).1
      have h3 := dset_any hy hw ht dn ((s.R 0).getD gn 0)
      have c2 := (hy.hi 0 (Nat.zero_le _)).1.cell hgn
      rw [show ((gn : Nat) : Int).toNat = gn from rfl]
      have HE : Hid (∀ w', Stored w y.tb tn (y.u tn) (y.v tn) (setA (s.A tn) dn ((s.R 0).getD gn 0)) (s.L tn) w' → Left F w q (setS s tn dn ((s.R 0).getD gn 0)) w' ∧ w'.cell? ⟨q, 1, none⟩ = some (.slice (some ⟨y.ig 0, 0, none⟩) (s.R 0).length (y.ic 0)) ∧ w'.cell? ⟨y.ig 0, gn, none⟩ = some (.int .i64 ((s.R 0).getD gn 0))) :=
        Lib.hid fun w' st => ⟨left_set hy hf ht hd hin st, (hy.glob st.kp).1, (hy.glob st.kp).2.cell hgn⟩
      generalize Stored w y.tb tn (y.u tn) (y.v tn) (setA (s.A tn) dn ((s.R 0).getD gn 0)) (s.L tn) = ST at h3 HE
      rw [show sta 0 (setS s tn dn ((s.R 0).getD gn 0)) s = setS s tn dn ((s.R 0).getD gn 0) from rfl, show val 0 ((s.R 0).getD gn 0) = (s.R 0).getD gn 0 from rfl]
      generalize setS s (tn : Int) (dn : Int) ((s.R 0).getD gn 0) = s' at HE ⊢
      generalize slotV s (tn : Int) (dn : Int) = x at h1
      generalize (s.R 0).getD gn 0 = z at h3 c2 HE ⊢
      generalize (s.R 0).length = l at c1 h8 HE hgn
      generalize y.ig 0 = ig at c1 c2 HE
      generalize y.ic 0 = ic at c1 HE
      clear hy hw ht hd hb hf hg hE hin HL
      go_enter Tryz.func38, Tryz.ntmps38
      go_wp2_with fail
      refine h1.mono ?_
      rintro e w1 ⟨rfl, rfl⟩
      go_wp2_with fail
      refine h3.mono ?_
      rintro e w2 ⟨rfl, st⟩
      have HS := Lib.hid (HE.out w2 st)
      have d1 := HS.out.2.1
      have d2 := HS.out.2.2
      clear st HE h1 h3 c1 c2
      go_wp2_with fail
      go_ret2
      exact ⟨rfl, HS.out.1⟩
    · have hE : getE s t d g = 2 := by unfold getE; rw [hb, hg]; rfl
      have ho := badS_or hg
      rw [hE, show sta 2 (setS s t d ((s.R 0).getD g.toNat 0)) s = s from rfl, show val 2 ((s.R 0).getD g.toNat 0) = 0 from rfl]
      generalize slotV s t d = x at h1
      generalize (s.R 0).length = l at c1 h8 ho
      clear hy hw hb hf hg hE
      by_cases g0 : g < 0
      · clear ho
        go_enter Tryz.func38, Tryz.ntmps38
        go_wp2_with fail
        refine h1.mono ?_
        rintro e w1 ⟨rfl, rfl⟩
        go_wp2_with fail
        go_ret2
        exact ⟨rfl, HL.out⟩
      · have g1 : (l : Int) ≤ g := by omega
        clear ho
        go_enter Tryz.func38, Tryz.ntmps38
        go_wp2_with fail
        refine h1.mono ?_
        rintro e w1 ⟨rfl, rfl⟩
        go_wp2_with fail
        go_ret2
        exact ⟨rfl, HL.out⟩
  · rw [clearE_t hb] at h1
    have hE : getE s t d g = 2 := by unfold getE; rw [hb]; rfl
    rw [hE, show sta 2 (setS s t d ((s.R 0).getD g.toNat 0)) s = s from rfl, show val 2 ((s.R 0).getD g.toNat 0) = 0 from rfl]
    generalize slotV s t d = x at h1
    clear hy hw hb hf hE c1 h8
    go_enter Tryz.func38, Tryz.ntmps38
    go_wp2_with fail
    refine h1.mono ?_
    rintro e w1 ⟨rfl, rfl⟩
    go_wp2_with fail
    go_ret2
    exact ⟨rfl, HL.out⟩

set_option maxRecDepth 100000 in
theorem d_Put (hx : Dx F w q s) (hw : Wf s M) (t g k : Int) : Calls Tryz.prog 39 #[.pointer (some ⟨q, 0, none⟩), .int .i64 t, .int .i64 g, .int .i64 k] w fun e w' => e = .returned (.int .i64 (getE s t k g)) ∧ Left F w q (sta (getE s t k g) (setR s 0 g (ofS s t k)) s) w' := by
  obtain ⟨y, hy, hf⟩ := hx
  have h1 := dslot_any hy hw t k
  have HL := Lib.hid (left_same hy hf)
  have c1 := (hy.glob (Kp.refl _ _)).1
  have h8 := hw.g8
  unfold refsV at c1
  cases hb : bK s t k
  · rw [clearE_f hb, slotV_f hb] at h1
    cases hg : badS (s.R 0) g
    · have hE : getE s t k g = 0 := by unfold getE; rw [hb, hg]; rfl
      obtain ⟨gn, rfl, hgn⟩ := badS_no hg
      rw [hE]
      have c2 := (hy.hi 0 (Nat.zero_le _)).1.cell hgn
      obtain ⟨cu, hrow, _⟩ := (hy.hi 0 (Nat.zero_le _)).1
      have f2 := free_of_row hrow gn
      have HE := Lib.hid (left_refs hy hf (Nat.zero_le _) hgn (ofS s t k))
      rw [show sta 0 (setR s 0 gn (ofS s t k)) s = { s with R := up s.R 0 ((s.R 0).set gn (ofS s t k)) } from rfl]
      generalize ({ s with R := up s.R 0 ((s.R 0).set gn (ofS s t k)) } : Gs) = s' at HE ⊢
      generalize ofS s t k = x at h1 HE
      generalize (s.R 0).getD gn 0 = z at c2
      generalize (s.R 0).length = l at c1 h8 hgn
      generalize y.ig 0 = ig at c1 c2 f2 HE
      generalize y.ic 0 = ic at c1
      clear hy hw hb hf hg hE HL hrow
      go_enter Tryz.func39, Tryz.ntmps39
      go_wp2_with fail
      refine h1.mono ?_
      rintro e w1 ⟨rfl, rfl⟩
      go_wp2_with fail
      go_ret
      exact ⟨rfl, HE.out⟩
    · have hE : getE s t k g = 2 := by unfold getE; rw [hb, hg]; rfl
      have ho := badS_or hg
      rw [hE, show sta 2 (setR s 0 g (ofS s t k)) s = s from rfl]
      generalize ofS s t k = x at h1
      generalize (s.R 0).length = l at c1 h8 ho
      clear hy hw hb hf hg hE
      by_cases g0 : g < 0
      · clear ho
        go_enter Tryz.func39, Tryz.ntmps39
        go_wp2_with fail
        refine h1.mono ?_
        rintro e w1 ⟨rfl, rfl⟩
        go_wp2_with fail
        go_ret
        exact ⟨rfl, HL.out⟩
      · have g1 : (l : Int) ≤ g := by omega
        clear ho
        go_enter Tryz.func39, Tryz.ntmps39
        go_wp2_with fail
        refine h1.mono ?_
        rintro e w1 ⟨rfl, rfl⟩
        go_wp2_with fail
        go_ret
        exact ⟨rfl, HL.out⟩
  · rw [clearE_t hb] at h1
    have hE : getE s t k g = 2 := by unfold getE; rw [hb]; rfl
    rw [hE, show sta 2 (setR s 0 g (ofS s t k)) s = s from rfl]
    generalize slotV s t k = x at h1
    clear hy hw hb hf hE c1 h8
    go_enter Tryz.func39, Tryz.ntmps39
    go_wp2_with fail
    refine h1.mono ?_
    rintro e w1 ⟨rfl, rfl⟩
    go_wp2_with fail
    go_ret
    exact ⟨rfl, HL.out⟩
end

end Go.Proofs.YtmbhhadghiojeaaGreat

namespace Go.Proofs.YtmbhhadghiojeaaGreat
set_option linter.unusedVariables false
set_option linter.unusedSimpArgs false
open Go.RowKit

section
variable {F : Nat → Prop} {w : World} {q : Nat} {s : Gs} {y : Dl} {M : Nat}
theorem held_z {t k i : Int} {xs : List Int} (h : heldE (bK s t k) (ofS s t k) xs i = 0) : objE s t k = 0 ∧ badS xs i = false := by
  rw [objE_hold] at h
  by_cases h0 : objE s t k = 0
  · rw [if_pos h0] at h
    exact ⟨h0, if2 h⟩
  · rw [if_neg h0] at h
    exact absurd h h0
theorem held_or {t k i : Int} {xs : List Int} (h : heldE (bK s t k) (ofS s t k) xs i ≠ 0) : heldE (bK s t k) (ofS s t k) xs i = 2 ∨ heldE (bK s t k) (ofS s t k) xs i = 5 := by
  unfold heldE at h ⊢
  split
  · exact .inl rfl
  · split
    · exact .inr rfl
    · split
      · exact .inl rfl
      · rename_i h1 h2 h3
        rw [if_neg h1, if_neg h2, if_neg h3] at h
        exact absurd rfl h
theorem loadE_f {t d k i : Int} (h : bK s t d = false) : loadE s t d k i = refE s t k i := by unfold loadE refE; rw [h]; rfl
theorem loadE_t {t d k i : Int} (h : bK s t d = true) : loadE s t d k i = 2 := by unfold loadE; rw [h]; rfl
theorem storeE_f {t o i v : Int} (h : bK s t v = false) : storeE s t o i v = refE s t o i := by unfold storeE refE; rw [h, Bool.or_false]
theorem storeE_t {t o i v : Int} (h : bK s t v = true) : storeE s t o i v = 2 := by unfold storeE; rw [h, Bool.or_true]; rfl

set_option maxRecDepth 100000 in
theorem d_Load (hx : Dx F w q s) (hw : Wf s M) (hM : M ≤ 10000) (t d k i : Int) : Calls Tryz.prog 34 #[.pointer (some ⟨q, 0, none⟩), .int .i64 t, .int .i64 d, .int .i64 k, .int .i64 i] w fun e w' => e = .returned (.tuple #[.int .i64 (val (loadE s t d k i) ((onR s t k).getD i.toNat 0)), .int .i64 (loadE s t d k i)]) ∧ Left F w q (sta (loadE s t d k i) (setS s t d ((onR s t k).getD i.toNat 0)) s) w' := by
  obtain ⟨y, hy, hf⟩ := hx
  have h1 := dslot_any hy hw t d
  have h2 := dref_any hy hw hM t k i
  have HL := Lib.hid (left_same hy hf)
  cases hb : bK s t d
  · rw [clearE_f hb] at h1
    rw [loadE_f hb]
    by_cases hz : refE s t k i = 0
    · obtain ⟨h0, hbad⟩ := held_z hz
      obtain ⟨n, hn, hn2, hn1, hnm⟩ := objE_z hw h0
      rw [hz, hn] at h2
      rw [hz]
      have hm := hw.m
      have c2 := hy.c2
      obtain ⟨b, c, hob, c3, c4⟩ := hy.ob hn1 hnm
      rw [hob] at c2
      have hR : onR s t k = s.R n := by unfold onR; rw [hn2]; rfl
      rw [hR] at hbad ⊢
      obtain ⟨j, rfl, hj⟩ := badS_no hbad
      rw [show ((j : Nat) : Int).toNat = j from rfl]
      have h95 := hw.r95 n hn1 hnm
      have c5 := (hy.hi n hnm).1.cell hj
      have hin : 0 ≤ (s.R n).getD j 0 := (hw.vR n hnm _ (getD_mem hj)).1
      obtain ⟨tn, dn, rfl, rfl, ht, hd⟩ := bK_no hb
      have h3 := dset_any hy hw ht dn ((s.R n).getD j 0)
      have HE : Hid (∀ w', Stored w y.tb tn (y.u tn) (y.v tn) (setA (s.A tn) dn ((s.R n).getD j 0)) (s.L tn) w' → Left F w q (setS s tn dn ((s.R n).getD j 0)) w') := Lib.hid fun w' st => left_set hy hf ht hd hin st
      generalize Stored w y.tb tn (y.u tn) (y.v tn) (setA (s.A tn) dn ((s.R n).getD j 0)) (s.L tn) = ST at h3 HE
      rw [show sta 0 (setS s tn dn ((s.R n).getD j 0)) s = setS s tn dn ((s.R n).getD j 0) from rfl, show val 0 ((s.R n).getD j 0) = (s.R n).getD j 0 from rfl]
      generalize setS s (tn : Int) (dn : Int) ((s.R n).getD j 0) = s' at HE ⊢
      generalize slotV s (tn : Int) (dn : Int) = x at h1
      generalize (s.R n).getD j 0 = z at h3 c5 HE ⊢
      obtain ⟨n', rfl⟩ : ∃ n', n = n' + 1 := ⟨n - 1, by omega⟩
      rw [show n' + 1 - 1 = n' from by omega] at c3
      unfold refsV at c3
      have e1 : ((n' + 1 : Nat) : Int) - 1 = (n' : Int) := by omega
      rw [e1] at h2
      generalize (s.R (n' + 1)).length = l at c3 h95 hj
      generalize y.ig (n' + 1) = g at c3 c5
      generalize y.ic (n' + 1) = gc at c3
      generalize s.m = m at c2 hm hnm
      have hl95 : l ≤ 95 := by omega
      clear hy hw ht hd hb hf hin HL hob c4 hR hn hn2 h0 e1 hz hbad h95
      go_enter Tryz.func34, Tryz.ntmps34
      go_wp2_with fail
      refine h1.mono ?_
      rintro e w1 ⟨rfl, rfl⟩
      go_wp2_with fail
      refine h2.mono ?_
      rintro e w1 ⟨rfl, rfl⟩
      go_wp2_with fail
      refine h3.mono ?_
      rintro e w2 ⟨rfl, st⟩
      have HS := Lib.hid (HE.out w2 st)
      clear st HE h1 h2 h3 c2 c3 c5
      go_wp2_with fail
      go_ret2
      exact ⟨rfl, HS.out⟩
    · have hc := held_or hz
      rw [show sta (refE s t k i) (setS s t d ((onR s t k).getD i.toNat 0)) s = s from if_neg hz, show val (refE s t k i) ((onR s t k).getD i.toNat 0) = 0 from if_neg hz]
      change refE s t k i = 2 ∨ refE s t k i = 5 at hc
      generalize refE s t k i = ee at h2 hc ⊢
      generalize slotV s t d = x at h1
      generalize slotV s t k - 1 = z at h2
      clear hy hw hb hf hz
      rcases hc with rfl | rfl <;>
      · go_enter Tryz.func34, Tryz.ntmps34
        go_wp2_with fail
        refine h1.mono ?_
        rintro e w1 ⟨rfl, rfl⟩
        go_wp2_with fail
        refine h2.mono ?_
        rintro e w1 ⟨rfl, rfl⟩
        go_wp2_with fail
        go_ret2
        exact ⟨rfl, HL.out⟩
  · rw [clearE_t hb] at h1
    rw [loadE_t hb, show sta 2 (setS s t d ((onR s t k).getD i.toNat 0)) s = s from rfl, show val 2 ((onR s t k).getD i.toNat 0) = 0 from rfl]
    generalize slotV s t d = x at h1
    clear hy hw hb hf h2
    go_enter Tryz.func34, Tryz.ntmps34
    go_wp2_with fail
    refine h1.mono ?_
    rintro e w1 ⟨rfl, rfl⟩
    go_wp2_with fail
    go_ret2
    exact ⟨rfl, HL.out⟩

set_option maxRecDepth 100000 in
theorem d_Store (hx : Dx F w q s) (hw : Wf s M) (hM : M ≤ 10000) (t o i v : Int) : Calls Tryz.prog 35 #[.pointer (some ⟨q, 0, none⟩), .int .i64 t, .int .i64 o, .int .i64 i, .int .i64 v] w fun e w' => e = .returned (.int .i64 (storeE s t o i v)) ∧ Left F w q (sta (storeE s t o i v) (setR s (ofS s t o).toNat i (ofS s t v)) s) w' := by
  obtain ⟨y, hy, hf⟩ := hx
  have h1 := dslot_any hy hw t v
  have h2 := dref_any hy hw hM t o i
  have HL := Lib.hid (left_same hy hf)
  cases hb : bK s t v
  · rw [clearE_f hb, slotV_f hb] at h1
    rw [storeE_f hb]
    by_cases hz : refE s t o i = 0
    · obtain ⟨h0, hbad⟩ := held_z hz
      obtain ⟨n, hn, hn2, hn1, hnm⟩ := objE_z hw h0
      rw [hz, hn] at h2
      rw [hz, hn2]
      have hm := hw.m
      have c2 := hy.c2
      obtain ⟨b, c, hob, c3, c4⟩ := hy.ob hn1 hnm
      rw [hob] at c2
      have hR : onR s t o = s.R n := by unfold onR; rw [hn2]; rfl
      rw [hR] at hbad
      obtain ⟨j, rfl, hj⟩ := badS_no hbad
      have h95 := hw.r95 n hn1 hnm
      have c5 := (hy.hi n hnm).1.cell hj
      obtain ⟨cu, hrow, _⟩ := (hy.hi n hnm).1
      have f5 := free_of_row hrow j
      have HE := Lib.hid (left_refs hy hf hnm hj (ofS s t v))
      rw [show sta 0 (setR s (n : Int).toNat j (ofS s t v)) s = { s with R := up s.R n ((s.R n).set j (ofS s t v)) } from rfl]
      generalize ({ s with R := up s.R n ((s.R n).set j (ofS s t v)) } : Gs) = s' at HE ⊢
      generalize ofS s t v = x at h1 HE
      generalize (s.R n).getD j 0 = z at c5
      obtain ⟨n', rfl⟩ : ∃ n', n = n' + 1 := ⟨n - 1, by omega⟩
      rw [show n' + 1 - 1 = n' from by omega] at c3
      unfold refsV at c3
      have e1 : ((n' + 1 : Nat) : Int) - 1 = (n' : Int) := by omega
      rw [e1] at h2
      generalize (s.R (n' + 1)).length = l at c3 h95 hj
      generalize y.ig (n' + 1) = g at c3 c5 f5 HE
      generalize y.ic (n' + 1) = gc at c3
      generalize s.m = m at c2 hm hnm
      have hl95 : l ≤ 95 := by omega
      clear hy hw hb hf HL hob c4 hR hn hn2 h0 e1 hz hbad h95 hrow
      go_enter Tryz.func35, Tryz.ntmps35
      go_wp2_with fail
      refine h1.mono ?_
      rintro e w1 ⟨rfl, rfl⟩
      go_wp2_with fail
      refine h2.mono ?_
      rintro e w1 ⟨rfl, rfl⟩
      go_wp2_with fail
      go_ret
      exact ⟨rfl, HE.out⟩
    · have hc := held_or hz
      rw [show sta (refE s t o i) (setR s (ofS s t o).toNat i (ofS s t v)) s = s from if_neg hz]
      change refE s t o i = 2 ∨ refE s t o i = 5 at hc
      generalize refE s t o i = ee at h2 hc ⊢
      generalize ofS s t v = x at h1
      generalize slotV s t o - 1 = z at h2
      clear hy hw hb hf hz
      rcases hc with rfl | rfl <;>
      · go_enter Tryz.func35, Tryz.ntmps35
        go_wp2_with fail
        refine h1.mono ?_
        rintro e w1 ⟨rfl, rfl⟩
        go_wp2_with fail
        refine h2.mono ?_
        rintro e w1 ⟨rfl, rfl⟩
        go_wp2_with fail
        go_ret
        exact ⟨rfl, HL.out⟩
  · rw [clearE_t hb] at h1
    rw [storeE_t hb, show sta 2 (setR s (ofS s t o).toNat i (ofS s t v)) s = s from rfl]
    generalize slotV s t v = x at h1
    clear hy hw hb hf h2
    go_enter Tryz.func35, Tryz.ntmps35
    go_wp2_with fail
    refine h1.mono ?_
    rintro e w1 ⟨rfl, rfl⟩
    go_wp2_with fail
    go_ret
    exact ⟨rfl, HL.out⟩

set_option maxRecDepth 100000 in
theorem d_Read (hx : Dx F w q s) (hw : Wf s M) (hM : M ≤ 10000) (t k i : Int) : Calls Tryz.prog 36 #[.pointer (some ⟨q, 0, none⟩), .int .i64 t, .int .i64 k, .int .i64 i] w fun e w' => e = .returned (.tuple #[.int .u64 (val (readE s t k i) ((onD s t k).getD i.toNat 0)), .int .i64 (readE s t k i)]) ∧ Left F w q s w' := by
  obtain ⟨y, hy, hf⟩ := hx
  have h2 := ddatum_any hy hw hM t k i
  have HL := Lib.hid (left_same hy hf)
  by_cases hz : readE s t k i = 0
  · obtain ⟨h0, hbad⟩ := held_z hz
    obtain ⟨n, hn, hn2, hn1, hnm⟩ := objE_z hw h0
    rw [hz, hn] at h2
    rw [hz]
    have hm := hw.m
    have c2 := hy.c2
    obtain ⟨b, c, hob, c3, c4⟩ := hy.ob hn1 hnm
    rw [hob] at c2
    have hR : onD s t k = s.D n := by unfold onD; rw [hn2]; rfl
    rw [hR] at hbad ⊢
    obtain ⟨j, rfl, hj⟩ := badS_no hbad
    have h95 := hw.r95 n hn1 hnm
    have c5 := (hy.hd n hn1 hnm).1.cell hj
    obtain ⟨cu, hrow, _⟩ := (hy.hd n hn1 hnm).1
    have f5 := free_of_row hrow j
    have HE := HL
    rw [show ((j : Nat) : Int).toNat = j from rfl, show val 0 ((s.D n).getD j 0) = (s.D n).getD j 0 from rfl]
    generalize (s.D n).getD j 0 = z at c5 ⊢
    obtain ⟨n', rfl⟩ : ∃ n', n = n' + 1 := ⟨n - 1, by omega⟩
    rw [show n' + 1 - 1 = n' from by omega] at c4
    unfold dataV at c4
    have e1 : ((n' + 1 : Nat) : Int) - 1 = (n' : Int) := by omega
    rw [e1] at h2
    generalize (s.D (n' + 1)).length = l at c4 h95 hj
    generalize y.dg (n' + 1) = g at c4 c5 f5
    generalize y.dc (n' + 1) = gc at c4
    generalize s.m = m at c2 hm hnm
    have hl95 : l ≤ 95 := by omega
    clear hy hw hf HL hob c3 hR hn hn2 h0 e1 hz hbad h95 hrow
    go_enter Tryz.func36, Tryz.ntmps36
    go_wp2_with fail
    refine h2.mono ?_
    rintro e w1 ⟨rfl, rfl⟩
    go_wp2_with fail
    go_ret2
    exact ⟨rfl, HE.out⟩
  · have hc := held_or hz
    rw [show val (readE s t k i) ((onD s t k).getD i.toNat 0) = 0 from if_neg hz]
    change readE s t k i = 2 ∨ readE s t k i = 5 at hc
    generalize readE s t k i = ee at h2 hc ⊢
    generalize slotV s t k - 1 = z at h2
    clear hy hw hf hz
    rcases hc with rfl | rfl <;>
    · go_enter Tryz.func36, Tryz.ntmps36
      go_wp2_with fail
      refine h2.mono ?_
      rintro e w1 ⟨rfl, rfl⟩
      go_wp2_with fail
      go_ret2
      exact ⟨rfl, HL.out⟩

set_option maxRecDepth 100000 in
theorem d_Write (hx : Dx F w q s) (hw : Wf s M) (hM : M ≤ 10000) (t k i : Int) (v : Int) : Calls Tryz.prog 37 #[.pointer (some ⟨q, 0, none⟩), .int .i64 t, .int .i64 k, .int .i64 i, .int .u64 v] w fun e w' => e = .returned (.int .i64 (readE s t k i)) ∧ Left F w q (sta (readE s t k i) (setD s (ofS s t k).toNat i v) s) w' := by
  obtain ⟨y, hy, hf⟩ := hx
  have h2 := ddatum_any hy hw hM t k i
  have HL := Lib.hid (left_same hy hf)
  by_cases hz : readE s t k i = 0
  · obtain ⟨h0, hbad⟩ := held_z hz
    obtain ⟨n, hn, hn2, hn1, hnm⟩ := objE_z hw h0
    rw [hz, hn] at h2
    rw [hz, hn2]
    have hm := hw.m
    have c2 := hy.c2
    obtain ⟨b, c, hob, c3, c4⟩ := hy.ob hn1 hnm
    rw [hob] at c2
    have hR : onD s t k = s.D n := by unfold onD; rw [hn2]; rfl
    rw [hR] at hbad
    obtain ⟨j, rfl, hj⟩ := badS_no hbad
    have h95 := hw.r95 n hn1 hnm
    have c5 := (hy.hd n hn1 hnm).1.cell hj
    obtain ⟨cu, hrow, _⟩ := (hy.hd n hn1 hnm).1
    have f5 := free_of_row hrow j
    have HE := Lib.hid (left_data hy hf hn1 hnm hj v)
    rw [show sta 0 (setD s (n : Int).toNat j v) s = { s with D := up s.D n ((s.D n).set j v) } from rfl]
    generalize ({ s with D := up s.D n ((s.D n).set j v) } : Gs) = s' at HE ⊢
    generalize (s.D n).getD j 0 = z at c5
    obtain ⟨n', rfl⟩ : ∃ n', n = n' + 1 := ⟨n - 1, by omega⟩
    rw [show n' + 1 - 1 = n' from by omega] at c4
    unfold dataV at c4
    have e1 : ((n' + 1 : Nat) : Int) - 1 = (n' : Int) := by omega
    rw [e1] at h2
    generalize (s.D (n' + 1)).length = l at c4 h95 hj
    generalize y.dg (n' + 1) = g at c4 c5 f5 HE
    generalize y.dc (n' + 1) = gc at c4
    generalize s.m = m at c2 hm hnm
    have hl95 : l ≤ 95 := by omega
    clear hy hw hf HL hob c3 hR hn hn2 h0 e1 hz hbad h95 hrow
    go_enter Tryz.func37, Tryz.ntmps37
    go_wp2_with fail
    refine h2.mono ?_
    rintro e w1 ⟨rfl, rfl⟩
    go_wp2_with fail
    go_ret
    exact ⟨rfl, HE.out⟩
  · have hc := held_or hz
    rw [show sta (readE s t k i) (setD s (ofS s t k).toNat i v) s = s from if_neg hz]
    change readE s t k i = 2 ∨ readE s t k i = 5 at hc
    generalize readE s t k i = ee at h2 hc ⊢
    generalize slotV s t k - 1 = z at h2
    clear hy hw hf hz
    rcases hc with rfl | rfl <;>
    · go_enter Tryz.func37, Tryz.ntmps37
      go_wp2_with fail
      refine h2.mono ?_
      rintro e w1 ⟨rfl, rfl⟩
      go_wp2_with fail
      go_ret
      exact ⟨rfl, HL.out⟩
end

end Go.Proofs.YtmbhhadghiojeaaGreat

namespace Go.Proofs.YtmbhhadghiojeaaGreat
set_option linter.unusedVariables false
set_option linter.unusedSimpArgs false
open Go.RowKit

section
variable {F : Nat → Prop} {w : World} {q : Nat} {s : Gs} {y : Dl} {M : Nat}
theorem popA_len (A L : List Int) (k : Int) : (popA A L k).length = A.length := by
  unfold popA
  split
  · rfl
  · split
    · rfl
    · rw [List.length_set]
theorem left_drew {s' : Gs} {w' : World} (h : Left F w q s' w') : Left F w q s' w'.drew :=
  ⟨(h.1.on (Kp.refl _ _).drew : Dx (nw F w w') w'.drew q s'), ⟨h.2.os, h.2.tape, h.2.output, h.2.size, h.2.block⟩⟩

set_option maxRecDepth 100000 in
theorem d_Push (hx : Dx F w q s) (hw : Wf s M) (t k : Int) : Calls Tryz.prog 42 #[.pointer (some ⟨q, 0, none⟩), .int .i64 t, .int .i64 k] w fun e w' => e = .returned (.int .i64 (gpushE s t k)) ∧ Left F w q (gpushS s t k) w' := by
  obtain ⟨y, hy, hf⟩ := hx
  have h64 := hw.n64
  have c0 := hy.c0
  cases hb : bT s t
  · obtain ⟨tn, rfl, ht⟩ := bT_no hb
    obtain ⟨c1, c2, f1, f2⟩ := hy.tu ht
    obtain ⟨cur, hrow⟩ := hy.ht.block y.tb (by simp [blk_some])
    obtain ⟨ao, cap, hu, -⟩ := (hy.hu tn ht).form
    obtain ⟨lo, lcap, hv, -⟩ := (hy.hv tn ht).form
    have h1 := rpush_any w _ _ _ _ k (hy.hu tn ht) (hy.hv tn ht) (hy.la tn ht).1 (hy.la tn ht).2
    have hE : gpushE s tn k = pushE (s.A tn) (s.L tn) k := by unfold gpushE; rw [hb, if_neg (by simp)]; rfl
    have hS : gpushS s tn k = { s with A := up s.A tn (s.A tn), L := up s.L tn (pushL (s.A tn) (s.L tn) k) } := by unfold gpushS; rw [hb, if_neg (by simp)]; rfl
    have HE : Hid (∀ w', Stored w y.tb tn (y.u tn) (y.v tn) (s.A tn) (pushL (s.A tn) (s.L tn) k) w' → Left F w q (gpushS s tn k) w') := Lib.hid fun w' st => by
      rw [hS]
      refine left_stored hy hf ht ⟨(hy.la tn ht).1, ?_⟩ st
      have := (hy.la tn ht).2
      unfold pushL
      split
      · exact this
      · split
        · exact this
        · rw [List.length_append]; simp; omega
    have B : Hid (Sx w q y.tb s.nt y.tc tn (y.u tn) (y.v tn) cur w) := Lib.hid ⟨c0, c1, c2, hrow, Kp.refl _ _⟩
    rw [hE]
    obtain ⟨uu, huu⟩ : ∃ uu, uu = y.u tn := ⟨_, rfl⟩
    obtain ⟨vv, hvv⟩ : ∃ vv, vv = y.v tn := ⟨_, rfl⟩
    rw [← huu] at B h1 c1 hu HE
    rw [← hvv] at B h1 c2 hv HE
    generalize gpushS s (tn : Int) k = s' at HE ⊢
    generalize pushE (s.A tn) (s.L tn) k = ee at h1 ⊢
    generalize pushL (s.A tn) (s.L tn) k = L' at h1 HE
    generalize s.A tn = A at h1 HE hu
    generalize A.length = na at hu
    generalize (s.L tn).length = nl at hv
    generalize s.nt = nt at *
    generalize y.tb = tb at *
    generalize y.tc = tc at *
    clear hy hw huu hvv hf hb hE hS
    subst hu hv
    go_enter Tryz.func42, Tryz.ntmps42
    go_wp2_with fail
    refine h1.mono ?_
    rintro e w5 ⟨u', v', rfl, r1, r2, k5, fu, fv⟩
    have ka : Kp [] w5 (w5.alloc (.cells #[u', v'] 64)) := (Kp.refl _ _).alloc _
    have S6 := Lib.hid (sx_on (sx_on B.out k5) ka)
    have d0 := S6.out.1
    have e0 := S6.out.2.1
    have e1 := S6.out.2.2.1
    have g0 := free_of_row S6.out.2.2.2.1 (tn * 2)
    have g1 := free_of_row S6.out.2.2.2.1 (tn * 2 + 1)
    have R5 := Lib.hid (And.intro (r1.keep0 ka) (And.intro (r2.keep0 ka) (And.intro fu (And.intro fv (k5.trans ka)))))
    obtain ⟨ao5, c5', hu5, -⟩ := r1.form
    obtain ⟨lo5, d5, hv5, -⟩ := r2.form
    generalize A.length = n5 at hu5
    generalize L'.length = m5 at hv5
    subst hu5 hv5
    clear r1 r2 fu fv h1 B k5 ka
    go_wp2_with fail
    have b0 : (w5.alloc (.cells #[.slice ao5 n5 c5', .slice lo5 m5 d5] 64)).cell? ⟨w5.heap.size, 0, none⟩ = some (.slice ao5 n5 c5') := cell_of_row (heap_alloc_new w5 _) 0
    have b1 : (w5.alloc (.cells #[.slice ao5 n5 c5', .slice lo5 m5 d5] 64)).cell? ⟨w5.heap.size, 1, none⟩ = some (.slice lo5 m5 d5) := cell_of_row (heap_alloc_new w5 _) 1
    generalize w5.alloc (.cells #[.slice ao5 n5 c5', .slice lo5 m5 d5] 64) = w6 at *
    generalize w5.heap.size = z5 at *
    go_region
    go_wp2_with fail
    go_ret
    exact ⟨rfl, left_drew (HE.out _ ⟨_, _, _, rfl, R5.out.1, R5.out.2.1, R5.out.2.2.2.2, R5.out.2.2.1, R5.out.2.2.2.1⟩)⟩
  · have hE : gpushE s t k = 2 := if_pos hb
    have hS : gpushS s t k = s := if_pos hb
    have HL := Lib.hid (left_same hy hf)
    rw [hE, hS]
    have ho := bT_or hb
    generalize s.nt = nt at c0 ho h64
    generalize y.tb = tb at c0
    generalize y.tc = tc at c0
    clear hy hw hf hb hE hS
    by_cases t0 : t < 0
    · clear ho
      go_enter Tryz.func42, Tryz.ntmps42
      go_wp2_with fail
      go_ret
      exact ⟨rfl, HL.out⟩
    · have t1 : (nt : Int) ≤ t := by omega
      clear ho
      go_enter Tryz.func42, Tryz.ntmps42
      go_wp2_with fail
      go_ret
      exact ⟨rfl, HL.out⟩
set_option maxRecDepth 100000 in
theorem d_Pop (hx : Dx F w q s) (hw : Wf s M) (t k : Int) : Calls Tryz.prog 43 #[.pointer (some ⟨q, 0, none⟩), .int .i64 t, .int .i64 k] w fun e w' => e = .returned (.int .i64 (gpopE s t k)) ∧ Left F w q (gpopS s t k) w' := by
  obtain ⟨y, hy, hf⟩ := hx
  have h64 := hw.n64
  have c0 := hy.c0
  cases hb : bT s t
  · obtain ⟨tn, rfl, ht⟩ := bT_no hb
    obtain ⟨c1, c2, f1, f2⟩ := hy.tu ht
    obtain ⟨cur, hrow⟩ := hy.ht.block y.tb (by simp [blk_some])
    obtain ⟨ao, cap, hu, -⟩ := (hy.hu tn ht).form
    obtain ⟨lo, lcap, hv, -⟩ := (hy.hv tn ht).form
    have h1 := rpop_any w _ _ _ _ k (hy.hu tn ht) (hy.hv tn ht) (hy.la tn ht).1 (hy.la tn ht).2
    have hE : gpopE s tn k = popE (s.A tn) (s.L tn) k := by unfold gpopE; rw [hb, if_neg (by simp)]; rfl
    have hS : gpopS s tn k = { s with A := up s.A tn (popA (s.A tn) (s.L tn) k), L := up s.L tn (popL (s.A tn) (s.L tn) k) } := by unfold gpopS; rw [hb, if_neg (by simp)]; rfl
    have HE : Hid (∀ w', Stored w y.tb tn (y.u tn) (y.v tn) (popA (s.A tn) (s.L tn) k) (popL (s.A tn) (s.L tn) k) w' → Left F w q (gpopS s tn k) w') := Lib.hid fun w' st => by
      rw [hS]
      refine left_stored hy hf ht ⟨by rw [popA_len]; exact (hy.la tn ht).1, ?_⟩ st
      have := (hy.la tn ht).2
      unfold popL
      split
      · exact this
      · rw [List.length_dropLast]; omega
    have B : Hid (Sx w q y.tb s.nt y.tc tn (y.u tn) (y.v tn) cur w) := Lib.hid ⟨c0, c1, c2, hrow, Kp.refl _ _⟩
    rw [hE]
    obtain ⟨uu, huu⟩ : ∃ uu, uu = y.u tn := ⟨_, rfl⟩
    obtain ⟨vv, hvv⟩ : ∃ vv, vv = y.v tn := ⟨_, rfl⟩
    rw [← huu] at B h1 c1 hu HE
    rw [← hvv] at B h1 c2 hv HE
    generalize gpopS s (tn : Int) k = s' at HE ⊢
    generalize popE (s.A tn) (s.L tn) k = ee at h1 ⊢
    generalize popL (s.A tn) (s.L tn) k = L' at h1 HE
    generalize popA (s.A tn) (s.L tn) k = A at h1 HE
    generalize (s.A tn).length = na at hu
    generalize (s.L tn).length = nl at hv
    generalize s.nt = nt at *
    generalize y.tb = tb at *
    generalize y.tc = tc at *
    clear hy hw huu hvv hf hb hE hS
    subst hu hv
    go_enter Tryz.func43, Tryz.ntmps43
    go_wp2_with fail
    refine h1.mono ?_
    rintro e w5 ⟨u', v', rfl, r1, r2, k5, fu, fv⟩
    have ka : Kp [] w5 (w5.alloc (.cells #[u', v'] 64)) := (Kp.refl _ _).alloc _
    have S6 := Lib.hid (sx_on (sx_on B.out k5) ka)
    have d0 := S6.out.1
    have e0 := S6.out.2.1
    have e1 := S6.out.2.2.1
    have g0 := free_of_row S6.out.2.2.2.1 (tn * 2)
    have g1 := free_of_row S6.out.2.2.2.1 (tn * 2 + 1)
    have R5 := Lib.hid (And.intro (r1.keep0 ka) (And.intro (r2.keep0 ka) (And.intro fu (And.intro fv (k5.trans ka)))))
    obtain ⟨ao5, c5', hu5, -⟩ := r1.form
    obtain ⟨lo5, d5, hv5, -⟩ := r2.form
    generalize A.length = n5 at hu5
    generalize L'.length = m5 at hv5
    subst hu5 hv5
    clear r1 r2 fu fv h1 B k5 ka
    go_wp2_with fail
    have b0 : (w5.alloc (.cells #[.slice ao5 n5 c5', .slice lo5 m5 d5] 64)).cell? ⟨w5.heap.size, 0, none⟩ = some (.slice ao5 n5 c5') := cell_of_row (heap_alloc_new w5 _) 0
    have b1 : (w5.alloc (.cells #[.slice ao5 n5 c5', .slice lo5 m5 d5] 64)).cell? ⟨w5.heap.size, 1, none⟩ = some (.slice lo5 m5 d5) := cell_of_row (heap_alloc_new w5 _) 1
    generalize w5.alloc (.cells #[.slice ao5 n5 c5', .slice lo5 m5 d5] 64) = w6 at *
    generalize w5.heap.size = z5 at *
    go_region
    go_wp2_with fail
    go_ret
    exact ⟨rfl, left_drew (HE.out _ ⟨_, _, _, rfl, R5.out.1, R5.out.2.1, R5.out.2.2.2.2, R5.out.2.2.1, R5.out.2.2.2.1⟩)⟩
  · have hE : gpopE s t k = 2 := if_pos hb
    have hS : gpopS s t k = s := if_pos hb
    have HL := Lib.hid (left_same hy hf)
    rw [hE, hS]
    have ho := bT_or hb
    generalize s.nt = nt at c0 ho h64
    generalize y.tb = tb at c0
    generalize y.tc = tc at c0
    clear hy hw hf hb hE hS
    by_cases t0 : t < 0
    · clear ho
      go_enter Tryz.func43, Tryz.ntmps43
      go_wp2_with fail
      go_ret
      exact ⟨rfl, HL.out⟩
    · have t1 : (nt : Int) ≤ t := by omega
      clear ho
      go_enter Tryz.func43, Tryz.ntmps43
      go_wp2_with fail
      go_ret
      exact ⟨rfl, HL.out⟩
end

end Go.Proofs.YtmbhhadghiojeaaGreat

namespace Go.Proofs.YtmbhhadghiojeaaGreat
set_option linter.unusedVariables false
set_option linter.unusedSimpArgs false
open Go.RowKit

section
variable {F : Nat → Prop} {w wA w6 : World} {q : Nat} {s : Gs} {y : Dl} {M : Nat}
theorem Left.trans {s1 s2 : Gs} {w1 w2 : World} (h : Left F w q s1 w1) (h2 : Left (nw F w w1) w1 q s2 w2) : Left F w q s2 w2 := by
  refine ⟨h2.1.mono fun b hb => ?_, ⟨h2.2.os.trans h.2.os, h2.2.tape.trans h.2.tape, h2.2.output.trans h.2.output, Nat.le_trans h.2.size h2.2.size, fun k hk hn => (h2.2.block k (Nat.lt_of_lt_of_le hk h.2.size) fun hb => ?_).trans (h.2.block k hk hn)⟩⟩
  · rcases hb with (hb | ⟨b1, b2⟩) | ⟨b1, b2⟩
    · exact .inl hb
    · exact .inr ⟨b1, Nat.lt_of_lt_of_le b2 h2.2.size⟩
    · exact .inr ⟨Nat.le_trans h.2.size b1, b2⟩
  · rcases hb with hb | ⟨b1, b2⟩
    · exact hn hb
    · omega
def Dl.more (y : Dl) (o : Value) (m g1 r g2 d : Nat) : Dl := { y with o := o, ig := up y.ig (m + 1) g1, ic := up y.ic (m + 1) r, dg := up y.dg (m + 1) g2, dc := up y.dc (m + 1) d }
theorem more_refs {o : Value} {g1 r g2 d : Nat} {rr zz : Int} {n : Nat} (hn : n ≤ s.m) : refsV (y.more o s.m g1 r g2 d) (newO s rr zz) n = refsV y s n := by
  simp only [refsV, Dl.more, newO]
  rw [up_other _ _ (by omega), up_other _ _ (by omega), up_other _ _ (by omega)]
theorem more_data {o : Value} {g1 r g2 d : Nat} {rr zz : Int} {n : Nat} (hn : n ≤ s.m) : dataV (y.more o s.m g1 r g2 d) (newO s rr zz) n = dataV y s n := by
  simp only [dataV, Dl.more, newO]
  rw [up_other _ _ (by omega), up_other _ _ (by omega), up_other _ _ (by omega)]
theorem Dy.made (hy : Dy w q s y) (hf : ∀ b, Feet q s y b → F b) (k1 : Kp [] w wA) {r d g1 g2 : Nat} (h1 : Ro 3 .i64 wA g1 (List.replicate r 0)) (h2 : Ro 31 .u64 wA g2 (List.replicate d 0)) (ge1 : w.heap.size ≤ g1) (ge2 : w.heap.size ≤ g2) {b cap : Nat}
    (hown : w6.ownsRow 0 81 2 (.slice (some ⟨b, 0, none⟩) (s.m + 1) cap) (s.m + 1) (prs (fun k => refsV y s (k + 1)) (fun k => dataV y s (k + 1)) s.m ++ [.slice (some ⟨g1, 0, none⟩) r r, .slice (some ⟨g2, 0, none⟩) d d]))
    (k6 : Kp (blk y.o) wA w6) (hb : b ∈ blk y.o ∨ w.heap.size ≤ b) (rr zz : Int) (er : rr.toNat = r) (ed : (zz - rr).toNat = d) :
    Left F w q (newO s rr zz) (w6.setCell ⟨q, 2, none⟩ (.slice (some ⟨b, 0, none⟩) (s.m + 1) cap)) := by
  have hyA := hy.keep0 k1
  have kE : Kp [q] w6 (w6.setCell ⟨q, 2, none⟩ (.slice (some ⟨b, 0, none⟩) (s.m + 1) cap)) := (Kp.refl _ _).setCell (.inl (by simp)) _
  have nt : ∀ {x : Nat} {cs : Array Value} {t : TypeId}, wA.heap[x]? = some (.cells cs t (0, 0)) → 81 ≠ t → x ∉ blk y.o := fun hx ht e => by
    obtain ⟨cur, hc⟩ := hyA.ho.block _ e
    exact ne_types hc hx ht rfl
  have hp6 := k6.row (nt hyA.hp (by decide)) hyA.hp
  have nq : ∀ {x : Nat} {cs : Array Value} {t : TypeId}, w6.heap[x]? = some (.cells cs t (0, 0)) → t ≠ 62 → x ∉ [q] := fun hx ht => by
    rw [List.mem_singleton]
    exact ne_types hx hp6 ht
  have rdk : ∀ {x : Value} {xs : List Int}, Rd w x xs → Rd (w6.setCell ⟨q, 2, none⟩ (.slice (some ⟨b, 0, none⟩) (s.m + 1) cap)) x xs := fun hr => by
    have hrA := hr.keep0 k1
    have hr6 := hrA.keep k6 fun x hx => by
      obtain ⟨cur, hc⟩ := hrA.ty x hx
      exact nt hc (by decide)
    exact hr6.keep kE fun x hx => by
      obtain ⟨cur, hc⟩ := hr6.ty x hx
      exact nq hc (by decide)
  have rok : ∀ {T : TypeId} {k : IntKind} {x : Nat} {xs : List Int}, 81 ≠ T → T ≠ 62 → Ro T k wA x xs → Ro T k (w6.setCell ⟨q, 2, none⟩ (.slice (some ⟨b, 0, none⟩) (s.m + 1) cap)) x xs := fun t1 t2 hr => by
    obtain ⟨cur, hc, hx⟩ := hr
    have hr6 := k6.row (nt hc t1) hc
    exact ⟨cur, kE.row (nq hr6 t2) hr6, hx⟩
  have osz : wA.heap.size ≤ (w6.setCell ⟨q, 2, none⟩ (.slice (some ⟨b, 0, none⟩) (s.m + 1) cap)).heap.size := Nat.le_trans k6.size kE.size
  have lt1 : g1 < wA.heap.size := h1.lt
  have lt2 : g2 < wA.heap.size := h2.lt
  have bq : b ≠ q := by
    rcases hown.2 with ⟨e, _⟩ | ⟨b', c', cur, e, _, hbb, _⟩
    · cases e
    · simp only [Value.slice.injEq, Option.some.injEq, Addr.mk.injEq, true_and, and_true] at e
      obtain ⟨rfl, _⟩ := e
      exact ne_types hbb hp6 (by decide)
  have blt : b < (w6.setCell ⟨q, 2, none⟩ (.slice (some ⟨b, 0, none⟩) (s.m + 1) cap)).heap.size := by
    rcases hown.2 with ⟨e, _⟩ | ⟨b', c', cur, e, _, hbb, _⟩
    · cases e
    · simp only [Value.slice.injEq, Option.some.injEq, Addr.mk.injEq, true_and, and_true] at e
      obtain ⟨rfl, _⟩ := e
      exact Nat.lt_of_lt_of_le (lt_of_block hbb) kE.size
  refine ⟨⟨y.more (.slice (some ⟨b, 0, none⟩) (s.m + 1) cap) s.m g1 r g2 d, ⟨?_, ?_, ?_, fun i hi => rdk (hy.hu i hi), fun i hi => rdk (hy.hv i hi), hy.la, fun n hn => ?_, fun n n1 hn => ?_, fun n k hn hk e => ?_, fun n k n1 hn k1 hk e => ?_, fun i n hi hn => ?_⟩, fun x hx => ?_⟩, ?_⟩
  · rw [heap_setCell_same _ _ _ _ _ _ hp6]
    have := more_refs (s := s) (y := y) (o := .slice (some ⟨b, 0, none⟩) (s.m + 1) cap) (g1 := g1) (r := r) (g2 := g2) (d := d) (rr := rr) (zz := zz) (Nat.zero_le s.m)
    rw [this]
    rfl
  · have ht6 := hyA.ht.keep k6 fun x hx => by
      obtain ⟨cur, hc⟩ := hyA.ht.block x hx
      exact nt hc (by decide)
    exact ht6.keep kE fun x hx => by
      obtain ⟨cur, hc⟩ := ht6.block x hx
      exact nq hc (by decide)
  · have e : prs (fun k => refsV (y.more (.slice (some ⟨b, 0, none⟩) (s.m + 1) cap) s.m g1 r g2 d) (newO s rr zz) (k + 1)) (fun k => dataV (y.more (.slice (some ⟨b, 0, none⟩) (s.m + 1) cap) s.m g1 r g2 d) (newO s rr zz) (k + 1)) (s.m + 1) =
        prs (fun k => refsV y s (k + 1)) (fun k => dataV y s (k + 1)) s.m ++ [.slice (some ⟨g1, 0, none⟩) r r, .slice (some ⟨g2, 0, none⟩) d d] := by
      rw [prs]
      congr 1
      · exact prs_congr s.m fun i hi => ⟨more_refs (by omega), more_data (by omega)⟩
      · simp only [refsV, dataV, Dl.more, newO]
        rw [up_same, up_same, up_same, up_same, up_same, up_same, List.length_replicate, List.length_replicate, er, ed]
    have hpr : Pr 81 w6 (.slice (some ⟨b, 0, none⟩) (s.m + 1) cap) (s.m + 1) (fun k => refsV (y.more (.slice (some ⟨b, 0, none⟩) (s.m + 1) cap) s.m g1 r g2 d) (newO s rr zz) (k + 1)) (fun k => dataV (y.more (.slice (some ⟨b, 0, none⟩) (s.m + 1) cap) s.m g1 r g2 d) (newO s rr zz) (k + 1)) := by
      unfold Pr
      rw [e]
      exact hown
    exact hpr.keep kE fun x hx => by
      rw [blk_some, List.mem_singleton] at hx
      rw [hx, List.mem_singleton]
      exact bq
  · have hn : n ≤ s.m + 1 := hn
    show Ro _ _ _ (up y.ig (s.m + 1) g1 n) (up s.R (s.m + 1) (List.replicate rr.toNat 0) n) ∧ (up s.R (s.m + 1) (List.replicate rr.toNat 0) n).length ≤ up y.ic (s.m + 1) r n
    by_cases e : n = s.m + 1
    · subst e
      rw [up_same, up_same, up_same, er, List.length_replicate]
      exact ⟨rok (by decide) (by decide) h1, Nat.le_refl _⟩
    · rw [up_other _ _ e, up_other _ _ e, up_other _ _ e]
      exact ⟨rok (by decide) (by decide) (hyA.hi n (by omega)).1, (hy.hi n (by omega)).2⟩
  · have hn : n ≤ s.m + 1 := hn
    show Ro _ _ _ (up y.dg (s.m + 1) g2 n) (up s.D (s.m + 1) (List.replicate (zz - rr).toNat 0) n) ∧ (up s.D (s.m + 1) (List.replicate (zz - rr).toNat 0) n).length ≤ up y.dc (s.m + 1) d n
    by_cases e : n = s.m + 1
    · subst e
      rw [up_same, up_same, up_same, ed, List.length_replicate]
      exact ⟨rok (by decide) (by decide) h2, Nat.le_refl _⟩
    · rw [up_other _ _ e, up_other _ _ e, up_other _ _ e]
      exact ⟨rok (by decide) (by decide) (hyA.hd n n1 (by omega)).1, (hy.hd n n1 (by omega)).2⟩
  · have hn : n ≤ s.m + 1 := hn
    have hk : k ≤ s.m + 1 := hk
    have e : up y.ig (s.m + 1) g1 n = up y.ig (s.m + 1) g1 k := e
    by_cases en : n = s.m + 1 <;> by_cases ek : k = s.m + 1
    · omega
    · rw [en, up_same, up_other _ _ ek] at e
      have := (hy.hi k (by omega)).1.lt
      omega
    · rw [ek, up_same, up_other _ _ en] at e
      have := (hy.hi n (by omega)).1.lt
      omega
    · rw [up_other _ _ en, up_other _ _ ek] at e
      exact hy.ai n k (by omega) (by omega) e
  · have hn : n ≤ s.m + 1 := hn
    have hk : k ≤ s.m + 1 := hk
    have e : up y.dg (s.m + 1) g2 n = up y.dg (s.m + 1) g2 k := e
    by_cases en : n = s.m + 1 <;> by_cases ek : k = s.m + 1
    · omega
    · rw [en, up_same, up_other _ _ ek] at e
      have := (hy.hd k k1 (by omega)).1.lt
      omega
    · rw [ek, up_same, up_other _ _ en] at e
      have := (hy.hd n n1 (by omega)).1.lt
      omega
    · rw [up_other _ _ en, up_other _ _ ek] at e
      exact hy.ad n k n1 (by omega) k1 (by omega) e
  · have hn : n ≤ s.m + 1 := hn
    show up y.ig (s.m + 1) g1 n ∉ blk (y.u i) ∧ up y.ig (s.m + 1) g1 n ∉ blk (y.v i)
    by_cases e : n = s.m + 1
    · subst e
      rw [up_same]
      exact ⟨fun hh => by have := (hy.hu i hi).lt _ hh; omega, fun hh => by have := (hy.hv i hi).lt _ hh; omega⟩
    · rw [up_other _ _ e]
      exact hy.au i n hi (by omega)
  · rcases hx with hx | hx | hx | hx | ⟨n, hn, hx⟩ | ⟨n, n1, hn, hx⟩
    · exact .inl (hf x (.inl hx))
    · exact .inl (hf x (.inr (.inl hx)))
    · have hx : x ∈ blk (.slice (some ⟨b, 0, none⟩) (s.m + 1) cap) := hx
      rw [blk_some, List.mem_singleton] at hx
      rw [hx]
      rcases hb with hb | hb
      · exact .inl (hf b (.inr (.inr (.inl hb))))
      · exact .inr ⟨hb, blt⟩
    · exact .inl (hf x (.inr (.inr (.inr (.inl hx)))))
    · have hn : n ≤ s.m + 1 := hn
      have hx : x = up y.ig (s.m + 1) g1 n := hx
      by_cases e : n = s.m + 1
      · rw [e, up_same] at hx
        rw [hx]
        exact .inr ⟨ge1, by omega⟩
      · rw [up_other _ _ e] at hx
        exact .inl (hf x (.inr (.inr (.inr (.inr (.inl ⟨n, by omega, hx⟩))))))
    · have hn : n ≤ s.m + 1 := hn
      have hx : x = up y.dg (s.m + 1) g2 n := hx
      by_cases e : n = s.m + 1
      · rw [e, up_same] at hx
        rw [hx]
        exact .inr ⟨ge2, by omega⟩
      · rw [up_other _ _ e] at hx
        exact .inl (hf x (.inr (.inr (.inr (.inr (.inr ⟨n, n1, by omega, hx⟩))))))
  · have kk : Kp (q :: blk y.o) w (w6.setCell ⟨q, 2, none⟩ (.slice (some ⟨b, 0, none⟩) (s.m + 1) cap)) := ((k1.mono (by simp)).trans (k6.mono fun x hx _ => List.mem_cons_of_mem _ hx)).trans (kE.mono fun x hx _ => by rw [List.mem_singleton] at hx; rw [hx]; exact List.mem_cons_self ..)
    exact Fr.of kk fun x hx => by
      rcases List.mem_cons.1 hx with rfl | hx
      · exact hf _ (.inl rfl)
      · exact hf _ (.inr (.inr (.inl hx)))
end

end Go.Proofs.YtmbhhadghiojeaaGreat
