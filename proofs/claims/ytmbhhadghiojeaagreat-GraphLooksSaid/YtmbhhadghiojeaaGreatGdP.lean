/- A law's act, plainly: what it answers, and what it makes of a graph; and the graph stays such a one. Conditions: as each lemma states them. -/
import Derived.Test.YtmbhhadghiojeaaGreatGrT
namespace Go.Proofs.YtmbhhadghiojeaaGreat
set_option linter.unusedVariables false
set_option linter.unusedSimpArgs false
open Go.RowKit

/-- An act. -/
structure Ac where
  d : Int
  t : Int
  a : Int
  b : Int
  c : Int
  v : Int
def acV (x : Ac) : Value := .agg #[.int .u8 x.d, .int .i64 x.t, .int .i64 x.a, .int .i64 x.b, .int .i64 x.c, .int .u64 x.v]

/-- Its error. -/
def doE (s : Gs) (x : Ac) : Int :=
  if x.d = 0 then allocE s x.t x.a x.b x.c else if x.d = 1 then loadE s x.t x.a x.b x.c else if x.d = 2 then storeE s x.t x.a x.b x.c else if x.d = 3 then readE s x.t x.a x.b
  else if x.d = 4 then readE s x.t x.a x.b else if x.d = 5 then getE s x.t x.a x.b else if x.d = 6 then getE s x.t x.b x.a else if x.d = 7 then moveE s x.t x.a x.b
  else if x.d = 8 then clearE s x.t x.a else if x.d = 9 then gpushE s x.t x.a else if x.d = 10 then gpopE s x.t x.a else clearE s x.t x.a
/-- Its number. -/
def doV (s : Gs) (x : Ac) : Int :=
  if x.d = 0 then val (allocE s x.t x.a x.b x.c) ((s.m : Int) + 1) else if x.d = 1 then val (loadE s x.t x.a x.b x.c) ((onR s x.t x.b).getD x.c.toNat 0) else if x.d = 2 then 0
  else if x.d = 3 then val (readE s x.t x.a x.b) ((onD s x.t x.a).getD x.b.toNat 0) else if x.d = 4 then 0 else if x.d = 5 then val (getE s x.t x.a x.b) ((s.R 0).getD x.b.toNat 0)
  else if x.d = 6 then 0 else if x.d = 7 then 0 else if x.d = 8 then 0 else if x.d = 9 then 0 else if x.d = 10 then 0 else val (clearE s x.t x.a) (ofS s x.t x.a)
/-- What it makes. -/
def doS (s : Gs) (x : Ac) : Gs :=
  if x.d = 0 then sta (allocE s x.t x.a x.b x.c) (setS (newO s x.b x.c) x.t x.a ((s.m : Int) + 1)) s
  else if x.d = 1 then sta (loadE s x.t x.a x.b x.c) (setS s x.t x.a ((onR s x.t x.b).getD x.c.toNat 0)) s
  else if x.d = 2 then sta (storeE s x.t x.a x.b x.c) (setR s (ofS s x.t x.a).toNat x.b (ofS s x.t x.c)) s
  else if x.d = 3 then s
  else if x.d = 4 then sta (readE s x.t x.a x.b) (setD s (ofS s x.t x.a).toNat x.b x.v) s
  else if x.d = 5 then sta (getE s x.t x.a x.b) (setS s x.t x.a ((s.R 0).getD x.b.toNat 0)) s
  else if x.d = 6 then sta (getE s x.t x.b x.a) (setR s 0 x.a (ofS s x.t x.b)) s
  else if x.d = 7 then sta (moveE s x.t x.a x.b) (setS s x.t x.a (ofS s x.t x.b)) s
  else if x.d = 8 then sta (clearE s x.t x.a) (setS s x.t x.a 0) s
  else if x.d = 9 then gpushS s x.t x.a
  else if x.d = 10 then gpopS s x.t x.a else s

section
variable {s : Gs} {M : Nat}
theorem Wf.mono {M' : Nat} (h : Wf s M) (hM : M ≤ M') : Wf s M' := ⟨h.n1, h.n64, Nat.le_trans h.m hM, h.g8, h.r95, h.vA, h.vL, h.vR⟩
theorem getD_in (P : Int → Prop) {xs : List Int} (i : Nat) (h0 : P 0) (h : ∀ x ∈ xs, P x) : P (xs.getD i 0) := by
  by_cases hi : i < xs.length
  · exact h _ (getD_mem hi)
  · rw [show xs.getD i 0 = 0 from by simp [List.getD, Nat.le_of_not_lt hi]]; exact h0
theorem mem_set {xs : List Int} {i : Nat} {y x : Int} (h : x ∈ xs.set i y) : x ∈ xs ∨ x = y := List.mem_or_eq_of_mem_set h
theorem wf_setS (h : Wf s M) (t d : Int) {x : Int} (hx : 0 ≤ x ∧ x ≤ s.m) : Wf (setS s t d x) M := by
  refine ⟨h.n1, h.n64, h.m, h.g8, h.r95, fun u hu z hz => ?_, h.vL, h.vR⟩
  have hz : z ∈ up s.A t.toNat ((s.A t.toNat).set d.toNat x) u := hz
  by_cases e : u = t.toNat
  · subst e
    rw [up_same] at hz
    rcases mem_set hz with q | rfl
    · exact h.vA _ hu z q
    · exact hx
  · rw [up_other _ _ e] at hz
    exact h.vA u hu z hz
theorem wf_setR (h : Wf s M) (n : Nat) (i : Int) {x : Int} (hx : 0 ≤ x ∧ x ≤ s.m) : Wf (setR s n i x) M := by
  have hl : ∀ j, (up s.R n ((s.R n).set i.toNat x) j).length = (s.R j).length := fun j => by
    by_cases e : j = n
    · subst e; rw [up_same, List.length_set]
    · rw [up_other _ _ e]
  refine ⟨h.n1, h.n64, h.m, ?_, fun k a b => ?_, h.vA, h.vL, fun k hk z hz => ?_⟩
  · show (up s.R n ((s.R n).set i.toNat x) 0).length ≤ 8
    rw [hl]; exact h.g8
  · show (up s.R n ((s.R n).set i.toNat x) k).length + _ ≤ 95
    rw [hl]; exact h.r95 k a b
  · have hz : z ∈ up s.R n ((s.R n).set i.toNat x) k := hz
    by_cases e : k = n
    · subst e
      rw [up_same] at hz
      rcases mem_set hz with q | rfl
      · exact h.vR _ hk z q
      · exact hx
    · rw [up_other _ _ e] at hz
      exact h.vR k hk z hz
theorem wf_setD (h : Wf s M) (n : Nat) (i x : Int) : Wf (setD s n i x) M := by
  have hl : ∀ j, (up s.D n ((s.D n).set i.toNat x) j).length = (s.D j).length := fun j => by
    by_cases e : j = n
    · subst e; rw [up_same, List.length_set]
    · rw [up_other _ _ e]
  refine ⟨h.n1, h.n64, h.m, h.g8, fun k a b => ?_, h.vA, h.vL, h.vR⟩
  show _ + (up s.D n ((s.D n).set i.toNat x) k).length ≤ 95
  rw [hl]; exact h.r95 k a b
theorem wf_newO (h : Wf s M) {r z : Int} (h0 : 0 ≤ r) (h1 : r ≤ z) (h2 : z ≤ 95) : Wf (newO s r z) (M + 1) := by
  refine ⟨h.n1, h.n64, by have := h.m; show s.m + 1 ≤ M + 1; omega, ?_, fun k a b => ?_, fun u hu z hz => ?_, fun u hu z hz => ?_, fun k hk x hx => ?_⟩
  · show (up s.R (s.m + 1) (List.replicate r.toNat 0) 0).length ≤ 8
    rw [up_other _ _ (by omega)]; exact h.g8
  · show (up s.R (s.m + 1) (List.replicate r.toNat 0) k).length + (up s.D (s.m + 1) (List.replicate (z - r).toNat 0) k).length ≤ 95
    by_cases e : k = s.m + 1
    · subst e
      rw [up_same, up_same, List.length_replicate, List.length_replicate]
      omega
    · rw [up_other _ _ e, up_other _ _ e]
      have b : k ≤ s.m + 1 := b
      exact h.r95 k a (by omega)
  · have := h.vA u hu z hz
    exact ⟨this.1, by show z ≤ ((s.m + 1 : Nat) : Int); omega⟩
  · have := h.vL u hu z hz
    exact ⟨this.1, by show z ≤ ((s.m + 1 : Nat) : Int); omega⟩
  · have hx : x ∈ up s.R (s.m + 1) (List.replicate r.toNat 0) k := hx
    have hk : k ≤ s.m + 1 := hk
    by_cases e : k = s.m + 1
    · subst e
      rw [up_same, List.mem_replicate] at hx
      rw [hx.2]
      exact ⟨Int.le_refl _, by show (0 : Int) ≤ ((s.m + 1 : Nat) : Int); omega⟩
    · rw [up_other _ _ e] at hx
      have := h.vR k (by omega) x hx
      exact ⟨this.1, by show x ≤ ((s.m + 1 : Nat) : Int); omega⟩
theorem wf_AL (h : Wf s M) (t : Nat) {A L : List Int} (hA : t < s.nt → ∀ x ∈ A, 0 ≤ x ∧ x ≤ s.m) (hL : t < s.nt → ∀ x ∈ L, 0 ≤ x ∧ x ≤ s.m) : Wf { s with A := up s.A t A, L := up s.L t L } M := by
  refine ⟨h.n1, h.n64, h.m, h.g8, h.r95, fun u hu z hz => ?_, fun u hu z hz => ?_, h.vR⟩
  · have hz : z ∈ up s.A t A u := hz
    by_cases e : u = t
    · subst e; rw [up_same] at hz; exact hA hu z hz
    · rw [up_other _ _ e] at hz; exact h.vA u hu z hz
  · have hz : z ∈ up s.L t L u := hz
    by_cases e : u = t
    · subst e; rw [up_same] at hz; exact hL hu z hz
    · rw [up_other _ _ e] at hz; exact h.vL u hu z hz
theorem z_le (s : Gs) : (0 : Int) ≤ 0 ∧ (0 : Int) ≤ s.m := ⟨Int.le_refl _, by omega⟩
theorem ofS_in (h : Wf s M) {t k : Int} (hb : bT s t = false) : 0 ≤ ofS s t k ∧ ofS s t k ≤ s.m := by
  obtain ⟨tn, rfl, ht⟩ := bT_no hb
  exact getD_in (fun x => 0 ≤ x ∧ x ≤ s.m) _ (z_le s) (h.vA tn ht)
theorem bK_bT {t k : Int} (h : bK s t k = false) : bT s t = false := by
  rw [bK, Bool.or_eq_false_iff] at h
  exact h.1
theorem sta_wf {e : Int} {s' : Gs} {M' : Nat} (h : Wf s M) (hM : M ≤ M') (h' : e = 0 → Wf s' M') : Wf (sta e s' s) M' := by
  unfold sta
  split
  · exact h' ‹_›
  · exact h.mono hM
theorem heldE_z {b : Bool} {n i : Int} {xs : List Int} (h : heldE b n xs i = 0) : b = false := by
  cases b
  · rfl
  · rw [heldE_b rfl] at h; cases h
theorem if2 {b : Bool} (h : (if b = true then (2 : Int) else 0) = 0) : b = false := by
  cases b
  · rfl
  · exact absurd h (by decide)
theorem allocE_z {t d r z : Int} (h : allocE s t d r z = 0) : 0 ≤ r ∧ r ≤ z ∧ z ≤ 95 := by
  unfold allocE at h
  cases hb : bK s t d
  · rw [hb, if_neg (by simp)] at h
    have := if2 h
    simp at this
    omega
  · rw [hb, if_pos rfl] at h; cases h

/-- Behind an act it is such a one still. -/
theorem wf_do (h : Wf s M) (x : Ac) : Wf (doS s x) (M + 1) := by
  have up1 : M ≤ M + 1 := Nat.le_succ _
  unfold doS
  split
  · refine sta_wf h up1 fun he => ?_
    obtain ⟨a, b, c⟩ := allocE_z he
    exact wf_setS (wf_newO h a b c) _ _ ⟨by omega, by show _ ≤ ((s.m + 1 : Nat) : Int); omega⟩
  split
  · refine sta_wf h up1 fun he => (wf_setS h _ _ ?_).mono up1
    have hb := heldE_z he
    rw [Bool.or_eq_false_iff] at hb
    have ho := ofS_in h (k := x.b) (bK_bT hb.2)
    exact getD_in (fun y => 0 ≤ y ∧ y ≤ s.m) _ (z_le s) fun y hy => h.vR (ofS s x.t x.b).toNat (by omega) y hy
  split
  · refine sta_wf h up1 fun he => (wf_setR h _ _ ?_).mono up1
    have hb := heldE_z he
    rw [Bool.or_eq_false_iff] at hb
    exact ofS_in h (bK_bT hb.2)
  split
  · exact h.mono up1
  split
  · exact sta_wf h up1 fun _ => (wf_setD h _ _ _).mono up1
  split
  · exact sta_wf h up1 fun _ => (wf_setS h _ _ (getD_in (fun y => 0 ≤ y ∧ y ≤ s.m) _ (z_le s) (h.vR 0 (Nat.zero_le _)))).mono up1
  split
  · refine sta_wf h up1 fun he => (wf_setR h _ _ ?_).mono up1
    have hb := if2 he
    rw [Bool.or_eq_false_iff] at hb
    exact ofS_in h (bK_bT hb.1)
  split
  · refine sta_wf h up1 fun he => (wf_setS h _ _ ?_).mono up1
    have hb := if2 he
    rw [Bool.or_eq_false_iff] at hb
    exact ofS_in h (bK_bT hb.2)
  split
  · exact sta_wf h up1 fun _ => (wf_setS h _ _ (z_le s)).mono up1
  split
  · unfold gpushS
    split
    · exact h.mono up1
    · refine (wf_AL h _ (h.vA _) fun ht => ?_).mono up1
      unfold pushL
      split
      · exact h.vL _ ht
      · split
        · exact h.vL _ ht
        · intro y hy
          rw [List.mem_append, List.mem_singleton] at hy
          rcases hy with hy | rfl
          · exact h.vL _ ht y hy
          · exact getD_in (fun y => 0 ≤ y ∧ y ≤ s.m) _ (z_le s) (h.vA _ ht)
  split
  · unfold gpopS
    split
    · exact h.mono up1
    · refine (wf_AL h _ (fun ht => ?_) fun ht => ?_).mono up1
      · unfold popA
        split
        · exact h.vA _ ht
        · split
          · exact h.vA _ ht
          · rename_i hne
            intro y hy
            rcases mem_set hy with q | rfl
            · exact h.vA _ ht y q
            · refine h.vL _ ht _ ?_
              rw [List.getLastD_eq_getLast?]
              rw [List.getLast?_eq_some_getLast hne]
              exact List.getLast_mem hne
      · unfold popL
        split
        · exact h.vL _ ht
        · intro y hy
          exact h.vL _ ht y ((List.dropLast_sublist _).subset hy)
  · exact h.mono up1

/-- The number is none below 0, nor too great. -/
theorem doV_in (h : Wf s M) (hM : M ≤ 10000) (x : Ac) (h3 : x.d ≠ 3) : 0 ≤ doV s x ∧ doV s x ≤ 1000000 := by
  have hm := h.m
  have vl : ∀ e y : Int, 0 ≤ y ∧ y ≤ (s.m : Int) + 1 → 0 ≤ val e y ∧ val e y ≤ 1000000 := fun e y hy => by
    unfold val
    split <;> omega
  have gd : ∀ (xs : List Int) (i : Nat), (∀ y ∈ xs, 0 ≤ y ∧ y ≤ (s.m : Int)) → 0 ≤ xs.getD i 0 ∧ xs.getD i 0 ≤ (s.m : Int) + 1 := fun xs i hh => by
    have := getD_in (fun y => 0 ≤ y ∧ y ≤ (s.m : Int)) i (z_le s) hh
    omega
  have z : (0 : Int) ≤ 0 ∧ (0 : Int) ≤ 1000000 := by omega
  unfold doV
  split
  · exact vl _ _ (by omega)
  split
  · by_cases he : loadE s x.t x.a x.b x.c = 0
    · refine vl _ _ (gd _ _ ?_)
      have hb := heldE_z he
      rw [Bool.or_eq_false_iff] at hb
      have ho := ofS_in h (k := x.b) (bK_bT hb.2)
      exact h.vR _ (by omega)
    · rw [show val (loadE s x.t x.a x.b x.c) _ = 0 from if_neg he]; exact z
  split
  · exact z
  split
  · exact z
  split
  · exact vl _ _ (gd _ _ (h.vR 0 (Nat.zero_le _)))
  split
  · exact z
  split
  · exact z
  split
  · exact z
  split
  · exact z
  split
  · exact z
  · by_cases he : clearE s x.t x.a = 0
    · have := ofS_in h (k := x.a) (bK_bT (if2 he))
      exact vl _ _ (by omega)
    · rw [show val (clearE s x.t x.a) _ = 0 from if_neg he]; exact z
end

end Go.Proofs.YtmbhhadghiojeaaGreat
