/- Package publish, plainly: what publishing leaves is what is reached. Conditions: as each theorem states them. -/
import Derived.Test.YtdnlddjgjceogaaPbG
namespace Go.Proofs.Ytdnlddjgjceogaa
set_option linter.unusedVariables false
set_option linter.unusedSimpArgs false

/-- What is asked of a heap: objects lie at every fourth place, and lead to such ones alone. -/
structure Hz (ws : List Int) : Prop where
  few : ∀ i : Nat, i % 4 = 1 → nref (ws.getD i 0) ≤ 3
  lead : ∀ i q : Nat, i % 4 = 1 → q < (nref (ws.getD i 0)).toNat → lcl ws (refP ws i q) = true → (refP ws i q).toNat % 4 = 1

theorem Rch.loc {ws : List Int} {a j : Nat} (h : Rch ws a j) : lcl ws j = true := by
  induction h with
  | base h => exact h
  | @step i q _ _ _ h3 _ =>
    have := lcl_in h3
    rw [show (((refP ws i q).toNat : Nat) : Int) = refP ws i q by omega]
    exact h3
theorem Rch.mod {ws : List Int} {a j : Nat} (hz : Hz ws) (ha : a % 4 = 1) (h : Rch ws a j) : j % 4 = 1 := by
  induction h with
  | base _ => exact ha
  | step _ h1 _ h3 ih => exact hz.lead _ _ ih h1 h3

/-- What the words are, of which some objects are shared. -/
def mixW (ws : List Int) (c : Int) (P : Nat → Bool) (j : Nat) : Int := if P j = true then pubI (ws.getD j 0) c else ws.getD j 0

structure Inv (ws : List Int) (c : Int) (a : Nat) (P : Nat → Bool) (y : St × List Int) : Prop where
  len : y.1.ws.length = ws.length
  w : ∀ j, y.1.ws.getD j 0 = mixW ws c P j
  r : ∀ j, P j = true → Rch ws a j
  x : ∀ x ∈ y.2, 0 ≤ x ∧ P x.toNat = true
  cl : ∀ j, P j = true → (j : Int) ∉ y.2 → ∀ q, q < (nref (ws.getD j 0)).toNat → refP ws j q ≠ 0 → lcl ws (refP ws j q) = true → P (refP ws j q).toNat = true

theorem was_nat (s : St) (j : Nat) : was s (j : Int) = s.ws.getD j 0 := by
  by_cases h : j < s.ws.length
  · rw [was_in (inB_iff.2 (by omega))]; simp
  · rw [was_out (by simp [inB]; omega)]
    simp [List.getD, h]
theorem was_neg (s : St) (j : Int) (h : j < 0) : was s j = 0 := was_out (by simp [inB]; omega)
theorem rdS_ws (s : St) (k : Int) : (rdS s k).ws.length = s.ws.length ∧ ∀ j, (rdS s k).ws.getD j 0 = s.ws.getD j 0 := by
  refine ⟨upd_len _ _ _, fun j => ?_⟩
  rw [← was_nat, ← was_nat, rdS, was_upd]
  split
  · rename_i h; rw [h.2]
  · rfl
theorem upd_same_ws (s : St) (k : Int) : (upd s k (was s k)).ws.length = s.ws.length ∧ ∀ j, (upd s k (was s k)).ws.getD j 0 = s.ws.getD j 0 := rdS_ws s k

theorem nref_pub {x c : Int} (h : locB x = true) (h0 : 0 ≤ c) (h1 : c ≤ 1) : nref (pubI x c) = nref x := by
  have e := parts_of_word 3 c (x / 32 % 64) (x / 2048 % 128) (x / 262144 % 128) false false (by omega) h0 (by omega) (by omega) (by omega) (locB_may h h0 h1)
  have t := takeB_of_word 3 c (x / 32 % 64) (x / 2048 % 128) (x / 262144 % 128) false false (by omega) h0 (by omega) (by omega) (by omega) (locB_may h h0 h1)
  have t1 : takeB (pubI x c) = true := t
  rw [nref, nref, if_pos t1, if_pos (locB_take h).1]
  exact e.2.2.2.1

section
variable {ws : List Int} {c : Int} {a : Nat} {P : Nat → Bool} {y : St × List Int}
theorem Inv.same {s2 : St} {s : St} {xs : List Int} (h : Inv ws c a P (s, xs)) (h1 : s2.ws.length = s.ws.length) (h2 : ∀ j, s2.ws.getD j 0 = s.ws.getD j 0) : Inv ws c a P (s2, xs) :=
  ⟨h1.trans h.len, fun j => (h2 j).trans (h.w j), h.r, h.x, h.cl⟩

/-- Is the word at a place a Local header now? -/
theorem Inv.now {s : St} {xs : List Int} (h : Inv ws c a P (s, xs)) (h0 : 0 ≤ c) (h1 : c ≤ 1) (v : Int) : locB (was s v) = (lcl ws v && !(P v.toNat)) := by
  by_cases hv : 0 ≤ v
  · obtain ⟨n, rfl⟩ : ∃ n : Nat, v = n := ⟨v.toNat, by omega⟩
    rw [was_nat, h.w, Int.toNat_natCast]
    by_cases hn : n < ws.length
    · unfold mixW
      cases hp : P n
      · simp [lcl, hn]
      · have hl := (h.r n hp).loc
        simp only [lcl, Bool.and_eq_true, Int.toNat_natCast] at hl
        rw [if_pos rfl, locB_pub hl.2 h0 h1]
        simp
    · have e : ws.getD n 0 = 0 := by simp [List.getD, hn]
      have hp : P n = false := by
        cases hp : P n
        · rfl
        · have := lcl_in (h.r n hp).loc; omega
      unfold mixW
      simp [hp, lcl, hn, e, locB_zero_no]
  · rw [was_neg _ _ (by omega), locB_zero_no]
    simp [lcl]; omega

/-- Sharing what one who is reached leads to. -/
theorem Inv.share {s : St} {xs : List Int} (h : Inv ws c a P (s, xs)) (h0 : 0 ≤ c) (h1 : c ≤ 1) (v : Int) (hr : lcl ws v = true → Rch ws a v.toNat) :
    ∃ P', Inv ws c a P' (shS s v c, shX s xs v) ∧ (∀ j, P j = true → P' j = true) ∧ (lcl ws v = true → P' v.toNat = true) := by
  have hnow := h.now h0 h1 v
  by_cases hl : locB (was s v) = true
  · rw [hl] at hnow
    have hnow' : lcl ws v = true ∧ P v.toNat = false := by simpa using hnow.symm
    obtain ⟨g1, g2⟩ := hnow'
    have hvb := lcl_in g1
    have hin : inB s v = true := inB_iff.2 (by have := h.len; simp only at this; omega)
    have hwv : was s v = ws.getD v.toNat 0 := by
      have := h.w v.toNat
      rw [← was_nat, show ((v.toNat : Nat) : Int) = v by omega, mixW, if_neg (by simp [g2])] at this
      exact this
    refine ⟨fun j => decide (j = v.toNat) || P j, ⟨?_, fun j => ?_, fun j hj => ?_, fun x hx => ?_, fun j hj hnx q hq h2 h3 => ?_⟩, fun j hj => by simp [hj], fun _ => by simp⟩
    · simp only [shS, upd_len]; exact h.len
    · simp only
      rw [← was_nat, shS, was_upd, shY, if_pos hl]
      unfold mixW
      by_cases hj : j = v.toNat
      · subst hj
        rw [if_pos ⟨hin, by omega⟩, hwv]
        simp
      · rw [if_neg (by rintro ⟨_, e⟩; omega), was_nat, h.w, mixW]
        simp [hj]
    · simp only [Bool.or_eq_true, decide_eq_true_eq] at hj
      rcases hj with rfl | hj
      · exact hr g1
      · exact h.r j hj
    · simp only [shX, if_pos hl] at hx
      rcases List.mem_append.1 hx with hx | hx
      · obtain ⟨a1, a2⟩ := h.x x hx
        exact ⟨a1, by simp [a2]⟩
      · have : x = v := by simpa using hx
        subst this
        exact ⟨hvb.1, by simp⟩
    · simp only [shX, if_pos hl] at hnx
      simp only [List.mem_append, List.mem_singleton, not_or] at hnx
      simp only [Bool.or_eq_true, decide_eq_true_eq] at hj ⊢
      rcases hj with rfl | hj
      · exact absurd (by omega) hnx.2
      · exact .inr (h.cl j hj hnx.1 q hq h2 h3)
  · have hl' : locB (was s v) = false := by simpa using hl
    rw [hl'] at hnow
    refine ⟨P, ?_, fun _ hj => hj, fun hg => ?_⟩
    · have e : shX s xs v = xs := by rw [shX, if_neg hl]
      have e2 : shS s v c = upd s v (was s v) := by rw [shS, shY, if_neg hl]
      rw [e, e2]
      exact h.same (upd_same_ws s v).1 (upd_same_ws s v).2
    · rw [hg] at hnow
      cases hp : P v.toNat
      · rw [hp] at hnow; cases hnow
      · rfl

/-- What a reference is now. -/
theorem Inv.ref {s : St} {xs : List Int} (h : Inv ws c a P (s, xs)) (hz : Hz ws) (ha : a % 4 = 1) (x q : Nat) (hx : x % 4 = 1) (hq : q < (nref (ws.getD x 0)).toNat) : was s ((x : Int) + 1 + q) = refP ws x q := by
  have hf := hz.few x hx
  rw [show (x : Int) + 1 + q = ((x + 1 + q : Nat) : Int) by omega, was_nat, h.w, mixW]
  have hnp : P (x + 1 + q) = false := by
    cases hp : P (x + 1 + q)
    · rfl
    · have := (h.r _ hp).mod hz ha; omega
  rw [hnp]
  unfold refP
  by_cases hl : x + 1 + q < ws.length
  · simp [hl]
  · simp [hl, List.getD]

theorem Inv.look {s : St} {xs : List Int} (h : Inv ws c a P (s, xs)) (h0 : 0 ≤ c) (h1 : c ≤ 1) (hz : Hz ws) (ha : a % 4 = 1) (x : Nat) (hx : P x = true) (n : Nat) (hn : n ≤ (nref (ws.getD x 0)).toNat) :
    ∃ P', Inv ws c a P' (lookL c x n (s, xs)) ∧ (∀ j, P j = true → P' j = true) ∧ (∀ q, q < n → refP ws x q ≠ 0 → lcl ws (refP ws x q) = true → P' (refP ws x q).toNat = true) := by
  induction n with
  | zero => exact ⟨P, h, fun _ hj => hj, fun q hq => by omega⟩
  | succ n ih =>
    obtain ⟨P1, i1, i2, i3⟩ := ih (by omega)
    have hxm := (h.r x hx).mod hz ha
    rw [lookL]
    generalize lookL c x n (s, xs) = y1 at *
    obtain ⟨s1, xs1⟩ := y1
    have hv := i1.ref hz ha x n hxm (by omega)
    unfold stepL
    simp only [hv]
    have hu := upd_same_ws s1 ((x : Int) + 1 + n)
    rw [hv] at hu
    have i4 := i1.same hu.1 hu.2
    by_cases hz0 : refP ws x n = 0
    · rw [if_pos hz0]
      exact ⟨P1, i4, i2, fun q hq h2 h3 => by
        by_cases hqn : q = n
        · subst hqn; exact absurd hz0 h2
        · exact i3 q (by omega) h2 h3⟩
    · rw [if_neg hz0]
      obtain ⟨P2, j1, j2, j3⟩ := i4.share h0 h1 (refP ws x n) (fun hl => Rch.step (h.r x hx) (by omega) hz0 hl)
      exact ⟨P2, j1, fun j hj => j2 j (i2 j hj), fun q hq h2 h3 => by
        by_cases hqn : q = n
        · subst hqn; exact j3 h3
        · exact j2 _ (i3 q (by omega) h2 h3)⟩

theorem Inv.round {s : St} {xs : List Int} (h : Inv ws c a P (s, xs)) (h0 : 0 ≤ c) (h1 : c ≤ 1) (hz : Hz ws) (ha : a % 4 = 1) : ∃ P', Inv ws c a P' (rndP c (s, xs)) ∧ (∀ j, P j = true → P' j = true) := by
  rcases xs with _ | ⟨x, xs⟩
  · exact ⟨P, h, fun _ hj => hj⟩
  · obtain ⟨x0, hp⟩ := h.x x (by simp)
    obtain ⟨n, rfl⟩ : ∃ n : Nat, x = n := ⟨x.toNat, by omega⟩
    rw [Int.toNat_natCast] at hp
    have hl := (h.r n hp).loc
    simp only [lcl, Bool.and_eq_true, Int.toNat_natCast] at hl
    have hnr : nref (was s (n : Int)) = nref (ws.getD n 0) := by
      rw [was_nat, h.w, mixW, if_pos hp, nref_pub hl.2 h0 h1]
    have hrd := rdS_ws s (n : Int)
    have h2 := h.same (s2 := rdS s n) hrd.1 hrd.2
    obtain ⟨P', i1, i2, i3⟩ := h2.look h0 h1 hz ha n hp _ (Nat.le_refl _)
    have e : lookS c n (s, (n : Int) :: xs) = lookL c n (nref (ws.getD n 0)).toNat (rdS s n, (n : Int) :: xs) := by rw [lookS, hnr]
    obtain ⟨zs, hzs⟩ := look_grows c n (nref (ws.getD n 0)).toNat (rdS s n, (n : Int) :: xs)
    refine ⟨P', ?_, i2⟩
    unfold rndP
    simp only
    rw [e]
    generalize lookL c n (nref (ws.getD n 0)).toNat (rdS s n, (n : Int) :: xs) = y1 at *
    obtain ⟨s1, ys⟩ := y1
    simp only at hzs
    subst hzs
    refine ⟨i1.len, i1.w, i1.r, fun x hx => i1.x x (by simp only [List.cons_append, List.tail_cons, List.mem_cons] at hx ⊢; exact .inr hx), fun j hj hnx q hq g2 g3 => ?_⟩
    by_cases hjn : j = n
    · subst hjn; exact i3 q hq g2 g3
    · exact i1.cl j hj (by simp only [List.cons_append, List.tail_cons, List.mem_cons, not_or] at hnx ⊢; exact ⟨by omega, hnx⟩) q hq g2 g3

theorem Inv.rounds {s : St} {xs : List Int} (h : Inv ws c a P (s, xs)) (h0 : 0 ≤ c) (h1 : c ≤ 1) (hz : Hz ws) (ha : a % 4 = 1) (n : Nat) : ∃ P', Inv ws c a P' (itrP c n (s, xs)) ∧ (∀ j, P j = true → P' j = true) := by
  induction n with
  | zero => exact ⟨P, h, fun _ hj => hj⟩
  | succ n ih =>
    obtain ⟨P1, i1, i2⟩ := ih
    rw [itrP]
    generalize itrP c n (s, xs) = y1 at *
    obtain ⟨s1, xs1⟩ := y1
    obtain ⟨P2, j1, j2⟩ := i1.round h0 h1 hz ha
    exact ⟨P2, j1, fun j hj => j2 j (i2 j hj)⟩
end

/-- What is left, once the worklist is empty. -/
theorem pub_ends {ws : List Int} {c : Int} {a : Nat} {s s' : St} {n : Nat} (h0 : 0 ≤ c) (h1 : c ≤ 1) (hz : Hz ws) (ha : a % 4 = 1) (hs : s.ws = ws) (hn : itrP c n (shS s a c, shX s [] a) = (s', [])) :
    s'.ws.length = ws.length ∧ ∃ P : Nat → Bool, (∀ j, P j = true ↔ Rch ws a j) ∧ ∀ j, s'.ws.getD j 0 = mixW ws c P j := by
  have hi : Inv ws c a (fun _ => false) (s, []) := ⟨by rw [hs], (fun j => by simp [hs, mixW]), (fun j hj => by cases hj), (fun x hx => by simp at hx), (fun j hj => by cases hj)⟩
  obtain ⟨P1, i1, _, i3⟩ := hi.share h0 h1 (a : Int) (fun hl => by simpa using Rch.base hl)
  obtain ⟨P2, j1, j2⟩ := i1.rounds h0 h1 hz ha n
  rw [hn] at j1
  refine ⟨j1.len, P2, fun j => ⟨j1.r j, fun hr => ?_⟩, j1.w⟩
  induction hr with
  | base hl => exact j2 _ (by simpa using i3 hl)
  | step _ g1 g2 g3 ih => exact j1.cl _ ih (by simp) _ g1 g2 g3

end Go.Proofs.Ytdnlddjgjceogaa
