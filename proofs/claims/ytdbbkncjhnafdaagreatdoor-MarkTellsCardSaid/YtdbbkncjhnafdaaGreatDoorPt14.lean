/- Law 18's heap, plainly, on: a block is cut into cells, a cell is taken, a run of blocks is taken. Law 18's heap, plainly, on: an object is made in a cell, or in a run of blocks; Make as a whole. Law 18's heap, plainly, on: its things are made one behind the other, then their references and Global headers are set. The walks of law 15's own: what was made lies in blocks; Does, as the law takes it. Conditions: as each theorem states them. -/
import Derived.Test.YtdbbkncjhnafdaaGreatDoorPt13
namespace Go.Proofs.YtdbbkncjhnafdaaGreatDoor
set_option linter.unusedVariables false
set_option linter.unusedSimpArgs false

section
variable {T n i c b : Nat} {H : List Int} {Rs : Nat → Nat → List Int} {O : Obs} {wk : Bool} {R : Nat → List Int}

theorem Cel.tidy (h : Cel T n H Rs O) : tidyH T 0 n i wk H = H := by
  unfold tidyH
  split
  · rfl
  · have : ∀ j, j ≤ n → waitH T 0 n i H j = H := by
      intro j
      induction j with
      | zero => intro _; rfl
      | succ j ih =>
        intro hj
        rw [waitH, ih (by omega)]
        unfold turnH
        rw [if_neg]
        unfold waitsE
        have he : H.getD (3 + T + 0 + j) 0 = en T H j := rfl
        rw [he]
        intro hw
        simp only [Bool.and_eq_true, decide_eq_true_eq] at hw
        rcases h.ent j (by omega) with z | z | ⟨c', o', _, _, z, _⟩ | ⟨r', o3, _, _, _, _, z, _⟩ <;> rw [z] at hw
        · omega
        · omega
        · unfold eS Tb.wordE at hw; omega
        · unfold eL Tb.wordE at hw; omega
    exact this n (Nat.le_refl _)

theorem hasB_no {x : Int} (h : ∀ d, d < 4 → x ∉ R d) : Li.hasB R x = false := by
  have h1 : ∀ d, d < 4 → Li.inR x (R d) = false := fun d hd => by
    unfold Li.inR
    rw [List.any_eq_false]
    intro y hy e
    exact h d hd (by rw [show x = y by simpa using e]; exact hy)
  unfold Li.hasB
  simp only [Li.inK, h1 0 (by omega), h1 1 (by omega), h1 2 (by omega), h1 3 (by omega), Bool.or_false]
theorem pushR_new {x : Int} (hc : c < 4) (hx : 1 ≤ x) (h : ∀ d, d < 4 → x ∉ R d) : Li.pushR R c x = Li.upd R c (R c ++ [x]) := by
  unfold Li.pushR Li.pushE Li.badC
  rw [hasB_no h, decide_eq_false (show ¬ ((c : Int) < 0) by omega), decide_eq_false (show ¬ ((4 : Int) ≤ c) by omega), if_neg (show ¬ x < 1 by omega)]
  simp
theorem pushS_mem {m : Nat} (hc : c < 4) (hf : ∀ d, d < 4 → ∀ j, j < m → ((pl T 0 n c b j : Nat) : Int) ∉ R d) :
    ∀ k, k ≤ m → ∀ d, d < 4 → ∀ x, x ∈ pushS T 0 n c b m R k d ↔ x ∈ R d ∨ (d = c ∧ ∃ j, m ≤ j + k ∧ j < m ∧ x = ((pl T 0 n c b j : Nat) : Int))
  | 0, _, d, hd, x => by
    constructor
    · exact .inl
    · rintro (h | ⟨_, j, h1, h2, _⟩)
      · exact h
      · omega
  | k + 1, hk, d, hd, x => by
    have ih := pushS_mem hc hf k (by omega)
    have hnew : ∀ d, d < 4 → ((pl T 0 n c b (m - 1 - k) : Nat) : Int) ∉ pushS T 0 n c b m R k d := by
      intro d hd hm
      rcases (ih d hd _).1 hm with z | ⟨rfl, j, h1, h2, h3⟩
      · exact hf d hd _ (by omega) z
      · have := pl_inj2 hc (show pl T 0 n d b (m - 1 - k) = pl T 0 n d b j by exact_mod_cast h3)
        omega
    have h1 : (1 : Int) ≤ ((pl T 0 n c b (m - 1 - k) : Nat) : Int) := by unfold pl; omega
    rw [pushS, pushR_new hc h1 hnew]
    by_cases hdc : d = c
    · subst hdc
      rw [Li.upd_same, List.mem_append, List.mem_singleton, ih d hd]
      constructor
      · rintro ((z | ⟨_, j, h1, h2, h3⟩) | rfl)
        · exact .inl z
        · exact .inr ⟨rfl, j, by omega, h2, h3⟩
        · exact .inr ⟨rfl, m - 1 - k, by omega, by omega, rfl⟩
      · rintro (z | ⟨_, j, h1, h2, h3⟩)
        · exact .inl (.inl z)
        · by_cases hj : m ≤ j + k
          · exact .inl (.inr ⟨rfl, j, hj, h2, h3⟩)
          · exact .inr (by rw [h3, show j = m - 1 - k by omega])
    · rw [Li.upd_ne _ _ _ _ hdc, ih d hd]
      constructor
      · rintro (z | ⟨e, _⟩)
        · exact .inl z
        · exact absurd e hdc
      · rintro (z | ⟨e, _⟩)
        · exact .inl z
        · exact absurd e hdc

/-- Nothing lies in a block that is free; what lies elsewhere is off it. -/
theorem Cel.off (h : Cel T n H Rs O) (hb : b < n) (he : en T H b = 0) {x o rf sz : Nat} (hx : O x = some (o, rf, sz)) : hd T n 0 ≤ x ∧ (x + sz < hd T n b ∨ hd T n b + 32 ≤ x) := by
  obtain ⟨_, _, _, _, _, h1⟩ := h.obj x o rf sz hx
  rcases h1 with ⟨c1, b1, m1, hc1, hb1, hm1, hs1, rfl, he1⟩ | ⟨b1, r1, hr1, hr13, hb1, hs1, rfl, he1⟩
  · have p1 := pl_in (T := T) (n := n) (b := b1) hc1 hm1
    have hne : b1 ≠ b := fun e => by rw [e, he] at he1; exact (eS_ne c1 o).1 he1.symm
    unfold hd at *; omega
  · have hno : ¬ (b1 ≤ b ∧ b < b1 + r1) := fun ⟨q1, q2⟩ => by
      rcases h.ent b1 (by omega) with z | z | ⟨c', o3, _, _, z, _⟩ | ⟨r', o3, z1, z2, z3, z4, z5, _, z7⟩
      · exact (eL_ne r1 o).1 (he1.symm.trans z)
      · exact (eL_ne r1 o).2 (he1.symm.trans z)
      · exact eS_eL (z.symm.trans he1)
      · obtain ⟨rfl, rfl⟩ := eL_inj (he1.symm.trans z5) (by omega) (by omega)
        by_cases e : b = b1
        · subst e; exact (eL_ne r1 o).1 (he1.symm.trans he)
        · have := z7 (b - b1) (by omega) (by omega)
          rw [show b1 + (b - b1) = b by omega, he] at this
          cases this
    unfold hd at *; omega
theorem Cel.noneAt (h : Cel T n H Rs O) (hb : b < n) (he : en T H b = 0) {x : Nat} (h1 : hd T n b ≤ x) (h2 : x < hd T n b + 32) : O x = none := by
  cases hx : O x with
  | none => rfl
  | some y =>
    obtain ⟨o, rf, sz⟩ := y
    have := (h.off hb he hx).2
    omega
/-- An object, and a cell of a Small block that is none. -/
theorem Cel.apartL (h : Cel T n H Rs O) {o m : Nat} (hb : b < n) (hc : c < 4) (hm : m < (Cl.clC c).toNat) (he : en T H b = eS c o) {y o' rf' sz' : Nat} (hy : O y = some (o', rf', sz')) (hne : y ≠ pl T 0 n c b m) :
    y + sz' < pl T 0 n c b m ∨ pl T 0 n c b m + (Cl.wdC c).toNat ≤ y := by
  obtain ⟨_, _, _, _, _, h2⟩ := h.obj y o' rf' sz' hy
  have p1 := pl_in (T := T) (n := n) (b := b) hc hm
  rcases h2 with ⟨c2, b2, m2, hc2, hb2, hm2, hs2, rfl, he2⟩ | ⟨b2, r2, hr2, hr23, hb2, hs2, rfl, he2⟩
  · have p2 := pl_in (T := T) (n := n) (b := b2) hc2 hm2
    by_cases hbb : b2 = b
    · subst hbb
      obtain ⟨rfl, rfl⟩ := eS_inj (he2.symm.trans he) hc2 hc
      have hm : m2 ≠ m := fun e => hne (by rw [e])
      rcases pl_apart (T := T) (n := n) (b := b2) hc hm with q | q <;> omega
    · unfold hd at p1 p2; omega
  · have hno : ¬ (b2 ≤ b ∧ b < b2 + r2) := fun ⟨q1, q2⟩ => by
      rcases h.ent b2 (by omega) with z | z | ⟨c', o3, _, _, z, _⟩ | ⟨r', o3, z1, z2, z3, z4, z5, _, z7⟩
      · exact (eL_ne r2 o').1 (he2.symm.trans z)
      · exact (eL_ne r2 o').2 (he2.symm.trans z)
      · exact eS_eL (z.symm.trans he2)
      · obtain ⟨rfl, rfl⟩ := eL_inj (he2.symm.trans z5) (by omega) (by omega)
        by_cases e : b = b2
        · subst e; exact eS_eL (he.symm.trans he2)
        · have := z7 (b - b2) (by omega) (by omega)
          rw [show b2 + (b - b2) = b by omega] at this
          exact (eS_ne c o).2 (he.symm.trans this)
    unfold hd at p1 ⊢; omega
theorem Cel.len (h : Cel T n H Rs O) : H.length = 3 + T + 33 * n := h.fit.len

/-- The first block that is free. -/
theorem Cel.free (h : Cel T n H Rs O) {run : Nat} (h1 : 1 ≤ run) (hf : frst (H.getD 0 0).toNat run = some b) : b + run ≤ n ∧ ∀ k, k < run → en T H (b + k) = 0 := by
  have hfit := frst_fit h.fit.iv h1 hf
  refine ⟨hfit, fun k hk => h.map _ (by omega) ?_⟩
  unfold frst at hf
  rw [List.find?_range_eq_some] at hf
  have h2 := hf.1
  simp only [Bm.isR, Bool.and_eq_true, decide_eq_true_eq] at h2
  exact Bm.allN_iff.1 h2.2 _ (by simp only [Int.toNat_natCast]; omega) (by simp only [Int.toNat_natCast]; omega)

/-- The words behind a block's cutting. -/
theorem cut_words (hN : H.length = 3 + T + 33 * n) (hb : b < n) (hc : c < 4) (M : Int) (k : Nat) : (cutS T 0 n i c (H.set 0 M, R) b).1.getD k 0 =
    if k = 3 + T + 0 + b then eS c i else if (∃ j, j < (Cl.clC c).toNat ∧ k = pl T 0 n c b j) then lw i else if k = 0 then M else H.getD k 0 := by
  unfold cutS
  simp only
  rw [getD_set', markS_all, setAll_len, setAll_get, getD_set']
  have hlen : (H.set 0 M).length = 3 + T + 33 * n := by simpa using hN
  rw [hlen]
  by_cases h1 : k = 3 + T + 0 + b
  · rw [if_pos ⟨h1, by omega⟩, if_pos h1]; rfl
  · rw [if_neg (fun z => h1 z.1), if_neg h1]
    by_cases h2 : ∃ j, j < (Cl.clC c).toNat ∧ k = pl T 0 n c b j
    · rw [if_pos h2, if_pos]
      obtain ⟨j, hj, rfl⟩ := h2
      refine ⟨List.mem_map.2 ⟨j, List.mem_range.2 hj, rfl⟩, ?_⟩
      have := pl_in (T := T) (n := n) (b := b) hc hj
      have := wd_ge hc
      unfold hd at *; omega
    · rw [if_neg h2, if_neg (fun z => h2 (by
        obtain ⟨j, hj, e⟩ := List.mem_map.1 z.1
        exact ⟨j, List.mem_range.1 hj, e.symm⟩))]
      by_cases h3 : k = 0
      · rw [if_pos ⟨h3, by omega⟩, if_pos h3]
      · rw [if_neg (fun z => h3 z.1), if_neg h3]

theorem setN_not {M k r j : Nat} (h : (Bm.setN M k r false).testBit j = true) : ¬ (k ≤ j ∧ j < k + r) := by
  intro hj
  by_cases hi : j < 64
  · rw [Bm.setN_bit _ _ _ _ _ hi, if_pos hj] at h; cases h
  · have h1 : (Bm.setN M k r false).testBit j = false := Nat.testBit_lt_two_pow (Nat.lt_of_lt_of_le (Bm.setN_lt M k r false) (Nat.pow_le_pow_right (by decide) (by omega)))
    rw [h1] at h; cases h

/-- A block is cut into cells. -/
theorem Cel.cut (h : Cel T n H Rs O) (hi : i < T) (hT : T ≤ 64) (hc : c < 4) (hf : frst (H.getD 0 0).toNat 1 = some b) :
    Cel T n (cutS T 0 n i c (H.set 0 (Bm.setN (H.getD 0 0).toNat b 1 false : Int), Rs i) b).1 (updO Rs i (cutS T 0 n i c (H.set 0 (Bm.setN (H.getD 0 0).toNat b 1 false : Int), Rs i) b).2) O ∧
    (cutS T 0 n i c (H.set 0 (Bm.setN (H.getD 0 0).toNat b 1 false : Int), Rs i) b).2 c ≠ [] := by
  obtain ⟨hbn, he0⟩ := h.free (run := 1) (by omega) hf
  have he : en T H b = 0 := he0 0 (by omega)
  have hb : b < n := by omega
  have hN := h.len
  obtain ⟨M, hM⟩ : ∃ M : Nat, M = Bm.setN (H.getD 0 0).toNat b 1 false := ⟨_, rfl⟩
  rw [← hM]
  have hw := fun k => cut_words (i := i) (R := Rs i) hN hb hc (M : Int) k
  have hfr : ∀ d, d < 4 → ∀ j, j < (Cl.clC c).toNat → ((pl T 0 n c b j : Nat) : Int) ∉ Rs i d := by
    intro d hd j hj hm
    obtain ⟨b', m', hb', hm', e, he', _, _⟩ := h.lst i hi d hd _ hm
    have := pl_inj hc hj hd hm' (show pl T 0 n c b j = pl T 0 n d b' m' by exact_mod_cast e)
    subst this
    exact (eS_ne d i).1 (he'.symm.trans he)
  have hmem := pushS_mem (T := T) (n := n) (b := b) (R := Rs i) hc hfr (Cl.clC c).toNat (Nat.le_refl _)
  have hR : (cutS T 0 n i c (H.set 0 (M : Int), Rs i) b).2 = pushS T 0 n c b (Cl.clC c).toNat (Rs i) (Cl.clC c).toNat := rfl
  have hcl : 3 ≤ (Cl.clC c).toNat := by rcases wd_cl hc with ⟨h1, h2⟩ | ⟨h1, h2⟩ | ⟨h1, h2⟩ | ⟨h1, h2⟩ <;> omega
  rw [hR]
  have hen : ∀ b', b' < n → en T (cutS T 0 n i c (H.set 0 (M : Int), Rs i) b).1 b' = if b' = b then eS c i else en T H b' := by
    intro b' hb'
    show (cutS T 0 n i c (H.set 0 (M : Int), Rs i) b).1.getD (3 + T + 0 + b') 0 = _
    rw [hw]
    by_cases e : b' = b
    · rw [if_pos (by omega), if_pos e]
    · rw [if_neg (by omega), if_neg e, if_neg, if_neg (by omega)]
      rintro ⟨j, hj, e⟩
      have := pl_in (T := T) (n := n) (b := b) hc hj
      unfold hd at this; omega
  have hold : ∀ k, hd T n 0 ≤ k → (k < hd T n b ∨ hd T n b + 32 ≤ k) → (cutS T 0 n i c (H.set 0 (M : Int), Rs i) b).1.getD k 0 = H.getD k 0 := by
    intro k h1 h2
    rw [hw, if_neg (by unfold hd at *; omega), if_neg, if_neg (by unfold hd at *; omega)]
    rintro ⟨j, hj, e⟩
    have := pl_in (T := T) (n := n) (b := b) hc hj
    have := wd_ge hc
    omega
  have hzero : (cutS T 0 n i c (H.set 0 (M : Int), Rs i) b).1.getD 0 0 = (M : Int) := by
    rw [hw, if_neg (by omega), if_neg, if_pos rfl]
    rintro ⟨j, hj, e⟩
    have := pl_in (T := T) (n := n) (b := b) hc hj
    unfold hd at this; omega
  obtain ⟨hp, hl⟩ := h.fit.ls i hi
  refine ⟨⟨?_, ?_, ?_, ?_, ?_⟩, ?_⟩
  · have hv : Ivn T 0 n (cutS T 0 n i c (H.set 0 (M : Int), Rs i) b).1 := by
      unfold cutS
      refine Ivn.entry (Ivn.low ?_ (mark_low _)) b hb ?_
      · rw [hM]; exact h.fit.iv.claim b 1
      · rw [ek_word (by omega) (by omega) (by omega) (by omega) (by rw [Tb.mayE_iff]; omega)]; decide
    exact h.fit.upd hv (hp.pushes hc _) (pushS_ok (T := T) (G := 0) (n := n) hc hb rfl (by omega) hl _ (Nat.le_refl _))
  · intro b' hb' hbit
    rw [hzero, Int.toNat_natCast, hM] at hbit
    have h1 := setN_not hbit
    rw [hen b' hb', if_neg (by omega)]
    exact h.map b' hb' (setN_sub hbit)
  · intro b' hb'
    rw [hen b' hb']
    by_cases e : b' = b
    · subst e
      rw [if_pos rfl]
      refine .inr (.inr (.inl ⟨c, i, hc, hi, rfl, fun m hm => .inr ?_⟩))
      rw [updO_same]
      exact (hmem c hc _).2 (.inr ⟨rfl, m, by omega, hm, rfl⟩)
    · rw [if_neg e]
      rcases h.ent b' hb' with z | z | ⟨c', o', hc', ho', z, hz⟩ | ⟨r', o3, z1, z2, z3, z4, z5, z6, z7⟩
      · exact .inl z
      · exact .inr (.inl z)
      · refine .inr (.inr (.inl ⟨c', o', hc', ho', z, fun m hm => ?_⟩))
        rcases hz m hm with q | q
        · exact .inl q
        · refine .inr ?_
          by_cases ho : o' = i
          · subst ho
            rw [updO_same]
            exact (hmem c' hc' _).2 (.inl q)
          · rw [updO_ne ho]; exact q
      · refine .inr (.inr (.inr ⟨r', o3, z1, z2, z3, z4, z5, z6, fun k hk1 hk2 => ?_⟩))
        rw [hen _ (by omega), if_neg, z7 k hk1 hk2]
        intro e2
        have := z7 k hk1 hk2
        rw [e2, he] at this
        cases this
  · intro o ho c' hc' x hx
    have old : ∀ x, x ∈ Rs o c' → ∃ b' m : Nat, b' < n ∧ m < (Cl.clC c').toNat ∧ x = ((pl T 0 n c' b' m : Nat) : Int) ∧ en T (cutS T 0 n i c (H.set 0 (M : Int), Rs i) b).1 b' = eS c' o ∧ O (pl T 0 n c' b' m) = none ∧ (cutS T 0 n i c (H.set 0 (M : Int), Rs i) b).1.getD (pl T 0 n c' b' m) 0 = lw o := by
      intro x hx
      obtain ⟨b', m', hb', hm', e, he', hO, hl'⟩ := h.lst o ho c' hc' _ hx
      have hne : b' ≠ b := fun e => by rw [e] at he'; exact (eS_ne c' o).1 (he'.symm.trans he)
      have p := pl_in (T := T) (n := n) (b := b') hc' hm'
      have := wd_ge hc'
      refine ⟨b', m', hb', hm', e, by rw [hen b' hb', if_neg hne]; exact he', hO, ?_⟩
      rw [hold _ (by unfold hd at *; omega) (by unfold hd at *; omega)]
      exact hl'
    by_cases hoi : o = i
    · subst hoi
      rw [updO_same] at hx
      rcases (hmem c' hc' _).1 hx with z | ⟨rfl, j, _, hj, rfl⟩
      · exact old x z
      · have p := pl_in (T := T) (n := n) (b := b) hc hj
        have := wd_ge hc
        refine ⟨b, j, hb, hj, rfl, by rw [hen b hb, if_pos rfl], h.noneAt hb he (by omega) (by omega), ?_⟩
        rw [hw, if_neg (by unfold hd at p; omega), if_pos ⟨j, hj, rfl⟩]
    · rw [updO_ne hoi] at hx
      exact old x hx
  · intro x o rf sz hx
    obtain ⟨h1, h2, h3, h4, h5, h6⟩ := h.obj x o rf sz hx
    obtain ⟨g1, g2⟩ := h.off hb he hx
    refine ⟨h1, h2, h3, ?_, fun k hk => ?_, ?_⟩
    · rw [hold x g1 (by omega)]; exact h4
    · rw [hold (x + 1 + k) (by omega) (by omega)]; exact h5 k hk
    · rcases h6 with ⟨c1, b1, m1, q1, q2, q3, q4, q5, q6⟩ | ⟨b1, r1, q1, q2, q3, q4, q5, q6⟩
      · refine .inl ⟨c1, b1, m1, q1, q2, q3, q4, q5, ?_⟩
        rw [hen b1 q2, if_neg (fun e => by rw [e, he] at q6; exact (eS_ne c1 o).1 q6.symm)]; exact q6
      · refine .inr ⟨b1, r1, q1, q2, q3, q4, q5, ?_⟩
        rw [hen b1 (by omega), if_neg (fun e => by rw [e, he] at q6; exact (eL_ne r1 o).1 q6.symm)]; exact q6
  · intro e
    have := (hmem c hc ((pl T 0 n c b 0 : Nat) : Int)).2 (.inr ⟨rfl, 0, by omega, by omega, rfl⟩)
    rw [e] at this
    cases this
end
end Go.Proofs.YtdbbkncjhnafdaaGreatDoor

namespace Go.Proofs.YtdbbkncjhnafdaaGreatDoor
set_option linter.unusedVariables false
set_option linter.unusedSimpArgs false

section
variable {T n i c b : Nat} {H : List Int} {Rs : Nat → Nat → List Int} {O : Obs} {wk : Bool} {R : Nat → List Int}

theorem made_words {a sz : Nat} {v : Int} (ha : a + sz < H.length) (k : Nat) : ((clearH H a sz).set a v).getD k 0 = if k = a then v else if a < k ∧ k ≤ a + sz then 0 else H.getD k 0 := by
  rw [getD_set', clearH_all, setAll_len, setAll_get]
  by_cases h1 : k = a
  · rw [if_pos ⟨h1, by omega⟩, if_pos h1]
  · rw [if_neg (fun z => h1 z.1), if_neg h1]
    by_cases h2 : a < k ∧ k ≤ a + sz
    · rw [if_pos h2, if_pos]
      exact ⟨List.mem_map.2 ⟨k - a - 1, List.mem_range.2 (by omega), by omega⟩, by omega⟩
    · rw [if_neg h2, if_neg]
      rintro ⟨z, _⟩
      obtain ⟨j, hj, e⟩ := List.mem_map.1 z
      have := List.mem_range.1 hj
      omega

/-- An object is made in a cell that was on the list. -/
theorem Cel.pop (h : Cel T n H Rs O) (hi : i < T) (hT : T ≤ 64) (hn : n ≤ 64) (hc : c < 4) {rf sz : Nat} (hrf : rf ≤ sz) (hsz : sz + 1 ≤ (Cl.wdC c).toNat) (hne : Rs i c ≠ []) :
    ∃ a : Nat, (Rs i c).getLastD 0 = a ∧ O a = none ∧ Cel T n ((clearH H a sz).set a (hw i rf sz)) (updO Rs i (Li.popR (Rs i) c)) (setOb O a (i, rf, sz)) := by
  have hlast : (Rs i c).getLastD 0 ∈ Rs i c := by
    rw [List.getLastD_eq_getLast?, List.getLast?_eq_some_getLast hne]
    exact List.getLast_mem hne
  obtain ⟨b, m, hb, hm, ha, he, hO, hlw⟩ := h.lst i hi c hc _ hlast
  obtain ⟨a, haa⟩ : ∃ a, a = pl T 0 n c b m := ⟨_, rfl⟩
  rw [← haa] at ha hO hlw
  have hpR : Li.popR (Rs i) c = Li.upd (Rs i) c (Rs i c).dropLast := by
    unfold Li.popR
    rw [popE_at hc, if_neg hne]
    rfl
  have hdec : (Rs i c).dropLast ++ [(Rs i c).getLastD 0] = Rs i c := by
    rw [List.getLastD_eq_getLast?, List.getLast?_eq_some_getLast hne]
    exact List.dropLast_concat_getLast hne
  obtain ⟨hp, hl⟩ := h.fit.ls i hi
  have hnd := (hl c hc).1
  rw [← hdec, List.nodup_append] at hnd
  have hnot : ((a : Nat) : Int) ∉ (Rs i c).dropLast := fun z => hnd.2.2 _ z _ (List.mem_singleton.2 rfl) (by rw [ha])
  have hN := h.len
  have p := pl_in (T := T) (n := n) (b := b) hc hm
  rw [← haa] at p
  have hwg := wd_ge hc
  have hlt : a + sz < H.length := by unfold hd at p; omega
  have hge : hd T n 0 ≤ a := by unfold hd at *; omega
  refine ⟨a, ha, hO, ?_⟩
  have hw := fun k => made_words (H := H) (v := hw i rf sz) hlt k
  have hen : ∀ b', b' < n → en T ((clearH H a sz).set a (Go.Proofs.YtdbbkncjhnafdaaGreatDoor.hw i rf sz)) b' = en T H b' := by
    intro b' hb'
    show ((clearH H a sz).set a (Go.Proofs.YtdbbkncjhnafdaaGreatDoor.hw i rf sz)).getD (3 + T + 0 + b') 0 = _
    rw [hw, if_neg (by unfold hd at *; omega), if_neg (by unfold hd at *; omega)]
  have hmemR : ∀ o, ∀ c', ∀ x, x ∈ updO Rs i (Li.popR (Rs i) c) o c' → x ∈ Rs o c' ∧ (o = i → c' = c → x ≠ ((a : Nat) : Int)) := by
    intro o c' x hx
    by_cases ho : o = i
    · subst ho
      rw [updO_same, hpR] at hx
      by_cases hcc : c' = c
      · subst hcc
        rw [Li.upd_same] at hx
        exact ⟨List.dropLast_subset _ hx, fun _ _ e => hnot (e ▸ hx)⟩
      · rw [Li.upd_ne _ _ _ _ hcc] at hx
        exact ⟨hx, fun _ e => absurd e hcc⟩
    · rw [updO_ne ho] at hx
      exact ⟨hx, fun e => absurd e ho⟩
  refine ⟨?_, ?_, ?_, ?_, ?_⟩
  · refine h.fit.upd ((h.fit.iv.low (clear_low (by unfold hd at hge; omega) _)).low (Low.set (by unfold hd at hge; omega) _)) (hp.pop hc) ?_
    intro d hd'
    rw [hpR]
    by_cases hdc : d = c
    · subst hdc
      rw [Li.upd_same]
      exact ⟨(List.dropLast_sublist _).nodup (hl d hd').1, fun x hx => (hl d hd').2 x (List.dropLast_subset _ hx)⟩
    · rw [Li.upd_ne _ _ _ _ hdc]; exact hl d hd'
  · intro b' hb' hbit
    rw [hen b' hb']
    rw [hw, if_neg (by unfold hd at hge; omega), if_neg (by omega)] at hbit
    exact h.map b' hb' hbit
  · intro b' hb'
    rw [hen b' hb']
    rcases h.ent b' hb' with z | z | ⟨c', o', hc', ho', z, hz⟩ | ⟨r', o3, z1, z2, z3, z4, z5, ⟨rf3, sz3, z6⟩, z7⟩
    · exact .inl z
    · exact .inr (.inl z)
    · refine .inr (.inr (.inl ⟨c', o', hc', ho', z, fun m' hm' => ?_⟩))
      by_cases e : pl T 0 n c' b' m' = a
      · have hbb := pl_inj hc' hm' hc hm (e.trans haa)
        subst hbb
        obtain ⟨rfl, rfl⟩ := eS_inj (z.symm.trans he) hc' hc
        exact .inl ⟨rf, sz, by rw [e]; exact setOb_same _ _ _⟩
      · rcases hz m' hm' with ⟨r4, s4, q⟩ | q
        · exact .inl ⟨r4, s4, by rw [setOb_ne e]; exact q⟩
        · refine .inr ?_
          by_cases ho : o' = i
          · subst ho
            rw [updO_same, hpR]
            by_cases hcc : c' = c
            · subst hcc
              rw [Li.upd_same]
              have q' := q
              rw [← hdec, List.mem_append, List.mem_singleton] at q'
              rcases q' with q' | q'
              · exact q'
              · exact absurd (show pl T 0 n c' b' m' = a by rw [ha] at q'; exact_mod_cast q') e
            · rw [Li.upd_ne _ _ _ _ hcc]; exact q
          · rw [updO_ne ho]; exact q
    · refine .inr (.inr (.inr ⟨r', o3, z1, z2, z3, z4, z5, ⟨rf3, sz3, ?_⟩, fun k hk1 hk2 => by rw [hen _ (by omega)]; exact z7 k hk1 hk2⟩))
      rw [setOb_ne]; exact z6
      intro e
      rw [e, hO] at z6
      cases z6
  · intro o ho c' hc' x hx
    obtain ⟨hx1, hx2⟩ := hmemR o c' x hx
    obtain ⟨b', m', hb', hm', e, he', hO', hl'⟩ := h.lst o ho c' hc' _ hx1
    have hna : pl T 0 n c' b' m' ≠ a := by
      intro e2
      have hbb := pl_inj hc' hm' hc hm (e2.trans haa)
      subst hbb
      obtain ⟨rfl, rfl⟩ := eS_inj (he'.symm.trans he) hc' hc
      exact hx2 rfl rfl (by rw [e, e2])
    refine ⟨b', m', hb', hm', e, by rw [hen b' hb']; exact he', by rw [setOb_ne hna]; exact hO', ?_⟩
    rw [hw, if_neg hna, if_neg]
    · exact hl'
    · rintro ⟨q1, q2⟩
      by_cases hbb : b' = b
      · subst hbb
        obtain ⟨rfl, rfl⟩ := eS_inj (he'.symm.trans he) hc' hc
        have hmm : m ≠ m' := fun e3 => hna (by rw [haa, e3])
        have := pl_apart (T := T) (n := n) (b := b') hc hmm
        rw [← haa] at this
        omega
      · have p2 := pl_in (T := T) (n := n) (b := b') hc' hm'
        have := wd_ge hc'
        unfold hd at p p2; omega
  · intro x o rf' sz' hx
    by_cases e : x = a
    · subst e
      rw [setOb_same] at hx
      simp only [Option.some.injEq, Prod.mk.injEq] at hx
      obtain ⟨rfl, rfl, rfl⟩ := hx
      refine ⟨hi, hrf, by omega, by rw [hw, if_pos rfl], fun k hk => by rw [hw, if_neg (by omega), if_pos (by omega)], .inl ⟨c, b, m, hc, hb, hm, hsz, haa, by rw [hen b hb]; exact he⟩⟩
    · rw [setOb_ne e] at hx
      obtain ⟨h1, h2, h3, h4, h5, h6⟩ := h.obj x o rf' sz' hx
      have hap := h.apartL hb hc hm he hx (by rw [← haa]; exact e)
      rw [← haa] at hap
      refine ⟨h1, h2, h3, ?_, fun k hk => ?_, ?_⟩
      · rw [hw, if_neg e, if_neg (by omega)]; exact h4
      · rw [hw, if_neg (by omega), if_neg (by omega)]; exact h5 k hk
      · rcases h6 with ⟨c1, b1, m1, q1, q2, q3, q4, q5, q6⟩ | ⟨b1, r1, q1, q2, q3, q4, q5, q6⟩
        · exact .inl ⟨c1, b1, m1, q1, q2, q3, q4, q5, by rw [hen b1 q2]; exact q6⟩
        · exact .inr ⟨b1, r1, q1, q2, q3, q4, q5, by rw [hen b1 (by omega)]; exact q6⟩

theorem large_at {a run sz : Nat} {v e M : Int} (hN : H.length = 3 + T + 33 * n) (hr1 : 1 ≤ run) (hb : b + run ≤ n) (ha : a = hd T n b) (hsz : sz + 1 ≤ 32 * run) (k : Nat) :
    (((tailH T 0 b (clearH (H.set 0 M) a sz) (run - 1)).set a v).set (3 + T + 0 + b) e).getD k 0 =
      if k = 3 + T + 0 + b then e else if 3 + T + 0 + b < k ∧ k < 3 + T + 0 + b + run then 3 else if k = a then v else if a < k ∧ k ≤ a + sz then 0 else if k = 0 then M else H.getD k 0 := by
  have ha' : a = 3 + T + 0 + n + 32 * b := ha
  have hl : ((H.set 0 M)).length = 3 + T + 33 * n := by simpa using hN
  rw [getD_set', List.length_set, tailH_all, setAll_len, clearH_all, setAll_len, hl]
  by_cases h1 : k = 3 + T + 0 + b
  · rw [if_pos ⟨h1, by omega⟩, if_pos h1]
  · rw [if_neg (fun z => h1 z.1), if_neg h1, getD_set', setAll_len, setAll_len, hl, setAll_get, setAll_len, hl, setAll_get, hl, getD_set', hN]
    by_cases h2 : 3 + T + 0 + b < k ∧ k < 3 + T + 0 + b + run
    · rw [if_pos h2, if_neg (by omega), if_pos]
      exact ⟨List.mem_map.2 ⟨k - (3 + T + 0 + b) - 1, List.mem_range.2 (by omega), by omega⟩, by omega⟩
    · rw [if_neg h2]
      by_cases h3 : k = a
      · rw [if_pos ⟨h3, by omega⟩, if_pos h3]
      · rw [if_neg (fun z => h3 z.1), if_neg h3, if_neg (fun z => ?_)]
        · by_cases h4 : a < k ∧ k ≤ a + sz
          · rw [if_pos h4, if_pos]
            exact ⟨List.mem_map.2 ⟨k - a - 1, List.mem_range.2 (by omega), by omega⟩, by omega⟩
          · rw [if_neg h4, if_neg (fun z => ?_)]
            · by_cases h5 : k = 0
              · rw [if_pos ⟨h5, by omega⟩, if_pos h5]
              · rw [if_neg (fun z => h5 z.1), if_neg h5]
            · obtain ⟨j, hj, e⟩ := List.mem_map.1 z.1
              have := List.mem_range.1 hj
              omega
        · obtain ⟨j, hj, e⟩ := List.mem_map.1 z.1
          have := List.mem_range.1 hj
          omega

/-- An object is made in a run of blocks. -/
theorem Cel.large (h : Cel T n H Rs O) (hi : i < T) (hT : T ≤ 64) (hn : n ≤ 64) {run rf sz : Nat} (hr1 : 1 ≤ run) (hr3 : run ≤ 3) (hrf : rf ≤ sz) (hsz : sz + 1 ≤ 32 * run) (hsm : sz ≤ 95)
    (hf : frst (H.getD 0 0).toNat run = some b)
    (hfit : Fit T n (((tailH T 0 b (clearH (H.set 0 (Bm.setN (H.getD 0 0).toNat b run false : Int)) (hd T n b) sz) (run - 1)).set (hd T n b) (hw i rf sz)).set (3 + T + 0 + b) (eL run i)) Rs) :
    O (hd T n b) = none ∧ Cel T n (((tailH T 0 b (clearH (H.set 0 (Bm.setN (H.getD 0 0).toNat b run false : Int)) (hd T n b) sz) (run - 1)).set (hd T n b) (hw i rf sz)).set (3 + T + 0 + b) (eL run i)) Rs (setOb O (hd T n b) (i, rf, sz)) := by
  obtain ⟨hbn, he0⟩ := h.free hr1 hf
  have hN := h.len
  obtain ⟨M, hM⟩ : ∃ M : Nat, M = Bm.setN (H.getD 0 0).toNat b run false := ⟨_, rfl⟩
  rw [← hM] at hfit ⊢
  have hw := fun k => large_at (sz := sz) (v := hw i rf sz) (e := eL run i) (M := (M : Int)) hN hr1 hbn rfl hsz k
  obtain ⟨X, hX⟩ : ∃ X, X = (((tailH T 0 b (clearH (H.set 0 (M : Int)) (hd T n b) sz) (run - 1)).set (hd T n b) (Go.Proofs.YtdbbkncjhnafdaaGreatDoor.hw i rf sz)).set (3 + T + 0 + b) (eL run i)) := ⟨_, rfl⟩
  rw [← hX] at hfit hw ⊢
  clear hX
  have hO : O (hd T n b) = none := h.noneAt (b := b) (by omega) (by have := he0 0 (by omega); simpa using this) (by omega) (by omega)
  have hge : 3 + T + 0 + n ≤ hd T n b := by unfold hd; omega
  refine ⟨hO, ?_⟩
  have hen : ∀ b', b' < n → en T X b' = if b' = b then eL run i else if b < b' ∧ b' < b + run then 3 else en T H b' := by
    intro b' hb'
    show X.getD (3 + T + 0 + b') 0 = _
    rw [hw]
    by_cases e : b' = b
    · rw [if_pos (by omega), if_pos e]
    · rw [if_neg (by omega), if_neg e]
      by_cases e2 : b < b' ∧ b' < b + run
      · rw [if_pos (by omega), if_pos e2]
      · rw [if_neg (by omega), if_neg e2, if_neg (by omega), if_neg (by omega), if_neg (by omega)]
  have hnz : ∀ b', b' < n → en T H b' ≠ 0 → en T X b' = en T H b' := by
    intro b' hb' hne
    rw [hen b' hb', if_neg (fun e => hne (by rw [e]; have := he0 0 (by omega); simpa using this)), if_neg]
    rintro ⟨q1, q2⟩
    have := he0 (b' - b) (by omega)
    rw [show b + (b' - b) = b' by omega] at this
    exact hne this
  have hold : ∀ k, hd T n 0 ≤ k → (k < hd T n b ∨ hd T n b + sz < k) → X.getD k 0 = H.getD k 0 := by
    intro k h1 h2
    rw [hw, if_neg (by unfold hd at *; omega), if_neg (by unfold hd at *; omega), if_neg (by omega), if_neg (by omega), if_neg (by unfold hd at h1; omega)]
  -- an object is off the run
  have hoff : ∀ {x o rf' sz' : Nat}, O x = some (o, rf', sz') → hd T n 0 ≤ x ∧ (x + sz' < hd T n b ∨ hd T n b + 32 * run ≤ x) := by
    intro x o rf' sz' hx
    have a0 := h.off (b := b) (by omega) (by have := he0 0 (by omega); simpa using this) hx
    by_cases q1 : run = 1
    · subst q1; omega
    · have a1 := h.off (b := b + 1) (by omega) (he0 1 (by omega)) hx
      by_cases q2 : run = 2
      · subst q2; unfold hd at *; omega
      · have a2 := h.off (b := b + 2) (by omega) (he0 2 (by omega)) hx
        unfold hd at *; omega
  refine ⟨hfit, ?_, ?_, ?_, ?_⟩
  · intro b' hb' hbit
    rw [hw, if_neg (by omega), if_neg (by omega), if_neg (by omega), if_neg (by omega), if_pos rfl, Int.toNat_natCast, hM] at hbit
    have h1 := setN_not hbit
    rw [hen b' hb', if_neg (by omega), if_neg (by omega)]
    exact h.map b' hb' (setN_sub hbit)
  · intro b' hb'
    rw [hen b' hb']
    by_cases e : b' = b
    · subst e
      rw [if_pos rfl]
      refine .inr (.inr (.inr ⟨run, i, hr1, hr3, hi, hbn, rfl, ⟨rf, sz, setOb_same _ _ _⟩, fun k hk1 hk2 => ?_⟩))
      rw [hen _ (by omega), if_neg (by omega), if_pos (by omega)]
    · rw [if_neg e]
      by_cases e2 : b < b' ∧ b' < b + run
      · rw [if_pos e2]; exact .inr (.inl rfl)
      · rw [if_neg e2]
        rcases h.ent b' hb' with z | z | ⟨c', o', hc', ho', z, hz⟩ | ⟨r', o3, z1, z2, z3, z4, z5, ⟨rf3, sz3, z6⟩, z7⟩
        · exact .inl z
        · exact .inr (.inl z)
        · refine .inr (.inr (.inl ⟨c', o', hc', ho', z, fun m' hm' => ?_⟩))
          rcases hz m' hm' with ⟨r4, s4, q⟩ | q
          · refine .inl ⟨r4, s4, ?_⟩
            rw [setOb_ne]; exact q
            intro e3
            rw [e3, hO] at q; cases q
          · exact .inr q
        · refine .inr (.inr (.inr ⟨r', o3, z1, z2, z3, z4, z5, ⟨rf3, sz3, ?_⟩, fun k hk1 hk2 => ?_⟩))
          · rw [setOb_ne]; exact z6
            intro e3
            rw [e3, hO] at z6; cases z6
          · rw [hnz _ (by omega) (by rw [z7 k hk1 hk2]; decide)]; exact z7 k hk1 hk2
  · intro o ho c' hc' x hx
    obtain ⟨b', m', hb', hm', e, he', hO', hl'⟩ := h.lst o ho c' hc' _ hx
    have hne : en T H b' ≠ 0 := by rw [he']; exact (eS_ne c' o).1
    have hout : ¬ (b ≤ b' ∧ b' < b + run) := fun ⟨q1, q2⟩ => by
      have := he0 (b' - b) (by omega)
      rw [show b + (b' - b) = b' by omega] at this
      exact hne this
    have p2 := pl_in (T := T) (n := n) (b := b') hc' hm'
    have := wd_ge hc'
    refine ⟨b', m', hb', hm', e, by rw [hnz b' hb' hne]; exact he', ?_, ?_⟩
    · rw [setOb_ne]; exact hO'
      unfold hd at *; omega
    · rw [hold _ (by unfold hd at *; omega) (by unfold hd at *; omega)]; exact hl'
  · intro x o rf' sz' hx
    by_cases e : x = hd T n b
    · subst e
      rw [setOb_same] at hx
      simp only [Option.some.injEq, Prod.mk.injEq] at hx
      obtain ⟨rfl, rfl, rfl⟩ := hx
      refine ⟨hi, hrf, hsm, by rw [hw, if_neg (by omega), if_neg (by omega), if_pos rfl], fun k hk => by rw [hw, if_neg (by omega), if_neg (by omega), if_neg (by omega), if_pos (by omega)], .inr ⟨b, run, hr1, hr3, hbn, hsz, rfl, by rw [hen b (by omega), if_pos rfl]⟩⟩
    · rw [setOb_ne e] at hx
      obtain ⟨h1, h2, h3, h4, h5, h6⟩ := h.obj x o rf' sz' hx
      obtain ⟨g1, g2⟩ := hoff hx
      refine ⟨h1, h2, h3, ?_, fun k hk => ?_, ?_⟩
      · rw [hold x g1 (by omega)]; exact h4
      · rw [hold (x + 1 + k) (by omega) (by omega)]; exact h5 k hk
      · rcases h6 with ⟨c1, b1, m1, q1, q2, q3, q4, q5, q6⟩ | ⟨b1, r1, q1, q2, q3, q4, q5, q6⟩
        · exact .inl ⟨c1, b1, m1, q1, q2, q3, q4, q5, by rw [hnz b1 q2 (by rw [q6]; exact (eS_ne c1 o).1)]; exact q6⟩
        · exact .inr ⟨b1, r1, q1, q2, q3, q4, q5, by rw [hnz b1 (by omega) (by rw [q6]; exact (eL_ne r1 o).1)]; exact q6⟩

/-- Make, as a whole. -/
theorem Cel.make (h : Cel T n H Rs O) (hi : i < T) (hT : T ≤ 64) (hn : n ≤ 64) {rf sz : Nat} (hrf : rf ≤ sz) (hsm : sz ≤ 95) :
    ((pmakeS T 0 n i wk rf sz (H, Rs i)).2 = none ∧ Cel T n (pmakeS T 0 n i wk rf sz (H, Rs i)).1.1 (updO Rs i (pmakeS T 0 n i wk rf sz (H, Rs i)).1.2) O) ∨
    ∃ a : Nat, (pmakeS T 0 n i wk rf sz (H, Rs i)).2 = some (a : Int) ∧ O a = none ∧ Cel T n (pmakeS T 0 n i wk rf sz (H, Rs i)).1.1 (updO Rs i (pmakeS T 0 n i wk rf sz (H, Rs i)).1.2) (setOb O a (i, rf, sz)) := by
  obtain ⟨hp, hl⟩ := h.fit.ls i hi
  have hN := h.len
  have hupd : updO Rs i (Rs i) = Rs := funext fun j => by
    by_cases e : j = i
    · subst e; rw [updO_same]
    · rw [updO_ne e]
  unfold pmakeS
  rcases size_ways sz hsm with ⟨h0, c, hc, hcc, hw⟩ | ⟨run, h1, h3, hr, hw⟩
  · rw [if_pos h0, hcc, Int.toNat_natCast]
    have hwn := wd_nat hc
    have hce := (cell_inv (wk := wk) (s := (H, Rs i)) hc (show i < 64 by omega) hn h.fit.iv hp).1
    unfold smallS
    rw [hce]
    unfold dcellS
    by_cases hemp : Rs i c = []
    · rw [if_pos hemp]
      have hfd : foundS T 0 n i c (H, Rs i) n = (H, Rs i) := h.found hc n (Nat.le_refl _)
      unfold moreS
      rw [hfd, if_pos hemp]
      simp only
      rw [h.tidy]
      cases hf : frst (H.getD 0 0).toNat 1 with
      | none =>
        simp only
        rw [popS_none hc hemp]
        exact .inl ⟨rfl, by rw [hupd]; exact h⟩
      | some b =>
        simp only
        obtain ⟨hc1, hne⟩ := h.cut hi hT hc hf
        generalize hs : cutS T 0 n i c (H.set 0 (Bm.setN (H.getD 0 0).toNat b 1 false : Int), Rs i) b = s1 at hc1 hne ⊢
        have hR1 : updO Rs i s1.2 i = s1.2 := updO_same _
        obtain ⟨a, ha, hOa, hcel⟩ := hc1.pop hi hT hn hc (rf := rf) (sz := sz) hrf (by omega) (by rw [hR1]; exact hne)
        rw [hR1] at ha hcel
        have hpop : popS s1 c = ((s1.1, Li.popR s1.2 c), some (a : Int)) := by
          unfold popS Li.popX
          rw [popE_at hc, if_neg hne]
          simp only [Int.toNat_natCast, ite_true]
          rw [ha]
        rw [hpop]
        refine .inr ⟨a, rfl, hOa, ?_⟩
        have hud : updO (updO Rs i s1.2) i (Li.popR s1.2 c) = updO Rs i (Li.popR s1.2 c) := funext fun j => by
          by_cases e : j = i
          · subst e; rw [updO_same, updO_same]
          · rw [updO_ne e, updO_ne e, updO_ne e]
        rw [hud] at hcel
        exact hcel
    · rw [if_neg hemp]
      obtain ⟨a, ha, hOa, hcel⟩ := h.pop hi hT hn hc (rf := rf) (sz := sz) hrf (by omega) hemp
      have hpop : popS (H, Rs i) c = ((H, Li.popR (Rs i) c), some (a : Int)) := by
        unfold popS Li.popX
        rw [popE_at hc, if_neg hemp]
        simp only [Int.toNat_natCast, ite_true]
        rw [ha]
      rw [hpop]
      exact .inr ⟨a, rfl, hOa, hcel⟩
  · rw [if_neg (by omega), hr, Int.toNat_natCast]
    have hbl := (blocks_inv (wk := wk) (o := i) h1 hn h.fit.iv).1
    obtain ⟨hfitA, _⟩ : Fit T n (pmakeS T 0 n i wk rf sz (H, Rs i)).1.1 (updO Rs i (pmakeS T 0 n i wk rf sz (H, Rs i)).1.2) ∧ True := ⟨(pmake_fit (wk := wk) (rf := rf) h.fit hi hT hn hsm).2.1, trivial⟩
    unfold pmakeS at hfitA
    rw [if_neg (by omega), hr, Int.toNat_natCast] at hfitA
    unfold largeS at hfitA ⊢
    rw [hbl] at hfitA ⊢
    unfold dblocksH at hfitA ⊢
    have hwt : waitH T 0 n i H n = H := by
      have := h.tidy (i := i) (wk := false)
      simpa [tidyH] using this
    rw [hwt] at hfitA ⊢
    cases hf : frst (H.getD 0 0).toNat run with
    | none =>
      have : ∀ (wk : Bool), (if wk = true then ((H, none) : List Int × Option Nat) else (H, none)) = (H, none) := fun wk => by split <;> rfl
      simp only [this]
      exact .inl ⟨by first | rfl | trivial, by rw [hupd]; exact h⟩
    | some b =>
      rw [hf] at hfitA
      simp only at hfitA ⊢
      rw [hupd] at hfitA ⊢
      obtain ⟨q1, q2⟩ := h.large hi hT hn h1 h3 hrf hw hsm hf hfitA
      exact .inr ⟨hd T n b, rfl, q1, q2⟩
end
end Go.Proofs.YtdbbkncjhnafdaaGreatDoor

namespace Go.Proofs.YtdbbkncjhnafdaaGreatDoor
set_option linter.unusedVariables false
set_option linter.unusedSimpArgs false

/-- A thing: its owner, references, size, whether it is Global, its colour, where its references lead. -/
structure Th where
  ow : Nat
  rf : Nat
  sz : Nat
  g : Bool
  c : Nat
  tl : List Nat
def Th0 : Th := ⟨0, 0, 0, false, 0, []⟩
def szO (x : Th) : Nat := x.sz % 40
def rfO (x : Th) : Nat := x.rf % (x.sz % 40 + 1)
/-- One thing is made. -/
def makeS (T n : Nat) (y : As × List Int) (x : Th) : As × List Int :=
  (madeS T n y.1 (x.ow % T) (rfO x) (szO x), y.2 ++ [(pmakeS T 0 n (x.ow % T) (y.1.wk (x.ow % T)) (rfO x) (szO x) (y.1.H, y.1.Rs (x.ow % T))).2.getD 0])
def makesN (T n : Nat) (l : List Th) : Nat → As × List Int
  | 0 => (As0 T n, [])
  | k + 1 => makeS T n (makesN T n l k) (l.getD k Th0)
/-- The place of a thing, by its number. -/
def atP (P : List Int) (m : Nat) : Int := if m = 0 ∨ P.length < m then 0 else P.getD (m - 1) 0
def refS (P : List Int) (a : Nat) (tl : List Nat) (H : List Int) : Nat → List Int
  | 0 => H
  | k + 1 => (refS P a tl H k).set (a + 1 + k) (atP P (tl.getD k 0))
def gwO (c : Nat) (x : Int) : Int := Wd.wordI 3 (c % 2 : Nat) (x / 32 % 64) (x / 2048 % 128) (x / 262144 % 128) false false
def kidS (P : List Int) (a : Nat) (x : Th) (H : List Int) : List Int :=
  if x.g then (refS P a x.tl H (min (H.getD a 0 / 2048 % 128).toNat x.tl.length)).set a (gwO x.c (H.getD a 0)) else refS P a x.tl H (min (H.getD a 0 / 2048 % 128).toNat x.tl.length)
def kidsN (P : List Int) (l : List Th) (H : List Int) : Nat → List Int
  | 0 => H
  | k + 1 => if P.getD k 0 = 0 then kidsN P l H k else kidS P (P.getD k 0).toNat (l.getD k Th0) (kidsN P l H k)

/-- Objects' headers and fields, over what lies where. -/
structure Hp (T n : Nat) (H : List Int) (Rs : Nat → Nat → List Int) (O : Obs) (V : Nat → Int) (F : Nat → Nat → Int) : Prop where
  base : ∃ H0, Cel T n H0 Rs O ∧ H.length = H0.length ∧ ∀ k, (∀ x o rf sz, O x = some (o, rf, sz) → ¬ (x ≤ k ∧ k ≤ x + sz)) → H.getD k 0 = H0.getD k 0
  hdr : ∀ x o rf sz, O x = some (o, rf, sz) → H.getD x 0 = V x
  fld : ∀ x o rf sz, O x = some (o, rf, sz) → ∀ k, k < sz → H.getD (x + 1 + k) 0 = F x k
section
variable {T n i c b : Nat} {H : List Int} {Rs : Nat → Nat → List Int} {O : Obs} {V : Nat → Int} {F : Nat → Nat → Int}

theorem Hp.of (h : Cel T n H Rs O) : Hp T n H Rs O (fun x => H.getD x 0) (fun _ _ => 0) :=
  ⟨⟨H, h, rfl, fun _ _ => rfl⟩, fun _ _ _ _ _ => rfl, fun x o rf sz hx k hk => (h.obj x o rf sz hx).2.2.2.2.1 k hk⟩
/-- An object's words lie behind the table, and in the arena. -/
theorem Cel.inn (h : Cel T n H Rs O) {x o rf sz : Nat} (hx : O x = some (o, rf, sz)) : hd T n 0 ≤ x ∧ x + sz < H.length ∧ o < T ∧ rf ≤ sz ∧ sz ≤ 95 := by
  obtain ⟨h1, h2, h3, _, _, h4⟩ := h.obj x o rf sz hx
  have hN := h.len
  rcases h4 with ⟨c1, b1, m1, hc1, hb1, hm1, hs1, rfl, he1⟩ | ⟨b1, r1, hr1, hr13, hb1, hs1, rfl, he1⟩
  · have p := pl_in (T := T) (n := n) (b := b1) hc1 hm1
    unfold hd at *; omega
  · unfold hd at *; omega
theorem Hp.len (h : Hp T n H Rs O V F) : H.length = 3 + T + 33 * n := by
  obtain ⟨H0, h0, h1, _⟩ := h.base
  rw [h1, h0.len]
theorem Hp.inn (h : Hp T n H Rs O V F) {x o rf sz : Nat} (hx : O x = some (o, rf, sz)) : hd T n 0 ≤ x ∧ x + sz < H.length ∧ o < T ∧ rf ≤ sz ∧ sz ≤ 95 := by
  obtain ⟨H0, h0, h1, _⟩ := h.base
  rw [h1]; exact h0.inn hx
theorem Hp.low (h : Hp T n H Rs O V F) {k : Nat} (hk : k < hd T n 0) : ∃ H0, Cel T n H0 Rs O ∧ H.length = H0.length ∧ ∀ k, k < hd T n 0 → H.getD k 0 = H0.getD k 0 := by
  obtain ⟨H0, h0, h1, h2⟩ := h.base
  exact ⟨H0, h0, h1, fun k hk => h2 k fun x o rf sz hx => by have := (h0.inn hx).1; omega⟩
theorem Hp.fit (h : Hp T n H Rs O V F) : Fit T n H Rs := by
  obtain ⟨H0, h0, h1, h2⟩ := h.low (k := 0) (by unfold hd; omega)
  refine h0.fit.words (h0.fit.iv.low ⟨h1, fun k hk => h2 k (by unfold hd; omega)⟩)
/-- A field is set. -/
theorem Hp.setF (h : Hp T n H Rs O V F) {x o rf sz k : Nat} (hx : O x = some (o, rf, sz)) (hk : k < sz) (v : Int) : Hp T n (H.set (x + 1 + k) v) Rs O V (fun y j => if y = x ∧ j = k then v else F y j) := by
  have hin := h.inn hx
  obtain ⟨H0, h0, h1, h2⟩ := h.base
  refine ⟨⟨H0, h0, by simpa using h1, fun j hj => ?_⟩, fun y o' rf' sz' hy => ?_, fun y o' rf' sz' hy j hj => ?_⟩
  · rw [getD_set', if_neg]
    · exact h2 j hj
    · rintro ⟨e, _⟩
      exact hj x o rf sz hx (by omega)
  · rw [getD_set', if_neg]
    · exact h.hdr y o' rf' sz' hy
    · rintro ⟨e, _⟩
      by_cases hxy : y = x
      · omega
      · rcases h0.apart hy hx hxy with q | q <;> omega
  · rw [getD_set']
    by_cases hxy : y = x
    · subst hxy
      by_cases hjk : j = k
      · subst hjk
        rw [if_pos ⟨rfl, by omega⟩]; simp
      · rw [if_neg (by omega)]
        simp only [hjk, and_false, if_false]
        exact h.fld y o' rf' sz' hy j hj
    · rw [if_neg]
      · simp only [hxy, false_and, if_false]
        exact h.fld y o' rf' sz' hy j hj
      · rintro ⟨e, _⟩
        rcases h0.apart hy hx hxy with q | q <;> omega
/-- A header is set. -/
theorem Hp.setV (h : Hp T n H Rs O V F) {x o rf sz : Nat} (hx : O x = some (o, rf, sz)) (v : Int) : Hp T n (H.set x v) Rs O (fun y => if y = x then v else V y) F := by
  have hin := h.inn hx
  obtain ⟨H0, h0, h1, h2⟩ := h.base
  refine ⟨⟨H0, h0, by simpa using h1, fun j hj => ?_⟩, fun y o' rf' sz' hy => ?_, fun y o' rf' sz' hy j hj => ?_⟩
  · rw [getD_set', if_neg]
    · exact h2 j hj
    · rintro ⟨e, _⟩
      exact hj x o rf sz hx (by omega)
  · rw [getD_set']
    by_cases hxy : y = x
    · subst hxy
      rw [if_pos ⟨rfl, by omega⟩, if_pos rfl]
    · rw [if_neg (fun z => hxy z.1), if_neg hxy]
      exact h.hdr y o' rf' sz' hy
  · rw [getD_set', if_neg]
    · exact h.fld y o' rf' sz' hy j hj
    · rintro ⟨e, _⟩
      by_cases hxy : y = x
      · omega
      · rcases h0.apart hy hx hxy with q | q <;> omega

/-- A heap whose objects are Local and not marked, or Global, and lead tl objects alone. -/
structure Gd (T n : Nat) (H : List Int) (Rs : Nat → Nat → List Int) (O : Obs) (V : Nat → Int) (F : Nat → Nat → Int) : Prop where
  hp : Hp T n H Rs O V F
  vk : ∀ x o rf sz, O x = some (o, rf, sz) → V x = hw o rf sz ∨ ∃ c : Nat, c ≤ 1 ∧ V x = Wd.wordI 3 c o rf sz false false
  fk : ∀ x o rf sz, O x = some (o, rf, sz) → ∀ k, k < sz → F x k = 0 ∨ ∃ y : Nat, F x k = y ∧ (O y).isSome = true
/-- Places of objects, or none. -/
def Pls (O : Obs) (P : List Int) : Prop := ∀ v ∈ P, v = 0 ∨ ∃ y : Nat, v = y ∧ (O y).isSome = true
theorem atP_ok {P : List Int} (h : Pls O P) (m : Nat) : atP P m = 0 ∨ ∃ y : Nat, atP P m = y ∧ (O y).isSome = true := by
  unfold atP
  split
  · exact .inl rfl
  · rename_i hm
    have hlt : m - 1 < P.length := by omega
    refine h _ ?_
    rw [List.getD_eq_getElem?_getD, List.getElem?_eq_getElem hlt]
    exact List.getElem_mem hlt
theorem Gd.of (h : Cel T n H Rs O) : Gd T n H Rs O (fun x => H.getD x 0) (fun _ _ => 0) :=
  ⟨Hp.of h, fun x o rf sz hx => .inl (h.obj x o rf sz hx).2.2.2.1, fun _ _ _ _ _ _ _ => .inl rfl⟩
theorem Gd.setF (h : Gd T n H Rs O V F) {x o rf sz k : Nat} (hx : O x = some (o, rf, sz)) (hk : k < sz) {v : Int} (hv : v = 0 ∨ ∃ y : Nat, v = y ∧ (O y).isSome = true) : ∃ F', Gd T n (H.set (x + 1 + k) v) Rs O V F' := by
  refine ⟨_, h.hp.setF hx hk v, h.vk, fun y o' rf' sz' hy j hj => ?_⟩
  by_cases e : y = x ∧ j = k
  · rw [if_pos e]; exact hv
  · rw [if_neg e]; exact h.fk y o' rf' sz' hy j hj
theorem Gd.setV (h : Gd T n H Rs O V F) {x o rf sz c : Nat} (hx : O x = some (o, rf, sz)) (hc : c ≤ 1) : ∃ V', Gd T n (H.set x (Wd.wordI 3 c o rf sz false false)) Rs O V' F := by
  refine ⟨_, h.hp.setV hx _, fun y o' rf' sz' hy => ?_, h.fk⟩
  by_cases e : y = x
  · subst e
    rw [hx] at hy
    simp only [Option.some.injEq, Prod.mk.injEq] at hy
    obtain ⟨rfl, rfl, rfl⟩ := hy
    rw [if_pos rfl]; exact .inr ⟨c, hc, rfl⟩
  · rw [if_neg e]; exact h.vk y o' rf' sz' hy
theorem Gd.refs (h : Gd T n H Rs O V F) {P : List Int} (hP : Pls O P) {x o rf sz : Nat} (hx : O x = some (o, rf, sz)) (tl : List Nat) : ∀ k, k ≤ sz → ∃ F', Gd T n (refS P x tl H k) Rs O V F'
  | 0, _ => ⟨F, h⟩
  | k + 1, hk => by
    obtain ⟨F', h'⟩ := h.refs hP hx tl k (by omega)
    exact h'.setF hx (by omega) (atP_ok hP _)
theorem parts_hw {k c o rf sz : Nat} (hk : k ≤ 3) (hc : c ≤ 1) (ho : o ≤ 63) (hr : rf ≤ 127) (hs : sz ≤ 127) : (Wd.wordI k c o rf sz false false) % 4 = k ∧ (Wd.wordI k c o rf sz false false) / 32 % 64 = o ∧ (Wd.wordI k c o rf sz false false) / 2048 % 128 = rf ∧ (Wd.wordI k c o rf sz false false) / 262144 % 128 = sz ∧ (Wd.wordI k c o rf sz false false) / 16 % 2 = 0 := by
  unfold Wd.wordI Wd.bitI
  simp only [Bool.false_eq_true, if_false]
  refine ⟨?_, ?_, ?_, ?_, ?_⟩ <;> omega
/-- What a header says. -/
theorem Gd.head (h : Gd T n H Rs O V F) (hT : T ≤ 64) {x o rf sz : Nat} (hx : O x = some (o, rf, sz)) : H.getD x 0 / 32 % 64 = o ∧ H.getD x 0 / 2048 % 128 = rf ∧ H.getD x 0 / 262144 % 128 = sz ∧ H.getD x 0 / 16 % 2 = 0 := by
  have hin := h.hp.inn hx
  rw [h.hp.hdr x o rf sz hx]
  rcases h.vk x o rf sz hx with e | ⟨c, hc, e⟩
  · rw [e]
    have := parts_hw (k := 2) (c := 0) (o := o) (rf := rf) (sz := sz) (by omega) (by omega) (by omega) (by omega) (by omega)
    exact ⟨this.2.1, this.2.2.1, this.2.2.2.1, this.2.2.2.2⟩
  · rw [e]
    have := parts_hw (k := 3) (c := c) (o := o) (rf := rf) (sz := sz) (by omega) hc (by omega) (by omega) (by omega)
    exact ⟨this.2.1, this.2.2.1, this.2.2.2.1, this.2.2.2.2⟩
theorem Gd.kid (h : Gd T n H Rs O V F) (hT : T ≤ 64) {P : List Int} (hP : Pls O P) {x o rf sz : Nat} (hx : O x = some (o, rf, sz)) (y : Th) : ∃ V' F', Gd T n (kidS P x y H) Rs O V' F' := by
  have hin := h.hp.inn hx
  obtain ⟨e1, e2, e3, e4⟩ := h.head hT hx
  obtain ⟨F', h'⟩ := h.refs hP hx y.tl (min (H.getD x 0 / 2048 % 128).toNat y.tl.length) (by rw [e2]; omega)
  unfold kidS
  split
  · have : gwO y.c (H.getD x 0) = Wd.wordI 3 ((y.c % 2 : Nat) : Int) o rf sz false false := by unfold gwO; rw [e1, e2, e3]
    rw [this]
    obtain ⟨V', hv⟩ := h'.setV hx (c := y.c % 2) (by omega)
    exact ⟨V', F', hv⟩
  · exact ⟨V, F', h'⟩
theorem Gd.kids (h : Gd T n H Rs O V F) (hT : T ≤ 64) {P : List Int} (hP : Pls O P) (l : List Th) : ∀ k, k ≤ P.length → ∃ V' F', Gd T n (kidsN P l H k) Rs O V' F'
  | 0, _ => ⟨V, F, h⟩
  | k + 1, hk => by
    obtain ⟨V', F', h'⟩ := h.kids hT hP l k (by omega)
    rw [kidsN]
    split
    · exact ⟨V', F', h'⟩
    · rename_i hne
      have hmem : P.getD k 0 ∈ P := by
        rw [List.getD_eq_getElem?_getD, List.getElem?_eq_getElem (show k < P.length by omega)]
        exact List.getElem_mem _
      rcases hP _ hmem with e | ⟨y, e, hy⟩
      · exact absurd e hne
      · rw [e, Int.toNat_natCast]
        cases hO : O y with
        | none => rw [hO] at hy; cases hy
        | some z =>
          obtain ⟨o, rf, sz⟩ := z
          exact h'.kid hT hP hO _
end
section
variable {T n : Nat}
theorem cel_begin (hT : 1 ≤ T) (hn : n ≤ 12) : Cel T n (As0 T n).H (As0 T n).Rs (fun _ => none) := by
  have hz : ∀ k, 1 ≤ k → ((List.replicate (3 + T + 33 * n) (0 : Int)).set 0 ((2 ^ n - 1 : Nat) : Int)).getD k 0 = 0 := fun k hk => by
    rw [getD_set', if_neg (by omega)]
    simp [List.getD_eq_getElem?_getD, List.getElem?_replicate]
    split <;> rfl
  refine ⟨fit_begin T n hn, fun b hb _ => hz _ (by omega), fun b hb => .inl (hz _ (by omega)), ?_, ?_⟩
  · intro o _ c _ x hx
    exact absurd hx (by simp [As0])
  · intro x o rf sz hx
    cases hx
theorem makes_good (hT : 1 ≤ T) (hT4 : T ≤ 4) (hn : n ≤ 12) (l : List Th) : ∀ k, ∃ O, Cel T n (makesN T n l k).1.H (makesN T n l k).1.Rs O ∧ Pls O (makesN T n l k).2 ∧ (makesN T n l k).2.length = k
  | 0 => ⟨_, cel_begin hT hn, fun v hv => absurd hv (by simp [makesN]), rfl⟩
  | k + 1 => by
    obtain ⟨O, h1, h2, h3⟩ := makes_good hT hT4 hn l k
    rw [makesN]
    generalize makesN T n l k = y at *
    generalize l.getD k Th0 = x
    have hi : x.ow % T < T := Nat.mod_lt _ (by omega)
    have hsz : szO x ≤ 95 := by unfold szO; omega
    have hrf : rfO x ≤ szO x := by
      have := Nat.mod_lt x.rf (show 0 < x.sz % 40 + 1 by omega)
      unfold rfO szO; omega
    unfold makeS madeS
    rcases h1.make (wk := y.1.wk (x.ow % T)) hi (by omega) (by omega) hrf hsz with ⟨e, h⟩ | ⟨a, e, hO, h⟩
    · refine ⟨O, h, fun v hv => ?_, by simp [h3]⟩
      simp only [List.mem_append, List.mem_singleton] at hv
      rcases hv with hv | rfl
      · exact h2 v hv
      · rw [e]; exact .inl rfl
    · refine ⟨_, h, fun v hv => ?_, by simp [h3]⟩
      simp only [List.mem_append, List.mem_singleton] at hv
      rcases hv with hv | rfl
      · rcases h2 v hv with q | ⟨z, q1, q2⟩
        · exact .inl q
        · refine .inr ⟨z, q1, ?_⟩
          by_cases ez : z = a
          · subst ez; rw [hO] at q2; cases q2
          · rw [setOb_ne ez]; exact q2
      · rw [e]; exact .inr ⟨a, rfl, by rw [setOb_same]; rfl⟩
/-- The heap of any things. -/
theorem heap_good (hT : 1 ≤ T) (hT4 : T ≤ 4) (hn : n ≤ 12) (l : List Th) : ∃ O V F, Gd T n (kidsN (makesN T n l l.length).2 l (makesN T n l l.length).1.H l.length) (makesN T n l l.length).1.Rs O V F ∧ Pls O (makesN T n l l.length).2 := by
  obtain ⟨O, h1, h2, h3⟩ := makes_good hT hT4 hn l l.length
  obtain ⟨V, F, h⟩ := (Gd.of h1).kids (by omega) h2 l l.length (by omega)
  exact ⟨O, V, F, h, h2⟩
end
end Go.Proofs.YtdbbkncjhnafdaaGreatDoor

namespace Go.Proofs.YtdbbkncjhnafdaaGreatDoor
set_option linter.unusedVariables false
set_option linter.unusedSimpArgs false
set_option maxRecDepth 100000
open Go.RowKit

/-- What was made lies in blocks; there are as many sizes. -/
structure Mok (T n k : Nat) (s : As) : Prop where
  pl : ∀ i, i < T → ∀ x ∈ s.made i, ((3 + T + n : Nat) : Int) ≤ x ∧ x < (3 + T + 33 * n : Nat)
  ln : ∀ i, i < T → (s.made i).length ≤ k ∧ (s.size i).length = (s.made i).length
theorem Mok.more {T n k k' : Nat} {s : As} (h : Mok T n k s) (hk : k ≤ k') : Mok T n k' s := ⟨h.pl, fun i hi => ⟨Nat.le_trans (h.ln i hi).1 hk, (h.ln i hi).2⟩⟩
theorem Mok.same {T n k : Nat} {s s' : As} (h : Mok T n k s) (h1 : s'.made = s.made) (h2 : s'.size = s.size) : Mok T n k s' := ⟨by rw [h1]; exact h.pl, by rw [h1, h2]; exact h.ln⟩
theorem Mok.made {T n k : Nat} {s : As} (h : Mok T n k s) (hf : Fit T n s.H s.Rs) {i rf sz : Nat} (hi : i < T) (hT : T ≤ 64) (hn : n ≤ 64) (hs : sz ≤ 95) : Mok T n (k + 1) (madeS T n s i rf sz) := by
  have hb := (pmake_fit (wk := s.wk i) (rf := rf) hf hi hT hn hs).2.2
  unfold madeS
  cases hres : (pmakeS T 0 n i (s.wk i) rf sz (s.H, s.Rs i)).2 with
  | none => exact ⟨h.pl, fun j hj => ⟨Nat.le_succ_of_le (h.ln j hj).1, (h.ln j hj).2⟩⟩
  | some x =>
    have hx := hb x hres
    refine ⟨fun j hj y hy => ?_, fun j hj => ?_⟩
    · by_cases e : j = i
      · subst e
        have hy' : y ∈ s.made j ++ [x] := by simpa [upd1_same] using hy
        rw [List.mem_append, List.mem_singleton] at hy'
        rcases hy' with z | z
        · exact h.pl j hj y z
        · omega
      · exact h.pl j hj y (by simpa [upd1_ne e] using hy)
    · by_cases e : j = i
      · subst e
        have := h.ln j hj
        simp only [upd1_same, List.length_append, List.length_cons, List.length_nil]
        omega
      · have := h.ln j hj
        simp only [upd1_ne e]
        omega
/-- One that was made is taken out. -/
def cutL (xs : List Int) (k : Nat) : List Int := xs.take k ++ xs.drop (k + 1)
theorem cutL_len {xs : List Int} {k : Nat} (h : k < xs.length) : (cutL xs k).length + 1 = xs.length := by
  unfold cutL
  rw [List.length_append, List.length_take, List.length_drop]
  omega
theorem Mok.cut {T n k m : Nat} {s : As} (h : Mok T n k s) {i : Nat} (hi : i < T) (hm : m < (s.made i).length) : Mok T n k { s with made := upd1 s.made i (cutL (s.made i) m), size := upd1 s.size i (cutL (s.size i) m) } := by
  refine ⟨fun j hj y hy => ?_, fun j hj => ?_⟩
  · by_cases e : j = i
    · subst e
      have hy' : y ∈ cutL (s.made j) m := by simpa [upd1_same] using hy
      unfold cutL at hy'
      rw [List.mem_append] at hy'
      rcases hy' with z | z
      · exact h.pl j hj y (List.mem_of_mem_take z)
      · exact h.pl j hj y (List.mem_of_mem_drop z)
    · exact h.pl j hj y (by simpa [upd1_ne e] using hy)
  · by_cases e : j = i
    · subst e
      have h1 := h.ln j hj
      have h2 := cutL_len hm
      have h3 := cutL_len (xs := s.size j) (k := m) (by omega)
      simp only [upd1_same]
      omega
    · simpa [upd1_ne e] using h.ln j hj
/-- What a region that cuts a row holds on to. -/
def D2 (T idx sp bb cc kb : Nat) (kk : Int) (wx : World) : Prop := wx.cell? ⟨sp, idx, none⟩ = some (.slice (some ⟨bb, 0, none⟩) T cc) ∧ wx.cell? ⟨kb, 2, none⟩ = some (.int .u8 kk)
theorem D2.keep {T idx sp bb cc kb : Nat} {kk : Int} {wx wy : World} {S : List Nat} (h : D2 T idx sp bb cc kb kk wx) (k : Kp S wx wy) (h1 : sp ∉ S) (h2 : kb ∉ S) : D2 T idx sp bb cc kb kk wy := ⟨kp_cell k h1 h.1, kp_cell k h2 h.2⟩
end Go.Proofs.YtdbbkncjhnafdaaGreatDoor
