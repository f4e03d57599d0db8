/- ListOnce's plain facts: each place is in one row, once; how many are gone; what the map holds. Conditions: as each lemma states them. -/
import Derived.Test.YthcblhombfggaaaLsQ
import Derived.Maps.Own
import Derived.Maps.OwnOps
import Derived.Maps.OwnSet
import Derived.Maps.Views
import Derived.Maps.RangeWalk
import Derived.OpenShut
namespace Go.Proofs.Ythcblhombfggaaa
set_option linter.unusedVariables false
set_option linter.unusedSimpArgs false
open Go.RowKit Go.Maps

def In (R : Nat → List Int) (x : Int) : Prop := ∃ c, c < 4 ∧ x ∈ R c
structure Good (R : Nat → List Int) : Prop where
  nd : ∀ c, c < 4 → (R c).Nodup
  ap : ∀ c d, c < 4 → d < 4 → c ≠ d → ∀ x ∈ R c, x ∉ R d
  lo : ∀ c, c < 4 → ∀ x ∈ R c, 1 ≤ x ∧ (Lit.int .i64 x).wf = true

theorem good_nil : Good (fun _ => []) := ⟨fun _ _ => List.nodup_nil, fun _ _ _ _ _ x hx => by simp at hx, fun _ _ x hx => by simp at hx⟩
theorem inR_iff (x : Int) (xs : List Int) : inR x xs = true ↔ x ∈ xs := by
  unfold inR
  rw [List.any_eq_true]
  constructor
  · rintro ⟨y, hy, he⟩
    rw [beq_iff_eq] at he
    exact he ▸ hy
  · intro h
    exact ⟨x, h, by simp⟩
theorem hasB_iff (R : Nat → List Int) (x : Int) : hasB R x = true ↔ In R x := by
  have h : ∀ k, inK R x k = true ↔ ∃ c, c < k ∧ x ∈ R c := by
    intro k
    induction k with
    | zero => simp [inK]
    | succ k ih =>
      rw [inK, Bool.or_eq_true, ih, inR_iff]
      constructor
      · rintro (⟨c, hc, hx⟩ | hx)
        · exact ⟨c, by omega, hx⟩
        · exact ⟨k, by omega, hx⟩
      · rintro ⟨c, hc, hx⟩
        by_cases e : c = k
        · exact .inr (e ▸ hx)
        · exact .inl ⟨c, by omega, hx⟩
  exact h 4

/-- All places, row by row. -/
def allR (R : Nat → List Int) : List Int := R 0 ++ (R 1 ++ (R 2 ++ R 3))
theorem mem_allR (R : Nat → List Int) (x : Int) : x ∈ allR R ↔ In R x := by
  unfold allR In
  simp only [List.mem_append]
  constructor
  · rintro (h | h | h | h)
    · exact ⟨0, by omega, h⟩
    · exact ⟨1, by omega, h⟩
    · exact ⟨2, by omega, h⟩
    · exact ⟨3, by omega, h⟩
  · rintro ⟨c, hc, h⟩
    rcases four hc with rfl | rfl | rfl | rfl
    · exact .inl h
    · exact .inr (.inl h)
    · exact .inr (.inr (.inl h))
    · exact .inr (.inr (.inr h))
theorem Good.all {R : Nat → List Int} (h : Good R) : (allR R).Nodup := by
  unfold allR
  refine List.nodup_append.2 ⟨h.nd 0 (by omega), List.nodup_append.2 ⟨h.nd 1 (by omega), List.nodup_append.2 ⟨h.nd 2 (by omega), h.nd 3 (by omega), ?_⟩, ?_⟩, ?_⟩
  · intro a ha b hb e
    subst e
    exact h.ap 2 3 (by omega) (by omega) (by omega) a ha hb
  · intro a ha b hb e
    subst e
    rcases List.mem_append.1 hb with hb | hb
    · exact h.ap 1 2 (by omega) (by omega) (by omega) a ha hb
    · exact h.ap 1 3 (by omega) (by omega) (by omega) a ha hb
  · intro a ha b hb e
    subst e
    rcases List.mem_append.1 hb with hb | hb
    · exact h.ap 0 1 (by omega) (by omega) (by omega) a ha hb
    · rcases List.mem_append.1 hb with hb | hb
      · exact h.ap 0 2 (by omega) (by omega) (by omega) a ha hb
      · exact h.ap 0 3 (by omega) (by omega) (by omega) a ha hb
/-- How many there are in the first k rows. -/
def tot (R : Nat → List Int) : Nat → Nat
  | 0 => 0
  | k + 1 => tot R k + (R k).length
theorem tot_all (R : Nat → List Int) : tot R 4 = (allR R).length := by
  simp only [tot, allR, List.length_append]; omega
theorem tot_le {R : Nat → List Int} {N : Nat} (h : Len R N) : ∀ k, k ≤ 4 → tot R k ≤ N * k
  | 0, _ => by simp [tot]
  | k + 1, hk => by
    have := tot_le h k (by omega)
    have := h k (by omega)
    simp only [tot]
    rw [Nat.mul_succ]; omega

theorem Good.push {R : Nat → List Int} (h : Good R) {c x : Int} (hw : (Lit.int .i64 x).wf = true) : Good (pushR R c x) := by
  unfold pushR
  by_cases hp : pushE R c x = 0
  · rw [if_pos hp]
    have hb : badC c = false := by
      cases hb : badC c
      · rfl
      · simp [pushE, hb] at hp
    obtain ⟨k, rfl, hk⟩ := goodC hb
    have h1 : ¬ x < 1 := fun e => by simp [pushE, hb, e] at hp
    have h2 : hasB R x = false := by
      cases h2 : hasB R x
      · rfl
      · simp [pushE, hb, h1, h2] at hp
    have hx : ¬ In R x := fun e => by rw [(hasB_iff R x).2 e] at h2; cases h2
    simp only [Int.toNat_natCast]
    refine ⟨fun d hd => ?_, fun a b ha hb' hab y hy => ?_, fun d hd y hy => ?_⟩
    · by_cases e : d = k
      · subst e
        rw [upd_same]
        exact List.nodup_append.2 ⟨h.nd d hd, by simp, fun a ha b hb e => by
          simp at hb; subst hb; subst e
          exact hx ⟨d, hd, ha⟩⟩
      · rw [upd_ne _ _ _ _ e]; exact h.nd d hd
    · by_cases e1 : a = k
      · subst e1
        rw [upd_same] at hy
        rw [upd_ne _ _ _ _ (fun e => hab e.symm)]
        rcases List.mem_append.1 hy with hy | hy
        · exact h.ap a b ha hb' hab y hy
        · simp at hy; subst hy
          exact fun e => hx ⟨b, hb', e⟩
      · rw [upd_ne _ _ _ _ e1] at hy
        by_cases e2 : b = k
        · subst e2
          rw [upd_same]
          intro e
          rcases List.mem_append.1 e with e | e
          · exact h.ap a b ha hb' hab y hy e
          · simp at e; subst e
            exact hx ⟨a, ha, hy⟩
        · rw [upd_ne _ _ _ _ e2]
          exact h.ap a b ha hb' hab y hy
    · by_cases e : d = k
      · subst e
        rw [upd_same] at hy
        rcases List.mem_append.1 hy with hy | hy
        · exact h.lo d hd y hy
        · simp at hy; subst hy
          exact ⟨by omega, hw⟩
      · rw [upd_ne _ _ _ _ e] at hy
        exact h.lo d hd y hy
  · rw [if_neg hp]; exact h
/-- Rows that are parts of rows. -/
theorem Good.sub {R R' : Nat → List Int} (h : Good R) (hs : ∀ c, c < 4 → (R' c).Sublist (R c)) : Good R' :=
  ⟨fun c hc => (hs c hc).nodup (h.nd c hc), fun c d hc hd hcd x hx e => h.ap c d hc hd hcd x ((hs c hc).subset hx) ((hs d hd).subset e), fun c hc x hx => h.lo c hc x ((hs c hc).subset hx)⟩
theorem pop_sub (R : Nat → List Int) (c : Int) : ∀ d, d < 4 → (popR R c d).Sublist (R d) := by
  intro d hd
  unfold popR
  split
  · by_cases e : d = c.toNat
    · subst e; rw [upd_same]; exact List.dropLast_sublist _
    · rw [upd_ne _ _ _ _ e]; exact List.Sublist.refl _
  · exact List.Sublist.refl _
theorem drop_sub (R : Nat → List Int) (f t : Int) : ∀ d, d < 4 → (dropR R f t d).Sublist (R d) := by
  intro d hd
  unfold dropR Rk left
  rw [if_pos hd]
  exact List.filter_sublist
theorem In_drop (R : Nat → List Int) (f t : Int) {c : Nat} (hc : c < 4) (x : Int) : x ∈ dropR R f t c ↔ x ∈ R c ∧ goes f t x = false := by
  unfold dropR Rk left
  rw [if_pos hc, List.mem_filter]
  simp

/-- What a Pop that goes through takes out. -/
theorem pop_out {R : Nat → List Int} {c : Int} (hG : Good R) (h : popE R c = 0) : ∃ k : Nat, c = k ∧ k < 4 ∧ popX R c ∈ R k ∧ ∀ d, d < 4 → ∀ y, y ∈ popR R c d ↔ y ∈ R d ∧ y ≠ popX R c := by
  have hb : badC c = false := by
    cases hb : badC c
    · rfl
    · simp [popE, hb] at h
  obtain ⟨k, rfl, hk⟩ := goodC hb
  have hne : R k ≠ [] := fun e => by simp [popE, hb, e] at h
  have e := List.dropLast_concat_getLast hne
  have ex : popX R k = (R k).getLast hne := by
    rw [popX, if_pos h, Int.toNat_natCast, List.getLastD_eq_getLast?, List.getLast?_eq_some_getLast hne]; rfl
  have hmem : popX R k ∈ R k := by rw [ex]; exact List.getLast_mem hne
  refine ⟨k, rfl, hk, hmem, fun d hd y => ?_⟩
  rw [popR, if_pos h, Int.toNat_natCast]
  by_cases ed : d = k
  · subst ed
    rw [upd_same]
    have hnd := hG.nd d hd
    rw [← e] at hnd
    have hnd2 := (List.nodup_append.1 hnd).2.2
    constructor
    · intro hy
      exact ⟨List.dropLast_subset _ hy, fun e2 => hnd2 y hy ((R d).getLast hne) (by simp) (e2.trans ex)⟩
    · rintro ⟨hy, hny⟩
      rw [← e, List.mem_append] at hy
      rcases hy with hy | hy
      · exact hy
      · simp at hy
        exact absurd (hy.trans ex.symm) hny
  · rw [upd_ne _ _ _ _ ed]
    exact ⟨fun hy => ⟨hy, fun e2 => hG.ap d k hd hk ed y hy (e2 ▸ hmem)⟩, fun hy => hy.1⟩

/-! ### How many are gone -/
def num (f t : Int) (left : Lit → Bool) (xs : List Int) : Nat := xs.countP fun x => goes f t x && !left (.int .i64 x)
theorem num_start (f t : Int) (left : Lit → Bool) (xs : List Int) (h : ∀ x ∈ xs, left (.int .i64 x) = true) : num f t left xs = 0 := by
  unfold num
  rw [List.countP_eq_zero]
  intro x hx
  simp [h x hx]
theorem lit_ne {x y : Int} (h : x ≠ y) : (Lit.int .i64 x) ≠ .int .i64 y := fun e => h (by injection e)
theorem same_self (x : Int) : (Lit.int .i64 x).sameKey (.int .i64 x) = true := WideAt.sameKey_self (by trivial)
theorem same_ne {x y : Int} (h : x ≠ y) : (Lit.int .i64 x).sameKey (.int .i64 y) = false := sameKey_ne (lit_ne h)
theorem num_other (f t : Int) (left : Lit → Bool) (x : Int) : ∀ (xs : List Int), x ∉ xs → num f t (fun z => left z && !z.sameKey (.int .i64 x)) xs = num f t left xs
  | [], _ => rfl
  | y :: ys, h => by
    have ih := num_other f t left x ys (fun e => h (List.mem_cons_of_mem _ e))
    have hne : y ≠ x := fun e => h (e ▸ List.mem_cons_self)
    unfold num at *
    rw [List.countP_cons, List.countP_cons, ih]
    simp [same_ne hne]
theorem num_step (f t : Int) (left : Lit → Bool) (x : Int) (hl : left (.int .i64 x) = true) : ∀ (xs : List Int), xs.Nodup → x ∈ xs → num f t (fun z => left z && !z.sameKey (.int .i64 x)) xs = num f t left xs + (if goes f t x then 1 else 0)
  | [], _, h => by simp at h
  | y :: ys, hn, h => by
    rw [List.nodup_cons] at hn
    by_cases e : y = x
    · subst e
      have ho := num_other f t left y ys hn.1
      unfold num at *
      rw [List.countP_cons, List.countP_cons, ho]
      simp [hl, same_self]
    · have hx : x ∈ ys := by
        rcases List.mem_cons.1 h with h | h
        · exact absurd h.symm e
        · exact h
      have ih := num_step f t left x hl ys hn.2 hx
      unfold num at *
      rw [List.countP_cons, List.countP_cons, ih]
      simp only [same_ne e, Bool.not_false, Bool.and_true]
      omega
theorem num_row (f t : Int) (xs : List Int) (lf : Lit → Bool) (h : ∀ k, lf k = false) : num f t lf xs = xs.length - (left f t xs).length := by
  unfold num left
  have h1 : xs.countP (fun x => goes f t x && !lf (.int .i64 x)) = xs.countP (fun x => goes f t x) := List.countP_congr (by intro x hx; simp [h])
  have h2 := List.length_eq_countP_add_countP (fun x => goes f t x) (l := xs)
  rw [h1]
  have h3 : (xs.filter fun x => !goes f t x).length = xs.countP (fun x => decide ¬ goes f t x = true) := by
    rw [← List.countP_eq_length_filter]
    exact List.countP_congr (by intro x hx; simp)
  rw [h3]; omega
theorem num_end (R : Nat → List Int) (f t : Int) (lf : Lit → Bool) (h : ∀ k, lf k = false) : num f t lf (allR R) = dropN R f t := by
  unfold dropN
  have e : num f t lf (allR R) = num f t lf (R 0) + (num f t lf (R 1) + (num f t lf (R 2) + num f t lf (R 3))) := by
    unfold num allR
    rw [List.countP_append, List.countP_append, List.countP_append]
  rw [e, num_row f t _ lf h, num_row f t _ lf h, num_row f t _ lf h, num_row f t _ lf h]
  simp only [gone]; omega
theorem num_le (f t : Int) (lf : Lit → Bool) (xs : List Int) : num f t lf xs ≤ xs.length := List.countP_le_length

/-! ### What the map holds -/
/-- Each key is one that can be found again. -/
def Finds (D : DataW Unit) : Prop := ∀ es, D = .map es → ∀ p ∈ es, p.1.sameKey p.1 = true
theorem Finds.del {D : DataW Unit} (h : Finds D) (k : Lit) : Finds (D.del k) := by
  intro es he p hp
  cases D with
  | map es0 =>
    have e : (DataW.map es0 : DataW Unit).del k = .map (es0.filter fun p => !p.1.sameKey k) := rfl
    rw [e] at he
    cases he
    exact h es0 rfl p (List.mem_filter.1 hp).1
  | _ => first | (cases he) | (exact h _ he p hp)
/-- A map that reads so has as many keys. -/
theorem size_keys : ∀ (xs : List Int) (D : DataW Unit), Tidy D → Finds D → xs.Nodup → (∀ k : Lit, Maps.has D k = true ↔ ∃ x ∈ xs, k = .int .i64 x) → Maps.size D = xs.length
  | [], D, ht, hf, _, h => by
    obtain ⟨es, rfl, hp⟩ := ht
    cases es with
    | nil => rfl
    | cons p es =>
      exfalso
      have h1 : Maps.has (DataW.map (p :: es) : DataW Unit) p.1 = true := by
        rw [has_eq]
        exact List.any_eq_true.2 ⟨p, List.mem_cons_self, hf _ rfl p List.mem_cons_self⟩
      obtain ⟨x, hx, _⟩ := (h _).1 h1
      simp at hx
  | x :: xs, D, ht, hf, hn, h => by
    rw [List.nodup_cons] at hn
    have hx : Maps.has D (.int .i64 x) = true := (h _).2 ⟨x, List.mem_cons_self, rfl⟩
    have h2 := size_keys xs (D.del (.int .i64 x)) (ht.del _) (hf.del _) hn.2 (fun k => by
      by_cases e : k = .int .i64 x
      · subst e
        rw [has_del_same]
        constructor
        · intro q; cases q
        · rintro ⟨y, hy, e⟩
          injection e with _ e
          exact absurd (e ▸ hy) hn.1
      · rw [has_del_other e, h k]
        constructor
        · rintro ⟨y, hy, rfl⟩
          rcases List.mem_cons.1 hy with rfl | hy
          · exact absurd rfl e
          · exact ⟨y, hy, rfl⟩
        · rintro ⟨y, hy, rfl⟩
          exact ⟨y, List.mem_cons_of_mem _ hy, rfl⟩)
    have h3 := size_del ht (k := .int .i64 x)
    rw [hx, if_pos rfl, h2] at h3
    rw [List.length_cons]; exact h3.symm

/-- The map has just the rows' places, at each its class, and 1. -/
structure KI (D : DataW Unit) (R : Nat → List Int) : Prop where
  key : ∀ k : Lit, Maps.has D k = true ↔ ∃ x, In R x ∧ k = .int .i64 x
  val : ∀ c, c < 4 → ∀ x ∈ R c, D.atKey (.int .i64 x) (.lit (.int .i64 0)) = .lit (.int .i64 ((c : Int) + 1))
theorem KI.has {D : DataW Unit} {R : Nat → List Int} (h : KI D R) (x : Int) : Maps.has D (.int .i64 x) = hasB R x := by
  rw [Bool.eq_iff_iff, h.key, hasB_iff]
  constructor
  · rintro ⟨y, hy, e⟩
    injection e with _ e
    exact e ▸ hy
  · intro hx
    exact ⟨x, hx, rfl⟩
theorem ki_nil : KI (.map []) (fun _ => []) := ⟨fun k => by
  constructor
  · intro h; simp [Maps.has] at h
  · rintro ⟨x, ⟨c, hc, hx⟩, _⟩; simp at hx, fun c hc x hx => by simp at hx⟩
theorem KI.push {D : DataW Unit} {R : Nat → List Int} (h : KI D R) (hG : Good R) (hm : IsMap D) {c x : Int} (hp : pushE R c x = 0) : ∃ k : Nat, c = k ∧ k < 4 ∧ KI (D.put (.int .i64 x) (.lit (.int .i64 ((k : Int) + 1)))) (pushR R c x) := by
  have hb : badC c = false := by
    cases hb : badC c
    · rfl
    · simp [pushE, hb] at hp
  obtain ⟨k, rfl, hk⟩ := goodC hb
  have h1 : ¬ x < 1 := fun e => by simp [pushE, hb, e] at hp
  have h2 : hasB R x = false := by
    cases h2 : hasB R x
    · rfl
    · simp [pushE, hb, h1, h2] at hp
  have hx : ¬ In R x := fun e => by rw [(hasB_iff R x).2 e] at h2; cases h2
  have e : pushR R k x = upd R k (R k ++ [x]) := by rw [pushR, if_pos hp, Int.toNat_natCast]
  have hin : ∀ d, d < 4 → ∀ y, y ∈ pushR R k x d ↔ y ∈ R d ∨ (d = k ∧ y = x) := by
    intro d hd y
    rw [e]
    by_cases ed : d = k
    · subst ed
      rw [upd_same, List.mem_append]
      simp
    · rw [upd_ne _ _ _ _ ed]
      simp [ed]
  refine ⟨k, rfl, hk, ⟨fun l => ?_, fun d hd y hy => ?_⟩⟩
  · by_cases el : l = .int .i64 x
    · subst el
      rw [has_put_same hm (show WideAt.IsKeyLit (.int .i64 x) from trivial)]
      exact ⟨fun _ => ⟨x, ⟨k, hk, (hin k hk x).2 (.inr ⟨rfl, rfl⟩)⟩, rfl⟩, fun _ => rfl⟩
    · rw [has_put_other el, h.key]
      constructor
      · rintro ⟨y, ⟨d, hd, hy⟩, rfl⟩
        exact ⟨y, ⟨d, hd, (hin d hd y).2 (.inl hy)⟩, rfl⟩
      · rintro ⟨y, ⟨d, hd, hy⟩, rfl⟩
        rcases (hin d hd y).1 hy with q | ⟨_, q⟩
        · exact ⟨y, ⟨d, hd, q⟩, rfl⟩
        · exact absurd (by rw [q]) el
  · rcases (hin d hd y).1 hy with q | ⟨rfl, rfl⟩
    · have hyx : y ≠ x := fun e => hx ⟨d, hd, e ▸ q⟩
      rw [atKey_put_other (lit_ne hyx), h.val d hd y q]
    · exact atKey_put_same hm (by trivial) _ _
theorem KI.pop {D : DataW Unit} {R : Nat → List Int} (h : KI D R) (hG : Good R) {c : Int} (hp : popE R c = 0) : KI (D.del (.int .i64 (popX R c))) (popR R c) := by
  obtain ⟨k, rfl, hk, hm, hin⟩ := pop_out hG hp
  refine ⟨fun l => ?_, fun d hd y hy => ?_⟩
  · by_cases el : l = .int .i64 (popX R k)
    · subst el
      rw [has_del_same]
      constructor
      · intro q; cases q
      · rintro ⟨y, ⟨d, hd, hy⟩, e⟩
        injection e with _ e
        exact absurd e.symm ((hin d hd y).1 hy).2
    · rw [has_del_other el, h.key]
      constructor
      · rintro ⟨y, ⟨d, hd, hy⟩, rfl⟩
        exact ⟨y, ⟨d, hd, (hin d hd y).2 ⟨hy, fun e => el (by rw [e])⟩⟩, rfl⟩
      · rintro ⟨y, ⟨d, hd, hy⟩, rfl⟩
        exact ⟨y, ⟨d, hd, ((hin d hd y).1 hy).1⟩, rfl⟩
  · obtain ⟨q, hne⟩ := (hin d hd y).1 hy
    rw [atKey_del_other (lit_ne hne), h.val d hd y q]
/-- While it is gone through, and those that go are struck. -/
structure KD (D : DataW Unit) (R : Nat → List Int) (f t : Int) (left : Lit → Bool) : Prop where
  key : ∀ k : Lit, Maps.has D k = true ↔ ∃ c x, c < 4 ∧ x ∈ R c ∧ (goes f t x = false ∨ left (.int .i64 x) = true) ∧ k = .int .i64 x
  val : ∀ c, c < 4 → ∀ x ∈ R c, (goes f t x = false ∨ left (.int .i64 x) = true) → D.atKey (.int .i64 x) (.lit (.int .i64 0)) = .lit (.int .i64 ((c : Int) + 1))
theorem KD.start {D : DataW Unit} {R : Nat → List Int} (h : KI D R) (f t : Int) : KD D R f t (Maps.has D) := by
  have hl : ∀ c, c < 4 → ∀ x ∈ R c, Maps.has D (.int .i64 x) = true := fun c hc x hx => (h.key _).2 ⟨x, ⟨c, hc, hx⟩, rfl⟩
  refine ⟨fun k => ?_, fun c hc x hx _ => h.val c hc x hx⟩
  rw [h.key]
  constructor
  · rintro ⟨x, ⟨c, hc, hx⟩, rfl⟩
    exact ⟨c, x, hc, hx, .inr (hl c hc x hx), rfl⟩
  · rintro ⟨c, x, hc, hx, _, rfl⟩
    exact ⟨x, ⟨c, hc, hx⟩, rfl⟩
theorem KD.fin {D : DataW Unit} {R : Nat → List Int} {f t : Int} {left : Lit → Bool} (h : KD D R f t left) (hl : ∀ k, left k = false) : KI D (dropR R f t) := by
  refine ⟨fun k => ?_, fun c hc x hx => ?_⟩
  · rw [h.key]
    constructor
    · rintro ⟨c, x, hc, hx, q, rfl⟩
      rcases q with q | q
      · exact ⟨x, ⟨c, hc, (In_drop R f t hc x).2 ⟨hx, q⟩⟩, rfl⟩
      · rw [hl] at q; cases q
    · rintro ⟨x, ⟨c, hc, hx⟩, rfl⟩
      obtain ⟨h1, h2⟩ := (In_drop R f t hc x).1 hx
      exact ⟨c, x, hc, h1, .inl h2, rfl⟩
  · obtain ⟨h1, h2⟩ := (In_drop R f t hc x).1 hx
    exact h.val c hc x h1 (.inl h2)
theorem KD.stays {D : DataW Unit} {R : Nat → List Int} {f t : Int} {left : Lit → Bool} (h : KD D R f t left) {x : Int} (hg : goes f t x = false) : KD D R f t (fun z => left z && !z.sameKey (.int .i64 x)) := by
  have e : ∀ y, (goes f t y = false ∨ (left (.int .i64 y) && !(Lit.int .i64 y).sameKey (.int .i64 x)) = true) ↔ (goes f t y = false ∨ left (.int .i64 y) = true) := by
    intro y
    by_cases hy : y = x
    · subst hy; simp [hg]
    · simp [same_ne hy]
  refine ⟨fun k => ?_, fun c hc y hy q => h.val c hc y hy ((e y).1 q)⟩
  rw [h.key]
  constructor
  · rintro ⟨c, y, hc, hy, q, rfl⟩
    exact ⟨c, y, hc, hy, (e y).2 q, rfl⟩
  · rintro ⟨c, y, hc, hy, q, rfl⟩
    exact ⟨c, y, hc, hy, (e y).1 q, rfl⟩
theorem KD.struck {D : DataW Unit} {R : Nat → List Int} {f t : Int} {left : Lit → Bool} (h : KD D R f t left) {x : Int} (hg : goes f t x = true) : KD (D.del (.int .i64 x)) R f t (fun z => left z && !z.sameKey (.int .i64 x)) := by
  have e : ∀ y, (goes f t y = false ∨ (left (.int .i64 y) && !(Lit.int .i64 y).sameKey (.int .i64 x)) = true) ↔ ((goes f t y = false ∨ left (.int .i64 y) = true) ∧ y ≠ x) := by
    intro y
    by_cases hy : y = x
    · subst hy; simp [hg, same_self]
    · simp [same_ne hy, hy]
  refine ⟨fun k => ?_, fun c hc y hy q => ?_⟩
  · by_cases ek : k = .int .i64 x
    · subst ek
      rw [has_del_same]
      constructor
      · intro q; cases q
      · rintro ⟨c, y, hc, hy, q, ek⟩
        injection ek with _ ek
        exact absurd ek.symm ((e y).1 q).2
    · rw [has_del_other ek, h.key]
      constructor
      · rintro ⟨c, y, hc, hy, q, rfl⟩
        exact ⟨c, y, hc, hy, (e y).2 ⟨q, fun e2 => ek (by rw [e2])⟩, rfl⟩
      · rintro ⟨c, y, hc, hy, q, rfl⟩
        exact ⟨c, y, hc, hy, ((e y).1 q).1, rfl⟩
  · obtain ⟨q1, q2⟩ := (e y).1 q
    rw [atKey_del_other (lit_ne q2), h.val c hc y hy q1]

end Go.Proofs.Ythcblhombfggaaa
