/- In company: a region that draws its order, walked once: whatever the order, each operation finds what it looks at. Of whatever program. Conditions: none. -/
import Derived.Test.YtodcnhodbeakiaaLfTU
import Derived.Orders
namespace Go.Proofs.Ytodcnhodbeakiaa
set_option linter.unusedVariables false
set_option linter.unusedSimpArgs false
open Go.Conc

/-- Each operation writes a slot of its own, and waits for those whose slots it looks at. -/
def neat (ops : Array Oper) (n : Nat) : Bool :=
  (List.range ops.size).all fun i => match ops[i]? with
    | none => true
    | some o => (match o.op with | .select .. => false | _ => true) && (match o.dst with | some d => decide (d < n) | none => true) && (o.after.all fun e => !Region.binds .any e || decide (e.on < i)) &&
      ((List.range ops.size).all fun j => match ops[j]? with
        | none => true
        | some oj => match oj.dst with
          | none => true
          | some t => (j == i || o.dst != some t) && (!(o.looksAt ops).contains t || o.after.any (fun e => Region.binds .any e && e.on == j)))

structure Neat (ops : Array Oper) (n : Nat) : Prop where
  sel : ∀ (i : Nat) (o : Oper), ops[i]? = some o → ∀ cs b, o.op ≠ .select cs b
  fits : ∀ (i : Nat) (o : Oper) (d : Tmp), ops[i]? = some o → o.dst = some d → d < n
  topo : ∀ (i : Nat) (o : Oper), ops[i]? = some o → ∀ e ∈ o.after, Region.binds .any e = true → e.on < i
  own : ∀ (i j : Nat) (oi oj : Oper) (d : Tmp), ops[i]? = some oi → ops[j]? = some oj → oi.dst = some d → oj.dst = some d → i = j
  wired : ∀ (i j : Nat) (oi oj : Oper) (t : Tmp), ops[i]? = some oi → ops[j]? = some oj → oj.dst = some t → t ∈ oi.looksAt ops → ∃ e ∈ oi.after, Region.binds .any e = true ∧ e.on = j

theorem neat_of {ops : Array Oper} {n : Nat} (h : neat ops n = true) : Neat ops n := by
  unfold neat at h
  rw [List.all_eq_true] at h
  have h1 : ∀ (i : Nat) (o : Oper), ops[i]? = some o → (((match o.op with | .select .. => false | _ => true) = true ∧ (match o.dst with | some d => decide (d < n) | none => true) = true) ∧ ∀ e ∈ o.after, (!Region.binds .any e || decide (e.on < i)) = true) ∧
      ∀ j, j < ops.size → (match ops[j]? with
        | none => true
        | some oj => match oj.dst with
          | none => true
          | some t => (j == i || o.dst != some t) && (!(o.looksAt ops).contains t || o.after.any (fun e => Region.binds .any e && e.on == j))) = true := fun i o ho => by
    have := h i (List.mem_range.2 (Array.getElem?_eq_some_iff.1 ho).1)
    rw [ho] at this
    simp only [Bool.and_eq_true, Array.all_eq_true_iff_forall_mem, List.all_eq_true, List.mem_range] at this
    exact this
  refine ⟨fun i o ho cs b e => ?_, fun i o d ho hd => ?_, fun i o ho e he hb => ?_, fun i j oi oj d hi hj hdi hdj => ?_, fun i j oi oj t hi hj hdj ht => ?_⟩
  · have := (h1 i o ho).1.1.1
    rw [e] at this; cases this
  · have := (h1 i o ho).1.1.2
    rw [hd] at this; simpa using this
  · have := (h1 i o ho).1.2 e he
    rw [hb] at this; simpa using this
  · have := (h1 i oi hi).2 j (Array.getElem?_eq_some_iff.1 hj).1
    rw [hj] at this
    simp only [hdj, hdi, Bool.and_eq_true, bne_self_eq_false, Bool.or_false, beq_iff_eq] at this
    exact this.1.symm
  · have := (h1 i oi hi).2 j (Array.getElem?_eq_some_iff.1 hj).1
    rw [hj] at this
    simp only [hdj, Bool.and_eq_true] at this
    have h2 := this.2
    rw [Bool.or_eq_true] at h2
    rcases h2 with h2 | h2
    · simp [ht] at h2
    · obtain ⟨e, he, hb⟩ := Array.any_eq_true'.1 h2
      simp only [Bool.and_eq_true, beq_iff_eq] at hb
      exact ⟨e, he, hb.1, hb.2⟩

/-- The slots, where X has been done, with the values V. -/
structure Fill (ops : Array Oper) (V : Nat → Value) (X : Array Bool) (a0 a : Act) : Prop where
  defers : a.defers = a0.defers
  size : a.tmps.size = a0.tmps.size
  done : ∀ (i : Nat) (o : Oper) (d : Tmp), ops[i]? = some o → o.dst = some d → X.getD i false = true → a.tmps[d]? = some (V i)
  rest : ∀ t : Tmp, (∀ (i : Nat) (o : Oper), ops[i]? = some o → o.dst = some t → X.getD i false = false) → a.tmps[t]? = a0.tmps[t]?

section
variable {ops : Array Oper} {V V' : Nat → Value} {X Y : Array Bool} {a0 a a' : Act} {n i : Nat} {o : Oper}

theorem Fill.start (h : ∀ i, X.getD i false = false) : Fill ops V X a0 a0 := ⟨rfl, rfl, fun i o d _ _ hx => (by rw [h i] at hx; cases hx), fun t _ => rfl⟩
theorem getD_set_self {X : Array Bool} {i : Nat} (h : i < X.size) : (X.setIfInBounds i true).getD i false = true := by
  simp [h]
theorem Fill.put (N : Neat ops a0.tmps.size) (h : Fill ops V X a0 a) (hi : ops[i]? = some o) (hX : i < X.size) : Fill ops V (X.setIfInBounds i true) a0 (a.put o.dst (V i)) := by
  cases hd : o.dst with
  | none =>
    refine ⟨h.defers, h.size, fun j oj d hj hdj hx => ?_, fun t ht => h.rest t fun j oj hj hdj => ?_⟩
    · by_cases e : i = j
      · subst e; rw [hi] at hj; cases hj; rw [hd] at hdj; cases hdj
      · rw [getD_set_ne false e] at hx; exact h.done j oj d hj hdj hx
    · by_cases e : i = j
      · subst e; rw [hi] at hj; cases hj; rw [hd] at hdj; cases hdj
      · have := ht j oj hj hdj
        rw [getD_set_ne false e] at this; exact this
  | some d =>
    have hlt : d < a.tmps.size := by rw [h.size]; exact N.fits i o d hi hd
    refine ⟨h.defers, by simp [Act.put, h.size], fun j oj d' hj hdj hx => ?_, fun t ht => ?_⟩
    · by_cases e : i = j
      · subst e; rw [hi] at hj; cases hj
        rw [hd] at hdj; cases hdj
        simp [Act.put, hlt]
      · rw [getD_set_ne false e] at hx
        have hne : d ≠ d' := fun e' => e (N.own i j o oj d hi hj hd (e' ▸ hdj))
        simp only [Act.put, Array.getElem?_setIfInBounds_ne hne]
        exact h.done j oj d' hj hdj hx
    · have hne : d ≠ t := fun e => by
        have := ht i o hi (e ▸ hd)
        rw [getD_set_self hX] at this; cases this
      simp only [Act.put, Array.getElem?_setIfInBounds_ne hne]
      refine h.rest t fun j oj hj hdj => ?_
      by_cases e : i = j
      · subst e; rw [hi] at hj; cases hj; rw [hd] at hdj; exact absurd (Option.some.inj hdj) hne
      · have := ht j oj hj hdj
        rw [getD_set_ne false e] at this; exact this
/-- With other values of what has not been done. -/
theorem Fill.other (h : Fill ops V X a0 a) (hV : ∀ j, X.getD j false = true → V' j = V j) : Fill ops V' X a0 a :=
  ⟨h.defers, h.size, fun j oj d hj hd hx => by rw [hV j hx]; exact h.done j oj d hj hd hx, h.rest⟩

/-- What an operation looks at once all that it waits for has been done, is what it will be in the end. -/
theorem Fill.looks (N : Neat ops a0.tmps.size) (h : Fill ops V X a0 a) (h' : Fill ops V Y a0 a') (hY : ∀ j, j < ops.size → Y.getD j false = true) (hi : ops[i]? = some o) (hr : ∀ e ∈ o.after, Region.binds .any e = true → X.getD e.on false = true) {t : Tmp} (ht : t ∈ o.looksAt ops) : a.tmps[t]? = a'.tmps[t]? := by
  by_cases hex : ∃ (j : Nat) (oj : Oper), ops[j]? = some oj ∧ oj.dst = some t
  · obtain ⟨j, oj, hj, hdj⟩ := hex
    obtain ⟨e, he, hb, rfl⟩ := N.wired i j o oj t hi hj hdj ht
    rw [h.done e.on oj t hj hdj (hr e he hb), h'.done e.on oj t hj hdj (hY _ (Array.getElem?_eq_some_iff.1 hj).1)]
  · rw [h.rest t fun j oj hj hdj => absurd ⟨j, oj, hj, hdj⟩ hex, h'.rest t fun j oj hj hdj => absurd ⟨j, oj, hj, hdj⟩ hex]
theorem Fill.exec (N : Neat ops a0.tmps.size) (h : Fill ops V X a0 a) (h' : Fill ops V Y a0 a') (hY : ∀ j, j < ops.size → Y.getD j false = true) (hi : ops[i]? = some o) (hr : ∀ e ∈ o.after, Region.binds .any e = true → X.getD e.on false = true) :
    execOp a.eval o = execOp a'.eval o ∧ Region.wanted o (yielded ops a.tmps) = Region.wanted o (yielded ops a'.tmps) := by
  refine ⟨execOp_congr o (N.sel i o hi) fun x hx => ?_, ?_⟩
  · cases x with
    | tmp t =>
      have := h.looks N h' hY hi hr (t := t) (List.mem_append_left _ (List.mem_filterMap.2 ⟨.tmp t, by simpa using hx, rfl⟩))
      simp only [Act.eval, Array.getD_eq_getD_getElem?, this]
    | _ => rfl
  · unfold Region.wanted
    cases hg : o.guard with
    | none => rfl
    | some gw =>
      obtain ⟨g, want⟩ := gw
      have hy : yielded ops a.tmps g = yielded ops a'.tmps g := by
        unfold yielded
        cases hb : (ops[g]?).bind (·.dst) with
        | none => rfl
        | some t =>
          have := h.looks N h' hY hi hr (t := t) (by simp [Oper.looksAt, hg, hb])
          simp only [Option.bind_some, this]
      simp only [hy]
/-- All has been done: the slots are those. -/
theorem Fill.full (h : Fill ops V X a0 a) (hX : ∀ j, j < ops.size → X.getD j false = true) (h' : Fill ops V Y a0 a') (hY : ∀ j, j < ops.size → Y.getD j false = true) : a = a' := by
  have ht : a.tmps = a'.tmps := by
    apply Array.ext_getElem?
    intro t
    by_cases hex : ∃ (j : Nat) (oj : Oper), ops[j]? = some oj ∧ oj.dst = some t
    · obtain ⟨j, oj, hj, hdj⟩ := hex
      have hlt := (Array.getElem?_eq_some_iff.1 hj).1
      rw [h.done j oj t hj hdj (hX _ hlt), h'.done j oj t hj hdj (hY _ hlt)]
    · rw [h.rest t fun j oj hj hdj => absurd ⟨j, oj, hj, hdj⟩ hex, h'.rest t fun j oj hj hdj => absurd ⟨j, oj, hj, hdj⟩ hex]
  obtain ⟨t1, d1⟩ := a
  obtain ⟨t2, d2⟩ := a'
  simp only at ht
  subst ht
  have := h.defers.trans h'.defers.symm
  simp only at this
  subst this
  rfl
end

/-! The order -/
theorem count_false {X : Array Bool} {i : Nat} (h : X.getD i true = false) : (X.setIfInBounds i true).toList.count false + 1 = X.toList.count false := by
  have hi : i < X.size := by
    rcases Nat.lt_or_ge i X.size with z | z
    · exact z
    · simp [Array.getElem?_eq_none z] at h
  have hx : X.toList[i]'(by simpa using hi) = false := by simpa [hi] using h
  have hpos : 0 < X.toList.count false := List.count_pos_iff.2 (hx ▸ List.getElem_mem _)
  rw [Array.toList_setIfInBounds, List.count_set (by simpa using hi), hx]
  have e1 : (if (false == false) = true then 1 else 0 : Nat) = 1 := rfl
  have e2 : (if (true == false) = true then 1 else 0 : Nat) = 0 := rfl
  rw [e1, e2]
  omega

/-- A REGION, WHATEVER ITS ORDER: 'Inv X c a': X has been done, 'c' is how all stands, 'a' the slots. -/
theorem ordRun {C : Type} {Goal : C → Frame → Prop} {ops : Array Oper} {n : Nat} (N : Neat ops n) {b : Frame} {k : List Item} {Inv : Array Bool → C → Act → Prop}
    (hstep : ∀ X i o, X.size = ops.size → ops[i]? = some o → X.getD i true = false → (∀ e ∈ o.after, Region.binds .any e = true → X.getD e.on false = true) → ∀ c a L, Inv X c a → ((∀ j, j < ops.size → (X.setIfInBounds i true).getD j false = true) → L = []) →
      (∀ c' a', Inv (X.setIfInBounds i true) c' a' → Goal c' (b.at a' (.inRegion ops L :: k))) → Goal c (b.at a (.inRegion ops (i :: L) :: k)))
    (hend : ∀ X c a, X.size = ops.size → (∀ j, j < ops.size → X.getD j false = true) → Inv X c a → Goal c (b.at a (.inRegion ops [] :: k))) :
    ∀ (fuel : Nat) (X : Array Bool) (t : Nat) (c : C) (a : Act), X.size = ops.size → X.toList.count false ≤ fuel → Inv X c a → Goal c (b.at a (.inRegion ops (Region.linearise.go .any ops fuel t X []) :: k)) := by
  have hall : ∀ X : Array Bool, X.size = ops.size → Region.ready .any ops X = [] → ∀ j, j < ops.size → X.getD j false = true := by
    intro X hX hr j
    induction j using Nat.strongRecOn with
    | _ j ih =>
      intro hj
      cases hx : X.getD j false with
      | true => rfl
      | false =>
        have hj' : j < X.size := by omega
        have : j ∈ Region.ready .any ops X := by
          refine mem_ready.2 ⟨by simpa [hj'] using hx, _, Array.getElem?_eq_getElem hj, fun e he hb => ?_⟩
          have hlt := N.topo j _ (Array.getElem?_eq_getElem hj) e he hb
          exact ih e.on hlt (by omega)
        rw [hr] at this; cases this
  intro fuel
  induction fuel with
  | zero =>
    intro X t c a hX hc hI
    refine hend X c a hX (hall X hX ?_) hI
    cases hr : Region.ready .any ops X with
    | nil => rfl
    | cons i r =>
      have := (mem_ready.1 (by rw [hr]; simp : i ∈ Region.ready .any ops X)).1
      have := count_false this
      omega
  | succ fuel ih =>
    intro X t c a hX hc hI
    simp only [Region.linearise.go]
    change Goal c (b.at a (.inRegion ops (match (Region.ready .any ops X)[t % (Region.ready .any ops X).length]? with
      | some i => Region.linearise.go .any ops fuel (t / (Region.ready .any ops X).length) (X.setIfInBounds i true) [i]
      | none => [].reverse) :: k))
    cases hi : (Region.ready .any ops X)[t % (Region.ready .any ops X).length]? with
    | none =>
      have hnil : Region.ready .any ops X = [] := by
        cases hr : Region.ready .any ops X with
        | nil => rfl
        | cons x xs =>
          rw [hr] at hi
          have hlt : t % (x :: xs).length < (x :: xs).length := Nat.mod_lt _ (by simp)
          simp at hi
          simp at hlt
          omega
      exact hend X c a hX (hall X hX hnil) hI
    | some i =>
      obtain ⟨h0, o, ho, hr⟩ := mem_ready.1 (List.mem_of_getElem? hi)
      simp only []
      rw [linearise_go_acc, List.reverse_singleton, List.singleton_append]
      refine hstep X i o hX ho h0 hr c a _ hI (fun hfull => ?_) fun c' a' hI' => ?_
      · have hnone : Region.ready .any ops (X.setIfInBounds i true) = [] := by
          cases hz : Region.ready .any ops (X.setIfInBounds i true) with
          | nil => rfl
          | cons j l =>
            obtain ⟨q1, oj, q2, _⟩ := mem_ready.1 (by rw [hz]; simp : j ∈ Region.ready .any ops (X.setIfInBounds i true))
            have hlt := (Array.getElem?_eq_some_iff.1 q2).1
            have q3 := hfull j hlt
            have hlt' : j < (X.setIfInBounds i true).size := by simp; omega
            simp only [Array.getD_eq_getD_getElem?, Array.getElem?_eq_getElem hlt', Option.getD_some] at q1 q3
            rw [q1] at q3; cases q3
        cases fuel with
        | zero => rfl
        | succ m =>
          simp only [Region.linearise.go]
          change (match (Region.ready .any ops (X.setIfInBounds i true))[_ % (Region.ready .any ops (X.setIfInBounds i true)).length]? with
            | some i' => Region.linearise.go .any ops m _ ((X.setIfInBounds i true).setIfInBounds i' true) [i']
            | none => [].reverse) = []
          rw [hnone]
          rfl
      refine ih _ _ c' a' (by simpa using hX) ?_ hI'
      have := count_false h0
      omega

section
variable {P : Program} {Post : Value → World → Prop} {pl : Nat → Option Place} {n h : Nat} {cs : List Frame} {w : World}
/-- A region that draws, in company. -/
theorem Win.anyOrder {C : Type} {Goal : C → Frame → Prop} {ops : Array Oper} {id : Nat} (hm : P.follows .mixedOrders = true) {b : Frame} {a : Act} {k : List Item} (N : Neat ops a.tmps.size) {Inv : Array Bool → C → Act → Prop} {c : C}
    (hG : ∀ fr, Goal c fr → Win P Post pl n h (gor fr cs) w)
    (hstep : ∀ X i o, X.size = ops.size → ops[i]? = some o → X.getD i true = false → (∀ e ∈ o.after, Region.binds .any e = true → X.getD e.on false = true) → ∀ c a L, Inv X c a → ((∀ j, j < ops.size → (X.setIfInBounds i true).getD j false = true) → L = []) →
      (∀ c' a', Inv (X.setIfInBounds i true) c' a' → Goal c' (b.at a' (.inRegion ops L :: k))) → Goal c (b.at a (.inRegion ops (i :: L) :: k)))
    (hend : ∀ X c a, X.size = ops.size → (∀ j, j < ops.size → X.getD j false = true) → Inv X c a → Goal c (b.at a (.inRegion ops [] :: k)))
    (hI : Inv (Array.replicate ops.size false) c a) : Win P Post pl n h (gor (b.at a (.code (.region id ops true) :: k)) cs) w := by
  refine Win.regionDraws fun t => hG _ ?_
  simp only [Region.schedule, hm, Bool.true_or, if_true, Region.linearise]
  exact ordRun N hstep hend _ _ t c a (by simp) (by simp) hI

/-- The slots once all has been done. -/
def fillAll (ops : Array Oper) (V : Nat → Value) (a0 : Act) : Act := (List.range ops.size).foldl (fun a i => a.put ((ops[i]?).bind (·.dst)) (V i)) a0
theorem fill_upTo {ops : Array Oper} {V : Nat → Value} {a0 : Act} (N : Neat ops a0.tmps.size) : ∀ m, m ≤ ops.size → ∃ X : Array Bool, X.size = ops.size ∧ (∀ j, j < m → X.getD j false = true) ∧ (∀ j, m ≤ j → X.getD j false = false) ∧ Fill ops V X a0 ((List.range m).foldl (fun a i => a.put ((ops[i]?).bind (·.dst)) (V i)) a0)
  | 0, _ => ⟨Array.replicate ops.size false, by simp, fun j hj => by omega, fun j _ => by simp [Array.getD_eq_getD_getElem?, Array.getElem?_replicate]; split <;> rfl, Fill.start fun j => by simp [Array.getD_eq_getD_getElem?, Array.getElem?_replicate]; split <;> rfl⟩
  | m + 1, hm => by
    obtain ⟨X, h1, h2, h3, h4⟩ := fill_upTo N m (by omega)
    have ho : ops[m]? = some ops[m] := Array.getElem?_eq_getElem (by omega)
    refine ⟨X.setIfInBounds m true, by simpa using h1, fun j hj => ?_, fun j hj => ?_, ?_⟩
    · by_cases e : m = j
      · subst e; exact getD_set_self (by omega)
      · rw [getD_set_ne false e]; exact h2 j (by omega)
    · rw [getD_set_ne false (by omega)]; exact h3 j (by omega)
    · rw [List.range_succ, List.foldl_append]
      simp only [List.foldl_cons, List.foldl_nil, ho, Option.bind_some]
      exact h4.put N ho (by omega)
theorem fill_all {ops : Array Oper} {V : Nat → Value} {a0 : Act} (N : Neat ops a0.tmps.size) : ∃ X : Array Bool, X.size = ops.size ∧ (∀ j, j < ops.size → X.getD j false = true) ∧ Fill ops V X a0 (fillAll ops V a0) := by
  obtain ⟨X, h1, h2, _, h4⟩ := fill_upTo (V := V) N ops.size (Nat.le_refl _)
  exact ⟨X, h1, h2, h4⟩

variable {ops : Array Oper} {V : Nat → Value} {X : Array Bool} {a0 a : Act} {i : Nat} {o : Oper} {b : Frame} {k : List Item} {L : List Nat}
/-- What an operation finds. -/
theorem Fill.finds (N : Neat ops a0.tmps.size) (h : Fill ops V X a0 a) (hi : ops[i]? = some o) (hr : ∀ e ∈ o.after, Region.binds .any e = true → X.getD e.on false = true) :
    execOp a.eval o = execOp (fillAll ops V a0).eval o ∧ Region.wanted o (yielded ops a.tmps) = Region.wanted o (yielded ops (fillAll ops V a0).tmps) := by
  obtain ⟨Y, _, hY, hA⟩ := fill_all (V := V) N
  exact h.exec N hA hY hi hr
theorem Fill.ends (N : Neat ops a0.tmps.size) (h : Fill ops V X a0 a) (hX : ∀ j, j < ops.size → X.getD j false = true) : a = fillAll ops V a0 := by
  obtain ⟨Y, _, hY, hA⟩ := fill_all (V := V) N
  exact h.full hX hA hY
/-- An operation of such a region that only reads. -/
theorem Win.fillOp (N : Neat ops a0.tmps.size) (h' : Fill ops V X a0 a) (hi : ops[i]? = some o) (hr : ∀ e ∈ o.after, Region.binds .any e = true → X.getD e.on false = true) (hX : i < X.size) (hb : b.kind = .normal ∨ b.kind = .deferred)
    (hwt : Region.wanted o (yielded ops (fillAll ops V a0).tmps) = true) (hex : ∀ d, ∃ es, (execOp (fillAll ops V a0).eval o).runT P (w.at d) #[] = (.ok (.value (V i)) (w.at d), es) ∧ Reads es)
    (H : ∀ a', Fill ops V (X.setIfInBounds i true) a0 a' → Win P Post pl n h (gor (b.at a' (.inRegion ops L :: k)) cs) w) : Win P Post pl n h (gor (b.at a (.inRegion ops (i :: L) :: k)) cs) w := by
  obtain ⟨h1, h2⟩ := h'.finds N hi hr
  exact Win.op hb hi (h2.trans hwt) (fun d => by rw [h1]; exact hex d) (H _ (h'.put N hi hX))

/-- A region that draws, in company, its slots being known: 'V c i' is what the operation i answers where all stands as c; 'J X c': how all stands once X has been done. -/
theorem Win.anyFill {C : Type} {Goal : C → Frame → Prop} {id : Nat} (hm : P.follows .mixedOrders = true) (hneat : neat ops a.tmps.size = true) (V : C → Nat → Value) (A : C → Act) (hA : ∀ c, fillAll ops (V c) a = A c) (J : Array Bool → C → Prop) (c : C)
    (hG : ∀ fr, Goal c fr → Win P Post pl n h (gor fr cs) w)
    (hstep : ∀ X i o, X.size = ops.size → ops[i]? = some o → X.getD i true = false → (∀ e ∈ o.after, Region.binds .any e = true → X.getD e.on false = true) → ∀ c a' L, J X c →
      (∀ j oj, ops[j]? = some oj → X.getD j false = true → ∀ e ∈ oj.after, Region.binds .any e = true → X.getD e.on false = true) → ((∀ j, j < ops.size → (X.setIfInBounds i true).getD j false = true) → L = []) → ((∀ j, j < ops.size → (X.setIfInBounds i true).getD j false = true) → a'.put o.dst (V c i) = A c) → execOp a'.eval o = execOp (A c).eval o → Region.wanted o (yielded ops a'.tmps) = Region.wanted o (yielded ops (A c).tmps) → a'.defers = a.defers →
      (∀ c', (∀ j, X.getD j false = true → V c' j = V c j) → J (X.setIfInBounds i true) c' → Goal c' (b.at (a'.put o.dst (V c' i)) (.inRegion ops L :: k))) → Goal c (b.at a' (.inRegion ops (i :: L) :: k)))
    (hend : ∀ X c, (∀ j, j < ops.size → X.getD j false = true) → J X c → Goal c (b.at (A c) (.inRegion ops [] :: k)))
    (hJ : J (Array.replicate ops.size false) c) : Win P Post pl n h (gor (b.at a (.code (.region id ops true) :: k)) cs) w := by
  have N := neat_of hneat
  refine Win.anyOrder (C := C) (Goal := Goal) (c := c) hm N (Inv := fun X c' a' => Fill ops (V c') X a a' ∧ J X c' ∧ ∀ j oj, ops[j]? = some oj → X.getD j false = true → ∀ e ∈ oj.after, Region.binds .any e = true → X.getD e.on false = true) hG ?_ ?_ ⟨Fill.start fun i => by simp [Array.getD_eq_getD_getElem?, Array.getElem?_replicate]; split <;> rfl, hJ, fun j oj hj hx => by simp [Array.getD_eq_getD_getElem?, Array.getElem?_replicate] at hx; split at hx <;> cases hx⟩
  · intro X i o hX ho hx hr c a' L hI hL hn
    obtain ⟨e1, e2⟩ := hI.1.finds N ho hr
    rw [hA c] at e1 e2
    have hlt := (Array.getElem?_eq_some_iff.1 ho).1
    refine hstep X i o hX ho hx hr c a' L hI.2.1 hI.2.2 hL (fun hf => by rw [(hI.1.put N ho (by omega)).ends N hf, hA c]) e1 e2 hI.1.defers fun c' hV hJ' => hn c' _ ⟨?_, hJ', fun j oj hj hxj e he hb => ?_⟩
    · exact (hI.1.other hV).put N ho (by omega)
    · have mono : ∀ q, X.getD q false = true → (X.setIfInBounds i true).getD q false = true := fun q hq => by
        by_cases e' : i = q
        · subst e'; exact getD_set_self (by omega)
        · rw [getD_set_ne false e']; exact hq
      by_cases e' : i = j
      · subst e'
        rw [ho] at hj; cases hj
        exact mono _ (hr e he hb)
      · rw [getD_set_ne false e'] at hxj
        exact mono _ (hI.2.2 j oj hj hxj e he hb)
  · intro X c a' hX hall hI
    rw [hI.1.ends N hall, hA c]
    exact hend X c hall hI.2.1
end
end Go.Proofs.Ytodcnhodbeakiaa
