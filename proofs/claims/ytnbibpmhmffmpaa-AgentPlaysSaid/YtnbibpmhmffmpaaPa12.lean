/- In company: a region that draws its order, walked once: whatever the order, each operation finds what it looks at. Of whatever program. Conditions: none. Package agent, the side of who steps: the agent's next touch is done. Written by gen/ag_v.py. Agents by trees, on: the desk of who steps; how agents stand is carried over what others do. Conditions: none. Package agent, the side of who steps: Step, to the turn and from the wait. Written by gen/ag_x.py. Conditions: as each theorem states them. -/
import Derived.Orders
import Derived.Test.YtnbibpmhmffmpaaPa08
import Derived.Test.YtnbibpmhmffmpaaPa11
namespace Go.Proofs.Ytnbibpmhmffmpaa
set_option linter.unusedVariables false
set_option linter.unusedSimpArgs false
open Go.Conc

/-- Each operation writes a slot of its own, and waits for those whose slots it looks at. -/
def neat (ops : Array Oper) (n : Nat) : Bool :=
  (List.range ops.size).all fun i => match ops[i]? with
    | none => true
    | some o => (match o.op with | .select .. => false | _ => true) && (match o.dst with | some d => decide (d < n) | none => true) && (o.after.all fun e => !Region.binds .any e || decide (e.on < i)) &&
      ((List.range ops.size).all fun j => match ops[j]? with
        | none => true
        | some oj => match oj.dst with
          | none => true
          | some t => (j == i || o.dst != some t) && (!(o.looksAt ops).contains t || o.after.any (fun e => Region.binds .any e && e.on == j)))

structure Neat (ops : Array Oper) (n : Nat) : Prop where
  sel : ∀ (i : Nat) (o : Oper), ops[i]? = some o → ∀ cs b, o.op ≠ .select cs b
  fits : ∀ (i : Nat) (o : Oper) (d : Tmp), ops[i]? = some o → o.dst = some d → d < n
  topo : ∀ (i : Nat) (o : Oper), ops[i]? = some o → ∀ e ∈ o.after, Region.binds .any e = true → e.on < i
  own : ∀ (i j : Nat) (oi oj : Oper) (d : Tmp), ops[i]? = some oi → ops[j]? = some oj → oi.dst = some d → oj.dst = some d → i = j
  wired : ∀ (i j : Nat) (oi oj : Oper) (t : Tmp), ops[i]? = some oi → ops[j]? = some oj → oj.dst = some t → t ∈ oi.looksAt ops → ∃ e ∈ oi.after, Region.binds .any e = true ∧ e.on = j

theorem neat_of {ops : Array Oper} {n : Nat} (h : neat ops n = true) : Neat ops n := by
  unfold neat at h
  rw [List.all_eq_true] at h
  have h1 : ∀ (i : Nat) (o : Oper), ops[i]? = some o → (((match o.op with | .select .. => false | _ => true) = true ∧ (match o.dst with | some d => decide (d < n) | none => true) = true) ∧ ∀ e ∈ o.after, (!Region.binds .any e || decide (e.on < i)) = true) ∧
      ∀ j, j < ops.size → (match ops[j]? with
        | none => true
        | some oj => match oj.dst with
          | none => true
          | some t => (j == i || o.dst != some t) && (!(o.looksAt ops).contains t || o.after.any (fun e => Region.binds .any e && e.on == j))) = true := fun i o ho => by
    have := h i (List.mem_range.2 (Array.getElem?_eq_some_iff.1 ho).1)
    rw [ho] at this
    simp only [Bool.and_eq_true, Array.all_eq_true_iff_forall_mem, List.all_eq_true, List.mem_range] at this
    exact this
  refine ⟨fun i o ho cs b e => ?_, fun i o d ho hd => ?_, fun i o ho e he hb => ?_, fun i j oi oj d hi hj hdi hdj => ?_, fun i j oi oj t hi hj hdj ht => ?_⟩
  · have := (h1 i o ho).1.1.1
    rw [e] at this; cases this
  · have := (h1 i o ho).1.1.2
    rw [hd] at this; simpa using this
  · have := (h1 i o ho).1.2 e he
    rw [hb] at this; simpa using this
  · have := (h1 i oi hi).2 j (Array.getElem?_eq_some_iff.1 hj).1
    rw [hj] at this
    simp only [hdj, hdi, Bool.and_eq_true, bne_self_eq_false, Bool.or_false, beq_iff_eq] at this
    exact this.1.symm
  · have := (h1 i oi hi).2 j (Array.getElem?_eq_some_iff.1 hj).1
    rw [hj] at this
    simp only [hdj, Bool.and_eq_true] at this
    have h2 := this.2
    rw [Bool.or_eq_true] at h2
    rcases h2 with h2 | h2
    · simp [ht] at h2
    · obtain ⟨e, he, hb⟩ := Array.any_eq_true'.1 h2
      simp only [Bool.and_eq_true, beq_iff_eq] at hb
      exact ⟨e, he, hb.1, hb.2⟩

/-- The slots, where X has been done, with the values V. -/
structure Fill (ops : Array Oper) (V : Nat → Value) (X : Array Bool) (a0 a : Act) : Prop where
  defers : a.defers = a0.defers
  size : a.tmps.size = a0.tmps.size
  done : ∀ (i : Nat) (o : Oper) (d : Tmp), ops[i]? = some o → o.dst = some d → X.getD i false = true → a.tmps[d]? = some (V i)
  rest : ∀ t : Tmp, (∀ (i : Nat) (o : Oper), ops[i]? = some o → o.dst = some t → X.getD i false = false) → a.tmps[t]? = a0.tmps[t]?

section
variable {ops : Array Oper} {V V' : Nat → Value} {X Y : Array Bool} {a0 a a' : Act} {n i : Nat} {o : Oper}

theorem Fill.start (h : ∀ i, X.getD i false = false) : Fill ops V X a0 a0 := ⟨rfl, rfl, fun i o d _ _ hx => (by rw [h i] at hx; cases hx), fun t _ => rfl⟩
theorem getD_set_self {X : Array Bool} {i : Nat} (h : i < X.size) : (X.setIfInBounds i true).getD i false = true := by
  simp [h]
theorem Fill.put (N : Neat ops a0.tmps.size) (h : Fill ops V X a0 a) (hi : ops[i]? = some o) (hX : i < X.size) : Fill ops V (X.setIfInBounds i true) a0 (a.put o.dst (V i)) := by
  cases hd : o.dst with
  | none =>
    refine ⟨h.defers, h.size, fun j oj d hj hdj hx => ?_, fun t ht => h.rest t fun j oj hj hdj => ?_⟩
    · by_cases e : i = j
      · subst e; rw [hi] at hj; cases hj; rw [hd] at hdj; cases hdj
      · rw [getD_set_ne false e] at hx; exact h.done j oj d hj hdj hx
    · by_cases e : i = j
      · subst e; rw [hi] at hj; cases hj; rw [hd] at hdj; cases hdj
      · have := ht j oj hj hdj
        rw [getD_set_ne false e] at this; exact this
  | some d =>
    have hlt : d < a.tmps.size := by rw [h.size]; exact N.fits i o d hi hd
    refine ⟨h.defers, by simp [Act.put, h.size], fun j oj d' hj hdj hx => ?_, fun t ht => ?_⟩
    · by_cases e : i = j
      · subst e; rw [hi] at hj; cases hj
        rw [hd] at hdj; cases hdj
        simp [Act.put, hlt]
      · rw [getD_set_ne false e] at hx
        have hne : d ≠ d' := fun e' => e (N.own i j o oj d hi hj hd (e' ▸ hdj))
        simp only [Act.put, Array.getElem?_setIfInBounds_ne hne]
        exact h.done j oj d' hj hdj hx
    · have hne : d ≠ t := fun e => by
        have := ht i o hi (e ▸ hd)
        rw [getD_set_self hX] at this; cases this
      simp only [Act.put, Array.getElem?_setIfInBounds_ne hne]
      refine h.rest t fun j oj hj hdj => ?_
      by_cases e : i = j
      · subst e; rw [hi] at hj; cases hj; rw [hd] at hdj; exact absurd (Option.some.inj hdj) hne
      · have := ht j oj hj hdj
        rw [getD_set_ne false e] at this; exact this
/-- With other values of what has not been done. -/
theorem Fill.other (h : Fill ops V X a0 a) (hV : ∀ j, X.getD j false = true → V' j = V j) : Fill ops V' X a0 a :=
  ⟨h.defers, h.size, fun j oj d hj hd hx => by rw [hV j hx]; exact h.done j oj d hj hd hx, h.rest⟩

/-- What an operation looks at once all that it waits for has been done, is what it will be in the end. -/
theorem Fill.looks (N : Neat ops a0.tmps.size) (h : Fill ops V X a0 a) (h' : Fill ops V Y a0 a') (hY : ∀ j, j < ops.size → Y.getD j false = true) (hi : ops[i]? = some o) (hr : ∀ e ∈ o.after, Region.binds .any e = true → X.getD e.on false = true) {t : Tmp} (ht : t ∈ o.looksAt ops) : a.tmps[t]? = a'.tmps[t]? := by
  by_cases hex : ∃ (j : Nat) (oj : Oper), ops[j]? = some oj ∧ oj.dst = some t
  · obtain ⟨j, oj, hj, hdj⟩ := hex
    obtain ⟨e, he, hb, rfl⟩ := N.wired i j o oj t hi hj hdj ht
    rw [h.done e.on oj t hj hdj (hr e he hb), h'.done e.on oj t hj hdj (hY _ (Array.getElem?_eq_some_iff.1 hj).1)]
  · rw [h.rest t fun j oj hj hdj => absurd ⟨j, oj, hj, hdj⟩ hex, h'.rest t fun j oj hj hdj => absurd ⟨j, oj, hj, hdj⟩ hex]
theorem Fill.exec (N : Neat ops a0.tmps.size) (h : Fill ops V X a0 a) (h' : Fill ops V Y a0 a') (hY : ∀ j, j < ops.size → Y.getD j false = true) (hi : ops[i]? = some o) (hr : ∀ e ∈ o.after, Region.binds .any e = true → X.getD e.on false = true) :
    execOp a.eval o = execOp a'.eval o ∧ Region.wanted o (yielded ops a.tmps) = Region.wanted o (yielded ops a'.tmps) := by
  refine ⟨execOp_congr o (N.sel i o hi) fun x hx => ?_, ?_⟩
  · cases x with
    | tmp t =>
      have := h.looks N h' hY hi hr (t := t) (List.mem_append_left _ (List.mem_filterMap.2 ⟨.tmp t, by simpa using hx, rfl⟩))
      simp only [Act.eval, Array.getD_eq_getD_getElem?, this]
    | _ => rfl
  · unfold Region.wanted
    cases hg : o.guard with
    | none => rfl
    | some gw =>
      obtain ⟨g, want⟩ := gw
      have hy : yielded ops a.tmps g = yielded ops a'.tmps g := by
        unfold yielded
        cases hb : (ops[g]?).bind (·.dst) with
        | none => rfl
        | some t =>
          have := h.looks N h' hY hi hr (t := t) (by simp [Oper.looksAt, hg, hb])
          simp only [Option.bind_some, this]
      simp only [hy]
/-- All has been done: the slots are those. -/
theorem Fill.full (h : Fill ops V X a0 a) (hX : ∀ j, j < ops.size → X.getD j false = true) (h' : Fill ops V Y a0 a') (hY : ∀ j, j < ops.size → Y.getD j false = true) : a = a' := by
  have ht : a.tmps = a'.tmps := by
    apply Array.ext_getElem?
    intro t
    by_cases hex : ∃ (j : Nat) (oj : Oper), ops[j]? = some oj ∧ oj.dst = some t
    · obtain ⟨j, oj, hj, hdj⟩ := hex
      have hlt := (Array.getElem?_eq_some_iff.1 hj).1
      rw [h.done j oj t hj hdj (hX _ hlt), h'.done j oj t hj hdj (hY _ hlt)]
    · rw [h.rest t fun j oj hj hdj => absurd ⟨j, oj, hj, hdj⟩ hex, h'.rest t fun j oj hj hdj => absurd ⟨j, oj, hj, hdj⟩ hex]
  obtain ⟨t1, d1⟩ := a
  obtain ⟨t2, d2⟩ := a'
  simp only at ht
  subst ht
  have := h.defers.trans h'.defers.symm
  simp only at this
  subst this
  rfl
end

/-! The order -/
theorem count_false {X : Array Bool} {i : Nat} (h : X.getD i true = false) : (X.setIfInBounds i true).toList.count false + 1 = X.toList.count false := by
  have hi : i < X.size := by
    rcases Nat.lt_or_ge i X.size with z | z
    · exact z
    · simp [Array.getElem?_eq_none z] at h
  have hx : X.toList[i]'(by simpa using hi) = false := by simpa [hi] using h
  have hpos : 0 < X.toList.count false := List.count_pos_iff.2 (hx ▸ List.getElem_mem _)
  rw [Array.toList_setIfInBounds, List.count_set (by simpa using hi), hx]
  have e1 : (if (false == false) = true then 1 else 0 : Nat) = 1 := rfl
  have e2 : (if (true == false) = true then 1 else 0 : Nat) = 0 := rfl
  rw [e1, e2]
  omega

/-- A REGION, WHATEVER ITS ORDER: 'Inv X c a': X has been done, 'c' is how all stands, 'a' the slots. -/
theorem ordRun {C : Type} {Goal : C → Frame → Prop} {ops : Array Oper} {n : Nat} (N : Neat ops n) {b : Frame} {k : List Item} {Inv : Array Bool → C → Act → Prop}
    (hstep : ∀ X i o, X.size = ops.size → ops[i]? = some o → X.getD i true = false → (∀ e ∈ o.after, Region.binds .any e = true → X.getD e.on false = true) → ∀ c a L, Inv X c a → ((∀ j, j < ops.size → (X.setIfInBounds i true).getD j false = true) → L = []) →
      (∀ c' a', Inv (X.setIfInBounds i true) c' a' → Goal c' (b.at a' (.inRegion ops L :: k))) → Goal c (b.at a (.inRegion ops (i :: L) :: k)))
    (hend : ∀ X c a, X.size = ops.size → (∀ j, j < ops.size → X.getD j false = true) → Inv X c a → Goal c (b.at a (.inRegion ops [] :: k))) :
    ∀ (fuel : Nat) (X : Array Bool) (t : Nat) (c : C) (a : Act), X.size = ops.size → X.toList.count false ≤ fuel → Inv X c a → Goal c (b.at a (.inRegion ops (Region.linearise.go .any ops fuel t X []) :: k)) := by
  have hall : ∀ X : Array Bool, X.size = ops.size → Region.ready .any ops X = [] → ∀ j, j < ops.size → X.getD j false = true := by
    intro X hX hr j
    induction j using Nat.strongRecOn with
    | _ j ih =>
      intro hj
      cases hx : X.getD j false with
      | true => rfl
      | false =>
        have hj' : j < X.size := by omega
        have : j ∈ Region.ready .any ops X := by
          refine mem_ready.2 ⟨by simpa [hj'] using hx, _, Array.getElem?_eq_getElem hj, fun e he hb => ?_⟩
          have hlt := N.topo j _ (Array.getElem?_eq_getElem hj) e he hb
          exact ih e.on hlt (by omega)
        rw [hr] at this; cases this
  intro fuel
  induction fuel with
  | zero =>
    intro X t c a hX hc hI
    refine hend X c a hX (hall X hX ?_) hI
    cases hr : Region.ready .any ops X with
    | nil => rfl
    | cons i r =>
      have := (mem_ready.1 (by rw [hr]; simp : i ∈ Region.ready .any ops X)).1
      have := count_false this
      omega
  | succ fuel ih =>
    intro X t c a hX hc hI
    simp only [Region.linearise.go]
    change Goal c (b.at a (.inRegion ops (match (Region.ready .any ops X)[t % (Region.ready .any ops X).length]? with
      | some i => Region.linearise.go .any ops fuel (t / (Region.ready .any ops X).length) (X.setIfInBounds i true) [i]
      | none => [].reverse) :: k))
    cases hi : (Region.ready .any ops X)[t % (Region.ready .any ops X).length]? with
    | none =>
      have hnil : Region.ready .any ops X = [] := by
        cases hr : Region.ready .any ops X with
        | nil => rfl
        | cons x xs =>
          rw [hr] at hi
          have hlt : t % (x :: xs).length < (x :: xs).length := Nat.mod_lt _ (by simp)
          simp at hi
          simp at hlt
          omega
      exact hend X c a hX (hall X hX hnil) hI
    | some i =>
      obtain ⟨h0, o, ho, hr⟩ := mem_ready.1 (List.mem_of_getElem? hi)
      simp only []
      rw [linearise_go_acc, List.reverse_singleton, List.singleton_append]
      refine hstep X i o hX ho h0 hr c a _ hI (fun hfull => ?_) fun c' a' hI' => ?_
      · have hnone : Region.ready .any ops (X.setIfInBounds i true) = [] := by
          cases hz : Region.ready .any ops (X.setIfInBounds i true) with
          | nil => rfl
          | cons j l =>
            obtain ⟨q1, oj, q2, _⟩ := mem_ready.1 (by rw [hz]; simp : j ∈ Region.ready .any ops (X.setIfInBounds i true))
            have hlt := (Array.getElem?_eq_some_iff.1 q2).1
            have q3 := hfull j hlt
            have hlt' : j < (X.setIfInBounds i true).size := by simp; omega
            simp only [Array.getD_eq_getD_getElem?, Array.getElem?_eq_getElem hlt', Option.getD_some] at q1 q3
            rw [q1] at q3; cases q3
        cases fuel with
        | zero => rfl
        | succ m =>
          simp only [Region.linearise.go]
          change (match (Region.ready .any ops (X.setIfInBounds i true))[_ % (Region.ready .any ops (X.setIfInBounds i true)).length]? with
            | some i' => Region.linearise.go .any ops m _ ((X.setIfInBounds i true).setIfInBounds i' true) [i']
            | none => [].reverse) = []
          rw [hnone]
          rfl
      refine ih _ _ c' a' (by simpa using hX) ?_ hI'
      have := count_false h0
      omega

section
variable {P : Program} {Post : Value → World → Prop} {pl : Nat → Option Place} {n h : Nat} {cs : List Frame} {w : World}
/-- A region that draws, in company. -/
theorem Win.anyOrder {C : Type} {Goal : C → Frame → Prop} {ops : Array Oper} {id : Nat} (hm : P.follows .mixedOrders = true) {b : Frame} {a : Act} {k : List Item} (N : Neat ops a.tmps.size) {Inv : Array Bool → C → Act → Prop} {c : C}
    (hG : ∀ fr, Goal c fr → Win P Post pl n h (gor fr cs) w)
    (hstep : ∀ X i o, X.size = ops.size → ops[i]? = some o → X.getD i true = false → (∀ e ∈ o.after, Region.binds .any e = true → X.getD e.on false = true) → ∀ c a L, Inv X c a → ((∀ j, j < ops.size → (X.setIfInBounds i true).getD j false = true) → L = []) →
      (∀ c' a', Inv (X.setIfInBounds i true) c' a' → Goal c' (b.at a' (.inRegion ops L :: k))) → Goal c (b.at a (.inRegion ops (i :: L) :: k)))
    (hend : ∀ X c a, X.size = ops.size → (∀ j, j < ops.size → X.getD j false = true) → Inv X c a → Goal c (b.at a (.inRegion ops [] :: k)))
    (hI : Inv (Array.replicate ops.size false) c a) : Win P Post pl n h (gor (b.at a (.code (.region id ops true) :: k)) cs) w := by
  refine Win.regionDraws fun t => hG _ ?_
  simp only [Region.schedule, hm, Bool.true_or, if_true, Region.linearise]
  exact ordRun N hstep hend _ _ t c a (by simp) (by simp) hI

/-- The slots once all has been done. -/
def fillAll (ops : Array Oper) (V : Nat → Value) (a0 : Act) : Act := (List.range ops.size).foldl (fun a i => a.put ((ops[i]?).bind (·.dst)) (V i)) a0
theorem fill_upTo {ops : Array Oper} {V : Nat → Value} {a0 : Act} (N : Neat ops a0.tmps.size) : ∀ m, m ≤ ops.size → ∃ X : Array Bool, X.size = ops.size ∧ (∀ j, j < m → X.getD j false = true) ∧ (∀ j, m ≤ j → X.getD j false = false) ∧ Fill ops V X a0 ((List.range m).foldl (fun a i => a.put ((ops[i]?).bind (·.dst)) (V i)) a0)
  | 0, _ => ⟨Array.replicate ops.size false, by simp, fun j hj => by omega, fun j _ => by simp [Array.getD_eq_getD_getElem?, Array.getElem?_replicate]; split <;> rfl, Fill.start fun j => by simp [Array.getD_eq_getD_getElem?, Array.getElem?_replicate]; split <;> rfl⟩
  | m + 1, hm => by
    obtain ⟨X, h1, h2, h3, h4⟩ := fill_upTo N m (by omega)
    have ho : ops[m]? = some ops[m] := Array.getElem?_eq_getElem (by omega)
    refine ⟨X.setIfInBounds m true, by simpa using h1, fun j hj => ?_, fun j hj => ?_, ?_⟩
    · by_cases e : m = j
      · subst e; exact getD_set_self (by omega)
      · rw [getD_set_ne false e]; exact h2 j (by omega)
    · rw [getD_set_ne false (by omega)]; exact h3 j (by omega)
    · rw [List.range_succ, List.foldl_append]
      simp only [List.foldl_cons, List.foldl_nil, ho, Option.bind_some]
      exact h4.put N ho (by omega)
theorem fill_all {ops : Array Oper} {V : Nat → Value} {a0 : Act} (N : Neat ops a0.tmps.size) : ∃ X : Array Bool, X.size = ops.size ∧ (∀ j, j < ops.size → X.getD j false = true) ∧ Fill ops V X a0 (fillAll ops V a0) := by
  obtain ⟨X, h1, h2, _, h4⟩ := fill_upTo (V := V) N ops.size (Nat.le_refl _)
  exact ⟨X, h1, h2, h4⟩

variable {ops : Array Oper} {V : Nat → Value} {X : Array Bool} {a0 a : Act} {i : Nat} {o : Oper} {b : Frame} {k : List Item} {L : List Nat}
/-- What an operation finds. -/
theorem Fill.finds (N : Neat ops a0.tmps.size) (h : Fill ops V X a0 a) (hi : ops[i]? = some o) (hr : ∀ e ∈ o.after, Region.binds .any e = true → X.getD e.on false = true) :
    execOp a.eval o = execOp (fillAll ops V a0).eval o ∧ Region.wanted o (yielded ops a.tmps) = Region.wanted o (yielded ops (fillAll ops V a0).tmps) := by
  obtain ⟨Y, _, hY, hA⟩ := fill_all (V := V) N
  exact h.exec N hA hY hi hr
theorem Fill.ends (N : Neat ops a0.tmps.size) (h : Fill ops V X a0 a) (hX : ∀ j, j < ops.size → X.getD j false = true) : a = fillAll ops V a0 := by
  obtain ⟨Y, _, hY, hA⟩ := fill_all (V := V) N
  exact h.full hX hA hY
/-- A region that draws, in company, its slots being known: 'V c i' is what the operation i answers where all stands as c; 'J X c': how all stands once X has been done. -/
theorem Win.anyFill {C : Type} {Goal : C → Frame → Prop} {id : Nat} (hm : P.follows .mixedOrders = true) (hneat : neat ops a.tmps.size = true) (V : C → Nat → Value) (A : C → Act) (hA : ∀ c, fillAll ops (V c) a = A c) (J : Array Bool → C → Prop) (c : C)
    (hG : ∀ fr, Goal c fr → Win P Post pl n h (gor fr cs) w)
    (hstep : ∀ X i o, X.size = ops.size → ops[i]? = some o → X.getD i true = false → (∀ e ∈ o.after, Region.binds .any e = true → X.getD e.on false = true) → ∀ c a' L, J X c →
      (∀ j oj, ops[j]? = some oj → X.getD j false = true → ∀ e ∈ oj.after, Region.binds .any e = true → X.getD e.on false = true) → ((∀ j, j < ops.size → (X.setIfInBounds i true).getD j false = true) → L = []) → ((∀ j, j < ops.size → (X.setIfInBounds i true).getD j false = true) → a'.put o.dst (V c i) = A c) → execOp a'.eval o = execOp (A c).eval o → Region.wanted o (yielded ops a'.tmps) = Region.wanted o (yielded ops (A c).tmps) → a'.defers = a.defers →
      (∀ c', (∀ j, X.getD j false = true → V c' j = V c j) → J (X.setIfInBounds i true) c' → Goal c' (b.at (a'.put o.dst (V c' i)) (.inRegion ops L :: k))) → Goal c (b.at a' (.inRegion ops (i :: L) :: k)))
    (hend : ∀ X c, (∀ j, j < ops.size → X.getD j false = true) → J X c → Goal c (b.at (A c) (.inRegion ops [] :: k)))
    (hJ : J (Array.replicate ops.size false) c) : Win P Post pl n h (gor (b.at a (.code (.region id ops true) :: k)) cs) w := by
  have N := neat_of hneat
  refine Win.anyOrder (C := C) (Goal := Goal) (c := c) hm N (Inv := fun X c' a' => Fill ops (V c') X a a' ∧ J X c' ∧ ∀ j oj, ops[j]? = some oj → X.getD j false = true → ∀ e ∈ oj.after, Region.binds .any e = true → X.getD e.on false = true) hG ?_ ?_ ⟨Fill.start fun i => by simp [Array.getD_eq_getD_getElem?, Array.getElem?_replicate]; split <;> rfl, hJ, fun j oj hj hx => by simp [Array.getD_eq_getD_getElem?, Array.getElem?_replicate] at hx; split at hx <;> cases hx⟩
  · intro X i o hX ho hx hr c a' L hI hL hn
    obtain ⟨e1, e2⟩ := hI.1.finds N ho hr
    rw [hA c] at e1 e2
    have hlt := (Array.getElem?_eq_some_iff.1 ho).1
    refine hstep X i o hX ho hx hr c a' L hI.2.1 hI.2.2 hL (fun hf => by rw [(hI.1.put N ho (by omega)).ends N hf, hA c]) e1 e2 hI.1.defers fun c' hV hJ' => hn c' _ ⟨?_, hJ', fun j oj hj hxj e he hb => ?_⟩
    · exact (hI.1.other hV).put N ho (by omega)
    · have mono : ∀ q, X.getD q false = true → (X.setIfInBounds i true).getD q false = true := fun q hq => by
        by_cases e' : i = q
        · subst e'; exact getD_set_self (by omega)
        · rw [getD_set_ne false e']; exact hq
      by_cases e' : i = j
      · subst e'
        rw [ho] at hj; cases hj
        exact mono _ (hr e he hb)
      · rw [getD_set_ne false e'] at hxj
        exact mono _ (hI.2.2 j oj hj hxj e he hb)
  · intro X c a' hX hall hI
    rw [hI.1.ends N hall, hA c]
    exact hend X c hall hI.2.1
end
end Go.Proofs.Ytnbibpmhmffmpaa

namespace Go.Proofs.Ytnbibpmhmffmpaa
open List renaming getElem_toArray → gtA, getElem_cons_zero → gtZ, getElem_cons_succ → gtS, setIfInBounds_toArray → siA, set_cons_succ → scS, set_cons_zero → scZ, getElem?_toArray → gqA, getElem?_cons_zero → gqZ, getElem?_cons_succ → gqS
set_option linter.unusedVariables false
set_option linter.unusedSimpArgs false
set_option maxRecDepth 100000
open Go.Conc

theorem stok_at {P : Program} {b : Frame} {a : Act} {k : List Item} (hb : b.kind = .normal) (hr : (b.at a k).roundOf = none) (hd : ∀ d ∈ a.defers, okT d.target) (hk : k.all (itemOK P) = true) : StOK P (b.at a k) [] :=
  ⟨⟨fun i hi => (List.all_eq_true.1 hk) i hi, hd, hr, .inl hb⟩, fun f hf => by simp at hf, hb⟩
theorem mixed : Try.prog.follows .mixedOrders = true := by kernel_rfl
theorem assert_halt (w : World) : (Instr.typeAssert .nilIface 20 141 true).run Try.prog w = .ok (.tuple #[.agg #[], .bool false]) w := by kernel_rfl

section
variable {pl : Nat → Option Place} {n h : Nat} {Post : Value → World → Prop} {w : World} {F : Nat → Option (Nat × Nat)}

set_option maxHeartbeats 1000000 in
theorem touch_goes (L : Lies pl F w) {c : Frame} {cs : List Frame} {p : Nat} {f : FuncId} {cap : Array Value} {mv : Value} {Ψ : World → Prop} (h0 : w.cell? ⟨p, 0, none⟩ = some mv) (h4 : w.cell? ⟨p, 4, none⟩ = some (.func (.func f) #[] cap)) {fn : Func} (hfn : Try.prog.funcs[f]? = some fn) (hfb : fn.body.isNone = false)
    (hΨ : ∀ w', Ψ w' → Lies pl F w' ∧ w'.heap[w.heap.size]? = some (.cells #[.nilIface] 20 (0, 0)) ∧ w'.cell? ⟨p, 0, none⟩ = some mv ∧ w'.cell? ⟨p, 4, none⟩ = some (.func (.func f) #[] cap))
    (hgo : ∀ c₁ : Frame, StOK Try.prog c₁ [] → (∀ w', Ψ w' → Win Try.prog Post pl n h (gor (c₁.finish (.tuple #[])) (c :: cs)) w') → Win Try.prog Post pl n h (gor (Frame.enter Try.prog f (#[mv] ++ cap) .normal) (c₁ :: c :: cs)) (w.alloc (.cells #[.nilIface] 20)))
    (H : ∀ w' w'', Ψ w' → Ks (· = w.heap.size) w' w'' → Lies pl F w'' → Win Try.prog Post pl n h (gor (c.finish .nilIface) cs) w'') :
    Win Try.prog Post pl n h (gor (Frame.enter Try.prog 50 #[.pointer (some ⟨p, 0, none⟩)] .normal) (c :: cs)) w := by
  have hne : (Frame.enter Try.prog 50 #[.pointer (some ⟨p, 0, none⟩)] CallKind.normal).kind = .normal := rfl
  rw [enter_at Try.func50 rfl]
  simp only [Try.ntmps50, List.size_toArray, List.length_cons, List.length_nil, Nat.reduceAdd, Nat.reduceSub, Array.replicate_succ, Array.replicate_zero, List.push_toArray, List.append_toArray, List.nil_append, List.cons_append]
  refine Win.seq ?_
  refine Win.region ?_
  simp only [List.size_toArray, List.length_cons, List.length_nil, Nat.reduceAdd, List.range, List.range.loop]
  refine Win.makeOp (v := .pointer (some ⟨w.heap.size, 0, none⟩)) (ob := .cells #[.nilIface] 20) (es := #[]) L (.inl hne) rfl rfl (fun d => by rw [Sem.runT_eq]; simp [go_sem, execOp, Act.eval]; try rfl) (fun e he => by simp at he) ?_
  simp only [Act.put, Act.eval, gtA, gtZ, gtS, siA, scS, scZ]
  refine Win.opsEnd ?_
  refine Win.seq ?_
  refine Win.region ?_
  simp only [List.size_toArray, List.length_cons, List.length_nil, Nat.reduceAdd, List.range, List.range.loop]
  refine Win.pureOp (v := .func (.func 80) #[] #[.pointer (some ⟨w.heap.size, 0, none⟩)]) (.inl hne) rfl rfl (fun w => by rw [Sem.runT_eq]; simp [go_sem, execOp, Act.eval]; try rfl) ?_
  simp only [Act.put, Act.eval, gtA, gtZ, gtS, siA, scS, scZ]
  refine Win.defers (d₀ := { target := .fn (.func 80) #[.pointer (some ⟨w.heap.size, 0, none⟩)], args := #[] }) (.inl hne) rfl rfl (fun d => ⟨#[], by rw [Sem.runT_eq]; simp [go_sem, execOp, Act.eval]; try rfl, fun e he => by simp at he⟩) ?_
  simp only [Act.put, Act.eval, gtA, gtZ, gtS, siA, scS, scZ]
  refine Win.opsEnd ?_
  refine Win.seq ?_
  have hr1 : (w.alloc (.cells #[.nilIface] 20)).cell? ⟨p, 0, none⟩ = some mv := alloc_cell w _ h0
  have hr4 : (w.alloc (.cells #[.nilIface] 20)).cell? ⟨p, 4, none⟩ = some (.func (.func f) #[] cap) := alloc_cell w _ h4
  generalize hw1 : w.alloc (.cells #[.nilIface] 20) = w1 at hr1 hr4 hgo ⊢
  refine Win.anyFill (C := World) (Goal := fun c' fr => Win Try.prog Post pl n h (gor fr (c :: cs)) c') mixed (by kernel_rfl) (fun _ i => match i with | 0 => .pointer (some ⟨p, 0, none⟩) | 1 => .pointer (some ⟨p, 0, none⟩) | 2 => .pointer (some ⟨p, 4, none⟩) | 3 => .func (.func f) #[] cap | 4 => .pointer (some ⟨p, 0, none⟩) | 5 => .pointer (some ⟨p, 0, none⟩) | 6 => .pointer (some ⟨p, 0, none⟩) | 7 => mv | _ => .tuple #[]) (fun _ => (⟨#[.pointer (some ⟨p, 0, none⟩), undef, .pointer (some ⟨w.heap.size, 0, none⟩), .func (.func 80) #[] #[.pointer (some ⟨w.heap.size, 0, none⟩)], .pointer (some ⟨p, 0, none⟩), .pointer (some ⟨p, 0, none⟩), .pointer (some ⟨p, 4, none⟩), .func (.func f) #[] cap, .pointer (some ⟨p, 0, none⟩), .pointer (some ⟨p, 0, none⟩), .pointer (some ⟨p, 0, none⟩), mv, .tuple #[]], [{ target := .fn (.func 80) #[.pointer (some ⟨w.heap.size, 0, none⟩)], args := #[] }]⟩ : Act)) (fun _ => by simp only [fillAll, List.size_toArray, List.length_cons, List.length_nil, Nat.reduceAdd, List.range, List.range.loop, List.foldl_cons, List.foldl_nil, gqA, gqZ, gqS, Option.bind_some, Act.put, siA, scS, scZ]) (fun X c' => (X.getD 8 false = false → c' = w1) ∧ (X.getD 8 false = true → Ψ c')) w1 (fun fr hh => hh) ?_ ?_ ⟨fun _ => rfl, fun z => by simp at z⟩
  · intro X i o hX ho hx hr c' a' L' hJ hcl hL'' hfl e1 e2 hd hn
    have hcell : c'.cell? ⟨p, 0, none⟩ = some mv ∧ c'.cell? ⟨p, 4, none⟩ = some (.func (.func f) #[] cap) := by
      cases hx8 : X.getD 8 false with
      | false => rw [hJ.1 hx8]; exact ⟨hr1, hr4⟩
      | true => exact (hΨ _ (hJ.2 hx8)).2.2
    obtain ⟨hp0, hp4⟩ := hcell
    rcases i with _ | _ | _ | _ | _ | _ | _ | _ | _ | i
    · obtain rfl := Option.some.inj ho
      have e1 : execOp a'.eval _ = execOp (⟨#[.pointer (some ⟨p, 0, none⟩), undef, .pointer (some ⟨w.heap.size, 0, none⟩), .func (.func 80) #[] #[.pointer (some ⟨w.heap.size, 0, none⟩)], .pointer (some ⟨p, 0, none⟩), .pointer (some ⟨p, 0, none⟩), .pointer (some ⟨p, 4, none⟩), .func (.func f) #[] cap, .pointer (some ⟨p, 0, none⟩), .pointer (some ⟨p, 0, none⟩), .pointer (some ⟨p, 0, none⟩), mv, .tuple #[]], [{ target := .fn (.func 80) #[.pointer (some ⟨w.heap.size, 0, none⟩)], args := #[] }]⟩ : Act).eval _ := e1
      have hn0 := hn c' (fun _ _ => rfl) ⟨fun z => hJ.1 (by rw [getD_set_ne false (by decide)] at z; exact z), fun z => hJ.2 (by rw [getD_set_ne false (by decide)] at z; exact z)⟩
      refine Win.op (v := .pointer (some ⟨p, 0, none⟩)) (.inl hne) rfl rfl (fun d => ?_) hn0
      exact ⟨#[], by rw [e1]; rfl, fun e he => by simp at he⟩
    · obtain rfl := Option.some.inj ho
      have e1 : execOp a'.eval _ = execOp (⟨#[.pointer (some ⟨p, 0, none⟩), undef, .pointer (some ⟨w.heap.size, 0, none⟩), .func (.func 80) #[] #[.pointer (some ⟨w.heap.size, 0, none⟩)], .pointer (some ⟨p, 0, none⟩), .pointer (some ⟨p, 0, none⟩), .pointer (some ⟨p, 4, none⟩), .func (.func f) #[] cap, .pointer (some ⟨p, 0, none⟩), .pointer (some ⟨p, 0, none⟩), .pointer (some ⟨p, 0, none⟩), mv, .tuple #[]], [{ target := .fn (.func 80) #[.pointer (some ⟨w.heap.size, 0, none⟩)], args := #[] }]⟩ : Act).eval _ := e1
      have hn0 := hn c' (fun _ _ => rfl) ⟨fun z => hJ.1 (by rw [getD_set_ne false (by decide)] at z; exact z), fun z => hJ.2 (by rw [getD_set_ne false (by decide)] at z; exact z)⟩
      refine Win.op (v := .pointer (some ⟨p, 0, none⟩)) (.inl hne) rfl rfl (fun d => ?_) hn0
      exact ⟨#[], by rw [e1, Sem.runT_eq]; simp [go_sem, execOp, Act.eval], fun e he => by simp at he⟩
    · obtain rfl := Option.some.inj ho
      have e1 : execOp a'.eval _ = execOp (⟨#[.pointer (some ⟨p, 0, none⟩), undef, .pointer (some ⟨w.heap.size, 0, none⟩), .func (.func 80) #[] #[.pointer (some ⟨w.heap.size, 0, none⟩)], .pointer (some ⟨p, 0, none⟩), .pointer (some ⟨p, 0, none⟩), .pointer (some ⟨p, 4, none⟩), .func (.func f) #[] cap, .pointer (some ⟨p, 0, none⟩), .pointer (some ⟨p, 0, none⟩), .pointer (some ⟨p, 0, none⟩), mv, .tuple #[]], [{ target := .fn (.func 80) #[.pointer (some ⟨w.heap.size, 0, none⟩)], args := #[] }]⟩ : Act).eval _ := e1
      have hn0 := hn c' (fun _ _ => rfl) ⟨fun z => hJ.1 (by rw [getD_set_ne false (by decide)] at z; exact z), fun z => hJ.2 (by rw [getD_set_ne false (by decide)] at z; exact z)⟩
      refine Win.op (v := .pointer (some ⟨p, 4, none⟩)) (.inl hne) rfl rfl (fun d => ?_) hn0
      exact ⟨#[], by rw [e1, Sem.runT_eq]; simp [go_sem, execOp, Act.eval], fun e he => by simp at he⟩
    · obtain rfl := Option.some.inj ho
      have e1 : execOp a'.eval _ = execOp (⟨#[.pointer (some ⟨p, 0, none⟩), undef, .pointer (some ⟨w.heap.size, 0, none⟩), .func (.func 80) #[] #[.pointer (some ⟨w.heap.size, 0, none⟩)], .pointer (some ⟨p, 0, none⟩), .pointer (some ⟨p, 0, none⟩), .pointer (some ⟨p, 4, none⟩), .func (.func f) #[] cap, .pointer (some ⟨p, 0, none⟩), .pointer (some ⟨p, 0, none⟩), .pointer (some ⟨p, 0, none⟩), mv, .tuple #[]], [{ target := .fn (.func 80) #[.pointer (some ⟨w.heap.size, 0, none⟩)], args := #[] }]⟩ : Act).eval _ := e1
      have hn0 := hn c' (fun _ _ => rfl) ⟨fun z => hJ.1 (by rw [getD_set_ne false (by decide)] at z; exact z), fun z => hJ.2 (by rw [getD_set_ne false (by decide)] at z; exact z)⟩
      refine Win.op (v := .func (.func f) #[] cap) (.inl hne) rfl rfl (fun d => ?_) hn0
      exact ⟨#[⟨.cell ⟨p, 4, none⟩, false, false⟩], by rw [e1, Sem.runT_eq]; have hc : (World.at c' d).cell? ⟨p, 4, none⟩ = _ := hp4; generalize World.at c' d = W at hc ⊢; simp [go_sem, execOp, Act.eval, hc], fun e he => by obtain rfl : e = ⟨.cell ⟨p, 4, none⟩, false, false⟩ := (by simpa using he); exact ⟨rfl, fun m => by simp⟩⟩
    · obtain rfl := Option.some.inj ho
      have e1 : execOp a'.eval _ = execOp (⟨#[.pointer (some ⟨p, 0, none⟩), undef, .pointer (some ⟨w.heap.size, 0, none⟩), .func (.func 80) #[] #[.pointer (some ⟨w.heap.size, 0, none⟩)], .pointer (some ⟨p, 0, none⟩), .pointer (some ⟨p, 0, none⟩), .pointer (some ⟨p, 4, none⟩), .func (.func f) #[] cap, .pointer (some ⟨p, 0, none⟩), .pointer (some ⟨p, 0, none⟩), .pointer (some ⟨p, 0, none⟩), mv, .tuple #[]], [{ target := .fn (.func 80) #[.pointer (some ⟨w.heap.size, 0, none⟩)], args := #[] }]⟩ : Act).eval _ := e1
      have hn0 := hn c' (fun _ _ => rfl) ⟨fun z => hJ.1 (by rw [getD_set_ne false (by decide)] at z; exact z), fun z => hJ.2 (by rw [getD_set_ne false (by decide)] at z; exact z)⟩
      refine Win.op (v := .pointer (some ⟨p, 0, none⟩)) (.inl hne) rfl rfl (fun d => ?_) hn0
      exact ⟨#[], by rw [e1]; rfl, fun e he => by simp at he⟩
    · obtain rfl := Option.some.inj ho
      have e1 : execOp a'.eval _ = execOp (⟨#[.pointer (some ⟨p, 0, none⟩), undef, .pointer (some ⟨w.heap.size, 0, none⟩), .func (.func 80) #[] #[.pointer (some ⟨w.heap.size, 0, none⟩)], .pointer (some ⟨p, 0, none⟩), .pointer (some ⟨p, 0, none⟩), .pointer (some ⟨p, 4, none⟩), .func (.func f) #[] cap, .pointer (some ⟨p, 0, none⟩), .pointer (some ⟨p, 0, none⟩), .pointer (some ⟨p, 0, none⟩), mv, .tuple #[]], [{ target := .fn (.func 80) #[.pointer (some ⟨w.heap.size, 0, none⟩)], args := #[] }]⟩ : Act).eval _ := e1
      have hn0 := hn c' (fun _ _ => rfl) ⟨fun z => hJ.1 (by rw [getD_set_ne false (by decide)] at z; exact z), fun z => hJ.2 (by rw [getD_set_ne false (by decide)] at z; exact z)⟩
      refine Win.op (v := .pointer (some ⟨p, 0, none⟩)) (.inl hne) rfl rfl (fun d => ?_) hn0
      exact ⟨#[], by rw [e1, Sem.runT_eq]; simp [go_sem, execOp, Act.eval], fun e he => by simp at he⟩
    · obtain rfl := Option.some.inj ho
      have e1 : execOp a'.eval _ = execOp (⟨#[.pointer (some ⟨p, 0, none⟩), undef, .pointer (some ⟨w.heap.size, 0, none⟩), .func (.func 80) #[] #[.pointer (some ⟨w.heap.size, 0, none⟩)], .pointer (some ⟨p, 0, none⟩), .pointer (some ⟨p, 0, none⟩), .pointer (some ⟨p, 4, none⟩), .func (.func f) #[] cap, .pointer (some ⟨p, 0, none⟩), .pointer (some ⟨p, 0, none⟩), .pointer (some ⟨p, 0, none⟩), mv, .tuple #[]], [{ target := .fn (.func 80) #[.pointer (some ⟨w.heap.size, 0, none⟩)], args := #[] }]⟩ : Act).eval _ := e1
      have hn0 := hn c' (fun _ _ => rfl) ⟨fun z => hJ.1 (by rw [getD_set_ne false (by decide)] at z; exact z), fun z => hJ.2 (by rw [getD_set_ne false (by decide)] at z; exact z)⟩
      refine Win.op (v := .pointer (some ⟨p, 0, none⟩)) (.inl hne) rfl rfl (fun d => ?_) hn0
      exact ⟨#[], by rw [e1, Sem.runT_eq]; simp [go_sem, execOp, Act.eval], fun e he => by simp at he⟩
    · obtain rfl := Option.some.inj ho
      have e1 : execOp a'.eval _ = execOp (⟨#[.pointer (some ⟨p, 0, none⟩), undef, .pointer (some ⟨w.heap.size, 0, none⟩), .func (.func 80) #[] #[.pointer (some ⟨w.heap.size, 0, none⟩)], .pointer (some ⟨p, 0, none⟩), .pointer (some ⟨p, 0, none⟩), .pointer (some ⟨p, 4, none⟩), .func (.func f) #[] cap, .pointer (some ⟨p, 0, none⟩), .pointer (some ⟨p, 0, none⟩), .pointer (some ⟨p, 0, none⟩), mv, .tuple #[]], [{ target := .fn (.func 80) #[.pointer (some ⟨w.heap.size, 0, none⟩)], args := #[] }]⟩ : Act).eval _ := e1
      have hn0 := hn c' (fun _ _ => rfl) ⟨fun z => hJ.1 (by rw [getD_set_ne false (by decide)] at z; exact z), fun z => hJ.2 (by rw [getD_set_ne false (by decide)] at z; exact z)⟩
      refine Win.op (v := mv) (.inl hne) rfl rfl (fun d => ?_) hn0
      exact ⟨#[⟨.cell ⟨p, 0, none⟩, false, false⟩], by rw [e1, Sem.runT_eq]; have hc : (World.at c' d).cell? ⟨p, 0, none⟩ = _ := hp0; generalize World.at c' d = W at hc ⊢; simp [go_sem, execOp, Act.eval, hc], fun e he => by obtain rfl : e = ⟨.cell ⟨p, 0, none⟩, false, false⟩ := (by simpa using he); exact ⟨rfl, fun m => by simp⟩⟩
    · obtain rfl := Option.some.inj ho
      have e1 : execOp a'.eval _ = execOp (⟨#[.pointer (some ⟨p, 0, none⟩), undef, .pointer (some ⟨w.heap.size, 0, none⟩), .func (.func 80) #[] #[.pointer (some ⟨w.heap.size, 0, none⟩)], .pointer (some ⟨p, 0, none⟩), .pointer (some ⟨p, 0, none⟩), .pointer (some ⟨p, 4, none⟩), .func (.func f) #[] cap, .pointer (some ⟨p, 0, none⟩), .pointer (some ⟨p, 0, none⟩), .pointer (some ⟨p, 0, none⟩), mv, .tuple #[]], [{ target := .fn (.func 80) #[.pointer (some ⟨w.heap.size, 0, none⟩)], args := #[] }]⟩ : Act).eval _ := e1
      have hx8 : X.getD 8 false = false := by
        have hlt : 8 < X.size := by rw [hX]; decide
        simpa [hlt] using hx
      obtain rfl := hJ.1 hx8
      refine Win.enter (f := f) (args := #[mv] ++ cap) (.inl hne) rfl rfl (fun d => ⟨#[], by rw [e1]; have hi := invoke_enter mild.toMild hfn hfb cap #[mv] (World.at c' d) #[]; simp only [execOp]; simpa [resolve, Deferred.ofValue, Act.eval, Bind.bind, Sem.bind, Pure.pure] using hi, fun e he => by simp at he⟩) ?_
      refine hgo _ (stok_at rfl rfl (by rw [hd]; intro d hd'; simp only [List.mem_singleton] at hd'; subst hd'; trivial) (by kernel_rfl)) fun w' hw' => ?_
      rw [Frame.finish_at]
      exact hn w' (fun _ _ => rfl) ⟨fun z => (by rw [getD_set_self (by rw [hX]; decide)] at z; cases z), fun _ => hw'⟩
    · simp at ho
  · intro X c' hall hJ
    have hc' := hJ.2 (hall 8 (by simp))
    obtain ⟨hL', hbx, _, _⟩ := hΨ _ hc'
    have hne' : (Frame.enter Try.prog 50 #[.pointer (some ⟨p, 0, none⟩)] CallKind.normal).kind = .normal := rfl
    show Win Try.prog Post pl n h (gor ((Frame.enter Try.prog 50 #[.pointer (some ⟨p, 0, none⟩)] CallKind.normal).at (⟨#[.pointer (some ⟨p, 0, none⟩), undef, .pointer (some ⟨w.heap.size, 0, none⟩), .func (.func 80) #[] #[.pointer (some ⟨w.heap.size, 0, none⟩)], .pointer (some ⟨p, 0, none⟩), .pointer (some ⟨p, 0, none⟩), .pointer (some ⟨p, 4, none⟩), .func (.func f) #[] cap, .pointer (some ⟨p, 0, none⟩), .pointer (some ⟨p, 0, none⟩), .pointer (some ⟨p, 0, none⟩), mv, .tuple #[]], [{ target := .fn (.func 80) #[.pointer (some ⟨w.heap.size, 0, none⟩)], args := #[] }]⟩ : Act) _) (c :: cs)) c'
    have hcr : c'.cell? ⟨w.heap.size, 0, none⟩ = some .nilIface := by unfold World.cell?; rw [hbx]; rfl
    have hfr : c'.frozen? ⟨w.heap.size, 0, none⟩ = false := by unfold World.frozen?; rw [hbx]; rfl
    have hFr : Free pl ⟨w.heap.size, 0, none⟩ := L.freeNew (Nat.le_refl _)
    refine Win.opsEnd ?_
    refine Win.seq ?_
    refine Win.region ?_
    simp only [List.size_toArray, List.length_cons, List.length_nil, Nat.reduceAdd, List.range, List.range.loop]
    refine Win.storeOp (ad := ⟨w.heap.size, 0, none⟩) (x := .nilIface) (.inl hne) rfl rfl hFr (fun d => by
      rw [Sem.runT_eq]
      obtain ⟨s1, s2⟩ := store_ok (P := Try.prog) (x := .nilIface) (w := World.at _ d) (m := .plain) (by simp) (by simp) (show (World.at _ d).cell? ⟨w.heap.size, 0, none⟩ = some .nilIface from hcr) (show (World.at _ d).frozen? ⟨w.heap.size, 0, none⟩ = false from hfr)
      have c1 : (World.at _ d).cell? ⟨w.heap.size, 0, none⟩ = some .nilIface := hcr
      have c2 : (World.at _ d).frozen? ⟨w.heap.size, 0, none⟩ = false := hfr
      generalize World.at _ d = W at s1 s2 c1 c2 ⊢
      simp [go_sem, execOp, Act.eval, s1, s2, c1, c2]) ?_
    simp only [Act.put, Act.eval, gtA, gtZ, gtS, siA, scS, scZ]
    refine Win.opsEnd ?_
    have hs1 : (c'.setCell ⟨w.heap.size, 0, none⟩ .nilIface).heap[w.heap.size]? = some (.cells #[.nilIface] 20 (0, 0)) := by
      have := heap_setCell_same c' w.heap.size 0 _ _ .nilIface hbx
      rw [this]; simp
    have hk1 := ks_setCell c' ⟨w.heap.size, 0, none⟩ .nilIface
    have hl1 := hL'.setCell ⟨w.heap.size, 0, none⟩ .nilIface
    generalize c'.setCell ⟨w.heap.size, 0, none⟩ .nilIface = u1 at hs1 hk1 hl1 ⊢
    have hcu : u1.cell? ⟨w.heap.size, 0, none⟩ = some .nilIface := by unfold World.cell?; rw [hs1]; rfl
    have hfu : u1.frozen? ⟨w.heap.size, 0, none⟩ = false := by unfold World.frozen?; rw [hs1]; rfl
    refine Win.ret ?_
    refine Win.callsDeferred (d₀ := { target := .fn (.func 80) #[.pointer (some ⟨w.heap.size, 0, none⟩)], args := #[] }) (ds := []) (f := 80) (args := #[.pointer (some ⟨w.heap.size, 0, none⟩)]) (by simp) rfl trivial (by simp) (fun d => ⟨#[], invoke_enter mild.toMild Try.func80 rfl _ _ _ _, fun e he => by simp at he⟩) ?_
    have hne2 : (Frame.enter Try.prog 80 #[.pointer (some ⟨w.heap.size, 0, none⟩)] CallKind.deferred).kind = .deferred := rfl
    rw [enter_at Try.func80 rfl]
    simp only [Try.ntmps80, List.size_toArray, List.length_cons, List.length_nil, Nat.reduceAdd, Nat.reduceSub, Array.replicate_succ, Array.replicate_zero, List.push_toArray, List.append_toArray, List.nil_append, List.cons_append]
    refine Win.seq ?_
    refine Win.region ?_
    simp only [List.size_toArray, List.length_cons, List.length_nil, Nat.reduceAdd, List.range, List.range.loop]
    refine Win.recovers hne2 rfl rfl rfl (fun d => ⟨#[], by rw [Sem.runT_eq]; simp [go_sem, execOp, Act.eval]; try rfl, fun e he => by simp at he⟩) ?_
    simp only [asked]
    simp only [Act.put, Act.eval, gtA, gtZ, gtS, siA, scS, scZ]
    refine Win.storeOp (ad := ⟨w.heap.size, 0, none⟩) (x := .nilIface) (.inr hne2) rfl rfl hFr (fun d => by
      rw [Sem.runT_eq]
      obtain ⟨s1, s2⟩ := store_ok (P := Try.prog) (x := .nilIface) (w := World.at _ d) (m := .plain) (by simp) (by simp) (show (World.at _ d).cell? ⟨w.heap.size, 0, none⟩ = some .nilIface from hcu) (show (World.at _ d).frozen? ⟨w.heap.size, 0, none⟩ = false from hfu)
      have c1 : (World.at _ d).cell? ⟨w.heap.size, 0, none⟩ = some .nilIface := hcu
      have c2 : (World.at _ d).frozen? ⟨w.heap.size, 0, none⟩ = false := hfu
      generalize World.at _ d = W at s1 s2 c1 c2 ⊢
      simp [go_sem, execOp, Act.eval, s1, s2, c1, c2]) ?_
    simp only [Act.put, Act.eval, gtA, gtZ, gtS, siA, scS, scZ]
    refine Win.opsEnd ?_
    have hs2 : (u1.setCell ⟨w.heap.size, 0, none⟩ .nilIface).heap[w.heap.size]? = some (.cells #[.nilIface] 20 (0, 0)) := by
      have := heap_setCell_same u1 w.heap.size 0 _ _ .nilIface hs1
      rw [this]; simp
    have hk2 := hk1.trans (ks_setCell u1 ⟨w.heap.size, 0, none⟩ .nilIface)
    have hl2 := hl1.setCell ⟨w.heap.size, 0, none⟩ .nilIface
    generalize u1.setCell ⟨w.heap.size, 0, none⟩ .nilIface = u2 at hs2 hk2 hl2 ⊢
    have hcv : u2.cell? ⟨w.heap.size, 0, none⟩ = some .nilIface := by unfold World.cell?; rw [hs2]; rfl
    refine Win.seq ?_
    refine Win.region ?_
    simp only [List.size_toArray, List.length_cons, List.length_nil, Nat.reduceAdd, List.range, List.range.loop]
    refine Win.lookOp (v := .nilIface) (ad := ⟨w.heap.size, 0, none⟩) (x := .nilIface) (.inr hne2) rfl rfl (hcv) (fun w hc => by rw [Sem.runT_eq]; simp [go_sem, execOp, Act.eval, hc]) ?_
    simp only [Act.put, Act.eval, gtA, gtZ, gtS, siA, scS, scZ]
    refine Win.pureOp (v := .tuple #[.agg #[], .bool false]) (.inr hne2) rfl rfl (fun w => by rw [Sem.runT_eq]; simp [go_sem, execOp, Act.eval, assert_halt]; try rfl) ?_
    simp only [Act.put, Act.eval, gtA, gtZ, gtS, siA, scS, scZ]
    refine Win.pureOp (v := .tuple #[.agg #[], .bool false]) (.inr hne2) rfl rfl (fun w => rfl) ?_
    simp only [Act.put, Act.eval, gtA, gtZ, gtS, siA, scS, scZ]
    refine Win.pureOp (v := .agg #[]) (.inr hne2) rfl rfl (fun w => by rw [Sem.runT_eq]; simp [go_sem, execOp, Act.eval]) ?_
    simp only [Act.put, Act.eval, gtA, gtZ, gtS, siA, scS, scZ]
    refine Win.pureOp (v := .bool false) (.inr hne2) rfl rfl (fun w => by rw [Sem.runT_eq]; simp [go_sem, execOp, Act.eval]) ?_
    simp only [Act.put, Act.eval, gtA, gtZ, gtS, siA, scS, scZ]
    refine Win.makeOp (v := .pointer (some ⟨u2.heap.size, 0, none⟩)) (ob := .cells #[] 141) (es := #[]) hl2 (.inr hne2) rfl rfl (fun d => by rw [Sem.runT_eq]; simp [go_sem, execOp, Act.eval]; try rfl) (fun e he => by simp at he) ?_
    simp only [Act.put, Act.eval, gtA, gtZ, gtS, siA, scS, scZ]
    have hk3 := hk2.trans (ks_alloc (· = w.heap.size) u2 (.cells #[] 141))
    have hl3 := hl2.alloc (.cells #[] 141)
    have hcx : (u2.alloc (.cells #[] 141)).cell? ⟨w.heap.size, 0, none⟩ = some .nilIface := alloc_cell u2 _ hcv
    generalize hu3 : u2.alloc (.cells #[] 141) = u3 at hk3 hl3 hcx ⊢
    refine Win.opS (.inr hne2) rfl rfl fun d => ⟨u3.at d, #[], ?_, ⟨fun _ _ _ _ _ => rfl, fun _ _ _ z => z⟩, fun e he => by simp at he, Win.at ?_ d⟩
    · rw [Sem.runT_eq]
      generalize u3.at d = W
      simp [go_sem, execOp, Act.eval]
      try rfl
    simp only [Act.put, Act.eval, gtA, gtZ, gtS, siA, scS, scZ]
    refine Win.pureOp (v := .bool false) (.inr hne2) rfl rfl (fun w => rfl) ?_
    simp only [Act.put, Act.eval, gtA, gtZ, gtS, siA, scS, scZ]
    refine Win.opsEnd ?_
    refine Win.seq ?_
    refine Win.region ?_
    simp only [List.size_toArray, List.length_cons, List.length_nil, Nat.reduceAdd, List.range, List.range.loop]
    refine Win.pureOp (v := .bool false) (.inr hne2) rfl rfl (fun w => rfl) ?_
    simp only [Act.put, Act.eval, gtA, gtZ, gtS, siA, scS, scZ]
    refine Win.opsEnd ?_
    refine Win.cond (t := false) rfl ?_
    simp only [if_false, Bool.false_eq_true]
    refine Win.skip ?_
    refine Win.falls ?_
    refine Win.leaveDeferred (v := .tuple #[]) rfl rfl hne2 Try.func80 (fun d => ⟨#[], by rw [Sem.runT_eq]; simp [go_sem, results, Try.f80], fun e he => by simp at he⟩) (fun v' g older => by simp) ?_
    refine Win.leave (v := .nilIface) rfl rfl hne Try.func50 (fun d => ⟨#[⟨.cell ⟨w.heap.size, 0, none⟩, false, false⟩], ?_, fun e he => by obtain rfl : e = ⟨.cell ⟨w.heap.size, 0, none⟩, false, false⟩ := (by simpa using he); exact ⟨rfl, fun m => by simp⟩⟩) (H c' u3 hc' hk3 hl3)
    rw [Sem.runT_eq]
    have hc : (u3.at d).cell? ⟨w.heap.size, 0, none⟩ = some .nilIface := hcx
    generalize u3.at d = W at hc ⊢
    simp [go_sem, results, Try.f50, Frame.at, hc]
end
end Go.Proofs.Ytnbibpmhmffmpaa

namespace Go.Proofs.Ytnbibpmhmffmpaa
set_option linter.unusedVariables false
set_option linter.unusedSimpArgs false
set_option maxRecDepth 100000
open Go.Conc

/-- Who steps acts. -/
structure Desk (SB : Nat → Prop) (pA rA : Nat) (pl : Nat → Option Place) (F : Nat → Option (Nat × Nat)) (col : Nat → Col) (w : World) : Prop where
  pl0 : pl 0 = none
  lies : Lies pl F w
  lay : Lay SB pA rA col F w
  own : ∀ i s c, pl i = some s → s.has c → col c = .sys i
/-- An agent's own blocks. -/
structure AgOK (a : Ag) (F : Nat → Option (Nat × Nat)) (col : Nat → Col) : Prop where
  jpos : 0 < a.j
  fm : F a.m = some (0, 1)
  fp : F a.p = some (1, 4)
  cm : col a.m = .sys a.j
  cp : col a.p = .sys a.j
  ccT : col a.cT = .sys a.j
  ccU : col a.cU = .sys a.j
  ccS : col a.cS = .sys a.j
  dis : a.cT ≠ a.cU ∧ a.cT ≠ a.cS ∧ a.cU ≠ a.cS

/-- What is old is whose it was, and lies as it lay. -/
structure Same (F : Nat → Option (Nat × Nat)) (col : Nat → Col) (w : World) (F' : Nat → Option (Nat × Nat)) (col' : Nat → Col) : Prop where
  co : ∀ b, b < w.heap.size → col' b = col b
  fo : ∀ b, b < w.heap.size → F' b = F b

section
variable {G : Type} {Post : Value → World → Prop} {Sh : World → G → Prop} {SB : Nat → Prop} {pA rA : Nat} {a : Ag} {mv : Value} {home : Goroutine → Prop} {n : Nat} {T : Tree G} {runs ov : Bool}
variable {pl pl' : Nat → Option Place} {F F' F1 : Nat → Option (Nat × Nat)} {col col' col1 : Nat → Col} {w w' w1 : World} {g : G} {S : Nat → Prop}

theorem Lay.lt (L : Lay SB pA rA col F w) {b : Nat} (h : col b ≠ .main) : b < w.heap.size := by
  rcases Nat.lt_or_ge b w.heap.size with z | z
  · exact z
  · exact absurd (L.above b z) h
theorem Same.sys (h : Same F col w F' col') (L : Lay SB pA rA col F w) {b j : Nat} (hb : col b = .sys j) : col' b = .sys j := (h.co b (L.lt (by rw [hb]; simp))).trans hb
theorem AgOK.keep (h : AgOK a F col) (L : Lay SB pA rA col F w) (k : Same F col w F' col') : AgOK a F' col' :=
  ⟨h.jpos, (k.fo _ (L.lt (by rw [h.cm]; simp))).trans h.fm, (k.fo _ (L.lt (by rw [h.cp]; simp))).trans h.fp, k.sys L h.cm, k.sys L h.cp, k.sys L h.ccT, k.sys L h.ccU, k.sys L h.ccS, h.dis⟩

theorem Poised.keep {t : Value} (h : Poised Post Sh SB pA rA a mv T pl F col w t) (L : Lay SB pA rA col F w) (hst : ∃ nx bz ov, StAt a mv nx bz ov w) (hj : pl' a.j = pl a.j) (hcm : col a.m = .sys a.j) (k : Same F col w F' col')
    (hk : ∀ b, b < w.heap.size → col b = .ag a.j ∨ (col b = .sys a.j ∧ b ≠ a.p) → w'.heap[b]? = w.heap[b]?) : Poised Post Sh SB pA rA a mv T pl' F' col' w' t := by
  cases T with
  | ret => exact h
  | node kk φ c nx hl =>
    obtain ⟨b3, homeJ, own, A, B, f, cap, h1, h2, h3, h4, h5, h6, h7, h8, h9, h10, h11, h12, h13, h14⟩ := h
    obtain ⟨nxv, bz, ov, hst⟩ := hst
    have hmp : a.m ≠ a.p := fun e => by
      unfold MeAt at h6
      unfold StAt at hst
      rw [e, hst] at h6
      simp at h6
    have hbp : b3 ≠ a.p := fun e => by
      unfold StAt at hst
      rw [e, hst] at h7
      simp at h7
    refine ⟨b3, homeJ, own, A, B, f, cap, hj.trans h1, fun b hb => ?_, h3, h4, h3.st _ _ h5 fun b hb => hk b (h3.lt _ _ h5 hb) (.inl (h2 b hb)), ?_, ?_, k.sys L h8, ?_, ?_, h11, h12, h13, h14⟩
    · exact (k.co b (L.lt (by rw [h2 b hb]; simp))).trans (h2 b hb)
    · exact (hk a.m (L.lt (by rw [hcm]; simp)) (.inr ⟨hcm, hmp⟩)).trans h6
    · exact (hk b3 (L.lt (by rw [h8]; simp)) (.inr ⟨h8, hbp⟩)).trans h7
    · exact (k.fo _ (L.lt (by rw [hcm]; simp))).trans h9
    · exact (k.fo _ (L.lt (by rw [h8]; simp))).trans h10

theorem Open.same {c : Nat} (h : Open c w) (e : w'.heap[c]? = w.heap[c]?) : Open c w' := by
  obtain ⟨k, hk⟩ := h
  exact ⟨k, e.trans hk⟩
/-- One who neither acts nor is stepped stands as it stood. -/
theorem Stands.keep (h : Stands Post Sh SB pA rA a mv T pl F col w) (hO : AgOK a F col) (L : Lay SB pA rA col F w) (hj : pl' a.j = pl a.j) (k : Same F col w F' col')
    (hk : ∀ b, b < w.heap.size → col b = .ag a.j ∨ col b = .sys a.j → w'.heap[b]? = w.heap[b]?) : Stands Post Sh SB pA rA a mv T pl' F' col' w' := by
  have hs : ∀ b, col b = .sys a.j → w'.heap[b]? = w.heap[b]? := fun b hb => hk b (L.lt (by rw [hb]; simp)) (.inr hb)
  cases T with
  | ret => exact ⟨hj.trans h.1, (hs _ hO.cp).trans h.2⟩
  | node kk φ c nx hl =>
    obtain ⟨t, h1, h2, h3, h4, h5⟩ := h
    exact ⟨t, (hs _ hO.cp).trans h1, h2.same (hs _ hO.ccT), h3.same (hs _ hO.ccU), h4.same (hs _ hO.ccS), h5.keep L ⟨_, _, _, h1⟩ hj hO.cm k fun b hb hc => hk b hb (hc.imp id (·.1))⟩
end
end Go.Proofs.Ytnbibpmhmffmpaa

namespace Go.Proofs.Ytnbibpmhmffmpaa
open List renaming getElem_toArray → gtA, getElem_cons_zero → gtZ, getElem_cons_succ → gtS, setIfInBounds_toArray → siA, set_cons_succ → scS, set_cons_zero → scZ, getElem?_toArray → gqA, getElem?_cons_zero → gqZ, getElem?_cons_succ → gqS
set_option linter.unusedVariables false
set_option linter.unusedSimpArgs false
set_option maxRecDepth 100000
open Go.Conc

theorem alloc_frozen (w : World) (ob : Obj) {c : Addr} {x : Value} (hc : w.cell? c = some x) (hf : w.frozen? c = false) : (w.alloc ob).frozen? c = false := by
  have hlt : c.block < w.heap.size := World.block_lt_of_cell? _ _ hc
  unfold World.frozen? at hf ⊢
  rw [alloc_heap w ob _ hlt]; exact hf
def stepDefer (b0 : Nat) : Deferred := { target := .fn (.func 49) #[.pointer (some ⟨b0, 0, none⟩)], args := #[] }
/-- Step's slots. -/
def stepTmps (p b0 : Nat) (x19 x20 x21 x22 x23 x24 x25 x26 : Value) : Array Value := #[.pointer (some ⟨p, 0, none⟩), .pointer (some ⟨b0, 0, none⟩), .int .i64 0, .pointer (some ⟨p, 0, none⟩), .bool false, .pointer (some ⟨p, 0, none⟩), .pointer (some ⟨p, 0, none⟩), .pointer (some ⟨p, 6, none⟩), .bool false, .bool false, .pointer (some ⟨p, 0, none⟩), .pointer (some ⟨p, 0, none⟩), .pointer (some ⟨p, 5, none⟩), .bool false, .bool false, .pointer (some ⟨p, 0, none⟩), .pointer (some ⟨p, 0, none⟩), .pointer (some ⟨p, 5, none⟩), .func (.func 49) #[] #[.pointer (some ⟨b0, 0, none⟩)], x19, x20, x21, x22, x23, x24, x25, x26]
/-- Where Step stands ahead of its turn. -/
def stepAt (P : Program) (f : Func) (p b0 : Nat) : Frame :=
  (Frame.enter P 15 #[.pointer (some ⟨p, 0, none⟩)] .normal).at ⟨stepTmps p b0 undef undef undef undef undef undef undef undef, [stepDefer b0]⟩ [.code (codeL (codeR (codeR (codeR (codeR (codeR (bodyOf f))))))), .code (codeR (codeR (codeR (codeR (codeR (codeR (bodyOf f)))))))]

/-- Where Step stands while it waits for what comes next. -/
def stepWait (P : Program) (f : Func) (p b0 cU : Nat) : Frame :=
  (Frame.enter P 15 #[.pointer (some ⟨p, 0, none⟩)] .normal).at ⟨stepTmps p b0 (.pointer (some ⟨p, 0, none⟩)) (.pointer (some ⟨p, 0, none⟩)) (.pointer (some ⟨p, 2, none⟩)) (.chan (some cU)) (.pointer (some ⟨p, 0, none⟩)) .nilIface (.pointer (some ⟨p, 0, none⟩)) undef, [stepDefer b0]⟩ [.inRegion (regOps (codeL (codeR (codeR (codeR (codeR (codeR (codeR (bodyOf f)))))))) ) [1], .code (codeR (codeR (codeR (codeR (codeR (codeR (codeR (bodyOf f))))))))]

section
variable {pl : Nat → Option Place} {n h : Nat} {Post : Value → World → Prop} {w : World} {F : Nat → Option (Nat × Nat)}

set_option maxHeartbeats 1000000 in
theorem step_in (L : Lies pl F w) {c : Frame} {cs : List Frame} {p : Nat} (h5 : w.cell? ⟨p, 5, none⟩ = some (.bool false)) (h6 : w.cell? ⟨p, 6, none⟩ = some (.bool false)) (f5 : w.frozen? ⟨p, 5, none⟩ = false) (F5 : Free pl ⟨p, 5, none⟩)
    (H : ∀ b0 w1, b0 = w.heap.size → w1 = (w.alloc (.cells #[.pointer (some ⟨p, 0, none⟩)] 33)).setCell ⟨p, 5, none⟩ (.bool true) → Win Try.prog Post pl n h (gor (stepAt Try.prog Try.f15 p b0) (c :: cs)) w1) :
    Win Try.prog Post pl n h (gor (Frame.enter Try.prog 15 #[.pointer (some ⟨p, 0, none⟩)] .normal) (c :: cs)) w := by
  have hne : (Frame.enter Try.prog 15 #[.pointer (some ⟨p, 0, none⟩)] CallKind.normal).kind = .normal := rfl
  rw [enter_at Try.func15 rfl]
  simp only [Try.ntmps15, List.size_toArray, List.length_cons, List.length_nil, Nat.reduceAdd, Nat.reduceSub, Array.replicate_succ, Array.replicate_zero, List.push_toArray, List.append_toArray, List.nil_append, List.cons_append]
  refine Win.seq ?_
  refine Win.region ?_
  simp only [List.size_toArray, List.length_cons, List.length_nil, Nat.reduceAdd, List.range, List.range.loop]
  refine Win.makeOp (v := .pointer (some ⟨w.heap.size, 0, none⟩)) (ob := .cells #[.pointer (some ⟨p, 0, none⟩)] 33) (es := #[]) L (.inl hne) rfl rfl (fun d => by rw [Sem.runT_eq]; simp [go_sem, execOp, Act.eval]; try rfl) (fun e he => by simp at he) ?_
  simp only [Act.put, Act.eval, gtA, gtZ, gtS, siA, scS, scZ]
  have hb0 : (w.alloc (.cells #[.pointer (some ⟨p, 0, none⟩)] 33)).cell? ⟨w.heap.size, 0, none⟩ = some (.pointer (some ⟨p, 0, none⟩)) := alloc_box w _ _ _
  have h5' : (w.alloc (.cells #[.pointer (some ⟨p, 0, none⟩)] 33)).cell? ⟨p, 5, none⟩ = some (.bool false) := alloc_cell w _ h5
  have h6' : (w.alloc (.cells #[.pointer (some ⟨p, 0, none⟩)] 33)).cell? ⟨p, 6, none⟩ = some (.bool false) := alloc_cell w _ h6
  obtain ⟨b0, hb0e⟩ : ∃ b0, b0 = w.heap.size := ⟨_, rfl⟩
  rw [← hb0e] at hb0 ⊢
  have f5' : (w.alloc (.cells #[.pointer (some ⟨p, 0, none⟩)] 33)).frozen? ⟨p, 5, none⟩ = false := alloc_frozen w _ h5 f5
  generalize hw1 : w.alloc (.cells #[.pointer (some ⟨p, 0, none⟩)] 33) = w1 at *
  refine Win.pureOp (v := .int .i64 0) (.inl hne) rfl rfl (fun w => rfl) ?_
  simp only [Act.put, Act.eval, gtA, gtZ, gtS, siA, scS, scZ]
  refine Win.opsEnd ?_
  refine Win.seq ?_
  refine Win.seq ?_
  refine Win.region ?_
  simp only [List.size_toArray, List.length_cons, List.length_nil, Nat.reduceAdd, List.range, List.range.loop]
  refine Win.lookOp (v := .pointer (some ⟨p, 0, none⟩)) (ad := ⟨b0, 0, none⟩) (x := .pointer (some ⟨p, 0, none⟩)) (.inl hne) rfl rfl (hb0) (fun w hc => by rw [Sem.runT_eq]; simp [go_sem, execOp, Act.eval, hc]) ?_
  simp only [Act.put, Act.eval, gtA, gtZ, gtS, siA, scS, scZ]
  refine Win.pureOp (v := .bool false) (.inl hne) rfl rfl (fun w => by rw [Sem.runT_eq]; simp [go_sem, execOp, Act.eval]; try rfl) ?_
  simp only [Act.put, Act.eval, gtA, gtZ, gtS, siA, scS, scZ]
  refine Win.opsEnd ?_
  refine Win.cond (t := false) rfl ?_
  simp only [if_false, Bool.false_eq_true]
  refine Win.skip ?_
  refine Win.seq ?_
  refine Win.seq ?_
  refine Win.region ?_
  simp only [List.size_toArray, List.length_cons, List.length_nil, Nat.reduceAdd, List.range, List.range.loop]
  refine Win.lookOp (v := .pointer (some ⟨p, 0, none⟩)) (ad := ⟨b0, 0, none⟩) (x := .pointer (some ⟨p, 0, none⟩)) (.inl hne) rfl rfl (hb0) (fun w hc => by rw [Sem.runT_eq]; simp [go_sem, execOp, Act.eval, hc]) ?_
  simp only [Act.put, Act.eval, gtA, gtZ, gtS, siA, scS, scZ]
  refine Win.pureOp (v := .pointer (some ⟨p, 0, none⟩)) (.inl hne) rfl rfl (fun w => by rw [Sem.runT_eq]; simp [go_sem, execOp, Act.eval]) ?_
  simp only [Act.put, Act.eval, gtA, gtZ, gtS, siA, scS, scZ]
  refine Win.pureOp (v := .pointer (some ⟨p, 6, none⟩)) (.inl hne) rfl rfl (fun w => by rw [Sem.runT_eq]; simp [go_sem, execOp, Act.eval]) ?_
  simp only [Act.put, Act.eval, gtA, gtZ, gtS, siA, scS, scZ]
  refine Win.lookOp (v := .bool false) (ad := ⟨p, 6, none⟩) (x := .bool false) (.inl hne) rfl rfl (h6') (fun w hc => by rw [Sem.runT_eq]; simp [go_sem, execOp, Act.eval, hc]) ?_
  simp only [Act.put, Act.eval, gtA, gtZ, gtS, siA, scS, scZ]
  refine Win.pureOp (v := .bool false) (.inl hne) rfl rfl (fun w => rfl) ?_
  simp only [Act.put, Act.eval, gtA, gtZ, gtS, siA, scS, scZ]
  refine Win.lookOp (v := .pointer (some ⟨p, 0, none⟩)) (ad := ⟨b0, 0, none⟩) (x := .pointer (some ⟨p, 0, none⟩)) (.inl hne) rfl rfl (hb0) (fun w hc => by rw [Sem.runT_eq]; simp [go_sem, execOp, Act.eval, hc]) ?_
  simp only [Act.put, Act.eval, gtA, gtZ, gtS, siA, scS, scZ]
  refine Win.pureOp (v := .pointer (some ⟨p, 0, none⟩)) (.inl hne) rfl rfl (fun w => by rw [Sem.runT_eq]; simp [go_sem, execOp, Act.eval]) ?_
  simp only [Act.put, Act.eval, gtA, gtZ, gtS, siA, scS, scZ]
  refine Win.pureOp (v := .pointer (some ⟨p, 5, none⟩)) (.inl hne) rfl rfl (fun w => by rw [Sem.runT_eq]; simp [go_sem, execOp, Act.eval]) ?_
  simp only [Act.put, Act.eval, gtA, gtZ, gtS, siA, scS, scZ]
  refine Win.lookOp (v := .bool false) (ad := ⟨p, 5, none⟩) (x := .bool false) (.inl hne) rfl rfl (h5') (fun w hc => by rw [Sem.runT_eq]; simp [go_sem, execOp, Act.eval, hc]) ?_
  simp only [Act.put, Act.eval, gtA, gtZ, gtS, siA, scS, scZ]
  refine Win.pureOp (v := .bool false) (.inl hne) rfl rfl (fun w => rfl) ?_
  simp only [Act.put, Act.eval, gtA, gtZ, gtS, siA, scS, scZ]
  refine Win.opsEnd ?_
  refine Win.cond (t := false) rfl ?_
  simp only [if_false, Bool.false_eq_true]
  refine Win.skip ?_
  refine Win.seq ?_
  refine Win.region ?_
  simp only [List.size_toArray, List.length_cons, List.length_nil, Nat.reduceAdd, List.range, List.range.loop]
  refine Win.lookOp (v := .pointer (some ⟨p, 0, none⟩)) (ad := ⟨b0, 0, none⟩) (x := .pointer (some ⟨p, 0, none⟩)) (.inl hne) rfl rfl (hb0) (fun w hc => by rw [Sem.runT_eq]; simp [go_sem, execOp, Act.eval, hc]) ?_
  simp only [Act.put, Act.eval, gtA, gtZ, gtS, siA, scS, scZ]
  refine Win.pureOp (v := .pointer (some ⟨p, 0, none⟩)) (.inl hne) rfl rfl (fun w => by rw [Sem.runT_eq]; simp [go_sem, execOp, Act.eval]) ?_
  simp only [Act.put, Act.eval, gtA, gtZ, gtS, siA, scS, scZ]
  refine Win.pureOp (v := .pointer (some ⟨p, 5, none⟩)) (.inl hne) rfl rfl (fun w => by rw [Sem.runT_eq]; simp [go_sem, execOp, Act.eval]) ?_
  simp only [Act.put, Act.eval, gtA, gtZ, gtS, siA, scS, scZ]
  refine Win.storeOp (ad := ⟨p, 5, none⟩) (x := .bool true) (.inl hne) rfl rfl F5 (fun d => by
    rw [Sem.runT_eq]
    have c1 : (w1.at d).cell? ⟨p, 5, none⟩ = some (.bool false) := h5'
    have c2 : (w1.at d).frozen? ⟨p, 5, none⟩ = false := f5'
    generalize w1.at d = W at c1 c2 ⊢
    obtain ⟨s1, s2⟩ := store_ok (P := Try.prog) (x := .bool true) (w := W) (m := .plain) (by simp) (by simp) c1 c2
    simp [go_sem, execOp, Act.eval, s1, s2, c1, c2]) ?_
  simp only [Act.put, Act.eval, gtA, gtZ, gtS, siA, scS, scZ]
  refine Win.opsEnd ?_
  refine Win.seq ?_
  refine Win.region ?_
  simp only [List.size_toArray, List.length_cons, List.length_nil, Nat.reduceAdd, List.range, List.range.loop]
  refine Win.pureOp (v := .func (.func 49) #[] #[.pointer (some ⟨b0, 0, none⟩)]) (.inl hne) rfl rfl (fun w => by rw [Sem.runT_eq]; simp [go_sem, execOp, Act.eval]; try rfl) ?_
  simp only [Act.put, Act.eval, gtA, gtZ, gtS, siA, scS, scZ]
  refine Win.defers (d₀ := stepDefer b0) (.inl hne) rfl rfl (fun d => ⟨#[], by rw [Sem.runT_eq]; simp [go_sem, execOp, Act.eval, stepDefer]; try rfl, fun e he => by simp at he⟩) ?_
  simp only [Act.put, Act.eval, gtA, gtZ, gtS, siA, scS, scZ]
  refine Win.opsEnd ?_
  refine Win.seq ?_
  exact H b0 _ hb0e (by rw [← hw1])

theorem setCell_frozen (w : World) (ad c : Addr) (x : Value) (hf : w.frozen? c = false) : (w.setCell ad x).frozen? c = false := by simp [go_sem, hf]

/-- Behind the wait: Step answers. -/
theorem step_back {c : Frame} {cs : List Frame} {p b0 cT cU : Nat} {next x y z : Value} {ok : Bool} (h4 : w.cell? ⟨p, 4, none⟩ = some x) (h5 : w.cell? ⟨p, 5, none⟩ = some z) (h6 : w.cell? ⟨p, 6, none⟩ = some y) (f4 : w.frozen? ⟨p, 4, none⟩ = false) (f5 : w.frozen? ⟨p, 5, none⟩ = false) (f6 : w.frozen? ⟨p, 6, none⟩ = false)
    (hn1 : ∀ l, next ≠ .agg l) (hn2 : ∀ l, next ≠ .tuple l) (F4 : Free pl ⟨p, 4, none⟩) (F5 : Free pl ⟨p, 5, none⟩) (F6 : Free pl ⟨p, 6, none⟩) (hb : w.cell? ⟨b0, 0, none⟩ = some (.pointer (some ⟨p, 0, none⟩))) (hbp : b0 ≠ p)
    (H : Win Try.prog Post pl n h (gor (c.finish (.int .i64 0)) cs) (((w.setCell ⟨p, 4, none⟩ next).setCell ⟨p, 6, none⟩ (.bool !ok)).setCell ⟨p, 5, none⟩ (.bool false))) :
    Win Try.prog Post pl n h (Go.Conc.served (gor (waitFr Try.prog Try.f46 p cT) (stepWait Try.prog Try.f15 p b0 cU :: c :: cs)) (.tuple #[next, .bool ok])) w := by
  refine wait_back h4 h6 f4 f6 hn1 hn2 F4 F6 ?_
  have hb' : ((w.setCell ⟨p, 4, none⟩ next).setCell ⟨p, 6, none⟩ (.bool !ok)).cell? ⟨b0, 0, none⟩ = some (.pointer (some ⟨p, 0, none⟩)) := cell_setCell_ne (cell_setCell_ne hb (by simp [hbp])) (by simp [hbp])
  have h5' : ((w.setCell ⟨p, 4, none⟩ next).setCell ⟨p, 6, none⟩ (.bool !ok)).cell? ⟨p, 5, none⟩ = some z := cell_setCell_ne (cell_setCell_ne h5 (by simp)) (by simp)
  have f5' : ((w.setCell ⟨p, 4, none⟩ next).setCell ⟨p, 6, none⟩ (.bool !ok)).frozen? ⟨p, 5, none⟩ = false := setCell_frozen _ _ _ _ (setCell_frozen _ _ _ _ f5)
  generalize (w.setCell ⟨p, 4, none⟩ next).setCell ⟨p, 6, none⟩ (.bool !ok) = w1 at *
  unfold stepWait
  rw [Frame.finish_at]
  have hne : (Frame.enter Try.prog 15 #[.pointer (some ⟨p, 0, none⟩)] CallKind.normal).kind = .normal := rfl
  simp only [bodyOf, Try.f15, codeL, codeR, regOps, Option.getD_some, stepTmps]
  simp only [Act.put, Act.eval, gqA, gqZ, gqS, Option.bind_some, gtA, gtZ, gtS, siA, scS, scZ]
  refine Win.opsEnd ?_
  refine Win.seq ?_
  refine Win.region ?_
  simp only [List.size_toArray, List.length_cons, List.length_nil, Nat.reduceAdd, List.range, List.range.loop]
  refine Win.pureOp (v := .int .i64 0) (.inl hne) rfl rfl (fun w => rfl) ?_
  simp only [Act.put, Act.eval, gtA, gtZ, gtS, siA, scS, scZ]
  refine Win.opsEnd ?_
  refine Win.ret ?_
  refine Win.callsDeferred (d₀ := stepDefer b0) (ds := []) (f := 49) (args := #[.pointer (some ⟨b0, 0, none⟩)]) (by simp) rfl trivial (by simp [stepDefer]) (fun d => ⟨#[], invoke_enter mild.toMild Try.func49 rfl _ _ _ _, fun e he => by simp at he⟩) ?_
  have hne2 : (Frame.enter Try.prog 49 #[.pointer (some ⟨b0, 0, none⟩)] CallKind.deferred).kind = .deferred := rfl
  rw [enter_at Try.func49 rfl]
  simp only [Try.ntmps49, List.size_toArray, List.length_cons, List.length_nil, Nat.reduceAdd, Nat.reduceSub, Array.replicate_succ, Array.replicate_zero, List.push_toArray, List.append_toArray, List.nil_append, List.cons_append]
  refine Win.region ?_
  simp only [List.size_toArray, List.length_cons, List.length_nil, Nat.reduceAdd, List.range, List.range.loop]
  refine Win.lookOp (v := .pointer (some ⟨p, 0, none⟩)) (ad := ⟨b0, 0, none⟩) (x := .pointer (some ⟨p, 0, none⟩)) (.inr hne2) rfl rfl (hb') (fun w hc => by rw [Sem.runT_eq]; simp [go_sem, execOp, Act.eval, hc]) ?_
  simp only [Act.put, Act.eval, gtA, gtZ, gtS, siA, scS, scZ]
  refine Win.pureOp (v := .pointer (some ⟨p, 0, none⟩)) (.inr hne2) rfl rfl (fun w => by rw [Sem.runT_eq]; simp [go_sem, execOp, Act.eval]) ?_
  simp only [Act.put, Act.eval, gtA, gtZ, gtS, siA, scS, scZ]
  refine Win.pureOp (v := .pointer (some ⟨p, 5, none⟩)) (.inr hne2) rfl rfl (fun w => by rw [Sem.runT_eq]; simp [go_sem, execOp, Act.eval]) ?_
  simp only [Act.put, Act.eval, gtA, gtZ, gtS, siA, scS, scZ]
  refine Win.storeOp (ad := ⟨p, 5, none⟩) (x := .bool false) (.inr hne2) rfl rfl F5 (fun d => by
    rw [Sem.runT_eq]
    have c1 : (w1.at d).cell? ⟨p, 5, none⟩ = some z := h5'
    have c2 : (w1.at d).frozen? ⟨p, 5, none⟩ = false := f5'
    generalize w1.at d = W at c1 c2 ⊢
    obtain ⟨s1, s2⟩ := store_ok (P := Try.prog) (x := .bool false) (w := W) (m := .plain) (by simp) (by simp) c1 c2
    simp [go_sem, execOp, Act.eval, s1, s2, c1, c2]) ?_
  simp only [Act.put, Act.eval, gtA, gtZ, gtS, siA, scS, scZ]
  refine Win.opsEnd ?_
  refine Win.falls ?_
  refine Win.leaveDeferred (v := .tuple #[]) rfl rfl hne2 Try.func49 (fun d => ⟨#[], by rw [Sem.runT_eq]; simp [go_sem, results, Try.f49], fun e he => by simp at he⟩) (fun v' g older => by simp) ?_
  exact Win.leave (v := .int .i64 0) rfl rfl hne Try.func15 (fun d => ⟨#[], by rw [Sem.runT_eq]; simp [go_sem, results, Try.f15, Frame.at], fun e he => by simp at he⟩) H
end
end Go.Proofs.Ytnbibpmhmffmpaa
