/- What one reckons in a world one reckons in its veiled twin, or comes to grief there: the judgement, through 'bind' and the primitives. Of whatever program. Conditions: none. -/
import Derived.Test.YtodcnhodbeakiaaLfA
namespace Go.Proofs.Ytodcnhodbeakiaa
set_option linter.unusedVariables false
set_option linter.unusedSimpArgs false

/-- It goes in the world, to an answer that meets Q or to a panic, and in the twin just so. -/
def Follow {α : Type} (V : Veil) (P : Program) (Q : α → Prop) (s : Sem α) (w : World) : Prop :=
  ∃ A : List (Question → Nat), (match s.run P w with
    | .ok a w' => Q a ∧ VOK V w' ∧ VKeep V w w'
    | .halt (.panic _) w' => VOK V w' ∧ VKeep V w w'
    | .halt _ _ => False) ∧ (∀ es, ∀ e ∈ (s.runT P w es).2, e ∈ es ∨ CalmV V e) ∧ ∀ τ D, Agr A τ D → s.run P (V.world τ D w) = veilR V τ (D + A.length) (s.run P w)
/-- In the twin it comes to grief. -/
def Dies {α : Type} (V : Veil) (P : Program) (s : Sem α) (w : World) : Prop :=
  ∃ A : List (Question → Nat), ∀ τ D, Agr A τ D → ∃ h w', Dead h ∧ s.run P (V.world τ D w) = .halt h w'
def Sim {α : Type} (V : Veil) (P : Program) (s : Sem α) (Q : α → Prop) : Prop := ∀ w, VOK V w → Follow V P Q s w ∨ Dies V P s w

section
variable {V : Veil} {P : Program} {α β : Type}

theorem Dies.now {s : Sem α} {w : World} (h : ∀ τ D, ∃ h w', Dead h ∧ s.run P (V.world τ D w) = .halt h w') : Dies V P s w := ⟨[], fun τ D _ => h τ D⟩

theorem Sim.mono {s : Sem α} {Q Q' : α → Prop} (h : Sim V P s Q) (hq : ∀ a, Q a → Q' a) : Sim V P s Q' := fun w hw => by
  refine (h w hw).imp (fun ⟨A, h1, h2, h3⟩ => ⟨A, ?_, h2, h3⟩) id
  cases hr : s.run P w with
  | ok a w' => rw [hr] at h1; exact ⟨hq a h1.1, h1.2⟩
  | halt h w' => rw [hr] at h1; cases h <;> exact h1

theorem Sim.bind {s : Sem α} {f : α → Sem β} {Q : α → Prop} {R : β → Prop} (hs : Sim V P s Q) (hf : ∀ a, Q a → Sim V P (f a) R) : Sim V P (s >>= f) R := by
  intro w hw
  rcases hs w hw with ⟨A, h1, h2, h3⟩ | ⟨A, h⟩
  · cases hr : s.run P w with
    | halt hh w' =>
      rw [hr] at h1
      refine .inl ⟨A, ?_, fun es e he => ?_, fun τ D hA => ?_⟩
      · rw [Sem.run_bind, hr]; cases hh <;> exact h1
      · have := h2 es e
        have hb : ((s >>= f).runT P w es).2 = (s.runT P w es).2 := by
          show ((s.bind f).runT P w es).2 = _
          rw [Sem.runT_bind']
          have := Sem.runT_fst P s w es
          rw [hr] at this
          cases hT : s.runT P w es with
          | mk a b => rw [hT] at this; simp only at this; subst this; rfl
        rw [hb] at he
        exact this he
      · rw [Sem.run_bind, h3 τ D hA, Sem.run_bind, hr]; rfl
    | ok a w' =>
      rw [hr] at h1
      obtain ⟨hq, hv, hk⟩ := h1
      have hT : ∀ es, s.runT P w es = (.ok a w', (s.runT P w es).2) := fun es => by
        have := Sem.runT_fst P s w es
        rw [hr] at this
        rw [← this]
      rcases hf a hq w' hv with ⟨B, g1, g2, g3⟩ | ⟨B, g⟩
      · refine .inl ⟨A ++ B, ?_, fun es e he => ?_, fun τ D hA => ?_⟩
        · rw [Sem.run_bind, hr]
          simp only [Result.andThen]
          cases hr2 : (f a).run P w' with
          | ok b w'' => rw [hr2] at g1; exact ⟨g1.1, g1.2.1, hk.trans g1.2.2⟩
          | halt hh w'' =>
            rw [hr2] at g1
            cases hh <;> first | exact ⟨g1.1, hk.trans g1.2⟩ | exact g1
        · have he' : e ∈ ((s.bind f).runT P w es).2 := he
          rw [Sem.runT_bind', hT es] at he'
          rcases g2 _ e he' with z | z
          · exact h2 es e z
          · exact .inr z
        · rw [Sem.run_bind, h3 τ D hA.left, hr, Sem.run_bind, hr]
          show (f a).run P (V.world τ (D + A.length) w') = veilR V τ _ ((f a).run P w')
          rw [g3 τ _ hA.right, List.length_append, Nat.add_assoc]
      · refine .inr ⟨A ++ B, fun τ D hA => ?_⟩
        obtain ⟨hh, w'', hd, hg⟩ := g τ _ hA.right
        exact ⟨hh, w'', hd, by rw [Sem.run_bind, h3 τ D hA.left, hr]; exact hg⟩
  · refine .inr ⟨A, fun τ D hA => ?_⟩
    obtain ⟨hh, w', hd, hr⟩ := h τ D hA
    exact ⟨hh, w', hd, by rw [Sem.run_bind, hr]; rfl⟩

theorem Sim.bindT {s : Sem α} {f : α → Sem β} {R : β → Prop} (hs : Sim V P s fun _ => True) (hf : ∀ a, Sim V P (f a) R) : Sim V P (s >>= f) R := hs.bind fun a _ => hf a

/-- One step that yields the same in both. -/
theorem Sim.same {s : Sem α} {Q : α → Prop} {w : World} {a : α} {w' : World} (hr : s.run P w = .ok a w') (hq : Q a) (hv : VOK V w') (hk : VKeep V w w') (he : ∀ es, ∀ e ∈ (s.runT P w es).2, e ∈ es ∨ CalmV V e)
    (ht : ∀ τ D, s.run P (V.world τ D w) = .ok a (V.world τ D w')) : Follow V P Q s w :=
  ⟨[], by rw [hr]; exact ⟨hq, hv, hk⟩, he, fun τ D _ => by rw [ht, hr]; rfl⟩

theorem Sim.pure {a : α} {Q : α → Prop} (h : Q a) : Sim V P (pure a) Q := fun w hw => .inl (Sim.same (a := a) (w' := w) rfl h hw (VKeep.refl V w) (fun es e he => .inl he) (fun _ _ => rfl))
theorem Sim.pureT {a : α} : Sim V P (Pure.pure a : Sem α) fun _ => True := Sim.pure trivial
theorem Sim.panic {v : Value} {Q : α → Prop} : Sim V P (.halt (.panic v) : Sem α) Q := fun w hw =>
  .inl ⟨[], ⟨hw, VKeep.refl V w⟩, fun es e he => .inl he, fun τ D _ => rfl⟩
theorem Sim.dead {h : Halt} {Q : α → Prop} (hd : Dead h) : Sim V P (.halt h : Sem α) Q := fun w hw => .inr (Dies.now fun τ D => ⟨h, _, hd, rfl⟩)
theorem Sim.stuck {s : String} {Q : α → Prop} : Sim V P (stuck s : Sem α) Q := Sim.dead (h := .stuck s) trivial
theorem Sim.unsupported {u : Unsupported} {Q : α → Prop} (hu : ∀ g, u ≠ .initOrder g) : Sim V P (unsupported u : Sem α) Q := Sim.dead (h := .unsupported u) (by cases u <;> first | trivial | exact absurd rfl (hu _))
theorem Sim.goPanic {v : Value} {Q : α → Prop} : Sim V P (goPanic v : Sem α) Q := Sim.panic

theorem Sim.program : Sim V P Go.program fun p => p = P := fun w hw => .inl (Sim.same (a := P) (w' := w) rfl rfl hw (VKeep.refl V w) (fun es e he => .inl he) (fun _ _ => rfl))
theorem Sim.shape (r : Nat) : Sim V P (Go.shape r) fun _ => True := fun w hw =>
  .inl (Sim.same (a := w.shape? r) (w' := w) rfl trivial hw (VKeep.refl V w) (fun es e he => .inl he) (fun τ D => by show Result.ok _ _ = _; rw [veil_shape]))
theorem Sim.choose (q : Question) : Sim V P (Go.choose q) fun _ => True := fun w hw => by
  by_cases hf : q.forced = true
  · refine .inl (Sim.same (a := 0) (w' := w) ?_ trivial hw (VKeep.refl V w) (fun es e he => ?_) (fun τ D => ?_))
    · simp [Go.choose, Sem.run, hf]
    · simp only [Go.choose, Sem.runT, hf, if_true] at he; exact .inl he
    · simp [Go.choose, Sem.run, hf]
  · refine .inl ⟨[w.tape w.drawn], ?_, fun es e he => ?_, fun τ D hA => ?_⟩
    · simp only [Go.choose, Sem.run, hf, if_false, Bool.false_eq_true]
      exact ⟨trivial, hw.drawn _, ⟨Nat.le_refl _, fun _ _ => rfl, fun _ _ => rfl⟩⟩
    · simp only [Go.choose, Sem.runT, hf, if_false, Bool.false_eq_true] at he; exact .inl he
    · have h0 : τ D = w.tape w.drawn := hA 0 _ rfl
      simp only [Go.choose, Sem.run, hf, if_false, Bool.false_eq_true, veilR]
      simp [Veil.world, h0]

theorem VKeep.setCell {w : World} {a : Addr} (v : Value) (hw : VOK V w) (ha : V.still a = false) {x : Value} (hx : w.cell? a = some x) : VOK V (w.setCell a v) ∧ VKeep V w (w.setCell a v) := by
  have hob : ∀ i, i ≠ a.block → (w.setCell a v).heap[i]? = w.heap[i]? := fun i hi => by simp [World.setCell, Array.getElem?_modify, Ne.symm hi]
  obtain ⟨c, t, fz, hc⟩ : ∃ c t fz, w.heap[a.block]? = some (.cells c t fz) := by
    unfold World.cell? at hx
    split at hx
    · exact ⟨_, _, _, ‹_›⟩
    · cases hx
  have hbl : (w.setCell a v).heap[a.block]? = some (.cells (if a.spot.isSome then c else c.setIfInBounds a.off v) t fz) := by simp [World.setCell, Array.getElem?_modify, hc]
  refine ⟨⟨by simpa [World.setCell] using hw.top, fun i o ho => ?_, fun i o hi ho => ?_, fun i r hr => ?_⟩, ⟨by simp [World.setCell], fun i hi => ?_, fun b hb => ?_⟩⟩
  · by_cases e : i = a.block
    · subst e; rw [hbl] at ho; obtain rfl := Option.some.inj ho; exact .inr trivial
    · rw [hob i e] at ho; exact hw.nice i o ho
  · by_cases e : i = a.block
    · subst e; exact absurd trivial (hw.chs _ _ hi hc).1
    · rw [hob i e] at ho; exact hw.chs i o hi ho
  · obtain ⟨c', t', h'⟩ := hw.frz i r hr
    by_cases e : i = a.block
    · subst e
      rw [hc] at h'
      obtain ⟨rfl, rfl, rfl⟩ := by simpa using h'
      exact ⟨_, _, hbl⟩
    · exact ⟨c', t', by rw [hob i e]; exact h'⟩
  · by_cases e : i = a.block
    · subst e; exact absurd trivial (hw.chs _ _ hi hc).1
    · exact hob i e
  · by_cases e : b.block = a.block
    · have hne : b.spot.isSome = true ∨ b.off ≠ a.off ∨ a.spot.isSome = true := by
        by_cases h1 : b.spot.isSome = true
        · exact .inl h1
        · by_cases h2 : a.spot.isSome = true
          · exact .inr (.inr h2)
          · refine .inr (.inl fun h3 => ?_)
            have : V.still b = V.still a := by unfold Veil.still; rw [e, h3]
            rw [this, ha] at hb; cases hb
      unfold World.cell?
      rw [e, hbl, hc]
      rcases hne with h1 | h1 | h1
      · simp [h1]
      · by_cases h2 : a.spot.isSome = true
        · simp [h2]
        · simp only [h2, if_false, Bool.false_eq_true]
          by_cases h3 : b.spot.isSome = true
          · simp [h3]
          · simp only [h3, if_false, Bool.false_eq_true]
            rw [Array.getElem?_setIfInBounds_ne (fun z => h1 z.symm)]
      · simp [h1]
    · unfold World.cell?
      rw [hob _ e]

theorem Sim.load (a : Addr) (m : Mode) : Sim V P (Go.load a m) fun _ => True := fun w hw => by
  cases hc : w.cell? a with
  | some v =>
    refine .inl (Sim.same (a := v) (w' := w) (by simp [Go.load, Sem.run, hc]) trivial hw (VKeep.refl V w) (fun es e he => ?_) (fun τ D => by simp [Go.load, Sem.run, veil_cell, hc]))
    simp only [Go.load, Sem.runT, hc] at he
    rcases Array.mem_push.1 he with z | rfl
    · exact .inl z
    · exact .inr ⟨fun x hx hw => (by simp [MemAct.ofEvent, MemAct.touch?] at hx; subst hx; cases hw), by simp, by simp⟩
  | none =>
    refine .inr (Dies.now fun τ D => ?_)
    obtain ⟨s, hd, hs⟩ := veil_far_load (τ := τ) (D := D) (P := P) hw hc (m == .atomic)
    exact ⟨s, V.world τ D w, hd, by simp [Go.load, Sem.run, veil_cell, hc, hs]⟩

theorem run_store_agg {P : Program} {w : World} {a : Addr} {m : Mode} {x : Value} (h : (∃ l, x = .agg l) ∨ ∃ l, x = .tuple l) : (Go.store a x m).run P w = .halt (.stuck "store: not the value of one cell") w := by
  rcases h with ⟨l, rfl⟩ | ⟨l, rfl⟩ <;> rfl
theorem run_store_cell {P : Program} {w : World} {a : Addr} {m : Mode} {x : Value} (h1 : ∀ l, x ≠ .agg l) (h2 : ∀ l, x ≠ .tuple l) : (Go.store a x m).run P w = match w.cell? a with
    | some _ => if w.frozen? a then .halt (.unsupported (.unsafePointer "a write to bytes that a string shares")) w else .ok () (w.setCell a x)
    | none => match w.farStore P a x (m == .atomic) with
      | .ok (w, _) => .ok () w
      | .error h => .halt h w := by
  cases x <;> first | exact absurd rfl (h1 _) | exact absurd rfl (h2 _) | rfl
theorem runT_store_cell {P : Program} {w : World} {a : Addr} {m : Mode} {x v : Value} {es : Array Event} (h1 : ∀ l, x ≠ .agg l) (h2 : ∀ l, x ≠ .tuple l) (hc : w.cell? a = some v) (hf : w.frozen? a = false) : ((Go.store a x m).runT P w es).2 = es.push ⟨.cell a, true, m == .atomic⟩ := by
  cases x <;> first | exact absurd rfl (h1 _) | exact absurd rfl (h2 _) | simp only [Go.store, Sem.runT, hc, hf, if_false, Bool.false_eq_true]

theorem Sim.store (a : Addr) (x : Value) (m : Mode) : Sim V P (Go.store a x m) fun _ => True := fun w hw => by
  by_cases hx : (∃ l, x = .agg l) ∨ ∃ l, x = .tuple l
  · exact .inr (Dies.now fun τ D => ⟨.stuck "store: not the value of one cell", V.world τ D w, trivial, run_store_agg hx⟩)
  have h1 : ∀ l, x ≠ .agg l := fun l e => hx (.inl ⟨l, e⟩)
  have h2 : ∀ l, x ≠ .tuple l := fun l e => hx (.inr ⟨l, e⟩)
  cases hc : w.cell? a with
  | none =>
    refine .inr (Dies.now fun τ D => ?_)
    obtain ⟨s, hd, hs⟩ := veil_far_store (τ := τ) (D := D) (P := P) (a := a) hw x (m == .atomic)
    exact ⟨s, V.world τ D w, hd, by rw [run_store_cell h1 h2, veil_cell, hc]; simp only [hs]⟩
  | some v =>
    by_cases ha : V.still a = true
    · exact .inr (Dies.now fun τ D => ⟨.unsupported (.unsafePointer "a write to bytes that a string shares"), V.world τ D w, trivial, by rw [run_store_cell h1 h2, veil_cell, hc]; simp only [veil_still hw ha, if_true]⟩)
    have ha' : V.still a = false := by simpa using ha
    by_cases hf : w.frozen? a = true
    · exact .inr (Dies.now fun τ D => ⟨.unsupported (.unsafePointer "a write to bytes that a string shares"), V.world τ D w, trivial, by rw [run_store_cell h1 h2, veil_cell, hc]; simp only [veil_frozen hw ha', hf, if_true]⟩)
    have hf' : w.frozen? a = false := by simpa using hf
    obtain ⟨k1, k2⟩ := VKeep.setCell x hw ha' hc
    refine .inl (Sim.same (a := ()) (w' := w.setCell a x) (by rw [run_store_cell h1 h2, hc]; simp only [hf', if_false, Bool.false_eq_true]) trivial k1 k2 (fun es e he => ?_)
      (fun τ D => by rw [run_store_cell h1 h2, veil_cell, hc]; simp only [veil_frozen hw ha', hf', if_false, Bool.false_eq_true]; rw [veil_setCell hw]))
    rw [runT_store_cell h1 h2 hc hf'] at he
    rcases Array.mem_push.1 he with z | rfl
    · exact .inl z
    · refine .inr ⟨fun y hy _ c hl => ?_, by simp, by simp⟩
      simp [MemAct.ofEvent, MemAct.touch?] at hy
      subst hy
      cases hl
      exact ha'

theorem Sim.newObj (o : Obj) (ho : NiceO o) : Sim V P (Go.newObj o) fun r => V.top ≤ r := fun w hw => by
  refine .inl (Sim.same (a := w.heap.size) (w' := { w with heap := w.heap.push o }) rfl hw.top ?_ ?_ (fun es e he => .inl he) (fun τ D => ?_))
  · have hob : ∀ i, i ≠ w.heap.size → (w.heap.push o)[i]? = w.heap[i]? := fun i hi => by rw [Array.getElem?_push, if_neg hi]
    refine ⟨by have := hw.top; simp; omega, fun i x hx => ?_, fun i x hi hx => ?_, fun i r hr => ?_⟩
    · by_cases e : i = w.heap.size
      · subst e; simp at hx; subst hx; exact .inr ho
      · simp only [hob i e] at hx; exact hw.nice i x hx
    · have := V.lowC i hi
      have ht := hw.top
      simp only [hob i (by omega)] at hx; exact hw.chs i x hi hx
    · have := V.lowF i r hr
      have ht := hw.top
      obtain ⟨c, t, h⟩ := hw.frz i r hr
      exact ⟨c, t, by simp only [hob i (by omega)]; exact h⟩
  · refine ⟨by simp, fun i hi => ?_, fun b hb => ?_⟩
    · have := V.lowC i hi
      have ht := hw.top
      show (w.heap.push o)[i]? = _
      rw [Array.getElem?_push, if_neg (by omega)]
    · unfold Veil.still at hb
      cases hf : V.froz b.block with
      | none => rw [hf] at hb; cases hb
      | some r =>
        have := V.lowF _ _ hf
        have ht := hw.top
        unfold World.cell?
        rw [show ({ w with heap := w.heap.push o } : World).heap[b.block]? = w.heap[b.block]? from by show (w.heap.push o)[b.block]? = _; rw [Array.getElem?_push, if_neg (by omega)]]
  · show Result.ok _ _ = _
    rw [veil_alloc hw, veil_size]

theorem Sim.frozen (a : Addr) (ha : V.still a = false) : Sim V P (Go.frozen a) fun _ => True := fun w hw =>
  .inl (Sim.same (a := w.frozen? a) (w' := w) rfl trivial hw (VKeep.refl V w) (fun es e he => .inl he) (fun τ D => by show Result.ok _ _ = _; rw [veil_frozen hw ha]))

theorem Sim.getObj {r : Nat} {k : Obj → Sem β} {R : β → Prop} (hk : ∀ o, NiceO o → ¬ isCells o → V.ch r = false → Sim V P (k o) R) (hd : ∀ o, isSham o → ∃ h, Dead h ∧ k o = .halt h) : Sim V P (Go.getObj r >>= k) R := by
  intro w hw
  cases ho : w.heap[r]? with
  | none => exact .inr (Dies.now fun τ D => ⟨.stuck "getObj: no such block", V.world τ D w, trivial, by show ((Sem.getObj r .pure).bind k).run P _ = _; simp [Sem.bind, Sem.run, veil_heap, ho]⟩)
  | some o =>
    by_cases hcl : isCells o
    · refine .inr (Dies.now fun τ D => ⟨.stuck "getObj: a row of cells", V.world τ D w, trivial, ?_⟩)
      cases o <;> simp only [isCells] at hcl
      show ((Sem.getObj r .pure).bind k).run P _ = _
      simp [Sem.bind, Sem.run, veil_heap, ho, Veil.obj]
    · by_cases hch : V.ch r = true
      · have hL : ∃ o', isSham o' ∧ ∀ τ D, (V.world τ D w).heap[r]? = some o' := by
          cases o with
          | cells c t f => exact absurd trivial hcl
          | view a u => exact ⟨.view ⟨0, 0, some 0⟩ 0, trivial, fun τ D => by rw [veil_heap, ho]; simp [Veil.obj, hch]⟩
          | _ => exact ⟨.coro none, trivial, fun τ D => by rw [veil_heap, ho]; simp [Veil.obj, hch]⟩
        obtain ⟨o', hs, hL⟩ := hL
        obtain ⟨h, hdd, hke⟩ := hd o' hs
        refine .inr (Dies.now fun τ D => ⟨h, V.world τ D w, hdd, ?_⟩)
        have hL' := hL τ D
        show ((Sem.getObj r .pure).bind k).run P _ = _
        cases o' <;> first | exact hs.elim | simp only [Sem.bind, Sem.run, hL', hke]
      · have hch' : V.ch r = false := by simpa using hch
        have hn : NiceO o := (hw.nice r o ho).elim (fun z => absurd z hch) id
        have hrunW : ∀ {γ : Type} (w₁ : World) (k : Obj → Sem γ), w₁.heap[r]? = some o → (Go.getObj r >>= k).run P w₁ = (k o).run P w₁ := by
          intro γ w₁ k h1
          show ((Sem.getObj r .pure).bind k).run P _ = _
          cases o <;> first | exact absurd trivial hcl | simp only [Sem.bind, Sem.run, h1]
        have hrunT : ∀ es, (Go.getObj r >>= k).runT P w es = (k o).runT P w (es.push ⟨.obj r, false, o.isChan⟩) := by
          intro es
          show ((Sem.getObj r .pure).bind k).runT P _ _ = _
          cases o <;> first | exact absurd trivial hcl | simp only [Sem.bind, Sem.runT, ho]
        have hL : ∀ τ D, (V.world τ D w).heap[r]? = some o := fun τ D => by rw [veil_heap, ho]; cases o <;> simp_all [Veil.obj, isCells]
        rcases hk o hn hcl hch' w hw with ⟨A, h1, h2, h3⟩ | ⟨A, h⟩
        · refine .inl ⟨A, by rw [hrunW w k ho]; exact h1, fun es e he => ?_, fun τ D hA => by rw [hrunW _ k (hL τ D), hrunW w k ho]; exact h3 τ D hA⟩
          rw [hrunT] at he
          rcases h2 _ e he with z | z
          · rcases Array.mem_push.1 z with z | rfl
            · exact .inl z
            · exact .inr ⟨fun x hx hw' => (by simp [MemAct.ofEvent, MemAct.touch?] at hx; subst hx; cases hw'), by simp, by simp⟩
          · exact .inr z
        · exact .inr ⟨A, fun τ D hA => by rw [hrunW _ k (hL τ D)]; exact h τ D hA⟩

theorem Sim.setObj {r : Nat} {o : Obj} (hc : V.ch r = false) (ho : ¬ isCells o) (hn : NiceO o) : Sim V P (Go.setObj r o) fun _ => True := fun w hw => by
  cases hr : w.heap[r]? with
  | none => exact .inr (Dies.now fun τ D => ⟨.stuck "setObj: no such block", V.world τ D w, trivial, by simp [Go.setObj, Sem.run, veil_heap, hr]⟩)
  | some x =>
    by_cases hcl : isCells x
    · refine .inr (Dies.now fun τ D => ⟨.stuck "setObj: a row of cells", V.world τ D w, trivial, ?_⟩)
      cases x <;> simp only [isCells] at hcl
      simp [Go.setObj, Sem.run, veil_heap, hr, Veil.obj]
    · have hL : ∀ τ D, (V.world τ D w).heap[r]? = some x := fun τ D => by rw [veil_heap, hr]; cases x <;> simp_all [Veil.obj, isCells]
      have hfz : V.froz r = none := by
        cases hf : V.froz r with
        | none => rfl
        | some p => obtain ⟨c, t, h⟩ := hw.frz r p hf; rw [hr] at h; obtain rfl := Option.some.inj h; exact absurd trivial hcl
      have hob : ∀ i, i ≠ r → (w.heap.setIfInBounds r o)[i]? = w.heap[i]? := fun i hi => Array.getElem?_setIfInBounds_ne (Ne.symm hi)
      have hlt : r < w.heap.size := (Array.getElem?_eq_some_iff.1 hr).1
      refine .inl (Sim.same (a := ()) (w' := { w with heap := w.heap.setIfInBounds r o }) ?_ trivial ⟨by simpa using hw.top, fun i y hy => ?_, fun i y hi hy => ?_, fun i p hp => ?_⟩ ⟨by simp, fun i hi => ?_, fun b hb => ?_⟩ (fun es e he => ?_) (fun τ D => ?_))
      · cases x <;> first | exact absurd trivial hcl | simp only [Go.setObj, Sem.run, hr]
      · by_cases e : i = r
        · subst e; simp [hlt] at hy; subst hy; exact .inr hn
        · simp only [hob i e] at hy; exact hw.nice i y hy
      · by_cases e : i = r
        · subst e; rw [hc] at hi; cases hi
        · simp only [hob i e] at hy; exact hw.chs i y hi hy
      · have e : i ≠ r := fun e => by rw [e, hfz] at hp; cases hp
        obtain ⟨c, t, h⟩ := hw.frz i p hp
        exact ⟨c, t, by simp only [hob i e]; exact h⟩
      · have e : i ≠ r := fun e => by rw [e, hc] at hi; cases hi
        exact hob i e
      · unfold Veil.still at hb
        have e : b.block ≠ r := fun e => by rw [e, hfz] at hb; cases hb
        unfold World.cell?
        rw [show ({ w with heap := w.heap.setIfInBounds r o } : World).heap[b.block]? = w.heap[b.block]? from hob _ e]
      · have he' : e ∈ es.push ⟨.obj r, true, o.isChan⟩ := by cases x <;> first | exact absurd trivial hcl | (simp only [Go.setObj, Sem.runT, hr] at he; exact he)
        rcases Array.mem_push.1 he' with z | rfl
        · exact .inl z
        · refine .inr ⟨fun y hy _ c hl => ?_, by simp, by simp⟩
          cases ho' : o.isChan <;> simp [MemAct.ofEvent, MemAct.touch?, ho'] at hy
          subst hy
          cases hl
      · have hx := hL τ D
        have e1 : (Go.setObj r o).run P (V.world τ D w) = .ok () { (V.world τ D w) with heap := (V.world τ D w).heap.setIfInBounds r o } := by cases x <;> first | exact absurd trivial hcl | simp only [Go.setObj, Sem.run, hx]
        rw [e1, veil_setObj hc ho]

theorem Sim.mark (m : Mark) (h1 : m ≠ .disable) (h2 : m ≠ .enable) (h3 : ∀ a, m ≠ .write a) : Sim V P (Go.mark m) fun _ => True := fun w hw => by
  refine .inl (Sim.same (a := ()) (w' := w) rfl trivial hw (VKeep.refl V w) (fun es e he => ?_) (fun _ _ => rfl))
  have he' : e ∈ es.push ⟨.mark m, false, true⟩ := he
  rcases Array.mem_push.1 he' with z | rfl
  · exact .inl z
  · refine .inr ⟨fun y hy hw' => ?_, by simpa using h1, by simpa using h2⟩
    cases m <;> simp [MemAct.ofEvent, MemAct.touch?] at hy <;> first | (subst hy; cases hw'; done) | exact absurd rfl (h3 _)

theorem Sim.ite {c : Prop} [Decidable c] {s t : Sem α} {Q : α → Prop} (hs : c → Sim V P s Q) (ht : ¬ c → Sim V P t Q) : Sim V P (if c then s else t) Q := by
  by_cases h : c
  · rw [if_pos h]; exact hs h
  · rw [if_neg h]; exact ht h
end
end Go.Proofs.Ytodcnhodbeakiaa
