/- The veiled twin, through the instructions, operators and builtins. Of whatever program. Conditions: none. Conditions: as each theorem states them. -/
import Derived.Test.YtnbaiinhalplcaaPg01
namespace Go.Proofs.Ytnbaiinhalplcaa
set_option linter.unusedVariables false
set_option linter.unusedSimpArgs false

section
variable {V : Veil} {P : Program} {α β : Type}

theorem Sim.getObjT {r : Nat} {k : Obj → Sem β} (hk : ∀ o, NiceO o → ¬ isCells o → V.ch r = false → SimT V P (k o)) (hd : ∀ o, isSham o → ∃ h, Dead h ∧ k o = .halt h) : SimT V P (Go.getObj r >>= k) := Sim.getObj hk hd

theorem simT_panicThen (e : RuntimeError) (k : α → Sem β) : SimT V P (runtimePanic e >>= k) := Sim.bind (Q := fun _ => False) (simT_runtimePanic e) fun _ h => h.elim
theorem simT_stuckThen (e : String) (k : α → Sem β) : SimT V P (stuck e >>= k) := Sim.bind (Q := fun _ => False) Sim.stuck fun _ h => h.elim
theorem simT_unsupThen {u : Unsupported} (k : α → Sem β) (hu : (match u with | .initOrder _ => False | _ => True)) : SimT V P (unsupported u >>= k) := Sim.bind (Q := fun _ => False) (SimT.unsup hu) fun _ h => h.elim
theorem sham_cases {o : Obj} (h : isSham o) : o = .coro none ∨ o = .view ⟨0, 0, some 0⟩ 0 := by
  unfold isSham at h
  split at h
  · exact .inl rfl
  · exact .inr rfl
  · exact h.elim
/-- The block of an object that is of use is the same in both. -/
theorem veil_same {w : World} {τ : Nat → Question → Nat} {D : Nat} {r : Nat} {o : Obj} (h : w.heap[r]? = some o) (hc : V.ch r = false) (ho : ¬ isCells o) : (V.world τ D w).heap[r]? = some o := by
  rw [veil_heap, h]
  cases o <;> simp_all [Veil.obj, isCells]
def shamOf : Obj → Obj
  | .view .. => .view ⟨0, 0, some 0⟩ 0
  | _ => .coro none
def numOf : Obj → Option (Addr × Bool)
  | .number a lost => some (a, lost)
  | _ => none
theorem veil_sham {w : World} {r : Nat} {o : Obj} (hw : VOK V w) (h : w.heap[r]? = some o) (hc : V.ch r = true) : ∀ τ D, (V.world τ D w).heap[r]? = some (shamOf o) := by
  intro τ D
  rw [veil_heap, h]
  have := (hw.chs r o hc h).1
  cases o <;> simp_all [Veil.obj, isCells, shamOf]

theorem simT_numberAt (r : Nat) : SimT V P (numberAt r) := fun w hw => by
  have hrun : ∀ w : World, (numberAt r).run P w = (if (w.shape? r).isSome then .ok none w else ((getObj r >>= fun o => match o with | .number a lost => pure (some (a, lost)) | _ => pure none : Sem (Option (Addr × Bool))).run P w)) := by
    intro w
    unfold numberAt
    rw [Sem.run_bind]
    show (if _ then _ else _ : Sem _).run P w = _
    cases (w.shape? r).isSome <;> rfl
  have hev : ∀ (w : World) es, ((numberAt r).runT P w es).2 = (if (w.shape? r).isSome then es else ((getObj r >>= fun o => match o with | .number a lost => pure (some (a, lost)) | _ => pure none : Sem (Option (Addr × Bool))).runT P w es).2) := by
    intro w es
    unfold numberAt
    show ((Sem.bind _ _).runT P w es).2 = _
    rw [Sem.runT_bind']
    show ((if _ then _ else _ : Sem _).runT P w es).2 = _
    cases (w.shape? r).isSome <;> rfl
  by_cases hs : (w.shape? r).isSome = true
  · exact .inl (Sim.same (a := none) (w' := w) (by rw [hrun, if_pos hs]) trivial hw (VKeep.refl V w) (fun es e he => by rw [hev, if_pos hs] at he; exact .inl he) (fun τ D => by rw [hrun, veil_shape, if_pos hs]))
  · cases ho : w.heap[r]? with
    | none => exact .inr (Dies.now fun τ D => ⟨.stuck "getObj: no such block", V.world τ D w, trivial, by rw [hrun, veil_shape, if_neg hs]; show ((Sem.getObj r .pure).bind _).run P _ = _; simp [Sem.bind, Sem.run, veil_heap, ho]⟩)
    | some o =>
      have hcl : ¬ isCells o := fun h => by
        cases o <;> simp only [isCells] at h
        exact hs (by simp [World.shape?, ho])
      have hone : ∀ (w₁ : World) (x : Obj), w₁.heap[r]? = some x → ¬ isCells x → (getObj r >>= fun o => match o with | .number a lost => pure (some (a, lost)) | _ => pure none : Sem (Option (Addr × Bool))).run P w₁ = .ok (numOf x) w₁ := by
        intro w₁ x h1 h2
        show ((Sem.getObj r .pure).bind _).run P _ = _
        cases x <;> first | exact absurd trivial h2 | (simp only [Sem.bind, Sem.run, h1]; rfl)
      have hres : ∀ τ D, ∃ x, (V.world τ D w).heap[r]? = some x ∧ ¬ isCells x ∧ numOf x = numOf o := by
        intro τ D
        by_cases hc : V.ch r = true
        · have hn := (hw.chs r o hc ho).2
          refine ⟨_, veil_sham hw ho hc τ D, ?_, ?_⟩
          · cases o <;> simp [isCells, shamOf]
          · cases o <;> first | rfl | exact absurd trivial hn
        · exact ⟨o, veil_same ho (by simpa using hc) hcl, hcl, rfl⟩
      refine .inl (Sim.same (a := numOf o) (w' := w) (by rw [hrun, if_neg hs, hone w o ho hcl]) trivial hw (VKeep.refl V w) (fun es e he => ?_) (fun τ D => ?_))
      · rw [hev, if_neg hs] at he
        have he' : e ∈ es.push ⟨.obj r, false, o.isChan⟩ := by
          have : ((getObj r >>= fun o => match o with | .number a lost => pure (some (a, lost)) | _ => pure none : Sem (Option (Addr × Bool))).runT P w es).2 = es.push ⟨.obj r, false, o.isChan⟩ := by
            show (((Sem.getObj r .pure).bind _).runT P _ _).2 = _
            cases o <;> first | exact absurd trivial hcl | (simp only [Sem.bind, Sem.runT, ho]; rfl)
          rw [this] at he; exact he
        rcases Array.mem_push.1 he' with z | rfl
        · exact .inl z
        · exact .inr ⟨fun x hx hw' => (by simp [MemAct.ofEvent, MemAct.touch?] at hx; subst hx; cases hw'), by simp, by simp⟩
      · obtain ⟨x, h1, h2, h3⟩ := hres τ D
        rw [hrun, veil_shape, if_neg hs, hone _ x h1 h2, h3]

theorem simT_noView (a : Addr) : SimT V P (noView a) := fun w hw => by
  have hrun : ∀ w : World, (noView a).run P w = (if (w.shape? a.block).isSome then .ok () w else ((getObj a.block >>= fun o => match o with | .view _ _ => unsupported (.unsafePointer "memory seen as another type") | _ => pure () : Sem Unit).run P w)) := by
    intro w
    unfold noView viewAt
    show ((Sem.bind (Sem.bind _ _) _).run P w) = _
    rw [Sem.run_bind', Sem.run_bind']
    show ((if _ then _ else _ : Sem _).run P w).andThen _ = _
    cases hsh : (w.shape? a.block).isSome
    · show (((Sem.getObj a.block .pure).bind _).run P w).andThen _ = ((Sem.getObj a.block .pure).bind _).run P w
      simp only [Sem.bind, Sem.run]
      cases ho : w.heap[a.block]? with
      | none => rfl
      | some o => cases o <;> rfl
    · rfl
  have hev : ∀ (w : World) es o, (w.shape? a.block).isSome = false → w.heap[a.block]? = some o → ∀ e ∈ ((noView a).runT P w es).2, e ∈ es ∨ CalmV V e := by
    intro w es o hsh ho e he
    unfold noView viewAt at he
    have he2 : e ∈ ((Sem.bind (Sem.bind (shape a.block) fun s => if s.isSome = true then pure none else getObj a.block >>= fun o => match o with | .view a t => pure (some (a, t)) | _ => pure none) fun v => if v.isSome = true then unsupported (.unsafePointer "memory seen as another type") else pure ()).runT P w es).2 := he
    rw [Sem.runT_bind', Sem.runT_bind'] at he2
    have he3 : e ∈ es.push ⟨.obj a.block, false, o.isChan⟩ := by
      simp only [shape, Sem.runT] at he2
      rw [hsh] at he2
      simp only [Bool.false_eq_true, if_false] at he2
      have e1 : (getObj a.block >>= fun o => match o with | .view a t => pure (some (a, t)) | _ => pure none : Sem (Option (Addr × TypeId))).runT P w es = ((Sem.getObj a.block .pure).bind fun o => match o with | .view a t => pure (some (a, t)) | _ => pure none).runT P w es := rfl
      rw [e1] at he2
      cases o <;> first | (exfalso; simp [World.shape?, ho] at hsh; done) | (simp only [Sem.bind, Sem.runT, ho] at he2; exact he2)
    rcases Array.mem_push.1 he3 with z | rfl
    · exact .inl z
    · exact .inr ⟨fun x hx hw' => (by simp [MemAct.ofEvent, MemAct.touch?] at hx; subst hx; cases hw'), by simp, by simp⟩
  have hone : ∀ (w₁ : World) (x : Obj), w₁.heap[a.block]? = some x → ¬ isCells x → (getObj a.block >>= fun o => match o with | .view _ _ => unsupported (.unsafePointer "memory seen as another type") | _ => pure () : Sem Unit).run P w₁ = (match x with | .view _ _ => .halt (.unsupported (.unsafePointer "memory seen as another type")) w₁ | _ => .ok () w₁) := by
    intro w₁ x h1 h2
    show ((Sem.getObj a.block .pure).bind _).run P _ = _
    cases x <;> first | exact absurd trivial h2 | (simp only [Sem.bind, Sem.run, h1]; rfl)
  by_cases hs : (w.shape? a.block).isSome = true
  · refine .inl (Sim.same (a := ()) (w' := w) (by rw [hrun, if_pos hs]) trivial hw (VKeep.refl V w) (fun es e he => ?_) (fun τ D => by rw [hrun, veil_shape, if_pos hs]))
    unfold noView viewAt at he
    have he2 : e ∈ ((Sem.bind (Sem.bind (shape a.block) fun s => if s.isSome = true then pure none else getObj a.block >>= fun o => match o with | .view a t => pure (some (a, t)) | _ => pure none) fun v => if v.isSome = true then unsupported (.unsafePointer "memory seen as another type") else pure ()).runT P w es).2 := he
    rw [Sem.runT_bind', Sem.runT_bind'] at he2
    simp only [shape, Sem.runT] at he2
    rw [hs] at he2
    exact .inl he2
  · have hs' : (w.shape? a.block).isSome = false := by simpa using hs
    cases ho : w.heap[a.block]? with
    | none => exact .inr (Dies.now fun τ D => ⟨.stuck "getObj: no such block", V.world τ D w, trivial, by rw [hrun, veil_shape, if_neg hs]; show ((Sem.getObj a.block .pure).bind _).run P _ = _; simp [Sem.bind, Sem.run, veil_heap, ho]⟩)
    | some o =>
      have hcl : ¬ isCells o := fun h => by
        cases o <;> simp only [isCells] at h
        exact hs (by simp [World.shape?, ho])
      by_cases hview : ∃ x u, o = .view x u
      · obtain ⟨x, u, rfl⟩ := hview
        refine .inr (Dies.now fun τ D => ⟨.unsupported (.unsafePointer "memory seen as another type"), V.world τ D w, trivial, ?_⟩)
        obtain ⟨x', u', hx⟩ : ∃ x' u', (V.world τ D w).heap[a.block]? = some (.view x' u') := by
          by_cases hc : V.ch a.block = true
          · exact ⟨_, _, veil_sham hw ho hc τ D⟩
          · exact ⟨_, _, veil_same ho (by simpa using hc) hcl⟩
        rw [hrun, veil_shape, if_neg hs, hone _ _ hx (fun z => z)]
      · refine .inl (Sim.same (a := ()) (w' := w) ?_ trivial hw (VKeep.refl V w) (fun es e he => hev w es o hs' ho e he) (fun τ D => ?_))
        · rw [hrun, if_neg hs, hone w o ho hcl]
          cases o <;> first | rfl | exact absurd ⟨_, _, rfl⟩ hview
        · obtain ⟨x, h1, h2, h3⟩ : ∃ x, (V.world τ D w).heap[a.block]? = some x ∧ ¬ isCells x ∧ ∀ y u, x ≠ .view y u := by
            by_cases hc : V.ch a.block = true
            · refine ⟨_, veil_sham hw ho hc τ D, ?_, ?_⟩
              · cases o <;> simp [isCells, shamOf]
              · intro y u; cases o <;> first | (intro z; simp [shamOf] at z; done) | exact absurd ⟨_, _, rfl⟩ hview
            · exact ⟨o, veil_same ho (by simpa using hc) hcl, hcl, fun y u z => hview ⟨y, u, z⟩⟩
          rw [hrun, veil_shape, if_neg hs, hone _ x h1 h2]
          cases x <;> first | rfl | exact absurd rfl (h3 _ _)

theorem simT_behindNumber (a : Addr) : SimT V P (behindNumber a) := by
  unfold behindNumber
  repeat' (first
    | (rcases sham_cases (by assumption) with rfl | rfl <;> (refine ⟨_, ?_, rfl⟩; trivial))
    | with_reducible first
     | exact simT_panicThen _ _
     | exact simT_stuckThen _ _
     | exact simT_unsupThen _ trivial
     | exact Sim.pureT
     | exact Sim.stuck
    | exact SimT.unsup trivial
    | with_reducible exact Sim.goPanic
    | exact simT_runtimePanic _
    | exact simT_boundsPanic _ _ _ _
    | with_reducible first
     | exact SimT.program
     | exact simT_typeInfo _
     | exact simT_underlying _
     | exact simT_zeroValue _
     | exact simT_sizeOf _
     | exact simT_isAgg _
     | exact simT_loadCells _ _
     | exact simT_storeCells _ _ _
     | exact simT_loadVar _ _
     | exact simT_storeVar _ _ _
     | exact simT_newRow _ _
     | exact simT_newVar _ _
     | exact simT_part _ _ _
     | exact simT_elemOf _
     | exact simT_asIntOf _
     | exact simT_asInt _
     | exact simT_asBool _
     | exact simT_asString _
     | exact simT_asAgg _
     | exact simT_asAddr _
     | exact simT_sureAddr _
     | exact simT_askRoom _
     | exact Sim.load _ _
     | exact Sim.shape _
     | exact Sim.choose _
     | exact simT_noView _
     | exact simT_numberAt _
     | refine Sim.getObjT (fun o _ _ _ => ?_) (fun o ho => ?_)
     | refine Sim.bindT ?_ (fun _ => ?_)
     | refine Sim.ite (fun _ => ?_) (fun _ => ?_)
    | split
    | dsimp only)

theorem simT_byteOf (a : Addr) : SimT V P (byteOf a) := by
  unfold byteOf
  repeat' (first
    | (rcases sham_cases (by assumption) with rfl | rfl <;> (refine ⟨_, ?_, rfl⟩; trivial))
    | with_reducible first
     | exact simT_panicThen _ _
     | exact simT_stuckThen _ _
     | exact simT_unsupThen _ trivial
     | exact Sim.pureT
     | exact Sim.stuck
    | exact SimT.unsup trivial
    | with_reducible exact Sim.goPanic
    | exact simT_runtimePanic _
    | exact simT_boundsPanic _ _ _ _
    | with_reducible first
     | exact SimT.program
     | exact simT_typeInfo _
     | exact simT_underlying _
     | exact simT_zeroValue _
     | exact simT_sizeOf _
     | exact simT_isAgg _
     | exact simT_loadCells _ _
     | exact simT_storeCells _ _ _
     | exact simT_loadVar _ _
     | exact simT_storeVar _ _ _
     | exact simT_newRow _ _
     | exact simT_newVar _ _
     | exact simT_part _ _ _
     | exact simT_elemOf _
     | exact simT_asIntOf _
     | exact simT_asInt _
     | exact simT_asBool _
     | exact simT_asString _
     | exact simT_asAgg _
     | exact simT_asAddr _
     | exact simT_sureAddr _
     | exact simT_askRoom _
     | exact Sim.load _ _
     | exact Sim.shape _
     | exact Sim.choose _
     | exact simT_noView _
     | exact simT_numberAt _
     | exact simT_behindNumber _
     | refine Sim.getObjT (fun o _ _ _ => ?_) (fun o ho => ?_)
     | refine Sim.bindT ?_ (fun _ => ?_)
     | refine Sim.ite (fun _ => ?_) (fun _ => ?_)
    | split
    | dsimp only)

theorem simT_partAt (a : Addr) (c b : Nat) : SimT V P (partAt a c b) := by
  unfold partAt
  repeat' (first
    | (rcases sham_cases (by assumption) with rfl | rfl <;> (refine ⟨_, ?_, rfl⟩; trivial))
    | with_reducible first
     | exact simT_panicThen _ _
     | exact simT_stuckThen _ _
     | exact simT_unsupThen _ trivial
     | exact Sim.pureT
     | exact Sim.stuck
    | exact SimT.unsup trivial
    | with_reducible exact Sim.goPanic
    | exact simT_runtimePanic _
    | exact simT_boundsPanic _ _ _ _
    | with_reducible first
     | exact SimT.program
     | exact simT_typeInfo _
     | exact simT_underlying _
     | exact simT_zeroValue _
     | exact simT_sizeOf _
     | exact simT_isAgg _
     | exact simT_loadCells _ _
     | exact simT_storeCells _ _ _
     | exact simT_loadVar _ _
     | exact simT_storeVar _ _ _
     | exact simT_newRow _ _
     | exact simT_newVar _ _
     | exact simT_part _ _ _
     | exact simT_elemOf _
     | exact simT_asIntOf _
     | exact simT_asInt _
     | exact simT_asBool _
     | exact simT_asString _
     | exact simT_asAgg _
     | exact simT_asAddr _
     | exact simT_sureAddr _
     | exact simT_askRoom _
     | exact Sim.load _ _
     | exact Sim.shape _
     | exact Sim.choose _
     | exact simT_noView _
     | exact simT_numberAt _
     | exact simT_behindNumber _
     | exact simT_byteOf _
     | refine Sim.getObjT (fun o _ _ _ => ?_) (fun o ho => ?_)
     | refine Sim.bindT ?_ (fun _ => ?_)
     | refine Sim.ite (fun _ => ?_) (fun _ => ?_)
    | split
    | dsimp only)

theorem simT_fieldPlace (a : Addr) (f : Field) : SimT V P (fieldPlace a f) := by
  unfold fieldPlace
  repeat' (first
    | (rcases sham_cases (by assumption) with rfl | rfl <;> (refine ⟨_, ?_, rfl⟩; trivial))
    | with_reducible first
     | exact simT_panicThen _ _
     | exact simT_stuckThen _ _
     | exact simT_unsupThen _ trivial
     | exact Sim.pureT
     | exact Sim.stuck
    | exact SimT.unsup trivial
    | with_reducible exact Sim.goPanic
    | exact simT_runtimePanic _
    | exact simT_boundsPanic _ _ _ _
    | with_reducible first
     | exact SimT.program
     | exact simT_typeInfo _
     | exact simT_underlying _
     | exact simT_zeroValue _
     | exact simT_sizeOf _
     | exact simT_isAgg _
     | exact simT_loadCells _ _
     | exact simT_storeCells _ _ _
     | exact simT_loadVar _ _
     | exact simT_storeVar _ _ _
     | exact simT_newRow _ _
     | exact simT_newVar _ _
     | exact simT_part _ _ _
     | exact simT_elemOf _
     | exact simT_asIntOf _
     | exact simT_asInt _
     | exact simT_asBool _
     | exact simT_asString _
     | exact simT_asAgg _
     | exact simT_asAddr _
     | exact simT_sureAddr _
     | exact simT_askRoom _
     | exact Sim.load _ _
     | exact Sim.shape _
     | exact Sim.choose _
     | exact simT_noView _
     | exact simT_numberAt _
     | exact simT_behindNumber _
     | exact simT_byteOf _
     | exact simT_partAt _ _ _
     | refine Sim.getObjT (fun o _ _ _ => ?_) (fun o ho => ?_)
     | refine Sim.bindT ?_ (fun _ => ?_)
     | refine Sim.ite (fun _ => ?_) (fun _ => ?_)
    | split
    | dsimp only)

theorem simT_alloc (e : TypeId) (h : Bool) (o : Value) : SimT V P (Instr.alloc e h o) := by
  unfold Instr.alloc
  repeat' (first
    | (rcases sham_cases (by assumption) with rfl | rfl <;> (refine ⟨_, ?_, rfl⟩; trivial))
    | with_reducible first
     | exact simT_panicThen _ _
     | exact simT_stuckThen _ _
     | exact simT_unsupThen _ trivial
     | exact Sim.pureT
     | exact Sim.stuck
    | exact SimT.unsup trivial
    | with_reducible exact Sim.goPanic
    | exact simT_runtimePanic _
    | exact simT_boundsPanic _ _ _ _
    | with_reducible first
     | exact SimT.program
     | exact simT_typeInfo _
     | exact simT_underlying _
     | exact simT_zeroValue _
     | exact simT_sizeOf _
     | exact simT_isAgg _
     | exact simT_loadCells _ _
     | exact simT_storeCells _ _ _
     | exact simT_loadVar _ _
     | exact simT_storeVar _ _ _
     | exact simT_newRow _ _
     | exact simT_newVar _ _
     | exact simT_part _ _ _
     | exact simT_elemOf _
     | exact simT_asIntOf _
     | exact simT_asInt _
     | exact simT_asBool _
     | exact simT_asString _
     | exact simT_asAgg _
     | exact simT_asAddr _
     | exact simT_sureAddr _
     | exact simT_askRoom _
     | exact Sim.load _ _
     | exact Sim.shape _
     | exact Sim.choose _
     | exact simT_noView _
     | exact simT_numberAt _
     | exact simT_behindNumber _
     | exact simT_byteOf _
     | exact simT_partAt _ _ _
     | exact simT_fieldPlace _ _
     | refine Sim.getObjT (fun o _ _ _ => ?_) (fun o ho => ?_)
     | refine Sim.bindT ?_ (fun _ => ?_)
     | refine Sim.ite (fun _ => ?_) (fun _ => ?_)
    | split
    | dsimp only)

theorem simT_loadAt (t : TypeId) (a : Value) : SimT V P (Instr.loadAt t a) := by
  unfold Instr.loadAt
  repeat' (first
    | (rcases sham_cases (by assumption) with rfl | rfl <;> (refine ⟨_, ?_, rfl⟩; trivial))
    | with_reducible first
     | exact simT_panicThen _ _
     | exact simT_stuckThen _ _
     | exact simT_unsupThen _ trivial
     | exact Sim.pureT
     | exact Sim.stuck
    | exact SimT.unsup trivial
    | with_reducible exact Sim.goPanic
    | exact simT_runtimePanic _
    | exact simT_boundsPanic _ _ _ _
    | with_reducible first
     | exact SimT.program
     | exact simT_typeInfo _
     | exact simT_underlying _
     | exact simT_zeroValue _
     | exact simT_sizeOf _
     | exact simT_isAgg _
     | exact simT_loadCells _ _
     | exact simT_storeCells _ _ _
     | exact simT_loadVar _ _
     | exact simT_storeVar _ _ _
     | exact simT_newRow _ _
     | exact simT_newVar _ _
     | exact simT_part _ _ _
     | exact simT_elemOf _
     | exact simT_asIntOf _
     | exact simT_asInt _
     | exact simT_asBool _
     | exact simT_asString _
     | exact simT_asAgg _
     | exact simT_asAddr _
     | exact simT_sureAddr _
     | exact simT_askRoom _
     | exact Sim.load _ _
     | exact Sim.shape _
     | exact Sim.choose _
     | exact simT_noView _
     | exact simT_numberAt _
     | exact simT_behindNumber _
     | exact simT_byteOf _
     | exact simT_partAt _ _ _
     | exact simT_fieldPlace _ _
     | exact simT_alloc _ _ _
     | refine Sim.getObjT (fun o _ _ _ => ?_) (fun o ho => ?_)
     | refine Sim.bindT ?_ (fun _ => ?_)
     | refine Sim.ite (fun _ => ?_) (fun _ => ?_)
    | split
    | dsimp only)

theorem simT_storeAt (t : TypeId) (a v : Value) : SimT V P (Instr.storeAt t a v) := by
  unfold Instr.storeAt
  repeat' (first
    | (rcases sham_cases (by assumption) with rfl | rfl <;> (refine ⟨_, ?_, rfl⟩; trivial))
    | with_reducible first
     | exact simT_panicThen _ _
     | exact simT_stuckThen _ _
     | exact simT_unsupThen _ trivial
     | exact Sim.pureT
     | exact Sim.stuck
    | exact SimT.unsup trivial
    | with_reducible exact Sim.goPanic
    | exact simT_runtimePanic _
    | exact simT_boundsPanic _ _ _ _
    | with_reducible first
     | exact SimT.program
     | exact simT_typeInfo _
     | exact simT_underlying _
     | exact simT_zeroValue _
     | exact simT_sizeOf _
     | exact simT_isAgg _
     | exact simT_loadCells _ _
     | exact simT_storeCells _ _ _
     | exact simT_loadVar _ _
     | exact simT_storeVar _ _ _
     | exact simT_newRow _ _
     | exact simT_newVar _ _
     | exact simT_part _ _ _
     | exact simT_elemOf _
     | exact simT_asIntOf _
     | exact simT_asInt _
     | exact simT_asBool _
     | exact simT_asString _
     | exact simT_asAgg _
     | exact simT_asAddr _
     | exact simT_sureAddr _
     | exact simT_askRoom _
     | exact Sim.load _ _
     | exact Sim.shape _
     | exact Sim.choose _
     | exact simT_noView _
     | exact simT_numberAt _
     | exact simT_behindNumber _
     | exact simT_byteOf _
     | exact simT_partAt _ _ _
     | exact simT_fieldPlace _ _
     | exact simT_alloc _ _ _
     | exact simT_loadAt _ _
     | refine Sim.getObjT (fun o _ _ _ => ?_) (fun o ho => ?_)
     | refine Sim.bindT ?_ (fun _ => ?_)
     | refine Sim.ite (fun _ => ?_) (fun _ => ?_)
    | split
    | dsimp only)

theorem simT_fieldAt (s : TypeId) (a : Value) (f : Nat) : SimT V P (Instr.fieldAt s a f) := by
  unfold Instr.fieldAt
  repeat' (first
    | (rcases sham_cases (by assumption) with rfl | rfl <;> (refine ⟨_, ?_, rfl⟩; trivial))
    | with_reducible first
     | exact simT_panicThen _ _
     | exact simT_stuckThen _ _
     | exact simT_unsupThen _ trivial
     | exact Sim.pureT
     | exact Sim.stuck
    | exact SimT.unsup trivial
    | with_reducible exact Sim.goPanic
    | exact simT_runtimePanic _
    | exact simT_boundsPanic _ _ _ _
    | with_reducible first
     | exact SimT.program
     | exact simT_typeInfo _
     | exact simT_underlying _
     | exact simT_zeroValue _
     | exact simT_sizeOf _
     | exact simT_isAgg _
     | exact simT_loadCells _ _
     | exact simT_storeCells _ _ _
     | exact simT_loadVar _ _
     | exact simT_storeVar _ _ _
     | exact simT_newRow _ _
     | exact simT_newVar _ _
     | exact simT_part _ _ _
     | exact simT_elemOf _
     | exact simT_asIntOf _
     | exact simT_asInt _
     | exact simT_asBool _
     | exact simT_asString _
     | exact simT_asAgg _
     | exact simT_asAddr _
     | exact simT_sureAddr _
     | exact simT_askRoom _
     | exact Sim.load _ _
     | exact Sim.shape _
     | exact Sim.choose _
     | exact simT_noView _
     | exact simT_numberAt _
     | exact simT_behindNumber _
     | exact simT_byteOf _
     | exact simT_partAt _ _ _
     | exact simT_fieldPlace _ _
     | exact simT_alloc _ _ _
     | exact simT_loadAt _ _
     | exact simT_storeAt _ _ _
     | refine Sim.getObjT (fun o _ _ _ => ?_) (fun o ho => ?_)
     | refine Sim.bindT ?_ (fun _ => ?_)
     | refine Sim.ite (fun _ => ?_) (fun _ => ?_)
    | split
    | dsimp only)

theorem simT_indexAt (t : TypeId) (x i : Value) : SimT V P (Instr.indexAt t x i) := by
  unfold Instr.indexAt
  repeat' (first
    | (rcases sham_cases (by assumption) with rfl | rfl <;> (refine ⟨_, ?_, rfl⟩; trivial))
    | with_reducible first
     | exact simT_panicThen _ _
     | exact simT_stuckThen _ _
     | exact simT_unsupThen _ trivial
     | exact Sim.pureT
     | exact Sim.stuck
    | exact SimT.unsup trivial
    | with_reducible exact Sim.goPanic
    | exact simT_runtimePanic _
    | exact simT_boundsPanic _ _ _ _
    | with_reducible first
     | exact SimT.program
     | exact simT_typeInfo _
     | exact simT_underlying _
     | exact simT_zeroValue _
     | exact simT_sizeOf _
     | exact simT_isAgg _
     | exact simT_loadCells _ _
     | exact simT_storeCells _ _ _
     | exact simT_loadVar _ _
     | exact simT_storeVar _ _ _
     | exact simT_newRow _ _
     | exact simT_newVar _ _
     | exact simT_part _ _ _
     | exact simT_elemOf _
     | exact simT_asIntOf _
     | exact simT_asInt _
     | exact simT_asBool _
     | exact simT_asString _
     | exact simT_asAgg _
     | exact simT_asAddr _
     | exact simT_sureAddr _
     | exact simT_askRoom _
     | exact Sim.load _ _
     | exact Sim.shape _
     | exact Sim.choose _
     | exact simT_noView _
     | exact simT_numberAt _
     | exact simT_behindNumber _
     | exact simT_byteOf _
     | exact simT_partAt _ _ _
     | exact simT_fieldPlace _ _
     | exact simT_alloc _ _ _
     | exact simT_loadAt _ _
     | exact simT_storeAt _ _ _
     | exact simT_fieldAt _ _ _
     | refine Sim.getObjT (fun o _ _ _ => ?_) (fun o ho => ?_)
     | refine Sim.bindT ?_ (fun _ => ?_)
     | refine Sim.ite (fun _ => ?_) (fun _ => ?_)
    | split
    | dsimp only)

theorem simT_sliceBound (x : Value) (y : Nat) (c : BoundsCode) : SimT V P (Instr.sliceBound x y c) := by
  unfold Instr.sliceBound
  repeat' (first
    | (rcases sham_cases (by assumption) with rfl | rfl <;> (refine ⟨_, ?_, rfl⟩; trivial))
    | with_reducible first
     | exact simT_panicThen _ _
     | exact simT_stuckThen _ _
     | exact simT_unsupThen _ trivial
     | exact Sim.pureT
     | exact Sim.stuck
    | exact SimT.unsup trivial
    | with_reducible exact Sim.goPanic
    | exact simT_runtimePanic _
    | exact simT_boundsPanic _ _ _ _
    | with_reducible first
     | exact SimT.program
     | exact simT_typeInfo _
     | exact simT_underlying _
     | exact simT_zeroValue _
     | exact simT_sizeOf _
     | exact simT_isAgg _
     | exact simT_loadCells _ _
     | exact simT_storeCells _ _ _
     | exact simT_loadVar _ _
     | exact simT_storeVar _ _ _
     | exact simT_newRow _ _
     | exact simT_newVar _ _
     | exact simT_part _ _ _
     | exact simT_elemOf _
     | exact simT_asIntOf _
     | exact simT_asInt _
     | exact simT_asBool _
     | exact simT_asString _
     | exact simT_asAgg _
     | exact simT_asAddr _
     | exact simT_sureAddr _
     | exact simT_askRoom _
     | exact Sim.load _ _
     | exact Sim.shape _
     | exact Sim.choose _
     | exact simT_noView _
     | exact simT_numberAt _
     | exact simT_behindNumber _
     | exact simT_byteOf _
     | exact simT_partAt _ _ _
     | exact simT_fieldPlace _ _
     | exact simT_alloc _ _ _
     | exact simT_loadAt _ _
     | exact simT_storeAt _ _ _
     | exact simT_fieldAt _ _ _
     | exact simT_indexAt _ _ _
     | refine Sim.getObjT (fun o _ _ _ => ?_) (fun o ho => ?_)
     | refine Sim.bindT ?_ (fun _ => ?_)
     | refine Sim.ite (fun _ => ?_) (fun _ => ?_)
    | split
    | dsimp only)

theorem simT_sliceBounds (b : Bool) (l c : Nat) (x y z : Option Value) : SimT V P (Instr.sliceBounds b l c x y z) := by
  unfold Instr.sliceBounds
  repeat' (first
    | (rcases sham_cases (by assumption) with rfl | rfl <;> (refine ⟨_, ?_, rfl⟩; trivial))
    | with_reducible first
     | exact simT_panicThen _ _
     | exact simT_stuckThen _ _
     | exact simT_unsupThen _ trivial
     | exact Sim.pureT
     | exact Sim.stuck
    | exact SimT.unsup trivial
    | with_reducible exact Sim.goPanic
    | exact simT_runtimePanic _
    | exact simT_boundsPanic _ _ _ _
    | with_reducible first
     | exact SimT.program
     | exact simT_typeInfo _
     | exact simT_underlying _
     | exact simT_zeroValue _
     | exact simT_sizeOf _
     | exact simT_isAgg _
     | exact simT_loadCells _ _
     | exact simT_storeCells _ _ _
     | exact simT_loadVar _ _
     | exact simT_storeVar _ _ _
     | exact simT_newRow _ _
     | exact simT_newVar _ _
     | exact simT_part _ _ _
     | exact simT_elemOf _
     | exact simT_asIntOf _
     | exact simT_asInt _
     | exact simT_asBool _
     | exact simT_asString _
     | exact simT_asAgg _
     | exact simT_asAddr _
     | exact simT_sureAddr _
     | exact simT_askRoom _
     | exact Sim.load _ _
     | exact Sim.shape _
     | exact Sim.choose _
     | exact simT_noView _
     | exact simT_numberAt _
     | exact simT_behindNumber _
     | exact simT_byteOf _
     | exact simT_partAt _ _ _
     | exact simT_fieldPlace _ _
     | exact simT_alloc _ _ _
     | exact simT_loadAt _ _
     | exact simT_storeAt _ _ _
     | exact simT_fieldAt _ _ _
     | exact simT_indexAt _ _ _
     | exact simT_sliceBound _ _ _
     | refine Sim.getObjT (fun o _ _ _ => ?_) (fun o ho => ?_)
     | refine Sim.bindT ?_ (fun _ => ?_)
     | refine Sim.ite (fun _ => ?_) (fun _ => ?_)
    | split
    | dsimp only)

theorem simT_slice (t : TypeId) (v : Value) (x y z : Option Value) : SimT V P (Instr.slice t v x y z) := by
  unfold Instr.slice
  repeat' (first
    | (rcases sham_cases (by assumption) with rfl | rfl <;> (refine ⟨_, ?_, rfl⟩; trivial))
    | with_reducible first
     | exact simT_panicThen _ _
     | exact simT_stuckThen _ _
     | exact simT_unsupThen _ trivial
     | exact Sim.pureT
     | exact Sim.stuck
    | exact SimT.unsup trivial
    | with_reducible exact Sim.goPanic
    | exact simT_runtimePanic _
    | exact simT_boundsPanic _ _ _ _
    | with_reducible first
     | exact SimT.program
     | exact simT_typeInfo _
     | exact simT_underlying _
     | exact simT_zeroValue _
     | exact simT_sizeOf _
     | exact simT_isAgg _
     | exact simT_loadCells _ _
     | exact simT_storeCells _ _ _
     | exact simT_loadVar _ _
     | exact simT_storeVar _ _ _
     | exact simT_newRow _ _
     | exact simT_newVar _ _
     | exact simT_part _ _ _
     | exact simT_elemOf _
     | exact simT_asIntOf _
     | exact simT_asInt _
     | exact simT_asBool _
     | exact simT_asString _
     | exact simT_asAgg _
     | exact simT_asAddr _
     | exact simT_sureAddr _
     | exact simT_askRoom _
     | exact Sim.load _ _
     | exact Sim.shape _
     | exact Sim.choose _
     | exact simT_noView _
     | exact simT_numberAt _
     | exact simT_behindNumber _
     | exact simT_byteOf _
     | exact simT_partAt _ _ _
     | exact simT_fieldPlace _ _
     | exact simT_alloc _ _ _
     | exact simT_loadAt _ _
     | exact simT_storeAt _ _ _
     | exact simT_fieldAt _ _ _
     | exact simT_indexAt _ _ _
     | exact simT_sliceBound _ _ _
     | exact simT_sliceBounds _ _ _ _ _ _
     | refine Sim.getObjT (fun o _ _ _ => ?_) (fun o ho => ?_)
     | refine Sim.bindT ?_ (fun _ => ?_)
     | refine Sim.ite (fun _ => ?_) (fun _ => ?_)
    | split
    | dsimp only)

theorem simT_sliceAt (t : TypeId) (v : Value) (x y z : Option Value) : SimT V P (Instr.sliceAt t v x y z) := by
  unfold Instr.sliceAt
  repeat' (first
    | (rcases sham_cases (by assumption) with rfl | rfl <;> (refine ⟨_, ?_, rfl⟩; trivial))
    | with_reducible first
     | exact simT_panicThen _ _
     | exact simT_stuckThen _ _
     | exact simT_unsupThen _ trivial
     | exact Sim.pureT
     | exact Sim.stuck
    | exact SimT.unsup trivial
    | with_reducible exact Sim.goPanic
    | exact simT_runtimePanic _
    | exact simT_boundsPanic _ _ _ _
    | with_reducible first
     | exact SimT.program
     | exact simT_typeInfo _
     | exact simT_underlying _
     | exact simT_zeroValue _
     | exact simT_sizeOf _
     | exact simT_isAgg _
     | exact simT_loadCells _ _
     | exact simT_storeCells _ _ _
     | exact simT_loadVar _ _
     | exact simT_storeVar _ _ _
     | exact simT_newRow _ _
     | exact simT_newVar _ _
     | exact simT_part _ _ _
     | exact simT_elemOf _
     | exact simT_asIntOf _
     | exact simT_asInt _
     | exact simT_asBool _
     | exact simT_asString _
     | exact simT_asAgg _
     | exact simT_asAddr _
     | exact simT_sureAddr _
     | exact simT_askRoom _
     | exact Sim.load _ _
     | exact Sim.shape _
     | exact Sim.choose _
     | exact simT_noView _
     | exact simT_numberAt _
     | exact simT_behindNumber _
     | exact simT_byteOf _
     | exact simT_partAt _ _ _
     | exact simT_fieldPlace _ _
     | exact simT_alloc _ _ _
     | exact simT_loadAt _ _
     | exact simT_storeAt _ _ _
     | exact simT_fieldAt _ _ _
     | exact simT_indexAt _ _ _
     | exact simT_sliceBound _ _ _
     | exact simT_sliceBounds _ _ _ _ _ _
     | exact simT_slice _ _ _ _ _
     | refine Sim.getObjT (fun o _ _ _ => ?_) (fun o ho => ?_)
     | refine Sim.bindT ?_ (fun _ => ?_)
     | refine Sim.ite (fun _ => ?_) (fun _ => ?_)
    | split
    | dsimp only)

theorem simT_arrayAt (t : TypeId) (v : Value) : SimT V P (Instr.arrayAt t v) := by
  unfold Instr.arrayAt
  repeat' (first
    | (rcases sham_cases (by assumption) with rfl | rfl <;> (refine ⟨_, ?_, rfl⟩; trivial))
    | with_reducible first
     | exact simT_panicThen _ _
     | exact simT_stuckThen _ _
     | exact simT_unsupThen _ trivial
     | exact Sim.pureT
     | exact Sim.stuck
    | exact SimT.unsup trivial
    | with_reducible exact Sim.goPanic
    | exact simT_runtimePanic _
    | exact simT_boundsPanic _ _ _ _
    | with_reducible first
     | exact SimT.program
     | exact simT_typeInfo _
     | exact simT_underlying _
     | exact simT_zeroValue _
     | exact simT_sizeOf _
     | exact simT_isAgg _
     | exact simT_loadCells _ _
     | exact simT_storeCells _ _ _
     | exact simT_loadVar _ _
     | exact simT_storeVar _ _ _
     | exact simT_newRow _ _
     | exact simT_newVar _ _
     | exact simT_part _ _ _
     | exact simT_elemOf _
     | exact simT_asIntOf _
     | exact simT_asInt _
     | exact simT_asBool _
     | exact simT_asString _
     | exact simT_asAgg _
     | exact simT_asAddr _
     | exact simT_sureAddr _
     | exact simT_askRoom _
     | exact Sim.load _ _
     | exact Sim.shape _
     | exact Sim.choose _
     | exact simT_noView _
     | exact simT_numberAt _
     | exact simT_behindNumber _
     | exact simT_byteOf _
     | exact simT_partAt _ _ _
     | exact simT_fieldPlace _ _
     | exact simT_alloc _ _ _
     | exact simT_loadAt _ _
     | exact simT_storeAt _ _ _
     | exact simT_fieldAt _ _ _
     | exact simT_indexAt _ _ _
     | exact simT_sliceBound _ _ _
     | exact simT_sliceBounds _ _ _ _ _ _
     | exact simT_slice _ _ _ _ _
     | exact simT_sliceAt _ _ _ _ _
     | refine Sim.getObjT (fun o _ _ _ => ?_) (fun o ho => ?_)
     | refine Sim.bindT ?_ (fun _ => ?_)
     | refine Sim.ite (fun _ => ?_) (fun _ => ?_)
    | split
    | dsimp only)

theorem simT_box (t : TypeId) (v : Value) : SimT V P (Instr.box t v) := by
  unfold Instr.box
  repeat' (first
    | (rcases sham_cases (by assumption) with rfl | rfl <;> (refine ⟨_, ?_, rfl⟩; trivial))
    | with_reducible first
     | exact simT_panicThen _ _
     | exact simT_stuckThen _ _
     | exact simT_unsupThen _ trivial
     | exact Sim.pureT
     | exact Sim.stuck
    | exact SimT.unsup trivial
    | with_reducible exact Sim.goPanic
    | exact simT_runtimePanic _
    | exact simT_boundsPanic _ _ _ _
    | with_reducible first
     | exact SimT.program
     | exact simT_typeInfo _
     | exact simT_underlying _
     | exact simT_zeroValue _
     | exact simT_sizeOf _
     | exact simT_isAgg _
     | exact simT_loadCells _ _
     | exact simT_storeCells _ _ _
     | exact simT_loadVar _ _
     | exact simT_storeVar _ _ _
     | exact simT_newRow _ _
     | exact simT_newVar _ _
     | exact simT_part _ _ _
     | exact simT_elemOf _
     | exact simT_asIntOf _
     | exact simT_asInt _
     | exact simT_asBool _
     | exact simT_asString _
     | exact simT_asAgg _
     | exact simT_asAddr _
     | exact simT_sureAddr _
     | exact simT_askRoom _
     | exact Sim.load _ _
     | exact Sim.shape _
     | exact Sim.choose _
     | exact simT_noView _
     | exact simT_numberAt _
     | exact simT_behindNumber _
     | exact simT_byteOf _
     | exact simT_partAt _ _ _
     | exact simT_fieldPlace _ _
     | exact simT_alloc _ _ _
     | exact simT_loadAt _ _
     | exact simT_storeAt _ _ _
     | exact simT_fieldAt _ _ _
     | exact simT_indexAt _ _ _
     | exact simT_sliceBound _ _ _
     | exact simT_sliceBounds _ _ _ _ _ _
     | exact simT_slice _ _ _ _ _
     | exact simT_sliceAt _ _ _ _ _
     | exact simT_arrayAt _ _
     | refine Sim.getObjT (fun o _ _ _ => ?_) (fun o ho => ?_)
     | refine Sim.bindT ?_ (fun _ => ?_)
     | refine Sim.ite (fun _ => ?_) (fun _ => ?_)
    | split
    | dsimp only)

theorem simT_buildSlice (t : TypeId) (n : Nat) (p : Array (Nat × Value)) : SimT V P (Instr.buildSlice t n p) := by
  unfold Instr.buildSlice
  repeat' (first
    | (rcases sham_cases (by assumption) with rfl | rfl <;> (refine ⟨_, ?_, rfl⟩; trivial))
    | with_reducible first
     | exact simT_panicThen _ _
     | exact simT_stuckThen _ _
     | exact simT_unsupThen _ trivial
     | exact Sim.pureT
     | exact Sim.stuck
    | exact SimT.unsup trivial
    | with_reducible exact Sim.goPanic
    | exact simT_runtimePanic _
    | exact simT_boundsPanic _ _ _ _
    | with_reducible first
     | exact SimT.program
     | exact simT_typeInfo _
     | exact simT_underlying _
     | exact simT_zeroValue _
     | exact simT_sizeOf _
     | exact simT_isAgg _
     | exact simT_loadCells _ _
     | exact simT_storeCells _ _ _
     | exact simT_loadVar _ _
     | exact simT_storeVar _ _ _
     | exact simT_newRow _ _
     | exact simT_newVar _ _
     | exact simT_part _ _ _
     | exact simT_elemOf _
     | exact simT_asIntOf _
     | exact simT_asInt _
     | exact simT_asBool _
     | exact simT_asString _
     | exact simT_asAgg _
     | exact simT_asAddr _
     | exact simT_sureAddr _
     | exact simT_askRoom _
     | exact Sim.load _ _
     | exact Sim.shape _
     | exact Sim.choose _
     | exact simT_noView _
     | exact simT_numberAt _
     | exact simT_behindNumber _
     | exact simT_byteOf _
     | exact simT_partAt _ _ _
     | exact simT_fieldPlace _ _
     | exact simT_alloc _ _ _
     | exact simT_loadAt _ _
     | exact simT_storeAt _ _ _
     | exact simT_fieldAt _ _ _
     | exact simT_indexAt _ _ _
     | exact simT_sliceBound _ _ _
     | exact simT_sliceBounds _ _ _ _ _ _
     | exact simT_slice _ _ _ _ _
     | exact simT_sliceAt _ _ _ _ _
     | exact simT_arrayAt _ _
     | exact simT_box _ _
     | refine Sim.getObjT (fun o _ _ _ => ?_) (fun o ho => ?_)
     | refine Sim.bindT ?_ (fun _ => ?_)
     | refine Sim.ite (fun _ => ?_) (fun _ => ?_)
    | split
    | dsimp only)

theorem simT_makeInterface (t : TypeId) (v : Value) : SimT V P (Instr.makeInterface t v) := by
  unfold Instr.makeInterface
  repeat' (first
    | (rcases sham_cases (by assumption) with rfl | rfl <;> (refine ⟨_, ?_, rfl⟩; trivial))
    | with_reducible first
     | exact simT_panicThen _ _
     | exact simT_stuckThen _ _
     | exact simT_unsupThen _ trivial
     | exact Sim.pureT
     | exact Sim.stuck
    | exact SimT.unsup trivial
    | with_reducible exact Sim.goPanic
    | exact simT_runtimePanic _
    | exact simT_boundsPanic _ _ _ _
    | with_reducible first
     | exact SimT.program
     | exact simT_typeInfo _
     | exact simT_underlying _
     | exact simT_zeroValue _
     | exact simT_sizeOf _
     | exact simT_isAgg _
     | exact simT_loadCells _ _
     | exact simT_storeCells _ _ _
     | exact simT_loadVar _ _
     | exact simT_storeVar _ _ _
     | exact simT_newRow _ _
     | exact simT_newVar _ _
     | exact simT_part _ _ _
     | exact simT_elemOf _
     | exact simT_asIntOf _
     | exact simT_asInt _
     | exact simT_asBool _
     | exact simT_asString _
     | exact simT_asAgg _
     | exact simT_asAddr _
     | exact simT_sureAddr _
     | exact simT_askRoom _
     | exact Sim.load _ _
     | exact Sim.shape _
     | exact Sim.choose _
     | exact simT_noView _
     | exact simT_numberAt _
     | exact simT_behindNumber _
     | exact simT_byteOf _
     | exact simT_partAt _ _ _
     | exact simT_fieldPlace _ _
     | exact simT_alloc _ _ _
     | exact simT_loadAt _ _
     | exact simT_storeAt _ _ _
     | exact simT_fieldAt _ _ _
     | exact simT_indexAt _ _ _
     | exact simT_sliceBound _ _ _
     | exact simT_sliceBounds _ _ _ _ _ _
     | exact simT_slice _ _ _ _ _
     | exact simT_sliceAt _ _ _ _ _
     | exact simT_arrayAt _ _
     | exact simT_box _ _
     | exact simT_buildSlice _ _ _
     | refine Sim.getObjT (fun o _ _ _ => ?_) (fun o ho => ?_)
     | refine Sim.bindT ?_ (fun _ => ?_)
     | refine Sim.ite (fun _ => ?_) (fun _ => ?_)
    | split
    | dsimp only)

theorem simT_makeFunc (f : Fn) (x y : Array Value) : SimT V P (Instr.makeFunc f x y) := by
  unfold Instr.makeFunc
  repeat' (first
    | (rcases sham_cases (by assumption) with rfl | rfl <;> (refine ⟨_, ?_, rfl⟩; trivial))
    | with_reducible first
     | exact simT_panicThen _ _
     | exact simT_stuckThen _ _
     | exact simT_unsupThen _ trivial
     | exact Sim.pureT
     | exact Sim.stuck
    | exact SimT.unsup trivial
    | with_reducible exact Sim.goPanic
    | exact simT_runtimePanic _
    | exact simT_boundsPanic _ _ _ _
    | with_reducible first
     | exact SimT.program
     | exact simT_typeInfo _
     | exact simT_underlying _
     | exact simT_zeroValue _
     | exact simT_sizeOf _
     | exact simT_isAgg _
     | exact simT_loadCells _ _
     | exact simT_storeCells _ _ _
     | exact simT_loadVar _ _
     | exact simT_storeVar _ _ _
     | exact simT_newRow _ _
     | exact simT_newVar _ _
     | exact simT_part _ _ _
     | exact simT_elemOf _
     | exact simT_asIntOf _
     | exact simT_asInt _
     | exact simT_asBool _
     | exact simT_asString _
     | exact simT_asAgg _
     | exact simT_asAddr _
     | exact simT_sureAddr _
     | exact simT_askRoom _
     | exact Sim.load _ _
     | exact Sim.shape _
     | exact Sim.choose _
     | exact simT_noView _
     | exact simT_numberAt _
     | exact simT_behindNumber _
     | exact simT_byteOf _
     | exact simT_partAt _ _ _
     | exact simT_fieldPlace _ _
     | exact simT_alloc _ _ _
     | exact simT_loadAt _ _
     | exact simT_storeAt _ _ _
     | exact simT_fieldAt _ _ _
     | exact simT_indexAt _ _ _
     | exact simT_sliceBound _ _ _
     | exact simT_sliceBounds _ _ _ _ _ _
     | exact simT_slice _ _ _ _ _
     | exact simT_sliceAt _ _ _ _ _
     | exact simT_arrayAt _ _
     | exact simT_box _ _
     | exact simT_buildSlice _ _ _
     | exact simT_makeInterface _ _
     | refine Sim.getObjT (fun o _ _ _ => ?_) (fun o ho => ?_)
     | refine Sim.bindT ?_ (fun _ => ?_)
     | refine Sim.ite (fun _ => ?_) (fun _ => ?_)
    | split
    | dsimp only)

theorem simT_makeChan (t : TypeId) (v : Value) : SimT V P (Instr.makeChan t v) := by
  unfold Instr.makeChan
  repeat' (first
    | (rcases sham_cases (by assumption) with rfl | rfl <;> (refine ⟨_, ?_, rfl⟩; trivial))
    | exact SimT.newObj _ trivial
    | with_reducible first
     | exact simT_panicThen _ _
     | exact simT_stuckThen _ _
     | exact simT_unsupThen _ trivial
     | exact Sim.pureT
     | exact Sim.stuck
    | exact SimT.unsup trivial
    | with_reducible exact Sim.goPanic
    | exact simT_runtimePanic _
    | exact simT_boundsPanic _ _ _ _
    | with_reducible first
     | exact SimT.program
     | exact simT_typeInfo _
     | exact simT_underlying _
     | exact simT_zeroValue _
     | exact simT_sizeOf _
     | exact simT_isAgg _
     | exact simT_loadCells _ _
     | exact simT_storeCells _ _ _
     | exact simT_loadVar _ _
     | exact simT_storeVar _ _ _
     | exact simT_newRow _ _
     | exact simT_newVar _ _
     | exact simT_part _ _ _
     | exact simT_elemOf _
     | exact simT_asIntOf _
     | exact simT_asInt _
     | exact simT_asBool _
     | exact simT_asString _
     | exact simT_asAgg _
     | exact simT_asAddr _
     | exact simT_sureAddr _
     | exact simT_askRoom _
     | exact Sim.load _ _
     | exact Sim.shape _
     | exact Sim.choose _
     | exact simT_noView _
     | exact simT_numberAt _
     | exact simT_behindNumber _
     | exact simT_byteOf _
     | exact simT_partAt _ _ _
     | exact simT_fieldPlace _ _
     | exact simT_alloc _ _ _
     | exact simT_loadAt _ _
     | exact simT_storeAt _ _ _
     | exact simT_fieldAt _ _ _
     | exact simT_indexAt _ _ _
     | exact simT_sliceBound _ _ _
     | exact simT_sliceBounds _ _ _ _ _ _
     | exact simT_slice _ _ _ _ _
     | exact simT_sliceAt _ _ _ _ _
     | exact simT_arrayAt _ _
     | exact simT_box _ _
     | exact simT_buildSlice _ _ _
     | exact simT_makeInterface _ _
     | exact simT_makeFunc _ _ _
     | refine Sim.getObjT (fun o _ _ _ => ?_) (fun o ho => ?_)
     | refine Sim.bindT ?_ (fun _ => ?_)
     | refine Sim.ite (fun _ => ?_) (fun _ => ?_)
    | split
    | dsimp only)

theorem simT_makeSlice (t : TypeId) (l c : Value) : SimT V P (Instr.makeSlice t l c) := by
  unfold Instr.makeSlice
  repeat' (first
    | (rcases sham_cases (by assumption) with rfl | rfl <;> (refine ⟨_, ?_, rfl⟩; trivial))
    | with_reducible first
     | exact simT_panicThen _ _
     | exact simT_stuckThen _ _
     | exact simT_unsupThen _ trivial
     | exact Sim.pureT
     | exact Sim.stuck
    | exact SimT.unsup trivial
    | with_reducible exact Sim.goPanic
    | exact simT_runtimePanic _
    | exact simT_boundsPanic _ _ _ _
    | with_reducible first
     | exact SimT.program
     | exact simT_typeInfo _
     | exact simT_underlying _
     | exact simT_zeroValue _
     | exact simT_sizeOf _
     | exact simT_isAgg _
     | exact simT_loadCells _ _
     | exact simT_storeCells _ _ _
     | exact simT_loadVar _ _
     | exact simT_storeVar _ _ _
     | exact simT_newRow _ _
     | exact simT_newVar _ _
     | exact simT_part _ _ _
     | exact simT_elemOf _
     | exact simT_asIntOf _
     | exact simT_asInt _
     | exact simT_asBool _
     | exact simT_asString _
     | exact simT_asAgg _
     | exact simT_asAddr _
     | exact simT_sureAddr _
     | exact simT_askRoom _
     | exact Sim.load _ _
     | exact Sim.shape _
     | exact Sim.choose _
     | exact simT_noView _
     | exact simT_numberAt _
     | exact simT_behindNumber _
     | exact simT_byteOf _
     | exact simT_partAt _ _ _
     | exact simT_fieldPlace _ _
     | exact simT_alloc _ _ _
     | exact simT_loadAt _ _
     | exact simT_storeAt _ _ _
     | exact simT_fieldAt _ _ _
     | exact simT_indexAt _ _ _
     | exact simT_sliceBound _ _ _
     | exact simT_sliceBounds _ _ _ _ _ _
     | exact simT_slice _ _ _ _ _
     | exact simT_sliceAt _ _ _ _ _
     | exact simT_arrayAt _ _
     | exact simT_box _ _
     | exact simT_buildSlice _ _ _
     | exact simT_makeInterface _ _
     | exact simT_makeFunc _ _ _
     | exact simT_makeChan _ _
     | refine Sim.getObjT (fun o _ _ _ => ?_) (fun o ho => ?_)
     | refine Sim.bindT ?_ (fun _ => ?_)
     | refine Sim.ite (fun _ => ?_) (fun _ => ?_)
    | split
    | dsimp only)

theorem simT_field (t : TypeId) (v : Value) (f : Nat) : SimT V P (Instr.field t v f) := by
  unfold Instr.field
  repeat' (first
    | (rcases sham_cases (by assumption) with rfl | rfl <;> (refine ⟨_, ?_, rfl⟩; trivial))
    | with_reducible first
     | exact simT_panicThen _ _
     | exact simT_stuckThen _ _
     | exact simT_unsupThen _ trivial
     | exact Sim.pureT
     | exact Sim.stuck
    | exact SimT.unsup trivial
    | with_reducible exact Sim.goPanic
    | exact simT_runtimePanic _
    | exact simT_boundsPanic _ _ _ _
    | with_reducible first
     | exact SimT.program
     | exact simT_typeInfo _
     | exact simT_underlying _
     | exact simT_zeroValue _
     | exact simT_sizeOf _
     | exact simT_isAgg _
     | exact simT_loadCells _ _
     | exact simT_storeCells _ _ _
     | exact simT_loadVar _ _
     | exact simT_storeVar _ _ _
     | exact simT_newRow _ _
     | exact simT_newVar _ _
     | exact simT_part _ _ _
     | exact simT_elemOf _
     | exact simT_asIntOf _
     | exact simT_asInt _
     | exact simT_asBool _
     | exact simT_asString _
     | exact simT_asAgg _
     | exact simT_asAddr _
     | exact simT_sureAddr _
     | exact simT_askRoom _
     | exact Sim.load _ _
     | exact Sim.shape _
     | exact Sim.choose _
     | exact simT_noView _
     | exact simT_numberAt _
     | exact simT_behindNumber _
     | exact simT_byteOf _
     | exact simT_partAt _ _ _
     | exact simT_fieldPlace _ _
     | exact simT_alloc _ _ _
     | exact simT_loadAt _ _
     | exact simT_storeAt _ _ _
     | exact simT_fieldAt _ _ _
     | exact simT_indexAt _ _ _
     | exact simT_sliceBound _ _ _
     | exact simT_sliceBounds _ _ _ _ _ _
     | exact simT_slice _ _ _ _ _
     | exact simT_sliceAt _ _ _ _ _
     | exact simT_arrayAt _ _
     | exact simT_box _ _
     | exact simT_buildSlice _ _ _
     | exact simT_makeInterface _ _
     | exact simT_makeFunc _ _ _
     | exact simT_makeChan _ _
     | exact simT_makeSlice _ _ _
     | refine Sim.getObjT (fun o _ _ _ => ?_) (fun o ho => ?_)
     | refine Sim.bindT ?_ (fun _ => ?_)
     | refine Sim.ite (fun _ => ?_) (fun _ => ?_)
    | split
    | dsimp only)

theorem simT_index (t : TypeId) (x i : Value) : SimT V P (Instr.index t x i) := by
  unfold Instr.index
  repeat' (first
    | (rcases sham_cases (by assumption) with rfl | rfl <;> (refine ⟨_, ?_, rfl⟩; trivial))
    | with_reducible first
     | exact simT_panicThen _ _
     | exact simT_stuckThen _ _
     | exact simT_unsupThen _ trivial
     | exact Sim.pureT
     | exact Sim.stuck
    | exact SimT.unsup trivial
    | with_reducible exact Sim.goPanic
    | exact simT_runtimePanic _
    | exact simT_boundsPanic _ _ _ _
    | with_reducible first
     | exact SimT.program
     | exact simT_typeInfo _
     | exact simT_underlying _
     | exact simT_zeroValue _
     | exact simT_sizeOf _
     | exact simT_isAgg _
     | exact simT_loadCells _ _
     | exact simT_storeCells _ _ _
     | exact simT_loadVar _ _
     | exact simT_storeVar _ _ _
     | exact simT_newRow _ _
     | exact simT_newVar _ _
     | exact simT_part _ _ _
     | exact simT_elemOf _
     | exact simT_asIntOf _
     | exact simT_asInt _
     | exact simT_asBool _
     | exact simT_asString _
     | exact simT_asAgg _
     | exact simT_asAddr _
     | exact simT_sureAddr _
     | exact simT_askRoom _
     | exact Sim.load _ _
     | exact Sim.shape _
     | exact Sim.choose _
     | exact simT_noView _
     | exact simT_numberAt _
     | exact simT_behindNumber _
     | exact simT_byteOf _
     | exact simT_partAt _ _ _
     | exact simT_fieldPlace _ _
     | exact simT_alloc _ _ _
     | exact simT_loadAt _ _
     | exact simT_storeAt _ _ _
     | exact simT_fieldAt _ _ _
     | exact simT_indexAt _ _ _
     | exact simT_sliceBound _ _ _
     | exact simT_sliceBounds _ _ _ _ _ _
     | exact simT_slice _ _ _ _ _
     | exact simT_sliceAt _ _ _ _ _
     | exact simT_arrayAt _ _
     | exact simT_box _ _
     | exact simT_buildSlice _ _ _
     | exact simT_makeInterface _ _
     | exact simT_makeFunc _ _ _
     | exact simT_makeChan _ _
     | exact simT_makeSlice _ _ _
     | exact simT_field _ _ _
     | refine Sim.getObjT (fun o _ _ _ => ?_) (fun o ho => ?_)
     | refine Sim.bindT ?_ (fun _ => ?_)
     | refine Sim.ite (fun _ => ?_) (fun _ => ?_)
    | split
    | dsimp only)

theorem simT_typeAssert (x : Value) (t a : TypeId) (b : Bool) : SimT V P (Instr.typeAssert x t a b) := by
  unfold Instr.typeAssert
  repeat' (first
    | (rcases sham_cases (by assumption) with rfl | rfl <;> (refine ⟨_, ?_, rfl⟩; trivial))
    | with_reducible first
     | exact simT_panicThen _ _
     | exact simT_stuckThen _ _
     | exact simT_unsupThen _ trivial
     | exact Sim.pureT
     | exact Sim.stuck
    | exact SimT.unsup trivial
    | with_reducible exact Sim.goPanic
    | exact simT_runtimePanic _
    | exact simT_boundsPanic _ _ _ _
    | with_reducible first
     | exact SimT.program
     | exact simT_typeInfo _
     | exact simT_underlying _
     | exact simT_zeroValue _
     | exact simT_sizeOf _
     | exact simT_isAgg _
     | exact simT_loadCells _ _
     | exact simT_storeCells _ _ _
     | exact simT_loadVar _ _
     | exact simT_storeVar _ _ _
     | exact simT_newRow _ _
     | exact simT_newVar _ _
     | exact simT_part _ _ _
     | exact simT_elemOf _
     | exact simT_asIntOf _
     | exact simT_asInt _
     | exact simT_asBool _
     | exact simT_asString _
     | exact simT_asAgg _
     | exact simT_asAddr _
     | exact simT_sureAddr _
     | exact simT_askRoom _
     | exact Sim.load _ _
     | exact Sim.shape _
     | exact Sim.choose _
     | exact simT_noView _
     | exact simT_numberAt _
     | exact simT_behindNumber _
     | exact simT_byteOf _
     | exact simT_partAt _ _ _
     | exact simT_fieldPlace _ _
     | exact simT_alloc _ _ _
     | exact simT_loadAt _ _
     | exact simT_storeAt _ _ _
     | exact simT_fieldAt _ _ _
     | exact simT_indexAt _ _ _
     | exact simT_sliceBound _ _ _
     | exact simT_sliceBounds _ _ _ _ _ _
     | exact simT_slice _ _ _ _ _
     | exact simT_sliceAt _ _ _ _ _
     | exact simT_arrayAt _ _
     | exact simT_box _ _
     | exact simT_buildSlice _ _ _
     | exact simT_makeInterface _ _
     | exact simT_makeFunc _ _ _
     | exact simT_makeChan _ _
     | exact simT_makeSlice _ _ _
     | exact simT_field _ _ _
     | exact simT_index _ _ _
     | refine Sim.getObjT (fun o _ _ _ => ?_) (fun o ho => ?_)
     | refine Sim.bindT ?_ (fun _ => ?_)
     | refine Sim.ite (fun _ => ?_) (fun _ => ?_)
    | split
    | dsimp only)

theorem simT_extract (x : Value) (i : Nat) : SimT V P (Instr.extract x i) := by
  unfold Instr.extract
  repeat' (first
    | (rcases sham_cases (by assumption) with rfl | rfl <;> (refine ⟨_, ?_, rfl⟩; trivial))
    | with_reducible first
     | exact simT_panicThen _ _
     | exact simT_stuckThen _ _
     | exact simT_unsupThen _ trivial
     | exact Sim.pureT
     | exact Sim.stuck
    | exact SimT.unsup trivial
    | with_reducible exact Sim.goPanic
    | exact simT_runtimePanic _
    | exact simT_boundsPanic _ _ _ _
    | with_reducible first
     | exact SimT.program
     | exact simT_typeInfo _
     | exact simT_underlying _
     | exact simT_zeroValue _
     | exact simT_sizeOf _
     | exact simT_isAgg _
     | exact simT_loadCells _ _
     | exact simT_storeCells _ _ _
     | exact simT_loadVar _ _
     | exact simT_storeVar _ _ _
     | exact simT_newRow _ _
     | exact simT_newVar _ _
     | exact simT_part _ _ _
     | exact simT_elemOf _
     | exact simT_asIntOf _
     | exact simT_asInt _
     | exact simT_asBool _
     | exact simT_asString _
     | exact simT_asAgg _
     | exact simT_asAddr _
     | exact simT_sureAddr _
     | exact simT_askRoom _
     | exact Sim.load _ _
     | exact Sim.shape _
     | exact Sim.choose _
     | exact simT_noView _
     | exact simT_numberAt _
     | exact simT_behindNumber _
     | exact simT_byteOf _
     | exact simT_partAt _ _ _
     | exact simT_fieldPlace _ _
     | exact simT_alloc _ _ _
     | exact simT_loadAt _ _
     | exact simT_storeAt _ _ _
     | exact simT_fieldAt _ _ _
     | exact simT_indexAt _ _ _
     | exact simT_sliceBound _ _ _
     | exact simT_sliceBounds _ _ _ _ _ _
     | exact simT_slice _ _ _ _ _
     | exact simT_sliceAt _ _ _ _ _
     | exact simT_arrayAt _ _
     | exact simT_box _ _
     | exact simT_buildSlice _ _ _
     | exact simT_makeInterface _ _
     | exact simT_makeFunc _ _ _
     | exact simT_makeChan _ _
     | exact simT_makeSlice _ _ _
     | exact simT_field _ _ _
     | exact simT_index _ _ _
     | exact simT_typeAssert _ _ _ _
     | refine Sim.getObjT (fun o _ _ _ => ?_) (fun o ho => ?_)
     | refine Sim.bindT ?_ (fun _ => ?_)
     | refine Sim.ite (fun _ => ?_) (fun _ => ?_)
    | split
    | dsimp only)

theorem simT_intArith (o : BinOp) (k : IntKind) (x y : Int) : SimT V P (Op.intArith o k x y) := by
  unfold Op.intArith
  repeat' (first
    | (rcases sham_cases (by assumption) with rfl | rfl <;> (refine ⟨_, ?_, rfl⟩; trivial))
    | with_reducible first
     | exact simT_panicThen _ _
     | exact simT_stuckThen _ _
     | exact simT_unsupThen _ trivial
     | exact Sim.pureT
     | exact Sim.stuck
    | exact SimT.unsup trivial
    | with_reducible exact Sim.goPanic
    | exact simT_runtimePanic _
    | exact simT_boundsPanic _ _ _ _
    | with_reducible first
     | exact SimT.program
     | exact simT_typeInfo _
     | exact simT_underlying _
     | exact simT_zeroValue _
     | exact simT_sizeOf _
     | exact simT_isAgg _
     | exact simT_loadCells _ _
     | exact simT_storeCells _ _ _
     | exact simT_loadVar _ _
     | exact simT_storeVar _ _ _
     | exact simT_newRow _ _
     | exact simT_newVar _ _
     | exact simT_part _ _ _
     | exact simT_elemOf _
     | exact simT_asIntOf _
     | exact simT_asInt _
     | exact simT_asBool _
     | exact simT_asString _
     | exact simT_asAgg _
     | exact simT_asAddr _
     | exact simT_sureAddr _
     | exact simT_askRoom _
     | exact Sim.load _ _
     | exact Sim.shape _
     | exact Sim.choose _
     | exact simT_noView _
     | exact simT_numberAt _
     | exact simT_behindNumber _
     | exact simT_byteOf _
     | exact simT_partAt _ _ _
     | exact simT_fieldPlace _ _
     | exact simT_alloc _ _ _
     | exact simT_loadAt _ _
     | exact simT_storeAt _ _ _
     | exact simT_fieldAt _ _ _
     | exact simT_indexAt _ _ _
     | exact simT_sliceBound _ _ _
     | exact simT_sliceBounds _ _ _ _ _ _
     | exact simT_slice _ _ _ _ _
     | exact simT_sliceAt _ _ _ _ _
     | exact simT_arrayAt _ _
     | exact simT_box _ _
     | exact simT_buildSlice _ _ _
     | exact simT_makeInterface _ _
     | exact simT_makeFunc _ _ _
     | exact simT_makeChan _ _
     | exact simT_makeSlice _ _ _
     | exact simT_field _ _ _
     | exact simT_index _ _ _
     | exact simT_typeAssert _ _ _ _
     | exact simT_extract _ _
     | refine Sim.getObjT (fun o _ _ _ => ?_) (fun o ho => ?_)
     | refine Sim.bindT ?_ (fun _ => ?_)
     | refine Sim.ite (fun _ => ?_) (fun _ => ?_)
    | split
    | dsimp only)

theorem simT_intDiv (o : BinOp) (k : IntKind) (x y : Int) : SimT V P (Op.intDiv o k x y) := by
  unfold Op.intDiv
  repeat' (first
    | (rcases sham_cases (by assumption) with rfl | rfl <;> (refine ⟨_, ?_, rfl⟩; trivial))
    | with_reducible first
     | exact simT_panicThen _ _
     | exact simT_stuckThen _ _
     | exact simT_unsupThen _ trivial
     | exact Sim.pureT
     | exact Sim.stuck
    | exact SimT.unsup trivial
    | with_reducible exact Sim.goPanic
    | exact simT_runtimePanic _
    | exact simT_boundsPanic _ _ _ _
    | with_reducible first
     | exact SimT.program
     | exact simT_typeInfo _
     | exact simT_underlying _
     | exact simT_zeroValue _
     | exact simT_sizeOf _
     | exact simT_isAgg _
     | exact simT_loadCells _ _
     | exact simT_storeCells _ _ _
     | exact simT_loadVar _ _
     | exact simT_storeVar _ _ _
     | exact simT_newRow _ _
     | exact simT_newVar _ _
     | exact simT_part _ _ _
     | exact simT_elemOf _
     | exact simT_asIntOf _
     | exact simT_asInt _
     | exact simT_asBool _
     | exact simT_asString _
     | exact simT_asAgg _
     | exact simT_asAddr _
     | exact simT_sureAddr _
     | exact simT_askRoom _
     | exact Sim.load _ _
     | exact Sim.shape _
     | exact Sim.choose _
     | exact simT_noView _
     | exact simT_numberAt _
     | exact simT_behindNumber _
     | exact simT_byteOf _
     | exact simT_partAt _ _ _
     | exact simT_fieldPlace _ _
     | exact simT_alloc _ _ _
     | exact simT_loadAt _ _
     | exact simT_storeAt _ _ _
     | exact simT_fieldAt _ _ _
     | exact simT_indexAt _ _ _
     | exact simT_sliceBound _ _ _
     | exact simT_sliceBounds _ _ _ _ _ _
     | exact simT_slice _ _ _ _ _
     | exact simT_sliceAt _ _ _ _ _
     | exact simT_arrayAt _ _
     | exact simT_box _ _
     | exact simT_buildSlice _ _ _
     | exact simT_makeInterface _ _
     | exact simT_makeFunc _ _ _
     | exact simT_makeChan _ _
     | exact simT_makeSlice _ _ _
     | exact simT_field _ _ _
     | exact simT_index _ _ _
     | exact simT_typeAssert _ _ _ _
     | exact simT_extract _ _
     | exact simT_intArith _ _ _ _
     | refine Sim.getObjT (fun o _ _ _ => ?_) (fun o ho => ?_)
     | refine Sim.bindT ?_ (fun _ => ?_)
     | refine Sim.ite (fun _ => ?_) (fun _ => ?_)
    | split
    | dsimp only)

theorem simT_intBits (o : BinOp) (k : IntKind) (x y : Int) : SimT V P (Op.intBits o k x y) := by
  unfold Op.intBits
  repeat' (first
    | (rcases sham_cases (by assumption) with rfl | rfl <;> (refine ⟨_, ?_, rfl⟩; trivial))
    | with_reducible first
     | exact simT_panicThen _ _
     | exact simT_stuckThen _ _
     | exact simT_unsupThen _ trivial
     | exact Sim.pureT
     | exact Sim.stuck
    | exact SimT.unsup trivial
    | with_reducible exact Sim.goPanic
    | exact simT_runtimePanic _
    | exact simT_boundsPanic _ _ _ _
    | with_reducible first
     | exact SimT.program
     | exact simT_typeInfo _
     | exact simT_underlying _
     | exact simT_zeroValue _
     | exact simT_sizeOf _
     | exact simT_isAgg _
     | exact simT_loadCells _ _
     | exact simT_storeCells _ _ _
     | exact simT_loadVar _ _
     | exact simT_storeVar _ _ _
     | exact simT_newRow _ _
     | exact simT_newVar _ _
     | exact simT_part _ _ _
     | exact simT_elemOf _
     | exact simT_asIntOf _
     | exact simT_asInt _
     | exact simT_asBool _
     | exact simT_asString _
     | exact simT_asAgg _
     | exact simT_asAddr _
     | exact simT_sureAddr _
     | exact simT_askRoom _
     | exact Sim.load _ _
     | exact Sim.shape _
     | exact Sim.choose _
     | exact simT_noView _
     | exact simT_numberAt _
     | exact simT_behindNumber _
     | exact simT_byteOf _
     | exact simT_partAt _ _ _
     | exact simT_fieldPlace _ _
     | exact simT_alloc _ _ _
     | exact simT_loadAt _ _
     | exact simT_storeAt _ _ _
     | exact simT_fieldAt _ _ _
     | exact simT_indexAt _ _ _
     | exact simT_sliceBound _ _ _
     | exact simT_sliceBounds _ _ _ _ _ _
     | exact simT_slice _ _ _ _ _
     | exact simT_sliceAt _ _ _ _ _
     | exact simT_arrayAt _ _
     | exact simT_box _ _
     | exact simT_buildSlice _ _ _
     | exact simT_makeInterface _ _
     | exact simT_makeFunc _ _ _
     | exact simT_makeChan _ _
     | exact simT_makeSlice _ _ _
     | exact simT_field _ _ _
     | exact simT_index _ _ _
     | exact simT_typeAssert _ _ _ _
     | exact simT_extract _ _
     | exact simT_intArith _ _ _ _
     | exact simT_intDiv _ _ _ _
     | refine Sim.getObjT (fun o _ _ _ => ?_) (fun o ho => ?_)
     | refine Sim.bindT ?_ (fun _ => ?_)
     | refine Sim.ite (fun _ => ?_) (fun _ => ?_)
    | split
    | dsimp only)

theorem simT_shift (o : BinOp) (k : IntKind) (x : Int) (k' : IntKind) (y : Int) : SimT V P (Op.shift o k x k' y) := by
  unfold Op.shift
  repeat' (first
    | (rcases sham_cases (by assumption) with rfl | rfl <;> (refine ⟨_, ?_, rfl⟩; trivial))
    | with_reducible first
     | exact simT_panicThen _ _
     | exact simT_stuckThen _ _
     | exact simT_unsupThen _ trivial
     | exact Sim.pureT
     | exact Sim.stuck
    | exact SimT.unsup trivial
    | with_reducible exact Sim.goPanic
    | exact simT_runtimePanic _
    | exact simT_boundsPanic _ _ _ _
    | with_reducible first
     | exact SimT.program
     | exact simT_typeInfo _
     | exact simT_underlying _
     | exact simT_zeroValue _
     | exact simT_sizeOf _
     | exact simT_isAgg _
     | exact simT_loadCells _ _
     | exact simT_storeCells _ _ _
     | exact simT_loadVar _ _
     | exact simT_storeVar _ _ _
     | exact simT_newRow _ _
     | exact simT_newVar _ _
     | exact simT_part _ _ _
     | exact simT_elemOf _
     | exact simT_asIntOf _
     | exact simT_asInt _
     | exact simT_asBool _
     | exact simT_asString _
     | exact simT_asAgg _
     | exact simT_asAddr _
     | exact simT_sureAddr _
     | exact simT_askRoom _
     | exact Sim.load _ _
     | exact Sim.shape _
     | exact Sim.choose _
     | exact simT_noView _
     | exact simT_numberAt _
     | exact simT_behindNumber _
     | exact simT_byteOf _
     | exact simT_partAt _ _ _
     | exact simT_fieldPlace _ _
     | exact simT_alloc _ _ _
     | exact simT_loadAt _ _
     | exact simT_storeAt _ _ _
     | exact simT_fieldAt _ _ _
     | exact simT_indexAt _ _ _
     | exact simT_sliceBound _ _ _
     | exact simT_sliceBounds _ _ _ _ _ _
     | exact simT_slice _ _ _ _ _
     | exact simT_sliceAt _ _ _ _ _
     | exact simT_arrayAt _ _
     | exact simT_box _ _
     | exact simT_buildSlice _ _ _
     | exact simT_makeInterface _ _
     | exact simT_makeFunc _ _ _
     | exact simT_makeChan _ _
     | exact simT_makeSlice _ _ _
     | exact simT_field _ _ _
     | exact simT_index _ _ _
     | exact simT_typeAssert _ _ _ _
     | exact simT_extract _ _
     | exact simT_intArith _ _ _ _
     | exact simT_intDiv _ _ _ _
     | exact simT_intBits _ _ _ _
     | refine Sim.getObjT (fun o _ _ _ => ?_) (fun o ho => ?_)
     | refine Sim.bindT ?_ (fun _ => ?_)
     | refine Sim.ite (fun _ => ?_) (fun _ => ?_)
    | split
    | dsimp only)

theorem simT_intCmp (o : BinOp) (x y : Int) : SimT V P (Op.intCmp o x y) := by
  unfold Op.intCmp
  repeat' (first
    | (rcases sham_cases (by assumption) with rfl | rfl <;> (refine ⟨_, ?_, rfl⟩; trivial))
    | with_reducible first
     | exact simT_panicThen _ _
     | exact simT_stuckThen _ _
     | exact simT_unsupThen _ trivial
     | exact Sim.pureT
     | exact Sim.stuck
    | exact SimT.unsup trivial
    | with_reducible exact Sim.goPanic
    | exact simT_runtimePanic _
    | exact simT_boundsPanic _ _ _ _
    | with_reducible first
     | exact SimT.program
     | exact simT_typeInfo _
     | exact simT_underlying _
     | exact simT_zeroValue _
     | exact simT_sizeOf _
     | exact simT_isAgg _
     | exact simT_loadCells _ _
     | exact simT_storeCells _ _ _
     | exact simT_loadVar _ _
     | exact simT_storeVar _ _ _
     | exact simT_newRow _ _
     | exact simT_newVar _ _
     | exact simT_part _ _ _
     | exact simT_elemOf _
     | exact simT_asIntOf _
     | exact simT_asInt _
     | exact simT_asBool _
     | exact simT_asString _
     | exact simT_asAgg _
     | exact simT_asAddr _
     | exact simT_sureAddr _
     | exact simT_askRoom _
     | exact Sim.load _ _
     | exact Sim.shape _
     | exact Sim.choose _
     | exact simT_noView _
     | exact simT_numberAt _
     | exact simT_behindNumber _
     | exact simT_byteOf _
     | exact simT_partAt _ _ _
     | exact simT_fieldPlace _ _
     | exact simT_alloc _ _ _
     | exact simT_loadAt _ _
     | exact simT_storeAt _ _ _
     | exact simT_fieldAt _ _ _
     | exact simT_indexAt _ _ _
     | exact simT_sliceBound _ _ _
     | exact simT_sliceBounds _ _ _ _ _ _
     | exact simT_slice _ _ _ _ _
     | exact simT_sliceAt _ _ _ _ _
     | exact simT_arrayAt _ _
     | exact simT_box _ _
     | exact simT_buildSlice _ _ _
     | exact simT_makeInterface _ _
     | exact simT_makeFunc _ _ _
     | exact simT_makeChan _ _
     | exact simT_makeSlice _ _ _
     | exact simT_field _ _ _
     | exact simT_index _ _ _
     | exact simT_typeAssert _ _ _ _
     | exact simT_extract _ _
     | exact simT_intArith _ _ _ _
     | exact simT_intDiv _ _ _ _
     | exact simT_intBits _ _ _ _
     | exact simT_shift _ _ _ _ _
     | refine Sim.getObjT (fun o _ _ _ => ?_) (fun o ho => ?_)
     | refine Sim.bindT ?_ (fun _ => ?_)
     | refine Sim.ite (fun _ => ?_) (fun _ => ?_)
    | split
    | dsimp only)

theorem simT_stringOp (o : BinOp) (x y : ByteArray) : SimT V P (Op.stringOp o x y) := by
  unfold Op.stringOp
  repeat' (first
    | (rcases sham_cases (by assumption) with rfl | rfl <;> (refine ⟨_, ?_, rfl⟩; trivial))
    | with_reducible first
     | exact simT_panicThen _ _
     | exact simT_stuckThen _ _
     | exact simT_unsupThen _ trivial
     | exact Sim.pureT
     | exact Sim.stuck
    | exact SimT.unsup trivial
    | with_reducible exact Sim.goPanic
    | exact simT_runtimePanic _
    | exact simT_boundsPanic _ _ _ _
    | with_reducible first
     | exact SimT.program
     | exact simT_typeInfo _
     | exact simT_underlying _
     | exact simT_zeroValue _
     | exact simT_sizeOf _
     | exact simT_isAgg _
     | exact simT_loadCells _ _
     | exact simT_storeCells _ _ _
     | exact simT_loadVar _ _
     | exact simT_storeVar _ _ _
     | exact simT_newRow _ _
     | exact simT_newVar _ _
     | exact simT_part _ _ _
     | exact simT_elemOf _
     | exact simT_asIntOf _
     | exact simT_asInt _
     | exact simT_asBool _
     | exact simT_asString _
     | exact simT_asAgg _
     | exact simT_asAddr _
     | exact simT_sureAddr _
     | exact simT_askRoom _
     | exact Sim.load _ _
     | exact Sim.shape _
     | exact Sim.choose _
     | exact simT_noView _
     | exact simT_numberAt _
     | exact simT_behindNumber _
     | exact simT_byteOf _
     | exact simT_partAt _ _ _
     | exact simT_fieldPlace _ _
     | exact simT_alloc _ _ _
     | exact simT_loadAt _ _
     | exact simT_storeAt _ _ _
     | exact simT_fieldAt _ _ _
     | exact simT_indexAt _ _ _
     | exact simT_sliceBound _ _ _
     | exact simT_sliceBounds _ _ _ _ _ _
     | exact simT_slice _ _ _ _ _
     | exact simT_sliceAt _ _ _ _ _
     | exact simT_arrayAt _ _
     | exact simT_box _ _
     | exact simT_buildSlice _ _ _
     | exact simT_makeInterface _ _
     | exact simT_makeFunc _ _ _
     | exact simT_makeChan _ _
     | exact simT_makeSlice _ _ _
     | exact simT_field _ _ _
     | exact simT_index _ _ _
     | exact simT_typeAssert _ _ _ _
     | exact simT_extract _ _
     | exact simT_intArith _ _ _ _
     | exact simT_intDiv _ _ _ _
     | exact simT_intBits _ _ _ _
     | exact simT_shift _ _ _ _ _
     | exact simT_intCmp _ _ _
     | refine Sim.getObjT (fun o _ _ _ => ?_) (fun o ho => ?_)
     | refine Sim.bindT ?_ (fun _ => ?_)
     | refine Sim.ite (fun _ => ?_) (fun _ => ?_)
    | split
    | dsimp only)

theorem simT_unary (o : UnOp) (x : Value) : SimT V P (Op.unary o x) := by
  unfold Op.unary
  repeat' (first
    | (rcases sham_cases (by assumption) with rfl | rfl <;> (refine ⟨_, ?_, rfl⟩; trivial))
    | with_reducible first
     | exact simT_panicThen _ _
     | exact simT_stuckThen _ _
     | exact simT_unsupThen _ trivial
     | exact Sim.pureT
     | exact Sim.stuck
    | exact SimT.unsup trivial
    | with_reducible exact Sim.goPanic
    | exact simT_runtimePanic _
    | exact simT_boundsPanic _ _ _ _
    | with_reducible first
     | exact SimT.program
     | exact simT_typeInfo _
     | exact simT_underlying _
     | exact simT_zeroValue _
     | exact simT_sizeOf _
     | exact simT_isAgg _
     | exact simT_loadCells _ _
     | exact simT_storeCells _ _ _
     | exact simT_loadVar _ _
     | exact simT_storeVar _ _ _
     | exact simT_newRow _ _
     | exact simT_newVar _ _
     | exact simT_part _ _ _
     | exact simT_elemOf _
     | exact simT_asIntOf _
     | exact simT_asInt _
     | exact simT_asBool _
     | exact simT_asString _
     | exact simT_asAgg _
     | exact simT_asAddr _
     | exact simT_sureAddr _
     | exact simT_askRoom _
     | exact Sim.load _ _
     | exact Sim.shape _
     | exact Sim.choose _
     | exact simT_noView _
     | exact simT_numberAt _
     | exact simT_behindNumber _
     | exact simT_byteOf _
     | exact simT_partAt _ _ _
     | exact simT_fieldPlace _ _
     | exact simT_alloc _ _ _
     | exact simT_loadAt _ _
     | exact simT_storeAt _ _ _
     | exact simT_fieldAt _ _ _
     | exact simT_indexAt _ _ _
     | exact simT_sliceBound _ _ _
     | exact simT_sliceBounds _ _ _ _ _ _
     | exact simT_slice _ _ _ _ _
     | exact simT_sliceAt _ _ _ _ _
     | exact simT_arrayAt _ _
     | exact simT_box _ _
     | exact simT_buildSlice _ _ _
     | exact simT_makeInterface _ _
     | exact simT_makeFunc _ _ _
     | exact simT_makeChan _ _
     | exact simT_makeSlice _ _ _
     | exact simT_field _ _ _
     | exact simT_index _ _ _
     | exact simT_typeAssert _ _ _ _
     | exact simT_extract _ _
     | exact simT_intArith _ _ _ _
     | exact simT_intDiv _ _ _ _
     | exact simT_intBits _ _ _ _
     | exact simT_shift _ _ _ _ _
     | exact simT_intCmp _ _ _
     | exact simT_stringOp _ _ _
     | refine Sim.getObjT (fun o _ _ _ => ?_) (fun o ho => ?_)
     | refine Sim.bindT ?_ (fun _ => ?_)
     | refine Sim.ite (fun _ => ?_) (fun _ => ?_)
    | split
    | dsimp only)

theorem simT_len (a : Array TypeId) (t : TypeId) (x : Array Value) : SimT V P (Builtin.len_ a t x) := by
  unfold Builtin.len_
  repeat' (first
    | (rcases sham_cases (by assumption) with rfl | rfl <;> (refine ⟨_, ?_, rfl⟩; trivial))
    | with_reducible first
     | exact simT_panicThen _ _
     | exact simT_stuckThen _ _
     | exact simT_unsupThen _ trivial
     | exact Sim.pureT
     | exact Sim.stuck
    | exact SimT.unsup trivial
    | with_reducible exact Sim.goPanic
    | exact simT_runtimePanic _
    | exact simT_boundsPanic _ _ _ _
    | with_reducible first
     | exact SimT.program
     | exact simT_typeInfo _
     | exact simT_underlying _
     | exact simT_zeroValue _
     | exact simT_sizeOf _
     | exact simT_isAgg _
     | exact simT_loadCells _ _
     | exact simT_storeCells _ _ _
     | exact simT_loadVar _ _
     | exact simT_storeVar _ _ _
     | exact simT_newRow _ _
     | exact simT_newVar _ _
     | exact simT_part _ _ _
     | exact simT_elemOf _
     | exact simT_asIntOf _
     | exact simT_asInt _
     | exact simT_asBool _
     | exact simT_asString _
     | exact simT_asAgg _
     | exact simT_asAddr _
     | exact simT_sureAddr _
     | exact simT_askRoom _
     | exact Sim.load _ _
     | exact Sim.shape _
     | exact Sim.choose _
     | exact simT_noView _
     | exact simT_numberAt _
     | exact simT_behindNumber _
     | exact simT_byteOf _
     | exact simT_partAt _ _ _
     | exact simT_fieldPlace _ _
     | exact simT_alloc _ _ _
     | exact simT_loadAt _ _
     | exact simT_storeAt _ _ _
     | exact simT_fieldAt _ _ _
     | exact simT_indexAt _ _ _
     | exact simT_sliceBound _ _ _
     | exact simT_sliceBounds _ _ _ _ _ _
     | exact simT_slice _ _ _ _ _
     | exact simT_sliceAt _ _ _ _ _
     | exact simT_arrayAt _ _
     | exact simT_box _ _
     | exact simT_buildSlice _ _ _
     | exact simT_makeInterface _ _
     | exact simT_makeFunc _ _ _
     | exact simT_makeChan _ _
     | exact simT_makeSlice _ _ _
     | exact simT_field _ _ _
     | exact simT_index _ _ _
     | exact simT_typeAssert _ _ _ _
     | exact simT_extract _ _
     | exact simT_intArith _ _ _ _
     | exact simT_intDiv _ _ _ _
     | exact simT_intBits _ _ _ _
     | exact simT_shift _ _ _ _ _
     | exact simT_intCmp _ _ _
     | exact simT_stringOp _ _ _
     | exact simT_unary _ _
     | refine Sim.getObjT (fun o _ _ _ => ?_) (fun o ho => ?_)
     | refine Sim.bindT ?_ (fun _ => ?_)
     | refine Sim.ite (fun _ => ?_) (fun _ => ?_)
    | split
    | dsimp only)

theorem simT_cap (a : Array TypeId) (t : TypeId) (x : Array Value) : SimT V P (Builtin.cap_ a t x) := by
  unfold Builtin.cap_
  repeat' (first
    | (rcases sham_cases (by assumption) with rfl | rfl <;> (refine ⟨_, ?_, rfl⟩; trivial))
    | with_reducible first
     | exact simT_panicThen _ _
     | exact simT_stuckThen _ _
     | exact simT_unsupThen _ trivial
     | exact Sim.pureT
     | exact Sim.stuck
    | exact SimT.unsup trivial
    | with_reducible exact Sim.goPanic
    | exact simT_runtimePanic _
    | exact simT_boundsPanic _ _ _ _
    | with_reducible first
     | exact SimT.program
     | exact simT_typeInfo _
     | exact simT_underlying _
     | exact simT_zeroValue _
     | exact simT_sizeOf _
     | exact simT_isAgg _
     | exact simT_loadCells _ _
     | exact simT_storeCells _ _ _
     | exact simT_loadVar _ _
     | exact simT_storeVar _ _ _
     | exact simT_newRow _ _
     | exact simT_newVar _ _
     | exact simT_part _ _ _
     | exact simT_elemOf _
     | exact simT_asIntOf _
     | exact simT_asInt _
     | exact simT_asBool _
     | exact simT_asString _
     | exact simT_asAgg _
     | exact simT_asAddr _
     | exact simT_sureAddr _
     | exact simT_askRoom _
     | exact Sim.load _ _
     | exact Sim.shape _
     | exact Sim.choose _
     | exact simT_noView _
     | exact simT_numberAt _
     | exact simT_behindNumber _
     | exact simT_byteOf _
     | exact simT_partAt _ _ _
     | exact simT_fieldPlace _ _
     | exact simT_alloc _ _ _
     | exact simT_loadAt _ _
     | exact simT_storeAt _ _ _
     | exact simT_fieldAt _ _ _
     | exact simT_indexAt _ _ _
     | exact simT_sliceBound _ _ _
     | exact simT_sliceBounds _ _ _ _ _ _
     | exact simT_slice _ _ _ _ _
     | exact simT_sliceAt _ _ _ _ _
     | exact simT_arrayAt _ _
     | exact simT_box _ _
     | exact simT_buildSlice _ _ _
     | exact simT_makeInterface _ _
     | exact simT_makeFunc _ _ _
     | exact simT_makeChan _ _
     | exact simT_makeSlice _ _ _
     | exact simT_field _ _ _
     | exact simT_index _ _ _
     | exact simT_typeAssert _ _ _ _
     | exact simT_extract _ _
     | exact simT_intArith _ _ _ _
     | exact simT_intDiv _ _ _ _
     | exact simT_intBits _ _ _ _
     | exact simT_shift _ _ _ _ _
     | exact simT_intCmp _ _ _
     | exact simT_stringOp _ _ _
     | exact simT_unary _ _
     | exact simT_len _ _ _
     | refine Sim.getObjT (fun o _ _ _ => ?_) (fun o ho => ?_)
     | refine Sim.bindT ?_ (fun _ => ?_)
     | refine Sim.ite (fun _ => ?_) (fun _ => ?_)
    | split
    | dsimp only)

theorem simT_lenOf (x : Value) : SimT V P (Builtin.lenOf x) := by
  unfold Builtin.lenOf
  repeat' (first
    | (rcases sham_cases (by assumption) with rfl | rfl <;> (refine ⟨_, ?_, rfl⟩; trivial))
    | with_reducible first
     | exact simT_panicThen _ _
     | exact simT_stuckThen _ _
     | exact simT_unsupThen _ trivial
     | exact Sim.pureT
     | exact Sim.stuck
    | exact SimT.unsup trivial
    | with_reducible exact Sim.goPanic
    | exact simT_runtimePanic _
    | exact simT_boundsPanic _ _ _ _
    | with_reducible first
     | exact SimT.program
     | exact simT_typeInfo _
     | exact simT_underlying _
     | exact simT_zeroValue _
     | exact simT_sizeOf _
     | exact simT_isAgg _
     | exact simT_loadCells _ _
     | exact simT_storeCells _ _ _
     | exact simT_loadVar _ _
     | exact simT_storeVar _ _ _
     | exact simT_newRow _ _
     | exact simT_newVar _ _
     | exact simT_part _ _ _
     | exact simT_elemOf _
     | exact simT_asIntOf _
     | exact simT_asInt _
     | exact simT_asBool _
     | exact simT_asString _
     | exact simT_asAgg _
     | exact simT_asAddr _
     | exact simT_sureAddr _
     | exact simT_askRoom _
     | exact Sim.load _ _
     | exact Sim.shape _
     | exact Sim.choose _
     | exact simT_noView _
     | exact simT_numberAt _
     | exact simT_behindNumber _
     | exact simT_byteOf _
     | exact simT_partAt _ _ _
     | exact simT_fieldPlace _ _
     | exact simT_alloc _ _ _
     | exact simT_loadAt _ _
     | exact simT_storeAt _ _ _
     | exact simT_fieldAt _ _ _
     | exact simT_indexAt _ _ _
     | exact simT_sliceBound _ _ _
     | exact simT_sliceBounds _ _ _ _ _ _
     | exact simT_slice _ _ _ _ _
     | exact simT_sliceAt _ _ _ _ _
     | exact simT_arrayAt _ _
     | exact simT_box _ _
     | exact simT_buildSlice _ _ _
     | exact simT_makeInterface _ _
     | exact simT_makeFunc _ _ _
     | exact simT_makeChan _ _
     | exact simT_makeSlice _ _ _
     | exact simT_field _ _ _
     | exact simT_index _ _ _
     | exact simT_typeAssert _ _ _ _
     | exact simT_extract _ _
     | exact simT_intArith _ _ _ _
     | exact simT_intDiv _ _ _ _
     | exact simT_intBits _ _ _ _
     | exact simT_shift _ _ _ _ _
     | exact simT_intCmp _ _ _
     | exact simT_stringOp _ _ _
     | exact simT_unary _ _
     | exact simT_len _ _ _
     | exact simT_cap _ _ _
     | refine Sim.getObjT (fun o _ _ _ => ?_) (fun o ho => ?_)
     | refine Sim.bindT ?_ (fun _ => ?_)
     | refine Sim.ite (fun _ => ?_) (fun _ => ?_)
    | split
    | dsimp only)

theorem simT_firstCells (s n : Nat) (x : Value) : SimT V P (Builtin.firstCells s n x) := by
  unfold Builtin.firstCells
  repeat' (first
    | (rcases sham_cases (by assumption) with rfl | rfl <;> (refine ⟨_, ?_, rfl⟩; trivial))
    | with_reducible first
     | exact simT_panicThen _ _
     | exact simT_stuckThen _ _
     | exact simT_unsupThen _ trivial
     | exact Sim.pureT
     | exact Sim.stuck
    | exact SimT.unsup trivial
    | with_reducible exact Sim.goPanic
    | exact simT_runtimePanic _
    | exact simT_boundsPanic _ _ _ _
    | with_reducible first
     | exact SimT.program
     | exact simT_typeInfo _
     | exact simT_underlying _
     | exact simT_zeroValue _
     | exact simT_sizeOf _
     | exact simT_isAgg _
     | exact simT_loadCells _ _
     | exact simT_storeCells _ _ _
     | exact simT_loadVar _ _
     | exact simT_storeVar _ _ _
     | exact simT_newRow _ _
     | exact simT_newVar _ _
     | exact simT_part _ _ _
     | exact simT_elemOf _
     | exact simT_asIntOf _
     | exact simT_asInt _
     | exact simT_asBool _
     | exact simT_asString _
     | exact simT_asAgg _
     | exact simT_asAddr _
     | exact simT_sureAddr _
     | exact simT_askRoom _
     | exact Sim.load _ _
     | exact Sim.shape _
     | exact Sim.choose _
     | exact simT_noView _
     | exact simT_numberAt _
     | exact simT_behindNumber _
     | exact simT_byteOf _
     | exact simT_partAt _ _ _
     | exact simT_fieldPlace _ _
     | exact simT_alloc _ _ _
     | exact simT_loadAt _ _
     | exact simT_storeAt _ _ _
     | exact simT_fieldAt _ _ _
     | exact simT_indexAt _ _ _
     | exact simT_sliceBound _ _ _
     | exact simT_sliceBounds _ _ _ _ _ _
     | exact simT_slice _ _ _ _ _
     | exact simT_sliceAt _ _ _ _ _
     | exact simT_arrayAt _ _
     | exact simT_box _ _
     | exact simT_buildSlice _ _ _
     | exact simT_makeInterface _ _
     | exact simT_makeFunc _ _ _
     | exact simT_makeChan _ _
     | exact simT_makeSlice _ _ _
     | exact simT_field _ _ _
     | exact simT_index _ _ _
     | exact simT_typeAssert _ _ _ _
     | exact simT_extract _ _
     | exact simT_intArith _ _ _ _
     | exact simT_intDiv _ _ _ _
     | exact simT_intBits _ _ _ _
     | exact simT_shift _ _ _ _ _
     | exact simT_intCmp _ _ _
     | exact simT_stringOp _ _ _
     | exact simT_unary _ _
     | exact simT_len _ _ _
     | exact simT_cap _ _ _
     | exact simT_lenOf _
     | refine Sim.getObjT (fun o _ _ _ => ?_) (fun o ho => ?_)
     | refine Sim.bindT ?_ (fun _ => ?_)
     | refine Sim.ite (fun _ => ?_) (fun _ => ?_)
    | split
    | dsimp only)

theorem simT_copy (a : Array TypeId) (t : TypeId) (x : Array Value) : SimT V P (Builtin.copy_ a t x) := by
  unfold Builtin.copy_
  repeat' (first
    | (rcases sham_cases (by assumption) with rfl | rfl <;> (refine ⟨_, ?_, rfl⟩; trivial))
    | with_reducible first
     | exact simT_panicThen _ _
     | exact simT_stuckThen _ _
     | exact simT_unsupThen _ trivial
     | exact Sim.pureT
     | exact Sim.stuck
    | exact SimT.unsup trivial
    | with_reducible exact Sim.goPanic
    | exact simT_runtimePanic _
    | exact simT_boundsPanic _ _ _ _
    | with_reducible first
     | exact SimT.program
     | exact simT_typeInfo _
     | exact simT_underlying _
     | exact simT_zeroValue _
     | exact simT_sizeOf _
     | exact simT_isAgg _
     | exact simT_loadCells _ _
     | exact simT_storeCells _ _ _
     | exact simT_loadVar _ _
     | exact simT_storeVar _ _ _
     | exact simT_newRow _ _
     | exact simT_newVar _ _
     | exact simT_part _ _ _
     | exact simT_elemOf _
     | exact simT_asIntOf _
     | exact simT_asInt _
     | exact simT_asBool _
     | exact simT_asString _
     | exact simT_asAgg _
     | exact simT_asAddr _
     | exact simT_sureAddr _
     | exact simT_askRoom _
     | exact Sim.load _ _
     | exact Sim.shape _
     | exact Sim.choose _
     | exact simT_noView _
     | exact simT_numberAt _
     | exact simT_behindNumber _
     | exact simT_byteOf _
     | exact simT_partAt _ _ _
     | exact simT_fieldPlace _ _
     | exact simT_alloc _ _ _
     | exact simT_loadAt _ _
     | exact simT_storeAt _ _ _
     | exact simT_fieldAt _ _ _
     | exact simT_indexAt _ _ _
     | exact simT_sliceBound _ _ _
     | exact simT_sliceBounds _ _ _ _ _ _
     | exact simT_slice _ _ _ _ _
     | exact simT_sliceAt _ _ _ _ _
     | exact simT_arrayAt _ _
     | exact simT_box _ _
     | exact simT_buildSlice _ _ _
     | exact simT_makeInterface _ _
     | exact simT_makeFunc _ _ _
     | exact simT_makeChan _ _
     | exact simT_makeSlice _ _ _
     | exact simT_field _ _ _
     | exact simT_index _ _ _
     | exact simT_typeAssert _ _ _ _
     | exact simT_extract _ _
     | exact simT_intArith _ _ _ _
     | exact simT_intDiv _ _ _ _
     | exact simT_intBits _ _ _ _
     | exact simT_shift _ _ _ _ _
     | exact simT_intCmp _ _ _
     | exact simT_stringOp _ _ _
     | exact simT_unary _ _
     | exact simT_len _ _ _
     | exact simT_cap _ _ _
     | exact simT_lenOf _
     | exact simT_firstCells _ _ _
     | refine Sim.getObjT (fun o _ _ _ => ?_) (fun o ho => ?_)
     | refine Sim.bindT ?_ (fun _ => ?_)
     | refine Sim.ite (fun _ => ?_) (fun _ => ?_)
    | split
    | dsimp only)

end
end Go.Proofs.Ytnbaiinhalplcaa
