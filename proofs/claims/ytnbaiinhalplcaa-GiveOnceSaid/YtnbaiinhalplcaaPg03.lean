/- The veiled twin, through the rest of the instructions, operators and builtins. Of whatever program. Conditions: none. Conditions: as each theorem states them. -/
import Derived.Test.YtnbaiinhalplcaaPg02
namespace Go.Proofs.Ytnbaiinhalplcaa
set_option linter.unusedVariables false
set_option linter.unusedSimpArgs false

section
variable {V : Veil} {P : Program} {α β : Type}

theorem simT_newObj' (c : Array Value × TypeId) : SimT V P (Go.newObj (.cells c.1 c.2)) := SimT.newObj _ trivial

def viewB (r : Nat) : Sem Bool := .shape r fun s => if s.isSome then .pure false else .getObj r fun o => .pure (match o with | .view .. => true | _ => false)
def isViewO : Obj → Bool
  | .view .. => true
  | _ => false
theorem simT_viewB (r : Nat) : SimT V P (viewB r) := fun w hw => by
  have h1 : ∀ (w : World), (w.shape? r).isSome = true → (viewB r).run P w = .ok false w := fun w h => by simp [viewB, Sem.run, h]
  have h1e : ∀ (w : World) es, (w.shape? r).isSome = true → ((viewB r).runT P w es).2 = es := fun w es h => by simp only [viewB, Sem.runT, h, if_true]
  have h2 : ∀ (w : World) o, (w.shape? r).isSome = false → w.heap[r]? = some o → ¬ isCells o → (viewB r).run P w = .ok (isViewO o) w := fun w o h ho hc => by
    simp only [viewB, Sem.run, h, Bool.false_eq_true, if_false]
    cases o <;> first | exact absurd trivial hc | (simp only [ho, Sem.run]; rfl)
  have h2e : ∀ (w : World) es o, (w.shape? r).isSome = false → w.heap[r]? = some o → ¬ isCells o → ((viewB r).runT P w es).2 = es.push ⟨.obj r, false, o.isChan⟩ := fun w es o h ho hc => by
    simp only [viewB, Sem.runT, h, Bool.false_eq_true, if_false]
    cases o <;> first | exact absurd trivial hc | simp only [ho, Sem.runT]
  by_cases hs : (w.shape? r).isSome = true
  · exact .inl (Sim.same (a := false) (w' := w) (h1 w hs) trivial hw (VKeep.refl V w) (fun es e he => by rw [h1e w es hs] at he; exact .inl he) (fun τ D => h1 _ (by rw [veil_shape]; exact hs)))
  · have hs' : (w.shape? r).isSome = false := by simpa using hs
    cases ho : w.heap[r]? with
    | none => exact .inr (Dies.now fun τ D => ⟨.stuck "getObj: no such block", V.world τ D w, trivial, by simp [viewB, Sem.run, veil_shape, hs', veil_heap, ho]⟩)
    | some o =>
      have hcl : ¬ isCells o := fun h => by
        cases o <;> simp only [isCells] at h
        exact hs (by simp [World.shape?, ho])
      refine .inl (Sim.same (a := isViewO o) (w' := w) (h2 w o hs' ho hcl) trivial hw (VKeep.refl V w) (fun es e he => ?_) (fun τ D => ?_))
      · rw [h2e w es o hs' ho hcl] at he
        rcases Array.mem_push.1 he with z | rfl
        · exact .inl z
        · exact .inr ⟨fun x hx hw' => (by simp [MemAct.ofEvent, MemAct.touch?] at hx; subst hx; cases hw'), by simp, by simp⟩
      · by_cases hc : V.ch r = true
        · rw [h2 _ _ (by rw [veil_shape]; exact hs') (veil_sham hw ho hc τ D) (by cases o <;> simp [shamOf, isCells])]
          cases o <;> rfl
        · exact h2 _ o (by rw [veil_shape]; exact hs') (veil_same ho (by simpa using hc) hcl) hcl

theorem Sim.viewAtT {r : Nat} {k : Option (Addr × TypeId) → Sem β} (h1 : SimT V P (k none)) (h2 : ∀ x, SimT V P (k (some x))) (h3 : ∀ x y, k (some x) = k (some y)) : SimT V P (viewAt r >>= k) := by
  have e : (viewAt r >>= k) = (viewB r).bind fun b => if b then k (some (⟨0, 0, none⟩, 0)) else k none := by
    show Sem.shape r _ = Sem.shape r _
    congr 1
    funext s
    cases s with
    | some x => rfl
    | none =>
      show Sem.getObj r _ = Sem.getObj r _
      congr 1
      funext o
      cases o <;> first | exact h3 _ _ | rfl
  rw [e]
  refine Sim.bindT (simT_viewB r) fun b => ?_
  split
  · exact h2 _
  · exact h1

theorem simT_mapMList {f : α → Sem β} : ∀ (l : List α), (∀ a, SimT V P (f a)) → SimT V P (l.mapM f)
  | [], h => by rw [List.mapM_nil]; exact Sim.pureT
  | a :: l, h => by
    rw [List.mapM_cons]
    exact Sim.bindT (h a) fun _ => Sim.bindT (simT_mapMList l h) fun _ => Sim.pureT
theorem simT_mapM (f : α → Sem β) (xs : Array α) (h : ∀ a, SimT V P (f a)) : SimT V P (xs.mapM f) := by
  rw [Array.mapM_eq_mapM_toList]
  exact SimT.map (simT_mapMList xs.toList h)

/-- What comes to grief in the twin whatever it meets. -/
def Doomed (V : Veil) (P : Program) (s : Sem α) : Prop := ∀ w : World, VOK V w → Dies V P s w
theorem Doomed.sim {s : Sem α} (h : Doomed V P s) : SimT V P s := fun w hw => .inr (h w hw)
theorem Doomed.unsup {u : Unsupported} (hu : Dead (.unsupported u)) : Doomed V P (Go.unsupported u : Sem α) := fun w hw => Dies.now fun τ D => ⟨_, V.world τ D w, hu, rfl⟩
theorem Doomed.pre {s : Sem β} {f : β → Sem α} (hs : SimT V P s) (hp : ∀ w : World, VOK V w → ∀ v w', s.run P w ≠ .halt (.panic v) w') (hf : ∀ a, Doomed V P (f a)) : Doomed V P (s >>= f) := by
  intro w hw
  rcases hs w hw with ⟨A, h1, h2, h3⟩ | ⟨A, h⟩
  · cases hr : s.run P w with
    | halt hh w' =>
      rw [hr] at h1
      cases hh <;> first | exact absurd hr (hp w hw _ _) | exact h1.elim
    | ok a w' =>
      rw [hr] at h1
      obtain ⟨B, g⟩ := hf a w' h1.2.1
      refine ⟨A ++ B, fun τ D hA => ?_⟩
      obtain ⟨hh, w'', hd, hg⟩ := g τ _ hA.right
      exact ⟨hh, w'', hd, by rw [Sem.run_bind, h3 τ D hA.left, hr]; exact hg⟩
  · refine ⟨A, fun τ D hA => ?_⟩
    obtain ⟨hh, w', hd, hr⟩ := h τ D hA
    exact ⟨hh, w', hd, by rw [Sem.run_bind, hr]; rfl⟩
theorem Doomed.frozen {a : Addr} {f : Bool → Sem α} (hf : ∀ b, Doomed V P (f b)) : Doomed V P (Go.frozen a >>= f) := by
  intro w hw
  -- the twin may see another truth; both roads are doomed
  obtain ⟨A, h⟩ := hf ((V.world w.tape 0 w).frozen? a) w hw
  refine ⟨A, fun τ D hA => ?_⟩
  obtain ⟨hh, w', hd, hr⟩ := h τ D hA
  exact ⟨hh, w', hd, hr⟩
theorem Doomed.shape {r : Nat} {f : Option (TypeId × Nat) → Sem α} (hf : ∀ b, Doomed V P (f b)) : Doomed V P (Go.shape r >>= f) :=
  Doomed.pre (Sim.shape r) (fun w _ v w' h => by cases h) hf
theorem doomed_holds {a : Addr} {n : Nat} {f : Bool → Sem α} (hf : ∀ b, Doomed V P (f b)) : Doomed V P (Builtin.holdsCells a n >>= f) := by
  unfold Builtin.holdsCells
  rw [bind_assoc]
  refine Doomed.shape fun b => ?_
  split
  · rw [pure_bind]; exact hf _
  · rw [pure_bind]; exact hf _
theorem doomed_share {s m n : Nat} {b : Option Addr} {x : Value} {f : Bool → Sem α} (hf : ∀ b, Doomed V P (f b)) : Doomed V P (Builtin.mayShare s m n b x >>= f) := by
  unfold Builtin.mayShare
  have last : ∀ there : Bool, Doomed V P ((if (!there) = true then pure true else match x with
      | .slice (some c) _ _ => do pure (!(← Builtin.holdsCells c (n * s)) || b.any (·.block == c.block))
      | _ => pure false : Sem Bool) >>= f) := by
    intro there
    split
    · rw [pure_bind]; exact hf _
    · split
      · rw [bind_assoc]
        refine doomed_holds fun _ => ?_
        rw [pure_bind]; exact hf _
      · rw [pure_bind]; exact hf _
  cases b with
  | none => exact last true
  | some a =>
    rw [bind_assoc]
    refine doomed_holds fun c => ?_
    rw [bind_assoc]
    exact Doomed.frozen fun d => last _
theorem simT_env : SimT V P (Go.sys .env) := fun w hw => by
  refine .inl (Sim.same (a := (w.sys .env).1) (w' := w) rfl trivial hw (VKeep.refl V w) (fun es e he => ?_) (fun τ D => rfl))
  have he' : e ∈ es.push ⟨.output, true, false⟩ := he
  rcases Array.mem_push.1 he' with z | rfl
  · exact .inl z
  · exact .inr ⟨fun x hx _ c hl => (by simp [MemAct.ofEvent, MemAct.touch?] at hx; subst hx; cases hl), by simp, by simp⟩

theorem SimC.getObj {r : Nat} {k : Obj → Sem β} (hk : ∀ o, NiceO o → ¬ isCells o → V.ch r = false → SimT V P (k o)) (hd : ∀ o, isSham o → ∃ h, Dead h ∧ k o = .halt h) : SimT V P (Sem.getObj r k) :=
  Sim.getObj (k := k) hk hd
theorem SimC.setObj {r : Nat} {o : Obj} {k : Sem β} (hc : V.ch r = false) (ho : ¬ isCells o) (hn : NiceO o) (hk : SimT V P k) : SimT V P (Sem.setObj r o k) :=
  Sim.bindT (f := fun _ => k) (Sim.setObj hc ho hn) fun _ => hk
theorem SimC.choose {q : Question} {k : Nat → Sem β} (hk : ∀ n, SimT V P (k n)) : SimT V P (Sem.choose q k) := Sim.bindT (Sim.choose q) hk
theorem SimC.shape {r : Nat} {k : Option (TypeId × Nat) → Sem β} (hk : ∀ n, SimT V P (k n)) : SimT V P (Sem.shape r k) := Sim.bindT (Sim.shape r) hk
theorem SimC.program {k : Program → Sem β} (hk : ∀ n, SimT V P (k n)) : SimT V P (Sem.program k) := Sim.bindT SimT.program hk
theorem simT_close (a : Array TypeId) (t : TypeId) (x : Array Value) : SimT V P (Builtin.close_ a t x) := by
  obtain ⟨l⟩ := x
  rcases l with _ | ⟨x0, _ | ⟨x1, l⟩⟩
  · exact (Sim.stuck : SimT V P (stuck _))
  · cases x0 with
    | chan o =>
      cases o with
      | none =>
        conv => arg 3; whnf
        exact SimC.program fun _ => Sim.goPanic
      | some r =>
        conv => arg 3; whnf
        refine SimC.getObj (fun o _ _ hc => ?_) (fun o ho => ?_)
        · cases o with
          | chan cap buf cl s r2 tm =>
            cases cl
            · exact SimC.setObj (o := .chan cap buf true s r2 tm) hc (fun z => z) trivial Sim.pureT
            · conv => arg 3; whnf
              exact SimC.program fun _ => Sim.goPanic
          | _ => exact (Sim.stuck : SimT V P (stuck _))
        · rcases sham_cases ho with rfl | rfl <;> (refine ⟨_, ?_, rfl⟩; trivial)
    | _ => exact (Sim.stuck : SimT V P (stuck _))
  · exact (Sim.stuck : SimT V P (stuck _))

theorem simT_unsafeAdd (a : Array TypeId) (t : TypeId) (p : Option Addr) (y : Value) : SimT V P (Builtin.unsafeAdd_ a t #[.pointer p, y]) := by
  conv => arg 3; whnf
  refine Sim.bindT (simT_asInt _) fun n => ?_
  dsimp only
  repeat' (first
    | (rcases sham_cases (by assumption) with rfl | rfl <;> (refine ⟨_, ?_, rfl⟩; trivial))
    | with_reducible first
     | refine Sim.viewAtT ?_ (fun _ => ?_) (fun _ _ => rfl)
     | exact simT_panicThen _ _
     | exact simT_stuckThen _ _
     | exact simT_unsupThen _ trivial
     | exact Sim.pureT
     | exact Sim.stuck
    | exact SimT.unsup trivial
    | with_reducible exact Sim.goPanic
    | exact simT_runtimePanic _
    | exact simT_boundsPanic _ _ _ _
    | with_reducible first
     | exact SimT.program
     | exact simT_typeInfo _
     | exact simT_underlying _
     | exact simT_zeroValue _
     | exact simT_sizeOf _
     | exact simT_isAgg _
     | exact simT_loadCells _ _
     | exact simT_storeCells _ _ _
     | exact simT_loadVar _ _
     | exact simT_storeVar _ _ _
     | exact simT_newRow _ _
     | exact simT_newVar _ _
     | exact simT_part _ _ _
     | exact simT_elemOf _
     | exact simT_asIntOf _
     | exact simT_asInt _
     | exact simT_asBool _
     | exact simT_asString _
     | exact simT_asAgg _
     | exact simT_asAddr _
     | exact simT_sureAddr _
     | exact simT_askRoom _
     | exact Sim.load _ _
     | exact Sim.shape _
     | exact Sim.choose _
     | exact simT_noView _
     | exact simT_numberAt _
     | exact simT_behindNumber _
     | exact simT_byteOf _
     | exact simT_partAt _ _ _
     | exact simT_fieldPlace _ _
     | exact simT_alloc _ _ _
     | exact simT_loadAt _ _
     | exact simT_storeAt _ _ _
     | exact simT_fieldAt _ _ _
     | exact simT_indexAt _ _ _
     | exact simT_sliceBound _ _ _
     | exact simT_sliceBounds _ _ _ _ _ _
     | exact simT_slice _ _ _ _ _
     | exact simT_sliceAt _ _ _ _ _
     | exact simT_arrayAt _ _
     | exact simT_box _ _
     | exact simT_buildSlice _ _ _
     | exact simT_makeInterface _ _
     | exact simT_makeFunc _ _ _
     | exact simT_makeChan _ _
     | exact simT_makeSlice _ _ _
     | exact simT_field _ _ _
     | exact simT_index _ _ _
     | exact simT_typeAssert _ _ _ _
     | exact simT_extract _ _
     | exact simT_intArith _ _ _ _
     | exact simT_intDiv _ _ _ _
     | exact simT_intBits _ _ _ _
     | exact simT_shift _ _ _ _ _
     | exact simT_intCmp _ _ _
     | exact simT_stringOp _ _ _
     | exact simT_unary _ _
     | exact simT_len _ _ _
     | exact simT_cap _ _ _
     | exact simT_lenOf _
     | exact simT_firstCells _ _ _
     | exact simT_copy _ _ _
     | exact simT_newObj' _
     | exact simT_env
     | refine Sim.getObjT (fun o _ _ _ => ?_) (fun o ho => ?_)
     | refine Sim.bindT ?_ (fun _ => ?_)
     | refine Sim.ite (fun _ => ?_) (fun _ => ?_)
    | split
    | dsimp only)

theorem simT_unsafeAdd' (a : Array TypeId) (t : TypeId) (x y : Value) : SimT V P (Builtin.unsafeAdd_ a t #[x, y]) := by
  cases x with
  | pointer p => exact simT_unsafeAdd a t p y
  | _ => exact (Sim.stuck : SimT V P (stuck _))

theorem simT_movedNumber (t : TypeId) (x y : Value) : SimT V P (movedNumber t x y) := by
  unfold movedNumber asNumber
  repeat' (first
    | (rcases sham_cases (by assumption) with rfl | rfl <;> (refine ⟨_, ?_, rfl⟩; trivial))
    | exact SimT.newObj _ trivial
    | with_reducible first
     | exact simT_panicThen _ _
     | exact simT_stuckThen _ _
     | exact simT_unsupThen _ trivial
     | exact Sim.pureT
     | exact Sim.stuck
    | exact SimT.unsup trivial
    | with_reducible exact Sim.goPanic
    | exact simT_runtimePanic _
    | exact simT_boundsPanic _ _ _ _
    | with_reducible first
     | exact SimT.program
     | exact simT_typeInfo _
     | exact simT_underlying _
     | exact simT_zeroValue _
     | exact simT_sizeOf _
     | exact simT_isAgg _
     | exact simT_loadCells _ _
     | exact simT_storeCells _ _ _
     | exact simT_loadVar _ _
     | exact simT_storeVar _ _ _
     | exact simT_newRow _ _
     | exact simT_newVar _ _
     | exact simT_part _ _ _
     | exact simT_elemOf _
     | exact simT_asIntOf _
     | exact simT_asInt _
     | exact simT_asBool _
     | exact simT_asString _
     | exact simT_asAgg _
     | exact simT_asAddr _
     | exact simT_sureAddr _
     | exact simT_askRoom _
     | exact Sim.load _ _
     | exact Sim.shape _
     | exact Sim.choose _
     | exact simT_noView _
     | exact simT_numberAt _
     | exact simT_behindNumber _
     | exact simT_byteOf _
     | exact simT_partAt _ _ _
     | exact simT_fieldPlace _ _
     | exact simT_alloc _ _ _
     | exact simT_loadAt _ _
     | exact simT_storeAt _ _ _
     | exact simT_fieldAt _ _ _
     | exact simT_indexAt _ _ _
     | exact simT_sliceBound _ _ _
     | exact simT_sliceBounds _ _ _ _ _ _
     | exact simT_slice _ _ _ _ _
     | exact simT_sliceAt _ _ _ _ _
     | exact simT_arrayAt _ _
     | exact simT_box _ _
     | exact simT_buildSlice _ _ _
     | exact simT_makeInterface _ _
     | exact simT_makeFunc _ _ _
     | exact simT_makeChan _ _
     | exact simT_makeSlice _ _ _
     | exact simT_field _ _ _
     | exact simT_index _ _ _
     | exact simT_typeAssert _ _ _ _
     | exact simT_extract _ _
     | exact simT_intArith _ _ _ _
     | exact simT_intDiv _ _ _ _
     | exact simT_intBits _ _ _ _
     | exact simT_shift _ _ _ _ _
     | exact simT_intCmp _ _ _
     | exact simT_stringOp _ _ _
     | exact simT_unary _ _
     | exact simT_len _ _ _
     | exact simT_cap _ _ _
     | exact simT_lenOf _
     | exact simT_firstCells _ _ _
     | exact simT_copy _ _ _
     | exact simT_newObj' _
     | exact simT_env
    | exact simT_unsafeAdd _ _ _ _
    | exact simT_unsafeAdd' _ _ _ _
    | with_reducible first
     | refine Sim.getObjT (fun o _ _ _ => ?_) (fun o ho => ?_)
     | refine Sim.bindT ?_ (fun _ => ?_)
     | refine Sim.ite (fun _ => ?_) (fun _ => ?_)
    | split
    | dsimp only)

theorem simT_movedPointer (t : TypeId) (x y : Value) : SimT V P (movedPointer t x y) := by
  unfold movedPointer
  repeat' (first
    | (rcases sham_cases (by assumption) with rfl | rfl <;> (refine ⟨_, ?_, rfl⟩; trivial))
    | with_reducible first
     | exact simT_panicThen _ _
     | exact simT_stuckThen _ _
     | exact simT_unsupThen _ trivial
     | exact Sim.pureT
     | exact Sim.stuck
    | exact SimT.unsup trivial
    | with_reducible exact Sim.goPanic
    | exact simT_runtimePanic _
    | exact simT_boundsPanic _ _ _ _
    | with_reducible first
     | exact SimT.program
     | exact simT_typeInfo _
     | exact simT_underlying _
     | exact simT_zeroValue _
     | exact simT_sizeOf _
     | exact simT_isAgg _
     | exact simT_loadCells _ _
     | exact simT_storeCells _ _ _
     | exact simT_loadVar _ _
     | exact simT_storeVar _ _ _
     | exact simT_newRow _ _
     | exact simT_newVar _ _
     | exact simT_part _ _ _
     | exact simT_elemOf _
     | exact simT_asIntOf _
     | exact simT_asInt _
     | exact simT_asBool _
     | exact simT_asString _
     | exact simT_asAgg _
     | exact simT_asAddr _
     | exact simT_sureAddr _
     | exact simT_askRoom _
     | exact Sim.load _ _
     | exact Sim.shape _
     | exact Sim.choose _
     | exact simT_noView _
     | exact simT_numberAt _
     | exact simT_behindNumber _
     | exact simT_byteOf _
     | exact simT_partAt _ _ _
     | exact simT_fieldPlace _ _
     | exact simT_alloc _ _ _
     | exact simT_loadAt _ _
     | exact simT_storeAt _ _ _
     | exact simT_fieldAt _ _ _
     | exact simT_indexAt _ _ _
     | exact simT_sliceBound _ _ _
     | exact simT_sliceBounds _ _ _ _ _ _
     | exact simT_slice _ _ _ _ _
     | exact simT_sliceAt _ _ _ _ _
     | exact simT_arrayAt _ _
     | exact simT_box _ _
     | exact simT_buildSlice _ _ _
     | exact simT_makeInterface _ _
     | exact simT_makeFunc _ _ _
     | exact simT_makeChan _ _
     | exact simT_makeSlice _ _ _
     | exact simT_field _ _ _
     | exact simT_index _ _ _
     | exact simT_typeAssert _ _ _ _
     | exact simT_extract _ _
     | exact simT_intArith _ _ _ _
     | exact simT_intDiv _ _ _ _
     | exact simT_intBits _ _ _ _
     | exact simT_shift _ _ _ _ _
     | exact simT_intCmp _ _ _
     | exact simT_stringOp _ _ _
     | exact simT_unary _ _
     | exact simT_len _ _ _
     | exact simT_cap _ _ _
     | exact simT_lenOf _
     | exact simT_firstCells _ _ _
     | exact simT_copy _ _ _
     | exact simT_newObj' _
     | exact simT_env
    | exact simT_unsafeAdd _ _ _ _
    | exact simT_unsafeAdd' _ _ _ _
    | with_reducible first
     | exact simT_movedNumber _ _ _
     | refine Sim.getObjT (fun o _ _ _ => ?_) (fun o ho => ?_)
     | refine Sim.bindT ?_ (fun _ => ?_)
     | refine Sim.ite (fun _ => ?_) (fun _ => ?_)
    | split
    | dsimp only)

theorem simT_twoPlaces (a b : Addr) : SimT V P (Op.twoPlaces a b) := by
  unfold Op.twoPlaces
  repeat' (first
    | (rcases sham_cases (by assumption) with rfl | rfl <;> (refine ⟨_, ?_, rfl⟩; trivial))
    | with_reducible first
     | exact simT_panicThen _ _
     | exact simT_stuckThen _ _
     | exact simT_unsupThen _ trivial
     | exact Sim.pureT
     | exact Sim.stuck
    | exact SimT.unsup trivial
    | with_reducible exact Sim.goPanic
    | exact simT_runtimePanic _
    | exact simT_boundsPanic _ _ _ _
    | with_reducible first
     | exact SimT.program
     | exact simT_typeInfo _
     | exact simT_underlying _
     | exact simT_zeroValue _
     | exact simT_sizeOf _
     | exact simT_isAgg _
     | exact simT_loadCells _ _
     | exact simT_storeCells _ _ _
     | exact simT_loadVar _ _
     | exact simT_storeVar _ _ _
     | exact simT_newRow _ _
     | exact simT_newVar _ _
     | exact simT_part _ _ _
     | exact simT_elemOf _
     | exact simT_asIntOf _
     | exact simT_asInt _
     | exact simT_asBool _
     | exact simT_asString _
     | exact simT_asAgg _
     | exact simT_asAddr _
     | exact simT_sureAddr _
     | exact simT_askRoom _
     | exact Sim.load _ _
     | exact Sim.shape _
     | exact Sim.choose _
     | exact simT_noView _
     | exact simT_numberAt _
     | exact simT_behindNumber _
     | exact simT_byteOf _
     | exact simT_partAt _ _ _
     | exact simT_fieldPlace _ _
     | exact simT_alloc _ _ _
     | exact simT_loadAt _ _
     | exact simT_storeAt _ _ _
     | exact simT_fieldAt _ _ _
     | exact simT_indexAt _ _ _
     | exact simT_sliceBound _ _ _
     | exact simT_sliceBounds _ _ _ _ _ _
     | exact simT_slice _ _ _ _ _
     | exact simT_sliceAt _ _ _ _ _
     | exact simT_arrayAt _ _
     | exact simT_box _ _
     | exact simT_buildSlice _ _ _
     | exact simT_makeInterface _ _
     | exact simT_makeFunc _ _ _
     | exact simT_makeChan _ _
     | exact simT_makeSlice _ _ _
     | exact simT_field _ _ _
     | exact simT_index _ _ _
     | exact simT_typeAssert _ _ _ _
     | exact simT_extract _ _
     | exact simT_intArith _ _ _ _
     | exact simT_intDiv _ _ _ _
     | exact simT_intBits _ _ _ _
     | exact simT_shift _ _ _ _ _
     | exact simT_intCmp _ _ _
     | exact simT_stringOp _ _ _
     | exact simT_unary _ _
     | exact simT_len _ _ _
     | exact simT_cap _ _ _
     | exact simT_lenOf _
     | exact simT_firstCells _ _ _
     | exact simT_copy _ _ _
     | exact simT_newObj' _
     | exact simT_env
    | exact simT_unsafeAdd _ _ _ _
    | exact simT_unsafeAdd' _ _ _ _
    | with_reducible first
     | exact simT_movedNumber _ _ _
     | exact simT_movedPointer _ _ _
     | refine Sim.getObjT (fun o _ _ _ => ?_) (fun o ho => ?_)
     | refine Sim.bindT ?_ (fun _ => ?_)
     | refine Sim.ite (fun _ => ?_) (fun _ => ?_)
    | split
    | dsimp only)

theorem simT_addrSub (k : IntKind) (a b : Addr) : SimT V P (Op.addrSub k a b) := by
  unfold Op.addrSub
  repeat' (first
    | (rcases sham_cases (by assumption) with rfl | rfl <;> (refine ⟨_, ?_, rfl⟩; trivial))
    | with_reducible first
     | exact simT_panicThen _ _
     | exact simT_stuckThen _ _
     | exact simT_unsupThen _ trivial
     | exact Sim.pureT
     | exact Sim.stuck
    | exact SimT.unsup trivial
    | with_reducible exact Sim.goPanic
    | exact simT_runtimePanic _
    | exact simT_boundsPanic _ _ _ _
    | with_reducible first
     | exact SimT.program
     | exact simT_typeInfo _
     | exact simT_underlying _
     | exact simT_zeroValue _
     | exact simT_sizeOf _
     | exact simT_isAgg _
     | exact simT_loadCells _ _
     | exact simT_storeCells _ _ _
     | exact simT_loadVar _ _
     | exact simT_storeVar _ _ _
     | exact simT_newRow _ _
     | exact simT_newVar _ _
     | exact simT_part _ _ _
     | exact simT_elemOf _
     | exact simT_asIntOf _
     | exact simT_asInt _
     | exact simT_asBool _
     | exact simT_asString _
     | exact simT_asAgg _
     | exact simT_asAddr _
     | exact simT_sureAddr _
     | exact simT_askRoom _
     | exact Sim.load _ _
     | exact Sim.shape _
     | exact Sim.choose _
     | exact simT_noView _
     | exact simT_numberAt _
     | exact simT_behindNumber _
     | exact simT_byteOf _
     | exact simT_partAt _ _ _
     | exact simT_fieldPlace _ _
     | exact simT_alloc _ _ _
     | exact simT_loadAt _ _
     | exact simT_storeAt _ _ _
     | exact simT_fieldAt _ _ _
     | exact simT_indexAt _ _ _
     | exact simT_sliceBound _ _ _
     | exact simT_sliceBounds _ _ _ _ _ _
     | exact simT_slice _ _ _ _ _
     | exact simT_sliceAt _ _ _ _ _
     | exact simT_arrayAt _ _
     | exact simT_box _ _
     | exact simT_buildSlice _ _ _
     | exact simT_makeInterface _ _
     | exact simT_makeFunc _ _ _
     | exact simT_makeChan _ _
     | exact simT_makeSlice _ _ _
     | exact simT_field _ _ _
     | exact simT_index _ _ _
     | exact simT_typeAssert _ _ _ _
     | exact simT_extract _ _
     | exact simT_intArith _ _ _ _
     | exact simT_intDiv _ _ _ _
     | exact simT_intBits _ _ _ _
     | exact simT_shift _ _ _ _ _
     | exact simT_intCmp _ _ _
     | exact simT_stringOp _ _ _
     | exact simT_unary _ _
     | exact simT_len _ _ _
     | exact simT_cap _ _ _
     | exact simT_lenOf _
     | exact simT_firstCells _ _ _
     | exact simT_copy _ _ _
     | exact simT_newObj' _
     | exact simT_env
    | exact simT_unsafeAdd _ _ _ _
    | exact simT_unsafeAdd' _ _ _ _
    | with_reducible first
     | exact simT_movedNumber _ _ _
     | exact simT_movedPointer _ _ _
     | exact simT_twoPlaces _ _
     | refine Sim.getObjT (fun o _ _ _ => ?_) (fun o ho => ?_)
     | refine Sim.bindT ?_ (fun _ => ?_)
     | refine Sim.ite (fun _ => ?_) (fun _ => ?_)
    | split
    | dsimp only)

theorem simT_addrCmp (o : BinOp) (a b : Addr) : SimT V P (Op.addrCmp o a b) := by
  unfold Op.addrCmp
  repeat' (first
    | (rcases sham_cases (by assumption) with rfl | rfl <;> (refine ⟨_, ?_, rfl⟩; trivial))
    | with_reducible first
     | exact simT_panicThen _ _
     | exact simT_stuckThen _ _
     | exact simT_unsupThen _ trivial
     | exact Sim.pureT
     | exact Sim.stuck
    | exact SimT.unsup trivial
    | with_reducible exact Sim.goPanic
    | exact simT_runtimePanic _
    | exact simT_boundsPanic _ _ _ _
    | with_reducible first
     | exact SimT.program
     | exact simT_typeInfo _
     | exact simT_underlying _
     | exact simT_zeroValue _
     | exact simT_sizeOf _
     | exact simT_isAgg _
     | exact simT_loadCells _ _
     | exact simT_storeCells _ _ _
     | exact simT_loadVar _ _
     | exact simT_storeVar _ _ _
     | exact simT_newRow _ _
     | exact simT_newVar _ _
     | exact simT_part _ _ _
     | exact simT_elemOf _
     | exact simT_asIntOf _
     | exact simT_asInt _
     | exact simT_asBool _
     | exact simT_asString _
     | exact simT_asAgg _
     | exact simT_asAddr _
     | exact simT_sureAddr _
     | exact simT_askRoom _
     | exact Sim.load _ _
     | exact Sim.shape _
     | exact Sim.choose _
     | exact simT_noView _
     | exact simT_numberAt _
     | exact simT_behindNumber _
     | exact simT_byteOf _
     | exact simT_partAt _ _ _
     | exact simT_fieldPlace _ _
     | exact simT_alloc _ _ _
     | exact simT_loadAt _ _
     | exact simT_storeAt _ _ _
     | exact simT_fieldAt _ _ _
     | exact simT_indexAt _ _ _
     | exact simT_sliceBound _ _ _
     | exact simT_sliceBounds _ _ _ _ _ _
     | exact simT_slice _ _ _ _ _
     | exact simT_sliceAt _ _ _ _ _
     | exact simT_arrayAt _ _
     | exact simT_box _ _
     | exact simT_buildSlice _ _ _
     | exact simT_makeInterface _ _
     | exact simT_makeFunc _ _ _
     | exact simT_makeChan _ _
     | exact simT_makeSlice _ _ _
     | exact simT_field _ _ _
     | exact simT_index _ _ _
     | exact simT_typeAssert _ _ _ _
     | exact simT_extract _ _
     | exact simT_intArith _ _ _ _
     | exact simT_intDiv _ _ _ _
     | exact simT_intBits _ _ _ _
     | exact simT_shift _ _ _ _ _
     | exact simT_intCmp _ _ _
     | exact simT_stringOp _ _ _
     | exact simT_unary _ _
     | exact simT_len _ _ _
     | exact simT_cap _ _ _
     | exact simT_lenOf _
     | exact simT_firstCells _ _ _
     | exact simT_copy _ _ _
     | exact simT_newObj' _
     | exact simT_env
    | exact simT_unsafeAdd _ _ _ _
    | exact simT_unsafeAdd' _ _ _ _
    | with_reducible first
     | exact simT_movedNumber _ _ _
     | exact simT_movedPointer _ _ _
     | exact simT_twoPlaces _ _
     | exact simT_addrSub _ _ _
     | refine Sim.getObjT (fun o _ _ _ => ?_) (fun o ho => ?_)
     | refine Sim.bindT ?_ (fun _ => ?_)
     | refine Sim.ite (fun _ => ?_) (fun _ => ?_)
    | split
    | dsimp only)

theorem simT_addrMod (k : IntKind) (a : Addr) (n : Int) : SimT V P (Op.addrMod k a n) := by
  unfold Op.addrMod
  repeat' (first
    | (rcases sham_cases (by assumption) with rfl | rfl <;> (refine ⟨_, ?_, rfl⟩; trivial))
    | with_reducible first
     | exact simT_panicThen _ _
     | exact simT_stuckThen _ _
     | exact simT_unsupThen _ trivial
     | exact Sim.pureT
     | exact Sim.stuck
    | exact SimT.unsup trivial
    | with_reducible exact Sim.goPanic
    | exact simT_runtimePanic _
    | exact simT_boundsPanic _ _ _ _
    | with_reducible first
     | exact SimT.program
     | exact simT_typeInfo _
     | exact simT_underlying _
     | exact simT_zeroValue _
     | exact simT_sizeOf _
     | exact simT_isAgg _
     | exact simT_loadCells _ _
     | exact simT_storeCells _ _ _
     | exact simT_loadVar _ _
     | exact simT_storeVar _ _ _
     | exact simT_newRow _ _
     | exact simT_newVar _ _
     | exact simT_part _ _ _
     | exact simT_elemOf _
     | exact simT_asIntOf _
     | exact simT_asInt _
     | exact simT_asBool _
     | exact simT_asString _
     | exact simT_asAgg _
     | exact simT_asAddr _
     | exact simT_sureAddr _
     | exact simT_askRoom _
     | exact Sim.load _ _
     | exact Sim.shape _
     | exact Sim.choose _
     | exact simT_noView _
     | exact simT_numberAt _
     | exact simT_behindNumber _
     | exact simT_byteOf _
     | exact simT_partAt _ _ _
     | exact simT_fieldPlace _ _
     | exact simT_alloc _ _ _
     | exact simT_loadAt _ _
     | exact simT_storeAt _ _ _
     | exact simT_fieldAt _ _ _
     | exact simT_indexAt _ _ _
     | exact simT_sliceBound _ _ _
     | exact simT_sliceBounds _ _ _ _ _ _
     | exact simT_slice _ _ _ _ _
     | exact simT_sliceAt _ _ _ _ _
     | exact simT_arrayAt _ _
     | exact simT_box _ _
     | exact simT_buildSlice _ _ _
     | exact simT_makeInterface _ _
     | exact simT_makeFunc _ _ _
     | exact simT_makeChan _ _
     | exact simT_makeSlice _ _ _
     | exact simT_field _ _ _
     | exact simT_index _ _ _
     | exact simT_typeAssert _ _ _ _
     | exact simT_extract _ _
     | exact simT_intArith _ _ _ _
     | exact simT_intDiv _ _ _ _
     | exact simT_intBits _ _ _ _
     | exact simT_shift _ _ _ _ _
     | exact simT_intCmp _ _ _
     | exact simT_stringOp _ _ _
     | exact simT_unary _ _
     | exact simT_len _ _ _
     | exact simT_cap _ _ _
     | exact simT_lenOf _
     | exact simT_firstCells _ _ _
     | exact simT_copy _ _ _
     | exact simT_newObj' _
     | exact simT_env
    | exact simT_unsafeAdd _ _ _ _
    | exact simT_unsafeAdd' _ _ _ _
    | with_reducible first
     | exact simT_movedNumber _ _ _
     | exact simT_movedPointer _ _ _
     | exact simT_twoPlaces _ _
     | exact simT_addrSub _ _ _
     | exact simT_addrCmp _ _ _
     | refine Sim.getObjT (fun o _ _ _ => ?_) (fun o ho => ?_)
     | refine Sim.bindT ?_ (fun _ => ?_)
     | refine Sim.ite (fun _ => ?_) (fun _ => ?_)
    | split
    | dsimp only)

theorem simT_floatArith (o : BinOp) (k : FloatKind) (x y : Nat) : SimT V P (Op.floatArith o k x y) := by
  unfold Op.floatArith
  repeat' (first
    | (rcases sham_cases (by assumption) with rfl | rfl <;> (refine ⟨_, ?_, rfl⟩; trivial))
    | with_reducible first
     | exact simT_panicThen _ _
     | exact simT_stuckThen _ _
     | exact simT_unsupThen _ trivial
     | exact Sim.pureT
     | exact Sim.stuck
    | exact SimT.unsup trivial
    | with_reducible exact Sim.goPanic
    | exact simT_runtimePanic _
    | exact simT_boundsPanic _ _ _ _
    | with_reducible first
     | exact SimT.program
     | exact simT_typeInfo _
     | exact simT_underlying _
     | exact simT_zeroValue _
     | exact simT_sizeOf _
     | exact simT_isAgg _
     | exact simT_loadCells _ _
     | exact simT_storeCells _ _ _
     | exact simT_loadVar _ _
     | exact simT_storeVar _ _ _
     | exact simT_newRow _ _
     | exact simT_newVar _ _
     | exact simT_part _ _ _
     | exact simT_elemOf _
     | exact simT_asIntOf _
     | exact simT_asInt _
     | exact simT_asBool _
     | exact simT_asString _
     | exact simT_asAgg _
     | exact simT_asAddr _
     | exact simT_sureAddr _
     | exact simT_askRoom _
     | exact Sim.load _ _
     | exact Sim.shape _
     | exact Sim.choose _
     | exact simT_noView _
     | exact simT_numberAt _
     | exact simT_behindNumber _
     | exact simT_byteOf _
     | exact simT_partAt _ _ _
     | exact simT_fieldPlace _ _
     | exact simT_alloc _ _ _
     | exact simT_loadAt _ _
     | exact simT_storeAt _ _ _
     | exact simT_fieldAt _ _ _
     | exact simT_indexAt _ _ _
     | exact simT_sliceBound _ _ _
     | exact simT_sliceBounds _ _ _ _ _ _
     | exact simT_slice _ _ _ _ _
     | exact simT_sliceAt _ _ _ _ _
     | exact simT_arrayAt _ _
     | exact simT_box _ _
     | exact simT_buildSlice _ _ _
     | exact simT_makeInterface _ _
     | exact simT_makeFunc _ _ _
     | exact simT_makeChan _ _
     | exact simT_makeSlice _ _ _
     | exact simT_field _ _ _
     | exact simT_index _ _ _
     | exact simT_typeAssert _ _ _ _
     | exact simT_extract _ _
     | exact simT_intArith _ _ _ _
     | exact simT_intDiv _ _ _ _
     | exact simT_intBits _ _ _ _
     | exact simT_shift _ _ _ _ _
     | exact simT_intCmp _ _ _
     | exact simT_stringOp _ _ _
     | exact simT_unary _ _
     | exact simT_len _ _ _
     | exact simT_cap _ _ _
     | exact simT_lenOf _
     | exact simT_firstCells _ _ _
     | exact simT_copy _ _ _
     | exact simT_newObj' _
     | exact simT_env
    | exact simT_unsafeAdd _ _ _ _
    | exact simT_unsafeAdd' _ _ _ _
    | with_reducible first
     | exact simT_movedNumber _ _ _
     | exact simT_movedPointer _ _ _
     | exact simT_twoPlaces _ _
     | exact simT_addrSub _ _ _
     | exact simT_addrCmp _ _ _
     | exact simT_addrMod _ _ _
     | refine Sim.getObjT (fun o _ _ _ => ?_) (fun o ho => ?_)
     | refine Sim.bindT ?_ (fun _ => ?_)
     | refine Sim.ite (fun _ => ?_) (fun _ => ?_)
    | split
    | dsimp only)

theorem simT_floatCmp (o : BinOp) (k : FloatKind) (x y : Nat) : SimT V P (Op.floatCmp o k x y) := by
  unfold Op.floatCmp
  repeat' (first
    | (rcases sham_cases (by assumption) with rfl | rfl <;> (refine ⟨_, ?_, rfl⟩; trivial))
    | with_reducible first
     | exact simT_panicThen _ _
     | exact simT_stuckThen _ _
     | exact simT_unsupThen _ trivial
     | exact Sim.pureT
     | exact Sim.stuck
    | exact SimT.unsup trivial
    | with_reducible exact Sim.goPanic
    | exact simT_runtimePanic _
    | exact simT_boundsPanic _ _ _ _
    | with_reducible first
     | exact SimT.program
     | exact simT_typeInfo _
     | exact simT_underlying _
     | exact simT_zeroValue _
     | exact simT_sizeOf _
     | exact simT_isAgg _
     | exact simT_loadCells _ _
     | exact simT_storeCells _ _ _
     | exact simT_loadVar _ _
     | exact simT_storeVar _ _ _
     | exact simT_newRow _ _
     | exact simT_newVar _ _
     | exact simT_part _ _ _
     | exact simT_elemOf _
     | exact simT_asIntOf _
     | exact simT_asInt _
     | exact simT_asBool _
     | exact simT_asString _
     | exact simT_asAgg _
     | exact simT_asAddr _
     | exact simT_sureAddr _
     | exact simT_askRoom _
     | exact Sim.load _ _
     | exact Sim.shape _
     | exact Sim.choose _
     | exact simT_noView _
     | exact simT_numberAt _
     | exact simT_behindNumber _
     | exact simT_byteOf _
     | exact simT_partAt _ _ _
     | exact simT_fieldPlace _ _
     | exact simT_alloc _ _ _
     | exact simT_loadAt _ _
     | exact simT_storeAt _ _ _
     | exact simT_fieldAt _ _ _
     | exact simT_indexAt _ _ _
     | exact simT_sliceBound _ _ _
     | exact simT_sliceBounds _ _ _ _ _ _
     | exact simT_slice _ _ _ _ _
     | exact simT_sliceAt _ _ _ _ _
     | exact simT_arrayAt _ _
     | exact simT_box _ _
     | exact simT_buildSlice _ _ _
     | exact simT_makeInterface _ _
     | exact simT_makeFunc _ _ _
     | exact simT_makeChan _ _
     | exact simT_makeSlice _ _ _
     | exact simT_field _ _ _
     | exact simT_index _ _ _
     | exact simT_typeAssert _ _ _ _
     | exact simT_extract _ _
     | exact simT_intArith _ _ _ _
     | exact simT_intDiv _ _ _ _
     | exact simT_intBits _ _ _ _
     | exact simT_shift _ _ _ _ _
     | exact simT_intCmp _ _ _
     | exact simT_stringOp _ _ _
     | exact simT_unary _ _
     | exact simT_len _ _ _
     | exact simT_cap _ _ _
     | exact simT_lenOf _
     | exact simT_firstCells _ _ _
     | exact simT_copy _ _ _
     | exact simT_newObj' _
     | exact simT_env
    | exact simT_unsafeAdd _ _ _ _
    | exact simT_unsafeAdd' _ _ _ _
    | with_reducible first
     | exact simT_movedNumber _ _ _
     | exact simT_movedPointer _ _ _
     | exact simT_twoPlaces _ _
     | exact simT_addrSub _ _ _
     | exact simT_addrCmp _ _ _
     | exact simT_addrMod _ _ _
     | exact simT_floatArith _ _ _ _
     | refine Sim.getObjT (fun o _ _ _ => ?_) (fun o ho => ?_)
     | refine Sim.bindT ?_ (fun _ => ?_)
     | refine Sim.ite (fun _ => ?_) (fun _ => ?_)
    | split
    | dsimp only)

theorem simT_floatToFloat (s : FloatKind) (b : Nat) (k : FloatKind) : SimT V P (Conv.floatToFloat s b k) := by
  unfold Conv.floatToFloat
  repeat' (first
    | (rcases sham_cases (by assumption) with rfl | rfl <;> (refine ⟨_, ?_, rfl⟩; trivial))
    | with_reducible first
     | exact simT_panicThen _ _
     | exact simT_stuckThen _ _
     | exact simT_unsupThen _ trivial
     | exact Sim.pureT
     | exact Sim.stuck
    | exact SimT.unsup trivial
    | with_reducible exact Sim.goPanic
    | exact simT_runtimePanic _
    | exact simT_boundsPanic _ _ _ _
    | with_reducible first
     | exact SimT.program
     | exact simT_typeInfo _
     | exact simT_underlying _
     | exact simT_zeroValue _
     | exact simT_sizeOf _
     | exact simT_isAgg _
     | exact simT_loadCells _ _
     | exact simT_storeCells _ _ _
     | exact simT_loadVar _ _
     | exact simT_storeVar _ _ _
     | exact simT_newRow _ _
     | exact simT_newVar _ _
     | exact simT_part _ _ _
     | exact simT_elemOf _
     | exact simT_asIntOf _
     | exact simT_asInt _
     | exact simT_asBool _
     | exact simT_asString _
     | exact simT_asAgg _
     | exact simT_asAddr _
     | exact simT_sureAddr _
     | exact simT_askRoom _
     | exact Sim.load _ _
     | exact Sim.shape _
     | exact Sim.choose _
     | exact simT_noView _
     | exact simT_numberAt _
     | exact simT_behindNumber _
     | exact simT_byteOf _
     | exact simT_partAt _ _ _
     | exact simT_fieldPlace _ _
     | exact simT_alloc _ _ _
     | exact simT_loadAt _ _
     | exact simT_storeAt _ _ _
     | exact simT_fieldAt _ _ _
     | exact simT_indexAt _ _ _
     | exact simT_sliceBound _ _ _
     | exact simT_sliceBounds _ _ _ _ _ _
     | exact simT_slice _ _ _ _ _
     | exact simT_sliceAt _ _ _ _ _
     | exact simT_arrayAt _ _
     | exact simT_box _ _
     | exact simT_buildSlice _ _ _
     | exact simT_makeInterface _ _
     | exact simT_makeFunc _ _ _
     | exact simT_makeChan _ _
     | exact simT_makeSlice _ _ _
     | exact simT_field _ _ _
     | exact simT_index _ _ _
     | exact simT_typeAssert _ _ _ _
     | exact simT_extract _ _
     | exact simT_intArith _ _ _ _
     | exact simT_intDiv _ _ _ _
     | exact simT_intBits _ _ _ _
     | exact simT_shift _ _ _ _ _
     | exact simT_intCmp _ _ _
     | exact simT_stringOp _ _ _
     | exact simT_unary _ _
     | exact simT_len _ _ _
     | exact simT_cap _ _ _
     | exact simT_lenOf _
     | exact simT_firstCells _ _ _
     | exact simT_copy _ _ _
     | exact simT_newObj' _
     | exact simT_env
    | exact simT_unsafeAdd _ _ _ _
    | exact simT_unsafeAdd' _ _ _ _
    | with_reducible first
     | exact simT_movedNumber _ _ _
     | exact simT_movedPointer _ _ _
     | exact simT_twoPlaces _ _
     | exact simT_addrSub _ _ _
     | exact simT_addrCmp _ _ _
     | exact simT_addrMod _ _ _
     | exact simT_floatArith _ _ _ _
     | exact simT_floatCmp _ _ _ _
     | refine Sim.getObjT (fun o _ _ _ => ?_) (fun o ho => ?_)
     | refine Sim.bindT ?_ (fun _ => ?_)
     | refine Sim.ite (fun _ => ?_) (fun _ => ?_)
    | split
    | dsimp only)

theorem simT_floatToInt (s : FloatKind) (b : Nat) (k : IntKind) : SimT V P (Conv.floatToInt s b k) := by
  unfold Conv.floatToInt
  repeat' (first
    | (rcases sham_cases (by assumption) with rfl | rfl <;> (refine ⟨_, ?_, rfl⟩; trivial))
    | with_reducible first
     | exact simT_panicThen _ _
     | exact simT_stuckThen _ _
     | exact simT_unsupThen _ trivial
     | exact Sim.pureT
     | exact Sim.stuck
    | exact SimT.unsup trivial
    | with_reducible exact Sim.goPanic
    | exact simT_runtimePanic _
    | exact simT_boundsPanic _ _ _ _
    | with_reducible first
     | exact SimT.program
     | exact simT_typeInfo _
     | exact simT_underlying _
     | exact simT_zeroValue _
     | exact simT_sizeOf _
     | exact simT_isAgg _
     | exact simT_loadCells _ _
     | exact simT_storeCells _ _ _
     | exact simT_loadVar _ _
     | exact simT_storeVar _ _ _
     | exact simT_newRow _ _
     | exact simT_newVar _ _
     | exact simT_part _ _ _
     | exact simT_elemOf _
     | exact simT_asIntOf _
     | exact simT_asInt _
     | exact simT_asBool _
     | exact simT_asString _
     | exact simT_asAgg _
     | exact simT_asAddr _
     | exact simT_sureAddr _
     | exact simT_askRoom _
     | exact Sim.load _ _
     | exact Sim.shape _
     | exact Sim.choose _
     | exact simT_noView _
     | exact simT_numberAt _
     | exact simT_behindNumber _
     | exact simT_byteOf _
     | exact simT_partAt _ _ _
     | exact simT_fieldPlace _ _
     | exact simT_alloc _ _ _
     | exact simT_loadAt _ _
     | exact simT_storeAt _ _ _
     | exact simT_fieldAt _ _ _
     | exact simT_indexAt _ _ _
     | exact simT_sliceBound _ _ _
     | exact simT_sliceBounds _ _ _ _ _ _
     | exact simT_slice _ _ _ _ _
     | exact simT_sliceAt _ _ _ _ _
     | exact simT_arrayAt _ _
     | exact simT_box _ _
     | exact simT_buildSlice _ _ _
     | exact simT_makeInterface _ _
     | exact simT_makeFunc _ _ _
     | exact simT_makeChan _ _
     | exact simT_makeSlice _ _ _
     | exact simT_field _ _ _
     | exact simT_index _ _ _
     | exact simT_typeAssert _ _ _ _
     | exact simT_extract _ _
     | exact simT_intArith _ _ _ _
     | exact simT_intDiv _ _ _ _
     | exact simT_intBits _ _ _ _
     | exact simT_shift _ _ _ _ _
     | exact simT_intCmp _ _ _
     | exact simT_stringOp _ _ _
     | exact simT_unary _ _
     | exact simT_len _ _ _
     | exact simT_cap _ _ _
     | exact simT_lenOf _
     | exact simT_firstCells _ _ _
     | exact simT_copy _ _ _
     | exact simT_newObj' _
     | exact simT_env
    | exact simT_unsafeAdd _ _ _ _
    | exact simT_unsafeAdd' _ _ _ _
    | with_reducible first
     | exact simT_movedNumber _ _ _
     | exact simT_movedPointer _ _ _
     | exact simT_twoPlaces _ _
     | exact simT_addrSub _ _ _
     | exact simT_addrCmp _ _ _
     | exact simT_addrMod _ _ _
     | exact simT_floatArith _ _ _ _
     | exact simT_floatCmp _ _ _ _
     | exact simT_floatToFloat _ _ _
     | refine Sim.getObjT (fun o _ _ _ => ?_) (fun o ho => ?_)
     | refine Sim.bindT ?_ (fun _ => ?_)
     | refine Sim.ite (fun _ => ?_) (fun _ => ?_)
    | split
    | dsimp only)

theorem simT_carith (o : BinOp) (k : FloatKind) (x y : Nat) : SimT V P (Op.Complex.arith o k x y) := by
  unfold Op.Complex.arith
  repeat' (first
    | (rcases sham_cases (by assumption) with rfl | rfl <;> (refine ⟨_, ?_, rfl⟩; trivial))
    | with_reducible first
     | exact simT_panicThen _ _
     | exact simT_stuckThen _ _
     | exact simT_unsupThen _ trivial
     | exact Sim.pureT
     | exact Sim.stuck
    | exact SimT.unsup trivial
    | with_reducible exact Sim.goPanic
    | exact simT_runtimePanic _
    | exact simT_boundsPanic _ _ _ _
    | with_reducible first
     | exact SimT.program
     | exact simT_typeInfo _
     | exact simT_underlying _
     | exact simT_zeroValue _
     | exact simT_sizeOf _
     | exact simT_isAgg _
     | exact simT_loadCells _ _
     | exact simT_storeCells _ _ _
     | exact simT_loadVar _ _
     | exact simT_storeVar _ _ _
     | exact simT_newRow _ _
     | exact simT_newVar _ _
     | exact simT_part _ _ _
     | exact simT_elemOf _
     | exact simT_asIntOf _
     | exact simT_asInt _
     | exact simT_asBool _
     | exact simT_asString _
     | exact simT_asAgg _
     | exact simT_asAddr _
     | exact simT_sureAddr _
     | exact simT_askRoom _
     | exact Sim.load _ _
     | exact Sim.shape _
     | exact Sim.choose _
     | exact simT_noView _
     | exact simT_numberAt _
     | exact simT_behindNumber _
     | exact simT_byteOf _
     | exact simT_partAt _ _ _
     | exact simT_fieldPlace _ _
     | exact simT_alloc _ _ _
     | exact simT_loadAt _ _
     | exact simT_storeAt _ _ _
     | exact simT_fieldAt _ _ _
     | exact simT_indexAt _ _ _
     | exact simT_sliceBound _ _ _
     | exact simT_sliceBounds _ _ _ _ _ _
     | exact simT_slice _ _ _ _ _
     | exact simT_sliceAt _ _ _ _ _
     | exact simT_arrayAt _ _
     | exact simT_box _ _
     | exact simT_buildSlice _ _ _
     | exact simT_makeInterface _ _
     | exact simT_makeFunc _ _ _
     | exact simT_makeChan _ _
     | exact simT_makeSlice _ _ _
     | exact simT_field _ _ _
     | exact simT_index _ _ _
     | exact simT_typeAssert _ _ _ _
     | exact simT_extract _ _
     | exact simT_intArith _ _ _ _
     | exact simT_intDiv _ _ _ _
     | exact simT_intBits _ _ _ _
     | exact simT_shift _ _ _ _ _
     | exact simT_intCmp _ _ _
     | exact simT_stringOp _ _ _
     | exact simT_unary _ _
     | exact simT_len _ _ _
     | exact simT_cap _ _ _
     | exact simT_lenOf _
     | exact simT_firstCells _ _ _
     | exact simT_copy _ _ _
     | exact simT_newObj' _
     | exact simT_env
    | exact simT_unsafeAdd _ _ _ _
    | exact simT_unsafeAdd' _ _ _ _
    | with_reducible first
     | exact simT_movedNumber _ _ _
     | exact simT_movedPointer _ _ _
     | exact simT_twoPlaces _ _
     | exact simT_addrSub _ _ _
     | exact simT_addrCmp _ _ _
     | exact simT_addrMod _ _ _
     | exact simT_floatArith _ _ _ _
     | exact simT_floatCmp _ _ _ _
     | exact simT_floatToFloat _ _ _
     | exact simT_floatToInt _ _ _
     | refine Sim.getObjT (fun o _ _ _ => ?_) (fun o ho => ?_)
     | refine Sim.bindT ?_ (fun _ => ?_)
     | refine Sim.ite (fun _ => ?_) (fun _ => ?_)
    | split
    | dsimp only)

theorem simT_ccmp (o : BinOp) (k : FloatKind) (x y : Nat) : SimT V P (Op.Complex.cmp o k x y) := by
  unfold Op.Complex.cmp
  repeat' (first
    | (rcases sham_cases (by assumption) with rfl | rfl <;> (refine ⟨_, ?_, rfl⟩; trivial))
    | with_reducible first
     | exact simT_panicThen _ _
     | exact simT_stuckThen _ _
     | exact simT_unsupThen _ trivial
     | exact Sim.pureT
     | exact Sim.stuck
    | exact SimT.unsup trivial
    | with_reducible exact Sim.goPanic
    | exact simT_runtimePanic _
    | exact simT_boundsPanic _ _ _ _
    | with_reducible first
     | exact SimT.program
     | exact simT_typeInfo _
     | exact simT_underlying _
     | exact simT_zeroValue _
     | exact simT_sizeOf _
     | exact simT_isAgg _
     | exact simT_loadCells _ _
     | exact simT_storeCells _ _ _
     | exact simT_loadVar _ _
     | exact simT_storeVar _ _ _
     | exact simT_newRow _ _
     | exact simT_newVar _ _
     | exact simT_part _ _ _
     | exact simT_elemOf _
     | exact simT_asIntOf _
     | exact simT_asInt _
     | exact simT_asBool _
     | exact simT_asString _
     | exact simT_asAgg _
     | exact simT_asAddr _
     | exact simT_sureAddr _
     | exact simT_askRoom _
     | exact Sim.load _ _
     | exact Sim.shape _
     | exact Sim.choose _
     | exact simT_noView _
     | exact simT_numberAt _
     | exact simT_behindNumber _
     | exact simT_byteOf _
     | exact simT_partAt _ _ _
     | exact simT_fieldPlace _ _
     | exact simT_alloc _ _ _
     | exact simT_loadAt _ _
     | exact simT_storeAt _ _ _
     | exact simT_fieldAt _ _ _
     | exact simT_indexAt _ _ _
     | exact simT_sliceBound _ _ _
     | exact simT_sliceBounds _ _ _ _ _ _
     | exact simT_slice _ _ _ _ _
     | exact simT_sliceAt _ _ _ _ _
     | exact simT_arrayAt _ _
     | exact simT_box _ _
     | exact simT_buildSlice _ _ _
     | exact simT_makeInterface _ _
     | exact simT_makeFunc _ _ _
     | exact simT_makeChan _ _
     | exact simT_makeSlice _ _ _
     | exact simT_field _ _ _
     | exact simT_index _ _ _
     | exact simT_typeAssert _ _ _ _
     | exact simT_extract _ _
     | exact simT_intArith _ _ _ _
     | exact simT_intDiv _ _ _ _
     | exact simT_intBits _ _ _ _
     | exact simT_shift _ _ _ _ _
     | exact simT_intCmp _ _ _
     | exact simT_stringOp _ _ _
     | exact simT_unary _ _
     | exact simT_len _ _ _
     | exact simT_cap _ _ _
     | exact simT_lenOf _
     | exact simT_firstCells _ _ _
     | exact simT_copy _ _ _
     | exact simT_newObj' _
     | exact simT_env
    | exact simT_unsafeAdd _ _ _ _
    | exact simT_unsafeAdd' _ _ _ _
    | with_reducible first
     | exact simT_movedNumber _ _ _
     | exact simT_movedPointer _ _ _
     | exact simT_twoPlaces _ _
     | exact simT_addrSub _ _ _
     | exact simT_addrCmp _ _ _
     | exact simT_addrMod _ _ _
     | exact simT_floatArith _ _ _ _
     | exact simT_floatCmp _ _ _ _
     | exact simT_floatToFloat _ _ _
     | exact simT_floatToInt _ _ _
     | exact simT_carith _ _ _ _
     | refine Sim.getObjT (fun o _ _ _ => ?_) (fun o ho => ?_)
     | refine Sim.bindT ?_ (fun _ => ?_)
     | refine Sim.ite (fun _ => ?_) (fun _ => ?_)
    | split
    | dsimp only)

theorem simT_cconv (s : FloatKind) (b : Nat) (k : FloatKind) : SimT V P (Op.Complex.conv s b k) := by
  unfold Op.Complex.conv
  repeat' (first
    | (rcases sham_cases (by assumption) with rfl | rfl <;> (refine ⟨_, ?_, rfl⟩; trivial))
    | with_reducible first
     | exact simT_panicThen _ _
     | exact simT_stuckThen _ _
     | exact simT_unsupThen _ trivial
     | exact Sim.pureT
     | exact Sim.stuck
    | exact SimT.unsup trivial
    | with_reducible exact Sim.goPanic
    | exact simT_runtimePanic _
    | exact simT_boundsPanic _ _ _ _
    | with_reducible first
     | exact SimT.program
     | exact simT_typeInfo _
     | exact simT_underlying _
     | exact simT_zeroValue _
     | exact simT_sizeOf _
     | exact simT_isAgg _
     | exact simT_loadCells _ _
     | exact simT_storeCells _ _ _
     | exact simT_loadVar _ _
     | exact simT_storeVar _ _ _
     | exact simT_newRow _ _
     | exact simT_newVar _ _
     | exact simT_part _ _ _
     | exact simT_elemOf _
     | exact simT_asIntOf _
     | exact simT_asInt _
     | exact simT_asBool _
     | exact simT_asString _
     | exact simT_asAgg _
     | exact simT_asAddr _
     | exact simT_sureAddr _
     | exact simT_askRoom _
     | exact Sim.load _ _
     | exact Sim.shape _
     | exact Sim.choose _
     | exact simT_noView _
     | exact simT_numberAt _
     | exact simT_behindNumber _
     | exact simT_byteOf _
     | exact simT_partAt _ _ _
     | exact simT_fieldPlace _ _
     | exact simT_alloc _ _ _
     | exact simT_loadAt _ _
     | exact simT_storeAt _ _ _
     | exact simT_fieldAt _ _ _
     | exact simT_indexAt _ _ _
     | exact simT_sliceBound _ _ _
     | exact simT_sliceBounds _ _ _ _ _ _
     | exact simT_slice _ _ _ _ _
     | exact simT_sliceAt _ _ _ _ _
     | exact simT_arrayAt _ _
     | exact simT_box _ _
     | exact simT_buildSlice _ _ _
     | exact simT_makeInterface _ _
     | exact simT_makeFunc _ _ _
     | exact simT_makeChan _ _
     | exact simT_makeSlice _ _ _
     | exact simT_field _ _ _
     | exact simT_index _ _ _
     | exact simT_typeAssert _ _ _ _
     | exact simT_extract _ _
     | exact simT_intArith _ _ _ _
     | exact simT_intDiv _ _ _ _
     | exact simT_intBits _ _ _ _
     | exact simT_shift _ _ _ _ _
     | exact simT_intCmp _ _ _
     | exact simT_stringOp _ _ _
     | exact simT_unary _ _
     | exact simT_len _ _ _
     | exact simT_cap _ _ _
     | exact simT_lenOf _
     | exact simT_firstCells _ _ _
     | exact simT_copy _ _ _
     | exact simT_newObj' _
     | exact simT_env
    | exact simT_unsafeAdd _ _ _ _
    | exact simT_unsafeAdd' _ _ _ _
    | with_reducible first
     | exact simT_movedNumber _ _ _
     | exact simT_movedPointer _ _ _
     | exact simT_twoPlaces _ _
     | exact simT_addrSub _ _ _
     | exact simT_addrCmp _ _ _
     | exact simT_addrMod _ _ _
     | exact simT_floatArith _ _ _ _
     | exact simT_floatCmp _ _ _ _
     | exact simT_floatToFloat _ _ _
     | exact simT_floatToInt _ _ _
     | exact simT_carith _ _ _ _
     | exact simT_ccmp _ _ _ _
     | refine Sim.getObjT (fun o _ _ _ => ?_) (fun o ho => ?_)
     | refine Sim.bindT ?_ (fun _ => ?_)
     | refine Sim.ite (fun _ => ?_) (fun _ => ?_)
    | split
    | dsimp only)

theorem simT_cadd (x y : Nat) : SimT V P (Op.Complex.add x y) := by
  unfold Op.Complex.add
  repeat' (first
    | (rcases sham_cases (by assumption) with rfl | rfl <;> (refine ⟨_, ?_, rfl⟩; trivial))
    | with_reducible first
     | exact simT_panicThen _ _
     | exact simT_stuckThen _ _
     | exact simT_unsupThen _ trivial
     | exact Sim.pureT
     | exact Sim.stuck
    | exact SimT.unsup trivial
    | with_reducible exact Sim.goPanic
    | exact simT_runtimePanic _
    | exact simT_boundsPanic _ _ _ _
    | with_reducible first
     | exact SimT.program
     | exact simT_typeInfo _
     | exact simT_underlying _
     | exact simT_zeroValue _
     | exact simT_sizeOf _
     | exact simT_isAgg _
     | exact simT_loadCells _ _
     | exact simT_storeCells _ _ _
     | exact simT_loadVar _ _
     | exact simT_storeVar _ _ _
     | exact simT_newRow _ _
     | exact simT_newVar _ _
     | exact simT_part _ _ _
     | exact simT_elemOf _
     | exact simT_asIntOf _
     | exact simT_asInt _
     | exact simT_asBool _
     | exact simT_asString _
     | exact simT_asAgg _
     | exact simT_asAddr _
     | exact simT_sureAddr _
     | exact simT_askRoom _
     | exact Sim.load _ _
     | exact Sim.shape _
     | exact Sim.choose _
     | exact simT_noView _
     | exact simT_numberAt _
     | exact simT_behindNumber _
     | exact simT_byteOf _
     | exact simT_partAt _ _ _
     | exact simT_fieldPlace _ _
     | exact simT_alloc _ _ _
     | exact simT_loadAt _ _
     | exact simT_storeAt _ _ _
     | exact simT_fieldAt _ _ _
     | exact simT_indexAt _ _ _
     | exact simT_sliceBound _ _ _
     | exact simT_sliceBounds _ _ _ _ _ _
     | exact simT_slice _ _ _ _ _
     | exact simT_sliceAt _ _ _ _ _
     | exact simT_arrayAt _ _
     | exact simT_box _ _
     | exact simT_buildSlice _ _ _
     | exact simT_makeInterface _ _
     | exact simT_makeFunc _ _ _
     | exact simT_makeChan _ _
     | exact simT_makeSlice _ _ _
     | exact simT_field _ _ _
     | exact simT_index _ _ _
     | exact simT_typeAssert _ _ _ _
     | exact simT_extract _ _
     | exact simT_intArith _ _ _ _
     | exact simT_intDiv _ _ _ _
     | exact simT_intBits _ _ _ _
     | exact simT_shift _ _ _ _ _
     | exact simT_intCmp _ _ _
     | exact simT_stringOp _ _ _
     | exact simT_unary _ _
     | exact simT_len _ _ _
     | exact simT_cap _ _ _
     | exact simT_lenOf _
     | exact simT_firstCells _ _ _
     | exact simT_copy _ _ _
     | exact simT_newObj' _
     | exact simT_env
    | exact simT_unsafeAdd _ _ _ _
    | exact simT_unsafeAdd' _ _ _ _
    | with_reducible first
     | exact simT_movedNumber _ _ _
     | exact simT_movedPointer _ _ _
     | exact simT_twoPlaces _ _
     | exact simT_addrSub _ _ _
     | exact simT_addrCmp _ _ _
     | exact simT_addrMod _ _ _
     | exact simT_floatArith _ _ _ _
     | exact simT_floatCmp _ _ _ _
     | exact simT_floatToFloat _ _ _
     | exact simT_floatToInt _ _ _
     | exact simT_carith _ _ _ _
     | exact simT_ccmp _ _ _ _
     | exact simT_cconv _ _ _
     | refine Sim.getObjT (fun o _ _ _ => ?_) (fun o ho => ?_)
     | refine Sim.bindT ?_ (fun _ => ?_)
     | refine Sim.ite (fun _ => ?_) (fun _ => ?_)
    | split
    | dsimp only)

theorem simT_csub (x y : Nat) : SimT V P (Op.Complex.sub x y) := by
  unfold Op.Complex.sub
  repeat' (first
    | (rcases sham_cases (by assumption) with rfl | rfl <;> (refine ⟨_, ?_, rfl⟩; trivial))
    | with_reducible first
     | exact simT_panicThen _ _
     | exact simT_stuckThen _ _
     | exact simT_unsupThen _ trivial
     | exact Sim.pureT
     | exact Sim.stuck
    | exact SimT.unsup trivial
    | with_reducible exact Sim.goPanic
    | exact simT_runtimePanic _
    | exact simT_boundsPanic _ _ _ _
    | with_reducible first
     | exact SimT.program
     | exact simT_typeInfo _
     | exact simT_underlying _
     | exact simT_zeroValue _
     | exact simT_sizeOf _
     | exact simT_isAgg _
     | exact simT_loadCells _ _
     | exact simT_storeCells _ _ _
     | exact simT_loadVar _ _
     | exact simT_storeVar _ _ _
     | exact simT_newRow _ _
     | exact simT_newVar _ _
     | exact simT_part _ _ _
     | exact simT_elemOf _
     | exact simT_asIntOf _
     | exact simT_asInt _
     | exact simT_asBool _
     | exact simT_asString _
     | exact simT_asAgg _
     | exact simT_asAddr _
     | exact simT_sureAddr _
     | exact simT_askRoom _
     | exact Sim.load _ _
     | exact Sim.shape _
     | exact Sim.choose _
     | exact simT_noView _
     | exact simT_numberAt _
     | exact simT_behindNumber _
     | exact simT_byteOf _
     | exact simT_partAt _ _ _
     | exact simT_fieldPlace _ _
     | exact simT_alloc _ _ _
     | exact simT_loadAt _ _
     | exact simT_storeAt _ _ _
     | exact simT_fieldAt _ _ _
     | exact simT_indexAt _ _ _
     | exact simT_sliceBound _ _ _
     | exact simT_sliceBounds _ _ _ _ _ _
     | exact simT_slice _ _ _ _ _
     | exact simT_sliceAt _ _ _ _ _
     | exact simT_arrayAt _ _
     | exact simT_box _ _
     | exact simT_buildSlice _ _ _
     | exact simT_makeInterface _ _
     | exact simT_makeFunc _ _ _
     | exact simT_makeChan _ _
     | exact simT_makeSlice _ _ _
     | exact simT_field _ _ _
     | exact simT_index _ _ _
     | exact simT_typeAssert _ _ _ _
     | exact simT_extract _ _
     | exact simT_intArith _ _ _ _
     | exact simT_intDiv _ _ _ _
     | exact simT_intBits _ _ _ _
     | exact simT_shift _ _ _ _ _
     | exact simT_intCmp _ _ _
     | exact simT_stringOp _ _ _
     | exact simT_unary _ _
     | exact simT_len _ _ _
     | exact simT_cap _ _ _
     | exact simT_lenOf _
     | exact simT_firstCells _ _ _
     | exact simT_copy _ _ _
     | exact simT_newObj' _
     | exact simT_env
    | exact simT_unsafeAdd _ _ _ _
    | exact simT_unsafeAdd' _ _ _ _
    | with_reducible first
     | exact simT_movedNumber _ _ _
     | exact simT_movedPointer _ _ _
     | exact simT_twoPlaces _ _
     | exact simT_addrSub _ _ _
     | exact simT_addrCmp _ _ _
     | exact simT_addrMod _ _ _
     | exact simT_floatArith _ _ _ _
     | exact simT_floatCmp _ _ _ _
     | exact simT_floatToFloat _ _ _
     | exact simT_floatToInt _ _ _
     | exact simT_carith _ _ _ _
     | exact simT_ccmp _ _ _ _
     | exact simT_cconv _ _ _
     | exact simT_cadd _ _
     | refine Sim.getObjT (fun o _ _ _ => ?_) (fun o ho => ?_)
     | refine Sim.bindT ?_ (fun _ => ?_)
     | refine Sim.ite (fun _ => ?_) (fun _ => ?_)
    | split
    | dsimp only)

theorem simT_cmul (x y : Nat) : SimT V P (Op.Complex.mul x y) := by
  unfold Op.Complex.mul
  repeat' (first
    | (rcases sham_cases (by assumption) with rfl | rfl <;> (refine ⟨_, ?_, rfl⟩; trivial))
    | with_reducible first
     | exact simT_panicThen _ _
     | exact simT_stuckThen _ _
     | exact simT_unsupThen _ trivial
     | exact Sim.pureT
     | exact Sim.stuck
    | exact SimT.unsup trivial
    | with_reducible exact Sim.goPanic
    | exact simT_runtimePanic _
    | exact simT_boundsPanic _ _ _ _
    | with_reducible first
     | exact SimT.program
     | exact simT_typeInfo _
     | exact simT_underlying _
     | exact simT_zeroValue _
     | exact simT_sizeOf _
     | exact simT_isAgg _
     | exact simT_loadCells _ _
     | exact simT_storeCells _ _ _
     | exact simT_loadVar _ _
     | exact simT_storeVar _ _ _
     | exact simT_newRow _ _
     | exact simT_newVar _ _
     | exact simT_part _ _ _
     | exact simT_elemOf _
     | exact simT_asIntOf _
     | exact simT_asInt _
     | exact simT_asBool _
     | exact simT_asString _
     | exact simT_asAgg _
     | exact simT_asAddr _
     | exact simT_sureAddr _
     | exact simT_askRoom _
     | exact Sim.load _ _
     | exact Sim.shape _
     | exact Sim.choose _
     | exact simT_noView _
     | exact simT_numberAt _
     | exact simT_behindNumber _
     | exact simT_byteOf _
     | exact simT_partAt _ _ _
     | exact simT_fieldPlace _ _
     | exact simT_alloc _ _ _
     | exact simT_loadAt _ _
     | exact simT_storeAt _ _ _
     | exact simT_fieldAt _ _ _
     | exact simT_indexAt _ _ _
     | exact simT_sliceBound _ _ _
     | exact simT_sliceBounds _ _ _ _ _ _
     | exact simT_slice _ _ _ _ _
     | exact simT_sliceAt _ _ _ _ _
     | exact simT_arrayAt _ _
     | exact simT_box _ _
     | exact simT_buildSlice _ _ _
     | exact simT_makeInterface _ _
     | exact simT_makeFunc _ _ _
     | exact simT_makeChan _ _
     | exact simT_makeSlice _ _ _
     | exact simT_field _ _ _
     | exact simT_index _ _ _
     | exact simT_typeAssert _ _ _ _
     | exact simT_extract _ _
     | exact simT_intArith _ _ _ _
     | exact simT_intDiv _ _ _ _
     | exact simT_intBits _ _ _ _
     | exact simT_shift _ _ _ _ _
     | exact simT_intCmp _ _ _
     | exact simT_stringOp _ _ _
     | exact simT_unary _ _
     | exact simT_len _ _ _
     | exact simT_cap _ _ _
     | exact simT_lenOf _
     | exact simT_firstCells _ _ _
     | exact simT_copy _ _ _
     | exact simT_newObj' _
     | exact simT_env
    | exact simT_unsafeAdd _ _ _ _
    | exact simT_unsafeAdd' _ _ _ _
    | with_reducible first
     | exact simT_movedNumber _ _ _
     | exact simT_movedPointer _ _ _
     | exact simT_twoPlaces _ _
     | exact simT_addrSub _ _ _
     | exact simT_addrCmp _ _ _
     | exact simT_addrMod _ _ _
     | exact simT_floatArith _ _ _ _
     | exact simT_floatCmp _ _ _ _
     | exact simT_floatToFloat _ _ _
     | exact simT_floatToInt _ _ _
     | exact simT_carith _ _ _ _
     | exact simT_ccmp _ _ _ _
     | exact simT_cconv _ _ _
     | exact simT_cadd _ _
     | exact simT_csub _ _
     | refine Sim.getObjT (fun o _ _ _ => ?_) (fun o ho => ?_)
     | refine Sim.bindT ?_ (fun _ => ?_)
     | refine Sim.ite (fun _ => ?_) (fun _ => ?_)
    | split
    | dsimp only)

theorem simT_cquo (x y : Nat) : SimT V P (Op.Complex.quo x y) := by
  unfold Op.Complex.quo
  repeat' (first
    | (rcases sham_cases (by assumption) with rfl | rfl <;> (refine ⟨_, ?_, rfl⟩; trivial))
    | with_reducible first
     | exact simT_panicThen _ _
     | exact simT_stuckThen _ _
     | exact simT_unsupThen _ trivial
     | exact Sim.pureT
     | exact Sim.stuck
    | exact SimT.unsup trivial
    | with_reducible exact Sim.goPanic
    | exact simT_runtimePanic _
    | exact simT_boundsPanic _ _ _ _
    | with_reducible first
     | exact SimT.program
     | exact simT_typeInfo _
     | exact simT_underlying _
     | exact simT_zeroValue _
     | exact simT_sizeOf _
     | exact simT_isAgg _
     | exact simT_loadCells _ _
     | exact simT_storeCells _ _ _
     | exact simT_loadVar _ _
     | exact simT_storeVar _ _ _
     | exact simT_newRow _ _
     | exact simT_newVar _ _
     | exact simT_part _ _ _
     | exact simT_elemOf _
     | exact simT_asIntOf _
     | exact simT_asInt _
     | exact simT_asBool _
     | exact simT_asString _
     | exact simT_asAgg _
     | exact simT_asAddr _
     | exact simT_sureAddr _
     | exact simT_askRoom _
     | exact Sim.load _ _
     | exact Sim.shape _
     | exact Sim.choose _
     | exact simT_noView _
     | exact simT_numberAt _
     | exact simT_behindNumber _
     | exact simT_byteOf _
     | exact simT_partAt _ _ _
     | exact simT_fieldPlace _ _
     | exact simT_alloc _ _ _
     | exact simT_loadAt _ _
     | exact simT_storeAt _ _ _
     | exact simT_fieldAt _ _ _
     | exact simT_indexAt _ _ _
     | exact simT_sliceBound _ _ _
     | exact simT_sliceBounds _ _ _ _ _ _
     | exact simT_slice _ _ _ _ _
     | exact simT_sliceAt _ _ _ _ _
     | exact simT_arrayAt _ _
     | exact simT_box _ _
     | exact simT_buildSlice _ _ _
     | exact simT_makeInterface _ _
     | exact simT_makeFunc _ _ _
     | exact simT_makeChan _ _
     | exact simT_makeSlice _ _ _
     | exact simT_field _ _ _
     | exact simT_index _ _ _
     | exact simT_typeAssert _ _ _ _
     | exact simT_extract _ _
     | exact simT_intArith _ _ _ _
     | exact simT_intDiv _ _ _ _
     | exact simT_intBits _ _ _ _
     | exact simT_shift _ _ _ _ _
     | exact simT_intCmp _ _ _
     | exact simT_stringOp _ _ _
     | exact simT_unary _ _
     | exact simT_len _ _ _
     | exact simT_cap _ _ _
     | exact simT_lenOf _
     | exact simT_firstCells _ _ _
     | exact simT_copy _ _ _
     | exact simT_newObj' _
     | exact simT_env
    | exact simT_unsafeAdd _ _ _ _
    | exact simT_unsafeAdd' _ _ _ _
    | with_reducible first
     | exact simT_movedNumber _ _ _
     | exact simT_movedPointer _ _ _
     | exact simT_twoPlaces _ _
     | exact simT_addrSub _ _ _
     | exact simT_addrCmp _ _ _
     | exact simT_addrMod _ _ _
     | exact simT_floatArith _ _ _ _
     | exact simT_floatCmp _ _ _ _
     | exact simT_floatToFloat _ _ _
     | exact simT_floatToInt _ _ _
     | exact simT_carith _ _ _ _
     | exact simT_ccmp _ _ _ _
     | exact simT_cconv _ _ _
     | exact simT_cadd _ _
     | exact simT_csub _ _
     | exact simT_cmul _ _
     | refine Sim.getObjT (fun o _ _ _ => ?_) (fun o ho => ?_)
     | refine Sim.bindT ?_ (fun _ => ?_)
     | refine Sim.ite (fun _ => ?_) (fun _ => ?_)
    | split
    | dsimp only)

theorem simT_cproduct (a b c d : Nat) : SimT V P (Op.Complex.product a b c d) := by
  unfold Op.Complex.product
  repeat' (first
    | (rcases sham_cases (by assumption) with rfl | rfl <;> (refine ⟨_, ?_, rfl⟩; trivial))
    | with_reducible first
     | exact simT_panicThen _ _
     | exact simT_stuckThen _ _
     | exact simT_unsupThen _ trivial
     | exact Sim.pureT
     | exact Sim.stuck
    | exact SimT.unsup trivial
    | with_reducible exact Sim.goPanic
    | exact simT_runtimePanic _
    | exact simT_boundsPanic _ _ _ _
    | with_reducible first
     | exact SimT.program
     | exact simT_typeInfo _
     | exact simT_underlying _
     | exact simT_zeroValue _
     | exact simT_sizeOf _
     | exact simT_isAgg _
     | exact simT_loadCells _ _
     | exact simT_storeCells _ _ _
     | exact simT_loadVar _ _
     | exact simT_storeVar _ _ _
     | exact simT_newRow _ _
     | exact simT_newVar _ _
     | exact simT_part _ _ _
     | exact simT_elemOf _
     | exact simT_asIntOf _
     | exact simT_asInt _
     | exact simT_asBool _
     | exact simT_asString _
     | exact simT_asAgg _
     | exact simT_asAddr _
     | exact simT_sureAddr _
     | exact simT_askRoom _
     | exact Sim.load _ _
     | exact Sim.shape _
     | exact Sim.choose _
     | exact simT_noView _
     | exact simT_numberAt _
     | exact simT_behindNumber _
     | exact simT_byteOf _
     | exact simT_partAt _ _ _
     | exact simT_fieldPlace _ _
     | exact simT_alloc _ _ _
     | exact simT_loadAt _ _
     | exact simT_storeAt _ _ _
     | exact simT_fieldAt _ _ _
     | exact simT_indexAt _ _ _
     | exact simT_sliceBound _ _ _
     | exact simT_sliceBounds _ _ _ _ _ _
     | exact simT_slice _ _ _ _ _
     | exact simT_sliceAt _ _ _ _ _
     | exact simT_arrayAt _ _
     | exact simT_box _ _
     | exact simT_buildSlice _ _ _
     | exact simT_makeInterface _ _
     | exact simT_makeFunc _ _ _
     | exact simT_makeChan _ _
     | exact simT_makeSlice _ _ _
     | exact simT_field _ _ _
     | exact simT_index _ _ _
     | exact simT_typeAssert _ _ _ _
     | exact simT_extract _ _
     | exact simT_intArith _ _ _ _
     | exact simT_intDiv _ _ _ _
     | exact simT_intBits _ _ _ _
     | exact simT_shift _ _ _ _ _
     | exact simT_intCmp _ _ _
     | exact simT_stringOp _ _ _
     | exact simT_unary _ _
     | exact simT_len _ _ _
     | exact simT_cap _ _ _
     | exact simT_lenOf _
     | exact simT_firstCells _ _ _
     | exact simT_copy _ _ _
     | exact simT_newObj' _
     | exact simT_env
    | exact simT_unsafeAdd _ _ _ _
    | exact simT_unsafeAdd' _ _ _ _
    | with_reducible first
     | exact simT_movedNumber _ _ _
     | exact simT_movedPointer _ _ _
     | exact simT_twoPlaces _ _
     | exact simT_addrSub _ _ _
     | exact simT_addrCmp _ _ _
     | exact simT_addrMod _ _ _
     | exact simT_floatArith _ _ _ _
     | exact simT_floatCmp _ _ _ _
     | exact simT_floatToFloat _ _ _
     | exact simT_floatToInt _ _ _
     | exact simT_carith _ _ _ _
     | exact simT_ccmp _ _ _ _
     | exact simT_cconv _ _ _
     | exact simT_cadd _ _
     | exact simT_csub _ _
     | exact simT_cmul _ _
     | exact simT_cquo _ _
     | refine Sim.getObjT (fun o _ _ _ => ?_) (fun o ho => ?_)
     | refine Sim.bindT ?_ (fun _ => ?_)
     | refine Sim.ite (fun _ => ?_) (fun _ => ?_)
    | split
    | dsimp only)

theorem simT_ccorrected (s a b c d : Nat) : SimT V P (Op.Complex.corrected s a b c d) := by
  unfold Op.Complex.corrected
  repeat' (first
    | (rcases sham_cases (by assumption) with rfl | rfl <;> (refine ⟨_, ?_, rfl⟩; trivial))
    | with_reducible first
     | exact simT_panicThen _ _
     | exact simT_stuckThen _ _
     | exact simT_unsupThen _ trivial
     | exact Sim.pureT
     | exact Sim.stuck
    | exact SimT.unsup trivial
    | with_reducible exact Sim.goPanic
    | exact simT_runtimePanic _
    | exact simT_boundsPanic _ _ _ _
    | with_reducible first
     | exact SimT.program
     | exact simT_typeInfo _
     | exact simT_underlying _
     | exact simT_zeroValue _
     | exact simT_sizeOf _
     | exact simT_isAgg _
     | exact simT_loadCells _ _
     | exact simT_storeCells _ _ _
     | exact simT_loadVar _ _
     | exact simT_storeVar _ _ _
     | exact simT_newRow _ _
     | exact simT_newVar _ _
     | exact simT_part _ _ _
     | exact simT_elemOf _
     | exact simT_asIntOf _
     | exact simT_asInt _
     | exact simT_asBool _
     | exact simT_asString _
     | exact simT_asAgg _
     | exact simT_asAddr _
     | exact simT_sureAddr _
     | exact simT_askRoom _
     | exact Sim.load _ _
     | exact Sim.shape _
     | exact Sim.choose _
     | exact simT_noView _
     | exact simT_numberAt _
     | exact simT_behindNumber _
     | exact simT_byteOf _
     | exact simT_partAt _ _ _
     | exact simT_fieldPlace _ _
     | exact simT_alloc _ _ _
     | exact simT_loadAt _ _
     | exact simT_storeAt _ _ _
     | exact simT_fieldAt _ _ _
     | exact simT_indexAt _ _ _
     | exact simT_sliceBound _ _ _
     | exact simT_sliceBounds _ _ _ _ _ _
     | exact simT_slice _ _ _ _ _
     | exact simT_sliceAt _ _ _ _ _
     | exact simT_arrayAt _ _
     | exact simT_box _ _
     | exact simT_buildSlice _ _ _
     | exact simT_makeInterface _ _
     | exact simT_makeFunc _ _ _
     | exact simT_makeChan _ _
     | exact simT_makeSlice _ _ _
     | exact simT_field _ _ _
     | exact simT_index _ _ _
     | exact simT_typeAssert _ _ _ _
     | exact simT_extract _ _
     | exact simT_intArith _ _ _ _
     | exact simT_intDiv _ _ _ _
     | exact simT_intBits _ _ _ _
     | exact simT_shift _ _ _ _ _
     | exact simT_intCmp _ _ _
     | exact simT_stringOp _ _ _
     | exact simT_unary _ _
     | exact simT_len _ _ _
     | exact simT_cap _ _ _
     | exact simT_lenOf _
     | exact simT_firstCells _ _ _
     | exact simT_copy _ _ _
     | exact simT_newObj' _
     | exact simT_env
    | exact simT_unsafeAdd _ _ _ _
    | exact simT_unsafeAdd' _ _ _ _
    | with_reducible first
     | exact simT_movedNumber _ _ _
     | exact simT_movedPointer _ _ _
     | exact simT_twoPlaces _ _
     | exact simT_addrSub _ _ _
     | exact simT_addrCmp _ _ _
     | exact simT_addrMod _ _ _
     | exact simT_floatArith _ _ _ _
     | exact simT_floatCmp _ _ _ _
     | exact simT_floatToFloat _ _ _
     | exact simT_floatToInt _ _ _
     | exact simT_carith _ _ _ _
     | exact simT_ccmp _ _ _ _
     | exact simT_cconv _ _ _
     | exact simT_cadd _ _
     | exact simT_csub _ _
     | exact simT_cmul _ _
     | exact simT_cquo _ _
     | exact simT_cproduct _ _ _ _
     | refine Sim.getObjT (fun o _ _ _ => ?_) (fun o ho => ?_)
     | refine Sim.bindT ?_ (fun _ => ?_)
     | refine Sim.ite (fun _ => ?_) (fun _ => ?_)
    | split
    | dsimp only)

set_option maxHeartbeats 8000000 in
theorem simT_cquotient (a b c d : Nat) : SimT V P (Op.Complex.quotient a b c d) := by
  unfold Op.Complex.quotient
  repeat' (first
    | (rcases sham_cases (by assumption) with rfl | rfl <;> (refine ⟨_, ?_, rfl⟩; trivial))
    | with_reducible first
     | exact simT_panicThen _ _
     | exact simT_stuckThen _ _
     | exact simT_unsupThen _ trivial
     | exact Sim.pureT
     | exact Sim.stuck
    | exact SimT.unsup trivial
    | with_reducible exact Sim.goPanic
    | exact simT_runtimePanic _
    | exact simT_boundsPanic _ _ _ _
    | with_reducible first
     | exact SimT.program
     | exact simT_typeInfo _
     | exact simT_underlying _
     | exact simT_zeroValue _
     | exact simT_sizeOf _
     | exact simT_isAgg _
     | exact simT_loadCells _ _
     | exact simT_storeCells _ _ _
     | exact simT_loadVar _ _
     | exact simT_storeVar _ _ _
     | exact simT_newRow _ _
     | exact simT_newVar _ _
     | exact simT_part _ _ _
     | exact simT_elemOf _
     | exact simT_asIntOf _
     | exact simT_asInt _
     | exact simT_asBool _
     | exact simT_asString _
     | exact simT_asAgg _
     | exact simT_asAddr _
     | exact simT_sureAddr _
     | exact simT_askRoom _
     | exact Sim.load _ _
     | exact Sim.shape _
     | exact Sim.choose _
     | exact simT_noView _
     | exact simT_numberAt _
     | exact simT_behindNumber _
     | exact simT_byteOf _
     | exact simT_partAt _ _ _
     | exact simT_fieldPlace _ _
     | exact simT_alloc _ _ _
     | exact simT_loadAt _ _
     | exact simT_storeAt _ _ _
     | exact simT_fieldAt _ _ _
     | exact simT_indexAt _ _ _
     | exact simT_sliceBound _ _ _
     | exact simT_sliceBounds _ _ _ _ _ _
     | exact simT_slice _ _ _ _ _
     | exact simT_sliceAt _ _ _ _ _
     | exact simT_arrayAt _ _
     | exact simT_box _ _
     | exact simT_buildSlice _ _ _
     | exact simT_makeInterface _ _
     | exact simT_makeFunc _ _ _
     | exact simT_makeChan _ _
     | exact simT_makeSlice _ _ _
     | exact simT_field _ _ _
     | exact simT_index _ _ _
     | exact simT_typeAssert _ _ _ _
     | exact simT_extract _ _
     | exact simT_intArith _ _ _ _
     | exact simT_intDiv _ _ _ _
     | exact simT_intBits _ _ _ _
     | exact simT_shift _ _ _ _ _
     | exact simT_intCmp _ _ _
     | exact simT_stringOp _ _ _
     | exact simT_unary _ _
     | exact simT_len _ _ _
     | exact simT_cap _ _ _
     | exact simT_lenOf _
     | exact simT_firstCells _ _ _
     | exact simT_copy _ _ _
     | exact simT_newObj' _
     | exact simT_env
    | exact simT_unsafeAdd _ _ _ _
    | exact simT_unsafeAdd' _ _ _ _
    | with_reducible first
     | exact simT_movedNumber _ _ _
     | exact simT_movedPointer _ _ _
     | exact simT_twoPlaces _ _
     | exact simT_addrSub _ _ _
     | exact simT_addrCmp _ _ _
     | exact simT_addrMod _ _ _
     | exact simT_floatArith _ _ _ _
     | exact simT_floatCmp _ _ _ _
     | exact simT_floatToFloat _ _ _
     | exact simT_floatToInt _ _ _
     | exact simT_carith _ _ _ _
     | exact simT_ccmp _ _ _ _
     | exact simT_cconv _ _ _
     | exact simT_cadd _ _
     | exact simT_csub _ _
     | exact simT_cmul _ _
     | exact simT_cquo _ _
     | exact simT_cproduct _ _ _ _
     | exact simT_ccorrected _ _ _ _ _
     | refine Sim.getObjT (fun o _ _ _ => ?_) (fun o ho => ?_)
     | refine Sim.bindT ?_ (fun _ => ?_)
     | refine Sim.ite (fun _ => ?_) (fun _ => ?_)
    | split
    | dsimp only)

theorem simT_complexOp (o : BinOp) (k : FloatKind) (a b c d : Nat) : SimT V P (Op.complexOp o k a b c d) := by
  unfold Op.complexOp
  repeat' (first
    | (rcases sham_cases (by assumption) with rfl | rfl <;> (refine ⟨_, ?_, rfl⟩; trivial))
    | with_reducible first
     | exact simT_panicThen _ _
     | exact simT_stuckThen _ _
     | exact simT_unsupThen _ trivial
     | exact Sim.pureT
     | exact Sim.stuck
    | exact SimT.unsup trivial
    | with_reducible exact Sim.goPanic
    | exact simT_runtimePanic _
    | exact simT_boundsPanic _ _ _ _
    | with_reducible first
     | exact SimT.program
     | exact simT_typeInfo _
     | exact simT_underlying _
     | exact simT_zeroValue _
     | exact simT_sizeOf _
     | exact simT_isAgg _
     | exact simT_loadCells _ _
     | exact simT_storeCells _ _ _
     | exact simT_loadVar _ _
     | exact simT_storeVar _ _ _
     | exact simT_newRow _ _
     | exact simT_newVar _ _
     | exact simT_part _ _ _
     | exact simT_elemOf _
     | exact simT_asIntOf _
     | exact simT_asInt _
     | exact simT_asBool _
     | exact simT_asString _
     | exact simT_asAgg _
     | exact simT_asAddr _
     | exact simT_sureAddr _
     | exact simT_askRoom _
     | exact Sim.load _ _
     | exact Sim.shape _
     | exact Sim.choose _
     | exact simT_noView _
     | exact simT_numberAt _
     | exact simT_behindNumber _
     | exact simT_byteOf _
     | exact simT_partAt _ _ _
     | exact simT_fieldPlace _ _
     | exact simT_alloc _ _ _
     | exact simT_loadAt _ _
     | exact simT_storeAt _ _ _
     | exact simT_fieldAt _ _ _
     | exact simT_indexAt _ _ _
     | exact simT_sliceBound _ _ _
     | exact simT_sliceBounds _ _ _ _ _ _
     | exact simT_slice _ _ _ _ _
     | exact simT_sliceAt _ _ _ _ _
     | exact simT_arrayAt _ _
     | exact simT_box _ _
     | exact simT_buildSlice _ _ _
     | exact simT_makeInterface _ _
     | exact simT_makeFunc _ _ _
     | exact simT_makeChan _ _
     | exact simT_makeSlice _ _ _
     | exact simT_field _ _ _
     | exact simT_index _ _ _
     | exact simT_typeAssert _ _ _ _
     | exact simT_extract _ _
     | exact simT_intArith _ _ _ _
     | exact simT_intDiv _ _ _ _
     | exact simT_intBits _ _ _ _
     | exact simT_shift _ _ _ _ _
     | exact simT_intCmp _ _ _
     | exact simT_stringOp _ _ _
     | exact simT_unary _ _
     | exact simT_len _ _ _
     | exact simT_cap _ _ _
     | exact simT_lenOf _
     | exact simT_firstCells _ _ _
     | exact simT_copy _ _ _
     | exact simT_newObj' _
     | exact simT_env
    | exact simT_unsafeAdd _ _ _ _
    | exact simT_unsafeAdd' _ _ _ _
    | with_reducible first
     | exact simT_movedNumber _ _ _
     | exact simT_movedPointer _ _ _
     | exact simT_twoPlaces _ _
     | exact simT_addrSub _ _ _
     | exact simT_addrCmp _ _ _
     | exact simT_addrMod _ _ _
     | exact simT_floatArith _ _ _ _
     | exact simT_floatCmp _ _ _ _
     | exact simT_floatToFloat _ _ _
     | exact simT_floatToInt _ _ _
     | exact simT_carith _ _ _ _
     | exact simT_ccmp _ _ _ _
     | exact simT_cconv _ _ _
     | exact simT_cadd _ _
     | exact simT_csub _ _
     | exact simT_cmul _ _
     | exact simT_cquo _ _
     | exact simT_cproduct _ _ _ _
     | exact simT_ccorrected _ _ _ _ _
     | exact simT_cquotient _ _ _ _
     | refine Sim.getObjT (fun o _ _ _ => ?_) (fun o ho => ?_)
     | refine Sim.bindT ?_ (fun _ => ?_)
     | refine Sim.ite (fun _ => ?_) (fun _ => ?_)
    | split
    | dsimp only)

theorem simT_intToInt (k : IntKind) (n : Int) : SimT V P (Conv.intToInt k n) := by
  unfold Conv.intToInt
  repeat' (first
    | (rcases sham_cases (by assumption) with rfl | rfl <;> (refine ⟨_, ?_, rfl⟩; trivial))
    | with_reducible first
     | exact simT_panicThen _ _
     | exact simT_stuckThen _ _
     | exact simT_unsupThen _ trivial
     | exact Sim.pureT
     | exact Sim.stuck
    | exact SimT.unsup trivial
    | with_reducible exact Sim.goPanic
    | exact simT_runtimePanic _
    | exact simT_boundsPanic _ _ _ _
    | with_reducible first
     | exact SimT.program
     | exact simT_typeInfo _
     | exact simT_underlying _
     | exact simT_zeroValue _
     | exact simT_sizeOf _
     | exact simT_isAgg _
     | exact simT_loadCells _ _
     | exact simT_storeCells _ _ _
     | exact simT_loadVar _ _
     | exact simT_storeVar _ _ _
     | exact simT_newRow _ _
     | exact simT_newVar _ _
     | exact simT_part _ _ _
     | exact simT_elemOf _
     | exact simT_asIntOf _
     | exact simT_asInt _
     | exact simT_asBool _
     | exact simT_asString _
     | exact simT_asAgg _
     | exact simT_asAddr _
     | exact simT_sureAddr _
     | exact simT_askRoom _
     | exact Sim.load _ _
     | exact Sim.shape _
     | exact Sim.choose _
     | exact simT_noView _
     | exact simT_numberAt _
     | exact simT_behindNumber _
     | exact simT_byteOf _
     | exact simT_partAt _ _ _
     | exact simT_fieldPlace _ _
     | exact simT_alloc _ _ _
     | exact simT_loadAt _ _
     | exact simT_storeAt _ _ _
     | exact simT_fieldAt _ _ _
     | exact simT_indexAt _ _ _
     | exact simT_sliceBound _ _ _
     | exact simT_sliceBounds _ _ _ _ _ _
     | exact simT_slice _ _ _ _ _
     | exact simT_sliceAt _ _ _ _ _
     | exact simT_arrayAt _ _
     | exact simT_box _ _
     | exact simT_buildSlice _ _ _
     | exact simT_makeInterface _ _
     | exact simT_makeFunc _ _ _
     | exact simT_makeChan _ _
     | exact simT_makeSlice _ _ _
     | exact simT_field _ _ _
     | exact simT_index _ _ _
     | exact simT_typeAssert _ _ _ _
     | exact simT_extract _ _
     | exact simT_intArith _ _ _ _
     | exact simT_intDiv _ _ _ _
     | exact simT_intBits _ _ _ _
     | exact simT_shift _ _ _ _ _
     | exact simT_intCmp _ _ _
     | exact simT_stringOp _ _ _
     | exact simT_unary _ _
     | exact simT_len _ _ _
     | exact simT_cap _ _ _
     | exact simT_lenOf _
     | exact simT_firstCells _ _ _
     | exact simT_copy _ _ _
     | exact simT_newObj' _
     | exact simT_env
    | exact simT_unsafeAdd _ _ _ _
    | exact simT_unsafeAdd' _ _ _ _
    | with_reducible first
     | exact simT_movedNumber _ _ _
     | exact simT_movedPointer _ _ _
     | exact simT_twoPlaces _ _
     | exact simT_addrSub _ _ _
     | exact simT_addrCmp _ _ _
     | exact simT_addrMod _ _ _
     | exact simT_floatArith _ _ _ _
     | exact simT_floatCmp _ _ _ _
     | exact simT_floatToFloat _ _ _
     | exact simT_floatToInt _ _ _
     | exact simT_carith _ _ _ _
     | exact simT_ccmp _ _ _ _
     | exact simT_cconv _ _ _
     | exact simT_cadd _ _
     | exact simT_csub _ _
     | exact simT_cmul _ _
     | exact simT_cquo _ _
     | exact simT_cproduct _ _ _ _
     | exact simT_ccorrected _ _ _ _ _
     | exact simT_cquotient _ _ _ _
     | exact simT_complexOp _ _ _ _ _ _
     | refine Sim.getObjT (fun o _ _ _ => ?_) (fun o ho => ?_)
     | refine Sim.bindT ?_ (fun _ => ?_)
     | refine Sim.ite (fun _ => ?_) (fun _ => ?_)
    | split
    | dsimp only)

theorem simT_intToFloat (k : FloatKind) (n : Int) : SimT V P (Conv.intToFloat k n) := by
  unfold Conv.intToFloat
  repeat' (first
    | (rcases sham_cases (by assumption) with rfl | rfl <;> (refine ⟨_, ?_, rfl⟩; trivial))
    | with_reducible first
     | exact simT_panicThen _ _
     | exact simT_stuckThen _ _
     | exact simT_unsupThen _ trivial
     | exact Sim.pureT
     | exact Sim.stuck
    | exact SimT.unsup trivial
    | with_reducible exact Sim.goPanic
    | exact simT_runtimePanic _
    | exact simT_boundsPanic _ _ _ _
    | with_reducible first
     | exact SimT.program
     | exact simT_typeInfo _
     | exact simT_underlying _
     | exact simT_zeroValue _
     | exact simT_sizeOf _
     | exact simT_isAgg _
     | exact simT_loadCells _ _
     | exact simT_storeCells _ _ _
     | exact simT_loadVar _ _
     | exact simT_storeVar _ _ _
     | exact simT_newRow _ _
     | exact simT_newVar _ _
     | exact simT_part _ _ _
     | exact simT_elemOf _
     | exact simT_asIntOf _
     | exact simT_asInt _
     | exact simT_asBool _
     | exact simT_asString _
     | exact simT_asAgg _
     | exact simT_asAddr _
     | exact simT_sureAddr _
     | exact simT_askRoom _
     | exact Sim.load _ _
     | exact Sim.shape _
     | exact Sim.choose _
     | exact simT_noView _
     | exact simT_numberAt _
     | exact simT_behindNumber _
     | exact simT_byteOf _
     | exact simT_partAt _ _ _
     | exact simT_fieldPlace _ _
     | exact simT_alloc _ _ _
     | exact simT_loadAt _ _
     | exact simT_storeAt _ _ _
     | exact simT_fieldAt _ _ _
     | exact simT_indexAt _ _ _
     | exact simT_sliceBound _ _ _
     | exact simT_sliceBounds _ _ _ _ _ _
     | exact simT_slice _ _ _ _ _
     | exact simT_sliceAt _ _ _ _ _
     | exact simT_arrayAt _ _
     | exact simT_box _ _
     | exact simT_buildSlice _ _ _
     | exact simT_makeInterface _ _
     | exact simT_makeFunc _ _ _
     | exact simT_makeChan _ _
     | exact simT_makeSlice _ _ _
     | exact simT_field _ _ _
     | exact simT_index _ _ _
     | exact simT_typeAssert _ _ _ _
     | exact simT_extract _ _
     | exact simT_intArith _ _ _ _
     | exact simT_intDiv _ _ _ _
     | exact simT_intBits _ _ _ _
     | exact simT_shift _ _ _ _ _
     | exact simT_intCmp _ _ _
     | exact simT_stringOp _ _ _
     | exact simT_unary _ _
     | exact simT_len _ _ _
     | exact simT_cap _ _ _
     | exact simT_lenOf _
     | exact simT_firstCells _ _ _
     | exact simT_copy _ _ _
     | exact simT_newObj' _
     | exact simT_env
    | exact simT_unsafeAdd _ _ _ _
    | exact simT_unsafeAdd' _ _ _ _
    | with_reducible first
     | exact simT_movedNumber _ _ _
     | exact simT_movedPointer _ _ _
     | exact simT_twoPlaces _ _
     | exact simT_addrSub _ _ _
     | exact simT_addrCmp _ _ _
     | exact simT_addrMod _ _ _
     | exact simT_floatArith _ _ _ _
     | exact simT_floatCmp _ _ _ _
     | exact simT_floatToFloat _ _ _
     | exact simT_floatToInt _ _ _
     | exact simT_carith _ _ _ _
     | exact simT_ccmp _ _ _ _
     | exact simT_cconv _ _ _
     | exact simT_cadd _ _
     | exact simT_csub _ _
     | exact simT_cmul _ _
     | exact simT_cquo _ _
     | exact simT_cproduct _ _ _ _
     | exact simT_ccorrected _ _ _ _ _
     | exact simT_cquotient _ _ _ _
     | exact simT_complexOp _ _ _ _ _ _
     | exact simT_intToInt _ _
     | refine Sim.getObjT (fun o _ _ _ => ?_) (fun o ho => ?_)
     | refine Sim.bindT ?_ (fun _ => ?_)
     | refine Sim.ite (fun _ => ?_) (fun _ => ?_)
    | split
    | dsimp only)

theorem simT_panicnil  : SimT V P (Instr.panicnil) := by
  unfold Instr.panicnil
  repeat' (first
    | (rcases sham_cases (by assumption) with rfl | rfl <;> (refine ⟨_, ?_, rfl⟩; trivial))
    | with_reducible first
     | exact simT_panicThen _ _
     | exact simT_stuckThen _ _
     | exact simT_unsupThen _ trivial
     | exact Sim.pureT
     | exact Sim.stuck
    | exact SimT.unsup trivial
    | with_reducible exact Sim.goPanic
    | exact simT_runtimePanic _
    | exact simT_boundsPanic _ _ _ _
    | with_reducible first
     | exact SimT.program
     | exact simT_typeInfo _
     | exact simT_underlying _
     | exact simT_zeroValue _
     | exact simT_sizeOf _
     | exact simT_isAgg _
     | exact simT_loadCells _ _
     | exact simT_storeCells _ _ _
     | exact simT_loadVar _ _
     | exact simT_storeVar _ _ _
     | exact simT_newRow _ _
     | exact simT_newVar _ _
     | exact simT_part _ _ _
     | exact simT_elemOf _
     | exact simT_asIntOf _
     | exact simT_asInt _
     | exact simT_asBool _
     | exact simT_asString _
     | exact simT_asAgg _
     | exact simT_asAddr _
     | exact simT_sureAddr _
     | exact simT_askRoom _
     | exact Sim.load _ _
     | exact Sim.shape _
     | exact Sim.choose _
     | exact simT_noView _
     | exact simT_numberAt _
     | exact simT_behindNumber _
     | exact simT_byteOf _
     | exact simT_partAt _ _ _
     | exact simT_fieldPlace _ _
     | exact simT_alloc _ _ _
     | exact simT_loadAt _ _
     | exact simT_storeAt _ _ _
     | exact simT_fieldAt _ _ _
     | exact simT_indexAt _ _ _
     | exact simT_sliceBound _ _ _
     | exact simT_sliceBounds _ _ _ _ _ _
     | exact simT_slice _ _ _ _ _
     | exact simT_sliceAt _ _ _ _ _
     | exact simT_arrayAt _ _
     | exact simT_box _ _
     | exact simT_buildSlice _ _ _
     | exact simT_makeInterface _ _
     | exact simT_makeFunc _ _ _
     | exact simT_makeChan _ _
     | exact simT_makeSlice _ _ _
     | exact simT_field _ _ _
     | exact simT_index _ _ _
     | exact simT_typeAssert _ _ _ _
     | exact simT_extract _ _
     | exact simT_intArith _ _ _ _
     | exact simT_intDiv _ _ _ _
     | exact simT_intBits _ _ _ _
     | exact simT_shift _ _ _ _ _
     | exact simT_intCmp _ _ _
     | exact simT_stringOp _ _ _
     | exact simT_unary _ _
     | exact simT_len _ _ _
     | exact simT_cap _ _ _
     | exact simT_lenOf _
     | exact simT_firstCells _ _ _
     | exact simT_copy _ _ _
     | exact simT_newObj' _
     | exact simT_env
    | exact simT_unsafeAdd _ _ _ _
    | exact simT_unsafeAdd' _ _ _ _
    | with_reducible first
     | exact simT_movedNumber _ _ _
     | exact simT_movedPointer _ _ _
     | exact simT_twoPlaces _ _
     | exact simT_addrSub _ _ _
     | exact simT_addrCmp _ _ _
     | exact simT_addrMod _ _ _
     | exact simT_floatArith _ _ _ _
     | exact simT_floatCmp _ _ _ _
     | exact simT_floatToFloat _ _ _
     | exact simT_floatToInt _ _ _
     | exact simT_carith _ _ _ _
     | exact simT_ccmp _ _ _ _
     | exact simT_cconv _ _ _
     | exact simT_cadd _ _
     | exact simT_csub _ _
     | exact simT_cmul _ _
     | exact simT_cquo _ _
     | exact simT_cproduct _ _ _ _
     | exact simT_ccorrected _ _ _ _ _
     | exact simT_cquotient _ _ _ _
     | exact simT_complexOp _ _ _ _ _ _
     | exact simT_intToInt _ _
     | exact simT_intToFloat _ _
     | refine Sim.getObjT (fun o _ _ _ => ?_) (fun o ho => ?_)
     | refine Sim.bindT ?_ (fun _ => ?_)
     | refine Sim.ite (fun _ => ?_) (fun _ => ?_)
    | split
    | dsimp only)

theorem simT_panic (x : Value) : SimT V P (Instr.panic x) := by
  unfold Instr.panic
  repeat' (first
    | (rcases sham_cases (by assumption) with rfl | rfl <;> (refine ⟨_, ?_, rfl⟩; trivial))
    | with_reducible first
     | exact simT_panicThen _ _
     | exact simT_stuckThen _ _
     | exact simT_unsupThen _ trivial
     | exact Sim.pureT
     | exact Sim.stuck
    | exact SimT.unsup trivial
    | with_reducible exact Sim.goPanic
    | exact simT_runtimePanic _
    | exact simT_boundsPanic _ _ _ _
    | with_reducible first
     | exact SimT.program
     | exact simT_typeInfo _
     | exact simT_underlying _
     | exact simT_zeroValue _
     | exact simT_sizeOf _
     | exact simT_isAgg _
     | exact simT_loadCells _ _
     | exact simT_storeCells _ _ _
     | exact simT_loadVar _ _
     | exact simT_storeVar _ _ _
     | exact simT_newRow _ _
     | exact simT_newVar _ _
     | exact simT_part _ _ _
     | exact simT_elemOf _
     | exact simT_asIntOf _
     | exact simT_asInt _
     | exact simT_asBool _
     | exact simT_asString _
     | exact simT_asAgg _
     | exact simT_asAddr _
     | exact simT_sureAddr _
     | exact simT_askRoom _
     | exact Sim.load _ _
     | exact Sim.shape _
     | exact Sim.choose _
     | exact simT_noView _
     | exact simT_numberAt _
     | exact simT_behindNumber _
     | exact simT_byteOf _
     | exact simT_partAt _ _ _
     | exact simT_fieldPlace _ _
     | exact simT_alloc _ _ _
     | exact simT_loadAt _ _
     | exact simT_storeAt _ _ _
     | exact simT_fieldAt _ _ _
     | exact simT_indexAt _ _ _
     | exact simT_sliceBound _ _ _
     | exact simT_sliceBounds _ _ _ _ _ _
     | exact simT_slice _ _ _ _ _
     | exact simT_sliceAt _ _ _ _ _
     | exact simT_arrayAt _ _
     | exact simT_box _ _
     | exact simT_buildSlice _ _ _
     | exact simT_makeInterface _ _
     | exact simT_makeFunc _ _ _
     | exact simT_makeChan _ _
     | exact simT_makeSlice _ _ _
     | exact simT_field _ _ _
     | exact simT_index _ _ _
     | exact simT_typeAssert _ _ _ _
     | exact simT_extract _ _
     | exact simT_intArith _ _ _ _
     | exact simT_intDiv _ _ _ _
     | exact simT_intBits _ _ _ _
     | exact simT_shift _ _ _ _ _
     | exact simT_intCmp _ _ _
     | exact simT_stringOp _ _ _
     | exact simT_unary _ _
     | exact simT_len _ _ _
     | exact simT_cap _ _ _
     | exact simT_lenOf _
     | exact simT_firstCells _ _ _
     | exact simT_copy _ _ _
     | exact simT_newObj' _
     | exact simT_env
    | exact simT_unsafeAdd _ _ _ _
    | exact simT_unsafeAdd' _ _ _ _
    | with_reducible first
     | exact simT_movedNumber _ _ _
     | exact simT_movedPointer _ _ _
     | exact simT_twoPlaces _ _
     | exact simT_addrSub _ _ _
     | exact simT_addrCmp _ _ _
     | exact simT_addrMod _ _ _
     | exact simT_floatArith _ _ _ _
     | exact simT_floatCmp _ _ _ _
     | exact simT_floatToFloat _ _ _
     | exact simT_floatToInt _ _ _
     | exact simT_carith _ _ _ _
     | exact simT_ccmp _ _ _ _
     | exact simT_cconv _ _ _
     | exact simT_cadd _ _
     | exact simT_csub _ _
     | exact simT_cmul _ _
     | exact simT_cquo _ _
     | exact simT_cproduct _ _ _ _
     | exact simT_ccorrected _ _ _ _ _
     | exact simT_cquotient _ _ _ _
     | exact simT_complexOp _ _ _ _ _ _
     | exact simT_intToInt _ _
     | exact simT_intToFloat _ _
     | exact simT_panicnil
     | refine Sim.getObjT (fun o _ _ _ => ?_) (fun o ho => ?_)
     | refine Sim.bindT ?_ (fun _ => ?_)
     | refine Sim.ite (fun _ => ?_) (fun _ => ?_)
    | split
    | dsimp only)

theorem simT_ssaWrap (a : Array TypeId) (t : TypeId) (p : Value) (y z : String) : SimT V P (Builtin.ssaWrapNilChk_ a t #[p, strVal y, strVal z]) := by
  cases p with
  | pointer o =>
    cases o
    · conv => arg 3; whnf
      refine SimC.choose fun n => ?_
      refine Sim.bindT Sim.pureT fun _ => ?_
      dsimp only
      repeat' (first
        | (rcases sham_cases (by assumption) with rfl | rfl <;> (refine ⟨_, ?_, rfl⟩; trivial))
        | with_reducible first
         | exact simT_panicThen _ _
         | exact simT_stuckThen _ _
         | exact simT_unsupThen _ trivial
         | exact Sim.pureT
         | exact Sim.stuck
        | exact SimT.unsup trivial
        | with_reducible exact Sim.goPanic
        | exact simT_runtimePanic _
        | exact simT_boundsPanic _ _ _ _
        | with_reducible first
         | exact SimT.program
         | exact simT_typeInfo _
         | exact simT_underlying _
         | exact simT_zeroValue _
         | exact simT_sizeOf _
         | exact simT_isAgg _
         | exact simT_loadCells _ _
         | exact simT_storeCells _ _ _
         | exact simT_loadVar _ _
         | exact simT_storeVar _ _ _
         | exact simT_newRow _ _
         | exact simT_newVar _ _
         | exact simT_part _ _ _
         | exact simT_elemOf _
         | exact simT_asIntOf _
         | exact simT_asInt _
         | exact simT_asBool _
         | exact simT_asString _
         | exact simT_asAgg _
         | exact simT_asAddr _
         | exact simT_sureAddr _
         | exact simT_askRoom _
         | exact Sim.load _ _
         | exact Sim.shape _
         | exact Sim.choose _
         | exact simT_noView _
         | exact simT_numberAt _
         | exact simT_behindNumber _
         | exact simT_byteOf _
         | exact simT_partAt _ _ _
         | exact simT_fieldPlace _ _
         | exact simT_alloc _ _ _
         | exact simT_loadAt _ _
         | exact simT_storeAt _ _ _
         | exact simT_fieldAt _ _ _
         | exact simT_indexAt _ _ _
         | exact simT_sliceBound _ _ _
         | exact simT_sliceBounds _ _ _ _ _ _
         | exact simT_slice _ _ _ _ _
         | exact simT_sliceAt _ _ _ _ _
         | exact simT_arrayAt _ _
         | exact simT_box _ _
         | exact simT_buildSlice _ _ _
         | exact simT_makeInterface _ _
         | exact simT_makeFunc _ _ _
         | exact simT_makeChan _ _
         | exact simT_makeSlice _ _ _
         | exact simT_field _ _ _
         | exact simT_index _ _ _
         | exact simT_typeAssert _ _ _ _
         | exact simT_extract _ _
         | exact simT_intArith _ _ _ _
         | exact simT_intDiv _ _ _ _
         | exact simT_intBits _ _ _ _
         | exact simT_shift _ _ _ _ _
         | exact simT_intCmp _ _ _
         | exact simT_stringOp _ _ _
         | exact simT_unary _ _
         | exact simT_len _ _ _
         | exact simT_cap _ _ _
         | exact simT_lenOf _
         | exact simT_firstCells _ _ _
         | exact simT_copy _ _ _
         | exact simT_newObj' _
         | exact simT_env
        | exact simT_unsafeAdd _ _ _ _
        | exact simT_unsafeAdd' _ _ _ _
        | with_reducible first
         | exact simT_movedNumber _ _ _
         | exact simT_movedPointer _ _ _
         | exact simT_twoPlaces _ _
         | exact simT_addrSub _ _ _
         | exact simT_addrCmp _ _ _
         | exact simT_addrMod _ _ _
         | exact simT_floatArith _ _ _ _
         | exact simT_floatCmp _ _ _ _
         | exact simT_floatToFloat _ _ _
         | exact simT_floatToInt _ _ _
         | exact simT_carith _ _ _ _
         | exact simT_ccmp _ _ _ _
         | exact simT_cconv _ _ _
         | exact simT_cadd _ _
         | exact simT_csub _ _
         | exact simT_cmul _ _
         | exact simT_cquo _ _
         | exact simT_cproduct _ _ _ _
         | exact simT_ccorrected _ _ _ _ _
         | exact simT_cquotient _ _ _ _
         | exact simT_complexOp _ _ _ _ _ _
         | exact simT_intToInt _ _
         | exact simT_intToFloat _ _
         | exact simT_panicnil
         | exact simT_panic _
         | refine Sim.getObjT (fun o _ _ _ => ?_) (fun o ho => ?_)
         | refine Sim.bindT ?_ (fun _ => ?_)
         | refine Sim.ite (fun _ => ?_) (fun _ => ?_)
        | split
        | dsimp only)
    
    · exact Sim.pureT
  | _ => exact (Sim.stuck : SimT V P (stuck _))

theorem simT_get (t : TypeId) (x : Go.Place) : SimT V P (Go.Place.get t x) := by
  unfold Go.Place.get
  repeat' (first
    | (rcases sham_cases (by assumption) with rfl | rfl <;> (refine ⟨_, ?_, rfl⟩; trivial))
    | with_reducible first
     | exact simT_panicThen _ _
     | exact simT_stuckThen _ _
     | exact simT_unsupThen _ trivial
     | exact Sim.pureT
     | exact Sim.stuck
    | exact SimT.unsup trivial
    | with_reducible exact Sim.goPanic
    | exact simT_runtimePanic _
    | exact simT_boundsPanic _ _ _ _
    | with_reducible first
     | exact SimT.program
     | exact simT_typeInfo _
     | exact simT_underlying _
     | exact simT_zeroValue _
     | exact simT_sizeOf _
     | exact simT_isAgg _
     | exact simT_loadCells _ _
     | exact simT_storeCells _ _ _
     | exact simT_loadVar _ _
     | exact simT_storeVar _ _ _
     | exact simT_newRow _ _
     | exact simT_newVar _ _
     | exact simT_part _ _ _
     | exact simT_elemOf _
     | exact simT_asIntOf _
     | exact simT_asInt _
     | exact simT_asBool _
     | exact simT_asString _
     | exact simT_asAgg _
     | exact simT_asAddr _
     | exact simT_sureAddr _
     | exact simT_askRoom _
     | exact Sim.load _ _
     | exact Sim.shape _
     | exact Sim.choose _
     | exact simT_noView _
     | exact simT_numberAt _
     | exact simT_behindNumber _
     | exact simT_byteOf _
     | exact simT_partAt _ _ _
     | exact simT_fieldPlace _ _
     | exact simT_alloc _ _ _
     | exact simT_loadAt _ _
     | exact simT_storeAt _ _ _
     | exact simT_fieldAt _ _ _
     | exact simT_indexAt _ _ _
     | exact simT_sliceBound _ _ _
     | exact simT_sliceBounds _ _ _ _ _ _
     | exact simT_slice _ _ _ _ _
     | exact simT_sliceAt _ _ _ _ _
     | exact simT_arrayAt _ _
     | exact simT_box _ _
     | exact simT_buildSlice _ _ _
     | exact simT_makeInterface _ _
     | exact simT_makeFunc _ _ _
     | exact simT_makeChan _ _
     | exact simT_makeSlice _ _ _
     | exact simT_field _ _ _
     | exact simT_index _ _ _
     | exact simT_typeAssert _ _ _ _
     | exact simT_extract _ _
     | exact simT_intArith _ _ _ _
     | exact simT_intDiv _ _ _ _
     | exact simT_intBits _ _ _ _
     | exact simT_shift _ _ _ _ _
     | exact simT_intCmp _ _ _
     | exact simT_stringOp _ _ _
     | exact simT_unary _ _
     | exact simT_len _ _ _
     | exact simT_cap _ _ _
     | exact simT_lenOf _
     | exact simT_firstCells _ _ _
     | exact simT_copy _ _ _
     | exact simT_newObj' _
     | exact simT_env
    | exact simT_unsafeAdd _ _ _ _
    | exact simT_unsafeAdd' _ _ _ _
    | with_reducible first
     | exact simT_movedNumber _ _ _
     | exact simT_movedPointer _ _ _
     | exact simT_twoPlaces _ _
     | exact simT_addrSub _ _ _
     | exact simT_addrCmp _ _ _
     | exact simT_addrMod _ _ _
     | exact simT_floatArith _ _ _ _
     | exact simT_floatCmp _ _ _ _
     | exact simT_floatToFloat _ _ _
     | exact simT_floatToInt _ _ _
     | exact simT_carith _ _ _ _
     | exact simT_ccmp _ _ _ _
     | exact simT_cconv _ _ _
     | exact simT_cadd _ _
     | exact simT_csub _ _
     | exact simT_cmul _ _
     | exact simT_cquo _ _
     | exact simT_cproduct _ _ _ _
     | exact simT_ccorrected _ _ _ _ _
     | exact simT_cquotient _ _ _ _
     | exact simT_complexOp _ _ _ _ _ _
     | exact simT_intToInt _ _
     | exact simT_intToFloat _ _
     | exact simT_panicnil
     | exact simT_panic _
    | exact simT_ssaWrap _ _ _ _ _
    | with_reducible first
     | refine Sim.getObjT (fun o _ _ _ => ?_) (fun o ho => ?_)
     | refine Sim.bindT ?_ (fun _ => ?_)
     | refine Sim.ite (fun _ => ?_) (fun _ => ?_)
    | split
    | dsimp only)

theorem simT_follow : ∀ (l : List FieldStep) (t : TypeId) (x : Go.Place), SimT V P (Go.follow l t x)
  | [], t, x => Sim.pureT
  | s :: rest, t, x => by
    have ih := fun t x => simT_follow rest t x
    unfold Go.follow
    repeat' (first
      | (rcases sham_cases (by assumption) with rfl | rfl <;> (refine ⟨_, ?_, rfl⟩; trivial))
      | exact ih _ _
      | with_reducible first
       | exact simT_panicThen _ _
       | exact simT_stuckThen _ _
       | exact simT_unsupThen _ trivial
       | exact Sim.pureT
       | exact Sim.stuck
      | exact SimT.unsup trivial
      | with_reducible exact Sim.goPanic
      | exact simT_runtimePanic _
      | exact simT_boundsPanic _ _ _ _
      | with_reducible first
       | exact SimT.program
       | exact simT_typeInfo _
       | exact simT_underlying _
       | exact simT_zeroValue _
       | exact simT_sizeOf _
       | exact simT_isAgg _
       | exact simT_loadCells _ _
       | exact simT_storeCells _ _ _
       | exact simT_loadVar _ _
       | exact simT_storeVar _ _ _
       | exact simT_newRow _ _
       | exact simT_newVar _ _
       | exact simT_part _ _ _
       | exact simT_elemOf _
       | exact simT_asIntOf _
       | exact simT_asInt _
       | exact simT_asBool _
       | exact simT_asString _
       | exact simT_asAgg _
       | exact simT_asAddr _
       | exact simT_sureAddr _
       | exact simT_askRoom _
       | exact Sim.load _ _
       | exact Sim.shape _
       | exact Sim.choose _
       | exact simT_noView _
       | exact simT_numberAt _
       | exact simT_behindNumber _
       | exact simT_byteOf _
       | exact simT_partAt _ _ _
       | exact simT_fieldPlace _ _
       | exact simT_alloc _ _ _
       | exact simT_loadAt _ _
       | exact simT_storeAt _ _ _
       | exact simT_fieldAt _ _ _
       | exact simT_indexAt _ _ _
       | exact simT_sliceBound _ _ _
       | exact simT_sliceBounds _ _ _ _ _ _
       | exact simT_slice _ _ _ _ _
       | exact simT_sliceAt _ _ _ _ _
       | exact simT_arrayAt _ _
       | exact simT_box _ _
       | exact simT_buildSlice _ _ _
       | exact simT_makeInterface _ _
       | exact simT_makeFunc _ _ _
       | exact simT_makeChan _ _
       | exact simT_makeSlice _ _ _
       | exact simT_field _ _ _
       | exact simT_index _ _ _
       | exact simT_typeAssert _ _ _ _
       | exact simT_extract _ _
       | exact simT_intArith _ _ _ _
       | exact simT_intDiv _ _ _ _
       | exact simT_intBits _ _ _ _
       | exact simT_shift _ _ _ _ _
       | exact simT_intCmp _ _ _
       | exact simT_stringOp _ _ _
       | exact simT_unary _ _
       | exact simT_len _ _ _
       | exact simT_cap _ _ _
       | exact simT_lenOf _
       | exact simT_firstCells _ _ _
       | exact simT_copy _ _ _
       | exact simT_newObj' _
       | exact simT_env
      | exact simT_unsafeAdd _ _ _ _
      | exact simT_unsafeAdd' _ _ _ _
      | with_reducible first
       | exact simT_movedNumber _ _ _
       | exact simT_movedPointer _ _ _
       | exact simT_twoPlaces _ _
       | exact simT_addrSub _ _ _
       | exact simT_addrCmp _ _ _
       | exact simT_addrMod _ _ _
       | exact simT_floatArith _ _ _ _
       | exact simT_floatCmp _ _ _ _
       | exact simT_floatToFloat _ _ _
       | exact simT_floatToInt _ _ _
       | exact simT_carith _ _ _ _
       | exact simT_ccmp _ _ _ _
       | exact simT_cconv _ _ _
       | exact simT_cadd _ _
       | exact simT_csub _ _
       | exact simT_cmul _ _
       | exact simT_cquo _ _
       | exact simT_cproduct _ _ _ _
       | exact simT_ccorrected _ _ _ _ _
       | exact simT_cquotient _ _ _ _
       | exact simT_complexOp _ _ _ _ _ _
       | exact simT_intToInt _ _
       | exact simT_intToFloat _ _
       | exact simT_panicnil
       | exact simT_panic _
      | exact simT_ssaWrap _ _ _ _ _
      | with_reducible first
       | exact simT_get _ _
       | refine Sim.getObjT (fun o _ _ _ => ?_) (fun o ho => ?_)
       | refine Sim.bindT ?_ (fun _ => ?_)
       | refine Sim.ite (fun _ => ?_) (fun _ => ?_)
      | split
      | dsimp only)
  
theorem simT_receiverAt (t : TypeId) (x : Go.Place) (b : Bool) (n : Option String) : SimT V P (Go.receiverAt t x b n) := by
  unfold Go.receiverAt
  repeat' (first
    | (rcases sham_cases (by assumption) with rfl | rfl <;> (refine ⟨_, ?_, rfl⟩; trivial))
    | with_reducible first
     | exact simT_panicThen _ _
     | exact simT_stuckThen _ _
     | exact simT_unsupThen _ trivial
     | exact Sim.pureT
     | exact Sim.stuck
    | exact SimT.unsup trivial
    | with_reducible exact Sim.goPanic
    | exact simT_runtimePanic _
    | exact simT_boundsPanic _ _ _ _
    | with_reducible first
     | exact SimT.program
     | exact simT_typeInfo _
     | exact simT_underlying _
     | exact simT_zeroValue _
     | exact simT_sizeOf _
     | exact simT_isAgg _
     | exact simT_loadCells _ _
     | exact simT_storeCells _ _ _
     | exact simT_loadVar _ _
     | exact simT_storeVar _ _ _
     | exact simT_newRow _ _
     | exact simT_newVar _ _
     | exact simT_part _ _ _
     | exact simT_elemOf _
     | exact simT_asIntOf _
     | exact simT_asInt _
     | exact simT_asBool _
     | exact simT_asString _
     | exact simT_asAgg _
     | exact simT_asAddr _
     | exact simT_sureAddr _
     | exact simT_askRoom _
     | exact Sim.load _ _
     | exact Sim.shape _
     | exact Sim.choose _
     | exact simT_noView _
     | exact simT_numberAt _
     | exact simT_behindNumber _
     | exact simT_byteOf _
     | exact simT_partAt _ _ _
     | exact simT_fieldPlace _ _
     | exact simT_alloc _ _ _
     | exact simT_loadAt _ _
     | exact simT_storeAt _ _ _
     | exact simT_fieldAt _ _ _
     | exact simT_indexAt _ _ _
     | exact simT_sliceBound _ _ _
     | exact simT_sliceBounds _ _ _ _ _ _
     | exact simT_slice _ _ _ _ _
     | exact simT_sliceAt _ _ _ _ _
     | exact simT_arrayAt _ _
     | exact simT_box _ _
     | exact simT_buildSlice _ _ _
     | exact simT_makeInterface _ _
     | exact simT_makeFunc _ _ _
     | exact simT_makeChan _ _
     | exact simT_makeSlice _ _ _
     | exact simT_field _ _ _
     | exact simT_index _ _ _
     | exact simT_typeAssert _ _ _ _
     | exact simT_extract _ _
     | exact simT_intArith _ _ _ _
     | exact simT_intDiv _ _ _ _
     | exact simT_intBits _ _ _ _
     | exact simT_shift _ _ _ _ _
     | exact simT_intCmp _ _ _
     | exact simT_stringOp _ _ _
     | exact simT_unary _ _
     | exact simT_len _ _ _
     | exact simT_cap _ _ _
     | exact simT_lenOf _
     | exact simT_firstCells _ _ _
     | exact simT_copy _ _ _
     | exact simT_newObj' _
     | exact simT_env
    | exact simT_unsafeAdd _ _ _ _
    | exact simT_unsafeAdd' _ _ _ _
    | with_reducible first
     | exact simT_movedNumber _ _ _
     | exact simT_movedPointer _ _ _
     | exact simT_twoPlaces _ _
     | exact simT_addrSub _ _ _
     | exact simT_addrCmp _ _ _
     | exact simT_addrMod _ _ _
     | exact simT_floatArith _ _ _ _
     | exact simT_floatCmp _ _ _ _
     | exact simT_floatToFloat _ _ _
     | exact simT_floatToInt _ _ _
     | exact simT_carith _ _ _ _
     | exact simT_ccmp _ _ _ _
     | exact simT_cconv _ _ _
     | exact simT_cadd _ _
     | exact simT_csub _ _
     | exact simT_cmul _ _
     | exact simT_cquo _ _
     | exact simT_cproduct _ _ _ _
     | exact simT_ccorrected _ _ _ _ _
     | exact simT_cquotient _ _ _ _
     | exact simT_complexOp _ _ _ _ _ _
     | exact simT_intToInt _ _
     | exact simT_intToFloat _ _
     | exact simT_panicnil
     | exact simT_panic _
    | exact simT_ssaWrap _ _ _ _ _
    | with_reducible exact simT_get _ _
    | exact simT_follow _ _ _
    | with_reducible first
     | refine Sim.getObjT (fun o _ _ _ => ?_) (fun o ho => ?_)
     | refine Sim.bindT ?_ (fun _ => ?_)
     | refine Sim.ite (fun _ => ?_) (fun _ => ?_)
    | split
    | dsimp only)

theorem simT_receiverVia (t : TypeId) (v : Value) (p : Array FieldStep) (b : Bool) : SimT V P (Go.receiverVia t v p b) := by
  unfold Go.receiverVia
  repeat' (first
    | (rcases sham_cases (by assumption) with rfl | rfl <;> (refine ⟨_, ?_, rfl⟩; trivial))
    | with_reducible first
     | exact simT_panicThen _ _
     | exact simT_stuckThen _ _
     | exact simT_unsupThen _ trivial
     | exact Sim.pureT
     | exact Sim.stuck
    | exact SimT.unsup trivial
    | with_reducible exact Sim.goPanic
    | exact simT_runtimePanic _
    | exact simT_boundsPanic _ _ _ _
    | with_reducible first
     | exact SimT.program
     | exact simT_typeInfo _
     | exact simT_underlying _
     | exact simT_zeroValue _
     | exact simT_sizeOf _
     | exact simT_isAgg _
     | exact simT_loadCells _ _
     | exact simT_storeCells _ _ _
     | exact simT_loadVar _ _
     | exact simT_storeVar _ _ _
     | exact simT_newRow _ _
     | exact simT_newVar _ _
     | exact simT_part _ _ _
     | exact simT_elemOf _
     | exact simT_asIntOf _
     | exact simT_asInt _
     | exact simT_asBool _
     | exact simT_asString _
     | exact simT_asAgg _
     | exact simT_asAddr _
     | exact simT_sureAddr _
     | exact simT_askRoom _
     | exact Sim.load _ _
     | exact Sim.shape _
     | exact Sim.choose _
     | exact simT_noView _
     | exact simT_numberAt _
     | exact simT_behindNumber _
     | exact simT_byteOf _
     | exact simT_partAt _ _ _
     | exact simT_fieldPlace _ _
     | exact simT_alloc _ _ _
     | exact simT_loadAt _ _
     | exact simT_storeAt _ _ _
     | exact simT_fieldAt _ _ _
     | exact simT_indexAt _ _ _
     | exact simT_sliceBound _ _ _
     | exact simT_sliceBounds _ _ _ _ _ _
     | exact simT_slice _ _ _ _ _
     | exact simT_sliceAt _ _ _ _ _
     | exact simT_arrayAt _ _
     | exact simT_box _ _
     | exact simT_buildSlice _ _ _
     | exact simT_makeInterface _ _
     | exact simT_makeFunc _ _ _
     | exact simT_makeChan _ _
     | exact simT_makeSlice _ _ _
     | exact simT_field _ _ _
     | exact simT_index _ _ _
     | exact simT_typeAssert _ _ _ _
     | exact simT_extract _ _
     | exact simT_intArith _ _ _ _
     | exact simT_intDiv _ _ _ _
     | exact simT_intBits _ _ _ _
     | exact simT_shift _ _ _ _ _
     | exact simT_intCmp _ _ _
     | exact simT_stringOp _ _ _
     | exact simT_unary _ _
     | exact simT_len _ _ _
     | exact simT_cap _ _ _
     | exact simT_lenOf _
     | exact simT_firstCells _ _ _
     | exact simT_copy _ _ _
     | exact simT_newObj' _
     | exact simT_env
    | exact simT_unsafeAdd _ _ _ _
    | exact simT_unsafeAdd' _ _ _ _
    | with_reducible first
     | exact simT_movedNumber _ _ _
     | exact simT_movedPointer _ _ _
     | exact simT_twoPlaces _ _
     | exact simT_addrSub _ _ _
     | exact simT_addrCmp _ _ _
     | exact simT_addrMod _ _ _
     | exact simT_floatArith _ _ _ _
     | exact simT_floatCmp _ _ _ _
     | exact simT_floatToFloat _ _ _
     | exact simT_floatToInt _ _ _
     | exact simT_carith _ _ _ _
     | exact simT_ccmp _ _ _ _
     | exact simT_cconv _ _ _
     | exact simT_cadd _ _
     | exact simT_csub _ _
     | exact simT_cmul _ _
     | exact simT_cquo _ _
     | exact simT_cproduct _ _ _ _
     | exact simT_ccorrected _ _ _ _ _
     | exact simT_cquotient _ _ _ _
     | exact simT_complexOp _ _ _ _ _ _
     | exact simT_intToInt _ _
     | exact simT_intToFloat _ _
     | exact simT_panicnil
     | exact simT_panic _
    | exact simT_ssaWrap _ _ _ _ _
    | with_reducible exact simT_get _ _
    | exact simT_follow _ _ _
    | with_reducible first
     | exact simT_receiverAt _ _ _ _
     | refine Sim.getObjT (fun o _ _ _ => ?_) (fun o ho => ?_)
     | refine Sim.bindT ?_ (fun _ => ?_)
     | refine Sim.ite (fun _ => ?_) (fun _ => ?_)
    | split
    | dsimp only)

theorem simT_method : ∀ (n : Nat) (t : TypeId) (v : Value) (s : String), SimT V P (Go.method n t v s)
  | 0, t, v, s => SimT.unsup trivial
  | n + 1, t, v, s => by
    have ih := fun t v s => simT_method n t v s
    unfold Go.method
    repeat' (first
      | (rcases sham_cases (by assumption) with rfl | rfl <;> (refine ⟨_, ?_, rfl⟩; trivial))
      | exact ih _ _ _
      | with_reducible first
       | exact simT_panicThen _ _
       | exact simT_stuckThen _ _
       | exact simT_unsupThen _ trivial
       | exact Sim.pureT
       | exact Sim.stuck
      | exact SimT.unsup trivial
      | with_reducible exact Sim.goPanic
      | exact simT_runtimePanic _
      | exact simT_boundsPanic _ _ _ _
      | with_reducible first
       | exact SimT.program
       | exact simT_typeInfo _
       | exact simT_underlying _
       | exact simT_zeroValue _
       | exact simT_sizeOf _
       | exact simT_isAgg _
       | exact simT_loadCells _ _
       | exact simT_storeCells _ _ _
       | exact simT_loadVar _ _
       | exact simT_storeVar _ _ _
       | exact simT_newRow _ _
       | exact simT_newVar _ _
       | exact simT_part _ _ _
       | exact simT_elemOf _
       | exact simT_asIntOf _
       | exact simT_asInt _
       | exact simT_asBool _
       | exact simT_asString _
       | exact simT_asAgg _
       | exact simT_asAddr _
       | exact simT_sureAddr _
       | exact simT_askRoom _
       | exact Sim.load _ _
       | exact Sim.shape _
       | exact Sim.choose _
       | exact simT_noView _
       | exact simT_numberAt _
       | exact simT_behindNumber _
       | exact simT_byteOf _
       | exact simT_partAt _ _ _
       | exact simT_fieldPlace _ _
       | exact simT_alloc _ _ _
       | exact simT_loadAt _ _
       | exact simT_storeAt _ _ _
       | exact simT_fieldAt _ _ _
       | exact simT_indexAt _ _ _
       | exact simT_sliceBound _ _ _
       | exact simT_sliceBounds _ _ _ _ _ _
       | exact simT_slice _ _ _ _ _
       | exact simT_sliceAt _ _ _ _ _
       | exact simT_arrayAt _ _
       | exact simT_box _ _
       | exact simT_buildSlice _ _ _
       | exact simT_makeInterface _ _
       | exact simT_makeFunc _ _ _
       | exact simT_makeChan _ _
       | exact simT_makeSlice _ _ _
       | exact simT_field _ _ _
       | exact simT_index _ _ _
       | exact simT_typeAssert _ _ _ _
       | exact simT_extract _ _
       | exact simT_intArith _ _ _ _
       | exact simT_intDiv _ _ _ _
       | exact simT_intBits _ _ _ _
       | exact simT_shift _ _ _ _ _
       | exact simT_intCmp _ _ _
       | exact simT_stringOp _ _ _
       | exact simT_unary _ _
       | exact simT_len _ _ _
       | exact simT_cap _ _ _
       | exact simT_lenOf _
       | exact simT_firstCells _ _ _
       | exact simT_copy _ _ _
       | exact simT_newObj' _
       | exact simT_env
      | exact simT_unsafeAdd _ _ _ _
      | exact simT_unsafeAdd' _ _ _ _
      | with_reducible first
       | exact simT_movedNumber _ _ _
       | exact simT_movedPointer _ _ _
       | exact simT_twoPlaces _ _
       | exact simT_addrSub _ _ _
       | exact simT_addrCmp _ _ _
       | exact simT_addrMod _ _ _
       | exact simT_floatArith _ _ _ _
       | exact simT_floatCmp _ _ _ _
       | exact simT_floatToFloat _ _ _
       | exact simT_floatToInt _ _ _
       | exact simT_carith _ _ _ _
       | exact simT_ccmp _ _ _ _
       | exact simT_cconv _ _ _
       | exact simT_cadd _ _
       | exact simT_csub _ _
       | exact simT_cmul _ _
       | exact simT_cquo _ _
       | exact simT_cproduct _ _ _ _
       | exact simT_ccorrected _ _ _ _ _
       | exact simT_cquotient _ _ _ _
       | exact simT_complexOp _ _ _ _ _ _
       | exact simT_intToInt _ _
       | exact simT_intToFloat _ _
       | exact simT_panicnil
       | exact simT_panic _
      | exact simT_ssaWrap _ _ _ _ _
      | with_reducible exact simT_get _ _
      | exact simT_follow _ _ _
      | with_reducible first
       | exact simT_receiverAt _ _ _ _
       | exact simT_receiverVia _ _ _ _
       | refine Sim.getObjT (fun o _ _ _ => ?_) (fun o ho => ?_)
       | refine Sim.bindT ?_ (fun _ => ?_)
       | refine Sim.ite (fun _ => ?_) (fun _ => ?_)
      | split
      | dsimp only)
  
theorem simT_followBlind : ∀ (l : List FieldStep) (t : TypeId) (x : Option Value), SimT V P (Go.followBlind l t x)
  | [], t, x => Sim.pureT
  | s :: rest, t, x => by
    have ih := fun t x => simT_followBlind rest t x
    unfold Go.followBlind
    repeat' (first
      | (rcases sham_cases (by assumption) with rfl | rfl <;> (refine ⟨_, ?_, rfl⟩; trivial))
      | exact ih _ _
      | with_reducible first
       | exact simT_panicThen _ _
       | exact simT_stuckThen _ _
       | exact simT_unsupThen _ trivial
       | exact Sim.pureT
       | exact Sim.stuck
      | exact SimT.unsup trivial
      | with_reducible exact Sim.goPanic
      | exact simT_runtimePanic _
      | exact simT_boundsPanic _ _ _ _
      | with_reducible first
       | exact SimT.program
       | exact simT_typeInfo _
       | exact simT_underlying _
       | exact simT_zeroValue _
       | exact simT_sizeOf _
       | exact simT_isAgg _
       | exact simT_loadCells _ _
       | exact simT_storeCells _ _ _
       | exact simT_loadVar _ _
       | exact simT_storeVar _ _ _
       | exact simT_newRow _ _
       | exact simT_newVar _ _
       | exact simT_part _ _ _
       | exact simT_elemOf _
       | exact simT_asIntOf _
       | exact simT_asInt _
       | exact simT_asBool _
       | exact simT_asString _
       | exact simT_asAgg _
       | exact simT_asAddr _
       | exact simT_sureAddr _
       | exact simT_askRoom _
       | exact Sim.load _ _
       | exact Sim.shape _
       | exact Sim.choose _
       | exact simT_noView _
       | exact simT_numberAt _
       | exact simT_behindNumber _
       | exact simT_byteOf _
       | exact simT_partAt _ _ _
       | exact simT_fieldPlace _ _
       | exact simT_alloc _ _ _
       | exact simT_loadAt _ _
       | exact simT_storeAt _ _ _
       | exact simT_fieldAt _ _ _
       | exact simT_indexAt _ _ _
       | exact simT_sliceBound _ _ _
       | exact simT_sliceBounds _ _ _ _ _ _
       | exact simT_slice _ _ _ _ _
       | exact simT_sliceAt _ _ _ _ _
       | exact simT_arrayAt _ _
       | exact simT_box _ _
       | exact simT_buildSlice _ _ _
       | exact simT_makeInterface _ _
       | exact simT_makeFunc _ _ _
       | exact simT_makeChan _ _
       | exact simT_makeSlice _ _ _
       | exact simT_field _ _ _
       | exact simT_index _ _ _
       | exact simT_typeAssert _ _ _ _
       | exact simT_extract _ _
       | exact simT_intArith _ _ _ _
       | exact simT_intDiv _ _ _ _
       | exact simT_intBits _ _ _ _
       | exact simT_shift _ _ _ _ _
       | exact simT_intCmp _ _ _
       | exact simT_stringOp _ _ _
       | exact simT_unary _ _
       | exact simT_len _ _ _
       | exact simT_cap _ _ _
       | exact simT_lenOf _
       | exact simT_firstCells _ _ _
       | exact simT_copy _ _ _
       | exact simT_newObj' _
       | exact simT_env
      | exact simT_unsafeAdd _ _ _ _
      | exact simT_unsafeAdd' _ _ _ _
      | with_reducible first
       | exact simT_movedNumber _ _ _
       | exact simT_movedPointer _ _ _
       | exact simT_twoPlaces _ _
       | exact simT_addrSub _ _ _
       | exact simT_addrCmp _ _ _
       | exact simT_addrMod _ _ _
       | exact simT_floatArith _ _ _ _
       | exact simT_floatCmp _ _ _ _
       | exact simT_floatToFloat _ _ _
       | exact simT_floatToInt _ _ _
       | exact simT_carith _ _ _ _
       | exact simT_ccmp _ _ _ _
       | exact simT_cconv _ _ _
       | exact simT_cadd _ _
       | exact simT_csub _ _
       | exact simT_cmul _ _
       | exact simT_cquo _ _
       | exact simT_cproduct _ _ _ _
       | exact simT_ccorrected _ _ _ _ _
       | exact simT_cquotient _ _ _ _
       | exact simT_complexOp _ _ _ _ _ _
       | exact simT_intToInt _ _
       | exact simT_intToFloat _ _
       | exact simT_panicnil
       | exact simT_panic _
      | exact simT_ssaWrap _ _ _ _ _
      | with_reducible exact simT_get _ _
      | exact simT_follow _ _ _
      | with_reducible first
       | exact simT_receiverAt _ _ _ _
       | exact simT_receiverVia _ _ _ _
      | exact simT_method _ _ _ _
      | with_reducible first
       | refine Sim.getObjT (fun o _ _ _ => ?_) (fun o ho => ?_)
       | refine Sim.bindT ?_ (fun _ => ?_)
       | refine Sim.ite (fun _ => ?_) (fun _ => ?_)
      | split
      | dsimp only)
  
theorem simT_nilAhead : ∀ (n : Nat) (t : TypeId) (v : Value) (s : String), SimT V P (Go.nilAhead n t v s)
  | 0, t, v, s => Sim.pureT
  | n + 1, t, v, s => by
    have ih := fun t v s => simT_nilAhead n t v s
    unfold Go.nilAhead
    repeat' (first
      | (rcases sham_cases (by assumption) with rfl | rfl <;> (refine ⟨_, ?_, rfl⟩; trivial))
      | exact ih _ _ _
      | with_reducible first
       | exact simT_panicThen _ _
       | exact simT_stuckThen _ _
       | exact simT_unsupThen _ trivial
       | exact Sim.pureT
       | exact Sim.stuck
      | exact SimT.unsup trivial
      | with_reducible exact Sim.goPanic
      | exact simT_runtimePanic _
      | exact simT_boundsPanic _ _ _ _
      | with_reducible first
       | exact SimT.program
       | exact simT_typeInfo _
       | exact simT_underlying _
       | exact simT_zeroValue _
       | exact simT_sizeOf _
       | exact simT_isAgg _
       | exact simT_loadCells _ _
       | exact simT_storeCells _ _ _
       | exact simT_loadVar _ _
       | exact simT_storeVar _ _ _
       | exact simT_newRow _ _
       | exact simT_newVar _ _
       | exact simT_part _ _ _
       | exact simT_elemOf _
       | exact simT_asIntOf _
       | exact simT_asInt _
       | exact simT_asBool _
       | exact simT_asString _
       | exact simT_asAgg _
       | exact simT_asAddr _
       | exact simT_sureAddr _
       | exact simT_askRoom _
       | exact Sim.load _ _
       | exact Sim.shape _
       | exact Sim.choose _
       | exact simT_noView _
       | exact simT_numberAt _
       | exact simT_behindNumber _
       | exact simT_byteOf _
       | exact simT_partAt _ _ _
       | exact simT_fieldPlace _ _
       | exact simT_alloc _ _ _
       | exact simT_loadAt _ _
       | exact simT_storeAt _ _ _
       | exact simT_fieldAt _ _ _
       | exact simT_indexAt _ _ _
       | exact simT_sliceBound _ _ _
       | exact simT_sliceBounds _ _ _ _ _ _
       | exact simT_slice _ _ _ _ _
       | exact simT_sliceAt _ _ _ _ _
       | exact simT_arrayAt _ _
       | exact simT_box _ _
       | exact simT_buildSlice _ _ _
       | exact simT_makeInterface _ _
       | exact simT_makeFunc _ _ _
       | exact simT_makeChan _ _
       | exact simT_makeSlice _ _ _
       | exact simT_field _ _ _
       | exact simT_index _ _ _
       | exact simT_typeAssert _ _ _ _
       | exact simT_extract _ _
       | exact simT_intArith _ _ _ _
       | exact simT_intDiv _ _ _ _
       | exact simT_intBits _ _ _ _
       | exact simT_shift _ _ _ _ _
       | exact simT_intCmp _ _ _
       | exact simT_stringOp _ _ _
       | exact simT_unary _ _
       | exact simT_len _ _ _
       | exact simT_cap _ _ _
       | exact simT_lenOf _
       | exact simT_firstCells _ _ _
       | exact simT_copy _ _ _
       | exact simT_newObj' _
       | exact simT_env
      | exact simT_unsafeAdd _ _ _ _
      | exact simT_unsafeAdd' _ _ _ _
      | with_reducible first
       | exact simT_movedNumber _ _ _
       | exact simT_movedPointer _ _ _
       | exact simT_twoPlaces _ _
       | exact simT_addrSub _ _ _
       | exact simT_addrCmp _ _ _
       | exact simT_addrMod _ _ _
       | exact simT_floatArith _ _ _ _
       | exact simT_floatCmp _ _ _ _
       | exact simT_floatToFloat _ _ _
       | exact simT_floatToInt _ _ _
       | exact simT_carith _ _ _ _
       | exact simT_ccmp _ _ _ _
       | exact simT_cconv _ _ _
       | exact simT_cadd _ _
       | exact simT_csub _ _
       | exact simT_cmul _ _
       | exact simT_cquo _ _
       | exact simT_cproduct _ _ _ _
       | exact simT_ccorrected _ _ _ _ _
       | exact simT_cquotient _ _ _ _
       | exact simT_complexOp _ _ _ _ _ _
       | exact simT_intToInt _ _
       | exact simT_intToFloat _ _
       | exact simT_panicnil
       | exact simT_panic _
      | exact simT_ssaWrap _ _ _ _ _
      | with_reducible exact simT_get _ _
      | exact simT_follow _ _ _
      | with_reducible first
       | exact simT_receiverAt _ _ _ _
       | exact simT_receiverVia _ _ _ _
      | exact simT_method _ _ _ _
      | exact simT_followBlind _ _ _
      | with_reducible first
       | refine Sim.getObjT (fun o _ _ _ => ?_) (fun o ho => ?_)
       | refine Sim.bindT ?_ (fun _ => ?_)
       | refine Sim.ite (fun _ => ?_) (fun _ => ?_)
      | split
      | dsimp only)
  
theorem simT_build (t : TypeId) (p : Array (Nat × Value)) : SimT V P (Instr.build t p) := by
  unfold Instr.build
  repeat' (first
    | (rcases sham_cases (by assumption) with rfl | rfl <;> (refine ⟨_, ?_, rfl⟩; trivial))
    | (refine simT_mapM _ _ (fun _ => ?_))
    | with_reducible first
     | exact simT_panicThen _ _
     | exact simT_stuckThen _ _
     | exact simT_unsupThen _ trivial
     | exact Sim.pureT
     | exact Sim.stuck
    | exact SimT.unsup trivial
    | with_reducible exact Sim.goPanic
    | exact simT_runtimePanic _
    | exact simT_boundsPanic _ _ _ _
    | with_reducible first
     | exact SimT.program
     | exact simT_typeInfo _
     | exact simT_underlying _
     | exact simT_zeroValue _
     | exact simT_sizeOf _
     | exact simT_isAgg _
     | exact simT_loadCells _ _
     | exact simT_storeCells _ _ _
     | exact simT_loadVar _ _
     | exact simT_storeVar _ _ _
     | exact simT_newRow _ _
     | exact simT_newVar _ _
     | exact simT_part _ _ _
     | exact simT_elemOf _
     | exact simT_asIntOf _
     | exact simT_asInt _
     | exact simT_asBool _
     | exact simT_asString _
     | exact simT_asAgg _
     | exact simT_asAddr _
     | exact simT_sureAddr _
     | exact simT_askRoom _
     | exact Sim.load _ _
     | exact Sim.shape _
     | exact Sim.choose _
     | exact simT_noView _
     | exact simT_numberAt _
     | exact simT_behindNumber _
     | exact simT_byteOf _
     | exact simT_partAt _ _ _
     | exact simT_fieldPlace _ _
     | exact simT_alloc _ _ _
     | exact simT_loadAt _ _
     | exact simT_storeAt _ _ _
     | exact simT_fieldAt _ _ _
     | exact simT_indexAt _ _ _
     | exact simT_sliceBound _ _ _
     | exact simT_sliceBounds _ _ _ _ _ _
     | exact simT_slice _ _ _ _ _
     | exact simT_sliceAt _ _ _ _ _
     | exact simT_arrayAt _ _
     | exact simT_box _ _
     | exact simT_buildSlice _ _ _
     | exact simT_makeInterface _ _
     | exact simT_makeFunc _ _ _
     | exact simT_makeChan _ _
     | exact simT_makeSlice _ _ _
     | exact simT_field _ _ _
     | exact simT_index _ _ _
     | exact simT_typeAssert _ _ _ _
     | exact simT_extract _ _
     | exact simT_intArith _ _ _ _
     | exact simT_intDiv _ _ _ _
     | exact simT_intBits _ _ _ _
     | exact simT_shift _ _ _ _ _
     | exact simT_intCmp _ _ _
     | exact simT_stringOp _ _ _
     | exact simT_unary _ _
     | exact simT_len _ _ _
     | exact simT_cap _ _ _
     | exact simT_lenOf _
     | exact simT_firstCells _ _ _
     | exact simT_copy _ _ _
     | exact simT_newObj' _
     | exact simT_env
    | exact simT_unsafeAdd _ _ _ _
    | exact simT_unsafeAdd' _ _ _ _
    | with_reducible first
     | exact simT_movedNumber _ _ _
     | exact simT_movedPointer _ _ _
     | exact simT_twoPlaces _ _
     | exact simT_addrSub _ _ _
     | exact simT_addrCmp _ _ _
     | exact simT_addrMod _ _ _
     | exact simT_floatArith _ _ _ _
     | exact simT_floatCmp _ _ _ _
     | exact simT_floatToFloat _ _ _
     | exact simT_floatToInt _ _ _
     | exact simT_carith _ _ _ _
     | exact simT_ccmp _ _ _ _
     | exact simT_cconv _ _ _
     | exact simT_cadd _ _
     | exact simT_csub _ _
     | exact simT_cmul _ _
     | exact simT_cquo _ _
     | exact simT_cproduct _ _ _ _
     | exact simT_ccorrected _ _ _ _ _
     | exact simT_cquotient _ _ _ _
     | exact simT_complexOp _ _ _ _ _ _
     | exact simT_intToInt _ _
     | exact simT_intToFloat _ _
     | exact simT_panicnil
     | exact simT_panic _
    | exact simT_ssaWrap _ _ _ _ _
    | with_reducible exact simT_get _ _
    | exact simT_follow _ _ _
    | with_reducible first
     | exact simT_receiverAt _ _ _ _
     | exact simT_receiverVia _ _ _ _
    | exact simT_method _ _ _ _
    | exact simT_followBlind _ _ _
    | exact simT_nilAhead _ _ _ _
    | with_reducible first
     | refine Sim.getObjT (fun o _ _ _ => ?_) (fun o ho => ?_)
     | refine Sim.bindT ?_ (fun _ => ?_)
     | refine Sim.ite (fun _ => ?_) (fun _ => ?_)
    | split
    | dsimp only)

theorem simT_holdsCells (a : Addr) (n : Nat) : SimT V P (Builtin.holdsCells a n) := by
  unfold Builtin.holdsCells
  repeat' (first
    | (rcases sham_cases (by assumption) with rfl | rfl <;> (refine ⟨_, ?_, rfl⟩; trivial))
    | with_reducible first
     | exact simT_panicThen _ _
     | exact simT_stuckThen _ _
     | exact simT_unsupThen _ trivial
     | exact Sim.pureT
     | exact Sim.stuck
    | exact SimT.unsup trivial
    | with_reducible exact Sim.goPanic
    | exact simT_runtimePanic _
    | exact simT_boundsPanic _ _ _ _
    | with_reducible first
     | exact SimT.program
     | exact simT_typeInfo _
     | exact simT_underlying _
     | exact simT_zeroValue _
     | exact simT_sizeOf _
     | exact simT_isAgg _
     | exact simT_loadCells _ _
     | exact simT_storeCells _ _ _
     | exact simT_loadVar _ _
     | exact simT_storeVar _ _ _
     | exact simT_newRow _ _
     | exact simT_newVar _ _
     | exact simT_part _ _ _
     | exact simT_elemOf _
     | exact simT_asIntOf _
     | exact simT_asInt _
     | exact simT_asBool _
     | exact simT_asString _
     | exact simT_asAgg _
     | exact simT_asAddr _
     | exact simT_sureAddr _
     | exact simT_askRoom _
     | exact Sim.load _ _
     | exact Sim.shape _
     | exact Sim.choose _
     | exact simT_noView _
     | exact simT_numberAt _
     | exact simT_behindNumber _
     | exact simT_byteOf _
     | exact simT_partAt _ _ _
     | exact simT_fieldPlace _ _
     | exact simT_alloc _ _ _
     | exact simT_loadAt _ _
     | exact simT_storeAt _ _ _
     | exact simT_fieldAt _ _ _
     | exact simT_indexAt _ _ _
     | exact simT_sliceBound _ _ _
     | exact simT_sliceBounds _ _ _ _ _ _
     | exact simT_slice _ _ _ _ _
     | exact simT_sliceAt _ _ _ _ _
     | exact simT_arrayAt _ _
     | exact simT_box _ _
     | exact simT_buildSlice _ _ _
     | exact simT_makeInterface _ _
     | exact simT_makeFunc _ _ _
     | exact simT_makeChan _ _
     | exact simT_makeSlice _ _ _
     | exact simT_field _ _ _
     | exact simT_index _ _ _
     | exact simT_typeAssert _ _ _ _
     | exact simT_extract _ _
     | exact simT_intArith _ _ _ _
     | exact simT_intDiv _ _ _ _
     | exact simT_intBits _ _ _ _
     | exact simT_shift _ _ _ _ _
     | exact simT_intCmp _ _ _
     | exact simT_stringOp _ _ _
     | exact simT_unary _ _
     | exact simT_len _ _ _
     | exact simT_cap _ _ _
     | exact simT_lenOf _
     | exact simT_firstCells _ _ _
     | exact simT_copy _ _ _
     | exact simT_newObj' _
     | exact simT_env
    | exact simT_unsafeAdd _ _ _ _
    | exact simT_unsafeAdd' _ _ _ _
    | with_reducible first
     | exact simT_movedNumber _ _ _
     | exact simT_movedPointer _ _ _
     | exact simT_twoPlaces _ _
     | exact simT_addrSub _ _ _
     | exact simT_addrCmp _ _ _
     | exact simT_addrMod _ _ _
     | exact simT_floatArith _ _ _ _
     | exact simT_floatCmp _ _ _ _
     | exact simT_floatToFloat _ _ _
     | exact simT_floatToInt _ _ _
     | exact simT_carith _ _ _ _
     | exact simT_ccmp _ _ _ _
     | exact simT_cconv _ _ _
     | exact simT_cadd _ _
     | exact simT_csub _ _
     | exact simT_cmul _ _
     | exact simT_cquo _ _
     | exact simT_cproduct _ _ _ _
     | exact simT_ccorrected _ _ _ _ _
     | exact simT_cquotient _ _ _ _
     | exact simT_complexOp _ _ _ _ _ _
     | exact simT_intToInt _ _
     | exact simT_intToFloat _ _
     | exact simT_panicnil
     | exact simT_panic _
    | exact simT_ssaWrap _ _ _ _ _
    | with_reducible exact simT_get _ _
    | exact simT_follow _ _ _
    | with_reducible first
     | exact simT_receiverAt _ _ _ _
     | exact simT_receiverVia _ _ _ _
    | exact simT_method _ _ _ _
    | exact simT_followBlind _ _ _
    | exact simT_nilAhead _ _ _ _
    | with_reducible first
     | exact simT_build _ _
     | refine Sim.getObjT (fun o _ _ _ => ?_) (fun o ho => ?_)
     | refine Sim.bindT ?_ (fun _ => ?_)
     | refine Sim.ite (fun _ => ?_) (fun _ => ?_)
    | split
    | dsimp only)

end
end Go.Proofs.Ytnbaiinhalplcaa
