/- The veiled twin, through an operation as a whole, and a call. Of whatever program. Conditions: none. -/
import Derived.Test.YtodcnhodbeakiaaLfF
namespace Go.Proofs.Ytodcnhodbeakiaa
set_option linter.unusedVariables false
set_option linter.unusedSimpArgs false

section
variable {V : Veil} {P : Program} {α β : Type}

theorem sim_underlying (t : TypeId) : Sim V P (underlying t) (fun d => P.underlying t = some d) := by
  unfold underlying
  refine Sim.bind Sim.program fun p hp => ?_
  subst hp
  split
  · exact Sim.pure (by assumption)
  · exact Sim.stuck

def plainDesc : TypeDesc → Bool
  | .int _ | .bool | .string => true
  | _ => false
def nilConst : Operand → Bool
  | .const (.pointer none) | .const .nilIface | .const .nilFunc => true
  | _ => false
/-- A type of plain values: numbers, truths, strings, and structs of such. -/
def plainTy (P : Program) : Nat → TypeId → Bool
  | 0, _ => false
  | n + 1, t => match P.underlying t with
    | some (.struct fs) => fs.all fun f => plainTy P n f.type
    | some d => plainDesc d
    | none => false
def eqOK (P : Program) (t : TypeId) (y : Operand) : Bool := plainTy P (min 6 P.depth) t || nilConst y
def nilValue : Value → Bool
  | .pointer none | .nilIface | .nilFunc => true
  | _ => false

set_option maxHeartbeats 4000000 in
theorem simT_equal_base {t : TypeId} (h : (P.underlying t).any plainDesc = true) (m : Nat) (x y : Value) : SimT V P (Op.equalIn (m + 1) t x y) := by
  unfold Op.equalIn
  refine Sim.bind (sim_underlying t) fun d hd => ?_
  rw [hd] at h
  cases d <;> simp only [Option.any_some, plainDesc, Bool.false_eq_true] at h
  all_goals clear hd h
  repeat' (first
    | (rcases sham_cases (by assumption) with rfl | rfl <;> (refine ⟨_, ?_, rfl⟩; trivial))
    | contradiction
    | with_reducible exact simT_panicThen _ _
    | with_reducible exact simT_stuckThen _ _
    | with_reducible exact simT_unsupThen _ trivial
    | with_reducible exact Sim.pureT
    | with_reducible exact Sim.stuck
    | exact SimT.unsup trivial
    | with_reducible exact Sim.goPanic
    | exact simT_runtimePanic _
    | exact simT_boundsPanic _ _ _ _
    | with_reducible exact SimT.program
    | with_reducible exact simT_typeInfo _
    | with_reducible exact simT_underlying _
    | with_reducible exact simT_zeroValue _
    | with_reducible exact simT_sizeOf _
    | with_reducible exact simT_isAgg _
    | with_reducible exact simT_loadCells _ _
    | with_reducible exact simT_storeCells _ _ _
    | with_reducible exact simT_loadVar _ _
    | with_reducible exact simT_storeVar _ _ _
    | with_reducible exact simT_newRow _ _
    | with_reducible exact simT_newVar _ _
    | with_reducible exact simT_part _ _ _
    | with_reducible exact simT_elemOf _
    | with_reducible exact simT_asIntOf _
    | with_reducible exact simT_asInt _
    | with_reducible exact simT_asBool _
    | with_reducible exact simT_asString _
    | with_reducible exact simT_asAgg _
    | with_reducible exact simT_asAddr _
    | with_reducible exact simT_sureAddr _
    | with_reducible exact simT_askRoom _
    | with_reducible exact Sim.load _ _
    | with_reducible exact Sim.shape _
    | with_reducible exact Sim.choose _
    | with_reducible exact simT_noView _
    | with_reducible exact simT_numberAt _
    | with_reducible exact simT_behindNumber _
    | with_reducible exact simT_byteOf _
    | with_reducible exact simT_partAt _ _ _
    | with_reducible exact simT_fieldPlace _ _
    | with_reducible exact simT_alloc _ _ _
    | with_reducible exact simT_loadAt _ _
    | with_reducible exact simT_storeAt _ _ _
    | with_reducible exact simT_fieldAt _ _ _
    | with_reducible exact simT_indexAt _ _ _
    | with_reducible exact simT_sliceBound _ _ _
    | with_reducible exact simT_sliceBounds _ _ _ _ _ _
    | with_reducible exact simT_slice _ _ _ _ _
    | with_reducible exact simT_sliceAt _ _ _ _ _
    | with_reducible exact simT_arrayAt _ _
    | with_reducible exact simT_box _ _
    | with_reducible exact simT_buildSlice _ _ _
    | with_reducible exact simT_makeInterface _ _
    | with_reducible exact simT_makeFunc _ _ _
    | with_reducible exact simT_makeChan _ _
    | with_reducible exact simT_makeSlice _ _ _
    | with_reducible exact simT_field _ _ _
    | with_reducible exact simT_index _ _ _
    | with_reducible exact simT_typeAssert _ _ _ _
    | with_reducible exact simT_extract _ _
    | with_reducible exact simT_intArith _ _ _ _
    | with_reducible exact simT_intDiv _ _ _ _
    | with_reducible exact simT_intBits _ _ _ _
    | with_reducible exact simT_shift _ _ _ _ _
    | with_reducible exact simT_intCmp _ _ _
    | with_reducible exact simT_stringOp _ _ _
    | with_reducible exact simT_unary _ _
    | with_reducible exact simT_len _ _ _
    | with_reducible exact simT_cap _ _ _
    | with_reducible exact simT_lenOf _
    | with_reducible exact simT_firstCells _ _ _
    | with_reducible exact simT_copy _ _ _
    | with_reducible exact simT_newObj' _
    | with_reducible exact simT_env
    | exact simT_unsafeAdd _ _ _ _
    | exact simT_unsafeAdd' _ _ _ _
    | with_reducible exact simT_movedNumber _ _ _
    | with_reducible exact simT_movedPointer _ _ _
    | with_reducible exact simT_twoPlaces _ _
    | with_reducible exact simT_addrSub _ _ _
    | with_reducible exact simT_addrCmp _ _ _
    | with_reducible exact simT_addrMod _ _ _
    | with_reducible exact simT_floatArith _ _ _ _
    | with_reducible exact simT_floatCmp _ _ _ _
    | with_reducible exact simT_floatToFloat _ _ _
    | with_reducible exact simT_floatToInt _ _ _
    | with_reducible exact simT_carith _ _ _ _
    | with_reducible exact simT_ccmp _ _ _ _
    | with_reducible exact simT_cconv _ _ _
    | with_reducible exact simT_cadd _ _
    | with_reducible exact simT_csub _ _
    | with_reducible exact simT_cmul _ _
    | with_reducible exact simT_cquo _ _
    | with_reducible exact simT_cproduct _ _ _ _
    | with_reducible exact simT_ccorrected _ _ _ _ _
    | with_reducible exact simT_cquotient _ _ _ _
    | with_reducible exact simT_complexOp _ _ _ _ _ _
    | with_reducible exact simT_intToInt _ _
    | with_reducible exact simT_intToFloat _ _
    | with_reducible exact simT_panicnil
    | with_reducible exact simT_panic _
    | exact simT_ssaWrap _ _ _ _ _
    | with_reducible exact simT_get _ _
    | exact simT_follow _ _ _
    | with_reducible exact simT_receiverAt _ _ _ _
    | with_reducible exact simT_receiverVia _ _ _ _
    | exact simT_method _ _ _ _
    | exact simT_followBlind _ _ _
    | exact simT_nilAhead _ _ _ _
    | with_reducible exact simT_build _ _
    | with_reducible exact simT_holdsCells _ _
    | with_reducible exact simT_append _ _ _
    | (with_reducible refine Sim.getObjT (fun o _ _ _ => ?_) (fun o ho => ?_))
    | (with_reducible refine Sim.bindT ?_ (fun _ => ?_))
    | (with_reducible refine Sim.ite (fun _ => ?_) (fun _ => ?_))
    | split
    | dsimp only)

theorem simT_forIn {f : α → β → Sem (ForInStep β)} : ∀ (l : List α) (b : β), (∀ a ∈ l, ∀ b, SimT V P (f a b)) → SimT V P (forIn l b f)
  | [], b, _ => by rw [List.forIn_nil]; exact Sim.pureT
  | a :: l, b, h => by
    rw [List.forIn_cons]
    refine Sim.bindT (h a (by simp) b) fun s => ?_
    cases s with
    | done b => exact Sim.pureT
    | yield b => exact simT_forIn l b fun x hx => h x (by simp [hx])

theorem simT_equalIn_plain : ∀ (n m : Nat) {t : TypeId} (_ : plainTy P n t = true) (x y : Value), SimT V P (Op.equalIn m t x y)
  | 0, _, _, h, _, _ => by cases h
  | n + 1, 0, t, h, x, y => SimT.unsup trivial
  | n + 1, m + 1, t, h, x, y => by
    cases hd : P.underlying t with
    | none => simp [plainTy, hd] at h
    | some d =>
      cases d with
      | struct fs =>
        simp only [plainTy, hd, Array.all_eq_true_iff_forall_mem] at h
        unfold Op.equalIn
        refine Sim.bind (sim_underlying t) fun d' hd' => ?_
        obtain rfl := Option.some.inj (hd.symm.trans hd')
        cases x with
        | agg xs =>
          cases y with
          | agg ys =>
            refine Sim.bindT SimT.program fun p => ?_
            refine Sim.ite (fun _ => Sim.bindT (by exact SimT.unsup trivial) fun _ => ?_) (fun _ => ?_)
            all_goals
              rw [← Array.forIn_toList]
              refine Sim.bindT (simT_forIn _ _ fun f hf b => ?_) fun r => ?_
              · refine Sim.ite (fun _ => ?_) (fun _ => Sim.pureT)
                refine Sim.bindT (simT_part _ _ _) fun a => Sim.bindT (simT_part _ _ _) fun c => Sim.bindT (simT_equalIn_plain n m (h f (by simpa using hf)) a c) fun e => ?_
                exact Sim.ite (fun _ => Sim.pureT) (fun _ => Sim.pureT)
              · dsimp only
                split <;> exact Sim.pureT
          | _ => exact Sim.stuck
        | _ => exact Sim.stuck
      | _ => exact simT_equal_base (by rw [hd]; simpa [plainTy, hd] using h) m x y
theorem simT_equal_plain {t : TypeId} (h : plainTy P (min 6 P.depth) t = true) (x y : Value) : SimT V P (Op.equal t x y) := simT_equalIn_plain _ _ h x y

theorem simT_samePointerNone (a : Option Addr) : SimT V P (samePointer a none) := by
  cases a <;> exact Sim.pureT
set_option maxHeartbeats 4000000 in
theorem simT_equal_nil (t : TypeId) (x : Value) {y : Value} (h : nilValue y = true) : SimT V P (Op.equal t x y) := by
  show SimT V P (Op.equalIn (9999 + 1) t x y)
  unfold Op.equalIn
  refine Sim.bindT (simT_underlying t) fun d => ?_
  unfold nilValue at h
  split at h
  rotate_right
  · cases h
  all_goals clear h
  repeat' (first
    | (rcases sham_cases (by assumption) with rfl | rfl <;> (refine ⟨_, ?_, rfl⟩; trivial))
    | (injections; done)
    | (injections; subst_vars; exact simT_samePointerNone _)
    | contradiction
    | with_reducible exact simT_panicThen _ _
    | with_reducible exact simT_stuckThen _ _
    | with_reducible exact simT_unsupThen _ trivial
    | with_reducible exact Sim.pureT
    | with_reducible exact Sim.stuck
    | exact SimT.unsup trivial
    | with_reducible exact Sim.goPanic
    | exact simT_runtimePanic _
    | exact simT_boundsPanic _ _ _ _
    | with_reducible exact SimT.program
    | with_reducible exact simT_typeInfo _
    | with_reducible exact simT_underlying _
    | with_reducible exact simT_zeroValue _
    | with_reducible exact simT_sizeOf _
    | with_reducible exact simT_isAgg _
    | with_reducible exact simT_loadCells _ _
    | with_reducible exact simT_storeCells _ _ _
    | with_reducible exact simT_loadVar _ _
    | with_reducible exact simT_storeVar _ _ _
    | with_reducible exact simT_newRow _ _
    | with_reducible exact simT_newVar _ _
    | with_reducible exact simT_part _ _ _
    | with_reducible exact simT_elemOf _
    | with_reducible exact simT_asIntOf _
    | with_reducible exact simT_asInt _
    | with_reducible exact simT_asBool _
    | with_reducible exact simT_asString _
    | with_reducible exact simT_asAgg _
    | with_reducible exact simT_asAddr _
    | with_reducible exact simT_sureAddr _
    | with_reducible exact simT_askRoom _
    | with_reducible exact Sim.load _ _
    | with_reducible exact Sim.shape _
    | with_reducible exact Sim.choose _
    | with_reducible exact simT_noView _
    | with_reducible exact simT_numberAt _
    | with_reducible exact simT_behindNumber _
    | with_reducible exact simT_byteOf _
    | with_reducible exact simT_partAt _ _ _
    | with_reducible exact simT_fieldPlace _ _
    | with_reducible exact simT_alloc _ _ _
    | with_reducible exact simT_loadAt _ _
    | with_reducible exact simT_storeAt _ _ _
    | with_reducible exact simT_fieldAt _ _ _
    | with_reducible exact simT_indexAt _ _ _
    | with_reducible exact simT_sliceBound _ _ _
    | with_reducible exact simT_sliceBounds _ _ _ _ _ _
    | with_reducible exact simT_slice _ _ _ _ _
    | with_reducible exact simT_sliceAt _ _ _ _ _
    | with_reducible exact simT_arrayAt _ _
    | with_reducible exact simT_box _ _
    | with_reducible exact simT_buildSlice _ _ _
    | with_reducible exact simT_makeInterface _ _
    | with_reducible exact simT_makeFunc _ _ _
    | with_reducible exact simT_makeChan _ _
    | with_reducible exact simT_makeSlice _ _ _
    | with_reducible exact simT_field _ _ _
    | with_reducible exact simT_index _ _ _
    | with_reducible exact simT_typeAssert _ _ _ _
    | with_reducible exact simT_extract _ _
    | with_reducible exact simT_intArith _ _ _ _
    | with_reducible exact simT_intDiv _ _ _ _
    | with_reducible exact simT_intBits _ _ _ _
    | with_reducible exact simT_shift _ _ _ _ _
    | with_reducible exact simT_intCmp _ _ _
    | with_reducible exact simT_stringOp _ _ _
    | with_reducible exact simT_unary _ _
    | with_reducible exact simT_len _ _ _
    | with_reducible exact simT_cap _ _ _
    | with_reducible exact simT_lenOf _
    | with_reducible exact simT_firstCells _ _ _
    | with_reducible exact simT_copy _ _ _
    | with_reducible exact simT_newObj' _
    | with_reducible exact simT_env
    | exact simT_unsafeAdd _ _ _ _
    | exact simT_unsafeAdd' _ _ _ _
    | with_reducible exact simT_movedNumber _ _ _
    | with_reducible exact simT_movedPointer _ _ _
    | with_reducible exact simT_twoPlaces _ _
    | with_reducible exact simT_addrSub _ _ _
    | with_reducible exact simT_addrCmp _ _ _
    | with_reducible exact simT_addrMod _ _ _
    | with_reducible exact simT_floatArith _ _ _ _
    | with_reducible exact simT_floatCmp _ _ _ _
    | with_reducible exact simT_floatToFloat _ _ _
    | with_reducible exact simT_floatToInt _ _ _
    | with_reducible exact simT_carith _ _ _ _
    | with_reducible exact simT_ccmp _ _ _ _
    | with_reducible exact simT_cconv _ _ _
    | with_reducible exact simT_cadd _ _
    | with_reducible exact simT_csub _ _
    | with_reducible exact simT_cmul _ _
    | with_reducible exact simT_cquo _ _
    | with_reducible exact simT_cproduct _ _ _ _
    | with_reducible exact simT_ccorrected _ _ _ _ _
    | with_reducible exact simT_cquotient _ _ _ _
    | with_reducible exact simT_complexOp _ _ _ _ _ _
    | with_reducible exact simT_intToInt _ _
    | with_reducible exact simT_intToFloat _ _
    | with_reducible exact simT_panicnil
    | with_reducible exact simT_panic _
    | exact simT_ssaWrap _ _ _ _ _
    | with_reducible exact simT_get _ _
    | exact simT_follow _ _ _
    | with_reducible exact simT_receiverAt _ _ _ _
    | with_reducible exact simT_receiverVia _ _ _ _
    | exact simT_method _ _ _ _
    | exact simT_followBlind _ _ _
    | exact simT_nilAhead _ _ _ _
    | with_reducible exact simT_build _ _
    | with_reducible exact simT_holdsCells _ _
    | with_reducible exact simT_append _ _ _
    | (with_reducible refine Sim.getObjT (fun o _ _ _ => ?_) (fun o ho => ?_))
    | (with_reducible refine Sim.bindT ?_ (fun _ => ?_))
    | (with_reducible refine Sim.ite (fun _ => ?_) (fun _ => ?_))
    | split
    | dsimp only)


set_option maxHeartbeats 8000000 in
theorem simT_binOp0 (o : BinOp) (t : TypeId) (x y : Value) (h : (o = .eql ∨ o = .neq) → SimT V P (Op.equal t x y)) : SimT V P (binOp o t x y) := by
  unfold binOp
  repeat' (first
    | (rcases sham_cases (by assumption) with rfl | rfl <;> (refine ⟨_, ?_, rfl⟩; trivial))
    | (exact Sim.bindT (h (by simp)) fun _ => Sim.pureT)
    | contradiction
    | with_reducible exact simT_panicThen _ _
    | with_reducible exact simT_stuckThen _ _
    | with_reducible exact simT_unsupThen _ trivial
    | with_reducible exact Sim.pureT
    | with_reducible exact Sim.stuck
    | exact SimT.unsup trivial
    | with_reducible exact Sim.goPanic
    | exact simT_runtimePanic _
    | exact simT_boundsPanic _ _ _ _
    | with_reducible exact SimT.program
    | with_reducible exact simT_typeInfo _
    | with_reducible exact simT_underlying _
    | with_reducible exact simT_zeroValue _
    | with_reducible exact simT_sizeOf _
    | with_reducible exact simT_isAgg _
    | with_reducible exact simT_loadCells _ _
    | with_reducible exact simT_storeCells _ _ _
    | with_reducible exact simT_loadVar _ _
    | with_reducible exact simT_storeVar _ _ _
    | with_reducible exact simT_newRow _ _
    | with_reducible exact simT_newVar _ _
    | with_reducible exact simT_part _ _ _
    | with_reducible exact simT_elemOf _
    | with_reducible exact simT_asIntOf _
    | with_reducible exact simT_asInt _
    | with_reducible exact simT_asBool _
    | with_reducible exact simT_asString _
    | with_reducible exact simT_asAgg _
    | with_reducible exact simT_asAddr _
    | with_reducible exact simT_sureAddr _
    | with_reducible exact simT_askRoom _
    | with_reducible exact Sim.load _ _
    | with_reducible exact Sim.shape _
    | with_reducible exact Sim.choose _
    | with_reducible exact simT_noView _
    | with_reducible exact simT_numberAt _
    | with_reducible exact simT_behindNumber _
    | with_reducible exact simT_byteOf _
    | with_reducible exact simT_partAt _ _ _
    | with_reducible exact simT_fieldPlace _ _
    | with_reducible exact simT_alloc _ _ _
    | with_reducible exact simT_loadAt _ _
    | with_reducible exact simT_storeAt _ _ _
    | with_reducible exact simT_fieldAt _ _ _
    | with_reducible exact simT_indexAt _ _ _
    | with_reducible exact simT_sliceBound _ _ _
    | with_reducible exact simT_sliceBounds _ _ _ _ _ _
    | with_reducible exact simT_slice _ _ _ _ _
    | with_reducible exact simT_sliceAt _ _ _ _ _
    | with_reducible exact simT_arrayAt _ _
    | with_reducible exact simT_box _ _
    | with_reducible exact simT_buildSlice _ _ _
    | with_reducible exact simT_makeInterface _ _
    | with_reducible exact simT_makeFunc _ _ _
    | with_reducible exact simT_makeChan _ _
    | with_reducible exact simT_makeSlice _ _ _
    | with_reducible exact simT_field _ _ _
    | with_reducible exact simT_index _ _ _
    | with_reducible exact simT_typeAssert _ _ _ _
    | with_reducible exact simT_extract _ _
    | with_reducible exact simT_intArith _ _ _ _
    | with_reducible exact simT_intDiv _ _ _ _
    | with_reducible exact simT_intBits _ _ _ _
    | with_reducible exact simT_shift _ _ _ _ _
    | with_reducible exact simT_intCmp _ _ _
    | with_reducible exact simT_stringOp _ _ _
    | with_reducible exact simT_unary _ _
    | with_reducible exact simT_len _ _ _
    | with_reducible exact simT_cap _ _ _
    | with_reducible exact simT_lenOf _
    | with_reducible exact simT_firstCells _ _ _
    | with_reducible exact simT_copy _ _ _
    | with_reducible exact simT_newObj' _
    | with_reducible exact simT_env
    | exact simT_unsafeAdd _ _ _ _
    | exact simT_unsafeAdd' _ _ _ _
    | with_reducible exact simT_movedNumber _ _ _
    | with_reducible exact simT_movedPointer _ _ _
    | with_reducible exact simT_twoPlaces _ _
    | with_reducible exact simT_addrSub _ _ _
    | with_reducible exact simT_addrCmp _ _ _
    | with_reducible exact simT_addrMod _ _ _
    | with_reducible exact simT_floatArith _ _ _ _
    | with_reducible exact simT_floatCmp _ _ _ _
    | with_reducible exact simT_floatToFloat _ _ _
    | with_reducible exact simT_floatToInt _ _ _
    | with_reducible exact simT_carith _ _ _ _
    | with_reducible exact simT_ccmp _ _ _ _
    | with_reducible exact simT_cconv _ _ _
    | with_reducible exact simT_cadd _ _
    | with_reducible exact simT_csub _ _
    | with_reducible exact simT_cmul _ _
    | with_reducible exact simT_cquo _ _
    | with_reducible exact simT_cproduct _ _ _ _
    | with_reducible exact simT_ccorrected _ _ _ _ _
    | with_reducible exact simT_cquotient _ _ _ _
    | with_reducible exact simT_complexOp _ _ _ _ _ _
    | with_reducible exact simT_intToInt _ _
    | with_reducible exact simT_intToFloat _ _
    | with_reducible exact simT_panicnil
    | with_reducible exact simT_panic _
    | exact simT_ssaWrap _ _ _ _ _
    | with_reducible exact simT_get _ _
    | exact simT_follow _ _ _
    | with_reducible exact simT_receiverAt _ _ _ _
    | with_reducible exact simT_receiverVia _ _ _ _
    | exact simT_method _ _ _ _
    | exact simT_followBlind _ _ _
    | exact simT_nilAhead _ _ _ _
    | with_reducible exact simT_build _ _
    | with_reducible exact simT_holdsCells _ _
    | with_reducible exact simT_append _ _ _
    | (with_reducible refine Sim.getObjT (fun o _ _ _ => ?_) (fun o ho => ?_))
    | (with_reducible refine Sim.bindT ?_ (fun _ => ?_))
    | (with_reducible refine Sim.ite (fun _ => ?_) (fun _ => ?_))
    | split
    | dsimp only)

theorem eqGuardType_plainN : ∀ (n m : Nat) {t : TypeId} (_ : plainTy P n t = true) (_ : n ≤ m), P.eqGuardType m t = false
  | 0, _, _, h, _ => by cases h
  | n + 1, 0, _, _, h => by omega
  | n + 1, m + 1, t, h, hm => by
    unfold Program.eqGuardType
    cases hu : P.underlying t with
    | none => rfl
    | some d =>
      simp only [plainTy, hu] at h
      cases d with
      | struct fs =>
        simp only [Array.all_eq_true_iff_forall_mem] at h
        show (fs.any fun f => f.name != "_" && P.eqGuardType m f.type) = false
        rw [Array.any_eq_false]
        intro i hi
        simp [eqGuardType_plainN n m (h fs[i] (by simp)) (by omega)]
      | _ => first | rfl | (simp [plainDesc] at h)
theorem eqGuardType_plain {t : TypeId} (h : plainTy P (min 6 P.depth) t = true) : P.eqGuardType P.depth t = false := eqGuardType_plainN _ _ h (Nat.min_le_right _ _)
theorem simT_eqGuardIn_nil {t : TypeId} (h : plainTy P (min 6 P.depth) t = true) : Sim V P (Op.eqGuardIn Op.maxDepth t .nilIface .nilIface) fun b => b = false := by
  show Sim V P (Op.eqGuardIn (9999 + 1) t .nilIface .nilIface) _
  unfold Op.eqGuardIn
  refine Sim.bind (sim_underlying t) fun d hd => ?_
  generalize min 6 P.depth = n at h
  cases n with
  | zero => cases h
  | succ n =>
    simp only [plainTy, hd] at h
    cases d <;> first | exact Sim.pure rfl | (simp [plainDesc] at h)
theorem simT_eqGuard (o : BinOp) {t : TypeId} {x y : Operand} (a b : Value) (h : eqOK P t y = true) (hb : nilConst y = true → nilValue b = true) : SimT V P (eqGuard o t x y a b) := by
  unfold eqGuard
  refine Sim.ite (fun _ => Sim.pureT) (fun _ => ?_)
  split
  · refine Sim.ite (fun _ => Sim.pureT) (fun hc => ?_)
    have hp : plainTy P (min 6 P.depth) t = true := by
      unfold eqOK at h
      cases hp : plainTy P (min 6 P.depth) t with
      | true => rfl
      | false =>
        rw [hp] at h
        exfalso
        apply hc
        unfold nilConst at h
        cases y <;> simp_all
    refine Sim.bind (simT_eqGuardIn_nil hp) fun c hc => ?_
    subst hc
    exact Sim.pureT
  · have hp : plainTy P (min 6 P.depth) t = true := by
      unfold eqOK at h
      cases hp : plainTy P (min 6 P.depth) t with
      | true => rfl
      | false =>
        rw [hp] at h
        have := hb (by simpa using h)
        simp [nilValue] at this
    refine Sim.bind Sim.program fun p hp' => ?_
    subst hp'
    refine Sim.bind Sim.program fun p hp' => ?_
    subst hp'
    rw [eqGuardType_plain hp]
    exact Sim.pureT
  · exact Sim.pureT

theorem simT_equal {t : TypeId} {y : Operand} (a b : Value) (h : eqOK P t y = true) (hb : nilConst y = true → nilValue b = true) : SimT V P (Op.equal t a b) := by
  unfold eqOK at h
  cases hp : plainTy P (min 6 P.depth) t with
  | true => exact simT_equal_plain hp a b
  | false => rw [hp] at h; exact simT_equal_nil t a (hb (by simpa using h))

theorem simT_convert {s d : TypeId} (x : Value) (h : (match P.underlying s, P.underlying d with | some (.int _), some (.int _) => true | _, _ => false) = true) : SimT V P (convert s d x) := by
  unfold convert
  refine Sim.bind (sim_underlying s) fun e he => Sim.bind (sim_underlying d) fun f hf => ?_
  rw [he, hf] at h
  cases e <;> first | (exfalso; cases h; done) | skip
  cases f <;> first | (exfalso; cases h; done) | skip
  clear he hf h
  repeat' (first
    | (rcases sham_cases (by assumption) with rfl | rfl <;> (refine ⟨_, ?_, rfl⟩; trivial))
    | contradiction
    | with_reducible exact simT_panicThen _ _
    | with_reducible exact simT_stuckThen _ _
    | with_reducible exact simT_unsupThen _ trivial
    | with_reducible exact Sim.pureT
    | with_reducible exact Sim.stuck
    | exact SimT.unsup trivial
    | with_reducible exact Sim.goPanic
    | exact simT_runtimePanic _
    | exact simT_boundsPanic _ _ _ _
    | with_reducible exact SimT.program
    | with_reducible exact simT_typeInfo _
    | with_reducible exact simT_underlying _
    | with_reducible exact simT_zeroValue _
    | with_reducible exact simT_sizeOf _
    | with_reducible exact simT_isAgg _
    | with_reducible exact simT_loadCells _ _
    | with_reducible exact simT_storeCells _ _ _
    | with_reducible exact simT_loadVar _ _
    | with_reducible exact simT_storeVar _ _ _
    | with_reducible exact simT_newRow _ _
    | with_reducible exact simT_newVar _ _
    | with_reducible exact simT_part _ _ _
    | with_reducible exact simT_elemOf _
    | with_reducible exact simT_asIntOf _
    | with_reducible exact simT_asInt _
    | with_reducible exact simT_asBool _
    | with_reducible exact simT_asString _
    | with_reducible exact simT_asAgg _
    | with_reducible exact simT_asAddr _
    | with_reducible exact simT_sureAddr _
    | with_reducible exact simT_askRoom _
    | with_reducible exact Sim.load _ _
    | with_reducible exact Sim.shape _
    | with_reducible exact Sim.choose _
    | with_reducible exact simT_noView _
    | with_reducible exact simT_numberAt _
    | with_reducible exact simT_behindNumber _
    | with_reducible exact simT_byteOf _
    | with_reducible exact simT_partAt _ _ _
    | with_reducible exact simT_fieldPlace _ _
    | with_reducible exact simT_alloc _ _ _
    | with_reducible exact simT_loadAt _ _
    | with_reducible exact simT_storeAt _ _ _
    | with_reducible exact simT_fieldAt _ _ _
    | with_reducible exact simT_indexAt _ _ _
    | with_reducible exact simT_sliceBound _ _ _
    | with_reducible exact simT_sliceBounds _ _ _ _ _ _
    | with_reducible exact simT_slice _ _ _ _ _
    | with_reducible exact simT_sliceAt _ _ _ _ _
    | with_reducible exact simT_arrayAt _ _
    | with_reducible exact simT_box _ _
    | with_reducible exact simT_buildSlice _ _ _
    | with_reducible exact simT_makeInterface _ _
    | with_reducible exact simT_makeFunc _ _ _
    | with_reducible exact simT_makeChan _ _
    | with_reducible exact simT_makeSlice _ _ _
    | with_reducible exact simT_field _ _ _
    | with_reducible exact simT_index _ _ _
    | with_reducible exact simT_typeAssert _ _ _ _
    | with_reducible exact simT_extract _ _
    | with_reducible exact simT_intArith _ _ _ _
    | with_reducible exact simT_intDiv _ _ _ _
    | with_reducible exact simT_intBits _ _ _ _
    | with_reducible exact simT_shift _ _ _ _ _
    | with_reducible exact simT_intCmp _ _ _
    | with_reducible exact simT_stringOp _ _ _
    | with_reducible exact simT_unary _ _
    | with_reducible exact simT_len _ _ _
    | with_reducible exact simT_cap _ _ _
    | with_reducible exact simT_lenOf _
    | with_reducible exact simT_firstCells _ _ _
    | with_reducible exact simT_copy _ _ _
    | with_reducible exact simT_newObj' _
    | with_reducible exact simT_env
    | exact simT_unsafeAdd _ _ _ _
    | exact simT_unsafeAdd' _ _ _ _
    | with_reducible exact simT_movedNumber _ _ _
    | with_reducible exact simT_movedPointer _ _ _
    | with_reducible exact simT_twoPlaces _ _
    | with_reducible exact simT_addrSub _ _ _
    | with_reducible exact simT_addrCmp _ _ _
    | with_reducible exact simT_addrMod _ _ _
    | with_reducible exact simT_floatArith _ _ _ _
    | with_reducible exact simT_floatCmp _ _ _ _
    | with_reducible exact simT_floatToFloat _ _ _
    | with_reducible exact simT_floatToInt _ _ _
    | with_reducible exact simT_carith _ _ _ _
    | with_reducible exact simT_ccmp _ _ _ _
    | with_reducible exact simT_cconv _ _ _
    | with_reducible exact simT_cadd _ _
    | with_reducible exact simT_csub _ _
    | with_reducible exact simT_cmul _ _
    | with_reducible exact simT_cquo _ _
    | with_reducible exact simT_cproduct _ _ _ _
    | with_reducible exact simT_ccorrected _ _ _ _ _
    | with_reducible exact simT_cquotient _ _ _ _
    | with_reducible exact simT_complexOp _ _ _ _ _ _
    | with_reducible exact simT_intToInt _ _
    | with_reducible exact simT_intToFloat _ _
    | with_reducible exact simT_panicnil
    | with_reducible exact simT_panic _
    | exact simT_ssaWrap _ _ _ _ _
    | with_reducible exact simT_get _ _
    | exact simT_follow _ _ _
    | with_reducible exact simT_receiverAt _ _ _ _
    | with_reducible exact simT_receiverVia _ _ _ _
    | exact simT_method _ _ _ _
    | exact simT_followBlind _ _ _
    | exact simT_nilAhead _ _ _ _
    | with_reducible exact simT_build _ _
    | with_reducible exact simT_holdsCells _ _
    | with_reducible exact simT_append _ _ _
    | (with_reducible refine Sim.getObjT (fun o _ _ _ => ?_) (fun o ho => ?_))
    | (with_reducible refine Sim.bindT ?_ (fun _ => ?_))
    | (with_reducible refine Sim.ite (fun _ => ?_) (fun _ => ?_))
    | split
    | dsimp only)

/-! A call -/
def okB : Builtin → Bool
  | .append | .cap | .len | .copy | .close | .recover | .panic | .min | .max => true
  | _ => false
def okT : Target → Prop
  | .builtin b _ _ _ => okB b = true
  | .collected _ | .coroexit _ => False
  | _ => True
def NextOK : Next → Prop
  | .value _ | .skip | .recover | .enter .. | .comm .. => True
  | .spawn d => d.target ≠ .nil
  | .defer d => okT d.target
  | _ => False

/-- What is asked of a program: no function of it is one that counts goroutines; what has no Go body is known, and harmless. -/
structure Mild (P : Program) : Prop where
  goro : ∀ (f : FuncId) (fn : Func), P.funcs[f]? = some fn → (fn.name == "runtime.NumGoroutine") = false
  ext : ∀ (f : FuncId) (fn : Func), P.funcs[f]? = some fn → fn.body.isNone = true → Extern.findNext fn = none ∧ ∀ e, Extern.find fn = some e → ∀ V args, SimT V P (e args)

theorem sim_value {s : Sem Value} (h : SimT V P s) : Sim V P (do pure (.value (← s)) : Sem Next) NextOK := Sim.bind (Q := fun _ => True) h fun _ _ => Sim.pure trivial
theorem sim_unit {s : Sem Unit} (h : SimT V P s) : Sim V P (do s; pure .skip : Sem Next) NextOK := Sim.bind (Q := fun _ => True) h fun _ _ => Sim.pure trivial

theorem sim_callFunc (M : Mild P) (f : FuncId) (args : Array Value) : Sim V P (callFunc f args) NextOK := by
  unfold callFunc
  refine Sim.bind Sim.program fun p hp => ?_
  subst hp
  split
  · exact Sim.stuck
  · rename_i fn hfn
    rw [if_neg (by rw [M.goro f fn hfn]; simp)]
    refine Sim.ite (fun hb => ?_) (fun _ => Sim.pure trivial)
    obtain ⟨h1, h2⟩ := M.ext f fn hfn hb
    refine Sim.bind (Q := fun _ => True) (Sim.mark _ (by simp) (by simp) (by simp)) fun _ _ => ?_
    rw [h1]
    dsimp only
    split
    · rename_i e he
      exact Sim.bind (Q := fun _ => True) (h2 e he V args) fun _ _ => Sim.pure trivial
    · exact Sim.ite (fun _ => Sim.pure trivial) (fun _ => SimT.unsup trivial)

theorem sim_callMethod (M : Mild P) (r : Value) (n : String) (args : Array Value) : Sim V P (callMethod r n args) NextOK := by
  unfold callMethod
  split
  · refine Sim.bind (Q := fun _ => True) SimT.program fun p _ => Sim.bind (Q := fun _ => True) (simT_method _ _ _ _) fun fr _ => ?_
    exact sim_callFunc M _ _
  · exact simT_runtimePanic _
  · exact Sim.stuck

theorem sim_yield (l : Nat) (args : Array Value) (Q : Next → Prop) : Sim V P (Instr.yield l args) Q := by
  unfold Instr.yield Instr.getLoop
  refine Sim.bind (Q := fun _ => False) ?_ fun _ h => h.elim
  refine Sim.getObj (fun o hn hc hch => ?_) (fun o ho => ?_)
  · split
    · exact hn.elim
    · exact Sim.stuck
  · rcases sham_cases ho with rfl | rfl <;> (refine ⟨_, ?_, rfl⟩; trivial)

theorem simT_foldlM {f : Value → Value → Sem Value} (hf : ∀ x y, SimT V P (f x y)) (l : List Value) (x : Value) : SimT V P (l.foldlM f x) := by
  induction l generalizing x with
  | nil => exact Sim.pureT
  | cons y l ih =>
    rw [List.foldlM_cons]
    exact Sim.bindT (hf x y) fun z => ih z
theorem simT_max2 (x y : Value) : SimT V P (Builtin.max2 x y) := by
  unfold Builtin.max2
  split
  · exact Sim.pureT
  · split
    · exact Sim.bindT (Sim.choose _) fun _ => Sim.pureT
    · exact Sim.pureT
    · exact Sim.pureT
    · exact Sim.pureT
  · exact Sim.bindT (simT_stringOp _ _ _) fun _ => Sim.bindT (simT_asBool _) fun _ => Sim.pureT
  · exact SimT.unsup trivial
  · exact SimT.unsup trivial
  · exact Sim.stuck
theorem simT_min2 (x y : Value) : SimT V P (Builtin.min2 x y) := by
  unfold Builtin.min2
  split
  · exact Sim.pureT
  · split
    · exact Sim.bindT (Sim.choose _) fun _ => Sim.pureT
    · exact Sim.pureT
    · exact Sim.pureT
    · exact Sim.pureT
  · exact Sim.bindT (simT_stringOp _ _ _) fun _ => Sim.bindT (simT_asBool _) fun _ => Sim.pureT
  · exact SimT.unsup trivial
  · exact SimT.unsup trivial
  · exact Sim.stuck
theorem simT_max (a : Array TypeId) (t : TypeId) (args : Array Value) : SimT V P (Builtin.max_ a t args) := by
  unfold Builtin.max_
  split
  · exact Sim.stuck
  · exact simT_foldlM simT_max2 _ _
theorem simT_min (a : Array TypeId) (t : TypeId) (args : Array Value) : SimT V P (Builtin.min_ a t args) := by
  unfold Builtin.min_
  split
  · exact Sim.stuck
  · exact simT_foldlM simT_min2 _ _

theorem sim_builtin {b : Builtin} (h : okB b = true) (a : Array TypeId) (t : TypeId) (c : Array Bool) (args : Array Value) : Sim V P (builtin b a t c args) NextOK := by
  cases b <;> first | (exfalso; cases h; done) | skip
  · exact sim_value (simT_append _ _ _)
  · exact sim_value (simT_cap _ _ _)
  · exact sim_value (simT_close _ _ _)
  · exact sim_value (simT_copy _ _ _)
  · exact sim_value (simT_len _ _ _)
  · exact sim_value (simT_max _ _ _)
  · exact sim_value (simT_min _ _ _)
  · exact sim_value (simT_panic _)
  · exact Sim.pure trivial

theorem sim_invoke (M : Mild P) {t : Target} (h : okT t) (args : Array Value) : Sim V P (invoke t args) NextOK := by
  unfold invoke
  cases t with
  | nil => exact simT_runtimePanic _
  | builtin b a t c => exact sim_builtin h _ _ _ _
  | collected r => exact h.elim
  | coroexit c => exact h.elim
  | fn f cap =>
    cases f with
    | func f => exact sim_callFunc M _ _
    | method n =>
      dsimp only
      split
      · exact sim_callMethod M _ _ _
      · exact Sim.stuck
    | methodOf t n =>
      dsimp only
      split
      · exact Sim.bind (Q := fun _ => True) (simT_underlying _) fun _ _ => sim_callMethod M _ _ _
      · exact Sim.stuck
    | via t path f p =>
      dsimp only
      split
      · exact Sim.bind (Q := fun _ => True) (simT_receiverVia _ _ _ _) fun _ _ => sim_callFunc M _ _
      · exact Sim.stuck
    | yield l => exact sim_yield _ _ _

def callOK (c : Call) : Bool := match c.callee with
  | .builtin b => okB b
  | _ => true
theorem sim_resolve (ρ : Operand → Value) {c : Call} (h : callOK c = true) (t : TypeId) : Sim V P (resolve ρ c t) fun d => okT d.target := by
  unfold resolve
  unfold callOK at h
  cases hc : c.callee with
  | builtin b => rw [hc] at h; exact Sim.pure h
  | invoke r n => exact Sim.pure trivial
  | value f =>
    dsimp only
    unfold Deferred.ofValue
    split
    · exact Sim.pure trivial
    · exact Sim.pure trivial
    · exact Sim.stuck

def opOK (P : Program) (o : Oper) : Bool := match o.op with
  | .move _ | .assign _ | .pick .. | .alloc _ | .box .. | .build .. | .buildSlice .. | .load .. | .store .. | .nilCheck _ | .unOp .. | .sliceToArrayPointer .. | .makeInterface .. | .makeFunc .. | .makeChan .. | .makeSlice .. | .slice .. | .fieldAddr .. | .field ..
  | .indexAddr .. | .index .. | .typeAssert .. | .extract .. | .panic _ | .send .. | .recv .. => true
  | .select _ b => b
  | .binOp op t _ y _ => !(op == .eql || op == .neq) || eqOK P t y
  | .convert s d _ => (match P.underlying s, P.underlying d with | some (.int _), some (.int _) => true | _, _ => false)
  | .call c | .defer c => callOK c
  | .go c => (match c.callee with | .value (.func _) => true | _ => false)
  | _ => false

theorem nilConst_value {ρ : Operand → Value} (hρ : ∀ v, ρ (.const v) = v) {y : Operand} (h : nilConst y = true) : nilValue (ρ y) = true := by
  unfold nilConst at h
  split at h
  · rw [hρ]; rfl
  · rw [hρ]; rfl
  · rw [hρ]; rfl
  · cases h

theorem simT_nilCheck (M : Mild P) (ρ : Operand → Value) (x : Operand) (t : TypeId) (d : Option Tmp) (o : Oper) (ho : o.op = .nilCheck x) : Sim V P (execOp ρ o) NextOK := by
  unfold execOp
  rw [ho]
  dsimp only
  split
  · exact simT_runtimePanic _
  · exact simT_runtimePanic _
  · exact simT_runtimePanic _
  · split
    · exact simT_runtimePanic _
    · refine Sim.bind (Q := fun _ => True) SimT.program fun p _ => Sim.bind (Q := fun _ => True) (simT_nilAhead _ _ _ _) fun b _ => ?_
      refine Sim.ite (fun _ => ?_) (fun _ => Sim.pure trivial)
      exact Sim.bind (Q := fun _ => False) (SimT.unsup trivial) fun _ h => h.elim
    · exact Sim.pure trivial
  · exact Sim.pure trivial

/-- AN OPERATION. -/
theorem sim_execOp (M : Mild P) {ρ : Operand → Value} (hρ : ∀ v, ρ (.const v) = v) (hf : ∀ f, ρ (.func f) = .func (.func f) #[] #[]) {o : Oper} (h : opOK P o = true) : Sim V P (execOp ρ o) NextOK := by
  obtain ⟨op, dst, ty⟩ : ∃ x : Op × Option Tmp × TypeId, x = (o.op, o.dst, o.type) := ⟨_, rfl⟩
  unfold opOK at h
  cases ho : o.op <;> rw [ho] at h <;> first | (exfalso; cases h; done) | skip
  case nilCheck x => exact simT_nilCheck M ρ x 0 none o ho
  all_goals (unfold execOp; rw [ho]; dsimp only)
  case move x => exact Sim.pure trivial
  case assign x => exact Sim.pure trivial
  case pick c a b => exact Sim.bind (Q := fun _ => True) (simT_asBool _) fun _ _ => Sim.pure trivial
  case alloc e => exact sim_value (simT_alloc _ _ _)
  case box e x => exact sim_value (simT_box _ _)
  case build t p => exact sim_value (simT_build _ _)
  case buildSlice t n p => exact sim_value (simT_buildSlice _ _ _)
  case load t a => exact sim_value (simT_loadAt _ _)
  case store t a x => exact sim_unit (simT_storeAt _ _ _)
  case binOp op t x y ty =>
    refine sim_value (Sim.bindT ?_ fun _ => ?_)
    · by_cases he : op = .eql ∨ op = .neq
      · have h' : eqOK P t y = true := by rcases he with rfl | rfl <;> simpa using h
        exact simT_eqGuard _ _ _ h' (nilConst_value hρ)
      · unfold eqGuard
        refine Sim.ite (fun _ => Sim.pureT) (fun hc => ?_)
        exfalso
        apply hc
        cases op <;> first | rfl | (exfalso; exact he (by simp))
    · exact simT_binOp0 _ _ _ _ fun he => by
        have h' : eqOK P t y = true := by rcases he with rfl | rfl <;> simpa using h
        exact simT_equal _ _ h' (nilConst_value hρ)
  case unOp op t x => exact sim_value (simT_unary _ _)
  case convert s d x => exact sim_value (simT_convert _ h)
  case sliceToArrayPointer d x => exact sim_value (simT_arrayAt _ _)
  case makeInterface t x => exact sim_value (simT_makeInterface _ _)
  case makeFunc f a b => exact sim_value (simT_makeFunc _ _ _)
  case makeChan t s => exact sim_value (simT_makeChan _ _)
  case makeSlice t l c => exact sim_value (simT_makeSlice _ _ _)
  case slice t x a b c => exact sim_value (simT_sliceAt _ _ _ _ _)
  case fieldAddr t x f => exact sim_value (simT_fieldAt _ _ _)
  case field t x f => exact sim_value (simT_field _ _ _)
  case indexAddr t x i => exact sim_value (simT_indexAt _ _ _)
  case index t x i => exact sim_value (simT_index _ _ _)
  case typeAssert x t a b => exact sim_value (simT_typeAssert _ _ _ _)
  case extract t i => exact sim_value (simT_extract _ _)
  case call c => exact Sim.bind (sim_resolve ρ h _) fun d hd => sim_invoke M hd _
  case go c =>
    have h : (match c.callee with | .value (.func _) => true | _ => false) = true := h
    unfold resolve
    cases hc : c.callee <;> rw [hc] at h <;> first | (exfalso; cases h; done) | skip
    rename_i f
    cases f <;> first | (exfalso; cases h; done) | skip
    rename_i g
    dsimp only
    rw [hf g]
    exact Sim.pure (show (Target.fn _ _) ≠ Target.nil from nofun)
  case defer c => exact Sim.bind (sim_resolve ρ h _) fun d hd => Sim.pure hd
  case panic x => exact sim_value (simT_panic _)
  case send c x => exact Sim.pure trivial
  case recv t c b =>
    refine Sim.bind (Q := fun _ => True) (simT_underlying _) fun d _ => ?_
    split
    · exact Sim.bind (Q := fun _ => True) (simT_zeroValue _) fun _ _ => Sim.pure trivial
    · exact Sim.stuck
  case select cs b =>
    exact Sim.bind (Q := fun _ => True) (simT_mapM _ _ fun s => Sim.bindT (simT_zeroValue _) fun _ => Sim.pureT) fun _ _ => Sim.pure trivial

end
end Go.Proofs.Ytodcnhodbeakiaa
