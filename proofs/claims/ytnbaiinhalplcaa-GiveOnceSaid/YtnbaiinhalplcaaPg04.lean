/- The veiled twin, through append. Of whatever program. Conditions: none. The veiled twin, through an operation as a whole, and a call. Of whatever program. Conditions: none. The veiled twin, through one step of a goroutine. Of whatever program. Conditions: none. Conditions: as each theorem states them. -/
import Derived.Conc.Listed
import Derived.Test.YtnbaiinhalplcaaPg03
namespace Go.Proofs.Ytnbaiinhalplcaa
set_option linter.unusedVariables false
set_option linter.unusedSimpArgs false

section
variable {V : Veil} {P : Program} {α β : Type}

theorem simT_tooMuch' (s m n : Nat) (b : Option Addr) (x : Value) (z : Bool) (e : RuntimeError) : SimT V P (if z = true then runtimePanic e else do
    let c ← Builtin.mayShare s m n b x
    if (!c) = true then do
      mark .noRoom
      unsupported (.resourceLimit "append: a slice or a string whose bytes no memory bears")
    else unsupported (.resourceLimit "append: a slice or a string whose bytes no memory bears") : Sem Unit) := by
  refine Sim.ite (fun _ => simT_runtimePanic _) (fun _ => ?_)
  refine Doomed.sim (doomed_share fun c => ?_)
  cases c with
  | true => exact Doomed.unsup trivial
  | false => exact Doomed.pre (Sim.mark _ (by simp) (by simp) (by simp)) (fun w _ v w' h => by cases h) fun _ => Doomed.unsup trivial

theorem simT_append (a : Array TypeId) (t : TypeId) (x : Array Value) : SimT V P (Builtin.append_ a t x) := by
  unfold Builtin.append_
  split
  rotate_left
  · exact Sim.stuck
  rename_i sType s x' heq
  refine Sim.bindT (simT_underlying _) fun d => ?_
  split
  rotate_left
  · exact Sim.stuck
  rename_i elem
  cases s with
  | slice base sLen sCap =>
    refine Sim.bindT (simT_sizeOf _) fun size => ?_
    extract_lets jm jz
    have hz : ∀ zeros, SimT V P (jz zeros) := by
      intro zeros
      dsimp -zeta only [jz]
      extract_lets jn
      have hn : ∀ n, SimT V P (jn n) := by
        intro n
        dsimp -zeta only [jn]
        extract_lets ap need jst j2 j1
        have hap : SimT V P ap := by
          dsimp only [ap]
          refine Sim.ite (fun _ => simT_firstCells _ _ _) (fun _ => Sim.ite (fun _ => Sim.pureT) (fun _ => Sim.bindT (simT_zeroValue _) fun _ => Sim.pureT))
        have hst : ∀ u, SimT V P (jst u) := fun u => Sim.pureT
        have h2 : ∀ u, SimT V P (j2 u) := fun u => by
          dsimp only [j2]
          exact Sim.bindT (Sim.choose _) fun newCap => Sim.bindT (simT_typeInfo _) fun ti => Sim.bindT (simT_askRoom _) fun _ => Sim.bindT (simT_firstCells _ _ _) fun old => Sim.bindT hap fun new => Sim.bindT (simT_zeroValue _) fun z => Sim.bindT (simT_newRow _ _) fun _ => Sim.pureT
        have h1 : ∀ u, SimT V P (j1 u) := fun u => by
          dsimp -zeta only [j1]
          refine Sim.bindT (simT_typeInfo _) fun ti => ?_
          refine Sim.ite (fun _ => ?_) (fun _ => h2 ())
          exact Sim.bindT (simT_tooMuch' _ _ _ _ _ _ _) fun _ => h2 ()
        clear_value ap jst j2 j1
        refine Sim.ite (fun _ => ?_) (fun _ => ?_)
        · refine Sim.bindT hap fun new => ?_
          cases base with
          | none => exact hst ()
          | some b => exact Sim.bindT (simT_storeCells _ _ _) fun _ => hst ()
        · refine Sim.bindT (simT_typeInfo _) fun ti => ?_
          exact Sim.ite (fun _ => simT_panicThen _ _) (fun _ => h1 ())
      clear_value jn
      refine Sim.ite (fun _ => ?_) (fun _ => Sim.bindT (simT_lenOf _) fun n => hn n)
      refine Sim.bindT (simT_asInt _) fun i => ?_
      extract_lets l j4 j3
      have h4 : ∀ u, SimT V P (j4 u) := fun u => Sim.bindT Sim.pureT fun n => hn n
      have h3 : ∀ u, SimT V P (j3 u) := by
        intro u
        dsimp -zeta only [j3]
        refine Sim.bindT (simT_typeInfo _) fun ti => ?_
        exact Sim.ite (fun _ => Sim.bindT (Sim.choose _) fun _ => simT_panicThen _ _) (fun _ => h4 ())
      clear_value j3
      exact Sim.ite (fun _ => simT_panicThen _ _) (fun _ => h3 ())
    clear_value jz
    cases a[1]? with
    | none => exact Sim.bindT Sim.pureT fun z => hz z
    | some xt => exact Sim.bindT (simT_underlying _) fun d => Sim.bindT Sim.pureT fun z => hz z
  | _ => exact Sim.stuck
end
end Go.Proofs.Ytnbaiinhalplcaa

namespace Go.Proofs.Ytnbaiinhalplcaa
set_option linter.unusedVariables false
set_option linter.unusedSimpArgs false

section
variable {V : Veil} {P : Program} {α β : Type}

theorem sim_underlying (t : TypeId) : Sim V P (underlying t) (fun d => P.underlying t = some d) := by
  unfold underlying
  refine Sim.bind Sim.program fun p hp => ?_
  subst hp
  split
  · exact Sim.pure (by assumption)
  · exact Sim.stuck

def plainDesc : TypeDesc → Bool
  | .int _ | .bool | .string => true
  | _ => false
def nilConst : Operand → Bool
  | .const (.pointer none) | .const .nilIface | .const .nilFunc => true
  | _ => false
/-- A type of plain values: numbers, truths, strings, and structs of such. -/
def plainTy (P : Program) : Nat → TypeId → Bool
  | 0, _ => false
  | n + 1, t => match P.underlying t with
    | some (.struct fs) => fs.all fun f => plainTy P n f.type
    | some d => plainDesc d
    | none => false
def eqOK (P : Program) (t : TypeId) (y : Operand) : Bool := plainTy P (min 6 P.depth) t || nilConst y
def nilValue : Value → Bool
  | .pointer none | .nilIface | .nilFunc => true
  | _ => false

set_option maxHeartbeats 4000000 in
theorem simT_equal_base {t : TypeId} (h : (P.underlying t).any plainDesc = true) (m : Nat) (x y : Value) : SimT V P (Op.equalIn (m + 1) t x y) := by
  unfold Op.equalIn
  refine Sim.bind (sim_underlying t) fun d hd => ?_
  rw [hd] at h
  cases d <;> simp only [Option.any_some, plainDesc, Bool.false_eq_true] at h
  all_goals clear hd h
  repeat' (first
    | (rcases sham_cases (by assumption) with rfl | rfl <;> (refine ⟨_, ?_, rfl⟩; trivial))
    | contradiction
    | with_reducible first
     | exact simT_panicThen _ _
     | exact simT_stuckThen _ _
     | exact simT_unsupThen _ trivial
     | exact Sim.pureT
     | exact Sim.stuck
    | exact SimT.unsup trivial
    | with_reducible exact Sim.goPanic
    | exact simT_runtimePanic _
    | exact simT_boundsPanic _ _ _ _
    | with_reducible first
     | exact SimT.program
     | exact simT_typeInfo _
     | exact simT_underlying _
     | exact simT_zeroValue _
     | exact simT_sizeOf _
     | exact simT_isAgg _
     | exact simT_loadCells _ _
     | exact simT_storeCells _ _ _
     | exact simT_loadVar _ _
     | exact simT_storeVar _ _ _
     | exact simT_newRow _ _
     | exact simT_newVar _ _
     | exact simT_part _ _ _
     | exact simT_elemOf _
     | exact simT_asIntOf _
     | exact simT_asInt _
     | exact simT_asBool _
     | exact simT_asString _
     | exact simT_asAgg _
     | exact simT_asAddr _
     | exact simT_sureAddr _
     | exact simT_askRoom _
     | exact Sim.load _ _
     | exact Sim.shape _
     | exact Sim.choose _
     | exact simT_noView _
     | exact simT_numberAt _
     | exact simT_behindNumber _
     | exact simT_byteOf _
     | exact simT_partAt _ _ _
     | exact simT_fieldPlace _ _
     | exact simT_alloc _ _ _
     | exact simT_loadAt _ _
     | exact simT_storeAt _ _ _
     | exact simT_fieldAt _ _ _
     | exact simT_indexAt _ _ _
     | exact simT_sliceBound _ _ _
     | exact simT_sliceBounds _ _ _ _ _ _
     | exact simT_slice _ _ _ _ _
     | exact simT_sliceAt _ _ _ _ _
     | exact simT_arrayAt _ _
     | exact simT_box _ _
     | exact simT_buildSlice _ _ _
     | exact simT_makeInterface _ _
     | exact simT_makeFunc _ _ _
     | exact simT_makeChan _ _
     | exact simT_makeSlice _ _ _
     | exact simT_field _ _ _
     | exact simT_index _ _ _
     | exact simT_typeAssert _ _ _ _
     | exact simT_extract _ _
     | exact simT_intArith _ _ _ _
     | exact simT_intDiv _ _ _ _
     | exact simT_intBits _ _ _ _
     | exact simT_shift _ _ _ _ _
     | exact simT_intCmp _ _ _
     | exact simT_stringOp _ _ _
     | exact simT_unary _ _
     | exact simT_len _ _ _
     | exact simT_cap _ _ _
     | exact simT_lenOf _
     | exact simT_firstCells _ _ _
     | exact simT_copy _ _ _
     | exact simT_newObj' _
     | exact simT_env
    | exact simT_unsafeAdd _ _ _ _
    | exact simT_unsafeAdd' _ _ _ _
    | with_reducible first
     | exact simT_movedNumber _ _ _
     | exact simT_movedPointer _ _ _
     | exact simT_twoPlaces _ _
     | exact simT_addrSub _ _ _
     | exact simT_addrCmp _ _ _
     | exact simT_addrMod _ _ _
     | exact simT_floatArith _ _ _ _
     | exact simT_floatCmp _ _ _ _
     | exact simT_floatToFloat _ _ _
     | exact simT_floatToInt _ _ _
     | exact simT_carith _ _ _ _
     | exact simT_ccmp _ _ _ _
     | exact simT_cconv _ _ _
     | exact simT_cadd _ _
     | exact simT_csub _ _
     | exact simT_cmul _ _
     | exact simT_cquo _ _
     | exact simT_cproduct _ _ _ _
     | exact simT_ccorrected _ _ _ _ _
     | exact simT_cquotient _ _ _ _
     | exact simT_complexOp _ _ _ _ _ _
     | exact simT_intToInt _ _
     | exact simT_intToFloat _ _
     | exact simT_panicnil
     | exact simT_panic _
    | exact simT_ssaWrap _ _ _ _ _
    | with_reducible exact simT_get _ _
    | exact simT_follow _ _ _
    | with_reducible first
     | exact simT_receiverAt _ _ _ _
     | exact simT_receiverVia _ _ _ _
    | exact simT_method _ _ _ _
    | exact simT_followBlind _ _ _
    | exact simT_nilAhead _ _ _ _
    | with_reducible first
     | exact simT_build _ _
     | exact simT_holdsCells _ _
     | exact simT_append _ _ _
     | refine Sim.getObjT (fun o _ _ _ => ?_) (fun o ho => ?_)
     | refine Sim.bindT ?_ (fun _ => ?_)
     | refine Sim.ite (fun _ => ?_) (fun _ => ?_)
    | split
    | dsimp only)

theorem simT_forIn {f : α → β → Sem (ForInStep β)} : ∀ (l : List α) (b : β), (∀ a ∈ l, ∀ b, SimT V P (f a b)) → SimT V P (forIn l b f)
  | [], b, _ => by rw [List.forIn_nil]; exact Sim.pureT
  | a :: l, b, h => by
    rw [List.forIn_cons]
    refine Sim.bindT (h a (by simp) b) fun s => ?_
    cases s with
    | done b => exact Sim.pureT
    | yield b => exact simT_forIn l b fun x hx => h x (by simp [hx])

theorem simT_equalIn_plain : ∀ (n m : Nat) {t : TypeId} (_ : plainTy P n t = true) (x y : Value), SimT V P (Op.equalIn m t x y)
  | 0, _, _, h, _, _ => by cases h
  | n + 1, 0, t, h, x, y => SimT.unsup trivial
  | n + 1, m + 1, t, h, x, y => by
    cases hd : P.underlying t with
    | none => simp [plainTy, hd] at h
    | some d =>
      cases d with
      | struct fs =>
        simp only [plainTy, hd, Array.all_eq_true_iff_forall_mem] at h
        unfold Op.equalIn
        refine Sim.bind (sim_underlying t) fun d' hd' => ?_
        obtain rfl := Option.some.inj (hd.symm.trans hd')
        cases x with
        | agg xs =>
          cases y with
          | agg ys =>
            refine Sim.bindT SimT.program fun p => ?_
            refine Sim.ite (fun _ => Sim.bindT (by exact SimT.unsup trivial) fun _ => ?_) (fun _ => ?_)
            all_goals
              rw [← Array.forIn_toList]
              refine Sim.bindT (simT_forIn _ _ fun f hf b => ?_) fun r => ?_
              · refine Sim.ite (fun _ => ?_) (fun _ => Sim.pureT)
                refine Sim.bindT (simT_part _ _ _) fun a => Sim.bindT (simT_part _ _ _) fun c => Sim.bindT (simT_equalIn_plain n m (h f (by simpa using hf)) a c) fun e => ?_
                exact Sim.ite (fun _ => Sim.pureT) (fun _ => Sim.pureT)
              · dsimp only
                split <;> exact Sim.pureT
          | _ => exact Sim.stuck
        | _ => exact Sim.stuck
      | _ => exact simT_equal_base (by rw [hd]; simpa [plainTy, hd] using h) m x y
theorem simT_equal_plain {t : TypeId} (h : plainTy P (min 6 P.depth) t = true) (x y : Value) : SimT V P (Op.equal t x y) := simT_equalIn_plain _ _ h x y

theorem simT_samePointerNone (a : Option Addr) : SimT V P (samePointer a none) := by
  cases a <;> exact Sim.pureT
set_option maxHeartbeats 4000000 in
theorem simT_equal_nil (t : TypeId) (x : Value) {y : Value} (h : nilValue y = true) : SimT V P (Op.equal t x y) := by
  show SimT V P (Op.equalIn (9999 + 1) t x y)
  unfold Op.equalIn
  refine Sim.bindT (simT_underlying t) fun d => ?_
  unfold nilValue at h
  split at h
  rotate_right
  · cases h
  all_goals clear h
  repeat' (first
    | (rcases sham_cases (by assumption) with rfl | rfl <;> (refine ⟨_, ?_, rfl⟩; trivial))
    | (injections; done)
    | (injections; subst_vars; exact simT_samePointerNone _)
    | contradiction
    | with_reducible first
     | exact simT_panicThen _ _
     | exact simT_stuckThen _ _
     | exact simT_unsupThen _ trivial
     | exact Sim.pureT
     | exact Sim.stuck
    | exact SimT.unsup trivial
    | with_reducible exact Sim.goPanic
    | exact simT_runtimePanic _
    | exact simT_boundsPanic _ _ _ _
    | with_reducible first
     | exact SimT.program
     | exact simT_typeInfo _
     | exact simT_underlying _
     | exact simT_zeroValue _
     | exact simT_sizeOf _
     | exact simT_isAgg _
     | exact simT_loadCells _ _
     | exact simT_storeCells _ _ _
     | exact simT_loadVar _ _
     | exact simT_storeVar _ _ _
     | exact simT_newRow _ _
     | exact simT_newVar _ _
     | exact simT_part _ _ _
     | exact simT_elemOf _
     | exact simT_asIntOf _
     | exact simT_asInt _
     | exact simT_asBool _
     | exact simT_asString _
     | exact simT_asAgg _
     | exact simT_asAddr _
     | exact simT_sureAddr _
     | exact simT_askRoom _
     | exact Sim.load _ _
     | exact Sim.shape _
     | exact Sim.choose _
     | exact simT_noView _
     | exact simT_numberAt _
     | exact simT_behindNumber _
     | exact simT_byteOf _
     | exact simT_partAt _ _ _
     | exact simT_fieldPlace _ _
     | exact simT_alloc _ _ _
     | exact simT_loadAt _ _
     | exact simT_storeAt _ _ _
     | exact simT_fieldAt _ _ _
     | exact simT_indexAt _ _ _
     | exact simT_sliceBound _ _ _
     | exact simT_sliceBounds _ _ _ _ _ _
     | exact simT_slice _ _ _ _ _
     | exact simT_sliceAt _ _ _ _ _
     | exact simT_arrayAt _ _
     | exact simT_box _ _
     | exact simT_buildSlice _ _ _
     | exact simT_makeInterface _ _
     | exact simT_makeFunc _ _ _
     | exact simT_makeChan _ _
     | exact simT_makeSlice _ _ _
     | exact simT_field _ _ _
     | exact simT_index _ _ _
     | exact simT_typeAssert _ _ _ _
     | exact simT_extract _ _
     | exact simT_intArith _ _ _ _
     | exact simT_intDiv _ _ _ _
     | exact simT_intBits _ _ _ _
     | exact simT_shift _ _ _ _ _
     | exact simT_intCmp _ _ _
     | exact simT_stringOp _ _ _
     | exact simT_unary _ _
     | exact simT_len _ _ _
     | exact simT_cap _ _ _
     | exact simT_lenOf _
     | exact simT_firstCells _ _ _
     | exact simT_copy _ _ _
     | exact simT_newObj' _
     | exact simT_env
    | exact simT_unsafeAdd _ _ _ _
    | exact simT_unsafeAdd' _ _ _ _
    | with_reducible first
     | exact simT_movedNumber _ _ _
     | exact simT_movedPointer _ _ _
     | exact simT_twoPlaces _ _
     | exact simT_addrSub _ _ _
     | exact simT_addrCmp _ _ _
     | exact simT_addrMod _ _ _
     | exact simT_floatArith _ _ _ _
     | exact simT_floatCmp _ _ _ _
     | exact simT_floatToFloat _ _ _
     | exact simT_floatToInt _ _ _
     | exact simT_carith _ _ _ _
     | exact simT_ccmp _ _ _ _
     | exact simT_cconv _ _ _
     | exact simT_cadd _ _
     | exact simT_csub _ _
     | exact simT_cmul _ _
     | exact simT_cquo _ _
     | exact simT_cproduct _ _ _ _
     | exact simT_ccorrected _ _ _ _ _
     | exact simT_cquotient _ _ _ _
     | exact simT_complexOp _ _ _ _ _ _
     | exact simT_intToInt _ _
     | exact simT_intToFloat _ _
     | exact simT_panicnil
     | exact simT_panic _
    | exact simT_ssaWrap _ _ _ _ _
    | with_reducible exact simT_get _ _
    | exact simT_follow _ _ _
    | with_reducible first
     | exact simT_receiverAt _ _ _ _
     | exact simT_receiverVia _ _ _ _
    | exact simT_method _ _ _ _
    | exact simT_followBlind _ _ _
    | exact simT_nilAhead _ _ _ _
    | with_reducible first
     | exact simT_build _ _
     | exact simT_holdsCells _ _
     | exact simT_append _ _ _
     | refine Sim.getObjT (fun o _ _ _ => ?_) (fun o ho => ?_)
     | refine Sim.bindT ?_ (fun _ => ?_)
     | refine Sim.ite (fun _ => ?_) (fun _ => ?_)
    | split
    | dsimp only)


set_option maxHeartbeats 8000000 in
theorem simT_binOp0 (o : BinOp) (t : TypeId) (x y : Value) (h : (o = .eql ∨ o = .neq) → SimT V P (Op.equal t x y)) : SimT V P (binOp o t x y) := by
  unfold binOp
  repeat' (first
    | (rcases sham_cases (by assumption) with rfl | rfl <;> (refine ⟨_, ?_, rfl⟩; trivial))
    | (exact Sim.bindT (h (by simp)) fun _ => Sim.pureT)
    | contradiction
    | with_reducible first
     | exact simT_panicThen _ _
     | exact simT_stuckThen _ _
     | exact simT_unsupThen _ trivial
     | exact Sim.pureT
     | exact Sim.stuck
    | exact SimT.unsup trivial
    | with_reducible exact Sim.goPanic
    | exact simT_runtimePanic _
    | exact simT_boundsPanic _ _ _ _
    | with_reducible first
     | exact SimT.program
     | exact simT_typeInfo _
     | exact simT_underlying _
     | exact simT_zeroValue _
     | exact simT_sizeOf _
     | exact simT_isAgg _
     | exact simT_loadCells _ _
     | exact simT_storeCells _ _ _
     | exact simT_loadVar _ _
     | exact simT_storeVar _ _ _
     | exact simT_newRow _ _
     | exact simT_newVar _ _
     | exact simT_part _ _ _
     | exact simT_elemOf _
     | exact simT_asIntOf _
     | exact simT_asInt _
     | exact simT_asBool _
     | exact simT_asString _
     | exact simT_asAgg _
     | exact simT_asAddr _
     | exact simT_sureAddr _
     | exact simT_askRoom _
     | exact Sim.load _ _
     | exact Sim.shape _
     | exact Sim.choose _
     | exact simT_noView _
     | exact simT_numberAt _
     | exact simT_behindNumber _
     | exact simT_byteOf _
     | exact simT_partAt _ _ _
     | exact simT_fieldPlace _ _
     | exact simT_alloc _ _ _
     | exact simT_loadAt _ _
     | exact simT_storeAt _ _ _
     | exact simT_fieldAt _ _ _
     | exact simT_indexAt _ _ _
     | exact simT_sliceBound _ _ _
     | exact simT_sliceBounds _ _ _ _ _ _
     | exact simT_slice _ _ _ _ _
     | exact simT_sliceAt _ _ _ _ _
     | exact simT_arrayAt _ _
     | exact simT_box _ _
     | exact simT_buildSlice _ _ _
     | exact simT_makeInterface _ _
     | exact simT_makeFunc _ _ _
     | exact simT_makeChan _ _
     | exact simT_makeSlice _ _ _
     | exact simT_field _ _ _
     | exact simT_index _ _ _
     | exact simT_typeAssert _ _ _ _
     | exact simT_extract _ _
     | exact simT_intArith _ _ _ _
     | exact simT_intDiv _ _ _ _
     | exact simT_intBits _ _ _ _
     | exact simT_shift _ _ _ _ _
     | exact simT_intCmp _ _ _
     | exact simT_stringOp _ _ _
     | exact simT_unary _ _
     | exact simT_len _ _ _
     | exact simT_cap _ _ _
     | exact simT_lenOf _
     | exact simT_firstCells _ _ _
     | exact simT_copy _ _ _
     | exact simT_newObj' _
     | exact simT_env
    | exact simT_unsafeAdd _ _ _ _
    | exact simT_unsafeAdd' _ _ _ _
    | with_reducible first
     | exact simT_movedNumber _ _ _
     | exact simT_movedPointer _ _ _
     | exact simT_twoPlaces _ _
     | exact simT_addrSub _ _ _
     | exact simT_addrCmp _ _ _
     | exact simT_addrMod _ _ _
     | exact simT_floatArith _ _ _ _
     | exact simT_floatCmp _ _ _ _
     | exact simT_floatToFloat _ _ _
     | exact simT_floatToInt _ _ _
     | exact simT_carith _ _ _ _
     | exact simT_ccmp _ _ _ _
     | exact simT_cconv _ _ _
     | exact simT_cadd _ _
     | exact simT_csub _ _
     | exact simT_cmul _ _
     | exact simT_cquo _ _
     | exact simT_cproduct _ _ _ _
     | exact simT_ccorrected _ _ _ _ _
     | exact simT_cquotient _ _ _ _
     | exact simT_complexOp _ _ _ _ _ _
     | exact simT_intToInt _ _
     | exact simT_intToFloat _ _
     | exact simT_panicnil
     | exact simT_panic _
    | exact simT_ssaWrap _ _ _ _ _
    | with_reducible exact simT_get _ _
    | exact simT_follow _ _ _
    | with_reducible first
     | exact simT_receiverAt _ _ _ _
     | exact simT_receiverVia _ _ _ _
    | exact simT_method _ _ _ _
    | exact simT_followBlind _ _ _
    | exact simT_nilAhead _ _ _ _
    | with_reducible first
     | exact simT_build _ _
     | exact simT_holdsCells _ _
     | exact simT_append _ _ _
     | refine Sim.getObjT (fun o _ _ _ => ?_) (fun o ho => ?_)
     | refine Sim.bindT ?_ (fun _ => ?_)
     | refine Sim.ite (fun _ => ?_) (fun _ => ?_)
    | split
    | dsimp only)

theorem eqGuardType_plainN : ∀ (n m : Nat) {t : TypeId} (_ : plainTy P n t = true) (_ : n ≤ m), P.eqGuardType m t = false
  | 0, _, _, h, _ => by cases h
  | n + 1, 0, _, _, h => by omega
  | n + 1, m + 1, t, h, hm => by
    unfold Program.eqGuardType
    cases hu : P.underlying t with
    | none => rfl
    | some d =>
      simp only [plainTy, hu] at h
      cases d with
      | struct fs =>
        simp only [Array.all_eq_true_iff_forall_mem] at h
        show (fs.any fun f => f.name != "_" && P.eqGuardType m f.type) = false
        rw [Array.any_eq_false]
        intro i hi
        simp [eqGuardType_plainN n m (h fs[i] (by simp)) (by omega)]
      | _ => first | rfl | (simp [plainDesc] at h)
theorem eqGuardType_plain {t : TypeId} (h : plainTy P (min 6 P.depth) t = true) : P.eqGuardType P.depth t = false := eqGuardType_plainN _ _ h (Nat.min_le_right _ _)
theorem simT_eqGuardIn_nil {t : TypeId} (h : plainTy P (min 6 P.depth) t = true) : Sim V P (Op.eqGuardIn Op.maxDepth t .nilIface .nilIface) fun b => b = false := by
  show Sim V P (Op.eqGuardIn (9999 + 1) t .nilIface .nilIface) _
  unfold Op.eqGuardIn
  refine Sim.bind (sim_underlying t) fun d hd => ?_
  generalize min 6 P.depth = n at h
  cases n with
  | zero => cases h
  | succ n =>
    simp only [plainTy, hd] at h
    cases d <;> first | exact Sim.pure rfl | (simp [plainDesc] at h)
theorem simT_eqGuard (o : BinOp) {t : TypeId} {x y : Operand} (a b : Value) (h : eqOK P t y = true) (hb : nilConst y = true → nilValue b = true) : SimT V P (eqGuard o t x y a b) := by
  unfold eqGuard
  refine Sim.ite (fun _ => Sim.pureT) (fun _ => ?_)
  split
  · refine Sim.ite (fun _ => Sim.pureT) (fun hc => ?_)
    have hp : plainTy P (min 6 P.depth) t = true := by
      unfold eqOK at h
      cases hp : plainTy P (min 6 P.depth) t with
      | true => rfl
      | false =>
        rw [hp] at h
        exfalso
        apply hc
        unfold nilConst at h
        cases y <;> simp_all
    refine Sim.bind (simT_eqGuardIn_nil hp) fun c hc => ?_
    subst hc
    exact Sim.pureT
  · have hp : plainTy P (min 6 P.depth) t = true := by
      unfold eqOK at h
      cases hp : plainTy P (min 6 P.depth) t with
      | true => rfl
      | false =>
        rw [hp] at h
        have := hb (by simpa using h)
        simp [nilValue] at this
    refine Sim.bind Sim.program fun p hp' => ?_
    subst hp'
    refine Sim.bind Sim.program fun p hp' => ?_
    subst hp'
    rw [eqGuardType_plain hp]
    exact Sim.pureT
  · exact Sim.pureT

theorem simT_equal {t : TypeId} {y : Operand} (a b : Value) (h : eqOK P t y = true) (hb : nilConst y = true → nilValue b = true) : SimT V P (Op.equal t a b) := by
  unfold eqOK at h
  cases hp : plainTy P (min 6 P.depth) t with
  | true => exact simT_equal_plain hp a b
  | false => rw [hp] at h; exact simT_equal_nil t a (hb (by simpa using h))

theorem simT_convert {s d : TypeId} (x : Value) (h : (match P.underlying s, P.underlying d with | some (.int _), some (.int _) => true | _, _ => false) = true) : SimT V P (convert s d x) := by
  unfold convert
  refine Sim.bind (sim_underlying s) fun e he => Sim.bind (sim_underlying d) fun f hf => ?_
  rw [he, hf] at h
  cases e <;> first | (exfalso; cases h; done) | skip
  cases f <;> first | (exfalso; cases h; done) | skip
  clear he hf h
  repeat' (first
    | (rcases sham_cases (by assumption) with rfl | rfl <;> (refine ⟨_, ?_, rfl⟩; trivial))
    | contradiction
    | with_reducible first
     | exact simT_panicThen _ _
     | exact simT_stuckThen _ _
     | exact simT_unsupThen _ trivial
     | exact Sim.pureT
     | exact Sim.stuck
    | exact SimT.unsup trivial
    | with_reducible exact Sim.goPanic
    | exact simT_runtimePanic _
    | exact simT_boundsPanic _ _ _ _
    | with_reducible first
     | exact SimT.program
     | exact simT_typeInfo _
     | exact simT_underlying _
     | exact simT_zeroValue _
     | exact simT_sizeOf _
     | exact simT_isAgg _
     | exact simT_loadCells _ _
     | exact simT_storeCells _ _ _
     | exact simT_loadVar _ _
     | exact simT_storeVar _ _ _
     | exact simT_newRow _ _
     | exact simT_newVar _ _
     | exact simT_part _ _ _
     | exact simT_elemOf _
     | exact simT_asIntOf _
     | exact simT_asInt _
     | exact simT_asBool _
     | exact simT_asString _
     | exact simT_asAgg _
     | exact simT_asAddr _
     | exact simT_sureAddr _
     | exact simT_askRoom _
     | exact Sim.load _ _
     | exact Sim.shape _
     | exact Sim.choose _
     | exact simT_noView _
     | exact simT_numberAt _
     | exact simT_behindNumber _
     | exact simT_byteOf _
     | exact simT_partAt _ _ _
     | exact simT_fieldPlace _ _
     | exact simT_alloc _ _ _
     | exact simT_loadAt _ _
     | exact simT_storeAt _ _ _
     | exact simT_fieldAt _ _ _
     | exact simT_indexAt _ _ _
     | exact simT_sliceBound _ _ _
     | exact simT_sliceBounds _ _ _ _ _ _
     | exact simT_slice _ _ _ _ _
     | exact simT_sliceAt _ _ _ _ _
     | exact simT_arrayAt _ _
     | exact simT_box _ _
     | exact simT_buildSlice _ _ _
     | exact simT_makeInterface _ _
     | exact simT_makeFunc _ _ _
     | exact simT_makeChan _ _
     | exact simT_makeSlice _ _ _
     | exact simT_field _ _ _
     | exact simT_index _ _ _
     | exact simT_typeAssert _ _ _ _
     | exact simT_extract _ _
     | exact simT_intArith _ _ _ _
     | exact simT_intDiv _ _ _ _
     | exact simT_intBits _ _ _ _
     | exact simT_shift _ _ _ _ _
     | exact simT_intCmp _ _ _
     | exact simT_stringOp _ _ _
     | exact simT_unary _ _
     | exact simT_len _ _ _
     | exact simT_cap _ _ _
     | exact simT_lenOf _
     | exact simT_firstCells _ _ _
     | exact simT_copy _ _ _
     | exact simT_newObj' _
     | exact simT_env
    | exact simT_unsafeAdd _ _ _ _
    | exact simT_unsafeAdd' _ _ _ _
    | with_reducible first
     | exact simT_movedNumber _ _ _
     | exact simT_movedPointer _ _ _
     | exact simT_twoPlaces _ _
     | exact simT_addrSub _ _ _
     | exact simT_addrCmp _ _ _
     | exact simT_addrMod _ _ _
     | exact simT_floatArith _ _ _ _
     | exact simT_floatCmp _ _ _ _
     | exact simT_floatToFloat _ _ _
     | exact simT_floatToInt _ _ _
     | exact simT_carith _ _ _ _
     | exact simT_ccmp _ _ _ _
     | exact simT_cconv _ _ _
     | exact simT_cadd _ _
     | exact simT_csub _ _
     | exact simT_cmul _ _
     | exact simT_cquo _ _
     | exact simT_cproduct _ _ _ _
     | exact simT_ccorrected _ _ _ _ _
     | exact simT_cquotient _ _ _ _
     | exact simT_complexOp _ _ _ _ _ _
     | exact simT_intToInt _ _
     | exact simT_intToFloat _ _
     | exact simT_panicnil
     | exact simT_panic _
    | exact simT_ssaWrap _ _ _ _ _
    | with_reducible exact simT_get _ _
    | exact simT_follow _ _ _
    | with_reducible first
     | exact simT_receiverAt _ _ _ _
     | exact simT_receiverVia _ _ _ _
    | exact simT_method _ _ _ _
    | exact simT_followBlind _ _ _
    | exact simT_nilAhead _ _ _ _
    | with_reducible first
     | exact simT_build _ _
     | exact simT_holdsCells _ _
     | exact simT_append _ _ _
     | refine Sim.getObjT (fun o _ _ _ => ?_) (fun o ho => ?_)
     | refine Sim.bindT ?_ (fun _ => ?_)
     | refine Sim.ite (fun _ => ?_) (fun _ => ?_)
    | split
    | dsimp only)

/-! A call -/
def okB : Builtin → Bool
  | .append | .cap | .len | .copy | .close | .recover | .panic | .min | .max => true
  | _ => false
def okT : Target → Prop
  | .builtin b _ _ _ => okB b = true
  | .collected _ | .coroexit _ => False
  | _ => True
def NextOK : Next → Prop
  | .value _ | .skip | .recover | .enter .. | .comm .. => True
  | .spawn d => d.target ≠ .nil
  | .defer d => okT d.target
  | _ => False

/-- What is asked of a program: no function of it is one that counts goroutines; what has no Go body is known, and harmless. -/
structure Mild (P : Program) : Prop where
  goro : ∀ (f : FuncId) (fn : Func), P.funcs[f]? = some fn → (fn.name == "runtime.NumGoroutine") = false
  ext : ∀ (f : FuncId) (fn : Func), P.funcs[f]? = some fn → fn.body.isNone = true → Extern.findNext fn = none ∧ ∀ e, Extern.find fn = some e → ∀ V args, SimT V P (e args)

theorem sim_value {s : Sem Value} (h : SimT V P s) : Sim V P (do pure (.value (← s)) : Sem Next) NextOK := Sim.bind (Q := fun _ => True) h fun _ _ => Sim.pure trivial
theorem sim_unit {s : Sem Unit} (h : SimT V P s) : Sim V P (do s; pure .skip : Sem Next) NextOK := Sim.bind (Q := fun _ => True) h fun _ _ => Sim.pure trivial

theorem sim_callFunc (M : Mild P) (f : FuncId) (args : Array Value) : Sim V P (callFunc f args) NextOK := by
  unfold callFunc
  refine Sim.bind Sim.program fun p hp => ?_
  subst hp
  split
  · exact Sim.stuck
  · rename_i fn hfn
    rw [if_neg (by rw [M.goro f fn hfn]; simp)]
    refine Sim.ite (fun hb => ?_) (fun _ => Sim.pure trivial)
    obtain ⟨h1, h2⟩ := M.ext f fn hfn hb
    refine Sim.bind (Q := fun _ => True) (Sim.mark _ (by simp) (by simp) (by simp)) fun _ _ => ?_
    rw [h1]
    dsimp only
    split
    · rename_i e he
      exact Sim.bind (Q := fun _ => True) (h2 e he V args) fun _ _ => Sim.pure trivial
    · exact Sim.ite (fun _ => Sim.pure trivial) (fun _ => SimT.unsup trivial)

theorem sim_callMethod (M : Mild P) (r : Value) (n : String) (args : Array Value) : Sim V P (callMethod r n args) NextOK := by
  unfold callMethod
  split
  · refine Sim.bind (Q := fun _ => True) SimT.program fun p _ => Sim.bind (Q := fun _ => True) (simT_method _ _ _ _) fun fr _ => ?_
    exact sim_callFunc M _ _
  · exact simT_runtimePanic _
  · exact Sim.stuck

theorem sim_yield (l : Nat) (args : Array Value) (Q : Next → Prop) : Sim V P (Instr.yield l args) Q := by
  unfold Instr.yield Instr.getLoop
  refine Sim.bind (Q := fun _ => False) ?_ fun _ h => h.elim
  refine Sim.getObj (fun o hn hc hch => ?_) (fun o ho => ?_)
  · split
    · exact hn.elim
    · exact Sim.stuck
  · rcases sham_cases ho with rfl | rfl <;> (refine ⟨_, ?_, rfl⟩; trivial)

theorem simT_foldlM {f : Value → Value → Sem Value} (hf : ∀ x y, SimT V P (f x y)) (l : List Value) (x : Value) : SimT V P (l.foldlM f x) := by
  induction l generalizing x with
  | nil => exact Sim.pureT
  | cons y l ih =>
    rw [List.foldlM_cons]
    exact Sim.bindT (hf x y) fun z => ih z
theorem simT_max2 (x y : Value) : SimT V P (Builtin.max2 x y) := by
  unfold Builtin.max2
  split
  · exact Sim.pureT
  · split
    · exact Sim.bindT (Sim.choose _) fun _ => Sim.pureT
    · exact Sim.pureT
    · exact Sim.pureT
    · exact Sim.pureT
  · exact Sim.bindT (simT_stringOp _ _ _) fun _ => Sim.bindT (simT_asBool _) fun _ => Sim.pureT
  · exact SimT.unsup trivial
  · exact SimT.unsup trivial
  · exact Sim.stuck
theorem simT_min2 (x y : Value) : SimT V P (Builtin.min2 x y) := by
  unfold Builtin.min2
  split
  · exact Sim.pureT
  · split
    · exact Sim.bindT (Sim.choose _) fun _ => Sim.pureT
    · exact Sim.pureT
    · exact Sim.pureT
    · exact Sim.pureT
  · exact Sim.bindT (simT_stringOp _ _ _) fun _ => Sim.bindT (simT_asBool _) fun _ => Sim.pureT
  · exact SimT.unsup trivial
  · exact SimT.unsup trivial
  · exact Sim.stuck
theorem simT_max (a : Array TypeId) (t : TypeId) (args : Array Value) : SimT V P (Builtin.max_ a t args) := by
  unfold Builtin.max_
  split
  · exact Sim.stuck
  · exact simT_foldlM simT_max2 _ _
theorem simT_min (a : Array TypeId) (t : TypeId) (args : Array Value) : SimT V P (Builtin.min_ a t args) := by
  unfold Builtin.min_
  split
  · exact Sim.stuck
  · exact simT_foldlM simT_min2 _ _

theorem sim_builtin {b : Builtin} (h : okB b = true) (a : Array TypeId) (t : TypeId) (c : Array Bool) (args : Array Value) : Sim V P (builtin b a t c args) NextOK := by
  cases b <;> first | (exfalso; cases h; done) | skip
  · exact sim_value (simT_append _ _ _)
  · exact sim_value (simT_cap _ _ _)
  · exact sim_value (simT_close _ _ _)
  · exact sim_value (simT_copy _ _ _)
  · exact sim_value (simT_len _ _ _)
  · exact sim_value (simT_max _ _ _)
  · exact sim_value (simT_min _ _ _)
  · exact sim_value (simT_panic _)
  · exact Sim.pure trivial

theorem sim_invoke (M : Mild P) {t : Target} (h : okT t) (args : Array Value) : Sim V P (invoke t args) NextOK := by
  unfold invoke
  cases t with
  | nil => exact simT_runtimePanic _
  | builtin b a t c => exact sim_builtin h _ _ _ _
  | collected r => exact h.elim
  | coroexit c => exact h.elim
  | fn f cap =>
    cases f with
    | func f => exact sim_callFunc M _ _
    | method n =>
      dsimp only
      split
      · exact sim_callMethod M _ _ _
      · exact Sim.stuck
    | methodOf t n =>
      dsimp only
      split
      · exact Sim.bind (Q := fun _ => True) (simT_underlying _) fun _ _ => sim_callMethod M _ _ _
      · exact Sim.stuck
    | via t path f p =>
      dsimp only
      split
      · exact Sim.bind (Q := fun _ => True) (simT_receiverVia _ _ _ _) fun _ _ => sim_callFunc M _ _
      · exact Sim.stuck
    | yield l => exact sim_yield _ _ _

def callOK (c : Call) : Bool := match c.callee with
  | .builtin b => okB b
  | _ => true
theorem sim_resolve (ρ : Operand → Value) {c : Call} (h : callOK c = true) (t : TypeId) : Sim V P (resolve ρ c t) fun d => okT d.target := by
  unfold resolve
  unfold callOK at h
  cases hc : c.callee with
  | builtin b => rw [hc] at h; exact Sim.pure h
  | invoke r n => exact Sim.pure trivial
  | value f =>
    dsimp only
    unfold Deferred.ofValue
    split
    · exact Sim.pure trivial
    · exact Sim.pure trivial
    · exact Sim.stuck

def opOK (P : Program) (o : Oper) : Bool := match o.op with
  | .move _ | .assign _ | .pick .. | .alloc _ | .box .. | .build .. | .buildSlice .. | .load .. | .store .. | .nilCheck _ | .unOp .. | .sliceToArrayPointer .. | .makeInterface .. | .makeFunc .. | .makeChan .. | .makeSlice .. | .slice .. | .fieldAddr .. | .field ..
  | .indexAddr .. | .index .. | .typeAssert .. | .extract .. | .panic _ | .send .. | .recv .. => true
  | .select _ b => b
  | .binOp op t _ y _ => !(op == .eql || op == .neq) || eqOK P t y
  | .convert s d _ => (match P.underlying s, P.underlying d with | some (.int _), some (.int _) => true | _, _ => false)
  | .call c | .defer c => callOK c
  | .go c => (match c.callee with | .value (.func _) => true | _ => false)
  | _ => false

theorem nilConst_value {ρ : Operand → Value} (hρ : ∀ v, ρ (.const v) = v) {y : Operand} (h : nilConst y = true) : nilValue (ρ y) = true := by
  unfold nilConst at h
  split at h
  · rw [hρ]; rfl
  · rw [hρ]; rfl
  · rw [hρ]; rfl
  · cases h

theorem simT_nilCheck (M : Mild P) (ρ : Operand → Value) (x : Operand) (t : TypeId) (d : Option Tmp) (o : Oper) (ho : o.op = .nilCheck x) : Sim V P (execOp ρ o) NextOK := by
  unfold execOp
  rw [ho]
  dsimp only
  split
  · exact simT_runtimePanic _
  · exact simT_runtimePanic _
  · exact simT_runtimePanic _
  · split
    · exact simT_runtimePanic _
    · refine Sim.bind (Q := fun _ => True) SimT.program fun p _ => Sim.bind (Q := fun _ => True) (simT_nilAhead _ _ _ _) fun b _ => ?_
      refine Sim.ite (fun _ => ?_) (fun _ => Sim.pure trivial)
      exact Sim.bind (Q := fun _ => False) (SimT.unsup trivial) fun _ h => h.elim
    · exact Sim.pure trivial
  · exact Sim.pure trivial

/-- AN OPERATION. -/
theorem sim_execOp (M : Mild P) {ρ : Operand → Value} (hρ : ∀ v, ρ (.const v) = v) (hf : ∀ f, ρ (.func f) = .func (.func f) #[] #[]) {o : Oper} (h : opOK P o = true) : Sim V P (execOp ρ o) NextOK := by
  obtain ⟨op, dst, ty⟩ : ∃ x : Op × Option Tmp × TypeId, x = (o.op, o.dst, o.type) := ⟨_, rfl⟩
  unfold opOK at h
  cases ho : o.op <;> rw [ho] at h <;> first | (exfalso; cases h; done) | skip
  case nilCheck x => exact simT_nilCheck M ρ x 0 none o ho
  all_goals (unfold execOp; rw [ho]; dsimp only)
  case move x => exact Sim.pure trivial
  case assign x => exact Sim.pure trivial
  case pick c a b => exact Sim.bind (Q := fun _ => True) (simT_asBool _) fun _ _ => Sim.pure trivial
  case alloc e => exact sim_value (simT_alloc _ _ _)
  case box e x => exact sim_value (simT_box _ _)
  case build t p => exact sim_value (simT_build _ _)
  case buildSlice t n p => exact sim_value (simT_buildSlice _ _ _)
  case load t a => exact sim_value (simT_loadAt _ _)
  case store t a x => exact sim_unit (simT_storeAt _ _ _)
  case binOp op t x y ty =>
    refine sim_value (Sim.bindT ?_ fun _ => ?_)
    · by_cases he : op = .eql ∨ op = .neq
      · have h' : eqOK P t y = true := by rcases he with rfl | rfl <;> simpa using h
        exact simT_eqGuard _ _ _ h' (nilConst_value hρ)
      · unfold eqGuard
        refine Sim.ite (fun _ => Sim.pureT) (fun hc => ?_)
        exfalso
        apply hc
        cases op <;> first | rfl | (exfalso; exact he (by simp))
    · exact simT_binOp0 _ _ _ _ fun he => by
        have h' : eqOK P t y = true := by rcases he with rfl | rfl <;> simpa using h
        exact simT_equal _ _ h' (nilConst_value hρ)
  case unOp op t x => exact sim_value (simT_unary _ _)
  case convert s d x => exact sim_value (simT_convert _ h)
  case sliceToArrayPointer d x => exact sim_value (simT_arrayAt _ _)
  case makeInterface t x => exact sim_value (simT_makeInterface _ _)
  case makeFunc f a b => exact sim_value (simT_makeFunc _ _ _)
  case makeChan t s => exact sim_value (simT_makeChan _ _)
  case makeSlice t l c => exact sim_value (simT_makeSlice _ _ _)
  case slice t x a b c => exact sim_value (simT_sliceAt _ _ _ _ _)
  case fieldAddr t x f => exact sim_value (simT_fieldAt _ _ _)
  case field t x f => exact sim_value (simT_field _ _ _)
  case indexAddr t x i => exact sim_value (simT_indexAt _ _ _)
  case index t x i => exact sim_value (simT_index _ _ _)
  case typeAssert x t a b => exact sim_value (simT_typeAssert _ _ _ _)
  case extract t i => exact sim_value (simT_extract _ _)
  case call c => exact Sim.bind (sim_resolve ρ h _) fun d hd => sim_invoke M hd _
  case go c =>
    have h : (match c.callee with | .value (.func _) => true | _ => false) = true := h
    unfold resolve
    cases hc : c.callee <;> rw [hc] at h <;> first | (exfalso; cases h; done) | skip
    rename_i f
    cases f <;> first | (exfalso; cases h; done) | skip
    rename_i g
    dsimp only
    rw [hf g]
    exact Sim.pure (show (Target.fn _ _) ≠ Target.nil from nofun)
  case defer c => exact Sim.bind (sim_resolve ρ h _) fun d hd => Sim.pure hd
  case panic x => exact sim_value (simT_panic _)
  case send c x => exact Sim.pure trivial
  case recv t c b =>
    refine Sim.bind (Q := fun _ => True) (simT_underlying _) fun d _ => ?_
    split
    · exact Sim.bind (Q := fun _ => True) (simT_zeroValue _) fun _ _ => Sim.pure trivial
    · exact Sim.stuck
  case select cs b =>
    exact Sim.bind (Q := fun _ => True) (simT_mapM _ _ fun s => Sim.bindT (simT_zeroValue _) fun _ => Sim.pureT) fun _ _ => Sim.pure trivial

end
end Go.Proofs.Ytnbaiinhalplcaa

namespace Go.Proofs.Ytnbaiinhalplcaa
set_option linter.unusedVariables false
set_option linter.unusedSimpArgs false
open Go.Conc

def gor (fr : Frame) (cs : List Frame) : Goroutine := { frame := fr, callers := cs, status := .running, dying := none }

def codeOK (P : Program) : Code → Bool
  | .region _ ops _ => ops.all (opOK P)
  | .seq a b | .cond _ a b => codeOK P a && codeOK P b
  | .block _ c | .loop c | .scope c => codeOK P c
  | .rangeFunc .. => false
  | _ => true
def itemOK (P : Program) : Item → Bool
  | .code c | .inLoop c | .inScope c => codeOK P c
  | .inBlock _ => true
  | .inRegion ops _ => ops.all (opOK P)
  | _ => false
structure FrOK (P : Program) (fr : Frame) : Prop where
  todo : ∀ i ∈ fr.todo, itemOK P i = true
  defers : ∀ d ∈ fr.defers, okT d.target
  round : fr.roundOf = none
  kind : fr.kind = .normal ∨ fr.kind = .deferred
def BotN : List Frame → Prop
  | [] => True
  | [f] => f.kind = .normal
  | _ :: f :: l => BotN (f :: l)
structure StOK (P : Program) (fr : Frame) (up : List Frame) : Prop where
  here : FrOK P fr
  all : ∀ f ∈ up, FrOK P f
  bot : BotN (fr :: up)

theorem BotN.swap {f g : Frame} {up : List Frame} (h : BotN (f :: up)) (hk : g.kind = f.kind) : BotN (g :: up) := by
  cases up with
  | nil => exact hk.trans h
  | cons a l => exact h
theorem StOK.swap {P : Program} {f g : Frame} {up : List Frame} (h : StOK P f up) (hg : FrOK P g) (hk : g.kind = f.kind) : StOK P g up := ⟨hg, h.all, h.bot.swap hk⟩
theorem StOK.push {P : Program} {f g : Frame} {up : List Frame} (h : StOK P f up) (hg : FrOK P g) : StOK P g (f :: up) :=
  ⟨hg, fun x hx => (List.mem_cons.1 hx).elim (fun e => e ▸ h.here) (h.all x), h.bot⟩
theorem StOK.pop {P : Program} {f g : Frame} {up : List Frame} (h : StOK P f (g :: up)) : StOK P g up :=
  ⟨h.all g List.mem_cons_self, fun x hx => h.all x (List.mem_cons_of_mem _ hx), h.bot⟩

structure Mild2 (P : Program) : Prop extends Mild P where
  code : ∀ (f : FuncId) (fn : Func) (c : Code), P.funcs[f]? = some fn → fn.body = some c → codeOK P c = true

/-- What lies below in the twin: whoever comes back to it comes to grief. -/
def sent (P : Program) : Frame := { fn := P.funcs.size, tmps := #[], todo := [.code (.refuse "")], defers := [{ target := .nil, args := #[] }], mode := .run, kind := .normal }
def Lost (P : Program) : GStep → Prop
  | .ended .. | .spawn .. => True
  | .go g _ _ => g = gor (sent P) [] ∨ ∃ c, g = gor ((sent P).raise c) []
  | _ => False

inductive Goes (V : Veil) (P : Program) (fr : Frame) (up : List Frame) (w : World) : Prop
  | go (A : List (Question → Nat)) (fr' : Frame) (up' : List Frame) (w' : World) (es : Array Event) (ok : StOK P fr' up') (vok : VOK V w') (keep : VKeep V w w') (calm : ∀ e ∈ es, CalmV V e)
      (real : ∀ main cs, stepG P main (gor fr (up ++ cs)) w = .go (gor fr' (up' ++ cs)) w' es)
      (twin : ∀ τ D, Agr A τ D → (stepG P true (gor fr (up ++ [sent P])) (V.world τ D w)).bare = .go (gor fr' (up' ++ [sent P])) (V.world τ (D + A.length) w'))
  | comm (A : List (Question → Nat)) (cases : Array CommCase) (b : Bool) (shape : CommShape) (w' : World) (es : Array Event) (vok : VOK V w') (keep : VKeep V w w') (calm : ∀ e ∈ es, CalmV V e)
      (reg : ∃ ops i rest k, fr.todo = .inRegion ops (i :: rest) :: k)
      (real : ∀ main cs, stepG P main (gor fr (up ++ cs)) w = .comm (gor fr (up ++ cs)) cases b shape w' es)
      (twin : ∀ τ D, Agr A τ D → (stepG P true (gor fr (up ++ [sent P])) (V.world τ D w)).bare = .comm (gor fr (up ++ [sent P])) cases b shape (V.world τ (D + A.length) w'))
  | lost (A : List (Question → Nat)) (twin : ∀ τ D, Agr A τ D → Lost P (stepG P true (gor fr (up ++ [sent P])) (V.world τ D w)).bare)

section
variable {V : Veil} {P : Program} {fr fr' : Frame} {up up' : List Frame} {w : World}

theorem Goes.to (hok : StOK P fr' up') (hw : VOK V w) (h : ∀ main cs w, stepG P main (gor fr (up ++ cs)) w = .go (gor fr' (up' ++ cs)) w) : Goes V P fr up w :=
  .go [] fr' up' w #[] hok hw (VKeep.refl V w) (fun e he => by simp at he) (fun main cs => h main cs w) (fun τ D _ => by rw [h]; rfl)
theorem Goes.ends (h : ∀ main cs w, ∃ o, (stepG P main (gor fr (up ++ cs)) w).bare = .ended o w) : Goes V P fr up w :=
  .lost [] fun τ D _ => by obtain ⟨o, ho⟩ := h true [sent P] (V.world τ D w); rw [ho]; trivial

theorem stepG_run (hm : fr.mode = .run) (main : Bool) (cs : List Frame) (w : World) : stepG P main (gor fr cs) w = stepG.exec P main true fr cs none w := by
  simp only [stepG, gor, hm]
theorem stepG_not_run (hm : fr.mode ≠ .run) (main : Bool) (cs : List Frame) (w : World) : stepG P main (gor fr cs) w = unwind P main fr cs none w := by
  simp only [stepG, gor]

theorem FrOK.todos (h : FrOK P fr) {t : List Item} (ht : ∀ i ∈ t, itemOK P i = true) : FrOK P { fr with todo := t } := ⟨ht, h.defers, h.round, h.kind⟩
theorem FrOK.modes (h : FrOK P fr) (m : FrameMode) : FrOK P { fr with mode := m } := ⟨h.todo, h.defers, h.round, h.kind⟩
theorem FrOK.raise (h : FrOK P fr) (c : List PanicEntry) : FrOK P (fr.raise c) := by
  unfold Frame.raise; split <;> exact ⟨h.todo, h.defers, h.round, h.kind⟩
theorem raise_kind (fr : Frame) (c : List PanicEntry) : (fr.raise c).kind = fr.kind := by unfold Frame.raise; split <;> rfl
theorem finish_kind (fr : Frame) (v : Value) : (fr.finish v).kind = fr.kind := by unfold Frame.finish; split <;> rfl
theorem FrOK.finish (h : FrOK P fr) (v : Value) : FrOK P (fr.finish v) := by
  have ht := h.todo
  unfold Frame.finish
  split
  · rename_i e
    rw [e] at ht
    have h0 := ht _ List.mem_cons_self
    exact ⟨fun i hi => (List.mem_cons.1 hi).elim (fun z => by subst z; exact h0) fun z => ht i (List.mem_cons_of_mem _ z), h.defers, h.round, h.kind⟩
  · rename_i e; rw [e] at ht; exact absurd (ht _ List.mem_cons_self) (by simp [itemOK])
  · rename_i e; rw [e] at ht; exact absurd (ht _ List.mem_cons_self) (by simp [itemOK])
  · rename_i e; rw [e] at ht; exact absurd (ht _ List.mem_cons_self) (by simp [itemOK])
  · rename_i e; rw [e] at ht; exact absurd (ht _ List.mem_cons_self) (by simp [itemOK])
  · exact h
theorem FrOK.enter (M : Mild2 P) (f : FuncId) (args : Array Value) {k : CallKind} (hk : k = .normal ∨ k = .deferred) : FrOK P (Frame.enter P f args k) := by
  refine ⟨fun i hi => ?_, fun d hd => (by simp [Frame.enter] at hd), rfl, hk⟩
  simp only [Frame.enter, List.mem_singleton] at hi
  subst hi
  simp only [itemOK]
  cases hf : P.funcs[f]? with
  | none => rfl
  | some fn =>
    simp only [Option.bind_some]
    cases hb : fn.body with
    | none => rfl
    | some c => exact M.code f fn c hf hb

theorem tryRecover_app {cs : List Frame} (h : StOK P fr up) : tryRecover fr (up ++ cs) = (tryRecover fr up).map fun x => (x.1, x.2 ++ cs) := by
  unfold tryRecover
  rcases h.here.kind with e | e
  · rw [e]; rfl
  · cases up with
    | nil => have := h.bot; simp only [BotN] at this; rw [e] at this; cases this
    | cons a l =>
      rw [e]
      simp only [List.cons_append]
      split <;> simp
theorem tryRecover_ok (h : StOK P fr up) {v : Value} {up' : List Frame} (e : tryRecover fr up = some (v, up')) : ∀ g, FrOK P g → g.kind = fr.kind → StOK P g up' := by
  intro g hg hgk
  unfold tryRecover at e
  rcases h.here.kind with k | k
  · rw [k] at e; cases e
  · cases up with
    | nil => rw [k] at e; cases e
    | cons a l =>
      rw [k] at e
      simp only at e
      split at e
      · obtain ⟨rfl, rfl⟩ := by simpa using e
        have h2 := h.pop
        refine ⟨hg, fun x hx => (List.mem_cons.1 hx).elim (fun z => by subst z; exact h2.here.modes _) (h2.all x), ?_⟩
        have hb : BotN (a :: l) := h.bot
        show BotN (_ :: l)
        exact hb.swap (g := { a with mode := _ }) rfl
      · cases e

/-- A step that reckons. -/
theorem goes_apply (M : Mild2 P) {s : Sem Next} (hs : Sim V P s NextOK) (hok : StOK P fr up) {ops : Array Oper} {i : Nat} {rest : List Nat} {k : List Item} (hreg : fr.todo = .inRegion ops (i :: rest) :: k) (hw : VOK V w)
    (h : ∀ main cs w, stepG P main (gor fr (up ++ cs)) w = stepG.apply P true fr (up ++ cs) none s w) : Goes V P fr up w := by
  have hke : (fr.kind == .early) = false := by rcases hok.here.kind with e | e <;> rw [e] <;> rfl
  have hfin : ∀ v, StOK P (fr.finish v) up := fun v => hok.swap (hok.here.finish v) (finish_kind _ _)
  rcases hs w hw with ⟨A, h1, h2, h3⟩ | ⟨A, hd⟩
  · have hcalm : ∀ e ∈ seen P fr.fn (s.runT P w #[]).2, CalmV V e := fun e he => (h2 #[] e (mem_seen he)).elim (fun z => by simp at z) id
    have hT : s.runT P w #[] = (s.run P w, (s.runT P w #[]).2) := by rw [← Sem.runT_fst P s w #[]]
    generalize hE : (s.runT P w #[]).2 = E at hT hcalm
    have hTt : ∀ τ D, Agr A τ D → ∃ E', s.runT P (V.world τ D w) #[] = (veilR V τ (D + A.length) (s.run P w), E') := fun τ D hA =>
      ⟨(s.runT P (V.world τ D w) #[]).2, by rw [← h3 τ D hA, ← Sem.runT_fst P s _ #[]]⟩
    cases hr : s.run P w with
    | halt hh w' =>
      rw [hr] at h1 hT hTt
      cases hh <;> first | exact False.elim h1 | skip
      rename_i v
      refine .go A (fr.raise [{ v, recovered := false }]) up w' (seen P fr.fn E) (hok.swap (hok.here.raise _) (raise_kind _ _)) h1.1 h1.2 hcalm (fun main cs => ?_) (fun τ D hA => ?_)
      · rw [h]; simp only [stepG.apply, hT, if_true, hke, if_false, Bool.false_eq_true, GStep.after, Array.append_empty, gor]
      · obtain ⟨E', hE'⟩ := hTt τ D hA
        rw [h]; simp only [stepG.apply, hE', veilR, if_true, GStep.bare_after]; rfl
    | ok v w' =>
      rw [hr] at h1 hT hTt
      obtain ⟨hv, hvok, hkeep⟩ := h1
      cases v <;> first | (exact hv.elim) | skip
      case value v =>
        refine .go A (fr.finish v) up w' (seen P fr.fn E) (hfin v) hvok hkeep hcalm (fun main cs => ?_) (fun τ D hA => ?_)
        · rw [h]; simp only [stepG.apply, hT, if_true, hke, if_false, Bool.false_eq_true, GStep.after, Array.append_empty, gor]
        · obtain ⟨E', hE'⟩ := hTt τ D hA
          rw [h]; simp only [stepG.apply, hE', veilR, if_true, GStep.bare_after]; rfl
      case skip =>
        refine .go A (fr.finish undef) up w' (seen P fr.fn E) (hfin _) hvok hkeep hcalm (fun main cs => ?_) (fun τ D hA => ?_)
        · rw [h]; simp only [stepG.apply, hT, if_true, hke, if_false, Bool.false_eq_true, GStep.after, Array.append_empty, gor]
        · obtain ⟨E', hE'⟩ := hTt τ D hA
          rw [h]; simp only [stepG.apply, hE', veilR, if_true, GStep.bare_after]; rfl
      case enter f args =>
        refine .go A (Frame.enter P f args .normal) (fr :: up) w' (seen P fr.fn E) (hok.push (FrOK.enter M f args (.inl rfl))) hvok hkeep hcalm (fun main cs => ?_) (fun τ D hA => ?_)
        · rw [h]; simp only [stepG.apply, hT, if_true, hke, if_false, Bool.false_eq_true, GStep.after, Array.append_empty, gor, hreg]; rfl
        · obtain ⟨E', hE'⟩ := hTt τ D hA
          rw [h]; simp only [stepG.apply, hE', veilR, if_true, GStep.bare_after, hreg]; rfl
      case defer d =>
        have hds : ∀ x ∈ d :: fr.defers, okT x.target := by
          intro x hx
          rcases List.mem_cons.1 hx with rfl | z
          · exact hv
          · exact hok.here.defers x z
        refine .go A ({ fr with defers := d :: fr.defers }.finish undef) up w' (seen P fr.fn E) (hok.swap (FrOK.finish (fr := { fr with defers := d :: fr.defers }) ⟨hok.here.todo, hds, hok.here.round, hok.here.kind⟩ _) (by rw [finish_kind])) hvok hkeep hcalm (fun main cs => ?_) (fun τ D hA => ?_)
        · rw [h]; simp only [stepG.apply, hT, if_true, hke, if_false, Bool.false_eq_true, GStep.after, Array.append_empty, gor]
        · obtain ⟨E', hE'⟩ := hTt τ D hA
          rw [h]; simp only [stepG.apply, hE', veilR, if_true, GStep.bare_after]; rfl
      case recover =>
        cases ht : tryRecover fr up with
        | none =>
          refine .go A (fr.finish .nilIface) up w' (seen P fr.fn E) (hfin _) hvok hkeep hcalm (fun main cs => ?_) (fun τ D hA => ?_)
          · rw [h]; simp only [stepG.apply, hT, if_true, hke, if_false, Bool.false_eq_true, hok.here.round, tryRecover_app hok, ht, Option.map_none, GStep.after, Array.append_empty, gor]
          · obtain ⟨E', hE'⟩ := hTt τ D hA
            rw [h]; simp only [stepG.apply, hE', veilR, if_true, GStep.bare_after, hok.here.round, tryRecover_app hok, ht, Option.map_none]; rfl
        | some x =>
          obtain ⟨v, up'⟩ := x
          refine .go A (fr.finish v) up' w' (seen P fr.fn E) (tryRecover_ok hok ht _ (hok.here.finish v) (finish_kind _ _)) hvok hkeep hcalm (fun main cs => ?_) (fun τ D hA => ?_)
          · rw [h]; simp only [stepG.apply, hT, if_true, hke, if_false, Bool.false_eq_true, hok.here.round, tryRecover_app hok, ht, Option.map_some, GStep.after, Array.append_empty, gor]
          · obtain ⟨E', hE'⟩ := hTt τ D hA
            rw [h]; simp only [stepG.apply, hE', veilR, if_true, GStep.bare_after, hok.here.round, tryRecover_app hok, ht, Option.map_some]; rfl
      case comm cases b shape =>
        refine .comm A cases b shape w' (seen P fr.fn E) hvok hkeep hcalm ⟨_, _, _, _, hreg⟩ (fun main cs => ?_) (fun τ D hA => ?_)
        · rw [h]; simp only [stepG.apply, hT, if_true, hke, if_false, Bool.false_eq_true, GStep.after, Array.append_empty, gor]
        · obtain ⟨E', hE'⟩ := hTt τ D hA
          rw [h]; simp only [stepG.apply, hE', veilR, if_true, GStep.bare_after]; rfl
      case spawn d =>
        refine .lost A fun τ D hA => ?_
        obtain ⟨E', hE'⟩ := hTt τ D hA
        obtain ⟨t, dargs⟩ := d
        have hv' : t ≠ .nil := hv
        rw [h]
        cases t <;> first | exact absurd rfl hv' | (simp only [stepG.apply, hE', veilR, if_true, GStep.bare_after, Bool.and_false, Bool.false_and, if_false, Bool.false_eq_true]; trivial)
  · refine .lost A fun τ D hA => ?_
    obtain ⟨hh, w', hdd, hrun⟩ := hd τ D hA
    obtain ⟨E', hT⟩ : ∃ E', s.runT P (V.world τ D w) #[] = (.halt hh w', E') := ⟨(s.runT P (V.world τ D w) #[]).2, by rw [← hrun, ← Sem.runT_fst P s _ #[]]⟩
    rw [h]
    cases hh with
    | stuck x => simp only [stepG.apply, hT, if_true, GStep.bare_after]; trivial
    | unsupported u =>
      cases u <;> first | exact hdd.elim | (simp only [stepG.apply, hT, if_true, GStep.bare_after]; trivial)
    | _ => exact hdd.elim

theorem sim_results (fn : Func) (tmps : Array Value) : SimT V P (results fn tmps) := by
  unfold results
  refine Sim.bindT (simT_mapM _ _ fun x => ?_) fun _ => Sim.pureT
  split
  · exact Sim.pureT
  · exact Sim.bindT (simT_asAddr _) fun _ => simT_loadVar _ _

theorem exitTo_ok {id : Nat} : ∀ {k k' : List Item}, exitTo id k = some k' → (∀ i ∈ k, itemOK P i = true) → ∀ i ∈ k', itemOK P i = true
  | [], _, h, _ => by cases h
  | i :: k, k', h, hk => by
    have hk2 : ∀ i ∈ k, itemOK P i = true := fun j hj => hk j (List.mem_cons_of_mem _ hj)
    cases i <;> simp only [exitTo] at h <;> first | exact exitTo_ok h hk2 | skip
    split at h
    · obtain rfl := Option.some.inj h; exact hk2
    · exact exitTo_ok h hk2
theorem findLabel_ok : ∀ {c : Code} {l : Nat} {r : Code}, findLabel c l = some r → codeOK P c = true → codeOK P r = true
  | .seq a b, l, r, h, hc => by
    have h0 : (codeOK P a && codeOK P b) = true := hc
    rw [Bool.and_eq_true] at h0
    simp only [findLabel] at h
    split at h
    · rename_i r' hr
      obtain rfl := Option.some.inj h
      show (codeOK P r' && codeOK P b) = true
      rw [findLabel_ok hr h0.1, h0.2]; rfl
    · exact findLabel_ok h h0.2
  | .label l', l, r, h, hc => by
    simp only [findLabel] at h
    split at h
    · obtain rfl := Option.some.inj h; rfl
    · cases h
  | .skip, _, _, h, _ | .region .., _, _, h, _ | .cond .., _, _, h, _ | .block .., _, _, h, _ | .loop _, _, _, h, _ | .scope _, _, _, h, _ | .rangeFunc .., _, _, h, _ | .ret, _, _, h, _ | .exit _, _, _, h, _ | .goto _, _, _, h, _ | .refuse _, _, _, h, _ => by simp [findLabel] at h
theorem gotoIn_ok {l : Nat} : ∀ {k k' : List Item}, gotoIn l k = some k' → (∀ i ∈ k, itemOK P i = true) → ∀ i ∈ k', itemOK P i = true
  | [], _, h, _ => by cases h
  | i :: k, k', h, hk => by
    have hk2 : ∀ i ∈ k, itemOK P i = true := fun j hj => hk j (List.mem_cons_of_mem _ hj)
    have hi := hk i List.mem_cons_self
    cases i <;> simp only [gotoIn] at h <;> first | exact gotoIn_ok h hk2 | skip
    split at h
    · rename_i c r hr
      obtain rfl := Option.some.inj h
      intro j hj
      rcases List.mem_cons.1 hj with rfl | hj
      · exact findLabel_ok hr hi
      · rcases List.mem_cons.1 hj with rfl | hj
        · exact hi
        · exact hk2 j hj
    · exact gotoIn_ok h hk2

/-- One step of code. -/
theorem goes_exec (M : Mild2 P) (hok : StOK P fr up) (hm : fr.mode = .run) (hw : VOK V w) : Goes V P fr up w := by
  obtain ⟨fn, tmps, todo, defers, mode, kind, roundOf⟩ := fr
  obtain rfl : mode = .run := hm
  obtain rfl : roundOf = none := hok.here.round
  have hrun := fun main cs w => stepG_run (P := P) (fr := { fn := fn, tmps := tmps, todo := todo, defers := defers, mode := .run, kind := kind, roundOf := none }) rfl main cs w
  have ht := hok.here.todo
  have hto : ∀ t : List Item, (∀ i ∈ t, itemOK P i = true) → StOK P { fn := fn, tmps := tmps, todo := t, defers := defers, mode := .run, kind := kind, roundOf := none } up := fun t h => hok.swap (hok.here.todos h) rfl
  have hret : StOK P { fn := fn, tmps := tmps, todo := todo, defers := defers, mode := .returning, kind := kind, roundOf := none } up := hok.swap (hok.here.modes .returning) rfl
  cases todo with
  | nil => exact Goes.to hret hw fun main cs w => by rw [hrun]; rfl
  | cons i k =>
    have hi := ht i List.mem_cons_self
    have hk : ∀ j ∈ k, itemOK P j = true := fun j hj => ht j (List.mem_cons_of_mem _ hj)
    have one : ∀ x, itemOK P x = true → ∀ j ∈ x :: k, itemOK P j = true := fun x hx j hj => by
      rcases List.mem_cons.1 hj with rfl | z
      · exact hx
      · exact hk j z
    have two : ∀ x y, itemOK P x = true → itemOK P y = true → ∀ j ∈ x :: y :: k, itemOK P j = true := fun x y hx hy j hj => by
      rcases List.mem_cons.1 hj with rfl | z
      · exact hx
      · exact one y hy j z
    cases i with
    | inBlock id => exact Goes.to (hto k hk) hw fun main cs w => by rw [hrun]; rfl
    | inScope c => exact Goes.to (hto k hk) hw fun main cs w => by rw [hrun]; rfl
    | inLoop c => exact Goes.to (hto _ (two (.code c) (.inLoop c) hi hi)) hw fun main cs w => by rw [hrun]; rfl
    | inRangeFunc l => cases hi
    | endRangeFunc l => cases hi
    | beginRound => cases hi
    | call d b s a => cases hi
    | extern s a => cases hi
    | inRegion ops is =>
      cases is with
      | nil => exact Goes.to (hto k hk) hw fun main cs w => by rw [hrun]; rfl
      | cons i rest =>
        by_cases hwt : ((ops[i]?).map (Region.wanted · (yielded ops tmps))).getD false = true
        · cases ho : ops[i]? with
          | none => rw [ho] at hwt; cases hwt
          | some o =>
            have hop : opOK P o = true := by
              have h0 : (ops.all (opOK P)) = true := hi
              rw [Array.all_eq_true_iff_forall_mem] at h0
              exact h0 o (Array.mem_of_getElem? ho)
            have hs := sim_execOp (V := V) M.toMild (ρ := Frame.eval { fn := fn, tmps := tmps, todo := .inRegion ops (i :: rest) :: k, defers := defers, mode := .run, kind := kind, roundOf := none }) (fun v => rfl) (fun f => rfl) hop
            refine goes_apply M hs hok rfl hw fun main cs w => ?_
            rw [hrun]
            simp only [stepG.exec]
            rw [if_pos hwt]
            simp only [stepG.oper, Frame.oper?, ho]
        · refine Goes.to (fr' := Frame.finish { fn := fn, tmps := tmps, todo := .inRegion ops (i :: rest) :: k, defers := defers, mode := .run, kind := kind, roundOf := none } undef) (hok.swap (hok.here.finish _) (finish_kind _ _)) hw fun main cs w => ?_
          rw [hrun]
          simp only [stepG.exec]
          rw [if_neg hwt]
          rfl
    | code c =>
      cases c with
      | skip => exact Goes.to (hto k hk) hw fun main cs w => by rw [hrun]; rfl
      | label l => exact Goes.to (hto k hk) hw fun main cs w => by rw [hrun]; rfl
      | ret => exact Goes.to hret hw fun main cs w => by rw [hrun]; rfl
      | seq a b =>
        have h0 : (codeOK P a && codeOK P b) = true := hi
        rw [Bool.and_eq_true] at h0
        exact Goes.to (hto _ (two (.code a) (.code b) h0.1 h0.2)) hw fun main cs w => by rw [hrun]; rfl
      | cond c a b =>
        have h0 : (codeOK P a && codeOK P b) = true := hi
        rw [Bool.and_eq_true] at h0
        cases hc : Frame.eval { fn := fn, tmps := tmps, todo := .code (.cond c a b) :: k, defers := defers, mode := .run, kind := kind, roundOf := none } c with
        | bool t => exact Goes.to (hto (.code (if t then a else b) :: k) (one _ (show codeOK P (if t then a else b) = true by cases t <;> simp [h0.1, h0.2]))) hw fun main cs w => by rw [hrun]; simp only [stepG.exec, hc]; rfl
        | _ => exact Goes.ends fun main cs w => ⟨.stuck "cond: bool expected" _, by rw [hrun]; simp only [stepG.exec, hc]; rfl⟩
      | block id c => exact Goes.to (hto _ (two (.code c) (.inBlock id) hi rfl)) hw fun main cs w => by rw [hrun]; rfl
      | loop c => exact Goes.to (hto _ (two (.code c) (.inLoop c) hi hi)) hw fun main cs w => by rw [hrun]; rfl
      | scope c => exact Goes.to (hto _ (two (.code c) (.inScope c) hi hi)) hw fun main cs w => by rw [hrun]; rfl
      | rangeFunc f a b c => cases hi
      | refuse why => exact Goes.ends fun main cs w => ⟨_, by rw [hrun]; rfl⟩
      | exit id =>
        cases he : exitTo id k with
        | some k' => exact Goes.to (hto k' (exitTo_ok he hk)) hw fun main cs w => by rw [hrun]; simp only [stepG.exec, he]; rfl
        | none => exact Goes.ends fun main cs w => ⟨_, by rw [hrun]; simp only [stepG.exec, he]; rfl⟩
      | goto l =>
        cases he : gotoIn l k with
        | some k' => exact Goes.to (hto k' (gotoIn_ok he hk)) hw fun main cs w => by rw [hrun]; simp only [stepG.exec, he]; rfl
        | none => exact Goes.ends fun main cs w => ⟨_, by rw [hrun]; simp only [stepG.exec, he]; rfl⟩
      | region id ops draw =>
        cases draw with
        | false => exact Goes.to (hto _ (one (.inRegion ops (List.range ops.size)) hi)) hw fun main cs w => by rw [hrun]; rfl
        | true =>
          rcases Sim.choose (V := V) (P := P) (.order fn id) w hw with ⟨A, h1, h2, h3⟩ | ⟨A, hd⟩
          · cases hr : (choose (.order fn id)).run P w with
            | ok t w' =>
              rw [hr] at h1 h3
              refine .go A { fn := fn, tmps := tmps, todo := .inRegion ops (Region.schedule (P.follows .mixedOrders) ops t) :: k, defers := defers, mode := .run, kind := kind, roundOf := none } up w' #[] (hto _ (one (.inRegion ops _) hi)) h1.2.1 h1.2.2 (fun e he => by simp at he) (fun main cs => ?_) (fun τ D hA => ?_)
              · rw [hrun]; simp only [stepG.exec, hr, Bool.not_true, if_false, Bool.false_eq_true]; rfl
              · rw [hrun]; simp only [stepG.exec, h3 τ D hA, veilR, Bool.not_true, if_false, Bool.false_eq_true]; rfl
            | halt hh w' =>
              rw [hr] at h3
              exact .lost A fun τ D hA => by rw [hrun]; simp only [stepG.exec, h3 τ D hA, veilR, Bool.not_true, if_false, Bool.false_eq_true]; trivial
          · refine .lost A fun τ D hA => ?_
            obtain ⟨hh, w', _, he⟩ := hd τ D hA
            rw [hrun]; simp only [stepG.exec, he, Bool.not_true, if_false, Bool.false_eq_true]; trivial
end
end Go.Proofs.Ytnbaiinhalplcaa
