/- The veiled twin, through append. Of whatever program. Conditions: none. -/
import Derived.Test.YtodcnhodbeakiaaLfE
namespace Go.Proofs.Ytodcnhodbeakiaa
set_option linter.unusedVariables false
set_option linter.unusedSimpArgs false

section
variable {V : Veil} {P : Program} {α β : Type}

theorem simT_tooMuch' (s m n : Nat) (b : Option Addr) (x : Value) (z : Bool) (e : RuntimeError) : SimT V P (if z = true then runtimePanic e else do
    let c ← Builtin.mayShare s m n b x
    if (!c) = true then do
      mark .noRoom
      unsupported (.resourceLimit "append: a slice or a string whose bytes no memory bears")
    else unsupported (.resourceLimit "append: a slice or a string whose bytes no memory bears") : Sem Unit) := by
  refine Sim.ite (fun _ => simT_runtimePanic _) (fun _ => ?_)
  refine Doomed.sim (doomed_share fun c => ?_)
  cases c with
  | true => exact Doomed.unsup trivial
  | false => exact Doomed.pre (Sim.mark _ (by simp) (by simp) (by simp)) (fun w _ v w' h => by cases h) fun _ => Doomed.unsup trivial

theorem simT_append (a : Array TypeId) (t : TypeId) (x : Array Value) : SimT V P (Builtin.append_ a t x) := by
  unfold Builtin.append_
  split
  rotate_left
  · exact Sim.stuck
  rename_i sType s x' heq
  refine Sim.bindT (simT_underlying _) fun d => ?_
  split
  rotate_left
  · exact Sim.stuck
  rename_i elem
  cases s with
  | slice base sLen sCap =>
    refine Sim.bindT (simT_sizeOf _) fun size => ?_
    extract_lets jm jz
    have hz : ∀ zeros, SimT V P (jz zeros) := by
      intro zeros
      dsimp -zeta only [jz]
      extract_lets jn
      have hn : ∀ n, SimT V P (jn n) := by
        intro n
        dsimp -zeta only [jn]
        extract_lets ap need jst j2 j1
        have hap : SimT V P ap := by
          dsimp only [ap]
          refine Sim.ite (fun _ => simT_firstCells _ _ _) (fun _ => Sim.ite (fun _ => Sim.pureT) (fun _ => Sim.bindT (simT_zeroValue _) fun _ => Sim.pureT))
        have hst : ∀ u, SimT V P (jst u) := fun u => Sim.pureT
        have h2 : ∀ u, SimT V P (j2 u) := fun u => by
          dsimp only [j2]
          exact Sim.bindT (Sim.choose _) fun newCap => Sim.bindT (simT_typeInfo _) fun ti => Sim.bindT (simT_askRoom _) fun _ => Sim.bindT (simT_firstCells _ _ _) fun old => Sim.bindT hap fun new => Sim.bindT (simT_zeroValue _) fun z => Sim.bindT (simT_newRow _ _) fun _ => Sim.pureT
        have h1 : ∀ u, SimT V P (j1 u) := fun u => by
          dsimp -zeta only [j1]
          refine Sim.bindT (simT_typeInfo _) fun ti => ?_
          refine Sim.ite (fun _ => ?_) (fun _ => h2 ())
          exact Sim.bindT (simT_tooMuch' _ _ _ _ _ _ _) fun _ => h2 ()
        clear_value ap jst j2 j1
        refine Sim.ite (fun _ => ?_) (fun _ => ?_)
        · refine Sim.bindT hap fun new => ?_
          cases base with
          | none => exact hst ()
          | some b => exact Sim.bindT (simT_storeCells _ _ _) fun _ => hst ()
        · refine Sim.bindT (simT_typeInfo _) fun ti => ?_
          exact Sim.ite (fun _ => simT_panicThen _ _) (fun _ => h1 ())
      clear_value jn
      refine Sim.ite (fun _ => ?_) (fun _ => Sim.bindT (simT_lenOf _) fun n => hn n)
      refine Sim.bindT (simT_asInt _) fun i => ?_
      extract_lets l j4 j3
      have h4 : ∀ u, SimT V P (j4 u) := fun u => Sim.bindT Sim.pureT fun n => hn n
      have h3 : ∀ u, SimT V P (j3 u) := by
        intro u
        dsimp -zeta only [j3]
        refine Sim.bindT (simT_typeInfo _) fun ti => ?_
        exact Sim.ite (fun _ => Sim.bindT (Sim.choose _) fun _ => simT_panicThen _ _) (fun _ => h4 ())
      clear_value j3
      exact Sim.ite (fun _ => simT_panicThen _ _) (fun _ => h3 ())
    clear_value jz
    cases a[1]? with
    | none => exact Sim.bindT Sim.pureT fun z => hz z
    | some xt => exact Sim.bindT (simT_underlying _) fun d => Sim.bindT Sim.pureT fun z => hz z
  | _ => exact Sim.stuck
end
end Go.Proofs.Ytodcnhodbeakiaa
