/- In company: calls that are entered and left, and the way to a place. Of whatever program. Conditions: none. -/
import Derived.Test.YtodcnhodbeakiaaLfQ
namespace Go.Proofs.Ytodcnhodbeakiaa
set_option linter.unusedVariables false
set_option linter.unusedSimpArgs false
open Go.Conc

section
variable {P : Program} {Post : Value → World → Prop} {pl : Nat → Option Place} {n h : Nat} {cs : List Frame} {w w' : World}
variable {b : Frame} {a : Act} {k : List Item} {ops : Array Oper} {i : Nat} {rest : List Nat} {o : Oper} {v : Value}

theorem stepG_enter (hb : b.kind = .normal ∨ b.kind = .deferred) (main : Bool) (ho : ops[i]? = some o) (hwt : Region.wanted o (yielded ops a.tmps) = true) {w w' : World} {es : Array Event} {f : FuncId} {args : Array Value}
    (hr : (execOp a.eval o).runT P w #[] = (.ok (.enter f args) w', es)) :
    stepG P main (gor (b.at a (.inRegion ops (i :: rest) :: k)) cs) w = .go (gor (Frame.enter P f args .normal) (b.at a (.inRegion ops (i :: rest) :: k) :: cs)) w' (seen P b.fn es) := by
  have hke : ((b.at a (.inRegion ops (i :: rest) :: k)).kind == .early) = false := by
    show (b.kind == .early) = false
    rcases hb with e | e <;> rw [e] <;> rfl
  rw [stepG_oper main ho hwt]
  simp only [stepG.apply, hr, if_true, hke, if_false, Bool.false_eq_true, GStep.after, Array.append_empty, gor]
  rfl
/-- A call is entered. -/
theorem Win.enter (hb : b.kind = .normal ∨ b.kind = .deferred) (ho : ops[i]? = some o) (hwt : Region.wanted o (yielded ops a.tmps) = true) {f : FuncId} {args : Array Value} (hr : ∀ d, ∃ es, (execOp a.eval o).runT P (w.at d) #[] = (.ok (.enter f args) (w.at d), es) ∧ Reads es)
    (H : Win P Post pl n h (gor (Frame.enter P f args .normal) (b.at a (.inRegion ops (i :: rest) :: k) :: cs)) w) : Win P Post pl n h (gor (b.at a (.inRegion ops (i :: rest) :: k)) cs) w :=
  Win.step rfl fun d => by
    obtain ⟨es, h1, h2⟩ := hr d
    exact ⟨_, _, _, stepG_enter hb (h == 0) ho hwt h1, ⟨fun _ _ _ _ _ => rfl, fun _ _ _ z => z⟩, fun e he => h2.calm e (mem_seen he), H.at d⟩

theorem Win.ret (H : Win P Post pl n h (gor { b.at a (.code .ret :: k) with mode := .returning } cs) w) : Win P Post pl n h (gor (b.at a (.code .ret :: k)) cs) w := .turnless (fun d => rfl) H
theorem Win.falls (H : Win P Post pl n h (gor { b.at a [] with mode := .returning } cs) w) : Win P Post pl n h (gor (b.at a []) cs) w := .turnless (fun d => rfl) H

theorem stepG_leave {fr c : Frame} {cs : List Frame} (main : Bool) (hm : fr.mode = .returning) (hd : fr.defers = []) (hk : fr.kind = .normal) {fn : Func} (hf : P.funcs[fr.fn]? = some fn) {w w' : World} {es : Array Event} (hr : (results fn fr.tmps).runT P w #[] = (.ok v w', es)) :
    stepG P main (gor fr (c :: cs)) w = .go (gor (c.finish v) cs) w' (seen P fr.fn es) := by
  rw [stepG_not_run (by rw [hm]; simp)]
  unfold unwind
  simp only [hd, hm, hf, hr, doReturn, hk, GStep.after, Array.append_empty]
  rfl
/-- A call is left. -/
theorem Win.leave {fr c : Frame} {cs : List Frame} (hm : fr.mode = .returning) (hd : fr.defers = []) (hk : fr.kind = .normal) {fn : Func} (hf : P.funcs[fr.fn]? = some fn) (hr : ∀ d, ∃ es, (results fn fr.tmps).runT P (w.at d) #[] = (.ok v (w.at d), es) ∧ Reads es)
    (H : Win P Post pl n h (gor (c.finish v) cs) w) : Win P Post pl n h (gor fr (c :: cs)) w :=
  Win.step rfl fun d => by
    obtain ⟨es, h1, h2⟩ := hr d
    exact ⟨_, _, _, stepG_leave (h == 0) hm hd hk hf h1, ⟨fun _ _ _ _ _ => rfl, fun _ _ _ z => z⟩, fun e he => h2.calm e (mem_seen he), H.at d⟩

/-! The way to a place -/
variable {main : Bool} {s : Place} {N : Nat}

theorem Way.go {fr fr' : Frame} {cs cs' : List Frame} {es : Array Event} (hes : s.reads es) (hs : ∀ w, s.sees w → stepG P main (gor fr cs) w = .go (gor fr' cs') w es) (H : Way P main s N (gor fr' cs')) : Way P main s (N + 1) (gor fr cs) :=
  .inr ⟨rfl, _, es, hes, hs, H⟩
theorem Way.still {fr fr' : Frame} {cs cs' : List Frame} (hs : ∀ w, stepG P main (gor fr cs) w = .go (gor fr' cs') w) (H : Way P main s N (gor fr' cs')) : Way P main s (N + 1) (gor fr cs) :=
  Way.go (es := #[]) (fun e he => by simp at he) (fun w _ => hs w) H
theorem reads_seen {es : Array Event} (h : s.reads es) (f : FuncId) : s.reads (seen P f es) := fun e he => h e (mem_seen he)
/-- An operation on the way: it reads at most what stands still. -/
theorem Way.op (hb : b.kind = .normal ∨ b.kind = .deferred) (ho : ops[i]? = some o) (hwt : Region.wanted o (yielded ops a.tmps) = true) {es : Array Event} (hes : s.reads es) (hr : ∀ w, s.sees w → (execOp a.eval o).runT P w #[] = (.ok (.value v) w, es))
    (H : Way P main s N (gor (b.at (a.put o.dst v) (.inRegion ops rest :: k)) cs)) : Way P main s (N + 1) (gor (b.at a (.inRegion ops (i :: rest) :: k)) cs) :=
  Way.go (reads_seen hes _) (fun w hw => stepG_value hb main ho hwt (hr w hw)) H
theorem Way.enter (hb : b.kind = .normal ∨ b.kind = .deferred) (ho : ops[i]? = some o) (hwt : Region.wanted o (yielded ops a.tmps) = true) {f : FuncId} {args : Array Value} {es : Array Event} (hes : s.reads es)
    (hr : ∀ w, s.sees w → (execOp a.eval o).runT P w #[] = (.ok (.enter f args) w, es)) (H : Way P main s N (gor (Frame.enter P f args .normal) (b.at a (.inRegion ops (i :: rest) :: k) :: cs))) : Way P main s (N + 1) (gor (b.at a (.inRegion ops (i :: rest) :: k)) cs) :=
  Way.go (reads_seen hes _) (fun w hw => stepG_enter hb main ho hwt (hr w hw)) H
theorem Way.opsEnd (H : Way P main s N (gor (b.at a k) cs)) : Way P main s (N + 1) (gor (b.at a (.inRegion ops [] :: k)) cs) := .still (fun w => rfl) H
theorem Way.region {id : Nat} (H : Way P main s N (gor (b.at a (.inRegion ops (List.range ops.size) :: k)) cs)) : Way P main s (N + 1) (gor (b.at a (.code (.region id ops false) :: k)) cs) := .still (fun w => rfl) H
theorem Way.seq {x y : Code} (H : Way P main s N (gor (b.at a (.code x :: .code y :: k)) cs)) : Way P main s (N + 1) (gor (b.at a (.code (.seq x y) :: k)) cs) := .still (fun w => rfl) H
theorem Way.skip (H : Way P main s N (gor (b.at a k) cs)) : Way P main s (N + 1) (gor (b.at a (.code .skip :: k)) cs) := .still (fun w => rfl) H
theorem Way.block {id : Nat} {x : Code} (H : Way P main s N (gor (b.at a (.code x :: .inBlock id :: k)) cs)) : Way P main s (N + 1) (gor (b.at a (.code (.block id x) :: k)) cs) := .still (fun w => rfl) H
theorem Way.inBlock {id : Nat} (H : Way P main s N (gor (b.at a k) cs)) : Way P main s (N + 1) (gor (b.at a (.inBlock id :: k)) cs) := .still (fun w => rfl) H
theorem Way.scope {x : Code} (H : Way P main s N (gor (b.at a (.code x :: .inScope x :: k)) cs)) : Way P main s (N + 1) (gor (b.at a (.code (.scope x) :: k)) cs) := .still (fun w => rfl) H

/-- An operation that reads nothing. -/
theorem Way.pure (hb : b.kind = .normal ∨ b.kind = .deferred) (ho : ops[i]? = some o) (hwt : Region.wanted o (yielded ops a.tmps) = true) (hr : ∀ w, (execOp a.eval o).runT P w #[] = (.ok (.value v) w, #[]))
    (H : Way P main s N (gor (b.at (a.put o.dst v) (.inRegion ops rest :: k)) cs)) : Way P main s (N + 1) (gor (b.at a (.inRegion ops (i :: rest) :: k)) cs) :=
  Way.op hb ho hwt (es := #[]) (fun e he => by simp at he) (fun w _ => hr w) H
/-- One that looks at a cell that stands still. -/
theorem Way.look {ad : Addr} {x : Value} (hb : b.kind = .normal ∨ b.kind = .deferred) (ho : ops[i]? = some o) (hwt : Region.wanted o (yielded ops a.tmps) = true) (hst : s.still ad x) (hr : ∀ w, w.cell? ad = some x → (execOp a.eval o).runT P w #[] = (.ok (.value v) w, #[⟨.cell ad, false, false⟩]))
    (H : Way P main s N (gor (b.at (a.put o.dst v) (.inRegion ops rest :: k)) cs)) : Way P main s (N + 1) (gor (b.at a (.inRegion ops (i :: rest) :: k)) cs) :=
  Way.op hb ho hwt (es := #[⟨.cell ad, false, false⟩]) (fun e he => ⟨ad, x, by simpa using he, hst⟩) (fun w hw => hr w (hw ad x hst)) H
theorem Way.skipped (ho : ops[i]? = some o) (hwt : Region.wanted o (yielded ops a.tmps) = false) (H : Way P main s N (gor (b.at (a.put o.dst undef) (.inRegion ops rest :: k)) cs)) : Way P main s (N + 1) (gor (b.at a (.inRegion ops (i :: rest) :: k)) cs) := by
  refine .still (fun w => ?_) H
  have hf := Frame.finish_at b a ops i rest k undef
  rw [ho] at hf
  simp only [Option.bind_some] at hf
  rw [← hf, stepG_run rfl]
  simp only [stepG.exec, Frame.at, ho, Option.map_some, hwt, Option.getD_some, if_false, Bool.false_eq_true]
  rfl

theorem enter_at {f : FuncId} {args : Array Value} {kd : CallKind} {fn : Func} {c : Code} (hf : P.funcs[f]? = some fn) (hb : fn.body = some c) :
    Frame.enter P f args kd = (Frame.enter P f args kd).at ⟨args ++ Array.replicate (fn.ntmps - args.size) undef, []⟩ [.code c] := by
  simp [Frame.enter, Frame.at, hf, hb]

/-- One stands at a communication. -/
theorem Way.there (hb : b.kind = .normal ∨ b.kind = .deferred) (ho : ops[i]? = some o) (hwt : Region.wanted o (yielded ops a.tmps) = true) {es : Array Event} (hes : s.reads es)
    (hr : ∀ w, s.sees w → (execOp a.eval o).runT P w #[] = (.ok (.comm s.cases true s.shape) w, es)) (hh : s.home (gor (b.at a (.inRegion ops (i :: rest) :: k)) cs)) : Way P main s 0 (gor (b.at a (.inRegion ops (i :: rest) :: k)) cs) := by
  refine ⟨gor (b.at a (.inRegion ops (i :: rest) :: k)) cs, rfl, rfl, rfl, rfl, hh, seen P b.fn es, reads_seen hes _, fun w hw => ?_⟩
  have hke : ((b.at a (.inRegion ops (i :: rest) :: k)).kind == .early) = false := by
    show (b.kind == .early) = false
    rcases hb with e | e <;> rw [e] <;> rfl
  rw [stepG_oper main ho hwt]
  simp only [stepG.apply, hr w hw, if_true, hke, if_false, Bool.false_eq_true, GStep.after, Array.append_empty, gor]
  rfl
theorem Way.upTo {g : Goroutine} {N M : Nat} (H : Way P main s N g) (hle : N ≤ M) : Way P main s M g := by
  obtain ⟨d, rfl⟩ := Nat.exists_eq_add_of_le hle
  induction d with
  | zero => exact H
  | succ d ih => exact (ih (by omega)).more
end
end Go.Proofs.Ytodcnhodbeakiaa
