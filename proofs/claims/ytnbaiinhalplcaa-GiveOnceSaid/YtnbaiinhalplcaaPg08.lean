/- In company: calls that are entered and left, and the way to a place. Of whatever program. Conditions: none. In company: operations that write, send, close, start a goroutine, defer, panic; how frames are left. Of whatever program. Conditions: none. In company: an operation that reads nothing, that looks at a cell, that stores into one. Of whatever program. Conditions: none. In company: memory that is made; what is known of the cells that the waiting ones look at, carried on. Of whatever program. Conditions: none. Conditions: as each theorem states them. -/
import Derived.Deep.RegionHeld
import Derived.Test.YtnbaiinhalplcaaPg07
namespace Go.Proofs.Ytnbaiinhalplcaa
set_option linter.unusedVariables false
set_option linter.unusedSimpArgs false
open Go.Conc

section
variable {P : Program} {Post : Value → World → Prop} {pl : Nat → Option Place} {n h : Nat} {cs : List Frame} {w w' : World}
variable {b : Frame} {a : Act} {k : List Item} {ops : Array Oper} {i : Nat} {rest : List Nat} {o : Oper} {v : Value}

theorem stepG_enter (hb : b.kind = .normal ∨ b.kind = .deferred) (main : Bool) (ho : ops[i]? = some o) (hwt : Region.wanted o (yielded ops a.tmps) = true) {w w' : World} {es : Array Event} {f : FuncId} {args : Array Value}
    (hr : (execOp a.eval o).runT P w #[] = (.ok (.enter f args) w', es)) :
    stepG P main (gor (b.at a (.inRegion ops (i :: rest) :: k)) cs) w = .go (gor (Frame.enter P f args .normal) (b.at a (.inRegion ops (i :: rest) :: k) :: cs)) w' (seen P b.fn es) := by
  have hke : ((b.at a (.inRegion ops (i :: rest) :: k)).kind == .early) = false := by
    show (b.kind == .early) = false
    rcases hb with e | e <;> rw [e] <;> rfl
  rw [stepG_oper main ho hwt]
  simp only [stepG.apply, hr, if_true, hke, if_false, Bool.false_eq_true, GStep.after, Array.append_empty, gor]
  rfl
/-- A call is entered. -/
theorem Win.enter (hb : b.kind = .normal ∨ b.kind = .deferred) (ho : ops[i]? = some o) (hwt : Region.wanted o (yielded ops a.tmps) = true) {f : FuncId} {args : Array Value} (hr : ∀ d, ∃ es, (execOp a.eval o).runT P (w.at d) #[] = (.ok (.enter f args) (w.at d), es) ∧ Reads es)
    (H : Win P Post pl n h (gor (Frame.enter P f args .normal) (b.at a (.inRegion ops (i :: rest) :: k) :: cs)) w) : Win P Post pl n h (gor (b.at a (.inRegion ops (i :: rest) :: k)) cs) w :=
  Win.step rfl fun d => by
    obtain ⟨es, h1, h2⟩ := hr d
    exact ⟨_, _, _, stepG_enter hb (h == 0) ho hwt h1, ⟨fun _ _ _ _ _ => rfl, fun _ _ _ z => z⟩, fun e he => h2.calm e (mem_seen he), H.at d⟩

theorem Win.ret (H : Win P Post pl n h (gor { b.at a (.code .ret :: k) with mode := .returning } cs) w) : Win P Post pl n h (gor (b.at a (.code .ret :: k)) cs) w := .turnless (fun d => rfl) H
theorem Win.falls (H : Win P Post pl n h (gor { b.at a [] with mode := .returning } cs) w) : Win P Post pl n h (gor (b.at a []) cs) w := .turnless (fun d => rfl) H

theorem stepG_leave {fr c : Frame} {cs : List Frame} (main : Bool) (hm : fr.mode = .returning) (hd : fr.defers = []) (hk : fr.kind = .normal) {fn : Func} (hf : P.funcs[fr.fn]? = some fn) {w w' : World} {es : Array Event} (hr : (results fn fr.tmps).runT P w #[] = (.ok v w', es)) :
    stepG P main (gor fr (c :: cs)) w = .go (gor (c.finish v) cs) w' (seen P fr.fn es) := by
  rw [stepG_not_run (by rw [hm]; simp)]
  unfold unwind
  simp only [hd, hm, hf, hr, doReturn, hk, GStep.after, Array.append_empty]
  rfl
/-- A call is left. -/
theorem Win.leave {fr c : Frame} {cs : List Frame} (hm : fr.mode = .returning) (hd : fr.defers = []) (hk : fr.kind = .normal) {fn : Func} (hf : P.funcs[fr.fn]? = some fn) (hr : ∀ d, ∃ es, (results fn fr.tmps).runT P (w.at d) #[] = (.ok v (w.at d), es) ∧ Reads es)
    (H : Win P Post pl n h (gor (c.finish v) cs) w) : Win P Post pl n h (gor fr (c :: cs)) w :=
  Win.step rfl fun d => by
    obtain ⟨es, h1, h2⟩ := hr d
    exact ⟨_, _, _, stepG_leave (h == 0) hm hd hk hf h1, ⟨fun _ _ _ _ _ => rfl, fun _ _ _ z => z⟩, fun e he => h2.calm e (mem_seen he), H.at d⟩

/-! The way to a place -/
variable {main : Bool} {s : Place} {N : Nat}

theorem Way.go {fr fr' : Frame} {cs cs' : List Frame} {es : Array Event} (hes : s.reads es) (hs : ∀ w, s.sees w → stepG P main (gor fr cs) w = .go (gor fr' cs') w es) (H : Way P main s N (gor fr' cs')) : Way P main s (N + 1) (gor fr cs) :=
  .inr ⟨rfl, _, es, hes, hs, H⟩
theorem Way.still {fr fr' : Frame} {cs cs' : List Frame} (hs : ∀ w, stepG P main (gor fr cs) w = .go (gor fr' cs') w) (H : Way P main s N (gor fr' cs')) : Way P main s (N + 1) (gor fr cs) :=
  Way.go (es := #[]) (fun e he => by simp at he) (fun w _ => hs w) H
theorem reads_seen {es : Array Event} (h : s.reads es) (f : FuncId) : s.reads (seen P f es) := fun e he => h e (mem_seen he)
/-- An operation on the way: it reads at most what stands still. -/
theorem Way.op (hb : b.kind = .normal ∨ b.kind = .deferred) (ho : ops[i]? = some o) (hwt : Region.wanted o (yielded ops a.tmps) = true) {es : Array Event} (hes : s.reads es) (hr : ∀ w, s.sees w → (execOp a.eval o).runT P w #[] = (.ok (.value v) w, es))
    (H : Way P main s N (gor (b.at (a.put o.dst v) (.inRegion ops rest :: k)) cs)) : Way P main s (N + 1) (gor (b.at a (.inRegion ops (i :: rest) :: k)) cs) :=
  Way.go (reads_seen hes _) (fun w hw => stepG_value hb main ho hwt (hr w hw)) H
theorem Way.enter (hb : b.kind = .normal ∨ b.kind = .deferred) (ho : ops[i]? = some o) (hwt : Region.wanted o (yielded ops a.tmps) = true) {f : FuncId} {args : Array Value} {es : Array Event} (hes : s.reads es)
    (hr : ∀ w, s.sees w → (execOp a.eval o).runT P w #[] = (.ok (.enter f args) w, es)) (H : Way P main s N (gor (Frame.enter P f args .normal) (b.at a (.inRegion ops (i :: rest) :: k) :: cs))) : Way P main s (N + 1) (gor (b.at a (.inRegion ops (i :: rest) :: k)) cs) :=
  Way.go (reads_seen hes _) (fun w hw => stepG_enter hb main ho hwt (hr w hw)) H
theorem Way.opsEnd (H : Way P main s N (gor (b.at a k) cs)) : Way P main s (N + 1) (gor (b.at a (.inRegion ops [] :: k)) cs) := .still (fun w => rfl) H
theorem Way.region {id : Nat} (H : Way P main s N (gor (b.at a (.inRegion ops (List.range ops.size) :: k)) cs)) : Way P main s (N + 1) (gor (b.at a (.code (.region id ops false) :: k)) cs) := .still (fun w => rfl) H
theorem Way.seq {x y : Code} (H : Way P main s N (gor (b.at a (.code x :: .code y :: k)) cs)) : Way P main s (N + 1) (gor (b.at a (.code (.seq x y) :: k)) cs) := .still (fun w => rfl) H
theorem Way.skip (H : Way P main s N (gor (b.at a k) cs)) : Way P main s (N + 1) (gor (b.at a (.code .skip :: k)) cs) := .still (fun w => rfl) H
theorem Way.block {id : Nat} {x : Code} (H : Way P main s N (gor (b.at a (.code x :: .inBlock id :: k)) cs)) : Way P main s (N + 1) (gor (b.at a (.code (.block id x) :: k)) cs) := .still (fun w => rfl) H
theorem Way.inBlock {id : Nat} (H : Way P main s N (gor (b.at a k) cs)) : Way P main s (N + 1) (gor (b.at a (.inBlock id :: k)) cs) := .still (fun w => rfl) H
theorem Way.scope {x : Code} (H : Way P main s N (gor (b.at a (.code x :: .inScope x :: k)) cs)) : Way P main s (N + 1) (gor (b.at a (.code (.scope x) :: k)) cs) := .still (fun w => rfl) H

/-- An operation that reads nothing. -/
theorem Way.pure (hb : b.kind = .normal ∨ b.kind = .deferred) (ho : ops[i]? = some o) (hwt : Region.wanted o (yielded ops a.tmps) = true) (hr : ∀ w, (execOp a.eval o).runT P w #[] = (.ok (.value v) w, #[]))
    (H : Way P main s N (gor (b.at (a.put o.dst v) (.inRegion ops rest :: k)) cs)) : Way P main s (N + 1) (gor (b.at a (.inRegion ops (i :: rest) :: k)) cs) :=
  Way.op hb ho hwt (es := #[]) (fun e he => by simp at he) (fun w _ => hr w) H
/-- One that looks at a cell that stands still. -/
theorem Way.look {ad : Addr} {x : Value} (hb : b.kind = .normal ∨ b.kind = .deferred) (ho : ops[i]? = some o) (hwt : Region.wanted o (yielded ops a.tmps) = true) (hst : s.still ad x) (hr : ∀ w, w.cell? ad = some x → (execOp a.eval o).runT P w #[] = (.ok (.value v) w, #[⟨.cell ad, false, false⟩]))
    (H : Way P main s N (gor (b.at (a.put o.dst v) (.inRegion ops rest :: k)) cs)) : Way P main s (N + 1) (gor (b.at a (.inRegion ops (i :: rest) :: k)) cs) :=
  Way.op hb ho hwt (es := #[⟨.cell ad, false, false⟩]) (fun e he => ⟨ad, x, by simpa using he, hst⟩) (fun w hw => hr w (hw ad x hst)) H
theorem enter_at {f : FuncId} {args : Array Value} {kd : CallKind} {fn : Func} {c : Code} (hf : P.funcs[f]? = some fn) (hb : fn.body = some c) :
    Frame.enter P f args kd = (Frame.enter P f args kd).at ⟨args ++ Array.replicate (fn.ntmps - args.size) undef, []⟩ [.code c] := by
  simp [Frame.enter, Frame.at, hf, hb]

/-- One stands at a communication. -/
theorem Way.there (hb : b.kind = .normal ∨ b.kind = .deferred) (ho : ops[i]? = some o) (hwt : Region.wanted o (yielded ops a.tmps) = true) {es : Array Event} (hes : s.reads es)
    (hr : ∀ w, s.sees w → (execOp a.eval o).runT P w #[] = (.ok (.comm s.cases true s.shape) w, es)) (hh : s.home (gor (b.at a (.inRegion ops (i :: rest) :: k)) cs)) : Way P main s 0 (gor (b.at a (.inRegion ops (i :: rest) :: k)) cs) := by
  refine ⟨gor (b.at a (.inRegion ops (i :: rest) :: k)) cs, rfl, rfl, rfl, rfl, hh, seen P b.fn es, reads_seen hes _, fun w hw => ?_⟩
  have hke : ((b.at a (.inRegion ops (i :: rest) :: k)).kind == .early) = false := by
    show (b.kind == .early) = false
    rcases hb with e | e <;> rw [e] <;> rfl
  rw [stepG_oper main ho hwt]
  simp only [stepG.apply, hr w hw, if_true, hke, if_false, Bool.false_eq_true, GStep.after, Array.append_empty, gor]
  rfl
theorem Way.upTo {g : Goroutine} {N M : Nat} (H : Way P main s N g) (hle : N ≤ M) : Way P main s M g := by
  obtain ⟨d, rfl⟩ := Nat.exists_eq_add_of_le hle
  induction d with
  | zero => exact H
  | succ d ih => exact (ih (by omega)).more
end
end Go.Proofs.Ytnbaiinhalplcaa

namespace Go.Proofs.Ytnbaiinhalplcaa
set_option linter.unusedVariables false
set_option linter.unusedSimpArgs false
open Go.Conc
open Go.ConcN (upd)

section
variable {P : Program} {Post : Value → World → Prop} {pl : Nat → Option Place} {n h : Nat} {cs : List Frame} {w w' : World}
variable {b : Frame} {a : Act} {k : List Item} {ops : Array Oper} {i : Nat} {rest : List Nat} {o : Oper} {v : Value}

theorem at_not_early (hb : b.kind = .normal ∨ b.kind = .deferred) (t : List Item) : ((b.at a t).kind == .early) = false := by
  show (b.kind == .early) = false
  rcases hb with e | e <;> rw [e] <;> rfl
theorem served_gor (v : Value) : Go.Conc.served (gor (b.at a (.inRegion ops (i :: rest) :: k)) cs) v = gor (b.at (a.put ((ops[i]?).bind (·.dst)) v) (.inRegion ops rest :: k)) cs := by
  have hf := Frame.finish_at b a ops i rest k v
  simp only [Go.Conc.served, gor, hf]

theorem stepG_skip (hb : b.kind = .normal ∨ b.kind = .deferred) (main : Bool) (ho : ops[i]? = some o) (hwt : Region.wanted o (yielded ops a.tmps) = true) {w w' : World} {es : Array Event} (hr : (execOp a.eval o).runT P w #[] = (.ok .skip w', es)) :
    stepG P main (gor (b.at a (.inRegion ops (i :: rest) :: k)) cs) w = .go (gor (b.at (a.put o.dst undef) (.inRegion ops rest :: k)) cs) w' (seen P b.fn es) := by
  have hf := Frame.finish_at b a ops i rest k undef
  rw [ho] at hf
  rw [stepG_oper main ho hwt]
  simp only [stepG.apply, hr, if_true, at_not_early hb, if_false, Bool.false_eq_true, GStep.after, Array.append_empty, gor]
  rw [hf]; rfl
/-- An operation that writes, and answers something. -/
theorem Win.opW (hb : b.kind = .normal ∨ b.kind = .deferred) (ho : ops[i]? = some o) (hwt : Region.wanted o (yielded ops a.tmps) = true)
    (H : ∀ d, ∃ v w' es, (execOp a.eval o).runT P (w.at d) #[] = (.ok (.value v) w', es) ∧ Kept pl (w.at d) w' ∧ (∀ e ∈ es, Calm pl e) ∧ Win P Post pl n h (gor (b.at (a.put o.dst v) (.inRegion ops rest :: k)) cs) w') : Win P Post pl n h (gor (b.at a (.inRegion ops (i :: rest) :: k)) cs) w :=
  Win.step rfl fun d => by
    obtain ⟨v, w', es, h1, h2, h3, h4⟩ := H d
    exact ⟨_, _, _, stepG_value hb (h == 0) ho hwt h1, h2, fun e he => h3 e (mem_seen he), h4⟩
/-- One that writes, and answers nothing. -/
theorem Win.opS (hb : b.kind = .normal ∨ b.kind = .deferred) (ho : ops[i]? = some o) (hwt : Region.wanted o (yielded ops a.tmps) = true)
    (H : ∀ d, ∃ w' es, (execOp a.eval o).runT P (w.at d) #[] = (.ok .skip w', es) ∧ Kept pl (w.at d) w' ∧ (∀ e ∈ es, Calm pl e) ∧ Win P Post pl n h (gor (b.at (a.put o.dst undef) (.inRegion ops rest :: k)) cs) w') : Win P Post pl n h (gor (b.at a (.inRegion ops (i :: rest) :: k)) cs) w :=
  Win.step rfl fun d => by
    obtain ⟨w', es, h1, h2, h3, h4⟩ := H d
    exact ⟨_, _, _, stepG_skip hb (h == 0) ho hwt h1, h2, fun e he => h3 e (mem_seen he), h4⟩

/-- A SEND to one who waits. -/
theorem Win.sends {j c kk : Nat} {s : Place} {x z z' : Value} {es : Array Event} {pl' : Option Place} (hb : b.kind = .normal ∨ b.kind = .deferred) (ho : ops[i]? = some o) (hwt : Region.wanted o (yielded ops a.tmps) = true)
    (hr : ∀ d, (execOp a.eval o).runT P (w.at d) #[] = (.ok (.comm #[scase c x z'] true .send) (w.at d), es)) (hes : Reads es) (hj : pl j = some s) (hk : s.cases[kk]? = some (rcase c z))
    (hR : Rests P pl h w (gor (b.at (a.put o.dst undef) (.inRegion ops rest :: k)) cs) pl')
    (hw : ∀ g₂ d m, s.home g₂ → w.heap[c]? = some (.chan 0 #[] false m m false) → Win P Post (moved pl h j pl') n j (Go.Conc.served g₂ (commResult s.cases s.shape kk x true)) ((w.at d).setChan c 0 #[] false (m + 1) (m + 1) false)) :
    Win P Post pl n h (gor (b.at a (.inRegion ops (i :: rest) :: k)) cs) w := by
  refine .give (z' := z') (a₂ := gor (b.at a (.inRegion ops (i :: rest) :: k)) cs) (es := seen P b.fn es) rfl hj hk (fun d => ?_) (fun e he => hes.calm e (mem_seen he)) (by rw [served_gor, ho]; exact hR) hw
  rw [stepG_oper _ ho hwt]
  simp only [stepG.apply, hr d, if_true, at_not_early hb, if_false, Bool.false_eq_true, GStep.after, Array.append_empty, gor]
  rfl

/-- A CLOSE of a channel at which one waits. -/
theorem Win.shuts {j c kk m : Nat} {s : Place} {z : Value} {es : Array Event} {pl' : Option Place} (hb : b.kind = .normal ∨ b.kind = .deferred) (ho : ops[i]? = some o) (hwt : Region.wanted o (yielded ops a.tmps) = true) (hwake : mayWake P (gor (b.at a (.inRegion ops (i :: rest) :: k)) cs) = true)
    (hr : ∀ d, (execOp a.eval o).runT P (w.at d) #[] = (.ok (.value v) ((w.at d).setChan c 0 #[] true m m false), es)) (hes : seen P b.fn es = closeEvents c) (hj : pl j = some s) (hk : s.cases[kk]? = some (rcase c z)) (hc : w.heap[c]? = some (.chan 0 #[] false m m false))
    (hR : Rests P pl h w (gor (b.at (a.put o.dst v) (.inRegion ops rest :: k)) cs) pl')
    (hw : ∀ g₂ d, s.home g₂ → Win P Post (moved pl h j pl') n j (Go.Conc.served g₂ (commResult s.cases s.shape kk z false)) ((w.at d).setChan c 0 #[] true m m false)) :
    Win P Post pl n h (gor (b.at a (.inRegion ops (i :: rest) :: k)) cs) w :=
  .shut (a' := gor (b.at (a.put o.dst v) (.inRegion ops rest :: k)) cs) rfl hj hk hwake rfl hc (fun d => by rw [stepG_value hb (h == 0) ho hwt (hr d), hes]) hR hw

/-- How a goroutine is born. -/
def born (P : Program) (d : Deferred) : Goroutine := gor { (default : Frame) with fn := P.funcs.size, defers := [d], mode := .panicking [goexitEntry] } []
/-- A GO STATEMENT. -/
theorem Win.hires {d₀ : Deferred} {es : Array Event} {pl' : Option Place} (hb : b.kind = .normal ∨ b.kind = .deferred) (ho : ops[i]? = some o) (hwt : Region.wanted o (yielded ops a.tmps) = true) (hd : d₀.target ≠ .nil)
    (hr : ∀ d, (execOp a.eval o).runT P (w.at d) #[] = (.ok (.spawn d₀) (w.at d), es)) (hes : Reads es) (hR : Rests P pl h w (gor (b.at (a.put o.dst undef) (.inRegion ops rest :: k)) cs) pl')
    (hw : Win P Post (upd pl h pl') (n + 1) n (born P d₀) w) : Win P Post pl n h (gor (b.at a (.inRegion ops (i :: rest) :: k)) cs) w := by
  have hf := Frame.finish_at b a ops i rest k undef
  rw [ho] at hf
  refine .hire (a' := gor (b.at (a.put o.dst undef) (.inRegion ops rest :: k)) cs) (child := born P d₀) (es := seen P b.fn es) rfl (fun d => ?_) (fun e he => hes.calm e (mem_seen he)) hR (fun d => hw.at d)
  rw [stepG_oper _ ho hwt]
  obtain ⟨t, args⟩ := d₀
  have hd' : t ≠ .nil := hd
  cases t <;> first | exact absurd rfl hd' | (simp only [stepG.apply, hr d, if_true, at_not_early hb, Bool.and_false, Bool.false_and, if_false, Bool.false_eq_true, GStep.after, Array.append_empty, gor, born]; rw [hf]; rfl)

/-- A DEFER. -/
theorem Win.defers {d₀ : Deferred} (hb : b.kind = .normal ∨ b.kind = .deferred) (ho : ops[i]? = some o) (hwt : Region.wanted o (yielded ops a.tmps) = true) (hr : ∀ d, ∃ es, (execOp a.eval o).runT P (w.at d) #[] = (.ok (.defer d₀) (w.at d), es) ∧ Reads es)
    (H : Win P Post pl n h (gor (b.at ({ a with defers := d₀ :: a.defers }.put o.dst undef) (.inRegion ops rest :: k)) cs) w) : Win P Post pl n h (gor (b.at a (.inRegion ops (i :: rest) :: k)) cs) w :=
  Win.step rfl fun d => by
    obtain ⟨es, h1, h2⟩ := hr d
    refine ⟨gor (b.at ({ a with defers := d₀ :: a.defers }.put o.dst undef) (.inRegion ops rest :: k)) cs, _, seen P b.fn es, ?_, ⟨fun _ _ _ _ _ => rfl, fun _ _ _ z => z⟩, fun e he => h2.calm e (mem_seen he), H.at d⟩
    have hf : ({ b.at a (.inRegion ops (i :: rest) :: k) with defers := d₀ :: a.defers } : Frame).finish undef = b.at ({ a with defers := d₀ :: a.defers }.put o.dst undef) (.inRegion ops rest :: k) := by
      have := Frame.finish_at b { a with defers := d₀ :: a.defers } ops i rest k undef
      rw [ho] at this; exact this
    rw [stepG_oper _ ho hwt]
    simp only [stepG.apply, h1, if_true, at_not_early hb, if_false, Bool.false_eq_true, GStep.after, Array.append_empty, gor]
    rw [← hf]; rfl
/-- A PANIC. -/
theorem Win.panics {x : Value} (hb : b.kind = .normal ∨ b.kind = .deferred) (ho : ops[i]? = some o) (hwt : Region.wanted o (yielded ops a.tmps) = true) (hr : ∀ d, ∃ es, (execOp a.eval o).runT P (w.at d) #[] = (.halt (.panic x) (w.at d), es) ∧ Reads es)
    (H : Win P Post pl n h (gor ((b.at a (.inRegion ops (i :: rest) :: k)).raise [{ v := x, recovered := false }]) cs) w) : Win P Post pl n h (gor (b.at a (.inRegion ops (i :: rest) :: k)) cs) w :=
  Win.step rfl fun d => by
    obtain ⟨es, h1, h2⟩ := hr d
    refine ⟨_, _, seen P b.fn es, ?_, ⟨fun _ _ _ _ _ => rfl, fun _ _ _ z => z⟩, fun e he => h2.calm e (mem_seen he), H.at d⟩
    rw [stepG_oper _ ho hwt]
    simp only [stepG.apply, h1, if_true, at_not_early hb, if_false, Bool.false_eq_true, GStep.after, Array.append_empty, gor]
    rfl

/-- A deferred call is entered. -/
theorem Win.callsDeferred {fr : Frame} {d₀ : Deferred} {ds : List Deferred} {f : FuncId} {args : Array Value} (hm : fr.mode ≠ .run) (hd : fr.defers = d₀ :: ds) (ht : okT d₀.target) (hnn : d₀.target ≠ .nil)
    (hr : ∀ d, ∃ es, (invoke d₀.target d₀.args).runT P (w.at d) #[] = (.ok (.enter f args) (w.at d), es) ∧ Reads es)
    (H : Win P Post pl n h (gor (Frame.enter P f args .deferred) ({ fr with defers := ds } :: cs)) w) : Win P Post pl n h (gor fr cs) w :=
  Win.step rfl fun d => by
    obtain ⟨es, h1, h2⟩ := hr d
    refine ⟨gor (Frame.enter P f args .deferred) ({ fr with defers := ds } :: cs), _, seen P fr.fn es, ?_, ⟨fun _ _ _ _ _ => rfl, fun _ _ _ z => z⟩, fun e he => h2.calm e (mem_seen he), H.at d⟩
    have hu : unwind P (h == 0) fr cs none (w.at d) = callDeferred P { fr with defers := ds } cs none d₀ (w.at d) := by
      obtain ⟨t, a⟩ := d₀
      unfold unwind
      rw [hd]
      cases t <;> first | exact ht.elim | rfl
    have hcall : ∀ w : World, callDeferred P { fr with defers := ds } cs none d₀ w = _ := fun w => by
      unfold callDeferred
      exact if_neg (fun hx => hnn (nilpan hx).1)
    rw [stepG_not_run hm, hu, hcall]
    simp only [h1, GStep.after, Array.append_empty, gor]
/-- A panicking frame that defers nothing more is left. -/
theorem Win.unwinds {fr c : Frame} {cs : List Frame} {chain : List PanicEntry} (hm : fr.mode = .panicking chain) (hd : fr.defers = []) (hc : fr.catches P = false) (H : Win P Post pl n h (gor (c.raise chain) cs) w) : Win P Post pl n h (gor fr (c :: cs)) w := by
  refine .turnless (fun d => ?_) H
  rw [stepG_not_run (by rw [hm]; simp)]
  unfold unwind
  simp only [hd, hm, hc, if_false, Bool.false_eq_true]
  rfl
/-- A deferred call comes back: its caller goes on leaving. -/
theorem Win.leaveDeferred {fr c : Frame} {cs : List Frame} (hm : fr.mode = .returning) (hd : fr.defers = []) (hk : fr.kind = .deferred) {fn : Func} (hf : P.funcs[fr.fn]? = some fn) (hr : ∀ d, ∃ es, (results fn fr.tmps).runT P (w.at d) #[] = (.ok v (w.at d), es) ∧ Reads es)
    (hn : ∀ v' g older, c.mode ≠ .panicking ({ v := v', recovered := true, goexit := g } :: older)) (H : Win P Post pl n h (gor c cs) w) : Win P Post pl n h (gor fr (c :: cs)) w :=
  Win.step rfl fun d => by
    obtain ⟨es, h1, h2⟩ := hr d
    refine ⟨gor c cs, _, seen P fr.fn es, ?_, ⟨fun _ _ _ _ _ => rfl, fun _ _ _ z => z⟩, fun e he => h2.calm e (mem_seen he), H.at d⟩
    rw [stepG_not_run (by rw [hm]; simp)]
    unfold unwind
    simp only [hd, hm, hf, h1, doReturn, hk]
    cases hcm : c.mode with
    | run => simp only [GStep.after, Array.append_empty, gor]
    | returning => simp only [GStep.after, Array.append_empty, gor]
    | panicking chain =>
      cases chain with
      | nil => simp only [GStep.after, Array.append_empty, gor]
      | cons e older =>
        obtain ⟨v', rec, g⟩ := e
        cases rec with
        | true => exact absurd hcm (hn _ _ _)
        | false => simp only [GStep.after, Array.append_empty, gor]
end
end Go.Proofs.Ytnbaiinhalplcaa

namespace Go.Proofs.Ytnbaiinhalplcaa
set_option linter.unusedVariables false
set_option linter.unusedSimpArgs false
open Go.Conc

section
variable {P : Program} {Post : Value → World → Prop} {pl : Nat → Option Place} {n h : Nat} {cs : List Frame} {w w' : World}
variable {b : Frame} {a : Act} {k : List Item} {ops : Array Oper} {i : Nat} {rest : List Nat} {o : Oper} {v : Value}

theorem Win.pureOp (hb : b.kind = .normal ∨ b.kind = .deferred) (ho : ops[i]? = some o) (hwt : Region.wanted o (yielded ops a.tmps) = true) (hr : ∀ w, (execOp a.eval o).runT P w #[] = (.ok (.value v) w, #[]))
    (H : Win P Post pl n h (gor (b.at (a.put o.dst v) (.inRegion ops rest :: k)) cs) w) : Win P Post pl n h (gor (b.at a (.inRegion ops (i :: rest) :: k)) cs) w :=
  Win.op hb ho hwt (fun d => ⟨#[], hr _, fun e he => by simp at he⟩) H
theorem Win.lookOp {ad : Addr} {x : Value} (hb : b.kind = .normal ∨ b.kind = .deferred) (ho : ops[i]? = some o) (hwt : Region.wanted o (yielded ops a.tmps) = true) (hc : w.cell? ad = some x) (hr : ∀ w, w.cell? ad = some x → (execOp a.eval o).runT P w #[] = (.ok (.value v) w, #[⟨.cell ad, false, false⟩]))
    (H : Win P Post pl n h (gor (b.at (a.put o.dst v) (.inRegion ops rest :: k)) cs) w) : Win P Post pl n h (gor (b.at a (.inRegion ops (i :: rest) :: k)) cs) w :=
  Win.op hb ho hwt (fun d => ⟨#[⟨.cell ad, false, false⟩], hr _ hc, fun e he => by obtain rfl : e = ⟨.cell ad, false, false⟩ := (by simpa using he); exact ⟨rfl, fun m => by simp⟩⟩) H

/-- Who does not act looks at this cell not, and waits not at this block. -/
structure Free (pl : Nat → Option Place) (ad : Addr) : Prop where
  cell : ∀ i s v, pl i = some s → ¬ s.still ad v
  chan : ∀ i s c, pl i = some s → s.has c → c ≠ ad.block
theorem cell_setCell_ne {w : World} {ad c : Addr} {x v : Value} (hv : w.cell? c = some v) (hne : c ≠ ad) : (w.setCell ad x).cell? c = some v := by
  by_cases hbl : ad.block = c.block
  · unfold World.cell? at hv ⊢
    have hg : (w.setCell ad x).heap[c.block]? = (w.heap[c.block]?).map fun
        | .cells cc elem frozen => .cells (if ad.spot.isSome then cc else cc.setIfInBounds ad.off x) elem frozen
        | o => o := by simp [World.setCell, Array.getElem?_modify, hbl]; rfl
    rw [hg]
    cases ho : w.heap[c.block]? with
    | none => rw [ho] at hv; cases hv
    | some ob =>
      rw [ho] at hv
      cases ob <;> simp only [Option.map_some] at hv ⊢ <;> first | (cases hv; done) | skip
      by_cases hs : c.spot.isSome = true
      · rw [if_pos hs] at hv; cases hv
      · rw [if_neg hs] at hv ⊢
        by_cases ha : ad.spot.isSome = true
        · rw [if_pos ha]; exact hv
        · rw [if_neg ha, Array.getElem?_setIfInBounds_ne]
          · exact hv
          · intro e
            apply hne
            obtain ⟨b1, o1, s1⟩ := c
            obtain ⟨b2, o2, s2⟩ := ad
            cases s1 <;> cases s2 <;> simp_all
  · rw [World.cell?_setCell_far w ad c x hbl]; exact hv
theorem Free.kept {ad : Addr} {x : Value} (F : Free pl ad) (w : World) : Kept pl w (w.setCell ad x) := by
  refine ⟨fun i s c hi hc => ?_, fun i s hi hs c v hcv => cell_setCell_ne (hs c v hcv) fun e => F.cell i s v hi (e ▸ hcv)⟩
  have := F.chan i s c hi hc
  simp [World.setCell, Array.getElem?_modify, Ne.symm this]
theorem store_ok {ad : Addr} {x u : Value} {m : Mode} (h1 : ∀ l, x ≠ .agg l) (h2 : ∀ l, x ≠ .tuple l) (hc : w.cell? ad = some u) (hf : w.frozen? ad = false) :
    (Go.store ad x m).run P w = .ok () (w.setCell ad x) ∧ (Go.store ad x m).events P w #[] = #[⟨.cell ad, true, m == .atomic⟩] := by
  refine ⟨?_, ?_⟩
  · rw [run_store_cell h1 h2, hc]; simp [hf]
  · have := runT_store_cell (P := P) (m := m) (es := #[]) h1 h2 hc hf
    rw [Sem.runT_eq] at this
    simpa using this
theorem Win.storeOp {ad : Addr} {x : Value} (hb : b.kind = .normal ∨ b.kind = .deferred) (ho : ops[i]? = some o) (hwt : Region.wanted o (yielded ops a.tmps) = true) (F : Free pl ad)
    (hr : ∀ d, (execOp a.eval o).runT P (w.at d) #[] = (.ok .skip ((w.at d).setCell ad x), #[⟨.cell ad, true, false⟩]))
    (H : Win P Post pl n h (gor (b.at (a.put o.dst undef) (.inRegion ops rest :: k)) cs) (w.setCell ad x)) : Win P Post pl n h (gor (b.at a (.inRegion ops (i :: rest) :: k)) cs) w :=
  Win.opS hb ho hwt fun d => by
    refine ⟨_, _, hr d, F.kept _, fun e he => ?_, H.at d⟩
    obtain rfl : e = ⟨.cell ad, true, false⟩ := (by simpa using he)
    refine ⟨fun y hy _ g c hl hp => ?_, by simp, by simp⟩
    simp [MemAct.ofEvent, MemAct.touch?] at hy
    subst hy
    obtain ⟨s, v, hs, hv⟩ := hp
    cases hl
    exact F.cell g s v hs hv
end
end Go.Proofs.Ytnbaiinhalplcaa

namespace Go.Proofs.Ytnbaiinhalplcaa
set_option linter.unusedVariables false
set_option linter.unusedSimpArgs false
open Go.Conc
open Go.ConcN (upd upd_ne upd_same)

section
variable {P : Program} {Post : Value → World → Prop} {pl : Nat → Option Place} {n h : Nat} {cs : List Frame} {w w' : World} {F : Nat → Option (Nat × Nat)}
variable {b : Frame} {a : Act} {k : List Item} {ops : Array Oper} {i : Nat} {rest : List Nat} {o : Oper} {v : Value}

/-- A call of a Go function enters it. -/
theorem invoke_enter (M : Mild P) {f : FuncId} {fn : Func} (hf : P.funcs[f]? = some fn) (hb : fn.body.isNone = false) (cap args : Array Value) (w : World) (es : Array Event) : (invoke (.fn (.func f) cap) args).runT P w es = (.ok (.enter f (args ++ cap)) w, es) := by
  have hg := M.goro f fn hf
  simp only [invoke, callFunc, program, Bind.bind, Sem.bind, Sem.runT, hf, hg, hb, if_false, Bool.false_eq_true, Pure.pure]
theorem call_enter (M : Mild P) {f : FuncId} {fn : Func} (hf : P.funcs[f]? = some fn) (hb : fn.body.isNone = false) {ρ : Operand → Value} (hρ : ρ (.func f) = .func (.func f) #[] #[]) {o : Oper} {c : Call} (ho : o.op = .call c) (hc : c.callee = .value (.func f))
    (w : World) (es : Array Event) {args : Array Value} (ha : c.args.map ρ = args) : (execOp ρ o).runT P w es = (.ok (.enter f args) w, es) := by
  unfold execOp
  rw [ho]
  simp only [resolve, hc, hρ, Deferred.ofValue, Bind.bind, Sem.bind, Pure.pure]
  have := invoke_enter M hf hb #[] (#[] ++ c.args.map ρ) w es
  rw [ha] at this
  simp only [Array.append_empty, Array.empty_append] at this
  rw [ha, Array.empty_append]
  exact this
theorem alloc_heap (w : World) (ob : Obj) (i : Nat) (hi : i < w.heap.size) : (w.alloc ob).heap[i]? = w.heap[i]? := by
  show (w.heap.push ob)[i]? = _
  rw [Array.getElem?_push, if_neg (by omega)]
theorem alloc_cell (w : World) (ob : Obj) {c : Addr} {x : Value} (hc : w.cell? c = some x) : (w.alloc ob).cell? c = some x := by
  have hlt : c.block < w.heap.size := by
    unfold World.cell? at hc
    cases hh : w.heap[c.block]? with
    | none => rw [hh] at hc; cases hc
    | some _ => exact (Array.getElem?_eq_some_iff.1 hh).1
  unfold World.cell? at hc ⊢
  rw [alloc_heap w ob _ hlt]; exact hc
theorem alloc_new (w : World) (ob : Obj) : (w.alloc ob).heap[w.heap.size]? = some ob := by
  show (w.heap.push ob)[w.heap.size]? = _
  simp
theorem alloc_box (w : World) (x : Value) (t : TypeId) (fz : Nat × Nat) : (w.alloc (.cells #[x] t fz)).cell? ⟨w.heap.size, 0, none⟩ = some x := by
  unfold World.cell?
  rw [alloc_new]
  rfl
theorem Lies.keptAlloc (L : Lies pl F w) (ob : Obj) : Kept pl w (w.alloc ob) := by
  refine ⟨fun i s c hi hc => ?_, fun i s hi hs c v hcv => alloc_cell w ob (hs c v hcv)⟩
  obtain ⟨_, _, _, _, _, _, hh⟩ := L.chans i s c hi hc
  exact alloc_heap w ob c (Array.getElem?_eq_some_iff.1 hh).1
theorem Lies.alloc (L : Lies pl F w) (ob : Obj) : Lies pl F (w.alloc ob) := by
  refine ⟨fun i r hr => ?_, fun i s c hi hc => ?_, L.still⟩
  · obtain ⟨c, t, hh⟩ := L.lies i r hr
    exact ⟨c, t, by rw [alloc_heap w ob i (Array.getElem?_eq_some_iff.1 hh).1]; exact hh⟩
  · obtain ⟨cap, buf, cl, sn, rc, tm, hh⟩ := L.chans i s c hi hc
    exact ⟨cap, buf, cl, sn, rc, tm, by rw [alloc_heap w ob c (Array.getElem?_eq_some_iff.1 hh).1]; exact hh⟩
theorem Lies.setCell (L : Lies pl F w) (ad : Addr) (x : Value) : Lies pl F (w.setCell ad x) := by
  refine ⟨fun i r hr => ?_, fun i s c hi hc => ?_, L.still⟩
  · obtain ⟨c, t, hh⟩ := L.lies i r hr
    by_cases e : ad.block = i
    · subst e; exact ⟨if ad.spot.isSome then c else c.setIfInBounds ad.off x, t, by simp [World.setCell, Array.getElem?_modify, hh]⟩
    · exact ⟨c, t, by simp [World.setCell, Array.getElem?_modify, e, hh]⟩
  · obtain ⟨cap, buf, cl, sn, rc, tm, hh⟩ := L.chans i s c hi hc
    by_cases e : ad.block = c
    · subst e; exact ⟨cap, buf, cl, sn, rc, tm, by simp [World.setCell, Array.getElem?_modify, hh]⟩
    · exact ⟨cap, buf, cl, sn, rc, tm, by simp [World.setCell, Array.getElem?_modify, e, hh]⟩
/-- Memory is made. -/
theorem Win.makeOp {ob : Obj} {es : Array Event} (L : Lies pl F w) (hb : b.kind = .normal ∨ b.kind = .deferred) (ho : ops[i]? = some o) (hwt : Region.wanted o (yielded ops a.tmps) = true)
    (hr : ∀ d, (execOp a.eval o).runT P (w.at d) #[] = (.ok (.value v) ((w.at d).alloc ob), es)) (hes : Reads es) (H : Win P Post pl n h (gor (b.at (a.put o.dst v) (.inRegion ops rest :: k)) cs) (w.alloc ob)) :
    Win P Post pl n h (gor (b.at a (.inRegion ops (i :: rest) :: k)) cs) w :=
  Win.opW hb ho hwt fun d => ⟨v, _, es, hr d, (L.at d).keptAlloc ob, fun e he => hes.calm e he, H.at d⟩

/-- A place more: its still cells lie within F too. -/
theorem Lies.put (L : Lies pl F w) (j : Nat) {s : Place} (hc : ∀ c, s.has c → ∃ cap buf cl sn rc tm, w.heap[c]? = some (.chan cap buf cl sn rc tm)) (hs : ∀ a v, s.still a v → ∃ lo hi, F a.block = some (lo, hi) ∧ lo ≤ a.off ∧ a.off < hi) : Lies (upd pl j (some s)) F w := by
  refine ⟨L.lies, fun i s' c hi hc' => ?_, fun i s' a v hi ha => ?_⟩
  · by_cases e : i = j
    · subst e; rw [upd_same] at hi; obtain rfl := Option.some.inj hi; exact hc c hc'
    · rw [upd_ne _ _ e] at hi; exact L.chans i s' c hi hc'
  · by_cases e : i = j
    · subst e; rw [upd_same] at hi; obtain rfl := Option.some.inj hi; exact hs a v ha
    · rw [upd_ne _ _ e] at hi; exact L.still i s' a v hi ha
theorem Lies.drop (L : Lies pl F w) (j : Nat) : Lies (upd pl j none) F w := by
  refine ⟨L.lies, fun i s' c hi hc' => ?_, fun i s' a v hi ha => ?_⟩
  · by_cases e : i = j
    · subst e; rw [upd_same] at hi; cases hi
    · rw [upd_ne _ _ e] at hi; exact L.chans i s' c hi hc'
  · by_cases e : i = j
    · subst e; rw [upd_same] at hi; cases hi
    · rw [upd_ne _ _ e] at hi; exact L.still i s' a v hi ha
/-- More blocks that may bear no store. -/
theorem Lies.more {F' : Nat → Option (Nat × Nat)} (L : Lies pl F w) (hF : ∀ i lo hi, F i = some (lo, hi) → ∃ lo' hi', F' i = some (lo', hi') ∧ lo' ≤ lo ∧ hi ≤ hi') (hl : ∀ i r, F' i = some r → ∃ c t, w.heap[i]? = some (.cells c t (0, 0))) : Lies pl F' w := by
  refine ⟨hl, L.chans, fun i s a v hi ha => ?_⟩
  obtain ⟨lo, hi', h1, h2, h3⟩ := L.still i s a v hi ha
  obtain ⟨lo', hi'', h4, h5, h6⟩ := hF _ _ _ h1
  exact ⟨lo', hi'', h4, by omega, by omega⟩
theorem Lies.setChan (L : Lies pl F w) {c cap sn rc : Nat} {buf : Array Value} {cl tm : Bool} (hc : w.heap[c]? = some (.chan cap buf cl sn rc tm)) (cap' : Nat) (buf' : Array Value) (cl' : Bool) (sn' rc' : Nat) (tm' : Bool) : Lies pl F (w.setChan c cap' buf' cl' sn' rc' tm') := by
  have hlt : c < w.heap.size := (Array.getElem?_eq_some_iff.1 hc).1
  refine ⟨fun i r hr => ?_, fun i s d hi hd => ?_, L.still⟩
  · obtain ⟨cc, t, hh⟩ := L.lies i r hr
    have e : c ≠ i := fun e => by rw [← e, hc] at hh; cases hh
    exact ⟨cc, t, by rw [heap_setChan_ne _ _ _ _ _ _ _ e]; exact hh⟩
  · obtain ⟨cap2, buf2, cl2, sn2, rc2, tm2, hh⟩ := L.chans i s d hi hd
    by_cases e : c = d
    · subst e; exact ⟨cap', buf', cl', sn', rc', tm', by simp [World.setChan, hlt]⟩
    · exact ⟨cap2, buf2, cl2, sn2, rc2, tm2, by rw [heap_setChan_ne _ _ _ _ _ _ _ e]; exact hh⟩
end
end Go.Proofs.Ytnbaiinhalplcaa
