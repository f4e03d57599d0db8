/- In company: operations that write, send, close, start a goroutine, defer, panic; how frames are left. Of whatever program. Conditions: none. -/
import Derived.Test.YtodcnhodbeakiaaLfR
namespace Go.Proofs.Ytodcnhodbeakiaa
set_option linter.unusedVariables false
set_option linter.unusedSimpArgs false
open Go.Conc
open Go.ConcN (upd)

section
variable {P : Program} {Post : Value → World → Prop} {pl : Nat → Option Place} {n h : Nat} {cs : List Frame} {w w' : World}
variable {b : Frame} {a : Act} {k : List Item} {ops : Array Oper} {i : Nat} {rest : List Nat} {o : Oper} {v : Value}

theorem at_not_early (hb : b.kind = .normal ∨ b.kind = .deferred) (t : List Item) : ((b.at a t).kind == .early) = false := by
  show (b.kind == .early) = false
  rcases hb with e | e <;> rw [e] <;> rfl
theorem served_gor (v : Value) : Go.Conc.served (gor (b.at a (.inRegion ops (i :: rest) :: k)) cs) v = gor (b.at (a.put ((ops[i]?).bind (·.dst)) v) (.inRegion ops rest :: k)) cs := by
  have hf := Frame.finish_at b a ops i rest k v
  simp only [Go.Conc.served, gor, hf]

theorem stepG_skip (hb : b.kind = .normal ∨ b.kind = .deferred) (main : Bool) (ho : ops[i]? = some o) (hwt : Region.wanted o (yielded ops a.tmps) = true) {w w' : World} {es : Array Event} (hr : (execOp a.eval o).runT P w #[] = (.ok .skip w', es)) :
    stepG P main (gor (b.at a (.inRegion ops (i :: rest) :: k)) cs) w = .go (gor (b.at (a.put o.dst undef) (.inRegion ops rest :: k)) cs) w' (seen P b.fn es) := by
  have hf := Frame.finish_at b a ops i rest k undef
  rw [ho] at hf
  rw [stepG_oper main ho hwt]
  simp only [stepG.apply, hr, if_true, at_not_early hb, if_false, Bool.false_eq_true, GStep.after, Array.append_empty, gor]
  rw [hf]; rfl
/-- An operation that writes, and answers something. -/
theorem Win.opW (hb : b.kind = .normal ∨ b.kind = .deferred) (ho : ops[i]? = some o) (hwt : Region.wanted o (yielded ops a.tmps) = true)
    (H : ∀ d, ∃ v w' es, (execOp a.eval o).runT P (w.at d) #[] = (.ok (.value v) w', es) ∧ Kept pl (w.at d) w' ∧ (∀ e ∈ es, Calm pl e) ∧ Win P Post pl n h (gor (b.at (a.put o.dst v) (.inRegion ops rest :: k)) cs) w') : Win P Post pl n h (gor (b.at a (.inRegion ops (i :: rest) :: k)) cs) w :=
  Win.step rfl fun d => by
    obtain ⟨v, w', es, h1, h2, h3, h4⟩ := H d
    exact ⟨_, _, _, stepG_value hb (h == 0) ho hwt h1, h2, fun e he => h3 e (mem_seen he), h4⟩
/-- One that writes, and answers nothing. -/
theorem Win.opS (hb : b.kind = .normal ∨ b.kind = .deferred) (ho : ops[i]? = some o) (hwt : Region.wanted o (yielded ops a.tmps) = true)
    (H : ∀ d, ∃ w' es, (execOp a.eval o).runT P (w.at d) #[] = (.ok .skip w', es) ∧ Kept pl (w.at d) w' ∧ (∀ e ∈ es, Calm pl e) ∧ Win P Post pl n h (gor (b.at (a.put o.dst undef) (.inRegion ops rest :: k)) cs) w') : Win P Post pl n h (gor (b.at a (.inRegion ops (i :: rest) :: k)) cs) w :=
  Win.step rfl fun d => by
    obtain ⟨w', es, h1, h2, h3, h4⟩ := H d
    exact ⟨_, _, _, stepG_skip hb (h == 0) ho hwt h1, h2, fun e he => h3 e (mem_seen he), h4⟩

/-- A SEND to one who waits. -/
theorem Win.sends {j c kk : Nat} {s : Place} {x z z' : Value} {es : Array Event} {pl' : Option Place} (hb : b.kind = .normal ∨ b.kind = .deferred) (ho : ops[i]? = some o) (hwt : Region.wanted o (yielded ops a.tmps) = true)
    (hr : ∀ d, (execOp a.eval o).runT P (w.at d) #[] = (.ok (.comm #[scase c x z'] true .send) (w.at d), es)) (hes : Reads es) (hj : pl j = some s) (hk : s.cases[kk]? = some (rcase c z))
    (hR : Rests P pl h w (gor (b.at (a.put o.dst undef) (.inRegion ops rest :: k)) cs) pl')
    (hw : ∀ g₂ d m, s.home g₂ → w.heap[c]? = some (.chan 0 #[] false m m false) → Win P Post (moved pl h j pl') n j (Go.Conc.served g₂ (commResult s.cases s.shape kk x true)) ((w.at d).setChan c 0 #[] false (m + 1) (m + 1) false)) :
    Win P Post pl n h (gor (b.at a (.inRegion ops (i :: rest) :: k)) cs) w := by
  refine .give (z' := z') (a₂ := gor (b.at a (.inRegion ops (i :: rest) :: k)) cs) (es := seen P b.fn es) rfl hj hk (fun d => ?_) (fun e he => hes.calm e (mem_seen he)) (by rw [served_gor, ho]; exact hR) hw
  rw [stepG_oper _ ho hwt]
  simp only [stepG.apply, hr d, if_true, at_not_early hb, if_false, Bool.false_eq_true, GStep.after, Array.append_empty, gor]
  rfl

/-- A CLOSE of a channel at which one waits. -/
theorem Win.shuts {j c kk m : Nat} {s : Place} {z : Value} {es : Array Event} {pl' : Option Place} (hb : b.kind = .normal ∨ b.kind = .deferred) (ho : ops[i]? = some o) (hwt : Region.wanted o (yielded ops a.tmps) = true) (hwake : mayWake P (gor (b.at a (.inRegion ops (i :: rest) :: k)) cs) = true)
    (hr : ∀ d, (execOp a.eval o).runT P (w.at d) #[] = (.ok (.value v) ((w.at d).setChan c 0 #[] true m m false), es)) (hes : seen P b.fn es = closeEvents c) (hj : pl j = some s) (hk : s.cases[kk]? = some (rcase c z)) (hc : w.heap[c]? = some (.chan 0 #[] false m m false))
    (hR : Rests P pl h w (gor (b.at (a.put o.dst v) (.inRegion ops rest :: k)) cs) pl')
    (hw : ∀ g₂ d, s.home g₂ → Win P Post (moved pl h j pl') n j (Go.Conc.served g₂ (commResult s.cases s.shape kk z false)) ((w.at d).setChan c 0 #[] true m m false)) :
    Win P Post pl n h (gor (b.at a (.inRegion ops (i :: rest) :: k)) cs) w :=
  .shut (a' := gor (b.at (a.put o.dst v) (.inRegion ops rest :: k)) cs) rfl hj hk hwake rfl hc (fun d => by rw [stepG_value hb (h == 0) ho hwt (hr d), hes]) hR hw

/-- How a goroutine is born. -/
def born (P : Program) (d : Deferred) : Goroutine := gor { (default : Frame) with fn := P.funcs.size, defers := [d], mode := .panicking [goexitEntry] } []
/-- A GO STATEMENT. -/
theorem Win.hires {d₀ : Deferred} {es : Array Event} {pl' : Option Place} (hb : b.kind = .normal ∨ b.kind = .deferred) (ho : ops[i]? = some o) (hwt : Region.wanted o (yielded ops a.tmps) = true) (hd : d₀.target ≠ .nil)
    (hr : ∀ d, (execOp a.eval o).runT P (w.at d) #[] = (.ok (.spawn d₀) (w.at d), es)) (hes : Reads es) (hR : Rests P pl h w (gor (b.at (a.put o.dst undef) (.inRegion ops rest :: k)) cs) pl')
    (hw : Win P Post (upd pl h pl') (n + 1) n (born P d₀) w) : Win P Post pl n h (gor (b.at a (.inRegion ops (i :: rest) :: k)) cs) w := by
  have hf := Frame.finish_at b a ops i rest k undef
  rw [ho] at hf
  refine .hire (a' := gor (b.at (a.put o.dst undef) (.inRegion ops rest :: k)) cs) (child := born P d₀) (es := seen P b.fn es) rfl (fun d => ?_) (fun e he => hes.calm e (mem_seen he)) hR (fun d => hw.at d)
  rw [stepG_oper _ ho hwt]
  obtain ⟨t, args⟩ := d₀
  have hd' : t ≠ .nil := hd
  cases t <;> first | exact absurd rfl hd' | (simp only [stepG.apply, hr d, if_true, at_not_early hb, Bool.and_false, Bool.false_and, if_false, Bool.false_eq_true, GStep.after, Array.append_empty, gor, born]; rw [hf]; rfl)

/-- A DEFER. -/
theorem Win.defers {d₀ : Deferred} (hb : b.kind = .normal ∨ b.kind = .deferred) (ho : ops[i]? = some o) (hwt : Region.wanted o (yielded ops a.tmps) = true) (hr : ∀ d, ∃ es, (execOp a.eval o).runT P (w.at d) #[] = (.ok (.defer d₀) (w.at d), es) ∧ Reads es)
    (H : Win P Post pl n h (gor (b.at ({ a with defers := d₀ :: a.defers }.put o.dst undef) (.inRegion ops rest :: k)) cs) w) : Win P Post pl n h (gor (b.at a (.inRegion ops (i :: rest) :: k)) cs) w :=
  Win.step rfl fun d => by
    obtain ⟨es, h1, h2⟩ := hr d
    refine ⟨gor (b.at ({ a with defers := d₀ :: a.defers }.put o.dst undef) (.inRegion ops rest :: k)) cs, _, seen P b.fn es, ?_, ⟨fun _ _ _ _ _ => rfl, fun _ _ _ z => z⟩, fun e he => h2.calm e (mem_seen he), H.at d⟩
    have hf : ({ b.at a (.inRegion ops (i :: rest) :: k) with defers := d₀ :: a.defers } : Frame).finish undef = b.at ({ a with defers := d₀ :: a.defers }.put o.dst undef) (.inRegion ops rest :: k) := by
      have := Frame.finish_at b { a with defers := d₀ :: a.defers } ops i rest k undef
      rw [ho] at this; exact this
    rw [stepG_oper _ ho hwt]
    simp only [stepG.apply, h1, if_true, at_not_early hb, if_false, Bool.false_eq_true, GStep.after, Array.append_empty, gor]
    rw [← hf]; rfl
/-- A PANIC. -/
theorem Win.panics {x : Value} (hb : b.kind = .normal ∨ b.kind = .deferred) (ho : ops[i]? = some o) (hwt : Region.wanted o (yielded ops a.tmps) = true) (hr : ∀ d, ∃ es, (execOp a.eval o).runT P (w.at d) #[] = (.halt (.panic x) (w.at d), es) ∧ Reads es)
    (H : Win P Post pl n h (gor ((b.at a (.inRegion ops (i :: rest) :: k)).raise [{ v := x, recovered := false }]) cs) w) : Win P Post pl n h (gor (b.at a (.inRegion ops (i :: rest) :: k)) cs) w :=
  Win.step rfl fun d => by
    obtain ⟨es, h1, h2⟩ := hr d
    refine ⟨_, _, seen P b.fn es, ?_, ⟨fun _ _ _ _ _ => rfl, fun _ _ _ z => z⟩, fun e he => h2.calm e (mem_seen he), H.at d⟩
    rw [stepG_oper _ ho hwt]
    simp only [stepG.apply, h1, if_true, at_not_early hb, if_false, Bool.false_eq_true, GStep.after, Array.append_empty, gor]
    rfl

/-- A deferred call is entered. -/
theorem Win.callsDeferred {fr : Frame} {d₀ : Deferred} {ds : List Deferred} {f : FuncId} {args : Array Value} (hm : fr.mode ≠ .run) (hd : fr.defers = d₀ :: ds) (ht : okT d₀.target) (hnn : d₀.target ≠ .nil)
    (hr : ∀ d, ∃ es, (invoke d₀.target d₀.args).runT P (w.at d) #[] = (.ok (.enter f args) (w.at d), es) ∧ Reads es)
    (H : Win P Post pl n h (gor (Frame.enter P f args .deferred) ({ fr with defers := ds } :: cs)) w) : Win P Post pl n h (gor fr cs) w :=
  Win.step rfl fun d => by
    obtain ⟨es, h1, h2⟩ := hr d
    refine ⟨gor (Frame.enter P f args .deferred) ({ fr with defers := ds } :: cs), _, seen P fr.fn es, ?_, ⟨fun _ _ _ _ _ => rfl, fun _ _ _ z => z⟩, fun e he => h2.calm e (mem_seen he), H.at d⟩
    have hu : unwind P (h == 0) fr cs none (w.at d) = callDeferred P { fr with defers := ds } cs none d₀ (w.at d) := by
      obtain ⟨t, a⟩ := d₀
      unfold unwind
      rw [hd]
      cases t <;> first | exact ht.elim | rfl
    have hcall : ∀ w : World, callDeferred P { fr with defers := ds } cs none d₀ w = _ := fun w => by
      unfold callDeferred
      exact if_neg (fun hx => hnn (nilpan hx).1)
    rw [stepG_not_run hm, hu, hcall]
    simp only [h1, GStep.after, Array.append_empty, gor]
/-- A panicking frame that defers nothing more is left. -/
theorem Win.unwinds {fr c : Frame} {cs : List Frame} {chain : List PanicEntry} (hm : fr.mode = .panicking chain) (hd : fr.defers = []) (hc : fr.catches P = false) (H : Win P Post pl n h (gor (c.raise chain) cs) w) : Win P Post pl n h (gor fr (c :: cs)) w := by
  refine .turnless (fun d => ?_) H
  rw [stepG_not_run (by rw [hm]; simp)]
  unfold unwind
  simp only [hd, hm, hc, if_false, Bool.false_eq_true]
  rfl
/-- A deferred call comes back: its caller goes on leaving. -/
theorem Win.leaveDeferred {fr c : Frame} {cs : List Frame} (hm : fr.mode = .returning) (hd : fr.defers = []) (hk : fr.kind = .deferred) {fn : Func} (hf : P.funcs[fr.fn]? = some fn) (hr : ∀ d, ∃ es, (results fn fr.tmps).runT P (w.at d) #[] = (.ok v (w.at d), es) ∧ Reads es)
    (hn : ∀ v' g older, c.mode ≠ .panicking ({ v := v', recovered := true, goexit := g } :: older)) (H : Win P Post pl n h (gor c cs) w) : Win P Post pl n h (gor fr (c :: cs)) w :=
  Win.step rfl fun d => by
    obtain ⟨es, h1, h2⟩ := hr d
    refine ⟨gor c cs, _, seen P fr.fn es, ?_, ⟨fun _ _ _ _ _ => rfl, fun _ _ _ z => z⟩, fun e he => h2.calm e (mem_seen he), H.at d⟩
    rw [stepG_not_run (by rw [hm]; simp)]
    unfold unwind
    simp only [hd, hm, hf, h1, doReturn, hk]
    cases hcm : c.mode with
    | run => simp only [GStep.after, Array.append_empty, gor]
    | returning => simp only [GStep.after, Array.append_empty, gor]
    | panicking chain =>
      cases chain with
      | nil => simp only [GStep.after, Array.append_empty, gor]
      | cons e older =>
        obtain ⟨v', rec, g⟩ := e
        cases rec with
        | true => exact absurd hcm (hn _ _ _)
        | false => simp only [GStep.after, Array.append_empty, gor]
/-- A deferred call that has recovered comes back. -/
theorem Win.leaveRecovered {fr c : Frame} {cs : List Frame} {v' : Value} (hm : fr.mode = .returning) (hd : fr.defers = []) (hk : fr.kind = .deferred) {fn : Func} (hf : P.funcs[fr.fn]? = some fn) (hr : ∀ d, ∃ es, (results fn fr.tmps).runT P (w.at d) #[] = (.ok v (w.at d), es) ∧ Reads es)
    (hc : c.mode = .panicking [{ v := v', recovered := true }]) (H : Win P Post pl n h (gor { c with mode := .returning } cs) w) : Win P Post pl n h (gor fr (c :: cs)) w :=
  Win.step rfl fun d => by
    obtain ⟨es, h1, h2⟩ := hr d
    refine ⟨gor { c with mode := .returning } cs, _, seen P fr.fn es, ?_, ⟨fun _ _ _ _ _ => rfl, fun _ _ _ z => z⟩, fun e he => h2.calm e (mem_seen he), H.at d⟩
    rw [stepG_not_run (by rw [hm]; simp)]
    unfold unwind
    simp only [hd, hm, hf, h1, doReturn, hk, hc, List.dropWhile_nil, GStep.after, Array.append_empty, gor]
end
end Go.Proofs.Ytodcnhodbeakiaa
