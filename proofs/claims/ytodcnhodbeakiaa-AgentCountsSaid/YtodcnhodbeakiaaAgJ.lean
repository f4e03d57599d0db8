/- Package agent, the side of the program: its end, by a return or by a panic: the memory does not run any more, who steps is told so. Written by gen/ag_j.py. Conditions: as each theorem states them. -/
import Derived.Test.YtodcnhodbeakiaaAgS
import Derived.Conc.QuitsD
import Derived.Conc.EventLaws
import Derived.Conc.TokenWalk
namespace Go.Proofs.Ytodcnhodbeakiaa
set_option linter.unusedVariables false
set_option linter.unusedSimpArgs false
set_option maxRecDepth 100000
open Go.Conc

section
variable {P : Program} {Post : Value → World → Prop} {pl : Nat → Option Place} {n h : Nat} {cs : List Frame} {w : World}
variable {b : Frame} {a : Act} {k : List Item} {ops : Array Oper} {i : Nat} {rest : List Nat} {o : Oper} {v : Value}

/-- What a deferred call that asks 'recover' is answered, and how its caller stands behind that. -/
def asked (c : Frame) : Value × Frame := match c.mode with
  | .panicking ({ v, recovered := false, goexit := false } :: older) => (v, { c with mode := .panicking ({ v, recovered := true } :: older) })
  | _ => (.nilIface, c)
theorem Win.recovers {c : Frame} (hb : b.kind = .deferred) (hro : (b.at a (.inRegion ops (i :: rest) :: k)).roundOf = none) (ho : ops[i]? = some o) (hwt : Region.wanted o (yielded ops a.tmps) = true) (hr : ∀ d, ∃ es, (execOp a.eval o).runT P (w.at d) #[] = (.ok .recover (w.at d), es) ∧ Reads es)
    (H : Win P Post pl n h (gor (b.at (a.put o.dst (asked c).1) (.inRegion ops rest :: k)) ((asked c).2 :: cs)) w) : Win P Post pl n h (gor (b.at a (.inRegion ops (i :: rest) :: k)) (c :: cs)) w :=
  Win.step rfl fun d => by
    obtain ⟨es, h1, h2⟩ := hr d
    refine ⟨gor (b.at (a.put o.dst (asked c).1) (.inRegion ops rest :: k)) ((asked c).2 :: cs), _, seen P b.fn es, ?_, ⟨fun _ _ _ _ _ => rfl, fun _ _ _ z => z⟩, fun e he => h2.calm e (mem_seen he), H.at d⟩
    have hf : ∀ u, (b.at a (.inRegion ops (i :: rest) :: k)).finish u = b.at (a.put o.dst u) (.inRegion ops rest :: k) := fun u => by
      have := Frame.finish_at b a ops i rest k u
      rw [ho] at this; exact this
    have hk : (b.at a (.inRegion ops (i :: rest) :: k)).kind = .deferred := hb
    rw [stepG_oper _ ho hwt]
    simp only [stepG.apply, h1, if_true, at_not_early (.inr hb), if_false, Bool.false_eq_true, hro, tryRecover, hk, asked]
    cases hm : c.mode with
    | run => simp only [GStep.after, Array.append_empty, gor, hf]; rfl
    | returning => simp only [GStep.after, Array.append_empty, gor, hf]; rfl
    | panicking chain =>
      cases chain with
      | nil => simp only [GStep.after, Array.append_empty, gor, hf]; rfl
      | cons e older =>
        obtain ⟨v', rec, g⟩ := e
        cases rec <;> cases g <;> (simp only [GStep.after, Array.append_empty, gor, hf]; rfl)

/-- A CLOSE of a channel at which one waits, by the built-in. -/
theorem Win.closes {j c kk m : Nat} {s : Place} {z : Value} {x : Operand} {ats : Array TypeId} {pl' : Option Place} (hb : b.kind = .normal ∨ b.kind = .deferred) (ho : ops[i]? = some o) (hwt : Region.wanted o (yielded ops a.tmps) = true)
    (hop : o.op = .call { callee := .builtin .close, args := #[x], argTypes := ats }) (hx : a.eval x = .chan (some c)) (hq : (P.funcs[b.fn]?).any (·.norace) = false) (hj : pl j = some s) (hk : s.cases[kk]? = some (rcase c z)) (hc : w.heap[c]? = some (.chan 0 #[] false m m false))
    (hR : Rests P pl h w (gor (b.at (a.put o.dst (.tuple #[])) (.inRegion ops rest :: k)) cs) pl')
    (hw : ∀ g₂ d, s.home g₂ → Win P Post (moved pl h j pl') n j (Go.Conc.served g₂ (commResult s.cases s.shape kk z false)) ((w.at d).setChan c 0 #[] true m m false)) :
    Win P Post pl n h (gor (b.at a (.inRegion ops (i :: rest) :: k)) cs) w := by
  simp only [Act.eval, Array.getD_eq_getD_getElem?] at hx
  refine Win.shuts (v := .tuple #[]) (es := closeEvents c) hb ho hwt ?_ (fun d => ?_) (seen_eq hq (by intro e he f; simp only [closeEvents, List.mem_toArray, List.mem_cons, List.not_mem_nil, or_false] at he; rcases he with rfl | rfl <;> simp)) hj hk hc hR hw
  · simp only [mayWake, gor, Frame.at, ho, Option.map_some, hop]
  · have hcd : (w.at d).heap[c]? = some (.chan 0 #[] false m m false) := hc
    rw [Sem.runT_eq]
    have h1 : (execOp a.eval o).run P (w.at d) = .ok (.value (.tuple #[])) ((w.at d).setChan c 0 #[] true m m false) := by
      unfold execOp
      simp only [hop]
      generalize w.at d = W at hcd ⊢
      simp [go_sem, hx, run_close_open _ _ hcd, World.setChan]
    have h2 : (execOp a.eval o).events P (w.at d) #[] = closeEvents c := by
      unfold execOp
      simp only [hop]
      generalize w.at d = W at hcd ⊢
      simp [go_sem, hx, events_close_open _ _ hcd, closeEvents]
    rw [h1, h2]

/-! How a goroutine leaves -/
theorem stepG_back {fr c c' : Frame} (hm : fr.mode = .returning) (hd : fr.defers = []) (hk : fr.kind = .deferred) {fn : Func} (hf : P.funcs[fr.fn]? = some fn) (hr : ∀ w, (results fn fr.tmps).runT P w #[] = (.ok v w, #[]))
    (hc : c.mode = .returning ∧ c' = c ∨ (∃ u, c.mode = .panicking [{ v := u, recovered := true }] ∧ c' = { c with mode := .returning }) ∨ c.mode = .panicking [goexitEntry] ∧ c' = c) (main : Bool) (w : World) :
    stepG P main (gor fr (c :: cs)) w = .go (gor c' cs) w := by
  rw [stepG_not_run (by rw [hm]; simp)]
  unfold unwind
  simp only [hd, hm, hf, hr w, doReturn, hk]
  rcases hc with ⟨h1, rfl⟩ | ⟨u, h1, rfl⟩ | ⟨h1, rfl⟩
  · simp only [h1, GStep.after, gor]; rfl
  · simp only [h1, List.dropWhile_nil, GStep.after, gor]; rfl
  · simp only [h1, goexitEntry, GStep.after, gor]; rfl

theorem quits_root_step (w : World) : stepG P false (gor (rootFr P) []) w = .go { gor (rootFr P) [] with status := .finished } w := by
  rw [stepG_not_run (by simp [rootFr])]
  have hn : P.funcs[P.funcs.size]? = none := by simp
  simp [unwind, rootFr, Frame.catches, hn, goexitEntry, gor]
  rfl
end

section
variable {pl : Nat → Option Place} {n h : Nat} {Post : Value → World → Prop} {w : World}

/-- What is left of the goroutine behind the close. -/
theorem run_quits {fr : Frame} {b : Frame} {a : Act} {ops : Array Oper} (hbk : b.kind = .deferred) (hbf : b.fn = 70) (hfd : fr.defers = []) (hfk : fr.kind = .deferred) (hff : fr.fn = 40) (hd : a.defers = [])
    (hm : fr.mode = .returning ∨ ∃ u, fr.mode = .panicking [{ v := u, recovered := true }]) : QuitsD Try.prog 6 0 (gor (b.at a [.inRegion ops []]) [fr, rootFr Try.prog]) := by
  refine .ctl rfl (fun w => rfl) (g' := gor (b.at a []) [fr, rootFr Try.prog]) ?_
  refine .ctl rfl (fun w => rfl) (g' := gor { b.at a [] with mode := .returning } [fr, rootFr Try.prog]) ?_
  refine .ctl rfl (g' := gor { fr with mode := .returning } [rootFr Try.prog]) (stepG_back (fr := { b.at a [] with mode := .returning }) (c := fr) (v := .tuple #[]) rfl hd hbk (by show Try.prog.funcs[b.fn]? = _; rw [hbf]; exact Try.func70) (fun w => by rw [Sem.runT_eq]; simp [go_sem, results, Try.f70]) ?_ false) ?_
  · rcases hm with h | ⟨u, h⟩
    · exact .inl ⟨h, by obtain ⟨_, _, _, _, _, _⟩ := fr; simp_all⟩
    · exact .inr (.inl ⟨u, h, rfl⟩)
  refine .ctl rfl (g' := gor (rootFr Try.prog) []) (stepG_back (fr := { fr with mode := .returning }) (c := rootFr Try.prog) (v := .tuple #[]) rfl hfd hfk (by show Try.prog.funcs[fr.fn]? = _; rw [hff]; exact Try.func40) (fun w => by rw [Sem.runT_eq]; simp [go_sem, results, Try.f40]) (.inr (.inr ⟨rfl, rfl⟩)) false) ?_
  exact .inr ⟨rfl, _, #[], fun e he => by simp at he, quits_root_step, .inl ⟨rfl, rfl⟩⟩

/-- THE PROGRAM HAS COME TO ITS END. -/
theorem run_ends {fr : Frame} {p m b1 b2 cT kT : Nat} {x : Value} {more : Addr → Value → Prop} {home : Goroutine → Prop} (hm : fr.mode = .returning ∨ ∃ u, fr.mode = .panicking [{ v := u, recovered := false }]) (hd : fr.defers = [runDefer b1 b2]) (hk : fr.kind = .deferred) (hf : fr.fn = 40) (h0 : 0 < h)
    (hb1 : w.cell? ⟨b1, 0, none⟩ = some (.pointer (some ⟨p, 0, none⟩))) (hb2 : w.cell? ⟨b2, 0, none⟩ = some (.pointer (some ⟨m, 0, none⟩))) (hm1 : w.cell? ⟨m, 1, none⟩ = some x) (hf1 : w.frozen? ⟨m, 1, none⟩ = false) (F1 : Free pl ⟨m, 1, none⟩)
    (hp1 : w.cell? ⟨p, 1, none⟩ = some (.chan (some cT))) (hne1 : b1 ≠ m) (hpm : p ≠ m) (hT : w.heap[cT]? = some (.chan 0 #[] false kT kT false)) (hj : pl 0 = some (waitSeat p cT more home))
    (H : ∀ g₂ d, home g₂ → Win Try.prog Post (moved pl h 0 none) n 0 (Go.Conc.served g₂ (.tuple #[.nilFunc, .bool false])) (((w.setCell ⟨m, 1, none⟩ (.bool false)).at d).setChan cT 0 #[] true kT kT false)) :
    Win Try.prog Post pl n h (gor fr [rootFr Try.prog]) w := by
  refine Win.callsDeferred (d₀ := runDefer b1 b2) (ds := []) (f := 70) (args := #[.pointer (some ⟨b2, 0, none⟩), .pointer (some ⟨b1, 0, none⟩)]) (by rcases hm with h | ⟨u, h⟩ <;> rw [h] <;> simp) hd trivial (by simp [runDefer]) (fun d => ⟨#[], invoke_enter mild.toMild Try.func70 rfl _ _ _ _, fun e he => by simp at he⟩) ?_
  have hne : (Frame.enter Try.prog 70 #[.pointer (some ⟨b2, 0, none⟩), .pointer (some ⟨b1, 0, none⟩)] CallKind.deferred).kind = .deferred := rfl
  obtain ⟨fr2, hfr2⟩ : ∃ f2, f2 = (asked { fr with defers := [] }).2 := ⟨_, rfl⟩
  have hq : fr2.defers = [] ∧ fr2.kind = .deferred ∧ fr2.fn = 40 ∧ (fr2.mode = .returning ∨ ∃ u, fr2.mode = .panicking [{ v := u, recovered := true }]) := by
    rcases hm with h | ⟨u, h⟩
    · rw [hfr2]; simp [asked, h, hk, hf]
    · rw [hfr2]; simp [asked, h, hk, hf]
  rw [enter_at Try.func70 rfl]
  simp only [Try.ntmps70, List.size_toArray, List.length_cons, List.length_nil, Nat.reduceAdd, Nat.reduceSub, Array.replicate_succ, Array.replicate_zero, List.push_toArray, List.append_toArray, List.nil_append, List.cons_append]
  refine Win.seq ?_
  refine Win.region ?_
  simp only [List.size_toArray, List.length_cons, List.length_nil, Nat.reduceAdd, List.range, List.range.loop]
  refine Win.recovers hne rfl rfl rfl (fun d => ⟨#[], by rw [Sem.runT_eq]; simp [go_sem, execOp, Act.eval]; try rfl, fun e he => by simp at he⟩) ?_
  rw [← hfr2]
  generalize (asked { fr with defers := [] }).1 = z
  simp only [Act.put, Act.eval, List.getElem_toArray, List.getElem_cons_zero, List.getElem_cons_succ, List.setIfInBounds_toArray, List.set_cons_succ, List.set_cons_zero]
  refine Win.opsEnd ?_
  refine Win.seq ?_
  refine Win.region ?_
  simp only [List.size_toArray, List.length_cons, List.length_nil, Nat.reduceAdd, List.range, List.range.loop]
  refine Win.lookOp (v := .pointer (some ⟨m, 0, none⟩)) (ad := ⟨b2, 0, none⟩) (x := .pointer (some ⟨m, 0, none⟩)) (.inr hne) rfl rfl (hb2) (fun w hc => by rw [Sem.runT_eq]; simp [go_sem, execOp, Act.eval, hc]) ?_
  simp only [Act.put, Act.eval, List.getElem_toArray, List.getElem_cons_zero, List.getElem_cons_succ, List.setIfInBounds_toArray, List.set_cons_succ, List.set_cons_zero]
  refine Win.pureOp (v := .pointer (some ⟨m, 0, none⟩)) (.inr hne) rfl rfl (fun w => by rw [Sem.runT_eq]; simp [go_sem, execOp, Act.eval]) ?_
  simp only [Act.put, Act.eval, List.getElem_toArray, List.getElem_cons_zero, List.getElem_cons_succ, List.setIfInBounds_toArray, List.set_cons_succ, List.set_cons_zero]
  refine Win.pureOp (v := .pointer (some ⟨m, 1, none⟩)) (.inr hne) rfl rfl (fun w => by rw [Sem.runT_eq]; simp [go_sem, execOp, Act.eval]) ?_
  simp only [Act.put, Act.eval, List.getElem_toArray, List.getElem_cons_zero, List.getElem_cons_succ, List.setIfInBounds_toArray, List.set_cons_succ, List.set_cons_zero]
  refine Win.storeOp (ad := ⟨m, 1, none⟩) (x := .bool false) (.inr hne) rfl rfl F1 (fun d => by
    rw [Sem.runT_eq]
    obtain ⟨s1, s2⟩ := store_ok (P := Try.prog) (x := .bool false) (w := w.at d) (m := .plain) (by simp) (by simp) (show (w.at d).cell? ⟨m, 1, none⟩ = some x from hm1) (show (w.at d).frozen? ⟨m, 1, none⟩ = false from hf1)
    have c1 : (w.at d).cell? ⟨m, 1, none⟩ = some x := hm1
    have c2 : (w.at d).frozen? ⟨m, 1, none⟩ = false := hf1
    generalize w.at d = W at s1 s2 c1 c2 ⊢
    simp [go_sem, execOp, Act.eval, s1, s2, c1, c2]) ?_
  simp only [Act.put, Act.eval, List.getElem_toArray, List.getElem_cons_zero, List.getElem_cons_succ, List.setIfInBounds_toArray, List.set_cons_succ, List.set_cons_zero]
  refine Win.opsEnd ?_
  have hb1' : (w.setCell ⟨m, 1, none⟩ (.bool false)).cell? ⟨b1, 0, none⟩ = some (.pointer (some ⟨p, 0, none⟩)) := cell_setCell_ne hb1 (by simp [hne1])
  have hp1' : (w.setCell ⟨m, 1, none⟩ (.bool false)).cell? ⟨p, 1, none⟩ = some (.chan (some cT)) := cell_setCell_ne hp1 (by simp [hpm])
  have hT' : (w.setCell ⟨m, 1, none⟩ (.bool false)).heap[cT]? = some (.chan 0 #[] false kT kT false) := by
    by_cases e : m = cT
    · subst e
      have : w.cell? ⟨m, 1, none⟩ = none := by simp [World.cell?, hT]
      rw [this] at hm1; cases hm1
    · simp [World.setCell, Array.getElem?_modify, e, hT]
  clear hm1 hf1 hb1 hp1 hT hb2
  generalize w.setCell ⟨m, 1, none⟩ (.bool false) = w1 at *
  refine Win.region ?_
  simp only [List.size_toArray, List.length_cons, List.length_nil, Nat.reduceAdd, List.range, List.range.loop]
  refine Win.lookOp (v := .pointer (some ⟨p, 0, none⟩)) (ad := ⟨b1, 0, none⟩) (x := .pointer (some ⟨p, 0, none⟩)) (.inr hne) rfl rfl (hb1') (fun w hc => by rw [Sem.runT_eq]; simp [go_sem, execOp, Act.eval, hc]) ?_
  simp only [Act.put, Act.eval, List.getElem_toArray, List.getElem_cons_zero, List.getElem_cons_succ, List.setIfInBounds_toArray, List.set_cons_succ, List.set_cons_zero]
  refine Win.pureOp (v := .pointer (some ⟨p, 0, none⟩)) (.inr hne) rfl rfl (fun w => by rw [Sem.runT_eq]; simp [go_sem, execOp, Act.eval]) ?_
  simp only [Act.put, Act.eval, List.getElem_toArray, List.getElem_cons_zero, List.getElem_cons_succ, List.setIfInBounds_toArray, List.set_cons_succ, List.set_cons_zero]
  refine Win.pureOp (v := .pointer (some ⟨p, 1, none⟩)) (.inr hne) rfl rfl (fun w => by rw [Sem.runT_eq]; simp [go_sem, execOp, Act.eval]) ?_
  simp only [Act.put, Act.eval, List.getElem_toArray, List.getElem_cons_zero, List.getElem_cons_succ, List.setIfInBounds_toArray, List.set_cons_succ, List.set_cons_zero]
  refine Win.lookOp (v := .chan (some cT)) (ad := ⟨p, 1, none⟩) (x := .chan (some cT)) (.inr hne) rfl rfl (hp1') (fun w hc => by rw [Sem.runT_eq]; simp [go_sem, execOp, Act.eval, hc]) ?_
  simp only [Act.put, Act.eval, List.getElem_toArray, List.getElem_cons_zero, List.getElem_cons_succ, List.setIfInBounds_toArray, List.set_cons_succ, List.set_cons_zero]
  refine Win.closes (j := 0) (c := cT) (kk := 0) (m := kT) (z := .nilFunc) (pl' := none) (.inr hne) rfl rfl rfl rfl rfl hj rfl hT' ⟨h0, 6, ?_⟩ (fun g₂ d hg => H g₂ d hg)
  exact run_quits hne rfl hq.1 hq.2.1 hq.2.2.1 rfl hq.2.2.2
end
end Go.Proofs.Ytodcnhodbeakiaa
