/- Package agent, the side of the program: its end, by a return or by a panic: the memory does not run any more, who steps is told so. Written by gen/ag_j.py. Worlds in which only some blocks may have turned, of whatever program: 'Kp S w w2': of the blocks that w has, none but those on the list S holds other than it held. And a block that is known whole. Conditions: none. The arena as the walks hold it: a struct's block that leads to a row of words. The walks of package arena: touch, Update (by whatever closure), New, Len, Touched, Last, and all of them at nil. The walks of package arena, further: the closures, Update by a closure that writes nothing, Read, Write; and what 'wakes' asks. Agents by trees of touches: what an agent does is a tree; 'Poised': it waits for its turn, and behind that turn it does as its tree says. Conditions: none. Agents by trees, on: how what is held is carried over what an agent does by itself. Conditions: none. Agents by trees, on: a touch, as the program sees it: it is handed to who steps; behind the turn the program goes on. Conditions: as each theorem states them. -/
import Derived.Lib.Hide
import Derived.Conc.QuitsD
import Derived.Conc.EventLaws
import Derived.Conc.TokenWalk
import Derived.Below
import Derived.WalkKit
import Derived.Laws.Rows
import Derived.Laws.CopyRow
import Derived.Laws.MakeOwn
import Derived.Laws.OwnMore
import Derived.Test.YtnbaiinhalplcaaRows
import Derived.WalkSpells
import Derived.WalkLawsBesides
import Derived.Defers
import Derived.Recover
import Derived.BigQuiet
import Derived.RegionTactic
import Derived.Handy
import Derived.Test.YtnbaiinhalplcaaPg09
namespace Go.Proofs.Ytnbaiinhalplcaa
open List renaming getElem_toArray → gtA, getElem_cons_zero → gtZ, getElem_cons_succ → gtS, setIfInBounds_toArray → siA, set_cons_succ → scS, set_cons_zero → scZ
set_option linter.unusedVariables false
set_option linter.unusedSimpArgs false
set_option maxRecDepth 100000
open Go.Conc

section
variable {P : Program} {Post : Value → World → Prop} {pl : Nat → Option Place} {n h : Nat} {cs : List Frame} {w : World}
variable {b : Frame} {a : Act} {k : List Item} {ops : Array Oper} {i : Nat} {rest : List Nat} {o : Oper} {v : Value}

/-- What a deferred call that asks 'recover' is answered, and how its caller stands behind that. -/
def asked (c : Frame) : Value × Frame := match c.mode with
  | .panicking ({ v, recovered := false, goexit := false } :: older) => (v, { c with mode := .panicking ({ v, recovered := true } :: older) })
  | _ => (.nilIface, c)
theorem Win.recovers {c : Frame} (hb : b.kind = .deferred) (hro : (b.at a (.inRegion ops (i :: rest) :: k)).roundOf = none) (ho : ops[i]? = some o) (hwt : Region.wanted o (yielded ops a.tmps) = true) (hr : ∀ d, ∃ es, (execOp a.eval o).runT P (w.at d) #[] = (.ok .recover (w.at d), es) ∧ Reads es)
    (H : Win P Post pl n h (gor (b.at (a.put o.dst (asked c).1) (.inRegion ops rest :: k)) ((asked c).2 :: cs)) w) : Win P Post pl n h (gor (b.at a (.inRegion ops (i :: rest) :: k)) (c :: cs)) w :=
  Win.step rfl fun d => by
    obtain ⟨es, h1, h2⟩ := hr d
    refine ⟨gor (b.at (a.put o.dst (asked c).1) (.inRegion ops rest :: k)) ((asked c).2 :: cs), _, seen P b.fn es, ?_, ⟨fun _ _ _ _ _ => rfl, fun _ _ _ z => z⟩, fun e he => h2.calm e (mem_seen he), H.at d⟩
    have hf : ∀ u, (b.at a (.inRegion ops (i :: rest) :: k)).finish u = b.at (a.put o.dst u) (.inRegion ops rest :: k) := fun u => by
      have := Frame.finish_at b a ops i rest k u
      rw [ho] at this; exact this
    have hk : (b.at a (.inRegion ops (i :: rest) :: k)).kind = .deferred := hb
    rw [stepG_oper _ ho hwt]
    simp only [stepG.apply, h1, if_true, at_not_early (.inr hb), if_false, Bool.false_eq_true, hro, tryRecover, hk, asked]
    cases hm : c.mode with
    | run => simp only [GStep.after, Array.append_empty, gor, hf]; rfl
    | returning => simp only [GStep.after, Array.append_empty, gor, hf]; rfl
    | panicking chain =>
      cases chain with
      | nil => simp only [GStep.after, Array.append_empty, gor, hf]; rfl
      | cons e older =>
        obtain ⟨v', rec, g⟩ := e
        cases rec <;> cases g <;> (simp only [GStep.after, Array.append_empty, gor, hf]; rfl)

/-- A CLOSE of a channel at which one waits, by the built-in. -/
theorem Win.closes {j c kk m : Nat} {s : Place} {z : Value} {x : Operand} {ats : Array TypeId} {pl' : Option Place} (hb : b.kind = .normal ∨ b.kind = .deferred) (ho : ops[i]? = some o) (hwt : Region.wanted o (yielded ops a.tmps) = true)
    (hop : o.op = .call { callee := .builtin .close, args := #[x], argTypes := ats }) (hx : a.eval x = .chan (some c)) (hq : (P.funcs[b.fn]?).any (·.norace) = false) (hj : pl j = some s) (hk : s.cases[kk]? = some (rcase c z)) (hc : w.heap[c]? = some (.chan 0 #[] false m m false))
    (hR : Rests P pl h w (gor (b.at (a.put o.dst (.tuple #[])) (.inRegion ops rest :: k)) cs) pl')
    (hw : ∀ g₂ d, s.home g₂ → Win P Post (moved pl h j pl') n j (Go.Conc.served g₂ (commResult s.cases s.shape kk z false)) ((w.at d).setChan c 0 #[] true m m false)) :
    Win P Post pl n h (gor (b.at a (.inRegion ops (i :: rest) :: k)) cs) w := by
  simp only [Act.eval, Array.getD_eq_getD_getElem?] at hx
  refine Win.shuts (v := .tuple #[]) (es := closeEvents c) hb ho hwt ?_ (fun d => ?_) (seen_eq hq (by intro e he f; simp only [closeEvents, List.mem_toArray, List.mem_cons, List.not_mem_nil, or_false] at he; rcases he with rfl | rfl <;> simp)) hj hk hc hR hw
  · simp only [mayWake, gor, Frame.at, ho, Option.map_some, hop]
  · have hcd : (w.at d).heap[c]? = some (.chan 0 #[] false m m false) := hc
    rw [Sem.runT_eq]
    have h1 : (execOp a.eval o).run P (w.at d) = .ok (.value (.tuple #[])) ((w.at d).setChan c 0 #[] true m m false) := by
      unfold execOp
      simp only [hop]
      generalize w.at d = W at hcd ⊢
      simp [go_sem, hx, run_close_open _ _ hcd, World.setChan]
    have h2 : (execOp a.eval o).events P (w.at d) #[] = closeEvents c := by
      unfold execOp
      simp only [hop]
      generalize w.at d = W at hcd ⊢
      simp [go_sem, hx, events_close_open _ _ hcd, closeEvents]
    rw [h1, h2]

/-! How a goroutine leaves -/
theorem stepG_back {fr c c' : Frame} (hm : fr.mode = .returning) (hd : fr.defers = []) (hk : fr.kind = .deferred) {fn : Func} (hf : P.funcs[fr.fn]? = some fn) (hr : ∀ w, (results fn fr.tmps).runT P w #[] = (.ok v w, #[]))
    (hc : c.mode = .returning ∧ c' = c ∨ (∃ u, c.mode = .panicking [{ v := u, recovered := true }] ∧ c' = { c with mode := .returning }) ∨ c.mode = .panicking [goexitEntry] ∧ c' = c) (main : Bool) (w : World) :
    stepG P main (gor fr (c :: cs)) w = .go (gor c' cs) w := by
  rw [stepG_not_run (by rw [hm]; simp)]
  unfold unwind
  simp only [hd, hm, hf, hr w, doReturn, hk]
  rcases hc with ⟨h1, rfl⟩ | ⟨u, h1, rfl⟩ | ⟨h1, rfl⟩
  · simp only [h1, GStep.after, gor]; rfl
  · simp only [h1, List.dropWhile_nil, GStep.after, gor]; rfl
  · simp only [h1, goexitEntry, GStep.after, gor]; rfl

theorem quits_root_step (w : World) : stepG P false (gor (rootFr P) []) w = .go { gor (rootFr P) [] with status := .finished } w := by
  rw [stepG_not_run (by simp [rootFr])]
  have hn : P.funcs[P.funcs.size]? = none := by simp
  simp [unwind, rootFr, Frame.catches, hn, goexitEntry, gor]
  rfl
end

section
variable {pl : Nat → Option Place} {n h : Nat} {Post : Value → World → Prop} {w : World}

/-- What is left of the goroutine behind the close. -/
theorem run_quits {fr : Frame} {b : Frame} {a : Act} {ops : Array Oper} (hbk : b.kind = .deferred) (hbf : b.fn = 54) (hfd : fr.defers = []) (hfk : fr.kind = .deferred) (hff : fr.fn = 31) (hd : a.defers = [])
    (hm : fr.mode = .returning ∨ ∃ u, fr.mode = .panicking [{ v := u, recovered := true }]) : QuitsD Try.prog 6 0 (gor (b.at a [.inRegion ops []]) [fr, rootFr Try.prog]) := by
  refine .ctl rfl (fun w => rfl) (g' := gor (b.at a []) [fr, rootFr Try.prog]) ?_
  refine .ctl rfl (fun w => rfl) (g' := gor { b.at a [] with mode := .returning } [fr, rootFr Try.prog]) ?_
  refine .ctl rfl (g' := gor { fr with mode := .returning } [rootFr Try.prog]) (stepG_back (fr := { b.at a [] with mode := .returning }) (c := fr) (v := .tuple #[]) rfl hd hbk (by show Try.prog.funcs[b.fn]? = _; rw [hbf]; exact Try.func54) (fun w => by rw [Sem.runT_eq]; simp [go_sem, results, Try.f54]) ?_ false) ?_
  · rcases hm with h | ⟨u, h⟩
    · exact .inl ⟨h, by obtain ⟨_, _, _, _, _, _⟩ := fr; simp_all⟩
    · exact .inr (.inl ⟨u, h, rfl⟩)
  refine .ctl rfl (g' := gor (rootFr Try.prog) []) (stepG_back (fr := { fr with mode := .returning }) (c := rootFr Try.prog) (v := .tuple #[]) rfl hfd hfk (by show Try.prog.funcs[fr.fn]? = _; rw [hff]; exact Try.func31) (fun w => by rw [Sem.runT_eq]; simp [go_sem, results, Try.f31]) (.inr (.inr ⟨rfl, rfl⟩)) false) ?_
  exact .inr ⟨rfl, _, #[], fun e he => by simp at he, quits_root_step, .inl ⟨rfl, rfl⟩⟩

/-- THE PROGRAM HAS COME TO ITS END. -/
theorem run_ends {fr : Frame} {p m b1 b2 cT kT : Nat} {x : Value} {more : Addr → Value → Prop} {home : Goroutine → Prop} (hm : fr.mode = .returning ∨ ∃ u, fr.mode = .panicking [{ v := u, recovered := false }]) (hd : fr.defers = [runDefer b1 b2]) (hk : fr.kind = .deferred) (hf : fr.fn = 31) (h0 : 0 < h)
    (hb1 : w.cell? ⟨b1, 0, none⟩ = some (.pointer (some ⟨p, 0, none⟩))) (hb2 : w.cell? ⟨b2, 0, none⟩ = some (.pointer (some ⟨m, 0, none⟩))) (hm1 : w.cell? ⟨m, 1, none⟩ = some x) (hf1 : w.frozen? ⟨m, 1, none⟩ = false) (F1 : Free pl ⟨m, 1, none⟩)
    (hp1 : w.cell? ⟨p, 1, none⟩ = some (.chan (some cT))) (hne1 : b1 ≠ m) (hpm : p ≠ m) (hT : w.heap[cT]? = some (.chan 0 #[] false kT kT false)) (hj : pl 0 = some (waitSeat p cT more home))
    (H : ∀ g₂ d, home g₂ → Win Try.prog Post (moved pl h 0 none) n 0 (Go.Conc.served g₂ (.tuple #[.nilFunc, .bool false])) (((w.setCell ⟨m, 1, none⟩ (.bool false)).at d).setChan cT 0 #[] true kT kT false)) :
    Win Try.prog Post pl n h (gor fr [rootFr Try.prog]) w := by
  refine Win.callsDeferred (d₀ := runDefer b1 b2) (ds := []) (f := 54) (args := #[.pointer (some ⟨b2, 0, none⟩), .pointer (some ⟨b1, 0, none⟩)]) (by rcases hm with h | ⟨u, h⟩ <;> rw [h] <;> simp) hd trivial (by simp [runDefer]) (fun d => ⟨#[], invoke_enter mild.toMild Try.func54 rfl _ _ _ _, fun e he => by simp at he⟩) ?_
  have hne : (Frame.enter Try.prog 54 #[.pointer (some ⟨b2, 0, none⟩), .pointer (some ⟨b1, 0, none⟩)] CallKind.deferred).kind = .deferred := rfl
  obtain ⟨fr2, hfr2⟩ : ∃ f2, f2 = (asked { fr with defers := [] }).2 := ⟨_, rfl⟩
  have hq : fr2.defers = [] ∧ fr2.kind = .deferred ∧ fr2.fn = 31 ∧ (fr2.mode = .returning ∨ ∃ u, fr2.mode = .panicking [{ v := u, recovered := true }]) := by
    rcases hm with h | ⟨u, h⟩
    · rw [hfr2]; simp [asked, h, hk, hf]
    · rw [hfr2]; simp [asked, h, hk, hf]
  rw [enter_at Try.func54 rfl]
  simp only [Try.ntmps54, List.size_toArray, List.length_cons, List.length_nil, Nat.reduceAdd, Nat.reduceSub, Array.replicate_succ, Array.replicate_zero, List.push_toArray, List.append_toArray, List.nil_append, List.cons_append]
  refine Win.seq ?_
  refine Win.region ?_
  simp only [List.size_toArray, List.length_cons, List.length_nil, Nat.reduceAdd, List.range, List.range.loop]
  refine Win.recovers hne rfl rfl rfl (fun d => ⟨#[], by rw [Sem.runT_eq]; simp [go_sem, execOp, Act.eval]; try rfl, fun e he => by simp at he⟩) ?_
  rw [← hfr2]
  generalize (asked { fr with defers := [] }).1 = z
  simp only [Act.put, Act.eval, gtA, gtZ, gtS, siA, scS, scZ]
  refine Win.opsEnd ?_
  refine Win.seq ?_
  refine Win.region ?_
  simp only [List.size_toArray, List.length_cons, List.length_nil, Nat.reduceAdd, List.range, List.range.loop]
  refine Win.lookOp (v := .pointer (some ⟨m, 0, none⟩)) (ad := ⟨b2, 0, none⟩) (x := .pointer (some ⟨m, 0, none⟩)) (.inr hne) rfl rfl (hb2) (fun w hc => by rw [Sem.runT_eq]; simp [go_sem, execOp, Act.eval, hc]) ?_
  simp only [Act.put, Act.eval, gtA, gtZ, gtS, siA, scS, scZ]
  refine Win.pureOp (v := .pointer (some ⟨m, 0, none⟩)) (.inr hne) rfl rfl (fun w => by rw [Sem.runT_eq]; simp [go_sem, execOp, Act.eval]) ?_
  simp only [Act.put, Act.eval, gtA, gtZ, gtS, siA, scS, scZ]
  refine Win.pureOp (v := .pointer (some ⟨m, 1, none⟩)) (.inr hne) rfl rfl (fun w => by rw [Sem.runT_eq]; simp [go_sem, execOp, Act.eval]) ?_
  simp only [Act.put, Act.eval, gtA, gtZ, gtS, siA, scS, scZ]
  refine Win.storeOp (ad := ⟨m, 1, none⟩) (x := .bool false) (.inr hne) rfl rfl F1 (fun d => by
    rw [Sem.runT_eq]
    obtain ⟨s1, s2⟩ := store_ok (P := Try.prog) (x := .bool false) (w := w.at d) (m := .plain) (by simp) (by simp) (show (w.at d).cell? ⟨m, 1, none⟩ = some x from hm1) (show (w.at d).frozen? ⟨m, 1, none⟩ = false from hf1)
    have c1 : (w.at d).cell? ⟨m, 1, none⟩ = some x := hm1
    have c2 : (w.at d).frozen? ⟨m, 1, none⟩ = false := hf1
    generalize w.at d = W at s1 s2 c1 c2 ⊢
    simp [go_sem, execOp, Act.eval, s1, s2, c1, c2]) ?_
  simp only [Act.put, Act.eval, gtA, gtZ, gtS, siA, scS, scZ]
  refine Win.opsEnd ?_
  have hb1' : (w.setCell ⟨m, 1, none⟩ (.bool false)).cell? ⟨b1, 0, none⟩ = some (.pointer (some ⟨p, 0, none⟩)) := cell_setCell_ne hb1 (by simp [hne1])
  have hp1' : (w.setCell ⟨m, 1, none⟩ (.bool false)).cell? ⟨p, 1, none⟩ = some (.chan (some cT)) := cell_setCell_ne hp1 (by simp [hpm])
  have hT' : (w.setCell ⟨m, 1, none⟩ (.bool false)).heap[cT]? = some (.chan 0 #[] false kT kT false) := by
    by_cases e : m = cT
    · subst e
      have : w.cell? ⟨m, 1, none⟩ = none := by simp [World.cell?, hT]
      rw [this] at hm1; cases hm1
    · simp [World.setCell, Array.getElem?_modify, e, hT]
  clear hm1 hf1 hb1 hp1 hT hb2
  generalize w.setCell ⟨m, 1, none⟩ (.bool false) = w1 at *
  refine Win.region ?_
  simp only [List.size_toArray, List.length_cons, List.length_nil, Nat.reduceAdd, List.range, List.range.loop]
  refine Win.lookOp (v := .pointer (some ⟨p, 0, none⟩)) (ad := ⟨b1, 0, none⟩) (x := .pointer (some ⟨p, 0, none⟩)) (.inr hne) rfl rfl (hb1') (fun w hc => by rw [Sem.runT_eq]; simp [go_sem, execOp, Act.eval, hc]) ?_
  simp only [Act.put, Act.eval, gtA, gtZ, gtS, siA, scS, scZ]
  refine Win.pureOp (v := .pointer (some ⟨p, 0, none⟩)) (.inr hne) rfl rfl (fun w => by rw [Sem.runT_eq]; simp [go_sem, execOp, Act.eval]) ?_
  simp only [Act.put, Act.eval, gtA, gtZ, gtS, siA, scS, scZ]
  refine Win.pureOp (v := .pointer (some ⟨p, 1, none⟩)) (.inr hne) rfl rfl (fun w => by rw [Sem.runT_eq]; simp [go_sem, execOp, Act.eval]) ?_
  simp only [Act.put, Act.eval, gtA, gtZ, gtS, siA, scS, scZ]
  refine Win.lookOp (v := .chan (some cT)) (ad := ⟨p, 1, none⟩) (x := .chan (some cT)) (.inr hne) rfl rfl (hp1') (fun w hc => by rw [Sem.runT_eq]; simp [go_sem, execOp, Act.eval, hc]) ?_
  simp only [Act.put, Act.eval, gtA, gtZ, gtS, siA, scS, scZ]
  refine Win.closes (j := 0) (c := cT) (kk := 0) (m := kT) (z := .nilFunc) (pl' := none) (.inr hne) rfl rfl rfl rfl rfl hj rfl hT' ⟨h0, 6, ?_⟩ (fun g₂ d hg => H g₂ d hg)
  exact run_quits hne rfl hq.1 hq.2.1 hq.2.2.1 rfl hq.2.2.2
end
end Go.Proofs.Ytnbaiinhalplcaa

namespace Go.Proofs.Ytnbaiinhalplcaa
set_option linter.unusedVariables false
open Go.RowKit

structure Kp (S : List Nat) (w w' : World) : Prop where
  os : w'.os = w.os
  tape : w'.tape = w.tape
  output : w'.output = w.output
  size : w.heap.size ≤ w'.heap.size
  block : ∀ k, k < w.heap.size → k ∉ S → w'.heap[k]? = w.heap[k]?

theorem Kp.refl (S : List Nat) (w : World) : Kp S w w := ⟨rfl, rfl, rfl, Nat.le_refl _, fun _ _ _ => rfl⟩
theorem Kp.trans {S : List Nat} {a b c : World} (h : Kp S a b) (k : Kp S b c) : Kp S a c :=
  ⟨k.os.trans h.os, k.tape.trans h.tape, k.output.trans h.output, Nat.le_trans h.size k.size, fun i hi hn => (k.block i (Nat.lt_of_lt_of_le hi h.size) hn).trans (h.block i hi hn)⟩
theorem Kp.mono {S T : List Nat} {w w' : World} (h : Kp S w w') (hs : ∀ x ∈ S, x < w.heap.size → x ∈ T) : Kp T w w' :=
  ⟨h.os, h.tape, h.output, h.size, fun k hk hn => h.block k hk (fun e => hn (hs k e hk))⟩
theorem Kp.alloc {S : List Nat} {a w : World} (h : Kp S a w) (o : Obj) : Kp S a (w.alloc o) :=
  h.trans ⟨rfl, rfl, rfl, by simp, fun k hk _ => Below.heap_alloc _ _ _ hk⟩
theorem Kp.drew {S : List Nat} {a w : World} (h : Kp S a w) : Kp S a w.drew := ⟨h.os, h.tape, h.output, h.size, h.block⟩
theorem Kp.drew_l {S : List Nat} {a w : World} (h : Kp S a.drew w) : Kp S a w := ⟨h.os, h.tape, h.output, h.size, h.block⟩
theorem Kp.setCell {S : List Nat} {a w : World} (h : Kp S a w) {p : Addr} (hp : p.block ∈ S ∨ a.heap.size ≤ p.block) (u : Value) : Kp S a (w.setCell p u) :=
  ⟨h.os, h.tape, h.output, by simpa [World.setCell] using h.size, fun k hk hn => (Below.heap_setCell _ _ _ _ (by
    intro e
    rcases hp with hp | hp
    · exact hn (e ▸ hp)
    · omega)).trans (h.block k hk hn)⟩
theorem Kp.setRow {S : List Nat} {a w : World} (h : Kp S a w) {g : Nat} (hp : g ∈ S ∨ a.heap.size ≤ g) (cs : Array Value) : Kp S a (w.setRow g cs) :=
  ⟨h.os, h.tape, h.output, by simpa using h.size, fun k hk hn => (setRow_other w g k cs (by
    intro e
    rcases hp with hp | hp
    · exact hn (e ▸ hp)
    · omega)).trans (h.block k hk hn)⟩
theorem Kp.grown {S : List Nat} {a w w' : World} {row : Option Nat} (h : Kp S a w) (hg : w.grownBy w' row) (hr : ∀ k, row = some k → k ∈ S ∨ a.heap.size ≤ k) : Kp S a w' :=
  ⟨hg.os.trans h.os, hg.tape.trans h.tape, hg.output.trans h.output, Nat.le_trans h.size hg.size, fun k hk hn => (hg.block k (Nat.lt_of_lt_of_le hk h.size) (fun e => by
    rcases hr k e.symm with q | q
    · exact hn q
    · omega)).trans (h.block k hk hn)⟩
theorem Kp.below {S : List Nat} {w w' : World} {B : Nat} (h : Kp S w w') (hB : B ≤ w.heap.size) (hS : ∀ x ∈ S, B ≤ x) : Below B w w' :=
  ⟨h.os, h.tape, h.output, h.size, fun k hk => h.block k (Nat.lt_of_lt_of_le hk hB) (fun e => by have := hS k e; omega)⟩
theorem kp_of_below {w w' : World} (h : Below w.heap.size w w') : Kp [] w w' := ⟨h.os, h.tape, h.output, h.size, fun k hk _ => h.block k hk⟩
theorem Kp.to_below {w w' : World} (h : Kp [] w w') : Below w.heap.size w w' := h.below (Nat.le_refl _) (by simp)

theorem Kp.row {S : List Nat} {w w' : World} (h : Kp S w w') {g : Nat} (hn : g ∉ S) {o : Obj} (ho : w.heap[g]? = some o) : w'.heap[g]? = some o := (h.block g (lt_of_block ho) hn).trans ho

/-- A block that is known whole: its cells, and that none is frozen. -/
theorem cell_of_row {w : World} {b : Nat} {cs : Array Value} {t : TypeId} (h : w.heap[b]? = some (.cells cs t (0, 0))) (i : Nat) : w.cell? ⟨b, i, none⟩ = cs[i]? := by simp [World.cell?, h]
theorem free_of_row {w : World} {b : Nat} {cs : Array Value} {t : TypeId} (h : w.heap[b]? = some (.cells cs t (0, 0))) (i : Nat) : w.frozen? ⟨b, i, none⟩ = false := by simp [World.frozen?, h]

end Go.Proofs.Ytnbaiinhalplcaa

namespace Go.Proofs.Ytnbaiinhalplcaa
set_option linter.unusedVariables false
set_option linter.unusedSimpArgs false
open Go.RowKit

/-- What an arena is, plainly: its words, how often it was touched, the place that is kept. -/
structure St where
  ws : List Int
  t : Nat
  l : Int

def inB (s : St) (k : Int) : Bool := decide (0 ≤ k) && decide (k < s.ws.length)
def was (s : St) (k : Int) : Int := if inB s k then s.ws.getD k.toNat 0 else 0
def upd (s : St) (k : Int) (y : Int) : St := if inB s k then ⟨s.ws.set k.toNat y, s.t + 1, k⟩ else s

theorem inB_iff {s : St} {k : Int} : inB s k = true ↔ 0 ≤ k ∧ k < s.ws.length := by simp [inB]
theorem was_in {s : St} {k : Int} (h : inB s k = true) : was s k = s.ws.getD k.toNat 0 := by simp [was, h]
theorem was_out {s : St} {k : Int} (h : inB s k = false) : was s k = 0 := by simp [was, h]
theorem upd_in {s : St} {k y : Int} (h : inB s k = true) : upd s k y = ⟨s.ws.set k.toNat y, s.t + 1, k⟩ := by simp [upd, h]
theorem upd_out {s : St} {k y : Int} (h : inB s k = false) : upd s k y = s := by simp [upd, h]
theorem upd_t (s : St) (k y : Int) : (upd s k y).t ≤ s.t + 1 := by
  unfold upd; split <;> simp
def u64s (ws : List Int) : Array Value := (ws.map (Value.int .u64)).toArray

theorem u64s_get (ws : List Int) (i : Nat) (h : i < ws.length) : (u64s ws)[i]? = some (.int .u64 (ws.getD i 0)) := by
  simp [u64s, List.getD, h]
theorem u64s_set (ws : List Int) (i : Nat) (y : Int) : (u64s ws).setIfInBounds i (.int .u64 y) = u64s (ws.set i y) := by
  simp [u64s, List.map_set]
/-- The arena at p, its words at r. -/
structure Ar (w : World) (p r : Nat) (s : St) : Prop where
  hp : w.heap[p]? = some (.cells #[.slice (some ⟨r, 0, none⟩) s.ws.length s.ws.length, .int .u64 s.t, .int .i64 s.l] 103 (0, 0))
  hr : w.heap[r]? = some (.cells (u64s s.ws) 49 (0, 0))

theorem Ar.ne {w : World} {p r : Nat} {s : St} (h : Ar w p r s) : p ≠ r := by
  intro e; subst e
  have := h.hp.symm.trans h.hr
  simp at this
theorem Ar.lt {w : World} {p r : Nat} {s : St} (h : Ar w p r s) : p < w.heap.size ∧ r < w.heap.size := ⟨lt_of_block h.hp, lt_of_block h.hr⟩
theorem Ar.keep {w w' : World} {p r : Nat} {s : St} {S : List Nat} (h : Ar w p r s) (k : Kp S w w') (hp : p ∉ S) (hr : r ∉ S) : Ar w' p r s := ⟨k.row hp h.hp, k.row hr h.hr⟩
theorem Ar.c0 {w : World} {p r : Nat} {s : St} (h : Ar w p r s) : w.cell? ⟨p, 0, none⟩ = some (.slice (some ⟨r, 0, none⟩) s.ws.length s.ws.length) := by rw [cell_of_row h.hp]; rfl
theorem Ar.c1 {w : World} {p r : Nat} {s : St} (h : Ar w p r s) : w.cell? ⟨p, 1, none⟩ = some (.int .u64 s.t) := by rw [cell_of_row h.hp]; rfl
theorem Ar.c2 {w : World} {p r : Nat} {s : St} (h : Ar w p r s) : w.cell? ⟨p, 2, none⟩ = some (.int .i64 s.l) := by rw [cell_of_row h.hp]; rfl
theorem Ar.f {w : World} {p r : Nat} {s : St} (h : Ar w p r s) (i : Nat) : w.frozen? ⟨p, i, none⟩ = false := free_of_row h.hp i
theorem Ar.cr {w : World} {p r : Nat} {s : St} (h : Ar w p r s) {i : Nat} (hi : i < s.ws.length) : w.cell? ⟨r, i, none⟩ = some (.int .u64 (s.ws.getD i 0)) := by rw [cell_of_row h.hr, u64s_get _ _ hi]
theorem Ar.fr {w : World} {p r : Nat} {s : St} (h : Ar w p r s) (i : Nat) : w.frozen? ⟨r, i, none⟩ = false := free_of_row h.hr i

/-- The world behind a touch that has counted, ahead of the word's store. -/
def tw (w : World) (p : Nat) (t : Nat) (k : Int) : World := (w.setCell ⟨p, 1, none⟩ (.int .u64 (t + 1 : Nat))).setCell ⟨p, 2, none⟩ (.int .i64 k)

theorem tw_kp (w : World) (p t : Nat) (k : Int) : Kp [p] w (tw w p t k) := ((Kp.refl [p] w).setCell (.inl (by simp)) _).setCell (.inl (by simp)) _
theorem Ar.tw {w : World} {p r : Nat} {s : St} (h : Ar w p r s) (k : Int) : Ar (tw w p s.t k) p r ⟨s.ws, s.t + 1, k⟩ := by
  refine ⟨?_, (tw_kp w p s.t k).row (by simpa using h.ne.symm) h.hr⟩
  have h1 := heap_setCell_same w p 1 _ _ (.int .u64 (s.t + 1 : Nat)) h.hp
  have h2 := heap_setCell_same _ p 2 _ _ (.int .i64 k) h1
  rw [Go.Proofs.Ytnbaiinhalplcaa.tw, h2]
  simp

/-- A store of a word. -/
theorem Ar.store {w : World} {p r : Nat} {s : St} (h : Ar w p r s) (i : Nat) (y : Int) : Ar (w.setCell ⟨r, i, none⟩ (.int .u64 y)) p r ⟨s.ws.set i y, s.t, s.l⟩ := by
  refine ⟨?_, ?_⟩
  · rw [heap_setCell_other _ _ _ _ (by simpa using h.ne), h.hp]; simp
  · rw [heap_setCell_same _ _ _ _ _ _ h.hr, u64s_set]

end Go.Proofs.Ytnbaiinhalplcaa

namespace Go.Proofs.Ytnbaiinhalplcaa
set_option linter.unusedVariables false
set_option linter.unusedSimpArgs false
open Go.RowKit

/-- The text's own panic: a place that there is not. -/
theorem touch_out (w : World) (p r : Nat) (s : St) (k : Int) (h : Ar w p r s) (hn : s.ws.length ≤ 4096) (hk : inB s k = false) :
    Calls Try.prog 61 #[.pointer (some ⟨p, 0, none⟩), .int .i64 k] w fun e w' => e = .panicked [{ v := .iface 125 (.int .i64 k), recovered := false }] ∧ w' = w := by
  have hc0 := h.c0
  have hk' : k < 0 ∨ (0 ≤ k ∧ (s.ws.length : Int) ≤ k) := by
    simp only [inB, Bool.and_eq_false_iff, decide_eq_false_iff_not] at hk; omega
  clear hk
  generalize s.ws.length = n at hc0 hn hk'
  rcases hk' with hk' | ⟨hk0, hk1⟩
  · go_enter Try.func61, Try.ntmps61
    go_wp2
    exact ⟨rfl, rfl, rfl⟩
  · go_enter Try.func61, Try.ntmps61
    go_wp2
    exact ⟨rfl, rfl, rfl⟩

theorem touch_in (w : World) (p r : Nat) (s : St) (k : Int) (h : Ar w p r s) (hn : s.ws.length ≤ 4096) (ht : s.t ≤ 1000000) (hk : inB s k = true) :
    Calls Try.prog 61 #[.pointer (some ⟨p, 0, none⟩), .int .i64 k] w fun e w' => e = .returned (.pointer (some ⟨r, k.toNat, none⟩)) ∧ w' = tw w p s.t k := by
  have hc0 := h.c0
  have hc1 := h.c1
  have hc2 := h.c2
  have hf := h.f
  obtain ⟨hk0, hk1⟩ := inB_iff.1 hk
  go_enter Try.func61, Try.ntmps61
  go_wp2
  go_ret
  exact ⟨rfl, by simp [tw]⟩

theorem catch_panicking (u : TypeId) (pv : Value) (older : List PanicEntry) (w : World) :
    CallsD Try.prog 60 #[] (.panicking ({ v := .iface u pv, recovered := false } :: older)) w fun e u' w' =>
      e = .returned (.tuple #[]) ∧ u' = .panicking ({ v := .iface u pv, recovered := true } :: older) ∧ w' = w := by
  refine callsD_of_wpS Try.func60 rfl fun c₀ cs hu => ?_
  apply wpS_region
  simp [wpOpsS, go_sem, recoverD, hu, Try.ntmps60, bodyPostS, results, Try.results60]

theorem catch_idle (w : World) :
    CallsD Try.prog 60 #[] .returning w fun e u' w' => e = .returned (.tuple #[]) ∧ u' = .returning ∧ w' = w := by
  refine callsD_of_wpS Try.func60 rfl fun c₀ cs hu => ?_
  apply wpS_region
  cases c₀
  simp_all [wpOpsS, go_sem, recoverD, Try.ntmps60, bodyPostS, results, Try.results60]

set_option maxRecDepth 100000 in
theorem func_nil (g : FuncId) (first cap : Array Value) (w : World) : (binOp .eql 90 (.func (.func g) first cap) .nilFunc).run Try.prog w = .ok (.bool false) w := rfl

/-- Update at a place that there is not: 0, nothing; f is not asked. -/
theorem upd_no (w : World) (p r : Nat) (s : St) (k : Int) (g : FuncId) (first cap : Array Value) (h : Ar w p r s) (hn : s.ws.length ≤ 4096) (hk : inB s k = false) :
    Calls Try.prog 43 #[.pointer (some ⟨p, 0, none⟩), .int .i64 k, .func (.func g) first cap] w fun e w' => e = .returned (.int .u64 0) ∧ w' = w := by
  have hmf : ∀ (fn : Fn) (first cap : Array Value) (w : World), (Instr.makeFunc fn first cap).run Try.prog w = .ok (.func fn first cap) w := fun _ _ _ _ => rfl
  have hfn := func_nil
  go_enter_defers Try.func43, Try.ntmps43
  go_wp2_with (go_at_call 61; refine (touch_out _ _ _ _ _ h hn hk).mono ?_; rintro e w1 ⟨rfl, rfl⟩)
  refine leaves_cons (f := 60) (args := #[]) (by simp) (by simp [go_sem]) ?_
  refine (catch_panicking _ _ [] _).mono ?_
  rintro e u' w'' ⟨rfl, rfl, rfl⟩
  simp [Leaves, settle, results, Try.results43, go_sem]

/-- Update at a place that there is: what it was; then it is what f says. The world behind f is W2, in which the word's cell stands. -/
theorem upd_yes (w : World) (p r : Nat) (s : St) (k : Int) (g : FuncId) (cap : Array Value) (y z : Int) (W2 : World) (h : Ar w p r s) (hn : s.ws.length ≤ 4096) (ht : s.t ≤ 1000000) (hk : inB s k = true)
    (hen : ∀ (x : Value) (w : World), (callFunc g (#[x] ++ cap)).run Try.prog w = .ok (.enter g (#[x] ++ cap)) w)
    (hcall : Calls Try.prog g (#[.int .u64 (s.ws.getD k.toNat 0)] ++ cap) (tw w p s.t k) fun e w' => e = .returned (.int .u64 y) ∧ w' = W2)
    (hc2 : W2.cell? ⟨r, k.toNat, none⟩ = some (.int .u64 z)) (hf2 : W2.frozen? ⟨r, k.toNat, none⟩ = false) :
    Calls Try.prog 43 #[.pointer (some ⟨p, 0, none⟩), .int .i64 k, .func (.func g) #[] cap] w fun e w' => e = .returned (.int .u64 (s.ws.getD k.toNat 0)) ∧ w' = W2.setCell ⟨r, k.toNat, none⟩ (.int .u64 y) := by
  have hmf : ∀ (fn : Fn) (first cap : Array Value) (w : World), (Instr.makeFunc fn first cap).run Try.prog w = .ok (.func fn first cap) w := fun _ _ _ _ => rfl
  have hfn := func_nil
  obtain ⟨hk0, hk1⟩ := inB_iff.1 hk
  have hk3 : k.toNat < s.ws.length := by omega
  have hcr := (h.tw k).cr hk3
  have hto := touch_in w p r s k h hn ht hk
  generalize s.ws.getD k.toNat 0 = x0 at hcall hcr ⊢
  generalize tw w p s.t k = w1 at hcall hcr hto
  go_enter_defers Try.func43, Try.ntmps43
  go_wp2_with (go_at_call 61; refine hto.mono ?_; rintro e w1 ⟨rfl, rfl⟩)
  refine hcall.mono ?_
  rintro e w2 ⟨rfl, rfl⟩
  go_wp2_with fail
  refine leaves_cons (f := 60) (args := #[]) (by simp) (by simp [go_sem]) ?_
  refine (catch_idle _).mono ?_
  rintro e u' w'' ⟨rfl, rfl, rfl⟩
  simp [Leaves, settle, results, Try.results43, go_sem]

/-- An arena that has just been made. -/
def fresh (n : Nat) : St := ⟨List.replicate n 0, 0, 0⟩

theorem made_u64s (n : Nat) : madeCells #[.int .u64 0] n = u64s (List.replicate n 0) := by
  apply Array.ext'
  rw [toList_madeCells_one]
  simp [u64s]

theorem make_u64s (n : Nat) (h2 : n ≤ 4096) (w : World) : (Instr.makeSlice 57 (.int .i64 (n : Int)) (.int .i64 (n : Int))).run Try.prog w = .ok (.slice (some ⟨w.heap.size, 0, none⟩) n n) (w.alloc (.cells (u64s (List.replicate n 0)) 49)) := by
  obtain ⟨i, hi, hz0, hz1, hz2⟩ := info_parts (P := Try.prog) (e := 49) (z := .int .u64 0) (size := 1) (bytes := 8) (by kernel_rfl)
  have := run_make (P := Try.prog) w 57 49 i (.int .u64 0) Try.underlying57 hi hz0 .i64 .i64 n n (by omega) (Int.le_refl _) (by rw [hz2]; omega) (by omega)
  rw [this, hz1]
  simp [Value.cells, made_u64s]

theorem new_good (w : World) (n : Nat) (h1 : 1 ≤ n) (h2 : n ≤ 4096) : Calls Try.prog 27 #[.int .i64 n] w fun e w' => e = .returned (.tuple #[.pointer (some ⟨w.heap.size + 1, 0, none⟩), .int .i64 0]) ∧ Ar w' (w.heap.size + 1) w.heap.size (fresh n) ∧ Kp [] w w' := by
  have hmk := make_u64s n h2
  go_enter Try.func27, Try.ntmps27
  go_wp2
  go_ret2
  refine ⟨rfl, ⟨?_, ?_⟩, ((Kp.refl _ _).alloc _).alloc _⟩
  · have := heap_alloc_new (w.alloc (Obj.cells (u64s (List.replicate n 0)) 49)) (Obj.cells #[Value.slice (some { block := w.heap.size, off := 0 }) n n, Value.int IntKind.u64 0, Value.int IntKind.i64 0] 103)
    rw [World.size_alloc] at this
    rw [this]
    simp [fresh]
  · rw [heap_alloc2_old]
    simp [fresh]

end Go.Proofs.Ytnbaiinhalplcaa

namespace Go.Proofs.Ytnbaiinhalplcaa
set_option linter.unusedVariables false
set_option linter.unusedSimpArgs false
set_option maxRecDepth 100000
open Go.RowKit

/-- Update by a closure that writes nothing. -/
theorem upd_pure (w : World) (p r : Nat) (s : St) (k : Int) (g : FuncId) (cap : Array Value) (y : Int) (h : Ar w p r s) (hn : s.ws.length ≤ 4096) (ht : s.t ≤ 1000000)
    (hen : ∀ (x : Value) (w : World), (callFunc g (#[x] ++ cap)).run Try.prog w = .ok (.enter g (#[x] ++ cap)) w)
    (hcall : inB s k = true → ∀ w', Kp [p] w w' → Calls Try.prog g (#[.int .u64 (was s k)] ++ cap) w' fun e w2 => e = .returned (.int .u64 y) ∧ w2 = w') :
    Calls Try.prog 43 #[.pointer (some ⟨p, 0, none⟩), .int .i64 k, .func (.func g) #[] cap] w fun e w' => e = .returned (.int .u64 (was s k)) ∧ Ar w' p r (upd s k y) ∧ Kp [p, r] w w' := by
  by_cases hk : inB s k = true
  · have h3 : k.toNat < s.ws.length := by have := inB_iff.1 hk; omega
    have hc := hcall hk (tw w p s.t k) (tw_kp w p s.t k)
    rw [was_in hk] at hc ⊢
    rw [upd_in hk]
    refine (upd_yes w p r s k g cap y _ _ h hn ht hk hen hc ((h.tw k).cr h3) ((h.tw k).fr _)).mono ?_
    rintro e w' ⟨rfl, rfl⟩
    exact ⟨rfl, (h.tw k).store _ _, ((tw_kp w p s.t k).mono (by simp)).setCell (.inl (by simp)) _⟩
  · have hk' : inB s k = false := by simpa using hk
    rw [was_out hk', upd_out hk']
    refine (upd_no w p r s k g #[] cap h hn hk').mono ?_
    rintro e w' ⟨rfl, rfl⟩
    exact ⟨rfl, h, Kp.refl _ _⟩

theorem f21 (x : Int) (w : World) : Calls Try.prog 44 #[.int .u64 x] w fun e w2 => e = .returned (.int .u64 x) ∧ w2 = w := by
  go_enter Try.func44, Try.ntmps44
  go_wp2
  go_ret
  exact ⟨rfl, rfl⟩

theorem f22 (x v : Int) (b : Nat) (w : World) (hc : w.cell? ⟨b, 0, none⟩ = some (.int .u64 v)) : Calls Try.prog 64 #[.int .u64 x, .pointer (some ⟨b, 0, none⟩)] w fun e w2 => e = .returned (.int .u64 v) ∧ w2 = w := by
  go_enter Try.func64, Try.ntmps64
  go_wp2
  go_ret
  exact ⟨rfl, rfl⟩

theorem read_any (w : World) (p r : Nat) (s : St) (k : Int) (h : Ar w p r s) (hn : s.ws.length ≤ 4096) (ht : s.t ≤ 1000000) :
    Calls Try.prog 14 #[.pointer (some ⟨p, 0, none⟩), .int .i64 k] w fun e w' => e = .returned (.int .u64 (was s k)) ∧ Ar w' p r (upd s k (was s k)) ∧ Kp [p, r] w w' := by
  have hu := upd_pure w p r s k 44 #[] (was s k) h hn ht (fun _ _ => rfl) (fun _ w' _ => f21 _ w')
  go_enter Try.func14, Try.ntmps14
  go_wp2_with fail
  refine hu.mono ?_
  rintro e w1 ⟨rfl, ha, hk⟩
  go_wp2
  go_ret
  exact ⟨rfl, ha, hk⟩

theorem write_any (w : World) (p r : Nat) (s : St) (k v : Int) (h : Ar w p r s) (hn : s.ws.length ≤ 4096) (ht : s.t ≤ 1000000) :
    Calls Try.prog 48 #[.pointer (some ⟨p, 0, none⟩), .int .i64 k, .int .u64 v] w fun e w' => e = .returned (.tuple #[]) ∧ Ar w' p r (upd s k v) ∧ Kp [p, r] w w' := by
  have hmf : ∀ (fn : Fn) (first cap : Array Value) (w : World), (Instr.makeFunc fn first cap).run Try.prog w = .ok (.func fn first cap) w := fun _ _ _ _ => rfl
  have hka := (Kp.refl [] w).alloc (.cells #[.int .u64 v] 49)
  have hb := heap_alloc_new w (.cells #[.int .u64 v] 49)
  have hpl := h.lt
  have hu := upd_pure (w.alloc (.cells #[.int .u64 v] 49)) p r s k 64 #[.pointer (some ⟨w.heap.size, 0, none⟩)] v (h.keep hka (by simp) (by simp)) hn ht (fun _ _ => rfl)
    (fun _ w' hk' => f22 _ v _ w' (by rw [cell_of_row (hk'.row (by simp; omega) hb)]; rfl))
  go_enter Try.func48, Try.ntmps48
  go_wp2_with fail
  refine hu.mono ?_
  rintro e w1 ⟨rfl, ha, hk⟩
  have hkk := (hka.mono (T := [p, r]) (by simp)).trans hk
  clear hka hb hk hu
  go_wp2
  go_end0
  exact ⟨rfl, ha, hkk⟩

end Go.Proofs.Ytnbaiinhalplcaa

namespace Go.Proofs.Ytnbaiinhalplcaa
set_option linter.unusedVariables false
set_option linter.unusedSimpArgs false
set_option maxRecDepth 100000
open Go.Conc
open Go.ConcN (upd upd_ne upd_same)

/-! Worlds in which only some blocks have turned -/
structure Ks (S : Nat → Prop) (w w' : World) : Prop where
  os : w'.os = w.os
  output : w'.output = w.output
  size : w.heap.size ≤ w'.heap.size
  block : ∀ k, k < w.heap.size → ¬ S k → w'.heap[k]? = w.heap[k]?
section
variable {S T : Nat → Prop} {w w' a b c : World}
theorem Ks.refl (S : Nat → Prop) (w : World) : Ks S w w := ⟨rfl, rfl, Nat.le_refl _, fun _ _ _ => rfl⟩
theorem Ks.trans (h : Ks S a b) (k : Ks S b c) : Ks S a c :=
  ⟨k.os.trans h.os, k.output.trans h.output, Nat.le_trans h.size k.size, fun i hi hn => (k.block i (Nat.lt_of_lt_of_le hi h.size) hn).trans (h.block i hi hn)⟩
theorem Ks.mono (h : Ks S a b) (hs : ∀ k, k < a.heap.size → S k → T k) : Ks T a b := ⟨h.os, h.output, h.size, fun k hk hn => h.block k hk fun z => hn (hs k hk z)⟩
/-- A step behind that turns what is old by T, or new. -/
theorem Ks.then (h : Ks S a b) (k : Ks T b c) (hT : ∀ i, i < a.heap.size → T i → S i) : Ks S a c :=
  ⟨k.os.trans h.os, k.output.trans h.output, Nat.le_trans h.size k.size, fun i hi hn => (k.block i (Nat.lt_of_lt_of_le hi h.size) fun z => hn (hT i hi z)).trans (h.block i hi hn)⟩
theorem Ks.at (h : Ks S a b) (d : Nat) : Ks S a (b.at d) := ⟨h.os, h.output, h.size, h.block⟩
theorem ks_alloc (S : Nat → Prop) (w : World) (o : Obj) : Ks S w (w.alloc o) := ⟨rfl, rfl, by show _ ≤ (w.heap.push o).size; simp, fun k hk _ => alloc_heap w o k hk⟩
theorem ks_setCell (w : World) (ad : Addr) (x : Value) : Ks (· = ad.block) w (w.setCell ad x) := ⟨rfl, rfl, by simp [World.setCell], fun k hk hn => by simp [World.setCell, Array.getElem?_modify, Ne.symm hn]⟩
theorem ks_setChan (w : World) (r cap : Nat) (buf : Array Value) (cl : Bool) (sn rc : Nat) (tm : Bool) : Ks (· = r) w (w.setChan r cap buf cl sn rc tm) :=
  ⟨rfl, rfl, by simp [World.setChan], fun k hk hn => heap_setChan_ne w _ _ _ _ _ _ (Ne.symm hn)⟩
theorem ks_of_kp {l : List Nat} (h : Kp l w w') : Ks (· ∈ l) w w' := ⟨h.os, h.output, h.size, fun k hk hn => h.block k hk hn⟩
theorem Ks.row (h : Ks S w w') {k : Nat} (hn : ¬ S k) {o : Obj} (ho : w.heap[k]? = some o) : w'.heap[k]? = some o := (h.block k (lt_of_block ho) hn).trans ho
end

/-! The twin -/
section
variable {pl : Nat → Option Place} {F : Nat → Option (Nat × Nat)} {w w' : World} {τ : Nat → Question → Nat} {D : Nat}
theorem Lies.same (L : Lies pl F w) (w' : World) {b : Nat} (hF : F b = none) (hp : poor w.heap[b]? = false) : (L.veil.world τ D w').heap[b]? = w'.heap[b]? := by
  rw [veil_heap]
  have h1 : L.veil.froz b = none := hF
  have h2 : L.veil.ch b = false := hp
  cases w'.heap[b]? with
  | none => rfl
  | some o => cases o <;> simp [Veil.obj, h1, h2]
theorem ks_of_twin (L : Lies pl F w) {S : Nat → Prop} (hok : VOK L.veil w') (hk : VKeep L.veil w w') {τ' : Nat → Question → Nat} (h : Ks S (L.veil.world τ 0 w) (L.veil.world τ' D w')) : Ks S w w' := by
  refine ⟨h.os, h.output, hk.size, fun b hb hn => ?_⟩
  have he := h.block b (by rw [veil_size]; exact hb) hn
  by_cases hc : L.veil.ch b = true
  · exact hk.chs b hc
  have hc' : L.veil.ch b = false := by simpa using hc
  rw [veil_heap, veil_heap] at he
  cases hF : L.veil.froz b with
  | some r =>
    obtain ⟨c, t, h1⟩ := L.ok.frz b r hF
    obtain ⟨c', t', h2⟩ := hok.frz b r hF
    rw [h1, h2] at he ⊢
    simp [Veil.obj, hF] at he
    rw [he.1, he.2]
  | none =>
    have hid : ∀ o, L.veil.obj b o = o := fun o => by cases o <;> simp [Veil.obj, hF, hc']
    cases h1 : w.heap[b]? <;> cases h2 : w'.heap[b]? <;> rw [h1, h2] at he <;> simp [hid] at he ⊢
    exact he
end

/-- All words are a uint64's. -/
def Bnd (s : St) : Prop := ∀ x ∈ s.ws, 0 ≤ x ∧ x < 18446744073709551616
theorem Bnd.was {s : St} (h : Bnd s) (k : Int) : 0 ≤ Go.Proofs.Ytnbaiinhalplcaa.was s k ∧ Go.Proofs.Ytnbaiinhalplcaa.was s k < 18446744073709551616 := by
  by_cases hk : inB s k = true
  · have h3 : k.toNat < s.ws.length := by have := inB_iff.1 hk; omega
    rw [was_in hk]
    have := h (s.ws[k.toNat]) (List.getElem_mem h3)
    simpa [List.getD, h3] using this
  · rw [was_out (by simpa using hk)]; omega
theorem Bnd.upd {s : St} (h : Bnd s) (k y : Int) (h0 : 0 ≤ y) (h1 : y < 18446744073709551616) : Bnd (Go.Proofs.Ytnbaiinhalplcaa.upd s k y) := by
  intro x hx
  by_cases hk : inB s k = true
  · rw [upd_in hk] at hx
    rcases List.mem_or_eq_of_mem_set hx with z | rfl
    · exact h x z
    · exact ⟨h0, h1⟩
  · rw [upd_out (by simpa using hk)] at hx; exact h x hx

/-! Whose a block is -/
inductive Col where
  | main | arena | shared | ag (j : Nat) | sys (j : Nat)
  deriving DecidableEq
def Col.isSys : Col → Bool
  | .sys _ => true
  | _ => false
/-- Where all lies: the shared blocks, the arena's two; what who waits looks at are blocks of the system alone. -/
structure Lay (SB : Nat → Prop) (pA rA : Nat) (col : Nat → Col) (F : Nat → Option (Nat × Nat)) (w : World) : Prop where
  free : ∀ b, (col b).isSys = false → F b = none
  above : ∀ b, w.heap.size ≤ b → col b = .main
  sb : ∀ b, SB b → col b = .shared
  ar : col pA = .arena ∧ col rA = .arena

/-- What is held of blocks alone, and these are not poor. -/
structure Priv (own : Nat → Prop) (A : World → Prop) : Prop where
  st : ∀ w w', A w → (∀ b, own b → w'.heap[b]? = w.heap[b]?) → A w'
  np : ∀ w b, A w → own b → poor w.heap[b]? = false
  lt : ∀ w b, A w → own b → b < w.heap.size

structure Ag where
  j : Nat
  p : Nat
  cT : Nat
  cU : Nat
  cS : Nat
  m : Nat

/-- What an agent does: it is at its end; or it touches a word, which becomes so, and then does what hangs on what it was. 'c': what the shared state becomes behind the touch; 'hl': what it becomes where it is stopped ahead of it. -/
inductive Tree (G : Type) where
  | ret : Tree G
  | node (k : Int) (φ : Int → Int) (c : Int → G → G) (nx : Int → G → Tree G) (hl : G → G) (pre : G → Prop) : Tree G

def StAt (a : Ag) (mv nx : Value) (bz ov : Bool) (w : World) : Prop := w.heap[a.p]? = some (.cells #[mv, .chan (some a.cT), .chan (some a.cU), .chan (some a.cS), nx, .bool bz, .bool ov] 83 (0, 0))
def MeAt (a : Ag) (runs : Bool) (left : Int) (w : World) : Prop := w.heap[a.m]? = some (.cells #[.pointer (some ⟨a.p, 0, none⟩), .bool runs, .int .i64 left] 109 (0, 0))
def Open (c : Nat) (w : World) : Prop := ∃ k, w.heap[c]? = some (.chan 0 #[] false k k false)
def Shut' (c : Nat) (w : World) : Prop := ∃ k, w.heap[c]? = some (.chan 0 #[] true k k false)

/-- The agent acts, who steps waits for it. -/
structure Acts (SB : Nat → Prop) (pA rA : Nat) (a : Ag) (mv : Value) (home : Goroutine → Prop) (runs ov : Bool) (pl : Nat → Option Place) (F : Nat → Option (Nat × Nat)) (col : Nat → Col) (w : World) : Prop where
  jpos : 0 < a.j
  lies : Lies pl F w
  lay : Lay SB pA rA col F w
  seat : ∃ more, pl 0 = some (waitSeat a.p a.cT more home)
  absent : pl a.j = none
  alone : ∀ i s, pl i = some s → ¬ s.has a.cU ∧ ¬ s.has a.cS
  st : ∃ nx bz, StAt a mv nx bz ov w
  me : MeAt a runs 0 w
  fm : F a.m = some (0, 1)
  fp : F a.p = some (1, 4)
  cm : col a.m = .sys a.j
  cp : col a.p = .sys a.j
  ccT : col a.cT = .sys a.j
  ccU : col a.cU = .sys a.j
  ccS : col a.cS = .sys a.j
  dis : a.cT ≠ a.cU ∧ a.cT ≠ a.cS ∧ a.cU ≠ a.cS
  oT : Open a.cT w
  oU : Open a.cU w
  oS : ov = false → Open a.cS w

/-- What an agent may do to the world by itself. -/
structure Moves (S : Nat → Prop) (j : Nat) (F : Nat → Option (Nat × Nat)) (col : Nat → Col) (w : World) (F' : Nat → Option (Nat × Nat)) (col' : Nat → Col) (w' : World) : Prop where
  ks : Ks S w w'
  colo : ∀ b, b < w.heap.size → col' b = col b
  coln : ∀ b, w.heap.size ≤ b → b < w'.heap.size → col' b = .ag j ∨ col' b = .sys j ∨ col' b = .shared
  fo : ∀ b, b < w.heap.size → F' b = F b

/-- What may have turned while the agent acted. -/
def mine (a : Ag) (col : Nat → Col) (b : Nat) : Prop := col b = .ag a.j ∨ (col b = .sys a.j ∧ b ≠ a.p) ∨ col b = .shared

/-- Who stepped acts again. -/
structure After (SB : Nat → Prop) (pA rA : Nat) (a : Ag) (pl : Nat → Option Place) (F : Nat → Option (Nat × Nat)) (col : Nat → Col) (w : World) (pl' : Nat → Option Place) (F' : Nat → Option (Nat × Nat)) (col' : Nat → Col) (w' : World) : Prop where
  mv : Moves (mine a col) a.j F col w F' col' w'
  pls : ∀ i, i ≠ 0 → i ≠ a.j → pl' i = pl i
  pl0 : pl' 0 = none
  lies : Lies pl' F' w'
  lay : Lay SB pA rA col' F' w'

theorem Lay.ltS {SB : Nat → Prop} {pA rA : Nat} {col : Nat → Col} {F : Nat → Option (Nat × Nat)} {w : World} (L : Lay SB pA rA col F w) {b : Nat} (h : col b = .shared) : b < w.heap.size := by
  rcases Nat.lt_or_ge b w.heap.size with z | z
  · exact z
  · rw [L.above b z] at h; cases h
/-- What is shared is told of shared blocks alone. -/
structure Shar {G : Type} (Sh : (Nat → Col) → World → G → Prop) : Prop where
  st : ∀ g col col' w w', Sh col w g → (∀ b, col b = .shared → w'.heap[b]? = w.heap[b]?) → (∀ b, col b = .shared → col' b = .shared) → Sh col' w' g
theorem Shar.grow {G : Type} {Sh : (Nat → Col) → World → G → Prop} (h : Shar Sh) {SB : Nat → Prop} {pA rA j : Nat} {col : Nat → Col} {F : Nat → Option (Nat × Nat)} {w w' : World} {g : G} (L : Lay SB pA rA col F w) (hs : Sh col w g) (k : Ks (fun _ => False) w w') : Sh (fun b => if w.heap.size ≤ b ∧ b < w'.heap.size then .ag j else col b) w' g :=
  h.st _ _ _ _ _ hs (fun b hb => k.block b (L.ltS hb) fun z => z) fun b hb => by rw [if_neg (by have := L.ltS hb; omega)]; exact hb

section
variable {G : Type} (Post : Value → World → Prop) (Sh : (Nat → Col) → World → G → Prop) (SB : Nat → Prop) (pA rA : Nat)

/-- Who steps is ready for what the agent comes to. -/
def KontW (T : Tree G) (Po : (Nat → Option Place) → (Nat → Option (Nat × Nat)) → (Nat → Col) → World → Value → Prop) (a : Ag) (home : Goroutine → Prop) (n : Nat) (pl : Nat → Option Place) (F : Nat → Option (Nat × Nat)) (col : Nat → Col) (w : World) (g : G) : Prop :=
  match T with
  | .ret => ∀ pl' F' col' w' gm, home gm → After SB pA rA a pl F col w pl' F' col' w' → pl' a.j = none → Shut' a.cT w' → Sh col' w' g → Win Try.prog Post pl' n 0 (Go.Conc.served gm (.tuple #[.nilFunc, .bool false])) w'
  | .node .. => ∀ pl' F' col' w' gm t, home gm → After SB pA rA a pl F col w pl' F' col' w' → Open a.cT w' → Open a.cU w' → Open a.cS w' → Po pl' F' col' w' t → Sh col' w' g → Win Try.prog Post pl' n 0 (Go.Conc.served gm (.tuple #[t, .bool true])) w'

/-- The agent waits for its turn. -/
def Poised (a : Ag) (mv : Value) : Tree G → (Nat → Option Place) → (Nat → Option (Nat × Nat)) → (Nat → Col) → World → Value → Prop
  | .ret => fun _ _ _ _ _ => False
  | .node k φ c nx hl pre => fun pl F col w t => ∃ (b3 : Nat) (homeJ : Goroutine → Prop) (own : Nat → Prop) (A : World → Prop) (B : Int → (Nat → Prop) → World → Prop) (f : FuncId) (cap : Array Value),
      pl a.j = some (turnSeat a.p a.m b3 a.cU a.cS homeJ) ∧ (∀ b, own b → col b = .ag a.j) ∧ Priv own A ∧ (∀ v o, Priv o (B v o)) ∧ A w ∧ MeAt a false 0 w ∧
      w.heap[b3]? = some (.cells #[.pointer (some ⟨a.m, 0, none⟩)] 107 (0, 0)) ∧ col b3 = .sys a.j ∧ F a.m = some (0, 1) ∧ F b3 = some (0, 1) ∧ (t = .func (.func f) #[] cap ∧ ∃ fn : Func, Try.prog.funcs[f]? = some fn ∧ fn.body.isNone = false) ∧
      (∀ w' s, A w' → Ar w' pA rA s → s.ws.length ≤ 4096 → s.t ≤ 4095 → Bnd s → Calls Try.prog f (#[mv] ++ cap) w' fun e w2 => e = .returned (.tuple #[]) ∧ Ar w2 pA rA (Go.Proofs.Ytnbaiinhalplcaa.upd s k (φ (was s k))) ∧
        (∃ o, (∀ b, o b → own b ∨ (w'.heap.size ≤ b ∧ b < w2.heap.size)) ∧ B (was s k) o w2) ∧ Ks (fun b => b = pA ∨ b = rA ∨ own b) w' w2) ∧
      (∀ v o home n pl' F' col' w' g gj, homeJ gj → Acts SB pA rA a mv home false false pl' F' col' w' → (∀ b, o b → col' b = .ag a.j) → B v o w' → w'.heap[b3]? = some (.cells #[.pointer (some ⟨a.m, 0, none⟩)] 107 (0, 0)) → Sh col' w' g → pre g →
        KontW Post Sh SB pA rA (nx v g) (fun pl F col w t => Poised a mv (nx v g) pl F col w t) a home n pl' F' col' w' (c v g) → Win Try.prog Post pl' n a.j (Go.Conc.served gj (.tuple #[.int .i64 0, .bool true, .nilIface, .agg #[]])) w') ∧
      (∀ home n pl' F' col' w' g gj, homeJ gj → Acts SB pA rA a mv home false true pl' F' col' w' → (∀ b, own b → col' b = .ag a.j) → A w' → w'.heap[b3]? = some (.cells #[.pointer (some ⟨a.m, 0, none⟩)] 107 (0, 0)) → Sh col' w' g → pre g →
        KontW Post Sh SB pA rA (.ret : Tree G) (fun _ _ _ _ _ => False) a home n pl' F' col' w' (hl g) → Win Try.prog Post pl' n a.j (Go.Conc.served gj (.tuple #[.int .i64 1, .bool false, .nilIface, .agg #[]])) w')

/-- Who steps is ready. -/
def Kont (a : Ag) (mv : Value) (home : Goroutine → Prop) (n : Nat) (T : Tree G) (pl : Nat → Option Place) (F : Nat → Option (Nat × Nat)) (col : Nat → Col) (w : World) (g : G) : Prop :=
  KontW Post Sh SB pA rA T (fun pl F col w t => Poised Post Sh SB pA rA a mv T pl F col w t) a home n pl F col w g

/-- How the agent stands between two steps. -/
def Stands (a : Ag) (mv : Value) (T : Tree G) (pl : Nat → Option Place) (F : Nat → Option (Nat × Nat)) (col : Nat → Col) (w : World) : Prop :=
  match T with
  | .ret => pl a.j = none ∧ StAt a mv .nilFunc false true w
  | .node .. => ∃ t, StAt a mv t false false w ∧ Open a.cT w ∧ Open a.cU w ∧ Open a.cS w ∧ Poised Post Sh SB pA rA a mv T pl F col w t
end

end Go.Proofs.Ytnbaiinhalplcaa

namespace Go.Proofs.Ytnbaiinhalplcaa
set_option linter.unusedVariables false
set_option linter.unusedSimpArgs false
set_option maxRecDepth 100000
open Go.Conc
open Go.ConcN (upd upd_ne upd_same)

section
variable {G : Type} {Post : Value → World → Prop} {Sh : (Nat → Col) → World → G → Prop} {SB : Nat → Prop} {pA rA : Nat} {a : Ag} {mv : Value} {home : Goroutine → Prop} {n : Nat} {T : Tree G} {runs ov : Bool}
variable {pl pl' : Nat → Option Place} {F F' F1 : Nat → Option (Nat × Nat)} {col col' col1 : Nat → Col} {w w' w1 : World} {g : G} {S : Nat → Prop}

theorem Moves.pre (h : Moves (mine a col) a.j F col w F1 col1 w1) (k : Moves (mine a col1) a.j F1 col1 w1 F' col' w') : Moves (mine a col) a.j F col w F' col' w' := by
  refine ⟨h.ks.then k.ks fun i hi hm => ?_, fun b hb => (k.colo b (Nat.lt_of_lt_of_le hb h.ks.size)).trans (h.colo b hb), fun b h1 h2 => ?_, fun b hb => (k.fo b (Nat.lt_of_lt_of_le hb h.ks.size)).trans (h.fo b hb)⟩
  · unfold mine at hm ⊢
    rw [h.colo i hi] at hm; exact hm
  · by_cases hb : b < w1.heap.size
    · rw [k.colo b hb]; exact h.coln b h1 hb
    · exact k.coln b (by omega) h2
theorem Moves.mono {T : Nat → Prop} {j : Nat} (h : Moves S j F col w F1 col1 w1) (hs : ∀ k, k < w.heap.size → S k → T k) : Moves T j F col w F1 col1 w1 := ⟨h.ks.mono hs, h.colo, h.coln, h.fo⟩

theorem Kont.moves (h : Moves (mine a col) a.j F col w F1 col1 w1) (K : Kont Post Sh SB pA rA a mv home n T pl F col w g) : Kont Post Sh SB pA rA a mv home n T pl F1 col1 w1 g := by
  unfold Kont KontW at *
  cases T with
  | ret => exact fun pl' F' col' w' gm hg hA => K pl' F' col' w' gm hg ⟨h.pre hA.mv, hA.pls, hA.pl0, hA.lies, hA.lay⟩
  | node k φ c nx hl pre => exact fun pl' F' col' w' gm t hg hA => K pl' F' col' w' gm t hg ⟨h.pre hA.mv, hA.pls, hA.pl0, hA.lies, hA.lay⟩

/-- A move that makes no system's block and turns none. -/
theorem moves_plain {j : Nat} (h : Ks S w w1) (hS : ∀ b, b < w.heap.size → S b → (col b).isSys = false) : Moves S j F col w F (fun b => if w.heap.size ≤ b ∧ b < w1.heap.size then .ag j else col b) w1 := by
  refine ⟨h, fun b hb => ?_, fun b h1 h2 => ?_, fun _ _ => rfl⟩
  · rw [if_neg (by omega)]
  · rw [if_pos ⟨h1, h2⟩]; exact .inl rfl
theorem Lay.plain {j : Nat} (h : Lay SB pA rA col F w) (k : Ks S w w1) : Lay SB pA rA (fun b => if w.heap.size ≤ b ∧ b < w1.heap.size then .ag j else col b) F w1 := by
  have hz := k.size
  have hlow : ∀ b, col b ≠ .main → ¬ (w.heap.size ≤ b ∧ b < w1.heap.size) := fun b hb hx => hb (h.above b hx.1)
  refine ⟨fun b hb => ?_, fun b hb => ?_, fun b hb => ?_, ?_, ?_⟩
  · by_cases hc : w.heap.size ≤ b ∧ b < w1.heap.size
    · exact h.free b (by rw [h.above b hc.1]; rfl)
    · rw [if_neg hc] at hb; exact h.free b hb
  · rw [if_neg (by omega)]; exact h.above b (by omega)
  · rw [if_neg (hlow b (by rw [h.sb b hb]; simp))]; exact h.sb b hb
  · rw [if_neg (hlow _ (by rw [h.ar.1]; simp))]; exact h.ar.1
  · rw [if_neg (hlow _ (by rw [h.ar.2]; simp))]; exact h.ar.2
theorem Open.keep {c : Nat} (h : Open c w) (k : Ks S w w1) (hn : ¬ S c) : Open c w1 := by
  obtain ⟨x, hx⟩ := h
  exact ⟨x, k.row hn hx⟩
/-- What the agent does by itself to blocks of its own, to shared ones, or by making new ones. -/
theorem Acts.plain (h : Acts SB pA rA a mv home runs ov pl F col w) (k : Ks S w w1) (hL : Lies pl F w1) (hS : ∀ b, S b → col b = .ag a.j ∨ col b = .shared) :
    Acts SB pA rA a mv home runs ov pl F (fun b => if w.heap.size ≤ b ∧ b < w1.heap.size then .ag a.j else col b) w1 := by
  have hsys : ∀ b, col b = .sys a.j → ¬ S b := fun b hb hx => by rcases hS b hx with z | z <;> rw [hb] at z <;> cases z
  have hlow : ∀ b, col b = .sys a.j → ¬ (w.heap.size ≤ b ∧ b < w1.heap.size) := fun b hb hx => by rw [h.lay.above b hx.1] at hb; cases hb
  obtain ⟨nx, bz, hst⟩ := h.st
  exact ⟨h.jpos, hL, h.lay.plain k, h.seat, h.absent, h.alone, ⟨nx, bz, k.row (hsys _ h.cp) hst⟩, k.row (hsys _ h.cm) h.me, h.fm, h.fp, by show (if _ then _ else _) = _; rw [if_neg (hlow _ h.cm)]; exact h.cm, by show (if _ then _ else _) = _; rw [if_neg (hlow _ h.cp)]; exact h.cp, by show (if _ then _ else _) = _; rw [if_neg (hlow _ h.ccT)]; exact h.ccT, by show (if _ then _ else _) = _; rw [if_neg (hlow _ h.ccU)]; exact h.ccU, by show (if _ then _ else _) = _; rw [if_neg (hlow _ h.ccS)]; exact h.ccS, h.dis,
    h.oT.keep k (hsys _ h.ccT), h.oU.keep k (hsys _ h.ccU), fun z => (h.oS z).keep k (hsys _ h.ccS)⟩
end
end Go.Proofs.Ytnbaiinhalplcaa

namespace Go.Proofs.Ytnbaiinhalplcaa
set_option linter.unusedVariables false
set_option linter.unusedSimpArgs false
set_option maxRecDepth 100000
open Go.Conc
open Go.ConcN (upd upd_ne upd_same)

section
variable {G : Type} {Post : Value → World → Prop} {Sh : (Nat → Col) → World → G → Prop} {SB : Nat → Prop} {pA rA : Nat} {a : Ag} {mv : Value} {home : Goroutine → Prop} {n : Nat} {T : Tree G} {runs ov : Bool}
variable {pl pl' : Nat → Option Place} {F F' F1 : Nat → Option (Nat × Nat)} {col col' col1 : Nat → Col} {w w' w1 : World} {g : G} {S : Nat → Prop}

/-- What one that waits at its turn can be told of its memory. -/
theorem Acts.free1 (h : Acts SB pA rA a mv home runs ov pl F col w) (o : Nat) (ho : 0 < o) : Free pl ⟨a.m, o, none⟩ := by
  refine ⟨fun i s v hi hs => ?_, fun i s c hi hc e => ?_⟩
  · obtain ⟨lo, hi', h1, h2, h3⟩ := h.lies.still i s _ v hi hs
    simp only at h1 h2 h3
    rw [h.fm] at h1
    cases h1
    omega
  · obtain ⟨_, _, _, _, _, _, hh⟩ := h.lies.chans i s c hi hc
    have hm := h.me
    unfold MeAt at hm
    simp only at e
    rw [← e, hh] at hm
    cases hm
theorem Acts.pm (h : Acts SB pA rA a mv home runs ov pl F col w) : a.p ≠ a.m := by
  intro e
  obtain ⟨nx, bz, hst⟩ := h.st
  have hm := h.me
  unfold MeAt at hm
  unfold StAt at hst
  rw [← e, hst] at hm
  simp at hm
theorem Acts.pT (h : Acts SB pA rA a mv home runs ov pl F col w) : a.cT ≠ a.p ∧ a.cT ≠ a.m := by
  obtain ⟨nx, bz, hst⟩ := h.st
  obtain ⟨k, hk⟩ := h.oT
  have hm := h.me
  unfold MeAt at hm
  unfold StAt at hst
  exact ⟨fun e => (by rw [← e, hk] at hst; cases hst), fun e => (by rw [← e, hk] at hm; cases hm)⟩

/-- The memory runs, or does not. -/
theorem Acts.run {r : Bool} (h : Acts SB pA rA a mv home runs ov pl F col w) : Acts SB pA rA a mv home r ov pl F col (w.setCell ⟨a.m, 1, none⟩ (.bool r)) ∧ Moves (mine a col) a.j F col w F col (w.setCell ⟨a.m, 1, none⟩ (.bool r)) := by
  have k := ks_setCell w ⟨a.m, 1, none⟩ (.bool r)
  have hne : ∀ {b : Nat}, b ≠ a.m → ¬ (b = (⟨a.m, 1, none⟩ : Addr).block) := fun hb => hb
  have hz : (w.setCell ⟨a.m, 1, none⟩ (.bool r)).heap.size = w.heap.size := by simp [World.setCell]
  obtain ⟨nx, bz, hst⟩ := h.st
  have hmU : a.cU ≠ a.m := fun e => by obtain ⟨k, hk⟩ := h.oU; have hm := h.me; unfold MeAt at hm; rw [← e, hk] at hm; cases hm
  have hmS : ov = false → a.cS ≠ a.m := fun z e => by obtain ⟨k, hk⟩ := h.oS z; have hm := h.me; unfold MeAt at hm; rw [← e, hk] at hm; cases hm
  refine ⟨⟨h.jpos, h.lies.setCell _ _, ⟨h.lay.free, fun b hb => h.lay.above b (by rw [hz] at hb; exact hb), h.lay.sb, h.lay.ar⟩, h.seat, h.absent, h.alone, ⟨nx, bz, k.row (hne h.pm) hst⟩, ?_, h.fm, h.fp, h.cm, h.cp, h.ccT, h.ccU, h.ccS, h.dis, h.oT.keep k (hne h.pT.2), h.oU.keep k (hne hmU), fun z => (h.oS z).keep k (hne (hmS z))⟩, ⟨k.mono fun b hb e => ?_, fun _ _ => rfl, fun b h1 h2 => by omega, fun _ _ => rfl⟩⟩
  · have := heap_setCell_same w a.m 1 _ _ (.bool r) h.me
    unfold MeAt
    rw [this]
    simp
  · right; left
    have e' : b = a.m := e
    subst e'
    exact ⟨h.cm, h.pm.symm⟩

theorem turnSeat_has {p m b3 cU cS c : Nat} {home : Goroutine → Prop} (h : (turnSeat p m b3 cU cS home).has c) : c = cU ∨ c = cS := by
  obtain ⟨k, z, hk⟩ := h
  simp only [turnSeat] at hk
  rcases k with _ | _ | k
  · simp [rcase] at hk; exact .inl hk.1.symm
  · simp [rcase] at hk; exact .inr hk.1.symm
  · simp at hk
theorem turnSeat_wf {p m b3 cU cS : Nat} {home : Goroutine → Prop} (h : cU ≠ cS) : (turnSeat p m b3 cU cS home).Wf := by
  refine ⟨fun cc hcc => ?_, fun k k' c z z' h1 h2 => ?_⟩
  · simp only [turnSeat, List.mem_toArray, List.mem_cons, List.not_mem_nil, or_false] at hcc
    rcases hcc with rfl | rfl <;> exact ⟨_, _, rfl⟩
  · simp only [turnSeat] at h1 h2
    rcases k with _ | _ | k <;> rcases k' with _ | _ | k' <;> simp [rcase] at h1 h2
    · rfl
    · exact absurd (h1.1.trans h2.1.symm) h
    · exact absurd (h2.1.trans h1.1.symm) h
    · rfl

theorem handed_heap (w : World) (m b : Nat) (hb : b < w.heap.size) (hm : b ≠ m) : (handed w m).heap[b]? = w.heap[b]? := by
  unfold handed
  rw [(ks_setCell _ _ _).block b (by show _ < (w.heap.push _).size; simp; omega) hm]
  exact alloc_heap w _ b hb

set_option maxHeartbeats 1000000 in
/-- THE TOUCH IS HANDED OVER. -/
theorem park (hSh : Shar Sh) {k : Int} {φ : Int → Int} {c : Int → G → G} {nx : Int → G → Tree G} {hl : G → G} {pre : G → Prop} {c₀ : Frame} {cs : List Frame} {f : FuncId} {cap : Array Value} {own : Nat → Prop} {A : World → Prop} {B : Int → (Nat → Prop) → World → Prop}
    (hA : Acts SB pA rA a mv home true false pl F col w) (hown : ∀ b, own b → col b = .ag a.j) (hP : Priv own A) (hB : ∀ v o, Priv o (B v o)) (hAw : A w) (hs : Sh col w g)
    (hfnn : ∃ fn : Func, Try.prog.funcs[f]? = some fn ∧ fn.body.isNone = false) (htouch : ∀ w' s, A w' → Ar w' pA rA s → s.ws.length ≤ 4096 → s.t ≤ 4095 → Bnd s → Calls Try.prog f (#[mv] ++ cap) w' fun e w2 => e = .returned (.tuple #[]) ∧ Ar w2 pA rA (Go.Proofs.Ytnbaiinhalplcaa.upd s k (φ (was s k))) ∧
        (∃ o, (∀ b, o b → own b ∨ (w'.heap.size ≤ b ∧ b < w2.heap.size)) ∧ B (was s k) o w2) ∧ Ks (fun b => b = pA ∨ b = rA ∨ own b) w' w2)
    (hres : ∀ v o home n pl' F' col' w' g, Acts SB pA rA a mv home true false pl' F' col' w' → (∀ b, o b → col' b = .ag a.j) → B v o w' → Sh col' w' g → pre g → Kont Post Sh SB pA rA a mv home n (nx v g) pl' F' col' w' (c v g) → Win Try.prog Post pl' n a.j (gor (c₀.finish (.tuple #[])) cs) w')
    (hstop : ∀ home n pl' F' col' w' g, Acts SB pA rA a mv home true true pl' F' col' w' → (∀ b, own b → col' b = .ag a.j) → A w' → Sh col' w' g → pre g → Kont Post Sh SB pA rA a mv home n .ret pl' F' col' w' (hl g) → Win Try.prog Post pl' n a.j (gor (c₀.finish (.tuple #[])) cs) w')
    (K : Kont Post Sh SB pA rA a mv home n (.node k φ c nx hl pre) pl F col w g) :
    Win Try.prog Post pl n a.j (gor (Frame.enter Try.prog 105 #[.pointer (some ⟨a.m, 0, none⟩), .func (.func f) #[] cap] .normal) (c₀ :: cs)) w := by
  obtain ⟨more, hseat⟩ := hA.seat
  obtain ⟨nxv, bz, hst⟩ := hA.st
  have hme := hA.me
  unfold MeAt at hme
  unfold StAt at hst
  have hpm := hA.pm
  have hpT := hA.pT
  have hmlt := lt_of_block hme
  have hplt := lt_of_block hst
  obtain ⟨kT, hT⟩ := hA.oT
  obtain ⟨kU, hU⟩ := hA.oU
  obtain ⟨kS, hS⟩ := hA.oS rfl
  have hmU : a.cU ≠ a.m := fun e => by rw [← e, hU] at hme; cases hme
  have hmS : a.cS ≠ a.m := fun e => by rw [← e, hS] at hme; cases hme
  have hU' : (handed w a.m).heap[a.cU]? = some (.chan 0 #[] false kU kU false) := (handed_heap w a.m _ (lt_of_block hU) hmU).trans hU
  have hS' : (handed w a.m).heap[a.cS]? = some (.chan 0 #[] false kS kS false) := (handed_heap w a.m _ (lt_of_block hS) hmS).trans hS
  have hp' : (handed w a.m).heap[a.p]? = _ := (handed_heap w a.m _ hplt hpm).trans hst
  have hm' : (handed w a.m).heap[a.m]? = some (.cells #[.pointer (some ⟨a.p, 0, none⟩), .bool false, .int .i64 0] 109 (0, 0)) := by
    have := heap_setCell_same (w.alloc (.cells #[.pointer (some ⟨a.m, 0, none⟩)] 107)) a.m 1 _ _ (.bool false) ((alloc_heap w _ a.m hmlt).trans hme)
    unfold handed
    rw [this]
    simp
  have hb3 : (handed w a.m).heap[w.heap.size]? = some (.cells #[.pointer (some ⟨a.m, 0, none⟩)] 107 (0, 0)) := by
    unfold handed
    rw [(ks_setCell _ _ _).block w.heap.size (by show _ < (w.heap.push _).size; simp) (by show ¬ w.heap.size = a.m; omega)]
    exact alloc_new w _
  have hz3 : (handed w a.m).heap.size = w.heap.size + 1 := by
    unfold handed
    rw [show ∀ (W : World) ad x, (W.setCell ad x).heap.size = W.heap.size from fun W ad x => by simp [World.setCell]]
    exact Array.size_push _
  have hcol3 : col w.heap.size = .main := hA.lay.above _ (Nat.le_refl _)
  refine wait_hands hA.lies (cell_of_row hme 0) (cell_of_row hme 1) (free_of_row hme 1) (cell_of_row hst 1) (cell_of_row hst 2) (cell_of_row hst 3) (hA.free1 1 (by omega)) hpm hseat ?_ ?_
  · refine ⟨turnSeat_wf hA.dis.2.2, fun c hc => ?_, fun i s' c hi hc hc' => ?_, fun ad v hv => ?_, 60, way_turn _ _ _ _ _ _ _ _ _⟩
    · rcases turnSeat_has hc with rfl | rfl
      · exact ⟨kU, hU'⟩
      · exact ⟨kS, hS'⟩
    · rcases turnSeat_has hc' with rfl | rfl
      · exact (hA.alone i s' hi).1 hc
      · exact (hA.alone i s' hi).2 hc
    · rcases hv with ⟨rfl, rfl⟩ | ⟨rfl, rfl⟩ | ⟨rfl, rfl⟩ | ⟨rfl, rfl⟩
      · rw [cell_of_row hp']; rfl
      · rw [cell_of_row hp']; rfl
      · rw [cell_of_row hm']; rfl
      · rw [cell_of_row hb3]; rfl
  · intro g₂ d x hg₂ hTx
    have hcT : ((handed w a.m).at d).heap[a.cT]? = some (.chan 0 #[] false x x false) := hTx
    have hks : Ks (fun b => b = a.m ∨ b = a.cT) w (((handed w a.m).at d).setChan a.cT 0 #[] false (x + 1) (x + 1) false) :=
      ((((ks_alloc (fun b => b = a.m ∨ b = a.cT) w _).then (ks_setCell _ ⟨a.m, 1, none⟩ _) (fun i _ e => .inl e)).at d).then (ks_setChan _ a.cT 0 #[] false (x + 1) (x + 1) false) (fun i _ e => .inr e))
    have hW : (((handed w a.m).at d).setChan a.cT 0 #[] false (x + 1) (x + 1) false).heap.size = w.heap.size + 1 := by
      rw [← hz3]; simp [World.setChan, World.at]
    have hL : Lies pl (Go.ConcN.upd F w.heap.size (some (0, 1))) (((handed w a.m).at d).setChan a.cT 0 #[] false (x + 1) (x + 1) false) := by
      refine Lies.setChan ?_ hcT _ _ _ _ _ _
      refine Lies.at ?_ d
      refine Lies.more ((hA.lies.alloc _).setCell _ _) (fun i lo hi hi' => ?_) (fun i r hr => ?_)
      · have hlt : i ≠ w.heap.size := fun e => by
          rw [e, hA.lay.free _ (by rw [hcol3]; rfl)] at hi'; cases hi'
        exact ⟨lo, hi, by rw [upd_ne _ _ hlt]; exact hi', Nat.le_refl _, Nat.le_refl _⟩
      · by_cases e : i = w.heap.size
        · subst e; exact ⟨_, _, hb3⟩
        · rw [upd_ne _ _ e] at hr
          exact ((hA.lies.alloc _).setCell _ _).lies i r hr
    have hoth : ∀ {b : Nat} {o : Obj}, (handed w a.m).heap[b]? = some o → b ≠ a.cT → (((handed w a.m).at d).setChan a.cT 0 #[] false (x + 1) (x + 1) false).heap[b]? = some o := fun ho hne => by
      rw [heap_setChan_ne _ _ _ _ _ _ _ (Ne.symm hne)]; exact ho
    have hb3T : w.heap.size ≠ a.cT := fun e => by have := lt_of_block hT; omega
    have hUW := hoth hU' hA.dis.1.symm
    have hSW := hoth hS' hA.dis.2.1.symm
    have hmW := hoth hm' (Ne.symm hpT.2)
    have hbW := hoth hb3 hb3T
    have hF3 : (Go.ConcN.upd F w.heap.size (some (0, 1)) : Nat → Option (Nat × Nat)) w.heap.size = some (0, 1) := upd_same _ _ _
    have hFm : (Go.ConcN.upd F w.heap.size (some (0, 1)) : Nat → Option (Nat × Nat)) a.m = some (0, 1) := by rw [upd_ne _ _ (by omega)]; exact hA.fm
    have hFp : (Go.ConcN.upd F w.heap.size (some (0, 1)) : Nat → Option (Nat × Nat)) a.p = some (1, 4) := by rw [upd_ne _ _ (by omega)]; exact hA.fp
    have hlow : ∀ b, col b ≠ .main → b ≠ w.heap.size := fun b hb e => hb (by rw [e]; exact hcol3)
    have KK := K
    unfold Kont KontW at KK
    refine KK _ (Go.ConcN.upd F w.heap.size (some (0, 1))) (Go.ConcN.upd col w.heap.size (.sys a.j)) _ g₂ (.func (.func f) #[] cap) hg₂ ⟨⟨?_, ?_, ?_, ?_⟩, ?_, ?_, ?_, ?_⟩ ?_ ?_ ?_ ?_ ?_
    · refine hks.mono fun b _ e => ?_
      rcases e with rfl | rfl
      · exact .inr (.inl ⟨hA.cm, hpm.symm⟩)
      · exact .inr (.inl ⟨hA.ccT, hpT.1⟩)
    · exact fun b hb => upd_ne _ _ (by omega)
    · intro b h1 h2
      rw [hW] at h2
      obtain rfl : b = w.heap.size := by omega
      rw [upd_same]; exact .inr (.inl rfl)
    · exact fun b hb => upd_ne _ _ (by omega)
    · exact fun i h0 hj => moved_ne pl _ hj h0
    · exact moved_j pl _ (by have := hA.jpos; omega)
    · refine (hL.drop 0).put a.j (fun c hc => ?_) (fun ad v hv => ?_)
      · rcases turnSeat_has hc with rfl | rfl
        · exact ⟨_, _, _, _, _, _, hUW⟩
        · exact ⟨_, _, _, _, _, _, hSW⟩
      · rcases hv with ⟨rfl, _⟩ | ⟨rfl, _⟩ | ⟨rfl, _⟩ | ⟨rfl, _⟩
        · exact ⟨1, 4, hFp, by simp, by simp⟩
        · exact ⟨1, 4, hFp, by simp, by simp⟩
        · exact ⟨0, 1, hFm, by simp, by simp⟩
        · exact ⟨0, 1, hF3, by simp, by simp⟩
    · refine ⟨fun b hb => ?_, fun b hb => ?_, fun b hb => ?_, ?_, ?_⟩
      · by_cases e : b = w.heap.size
        · subst e; rw [upd_same] at hb; cases hb
        · rw [upd_ne _ _ e] at hb ⊢; exact hA.lay.free b hb
      · rw [hW] at hb
        rw [upd_ne _ _ (by omega)]; exact hA.lay.above b (by omega)
      · rw [upd_ne _ _ (hlow b (by rw [hA.lay.sb b hb]; simp))]; exact hA.lay.sb b hb
      · rw [upd_ne _ _ (hlow _ (by rw [hA.lay.ar.1]; simp))]; exact hA.lay.ar.1
      · rw [upd_ne _ _ (hlow _ (by rw [hA.lay.ar.2]; simp))]; exact hA.lay.ar.2
    · exact ⟨_, heap_setChan_self _ hcT _ _ _ _ _ _⟩
    · exact ⟨kU, hUW⟩
    · exact ⟨kS, hSW⟩
    · have hsame : ∀ b, own b → (((handed w a.m).at d).setChan a.cT 0 #[] false (x + 1) (x + 1) false).heap[b]? = w.heap[b]? := fun b hb => hks.block b (hP.lt w b hAw hb) fun e => by
        have := hown b hb
        rcases e with rfl | rfl
        · rw [hA.cm] at this; cases this
        · rw [hA.ccT] at this; cases this
      refine ⟨w.heap.size, _, own, A, B, f, cap, moved_h pl a.j 0 _, fun b hb => ?_, hP, hB, hP.st _ _ hAw hsame, hmW, hbW, upd_same _ _ _, hFm, hF3, ⟨rfl, hfnn⟩, htouch, ?_, ?_⟩
      · rw [upd_ne _ _ (hlow b (by rw [hown b hb]; simp))]; exact hown b hb
      · intro v o home' n' pl' F' col' w' g' gj hgj hA' ho hBo hb3' hs' hp' K'
        subst hgj
        obtain ⟨hA'', hM⟩ := hA'.run (r := true)
        refine turn_back (cell_of_row hb3' 0) (cell_of_row hA'.me 1) (free_of_row hA'.me 1) (hA'.free1 1 (by omega)) ?_
        refine hres v o home' n' pl' F' col' _ g' hA'' ho ((hB v o).st _ _ hBo fun b hb => ?_) (hSh.st _ _ _ _ _ hs' (fun b hb => ?_) fun _ hb => hb) hp' (Kont.moves hM K')
        · exact (ks_setCell w' ⟨a.m, 1, none⟩ (.bool true)).block b ((hB v o).lt _ _ hBo hb) fun e => by
            have e' : b = a.m := e
            have := ho b hb
            rw [e', hA'.cm] at this; cases this
        · exact (ks_setCell w' ⟨a.m, 1, none⟩ (.bool true)).block b (hA'.lay.ltS hb) fun e => by
            have e' : b = a.m := e
            have := hb
            rw [e', hA'.cm] at this; cases this
      · intro home' n' pl' F' col' w' g' gj hgj hA' ho hAo hb3' hs' hp' K'
        subst hgj
        obtain ⟨hA'', hM⟩ := hA'.run (r := true)
        refine stop_back (cell_of_row hb3' 0) (cell_of_row hA'.me 1) (free_of_row hA'.me 1) (hA'.free1 1 (by omega)) ?_
        refine hstop home' n' pl' F' col' _ g' hA'' ho (hP.st _ _ hAo fun b hb => ?_) (hSh.st _ _ _ _ _ hs' (fun b hb => ?_) fun _ hb => hb) hp' (Kont.moves (mv := mv) (Post := Post) (pA := pA) (rA := rA) (T := (.ret : Tree G)) hM K')
        · exact (ks_setCell w' ⟨a.m, 1, none⟩ (.bool true)).block b (hP.lt _ _ hAo hb) fun e => by
            have e' : b = a.m := e
            have := ho b hb
            rw [e', hA'.cm] at this; cases this
        · exact (ks_setCell w' ⟨a.m, 1, none⟩ (.bool true)).block b (hA'.lay.ltS hb) fun e => by
            have e' : b = a.m := e
            have := hb
            rw [e', hA'.cm] at this; cases this
    · exact hSh.st _ _ _ _ _ hs (fun b hb => hks.block b (hA.lay.ltS hb) fun e => by
        have := hb
        rcases e with rfl | rfl
        · rw [hA.cm] at this; cases this
        · rw [hA.ccT] at this; cases this) fun b hb => by rw [upd_ne _ _ (hlow b (by rw [hb]; simp))]; exact hb
end
end Go.Proofs.Ytnbaiinhalplcaa
