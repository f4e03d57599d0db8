/- A communication within what one does by oneself: at channels that nobody else waits at. Of whatever program. Conditions: none. -/
import Derived.Test.YtodcnhodbeakiaaLfK
import Derived.Conc.CrowdComm
namespace Go.Proofs.Ytodcnhodbeakiaa
set_option linter.unusedVariables false
set_option linter.unusedSimpArgs false
open Go.Conc

section
variable {P : Program} {pl : Nat → Option Place} {h : Nat} {T : Trace} {gs : Array Goroutine} {w w' : World} {q : Nat → Nat}

theorem Held.ops (C : Held P pl h T gs w q) (a' : Goroutine) {u : Trace} (hk : Kept pl w w') (hu : ∀ op ∈ u, op.g = h) (hs : ∀ op ∈ u, ∀ b, op.act.touch? = some b → b.write = true → ∀ g c, b.loc = .cell c → ¬ Peek pl g c)
    (hd : ∀ t : Trace, Deaf (t ++ u) h = Deaf t h) : Held P pl h (T ++ u) (gs.setIfInBounds h a') w' q := by
  refine ⟨fun y g hy hg => ?_, fun i s c hi e hc => ?_, C.wf, fun _ _ z => z.elim, C.inj, fun j hj => ?_, fun i s e => by simpa using C.low i s e, C.nosp, Tidy.own C.past hu hs (hd T), fun i s e => hk.2 i s e (C.sees i s e)⟩
  · rw [Array.getElem?_setIfInBounds_ne (fun e => hy e.symm)] at hg
    have hi := C.idle y g hy hg
    cases e : pl y with
    | none => rw [e] at hi; exact ⟨hi.1, by rw [Deaf_other T (fun z => hy z.symm) _ hu]; exact hi.2⟩
    | some s => rw [e] at hi; exact hi
  · obtain ⟨k, hk'⟩ := C.chans i s c hi e hc
    exact ⟨k, by rw [hk.1 i s c e hc]; exact hk'⟩
  · simp only [Array.size_setIfInBounds] at hj
    by_cases ej : j = h
    · subst ej; rw [hd]; exact C.above _ hj
    · rw [Deaf_other T (fun z => ej z.symm) _ hu]; exact C.above j hj
end

def rdy (cases : Array CommCase) (W : CommCase → List Go.Way) : List (Nat × CommCase × List Go.Way) :=
  (cases.zipIdx.toList.map fun (c, k) => (k, c, W c)).filter fun (_, _, ws) => !ws.isEmpty
theorem mem_of_zip {cases : Array CommCase} {c : CommCase} {k : Nat} (h : (c, k) ∈ cases.zipIdx.toList) : c ∈ cases := by
  have := Array.mem_zipIdx_iff_getElem?.1 (Array.mem_toList_iff.1 h)
  exact Array.mem_of_getElem? (i := k) (by simpa using this)
theorem rdy_eq {cases : Array CommCase} {W W' : CommCase → List Go.Way} (h : ∀ c ∈ cases, W c = W' c) : rdy cases W = rdy cases W' := by
  unfold rdy
  congr 1
  refine List.map_congr_left ?_
  rintro ⟨c, k⟩ hm
  simp only [h c (mem_of_zip hm)]
theorem mem_rdy {cases : Array CommCase} {W : CommCase → List Go.Way} {k : Nat} {c : CommCase} {ws : List Go.Way} (h : (k, c, ws) ∈ rdy cases W) : c ∈ cases ∧ ws = W c ∧ ws ≠ [] := by
  unfold rdy at h
  obtain ⟨h1, h2⟩ := List.mem_filter.1 h
  obtain ⟨⟨c', k'⟩, h3, h4⟩ := List.mem_map.1 h1
  simp only [Prod.mk.injEq] at h4
  obtain ⟨rfl, rfl, rfl⟩ := h4
  refine ⟨mem_of_zip h3, rfl, fun e => ?_⟩
  simp only [e] at h2
  cases h2

section
variable {P : Program} {rest : Rest} {gs : Array Goroutine} {i : Nat} {g : Goroutine} {cases : Array CommCase} {b : Bool} {shape : CommShape} {w w₁ : World} {R : List (Nat × CommCase × List Go.Way)} {a k r : Nat} {c : CommCase} {v : Value} {cap sn rc : Nat} {buf : Array Value} {cl tm : Bool}

theorem choose_one (s : String) (w : World) : (choose (.extern s 1)).run P w = .ok 0 w := by simp [choose, Sem.run, Question.forced]

theorem comm_none (hm : cases.any (illMade w) = false) (hR : rdy cases (ways w gs) = []) (ht : rest.timers = #[]) : communicate P rest gs i g cases b shape w =
    if b then (.next { world := w, gs := gs.setIfInBounds i { g with status := .blocked, offers := some (cases, shape) }, rest := rest }, #[])
    else (.next { world := w, gs := gs.setIfInBounds i (g.finishComm P cases shape (-1) undef false), rest := rest }, #[]) := by
  have hta : timerAhead rest w.os.mono cases = false := by
    unfold timerAhead
    rw [Array.any_eq_false]
    intro k hk
    split <;> simp [ht]
  unfold rdy at hR
  unfold communicate
  simp only [hR, List.isEmpty_nil, if_true, waitingAt, hta, if_false, Bool.false_eq_true]
  rw [if_neg]
  rw [Bool.not_eq_true]; exact hm

theorem comm_closed (hm : cases.any (illMade w) = false) (hR : rdy cases (ways w gs) = R) (ha : R[a]? = some (k, c, [.closed])) (hc : (choose (.select R.length)).run P w = .ok a w₁) (hr : c.chan = .chan (some r)) :
    communicate P rest gs i g cases b shape w = (.next { world := w₁, gs := gs.setIfInBounds i (g.finishComm P cases shape k c.zero false), rest := rest }, #[{ g := i, fn := g.frame.fn, pos := g.frame.place, act := .recvClosed r }]) := by
  have hne : R.isEmpty = false := by cases R <;> simp_all
  have hget : R.getD a (0, default, []) = (k, c, [.closed]) := by rw [List.getD_eq_getElem?_getD, ha]; rfl
  unfold rdy at hR
  unfold communicate
  simp only [hR, hne, if_false, Bool.false_eq_true]
  rw [if_neg]
  · simp only [Sem.run_bind, hc, Result.andThen, hget, List.length_singleton, choose_one, List.getD_cons_zero, pure, Sem.run, hr]
  · rw [Bool.not_eq_true]; exact hm

theorem comm_sendClosed (hm : cases.any (illMade w) = false) (hR : rdy cases (ways w gs) = R) (ha : R[a]? = some (k, c, [.sendClosed])) (hc : (choose (.select R.length)).run P w = .ok a w₁) :
    communicate P rest gs i g cases b shape w = (.next { world := w₁, gs := gs.setIfInBounds i { g with frame := g.frame.raise [{ v := .iface P.rt.plainError (strVal "send on closed channel"), recovered := false }] }, rest := rest }, #[]) := by
  have hne : R.isEmpty = false := by cases R <;> simp_all
  have hget : R.getD a (0, default, []) = (k, c, [.sendClosed]) := by rw [List.getD_eq_getElem?_getD, ha]; rfl
  unfold rdy at hR
  unfold communicate
  simp only [hR, hne, if_false, Bool.false_eq_true]
  rw [if_neg]
  · simp only [Sem.run_bind, hc, Result.andThen, hget, List.length_singleton, choose_one, List.getD_cons_zero, pure, Sem.run]
    rfl
  · rw [Bool.not_eq_true]; exact hm

theorem comm_roomSend (hm : cases.any (illMade w) = false) (hR : rdy cases (ways w gs) = R) (ha : R[a]? = some (k, c, [.buffer])) (hc : (choose (.select R.length)).run P w = .ok a w₁) (hr : c.chan = .chan (some r)) (hv : c.send = some v)
    (hb : w₁.heap[r]? = some (.chan cap buf cl sn rc tm)) :
    communicate P rest gs i g cases b shape w = (.next { world := { w₁ with heap := w₁.heap.setIfInBounds r (.chan cap (buf.push v) cl (sn + 1) rc tm) }, gs := gs.setIfInBounds i (g.finishComm P cases shape k undef false), rest := rest },
      #[{ g := i, fn := g.frame.fn, pos := g.frame.place, act := .send r sn }, { g := i, fn := g.frame.fn, pos := g.frame.place, act := .sendDone r sn }]) := by
  have hne : R.isEmpty = false := by cases R <;> simp_all
  have hget : R.getD a (0, default, []) = (k, c, [.buffer]) := by rw [List.getD_eq_getElem?_getD, ha]; rfl
  unfold rdy at hR
  unfold communicate
  simp only [hR, hne, if_false, Bool.false_eq_true]
  rw [if_neg]
  · simp only [Sem.run_bind, hc, Result.andThen, hget, List.length_singleton, choose_one, List.getD_cons_zero, pure, Sem.run, hr, hv, hb]
  · rw [Bool.not_eq_true]; exact hm

theorem comm_roomRecv (hm : cases.any (illMade w) = false) (hR : rdy cases (ways w gs) = R) (ha : R[a]? = some (k, c, [.buffer])) (hc : (choose (.select R.length)).run P w = .ok a w₁) (hr : c.chan = .chan (some r)) (hv : c.send = none)
    (hb : w₁.heap[r]? = some (.chan cap buf cl sn rc tm)) (hp : partners gs r true = []) :
    communicate P rest gs i g cases b shape w = (.next { world := { w₁ with heap := w₁.heap.setIfInBounds r (.chan cap (buf.extract 1 buf.size) cl sn (rc + 1) tm) }, gs := gs.setIfInBounds i (g.finishComm P cases shape k (buf.getD 0 undef) true), rest := rest },
      #[{ g := i, fn := g.frame.fn, pos := g.frame.place, act := .recv r rc cap }, { g := i, fn := g.frame.fn, pos := g.frame.place, act := .recvDone r rc }]) := by
  have hne : R.isEmpty = false := by cases R <;> simp_all
  have hget : R.getD a (0, default, []) = (k, c, [.buffer]) := by rw [List.getD_eq_getElem?_getD, ha]; rfl
  unfold rdy at hR
  unfold communicate
  simp only [hR, hne, if_false, Bool.false_eq_true]
  rw [if_neg]
  · simp only [Sem.run_bind, hc, Result.andThen, hget, List.length_singleton, choose_one, List.getD_cons_zero, pure, Sem.run, hr, hv, hb, hp]
  · rw [Bool.not_eq_true]; exact hm
end
end Go.Proofs.Ytodcnhodbeakiaa
