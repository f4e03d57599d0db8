/- Every communication within what one does by oneself: it goes on by itself, or (in the twin) for ever not. Of whatever program. Conditions: none. -/
import Derived.Test.YtodcnhodbeakiaaLfM
namespace Go.Proofs.Ytodcnhodbeakiaa
set_option linter.unusedVariables false
set_option linter.unusedSimpArgs false
open Go.Conc

section
variable {V : Veil} {P : Program} {pl : Nat → Option Place} {h : Nat} {w w' w₂ : World} {g g' : Goroutine} {cases : Array CommCase} {b : Bool} {shape : CommShape} {es : Array Event} {τ : Nat → Question → Nat} {D : Nat}

theorem gone_blocked (hst : g.status = .blocked) (w : World) : Gone P (oneG g w) := by
  obtain ⟨fr, cs, st, dy, off⟩ := g
  simp only at hst
  subst hst
  obtain ⟨o', w', he, ho⟩ := endWith_ended w 2 (bytes "fatal error: all goroutines are asleep - deadlock!\n") (.fatal "all goroutines are asleep - deadlock!")
  refine gone_of_ended (o := o') (w' := w') ?_
  simp [step, stepT, move, ask, askOn, oneG, runnable_eq, due, ahead, Goroutine.canRun, List.range_succ, pure]
  rw [he]
theorem not_live_blocked (hst : g.status = .blocked) (w : World) : ¬ Live P (oneG g w) := by
  rintro ⟨f, up, w', e⟩
  have := congrArg (fun m : Machine => (m.gs[0]?).map (·.status)) e
  simp [lone, oneG, hst] at this

theorem vset {r cap sn rc cap' sn' rc' : Nat} {buf buf' : Array Value} {cl tm cl' tm' : Bool} (hw : VOK V w) (hc : V.ch r = false) (hr : w.heap[r]? = some (.chan cap buf cl sn rc tm)) :
    VOK V { w with heap := w.heap.setIfInBounds r (.chan cap' buf' cl' sn' rc' tm') } ∧ VKeep V w { w with heap := w.heap.setIfInBounds r (.chan cap' buf' cl' sn' rc' tm') } := by
  have hfz : V.froz r = none := by
    cases hf : V.froz r with
    | none => rfl
    | some p => obtain ⟨c, t, h⟩ := hw.frz r p hf; rw [hr] at h; cases h
  have hob : ∀ i, i ≠ r → (w.heap.setIfInBounds r (.chan cap' buf' cl' sn' rc' tm'))[i]? = w.heap[i]? := fun i hi => Array.getElem?_setIfInBounds_ne (Ne.symm hi)
  have hlt : r < w.heap.size := (Array.getElem?_eq_some_iff.1 hr).1
  refine ⟨⟨by simpa using hw.top, fun i y hy => ?_, fun i y hi hy => ?_, fun i p hp => ?_⟩, ⟨by simp, fun i hi => ?_, fun b hb => ?_⟩⟩
  · by_cases e : i = r
    · subst e; simp [hlt] at hy; subst hy; exact .inr trivial
    · simp only [hob i e] at hy; exact hw.nice i y hy
  · by_cases e : i = r
    · subst e; rw [hc] at hi; cases hi
    · simp only [hob i e] at hy; exact hw.chs i y hi hy
  · have e : i ≠ r := fun e => by rw [e, hfz] at hp; cases hp
    obtain ⟨c, t, h⟩ := hw.frz i p hp
    exact ⟨c, t, by simp only [hob i e]; exact h⟩
  · have e : i ≠ r := fun e => by rw [e, hc] at hi; cases hi
    exact hob i e
  · unfold Veil.still at hb
    have e : b.block ≠ r := fun e => by rw [e, hfz] at hb; cases hb
    unfold World.cell?
    rw [show ({ w with heap := w.heap.setIfInBounds r (.chan cap' buf' cl' sn' rc' tm') } : World).heap[b.block]? = w.heap[b.block]? from hob _ e]

theorem commOK (hO : Over V pl) (cs : List Frame) : CommOK V P pl h cs := by
  intro fr up w A cases b shape w' es hok hw hw' hk hcalm hreg real twin
  have hstep : ∀ τ D, Agr A τ D → step P (lone fr (up ++ [sent P]) (V.world τ D w)) = (communicate P { timers := #[], alone := none, slice := none } #[ph] 0 (gor fr (up ++ [sent P])) cases b shape (V.world τ (D + A.length) w')).1 := fun τ D hA => step_lone_comm (twin τ D hA)
  by_cases hall : ∀ c ∈ cases, goodC V w' c
  rotate_left
  · refine .inr ⟨A, fun τ D hA => ?_⟩
    have hm : cases.any (illMade (V.world τ (D + A.length) w')) = true := by
      refine Classical.byContradiction fun hn => hall fun c hc => Classical.byContradiction fun hb => hn ?_
      obtain ⟨i, hi, rfl⟩ := Array.mem_iff_getElem.1 hc
      rw [Array.any_eq_true]
      exact ⟨i, hi, bad_ill hb⟩
    obtain ⟨o, ho⟩ := comm_ill (P := P) (rest := { timers := #[], alone := none, slice := none }) (gs := #[ph]) (i := 0) (g := gor fr (up ++ [sent P])) (b := b) (shape := shape) hm
    exact gone_of_ended ((hstep τ D hA).trans ho)
  have hph : ∀ r, V.ch r = false → ∀ x, partners #[ph] r x = [] := fun r _ x => partners_nil fun j g hj => by
    rcases j with _ | j
    · simp only [List.getElem?_toArray, List.getElem?_cons_zero, Option.some.injEq] at hj
      subst hj
      exact offersAt_ph r x
    · simp at hj
  have hmT : ∀ τ D, cases.any (illMade (V.world τ D w')) = false := fun τ D => any_ill fun c hc => (hall c hc).madeT
  have hm : cases.any (illMade w') = false := any_ill fun c hc => (hall c hc).made
  have hRT : ∀ τ D, rdy cases (Go.ways (V.world τ D w') #[ph]) = rdy cases (Go.ways w' #[]) := fun τ D => rdy_eq fun c hc => (hall c hc).waysT hph
  have hRr : ∀ gs, (∀ r, V.ch r = false → ∀ x, partners gs r x = []) → rdy cases (Go.ways w' gs) = rdy cases (Go.ways w' #[]) := fun gs hp => rdy_eq fun c hc => (hall c hc).ways hp
  have hfin : ∀ v, StOK P (fr.finish v) up := fun v => hok.swap (hok.here.finish v) (finish_kind _ _)
  generalize hR : rdy cases (Go.ways w' #[]) = R at hRT hRr
  cases R with
  | nil =>
    cases b with
    | true =>
      refine .inr ⟨A, fun τ D hA => ?_⟩
      have hs := hstep τ D hA
      rw [comm_none (hmT _ _) (hRT _ _) rfl] at hs
      exact gone_of_next (m₁ := oneG { gor fr (up ++ [sent P]) with status := .blocked, offers := some (cases, shape) } _) hs (not_live_blocked rfl _) (gone_blocked rfl _)
    | false =>
      refine .inl ⟨A, fr.finish (commResult cases shape (-1) undef false), up, w', hfin _, hw', hk, solo_comm hO (real _ _) hcalm hk (fun _ => #[]) (fun _ op z => by simp at z) (fun _ op z => by simp at z) (fun _ op z => by simp at z) (fun rest gs i ht hp => ?_), fun τ D hA => ?_⟩
      · rw [comm_none hm (hRr gs hp) ht]; rfl
      · rw [hstep τ D hA, comm_none (hmT _ _) (hRT _ _) rfl]; rfl
  | cons x0 R0 =>
    obtain ⟨A₂, a, m, ha, hrun, hrunT⟩ := choose_both (V := V) (P := P) (x0 :: R0).length (by simp) w'
    obtain ⟨⟨k, c, ws⟩, hget⟩ : ∃ y, (x0 :: R0)[a]? = some y := ⟨_, List.getElem?_eq_getElem ha⟩
    obtain ⟨hcm, hws, hne⟩ := mem_rdy (cases := cases) (W := Go.ways w' #[]) (by rw [hR]; exact List.mem_of_getElem? hget)
    rw [hws] at hne
    obtain ⟨r, cap, buf, cl, sn, rc, tm, he, hch, hheap, hcase⟩ := (hall c hcm).one hne
    have hkm : VKeep V w (w'.at m) := ⟨hk.size, hk.chs, hk.st⟩
    have hset : ∀ (buf' : Array Value) (sn' rc' : Nat), VOK V { w'.at m with heap := (w'.at m).heap.setIfInBounds r (.chan cap buf' cl sn' rc' tm) } ∧ VKeep V w { w'.at m with heap := (w'.at m).heap.setIfInBounds r (.chan cap buf' cl sn' rc' tm) } := fun buf' sn' rc' => by
      obtain ⟨h1, h2⟩ := vset (cap' := cap) (sn' := sn') (rc' := rc') (buf' := buf') (cl' := cl) (tm' := tm) (hw'.at m) hch (show (w'.at m).heap[r]? = _ from hheap)
      exact ⟨h1, hkm.trans h2⟩
    rcases hcase with ⟨⟨v, hv⟩, hw1 | hw1⟩ | ⟨hv, hw1 | hw1⟩ <;> rw [hws, hw1] at hget
    · refine .inl ⟨A ++ A₂, fr.raise [{ v := .iface P.rt.plainError (strVal "send on closed channel"), recovered := false }], up, w'.at m, hok.swap (hok.here.raise _) (raise_kind _ _), hw'.at m, hkm,
        solo_comm hO (real _ _) hcalm hkm (fun _ => #[]) (fun _ op z => by simp at z) (fun _ op z => by simp at z) (fun _ op z => by simp at z) (fun rest gs i ht hp => ?_), fun τ D hA => ?_⟩
      · rw [comm_sendClosed hm (hRr gs hp) hget hrun]; rfl
      · rw [hstep τ D hA.left, comm_sendClosed (hmT _ _) (hRT _ _) hget (hrunT τ _ hA.right), List.length_append, ← Nat.add_assoc]; rfl
    · obtain ⟨h1, h2⟩ := hset (buf.push v) (sn + 1) rc
      refine .inl ⟨A ++ A₂, fr.finish (commResult cases shape k undef false), up, _, hfin _, h1, h2,
        solo_comm hO (real _ _) hcalm h2 (fun i => #[{ g := i, fn := fr.fn, pos := fr.place, act := .send r sn }, { g := i, fn := fr.fn, pos := fr.place, act := .sendDone r sn }]) (fun i op z => ?_) (fun i op z => ?_) (fun i op z g d => ?_) (fun rest gs i ht hp => ?_), fun τ D hA => ?_⟩
      · simp only [List.mem_toArray, List.mem_cons, List.not_mem_nil, or_false] at z; rcases z with rfl | rfl <;> rfl
      · simp only [List.mem_toArray, List.mem_cons, List.not_mem_nil, or_false] at z; rcases z with rfl | rfl <;> rfl
      · simp only [List.mem_toArray, List.mem_cons, List.not_mem_nil, or_false] at z; rcases z with rfl | rfl <;> rfl
      · rw [comm_roomSend hm (hRr gs hp) hget hrun he hv (show (w'.at m).heap[r]? = _ from hheap)]; rfl
      · rw [hstep τ D hA.left, comm_roomSend (hmT _ _) (hRT _ _) hget (hrunT τ _ hA.right) he hv (veil_chan hch hheap), List.length_append, ← Nat.add_assoc, veil_setObj hch (by simp [isCells])]; rfl
    · refine .inl ⟨A ++ A₂, fr.finish (commResult cases shape k c.zero false), up, w'.at m, hfin _, hw'.at m, hkm,
        solo_comm hO (real _ _) hcalm hkm (fun i => #[{ g := i, fn := fr.fn, pos := fr.place, act := .recvClosed r }]) (fun i op z => ?_) (fun i op z => ?_) (fun i op z g d => ?_) (fun rest gs i ht hp => ?_), fun τ D hA => ?_⟩
      · simp only [List.mem_toArray, List.mem_cons, List.not_mem_nil, or_false] at z; subst z; rfl
      · simp only [List.mem_toArray, List.mem_cons, List.not_mem_nil, or_false] at z; subst z; rfl
      · simp only [List.mem_toArray, List.mem_cons, List.not_mem_nil, or_false] at z; subst z; rfl
      · rw [comm_closed hm (hRr gs hp) hget hrun he]; rfl
      · rw [hstep τ D hA.left, comm_closed (hmT _ _) (hRT _ _) hget (hrunT τ _ hA.right) he, List.length_append, ← Nat.add_assoc]; rfl
    · obtain ⟨h1, h2⟩ := hset (buf.extract 1 buf.size) sn (rc + 1)
      refine .inl ⟨A ++ A₂, fr.finish (commResult cases shape k (buf.getD 0 undef) true), up, _, hfin _, h1, h2,
        solo_comm hO (real _ _) hcalm h2 (fun i => #[{ g := i, fn := fr.fn, pos := fr.place, act := .recv r rc cap }, { g := i, fn := fr.fn, pos := fr.place, act := .recvDone r rc }]) (fun i op z => ?_) (fun i op z => ?_) (fun i op z g d => ?_) (fun rest gs i ht hp => ?_), fun τ D hA => ?_⟩
      · simp only [List.mem_toArray, List.mem_cons, List.not_mem_nil, or_false] at z; rcases z with rfl | rfl <;> rfl
      · simp only [List.mem_toArray, List.mem_cons, List.not_mem_nil, or_false] at z; rcases z with rfl | rfl <;> rfl
      · simp only [List.mem_toArray, List.mem_cons, List.not_mem_nil, or_false] at z; rcases z with rfl | rfl <;> rfl
      · rw [comm_roomRecv hm (hRr gs hp) hget hrun he hv (show (w'.at m).heap[r]? = _ from hheap) (hp r hch true)]; rfl
      · rw [hstep τ D hA.left, comm_roomRecv (hmT _ _) (hRT _ _) hget (hrunT τ _ hA.right) he hv (veil_chan hch hheap) (hph r hch true), List.length_append, ← Nat.add_assoc, veil_setObj hch (by simp [isCells])]; rfl
end
end Go.Proofs.Ytodcnhodbeakiaa
