/- A communication within what one does by oneself goes on by itself, or (in the twin) for ever not. Of whatever program. Conditions: none. -/
import Derived.Test.YtodcnhodbeakiaaLfL
import Derived.DyingOn
namespace Go.Proofs.Ytodcnhodbeakiaa
set_option linter.unusedVariables false
set_option linter.unusedSimpArgs false
open Go.Conc

section
variable {V : Veil} {P : Program} {pl : Nat → Option Place} {h : Nat} {w w' w₂ : World} {g g' : Goroutine} {cases : Array CommCase} {b : Bool} {shape : CommShape} {es : Array Event} {τ : Nat → Question → Nat} {D : Nat}

def goodC (V : Veil) (w : World) (c : CommCase) : Prop := c.chan = .chan none ∨ ∃ r cap buf cl sn rc tm, c.chan = .chan (some r) ∧ V.ch r = false ∧ w.heap[r]? = some (.chan cap buf cl sn rc tm)

theorem partners_empty (r : Nat) (x : Bool) : partners #[] r x = [] := rfl
theorem veil_chan {r cap sn rc : Nat} {buf : Array Value} {cl tm : Bool} (hc : V.ch r = false) (hr : w.heap[r]? = some (.chan cap buf cl sn rc tm)) : (V.world τ D w).heap[r]? = some (.chan cap buf cl sn rc tm) := by
  rw [veil_heap, hr]; simp [Veil.obj, hc]
theorem goodC.made {c : CommCase} (hg : goodC V w c) : illMade w c = false := by
  rcases hg with e | ⟨r, cap, buf, cl, sn, rc, tm, e, hc, hr⟩
  · simp [illMade, e]
  · simp [illMade, e, hr]
theorem goodC.madeT {c : CommCase} (hg : goodC V w c) : illMade (V.world τ D w) c = false := by
  rcases hg with e | ⟨r, cap, buf, cl, sn, rc, tm, e, hc, hr⟩
  · simp [illMade, e]
  · simp [illMade, e, veil_chan hc hr]
theorem bad_ill {c : CommCase} (hg : ¬ goodC V w c) : illMade (V.world τ D w) c = true := by
  unfold illMade
  split
  · rename_i e; exact absurd (.inl e) hg
  · rename_i r e
    rw [veil_heap]
    cases ho : w.heap[r]? with
    | none => rfl
    | some o =>
      cases hc : V.ch r <;> cases o <;> simp [Veil.obj, hc]
      exact hg (.inr ⟨_, _, _, _, _, _, _, e, hc, ho⟩)
  · rfl
theorem goodC.ways {c : CommCase} (hg : goodC V w c) {gs : Array Goroutine} (hp : ∀ r, V.ch r = false → ∀ x, partners gs r x = []) : Go.ways w gs c = Go.ways w #[] c := by
  rcases hg with e | ⟨r, cap, buf, cl, sn, rc, tm, e, hc, hr⟩
  · simp [Go.ways, e]
  · cases hs : c.send <;> simp only [Go.ways, e, hr, hs, hp r hc, partners_empty]
theorem goodC.waysT {c : CommCase} (hg : goodC V w c) {gs : Array Goroutine} (hp : ∀ r, V.ch r = false → ∀ x, partners gs r x = []) : Go.ways (V.world τ D w) gs c = Go.ways w #[] c := by
  rcases hg with e | ⟨r, cap, buf, cl, sn, rc, tm, e, hc, hr⟩
  · simp [Go.ways, e]
  · cases hs : c.send <;> simp only [Go.ways, e, hr, hs, veil_chan hc hr, hp r hc, partners_empty]
theorem goodC.one {c : CommCase} (hg : goodC V w c) (hne : Go.ways w #[] c ≠ []) : ∃ r cap buf cl sn rc tm, c.chan = .chan (some r) ∧ V.ch r = false ∧ w.heap[r]? = some (.chan cap buf cl sn rc tm) ∧
    ((∃ v, c.send = some v) ∧ (Go.ways w #[] c = [.sendClosed] ∨ Go.ways w #[] c = [.buffer]) ∨ c.send = none ∧ (Go.ways w #[] c = [.closed] ∨ Go.ways w #[] c = [.buffer])) := by
  rcases hg with e | ⟨r, cap, buf, cl, sn, rc, tm, e, hc, hr⟩
  · exact absurd (by simp [Go.ways, e]) hne
  · refine ⟨r, cap, buf, cl, sn, rc, tm, e, hc, hr, ?_⟩
    cases hs : c.send with
    | some v =>
      refine .inl ⟨⟨v, rfl⟩, ?_⟩
      have hw : Go.ways w #[] c = if cl then [.sendClosed] else if buf.size < cap then [.buffer] else [] := by simp only [Go.ways, e, hr, hs, partners_empty]
      rw [hw] at hne ⊢
      split
      · exact .inl rfl
      · rename_i h1
        rw [if_neg h1] at hne
        split
        · exact .inr rfl
        · rename_i h2; rw [if_neg h2] at hne; exact absurd rfl hne
    | none =>
      refine .inr ⟨rfl, ?_⟩
      have hw : Go.ways w #[] c = if buf.size > 0 then [.buffer] else if cl then [.closed] else [] := by simp only [Go.ways, e, hr, hs, partners_empty]
      rw [hw] at hne ⊢
      split
      · exact .inr rfl
      · rename_i h1
        rw [if_neg h1] at hne
        split
        · exact .inl rfl
        · rename_i h2; rw [if_neg h2] at hne; exact absurd rfl hne

theorem choose_both (n : Nat) (hn : 0 < n) (w : World) : ∃ (A : List (Question → Nat)) (a m : Nat), a < n ∧ (choose (.select n)).run P w = .ok a (w.at m) ∧ ∀ τ D, Agr A τ D → (choose (.select n)).run P (V.world τ D w) = .ok a (V.world τ (D + A.length) w) := by
  by_cases hf : (Question.select n).forced = true
  · refine ⟨[], 0, w.drawn, hn, by simp [choose, Sem.run, hf, World.at], fun τ D _ => by simp [choose, Sem.run, hf]⟩
  · refine ⟨[w.tape w.drawn], (Question.select n).cut (w.tape w.drawn (.select n)), w.drawn + 1, Nat.mod_lt _ hn, by simp [choose, Sem.run, hf, World.at], fun τ D hA => ?_⟩
    have h0 : τ D = w.tape w.drawn := hA 0 _ rfl
    simp only [choose, Sem.run, hf, if_false, Bool.false_eq_true]
    simp [Veil.world, h0]

theorem step_lone_comm {fr : Frame} {cs : List Frame} {w₁ : World} (hs : (stepG P true (gor fr cs) w).bare = .comm g cases b shape w₁) :
    step P (lone fr cs w) = (communicate P { timers := #[], alone := none, slice := none } #[ph] 0 g cases b shape w₁).1 := by
  generalize hs' : stepG P true (gor fr cs) w = s at hs
  cases s <;> simp at hs
  obtain ⟨rfl, rfl, rfl, rfl, rfl⟩ := hs
  unfold gor at hs'
  rw [step, stepT, move_lone]
  simp [runT, lone, Array.swapAt!, hs', ph]

theorem comm_ill {rest : Rest} {gs : Array Goroutine} {i : Nat} (hm : cases.any (illMade w) = true) : ∃ o, (communicate P rest gs i g cases b shape w).1 = .ended o w := by
  refine ⟨.stuck "a communication at a channel whose block is no channel's" (g.frame.pos P), ?_⟩
  unfold communicate
  simp only
  rw [if_pos]
  exact hm

theorem no_partners (hO : Over V pl) {T : Trace} {gs : Array Goroutine} {w : World} {q : Nat → Nat} (C : Held P pl h T gs w q) : ∀ r, V.ch r = false → ∀ x, partners (gs.setIfInBounds h ph) r x = [] := by
  intro r hr x
  refine partners_nil fun j y hj => ?_
  rcases getElem?_stand _ _ _ _ hj with ⟨_, rfl⟩ | ⟨hne, hy⟩
  · exact offersAt_ph r x
  · cases x with
    | true => exact Core.noSend C hne hy r
    | false => exact Core.noRecv C hne hy fun s hs hc => by rw [hO.ch j s r hs hc] at hr; cases hr

theorem solo_comm (hO : Over V pl) (real : stepG P (h == 0) g w = .comm g cases b shape w' es) (hcalm : ∀ e ∈ es, CalmV V e) (hk : VKeep V w w₂) (acts : Nat → Trace) (hg : ∀ i, ∀ op ∈ acts i, op.g = i) (hmute : ∀ i, ∀ op ∈ acts i, op.act.touch? = none)
    (hquiet : ∀ i, ∀ op ∈ acts i, ∀ g d, deafStep g d op = d)
    (hcomm : ∀ rest gs i, rest.timers = #[] → (∀ r, V.ch r = false → ∀ x, partners gs r x = []) → communicate P rest gs i g cases b shape w' = (.next { world := w₂, gs := gs.setIfInBounds i g', rest := rest }, acts i)) : Solo P pl h g w g' w₂ := by
  intro gs sl T q ha C
  have hlt : h < gs.size := (Array.getElem?_eq_some_iff.1 ha).1
  obtain ⟨hops, hs, hdf⟩ := calm_ops (pl := pl) (h := h) (fn := g.frame.fn) (pos := g.frame.place) (fun e he => hO.calm (hcalm e he))
  refine ⟨gs.setIfInBounds h g', MemOp.ofEvents h g.frame.fn g.frame.place es ++ acts h, q, ?_, by simp, Array.getElem?_setIfInBounds_self_of_lt hlt, Held.ops C g' (hO.kept hk) (fun op hop => ?_) (fun op hop b hb => ?_) fun t => ?_⟩
  · rw [runT_crowd_comm ha real, hcomm _ _ _ rfl (no_partners hO C), set_stand]
    rfl
  · rcases Array.mem_append.1 hop with z | z
    · exact hops op z
    · exact hg h op z
  · rcases Array.mem_append.1 hop with z | z
    · exact hs op z b hb
    · rw [hmute h op z] at hb; cases hb
  · rw [← Array.append_assoc, Deaf_quiet (fun op hop d => hquiet h op hop h d), hdf]
end
end Go.Proofs.Ytodcnhodbeakiaa
