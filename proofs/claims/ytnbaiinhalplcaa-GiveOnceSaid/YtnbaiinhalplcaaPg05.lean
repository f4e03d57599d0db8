/- The veiled twin, through a step that leaves a frame; and any step. Of whatever program. Conditions: none. Conditions: as each theorem states them. -/
import Derived.Test.YtnbaiinhalplcaaPg04
namespace Go.Proofs.Ytnbaiinhalplcaa
set_option linter.unusedVariables false
set_option linter.unusedSimpArgs false
open Go.Conc

section
variable {V : Veil} {P : Program} {fr fr' : Frame} {up up' : List Frame} {w : World}

theorem doReturn_up {c : Frame} (hok : StOK P fr (c :: up)) (v : Value) : ∃ c', StOK P c' up ∧ ∀ main cs w, doReturn P main fr (c :: up ++ cs) none v w = .go (gor c' (up ++ cs)) w := by
  have h2 := hok.pop
  rcases hok.here.kind with e | e
  · exact ⟨c.finish v, h2.swap (h2.here.finish v) (finish_kind _ _), fun main cs w => by simp only [doReturn, List.cons_append, e]; rfl⟩
  · simp only [doReturn, List.cons_append, e]
    split
    · rename_i older hm
      cases hd : older.dropWhile (!·.goexit) with
      | nil => exact ⟨{ c with mode := .returning }, h2.swap (h2.here.modes _) rfl, fun main cs w => by simp only [hd]; rfl⟩
      | cons x l => exact ⟨{ c with mode := .panicking (x :: l) }, h2.swap (h2.here.modes _) rfl, fun main cs w => by simp only [hd]; rfl⟩
    · exact ⟨c, h2, fun main cs w => rfl⟩
theorem doReturn_bot (hok : StOK P fr []) (v : Value) (w : World) : doReturn P true fr [sent P] none v w = .go (gor (sent P) []) w := by
  have e : fr.kind = .normal := hok.bot
  simp only [doReturn, e]
  rfl

theorem catches_false (hok : StOK P fr up) : fr.catches P = false := by
  unfold Frame.catches
  split
  · rename_i d b r a k h1 h2
    have := hok.here.todo _ (by rw [h2]; exact List.mem_cons_self)
    cases this
  · rfl

theorem nilpan {t : Target} {m : FrameMode} (h : ((t matches .nil) && (m matches .panicking _)) = true) : t = .nil ∧ ∃ c, m = .panicking c := by
  cases t <;> cases m <;> first | exact ⟨rfl, _, rfl⟩ | (exact absurd h (by simp))

/-- A deferred call. -/
theorem goes_deferred (M : Mild2 P) {d : Deferred} (hd : okT d.target) (hok' : StOK P fr' up) (hw : VOK V w)
    (h : ∀ main cs w, stepG P main (gor fr (up ++ cs)) w = callDeferred P fr' (up ++ cs) none d w) : Goes V P fr up w := by
  by_cases hc : d.target = .nil ∧ ∃ c, fr'.mode = .panicking c
  · obtain ⟨h1, c, h2⟩ := hc
    exact Goes.ends fun main cs w => ⟨.unsupported (.noEntry "machine/Return: a deferred call of a nil function value, made while the frame is unwinding") (fr'.pos P), by rw [h]; unfold callDeferred; simp only [h1, h2]; rfl⟩
  have hcall : ∀ cs w, callDeferred P fr' cs none d w = _ := fun cs w => by
    unfold callDeferred
    exact if_neg (fun hx => hc (nilpan hx))
  rcases sim_invoke (V := V) M.toMild hd d.args w hw with ⟨A, h1, h2, h3⟩ | ⟨A, hd⟩
  · have hcalm : ∀ e ∈ seen P fr'.fn ((invoke d.target d.args).runT P w #[]).2, CalmV V e := fun e he => (h2 #[] e (mem_seen he)).elim (fun z => by simp at z) id
    have hT : (invoke d.target d.args).runT P w #[] = ((invoke d.target d.args).run P w, ((invoke d.target d.args).runT P w #[]).2) := by rw [← Sem.runT_fst P _ w #[]]
    generalize hE : ((invoke d.target d.args).runT P w #[]).2 = E at hT hcalm
    have hTt : ∀ τ D, Agr A τ D → ∃ E', (invoke d.target d.args).runT P (V.world τ D w) #[] = (veilR V τ (D + A.length) ((invoke d.target d.args).run P w), E') := fun τ D hA =>
      ⟨((invoke d.target d.args).runT P (V.world τ D w) #[]).2, by rw [← h3 τ D hA, ← Sem.runT_fst P _ _ #[]]⟩
    cases hr : (invoke d.target d.args).run P w with
    | halt hh w' =>
      rw [hr] at h1 hT hTt
      cases hh <;> first | exact False.elim h1 | skip
      rename_i v
      refine .go A (fr'.raise [{ v, recovered := false }]) up w' (seen P fr'.fn E) (hok'.swap (hok'.here.raise _) (raise_kind _ _)) h1.1 h1.2 hcalm (fun main cs => ?_) (fun τ D hA => ?_)
      · rw [h, hcall]; simp only [hT, GStep.after, Array.append_empty, gor]
      · obtain ⟨E', hE'⟩ := hTt τ D hA
        rw [h, hcall]; simp only [hE', veilR, GStep.bare_after]; rfl
    | ok v w' =>
      rw [hr] at h1 hT hTt
      obtain ⟨hv, hvok, hkeep⟩ := h1
      cases v <;> first | (exact hv.elim) | skip
      case enter f args =>
        refine .go A (Frame.enter P f args .deferred) (fr' :: up) w' (seen P fr'.fn E) (hok'.push (FrOK.enter M f args (.inr rfl))) hvok hkeep hcalm (fun main cs => ?_) (fun τ D hA => ?_)
        · rw [h, hcall]; simp only [hT, GStep.after, Array.append_empty, gor]; rfl
        · obtain ⟨E', hE'⟩ := hTt τ D hA
          rw [h, hcall]; simp only [hE', veilR, GStep.bare_after]; rfl
      case recover =>
        cases hm : fr'.mode with
        | returning =>
          cases ht : tryRecover fr' up with
          | none =>
            refine .go A fr' up w' (seen P fr'.fn E) hok' hvok hkeep hcalm (fun main cs => ?_) (fun τ D hA => ?_)
            · rw [h, hcall]; simp only [hT, hm, tryRecover_app hok', ht, Option.map_none, GStep.after, Array.append_empty, gor]
            · obtain ⟨E', hE'⟩ := hTt τ D hA
              rw [h, hcall]; simp only [hE', veilR, GStep.bare_after, hm, tryRecover_app hok', ht, Option.map_none]; rfl
          | some x =>
            obtain ⟨v, up'⟩ := x
            refine .go A fr' up' w' (seen P fr'.fn E) (tryRecover_ok hok' ht _ hok'.here rfl) hvok hkeep hcalm (fun main cs => ?_) (fun τ D hA => ?_)
            · rw [h, hcall]; simp only [hT, hm, tryRecover_app hok', ht, Option.map_some, GStep.after, Array.append_empty, gor]
            · obtain ⟨E', hE'⟩ := hTt τ D hA
              rw [h, hcall]; simp only [hE', veilR, GStep.bare_after, hm, tryRecover_app hok', ht, Option.map_some]; rfl
        | run =>
          refine .go A fr' up w' (seen P fr'.fn E) hok' hvok hkeep hcalm (fun main cs => ?_) (fun τ D hA => ?_)
          · rw [h, hcall]; simp only [hT, hm, GStep.after, Array.append_empty, gor]
          · obtain ⟨E', hE'⟩ := hTt τ D hA
            rw [h, hcall]; simp only [hE', veilR, GStep.bare_after, hm]; rfl
        | panicking c =>
          refine .go A fr' up w' (seen P fr'.fn E) hok' hvok hkeep hcalm (fun main cs => ?_) (fun τ D hA => ?_)
          · rw [h, hcall]; simp only [hT, hm, GStep.after, Array.append_empty, gor]
          · obtain ⟨E', hE'⟩ := hTt τ D hA
            rw [h, hcall]; simp only [hE', veilR, GStep.bare_after, hm]; rfl
      all_goals
        refine .go A fr' up w' (seen P fr'.fn E) hok' hvok hkeep hcalm (fun main cs => ?_) (fun τ D hA => ?_)
        · rw [h, hcall]; simp only [hT, GStep.after, Array.append_empty, gor]
        · obtain ⟨E', hE'⟩ := hTt τ D hA
          rw [h, hcall]; simp only [hE', veilR, GStep.bare_after]; rfl
  · refine .lost A fun τ D hA => ?_
    obtain ⟨hh, w', hdd, hrun⟩ := hd τ D hA
    obtain ⟨E', hT⟩ : ∃ E', (invoke d.target d.args).runT P (V.world τ D w) #[] = (.halt hh w', E') := ⟨((invoke d.target d.args).runT P (V.world τ D w) #[]).2, by rw [← hrun, ← Sem.runT_fst P _ _ #[]]⟩
    rw [h, hcall]
    cases hh with
    | stuck x => simp only [hT, GStep.bare_after]; trivial
    | unsupported u => simp only [hT, GStep.bare_after]; trivial
    | _ => exact hdd.elim

theorem goes_return {v : Value} (hok : StOK P fr up) (hw : VOK V w) (h : ∀ main cs w, stepG P main (gor fr (up ++ cs)) w = doReturn P main fr (up ++ cs) none v w) : Goes V P fr up w := by
  cases up with
  | nil => exact .lost [] fun τ D _ => by rw [h]; simp only [List.nil_append]; rw [doReturn_bot hok]; exact .inl rfl
  | cons c up =>
    obtain ⟨c', hc, hr⟩ := doReturn_up hok v
    exact Goes.to hc hw fun main cs w => by rw [h, hr]

/-- A step that leaves a frame. -/
theorem goes_unwind (M : Mild2 P) (hok : StOK P fr up) (hm : fr.mode ≠ .run) (hw : VOK V w) : Goes V P fr up w := by
  have hrun := fun main cs w => stepG_not_run (P := P) hm main cs w
  cases hd : fr.defers with
  | cons d ds =>
    have hdo := hok.here.defers d (by rw [hd]; exact List.mem_cons_self)
    have hok' : StOK P { fr with defers := ds } up := hok.swap ⟨hok.here.todo, fun x hx => hok.here.defers x (by rw [hd]; exact List.mem_cons_of_mem _ hx), hok.here.round, hok.here.kind⟩ rfl
    refine goes_deferred M hdo hok' hw fun main cs w => ?_
    rw [hrun]
    obtain ⟨t, a⟩ := d
    unfold unwind
    rw [hd]
    cases t <;> first | exact hdo.elim | rfl
  | nil =>
    cases hmm : fr.mode with
    | run => exact absurd hmm hm
    | panicking chain =>
      cases up with
      | nil =>
        refine .lost [] fun τ D _ => ?_
        rw [hrun]
        unfold unwind
        simp only [hd, hmm, catches_false hok, List.nil_append, if_false, Bool.false_eq_true]
        exact .inr ⟨chain, rfl⟩
      | cons c up =>
        refine Goes.to (fr' := c.raise chain) (hok.pop.swap (hok.pop.here.raise _) (raise_kind _ _)) hw fun main cs w => ?_
        rw [hrun]
        unfold unwind
        simp only [hd, hmm, catches_false hok, List.cons_append, if_false, Bool.false_eq_true]
        rfl
    | returning =>
      cases hf : P.funcs[fr.fn]? with
      | none =>
        refine goes_return (v := fr.tmps.getD 0 undef) hok hw fun main cs w => ?_
        rw [hrun]; unfold unwind; simp only [hd, hmm, hf]
      | some fn =>
        have hu : ∀ main cs w, stepG P main (gor fr cs) w = GStep.after (seen P fr.fn ((results fn fr.tmps).runT P w #[]).2) (match ((results fn fr.tmps).runT P w #[]).1 with
            | .ok v w => doReturn P main fr cs none v w
            | .halt (.stuck s) w => .ended (.stuck s (fr.pos P)) w
            | .halt _ w => .ended (.stuck "return: the result variables cannot be read" (fr.pos P)) w) := fun main cs w => by
          rw [hrun]; unfold unwind; simp only [hd, hmm, hf]; rfl
        rcases sim_results (V := V) (P := P) fn fr.tmps w hw with ⟨A, h1, h2, h3⟩ | ⟨A, hdd⟩
        · have hcalm : ∀ e ∈ seen P fr.fn ((results fn fr.tmps).runT P w #[]).2, CalmV V e := fun e he => (h2 #[] e (mem_seen he)).elim (fun z => by simp at z) id
          cases hr : (results fn fr.tmps).run P w with
          | halt hh w' =>
            refine .lost A fun τ D hA => ?_
            rw [hu, GStep.bare_after, Sem.runT_fst, h3 τ D hA, hr]
            simp only [veilR]
            cases hh <;> trivial
          | ok v w' =>
            rw [hr] at h1
            cases up with
            | nil =>
              refine .lost A fun τ D hA => ?_
              rw [hu, GStep.bare_after, Sem.runT_fst, h3 τ D hA, hr]
              simp only [veilR, List.nil_append]
              rw [doReturn_bot hok]; exact .inl rfl
            | cons c up =>
              obtain ⟨c', hc, hret⟩ := doReturn_up hok v
              refine .go A c' up w' _ hc h1.2.1 h1.2.2 hcalm (fun main cs => ?_) (fun τ D hA => ?_)
              · rw [hu, Sem.runT_fst, hr]; simp only; rw [hret]; simp only [GStep.after, Array.append_empty]
              · rw [hu, GStep.bare_after, Sem.runT_fst, h3 τ D hA, hr]; simp only [veilR]; rw [hret]; rfl
        · refine .lost A fun τ D hA => ?_
          obtain ⟨hh, w', _, he⟩ := hdd τ D hA
          rw [hu, GStep.bare_after, Sem.runT_fst, he]
          cases hh <;> trivial

/-- A STEP. -/
theorem goes (M : Mild2 P) (hok : StOK P fr up) (hw : VOK V w) : Goes V P fr up w := by
  by_cases hm : fr.mode = .run
  · exact goes_exec M hok hm hw
  · exact goes_unwind M hok hm hw
end
end Go.Proofs.Ytnbaiinhalplcaa
