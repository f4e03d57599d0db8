/- In company: a call that one does alone; an operation that only reads; the entry of a region. Of whatever program. Conditions: none. -/
import Derived.Test.YtodcnhodbeakiaaLfP
namespace Go.Proofs.Ytodcnhodbeakiaa
set_option linter.unusedVariables false
set_option linter.unusedSimpArgs false
open Go.Conc

section
variable {P : Program} {Post : Value → World → Prop} {pl : Nat → Option Place} {n h : Nat} {cs : List Frame} {w w' : World} {F : Nat → Option (Nat × Nat)}

/-- A CALL that one does alone, whatever is drawn. -/
theorem Win.calls (M : Mild2 P) (L : Lies pl F w) {f : FuncId} {args : Array Value} {c : Frame} {R : Ending → World → Prop} (hok : StOK P c []) (hc : ∀ τ, Calls P f args (L.veil.world τ 0 w) R) (hR : ∀ e w, R e w → ∃ v, e = .returned v)
    (hQ : ∀ v w' τ D, StOK P (c.finish v) [] → VOK L.veil w' → VKeep L.veil w w' → R (.returned v) (L.veil.world τ D w') → Win P Post pl n h (gor (c.finish v) cs) w') : Win P Post pl n h (gor (Frame.enter P f args .normal) (c :: cs)) w := by
  refine Win.lift (up := [c]) (cs := cs) M L.over (commOK L.over cs) (hok.push (FrOK.enter M f args (.inl rfl))) L.ok (fun fr' up' w' => up' = [] ∧ ∃ v, R (.returned v) w' ∧ fr' = c.finish v) (fun τ => ?_) (fun fr' up' w' τ D h1 h2 h3 h4 => ?_)
  · obtain ⟨e, w', fr, hr, hcm, _, hl⟩ := hc τ [c, sent P]
    obtain ⟨v, rfl⟩ := hR e w' hr
    have hs : Steps P (lone (Frame.enter P f args .normal) [c, sent P] (L.veil.world τ 0 w)) (lone fr [c, sent P] w') := hcm
    obtain ⟨N, hN⟩ := hs.trans (.one (step_leave_returned hl))
    exact ⟨N, c.finish v, [], w', hN, rfl, v, hr, rfl⟩
  · obtain ⟨rfl, v, hr, rfl⟩ := h4
    exact hQ v w' τ D h1 h2 h3 hr

/-- What is listed by who only reads. -/
def Reads (es : Array Event) : Prop := ∀ e ∈ es, e.write = false ∧ ∀ m, e.loc ≠ .mark m
theorem Reads.calm {es : Array Event} (H : Reads es) : ∀ e ∈ es, Calm pl e := by
  intro e he
  obtain ⟨h1, h2⟩ := H e he
  refine ⟨fun x hx hw g c hl => ?_, h2 _, h2 _⟩
  obtain ⟨loc, wr, sy⟩ := e
  simp only at h1
  subst h1
  cases loc <;> simp [MemAct.ofEvent, MemAct.touch?] at hx <;> first | (subst hx; cases hw; done) | exact absurd rfl (h2 _) | (cases sy <;> simp at hx <;> (subst hx; cases hw))

section ops
variable {b : Frame} {a : Act} {k : List Item} {ops : Array Oper} {i : Nat} {rest : List Nat} {o : Oper} {v : Value}

theorem stepG_oper (main : Bool) (ho : ops[i]? = some o) (hwt : Region.wanted o (yielded ops a.tmps) = true) (w : World) :
    stepG P main (gor (b.at a (.inRegion ops (i :: rest) :: k)) cs) w = stepG.apply P true (b.at a (.inRegion ops (i :: rest) :: k)) cs none (execOp a.eval o) w := by
  have he := Frame.eval_at' b a (.inRegion ops (i :: rest) :: k)
  simp only [Frame.at] at he
  simp [stepG, gor, stepG.exec, stepG.oper, Frame.oper?, Frame.at, ho, hwt, he]
theorem stepG_value (hb : b.kind = .normal ∨ b.kind = .deferred) (main : Bool) (ho : ops[i]? = some o) (hwt : Region.wanted o (yielded ops a.tmps) = true) {w w' : World} {es : Array Event} (hr : (execOp a.eval o).runT P w #[] = (.ok (.value v) w', es)) :
    stepG P main (gor (b.at a (.inRegion ops (i :: rest) :: k)) cs) w = .go (gor (b.at (a.put o.dst v) (.inRegion ops rest :: k)) cs) w' (seen P b.fn es) := by
  have hke : ((b.at a (.inRegion ops (i :: rest) :: k)).kind == .early) = false := by
    show (b.kind == .early) = false
    rcases hb with e | e <;> rw [e] <;> rfl
  have hf := Frame.finish_at b a ops i rest k v
  rw [ho] at hf
  rw [stepG_oper main ho hwt]
  simp only [stepG.apply, hr, if_true, hke, if_false, Bool.false_eq_true, GStep.after, Array.append_empty, gor]
  rw [hf]; rfl

/-- AN OPERATION that only reads. -/
theorem Win.op (hb : b.kind = .normal ∨ b.kind = .deferred) (ho : ops[i]? = some o) (hwt : Region.wanted o (yielded ops a.tmps) = true) (hr : ∀ d, ∃ es, (execOp a.eval o).runT P (w.at d) #[] = (.ok (.value v) (w.at d), es) ∧ Reads es)
    (H : Win P Post pl n h (gor (b.at (a.put o.dst v) (.inRegion ops rest :: k)) cs) w) : Win P Post pl n h (gor (b.at a (.inRegion ops (i :: rest) :: k)) cs) w :=
  Win.step rfl fun d => by
    obtain ⟨es, h1, h2⟩ := hr d
    exact ⟨_, _, _, stepG_value hb (h == 0) ho hwt h1, ⟨fun _ _ _ _ _ => rfl, fun _ _ _ z => z⟩, fun e he => h2.calm e (mem_seen he), H.at d⟩
/-- One that is not wanted. -/
theorem Win.opSkip (ho : ops[i]? = some o) (hwt : Region.wanted o (yielded ops a.tmps) = false) (H : Win P Post pl n h (gor (b.at (a.put o.dst undef) (.inRegion ops rest :: k)) cs) w) : Win P Post pl n h (gor (b.at a (.inRegion ops (i :: rest) :: k)) cs) w := by
  refine .turnless (fun d => ?_) H
  have hf := Frame.finish_at b a ops i rest k undef
  rw [ho] at hf
  simp only [Option.bind_some] at hf
  rw [← hf, stepG_run rfl]
  simp only [stepG.exec, Frame.at, ho, Option.map_some, hwt, Option.getD_some, if_false, Bool.false_eq_true]
  rfl
theorem Win.opsEnd (H : Win P Post pl n h (gor (b.at a k) cs) w) : Win P Post pl n h (gor (b.at a (.inRegion ops [] :: k)) cs) w := .turnless (fun d => rfl) H
/-- A region that does not draw. -/
theorem Win.region {id : Nat} (H : Win P Post pl n h (gor (b.at a (.inRegion ops (List.range ops.size) :: k)) cs) w) : Win P Post pl n h (gor (b.at a (.code (.region id ops false) :: k)) cs) w := .turnless (fun d => rfl) H
/-- One that draws its order. -/
theorem Win.regionDraws {id : Nat} (H : ∀ t, Win P Post pl n h (gor (b.at a (.inRegion ops (Region.schedule (P.follows .mixedOrders) ops t) :: k)) cs) w) : Win P Post pl n h (gor (b.at a (.code (.region id ops true) :: k)) cs) w :=
  Win.step rfl fun d => by
    refine ⟨gor (b.at a (.inRegion ops (Region.schedule (P.follows .mixedOrders) ops (w.tape d (.order b.fn id))) :: k)) cs, w.at (d + 1), #[], ?_, ⟨fun _ _ _ _ _ => rfl, fun _ _ _ z => z⟩, fun e he => by simp at he, (H _).at _⟩
    rw [stepG_run rfl]
    rfl
end ops
end
end Go.Proofs.Ytodcnhodbeakiaa
