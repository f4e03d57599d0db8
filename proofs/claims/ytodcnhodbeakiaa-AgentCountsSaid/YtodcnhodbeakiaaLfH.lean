/- The veiled twin, through one step of a goroutine. Of whatever program. Conditions: none. -/
import Derived.Test.YtodcnhodbeakiaaLfG
import Derived.Conc.Listed
namespace Go.Proofs.Ytodcnhodbeakiaa
set_option linter.unusedVariables false
set_option linter.unusedSimpArgs false
open Go.Conc

def gor (fr : Frame) (cs : List Frame) : Goroutine := { frame := fr, callers := cs, status := .running, dying := none }

def codeOK (P : Program) : Code → Bool
  | .region _ ops _ => ops.all (opOK P)
  | .seq a b | .cond _ a b => codeOK P a && codeOK P b
  | .block _ c | .loop c | .scope c => codeOK P c
  | .rangeFunc .. => false
  | _ => true
def itemOK (P : Program) : Item → Bool
  | .code c | .inLoop c | .inScope c => codeOK P c
  | .inBlock _ => true
  | .inRegion ops _ => ops.all (opOK P)
  | _ => false
structure FrOK (P : Program) (fr : Frame) : Prop where
  todo : ∀ i ∈ fr.todo, itemOK P i = true
  defers : ∀ d ∈ fr.defers, okT d.target
  round : fr.roundOf = none
  kind : fr.kind = .normal ∨ fr.kind = .deferred
def BotN : List Frame → Prop
  | [] => True
  | [f] => f.kind = .normal
  | _ :: f :: l => BotN (f :: l)
structure StOK (P : Program) (fr : Frame) (up : List Frame) : Prop where
  here : FrOK P fr
  all : ∀ f ∈ up, FrOK P f
  bot : BotN (fr :: up)

theorem BotN.swap {f g : Frame} {up : List Frame} (h : BotN (f :: up)) (hk : g.kind = f.kind) : BotN (g :: up) := by
  cases up with
  | nil => exact hk.trans h
  | cons a l => exact h
theorem StOK.swap {P : Program} {f g : Frame} {up : List Frame} (h : StOK P f up) (hg : FrOK P g) (hk : g.kind = f.kind) : StOK P g up := ⟨hg, h.all, h.bot.swap hk⟩
theorem StOK.push {P : Program} {f g : Frame} {up : List Frame} (h : StOK P f up) (hg : FrOK P g) : StOK P g (f :: up) :=
  ⟨hg, fun x hx => (List.mem_cons.1 hx).elim (fun e => e ▸ h.here) (h.all x), h.bot⟩
theorem StOK.pop {P : Program} {f g : Frame} {up : List Frame} (h : StOK P f (g :: up)) : StOK P g up :=
  ⟨h.all g List.mem_cons_self, fun x hx => h.all x (List.mem_cons_of_mem _ hx), h.bot⟩

structure Mild2 (P : Program) : Prop extends Mild P where
  code : ∀ (f : FuncId) (fn : Func) (c : Code), P.funcs[f]? = some fn → fn.body = some c → codeOK P c = true

/-- What lies below in the twin: whoever comes back to it comes to grief. -/
def sent (P : Program) : Frame := { fn := P.funcs.size, tmps := #[], todo := [.code (.refuse "")], defers := [{ target := .nil, args := #[] }], mode := .run, kind := .normal }
def Lost (P : Program) : GStep → Prop
  | .ended .. | .spawn .. => True
  | .go g _ _ => g = gor (sent P) [] ∨ ∃ c, g = gor ((sent P).raise c) []
  | _ => False

inductive Goes (V : Veil) (P : Program) (fr : Frame) (up : List Frame) (w : World) : Prop
  | go (A : List (Question → Nat)) (fr' : Frame) (up' : List Frame) (w' : World) (es : Array Event) (ok : StOK P fr' up') (vok : VOK V w') (keep : VKeep V w w') (calm : ∀ e ∈ es, CalmV V e)
      (real : ∀ main cs, stepG P main (gor fr (up ++ cs)) w = .go (gor fr' (up' ++ cs)) w' es)
      (twin : ∀ τ D, Agr A τ D → (stepG P true (gor fr (up ++ [sent P])) (V.world τ D w)).bare = .go (gor fr' (up' ++ [sent P])) (V.world τ (D + A.length) w'))
  | comm (A : List (Question → Nat)) (cases : Array CommCase) (b : Bool) (shape : CommShape) (w' : World) (es : Array Event) (vok : VOK V w') (keep : VKeep V w w') (calm : ∀ e ∈ es, CalmV V e)
      (reg : ∃ ops i rest k, fr.todo = .inRegion ops (i :: rest) :: k)
      (real : ∀ main cs, stepG P main (gor fr (up ++ cs)) w = .comm (gor fr (up ++ cs)) cases b shape w' es)
      (twin : ∀ τ D, Agr A τ D → (stepG P true (gor fr (up ++ [sent P])) (V.world τ D w)).bare = .comm (gor fr (up ++ [sent P])) cases b shape (V.world τ (D + A.length) w'))
  | lost (A : List (Question → Nat)) (twin : ∀ τ D, Agr A τ D → Lost P (stepG P true (gor fr (up ++ [sent P])) (V.world τ D w)).bare)

section
variable {V : Veil} {P : Program} {fr fr' : Frame} {up up' : List Frame} {w : World}

theorem Goes.to (hok : StOK P fr' up') (hw : VOK V w) (h : ∀ main cs w, stepG P main (gor fr (up ++ cs)) w = .go (gor fr' (up' ++ cs)) w) : Goes V P fr up w :=
  .go [] fr' up' w #[] hok hw (VKeep.refl V w) (fun e he => by simp at he) (fun main cs => h main cs w) (fun τ D _ => by rw [h]; rfl)
theorem Goes.ends (h : ∀ main cs w, ∃ o, (stepG P main (gor fr (up ++ cs)) w).bare = .ended o w) : Goes V P fr up w :=
  .lost [] fun τ D _ => by obtain ⟨o, ho⟩ := h true [sent P] (V.world τ D w); rw [ho]; trivial

theorem stepG_run (hm : fr.mode = .run) (main : Bool) (cs : List Frame) (w : World) : stepG P main (gor fr cs) w = stepG.exec P main true fr cs none w := by
  simp only [stepG, gor, hm]
theorem stepG_not_run (hm : fr.mode ≠ .run) (main : Bool) (cs : List Frame) (w : World) : stepG P main (gor fr cs) w = unwind P main fr cs none w := by
  simp only [stepG, gor]

theorem FrOK.todos (h : FrOK P fr) {t : List Item} (ht : ∀ i ∈ t, itemOK P i = true) : FrOK P { fr with todo := t } := ⟨ht, h.defers, h.round, h.kind⟩
theorem FrOK.modes (h : FrOK P fr) (m : FrameMode) : FrOK P { fr with mode := m } := ⟨h.todo, h.defers, h.round, h.kind⟩
theorem FrOK.raise (h : FrOK P fr) (c : List PanicEntry) : FrOK P (fr.raise c) := by
  unfold Frame.raise; split <;> exact ⟨h.todo, h.defers, h.round, h.kind⟩
theorem raise_kind (fr : Frame) (c : List PanicEntry) : (fr.raise c).kind = fr.kind := by unfold Frame.raise; split <;> rfl
theorem finish_kind (fr : Frame) (v : Value) : (fr.finish v).kind = fr.kind := by unfold Frame.finish; split <;> rfl
theorem FrOK.finish (h : FrOK P fr) (v : Value) : FrOK P (fr.finish v) := by
  have ht := h.todo
  unfold Frame.finish
  split
  · rename_i e
    rw [e] at ht
    have h0 := ht _ List.mem_cons_self
    exact ⟨fun i hi => (List.mem_cons.1 hi).elim (fun z => by subst z; exact h0) fun z => ht i (List.mem_cons_of_mem _ z), h.defers, h.round, h.kind⟩
  · rename_i e; rw [e] at ht; exact absurd (ht _ List.mem_cons_self) (by simp [itemOK])
  · rename_i e; rw [e] at ht; exact absurd (ht _ List.mem_cons_self) (by simp [itemOK])
  · rename_i e; rw [e] at ht; exact absurd (ht _ List.mem_cons_self) (by simp [itemOK])
  · rename_i e; rw [e] at ht; exact absurd (ht _ List.mem_cons_self) (by simp [itemOK])
  · exact h
theorem FrOK.enter (M : Mild2 P) (f : FuncId) (args : Array Value) {k : CallKind} (hk : k = .normal ∨ k = .deferred) : FrOK P (Frame.enter P f args k) := by
  refine ⟨fun i hi => ?_, fun d hd => (by simp [Frame.enter] at hd), rfl, hk⟩
  simp only [Frame.enter, List.mem_singleton] at hi
  subst hi
  simp only [itemOK]
  cases hf : P.funcs[f]? with
  | none => rfl
  | some fn =>
    simp only [Option.bind_some]
    cases hb : fn.body with
    | none => rfl
    | some c => exact M.code f fn c hf hb

theorem tryRecover_app {cs : List Frame} (h : StOK P fr up) : tryRecover fr (up ++ cs) = (tryRecover fr up).map fun x => (x.1, x.2 ++ cs) := by
  unfold tryRecover
  rcases h.here.kind with e | e
  · rw [e]; rfl
  · cases up with
    | nil => have := h.bot; simp only [BotN] at this; rw [e] at this; cases this
    | cons a l =>
      rw [e]
      simp only [List.cons_append]
      split <;> simp
theorem tryRecover_ok (h : StOK P fr up) {v : Value} {up' : List Frame} (e : tryRecover fr up = some (v, up')) : ∀ g, FrOK P g → g.kind = fr.kind → StOK P g up' := by
  intro g hg hgk
  unfold tryRecover at e
  rcases h.here.kind with k | k
  · rw [k] at e; cases e
  · cases up with
    | nil => rw [k] at e; cases e
    | cons a l =>
      rw [k] at e
      simp only at e
      split at e
      · obtain ⟨rfl, rfl⟩ := by simpa using e
        have h2 := h.pop
        refine ⟨hg, fun x hx => (List.mem_cons.1 hx).elim (fun z => by subst z; exact h2.here.modes _) (h2.all x), ?_⟩
        have hb : BotN (a :: l) := h.bot
        show BotN (_ :: l)
        exact hb.swap (g := { a with mode := _ }) rfl
      · cases e

/-- A step that reckons. -/
theorem goes_apply (M : Mild2 P) {s : Sem Next} (hs : Sim V P s NextOK) (hok : StOK P fr up) {ops : Array Oper} {i : Nat} {rest : List Nat} {k : List Item} (hreg : fr.todo = .inRegion ops (i :: rest) :: k) (hw : VOK V w)
    (h : ∀ main cs w, stepG P main (gor fr (up ++ cs)) w = stepG.apply P true fr (up ++ cs) none s w) : Goes V P fr up w := by
  have hke : (fr.kind == .early) = false := by rcases hok.here.kind with e | e <;> rw [e] <;> rfl
  have hfin : ∀ v, StOK P (fr.finish v) up := fun v => hok.swap (hok.here.finish v) (finish_kind _ _)
  rcases hs w hw with ⟨A, h1, h2, h3⟩ | ⟨A, hd⟩
  · have hcalm : ∀ e ∈ seen P fr.fn (s.runT P w #[]).2, CalmV V e := fun e he => (h2 #[] e (mem_seen he)).elim (fun z => by simp at z) id
    have hT : s.runT P w #[] = (s.run P w, (s.runT P w #[]).2) := by rw [← Sem.runT_fst P s w #[]]
    generalize hE : (s.runT P w #[]).2 = E at hT hcalm
    have hTt : ∀ τ D, Agr A τ D → ∃ E', s.runT P (V.world τ D w) #[] = (veilR V τ (D + A.length) (s.run P w), E') := fun τ D hA =>
      ⟨(s.runT P (V.world τ D w) #[]).2, by rw [← h3 τ D hA, ← Sem.runT_fst P s _ #[]]⟩
    cases hr : s.run P w with
    | halt hh w' =>
      rw [hr] at h1 hT hTt
      cases hh <;> first | exact False.elim h1 | skip
      rename_i v
      refine .go A (fr.raise [{ v, recovered := false }]) up w' (seen P fr.fn E) (hok.swap (hok.here.raise _) (raise_kind _ _)) h1.1 h1.2 hcalm (fun main cs => ?_) (fun τ D hA => ?_)
      · rw [h]; simp only [stepG.apply, hT, if_true, hke, if_false, Bool.false_eq_true, GStep.after, Array.append_empty, gor]
      · obtain ⟨E', hE'⟩ := hTt τ D hA
        rw [h]; simp only [stepG.apply, hE', veilR, if_true, GStep.bare_after]; rfl
    | ok v w' =>
      rw [hr] at h1 hT hTt
      obtain ⟨hv, hvok, hkeep⟩ := h1
      cases v <;> first | (exact hv.elim) | skip
      case value v =>
        refine .go A (fr.finish v) up w' (seen P fr.fn E) (hfin v) hvok hkeep hcalm (fun main cs => ?_) (fun τ D hA => ?_)
        · rw [h]; simp only [stepG.apply, hT, if_true, hke, if_false, Bool.false_eq_true, GStep.after, Array.append_empty, gor]
        · obtain ⟨E', hE'⟩ := hTt τ D hA
          rw [h]; simp only [stepG.apply, hE', veilR, if_true, GStep.bare_after]; rfl
      case skip =>
        refine .go A (fr.finish undef) up w' (seen P fr.fn E) (hfin _) hvok hkeep hcalm (fun main cs => ?_) (fun τ D hA => ?_)
        · rw [h]; simp only [stepG.apply, hT, if_true, hke, if_false, Bool.false_eq_true, GStep.after, Array.append_empty, gor]
        · obtain ⟨E', hE'⟩ := hTt τ D hA
          rw [h]; simp only [stepG.apply, hE', veilR, if_true, GStep.bare_after]; rfl
      case enter f args =>
        refine .go A (Frame.enter P f args .normal) (fr :: up) w' (seen P fr.fn E) (hok.push (FrOK.enter M f args (.inl rfl))) hvok hkeep hcalm (fun main cs => ?_) (fun τ D hA => ?_)
        · rw [h]; simp only [stepG.apply, hT, if_true, hke, if_false, Bool.false_eq_true, GStep.after, Array.append_empty, gor, hreg]; rfl
        · obtain ⟨E', hE'⟩ := hTt τ D hA
          rw [h]; simp only [stepG.apply, hE', veilR, if_true, GStep.bare_after, hreg]; rfl
      case defer d =>
        have hds : ∀ x ∈ d :: fr.defers, okT x.target := by
          intro x hx
          rcases List.mem_cons.1 hx with rfl | z
          · exact hv
          · exact hok.here.defers x z
        refine .go A ({ fr with defers := d :: fr.defers }.finish undef) up w' (seen P fr.fn E) (hok.swap (FrOK.finish (fr := { fr with defers := d :: fr.defers }) ⟨hok.here.todo, hds, hok.here.round, hok.here.kind⟩ _) (by rw [finish_kind])) hvok hkeep hcalm (fun main cs => ?_) (fun τ D hA => ?_)
        · rw [h]; simp only [stepG.apply, hT, if_true, hke, if_false, Bool.false_eq_true, GStep.after, Array.append_empty, gor]
        · obtain ⟨E', hE'⟩ := hTt τ D hA
          rw [h]; simp only [stepG.apply, hE', veilR, if_true, GStep.bare_after]; rfl
      case recover =>
        cases ht : tryRecover fr up with
        | none =>
          refine .go A (fr.finish .nilIface) up w' (seen P fr.fn E) (hfin _) hvok hkeep hcalm (fun main cs => ?_) (fun τ D hA => ?_)
          · rw [h]; simp only [stepG.apply, hT, if_true, hke, if_false, Bool.false_eq_true, hok.here.round, tryRecover_app hok, ht, Option.map_none, GStep.after, Array.append_empty, gor]
          · obtain ⟨E', hE'⟩ := hTt τ D hA
            rw [h]; simp only [stepG.apply, hE', veilR, if_true, GStep.bare_after, hok.here.round, tryRecover_app hok, ht, Option.map_none]; rfl
        | some x =>
          obtain ⟨v, up'⟩ := x
          refine .go A (fr.finish v) up' w' (seen P fr.fn E) (tryRecover_ok hok ht _ (hok.here.finish v) (finish_kind _ _)) hvok hkeep hcalm (fun main cs => ?_) (fun τ D hA => ?_)
          · rw [h]; simp only [stepG.apply, hT, if_true, hke, if_false, Bool.false_eq_true, hok.here.round, tryRecover_app hok, ht, Option.map_some, GStep.after, Array.append_empty, gor]
          · obtain ⟨E', hE'⟩ := hTt τ D hA
            rw [h]; simp only [stepG.apply, hE', veilR, if_true, GStep.bare_after, hok.here.round, tryRecover_app hok, ht, Option.map_some]; rfl
      case comm cases b shape =>
        refine .comm A cases b shape w' (seen P fr.fn E) hvok hkeep hcalm ⟨_, _, _, _, hreg⟩ (fun main cs => ?_) (fun τ D hA => ?_)
        · rw [h]; simp only [stepG.apply, hT, if_true, hke, if_false, Bool.false_eq_true, GStep.after, Array.append_empty, gor]
        · obtain ⟨E', hE'⟩ := hTt τ D hA
          rw [h]; simp only [stepG.apply, hE', veilR, if_true, GStep.bare_after]; rfl
      case spawn d =>
        refine .lost A fun τ D hA => ?_
        obtain ⟨E', hE'⟩ := hTt τ D hA
        obtain ⟨t, dargs⟩ := d
        have hv' : t ≠ .nil := hv
        rw [h]
        cases t <;> first | exact absurd rfl hv' | (simp only [stepG.apply, hE', veilR, if_true, GStep.bare_after, Bool.and_false, Bool.false_and, if_false, Bool.false_eq_true]; trivial)
  · refine .lost A fun τ D hA => ?_
    obtain ⟨hh, w', hdd, hrun⟩ := hd τ D hA
    obtain ⟨E', hT⟩ : ∃ E', s.runT P (V.world τ D w) #[] = (.halt hh w', E') := ⟨(s.runT P (V.world τ D w) #[]).2, by rw [← hrun, ← Sem.runT_fst P s _ #[]]⟩
    rw [h]
    cases hh with
    | stuck x => simp only [stepG.apply, hT, if_true, GStep.bare_after]; trivial
    | unsupported u =>
      cases u <;> first | exact hdd.elim | (simp only [stepG.apply, hT, if_true, GStep.bare_after]; trivial)
    | _ => exact hdd.elim

theorem sim_results (fn : Func) (tmps : Array Value) : SimT V P (results fn tmps) := by
  unfold results
  refine Sim.bindT (simT_mapM _ _ fun x => ?_) fun _ => Sim.pureT
  split
  · exact Sim.pureT
  · exact Sim.bindT (simT_asAddr _) fun _ => simT_loadVar _ _

theorem exitTo_ok {id : Nat} : ∀ {k k' : List Item}, exitTo id k = some k' → (∀ i ∈ k, itemOK P i = true) → ∀ i ∈ k', itemOK P i = true
  | [], _, h, _ => by cases h
  | i :: k, k', h, hk => by
    have hk2 : ∀ i ∈ k, itemOK P i = true := fun j hj => hk j (List.mem_cons_of_mem _ hj)
    cases i <;> simp only [exitTo] at h <;> first | exact exitTo_ok h hk2 | skip
    split at h
    · obtain rfl := Option.some.inj h; exact hk2
    · exact exitTo_ok h hk2
theorem findLabel_ok : ∀ {c : Code} {l : Nat} {r : Code}, findLabel c l = some r → codeOK P c = true → codeOK P r = true
  | .seq a b, l, r, h, hc => by
    have h0 : (codeOK P a && codeOK P b) = true := hc
    rw [Bool.and_eq_true] at h0
    simp only [findLabel] at h
    split at h
    · rename_i r' hr
      obtain rfl := Option.some.inj h
      show (codeOK P r' && codeOK P b) = true
      rw [findLabel_ok hr h0.1, h0.2]; rfl
    · exact findLabel_ok h h0.2
  | .label l', l, r, h, hc => by
    simp only [findLabel] at h
    split at h
    · obtain rfl := Option.some.inj h; rfl
    · cases h
  | .skip, _, _, h, _ | .region .., _, _, h, _ | .cond .., _, _, h, _ | .block .., _, _, h, _ | .loop _, _, _, h, _ | .scope _, _, _, h, _ | .rangeFunc .., _, _, h, _ | .ret, _, _, h, _ | .exit _, _, _, h, _ | .goto _, _, _, h, _ | .refuse _, _, _, h, _ => by simp [findLabel] at h
theorem gotoIn_ok {l : Nat} : ∀ {k k' : List Item}, gotoIn l k = some k' → (∀ i ∈ k, itemOK P i = true) → ∀ i ∈ k', itemOK P i = true
  | [], _, h, _ => by cases h
  | i :: k, k', h, hk => by
    have hk2 : ∀ i ∈ k, itemOK P i = true := fun j hj => hk j (List.mem_cons_of_mem _ hj)
    have hi := hk i List.mem_cons_self
    cases i <;> simp only [gotoIn] at h <;> first | exact gotoIn_ok h hk2 | skip
    split at h
    · rename_i c r hr
      obtain rfl := Option.some.inj h
      intro j hj
      rcases List.mem_cons.1 hj with rfl | hj
      · exact findLabel_ok hr hi
      · rcases List.mem_cons.1 hj with rfl | hj
        · exact hi
        · exact hk2 j hj
    · exact gotoIn_ok h hk2

/-- One step of code. -/
theorem goes_exec (M : Mild2 P) (hok : StOK P fr up) (hm : fr.mode = .run) (hw : VOK V w) : Goes V P fr up w := by
  obtain ⟨fn, tmps, todo, defers, mode, kind, roundOf⟩ := fr
  obtain rfl : mode = .run := hm
  obtain rfl : roundOf = none := hok.here.round
  have hrun := fun main cs w => stepG_run (P := P) (fr := { fn := fn, tmps := tmps, todo := todo, defers := defers, mode := .run, kind := kind, roundOf := none }) rfl main cs w
  have ht := hok.here.todo
  have hto : ∀ t : List Item, (∀ i ∈ t, itemOK P i = true) → StOK P { fn := fn, tmps := tmps, todo := t, defers := defers, mode := .run, kind := kind, roundOf := none } up := fun t h => hok.swap (hok.here.todos h) rfl
  have hret : StOK P { fn := fn, tmps := tmps, todo := todo, defers := defers, mode := .returning, kind := kind, roundOf := none } up := hok.swap (hok.here.modes .returning) rfl
  cases todo with
  | nil => exact Goes.to hret hw fun main cs w => by rw [hrun]; rfl
  | cons i k =>
    have hi := ht i List.mem_cons_self
    have hk : ∀ j ∈ k, itemOK P j = true := fun j hj => ht j (List.mem_cons_of_mem _ hj)
    have one : ∀ x, itemOK P x = true → ∀ j ∈ x :: k, itemOK P j = true := fun x hx j hj => by
      rcases List.mem_cons.1 hj with rfl | z
      · exact hx
      · exact hk j z
    have two : ∀ x y, itemOK P x = true → itemOK P y = true → ∀ j ∈ x :: y :: k, itemOK P j = true := fun x y hx hy j hj => by
      rcases List.mem_cons.1 hj with rfl | z
      · exact hx
      · exact one y hy j z
    cases i with
    | inBlock id => exact Goes.to (hto k hk) hw fun main cs w => by rw [hrun]; rfl
    | inScope c => exact Goes.to (hto k hk) hw fun main cs w => by rw [hrun]; rfl
    | inLoop c => exact Goes.to (hto _ (two (.code c) (.inLoop c) hi hi)) hw fun main cs w => by rw [hrun]; rfl
    | inRangeFunc l => cases hi
    | endRangeFunc l => cases hi
    | beginRound => cases hi
    | call d b s a => cases hi
    | extern s a => cases hi
    | inRegion ops is =>
      cases is with
      | nil => exact Goes.to (hto k hk) hw fun main cs w => by rw [hrun]; rfl
      | cons i rest =>
        by_cases hwt : ((ops[i]?).map (Region.wanted · (yielded ops tmps))).getD false = true
        · cases ho : ops[i]? with
          | none => rw [ho] at hwt; cases hwt
          | some o =>
            have hop : opOK P o = true := by
              have h0 : (ops.all (opOK P)) = true := hi
              rw [Array.all_eq_true_iff_forall_mem] at h0
              exact h0 o (Array.mem_of_getElem? ho)
            have hs := sim_execOp (V := V) M.toMild (ρ := Frame.eval { fn := fn, tmps := tmps, todo := .inRegion ops (i :: rest) :: k, defers := defers, mode := .run, kind := kind, roundOf := none }) (fun v => rfl) (fun f => rfl) hop
            refine goes_apply M hs hok rfl hw fun main cs w => ?_
            rw [hrun]
            simp only [stepG.exec]
            rw [if_pos hwt]
            simp only [stepG.oper, Frame.oper?, ho]
        · refine Goes.to (fr' := Frame.finish { fn := fn, tmps := tmps, todo := .inRegion ops (i :: rest) :: k, defers := defers, mode := .run, kind := kind, roundOf := none } undef) (hok.swap (hok.here.finish _) (finish_kind _ _)) hw fun main cs w => ?_
          rw [hrun]
          simp only [stepG.exec]
          rw [if_neg hwt]
          rfl
    | code c =>
      cases c with
      | skip => exact Goes.to (hto k hk) hw fun main cs w => by rw [hrun]; rfl
      | label l => exact Goes.to (hto k hk) hw fun main cs w => by rw [hrun]; rfl
      | ret => exact Goes.to hret hw fun main cs w => by rw [hrun]; rfl
      | seq a b =>
        have h0 : (codeOK P a && codeOK P b) = true := hi
        rw [Bool.and_eq_true] at h0
        exact Goes.to (hto _ (two (.code a) (.code b) h0.1 h0.2)) hw fun main cs w => by rw [hrun]; rfl
      | cond c a b =>
        have h0 : (codeOK P a && codeOK P b) = true := hi
        rw [Bool.and_eq_true] at h0
        cases hc : Frame.eval { fn := fn, tmps := tmps, todo := .code (.cond c a b) :: k, defers := defers, mode := .run, kind := kind, roundOf := none } c with
        | bool t => exact Goes.to (hto (.code (if t then a else b) :: k) (one _ (show codeOK P (if t then a else b) = true by cases t <;> simp [h0.1, h0.2]))) hw fun main cs w => by rw [hrun]; simp only [stepG.exec, hc]; rfl
        | _ => exact Goes.ends fun main cs w => ⟨.stuck "cond: bool expected" _, by rw [hrun]; simp only [stepG.exec, hc]; rfl⟩
      | block id c => exact Goes.to (hto _ (two (.code c) (.inBlock id) hi rfl)) hw fun main cs w => by rw [hrun]; rfl
      | loop c => exact Goes.to (hto _ (two (.code c) (.inLoop c) hi hi)) hw fun main cs w => by rw [hrun]; rfl
      | scope c => exact Goes.to (hto _ (two (.code c) (.inScope c) hi hi)) hw fun main cs w => by rw [hrun]; rfl
      | rangeFunc f a b c => cases hi
      | refuse why => exact Goes.ends fun main cs w => ⟨_, by rw [hrun]; rfl⟩
      | exit id =>
        cases he : exitTo id k with
        | some k' => exact Goes.to (hto k' (exitTo_ok he hk)) hw fun main cs w => by rw [hrun]; simp only [stepG.exec, he]; rfl
        | none => exact Goes.ends fun main cs w => ⟨_, by rw [hrun]; simp only [stepG.exec, he]; rfl⟩
      | goto l =>
        cases he : gotoIn l k with
        | some k' => exact Goes.to (hto k' (gotoIn_ok he hk)) hw fun main cs w => by rw [hrun]; simp only [stepG.exec, he]; rfl
        | none => exact Goes.ends fun main cs w => ⟨_, by rw [hrun]; simp only [stepG.exec, he]; rfl⟩
      | region id ops draw =>
        cases draw with
        | false => exact Goes.to (hto _ (one (.inRegion ops (List.range ops.size)) hi)) hw fun main cs w => by rw [hrun]; rfl
        | true =>
          rcases Sim.choose (V := V) (P := P) (.order fn id) w hw with ⟨A, h1, h2, h3⟩ | ⟨A, hd⟩
          · cases hr : (choose (.order fn id)).run P w with
            | ok t w' =>
              rw [hr] at h1 h3
              refine .go A { fn := fn, tmps := tmps, todo := .inRegion ops (Region.schedule (P.follows .mixedOrders) ops t) :: k, defers := defers, mode := .run, kind := kind, roundOf := none } up w' #[] (hto _ (one (.inRegion ops _) hi)) h1.2.1 h1.2.2 (fun e he => by simp at he) (fun main cs => ?_) (fun τ D hA => ?_)
              · rw [hrun]; simp only [stepG.exec, hr, Bool.not_true, if_false, Bool.false_eq_true]; rfl
              · rw [hrun]; simp only [stepG.exec, h3 τ D hA, veilR, Bool.not_true, if_false, Bool.false_eq_true]; rfl
            | halt hh w' =>
              rw [hr] at h3
              exact .lost A fun τ D hA => by rw [hrun]; simp only [stepG.exec, h3 τ D hA, veilR, Bool.not_true, if_false, Bool.false_eq_true]; trivial
          · refine .lost A fun τ D hA => ?_
            obtain ⟨hh, w', _, he⟩ := hd τ D hA
            rw [hrun]; simp only [stepG.exec, he, Bool.not_true, if_false, Bool.false_eq_true]; trivial
end
end Go.Proofs.Ytodcnhodbeakiaa
