/- What one comes to alone, in the veiled twin, whatever is drawn, one comes to in company. Of whatever program. Conditions: none. In company: a step that turns nothing; a piece of code that one does alone. Of whatever program. Conditions: none. A communication within what one does by oneself: at channels that nobody else waits at. Of whatever program. Conditions: none. A communication within what one does by oneself goes on by itself, or (in the twin) for ever not. Of whatever program. Conditions: none. Every communication within what one does by oneself: it goes on by itself, or (in the twin) for ever not. Of whatever program. Conditions: none. The run-time's own errors tell of themselves in the twin as in the world. Of whatever program. Conditions: none. The program as a whole: every code of it is of operations that go in a veiled twin as in the world. Conditions: none. The veil of a world: over what the waiting ones look at; and a piece of code in company, with it. Of whatever program. Conditions: none. In company: a call that one does alone; an operation that only reads; the entry of a region. Of whatever program. Conditions: none. Conditions: as each theorem states them. -/
import Derived.Lone
import Derived.Conc.CrowdComm
import Derived.DyingOn
import Derived.Test.YtnbaiinhalplcaaChecked
import Derived.Test.YtnbaiinhalplcaaPg05
import Derived.Test.YtnbaiinhalplcaaPg06
namespace Go.Proofs.Ytnbaiinhalplcaa
set_option linter.unusedVariables false
set_option linter.unusedSimpArgs false
open Go.Conc

def Live (P : Program) (m : Machine) : Prop := ∃ fr up w, m = lone fr (up ++ [sent P]) w
def Gone (P : Program) (m : Machine) : Prop := ∀ n m', runN P (n + 1) m = .next m' → ¬ Live P m'

section
variable {V : Veil} {P : Program} {fr fr' : Frame} {up up' : List Frame} {w : World} {m m₁ : Machine}

theorem gone_of_ended {o : Outcome} {w' : World} (h : step P m = .ended o w') : Gone P m := fun n m' hr => by simp [runN, h] at hr
theorem gone_of_next (h : step P m = .next m₁) (hl : ¬ Live P m₁) (hg : Gone P m₁) : Gone P m := fun n m' hr => by
  simp only [runN, h] at hr
  cases n with
  | zero =>
    obtain rfl : m₁ = m' := by simpa [runN] using hr
    exact hl
  | succ n => exact hg n m' hr
theorem live_size (h : Live P m) : m.gs.size = 1 := by obtain ⟨fr, up, w, rfl⟩ := h; rfl
theorem gone_of_size (h : 2 ≤ m.gs.size) : Gone P m := fun n m' hr hl => by
  have h1 := live_size hl
  have h2 : runNT P (n + 1) m #[] = (.next m', (runNT P (n + 1) m #[]).2) := by rw [← hr, ← runNT_fst P _ _ #[]]
  have h3 := runNT_size P _ _ _ _ _ h2
  omega
theorem gone_sent (w : World) : Gone P (lone (sent P) [] w) := by
  refine gone_of_ended (o := .unsupported (Unsupported.elab "") ((sent P).pos P)) (w' := w) (step_lone_ended ?_)
  rfl
theorem gone_raised (c : List PanicEntry) (w : World) : Gone P (lone ((sent P).raise c) [] w) := by
  obtain ⟨o, ho⟩ : ∃ o, (stepG P true { frame := (sent P).raise c, callers := [], status := .running, dying := none } w).bare = .ended o w := ⟨_, rfl⟩
  exact gone_of_ended (step_lone_ended ho)
theorem not_live_bare (fr : Frame) (w : World) : ¬ Live P (lone fr [] w) := by
  rintro ⟨f, up, w', h⟩
  have := congrArg (fun m : Machine => (m.gs[0]?).map (·.callers)) h
  simp [lone] at this

theorem gone_of_lost {fr : Frame} {cs : List Frame} (h : Lost P (stepG P true (gor fr cs) w).bare) : Gone P (lone fr cs w) := by
  generalize hs : (stepG P true (gor fr cs) w).bare = s at h
  cases s with
  | ended o w' es => exact gone_of_ended (o := o) (w' := w') (step_lone_ended (by
      show (stepG P true (gor fr cs) w).bare = _
      rw [hs]
      have : (GStep.ended o w' es).bare = GStep.ended o w' es := by rw [← hs]; cases stepG P true (gor fr cs) w <;> rfl
      rw [← this]; rfl))
  | spawn g child w' es =>
    have : ∃ m₁, step P (lone fr cs w) = .next m₁ ∧ m₁.gs.size = 2 := by
      generalize hs' : stepG P true (gor fr cs) w = s' at hs
      cases s' <;> simp at hs
      unfold gor at hs'
      rw [step, stepT, move_lone]
      simp [runT, lone, Array.swapAt!, hs']
    obtain ⟨m₁, h1, h2⟩ := this
    refine gone_of_next h1 (fun hl => ?_) (gone_of_size (by omega))
    have := live_size hl
    omega
  | go g w' es =>
    have e : (GStep.go g w' es).bare = GStep.go g w' es := by rw [← hs]; cases stepG P true (gor fr cs) w <;> rfl
    obtain rfl : es = #[] := by
      have e2 : GStep.go g w' = GStep.go g w' es := e
      simpa using e2.symm
    rcases h with rfl | ⟨c, rfl⟩
    · exact gone_of_next (step_lone_go (fr' := sent P) (cs' := []) (w' := w') hs) (not_live_bare _ _) (gone_sent _)
    · exact gone_of_next (step_lone_go (fr' := (sent P).raise c) (cs' := []) (w' := w') hs) (not_live_bare _ _) (gone_raised _ _)
  | _ => exact h.elim
end

/-- The veil lies over all that the waiting ones look at. -/
structure Over (V : Veil) (pl : Nat → Option Place) : Prop where
  ch : ∀ i s c, pl i = some s → s.has c → V.ch c = true
  st : ∀ i s a v, pl i = some s → s.still a v → V.still a = true
theorem Over.kept {V : Veil} {pl : Nat → Option Place} (H : Over V pl) {w w' : World} (h : VKeep V w w') : Kept pl w w' :=
  ⟨fun i s c hi hc => h.chs c (H.ch i s c hi hc), fun i s hi hs a v ha => by rw [h.st a (H.st i s a v hi ha)]; exact hs a v ha⟩
theorem Over.calm {V : Veil} {pl : Nat → Option Place} (H : Over V pl) {e : Event} (h : CalmV V e) : Calm pl e :=
  by
  refine ⟨fun x hx hw g c hl hp => ?_, h.2⟩
  obtain ⟨s, v, hs, hv⟩ := hp
  have := h.1 x hx hw c hl
  rw [H.st g s c v hs hv] at this
  cases this

def Adv (V : Veil) (P : Program) (A : List (Question → Nat)) (s s' : Frame × List Frame × World) : Prop :=
  ∀ τ D, Agr A τ D → step P (lone s.1 (s.2.1 ++ [sent P]) (V.world τ D s.2.2)) = .next (lone s'.1 (s'.2.1 ++ [sent P]) (V.world τ (D + A.length) s'.2.2))
def Fin' (V : Veil) (P : Program) (A : List (Question → Nat)) (s : Frame × List Frame × World) : Prop :=
  ∀ τ D, Agr A τ D → Gone P (lone s.1 (s.2.1 ++ [sent P]) (V.world τ D s.2.2))

/-- What is asked of a communication within what one does by oneself: it goes on by itself, or (in the twin) for ever not. -/
def CommOK (V : Veil) (P : Program) (pl : Nat → Option Place) (h : Nat) (cs : List Frame) : Prop :=
  ∀ (fr : Frame) (up : List Frame) (w : World) (A : List (Question → Nat)) (cases : Array CommCase) (b : Bool) (shape : CommShape) (w' : World) (es : Array Event), StOK P fr up → VOK V w → VOK V w' → VKeep V w w' → (∀ e ∈ es, CalmV V e) →
    (∃ ops i rest k, fr.todo = .inRegion ops (i :: rest) :: k) →
    (∀ main cs, stepG P main (gor fr (up ++ cs)) w = .comm (gor fr (up ++ cs)) cases b shape w' es) →
    (∀ τ D, Agr A τ D → (stepG P true (gor fr (up ++ [sent P])) (V.world τ D w)).bare = .comm (gor fr (up ++ [sent P])) cases b shape (V.world τ (D + A.length) w')) →
    (∃ A' fr' up' w₂, StOK P fr' up' ∧ VOK V w₂ ∧ VKeep V w w₂ ∧ Solo P pl h (gor fr (up ++ cs)) w (gor fr' (up' ++ cs)) w₂ ∧ Adv V P A' (fr, up, w) (fr', up', w₂)) ∨ ∃ A', Fin' V P A' (fr, up, w)

section
variable {V : Veil} {P : Program} {Post : Value → World → Prop} {pl : Nat → Option Place} {n h : Nat} {cs : List Frame} {w₀ : World}

def Bad (V : Veil) (P : Program) (Post : Value → World → Prop) (pl : Nat → Option Place) (n h : Nat) (cs : List Frame) (w₀ : World) (s : Frame × List Frame × World) : Prop :=
  StOK P s.1 s.2.1 ∧ VOK V s.2.2 ∧ VKeep V w₀ s.2.2 ∧ ¬ Win P Post pl n h (gor s.1 (s.2.1 ++ cs)) s.2.2

theorem turn (M : Mild2 P) (hO : Over V pl) (hC : CommOK V P pl h cs) {s : Frame × List Frame × World} (hb : Bad V P Post pl n h cs w₀ s) :
    (∃ A s', Bad V P Post pl n h cs w₀ s' ∧ Adv V P A s s') ∨ ∃ A, Fin' V P A s := by
  obtain ⟨fr, up, w⟩ := s
  obtain ⟨hok, hw, hk, hn⟩ := hb
  refine Classical.byContradiction fun hc => hn (Win.one rfl fun d => ?_)
  have hkd : ∀ {w'}, VKeep V (w.at d) w' → VKeep V w₀ w' := fun k => hk.trans ⟨k.size, k.chs, k.st⟩
  cases goes M hok (hw.at d) with
  | go A fr' up' w' es ok vok keep calm real twin =>
    refine ⟨gor fr' (up' ++ cs), w', Solo.go (real _ _) (hO.kept keep) (fun e he => hO.calm (calm e he)), Classical.byContradiction fun hn' => hc (.inl ⟨A, (fr', up', w'), ⟨ok, vok, hkd keep, hn'⟩, fun τ D hA => ?_⟩)⟩
    exact step_lone_go (twin τ D hA)
  | lost A twin => exact absurd (.inr ⟨A, fun τ D hA => gone_of_lost (twin τ D hA)⟩) hc
  | comm A cases b shape w' es vok keep calm reg real twin =>
    rcases hC fr up (w.at d) A cases b shape w' es hok (hw.at d) vok keep calm reg real twin with ⟨A', fr', up', w₂, ok, vok', keep', hs, ha⟩ | ⟨A', hf⟩
    · exact ⟨gor fr' (up' ++ cs), w₂, hs, Classical.byContradiction fun hn' => hc (.inl ⟨A', (fr', up', w₂), ⟨ok, vok', hkd keep', hn'⟩, ha⟩)⟩
    · exact absurd (.inr ⟨A', hf⟩) hc

/-- The answers that are drawn up to a place. -/
def drawnTo (f : Nat → List (Question → Nat)) : Nat → List (Question → Nat)
  | 0 => []
  | i + 1 => drawnTo f i ++ f i
theorem drawnTo_prefix (f : Nat → List (Question → Nat)) (i k : Nat) : ∃ l, drawnTo f (i + k) = drawnTo f i ++ l := by
  induction k with
  | zero => exact ⟨[], by simp⟩
  | succ k ih => obtain ⟨l, hl⟩ := ih; exact ⟨l ++ f (i + k), by show drawnTo f (i + k) ++ f (i + k) = _; rw [hl, List.append_assoc]⟩
theorem exists_tape (f : Nat → List (Question → Nat)) : ∃ τ : Nat → Question → Nat, ∀ i, Agr (drawnTo f i) τ 0 := by
  classical
  refine ⟨fun j => if hj : ∃ i, j < (drawnTo f i).length then ((drawnTo f hj.choose)[j]?).getD default else default, fun i j a ha => ?_⟩
  have hlt : j < (drawnTo f i).length := (List.getElem?_eq_some_iff.1 ha).1
  have hj : ∃ i, j < (drawnTo f i).length := ⟨i, hlt⟩
  simp only [Nat.zero_add, dif_pos hj]
  have hspec := hj.choose_spec
  generalize hj.choose = i' at hspec
  rcases Nat.le_total i i' with hle | hle
  · obtain ⟨k, rfl⟩ := Nat.exists_eq_add_of_le hle
    obtain ⟨l, hl⟩ := drawnTo_prefix f i k
    rw [hl, List.getElem?_append_left hlt, ha]; rfl
  · obtain ⟨k, rfl⟩ := Nat.exists_eq_add_of_le hle
    obtain ⟨l, hl⟩ := drawnTo_prefix f i' k
    rw [hl, List.getElem?_append_left hspec] at ha
    rw [ha]; rfl

/-- WHAT ONE COMES TO ALONE, WHATEVER IS DRAWN. -/
theorem Win.lift (M : Mild2 P) (hO : Over V pl) (hC : CommOK V P pl h cs) {fr : Frame} {up : List Frame} (hok : StOK P fr up) (hw : VOK V w₀) (T : Frame → List Frame → World → Prop)
    (hc : ∀ τ, ∃ N fr' up' w', runN P N (lone fr (up ++ [sent P]) (V.world τ 0 w₀)) = .next (lone fr' (up' ++ [sent P]) w') ∧ T fr' up' w')
    (hT : ∀ fr' up' w' τ D, StOK P fr' up' → VOK V w' → VKeep V w₀ w' → T fr' up' (V.world τ D w') → Win P Post pl n h (gor fr' (up' ++ cs)) w') : Win P Post pl n h (gor fr (up ++ cs)) w₀ := by
  classical
  refine Classical.byContradiction fun hn => ?_
  have hstep : ∀ x : { s // Bad V P Post pl n h cs w₀ s }, ∃ y : List (Question → Nat) × { s // Bad V P Post pl n h cs w₀ s }, Adv V P y.1 x.1 y.2.1 ∨ Fin' V P y.1 x.1 := fun x => by
    rcases turn M hO hC x.2 with ⟨A, s', hb, ha⟩ | ⟨A, hf⟩
    · exact ⟨(A, ⟨s', hb⟩), .inl ha⟩
    · exact ⟨(A, x), .inr hf⟩
  let x₀ : { s // Bad V P Post pl n h cs w₀ s } := ⟨(fr, up, w₀), hok, hw, VKeep.refl _ _, hn⟩
  let nx := fun x => (hstep x).choose
  have hnx : ∀ x, Adv V P (nx x).1 x.1 (nx x).2.1 ∨ Fin' V P (nx x).1 x.1 := fun x => (hstep x).choose_spec
  let xs : Nat → { s // Bad V P Post pl n h cs w₀ s } := fun i => Nat.rec x₀ (fun _ x => (nx x).2) i
  let f : Nat → List (Question → Nat) := fun i => (nx (xs i)).1
  obtain ⟨τ, hτ⟩ := exists_tape f
  have hA : ∀ i, Agr (f i) τ (drawnTo f i).length := fun i => by
    have := Agr.right (A := drawnTo f i) (B := f i) (D := 0) (hτ (i + 1))
    simpa using this
  let m₀ : Machine := lone fr (up ++ [sent P]) (V.world τ 0 w₀)
  have key : ∀ i, runN P i m₀ = .next (lone (xs i).1.1 ((xs i).1.2.1 ++ [sent P]) (V.world τ (drawnTo f i).length (xs i).1.2.2)) ∨ ∃ k m₁, k < i ∧ runN P k m₀ = .next m₁ ∧ Gone P m₁ := by
    intro i
    induction i with
    | zero => exact .inl rfl
    | succ i ih =>
      rcases ih with ih | ⟨k, m₁, h1, h2, h3⟩
      · rcases hnx (xs i) with ha | hf
        · refine .inl ?_
          rw [runN_add, ih]
          have := ha τ _ (hA i)
          simp only [runN, this]
          show Stepped.next (lone _ _ (V.world τ ((drawnTo f i).length + (f i).length) _)) = Stepped.next (lone _ _ (V.world τ (drawnTo f i ++ f i).length _))
          rw [List.length_append]
        · exact .inr ⟨i, _, Nat.lt_succ_self i, ih, hf τ _ (hA i)⟩
      · exact .inr ⟨k, m₁, Nat.lt_succ_of_lt h1, h2, h3⟩
  obtain ⟨N, fr', up', w', hr, ht⟩ := hc τ
  rcases key N with h1 | ⟨k, m₁, h1, h2, h3⟩
  · have e := hr.symm.trans h1
    have e2 := Stepped.next.inj e
    have ew := congrArg Machine.world e2
    have eg := congrArg (fun m : Machine => (m.gs[0]?).map fun g => (g.frame, g.callers)) e2
    simp only [lone] at ew eg
    obtain ⟨e3, e4⟩ := by simpa using eg
    obtain ⟨b1, b2, b3, b4⟩ := (xs N).2
    subst e3
    subst e4
    rw [ew] at ht
    exact b4 (hT _ _ _ _ _ b1 b2 b3 ht)
  · obtain ⟨j, rfl⟩ : ∃ j, N = k + (j + 1) := ⟨N - k - 1, by omega⟩
    rw [runN_add, h2] at hr
    exact h3 j _ hr ⟨_, _, _, rfl⟩
end
end Go.Proofs.Ytnbaiinhalplcaa

namespace Go.Proofs.Ytnbaiinhalplcaa
set_option linter.unusedVariables false
set_option linter.unusedSimpArgs false
open Go.Conc

section
variable {V : Veil} {P : Program} {Post : Value → World → Prop} {pl : Nat → Option Place} {n h : Nat} {cs : List Frame} {w w₀ : World} {g : Goroutine}

theorem Rests.at {a' : Goroutine} {o : Option Place} (H : Rests P pl h w a' o) (d : Nat) : Rests P pl h (w.at d) a' o := by
  cases o <;> exact H
theorem Win.at (H : Win P Post pl n h g w) (d : Nat) : Win P Post pl n h g (w.at d) := by
  cases H with
  | done hn hr he => exact .done hn hr fun d' => by rw [at_at']; exact he d'
  | byself g' w' hr hs hw => exact .byself g' w' hr (fun d' => by rw [at_at']; exact hs d') hw
  | give hr hj hk hs hc hR hw => exact .give hr hj hk (fun d' => by rw [at_at']; exact hs d') hc (hR.at d) (fun g₂ d' k hh hx => by rw [at_at']; exact hw g₂ d' k hh hx)
  | shut hr hj hk hwake ha' hc hs hR hw => exact .shut hr hj hk hwake ha' hc (fun d' => by rw [at_at']; exact hs d') (hR.at d) (fun g₂ d' hh => by rw [at_at']; exact hw g₂ d' hh)
  | hire hr hs hc hR hw => exact .hire hr (fun d' => by rw [at_at']; exact hs d') hc (hR.at d) (fun d' => by rw [at_at']; exact hw d')
/-- A step that turns nothing. -/
theorem Win.turnless {fr fr' : Frame} {cs cs' : List Frame} (hs : ∀ d, stepG P (h == 0) (gor fr cs) (w.at d) = .go (gor fr' cs') (w.at d)) (H : Win P Post pl n h (gor fr' cs') w) : Win P Post pl n h (gor fr cs) w :=
  Win.step rfl fun d => ⟨_, _, #[], hs d, ⟨fun _ _ _ _ _ => rfl, fun _ _ _ z => z⟩, fun e he => by simp at he, H.at d⟩

section moves
variable {b : Frame} {a : Act} {k : List Item}

theorem Win.skip (H : Win P Post pl n h (gor (b.at a k) cs) w) : Win P Post pl n h (gor (b.at a (.code .skip :: k)) cs) w := .turnless (fun d => rfl) H
theorem Win.label {l : Nat} (H : Win P Post pl n h (gor (b.at a k) cs) w) : Win P Post pl n h (gor (b.at a (.code (.label l) :: k)) cs) w := .turnless (fun d => rfl) H
theorem Win.inBlock {id : Nat} (H : Win P Post pl n h (gor (b.at a k) cs) w) : Win P Post pl n h (gor (b.at a (.inBlock id :: k)) cs) w := .turnless (fun d => rfl) H
theorem Win.inScope {c : Code} (H : Win P Post pl n h (gor (b.at a k) cs) w) : Win P Post pl n h (gor (b.at a (.inScope c :: k)) cs) w := .turnless (fun d => rfl) H
theorem Win.seq {x y : Code} (H : Win P Post pl n h (gor (b.at a (.code x :: .code y :: k)) cs) w) : Win P Post pl n h (gor (b.at a (.code (.seq x y) :: k)) cs) w := .turnless (fun d => rfl) H
theorem Win.block {id : Nat} {x : Code} (H : Win P Post pl n h (gor (b.at a (.code x :: .inBlock id :: k)) cs) w) : Win P Post pl n h (gor (b.at a (.code (.block id x) :: k)) cs) w := .turnless (fun d => rfl) H
theorem Win.scope {x : Code} (H : Win P Post pl n h (gor (b.at a (.code x :: .inScope x :: k)) cs) w) : Win P Post pl n h (gor (b.at a (.code (.scope x) :: k)) cs) w := .turnless (fun d => rfl) H
theorem Win.loop {x : Code} (H : Win P Post pl n h (gor (b.at a (.code x :: .inLoop x :: k)) cs) w) : Win P Post pl n h (gor (b.at a (.code (.loop x) :: k)) cs) w := .turnless (fun d => rfl) H
theorem Win.inLoop {x : Code} (H : Win P Post pl n h (gor (b.at a (.code x :: .inLoop x :: k)) cs) w) : Win P Post pl n h (gor (b.at a (.inLoop x :: k)) cs) w := .turnless (fun d => rfl) H
theorem Win.cond {c : Operand} {x y : Code} {t : Bool} (hc : a.eval c = .bool t) (H : Win P Post pl n h (gor (b.at a (.code (if t then x else y) :: k)) cs) w) : Win P Post pl n h (gor (b.at a (.code (.cond c x y) :: k)) cs) w := by
  refine .turnless (fun d => ?_) H
  have := Frame.eval_at b a (.code (.cond c x y) :: k) c
  rw [hc] at this
  rw [stepG_run rfl]
  show stepG.exec P (h == 0) true (b.at a (.code (.cond c x y) :: k)) cs none (w.at d) = _
  unfold stepG.exec
  simp only [Frame.at] at this ⊢
  rw [this]; rfl
theorem Win.exit {id : Nat} {k' : List Item} (he : exitTo id k = some k') (H : Win P Post pl n h (gor (b.at a k') cs) w) : Win P Post pl n h (gor (b.at a (.code (.exit id) :: k)) cs) w := by
  refine .turnless (fun d => ?_) H
  rw [stepG_run rfl]
  simp only [stepG.exec, Frame.at, he]; rfl
theorem Win.goto {l : Nat} {k' : List Item} (he : gotoIn l k = some k') (H : Win P Post pl n h (gor (b.at a k') cs) w) : Win P Post pl n h (gor (b.at a (.code (.goto l) :: k)) cs) w := by
  refine .turnless (fun d => ?_) H
  rw [stepG_run rfl]
  simp only [stepG.exec, Frame.at, he]; rfl

/-- Where one stands behind a piece of code. -/
def Lands (b : Frame) (k : List Item) : Exit → Act → Frame → Prop
  | .normal, a, fr => fr = b.at a k
  | .exit id, a, fr => ∃ k', exitTo id k = some k' ∧ fr = b.at a k'
  | .goto l, a, fr => ∃ k', gotoIn l k = some k' ∧ fr = b.at a k'
  | .ret, a, fr => ∃ todo, fr = { b.at a todo with mode := .returning }
  | .panic c, a, fr => ∃ todo, fr = { b.at a todo with mode := .panicking c }
  | .outgrown, _, _ => False

/-- A PIECE OF CODE that one does alone, whatever is drawn. -/
theorem Win.piece (M : Mild2 P) (hO : Over V pl) (hC : CommOK V P pl h cs) {c : Code} {Q : Exit → Act → World → Prop} (hok : StOK P (b.at a (.code c :: k)) []) (hw : VOK V w) (hc : ∀ τ, c.wp P Q a (V.world τ 0 w))
    (hout : ∀ a w, ¬ Q .outgrown a w) (hex : ∀ id a w, Q (.exit id) a w → exitTo id k ≠ none) (hgo : ∀ l a w, Q (.goto l) a w → gotoIn l k ≠ none)
    (hQ : ∀ e a' w' τ D fr', StOK P fr' [] → VOK V w' → VKeep V w w' → Q e a' (V.world τ D w') → Lands b k e a' fr' → Win P Post pl n h (gor fr' cs) w') : Win P Post pl n h (gor (b.at a (.code c :: k)) cs) w := by
  refine Win.lift (up := []) M hO hC hok hw (fun fr' up' w' => up' = [] ∧ ∃ e a', Q e a' w' ∧ Lands b k e a' fr') (fun τ => ?_) (fun fr' up' w' τ D h1 h2 h3 h4 => ?_)
  · obtain ⟨e, a', w', q, r⟩ := hc τ b k [sent P]
    have fin : ∀ fr', Steps P (lone (b.at a (.code c :: k)) [sent P] (V.world τ 0 w)) (lone fr' [sent P] w') → Lands b k e a' fr' →
        ∃ N fr' up' w', runN P N (lone (b.at a (.code c :: k)) ([] ++ [sent P]) (V.world τ 0 w)) = .next (lone fr' (up' ++ [sent P]) w') ∧ up' = [] ∧ ∃ e a', Q e a' w' ∧ Lands b k e a' fr' := fun fr' hs hl => by
      obtain ⟨N, hN⟩ := hs
      exact ⟨N, fr', [], w', hN, rfl, e, a', q, hl⟩
    cases e with
    | normal => exact fin _ r rfl
    | exit id =>
      cases hk : exitTo id k with
      | none => exact absurd hk (hex id a' w' q)
      | some k' => exact fin _ (r k' hk) ⟨k', hk, rfl⟩
    | goto l =>
      cases hk : gotoIn l k with
      | none => exact absurd hk (hgo l a' w' q)
      | some k' => exact fin _ (r k' hk) ⟨k', hk, rfl⟩
    | ret => obtain ⟨todo, hs⟩ := r; exact fin _ hs ⟨todo, rfl⟩
    | panic ch => obtain ⟨todo, hs⟩ := r; exact fin _ hs ⟨todo, rfl⟩
    | outgrown => exact absurd q (hout a' w')
  · obtain ⟨rfl, e, a', q, l⟩ := h4
    exact hQ e a' w' τ D fr' h1 h2 h3 q l
end moves
end
end Go.Proofs.Ytnbaiinhalplcaa

namespace Go.Proofs.Ytnbaiinhalplcaa
set_option linter.unusedVariables false
set_option linter.unusedSimpArgs false
open Go.Conc

section
variable {P : Program} {pl : Nat → Option Place} {h : Nat} {T : Trace} {gs : Array Goroutine} {w w' : World} {q : Nat → Nat}

theorem Held.ops (C : Held P pl h T gs w q) (a' : Goroutine) {u : Trace} (hk : Kept pl w w') (hu : ∀ op ∈ u, op.g = h) (hs : ∀ op ∈ u, ∀ b, op.act.touch? = some b → b.write = true → ∀ g c, b.loc = .cell c → ¬ Peek pl g c)
    (hd : ∀ t : Trace, Deaf (t ++ u) h = Deaf t h) : Held P pl h (T ++ u) (gs.setIfInBounds h a') w' q := by
  refine ⟨fun y g hy hg => ?_, fun i s c hi e hc => ?_, C.wf, fun _ _ z => z.elim, C.inj, fun j hj => ?_, fun i s e => by simpa using C.low i s e, C.nosp, Tidy.own C.past hu hs (hd T), fun i s e => hk.2 i s e (C.sees i s e)⟩
  · rw [Array.getElem?_setIfInBounds_ne (fun e => hy e.symm)] at hg
    have hi := C.idle y g hy hg
    cases e : pl y with
    | none => rw [e] at hi; exact ⟨hi.1, by rw [Deaf_other T (fun z => hy z.symm) _ hu]; exact hi.2⟩
    | some s => rw [e] at hi; exact hi
  · obtain ⟨k, hk'⟩ := C.chans i s c hi e hc
    exact ⟨k, by rw [hk.1 i s c e hc]; exact hk'⟩
  · simp only [Array.size_setIfInBounds] at hj
    by_cases ej : j = h
    · subst ej; rw [hd]; exact C.above _ hj
    · rw [Deaf_other T (fun z => ej z.symm) _ hu]; exact C.above j hj
end

def rdy (cases : Array CommCase) (W : CommCase → List Go.Way) : List (Nat × CommCase × List Go.Way) :=
  (cases.zipIdx.toList.map fun (c, k) => (k, c, W c)).filter fun (_, _, ws) => !ws.isEmpty
theorem mem_of_zip {cases : Array CommCase} {c : CommCase} {k : Nat} (h : (c, k) ∈ cases.zipIdx.toList) : c ∈ cases := by
  have := Array.mem_zipIdx_iff_getElem?.1 (Array.mem_toList_iff.1 h)
  exact Array.mem_of_getElem? (i := k) (by simpa using this)
theorem rdy_eq {cases : Array CommCase} {W W' : CommCase → List Go.Way} (h : ∀ c ∈ cases, W c = W' c) : rdy cases W = rdy cases W' := by
  unfold rdy
  congr 1
  refine List.map_congr_left ?_
  rintro ⟨c, k⟩ hm
  simp only [h c (mem_of_zip hm)]
theorem mem_rdy {cases : Array CommCase} {W : CommCase → List Go.Way} {k : Nat} {c : CommCase} {ws : List Go.Way} (h : (k, c, ws) ∈ rdy cases W) : c ∈ cases ∧ ws = W c ∧ ws ≠ [] := by
  unfold rdy at h
  obtain ⟨h1, h2⟩ := List.mem_filter.1 h
  obtain ⟨⟨c', k'⟩, h3, h4⟩ := List.mem_map.1 h1
  simp only [Prod.mk.injEq] at h4
  obtain ⟨rfl, rfl, rfl⟩ := h4
  refine ⟨mem_of_zip h3, rfl, fun e => ?_⟩
  simp only [e] at h2
  cases h2

section
variable {P : Program} {rest : Rest} {gs : Array Goroutine} {i : Nat} {g : Goroutine} {cases : Array CommCase} {b : Bool} {shape : CommShape} {w w₁ : World} {R : List (Nat × CommCase × List Go.Way)} {a k r : Nat} {c : CommCase} {v : Value} {cap sn rc : Nat} {buf : Array Value} {cl tm : Bool}

theorem choose_one (s : String) (w : World) : (choose (.extern s 1)).run P w = .ok 0 w := by simp [choose, Sem.run, Question.forced]

theorem comm_none (hm : cases.any (illMade w) = false) (hR : rdy cases (ways w gs) = []) (ht : rest.timers = #[]) : communicate P rest gs i g cases b shape w =
    if b then (.next { world := w, gs := gs.setIfInBounds i { g with status := .blocked, offers := some (cases, shape) }, rest := rest }, #[])
    else (.next { world := w, gs := gs.setIfInBounds i (g.finishComm P cases shape (-1) undef false), rest := rest }, #[]) := by
  have hta : timerAhead rest w.os.mono cases = false := by
    unfold timerAhead
    rw [Array.any_eq_false]
    intro k hk
    split <;> simp [ht]
  unfold rdy at hR
  unfold communicate
  simp only [hR, List.isEmpty_nil, if_true, waitingAt, hta, if_false, Bool.false_eq_true]
  rw [if_neg]
  rw [Bool.not_eq_true]; exact hm

theorem comm_closed (hm : cases.any (illMade w) = false) (hR : rdy cases (ways w gs) = R) (ha : R[a]? = some (k, c, [.closed])) (hc : (choose (.select R.length)).run P w = .ok a w₁) (hr : c.chan = .chan (some r)) :
    communicate P rest gs i g cases b shape w = (.next { world := w₁, gs := gs.setIfInBounds i (g.finishComm P cases shape k c.zero false), rest := rest }, #[{ g := i, fn := g.frame.fn, pos := g.frame.place, act := .recvClosed r }]) := by
  have hne : R.isEmpty = false := by cases R <;> simp_all
  have hget : R.getD a (0, default, []) = (k, c, [.closed]) := by rw [List.getD_eq_getElem?_getD, ha]; rfl
  unfold rdy at hR
  unfold communicate
  simp only [hR, hne, if_false, Bool.false_eq_true]
  rw [if_neg]
  · simp only [Sem.run_bind, hc, Result.andThen, hget, List.length_singleton, choose_one, List.getD_cons_zero, pure, Sem.run, hr]
  · rw [Bool.not_eq_true]; exact hm

theorem comm_sendClosed (hm : cases.any (illMade w) = false) (hR : rdy cases (ways w gs) = R) (ha : R[a]? = some (k, c, [.sendClosed])) (hc : (choose (.select R.length)).run P w = .ok a w₁) :
    communicate P rest gs i g cases b shape w = (.next { world := w₁, gs := gs.setIfInBounds i { g with frame := g.frame.raise [{ v := .iface P.rt.plainError (strVal "send on closed channel"), recovered := false }] }, rest := rest }, #[]) := by
  have hne : R.isEmpty = false := by cases R <;> simp_all
  have hget : R.getD a (0, default, []) = (k, c, [.sendClosed]) := by rw [List.getD_eq_getElem?_getD, ha]; rfl
  unfold rdy at hR
  unfold communicate
  simp only [hR, hne, if_false, Bool.false_eq_true]
  rw [if_neg]
  · simp only [Sem.run_bind, hc, Result.andThen, hget, List.length_singleton, choose_one, List.getD_cons_zero, pure, Sem.run]
    rfl
  · rw [Bool.not_eq_true]; exact hm

theorem comm_roomSend (hm : cases.any (illMade w) = false) (hR : rdy cases (ways w gs) = R) (ha : R[a]? = some (k, c, [.buffer])) (hc : (choose (.select R.length)).run P w = .ok a w₁) (hr : c.chan = .chan (some r)) (hv : c.send = some v)
    (hb : w₁.heap[r]? = some (.chan cap buf cl sn rc tm)) :
    communicate P rest gs i g cases b shape w = (.next { world := { w₁ with heap := w₁.heap.setIfInBounds r (.chan cap (buf.push v) cl (sn + 1) rc tm) }, gs := gs.setIfInBounds i (g.finishComm P cases shape k undef false), rest := rest },
      #[{ g := i, fn := g.frame.fn, pos := g.frame.place, act := .send r sn }, { g := i, fn := g.frame.fn, pos := g.frame.place, act := .sendDone r sn }]) := by
  have hne : R.isEmpty = false := by cases R <;> simp_all
  have hget : R.getD a (0, default, []) = (k, c, [.buffer]) := by rw [List.getD_eq_getElem?_getD, ha]; rfl
  unfold rdy at hR
  unfold communicate
  simp only [hR, hne, if_false, Bool.false_eq_true]
  rw [if_neg]
  · simp only [Sem.run_bind, hc, Result.andThen, hget, List.length_singleton, choose_one, List.getD_cons_zero, pure, Sem.run, hr, hv, hb]
  · rw [Bool.not_eq_true]; exact hm

theorem comm_roomRecv (hm : cases.any (illMade w) = false) (hR : rdy cases (ways w gs) = R) (ha : R[a]? = some (k, c, [.buffer])) (hc : (choose (.select R.length)).run P w = .ok a w₁) (hr : c.chan = .chan (some r)) (hv : c.send = none)
    (hb : w₁.heap[r]? = some (.chan cap buf cl sn rc tm)) (hp : partners gs r true = []) :
    communicate P rest gs i g cases b shape w = (.next { world := { w₁ with heap := w₁.heap.setIfInBounds r (.chan cap (buf.extract 1 buf.size) cl sn (rc + 1) tm) }, gs := gs.setIfInBounds i (g.finishComm P cases shape k (buf.getD 0 undef) true), rest := rest },
      #[{ g := i, fn := g.frame.fn, pos := g.frame.place, act := .recv r rc cap }, { g := i, fn := g.frame.fn, pos := g.frame.place, act := .recvDone r rc }]) := by
  have hne : R.isEmpty = false := by cases R <;> simp_all
  have hget : R.getD a (0, default, []) = (k, c, [.buffer]) := by rw [List.getD_eq_getElem?_getD, ha]; rfl
  unfold rdy at hR
  unfold communicate
  simp only [hR, hne, if_false, Bool.false_eq_true]
  rw [if_neg]
  · simp only [Sem.run_bind, hc, Result.andThen, hget, List.length_singleton, choose_one, List.getD_cons_zero, pure, Sem.run, hr, hv, hb, hp]
  · rw [Bool.not_eq_true]; exact hm
end
end Go.Proofs.Ytnbaiinhalplcaa

namespace Go.Proofs.Ytnbaiinhalplcaa
set_option linter.unusedVariables false
set_option linter.unusedSimpArgs false
open Go.Conc

section
variable {V : Veil} {P : Program} {pl : Nat → Option Place} {h : Nat} {w w' w₂ : World} {g g' : Goroutine} {cases : Array CommCase} {b : Bool} {shape : CommShape} {es : Array Event} {τ : Nat → Question → Nat} {D : Nat}

def goodC (V : Veil) (w : World) (c : CommCase) : Prop := c.chan = .chan none ∨ ∃ r cap buf cl sn rc tm, c.chan = .chan (some r) ∧ V.ch r = false ∧ w.heap[r]? = some (.chan cap buf cl sn rc tm)

theorem partners_empty (r : Nat) (x : Bool) : partners #[] r x = [] := rfl
theorem veil_chan {r cap sn rc : Nat} {buf : Array Value} {cl tm : Bool} (hc : V.ch r = false) (hr : w.heap[r]? = some (.chan cap buf cl sn rc tm)) : (V.world τ D w).heap[r]? = some (.chan cap buf cl sn rc tm) := by
  rw [veil_heap, hr]; simp [Veil.obj, hc]
theorem goodC.made {c : CommCase} (hg : goodC V w c) : illMade w c = false := by
  rcases hg with e | ⟨r, cap, buf, cl, sn, rc, tm, e, hc, hr⟩
  · simp [illMade, e]
  · simp [illMade, e, hr]
theorem goodC.madeT {c : CommCase} (hg : goodC V w c) : illMade (V.world τ D w) c = false := by
  rcases hg with e | ⟨r, cap, buf, cl, sn, rc, tm, e, hc, hr⟩
  · simp [illMade, e]
  · simp [illMade, e, veil_chan hc hr]
theorem bad_ill {c : CommCase} (hg : ¬ goodC V w c) : illMade (V.world τ D w) c = true := by
  unfold illMade
  split
  · rename_i e; exact absurd (.inl e) hg
  · rename_i r e
    rw [veil_heap]
    cases ho : w.heap[r]? with
    | none => rfl
    | some o =>
      cases hc : V.ch r <;> cases o <;> simp [Veil.obj, hc]
      exact hg (.inr ⟨_, _, _, _, _, _, _, e, hc, ho⟩)
  · rfl
theorem goodC.ways {c : CommCase} (hg : goodC V w c) {gs : Array Goroutine} (hp : ∀ r, V.ch r = false → ∀ x, partners gs r x = []) : Go.ways w gs c = Go.ways w #[] c := by
  rcases hg with e | ⟨r, cap, buf, cl, sn, rc, tm, e, hc, hr⟩
  · simp [Go.ways, e]
  · cases hs : c.send <;> simp only [Go.ways, e, hr, hs, hp r hc, partners_empty]
theorem goodC.waysT {c : CommCase} (hg : goodC V w c) {gs : Array Goroutine} (hp : ∀ r, V.ch r = false → ∀ x, partners gs r x = []) : Go.ways (V.world τ D w) gs c = Go.ways w #[] c := by
  rcases hg with e | ⟨r, cap, buf, cl, sn, rc, tm, e, hc, hr⟩
  · simp [Go.ways, e]
  · cases hs : c.send <;> simp only [Go.ways, e, hr, hs, veil_chan hc hr, hp r hc, partners_empty]
theorem goodC.one {c : CommCase} (hg : goodC V w c) (hne : Go.ways w #[] c ≠ []) : ∃ r cap buf cl sn rc tm, c.chan = .chan (some r) ∧ V.ch r = false ∧ w.heap[r]? = some (.chan cap buf cl sn rc tm) ∧
    ((∃ v, c.send = some v) ∧ (Go.ways w #[] c = [.sendClosed] ∨ Go.ways w #[] c = [.buffer]) ∨ c.send = none ∧ (Go.ways w #[] c = [.closed] ∨ Go.ways w #[] c = [.buffer])) := by
  rcases hg with e | ⟨r, cap, buf, cl, sn, rc, tm, e, hc, hr⟩
  · exact absurd (by simp [Go.ways, e]) hne
  · refine ⟨r, cap, buf, cl, sn, rc, tm, e, hc, hr, ?_⟩
    cases hs : c.send with
    | some v =>
      refine .inl ⟨⟨v, rfl⟩, ?_⟩
      have hw : Go.ways w #[] c = if cl then [.sendClosed] else if buf.size < cap then [.buffer] else [] := by simp only [Go.ways, e, hr, hs, partners_empty]
      rw [hw] at hne ⊢
      split
      · exact .inl rfl
      · rename_i h1
        rw [if_neg h1] at hne
        split
        · exact .inr rfl
        · rename_i h2; rw [if_neg h2] at hne; exact absurd rfl hne
    | none =>
      refine .inr ⟨rfl, ?_⟩
      have hw : Go.ways w #[] c = if buf.size > 0 then [.buffer] else if cl then [.closed] else [] := by simp only [Go.ways, e, hr, hs, partners_empty]
      rw [hw] at hne ⊢
      split
      · exact .inr rfl
      · rename_i h1
        rw [if_neg h1] at hne
        split
        · exact .inl rfl
        · rename_i h2; rw [if_neg h2] at hne; exact absurd rfl hne

theorem choose_both (n : Nat) (hn : 0 < n) (w : World) : ∃ (A : List (Question → Nat)) (a m : Nat), a < n ∧ (choose (.select n)).run P w = .ok a (w.at m) ∧ ∀ τ D, Agr A τ D → (choose (.select n)).run P (V.world τ D w) = .ok a (V.world τ (D + A.length) w) := by
  by_cases hf : (Question.select n).forced = true
  · refine ⟨[], 0, w.drawn, hn, by simp [choose, Sem.run, hf, World.at], fun τ D _ => by simp [choose, Sem.run, hf]⟩
  · refine ⟨[w.tape w.drawn], (Question.select n).cut (w.tape w.drawn (.select n)), w.drawn + 1, Nat.mod_lt _ hn, by simp [choose, Sem.run, hf, World.at], fun τ D hA => ?_⟩
    have h0 : τ D = w.tape w.drawn := hA 0 _ rfl
    simp only [choose, Sem.run, hf, if_false, Bool.false_eq_true]
    simp [Veil.world, h0]

theorem step_lone_comm {fr : Frame} {cs : List Frame} {w₁ : World} (hs : (stepG P true (gor fr cs) w).bare = .comm g cases b shape w₁) :
    step P (lone fr cs w) = (communicate P { timers := #[], alone := none, slice := none } #[ph] 0 g cases b shape w₁).1 := by
  generalize hs' : stepG P true (gor fr cs) w = s at hs
  cases s <;> simp at hs
  obtain ⟨rfl, rfl, rfl, rfl, rfl⟩ := hs
  unfold gor at hs'
  rw [step, stepT, move_lone]
  simp [runT, lone, Array.swapAt!, hs', ph]

theorem comm_ill {rest : Rest} {gs : Array Goroutine} {i : Nat} (hm : cases.any (illMade w) = true) : ∃ o, (communicate P rest gs i g cases b shape w).1 = .ended o w := by
  refine ⟨.stuck "a communication at a channel whose block is no channel's" (g.frame.pos P), ?_⟩
  unfold communicate
  simp only
  rw [if_pos]
  exact hm

theorem no_partners (hO : Over V pl) {T : Trace} {gs : Array Goroutine} {w : World} {q : Nat → Nat} (C : Held P pl h T gs w q) : ∀ r, V.ch r = false → ∀ x, partners (gs.setIfInBounds h ph) r x = [] := by
  intro r hr x
  refine partners_nil fun j y hj => ?_
  rcases getElem?_stand _ _ _ _ hj with ⟨_, rfl⟩ | ⟨hne, hy⟩
  · exact offersAt_ph r x
  · cases x with
    | true => exact Core.noSend C hne hy r
    | false => exact Core.noRecv C hne hy fun s hs hc => by rw [hO.ch j s r hs hc] at hr; cases hr

theorem solo_comm (hO : Over V pl) (real : stepG P (h == 0) g w = .comm g cases b shape w' es) (hcalm : ∀ e ∈ es, CalmV V e) (hk : VKeep V w w₂) (acts : Nat → Trace) (hg : ∀ i, ∀ op ∈ acts i, op.g = i) (hmute : ∀ i, ∀ op ∈ acts i, op.act.touch? = none)
    (hquiet : ∀ i, ∀ op ∈ acts i, ∀ g d, deafStep g d op = d)
    (hcomm : ∀ rest gs i, rest.timers = #[] → (∀ r, V.ch r = false → ∀ x, partners gs r x = []) → communicate P rest gs i g cases b shape w' = (.next { world := w₂, gs := gs.setIfInBounds i g', rest := rest }, acts i)) : Solo P pl h g w g' w₂ := by
  intro gs sl T q ha C
  have hlt : h < gs.size := (Array.getElem?_eq_some_iff.1 ha).1
  obtain ⟨hops, hs, hdf⟩ := calm_ops (pl := pl) (h := h) (fn := g.frame.fn) (pos := g.frame.place) (fun e he => hO.calm (hcalm e he))
  refine ⟨gs.setIfInBounds h g', MemOp.ofEvents h g.frame.fn g.frame.place es ++ acts h, q, ?_, by simp, Array.getElem?_setIfInBounds_self_of_lt hlt, Held.ops C g' (hO.kept hk) (fun op hop => ?_) (fun op hop b hb => ?_) fun t => ?_⟩
  · rw [runT_crowd_comm ha real, hcomm _ _ _ rfl (no_partners hO C), set_stand]
    rfl
  · rcases Array.mem_append.1 hop with z | z
    · exact hops op z
    · exact hg h op z
  · rcases Array.mem_append.1 hop with z | z
    · exact hs op z b hb
    · rw [hmute h op z] at hb; cases hb
  · rw [← Array.append_assoc, Deaf_quiet (fun op hop d => hquiet h op hop h d), hdf]
end
end Go.Proofs.Ytnbaiinhalplcaa

namespace Go.Proofs.Ytnbaiinhalplcaa
open List renaming getElem?_toArray → gqA, getElem?_cons_zero → gqZ
set_option linter.unusedVariables false
set_option linter.unusedSimpArgs false
open Go.Conc

section
variable {V : Veil} {P : Program} {pl : Nat → Option Place} {h : Nat} {w w' w₂ : World} {g g' : Goroutine} {cases : Array CommCase} {b : Bool} {shape : CommShape} {es : Array Event} {τ : Nat → Question → Nat} {D : Nat}

theorem gone_blocked (hst : g.status = .blocked) (w : World) : Gone P (oneG g w) := by
  obtain ⟨fr, cs, st, dy, off⟩ := g
  simp only at hst
  subst hst
  obtain ⟨o', w', he, ho⟩ := endWith_ended w 2 (bytes "fatal error: all goroutines are asleep - deadlock!\n") (.fatal "all goroutines are asleep - deadlock!")
  refine gone_of_ended (o := o') (w' := w') ?_
  simp [step, stepT, move, ask, askOn, oneG, runnable_eq, due, ahead, Goroutine.canRun, List.range_succ, pure]
  rw [he]
theorem not_live_blocked (hst : g.status = .blocked) (w : World) : ¬ Live P (oneG g w) := by
  rintro ⟨f, up, w', e⟩
  have := congrArg (fun m : Machine => (m.gs[0]?).map (·.status)) e
  simp [lone, oneG, hst] at this

theorem vset {r cap sn rc cap' sn' rc' : Nat} {buf buf' : Array Value} {cl tm cl' tm' : Bool} (hw : VOK V w) (hc : V.ch r = false) (hr : w.heap[r]? = some (.chan cap buf cl sn rc tm)) :
    VOK V { w with heap := w.heap.setIfInBounds r (.chan cap' buf' cl' sn' rc' tm') } ∧ VKeep V w { w with heap := w.heap.setIfInBounds r (.chan cap' buf' cl' sn' rc' tm') } := by
  have hfz : V.froz r = none := by
    cases hf : V.froz r with
    | none => rfl
    | some p => obtain ⟨c, t, h⟩ := hw.frz r p hf; rw [hr] at h; cases h
  have hob : ∀ i, i ≠ r → (w.heap.setIfInBounds r (.chan cap' buf' cl' sn' rc' tm'))[i]? = w.heap[i]? := fun i hi => Array.getElem?_setIfInBounds_ne (Ne.symm hi)
  have hlt : r < w.heap.size := (Array.getElem?_eq_some_iff.1 hr).1
  refine ⟨⟨by simpa using hw.top, fun i y hy => ?_, fun i y hi hy => ?_, fun i p hp => ?_⟩, ⟨by simp, fun i hi => ?_, fun b hb => ?_⟩⟩
  · by_cases e : i = r
    · subst e; simp [hlt] at hy; subst hy; exact .inr trivial
    · simp only [hob i e] at hy; exact hw.nice i y hy
  · by_cases e : i = r
    · subst e; rw [hc] at hi; cases hi
    · simp only [hob i e] at hy; exact hw.chs i y hi hy
  · have e : i ≠ r := fun e => by rw [e, hfz] at hp; cases hp
    obtain ⟨c, t, h⟩ := hw.frz i p hp
    exact ⟨c, t, by simp only [hob i e]; exact h⟩
  · have e : i ≠ r := fun e => by rw [e, hc] at hi; cases hi
    exact hob i e
  · unfold Veil.still at hb
    have e : b.block ≠ r := fun e => by rw [e, hfz] at hb; cases hb
    unfold World.cell?
    rw [show ({ w with heap := w.heap.setIfInBounds r (.chan cap' buf' cl' sn' rc' tm') } : World).heap[b.block]? = w.heap[b.block]? from hob _ e]

theorem commOK (hO : Over V pl) (cs : List Frame) : CommOK V P pl h cs := by
  intro fr up w A cases b shape w' es hok hw hw' hk hcalm hreg real twin
  have hstep : ∀ τ D, Agr A τ D → step P (lone fr (up ++ [sent P]) (V.world τ D w)) = (communicate P { timers := #[], alone := none, slice := none } #[ph] 0 (gor fr (up ++ [sent P])) cases b shape (V.world τ (D + A.length) w')).1 := fun τ D hA => step_lone_comm (twin τ D hA)
  by_cases hall : ∀ c ∈ cases, goodC V w' c
  rotate_left
  · refine .inr ⟨A, fun τ D hA => ?_⟩
    have hm : cases.any (illMade (V.world τ (D + A.length) w')) = true := by
      refine Classical.byContradiction fun hn => hall fun c hc => Classical.byContradiction fun hb => hn ?_
      obtain ⟨i, hi, rfl⟩ := Array.mem_iff_getElem.1 hc
      rw [Array.any_eq_true]
      exact ⟨i, hi, bad_ill hb⟩
    obtain ⟨o, ho⟩ := comm_ill (P := P) (rest := { timers := #[], alone := none, slice := none }) (gs := #[ph]) (i := 0) (g := gor fr (up ++ [sent P])) (b := b) (shape := shape) hm
    exact gone_of_ended ((hstep τ D hA).trans ho)
  have hph : ∀ r, V.ch r = false → ∀ x, partners #[ph] r x = [] := fun r _ x => partners_nil fun j g hj => by
    rcases j with _ | j
    · simp only [gqA, gqZ, Option.some.injEq] at hj
      subst hj
      exact offersAt_ph r x
    · simp at hj
  have hmT : ∀ τ D, cases.any (illMade (V.world τ D w')) = false := fun τ D => any_ill fun c hc => (hall c hc).madeT
  have hm : cases.any (illMade w') = false := any_ill fun c hc => (hall c hc).made
  have hRT : ∀ τ D, rdy cases (Go.ways (V.world τ D w') #[ph]) = rdy cases (Go.ways w' #[]) := fun τ D => rdy_eq fun c hc => (hall c hc).waysT hph
  have hRr : ∀ gs, (∀ r, V.ch r = false → ∀ x, partners gs r x = []) → rdy cases (Go.ways w' gs) = rdy cases (Go.ways w' #[]) := fun gs hp => rdy_eq fun c hc => (hall c hc).ways hp
  have hfin : ∀ v, StOK P (fr.finish v) up := fun v => hok.swap (hok.here.finish v) (finish_kind _ _)
  generalize hR : rdy cases (Go.ways w' #[]) = R at hRT hRr
  cases R with
  | nil =>
    cases b with
    | true =>
      refine .inr ⟨A, fun τ D hA => ?_⟩
      have hs := hstep τ D hA
      rw [comm_none (hmT _ _) (hRT _ _) rfl] at hs
      exact gone_of_next (m₁ := oneG { gor fr (up ++ [sent P]) with status := .blocked, offers := some (cases, shape) } _) hs (not_live_blocked rfl _) (gone_blocked rfl _)
    | false =>
      refine .inl ⟨A, fr.finish (commResult cases shape (-1) undef false), up, w', hfin _, hw', hk, solo_comm hO (real _ _) hcalm hk (fun _ => #[]) (fun _ op z => by simp at z) (fun _ op z => by simp at z) (fun _ op z => by simp at z) (fun rest gs i ht hp => ?_), fun τ D hA => ?_⟩
      · rw [comm_none hm (hRr gs hp) ht]; rfl
      · rw [hstep τ D hA, comm_none (hmT _ _) (hRT _ _) rfl]; rfl
  | cons x0 R0 =>
    obtain ⟨A₂, a, m, ha, hrun, hrunT⟩ := choose_both (V := V) (P := P) (x0 :: R0).length (by simp) w'
    obtain ⟨⟨k, c, ws⟩, hget⟩ : ∃ y, (x0 :: R0)[a]? = some y := ⟨_, List.getElem?_eq_getElem ha⟩
    obtain ⟨hcm, hws, hne⟩ := mem_rdy (cases := cases) (W := Go.ways w' #[]) (by rw [hR]; exact List.mem_of_getElem? hget)
    rw [hws] at hne
    obtain ⟨r, cap, buf, cl, sn, rc, tm, he, hch, hheap, hcase⟩ := (hall c hcm).one hne
    have hkm : VKeep V w (w'.at m) := ⟨hk.size, hk.chs, hk.st⟩
    have hset : ∀ (buf' : Array Value) (sn' rc' : Nat), VOK V { w'.at m with heap := (w'.at m).heap.setIfInBounds r (.chan cap buf' cl sn' rc' tm) } ∧ VKeep V w { w'.at m with heap := (w'.at m).heap.setIfInBounds r (.chan cap buf' cl sn' rc' tm) } := fun buf' sn' rc' => by
      obtain ⟨h1, h2⟩ := vset (cap' := cap) (sn' := sn') (rc' := rc') (buf' := buf') (cl' := cl) (tm' := tm) (hw'.at m) hch (show (w'.at m).heap[r]? = _ from hheap)
      exact ⟨h1, hkm.trans h2⟩
    rcases hcase with ⟨⟨v, hv⟩, hw1 | hw1⟩ | ⟨hv, hw1 | hw1⟩ <;> rw [hws, hw1] at hget
    · refine .inl ⟨A ++ A₂, fr.raise [{ v := .iface P.rt.plainError (strVal "send on closed channel"), recovered := false }], up, w'.at m, hok.swap (hok.here.raise _) (raise_kind _ _), hw'.at m, hkm,
        solo_comm hO (real _ _) hcalm hkm (fun _ => #[]) (fun _ op z => by simp at z) (fun _ op z => by simp at z) (fun _ op z => by simp at z) (fun rest gs i ht hp => ?_), fun τ D hA => ?_⟩
      · rw [comm_sendClosed hm (hRr gs hp) hget hrun]; rfl
      · rw [hstep τ D hA.left, comm_sendClosed (hmT _ _) (hRT _ _) hget (hrunT τ _ hA.right), List.length_append, ← Nat.add_assoc]; rfl
    · obtain ⟨h1, h2⟩ := hset (buf.push v) (sn + 1) rc
      refine .inl ⟨A ++ A₂, fr.finish (commResult cases shape k undef false), up, _, hfin _, h1, h2,
        solo_comm hO (real _ _) hcalm h2 (fun i => #[{ g := i, fn := fr.fn, pos := fr.place, act := .send r sn }, { g := i, fn := fr.fn, pos := fr.place, act := .sendDone r sn }]) (fun i op z => ?_) (fun i op z => ?_) (fun i op z g d => ?_) (fun rest gs i ht hp => ?_), fun τ D hA => ?_⟩
      · simp only [List.mem_toArray, List.mem_cons, List.not_mem_nil, or_false] at z; rcases z with rfl | rfl <;> rfl
      · simp only [List.mem_toArray, List.mem_cons, List.not_mem_nil, or_false] at z; rcases z with rfl | rfl <;> rfl
      · simp only [List.mem_toArray, List.mem_cons, List.not_mem_nil, or_false] at z; rcases z with rfl | rfl <;> rfl
      · rw [comm_roomSend hm (hRr gs hp) hget hrun he hv (show (w'.at m).heap[r]? = _ from hheap)]; rfl
      · rw [hstep τ D hA.left, comm_roomSend (hmT _ _) (hRT _ _) hget (hrunT τ _ hA.right) he hv (veil_chan hch hheap), List.length_append, ← Nat.add_assoc, veil_setObj hch (by simp [isCells])]; rfl
    · refine .inl ⟨A ++ A₂, fr.finish (commResult cases shape k c.zero false), up, w'.at m, hfin _, hw'.at m, hkm,
        solo_comm hO (real _ _) hcalm hkm (fun i => #[{ g := i, fn := fr.fn, pos := fr.place, act := .recvClosed r }]) (fun i op z => ?_) (fun i op z => ?_) (fun i op z g d => ?_) (fun rest gs i ht hp => ?_), fun τ D hA => ?_⟩
      · simp only [List.mem_toArray, List.mem_cons, List.not_mem_nil, or_false] at z; subst z; rfl
      · simp only [List.mem_toArray, List.mem_cons, List.not_mem_nil, or_false] at z; subst z; rfl
      · simp only [List.mem_toArray, List.mem_cons, List.not_mem_nil, or_false] at z; subst z; rfl
      · rw [comm_closed hm (hRr gs hp) hget hrun he]; rfl
      · rw [hstep τ D hA.left, comm_closed (hmT _ _) (hRT _ _) hget (hrunT τ _ hA.right) he, List.length_append, ← Nat.add_assoc]; rfl
    · obtain ⟨h1, h2⟩ := hset (buf.extract 1 buf.size) sn (rc + 1)
      refine .inl ⟨A ++ A₂, fr.finish (commResult cases shape k (buf.getD 0 undef) true), up, _, hfin _, h1, h2,
        solo_comm hO (real _ _) hcalm h2 (fun i => #[{ g := i, fn := fr.fn, pos := fr.place, act := .recv r rc cap }, { g := i, fn := fr.fn, pos := fr.place, act := .recvDone r rc }]) (fun i op z => ?_) (fun i op z => ?_) (fun i op z g d => ?_) (fun rest gs i ht hp => ?_), fun τ D hA => ?_⟩
      · simp only [List.mem_toArray, List.mem_cons, List.not_mem_nil, or_false] at z; rcases z with rfl | rfl <;> rfl
      · simp only [List.mem_toArray, List.mem_cons, List.not_mem_nil, or_false] at z; rcases z with rfl | rfl <;> rfl
      · simp only [List.mem_toArray, List.mem_cons, List.not_mem_nil, or_false] at z; rcases z with rfl | rfl <;> rfl
      · rw [comm_roomRecv hm (hRr gs hp) hget hrun he hv (show (w'.at m).heap[r]? = _ from hheap) (hp r hch true)]; rfl
      · rw [hstep τ D hA.left, comm_roomRecv (hmT _ _) (hRT _ _) hget (hrunT τ _ hA.right) he hv (veil_chan hch hheap) (hph r hch true), List.length_append, ← Nat.add_assoc, veil_setObj hch (by simp [isCells])]; rfl
end
end Go.Proofs.Ytnbaiinhalplcaa

namespace Go.Proofs.Ytnbaiinhalplcaa
set_option linter.unusedVariables false
set_option linter.unusedSimpArgs false

section
variable {V : Veil} {P : Program}
open Go.Extern.RuntimeError

theorem simT_text (s : String) : SimT V P (text s) := Sim.pureT
theorem simT_typeStr (t : TypeId) : SimT V P (typeStr t) := by
  unfold typeStr
  repeat' (first
    | with_reducible first
     | exact Sim.pureT
     | exact Sim.stuck
    | exact SimT.unsup trivial
    | with_reducible first
     | exact simT_typeInfo _
     | exact SimT.program
     | refine Sim.bindT ?_ fun _ => ?_
     | refine Sim.ite (fun _ => ?_) (fun _ => ?_)
    | split
    | dsimp only)
theorem simT_described (v : Value) : SimT V P (described v) := by
  unfold described
  repeat' (first
    | with_reducible first
     | exact Sim.pureT
     | exact Sim.stuck
    | exact SimT.unsup trivial
    | with_reducible first
     | exact simT_typeInfo _
     | exact simT_typeStr _
     | exact SimT.program
     | refine Sim.bindT ?_ fun _ => ?_
     | refine Sim.ite (fun _ => ?_) (fun _ => ?_)
    | split
    | dsimp only)
theorem simT_pkgpathOf (i : TypeInfo) : SimT V P (pkgpathOf i) := by
  unfold pkgpathOf
  repeat' (first
    | with_reducible first
     | exact Sim.pureT
     | exact Sim.stuck
    | exact SimT.unsup trivial
    | with_reducible first
     | exact simT_typeInfo _
     | refine Sim.bindT ?_ fun _ => ?_
     | refine Sim.ite (fun _ => ?_) (fun _ => ?_)
    | split
    | dsimp only)
theorem simT_boundsError (args : Array Value) : SimT V P (boundsError args) := by
  rcases args with ⟨_ | ⟨x, _ | ⟨y, l⟩⟩⟩
  · exact Sim.stuck
  · cases x <;> first | exact Sim.stuck | skip
    rename_i a
    rcases a with ⟨_ | ⟨x1, _ | ⟨x2, _ | ⟨x3, _ | ⟨x4, _ | ⟨x5, l⟩⟩⟩⟩⟩⟩ <;> first | exact Sim.stuck | skip
    · cases x1 <;> first | exact Sim.stuck | skip
      cases x2 <;> first | exact Sim.stuck | skip
      cases x3 <;> first | exact Sim.stuck | skip
      cases x4 <;> first | exact Sim.stuck | skip
      rename_i k1 x k2 y sg k3 code
      show SimT V P (match (if (sg && decide (x < 0)) = true then boundsNegErrorFmts else boundsErrorFmts)[code.toNat]? with
        | some fmt => text _
        | none => stuck "boundsError: no such code")
      split
      · exact simT_text _
      · exact Sim.stuck
  · cases x <;> exact Sim.stuck
theorem simT_unhashable (args : Array Value) : SimT V P (unhashableTypeError args) := by
  rcases args with ⟨_ | ⟨x, _ | ⟨y, l⟩⟩⟩
  · exact Sim.stuck
  · cases x <;> first | exact Sim.stuck | skip
    rename_i a
    rcases a with ⟨_ | ⟨x1, _ | ⟨x2, l⟩⟩⟩ <;> first | exact Sim.stuck | skip
    refine Sim.bindT (simT_described x1) fun o => ?_
    cases o with
    | none => exact simT_runtimePanic _
    | some t => exact simT_text _
  · cases x <;> exact Sim.stuck
theorem simT_typeAssertionError (args : Array Value) : SimT V P (typeAssertionError args) := by
  unfold typeAssertionError
  repeat' (first
    | with_reducible first
     | exact Sim.pureT
     | exact Sim.stuck
    | exact SimT.unsup trivial
    | exact simT_text _
    | exact simT_runtimePanic _
    | with_reducible first
     | exact simT_described _
     | exact simT_pkgpathOf _
     | exact simT_asAddr _
     | exact simT_asString _
     | exact Sim.load _ _
     | refine Sim.bindT ?_ fun _ => ?_
     | refine Sim.ite (fun _ => ?_) (fun _ => ?_)
    | split
    | dsimp only)

/-- A row of the run-time's own errors. -/
theorem simT_errorRow {n : String} {e : Array Value → Sem Value} (h : rows.lookup n = some e) (args : Array Value) : SimT V P (e args) := by
  have hm := List.lookup_eq_some_iff.1 h
  obtain ⟨l₁, l₂, hl, _⟩ := hm
  have hin : (n, e) ∈ rows := by rw [hl]; simp
  simp only [rows, List.mem_cons, List.not_mem_nil, or_false, Prod.mk.injEq] at hin
  rcases hin with ⟨_, rfl⟩ | ⟨_, rfl⟩ | ⟨_, rfl⟩ | ⟨_, rfl⟩ | ⟨_, rfl⟩ | ⟨_, rfl⟩ | ⟨_, rfl⟩ | ⟨_, rfl⟩ | ⟨_, rfl⟩ | ⟨_, rfl⟩ | ⟨_, rfl⟩ | ⟨_, rfl⟩ | ⟨_, rfl⟩ | ⟨_, rfl⟩ | ⟨_, rfl⟩
  · exact Sim.bindT (simT_asString _) fun _ => Sim.pureT
  · exact Sim.bindT (simT_asString _) fun _ => Sim.pureT
  · exact Sim.bindT (simT_asAgg _) fun _ => Sim.bindT (simT_asString _) fun _ => Sim.pureT
  · exact Sim.bindT (simT_asAgg _) fun _ => Sim.bindT (simT_asInt _) fun _ => Sim.pureT
  · exact simT_boundsError _
  · exact simT_typeAssertionError _
  · exact simT_text _
  · exact simT_unhashable _
  all_goals exact Sim.pureT
end
end Go.Proofs.Ytnbaiinhalplcaa

namespace Go.Proofs.Ytnbaiinhalplcaa
set_option linter.unusedVariables false
set_option linter.unusedSimpArgs false
set_option maxRecDepth 100000

theorem mild_code : (Try.prog.funcs.all fun fn => match fn.body with | some c => codeOK Try.prog c | none => true) = true := by kernel_rfl
theorem mild_goro : (Try.prog.funcs.all fun fn => !(fn.name == "runtime.NumGoroutine")) = true := by kernel_rfl
theorem mild_next : (Try.prog.funcs.all fun fn => fn.body.isSome || (Extern.findNext fn).isNone) = true := by kernel_rfl
theorem mild_ext : ((List.range Try.prog.funcs.size).all fun i => (Try.prog.funcs[i]?).all fun fn => fn.body.isSome || (Extern.find fn).isNone || [79, 80, 81, 82, 83, 84, 85, 86, 87, 88, 89, 90, 92, 93, 107].contains i) = true := by kernel_rfl
theorem mild_row0 : (Try.prog.funcs[79]?).map Extern.find = some (Extern.RuntimeError.rows.lookup "(runtime.boundsError).Error") := by kernel_rfl
theorem mild_row1 : (Try.prog.funcs[80]?).map Extern.find = some (Extern.RuntimeError.rows.lookup "(runtime.boundsError).RuntimeError") := by kernel_rfl
theorem mild_row2 : (Try.prog.funcs[81]?).map Extern.find = some (Extern.RuntimeError.rows.lookup "(runtime.errorString).Error") := by kernel_rfl
theorem mild_row3 : (Try.prog.funcs[82]?).map Extern.find = some (Extern.RuntimeError.rows.lookup "(runtime.errorString).RuntimeError") := by kernel_rfl
theorem mild_row4 : (Try.prog.funcs[83]?).map Extern.find = some (Extern.RuntimeError.rows.lookup "(runtime.plainError).Error") := by kernel_rfl
theorem mild_row5 : (Try.prog.funcs[84]?).map Extern.find = some (Extern.RuntimeError.rows.lookup "(runtime.plainError).RuntimeError") := by kernel_rfl
theorem mild_row6 : (Try.prog.funcs[85]?).map Extern.find = some (Extern.RuntimeError.rows.lookup "(runtime.errorAddressString).Error") := by kernel_rfl
theorem mild_row7 : (Try.prog.funcs[86]?).map Extern.find = some (Extern.RuntimeError.rows.lookup "(runtime.errorAddressString).RuntimeError") := by kernel_rfl
theorem mild_row8 : (Try.prog.funcs[87]?).map Extern.find = some (Extern.RuntimeError.rows.lookup "(*runtime.TypeAssertionError).Error") := by kernel_rfl
theorem mild_row9 : (Try.prog.funcs[88]?).map Extern.find = some (Extern.RuntimeError.rows.lookup "(*runtime.TypeAssertionError).RuntimeError") := by kernel_rfl
theorem mild_row10 : (Try.prog.funcs[89]?).map Extern.find = some (Extern.RuntimeError.rows.lookup "(*runtime.PanicNilError).Error") := by kernel_rfl
theorem mild_row11 : (Try.prog.funcs[90]?).map Extern.find = some (Extern.RuntimeError.rows.lookup "(*runtime.PanicNilError).RuntimeError") := by kernel_rfl
theorem mild_row12 : (Try.prog.funcs[92]?).map Extern.find = some (Extern.RuntimeError.rows.lookup "(internal/runtime/maps.unhashableTypeError).Error") := by kernel_rfl
theorem mild_row13 : (Try.prog.funcs[93]?).map Extern.find = some (Extern.RuntimeError.rows.lookup "(internal/runtime/maps.unhashableTypeError).RuntimeError") := by kernel_rfl
theorem mild_kind : (Try.prog.funcs[107]?).map Extern.find = some (some fun args => do pure (strVal (Extern.Rtype.kindName (← asInt (args.getD 0 (.tuple #[]))).toNat))) := by kernel_rfl

theorem all_get {α : Type} {l : Array α} {p : α → Bool} (h : l.all p = true) {i : Nat} {x : α} (hx : l[i]? = some x) : p x = true := by
  rw [Array.all_eq_true_iff_forall_mem] at h
  exact h x (Array.mem_of_getElem? hx)

theorem row_sim {f : FuncId} {fn : Func} {n : String} (hr : (Try.prog.funcs[f]?).map Extern.find = some (Extern.RuntimeError.rows.lookup n)) (hf : Try.prog.funcs[f]? = some fn) {e : Array Value → Sem Value} (he : Extern.find fn = some e) (V : Veil) (args : Array Value) : SimT V Try.prog (e args) := by
  rw [hf, Option.map_some, he] at hr
  exact simT_errorRow (Option.some.inj hr).symm args

theorem mild : Mild2 Try.prog where
  goro f fn hf := by simpa using all_get mild_goro hf
  code f fn c hf hb := by have := all_get mild_code hf; rw [hb] at this; exact this
  ext f fn hf hb := by
    have hb' : fn.body.isSome = false := by cases h : fn.body <;> simp_all
    have h1 := all_get mild_next hf
    rw [hb', Bool.false_or] at h1
    refine ⟨by simpa using h1, fun e he V args => ?_⟩
    have h2 := mild_ext
    rw [List.all_eq_true] at h2
    have h3 := h2 f (List.mem_range.2 (Array.getElem?_eq_some_iff.1 hf).1)
    rw [hf] at h3
    simp only [Option.all_some, hb', he, Bool.false_or, Option.isNone_some] at h3
    simp only [List.contains_eq_mem, List.mem_cons, List.not_mem_nil, or_false, decide_eq_true_eq] at h3
    rcases h3 with rfl | rfl | rfl | rfl | rfl | rfl | rfl | rfl | rfl | rfl | rfl | rfl | rfl | rfl | rfl
    · exact row_sim mild_row0 hf he V args
    · exact row_sim mild_row1 hf he V args
    · exact row_sim mild_row2 hf he V args
    · exact row_sim mild_row3 hf he V args
    · exact row_sim mild_row4 hf he V args
    · exact row_sim mild_row5 hf he V args
    · exact row_sim mild_row6 hf he V args
    · exact row_sim mild_row7 hf he V args
    · exact row_sim mild_row8 hf he V args
    · exact row_sim mild_row9 hf he V args
    · exact row_sim mild_row10 hf he V args
    · exact row_sim mild_row11 hf he V args
    · exact row_sim mild_row12 hf he V args
    · exact row_sim mild_row13 hf he V args
    · have hk := mild_kind
      rw [hf, Option.map_some, he] at hk
      obtain rfl := Option.some.inj (Option.some.inj hk)
      exact Sim.bindT (simT_asInt _) fun _ => Sim.pureT
end Go.Proofs.Ytnbaiinhalplcaa

namespace Go.Proofs.Ytnbaiinhalplcaa
set_option linter.unusedVariables false
set_option linter.unusedSimpArgs false
open Go.Conc

def poor : Option Obj → Bool
  | some (.chan ..) | some (.view ..) | some (.pending ..) | some (.loop ..) => true
  | _ => false
/-- F: the blocks of which some cells (from, to) may bear no store. -/
structure Lies (pl : Nat → Option Place) (F : Nat → Option (Nat × Nat)) (w : World) : Prop where
  lies : ∀ i r, F i = some r → ∃ c t, w.heap[i]? = some (.cells c t (0, 0))
  chans : ∀ i s c, pl i = some s → s.has c → ∃ cap buf cl sn rc tm, w.heap[c]? = some (.chan cap buf cl sn rc tm)
  still : ∀ i s a v, pl i = some s → s.still a v → ∃ lo hi, F a.block = some (lo, hi) ∧ lo ≤ a.off ∧ a.off < hi

section
variable {P : Program} {Post : Value → World → Prop} {pl : Nat → Option Place} {n h : Nat} {cs : List Frame} {w w' : World} {F : Nat → Option (Nat × Nat)}

def Lies.veil (L : Lies pl F w) : Veil where
  froz := F
  ch i := poor w.heap[i]?
  top := w.heap.size
  lowF i r e := by obtain ⟨c, t, h⟩ := L.lies i r e; exact (Array.getElem?_eq_some_iff.1 h).1
  lowC i e := by
    cases h : w.heap[i]? with
    | none => rw [h] at e; cases e
    | some o => exact (Array.getElem?_eq_some_iff.1 h).1
theorem Lies.ok (L : Lies pl F w) : VOK L.veil w := by
  refine ⟨Nat.le_refl _, fun i o ho => ?_, fun i o hc ho => ?_, L.lies⟩
  · show poor w.heap[i]? = true ∨ NiceO o
    rw [ho]
    cases o <;> first | exact .inl rfl | exact .inr trivial
  · have hc' : poor w.heap[i]? = true := hc
    rw [ho] at hc'
    cases o <;> first | (cases hc'; done) | exact ⟨fun z => z, fun z => z⟩
theorem Lies.over (L : Lies pl F w) : Over L.veil pl := by
  refine ⟨fun i s c hi hc => ?_, fun i s a v hi ha => ?_⟩
  · obtain ⟨_, _, _, _, _, _, h⟩ := L.chans i s c hi hc
    show poor w.heap[c]? = true
    rw [h]; rfl
  · obtain ⟨lo, hi', h, h1, h2⟩ := L.still i s a v hi ha
    show (match F a.block with | some (lo, hi) => decide (lo ≤ a.off) && decide (a.off < hi) | none => false) = true
    rw [h]; simp [h1, h2]

/-- A block of cells that no waiting one looks at is in the twin what it is in the world. -/
theorem Lies.block (L : Lies pl F w) {τ : Nat → Question → Nat} {D i : Nat} {c : Array Value} {t : TypeId} {fz : Nat × Nat} (hF : F i = none) : (L.veil.world τ D w').heap[i]? = some (.cells c t fz) ↔ w'.heap[i]? = some (.cells c t fz) := by
  rw [veil_heap]
  cases ho : w'.heap[i]? with
  | none => simp
  | some o =>
    have hf : L.veil.froz i = none := hF
    cases o with
    | cells c' t' f' => simp [Veil.obj, hf]
    | _ => cases hc : L.veil.ch i <;> simp [Veil.obj, hc]
/-- What is no block of cells and not poor is in the twin what it is in the world. -/
theorem Lies.other (L : Lies pl F w) {τ : Nat → Question → Nat} {D i : Nat} {o : Obj} (hn : poor w.heap[i]? = false) (ho : ¬ isCells o) : (L.veil.world τ D w').heap[i]? = some o ↔ w'.heap[i]? = some o := by
  rw [veil_heap]
  have hc : L.veil.ch i = false := hn
  cases hw : w'.heap[i]? with
  | none => simp
  | some o' => cases o' <;> simp [Veil.obj, hc]
               rename_i c t f
               refine ⟨fun z => absurd ?_ ho, fun z => absurd ?_ ho⟩ <;> (rw [← z]; trivial)
theorem Lies.keeps (L : Lies pl F w) (hk : VKeep L.veil w w') (hok : VOK L.veil w') : Lies pl F w' := by
  refine ⟨fun i r hr => hok.frz i r hr, fun i s c hi hc => ?_, L.still⟩
  obtain ⟨cap, buf, cl, sn, rc, tm, h⟩ := L.chans i s c hi hc
  exact ⟨cap, buf, cl, sn, rc, tm, by rw [hk.chs c (L.over.ch i s c hi hc)]; exact h⟩
theorem Lies.cell (L : Lies pl F w) (hk : VKeep L.veil w w') {i : Nat} {s : Place} {a : Addr} {v : Value} (hi : pl i = some s) (ha : s.still a v) : w'.cell? a = w.cell? a := hk.st a (L.over.st i s a v hi ha)
theorem Lies.chan (L : Lies pl F w) (hk : VKeep L.veil w w') {c : Nat} (hc : poor w.heap[c]? = true) : w'.heap[c]? = w.heap[c]? := hk.chs c hc
theorem Lies.at (L : Lies pl F w) (d : Nat) : Lies pl F (w.at d) := ⟨L.lies, L.chans, L.still⟩

/-- A PIECE OF CODE IN COMPANY. -/
theorem Win.code (M : Mild2 P) (L : Lies pl F w) {b : Frame} {a : Act} {k : List Item} {c : Code} {Q : Exit → Act → World → Prop} (hok : StOK P (b.at a (.code c :: k)) []) (hc : ∀ τ, c.wp P Q a (L.veil.world τ 0 w))
    (hout : ∀ a w, ¬ Q .outgrown a w) (hex : ∀ id a w, Q (.exit id) a w → exitTo id k ≠ none) (hgo : ∀ l a w, Q (.goto l) a w → gotoIn l k ≠ none)
    (hQ : ∀ e a' w' τ D fr', StOK P fr' [] → VOK L.veil w' → VKeep L.veil w w' → Q e a' (L.veil.world τ D w') → Lands b k e a' fr' → Win P Post pl n h (gor fr' cs) w') : Win P Post pl n h (gor (b.at a (.code c :: k)) cs) w :=
  Win.piece M L.over (commOK L.over cs) hok L.ok hc hout hex hgo hQ
end
end Go.Proofs.Ytnbaiinhalplcaa

namespace Go.Proofs.Ytnbaiinhalplcaa
set_option linter.unusedVariables false
set_option linter.unusedSimpArgs false
open Go.Conc

section
variable {P : Program} {Post : Value → World → Prop} {pl : Nat → Option Place} {n h : Nat} {cs : List Frame} {w w' : World} {F : Nat → Option (Nat × Nat)}

/-- A CALL that one does alone, whatever is drawn. -/
theorem Win.calls (M : Mild2 P) (L : Lies pl F w) {f : FuncId} {args : Array Value} {c : Frame} {R : Ending → World → Prop} (hok : StOK P c []) (hc : ∀ τ, Calls P f args (L.veil.world τ 0 w) R) (hR : ∀ e w, R e w → ∃ v, e = .returned v)
    (hQ : ∀ v w' τ D, StOK P (c.finish v) [] → VOK L.veil w' → VKeep L.veil w w' → R (.returned v) (L.veil.world τ D w') → Win P Post pl n h (gor (c.finish v) cs) w') : Win P Post pl n h (gor (Frame.enter P f args .normal) (c :: cs)) w := by
  refine Win.lift (up := [c]) (cs := cs) M L.over (commOK L.over cs) (hok.push (FrOK.enter M f args (.inl rfl))) L.ok (fun fr' up' w' => up' = [] ∧ ∃ v, R (.returned v) w' ∧ fr' = c.finish v) (fun τ => ?_) (fun fr' up' w' τ D h1 h2 h3 h4 => ?_)
  · obtain ⟨e, w', fr, hr, hcm, _, hl⟩ := hc τ [c, sent P]
    obtain ⟨v, rfl⟩ := hR e w' hr
    have hs : Steps P (lone (Frame.enter P f args .normal) [c, sent P] (L.veil.world τ 0 w)) (lone fr [c, sent P] w') := hcm
    obtain ⟨N, hN⟩ := hs.trans (.one (step_leave_returned hl))
    exact ⟨N, c.finish v, [], w', hN, rfl, v, hr, rfl⟩
  · obtain ⟨rfl, v, hr, rfl⟩ := h4
    exact hQ v w' τ D h1 h2 h3 hr

/-- What is listed by who only reads. -/
def Reads (es : Array Event) : Prop := ∀ e ∈ es, e.write = false ∧ ∀ m, e.loc ≠ .mark m
theorem Reads.calm {es : Array Event} (H : Reads es) : ∀ e ∈ es, Calm pl e := by
  intro e he
  obtain ⟨h1, h2⟩ := H e he
  refine ⟨fun x hx hw g c hl => ?_, h2 _, h2 _⟩
  obtain ⟨loc, wr, sy⟩ := e
  simp only at h1
  subst h1
  cases loc <;> simp [MemAct.ofEvent, MemAct.touch?] at hx <;> first | (subst hx; cases hw; done) | exact absurd rfl (h2 _) | (cases sy <;> simp at hx <;> (subst hx; cases hw))

section ops
variable {b : Frame} {a : Act} {k : List Item} {ops : Array Oper} {i : Nat} {rest : List Nat} {o : Oper} {v : Value}

theorem stepG_oper (main : Bool) (ho : ops[i]? = some o) (hwt : Region.wanted o (yielded ops a.tmps) = true) (w : World) :
    stepG P main (gor (b.at a (.inRegion ops (i :: rest) :: k)) cs) w = stepG.apply P true (b.at a (.inRegion ops (i :: rest) :: k)) cs none (execOp a.eval o) w := by
  have he := Frame.eval_at' b a (.inRegion ops (i :: rest) :: k)
  simp only [Frame.at] at he
  simp [stepG, gor, stepG.exec, stepG.oper, Frame.oper?, Frame.at, ho, hwt, he]
theorem stepG_value (hb : b.kind = .normal ∨ b.kind = .deferred) (main : Bool) (ho : ops[i]? = some o) (hwt : Region.wanted o (yielded ops a.tmps) = true) {w w' : World} {es : Array Event} (hr : (execOp a.eval o).runT P w #[] = (.ok (.value v) w', es)) :
    stepG P main (gor (b.at a (.inRegion ops (i :: rest) :: k)) cs) w = .go (gor (b.at (a.put o.dst v) (.inRegion ops rest :: k)) cs) w' (seen P b.fn es) := by
  have hke : ((b.at a (.inRegion ops (i :: rest) :: k)).kind == .early) = false := by
    show (b.kind == .early) = false
    rcases hb with e | e <;> rw [e] <;> rfl
  have hf := Frame.finish_at b a ops i rest k v
  rw [ho] at hf
  rw [stepG_oper main ho hwt]
  simp only [stepG.apply, hr, if_true, hke, if_false, Bool.false_eq_true, GStep.after, Array.append_empty, gor]
  rw [hf]; rfl

/-- AN OPERATION that only reads. -/
theorem Win.op (hb : b.kind = .normal ∨ b.kind = .deferred) (ho : ops[i]? = some o) (hwt : Region.wanted o (yielded ops a.tmps) = true) (hr : ∀ d, ∃ es, (execOp a.eval o).runT P (w.at d) #[] = (.ok (.value v) (w.at d), es) ∧ Reads es)
    (H : Win P Post pl n h (gor (b.at (a.put o.dst v) (.inRegion ops rest :: k)) cs) w) : Win P Post pl n h (gor (b.at a (.inRegion ops (i :: rest) :: k)) cs) w :=
  Win.step rfl fun d => by
    obtain ⟨es, h1, h2⟩ := hr d
    exact ⟨_, _, _, stepG_value hb (h == 0) ho hwt h1, ⟨fun _ _ _ _ _ => rfl, fun _ _ _ z => z⟩, fun e he => h2.calm e (mem_seen he), H.at d⟩
theorem Win.opsEnd (H : Win P Post pl n h (gor (b.at a k) cs) w) : Win P Post pl n h (gor (b.at a (.inRegion ops [] :: k)) cs) w := .turnless (fun d => rfl) H
/-- A region that does not draw. -/
theorem Win.region {id : Nat} (H : Win P Post pl n h (gor (b.at a (.inRegion ops (List.range ops.size) :: k)) cs) w) : Win P Post pl n h (gor (b.at a (.code (.region id ops false) :: k)) cs) w := .turnless (fun d => rfl) H
/-- One that draws its order. -/
theorem Win.regionDraws {id : Nat} (H : ∀ t, Win P Post pl n h (gor (b.at a (.inRegion ops (Region.schedule (P.follows .mixedOrders) ops t) :: k)) cs) w) : Win P Post pl n h (gor (b.at a (.code (.region id ops true) :: k)) cs) w :=
  Win.step rfl fun d => by
    refine ⟨gor (b.at a (.inRegion ops (Region.schedule (P.follows .mixedOrders) ops (w.tape d (.order b.fn id))) :: k)) cs, w.at (d + 1), #[], ?_, ⟨fun _ _ _ _ _ => rfl, fun _ _ _ z => z⟩, fun e he => by simp at he, (H _).at _⟩
    rw [stepG_run rfl]
    rfl
end ops
end
end Go.Proofs.Ytnbaiinhalplcaa
