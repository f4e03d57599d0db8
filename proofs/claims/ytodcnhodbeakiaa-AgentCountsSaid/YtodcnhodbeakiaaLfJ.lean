/- What one comes to alone, in the veiled twin, whatever is drawn, one comes to in company. Of whatever program. Conditions: none. -/
import Derived.Test.YtodcnhodbeakiaaLfI
import Derived.Test.YtodcnhodbeakiaaTk
import Derived.Lone
namespace Go.Proofs.Ytodcnhodbeakiaa
set_option linter.unusedVariables false
set_option linter.unusedSimpArgs false
open Go.Conc

def Live (P : Program) (m : Machine) : Prop := ∃ fr up w, m = lone fr (up ++ [sent P]) w
def Gone (P : Program) (m : Machine) : Prop := ∀ n m', runN P (n + 1) m = .next m' → ¬ Live P m'

section
variable {V : Veil} {P : Program} {fr fr' : Frame} {up up' : List Frame} {w : World} {m m₁ : Machine}

theorem gone_of_ended {o : Outcome} {w' : World} (h : step P m = .ended o w') : Gone P m := fun n m' hr => by simp [runN, h] at hr
theorem gone_of_next (h : step P m = .next m₁) (hl : ¬ Live P m₁) (hg : Gone P m₁) : Gone P m := fun n m' hr => by
  simp only [runN, h] at hr
  cases n with
  | zero =>
    obtain rfl : m₁ = m' := by simpa [runN] using hr
    exact hl
  | succ n => exact hg n m' hr
theorem live_size (h : Live P m) : m.gs.size = 1 := by obtain ⟨fr, up, w, rfl⟩ := h; rfl
theorem gone_of_size (h : 2 ≤ m.gs.size) : Gone P m := fun n m' hr hl => by
  have h1 := live_size hl
  have h2 : runNT P (n + 1) m #[] = (.next m', (runNT P (n + 1) m #[]).2) := by rw [← hr, ← runNT_fst P _ _ #[]]
  have h3 := runNT_size P _ _ _ _ _ h2
  omega
theorem gone_sent (w : World) : Gone P (lone (sent P) [] w) := by
  refine gone_of_ended (o := .unsupported (Unsupported.elab "") ((sent P).pos P)) (w' := w) (step_lone_ended ?_)
  rfl
theorem gone_raised (c : List PanicEntry) (w : World) : Gone P (lone ((sent P).raise c) [] w) := by
  obtain ⟨o, ho⟩ : ∃ o, (stepG P true { frame := (sent P).raise c, callers := [], status := .running, dying := none } w).bare = .ended o w := ⟨_, rfl⟩
  exact gone_of_ended (step_lone_ended ho)
theorem not_live_bare (fr : Frame) (w : World) : ¬ Live P (lone fr [] w) := by
  rintro ⟨f, up, w', h⟩
  have := congrArg (fun m : Machine => (m.gs[0]?).map (·.callers)) h
  simp [lone] at this

theorem gone_of_lost {fr : Frame} {cs : List Frame} (h : Lost P (stepG P true (gor fr cs) w).bare) : Gone P (lone fr cs w) := by
  generalize hs : (stepG P true (gor fr cs) w).bare = s at h
  cases s with
  | ended o w' es => exact gone_of_ended (o := o) (w' := w') (step_lone_ended (by
      show (stepG P true (gor fr cs) w).bare = _
      rw [hs]
      have : (GStep.ended o w' es).bare = GStep.ended o w' es := by rw [← hs]; cases stepG P true (gor fr cs) w <;> rfl
      rw [← this]; rfl))
  | spawn g child w' es =>
    have : ∃ m₁, step P (lone fr cs w) = .next m₁ ∧ m₁.gs.size = 2 := by
      generalize hs' : stepG P true (gor fr cs) w = s' at hs
      cases s' <;> simp at hs
      unfold gor at hs'
      rw [step, stepT, move_lone]
      simp [runT, lone, Array.swapAt!, hs']
    obtain ⟨m₁, h1, h2⟩ := this
    refine gone_of_next h1 (fun hl => ?_) (gone_of_size (by omega))
    have := live_size hl
    omega
  | go g w' es =>
    have e : (GStep.go g w' es).bare = GStep.go g w' es := by rw [← hs]; cases stepG P true (gor fr cs) w <;> rfl
    obtain rfl : es = #[] := by
      have e2 : GStep.go g w' = GStep.go g w' es := e
      simpa using e2.symm
    rcases h with rfl | ⟨c, rfl⟩
    · exact gone_of_next (step_lone_go (fr' := sent P) (cs' := []) (w' := w') hs) (not_live_bare _ _) (gone_sent _)
    · exact gone_of_next (step_lone_go (fr' := (sent P).raise c) (cs' := []) (w' := w') hs) (not_live_bare _ _) (gone_raised _ _)
  | _ => exact h.elim
end

/-- The veil lies over all that the waiting ones look at. -/
structure Over (V : Veil) (pl : Nat → Option Place) : Prop where
  ch : ∀ i s c, pl i = some s → s.has c → V.ch c = true
  st : ∀ i s a v, pl i = some s → s.still a v → V.still a = true
theorem Over.kept {V : Veil} {pl : Nat → Option Place} (H : Over V pl) {w w' : World} (h : VKeep V w w') : Kept pl w w' :=
  ⟨fun i s c hi hc => h.chs c (H.ch i s c hi hc), fun i s hi hs a v ha => by rw [h.st a (H.st i s a v hi ha)]; exact hs a v ha⟩
theorem Over.calm {V : Veil} {pl : Nat → Option Place} (H : Over V pl) {e : Event} (h : CalmV V e) : Calm pl e :=
  by
  refine ⟨fun x hx hw g c hl hp => ?_, h.2⟩
  obtain ⟨s, v, hs, hv⟩ := hp
  have := h.1 x hx hw c hl
  rw [H.st g s c v hs hv] at this
  cases this

def Adv (V : Veil) (P : Program) (A : List (Question → Nat)) (s s' : Frame × List Frame × World) : Prop :=
  ∀ τ D, Agr A τ D → step P (lone s.1 (s.2.1 ++ [sent P]) (V.world τ D s.2.2)) = .next (lone s'.1 (s'.2.1 ++ [sent P]) (V.world τ (D + A.length) s'.2.2))
def Fin' (V : Veil) (P : Program) (A : List (Question → Nat)) (s : Frame × List Frame × World) : Prop :=
  ∀ τ D, Agr A τ D → Gone P (lone s.1 (s.2.1 ++ [sent P]) (V.world τ D s.2.2))

/-- What is asked of a communication within what one does by oneself: it goes on by itself, or (in the twin) for ever not. -/
def CommOK (V : Veil) (P : Program) (pl : Nat → Option Place) (h : Nat) (cs : List Frame) : Prop :=
  ∀ (fr : Frame) (up : List Frame) (w : World) (A : List (Question → Nat)) (cases : Array CommCase) (b : Bool) (shape : CommShape) (w' : World) (es : Array Event), StOK P fr up → VOK V w → VOK V w' → VKeep V w w' → (∀ e ∈ es, CalmV V e) →
    (∃ ops i rest k, fr.todo = .inRegion ops (i :: rest) :: k) →
    (∀ main cs, stepG P main (gor fr (up ++ cs)) w = .comm (gor fr (up ++ cs)) cases b shape w' es) →
    (∀ τ D, Agr A τ D → (stepG P true (gor fr (up ++ [sent P])) (V.world τ D w)).bare = .comm (gor fr (up ++ [sent P])) cases b shape (V.world τ (D + A.length) w')) →
    (∃ A' fr' up' w₂, StOK P fr' up' ∧ VOK V w₂ ∧ VKeep V w w₂ ∧ Solo P pl h (gor fr (up ++ cs)) w (gor fr' (up' ++ cs)) w₂ ∧ Adv V P A' (fr, up, w) (fr', up', w₂)) ∨ ∃ A', Fin' V P A' (fr, up, w)

section
variable {V : Veil} {P : Program} {Post : Value → World → Prop} {pl : Nat → Option Place} {n h : Nat} {cs : List Frame} {w₀ : World}

def Bad (V : Veil) (P : Program) (Post : Value → World → Prop) (pl : Nat → Option Place) (n h : Nat) (cs : List Frame) (w₀ : World) (s : Frame × List Frame × World) : Prop :=
  StOK P s.1 s.2.1 ∧ VOK V s.2.2 ∧ VKeep V w₀ s.2.2 ∧ ¬ Win P Post pl n h (gor s.1 (s.2.1 ++ cs)) s.2.2

theorem turn (M : Mild2 P) (hO : Over V pl) (hC : CommOK V P pl h cs) {s : Frame × List Frame × World} (hb : Bad V P Post pl n h cs w₀ s) :
    (∃ A s', Bad V P Post pl n h cs w₀ s' ∧ Adv V P A s s') ∨ ∃ A, Fin' V P A s := by
  obtain ⟨fr, up, w⟩ := s
  obtain ⟨hok, hw, hk, hn⟩ := hb
  refine Classical.byContradiction fun hc => hn (Win.one rfl fun d => ?_)
  have hkd : ∀ {w'}, VKeep V (w.at d) w' → VKeep V w₀ w' := fun k => hk.trans ⟨k.size, k.chs, k.st⟩
  cases goes M hok (hw.at d) with
  | go A fr' up' w' es ok vok keep calm real twin =>
    refine ⟨gor fr' (up' ++ cs), w', Solo.go (real _ _) (hO.kept keep) (fun e he => hO.calm (calm e he)), Classical.byContradiction fun hn' => hc (.inl ⟨A, (fr', up', w'), ⟨ok, vok, hkd keep, hn'⟩, fun τ D hA => ?_⟩)⟩
    exact step_lone_go (twin τ D hA)
  | lost A twin => exact absurd (.inr ⟨A, fun τ D hA => gone_of_lost (twin τ D hA)⟩) hc
  | comm A cases b shape w' es vok keep calm reg real twin =>
    rcases hC fr up (w.at d) A cases b shape w' es hok (hw.at d) vok keep calm reg real twin with ⟨A', fr', up', w₂, ok, vok', keep', hs, ha⟩ | ⟨A', hf⟩
    · exact ⟨gor fr' (up' ++ cs), w₂, hs, Classical.byContradiction fun hn' => hc (.inl ⟨A', (fr', up', w₂), ⟨ok, vok', hkd keep', hn'⟩, ha⟩)⟩
    · exact absurd (.inr ⟨A', hf⟩) hc

/-- The answers that are drawn up to a place. -/
def drawnTo (f : Nat → List (Question → Nat)) : Nat → List (Question → Nat)
  | 0 => []
  | i + 1 => drawnTo f i ++ f i
theorem drawnTo_prefix (f : Nat → List (Question → Nat)) (i k : Nat) : ∃ l, drawnTo f (i + k) = drawnTo f i ++ l := by
  induction k with
  | zero => exact ⟨[], by simp⟩
  | succ k ih => obtain ⟨l, hl⟩ := ih; exact ⟨l ++ f (i + k), by show drawnTo f (i + k) ++ f (i + k) = _; rw [hl, List.append_assoc]⟩
theorem exists_tape (f : Nat → List (Question → Nat)) : ∃ τ : Nat → Question → Nat, ∀ i, Agr (drawnTo f i) τ 0 := by
  classical
  refine ⟨fun j => if hj : ∃ i, j < (drawnTo f i).length then ((drawnTo f hj.choose)[j]?).getD default else default, fun i j a ha => ?_⟩
  have hlt : j < (drawnTo f i).length := (List.getElem?_eq_some_iff.1 ha).1
  have hj : ∃ i, j < (drawnTo f i).length := ⟨i, hlt⟩
  simp only [Nat.zero_add, dif_pos hj]
  have hspec := hj.choose_spec
  generalize hj.choose = i' at hspec
  rcases Nat.le_total i i' with hle | hle
  · obtain ⟨k, rfl⟩ := Nat.exists_eq_add_of_le hle
    obtain ⟨l, hl⟩ := drawnTo_prefix f i k
    rw [hl, List.getElem?_append_left hlt, ha]; rfl
  · obtain ⟨k, rfl⟩ := Nat.exists_eq_add_of_le hle
    obtain ⟨l, hl⟩ := drawnTo_prefix f i' k
    rw [hl, List.getElem?_append_left hspec] at ha
    rw [ha]; rfl

/-- WHAT ONE COMES TO ALONE, WHATEVER IS DRAWN. -/
theorem Win.lift (M : Mild2 P) (hO : Over V pl) (hC : CommOK V P pl h cs) {fr : Frame} {up : List Frame} (hok : StOK P fr up) (hw : VOK V w₀) (T : Frame → List Frame → World → Prop)
    (hc : ∀ τ, ∃ N fr' up' w', runN P N (lone fr (up ++ [sent P]) (V.world τ 0 w₀)) = .next (lone fr' (up' ++ [sent P]) w') ∧ T fr' up' w')
    (hT : ∀ fr' up' w' τ D, StOK P fr' up' → VOK V w' → VKeep V w₀ w' → T fr' up' (V.world τ D w') → Win P Post pl n h (gor fr' (up' ++ cs)) w') : Win P Post pl n h (gor fr (up ++ cs)) w₀ := by
  classical
  refine Classical.byContradiction fun hn => ?_
  have hstep : ∀ x : { s // Bad V P Post pl n h cs w₀ s }, ∃ y : List (Question → Nat) × { s // Bad V P Post pl n h cs w₀ s }, Adv V P y.1 x.1 y.2.1 ∨ Fin' V P y.1 x.1 := fun x => by
    rcases turn M hO hC x.2 with ⟨A, s', hb, ha⟩ | ⟨A, hf⟩
    · exact ⟨(A, ⟨s', hb⟩), .inl ha⟩
    · exact ⟨(A, x), .inr hf⟩
  let x₀ : { s // Bad V P Post pl n h cs w₀ s } := ⟨(fr, up, w₀), hok, hw, VKeep.refl _ _, hn⟩
  let nx := fun x => (hstep x).choose
  have hnx : ∀ x, Adv V P (nx x).1 x.1 (nx x).2.1 ∨ Fin' V P (nx x).1 x.1 := fun x => (hstep x).choose_spec
  let xs : Nat → { s // Bad V P Post pl n h cs w₀ s } := fun i => Nat.rec x₀ (fun _ x => (nx x).2) i
  let f : Nat → List (Question → Nat) := fun i => (nx (xs i)).1
  obtain ⟨τ, hτ⟩ := exists_tape f
  have hA : ∀ i, Agr (f i) τ (drawnTo f i).length := fun i => by
    have := Agr.right (A := drawnTo f i) (B := f i) (D := 0) (hτ (i + 1))
    simpa using this
  let m₀ : Machine := lone fr (up ++ [sent P]) (V.world τ 0 w₀)
  have key : ∀ i, runN P i m₀ = .next (lone (xs i).1.1 ((xs i).1.2.1 ++ [sent P]) (V.world τ (drawnTo f i).length (xs i).1.2.2)) ∨ ∃ k m₁, k < i ∧ runN P k m₀ = .next m₁ ∧ Gone P m₁ := by
    intro i
    induction i with
    | zero => exact .inl rfl
    | succ i ih =>
      rcases ih with ih | ⟨k, m₁, h1, h2, h3⟩
      · rcases hnx (xs i) with ha | hf
        · refine .inl ?_
          rw [runN_add, ih]
          have := ha τ _ (hA i)
          simp only [runN, this]
          show Stepped.next (lone _ _ (V.world τ ((drawnTo f i).length + (f i).length) _)) = Stepped.next (lone _ _ (V.world τ (drawnTo f i ++ f i).length _))
          rw [List.length_append]
        · exact .inr ⟨i, _, Nat.lt_succ_self i, ih, hf τ _ (hA i)⟩
      · exact .inr ⟨k, m₁, Nat.lt_succ_of_lt h1, h2, h3⟩
  obtain ⟨N, fr', up', w', hr, ht⟩ := hc τ
  rcases key N with h1 | ⟨k, m₁, h1, h2, h3⟩
  · have e := hr.symm.trans h1
    have e2 := Stepped.next.inj e
    have ew := congrArg Machine.world e2
    have eg := congrArg (fun m : Machine => (m.gs[0]?).map fun g => (g.frame, g.callers)) e2
    simp only [lone] at ew eg
    obtain ⟨e3, e4⟩ := by simpa using eg
    obtain ⟨b1, b2, b3, b4⟩ := (xs N).2
    subst e3
    subst e4
    rw [ew] at ht
    exact b4 (hT _ _ _ _ _ b1 b2 b3 ht)
  · obtain ⟨j, rfl⟩ : ∃ j, N = k + (j + 1) := ⟨N - k - 1, by omega⟩
    rw [runN_add, h2] at hr
    exact h3 j _ hr ⟨_, _, _, rfl⟩
end
end Go.Proofs.Ytodcnhodbeakiaa
