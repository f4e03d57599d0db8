/- In company: a step that turns nothing; a piece of code that one does alone. Of whatever program. Conditions: none. -/
import Derived.Test.YtodcnhodbeakiaaLfJ
namespace Go.Proofs.Ytodcnhodbeakiaa
set_option linter.unusedVariables false
set_option linter.unusedSimpArgs false
open Go.Conc

section
variable {V : Veil} {P : Program} {Post : Value → World → Prop} {pl : Nat → Option Place} {n h : Nat} {cs : List Frame} {w w₀ : World} {g : Goroutine}

theorem Rests.at {a' : Goroutine} {o : Option Place} (H : Rests P pl h w a' o) (d : Nat) : Rests P pl h (w.at d) a' o := by
  cases o <;> exact H
theorem Win.at (H : Win P Post pl n h g w) (d : Nat) : Win P Post pl n h g (w.at d) := by
  cases H with
  | done hn hr he => exact .done hn hr fun d' => by rw [at_at']; exact he d'
  | byself g' w' hr hs hw => exact .byself g' w' hr (fun d' => by rw [at_at']; exact hs d') hw
  | give hr hj hk hs hc hR hw => exact .give hr hj hk (fun d' => by rw [at_at']; exact hs d') hc (hR.at d) (fun g₂ d' k hh hx => by rw [at_at']; exact hw g₂ d' k hh hx)
  | shut hr hj hk hwake ha' hc hs hR hw => exact .shut hr hj hk hwake ha' hc (fun d' => by rw [at_at']; exact hs d') (hR.at d) (fun g₂ d' hh => by rw [at_at']; exact hw g₂ d' hh)
  | hire hr hs hc hR hw => exact .hire hr (fun d' => by rw [at_at']; exact hs d') hc (hR.at d) (fun d' => by rw [at_at']; exact hw d')
theorem Win.of_at {d : Nat} (H : Win P Post pl n h g (w.at d)) : Win P Post pl n h g w := by
  have := H.at w.drawn
  rw [at_at'] at this
  exact this

/-- A step that turns nothing. -/
theorem Win.turnless {fr fr' : Frame} {cs cs' : List Frame} (hs : ∀ d, stepG P (h == 0) (gor fr cs) (w.at d) = .go (gor fr' cs') (w.at d)) (H : Win P Post pl n h (gor fr' cs') w) : Win P Post pl n h (gor fr cs) w :=
  Win.step rfl fun d => ⟨_, _, #[], hs d, ⟨fun _ _ _ _ _ => rfl, fun _ _ _ z => z⟩, fun e he => by simp at he, H.at d⟩

section moves
variable {b : Frame} {a : Act} {k : List Item}

theorem Win.skip (H : Win P Post pl n h (gor (b.at a k) cs) w) : Win P Post pl n h (gor (b.at a (.code .skip :: k)) cs) w := .turnless (fun d => rfl) H
theorem Win.label {l : Nat} (H : Win P Post pl n h (gor (b.at a k) cs) w) : Win P Post pl n h (gor (b.at a (.code (.label l) :: k)) cs) w := .turnless (fun d => rfl) H
theorem Win.inBlock {id : Nat} (H : Win P Post pl n h (gor (b.at a k) cs) w) : Win P Post pl n h (gor (b.at a (.inBlock id :: k)) cs) w := .turnless (fun d => rfl) H
theorem Win.inScope {c : Code} (H : Win P Post pl n h (gor (b.at a k) cs) w) : Win P Post pl n h (gor (b.at a (.inScope c :: k)) cs) w := .turnless (fun d => rfl) H
theorem Win.seq {x y : Code} (H : Win P Post pl n h (gor (b.at a (.code x :: .code y :: k)) cs) w) : Win P Post pl n h (gor (b.at a (.code (.seq x y) :: k)) cs) w := .turnless (fun d => rfl) H
theorem Win.block {id : Nat} {x : Code} (H : Win P Post pl n h (gor (b.at a (.code x :: .inBlock id :: k)) cs) w) : Win P Post pl n h (gor (b.at a (.code (.block id x) :: k)) cs) w := .turnless (fun d => rfl) H
theorem Win.scope {x : Code} (H : Win P Post pl n h (gor (b.at a (.code x :: .inScope x :: k)) cs) w) : Win P Post pl n h (gor (b.at a (.code (.scope x) :: k)) cs) w := .turnless (fun d => rfl) H
theorem Win.loop {x : Code} (H : Win P Post pl n h (gor (b.at a (.code x :: .inLoop x :: k)) cs) w) : Win P Post pl n h (gor (b.at a (.code (.loop x) :: k)) cs) w := .turnless (fun d => rfl) H
theorem Win.inLoop {x : Code} (H : Win P Post pl n h (gor (b.at a (.code x :: .inLoop x :: k)) cs) w) : Win P Post pl n h (gor (b.at a (.inLoop x :: k)) cs) w := .turnless (fun d => rfl) H
theorem Win.cond {c : Operand} {x y : Code} {t : Bool} (hc : a.eval c = .bool t) (H : Win P Post pl n h (gor (b.at a (.code (if t then x else y) :: k)) cs) w) : Win P Post pl n h (gor (b.at a (.code (.cond c x y) :: k)) cs) w := by
  refine .turnless (fun d => ?_) H
  have := Frame.eval_at b a (.code (.cond c x y) :: k) c
  rw [hc] at this
  rw [stepG_run rfl]
  show stepG.exec P (h == 0) true (b.at a (.code (.cond c x y) :: k)) cs none (w.at d) = _
  unfold stepG.exec
  simp only [Frame.at] at this ⊢
  rw [this]; rfl
theorem Win.exit {id : Nat} {k' : List Item} (he : exitTo id k = some k') (H : Win P Post pl n h (gor (b.at a k') cs) w) : Win P Post pl n h (gor (b.at a (.code (.exit id) :: k)) cs) w := by
  refine .turnless (fun d => ?_) H
  rw [stepG_run rfl]
  simp only [stepG.exec, Frame.at, he]; rfl
theorem Win.goto {l : Nat} {k' : List Item} (he : gotoIn l k = some k') (H : Win P Post pl n h (gor (b.at a k') cs) w) : Win P Post pl n h (gor (b.at a (.code (.goto l) :: k)) cs) w := by
  refine .turnless (fun d => ?_) H
  rw [stepG_run rfl]
  simp only [stepG.exec, Frame.at, he]; rfl

/-- Where one stands behind a piece of code. -/
def Lands (b : Frame) (k : List Item) : Exit → Act → Frame → Prop
  | .normal, a, fr => fr = b.at a k
  | .exit id, a, fr => ∃ k', exitTo id k = some k' ∧ fr = b.at a k'
  | .goto l, a, fr => ∃ k', gotoIn l k = some k' ∧ fr = b.at a k'
  | .ret, a, fr => ∃ todo, fr = { b.at a todo with mode := .returning }
  | .panic c, a, fr => ∃ todo, fr = { b.at a todo with mode := .panicking c }
  | .outgrown, _, _ => False

/-- A PIECE OF CODE that one does alone, whatever is drawn. -/
theorem Win.piece (M : Mild2 P) (hO : Over V pl) (hC : CommOK V P pl h cs) {c : Code} {Q : Exit → Act → World → Prop} (hok : StOK P (b.at a (.code c :: k)) []) (hw : VOK V w) (hc : ∀ τ, c.wp P Q a (V.world τ 0 w))
    (hout : ∀ a w, ¬ Q .outgrown a w) (hex : ∀ id a w, Q (.exit id) a w → exitTo id k ≠ none) (hgo : ∀ l a w, Q (.goto l) a w → gotoIn l k ≠ none)
    (hQ : ∀ e a' w' τ D fr', StOK P fr' [] → VOK V w' → VKeep V w w' → Q e a' (V.world τ D w') → Lands b k e a' fr' → Win P Post pl n h (gor fr' cs) w') : Win P Post pl n h (gor (b.at a (.code c :: k)) cs) w := by
  refine Win.lift (up := []) M hO hC hok hw (fun fr' up' w' => up' = [] ∧ ∃ e a', Q e a' w' ∧ Lands b k e a' fr') (fun τ => ?_) (fun fr' up' w' τ D h1 h2 h3 h4 => ?_)
  · obtain ⟨e, a', w', q, r⟩ := hc τ b k [sent P]
    have fin : ∀ fr', Steps P (lone (b.at a (.code c :: k)) [sent P] (V.world τ 0 w)) (lone fr' [sent P] w') → Lands b k e a' fr' →
        ∃ N fr' up' w', runN P N (lone (b.at a (.code c :: k)) ([] ++ [sent P]) (V.world τ 0 w)) = .next (lone fr' (up' ++ [sent P]) w') ∧ up' = [] ∧ ∃ e a', Q e a' w' ∧ Lands b k e a' fr' := fun fr' hs hl => by
      obtain ⟨N, hN⟩ := hs
      exact ⟨N, fr', [], w', hN, rfl, e, a', q, hl⟩
    cases e with
    | normal => exact fin _ r rfl
    | exit id =>
      cases hk : exitTo id k with
      | none => exact absurd hk (hex id a' w' q)
      | some k' => exact fin _ (r k' hk) ⟨k', hk, rfl⟩
    | goto l =>
      cases hk : gotoIn l k with
      | none => exact absurd hk (hgo l a' w' q)
      | some k' => exact fin _ (r k' hk) ⟨k', hk, rfl⟩
    | ret => obtain ⟨todo, hs⟩ := r; exact fin _ hs ⟨todo, rfl⟩
    | panic ch => obtain ⟨todo, hs⟩ := r; exact fin _ hs ⟨todo, rfl⟩
    | outgrown => exact absurd q (hout a' w')
  · obtain ⟨rfl, e, a', q, l⟩ := h4
    exact hQ e a' w' τ D fr' h1 h2 h3 q l
end moves
end
end Go.Proofs.Ytodcnhodbeakiaa
