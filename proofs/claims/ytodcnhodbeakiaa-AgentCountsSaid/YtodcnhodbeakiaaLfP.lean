/- The veil of a world: over what the waiting ones look at; and a piece of code in company, with it. Of whatever program. Conditions: none. -/
import Derived.Test.YtodcnhodbeakiaaLfN
namespace Go.Proofs.Ytodcnhodbeakiaa
set_option linter.unusedVariables false
set_option linter.unusedSimpArgs false
open Go.Conc

def poor : Option Obj → Bool
  | some (.chan ..) | some (.view ..) | some (.pending ..) | some (.loop ..) => true
  | _ => false
/-- F: the blocks of which some cells (from, to) may bear no store. -/
structure Lies (pl : Nat → Option Place) (F : Nat → Option (Nat × Nat)) (w : World) : Prop where
  lies : ∀ i r, F i = some r → ∃ c t, w.heap[i]? = some (.cells c t (0, 0))
  chans : ∀ i s c, pl i = some s → s.has c → ∃ cap buf cl sn rc tm, w.heap[c]? = some (.chan cap buf cl sn rc tm)
  still : ∀ i s a v, pl i = some s → s.still a v → ∃ lo hi, F a.block = some (lo, hi) ∧ lo ≤ a.off ∧ a.off < hi

section
variable {P : Program} {Post : Value → World → Prop} {pl : Nat → Option Place} {n h : Nat} {cs : List Frame} {w w' : World} {F : Nat → Option (Nat × Nat)}

def Lies.veil (L : Lies pl F w) : Veil where
  froz := F
  ch i := poor w.heap[i]?
  top := w.heap.size
  lowF i r e := by obtain ⟨c, t, h⟩ := L.lies i r e; exact (Array.getElem?_eq_some_iff.1 h).1
  lowC i e := by
    cases h : w.heap[i]? with
    | none => rw [h] at e; cases e
    | some o => exact (Array.getElem?_eq_some_iff.1 h).1
theorem Lies.ok (L : Lies pl F w) : VOK L.veil w := by
  refine ⟨Nat.le_refl _, fun i o ho => ?_, fun i o hc ho => ?_, L.lies⟩
  · show poor w.heap[i]? = true ∨ NiceO o
    rw [ho]
    cases o <;> first | exact .inl rfl | exact .inr trivial
  · have hc' : poor w.heap[i]? = true := hc
    rw [ho] at hc'
    cases o <;> first | (cases hc'; done) | exact ⟨fun z => z, fun z => z⟩
theorem Lies.over (L : Lies pl F w) : Over L.veil pl := by
  refine ⟨fun i s c hi hc => ?_, fun i s a v hi ha => ?_⟩
  · obtain ⟨_, _, _, _, _, _, h⟩ := L.chans i s c hi hc
    show poor w.heap[c]? = true
    rw [h]; rfl
  · obtain ⟨lo, hi', h, h1, h2⟩ := L.still i s a v hi ha
    show (match F a.block with | some (lo, hi) => decide (lo ≤ a.off) && decide (a.off < hi) | none => false) = true
    rw [h]; simp [h1, h2]

/-- A block of cells that no waiting one looks at is in the twin what it is in the world. -/
theorem Lies.block (L : Lies pl F w) {τ : Nat → Question → Nat} {D i : Nat} {c : Array Value} {t : TypeId} {fz : Nat × Nat} (hF : F i = none) : (L.veil.world τ D w').heap[i]? = some (.cells c t fz) ↔ w'.heap[i]? = some (.cells c t fz) := by
  rw [veil_heap]
  cases ho : w'.heap[i]? with
  | none => simp
  | some o =>
    have hf : L.veil.froz i = none := hF
    cases o with
    | cells c' t' f' => simp [Veil.obj, hf]
    | _ => cases hc : L.veil.ch i <;> simp [Veil.obj, hc]
/-- What is no block of cells and not poor is in the twin what it is in the world. -/
theorem Lies.other (L : Lies pl F w) {τ : Nat → Question → Nat} {D i : Nat} {o : Obj} (hn : poor w.heap[i]? = false) (ho : ¬ isCells o) : (L.veil.world τ D w').heap[i]? = some o ↔ w'.heap[i]? = some o := by
  rw [veil_heap]
  have hc : L.veil.ch i = false := hn
  cases hw : w'.heap[i]? with
  | none => simp
  | some o' => cases o' <;> simp [Veil.obj, hc]
               rename_i c t f
               refine ⟨fun z => absurd ?_ ho, fun z => absurd ?_ ho⟩ <;> (rw [← z]; trivial)
theorem Lies.keeps (L : Lies pl F w) (hk : VKeep L.veil w w') (hok : VOK L.veil w') : Lies pl F w' := by
  refine ⟨fun i r hr => hok.frz i r hr, fun i s c hi hc => ?_, L.still⟩
  obtain ⟨cap, buf, cl, sn, rc, tm, h⟩ := L.chans i s c hi hc
  exact ⟨cap, buf, cl, sn, rc, tm, by rw [hk.chs c (L.over.ch i s c hi hc)]; exact h⟩
theorem Lies.cell (L : Lies pl F w) (hk : VKeep L.veil w w') {i : Nat} {s : Place} {a : Addr} {v : Value} (hi : pl i = some s) (ha : s.still a v) : w'.cell? a = w.cell? a := hk.st a (L.over.st i s a v hi ha)
theorem Lies.chan (L : Lies pl F w) (hk : VKeep L.veil w w') {c : Nat} (hc : poor w.heap[c]? = true) : w'.heap[c]? = w.heap[c]? := hk.chs c hc
theorem Lies.at (L : Lies pl F w) (d : Nat) : Lies pl F (w.at d) := ⟨L.lies, L.chans, L.still⟩

/-- A PIECE OF CODE IN COMPANY. -/
theorem Win.code (M : Mild2 P) (L : Lies pl F w) {b : Frame} {a : Act} {k : List Item} {c : Code} {Q : Exit → Act → World → Prop} (hok : StOK P (b.at a (.code c :: k)) []) (hc : ∀ τ, c.wp P Q a (L.veil.world τ 0 w))
    (hout : ∀ a w, ¬ Q .outgrown a w) (hex : ∀ id a w, Q (.exit id) a w → exitTo id k ≠ none) (hgo : ∀ l a w, Q (.goto l) a w → gotoIn l k ≠ none)
    (hQ : ∀ e a' w' τ D fr', StOK P fr' [] → VOK L.veil w' → VKeep L.veil w w' → Q e a' (L.veil.world τ D w') → Lands b k e a' fr' → Win P Post pl n h (gor fr' cs) w') : Win P Post pl n h (gor (b.at a (.code c :: k)) cs) w :=
  Win.piece M L.over (commOK L.over cs) hok L.ok hc hout hex hgo hQ
end
end Go.Proofs.Ytodcnhodbeakiaa
