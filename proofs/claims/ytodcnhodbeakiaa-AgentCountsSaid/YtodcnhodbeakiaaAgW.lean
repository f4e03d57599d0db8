/- Agents by trees, on: the desk of who steps; how agents stand is carried over what others do. Conditions: none. -/
import Derived.Test.YtodcnhodbeakiaaAgV
namespace Go.Proofs.Ytodcnhodbeakiaa
set_option linter.unusedVariables false
set_option linter.unusedSimpArgs false
set_option maxRecDepth 100000
open Go.Conc

/-- Who steps acts. -/
structure Desk (SB : Nat → Prop) (pA rA : Nat) (pl : Nat → Option Place) (F : Nat → Option (Nat × Nat)) (col : Nat → Col) (w : World) : Prop where
  pl0 : pl 0 = none
  lies : Lies pl F w
  lay : Lay SB pA rA col F w
  own : ∀ i s c, pl i = some s → s.has c → col c = .sys i
/-- An agent's own blocks. -/
structure AgOK (a : Ag) (F : Nat → Option (Nat × Nat)) (col : Nat → Col) : Prop where
  jpos : 0 < a.j
  fm : F a.m = some (0, 1)
  fp : F a.p = some (1, 4)
  cm : col a.m = .sys a.j
  cp : col a.p = .sys a.j
  ccT : col a.cT = .sys a.j
  ccU : col a.cU = .sys a.j
  ccS : col a.cS = .sys a.j
  dis : a.cT ≠ a.cU ∧ a.cT ≠ a.cS ∧ a.cU ≠ a.cS

/-- What is old is whose it was, and lies as it lay. -/
structure Same (F : Nat → Option (Nat × Nat)) (col : Nat → Col) (w : World) (F' : Nat → Option (Nat × Nat)) (col' : Nat → Col) : Prop where
  co : ∀ b, b < w.heap.size → col' b = col b
  fo : ∀ b, b < w.heap.size → F' b = F b

section
variable {G : Type} {Post : Value → World → Prop} {Sh : World → G → Prop} {SB : Nat → Prop} {pA rA : Nat} {a : Ag} {mv : Value} {home : Goroutine → Prop} {n : Nat} {T : Tree G} {runs ov : Bool}
variable {pl pl' : Nat → Option Place} {F F' F1 : Nat → Option (Nat × Nat)} {col col' col1 : Nat → Col} {w w' w1 : World} {g : G} {S : Nat → Prop}

theorem Lay.lt (L : Lay SB pA rA col F w) {b : Nat} (h : col b ≠ .main) : b < w.heap.size := by
  rcases Nat.lt_or_ge b w.heap.size with z | z
  · exact z
  · exact absurd (L.above b z) h
theorem Same.sys (h : Same F col w F' col') (L : Lay SB pA rA col F w) {b j : Nat} (hb : col b = .sys j) : col' b = .sys j := (h.co b (L.lt (by rw [hb]; simp))).trans hb
theorem AgOK.keep (h : AgOK a F col) (L : Lay SB pA rA col F w) (k : Same F col w F' col') : AgOK a F' col' :=
  ⟨h.jpos, (k.fo _ (L.lt (by rw [h.cm]; simp))).trans h.fm, (k.fo _ (L.lt (by rw [h.cp]; simp))).trans h.fp, k.sys L h.cm, k.sys L h.cp, k.sys L h.ccT, k.sys L h.ccU, k.sys L h.ccS, h.dis⟩

theorem Poised.keep {t : Value} (h : Poised Post Sh SB pA rA a mv T pl F col w t) (L : Lay SB pA rA col F w) (hst : ∃ nx bz ov, StAt a mv nx bz ov w) (hj : pl' a.j = pl a.j) (hcm : col a.m = .sys a.j) (k : Same F col w F' col')
    (hk : ∀ b, b < w.heap.size → col b = .ag a.j ∨ (col b = .sys a.j ∧ b ≠ a.p) → w'.heap[b]? = w.heap[b]?) : Poised Post Sh SB pA rA a mv T pl' F' col' w' t := by
  cases T with
  | ret => exact h
  | node kk φ c nx hl =>
    obtain ⟨b3, homeJ, own, A, B, f, cap, h1, h2, h3, h4, h5, h6, h7, h8, h9, h10, h11, h12, h13, h14⟩ := h
    obtain ⟨nxv, bz, ov, hst⟩ := hst
    have hmp : a.m ≠ a.p := fun e => by
      unfold MeAt at h6
      unfold StAt at hst
      rw [e, hst] at h6
      simp at h6
    have hbp : b3 ≠ a.p := fun e => by
      unfold StAt at hst
      rw [e, hst] at h7
      simp at h7
    refine ⟨b3, homeJ, own, A, B, f, cap, hj.trans h1, fun b hb => ?_, h3, h4, h3.st _ _ h5 fun b hb => hk b (h3.lt _ _ h5 hb) (.inl (h2 b hb)), ?_, ?_, k.sys L h8, ?_, ?_, h11, h12, h13, h14⟩
    · exact (k.co b (L.lt (by rw [h2 b hb]; simp))).trans (h2 b hb)
    · exact (hk a.m (L.lt (by rw [hcm]; simp)) (.inr ⟨hcm, hmp⟩)).trans h6
    · exact (hk b3 (L.lt (by rw [h8]; simp)) (.inr ⟨h8, hbp⟩)).trans h7
    · exact (k.fo _ (L.lt (by rw [hcm]; simp))).trans h9
    · exact (k.fo _ (L.lt (by rw [h8]; simp))).trans h10

theorem Open.same {c : Nat} (h : Open c w) (e : w'.heap[c]? = w.heap[c]?) : Open c w' := by
  obtain ⟨k, hk⟩ := h
  exact ⟨k, e.trans hk⟩
/-- One who neither acts nor is stepped stands as it stood. -/
theorem Stands.keep (h : Stands Post Sh SB pA rA a mv T pl F col w) (hO : AgOK a F col) (L : Lay SB pA rA col F w) (hj : pl' a.j = pl a.j) (k : Same F col w F' col')
    (hk : ∀ b, b < w.heap.size → col b = .ag a.j ∨ col b = .sys a.j → w'.heap[b]? = w.heap[b]?) : Stands Post Sh SB pA rA a mv T pl' F' col' w' := by
  have hs : ∀ b, col b = .sys a.j → w'.heap[b]? = w.heap[b]? := fun b hb => hk b (L.lt (by rw [hb]; simp)) (.inr hb)
  cases T with
  | ret => exact ⟨hj.trans h.1, (hs _ hO.cp).trans h.2⟩
  | node kk φ c nx hl =>
    obtain ⟨t, h1, h2, h3, h4, h5⟩ := h
    exact ⟨t, (hs _ hO.cp).trans h1, h2.same (hs _ hO.ccT), h3.same (hs _ hO.ccU), h4.same (hs _ hO.ccS), h5.keep L ⟨_, _, _, h1⟩ hj hO.cm k fun b hb hc => hk b hb (hc.imp id (·.1))⟩
end
end Go.Proofs.Ytodcnhodbeakiaa
