/- Agents by trees, on: the program's end, as who stepped it is told of it. Conditions: as each theorem states them. -/
import Derived.Test.YtdingbkgkofanaaAgZ
namespace Go.Proofs.Ytdingbkgkofanaa
set_option linter.unusedVariables false
set_option linter.unusedSimpArgs false
set_option maxRecDepth 100000
open Go.Conc
open Go.ConcN (upd_ne upd_same)

section
variable {G : Type} {Post : Value → World → Prop} {Sh : World → G → Prop} {SB : Nat → Prop} {pA rA : Nat} {a : Ag} {mv : Value} {home : Goroutine → Prop} {n : Nat} {T : Tree G} {runs ov : Bool}
variable {pl pl' : Nat → Option Place} {F F' : Nat → Option (Nat × Nat)} {col col' : Nat → Col} {w w' : World} {g : G}

/-- What 'run' has boxed. -/
def Boxed (a : Ag) (b1 b2 : Nat) (w : World) : Prop := w.heap[b1]? = some (.cells #[.pointer (some ⟨a.p, 0, none⟩)] 33 (0, 0)) ∧ w.heap[b2]? = some (.cells #[.pointer (some ⟨a.m, 0, none⟩)] 97 (0, 0))
theorem priv_boxed (a : Ag) (b1 b2 : Nat) : Priv (fun b => b = b1 ∨ b = b2) (Boxed a b1 b2) := by
  refine ⟨fun w w' h hb => ⟨(hb b1 (.inl rfl)).trans h.1, (hb b2 (.inr rfl)).trans h.2⟩, fun w b h hb => ?_, fun w b h hb => ?_⟩
  · rcases hb with rfl | rfl
    · rw [h.1]; rfl
    · rw [h.2]; rfl
  · rcases hb with rfl | rfl
    · exact lt_of_block h.1
    · exact lt_of_block h.2

/-- THE PROGRAM'S END: it has returned, or thrown. -/
theorem prog_ends (hA : Ends SB pA rA a mv home pl F col w) {b1 b2 : Nat} (hB : Boxed a b1 b2 w) (hs : Sh w g) (hShm : ∀ g, Priv SB (fun w => Sh w g)) {fr : Frame} (hm : fr.mode = .returning ∨ ∃ u, fr.mode = .panicking [{ v := u, recovered := false }]) (hd : fr.defers = [runDefer b1 b2]) (hk : fr.kind = .deferred) (hf : fr.fn = 36)
    (K : Kont Post Sh SB pA rA a mv home n .ret pl F col w g) : Win Try.prog Post pl n a.j (gor fr [rootFr Try.prog]) w := by
  obtain ⟨more, hseat⟩ := hA.seat
  obtain ⟨nx, bz, ov, hst⟩ := hA.st
  obtain ⟨r, l, hme⟩ := hA.me
  obtain ⟨kT, hT⟩ := hA.oT
  have hj := hA.jpos
  have hst' := hst
  have hme' := hme
  unfold StAt at hst'
  unfold MeAt at hme'
  have hpm : a.p ≠ a.m := fun e => by rw [e, hme'] at hst'; simp at hst'
  have hTm : a.cT ≠ a.m := fun e => by rw [e, hme'] at hT; cases hT
  have hTp : a.cT ≠ a.p := fun e => by rw [e, hst'] at hT; cases hT
  have hb1m : b1 ≠ a.m := fun e => by have := hB.1; rw [e, hme'] at this; simp at this
  have F1 : Free pl ⟨a.m, 1, none⟩ := by
    refine ⟨fun i s v hi hs => ?_, fun i s c hi hc e => ?_⟩
    · obtain ⟨lo, hi', h1, h2, h3⟩ := hA.lies.still i s _ v hi hs
      simp only at h1 h2 h3
      rw [hA.fm] at h1
      cases h1
      omega
    · obtain ⟨_, _, _, _, _, _, hh⟩ := hA.lies.chans i s c hi hc
      simp only at e
      rw [← e, hh] at hme'
      cases hme'
  refine run_ends (h := a.j) (p := a.p) (m := a.m) (b1 := b1) (b2 := b2) (cT := a.cT) (kT := kT) (more := more) (home := home) hm hd hk hf hj (cell_of_row hB.1 0) (cell_of_row hB.2 0) (cell_of_row hme' 1) (free_of_row hme' 1) F1 (cell_of_row hst' 1) hb1m hpm hT hseat fun g₂ d hg₂ => ?_
  have hT1 : ((w.setCell ⟨a.m, 1, none⟩ (.bool false)).at d).heap[a.cT]? = some (.chan 0 #[] false kT kT false) := (ks_setCell w ⟨a.m, 1, none⟩ (.bool false)).row (show ¬ a.cT = a.m from hTm) hT
  have k1 : Ks (fun b => b = a.m ∨ b = a.cT) w (((w.setCell ⟨a.m, 1, none⟩ (.bool false)).at d).setChan a.cT 0 #[] true kT kT false) := by
    refine (((ks_setCell w ⟨a.m, 1, none⟩ (.bool false)).mono fun b _ e => ?_).at d).then (ks_setChan _ a.cT _ _ _ _ _ _) fun b _ e => .inr e
    exact .inl e
  have hS : ∀ b, b = a.m ∨ b = a.cT → mine a col b := fun b hb => by
    rcases hb with rfl | rfl
    · exact .inr (.inl ⟨hA.cm, hpm.symm⟩)
    · exact .inr (.inl ⟨hA.ccT, hTp⟩)
  have hWz : (((w.setCell ⟨a.m, 1, none⟩ (.bool false)).at d).setChan a.cT 0 #[] true kT kT false).heap.size = w.heap.size := by
    show (Array.setIfInBounds _ _ _).size = _
    rw [Array.size_setIfInBounds]
    show (World.setCell _ _ _).heap.size = _
    simp [World.setCell]
  have hWL : Lies pl F (((w.setCell ⟨a.m, 1, none⟩ (.bool false)).at d).setChan a.cT 0 #[] true kT kT false) := ((hA.lies.setCell _ _).at d).setChan hT1 _ _ _ _ _ _
  have hWT : Shut' a.cT (((w.setCell ⟨a.m, 1, none⟩ (.bool false)).at d).setChan a.cT 0 #[] true kT kT false) := ⟨kT, Array.getElem?_setIfInBounds_self_of_lt (lt_of_block hT1)⟩
  generalize (((w.setCell ⟨a.m, 1, none⟩ (.bool false)).at d).setChan a.cT 0 #[] true kT kT false) = W at k1 hWz hWL hWT ⊢
  have hj0 : (0 : Nat) ≠ a.j := by omega
  refine K (moved pl a.j 0 none) F col W g₂ hg₂ ⟨⟨k1.mono fun b _ h => hS b h, fun _ _ => rfl, fun b h1 h2 => by omega, fun _ _ => rfl⟩, fun i h0 hi => moved_ne _ _ hi h0, moved_j _ _ hj0, ?_, ⟨hA.lay.free, fun b hb => hA.lay.above b (by omega), hA.lay.sb, hA.lay.ar⟩⟩ (moved_h _ _ _ _) hWT ?_
  · unfold moved
    exact (hWL.drop 0).drop a.j
  · refine (hShm g).st _ _ hs fun b hb => k1.block b ((hShm g).lt _ _ hs hb) fun z => ?_
    have h := hA.lay.sb b hb
    rcases z with rfl | rfl
    · rw [hA.cm] at h; cases h
    · rw [hA.ccT] at h; cases h
end
end Go.Proofs.Ytdingbkgkofanaa
