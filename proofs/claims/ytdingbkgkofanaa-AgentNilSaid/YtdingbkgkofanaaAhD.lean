/- Agents by trees, on: how a program comes to its end: it returns, or a stopped touch throws it out. Loads, stores and fresh variables of touches. Conditions: as each theorem states them. -/
import Derived.Test.YtdingbkgkofanaaAhC
namespace Go.Proofs.Ytdingbkgkofanaa
set_option linter.unusedVariables false
set_option linter.unusedSimpArgs false
set_option maxRecDepth 100000
open Go.Conc
open Go.ConcN (upd_ne upd_same)

section
variable {G : Type} {Post : Value → World → Prop} {Sh : World → G → Prop} {SB : Nat → Prop} {pA rA : Nat} {a : Ag} {mv : Value} {home : Goroutine → Prop} {n : Nat} {T : Tree G} {runs ov : Bool}
variable {pl pl' : Nat → Option Place} {F F' : Nat → Option (Nat × Nat)} {col col' : Nat → Col} {w w' : World} {g : G}

/-- The program returns to 'run'. -/
theorem ret_out (hA : Ends SB pA rA a mv home pl F col w) {b1 b2 : Nat} (hB : Boxed a b1 b2 w) (hs : Sh w g) (hShm : ∀ g, Priv SB (fun w => Sh w g)) {gf : FuncId} {cap : Array Value} {v : Value}
    (K : Kont Post Sh SB pA rA a mv home n .ret pl F col w g) : Win Try.prog Post pl n a.j (gor ((runFr Try.prog Try.f36 a.p a.m b1 b2 gf cap).finish v) [rootFr Try.prog]) w := by
  unfold runFr
  rw [Frame.finish_at]
  simp only [bodyOf, Try.f36, codeR, regOps, Option.getD_some]
  refine Win.opsEnd ?_
  refine Win.falls ?_
  exact prog_ends hA hB hs hShm (.inl rfl) rfl rfl rfl K

/-- A stopped touch throws the program out. -/
theorem halt_out (hA : Ends SB pA rA a mv home pl F col w) {b1 b2 : Nat} (hB : Boxed a b1 b2 w) (hs : Sh w g) (hShm : ∀ g, Priv SB (fun w => Sh w g)) {gf : FuncId} {cap : Array Value} {b : Frame} {ac : Act} {k : List Item} (hd : ac.defers = []) (hc : ((b.at ac k).raise [haltE]).catches Try.prog = false)
    (K : Kont Post Sh SB pA rA a mv home n .ret pl F col w g) : Win Try.prog Post pl n a.j (gor ((b.at ac k).raise [haltE]) [runFr Try.prog Try.f36 a.p a.m b1 b2 gf cap, rootFr Try.prog]) w := by
  refine Win.unwinds (chain := [haltE]) rfl hd hc ?_
  exact prog_ends hA hB hs hShm (.inr ⟨_, rfl⟩) rfl rfl rfl K
end
end Go.Proofs.Ytdingbkgkofanaa
