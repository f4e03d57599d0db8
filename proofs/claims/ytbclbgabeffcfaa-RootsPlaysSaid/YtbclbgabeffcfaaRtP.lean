/- What RootsPlays' walk holds on to: the roots, and the document's own, beside each other. Conditions: none. -/
import Derived.Test.YtbclbgabeffcfaaRtT
import Derived.Test.YtbclbgabeffcfaaRtU
namespace Go.Proofs.Ytbclbgabeffcfaa
set_option linter.unusedVariables false
set_option linter.unusedSimpArgs false
open Go.RowKit

/-- The roots at p have A and L; the document's own, in the box at b, has M and R. -/
structure PL (w : World) (p b : Nat) (A L M R : List Int) (u v : Value) (w' : World) : Prop where
  st : Own w p A L w'
  hb : w'.heap[b]? = some (.cells #[u, v] 30 (0, 0))
  ru : Rd w' u M
  rv : Rd w' v R
  ge : w.heap.size ≤ b

section
variable {w w' w'' : World} {p b : Nat} {A L M R A' L' M' R' : List Int} {u v u' v' : Value}
theorem PL.on (h : PL w p b A L M R u v w') (k : Kp [] w' w'') : PL w p b A L M R u v w'' := ⟨h.st.on k, k.row (by simp) h.hb, h.ru.keep0 k, h.rv.keep0 k, h.ge⟩
theorem PL.rt (h : PL w p b A L M R u v w') (s : Rt w'' p A' L') (k : Kp [p] w' w'') : PL w p b A' L' M R u v w'' := by
  obtain ⟨cs, hp⟩ := h.st.rt.row
  have n1 : b ≠ p := ne_types h.hb hp (by decide)
  exact ⟨h.st.turn s k, k.row (by simpa using n1) h.hb, h.ru.keep k (fun g hg => by simpa using h.ru.nin hp (by decide) g hg), h.rv.keep k (fun g hg => by simpa using h.rv.nin hp (by decide) g hg), h.ge⟩
theorem PL.c0 (h : PL w p b A L M R u v w') : w'.cell? ⟨b, 0, none⟩ = some u := cell_of_row h.hb 0
theorem PL.c1 (h : PL w p b A L M R u v w') : w'.cell? ⟨b, 1, none⟩ = some v := cell_of_row h.hb 1
/-- The document's own is replaced. -/
theorem PL.next {w6 : World} (h : PL w p b A L M R u v w') (k : Kp [] w' w6) (hu : Rd w6 u' M') (hv : Rd w6 v' R') :
    (w6.heap[b]? = some (.cells #[u, v] 30 (0, 0)) ∧ (#[u', v'] : Array Value).all (·.oneCell') = true) ∧ PL w p b A L M' R' u' v' (w6.setRow b #[u', v']) := by
  have h6 := h.on k
  obtain ⟨cs, hp⟩ := h6.st.rt.row
  have n1 : b ≠ p := ne_types h6.hb hp (by decide)
  have k9 : Kp [b] w6 (w6.setRow b #[u', v']) := (Kp.refl _ _).setRow (.inl (by simp)) _
  refine ⟨⟨h6.hb, by obtain ⟨_, _, rfl, _⟩ := hu.form; obtain ⟨_, _, rfl, _⟩ := hv.form; simp [Value.oneCell']⟩, ⟨?_, setRow_heap _ _ _ _ _ _ h6.hb, hu.keep k9 (fun g hg => by simpa using hu.nin h6.hb (by decide) g hg), hv.keep k9 (fun g hg => by simpa using hv.nin h6.hb (by decide) g hg), h.ge⟩⟩
  exact ⟨h6.st.rt.keep k9 (by simpa using fun e => n1 e.symm), ((h6.st.kp.mono (by simp)).trans k9).mono fun y hy hlt => by have := h.ge; simp at hy; omega, h6.st.hp⟩
end

theorem setA_len (A : List Int) (k x : Int) : (setA A k x).length = A.length := by unfold setA; split <;> simp
theorem popA_len (A L : List Int) (k : Int) : (popA A L k).length = A.length := by unfold popA; split; rfl; split <;> simp

/-- What is known behind both answers. -/
structure PA (w : World) (p b : Nat) (A L : List Int) (u v : Value) (zs : List Int) (x y : Value) (w' : World) : Prop where
  pl : PL w p b A L A L u v w'
  rx : Rd w' x zs
  ry : Rd w' y zs
theorem PA.on {w w' w'' : World} {p b : Nat} {A L zs : List Int} {u v x y : Value} (h : PA w p b A L u v zs x y w') (k : Kp [] w' w'') : PA w p b A L u v zs x y w'' := ⟨h.pl.on k, h.rx.keep0 k, h.ry.keep0 k⟩

/-- What holds in each world that the two answers pass through. -/
def Look (wc : World) (b : Nat) (u v : Value) (w' : World) : Prop := w'.cell? ⟨b, 0, none⟩ = some u ∧ w'.cell? ⟨b, 1, none⟩ = some v ∧ wc.cell? ⟨b, 0, none⟩ = some u ∧ wc.cell? ⟨b, 1, none⟩ = some v ∧ Kp [] wc w'
section
variable {wc w' w2 : World} {b : Nat} {u v : Value}
theorem look_kp (h : Look wc b u v w') : Kp [] wc w' := h.2.2.2.2
theorem look_mk (h0 : wc.cell? ⟨b, 0, none⟩ = some u) (h1 : wc.cell? ⟨b, 1, none⟩ = some v) (k : Kp [] wc w2) : Look wc b u v w2 := ⟨k.cell (by simp) h0, k.cell (by simp) h1, h0, h1, k⟩
theorem look_on (h : Look wc b u v w') (k : Kp [] w' w2) : Look wc b u v w2 := look_mk h.2.2.1 h.2.2.2.1 (h.2.2.2.2.trans k)
end

/-- A row is answered, of n numbers. -/
def AnsR (w : World) (n : Nat) (zs : List Int) (e : Ending) (w' : World) : Prop := ∃ ao c, e = .returned (.slice ao n c) ∧ Rd w' (.slice ao n c) zs ∧ Kp [] w w'
theorem ansR {w w' : World} {n : Nat} {zs : List Int} {e : Ending} (hn : n = zs.length) (h : Ans w zs e w') : AnsR w n zs e w' := by
  subst hn
  obtain ⟨ao, c, rfl, hr, hk⟩ := h
  exact ⟨ao, c, rfl, hr.rd, hk⟩

end Go.Proofs.Ytbclbgabeffcfaa
