/- ListOnce's state: the list, the map of what is in it, the act. Conditions: as each lemma states them. -/
import Derived.Test.YthcblhombfggaaaLoP
import Derived.Test.YthcblhombfggaaaLpA
namespace Go.Proofs.Ythcblhombfggaaa
set_option linter.unusedVariables false
set_option linter.unusedSimpArgs false
open Go.RowKit Go.Maps

theorem kint : Keyed Try.prog 3 := int_keyed Try.underlying3
theorem zeroE (w : World) : (zeroValue 3).run Try.prog w = .ok (.int .i64 0) w := zero_int w

/-- Block B is a map, of at most m entries, of the rows' places. -/
def Mp (w : World) (B m : Nat) (R : Nat → List Int) : Prop := ∃ D : DataW Unit, w.ownsMap Try.prog 3 (plainElem Try.prog 3) B m D ∧ KI D R
theorem Mp.heap {w : World} {B m : Nat} {R : Nat → List Int} (h : Mp w B m R) : ∃ es clock, w.heap[B]? = some (.map es clock) := by
  obtain ⟨D, ⟨es, clock, hb, _⟩, _⟩ := h
  exact ⟨es, clock, hb⟩
theorem Mp.lt {w : World} {B m : Nat} {R : Nat → List Int} (h : Mp w B m R) : B < w.heap.size := by
  obtain ⟨_, _, hb⟩ := h.heap
  exact lt_of_block hb
theorem Mp.ne {w : World} {B m b : Nat} {R : Nat → List Int} {cs : Array Value} {t : TypeId} {fr : Nat × Nat} (h : Mp w B m R) (hb : w.heap[b]? = some (.cells cs t fr)) : B ≠ b := by
  obtain ⟨_, _, hm⟩ := h.heap
  intro e; subst e
  have := hm.symm.trans hb
  simp at this
theorem Mp.same {w w' : World} {B m : Nat} {R : Nat → List Int} (h : Mp w B m R) (hb : w'.heap[B]? = w.heap[B]?) : Mp w' B m R := by
  obtain ⟨D, ⟨es, clock, hm, r⟩, k⟩ := h
  exact ⟨D, ⟨es, clock, hb.trans hm, r⟩, k⟩
theorem Mp.mono {w : World} {B m n : Nat} {R : Nat → List Int} (h : Mp w B m R) (hn : m ≤ n) : Mp w B n R := by
  obtain ⟨D, ho, k⟩ := h
  exact ⟨D, ho.mono hn, k⟩
theorem Mp.not_own {w : World} {p B m : Nat} {vs : Nat → Value} {R Rm : Nat → List Int} (h : Mp w B m Rm) (L : Ls w p vs R) : ¬ Owns vs B := by
  rintro ⟨c, hc, hg⟩
  obtain ⟨cur, hcur⟩ := (L.rw c hc).block B hg
  exact h.ne hcur rfl
theorem Mp.at {w : World} {B m : Nat} {R : Nat → List Int} (h : Mp w B m R) (hG : Good R) {c : Nat} {x : Int} (hc : c < 4) (hx : x ∈ R c) : (Instr.lookup 48 (.map (some B)) (.int .i64 x) false).run Try.prog w = .ok (.int .i64 ((c : Int) + 1)) w := by
  obtain ⟨D, ho, k⟩ := h
  obtain ⟨v, hrun, hat, _⟩ := ho.lookup_int kint Try.underlying48 Try.underlying3 (zeroE w) (keyOf_int_mk Try.underlying3 (hG.lo c hc x hx).2)
  rw [k.val c hc x hx] at hat
  injection hat with h1
  injection h1 with h1 h2
  rw [hrun, h2]
theorem Mp.ok {w : World} {B m : Nat} {R : Nat → List Int} (h : Mp w B m R) {x : Int} (hw : (Lit.int .i64 x).wf = true) : ∃ v : Int, (Instr.lookup 48 (.map (some B)) (.int .i64 x) true).run Try.prog w = .ok (.tuple #[.int .i64 v, .bool (hasB R x)]) w := by
  obtain ⟨D, ho, k⟩ := h
  obtain ⟨v, ps, hrun, hv⟩ := ho.look_ok kint Try.underlying48 (zeroE w) (plainElem_int (H := Unit) Try.underlying3 (by decide)) (keyOf_int_mk Try.underlying3 hw)
  obtain ⟨c, rfl, _, _⟩ := plainElem_int_inv Try.underlying3 hv
  exact ⟨c, by rw [hrun, k.has]⟩
theorem Mp.len {w : World} {B m : Nat} {R : Nat → List Int} (h : Mp w B m R) (hG : Good R) (ty : TypeId) : (Builtin.len_ #[48] ty #[.map (some B)]).run Try.prog w = .ok (.int .i64 (tot R 4 : Nat)) w := by
  obtain ⟨D, ho, k⟩ := h
  have hs : Maps.size D = tot R 4 := by
    rw [tot_all]
    refine size_keys (allR R) D (ho.tidy kint) ?_ hG.all (fun l => ?_)
    · obtain ⟨es, rfl, _, hk⟩ := ho.entries kint
      intro es' e p hp
      cases e
      exact WideAt.sameKey_self (hk p hp)
    · rw [k.key]
      constructor
      · rintro ⟨x, hx, rfl⟩
        exact ⟨x, (mem_allR R x).2 hx, rfl⟩
      · rintro ⟨x, hx, rfl⟩
        exact ⟨x, (mem_allR R x).1 hx, rfl⟩
  rw [ho.len Try.underlying48 ty, hs]

/-- What is known: the list at p with rows R, the map at B with rows Rm, the act at x. -/
structure OX (w : World) (p B x m : Nat) (d c a t : Int) (R Rm : Nat → List Int) (wr : World) (vs : Nat → Value) : Prop where
  bag : Bag w p R wr vs
  mp : Mp wr B m Rm
  ge : w.heap.size ≤ B
  hx : wr.heap[x]? = some (.cells #[.int .u8 d, .int .i64 c, .int .i64 a, .int .i64 t] 31 (0, 0))

section
variable {w wr w2 : World} {p B x m m' : Nat} {d c a t : Int} {R R' Rm Rm' : Nat → List Int} {vs vs' : Nat → Value}
theorem OX.x0 (h : OX w p B x m d c a t R Rm wr vs) : wr.cell? ⟨x, 0, none⟩ = some (.int .u8 d) ∧ wr.cell? ⟨x, 1, none⟩ = some (.int .i64 c) ∧ wr.cell? ⟨x, 2, none⟩ = some (.int .i64 a) ∧ wr.cell? ⟨x, 3, none⟩ = some (.int .i64 t) := by
  rw [cell_of_row h.hx, cell_of_row h.hx, cell_of_row h.hx, cell_of_row h.hx]; exact ⟨rfl, rfl, rfl, rfl⟩
theorem OX.lst (h : OX w p B x m d c a t R Rm wr vs) (L : Ls w2 p vs' R') (k : Lk p vs vs' wr w2) : OX w p B x m d c a t R' Rm w2 vs' :=
  ⟨h.bag.step L k, h.mp.same (k.block B h.mp.lt (h.mp.ne h.bag.ls.hp) (h.mp.not_own h.bag.ls)), h.ge, k.row (ne_types h.hx h.bag.ls.hp (by decide)) (not_own h.bag.ls h.hx (by decide)) h.hx⟩
theorem OX.on (h : OX w p B x m d c a t R Rm wr vs) (k : Kp [] wr w2) : OX w p B x m d c a t R Rm w2 vs := h.lst (h.bag.ls.keep0 k) (Lk.of_kp k)
theorem OX.map (h : OX w p B x m d c a t R Rm wr vs) (k : Kp [B] wr w2) (hm : Mp w2 B m' Rm') : OX w p B x m' d c a t R Rm' w2 vs := by
  have L2 := h.bag.ls.keep k (fun e => h.mp.ne h.bag.ls.hp (by simpa using e : p = B).symm) (fun g hg e => h.mp.not_own h.bag.ls ((by simpa using e : g = B) ▸ hg))
  exact ⟨⟨L2, h.bag.bel.trans (k.below h.bag.bel.size (by simpa using h.ge)), h.bag.hp, h.bag.ho⟩, hm, h.ge, k.row (by intro e; exact h.mp.ne h.hx (by simpa using e : x = B).symm) h.hx⟩
theorem OX.mono (h : OX w p B x m d c a t R Rm wr vs) (hm : m ≤ m') : OX w p B x m' d c a t R Rm wr vs := ⟨h.bag, h.mp.mono hm, h.ge, h.hx⟩
end

theorem kp_turned {w w' : World} {B : Nat} (h : w.mapTurned w' B) : Kp [B] w w' := by
  have hg := h.grown
  exact ⟨hg.os, hg.tape, hg.output, hg.size, fun k hk hn => hg.block k hk (by intro e; cases e; simp at hn)⟩
theorem kp_update {w w' : World} {B : Nat} (hg : w.grownBy w' (some B)) : Kp [B] w w' := ⟨hg.os, hg.tape, hg.output, hg.size, fun k hk hn => hg.block k hk (by intro e; cases e; simp at hn)⟩

end Go.Proofs.Ythcblhombfggaaa
