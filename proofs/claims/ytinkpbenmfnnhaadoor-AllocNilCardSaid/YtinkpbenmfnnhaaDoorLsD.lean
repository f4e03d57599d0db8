/- The walks of Drop, and of Has and Drop of no list. Conditions: as each theorem states them. -/
import Derived.Test.YtinkpbenmfnnhaaDoorLsH
import Derived.Test.YtinkpbenmfnnhaaDoorRnd
namespace Go.Proofs.YtinkpbenmfnnhaaDoor.Li
set_option linter.unusedVariables false
set_option linter.unusedSimpArgs false
open Go.RowKit Go.Shelf
attribute [local go_sem] Oper.semAt_some

/-- Whether x is to go. -/
def goes (f t x : Int) : Bool := decide (f ≤ x) && decide (x < t)
def left (f t : Int) (xs : List Int) : List Int := xs.filter fun x => !goes f t x
/-- The first k rows have been gone through. -/
def Rk (R : Nat → List Int) (f t : Int) (k : Nat) : Nat → List Int := fun c => if c < k then left f t (R c) else R c
def gone (R : Nat → List Int) (f t : Int) : Nat → Nat
  | 0 => 0
  | k + 1 => gone R f t k + ((R k).length - (left f t (R k)).length)

theorem left_le (f t : Int) (xs : List Int) : (left f t xs).length ≤ xs.length := List.length_filter_le _ _
theorem Rk_zero (R : Nat → List Int) (f t : Int) : Rk R f t 0 = R := by funext c; simp [Rk]
theorem Rk_at (R : Nat → List Int) (f t : Int) (k : Nat) : Rk R f t k k = R k := by simp [Rk]
theorem Rk_upd (R : Nat → List Int) (f t : Int) (k : Nat) : upd (Rk R f t k) k (left f t (R k)) = Rk R f t (k + 1) := by
  funext c
  by_cases e : c = k
  · subst e; simp [upd, Rk]
  · simp only [upd, e, if_false, Rk]
    by_cases h : c < k
    · rw [if_pos h, if_pos (by omega)]
    · rw [if_neg h, if_neg (by omega)]
theorem gone_le (R : Nat → List Int) (f t : Int) (hn : ∀ c, c < 4 → (R c).length ≤ 1000) : ∀ k, k ≤ 4 → gone R f t k ≤ 1000 * k
  | 0, _ => by simp [gone]
  | k + 1, h => by
    have := gone_le R f t hn k (by omega)
    have := hn k (by omega)
    simp only [gone]; omega

theorem Rw.form {w : World} {v : Value} {xs : List Int} (h : Rw w v xs) : ∃ ao cap, v = .slice ao xs.length cap := by
  rcases h with ⟨rfl, rfl⟩ | ⟨g, cap, cur, rfl, _⟩
  · exact ⟨none, 0, rfl⟩
  · exact ⟨_, _, rfl⟩

theorem Lk.putOwn {p : Nat} {vs vs' : Nat → Value} {B : Nat} {w W W' : World} {row : Option Nat} (h : Lk p vs vs' w W) (hw : w.heap.size ≤ B) (hg : W.grownBy W' row) (hr : ∀ r, row = some r → B ≤ r ∧ ∃ o : Obj, W.heap[r]? = some o ∧ o.isCells = false) : Lk p vs vs' w W' :=
  ⟨hg.os.trans h.os, hg.tape.trans h.tape, hg.output.trans h.output, Nat.le_trans h.size hg.size, fun k hk hp hn => (hg.block k (Nat.lt_of_lt_of_le hk h.size) (fun e => by have := (hr k e.symm).1; omega)).trans (h.block k hk hp hn), h.own⟩

/-- A store of one cell, whatever value. -/
theorem store_one {w : World} {b i : Nat} {u v : Value} (hc : w.cell? ⟨b, i, none⟩ = some u) (hf : w.frozen? ⟨b, i, none⟩ = false) (h1 : v.oneCell' = true) : (store ⟨b, i, none⟩ v).run Tryd.prog w = .ok () (w.setCell ⟨b, i, none⟩ v) := by
  rw [run_store Tryd.prog w _ v _ h1]
  simp [hc, hf]

/-- Of no list: the function that is ranged over asks for no round. -/
theorem each_none (F : Fence) (n : Nat) (hf : F.fn 76) (hro : F.round = none) (l : Nat) (W : World) :
    CallsIn F n Tryd.prog 76 #[.pointer none, .func (.yield l) #[] #[]] W fun e W' => (∃ v, e = .returned v) ∧ W' = W := by
  refine callsIn_of_wp Tryd.func76 rfl hf ?_ hro
  simp only [Tryd.ntmps76, List.size_toArray, List.length_cons, List.length_nil, Nat.reduceAdd, Nat.reduceSub, Array.replicate_succ, Array.replicate_zero, List.push_toArray, List.append_toArray, List.nil_append, List.cons_append]
  gi_wp2
  refine bodyPost_ret (results_none rfl _ _ _) rfl ?_
  exact ⟨⟨_, rfl⟩, rfl⟩

theorem range_none {F : Fence} {n : Nat} {g : Operand} {ps : Array Tmp} {assign body : Code} {Q : Exit → Act → World → Prop} {a : Act} {w : World}
    (hro : F.round = none) (h2 : 1 ≤ n) (hf : F.fn 76) (hg : a.eval g = .func (.func 76) #[.pointer none] #[])
    (hdone : ∀ (D : Nat) (W : World), w.heap.size ≤ D → Kp [] w W → W.heap[D]? = some (.deferred (some [])) → Q .normal { a with defers := { target := .collected D, args := #[] } :: a.defers } W) :
    (Code.rangeFunc g ps assign body).wpIn F n Tryd.prog Q a w := by
  refine wpIn_rangeFunc fun fn hfn => ?_
  rw [hro]
  let rec' : LoopState → Option Code → Obj := fun st pe => .loop { state := st, pending := pe, fn, tmps := a.tmps, params := ps, assign, body, defers := w.heap.size }
  have e1 := run_enterLoop_outer (P := Tryd.prog) (w := w) fn a.tmps ps assign body
  obtain ⟨W1, hW1⟩ : ∃ W1, (w.alloc (.deferred (some []))).alloc (rec' .ready none) = W1 := ⟨_, rfl⟩
  have hL1 : W1.heap[w.heap.size + 1]? = some (rec' .ready none) := by rw [← hW1]; exact heap_alloc2_new w _ _
  have hK1 : W1.heap[w.heap.size]? = some (.deferred (some [])) := by rw [← hW1]; exact heap_alloc2_old w _ _
  have hkp : Kp [] w W1 := by rw [← hW1]; exact ((Kp.refl _ _).alloc _).alloc _
  refine ⟨w.heap.size + 1, [{ target := .collected w.heap.size, args := #[] }], W1, { target := .fn (.func 76) #[], args := #[.pointer none, .func (.yield (w.heap.size + 1)) #[] #[]] }, W1, 76,
    #[.pointer none, .func (.yield (w.heap.size + 1)) #[] #[]], W1, ?_, ?_, ?_, ?_, fun _ => h2, ?_⟩
  · rw [e1, ← hW1]
  · simp only [resolve, hg]
    simp [go_sem]
  · intro f' hf'
    simp [Target.leads] at hf'
    subst hf'; exact hf
  · have eg := enters_of Tryd.func76 (by kernel_rfl) rfl
    simp [invoke, go_sem, eg]
  · refine (each_none F (n - 1) hf hro (w.heap.size + 1) W1).mono ?_
    rintro e W2 ⟨⟨v, rfl⟩, rfl⟩
    exact ⟨none, _, run_endLoop hL1 (by simp), hdone _ _ (Nat.le_refl _) (hkp.grown (grownBy_putObj' _ _ _) (fun k e => by cases e; exact .inr (by omega))) ((World.putObj_heap_other (by omega)).trans hK1)⟩

set_option maxRecDepth 100000 in
theorem has_nil (w : World) (x : Int) : Calls Tryd.prog 62 #[.pointer none, .int .i64 x] w fun e w' => e = .returned (.bool false) ∧ Kp [] w w' := by
  refine (callsIn_wide (n := 3)).1 ?_
  refine callsIn_of_wp_marks Tryd.func62 rfl trivial ?_ rfl
  simp only [Tryd.ntmps62, List.size_toArray, List.length_cons, List.length_nil, Nat.reduceAdd, Nat.reduceSub, Array.replicate_succ, Array.replicate_zero, List.push_toArray, List.append_toArray, List.nil_append, List.cons_append]
  have hmf : ∀ (fn : Fn) (first cap : Array Value) (w : World), (Instr.makeFunc fn first cap).run Tryd.prog w = .ok (.func fn first cap) w := fun _ _ _ _ => rfl
  gi_wp2
  have hk0 : Kp [] w ((w.alloc (.cells #[.int .i64 x] 3)).alloc (.cells #[.bool false] 4)) := ((Kp.refl _ _).alloc _).alloc _
  have b1 := heap_alloc2_new w (.cells #[.int .i64 x] 3) (.cells #[.bool false] 4)
  refine range_none rfl (by omega) trivial rfl ?_
  intro D W hD hkp hK
  have hk1 := hk0.trans hkp
  have hr := hkp.row (by simp) b1
  have hcr := cell_of_one hr
  have hfr := free_of_one hr
  have HK := Lib.hid hk1
  clear hk0 b1 hkp hk1 hmf
  gi_wp2
  have hks : Kp [w.heap.size + 1] W (W.setCell ⟨w.heap.size + 1, 0, none⟩ (.bool false)) := (Kp.refl _ _).setCell (.inl (by simp)) _
  have hne : D ≠ w.heap.size + 1 := by simp at hD; omega
  have hK' := hks.row (by simpa using hne) hK
  refine ⟨by simp, .inl ⟨_, _, rfl, run_takeDeferred hK', ?_⟩⟩
  have hc5 := cell_kept (World.cell?_setCell_same' W ⟨w.heap.size + 1, 0, none⟩ (.bool false) (by rw [hcr]; rfl)) (grownBy_putObj' _ D (.deferred none)) (fun r e => by cases e; exact ⟨_, hK', rfl⟩)
  refine ⟨.bool false, ?_, rfl, ?_⟩
  · simp [results, Tryd.f62, go_sem, hc5]
  · exact (HK.out.setCell (.inr (by simp)) _).grown (grownBy_putObj' _ D _) (fun k e => by cases e; exact .inr (by simp at hD; omega))

end Go.Proofs.YtinkpbenmfnnhaaDoor.Li
