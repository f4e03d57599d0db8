/- A range over 'each', a method's value for its function: the list's four rows, one round each. The walk of Has: each row of the list is asked. A region that draws its order, in a round of a range over a function: the operations ahead of the last few only read; those last ones have one order. Conditions: none of the operations is a defer. The walks of Drop, and of Has and Drop of no list. The walks of the list's other calls: row, New, Len, All, Pop, Push. The walks of All and Push. What the list's calls answer, plainly: Push, Pop, Drop of whatever arguments; 'wakes' of layer 7; ListNil's walk. Conditions: as each theorem states them. -/
import Derived.RangeFuncNested
import Derived.RangeFuncBound
import Derived.RangeFuncCalls
import Derived.RangeFuncLeaves
import Derived.Shelf.Abstract
import Derived.Shelf.RegionOpen
import Derived.WalkKit
import Derived.OwnWalkIn
import Derived.TacticsInMore
import Derived.LoopNIn
import Derived.LoopIn
import Derived.StillTailTactics
import Derived.OrdersIn
import Derived.TacticsIn
import Derived.Deep.AppendLies
import Derived.OwnWalk
import Derived.Test.YticbnckikkdknaaGreatDoorPn01
import Derived.Test.YticbnckikkdknaaGreatDoorPn04
namespace Go.Proofs.YticbnckikkdknaaGreatDoor.Li
set_option linter.unusedVariables false
set_option linter.unusedSimpArgs false
open Go.RowKit Go.Shelf
attribute [local go_sem] Oper.semAt_some

/-- The function that is ranged over: each row's place, in order, till a round says no more. -/
theorem each_any (F : Fence) (n : Nat) (hf : F.fn 160) (hro : F.round = none) (hn : 1 ≤ n) (p l : Nat) (J : Nat → World → Prop) (Jx : World → Prop)
    (hY : ∀ k W, k < 4 → J k W → YieldAt F (n - 1) Tryz.prog l #[.pointer (some ⟨p, k, none⟩)] W fun e W' => (e = .returned (.bool true) ∧ J (k + 1) W') ∨ (e = .returned (.bool false) ∧ Jx W'))
    (W : World) (h0 : J 0 W) :
    CallsIn F n Tryz.prog 160 #[.pointer (some ⟨p, 0, none⟩), .func (.yield l) #[] #[]] W fun e W' => (∃ v, e = .returned v) ∧ (J 4 W' ∨ Jx W') := by
  refine callsIn_of_wp Tryz.func160 rfl hf ?_ hro
  simp only [Tryz.ntmps160, List.size_toArray, List.length_cons, List.length_nil, Nat.reduceAdd, Nat.reduceSub, Array.replicate_succ, Array.replicate_zero, List.push_toArray, List.append_toArray, List.nil_append, List.cons_append]
  gi_wp2
  gi_loopw [4, 7] (fun _ i wr => ∃ k : Nat, k ≤ 4 ∧ i = .int .i64 (k : Int) ∧ J k wr) (fun _ i wr => 4 - (intOf i).toNat)
  case atStart => exact ⟨0, by omega, rfl, h0⟩
  case round =>
    obtain ⟨k, hk, rfl, hJ⟩ := hrel
    by_cases hk4 : k < 4
    · obtain ⟨fn, tmps, assign, body, hy, hR⟩ := hY k wr hk4 hJ
      gi_wp2
      refine hR.mono ?_
      rintro e W3 (⟨rfl, hJ3⟩ | ⟨rfl, hJ3⟩)
      · gi_wp2
        go_roundw
        case rel => exact ⟨k + 1, by omega, by go_num, hJ3⟩
        case measure => simp only [intOf]; omega
      · gi_wp2
        refine bodyPost_ret (results_none rfl _ _ _) rfl ?_
        exact ⟨⟨_, rfl⟩, .inr hJ3⟩
    · obtain rfl : k = 4 := by omega
      gi_wp2
      go_end0
      exact ⟨⟨_, rfl⟩, .inl hJ⟩

/-- HOW A ROUND's BODY MAY BE LEFT: off its end, or by a return. -/
def rowPost (B : Nat) (I : World → Prop) (Ix : World → Prop) (W : World) : Exit → Act → World → Prop
  | .normal, _, W' => KeepsFrom B W W' ∧ I W'
  | .ret, _, W' => KeepsFrom B W W' ∧ Ix W'
  | _, _, _ => False

/-- 'for row := range l.each { .. }': what is so between two rounds, one walk of the body, what follows. -/
theorem range_rows {F : Fence} {n : Nat} {g : Operand} {ps : Array Tmp} {assign body : Code} {Q : Exit → Act → World → Prop} {a : Act} {w : World}
    (hro : F.round = none) (h2 : 2 ≤ n) (hf : F.fn 160) (p : Nat) (hg : a.eval g = .func (.func 160) #[.pointer (some ⟨p, 0, none⟩)] #[]) (hps : ps.size = 1)
    (I : Nat → World → Prop) (Ix : World → Prop) (hI : OwnFrom w.heap.size I) (hIx : OwnFrom w.heap.size (fun (_ : Unit) => Ix)) (h0 : I 0 w) (a₁ : Nat → Act)
    (hassign : ∀ (l k : Nat) (W : World) (K : Act → World → Prop), K (a₁ k) W →
      assign.wpIn (F.inRound l) (n - 1 - 1) Tryz.prog (Exit.then K (fun _ _ _ => False)) { tmps := (ps.zip #[.pointer (some ⟨p, k, none⟩)]).foldl (fun t (q, v) => t.setIfInBounds q v) a.tmps, defers := [] } W)
    (hbody : ∀ (l k : Nat) (W : World), k < 4 → I k W → body.wpIn (F.inRound l) (n - 1 - 1) Tryz.prog (rowPost w.heap.size (I (k + 1)) Ix W) (a₁ k) W)
    (hdone : ∀ (D : Nat) (W : World), w.heap.size ≤ D → I 4 W → W.heap[D]? = some (.deferred (some [])) → Q .normal { a with defers := { target := .collected D, args := #[] } :: a.defers } W)
    (hstop : ∀ (D : Nat) (W : World), w.heap.size ≤ D → Ix W → W.heap[D]? = some (.deferred (some [])) → Code.ret.wpIn F n Tryz.prog Q { a with defers := { target := .collected D, args := #[] } :: a.defers } W) :
    (Code.rangeFunc g ps assign body).wpIn F n Tryz.prog Q a w := by
  refine wpIn_rangeFunc fun fn hfn => ?_
  rw [hro]
  -- the loop's record, in each of its states
  let rec' : LoopState → Option Code → Obj := fun st pe => .loop { state := st, pending := pe, fn, tmps := a.tmps, params := ps, assign, body, defers := w.heap.size }
  have e1 := run_enterLoop_outer (P := Tryz.prog) (w := w) fn a.tmps ps assign body
  have hB : w.heap.size < w.heap.size + 1 := Nat.lt_succ_self _
  obtain ⟨W1, hW1⟩ : ∃ W1, (w.alloc (.deferred (some []))).alloc (rec' .ready none) = W1 := ⟨_, rfl⟩
  have hL1 : W1.heap[w.heap.size + 1]? = some (rec' .ready none) := by rw [← hW1]; exact heap_alloc2_new w _ _
  have hK1 : W1.heap[w.heap.size]? = some (.deferred (some [])) := by rw [← hW1]; exact heap_alloc2_old w _ _
  have hI1 : I 0 W1 := by rw [← hW1]; exact hI.alloc _ (hI.alloc _ h0)
  refine ⟨w.heap.size + 1, [{ target := .collected w.heap.size, args := #[] }], W1, { target := .fn (.func 160) #[], args := #[.pointer (some ⟨p, 0, none⟩), .func (.yield (w.heap.size + 1)) #[] #[]] }, W1, 160,
    #[.pointer (some ⟨p, 0, none⟩), .func (.yield (w.heap.size + 1)) #[] #[]], W1, ?_, ?_, ?_, ?_, fun _ => by omega, ?_⟩
  · rw [e1, ← hW1]
  · simp only [resolve, hg]
    simp [go_sem]
  · intro f' hf'
    simp [Target.leads] at hf'
    subst hf'; exact hf
  · have eg := enters_of Tryz.func160 (by kernel_rfl) rfl
    simp [invoke, go_sem, eg]
  · refine (each_any F (n - 1) hf hro (by omega) p (w.heap.size + 1)
      (fun k W => I k W ∧ W.heap[w.heap.size + 1]? = some (rec' .ready none) ∧ W.heap[w.heap.size]? = some (.deferred (some [])))
      (fun W => Ix W ∧ W.heap[w.heap.size + 1]? = some (rec' .done (some .ret)) ∧ W.heap[w.heap.size]? = some (.deferred (some []))) ?_ W1 ⟨hI1, hL1, hK1⟩).mono ?_
    · -- a round
      rintro k W hk ⟨hi, hl, hd⟩
      have hlt := lt_of_block hl
      refine ⟨fn, _, assign, body, run_yield hl (by simp [hps]), roundIn_of_wpIn hfn (hassign _ k W _ ⟨_, run_beginRound hl rfl, ?_⟩)⟩
      have hl2 : (W.putObj (w.heap.size + 1) (rec' .busy none)).heap[w.heap.size + 1]? = some (rec' .busy none) := World.putObj_heap_same hlt
      have hd2 : (W.putObj (w.heap.size + 1) (rec' .busy none)).heap[w.heap.size]? = some (.deferred (some [])) := (World.putObj_heap_other (by omega)).trans hd
      refine wpIn_mono (hbody _ k _ hk (hI.putObj _ hi (by omega) hl rfl)) ?_
      have fin : ∀ (jump : Option Code) (W3 : World), KeepsFrom w.heap.size (W.putObj (w.heap.size + 1) (rec' .busy none)) W3 →
          (Instr.endRound (w.heap.size + 1) jump).run Tryz.prog W3 = .ok (.bool jump.isNone) (W3.putObj (w.heap.size + 1) (rec' (if jump.isNone then .ready else .done) jump)) ∧
          W3.heap[w.heap.size + 1]? = some (rec' .busy none) ∧
          (W3.putObj (w.heap.size + 1) (rec' (if jump.isNone then .ready else .done) jump)).heap[w.heap.size + 1]? = some (rec' (if jump.isNone then .ready else .done) jump) ∧
          (W3.putObj (w.heap.size + 1) (rec' (if jump.isNone then .ready else .done) jump)).heap[w.heap.size]? = some (.deferred (some [])) := by
        intro jump W3 hk3
        have hl3 := hk3.same _ _ (by omega) hl2 rfl
        exact ⟨run_endRound jump hl3, hl3, World.putObj_heap_same (lt_of_block hl3), (World.putObj_heap_other (by omega)).trans (hk3.same _ _ (by omega) hd2 rfl)⟩
      rintro e a3 W3 hp
      cases e with
      | normal =>
        obtain ⟨hk3, hi3⟩ := hp
        obtain ⟨hr, hl3, hl4, hd4⟩ := fin none W3 hk3
        exact ⟨_, _, hr, .inl ⟨rfl, hI.putObj _ hi3 (by omega) hl3 rfl, hl4, hd4⟩⟩
      | ret =>
        obtain ⟨hk3, hi3⟩ := hp
        obtain ⟨hr, hl3, hl4, hd4⟩ := fin (some .ret) W3 hk3
        exact ⟨_, _, hr, .inr ⟨rfl, hIx.putObj (s := ()) _ hi3 (by omega) hl3 rfl, hl4, hd4⟩⟩
      | exit id => exact hp.elim
      | goto t => exact hp.elim
      | panic ch => exact hp.elim
      | outgrown => exact hp.elim
    · -- behind the four rows
      rintro e W2 ⟨⟨v, rfl⟩, (⟨hi, hl, hd⟩ | ⟨hi, hl, hd⟩)⟩
      · exact ⟨none, _, run_endLoop hl (by simp), hdone _ _ (Nat.le_refl _) (hI.putObj _ hi (by omega) hl rfl) ((World.putObj_heap_other (by omega)).trans hd)⟩
      · exact ⟨some .ret, _, run_endLoop hl (by simp), hstop _ _ (Nat.le_refl _) (hIx.putObj (s := ()) _ hi (by omega) hl rfl) ((World.putObj_heap_other (by omega)).trans hd)⟩

end Go.Proofs.YticbnckikkdknaaGreatDoor.Li

namespace Go.Proofs.YticbnckikkdknaaGreatDoor.Li
set_option linter.unusedVariables false
set_option linter.unusedSimpArgs false
open Go.RowKit Go.Shelf
attribute [local go_sem] Oper.semAt_some

/-- Whether x is in a row. -/
def inR (x : Int) (xs : List Int) : Bool := xs.any fun y => x == y
/-- Whether x is in one of the first k rows. -/
def inK (R : Nat → List Int) (x : Int) : Nat → Bool
  | 0 => false
  | k + 1 => inK R x k || inR x (R k)
def hasB (R : Nat → List Int) (x : Int) : Bool := inK R x 4

/-- A relation that speaks of blocks of cells, and of what lies below B, abides the loop's own turns. -/
theorem kp_putOwn {S : List Nat} {B : Nat} {w W W' : World} {row : Option Nat} (h : Kp S w W) (hw : w.heap.size ≤ B) (hg : W.grownBy W' row) (hr : ∀ r, row = some r → B ≤ r ∧ ∃ o : Obj, W.heap[r]? = some o ∧ o.isCells = false) : Kp S w W' :=
  h.grown hg fun k e => .inr (by have := (hr k e).1; omega)
theorem row_putOwn {B : Nat} {W W' : World} {row : Option Nat} {b : Nat} {cs : Array Value} {t : TypeId} {fr : Nat × Nat} (h : W.heap[b]? = some (.cells cs t fr)) (hg : W.grownBy W' row) (hr : ∀ r, row = some r → B ≤ r ∧ ∃ o : Obj, W.heap[r]? = some o ∧ o.isCells = false) : W'.heap[b]? = some (.cells cs t fr) := by
  refine (hg.block b (lt_of_block h) ?_).trans h
  intro e
  obtain ⟨_, o, ho, hc⟩ := hr b e.symm
  rw [h] at ho
  cases ho
  simp [Obj.isCells] at hc
theorem Rw.putOwn {B : Nat} {W W' : World} {row : Option Nat} {v : Value} {xs : List Int} (h : Rw W v xs) (hg : W.grownBy W' row) (hr : ∀ r, row = some r → B ≤ r ∧ ∃ o : Obj, W.heap[r]? = some o ∧ o.isCells = false) : Rw W' v xs := by
  rcases h with h | ⟨g, cap, cur, rfl, h1, r⟩
  · exact .inl h
  · exact .inr ⟨g, cap, cur, rfl, row_putOwn h1 hg hr, r⟩
theorem Ls.putOwn {B p : Nat} {vs : Nat → Value} {R : Nat → List Int} {W W' : World} {row : Option Nat} (h : Ls W p vs R) (hg : W.grownBy W' row) (hr : ∀ r, row = some r → B ≤ r ∧ ∃ o : Obj, W.heap[r]? = some o ∧ o.isCells = false) : Ls W' p vs R :=
  ⟨row_putOwn h.hp hg hr, fun c hc => (h.rw c hc).putOwn hg hr, h.ap⟩
theorem keepsFrom_kp {S : List Nat} {B : Nat} {W W' : World} (k : Kp S W W') (hS : ∀ x ∈ S, ∀ o, W.heap[x]? = some o → o.isCells = true) : KeepsFrom B W W' :=
  ⟨k.size, fun i o _ hi ho => k.row (fun e => by have := hS i e o hi; rw [this] at ho; cases ho) hi⟩

/-- What is so between two rounds of Has. -/
structure HasI (p : Nat) (vs : Nat → Value) (R : Nat → List Int) (x : Int) (w : World) (k : Nat) (W : World) : Prop where
  ls : Ls W p vs R
  hx : W.heap[w.heap.size]? = some (.cells #[.int .i64 x] 3 (0, 0))
  hr : W.heap[w.heap.size + 1]? = some (.cells #[.bool false] 4 (0, 0))
  kp : Kp [] w W
  no : inK R x k = false
structure HasX (R : Nat → List Int) (x : Int) (w W : World) : Prop where
  hr : W.heap[w.heap.size + 1]? = some (.cells #[.bool true] 4 (0, 0))
  kp : Kp [] w W
  yes : hasB R x = true

theorem inK_mono {R : Nat → List Int} {x : Int} {k : Nat} (h : inK R x k = true) : ∀ j, k ≤ j → inK R x j = true := by
  intro j hj
  induction j with
  | zero => obtain rfl : k = 0 := by omega
            exact h
  | succ j ih =>
    by_cases e : k = j + 1
    · subst e; exact h
    · rw [inK, ih (by omega)]; rfl

set_option maxRecDepth 100000 in
theorem has_any (w : World) (p : Nat) (vs : Nat → Value) (R : Nat → List Int) (x : Int) (h : Ls w p vs R) (hn : ∀ c, c < 4 → (R c).length ≤ 1000) :
    Calls Tryz.prog 158 #[.pointer (some ⟨p, 0, none⟩), .int .i64 x] w fun e w' => e = .returned (.bool (hasB R x)) ∧ Kp [] w w' := by
  refine (callsIn_wide (n := 3)).1 ?_
  refine callsIn_of_wp_marks Tryz.func158 rfl trivial ?_ rfl
  simp only [Tryz.ntmps158, List.size_toArray, List.length_cons, List.length_nil, Nat.reduceAdd, Nat.reduceSub, Array.replicate_succ, Array.replicate_zero, List.push_toArray, List.append_toArray, List.nil_append, List.cons_append]
  have hmf : ∀ (fn : Fn) (first cap : Array Value) (w : World), (Instr.makeFunc fn first cap).run Tryz.prog w = .ok (.func fn first cap) w := fun _ _ _ _ => rfl
  gi_wp2
  have hk0 : Kp [] w ((w.alloc (.cells #[.int .i64 x] 3)).alloc (.cells #[.bool false] 4)) := ((Kp.refl _ _).alloc _).alloc _
  have b0 := heap_alloc2_old w (.cells #[.int .i64 x] 3) (.cells #[.bool false] 4)
  have b1 := heap_alloc2_new w (.cells #[.int .i64 x] 3) (.cells #[.bool false] 4)
  refine range_rows rfl (by omega) trivial p rfl rfl (fun k W => HasI p vs R x w k W) (fun W => HasX R x w W)
    (fun s A B row hs hg hr => ⟨hs.ls.putOwn hg hr, row_putOwn hs.hx hg hr, row_putOwn hs.hr hg hr, kp_putOwn hs.kp (by simp; omega) hg hr, hs.no⟩)
    (fun s A B row hs hg hr => ⟨row_putOwn hs.hr hg hr, kp_putOwn hs.kp (by simp; omega) hg hr, hs.yes⟩)
    ⟨h.keep0 hk0, b0, b1, hk0, rfl⟩
    (fun k => { tmps := #[.pointer (some ⟨p, 0, none⟩), .int .i64 x, undef, .pointer (some ⟨w.heap.size, 0, none⟩), .pointer (some ⟨w.heap.size + 1, 0, none⟩), .pointer (some ⟨p, k, none⟩), .pointer (some ⟨p, 0, none⟩), .func (.func 160) #[.pointer (some ⟨p, 0, none⟩)] #[], .pointer (some ⟨p, k, none⟩), undef, undef, undef, undef, undef], defers := [] }) ?assign ?body ?done ?stop
  case assign =>
    intro l k W K hK
    gi_wp2
    exact hK
  case body =>
    intro l k W hk hI
    have hcv := hI.ls.cell hk
    have hcx := cell_of_one hI.hx
    have hcr := cell_of_one hI.hr
    have hfr := free_of_one hI.hr
    have hcon : ∀ W', Kp [] W W' → Calls Tryz.prog 172 #[vs k, .int .i64 x] W' fun e w2 => e = .returned (.bool (inR x (R k))) ∧ w2 = W' := fun W' hk' => contains_any W' (vs k) (R k) x ((hI.ls.rw k hk).keep0 hk') (hn k hk)
    have HI := Lib.hid hI
    clear hI hn h hk0 b0 b1 hmf
    obtain ⟨b, hb⟩ : ∃ b, b = inR x (R k) := ⟨_, rfl⟩
    have HB := Lib.hid hb
    rw [← hb] at hcon
    clear hb
    have hmx : Tryz.prog.follows .mixedOrders = true := by kernel_rfl
    cases b with
    | true =>
      gi_wp2
      gi_region_with_o (refine ⟨trivial, ?_⟩; gi_at_call 172; refine (CallsIn.inRound l (callsIn_wide.2 (hcon _ (by first | exact (Kp.refl _ _).drew | exact kp_drewN _ _)))).mono ?_; rintro e w' ⟨rfl, rfl⟩)
      all_goals gi_wp2
      all_goals (
        have hkd : Kp [] W W.drew := (Kp.refl _ _).drew
        have hrd := hkd.row (by simp) HI.out.hr
        have hks : Kp [w.heap.size + 1] W.drew (W.drew.setCell ⟨w.heap.size + 1, 0, none⟩ (.bool true)) := (Kp.refl _ _).setCell (.inl (by simp)) _
        refine ⟨keepsFrom_kp ((hkd.mono (by simp)).trans hks) (fun y hy o ho => ?_), one_setCell hrd, ?_, ?_⟩
        · rw [List.mem_singleton] at hy
          subst hy
          rw [HI.out.hr] at ho
          cases ho; rfl
        · exact HI.out.kp.drew.setCell (.inr (by simp)) _
        · exact inK_mono (k := k + 1) (by rw [inK, ← HB.out]; simp) 4 (by omega))
    | false =>
      gi_wp2
      gi_region_with_o (refine ⟨trivial, ?_⟩; gi_at_call 172; refine (CallsIn.inRound l (callsIn_wide.2 (hcon _ (by first | exact (Kp.refl _ _).drew | exact kp_drewN _ _)))).mono ?_; rintro e w' ⟨rfl, rfl⟩)
      all_goals gi_wp2
      all_goals (
        have hkd : Kp [] W W.drew := (Kp.refl _ _).drew
        exact ⟨keepsFrom_kp hkd (by simp), HI.out.ls.keep0 hkd, hkd.row (by simp) HI.out.hx, hkd.row (by simp) HI.out.hr, HI.out.kp.trans hkd, by rw [inK, ← HB.out, HI.out.no]; rfl⟩)
  case done =>
    rintro D W hD hI hK
    have hcr := cell_of_one hI.hr
    have hfr := free_of_one hI.hr
    have HI := Lib.hid hI
    clear hI
    gi_wp2
    have hks : Kp [w.heap.size + 1] W (W.setCell ⟨w.heap.size + 1, 0, none⟩ (.bool false)) := (Kp.refl _ _).setCell (.inl (by simp)) _
    have hne : D ≠ w.heap.size + 1 := by simp at hD; omega
    have hK' := hks.row (by simpa using hne) hK
    refine ⟨by simp, .inl ⟨_, _, rfl, run_takeDeferred hK', ?_⟩⟩
    have hc5 := cell_kept (World.cell?_setCell_same' W ⟨w.heap.size + 1, 0, none⟩ (.bool false) (by rw [hcr]; rfl)) (grownBy_putObj' _ D (.deferred none)) (fun r e => by cases e; exact ⟨_, hK', rfl⟩)
    refine ⟨.bool false, ?_, by rw [hasB, HI.out.no], ?_⟩
    · simp [results, Tryz.f158, go_sem, hc5]
    · exact (HI.out.kp.setCell (.inr (by simp)) _).grown (grownBy_putObj' _ D _) (fun k e => by cases e; exact .inr (by simp at hD; omega))
  case stop =>
    rintro D W hD hI hK
    have hcr := cell_of_one hI.hr
    have HI := Lib.hid hI
    clear hI
    gi_wp2
    refine ⟨by simp, .inl ⟨_, _, rfl, run_takeDeferred hK, ?_⟩⟩
    have hc5 := cell_kept hcr (grownBy_putObj' _ D (.deferred none)) (fun r e => by cases e; exact ⟨_, hK, rfl⟩)
    refine ⟨.bool true, ?_, by rw [HI.out.yes], ?_⟩
    · simp [results, Tryz.f158, go_sem, hc5]
    · exact HI.out.kp.grown (grownBy_putObj' _ D _) (fun k e => by cases e; exact .inr (by simp at hD; omega))

end Go.Proofs.YticbnckikkdknaaGreatDoor.Li

namespace Go.Proofs.YticbnckikkdknaaGreatDoor.Li
set_option linter.unusedVariables false
set_option linter.unusedSimpArgs false

/-- None of the operations defers. -/
def noDefer (ops : Array Oper) : Bool := (List.range ops.size).all fun i => match ops[i]? with
  | some o => (match o.op with | .defer _ => false | _ => true)
  | none => true
theorem noDefer_at {ops : Array Oper} (h : noDefer ops = true) {i : Nat} {o : Oper} (ho : ops[i]? = some o) : ∀ c, o.op ≠ .defer c := by
  intro c e
  have hi := (Array.getElem?_eq_some_iff.1 ho).1
  have := List.all_eq_true.1 h i (List.mem_range.2 hi)
  simp [ho, e] at this

section
variable {P : Program} {ops : Array Oper} {md : Region.Mode} {w : World} {l n : Nat}

theorem round_of_stOp {i : Nat} {a : Act} {K : Act → Prop} {K' : Act → World → Prop} {Q' : Exit → Act → World → Prop} (hnd : noDefer ops = true) (h : ∀ a, K a → K' a w) (hh : stOp P ops w i K a) : wpOpIn (Fence.wide.inRound l) n P ops Q' i K' a w := by
  unfold stOp at hh
  unfold wpOpIn
  split
  · rename_i ho
    simp only [ho] at hh
    exact h _ hh
  · rename_i o ho
    simp only [ho] at hh
    split
    · rename_i hw
      simp only [hw, if_true] at hh
      refine ⟨fun _ _ => trivial, ?_⟩
      rw [Oper.semAt_eq _ _ _ (noDefer_at hnd ho)]
      unfold Oper.still at hh
      generalize (execOp a.eval o).run P w = r at *
      cases r with
      | halt x w' => simp only [Oper.stillUpon] at hh
      | ok x w' =>
        cases x <;> simp only [Oper.stillUpon] at hh <;> simp only [Oper.uponIn]
        case value u => obtain ⟨rfl, h2⟩ := hh; exact h _ h2
        case skip => obtain ⟨rfl, h2⟩ := hh; exact h _ h2
        case enter f args =>
          obtain ⟨rfl, v, hc, h2⟩ := hh
          refine ⟨fun hd => (by cases hd), CallsIn.inRound l ((callsIn_wide.2 hc).mono ?_)⟩
          rintro e w'' ⟨rfl, rfl⟩
          exact h _ h2
    · rename_i hw
      simp only [hw] at hh
      exact ⟨fun _ _ => trivial, h _ hh⟩

theorem round_of_head {m g : Nat} {L : Array Bool → Act → Prop} {Q' : Exit → Act → World → Prop} (hnd : noDefer ops = true) (hL : ∀ listed a, L listed a → wpAnyIn (Fence.wide.inRound l) n P md ops Q' g listed a w) :
    ∀ (f : Nat) (listed : Array Bool) (a : Act), wpAnyL P md ops w m L f listed a → wpAnyIn (Fence.wide.inRound l) n P md ops Q' (f + g) listed a w
  | 0, listed, a, h => by rw [Nat.zero_add]; exact hL _ _ h
  | f + 1, listed, a, h => by
    rw [show f + 1 + g = (f + g) + 1 by omega]
    exact ⟨fun h0 => absurd h0 h.1, fun i hi => round_of_stOp hnd (fun a' h' => round_of_head hnd hL f _ a' h') (h.2 i hi).2⟩

theorem round_of_seq {Q' : Exit → Act → World → Prop} : ∀ (ls : List Oper) (k : Nat) (listed : Array Bool) (a : Act) (w : World), (∀ j, ls[j]? = ops[k + j]?) →
    Region.seqB md ops ls.length k listed = true → wpListIn (Fence.wide.inRound l) n P ops Q' ls a w → wpAnyIn (Fence.wide.inRound l) n P md ops Q' ls.length listed a w
  | [], _, _, _, _, _, hB, h => ⟨by simpa [Region.seqB] using hB, h⟩
  | o :: ls, k, listed, a, w, hl, hB, h => by
    have h0 : ops[k]? = some o := by simpa using (hl 0).symm
    simp only [List.length_cons, Region.seqB, Bool.and_eq_true, decide_eq_true_eq] at hB
    refine ⟨fun h1 => (by rw [hB.1] at h1; cases h1), fun i hi => ?_⟩
    rw [hB.1] at hi
    obtain rfl : i = k := by simpa using hi
    have hw : wpOpIn (Fence.wide.inRound l) n P ops Q' i (wpListIn (Fence.wide.inRound l) n P ops Q' ls) a w := by unfold wpOpIn; simp only [h0]; exact h
    exact wpOpIn_mono (fun a' w' h' => round_of_seq ls (i + 1) _ a' w' (fun j => by have := hl (j + 1); simpa [Nat.add_assoc, Nat.add_comm 1 j] using this) hB.2 h') hw

theorem round_region_tail {id : Nat} {Q : Exit → Act → World → Prop} {a : Act} {w : World} {ls : List Oper} (m : Nat) (hm : P.follows .mixedOrders = true) (hB : Region.lexTailB .any ls.toArray m = true) (hnd : noDefer ls.toArray = true)
    (h : wpStill P ls.toArray w.drew (fun a' => wpListIn (Fence.wide.inRound l) n P ls.toArray Q (ls.drop m) a' w.drew) (ls.take m) a) : (Code.region id ls.toArray true).wpIn (Fence.wide.inRound l) n P Q a w := by
  simp only [Region.lexTailB, Bool.and_eq_true, decide_eq_true_eq] at hB
  obtain ⟨⟨⟨⟨hsel, hn⟩, hs⟩, hc⟩, hlex⟩ := hB
  have hn' : m < ls.length := by simpa using hn
  have htl : (ls.take m).length = m := by simp; omega
  have hdl : (ls.drop m).length = ls.toArray.size - m := by simp
  have inv0 : HeadInv .any ls.toArray m (Array.replicate ls.toArray.size false) :=
    ⟨by simp, fun j oj _ hl => (by rw [getD_replicate_false] at hl; cases hl), fun t _ ht => getD_in (by simpa using ht) (getD_replicate_false _ _)⟩
  have H := wpAnyL_lex (md := .any) (g := ls.toArray.size - m) hsel hs hc hn (ls.take m) 0 _ a (fun j hj => by
    have hj' : j < m := by rw [htl] at hj; exact hj
    simp [hj']) (by simpa using htl) inv0 (by rw [htl]; exact hlex) h
  refine wpIn_region_any hm ?_
  have := round_of_head (Q' := Q) (l := l) (n := n) (g := ls.toArray.size - m) hnd (fun listed a' hL => by
    have := round_of_seq (md := .any) (Q' := Q) (l := l) (n := n) (ls.drop m) m listed a' w.drew (fun j => by simp [List.getElem?_drop]) (by rw [hdl]; exact hL.1) hL.2
    rwa [hdl] at this) _ _ _ H
  rw [htl, show m + (ls.toArray.size - m) = ls.toArray.size by omega] at this
  exact this
end

end Go.Proofs.YticbnckikkdknaaGreatDoor.Li

namespace Go.Proofs.YticbnckikkdknaaGreatDoor.Li
set_option linter.unusedVariables false
set_option linter.unusedSimpArgs false
open Go.RowKit Go.Shelf
attribute [local go_sem] Oper.semAt_some

/-- Whether x is to go. -/
def goes (f t x : Int) : Bool := decide (f ≤ x) && decide (x < t)
def left (f t : Int) (xs : List Int) : List Int := xs.filter fun x => !goes f t x
/-- The first k rows have been gone through. -/
def Rk (R : Nat → List Int) (f t : Int) (k : Nat) : Nat → List Int := fun c => if c < k then left f t (R c) else R c
def gone (R : Nat → List Int) (f t : Int) : Nat → Nat
  | 0 => 0
  | k + 1 => gone R f t k + ((R k).length - (left f t (R k)).length)

theorem left_le (f t : Int) (xs : List Int) : (left f t xs).length ≤ xs.length := List.length_filter_le _ _
theorem Rk_zero (R : Nat → List Int) (f t : Int) : Rk R f t 0 = R := by funext c; simp [Rk]
theorem Rk_at (R : Nat → List Int) (f t : Int) (k : Nat) : Rk R f t k k = R k := by simp [Rk]
theorem Rk_upd (R : Nat → List Int) (f t : Int) (k : Nat) : upd (Rk R f t k) k (left f t (R k)) = Rk R f t (k + 1) := by
  funext c
  by_cases e : c = k
  · subst e; simp [upd, Rk]
  · simp only [upd, e, if_false, Rk]
    by_cases h : c < k
    · rw [if_pos h, if_pos (by omega)]
    · rw [if_neg h, if_neg (by omega)]
theorem gone_le (R : Nat → List Int) (f t : Int) (hn : ∀ c, c < 4 → (R c).length ≤ 1000) : ∀ k, k ≤ 4 → gone R f t k ≤ 1000 * k
  | 0, _ => by simp [gone]
  | k + 1, h => by
    have := gone_le R f t hn k (by omega)
    have := hn k (by omega)
    simp only [gone]; omega

theorem Rw.form {w : World} {v : Value} {xs : List Int} (h : Rw w v xs) : ∃ ao cap, v = .slice ao xs.length cap := by
  rcases h with ⟨rfl, rfl⟩ | ⟨g, cap, cur, rfl, _⟩
  · exact ⟨none, 0, rfl⟩
  · exact ⟨_, _, rfl⟩

theorem goes_any (w : World) (f t x : Int) (a b : Nat) (ha : w.cell? ⟨a, 0, none⟩ = some (.int .i64 f)) (hb : w.cell? ⟨b, 0, none⟩ = some (.int .i64 t)) :
    Calls Tryz.prog 159 #[.int .i64 x, .pointer (some ⟨a, 0, none⟩), .pointer (some ⟨b, 0, none⟩)] w fun e w' => e = .returned (.bool (goes f t x)) ∧ w' = w := by
  by_cases h1 : f ≤ x
  · by_cases h2 : x < t
    · have e : goes f t x = true := by simp [goes, h1, h2]
      rw [e]
      go_enter Tryz.func159, Tryz.ntmps159
      go_wp2
      go_ret
      exact ⟨rfl, rfl⟩
    · have e : goes f t x = false := by simp [goes, h2]
      rw [e]
      go_enter Tryz.func159, Tryz.ntmps159
      go_wp2
      go_ret
      exact ⟨rfl, rfl⟩
  · have e : goes f t x = false := by simp [goes, h1]
    rw [e]
    go_enter Tryz.func159, Tryz.ntmps159
    go_wp2
    go_ret
    exact ⟨rfl, rfl⟩

theorem Lk.putOwn {p : Nat} {vs vs' : Nat → Value} {B : Nat} {w W W' : World} {row : Option Nat} (h : Lk p vs vs' w W) (hw : w.heap.size ≤ B) (hg : W.grownBy W' row) (hr : ∀ r, row = some r → B ≤ r ∧ ∃ o : Obj, W.heap[r]? = some o ∧ o.isCells = false) : Lk p vs vs' w W' :=
  ⟨hg.os.trans h.os, hg.tape.trans h.tape, hg.output.trans h.output, Nat.le_trans h.size hg.size, fun k hk hp hn => (hg.block k (Nat.lt_of_lt_of_le hk h.size) (fun e => by have := (hr k e.symm).1; omega)).trans (h.block k hk hp hn), h.own⟩

/-- A store of one cell, whatever value. -/
theorem store_one {w : World} {b i : Nat} {u v : Value} (hc : w.cell? ⟨b, i, none⟩ = some u) (hf : w.frozen? ⟨b, i, none⟩ = false) (h1 : v.oneCell' = true) : (store ⟨b, i, none⟩ v).run Tryz.prog w = .ok () (w.setCell ⟨b, i, none⟩ v) := by
  rw [run_store Tryz.prog w _ v _ h1]
  simp [hc, hf]

/-- What is so between two rounds of Drop. -/
structure DropI (p : Nat) (vs : Nat → Value) (R : Nat → List Int) (f t : Int) (w : World) (k : Nat) (W : World) (vs' : Nat → Value) : Prop where
  ls : Ls W p vs' (Rk R f t k)
  hf : W.heap[w.heap.size]? = some (.cells #[.int .i64 f] 3 (0, 0))
  ht : W.heap[w.heap.size + 1]? = some (.cells #[.int .i64 t] 3 (0, 0))
  hd : W.heap[w.heap.size + 1 + 1]? = some (.cells #[.int .i64 (gone R f t k)] 3 (0, 0))
  hg : W.heap[w.heap.size + 1 + 1 + 1]? = some (.cells #[.func (.func 159) #[] #[.pointer (some ⟨w.heap.size, 0, none⟩), .pointer (some ⟨w.heap.size + 1, 0, none⟩)]] 144 (0, 0))
  lk : Lk p vs vs' w W
  own : ∀ g, Owns vs' g → g < w.heap.size
  plt : p < w.heap.size

theorem drop_step {p : Nat} {vs vs' : Nat → Value} {R : Nat → List Int} {f t : Int} {w W w5 : World} {k B : Nat} {v : Value} (hk : k < 4) (I : DropI p vs R f t w k W vs') (hR : Rw w5 v (left f t (R k))) (hb : blk v = blk (vs' k)) (hk5 : Kp (blk (vs' k)) W w5) {z : Int} (hz : z = gone R f t (k + 1)) :
    KeepsFrom B W ((w5.setCell ⟨w.heap.size + 1 + 1, 0, none⟩ (.int .i64 z)).setCell ⟨p, k, none⟩ v) ∧
    ∃ vs'', DropI p vs R f t w (k + 1) ((w5.setCell ⟨w.heap.size + 1 + 1, 0, none⟩ (.int .i64 z)).setCell ⟨p, k, none⟩ v) vs'' := by
  have hbx : ∀ b, w.heap.size ≤ b → b ∉ blk (vs' k) := fun b hb e => by have := I.own b ⟨k, hk, e⟩; omega
  have hplt := I.plt
  have k6 : Kp ((w.heap.size + 1 + 1) :: blk (vs' k)) W (w5.setCell ⟨w.heap.size + 1 + 1, 0, none⟩ (.int .i64 z)) :=
    ((hk5.mono (T := (w.heap.size + 1 + 1) :: blk (vs' k)) (fun x hx _ => List.mem_cons_of_mem _ hx)).setCell (.inl (by simp)) _)
  have k7 : Kp (p :: (w.heap.size + 1 + 1) :: blk (vs' k)) W ((w5.setCell ⟨w.heap.size + 1 + 1, 0, none⟩ (.int .i64 z)).setCell ⟨p, k, none⟩ v) :=
    (k6.mono (fun x hx _ => List.mem_cons_of_mem _ hx)).setCell (.inl (by simp)) _
  have hd5 := hk5.row (hbx _ (by omega)) I.hd
  have hR6 : Rw (w5.setCell ⟨w.heap.size + 1 + 1, 0, none⟩ (.int .i64 z)) v (left f t (R k)) :=
    hR.keep (S := [w.heap.size + 1 + 1]) ((Kp.refl _ _).setCell (.inl (by simp)) _) (fun g hg hg' => by
      rw [List.mem_singleton] at hg'
      subst hg'
      rw [hb] at hg
      exact hbx _ (by omega) hg)
  have hL := I.ls.storeS (v := v) hk hR6 k6 (fun x hx => by
    rcases List.mem_cons.1 hx with rfl | hx
    · exact ⟨by omega, fun d hd _ e => by have := I.own _ ⟨d, hd, e⟩; omega⟩
    · exact I.ls.rowS hk x hx) (fun g hg => .inl (hb ▸ hg))
  rw [Rk_upd] at hL
  have hne : ∀ b, w.heap.size ≤ b → b ≠ w.heap.size + 1 + 1 → b ∉ p :: (w.heap.size + 1 + 1) :: blk (vs' k) := by
    intro b hb1 hb2 e
    rcases List.mem_cons.1 e with rfl | e
    · omega
    · rcases List.mem_cons.1 e with rfl | e
      · exact hb2 rfl
      · exact hbx _ hb1 e
  refine ⟨keepsFrom_kp k7 ?_, _, hL, k7.row (hne _ (by omega) (by omega)) I.hf, k7.row (hne _ (by omega) (by omega)) I.ht, ?_, k7.row (hne _ (by omega) (by omega)) I.hg, I.lk.step k7 ?_ ?_, ?_, hplt⟩
  · intro x hx o ho
    rcases List.mem_cons.1 hx with rfl | hx
    · rw [I.ls.hp] at ho; cases ho; rfl
    · rcases List.mem_cons.1 hx with rfl | hx
      · rw [I.hd] at ho; cases ho; rfl
      · obtain ⟨cur, hc⟩ := (I.ls.rw k hk).block x hx
        rw [hc] at ho; cases ho; rfl
  · rw [heap_setCell_other _ _ _ _ (by simp; omega), ← hz]
    exact one_setCell hd5
  · intro x hx hxl
    rcases List.mem_cons.1 hx with rfl | hx
    · exact .inl rfl
    · rcases List.mem_cons.1 hx with rfl | hx
      · omega
      · exact .inr ⟨k, hk, hx⟩
  · intro g hg
    rcases owns_upd hg with q | q
    · exact .inl ⟨k, hk, hb ▸ q⟩
    · exact .inl q
  · intro g hg
    rcases owns_upd hg with q | q
    · exact I.own g ⟨k, hk, hb ▸ q⟩
    · exact I.own g q

set_option maxRecDepth 100000 in
set_option maxHeartbeats 4000000 in
theorem drop_any (w : World) (p : Nat) (vs : Nat → Value) (R : Nat → List Int) (f t : Int) (h : Ls w p vs R) (hn : ∀ c, c < 4 → (R c).length ≤ 1000) :
    Calls Tryz.prog 145 #[.pointer (some ⟨p, 0, none⟩), .int .i64 f, .int .i64 t] w fun e w' => e = .returned (.int .i64 (gone R f t 4)) ∧ ∃ vs', Ls w' p vs' (Rk R f t 4) ∧ Lk p vs vs' w w' := by
  refine (callsIn_wide (n := 3)).1 ?_
  refine callsIn_of_wp_marks Tryz.func145 rfl trivial ?_ rfl
  simp only [Tryz.ntmps145, List.size_toArray, List.length_cons, List.length_nil, Nat.reduceAdd, Nat.reduceSub, Array.replicate_succ, Array.replicate_zero, List.push_toArray, List.append_toArray, List.nil_append, List.cons_append]
  have hmf : ∀ (fn : Fn) (first cap : Array Value) (w : World), (Instr.makeFunc fn first cap).run Tryz.prog w = .ok (.func fn first cap) w := fun _ _ _ _ => rfl
  obtain ⟨w3, hw3⟩ : ∃ w3, ((w.alloc (.cells #[.int .i64 f] 3)).alloc (.cells #[.int .i64 t] 3)).alloc (.cells #[.int .i64 0] 3) = w3 := ⟨_, rfl⟩
  have hs3 : w3.heap.size = w.heap.size + 1 + 1 + 1 := by rw [← hw3]; simp
  have hb4 := heap_alloc_new w3 (.cells #[.nilFunc] 144)
  have hst := store_one (cell_of_one hb4) (free_of_one hb4) (v := .func (.func 159) #[] #[.pointer (some ⟨w.heap.size, 0, none⟩), .pointer (some ⟨w.heap.size + 1, 0, none⟩)]) rfl
  have hb5 := one_setCell (u := .func (.func 159) #[] #[.pointer (some ⟨w.heap.size, 0, none⟩), .pointer (some ⟨w.heap.size + 1, 0, none⟩)]) hb4
  have hb0 : w3.heap[w.heap.size]? = some (.cells #[.int .i64 f] 3 (0, 0)) := by
    rw [← hw3, Below.heap_alloc _ _ _ (by simp; omega)]; exact heap_alloc2_old w _ _
  have hb1 : w3.heap[w.heap.size + 1]? = some (.cells #[.int .i64 t] 3 (0, 0)) := by
    rw [← hw3, Below.heap_alloc _ _ _ (by simp)]; exact heap_alloc2_new w _ _
  have hb2 : w3.heap[w.heap.size + 1 + 1]? = some (.cells #[.int .i64 0] 3 (0, 0)) := by
    rw [← hw3]
    have := heap_alloc_new ((w.alloc (.cells #[.int .i64 f] 3)).alloc (.cells #[.int .i64 t] 3)) (.cells #[.int .i64 0] 3)
    simpa using this
  have hk3 : Kp [] w w3 := by rw [← hw3]; exact (((Kp.refl _ _).alloc _).alloc _).alloc _
  have hk34 : Kp [] w3 ((w3.alloc (.cells #[.nilFunc] 144)).setCell ⟨w3.heap.size, 0, none⟩ (.func (.func 159) #[] #[.pointer (some ⟨w.heap.size, 0, none⟩), .pointer (some ⟨w.heap.size + 1, 0, none⟩)])) := ((Kp.refl [] w3).alloc _).setCell (.inr (Nat.le_refl _)) _
  rw [hs3] at hst hb5 hk34
  obtain ⟨w4, hw4⟩ : ∃ w4, ((w3.alloc (.cells #[.nilFunc] 144)).setCell ⟨w.heap.size + 1 + 1 + 1, 0, none⟩ (.func (.func 159) #[] #[.pointer (some ⟨w.heap.size, 0, none⟩), .pointer (some ⟨w.heap.size + 1, 0, none⟩)])) = w4 := ⟨_, rfl⟩
  rw [hw4] at hst hb5 hk34
  rw [← hw3] at hst
  have hk4 := hk3.trans hk34
  have hge4 : w.heap.size ≤ w4.heap.size := hk4.size
  have HI0 : Hid (DropI p vs R f t w 0 w4 vs) := Lib.hid ⟨by rw [Rk_zero]; exact h.keep0 hk4, hk34.row (by simp) hb0, hk34.row (by simp) hb1, hk34.row (by simp) hb2, hb5, Lk.of_kp hk4, fun g hg => h.olt hg, h.lt⟩
  clear hb0 hb1 hb2 hb4 hb5 hk3 hk34 hk4 hw3 hw4 hs3
  gi_wp2
  refine range_rows rfl (by omega) trivial p rfl rfl (fun k W => ∃ vs', DropI p vs R f t w k W vs') (fun W => False)
    (fun s A B row hs hg hr => ?own) (fun s A B row hs hg hr => hs) ⟨vs, HI0.out⟩
    (fun k => { tmps := #[.pointer (some ⟨p, 0, none⟩), .int .i64 f, .int .i64 t, undef, .pointer (some ⟨w.heap.size, 0, none⟩), .pointer (some ⟨w.heap.size + 1, 0, none⟩), .int .i64 0, .pointer (some ⟨w.heap.size + 1 + 1, 0, none⟩), .pointer (some ⟨w.heap.size + 1 + 1 + 1, 0, none⟩), .pointer (some ⟨p, k, none⟩), undef, .func (.func 159) #[] #[.pointer (some ⟨w.heap.size, 0, none⟩), .pointer (some ⟨w.heap.size + 1, 0, none⟩)], .pointer (some ⟨p, 0, none⟩), .func (.func 160) #[.pointer (some ⟨p, 0, none⟩)] #[], .pointer (some ⟨p, k, none⟩), undef, undef, undef, undef, undef, undef, undef, undef, undef, undef, undef, undef, undef, undef, undef, undef, undef, undef], defers := [] }) ?assign ?body ?done ?stop
  case own =>
    obtain ⟨vs', hI⟩ := hs
    exact ⟨vs', hI.ls.putOwn hg hr, row_putOwn hI.hf hg hr, row_putOwn hI.ht hg hr, row_putOwn hI.hd hg hr, row_putOwn hI.hg hg hr, hI.lk.putOwn (by omega) hg hr, hI.own, hI.plt⟩
  case assign =>
    intro l k W K hK
    gi_wp2
    exact hK
  case body =>
    rintro l k W hk ⟨vs', hI⟩
    have hp0 := hI.ls.cell hk
    have hf0 := cell_of_one hI.hf
    have ht0 := cell_of_one hI.ht
    have hg0 := cell_of_one hI.hg
    have hbx : ∀ b, w.heap.size ≤ b → b ∉ blk (vs' k) := fun b hb e => by have := hI.own b ⟨k, hk, e⟩; omega
    have hRk := hI.ls.rw k hk
    rw [Rk_at] at hRk
    have hdel : ∀ W1, Kp [] W W1 → Calls Tryz.prog 161 #[vs' k, .func (.func 159) #[] #[.pointer (some ⟨w.heap.size, 0, none⟩), .pointer (some ⟨w.heap.size + 1, 0, none⟩)]] W1 _ :=
      fun W1 hk1 => deleteFunc_any W1 (vs' k) (R k) 159 #[.pointer (some ⟨w.heap.size, 0, none⟩), .pointer (some ⟨w.heap.size + 1, 0, none⟩)] (goes f t) (hRk.keep0 hk1) (hn k hk) (fun _ _ => rfl)
        (fun x w2 hk2 => goes_any w2 f t x _ _ (cell_of_one (hk2.row (hbx _ (Nat.le_refl _)) (hk1.row (by simp) hI.hf))) (cell_of_one (hk2.row (hbx _ (Nat.le_succ _)) (hk1.row (by simp) hI.ht))))
    have hd0 := cell_of_one hI.hd
    have hfd := free_of_one hI.hd
    have hfp := hI.ls.free k
    obtain ⟨ao, cap, hv⟩ := hRk.form
    have hgl := gone_le R f t hn k (by omega)
    have hrl := hn k hk
    have hll := left_le f t (R k)
    have hpd : p ≠ w.heap.size + 1 + 1 := by have := hI.plt; omega
    have hpo : p ∉ blk (vs' k) := fun e => hI.ls.pne ⟨k, hk, e⟩
    have hdo := hbx (w.heap.size + 1 + 1) (by omega)
    have HI := Lib.hid hI
    rw [hv] at hp0 hdel hpo hdo
    have HV := Lib.hid hv
    have HG := Lib.hid (show gone R f t (k + 1) = gone R f t k + ((R k).length - (left f t (R k)).length) from rfl)
    change ∀ W1, Kp [] W W1 → Calls _ _ _ W1 (fun e w' => ∃ v', e = .returned v' ∧ Rw w' v' (left f t (R k)) ∧ blk v' = _ ∧ Kp _ W1 w' ∧ ∃ ao cap, v' = .slice ao (left f t (R k)).length cap) at hdel
    obtain ⟨n5, hn5⟩ : ∃ n, n = (left f t (R k)).length := ⟨_, rfl⟩
    obtain ⟨n4, hn4⟩ : ∃ n, n = (R k).length := ⟨_, rfl⟩
    obtain ⟨n3, hn3⟩ : ∃ n, n = gone R f t k := ⟨_, rfl⟩
    have H5 := Lib.hid hn5
    have H4 := Lib.hid hn4
    have H3 := Lib.hid hn3
    rw [← hn5] at hdel hll
    rw [← hn4] at hp0 hdel hll hrl hpo hdo
    rw [← hn3] at hd0 hgl
    clear hI HI0 hst hmf h hRk hbx hv hn3 hn4 hn5 hn
    have hmx : Tryz.prog.follows .mixedOrders = true := by kernel_rfl
    gi_wp2
    refine round_region_tail 4 hmx (by kernel_rfl) (by kernel_rfl) ?_
    simp only [List.take_succ_cons, List.take_zero, List.drop_succ_cons, List.drop_zero]
    repeat still_step
    refine wpStill_nil ?_
    gi_wp2_with (refine ⟨trivial, ?_⟩; gi_at_call 161; refine (CallsIn.inRound l (callsIn_wide.2 (hdel _ (Kp.refl _ _).drew))).mono ?_; rintro e w5 ⟨v', rfl, hR5, hb5, hk5, ao5, cap5, rfl⟩)
    have hk6 := hk5.drew
    have hk7 : Kp (blk (.slice ao n4 cap)) W w5.drew := ((kp_drewN (S := []) W 1).mono (by simp)).trans hk6
    have hR6 : Rw w5.drew (.slice ao5 n5 cap5) (left f t (R k)) := hR5.keep0 ((Kp.refl _ _).drew)
    have c6 := cell_of_one (hk7.row hdo HI.out.hd)
    rw [← H3.out] at c6
    have f6 := free_of_one (hk7.row hdo HI.out.hd)
    have c7 := (World.cell?_of_block (a := ⟨p, k, none⟩) (hk7.block p HI.out.ls.lt hpo)).trans hp0
    have f7 := (World.frozen?_of_block (a := ⟨p, k, none⟩) (hk7.block p HI.out.ls.lt hpo)).trans hfp
    have hz : ((n3 : Int) + ((n4 : Int) - (n5 : Int))) = ((gone R f t (k + 1) : Nat) : Int) := by have := HG.out; have := H5.out; have := H4.out; have := H3.out; omega
    have hb6 : blk (.slice ao5 n5 cap5) = blk (vs' k) := by rw [HV.out, ← H4.out]; exact hb5
    have hk8 : Kp (blk (vs' k)) W w5.drew := by rw [HV.out, ← H4.out]; exact hk7
    have fin := Lib.hid (drop_step (B := w4.heap.size) hk HI.out hR6 hb6 hk8 hz)
    clear hR5 hR6 hb5 hb6 hk5 hk6 hk7 hk8 hz hp0 hf0 ht0 hg0 hfd hfp hd0 hdel HI HV HG H3 H4 H5
    refine round_region_tail 9 hmx (by kernel_rfl) (by kernel_rfl) ?_
    simp only [List.take_succ_cons, List.take_zero, List.drop_succ_cons, List.drop_zero]
    generalize w5.drew = w6 at c6 f6 c7 f7 fin ⊢
    repeat still_step
    refine wpStill_nil ?_
    gi_wp2
    exact fin.out
  case done =>
    rintro D W hD ⟨vs', hI⟩ hK
    have hcr := cell_of_one hI.hd
    have HI := Lib.hid hI
    clear hI HI0 hst hmf
    gi_wp2
    refine ⟨by simp, .inl ⟨_, _, rfl, run_takeDeferred hK, ?_⟩⟩
    refine ⟨_, results_tmp rfl _ _ _, rfl, vs', HI.out.ls.putOwn (B := w4.heap.size) (grownBy_putObj' _ D _) (fun r e => by cases e; exact ⟨hD, _, hK, rfl⟩), HI.out.lk.putOwn hge4 (grownBy_putObj' _ D _) (fun r e => by cases e; exact ⟨hD, _, hK, rfl⟩)⟩
  case stop =>
    rintro D W hD hI hK
    exact hI.elim

end Go.Proofs.YticbnckikkdknaaGreatDoor.Li

namespace Go.Proofs.YticbnckikkdknaaGreatDoor.Li
set_option linter.unusedVariables false
set_option linter.unusedSimpArgs false
open Go.RowKit

theorem row_bad (w : World) (p : Nat) (c : Int) (h : c < 0 ∨ 4 ≤ c) : Calls Tryz.prog 73 #[.pointer (some ⟨p, 0, none⟩), .int .i64 c] w fun e w' => e = .returned (.tuple #[.pointer none, .int .i64 2]) ∧ w' = w := by
  rcases h with h | h
  · go_enter Tryz.func73, Tryz.ntmps73
    go_wp2
    go_ret2
    exact ⟨rfl, rfl⟩
  · have h1 : ¬ c < 0 := by omega
    go_enter Tryz.func73, Tryz.ntmps73
    go_wp2
    go_ret2
    exact ⟨rfl, rfl⟩

theorem row_good (w : World) (p c : Nat) (h : c < 4) : Calls Tryz.prog 73 #[.pointer (some ⟨p, 0, none⟩), .int .i64 c] w fun e w' => e = .returned (.tuple #[.pointer (some ⟨p, c, none⟩), .int .i64 0]) ∧ w' = w := by
  go_enter Tryz.func73, Tryz.ntmps73
  go_wp2
  go_ret2
  exact ⟨rfl, rfl⟩

theorem new_any (w : World) : Calls Tryz.prog 57 #[] w fun e w' => e = .returned (.pointer (some ⟨w.heap.size, 0, none⟩)) ∧ Ls w' w.heap.size (fun _ => .slice none 0 0) (fun _ => []) ∧ Kp [] w w' := by
  go_enter Tryz.func57, Tryz.ntmps57
  go_wp2
  go_ret
  refine ⟨rfl, ⟨heap_alloc_new w _, fun _ _ => Rw.nil _, fun c d hc hd hcd g hg => by simp [blk_nil] at hg⟩, (Kp.refl _ _).alloc _⟩

theorem len_good (w : World) (p c : Nat) (vs : Nat → Value) (R : Nat → List Int) (L : Ls w p vs R) (h : c < 4) (hn : (R c).length ≤ 1000) : Calls Tryz.prog 40 #[.pointer (some ⟨p, 0, none⟩), .int .i64 c] w fun e w' => e = .returned (.int .i64 (R c).length) ∧ w' = w := by
  have hr := row_good w p c h
  have hc := L.cell h
  obtain ⟨ao, cap, hv⟩ := (L.rw c h).form
  rw [hv] at hc
  generalize (R c).length = n at hc hn
  clear L hv
  go_enter Tryz.func40, Tryz.ntmps40
  go_wp2_with ((with_reducible refine hr.mono ?_); rintro e w1 ⟨rfl, rfl⟩)
  go_ret
  exact ⟨rfl, rfl⟩

theorem pop_bad (w : World) (p : Nat) (c : Int) (h : c < 0 ∨ 4 ≤ c) : Calls Tryz.prog 164 #[.pointer (some ⟨p, 0, none⟩), .int .i64 c] w fun e w' => e = .returned (.tuple #[.int .i64 0, .int .i64 2]) ∧ w' = w := by
  have hr := row_bad w p c h
  clear h
  go_enter Tryz.func164, Tryz.ntmps164
  go_wp2_with ((with_reducible refine hr.mono ?_); rintro e w1 ⟨rfl, rfl⟩)
  go_ret2
  exact ⟨rfl, rfl⟩
theorem pop_empty (w : World) (p c : Nat) (vs : Nat → Value) (R : Nat → List Int) (L : Ls w p vs R) (h : c < 4) (hn : R c = []) : Calls Tryz.prog 164 #[.pointer (some ⟨p, 0, none⟩), .int .i64 c] w fun e w' => e = .returned (.tuple #[.int .i64 0, .int .i64 5]) ∧ w' = w := by
  have hr := row_good w p c h
  have hc := L.cell h
  obtain ⟨ao, cap, hv⟩ := (L.rw c h).form
  rw [hv, hn] at hc
  change w.cell? _ = some (.slice ao 0 cap) at hc
  clear L hv hn
  go_enter Tryz.func164, Tryz.ntmps164
  go_wp2_with ((with_reducible refine hr.mono ?_); rintro e w1 ⟨rfl, rfl⟩)
  go_ret2
  exact ⟨rfl, rfl⟩

/-- Pop of a row that has something: the last one, which is there no more. -/
theorem pop_good (w : World) (p c : Nat) (vs : Nat → Value) (R : Nat → List Int) (L : Ls w p vs R) (h : c < 4) (xs : List Int) (x : Int) (hx : R c = xs ++ [x]) (hn : (R c).length ≤ 1000) :
    Calls Tryz.prog 164 #[.pointer (some ⟨p, 0, none⟩), .int .i64 c] w fun e w' => e = .returned (.tuple #[.int .i64 x, .int .i64 0]) ∧ ∃ vs', Ls w' p vs' (upd R c xs) ∧ Lk p vs vs' w w' := by
  have hr := row_good w p c h
  have hc := L.cell h
  have hf := L.free c
  have hR := L.rw c h
  rw [hx] at hR hn
  have hl : (xs ++ [x]).length = xs.length + 1 := by simp
  rcases hR with ⟨_, h0⟩ | ⟨g, cap, cur, hv, hg, h1, h2, h3, h4⟩
  · simp at h0
  · have hcx := row_cell hg h4 (i := xs.length) (by simp)
    have ex : (xs ++ [x]).getD xs.length 0 = x := by simp [List.getD]
    rw [ex] at hcx
    have hcut : Rw w (.slice (some ⟨g, 0, none⟩) xs.length cap) xs := by
      refine .inr ⟨g, cap, cur, rfl, hg, by omega, h2, h3, ?_⟩
      have := row_cut h4 (i := xs.length) (by simp)
      simpa using this
    have hb : ∀ y ∈ blk (.slice (some ⟨g, 0, none⟩) xs.length cap), y ∈ blk (vs c) ∨ w.heap.size ≤ y := by
      intro y hy
      rw [hv]
      exact .inl hy
    have fin := Lib.hid (And.intro (L.store h hcut (Kp.refl _ _) hb) (Lk.store (vs := vs) (p := p) h (Kp.refl _ w) hb))
    rw [hl] at h1 hv hn
    rw [hv] at hc
    clear L hv hg h4 ex hcut hb hx h3 hl
    generalize xs.length = n at hc hn hcx h1 fin
    go_enter Tryz.func164, Tryz.ntmps164
    go_wp2_with ((with_reducible refine hr.mono ?_); rintro e w1 ⟨rfl, rfl⟩)
    go_ret2
    exact ⟨rfl, _, fin.out.1, fin.out.2⟩

end Go.Proofs.YticbnckikkdknaaGreatDoor.Li

namespace Go.Proofs.YticbnckikkdknaaGreatDoor.Li
set_option linter.unusedVariables false
set_option linter.unusedSimpArgs false
set_option maxRecDepth 100000
open Go.RowKit

theorem int_info : (Tryz.prog.info? 3).map (fun i => (i.zero, i.size, i.bytes)) = some (some (.int .i64 0), 1, 8) := by kernel_rfl
theorem made_ints (n : Nat) : madeCells #[.int .i64 0] n = (ints (List.replicate n 0)).toArray := by
  apply Array.ext'
  rw [toList_madeCells_one]
  simp [ints]
theorem make_ints (n : Nat) (h2 : n ≤ 4096) (w : World) : (Instr.makeSlice 46 (.int .i64 (n : Int)) (.int .i64 (n : Int))).run Tryz.prog w = .ok (.slice (some ⟨w.heap.size, 0, none⟩) n n) (w.alloc (.cells (ints (List.replicate n 0)).toArray 3)) := by
  obtain ⟨i, hi, hz0, hz1, hz2⟩ := info_parts int_info
  have := run_make (P := Tryz.prog) w 46 3 i (.int .i64 0) Tryz.underlying46 hi hz0 .i64 .i64 n n (by omega) (Int.le_refl _) (by rw [hz2]; omega) (by omega)
  rw [this, hz1]
  simp [Value.cells, made_ints]

/-- copy of a row into one that has just been made. -/
theorem copy_row (w : World) (v : Value) (xs : List Int) (h : Rw w v xs) :
    ∃ w2, (∀ ty, (Builtin.copy_ #[46, 46] ty #[.slice (some ⟨w.heap.size, 0, none⟩) xs.length xs.length, v]).run Tryz.prog (w.alloc (.cells (ints (List.replicate xs.length 0)).toArray 3)) = .ok (goInt xs.length) w2) ∧
      Kp [] w w2 ∧ w2.heap[w.heap.size]? = some (.cells (ints xs).toArray 3 (0, 0)) := by
  have hk := (Kp.refl [] w).alloc (.cells (ints (List.replicate xs.length 0)).toArray 3)
  have hg := heap_alloc_new w (.cells (ints (List.replicate xs.length 0)).toArray 3)
  rcases h with ⟨rfl, rfl⟩ | ⟨g, cap, cur, rfl, hgc, h1, h2, h3, h4⟩
  · exact ⟨_, fun ty => Go.run_copy_nil (hu := Tryz.underlying46) (hs := by kernel_rfl) .., hk, hg⟩
  · refine ⟨_, fun ty => ?_, hk.setRow (.inr (Nat.le_refl _)) (ints xs).toArray, setRow_heap _ _ _ _ _ _ hg⟩
    have hcs : (ints xs).length = Nat.min xs.length xs.length := by simp [ints]
    have hgc' := hk.row (by simp) hgc
    have := run_copy_row (P := Tryz.prog) (w.alloc (.cells (ints (List.replicate xs.length 0)).toArray 3)) 46 46 ty 3 w.heap.size 0 xs.length xs.length ⟨g, 0, none⟩ xs.length cap (ints (List.replicate xs.length 0)).toArray 3 (ints xs)
      Tryz.underlying46 (by kernel_rfl) hg hcs
      (fun j v hv => by
        rw [Addr.add_lit, Nat.zero_add]
        have hj : j < xs.length := by
          have := (List.getElem?_eq_some_iff.1 hv).1
          simpa [ints] using this
        rw [row_cell hgc' h4 hj, ← ints_get xs j hj]; exact hv)
      (by simp [ints]) (by intro v hv; obtain ⟨x, _, rfl⟩ := List.mem_map.1 hv; rfl)
    rw [this]
    congr 1
    · simp [ints]
    · simp [ints]

theorem kp_fresh {w w2 w3 : World} {n cap : Nat} (h : Kp [] w w2) (k : Kp (blk (.slice (some ⟨w.heap.size, 0, none⟩) n cap)) w2 w3) : Kp [] w w3 :=
  ⟨k.os.trans h.os, k.tape.trans h.tape, k.output.trans h.output, Nat.le_trans h.size k.size, fun i hi hn => (k.block i (Nat.lt_of_lt_of_le hi h.size) (by rw [blk_some, List.mem_singleton]; omega)).trans (h.block i hi hn)⟩

/-- All: a row of its own, the one that was put last first. -/
theorem all_good (w : World) (p c : Nat) (vs : Nat → Value) (R : Nat → List Int) (L : Ls w p vs R) (h : c < 4) (hn : (R c).length ≤ 1000) : Calls Tryz.prog 45 #[.pointer (some ⟨p, 0, none⟩), .int .i64 c] w fun e w' =>
    e = .returned (.slice (some ⟨w.heap.size, 0, none⟩) (R c).length (R c).length) ∧ Rw w' (.slice (some ⟨w.heap.size, 0, none⟩) (R c).length (R c).length) (R c).reverse ∧ Kp [] w w' := by
  have hr := row_good w p c h
  have hc := L.cell h
  have hR := L.rw c h
  have hmk := make_ints (R c).length (by omega) w
  obtain ⟨w2, hcp, hk2, hg2⟩ := copy_row w (vs c) (R c) hR
  obtain ⟨ao, cap, hv⟩ := hR.form
  have hrow : Rw w2 (.slice (some ⟨w.heap.size, 0, none⟩) (R c).length (R c).length) (R c) := .inr ⟨_, _, _, rfl, hg2, Nat.le_refl _, by unfold maxLen; omega, by simp [ints], by rw [← ints_len (R c)]; simp⟩
  have hrev := reverse_any w2 _ _ hrow hn
  have hca := (hk2.row (S := []) (by simp) L.hp)
  have hc2 : w2.cell? ⟨p, c, none⟩ = some (vs c) := (World.cell?_of_block (a := ⟨p, c, none⟩) (hk2.block p L.lt (by simp))).trans hc
  have hc3 : (w.alloc (.cells (ints (List.replicate (R c).length 0)).toArray 3)).cell? ⟨p, c, none⟩ = some (vs c) := (World.cell?_of_block (a := ⟨p, c, none⟩) (Below.heap_alloc _ _ _ L.lt)).trans hc
  rw [hv] at hc hc2 hc3 hcp
  have HK := Lib.hid hk2
  clear hk2 hg2 hrow hv hR L hca
  generalize (R c).reverse = ys at *
  generalize (R c).length = n at *
  generalize w.alloc (.cells (ints (List.replicate n 0)).toArray 3) = w1 at hmk hcp hc3
  go_enter Tryz.func45, Tryz.ntmps45
  go_wp2_with ((with_reducible refine hr.mono ?_); rintro e w1 ⟨rfl, rfl⟩)
  refine hrev.mono ?_
  rintro e w3 ⟨⟨u, rfl⟩, hR3, hk3⟩
  have H3 := Lib.hid (And.intro hR3 (kp_fresh HK.out hk3))
  clear hR3 hk3
  go_wp2
  go_ret
  exact ⟨rfl, H3.out.1, H3.out.2⟩

theorem news_one (w : World) (z : Int) (H : Nat) (hH : H = w.heap.size) : ∀ j u, [Value.int .i64 z][j]? = some u → (w.alloc (.cells #[.int .i64 z] 3)).cell? ((⟨H, 0, none⟩ : Addr).add j) = some u := by
  subst hH
  intro j u hj
  match j, hj with
  | 0, hj => simp at hj; subst hj; simp [Addr.add]
theorem one_cell (z : Int) : ∀ u ∈ [Value.int .i64 z], u.oneCell' = true := by
  intro u hu; simp at hu; subst hu; rfl

theorem push_bad (w : World) (p : Nat) (c x : Int) (h : c < 0 ∨ 4 ≤ c) : Calls Tryz.prog 144 #[.pointer (some ⟨p, 0, none⟩), .int .i64 c, .int .i64 x] w fun e w' => e = .returned (.int .i64 2) ∧ w' = w := by
  have hr := row_bad w p c h
  clear h
  go_enter Tryz.func144, Tryz.ntmps144
  go_wp2_with ((with_reducible refine hr.mono ?_); rintro e w1 ⟨rfl, rfl⟩)
  go_ret
  exact ⟨rfl, rfl⟩
theorem push_low (w : World) (p c : Nat) (x : Int) (h : c < 4) (hx : x < 1) : Calls Tryz.prog 144 #[.pointer (some ⟨p, 0, none⟩), .int .i64 c, .int .i64 x] w fun e w' => e = .returned (.int .i64 2) ∧ w' = w := by
  have hr := row_good w p c h
  clear h
  go_enter Tryz.func144, Tryz.ntmps144
  go_wp2_with ((with_reducible refine hr.mono ?_); rintro e w1 ⟨rfl, rfl⟩)
  go_ret
  exact ⟨rfl, rfl⟩
theorem push_has (w : World) (p c : Nat) (vs : Nat → Value) (R : Nat → List Int) (L : Ls w p vs R) (hn : ∀ c, c < 4 → (R c).length ≤ 1000) (x : Int) (h : c < 4) (hx : 1 ≤ x) (hh : hasB R x = true) :
    Calls Tryz.prog 144 #[.pointer (some ⟨p, 0, none⟩), .int .i64 c, .int .i64 x] w fun e w' => e = .returned (.int .i64 6) ∧ Kp [] w w' := by
  have hr := row_good w p c h
  have hs := has_any w p vs R x L hn
  rw [hh] at hs
  clear h L hn hh
  go_enter Tryz.func144, Tryz.ntmps144
  go_wp2_with (first
    | ((with_reducible refine hr.mono ?_); rintro e w1 ⟨rfl, rfl⟩)
    | ((with_reducible refine hs.mono ?_); rintro e w1 ⟨rfl, hk⟩; have HK := Lib.hid hk; clear hk))
  go_ret
  exact ⟨rfl, HK.out⟩

theorem push_good (w : World) (p c : Nat) (vs : Nat → Value) (R : Nat → List Int) (L : Ls w p vs R) (hn : ∀ c, c < 4 → (R c).length ≤ 1000) (x : Int) (h : c < 4) (hx : 1 ≤ x) (hh : hasB R x = false) :
    Calls Tryz.prog 144 #[.pointer (some ⟨p, 0, none⟩), .int .i64 c, .int .i64 x] w fun e w' => e = .returned (.int .i64 0) ∧ ∃ vs', Ls w' p vs' (upd R c (R c ++ [x])) ∧ Lk p vs vs' w w' := by
  have hr := row_good w p c h
  have hs := has_any w p vs R x L hn
  rw [hh] at hs
  have hnc := hn c h
  obtain ⟨i0, hi, hz0, hz1, hz2⟩ := info_parts int_info
  have HL := Lib.hid (And.intro L h)
  clear h L hn hh
  go_enter Tryz.func144, Tryz.ntmps144
  go_wp2_with ((with_reducible refine hr.mono ?_); rintro e w1 ⟨rfl, rfl⟩)
  refine hs.mono ?_
  rintro e w2 ⟨rfl, hk2⟩
  have L2 := HL.out.1.keep0 hk2
  have hc2 := L2.cell HL.out.2
  have hR2 := L2.rw c HL.out.2
  have HK := Lib.hid (Lk.of_kp (p := p) (vs := vs) hk2)
  have hown := hR2.own
  have hplt := L2.lt
  have H2 := Lib.hid L2
  have HR := Lib.hid hR2
  clear hk2 L2 hR2
  go_wp2_with (first
    | (at_builtin; refine wpList_append_lies _ rfl _ _ 46 rfl 0 3 i0 (.int .i64 0) 1 8 Tryz.underlying46 hi hz0 hz1 hz2 rfl (by decide) _ _ _ rfl (hown.alloc _) ⟨w2.heap.size, 0, none⟩ 1 1 [.int .i64 x] rfl rfl (news_one w2 x _ rfl) (one_cell _) (by decide) (by unfold maxLen; omega) (by omega) (by simp) _ rfl ?_
       intro g5 cap5 w5 hown5 hg5 hat5 hlt5
       have e5 : (R c ++ [x]).length = (R c).length + 1 := by simp
       have hR5 : Rw w5 (.slice (some ⟨g5, 0, none⟩) ((R c).length + 1) cap5) (R c ++ [x]) := Rw.of_own (base := 0) (by rw [e5, ints_snoc]; exact hown5)
       have hk5 : Kp (blk (vs c)) w2 w5 := ((Kp.refl _ _).alloc _).trans (kp_of_row hg5)
       have hb5 : ∀ y ∈ blk (.slice (some ⟨g5, 0, none⟩) ((R c).length + 1) cap5), y ∈ blk (vs c) ∨ w2.heap.size ≤ y := (fun y hy => by
        rw [blk_some, List.mem_singleton] at hy
        subst hy
        rcases hat5 with q | q
        · have q' : (vs c).ownBlock = some y := q
          left; unfold blk; rw [q']; simp
        · right; rw [q]; simp)
       have fin := Lib.hid (And.intro (H2.out.store HL.out.2 hR5 hk5 hb5) (HK.out.trans (Lk.store (p := p) HL.out.2 hk5 hb5)))
       have hpo : p ∉ blk (vs c) := fun e => H2.out.pne ⟨c, HL.out.2, e⟩
       have c7 := (World.cell?_of_block (a := ⟨p, c, none⟩) (hk5.block p hplt hpo)).trans hc2
       have f7 := (World.frozen?_of_block (a := ⟨p, c, none⟩) (hk5.block p hplt hpo)).trans (H2.out.free c)
       clear hown5 hg5 hat5 hlt5 e5 hR5 hk5 hb5 hpo hc2 hown))
  go_ret
  exact ⟨rfl, _, fin.out.1, fin.out.2⟩

end Go.Proofs.YticbnckikkdknaaGreatDoor.Li

namespace Go.Proofs.YticbnckikkdknaaGreatDoor.Li
set_option linter.unusedVariables false
set_option linter.unusedSimpArgs false
open Go.RowKit

def badC (c : Int) : Bool := decide (c < 0) || decide (4 ≤ c)
def pushE (R : Nat → List Int) (c x : Int) : Int := if badC c then 2 else if x < 1 then 2 else if hasB R x then 6 else 0
def pushR (R : Nat → List Int) (c x : Int) : Nat → List Int := if pushE R c x = 0 then upd R c.toNat (R c.toNat ++ [x]) else R
def popE (R : Nat → List Int) (c : Int) : Int := if badC c then 2 else if R c.toNat = [] then 5 else 0
def popX (R : Nat → List Int) (c : Int) : Int := if popE R c = 0 then (R c.toNat).getLastD 0 else 0
def popR (R : Nat → List Int) (c : Int) : Nat → List Int := if popE R c = 0 then upd R c.toNat (R c.toNat).dropLast else R
def dropN (R : Nat → List Int) (f t : Int) : Nat := gone R f t 4
def dropR (R : Nat → List Int) (f t : Int) : Nat → List Int := Rk R f t 4

theorem badC_iff {c : Int} : badC c = true ↔ c < 0 ∨ 4 ≤ c := by simp [badC]
theorem goodC {c : Int} (h : badC c = false) : ∃ k : Nat, c = k ∧ k < 4 := by
  simp only [badC, Bool.or_eq_false_iff, decide_eq_false_iff_not] at h
  exact ⟨c.toNat, by omega, by omega⟩

/-- No row is longer than N. -/
def Len (R : Nat → List Int) (N : Nat) : Prop := ∀ c, c < 4 → (R c).length ≤ N
theorem Len.push {R : Nat → List Int} {N : Nat} (h : Len R N) (c x : Int) : Len (pushR R c x) (N + 1) := by
  intro d hd
  have := h d hd
  unfold pushR
  split
  · by_cases e : d = c.toNat
    · subst e; rw [upd_same, List.length_append]; simp; omega
    · rw [upd_ne _ _ _ _ e]; omega
  · omega
theorem Len.pop {R : Nat → List Int} {N : Nat} (h : Len R N) (c : Int) : Len (popR R c) N := by
  intro d hd
  have := h d hd
  unfold popR
  split
  · by_cases e : d = c.toNat
    · subst e; rw [upd_same, List.length_dropLast]; omega
    · rw [upd_ne _ _ _ _ e]; omega
  · omega
theorem Len.drop {R : Nat → List Int} {N : Nat} (h : Len R N) (f t : Int) : Len (dropR R f t) N := by
  intro d hd
  have := h d hd
  have := left_le f t (R d)
  unfold dropR Rk
  split <;> omega
theorem Len.mono {R : Nat → List Int} {N M : Nat} (h : Len R N) (hm : N ≤ M) : Len R M := fun d hd => Nat.le_trans (h d hd) hm

theorem push_is (w : World) (p : Nat) (vs : Nat → Value) (R : Nat → List Int) (c x : Int) (L : Ls w p vs R) (hn : Len R 1000) :
    Calls Tryz.prog 144 #[.pointer (some ⟨p, 0, none⟩), .int .i64 c, .int .i64 x] w fun e w' => e = .returned (.int .i64 (pushE R c x)) ∧ ∃ vs', Ls w' p vs' (pushR R c x) ∧ Lk p vs vs' w w' := by
  unfold pushR pushE
  cases hb : badC c with
  | true =>
    simp only [if_true, show ¬ ((2 : Int) = 0) from by decide, if_false]
    refine (push_bad w p c x (badC_iff.1 hb)).mono ?_
    rintro e w' ⟨rfl, rfl⟩
    exact ⟨rfl, vs, L, Lk.of_kp (Kp.refl _ _)⟩
  | false =>
    obtain ⟨k, rfl, hk⟩ := goodC hb
    simp only [Bool.false_eq_true, if_false, Int.toNat_natCast]
    by_cases hx : x < 1
    · simp only [if_pos hx, show ¬ ((2 : Int) = 0) from by decide, if_false]
      refine (push_low w p k x hk hx).mono ?_
      rintro e w' ⟨rfl, rfl⟩
      exact ⟨rfl, vs, L, Lk.of_kp (Kp.refl _ _)⟩
    · simp only [if_neg hx]
      cases hh : hasB R x with
      | true =>
        simp only [if_true, show ¬ ((6 : Int) = 0) from by decide, if_false]
        refine (push_has w p k vs R L hn x hk (by omega) hh).mono ?_
        rintro e w' ⟨rfl, hk'⟩
        exact ⟨rfl, vs, L.keep0 hk', Lk.of_kp hk'⟩
      | false =>
        simp only [Bool.false_eq_true, if_false, if_true]
        exact push_good w p k vs R L hn x hk (by omega) hh

theorem pop_is (w : World) (p : Nat) (vs : Nat → Value) (R : Nat → List Int) (c : Int) (L : Ls w p vs R) (hn : Len R 1000) :
    Calls Tryz.prog 164 #[.pointer (some ⟨p, 0, none⟩), .int .i64 c] w fun e w' => e = .returned (.tuple #[.int .i64 (popX R c), .int .i64 (popE R c)]) ∧ ∃ vs', Ls w' p vs' (popR R c) ∧ Lk p vs vs' w w' := by
  unfold popX popR popE
  cases hb : badC c with
  | true =>
    simp only [if_true, show ¬ ((2 : Int) = 0) from by decide, if_false]
    refine (pop_bad w p c (badC_iff.1 hb)).mono ?_
    rintro e w' ⟨rfl, rfl⟩
    exact ⟨rfl, vs, L, Lk.of_kp (Kp.refl _ _)⟩
  | false =>
    obtain ⟨k, rfl, hk⟩ := goodC hb
    simp only [Bool.false_eq_true, if_false, Int.toNat_natCast]
    by_cases hx : R k = []
    · simp only [if_pos hx, show ¬ ((5 : Int) = 0) from by decide, if_false]
      refine (pop_empty w p k vs R L hk hx).mono ?_
      rintro e w' ⟨rfl, rfl⟩
      exact ⟨rfl, vs, L, Lk.of_kp (Kp.refl _ _)⟩
    · simp only [if_neg hx, if_true]
      have e := List.dropLast_concat_getLast hx
      have e2 : (R k).getLastD 0 = (R k).getLast hx := by rw [List.getLastD_eq_getLast?, List.getLast?_eq_some_getLast hx]; rfl
      rw [e2]
      exact pop_good w p k vs R L hk _ _ e.symm (hn k hk)

theorem drop_is (w : World) (p : Nat) (vs : Nat → Value) (R : Nat → List Int) (f t : Int) (L : Ls w p vs R) (hn : Len R 1000) :
    Calls Tryz.prog 145 #[.pointer (some ⟨p, 0, none⟩), .int .i64 f, .int .i64 t] w fun e w' => e = .returned (.int .i64 (dropN R f t)) ∧ ∃ vs', Ls w' p vs' (dropR R f t) ∧ Lk p vs vs' w w' := drop_any w p vs R f t L hn

/-- A list of the caller's own: whatever it may turn lies at or beyond B. -/
structure Bag (w0 : World) (p : Nat) (R : Nat → List Int) (w : World) (vs : Nat → Value) : Prop where
  ls : Ls w p vs R
  bel : Below w0.heap.size w0 w
  hp : w0.heap.size ≤ p
  ho : ∀ g, Owns vs g → w0.heap.size ≤ g
theorem Bag.step {w0 w w' : World} {p : Nat} {R R' : Nat → List Int} {vs vs' : Nat → Value} (b : Bag w0 p R w vs) (L : Ls w' p vs' R') (k : Lk p vs vs' w w') : Bag w0 p R' w' vs' :=
  ⟨L, b.bel.trans (k.below b.bel.size b.hp b.ho), b.hp, fun g hg => by
    rcases k.own g hg with q | q
    · exact b.ho g q
    · exact Nat.le_trans b.bel.size q⟩
theorem Bag.on {w0 w w' : World} {p : Nat} {R : Nat → List Int} {vs : Nat → Value} (b : Bag w0 p R w vs) (k : Kp [] w w') : Bag w0 p R w' vs := b.step (b.ls.keep0 k) (Lk.of_kp k)

end Go.Proofs.YticbnckikkdknaaGreatDoor.Li
