/- A range over 'there', AppendSeq, Collect, All. Conditions: as each theorem states them. -/
import Derived.Test.YtmbhhadghiojeaaGreatRtA
namespace Go.Proofs.YtmbhhadghiojeaaGreat
set_option linter.unusedVariables false
set_option linter.unusedSimpArgs false
open Go.RowKit Go.Shelf
attribute [local go_sem] Oper.semAt_some

/-- A relation that speaks of blocks of cells, and of what lies below B, abides the loop's own turns. -/
theorem kp_putOwn {S : List Nat} {B : Nat} {w W W' : World} {row : Option Nat} (h : Kp S w W) (hw : w.heap.size ≤ B) (hg : W.grownBy W' row) (hr : ∀ r, row = some r → B ≤ r ∧ ∃ o : Obj, W.heap[r]? = some o ∧ o.isCells = false) : Kp S w W' :=
  h.grown hg fun k e => .inr (by have := (hr k e).1; omega)
theorem row_putOwn {B : Nat} {W W' : World} {row : Option Nat} {b : Nat} {cs : Array Value} {t : TypeId} {fr : Nat × Nat} (h : W.heap[b]? = some (.cells cs t fr)) (hg : W.grownBy W' row) (hr : ∀ r, row = some r → B ≤ r ∧ ∃ o : Obj, W.heap[r]? = some o ∧ o.isCells = false) : W'.heap[b]? = some (.cells cs t fr) := by
  refine (hg.block b (lt_of_block h) ?_).trans h
  intro e
  obtain ⟨_, o, ho, hc⟩ := hr b e.symm
  rw [h] at ho
  cases ho
  simp [Obj.isCells] at hc
theorem Rw.putOwn {B : Nat} {w W W' : World} {row : Option Nat} {v : Value} {xs : List Int} (h : Rw w v xs W) (hg : W.grownBy W' row) (hr : ∀ r, row = some r → B ≤ r ∧ ∃ o : Obj, W.heap[r]? = some o ∧ o.isCells = false) : Rw w v xs W' := by
  refine ⟨h.own.1, ?_⟩
  rcases h.own.2 with h0 | ⟨g, c, cur, rfl, hge, hg', r⟩
  · exact .inl h0
  · exact .inr ⟨g, c, cur, rfl, hge, row_putOwn hg' hg hr, r⟩
theorem keepsFrom_kp {S : List Nat} {B : Nat} {W W' : World} (k : Kp S W W') (hS : ∀ x ∈ S, ∀ o, W.heap[x]? = some o → o.isCells = true) : KeepsFrom B W W' :=
  ⟨k.size, fun i o _ hi ho => k.row (fun e => by have := hS i e o hi; rw [this] at ho; cases ho) hi⟩

/-- HOW A ROUND's BODY IS LEFT: off its end. -/
def rowPost (B : Nat) (I : World → Prop) (W : World) : Exit → Act → World → Prop
  | .normal, _, W' => KeepsFrom B W W' ∧ I W'
  | _, _, _ => False

/-- 'for x := range r.there { .. }': what is so between two rounds, one walk of the body, what follows. -/
theorem range_there {n : Nat} {g : Operand} {ps : Array Tmp} {assign body : Code} {Q : Exit → Act → World → Prop} {a : Act} {w : World} {recv : Value} {zs : List Int} {Hyp : World → Prop}
    (hG : Gives (n - 1) recv zs Hyp) (h2 : 2 ≤ n) (hg : a.eval g = .func (.func 83) #[recv] #[]) (hps : ps.size = 1)
    (I : List Int → World → Prop) (hI : OwnFrom w.heap.size I) (hH : ∀ ys W, I ys W → Hyp W) (h0 : I [] w) (a₁ : Int → Act)
    (hassign : ∀ (l : Nat) (x : Int) (W : World) (K : Act → World → Prop), K (a₁ x) W →
      assign.wpIn (Fence.wide.inRound l) (n - 1 - 1) Tryz.prog (Exit.then K (fun _ _ _ => False)) { tmps := (ps.zip #[.int .i64 x]).foldl (fun t (q, v) => t.setIfInBounds q v) a.tmps, defers := [] } W)
    (hbody : ∀ (l : Nat) (ys : List Int) (x : Int) (xs : List Int) (W : World), zs = ys ++ x :: xs → I ys W → body.wpIn (Fence.wide.inRound l) (n - 1 - 1) Tryz.prog (rowPost w.heap.size (I (ys ++ [x])) W) (a₁ x) W)
    (hdone : ∀ (D : Nat) (W : World), w.heap.size ≤ D → I zs W → W.heap[D]? = some (.deferred (some [])) → Q .normal { a with defers := { target := .collected D, args := #[] } :: a.defers } W) :
    (Code.rangeFunc g ps assign body).wpIn Fence.wide n Tryz.prog Q a w := by
  refine wpIn_rangeFunc fun fn hfn => ?_
  -- the loop's record, in each of its states
  let rec' : LoopState → Option Code → Obj := fun st pe => .loop { state := st, pending := pe, fn, tmps := a.tmps, params := ps, assign, body, defers := w.heap.size }
  have e1 := run_enterLoop_outer (P := Tryz.prog) (w := w) fn a.tmps ps assign body
  have hB : w.heap.size < w.heap.size + 1 := Nat.lt_succ_self _
  obtain ⟨W1, hW1⟩ : ∃ W1, (w.alloc (.deferred (some []))).alloc (rec' .ready none) = W1 := ⟨_, rfl⟩
  have hL1 : W1.heap[w.heap.size + 1]? = some (rec' .ready none) := by rw [← hW1]; exact heap_alloc2_new w _ _
  have hK1 : W1.heap[w.heap.size]? = some (.deferred (some [])) := by rw [← hW1]; exact heap_alloc2_old w _ _
  have hI1 : I [] W1 := by rw [← hW1]; exact hI.alloc _ (hI.alloc _ h0)
  refine ⟨w.heap.size + 1, [{ target := .collected w.heap.size, args := #[] }], W1, { target := .fn (.func 83) #[], args := #[recv, .func (.yield (w.heap.size + 1)) #[] #[]] }, W1, 83,
    #[recv, .func (.yield (w.heap.size + 1)) #[] #[]], W1, ?_, ?_, ?_, ?_, fun _ => by omega, ?_⟩
  · rw [← hW1]; exact e1
  · simp only [resolve, hg]
    simp [go_sem]
  · intro f' hf'
    trivial
  · have eg := enters_of Tryz.func83 (by kernel_rfl) rfl
    simp [invoke, go_sem, eg]
  · refine (hG (w.heap.size + 1)
      (fun ys W => I ys W ∧ W.heap[w.heap.size + 1]? = some (rec' .ready none) ∧ W.heap[w.heap.size]? = some (.deferred (some [])))
      W1 (fun ys W h => hH ys W h.1) (fun ys W h => ⟨hI ys W W.drew none h.1 ⟨rfl, rfl, rfl, Nat.le_refl _, fun _ _ _ => rfl⟩ (fun r e => by cases e), h.2.1, h.2.2⟩) ?_ ⟨hI1, hL1, hK1⟩).mono ?_
    · -- a round
      rintro ys x xs W hz ⟨hi, hl, hd⟩
      have hlt := lt_of_block hl
      refine ⟨fn, _, assign, body, run_yield hl (by simp [hps]), roundIn_of_wpIn hfn (hassign _ x W _ ⟨_, run_beginRound hl rfl, ?_⟩)⟩
      have hl2 : (W.putObj (w.heap.size + 1) (rec' .busy none)).heap[w.heap.size + 1]? = some (rec' .busy none) := World.putObj_heap_same hlt
      have hd2 : (W.putObj (w.heap.size + 1) (rec' .busy none)).heap[w.heap.size]? = some (.deferred (some [])) := (World.putObj_heap_other (by omega)).trans hd
      refine wpIn_mono (hbody _ ys x xs _ hz (hI.putObj _ hi (by omega) hl rfl)) ?_
      rintro e a3 W3 hp
      cases e with
      | normal =>
        obtain ⟨hk3, hi3⟩ := hp
        have hl3 := hk3.same _ _ (by omega) hl2 rfl
        exact ⟨_, _, run_endRound none hl3, rfl, hI.putObj _ hi3 (by omega) hl3 rfl, World.putObj_heap_same (lt_of_block hl3), (World.putObj_heap_other (by omega)).trans (hk3.same _ _ (by omega) hd2 rfl)⟩
      | ret => exact hp.elim
      | exit id => exact hp.elim
      | goto t => exact hp.elim
      | panic ch => exact hp.elim
      | outgrown => exact hp.elim
    · -- behind all of them
      rintro e W2 ⟨⟨v, rfl⟩, hi, hl, hd⟩
      exact ⟨none, _, run_endLoop hl (by simp), hdone _ _ (Nat.le_refl _) (hI.putObj _ hi (by omega) hl rfl) ((World.putObj_heap_other (by omega)).trans hd)⟩

/-- An 'append' whose run is known, inside a fence. -/
theorem wpListIn_append_eq {F : Fence} {n : Nat} {P : Program} {w w2 : World} {ops : Array Oper} {rest : List Oper} {o : Oper} {a : Act} {Q : Exit → Act → World → Prop} (hgd : o.guard = none) (s x : Operand) (t : TypeId)
    (ho : o.op = .call { callee := .builtin .append, args := #[s, x], argTypes := #[t, t] }) (sv xv v : Value) (hs : a.eval s = sv) (hx : a.eval x = xv)
    (hrun : (Builtin.append_ #[t, t] o.type #[sv, xv]).run P w = .ok v w2) (hK : wpListIn F n P ops Q rest (a.put o.dst v) w2) : wpListIn F n P ops Q (o :: rest) a w := by
  refine wpListIn_plain hgd fun K hK' => ?_
  unfold Oper.wpIn
  refine ⟨?_, ?_⟩
  · simp [Oper.about, ho, resolve, Target.leads, Sem.run_pure]
  · rw [Oper.semAt_plain F _ _ (by rw [ho]; intro c hc'; cases hc')]
    simp [execOp, ho, resolve, invoke, builtin, hs, hx, hrun, Result.andThen]
    exact hK' _ _ hK

/-- What is so between two rounds of AppendSeq. -/
structure ApI (w : World) (ys : List Int) (W : World) : Prop where
  box : ∃ v, W.heap[w.heap.size]? = some (.cells #[v] 37 (0, 0)) ∧ Rw w v ys W
  kp : Kp [] w W

theorem heap_setCell_box {W : World} {B : Nat} {v : Value} {t : TypeId} (v' : Value) (h : W.heap[B]? = some (.cells #[v] t (0, 0))) : (W.setCell ⟨B, 0, none⟩ v').heap[B]? = some (.cells #[v'] t (0, 0)) := by
  rw [heap_setCell_same _ _ _ _ _ _ h]; rfl

/-- A number more: what it makes of the box and the row. -/
theorem ApI.step {w W w5 : World} {ys : List Int} {v u : Value} {x : Int} (h : Kp [] w W) (hb : W.heap[w.heap.size]? = some (.cells #[v] 37 (0, 0))) (hR : Rw w v ys W)
    (r5 : Rw w u (ys ++ [x]) w5) (k5 : Kp (blk v) (W.alloc (.cells #[.int .i64 x] 3)) w5) :
    (w5.heap[w.heap.size]? = some (.cells #[v] 37 (0, 0))) ∧ (∀ B, KeepsFrom B W (w5.setCell ⟨w.heap.size, 0, none⟩ u)) ∧ ApI w (ys ++ [x]) (w5.setCell ⟨w.heap.size, 0, none⟩ u) := by
  have ka : Kp [] W (W.alloc (.cells #[.int .i64 x] 3)) := (Kp.refl _ _).alloc _
  have hn : w.heap.size ∉ blk v := fun e => by
    obtain ⟨_, cur, hc⟩ := hR.block _ e
    exact ne_types hc hb (by decide) rfl
  have hb5 := k5.row hn (ka.row (by simp) hb)
  have k6 : Kp (w.heap.size :: blk v) W (w5.setCell ⟨w.heap.size, 0, none⟩ u) := ((ka.mono (by simp)).trans (k5.mono fun y hy _ => by simp [hy])).setCell (.inl (by simp)) _
  have k7 : Kp [w.heap.size] w5 (w5.setCell ⟨w.heap.size, 0, none⟩ u) := (Kp.refl _ _).setCell (.inl (by simp)) _
  refine ⟨hb5, fun B => keepsFrom_kp k6 ?_, ⟨u, heap_setCell_box u hb5, r5.keep k7 fun g hg => ?_⟩, ((h.mono (by simp)).trans k6).mono fun y hy hlt => ?_⟩
  · intro y hy o ho
    rw [List.mem_cons] at hy
    rcases hy with rfl | hy
    · rw [hb] at ho; cases ho; rfl
    · obtain ⟨_, cur, hc⟩ := hR.block _ hy
      rw [hc] at ho; cases ho; rfl
  · rw [List.mem_singleton] at hg
    subst hg
    exact ⟨_, _, hb5, by decide⟩
  · rw [List.mem_cons] at hy
    rcases hy with rfl | hy
    · omega
    · have := (hR.block _ hy).1; omega

set_option maxRecDepth 100000 in
theorem appendSeq_any (w : World) (recv : Value) (zs : List Int) (Hyp : World → Prop) (hG : Gives 2 recv zs Hyp) (hH : ∀ W, Kp [] w W → Hyp W) (hl : zs.length ≤ 1000) :
    Calls Tryz.prog 98 #[.slice none 0 0, .func (.func 83) #[recv] #[]] w fun e w' => ∃ v, e = .returned v ∧ Rw w v zs w' ∧ Kp [] w w' := by
  refine (callsIn_wide (n := 3)).1 ?_
  refine callsIn_of_wp_marks Tryz.func98 rfl trivial ?_ rfl
  simp only [Tryz.ntmps98, List.size_toArray, List.length_cons, List.length_nil, Nat.reduceAdd, Nat.reduceSub, Array.replicate_succ, Array.replicate_zero, List.push_toArray, List.append_toArray, List.nil_append, List.cons_append]
  have hk0 : Kp [] w (w.alloc (.cells #[.slice none 0 0] 37)) := (Kp.refl _ _).alloc _
  have hb0 := heap_alloc_new w (.cells #[.slice none 0 0] 37)
  have HI0 : Hid (ApI w [] (w.alloc (.cells #[.slice none 0 0] 37))) := Lib.hid ⟨⟨_, hb0, Rw.nil _ _⟩, hk0⟩
  clear hk0 hb0
  gi_wp2
  refine range_there (zs := zs) (recv := recv) (Hyp := Hyp) hG (by omega) rfl rfl (fun ys W => ApI w ys W) ?own (fun ys W h => hH W h.kp) HI0.out
    (fun x => { tmps := #[.slice none 0 0, .func (.func 83) #[recv] #[], .pointer (some ⟨w.heap.size, 0, none⟩), undef, .slice none 0 0, .int .i64 x, .func (.func 83) #[recv] #[], .int .i64 x, undef, undef, undef, undef, undef], defers := [] }) ?assign ?body ?done
  case own =>
    rintro ys A B row ⟨⟨v, hb, hR⟩, hk⟩ hg hr
    exact ⟨⟨v, row_putOwn hb hg hr, hR.putOwn hg hr⟩, kp_putOwn hk (by simp) hg hr⟩
  case assign =>
    intro l x W K hK
    gi_wp2
    exact hK
  case body =>
    rintro l ys x xs W hz ⟨⟨v, hb, hR⟩, hk⟩
    have hyl : ys.length ≤ 1000 := by have := congrArg List.length hz; simp at this; omega
    obtain ⟨g, cap, w5, hrun, r5, k5, _⟩ := run_append_snoc (w0 := w) (w := W.alloc (.cells #[.int .i64 x] 3)) v ys x ⟨W.heap.size, 0, none⟩ (hR.keep0 ((Kp.refl _ _).alloc _)) (by omega) (Nat.le_trans hk.size (by simp)) (news_one W x _ _ rfl) 37
    obtain ⟨hb5, hkf, hI5⟩ := ApI.step hk hb hR r5 k5
    have hc := cell_of_row hb 0
    have hc5 := cell_of_row hb5 0
    have hf5 := free_of_row hb5 0
    obtain ⟨ao, c0, rfl⟩ := hR.form
    have HE := Lib.hid (And.intro hkf hI5)
    generalize ys.length = m at hb hR hrun k5 hb5 hc hc5 HE
    clear hb hR r5 k5 hb5 hkf hI5 hG hH HI0 hk hyl hz hl
    have hc' : W.cell? ⟨w.heap.size, 0, none⟩ = some (.slice ao m c0) := hc
    have hc5' : w5.cell? ⟨w.heap.size, 0, none⟩ = some (.slice ao m c0) := hc5
    clear hc hc5
    gi_wp2_with (gi_at_builtin; refine wpListIn_append_eq rfl _ _ 37 rfl _ _ _ rfl rfl hrun ?_)
    exact ⟨HE.out.1 _, HE.out.2⟩
  case done =>
    rintro D W hD ⟨⟨v, hb, hR⟩, hk⟩ hK
    have hc : W.cell? ⟨w.heap.size, 0, none⟩ = some v := cell_of_row hb 0
    obtain ⟨ao, c0, rfl⟩ := hR.form
    have HR := Lib.hid (And.intro hR hk)
    clear hb hR hk hG hH HI0 hl
    generalize zs.length = m at hc HR
    gi_wp2
    refine ⟨by simp, .inl ⟨_, _, rfl, run_takeDeferred hK, ?_⟩⟩
    exact ⟨_, results_tmp rfl _ _ _, .slice ao m c0, rfl, HR.out.1.putOwn (B := 0) (grownBy_putObj' _ D _) (fun r e => by cases e; exact ⟨Nat.zero_le _, _, hK, rfl⟩), HR.out.2.grown (grownBy_putObj' _ D _) (fun k e => by cases e; exact .inr (by simp at hD; omega))⟩

/-- A row of the call's own is answered. -/
def Ans (w : World) (zs : List Int) (e : Ending) (w' : World) : Prop := ∃ ao c, e = .returned (.slice ao zs.length c) ∧ Rw w (.slice ao zs.length c) zs w' ∧ Kp [] w w'

theorem collect_any (w : World) (recv : Value) (zs : List Int) (Hyp : World → Prop) (hG : Gives 2 recv zs Hyp) (hH : ∀ W, Kp [] w W → Hyp W) (hl : zs.length ≤ 1000) :
    Calls Tryz.prog 82 #[.func (.func 83) #[recv] #[]] w (Ans w zs) := by
  have ha : Calls Tryz.prog 98 #[.slice none 0 0, .func (.func 83) #[recv] #[]] w (Ans w zs) := by
    refine (appendSeq_any w recv zs Hyp hG hH hl).mono ?_
    rintro e w' ⟨v, rfl, hR, hk⟩
    obtain ⟨ao, c, rfl⟩ := hR.form
    exact ⟨ao, c, rfl, hR, hk⟩
  clear hG hH
  go_enter Tryz.func82, Tryz.ntmps82
  go_wp2_with ((with_reducible refine ha.mono ?_); rintro e w1 ⟨ao, c, rfl, hRk⟩; have HRk := Lib.hid hRk; clear hRk)
  go_ret
  exact ⟨ao, c, rfl, HRk.out⟩

theorem all_of (w : World) (recv : Value) (zs : List Int) (h : Calls Tryz.prog 82 #[.func (.func 83) #[recv] #[]] w (Ans w zs)) (hr : recv = .pointer none ∨ ∃ p, recv = .pointer (some ⟨p, 0, none⟩)) :
    Calls Tryz.prog 46 #[recv] w (Ans w zs) := by
  have hmf : ∀ (fn : Fn) (first cap : Array Value) (w : World), (Instr.makeFunc fn first cap).run Tryz.prog w = .ok (.func fn first cap) w := fun _ _ _ _ => rfl
  go_enter Tryz.func46, Tryz.ntmps46
  go_wp2_with ((with_reducible refine h.mono ?_); rintro e w1 ⟨ao, c, rfl, hRk⟩; have HRk := Lib.hid hRk; clear hRk)
  go_ret
  exact ⟨ao, c, rfl, HRk.out⟩

/-- All: what is not 0, the slots' ahead of the stack's. -/
theorem all_any (w : World) (p : Nat) (A L : List Int) (h : Rt w p A L) : Calls Tryz.prog 46 #[.pointer (some ⟨p, 0, none⟩)] w (Ans w (nz (A ++ L))) :=
  all_of w _ _ (collect_any w _ _ _ (there_any 2 (by omega) p A L) (fun W hW => h.keep0 hW) (by have := nz_le (A ++ L); have := h.la; have := h.ll; simp at *; omega)) (.inr ⟨p, rfl⟩)
theorem all_nil (w : World) : Calls Tryz.prog 46 #[.pointer none] w (Ans w []) :=
  all_of w _ _ (collect_any w _ _ _ (there_nil 2) (fun _ _ => trivial) (by simp)) (.inl rfl)

end Go.Proofs.YtmbhhadghiojeaaGreat
