/- The law's own program, as a whole: its loop. Written by gen/ah_g.py. Conditions: as each theorem states them. -/
import Derived.Test.YtdingbkgkofanaaAhF
namespace Go.Proofs.Ytdingbkgkofanaa
set_option linter.unusedVariables false
set_option linter.unusedSimpArgs false
set_option maxRecDepth 100000
open Go.Conc
open Go.ConcN (upd_ne upd_same)

section
variable {P : Program} {Post : Value → World → Prop} {pl : Nat → Option Place} {n h : Nat} {cs : List Frame} {w w' : World}
variable {b : Frame} {a : Act} {k : List Item} {ops : Array Oper} {i : Nat} {rest : List Nat} {o : Oper}
/-- A store of three cells. -/
theorem Win.store3 {m : Nat} {x0 x1 x2 : Value} (hb : b.kind = .normal ∨ b.kind = .deferred) (ho : ops[i]? = some o) (hwt : Region.wanted o (yielded ops a.tmps) = true) (F : ∀ j, Free pl ⟨m, j, none⟩)
    (hr : ∀ d, (execOp a.eval o).runT P (w.at d) #[] = (.ok .skip ((((w.at d).setCell ⟨m, 0, none⟩ x0).setCell ⟨m, 1, none⟩ x1).setCell ⟨m, 2, none⟩ x2), #[⟨.cell ⟨m, 0, none⟩, true, false⟩, ⟨.cell ⟨m, 1, none⟩, true, false⟩, ⟨.cell ⟨m, 2, none⟩, true, false⟩]))
    (H : Win P Post pl n h (gor (b.at (a.put o.dst undef) (.inRegion ops rest :: k)) cs) (((w.setCell ⟨m, 0, none⟩ x0).setCell ⟨m, 1, none⟩ x1).setCell ⟨m, 2, none⟩ x2)) : Win P Post pl n h (gor (b.at a (.inRegion ops (i :: rest) :: k)) cs) w :=
  Win.opS hb ho hwt fun d => by
    have k0 := (F 0).kept (x := x0) (w.at d)
    have k1 := (F 1).kept (x := x1) ((w.at d).setCell ⟨m, 0, none⟩ x0)
    have k2 := (F 2).kept (x := x2) (((w.at d).setCell ⟨m, 0, none⟩ x0).setCell ⟨m, 1, none⟩ x1)
    refine ⟨_, _, hr d, ⟨fun i s c hi hc => ((k2.1 i s c hi hc).trans (k1.1 i s c hi hc)).trans (k0.1 i s c hi hc), fun i s hi hs => k2.2 i s hi (k1.2 i s hi (k0.2 i s hi hs))⟩, fun e he => ?_, H.at d⟩
    simp only [List.mem_toArray, List.mem_cons, List.not_mem_nil, or_false] at he
    rcases he with rfl | rfl | rfl
    all_goals
      refine ⟨fun y hy _ g c hl hp => ?_, by simp, by simp⟩
      simp [MemAct.ofEvent, MemAct.touch?] at hy
      subst hy
      obtain ⟨s, v, hs, hv⟩ := hp
      cases hl
      exact (F _).cell g s v hs hv
end

theorem row3 (W : World) (x0 x1 x2 y0 y1 y2 : Value) (t : TypeId) : (((((W.alloc (.cells #[y0, y1, y2] t)).setCell ⟨W.heap.size, 0, none⟩ x0).setCell ⟨W.heap.size, 1, none⟩ x1).setCell ⟨W.heap.size, 2, none⟩ x2).heap[W.heap.size]? = some (.cells #[x0, x1, x2] t (0, 0))) := by
  have h0 := alloc_new W (.cells #[y0, y1, y2] t)
  have h1 := heap_setCell_same _ W.heap.size 0 _ _ x0 h0
  have h2 := heap_setCell_same _ W.heap.size 1 _ _ x1 h1
  have h3 := heap_setCell_same _ W.heap.size 2 _ _ x2 h2
  rw [h3]
  simp
theorem ks3 (W : World) (x0 x1 x2 : Value) (ob : Obj) : Ks (fun _ => False) W (((((W.alloc ob).setCell ⟨W.heap.size, 0, none⟩ x0).setCell ⟨W.heap.size, 1, none⟩ x1).setCell ⟨W.heap.size, 2, none⟩ x2)) := by
  refine (((ks_alloc _ W ob).then (ks_setCell _ ⟨W.heap.size, 0, none⟩ x0) fun b hb e => ?_).then (ks_setCell _ ⟨W.heap.size, 1, none⟩ x1) fun b hb e => ?_).then (ks_setCell _ ⟨W.heap.size, 2, none⟩ x2) fun b hb e => ?_
  all_goals
    have e' : b = W.heap.size := e
    omega

section
variable {G : Type} {Post : Value → World → Prop} {Sh : World → G → Prop} {SB : Nat → Prop} {pA rA : Nat} {a : Ag} {mv : Value} {home : Goroutine → Prop} {n : Nat} {T : Tree G} {runs ov : Bool}

set_option maxHeartbeats 4000000 in
/-- THE PROGRAM'S LOOP. -/
theorem prog_loop (hSh : ∀ g, Priv SB (fun w => Sh w g)) (hmv : mv = memV pA) {args : Array Value} {bl bp ba oa cp bq oq b1 b2 : Nat} {l : List (Int × Int × Int)} {lst : G → Int} {setL : Int → G → G} {own : Nat → Prop} {A : World → Prop} {gf : FuncId} {cap : Array Value}
    (hP : Priv own A) (hrd : ∀ w g, A w → Sh w g → w.cell? ⟨bl, 0, none⟩ = some (.slice (some ⟨ba, oa, none⟩) l.length cp) ∧ w.cell? ⟨bp, 0, none⟩ = some (.pointer (some ⟨bq, oq, none⟩)) ∧ w.cell? ⟨bq, oq, none⟩ = some (.int .u64 (lst g)) ∧ w.frozen? ⟨bq, oq, none⟩ = false ∧
      ∀ i d k v, l[i]? = some (d, k, v) → w.cell? ⟨ba, oa + 3 * i, none⟩ = some (.int .u8 d) ∧ w.cell? ⟨ba, oa + 3 * i + 1, none⟩ = some (.int .i64 k) ∧ w.cell? ⟨ba, oa + 3 * i + 2, none⟩ = some (.int .u64 v))
    (hwr : ∀ w g v, A w → Sh w g → A (w.setCell ⟨bq, oq, none⟩ (.int .u64 v)) ∧ Sh (w.setCell ⟨bq, oq, none⟩ (.int .u64 v)) (setL v g)) (hlst : ∀ v g, lst (setL v g) = v) (hsq : SB bq) (hbox : ∀ w, A w → Boxed a b1 b2 w) (hlen : l.length < 1073741824) (X : Code) (hX : X = progX Try.f38) :
    ∀ rest i, l.drop i = rest → i ≤ l.length → ∀ (x : Nat → Value) home n pl F col w g, x 0 = .iface 97 (.pointer (some ⟨a.m, 0, none⟩)) → x 1 = .pointer (some ⟨bl, 0, none⟩) → x 2 = .pointer (some ⟨bp, 0, none⟩) → x 4 = .int .i64 i →
      Acts SB pA rA a mv home true false pl F col w → (∀ b, own b → col b = .ag a.j) → A w → Sh w g → Kont Post Sh SB pA rA a mv home n (ptree lst setL rest (lst g)) pl F col w g →
      Win Try.prog Post pl n a.j (gor ((Frame.enter Try.prog 38 args .normal).at ⟨T48 x, []⟩ [.code (progX Try.f38), .inLoop X, .inBlock 0]) [runFr Try.prog Try.f36 a.p a.m b1 b2 gf cap, rootFr Try.prog]) w := by
  intro rest
  induction rest with
  | nil =>
    intro i hi hil x home n pl F col w g hx0 hx1 hx2 hx4 hA hown hAw hs K0
    have hb : (Frame.enter Try.prog 38 args .normal).kind = .normal := rfl
    have hil' : i = l.length := by have := List.drop_eq_nil_iff.1 hi; omega
    obtain ⟨r1, r2, r3, r4, r5⟩ := hrd _ _ hAw hs
    simp only [bodyOf, Try.f38, codeL, codeR, regOps, blockOf, loopOf, condT, condE, progX, Option.getD_some, T48]
    refine Win.seq ?_
    refine Win.seq ?_
    refine Win.region ?_
    simp only [List.size_toArray, List.length_cons, List.length_nil, Nat.reduceAdd, List.range, List.range.loop]
    refine Win.pureOp (v := .int .i64 i) (.inl hb) rfl rfl (fun w => by rw [Sem.runT_eq]; simp [go_sem, execOp, Act.eval, hx4]; try rfl) ?_
    simp only [Act.put, Act.eval, List.getElem_toArray, List.getElem_cons_zero, List.getElem_cons_succ, List.setIfInBounds_toArray, List.set_cons_succ, List.set_cons_zero]
    refine Win.lookOp (v := .slice (some ⟨ba, oa, none⟩) l.length cp) (ad := ⟨bl, 0, none⟩) (x := .slice (some ⟨ba, oa, none⟩) l.length cp) (.inl hb) rfl rfl (r1) (fun w hc => by rw [Sem.runT_eq]; simp [go_sem, execOp, Act.eval, hc, hx1]) ?_
    simp only [Act.put, Act.eval, List.getElem_toArray, List.getElem_cons_zero, List.getElem_cons_succ, List.setIfInBounds_toArray, List.set_cons_succ, List.set_cons_zero]
    refine Win.pureOp (v := .int .i64 (l.length : Int)) (.inl hb) rfl rfl (fun w => by rw [Sem.runT_eq]; simp [go_sem, execOp, Act.eval]; try rfl) ?_
    simp only [Act.put, Act.eval, List.getElem_toArray, List.getElem_cons_zero, List.getElem_cons_succ, List.setIfInBounds_toArray, List.set_cons_succ, List.set_cons_zero]
    refine Win.pureOp (v := .bool false) (.inl hb) rfl rfl (fun w => by rw [Sem.runT_eq]; simp [go_sem, execOp, Act.eval, hil']; try rfl) ?_
    simp only [Act.put, Act.eval, List.getElem_toArray, List.getElem_cons_zero, List.getElem_cons_succ, List.setIfInBounds_toArray, List.set_cons_succ, List.set_cons_zero]
    refine Win.opsEnd ?_
    refine Win.cond (t := false) rfl ?_
    simp only [if_false, Bool.false_eq_true]
    refine Win.exit (k' := []) rfl ?_
    refine Win.falls ?_
    refine Win.leave (v := .tuple #[]) rfl rfl hb Try.func38 (fun d => ⟨#[], by rw [Sem.runT_eq]; simp [go_sem, results, Try.f38], fun e he => by simp at he⟩) ?_
    exact ret_out hA.ends (hbox _ hAw) hs hSh K0
  | cons p rest ih =>
    obtain ⟨d, k, v⟩ := p
    intro i hi hil x home n pl F col w g hx0 hx1 hx2 hx4 hA hown hAw hs K0
    have hb : (Frame.enter Try.prog 38 args .normal).kind = .normal := rfl
    have hlt : i < l.length := by
      rcases Nat.lt_or_ge i l.length with z | z
      · exact z
      · rw [List.drop_eq_nil_iff.2 z] at hi; cases hi
    have hget : l[i]? = some (d, k, v) := by rw [← List.head?_drop, hi]; rfl
    have hrest : l.drop (i + 1) = rest := by rw [← List.tail_drop, hi]; rfl
    obtain ⟨r1, r2, r3, r4, r5⟩ := hrd _ _ hAw hs
    obtain ⟨c0, c1, c2⟩ := r5 i d k v hget
    have hstop : ∀ (own' : Nat → Prop) (A' : World → Prop), (∀ b, own b → own' b) → (∀ w, A' w → A w) → ∀ home n pl F col w g ac kk, ac.defers = [] → Ends SB pA rA a mv home pl F col w → (∀ b, own' b → col b = .ag a.j) → A' w → Sh w g → Kont Post Sh SB pA rA a mv home n .ret pl F col w ((fun g => g) g) → Win Try.prog Post pl n a.j (gor (((Frame.enter Try.prog 38 args .normal).at ac kk).raise [haltE]) [runFr Try.prog Try.f36 a.p a.m b1 b2 gf cap, rootFr Try.prog]) w :=
      fun own' A' ho hAA home n pl F col w g ac kk hd hE hown' hA' hs' K' => halt_out hE (hbox _ (hAA _ hA')) hs' hSh hd (by kernel_rfl) K'
    have hcont : ∀ y home n pl F col w g (ops : Array Oper), y 0 = x 0 → y 1 = x 1 → y 2 = x 2 → y 4 = x 4 → Acts SB pA rA a mv home true false pl F col w → (∀ b, own b → col b = .ag a.j) → A w → Sh w g → Kont Post Sh SB pA rA a mv home n (ptree lst setL rest (lst g)) pl F col w g → Win Try.prog Post pl n a.j (gor ((Frame.enter Try.prog 38 args .normal).at ⟨T48 y, []⟩ (.inRegion ops [] :: .inBlock 2 :: .inBlock 1 :: .code (codeR (codeR (progX Try.f38))) :: .inLoop X :: [.inBlock 0])) [runFr Try.prog Try.f36 a.p a.m b1 b2 gf cap, rootFr Try.prog]) w := by
      intro y home n pl F col w g ops y0 y1 y2 y4 hA hown hAw hs K1
      refine prog_tail rfl (y4.trans hx4) (by omega) fun z z0 z1 z2 z4 => ?_
      refine Win.inLoop ?_
      have := ih (i + 1) hrest hlt z home n pl F col w g (z0.trans (y0.trans hx0)) (z1.trans (y1.trans hx1)) (z2.trans (y2.trans hx2)) z4 hA hown hAw hs K1
      rw [← hX] at this
      exact this
    have hR : ∀ (b : Frame) (x' : Nat → Value), progR Try.f38 = progR Try.f38 := fun _ _ => rfl
    have hL := hA.lies
    have f3 : ∀ j, Free pl ⟨w.heap.size, j, none⟩ := fun j => hL.freeNew (Nat.le_refl _)
    have hrow := row3 w (.int .u8 d) (.int .i64 k) (.int .u64 v) (.int .u8 0) (.int .i64 0) (.int .u64 0) 48
    have hk3 := ks3 w (.int .u8 d) (.int .i64 k) (.int .u64 v) (.cells #[.int .u8 0, .int .i64 0, .int .u64 0] 48)
    have hL3 : Lies pl F (((((w.alloc (.cells #[.int .u8 0, .int .i64 0, .int .u64 0] 48)).setCell ⟨w.heap.size, 0, none⟩ (.int .u8 d)).setCell ⟨w.heap.size, 1, none⟩ (.int .i64 k)).setCell ⟨w.heap.size, 2, none⟩ (.int .u64 v))) := ((((hL.alloc _).setCell _ _).setCell _ _).setCell _ _)
    have hnew := alloc_new w (.cells #[.int .u8 0, .int .i64 0, .int .u64 0] 48)
    obtain ⟨bx, hbx⟩ : ∃ bx, bx = w.heap.size := ⟨_, rfl⟩
    simp only [bodyOf, Try.f38, codeL, codeR, regOps, blockOf, loopOf, condT, condE, progX, Option.getD_some, T48]
    refine Win.seq ?_
    refine Win.seq ?_
    refine Win.region ?_
    simp only [List.size_toArray, List.length_cons, List.length_nil, Nat.reduceAdd, List.range, List.range.loop]
    refine Win.pureOp (v := .int .i64 i) (.inl hb) rfl rfl (fun w => by rw [Sem.runT_eq]; simp [go_sem, execOp, Act.eval, hx4]; try rfl) ?_
    simp only [Act.put, Act.eval, List.getElem_toArray, List.getElem_cons_zero, List.getElem_cons_succ, List.setIfInBounds_toArray, List.set_cons_succ, List.set_cons_zero]
    refine Win.lookOp (v := .slice (some ⟨ba, oa, none⟩) l.length cp) (ad := ⟨bl, 0, none⟩) (x := .slice (some ⟨ba, oa, none⟩) l.length cp) (.inl hb) rfl rfl (r1) (fun w hc => by rw [Sem.runT_eq]; simp [go_sem, execOp, Act.eval, hc, hx1]) ?_
    simp only [Act.put, Act.eval, List.getElem_toArray, List.getElem_cons_zero, List.getElem_cons_succ, List.setIfInBounds_toArray, List.set_cons_succ, List.set_cons_zero]
    refine Win.pureOp (v := .int .i64 (l.length : Int)) (.inl hb) rfl rfl (fun w => by rw [Sem.runT_eq]; simp [go_sem, execOp, Act.eval]; try rfl) ?_
    simp only [Act.put, Act.eval, List.getElem_toArray, List.getElem_cons_zero, List.getElem_cons_succ, List.setIfInBounds_toArray, List.set_cons_succ, List.set_cons_zero]
    refine Win.pureOp (v := .bool true) (.inl hb) rfl rfl (fun w => by rw [Sem.runT_eq]; simp [go_sem, execOp, Act.eval, hlt]; try rfl) ?_
    simp only [Act.put, Act.eval, List.getElem_toArray, List.getElem_cons_zero, List.getElem_cons_succ, List.setIfInBounds_toArray, List.set_cons_succ, List.set_cons_zero]
    refine Win.opsEnd ?_
    refine Win.cond (t := true) rfl ?_
    simp only [if_true]
    refine Win.skip ?_
    refine Win.seq ?_
    refine Win.block ?_
    refine Win.seq ?_
    refine Win.region ?_
    simp only [List.size_toArray, List.length_cons, List.length_nil, Nat.reduceAdd, List.range, List.range.loop]
    refine Win.lookOp (v := .slice (some ⟨ba, oa, none⟩) l.length cp) (ad := ⟨bl, 0, none⟩) (x := .slice (some ⟨ba, oa, none⟩) l.length cp) (.inl hb) rfl rfl (r1) (fun w hc => by rw [Sem.runT_eq]; simp [go_sem, execOp, Act.eval, hc, hx1]) ?_
    simp only [Act.put, Act.eval, List.getElem_toArray, List.getElem_cons_zero, List.getElem_cons_succ, List.setIfInBounds_toArray, List.set_cons_succ, List.set_cons_zero]
    refine Win.pureOp (v := .int .i64 i) (.inl hb) rfl rfl (fun w => by rw [Sem.runT_eq]; simp [go_sem, execOp, Act.eval, hx4]; try rfl) ?_
    simp only [Act.put, Act.eval, List.getElem_toArray, List.getElem_cons_zero, List.getElem_cons_succ, List.setIfInBounds_toArray, List.set_cons_succ, List.set_cons_zero]
    refine Win.op (v := .pointer (some ⟨ba, oa + 3 * i, none⟩)) (.inl hb) rfl rfl (fun d' => ⟨#[], op_index ba oa i l.length cp hlt rfl rfl rfl, fun e he => by simp at he⟩) ?_
    simp only [Act.put, Act.eval, List.getElem_toArray, List.getElem_cons_zero, List.getElem_cons_succ, List.setIfInBounds_toArray, List.set_cons_succ, List.set_cons_zero]
    refine Win.op (v := .agg #[.int .u8 d, .int .i64 k, .int .u64 v]) (.inl hb) rfl rfl (fun d' => ⟨_, op_load (W := w.at d') ba (oa + 3 * i) c0 c1 c2 rfl rfl, fun e he => by
      simp only [List.mem_toArray, List.mem_cons, List.not_mem_nil, or_false] at he
      rcases he with rfl | rfl | rfl <;> exact ⟨rfl, fun m => by simp⟩⟩) ?_
    simp only [Act.put, Act.eval, List.getElem_toArray, List.getElem_cons_zero, List.getElem_cons_succ, List.setIfInBounds_toArray, List.set_cons_succ, List.set_cons_zero]
    refine Win.makeOp (v := .pointer (some ⟨w.heap.size, 0, none⟩)) (ob := .cells #[.int .u8 0, .int .i64 0, .int .u64 0] 48) (es := #[]) hL (.inl hb) rfl rfl (fun d' => op_alloc rfl) (fun e he => by simp at he) ?_
    simp only [Act.put, Act.eval, List.getElem_toArray, List.getElem_cons_zero, List.getElem_cons_succ, List.setIfInBounds_toArray, List.set_cons_succ, List.set_cons_zero]
    refine Win.store3 (m := w.heap.size) (x0 := .int .u8 d) (x1 := .int .i64 k) (x2 := .int .u64 v) (.inl hb) rfl rfl f3 (fun d' => op_store (W := (w.alloc (.cells #[.int .u8 0, .int .i64 0, .int .u64 0] 48)).at d') w.heap.size (cell_of_row hnew 0) (cell_of_row hnew 1) (cell_of_row hnew 2) (fun j => free_of_row hnew j) rfl rfl rfl) ?_
    simp only [Act.put, Act.eval, List.getElem_toArray, List.getElem_cons_zero, List.getElem_cons_succ, List.setIfInBounds_toArray, List.set_cons_succ, List.set_cons_zero]
    rw [← hbx] at hrow hk3 hL3 ⊢
    generalize ((((w.alloc (.cells #[.int .u8 0, .int .i64 0, .int .u64 0] 48)).setCell ⟨bx, 0, none⟩ (.int .u8 d)).setCell ⟨bx, 1, none⟩ (.int .i64 k)).setCell ⟨bx, 2, none⟩ (.int .u64 v)) = w2 at hrow hk3 hL3 ⊢
    refine Win.opsEnd ?_
    refine Win.seq ?_
    refine Win.region ?_
    simp only [List.size_toArray, List.length_cons, List.length_nil, Nat.reduceAdd, List.range, List.range.loop]
    refine Win.pureOp (v := .pointer (some ⟨bx, 0, none⟩)) (.inl hb) rfl rfl (fun w => by rw [Sem.runT_eq]; simp [go_sem, execOp, Act.eval]; try rfl) ?_
    simp only [Act.put, Act.eval, List.getElem_toArray, List.getElem_cons_zero, List.getElem_cons_succ, List.setIfInBounds_toArray, List.set_cons_succ, List.set_cons_zero]
    refine Win.lookOp (v := .int .u8 d) (ad := ⟨bx, 0, none⟩) (x := .int .u8 d) (.inl hb) rfl rfl (cell_of_row hrow 0) (fun w hc => by rw [Sem.runT_eq]; simp [go_sem, execOp, Act.eval, hc]) ?_
    simp only [Act.put, Act.eval, List.getElem_toArray, List.getElem_cons_zero, List.getElem_cons_succ, List.setIfInBounds_toArray, List.set_cons_succ, List.set_cons_zero]
    refine Win.opsEnd ?_
    refine Win.block ?_
    refine Win.seq ?_
    refine Win.region ?_
    simp only [List.size_toArray, List.length_cons, List.length_nil, Nat.reduceAdd, List.range, List.range.loop]
    refine Win.pureOp (v := .bool (decide (d = 0))) (.inl hb) rfl rfl (fun w => by rw [Sem.runT_eq]; simp [go_sem, execOp, Act.eval]; try rfl) ?_
    simp only [Act.put, Act.eval, List.getElem_toArray, List.getElem_cons_zero, List.getElem_cons_succ, List.setIfInBounds_toArray, List.set_cons_succ, List.set_cons_zero]
    refine Win.pureOp (v := .bool (decide (d = 0))) (.inl hb) rfl rfl (fun w => by rw [Sem.runT_eq]; simp [go_sem, execOp, Act.eval]; try rfl) ?_
    simp only [Act.put, Act.eval, List.getElem_toArray, List.getElem_cons_zero, List.getElem_cons_succ, List.setIfInBounds_toArray, List.set_cons_succ, List.set_cons_zero]
    refine Win.opsEnd ?_
    refine Win.cond (t := decide (d = 0)) rfl ?_
    obtain ⟨hA2, hM2⟩ := hA.grow hk3 hL3
    have hAw2 := hP.grow hAw hk3
    have hs2 := (hSh g).grow hs hk3
    have K2 := Kont.moves hM2 K0
    have hbq : ¬ bx = (⟨bq, oq, none⟩ : Addr).block := fun e => by
      have h := World.block_lt_of_cell? _ _ r3
      have e' : bx = bq := e
      have h' : bq < w.heap.size := h
      omega
    have hown2 : ∀ b, (own b ∨ b = bx) → grown a.j col w w2 b = .ag a.j := fun b hb' => by
      rcases hb' with hb' | rfl
      · exact grown_ag hA.lay (hown b hb')
      · exact grown_new (by omega) (lt_of_block hrow)
    have hP' : Priv (fun b => own b ∨ b = bx) (fun w => A w ∧ w.heap[bx]? = some (.cells #[.int .u8 d, .int .i64 k, .int .u64 v] 48 (0, 0))) := by
      refine ⟨fun u u' h he => ⟨hP.st _ _ h.1 fun b hb' => he b (.inl hb'), (he _ (.inr rfl)).trans h.2⟩, fun u b h hb' => ?_, fun u b h hb' => ?_⟩
      · rcases hb' with hb' | rfl
        · exact hP.np _ _ h.1 hb'
        · exact rich_cells h.2
      · rcases hb' with hb' | rfl
        · exact hP.lt _ _ h.1 hb'
        · exact lt_of_block h.2
    by_cases hd0 : d = 0
    · rw [ptree, if_pos hd0] at K2
      simp only [hd0, decide_true, if_true]
      rw [hd0] at hrow hP'
      refine prog_read (x := (fun j => match j with | 5 => .pointer (some ⟨bx, 0, none⟩) | 6 => .int .i64 i | 7 => .slice (some ⟨ba, oa, none⟩) l.length cp | 8 => .int .i64 l.length | 9 => .bool true | 12 => .slice (some ⟨ba, oa, none⟩) l.length cp | 13 => .int .i64 i | 14 => .pointer (some ⟨ba, oa + 3 * i, none⟩) | 15 => .agg #[.int .u8 0, .int .i64 k, .int .u64 v] | 16 => .pointer (some ⟨bx, 0, none⟩) | 17 => .int .u8 0 | 25 => .bool true | 26 => .bool true | j => x j)) (at' := k) (nx := fun u => ptree lst setL rest u) (setL := setL) hSh hmv rfl hx0 hx2 rfl hP' (fun w g h hs => ⟨(hrd w g h.1 hs).2.1, cell_of_row h.2 1⟩) (fun w g h hs => ⟨_, (hrd w g h.1 hs).2.2.1, (hrd w g h.1 hs).2.2.2.1⟩) (fun w g v' h hs => ⟨⟨(hwr w g v' h.1 hs).1, (ks_setCell w ⟨bq, oq, none⟩ (.int .u64 v')).row hbq h.2⟩, (hwr w g v' h.1 hs).2⟩) hsq (hstop _ _ (fun b hb => .inl hb) fun w h => h.1) ?_ hA2 hown2 ⟨hAw2, hrow⟩ hs2 K2
      intro y v' home n pl F col w g y0 y1 y2 y4 hA3 hown3 hA3' hs3 K3
      refine hcont y home n pl F col w (setL v' g) _ y0 y1 y2 y4 hA3 (fun b hb => hown3 b (.inl hb)) hA3'.1 hs3 ?_
      rw [hlst]; exact K3
    · simp only [hd0, decide_false, if_false, Bool.false_eq_true]
      refine Win.seq ?_
      refine Win.region ?_
      simp only [List.size_toArray, List.length_cons, List.length_nil, Nat.reduceAdd, List.range, List.range.loop]
      refine Win.pureOp (v := .bool (decide (d = 1))) (.inl hb) rfl rfl (fun w => by rw [Sem.runT_eq]; simp [go_sem, execOp, Act.eval]; try rfl) ?_
      simp only [Act.put, Act.eval, List.getElem_toArray, List.getElem_cons_zero, List.getElem_cons_succ, List.setIfInBounds_toArray, List.set_cons_succ, List.set_cons_zero]
      refine Win.pureOp (v := .bool (decide (d = 1))) (.inl hb) rfl rfl (fun w => by rw [Sem.runT_eq]; simp [go_sem, execOp, Act.eval]; try rfl) ?_
      simp only [Act.put, Act.eval, List.getElem_toArray, List.getElem_cons_zero, List.getElem_cons_succ, List.setIfInBounds_toArray, List.set_cons_succ, List.set_cons_zero]
      refine Win.opsEnd ?_
      refine Win.cond (t := decide (d = 1)) rfl ?_
      by_cases hd1 : d = 1
      · rw [ptree, if_neg hd0, if_pos hd1] at K2
        simp only [hd1, decide_true, if_true]
        rw [hd1] at hrow hP'
        refine prog_write (x := (fun j => match j with | 5 => .pointer (some ⟨bx, 0, none⟩) | 6 => .int .i64 i | 7 => .slice (some ⟨ba, oa, none⟩) l.length cp | 8 => .int .i64 l.length | 9 => .bool true | 12 => .slice (some ⟨ba, oa, none⟩) l.length cp | 13 => .int .i64 i | 14 => .pointer (some ⟨ba, oa + 3 * i, none⟩) | 15 => .agg #[.int .u8 1, .int .i64 k, .int .u64 v] | 16 => .pointer (some ⟨bx, 0, none⟩) | 17 => .int .u8 1 | 25 => .bool false | 26 => .bool false | 33 => .bool true | 34 => .bool true | j => x j)) (at' := k) (u := lst g) (v' := v) (T' := fun g => ptree lst setL rest (lst g)) hSh hmv rfl hx0 hx2 rfl hP' (fun w g h hs => ⟨(hrd w g h.1 hs).2.1, cell_of_row h.2 1, cell_of_row h.2 2⟩) (fun w h hs => (hrd w g h.1 hs).2.2.1) (hstop _ _ (fun b hb => .inl hb) fun w h => h.1) ?_ hA2 hown2 ⟨hAw2, hrow⟩ hs2 K2
        intro y home n pl F col w g y0 y1 y2 y4 hA3 hown3 hA3' hs3 K3
        exact hcont y home n pl F col w g _ y0 y1 y2 y4 hA3 (fun b hb => hown3 b (.inl hb)) hA3'.1 hs3 K3
      · rw [ptree, if_neg hd0, if_neg hd1] at K2
        simp only [hd1, decide_false, if_false, Bool.false_eq_true]
        refine prog_update (x := (fun j => match j with | 5 => .pointer (some ⟨bx, 0, none⟩) | 6 => .int .i64 i | 7 => .slice (some ⟨ba, oa, none⟩) l.length cp | 8 => .int .i64 l.length | 9 => .bool true | 12 => .slice (some ⟨ba, oa, none⟩) l.length cp | 13 => .int .i64 i | 14 => .pointer (some ⟨ba, oa + 3 * i, none⟩) | 15 => .agg #[.int .u8 d, .int .i64 k, .int .u64 v] | 16 => .pointer (some ⟨bx, 0, none⟩) | 17 => .int .u8 d | 25 => .bool false | 26 => .bool false | 33 => .bool false | 34 => .bool false | j => x j)) (at' := k) (φ := fun z => IntKind.wrap .u64 (z + v)) (nx := fun u => ptree lst setL rest u) (setL := setL) hSh hmv rfl hx0 hx2 rfl hP' (fun w g h hs => ⟨(hrd w g h.1 hs).2.1, cell_of_row h.2 1⟩) (fun w g h hs => ⟨_, (hrd w g h.1 hs).2.2.1, (hrd w g h.1 hs).2.2.2.1⟩) (fun w g v' h hs => ⟨⟨(hwr w g v' h.1 hs).1, (ks_setCell w ⟨bq, oq, none⟩ (.int .u64 v')).row hbq h.2⟩, (hwr w g v' h.1 hs).2⟩) hsq (fun w' z h _ _ => prog_adds (cell_of_row h.2 2)) (hstop _ _ (fun b hb => .inl hb) fun w h => h.1) ?_ hA2 hown2 ⟨hAw2, hrow⟩ hs2 K2
        intro y v' home n pl F col w g y0 y1 y2 y4 hA3 hown3 hA3' hs3 K3
        refine hcont y home n pl F col w (setL v' g) _ y0 y1 y2 y4 hA3 (fun b hb => hown3 b (.inl hb)) hA3'.1 hs3 ?_
        rw [hlst]; exact K3
end
end Go.Proofs.Ytdingbkgkofanaa
