/- Package agent, the side of who steps: Step, to the turn and from the wait. Written by gen/ag_x.py. Conditions: as each theorem states them. -/
import Derived.Test.YtodcnhodbeakiaaAgW
namespace Go.Proofs.Ytodcnhodbeakiaa
set_option linter.unusedVariables false
set_option linter.unusedSimpArgs false
set_option maxRecDepth 100000
open Go.Conc

theorem alloc_frozen (w : World) (ob : Obj) {c : Addr} {x : Value} (hc : w.cell? c = some x) (hf : w.frozen? c = false) : (w.alloc ob).frozen? c = false := by
  have hlt : c.block < w.heap.size := World.block_lt_of_cell? _ _ hc
  unfold World.frozen? at hf ⊢
  rw [alloc_heap w ob _ hlt]; exact hf
def stepDefer (b0 : Nat) : Deferred := { target := .fn (.func 44) #[.pointer (some ⟨b0, 0, none⟩)], args := #[] }
/-- Step's slots. -/
def stepTmps (p b0 : Nat) (x19 x20 x21 x22 x23 x24 x25 x26 : Value) : Array Value := #[.pointer (some ⟨p, 0, none⟩), .pointer (some ⟨b0, 0, none⟩), .int .i64 0, .pointer (some ⟨p, 0, none⟩), .bool false, .pointer (some ⟨p, 0, none⟩), .pointer (some ⟨p, 0, none⟩), .pointer (some ⟨p, 6, none⟩), .bool false, .bool false, .pointer (some ⟨p, 0, none⟩), .pointer (some ⟨p, 0, none⟩), .pointer (some ⟨p, 5, none⟩), .bool false, .bool false, .pointer (some ⟨p, 0, none⟩), .pointer (some ⟨p, 0, none⟩), .pointer (some ⟨p, 5, none⟩), .func (.func 44) #[] #[.pointer (some ⟨b0, 0, none⟩)], x19, x20, x21, x22, x23, x24, x25, x26]
/-- Where Step stands ahead of its turn. -/
def stepAt (P : Program) (f : Func) (p b0 : Nat) : Frame :=
  (Frame.enter P 15 #[.pointer (some ⟨p, 0, none⟩)] .normal).at ⟨stepTmps p b0 undef undef undef undef undef undef undef undef, [stepDefer b0]⟩ [.code (codeL (codeR (codeR (codeR (codeR (codeR (bodyOf f))))))), .code (codeR (codeR (codeR (codeR (codeR (codeR (bodyOf f)))))))]

/-- Where Step stands while it waits for what comes next. -/
def stepWait (P : Program) (f : Func) (p b0 cU : Nat) : Frame :=
  (Frame.enter P 15 #[.pointer (some ⟨p, 0, none⟩)] .normal).at ⟨stepTmps p b0 (.pointer (some ⟨p, 0, none⟩)) (.pointer (some ⟨p, 0, none⟩)) (.pointer (some ⟨p, 2, none⟩)) (.chan (some cU)) (.pointer (some ⟨p, 0, none⟩)) .nilIface (.pointer (some ⟨p, 0, none⟩)) undef, [stepDefer b0]⟩ [.inRegion (regOps (codeL (codeR (codeR (codeR (codeR (codeR (codeR (bodyOf f)))))))) ) [1], .code (codeR (codeR (codeR (codeR (codeR (codeR (codeR (bodyOf f))))))))]

section
variable {pl : Nat → Option Place} {n h : Nat} {Post : Value → World → Prop} {w : World} {F : Nat → Option (Nat × Nat)}

set_option maxHeartbeats 1000000 in
theorem step_in (L : Lies pl F w) {c : Frame} {cs : List Frame} {p : Nat} (h5 : w.cell? ⟨p, 5, none⟩ = some (.bool false)) (h6 : w.cell? ⟨p, 6, none⟩ = some (.bool false)) (f5 : w.frozen? ⟨p, 5, none⟩ = false) (F5 : Free pl ⟨p, 5, none⟩)
    (H : ∀ b0 w1, b0 = w.heap.size → w1 = (w.alloc (.cells #[.pointer (some ⟨p, 0, none⟩)] 33)).setCell ⟨p, 5, none⟩ (.bool true) → Win Try.prog Post pl n h (gor (stepAt Try.prog Try.f15 p b0) (c :: cs)) w1) :
    Win Try.prog Post pl n h (gor (Frame.enter Try.prog 15 #[.pointer (some ⟨p, 0, none⟩)] .normal) (c :: cs)) w := by
  have hne : (Frame.enter Try.prog 15 #[.pointer (some ⟨p, 0, none⟩)] CallKind.normal).kind = .normal := rfl
  rw [enter_at Try.func15 rfl]
  simp only [Try.ntmps15, List.size_toArray, List.length_cons, List.length_nil, Nat.reduceAdd, Nat.reduceSub, Array.replicate_succ, Array.replicate_zero, List.push_toArray, List.append_toArray, List.nil_append, List.cons_append]
  refine Win.seq ?_
  refine Win.region ?_
  simp only [List.size_toArray, List.length_cons, List.length_nil, Nat.reduceAdd, List.range, List.range.loop]
  refine Win.makeOp (v := .pointer (some ⟨w.heap.size, 0, none⟩)) (ob := .cells #[.pointer (some ⟨p, 0, none⟩)] 33) (es := #[]) L (.inl hne) rfl rfl (fun d => by rw [Sem.runT_eq]; simp [go_sem, execOp, Act.eval]; try rfl) (fun e he => by simp at he) ?_
  simp only [Act.put, Act.eval, List.getElem_toArray, List.getElem_cons_zero, List.getElem_cons_succ, List.setIfInBounds_toArray, List.set_cons_succ, List.set_cons_zero]
  have hb0 : (w.alloc (.cells #[.pointer (some ⟨p, 0, none⟩)] 33)).cell? ⟨w.heap.size, 0, none⟩ = some (.pointer (some ⟨p, 0, none⟩)) := alloc_box w _ _ _
  have h5' : (w.alloc (.cells #[.pointer (some ⟨p, 0, none⟩)] 33)).cell? ⟨p, 5, none⟩ = some (.bool false) := alloc_cell w _ h5
  have h6' : (w.alloc (.cells #[.pointer (some ⟨p, 0, none⟩)] 33)).cell? ⟨p, 6, none⟩ = some (.bool false) := alloc_cell w _ h6
  obtain ⟨b0, hb0e⟩ : ∃ b0, b0 = w.heap.size := ⟨_, rfl⟩
  rw [← hb0e] at hb0 ⊢
  have f5' : (w.alloc (.cells #[.pointer (some ⟨p, 0, none⟩)] 33)).frozen? ⟨p, 5, none⟩ = false := alloc_frozen w _ h5 f5
  generalize hw1 : w.alloc (.cells #[.pointer (some ⟨p, 0, none⟩)] 33) = w1 at *
  refine Win.pureOp (v := .int .i64 0) (.inl hne) rfl rfl (fun w => rfl) ?_
  simp only [Act.put, Act.eval, List.getElem_toArray, List.getElem_cons_zero, List.getElem_cons_succ, List.setIfInBounds_toArray, List.set_cons_succ, List.set_cons_zero]
  refine Win.opsEnd ?_
  refine Win.seq ?_
  refine Win.seq ?_
  refine Win.region ?_
  simp only [List.size_toArray, List.length_cons, List.length_nil, Nat.reduceAdd, List.range, List.range.loop]
  refine Win.lookOp (v := .pointer (some ⟨p, 0, none⟩)) (ad := ⟨b0, 0, none⟩) (x := .pointer (some ⟨p, 0, none⟩)) (.inl hne) rfl rfl (hb0) (fun w hc => by rw [Sem.runT_eq]; simp [go_sem, execOp, Act.eval, hc]) ?_
  simp only [Act.put, Act.eval, List.getElem_toArray, List.getElem_cons_zero, List.getElem_cons_succ, List.setIfInBounds_toArray, List.set_cons_succ, List.set_cons_zero]
  refine Win.pureOp (v := .bool false) (.inl hne) rfl rfl (fun w => by rw [Sem.runT_eq]; simp [go_sem, execOp, Act.eval]; try rfl) ?_
  simp only [Act.put, Act.eval, List.getElem_toArray, List.getElem_cons_zero, List.getElem_cons_succ, List.setIfInBounds_toArray, List.set_cons_succ, List.set_cons_zero]
  refine Win.opsEnd ?_
  refine Win.cond (t := false) rfl ?_
  simp only [if_false, Bool.false_eq_true]
  refine Win.skip ?_
  refine Win.seq ?_
  refine Win.seq ?_
  refine Win.region ?_
  simp only [List.size_toArray, List.length_cons, List.length_nil, Nat.reduceAdd, List.range, List.range.loop]
  refine Win.lookOp (v := .pointer (some ⟨p, 0, none⟩)) (ad := ⟨b0, 0, none⟩) (x := .pointer (some ⟨p, 0, none⟩)) (.inl hne) rfl rfl (hb0) (fun w hc => by rw [Sem.runT_eq]; simp [go_sem, execOp, Act.eval, hc]) ?_
  simp only [Act.put, Act.eval, List.getElem_toArray, List.getElem_cons_zero, List.getElem_cons_succ, List.setIfInBounds_toArray, List.set_cons_succ, List.set_cons_zero]
  refine Win.pureOp (v := .pointer (some ⟨p, 0, none⟩)) (.inl hne) rfl rfl (fun w => by rw [Sem.runT_eq]; simp [go_sem, execOp, Act.eval]) ?_
  simp only [Act.put, Act.eval, List.getElem_toArray, List.getElem_cons_zero, List.getElem_cons_succ, List.setIfInBounds_toArray, List.set_cons_succ, List.set_cons_zero]
  refine Win.pureOp (v := .pointer (some ⟨p, 6, none⟩)) (.inl hne) rfl rfl (fun w => by rw [Sem.runT_eq]; simp [go_sem, execOp, Act.eval]) ?_
  simp only [Act.put, Act.eval, List.getElem_toArray, List.getElem_cons_zero, List.getElem_cons_succ, List.setIfInBounds_toArray, List.set_cons_succ, List.set_cons_zero]
  refine Win.lookOp (v := .bool false) (ad := ⟨p, 6, none⟩) (x := .bool false) (.inl hne) rfl rfl (h6') (fun w hc => by rw [Sem.runT_eq]; simp [go_sem, execOp, Act.eval, hc]) ?_
  simp only [Act.put, Act.eval, List.getElem_toArray, List.getElem_cons_zero, List.getElem_cons_succ, List.setIfInBounds_toArray, List.set_cons_succ, List.set_cons_zero]
  refine Win.pureOp (v := .bool false) (.inl hne) rfl rfl (fun w => rfl) ?_
  simp only [Act.put, Act.eval, List.getElem_toArray, List.getElem_cons_zero, List.getElem_cons_succ, List.setIfInBounds_toArray, List.set_cons_succ, List.set_cons_zero]
  refine Win.lookOp (v := .pointer (some ⟨p, 0, none⟩)) (ad := ⟨b0, 0, none⟩) (x := .pointer (some ⟨p, 0, none⟩)) (.inl hne) rfl rfl (hb0) (fun w hc => by rw [Sem.runT_eq]; simp [go_sem, execOp, Act.eval, hc]) ?_
  simp only [Act.put, Act.eval, List.getElem_toArray, List.getElem_cons_zero, List.getElem_cons_succ, List.setIfInBounds_toArray, List.set_cons_succ, List.set_cons_zero]
  refine Win.pureOp (v := .pointer (some ⟨p, 0, none⟩)) (.inl hne) rfl rfl (fun w => by rw [Sem.runT_eq]; simp [go_sem, execOp, Act.eval]) ?_
  simp only [Act.put, Act.eval, List.getElem_toArray, List.getElem_cons_zero, List.getElem_cons_succ, List.setIfInBounds_toArray, List.set_cons_succ, List.set_cons_zero]
  refine Win.pureOp (v := .pointer (some ⟨p, 5, none⟩)) (.inl hne) rfl rfl (fun w => by rw [Sem.runT_eq]; simp [go_sem, execOp, Act.eval]) ?_
  simp only [Act.put, Act.eval, List.getElem_toArray, List.getElem_cons_zero, List.getElem_cons_succ, List.setIfInBounds_toArray, List.set_cons_succ, List.set_cons_zero]
  refine Win.lookOp (v := .bool false) (ad := ⟨p, 5, none⟩) (x := .bool false) (.inl hne) rfl rfl (h5') (fun w hc => by rw [Sem.runT_eq]; simp [go_sem, execOp, Act.eval, hc]) ?_
  simp only [Act.put, Act.eval, List.getElem_toArray, List.getElem_cons_zero, List.getElem_cons_succ, List.setIfInBounds_toArray, List.set_cons_succ, List.set_cons_zero]
  refine Win.pureOp (v := .bool false) (.inl hne) rfl rfl (fun w => rfl) ?_
  simp only [Act.put, Act.eval, List.getElem_toArray, List.getElem_cons_zero, List.getElem_cons_succ, List.setIfInBounds_toArray, List.set_cons_succ, List.set_cons_zero]
  refine Win.opsEnd ?_
  refine Win.cond (t := false) rfl ?_
  simp only [if_false, Bool.false_eq_true]
  refine Win.skip ?_
  refine Win.seq ?_
  refine Win.region ?_
  simp only [List.size_toArray, List.length_cons, List.length_nil, Nat.reduceAdd, List.range, List.range.loop]
  refine Win.lookOp (v := .pointer (some ⟨p, 0, none⟩)) (ad := ⟨b0, 0, none⟩) (x := .pointer (some ⟨p, 0, none⟩)) (.inl hne) rfl rfl (hb0) (fun w hc => by rw [Sem.runT_eq]; simp [go_sem, execOp, Act.eval, hc]) ?_
  simp only [Act.put, Act.eval, List.getElem_toArray, List.getElem_cons_zero, List.getElem_cons_succ, List.setIfInBounds_toArray, List.set_cons_succ, List.set_cons_zero]
  refine Win.pureOp (v := .pointer (some ⟨p, 0, none⟩)) (.inl hne) rfl rfl (fun w => by rw [Sem.runT_eq]; simp [go_sem, execOp, Act.eval]) ?_
  simp only [Act.put, Act.eval, List.getElem_toArray, List.getElem_cons_zero, List.getElem_cons_succ, List.setIfInBounds_toArray, List.set_cons_succ, List.set_cons_zero]
  refine Win.pureOp (v := .pointer (some ⟨p, 5, none⟩)) (.inl hne) rfl rfl (fun w => by rw [Sem.runT_eq]; simp [go_sem, execOp, Act.eval]) ?_
  simp only [Act.put, Act.eval, List.getElem_toArray, List.getElem_cons_zero, List.getElem_cons_succ, List.setIfInBounds_toArray, List.set_cons_succ, List.set_cons_zero]
  refine Win.storeOp (ad := ⟨p, 5, none⟩) (x := .bool true) (.inl hne) rfl rfl F5 (fun d => by
    rw [Sem.runT_eq]
    have c1 : (w1.at d).cell? ⟨p, 5, none⟩ = some (.bool false) := h5'
    have c2 : (w1.at d).frozen? ⟨p, 5, none⟩ = false := f5'
    generalize w1.at d = W at c1 c2 ⊢
    obtain ⟨s1, s2⟩ := store_ok (P := Try.prog) (x := .bool true) (w := W) (m := .plain) (by simp) (by simp) c1 c2
    simp [go_sem, execOp, Act.eval, s1, s2, c1, c2]) ?_
  simp only [Act.put, Act.eval, List.getElem_toArray, List.getElem_cons_zero, List.getElem_cons_succ, List.setIfInBounds_toArray, List.set_cons_succ, List.set_cons_zero]
  refine Win.opsEnd ?_
  refine Win.seq ?_
  refine Win.region ?_
  simp only [List.size_toArray, List.length_cons, List.length_nil, Nat.reduceAdd, List.range, List.range.loop]
  refine Win.pureOp (v := .func (.func 44) #[] #[.pointer (some ⟨b0, 0, none⟩)]) (.inl hne) rfl rfl (fun w => by rw [Sem.runT_eq]; simp [go_sem, execOp, Act.eval]; try rfl) ?_
  simp only [Act.put, Act.eval, List.getElem_toArray, List.getElem_cons_zero, List.getElem_cons_succ, List.setIfInBounds_toArray, List.set_cons_succ, List.set_cons_zero]
  refine Win.defers (d₀ := stepDefer b0) (.inl hne) rfl rfl (fun d => ⟨#[], by rw [Sem.runT_eq]; simp [go_sem, execOp, Act.eval, stepDefer]; try rfl, fun e he => by simp at he⟩) ?_
  simp only [Act.put, Act.eval, List.getElem_toArray, List.getElem_cons_zero, List.getElem_cons_succ, List.setIfInBounds_toArray, List.set_cons_succ, List.set_cons_zero]
  refine Win.opsEnd ?_
  refine Win.seq ?_
  exact H b0 _ hb0e (by rw [← hw1])

theorem setCell_frozen (w : World) (ad c : Addr) (x : Value) (hf : w.frozen? c = false) : (w.setCell ad x).frozen? c = false := by simp [go_sem, hf]

/-- Behind the wait: Step answers. -/
theorem step_back {c : Frame} {cs : List Frame} {p b0 cT cU : Nat} {next x y z : Value} {ok : Bool} (h4 : w.cell? ⟨p, 4, none⟩ = some x) (h5 : w.cell? ⟨p, 5, none⟩ = some z) (h6 : w.cell? ⟨p, 6, none⟩ = some y) (f4 : w.frozen? ⟨p, 4, none⟩ = false) (f5 : w.frozen? ⟨p, 5, none⟩ = false) (f6 : w.frozen? ⟨p, 6, none⟩ = false)
    (hn1 : ∀ l, next ≠ .agg l) (hn2 : ∀ l, next ≠ .tuple l) (F4 : Free pl ⟨p, 4, none⟩) (F5 : Free pl ⟨p, 5, none⟩) (F6 : Free pl ⟨p, 6, none⟩) (hb : w.cell? ⟨b0, 0, none⟩ = some (.pointer (some ⟨p, 0, none⟩))) (hbp : b0 ≠ p)
    (H : Win Try.prog Post pl n h (gor (c.finish (.int .i64 0)) cs) (((w.setCell ⟨p, 4, none⟩ next).setCell ⟨p, 6, none⟩ (.bool !ok)).setCell ⟨p, 5, none⟩ (.bool false))) :
    Win Try.prog Post pl n h (Go.Conc.served (gor (waitFr Try.prog Try.f41 p cT) (stepWait Try.prog Try.f15 p b0 cU :: c :: cs)) (.tuple #[next, .bool ok])) w := by
  refine wait_back h4 h6 f4 f6 hn1 hn2 F4 F6 ?_
  have hb' : ((w.setCell ⟨p, 4, none⟩ next).setCell ⟨p, 6, none⟩ (.bool !ok)).cell? ⟨b0, 0, none⟩ = some (.pointer (some ⟨p, 0, none⟩)) := cell_setCell_ne (cell_setCell_ne hb (by simp [hbp])) (by simp [hbp])
  have h5' : ((w.setCell ⟨p, 4, none⟩ next).setCell ⟨p, 6, none⟩ (.bool !ok)).cell? ⟨p, 5, none⟩ = some z := cell_setCell_ne (cell_setCell_ne h5 (by simp)) (by simp)
  have f5' : ((w.setCell ⟨p, 4, none⟩ next).setCell ⟨p, 6, none⟩ (.bool !ok)).frozen? ⟨p, 5, none⟩ = false := setCell_frozen _ _ _ _ (setCell_frozen _ _ _ _ f5)
  generalize (w.setCell ⟨p, 4, none⟩ next).setCell ⟨p, 6, none⟩ (.bool !ok) = w1 at *
  unfold stepWait
  rw [Frame.finish_at]
  have hne : (Frame.enter Try.prog 15 #[.pointer (some ⟨p, 0, none⟩)] CallKind.normal).kind = .normal := rfl
  simp only [bodyOf, Try.f15, codeL, codeR, regOps, Option.getD_some, stepTmps]
  simp only [Act.put, Act.eval, List.getElem?_toArray, List.getElem?_cons_zero, List.getElem?_cons_succ, Option.bind_some, List.getElem_toArray, List.getElem_cons_zero, List.getElem_cons_succ, List.setIfInBounds_toArray, List.set_cons_succ, List.set_cons_zero]
  refine Win.opsEnd ?_
  refine Win.seq ?_
  refine Win.region ?_
  simp only [List.size_toArray, List.length_cons, List.length_nil, Nat.reduceAdd, List.range, List.range.loop]
  refine Win.pureOp (v := .int .i64 0) (.inl hne) rfl rfl (fun w => rfl) ?_
  simp only [Act.put, Act.eval, List.getElem_toArray, List.getElem_cons_zero, List.getElem_cons_succ, List.setIfInBounds_toArray, List.set_cons_succ, List.set_cons_zero]
  refine Win.opsEnd ?_
  refine Win.ret ?_
  refine Win.callsDeferred (d₀ := stepDefer b0) (ds := []) (f := 44) (args := #[.pointer (some ⟨b0, 0, none⟩)]) (by simp) rfl trivial (by simp [stepDefer]) (fun d => ⟨#[], invoke_enter mild.toMild Try.func44 rfl _ _ _ _, fun e he => by simp at he⟩) ?_
  have hne2 : (Frame.enter Try.prog 44 #[.pointer (some ⟨b0, 0, none⟩)] CallKind.deferred).kind = .deferred := rfl
  rw [enter_at Try.func44 rfl]
  simp only [Try.ntmps44, List.size_toArray, List.length_cons, List.length_nil, Nat.reduceAdd, Nat.reduceSub, Array.replicate_succ, Array.replicate_zero, List.push_toArray, List.append_toArray, List.nil_append, List.cons_append]
  refine Win.region ?_
  simp only [List.size_toArray, List.length_cons, List.length_nil, Nat.reduceAdd, List.range, List.range.loop]
  refine Win.lookOp (v := .pointer (some ⟨p, 0, none⟩)) (ad := ⟨b0, 0, none⟩) (x := .pointer (some ⟨p, 0, none⟩)) (.inr hne2) rfl rfl (hb') (fun w hc => by rw [Sem.runT_eq]; simp [go_sem, execOp, Act.eval, hc]) ?_
  simp only [Act.put, Act.eval, List.getElem_toArray, List.getElem_cons_zero, List.getElem_cons_succ, List.setIfInBounds_toArray, List.set_cons_succ, List.set_cons_zero]
  refine Win.pureOp (v := .pointer (some ⟨p, 0, none⟩)) (.inr hne2) rfl rfl (fun w => by rw [Sem.runT_eq]; simp [go_sem, execOp, Act.eval]) ?_
  simp only [Act.put, Act.eval, List.getElem_toArray, List.getElem_cons_zero, List.getElem_cons_succ, List.setIfInBounds_toArray, List.set_cons_succ, List.set_cons_zero]
  refine Win.pureOp (v := .pointer (some ⟨p, 5, none⟩)) (.inr hne2) rfl rfl (fun w => by rw [Sem.runT_eq]; simp [go_sem, execOp, Act.eval]) ?_
  simp only [Act.put, Act.eval, List.getElem_toArray, List.getElem_cons_zero, List.getElem_cons_succ, List.setIfInBounds_toArray, List.set_cons_succ, List.set_cons_zero]
  refine Win.storeOp (ad := ⟨p, 5, none⟩) (x := .bool false) (.inr hne2) rfl rfl F5 (fun d => by
    rw [Sem.runT_eq]
    have c1 : (w1.at d).cell? ⟨p, 5, none⟩ = some z := h5'
    have c2 : (w1.at d).frozen? ⟨p, 5, none⟩ = false := f5'
    generalize w1.at d = W at c1 c2 ⊢
    obtain ⟨s1, s2⟩ := store_ok (P := Try.prog) (x := .bool false) (w := W) (m := .plain) (by simp) (by simp) c1 c2
    simp [go_sem, execOp, Act.eval, s1, s2, c1, c2]) ?_
  simp only [Act.put, Act.eval, List.getElem_toArray, List.getElem_cons_zero, List.getElem_cons_succ, List.setIfInBounds_toArray, List.set_cons_succ, List.set_cons_zero]
  refine Win.opsEnd ?_
  refine Win.falls ?_
  refine Win.leaveDeferred (v := .tuple #[]) rfl rfl hne2 Try.func44 (fun d => ⟨#[], by rw [Sem.runT_eq]; simp [go_sem, results, Try.f44], fun e he => by simp at he⟩) (fun v' g older => by simp) ?_
  exact Win.leave (v := .int .i64 0) rfl rfl hne Try.func15 (fun d => ⟨#[], by rw [Sem.runT_eq]; simp [go_sem, results, Try.f15, Frame.at], fun e he => by simp at he⟩) H
end
end Go.Proofs.Ytodcnhodbeakiaa
