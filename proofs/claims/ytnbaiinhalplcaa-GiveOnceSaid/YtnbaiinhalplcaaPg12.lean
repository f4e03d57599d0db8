/- Agents by trees, on: the desk of who steps; how agents stand is carried over what others do. Conditions: none. Package agent, the side of who steps: Step, to the turn and from the wait. Written by gen/ag_x.py. Package agent, the side of who steps: Step's turn. Written by gen/ag_y.py. Agents by trees, on: a Step, as a whole. Conditions: as each theorem states them. -/
import Derived.Test.YtnbaiinhalplcaaPg11
namespace Go.Proofs.Ytnbaiinhalplcaa
set_option linter.unusedVariables false
set_option linter.unusedSimpArgs false
set_option maxRecDepth 100000
open Go.Conc

/-- Who steps acts. -/
structure Desk (SB : Nat → Prop) (pA rA : Nat) (pl : Nat → Option Place) (F : Nat → Option (Nat × Nat)) (col : Nat → Col) (w : World) : Prop where
  pl0 : pl 0 = none
  lies : Lies pl F w
  lay : Lay SB pA rA col F w
  own : ∀ i s c, pl i = some s → s.has c → col c = .sys i
/-- An agent's own blocks. -/
structure AgOK (a : Ag) (F : Nat → Option (Nat × Nat)) (col : Nat → Col) : Prop where
  jpos : 0 < a.j
  fm : F a.m = some (0, 1)
  fp : F a.p = some (1, 4)
  cm : col a.m = .sys a.j
  cp : col a.p = .sys a.j
  ccT : col a.cT = .sys a.j
  ccU : col a.cU = .sys a.j
  ccS : col a.cS = .sys a.j
  dis : a.cT ≠ a.cU ∧ a.cT ≠ a.cS ∧ a.cU ≠ a.cS

/-- What is old is whose it was, and lies as it lay. -/
structure Same (F : Nat → Option (Nat × Nat)) (col : Nat → Col) (w : World) (F' : Nat → Option (Nat × Nat)) (col' : Nat → Col) : Prop where
  co : ∀ b, b < w.heap.size → col' b = col b
  fo : ∀ b, b < w.heap.size → F' b = F b

section
variable {G : Type} {Post : Value → World → Prop} {Sh : (Nat → Col) → World → G → Prop} {SB : Nat → Prop} {pA rA : Nat} {a : Ag} {mv : Value} {home : Goroutine → Prop} {n : Nat} {T : Tree G} {runs ov : Bool}
variable {pl pl' : Nat → Option Place} {F F' F1 : Nat → Option (Nat × Nat)} {col col' col1 : Nat → Col} {w w' w1 : World} {g : G} {S : Nat → Prop}

theorem Lay.lt (L : Lay SB pA rA col F w) {b : Nat} (h : col b ≠ .main) : b < w.heap.size := by
  rcases Nat.lt_or_ge b w.heap.size with z | z
  · exact z
  · exact absurd (L.above b z) h
theorem Same.sys (h : Same F col w F' col') (L : Lay SB pA rA col F w) {b j : Nat} (hb : col b = .sys j) : col' b = .sys j := (h.co b (L.lt (by rw [hb]; simp))).trans hb
theorem AgOK.keep (h : AgOK a F col) (L : Lay SB pA rA col F w) (k : Same F col w F' col') : AgOK a F' col' :=
  ⟨h.jpos, (k.fo _ (L.lt (by rw [h.cm]; simp))).trans h.fm, (k.fo _ (L.lt (by rw [h.cp]; simp))).trans h.fp, k.sys L h.cm, k.sys L h.cp, k.sys L h.ccT, k.sys L h.ccU, k.sys L h.ccS, h.dis⟩

theorem Poised.keep {t : Value} (h : Poised Post Sh SB pA rA a mv T pl F col w t) (L : Lay SB pA rA col F w) (hst : ∃ nx bz ov, StAt a mv nx bz ov w) (hj : pl' a.j = pl a.j) (hcm : col a.m = .sys a.j) (k : Same F col w F' col')
    (hk : ∀ b, b < w.heap.size → col b = .ag a.j ∨ (col b = .sys a.j ∧ b ≠ a.p) → w'.heap[b]? = w.heap[b]?) : Poised Post Sh SB pA rA a mv T pl' F' col' w' t := by
  cases T with
  | ret => exact h
  | node kk φ c nx hl pre =>
    obtain ⟨b3, homeJ, own, A, B, f, cap, h1, h2, h3, h4, h5, h6, h7, h8, h9, h10, h11, h12, h13, h14⟩ := h
    obtain ⟨nxv, bz, ov, hst⟩ := hst
    have hmp : a.m ≠ a.p := fun e => by
      unfold MeAt at h6
      unfold StAt at hst
      rw [e, hst] at h6
      simp at h6
    have hbp : b3 ≠ a.p := fun e => by
      unfold StAt at hst
      rw [e, hst] at h7
      simp at h7
    refine ⟨b3, homeJ, own, A, B, f, cap, hj.trans h1, fun b hb => ?_, h3, h4, h3.st _ _ h5 fun b hb => hk b (h3.lt _ _ h5 hb) (.inl (h2 b hb)), ?_, ?_, k.sys L h8, ?_, ?_, h11, h12, h13, h14⟩
    · exact (k.co b (L.lt (by rw [h2 b hb]; simp))).trans (h2 b hb)
    · exact (hk a.m (L.lt (by rw [hcm]; simp)) (.inr ⟨hcm, hmp⟩)).trans h6
    · exact (hk b3 (L.lt (by rw [h8]; simp)) (.inr ⟨h8, hbp⟩)).trans h7
    · exact (k.fo _ (L.lt (by rw [hcm]; simp))).trans h9
    · exact (k.fo _ (L.lt (by rw [h8]; simp))).trans h10

theorem Open.same {c : Nat} (h : Open c w) (e : w'.heap[c]? = w.heap[c]?) : Open c w' := by
  obtain ⟨k, hk⟩ := h
  exact ⟨k, e.trans hk⟩
/-- One who neither acts nor is stepped stands as it stood. -/
theorem Stands.keep (h : Stands Post Sh SB pA rA a mv T pl F col w) (hO : AgOK a F col) (L : Lay SB pA rA col F w) (hj : pl' a.j = pl a.j) (k : Same F col w F' col')
    (hk : ∀ b, b < w.heap.size → col b = .ag a.j ∨ col b = .sys a.j → w'.heap[b]? = w.heap[b]?) : Stands Post Sh SB pA rA a mv T pl' F' col' w' := by
  have hs : ∀ b, col b = .sys a.j → w'.heap[b]? = w.heap[b]? := fun b hb => hk b (L.lt (by rw [hb]; simp)) (.inr hb)
  cases T with
  | ret => exact ⟨hj.trans h.1, (hs _ hO.cp).trans h.2⟩
  | node kk φ c nx hl pre =>
    obtain ⟨t, h1, h2, h3, h4, h5⟩ := h
    exact ⟨t, (hs _ hO.cp).trans h1, h2.same (hs _ hO.ccT), h3.same (hs _ hO.ccU), h4.same (hs _ hO.ccS), h5.keep L ⟨_, _, _, h1⟩ hj hO.cm k fun b hb hc => hk b hb (hc.imp id (·.1))⟩
end
end Go.Proofs.Ytnbaiinhalplcaa

namespace Go.Proofs.Ytnbaiinhalplcaa
open List renaming getElem_toArray → gtA, getElem_cons_zero → gtZ, getElem_cons_succ → gtS, setIfInBounds_toArray → siA, set_cons_succ → scS, set_cons_zero → scZ, getElem?_toArray → gqA, getElem?_cons_zero → gqZ, getElem?_cons_succ → gqS
set_option linter.unusedVariables false
set_option linter.unusedSimpArgs false
set_option maxRecDepth 100000
open Go.Conc

theorem alloc_frozen (w : World) (ob : Obj) {c : Addr} {x : Value} (hc : w.cell? c = some x) (hf : w.frozen? c = false) : (w.alloc ob).frozen? c = false := by
  have hlt : c.block < w.heap.size := World.block_lt_of_cell? _ _ hc
  unfold World.frozen? at hf ⊢
  rw [alloc_heap w ob _ hlt]; exact hf
def stepDefer (b0 : Nat) : Deferred := { target := .fn (.func 41) #[.pointer (some ⟨b0, 0, none⟩)], args := #[] }
/-- Step's slots. -/
def stepTmps (p b0 : Nat) (x19 x20 x21 x22 x23 x24 x25 x26 : Value) : Array Value := #[.pointer (some ⟨p, 0, none⟩), .pointer (some ⟨b0, 0, none⟩), .int .i64 0, .pointer (some ⟨p, 0, none⟩), .bool false, .pointer (some ⟨p, 0, none⟩), .pointer (some ⟨p, 0, none⟩), .pointer (some ⟨p, 6, none⟩), .bool false, .bool false, .pointer (some ⟨p, 0, none⟩), .pointer (some ⟨p, 0, none⟩), .pointer (some ⟨p, 5, none⟩), .bool false, .bool false, .pointer (some ⟨p, 0, none⟩), .pointer (some ⟨p, 0, none⟩), .pointer (some ⟨p, 5, none⟩), .func (.func 41) #[] #[.pointer (some ⟨b0, 0, none⟩)], x19, x20, x21, x22, x23, x24, x25, x26]
/-- Where Step stands ahead of its turn. -/
def stepAt (P : Program) (f : Func) (p b0 : Nat) : Frame :=
  (Frame.enter P 12 #[.pointer (some ⟨p, 0, none⟩)] .normal).at ⟨stepTmps p b0 undef undef undef undef undef undef undef undef, [stepDefer b0]⟩ [.code (codeL (codeR (codeR (codeR (codeR (codeR (bodyOf f))))))), .code (codeR (codeR (codeR (codeR (codeR (codeR (bodyOf f)))))))]

/-- Where Step stands while it waits for what comes next. -/
def stepWait (P : Program) (f : Func) (p b0 cU : Nat) : Frame :=
  (Frame.enter P 12 #[.pointer (some ⟨p, 0, none⟩)] .normal).at ⟨stepTmps p b0 (.pointer (some ⟨p, 0, none⟩)) (.pointer (some ⟨p, 0, none⟩)) (.pointer (some ⟨p, 2, none⟩)) (.chan (some cU)) (.pointer (some ⟨p, 0, none⟩)) .nilIface (.pointer (some ⟨p, 0, none⟩)) undef, [stepDefer b0]⟩ [.inRegion (regOps (codeL (codeR (codeR (codeR (codeR (codeR (codeR (bodyOf f)))))))) ) [1], .code (codeR (codeR (codeR (codeR (codeR (codeR (codeR (bodyOf f))))))))]

section
variable {pl : Nat → Option Place} {n h : Nat} {Post : Value → World → Prop} {w : World} {F : Nat → Option (Nat × Nat)}

set_option maxHeartbeats 1000000 in
theorem step_in (L : Lies pl F w) {c : Frame} {cs : List Frame} {p : Nat} (h5 : w.cell? ⟨p, 5, none⟩ = some (.bool false)) (h6 : w.cell? ⟨p, 6, none⟩ = some (.bool false)) (f5 : w.frozen? ⟨p, 5, none⟩ = false) (F5 : Free pl ⟨p, 5, none⟩)
    (H : ∀ b0 w1, b0 = w.heap.size → w1 = (w.alloc (.cells #[.pointer (some ⟨p, 0, none⟩)] 35)).setCell ⟨p, 5, none⟩ (.bool true) → Win Try.prog Post pl n h (gor (stepAt Try.prog Try.f12 p b0) (c :: cs)) w1) :
    Win Try.prog Post pl n h (gor (Frame.enter Try.prog 12 #[.pointer (some ⟨p, 0, none⟩)] .normal) (c :: cs)) w := by
  have hne : (Frame.enter Try.prog 12 #[.pointer (some ⟨p, 0, none⟩)] CallKind.normal).kind = .normal := rfl
  rw [enter_at Try.func12 rfl]
  simp only [Try.ntmps12, List.size_toArray, List.length_cons, List.length_nil, Nat.reduceAdd, Nat.reduceSub, Array.replicate_succ, Array.replicate_zero, List.push_toArray, List.append_toArray, List.nil_append, List.cons_append]
  refine Win.seq ?_
  refine Win.region ?_
  simp only [List.size_toArray, List.length_cons, List.length_nil, Nat.reduceAdd, List.range, List.range.loop]
  refine Win.makeOp (v := .pointer (some ⟨w.heap.size, 0, none⟩)) (ob := .cells #[.pointer (some ⟨p, 0, none⟩)] 35) (es := #[]) L (.inl hne) rfl rfl (fun d => by rw [Sem.runT_eq]; simp [go_sem, execOp, Act.eval]; try rfl) (fun e he => by simp at he) ?_
  simp only [Act.put, Act.eval, gtA, gtZ, gtS, siA, scS, scZ]
  have hb0 : (w.alloc (.cells #[.pointer (some ⟨p, 0, none⟩)] 35)).cell? ⟨w.heap.size, 0, none⟩ = some (.pointer (some ⟨p, 0, none⟩)) := alloc_box w _ _ _
  have h5' : (w.alloc (.cells #[.pointer (some ⟨p, 0, none⟩)] 35)).cell? ⟨p, 5, none⟩ = some (.bool false) := alloc_cell w _ h5
  have h6' : (w.alloc (.cells #[.pointer (some ⟨p, 0, none⟩)] 35)).cell? ⟨p, 6, none⟩ = some (.bool false) := alloc_cell w _ h6
  obtain ⟨b0, hb0e⟩ : ∃ b0, b0 = w.heap.size := ⟨_, rfl⟩
  rw [← hb0e] at hb0 ⊢
  have f5' : (w.alloc (.cells #[.pointer (some ⟨p, 0, none⟩)] 35)).frozen? ⟨p, 5, none⟩ = false := alloc_frozen w _ h5 f5
  generalize hw1 : w.alloc (.cells #[.pointer (some ⟨p, 0, none⟩)] 35) = w1 at *
  refine Win.pureOp (v := .int .i64 0) (.inl hne) rfl rfl (fun w => rfl) ?_
  simp only [Act.put, Act.eval, gtA, gtZ, gtS, siA, scS, scZ]
  refine Win.opsEnd ?_
  refine Win.seq ?_
  refine Win.seq ?_
  refine Win.region ?_
  simp only [List.size_toArray, List.length_cons, List.length_nil, Nat.reduceAdd, List.range, List.range.loop]
  refine Win.lookOp (v := .pointer (some ⟨p, 0, none⟩)) (ad := ⟨b0, 0, none⟩) (x := .pointer (some ⟨p, 0, none⟩)) (.inl hne) rfl rfl (hb0) (fun w hc => by rw [Sem.runT_eq]; simp [go_sem, execOp, Act.eval, hc]) ?_
  simp only [Act.put, Act.eval, gtA, gtZ, gtS, siA, scS, scZ]
  refine Win.pureOp (v := .bool false) (.inl hne) rfl rfl (fun w => by rw [Sem.runT_eq]; simp [go_sem, execOp, Act.eval]; try rfl) ?_
  simp only [Act.put, Act.eval, gtA, gtZ, gtS, siA, scS, scZ]
  refine Win.opsEnd ?_
  refine Win.cond (t := false) rfl ?_
  simp only [if_false, Bool.false_eq_true]
  refine Win.skip ?_
  refine Win.seq ?_
  refine Win.seq ?_
  refine Win.region ?_
  simp only [List.size_toArray, List.length_cons, List.length_nil, Nat.reduceAdd, List.range, List.range.loop]
  refine Win.lookOp (v := .pointer (some ⟨p, 0, none⟩)) (ad := ⟨b0, 0, none⟩) (x := .pointer (some ⟨p, 0, none⟩)) (.inl hne) rfl rfl (hb0) (fun w hc => by rw [Sem.runT_eq]; simp [go_sem, execOp, Act.eval, hc]) ?_
  simp only [Act.put, Act.eval, gtA, gtZ, gtS, siA, scS, scZ]
  refine Win.pureOp (v := .pointer (some ⟨p, 0, none⟩)) (.inl hne) rfl rfl (fun w => by rw [Sem.runT_eq]; simp [go_sem, execOp, Act.eval]) ?_
  simp only [Act.put, Act.eval, gtA, gtZ, gtS, siA, scS, scZ]
  refine Win.pureOp (v := .pointer (some ⟨p, 6, none⟩)) (.inl hne) rfl rfl (fun w => by rw [Sem.runT_eq]; simp [go_sem, execOp, Act.eval]) ?_
  simp only [Act.put, Act.eval, gtA, gtZ, gtS, siA, scS, scZ]
  refine Win.lookOp (v := .bool false) (ad := ⟨p, 6, none⟩) (x := .bool false) (.inl hne) rfl rfl (h6') (fun w hc => by rw [Sem.runT_eq]; simp [go_sem, execOp, Act.eval, hc]) ?_
  simp only [Act.put, Act.eval, gtA, gtZ, gtS, siA, scS, scZ]
  refine Win.pureOp (v := .bool false) (.inl hne) rfl rfl (fun w => rfl) ?_
  simp only [Act.put, Act.eval, gtA, gtZ, gtS, siA, scS, scZ]
  refine Win.lookOp (v := .pointer (some ⟨p, 0, none⟩)) (ad := ⟨b0, 0, none⟩) (x := .pointer (some ⟨p, 0, none⟩)) (.inl hne) rfl rfl (hb0) (fun w hc => by rw [Sem.runT_eq]; simp [go_sem, execOp, Act.eval, hc]) ?_
  simp only [Act.put, Act.eval, gtA, gtZ, gtS, siA, scS, scZ]
  refine Win.pureOp (v := .pointer (some ⟨p, 0, none⟩)) (.inl hne) rfl rfl (fun w => by rw [Sem.runT_eq]; simp [go_sem, execOp, Act.eval]) ?_
  simp only [Act.put, Act.eval, gtA, gtZ, gtS, siA, scS, scZ]
  refine Win.pureOp (v := .pointer (some ⟨p, 5, none⟩)) (.inl hne) rfl rfl (fun w => by rw [Sem.runT_eq]; simp [go_sem, execOp, Act.eval]) ?_
  simp only [Act.put, Act.eval, gtA, gtZ, gtS, siA, scS, scZ]
  refine Win.lookOp (v := .bool false) (ad := ⟨p, 5, none⟩) (x := .bool false) (.inl hne) rfl rfl (h5') (fun w hc => by rw [Sem.runT_eq]; simp [go_sem, execOp, Act.eval, hc]) ?_
  simp only [Act.put, Act.eval, gtA, gtZ, gtS, siA, scS, scZ]
  refine Win.pureOp (v := .bool false) (.inl hne) rfl rfl (fun w => rfl) ?_
  simp only [Act.put, Act.eval, gtA, gtZ, gtS, siA, scS, scZ]
  refine Win.opsEnd ?_
  refine Win.cond (t := false) rfl ?_
  simp only [if_false, Bool.false_eq_true]
  refine Win.skip ?_
  refine Win.seq ?_
  refine Win.region ?_
  simp only [List.size_toArray, List.length_cons, List.length_nil, Nat.reduceAdd, List.range, List.range.loop]
  refine Win.lookOp (v := .pointer (some ⟨p, 0, none⟩)) (ad := ⟨b0, 0, none⟩) (x := .pointer (some ⟨p, 0, none⟩)) (.inl hne) rfl rfl (hb0) (fun w hc => by rw [Sem.runT_eq]; simp [go_sem, execOp, Act.eval, hc]) ?_
  simp only [Act.put, Act.eval, gtA, gtZ, gtS, siA, scS, scZ]
  refine Win.pureOp (v := .pointer (some ⟨p, 0, none⟩)) (.inl hne) rfl rfl (fun w => by rw [Sem.runT_eq]; simp [go_sem, execOp, Act.eval]) ?_
  simp only [Act.put, Act.eval, gtA, gtZ, gtS, siA, scS, scZ]
  refine Win.pureOp (v := .pointer (some ⟨p, 5, none⟩)) (.inl hne) rfl rfl (fun w => by rw [Sem.runT_eq]; simp [go_sem, execOp, Act.eval]) ?_
  simp only [Act.put, Act.eval, gtA, gtZ, gtS, siA, scS, scZ]
  refine Win.storeOp (ad := ⟨p, 5, none⟩) (x := .bool true) (.inl hne) rfl rfl F5 (fun d => by
    rw [Sem.runT_eq]
    have c1 : (w1.at d).cell? ⟨p, 5, none⟩ = some (.bool false) := h5'
    have c2 : (w1.at d).frozen? ⟨p, 5, none⟩ = false := f5'
    generalize w1.at d = W at c1 c2 ⊢
    obtain ⟨s1, s2⟩ := store_ok (P := Try.prog) (x := .bool true) (w := W) (m := .plain) (by simp) (by simp) c1 c2
    simp [go_sem, execOp, Act.eval, s1, s2, c1, c2]) ?_
  simp only [Act.put, Act.eval, gtA, gtZ, gtS, siA, scS, scZ]
  refine Win.opsEnd ?_
  refine Win.seq ?_
  refine Win.region ?_
  simp only [List.size_toArray, List.length_cons, List.length_nil, Nat.reduceAdd, List.range, List.range.loop]
  refine Win.pureOp (v := .func (.func 41) #[] #[.pointer (some ⟨b0, 0, none⟩)]) (.inl hne) rfl rfl (fun w => by rw [Sem.runT_eq]; simp [go_sem, execOp, Act.eval]; try rfl) ?_
  simp only [Act.put, Act.eval, gtA, gtZ, gtS, siA, scS, scZ]
  refine Win.defers (d₀ := stepDefer b0) (.inl hne) rfl rfl (fun d => ⟨#[], by rw [Sem.runT_eq]; simp [go_sem, execOp, Act.eval, stepDefer]; try rfl, fun e he => by simp at he⟩) ?_
  simp only [Act.put, Act.eval, gtA, gtZ, gtS, siA, scS, scZ]
  refine Win.opsEnd ?_
  refine Win.seq ?_
  exact H b0 _ hb0e (by rw [← hw1])

theorem setCell_frozen (w : World) (ad c : Addr) (x : Value) (hf : w.frozen? c = false) : (w.setCell ad x).frozen? c = false := by simp [go_sem, hf]

/-- Behind the wait: Step answers. -/
theorem step_back {c : Frame} {cs : List Frame} {p b0 cT cU : Nat} {next x y z : Value} {ok : Bool} (h4 : w.cell? ⟨p, 4, none⟩ = some x) (h5 : w.cell? ⟨p, 5, none⟩ = some z) (h6 : w.cell? ⟨p, 6, none⟩ = some y) (f4 : w.frozen? ⟨p, 4, none⟩ = false) (f5 : w.frozen? ⟨p, 5, none⟩ = false) (f6 : w.frozen? ⟨p, 6, none⟩ = false)
    (hn1 : ∀ l, next ≠ .agg l) (hn2 : ∀ l, next ≠ .tuple l) (F4 : Free pl ⟨p, 4, none⟩) (F5 : Free pl ⟨p, 5, none⟩) (F6 : Free pl ⟨p, 6, none⟩) (hb : w.cell? ⟨b0, 0, none⟩ = some (.pointer (some ⟨p, 0, none⟩))) (hbp : b0 ≠ p)
    (H : Win Try.prog Post pl n h (gor (c.finish (.int .i64 0)) cs) (((w.setCell ⟨p, 4, none⟩ next).setCell ⟨p, 6, none⟩ (.bool !ok)).setCell ⟨p, 5, none⟩ (.bool false))) :
    Win Try.prog Post pl n h (Go.Conc.served (gor (waitFr Try.prog Try.f32 p cT) (stepWait Try.prog Try.f12 p b0 cU :: c :: cs)) (.tuple #[next, .bool ok])) w := by
  refine wait_back h4 h6 f4 f6 hn1 hn2 F4 F6 ?_
  have hb' : ((w.setCell ⟨p, 4, none⟩ next).setCell ⟨p, 6, none⟩ (.bool !ok)).cell? ⟨b0, 0, none⟩ = some (.pointer (some ⟨p, 0, none⟩)) := cell_setCell_ne (cell_setCell_ne hb (by simp [hbp])) (by simp [hbp])
  have h5' : ((w.setCell ⟨p, 4, none⟩ next).setCell ⟨p, 6, none⟩ (.bool !ok)).cell? ⟨p, 5, none⟩ = some z := cell_setCell_ne (cell_setCell_ne h5 (by simp)) (by simp)
  have f5' : ((w.setCell ⟨p, 4, none⟩ next).setCell ⟨p, 6, none⟩ (.bool !ok)).frozen? ⟨p, 5, none⟩ = false := setCell_frozen _ _ _ _ (setCell_frozen _ _ _ _ f5)
  generalize (w.setCell ⟨p, 4, none⟩ next).setCell ⟨p, 6, none⟩ (.bool !ok) = w1 at *
  unfold stepWait
  rw [Frame.finish_at]
  have hne : (Frame.enter Try.prog 12 #[.pointer (some ⟨p, 0, none⟩)] CallKind.normal).kind = .normal := rfl
  simp only [bodyOf, Try.f12, codeL, codeR, regOps, Option.getD_some, stepTmps]
  simp only [Act.put, Act.eval, gqA, gqZ, gqS, Option.bind_some, gtA, gtZ, gtS, siA, scS, scZ]
  refine Win.opsEnd ?_
  refine Win.seq ?_
  refine Win.region ?_
  simp only [List.size_toArray, List.length_cons, List.length_nil, Nat.reduceAdd, List.range, List.range.loop]
  refine Win.pureOp (v := .int .i64 0) (.inl hne) rfl rfl (fun w => rfl) ?_
  simp only [Act.put, Act.eval, gtA, gtZ, gtS, siA, scS, scZ]
  refine Win.opsEnd ?_
  refine Win.ret ?_
  refine Win.callsDeferred (d₀ := stepDefer b0) (ds := []) (f := 41) (args := #[.pointer (some ⟨b0, 0, none⟩)]) (by simp) rfl trivial (by simp [stepDefer]) (fun d => ⟨#[], invoke_enter mild.toMild Try.func41 rfl _ _ _ _, fun e he => by simp at he⟩) ?_
  have hne2 : (Frame.enter Try.prog 41 #[.pointer (some ⟨b0, 0, none⟩)] CallKind.deferred).kind = .deferred := rfl
  rw [enter_at Try.func41 rfl]
  simp only [Try.ntmps41, List.size_toArray, List.length_cons, List.length_nil, Nat.reduceAdd, Nat.reduceSub, Array.replicate_succ, Array.replicate_zero, List.push_toArray, List.append_toArray, List.nil_append, List.cons_append]
  refine Win.region ?_
  simp only [List.size_toArray, List.length_cons, List.length_nil, Nat.reduceAdd, List.range, List.range.loop]
  refine Win.lookOp (v := .pointer (some ⟨p, 0, none⟩)) (ad := ⟨b0, 0, none⟩) (x := .pointer (some ⟨p, 0, none⟩)) (.inr hne2) rfl rfl (hb') (fun w hc => by rw [Sem.runT_eq]; simp [go_sem, execOp, Act.eval, hc]) ?_
  simp only [Act.put, Act.eval, gtA, gtZ, gtS, siA, scS, scZ]
  refine Win.pureOp (v := .pointer (some ⟨p, 0, none⟩)) (.inr hne2) rfl rfl (fun w => by rw [Sem.runT_eq]; simp [go_sem, execOp, Act.eval]) ?_
  simp only [Act.put, Act.eval, gtA, gtZ, gtS, siA, scS, scZ]
  refine Win.pureOp (v := .pointer (some ⟨p, 5, none⟩)) (.inr hne2) rfl rfl (fun w => by rw [Sem.runT_eq]; simp [go_sem, execOp, Act.eval]) ?_
  simp only [Act.put, Act.eval, gtA, gtZ, gtS, siA, scS, scZ]
  refine Win.storeOp (ad := ⟨p, 5, none⟩) (x := .bool false) (.inr hne2) rfl rfl F5 (fun d => by
    rw [Sem.runT_eq]
    have c1 : (w1.at d).cell? ⟨p, 5, none⟩ = some z := h5'
    have c2 : (w1.at d).frozen? ⟨p, 5, none⟩ = false := f5'
    generalize w1.at d = W at c1 c2 ⊢
    obtain ⟨s1, s2⟩ := store_ok (P := Try.prog) (x := .bool false) (w := W) (m := .plain) (by simp) (by simp) c1 c2
    simp [go_sem, execOp, Act.eval, s1, s2, c1, c2]) ?_
  simp only [Act.put, Act.eval, gtA, gtZ, gtS, siA, scS, scZ]
  refine Win.opsEnd ?_
  refine Win.falls ?_
  refine Win.leaveDeferred (v := .tuple #[]) rfl rfl hne2 Try.func41 (fun d => ⟨#[], by rw [Sem.runT_eq]; simp [go_sem, results, Try.f41], fun e he => by simp at he⟩) (fun v' g older => by simp) ?_
  exact Win.leave (v := .int .i64 0) rfl rfl hne Try.func12 (fun d => ⟨#[], by rw [Sem.runT_eq]; simp [go_sem, results, Try.f12, Frame.at], fun e he => by simp at he⟩) H
end
end Go.Proofs.Ytnbaiinhalplcaa

namespace Go.Proofs.Ytnbaiinhalplcaa
open List renaming getElem_toArray → gtA, getElem_cons_zero → gtZ, getElem_cons_succ → gtS, setIfInBounds_toArray → siA, set_cons_succ → scS, set_cons_zero → scZ, getElem?_toArray → gqA, getElem?_cons_zero → gqZ, getElem?_cons_succ → gqS
set_option linter.unusedVariables false
set_option linter.unusedSimpArgs false
set_option maxRecDepth 100000
open Go.Conc

theorem waitSeat_has {p cT c : Nat} {more : Addr → Value → Prop} {home : Goroutine → Prop} (h : (waitSeat p cT more home).has c) : c = cT := by
  obtain ⟨k, z, hk⟩ := h
  simp only [waitSeat] at hk
  rcases k with _ | k
  · simp [rcase] at hk; exact hk.1.symm
  · simp at hk
theorem waitSeat_wf {p cT : Nat} {more : Addr → Value → Prop} {home : Goroutine → Prop} : (waitSeat p cT more home).Wf := by
  refine ⟨fun cc hcc => ?_, fun k k' c z z' h1 h2 => ?_⟩
  · simp only [waitSeat, List.mem_toArray, List.mem_cons, List.not_mem_nil, or_false] at hcc
    subst hcc; exact ⟨_, _, rfl⟩
  · simp only [waitSeat] at h1 h2
    rcases k with _ | k <;> rcases k' with _ | k' <;> simp [rcase] at h1 h2
    rfl
/-- Where Step waits. -/
def stepMore (p b0 : Nat) (a : Addr) (v : Value) : Prop := a = ⟨b0, 0, none⟩ ∧ v = .pointer (some ⟨p, 0, none⟩)
def stepHome (p b0 cT cU : Nat) (cs : List Frame) (g : Goroutine) : Prop := g = gor (waitFr Try.prog Try.f32 p cT) (stepWait Try.prog Try.f12 p b0 cU :: cs)

theorem way_step (p b0 cT cU : Nat) (cs : List Frame) (main : Bool) (ops : Array Oper) : Way Try.prog main (waitSeat p cT (stepMore p b0) (stepHome p b0 cT cU cs)) 60
    (gor ((Frame.enter Try.prog 12 #[.pointer (some ⟨p, 0, none⟩)] .normal).at (⟨stepTmps p b0 (.pointer (some ⟨p, 0, none⟩)) (.pointer (some ⟨p, 0, none⟩)) (.pointer (some ⟨p, 2, none⟩)) (.chan (some cU)) (.pointer (some ⟨p, 0, none⟩)) (.nilIface) undef undef, [stepDefer b0]⟩ : Act) (.inRegion ops [] :: [.code (codeR (codeR (codeR (codeR (codeR (codeR (bodyOf Try.f12)))))))])) cs) := by
  have hne : (Frame.enter Try.prog 12 #[.pointer (some ⟨p, 0, none⟩)] CallKind.normal).kind = .normal := rfl
  refine Way.upTo (N := 45) ?_ (by omega)
  refine Way.opsEnd ?_
  simp only [bodyOf, Try.f12, codeR, Option.getD_some]
  refine Way.seq ?_
  refine Way.region ?_
  simp only [List.size_toArray, List.length_cons, List.length_nil, Nat.reduceAdd, List.range, List.range.loop, stepTmps]
  refine Way.look (v := .pointer (some ⟨p, 0, none⟩)) (ad := ⟨b0, 0, none⟩) (x := .pointer (some ⟨p, 0, none⟩)) (.inl hne) rfl rfl (.inr ⟨rfl, rfl⟩) (fun w hc => by rw [Sem.runT_eq]; simp [go_sem, execOp, Act.eval, hc]) ?_
  simp only [Act.put, Act.eval, gtA, gtZ, gtS, siA, scS, scZ]
  refine Way.enter (f := 32) (args := #[.pointer (some ⟨p, 0, none⟩)]) (es := #[]) (.inl hne) rfl rfl (fun e he => by simp at he) (fun w _ => call_enter mild.toMild Try.func32 rfl rfl rfl rfl _ _ (by simp [Act.eval])) ?_
  have hw := way_wait p cT (stepMore p b0) (stepWait Try.prog Try.f12 p b0 cU :: cs) main
  exact hw

section
variable {pl : Nat → Option Place} {n : Nat} {Post : Value → World → Prop} {F : Nat → Option (Nat × Nat)} {w1 : World}

/-- How all stands once the touch has been done. -/
def Done' (pl : Nat → Option Place) (F : Nat → Option (Nat × Nat)) (Ψ : World → Prop) (w1 u : World) : Prop := ∃ w', Ψ w' ∧ Ks (· = w1.heap.size) w' u ∧ Lies pl F u

set_option maxHeartbeats 2000000 in
theorem step_turn (L : Lies pl F w1) {c : Frame} {cs : List Frame} {p b0 cT cU j : Nat} {f : FuncId} {cap : Array Value} {mv : Value} {s : Place} {Ψ : World → Prop} (hb : w1.cell? ⟨b0, 0, none⟩ = some (.pointer (some ⟨p, 0, none⟩))) (h0 : w1.cell? ⟨p, 0, none⟩ = some mv) (h2 : w1.cell? ⟨p, 2, none⟩ = some (.chan (some cU))) (h4 : w1.cell? ⟨p, 4, none⟩ = some (.func (.func f) #[] cap)) {fn : Func} (hfn : Try.prog.funcs[f]? = some fn) (hfb : fn.body.isNone = false)
    (hΨ : ∀ w', Ψ w' → Lies pl F w' ∧ w'.heap[w1.heap.size]? = some (.cells #[.nilIface] 20 (0, 0)) ∧ w'.cell? ⟨p, 0, none⟩ = some mv ∧ w'.cell? ⟨p, 4, none⟩ = some (.func (.func f) #[] cap))
    (hU : ∀ u, Done' pl F Ψ w1 u → u.cell? ⟨b0, 0, none⟩ = some (.pointer (some ⟨p, 0, none⟩)) ∧ u.cell? ⟨p, 2, none⟩ = some (.chan (some cU)) ∧ u.cell? ⟨p, 1, none⟩ = some (.chan (some cT)) ∧ Open cT u)
    (hgo : ∀ (c₁ : Frame) (cs₁ : List Frame), StOK Try.prog c₁ [] → (∀ w', Ψ w' → Win Try.prog Post pl n 0 (gor (c₁.finish (.tuple #[])) cs₁) w') → Win Try.prog Post pl n 0 (gor (Frame.enter Try.prog f (#[mv] ++ cap) .normal) (c₁ :: cs₁)) (w1.alloc (.cells #[.nilIface] 20)))
    (hap : ∀ i s' c, pl i = some s' → s'.has c → c ≠ cT) (hj : pl j = some s) (hk : s.cases[0]? = some (rcase cU .nilIface))
    (hw : ∀ u g₂ d m, Done' pl F Ψ w1 u → s.home g₂ → u.heap[cU]? = some (.chan 0 #[] false m m false) → Win Try.prog Post (moved pl 0 j (some (waitSeat p cT (stepMore p b0) (stepHome p b0 cT cU (c :: cs))))) n j (Go.Conc.served g₂ (commResult s.cases s.shape 0 .nilIface true)) ((u.at d).setChan cU 0 #[] false (m + 1) (m + 1) false)) :
    Win Try.prog Post pl n 0 (gor (stepAt Try.prog Try.f12 p b0) (c :: cs)) w1 := by
  have hne : (Frame.enter Try.prog 12 #[.pointer (some ⟨p, 0, none⟩)] CallKind.normal).kind = .normal := rfl
  have hway := way_step p b0 cT cU (c :: cs) true
  unfold stepAt
  simp only [bodyOf, Try.f12, codeL, codeR, Option.getD_some] at hway ⊢
  refine Win.anyFill (C := World) (Goal := fun c' fr => Win Try.prog Post pl n 0 (gor fr (c :: cs)) c') mixed (by kernel_rfl) (fun _ i => match i with | 0 => .pointer (some ⟨p, 0, none⟩) | 1 => .pointer (some ⟨p, 0, none⟩) | 2 => .pointer (some ⟨p, 2, none⟩) | 3 => .chan (some cU) | 4 => .pointer (some ⟨p, 0, none⟩) | 5 => .nilIface | _ => undef) (fun _ => (⟨stepTmps p b0 (.pointer (some ⟨p, 0, none⟩)) (.pointer (some ⟨p, 0, none⟩)) (.pointer (some ⟨p, 2, none⟩)) (.chan (some cU)) (.pointer (some ⟨p, 0, none⟩)) (.nilIface) undef undef, [stepDefer b0]⟩ : Act)) (fun _ => by simp only [fillAll, stepTmps, List.size_toArray, List.length_cons, List.length_nil, Nat.reduceAdd, List.range, List.range.loop, List.foldl_cons, List.foldl_nil, gqA, gqZ, gqS, Option.bind_some, Option.bind_none, Act.put, siA, scS, scZ]) (fun X c' => (X.getD 5 false = false → c' = w1) ∧ (X.getD 5 false = true → Done' pl F Ψ w1 c') ∧ X.getD 6 false = false) w1 (fun fr hh => hh) ?_ ?_ ⟨fun _ => rfl, fun z => by simp at z, by simp⟩
  · intro X i o hX ho hx hr c' a' L' hJ hcl hL'' hfl e1 e2 hd hn
    have hcell : c'.cell? ⟨b0, 0, none⟩ = some (.pointer (some ⟨p, 0, none⟩)) ∧ c'.cell? ⟨p, 2, none⟩ = some (.chan (some cU)) := by
      cases hx5 : X.getD 5 false with
      | false => rw [hJ.1 hx5]; exact ⟨hb, h2⟩
      | true => exact ⟨(hU _ (hJ.2.1 hx5)).1, (hU _ (hJ.2.1 hx5)).2.1⟩
    obtain ⟨hq0, hq2⟩ := hcell
    rcases i with _ | _ | _ | _ | _ | _ | _ | i
    · obtain rfl := Option.some.inj ho
      have hn0 := hn c' (fun _ _ => rfl) ⟨fun z => hJ.1 (by rw [getD_set_ne false (by decide)] at z; exact z), fun z => hJ.2.1 (by rw [getD_set_ne false (by decide)] at z; exact z), by rw [getD_set_ne false (by decide)]; exact hJ.2.2⟩
      refine Win.op (v := .pointer (some ⟨p, 0, none⟩)) (.inl hne) rfl rfl (fun d => ?_) hn0
      exact ⟨#[⟨.cell ⟨b0, 0, none⟩, false, false⟩], by rw [e1, Sem.runT_eq]; have hc : (World.at c' d).cell? ⟨b0, 0, none⟩ = _ := hq0; generalize World.at c' d = W at hc ⊢; simp [go_sem, execOp, Act.eval, stepTmps, hc], fun e he => by obtain rfl : e = ⟨.cell ⟨b0, 0, none⟩, false, false⟩ := (by simpa using he); exact ⟨rfl, fun m => by simp⟩⟩
    · obtain rfl := Option.some.inj ho
      have hn0 := hn c' (fun _ _ => rfl) ⟨fun z => hJ.1 (by rw [getD_set_ne false (by decide)] at z; exact z), fun z => hJ.2.1 (by rw [getD_set_ne false (by decide)] at z; exact z), by rw [getD_set_ne false (by decide)]; exact hJ.2.2⟩
      refine Win.op (v := .pointer (some ⟨p, 0, none⟩)) (.inl hne) rfl rfl (fun d => ?_) hn0
      exact ⟨#[], by rw [e1, Sem.runT_eq]; simp [go_sem, execOp, Act.eval, stepTmps], fun e he => by simp at he⟩
    · obtain rfl := Option.some.inj ho
      have hn0 := hn c' (fun _ _ => rfl) ⟨fun z => hJ.1 (by rw [getD_set_ne false (by decide)] at z; exact z), fun z => hJ.2.1 (by rw [getD_set_ne false (by decide)] at z; exact z), by rw [getD_set_ne false (by decide)]; exact hJ.2.2⟩
      refine Win.op (v := .pointer (some ⟨p, 2, none⟩)) (.inl hne) rfl rfl (fun d => ?_) hn0
      exact ⟨#[], by rw [e1, Sem.runT_eq]; simp [go_sem, execOp, Act.eval, stepTmps], fun e he => by simp at he⟩
    · obtain rfl := Option.some.inj ho
      have hn0 := hn c' (fun _ _ => rfl) ⟨fun z => hJ.1 (by rw [getD_set_ne false (by decide)] at z; exact z), fun z => hJ.2.1 (by rw [getD_set_ne false (by decide)] at z; exact z), by rw [getD_set_ne false (by decide)]; exact hJ.2.2⟩
      refine Win.op (v := .chan (some cU)) (.inl hne) rfl rfl (fun d => ?_) hn0
      exact ⟨#[⟨.cell ⟨p, 2, none⟩, false, false⟩], by rw [e1, Sem.runT_eq]; have hc : (World.at c' d).cell? ⟨p, 2, none⟩ = _ := hq2; generalize World.at c' d = W at hc ⊢; simp [go_sem, execOp, Act.eval, stepTmps, hc], fun e he => by obtain rfl : e = ⟨.cell ⟨p, 2, none⟩, false, false⟩ := (by simpa using he); exact ⟨rfl, fun m => by simp⟩⟩
    · obtain rfl := Option.some.inj ho
      have hn0 := hn c' (fun _ _ => rfl) ⟨fun z => hJ.1 (by rw [getD_set_ne false (by decide)] at z; exact z), fun z => hJ.2.1 (by rw [getD_set_ne false (by decide)] at z; exact z), by rw [getD_set_ne false (by decide)]; exact hJ.2.2⟩
      refine Win.op (v := .pointer (some ⟨p, 0, none⟩)) (.inl hne) rfl rfl (fun d => ?_) hn0
      exact ⟨#[⟨.cell ⟨b0, 0, none⟩, false, false⟩], by rw [e1, Sem.runT_eq]; have hc : (World.at c' d).cell? ⟨b0, 0, none⟩ = _ := hq0; generalize World.at c' d = W at hc ⊢; simp [go_sem, execOp, Act.eval, stepTmps, hc], fun e he => by obtain rfl : e = ⟨.cell ⟨b0, 0, none⟩, false, false⟩ := (by simpa using he); exact ⟨rfl, fun m => by simp⟩⟩
    · obtain rfl := Option.some.inj ho
      have hx5 : X.getD 5 false = false := by
        have hlt : 5 < X.size := by rw [hX]; decide
        simpa [hlt] using hx
      obtain rfl := hJ.1 hx5
      refine Win.enter (f := 42) (args := #[.pointer (some ⟨p, 0, none⟩)]) (.inl hne) rfl rfl (fun d => ⟨#[], by rw [e1]; exact call_enter mild.toMild Try.func42 rfl rfl rfl rfl _ _ (by simp [Act.eval, stepTmps]), fun e he => by simp at he⟩) ?_
      refine touch_goes L h0 h4 hfn hfb hΨ (fun c₁ hc₁ hgo' => hgo c₁ _ hc₁ hgo') (fun w' w'' hw' hk' hl' => ?_)
      rw [Frame.finish_at]
      exact hn w'' (fun _ _ => rfl) ⟨fun z => (by rw [getD_set_self (by rw [hX]; decide)] at z; cases z), fun _ => ⟨w', hw', hk', hl'⟩, by rw [getD_set_ne false (by decide)]; exact hJ.2.2⟩
    · obtain rfl := Option.some.inj ho
      have g3 := hr { on := 3, ground := Ground.data } (by simp) rfl
      have g5 := hr { on := 5, ground := Ground.data } (by simp) rfl
      have g2 := hcl 3 _ rfl g3 { on := 2, ground := Ground.data } (by simp) rfl
      have g1 := hcl 2 _ rfl g2 { on := 1, ground := Ground.data } (by simp) rfl
      have g0 := hcl 1 _ rfl g1 { on := 0, ground := Ground.data } (by simp) rfl
      have g4 := hcl 5 _ rfl g5 { on := 4, ground := Ground.data } (by simp) rfl
      have hall : ∀ j, j < 7 → (X.setIfInBounds 6 true).getD j false = true := fun j hj7 => by
        rcases j with _ | _ | _ | _ | _ | _ | _ | j
        · rw [getD_set_ne false (by decide)]; exact g0
        · rw [getD_set_ne false (by decide)]; exact g1
        · rw [getD_set_ne false (by decide)]; exact g2
        · rw [getD_set_ne false (by decide)]; exact g3
        · rw [getD_set_ne false (by decide)]; exact g4
        · rw [getD_set_ne false (by decide)]; exact g5
        · exact getD_set_self (by rw [hX]; decide)
        · omega
      have hL := hL'' hall
      have hA := hfl hall
      subst hL
      have hD := hJ.2.1 g5
      obtain ⟨u0, u2, u1, uT⟩ := hU _ hD
      have hput : a' = (⟨stepTmps p b0 (.pointer (some ⟨p, 0, none⟩)) (.pointer (some ⟨p, 0, none⟩)) (.pointer (some ⟨p, 2, none⟩)) (.chan (some cU)) (.pointer (some ⟨p, 0, none⟩)) (.nilIface) undef undef, [stepDefer b0]⟩ : Act) := hA
      subst hput
      refine Win.sends (j := j) (c := cU) (kk := 0) (x := .nilIface) (z := .nilIface) (z' := .tuple #[]) (es := #[]) (pl' := some (waitSeat p cT (stepMore p b0) (stepHome p b0 cT cU (c :: cs)))) (.inl hne) rfl rfl (fun d => ?_) (fun e he => by simp at he) hj hk ⟨waitSeat_wf, fun q hq => ?_, fun i' s' q hi hq hq' => ?_, fun ad v hv => ?_, 60, ?_⟩ (fun g₂ d m hg hcu => hw c' g₂ d m hD hg hcu)
      · rw [Sem.runT_eq]
        generalize World.at c' d = W
        simp [go_sem, execOp, Act.eval, stepTmps]
        try rfl
      · rw [waitSeat_has hq]; exact uT
      · exact hap i' s' q hi hq (waitSeat_has hq')
      · rcases hv with ⟨rfl, rfl⟩ | ⟨rfl, rfl⟩
        · exact u1
        · exact u0
      · exact hway _
    · simp at ho
  · intro X c' hall hJ
    have := hall 6 (by simp)
    rw [hJ.2.2] at this; cases this
end
end Go.Proofs.Ytnbaiinhalplcaa

namespace Go.Proofs.Ytnbaiinhalplcaa
set_option linter.unusedVariables false
set_option linter.unusedSimpArgs false
set_option maxRecDepth 100000
open Go.Conc
open Go.ConcN (upd_ne upd_same)

/-- What a step may have turned. -/
def stepped (a : Ag) (col : Nat → Col) (b : Nat) : Prop := col b = .ag a.j ∨ col b = .sys a.j ∨ col b = .shared ∨ col b = .arena

section
variable {G : Type} {Post : Value → World → Prop} {Sh : (Nat → Col) → World → G → Prop} {SB : Nat → Prop} {pA rA : Nat} {a : Ag} {mv : Value} {n : Nat} {T : Tree G}
variable {pl pl' : Nat → Option Place} {F F' : Nat → Option (Nat × Nat)} {col col' : Nat → Col} {w w' : World} {g : G}

theorem Desk.freeP (D : Desk SB pA rA pl F col w) (hO : AgOK a F col) {mv nx : Value} {bz ov : Bool} (hst : StAt a mv nx bz ov w) {o : Nat} (ho : 4 ≤ o) : Free pl ⟨a.p, o, none⟩ := by
  refine ⟨fun i s v hi hs => ?_, fun i s c hi hc e => ?_⟩
  · obtain ⟨lo, hi', h1, h2, h3⟩ := D.lies.still i s _ v hi hs
    simp only at h1 h2 h3
    rw [hO.fp] at h1
    cases h1
    omega
  · obtain ⟨_, _, _, _, _, _, hh⟩ := D.lies.chans i s c hi hc
    unfold StAt at hst
    simp only at e
    rw [← e, hh] at hst
    cases hst
theorem free_of_lies {nx mv : Value} {bz ov : Bool} (L : Lies pl F w) (hF : F a.p = some (1, 4)) (hst : StAt a mv nx bz ov w) {o : Nat} (ho : 4 ≤ o) : Free pl ⟨a.p, o, none⟩ := by
  refine ⟨fun i s v hi hs => ?_, fun i s c hi hc e => ?_⟩
  · obtain ⟨lo, hi', h1, h2, h3⟩ := L.still i s _ v hi hs
    simp only at h1 h2 h3
    rw [hF] at h1
    cases h1
    omega
  · obtain ⟨_, _, _, _, _, _, hh⟩ := L.chans i s c hi hc
    unfold StAt at hst
    simp only at e
    rw [← e, hh] at hst
    cases hst

/-- The agent's struct behind what Step lays into it. -/
theorem stAt_laid {nx nx' : Value} {bz ov : Bool} (h : StAt a mv nx bz ov w) (ok : Bool) : StAt a mv nx' false ok (((w.setCell ⟨a.p, 4, none⟩ nx').setCell ⟨a.p, 6, none⟩ (.bool ok)).setCell ⟨a.p, 5, none⟩ (.bool false)) := by
  unfold StAt at *
  have h1 := heap_setCell_same w a.p 4 _ _ nx' h
  have h2 := heap_setCell_same _ a.p 6 _ _ (.bool ok) h1
  have h3 := heap_setCell_same _ a.p 5 _ _ (.bool false) h2
  rw [h3]
  simp
theorem ks_laid (w : World) (p : Nat) (x y z : Value) : Ks (· = p) w (((w.setCell ⟨p, 4, none⟩ x).setCell ⟨p, 6, none⟩ y).setCell ⟨p, 5, none⟩ z) :=
  ((ks_setCell w ⟨p, 4, none⟩ x).trans (ks_setCell _ ⟨p, 6, none⟩ y)).trans (ks_setCell _ ⟨p, 5, none⟩ z)
theorem size_laid (w : World) (p : Nat) (x y z : Value) : (((w.setCell ⟨p, 4, none⟩ x).setCell ⟨p, 6, none⟩ y).setCell ⟨p, 5, none⟩ z).heap.size = w.heap.size := by simp [World.setCell]

/-- Behind the wait of a step: all as it was, but for the agent's struct. -/
theorem step_ends (hSh : Shar Sh) {home : Goroutine → Prop} {c₀ : Frame} {cs : List Frame} {b0 : Nat} {g' : G} {T' : Tree G}
    (hhome : home = stepHome a.p b0 a.cT a.cU (c₀ :: cs)) (hO : AgOK a F col) (hL : Lay SB pA rA col F w) (hb0 : w.heap[b0]? = some (.cells #[.pointer (some ⟨a.p, 0, none⟩)] 35 (0, 0))) (hc0 : col b0 = .sys 0) {nxv : Value} {bz ov : Bool} (hst : StAt a mv nxv bz ov w)
    (hplo : ∀ i s c, i ≠ 0 → i ≠ a.j → pl i = some s → s.has c → c < w.heap.size ∧ col c = .sys i)
    (H : ∀ pl' F' col' w', Desk SB pA rA pl' F' col' w' → Ks (fun b => mine a col b ∨ b = a.p) w w' → Same F col w F' col' → (∀ i, i ≠ 0 → i ≠ a.j → pl' i = pl i) → Stands Post Sh SB pA rA a mv T' pl' F' col' w' → Sh col' w' g' → Win Try.prog Post pl' n 0 (gor (c₀.finish (.int .i64 0)) cs) w') :
    Kont Post Sh SB pA rA a mv home n T' pl F col w g' := by
  have hj0 : (0 : Nat) ≠ a.j := by have := hO.jpos; omega
  have hpS : ¬ mine a col a.p := by
    intro h
    rcases h with h | h | h
    · rw [hO.cp] at h; cases h
    · exact h.2 rfl
    · rw [hO.cp] at h; cases h
  have hbS : ¬ mine a col b0 := by
    intro h
    rcases h with h | h | h
    · rw [hc0] at h; cases h
    · rw [hc0] at h; exact hj0 (Col.sys.inj h.1)
    · rw [hc0] at h; cases h
  have hbp : b0 ≠ a.p := fun e => by rw [e, hO.cp] at hc0; exact hj0 (Col.sys.inj hc0).symm
  have core : ∀ (next : Value) (ok : Bool) pl' F' col' w', (∀ l, next ≠ .agg l) → (∀ l, next ≠ .tuple l) → After SB pA rA a pl F col w pl' F' col' w' →
      Win Try.prog Post pl' n 0 (gor (c₀.finish (.int .i64 0)) cs) (((w'.setCell ⟨a.p, 4, none⟩ next).setCell ⟨a.p, 6, none⟩ (.bool !ok)).setCell ⟨a.p, 5, none⟩ (.bool false)) →
      ∀ gm, home gm → Win Try.prog Post pl' n 0 (Go.Conc.served gm (.tuple #[next, .bool ok])) w' := by
    intro next ok pl' F' col' w' hn1 hn2 hA hW gm hgm
    rw [hhome] at hgm
    unfold stepHome at hgm
    subst hgm
    have hst' : StAt a mv nxv bz ov w' := hA.mv.ks.row hpS hst
    have hb' := hA.mv.ks.row hbS hb0
    have hFp : F' a.p = some (1, 4) := (hA.mv.fo _ (hL.lt (by rw [hO.cp]; simp))).trans hO.fp
    exact step_back (cell_of_row hst' 4) (cell_of_row hst' 5) (cell_of_row hst' 6) (free_of_row hst' 4) (free_of_row hst' 5) (free_of_row hst' 6) hn1 hn2 (free_of_lies hA.lies hFp hst' (by omega)) (free_of_lies hA.lies hFp hst' (by omega)) (free_of_lies hA.lies hFp hst' (by omega)) (cell_of_row hb' 0) hbp hW
  have desk : ∀ (next : Value) (ok : Bool) pl' F' col' w', After SB pA rA a pl F col w pl' F' col' w' → (∀ s c, pl' a.j = some s → s.has c → col' c = .sys a.j) →
      Desk SB pA rA pl' F' col' (((w'.setCell ⟨a.p, 4, none⟩ next).setCell ⟨a.p, 6, none⟩ (.bool ok)).setCell ⟨a.p, 5, none⟩ (.bool false)) := by
    intro next ok pl' F' col' w' hA hj
    refine ⟨hA.pl0, ((hA.lies.setCell _ _).setCell _ _).setCell _ _, ⟨hA.lay.free, fun b hb => hA.lay.above b (by rw [size_laid] at hb; exact hb), hA.lay.sb, hA.lay.ar⟩, fun i s c hi hc => ?_⟩
    by_cases e0 : i = 0
    · subst e0; rw [hA.pl0] at hi; cases hi
    by_cases ej : i = a.j
    · subst ej; exact hj s c hi hc
    · rw [hA.pls i e0 ej] at hi
      obtain ⟨h1, h2⟩ := hplo i s c e0 ej hi hc
      rw [hA.mv.colo c h1]; exact h2
  have ksAll : ∀ (x y z : Value) pl' F' col' w', After SB pA rA a pl F col w pl' F' col' w' → Ks (fun b => mine a col b ∨ b = a.p) w (((w'.setCell ⟨a.p, 4, none⟩ x).setCell ⟨a.p, 6, none⟩ y).setCell ⟨a.p, 5, none⟩ z) := by
    intro x y z pl' F' col' w' hA
    exact (hA.mv.ks.mono fun b _ h => Or.inl h).then (ks_laid w' a.p x y z) fun b _ e => .inr e
  have shAll : ∀ (x y z : Value) pl' F' col' w', After SB pA rA a pl F col w pl' F' col' w' → Sh col' w' g' → Sh col' (((w'.setCell ⟨a.p, 4, none⟩ x).setCell ⟨a.p, 6, none⟩ y).setCell ⟨a.p, 5, none⟩ z) g' := by
    intro x y z pl' F' col' w' hA hs
    refine hSh.st _ _ _ _ _ hs (fun b hb => (ks_laid w' a.p x y z).block b (hA.lay.ltS hb) fun e => ?_) fun _ hb => hb
    have h1 := hb
    have h2 := hA.mv.colo a.p (hL.lt (by rw [hO.cp]; simp))
    rw [e, h2, hO.cp] at h1; cases h1
  unfold Kont KontW
  cases T' with
  | ret =>
    intro pl' F' col' w' gm hgm hA hpj hsh hs
    refine core .nilFunc false pl' F' col' w' (by simp) (by simp) hA ?_ gm hgm
    have hst' : StAt a mv nxv bz ov w' := hA.mv.ks.row hpS hst
    exact H pl' F' col' _ (desk _ true pl' F' col' w' hA fun s c h => by rw [hpj] at h; cases h) (ksAll _ _ _ pl' F' col' w' hA) ⟨hA.mv.colo, hA.mv.fo⟩ hA.pls ⟨hpj, stAt_laid hst' true⟩ (shAll _ _ _ pl' F' col' w' hA hs)
  | node kk φ c nx hl pre =>
    intro pl' F' col' w' gm t hgm hA oT oU oS hPo hs
    have hPo' := hPo
    obtain ⟨b3, homeJ, own, A, B, f, cap, q1, q2, q3, q4, q5, q6, q7, q8, q9, q10, q11, q12, q13, q14⟩ := hPo
    refine core t true pl' F' col' w' (by rw [q11.1]; simp) (by rw [q11.1]; simp) hA ?_ gm hgm
    have hst' : StAt a mv nxv bz ov w' := hA.mv.ks.row hpS hst
    have hcp : col' a.p = .sys a.j := (hA.mv.colo _ (hL.lt (by rw [hO.cp]; simp))).trans hO.cp
    have hcm : col' a.m = .sys a.j := (hA.mv.colo _ (hL.lt (by rw [hO.cm]; simp))).trans hO.cm
    have hcU : col' a.cU = .sys a.j := (hA.mv.colo _ (hL.lt (by rw [hO.ccU]; simp))).trans hO.ccU
    have hcS : col' a.cS = .sys a.j := (hA.mv.colo _ (hL.lt (by rw [hO.ccS]; simp))).trans hO.ccS
    have hkl := ks_laid w' a.p t (.bool (!true)) (.bool false)
    have hch : ∀ {x : Nat}, Open x w' → x ≠ a.p := fun {x} h e => by
      obtain ⟨q, hq⟩ := h
      unfold StAt at hst'
      rw [← e, hq] at hst'; cases hst'
    exact H pl' F' col' _ (desk _ _ pl' F' col' w' hA fun s x h hx => by
        rw [q1] at h
        obtain rfl := Option.some.inj h
        rcases turnSeat_has hx with rfl | rfl
        · exact hcU
        · exact hcS) (ksAll _ _ _ pl' F' col' w' hA) ⟨hA.mv.colo, hA.mv.fo⟩ hA.pls
      ⟨t, stAt_laid hst' false, oT.keep hkl (hch oT), oU.keep hkl (hch oU), oS.keep hkl (hch oS), hPo'.keep hA.lay ⟨_, _, _, hst'⟩ rfl hcm ⟨fun _ _ => rfl, fun _ _ => rfl⟩ fun b hb hc => hkl.block b hb fun e => by
        rcases hc with hc | hc
        · rw [show b = a.p from e, hcp] at hc; cases hc
        · exact hc.2 e⟩ (shAll _ _ _ pl' F' col' w' hA hs)

theorem told_turn (p m b3 cU cS : Nat) (home : Goroutine → Prop) : commResult (turnSeat p m b3 cU cS home).cases (turnSeat p m b3 cU cS home).shape ((0 : Nat) : Int) .nilIface true = .tuple #[.int .i64 0, .bool true, .nilIface, .agg #[]] := by
  simp [commResult, turnSeat, rcase, goInt]
theorem told_stop (p m b3 cU cS : Nat) (home : Goroutine → Prop) : commResult (turnSeat p m b3 cU cS home).cases (turnSeat p m b3 cU cS home).shape ((1 : Nat) : Int) (.agg #[]) false = .tuple #[.int .i64 1, .bool false, .nilIface, .agg #[]] := by
  simp [commResult, turnSeat, rcase, goInt]

theorem ks_twin0 {L : Lies pl F w} {S : Nat → Prop} {τ τ' : Nat → Question → Nat} {u : World} (h : Ks S (L.veil.world τ 0 w) u) : Ks S (L.veil.world τ' 0 w) u := ⟨h.os, h.output, h.size, h.block⟩

set_option maxHeartbeats 2000000 in
/-- A STEP: the agent's next touch is done, and the agent goes on by its tree. -/
theorem step_goes (hSh : Shar Sh) (D : Desk SB pA rA pl F col w) (hO : AgOK a F col) {k : Int} {φ : Int → Int} {c : Int → G → G} {nx : Int → G → Tree G} {hl : G → G} {pre : G → Prop} {s : St} {c₀ : Frame} {cs : List Frame}
    (hst : Stands Post Sh SB pA rA a mv (.node k φ c nx hl pre) pl F col w) (har : Ar w pA rA s) (hlen : s.ws.length ≤ 4096) (ht : s.t ≤ 4095) (hbn : Bnd s) (hs : Sh col w g) (hpre : pre g)
    (H : ∀ pl' F' col' w', Desk SB pA rA pl' F' col' w' → Ks (stepped a col) w w' → Same F col w F' col' → (∀ i, i ≠ a.j → pl' i = pl i) → Stands Post Sh SB pA rA a mv (nx (was s k) g) pl' F' col' w' → Ar w' pA rA (upd s k (φ (was s k))) → Sh col' w' (c (was s k) g) → Win Try.prog Post pl' n 0 (gor (c₀.finish (.int .i64 0)) cs) w') :
    Win Try.prog Post pl n 0 (gor (Frame.enter Try.prog 12 #[.pointer (some ⟨a.p, 0, none⟩)] .normal) (c₀ :: cs)) w := by
  obtain ⟨t, hSt, oT, oU, oS, hPo⟩ := hst
  obtain ⟨b3, homeJ, own, A, B, f, cap, q1, q2, q3, q4, q5, q6, q7, q8, q9, q10, ⟨rfl, fn, hfn, hfb⟩, qT, qR, qS⟩ := hPo
  have hjp := hO.jpos
  have hplt := D.lay.lt (b := a.p) (by rw [hO.cp]; simp)
  have hmlt := D.lay.lt (b := a.m) (by rw [hO.cm]; simp)
  have hTlt := D.lay.lt (b := a.cT) (by rw [hO.ccT]; simp)
  have hUlt := D.lay.lt (b := a.cU) (by rw [hO.ccU]; simp)
  have hSlt := D.lay.lt (b := a.cS) (by rw [hO.ccS]; simp)
  have hb3lt := D.lay.lt (b := b3) (by rw [q8]; simp)
  have hpAlt := D.lay.lt (b := pA) (by rw [D.lay.ar.1]; simp)
  have hrAlt := D.lay.lt (b := rA) (by rw [D.lay.ar.2]; simp)
  have hTp : ∀ {x : Nat}, Open x w → x ≠ a.p := fun {x} h e => by
    obtain ⟨q, hq⟩ := h
    unfold StAt at hSt
    rw [← e, hq] at hSt; cases hSt
  have hmp : a.m ≠ a.p := fun e => by unfold MeAt at q6; unfold StAt at hSt; rw [e, hSt] at q6; simp at q6
  have hb3p : b3 ≠ a.p := fun e => by unfold StAt at hSt; rw [e, hSt] at q7; simp at q7
  have hownp : ∀ b, own b → b ≠ a.p := fun b hb e => by have := q2 b hb; rw [e, hO.cp] at this; cases this
  have hownlt : ∀ b, own b → b < w.heap.size := fun b hb => q3.lt _ _ q5 hb
  have hcolN : col w.heap.size = .main := D.lay.above _ (Nat.le_refl _)
  refine step_in D.lies (cell_of_row hSt 5) (cell_of_row hSt 6) (free_of_row hSt 5) (D.freeP hO hSt (by omega)) fun b0 w1 hb0 hw1 => ?_
  subst hb0
  -- the world behind the box
  have hk1 : Ks (· = a.p) w w1 := by rw [hw1]; exact (ks_alloc _ w _).trans (ks_setCell _ ⟨a.p, 5, none⟩ _)
  have hz1 : w1.heap.size = w.heap.size + 1 := by
    rw [hw1]
    show (World.setCell _ _ _).heap.size = _
    rw [show ∀ (W : World) ad x, (W.setCell ad x).heap.size = W.heap.size from fun W ad x => by simp [World.setCell]]
    exact Array.size_push _
  have hb0h : w1.heap[w.heap.size]? = some (.cells #[.pointer (some ⟨a.p, 0, none⟩)] 35 (0, 0)) := by
    rw [hw1, (ks_setCell _ ⟨a.p, 5, none⟩ (.bool true)).block w.heap.size (by show _ < (w.heap.push _).size; simp) (by show ¬ w.heap.size = a.p; omega)]
    exact alloc_new w _
  have hSt1 : StAt a mv (.func (.func f) #[] cap) true false w1 := by
    unfold StAt at hSt ⊢
    have h1 := (alloc_heap w (.cells #[.pointer (some ⟨a.p, 0, none⟩)] 35) a.p hplt).trans hSt
    have h2 := heap_setCell_same _ a.p 5 _ _ (.bool true) h1
    rw [hw1, h2]
    simp
  have hL1 : Lies pl (Go.ConcN.upd F w.heap.size (some (0, 1))) w1 := by
    have hl : Lies pl F w1 := by rw [hw1]; exact (D.lies.alloc _).setCell _ _
    refine hl.more (fun i lo hi hi' => ?_) (fun i r hr => ?_)
    · have hne : i ≠ w.heap.size := fun e => by rw [e, D.lay.free _ (by rw [hcolN]; rfl)] at hi'; cases hi'
      exact ⟨lo, hi, by rw [upd_ne _ _ hne]; exact hi', Nat.le_refl _, Nat.le_refl _⟩
    · by_cases e : i = w.heap.size
      · subst e; exact ⟨_, _, hb0h⟩
      · rw [upd_ne _ _ e] at hr; exact hl.lies i r hr
  have hFo : ∀ b, b < w.heap.size → (Go.ConcN.upd F w.heap.size (some (0, 1)) : Nat → Option (Nat × Nat)) b = F b := fun b hb => upd_ne _ _ (by omega)
  have hFb : (Go.ConcN.upd F w.heap.size (some (0, 1)) : Nat → Option (Nat × Nat)) w.heap.size = some (0, 1) := upd_same _ _ _
  have hFhi : ∀ b, w.heap.size < b → (Go.ConcN.upd F w.heap.size (some (0, 1)) : Nat → Option (Nat × Nat)) b = none := fun b hb => by
    rw [upd_ne _ _ (by omega)]; exact D.lay.free b (by rw [D.lay.above b (by omega)]; rfl)
  have hFown : ∀ b, own b → (Go.ConcN.upd F w.heap.size (some (0, 1)) : Nat → Option (Nat × Nat)) b = none := fun b hb => by
    rw [hFo b (hownlt b hb)]; exact D.lay.free b (by rw [q2 b hb]; rfl)
  generalize hF1 : (Go.ConcN.upd F w.heap.size (some (0, 1)) : Nat → Option (Nat × Nat)) = F1 at hL1 hFo hFb hFhi hFown
  have hA1 : A w1 := q3.st _ _ q5 fun b hb => hk1.block b (hownlt b hb) (hownp b hb)
  have har1 : Ar w1 pA rA s := ⟨(hk1.block pA hpAlt fun e => by have := D.lay.ar.1; rw [show pA = a.p from e, hO.cp] at this; cases this).trans har.hp, (hk1.block rA hrAlt fun e => by have := D.lay.ar.2; rw [show rA = a.p from e, hO.cp] at this; cases this).trans har.hr⟩
  have hFpA : F1 pA = none := by rw [hFo pA hpAlt]; exact D.lay.free pA (by rw [D.lay.ar.1]; rfl)
  have hFrA : F1 rA = none := by rw [hFo rA hrAlt]; exact D.lay.free rA (by rw [D.lay.ar.2]; rfl)
  -- the world in which the touch begins
  have hk2 : Ks (fun _ => False) w1 (w1.alloc (.cells #[.nilIface] 20)) := ks_alloc _ w1 _
  have hL2 := hL1.alloc (.cells #[.nilIface] 20)
  have hz2 : (w1.alloc (.cells #[.nilIface] 20)).heap.size = w1.heap.size + 1 := Array.size_push _
  have hbox : (w1.alloc (.cells #[.nilIface] 20)).heap[w1.heap.size]? = some (.cells #[.nilIface] 20 (0, 0)) := alloc_new w1 _
  obtain ⟨w2, hw2⟩ : ∃ w2, w2 = w1.alloc (.cells #[.nilIface] 20) := ⟨_, rfl⟩
  rw [← hw2] at hk2 hL2 hz2 hbox
  have hA2 : A w2 := q3.st _ _ hA1 fun b hb => hk2.block b (q3.lt _ _ hA1 hb) fun z => z
  have har2 : Ar w2 pA rA s := ⟨hk2.row (fun z => z) har1.hp, hk2.row (fun z => z) har1.hr⟩
  have hSt2 : StAt a mv (.func (.func f) #[] cap) true false w2 := hk2.row (fun z => z) hSt1
  obtain ⟨Ψ, hΨe⟩ : ∃ Ψ : World → Prop, Ψ = fun w' => Lies pl F1 w' ∧ Ar w' pA rA (upd s k (φ (was s k))) ∧ (∃ o, (∀ b, o b → own b ∨ (w2.heap.size ≤ b ∧ b < w'.heap.size)) ∧ B (was s k) o w') ∧ Ks (fun b => b = pA ∨ b = rA ∨ own b) w2 w' := ⟨_, rfl⟩
  have hnS : ∀ b, b ≠ pA → b ≠ rA → ¬ own b → ¬ (b = pA ∨ b = rA ∨ own b) := fun b h1 h2 h3 h => by rcases h with h | h | h <;> contradiction
  have hsysS : ∀ b i, col b = .sys i → ¬ (b = pA ∨ b = rA ∨ own b) := fun b i hb h => by
    rcases h with h | h | h
    · rw [h, D.lay.ar.1] at hb; cases hb
    · rw [h, D.lay.ar.2] at hb; cases hb
    · rw [q2 b h] at hb; cases hb
  have hnewS : ∀ b, w.heap.size ≤ b → ¬ (b = pA ∨ b = rA ∨ own b) := fun b hb h => by
    rcases h with h | h | h
    · omega
    · omega
    · have := hownlt b h; omega
  have hp2 : ∀ w', Ks (fun b => b = pA ∨ b = rA ∨ own b) w2 w' → StAt a mv (.func (.func f) #[] cap) true false w' := fun w' hk => hk.row (hsysS _ _ hO.cp) hSt2
  have hpr : a.p ≠ w1.heap.size := by omega
  refine step_turn (F := F1) (Ψ := Ψ) (s := turnSeat a.p a.m b3 a.cU a.cS homeJ) (cT := a.cT) hL1 (cell_of_row hb0h 0) (cell_of_row hSt1 0) (cell_of_row hSt1 2) (cell_of_row hSt1 4) hfn hfb ?_ ?_ ?_ ?_ q1 rfl ?_
  · intro w' hw'
    rw [hΨe] at hw'
    obtain ⟨h1, h2, h3, h4⟩ := hw'
    have hs' := hp2 w' h4
    exact ⟨h1, h4.row (hnewS _ (by omega)) hbox, cell_of_row hs' 0, cell_of_row hs' 4⟩
  · rintro u ⟨w', hw', hku, hlu⟩
    rw [hΨe] at hw'
    obtain ⟨h1, h2, h3, h4⟩ := hw'
    have hs' : StAt a mv _ true false u := hku.row hpr (hp2 w' h4)
    have hb' := hku.row (show ¬ w.heap.size = w1.heap.size by omega) (h4.row (hnewS _ (Nat.le_refl _)) (hk2.row (fun z => z) hb0h))
    exact ⟨cell_of_row hb' 0, cell_of_row hs' 2, cell_of_row hs' 1, ((((oT.keep hk1 (hTp oT)).keep hk2 fun z => z).keep h4 (hsysS _ _ hO.ccT)).keep hku (show ¬ a.cT = w1.heap.size by omega))⟩
  · intro c₁ cs₁ hok hgo'
    rw [← hw2]
    refine Win.calls mild hL2 hok (R := fun e w' => e = .returned (.tuple #[]) ∧ Ar w' pA rA (upd s k (φ (was s k))) ∧ (∃ o, (∀ b, o b → own b ∨ (w2.heap.size ≤ b ∧ b < w'.heap.size)) ∧ B (was s k) o w') ∧ Ks (fun b => b = pA ∨ b = rA ∨ own b) (hL2.veil.world (fun _ _ => 0) 0 w2) w') (fun τ => ?_) (fun e w' h => ⟨_, h.1⟩) ?_
    · have hAt : A (hL2.veil.world τ 0 w2) := q3.st _ _ hA2 fun b hb => hL2.same w2 (hFown b hb) (q3.np _ _ hA2 hb)
      have hart : Ar (hL2.veil.world τ 0 w2) pA rA s := ⟨(hL2.block hFpA).2 har2.hp, (hL2.block hFrA).2 har2.hr⟩
      refine (qT _ s hAt hart hlen ht hbn).mono ?_
      rintro e w' ⟨h1, h2, ⟨o, h3, h4⟩, h5⟩
      exact ⟨h1, h2, ⟨o, fun b hb => (h3 b hb).imp id fun z => ⟨by rw [veil_size] at z; exact z.1, z.2⟩, h4⟩, ks_twin0 h5⟩
    · intro v' w' τ D' hok' hVOK hVK hR
      obtain ⟨h1, h2, ⟨o, h3, h4⟩, h5⟩ := hR
      obtain rfl : v' = .tuple #[] := by simpa using h1
      refine hgo' w' ?_
      rw [hΨe]
      refine ⟨hL2.keeps hVK hVOK, ⟨(hL2.block hFpA).1 h2.hp, (hL2.block hFrA).1 h2.hr⟩, ⟨o, fun b hb => (h3 b hb).imp id fun z => ⟨z.1, by rw [veil_size] at z; exact z.2⟩, (q4 _ o).st _ _ h4 fun b hb => ?_⟩, ks_of_twin hL2 hVOK hVK h5⟩
      rcases h3 b hb with z | z
      · exact (hL2.same w' (hFown b z) (q3.np _ _ hA2 z)).symm
      · refine (hL2.same w' (hFhi b (by omega)) ?_).symm
        rw [Array.getElem?_eq_none (by omega)]; rfl
  · intro i s' x hi hx e
    have h1 := D.own i s' x hi hx
    rw [e, hO.ccT] at h1
    have h2 : a.j = i := Col.sys.inj h1
    subst h2
    rw [q1] at hi
    obtain rfl := Option.some.inj hi
    rcases turnSeat_has hx with h | h
    · exact hO.dis.1 (e.symm.trans h)
    · exact hO.dis.2.1 (e.symm.trans h)
  · rintro u g₂ d m ⟨w', hw', hku, hlu⟩ hg₂ hcu
    rw [hΨe] at hw'
    obtain ⟨h1, h2', ⟨o, h3, h4⟩, h5⟩ := hw'
    have h4' := h5
    have hcu' : (u.at d).heap[a.cU]? = some (.chan 0 #[] false m m false) := hcu
    have hsz2 : w2.heap.size = w.heap.size + 2 := by omega
    have hsz' := h5.size
    have hszu := hku.size
    have kAll : Ks (fun b => b = a.p ∨ b = a.cU ∨ b = pA ∨ b = rA ∨ own b) w ((u.at d).setChan a.cU 0 #[] false (m + 1) (m + 1) false) := by
      refine ((((((hk1.mono fun _ _ e => .inl e).then hk2 fun _ _ z => z.elim).then h5 fun _ _ z => .inr (.inr z)).then hku fun b hb e => ?_).at d).then (ks_setChan _ a.cU _ _ _ _ _ _) fun b _ e => .inr (.inl e))
      exfalso
      have e' : b = w1.heap.size := e
      omega
    have hne5 : ∀ b i, col b = .sys i → b ≠ a.p → b ≠ a.cU → ¬ (b = a.p ∨ b = a.cU ∨ b = pA ∨ b = rA ∨ own b) := fun b i hb h1 h2 h => by
      rcases h with h | h | h
      · exact h1 h
      · exact h2 h
      · exact hsysS b i hb h
    obtain ⟨W, hW⟩ : ∃ W, W = (u.at d).setChan a.cU 0 #[] false (m + 1) (m + 1) false := ⟨_, rfl⟩
    have hWU : W.heap[a.cU]? = some (.chan 0 #[] false (m + 1) (m + 1) false) := by rw [hW]; exact (Array.getElem?_setIfInBounds_self_of_lt (lt_of_block hcu))
    have hWL : Lies pl F1 W := by rw [hW]; exact (hlu.at d).setChan hcu' _ _ _ _ _ _
    have hWz : W.heap.size = u.heap.size := by rw [hW]; exact Array.size_setIfInBounds
    have kUW : Ks (· = a.cU) u W := by rw [hW]; have h := ks_setChan (u.at d) a.cU 0 #[] false (m + 1) (m + 1) false; exact ⟨h.os, h.output, h.size, h.block⟩
    rw [← hW] at kAll ⊢
    refine (told_turn a.p a.m b3 a.cU a.cS homeJ).symm ▸ ?_
    have hTU : a.cT ≠ a.cU := hO.dis.1
    have hpU : a.p ≠ a.cU := fun e => by have h := lt_of_block hcu; obtain ⟨q, hq⟩ := oU; unfold StAt at hSt; rw [← e, hSt] at hq; cases hq
    have hmU : a.m ≠ a.cU := fun e => by obtain ⟨q, hq⟩ := oU; unfold MeAt at q6; rw [← e, q6] at hq; cases hq
    have hb3U : b3 ≠ a.cU := fun e => by obtain ⟨q, hq⟩ := oU; rw [← e, q7] at hq; cases hq
    have hcl : ∀ {b : Nat}, b < w.heap.size → (if w2.heap.size ≤ b ∧ b < w'.heap.size then Col.ag a.j else if b = w.heap.size then .sys 0 else col b) = col b := fun {b} hb => by rw [if_neg (by omega), if_neg (by omega)]
    obtain ⟨col2, hc2⟩ : ∃ col2 : Nat → Col, col2 = fun b => if w2.heap.size ≤ b ∧ b < w'.heap.size then .ag a.j else if b = w.heap.size then .sys 0 else col b := ⟨_, rfl⟩
    have hcl' : ∀ b, b < w.heap.size → col2 b = col b := fun b hb => by rw [hc2]; exact hcl hb
    have hc0 : col2 w.heap.size = .sys 0 := by rw [hc2]; show (if _ then _ else _) = _; rw [if_neg (by omega), if_pos rfl]
    have hSame : Same F col w F1 col2 := ⟨hcl', hFo⟩
    have hO2 : AgOK a F1 col2 := hO.keep D.lay hSame
    have hLay : Lay SB pA rA col2 F1 W := by
      refine ⟨fun b hb => ?_, fun b hb => ?_, fun b hb => ?_, (hcl' _ hpAlt).trans D.lay.ar.1, (hcl' _ hrAlt).trans D.lay.ar.2⟩
      · rcases Nat.lt_trichotomy b w.heap.size with z | z | z
        · rw [hFo b z]; rw [hcl' b z] at hb; exact D.lay.free b hb
        · rw [z, hc0] at hb; cases hb
        · exact hFhi b z
      · rw [hc2]
        show (if _ then _ else _) = _
        rw [if_neg (by omega), if_neg (by omega)]
        exact D.lay.above b (by omega)
      · exact (hcl' b (D.lay.lt (by rw [D.lay.sb b hb]; simp))).trans (D.lay.sb b hb)
    have hWs : StAt a mv (.func (.func f) #[] cap) true false W := kUW.row hpU (hku.row hpr (hp2 w' h4'))
    have hWm : MeAt a false 0 W := kAll.row (hne5 _ _ hO.cm hmp hmU) q6
    have hW3 := kAll.row (hne5 _ _ q8 hb3p hb3U) q7
    have hWb0 : W.heap[w.heap.size]? = some (.cells #[.pointer (some ⟨a.p, 0, none⟩)] 35 (0, 0)) :=
      kUW.row (show ¬ w.heap.size = a.cU by omega) (hku.row (show ¬ w.heap.size = w1.heap.size by omega) (h5.row (hnewS _ (Nat.le_refl _)) (hk2.row (fun z => z) hb0h)))
    have hWT : Open a.cT W := oT.keep kAll (hne5 _ _ hO.ccT (hTp oT) hTU)
    have hWS : Open a.cS W := oS.keep kAll (hne5 _ _ hO.ccS (hTp oS) hO.dis.2.2.symm)
    have hj0 : a.j ≠ 0 := by omega
    have hWA : Ar W pA rA (upd s k (φ (was s k))) := by
      have e1 : ∀ b, b < w'.heap.size → b ≠ w1.heap.size → b ≠ a.cU → W.heap[b]? = w'.heap[b]? := fun b hb h1 h2 => (kUW.block b (by omega) h2).trans (hku.block b hb h1)
      have hnU : ∀ b, col b = .arena → b ≠ a.cU := fun b hb e => by rw [e, hO.ccU] at hb; cases hb
      exact ⟨(e1 pA (by omega) (by omega) (hnU _ D.lay.ar.1)).trans h2'.hp, (e1 rA (by omega) (by omega) (hnU _ D.lay.ar.2)).trans h2'.hr⟩
    have hWB : B (was s k) o W := (q4 _ o).st _ _ h4 fun b hb => by
      have hb' : b < w'.heap.size := (q4 _ o).lt _ _ h4 hb
      rcases h3 b hb with z | z
      · have := q2 b z
        exact (kUW.block b (by omega) fun e => by rw [e, hO.ccU] at this; cases this).trans (hku.block b hb' fun e => by have := hownlt b z; have e' : b = w1.heap.size := e; omega)
      · exact (kUW.block b (by omega) fun e => by have e' : b = a.cU := e; omega).trans (hku.block b hb' fun e => by have e' : b = w1.heap.size := e; omega)
    have hWSh : Sh col2 W g := hSh.st _ _ _ _ _ hs (fun b hb => by
      have h := hb
      refine kAll.block b (D.lay.ltS hb) fun z => ?_
      rcases z with z | z | z | z | z
      · rw [z, hO.cp] at h; cases h
      · rw [z, hO.ccU] at h; cases h
      · rw [z, D.lay.ar.1] at h; cases h
      · rw [z, D.lay.ar.2] at h; cases h
      · rw [q2 b z] at h; cases h) fun b hb => (hcl' b (D.lay.ltS hb)).trans hb
    refine qR (was s k) o (stepHome a.p w.heap.size a.cT a.cU (c₀ :: cs)) n _ F1 col2 W g g₂ hg₂ ⟨hjp, ?_, hLay, ⟨_, moved_h _ _ _ _⟩, moved_j _ _ hj0, ?_, ⟨_, _, hWs⟩, hWm, hO2.fm, hO2.fp, hO2.cm, hO2.cp, hO2.ccT, hO2.ccU, hO2.ccS, hO.dis, hWT, ⟨_, hWU⟩, fun _ => hWS⟩ (fun b hb => ?_) hWB hW3 hWSh hpre ?_
    · unfold moved
      refine (hWL.drop a.j).put 0 (fun x hx => ?_) fun ad v hv => ?_
      · obtain rfl := waitSeat_has hx
        obtain ⟨q, hq⟩ := hWT
        exact ⟨_, _, _, _, _, _, hq⟩
      · rcases hv with ⟨rfl, rfl⟩ | ⟨rfl, rfl⟩
        · exact ⟨1, 4, hO2.fp, Nat.le_refl _, (by decide : 1 < 4)⟩
        · exact ⟨0, 1, hFb, Nat.le_refl _, (by decide : 0 < 1)⟩
    · intro i s' hi
      by_cases e0 : i = 0
      · subst e0
        rw [moved_h] at hi
        obtain rfl := Option.some.inj hi
        exact ⟨fun h => hTU (waitSeat_has h).symm, fun h => hO.dis.2.1 (waitSeat_has h).symm⟩
      · obtain ⟨ej, hi'⟩ := moved_old hj0 e0 hi
        exact ⟨fun h => by have := D.own i s' _ hi' h; rw [hO.ccU] at this; exact ej (Col.sys.inj this).symm, fun h => by have := D.own i s' _ hi' h; rw [hO.ccS] at this; exact ej (Col.sys.inj this).symm⟩
    · rcases h3 b hb with z | z
      · rw [hcl' b (hownlt b z)]; exact q2 b z
      · rw [hc2]; show (if _ then _ else _) = _; rw [if_pos z]
    · refine step_ends hSh rfl hO2 hLay hWb0 hc0 hWs (fun i s' x e0 ej hi hx => ?_) fun pl' F' col' w'' hD' hk'' hS'' hpl'' hst'' hsh'' => ?_
      · rw [moved_ne _ _ e0 ej] at hi
        have h := D.own i s' x hi hx
        have hlt := D.lay.lt (b := x) (by rw [h]; simp)
        exact ⟨by omega, (hcl' x hlt).trans h⟩
      · refine H pl' F' col' w'' hD' ?_ ⟨fun b hb => (hS''.co b (by omega)).trans (hcl' b hb), fun b hb => (hS''.fo b (by omega)).trans (hFo b hb)⟩ (fun i ej => ?_) hst'' ?_ hsh''
        · refine (kAll.mono fun b hb z => ?_).then hk'' fun b hb z => ?_
          · rcases z with z | z | z | z | z
            · rw [z]; exact .inr (.inl hO.cp)
            · rw [z]; exact .inr (.inl hO.ccU)
            · rw [z]; exact .inr (.inr (.inr D.lay.ar.1))
            · rw [z]; exact .inr (.inr (.inr D.lay.ar.2))
            · exact .inl (q2 b z)
          · rcases z with z | z
            · unfold mine at z
              rw [hcl' b hb] at z
              rcases z with z | z | z
              · exact .inl z
              · exact .inr (.inl z.1)
              · exact .inr (.inr (.inl z))
            · have e' : b = a.p := z
              rw [e']; exact .inr (.inl hO.cp)
        · by_cases e0 : i = 0
          · subst e0; rw [hD'.pl0, D.pl0]
          · exact (hpl'' i e0 ej).trans (moved_ne _ _ e0 ej)
        · have hmA : ∀ b, col b = .arena → b < w.heap.size → ¬ (mine a col2 b ∨ b = a.p) := fun b hb hlt z => by
            unfold mine at z
            rw [hcl' b hlt, hb] at z
            rcases z with (z | z | z) | z
            · cases z
            · cases z.1
            · cases z
            · rw [z, hO.cp] at hb; cases hb
          exact ⟨hk''.row (hmA _ D.lay.ar.1 hpAlt) hWA.hp, hk''.row (hmA _ D.lay.ar.2 hrAlt) hWA.hr⟩
end
end Go.Proofs.Ytnbaiinhalplcaa
