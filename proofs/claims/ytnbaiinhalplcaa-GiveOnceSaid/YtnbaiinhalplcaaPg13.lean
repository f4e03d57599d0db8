/- Agents by trees, on: the program's end, as who stepped it is told of it. Package agent: New, to the channels and the struct; on to the program's begin; and from the wait. Written by gen/ah_b.py. Agents by trees, on: New, as a whole. Agents by trees, on: how a program comes to its end: it returns, or a stopped touch throws it out. Loads, stores and fresh variables of touches. Conditions: as each theorem states them. -/
import Derived.Test.YtnbaiinhalplcaaPg12
namespace Go.Proofs.Ytnbaiinhalplcaa
open List renaming getElem_toArray → gtA, getElem_cons_zero → gtZ, getElem_cons_succ → gtS, setIfInBounds_toArray → siA, set_cons_succ → scS, set_cons_zero → scZ, getElem?_toArray → gqA, getElem?_cons_zero → gqZ, getElem?_cons_succ → gqS
set_option linter.unusedVariables false
set_option linter.unusedSimpArgs false
set_option maxRecDepth 100000
open Go.Conc
open Go.ConcN (upd_ne upd_same)

section
variable {G : Type} {Post : Value → World → Prop} {Sh : (Nat → Col) → World → G → Prop} {SB : Nat → Prop} {pA rA : Nat} {a : Ag} {mv : Value} {home : Goroutine → Prop} {n : Nat} {T : Tree G} {runs ov : Bool}
variable {pl pl' : Nat → Option Place} {F F' : Nat → Option (Nat × Nat)} {col col' : Nat → Col} {w w' : World} {g : G}

/-- What 'run' has boxed. -/
def Boxed (a : Ag) (b1 b2 : Nat) (w : World) : Prop := w.heap[b1]? = some (.cells #[.pointer (some ⟨a.p, 0, none⟩)] 35 (0, 0)) ∧ w.heap[b2]? = some (.cells #[.pointer (some ⟨a.m, 0, none⟩)] 107 (0, 0))
theorem priv_boxed (a : Ag) (b1 b2 : Nat) : Priv (fun b => b = b1 ∨ b = b2) (Boxed a b1 b2) := by
  refine ⟨fun w w' h hb => ⟨(hb b1 (.inl rfl)).trans h.1, (hb b2 (.inr rfl)).trans h.2⟩, fun w b h hb => ?_, fun w b h hb => ?_⟩
  · rcases hb with rfl | rfl
    · rw [h.1]; rfl
    · rw [h.2]; rfl
  · rcases hb with rfl | rfl
    · exact lt_of_block h.1
    · exact lt_of_block h.2

/-- THE PROGRAM'S END: it has returned, or thrown. -/
theorem prog_ends (hA : Ends SB pA rA a mv home pl F col w) {b1 b2 : Nat} (hB : Boxed a b1 b2 w) (hs : Sh col w g) (hShm : Shar Sh) {fr : Frame} (hm : fr.mode = .returning ∨ ∃ u, fr.mode = .panicking [{ v := u, recovered := false }]) (hd : fr.defers = [runDefer b1 b2]) (hk : fr.kind = .deferred) (hf : fr.fn = 31)
    (K : Kont Post Sh SB pA rA a mv home n .ret pl F col w g) : Win Try.prog Post pl n a.j (gor fr [rootFr Try.prog]) w := by
  obtain ⟨more, hseat⟩ := hA.seat
  obtain ⟨nx, bz, ov, hst⟩ := hA.st
  obtain ⟨r, l, hme⟩ := hA.me
  obtain ⟨kT, hT⟩ := hA.oT
  have hj := hA.jpos
  have hst' := hst
  have hme' := hme
  unfold StAt at hst'
  unfold MeAt at hme'
  have hpm : a.p ≠ a.m := fun e => by rw [e, hme'] at hst'; simp at hst'
  have hTm : a.cT ≠ a.m := fun e => by rw [e, hme'] at hT; cases hT
  have hTp : a.cT ≠ a.p := fun e => by rw [e, hst'] at hT; cases hT
  have hb1m : b1 ≠ a.m := fun e => by have := hB.1; rw [e, hme'] at this; simp at this
  have F1 : Free pl ⟨a.m, 1, none⟩ := by
    refine ⟨fun i s v hi hs => ?_, fun i s c hi hc e => ?_⟩
    · obtain ⟨lo, hi', h1, h2, h3⟩ := hA.lies.still i s _ v hi hs
      simp only at h1 h2 h3
      rw [hA.fm] at h1
      cases h1
      omega
    · obtain ⟨_, _, _, _, _, _, hh⟩ := hA.lies.chans i s c hi hc
      simp only at e
      rw [← e, hh] at hme'
      cases hme'
  refine run_ends (h := a.j) (p := a.p) (m := a.m) (b1 := b1) (b2 := b2) (cT := a.cT) (kT := kT) (more := more) (home := home) hm hd hk hf hj (cell_of_row hB.1 0) (cell_of_row hB.2 0) (cell_of_row hme' 1) (free_of_row hme' 1) F1 (cell_of_row hst' 1) hb1m hpm hT hseat fun g₂ d hg₂ => ?_
  have hT1 : ((w.setCell ⟨a.m, 1, none⟩ (.bool false)).at d).heap[a.cT]? = some (.chan 0 #[] false kT kT false) := (ks_setCell w ⟨a.m, 1, none⟩ (.bool false)).row (show ¬ a.cT = a.m from hTm) hT
  have k1 : Ks (fun b => b = a.m ∨ b = a.cT) w (((w.setCell ⟨a.m, 1, none⟩ (.bool false)).at d).setChan a.cT 0 #[] true kT kT false) := by
    refine (((ks_setCell w ⟨a.m, 1, none⟩ (.bool false)).mono fun b _ e => ?_).at d).then (ks_setChan _ a.cT _ _ _ _ _ _) fun b _ e => .inr e
    exact .inl e
  have hS : ∀ b, b = a.m ∨ b = a.cT → mine a col b := fun b hb => by
    rcases hb with rfl | rfl
    · exact .inr (.inl ⟨hA.cm, hpm.symm⟩)
    · exact .inr (.inl ⟨hA.ccT, hTp⟩)
  have hWz : (((w.setCell ⟨a.m, 1, none⟩ (.bool false)).at d).setChan a.cT 0 #[] true kT kT false).heap.size = w.heap.size := by
    show (Array.setIfInBounds _ _ _).size = _
    rw [Array.size_setIfInBounds]
    show (World.setCell _ _ _).heap.size = _
    simp [World.setCell]
  have hWL : Lies pl F (((w.setCell ⟨a.m, 1, none⟩ (.bool false)).at d).setChan a.cT 0 #[] true kT kT false) := ((hA.lies.setCell _ _).at d).setChan hT1 _ _ _ _ _ _
  have hWT : Shut' a.cT (((w.setCell ⟨a.m, 1, none⟩ (.bool false)).at d).setChan a.cT 0 #[] true kT kT false) := ⟨kT, Array.getElem?_setIfInBounds_self_of_lt (lt_of_block hT1)⟩
  generalize (((w.setCell ⟨a.m, 1, none⟩ (.bool false)).at d).setChan a.cT 0 #[] true kT kT false) = W at k1 hWz hWL hWT ⊢
  have hj0 : (0 : Nat) ≠ a.j := by omega
  refine K (moved pl a.j 0 none) F col W g₂ hg₂ ⟨⟨k1.mono fun b _ h => hS b h, fun _ _ => rfl, fun b h1 h2 => by omega, fun _ _ => rfl⟩, fun i h0 hi => moved_ne _ _ hi h0, moved_j _ _ hj0, ?_, ⟨hA.lay.free, fun b hb => hA.lay.above b (by omega), hA.lay.sb, hA.lay.ar⟩⟩ (moved_h _ _ _ _) hWT ?_
  · unfold moved
    exact (hWL.drop 0).drop a.j
  · refine hShm.st _ _ _ _ _ hs (fun b hb => k1.block b (hA.lay.ltS hb) fun z => ?_) fun _ hb => hb
    have h := hb
    rcases z with rfl | rfl
    · rw [hA.cm] at h; cases h
    · rw [hA.ccT] at h; cases h
end
end Go.Proofs.Ytnbaiinhalplcaa

namespace Go.Proofs.Ytnbaiinhalplcaa
open List renaming getElem_toArray → gtA, getElem_cons_zero → gtZ, getElem_cons_succ → gtS, setIfInBounds_toArray → siA, set_cons_succ → scS, set_cons_zero → scZ, getElem?_toArray → gqA, getElem?_cons_zero → gqZ, getElem?_cons_succ → gqS
set_option linter.unusedVariables false
set_option linter.unusedSimpArgs false
set_option maxRecDepth 100000
open Go.Conc
open Go.ConcN (upd_ne upd_same)

/-- What New makes. -/
structure NewC where
  w : World
  p : Nat
  c1 : Nat
  c2 : Nat
  c3 : Nat
def Fresh (w0 w : World) (c : Nat) : Prop := w0.heap.size ≤ c ∧ w.heap[c]? = some (.chan 0 #[] false 0 0 false)
theorem Fresh.alloc {w0 w : World} {c : Nat} (h : Fresh w0 w c) (ob : Obj) : Fresh w0 (w.alloc ob) c := ⟨h.1, (alloc_heap w ob c (lt_of_block h.2)).trans h.2⟩
theorem fresh_new {w0 w : World} (h : w0.heap.size ≤ w.heap.size) : Fresh w0 (w.alloc (.chan 0 #[] false 0 0 false)) w.heap.size := ⟨h, alloc_new w _⟩
theorem new_ne {w : World} {c : Nat} {o : Obj} (h : w.heap[c]? = some o) : w.heap.size ≠ c := fun e => by have := lt_of_block h; omega
/-- How it is once all is made. -/
structure Newly (pl : Nat → Option Place) (F : Nat → Option (Nat × Nat)) (mv : Value) (w : World) (c : NewC) : Prop where
  lies : Lies pl F c.w
  ks : Ks (fun _ => False) w c.w
  f1 : Fresh w c.w c.c1
  f2 : Fresh w c.w c.c2
  f3 : Fresh w c.w c.c3
  n12 : c.c1 ≠ c.c2
  n13 : c.c1 ≠ c.c3
  n23 : c.c2 ≠ c.c3
  row : c.w.heap[c.p]? = some (.cells #[mv, .chan (some c.c1), .chan (some c.c2), .chan (some c.c3), .nilFunc, .bool false, .bool false] 83 (0, 0))
  new : w.heap.size ≤ c.p
/-- How it is once the operations X have been done. -/
def NewJ (pl : Nat → Option Place) (F : Nat → Option (Nat × Nat)) (mv : Value) (w : World) (X : Array Bool) (c : NewC) : Prop :=
  Lies pl F c.w ∧ Ks (fun _ => False) w c.w ∧ (X.getD 1 false = true → Fresh w c.w c.c1) ∧ (X.getD 2 false = true → Fresh w c.w c.c2) ∧ (X.getD 3 false = true → Fresh w c.w c.c3) ∧
  (X.getD 1 false = true → X.getD 2 false = true → c.c1 ≠ c.c2) ∧ (X.getD 1 false = true → X.getD 3 false = true → c.c1 ≠ c.c3) ∧ (X.getD 2 false = true → X.getD 3 false = true → c.c2 ≠ c.c3) ∧
  (X.getD 5 false = true → c.w.heap[c.p]? = some (.cells #[mv, .chan (some c.c1), .chan (some c.c2), .chan (some c.c3), .nilFunc, .bool false, .bool false] 83 (0, 0)) ∧ w.heap.size ≤ c.p)

def newTmps (mv : Value) (g : FuncId) (cap : Array Value) (c : NewC) (x6 x19 x20 x21 : Value) : Array Value := #[mv, .func (.func g) #[] cap, undef, undef, .pointer none, .int .i64 0, x6, mv, .bool false, .bool false, .func (.func g) #[] cap, .bool false, .bool false, mv, .chan (some c.c1), .chan (some c.c2), .chan (some c.c3), .agg #[mv, .chan (some c.c1), .chan (some c.c2), .chan (some c.c3), .nilFunc, .bool false, .bool false], .pointer (some ⟨c.p, 0, none⟩), x19, x20, x21, undef, undef]
/-- Where New stands once all is made. -/
def newAt (P : Program) (f : Func) (mv : Value) (g : FuncId) (cap : Array Value) (c : NewC) : Frame :=
  (Frame.enter P 8 #[mv, .func (.func g) #[] cap] .normal).at ⟨newTmps mv g cap c (.pointer (some ⟨c.p, 0, none⟩)) undef undef undef, []⟩ [.code (codeR (codeR (codeR (bodyOf f))))]
/-- Where New stands while it waits. -/
def newWait (P : Program) (f : Func) (mv : Value) (g : FuncId) (cap : Array Value) (c : NewC) : Frame :=
  (Frame.enter P 8 #[mv, .func (.func g) #[] cap] .normal).at ⟨newTmps mv g cap c (.pointer (some ⟨c.p, 0, none⟩)) (.pointer (some ⟨c.p, 0, none⟩)) (.func (.func g) #[] cap) (.pointer (some ⟨c.p, 0, none⟩)), []⟩ [.inRegion (regOps (codeL (codeR (codeR (codeR (codeR (bodyOf f))))))) [1], .code (codeR (codeR (codeR (codeR (codeR (bodyOf f))))))]

theorem func_not_nil (g : FuncId) (cap : Array Value) (w : World) : (binOp .eql 46 (.func (.func g) #[] cap) .nilFunc).run Try.prog w = .ok (.bool false) w := rfl
theorem func_not_nil2 (g : FuncId) (cap : Array Value) (w : World) : (binOp .eql 46 (.func (.func g) #[] cap) .nilFunc).events Try.prog w #[] = #[] := rfl
theorem mk_t (W : World) : (Instr.makeChan 78 (.int .i64 0)).run Try.prog W = .ok (.chan (some W.heap.size)) (W.alloc (.chan 0 #[] false 0 0 false)) := by kernel_rfl
theorem mk_u (W : World) : (Instr.makeChan 79 (.int .i64 0)).run Try.prog W = .ok (.chan (some W.heap.size)) (W.alloc (.chan 0 #[] false 0 0 false)) := by kernel_rfl
theorem mk_s (W : World) : (Instr.makeChan 80 (.int .i64 0)).run Try.prog W = .ok (.chan (some W.heap.size)) (W.alloc (.chan 0 #[] false 0 0 false)) := by kernel_rfl

section
variable {pl : Nat → Option Place} {n h : Nat} {Post : Value → World → Prop} {w : World} {F : Nat → Option (Nat × Nat)}

set_option maxHeartbeats 2000000 in
theorem new_in (L : Lies pl F w) {c₀ : Frame} {cs : List Frame} {mt : TypeId} {mval : Value} {g : FuncId} {cap : Array Value}
    (H : ∀ c, Newly pl F (.iface mt mval) w c → Win Try.prog Post pl n h (gor (newAt Try.prog Try.f8 (.iface mt mval) g cap c) (c₀ :: cs)) c.w) :
    Win Try.prog Post pl n h (gor (Frame.enter Try.prog 8 #[.iface mt mval, .func (.func g) #[] cap] .normal) (c₀ :: cs)) w := by
  have hne : (Frame.enter Try.prog 8 #[.iface mt mval, .func (.func g) #[] cap] CallKind.normal).kind = .normal := rfl
  rw [enter_at Try.func8 rfl]
  simp only [Try.ntmps8, List.size_toArray, List.length_cons, List.length_nil, Nat.reduceAdd, Nat.reduceSub, Array.replicate_succ, Array.replicate_zero, List.push_toArray, List.append_toArray, List.nil_append, List.cons_append]
  refine Win.seq ?_
  refine Win.region ?_
  simp only [List.size_toArray, List.length_cons, List.length_nil, Nat.reduceAdd, List.range, List.range.loop]
  refine Win.pureOp (v := .pointer none) (.inl hne) rfl rfl (fun w => rfl) ?_
  simp only [Act.put, Act.eval, gtA, gtZ, gtS, siA, scS, scZ]
  refine Win.pureOp (v := .int .i64 0) (.inl hne) rfl rfl (fun w => rfl) ?_
  simp only [Act.put, Act.eval, gtA, gtZ, gtS, siA, scS, scZ]
  refine Win.opsEnd ?_
  refine Win.seq ?_
  refine Win.seq ?_
  refine Win.region ?_
  simp only [List.size_toArray, List.length_cons, List.length_nil, Nat.reduceAdd, List.range, List.range.loop]
  refine Win.pureOp (v := .iface mt mval) (.inl hne) rfl rfl (fun w => rfl) ?_
  simp only [Act.put, Act.eval, gtA, gtZ, gtS, siA, scS, scZ]
  refine Win.pureOp (v := .bool false) (.inl hne) rfl rfl (fun w => by rw [Sem.runT_eq]; simp [go_sem, execOp, Act.eval]; try rfl) ?_
  simp only [Act.put, Act.eval, gtA, gtZ, gtS, siA, scS, scZ]
  refine Win.pureOp (v := .bool false) (.inl hne) rfl rfl (fun w => rfl) ?_
  simp only [Act.put, Act.eval, gtA, gtZ, gtS, siA, scS, scZ]
  refine Win.pureOp (v := .func (.func g) #[] cap) (.inl hne) rfl rfl (fun w => rfl) ?_
  simp only [Act.put, Act.eval, gtA, gtZ, gtS, siA, scS, scZ]
  refine Win.pureOp (v := .bool false) (.inl hne) rfl rfl (fun w => by rw [Sem.runT_eq]; simp [go_sem, execOp, Act.eval, func_not_nil, func_not_nil2]; try rfl) ?_
  simp only [Act.put, Act.eval, gtA, gtZ, gtS, siA, scS, scZ]
  refine Win.pureOp (v := .bool false) (.inl hne) rfl rfl (fun w => by rw [Sem.runT_eq]; simp [go_sem, execOp, Act.eval]; try rfl) ?_
  simp only [Act.put, Act.eval, gtA, gtZ, gtS, siA, scS, scZ]
  refine Win.opsEnd ?_
  refine Win.cond (t := false) rfl ?_
  simp only [if_false, Bool.false_eq_true]
  refine Win.skip ?_
  refine Win.seq ?_
  refine Win.anyFill (C := NewC) (Goal := fun c fr => Win Try.prog Post pl n h (gor fr (c₀ :: cs)) c.w) mixed (by kernel_rfl) (fun c i => match i with | 0 => .iface mt mval | 1 => .chan (some c.c1) | 2 => .chan (some c.c2) | 3 => .chan (some c.c3) | 4 => .agg #[.iface mt mval, .chan (some c.c1), .chan (some c.c2), .chan (some c.c3), .nilFunc, .bool false, .bool false] | 5 => .pointer (some ⟨c.p, 0, none⟩) | 6 => .pointer (some ⟨c.p, 0, none⟩) | _ => undef) (fun c => (⟨#[.iface mt mval, .func (.func g) #[] cap, undef, undef, .pointer none, .int .i64 0, .pointer (some ⟨c.p, 0, none⟩), .iface mt mval, .bool false, .bool false, .func (.func g) #[] cap, .bool false, .bool false, .iface mt mval, .chan (some c.c1), .chan (some c.c2), .chan (some c.c3), .agg #[.iface mt mval, .chan (some c.c1), .chan (some c.c2), .chan (some c.c3), .nilFunc, .bool false, .bool false], .pointer (some ⟨c.p, 0, none⟩), undef, undef, undef, undef, undef], []⟩ : Act)) (fun c => by simp only [fillAll, List.size_toArray, List.length_cons, List.length_nil, Nat.reduceAdd, List.range, List.range.loop, List.foldl_cons, List.foldl_nil, gqA, gqZ, gqS, Option.bind_some, Option.bind_none, Act.put, siA, scS, scZ]) (NewJ pl F (.iface mt mval) w) ⟨w, 0, 0, 0, 0⟩ (fun fr hh => hh) ?_ ?_ ⟨L, Ks.refl _ _, by simp, by simp, by simp, by simp, by simp, by simp, by simp⟩
  · intro X i o hX ho hx hr c a' L' hJ hcl hL'' hfl e1 e2 hd hn
    rcases i with _ | _ | _ | _ | _ | _ | _ | i
    · obtain rfl := Option.some.inj ho
      refine Win.op (v := .iface mt mval) (.inl hne) rfl rfl (fun d => ⟨#[], by rw [e1, Sem.runT_eq]; simp [go_sem, execOp, Act.eval]; try (first | rfl | kernel_rfl | exact ⟨rfl, rfl⟩), fun e he => by simp at he⟩) (hn c (fun _ _ => rfl) ⟨hJ.1, hJ.2.1, fun z => hJ.2.2.1 (by rw [getD_set_ne false (by decide)] at z; exact z), fun z => hJ.2.2.2.1 (by rw [getD_set_ne false (by decide)] at z; exact z), fun z => hJ.2.2.2.2.1 (by rw [getD_set_ne false (by decide)] at z; exact z), fun z z' => hJ.2.2.2.2.2.1 (by rw [getD_set_ne false (by decide)] at z; exact z) (by rw [getD_set_ne false (by decide)] at z'; exact z'), fun z z' => hJ.2.2.2.2.2.2.1 (by rw [getD_set_ne false (by decide)] at z; exact z) (by rw [getD_set_ne false (by decide)] at z'; exact z'), fun z z' => hJ.2.2.2.2.2.2.2.1 (by rw [getD_set_ne false (by decide)] at z; exact z) (by rw [getD_set_ne false (by decide)] at z'; exact z'), fun z => hJ.2.2.2.2.2.2.2.2 (by rw [getD_set_ne false (by decide)] at z; exact z)⟩)
    · obtain rfl := Option.some.inj ho
      have hx' : X.getD 1 false = false := by
        have hlt : 1 < X.size := by rw [hX]; decide
        simpa [hlt] using hx
      have hcl4 : ∀ j, X.getD 4 false = true → (j = 1 ∨ j = 2 ∨ j = 3) → X.getD j false = true := fun j hj h3 => by
        rcases h3 with rfl | rfl | rfl
        · exact hcl 4 _ rfl hj { on := 1, ground := Ground.data } (by simp) rfl
        · exact hcl 4 _ rfl hj { on := 2, ground := Ground.data } (by simp) rfl
        · exact hcl 4 _ rfl hj { on := 3, ground := Ground.data } (by simp) rfl
      have hcl5 : ∀ j, X.getD 5 false = true → (j = 1 ∨ j = 2 ∨ j = 3) → X.getD j false = true := fun j hj => hcl4 j (hcl 5 _ rfl hj { on := 4, ground := Ground.data } (by simp) rfl)
      refine Win.makeOp (v := .chan (some c.w.heap.size)) (ob := .chan 0 #[] false 0 0 false) (es := #[]) hJ.1 (.inl hne) rfl rfl (fun d => ?_) (fun e he => by simp at he) ?_
      · rw [Sem.runT_eq]
        have hm := mk_t (c.w.at d)
        have hz : (c.w.at d).heap.size = c.w.heap.size := rfl
        rw [hz] at hm
        generalize World.at c.w d = WW at hm ⊢
        simp [go_sem, execOp, Act.eval, hm]
        try rfl
      · refine hn ⟨c.w.alloc (.chan 0 #[] false 0 0 false), c.p, c.w.heap.size, c.c2, c.c3⟩ (fun j hj => ?_) ⟨hJ.1.alloc _, hJ.2.1.trans (ks_alloc _ _ _), fun _ => fresh_new hJ.2.1.size, fun z => (hJ.2.2.2.1 (by rw [getD_set_ne false (by decide)] at z; exact z)).alloc _, fun z => (hJ.2.2.2.2.1 (by rw [getD_set_ne false (by decide)] at z; exact z)).alloc _, fun _ z => new_ne (hJ.2.2.2.1 (by rw [getD_set_ne false (by decide)] at z; exact z)).2, fun _ z => new_ne (hJ.2.2.2.2.1 (by rw [getD_set_ne false (by decide)] at z; exact z)).2, fun z z' => hJ.2.2.2.2.2.2.2.1 (by rw [getD_set_ne false (by decide)] at z; exact z) (by rw [getD_set_ne false (by decide)] at z'; exact z'), fun z => absurd (by rw [getD_set_ne false (by decide)] at z; exact hcl5 1 z (by simp)) (by rw [hx']; simp)⟩
        rcases j with _ | _ | _ | _ | _ | _ | _ | j
        · rfl
        · rw [hx'] at hj; cases hj
        · rfl
        · rfl
        · have := hcl4 1 hj (by simp); rw [hx'] at this; cases this
        · rfl
        · rfl
        · rfl
    · obtain rfl := Option.some.inj ho
      have hx' : X.getD 2 false = false := by
        have hlt : 2 < X.size := by rw [hX]; decide
        simpa [hlt] using hx
      have hcl4 : ∀ j, X.getD 4 false = true → (j = 1 ∨ j = 2 ∨ j = 3) → X.getD j false = true := fun j hj h3 => by
        rcases h3 with rfl | rfl | rfl
        · exact hcl 4 _ rfl hj { on := 1, ground := Ground.data } (by simp) rfl
        · exact hcl 4 _ rfl hj { on := 2, ground := Ground.data } (by simp) rfl
        · exact hcl 4 _ rfl hj { on := 3, ground := Ground.data } (by simp) rfl
      have hcl5 : ∀ j, X.getD 5 false = true → (j = 1 ∨ j = 2 ∨ j = 3) → X.getD j false = true := fun j hj => hcl4 j (hcl 5 _ rfl hj { on := 4, ground := Ground.data } (by simp) rfl)
      refine Win.makeOp (v := .chan (some c.w.heap.size)) (ob := .chan 0 #[] false 0 0 false) (es := #[]) hJ.1 (.inl hne) rfl rfl (fun d => ?_) (fun e he => by simp at he) ?_
      · rw [Sem.runT_eq]
        have hm := mk_u (c.w.at d)
        have hz : (c.w.at d).heap.size = c.w.heap.size := rfl
        rw [hz] at hm
        generalize World.at c.w d = WW at hm ⊢
        simp [go_sem, execOp, Act.eval, hm]
        try rfl
      · refine hn ⟨c.w.alloc (.chan 0 #[] false 0 0 false), c.p, c.c1, c.w.heap.size, c.c3⟩ (fun j hj => ?_) ⟨hJ.1.alloc _, hJ.2.1.trans (ks_alloc _ _ _), fun z => (hJ.2.2.1 (by rw [getD_set_ne false (by decide)] at z; exact z)).alloc _, fun _ => fresh_new hJ.2.1.size, fun z => (hJ.2.2.2.2.1 (by rw [getD_set_ne false (by decide)] at z; exact z)).alloc _, fun z _ => (new_ne (hJ.2.2.1 (by rw [getD_set_ne false (by decide)] at z; exact z)).2).symm, fun z z' => hJ.2.2.2.2.2.2.1 (by rw [getD_set_ne false (by decide)] at z; exact z) (by rw [getD_set_ne false (by decide)] at z'; exact z'), fun _ z => new_ne (hJ.2.2.2.2.1 (by rw [getD_set_ne false (by decide)] at z; exact z)).2, fun z => absurd (by rw [getD_set_ne false (by decide)] at z; exact hcl5 2 z (by simp)) (by rw [hx']; simp)⟩
        rcases j with _ | _ | _ | _ | _ | _ | _ | j
        · rfl
        · rfl
        · rw [hx'] at hj; cases hj
        · rfl
        · have := hcl4 2 hj (by simp); rw [hx'] at this; cases this
        · rfl
        · rfl
        · rfl
    · obtain rfl := Option.some.inj ho
      have hx' : X.getD 3 false = false := by
        have hlt : 3 < X.size := by rw [hX]; decide
        simpa [hlt] using hx
      have hcl4 : ∀ j, X.getD 4 false = true → (j = 1 ∨ j = 2 ∨ j = 3) → X.getD j false = true := fun j hj h3 => by
        rcases h3 with rfl | rfl | rfl
        · exact hcl 4 _ rfl hj { on := 1, ground := Ground.data } (by simp) rfl
        · exact hcl 4 _ rfl hj { on := 2, ground := Ground.data } (by simp) rfl
        · exact hcl 4 _ rfl hj { on := 3, ground := Ground.data } (by simp) rfl
      have hcl5 : ∀ j, X.getD 5 false = true → (j = 1 ∨ j = 2 ∨ j = 3) → X.getD j false = true := fun j hj => hcl4 j (hcl 5 _ rfl hj { on := 4, ground := Ground.data } (by simp) rfl)
      refine Win.makeOp (v := .chan (some c.w.heap.size)) (ob := .chan 0 #[] false 0 0 false) (es := #[]) hJ.1 (.inl hne) rfl rfl (fun d => ?_) (fun e he => by simp at he) ?_
      · rw [Sem.runT_eq]
        have hm := mk_s (c.w.at d)
        have hz : (c.w.at d).heap.size = c.w.heap.size := rfl
        rw [hz] at hm
        generalize World.at c.w d = WW at hm ⊢
        simp [go_sem, execOp, Act.eval, hm]
        try rfl
      · refine hn ⟨c.w.alloc (.chan 0 #[] false 0 0 false), c.p, c.c1, c.c2, c.w.heap.size⟩ (fun j hj => ?_) ⟨hJ.1.alloc _, hJ.2.1.trans (ks_alloc _ _ _), fun z => (hJ.2.2.1 (by rw [getD_set_ne false (by decide)] at z; exact z)).alloc _, fun z => (hJ.2.2.2.1 (by rw [getD_set_ne false (by decide)] at z; exact z)).alloc _, fun _ => fresh_new hJ.2.1.size, fun z z' => hJ.2.2.2.2.2.1 (by rw [getD_set_ne false (by decide)] at z; exact z) (by rw [getD_set_ne false (by decide)] at z'; exact z'), fun z _ => (new_ne (hJ.2.2.1 (by rw [getD_set_ne false (by decide)] at z; exact z)).2).symm, fun z _ => (new_ne (hJ.2.2.2.1 (by rw [getD_set_ne false (by decide)] at z; exact z)).2).symm, fun z => absurd (by rw [getD_set_ne false (by decide)] at z; exact hcl5 3 z (by simp)) (by rw [hx']; simp)⟩
        rcases j with _ | _ | _ | _ | _ | _ | _ | j
        · rfl
        · rfl
        · rfl
        · rw [hx'] at hj; cases hj
        · have := hcl4 3 hj (by simp); rw [hx'] at this; cases this
        · rfl
        · rfl
        · rfl
    · obtain rfl := Option.some.inj ho
      refine Win.op (v := .agg #[.iface mt mval, .chan (some c.c1), .chan (some c.c2), .chan (some c.c3), .nilFunc, .bool false, .bool false]) (.inl hne) rfl rfl (fun d => ⟨#[], by rw [e1, Sem.runT_eq]; simp [go_sem, execOp, Act.eval]; try (first | rfl | kernel_rfl | exact ⟨rfl, rfl⟩), fun e he => by simp at he⟩) (hn c (fun _ _ => rfl) ⟨hJ.1, hJ.2.1, fun z => hJ.2.2.1 (by rw [getD_set_ne false (by decide)] at z; exact z), fun z => hJ.2.2.2.1 (by rw [getD_set_ne false (by decide)] at z; exact z), fun z => hJ.2.2.2.2.1 (by rw [getD_set_ne false (by decide)] at z; exact z), fun z z' => hJ.2.2.2.2.2.1 (by rw [getD_set_ne false (by decide)] at z; exact z) (by rw [getD_set_ne false (by decide)] at z'; exact z'), fun z z' => hJ.2.2.2.2.2.2.1 (by rw [getD_set_ne false (by decide)] at z; exact z) (by rw [getD_set_ne false (by decide)] at z'; exact z'), fun z z' => hJ.2.2.2.2.2.2.2.1 (by rw [getD_set_ne false (by decide)] at z; exact z) (by rw [getD_set_ne false (by decide)] at z'; exact z'), fun z => hJ.2.2.2.2.2.2.2.2 (by rw [getD_set_ne false (by decide)] at z; exact z)⟩)
    · obtain rfl := Option.some.inj ho
      have hx' : X.getD 5 false = false := by
        have hlt : 5 < X.size := by rw [hX]; decide
        simpa [hlt] using hx
      have hcl6 : X.getD 6 false = true → X.getD 5 false = true := fun hj => hcl 6 _ rfl hj { on := 5, ground := Ground.data } (by simp) rfl
      refine Win.makeOp (v := .pointer (some ⟨c.w.heap.size, 0, none⟩)) (ob := .cells #[.iface mt mval, .chan (some c.c1), .chan (some c.c2), .chan (some c.c3), .nilFunc, .bool false, .bool false] 83) (es := #[]) hJ.1 (.inl hne) rfl rfl (fun d => ?_) (fun e he => by simp at he) ?_
      · rw [e1, Sem.runT_eq]
        have hz : (c.w.at d).heap.size = c.w.heap.size := rfl
        rw [← hz]
        generalize World.at c.w d = WW
        simp [go_sem, execOp, Act.eval]
        try rfl
      · refine hn ⟨c.w.alloc (.cells #[.iface mt mval, .chan (some c.c1), .chan (some c.c2), .chan (some c.c3), .nilFunc, .bool false, .bool false] 83), c.w.heap.size, c.c1, c.c2, c.c3⟩ (fun j hj => ?_) ⟨hJ.1.alloc _, hJ.2.1.trans (ks_alloc _ _ _), fun z => (hJ.2.2.1 (by rw [getD_set_ne false (by decide)] at z; exact z)).alloc _, fun z => (hJ.2.2.2.1 (by rw [getD_set_ne false (by decide)] at z; exact z)).alloc _, fun z => (hJ.2.2.2.2.1 (by rw [getD_set_ne false (by decide)] at z; exact z)).alloc _, fun z z' => hJ.2.2.2.2.2.1 (by rw [getD_set_ne false (by decide)] at z; exact z) (by rw [getD_set_ne false (by decide)] at z'; exact z'), fun z z' => hJ.2.2.2.2.2.2.1 (by rw [getD_set_ne false (by decide)] at z; exact z) (by rw [getD_set_ne false (by decide)] at z'; exact z'), fun z z' => hJ.2.2.2.2.2.2.2.1 (by rw [getD_set_ne false (by decide)] at z; exact z) (by rw [getD_set_ne false (by decide)] at z'; exact z'), fun _ => ⟨alloc_new _ _, hJ.2.1.size⟩⟩
        rcases j with _ | _ | _ | _ | _ | _ | _ | j
        · rfl
        · rfl
        · rfl
        · rfl
        · rfl
        · rw [hx'] at hj; cases hj
        · have := hcl6 hj; rw [hx'] at this; cases this
        · rfl
    · obtain rfl := Option.some.inj ho
      refine Win.op (v := .pointer (some ⟨c.p, 0, none⟩)) (.inl hne) rfl rfl (fun d => ⟨#[], by rw [e1, Sem.runT_eq]; simp [go_sem, execOp, Act.eval]; try (first | rfl | kernel_rfl | exact ⟨rfl, rfl⟩), fun e he => by simp at he⟩) (hn c (fun _ _ => rfl) ⟨hJ.1, hJ.2.1, fun z => hJ.2.2.1 (by rw [getD_set_ne false (by decide)] at z; exact z), fun z => hJ.2.2.2.1 (by rw [getD_set_ne false (by decide)] at z; exact z), fun z => hJ.2.2.2.2.1 (by rw [getD_set_ne false (by decide)] at z; exact z), fun z z' => hJ.2.2.2.2.2.1 (by rw [getD_set_ne false (by decide)] at z; exact z) (by rw [getD_set_ne false (by decide)] at z'; exact z'), fun z z' => hJ.2.2.2.2.2.2.1 (by rw [getD_set_ne false (by decide)] at z; exact z) (by rw [getD_set_ne false (by decide)] at z'; exact z'), fun z z' => hJ.2.2.2.2.2.2.2.1 (by rw [getD_set_ne false (by decide)] at z; exact z) (by rw [getD_set_ne false (by decide)] at z'; exact z'), fun z => hJ.2.2.2.2.2.2.2.2 (by rw [getD_set_ne false (by decide)] at z; exact z)⟩)
    · simp at ho
  · intro X c hall hJ
    have g1 := hall 1 (by simp)
    have g2 := hall 2 (by simp)
    have g3 := hall 3 (by simp)
    have g5 := hall 5 (by simp)
    refine Win.opsEnd ?_
    exact H c ⟨hJ.1, hJ.2.1, hJ.2.2.1 g1, hJ.2.2.2.1 g2, hJ.2.2.2.2.1 g3, hJ.2.2.2.2.2.1 g1 g2, hJ.2.2.2.2.2.2.1 g1 g3, hJ.2.2.2.2.2.2.2.1 g2 g3, (hJ.2.2.2.2.2.2.2.2 g5).1, (hJ.2.2.2.2.2.2.2.2 g5).2⟩
end

theorem way_new {mv : Value} {g : FuncId} {cap : Array Value} (c : NewC) (cs : List Frame) (main : Bool) (ops : Array Oper) : Way Try.prog main (waitSeat c.p c.c1 (fun _ _ => False) (fun gg => gg = gor (waitFr Try.prog Try.f32 c.p c.c1) (newWait Try.prog Try.f8 mv g cap c :: cs))) 60
    (gor ((Frame.enter Try.prog 8 #[mv, .func (.func g) #[] cap] .normal).at ⟨newTmps mv g cap c (.pointer (some ⟨c.p, 0, none⟩)) (.pointer (some ⟨c.p, 0, none⟩)) (.func (.func g) #[] cap) undef, []⟩ (.inRegion ops [] :: [.code (codeR (codeR (codeR (codeR (bodyOf Try.f8)))))])) cs) := by
  have hne : (Frame.enter Try.prog 8 #[mv, .func (.func g) #[] cap] .normal).kind = .normal := rfl
  refine Way.upTo (N := 45) ?_ (by omega)
  refine Way.opsEnd ?_
  simp only [bodyOf, Try.f8, codeR, Option.getD_some]
  refine Way.seq ?_
  refine Way.region ?_
  simp only [List.size_toArray, List.length_cons, List.length_nil, Nat.reduceAdd, List.range, List.range.loop, newTmps]
  refine Way.pure (v := .pointer (some ⟨c.p, 0, none⟩)) (.inl hne) rfl rfl (fun w => rfl) ?_
  simp only [Act.put, Act.eval, gtA, gtZ, gtS, siA, scS, scZ]
  refine Way.enter (f := 32) (args := #[.pointer (some ⟨c.p, 0, none⟩)]) (es := #[]) (.inl hne) rfl rfl (fun e he => by simp at he) (fun w _ => call_enter mild.toMild Try.func32 rfl rfl rfl rfl _ _ (by simp [Act.eval])) ?_
  have hw := way_wait c.p c.c1 (fun _ _ => False) (newWait Try.prog Try.f8 mv g cap c :: cs) main
  exact hw

section
variable {pl : Nat → Option Place} {n h : Nat} {Post : Value → World → Prop} {w : World} {F : Nat → Option (Nat × Nat)}

/-- On to the program's begin. -/
theorem new_go {c₀ : Frame} {cs : List Frame} {mv : Value} {g : FuncId} {cap : Array Value} {c : NewC} (N : Newly pl F mv w c) (hap : ∀ i s' x, pl i = some s' → s'.has x → x ≠ c.c1)
    (H : Win Try.prog Post (Go.ConcN.upd pl h (some (waitSeat c.p c.c1 (fun _ _ => False) (fun gg => gg = gor (waitFr Try.prog Try.f32 c.p c.c1) (newWait Try.prog Try.f8 mv g cap c :: c₀ :: cs))))) (n + 1) n (born Try.prog { target := .fn (.func 31) #[], args := #[.pointer (some ⟨c.p, 0, none⟩), .func (.func g) #[] cap] }) c.w) :
    Win Try.prog Post pl n h (gor (newAt Try.prog Try.f8 mv g cap c) (c₀ :: cs)) c.w := by
  have hne : (Frame.enter Try.prog 8 #[mv, .func (.func g) #[] cap] .normal).kind = .normal := rfl
  have hway := way_new (mv := mv) (g := g) (cap := cap) c (c₀ :: cs) (h == 0)
  unfold newAt
  simp only [bodyOf, Try.f8, codeL, codeR, Option.getD_some, newTmps] at hway ⊢
  refine Win.seq ?_
  refine Win.region ?_
  simp only [List.size_toArray, List.length_cons, List.length_nil, Nat.reduceAdd, List.range, List.range.loop]
  refine Win.pureOp (v := .pointer (some ⟨c.p, 0, none⟩)) (.inl hne) rfl rfl (fun w => rfl) ?_
  simp only [Act.put, Act.eval, gtA, gtZ, gtS, siA, scS, scZ]
  refine Win.pureOp (v := .func (.func g) #[] cap) (.inl hne) rfl rfl (fun w => rfl) ?_
  simp only [Act.put, Act.eval, gtA, gtZ, gtS, siA, scS, scZ]
  refine Win.hires (pl' := some (waitSeat c.p c.c1 (fun _ _ => False) (fun gg => gg = gor (waitFr Try.prog Try.f32 c.p c.c1) (newWait Try.prog Try.f8 mv g cap c :: c₀ :: cs)))) (d₀ := { target := .fn (.func 31) #[], args := #[.pointer (some ⟨c.p, 0, none⟩), .func (.func g) #[] cap] }) (es := #[]) (.inl hne) rfl rfl (by simp) (fun d => by
    rw [Sem.runT_eq]
    generalize World.at c.w d = WW
    simp [go_sem, execOp, Act.eval]
    try rfl) (fun e he => by simp at he) ⟨waitSeat_wf, fun q hq => ?_, fun i' s' q hi hq hq' => ?_, fun ad v hv => ?_, 60, ?_⟩ H
  · rw [waitSeat_has hq]; exact ⟨_, N.f1.2⟩
  · exact hap i' s' q hi hq (waitSeat_has hq')
  · rcases hv with ⟨rfl, rfl⟩ | hv
    · exact cell_of_row N.row 1
    · exact hv.elim
  · exact hway _

/-- Behind the wait: New answers. -/
theorem new_back {c₀ : Frame} {cs : List Frame} {mv : Value} {g : FuncId} {cap : Array Value} {c : NewC} {next x y : Value} {ok : Bool} (h4 : w.cell? ⟨c.p, 4, none⟩ = some x) (h6 : w.cell? ⟨c.p, 6, none⟩ = some y) (f4 : w.frozen? ⟨c.p, 4, none⟩ = false) (f6 : w.frozen? ⟨c.p, 6, none⟩ = false)
    (hn1 : ∀ l, next ≠ .agg l) (hn2 : ∀ l, next ≠ .tuple l) (F4 : Free pl ⟨c.p, 4, none⟩) (F6 : Free pl ⟨c.p, 6, none⟩)
    (H : Win Try.prog Post pl n h (gor (c₀.finish (.tuple #[.pointer (some ⟨c.p, 0, none⟩), .int .i64 0])) cs) ((w.setCell ⟨c.p, 4, none⟩ next).setCell ⟨c.p, 6, none⟩ (.bool !ok))) :
    Win Try.prog Post pl n h (Go.Conc.served (gor (waitFr Try.prog Try.f32 c.p c.c1) (newWait Try.prog Try.f8 mv g cap c :: c₀ :: cs)) (.tuple #[next, .bool ok])) w := by
  refine wait_back h4 h6 f4 f6 hn1 hn2 F4 F6 ?_
  generalize (w.setCell ⟨c.p, 4, none⟩ next).setCell ⟨c.p, 6, none⟩ (.bool !ok) = w1 at *
  unfold newWait
  rw [Frame.finish_at]
  have hne : (Frame.enter Try.prog 8 #[mv, .func (.func g) #[] cap] .normal).kind = .normal := rfl
  simp only [bodyOf, Try.f8, codeL, codeR, regOps, Option.getD_some, newTmps]
  simp only [Act.put, Act.eval, gqA, gqZ, gqS, Option.bind_some, gtA, gtZ, gtS, siA, scS, scZ]
  refine Win.opsEnd ?_
  refine Win.seq ?_
  refine Win.region ?_
  simp only [List.size_toArray, List.length_cons, List.length_nil, Nat.reduceAdd, List.range, List.range.loop]
  refine Win.pureOp (v := .pointer (some ⟨c.p, 0, none⟩)) (.inl hne) rfl rfl (fun w => rfl) ?_
  simp only [Act.put, Act.eval, gtA, gtZ, gtS, siA, scS, scZ]
  refine Win.pureOp (v := .pointer (some ⟨c.p, 0, none⟩)) (.inl hne) rfl rfl (fun w => rfl) ?_
  simp only [Act.put, Act.eval, gtA, gtZ, gtS, siA, scS, scZ]
  refine Win.pureOp (v := .int .i64 0) (.inl hne) rfl rfl (fun w => rfl) ?_
  simp only [Act.put, Act.eval, gtA, gtZ, gtS, siA, scS, scZ]
  refine Win.opsEnd ?_
  refine Win.ret ?_
  exact Win.leave (v := .tuple #[.pointer (some ⟨c.p, 0, none⟩), .int .i64 0]) rfl rfl hne Try.func8 (fun d => ⟨#[], by rw [Sem.runT_eq]; simp [go_sem, results, Try.f8, Frame.at], fun e he => by simp at he⟩) H
end
end Go.Proofs.Ytnbaiinhalplcaa

namespace Go.Proofs.Ytnbaiinhalplcaa
open List renaming getElem_toArray → gtA, getElem_cons_zero → gtZ, getElem_cons_succ → gtS, setIfInBounds_toArray → siA, set_cons_succ → scS, set_cons_zero → scZ, getElem?_toArray → gqA, getElem?_cons_zero → gqZ, getElem?_cons_succ → gqS
set_option linter.unusedVariables false
set_option linter.unusedSimpArgs false
set_option maxRecDepth 100000
open Go.Conc
open Go.ConcN (upd_ne upd_same)

section
variable {G : Type} {Post : Value → World → Prop} {Sh : (Nat → Col) → World → G → Prop} {SB : Nat → Prop} {pA rA : Nat} {a : Ag} {mv : Value} {n : Nat} {T : Tree G}
variable {pl pl' : Nat → Option Place} {F F' : Nat → Option (Nat × Nat)} {col col' : Nat → Col} {w w' : World} {g : G}

theorem stAt_laid2 {nx nx' : Value} {bz ov : Bool} (h : StAt a mv nx bz ov w) (ok : Bool) : StAt a mv nx' bz ok ((w.setCell ⟨a.p, 4, none⟩ nx').setCell ⟨a.p, 6, none⟩ (.bool ok)) := by
  unfold StAt at *
  have h1 := heap_setCell_same w a.p 4 _ _ nx' h
  have h2 := heap_setCell_same _ a.p 6 _ _ (.bool ok) h1
  rw [h2]
  simp
theorem ks_laid2 (w : World) (p : Nat) (x y : Value) : Ks (· = p) w ((w.setCell ⟨p, 4, none⟩ x).setCell ⟨p, 6, none⟩ y) := (ks_setCell w ⟨p, 4, none⟩ x).trans (ks_setCell _ ⟨p, 6, none⟩ y)
theorem size_laid2 (w : World) (p : Nat) (x y : Value) : ((w.setCell ⟨p, 4, none⟩ x).setCell ⟨p, 6, none⟩ y).heap.size = w.heap.size := by simp [World.setCell]

/-- Who waits to tell what an agent came to, in one of two ways: 'back' tells how. -/
theorem wait_ends (hSh : Shar Sh) {home : Goroutine → Prop} {c₀ : Frame} {cs : List Frame} {ans : Value} {g' : G} {T' : Tree G} (hO : AgOK a F col) (hL : Lay SB pA rA col F w) {nxv : Value} {ov : Bool} (hst : StAt a mv nxv false ov w)
    (hback : ∀ gm pl' w' x y next ok, home gm → w'.cell? ⟨a.p, 4, none⟩ = some x → w'.cell? ⟨a.p, 6, none⟩ = some y → w'.frozen? ⟨a.p, 4, none⟩ = false → w'.frozen? ⟨a.p, 6, none⟩ = false → (∀ l, next ≠ .agg l) → (∀ l, next ≠ .tuple l) → Free pl' ⟨a.p, 4, none⟩ → Free pl' ⟨a.p, 6, none⟩ →
      Win Try.prog Post pl' n 0 (gor (c₀.finish ans) cs) ((w'.setCell ⟨a.p, 4, none⟩ next).setCell ⟨a.p, 6, none⟩ (.bool !ok)) → Win Try.prog Post pl' n 0 (Go.Conc.served gm (.tuple #[next, .bool ok])) w')
    (hplo : ∀ i s c, i ≠ 0 → i ≠ a.j → pl i = some s → s.has c → c < w.heap.size ∧ col c = .sys i)
    (H : ∀ pl' F' col' w', Desk SB pA rA pl' F' col' w' → Ks (fun b => mine a col b ∨ b = a.p) w w' → Same F col w F' col' → (∀ i, i ≠ 0 → i ≠ a.j → pl' i = pl i) → Stands Post Sh SB pA rA a mv T' pl' F' col' w' → Sh col' w' g' → Win Try.prog Post pl' n 0 (gor (c₀.finish ans) cs) w') :
    Kont Post Sh SB pA rA a mv home n T' pl F col w g' := by
  have hj0 : (0 : Nat) ≠ a.j := by have := hO.jpos; omega
  have hpS : ¬ mine a col a.p := by
    intro h
    rcases h with h | h | h
    · rw [hO.cp] at h; cases h
    · exact h.2 rfl
    · rw [hO.cp] at h; cases h
  have core : ∀ (next : Value) (ok : Bool) pl' F' col' w', (∀ l, next ≠ .agg l) → (∀ l, next ≠ .tuple l) → After SB pA rA a pl F col w pl' F' col' w' →
      Win Try.prog Post pl' n 0 (gor (c₀.finish ans) cs) ((w'.setCell ⟨a.p, 4, none⟩ next).setCell ⟨a.p, 6, none⟩ (.bool !ok)) →
      ∀ gm, home gm → Win Try.prog Post pl' n 0 (Go.Conc.served gm (.tuple #[next, .bool ok])) w' := by
    intro next ok pl' F' col' w' hn1 hn2 hA hW gm hgm
    have hst' : StAt a mv nxv false ov w' := hA.mv.ks.row hpS hst
    have hFp : F' a.p = some (1, 4) := (hA.mv.fo _ (hL.lt (by rw [hO.cp]; simp))).trans hO.fp
    exact hback gm pl' w' _ _ next ok hgm (cell_of_row hst' 4) (cell_of_row hst' 6) (free_of_row hst' 4) (free_of_row hst' 6) hn1 hn2 (free_of_lies hA.lies hFp hst' (by omega)) (free_of_lies hA.lies hFp hst' (by omega)) hW
  have desk : ∀ (next : Value) (ok : Bool) pl' F' col' w', After SB pA rA a pl F col w pl' F' col' w' → (∀ s c, pl' a.j = some s → s.has c → col' c = .sys a.j) →
      Desk SB pA rA pl' F' col' ((w'.setCell ⟨a.p, 4, none⟩ next).setCell ⟨a.p, 6, none⟩ (.bool ok)) := by
    intro next ok pl' F' col' w' hA hj
    refine ⟨hA.pl0, (hA.lies.setCell _ _).setCell _ _, ⟨hA.lay.free, fun b hb => hA.lay.above b (by rw [size_laid2] at hb; exact hb), hA.lay.sb, hA.lay.ar⟩, fun i s c hi hc => ?_⟩
    by_cases e0 : i = 0
    · subst e0; rw [hA.pl0] at hi; cases hi
    by_cases ej : i = a.j
    · subst ej; exact hj s c hi hc
    · rw [hA.pls i e0 ej] at hi
      obtain ⟨h1, h2⟩ := hplo i s c e0 ej hi hc
      rw [hA.mv.colo c h1]; exact h2
  have ksAll : ∀ (x y : Value) pl' F' col' w', After SB pA rA a pl F col w pl' F' col' w' → Ks (fun b => mine a col b ∨ b = a.p) w ((w'.setCell ⟨a.p, 4, none⟩ x).setCell ⟨a.p, 6, none⟩ y) := by
    intro x y pl' F' col' w' hA
    exact (hA.mv.ks.mono fun b _ h => Or.inl h).then (ks_laid2 w' a.p x y) fun b _ e => .inr e
  have shAll : ∀ (x y : Value) pl' F' col' w', After SB pA rA a pl F col w pl' F' col' w' → Sh col' w' g' → Sh col' ((w'.setCell ⟨a.p, 4, none⟩ x).setCell ⟨a.p, 6, none⟩ y) g' := by
    intro x y pl' F' col' w' hA hs
    refine hSh.st _ _ _ _ _ hs (fun b hb => (ks_laid2 w' a.p x y).block b (hA.lay.ltS hb) fun e => ?_) fun _ hb => hb
    have h1 := hb
    have h2 := hA.mv.colo a.p (hL.lt (by rw [hO.cp]; simp))
    rw [e, h2, hO.cp] at h1; cases h1
  unfold Kont KontW
  cases T' with
  | ret =>
    intro pl' F' col' w' gm hgm hA hpj hsh hs
    refine core .nilFunc false pl' F' col' w' (by simp) (by simp) hA ?_ gm hgm
    have hst' : StAt a mv nxv false ov w' := hA.mv.ks.row hpS hst
    exact H pl' F' col' _ (desk _ true pl' F' col' w' hA fun s c h => by rw [hpj] at h; cases h) (ksAll _ _ pl' F' col' w' hA) ⟨hA.mv.colo, hA.mv.fo⟩ hA.pls ⟨hpj, stAt_laid2 hst' true⟩ (shAll _ _ pl' F' col' w' hA hs)
  | node kk φ c nx hl pre =>
    intro pl' F' col' w' gm t hgm hA oT oU oS hPo hs
    have hPo' := hPo
    obtain ⟨b3, homeJ, own, A, B, f, cap, q1, q2, q3, q4, q5, q6, q7, q8, q9, q10, q11, q12, q13, q14⟩ := hPo
    refine core t true pl' F' col' w' (by rw [q11.1]; simp) (by rw [q11.1]; simp) hA ?_ gm hgm
    have hst' : StAt a mv nxv false ov w' := hA.mv.ks.row hpS hst
    have hcp : col' a.p = .sys a.j := (hA.mv.colo _ (hL.lt (by rw [hO.cp]; simp))).trans hO.cp
    have hcm : col' a.m = .sys a.j := (hA.mv.colo _ (hL.lt (by rw [hO.cm]; simp))).trans hO.cm
    have hcU : col' a.cU = .sys a.j := (hA.mv.colo _ (hL.lt (by rw [hO.ccU]; simp))).trans hO.ccU
    have hcS : col' a.cS = .sys a.j := (hA.mv.colo _ (hL.lt (by rw [hO.ccS]; simp))).trans hO.ccS
    have hkl := ks_laid2 w' a.p t (.bool (!true))
    have hch : ∀ {x : Nat}, Open x w' → x ≠ a.p := fun {x} h e => by
      obtain ⟨q, hq⟩ := h
      unfold StAt at hst'
      rw [← e, hq] at hst'; cases hst'
    exact H pl' F' col' _ (desk _ _ pl' F' col' w' hA fun s x h hx => by
        rw [q1] at h
        obtain rfl := Option.some.inj h
        rcases turnSeat_has hx with rfl | rfl
        · exact hcU
        · exact hcS) (ksAll _ _ pl' F' col' w' hA) ⟨hA.mv.colo, hA.mv.fo⟩ hA.pls
      ⟨t, stAt_laid2 hst' false, oT.keep hkl (hch oT), oU.keep hkl (hch oU), oS.keep hkl (hch oS), hPo'.keep hA.lay ⟨_, _, _, hst'⟩ rfl hcm ⟨fun _ _ => rfl, fun _ _ => rfl⟩ fun b hb hc => hkl.block b hb fun e => by
        rcases hc with hc | hc
        · rw [show b = a.p from e, hcp] at hc; cases hc
        · exact hc.2 e⟩ (shAll _ _ pl' F' col' w' hA hs)

theorem three_size (W : World) (o1 o2 o3 : Obj) : (((W.alloc o1).alloc o2).alloc o3).heap.size = W.heap.size + 3 := by
  show (((W.heap.push o1).push o2).push o3).size = _
  rw [Array.size_push, Array.size_push, Array.size_push]
theorem three_first (W : World) (o1 o2 o3 : Obj) : (((W.alloc o1).alloc o2).alloc o3).heap[W.heap.size]? = some o1 := by
  have z1 : (W.alloc o1).heap.size = W.heap.size + 1 := Array.size_push _
  have z2 : ((W.alloc o1).alloc o2).heap.size = (W.alloc o1).heap.size + 1 := Array.size_push _
  rw [alloc_heap _ _ _ (by omega), alloc_heap _ _ _ (by omega)]
  exact alloc_new _ _
theorem three_second (W : World) (o1 o2 o3 : Obj) : (((W.alloc o1).alloc o2).alloc o3).heap[W.heap.size + 1]? = some o2 := by
  have z1 : (W.alloc o1).heap.size = W.heap.size + 1 := Array.size_push _
  have z2 : ((W.alloc o1).alloc o2).heap.size = (W.alloc o1).heap.size + 1 := Array.size_push _
  rw [alloc_heap _ _ _ (by omega), ← z1]
  exact alloc_new _ _
theorem three_third (W : World) (o1 o2 o3 : Obj) : (((W.alloc o1).alloc o2).alloc o3).heap[W.heap.size + 2]? = some o3 := by
  have z1 : (W.alloc o1).heap.size = W.heap.size + 1 := Array.size_push _
  have z2 : ((W.alloc o1).alloc o2).heap.size = (W.alloc o1).heap.size + 1 := Array.size_push _
  rw [show W.heap.size + 2 = ((W.alloc o1).alloc o2).heap.size by omega]
  exact alloc_new _ _
set_option maxHeartbeats 2000000 in
/-- NEW: the program goes on to its first touch, or to its end. -/
theorem new_goes (hSh : Shar Sh) (D : Desk SB pA rA pl F col w) (hn : 0 < n) (hpn : pl n = none) (hfresh : ∀ b, col b ≠ .sys n) {mt : TypeId} {mval : Value} {gf : FuncId} {cap : Array Value} {fn : Func} (hg : Try.prog.funcs[gf]? = some fn) (hgb : fn.body.isNone = false)
    {own0 : Nat → Prop} {A0 : World → Prop} (hP0 : Priv own0 A0) (hown0 : ∀ b, own0 b → col b = .ag n) (hA0 : A0 w) (hs : Sh col w g) {g1 : G} {c₀ : Frame} {cs : List Frame}
    (hprog : ∀ a home pl' F' col' w' b1 b2, a.j = n → Acts SB pA rA a (.iface mt mval) home true false pl' F' col' w' → Boxed a b1 b2 w' → col' b1 = .ag n → col' b2 = .ag n → (∀ b, own0 b → col' b = .ag n) → A0 w' → Sh col' w' g → Kont Post Sh SB pA rA a (.iface mt mval) home (n + 1) T pl' F' col' w' g1 →
      Win Try.prog Post pl' (n + 1) a.j (gor (Frame.enter Try.prog gf (#[.iface 107 (.pointer (some ⟨a.m, 0, none⟩))] ++ cap) .normal) [runFr Try.prog Try.f31 a.p a.m b1 b2 gf cap, rootFr Try.prog]) w')
    (H : ∀ a pl' F' col' w', a.j = n → AgOK a F' col' → Desk SB pA rA pl' F' col' w' → Ks (fun b => col b = .ag n ∨ col b = .shared) w w' → Same F col w F' col' → (∀ i, i ≠ n → pl' i = pl i) → Stands Post Sh SB pA rA a (.iface mt mval) T pl' F' col' w' → Sh col' w' g1 → w.heap.size ≤ a.p →
      Win Try.prog Post pl' (n + 1) 0 (gor (c₀.finish (.tuple #[.pointer (some ⟨a.p, 0, none⟩), .int .i64 0])) cs) w') :
    Win Try.prog Post pl n 0 (gor (Frame.enter Try.prog 8 #[.iface mt mval, .func (.func gf) #[] cap] .normal) (c₀ :: cs)) w := by
  refine new_in D.lies fun C N => ?_
  have hold : ∀ i s x, pl i = some s → s.has x → x < w.heap.size ∧ col x = .sys i := fun i s x hi hx => by
    have h := D.own i s x hi hx
    exact ⟨D.lay.lt (by rw [h]; simp), h⟩
  have p1 := N.f1.1
  have p2 := N.f2.1
  have p3 := N.f3.1
  have pp := N.new
  have l1 := lt_of_block N.f1.2
  have l2 := lt_of_block N.f2.2
  have l3 := lt_of_block N.f3.2
  have lp := lt_of_block N.row
  have hp1 : C.p ≠ C.c1 := fun e => by have := N.row; rw [e, N.f1.2] at this; cases this
  have hp2 : C.p ≠ C.c2 := fun e => by have := N.row; rw [e, N.f2.2] at this; cases this
  have hp3 : C.p ≠ C.c3 := fun e => by have := N.row; rw [e, N.f3.2] at this; cases this
  have n12 := N.n12
  have n13 := N.n13
  have n23 := N.n23
  refine new_go N (fun i s' x hi hx => by have := (hold i s' x hi hx).1; omega) ?_
  obtain ⟨home, hhome⟩ : ∃ home : Goroutine → Prop, home = fun gg => gg = gor (waitFr Try.prog Try.f32 C.p C.c1) (newWait Try.prog Try.f8 (.iface mt mval) gf cap C :: c₀ :: cs) := ⟨_, rfl⟩
  rw [← hhome]
  have hFnew : ∀ b, w.heap.size ≤ b → F b = none := fun b hb => D.lay.free b (by rw [D.lay.above b hb]; rfl)
  have hL1 : Lies (Go.ConcN.upd pl 0 (some (waitSeat C.p C.c1 (fun _ _ => False) home))) (Go.ConcN.upd F C.p (some (1, 4))) C.w := by
    refine (N.lies.more (F' := Go.ConcN.upd F C.p (some (1, 4))) (fun i lo hi hi' => ?_) (fun i r hr => ?_)).put 0 (fun x hx => ?_) fun ad v hv => ?_
    · have hne : i ≠ C.p := fun e => by rw [e, hFnew _ pp] at hi'; cases hi'
      exact ⟨lo, hi, by rw [upd_ne _ _ hne]; exact hi', Nat.le_refl _, Nat.le_refl _⟩
    · by_cases e : i = C.p
      · subst e; exact ⟨_, _, N.row⟩
      · rw [upd_ne _ _ e] at hr; exact N.lies.lies i r hr
    · obtain rfl := waitSeat_has hx
      exact ⟨_, _, _, _, _, _, N.f1.2⟩
    · rcases hv with ⟨rfl, rfl⟩ | hv
      · exact ⟨1, 4, upd_same _ _ _, Nat.le_refl _, (by decide : 1 < 4)⟩
      · exact hv.elim
  refine prog_begins hL1 hg hgb fun m b1 b2 w' hm hb1 hb2 hw' => ?_
  have hz : w'.heap.size = C.w.heap.size + 3 := by
    rw [hw']
    show (World.setCell _ _ _).heap.size = _
    rw [show ∀ (W : World) ad x, (W.setCell ad x).heap.size = W.heap.size from fun W ad x => by simp [World.setCell]]
    exact three_size _ _ _ _
  have kn : Ks (fun _ => False) C.w w' := by
    rw [hw']
    refine (((ks_alloc _ C.w _).trans (ks_alloc _ _ _)).trans (ks_alloc _ _ _)).then (ks_setCell _ ⟨b2, 0, none⟩ _) fun b hb e => ?_
    have e' : b = b2 := e
    omega
  have hz3 := three_size C.w (.cells #[.pointer (some ⟨C.p, 0, none⟩)] 35) (.cells #[.pointer (some ⟨C.p, 0, none⟩), .bool true, .int .i64 0] 109) (.cells #[.pointer none] 107)
  have hmr : w'.heap[m]? = some (.cells #[.pointer (some ⟨C.p, 0, none⟩), .bool true, .int .i64 0] 109 (0, 0)) := by
    rw [hw', (ks_setCell _ ⟨b2, 0, none⟩ _).block m (by rw [hz3]; omega) (by show ¬ m = b2; omega), hm]
    exact three_second _ _ _ _
  have hb1r : w'.heap[b1]? = some (.cells #[.pointer (some ⟨C.p, 0, none⟩)] 35 (0, 0)) := by
    rw [hw', (ks_setCell _ ⟨b2, 0, none⟩ _).block b1 (by rw [hz3]; omega) (by show ¬ b1 = b2; omega), hb1]
    exact three_first _ _ _ _
  have hb2r : w'.heap[b2]? = some (.cells #[.pointer (some ⟨m, 0, none⟩)] 107 (0, 0)) := by
    have h0 := three_third C.w (.cells #[.pointer (some ⟨C.p, 0, none⟩)] 35) (.cells #[.pointer (some ⟨C.p, 0, none⟩), .bool true, .int .i64 0] 109) (.cells #[.pointer none] 107)
    rw [← hb2] at h0
    have := heap_setCell_same _ b2 0 _ _ (.pointer (some ⟨m, 0, none⟩)) h0
    rw [hw', this]
    simp
  have hLw : Lies (Go.ConcN.upd pl 0 (some (waitSeat C.p C.c1 (fun _ _ => False) home))) (Go.ConcN.upd F C.p (some (1, 4))) w' := by
    rw [hw']; exact (((hL1.alloc _).alloc _).alloc _).setCell _ _
  clear hw' hL1
  obtain ⟨a, ha⟩ : ∃ a : Ag, a = ⟨n, C.p, C.c1, C.c2, C.c3, m⟩ := ⟨_, rfl⟩
  obtain ⟨F2, hF2⟩ : ∃ F2 : Nat → Option (Nat × Nat), F2 = Go.ConcN.upd (Go.ConcN.upd F C.p (some (1, 4))) m (some (0, 1)) := ⟨_, rfl⟩
  obtain ⟨col2, hc2⟩ : ∃ col2 : Nat → Col, col2 = fun b => if b = C.p ∨ b = C.c1 ∨ b = C.c2 ∨ b = C.c3 ∨ b = m then .sys n else if b = b1 ∨ b = b2 then .ag n else col b := ⟨_, rfl⟩
  have hFo : ∀ b, b < w.heap.size → F2 b = F b := fun b hb => by rw [hF2, upd_ne _ _ (by have := N.ks.size; omega), upd_ne _ _ (by omega)]
  have hco : ∀ b, b < w.heap.size → col2 b = col b := fun b hb => by
    have := N.ks.size
    rw [hc2]; show (if _ then _ else _) = _; rw [if_neg (by omega), if_neg (by omega)]
  have hsysn : ∀ b, (b = C.p ∨ b = C.c1 ∨ b = C.c2 ∨ b = C.c3 ∨ b = m) → col2 b = .sys n := fun b hb => by rw [hc2]; show (if _ then _ else _) = _; rw [if_pos hb]
  have hagn : ∀ b, (b = b1 ∨ b = b2) → col2 b = .ag n := fun b hb => by rw [hc2]; show (if _ then _ else _) = _; rw [if_neg (by omega), if_pos hb]
  have hL2 : Lies (Go.ConcN.upd pl 0 (some (waitSeat C.p C.c1 (fun _ _ => False) home))) F2 w' := by
    rw [hF2]
    refine hLw.more (fun i lo hi hi' => ?_) (fun i r hr => ?_)
    · have hne : i ≠ m := fun e => by rw [e, upd_ne _ _ (by omega), hFnew _ (by have := N.ks.size; omega)] at hi'; cases hi'
      exact ⟨lo, hi, by rw [upd_ne _ _ hne]; exact hi', Nat.le_refl _, Nat.le_refl _⟩
    · by_cases e : i = m
      · subst e; exact ⟨_, _, hmr⟩
      · rw [upd_ne _ _ e] at hr; exact hLw.lies i r hr
  have hks := N.ks.size
  have hLay : Lay SB pA rA col2 F2 w' := by
    have hne0 : ∀ b, col2 b ≠ .main → b < w'.heap.size := fun b hb => by
      rcases Nat.lt_or_ge b w'.heap.size with z | z
      · exact z
      · exact absurd (by rw [hc2]; show (if _ then _ else _) = _; rw [if_neg (by omega), if_neg (by omega)]; exact D.lay.above b (by omega)) hb
    refine ⟨fun b hb => ?_, fun b hb => ?_, fun b hb => ?_, ?_, ?_⟩
    · have hnp : b ≠ C.p := fun e => by rw [hsysn b (.inl e)] at hb; cases hb
      have hnm : b ≠ m := fun e => by rw [hsysn b (.inr (.inr (.inr (.inr e))))] at hb; cases hb
      rw [hF2, upd_ne _ _ hnm, upd_ne _ _ hnp]
      rcases Nat.lt_or_ge b w.heap.size with z | z
      · rw [hco b z] at hb; exact D.lay.free b hb
      · exact hFnew b z
    · rw [hc2]; show (if _ then _ else _) = _; rw [if_neg (by omega), if_neg (by omega)]; exact D.lay.above b (by omega)
    · exact (hco b (D.lay.lt (by rw [D.lay.sb b hb]; simp))).trans (D.lay.sb b hb)
    · exact (hco _ (D.lay.lt (by rw [D.lay.ar.1]; simp))).trans D.lay.ar.1
    · exact (hco _ (D.lay.lt (by rw [D.lay.ar.2]; simp))).trans D.lay.ar.2
  have hO : AgOK a F2 col2 := by
    rw [ha]
    exact ⟨hn, by rw [hF2]; exact upd_same _ _ _, by rw [hF2, upd_ne _ _ (by show C.p ≠ m; omega)]; exact upd_same _ _ _, hsysn _ (.inr (.inr (.inr (.inr rfl)))), hsysn _ (.inl rfl), hsysn _ (.inr (.inl rfl)), hsysn _ (.inr (.inr (.inl rfl))), hsysn _ (.inr (.inr (.inr (.inl rfl)))), n12, n13, n23⟩
  have hSt : StAt a (.iface mt mval) .nilFunc false false w' := by
    rw [ha]; exact kn.row (fun z => z) N.row
  have hMe : MeAt a true 0 w' := by rw [ha]; exact hmr
  have hT : Open a.cT w' := by rw [ha]; exact ⟨0, kn.row (fun z => z) N.f1.2⟩
  have hU : Open a.cU w' := by rw [ha]; exact ⟨0, kn.row (fun z => z) N.f2.2⟩
  have hS : Open a.cS w' := by rw [ha]; exact ⟨0, kn.row (fun z => z) N.f3.2⟩
  have hB : Boxed a b1 b2 w' := by rw [ha]; exact ⟨hb1r, hb2r⟩
  have hkw : Ks (fun _ => False) w w' := N.ks.trans kn
  have hj : a.j = n := by rw [ha]
  have hap : a.p = C.p := by rw [ha]
  have haT : a.cT = C.c1 := by rw [ha]
  have haU : a.cU = C.c2 := by rw [ha]
  have haS : a.cS = C.c3 := by rw [ha]
  have ham : a.m = m := by rw [ha]
  have hActs : Acts SB pA rA a (.iface mt mval) home true false (Go.ConcN.upd pl 0 (some (waitSeat C.p C.c1 (fun _ _ => False) home))) F2 col2 w' := by
    refine ⟨hO.jpos, hL2, hLay, ⟨fun _ _ => False, by rw [hap, haT]; exact upd_same _ _ _⟩, ?_, ?_, ⟨_, _, hSt⟩, hMe, hO.fm, hO.fp, hO.cm, hO.cp, hO.ccT, hO.ccU, hO.ccS, hO.dis, hT, hU, fun _ => hS⟩
    · rw [hj, upd_ne _ _ (by omega)]; exact hpn
    · intro i s' hi
      by_cases e0 : i = 0
      · subst e0
        rw [upd_same] at hi
        obtain rfl := Option.some.inj hi
        exact ⟨fun h => by have := waitSeat_has h; rw [haU] at this; exact n12 this.symm, fun h => by have := waitSeat_has h; rw [haS] at this; exact n13 this.symm⟩
      · rw [upd_ne _ _ e0] at hi
        exact ⟨fun h => by have := (hold i s' _ hi h).1; omega, fun h => by have := (hold i s' _ hi h).1; omega⟩
  rw [← hap, ← ham]
  have hfin := hprog a home _ F2 col2 w' b1 b2 hj hActs hB (hagn _ (.inl rfl)) (hagn _ (.inr rfl)) (fun b hb => (hco b (hP0.lt _ _ hA0 hb)).trans (hown0 b hb)) (hP0.st _ _ hA0 fun b hb => hkw.block b (hP0.lt _ _ hA0 hb) fun z => z) (hSh.st _ _ _ _ _ hs (fun b hb => hkw.block b (D.lay.ltS hb) fun z => z) fun b hb => (hco b (D.lay.ltS hb)).trans hb) ?_
  · rw [hj] at hfin; rw [hap] at hfin ⊢; exact hfin
  · refine wait_ends (c₀ := c₀) (cs := cs) (ans := .tuple #[.pointer (some ⟨a.p, 0, none⟩), .int .i64 0]) hSh hO hLay hSt ?_ ?_ ?_
    · intro gm pl' w'' x y next ok hgm h4 h6 f4 f6 hn1 hn2 F4 F6 hW
      rw [hhome] at hgm
      subst hgm
      rw [hap] at h4 h6 f4 f6 F4 F6 hW
      exact new_back h4 h6 f4 f6 hn1 hn2 F4 F6 hW
    · intro i s x e0 ej hi hx
      rw [upd_ne _ _ e0] at hi
      obtain ⟨h1, h2⟩ := hold i s x hi hx
      exact ⟨by omega, (hco x h1).trans h2⟩
    · intro pl' F' col' w'' hD' hk'' hS'' hpl'' hst'' hsh''
      refine H a pl' F' col' w'' hj (hO.keep hLay hS'') hD' ?_ ⟨fun b hb => (hS''.co b (by omega)).trans (hco b hb), fun b hb => (hS''.fo b (by omega)).trans (hFo b hb)⟩ (fun i ei => ?_) hst'' hsh'' (by rw [hap]; exact pp)
      · refine (hkw.mono fun b hb z => z.elim).then hk'' fun b hb z => ?_
        rcases z with z | z
        · unfold mine at z
          rw [hco b hb, hj] at z
          rcases z with z | z | z
          · exact .inl z
          · exact absurd z.1 (hfresh b)
          · exact .inr z
        · omega
      · by_cases e0 : i = 0
        · subst e0; rw [hD'.pl0, D.pl0]
        · exact (hpl'' i e0 (by rw [hj]; exact ei)).trans (upd_ne _ _ e0)
end
end Go.Proofs.Ytnbaiinhalplcaa

namespace Go.Proofs.Ytnbaiinhalplcaa
open List renaming getElem_toArray → gtA, getElem_cons_zero → gtZ, getElem_cons_succ → gtS, setIfInBounds_toArray → siA, set_cons_succ → scS, set_cons_zero → scZ, getElem?_toArray → gqA, getElem?_cons_zero → gqZ, getElem?_cons_succ → gqS
set_option linter.unusedVariables false
set_option linter.unusedSimpArgs false
set_option maxRecDepth 100000
open Go.Conc
open Go.ConcN (upd_ne upd_same)

section
variable {G : Type} {Post : Value → World → Prop} {Sh : (Nat → Col) → World → G → Prop} {SB : Nat → Prop} {pA rA : Nat} {a : Ag} {mv : Value} {home : Goroutine → Prop} {n : Nat} {T : Tree G} {runs ov : Bool}
variable {pl pl' : Nat → Option Place} {F F' : Nat → Option (Nat × Nat)} {col col' : Nat → Col} {w w' : World} {g : G}

/-- The program returns to 'run'. -/
theorem ret_out (hA : Ends SB pA rA a mv home pl F col w) {b1 b2 : Nat} (hB : Boxed a b1 b2 w) (hs : Sh col w g) (hShm : Shar Sh) {gf : FuncId} {cap : Array Value} {v : Value}
    (K : Kont Post Sh SB pA rA a mv home n .ret pl F col w g) : Win Try.prog Post pl n a.j (gor ((runFr Try.prog Try.f31 a.p a.m b1 b2 gf cap).finish v) [rootFr Try.prog]) w := by
  unfold runFr
  rw [Frame.finish_at]
  simp only [bodyOf, Try.f31, codeR, regOps, Option.getD_some]
  refine Win.opsEnd ?_
  refine Win.falls ?_
  exact prog_ends hA hB hs hShm (.inl rfl) rfl rfl rfl K

/-- A stopped touch throws the program out. -/
theorem halt_out (hA : Ends SB pA rA a mv home pl F col w) {b1 b2 : Nat} (hB : Boxed a b1 b2 w) (hs : Sh col w g) (hShm : Shar Sh) {gf : FuncId} {cap : Array Value} {b : Frame} {ac : Act} {k : List Item} (hd : ac.defers = []) (hc : ((b.at ac k).raise [haltE]).catches Try.prog = false)
    (K : Kont Post Sh SB pA rA a mv home n .ret pl F col w g) : Win Try.prog Post pl n a.j (gor ((b.at ac k).raise [haltE]) [runFr Try.prog Try.f31 a.p a.m b1 b2 gf cap, rootFr Try.prog]) w := by
  refine Win.unwinds (chain := [haltE]) rfl hd hc ?_
  exact prog_ends hA hB hs hShm (.inr ⟨_, rfl⟩) rfl rfl rfl K
end
end Go.Proofs.Ytnbaiinhalplcaa
