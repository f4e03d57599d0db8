/- Package agent: New, to the channels and the struct; on to the program's begin; and from the wait. Written by gen/ah_b.py. Conditions: as each theorem states them. -/
import Derived.Test.YtdingbkgkofanaaAhA
namespace Go.Proofs.Ytdingbkgkofanaa
set_option linter.unusedVariables false
set_option linter.unusedSimpArgs false
set_option maxRecDepth 100000
open Go.Conc
open Go.ConcN (upd_ne upd_same)

/-- What New makes. -/
structure NewC where
  w : World
  p : Nat
  c1 : Nat
  c2 : Nat
  c3 : Nat
def Fresh (w0 w : World) (c : Nat) : Prop := w0.heap.size ≤ c ∧ w.heap[c]? = some (.chan 0 #[] false 0 0 false)
theorem Fresh.alloc {w0 w : World} {c : Nat} (h : Fresh w0 w c) (ob : Obj) : Fresh w0 (w.alloc ob) c := ⟨h.1, (alloc_heap w ob c (lt_of_block h.2)).trans h.2⟩
theorem fresh_new {w0 w : World} (h : w0.heap.size ≤ w.heap.size) : Fresh w0 (w.alloc (.chan 0 #[] false 0 0 false)) w.heap.size := ⟨h, alloc_new w _⟩
theorem new_ne {w : World} {c : Nat} {o : Obj} (h : w.heap[c]? = some o) : w.heap.size ≠ c := fun e => by have := lt_of_block h; omega
/-- How it is once all is made. -/
structure Newly (pl : Nat → Option Place) (F : Nat → Option (Nat × Nat)) (mv : Value) (w : World) (c : NewC) : Prop where
  lies : Lies pl F c.w
  ks : Ks (fun _ => False) w c.w
  f1 : Fresh w c.w c.c1
  f2 : Fresh w c.w c.c2
  f3 : Fresh w c.w c.c3
  n12 : c.c1 ≠ c.c2
  n13 : c.c1 ≠ c.c3
  n23 : c.c2 ≠ c.c3
  row : c.w.heap[c.p]? = some (.cells #[mv, .chan (some c.c1), .chan (some c.c2), .chan (some c.c3), .nilFunc, .bool false, .bool false] 81 (0, 0))
  new : w.heap.size ≤ c.p
/-- How it is once the operations X have been done. -/
def NewJ (pl : Nat → Option Place) (F : Nat → Option (Nat × Nat)) (mv : Value) (w : World) (X : Array Bool) (c : NewC) : Prop :=
  Lies pl F c.w ∧ Ks (fun _ => False) w c.w ∧ (X.getD 1 false = true → Fresh w c.w c.c1) ∧ (X.getD 2 false = true → Fresh w c.w c.c2) ∧ (X.getD 3 false = true → Fresh w c.w c.c3) ∧
  (X.getD 1 false = true → X.getD 2 false = true → c.c1 ≠ c.c2) ∧ (X.getD 1 false = true → X.getD 3 false = true → c.c1 ≠ c.c3) ∧ (X.getD 2 false = true → X.getD 3 false = true → c.c2 ≠ c.c3) ∧
  (X.getD 5 false = true → c.w.heap[c.p]? = some (.cells #[mv, .chan (some c.c1), .chan (some c.c2), .chan (some c.c3), .nilFunc, .bool false, .bool false] 81 (0, 0)) ∧ w.heap.size ≤ c.p)

def newTmps (mv : Value) (g : FuncId) (cap : Array Value) (c : NewC) (x6 x19 x20 x21 : Value) : Array Value := #[mv, .func (.func g) #[] cap, undef, undef, .pointer none, .int .i64 0, x6, mv, .bool false, .bool false, .func (.func g) #[] cap, .bool false, .bool false, mv, .chan (some c.c1), .chan (some c.c2), .chan (some c.c3), .agg #[mv, .chan (some c.c1), .chan (some c.c2), .chan (some c.c3), .nilFunc, .bool false, .bool false], .pointer (some ⟨c.p, 0, none⟩), x19, x20, x21, undef, undef]
/-- Where New stands once all is made. -/
def newAt (P : Program) (f : Func) (mv : Value) (g : FuncId) (cap : Array Value) (c : NewC) : Frame :=
  (Frame.enter P 12 #[mv, .func (.func g) #[] cap] .normal).at ⟨newTmps mv g cap c (.pointer (some ⟨c.p, 0, none⟩)) undef undef undef, []⟩ [.code (codeR (codeR (codeR (bodyOf f))))]
/-- Where New stands while it waits. -/
def newWait (P : Program) (f : Func) (mv : Value) (g : FuncId) (cap : Array Value) (c : NewC) : Frame :=
  (Frame.enter P 12 #[mv, .func (.func g) #[] cap] .normal).at ⟨newTmps mv g cap c (.pointer (some ⟨c.p, 0, none⟩)) (.pointer (some ⟨c.p, 0, none⟩)) (.func (.func g) #[] cap) (.pointer (some ⟨c.p, 0, none⟩)), []⟩ [.inRegion (regOps (codeL (codeR (codeR (codeR (codeR (bodyOf f))))))) [1], .code (codeR (codeR (codeR (codeR (codeR (bodyOf f))))))]

theorem func_not_nil (g : FuncId) (cap : Array Value) (w : World) : (binOp .eql 36 (.func (.func g) #[] cap) .nilFunc).run Try.prog w = .ok (.bool false) w := rfl
theorem func_not_nil2 (g : FuncId) (cap : Array Value) (w : World) : (binOp .eql 36 (.func (.func g) #[] cap) .nilFunc).events Try.prog w #[] = #[] := rfl
theorem mk_t (W : World) : (Instr.makeChan 76 (.int .i64 0)).run Try.prog W = .ok (.chan (some W.heap.size)) (W.alloc (.chan 0 #[] false 0 0 false)) := by kernel_rfl
theorem mk_u (W : World) : (Instr.makeChan 77 (.int .i64 0)).run Try.prog W = .ok (.chan (some W.heap.size)) (W.alloc (.chan 0 #[] false 0 0 false)) := by kernel_rfl
theorem mk_s (W : World) : (Instr.makeChan 78 (.int .i64 0)).run Try.prog W = .ok (.chan (some W.heap.size)) (W.alloc (.chan 0 #[] false 0 0 false)) := by kernel_rfl

section
variable {pl : Nat → Option Place} {n h : Nat} {Post : Value → World → Prop} {w : World} {F : Nat → Option (Nat × Nat)}

set_option maxHeartbeats 2000000 in
theorem new_in (L : Lies pl F w) {c₀ : Frame} {cs : List Frame} {mt : TypeId} {mval : Value} {g : FuncId} {cap : Array Value}
    (H : ∀ c, Newly pl F (.iface mt mval) w c → Win Try.prog Post pl n h (gor (newAt Try.prog Try.f12 (.iface mt mval) g cap c) (c₀ :: cs)) c.w) :
    Win Try.prog Post pl n h (gor (Frame.enter Try.prog 12 #[.iface mt mval, .func (.func g) #[] cap] .normal) (c₀ :: cs)) w := by
  have hne : (Frame.enter Try.prog 12 #[.iface mt mval, .func (.func g) #[] cap] CallKind.normal).kind = .normal := rfl
  rw [enter_at Try.func12 rfl]
  simp only [Try.ntmps12, List.size_toArray, List.length_cons, List.length_nil, Nat.reduceAdd, Nat.reduceSub, Array.replicate_succ, Array.replicate_zero, List.push_toArray, List.append_toArray, List.nil_append, List.cons_append]
  refine Win.seq ?_
  refine Win.region ?_
  simp only [List.size_toArray, List.length_cons, List.length_nil, Nat.reduceAdd, List.range, List.range.loop]
  refine Win.pureOp (v := .pointer none) (.inl hne) rfl rfl (fun w => rfl) ?_
  simp only [Act.put, Act.eval, List.getElem_toArray, List.getElem_cons_zero, List.getElem_cons_succ, List.setIfInBounds_toArray, List.set_cons_succ, List.set_cons_zero]
  refine Win.pureOp (v := .int .i64 0) (.inl hne) rfl rfl (fun w => rfl) ?_
  simp only [Act.put, Act.eval, List.getElem_toArray, List.getElem_cons_zero, List.getElem_cons_succ, List.setIfInBounds_toArray, List.set_cons_succ, List.set_cons_zero]
  refine Win.opsEnd ?_
  refine Win.seq ?_
  refine Win.seq ?_
  refine Win.region ?_
  simp only [List.size_toArray, List.length_cons, List.length_nil, Nat.reduceAdd, List.range, List.range.loop]
  refine Win.pureOp (v := .iface mt mval) (.inl hne) rfl rfl (fun w => rfl) ?_
  simp only [Act.put, Act.eval, List.getElem_toArray, List.getElem_cons_zero, List.getElem_cons_succ, List.setIfInBounds_toArray, List.set_cons_succ, List.set_cons_zero]
  refine Win.pureOp (v := .bool false) (.inl hne) rfl rfl (fun w => by rw [Sem.runT_eq]; simp [go_sem, execOp, Act.eval]; try rfl) ?_
  simp only [Act.put, Act.eval, List.getElem_toArray, List.getElem_cons_zero, List.getElem_cons_succ, List.setIfInBounds_toArray, List.set_cons_succ, List.set_cons_zero]
  refine Win.pureOp (v := .bool false) (.inl hne) rfl rfl (fun w => rfl) ?_
  simp only [Act.put, Act.eval, List.getElem_toArray, List.getElem_cons_zero, List.getElem_cons_succ, List.setIfInBounds_toArray, List.set_cons_succ, List.set_cons_zero]
  refine Win.pureOp (v := .func (.func g) #[] cap) (.inl hne) rfl rfl (fun w => rfl) ?_
  simp only [Act.put, Act.eval, List.getElem_toArray, List.getElem_cons_zero, List.getElem_cons_succ, List.setIfInBounds_toArray, List.set_cons_succ, List.set_cons_zero]
  refine Win.pureOp (v := .bool false) (.inl hne) rfl rfl (fun w => by rw [Sem.runT_eq]; simp [go_sem, execOp, Act.eval, func_not_nil, func_not_nil2]; try rfl) ?_
  simp only [Act.put, Act.eval, List.getElem_toArray, List.getElem_cons_zero, List.getElem_cons_succ, List.setIfInBounds_toArray, List.set_cons_succ, List.set_cons_zero]
  refine Win.pureOp (v := .bool false) (.inl hne) rfl rfl (fun w => by rw [Sem.runT_eq]; simp [go_sem, execOp, Act.eval]; try rfl) ?_
  simp only [Act.put, Act.eval, List.getElem_toArray, List.getElem_cons_zero, List.getElem_cons_succ, List.setIfInBounds_toArray, List.set_cons_succ, List.set_cons_zero]
  refine Win.opsEnd ?_
  refine Win.cond (t := false) rfl ?_
  simp only [if_false, Bool.false_eq_true]
  refine Win.skip ?_
  refine Win.seq ?_
  refine Win.anyFill (C := NewC) (Goal := fun c fr => Win Try.prog Post pl n h (gor fr (c₀ :: cs)) c.w) mixed (by kernel_rfl) (fun c i => match i with | 0 => .iface mt mval | 1 => .chan (some c.c1) | 2 => .chan (some c.c2) | 3 => .chan (some c.c3) | 4 => .agg #[.iface mt mval, .chan (some c.c1), .chan (some c.c2), .chan (some c.c3), .nilFunc, .bool false, .bool false] | 5 => .pointer (some ⟨c.p, 0, none⟩) | 6 => .pointer (some ⟨c.p, 0, none⟩) | _ => undef) (fun c => (⟨#[.iface mt mval, .func (.func g) #[] cap, undef, undef, .pointer none, .int .i64 0, .pointer (some ⟨c.p, 0, none⟩), .iface mt mval, .bool false, .bool false, .func (.func g) #[] cap, .bool false, .bool false, .iface mt mval, .chan (some c.c1), .chan (some c.c2), .chan (some c.c3), .agg #[.iface mt mval, .chan (some c.c1), .chan (some c.c2), .chan (some c.c3), .nilFunc, .bool false, .bool false], .pointer (some ⟨c.p, 0, none⟩), undef, undef, undef, undef, undef], []⟩ : Act)) (fun c => by simp only [fillAll, List.size_toArray, List.length_cons, List.length_nil, Nat.reduceAdd, List.range, List.range.loop, List.foldl_cons, List.foldl_nil, List.getElem?_toArray, List.getElem?_cons_zero, List.getElem?_cons_succ, Option.bind_some, Option.bind_none, Act.put, List.setIfInBounds_toArray, List.set_cons_succ, List.set_cons_zero]) (NewJ pl F (.iface mt mval) w) ⟨w, 0, 0, 0, 0⟩ (fun fr hh => hh) ?_ ?_ ⟨L, Ks.refl _ _, by simp, by simp, by simp, by simp, by simp, by simp, by simp⟩
  · intro X i o hX ho hx hr c a' L' hJ hcl hL'' hfl e1 e2 hd hn
    rcases i with _ | _ | _ | _ | _ | _ | _ | i
    · obtain rfl := Option.some.inj ho
      refine Win.op (v := .iface mt mval) (.inl hne) rfl rfl (fun d => ⟨#[], by rw [e1, Sem.runT_eq]; simp [go_sem, execOp, Act.eval]; try (first | rfl | kernel_rfl | exact ⟨rfl, rfl⟩), fun e he => by simp at he⟩) (hn c (fun _ _ => rfl) ⟨hJ.1, hJ.2.1, fun z => hJ.2.2.1 (by rw [getD_set_ne false (by decide)] at z; exact z), fun z => hJ.2.2.2.1 (by rw [getD_set_ne false (by decide)] at z; exact z), fun z => hJ.2.2.2.2.1 (by rw [getD_set_ne false (by decide)] at z; exact z), fun z z' => hJ.2.2.2.2.2.1 (by rw [getD_set_ne false (by decide)] at z; exact z) (by rw [getD_set_ne false (by decide)] at z'; exact z'), fun z z' => hJ.2.2.2.2.2.2.1 (by rw [getD_set_ne false (by decide)] at z; exact z) (by rw [getD_set_ne false (by decide)] at z'; exact z'), fun z z' => hJ.2.2.2.2.2.2.2.1 (by rw [getD_set_ne false (by decide)] at z; exact z) (by rw [getD_set_ne false (by decide)] at z'; exact z'), fun z => hJ.2.2.2.2.2.2.2.2 (by rw [getD_set_ne false (by decide)] at z; exact z)⟩)
    · obtain rfl := Option.some.inj ho
      have hx' : X.getD 1 false = false := by
        have hlt : 1 < X.size := by rw [hX]; decide
        simpa [hlt] using hx
      have hcl4 : ∀ j, X.getD 4 false = true → (j = 1 ∨ j = 2 ∨ j = 3) → X.getD j false = true := fun j hj h3 => by
        rcases h3 with rfl | rfl | rfl
        · exact hcl 4 _ rfl hj { on := 1, ground := Ground.data } (by simp) rfl
        · exact hcl 4 _ rfl hj { on := 2, ground := Ground.data } (by simp) rfl
        · exact hcl 4 _ rfl hj { on := 3, ground := Ground.data } (by simp) rfl
      have hcl5 : ∀ j, X.getD 5 false = true → (j = 1 ∨ j = 2 ∨ j = 3) → X.getD j false = true := fun j hj => hcl4 j (hcl 5 _ rfl hj { on := 4, ground := Ground.data } (by simp) rfl)
      refine Win.makeOp (v := .chan (some c.w.heap.size)) (ob := .chan 0 #[] false 0 0 false) (es := #[]) hJ.1 (.inl hne) rfl rfl (fun d => ?_) (fun e he => by simp at he) ?_
      · rw [Sem.runT_eq]
        have hm := mk_t (c.w.at d)
        have hz : (c.w.at d).heap.size = c.w.heap.size := rfl
        rw [hz] at hm
        generalize World.at c.w d = WW at hm ⊢
        simp [go_sem, execOp, Act.eval, hm]
        try rfl
      · refine hn ⟨c.w.alloc (.chan 0 #[] false 0 0 false), c.p, c.w.heap.size, c.c2, c.c3⟩ (fun j hj => ?_) ⟨hJ.1.alloc _, hJ.2.1.trans (ks_alloc _ _ _), fun _ => fresh_new hJ.2.1.size, fun z => (hJ.2.2.2.1 (by rw [getD_set_ne false (by decide)] at z; exact z)).alloc _, fun z => (hJ.2.2.2.2.1 (by rw [getD_set_ne false (by decide)] at z; exact z)).alloc _, fun _ z => new_ne (hJ.2.2.2.1 (by rw [getD_set_ne false (by decide)] at z; exact z)).2, fun _ z => new_ne (hJ.2.2.2.2.1 (by rw [getD_set_ne false (by decide)] at z; exact z)).2, fun z z' => hJ.2.2.2.2.2.2.2.1 (by rw [getD_set_ne false (by decide)] at z; exact z) (by rw [getD_set_ne false (by decide)] at z'; exact z'), fun z => absurd (by rw [getD_set_ne false (by decide)] at z; exact hcl5 1 z (by simp)) (by rw [hx']; simp)⟩
        rcases j with _ | _ | _ | _ | _ | _ | _ | j
        · rfl
        · rw [hx'] at hj; cases hj
        · rfl
        · rfl
        · have := hcl4 1 hj (by simp); rw [hx'] at this; cases this
        · rfl
        · rfl
        · rfl
    · obtain rfl := Option.some.inj ho
      have hx' : X.getD 2 false = false := by
        have hlt : 2 < X.size := by rw [hX]; decide
        simpa [hlt] using hx
      have hcl4 : ∀ j, X.getD 4 false = true → (j = 1 ∨ j = 2 ∨ j = 3) → X.getD j false = true := fun j hj h3 => by
        rcases h3 with rfl | rfl | rfl
        · exact hcl 4 _ rfl hj { on := 1, ground := Ground.data } (by simp) rfl
        · exact hcl 4 _ rfl hj { on := 2, ground := Ground.data } (by simp) rfl
        · exact hcl 4 _ rfl hj { on := 3, ground := Ground.data } (by simp) rfl
      have hcl5 : ∀ j, X.getD 5 false = true → (j = 1 ∨ j = 2 ∨ j = 3) → X.getD j false = true := fun j hj => hcl4 j (hcl 5 _ rfl hj { on := 4, ground := Ground.data } (by simp) rfl)
      refine Win.makeOp (v := .chan (some c.w.heap.size)) (ob := .chan 0 #[] false 0 0 false) (es := #[]) hJ.1 (.inl hne) rfl rfl (fun d => ?_) (fun e he => by simp at he) ?_
      · rw [Sem.runT_eq]
        have hm := mk_u (c.w.at d)
        have hz : (c.w.at d).heap.size = c.w.heap.size := rfl
        rw [hz] at hm
        generalize World.at c.w d = WW at hm ⊢
        simp [go_sem, execOp, Act.eval, hm]
        try rfl
      · refine hn ⟨c.w.alloc (.chan 0 #[] false 0 0 false), c.p, c.c1, c.w.heap.size, c.c3⟩ (fun j hj => ?_) ⟨hJ.1.alloc _, hJ.2.1.trans (ks_alloc _ _ _), fun z => (hJ.2.2.1 (by rw [getD_set_ne false (by decide)] at z; exact z)).alloc _, fun _ => fresh_new hJ.2.1.size, fun z => (hJ.2.2.2.2.1 (by rw [getD_set_ne false (by decide)] at z; exact z)).alloc _, fun z _ => (new_ne (hJ.2.2.1 (by rw [getD_set_ne false (by decide)] at z; exact z)).2).symm, fun z z' => hJ.2.2.2.2.2.2.1 (by rw [getD_set_ne false (by decide)] at z; exact z) (by rw [getD_set_ne false (by decide)] at z'; exact z'), fun _ z => new_ne (hJ.2.2.2.2.1 (by rw [getD_set_ne false (by decide)] at z; exact z)).2, fun z => absurd (by rw [getD_set_ne false (by decide)] at z; exact hcl5 2 z (by simp)) (by rw [hx']; simp)⟩
        rcases j with _ | _ | _ | _ | _ | _ | _ | j
        · rfl
        · rfl
        · rw [hx'] at hj; cases hj
        · rfl
        · have := hcl4 2 hj (by simp); rw [hx'] at this; cases this
        · rfl
        · rfl
        · rfl
    · obtain rfl := Option.some.inj ho
      have hx' : X.getD 3 false = false := by
        have hlt : 3 < X.size := by rw [hX]; decide
        simpa [hlt] using hx
      have hcl4 : ∀ j, X.getD 4 false = true → (j = 1 ∨ j = 2 ∨ j = 3) → X.getD j false = true := fun j hj h3 => by
        rcases h3 with rfl | rfl | rfl
        · exact hcl 4 _ rfl hj { on := 1, ground := Ground.data } (by simp) rfl
        · exact hcl 4 _ rfl hj { on := 2, ground := Ground.data } (by simp) rfl
        · exact hcl 4 _ rfl hj { on := 3, ground := Ground.data } (by simp) rfl
      have hcl5 : ∀ j, X.getD 5 false = true → (j = 1 ∨ j = 2 ∨ j = 3) → X.getD j false = true := fun j hj => hcl4 j (hcl 5 _ rfl hj { on := 4, ground := Ground.data } (by simp) rfl)
      refine Win.makeOp (v := .chan (some c.w.heap.size)) (ob := .chan 0 #[] false 0 0 false) (es := #[]) hJ.1 (.inl hne) rfl rfl (fun d => ?_) (fun e he => by simp at he) ?_
      · rw [Sem.runT_eq]
        have hm := mk_s (c.w.at d)
        have hz : (c.w.at d).heap.size = c.w.heap.size := rfl
        rw [hz] at hm
        generalize World.at c.w d = WW at hm ⊢
        simp [go_sem, execOp, Act.eval, hm]
        try rfl
      · refine hn ⟨c.w.alloc (.chan 0 #[] false 0 0 false), c.p, c.c1, c.c2, c.w.heap.size⟩ (fun j hj => ?_) ⟨hJ.1.alloc _, hJ.2.1.trans (ks_alloc _ _ _), fun z => (hJ.2.2.1 (by rw [getD_set_ne false (by decide)] at z; exact z)).alloc _, fun z => (hJ.2.2.2.1 (by rw [getD_set_ne false (by decide)] at z; exact z)).alloc _, fun _ => fresh_new hJ.2.1.size, fun z z' => hJ.2.2.2.2.2.1 (by rw [getD_set_ne false (by decide)] at z; exact z) (by rw [getD_set_ne false (by decide)] at z'; exact z'), fun z _ => (new_ne (hJ.2.2.1 (by rw [getD_set_ne false (by decide)] at z; exact z)).2).symm, fun z _ => (new_ne (hJ.2.2.2.1 (by rw [getD_set_ne false (by decide)] at z; exact z)).2).symm, fun z => absurd (by rw [getD_set_ne false (by decide)] at z; exact hcl5 3 z (by simp)) (by rw [hx']; simp)⟩
        rcases j with _ | _ | _ | _ | _ | _ | _ | j
        · rfl
        · rfl
        · rfl
        · rw [hx'] at hj; cases hj
        · have := hcl4 3 hj (by simp); rw [hx'] at this; cases this
        · rfl
        · rfl
        · rfl
    · obtain rfl := Option.some.inj ho
      refine Win.op (v := .agg #[.iface mt mval, .chan (some c.c1), .chan (some c.c2), .chan (some c.c3), .nilFunc, .bool false, .bool false]) (.inl hne) rfl rfl (fun d => ⟨#[], by rw [e1, Sem.runT_eq]; simp [go_sem, execOp, Act.eval]; try (first | rfl | kernel_rfl | exact ⟨rfl, rfl⟩), fun e he => by simp at he⟩) (hn c (fun _ _ => rfl) ⟨hJ.1, hJ.2.1, fun z => hJ.2.2.1 (by rw [getD_set_ne false (by decide)] at z; exact z), fun z => hJ.2.2.2.1 (by rw [getD_set_ne false (by decide)] at z; exact z), fun z => hJ.2.2.2.2.1 (by rw [getD_set_ne false (by decide)] at z; exact z), fun z z' => hJ.2.2.2.2.2.1 (by rw [getD_set_ne false (by decide)] at z; exact z) (by rw [getD_set_ne false (by decide)] at z'; exact z'), fun z z' => hJ.2.2.2.2.2.2.1 (by rw [getD_set_ne false (by decide)] at z; exact z) (by rw [getD_set_ne false (by decide)] at z'; exact z'), fun z z' => hJ.2.2.2.2.2.2.2.1 (by rw [getD_set_ne false (by decide)] at z; exact z) (by rw [getD_set_ne false (by decide)] at z'; exact z'), fun z => hJ.2.2.2.2.2.2.2.2 (by rw [getD_set_ne false (by decide)] at z; exact z)⟩)
    · obtain rfl := Option.some.inj ho
      have hx' : X.getD 5 false = false := by
        have hlt : 5 < X.size := by rw [hX]; decide
        simpa [hlt] using hx
      have hcl6 : X.getD 6 false = true → X.getD 5 false = true := fun hj => hcl 6 _ rfl hj { on := 5, ground := Ground.data } (by simp) rfl
      refine Win.makeOp (v := .pointer (some ⟨c.w.heap.size, 0, none⟩)) (ob := .cells #[.iface mt mval, .chan (some c.c1), .chan (some c.c2), .chan (some c.c3), .nilFunc, .bool false, .bool false] 81) (es := #[]) hJ.1 (.inl hne) rfl rfl (fun d => ?_) (fun e he => by simp at he) ?_
      · rw [e1, Sem.runT_eq]
        have hz : (c.w.at d).heap.size = c.w.heap.size := rfl
        rw [← hz]
        generalize World.at c.w d = WW
        simp [go_sem, execOp, Act.eval]
        try rfl
      · refine hn ⟨c.w.alloc (.cells #[.iface mt mval, .chan (some c.c1), .chan (some c.c2), .chan (some c.c3), .nilFunc, .bool false, .bool false] 81), c.w.heap.size, c.c1, c.c2, c.c3⟩ (fun j hj => ?_) ⟨hJ.1.alloc _, hJ.2.1.trans (ks_alloc _ _ _), fun z => (hJ.2.2.1 (by rw [getD_set_ne false (by decide)] at z; exact z)).alloc _, fun z => (hJ.2.2.2.1 (by rw [getD_set_ne false (by decide)] at z; exact z)).alloc _, fun z => (hJ.2.2.2.2.1 (by rw [getD_set_ne false (by decide)] at z; exact z)).alloc _, fun z z' => hJ.2.2.2.2.2.1 (by rw [getD_set_ne false (by decide)] at z; exact z) (by rw [getD_set_ne false (by decide)] at z'; exact z'), fun z z' => hJ.2.2.2.2.2.2.1 (by rw [getD_set_ne false (by decide)] at z; exact z) (by rw [getD_set_ne false (by decide)] at z'; exact z'), fun z z' => hJ.2.2.2.2.2.2.2.1 (by rw [getD_set_ne false (by decide)] at z; exact z) (by rw [getD_set_ne false (by decide)] at z'; exact z'), fun _ => ⟨alloc_new _ _, hJ.2.1.size⟩⟩
        rcases j with _ | _ | _ | _ | _ | _ | _ | j
        · rfl
        · rfl
        · rfl
        · rfl
        · rfl
        · rw [hx'] at hj; cases hj
        · have := hcl6 hj; rw [hx'] at this; cases this
        · rfl
    · obtain rfl := Option.some.inj ho
      refine Win.op (v := .pointer (some ⟨c.p, 0, none⟩)) (.inl hne) rfl rfl (fun d => ⟨#[], by rw [e1, Sem.runT_eq]; simp [go_sem, execOp, Act.eval]; try (first | rfl | kernel_rfl | exact ⟨rfl, rfl⟩), fun e he => by simp at he⟩) (hn c (fun _ _ => rfl) ⟨hJ.1, hJ.2.1, fun z => hJ.2.2.1 (by rw [getD_set_ne false (by decide)] at z; exact z), fun z => hJ.2.2.2.1 (by rw [getD_set_ne false (by decide)] at z; exact z), fun z => hJ.2.2.2.2.1 (by rw [getD_set_ne false (by decide)] at z; exact z), fun z z' => hJ.2.2.2.2.2.1 (by rw [getD_set_ne false (by decide)] at z; exact z) (by rw [getD_set_ne false (by decide)] at z'; exact z'), fun z z' => hJ.2.2.2.2.2.2.1 (by rw [getD_set_ne false (by decide)] at z; exact z) (by rw [getD_set_ne false (by decide)] at z'; exact z'), fun z z' => hJ.2.2.2.2.2.2.2.1 (by rw [getD_set_ne false (by decide)] at z; exact z) (by rw [getD_set_ne false (by decide)] at z'; exact z'), fun z => hJ.2.2.2.2.2.2.2.2 (by rw [getD_set_ne false (by decide)] at z; exact z)⟩)
    · simp at ho
  · intro X c hall hJ
    have g1 := hall 1 (by simp)
    have g2 := hall 2 (by simp)
    have g3 := hall 3 (by simp)
    have g5 := hall 5 (by simp)
    refine Win.opsEnd ?_
    exact H c ⟨hJ.1, hJ.2.1, hJ.2.2.1 g1, hJ.2.2.2.1 g2, hJ.2.2.2.2.1 g3, hJ.2.2.2.2.2.1 g1 g2, hJ.2.2.2.2.2.2.1 g1 g3, hJ.2.2.2.2.2.2.2.1 g2 g3, (hJ.2.2.2.2.2.2.2.2 g5).1, (hJ.2.2.2.2.2.2.2.2 g5).2⟩
end

theorem way_new {mv : Value} {g : FuncId} {cap : Array Value} (c : NewC) (cs : List Frame) (main : Bool) (ops : Array Oper) : Way Try.prog main (waitSeat c.p c.c1 (fun _ _ => False) (fun gg => gg = gor (waitFr Try.prog Try.f37 c.p c.c1) (newWait Try.prog Try.f12 mv g cap c :: cs))) 60
    (gor ((Frame.enter Try.prog 12 #[mv, .func (.func g) #[] cap] .normal).at ⟨newTmps mv g cap c (.pointer (some ⟨c.p, 0, none⟩)) (.pointer (some ⟨c.p, 0, none⟩)) (.func (.func g) #[] cap) undef, []⟩ (.inRegion ops [] :: [.code (codeR (codeR (codeR (codeR (bodyOf Try.f12)))))])) cs) := by
  have hne : (Frame.enter Try.prog 12 #[mv, .func (.func g) #[] cap] .normal).kind = .normal := rfl
  refine Way.upTo (N := 45) ?_ (by omega)
  refine Way.opsEnd ?_
  simp only [bodyOf, Try.f12, codeR, Option.getD_some]
  refine Way.seq ?_
  refine Way.region ?_
  simp only [List.size_toArray, List.length_cons, List.length_nil, Nat.reduceAdd, List.range, List.range.loop, newTmps]
  refine Way.pure (v := .pointer (some ⟨c.p, 0, none⟩)) (.inl hne) rfl rfl (fun w => rfl) ?_
  simp only [Act.put, Act.eval, List.getElem_toArray, List.getElem_cons_zero, List.getElem_cons_succ, List.setIfInBounds_toArray, List.set_cons_succ, List.set_cons_zero]
  refine Way.enter (f := 37) (args := #[.pointer (some ⟨c.p, 0, none⟩)]) (es := #[]) (.inl hne) rfl rfl (fun e he => by simp at he) (fun w _ => call_enter mild.toMild Try.func37 rfl rfl rfl rfl _ _ (by simp [Act.eval])) ?_
  have hw := way_wait c.p c.c1 (fun _ _ => False) (newWait Try.prog Try.f12 mv g cap c :: cs) main
  exact hw

section
variable {pl : Nat → Option Place} {n h : Nat} {Post : Value → World → Prop} {w : World} {F : Nat → Option (Nat × Nat)}

/-- On to the program's begin. -/
theorem new_go {c₀ : Frame} {cs : List Frame} {mv : Value} {g : FuncId} {cap : Array Value} {c : NewC} (N : Newly pl F mv w c) (hap : ∀ i s' x, pl i = some s' → s'.has x → x ≠ c.c1)
    (H : Win Try.prog Post (Go.ConcN.upd pl h (some (waitSeat c.p c.c1 (fun _ _ => False) (fun gg => gg = gor (waitFr Try.prog Try.f37 c.p c.c1) (newWait Try.prog Try.f12 mv g cap c :: c₀ :: cs))))) (n + 1) n (born Try.prog { target := .fn (.func 36) #[], args := #[.pointer (some ⟨c.p, 0, none⟩), .func (.func g) #[] cap] }) c.w) :
    Win Try.prog Post pl n h (gor (newAt Try.prog Try.f12 mv g cap c) (c₀ :: cs)) c.w := by
  have hne : (Frame.enter Try.prog 12 #[mv, .func (.func g) #[] cap] .normal).kind = .normal := rfl
  have hway := way_new (mv := mv) (g := g) (cap := cap) c (c₀ :: cs) (h == 0)
  unfold newAt
  simp only [bodyOf, Try.f12, codeL, codeR, Option.getD_some, newTmps] at hway ⊢
  refine Win.seq ?_
  refine Win.region ?_
  simp only [List.size_toArray, List.length_cons, List.length_nil, Nat.reduceAdd, List.range, List.range.loop]
  refine Win.pureOp (v := .pointer (some ⟨c.p, 0, none⟩)) (.inl hne) rfl rfl (fun w => rfl) ?_
  simp only [Act.put, Act.eval, List.getElem_toArray, List.getElem_cons_zero, List.getElem_cons_succ, List.setIfInBounds_toArray, List.set_cons_succ, List.set_cons_zero]
  refine Win.pureOp (v := .func (.func g) #[] cap) (.inl hne) rfl rfl (fun w => rfl) ?_
  simp only [Act.put, Act.eval, List.getElem_toArray, List.getElem_cons_zero, List.getElem_cons_succ, List.setIfInBounds_toArray, List.set_cons_succ, List.set_cons_zero]
  refine Win.hires (pl' := some (waitSeat c.p c.c1 (fun _ _ => False) (fun gg => gg = gor (waitFr Try.prog Try.f37 c.p c.c1) (newWait Try.prog Try.f12 mv g cap c :: c₀ :: cs)))) (d₀ := { target := .fn (.func 36) #[], args := #[.pointer (some ⟨c.p, 0, none⟩), .func (.func g) #[] cap] }) (es := #[]) (.inl hne) rfl rfl (by simp) (fun d => by
    rw [Sem.runT_eq]
    generalize World.at c.w d = WW
    simp [go_sem, execOp, Act.eval]
    try rfl) (fun e he => by simp at he) ⟨waitSeat_wf, fun q hq => ?_, fun i' s' q hi hq hq' => ?_, fun ad v hv => ?_, 60, ?_⟩ H
  · rw [waitSeat_has hq]; exact ⟨_, N.f1.2⟩
  · exact hap i' s' q hi hq (waitSeat_has hq')
  · rcases hv with ⟨rfl, rfl⟩ | hv
    · exact cell_of_row N.row 1
    · exact hv.elim
  · exact hway _

/-- Behind the wait: New answers. -/
theorem new_back {c₀ : Frame} {cs : List Frame} {mv : Value} {g : FuncId} {cap : Array Value} {c : NewC} {next x y : Value} {ok : Bool} (h4 : w.cell? ⟨c.p, 4, none⟩ = some x) (h6 : w.cell? ⟨c.p, 6, none⟩ = some y) (f4 : w.frozen? ⟨c.p, 4, none⟩ = false) (f6 : w.frozen? ⟨c.p, 6, none⟩ = false)
    (hn1 : ∀ l, next ≠ .agg l) (hn2 : ∀ l, next ≠ .tuple l) (F4 : Free pl ⟨c.p, 4, none⟩) (F6 : Free pl ⟨c.p, 6, none⟩)
    (H : Win Try.prog Post pl n h (gor (c₀.finish (.tuple #[.pointer (some ⟨c.p, 0, none⟩), .int .i64 0])) cs) ((w.setCell ⟨c.p, 4, none⟩ next).setCell ⟨c.p, 6, none⟩ (.bool !ok))) :
    Win Try.prog Post pl n h (Go.Conc.served (gor (waitFr Try.prog Try.f37 c.p c.c1) (newWait Try.prog Try.f12 mv g cap c :: c₀ :: cs)) (.tuple #[next, .bool ok])) w := by
  refine wait_back h4 h6 f4 f6 hn1 hn2 F4 F6 ?_
  generalize (w.setCell ⟨c.p, 4, none⟩ next).setCell ⟨c.p, 6, none⟩ (.bool !ok) = w1 at *
  unfold newWait
  rw [Frame.finish_at]
  have hne : (Frame.enter Try.prog 12 #[mv, .func (.func g) #[] cap] .normal).kind = .normal := rfl
  simp only [bodyOf, Try.f12, codeL, codeR, regOps, Option.getD_some, newTmps]
  simp only [Act.put, Act.eval, List.getElem?_toArray, List.getElem?_cons_zero, List.getElem?_cons_succ, Option.bind_some, List.getElem_toArray, List.getElem_cons_zero, List.getElem_cons_succ, List.setIfInBounds_toArray, List.set_cons_succ, List.set_cons_zero]
  refine Win.opsEnd ?_
  refine Win.seq ?_
  refine Win.region ?_
  simp only [List.size_toArray, List.length_cons, List.length_nil, Nat.reduceAdd, List.range, List.range.loop]
  refine Win.pureOp (v := .pointer (some ⟨c.p, 0, none⟩)) (.inl hne) rfl rfl (fun w => rfl) ?_
  simp only [Act.put, Act.eval, List.getElem_toArray, List.getElem_cons_zero, List.getElem_cons_succ, List.setIfInBounds_toArray, List.set_cons_succ, List.set_cons_zero]
  refine Win.pureOp (v := .pointer (some ⟨c.p, 0, none⟩)) (.inl hne) rfl rfl (fun w => rfl) ?_
  simp only [Act.put, Act.eval, List.getElem_toArray, List.getElem_cons_zero, List.getElem_cons_succ, List.setIfInBounds_toArray, List.set_cons_succ, List.set_cons_zero]
  refine Win.pureOp (v := .int .i64 0) (.inl hne) rfl rfl (fun w => rfl) ?_
  simp only [Act.put, Act.eval, List.getElem_toArray, List.getElem_cons_zero, List.getElem_cons_succ, List.setIfInBounds_toArray, List.set_cons_succ, List.set_cons_zero]
  refine Win.opsEnd ?_
  refine Win.ret ?_
  exact Win.leave (v := .tuple #[.pointer (some ⟨c.p, 0, none⟩), .int .i64 0]) rfl rfl hne Try.func12 (fun d => ⟨#[], by rw [Sem.runT_eq]; simp [go_sem, results, Try.f12, Frame.at], fun e he => by simp at he⟩) H
end
end Go.Proofs.Ytdingbkgkofanaa
