/- Package agent, the side of who steps: the agent's next touch is done. Written by gen/ag_v.py. Agents by trees, on: the desk of who steps; how agents stand is carried over what others do. Conditions: none. Package agent, the side of who steps: Step, to the turn and from the wait. Written by gen/ag_x.py. Package agent, the side of who steps: Step's turn. Written by gen/ag_y.py. Conditions: as each theorem states them. -/
import Derived.Test.YtnbibpmhmffmpaaPk11
namespace Go.Proofs.Ytnbibpmhmffmpaa
set_option linter.unusedVariables false
set_option linter.unusedSimpArgs false
set_option maxRecDepth 100000
open Go.Conc

theorem stok_at {P : Program} {b : Frame} {a : Act} {k : List Item} (hb : b.kind = .normal) (hr : (b.at a k).roundOf = none) (hd : ∀ d ∈ a.defers, okT d.target) (hk : k.all (itemOK P) = true) : StOK P (b.at a k) [] :=
  ⟨⟨fun i hi => (List.all_eq_true.1 hk) i hi, hd, hr, .inl hb⟩, fun f hf => by simp at hf, hb⟩
theorem mixed : Try.prog.follows .mixedOrders = true := by kernel_rfl
theorem assert_halt (w : World) : (Instr.typeAssert .nilIface 20 141 true).run Try.prog w = .ok (.tuple #[.agg #[], .bool false]) w := by kernel_rfl

section
variable {pl : Nat → Option Place} {n h : Nat} {Post : Value → World → Prop} {w : World} {F : Nat → Option (Nat × Nat)}

set_option maxHeartbeats 1000000 in
theorem touch_goes (L : Lies pl F w) {c : Frame} {cs : List Frame} {p : Nat} {f : FuncId} {cap : Array Value} {mv : Value} {Ψ : World → Prop} (h0 : w.cell? ⟨p, 0, none⟩ = some mv) (h4 : w.cell? ⟨p, 4, none⟩ = some (.func (.func f) #[] cap)) {fn : Func} (hfn : Try.prog.funcs[f]? = some fn) (hfb : fn.body.isNone = false)
    (hΨ : ∀ w', Ψ w' → Lies pl F w' ∧ w'.heap[w.heap.size]? = some (.cells #[.nilIface] 20 (0, 0)) ∧ w'.cell? ⟨p, 0, none⟩ = some mv ∧ w'.cell? ⟨p, 4, none⟩ = some (.func (.func f) #[] cap))
    (hgo : ∀ c₁ : Frame, StOK Try.prog c₁ [] → (∀ w', Ψ w' → Win Try.prog Post pl n h (gor (c₁.finish (.tuple #[])) (c :: cs)) w') → Win Try.prog Post pl n h (gor (Frame.enter Try.prog f (#[mv] ++ cap) .normal) (c₁ :: c :: cs)) (w.alloc (.cells #[.nilIface] 20)))
    (H : ∀ w' w'', Ψ w' → Ks (· = w.heap.size) w' w'' → Lies pl F w'' → Win Try.prog Post pl n h (gor (c.finish .nilIface) cs) w'') :
    Win Try.prog Post pl n h (gor (Frame.enter Try.prog 50 #[.pointer (some ⟨p, 0, none⟩)] .normal) (c :: cs)) w := by
  have hne : (Frame.enter Try.prog 50 #[.pointer (some ⟨p, 0, none⟩)] CallKind.normal).kind = .normal := rfl
  rw [enter_at Try.func50 rfl]
  simp only [Try.ntmps50, List.size_toArray, List.length_cons, List.length_nil, Nat.reduceAdd, Nat.reduceSub, Array.replicate_succ, Array.replicate_zero, List.push_toArray, List.append_toArray, List.nil_append, List.cons_append]
  refine Win.seq ?_
  refine Win.region ?_
  simp only [List.size_toArray, List.length_cons, List.length_nil, Nat.reduceAdd, List.range, List.range.loop]
  refine Win.makeOp (v := .pointer (some ⟨w.heap.size, 0, none⟩)) (ob := .cells #[.nilIface] 20) (es := #[]) L (.inl hne) rfl rfl (fun d => by rw [Sem.runT_eq]; simp [go_sem, execOp, Act.eval]; try rfl) (fun e he => by simp at he) ?_
  simp only [Act.put, Act.eval, List.getElem_toArray, List.getElem_cons_zero, List.getElem_cons_succ, List.setIfInBounds_toArray, List.set_cons_succ, List.set_cons_zero]
  refine Win.opsEnd ?_
  refine Win.seq ?_
  refine Win.region ?_
  simp only [List.size_toArray, List.length_cons, List.length_nil, Nat.reduceAdd, List.range, List.range.loop]
  refine Win.pureOp (v := .func (.func 80) #[] #[.pointer (some ⟨w.heap.size, 0, none⟩)]) (.inl hne) rfl rfl (fun w => by rw [Sem.runT_eq]; simp [go_sem, execOp, Act.eval]; try rfl) ?_
  simp only [Act.put, Act.eval, List.getElem_toArray, List.getElem_cons_zero, List.getElem_cons_succ, List.setIfInBounds_toArray, List.set_cons_succ, List.set_cons_zero]
  refine Win.defers (d₀ := { target := .fn (.func 80) #[.pointer (some ⟨w.heap.size, 0, none⟩)], args := #[] }) (.inl hne) rfl rfl (fun d => ⟨#[], by rw [Sem.runT_eq]; simp [go_sem, execOp, Act.eval]; try rfl, fun e he => by simp at he⟩) ?_
  simp only [Act.put, Act.eval, List.getElem_toArray, List.getElem_cons_zero, List.getElem_cons_succ, List.setIfInBounds_toArray, List.set_cons_succ, List.set_cons_zero]
  refine Win.opsEnd ?_
  refine Win.seq ?_
  have hr1 : (w.alloc (.cells #[.nilIface] 20)).cell? ⟨p, 0, none⟩ = some mv := alloc_cell w _ h0
  have hr4 : (w.alloc (.cells #[.nilIface] 20)).cell? ⟨p, 4, none⟩ = some (.func (.func f) #[] cap) := alloc_cell w _ h4
  generalize hw1 : w.alloc (.cells #[.nilIface] 20) = w1 at hr1 hr4 hgo ⊢
  refine Win.anyFill (C := World) (Goal := fun c' fr => Win Try.prog Post pl n h (gor fr (c :: cs)) c') mixed (by kernel_rfl) (fun _ i => match i with | 0 => .pointer (some ⟨p, 0, none⟩) | 1 => .pointer (some ⟨p, 0, none⟩) | 2 => .pointer (some ⟨p, 4, none⟩) | 3 => .func (.func f) #[] cap | 4 => .pointer (some ⟨p, 0, none⟩) | 5 => .pointer (some ⟨p, 0, none⟩) | 6 => .pointer (some ⟨p, 0, none⟩) | 7 => mv | _ => .tuple #[]) (fun _ => (⟨#[.pointer (some ⟨p, 0, none⟩), undef, .pointer (some ⟨w.heap.size, 0, none⟩), .func (.func 80) #[] #[.pointer (some ⟨w.heap.size, 0, none⟩)], .pointer (some ⟨p, 0, none⟩), .pointer (some ⟨p, 0, none⟩), .pointer (some ⟨p, 4, none⟩), .func (.func f) #[] cap, .pointer (some ⟨p, 0, none⟩), .pointer (some ⟨p, 0, none⟩), .pointer (some ⟨p, 0, none⟩), mv, .tuple #[]], [{ target := .fn (.func 80) #[.pointer (some ⟨w.heap.size, 0, none⟩)], args := #[] }]⟩ : Act)) (fun _ => by simp only [fillAll, List.size_toArray, List.length_cons, List.length_nil, Nat.reduceAdd, List.range, List.range.loop, List.foldl_cons, List.foldl_nil, List.getElem?_toArray, List.getElem?_cons_zero, List.getElem?_cons_succ, Option.bind_some, Act.put, List.setIfInBounds_toArray, List.set_cons_succ, List.set_cons_zero]) (fun X c' => (X.getD 8 false = false → c' = w1) ∧ (X.getD 8 false = true → Ψ c')) w1 (fun fr hh => hh) ?_ ?_ ⟨fun _ => rfl, fun z => by simp at z⟩
  · intro X i o hX ho hx hr c' a' L' hJ hcl hL'' hfl e1 e2 hd hn
    have hcell : c'.cell? ⟨p, 0, none⟩ = some mv ∧ c'.cell? ⟨p, 4, none⟩ = some (.func (.func f) #[] cap) := by
      cases hx8 : X.getD 8 false with
      | false => rw [hJ.1 hx8]; exact ⟨hr1, hr4⟩
      | true => exact (hΨ _ (hJ.2 hx8)).2.2
    obtain ⟨hp0, hp4⟩ := hcell
    rcases i with _ | _ | _ | _ | _ | _ | _ | _ | _ | i
    · obtain rfl := Option.some.inj ho
      have e1 : execOp a'.eval _ = execOp (⟨#[.pointer (some ⟨p, 0, none⟩), undef, .pointer (some ⟨w.heap.size, 0, none⟩), .func (.func 80) #[] #[.pointer (some ⟨w.heap.size, 0, none⟩)], .pointer (some ⟨p, 0, none⟩), .pointer (some ⟨p, 0, none⟩), .pointer (some ⟨p, 4, none⟩), .func (.func f) #[] cap, .pointer (some ⟨p, 0, none⟩), .pointer (some ⟨p, 0, none⟩), .pointer (some ⟨p, 0, none⟩), mv, .tuple #[]], [{ target := .fn (.func 80) #[.pointer (some ⟨w.heap.size, 0, none⟩)], args := #[] }]⟩ : Act).eval _ := e1
      have hn0 := hn c' (fun _ _ => rfl) ⟨fun z => hJ.1 (by rw [getD_set_ne false (by decide)] at z; exact z), fun z => hJ.2 (by rw [getD_set_ne false (by decide)] at z; exact z)⟩
      refine Win.op (v := .pointer (some ⟨p, 0, none⟩)) (.inl hne) rfl rfl (fun d => ?_) hn0
      exact ⟨#[], by rw [e1]; rfl, fun e he => by simp at he⟩
    · obtain rfl := Option.some.inj ho
      have e1 : execOp a'.eval _ = execOp (⟨#[.pointer (some ⟨p, 0, none⟩), undef, .pointer (some ⟨w.heap.size, 0, none⟩), .func (.func 80) #[] #[.pointer (some ⟨w.heap.size, 0, none⟩)], .pointer (some ⟨p, 0, none⟩), .pointer (some ⟨p, 0, none⟩), .pointer (some ⟨p, 4, none⟩), .func (.func f) #[] cap, .pointer (some ⟨p, 0, none⟩), .pointer (some ⟨p, 0, none⟩), .pointer (some ⟨p, 0, none⟩), mv, .tuple #[]], [{ target := .fn (.func 80) #[.pointer (some ⟨w.heap.size, 0, none⟩)], args := #[] }]⟩ : Act).eval _ := e1
      have hn0 := hn c' (fun _ _ => rfl) ⟨fun z => hJ.1 (by rw [getD_set_ne false (by decide)] at z; exact z), fun z => hJ.2 (by rw [getD_set_ne false (by decide)] at z; exact z)⟩
      refine Win.op (v := .pointer (some ⟨p, 0, none⟩)) (.inl hne) rfl rfl (fun d => ?_) hn0
      exact ⟨#[], by rw [e1, Sem.runT_eq]; simp [go_sem, execOp, Act.eval], fun e he => by simp at he⟩
    · obtain rfl := Option.some.inj ho
      have e1 : execOp a'.eval _ = execOp (⟨#[.pointer (some ⟨p, 0, none⟩), undef, .pointer (some ⟨w.heap.size, 0, none⟩), .func (.func 80) #[] #[.pointer (some ⟨w.heap.size, 0, none⟩)], .pointer (some ⟨p, 0, none⟩), .pointer (some ⟨p, 0, none⟩), .pointer (some ⟨p, 4, none⟩), .func (.func f) #[] cap, .pointer (some ⟨p, 0, none⟩), .pointer (some ⟨p, 0, none⟩), .pointer (some ⟨p, 0, none⟩), mv, .tuple #[]], [{ target := .fn (.func 80) #[.pointer (some ⟨w.heap.size, 0, none⟩)], args := #[] }]⟩ : Act).eval _ := e1
      have hn0 := hn c' (fun _ _ => rfl) ⟨fun z => hJ.1 (by rw [getD_set_ne false (by decide)] at z; exact z), fun z => hJ.2 (by rw [getD_set_ne false (by decide)] at z; exact z)⟩
      refine Win.op (v := .pointer (some ⟨p, 4, none⟩)) (.inl hne) rfl rfl (fun d => ?_) hn0
      exact ⟨#[], by rw [e1, Sem.runT_eq]; simp [go_sem, execOp, Act.eval], fun e he => by simp at he⟩
    · obtain rfl := Option.some.inj ho
      have e1 : execOp a'.eval _ = execOp (⟨#[.pointer (some ⟨p, 0, none⟩), undef, .pointer (some ⟨w.heap.size, 0, none⟩), .func (.func 80) #[] #[.pointer (some ⟨w.heap.size, 0, none⟩)], .pointer (some ⟨p, 0, none⟩), .pointer (some ⟨p, 0, none⟩), .pointer (some ⟨p, 4, none⟩), .func (.func f) #[] cap, .pointer (some ⟨p, 0, none⟩), .pointer (some ⟨p, 0, none⟩), .pointer (some ⟨p, 0, none⟩), mv, .tuple #[]], [{ target := .fn (.func 80) #[.pointer (some ⟨w.heap.size, 0, none⟩)], args := #[] }]⟩ : Act).eval _ := e1
      have hn0 := hn c' (fun _ _ => rfl) ⟨fun z => hJ.1 (by rw [getD_set_ne false (by decide)] at z; exact z), fun z => hJ.2 (by rw [getD_set_ne false (by decide)] at z; exact z)⟩
      refine Win.op (v := .func (.func f) #[] cap) (.inl hne) rfl rfl (fun d => ?_) hn0
      exact ⟨#[⟨.cell ⟨p, 4, none⟩, false, false⟩], by rw [e1, Sem.runT_eq]; have hc : (World.at c' d).cell? ⟨p, 4, none⟩ = _ := hp4; generalize World.at c' d = W at hc ⊢; simp [go_sem, execOp, Act.eval, hc], fun e he => by obtain rfl : e = ⟨.cell ⟨p, 4, none⟩, false, false⟩ := (by simpa using he); exact ⟨rfl, fun m => by simp⟩⟩
    · obtain rfl := Option.some.inj ho
      have e1 : execOp a'.eval _ = execOp (⟨#[.pointer (some ⟨p, 0, none⟩), undef, .pointer (some ⟨w.heap.size, 0, none⟩), .func (.func 80) #[] #[.pointer (some ⟨w.heap.size, 0, none⟩)], .pointer (some ⟨p, 0, none⟩), .pointer (some ⟨p, 0, none⟩), .pointer (some ⟨p, 4, none⟩), .func (.func f) #[] cap, .pointer (some ⟨p, 0, none⟩), .pointer (some ⟨p, 0, none⟩), .pointer (some ⟨p, 0, none⟩), mv, .tuple #[]], [{ target := .fn (.func 80) #[.pointer (some ⟨w.heap.size, 0, none⟩)], args := #[] }]⟩ : Act).eval _ := e1
      have hn0 := hn c' (fun _ _ => rfl) ⟨fun z => hJ.1 (by rw [getD_set_ne false (by decide)] at z; exact z), fun z => hJ.2 (by rw [getD_set_ne false (by decide)] at z; exact z)⟩
      refine Win.op (v := .pointer (some ⟨p, 0, none⟩)) (.inl hne) rfl rfl (fun d => ?_) hn0
      exact ⟨#[], by rw [e1]; rfl, fun e he => by simp at he⟩
    · obtain rfl := Option.some.inj ho
      have e1 : execOp a'.eval _ = execOp (⟨#[.pointer (some ⟨p, 0, none⟩), undef, .pointer (some ⟨w.heap.size, 0, none⟩), .func (.func 80) #[] #[.pointer (some ⟨w.heap.size, 0, none⟩)], .pointer (some ⟨p, 0, none⟩), .pointer (some ⟨p, 0, none⟩), .pointer (some ⟨p, 4, none⟩), .func (.func f) #[] cap, .pointer (some ⟨p, 0, none⟩), .pointer (some ⟨p, 0, none⟩), .pointer (some ⟨p, 0, none⟩), mv, .tuple #[]], [{ target := .fn (.func 80) #[.pointer (some ⟨w.heap.size, 0, none⟩)], args := #[] }]⟩ : Act).eval _ := e1
      have hn0 := hn c' (fun _ _ => rfl) ⟨fun z => hJ.1 (by rw [getD_set_ne false (by decide)] at z; exact z), fun z => hJ.2 (by rw [getD_set_ne false (by decide)] at z; exact z)⟩
      refine Win.op (v := .pointer (some ⟨p, 0, none⟩)) (.inl hne) rfl rfl (fun d => ?_) hn0
      exact ⟨#[], by rw [e1, Sem.runT_eq]; simp [go_sem, execOp, Act.eval], fun e he => by simp at he⟩
    · obtain rfl := Option.some.inj ho
      have e1 : execOp a'.eval _ = execOp (⟨#[.pointer (some ⟨p, 0, none⟩), undef, .pointer (some ⟨w.heap.size, 0, none⟩), .func (.func 80) #[] #[.pointer (some ⟨w.heap.size, 0, none⟩)], .pointer (some ⟨p, 0, none⟩), .pointer (some ⟨p, 0, none⟩), .pointer (some ⟨p, 4, none⟩), .func (.func f) #[] cap, .pointer (some ⟨p, 0, none⟩), .pointer (some ⟨p, 0, none⟩), .pointer (some ⟨p, 0, none⟩), mv, .tuple #[]], [{ target := .fn (.func 80) #[.pointer (some ⟨w.heap.size, 0, none⟩)], args := #[] }]⟩ : Act).eval _ := e1
      have hn0 := hn c' (fun _ _ => rfl) ⟨fun z => hJ.1 (by rw [getD_set_ne false (by decide)] at z; exact z), fun z => hJ.2 (by rw [getD_set_ne false (by decide)] at z; exact z)⟩
      refine Win.op (v := .pointer (some ⟨p, 0, none⟩)) (.inl hne) rfl rfl (fun d => ?_) hn0
      exact ⟨#[], by rw [e1, Sem.runT_eq]; simp [go_sem, execOp, Act.eval], fun e he => by simp at he⟩
    · obtain rfl := Option.some.inj ho
      have e1 : execOp a'.eval _ = execOp (⟨#[.pointer (some ⟨p, 0, none⟩), undef, .pointer (some ⟨w.heap.size, 0, none⟩), .func (.func 80) #[] #[.pointer (some ⟨w.heap.size, 0, none⟩)], .pointer (some ⟨p, 0, none⟩), .pointer (some ⟨p, 0, none⟩), .pointer (some ⟨p, 4, none⟩), .func (.func f) #[] cap, .pointer (some ⟨p, 0, none⟩), .pointer (some ⟨p, 0, none⟩), .pointer (some ⟨p, 0, none⟩), mv, .tuple #[]], [{ target := .fn (.func 80) #[.pointer (some ⟨w.heap.size, 0, none⟩)], args := #[] }]⟩ : Act).eval _ := e1
      have hn0 := hn c' (fun _ _ => rfl) ⟨fun z => hJ.1 (by rw [getD_set_ne false (by decide)] at z; exact z), fun z => hJ.2 (by rw [getD_set_ne false (by decide)] at z; exact z)⟩
      refine Win.op (v := mv) (.inl hne) rfl rfl (fun d => ?_) hn0
      exact ⟨#[⟨.cell ⟨p, 0, none⟩, false, false⟩], by rw [e1, Sem.runT_eq]; have hc : (World.at c' d).cell? ⟨p, 0, none⟩ = _ := hp0; generalize World.at c' d = W at hc ⊢; simp [go_sem, execOp, Act.eval, hc], fun e he => by obtain rfl : e = ⟨.cell ⟨p, 0, none⟩, false, false⟩ := (by simpa using he); exact ⟨rfl, fun m => by simp⟩⟩
    · obtain rfl := Option.some.inj ho
      have e1 : execOp a'.eval _ = execOp (⟨#[.pointer (some ⟨p, 0, none⟩), undef, .pointer (some ⟨w.heap.size, 0, none⟩), .func (.func 80) #[] #[.pointer (some ⟨w.heap.size, 0, none⟩)], .pointer (some ⟨p, 0, none⟩), .pointer (some ⟨p, 0, none⟩), .pointer (some ⟨p, 4, none⟩), .func (.func f) #[] cap, .pointer (some ⟨p, 0, none⟩), .pointer (some ⟨p, 0, none⟩), .pointer (some ⟨p, 0, none⟩), mv, .tuple #[]], [{ target := .fn (.func 80) #[.pointer (some ⟨w.heap.size, 0, none⟩)], args := #[] }]⟩ : Act).eval _ := e1
      have hx8 : X.getD 8 false = false := by
        have hlt : 8 < X.size := by rw [hX]; decide
        simpa [hlt] using hx
      obtain rfl := hJ.1 hx8
      refine Win.enter (f := f) (args := #[mv] ++ cap) (.inl hne) rfl rfl (fun d => ⟨#[], by rw [e1]; have hi := invoke_enter mild.toMild hfn hfb cap #[mv] (World.at c' d) #[]; simp only [execOp]; simpa [resolve, Deferred.ofValue, Act.eval, Bind.bind, Sem.bind, Pure.pure] using hi, fun e he => by simp at he⟩) ?_
      refine hgo _ (stok_at rfl rfl (by rw [hd]; intro d hd'; simp only [List.mem_singleton] at hd'; subst hd'; trivial) (by kernel_rfl)) fun w' hw' => ?_
      rw [Frame.finish_at]
      exact hn w' (fun _ _ => rfl) ⟨fun z => (by rw [getD_set_self (by rw [hX]; decide)] at z; cases z), fun _ => hw'⟩
    · simp at ho
  · intro X c' hall hJ
    have hc' := hJ.2 (hall 8 (by simp))
    obtain ⟨hL', hbx, _, _⟩ := hΨ _ hc'
    have hne' : (Frame.enter Try.prog 50 #[.pointer (some ⟨p, 0, none⟩)] CallKind.normal).kind = .normal := rfl
    show Win Try.prog Post pl n h (gor ((Frame.enter Try.prog 50 #[.pointer (some ⟨p, 0, none⟩)] CallKind.normal).at (⟨#[.pointer (some ⟨p, 0, none⟩), undef, .pointer (some ⟨w.heap.size, 0, none⟩), .func (.func 80) #[] #[.pointer (some ⟨w.heap.size, 0, none⟩)], .pointer (some ⟨p, 0, none⟩), .pointer (some ⟨p, 0, none⟩), .pointer (some ⟨p, 4, none⟩), .func (.func f) #[] cap, .pointer (some ⟨p, 0, none⟩), .pointer (some ⟨p, 0, none⟩), .pointer (some ⟨p, 0, none⟩), mv, .tuple #[]], [{ target := .fn (.func 80) #[.pointer (some ⟨w.heap.size, 0, none⟩)], args := #[] }]⟩ : Act) _) (c :: cs)) c'
    have hcr : c'.cell? ⟨w.heap.size, 0, none⟩ = some .nilIface := by unfold World.cell?; rw [hbx]; rfl
    have hfr : c'.frozen? ⟨w.heap.size, 0, none⟩ = false := by unfold World.frozen?; rw [hbx]; rfl
    have hFr : Free pl ⟨w.heap.size, 0, none⟩ := L.freeNew (Nat.le_refl _)
    refine Win.opsEnd ?_
    refine Win.seq ?_
    refine Win.region ?_
    simp only [List.size_toArray, List.length_cons, List.length_nil, Nat.reduceAdd, List.range, List.range.loop]
    refine Win.storeOp (ad := ⟨w.heap.size, 0, none⟩) (x := .nilIface) (.inl hne) rfl rfl hFr (fun d => by
      rw [Sem.runT_eq]
      obtain ⟨s1, s2⟩ := store_ok (P := Try.prog) (x := .nilIface) (w := World.at _ d) (m := .plain) (by simp) (by simp) (show (World.at _ d).cell? ⟨w.heap.size, 0, none⟩ = some .nilIface from hcr) (show (World.at _ d).frozen? ⟨w.heap.size, 0, none⟩ = false from hfr)
      have c1 : (World.at _ d).cell? ⟨w.heap.size, 0, none⟩ = some .nilIface := hcr
      have c2 : (World.at _ d).frozen? ⟨w.heap.size, 0, none⟩ = false := hfr
      generalize World.at _ d = W at s1 s2 c1 c2 ⊢
      simp [go_sem, execOp, Act.eval, s1, s2, c1, c2]) ?_
    simp only [Act.put, Act.eval, List.getElem_toArray, List.getElem_cons_zero, List.getElem_cons_succ, List.setIfInBounds_toArray, List.set_cons_succ, List.set_cons_zero]
    refine Win.opsEnd ?_
    have hs1 : (c'.setCell ⟨w.heap.size, 0, none⟩ .nilIface).heap[w.heap.size]? = some (.cells #[.nilIface] 20 (0, 0)) := by
      have := heap_setCell_same c' w.heap.size 0 _ _ .nilIface hbx
      rw [this]; simp
    have hk1 := ks_setCell c' ⟨w.heap.size, 0, none⟩ .nilIface
    have hl1 := hL'.setCell ⟨w.heap.size, 0, none⟩ .nilIface
    generalize c'.setCell ⟨w.heap.size, 0, none⟩ .nilIface = u1 at hs1 hk1 hl1 ⊢
    have hcu : u1.cell? ⟨w.heap.size, 0, none⟩ = some .nilIface := by unfold World.cell?; rw [hs1]; rfl
    have hfu : u1.frozen? ⟨w.heap.size, 0, none⟩ = false := by unfold World.frozen?; rw [hs1]; rfl
    refine Win.ret ?_
    refine Win.callsDeferred (d₀ := { target := .fn (.func 80) #[.pointer (some ⟨w.heap.size, 0, none⟩)], args := #[] }) (ds := []) (f := 80) (args := #[.pointer (some ⟨w.heap.size, 0, none⟩)]) (by simp) rfl trivial (by simp) (fun d => ⟨#[], invoke_enter mild.toMild Try.func80 rfl _ _ _ _, fun e he => by simp at he⟩) ?_
    have hne2 : (Frame.enter Try.prog 80 #[.pointer (some ⟨w.heap.size, 0, none⟩)] CallKind.deferred).kind = .deferred := rfl
    rw [enter_at Try.func80 rfl]
    simp only [Try.ntmps80, List.size_toArray, List.length_cons, List.length_nil, Nat.reduceAdd, Nat.reduceSub, Array.replicate_succ, Array.replicate_zero, List.push_toArray, List.append_toArray, List.nil_append, List.cons_append]
    refine Win.seq ?_
    refine Win.region ?_
    simp only [List.size_toArray, List.length_cons, List.length_nil, Nat.reduceAdd, List.range, List.range.loop]
    refine Win.recovers hne2 rfl rfl rfl (fun d => ⟨#[], by rw [Sem.runT_eq]; simp [go_sem, execOp, Act.eval]; try rfl, fun e he => by simp at he⟩) ?_
    simp only [asked]
    simp only [Act.put, Act.eval, List.getElem_toArray, List.getElem_cons_zero, List.getElem_cons_succ, List.setIfInBounds_toArray, List.set_cons_succ, List.set_cons_zero]
    refine Win.storeOp (ad := ⟨w.heap.size, 0, none⟩) (x := .nilIface) (.inr hne2) rfl rfl hFr (fun d => by
      rw [Sem.runT_eq]
      obtain ⟨s1, s2⟩ := store_ok (P := Try.prog) (x := .nilIface) (w := World.at _ d) (m := .plain) (by simp) (by simp) (show (World.at _ d).cell? ⟨w.heap.size, 0, none⟩ = some .nilIface from hcu) (show (World.at _ d).frozen? ⟨w.heap.size, 0, none⟩ = false from hfu)
      have c1 : (World.at _ d).cell? ⟨w.heap.size, 0, none⟩ = some .nilIface := hcu
      have c2 : (World.at _ d).frozen? ⟨w.heap.size, 0, none⟩ = false := hfu
      generalize World.at _ d = W at s1 s2 c1 c2 ⊢
      simp [go_sem, execOp, Act.eval, s1, s2, c1, c2]) ?_
    simp only [Act.put, Act.eval, List.getElem_toArray, List.getElem_cons_zero, List.getElem_cons_succ, List.setIfInBounds_toArray, List.set_cons_succ, List.set_cons_zero]
    refine Win.opsEnd ?_
    have hs2 : (u1.setCell ⟨w.heap.size, 0, none⟩ .nilIface).heap[w.heap.size]? = some (.cells #[.nilIface] 20 (0, 0)) := by
      have := heap_setCell_same u1 w.heap.size 0 _ _ .nilIface hs1
      rw [this]; simp
    have hk2 := hk1.trans (ks_setCell u1 ⟨w.heap.size, 0, none⟩ .nilIface)
    have hl2 := hl1.setCell ⟨w.heap.size, 0, none⟩ .nilIface
    generalize u1.setCell ⟨w.heap.size, 0, none⟩ .nilIface = u2 at hs2 hk2 hl2 ⊢
    have hcv : u2.cell? ⟨w.heap.size, 0, none⟩ = some .nilIface := by unfold World.cell?; rw [hs2]; rfl
    refine Win.seq ?_
    refine Win.region ?_
    simp only [List.size_toArray, List.length_cons, List.length_nil, Nat.reduceAdd, List.range, List.range.loop]
    refine Win.lookOp (v := .nilIface) (ad := ⟨w.heap.size, 0, none⟩) (x := .nilIface) (.inr hne2) rfl rfl (hcv) (fun w hc => by rw [Sem.runT_eq]; simp [go_sem, execOp, Act.eval, hc]) ?_
    simp only [Act.put, Act.eval, List.getElem_toArray, List.getElem_cons_zero, List.getElem_cons_succ, List.setIfInBounds_toArray, List.set_cons_succ, List.set_cons_zero]
    refine Win.pureOp (v := .tuple #[.agg #[], .bool false]) (.inr hne2) rfl rfl (fun w => by rw [Sem.runT_eq]; simp [go_sem, execOp, Act.eval, assert_halt]; try rfl) ?_
    simp only [Act.put, Act.eval, List.getElem_toArray, List.getElem_cons_zero, List.getElem_cons_succ, List.setIfInBounds_toArray, List.set_cons_succ, List.set_cons_zero]
    refine Win.pureOp (v := .tuple #[.agg #[], .bool false]) (.inr hne2) rfl rfl (fun w => rfl) ?_
    simp only [Act.put, Act.eval, List.getElem_toArray, List.getElem_cons_zero, List.getElem_cons_succ, List.setIfInBounds_toArray, List.set_cons_succ, List.set_cons_zero]
    refine Win.pureOp (v := .agg #[]) (.inr hne2) rfl rfl (fun w => by rw [Sem.runT_eq]; simp [go_sem, execOp, Act.eval]) ?_
    simp only [Act.put, Act.eval, List.getElem_toArray, List.getElem_cons_zero, List.getElem_cons_succ, List.setIfInBounds_toArray, List.set_cons_succ, List.set_cons_zero]
    refine Win.pureOp (v := .bool false) (.inr hne2) rfl rfl (fun w => by rw [Sem.runT_eq]; simp [go_sem, execOp, Act.eval]) ?_
    simp only [Act.put, Act.eval, List.getElem_toArray, List.getElem_cons_zero, List.getElem_cons_succ, List.setIfInBounds_toArray, List.set_cons_succ, List.set_cons_zero]
    refine Win.makeOp (v := .pointer (some ⟨u2.heap.size, 0, none⟩)) (ob := .cells #[] 141) (es := #[]) hl2 (.inr hne2) rfl rfl (fun d => by rw [Sem.runT_eq]; simp [go_sem, execOp, Act.eval]; try rfl) (fun e he => by simp at he) ?_
    simp only [Act.put, Act.eval, List.getElem_toArray, List.getElem_cons_zero, List.getElem_cons_succ, List.setIfInBounds_toArray, List.set_cons_succ, List.set_cons_zero]
    have hk3 := hk2.trans (ks_alloc (· = w.heap.size) u2 (.cells #[] 141))
    have hl3 := hl2.alloc (.cells #[] 141)
    have hcx : (u2.alloc (.cells #[] 141)).cell? ⟨w.heap.size, 0, none⟩ = some .nilIface := alloc_cell u2 _ hcv
    generalize hu3 : u2.alloc (.cells #[] 141) = u3 at hk3 hl3 hcx ⊢
    refine Win.opS (.inr hne2) rfl rfl fun d => ⟨u3.at d, #[], ?_, ⟨fun _ _ _ _ _ => rfl, fun _ _ _ z => z⟩, fun e he => by simp at he, Win.at ?_ d⟩
    · rw [Sem.runT_eq]
      generalize u3.at d = W
      simp [go_sem, execOp, Act.eval]
      try rfl
    simp only [Act.put, Act.eval, List.getElem_toArray, List.getElem_cons_zero, List.getElem_cons_succ, List.setIfInBounds_toArray, List.set_cons_succ, List.set_cons_zero]
    refine Win.pureOp (v := .bool false) (.inr hne2) rfl rfl (fun w => rfl) ?_
    simp only [Act.put, Act.eval, List.getElem_toArray, List.getElem_cons_zero, List.getElem_cons_succ, List.setIfInBounds_toArray, List.set_cons_succ, List.set_cons_zero]
    refine Win.opsEnd ?_
    refine Win.seq ?_
    refine Win.region ?_
    simp only [List.size_toArray, List.length_cons, List.length_nil, Nat.reduceAdd, List.range, List.range.loop]
    refine Win.pureOp (v := .bool false) (.inr hne2) rfl rfl (fun w => rfl) ?_
    simp only [Act.put, Act.eval, List.getElem_toArray, List.getElem_cons_zero, List.getElem_cons_succ, List.setIfInBounds_toArray, List.set_cons_succ, List.set_cons_zero]
    refine Win.opsEnd ?_
    refine Win.cond (t := false) rfl ?_
    simp only [if_false, Bool.false_eq_true]
    refine Win.skip ?_
    refine Win.falls ?_
    refine Win.leaveDeferred (v := .tuple #[]) rfl rfl hne2 Try.func80 (fun d => ⟨#[], by rw [Sem.runT_eq]; simp [go_sem, results, Try.f80], fun e he => by simp at he⟩) (fun v' g older => by simp) ?_
    refine Win.leave (v := .nilIface) rfl rfl hne Try.func50 (fun d => ⟨#[⟨.cell ⟨w.heap.size, 0, none⟩, false, false⟩], ?_, fun e he => by obtain rfl : e = ⟨.cell ⟨w.heap.size, 0, none⟩, false, false⟩ := (by simpa using he); exact ⟨rfl, fun m => by simp⟩⟩) (H c' u3 hc' hk3 hl3)
    rw [Sem.runT_eq]
    have hc : (u3.at d).cell? ⟨w.heap.size, 0, none⟩ = some .nilIface := hcx
    generalize u3.at d = W at hc ⊢
    simp [go_sem, results, Try.f50, Frame.at, hc]
end
end Go.Proofs.Ytnbibpmhmffmpaa

namespace Go.Proofs.Ytnbibpmhmffmpaa
set_option linter.unusedVariables false
set_option linter.unusedSimpArgs false
set_option maxRecDepth 100000
open Go.Conc

/-- Who steps acts. -/
structure Desk (SB : Nat → Prop) (pA rA : Nat) (pl : Nat → Option Place) (F : Nat → Option (Nat × Nat)) (col : Nat → Col) (w : World) : Prop where
  pl0 : pl 0 = none
  lies : Lies pl F w
  lay : Lay SB pA rA col F w
  own : ∀ i s c, pl i = some s → s.has c → col c = .sys i
/-- An agent's own blocks. -/
structure AgOK (a : Ag) (F : Nat → Option (Nat × Nat)) (col : Nat → Col) : Prop where
  jpos : 0 < a.j
  fm : F a.m = some (0, 1)
  fp : F a.p = some (1, 4)
  cm : col a.m = .sys a.j
  cp : col a.p = .sys a.j
  ccT : col a.cT = .sys a.j
  ccU : col a.cU = .sys a.j
  ccS : col a.cS = .sys a.j
  dis : a.cT ≠ a.cU ∧ a.cT ≠ a.cS ∧ a.cU ≠ a.cS

/-- What is old is whose it was, and lies as it lay. -/
structure Same (F : Nat → Option (Nat × Nat)) (col : Nat → Col) (w : World) (F' : Nat → Option (Nat × Nat)) (col' : Nat → Col) : Prop where
  co : ∀ b, b < w.heap.size → col' b = col b
  fo : ∀ b, b < w.heap.size → F' b = F b

section
variable {G : Type} {Post : Value → World → Prop} {Sh : World → G → Prop} {SB : Nat → Prop} {pA rA : Nat} {a : Ag} {mv : Value} {home : Goroutine → Prop} {n : Nat} {T : Tree G} {runs ov : Bool}
variable {pl pl' : Nat → Option Place} {F F' F1 : Nat → Option (Nat × Nat)} {col col' col1 : Nat → Col} {w w' w1 : World} {g : G} {S : Nat → Prop}

theorem Lay.lt (L : Lay SB pA rA col F w) {b : Nat} (h : col b ≠ .main) : b < w.heap.size := by
  rcases Nat.lt_or_ge b w.heap.size with z | z
  · exact z
  · exact absurd (L.above b z) h
theorem Same.sys (h : Same F col w F' col') (L : Lay SB pA rA col F w) {b j : Nat} (hb : col b = .sys j) : col' b = .sys j := (h.co b (L.lt (by rw [hb]; simp))).trans hb
theorem AgOK.keep (h : AgOK a F col) (L : Lay SB pA rA col F w) (k : Same F col w F' col') : AgOK a F' col' :=
  ⟨h.jpos, (k.fo _ (L.lt (by rw [h.cm]; simp))).trans h.fm, (k.fo _ (L.lt (by rw [h.cp]; simp))).trans h.fp, k.sys L h.cm, k.sys L h.cp, k.sys L h.ccT, k.sys L h.ccU, k.sys L h.ccS, h.dis⟩

theorem Poised.keep {t : Value} (h : Poised Post Sh SB pA rA a mv T pl F col w t) (L : Lay SB pA rA col F w) (hst : ∃ nx bz ov, StAt a mv nx bz ov w) (hj : pl' a.j = pl a.j) (hcm : col a.m = .sys a.j) (k : Same F col w F' col')
    (hk : ∀ b, b < w.heap.size → col b = .ag a.j ∨ (col b = .sys a.j ∧ b ≠ a.p) → w'.heap[b]? = w.heap[b]?) : Poised Post Sh SB pA rA a mv T pl' F' col' w' t := by
  cases T with
  | ret => exact h
  | node kk φ c nx hl =>
    obtain ⟨b3, homeJ, own, A, B, f, cap, h1, h2, h3, h4, h5, h6, h7, h8, h9, h10, h11, h12, h13, h14⟩ := h
    obtain ⟨nxv, bz, ov, hst⟩ := hst
    have hmp : a.m ≠ a.p := fun e => by
      unfold MeAt at h6
      unfold StAt at hst
      rw [e, hst] at h6
      simp at h6
    have hbp : b3 ≠ a.p := fun e => by
      unfold StAt at hst
      rw [e, hst] at h7
      simp at h7
    refine ⟨b3, homeJ, own, A, B, f, cap, hj.trans h1, fun b hb => ?_, h3, h4, h3.st _ _ h5 fun b hb => hk b (h3.lt _ _ h5 hb) (.inl (h2 b hb)), ?_, ?_, k.sys L h8, ?_, ?_, h11, h12, h13, h14⟩
    · exact (k.co b (L.lt (by rw [h2 b hb]; simp))).trans (h2 b hb)
    · exact (hk a.m (L.lt (by rw [hcm]; simp)) (.inr ⟨hcm, hmp⟩)).trans h6
    · exact (hk b3 (L.lt (by rw [h8]; simp)) (.inr ⟨h8, hbp⟩)).trans h7
    · exact (k.fo _ (L.lt (by rw [hcm]; simp))).trans h9
    · exact (k.fo _ (L.lt (by rw [h8]; simp))).trans h10

theorem Open.same {c : Nat} (h : Open c w) (e : w'.heap[c]? = w.heap[c]?) : Open c w' := by
  obtain ⟨k, hk⟩ := h
  exact ⟨k, e.trans hk⟩
/-- One who neither acts nor is stepped stands as it stood. -/
theorem Stands.keep (h : Stands Post Sh SB pA rA a mv T pl F col w) (hO : AgOK a F col) (L : Lay SB pA rA col F w) (hj : pl' a.j = pl a.j) (k : Same F col w F' col')
    (hk : ∀ b, b < w.heap.size → col b = .ag a.j ∨ col b = .sys a.j → w'.heap[b]? = w.heap[b]?) : Stands Post Sh SB pA rA a mv T pl' F' col' w' := by
  have hs : ∀ b, col b = .sys a.j → w'.heap[b]? = w.heap[b]? := fun b hb => hk b (L.lt (by rw [hb]; simp)) (.inr hb)
  cases T with
  | ret => exact ⟨hj.trans h.1, (hs _ hO.cp).trans h.2⟩
  | node kk φ c nx hl =>
    obtain ⟨t, h1, h2, h3, h4, h5⟩ := h
    exact ⟨t, (hs _ hO.cp).trans h1, h2.same (hs _ hO.ccT), h3.same (hs _ hO.ccU), h4.same (hs _ hO.ccS), h5.keep L ⟨_, _, _, h1⟩ hj hO.cm k fun b hb hc => hk b hb (hc.imp id (·.1))⟩
end
end Go.Proofs.Ytnbibpmhmffmpaa

namespace Go.Proofs.Ytnbibpmhmffmpaa
set_option linter.unusedVariables false
set_option linter.unusedSimpArgs false
set_option maxRecDepth 100000
open Go.Conc

theorem alloc_frozen (w : World) (ob : Obj) {c : Addr} {x : Value} (hc : w.cell? c = some x) (hf : w.frozen? c = false) : (w.alloc ob).frozen? c = false := by
  have hlt : c.block < w.heap.size := World.block_lt_of_cell? _ _ hc
  unfold World.frozen? at hf ⊢
  rw [alloc_heap w ob _ hlt]; exact hf
def stepDefer (b0 : Nat) : Deferred := { target := .fn (.func 49) #[.pointer (some ⟨b0, 0, none⟩)], args := #[] }
/-- Step's slots. -/
def stepTmps (p b0 : Nat) (x19 x20 x21 x22 x23 x24 x25 x26 : Value) : Array Value := #[.pointer (some ⟨p, 0, none⟩), .pointer (some ⟨b0, 0, none⟩), .int .i64 0, .pointer (some ⟨p, 0, none⟩), .bool false, .pointer (some ⟨p, 0, none⟩), .pointer (some ⟨p, 0, none⟩), .pointer (some ⟨p, 6, none⟩), .bool false, .bool false, .pointer (some ⟨p, 0, none⟩), .pointer (some ⟨p, 0, none⟩), .pointer (some ⟨p, 5, none⟩), .bool false, .bool false, .pointer (some ⟨p, 0, none⟩), .pointer (some ⟨p, 0, none⟩), .pointer (some ⟨p, 5, none⟩), .func (.func 49) #[] #[.pointer (some ⟨b0, 0, none⟩)], x19, x20, x21, x22, x23, x24, x25, x26]
/-- Where Step stands ahead of its turn. -/
def stepAt (P : Program) (f : Func) (p b0 : Nat) : Frame :=
  (Frame.enter P 15 #[.pointer (some ⟨p, 0, none⟩)] .normal).at ⟨stepTmps p b0 undef undef undef undef undef undef undef undef, [stepDefer b0]⟩ [.code (codeL (codeR (codeR (codeR (codeR (codeR (bodyOf f))))))), .code (codeR (codeR (codeR (codeR (codeR (codeR (bodyOf f)))))))]

/-- Where Step stands while it waits for what comes next. -/
def stepWait (P : Program) (f : Func) (p b0 cU : Nat) : Frame :=
  (Frame.enter P 15 #[.pointer (some ⟨p, 0, none⟩)] .normal).at ⟨stepTmps p b0 (.pointer (some ⟨p, 0, none⟩)) (.pointer (some ⟨p, 0, none⟩)) (.pointer (some ⟨p, 2, none⟩)) (.chan (some cU)) (.pointer (some ⟨p, 0, none⟩)) .nilIface (.pointer (some ⟨p, 0, none⟩)) undef, [stepDefer b0]⟩ [.inRegion (regOps (codeL (codeR (codeR (codeR (codeR (codeR (codeR (bodyOf f)))))))) ) [1], .code (codeR (codeR (codeR (codeR (codeR (codeR (codeR (bodyOf f))))))))]

section
variable {pl : Nat → Option Place} {n h : Nat} {Post : Value → World → Prop} {w : World} {F : Nat → Option (Nat × Nat)}

set_option maxHeartbeats 1000000 in
theorem step_in (L : Lies pl F w) {c : Frame} {cs : List Frame} {p : Nat} (h5 : w.cell? ⟨p, 5, none⟩ = some (.bool false)) (h6 : w.cell? ⟨p, 6, none⟩ = some (.bool false)) (f5 : w.frozen? ⟨p, 5, none⟩ = false) (F5 : Free pl ⟨p, 5, none⟩)
    (H : ∀ b0 w1, b0 = w.heap.size → w1 = (w.alloc (.cells #[.pointer (some ⟨p, 0, none⟩)] 33)).setCell ⟨p, 5, none⟩ (.bool true) → Win Try.prog Post pl n h (gor (stepAt Try.prog Try.f15 p b0) (c :: cs)) w1) :
    Win Try.prog Post pl n h (gor (Frame.enter Try.prog 15 #[.pointer (some ⟨p, 0, none⟩)] .normal) (c :: cs)) w := by
  have hne : (Frame.enter Try.prog 15 #[.pointer (some ⟨p, 0, none⟩)] CallKind.normal).kind = .normal := rfl
  rw [enter_at Try.func15 rfl]
  simp only [Try.ntmps15, List.size_toArray, List.length_cons, List.length_nil, Nat.reduceAdd, Nat.reduceSub, Array.replicate_succ, Array.replicate_zero, List.push_toArray, List.append_toArray, List.nil_append, List.cons_append]
  refine Win.seq ?_
  refine Win.region ?_
  simp only [List.size_toArray, List.length_cons, List.length_nil, Nat.reduceAdd, List.range, List.range.loop]
  refine Win.makeOp (v := .pointer (some ⟨w.heap.size, 0, none⟩)) (ob := .cells #[.pointer (some ⟨p, 0, none⟩)] 33) (es := #[]) L (.inl hne) rfl rfl (fun d => by rw [Sem.runT_eq]; simp [go_sem, execOp, Act.eval]; try rfl) (fun e he => by simp at he) ?_
  simp only [Act.put, Act.eval, List.getElem_toArray, List.getElem_cons_zero, List.getElem_cons_succ, List.setIfInBounds_toArray, List.set_cons_succ, List.set_cons_zero]
  have hb0 : (w.alloc (.cells #[.pointer (some ⟨p, 0, none⟩)] 33)).cell? ⟨w.heap.size, 0, none⟩ = some (.pointer (some ⟨p, 0, none⟩)) := alloc_box w _ _ _
  have h5' : (w.alloc (.cells #[.pointer (some ⟨p, 0, none⟩)] 33)).cell? ⟨p, 5, none⟩ = some (.bool false) := alloc_cell w _ h5
  have h6' : (w.alloc (.cells #[.pointer (some ⟨p, 0, none⟩)] 33)).cell? ⟨p, 6, none⟩ = some (.bool false) := alloc_cell w _ h6
  obtain ⟨b0, hb0e⟩ : ∃ b0, b0 = w.heap.size := ⟨_, rfl⟩
  rw [← hb0e] at hb0 ⊢
  have f5' : (w.alloc (.cells #[.pointer (some ⟨p, 0, none⟩)] 33)).frozen? ⟨p, 5, none⟩ = false := alloc_frozen w _ h5 f5
  generalize hw1 : w.alloc (.cells #[.pointer (some ⟨p, 0, none⟩)] 33) = w1 at *
  refine Win.pureOp (v := .int .i64 0) (.inl hne) rfl rfl (fun w => rfl) ?_
  simp only [Act.put, Act.eval, List.getElem_toArray, List.getElem_cons_zero, List.getElem_cons_succ, List.setIfInBounds_toArray, List.set_cons_succ, List.set_cons_zero]
  refine Win.opsEnd ?_
  refine Win.seq ?_
  refine Win.seq ?_
  refine Win.region ?_
  simp only [List.size_toArray, List.length_cons, List.length_nil, Nat.reduceAdd, List.range, List.range.loop]
  refine Win.lookOp (v := .pointer (some ⟨p, 0, none⟩)) (ad := ⟨b0, 0, none⟩) (x := .pointer (some ⟨p, 0, none⟩)) (.inl hne) rfl rfl (hb0) (fun w hc => by rw [Sem.runT_eq]; simp [go_sem, execOp, Act.eval, hc]) ?_
  simp only [Act.put, Act.eval, List.getElem_toArray, List.getElem_cons_zero, List.getElem_cons_succ, List.setIfInBounds_toArray, List.set_cons_succ, List.set_cons_zero]
  refine Win.pureOp (v := .bool false) (.inl hne) rfl rfl (fun w => by rw [Sem.runT_eq]; simp [go_sem, execOp, Act.eval]; try rfl) ?_
  simp only [Act.put, Act.eval, List.getElem_toArray, List.getElem_cons_zero, List.getElem_cons_succ, List.setIfInBounds_toArray, List.set_cons_succ, List.set_cons_zero]
  refine Win.opsEnd ?_
  refine Win.cond (t := false) rfl ?_
  simp only [if_false, Bool.false_eq_true]
  refine Win.skip ?_
  refine Win.seq ?_
  refine Win.seq ?_
  refine Win.region ?_
  simp only [List.size_toArray, List.length_cons, List.length_nil, Nat.reduceAdd, List.range, List.range.loop]
  refine Win.lookOp (v := .pointer (some ⟨p, 0, none⟩)) (ad := ⟨b0, 0, none⟩) (x := .pointer (some ⟨p, 0, none⟩)) (.inl hne) rfl rfl (hb0) (fun w hc => by rw [Sem.runT_eq]; simp [go_sem, execOp, Act.eval, hc]) ?_
  simp only [Act.put, Act.eval, List.getElem_toArray, List.getElem_cons_zero, List.getElem_cons_succ, List.setIfInBounds_toArray, List.set_cons_succ, List.set_cons_zero]
  refine Win.pureOp (v := .pointer (some ⟨p, 0, none⟩)) (.inl hne) rfl rfl (fun w => by rw [Sem.runT_eq]; simp [go_sem, execOp, Act.eval]) ?_
  simp only [Act.put, Act.eval, List.getElem_toArray, List.getElem_cons_zero, List.getElem_cons_succ, List.setIfInBounds_toArray, List.set_cons_succ, List.set_cons_zero]
  refine Win.pureOp (v := .pointer (some ⟨p, 6, none⟩)) (.inl hne) rfl rfl (fun w => by rw [Sem.runT_eq]; simp [go_sem, execOp, Act.eval]) ?_
  simp only [Act.put, Act.eval, List.getElem_toArray, List.getElem_cons_zero, List.getElem_cons_succ, List.setIfInBounds_toArray, List.set_cons_succ, List.set_cons_zero]
  refine Win.lookOp (v := .bool false) (ad := ⟨p, 6, none⟩) (x := .bool false) (.inl hne) rfl rfl (h6') (fun w hc => by rw [Sem.runT_eq]; simp [go_sem, execOp, Act.eval, hc]) ?_
  simp only [Act.put, Act.eval, List.getElem_toArray, List.getElem_cons_zero, List.getElem_cons_succ, List.setIfInBounds_toArray, List.set_cons_succ, List.set_cons_zero]
  refine Win.pureOp (v := .bool false) (.inl hne) rfl rfl (fun w => rfl) ?_
  simp only [Act.put, Act.eval, List.getElem_toArray, List.getElem_cons_zero, List.getElem_cons_succ, List.setIfInBounds_toArray, List.set_cons_succ, List.set_cons_zero]
  refine Win.lookOp (v := .pointer (some ⟨p, 0, none⟩)) (ad := ⟨b0, 0, none⟩) (x := .pointer (some ⟨p, 0, none⟩)) (.inl hne) rfl rfl (hb0) (fun w hc => by rw [Sem.runT_eq]; simp [go_sem, execOp, Act.eval, hc]) ?_
  simp only [Act.put, Act.eval, List.getElem_toArray, List.getElem_cons_zero, List.getElem_cons_succ, List.setIfInBounds_toArray, List.set_cons_succ, List.set_cons_zero]
  refine Win.pureOp (v := .pointer (some ⟨p, 0, none⟩)) (.inl hne) rfl rfl (fun w => by rw [Sem.runT_eq]; simp [go_sem, execOp, Act.eval]) ?_
  simp only [Act.put, Act.eval, List.getElem_toArray, List.getElem_cons_zero, List.getElem_cons_succ, List.setIfInBounds_toArray, List.set_cons_succ, List.set_cons_zero]
  refine Win.pureOp (v := .pointer (some ⟨p, 5, none⟩)) (.inl hne) rfl rfl (fun w => by rw [Sem.runT_eq]; simp [go_sem, execOp, Act.eval]) ?_
  simp only [Act.put, Act.eval, List.getElem_toArray, List.getElem_cons_zero, List.getElem_cons_succ, List.setIfInBounds_toArray, List.set_cons_succ, List.set_cons_zero]
  refine Win.lookOp (v := .bool false) (ad := ⟨p, 5, none⟩) (x := .bool false) (.inl hne) rfl rfl (h5') (fun w hc => by rw [Sem.runT_eq]; simp [go_sem, execOp, Act.eval, hc]) ?_
  simp only [Act.put, Act.eval, List.getElem_toArray, List.getElem_cons_zero, List.getElem_cons_succ, List.setIfInBounds_toArray, List.set_cons_succ, List.set_cons_zero]
  refine Win.pureOp (v := .bool false) (.inl hne) rfl rfl (fun w => rfl) ?_
  simp only [Act.put, Act.eval, List.getElem_toArray, List.getElem_cons_zero, List.getElem_cons_succ, List.setIfInBounds_toArray, List.set_cons_succ, List.set_cons_zero]
  refine Win.opsEnd ?_
  refine Win.cond (t := false) rfl ?_
  simp only [if_false, Bool.false_eq_true]
  refine Win.skip ?_
  refine Win.seq ?_
  refine Win.region ?_
  simp only [List.size_toArray, List.length_cons, List.length_nil, Nat.reduceAdd, List.range, List.range.loop]
  refine Win.lookOp (v := .pointer (some ⟨p, 0, none⟩)) (ad := ⟨b0, 0, none⟩) (x := .pointer (some ⟨p, 0, none⟩)) (.inl hne) rfl rfl (hb0) (fun w hc => by rw [Sem.runT_eq]; simp [go_sem, execOp, Act.eval, hc]) ?_
  simp only [Act.put, Act.eval, List.getElem_toArray, List.getElem_cons_zero, List.getElem_cons_succ, List.setIfInBounds_toArray, List.set_cons_succ, List.set_cons_zero]
  refine Win.pureOp (v := .pointer (some ⟨p, 0, none⟩)) (.inl hne) rfl rfl (fun w => by rw [Sem.runT_eq]; simp [go_sem, execOp, Act.eval]) ?_
  simp only [Act.put, Act.eval, List.getElem_toArray, List.getElem_cons_zero, List.getElem_cons_succ, List.setIfInBounds_toArray, List.set_cons_succ, List.set_cons_zero]
  refine Win.pureOp (v := .pointer (some ⟨p, 5, none⟩)) (.inl hne) rfl rfl (fun w => by rw [Sem.runT_eq]; simp [go_sem, execOp, Act.eval]) ?_
  simp only [Act.put, Act.eval, List.getElem_toArray, List.getElem_cons_zero, List.getElem_cons_succ, List.setIfInBounds_toArray, List.set_cons_succ, List.set_cons_zero]
  refine Win.storeOp (ad := ⟨p, 5, none⟩) (x := .bool true) (.inl hne) rfl rfl F5 (fun d => by
    rw [Sem.runT_eq]
    have c1 : (w1.at d).cell? ⟨p, 5, none⟩ = some (.bool false) := h5'
    have c2 : (w1.at d).frozen? ⟨p, 5, none⟩ = false := f5'
    generalize w1.at d = W at c1 c2 ⊢
    obtain ⟨s1, s2⟩ := store_ok (P := Try.prog) (x := .bool true) (w := W) (m := .plain) (by simp) (by simp) c1 c2
    simp [go_sem, execOp, Act.eval, s1, s2, c1, c2]) ?_
  simp only [Act.put, Act.eval, List.getElem_toArray, List.getElem_cons_zero, List.getElem_cons_succ, List.setIfInBounds_toArray, List.set_cons_succ, List.set_cons_zero]
  refine Win.opsEnd ?_
  refine Win.seq ?_
  refine Win.region ?_
  simp only [List.size_toArray, List.length_cons, List.length_nil, Nat.reduceAdd, List.range, List.range.loop]
  refine Win.pureOp (v := .func (.func 49) #[] #[.pointer (some ⟨b0, 0, none⟩)]) (.inl hne) rfl rfl (fun w => by rw [Sem.runT_eq]; simp [go_sem, execOp, Act.eval]; try rfl) ?_
  simp only [Act.put, Act.eval, List.getElem_toArray, List.getElem_cons_zero, List.getElem_cons_succ, List.setIfInBounds_toArray, List.set_cons_succ, List.set_cons_zero]
  refine Win.defers (d₀ := stepDefer b0) (.inl hne) rfl rfl (fun d => ⟨#[], by rw [Sem.runT_eq]; simp [go_sem, execOp, Act.eval, stepDefer]; try rfl, fun e he => by simp at he⟩) ?_
  simp only [Act.put, Act.eval, List.getElem_toArray, List.getElem_cons_zero, List.getElem_cons_succ, List.setIfInBounds_toArray, List.set_cons_succ, List.set_cons_zero]
  refine Win.opsEnd ?_
  refine Win.seq ?_
  exact H b0 _ hb0e (by rw [← hw1])

theorem setCell_frozen (w : World) (ad c : Addr) (x : Value) (hf : w.frozen? c = false) : (w.setCell ad x).frozen? c = false := by simp [go_sem, hf]

/-- Behind the wait: Step answers. -/
theorem step_back {c : Frame} {cs : List Frame} {p b0 cT cU : Nat} {next x y z : Value} {ok : Bool} (h4 : w.cell? ⟨p, 4, none⟩ = some x) (h5 : w.cell? ⟨p, 5, none⟩ = some z) (h6 : w.cell? ⟨p, 6, none⟩ = some y) (f4 : w.frozen? ⟨p, 4, none⟩ = false) (f5 : w.frozen? ⟨p, 5, none⟩ = false) (f6 : w.frozen? ⟨p, 6, none⟩ = false)
    (hn1 : ∀ l, next ≠ .agg l) (hn2 : ∀ l, next ≠ .tuple l) (F4 : Free pl ⟨p, 4, none⟩) (F5 : Free pl ⟨p, 5, none⟩) (F6 : Free pl ⟨p, 6, none⟩) (hb : w.cell? ⟨b0, 0, none⟩ = some (.pointer (some ⟨p, 0, none⟩))) (hbp : b0 ≠ p)
    (H : Win Try.prog Post pl n h (gor (c.finish (.int .i64 0)) cs) (((w.setCell ⟨p, 4, none⟩ next).setCell ⟨p, 6, none⟩ (.bool !ok)).setCell ⟨p, 5, none⟩ (.bool false))) :
    Win Try.prog Post pl n h (Go.Conc.served (gor (waitFr Try.prog Try.f46 p cT) (stepWait Try.prog Try.f15 p b0 cU :: c :: cs)) (.tuple #[next, .bool ok])) w := by
  refine wait_back h4 h6 f4 f6 hn1 hn2 F4 F6 ?_
  have hb' : ((w.setCell ⟨p, 4, none⟩ next).setCell ⟨p, 6, none⟩ (.bool !ok)).cell? ⟨b0, 0, none⟩ = some (.pointer (some ⟨p, 0, none⟩)) := cell_setCell_ne (cell_setCell_ne hb (by simp [hbp])) (by simp [hbp])
  have h5' : ((w.setCell ⟨p, 4, none⟩ next).setCell ⟨p, 6, none⟩ (.bool !ok)).cell? ⟨p, 5, none⟩ = some z := cell_setCell_ne (cell_setCell_ne h5 (by simp)) (by simp)
  have f5' : ((w.setCell ⟨p, 4, none⟩ next).setCell ⟨p, 6, none⟩ (.bool !ok)).frozen? ⟨p, 5, none⟩ = false := setCell_frozen _ _ _ _ (setCell_frozen _ _ _ _ f5)
  generalize (w.setCell ⟨p, 4, none⟩ next).setCell ⟨p, 6, none⟩ (.bool !ok) = w1 at *
  unfold stepWait
  rw [Frame.finish_at]
  have hne : (Frame.enter Try.prog 15 #[.pointer (some ⟨p, 0, none⟩)] CallKind.normal).kind = .normal := rfl
  simp only [bodyOf, Try.f15, codeL, codeR, regOps, Option.getD_some, stepTmps]
  simp only [Act.put, Act.eval, List.getElem?_toArray, List.getElem?_cons_zero, List.getElem?_cons_succ, Option.bind_some, List.getElem_toArray, List.getElem_cons_zero, List.getElem_cons_succ, List.setIfInBounds_toArray, List.set_cons_succ, List.set_cons_zero]
  refine Win.opsEnd ?_
  refine Win.seq ?_
  refine Win.region ?_
  simp only [List.size_toArray, List.length_cons, List.length_nil, Nat.reduceAdd, List.range, List.range.loop]
  refine Win.pureOp (v := .int .i64 0) (.inl hne) rfl rfl (fun w => rfl) ?_
  simp only [Act.put, Act.eval, List.getElem_toArray, List.getElem_cons_zero, List.getElem_cons_succ, List.setIfInBounds_toArray, List.set_cons_succ, List.set_cons_zero]
  refine Win.opsEnd ?_
  refine Win.ret ?_
  refine Win.callsDeferred (d₀ := stepDefer b0) (ds := []) (f := 49) (args := #[.pointer (some ⟨b0, 0, none⟩)]) (by simp) rfl trivial (by simp [stepDefer]) (fun d => ⟨#[], invoke_enter mild.toMild Try.func49 rfl _ _ _ _, fun e he => by simp at he⟩) ?_
  have hne2 : (Frame.enter Try.prog 49 #[.pointer (some ⟨b0, 0, none⟩)] CallKind.deferred).kind = .deferred := rfl
  rw [enter_at Try.func49 rfl]
  simp only [Try.ntmps49, List.size_toArray, List.length_cons, List.length_nil, Nat.reduceAdd, Nat.reduceSub, Array.replicate_succ, Array.replicate_zero, List.push_toArray, List.append_toArray, List.nil_append, List.cons_append]
  refine Win.region ?_
  simp only [List.size_toArray, List.length_cons, List.length_nil, Nat.reduceAdd, List.range, List.range.loop]
  refine Win.lookOp (v := .pointer (some ⟨p, 0, none⟩)) (ad := ⟨b0, 0, none⟩) (x := .pointer (some ⟨p, 0, none⟩)) (.inr hne2) rfl rfl (hb') (fun w hc => by rw [Sem.runT_eq]; simp [go_sem, execOp, Act.eval, hc]) ?_
  simp only [Act.put, Act.eval, List.getElem_toArray, List.getElem_cons_zero, List.getElem_cons_succ, List.setIfInBounds_toArray, List.set_cons_succ, List.set_cons_zero]
  refine Win.pureOp (v := .pointer (some ⟨p, 0, none⟩)) (.inr hne2) rfl rfl (fun w => by rw [Sem.runT_eq]; simp [go_sem, execOp, Act.eval]) ?_
  simp only [Act.put, Act.eval, List.getElem_toArray, List.getElem_cons_zero, List.getElem_cons_succ, List.setIfInBounds_toArray, List.set_cons_succ, List.set_cons_zero]
  refine Win.pureOp (v := .pointer (some ⟨p, 5, none⟩)) (.inr hne2) rfl rfl (fun w => by rw [Sem.runT_eq]; simp [go_sem, execOp, Act.eval]) ?_
  simp only [Act.put, Act.eval, List.getElem_toArray, List.getElem_cons_zero, List.getElem_cons_succ, List.setIfInBounds_toArray, List.set_cons_succ, List.set_cons_zero]
  refine Win.storeOp (ad := ⟨p, 5, none⟩) (x := .bool false) (.inr hne2) rfl rfl F5 (fun d => by
    rw [Sem.runT_eq]
    have c1 : (w1.at d).cell? ⟨p, 5, none⟩ = some z := h5'
    have c2 : (w1.at d).frozen? ⟨p, 5, none⟩ = false := f5'
    generalize w1.at d = W at c1 c2 ⊢
    obtain ⟨s1, s2⟩ := store_ok (P := Try.prog) (x := .bool false) (w := W) (m := .plain) (by simp) (by simp) c1 c2
    simp [go_sem, execOp, Act.eval, s1, s2, c1, c2]) ?_
  simp only [Act.put, Act.eval, List.getElem_toArray, List.getElem_cons_zero, List.getElem_cons_succ, List.setIfInBounds_toArray, List.set_cons_succ, List.set_cons_zero]
  refine Win.opsEnd ?_
  refine Win.falls ?_
  refine Win.leaveDeferred (v := .tuple #[]) rfl rfl hne2 Try.func49 (fun d => ⟨#[], by rw [Sem.runT_eq]; simp [go_sem, results, Try.f49], fun e he => by simp at he⟩) (fun v' g older => by simp) ?_
  exact Win.leave (v := .int .i64 0) rfl rfl hne Try.func15 (fun d => ⟨#[], by rw [Sem.runT_eq]; simp [go_sem, results, Try.f15, Frame.at], fun e he => by simp at he⟩) H
end
end Go.Proofs.Ytnbibpmhmffmpaa

namespace Go.Proofs.Ytnbibpmhmffmpaa
set_option linter.unusedVariables false
set_option linter.unusedSimpArgs false
set_option maxRecDepth 100000
open Go.Conc

theorem waitSeat_has {p cT c : Nat} {more : Addr → Value → Prop} {home : Goroutine → Prop} (h : (waitSeat p cT more home).has c) : c = cT := by
  obtain ⟨k, z, hk⟩ := h
  simp only [waitSeat] at hk
  rcases k with _ | k
  · simp [rcase] at hk; exact hk.1.symm
  · simp at hk
theorem waitSeat_wf {p cT : Nat} {more : Addr → Value → Prop} {home : Goroutine → Prop} : (waitSeat p cT more home).Wf := by
  refine ⟨fun cc hcc => ?_, fun k k' c z z' h1 h2 => ?_⟩
  · simp only [waitSeat, List.mem_toArray, List.mem_cons, List.not_mem_nil, or_false] at hcc
    subst hcc; exact ⟨_, _, rfl⟩
  · simp only [waitSeat] at h1 h2
    rcases k with _ | k <;> rcases k' with _ | k' <;> simp [rcase] at h1 h2
    rfl
/-- Where Step waits. -/
def stepMore (p b0 : Nat) (a : Addr) (v : Value) : Prop := a = ⟨b0, 0, none⟩ ∧ v = .pointer (some ⟨p, 0, none⟩)
def stepHome (p b0 cT cU : Nat) (cs : List Frame) (g : Goroutine) : Prop := g = gor (waitFr Try.prog Try.f46 p cT) (stepWait Try.prog Try.f15 p b0 cU :: cs)

theorem way_step (p b0 cT cU : Nat) (cs : List Frame) (main : Bool) (ops : Array Oper) : Way Try.prog main (waitSeat p cT (stepMore p b0) (stepHome p b0 cT cU cs)) 60
    (gor ((Frame.enter Try.prog 15 #[.pointer (some ⟨p, 0, none⟩)] .normal).at (⟨stepTmps p b0 (.pointer (some ⟨p, 0, none⟩)) (.pointer (some ⟨p, 0, none⟩)) (.pointer (some ⟨p, 2, none⟩)) (.chan (some cU)) (.pointer (some ⟨p, 0, none⟩)) (.nilIface) undef undef, [stepDefer b0]⟩ : Act) (.inRegion ops [] :: [.code (codeR (codeR (codeR (codeR (codeR (codeR (bodyOf Try.f15)))))))])) cs) := by
  have hne : (Frame.enter Try.prog 15 #[.pointer (some ⟨p, 0, none⟩)] CallKind.normal).kind = .normal := rfl
  refine Way.upTo (N := 45) ?_ (by omega)
  refine Way.opsEnd ?_
  simp only [bodyOf, Try.f15, codeR, Option.getD_some]
  refine Way.seq ?_
  refine Way.region ?_
  simp only [List.size_toArray, List.length_cons, List.length_nil, Nat.reduceAdd, List.range, List.range.loop, stepTmps]
  refine Way.look (v := .pointer (some ⟨p, 0, none⟩)) (ad := ⟨b0, 0, none⟩) (x := .pointer (some ⟨p, 0, none⟩)) (.inl hne) rfl rfl (.inr ⟨rfl, rfl⟩) (fun w hc => by rw [Sem.runT_eq]; simp [go_sem, execOp, Act.eval, hc]) ?_
  simp only [Act.put, Act.eval, List.getElem_toArray, List.getElem_cons_zero, List.getElem_cons_succ, List.setIfInBounds_toArray, List.set_cons_succ, List.set_cons_zero]
  refine Way.enter (f := 46) (args := #[.pointer (some ⟨p, 0, none⟩)]) (es := #[]) (.inl hne) rfl rfl (fun e he => by simp at he) (fun w _ => call_enter mild.toMild Try.func46 rfl rfl rfl rfl _ _ (by simp [Act.eval])) ?_
  have hw := way_wait p cT (stepMore p b0) (stepWait Try.prog Try.f15 p b0 cU :: cs) main
  exact hw

section
variable {pl : Nat → Option Place} {n : Nat} {Post : Value → World → Prop} {F : Nat → Option (Nat × Nat)} {w1 : World}

/-- How all stands once the touch has been done. -/
def Done' (pl : Nat → Option Place) (F : Nat → Option (Nat × Nat)) (Ψ : World → Prop) (w1 u : World) : Prop := ∃ w', Ψ w' ∧ Ks (· = w1.heap.size) w' u ∧ Lies pl F u

set_option maxHeartbeats 2000000 in
theorem step_turn (L : Lies pl F w1) {c : Frame} {cs : List Frame} {p b0 cT cU j : Nat} {f : FuncId} {cap : Array Value} {mv : Value} {s : Place} {Ψ : World → Prop} (hb : w1.cell? ⟨b0, 0, none⟩ = some (.pointer (some ⟨p, 0, none⟩))) (h0 : w1.cell? ⟨p, 0, none⟩ = some mv) (h2 : w1.cell? ⟨p, 2, none⟩ = some (.chan (some cU))) (h4 : w1.cell? ⟨p, 4, none⟩ = some (.func (.func f) #[] cap)) {fn : Func} (hfn : Try.prog.funcs[f]? = some fn) (hfb : fn.body.isNone = false)
    (hΨ : ∀ w', Ψ w' → Lies pl F w' ∧ w'.heap[w1.heap.size]? = some (.cells #[.nilIface] 20 (0, 0)) ∧ w'.cell? ⟨p, 0, none⟩ = some mv ∧ w'.cell? ⟨p, 4, none⟩ = some (.func (.func f) #[] cap))
    (hU : ∀ u, Done' pl F Ψ w1 u → u.cell? ⟨b0, 0, none⟩ = some (.pointer (some ⟨p, 0, none⟩)) ∧ u.cell? ⟨p, 2, none⟩ = some (.chan (some cU)) ∧ u.cell? ⟨p, 1, none⟩ = some (.chan (some cT)) ∧ Open cT u)
    (hgo : ∀ (c₁ : Frame) (cs₁ : List Frame), StOK Try.prog c₁ [] → (∀ w', Ψ w' → Win Try.prog Post pl n 0 (gor (c₁.finish (.tuple #[])) cs₁) w') → Win Try.prog Post pl n 0 (gor (Frame.enter Try.prog f (#[mv] ++ cap) .normal) (c₁ :: cs₁)) (w1.alloc (.cells #[.nilIface] 20)))
    (hap : ∀ i s' c, pl i = some s' → s'.has c → c ≠ cT) (hj : pl j = some s) (hk : s.cases[0]? = some (rcase cU .nilIface))
    (hw : ∀ u g₂ d m, Done' pl F Ψ w1 u → s.home g₂ → u.heap[cU]? = some (.chan 0 #[] false m m false) → Win Try.prog Post (moved pl 0 j (some (waitSeat p cT (stepMore p b0) (stepHome p b0 cT cU (c :: cs))))) n j (Go.Conc.served g₂ (commResult s.cases s.shape 0 .nilIface true)) ((u.at d).setChan cU 0 #[] false (m + 1) (m + 1) false)) :
    Win Try.prog Post pl n 0 (gor (stepAt Try.prog Try.f15 p b0) (c :: cs)) w1 := by
  have hne : (Frame.enter Try.prog 15 #[.pointer (some ⟨p, 0, none⟩)] CallKind.normal).kind = .normal := rfl
  have hway := way_step p b0 cT cU (c :: cs) true
  unfold stepAt
  simp only [bodyOf, Try.f15, codeL, codeR, Option.getD_some] at hway ⊢
  refine Win.anyFill (C := World) (Goal := fun c' fr => Win Try.prog Post pl n 0 (gor fr (c :: cs)) c') mixed (by kernel_rfl) (fun _ i => match i with | 0 => .pointer (some ⟨p, 0, none⟩) | 1 => .pointer (some ⟨p, 0, none⟩) | 2 => .pointer (some ⟨p, 2, none⟩) | 3 => .chan (some cU) | 4 => .pointer (some ⟨p, 0, none⟩) | 5 => .nilIface | _ => undef) (fun _ => (⟨stepTmps p b0 (.pointer (some ⟨p, 0, none⟩)) (.pointer (some ⟨p, 0, none⟩)) (.pointer (some ⟨p, 2, none⟩)) (.chan (some cU)) (.pointer (some ⟨p, 0, none⟩)) (.nilIface) undef undef, [stepDefer b0]⟩ : Act)) (fun _ => by simp only [fillAll, stepTmps, List.size_toArray, List.length_cons, List.length_nil, Nat.reduceAdd, List.range, List.range.loop, List.foldl_cons, List.foldl_nil, List.getElem?_toArray, List.getElem?_cons_zero, List.getElem?_cons_succ, Option.bind_some, Option.bind_none, Act.put, List.setIfInBounds_toArray, List.set_cons_succ, List.set_cons_zero]) (fun X c' => (X.getD 5 false = false → c' = w1) ∧ (X.getD 5 false = true → Done' pl F Ψ w1 c') ∧ X.getD 6 false = false) w1 (fun fr hh => hh) ?_ ?_ ⟨fun _ => rfl, fun z => by simp at z, by simp⟩
  · intro X i o hX ho hx hr c' a' L' hJ hcl hL'' hfl e1 e2 hd hn
    have hcell : c'.cell? ⟨b0, 0, none⟩ = some (.pointer (some ⟨p, 0, none⟩)) ∧ c'.cell? ⟨p, 2, none⟩ = some (.chan (some cU)) := by
      cases hx5 : X.getD 5 false with
      | false => rw [hJ.1 hx5]; exact ⟨hb, h2⟩
      | true => exact ⟨(hU _ (hJ.2.1 hx5)).1, (hU _ (hJ.2.1 hx5)).2.1⟩
    obtain ⟨hq0, hq2⟩ := hcell
    rcases i with _ | _ | _ | _ | _ | _ | _ | i
    · obtain rfl := Option.some.inj ho
      have hn0 := hn c' (fun _ _ => rfl) ⟨fun z => hJ.1 (by rw [getD_set_ne false (by decide)] at z; exact z), fun z => hJ.2.1 (by rw [getD_set_ne false (by decide)] at z; exact z), by rw [getD_set_ne false (by decide)]; exact hJ.2.2⟩
      refine Win.op (v := .pointer (some ⟨p, 0, none⟩)) (.inl hne) rfl rfl (fun d => ?_) hn0
      exact ⟨#[⟨.cell ⟨b0, 0, none⟩, false, false⟩], by rw [e1, Sem.runT_eq]; have hc : (World.at c' d).cell? ⟨b0, 0, none⟩ = _ := hq0; generalize World.at c' d = W at hc ⊢; simp [go_sem, execOp, Act.eval, stepTmps, hc], fun e he => by obtain rfl : e = ⟨.cell ⟨b0, 0, none⟩, false, false⟩ := (by simpa using he); exact ⟨rfl, fun m => by simp⟩⟩
    · obtain rfl := Option.some.inj ho
      have hn0 := hn c' (fun _ _ => rfl) ⟨fun z => hJ.1 (by rw [getD_set_ne false (by decide)] at z; exact z), fun z => hJ.2.1 (by rw [getD_set_ne false (by decide)] at z; exact z), by rw [getD_set_ne false (by decide)]; exact hJ.2.2⟩
      refine Win.op (v := .pointer (some ⟨p, 0, none⟩)) (.inl hne) rfl rfl (fun d => ?_) hn0
      exact ⟨#[], by rw [e1, Sem.runT_eq]; simp [go_sem, execOp, Act.eval, stepTmps], fun e he => by simp at he⟩
    · obtain rfl := Option.some.inj ho
      have hn0 := hn c' (fun _ _ => rfl) ⟨fun z => hJ.1 (by rw [getD_set_ne false (by decide)] at z; exact z), fun z => hJ.2.1 (by rw [getD_set_ne false (by decide)] at z; exact z), by rw [getD_set_ne false (by decide)]; exact hJ.2.2⟩
      refine Win.op (v := .pointer (some ⟨p, 2, none⟩)) (.inl hne) rfl rfl (fun d => ?_) hn0
      exact ⟨#[], by rw [e1, Sem.runT_eq]; simp [go_sem, execOp, Act.eval, stepTmps], fun e he => by simp at he⟩
    · obtain rfl := Option.some.inj ho
      have hn0 := hn c' (fun _ _ => rfl) ⟨fun z => hJ.1 (by rw [getD_set_ne false (by decide)] at z; exact z), fun z => hJ.2.1 (by rw [getD_set_ne false (by decide)] at z; exact z), by rw [getD_set_ne false (by decide)]; exact hJ.2.2⟩
      refine Win.op (v := .chan (some cU)) (.inl hne) rfl rfl (fun d => ?_) hn0
      exact ⟨#[⟨.cell ⟨p, 2, none⟩, false, false⟩], by rw [e1, Sem.runT_eq]; have hc : (World.at c' d).cell? ⟨p, 2, none⟩ = _ := hq2; generalize World.at c' d = W at hc ⊢; simp [go_sem, execOp, Act.eval, stepTmps, hc], fun e he => by obtain rfl : e = ⟨.cell ⟨p, 2, none⟩, false, false⟩ := (by simpa using he); exact ⟨rfl, fun m => by simp⟩⟩
    · obtain rfl := Option.some.inj ho
      have hn0 := hn c' (fun _ _ => rfl) ⟨fun z => hJ.1 (by rw [getD_set_ne false (by decide)] at z; exact z), fun z => hJ.2.1 (by rw [getD_set_ne false (by decide)] at z; exact z), by rw [getD_set_ne false (by decide)]; exact hJ.2.2⟩
      refine Win.op (v := .pointer (some ⟨p, 0, none⟩)) (.inl hne) rfl rfl (fun d => ?_) hn0
      exact ⟨#[⟨.cell ⟨b0, 0, none⟩, false, false⟩], by rw [e1, Sem.runT_eq]; have hc : (World.at c' d).cell? ⟨b0, 0, none⟩ = _ := hq0; generalize World.at c' d = W at hc ⊢; simp [go_sem, execOp, Act.eval, stepTmps, hc], fun e he => by obtain rfl : e = ⟨.cell ⟨b0, 0, none⟩, false, false⟩ := (by simpa using he); exact ⟨rfl, fun m => by simp⟩⟩
    · obtain rfl := Option.some.inj ho
      have hx5 : X.getD 5 false = false := by
        have hlt : 5 < X.size := by rw [hX]; decide
        simpa [hlt] using hx
      obtain rfl := hJ.1 hx5
      refine Win.enter (f := 50) (args := #[.pointer (some ⟨p, 0, none⟩)]) (.inl hne) rfl rfl (fun d => ⟨#[], by rw [e1]; exact call_enter mild.toMild Try.func50 rfl rfl rfl rfl _ _ (by simp [Act.eval, stepTmps]), fun e he => by simp at he⟩) ?_
      refine touch_goes L h0 h4 hfn hfb hΨ (fun c₁ hc₁ hgo' => hgo c₁ _ hc₁ hgo') (fun w' w'' hw' hk' hl' => ?_)
      rw [Frame.finish_at]
      exact hn w'' (fun _ _ => rfl) ⟨fun z => (by rw [getD_set_self (by rw [hX]; decide)] at z; cases z), fun _ => ⟨w', hw', hk', hl'⟩, by rw [getD_set_ne false (by decide)]; exact hJ.2.2⟩
    · obtain rfl := Option.some.inj ho
      have g3 := hr { on := 3, ground := Ground.data } (by simp) rfl
      have g5 := hr { on := 5, ground := Ground.data } (by simp) rfl
      have g2 := hcl 3 _ rfl g3 { on := 2, ground := Ground.data } (by simp) rfl
      have g1 := hcl 2 _ rfl g2 { on := 1, ground := Ground.data } (by simp) rfl
      have g0 := hcl 1 _ rfl g1 { on := 0, ground := Ground.data } (by simp) rfl
      have g4 := hcl 5 _ rfl g5 { on := 4, ground := Ground.data } (by simp) rfl
      have hall : ∀ j, j < 7 → (X.setIfInBounds 6 true).getD j false = true := fun j hj7 => by
        rcases j with _ | _ | _ | _ | _ | _ | _ | j
        · rw [getD_set_ne false (by decide)]; exact g0
        · rw [getD_set_ne false (by decide)]; exact g1
        · rw [getD_set_ne false (by decide)]; exact g2
        · rw [getD_set_ne false (by decide)]; exact g3
        · rw [getD_set_ne false (by decide)]; exact g4
        · rw [getD_set_ne false (by decide)]; exact g5
        · exact getD_set_self (by rw [hX]; decide)
        · omega
      have hL := hL'' hall
      have hA := hfl hall
      subst hL
      have hD := hJ.2.1 g5
      obtain ⟨u0, u2, u1, uT⟩ := hU _ hD
      have hput : a' = (⟨stepTmps p b0 (.pointer (some ⟨p, 0, none⟩)) (.pointer (some ⟨p, 0, none⟩)) (.pointer (some ⟨p, 2, none⟩)) (.chan (some cU)) (.pointer (some ⟨p, 0, none⟩)) (.nilIface) undef undef, [stepDefer b0]⟩ : Act) := hA
      subst hput
      refine Win.sends (j := j) (c := cU) (kk := 0) (x := .nilIface) (z := .nilIface) (z' := .tuple #[]) (es := #[]) (pl' := some (waitSeat p cT (stepMore p b0) (stepHome p b0 cT cU (c :: cs)))) (.inl hne) rfl rfl (fun d => ?_) (fun e he => by simp at he) hj hk ⟨waitSeat_wf, fun q hq => ?_, fun i' s' q hi hq hq' => ?_, fun ad v hv => ?_, 60, ?_⟩ (fun g₂ d m hg hcu => hw c' g₂ d m hD hg hcu)
      · rw [Sem.runT_eq]
        generalize World.at c' d = W
        simp [go_sem, execOp, Act.eval, stepTmps]
        try rfl
      · rw [waitSeat_has hq]; exact uT
      · exact hap i' s' q hi hq (waitSeat_has hq')
      · rcases hv with ⟨rfl, rfl⟩ | ⟨rfl, rfl⟩
        · exact u1
        · exact u0
      · exact hway _
    · simp at ho
  · intro X c' hall hJ
    have := hall 6 (by simp)
    rw [hJ.2.2] at this; cases this
end
end Go.Proofs.Ytnbibpmhmffmpaa
