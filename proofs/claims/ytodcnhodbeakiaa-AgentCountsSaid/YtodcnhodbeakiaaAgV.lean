/- Package agent, the side of who steps: the agent's next touch is done. Written by gen/ag_v.py. Conditions: as each theorem states them. -/
import Derived.Test.YtodcnhodbeakiaaAgQ
import Derived.Test.YtodcnhodbeakiaaLfV
namespace Go.Proofs.Ytodcnhodbeakiaa
set_option linter.unusedVariables false
set_option linter.unusedSimpArgs false
set_option maxRecDepth 100000
open Go.Conc

theorem stok_at {P : Program} {b : Frame} {a : Act} {k : List Item} (hb : b.kind = .normal) (hr : (b.at a k).roundOf = none) (hd : ∀ d ∈ a.defers, okT d.target) (hk : k.all (itemOK P) = true) : StOK P (b.at a k) [] :=
  ⟨⟨fun i hi => (List.all_eq_true.1 hk) i hi, hd, hr, .inl hb⟩, fun f hf => by simp at hf, hb⟩
theorem mixed : Try.prog.follows .mixedOrders = true := by kernel_rfl
theorem assert_halt (w : World) : (Instr.typeAssert .nilIface 20 126 true).run Try.prog w = .ok (.tuple #[.agg #[], .bool false]) w := by kernel_rfl

section
variable {pl : Nat → Option Place} {n h : Nat} {Post : Value → World → Prop} {w : World} {F : Nat → Option (Nat × Nat)}

set_option maxHeartbeats 1000000 in
theorem touch_goes (L : Lies pl F w) {c : Frame} {cs : List Frame} {p : Nat} {f : FuncId} {cap : Array Value} {mv : Value} {Ψ : World → Prop} (h0 : w.cell? ⟨p, 0, none⟩ = some mv) (h4 : w.cell? ⟨p, 4, none⟩ = some (.func (.func f) #[] cap)) {fn : Func} (hfn : Try.prog.funcs[f]? = some fn) (hfb : fn.body.isNone = false)
    (hΨ : ∀ w', Ψ w' → Lies pl F w' ∧ w'.heap[w.heap.size]? = some (.cells #[.nilIface] 20 (0, 0)) ∧ w'.cell? ⟨p, 0, none⟩ = some mv ∧ w'.cell? ⟨p, 4, none⟩ = some (.func (.func f) #[] cap))
    (hgo : ∀ c₁ : Frame, StOK Try.prog c₁ [] → (∀ w', Ψ w' → Win Try.prog Post pl n h (gor (c₁.finish (.tuple #[])) (c :: cs)) w') → Win Try.prog Post pl n h (gor (Frame.enter Try.prog f (#[mv] ++ cap) .normal) (c₁ :: c :: cs)) (w.alloc (.cells #[.nilIface] 20)))
    (H : ∀ w' w'', Ψ w' → Ks (· = w.heap.size) w' w'' → Lies pl F w'' → Win Try.prog Post pl n h (gor (c.finish .nilIface) cs) w'') :
    Win Try.prog Post pl n h (gor (Frame.enter Try.prog 45 #[.pointer (some ⟨p, 0, none⟩)] .normal) (c :: cs)) w := by
  have hne : (Frame.enter Try.prog 45 #[.pointer (some ⟨p, 0, none⟩)] CallKind.normal).kind = .normal := rfl
  rw [enter_at Try.func45 rfl]
  simp only [Try.ntmps45, List.size_toArray, List.length_cons, List.length_nil, Nat.reduceAdd, Nat.reduceSub, Array.replicate_succ, Array.replicate_zero, List.push_toArray, List.append_toArray, List.nil_append, List.cons_append]
  refine Win.seq ?_
  refine Win.region ?_
  simp only [List.size_toArray, List.length_cons, List.length_nil, Nat.reduceAdd, List.range, List.range.loop]
  refine Win.makeOp (v := .pointer (some ⟨w.heap.size, 0, none⟩)) (ob := .cells #[.nilIface] 20) (es := #[]) L (.inl hne) rfl rfl (fun d => by rw [Sem.runT_eq]; simp [go_sem, execOp, Act.eval]; try rfl) (fun e he => by simp at he) ?_
  simp only [Act.put, Act.eval, List.getElem_toArray, List.getElem_cons_zero, List.getElem_cons_succ, List.setIfInBounds_toArray, List.set_cons_succ, List.set_cons_zero]
  refine Win.opsEnd ?_
  refine Win.seq ?_
  refine Win.region ?_
  simp only [List.size_toArray, List.length_cons, List.length_nil, Nat.reduceAdd, List.range, List.range.loop]
  refine Win.pureOp (v := .func (.func 71) #[] #[.pointer (some ⟨w.heap.size, 0, none⟩)]) (.inl hne) rfl rfl (fun w => by rw [Sem.runT_eq]; simp [go_sem, execOp, Act.eval]; try rfl) ?_
  simp only [Act.put, Act.eval, List.getElem_toArray, List.getElem_cons_zero, List.getElem_cons_succ, List.setIfInBounds_toArray, List.set_cons_succ, List.set_cons_zero]
  refine Win.defers (d₀ := { target := .fn (.func 71) #[.pointer (some ⟨w.heap.size, 0, none⟩)], args := #[] }) (.inl hne) rfl rfl (fun d => ⟨#[], by rw [Sem.runT_eq]; simp [go_sem, execOp, Act.eval]; try rfl, fun e he => by simp at he⟩) ?_
  simp only [Act.put, Act.eval, List.getElem_toArray, List.getElem_cons_zero, List.getElem_cons_succ, List.setIfInBounds_toArray, List.set_cons_succ, List.set_cons_zero]
  refine Win.opsEnd ?_
  refine Win.seq ?_
  have hr1 : (w.alloc (.cells #[.nilIface] 20)).cell? ⟨p, 0, none⟩ = some mv := alloc_cell w _ h0
  have hr4 : (w.alloc (.cells #[.nilIface] 20)).cell? ⟨p, 4, none⟩ = some (.func (.func f) #[] cap) := alloc_cell w _ h4
  generalize hw1 : w.alloc (.cells #[.nilIface] 20) = w1 at hr1 hr4 hgo ⊢
  refine Win.anyFill (C := World) (Goal := fun c' fr => Win Try.prog Post pl n h (gor fr (c :: cs)) c') mixed (by kernel_rfl) (fun _ i => match i with | 0 => .pointer (some ⟨p, 0, none⟩) | 1 => .pointer (some ⟨p, 0, none⟩) | 2 => .pointer (some ⟨p, 4, none⟩) | 3 => .func (.func f) #[] cap | 4 => .pointer (some ⟨p, 0, none⟩) | 5 => .pointer (some ⟨p, 0, none⟩) | 6 => .pointer (some ⟨p, 0, none⟩) | 7 => mv | _ => .tuple #[]) (fun _ => (⟨#[.pointer (some ⟨p, 0, none⟩), undef, .pointer (some ⟨w.heap.size, 0, none⟩), .func (.func 71) #[] #[.pointer (some ⟨w.heap.size, 0, none⟩)], .pointer (some ⟨p, 0, none⟩), .pointer (some ⟨p, 0, none⟩), .pointer (some ⟨p, 4, none⟩), .func (.func f) #[] cap, .pointer (some ⟨p, 0, none⟩), .pointer (some ⟨p, 0, none⟩), .pointer (some ⟨p, 0, none⟩), mv, .tuple #[]], [{ target := .fn (.func 71) #[.pointer (some ⟨w.heap.size, 0, none⟩)], args := #[] }]⟩ : Act)) (fun _ => by simp only [fillAll, List.size_toArray, List.length_cons, List.length_nil, Nat.reduceAdd, List.range, List.range.loop, List.foldl_cons, List.foldl_nil, List.getElem?_toArray, List.getElem?_cons_zero, List.getElem?_cons_succ, Option.bind_some, Act.put, List.setIfInBounds_toArray, List.set_cons_succ, List.set_cons_zero]) (fun X c' => (X.getD 8 false = false → c' = w1) ∧ (X.getD 8 false = true → Ψ c')) w1 (fun fr hh => hh) ?_ ?_ ⟨fun _ => rfl, fun z => by simp at z⟩
  · intro X i o hX ho hx hr c' a' L' hJ hcl hL'' hfl e1 e2 hd hn
    have hcell : c'.cell? ⟨p, 0, none⟩ = some mv ∧ c'.cell? ⟨p, 4, none⟩ = some (.func (.func f) #[] cap) := by
      cases hx8 : X.getD 8 false with
      | false => rw [hJ.1 hx8]; exact ⟨hr1, hr4⟩
      | true => exact (hΨ _ (hJ.2 hx8)).2.2
    obtain ⟨hp0, hp4⟩ := hcell
    rcases i with _ | _ | _ | _ | _ | _ | _ | _ | _ | i
    · obtain rfl := Option.some.inj ho
      have e1 : execOp a'.eval _ = execOp (⟨#[.pointer (some ⟨p, 0, none⟩), undef, .pointer (some ⟨w.heap.size, 0, none⟩), .func (.func 71) #[] #[.pointer (some ⟨w.heap.size, 0, none⟩)], .pointer (some ⟨p, 0, none⟩), .pointer (some ⟨p, 0, none⟩), .pointer (some ⟨p, 4, none⟩), .func (.func f) #[] cap, .pointer (some ⟨p, 0, none⟩), .pointer (some ⟨p, 0, none⟩), .pointer (some ⟨p, 0, none⟩), mv, .tuple #[]], [{ target := .fn (.func 71) #[.pointer (some ⟨w.heap.size, 0, none⟩)], args := #[] }]⟩ : Act).eval _ := e1
      have hn0 := hn c' (fun _ _ => rfl) ⟨fun z => hJ.1 (by rw [getD_set_ne false (by decide)] at z; exact z), fun z => hJ.2 (by rw [getD_set_ne false (by decide)] at z; exact z)⟩
      refine Win.op (v := .pointer (some ⟨p, 0, none⟩)) (.inl hne) rfl rfl (fun d => ?_) hn0
      exact ⟨#[], by rw [e1]; rfl, fun e he => by simp at he⟩
    · obtain rfl := Option.some.inj ho
      have e1 : execOp a'.eval _ = execOp (⟨#[.pointer (some ⟨p, 0, none⟩), undef, .pointer (some ⟨w.heap.size, 0, none⟩), .func (.func 71) #[] #[.pointer (some ⟨w.heap.size, 0, none⟩)], .pointer (some ⟨p, 0, none⟩), .pointer (some ⟨p, 0, none⟩), .pointer (some ⟨p, 4, none⟩), .func (.func f) #[] cap, .pointer (some ⟨p, 0, none⟩), .pointer (some ⟨p, 0, none⟩), .pointer (some ⟨p, 0, none⟩), mv, .tuple #[]], [{ target := .fn (.func 71) #[.pointer (some ⟨w.heap.size, 0, none⟩)], args := #[] }]⟩ : Act).eval _ := e1
      have hn0 := hn c' (fun _ _ => rfl) ⟨fun z => hJ.1 (by rw [getD_set_ne false (by decide)] at z; exact z), fun z => hJ.2 (by rw [getD_set_ne false (by decide)] at z; exact z)⟩
      refine Win.op (v := .pointer (some ⟨p, 0, none⟩)) (.inl hne) rfl rfl (fun d => ?_) hn0
      exact ⟨#[], by rw [e1, Sem.runT_eq]; simp [go_sem, execOp, Act.eval], fun e he => by simp at he⟩
    · obtain rfl := Option.some.inj ho
      have e1 : execOp a'.eval _ = execOp (⟨#[.pointer (some ⟨p, 0, none⟩), undef, .pointer (some ⟨w.heap.size, 0, none⟩), .func (.func 71) #[] #[.pointer (some ⟨w.heap.size, 0, none⟩)], .pointer (some ⟨p, 0, none⟩), .pointer (some ⟨p, 0, none⟩), .pointer (some ⟨p, 4, none⟩), .func (.func f) #[] cap, .pointer (some ⟨p, 0, none⟩), .pointer (some ⟨p, 0, none⟩), .pointer (some ⟨p, 0, none⟩), mv, .tuple #[]], [{ target := .fn (.func 71) #[.pointer (some ⟨w.heap.size, 0, none⟩)], args := #[] }]⟩ : Act).eval _ := e1
      have hn0 := hn c' (fun _ _ => rfl) ⟨fun z => hJ.1 (by rw [getD_set_ne false (by decide)] at z; exact z), fun z => hJ.2 (by rw [getD_set_ne false (by decide)] at z; exact z)⟩
      refine Win.op (v := .pointer (some ⟨p, 4, none⟩)) (.inl hne) rfl rfl (fun d => ?_) hn0
      exact ⟨#[], by rw [e1, Sem.runT_eq]; simp [go_sem, execOp, Act.eval], fun e he => by simp at he⟩
    · obtain rfl := Option.some.inj ho
      have e1 : execOp a'.eval _ = execOp (⟨#[.pointer (some ⟨p, 0, none⟩), undef, .pointer (some ⟨w.heap.size, 0, none⟩), .func (.func 71) #[] #[.pointer (some ⟨w.heap.size, 0, none⟩)], .pointer (some ⟨p, 0, none⟩), .pointer (some ⟨p, 0, none⟩), .pointer (some ⟨p, 4, none⟩), .func (.func f) #[] cap, .pointer (some ⟨p, 0, none⟩), .pointer (some ⟨p, 0, none⟩), .pointer (some ⟨p, 0, none⟩), mv, .tuple #[]], [{ target := .fn (.func 71) #[.pointer (some ⟨w.heap.size, 0, none⟩)], args := #[] }]⟩ : Act).eval _ := e1
      have hn0 := hn c' (fun _ _ => rfl) ⟨fun z => hJ.1 (by rw [getD_set_ne false (by decide)] at z; exact z), fun z => hJ.2 (by rw [getD_set_ne false (by decide)] at z; exact z)⟩
      refine Win.op (v := .func (.func f) #[] cap) (.inl hne) rfl rfl (fun d => ?_) hn0
      exact ⟨#[⟨.cell ⟨p, 4, none⟩, false, false⟩], by rw [e1, Sem.runT_eq]; have hc : (World.at c' d).cell? ⟨p, 4, none⟩ = _ := hp4; generalize World.at c' d = W at hc ⊢; simp [go_sem, execOp, Act.eval, hc], fun e he => by obtain rfl : e = ⟨.cell ⟨p, 4, none⟩, false, false⟩ := (by simpa using he); exact ⟨rfl, fun m => by simp⟩⟩
    · obtain rfl := Option.some.inj ho
      have e1 : execOp a'.eval _ = execOp (⟨#[.pointer (some ⟨p, 0, none⟩), undef, .pointer (some ⟨w.heap.size, 0, none⟩), .func (.func 71) #[] #[.pointer (some ⟨w.heap.size, 0, none⟩)], .pointer (some ⟨p, 0, none⟩), .pointer (some ⟨p, 0, none⟩), .pointer (some ⟨p, 4, none⟩), .func (.func f) #[] cap, .pointer (some ⟨p, 0, none⟩), .pointer (some ⟨p, 0, none⟩), .pointer (some ⟨p, 0, none⟩), mv, .tuple #[]], [{ target := .fn (.func 71) #[.pointer (some ⟨w.heap.size, 0, none⟩)], args := #[] }]⟩ : Act).eval _ := e1
      have hn0 := hn c' (fun _ _ => rfl) ⟨fun z => hJ.1 (by rw [getD_set_ne false (by decide)] at z; exact z), fun z => hJ.2 (by rw [getD_set_ne false (by decide)] at z; exact z)⟩
      refine Win.op (v := .pointer (some ⟨p, 0, none⟩)) (.inl hne) rfl rfl (fun d => ?_) hn0
      exact ⟨#[], by rw [e1]; rfl, fun e he => by simp at he⟩
    · obtain rfl := Option.some.inj ho
      have e1 : execOp a'.eval _ = execOp (⟨#[.pointer (some ⟨p, 0, none⟩), undef, .pointer (some ⟨w.heap.size, 0, none⟩), .func (.func 71) #[] #[.pointer (some ⟨w.heap.size, 0, none⟩)], .pointer (some ⟨p, 0, none⟩), .pointer (some ⟨p, 0, none⟩), .pointer (some ⟨p, 4, none⟩), .func (.func f) #[] cap, .pointer (some ⟨p, 0, none⟩), .pointer (some ⟨p, 0, none⟩), .pointer (some ⟨p, 0, none⟩), mv, .tuple #[]], [{ target := .fn (.func 71) #[.pointer (some ⟨w.heap.size, 0, none⟩)], args := #[] }]⟩ : Act).eval _ := e1
      have hn0 := hn c' (fun _ _ => rfl) ⟨fun z => hJ.1 (by rw [getD_set_ne false (by decide)] at z; exact z), fun z => hJ.2 (by rw [getD_set_ne false (by decide)] at z; exact z)⟩
      refine Win.op (v := .pointer (some ⟨p, 0, none⟩)) (.inl hne) rfl rfl (fun d => ?_) hn0
      exact ⟨#[], by rw [e1, Sem.runT_eq]; simp [go_sem, execOp, Act.eval], fun e he => by simp at he⟩
    · obtain rfl := Option.some.inj ho
      have e1 : execOp a'.eval _ = execOp (⟨#[.pointer (some ⟨p, 0, none⟩), undef, .pointer (some ⟨w.heap.size, 0, none⟩), .func (.func 71) #[] #[.pointer (some ⟨w.heap.size, 0, none⟩)], .pointer (some ⟨p, 0, none⟩), .pointer (some ⟨p, 0, none⟩), .pointer (some ⟨p, 4, none⟩), .func (.func f) #[] cap, .pointer (some ⟨p, 0, none⟩), .pointer (some ⟨p, 0, none⟩), .pointer (some ⟨p, 0, none⟩), mv, .tuple #[]], [{ target := .fn (.func 71) #[.pointer (some ⟨w.heap.size, 0, none⟩)], args := #[] }]⟩ : Act).eval _ := e1
      have hn0 := hn c' (fun _ _ => rfl) ⟨fun z => hJ.1 (by rw [getD_set_ne false (by decide)] at z; exact z), fun z => hJ.2 (by rw [getD_set_ne false (by decide)] at z; exact z)⟩
      refine Win.op (v := .pointer (some ⟨p, 0, none⟩)) (.inl hne) rfl rfl (fun d => ?_) hn0
      exact ⟨#[], by rw [e1, Sem.runT_eq]; simp [go_sem, execOp, Act.eval], fun e he => by simp at he⟩
    · obtain rfl := Option.some.inj ho
      have e1 : execOp a'.eval _ = execOp (⟨#[.pointer (some ⟨p, 0, none⟩), undef, .pointer (some ⟨w.heap.size, 0, none⟩), .func (.func 71) #[] #[.pointer (some ⟨w.heap.size, 0, none⟩)], .pointer (some ⟨p, 0, none⟩), .pointer (some ⟨p, 0, none⟩), .pointer (some ⟨p, 4, none⟩), .func (.func f) #[] cap, .pointer (some ⟨p, 0, none⟩), .pointer (some ⟨p, 0, none⟩), .pointer (some ⟨p, 0, none⟩), mv, .tuple #[]], [{ target := .fn (.func 71) #[.pointer (some ⟨w.heap.size, 0, none⟩)], args := #[] }]⟩ : Act).eval _ := e1
      have hn0 := hn c' (fun _ _ => rfl) ⟨fun z => hJ.1 (by rw [getD_set_ne false (by decide)] at z; exact z), fun z => hJ.2 (by rw [getD_set_ne false (by decide)] at z; exact z)⟩
      refine Win.op (v := mv) (.inl hne) rfl rfl (fun d => ?_) hn0
      exact ⟨#[⟨.cell ⟨p, 0, none⟩, false, false⟩], by rw [e1, Sem.runT_eq]; have hc : (World.at c' d).cell? ⟨p, 0, none⟩ = _ := hp0; generalize World.at c' d = W at hc ⊢; simp [go_sem, execOp, Act.eval, hc], fun e he => by obtain rfl : e = ⟨.cell ⟨p, 0, none⟩, false, false⟩ := (by simpa using he); exact ⟨rfl, fun m => by simp⟩⟩
    · obtain rfl := Option.some.inj ho
      have e1 : execOp a'.eval _ = execOp (⟨#[.pointer (some ⟨p, 0, none⟩), undef, .pointer (some ⟨w.heap.size, 0, none⟩), .func (.func 71) #[] #[.pointer (some ⟨w.heap.size, 0, none⟩)], .pointer (some ⟨p, 0, none⟩), .pointer (some ⟨p, 0, none⟩), .pointer (some ⟨p, 4, none⟩), .func (.func f) #[] cap, .pointer (some ⟨p, 0, none⟩), .pointer (some ⟨p, 0, none⟩), .pointer (some ⟨p, 0, none⟩), mv, .tuple #[]], [{ target := .fn (.func 71) #[.pointer (some ⟨w.heap.size, 0, none⟩)], args := #[] }]⟩ : Act).eval _ := e1
      have hx8 : X.getD 8 false = false := by
        have hlt : 8 < X.size := by rw [hX]; decide
        simpa [hlt] using hx
      obtain rfl := hJ.1 hx8
      refine Win.enter (f := f) (args := #[mv] ++ cap) (.inl hne) rfl rfl (fun d => ⟨#[], by rw [e1]; have hi := invoke_enter mild.toMild hfn hfb cap #[mv] (World.at c' d) #[]; simp only [execOp]; simpa [resolve, Deferred.ofValue, Act.eval, Bind.bind, Sem.bind, Pure.pure] using hi, fun e he => by simp at he⟩) ?_
      refine hgo _ (stok_at rfl rfl (by rw [hd]; intro d hd'; simp only [List.mem_singleton] at hd'; subst hd'; trivial) (by kernel_rfl)) fun w' hw' => ?_
      rw [Frame.finish_at]
      exact hn w' (fun _ _ => rfl) ⟨fun z => (by rw [getD_set_self (by rw [hX]; decide)] at z; cases z), fun _ => hw'⟩
    · simp at ho
  · intro X c' hall hJ
    have hc' := hJ.2 (hall 8 (by simp))
    obtain ⟨hL', hbx, _, _⟩ := hΨ _ hc'
    have hne' : (Frame.enter Try.prog 45 #[.pointer (some ⟨p, 0, none⟩)] CallKind.normal).kind = .normal := rfl
    show Win Try.prog Post pl n h (gor ((Frame.enter Try.prog 45 #[.pointer (some ⟨p, 0, none⟩)] CallKind.normal).at (⟨#[.pointer (some ⟨p, 0, none⟩), undef, .pointer (some ⟨w.heap.size, 0, none⟩), .func (.func 71) #[] #[.pointer (some ⟨w.heap.size, 0, none⟩)], .pointer (some ⟨p, 0, none⟩), .pointer (some ⟨p, 0, none⟩), .pointer (some ⟨p, 4, none⟩), .func (.func f) #[] cap, .pointer (some ⟨p, 0, none⟩), .pointer (some ⟨p, 0, none⟩), .pointer (some ⟨p, 0, none⟩), mv, .tuple #[]], [{ target := .fn (.func 71) #[.pointer (some ⟨w.heap.size, 0, none⟩)], args := #[] }]⟩ : Act) _) (c :: cs)) c'
    have hcr : c'.cell? ⟨w.heap.size, 0, none⟩ = some .nilIface := by unfold World.cell?; rw [hbx]; rfl
    have hfr : c'.frozen? ⟨w.heap.size, 0, none⟩ = false := by unfold World.frozen?; rw [hbx]; rfl
    have hFr : Free pl ⟨w.heap.size, 0, none⟩ := L.freeNew (Nat.le_refl _)
    refine Win.opsEnd ?_
    refine Win.seq ?_
    refine Win.region ?_
    simp only [List.size_toArray, List.length_cons, List.length_nil, Nat.reduceAdd, List.range, List.range.loop]
    refine Win.storeOp (ad := ⟨w.heap.size, 0, none⟩) (x := .nilIface) (.inl hne) rfl rfl hFr (fun d => by
      rw [Sem.runT_eq]
      obtain ⟨s1, s2⟩ := store_ok (P := Try.prog) (x := .nilIface) (w := World.at _ d) (m := .plain) (by simp) (by simp) (show (World.at _ d).cell? ⟨w.heap.size, 0, none⟩ = some .nilIface from hcr) (show (World.at _ d).frozen? ⟨w.heap.size, 0, none⟩ = false from hfr)
      have c1 : (World.at _ d).cell? ⟨w.heap.size, 0, none⟩ = some .nilIface := hcr
      have c2 : (World.at _ d).frozen? ⟨w.heap.size, 0, none⟩ = false := hfr
      generalize World.at _ d = W at s1 s2 c1 c2 ⊢
      simp [go_sem, execOp, Act.eval, s1, s2, c1, c2]) ?_
    simp only [Act.put, Act.eval, List.getElem_toArray, List.getElem_cons_zero, List.getElem_cons_succ, List.setIfInBounds_toArray, List.set_cons_succ, List.set_cons_zero]
    refine Win.opsEnd ?_
    have hs1 : (c'.setCell ⟨w.heap.size, 0, none⟩ .nilIface).heap[w.heap.size]? = some (.cells #[.nilIface] 20 (0, 0)) := by
      have := heap_setCell_same c' w.heap.size 0 _ _ .nilIface hbx
      rw [this]; simp
    have hk1 := ks_setCell c' ⟨w.heap.size, 0, none⟩ .nilIface
    have hl1 := hL'.setCell ⟨w.heap.size, 0, none⟩ .nilIface
    generalize c'.setCell ⟨w.heap.size, 0, none⟩ .nilIface = u1 at hs1 hk1 hl1 ⊢
    have hcu : u1.cell? ⟨w.heap.size, 0, none⟩ = some .nilIface := by unfold World.cell?; rw [hs1]; rfl
    have hfu : u1.frozen? ⟨w.heap.size, 0, none⟩ = false := by unfold World.frozen?; rw [hs1]; rfl
    refine Win.ret ?_
    refine Win.callsDeferred (d₀ := { target := .fn (.func 71) #[.pointer (some ⟨w.heap.size, 0, none⟩)], args := #[] }) (ds := []) (f := 71) (args := #[.pointer (some ⟨w.heap.size, 0, none⟩)]) (by simp) rfl trivial (by simp) (fun d => ⟨#[], invoke_enter mild.toMild Try.func71 rfl _ _ _ _, fun e he => by simp at he⟩) ?_
    have hne2 : (Frame.enter Try.prog 71 #[.pointer (some ⟨w.heap.size, 0, none⟩)] CallKind.deferred).kind = .deferred := rfl
    rw [enter_at Try.func71 rfl]
    simp only [Try.ntmps71, List.size_toArray, List.length_cons, List.length_nil, Nat.reduceAdd, Nat.reduceSub, Array.replicate_succ, Array.replicate_zero, List.push_toArray, List.append_toArray, List.nil_append, List.cons_append]
    refine Win.seq ?_
    refine Win.region ?_
    simp only [List.size_toArray, List.length_cons, List.length_nil, Nat.reduceAdd, List.range, List.range.loop]
    refine Win.recovers hne2 rfl rfl rfl (fun d => ⟨#[], by rw [Sem.runT_eq]; simp [go_sem, execOp, Act.eval]; try rfl, fun e he => by simp at he⟩) ?_
    simp only [asked]
    simp only [Act.put, Act.eval, List.getElem_toArray, List.getElem_cons_zero, List.getElem_cons_succ, List.setIfInBounds_toArray, List.set_cons_succ, List.set_cons_zero]
    refine Win.storeOp (ad := ⟨w.heap.size, 0, none⟩) (x := .nilIface) (.inr hne2) rfl rfl hFr (fun d => by
      rw [Sem.runT_eq]
      obtain ⟨s1, s2⟩ := store_ok (P := Try.prog) (x := .nilIface) (w := World.at _ d) (m := .plain) (by simp) (by simp) (show (World.at _ d).cell? ⟨w.heap.size, 0, none⟩ = some .nilIface from hcu) (show (World.at _ d).frozen? ⟨w.heap.size, 0, none⟩ = false from hfu)
      have c1 : (World.at _ d).cell? ⟨w.heap.size, 0, none⟩ = some .nilIface := hcu
      have c2 : (World.at _ d).frozen? ⟨w.heap.size, 0, none⟩ = false := hfu
      generalize World.at _ d = W at s1 s2 c1 c2 ⊢
      simp [go_sem, execOp, Act.eval, s1, s2, c1, c2]) ?_
    simp only [Act.put, Act.eval, List.getElem_toArray, List.getElem_cons_zero, List.getElem_cons_succ, List.setIfInBounds_toArray, List.set_cons_succ, List.set_cons_zero]
    refine Win.opsEnd ?_
    have hs2 : (u1.setCell ⟨w.heap.size, 0, none⟩ .nilIface).heap[w.heap.size]? = some (.cells #[.nilIface] 20 (0, 0)) := by
      have := heap_setCell_same u1 w.heap.size 0 _ _ .nilIface hs1
      rw [this]; simp
    have hk2 := hk1.trans (ks_setCell u1 ⟨w.heap.size, 0, none⟩ .nilIface)
    have hl2 := hl1.setCell ⟨w.heap.size, 0, none⟩ .nilIface
    generalize u1.setCell ⟨w.heap.size, 0, none⟩ .nilIface = u2 at hs2 hk2 hl2 ⊢
    have hcv : u2.cell? ⟨w.heap.size, 0, none⟩ = some .nilIface := by unfold World.cell?; rw [hs2]; rfl
    refine Win.seq ?_
    refine Win.region ?_
    simp only [List.size_toArray, List.length_cons, List.length_nil, Nat.reduceAdd, List.range, List.range.loop]
    refine Win.lookOp (v := .nilIface) (ad := ⟨w.heap.size, 0, none⟩) (x := .nilIface) (.inr hne2) rfl rfl (hcv) (fun w hc => by rw [Sem.runT_eq]; simp [go_sem, execOp, Act.eval, hc]) ?_
    simp only [Act.put, Act.eval, List.getElem_toArray, List.getElem_cons_zero, List.getElem_cons_succ, List.setIfInBounds_toArray, List.set_cons_succ, List.set_cons_zero]
    refine Win.pureOp (v := .tuple #[.agg #[], .bool false]) (.inr hne2) rfl rfl (fun w => by rw [Sem.runT_eq]; simp [go_sem, execOp, Act.eval, assert_halt]; try rfl) ?_
    simp only [Act.put, Act.eval, List.getElem_toArray, List.getElem_cons_zero, List.getElem_cons_succ, List.setIfInBounds_toArray, List.set_cons_succ, List.set_cons_zero]
    refine Win.pureOp (v := .tuple #[.agg #[], .bool false]) (.inr hne2) rfl rfl (fun w => rfl) ?_
    simp only [Act.put, Act.eval, List.getElem_toArray, List.getElem_cons_zero, List.getElem_cons_succ, List.setIfInBounds_toArray, List.set_cons_succ, List.set_cons_zero]
    refine Win.pureOp (v := .agg #[]) (.inr hne2) rfl rfl (fun w => by rw [Sem.runT_eq]; simp [go_sem, execOp, Act.eval]) ?_
    simp only [Act.put, Act.eval, List.getElem_toArray, List.getElem_cons_zero, List.getElem_cons_succ, List.setIfInBounds_toArray, List.set_cons_succ, List.set_cons_zero]
    refine Win.pureOp (v := .bool false) (.inr hne2) rfl rfl (fun w => by rw [Sem.runT_eq]; simp [go_sem, execOp, Act.eval]) ?_
    simp only [Act.put, Act.eval, List.getElem_toArray, List.getElem_cons_zero, List.getElem_cons_succ, List.setIfInBounds_toArray, List.set_cons_succ, List.set_cons_zero]
    refine Win.makeOp (v := .pointer (some ⟨u2.heap.size, 0, none⟩)) (ob := .cells #[] 126) (es := #[]) hl2 (.inr hne2) rfl rfl (fun d => by rw [Sem.runT_eq]; simp [go_sem, execOp, Act.eval]; try rfl) (fun e he => by simp at he) ?_
    simp only [Act.put, Act.eval, List.getElem_toArray, List.getElem_cons_zero, List.getElem_cons_succ, List.setIfInBounds_toArray, List.set_cons_succ, List.set_cons_zero]
    have hk3 := hk2.trans (ks_alloc (· = w.heap.size) u2 (.cells #[] 126))
    have hl3 := hl2.alloc (.cells #[] 126)
    have hcx : (u2.alloc (.cells #[] 126)).cell? ⟨w.heap.size, 0, none⟩ = some .nilIface := alloc_cell u2 _ hcv
    generalize hu3 : u2.alloc (.cells #[] 126) = u3 at hk3 hl3 hcx ⊢
    refine Win.opS (.inr hne2) rfl rfl fun d => ⟨u3.at d, #[], ?_, ⟨fun _ _ _ _ _ => rfl, fun _ _ _ z => z⟩, fun e he => by simp at he, Win.at ?_ d⟩
    · rw [Sem.runT_eq]
      generalize u3.at d = W
      simp [go_sem, execOp, Act.eval]
      try rfl
    simp only [Act.put, Act.eval, List.getElem_toArray, List.getElem_cons_zero, List.getElem_cons_succ, List.setIfInBounds_toArray, List.set_cons_succ, List.set_cons_zero]
    refine Win.pureOp (v := .bool false) (.inr hne2) rfl rfl (fun w => rfl) ?_
    simp only [Act.put, Act.eval, List.getElem_toArray, List.getElem_cons_zero, List.getElem_cons_succ, List.setIfInBounds_toArray, List.set_cons_succ, List.set_cons_zero]
    refine Win.opsEnd ?_
    refine Win.seq ?_
    refine Win.region ?_
    simp only [List.size_toArray, List.length_cons, List.length_nil, Nat.reduceAdd, List.range, List.range.loop]
    refine Win.pureOp (v := .bool false) (.inr hne2) rfl rfl (fun w => rfl) ?_
    simp only [Act.put, Act.eval, List.getElem_toArray, List.getElem_cons_zero, List.getElem_cons_succ, List.setIfInBounds_toArray, List.set_cons_succ, List.set_cons_zero]
    refine Win.opsEnd ?_
    refine Win.cond (t := false) rfl ?_
    simp only [if_false, Bool.false_eq_true]
    refine Win.skip ?_
    refine Win.falls ?_
    refine Win.leaveDeferred (v := .tuple #[]) rfl rfl hne2 Try.func71 (fun d => ⟨#[], by rw [Sem.runT_eq]; simp [go_sem, results, Try.f71], fun e he => by simp at he⟩) (fun v' g older => by simp) ?_
    refine Win.leave (v := .nilIface) rfl rfl hne Try.func45 (fun d => ⟨#[⟨.cell ⟨w.heap.size, 0, none⟩, false, false⟩], ?_, fun e he => by obtain rfl : e = ⟨.cell ⟨w.heap.size, 0, none⟩, false, false⟩ := (by simpa using he); exact ⟨rfl, fun m => by simp⟩⟩) (H c' u3 hc' hk3 hl3)
    rw [Sem.runT_eq]
    have hc : (u3.at d).cell? ⟨w.heap.size, 0, none⟩ = some .nilIface := hcx
    generalize u3.at d = W at hc ⊢
    simp [go_sem, results, Try.f45, Frame.at, hc]
end
end Go.Proofs.Ytodcnhodbeakiaa
