/- Package agent, the side of who steps: Step's turn. Written by gen/ag_y.py. Conditions: as each theorem states them. -/
import Derived.Test.YtodcnhodbeakiaaAgX
namespace Go.Proofs.Ytodcnhodbeakiaa
set_option linter.unusedVariables false
set_option linter.unusedSimpArgs false
set_option maxRecDepth 100000
open Go.Conc

theorem waitSeat_has {p cT c : Nat} {more : Addr → Value → Prop} {home : Goroutine → Prop} (h : (waitSeat p cT more home).has c) : c = cT := by
  obtain ⟨k, z, hk⟩ := h
  simp only [waitSeat] at hk
  rcases k with _ | k
  · simp [rcase] at hk; exact hk.1.symm
  · simp at hk
theorem waitSeat_wf {p cT : Nat} {more : Addr → Value → Prop} {home : Goroutine → Prop} : (waitSeat p cT more home).Wf := by
  refine ⟨fun cc hcc => ?_, fun k k' c z z' h1 h2 => ?_⟩
  · simp only [waitSeat, List.mem_toArray, List.mem_cons, List.not_mem_nil, or_false] at hcc
    subst hcc; exact ⟨_, _, rfl⟩
  · simp only [waitSeat] at h1 h2
    rcases k with _ | k <;> rcases k' with _ | k' <;> simp [rcase] at h1 h2
    rfl
/-- Where Step waits. -/
def stepMore (p b0 : Nat) (a : Addr) (v : Value) : Prop := a = ⟨b0, 0, none⟩ ∧ v = .pointer (some ⟨p, 0, none⟩)
def stepHome (p b0 cT cU : Nat) (cs : List Frame) (g : Goroutine) : Prop := g = gor (waitFr Try.prog Try.f41 p cT) (stepWait Try.prog Try.f15 p b0 cU :: cs)

theorem way_step (p b0 cT cU : Nat) (cs : List Frame) (main : Bool) (ops : Array Oper) : Way Try.prog main (waitSeat p cT (stepMore p b0) (stepHome p b0 cT cU cs)) 60
    (gor ((Frame.enter Try.prog 15 #[.pointer (some ⟨p, 0, none⟩)] .normal).at (⟨stepTmps p b0 (.pointer (some ⟨p, 0, none⟩)) (.pointer (some ⟨p, 0, none⟩)) (.pointer (some ⟨p, 2, none⟩)) (.chan (some cU)) (.pointer (some ⟨p, 0, none⟩)) (.nilIface) undef undef, [stepDefer b0]⟩ : Act) (.inRegion ops [] :: [.code (codeR (codeR (codeR (codeR (codeR (codeR (bodyOf Try.f15)))))))])) cs) := by
  have hne : (Frame.enter Try.prog 15 #[.pointer (some ⟨p, 0, none⟩)] CallKind.normal).kind = .normal := rfl
  refine Way.upTo (N := 45) ?_ (by omega)
  refine Way.opsEnd ?_
  simp only [bodyOf, Try.f15, codeR, Option.getD_some]
  refine Way.seq ?_
  refine Way.region ?_
  simp only [List.size_toArray, List.length_cons, List.length_nil, Nat.reduceAdd, List.range, List.range.loop, stepTmps]
  refine Way.look (v := .pointer (some ⟨p, 0, none⟩)) (ad := ⟨b0, 0, none⟩) (x := .pointer (some ⟨p, 0, none⟩)) (.inl hne) rfl rfl (.inr ⟨rfl, rfl⟩) (fun w hc => by rw [Sem.runT_eq]; simp [go_sem, execOp, Act.eval, hc]) ?_
  simp only [Act.put, Act.eval, List.getElem_toArray, List.getElem_cons_zero, List.getElem_cons_succ, List.setIfInBounds_toArray, List.set_cons_succ, List.set_cons_zero]
  refine Way.enter (f := 41) (args := #[.pointer (some ⟨p, 0, none⟩)]) (es := #[]) (.inl hne) rfl rfl (fun e he => by simp at he) (fun w _ => call_enter mild.toMild Try.func41 rfl rfl rfl rfl _ _ (by simp [Act.eval])) ?_
  have hw := way_wait p cT (stepMore p b0) (stepWait Try.prog Try.f15 p b0 cU :: cs) main
  exact hw

section
variable {pl : Nat → Option Place} {n : Nat} {Post : Value → World → Prop} {F : Nat → Option (Nat × Nat)} {w1 : World}

/-- How all stands once the touch has been done. -/
def Done' (pl : Nat → Option Place) (F : Nat → Option (Nat × Nat)) (Ψ : World → Prop) (w1 u : World) : Prop := ∃ w', Ψ w' ∧ Ks (· = w1.heap.size) w' u ∧ Lies pl F u

set_option maxHeartbeats 2000000 in
theorem step_turn (L : Lies pl F w1) {c : Frame} {cs : List Frame} {p b0 cT cU j : Nat} {f : FuncId} {cap : Array Value} {mv : Value} {s : Place} {Ψ : World → Prop} (hb : w1.cell? ⟨b0, 0, none⟩ = some (.pointer (some ⟨p, 0, none⟩))) (h0 : w1.cell? ⟨p, 0, none⟩ = some mv) (h2 : w1.cell? ⟨p, 2, none⟩ = some (.chan (some cU))) (h4 : w1.cell? ⟨p, 4, none⟩ = some (.func (.func f) #[] cap)) {fn : Func} (hfn : Try.prog.funcs[f]? = some fn) (hfb : fn.body.isNone = false)
    (hΨ : ∀ w', Ψ w' → Lies pl F w' ∧ w'.heap[w1.heap.size]? = some (.cells #[.nilIface] 20 (0, 0)) ∧ w'.cell? ⟨p, 0, none⟩ = some mv ∧ w'.cell? ⟨p, 4, none⟩ = some (.func (.func f) #[] cap))
    (hU : ∀ u, Done' pl F Ψ w1 u → u.cell? ⟨b0, 0, none⟩ = some (.pointer (some ⟨p, 0, none⟩)) ∧ u.cell? ⟨p, 2, none⟩ = some (.chan (some cU)) ∧ u.cell? ⟨p, 1, none⟩ = some (.chan (some cT)) ∧ Open cT u)
    (hgo : ∀ (c₁ : Frame) (cs₁ : List Frame), StOK Try.prog c₁ [] → (∀ w', Ψ w' → Win Try.prog Post pl n 0 (gor (c₁.finish (.tuple #[])) cs₁) w') → Win Try.prog Post pl n 0 (gor (Frame.enter Try.prog f (#[mv] ++ cap) .normal) (c₁ :: cs₁)) (w1.alloc (.cells #[.nilIface] 20)))
    (hap : ∀ i s' c, pl i = some s' → s'.has c → c ≠ cT) (hj : pl j = some s) (hk : s.cases[0]? = some (rcase cU .nilIface))
    (hw : ∀ u g₂ d m, Done' pl F Ψ w1 u → s.home g₂ → u.heap[cU]? = some (.chan 0 #[] false m m false) → Win Try.prog Post (moved pl 0 j (some (waitSeat p cT (stepMore p b0) (stepHome p b0 cT cU (c :: cs))))) n j (Go.Conc.served g₂ (commResult s.cases s.shape 0 .nilIface true)) ((u.at d).setChan cU 0 #[] false (m + 1) (m + 1) false)) :
    Win Try.prog Post pl n 0 (gor (stepAt Try.prog Try.f15 p b0) (c :: cs)) w1 := by
  have hne : (Frame.enter Try.prog 15 #[.pointer (some ⟨p, 0, none⟩)] CallKind.normal).kind = .normal := rfl
  have hway := way_step p b0 cT cU (c :: cs) true
  unfold stepAt
  simp only [bodyOf, Try.f15, codeL, codeR, Option.getD_some] at hway ⊢
  refine Win.anyFill (C := World) (Goal := fun c' fr => Win Try.prog Post pl n 0 (gor fr (c :: cs)) c') mixed (by kernel_rfl) (fun _ i => match i with | 0 => .pointer (some ⟨p, 0, none⟩) | 1 => .pointer (some ⟨p, 0, none⟩) | 2 => .pointer (some ⟨p, 2, none⟩) | 3 => .chan (some cU) | 4 => .pointer (some ⟨p, 0, none⟩) | 5 => .nilIface | _ => undef) (fun _ => (⟨stepTmps p b0 (.pointer (some ⟨p, 0, none⟩)) (.pointer (some ⟨p, 0, none⟩)) (.pointer (some ⟨p, 2, none⟩)) (.chan (some cU)) (.pointer (some ⟨p, 0, none⟩)) (.nilIface) undef undef, [stepDefer b0]⟩ : Act)) (fun _ => by simp only [fillAll, stepTmps, List.size_toArray, List.length_cons, List.length_nil, Nat.reduceAdd, List.range, List.range.loop, List.foldl_cons, List.foldl_nil, List.getElem?_toArray, List.getElem?_cons_zero, List.getElem?_cons_succ, Option.bind_some, Option.bind_none, Act.put, List.setIfInBounds_toArray, List.set_cons_succ, List.set_cons_zero]) (fun X c' => (X.getD 5 false = false → c' = w1) ∧ (X.getD 5 false = true → Done' pl F Ψ w1 c') ∧ X.getD 6 false = false) w1 (fun fr hh => hh) ?_ ?_ ⟨fun _ => rfl, fun z => by simp at z, by simp⟩
  · intro X i o hX ho hx hr c' a' L' hJ hcl hL'' hfl e1 e2 hd hn
    have hcell : c'.cell? ⟨b0, 0, none⟩ = some (.pointer (some ⟨p, 0, none⟩)) ∧ c'.cell? ⟨p, 2, none⟩ = some (.chan (some cU)) := by
      cases hx5 : X.getD 5 false with
      | false => rw [hJ.1 hx5]; exact ⟨hb, h2⟩
      | true => exact ⟨(hU _ (hJ.2.1 hx5)).1, (hU _ (hJ.2.1 hx5)).2.1⟩
    obtain ⟨hq0, hq2⟩ := hcell
    rcases i with _ | _ | _ | _ | _ | _ | _ | i
    · obtain rfl := Option.some.inj ho
      have hn0 := hn c' (fun _ _ => rfl) ⟨fun z => hJ.1 (by rw [getD_set_ne false (by decide)] at z; exact z), fun z => hJ.2.1 (by rw [getD_set_ne false (by decide)] at z; exact z), by rw [getD_set_ne false (by decide)]; exact hJ.2.2⟩
      refine Win.op (v := .pointer (some ⟨p, 0, none⟩)) (.inl hne) rfl rfl (fun d => ?_) hn0
      exact ⟨#[⟨.cell ⟨b0, 0, none⟩, false, false⟩], by rw [e1, Sem.runT_eq]; have hc : (World.at c' d).cell? ⟨b0, 0, none⟩ = _ := hq0; generalize World.at c' d = W at hc ⊢; simp [go_sem, execOp, Act.eval, stepTmps, hc], fun e he => by obtain rfl : e = ⟨.cell ⟨b0, 0, none⟩, false, false⟩ := (by simpa using he); exact ⟨rfl, fun m => by simp⟩⟩
    · obtain rfl := Option.some.inj ho
      have hn0 := hn c' (fun _ _ => rfl) ⟨fun z => hJ.1 (by rw [getD_set_ne false (by decide)] at z; exact z), fun z => hJ.2.1 (by rw [getD_set_ne false (by decide)] at z; exact z), by rw [getD_set_ne false (by decide)]; exact hJ.2.2⟩
      refine Win.op (v := .pointer (some ⟨p, 0, none⟩)) (.inl hne) rfl rfl (fun d => ?_) hn0
      exact ⟨#[], by rw [e1, Sem.runT_eq]; simp [go_sem, execOp, Act.eval, stepTmps], fun e he => by simp at he⟩
    · obtain rfl := Option.some.inj ho
      have hn0 := hn c' (fun _ _ => rfl) ⟨fun z => hJ.1 (by rw [getD_set_ne false (by decide)] at z; exact z), fun z => hJ.2.1 (by rw [getD_set_ne false (by decide)] at z; exact z), by rw [getD_set_ne false (by decide)]; exact hJ.2.2⟩
      refine Win.op (v := .pointer (some ⟨p, 2, none⟩)) (.inl hne) rfl rfl (fun d => ?_) hn0
      exact ⟨#[], by rw [e1, Sem.runT_eq]; simp [go_sem, execOp, Act.eval, stepTmps], fun e he => by simp at he⟩
    · obtain rfl := Option.some.inj ho
      have hn0 := hn c' (fun _ _ => rfl) ⟨fun z => hJ.1 (by rw [getD_set_ne false (by decide)] at z; exact z), fun z => hJ.2.1 (by rw [getD_set_ne false (by decide)] at z; exact z), by rw [getD_set_ne false (by decide)]; exact hJ.2.2⟩
      refine Win.op (v := .chan (some cU)) (.inl hne) rfl rfl (fun d => ?_) hn0
      exact ⟨#[⟨.cell ⟨p, 2, none⟩, false, false⟩], by rw [e1, Sem.runT_eq]; have hc : (World.at c' d).cell? ⟨p, 2, none⟩ = _ := hq2; generalize World.at c' d = W at hc ⊢; simp [go_sem, execOp, Act.eval, stepTmps, hc], fun e he => by obtain rfl : e = ⟨.cell ⟨p, 2, none⟩, false, false⟩ := (by simpa using he); exact ⟨rfl, fun m => by simp⟩⟩
    · obtain rfl := Option.some.inj ho
      have hn0 := hn c' (fun _ _ => rfl) ⟨fun z => hJ.1 (by rw [getD_set_ne false (by decide)] at z; exact z), fun z => hJ.2.1 (by rw [getD_set_ne false (by decide)] at z; exact z), by rw [getD_set_ne false (by decide)]; exact hJ.2.2⟩
      refine Win.op (v := .pointer (some ⟨p, 0, none⟩)) (.inl hne) rfl rfl (fun d => ?_) hn0
      exact ⟨#[⟨.cell ⟨b0, 0, none⟩, false, false⟩], by rw [e1, Sem.runT_eq]; have hc : (World.at c' d).cell? ⟨b0, 0, none⟩ = _ := hq0; generalize World.at c' d = W at hc ⊢; simp [go_sem, execOp, Act.eval, stepTmps, hc], fun e he => by obtain rfl : e = ⟨.cell ⟨b0, 0, none⟩, false, false⟩ := (by simpa using he); exact ⟨rfl, fun m => by simp⟩⟩
    · obtain rfl := Option.some.inj ho
      have hx5 : X.getD 5 false = false := by
        have hlt : 5 < X.size := by rw [hX]; decide
        simpa [hlt] using hx
      obtain rfl := hJ.1 hx5
      refine Win.enter (f := 45) (args := #[.pointer (some ⟨p, 0, none⟩)]) (.inl hne) rfl rfl (fun d => ⟨#[], by rw [e1]; exact call_enter mild.toMild Try.func45 rfl rfl rfl rfl _ _ (by simp [Act.eval, stepTmps]), fun e he => by simp at he⟩) ?_
      refine touch_goes L h0 h4 hfn hfb hΨ (fun c₁ hc₁ hgo' => hgo c₁ _ hc₁ hgo') (fun w' w'' hw' hk' hl' => ?_)
      rw [Frame.finish_at]
      exact hn w'' (fun _ _ => rfl) ⟨fun z => (by rw [getD_set_self (by rw [hX]; decide)] at z; cases z), fun _ => ⟨w', hw', hk', hl'⟩, by rw [getD_set_ne false (by decide)]; exact hJ.2.2⟩
    · obtain rfl := Option.some.inj ho
      have g3 := hr { on := 3, ground := Ground.data } (by simp) rfl
      have g5 := hr { on := 5, ground := Ground.data } (by simp) rfl
      have g2 := hcl 3 _ rfl g3 { on := 2, ground := Ground.data } (by simp) rfl
      have g1 := hcl 2 _ rfl g2 { on := 1, ground := Ground.data } (by simp) rfl
      have g0 := hcl 1 _ rfl g1 { on := 0, ground := Ground.data } (by simp) rfl
      have g4 := hcl 5 _ rfl g5 { on := 4, ground := Ground.data } (by simp) rfl
      have hall : ∀ j, j < 7 → (X.setIfInBounds 6 true).getD j false = true := fun j hj7 => by
        rcases j with _ | _ | _ | _ | _ | _ | _ | j
        · rw [getD_set_ne false (by decide)]; exact g0
        · rw [getD_set_ne false (by decide)]; exact g1
        · rw [getD_set_ne false (by decide)]; exact g2
        · rw [getD_set_ne false (by decide)]; exact g3
        · rw [getD_set_ne false (by decide)]; exact g4
        · rw [getD_set_ne false (by decide)]; exact g5
        · exact getD_set_self (by rw [hX]; decide)
        · omega
      have hL := hL'' hall
      have hA := hfl hall
      subst hL
      have hD := hJ.2.1 g5
      obtain ⟨u0, u2, u1, uT⟩ := hU _ hD
      have hput : a' = (⟨stepTmps p b0 (.pointer (some ⟨p, 0, none⟩)) (.pointer (some ⟨p, 0, none⟩)) (.pointer (some ⟨p, 2, none⟩)) (.chan (some cU)) (.pointer (some ⟨p, 0, none⟩)) (.nilIface) undef undef, [stepDefer b0]⟩ : Act) := hA
      subst hput
      refine Win.sends (j := j) (c := cU) (kk := 0) (x := .nilIface) (z := .nilIface) (z' := .tuple #[]) (es := #[]) (pl' := some (waitSeat p cT (stepMore p b0) (stepHome p b0 cT cU (c :: cs)))) (.inl hne) rfl rfl (fun d => ?_) (fun e he => by simp at he) hj hk ⟨waitSeat_wf, fun q hq => ?_, fun i' s' q hi hq hq' => ?_, fun ad v hv => ?_, 60, ?_⟩ (fun g₂ d m hg hcu => hw c' g₂ d m hD hg hcu)
      · rw [Sem.runT_eq]
        generalize World.at c' d = W
        simp [go_sem, execOp, Act.eval, stepTmps]
        try rfl
      · rw [waitSeat_has hq]; exact uT
      · exact hap i' s' q hi hq (waitSeat_has hq')
      · rcases hv with ⟨rfl, rfl⟩ | ⟨rfl, rfl⟩
        · exact u1
        · exact u0
      · exact hway _
    · simp at ho
  · intro X c' hall hJ
    have := hall 6 (by simp)
    rw [hJ.2.2] at this; cases this
end
end Go.Proofs.Ytodcnhodbeakiaa
