/- Package agent, the side of who steps: the way to the wait for the program's next touch, and what is done behind it. Package agent: what is done behind the wait for the program's next touch. Package agent, the side of the program: the way to the wait for its turn. Written by gen/ag_c.py. Package agent, the side of the program: a touch is handed to who steps. Written by gen/ag_d.py. Package agent, the side of the program: behind its turn. Written by gen/ag_e.py. Package agent, the side of the program: a touch, to the wait and from it. Written by gen/ag_f.py. Package agent, the side of the program: Read, to its touch and from it. Written by gen/ag_g.py. Package agent, the side of the program: Write and Update, to their touches and from them. Written by gen/ag_h.py. Package agent, the side of the program: how it begins. Written by gen/ag_i.py. Conditions: as each theorem states them. -/
import Derived.Test.YtnbaiinhalplcaaPg07
import Derived.Test.YtnbaiinhalplcaaPg08
namespace Go.Proofs.Ytnbaiinhalplcaa
open List renaming getElem_toArray → gtA, getElem_cons_zero → gtZ, getElem_cons_succ → gtS, setIfInBounds_toArray → siA, set_cons_succ → scS, set_cons_zero → scZ, getElem?_toArray → gqA, getElem?_cons_zero → gqZ, getElem?_cons_succ → gqS
set_option linter.unusedVariables false
set_option linter.unusedSimpArgs false
set_option maxRecDepth 100000
open Go.Conc

/-- The place of one who waits for the next touch of the agent at p, which comes by cT; 'more': what else it looks at on the way. -/
def waitSeat (p cT : Nat) (more : Addr → Value → Prop) (home : Goroutine → Prop) : Place where
  cases := #[rcase cT .nilFunc]
  shape := .recv true
  home := home
  still a v := (a = ⟨p, 1, none⟩ ∧ v = .chan (some cT)) ∨ more a v

def codeL : Code → Code
  | .seq a _ => a
  | c => c
def codeR : Code → Code
  | .seq _ a => a
  | c => c
def regOps : Code → Array Oper
  | .region _ ops _ => ops
  | _ => #[]
def bodyOf (f : Func) : Code := f.body.getD .skip
/-- Where it stands at its receive. -/
def waitFr (P : Program) (f : Func) (p cT : Nat) : Frame :=
  (Frame.enter P 32 #[.pointer (some ⟨p, 0, none⟩)] .normal).at
    ⟨#[.pointer (some ⟨p, 0, none⟩), undef, undef, undef, undef, .pointer (some ⟨p, 0, none⟩), .pointer (some ⟨p, 0, none⟩), .pointer (some ⟨p, 1, none⟩), .chan (some cT), undef, undef, undef, undef, undef, undef, undef, undef, undef, undef, undef, undef], []⟩
    [.inRegion (regOps (codeL (bodyOf f))) [4, 5, 6, 7, 8, 9], .code (codeR (bodyOf f))]

theorem way_wait (p cT : Nat) (more : Addr → Value → Prop) (cs : List Frame) (main : Bool) : Way Try.prog main (waitSeat p cT more (fun g => g = gor (waitFr Try.prog Try.f32 p cT) cs)) 40 (gor (Frame.enter Try.prog 32 #[.pointer (some ⟨p, 0, none⟩)] .normal) cs) := by
  rw [enter_at Try.func32 rfl]
  refine Way.upTo (N := 30) ?_ (by omega)
  refine Way.seq ?_
  refine Way.region ?_
  have hne : (Frame.enter Try.prog 32 #[Value.pointer (some { block := p, off := 0 })] CallKind.normal).kind = .normal := rfl
  simp only [Try.ntmps32, List.size_toArray, List.length_cons, List.length_nil, Nat.reduceAdd, Nat.reduceSub, Array.replicate_succ, Array.replicate_zero, List.push_toArray, List.append_toArray, List.nil_append, List.cons_append, List.range, List.range.loop]
  refine Way.pure (v := .pointer (some ⟨p, 0, none⟩)) (.inl hne) rfl rfl (fun w => rfl) ?_
  simp only [Act.put, Act.eval, gtA, gtZ, gtS, siA, scS, scZ]
  refine Way.pure (v := .pointer (some ⟨p, 0, none⟩)) (.inl hne) rfl rfl (fun w => by rw [Sem.runT_eq]; simp [go_sem, execOp, Act.eval]) ?_
  simp only [Act.put, Act.eval, gtA, gtZ, gtS, siA, scS, scZ]
  refine Way.pure (v := .pointer (some ⟨p, 1, none⟩)) (.inl hne) rfl rfl (fun w => by rw [Sem.runT_eq]; simp [go_sem, execOp, Act.eval]) ?_
  simp only [Act.put, Act.eval, gtA, gtZ, gtS, siA, scS, scZ]
  refine Way.look (v := .chan (some cT)) (ad := ⟨p, 1, none⟩) (x := .chan (some cT)) (.inl hne) rfl rfl (.inl ⟨rfl, rfl⟩) (fun w hc => by rw [Sem.runT_eq]; simp [go_sem, execOp, Act.eval, hc]) ?_
  simp only [Act.put, Act.eval, gtA, gtZ, gtS, siA, scS, scZ]
  exact Way.upTo (N := 0) (Way.there (es := #[]) (.inl hne) rfl rfl (fun e he => by simp at he) (fun w hw => by rw [Sem.runT_eq]; simp [go_sem, execOp, Act.eval, waitSeat]; rfl) rfl) (by omega)
end Go.Proofs.Ytnbaiinhalplcaa

namespace Go.Proofs.Ytnbaiinhalplcaa
open List renaming getElem_toArray → gtA, getElem_cons_zero → gtZ, getElem_cons_succ → gtS, setIfInBounds_toArray → siA, set_cons_succ → scS, set_cons_zero → scZ, getElem?_toArray → gqA, getElem?_cons_zero → gqZ, getElem?_cons_succ → gqS
set_option linter.unusedVariables false
set_option linter.unusedSimpArgs false
set_option maxRecDepth 100000
open Go.Conc

section
variable {pl : Nat → Option Place} {n h : Nat} {Post : Value → World → Prop} {cs : List Frame} {w : World}

/-- Behind the receive: what came is laid into the agent, and the call is left. -/
theorem wait_back {c : Frame} {p cT : Nat} {next x y : Value} {ok : Bool} (hnx : w.cell? ⟨p, 4, none⟩ = some x) (hov : w.cell? ⟨p, 6, none⟩ = some y) (hf4 : w.frozen? ⟨p, 4, none⟩ = false) (hf6 : w.frozen? ⟨p, 6, none⟩ = false)
    (hn1 : ∀ l, next ≠ .agg l) (hn2 : ∀ l, next ≠ .tuple l) (F4 : Free pl ⟨p, 4, none⟩) (F6 : Free pl ⟨p, 6, none⟩)
    (H : Win Try.prog Post pl n h (gor (c.finish (.tuple #[])) cs) ((w.setCell ⟨p, 4, none⟩ next).setCell ⟨p, 6, none⟩ (.bool !ok))) :
    Win Try.prog Post pl n h (Go.Conc.served (gor (waitFr Try.prog Try.f32 p cT) (c :: cs)) (.tuple #[next, .bool ok])) w := by
  unfold waitFr
  rw [served_gor]
  have hne : (Frame.enter Try.prog 32 #[Value.pointer (some { block := p, off := 0 })] CallKind.normal).kind = .normal := rfl
  simp only [bodyOf, Try.f32, codeL, codeR, regOps, Option.getD_some]
  simp only [Act.put, Act.eval, gqA, gqZ, gqS, Option.bind_some, gtA, gtZ, gtS, siA, scS, scZ]
  refine Win.pureOp (v := .tuple #[next, .bool ok]) (.inl hne) rfl rfl (fun w => rfl) ?_
  simp only [Act.put, Act.eval, gtA, gtZ, gtS, siA, scS, scZ]
  refine Win.pureOp (v := next) (.inl hne) rfl rfl (fun w => by rw [Sem.runT_eq]; simp [go_sem, execOp, Act.eval]) ?_
  simp only [Act.put, Act.eval, gtA, gtZ, gtS, siA, scS, scZ]
  refine Win.pureOp (v := .bool ok) (.inl hne) rfl rfl (fun w => by rw [Sem.runT_eq]; simp [go_sem, execOp, Act.eval]) ?_
  simp only [Act.put, Act.eval, gtA, gtZ, gtS, siA, scS, scZ]
  refine Win.pureOp (v := next) (.inl hne) rfl rfl (fun w => rfl) ?_
  simp only [Act.put, Act.eval, gtA, gtZ, gtS, siA, scS, scZ]
  refine Win.pureOp (v := .bool ok) (.inl hne) rfl rfl (fun w => rfl) ?_
  simp only [Act.put, Act.eval, gtA, gtZ, gtS, siA, scS, scZ]
  refine Win.opsEnd ?_
  refine Win.region ?_
  simp only [List.size_toArray, List.length_cons, List.length_nil, Nat.reduceAdd, List.range, List.range.loop]
  refine Win.pureOp (v := .pointer (some ⟨p, 0, none⟩)) (.inl hne) rfl rfl (fun w => rfl) ?_
  simp only [Act.put, Act.eval, gtA, gtZ, gtS, siA, scS, scZ]
  refine Win.pureOp (v := .pointer (some ⟨p, 0, none⟩)) (.inl hne) rfl rfl (fun w => rfl) ?_
  simp only [Act.put, Act.eval, gtA, gtZ, gtS, siA, scS, scZ]
  refine Win.pureOp (v := next) (.inl hne) rfl rfl (fun w => rfl) ?_
  simp only [Act.put, Act.eval, gtA, gtZ, gtS, siA, scS, scZ]
  refine Win.pureOp (v := .bool ok) (.inl hne) rfl rfl (fun w => rfl) ?_
  simp only [Act.put, Act.eval, gtA, gtZ, gtS, siA, scS, scZ]
  refine Win.pureOp (v := .bool !ok) (.inl hne) rfl rfl (fun w => rfl) ?_
  simp only [Act.put, Act.eval, gtA, gtZ, gtS, siA, scS, scZ]
  refine Win.pureOp (v := .pointer (some ⟨p, 0, none⟩)) (.inl hne) rfl rfl (fun w => by rw [Sem.runT_eq]; simp [go_sem, execOp, Act.eval]) ?_
  simp only [Act.put, Act.eval, gtA, gtZ, gtS, siA, scS, scZ]
  refine Win.pureOp (v := .pointer (some ⟨p, 4, none⟩)) (.inl hne) rfl rfl (fun w => by rw [Sem.runT_eq]; simp [go_sem, execOp, Act.eval]) ?_
  simp only [Act.put, Act.eval, gtA, gtZ, gtS, siA, scS, scZ]
  refine Win.storeOp (ad := ⟨p, 4, none⟩) (x := next) (.inl hne) rfl rfl F4 (fun d => by
    rw [Sem.runT_eq]
    obtain ⟨s1, s2⟩ := store_ok (P := Try.prog) (w := w.at d) (m := .plain) hn1 hn2 (show (w.at d).cell? ⟨p, 4, none⟩ = some x from hnx) (show (w.at d).frozen? ⟨p, 4, none⟩ = false from hf4)
    simp [go_sem, execOp, Act.eval, s1, s2]; try rfl) ?_
  simp only [Act.put, Act.eval, gtA, gtZ, gtS, siA, scS, scZ]
  refine Win.pureOp (v := .pointer (some ⟨p, 0, none⟩)) (.inl hne) rfl rfl (fun w => by rw [Sem.runT_eq]; simp [go_sem, execOp, Act.eval]) ?_
  simp only [Act.put, Act.eval, gtA, gtZ, gtS, siA, scS, scZ]
  refine Win.pureOp (v := .pointer (some ⟨p, 6, none⟩)) (.inl hne) rfl rfl (fun w => by rw [Sem.runT_eq]; simp [go_sem, execOp, Act.eval]) ?_
  simp only [Act.put, Act.eval, gtA, gtZ, gtS, siA, scS, scZ]
  refine Win.storeOp (ad := ⟨p, 6, none⟩) (x := .bool !ok) (.inl hne) rfl rfl F6 (fun d => by
    rw [Sem.runT_eq]
    have hov' : (w.setCell ⟨p, 4, none⟩ next).cell? ⟨p, 6, none⟩ = some y := cell_setCell_ne hov (by simp)
    have hf6' : (w.setCell ⟨p, 4, none⟩ next).frozen? ⟨p, 6, none⟩ = false := by simp [go_sem, hf6]
    obtain ⟨s1, s2⟩ := store_ok (P := Try.prog) (x := .bool !ok) (w := (w.setCell ⟨p, 4, none⟩ next).at d) (m := .plain) (by simp) (by simp) (show ((w.setCell ⟨p, 4, none⟩ next).at d).cell? ⟨p, 6, none⟩ = some y from hov') (show ((w.setCell ⟨p, 4, none⟩ next).at d).frozen? ⟨p, 6, none⟩ = false from hf6')
    have c1 : ((w.setCell ⟨p, 4, none⟩ next).at d).cell? ⟨p, 6, none⟩ = some y := hov'
    have c2 : ((w.setCell ⟨p, 4, none⟩ next).at d).frozen? ⟨p, 6, none⟩ = false := hf6'
    generalize (w.setCell ⟨p, 4, none⟩ next).at d = W at s1 s2 c1 c2 ⊢
    simp [go_sem, execOp, Act.eval, s1, s2, c1, c2]) ?_
  simp only [Act.put]
  refine Win.opsEnd ?_
  refine Win.falls ?_
  exact Win.leave (v := .tuple #[]) rfl rfl hne Try.func32 (fun d => ⟨#[], by rw [Sem.runT_eq]; simp [go_sem, results, Try.f32], fun e he => by simp at he⟩) H
end
end Go.Proofs.Ytnbaiinhalplcaa

namespace Go.Proofs.Ytnbaiinhalplcaa
open List renaming getElem_toArray → gtA, getElem_cons_zero → gtZ, getElem_cons_succ → gtS, setIfInBounds_toArray → siA, set_cons_succ → scS, set_cons_zero → scZ, getElem?_toArray → gqA, getElem?_cons_zero → gqZ, getElem?_cons_succ → gqS
set_option linter.unusedVariables false
set_option linter.unusedSimpArgs false
set_option maxRecDepth 100000
open Go.Conc

/-- The place of a program that waits for its turn: at the agent p's channels cU (its turn) and cS (its end); the memory is m, the box of it b3. -/
def turnSeat (p m b3 cU cS : Nat) (home : Goroutine → Prop) : Place where
  cases := #[rcase cU .nilIface, rcase cS (.agg #[])]
  shape := .select
  home := home
  still a v := (a = ⟨p, 2, none⟩ ∧ v = .chan (some cU)) ∨ (a = ⟨p, 3, none⟩ ∧ v = .chan (some cS)) ∨ (a = ⟨m, 0, none⟩ ∧ v = .pointer (some ⟨p, 0, none⟩)) ∨ (a = ⟨b3, 0, none⟩ ∧ v = .pointer (some ⟨m, 0, none⟩))

/-- What a wait defers. -/
def waitDefer (b3 : Nat) : Deferred := { target := .fn (.func 106) #[.pointer (some ⟨b3, 0, none⟩)], args := #[] }
/-- Where it stands at its select. -/
def turnFr (P : Program) (f : Func) (p m b3 cT cU cS : Nat) (t : Value) : Frame :=
  (Frame.enter P 105 #[.pointer (some ⟨m, 0, none⟩), t] .normal).at ⟨#[.pointer (some ⟨m, 0, none⟩), t, .pointer (some ⟨b3, 0, none⟩), undef, undef, .pointer (some ⟨m, 0, none⟩), .pointer (some ⟨m, 0, none⟩), .pointer (some ⟨m, 1, none⟩), .func (.func 106) #[] #[.pointer (some ⟨b3, 0, none⟩)], .pointer (some ⟨m, 0, none⟩), .pointer (some ⟨m, 0, none⟩), .pointer (some ⟨m, 0, none⟩), .pointer (some ⟨p, 0, none⟩), .pointer (some ⟨p, 0, none⟩), .pointer (some ⟨p, 1, none⟩), .chan (some cT), t, .pointer (some ⟨m, 0, none⟩), .pointer (some ⟨m, 0, none⟩), .pointer (some ⟨m, 0, none⟩), .pointer (some ⟨p, 0, none⟩), .pointer (some ⟨p, 0, none⟩), .pointer (some ⟨p, 2, none⟩), .chan (some cU), .pointer (some ⟨m, 0, none⟩), .pointer (some ⟨m, 0, none⟩), .pointer (some ⟨m, 0, none⟩), .pointer (some ⟨p, 0, none⟩), .pointer (some ⟨p, 0, none⟩), .pointer (some ⟨p, 3, none⟩), .chan (some cS), undef, undef, undef, undef, undef, undef, undef, undef], [waitDefer b3]⟩
    [.inRegion (regOps (codeL (codeR (codeR (codeR (codeR (codeR (bodyOf f)))))))) [0, 1, 2, 3], .code (codeR (codeR (codeR (codeR (codeR (codeR (bodyOf f)))))))]
/-- Where it stands behind its send. -/
def sentFr (P : Program) (f : Func) (p m b3 cT : Nat) (t : Value) : Frame :=
  (Frame.enter P 105 #[.pointer (some ⟨m, 0, none⟩), t] .normal).at ⟨#[.pointer (some ⟨m, 0, none⟩), t, .pointer (some ⟨b3, 0, none⟩), undef, undef, .pointer (some ⟨m, 0, none⟩), .pointer (some ⟨m, 0, none⟩), .pointer (some ⟨m, 1, none⟩), .func (.func 106) #[] #[.pointer (some ⟨b3, 0, none⟩)], .pointer (some ⟨m, 0, none⟩), .pointer (some ⟨m, 0, none⟩), .pointer (some ⟨m, 0, none⟩), .pointer (some ⟨p, 0, none⟩), .pointer (some ⟨p, 0, none⟩), .pointer (some ⟨p, 1, none⟩), .chan (some cT), t, undef, undef, undef, undef, undef, undef, undef, undef, undef, undef, undef, undef, undef, undef, undef, undef, undef, undef, undef, undef, undef, undef], [waitDefer b3]⟩
    [.inRegion (regOps (codeL (codeR (codeR (codeR (bodyOf f)))))) [], .code (codeR (codeR (codeR (codeR (bodyOf f)))))]

theorem way_turn (p m b3 cT cU cS : Nat) (t : Value) (cs : List Frame) (main : Bool) : Way Try.prog main (turnSeat p m b3 cU cS (fun g => g = gor (turnFr Try.prog Try.f105 p m b3 cT cU cS t) cs)) 60 (gor (sentFr Try.prog Try.f105 p m b3 cT t) cs) := by
  have hne : (Frame.enter Try.prog 105 #[.pointer (some ⟨m, 0, none⟩), t] CallKind.normal).kind = .normal := rfl
  refine Way.upTo (N := 50) ?_ (by omega)
  unfold sentFr
  simp only [bodyOf, Try.f105, codeL, codeR, regOps, Option.getD_some]
  refine Way.opsEnd ?_
  refine Way.seq ?_
  refine Way.seq ?_
  refine Way.region ?_
  simp only [List.size_toArray, List.length_cons, List.length_nil, Nat.reduceAdd, List.range, List.range.loop]
  refine Way.look (v := .pointer (some ⟨m, 0, none⟩)) (ad := ⟨b3, 0, none⟩) (x := .pointer (some ⟨m, 0, none⟩)) (.inl hne) rfl rfl (.inr (.inr (.inr ⟨rfl, rfl⟩))) (fun w hc => by rw [Sem.runT_eq]; simp [go_sem, execOp, Act.eval, hc]) ?_
  simp only [Act.put, Act.eval, gtA, gtZ, gtS, siA, scS, scZ]
  refine Way.pure (v := .pointer (some ⟨m, 0, none⟩)) (.inl hne) rfl rfl (fun w => by rw [Sem.runT_eq]; simp [go_sem, execOp, Act.eval]) ?_
  simp only [Act.put, Act.eval, gtA, gtZ, gtS, siA, scS, scZ]
  refine Way.pure (v := .pointer (some ⟨m, 0, none⟩)) (.inl hne) rfl rfl (fun w => by rw [Sem.runT_eq]; simp [go_sem, execOp, Act.eval]) ?_
  simp only [Act.put, Act.eval, gtA, gtZ, gtS, siA, scS, scZ]
  refine Way.look (v := .pointer (some ⟨p, 0, none⟩)) (ad := ⟨m, 0, none⟩) (x := .pointer (some ⟨p, 0, none⟩)) (.inl hne) rfl rfl (.inr (.inr (.inl ⟨rfl, rfl⟩))) (fun w hc => by rw [Sem.runT_eq]; simp [go_sem, execOp, Act.eval, hc]) ?_
  simp only [Act.put, Act.eval, gtA, gtZ, gtS, siA, scS, scZ]
  refine Way.pure (v := .pointer (some ⟨p, 0, none⟩)) (.inl hne) rfl rfl (fun w => by rw [Sem.runT_eq]; simp [go_sem, execOp, Act.eval]) ?_
  simp only [Act.put, Act.eval, gtA, gtZ, gtS, siA, scS, scZ]
  refine Way.pure (v := .pointer (some ⟨p, 2, none⟩)) (.inl hne) rfl rfl (fun w => by rw [Sem.runT_eq]; simp [go_sem, execOp, Act.eval]) ?_
  simp only [Act.put, Act.eval, gtA, gtZ, gtS, siA, scS, scZ]
  refine Way.look (v := .chan (some cU)) (ad := ⟨p, 2, none⟩) (x := .chan (some cU)) (.inl hne) rfl rfl (.inl ⟨rfl, rfl⟩) (fun w hc => by rw [Sem.runT_eq]; simp [go_sem, execOp, Act.eval, hc]) ?_
  simp only [Act.put, Act.eval, gtA, gtZ, gtS, siA, scS, scZ]
  refine Way.opsEnd ?_
  refine Way.region ?_
  simp only [List.size_toArray, List.length_cons, List.length_nil, Nat.reduceAdd, List.range, List.range.loop]
  refine Way.look (v := .pointer (some ⟨m, 0, none⟩)) (ad := ⟨b3, 0, none⟩) (x := .pointer (some ⟨m, 0, none⟩)) (.inl hne) rfl rfl (.inr (.inr (.inr ⟨rfl, rfl⟩))) (fun w hc => by rw [Sem.runT_eq]; simp [go_sem, execOp, Act.eval, hc]) ?_
  simp only [Act.put, Act.eval, gtA, gtZ, gtS, siA, scS, scZ]
  refine Way.pure (v := .pointer (some ⟨m, 0, none⟩)) (.inl hne) rfl rfl (fun w => by rw [Sem.runT_eq]; simp [go_sem, execOp, Act.eval]) ?_
  simp only [Act.put, Act.eval, gtA, gtZ, gtS, siA, scS, scZ]
  refine Way.pure (v := .pointer (some ⟨m, 0, none⟩)) (.inl hne) rfl rfl (fun w => by rw [Sem.runT_eq]; simp [go_sem, execOp, Act.eval]) ?_
  simp only [Act.put, Act.eval, gtA, gtZ, gtS, siA, scS, scZ]
  refine Way.look (v := .pointer (some ⟨p, 0, none⟩)) (ad := ⟨m, 0, none⟩) (x := .pointer (some ⟨p, 0, none⟩)) (.inl hne) rfl rfl (.inr (.inr (.inl ⟨rfl, rfl⟩))) (fun w hc => by rw [Sem.runT_eq]; simp [go_sem, execOp, Act.eval, hc]) ?_
  simp only [Act.put, Act.eval, gtA, gtZ, gtS, siA, scS, scZ]
  refine Way.pure (v := .pointer (some ⟨p, 0, none⟩)) (.inl hne) rfl rfl (fun w => by rw [Sem.runT_eq]; simp [go_sem, execOp, Act.eval]) ?_
  simp only [Act.put, Act.eval, gtA, gtZ, gtS, siA, scS, scZ]
  refine Way.pure (v := .pointer (some ⟨p, 3, none⟩)) (.inl hne) rfl rfl (fun w => by rw [Sem.runT_eq]; simp [go_sem, execOp, Act.eval]) ?_
  simp only [Act.put, Act.eval, gtA, gtZ, gtS, siA, scS, scZ]
  refine Way.look (v := .chan (some cS)) (ad := ⟨p, 3, none⟩) (x := .chan (some cS)) (.inl hne) rfl rfl (.inr (.inl ⟨rfl, rfl⟩)) (fun w hc => by rw [Sem.runT_eq]; simp [go_sem, execOp, Act.eval, hc]) ?_
  simp only [Act.put, Act.eval, gtA, gtZ, gtS, siA, scS, scZ]
  refine Way.opsEnd ?_
  refine Way.seq ?_
  refine Way.region ?_
  simp only [List.size_toArray, List.length_cons, List.length_nil, Nat.reduceAdd, List.range, List.range.loop]
  exact Way.upTo (N := 0) (Way.there (es := #[]) (.inl hne) rfl rfl (fun e he => by simp at he) (fun w hw => by rw [Sem.runT_eq]; simp [go_sem, execOp, Act.eval, turnSeat]; exact ⟨rfl, rfl⟩) rfl) (by omega)
end Go.Proofs.Ytnbaiinhalplcaa

namespace Go.Proofs.Ytnbaiinhalplcaa
open List renaming getElem_toArray → gtA, getElem_cons_zero → gtZ, getElem_cons_succ → gtS, setIfInBounds_toArray → siA, set_cons_succ → scS, set_cons_zero → scZ, getElem?_toArray → gqA, getElem?_cons_zero → gqZ, getElem?_cons_succ → gqS
set_option linter.unusedVariables false
set_option linter.unusedSimpArgs false
set_option maxRecDepth 100000
open Go.Conc

section
variable {pl : Nat → Option Place} {n h : Nat} {Post : Value → World → Prop} {w : World} {F : Nat → Option (Nat × Nat)}

/-- The box of the memory, made; the memory runs no more. -/
def handed (w : World) (m : Nat) : World := (w.alloc (.cells #[.pointer (some ⟨m, 0, none⟩)] 107)).setCell ⟨m, 1, none⟩ (.bool false)

theorem wait_hands (L : Lies pl F w) {c : Frame} {cs : List Frame} {p m cT cU cS j : Nat} {t x : Value} {more : Addr → Value → Prop} {home : Goroutine → Prop}
    (hm0 : w.cell? ⟨m, 0, none⟩ = some (.pointer (some ⟨p, 0, none⟩))) (hm1 : w.cell? ⟨m, 1, none⟩ = some x) (hf1 : w.frozen? ⟨m, 1, none⟩ = false) (hp1 : w.cell? ⟨p, 1, none⟩ = some (.chan (some cT)))
    (hp2 : w.cell? ⟨p, 2, none⟩ = some (.chan (some cU))) (hp3 : w.cell? ⟨p, 3, none⟩ = some (.chan (some cS))) (F1 : Free pl ⟨m, 1, none⟩) (hpm : p ≠ m) (hj : pl j = some (waitSeat p cT more home))
    (hR : Rests Try.prog pl h (handed w m) (gor (sentFr Try.prog Try.f105 p m w.heap.size cT t) (c :: cs)) (some (turnSeat p m w.heap.size cU cS (fun g => g = gor (turnFr Try.prog Try.f105 p m w.heap.size cT cU cS t) (c :: cs)))))
    (hw : ∀ g₂ d k, home g₂ → (handed w m).heap[cT]? = some (.chan 0 #[] false k k false) →
      Win Try.prog Post (moved pl h j (some (turnSeat p m w.heap.size cU cS (fun g => g = gor (turnFr Try.prog Try.f105 p m w.heap.size cT cU cS t) (c :: cs))))) n j (Go.Conc.served g₂ (.tuple #[t, .bool true])) (((handed w m).at d).setChan cT 0 #[] false (k + 1) (k + 1) false)) :
    Win Try.prog Post pl n h (gor (Frame.enter Try.prog 105 #[.pointer (some ⟨m, 0, none⟩), t] .normal) (c :: cs)) w := by
  have hne : (Frame.enter Try.prog 105 #[.pointer (some ⟨m, 0, none⟩), t] CallKind.normal).kind = .normal := rfl
  obtain ⟨b3, hb3⟩ : ∃ b3, b3 = w.heap.size := ⟨_, rfl⟩
  rw [enter_at Try.func105 rfl]
  simp only [Try.ntmps105, List.size_toArray, List.length_cons, List.length_nil, Nat.reduceAdd, Nat.reduceSub, Array.replicate_succ, Array.replicate_zero, List.push_toArray, List.append_toArray, List.nil_append, List.cons_append]
  refine Win.seq ?_
  refine Win.region ?_
  simp only [List.size_toArray, List.length_cons, List.length_nil, Nat.reduceAdd, List.range, List.range.loop]
  refine Win.makeOp (v := .pointer (some ⟨b3, 0, none⟩)) (ob := .cells #[.pointer (some ⟨m, 0, none⟩)] 107) (es := #[]) L (.inl hne) rfl rfl (fun d => by
    rw [Sem.runT_eq]; subst hb3
    simp [go_sem, execOp, Act.eval]
    try rfl) (fun e he => by simp at he) ?_
  simp only [Act.put, Act.eval, gtA, gtZ, gtS, siA, scS, scZ]
  have hlt0 : m < w.heap.size := by
    unfold World.cell? at hm0
    cases hh : w.heap[m]? with
    | none => simp [hh] at hm0
    | some _ => exact (Array.getElem?_eq_some_iff.1 hh).1
  have hB : (w.alloc (.cells #[.pointer (some ⟨m, 0, none⟩)] 107)).cell? ⟨b3, 0, none⟩ = some (.pointer (some ⟨m, 0, none⟩)) := by subst hb3; exact alloc_box w _ _ _
  have hM0 := alloc_cell w (.cells #[.pointer (some ⟨m, 0, none⟩)] 107) hm0
  have hM1 := alloc_cell w (.cells #[.pointer (some ⟨m, 0, none⟩)] 107) hm1
  have hP1 := alloc_cell w (.cells #[.pointer (some ⟨m, 0, none⟩)] 107) hp1
  have hF1 : (w.alloc (.cells #[.pointer (some ⟨m, 0, none⟩)] 107)).frozen? ⟨m, 1, none⟩ = false := by
    unfold World.frozen? at hf1 ⊢
    rw [alloc_heap w _ _ hlt0]; exact hf1
  unfold handed at hR hw
  generalize w.alloc (.cells #[.pointer (some ⟨m, 0, none⟩)] 107) = w1 at hB hM0 hM1 hP1 hF1 hR hw ⊢
  refine Win.opsEnd ?_
  refine Win.seq ?_
  refine Win.region ?_
  simp only [List.size_toArray, List.length_cons, List.length_nil, Nat.reduceAdd, List.range, List.range.loop]
  refine Win.lookOp (v := .pointer (some ⟨m, 0, none⟩)) (ad := ⟨b3, 0, none⟩) (x := .pointer (some ⟨m, 0, none⟩)) (.inl hne) rfl rfl (hB) (fun w hc => by rw [Sem.runT_eq]; simp [go_sem, execOp, Act.eval, hc]) ?_
  simp only [Act.put, Act.eval, gtA, gtZ, gtS, siA, scS, scZ]
  refine Win.pureOp (v := .pointer (some ⟨m, 0, none⟩)) (.inl hne) rfl rfl (fun w => by rw [Sem.runT_eq]; simp [go_sem, execOp, Act.eval]) ?_
  simp only [Act.put, Act.eval, gtA, gtZ, gtS, siA, scS, scZ]
  refine Win.pureOp (v := .pointer (some ⟨m, 1, none⟩)) (.inl hne) rfl rfl (fun w => by rw [Sem.runT_eq]; simp [go_sem, execOp, Act.eval]) ?_
  simp only [Act.put, Act.eval, gtA, gtZ, gtS, siA, scS, scZ]
  refine Win.storeOp (ad := ⟨m, 1, none⟩) (x := .bool false) (.inl hne) rfl rfl F1 (fun d => by
    rw [Sem.runT_eq]
    obtain ⟨s1, s2⟩ := store_ok (P := Try.prog) (x := .bool false) (w := w1.at d) (m := .plain) (by simp) (by simp) (show (w1.at d).cell? ⟨m, 1, none⟩ = some x from hM1) (show (w1.at d).frozen? ⟨m, 1, none⟩ = false from hF1)
    have c1 : (w1.at d).cell? ⟨m, 1, none⟩ = some x := hM1
    have c2 : (w1.at d).frozen? ⟨m, 1, none⟩ = false := hF1
    generalize w1.at d = W at s1 s2 c1 c2 ⊢
    simp [go_sem, execOp, Act.eval, s1, s2, c1, c2]) ?_
  simp only [Act.put, Act.eval, gtA, gtZ, gtS, siA, scS, scZ]
  have hB2 := cell_setCell_ne (ad := ⟨m, 1, none⟩) (x := .bool false) hB (by simp)
  have hM2 := cell_setCell_ne (ad := ⟨m, 1, none⟩) (x := .bool false) hM0 (by simp)
  have hP2 := cell_setCell_ne (ad := ⟨m, 1, none⟩) (x := .bool false) hP1 (by simpa using hpm)
  generalize w1.setCell ⟨m, 1, none⟩ (.bool false) = w2 at hB2 hM2 hP2 hR hw ⊢
  refine Win.opsEnd ?_
  refine Win.seq ?_
  refine Win.region ?_
  simp only [List.size_toArray, List.length_cons, List.length_nil, Nat.reduceAdd, List.range, List.range.loop]
  refine Win.pureOp (v := .func (.func 106) #[] #[.pointer (some ⟨b3, 0, none⟩)]) (.inl hne) rfl rfl (fun w => by rw [Sem.runT_eq]; simp [go_sem, execOp, Act.eval]; exact ⟨rfl, rfl⟩) ?_
  simp only [Act.put, Act.eval, gtA, gtZ, gtS, siA, scS, scZ]
  refine Win.defers (d₀ := waitDefer b3) (.inl hne) rfl rfl (fun d => ⟨#[], by rw [Sem.runT_eq]; simp [go_sem, execOp, Act.eval, waitDefer], fun e he => by simp at he⟩) ?_
  simp only [Act.put, Act.eval, gtA, gtZ, gtS, siA, scS, scZ]
  refine Win.opsEnd ?_
  refine Win.seq ?_
  refine Win.region ?_
  simp only [List.size_toArray, List.length_cons, List.length_nil, Nat.reduceAdd, List.range, List.range.loop]
  refine Win.lookOp (v := .pointer (some ⟨m, 0, none⟩)) (ad := ⟨b3, 0, none⟩) (x := .pointer (some ⟨m, 0, none⟩)) (.inl hne) rfl rfl (hB2) (fun w hc => by rw [Sem.runT_eq]; simp [go_sem, execOp, Act.eval, hc]) ?_
  simp only [Act.put, Act.eval, gtA, gtZ, gtS, siA, scS, scZ]
  refine Win.pureOp (v := .pointer (some ⟨m, 0, none⟩)) (.inl hne) rfl rfl (fun w => by rw [Sem.runT_eq]; simp [go_sem, execOp, Act.eval]) ?_
  simp only [Act.put, Act.eval, gtA, gtZ, gtS, siA, scS, scZ]
  refine Win.pureOp (v := .pointer (some ⟨m, 0, none⟩)) (.inl hne) rfl rfl (fun w => by rw [Sem.runT_eq]; simp [go_sem, execOp, Act.eval]) ?_
  simp only [Act.put, Act.eval, gtA, gtZ, gtS, siA, scS, scZ]
  refine Win.lookOp (v := .pointer (some ⟨p, 0, none⟩)) (ad := ⟨m, 0, none⟩) (x := .pointer (some ⟨p, 0, none⟩)) (.inl hne) rfl rfl (hM2) (fun w hc => by rw [Sem.runT_eq]; simp [go_sem, execOp, Act.eval, hc]) ?_
  simp only [Act.put, Act.eval, gtA, gtZ, gtS, siA, scS, scZ]
  refine Win.pureOp (v := .pointer (some ⟨p, 0, none⟩)) (.inl hne) rfl rfl (fun w => by rw [Sem.runT_eq]; simp [go_sem, execOp, Act.eval]) ?_
  simp only [Act.put, Act.eval, gtA, gtZ, gtS, siA, scS, scZ]
  refine Win.pureOp (v := .pointer (some ⟨p, 1, none⟩)) (.inl hne) rfl rfl (fun w => by rw [Sem.runT_eq]; simp [go_sem, execOp, Act.eval]) ?_
  simp only [Act.put, Act.eval, gtA, gtZ, gtS, siA, scS, scZ]
  refine Win.lookOp (v := .chan (some cT)) (ad := ⟨p, 1, none⟩) (x := .chan (some cT)) (.inl hne) rfl rfl (hP2) (fun w hc => by rw [Sem.runT_eq]; simp [go_sem, execOp, Act.eval, hc]) ?_
  simp only [Act.put, Act.eval, gtA, gtZ, gtS, siA, scS, scZ]
  refine Win.pureOp (v := t) (.inl hne) rfl rfl (fun w => by rw [Sem.runT_eq]; simp [go_sem, execOp, Act.eval]) ?_
  simp only [Act.put, Act.eval, gtA, gtZ, gtS, siA, scS, scZ]
  subst hb3
  refine Win.sends (s := waitSeat p cT more home) (c := cT) (kk := 0) (x := t) (z := .nilFunc) (es := #[]) (.inl hne) rfl rfl (fun d => by rw [Sem.runT_eq]; simp [go_sem, execOp, Act.eval]; rfl) (fun e he => by simp at he) hj rfl hR ?_
  intro g₂ d k hg hk
  exact hw g₂ d k hg hk
end
end Go.Proofs.Ytnbaiinhalplcaa

namespace Go.Proofs.Ytnbaiinhalplcaa
open List renaming getElem_toArray → gtA, getElem_cons_zero → gtZ, getElem_cons_succ → gtS, setIfInBounds_toArray → siA, set_cons_succ → scS, set_cons_zero → scZ, getElem?_toArray → gqA, getElem?_cons_zero → gqZ, getElem?_cons_succ → gqS
set_option linter.unusedVariables false
set_option linter.unusedSimpArgs false
set_option maxRecDepth 100000
open Go.Conc

section
variable {pl : Nat → Option Place} {n h : Nat} {Post : Value → World → Prop} {w : World}

/-- A wait that has come to its end: the memory runs again, the call is left. -/
theorem wait_leaves {fr c : Frame} {cs : List Frame} {m b3 : Nat} {x : Value} (hm : fr.mode = .returning) (hd : fr.defers = [waitDefer b3]) (hk : fr.kind = .normal) (hf : fr.fn = 105)
    (hb : w.cell? ⟨b3, 0, none⟩ = some (.pointer (some ⟨m, 0, none⟩))) (hm1 : w.cell? ⟨m, 1, none⟩ = some x) (hf1 : w.frozen? ⟨m, 1, none⟩ = false) (F1 : Free pl ⟨m, 1, none⟩)
    (H : Win Try.prog Post pl n h (gor (c.finish (.tuple #[])) cs) (w.setCell ⟨m, 1, none⟩ (.bool true))) : Win Try.prog Post pl n h (gor fr (c :: cs)) w := by
  refine Win.callsDeferred (d₀ := waitDefer b3) (ds := []) (f := 106) (args := #[.pointer (some ⟨b3, 0, none⟩)]) (by rw [hm]; simp) hd trivial (by simp [waitDefer]) (fun d => ⟨#[], invoke_enter mild.toMild Try.func106 rfl _ _ _ _, fun e he => by simp at he⟩) ?_
  have hne : (Frame.enter Try.prog 106 #[.pointer (some ⟨b3, 0, none⟩)] CallKind.deferred).kind = .deferred := rfl
  rw [enter_at Try.func106 rfl]
  simp only [Try.ntmps106, List.size_toArray, List.length_cons, List.length_nil, Nat.reduceAdd, Nat.reduceSub, Array.replicate_succ, Array.replicate_zero, List.push_toArray, List.append_toArray, List.nil_append, List.cons_append]
  refine Win.region ?_
  simp only [List.size_toArray, List.length_cons, List.length_nil, Nat.reduceAdd, List.range, List.range.loop]
  refine Win.lookOp (v := .pointer (some ⟨m, 0, none⟩)) (ad := ⟨b3, 0, none⟩) (x := .pointer (some ⟨m, 0, none⟩)) (.inr hne) rfl rfl (hb) (fun w hc => by rw [Sem.runT_eq]; simp [go_sem, execOp, Act.eval, hc]) ?_
  simp only [Act.put, Act.eval, gtA, gtZ, gtS, siA, scS, scZ]
  refine Win.pureOp (v := .pointer (some ⟨m, 0, none⟩)) (.inr hne) rfl rfl (fun w => by rw [Sem.runT_eq]; simp [go_sem, execOp, Act.eval]) ?_
  simp only [Act.put, Act.eval, gtA, gtZ, gtS, siA, scS, scZ]
  refine Win.pureOp (v := .pointer (some ⟨m, 1, none⟩)) (.inr hne) rfl rfl (fun w => by rw [Sem.runT_eq]; simp [go_sem, execOp, Act.eval]) ?_
  simp only [Act.put, Act.eval, gtA, gtZ, gtS, siA, scS, scZ]
  refine Win.storeOp (ad := ⟨m, 1, none⟩) (x := .bool true) (.inr hne) rfl rfl F1 (fun d => by
    rw [Sem.runT_eq]
    obtain ⟨s1, s2⟩ := store_ok (P := Try.prog) (x := .bool true) (w := w.at d) (m := .plain) (by simp) (by simp) (show (w.at d).cell? ⟨m, 1, none⟩ = some x from hm1) (show (w.at d).frozen? ⟨m, 1, none⟩ = false from hf1)
    have c1 : (w.at d).cell? ⟨m, 1, none⟩ = some x := hm1
    have c2 : (w.at d).frozen? ⟨m, 1, none⟩ = false := hf1
    generalize w.at d = W at s1 s2 c1 c2 ⊢
    simp [go_sem, execOp, Act.eval, s1, s2, c1, c2]) ?_
  simp only [Act.put, Act.eval, gtA, gtZ, gtS, siA, scS, scZ]
  refine Win.opsEnd ?_
  refine Win.falls ?_
  refine Win.leaveDeferred (v := .tuple #[]) rfl rfl hne Try.func106 (fun d => ⟨#[], by rw [Sem.runT_eq]; simp [go_sem, results, Try.f106], fun e he => by simp at he⟩) (fun v' g older => by simp [hm]) ?_
  exact Win.leave (v := .tuple #[]) hm rfl hk (by show Try.prog.funcs[fr.fn]? = _; rw [hf]; exact Try.func105) (fun d => ⟨#[], by rw [Sem.runT_eq]; simp [go_sem, results, Try.f105], fun e he => by simp at he⟩) H

/-- Behind a turn that threw nothing. -/
theorem turn_back {c : Frame} {cs : List Frame} {p m b3 cT cU cS : Nat} {t x : Value}
    (hb : w.cell? ⟨b3, 0, none⟩ = some (.pointer (some ⟨m, 0, none⟩))) (hm1 : w.cell? ⟨m, 1, none⟩ = some x) (hf1 : w.frozen? ⟨m, 1, none⟩ = false) (F1 : Free pl ⟨m, 1, none⟩)
    (H : Win Try.prog Post pl n h (gor (c.finish (.tuple #[])) cs) (w.setCell ⟨m, 1, none⟩ (.bool true))) :
    Win Try.prog Post pl n h (Go.Conc.served (gor (turnFr Try.prog Try.f105 p m b3 cT cU cS t) (c :: cs)) (.tuple #[.int .i64 0, .bool true, .nilIface, .agg #[]])) w := by
  unfold turnFr
  rw [served_gor]
  have hne : (Frame.enter Try.prog 105 #[.pointer (some ⟨m, 0, none⟩), t] CallKind.normal).kind = .normal := rfl
  simp only [bodyOf, Try.f105, codeL, codeR, regOps, Option.getD_some]
  simp only [Act.put, Act.eval, gqA, gqZ, gqS, Option.bind_some, gtA, gtZ, gtS, siA, scS, scZ]
  refine Win.pureOp (v := .int .i64 0) (.inl hne) rfl rfl (fun w => by rw [Sem.runT_eq]; simp [go_sem, execOp, Act.eval]) ?_
  simp only [Act.put, Act.eval, gtA, gtZ, gtS, siA, scS, scZ]
  refine Win.pureOp (v := .bool true) (.inl hne) rfl rfl (fun w => by rw [Sem.runT_eq]; simp [go_sem, execOp, Act.eval]) ?_
  simp only [Act.put, Act.eval, gtA, gtZ, gtS, siA, scS, scZ]
  refine Win.pureOp (v := .bool false) (.inl hne) rfl rfl (fun w => by rw [Sem.runT_eq]; simp [go_sem, execOp, Act.eval]) ?_
  simp only [Act.put, Act.eval, gtA, gtZ, gtS, siA, scS, scZ]
  refine Win.opsEnd ?_
  refine Win.block ?_
  refine Win.cond (t := true) rfl ?_
  simp only [if_true]
  refine Win.seq ?_
  refine Win.region ?_
  simp only [List.size_toArray, List.length_cons, List.length_nil, Nat.reduceAdd, List.range, List.range.loop]
  refine Win.pureOp (v := .nilIface) (.inl hne) rfl rfl (fun w => by rw [Sem.runT_eq]; simp [go_sem, execOp, Act.eval]) ?_
  simp only [Act.put, Act.eval, gtA, gtZ, gtS, siA, scS, scZ]
  refine Win.pureOp (v := .nilIface) (.inl hne) rfl rfl (fun w => rfl) ?_
  simp only [Act.put, Act.eval, gtA, gtZ, gtS, siA, scS, scZ]
  refine Win.opsEnd ?_
  refine Win.seq ?_
  refine Win.region ?_
  simp only [List.size_toArray, List.length_cons, List.length_nil, Nat.reduceAdd, List.range, List.range.loop]
  refine Win.pureOp (v := .nilIface) (.inl hne) rfl rfl (fun w => rfl) ?_
  simp only [Act.put, Act.eval, gtA, gtZ, gtS, siA, scS, scZ]
  refine Win.pureOp (v := .bool false) (.inl hne) rfl rfl (fun w => by rw [Sem.runT_eq]; simp [go_sem, execOp, Act.eval]; rfl) ?_
  simp only [Act.put, Act.eval, gtA, gtZ, gtS, siA, scS, scZ]
  refine Win.opsEnd ?_
  refine Win.cond (t := false) rfl ?_
  simp only [if_false, Bool.false_eq_true]
  refine Win.skip ?_
  refine Win.inBlock ?_
  refine Win.falls ?_
  exact wait_leaves rfl rfl hne rfl hb hm1 hf1 F1 H
/-- Behind the stop. -/
theorem stop_back {c : Frame} {cs : List Frame} {p m b3 cT cU cS : Nat} {t x : Value}
    (hb : w.cell? ⟨b3, 0, none⟩ = some (.pointer (some ⟨m, 0, none⟩))) (hm1 : w.cell? ⟨m, 1, none⟩ = some x) (hf1 : w.frozen? ⟨m, 1, none⟩ = false) (F1 : Free pl ⟨m, 1, none⟩)
    (H : Win Try.prog Post pl n h (gor (c.finish (.tuple #[])) cs) (w.setCell ⟨m, 1, none⟩ (.bool true))) :
    Win Try.prog Post pl n h (Go.Conc.served (gor (turnFr Try.prog Try.f105 p m b3 cT cU cS t) (c :: cs)) (.tuple #[.int .i64 1, .bool false, .nilIface, .agg #[]])) w := by
  unfold turnFr
  rw [served_gor]
  have hne : (Frame.enter Try.prog 105 #[.pointer (some ⟨m, 0, none⟩), t] CallKind.normal).kind = .normal := rfl
  simp only [bodyOf, Try.f105, codeL, codeR, regOps, Option.getD_some]
  simp only [Act.put, Act.eval, gqA, gqZ, gqS, Option.bind_some, gtA, gtZ, gtS, siA, scS, scZ]
  refine Win.pureOp (v := .int .i64 1) (.inl hne) rfl rfl (fun w => by rw [Sem.runT_eq]; simp [go_sem, execOp, Act.eval]) ?_
  simp only [Act.put, Act.eval, gtA, gtZ, gtS, siA, scS, scZ]
  refine Win.pureOp (v := .bool false) (.inl hne) rfl rfl (fun w => by rw [Sem.runT_eq]; simp [go_sem, execOp, Act.eval]) ?_
  simp only [Act.put, Act.eval, gtA, gtZ, gtS, siA, scS, scZ]
  refine Win.pureOp (v := .bool true) (.inl hne) rfl rfl (fun w => by rw [Sem.runT_eq]; simp [go_sem, execOp, Act.eval]) ?_
  simp only [Act.put, Act.eval, gtA, gtZ, gtS, siA, scS, scZ]
  refine Win.opsEnd ?_
  refine Win.block ?_
  refine Win.cond (t := false) rfl ?_
  simp only [if_false, Bool.false_eq_true]
  refine Win.cond (t := true) rfl ?_
  simp only [if_true]
  refine Win.skip ?_
  refine Win.inBlock ?_
  refine Win.falls ?_
  exact wait_leaves rfl rfl hne rfl hb hm1 hf1 F1 H
end
end Go.Proofs.Ytnbaiinhalplcaa

namespace Go.Proofs.Ytnbaiinhalplcaa
open List renaming getElem_toArray → gtA, getElem_cons_zero → gtZ, getElem_cons_succ → gtS, setIfInBounds_toArray → siA, set_cons_succ → scS, set_cons_zero → scZ, getElem?_toArray → gqA, getElem?_cons_zero → gqZ, getElem?_cons_succ → gqS
set_option linter.unusedVariables false
set_option linter.unusedSimpArgs false
set_option maxRecDepth 100000
open Go.Conc

def condT : Code → Code
  | .cond _ a _ => a
  | c => c
/-- Where a touch stands while it waits. -/
def touchFr (P : Program) (f : Func) (p m : Nat) (t : Value) : Frame :=
  (Frame.enter P 101 #[.pointer (some ⟨m, 0, none⟩), t] .normal).at ⟨#[.pointer (some ⟨m, 0, none⟩), t, undef, undef, .pointer (some ⟨m, 0, none⟩), .pointer (some ⟨m, 0, none⟩), .pointer (some ⟨m, 1, none⟩), .bool true, .bool true, .pointer (some ⟨m, 0, none⟩), .pointer (some ⟨m, 0, none⟩), .pointer (some ⟨m, 0, none⟩), .pointer (some ⟨p, 0, none⟩), .pointer (some ⟨p, 0, none⟩), .pointer (some ⟨p, 6, none⟩), .bool false, .bool true, .bool true, .pointer (some ⟨m, 0, none⟩), t, undef, undef, undef, undef, undef, undef, undef, undef, undef, undef, undef, undef, undef, undef, undef, undef], []⟩ [.inRegion (regOps (condT (codeR (codeL (bodyOf f))))) [2], .code (codeR (bodyOf f))]

section
variable {pl : Nat → Option Place} {n h : Nat} {Post : Value → World → Prop} {w : World}

theorem mtouch_in {c : Frame} {cs : List Frame} {p m : Nat} {t : Value} (hm0 : w.cell? ⟨m, 0, none⟩ = some (.pointer (some ⟨p, 0, none⟩))) (hm1 : w.cell? ⟨m, 1, none⟩ = some (.bool true)) (hp6 : w.cell? ⟨p, 6, none⟩ = some (.bool false))
    (H : Win Try.prog Post pl n h (gor (Frame.enter Try.prog 105 #[.pointer (some ⟨m, 0, none⟩), t] .normal) (touchFr Try.prog Try.f101 p m t :: c :: cs)) w) :
    Win Try.prog Post pl n h (gor (Frame.enter Try.prog 101 #[.pointer (some ⟨m, 0, none⟩), t] .normal) (c :: cs)) w := by
  have hne : (Frame.enter Try.prog 101 #[.pointer (some ⟨m, 0, none⟩), t] CallKind.normal).kind = .normal := rfl
  rw [enter_at Try.func101 rfl]
  simp only [Try.ntmps101, List.size_toArray, List.length_cons, List.length_nil, Nat.reduceAdd, Nat.reduceSub, Array.replicate_succ, Array.replicate_zero, List.push_toArray, List.append_toArray, List.nil_append, List.cons_append]
  refine Win.seq ?_
  refine Win.seq ?_
  refine Win.region ?_
  simp only [List.size_toArray, List.length_cons, List.length_nil, Nat.reduceAdd, List.range, List.range.loop]
  refine Win.pureOp (v := .pointer (some ⟨m, 0, none⟩)) (.inl hne) rfl rfl (fun w => rfl) ?_
  simp only [Act.put, Act.eval, gtA, gtZ, gtS, siA, scS, scZ]
  refine Win.pureOp (v := .pointer (some ⟨m, 0, none⟩)) (.inl hne) rfl rfl (fun w => by rw [Sem.runT_eq]; simp [go_sem, execOp, Act.eval]) ?_
  simp only [Act.put, Act.eval, gtA, gtZ, gtS, siA, scS, scZ]
  refine Win.pureOp (v := .pointer (some ⟨m, 1, none⟩)) (.inl hne) rfl rfl (fun w => by rw [Sem.runT_eq]; simp [go_sem, execOp, Act.eval]) ?_
  simp only [Act.put, Act.eval, gtA, gtZ, gtS, siA, scS, scZ]
  refine Win.lookOp (v := .bool true) (ad := ⟨m, 1, none⟩) (x := .bool true) (.inl hne) rfl rfl (hm1) (fun w hc => by rw [Sem.runT_eq]; simp [go_sem, execOp, Act.eval, hc]) ?_
  simp only [Act.put, Act.eval, gtA, gtZ, gtS, siA, scS, scZ]
  refine Win.pureOp (v := .bool true) (.inl hne) rfl rfl (fun w => rfl) ?_
  simp only [Act.put, Act.eval, gtA, gtZ, gtS, siA, scS, scZ]
  refine Win.pureOp (v := .pointer (some ⟨m, 0, none⟩)) (.inl hne) rfl rfl (fun w => rfl) ?_
  simp only [Act.put, Act.eval, gtA, gtZ, gtS, siA, scS, scZ]
  refine Win.pureOp (v := .pointer (some ⟨m, 0, none⟩)) (.inl hne) rfl rfl (fun w => by rw [Sem.runT_eq]; simp [go_sem, execOp, Act.eval]) ?_
  simp only [Act.put, Act.eval, gtA, gtZ, gtS, siA, scS, scZ]
  refine Win.pureOp (v := .pointer (some ⟨m, 0, none⟩)) (.inl hne) rfl rfl (fun w => by rw [Sem.runT_eq]; simp [go_sem, execOp, Act.eval]) ?_
  simp only [Act.put, Act.eval, gtA, gtZ, gtS, siA, scS, scZ]
  refine Win.lookOp (v := .pointer (some ⟨p, 0, none⟩)) (ad := ⟨m, 0, none⟩) (x := .pointer (some ⟨p, 0, none⟩)) (.inl hne) rfl rfl (hm0) (fun w hc => by rw [Sem.runT_eq]; simp [go_sem, execOp, Act.eval, hc]) ?_
  simp only [Act.put, Act.eval, gtA, gtZ, gtS, siA, scS, scZ]
  refine Win.pureOp (v := .pointer (some ⟨p, 0, none⟩)) (.inl hne) rfl rfl (fun w => by rw [Sem.runT_eq]; simp [go_sem, execOp, Act.eval]) ?_
  simp only [Act.put, Act.eval, gtA, gtZ, gtS, siA, scS, scZ]
  refine Win.pureOp (v := .pointer (some ⟨p, 6, none⟩)) (.inl hne) rfl rfl (fun w => by rw [Sem.runT_eq]; simp [go_sem, execOp, Act.eval]) ?_
  simp only [Act.put, Act.eval, gtA, gtZ, gtS, siA, scS, scZ]
  refine Win.lookOp (v := .bool false) (ad := ⟨p, 6, none⟩) (x := .bool false) (.inl hne) rfl rfl (hp6) (fun w hc => by rw [Sem.runT_eq]; simp [go_sem, execOp, Act.eval, hc]) ?_
  simp only [Act.put, Act.eval, gtA, gtZ, gtS, siA, scS, scZ]
  refine Win.pureOp (v := .bool true) (.inl hne) rfl rfl (fun w => rfl) ?_
  simp only [Act.put, Act.eval, gtA, gtZ, gtS, siA, scS, scZ]
  refine Win.pureOp (v := .bool true) (.inl hne) rfl rfl (fun w => rfl) ?_
  simp only [Act.put, Act.eval, gtA, gtZ, gtS, siA, scS, scZ]
  refine Win.opsEnd ?_
  refine Win.cond (t := true) rfl ?_
  simp only [if_true]
  refine Win.region ?_
  simp only [List.size_toArray, List.length_cons, List.length_nil, Nat.reduceAdd, List.range, List.range.loop]
  refine Win.pureOp (v := .pointer (some ⟨m, 0, none⟩)) (.inl hne) rfl rfl (fun w => rfl) ?_
  simp only [Act.put, Act.eval, gtA, gtZ, gtS, siA, scS, scZ]
  refine Win.pureOp (v := t) (.inl hne) rfl rfl (fun w => rfl) ?_
  simp only [Act.put, Act.eval, gtA, gtZ, gtS, siA, scS, scZ]
  refine Win.enter (f := 105) (args := #[.pointer (some ⟨m, 0, none⟩), t]) (.inl hne) rfl rfl (fun d => ⟨#[], call_enter mild.toMild Try.func105 rfl rfl rfl rfl _ _ (by simp [Act.eval]), fun e he => by simp at he⟩) ?_
  exact H

theorem mtouch_out {c : Frame} {cs : List Frame} {p m : Nat} {t : Value} (hm0 : w.cell? ⟨m, 0, none⟩ = some (.pointer (some ⟨p, 0, none⟩))) (hm1 : w.cell? ⟨m, 1, none⟩ = some (.bool true)) (hp6 : w.cell? ⟨p, 6, none⟩ = some (.bool false))
    (H : Win Try.prog Post pl n h (gor (c.finish (.tuple #[])) cs) w) : Win Try.prog Post pl n h (gor ((touchFr Try.prog Try.f101 p m t).finish (.tuple #[])) (c :: cs)) w := by
  unfold touchFr
  rw [Frame.finish_at]
  have hne : (Frame.enter Try.prog 101 #[.pointer (some ⟨m, 0, none⟩), t] CallKind.normal).kind = .normal := rfl
  simp only [bodyOf, Try.f101, codeL, codeR, condT, regOps, Option.getD_some]
  simp only [Act.put, Act.eval, gqA, gqZ, gqS, Option.bind_some, gtA, gtZ, gtS, siA, scS, scZ]
  refine Win.opsEnd ?_
  refine Win.seq ?_
  refine Win.region ?_
  simp only [List.size_toArray, List.length_cons, List.length_nil, Nat.reduceAdd, List.range, List.range.loop]
  refine Win.pureOp (v := .pointer (some ⟨m, 0, none⟩)) (.inl hne) rfl rfl (fun w => rfl) ?_
  simp only [Act.put, Act.eval, gtA, gtZ, gtS, siA, scS, scZ]
  refine Win.pureOp (v := .pointer (some ⟨m, 0, none⟩)) (.inl hne) rfl rfl (fun w => by rw [Sem.runT_eq]; simp [go_sem, execOp, Act.eval]) ?_
  simp only [Act.put, Act.eval, gtA, gtZ, gtS, siA, scS, scZ]
  refine Win.pureOp (v := .pointer (some ⟨m, 1, none⟩)) (.inl hne) rfl rfl (fun w => by rw [Sem.runT_eq]; simp [go_sem, execOp, Act.eval]) ?_
  simp only [Act.put, Act.eval, gtA, gtZ, gtS, siA, scS, scZ]
  refine Win.lookOp (v := .bool true) (ad := ⟨m, 1, none⟩) (x := .bool true) (.inl hne) rfl rfl (hm1) (fun w hc => by rw [Sem.runT_eq]; simp [go_sem, execOp, Act.eval, hc]) ?_
  simp only [Act.put, Act.eval, gtA, gtZ, gtS, siA, scS, scZ]
  refine Win.pureOp (v := .bool true) (.inl hne) rfl rfl (fun w => rfl) ?_
  simp only [Act.put, Act.eval, gtA, gtZ, gtS, siA, scS, scZ]
  refine Win.pureOp (v := .pointer (some ⟨m, 0, none⟩)) (.inl hne) rfl rfl (fun w => rfl) ?_
  simp only [Act.put, Act.eval, gtA, gtZ, gtS, siA, scS, scZ]
  refine Win.pureOp (v := .pointer (some ⟨m, 0, none⟩)) (.inl hne) rfl rfl (fun w => by rw [Sem.runT_eq]; simp [go_sem, execOp, Act.eval]) ?_
  simp only [Act.put, Act.eval, gtA, gtZ, gtS, siA, scS, scZ]
  refine Win.pureOp (v := .pointer (some ⟨m, 0, none⟩)) (.inl hne) rfl rfl (fun w => by rw [Sem.runT_eq]; simp [go_sem, execOp, Act.eval]) ?_
  simp only [Act.put, Act.eval, gtA, gtZ, gtS, siA, scS, scZ]
  refine Win.lookOp (v := .pointer (some ⟨p, 0, none⟩)) (ad := ⟨m, 0, none⟩) (x := .pointer (some ⟨p, 0, none⟩)) (.inl hne) rfl rfl (hm0) (fun w hc => by rw [Sem.runT_eq]; simp [go_sem, execOp, Act.eval, hc]) ?_
  simp only [Act.put, Act.eval, gtA, gtZ, gtS, siA, scS, scZ]
  refine Win.pureOp (v := .pointer (some ⟨p, 0, none⟩)) (.inl hne) rfl rfl (fun w => by rw [Sem.runT_eq]; simp [go_sem, execOp, Act.eval]) ?_
  simp only [Act.put, Act.eval, gtA, gtZ, gtS, siA, scS, scZ]
  refine Win.pureOp (v := .pointer (some ⟨p, 6, none⟩)) (.inl hne) rfl rfl (fun w => by rw [Sem.runT_eq]; simp [go_sem, execOp, Act.eval]) ?_
  simp only [Act.put, Act.eval, gtA, gtZ, gtS, siA, scS, scZ]
  refine Win.lookOp (v := .bool false) (ad := ⟨p, 6, none⟩) (x := .bool false) (.inl hne) rfl rfl (hp6) (fun w hc => by rw [Sem.runT_eq]; simp [go_sem, execOp, Act.eval, hc]) ?_
  simp only [Act.put, Act.eval, gtA, gtZ, gtS, siA, scS, scZ]
  refine Win.pureOp (v := .bool false) (.inl hne) rfl rfl (fun w => rfl) ?_
  simp only [Act.put, Act.eval, gtA, gtZ, gtS, siA, scS, scZ]
  refine Win.opsEnd ?_
  refine Win.cond (t := false) rfl ?_
  simp only [if_false, Bool.false_eq_true]
  refine Win.skip ?_
  refine Win.falls ?_
  exact Win.leave (v := .tuple #[]) rfl rfl hne Try.func101 (fun d => ⟨#[], by rw [Sem.runT_eq]; simp [go_sem, results, Try.f101], fun e he => by simp at he⟩) H
end
end Go.Proofs.Ytnbaiinhalplcaa

namespace Go.Proofs.Ytnbaiinhalplcaa
open List renaming getElem_toArray → gtA, getElem_cons_zero → gtZ, getElem_cons_succ → gtS, setIfInBounds_toArray → siA, set_cons_succ → scS, set_cons_zero → scZ, getElem?_toArray → gqA, getElem?_cons_zero → gqZ, getElem?_cons_succ → gqS
set_option linter.unusedVariables false
set_option linter.unusedSimpArgs false
set_option maxRecDepth 100000
open Go.Conc

section
variable {pl : Nat → Option Place} {n h : Nat} {Post : Value → World → Prop} {w : World} {F : Nat → Option (Nat × Nat)}

end
end Go.Proofs.Ytnbaiinhalplcaa

namespace Go.Proofs.Ytnbaiinhalplcaa
open List renaming getElem_toArray → gtA, getElem_cons_zero → gtZ, getElem_cons_succ → gtS, setIfInBounds_toArray → siA, set_cons_succ → scS, set_cons_zero → scZ, getElem?_toArray → gqA, getElem?_cons_zero → gqZ, getElem?_cons_succ → gqS
set_option linter.unusedVariables false
set_option linter.unusedSimpArgs false
set_option maxRecDepth 100000
open Go.Conc

/-- Where it stands while it touches. -/
def writeFr (P : Program) (f : Func) (m bA bX : Nat) (k y : Int) : Frame :=
  (Frame.enter P 99 #[.pointer (some ⟨m, 0, none⟩), .int .i64 k, .int .u64 y] .normal).at ⟨#[.pointer (some ⟨m, 0, none⟩), .int .i64 k, .int .u64 y, undef, .pointer (some ⟨bA, 0, none⟩), .pointer (some ⟨bX, 0, none⟩), .pointer (some ⟨m, 0, none⟩), .func (.func 104) #[] #[.pointer (some ⟨bA, 0, none⟩), .pointer (some ⟨bX, 0, none⟩)], undef], []⟩ [.inRegion (regOps (codeR (bodyOf f))) [2]]

section
variable {pl : Nat → Option Place} {n h : Nat} {Post : Value → World → Prop} {w : World} {F : Nat → Option (Nat × Nat)}

theorem write_in (L : Lies pl F w) {c : Frame} {cs : List Frame} {m : Nat} {k y : Int}
    (H : Win Try.prog Post pl n h (gor (Frame.enter Try.prog 101 #[.pointer (some ⟨m, 0, none⟩), .func (.func 104) #[] #[.pointer (some ⟨w.heap.size, 0, none⟩), .pointer (some ⟨(w.heap.size + 1), 0, none⟩)]] .normal) (writeFr Try.prog Try.f99 m w.heap.size (w.heap.size + 1) k y :: c :: cs)) ((w.alloc (.cells #[.int .i64 k] 3)).alloc (.cells #[.int .u64 y] 49))) :
    Win Try.prog Post pl n h (gor (Frame.enter Try.prog 99 #[.pointer (some ⟨m, 0, none⟩), .int .i64 k, .int .u64 y] .normal) (c :: cs)) w := by
  have hne : (Frame.enter Try.prog 99 #[.pointer (some ⟨m, 0, none⟩), .int .i64 k, .int .u64 y] CallKind.normal).kind = .normal := rfl
  obtain ⟨bA, hbA⟩ : ∃ bA, bA = w.heap.size := ⟨_, rfl⟩
  obtain ⟨bX, hbX⟩ : ∃ bX, bX = w.heap.size + 1 := ⟨_, rfl⟩
  rw [enter_at Try.func99 rfl]
  simp only [Try.ntmps99, List.size_toArray, List.length_cons, List.length_nil, Nat.reduceAdd, Nat.reduceSub, Array.replicate_succ, Array.replicate_zero, List.push_toArray, List.append_toArray, List.nil_append, List.cons_append]
  refine Win.seq ?_
  refine Win.region ?_
  simp only [List.size_toArray, List.length_cons, List.length_nil, Nat.reduceAdd, List.range, List.range.loop]
  have L0 := L
  obtain ⟨w0, hw0⟩ : ∃ w0, w0 = w := ⟨_, rfl⟩
  have sz0 : bA = w.heap.size := by rw [hbA]
  refine Win.makeOp (v := .pointer (some ⟨bA, 0, none⟩)) (ob := .cells #[.int .i64 k] 3) (es := #[]) L0 (.inl hne) rfl rfl (fun d => by
    rw [Sem.runT_eq]; rw [sz0]
    generalize w = ww
    simp [go_sem, execOp, Act.eval]
    try rfl) (fun e he => by simp at he) ?_
  simp only [Act.put, Act.eval, gtA, gtZ, gtS, siA, scS, scZ]
  have L1 := L0.alloc (.cells #[.int .i64 k] 3)
  have sz1 : bX = (w.alloc (.cells #[.int .i64 k] 3)).heap.size := by rw [hbX]; show _ = (Array.push _ _).size; rw [Array.size_push]
  refine Win.makeOp (v := .pointer (some ⟨bX, 0, none⟩)) (ob := .cells #[.int .u64 y] 49) (es := #[]) L1 (.inl hne) rfl rfl (fun d => by
    rw [Sem.runT_eq]; rw [sz1]
    generalize (w.alloc (.cells #[.int .i64 k] 3)) = ww
    simp [go_sem, execOp, Act.eval]
    try rfl) (fun e he => by simp at he) ?_
  simp only [Act.put, Act.eval, gtA, gtZ, gtS, siA, scS, scZ]
  have L2 := L1.alloc (.cells #[.int .u64 y] 49)
  refine Win.opsEnd ?_
  refine Win.region ?_
  simp only [List.size_toArray, List.length_cons, List.length_nil, Nat.reduceAdd, List.range, List.range.loop]
  refine Win.pureOp (v := .pointer (some ⟨m, 0, none⟩)) (.inl hne) rfl rfl (fun w => rfl) ?_
  simp only [Act.put, Act.eval, gtA, gtZ, gtS, siA, scS, scZ]
  refine Win.pureOp (v := .func (.func 104) #[] #[.pointer (some ⟨bA, 0, none⟩), .pointer (some ⟨bX, 0, none⟩)]) (.inl hne) rfl rfl (fun w => by rw [Sem.runT_eq]; simp [go_sem, execOp, Act.eval]; exact ⟨rfl, rfl⟩) ?_
  simp only [Act.put, Act.eval, gtA, gtZ, gtS, siA, scS, scZ]
  refine Win.enter (f := 101) (args := #[.pointer (some ⟨m, 0, none⟩), .func (.func 104) #[] #[.pointer (some ⟨bA, 0, none⟩), .pointer (some ⟨bX, 0, none⟩)]]) (.inl hne) rfl rfl (fun d => ⟨#[], call_enter mild.toMild Try.func101 rfl rfl rfl rfl _ _ (by simp [Act.eval]), fun e he => by simp at he⟩) ?_
  clear sz0 sz1
  subst hbA hbX
  exact H

theorem write_out {c : Frame} {cs : List Frame} {m bA bX : Nat} {k y : Int}
    (H : Win Try.prog Post pl n h (gor (c.finish (.tuple #[])) cs) w) : Win Try.prog Post pl n h (gor ((writeFr Try.prog Try.f99 m bA bX k y).finish (.tuple #[])) (c :: cs)) w := by
  unfold writeFr
  rw [Frame.finish_at]
  have hne : (Frame.enter Try.prog 99 #[.pointer (some ⟨m, 0, none⟩), .int .i64 k, .int .u64 y] CallKind.normal).kind = .normal := rfl
  simp only [bodyOf, Try.f99, codeL, codeR, regOps, Option.getD_some]
  simp only [Act.put, Act.eval, gqA, gqZ, gqS, Option.bind_some, gtA, gtZ, gtS, siA, scS, scZ]
  refine Win.opsEnd ?_
  refine Win.falls ?_
  exact Win.leave (v := .tuple #[]) rfl rfl hne Try.func99 (fun d => ⟨#[], by rw [Sem.runT_eq]; simp [go_sem, results, Try.f99], fun e he => by simp at he⟩) H
end

/-- Where it stands while it touches. -/
def updateFr (P : Program) (f : Func) (m bA bX bV : Nat) (k : Int) (g : FuncId) (cap : Array Value) : Frame :=
  (Frame.enter P 98 #[.pointer (some ⟨m, 0, none⟩), .int .i64 k, .func (.func g) #[] cap] .normal).at ⟨#[.pointer (some ⟨m, 0, none⟩), .int .i64 k, .func (.func g) #[] cap, undef, .pointer (some ⟨bA, 0, none⟩), .pointer (some ⟨bX, 0, none⟩), .pointer (some ⟨bV, 0, none⟩), .pointer (some ⟨m, 0, none⟩), .func (.func 103) #[] #[.pointer (some ⟨bA, 0, none⟩), .pointer (some ⟨bX, 0, none⟩), .pointer (some ⟨bV, 0, none⟩)], undef, undef], []⟩ [.inRegion (regOps (codeL (codeR (bodyOf f)))) [2], .code (codeR (codeR (bodyOf f)))]

section
variable {pl : Nat → Option Place} {n h : Nat} {Post : Value → World → Prop} {w : World} {F : Nat → Option (Nat × Nat)}

theorem update_in (L : Lies pl F w) {c : Frame} {cs : List Frame} {m : Nat} {k : Int} {g : FuncId} {cap : Array Value}
    (H : Win Try.prog Post pl n h (gor (Frame.enter Try.prog 101 #[.pointer (some ⟨m, 0, none⟩), .func (.func 103) #[] #[.pointer (some ⟨w.heap.size, 0, none⟩), .pointer (some ⟨(w.heap.size + 1), 0, none⟩), .pointer (some ⟨(w.heap.size + 2), 0, none⟩)]] .normal) (updateFr Try.prog Try.f98 m w.heap.size (w.heap.size + 1) (w.heap.size + 2) k g cap :: c :: cs)) (((w.alloc (.cells #[.int .i64 k] 3)).alloc (.cells #[.func (.func g) #[] cap] 90)).alloc (.cells #[.int .u64 0] 49))) :
    Win Try.prog Post pl n h (gor (Frame.enter Try.prog 98 #[.pointer (some ⟨m, 0, none⟩), .int .i64 k, .func (.func g) #[] cap] .normal) (c :: cs)) w := by
  have hne : (Frame.enter Try.prog 98 #[.pointer (some ⟨m, 0, none⟩), .int .i64 k, .func (.func g) #[] cap] CallKind.normal).kind = .normal := rfl
  obtain ⟨bA, hbA⟩ : ∃ bA, bA = w.heap.size := ⟨_, rfl⟩
  obtain ⟨bX, hbX⟩ : ∃ bX, bX = w.heap.size + 1 := ⟨_, rfl⟩
  obtain ⟨bV, hbV⟩ : ∃ bV, bV = w.heap.size + 2 := ⟨_, rfl⟩
  rw [enter_at Try.func98 rfl]
  simp only [Try.ntmps98, List.size_toArray, List.length_cons, List.length_nil, Nat.reduceAdd, Nat.reduceSub, Array.replicate_succ, Array.replicate_zero, List.push_toArray, List.append_toArray, List.nil_append, List.cons_append]
  refine Win.seq ?_
  refine Win.region ?_
  simp only [List.size_toArray, List.length_cons, List.length_nil, Nat.reduceAdd, List.range, List.range.loop]
  have L0 := L
  obtain ⟨w0, hw0⟩ : ∃ w0, w0 = w := ⟨_, rfl⟩
  have sz0 : bA = w.heap.size := by rw [hbA]
  refine Win.makeOp (v := .pointer (some ⟨bA, 0, none⟩)) (ob := .cells #[.int .i64 k] 3) (es := #[]) L0 (.inl hne) rfl rfl (fun d => by
    rw [Sem.runT_eq]; rw [sz0]
    generalize w = ww
    simp [go_sem, execOp, Act.eval]
    try rfl) (fun e he => by simp at he) ?_
  simp only [Act.put, Act.eval, gtA, gtZ, gtS, siA, scS, scZ]
  have L1 := L0.alloc (.cells #[.int .i64 k] 3)
  have sz1 : bX = (w.alloc (.cells #[.int .i64 k] 3)).heap.size := by rw [hbX]; show _ = (Array.push _ _).size; rw [Array.size_push]
  refine Win.makeOp (v := .pointer (some ⟨bX, 0, none⟩)) (ob := .cells #[.func (.func g) #[] cap] 90) (es := #[]) L1 (.inl hne) rfl rfl (fun d => by
    rw [Sem.runT_eq]; rw [sz1]
    generalize (w.alloc (.cells #[.int .i64 k] 3)) = ww
    simp [go_sem, execOp, Act.eval]
    try rfl) (fun e he => by simp at he) ?_
  simp only [Act.put, Act.eval, gtA, gtZ, gtS, siA, scS, scZ]
  have L2 := L1.alloc (.cells #[.func (.func g) #[] cap] 90)
  have sz2 : bV = ((w.alloc (.cells #[.int .i64 k] 3)).alloc (.cells #[.func (.func g) #[] cap] 90)).heap.size := by rw [hbV]; show _ = (Array.push _ _).size; rw [Array.size_push]; show _ = (Array.push _ _).size + 1; rw [Array.size_push]
  refine Win.makeOp (v := .pointer (some ⟨bV, 0, none⟩)) (ob := .cells #[.int .u64 0] 49) (es := #[]) L2 (.inl hne) rfl rfl (fun d => by
    rw [Sem.runT_eq]; rw [sz2]
    generalize ((w.alloc (.cells #[.int .i64 k] 3)).alloc (.cells #[.func (.func g) #[] cap] 90)) = ww
    simp [go_sem, execOp, Act.eval]
    try rfl) (fun e he => by simp at he) ?_
  simp only [Act.put, Act.eval, gtA, gtZ, gtS, siA, scS, scZ]
  have L3 := L2.alloc (.cells #[.int .u64 0] 49)
  refine Win.opsEnd ?_
  refine Win.seq ?_
  refine Win.region ?_
  simp only [List.size_toArray, List.length_cons, List.length_nil, Nat.reduceAdd, List.range, List.range.loop]
  refine Win.pureOp (v := .pointer (some ⟨m, 0, none⟩)) (.inl hne) rfl rfl (fun w => rfl) ?_
  simp only [Act.put, Act.eval, gtA, gtZ, gtS, siA, scS, scZ]
  refine Win.pureOp (v := .func (.func 103) #[] #[.pointer (some ⟨bA, 0, none⟩), .pointer (some ⟨bX, 0, none⟩), .pointer (some ⟨bV, 0, none⟩)]) (.inl hne) rfl rfl (fun w => by rw [Sem.runT_eq]; simp [go_sem, execOp, Act.eval]; exact ⟨rfl, rfl⟩) ?_
  simp only [Act.put, Act.eval, gtA, gtZ, gtS, siA, scS, scZ]
  refine Win.enter (f := 101) (args := #[.pointer (some ⟨m, 0, none⟩), .func (.func 103) #[] #[.pointer (some ⟨bA, 0, none⟩), .pointer (some ⟨bX, 0, none⟩), .pointer (some ⟨bV, 0, none⟩)]]) (.inl hne) rfl rfl (fun d => ⟨#[], call_enter mild.toMild Try.func101 rfl rfl rfl rfl _ _ (by simp [Act.eval]), fun e he => by simp at he⟩) ?_
  clear sz0 sz1 sz2
  subst hbA hbX hbV
  exact H

theorem update_out {c : Frame} {cs : List Frame} {m bA bX bV : Nat} {k : Int} {g : FuncId} {cap : Array Value} {x : Int} (hc : w.cell? ⟨bV, 0, none⟩ = some (.int .u64 x)) (hf : w.frozen? ⟨bV, 0, none⟩ = false) (F1 : Free pl ⟨bV, 0, none⟩)
    (H : Win Try.prog Post pl n h (gor (c.finish (.int .u64 x)) cs) (w.setCell ⟨bV, 0, none⟩ (.int .u64 x))) : Win Try.prog Post pl n h (gor ((updateFr Try.prog Try.f98 m bA bX bV k g cap).finish (.tuple #[])) (c :: cs)) w := by
  unfold updateFr
  rw [Frame.finish_at]
  have hne : (Frame.enter Try.prog 98 #[.pointer (some ⟨m, 0, none⟩), .int .i64 k, .func (.func g) #[] cap] CallKind.normal).kind = .normal := rfl
  simp only [bodyOf, Try.f98, codeL, codeR, regOps, Option.getD_some]
  simp only [Act.put, Act.eval, gqA, gqZ, gqS, Option.bind_some, gtA, gtZ, gtS, siA, scS, scZ]
  refine Win.opsEnd ?_
  refine Win.seq ?_
  refine Win.region ?_
  simp only [List.size_toArray, List.length_cons, List.length_nil, Nat.reduceAdd, List.range, List.range.loop]
  refine Win.lookOp (v := .int .u64 x) (ad := ⟨bV, 0, none⟩) (x := .int .u64 x) (.inl hne) rfl rfl (hc) (fun w hc => by rw [Sem.runT_eq]; simp [go_sem, execOp, Act.eval, hc]) ?_
  simp only [Act.put, Act.eval, gtA, gtZ, gtS, siA, scS, scZ]
  refine Win.storeOp (ad := ⟨bV, 0, none⟩) (x := .int .u64 x) (.inl hne) rfl rfl F1 (fun d => by
    rw [Sem.runT_eq]
    obtain ⟨s1, s2⟩ := store_ok (P := Try.prog) (x := .int .u64 x) (w := w.at d) (m := .plain) (by simp) (by simp) (show (w.at d).cell? ⟨bV, 0, none⟩ = some (.int .u64 x) from hc) (show (w.at d).frozen? ⟨bV, 0, none⟩ = false from hf)
    have c1 : (w.at d).cell? ⟨bV, 0, none⟩ = some (.int .u64 x) := hc
    have c2 : (w.at d).frozen? ⟨bV, 0, none⟩ = false := hf
    generalize w.at d = W at s1 s2 c1 c2 ⊢
    simp [go_sem, execOp, Act.eval, s1, s2, c1, c2]) ?_
  simp only [Act.put, Act.eval, gtA, gtZ, gtS, siA, scS, scZ]
  refine Win.opsEnd ?_
  refine Win.ret ?_
  have hc2 : (w.setCell ⟨bV, 0, none⟩ (.int .u64 x)).cell? ⟨bV, 0, none⟩ = some (.int .u64 x) := World.cell?_setCell_same' w _ _ (by rw [hc]; rfl)
  generalize w.setCell ⟨bV, 0, none⟩ (.int .u64 x) = w2 at hc2 H ⊢
  exact Win.leave (v := .int .u64 x) rfl rfl hne Try.func98 (fun d => ⟨#[⟨.cell ⟨bV, 0, none⟩, false, false⟩], by
    have c1 : (w2.at d).cell? ⟨bV, 0, none⟩ = some (.int .u64 x) := hc2
    generalize w2.at d = W at c1 ⊢
    rw [Sem.runT_eq]; simp [go_sem, results, Try.f98, Frame.at, c1], fun e he => by obtain rfl : e = ⟨.cell ⟨bV, 0, none⟩, false, false⟩ := (by simpa using he); exact ⟨rfl, fun m => by simp⟩⟩) H
end
end Go.Proofs.Ytnbaiinhalplcaa

namespace Go.Proofs.Ytnbaiinhalplcaa
open List renaming getElem_toArray → gtA, getElem_cons_zero → gtZ, getElem_cons_succ → gtS, setIfInBounds_toArray → siA, set_cons_succ → scS, set_cons_zero → scZ, getElem?_toArray → gqA, getElem?_cons_zero → gqZ, getElem?_cons_succ → gqS
set_option linter.unusedVariables false
set_option linter.unusedSimpArgs false
set_option maxRecDepth 100000
open Go.Conc

/-- What 'run' defers. -/
def runDefer (b1 b2 : Nat) : Deferred := { target := .fn (.func 54) #[.pointer (some ⟨b2, 0, none⟩), .pointer (some ⟨b1, 0, none⟩)], args := #[] }
/-- Where 'run' stands while the program runs. -/
def runFr (P : Program) (f : Func) (p m b1 b2 : Nat) (g : FuncId) (cap : Array Value) : Frame :=
  (Frame.enter P 31 #[.pointer (some ⟨p, 0, none⟩), .func (.func g) #[] cap] .deferred).at ⟨#[.pointer (some ⟨p, 0, none⟩), .func (.func g) #[] cap, .pointer (some ⟨b1, 0, none⟩), undef, .pointer (some ⟨b2, 0, none⟩), .pointer (some ⟨p, 0, none⟩), .agg #[.pointer (some ⟨p, 0, none⟩), .bool true, .int .i64 0], .pointer (some ⟨m, 0, none⟩), .func (.func 54) #[] #[.pointer (some ⟨b2, 0, none⟩), .pointer (some ⟨b1, 0, none⟩)], .func (.func g) #[] cap, .pointer (some ⟨m, 0, none⟩), .iface 107 (.pointer (some ⟨m, 0, none⟩)), undef], [runDefer b1 b2]⟩ [.inRegion (regOps (codeR (codeR (codeR (bodyOf f))))) [3]]
/-- What lies below a goroutine that has begun. -/
def rootFr (P : Program) : Frame := { (default : Frame) with fn := P.funcs.size, defers := [], mode := .panicking [goexitEntry] }

section
variable {pl : Nat → Option Place} {n h : Nat} {Post : Value → World → Prop} {w : World} {F : Nat → Option (Nat × Nat)}

theorem Lies.freeNew (L : Lies pl F w) {ad : Addr} (h : w.heap.size ≤ ad.block) : Free pl ad := by
  refine ⟨fun i s v hi hs => ?_, fun i s c hi hc e => ?_⟩
  · obtain ⟨lo, hi', h1, _, _⟩ := L.still i s ad v hi hs
    obtain ⟨c, t, hh⟩ := L.lies _ _ h1
    have := (Array.getElem?_eq_some_iff.1 hh).1
    omega
  · obtain ⟨_, _, _, _, _, _, hh⟩ := L.chans i s c hi hc
    have := (Array.getElem?_eq_some_iff.1 hh).1
    omega

theorem prog_begins (L : Lies pl F w) {p : Nat} {g : FuncId} {cap : Array Value} {fn : Func} (hg : Try.prog.funcs[g]? = some fn) (hgb : fn.body.isNone = false)
    (H : ∀ m b1 b2 w', m = w.heap.size + 1 → b1 = w.heap.size → b2 = w.heap.size + 2 → w' = (((w.alloc (.cells #[.pointer (some ⟨p, 0, none⟩)] 35)).alloc (.cells #[.pointer (some ⟨p, 0, none⟩), .bool true, .int .i64 0] 109)).alloc (.cells #[.pointer none] 107)).setCell ⟨b2, 0, none⟩ (.pointer (some ⟨m, 0, none⟩)) →
      Win Try.prog Post pl n h (gor (Frame.enter Try.prog g (#[.iface 107 (.pointer (some ⟨m, 0, none⟩))] ++ cap) .normal) [runFr Try.prog Try.f31 p m b1 b2 g cap, rootFr Try.prog]) w') :
    Win Try.prog Post pl n h (born Try.prog { target := .fn (.func 31) #[], args := #[.pointer (some ⟨p, 0, none⟩), .func (.func g) #[] cap] }) w := by
  unfold born
  refine Win.callsDeferred (d₀ := { target := .fn (.func 31) #[], args := #[.pointer (some ⟨p, 0, none⟩), .func (.func g) #[] cap] }) (ds := []) (f := 31) (args := #[.pointer (some ⟨p, 0, none⟩), .func (.func g) #[] cap]) (by simp) rfl trivial (by simp) (fun d => ⟨#[], invoke_enter mild.toMild Try.func31 rfl _ _ _ _, fun e he => by simp at he⟩) ?_
  have hne : (Frame.enter Try.prog 31 #[.pointer (some ⟨p, 0, none⟩), .func (.func g) #[] cap] CallKind.deferred).kind = .deferred := rfl
  obtain ⟨b1, hb1⟩ : ∃ b1, b1 = w.heap.size := ⟨_, rfl⟩
  obtain ⟨m, hm⟩ : ∃ m, m = w.heap.size + 1 := ⟨_, rfl⟩
  obtain ⟨b2, hb2⟩ : ∃ b2, b2 = w.heap.size + 2 := ⟨_, rfl⟩
  rw [enter_at Try.func31 rfl]
  simp only [Try.ntmps31, List.size_toArray, List.length_cons, List.length_nil, Nat.reduceAdd, Nat.reduceSub, Array.replicate_succ, Array.replicate_zero, List.push_toArray, List.append_toArray, List.nil_append, List.cons_append]
  refine Win.seq ?_
  refine Win.region ?_
  simp only [List.size_toArray, List.length_cons, List.length_nil, Nat.reduceAdd, List.range, List.range.loop]
  have sz0 : b1 = w.heap.size := by rw [hb1]
  refine Win.makeOp (v := .pointer (some ⟨b1, 0, none⟩)) (ob := .cells #[.pointer (some ⟨p, 0, none⟩)] 35) (es := #[]) L (.inr hne) rfl rfl (fun d => by
    rw [Sem.runT_eq]; rw [sz0]
    generalize w = ww
    simp [go_sem, execOp, Act.eval]
    try rfl) (fun e he => by simp at he) ?_
  simp only [Act.put, Act.eval, gtA, gtZ, gtS, siA, scS, scZ]
  have L1 := L.alloc (.cells #[.pointer (some ⟨p, 0, none⟩)] 35)
  have cb1 : (w.alloc (.cells #[.pointer (some ⟨p, 0, none⟩)] 35)).cell? ⟨b1, 0, none⟩ = some (.pointer (some ⟨p, 0, none⟩)) := by rw [hb1]; exact alloc_box w _ _ _
  refine Win.opsEnd ?_
  refine Win.seq ?_
  refine Win.region ?_
  simp only [List.size_toArray, List.length_cons, List.length_nil, Nat.reduceAdd, List.range, List.range.loop]
  refine Win.lookOp (v := .pointer (some ⟨p, 0, none⟩)) (ad := ⟨b1, 0, none⟩) (x := .pointer (some ⟨p, 0, none⟩)) (.inr hne) rfl rfl (cb1) (fun w hc => by rw [Sem.runT_eq]; simp [go_sem, execOp, Act.eval, hc]) ?_
  simp only [Act.put, Act.eval, gtA, gtZ, gtS, siA, scS, scZ]
  refine Win.pureOp (v := .agg #[.pointer (some ⟨p, 0, none⟩), .bool true, .int .i64 0]) (.inr hne) rfl rfl (fun w => by rw [Sem.runT_eq]; simp [go_sem, execOp, Act.eval]; first | exact ⟨rfl, rfl⟩ | (unfold Instr.build; simp [go_sem]; done) | (refine ⟨?_, ?_⟩ <;> kernel_rfl)) ?_
  simp only [Act.put, Act.eval, gtA, gtZ, gtS, siA, scS, scZ]
  have sz1 : m = (w.alloc (.cells #[.pointer (some ⟨p, 0, none⟩)] 35)).heap.size := by rw [hm]; show _ = (Array.push _ _).size; rw [Array.size_push]
  refine Win.makeOp (v := .pointer (some ⟨m, 0, none⟩)) (ob := .cells #[.pointer (some ⟨p, 0, none⟩), .bool true, .int .i64 0] 109) (es := #[]) L1 (.inr hne) rfl rfl (fun d => by
    rw [Sem.runT_eq]; rw [sz1]
    generalize (w.alloc (.cells #[.pointer (some ⟨p, 0, none⟩)] 35)) = ww
    simp [go_sem, execOp, Act.eval]
    try rfl) (fun e he => by simp at he) ?_
  simp only [Act.put, Act.eval, gtA, gtZ, gtS, siA, scS, scZ]
  have L2 := L1.alloc (.cells #[.pointer (some ⟨p, 0, none⟩), .bool true, .int .i64 0] 109)
  have sz2 : b2 = ((w.alloc (.cells #[.pointer (some ⟨p, 0, none⟩)] 35)).alloc (.cells #[.pointer (some ⟨p, 0, none⟩), .bool true, .int .i64 0] 109)).heap.size := by rw [hb2]; show _ = (Array.push _ _).size; rw [Array.size_push]; show _ = (Array.push _ _).size + 1; rw [Array.size_push]
  refine Win.makeOp (v := .pointer (some ⟨b2, 0, none⟩)) (ob := .cells #[.pointer none] 107) (es := #[]) L2 (.inr hne) rfl rfl (fun d => by
    rw [Sem.runT_eq]; rw [sz2]
    generalize ((w.alloc (.cells #[.pointer (some ⟨p, 0, none⟩)] 35)).alloc (.cells #[.pointer (some ⟨p, 0, none⟩), .bool true, .int .i64 0] 109)) = ww
    simp [go_sem, execOp, Act.eval]
    try rfl) (fun e he => by simp at he) ?_
  simp only [Act.put, Act.eval, gtA, gtZ, gtS, siA, scS, scZ]
  have L3 := L2.alloc (.cells #[.pointer none] 107)
  have cb2 : (((w.alloc (.cells #[.pointer (some ⟨p, 0, none⟩)] 35)).alloc (.cells #[.pointer (some ⟨p, 0, none⟩), .bool true, .int .i64 0] 109)).alloc (.cells #[.pointer none] 107)).cell? ⟨b2, 0, none⟩ = some (.pointer none) := by rw [sz2]; exact alloc_box _ _ _ _
  have fb2 : (((w.alloc (.cells #[.pointer (some ⟨p, 0, none⟩)] 35)).alloc (.cells #[.pointer (some ⟨p, 0, none⟩), .bool true, .int .i64 0] 109)).alloc (.cells #[.pointer none] 107)).frozen? ⟨b2, 0, none⟩ = false := by
    unfold World.frozen?
    rw [sz2, alloc_new]
    rfl
  have Fr2 : Free pl ⟨b2, 0, none⟩ := L.freeNew (by show w.heap.size ≤ b2; omega)
  have HH := H m b1 b2 _ hm hb1 hb2 rfl
  clear sz0 sz1 sz2
  generalize (((w.alloc (.cells #[.pointer (some ⟨p, 0, none⟩)] 35)).alloc (.cells #[.pointer (some ⟨p, 0, none⟩), .bool true, .int .i64 0] 109)).alloc (.cells #[.pointer none] 107)) = w3 at cb2 fb2 HH L3 ⊢
  refine Win.storeOp (ad := ⟨b2, 0, none⟩) (x := .pointer (some ⟨m, 0, none⟩)) (.inr hne) rfl rfl Fr2 (fun d => by
    rw [Sem.runT_eq]
    obtain ⟨s1, s2⟩ := store_ok (P := Try.prog) (x := .pointer (some ⟨m, 0, none⟩)) (w := w3.at d) (m := .plain) (by simp) (by simp) (show (w3.at d).cell? ⟨b2, 0, none⟩ = some (.pointer none) from cb2) (show (w3.at d).frozen? ⟨b2, 0, none⟩ = false from fb2)
    have c1 : (w3.at d).cell? ⟨b2, 0, none⟩ = some (.pointer none) := cb2
    have c2 : (w3.at d).frozen? ⟨b2, 0, none⟩ = false := fb2
    generalize w3.at d = W at s1 s2 c1 c2 ⊢
    simp [go_sem, execOp, Act.eval, s1, s2, c1, c2]) ?_
  simp only [Act.put, Act.eval, gtA, gtZ, gtS, siA, scS, scZ]
  have cb3 : (w3.setCell ⟨b2, 0, none⟩ (.pointer (some ⟨m, 0, none⟩))).cell? ⟨b2, 0, none⟩ = some (.pointer (some ⟨m, 0, none⟩)) := World.cell?_setCell_same' w3 _ _ (by rw [cb2]; rfl)
  generalize w3.setCell ⟨b2, 0, none⟩ (.pointer (some ⟨m, 0, none⟩)) = w4 at cb3 HH ⊢
  refine Win.opsEnd ?_
  refine Win.seq ?_
  refine Win.region ?_
  simp only [List.size_toArray, List.length_cons, List.length_nil, Nat.reduceAdd, List.range, List.range.loop]
  refine Win.pureOp (v := .func (.func 54) #[] #[.pointer (some ⟨b2, 0, none⟩), .pointer (some ⟨b1, 0, none⟩)]) (.inr hne) rfl rfl (fun w => by rw [Sem.runT_eq]; simp [go_sem, execOp, Act.eval]; exact ⟨rfl, rfl⟩) ?_
  simp only [Act.put, Act.eval, gtA, gtZ, gtS, siA, scS, scZ]
  refine Win.defers (d₀ := runDefer b1 b2) (.inr hne) rfl rfl (fun d => ⟨#[], by rw [Sem.runT_eq]; simp [go_sem, execOp, Act.eval, runDefer], fun e he => by simp at he⟩) ?_
  simp only [Act.put, Act.eval, gtA, gtZ, gtS, siA, scS, scZ]
  refine Win.opsEnd ?_
  refine Win.region ?_
  simp only [List.size_toArray, List.length_cons, List.length_nil, Nat.reduceAdd, List.range, List.range.loop]
  refine Win.pureOp (v := .func (.func g) #[] cap) (.inr hne) rfl rfl (fun w => rfl) ?_
  simp only [Act.put, Act.eval, gtA, gtZ, gtS, siA, scS, scZ]
  refine Win.lookOp (v := .pointer (some ⟨m, 0, none⟩)) (ad := ⟨b2, 0, none⟩) (x := .pointer (some ⟨m, 0, none⟩)) (.inr hne) rfl rfl (cb3) (fun w hc => by rw [Sem.runT_eq]; simp [go_sem, execOp, Act.eval, hc]) ?_
  simp only [Act.put, Act.eval, gtA, gtZ, gtS, siA, scS, scZ]
  refine Win.pureOp (v := .iface 107 (.pointer (some ⟨m, 0, none⟩))) (.inr hne) rfl rfl (fun w => rfl) ?_
  simp only [Act.put, Act.eval, gtA, gtZ, gtS, siA, scS, scZ]
  refine Win.enter (f := g) (args := #[.iface 107 (.pointer (some ⟨m, 0, none⟩))] ++ cap) (.inr hne) rfl rfl (fun d => ⟨#[], by
    have := invoke_enter mild.toMild hg hgb cap #[.iface 107 (.pointer (some ⟨m, 0, none⟩))] (w4.at d) #[]
    rw [Sem.runT_eq] at this ⊢
    simpa [go_sem, execOp, Act.eval] using this, fun e he => by simp at he⟩) ?_
  exact HH
end
end Go.Proofs.Ytnbaiinhalplcaa
