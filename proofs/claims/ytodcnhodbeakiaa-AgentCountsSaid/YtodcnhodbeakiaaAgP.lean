/- Package agent, the side of the program: a touch that comes back from a stop throws; and a touch as a whole, by the tree that the program follows. Written by gen/ag_p.py. Conditions: as each theorem states them. -/
import Derived.Test.YtodcnhodbeakiaaAgNO
namespace Go.Proofs.Ytodcnhodbeakiaa
set_option linter.unusedVariables false
set_option linter.unusedSimpArgs false
set_option maxRecDepth 100000
open Go.Conc

/-- What a stopped program is unwound by. -/
def haltE : PanicEntry := { v := .iface 126 (.agg #[]), recovered := false }

section
variable {pl : Nat → Option Place} {n h : Nat} {Post : Value → World → Prop} {w : World}

/-- Behind a stop: the touch throws. -/
theorem mtouch_late {c : Frame} {cs : List Frame} {p m : Nat} {t : Value} (hm0 : w.cell? ⟨m, 0, none⟩ = some (.pointer (some ⟨p, 0, none⟩))) (hm1 : w.cell? ⟨m, 1, none⟩ = some (.bool true)) (hp6 : w.cell? ⟨p, 6, none⟩ = some (.bool true)) (hm2 : w.cell? ⟨m, 2, none⟩ = some (.int .i64 0)) (hf2 : w.frozen? ⟨m, 2, none⟩ = false) (F2 : Free pl ⟨m, 2, none⟩)
    (H : Win Try.prog Post pl n h (gor (c.raise [haltE]) cs) (w.setCell ⟨m, 2, none⟩ (.int .i64 4096))) : Win Try.prog Post pl n h (gor ((touchFr Try.prog Try.f115 p m t).finish (.tuple #[])) (c :: cs)) w := by
  unfold touchFr
  rw [Frame.finish_at]
  have hne : (Frame.enter Try.prog 115 #[.pointer (some ⟨m, 0, none⟩), t] CallKind.normal).kind = .normal := rfl
  simp only [bodyOf, Try.f115, codeL, codeR, condT, regOps, Option.getD_some]
  simp only [Act.put, Act.eval, List.getElem?_toArray, List.getElem?_cons_zero, List.getElem?_cons_succ, Option.bind_some, List.getElem_toArray, List.getElem_cons_zero, List.getElem_cons_succ, List.setIfInBounds_toArray, List.set_cons_succ, List.set_cons_zero]
  refine Win.opsEnd ?_
  refine Win.seq ?_
  refine Win.region ?_
  simp only [List.size_toArray, List.length_cons, List.length_nil, Nat.reduceAdd, List.range, List.range.loop]
  refine Win.pureOp (v := .pointer (some ⟨m, 0, none⟩)) (.inl hne) rfl rfl (fun w => rfl) ?_
  simp only [Act.put, Act.eval, List.getElem_toArray, List.getElem_cons_zero, List.getElem_cons_succ, List.setIfInBounds_toArray, List.set_cons_succ, List.set_cons_zero]
  refine Win.pureOp (v := .pointer (some ⟨m, 0, none⟩)) (.inl hne) rfl rfl (fun w => by rw [Sem.runT_eq]; simp [go_sem, execOp, Act.eval]) ?_
  simp only [Act.put, Act.eval, List.getElem_toArray, List.getElem_cons_zero, List.getElem_cons_succ, List.setIfInBounds_toArray, List.set_cons_succ, List.set_cons_zero]
  refine Win.pureOp (v := .pointer (some ⟨m, 1, none⟩)) (.inl hne) rfl rfl (fun w => by rw [Sem.runT_eq]; simp [go_sem, execOp, Act.eval]) ?_
  simp only [Act.put, Act.eval, List.getElem_toArray, List.getElem_cons_zero, List.getElem_cons_succ, List.setIfInBounds_toArray, List.set_cons_succ, List.set_cons_zero]
  refine Win.lookOp (v := .bool true) (ad := ⟨m, 1, none⟩) (x := .bool true) (.inl hne) rfl rfl (hm1) (fun w hc => by rw [Sem.runT_eq]; simp [go_sem, execOp, Act.eval, hc]) ?_
  simp only [Act.put, Act.eval, List.getElem_toArray, List.getElem_cons_zero, List.getElem_cons_succ, List.setIfInBounds_toArray, List.set_cons_succ, List.set_cons_zero]
  refine Win.pureOp (v := .bool true) (.inl hne) rfl rfl (fun w => rfl) ?_
  simp only [Act.put, Act.eval, List.getElem_toArray, List.getElem_cons_zero, List.getElem_cons_succ, List.setIfInBounds_toArray, List.set_cons_succ, List.set_cons_zero]
  refine Win.pureOp (v := .pointer (some ⟨m, 0, none⟩)) (.inl hne) rfl rfl (fun w => rfl) ?_
  simp only [Act.put, Act.eval, List.getElem_toArray, List.getElem_cons_zero, List.getElem_cons_succ, List.setIfInBounds_toArray, List.set_cons_succ, List.set_cons_zero]
  refine Win.pureOp (v := .pointer (some ⟨m, 0, none⟩)) (.inl hne) rfl rfl (fun w => by rw [Sem.runT_eq]; simp [go_sem, execOp, Act.eval]) ?_
  simp only [Act.put, Act.eval, List.getElem_toArray, List.getElem_cons_zero, List.getElem_cons_succ, List.setIfInBounds_toArray, List.set_cons_succ, List.set_cons_zero]
  refine Win.pureOp (v := .pointer (some ⟨m, 0, none⟩)) (.inl hne) rfl rfl (fun w => by rw [Sem.runT_eq]; simp [go_sem, execOp, Act.eval]) ?_
  simp only [Act.put, Act.eval, List.getElem_toArray, List.getElem_cons_zero, List.getElem_cons_succ, List.setIfInBounds_toArray, List.set_cons_succ, List.set_cons_zero]
  refine Win.lookOp (v := .pointer (some ⟨p, 0, none⟩)) (ad := ⟨m, 0, none⟩) (x := .pointer (some ⟨p, 0, none⟩)) (.inl hne) rfl rfl (hm0) (fun w hc => by rw [Sem.runT_eq]; simp [go_sem, execOp, Act.eval, hc]) ?_
  simp only [Act.put, Act.eval, List.getElem_toArray, List.getElem_cons_zero, List.getElem_cons_succ, List.setIfInBounds_toArray, List.set_cons_succ, List.set_cons_zero]
  refine Win.pureOp (v := .pointer (some ⟨p, 0, none⟩)) (.inl hne) rfl rfl (fun w => by rw [Sem.runT_eq]; simp [go_sem, execOp, Act.eval]) ?_
  simp only [Act.put, Act.eval, List.getElem_toArray, List.getElem_cons_zero, List.getElem_cons_succ, List.setIfInBounds_toArray, List.set_cons_succ, List.set_cons_zero]
  refine Win.pureOp (v := .pointer (some ⟨p, 6, none⟩)) (.inl hne) rfl rfl (fun w => by rw [Sem.runT_eq]; simp [go_sem, execOp, Act.eval]) ?_
  simp only [Act.put, Act.eval, List.getElem_toArray, List.getElem_cons_zero, List.getElem_cons_succ, List.setIfInBounds_toArray, List.set_cons_succ, List.set_cons_zero]
  refine Win.lookOp (v := .bool true) (ad := ⟨p, 6, none⟩) (x := .bool true) (.inl hne) rfl rfl (hp6) (fun w hc => by rw [Sem.runT_eq]; simp [go_sem, execOp, Act.eval, hc]) ?_
  simp only [Act.put, Act.eval, List.getElem_toArray, List.getElem_cons_zero, List.getElem_cons_succ, List.setIfInBounds_toArray, List.set_cons_succ, List.set_cons_zero]
  refine Win.pureOp (v := .bool true) (.inl hne) rfl rfl (fun w => rfl) ?_
  simp only [Act.put, Act.eval, List.getElem_toArray, List.getElem_cons_zero, List.getElem_cons_succ, List.setIfInBounds_toArray, List.set_cons_succ, List.set_cons_zero]
  refine Win.opsEnd ?_
  refine Win.cond (t := true) rfl ?_
  simp only [if_true]
  refine Win.region ?_
  simp only [List.size_toArray, List.length_cons, List.length_nil, Nat.reduceAdd, List.range, List.range.loop]
  refine Win.pureOp (v := .pointer (some ⟨m, 0, none⟩)) (.inl hne) rfl rfl (fun w => rfl) ?_
  simp only [Act.put, Act.eval, List.getElem_toArray, List.getElem_cons_zero, List.getElem_cons_succ, List.setIfInBounds_toArray, List.set_cons_succ, List.set_cons_zero]
  refine Win.enter (f := 114) (args := #[.pointer (some ⟨m, 0, none⟩)]) (.inl hne) rfl rfl (fun d => ⟨#[], call_enter mild.toMild Try.func114 rfl rfl rfl rfl _ _ (by simp [Act.eval]), fun e he => by simp at he⟩) ?_
  have hne2 : (Frame.enter Try.prog 114 #[.pointer (some ⟨m, 0, none⟩)] CallKind.normal).kind = .normal := rfl
  rw [enter_at Try.func114 rfl]
  simp only [Try.ntmps114, List.size_toArray, List.length_cons, List.length_nil, Nat.reduceAdd, Nat.reduceSub, Array.replicate_succ, Array.replicate_zero, List.push_toArray, List.append_toArray, List.nil_append, List.cons_append]
  refine Win.seq ?_
  refine Win.seq ?_
  refine Win.region ?_
  simp only [List.size_toArray, List.length_cons, List.length_nil, Nat.reduceAdd, List.range, List.range.loop]
  refine Win.pureOp (v := .pointer (some ⟨m, 0, none⟩)) (.inl hne2) rfl rfl (fun w => rfl) ?_
  simp only [Act.put, Act.eval, List.getElem_toArray, List.getElem_cons_zero, List.getElem_cons_succ, List.setIfInBounds_toArray, List.set_cons_succ, List.set_cons_zero]
  refine Win.pureOp (v := .pointer (some ⟨m, 0, none⟩)) (.inl hne2) rfl rfl (fun w => by rw [Sem.runT_eq]; simp [go_sem, execOp, Act.eval]) ?_
  simp only [Act.put, Act.eval, List.getElem_toArray, List.getElem_cons_zero, List.getElem_cons_succ, List.setIfInBounds_toArray, List.set_cons_succ, List.set_cons_zero]
  refine Win.pureOp (v := .pointer (some ⟨m, 2, none⟩)) (.inl hne2) rfl rfl (fun w => by rw [Sem.runT_eq]; simp [go_sem, execOp, Act.eval]) ?_
  simp only [Act.put, Act.eval, List.getElem_toArray, List.getElem_cons_zero, List.getElem_cons_succ, List.setIfInBounds_toArray, List.set_cons_succ, List.set_cons_zero]
  refine Win.lookOp (v := .int .i64 0) (ad := ⟨m, 2, none⟩) (x := .int .i64 0) (.inl hne2) rfl rfl (hm2) (fun w hc => by rw [Sem.runT_eq]; simp [go_sem, execOp, Act.eval, hc]) ?_
  simp only [Act.put, Act.eval, List.getElem_toArray, List.getElem_cons_zero, List.getElem_cons_succ, List.setIfInBounds_toArray, List.set_cons_succ, List.set_cons_zero]
  refine Win.pureOp (v := .bool true) (.inl hne2) rfl rfl (fun w => by rw [Sem.runT_eq]; simp [go_sem, execOp, Act.eval]) ?_
  simp only [Act.put, Act.eval, List.getElem_toArray, List.getElem_cons_zero, List.getElem_cons_succ, List.setIfInBounds_toArray, List.set_cons_succ, List.set_cons_zero]
  refine Win.opsEnd ?_
  refine Win.cond (t := true) rfl ?_
  simp only [if_true]
  refine Win.seq ?_
  refine Win.region ?_
  simp only [List.size_toArray, List.length_cons, List.length_nil, Nat.reduceAdd, List.range, List.range.loop]
  refine Win.pureOp (v := .pointer (some ⟨m, 0, none⟩)) (.inl hne2) rfl rfl (fun w => rfl) ?_
  simp only [Act.put, Act.eval, List.getElem_toArray, List.getElem_cons_zero, List.getElem_cons_succ, List.setIfInBounds_toArray, List.set_cons_succ, List.set_cons_zero]
  refine Win.pureOp (v := .pointer (some ⟨m, 0, none⟩)) (.inl hne2) rfl rfl (fun w => by rw [Sem.runT_eq]; simp [go_sem, execOp, Act.eval]) ?_
  simp only [Act.put, Act.eval, List.getElem_toArray, List.getElem_cons_zero, List.getElem_cons_succ, List.setIfInBounds_toArray, List.set_cons_succ, List.set_cons_zero]
  refine Win.pureOp (v := .pointer (some ⟨m, 2, none⟩)) (.inl hne2) rfl rfl (fun w => by rw [Sem.runT_eq]; simp [go_sem, execOp, Act.eval]) ?_
  simp only [Act.put, Act.eval, List.getElem_toArray, List.getElem_cons_zero, List.getElem_cons_succ, List.setIfInBounds_toArray, List.set_cons_succ, List.set_cons_zero]
  refine Win.storeOp (ad := ⟨m, 2, none⟩) (x := .int .i64 4096) (.inl hne2) rfl rfl F2 (fun d => by
    rw [Sem.runT_eq]
    obtain ⟨s1, s2⟩ := store_ok (P := Try.prog) (x := .int .i64 4096) (w := w.at d) (m := .plain) (by simp) (by simp) (show (w.at d).cell? ⟨m, 2, none⟩ = some (.int .i64 0) from hm2) (show (w.at d).frozen? ⟨m, 2, none⟩ = false from hf2)
    have c1 : (w.at d).cell? ⟨m, 2, none⟩ = some (.int .i64 0) := hm2
    have c2 : (w.at d).frozen? ⟨m, 2, none⟩ = false := hf2
    generalize w.at d = W at s1 s2 c1 c2 ⊢
    simp [go_sem, execOp, Act.eval, s1, s2, c1, c2]) ?_
  simp only [Act.put, Act.eval, List.getElem_toArray, List.getElem_cons_zero, List.getElem_cons_succ, List.setIfInBounds_toArray, List.set_cons_succ, List.set_cons_zero]
  refine Win.opsEnd ?_
  refine Win.region ?_
  simp only [List.size_toArray, List.length_cons, List.length_nil, Nat.reduceAdd, List.range, List.range.loop]
  refine Win.pureOp (v := .agg #[]) (.inl hne2) rfl rfl (fun w => by rw [Sem.runT_eq]; simp [go_sem, execOp, Act.eval]; try rfl) ?_
  simp only [Act.put, Act.eval, List.getElem_toArray, List.getElem_cons_zero, List.getElem_cons_succ, List.setIfInBounds_toArray, List.set_cons_succ, List.set_cons_zero]
  refine Win.pureOp (v := .iface 126 (.agg #[])) (.inl hne2) rfl rfl (fun w => by rw [Sem.runT_eq]; simp [go_sem, execOp, Act.eval]; try rfl) ?_
  simp only [Act.put, Act.eval, List.getElem_toArray, List.getElem_cons_zero, List.getElem_cons_succ, List.setIfInBounds_toArray, List.set_cons_succ, List.set_cons_zero]
  refine Win.panics (x := .iface 126 (.agg #[])) (.inl hne2) rfl rfl (fun d => ⟨#[], by rw [Sem.runT_eq]; simp [go_sem, execOp, Act.eval]; try rfl, fun e he => by simp at he⟩) ?_
  refine Win.unwinds (chain := [haltE]) rfl rfl rfl ?_
  refine Win.unwinds (chain := [haltE]) rfl rfl rfl ?_
  exact H
end

section
variable {G : Type} {Post : Value → World → Prop} {Sh : World → G → Prop} {SB : Nat → Prop} {pA rA : Nat} {a : Ag} {mv : Value} {home : Goroutine → Prop} {n : Nat}
variable {pl : Nat → Option Place} {F : Nat → Option (Nat × Nat)} {col : Nat → Col} {w : World} {g : G}

theorem Acts.left (h : Acts SB pA rA a mv home true true pl F col w) : Kont Post Sh SB pA rA a mv home n (.ret : Tree G) pl F col w g → Kont Post Sh SB pA rA a mv home n (.ret : Tree G) pl F col (w.setCell ⟨a.m, 2, none⟩ (.int .i64 4096)) g := by
  refine Kont.moves ⟨(ks_setCell w ⟨a.m, 2, none⟩ (.int .i64 4096)).mono fun b hb e => ?_, fun _ _ => rfl, fun b h1 h2 => ?_, fun _ _ => rfl⟩
  · right; left
    have e' : b = a.m := e
    subst e'
    exact ⟨h.cm, h.pm.symm⟩
  · have : (w.setCell ⟨a.m, 2, none⟩ (.int .i64 4096)).heap.size = w.heap.size := by simp [World.setCell]
    omega

/-- The agent is being stopped: it has thrown, and is on its way to its end. -/
structure Ends (SB : Nat → Prop) (pA rA : Nat) (a : Ag) (mv : Value) (home : Goroutine → Prop) (pl : Nat → Option Place) (F : Nat → Option (Nat × Nat)) (col : Nat → Col) (w : World) : Prop where
  jpos : 0 < a.j
  lies : Lies pl F w
  lay : Lay SB pA rA col F w
  seat : ∃ more, pl 0 = some (waitSeat a.p a.cT more home)
  absent : pl a.j = none
  st : ∃ nx bz ov, StAt a mv nx bz ov w
  me : ∃ r l, MeAt a r l w
  fm : F a.m = some (0, 1)
  cm : col a.m = .sys a.j
  cp : col a.p = .sys a.j
  ccT : col a.cT = .sys a.j
  oT : Open a.cT w
theorem Acts.ends {runs ov : Bool} (h : Acts SB pA rA a mv home runs ov pl F col w) : Ends SB pA rA a mv home pl F col w :=
  ⟨h.jpos, h.lies, h.lay, h.seat, h.absent, h.st.elim fun nx h => h.elim fun bz h => ⟨nx, bz, _, h⟩, ⟨_, _, h.me⟩, h.fm, h.cm, h.cp, h.ccT, h.oT⟩

/-- A TOUCH, by the tree. -/
theorem btouch (hSh : ∀ g, Priv SB (fun w => Sh w g)) {k : Int} {φ : Int → Int} {c : Int → G → G} {nx : Int → G → Tree G} {hl : G → G} {c₀ : Frame} {cs : List Frame} {f : FuncId} {cap : Array Value} {own : Nat → Prop} {A : World → Prop} {B : Int → (Nat → Prop) → World → Prop}
    (hA : Acts SB pA rA a mv home true false pl F col w) (hown : ∀ b, own b → col b = .ag a.j) (hP : Priv own A) (hB : ∀ v o, Priv o (B v o)) (hAw : A w) (hs : Sh w g)
    (hfnn : ∃ fn : Func, Try.prog.funcs[f]? = some fn ∧ fn.body.isNone = false) (htouch : ∀ w' s, A w' → Ar w' pA rA s → s.ws.length ≤ 4096 → s.t ≤ 4095 → Bnd s → Calls Try.prog f (#[mv] ++ cap) w' fun e w2 => e = .returned (.tuple #[]) ∧ Ar w2 pA rA (upd s k (φ (was s k))) ∧
        (∃ o, (∀ b, o b → own b ∨ (w'.heap.size ≤ b ∧ b < w2.heap.size)) ∧ B (was s k) o w2) ∧ Ks (fun b => b = pA ∨ b = rA ∨ own b) w' w2)
    (hres : ∀ v o home n pl' F' col' w' g, Acts SB pA rA a mv home true false pl' F' col' w' → (∀ b, o b → col' b = .ag a.j) → B v o w' → Sh w' g → Kont Post Sh SB pA rA a mv home n (nx v g) pl' F' col' w' (c v g) → Win Try.prog Post pl' n a.j (gor (c₀.finish (.tuple #[])) cs) w')
    (hstop : ∀ home n pl' F' col' w' g, Ends SB pA rA a mv home pl' F' col' w' → (∀ b, own b → col' b = .ag a.j) → A w' → Sh w' g → Kont Post Sh SB pA rA a mv home n .ret pl' F' col' w' (hl g) → Win Try.prog Post pl' n a.j (gor (c₀.raise [haltE]) cs) w')
    (K : Kont Post Sh SB pA rA a mv home n (.node k φ c nx hl) pl F col w g) :
    Win Try.prog Post pl n a.j (gor (Frame.enter Try.prog 115 #[.pointer (some ⟨a.m, 0, none⟩), .func (.func f) #[] cap] .normal) (c₀ :: cs)) w := by
  obtain ⟨nxv, bz, hst⟩ := hA.st
  have hme := hA.me
  refine mtouch_in (cell_of_row hme 0) (cell_of_row hme 1) (cell_of_row hst 6) ?_
  refine park hSh hA hown hP hB hAw hs hfnn htouch ?_ ?_ K
  · intro v o home' n' pl' F' col' w' g' hA' ho hb hs' K'
    obtain ⟨nxv', bz', hst'⟩ := hA'.st
    exact mtouch_out (cell_of_row hA'.me 0) (cell_of_row hA'.me 1) (cell_of_row hst' 6) (hres v o home' n' pl' F' col' w' g' hA' ho hb hs' K')
  · intro home' n' pl' F' col' w' g' hA' ho ha hs' K'
    obtain ⟨nxv', bz', hst'⟩ := hA'.st
    refine mtouch_late (cell_of_row hA'.me 0) (cell_of_row hA'.me 1) (cell_of_row hst' 6) (cell_of_row hA'.me 2) (free_of_row hA'.me 2) (hA'.free1 2 (by omega)) ?_
    have kk := ks_setCell w' ⟨a.m, 2, none⟩ (.int .i64 4096)
    have hz : (w'.setCell ⟨a.m, 2, none⟩ (.int .i64 4096)).heap.size = w'.heap.size := by simp [World.setCell]
    refine hstop home' n' pl' F' col' _ g' ⟨hA'.jpos, hA'.lies.setCell _ _, ⟨hA'.lay.free, fun b hb => hA'.lay.above b (by rw [hz] at hb; exact hb), hA'.lay.sb, hA'.lay.ar⟩, hA'.seat, hA'.absent, ⟨nxv', bz', true, kk.row hA'.pm hst'⟩, ⟨true, 4096, ?_⟩, hA'.fm, hA'.cm, hA'.cp, hA'.ccT, hA'.oT.keep kk hA'.pT.2⟩ ho (hP.st _ _ ha fun b hb => ?_) ((hSh g').st _ _ hs' fun b hb => ?_) (hA'.left K')
    · have := heap_setCell_same w' a.m 2 _ _ (.int .i64 4096) hA'.me
      unfold MeAt
      rw [this]
      simp
    · exact kk.block b (hP.lt _ _ ha hb) fun e => by
        have e' : b = a.m := e
        have := ho b hb
        rw [e', hA'.cm] at this; cases this
    · exact kk.block b ((hSh g').lt _ _ hs' hb) fun e => by
        have e' : b = a.m := e
        have := hA'.lay.sb b hb
        rw [e', hA'.cm] at this; cases this
end
end Go.Proofs.Ytodcnhodbeakiaa
