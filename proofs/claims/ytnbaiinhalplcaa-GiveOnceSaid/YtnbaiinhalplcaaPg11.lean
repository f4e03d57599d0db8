/- Package agent, the side of the program: a touch that comes back from a stop throws; and a touch as a whole, by the tree that the program follows. Written by gen/ag_p.py. Package agent: what a touch does, alone: a Read, a Write, an Update of an arena's word. Agents by trees, on: Read, Write and Update, as the program calls them; and its end. In company: a region that draws its order, walked once: whatever the order, each operation finds what it looks at. Of whatever program. Conditions: none. Package agent, the side of who steps: the agent's next touch is done. Written by gen/ag_v.py. Conditions: as each theorem states them. -/
import Derived.Lib.Hide
import Derived.Orders
import Derived.Test.YtnbaiinhalplcaaPg08
import Derived.Test.YtnbaiinhalplcaaPg10
namespace Go.Proofs.Ytnbaiinhalplcaa
open List renaming getElem_toArray → gtA, getElem_cons_zero → gtZ, getElem_cons_succ → gtS, setIfInBounds_toArray → siA, set_cons_succ → scS, set_cons_zero → scZ, getElem?_toArray → gqA, getElem?_cons_zero → gqZ, getElem?_cons_succ → gqS
set_option linter.unusedVariables false
set_option linter.unusedSimpArgs false
set_option maxRecDepth 100000
open Go.Conc

/-- What a stopped program is unwound by. -/
def haltE : PanicEntry := { v := .iface 115 (.agg #[]), recovered := false }

section
variable {pl : Nat → Option Place} {n h : Nat} {Post : Value → World → Prop} {w : World}

/-- Behind a stop: the touch throws. -/
theorem mtouch_late {c : Frame} {cs : List Frame} {p m : Nat} {t : Value} (hm0 : w.cell? ⟨m, 0, none⟩ = some (.pointer (some ⟨p, 0, none⟩))) (hm1 : w.cell? ⟨m, 1, none⟩ = some (.bool true)) (hp6 : w.cell? ⟨p, 6, none⟩ = some (.bool true)) (hm2 : w.cell? ⟨m, 2, none⟩ = some (.int .i64 0)) (hf2 : w.frozen? ⟨m, 2, none⟩ = false) (F2 : Free pl ⟨m, 2, none⟩)
    (H : Win Try.prog Post pl n h (gor (c.raise [haltE]) cs) (w.setCell ⟨m, 2, none⟩ (.int .i64 4096))) : Win Try.prog Post pl n h (gor ((touchFr Try.prog Try.f101 p m t).finish (.tuple #[])) (c :: cs)) w := by
  unfold touchFr
  rw [Frame.finish_at]
  have hne : (Frame.enter Try.prog 101 #[.pointer (some ⟨m, 0, none⟩), t] CallKind.normal).kind = .normal := rfl
  simp only [bodyOf, Try.f101, codeL, codeR, condT, regOps, Option.getD_some]
  simp only [Act.put, Act.eval, gqA, gqZ, gqS, Option.bind_some, gtA, gtZ, gtS, siA, scS, scZ]
  refine Win.opsEnd ?_
  refine Win.seq ?_
  refine Win.region ?_
  simp only [List.size_toArray, List.length_cons, List.length_nil, Nat.reduceAdd, List.range, List.range.loop]
  refine Win.pureOp (v := .pointer (some ⟨m, 0, none⟩)) (.inl hne) rfl rfl (fun w => rfl) ?_
  simp only [Act.put, Act.eval, gtA, gtZ, gtS, siA, scS, scZ]
  refine Win.pureOp (v := .pointer (some ⟨m, 0, none⟩)) (.inl hne) rfl rfl (fun w => by rw [Sem.runT_eq]; simp [go_sem, execOp, Act.eval]) ?_
  simp only [Act.put, Act.eval, gtA, gtZ, gtS, siA, scS, scZ]
  refine Win.pureOp (v := .pointer (some ⟨m, 1, none⟩)) (.inl hne) rfl rfl (fun w => by rw [Sem.runT_eq]; simp [go_sem, execOp, Act.eval]) ?_
  simp only [Act.put, Act.eval, gtA, gtZ, gtS, siA, scS, scZ]
  refine Win.lookOp (v := .bool true) (ad := ⟨m, 1, none⟩) (x := .bool true) (.inl hne) rfl rfl (hm1) (fun w hc => by rw [Sem.runT_eq]; simp [go_sem, execOp, Act.eval, hc]) ?_
  simp only [Act.put, Act.eval, gtA, gtZ, gtS, siA, scS, scZ]
  refine Win.pureOp (v := .bool true) (.inl hne) rfl rfl (fun w => rfl) ?_
  simp only [Act.put, Act.eval, gtA, gtZ, gtS, siA, scS, scZ]
  refine Win.pureOp (v := .pointer (some ⟨m, 0, none⟩)) (.inl hne) rfl rfl (fun w => rfl) ?_
  simp only [Act.put, Act.eval, gtA, gtZ, gtS, siA, scS, scZ]
  refine Win.pureOp (v := .pointer (some ⟨m, 0, none⟩)) (.inl hne) rfl rfl (fun w => by rw [Sem.runT_eq]; simp [go_sem, execOp, Act.eval]) ?_
  simp only [Act.put, Act.eval, gtA, gtZ, gtS, siA, scS, scZ]
  refine Win.pureOp (v := .pointer (some ⟨m, 0, none⟩)) (.inl hne) rfl rfl (fun w => by rw [Sem.runT_eq]; simp [go_sem, execOp, Act.eval]) ?_
  simp only [Act.put, Act.eval, gtA, gtZ, gtS, siA, scS, scZ]
  refine Win.lookOp (v := .pointer (some ⟨p, 0, none⟩)) (ad := ⟨m, 0, none⟩) (x := .pointer (some ⟨p, 0, none⟩)) (.inl hne) rfl rfl (hm0) (fun w hc => by rw [Sem.runT_eq]; simp [go_sem, execOp, Act.eval, hc]) ?_
  simp only [Act.put, Act.eval, gtA, gtZ, gtS, siA, scS, scZ]
  refine Win.pureOp (v := .pointer (some ⟨p, 0, none⟩)) (.inl hne) rfl rfl (fun w => by rw [Sem.runT_eq]; simp [go_sem, execOp, Act.eval]) ?_
  simp only [Act.put, Act.eval, gtA, gtZ, gtS, siA, scS, scZ]
  refine Win.pureOp (v := .pointer (some ⟨p, 6, none⟩)) (.inl hne) rfl rfl (fun w => by rw [Sem.runT_eq]; simp [go_sem, execOp, Act.eval]) ?_
  simp only [Act.put, Act.eval, gtA, gtZ, gtS, siA, scS, scZ]
  refine Win.lookOp (v := .bool true) (ad := ⟨p, 6, none⟩) (x := .bool true) (.inl hne) rfl rfl (hp6) (fun w hc => by rw [Sem.runT_eq]; simp [go_sem, execOp, Act.eval, hc]) ?_
  simp only [Act.put, Act.eval, gtA, gtZ, gtS, siA, scS, scZ]
  refine Win.pureOp (v := .bool true) (.inl hne) rfl rfl (fun w => rfl) ?_
  simp only [Act.put, Act.eval, gtA, gtZ, gtS, siA, scS, scZ]
  refine Win.opsEnd ?_
  refine Win.cond (t := true) rfl ?_
  simp only [if_true]
  refine Win.region ?_
  simp only [List.size_toArray, List.length_cons, List.length_nil, Nat.reduceAdd, List.range, List.range.loop]
  refine Win.pureOp (v := .pointer (some ⟨m, 0, none⟩)) (.inl hne) rfl rfl (fun w => rfl) ?_
  simp only [Act.put, Act.eval, gtA, gtZ, gtS, siA, scS, scZ]
  refine Win.enter (f := 100) (args := #[.pointer (some ⟨m, 0, none⟩)]) (.inl hne) rfl rfl (fun d => ⟨#[], call_enter mild.toMild Try.func100 rfl rfl rfl rfl _ _ (by simp [Act.eval]), fun e he => by simp at he⟩) ?_
  have hne2 : (Frame.enter Try.prog 100 #[.pointer (some ⟨m, 0, none⟩)] CallKind.normal).kind = .normal := rfl
  rw [enter_at Try.func100 rfl]
  simp only [Try.ntmps100, List.size_toArray, List.length_cons, List.length_nil, Nat.reduceAdd, Nat.reduceSub, Array.replicate_succ, Array.replicate_zero, List.push_toArray, List.append_toArray, List.nil_append, List.cons_append]
  refine Win.seq ?_
  refine Win.seq ?_
  refine Win.region ?_
  simp only [List.size_toArray, List.length_cons, List.length_nil, Nat.reduceAdd, List.range, List.range.loop]
  refine Win.pureOp (v := .pointer (some ⟨m, 0, none⟩)) (.inl hne2) rfl rfl (fun w => rfl) ?_
  simp only [Act.put, Act.eval, gtA, gtZ, gtS, siA, scS, scZ]
  refine Win.pureOp (v := .pointer (some ⟨m, 0, none⟩)) (.inl hne2) rfl rfl (fun w => by rw [Sem.runT_eq]; simp [go_sem, execOp, Act.eval]) ?_
  simp only [Act.put, Act.eval, gtA, gtZ, gtS, siA, scS, scZ]
  refine Win.pureOp (v := .pointer (some ⟨m, 2, none⟩)) (.inl hne2) rfl rfl (fun w => by rw [Sem.runT_eq]; simp [go_sem, execOp, Act.eval]) ?_
  simp only [Act.put, Act.eval, gtA, gtZ, gtS, siA, scS, scZ]
  refine Win.lookOp (v := .int .i64 0) (ad := ⟨m, 2, none⟩) (x := .int .i64 0) (.inl hne2) rfl rfl (hm2) (fun w hc => by rw [Sem.runT_eq]; simp [go_sem, execOp, Act.eval, hc]) ?_
  simp only [Act.put, Act.eval, gtA, gtZ, gtS, siA, scS, scZ]
  refine Win.pureOp (v := .bool true) (.inl hne2) rfl rfl (fun w => by rw [Sem.runT_eq]; simp [go_sem, execOp, Act.eval]) ?_
  simp only [Act.put, Act.eval, gtA, gtZ, gtS, siA, scS, scZ]
  refine Win.opsEnd ?_
  refine Win.cond (t := true) rfl ?_
  simp only [if_true]
  refine Win.seq ?_
  refine Win.region ?_
  simp only [List.size_toArray, List.length_cons, List.length_nil, Nat.reduceAdd, List.range, List.range.loop]
  refine Win.pureOp (v := .pointer (some ⟨m, 0, none⟩)) (.inl hne2) rfl rfl (fun w => rfl) ?_
  simp only [Act.put, Act.eval, gtA, gtZ, gtS, siA, scS, scZ]
  refine Win.pureOp (v := .pointer (some ⟨m, 0, none⟩)) (.inl hne2) rfl rfl (fun w => by rw [Sem.runT_eq]; simp [go_sem, execOp, Act.eval]) ?_
  simp only [Act.put, Act.eval, gtA, gtZ, gtS, siA, scS, scZ]
  refine Win.pureOp (v := .pointer (some ⟨m, 2, none⟩)) (.inl hne2) rfl rfl (fun w => by rw [Sem.runT_eq]; simp [go_sem, execOp, Act.eval]) ?_
  simp only [Act.put, Act.eval, gtA, gtZ, gtS, siA, scS, scZ]
  refine Win.storeOp (ad := ⟨m, 2, none⟩) (x := .int .i64 4096) (.inl hne2) rfl rfl F2 (fun d => by
    rw [Sem.runT_eq]
    obtain ⟨s1, s2⟩ := store_ok (P := Try.prog) (x := .int .i64 4096) (w := w.at d) (m := .plain) (by simp) (by simp) (show (w.at d).cell? ⟨m, 2, none⟩ = some (.int .i64 0) from hm2) (show (w.at d).frozen? ⟨m, 2, none⟩ = false from hf2)
    have c1 : (w.at d).cell? ⟨m, 2, none⟩ = some (.int .i64 0) := hm2
    have c2 : (w.at d).frozen? ⟨m, 2, none⟩ = false := hf2
    generalize w.at d = W at s1 s2 c1 c2 ⊢
    simp [go_sem, execOp, Act.eval, s1, s2, c1, c2]) ?_
  simp only [Act.put, Act.eval, gtA, gtZ, gtS, siA, scS, scZ]
  refine Win.opsEnd ?_
  refine Win.region ?_
  simp only [List.size_toArray, List.length_cons, List.length_nil, Nat.reduceAdd, List.range, List.range.loop]
  refine Win.pureOp (v := .agg #[]) (.inl hne2) rfl rfl (fun w => by rw [Sem.runT_eq]; simp [go_sem, execOp, Act.eval]; try rfl) ?_
  simp only [Act.put, Act.eval, gtA, gtZ, gtS, siA, scS, scZ]
  refine Win.pureOp (v := .iface 115 (.agg #[])) (.inl hne2) rfl rfl (fun w => by rw [Sem.runT_eq]; simp [go_sem, execOp, Act.eval]; try rfl) ?_
  simp only [Act.put, Act.eval, gtA, gtZ, gtS, siA, scS, scZ]
  refine Win.panics (x := .iface 115 (.agg #[])) (.inl hne2) rfl rfl (fun d => ⟨#[], by rw [Sem.runT_eq]; simp [go_sem, execOp, Act.eval]; try rfl, fun e he => by simp at he⟩) ?_
  refine Win.unwinds (chain := [haltE]) rfl rfl rfl ?_
  refine Win.unwinds (chain := [haltE]) rfl rfl rfl ?_
  exact H
end

section
variable {G : Type} {Post : Value → World → Prop} {Sh : (Nat → Col) → World → G → Prop} {SB : Nat → Prop} {pA rA : Nat} {a : Ag} {mv : Value} {home : Goroutine → Prop} {n : Nat}
variable {pl : Nat → Option Place} {F : Nat → Option (Nat × Nat)} {col : Nat → Col} {w : World} {g : G}

theorem Acts.left (h : Acts SB pA rA a mv home true true pl F col w) : Kont Post Sh SB pA rA a mv home n (.ret : Tree G) pl F col w g → Kont Post Sh SB pA rA a mv home n (.ret : Tree G) pl F col (w.setCell ⟨a.m, 2, none⟩ (.int .i64 4096)) g := by
  refine Kont.moves ⟨(ks_setCell w ⟨a.m, 2, none⟩ (.int .i64 4096)).mono fun b hb e => ?_, fun _ _ => rfl, fun b h1 h2 => ?_, fun _ _ => rfl⟩
  · right; left
    have e' : b = a.m := e
    subst e'
    exact ⟨h.cm, h.pm.symm⟩
  · have : (w.setCell ⟨a.m, 2, none⟩ (.int .i64 4096)).heap.size = w.heap.size := by simp [World.setCell]
    omega

/-- The agent is being stopped: it has thrown, and is on its way to its end. -/
structure Ends (SB : Nat → Prop) (pA rA : Nat) (a : Ag) (mv : Value) (home : Goroutine → Prop) (pl : Nat → Option Place) (F : Nat → Option (Nat × Nat)) (col : Nat → Col) (w : World) : Prop where
  jpos : 0 < a.j
  lies : Lies pl F w
  lay : Lay SB pA rA col F w
  seat : ∃ more, pl 0 = some (waitSeat a.p a.cT more home)
  absent : pl a.j = none
  st : ∃ nx bz ov, StAt a mv nx bz ov w
  me : ∃ r l, MeAt a r l w
  fm : F a.m = some (0, 1)
  cm : col a.m = .sys a.j
  cp : col a.p = .sys a.j
  ccT : col a.cT = .sys a.j
  oT : Open a.cT w
theorem Acts.ends {runs ov : Bool} (h : Acts SB pA rA a mv home runs ov pl F col w) : Ends SB pA rA a mv home pl F col w :=
  ⟨h.jpos, h.lies, h.lay, h.seat, h.absent, h.st.elim fun nx h => h.elim fun bz h => ⟨nx, bz, _, h⟩, ⟨_, _, h.me⟩, h.fm, h.cm, h.cp, h.ccT, h.oT⟩

/-- A TOUCH, by the tree. -/
theorem btouch (hSh : Shar Sh) {k : Int} {φ : Int → Int} {c : Int → G → G} {nx : Int → G → Tree G} {hl : G → G} {pre : G → Prop} {c₀ : Frame} {cs : List Frame} {f : FuncId} {cap : Array Value} {own : Nat → Prop} {A : World → Prop} {B : Int → (Nat → Prop) → World → Prop}
    (hA : Acts SB pA rA a mv home true false pl F col w) (hown : ∀ b, own b → col b = .ag a.j) (hP : Priv own A) (hB : ∀ v o, Priv o (B v o)) (hAw : A w) (hs : Sh col w g)
    (hfnn : ∃ fn : Func, Try.prog.funcs[f]? = some fn ∧ fn.body.isNone = false) (htouch : ∀ w' s, A w' → Ar w' pA rA s → s.ws.length ≤ 4096 → s.t ≤ 4095 → Bnd s → Calls Try.prog f (#[mv] ++ cap) w' fun e w2 => e = .returned (.tuple #[]) ∧ Ar w2 pA rA (upd s k (φ (was s k))) ∧
        (∃ o, (∀ b, o b → own b ∨ (w'.heap.size ≤ b ∧ b < w2.heap.size)) ∧ B (was s k) o w2) ∧ Ks (fun b => b = pA ∨ b = rA ∨ own b) w' w2)
    (hres : ∀ v o home n pl' F' col' w' g, Acts SB pA rA a mv home true false pl' F' col' w' → (∀ b, o b → col' b = .ag a.j) → B v o w' → Sh col' w' g → pre g → Kont Post Sh SB pA rA a mv home n (nx v g) pl' F' col' w' (c v g) → Win Try.prog Post pl' n a.j (gor (c₀.finish (.tuple #[])) cs) w')
    (hstop : ∀ home n pl' F' col' w' g, Ends SB pA rA a mv home pl' F' col' w' → (∀ b, own b → col' b = .ag a.j) → A w' → Sh col' w' g → pre g → Kont Post Sh SB pA rA a mv home n .ret pl' F' col' w' (hl g) → Win Try.prog Post pl' n a.j (gor (c₀.raise [haltE]) cs) w')
    (K : Kont Post Sh SB pA rA a mv home n (.node k φ c nx hl pre) pl F col w g) :
    Win Try.prog Post pl n a.j (gor (Frame.enter Try.prog 101 #[.pointer (some ⟨a.m, 0, none⟩), .func (.func f) #[] cap] .normal) (c₀ :: cs)) w := by
  obtain ⟨nxv, bz, hst⟩ := hA.st
  have hme := hA.me
  refine mtouch_in (cell_of_row hme 0) (cell_of_row hme 1) (cell_of_row hst 6) ?_
  refine park hSh hA hown hP hB hAw hs hfnn htouch ?_ ?_ K
  · intro v o home' n' pl' F' col' w' g' hA' ho hb hs' hp' K'
    obtain ⟨nxv', bz', hst'⟩ := hA'.st
    exact mtouch_out (cell_of_row hA'.me 0) (cell_of_row hA'.me 1) (cell_of_row hst' 6) (hres v o home' n' pl' F' col' w' g' hA' ho hb hs' hp' K')
  · intro home' n' pl' F' col' w' g' hA' ho ha hs' hp' K'
    obtain ⟨nxv', bz', hst'⟩ := hA'.st
    refine mtouch_late (cell_of_row hA'.me 0) (cell_of_row hA'.me 1) (cell_of_row hst' 6) (cell_of_row hA'.me 2) (free_of_row hA'.me 2) (hA'.free1 2 (by omega)) ?_
    have kk := ks_setCell w' ⟨a.m, 2, none⟩ (.int .i64 4096)
    have hz : (w'.setCell ⟨a.m, 2, none⟩ (.int .i64 4096)).heap.size = w'.heap.size := by simp [World.setCell]
    refine hstop home' n' pl' F' col' _ g' ⟨hA'.jpos, hA'.lies.setCell _ _, ⟨hA'.lay.free, fun b hb => hA'.lay.above b (by rw [hz] at hb; exact hb), hA'.lay.sb, hA'.lay.ar⟩, hA'.seat, hA'.absent, ⟨nxv', bz', true, kk.row hA'.pm hst'⟩, ⟨true, 4096, ?_⟩, hA'.fm, hA'.cm, hA'.cp, hA'.ccT, hA'.oT.keep kk hA'.pT.2⟩ ho (hP.st _ _ ha fun b hb => ?_) (hSh.st _ _ _ _ _ hs' (fun b hb => ?_) fun _ hb => hb) hp' (hA'.left K')
    · have := heap_setCell_same w' a.m 2 _ _ (.int .i64 4096) hA'.me
      unfold MeAt
      rw [this]
      simp
    · exact kk.block b (hP.lt _ _ ha hb) fun e => by
        have e' : b = a.m := e
        have := ho b hb
        rw [e', hA'.cm] at this; cases this
    · exact kk.block b (hA'.lay.ltS hb) fun e => by
        have e' : b = a.m := e
        have := hb
        rw [e', hA'.cm] at this; cases this
end
end Go.Proofs.Ytnbaiinhalplcaa

namespace Go.Proofs.Ytnbaiinhalplcaa
open List renaming getElem?_toArray → gqA, getElem?_cons_zero → gqZ
set_option linter.unusedVariables false
set_option linter.unusedSimpArgs false
open Go.RowKit

abbrev memV (pA : Nat) : Value := .iface 25 (.pointer (some ⟨pA, 0, none⟩))

theorem tch_write {w : World} {pA rA bA bX : Nat} {s : St} {k y : Int} (h : Ar w pA rA s) (hn : s.ws.length ≤ 4096) (ht : s.t ≤ 4095) (hA : w.heap[bA]? = some (.cells #[.int .i64 k] 3 (0, 0))) (hX : w.heap[bX]? = some (.cells #[.int .u64 y] 49 (0, 0))) :
    Calls Try.prog 104 #[memV pA, .pointer (some ⟨bA, 0, none⟩), .pointer (some ⟨bX, 0, none⟩)] w fun e w2 => e = .returned (.tuple #[]) ∧ Ar w2 pA rA (upd s k y) ∧ Kp [pA, rA] w w2 := by
  have hr := Lib.hid (write_any w pA rA s k y h hn (by omega))
  have cA := cell_of_row hA 0
  have cX := cell_of_row hX 0
  simp only [gqA, gqZ] at cA cX
  clear hX hA h
  go_enter Try.func104, Try.ntmps104
  go_wp2_with fail
  refine hr.out.mono ?_
  rintro e w1 ⟨rfl, ha, hk⟩
  have HA := Lib.hid ha
  have HK := Lib.hid hk
  clear ha hk hr
  go_wp2
  go_end0
  exact ⟨rfl, HA.out, HK.out⟩

end Go.Proofs.Ytnbaiinhalplcaa

namespace Go.Proofs.Ytnbaiinhalplcaa
set_option linter.unusedVariables false
set_option linter.unusedSimpArgs false
set_option maxRecDepth 100000
open Go.Conc

section
variable {G : Type} {Post : Value → World → Prop} {Sh : (Nat → Col) → World → G → Prop} {SB : Nat → Prop} {pA rA : Nat} {a : Ag} {mv : Value} {home : Goroutine → Prop} {n : Nat} {T : Tree G} {runs ov : Bool}
variable {pl pl' : Nat → Option Place} {F F' F1 : Nat → Option (Nat × Nat)} {col col' col1 : Nat → Col} {w w' w1 : World} {g : G} {S : Nat → Prop}

/-- Whose the blocks are behind memory that the agent has made. -/
def grown (j : Nat) (col : Nat → Col) (w w1 : World) (b : Nat) : Col := if w.heap.size ≤ b ∧ b < w1.heap.size then .ag j else col b
theorem grown_new {j b : Nat} (h1 : w.heap.size ≤ b) (h2 : b < w1.heap.size) : grown j col w w1 b = .ag j := if_pos ⟨h1, h2⟩
theorem grown_old {j b : Nat} (h1 : b < w.heap.size) : grown j col w w1 b = col b := if_neg (by omega)
theorem grown_ag {j b : Nat} {i : Nat} (L : Lay SB pA rA col F w) (h : col b = .ag i) : grown j col w w1 b = .ag i := by
  rw [grown_old, h]
  rcases Nat.lt_or_ge b w.heap.size with z | z
  · exact z
  · rw [L.above b z] at h; cases h

theorem Acts.grow (h : Acts SB pA rA a mv home runs ov pl F col w) (k : Ks (fun _ => False) w w1) (hL : Lies pl F w1) : Acts SB pA rA a mv home runs ov pl F (grown a.j col w w1) w1 ∧ Moves (mine a col) a.j F col w F (grown a.j col w w1) w1 :=
  ⟨h.plain k hL (fun b hb => hb.elim), (moves_plain k (fun b _ hb => hb.elim)).mono fun b _ hb => hb.elim⟩
theorem Priv.grow {own : Nat → Prop} {A : World → Prop} (hP : Priv own A) (h : A w) (k : Ks (fun _ => False) w w1) : A w1 := hP.st _ _ h fun b hb => k.block b (hP.lt _ _ h hb) fun z => z

/-- The agent's own move: it turns its own, and what is shared; and makes memory. -/
theorem Acts.turn (h : Acts SB pA rA a mv home runs ov pl F col w) (k : Ks S w w1) (hL : Lies pl F w1) (hS : ∀ b, S b → col b = .ag a.j ∨ col b = .shared) : Acts SB pA rA a mv home runs ov pl F (grown a.j col w w1) w1 ∧ Moves (mine a col) a.j F col w F (grown a.j col w w1) w1 :=
  ⟨h.plain k hL hS, (moves_plain k (fun b _ hb => by rcases hS b hb with z | z <;> rw [z] <;> rfl)).mono fun b _ hb => (hS b hb).imp id fun z => .inr z⟩

theorem rich_cells {w : World} {b : Nat} {c : Array Value} {t : TypeId} {f : Nat × Nat} (h : w.heap[b]? = some (.cells c t f)) : poor w.heap[b]? = false := by rw [h]; rfl

set_option maxHeartbeats 1000000 in
/-- A WRITE. -/
theorem bwrite (hSh : Shar Sh) (hmv : mv = memV pA) {k y : Int} {c : Int → G → G} {nx : Int → G → Tree G} {hl : G → G} {pre : G → Prop} {c₀ : Frame} {cs : List Frame} {own : Nat → Prop} {A : World → Prop}
    (hA : Acts SB pA rA a mv home true false pl F col w) (hown : ∀ b, own b → col b = .ag a.j) (hP : Priv own A) (hAw : A w) (hs : Sh col w g)
    (hres : ∀ v home n pl' F' col' w' g, Acts SB pA rA a mv home true false pl' F' col' w' → (∀ b, own b → col' b = .ag a.j) → A w' → Sh col' w' g → pre g → Kont Post Sh SB pA rA a mv home n (nx v g) pl' F' col' w' (c v g) → Win Try.prog Post pl' n a.j (gor (c₀.finish (.tuple #[])) cs) w')
    (hstop : ∀ home n pl' F' col' w' g, Ends SB pA rA a mv home pl' F' col' w' → (∀ b, own b → col' b = .ag a.j) → A w' → Sh col' w' g → pre g → Kont Post Sh SB pA rA a mv home n .ret pl' F' col' w' (hl g) → Win Try.prog Post pl' n a.j (gor (c₀.raise [haltE]) cs) w')
    (K : Kont Post Sh SB pA rA a mv home n (.node k (fun _ => y) c nx hl pre) pl F col w g) :
    Win Try.prog Post pl n a.j (gor (Frame.enter Try.prog 99 #[.pointer (some ⟨a.m, 0, none⟩), .int .i64 k, .int .u64 y] .normal) (c₀ :: cs)) w := by
  have hL2 := (hA.lies.alloc (.cells #[.int .i64 k] 3)).alloc (.cells #[.int .u64 y] 49)
  have k2 : Ks (fun _ => False) w ((w.alloc (.cells #[.int .i64 k] 3)).alloc (.cells #[.int .u64 y] 49)) := (ks_alloc _ w _).trans (ks_alloc _ _ _)
  have hbA : ((w.alloc (.cells #[.int .i64 k] 3)).alloc (.cells #[.int .u64 y] 49)).heap[w.heap.size]? = some (.cells #[.int .i64 k] 3 (0, 0)) := (alloc_heap _ _ _ (by show _ < (w.heap.push _).size; simp)).trans (alloc_new w _)
  have hbV : ((w.alloc (.cells #[.int .i64 k] 3)).alloc (.cells #[.int .u64 y] 49)).heap[w.heap.size + 1]? = some (.cells #[.int .u64 y] 49 (0, 0)) := by
    have := alloc_new (w.alloc (.cells #[.int .i64 k] 3)) (.cells #[.int .u64 y] 49)
    rw [show (w.alloc (.cells #[.int .i64 k] 3)).heap.size = w.heap.size + 1 from Array.size_push _] at this
    exact this
  have hz : ((w.alloc (.cells #[.int .i64 k] 3)).alloc (.cells #[.int .u64 y] 49)).heap.size = w.heap.size + 2 := by
    show (Array.push (Array.push _ _) _).size = _
    simp
  refine write_in hA.lies ?_
  obtain ⟨hA2, hM⟩ := hA.grow k2 hL2
  have hAw2 := hP.grow hAw k2
  have hs2 := hSh.grow (j := a.j) hA.lay hs k2
  have hcA : pA < w.heap.size := by
    rcases Nat.lt_or_ge pA w.heap.size with z | z
    · exact z
    · have := hA.lay.ar.1; rw [hA.lay.above _ z] at this; cases this
  have hcR : rA < w.heap.size := by
    rcases Nat.lt_or_ge rA w.heap.size with z | z
    · exact z
    · have := hA.lay.ar.2; rw [hA.lay.above _ z] at this; cases this
  generalize (w.alloc (.cells #[.int .i64 k] 3)).alloc (.cells #[.int .u64 y] 49) = w2 at *
  have holt : ∀ b, own b → b < w.heap.size := fun b hb => hP.lt _ _ hAw hb
  refine btouch hSh (own := fun b => own b ∨ b = w.heap.size ∨ b = w.heap.size + 1) (A := fun w' => A w' ∧ w'.heap[w.heap.size]? = some (.cells #[.int .i64 k] 3 (0, 0)) ∧ w'.heap[w.heap.size + 1]? = some (.cells #[.int .u64 y] 49 (0, 0)))
    (B := fun v o w' => (∀ b, own b ↔ o b) ∧ A w') hA2 ?_ ?_ ?_ ⟨hAw2, hbA, hbV⟩ hs2 ⟨_, Try.func104, rfl⟩ ?_ ?_ ?_ (Kont.moves hM K)
  · rintro b (hb | rfl | rfl)
    · exact grown_ag hA.lay (hown b hb)
    · exact grown_new (Nat.le_refl _) (by omega)
    · exact grown_new (by omega) (by omega)
  · refine ⟨fun u u' ⟨h1, h2, h3⟩ he => ⟨hP.st _ _ h1 fun b hb => he b (.inl hb), (he _ (.inr (.inl rfl))).trans h2, (he _ (.inr (.inr rfl))).trans h3⟩, fun u b ⟨h1, h2, h3⟩ hb => ?_, fun u b ⟨h1, h2, h3⟩ hb => ?_⟩
    · rcases hb with hb | rfl | rfl
      · exact hP.np _ _ h1 hb
      · exact rich_cells h2
      · exact rich_cells h3
    · rcases hb with hb | rfl | rfl
      · exact hP.lt _ _ h1 hb
      · exact lt_of_block h2
      · exact lt_of_block h3
  · intro v o
    exact ⟨fun u u' ⟨h0, h1⟩ he => ⟨h0, hP.st _ _ h1 fun b hb => he b ((h0 b).1 hb)⟩, fun u b ⟨h0, h1⟩ hb => hP.np _ _ h1 ((h0 b).2 hb), fun u b ⟨h0, h1⟩ hb => hP.lt _ _ h1 ((h0 b).2 hb)⟩
  · intro u s ⟨h1, h2, h3⟩ har hn ht hbn
    subst hmv
    refine (tch_write har hn ht h2 h3).mono ?_
    rintro e u2 ⟨he, ha, hk⟩
    have hk' := ks_of_kp hk
    refine ⟨he, ha, ⟨own, fun b hb => .inl (.inl hb), fun b => Iff.rfl, hP.st _ _ h1 fun b hb => hk'.block b (hP.lt _ _ h1 hb) ?_⟩, hk'.mono fun b _ hb => ?_⟩
    · have hc := hown b hb
      intro hx
      simp only [List.mem_cons, List.not_mem_nil, or_false] at hx
      rcases hx with rfl | rfl
      · rw [hA.lay.ar.1] at hc; cases hc
      · rw [hA.lay.ar.2] at hc; cases hc
    · simp only [List.mem_cons, List.not_mem_nil, or_false] at hb
      rcases hb with rfl | rfl
      · exact .inl rfl
      · exact .inr (.inl rfl)
  · intro v o home' n' pl' F' col' w' g' hA' ho hb hs' hp' K'
    obtain ⟨h0, h1⟩ := hb
    exact write_out (hres v home' n' pl' F' _ _ g' hA' (fun b hb => ho b ((h0 b).1 hb)) h1 hs' hp' K')
  · intro home' n' pl' F' col' w' g' hE ho ha hs' hp' K'
    have hne : (Frame.enter Try.prog 99 #[.pointer (some ⟨a.m, 0, none⟩), .int .i64 k, .int .u64 y] CallKind.normal).kind = .normal := rfl
    refine Win.unwinds (chain := [haltE]) rfl rfl rfl ?_
    exact hstop home' n' pl' F' col' w' g' hE (fun b hb => ho b (.inl hb)) ha.1 hs' hp' K'
end
end Go.Proofs.Ytnbaiinhalplcaa

namespace Go.Proofs.Ytnbaiinhalplcaa
set_option linter.unusedVariables false
set_option linter.unusedSimpArgs false
open Go.Conc

/-- Each operation writes a slot of its own, and waits for those whose slots it looks at. -/
def neat (ops : Array Oper) (n : Nat) : Bool :=
  (List.range ops.size).all fun i => match ops[i]? with
    | none => true
    | some o => (match o.op with | .select .. => false | _ => true) && (match o.dst with | some d => decide (d < n) | none => true) && (o.after.all fun e => !Region.binds .any e || decide (e.on < i)) &&
      ((List.range ops.size).all fun j => match ops[j]? with
        | none => true
        | some oj => match oj.dst with
          | none => true
          | some t => (j == i || o.dst != some t) && (!(o.looksAt ops).contains t || o.after.any (fun e => Region.binds .any e && e.on == j)))

structure Neat (ops : Array Oper) (n : Nat) : Prop where
  sel : ∀ (i : Nat) (o : Oper), ops[i]? = some o → ∀ cs b, o.op ≠ .select cs b
  fits : ∀ (i : Nat) (o : Oper) (d : Tmp), ops[i]? = some o → o.dst = some d → d < n
  topo : ∀ (i : Nat) (o : Oper), ops[i]? = some o → ∀ e ∈ o.after, Region.binds .any e = true → e.on < i
  own : ∀ (i j : Nat) (oi oj : Oper) (d : Tmp), ops[i]? = some oi → ops[j]? = some oj → oi.dst = some d → oj.dst = some d → i = j
  wired : ∀ (i j : Nat) (oi oj : Oper) (t : Tmp), ops[i]? = some oi → ops[j]? = some oj → oj.dst = some t → t ∈ oi.looksAt ops → ∃ e ∈ oi.after, Region.binds .any e = true ∧ e.on = j

theorem neat_of {ops : Array Oper} {n : Nat} (h : neat ops n = true) : Neat ops n := by
  unfold neat at h
  rw [List.all_eq_true] at h
  have h1 : ∀ (i : Nat) (o : Oper), ops[i]? = some o → (((match o.op with | .select .. => false | _ => true) = true ∧ (match o.dst with | some d => decide (d < n) | none => true) = true) ∧ ∀ e ∈ o.after, (!Region.binds .any e || decide (e.on < i)) = true) ∧
      ∀ j, j < ops.size → (match ops[j]? with
        | none => true
        | some oj => match oj.dst with
          | none => true
          | some t => (j == i || o.dst != some t) && (!(o.looksAt ops).contains t || o.after.any (fun e => Region.binds .any e && e.on == j))) = true := fun i o ho => by
    have := h i (List.mem_range.2 (Array.getElem?_eq_some_iff.1 ho).1)
    rw [ho] at this
    simp only [Bool.and_eq_true, Array.all_eq_true_iff_forall_mem, List.all_eq_true, List.mem_range] at this
    exact this
  refine ⟨fun i o ho cs b e => ?_, fun i o d ho hd => ?_, fun i o ho e he hb => ?_, fun i j oi oj d hi hj hdi hdj => ?_, fun i j oi oj t hi hj hdj ht => ?_⟩
  · have := (h1 i o ho).1.1.1
    rw [e] at this; cases this
  · have := (h1 i o ho).1.1.2
    rw [hd] at this; simpa using this
  · have := (h1 i o ho).1.2 e he
    rw [hb] at this; simpa using this
  · have := (h1 i oi hi).2 j (Array.getElem?_eq_some_iff.1 hj).1
    rw [hj] at this
    simp only [hdj, hdi, Bool.and_eq_true, bne_self_eq_false, Bool.or_false, beq_iff_eq] at this
    exact this.1.symm
  · have := (h1 i oi hi).2 j (Array.getElem?_eq_some_iff.1 hj).1
    rw [hj] at this
    simp only [hdj, Bool.and_eq_true] at this
    have h2 := this.2
    rw [Bool.or_eq_true] at h2
    rcases h2 with h2 | h2
    · simp [ht] at h2
    · obtain ⟨e, he, hb⟩ := Array.any_eq_true'.1 h2
      simp only [Bool.and_eq_true, beq_iff_eq] at hb
      exact ⟨e, he, hb.1, hb.2⟩

/-- The slots, where X has been done, with the values V. -/
structure Fill (ops : Array Oper) (V : Nat → Value) (X : Array Bool) (a0 a : Act) : Prop where
  defers : a.defers = a0.defers
  size : a.tmps.size = a0.tmps.size
  done : ∀ (i : Nat) (o : Oper) (d : Tmp), ops[i]? = some o → o.dst = some d → X.getD i false = true → a.tmps[d]? = some (V i)
  rest : ∀ t : Tmp, (∀ (i : Nat) (o : Oper), ops[i]? = some o → o.dst = some t → X.getD i false = false) → a.tmps[t]? = a0.tmps[t]?

section
variable {ops : Array Oper} {V V' : Nat → Value} {X Y : Array Bool} {a0 a a' : Act} {n i : Nat} {o : Oper}

theorem Fill.start (h : ∀ i, X.getD i false = false) : Fill ops V X a0 a0 := ⟨rfl, rfl, fun i o d _ _ hx => (by rw [h i] at hx; cases hx), fun t _ => rfl⟩
theorem getD_set_self {X : Array Bool} {i : Nat} (h : i < X.size) : (X.setIfInBounds i true).getD i false = true := by
  simp [h]
theorem Fill.put (N : Neat ops a0.tmps.size) (h : Fill ops V X a0 a) (hi : ops[i]? = some o) (hX : i < X.size) : Fill ops V (X.setIfInBounds i true) a0 (a.put o.dst (V i)) := by
  cases hd : o.dst with
  | none =>
    refine ⟨h.defers, h.size, fun j oj d hj hdj hx => ?_, fun t ht => h.rest t fun j oj hj hdj => ?_⟩
    · by_cases e : i = j
      · subst e; rw [hi] at hj; cases hj; rw [hd] at hdj; cases hdj
      · rw [getD_set_ne false e] at hx; exact h.done j oj d hj hdj hx
    · by_cases e : i = j
      · subst e; rw [hi] at hj; cases hj; rw [hd] at hdj; cases hdj
      · have := ht j oj hj hdj
        rw [getD_set_ne false e] at this; exact this
  | some d =>
    have hlt : d < a.tmps.size := by rw [h.size]; exact N.fits i o d hi hd
    refine ⟨h.defers, by simp [Act.put, h.size], fun j oj d' hj hdj hx => ?_, fun t ht => ?_⟩
    · by_cases e : i = j
      · subst e; rw [hi] at hj; cases hj
        rw [hd] at hdj; cases hdj
        simp [Act.put, hlt]
      · rw [getD_set_ne false e] at hx
        have hne : d ≠ d' := fun e' => e (N.own i j o oj d hi hj hd (e' ▸ hdj))
        simp only [Act.put, Array.getElem?_setIfInBounds_ne hne]
        exact h.done j oj d' hj hdj hx
    · have hne : d ≠ t := fun e => by
        have := ht i o hi (e ▸ hd)
        rw [getD_set_self hX] at this; cases this
      simp only [Act.put, Array.getElem?_setIfInBounds_ne hne]
      refine h.rest t fun j oj hj hdj => ?_
      by_cases e : i = j
      · subst e; rw [hi] at hj; cases hj; rw [hd] at hdj; exact absurd (Option.some.inj hdj) hne
      · have := ht j oj hj hdj
        rw [getD_set_ne false e] at this; exact this
/-- With other values of what has not been done. -/
theorem Fill.other (h : Fill ops V X a0 a) (hV : ∀ j, X.getD j false = true → V' j = V j) : Fill ops V' X a0 a :=
  ⟨h.defers, h.size, fun j oj d hj hd hx => by rw [hV j hx]; exact h.done j oj d hj hd hx, h.rest⟩

/-- What an operation looks at once all that it waits for has been done, is what it will be in the end. -/
theorem Fill.looks (N : Neat ops a0.tmps.size) (h : Fill ops V X a0 a) (h' : Fill ops V Y a0 a') (hY : ∀ j, j < ops.size → Y.getD j false = true) (hi : ops[i]? = some o) (hr : ∀ e ∈ o.after, Region.binds .any e = true → X.getD e.on false = true) {t : Tmp} (ht : t ∈ o.looksAt ops) : a.tmps[t]? = a'.tmps[t]? := by
  by_cases hex : ∃ (j : Nat) (oj : Oper), ops[j]? = some oj ∧ oj.dst = some t
  · obtain ⟨j, oj, hj, hdj⟩ := hex
    obtain ⟨e, he, hb, rfl⟩ := N.wired i j o oj t hi hj hdj ht
    rw [h.done e.on oj t hj hdj (hr e he hb), h'.done e.on oj t hj hdj (hY _ (Array.getElem?_eq_some_iff.1 hj).1)]
  · rw [h.rest t fun j oj hj hdj => absurd ⟨j, oj, hj, hdj⟩ hex, h'.rest t fun j oj hj hdj => absurd ⟨j, oj, hj, hdj⟩ hex]
theorem Fill.exec (N : Neat ops a0.tmps.size) (h : Fill ops V X a0 a) (h' : Fill ops V Y a0 a') (hY : ∀ j, j < ops.size → Y.getD j false = true) (hi : ops[i]? = some o) (hr : ∀ e ∈ o.after, Region.binds .any e = true → X.getD e.on false = true) :
    execOp a.eval o = execOp a'.eval o ∧ Region.wanted o (yielded ops a.tmps) = Region.wanted o (yielded ops a'.tmps) := by
  refine ⟨execOp_congr o (N.sel i o hi) fun x hx => ?_, ?_⟩
  · cases x with
    | tmp t =>
      have := h.looks N h' hY hi hr (t := t) (List.mem_append_left _ (List.mem_filterMap.2 ⟨.tmp t, by simpa using hx, rfl⟩))
      simp only [Act.eval, Array.getD_eq_getD_getElem?, this]
    | _ => rfl
  · unfold Region.wanted
    cases hg : o.guard with
    | none => rfl
    | some gw =>
      obtain ⟨g, want⟩ := gw
      have hy : yielded ops a.tmps g = yielded ops a'.tmps g := by
        unfold yielded
        cases hb : (ops[g]?).bind (·.dst) with
        | none => rfl
        | some t =>
          have := h.looks N h' hY hi hr (t := t) (by simp [Oper.looksAt, hg, hb])
          simp only [Option.bind_some, this]
      simp only [hy]
/-- All has been done: the slots are those. -/
theorem Fill.full (h : Fill ops V X a0 a) (hX : ∀ j, j < ops.size → X.getD j false = true) (h' : Fill ops V Y a0 a') (hY : ∀ j, j < ops.size → Y.getD j false = true) : a = a' := by
  have ht : a.tmps = a'.tmps := by
    apply Array.ext_getElem?
    intro t
    by_cases hex : ∃ (j : Nat) (oj : Oper), ops[j]? = some oj ∧ oj.dst = some t
    · obtain ⟨j, oj, hj, hdj⟩ := hex
      have hlt := (Array.getElem?_eq_some_iff.1 hj).1
      rw [h.done j oj t hj hdj (hX _ hlt), h'.done j oj t hj hdj (hY _ hlt)]
    · rw [h.rest t fun j oj hj hdj => absurd ⟨j, oj, hj, hdj⟩ hex, h'.rest t fun j oj hj hdj => absurd ⟨j, oj, hj, hdj⟩ hex]
  obtain ⟨t1, d1⟩ := a
  obtain ⟨t2, d2⟩ := a'
  simp only at ht
  subst ht
  have := h.defers.trans h'.defers.symm
  simp only at this
  subst this
  rfl
end

/-! The order -/
theorem count_false {X : Array Bool} {i : Nat} (h : X.getD i true = false) : (X.setIfInBounds i true).toList.count false + 1 = X.toList.count false := by
  have hi : i < X.size := by
    rcases Nat.lt_or_ge i X.size with z | z
    · exact z
    · simp [Array.getElem?_eq_none z] at h
  have hx : X.toList[i]'(by simpa using hi) = false := by simpa [hi] using h
  have hpos : 0 < X.toList.count false := List.count_pos_iff.2 (hx ▸ List.getElem_mem _)
  rw [Array.toList_setIfInBounds, List.count_set (by simpa using hi), hx]
  have e1 : (if (false == false) = true then 1 else 0 : Nat) = 1 := rfl
  have e2 : (if (true == false) = true then 1 else 0 : Nat) = 0 := rfl
  rw [e1, e2]
  omega

/-- A REGION, WHATEVER ITS ORDER: 'Inv X c a': X has been done, 'c' is how all stands, 'a' the slots. -/
theorem ordRun {C : Type} {Goal : C → Frame → Prop} {ops : Array Oper} {n : Nat} (N : Neat ops n) {b : Frame} {k : List Item} {Inv : Array Bool → C → Act → Prop}
    (hstep : ∀ X i o, X.size = ops.size → ops[i]? = some o → X.getD i true = false → (∀ e ∈ o.after, Region.binds .any e = true → X.getD e.on false = true) → ∀ c a L, Inv X c a → ((∀ j, j < ops.size → (X.setIfInBounds i true).getD j false = true) → L = []) →
      (∀ c' a', Inv (X.setIfInBounds i true) c' a' → Goal c' (b.at a' (.inRegion ops L :: k))) → Goal c (b.at a (.inRegion ops (i :: L) :: k)))
    (hend : ∀ X c a, X.size = ops.size → (∀ j, j < ops.size → X.getD j false = true) → Inv X c a → Goal c (b.at a (.inRegion ops [] :: k))) :
    ∀ (fuel : Nat) (X : Array Bool) (t : Nat) (c : C) (a : Act), X.size = ops.size → X.toList.count false ≤ fuel → Inv X c a → Goal c (b.at a (.inRegion ops (Region.linearise.go .any ops fuel t X []) :: k)) := by
  have hall : ∀ X : Array Bool, X.size = ops.size → Region.ready .any ops X = [] → ∀ j, j < ops.size → X.getD j false = true := by
    intro X hX hr j
    induction j using Nat.strongRecOn with
    | _ j ih =>
      intro hj
      cases hx : X.getD j false with
      | true => rfl
      | false =>
        have hj' : j < X.size := by omega
        have : j ∈ Region.ready .any ops X := by
          refine mem_ready.2 ⟨by simpa [hj'] using hx, _, Array.getElem?_eq_getElem hj, fun e he hb => ?_⟩
          have hlt := N.topo j _ (Array.getElem?_eq_getElem hj) e he hb
          exact ih e.on hlt (by omega)
        rw [hr] at this; cases this
  intro fuel
  induction fuel with
  | zero =>
    intro X t c a hX hc hI
    refine hend X c a hX (hall X hX ?_) hI
    cases hr : Region.ready .any ops X with
    | nil => rfl
    | cons i r =>
      have := (mem_ready.1 (by rw [hr]; simp : i ∈ Region.ready .any ops X)).1
      have := count_false this
      omega
  | succ fuel ih =>
    intro X t c a hX hc hI
    simp only [Region.linearise.go]
    change Goal c (b.at a (.inRegion ops (match (Region.ready .any ops X)[t % (Region.ready .any ops X).length]? with
      | some i => Region.linearise.go .any ops fuel (t / (Region.ready .any ops X).length) (X.setIfInBounds i true) [i]
      | none => [].reverse) :: k))
    cases hi : (Region.ready .any ops X)[t % (Region.ready .any ops X).length]? with
    | none =>
      have hnil : Region.ready .any ops X = [] := by
        cases hr : Region.ready .any ops X with
        | nil => rfl
        | cons x xs =>
          rw [hr] at hi
          have hlt : t % (x :: xs).length < (x :: xs).length := Nat.mod_lt _ (by simp)
          simp at hi
          simp at hlt
          omega
      exact hend X c a hX (hall X hX hnil) hI
    | some i =>
      obtain ⟨h0, o, ho, hr⟩ := mem_ready.1 (List.mem_of_getElem? hi)
      simp only []
      rw [linearise_go_acc, List.reverse_singleton, List.singleton_append]
      refine hstep X i o hX ho h0 hr c a _ hI (fun hfull => ?_) fun c' a' hI' => ?_
      · have hnone : Region.ready .any ops (X.setIfInBounds i true) = [] := by
          cases hz : Region.ready .any ops (X.setIfInBounds i true) with
          | nil => rfl
          | cons j l =>
            obtain ⟨q1, oj, q2, _⟩ := mem_ready.1 (by rw [hz]; simp : j ∈ Region.ready .any ops (X.setIfInBounds i true))
            have hlt := (Array.getElem?_eq_some_iff.1 q2).1
            have q3 := hfull j hlt
            have hlt' : j < (X.setIfInBounds i true).size := by simp; omega
            simp only [Array.getD_eq_getD_getElem?, Array.getElem?_eq_getElem hlt', Option.getD_some] at q1 q3
            rw [q1] at q3; cases q3
        cases fuel with
        | zero => rfl
        | succ m =>
          simp only [Region.linearise.go]
          change (match (Region.ready .any ops (X.setIfInBounds i true))[_ % (Region.ready .any ops (X.setIfInBounds i true)).length]? with
            | some i' => Region.linearise.go .any ops m _ ((X.setIfInBounds i true).setIfInBounds i' true) [i']
            | none => [].reverse) = []
          rw [hnone]
          rfl
      refine ih _ _ c' a' (by simpa using hX) ?_ hI'
      have := count_false h0
      omega

section
variable {P : Program} {Post : Value → World → Prop} {pl : Nat → Option Place} {n h : Nat} {cs : List Frame} {w : World}
/-- A region that draws, in company. -/
theorem Win.anyOrder {C : Type} {Goal : C → Frame → Prop} {ops : Array Oper} {id : Nat} (hm : P.follows .mixedOrders = true) {b : Frame} {a : Act} {k : List Item} (N : Neat ops a.tmps.size) {Inv : Array Bool → C → Act → Prop} {c : C}
    (hG : ∀ fr, Goal c fr → Win P Post pl n h (gor fr cs) w)
    (hstep : ∀ X i o, X.size = ops.size → ops[i]? = some o → X.getD i true = false → (∀ e ∈ o.after, Region.binds .any e = true → X.getD e.on false = true) → ∀ c a L, Inv X c a → ((∀ j, j < ops.size → (X.setIfInBounds i true).getD j false = true) → L = []) →
      (∀ c' a', Inv (X.setIfInBounds i true) c' a' → Goal c' (b.at a' (.inRegion ops L :: k))) → Goal c (b.at a (.inRegion ops (i :: L) :: k)))
    (hend : ∀ X c a, X.size = ops.size → (∀ j, j < ops.size → X.getD j false = true) → Inv X c a → Goal c (b.at a (.inRegion ops [] :: k)))
    (hI : Inv (Array.replicate ops.size false) c a) : Win P Post pl n h (gor (b.at a (.code (.region id ops true) :: k)) cs) w := by
  refine Win.regionDraws fun t => hG _ ?_
  simp only [Region.schedule, hm, Bool.true_or, if_true, Region.linearise]
  exact ordRun N hstep hend _ _ t c a (by simp) (by simp) hI

/-- The slots once all has been done. -/
def fillAll (ops : Array Oper) (V : Nat → Value) (a0 : Act) : Act := (List.range ops.size).foldl (fun a i => a.put ((ops[i]?).bind (·.dst)) (V i)) a0
theorem fill_upTo {ops : Array Oper} {V : Nat → Value} {a0 : Act} (N : Neat ops a0.tmps.size) : ∀ m, m ≤ ops.size → ∃ X : Array Bool, X.size = ops.size ∧ (∀ j, j < m → X.getD j false = true) ∧ (∀ j, m ≤ j → X.getD j false = false) ∧ Fill ops V X a0 ((List.range m).foldl (fun a i => a.put ((ops[i]?).bind (·.dst)) (V i)) a0)
  | 0, _ => ⟨Array.replicate ops.size false, by simp, fun j hj => by omega, fun j _ => by simp [Array.getD_eq_getD_getElem?, Array.getElem?_replicate]; split <;> rfl, Fill.start fun j => by simp [Array.getD_eq_getD_getElem?, Array.getElem?_replicate]; split <;> rfl⟩
  | m + 1, hm => by
    obtain ⟨X, h1, h2, h3, h4⟩ := fill_upTo N m (by omega)
    have ho : ops[m]? = some ops[m] := Array.getElem?_eq_getElem (by omega)
    refine ⟨X.setIfInBounds m true, by simpa using h1, fun j hj => ?_, fun j hj => ?_, ?_⟩
    · by_cases e : m = j
      · subst e; exact getD_set_self (by omega)
      · rw [getD_set_ne false e]; exact h2 j (by omega)
    · rw [getD_set_ne false (by omega)]; exact h3 j (by omega)
    · rw [List.range_succ, List.foldl_append]
      simp only [List.foldl_cons, List.foldl_nil, ho, Option.bind_some]
      exact h4.put N ho (by omega)
theorem fill_all {ops : Array Oper} {V : Nat → Value} {a0 : Act} (N : Neat ops a0.tmps.size) : ∃ X : Array Bool, X.size = ops.size ∧ (∀ j, j < ops.size → X.getD j false = true) ∧ Fill ops V X a0 (fillAll ops V a0) := by
  obtain ⟨X, h1, h2, _, h4⟩ := fill_upTo (V := V) N ops.size (Nat.le_refl _)
  exact ⟨X, h1, h2, h4⟩

variable {ops : Array Oper} {V : Nat → Value} {X : Array Bool} {a0 a : Act} {i : Nat} {o : Oper} {b : Frame} {k : List Item} {L : List Nat}
/-- What an operation finds. -/
theorem Fill.finds (N : Neat ops a0.tmps.size) (h : Fill ops V X a0 a) (hi : ops[i]? = some o) (hr : ∀ e ∈ o.after, Region.binds .any e = true → X.getD e.on false = true) :
    execOp a.eval o = execOp (fillAll ops V a0).eval o ∧ Region.wanted o (yielded ops a.tmps) = Region.wanted o (yielded ops (fillAll ops V a0).tmps) := by
  obtain ⟨Y, _, hY, hA⟩ := fill_all (V := V) N
  exact h.exec N hA hY hi hr
theorem Fill.ends (N : Neat ops a0.tmps.size) (h : Fill ops V X a0 a) (hX : ∀ j, j < ops.size → X.getD j false = true) : a = fillAll ops V a0 := by
  obtain ⟨Y, _, hY, hA⟩ := fill_all (V := V) N
  exact h.full hX hA hY
/-- A region that draws, in company, its slots being known: 'V c i' is what the operation i answers where all stands as c; 'J X c': how all stands once X has been done. -/
theorem Win.anyFill {C : Type} {Goal : C → Frame → Prop} {id : Nat} (hm : P.follows .mixedOrders = true) (hneat : neat ops a.tmps.size = true) (V : C → Nat → Value) (A : C → Act) (hA : ∀ c, fillAll ops (V c) a = A c) (J : Array Bool → C → Prop) (c : C)
    (hG : ∀ fr, Goal c fr → Win P Post pl n h (gor fr cs) w)
    (hstep : ∀ X i o, X.size = ops.size → ops[i]? = some o → X.getD i true = false → (∀ e ∈ o.after, Region.binds .any e = true → X.getD e.on false = true) → ∀ c a' L, J X c →
      (∀ j oj, ops[j]? = some oj → X.getD j false = true → ∀ e ∈ oj.after, Region.binds .any e = true → X.getD e.on false = true) → ((∀ j, j < ops.size → (X.setIfInBounds i true).getD j false = true) → L = []) → ((∀ j, j < ops.size → (X.setIfInBounds i true).getD j false = true) → a'.put o.dst (V c i) = A c) → execOp a'.eval o = execOp (A c).eval o → Region.wanted o (yielded ops a'.tmps) = Region.wanted o (yielded ops (A c).tmps) → a'.defers = a.defers →
      (∀ c', (∀ j, X.getD j false = true → V c' j = V c j) → J (X.setIfInBounds i true) c' → Goal c' (b.at (a'.put o.dst (V c' i)) (.inRegion ops L :: k))) → Goal c (b.at a' (.inRegion ops (i :: L) :: k)))
    (hend : ∀ X c, (∀ j, j < ops.size → X.getD j false = true) → J X c → Goal c (b.at (A c) (.inRegion ops [] :: k)))
    (hJ : J (Array.replicate ops.size false) c) : Win P Post pl n h (gor (b.at a (.code (.region id ops true) :: k)) cs) w := by
  have N := neat_of hneat
  refine Win.anyOrder (C := C) (Goal := Goal) (c := c) hm N (Inv := fun X c' a' => Fill ops (V c') X a a' ∧ J X c' ∧ ∀ j oj, ops[j]? = some oj → X.getD j false = true → ∀ e ∈ oj.after, Region.binds .any e = true → X.getD e.on false = true) hG ?_ ?_ ⟨Fill.start fun i => by simp [Array.getD_eq_getD_getElem?, Array.getElem?_replicate]; split <;> rfl, hJ, fun j oj hj hx => by simp [Array.getD_eq_getD_getElem?, Array.getElem?_replicate] at hx; split at hx <;> cases hx⟩
  · intro X i o hX ho hx hr c a' L hI hL hn
    obtain ⟨e1, e2⟩ := hI.1.finds N ho hr
    rw [hA c] at e1 e2
    have hlt := (Array.getElem?_eq_some_iff.1 ho).1
    refine hstep X i o hX ho hx hr c a' L hI.2.1 hI.2.2 hL (fun hf => by rw [(hI.1.put N ho (by omega)).ends N hf, hA c]) e1 e2 hI.1.defers fun c' hV hJ' => hn c' _ ⟨?_, hJ', fun j oj hj hxj e he hb => ?_⟩
    · exact (hI.1.other hV).put N ho (by omega)
    · have mono : ∀ q, X.getD q false = true → (X.setIfInBounds i true).getD q false = true := fun q hq => by
        by_cases e' : i = q
        · subst e'; exact getD_set_self (by omega)
        · rw [getD_set_ne false e']; exact hq
      by_cases e' : i = j
      · subst e'
        rw [ho] at hj; cases hj
        exact mono _ (hr e he hb)
      · rw [getD_set_ne false e'] at hxj
        exact mono _ (hI.2.2 j oj hj hxj e he hb)
  · intro X c a' hX hall hI
    rw [hI.1.ends N hall, hA c]
    exact hend X c hall hI.2.1
end
end Go.Proofs.Ytnbaiinhalplcaa

namespace Go.Proofs.Ytnbaiinhalplcaa
open List renaming getElem_toArray → gtA, getElem_cons_zero → gtZ, getElem_cons_succ → gtS, setIfInBounds_toArray → siA, set_cons_succ → scS, set_cons_zero → scZ, getElem?_toArray → gqA, getElem?_cons_zero → gqZ, getElem?_cons_succ → gqS
set_option linter.unusedVariables false
set_option linter.unusedSimpArgs false
set_option maxRecDepth 100000
open Go.Conc

theorem stok_at {P : Program} {b : Frame} {a : Act} {k : List Item} (hb : b.kind = .normal) (hr : (b.at a k).roundOf = none) (hd : ∀ d ∈ a.defers, okT d.target) (hk : k.all (itemOK P) = true) : StOK P (b.at a k) [] :=
  ⟨⟨fun i hi => (List.all_eq_true.1 hk) i hi, hd, hr, .inl hb⟩, fun f hf => by simp at hf, hb⟩
theorem mixed : Try.prog.follows .mixedOrders = true := by kernel_rfl
theorem assert_halt (w : World) : (Instr.typeAssert .nilIface 20 115 true).run Try.prog w = .ok (.tuple #[.agg #[], .bool false]) w := by kernel_rfl

section
variable {pl : Nat → Option Place} {n h : Nat} {Post : Value → World → Prop} {w : World} {F : Nat → Option (Nat × Nat)}

set_option maxHeartbeats 1000000 in
theorem touch_goes (L : Lies pl F w) {c : Frame} {cs : List Frame} {p : Nat} {f : FuncId} {cap : Array Value} {mv : Value} {Ψ : World → Prop} (h0 : w.cell? ⟨p, 0, none⟩ = some mv) (h4 : w.cell? ⟨p, 4, none⟩ = some (.func (.func f) #[] cap)) {fn : Func} (hfn : Try.prog.funcs[f]? = some fn) (hfb : fn.body.isNone = false)
    (hΨ : ∀ w', Ψ w' → Lies pl F w' ∧ w'.heap[w.heap.size]? = some (.cells #[.nilIface] 20 (0, 0)) ∧ w'.cell? ⟨p, 0, none⟩ = some mv ∧ w'.cell? ⟨p, 4, none⟩ = some (.func (.func f) #[] cap))
    (hgo : ∀ c₁ : Frame, StOK Try.prog c₁ [] → (∀ w', Ψ w' → Win Try.prog Post pl n h (gor (c₁.finish (.tuple #[])) (c :: cs)) w') → Win Try.prog Post pl n h (gor (Frame.enter Try.prog f (#[mv] ++ cap) .normal) (c₁ :: c :: cs)) (w.alloc (.cells #[.nilIface] 20)))
    (H : ∀ w' w'', Ψ w' → Ks (· = w.heap.size) w' w'' → Lies pl F w'' → Win Try.prog Post pl n h (gor (c.finish .nilIface) cs) w'') :
    Win Try.prog Post pl n h (gor (Frame.enter Try.prog 42 #[.pointer (some ⟨p, 0, none⟩)] .normal) (c :: cs)) w := by
  have hne : (Frame.enter Try.prog 42 #[.pointer (some ⟨p, 0, none⟩)] CallKind.normal).kind = .normal := rfl
  rw [enter_at Try.func42 rfl]
  simp only [Try.ntmps42, List.size_toArray, List.length_cons, List.length_nil, Nat.reduceAdd, Nat.reduceSub, Array.replicate_succ, Array.replicate_zero, List.push_toArray, List.append_toArray, List.nil_append, List.cons_append]
  refine Win.seq ?_
  refine Win.region ?_
  simp only [List.size_toArray, List.length_cons, List.length_nil, Nat.reduceAdd, List.range, List.range.loop]
  refine Win.makeOp (v := .pointer (some ⟨w.heap.size, 0, none⟩)) (ob := .cells #[.nilIface] 20) (es := #[]) L (.inl hne) rfl rfl (fun d => by rw [Sem.runT_eq]; simp [go_sem, execOp, Act.eval]; try rfl) (fun e he => by simp at he) ?_
  simp only [Act.put, Act.eval, gtA, gtZ, gtS, siA, scS, scZ]
  refine Win.opsEnd ?_
  refine Win.seq ?_
  refine Win.region ?_
  simp only [List.size_toArray, List.length_cons, List.length_nil, Nat.reduceAdd, List.range, List.range.loop]
  refine Win.pureOp (v := .func (.func 59) #[] #[.pointer (some ⟨w.heap.size, 0, none⟩)]) (.inl hne) rfl rfl (fun w => by rw [Sem.runT_eq]; simp [go_sem, execOp, Act.eval]; try rfl) ?_
  simp only [Act.put, Act.eval, gtA, gtZ, gtS, siA, scS, scZ]
  refine Win.defers (d₀ := { target := .fn (.func 59) #[.pointer (some ⟨w.heap.size, 0, none⟩)], args := #[] }) (.inl hne) rfl rfl (fun d => ⟨#[], by rw [Sem.runT_eq]; simp [go_sem, execOp, Act.eval]; try rfl, fun e he => by simp at he⟩) ?_
  simp only [Act.put, Act.eval, gtA, gtZ, gtS, siA, scS, scZ]
  refine Win.opsEnd ?_
  refine Win.seq ?_
  have hr1 : (w.alloc (.cells #[.nilIface] 20)).cell? ⟨p, 0, none⟩ = some mv := alloc_cell w _ h0
  have hr4 : (w.alloc (.cells #[.nilIface] 20)).cell? ⟨p, 4, none⟩ = some (.func (.func f) #[] cap) := alloc_cell w _ h4
  generalize hw1 : w.alloc (.cells #[.nilIface] 20) = w1 at hr1 hr4 hgo ⊢
  refine Win.anyFill (C := World) (Goal := fun c' fr => Win Try.prog Post pl n h (gor fr (c :: cs)) c') mixed (by kernel_rfl) (fun _ i => match i with | 0 => .pointer (some ⟨p, 0, none⟩) | 1 => .pointer (some ⟨p, 0, none⟩) | 2 => .pointer (some ⟨p, 4, none⟩) | 3 => .func (.func f) #[] cap | 4 => .pointer (some ⟨p, 0, none⟩) | 5 => .pointer (some ⟨p, 0, none⟩) | 6 => .pointer (some ⟨p, 0, none⟩) | 7 => mv | _ => .tuple #[]) (fun _ => (⟨#[.pointer (some ⟨p, 0, none⟩), undef, .pointer (some ⟨w.heap.size, 0, none⟩), .func (.func 59) #[] #[.pointer (some ⟨w.heap.size, 0, none⟩)], .pointer (some ⟨p, 0, none⟩), .pointer (some ⟨p, 0, none⟩), .pointer (some ⟨p, 4, none⟩), .func (.func f) #[] cap, .pointer (some ⟨p, 0, none⟩), .pointer (some ⟨p, 0, none⟩), .pointer (some ⟨p, 0, none⟩), mv, .tuple #[]], [{ target := .fn (.func 59) #[.pointer (some ⟨w.heap.size, 0, none⟩)], args := #[] }]⟩ : Act)) (fun _ => by simp only [fillAll, List.size_toArray, List.length_cons, List.length_nil, Nat.reduceAdd, List.range, List.range.loop, List.foldl_cons, List.foldl_nil, gqA, gqZ, gqS, Option.bind_some, Act.put, siA, scS, scZ]) (fun X c' => (X.getD 8 false = false → c' = w1) ∧ (X.getD 8 false = true → Ψ c')) w1 (fun fr hh => hh) ?_ ?_ ⟨fun _ => rfl, fun z => by simp at z⟩
  · intro X i o hX ho hx hr c' a' L' hJ hcl hL'' hfl e1 e2 hd hn
    have hcell : c'.cell? ⟨p, 0, none⟩ = some mv ∧ c'.cell? ⟨p, 4, none⟩ = some (.func (.func f) #[] cap) := by
      cases hx8 : X.getD 8 false with
      | false => rw [hJ.1 hx8]; exact ⟨hr1, hr4⟩
      | true => exact (hΨ _ (hJ.2 hx8)).2.2
    obtain ⟨hp0, hp4⟩ := hcell
    rcases i with _ | _ | _ | _ | _ | _ | _ | _ | _ | i
    · obtain rfl := Option.some.inj ho
      have e1 : execOp a'.eval _ = execOp (⟨#[.pointer (some ⟨p, 0, none⟩), undef, .pointer (some ⟨w.heap.size, 0, none⟩), .func (.func 59) #[] #[.pointer (some ⟨w.heap.size, 0, none⟩)], .pointer (some ⟨p, 0, none⟩), .pointer (some ⟨p, 0, none⟩), .pointer (some ⟨p, 4, none⟩), .func (.func f) #[] cap, .pointer (some ⟨p, 0, none⟩), .pointer (some ⟨p, 0, none⟩), .pointer (some ⟨p, 0, none⟩), mv, .tuple #[]], [{ target := .fn (.func 59) #[.pointer (some ⟨w.heap.size, 0, none⟩)], args := #[] }]⟩ : Act).eval _ := e1
      have hn0 := hn c' (fun _ _ => rfl) ⟨fun z => hJ.1 (by rw [getD_set_ne false (by decide)] at z; exact z), fun z => hJ.2 (by rw [getD_set_ne false (by decide)] at z; exact z)⟩
      refine Win.op (v := .pointer (some ⟨p, 0, none⟩)) (.inl hne) rfl rfl (fun d => ?_) hn0
      exact ⟨#[], by rw [e1]; rfl, fun e he => by simp at he⟩
    · obtain rfl := Option.some.inj ho
      have e1 : execOp a'.eval _ = execOp (⟨#[.pointer (some ⟨p, 0, none⟩), undef, .pointer (some ⟨w.heap.size, 0, none⟩), .func (.func 59) #[] #[.pointer (some ⟨w.heap.size, 0, none⟩)], .pointer (some ⟨p, 0, none⟩), .pointer (some ⟨p, 0, none⟩), .pointer (some ⟨p, 4, none⟩), .func (.func f) #[] cap, .pointer (some ⟨p, 0, none⟩), .pointer (some ⟨p, 0, none⟩), .pointer (some ⟨p, 0, none⟩), mv, .tuple #[]], [{ target := .fn (.func 59) #[.pointer (some ⟨w.heap.size, 0, none⟩)], args := #[] }]⟩ : Act).eval _ := e1
      have hn0 := hn c' (fun _ _ => rfl) ⟨fun z => hJ.1 (by rw [getD_set_ne false (by decide)] at z; exact z), fun z => hJ.2 (by rw [getD_set_ne false (by decide)] at z; exact z)⟩
      refine Win.op (v := .pointer (some ⟨p, 0, none⟩)) (.inl hne) rfl rfl (fun d => ?_) hn0
      exact ⟨#[], by rw [e1, Sem.runT_eq]; simp [go_sem, execOp, Act.eval], fun e he => by simp at he⟩
    · obtain rfl := Option.some.inj ho
      have e1 : execOp a'.eval _ = execOp (⟨#[.pointer (some ⟨p, 0, none⟩), undef, .pointer (some ⟨w.heap.size, 0, none⟩), .func (.func 59) #[] #[.pointer (some ⟨w.heap.size, 0, none⟩)], .pointer (some ⟨p, 0, none⟩), .pointer (some ⟨p, 0, none⟩), .pointer (some ⟨p, 4, none⟩), .func (.func f) #[] cap, .pointer (some ⟨p, 0, none⟩), .pointer (some ⟨p, 0, none⟩), .pointer (some ⟨p, 0, none⟩), mv, .tuple #[]], [{ target := .fn (.func 59) #[.pointer (some ⟨w.heap.size, 0, none⟩)], args := #[] }]⟩ : Act).eval _ := e1
      have hn0 := hn c' (fun _ _ => rfl) ⟨fun z => hJ.1 (by rw [getD_set_ne false (by decide)] at z; exact z), fun z => hJ.2 (by rw [getD_set_ne false (by decide)] at z; exact z)⟩
      refine Win.op (v := .pointer (some ⟨p, 4, none⟩)) (.inl hne) rfl rfl (fun d => ?_) hn0
      exact ⟨#[], by rw [e1, Sem.runT_eq]; simp [go_sem, execOp, Act.eval], fun e he => by simp at he⟩
    · obtain rfl := Option.some.inj ho
      have e1 : execOp a'.eval _ = execOp (⟨#[.pointer (some ⟨p, 0, none⟩), undef, .pointer (some ⟨w.heap.size, 0, none⟩), .func (.func 59) #[] #[.pointer (some ⟨w.heap.size, 0, none⟩)], .pointer (some ⟨p, 0, none⟩), .pointer (some ⟨p, 0, none⟩), .pointer (some ⟨p, 4, none⟩), .func (.func f) #[] cap, .pointer (some ⟨p, 0, none⟩), .pointer (some ⟨p, 0, none⟩), .pointer (some ⟨p, 0, none⟩), mv, .tuple #[]], [{ target := .fn (.func 59) #[.pointer (some ⟨w.heap.size, 0, none⟩)], args := #[] }]⟩ : Act).eval _ := e1
      have hn0 := hn c' (fun _ _ => rfl) ⟨fun z => hJ.1 (by rw [getD_set_ne false (by decide)] at z; exact z), fun z => hJ.2 (by rw [getD_set_ne false (by decide)] at z; exact z)⟩
      refine Win.op (v := .func (.func f) #[] cap) (.inl hne) rfl rfl (fun d => ?_) hn0
      exact ⟨#[⟨.cell ⟨p, 4, none⟩, false, false⟩], by rw [e1, Sem.runT_eq]; have hc : (World.at c' d).cell? ⟨p, 4, none⟩ = _ := hp4; generalize World.at c' d = W at hc ⊢; simp [go_sem, execOp, Act.eval, hc], fun e he => by obtain rfl : e = ⟨.cell ⟨p, 4, none⟩, false, false⟩ := (by simpa using he); exact ⟨rfl, fun m => by simp⟩⟩
    · obtain rfl := Option.some.inj ho
      have e1 : execOp a'.eval _ = execOp (⟨#[.pointer (some ⟨p, 0, none⟩), undef, .pointer (some ⟨w.heap.size, 0, none⟩), .func (.func 59) #[] #[.pointer (some ⟨w.heap.size, 0, none⟩)], .pointer (some ⟨p, 0, none⟩), .pointer (some ⟨p, 0, none⟩), .pointer (some ⟨p, 4, none⟩), .func (.func f) #[] cap, .pointer (some ⟨p, 0, none⟩), .pointer (some ⟨p, 0, none⟩), .pointer (some ⟨p, 0, none⟩), mv, .tuple #[]], [{ target := .fn (.func 59) #[.pointer (some ⟨w.heap.size, 0, none⟩)], args := #[] }]⟩ : Act).eval _ := e1
      have hn0 := hn c' (fun _ _ => rfl) ⟨fun z => hJ.1 (by rw [getD_set_ne false (by decide)] at z; exact z), fun z => hJ.2 (by rw [getD_set_ne false (by decide)] at z; exact z)⟩
      refine Win.op (v := .pointer (some ⟨p, 0, none⟩)) (.inl hne) rfl rfl (fun d => ?_) hn0
      exact ⟨#[], by rw [e1]; rfl, fun e he => by simp at he⟩
    · obtain rfl := Option.some.inj ho
      have e1 : execOp a'.eval _ = execOp (⟨#[.pointer (some ⟨p, 0, none⟩), undef, .pointer (some ⟨w.heap.size, 0, none⟩), .func (.func 59) #[] #[.pointer (some ⟨w.heap.size, 0, none⟩)], .pointer (some ⟨p, 0, none⟩), .pointer (some ⟨p, 0, none⟩), .pointer (some ⟨p, 4, none⟩), .func (.func f) #[] cap, .pointer (some ⟨p, 0, none⟩), .pointer (some ⟨p, 0, none⟩), .pointer (some ⟨p, 0, none⟩), mv, .tuple #[]], [{ target := .fn (.func 59) #[.pointer (some ⟨w.heap.size, 0, none⟩)], args := #[] }]⟩ : Act).eval _ := e1
      have hn0 := hn c' (fun _ _ => rfl) ⟨fun z => hJ.1 (by rw [getD_set_ne false (by decide)] at z; exact z), fun z => hJ.2 (by rw [getD_set_ne false (by decide)] at z; exact z)⟩
      refine Win.op (v := .pointer (some ⟨p, 0, none⟩)) (.inl hne) rfl rfl (fun d => ?_) hn0
      exact ⟨#[], by rw [e1, Sem.runT_eq]; simp [go_sem, execOp, Act.eval], fun e he => by simp at he⟩
    · obtain rfl := Option.some.inj ho
      have e1 : execOp a'.eval _ = execOp (⟨#[.pointer (some ⟨p, 0, none⟩), undef, .pointer (some ⟨w.heap.size, 0, none⟩), .func (.func 59) #[] #[.pointer (some ⟨w.heap.size, 0, none⟩)], .pointer (some ⟨p, 0, none⟩), .pointer (some ⟨p, 0, none⟩), .pointer (some ⟨p, 4, none⟩), .func (.func f) #[] cap, .pointer (some ⟨p, 0, none⟩), .pointer (some ⟨p, 0, none⟩), .pointer (some ⟨p, 0, none⟩), mv, .tuple #[]], [{ target := .fn (.func 59) #[.pointer (some ⟨w.heap.size, 0, none⟩)], args := #[] }]⟩ : Act).eval _ := e1
      have hn0 := hn c' (fun _ _ => rfl) ⟨fun z => hJ.1 (by rw [getD_set_ne false (by decide)] at z; exact z), fun z => hJ.2 (by rw [getD_set_ne false (by decide)] at z; exact z)⟩
      refine Win.op (v := .pointer (some ⟨p, 0, none⟩)) (.inl hne) rfl rfl (fun d => ?_) hn0
      exact ⟨#[], by rw [e1, Sem.runT_eq]; simp [go_sem, execOp, Act.eval], fun e he => by simp at he⟩
    · obtain rfl := Option.some.inj ho
      have e1 : execOp a'.eval _ = execOp (⟨#[.pointer (some ⟨p, 0, none⟩), undef, .pointer (some ⟨w.heap.size, 0, none⟩), .func (.func 59) #[] #[.pointer (some ⟨w.heap.size, 0, none⟩)], .pointer (some ⟨p, 0, none⟩), .pointer (some ⟨p, 0, none⟩), .pointer (some ⟨p, 4, none⟩), .func (.func f) #[] cap, .pointer (some ⟨p, 0, none⟩), .pointer (some ⟨p, 0, none⟩), .pointer (some ⟨p, 0, none⟩), mv, .tuple #[]], [{ target := .fn (.func 59) #[.pointer (some ⟨w.heap.size, 0, none⟩)], args := #[] }]⟩ : Act).eval _ := e1
      have hn0 := hn c' (fun _ _ => rfl) ⟨fun z => hJ.1 (by rw [getD_set_ne false (by decide)] at z; exact z), fun z => hJ.2 (by rw [getD_set_ne false (by decide)] at z; exact z)⟩
      refine Win.op (v := mv) (.inl hne) rfl rfl (fun d => ?_) hn0
      exact ⟨#[⟨.cell ⟨p, 0, none⟩, false, false⟩], by rw [e1, Sem.runT_eq]; have hc : (World.at c' d).cell? ⟨p, 0, none⟩ = _ := hp0; generalize World.at c' d = W at hc ⊢; simp [go_sem, execOp, Act.eval, hc], fun e he => by obtain rfl : e = ⟨.cell ⟨p, 0, none⟩, false, false⟩ := (by simpa using he); exact ⟨rfl, fun m => by simp⟩⟩
    · obtain rfl := Option.some.inj ho
      have e1 : execOp a'.eval _ = execOp (⟨#[.pointer (some ⟨p, 0, none⟩), undef, .pointer (some ⟨w.heap.size, 0, none⟩), .func (.func 59) #[] #[.pointer (some ⟨w.heap.size, 0, none⟩)], .pointer (some ⟨p, 0, none⟩), .pointer (some ⟨p, 0, none⟩), .pointer (some ⟨p, 4, none⟩), .func (.func f) #[] cap, .pointer (some ⟨p, 0, none⟩), .pointer (some ⟨p, 0, none⟩), .pointer (some ⟨p, 0, none⟩), mv, .tuple #[]], [{ target := .fn (.func 59) #[.pointer (some ⟨w.heap.size, 0, none⟩)], args := #[] }]⟩ : Act).eval _ := e1
      have hx8 : X.getD 8 false = false := by
        have hlt : 8 < X.size := by rw [hX]; decide
        simpa [hlt] using hx
      obtain rfl := hJ.1 hx8
      refine Win.enter (f := f) (args := #[mv] ++ cap) (.inl hne) rfl rfl (fun d => ⟨#[], by rw [e1]; have hi := invoke_enter mild.toMild hfn hfb cap #[mv] (World.at c' d) #[]; simp only [execOp]; simpa [resolve, Deferred.ofValue, Act.eval, Bind.bind, Sem.bind, Pure.pure] using hi, fun e he => by simp at he⟩) ?_
      refine hgo _ (stok_at rfl rfl (by rw [hd]; intro d hd'; simp only [List.mem_singleton] at hd'; subst hd'; trivial) (by kernel_rfl)) fun w' hw' => ?_
      rw [Frame.finish_at]
      exact hn w' (fun _ _ => rfl) ⟨fun z => (by rw [getD_set_self (by rw [hX]; decide)] at z; cases z), fun _ => hw'⟩
    · simp at ho
  · intro X c' hall hJ
    have hc' := hJ.2 (hall 8 (by simp))
    obtain ⟨hL', hbx, _, _⟩ := hΨ _ hc'
    have hne' : (Frame.enter Try.prog 42 #[.pointer (some ⟨p, 0, none⟩)] CallKind.normal).kind = .normal := rfl
    show Win Try.prog Post pl n h (gor ((Frame.enter Try.prog 42 #[.pointer (some ⟨p, 0, none⟩)] CallKind.normal).at (⟨#[.pointer (some ⟨p, 0, none⟩), undef, .pointer (some ⟨w.heap.size, 0, none⟩), .func (.func 59) #[] #[.pointer (some ⟨w.heap.size, 0, none⟩)], .pointer (some ⟨p, 0, none⟩), .pointer (some ⟨p, 0, none⟩), .pointer (some ⟨p, 4, none⟩), .func (.func f) #[] cap, .pointer (some ⟨p, 0, none⟩), .pointer (some ⟨p, 0, none⟩), .pointer (some ⟨p, 0, none⟩), mv, .tuple #[]], [{ target := .fn (.func 59) #[.pointer (some ⟨w.heap.size, 0, none⟩)], args := #[] }]⟩ : Act) _) (c :: cs)) c'
    have hcr : c'.cell? ⟨w.heap.size, 0, none⟩ = some .nilIface := by unfold World.cell?; rw [hbx]; rfl
    have hfr : c'.frozen? ⟨w.heap.size, 0, none⟩ = false := by unfold World.frozen?; rw [hbx]; rfl
    have hFr : Free pl ⟨w.heap.size, 0, none⟩ := L.freeNew (Nat.le_refl _)
    refine Win.opsEnd ?_
    refine Win.seq ?_
    refine Win.region ?_
    simp only [List.size_toArray, List.length_cons, List.length_nil, Nat.reduceAdd, List.range, List.range.loop]
    refine Win.storeOp (ad := ⟨w.heap.size, 0, none⟩) (x := .nilIface) (.inl hne) rfl rfl hFr (fun d => by
      rw [Sem.runT_eq]
      obtain ⟨s1, s2⟩ := store_ok (P := Try.prog) (x := .nilIface) (w := World.at _ d) (m := .plain) (by simp) (by simp) (show (World.at _ d).cell? ⟨w.heap.size, 0, none⟩ = some .nilIface from hcr) (show (World.at _ d).frozen? ⟨w.heap.size, 0, none⟩ = false from hfr)
      have c1 : (World.at _ d).cell? ⟨w.heap.size, 0, none⟩ = some .nilIface := hcr
      have c2 : (World.at _ d).frozen? ⟨w.heap.size, 0, none⟩ = false := hfr
      generalize World.at _ d = W at s1 s2 c1 c2 ⊢
      simp [go_sem, execOp, Act.eval, s1, s2, c1, c2]) ?_
    simp only [Act.put, Act.eval, gtA, gtZ, gtS, siA, scS, scZ]
    refine Win.opsEnd ?_
    have hs1 : (c'.setCell ⟨w.heap.size, 0, none⟩ .nilIface).heap[w.heap.size]? = some (.cells #[.nilIface] 20 (0, 0)) := by
      have := heap_setCell_same c' w.heap.size 0 _ _ .nilIface hbx
      rw [this]; simp
    have hk1 := ks_setCell c' ⟨w.heap.size, 0, none⟩ .nilIface
    have hl1 := hL'.setCell ⟨w.heap.size, 0, none⟩ .nilIface
    generalize c'.setCell ⟨w.heap.size, 0, none⟩ .nilIface = u1 at hs1 hk1 hl1 ⊢
    have hcu : u1.cell? ⟨w.heap.size, 0, none⟩ = some .nilIface := by unfold World.cell?; rw [hs1]; rfl
    have hfu : u1.frozen? ⟨w.heap.size, 0, none⟩ = false := by unfold World.frozen?; rw [hs1]; rfl
    refine Win.ret ?_
    refine Win.callsDeferred (d₀ := { target := .fn (.func 59) #[.pointer (some ⟨w.heap.size, 0, none⟩)], args := #[] }) (ds := []) (f := 59) (args := #[.pointer (some ⟨w.heap.size, 0, none⟩)]) (by simp) rfl trivial (by simp) (fun d => ⟨#[], invoke_enter mild.toMild Try.func59 rfl _ _ _ _, fun e he => by simp at he⟩) ?_
    have hne2 : (Frame.enter Try.prog 59 #[.pointer (some ⟨w.heap.size, 0, none⟩)] CallKind.deferred).kind = .deferred := rfl
    rw [enter_at Try.func59 rfl]
    simp only [Try.ntmps59, List.size_toArray, List.length_cons, List.length_nil, Nat.reduceAdd, Nat.reduceSub, Array.replicate_succ, Array.replicate_zero, List.push_toArray, List.append_toArray, List.nil_append, List.cons_append]
    refine Win.seq ?_
    refine Win.region ?_
    simp only [List.size_toArray, List.length_cons, List.length_nil, Nat.reduceAdd, List.range, List.range.loop]
    refine Win.recovers hne2 rfl rfl rfl (fun d => ⟨#[], by rw [Sem.runT_eq]; simp [go_sem, execOp, Act.eval]; try rfl, fun e he => by simp at he⟩) ?_
    simp only [asked]
    simp only [Act.put, Act.eval, gtA, gtZ, gtS, siA, scS, scZ]
    refine Win.storeOp (ad := ⟨w.heap.size, 0, none⟩) (x := .nilIface) (.inr hne2) rfl rfl hFr (fun d => by
      rw [Sem.runT_eq]
      obtain ⟨s1, s2⟩ := store_ok (P := Try.prog) (x := .nilIface) (w := World.at _ d) (m := .plain) (by simp) (by simp) (show (World.at _ d).cell? ⟨w.heap.size, 0, none⟩ = some .nilIface from hcu) (show (World.at _ d).frozen? ⟨w.heap.size, 0, none⟩ = false from hfu)
      have c1 : (World.at _ d).cell? ⟨w.heap.size, 0, none⟩ = some .nilIface := hcu
      have c2 : (World.at _ d).frozen? ⟨w.heap.size, 0, none⟩ = false := hfu
      generalize World.at _ d = W at s1 s2 c1 c2 ⊢
      simp [go_sem, execOp, Act.eval, s1, s2, c1, c2]) ?_
    simp only [Act.put, Act.eval, gtA, gtZ, gtS, siA, scS, scZ]
    refine Win.opsEnd ?_
    have hs2 : (u1.setCell ⟨w.heap.size, 0, none⟩ .nilIface).heap[w.heap.size]? = some (.cells #[.nilIface] 20 (0, 0)) := by
      have := heap_setCell_same u1 w.heap.size 0 _ _ .nilIface hs1
      rw [this]; simp
    have hk2 := hk1.trans (ks_setCell u1 ⟨w.heap.size, 0, none⟩ .nilIface)
    have hl2 := hl1.setCell ⟨w.heap.size, 0, none⟩ .nilIface
    generalize u1.setCell ⟨w.heap.size, 0, none⟩ .nilIface = u2 at hs2 hk2 hl2 ⊢
    have hcv : u2.cell? ⟨w.heap.size, 0, none⟩ = some .nilIface := by unfold World.cell?; rw [hs2]; rfl
    refine Win.seq ?_
    refine Win.region ?_
    simp only [List.size_toArray, List.length_cons, List.length_nil, Nat.reduceAdd, List.range, List.range.loop]
    refine Win.lookOp (v := .nilIface) (ad := ⟨w.heap.size, 0, none⟩) (x := .nilIface) (.inr hne2) rfl rfl (hcv) (fun w hc => by rw [Sem.runT_eq]; simp [go_sem, execOp, Act.eval, hc]) ?_
    simp only [Act.put, Act.eval, gtA, gtZ, gtS, siA, scS, scZ]
    refine Win.pureOp (v := .tuple #[.agg #[], .bool false]) (.inr hne2) rfl rfl (fun w => by rw [Sem.runT_eq]; simp [go_sem, execOp, Act.eval, assert_halt]; try rfl) ?_
    simp only [Act.put, Act.eval, gtA, gtZ, gtS, siA, scS, scZ]
    refine Win.pureOp (v := .tuple #[.agg #[], .bool false]) (.inr hne2) rfl rfl (fun w => rfl) ?_
    simp only [Act.put, Act.eval, gtA, gtZ, gtS, siA, scS, scZ]
    refine Win.pureOp (v := .agg #[]) (.inr hne2) rfl rfl (fun w => by rw [Sem.runT_eq]; simp [go_sem, execOp, Act.eval]) ?_
    simp only [Act.put, Act.eval, gtA, gtZ, gtS, siA, scS, scZ]
    refine Win.pureOp (v := .bool false) (.inr hne2) rfl rfl (fun w => by rw [Sem.runT_eq]; simp [go_sem, execOp, Act.eval]) ?_
    simp only [Act.put, Act.eval, gtA, gtZ, gtS, siA, scS, scZ]
    refine Win.makeOp (v := .pointer (some ⟨u2.heap.size, 0, none⟩)) (ob := .cells #[] 115) (es := #[]) hl2 (.inr hne2) rfl rfl (fun d => by rw [Sem.runT_eq]; simp [go_sem, execOp, Act.eval]; try rfl) (fun e he => by simp at he) ?_
    simp only [Act.put, Act.eval, gtA, gtZ, gtS, siA, scS, scZ]
    have hk3 := hk2.trans (ks_alloc (· = w.heap.size) u2 (.cells #[] 115))
    have hl3 := hl2.alloc (.cells #[] 115)
    have hcx : (u2.alloc (.cells #[] 115)).cell? ⟨w.heap.size, 0, none⟩ = some .nilIface := alloc_cell u2 _ hcv
    generalize hu3 : u2.alloc (.cells #[] 115) = u3 at hk3 hl3 hcx ⊢
    refine Win.opS (.inr hne2) rfl rfl fun d => ⟨u3.at d, #[], ?_, ⟨fun _ _ _ _ _ => rfl, fun _ _ _ z => z⟩, fun e he => by simp at he, Win.at ?_ d⟩
    · rw [Sem.runT_eq]
      generalize u3.at d = W
      simp [go_sem, execOp, Act.eval]
      try rfl
    simp only [Act.put, Act.eval, gtA, gtZ, gtS, siA, scS, scZ]
    refine Win.pureOp (v := .bool false) (.inr hne2) rfl rfl (fun w => rfl) ?_
    simp only [Act.put, Act.eval, gtA, gtZ, gtS, siA, scS, scZ]
    refine Win.opsEnd ?_
    refine Win.seq ?_
    refine Win.region ?_
    simp only [List.size_toArray, List.length_cons, List.length_nil, Nat.reduceAdd, List.range, List.range.loop]
    refine Win.pureOp (v := .bool false) (.inr hne2) rfl rfl (fun w => rfl) ?_
    simp only [Act.put, Act.eval, gtA, gtZ, gtS, siA, scS, scZ]
    refine Win.opsEnd ?_
    refine Win.cond (t := false) rfl ?_
    simp only [if_false, Bool.false_eq_true]
    refine Win.skip ?_
    refine Win.falls ?_
    refine Win.leaveDeferred (v := .tuple #[]) rfl rfl hne2 Try.func59 (fun d => ⟨#[], by rw [Sem.runT_eq]; simp [go_sem, results, Try.f59], fun e he => by simp at he⟩) (fun v' g older => by simp) ?_
    refine Win.leave (v := .nilIface) rfl rfl hne Try.func42 (fun d => ⟨#[⟨.cell ⟨w.heap.size, 0, none⟩, false, false⟩], ?_, fun e he => by obtain rfl : e = ⟨.cell ⟨w.heap.size, 0, none⟩, false, false⟩ := (by simpa using he); exact ⟨rfl, fun m => by simp⟩⟩) (H c' u3 hc' hk3 hl3)
    rw [Sem.runT_eq]
    have hc : (u3.at d).cell? ⟨w.heap.size, 0, none⟩ = some .nilIface := hcx
    generalize u3.at d = W at hc ⊢
    simp [go_sem, results, Try.f42, Frame.at, hc]
end
end Go.Proofs.Ytnbaiinhalplcaa
