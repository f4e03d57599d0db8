/- What one does alone, in company: a piece of code, with what it holds of blocks that nobody who waits looks at. Package agent, the side of who steps: Stop. Written by gen/ak_b.py. Agents by trees, on: a Stop, as a whole. AgentCounts' program, in company: so many updates, and a deferred addition. Written by gen/ak_d.py. A crew of agents, each by its tree: one more is made, one is stepped, one is stopped, who steps does something alone. The arena's Update, and an agent's touch, by a closure that turns blocks of its own and makes memory. Written by gen/bg_u.py. An agent's update by a closure that turns blocks of its own. Written by gen/bg_r.py. A piece of an agent's own code, done in company: what it makes is its own, or shared. Conditions: as each theorem states them. -/
import Derived.Test.YtnbaiinhalplcaaPg11
import Derived.Test.YtnbaiinhalplcaaPg13
namespace Go.Proofs.Ytnbaiinhalplcaa
open List renaming getElem_toArray → gtA, getElem_cons_zero → gtZ, getElem_cons_succ → gtS, setIfInBounds_toArray → siA, set_cons_succ → scS, set_cons_zero → scZ, getElem?_toArray → gqA, getElem?_cons_zero → gqZ, getElem?_cons_succ → gqS
set_option linter.unusedVariables false
set_option linter.unusedSimpArgs false
set_option maxRecDepth 100000
open Go.Conc

/-- Two in one. -/
theorem Priv.and {o1 o2 : Nat → Prop} {A B : World → Prop} (h1 : Priv o1 A) (h2 : Priv o2 B) : Priv (fun b => o1 b ∨ o2 b) (fun w => A w ∧ B w) := by
  refine ⟨fun w w' h hb => ⟨h1.st _ _ h.1 fun b hb' => hb b (.inl hb'), h2.st _ _ h.2 fun b hb' => hb b (.inr hb')⟩, fun w b h hb => ?_, fun w b h hb => ?_⟩
  · rcases hb with z | z
    · exact h1.np _ _ h.1 z
    · exact h2.np _ _ h.2 z
  · rcases hb with z | z
    · exact h1.lt _ _ h.1 z
    · exact h2.lt _ _ h.2 z
theorem Priv.const (p : Prop) : Priv (fun _ => False) (fun _ => p) := ⟨fun _ _ h _ => h, fun _ _ _ h => h.elim, fun _ _ _ h => h.elim⟩
theorem Priv.row (k : Nat) (cs : Array Value) (t : TypeId) (fz : Nat × Nat) : Priv (· = k) (fun w => w.heap[k]? = some (.cells cs t fz)) :=
  ⟨fun w w' h hb => (hb k rfl).trans h, fun w b h e => by have e' : b = k := e; subst e'; rw [h]; rfl, fun w b h e => by have e' : b = k := e; subst e'; exact lt_of_block h⟩
section
variable {pl : Nat → Option Place} {F : Nat → Option (Nat × Nat)} {w w' : World} {n h : Nat} {Post : Value → World → Prop}

/-- A PIECE OF CODE that one does alone, in company: it ends normally. -/
theorem Lies.code (L : Lies pl F w) (hFn : ∀ x, w.heap.size ≤ x → F x = none) {own S : Nat → Prop} {A : World → Prop} (hP : Priv own A) (hA : A w) (hFo : ∀ b, own b → F b = none)
    {b : Frame} {a : Act} {k : List Item} {cs : List Frame} {c : Code} {R : Act → (Nat → Prop) → World → Prop} (hR : ∀ a' o, Priv o (R a' o))
    (hok : StOK Try.prog (b.at a (.code c :: k)) [])
    (hc : ∀ (wt : World) (Q : Exit → Act → World → Prop), A wt → wt.heap.size = w.heap.size → (∀ ad, wt.cell? ad = w.cell? ad) → (∀ a' o w', (∀ x, o x → own x ∨ (wt.heap.size ≤ x ∧ x < w'.heap.size)) → R a' o w' → Ks S wt w' → Q .normal a' w') → c.wp Try.prog Q a wt)
    (H : ∀ a' o w', (∀ x, o x → own x ∨ (w.heap.size ≤ x ∧ x < w'.heap.size)) → R a' o w' → Ks S w w' → Lies pl F w' → Win Try.prog Post pl n h (gor (b.at a' k) cs) w') :
    Win Try.prog Post pl n h (gor (b.at a (.code c :: k)) cs) w := by
  refine Win.code mild L (Q := fun e a' u => e = .normal ∧ ∃ o, (∀ x, o x → own x ∨ (w.heap.size ≤ x ∧ x < u.heap.size)) ∧ R a' o u ∧ Ks S (L.veil.world (fun _ _ => 0) 0 w) u) hok (fun τ => ?_) ?_ ?_ ?_ ?_
  · refine hc _ _ (hP.st _ _ hA fun b hb => L.same w (hFo b hb) (hP.np _ _ hA hb)) veil_size (fun ad => veil_cell ad) fun a' o u ho hr hk => ⟨rfl, o, fun x hx => (ho x hx).imp id fun z => ⟨by have := z.1; rw [veil_size] at this; exact this, z.2⟩, hr, ks_twin0 hk⟩
  · intro a u h; cases h.1
  · intro id a u h; cases h.1
  · intro l a u h; cases h.1
  · intro e a' w' τ' D' fr' hst hVOK hVK hq hl
    obtain ⟨rfl, o, ho, hr, hk⟩ := hq
    obtain rfl : fr' = b.at a' k := hl
    have hK := ks_of_twin L hVOK hVK hk
    refine H a' o w' (fun x hx => (ho x hx).imp id fun z => ⟨z.1, by have := z.2; rw [veil_size] at this; exact this⟩) ?_ hK (L.keeps hVK hVOK)
    refine (hR a' o).st _ _ hr fun x hx => ?_
    rcases ho x hx with z | z
    · exact (L.same w' (hFo x z) (hP.np _ _ hA z)).symm
    · refine (L.same w' (hFn x z.1) ?_).symm
      rw [Array.getElem?_eq_none z.1]; rfl
end

section
variable {SB : Nat → Prop} {pA rA : Nat} {pl pl' : Nat → Option Place} {F F' : Nat → Option (Nat × Nat)} {col col' : Nat → Col} {w w' : World} {n : Nat} {Post : Value → World → Prop}
theorem Desk.turned (D : Desk SB pA rA pl F col w) (hL : Lies pl F w') (hz : w.heap.size ≤ w'.heap.size) : Desk SB pA rA pl F col w' :=
  ⟨D.pl0, hL, ⟨D.lay.free, fun b hb => D.lay.above b (by omega), D.lay.sb, D.lay.ar⟩, D.own⟩

/-- The same for who steps. -/
theorem Desk.code (D : Desk SB pA rA pl F col w) {own S : Nat → Prop} {A : World → Prop} (hP : Priv own A) (hA : A w) (hown : ∀ b, own b → (col b).isSys = false)
    {b : Frame} {a : Act} {k : List Item} {cs : List Frame} {c : Code} {R : Act → (Nat → Prop) → World → Prop} (hR : ∀ a' o, Priv o (R a' o))
    (hok : StOK Try.prog (b.at a (.code c :: k)) [])
    (hc : ∀ (wt : World) (Q : Exit → Act → World → Prop), A wt → wt.heap.size = w.heap.size → (∀ ad, wt.cell? ad = w.cell? ad) → (∀ a' o w', (∀ x, o x → own x ∨ (wt.heap.size ≤ x ∧ x < w'.heap.size)) → R a' o w' → Ks S wt w' → Q .normal a' w') → c.wp Try.prog Q a wt)
    (H : ∀ a' o w', (∀ x, o x → own x ∨ (w.heap.size ≤ x ∧ x < w'.heap.size)) → R a' o w' → Ks S w w' → Desk SB pA rA pl F col w' → Win Try.prog Post pl n 0 (gor (b.at a' k) cs) w') :
    Win Try.prog Post pl n 0 (gor (b.at a (.code c :: k)) cs) w :=
  D.lies.code (fun x hx => D.lay.free x (by rw [D.lay.above x hx]; rfl)) hP hA (fun x hx => D.lay.free x (hown x hx)) hR hok hc fun a' o w' ho hr hk hL => H a' o w' ho hr hk (D.turned hL hk.size)
end
end Go.Proofs.Ytnbaiinhalplcaa

namespace Go.Proofs.Ytnbaiinhalplcaa
open List renaming getElem_toArray → gtA, getElem_cons_zero → gtZ, getElem_cons_succ → gtS, setIfInBounds_toArray → siA, set_cons_succ → scS, set_cons_zero → scZ, getElem?_toArray → gqA, getElem?_cons_zero → gqZ, getElem?_cons_succ → gqS
set_option linter.unusedVariables false
set_option linter.unusedSimpArgs false
set_option maxRecDepth 100000
open Go.Conc
open Go.ConcN (upd_ne upd_same)

def codeThen : Code → Code
  | .cond _ a _ => a
  | c => c
theorem done_at (w : World) (p : Nat) (o : Bool) (h : w.cell? ⟨p, 6, none⟩ = some (.bool o)) : Calls Try.prog 15 #[.pointer (some ⟨p, 0, none⟩)] w fun e w' => e = .returned (.bool o) ∧ w' = w := by
  go_enter Try.func15, Try.ntmps15
  go_wp2
  simp [bodyPost, results, Try.results15]
/-- Stop's slots behind its close. -/
def stopTmps (p cS : Nat) (x : Value) : Array Value := #[.pointer (some ⟨p, 0, none⟩), undef, .pointer (some ⟨p, 0, none⟩), .bool false, .pointer (some ⟨p, 0, none⟩), .pointer (some ⟨p, 0, none⟩), .pointer (some ⟨p, 6, none⟩), .pointer (some ⟨p, 0, none⟩), .pointer (some ⟨p, 0, none⟩), .pointer (some ⟨p, 5, none⟩), .bool false, .bool true, .pointer (some ⟨p, 0, none⟩), .pointer (some ⟨p, 0, none⟩), .pointer (some ⟨p, 3, none⟩), .chan (some cS), x, undef]
/-- Where Stop stands while it waits for the end. -/
def stopWait (P : Program) (f : Func) (p cS : Nat) : Frame :=
  (Frame.enter P 16 #[.pointer (some ⟨p, 0, none⟩)] .normal).at ⟨stopTmps p cS (.pointer (some ⟨p, 0, none⟩)), []⟩ [.inRegion (regOps (codeR (codeThen (codeR (codeR (codeR (bodyOf f))))))) [1]]
def stopHome (p cS cT : Nat) (cs : List Frame) (g : Goroutine) : Prop := g = gor (waitFr Try.prog Try.f32 p cT) (stopWait Try.prog Try.f16 p cS :: cs)

theorem way_stop (p cS cT : Nat) (cs : List Frame) (main : Bool) (ops : Array Oper) : Way Try.prog main (waitSeat p cT (fun _ _ => False) (stopHome p cS cT cs)) 60
    (gor ((Frame.enter Try.prog 16 #[.pointer (some ⟨p, 0, none⟩)] .normal).at (⟨stopTmps p cS undef, []⟩ : Act) (.inRegion ops [] :: [.code (codeR (codeThen (codeR (codeR (codeR (bodyOf Try.f16))))))])) cs) := by
  have hne : (Frame.enter Try.prog 16 #[Value.pointer (some { block := p, off := 0 })] CallKind.normal).kind = .normal := rfl
  refine Way.upTo (N := 44) ?_ (by omega)
  refine Way.opsEnd ?_
  simp only [bodyOf, Try.f16, codeR, codeThen, Option.getD_some]
  refine Way.region ?_
  simp only [List.size_toArray, List.length_cons, List.length_nil, Nat.reduceAdd, List.range, List.range.loop, stopTmps]
  refine Way.pure (v := .pointer (some ⟨p, 0, none⟩)) (.inl hne) rfl rfl (fun w => rfl) ?_
  simp only [Act.put, Act.eval, gtA, gtZ, gtS, siA, scS, scZ]
  refine Way.enter (f := 32) (args := #[.pointer (some ⟨p, 0, none⟩)]) (es := #[]) (.inl hne) rfl rfl (fun e he => by simp at he) (fun w _ => call_enter mild.toMild Try.func32 rfl rfl rfl rfl _ _ (by simp [Act.eval])) ?_
  have hw := way_wait p cT (fun _ _ => False) (stopWait Try.prog Try.f16 p cS :: cs) main
  exact hw

section
variable {pl : Nat → Option Place} {n : Nat} {Post : Value → World → Prop} {F : Nat → Option (Nat × Nat)} {w : World}

set_option maxHeartbeats 2000000 in
theorem stop_in (L : Lies pl F w) {c : Frame} {cs : List Frame} {p cS cT j : Nat} {s : Place} {z : Value} (h6 : w.cell? ⟨p, 6, none⟩ = some (.bool false)) (h5 : w.cell? ⟨p, 5, none⟩ = some (.bool false)) (h3 : w.cell? ⟨p, 3, none⟩ = some (.chan (some cS))) (h1 : w.cell? ⟨p, 1, none⟩ = some (.chan (some cT))) (f6 : ∀ u, Ks (fun _ => False) w u → u.frozen? ⟨p, 6, none⟩ = false) (F6 : Free pl ⟨p, 6, none⟩)
    (hj : pl j = some s) (hk : s.cases[1]? = some (rcase cS z)) (hS : Open cS w) (hT : Open cT w) (hST : cS ≠ cT) (hSp : cS ≠ p) (hTp : cT ≠ p) (hap : ∀ i s' c, pl i = some s' → s'.has c → c ≠ cT)
    (hw : ∀ u g₂ d m, Ks (fun _ => False) w u → Lies pl F u → s.home g₂ → u.heap[cS]? = some (.chan 0 #[] false m m false) → Win Try.prog Post (moved pl 0 j (some (waitSeat p cT (fun _ _ => False) (stopHome p cS cT (c :: cs))))) n j (Go.Conc.served g₂ (commResult s.cases s.shape 1 z false)) (((u.setCell ⟨p, 6, none⟩ (.bool true)).at d).setChan cS 0 #[] true m m false)) :
    Win Try.prog Post pl n 0 (gor (Frame.enter Try.prog 16 #[.pointer (some ⟨p, 0, none⟩)] .normal) (c :: cs)) w := by
  have hne : (Frame.enter Try.prog 16 #[.pointer (some ⟨p, 0, none⟩)] CallKind.normal).kind = .normal := rfl
  rw [enter_at Try.func16 rfl]
  simp only [Try.ntmps16, List.size_toArray, List.length_cons, List.length_nil, Nat.reduceAdd, Nat.reduceSub, Array.replicate_succ, Array.replicate_zero, List.push_toArray, List.append_toArray, List.nil_append, List.cons_append]
  refine Win.seq ?_
  refine Win.seq ?_
  refine Win.region ?_
  simp only [List.size_toArray, List.length_cons, List.length_nil, Nat.reduceAdd, List.range, List.range.loop]
  refine Win.pureOp (v := .pointer (some ⟨p, 0, none⟩)) (.inl hne) rfl rfl (fun w => rfl) ?_
  simp only [Act.put, Act.eval, gtA, gtZ, gtS, siA, scS, scZ]
  refine Win.enter (f := 15) (args := #[.pointer (some ⟨p, 0, none⟩)]) (.inl hne) rfl rfl (fun d => ⟨#[], call_enter mild.toMild Try.func15 rfl rfl rfl rfl _ _ (by simp [Act.eval]), fun e he => by simp at he⟩) ?_
  refine Win.calls mild L (stok_at rfl rfl (by simp) (by kernel_rfl)) (R := fun e w' => e = .returned (.bool false) ∧ Ks (fun _ => False) (L.veil.world (fun _ _ => 0) 0 w) w') (fun τ => (done_at _ p false (by rw [veil_cell]; exact h6)).mono (by rintro e w' ⟨h1, rfl⟩; exact ⟨h1, ks_twin0 (Ks.refl _ _)⟩)) (fun e w' h => ⟨_, h.1⟩) ?_
  intro v' u τ Dd hok' hVOK hVK hR
  obtain ⟨hv, hku⟩ := hR
  obtain rfl : v' = .bool false := by simpa using hv
  have k1 := ks_of_twin L hVOK hVK hku
  have L1 := L.keeps hVK hVOK
  clear hv hku hok' hVOK hVK
  have hcell : ∀ {ad : Addr} {x : Value}, w.cell? ad = some x → u.cell? ad = some x := fun {ad x} h => (World.cell?_of_block (k1.block _ (World.block_lt_of_cell? _ _ h) fun z => z)).trans h
  have u6 := hcell h6
  have u5 := hcell h5
  have u3 := hcell h3
  have u1 := hcell h1
  have g6 := f6 u k1
  rw [Frame.finish_at]
  simp only [Act.put, Act.eval, gqA, gqZ, gqS, Option.bind_some, gtA, gtZ, gtS, siA, scS, scZ]
  refine Win.opsEnd ?_
  refine Win.cond (t := false) rfl ?_
  simp only [if_false, Bool.false_eq_true]
  refine Win.skip ?_
  refine Win.seq ?_
  refine Win.region ?_
  simp only [List.size_toArray, List.length_cons, List.length_nil, Nat.reduceAdd, List.range, List.range.loop]
  refine Win.pureOp (v := .pointer (some ⟨p, 0, none⟩)) (.inl hne) rfl rfl (fun w => rfl) ?_
  simp only [Act.put, Act.eval, gtA, gtZ, gtS, siA, scS, scZ]
  refine Win.pureOp (v := .pointer (some ⟨p, 0, none⟩)) (.inl hne) rfl rfl (fun w => by rw [Sem.runT_eq]; simp [go_sem, execOp, Act.eval]) ?_
  simp only [Act.put, Act.eval, gtA, gtZ, gtS, siA, scS, scZ]
  refine Win.pureOp (v := .pointer (some ⟨p, 6, none⟩)) (.inl hne) rfl rfl (fun w => by rw [Sem.runT_eq]; simp [go_sem, execOp, Act.eval]) ?_
  simp only [Act.put, Act.eval, gtA, gtZ, gtS, siA, scS, scZ]
  refine Win.storeOp (ad := ⟨p, 6, none⟩) (x := .bool true) (.inl hne) rfl rfl F6 (fun d => by
    rw [Sem.runT_eq]
    have c1 : (u.at d).cell? ⟨p, 6, none⟩ = some (.bool false) := u6
    have c2 : (u.at d).frozen? ⟨p, 6, none⟩ = false := g6
    generalize u.at d = W at c1 c2 ⊢
    obtain ⟨s1, s2⟩ := store_ok (P := Try.prog) (x := .bool true) (w := W) (m := .plain) (by simp) (by simp) c1 c2
    simp [go_sem, execOp, Act.eval, s1, s2, c1, c2]) ?_
  simp only [Act.put, Act.eval, gtA, gtZ, gtS, siA, scS, scZ]
  have v5 := cell_setCell_ne (ad := ⟨p, 6, none⟩) (x := .bool true) u5 (by simp)
  have v3 := cell_setCell_ne (ad := ⟨p, 6, none⟩) (x := .bool true) u3 (by simp)
  have v1 := cell_setCell_ne (ad := ⟨p, 6, none⟩) (x := .bool true) u1 (by simp)
  have hkv := ks_setCell u ⟨p, 6, none⟩ (.bool true)
  obtain ⟨mS, hmS⟩ := hS
  have uS := k1.row (fun z => z) hmS
  have vS : (u.setCell ⟨p, 6, none⟩ (.bool true)).heap[cS]? = _ := hkv.row (show ¬ cS = p from hSp) uS
  have vT : Open cT (u.setCell ⟨p, 6, none⟩ (.bool true)) := (hT.keep k1 fun z => z).keep hkv (show ¬ cT = p from hTp)
  have hW := fun g₂ d hg => hw u g₂ d mS k1 L1 hg uS
  generalize u.setCell ⟨p, 6, none⟩ (.bool true) = w2 at v5 v3 v1 vS vT hW ⊢
  refine Win.opsEnd ?_
  refine Win.seq ?_
  refine Win.region ?_
  simp only [List.size_toArray, List.length_cons, List.length_nil, Nat.reduceAdd, List.range, List.range.loop]
  refine Win.pureOp (v := .pointer (some ⟨p, 0, none⟩)) (.inl hne) rfl rfl (fun w => rfl) ?_
  simp only [Act.put, Act.eval, gtA, gtZ, gtS, siA, scS, scZ]
  refine Win.pureOp (v := .pointer (some ⟨p, 0, none⟩)) (.inl hne) rfl rfl (fun w => by rw [Sem.runT_eq]; simp [go_sem, execOp, Act.eval]) ?_
  simp only [Act.put, Act.eval, gtA, gtZ, gtS, siA, scS, scZ]
  refine Win.pureOp (v := .pointer (some ⟨p, 5, none⟩)) (.inl hne) rfl rfl (fun w => by rw [Sem.runT_eq]; simp [go_sem, execOp, Act.eval]) ?_
  simp only [Act.put, Act.eval, gtA, gtZ, gtS, siA, scS, scZ]
  refine Win.lookOp (v := .bool false) (ad := ⟨p, 5, none⟩) (x := .bool false) (.inl hne) rfl rfl (v5) (fun w hc => by rw [Sem.runT_eq]; simp [go_sem, execOp, Act.eval, hc]) ?_
  simp only [Act.put, Act.eval, gtA, gtZ, gtS, siA, scS, scZ]
  refine Win.pureOp (v := .bool true) (.inl hne) rfl rfl (fun w => by rw [Sem.runT_eq]; simp [go_sem, execOp, Act.eval]) ?_
  simp only [Act.put, Act.eval, gtA, gtZ, gtS, siA, scS, scZ]
  refine Win.opsEnd ?_
  refine Win.cond (t := true) rfl ?_
  simp only [if_true]
  refine Win.seq ?_
  refine Win.region ?_
  simp only [List.size_toArray, List.length_cons, List.length_nil, Nat.reduceAdd, List.range, List.range.loop]
  refine Win.pureOp (v := .pointer (some ⟨p, 0, none⟩)) (.inl hne) rfl rfl (fun w => rfl) ?_
  simp only [Act.put, Act.eval, gtA, gtZ, gtS, siA, scS, scZ]
  refine Win.pureOp (v := .pointer (some ⟨p, 0, none⟩)) (.inl hne) rfl rfl (fun w => by rw [Sem.runT_eq]; simp [go_sem, execOp, Act.eval]) ?_
  simp only [Act.put, Act.eval, gtA, gtZ, gtS, siA, scS, scZ]
  refine Win.pureOp (v := .pointer (some ⟨p, 3, none⟩)) (.inl hne) rfl rfl (fun w => by rw [Sem.runT_eq]; simp [go_sem, execOp, Act.eval]) ?_
  simp only [Act.put, Act.eval, gtA, gtZ, gtS, siA, scS, scZ]
  refine Win.lookOp (v := .chan (some cS)) (ad := ⟨p, 3, none⟩) (x := .chan (some cS)) (.inl hne) rfl rfl (v3) (fun w hc => by rw [Sem.runT_eq]; simp [go_sem, execOp, Act.eval, hc]) ?_
  simp only [Act.put, Act.eval, gtA, gtZ, gtS, siA, scS, scZ]
  refine Win.closes (j := j) (c := cS) (kk := 1) (m := mS) (z := z) (pl' := some (waitSeat p cT (fun _ _ => False) (stopHome p cS cT (c :: cs)))) (.inl hne) rfl rfl rfl rfl rfl hj hk vS ⟨waitSeat_wf, fun q hq => ?_, fun i' s' q hi hq hq' => ?_, fun ad v hv => ?_, 60, ?_⟩ (fun g₂ d hg => hW g₂ d hg)
  · rw [waitSeat_has hq]; exact vT
  · exact hap i' s' q hi hq (waitSeat_has hq')
  · rcases hv with ⟨rfl, rfl⟩ | h
    · exact v1
    · exact h.elim
  · exact way_stop p cS cT (c :: cs) _ _

/-- Behind the wait. -/
theorem stop_after {c : Frame} {cs : List Frame} {p cS cT : Nat} {next x y : Value} {ok : Bool} (h4 : w.cell? ⟨p, 4, none⟩ = some x) (h6 : w.cell? ⟨p, 6, none⟩ = some y) (f4 : w.frozen? ⟨p, 4, none⟩ = false) (f6 : w.frozen? ⟨p, 6, none⟩ = false)
    (hn1 : ∀ l, next ≠ .agg l) (hn2 : ∀ l, next ≠ .tuple l) (F4 : Free pl ⟨p, 4, none⟩) (F6 : Free pl ⟨p, 6, none⟩)
    (H : Win Try.prog Post pl n 0 (gor (c.finish (.tuple #[])) cs) ((w.setCell ⟨p, 4, none⟩ next).setCell ⟨p, 6, none⟩ (.bool !ok))) :
    Win Try.prog Post pl n 0 (Go.Conc.served (gor (waitFr Try.prog Try.f32 p cT) (stopWait Try.prog Try.f16 p cS :: c :: cs)) (.tuple #[next, .bool ok])) w := by
  have hne : (Frame.enter Try.prog 16 #[.pointer (some ⟨p, 0, none⟩)] CallKind.normal).kind = .normal := rfl
  refine wait_back h4 h6 f4 f6 hn1 hn2 F4 F6 ?_
  generalize (w.setCell ⟨p, 4, none⟩ next).setCell ⟨p, 6, none⟩ (.bool !ok) = w2 at H ⊢
  unfold stopWait
  rw [Frame.finish_at]
  simp only [bodyOf, Try.f16, codeR, codeThen, regOps, Option.getD_some, stopTmps]
  simp only [Act.put, Act.eval, gqA, gqZ, gqS, Option.bind_some, gtA, gtZ, gtS, siA, scS, scZ]
  refine Win.opsEnd ?_
  refine Win.falls ?_
  refine Win.leave (v := .tuple #[]) rfl rfl rfl Try.func16 (fun d => ⟨#[], by rw [Sem.runT_eq]; simp [results, Try.results16, go_sem]; try rfl, fun e he => by simp at he⟩) H
end
end Go.Proofs.Ytnbaiinhalplcaa

namespace Go.Proofs.Ytnbaiinhalplcaa
open List renaming getElem_toArray → gtA, getElem_cons_zero → gtZ, getElem_cons_succ → gtS, setIfInBounds_toArray → siA, set_cons_succ → scS, set_cons_zero → scZ, getElem?_toArray → gqA, getElem?_cons_zero → gqZ, getElem?_cons_succ → gqS
set_option linter.unusedVariables false
set_option linter.unusedSimpArgs false
set_option maxRecDepth 100000
open Go.Conc
open Go.ConcN (upd_ne upd_same)

section
variable {G : Type} {Post : Value → World → Prop} {Sh : (Nat → Col) → World → G → Prop} {SB : Nat → Prop} {pA rA : Nat} {a : Ag} {mv : Value} {n : Nat}
variable {pl pl' : Nat → Option Place} {F F' : Nat → Option (Nat × Nat)} {col col' : Nat → Col} {w w' : World} {g : G}

theorem stAt_over {nx nx' : Value} {bz ov : Bool} (h : StAt a mv nx bz ov w) (ok : Bool) : StAt a mv nx' bz ok ((w.setCell ⟨a.p, 4, none⟩ nx').setCell ⟨a.p, 6, none⟩ (.bool ok)) := by
  unfold StAt at *
  have h1 := heap_setCell_same w a.p 4 _ _ nx' h
  have h2 := heap_setCell_same _ a.p 6 _ _ (.bool ok) h1
  rw [h2]
  simp

set_option maxHeartbeats 2000000 in
/-- A STOP: the agent ends where it waits; what it has shared is as its tree says. -/
theorem stop_goes (hSh : Shar Sh) (D : Desk SB pA rA pl F col w) (hO : AgOK a F col) {k : Int} {φ : Int → Int} {c : Int → G → G} {nx : Int → G → Tree G} {hl : G → G} {pre : G → Prop} {c₀ : Frame} {cs : List Frame}
    (hst : Stands Post Sh SB pA rA a mv (.node k φ c nx hl pre) pl F col w) (hs : Sh col w g) (hpre : pre g)
    (H : ∀ pl' F' col' w', Desk SB pA rA pl' F' col' w' → Ks (fun b => col b = .ag a.j ∨ col b = .sys a.j ∨ col b = .shared) w w' → Same F col w F' col' → (∀ i, i ≠ a.j → pl' i = pl i) → Stands Post Sh SB pA rA a mv (.ret : Tree G) pl' F' col' w' → Sh col' w' (hl g) → Win Try.prog Post pl' n 0 (gor (c₀.finish (.tuple #[])) cs) w') :
    Win Try.prog Post pl n 0 (gor (Frame.enter Try.prog 16 #[.pointer (some ⟨a.p, 0, none⟩)] .normal) (c₀ :: cs)) w := by
  obtain ⟨t, hSt, oT, oU, oS, hPo⟩ := hst
  obtain ⟨b3, homeJ, own, A, B, f, cap, q1, q2, q3, q4, q5, q6, q7, q8, q9, q10, ⟨rfl, fn, hfn, hfb⟩, qT, qR, qS⟩ := hPo
  have hjp := hO.jpos
  have hj0 : a.j ≠ 0 := by omega
  have hplt := D.lay.lt (b := a.p) (by rw [hO.cp]; simp)
  have hTp : ∀ {x : Nat}, Open x w → x ≠ a.p := fun {x} h e => by
    obtain ⟨q, hq⟩ := h
    unfold StAt at hSt
    rw [← e, hq] at hSt; cases hSt
  have hmp : a.m ≠ a.p := fun e => by unfold MeAt at q6; unfold StAt at hSt; rw [e, hSt] at q6; simp at q6
  have hb3p : b3 ≠ a.p := fun e => by unfold StAt at hSt; rw [e, hSt] at q7; simp at q7
  have hmS : a.m ≠ a.cS := fun e => by obtain ⟨q, hq⟩ := oS; unfold MeAt at q6; rw [e, hq] at q6; cases q6
  have hb3S : b3 ≠ a.cS := fun e => by obtain ⟨q, hq⟩ := oS; rw [e, hq] at q7; cases q7
  refine stop_in D.lies (cS := a.cS) (cT := a.cT) (j := a.j) (s := turnSeat a.p a.m b3 a.cU a.cS homeJ) (z := .agg #[]) (cell_of_row hSt 6) (cell_of_row hSt 5) (cell_of_row hSt 3) (cell_of_row hSt 1) (fun u ku => free_of_row (ku.row (fun z => z) hSt) 6) (D.freeP hO hSt (by omega)) q1 rfl oS oT hO.dis.2.1.symm (hTp oS) (hTp oT) (fun i s' x hi hx e => ?_) (fun u g₂ d m ku Lu hg₂ huS => ?_)
  · have h1 := D.own i s' x hi hx
    rw [e, hO.ccT] at h1
    have h2 : a.j = i := Col.sys.inj h1
    subst h2
    rw [q1] at hi
    obtain rfl := Option.some.inj hi
    rcases turnSeat_has hx with h | h
    · exact hO.dis.1 (e.symm.trans h)
    · exact hO.dis.2.1 (e.symm.trans h)
  have hSp : a.cS ≠ a.p := hTp oS
  have huS' : ((u.setCell ⟨a.p, 6, none⟩ (.bool true)).at d).heap[a.cS]? = some (.chan 0 #[] false m m false) := (ks_setCell u ⟨a.p, 6, none⟩ (.bool true)).row (show ¬ a.cS = a.p from hSp) huS
  have hWL0 : Lies pl F (((u.setCell ⟨a.p, 6, none⟩ (.bool true)).at d).setChan a.cS 0 #[] true m m false) := ((Lu.setCell _ _).at d).setChan huS' _ _ _ _ _ _
  have kAll : Ks (fun b => b = a.p ∨ b = a.cS) w (((u.setCell ⟨a.p, 6, none⟩ (.bool true)).at d).setChan a.cS 0 #[] true m m false) :=
    (((ku.mono fun _ _ z => z.elim).then (ks_setCell u ⟨a.p, 6, none⟩ (.bool true)) fun _ _ e => .inl e).at d).then (ks_setChan _ a.cS _ _ _ _ _ _) fun _ _ e => .inr e
  have hWS0 : StAt a mv (.func (.func f) #[] cap) false true (((u.setCell ⟨a.p, 6, none⟩ (.bool true)).at d).setChan a.cS 0 #[] true m m false) := by
    have h1 : StAt a mv (.func (.func f) #[] cap) false false u := ku.row (fun z => z) hSt
    have h2 : StAt a mv (.func (.func f) #[] cap) false true (u.setCell ⟨a.p, 6, none⟩ (.bool true)) := by
      unfold StAt at *
      rw [heap_setCell_same _ a.p 6 _ _ (.bool true) h1]
      simp
    exact (ks_setChan ((u.setCell ⟨a.p, 6, none⟩ (.bool true)).at d) a.cS 0 #[] true m m false).row (show ¬ a.p = a.cS from hSp.symm) h2
  have hWC : Shut' a.cS (((u.setCell ⟨a.p, 6, none⟩ (.bool true)).at d).setChan a.cS 0 #[] true m m false) := ⟨m, Array.getElem?_setIfInBounds_self_of_lt (lt_of_block huS')⟩
  generalize ((u.setCell ⟨a.p, 6, none⟩ (.bool true)).at d).setChan a.cS 0 #[] true m m false = W at hWL0 kAll hWS0 hWC ⊢
  refine (told_stop a.p a.m b3 a.cU a.cS homeJ).symm ▸ ?_
  have hzW := kAll.size
  have hne : ∀ b, col b ≠ .sys a.j → ¬ (b = a.p ∨ b = a.cS) := fun b hb z => by
    rcases z with z | z
    · exact hb (by rw [z]; exact hO.cp)
    · exact hb (by rw [z]; exact hO.ccS)
  have hLay : Lay SB pA rA col F W := ⟨D.lay.free, fun b hb => D.lay.above b (by omega), D.lay.sb, D.lay.ar⟩
  have hWT : Open a.cT W := oT.keep kAll fun z => z.elim (hTp oT) fun e => hO.dis.2.1 e
  have hWU : Open a.cU W := oU.keep kAll fun z => z.elim (hTp oU) fun e => hO.dis.2.2 e
  have hWm : MeAt a false 0 W := kAll.row (fun z => z.elim hmp hmS) q6
  have hW3 := kAll.row (fun z => z.elim hb3p hb3S) q7
  have hWA : A W := q3.st _ _ q5 fun b hb => kAll.block b (q3.lt _ _ q5 hb) (hne b (by rw [q2 b hb]; simp))
  have hWSh : Sh col W g := hSh.st _ _ _ _ _ hs (fun b hb => kAll.block b (D.lay.ltS hb) (hne b (by rw [hb]; simp))) fun _ hb => hb
  refine qS (stopHome a.p a.cS a.cT (c₀ :: cs)) n _ F col W g g₂ hg₂ ⟨hjp, ?_, hLay, ⟨_, moved_h _ _ _ _⟩, moved_j _ _ hj0, ?_, ⟨_, _, hWS0⟩, hWm, hO.fm, hO.fp, hO.cm, hO.cp, hO.ccT, hO.ccU, hO.ccS, hO.dis, hWT, hWU, fun h => by cases h⟩ q2 hWA hW3 hWSh hpre ?_
  · unfold moved
    refine (hWL0.drop a.j).put 0 (fun x hx => ?_) fun ad v hv => ?_
    · obtain rfl := waitSeat_has hx
      obtain ⟨q, hq⟩ := hWT
      exact ⟨_, _, _, _, _, _, hq⟩
    · rcases hv with ⟨rfl, rfl⟩ | h
      · exact ⟨1, 4, hO.fp, Nat.le_refl _, (by decide : 1 < 4)⟩
      · exact h.elim
  · intro i s' hi
    by_cases e0 : i = 0
    · subst e0
      rw [moved_h] at hi
      obtain rfl := Option.some.inj hi
      exact ⟨fun h => hO.dis.1 (waitSeat_has h).symm, fun h => hO.dis.2.1 (waitSeat_has h).symm⟩
    · obtain ⟨ej, hi'⟩ := moved_old hj0 e0 hi
      exact ⟨fun h => by have := D.own i s' _ hi' h; rw [hO.ccU] at this; exact ej (Col.sys.inj this).symm, fun h => by have := D.own i s' _ hi' h; rw [hO.ccS] at this; exact ej (Col.sys.inj this).symm⟩
  · intro pl' F' col' w' gm hgm hA hpj hsh hs'
    have hgm' : gm = gor (waitFr Try.prog Try.f32 a.p a.cT) (stopWait Try.prog Try.f16 a.p a.cS :: c₀ :: cs) := hgm
    subst hgm'
    have hpS : ¬ mine a col a.p := by
      intro h
      rcases h with h | h | h
      · rw [hO.cp] at h; cases h
      · exact h.2 rfl
      · rw [hO.cp] at h; cases h
    have hst' : StAt a mv _ false true w' := hA.mv.ks.row hpS hWS0
    have hpltW : a.p < W.heap.size := by omega
    have hFp : F' a.p = some (1, 4) := (hA.mv.fo _ hpltW).trans hO.fp
    refine stop_after (cell_of_row hst' 4) (cell_of_row hst' 6) (free_of_row hst' 4) (free_of_row hst' 6) (by simp) (by simp) (free_of_lies hA.lies hFp hst' (by omega)) (free_of_lies hA.lies hFp hst' (by omega)) ?_
    have kl : Ks (· = a.p) w' ((w'.setCell ⟨a.p, 4, none⟩ .nilFunc).setCell ⟨a.p, 6, none⟩ (.bool true)) := (ks_setCell w' ⟨a.p, 4, none⟩ _).trans (ks_setCell _ ⟨a.p, 6, none⟩ _)
    have kz : ((w'.setCell ⟨a.p, 4, none⟩ .nilFunc).setCell ⟨a.p, 6, none⟩ (.bool true)).heap.size = w'.heap.size := by simp [World.setCell]
    refine H pl' F' col' _ ⟨hA.pl0, (hA.lies.setCell _ _).setCell _ _, ⟨hA.lay.free, fun b hb => hA.lay.above b (by rw [show ((w'.setCell ⟨a.p, 4, none⟩ .nilFunc).setCell ⟨a.p, 6, none⟩ (.bool !false)).heap.size = w'.heap.size from kz] at hb; exact hb), hA.lay.sb, hA.lay.ar⟩, fun i s x hi hx => ?_⟩ ?_ ⟨fun b hb => hA.mv.colo b (by omega), fun b hb => hA.mv.fo b (by omega)⟩ (fun i ej => ?_) ⟨hpj, stAt_over hst' true⟩ ?_
    · by_cases e0 : i = 0
      · subst e0; rw [hA.pl0] at hi; cases hi
      by_cases ej : i = a.j
      · subst ej; rw [hpj] at hi; cases hi
      · rw [hA.pls i e0 ej, moved_ne _ _ e0 ej] at hi
        have h := D.own i s x hi hx
        have hlt := D.lay.lt (b := x) (by rw [h]; simp)
        exact (hA.mv.colo x (by omega)).trans h
    · refine ((kAll.mono fun b _ z => ?_).then hA.mv.ks fun b hb z => ?_).then kl fun b hb z => ?_
      · rcases z with z | z
        · rw [z]; exact .inr (.inl hO.cp)
        · rw [z]; exact .inr (.inl hO.ccS)
      · rcases z with z | z | z
        · exact .inl z
        · exact .inr (.inl z.1)
        · exact .inr (.inr z)
      · have e' : b = a.p := z
        rw [e']; exact .inr (.inl hO.cp)
    · by_cases e0 : i = 0
      · subst e0; rw [hA.pl0, D.pl0]
      · exact (hA.pls i e0 ej).trans (moved_ne _ _ e0 ej)
    · refine hSh.st _ _ _ _ _ hs' (fun b hb => kl.block b (hA.lay.ltS hb) fun e => ?_) fun _ hb => hb
      have h1 := hb
      have h2 := hA.mv.colo a.p hpltW
      have e' : b = a.p := e
      rw [e', h2, hO.cp] at h1; cases h1
end
end Go.Proofs.Ytnbaiinhalplcaa
namespace Go.Proofs.Ytnbaiinhalplcaa
open List renaming getElem_toArray → gtA, getElem_cons_zero → gtZ, getElem_cons_succ → gtS, setIfInBounds_toArray → siA, set_cons_succ → scS, set_cons_zero → scZ, getElem?_toArray → gqA, getElem?_cons_zero → gqZ, getElem?_cons_succ → gqS
set_option linter.unusedVariables false
set_option linter.unusedSimpArgs false
set_option maxRecDepth 100000
open Go.Conc
open Go.ConcN (upd_ne upd_same)

/-- The first k agents stand, each by its tree. -/
structure Crew {G : Type} (Post : Value → World → Prop) (Sh : (Nat → Col) → World → G → Prop) (SB : Nat → Prop) (pA rA : Nat) (mv : Value) (n0 k : Nat) (ag : Nat → Ag) (T : Nat → Tree G) (pl : Nat → Option Place) (F : Nat → Option (Nat × Nat)) (col : Nat → Col) (w : World) (g : G) : Prop where
  npos : 0 < n0
  desk : Desk SB pA rA pl F col w
  out : ∀ i, n0 + k ≤ i → pl i = none
  ok : ∀ i, i < k → AgOK (ag i) F col
  num : ∀ i, i < k → (ag i).j = n0 + i
  st : ∀ i, i < k → Stands Post Sh SB pA rA (ag i) mv (T i) pl F col w
  sh : Sh col w g
/-- Of who steps alone. -/
def Plain (c : Col) : Prop := c = .main ∨ c = .arena ∨ c = .shared
theorem Plain.sys {c : Col} (h : Plain c) : c.isSys = false := by rcases h with rfl | rfl | rfl <;> rfl

section
variable {G : Type} {Post : Value → World → Prop} {Sh : (Nat → Col) → World → G → Prop} {SB : Nat → Prop} {pA rA : Nat} {mv : Value} {n n0 k : Nat} {ag : Nat → Ag} {T : Nat → Tree G}
variable {pl pl' : Nat → Option Place} {F F' : Nat → Option (Nat × Nat)} {col col' : Nat → Col} {w w' : World} {g g' : G}

/-- Who steps has done something alone. -/
theorem Crew.keep (C : Crew Post Sh SB pA rA mv n0 k ag T pl F col w g) {S : Nat → Prop} (D : Desk SB pA rA pl F col w') (ks : Ks S w w') (hS : ∀ b, b < w.heap.size → S b → Plain (col b)) (hs : Sh col w' g') : Crew Post Sh SB pA rA mv n0 k ag T pl F col w' g' :=
  ⟨C.npos, D, C.out, C.ok, C.num, fun i hi => (C.st i hi).keep (C.ok i hi) C.desk.lay rfl ⟨fun _ _ => rfl, fun _ _ => rfl⟩ fun b hb hc => ks.block b hb (fun z => (by
    rcases hS b hb z with h | h | h <;> rw [h] at hc <;> rcases hc with hc | hc <;> cases hc)), hs⟩

theorem crew_other {i j : Nat} (h1 : (ag i).j = n0 + i) (h2 : (ag j).j = n0 + j) (h : j ≠ i) : (ag j).j ≠ (ag i).j := by omega

/-- A step of one. -/
theorem Crew.steps (hSh : Shar Sh) (C : Crew Post Sh SB pA rA mv n0 k ag T pl F col w g) {i : Nat} (hi : i < k) {kk : Int} {φ : Int → Int} {c : Int → G → G} {nx : Int → G → Tree G} {hl : G → G} {pre : G → Prop} (hT : T i = .node kk φ c nx hl pre) (hpre : pre g) {s : St} (har : Ar w pA rA s) (hlen : s.ws.length ≤ 4096) (ht : s.t ≤ 4095) (hbn : Bnd s) {c₀ : Frame} {cs : List Frame}
    (H : ∀ pl' F' col' w', Crew Post Sh SB pA rA mv n0 k ag (fun j => if j = i then nx (was s kk) g else T j) pl' F' col' w' (c (was s kk) g) → Ar w' pA rA (Go.Proofs.Ytnbaiinhalplcaa.upd s kk (φ (was s kk))) → Ks (stepped (ag i) col) w w' → Same F col w F' col' → Win Try.prog Post pl' n 0 (gor (c₀.finish (.int .i64 0)) cs) w') :
    Win Try.prog Post pl n 0 (gor (Frame.enter Try.prog 12 #[.pointer (some ⟨(ag i).p, 0, none⟩)] .normal) (c₀ :: cs)) w := by
  have hst := C.st i hi
  rw [hT] at hst
  refine step_goes hSh C.desk (C.ok i hi) hst har hlen ht hbn C.sh hpre fun pl' F' col' w' D' ks sm hpl hst' har' hs' => H pl' F' col' w' ⟨C.npos, D', fun j hj => ?_, fun j hj => (C.ok j hj).keep C.desk.lay sm, C.num, fun j hj => ?_, hs'⟩ har' ks sm
  · rw [hpl j (by rw [C.num i hi]; omega)]; exact C.out j hj
  · by_cases e : j = i
    · subst e; simp only [if_true]; exact hst'
    · simp only [if_neg e]
      have hne := crew_other (C.num i hi) (C.num j hj) e
      exact (C.st j hj).keep (C.ok j hj) C.desk.lay (hpl _ hne) sm fun b hb hc => ks.block b hb fun z => by
        unfold stepped at z
        rcases hc with hc | hc <;> rw [hc] at z <;> rcases z with z | z | z | z <;> first | exact hne (Col.ag.inj z) | exact hne (Col.sys.inj z) | cases z

/-- One is stopped. -/
theorem Crew.stops (hSh : Shar Sh) (C : Crew Post Sh SB pA rA mv n0 k ag T pl F col w g) {i : Nat} (hi : i < k) {kk : Int} {φ : Int → Int} {c : Int → G → G} {nx : Int → G → Tree G} {hl : G → G} {pre : G → Prop} (hT : T i = .node kk φ c nx hl pre) (hpre : pre g) {c₀ : Frame} {cs : List Frame}
    (H : ∀ pl' F' col' w', Crew Post Sh SB pA rA mv n0 k ag (fun j => if j = i then .ret else T j) pl' F' col' w' (hl g) → Ks (fun b => col b = .ag (ag i).j ∨ col b = .sys (ag i).j ∨ col b = .shared) w w' → Same F col w F' col' → Win Try.prog Post pl' n 0 (gor (c₀.finish (.tuple #[])) cs) w') :
    Win Try.prog Post pl n 0 (gor (Frame.enter Try.prog 16 #[.pointer (some ⟨(ag i).p, 0, none⟩)] .normal) (c₀ :: cs)) w := by
  have hst := C.st i hi
  rw [hT] at hst
  refine stop_goes hSh C.desk (C.ok i hi) hst C.sh hpre fun pl' F' col' w' D' ks sm hpl hst' hs' => H pl' F' col' w' ⟨C.npos, D', fun j hj => ?_, fun j hj => (C.ok j hj).keep C.desk.lay sm, C.num, fun j hj => ?_, hs'⟩ ks sm
  · rw [hpl j (by rw [C.num i hi]; omega)]; exact C.out j hj
  · by_cases e : j = i
    · subst e; simp only [if_true]; exact hst'
    · simp only [if_neg e]
      have hne := crew_other (C.num i hi) (C.num j hj) e
      exact (C.st j hj).keep (C.ok j hj) C.desk.lay (hpl _ hne) sm fun b hb hc => ks.block b hb fun z => by
        rcases hc with hc | hc <;> rw [hc] at z <;> rcases z with z | z | z <;> first | exact hne (Col.ag.inj z) | exact hne (Col.sys.inj z) | cases z

/-- Colours ahead of one more: its blocks are its own, no block is its system's. -/
def recol (n : Nat) (own : Nat → Prop) [DecidablePred own] (col : Nat → Col) (b : Nat) : Col :=
  if own b then .ag n else match col b with
    | .sys i => if n ≤ i then .sys 0 else .sys i
    | .ag i => if n ≤ i then .main else .ag i
    | c => c
theorem Crew.recol (hSh : Shar Sh) (C : Crew Post Sh SB pA rA mv n0 k ag T pl F col w g) (own : Nat → Prop) [DecidablePred own] (hown : ∀ b, own b → col b = .main ∧ b < w.heap.size) :
    Crew Post Sh SB pA rA mv n0 k ag T pl F (Go.Proofs.Ytnbaiinhalplcaa.recol (n0 + k) own col) w g ∧ (∀ b, own b → Go.Proofs.Ytnbaiinhalplcaa.recol (n0 + k) own col b = .ag (n0 + k)) ∧ (∀ b, Go.Proofs.Ytnbaiinhalplcaa.recol (n0 + k) own col b ≠ .sys (n0 + k)) ∧ (∀ b, ¬ own b → Plain (col b) → Go.Proofs.Ytnbaiinhalplcaa.recol (n0 + k) own col b = col b) ∧ (∀ b, Go.Proofs.Ytnbaiinhalplcaa.recol (n0 + k) own col b = .shared → col b = .shared) ∧ (∀ b, Go.Proofs.Ytnbaiinhalplcaa.recol (n0 + k) own col b = .ag (n0 + k) → own b) := by
  have hs : ∀ b i, i < n0 + k → col b = .sys i → Go.Proofs.Ytnbaiinhalplcaa.recol (n0 + k) own col b = .sys i := fun b i hi hb => by
    have hno : ¬ own b := fun h => by rw [(hown b h).1] at hb; cases hb
    unfold Go.Proofs.Ytnbaiinhalplcaa.recol
    rw [if_neg hno, hb]
    simp only
    rw [if_neg (by omega)]
  have hp : ∀ b, ¬ own b → Plain (col b) → Go.Proofs.Ytnbaiinhalplcaa.recol (n0 + k) own col b = col b := fun b h1 h2 => by
    unfold Go.Proofs.Ytnbaiinhalplcaa.recol
    rw [if_neg h1]
    rcases h2 with h | h | h <;> rw [h]
  have hag : ∀ b i, i < n0 + k → col b = .ag i → Go.Proofs.Ytnbaiinhalplcaa.recol (n0 + k) own col b = .ag i := fun b i hi hb => by
    have hno : ¬ own b := fun h => by rw [(hown b h).1] at hb; cases hb
    unfold Go.Proofs.Ytnbaiinhalplcaa.recol
    rw [if_neg hno, hb]
    simp only
    rw [if_neg (by omega)]
  have hsysof : ∀ b, (col b).isSys = true → (Go.Proofs.Ytnbaiinhalplcaa.recol (n0 + k) own col b).isSys = true := fun b hb => by
    have hno : ¬ own b := fun h => by rw [(hown b h).1] at hb; cases hb
    unfold Go.Proofs.Ytnbaiinhalplcaa.recol
    rw [if_neg hno]
    cases hc : col b <;> rw [hc] at hb <;> first | cases hb | skip
    simp only
    split <;> rfl
  have L := C.desk.lay
  have hnoS : ∀ b, SB b → ¬ own b := fun b hb h => by have := (hown b h).1; rw [L.sb b hb] at this; cases this
  have hnoA : ∀ b, col b = .arena → ¬ own b := fun b hb h => by have := (hown b h).1; rw [hb] at this; cases this
  have D : Desk SB pA rA pl F (Go.Proofs.Ytnbaiinhalplcaa.recol (n0 + k) own col) w := by
    refine ⟨C.desk.pl0, C.desk.lies, ⟨fun b hb => ?_, fun b hb => ?_, fun b hb => ?_, ?_, ?_⟩, fun i s c hi hc => ?_⟩
    · cases hc : (col b).isSys with
      | false => exact L.free b hc
      | true => rw [hsysof b hc] at hb; cases hb
    · have hno : ¬ own b := fun h => by have := (hown b h).2; omega
      exact (hp b hno (.inl (L.above b hb))).trans (L.above b hb)
    · exact (hp b (hnoS b hb) (.inr (.inr (L.sb b hb)))).trans (L.sb b hb)
    · exact (hp pA (hnoA _ L.ar.1) (.inr (.inl L.ar.1))).trans L.ar.1
    · exact (hp rA (hnoA _ L.ar.2) (.inr (.inl L.ar.2))).trans L.ar.2
    · rcases Nat.lt_or_ge i (n0 + k) with z | z
      · exact hs c i z (C.desk.own i s c hi hc)
      · rw [C.out i z] at hi; cases hi
  have hok : ∀ i, i < k → AgOK (ag i) F (Go.Proofs.Ytnbaiinhalplcaa.recol (n0 + k) own col) := fun i hi => by
    have h := C.ok i hi
    have hj := C.num i hi
    exact ⟨h.jpos, h.fm, h.fp, hs _ _ (by omega) h.cm, hs _ _ (by omega) h.cp, hs _ _ (by omega) h.ccT, hs _ _ (by omega) h.ccU, hs _ _ (by omega) h.ccS, h.dis⟩
  refine ⟨⟨C.npos, D, C.out, hok, C.num, fun i hi => ?_, hSh.st _ _ _ _ _ C.sh (fun _ _ => rfl) fun b hb => (hp b (fun h => by have := (hown b h).1; rw [hb] at this; cases this) (.inr (.inr hb))).trans hb⟩, fun b hb => if_pos hb, fun b hb => ?_, hp, fun b hb => ?_, fun b hb => ?_⟩
  · have h := C.st i hi
    have hj := C.num i hi
    cases hT : T i with
    | ret => rw [hT] at h; exact h
    | node kk φ c nx hl pre =>
      rw [hT] at h
      obtain ⟨t, h1, h2, h3, h4, b3, homeJ, own', A, B, f, cap, q1, q2, q3, q4, q5, q6, q7, q8, q9, q10, q11, q12, q13, q14⟩ := h
      exact ⟨t, h1, h2, h3, h4, b3, homeJ, own', A, B, f, cap, q1, fun b hb => hag b _ (by omega) (q2 b hb), q3, q4, q5, q6, q7, hs b3 _ (by omega) q8, q9, q10, q11, q12, q13, q14⟩
  · have : 0 < n0 + k := by have := C.npos; omega
    unfold Go.Proofs.Ytnbaiinhalplcaa.recol at hb
    split at hb
    · cases hb
    · cases hc : col b <;> rw [hc] at hb <;> simp only at hb <;> first | cases hb | skip
      · split at hb <;> cases hb
      · split at hb
        · have := Col.sys.inj hb; omega
        · have := Col.sys.inj hb; omega
  · unfold Go.Proofs.Ytnbaiinhalplcaa.recol at hb
    split at hb
    · cases hb
    · cases hc : col b <;> rw [hc] at hb <;> simp only at hb <;> first | rfl | cases hb | skip
      · split at hb <;> cases hb
      · split at hb <;> cases hb
  · unfold Go.Proofs.Ytnbaiinhalplcaa.recol at hb
    split at hb
    · assumption
    · cases hc : col b <;> rw [hc] at hb <;> simp only at hb <;> first | cases hb | skip
      · split at hb
        · cases hb
        · have := Col.ag.inj hb; omega
      · split at hb <;> cases hb

/-- One more is made. -/
theorem Crew.news (hSh : Shar Sh) (C : Crew Post Sh SB pA rA mv n0 k ag T pl F col w g) {own0 : Nat → Prop} [DecidablePred own0] {A0 : World → Prop} (hP0 : Priv own0 A0) (hown0 : ∀ b, own0 b → col b = .main) (hA0 : A0 w) {mt : TypeId} {mval : Value} (hmv : mv = .iface mt mval) {gf : FuncId} {cap : Array Value} {fn : Func} (hg : Try.prog.funcs[gf]? = some fn) (hgb : fn.body.isNone = false) {T0 : Tree G} {g1 : G} {c₀ : Frame} {cs : List Frame}
    (hprog : ∀ a home pl' F' col' w' b1 b2, a.j = n0 + k → Acts SB pA rA a mv home true false pl' F' col' w' → Boxed a b1 b2 w' → col' b1 = .ag (n0 + k) → col' b2 = .ag (n0 + k) → (∀ b, own0 b → col' b = .ag (n0 + k)) → A0 w' → Sh col' w' g → Kont Post Sh SB pA rA a mv home (n0 + k + 1) T0 pl' F' col' w' g1 →
      Win Try.prog Post pl' (n0 + k + 1) a.j (gor (Frame.enter Try.prog gf (#[.iface 107 (.pointer (some ⟨a.m, 0, none⟩))] ++ cap) .normal) [runFr Try.prog Try.f31 a.p a.m b1 b2 gf cap, rootFr Try.prog]) w')
    (H : ∀ a pl' F' col' w', Crew Post Sh SB pA rA mv n0 (k + 1) (fun j => if j = k then a else ag j) (fun j => if j = k then T0 else T j) pl' F' col' w' g1 → Ks (fun b => own0 b ∨ col b = .shared) w w' → (∀ b, b < w.heap.size → ¬ own0 b → Plain (col b) → col' b = col b) → w.heap.size ≤ a.p →
      Win Try.prog Post pl' (n0 + k + 1) 0 (gor (c₀.finish (.tuple #[.pointer (some ⟨a.p, 0, none⟩), .int .i64 0])) cs) w') :
    Win Try.prog Post pl (n0 + k) 0 (gor (Frame.enter Try.prog 8 #[mv, .func (.func gf) #[] cap] .normal) (c₀ :: cs)) w := by
  subst hmv
  obtain ⟨C', r1, r2, r3, r4, r5⟩ := C.recol hSh own0 fun b hb => ⟨hown0 b hb, hP0.lt _ _ hA0 hb⟩
  have hpos := C.npos
  refine new_goes hSh C'.desk (n := n0 + k) (by omega) (C.out (n0 + k) (Nat.le_refl _)) r2 hg hgb hP0 r1 hA0 C'.sh hprog fun a pl' F' col' w' hj hO D' ks sm hpl hst hs hap => H a pl' F' col' w' ⟨C.npos, D', fun j hj' => ?_, fun j hj' => ?_, fun j hj' => ?_, fun j hj' => ?_, hs⟩ (ks.mono fun b _ z => z.imp (r5 b) (r4 b)) (fun b hb h1 h2 => (sm.co b hb).trans (r3 b h1 h2)) hap
  · rw [hpl j (by omega)]; exact C.out j (by omega)
  · by_cases e : j = k
    · subst e; simp only [if_true]; exact hO
    · simp only [if_neg e]; exact (C'.ok j (by omega)).keep C'.desk.lay sm
  · by_cases e : j = k
    · subst e; simp only [if_true]; exact hj
    · simp only [if_neg e]; exact C.num j (by omega)
  · by_cases e : j = k
    · subst e; simp only [if_true]; exact hst
    · simp only [if_neg e]
      have hn := C.num j (by omega)
      refine (C'.st j (by omega)).keep (C'.ok j (by omega)) C'.desk.lay (hpl _ (by omega)) sm fun b hb hc => ks.block b hb fun z => ?_
      rcases hc with hc | hc <;> rw [hc] at z <;> rcases z with z | z <;> first | (have := Col.ag.inj z; omega) | cases z
end
end Go.Proofs.Ytnbaiinhalplcaa

namespace Go.Proofs.Ytnbaiinhalplcaa
open List renaming getElem?_toArray → gqA, getElem?_cons_zero → gqZ
set_option linter.unusedVariables false
set_option linter.unusedSimpArgs false
set_option maxRecDepth 100000
open Go.RowKit
open Lib

/-- Update at a place that there is, by a closure that turns blocks of its own (B) and makes memory. -/
theorem upd_boxesU (w : World) (p r : Nat) (s : St) (k : Int) (g : FuncId) (cap : Array Value) (y : Int) (B : List Nat) (R : World → Prop) (h : Ar w p r s) (hn : s.ws.length ≤ 4096) (ht : s.t ≤ 1000000) (hk : inB s k = true) (hp : p ∉ B) (hr : r ∉ B)
    (hR : ∀ w2 w3, R w2 → Kp [r] w2 w3 → R w3)
    (hen : ∀ (x : Value) (w : World), (callFunc g (#[x] ++ cap)).run Try.prog w = .ok (.enter g (#[x] ++ cap)) w)
    (hcall : ∀ w1, Kp [p] w w1 → Calls Try.prog g (#[.int .u64 (was s k)] ++ cap) w1 fun e w' => e = .returned (.int .u64 y) ∧ Kp B w1 w' ∧ R w') :
    Calls Try.prog 43 #[.pointer (some ⟨p, 0, none⟩), .int .i64 k, .func (.func g) #[] cap] w fun e w' => e = .returned (.int .u64 (was s k)) ∧ Ar w' p r (upd s k y) ∧ Kp (p :: r :: B) w w' ∧ R w' := by
  have hmf : ∀ (fn : Fn) (first cap : Array Value) (w : World), (Instr.makeFunc fn first cap).run Try.prog w = .ok (.func fn first cap) w := fun _ _ _ _ => rfl
  have hfn := func_nil
  obtain ⟨hk0, hk1⟩ := inB_iff.1 hk
  have hk3 : k.toNat < s.ws.length := by omega
  have HC := hcall (tw w p s.t k) (tw_kp w p s.t k)
  rw [was_in hk] at HC ⊢
  rw [upd_in hk]
  have hcr : Hid (∀ w2, Kp B (tw w p s.t k) w2 → w2.cell? ⟨r, k.toNat, none⟩ = some (.int .u64 (s.ws.getD k.toNat 0)) ∧ w2.frozen? ⟨r, k.toNat, none⟩ = false) :=
    Lib.hid fun w2 h2 => ⟨((h.tw k).keep h2 hp hr).cr hk3, ((h.tw k).keep h2 hp hr).fr _⟩
  have HF : Hid (∀ w2, Kp B (tw w p s.t k) w2 → R w2 → Ar (w2.setCell ⟨r, k.toNat, none⟩ (.int .u64 y)) p r ⟨s.ws.set k.toNat y, s.t + 1, k⟩ ∧ Kp (p :: r :: B) w (w2.setCell ⟨r, k.toNat, none⟩ (.int .u64 y)) ∧ R (w2.setCell ⟨r, k.toNat, none⟩ (.int .u64 y))) :=
    Lib.hid fun w2 h2 h3 => ⟨((h.tw k).keep h2 hp hr).store _ _, (((tw_kp w p s.t k).mono (by simp)).trans (h2.mono (fun x hx _ => by simp [hx]))).setCell (.inl (by simp)) _, hR _ _ h3 ((Kp.refl [r] w2).setCell (.inl (by simp)) _)⟩
  have hto := touch_in w p r s k h hn ht hk
  clear hcall hR
  generalize s.ws.getD k.toNat 0 = x0 at HC hcr ⊢
  generalize tw w p s.t k = w1 at HC hcr hto HF ⊢
  go_enter_defers Try.func43, Try.ntmps43
  go_wp2_with (go_at_call 61; refine hto.mono ?_; rintro e w1 ⟨rfl, rfl⟩; have hcr1 := (hcr.out _ (Kp.refl _ _)).1)
  refine HC.mono ?_
  rintro e w2 ⟨rfl, hk2, h3⟩
  obtain ⟨hc2, hf2⟩ := hcr.out w2 hk2
  have HK := Lib.hid (HF.out w2 hk2 h3)
  clear hk2 hcr h3
  go_wp2_with fail
  refine leaves_cons (f := 60) (args := #[]) (by simp) (by simp [go_sem]) ?_
  refine (catch_idle _).mono ?_
  rintro e u' w'' ⟨rfl, rfl, rfl⟩
  simp only [Leaves, settle, results, Try.results43]
  simp [go_sem]
  exact HK.out

/-- Whether there is such a place or not. -/
theorem upd_own (w : World) (p r : Nat) (s : St) (k : Int) (g : FuncId) (cap : Array Value) (y : Int) (B : List Nat) (R : World → Prop) (h : Ar w p r s) (hn : s.ws.length ≤ 4096) (ht : s.t ≤ 1000000) (hp : p ∉ B) (hr : r ∉ B)
    (hR : ∀ w2 w3, R w2 → Kp [r] w2 w3 → R w3)
    (hen : ∀ (x : Value) (w : World), (callFunc g (#[x] ++ cap)).run Try.prog w = .ok (.enter g (#[x] ++ cap)) w)
    (hcall : ∀ w1, Kp [p] w w1 → Calls Try.prog g (#[.int .u64 (was s k)] ++ cap) w1 fun e w' => e = .returned (.int .u64 y) ∧ Kp B w1 w' ∧ R w') (hout : was s k = 0 → R w) :
    Calls Try.prog 43 #[.pointer (some ⟨p, 0, none⟩), .int .i64 k, .func (.func g) #[] cap] w fun e w' => e = .returned (.int .u64 (was s k)) ∧ Ar w' p r (upd s k y) ∧ Kp (p :: r :: B) w w' ∧ R w' := by
  by_cases hk : inB s k = true
  · exact upd_boxesU w p r s k g cap y B R h hn ht hk hp hr hR hen hcall
  · have hk' : inB s k = false := by simpa using hk
    have h0 := was_out hk'
    rw [upd_out hk']
    refine (upd_no w p r s k g #[] cap h hn hk').mono ?_
    rintro e w' ⟨rfl, rfl⟩
    exact ⟨by rw [h0], h, Kp.refl _ _, hout h0⟩

theorem tch_own {w : World} {pA rA bA bX bV : Nat} {s : St} {k y z : Int} {f : FuncId} {cap : Array Value} {B : List Nat} {R : World → Prop} (h : Ar w pA rA s) (hn : s.ws.length ≤ 4096) (ht : s.t ≤ 4095) (hA : w.heap[bA]? = some (.cells #[.int .i64 k] 3 (0, 0))) (hX : w.heap[bX]? = some (.cells #[.func (.func f) #[] cap] 90 (0, 0))) (hV : w.heap[bV]? = some (.cells #[.int .u64 y] 49 (0, 0)))
    (h1 : bV ≠ pA) (h2 : bV ≠ rA) (h3 : bV ∉ B) (hp : pA ∉ B) (hr : rA ∉ B) (hR : ∀ w2 w3, R w2 → Kp [rA, bV] w2 w3 → R w3) (hen : ∀ (x : Value) (w : World), (callFunc f (#[x] ++ cap)).run Try.prog w = .ok (.enter f (#[x] ++ cap)) w)
    (hcall : ∀ w', Kp [pA] w w' → Calls Try.prog f (#[.int .u64 (was s k)] ++ cap) w' fun e w2 => e = .returned (.int .u64 z) ∧ Kp B w' w2 ∧ R w2) (hout : was s k = 0 → R w) :
    Calls Try.prog 103 #[memV pA, .pointer (some ⟨bA, 0, none⟩), .pointer (some ⟨bX, 0, none⟩), .pointer (some ⟨bV, 0, none⟩)] w fun e w2 => e = .returned (.tuple #[]) ∧ Ar w2 pA rA (upd s k z) ∧ w2.heap[bV]? = some (.cells #[.int .u64 (was s k)] 49 (0, 0)) ∧ Kp (pA :: rA :: bV :: B) w w2 ∧ R w2 := by
  have hr0 := Lib.hid (upd_own w pA rA s k f cap z B R h hn (by omega) hp hr (fun w2 w3 a b => hR w2 w3 a (b.mono (by simp))) hen hcall hout)
  have cA := cell_of_row hA 0
  have cX := cell_of_row hX 0
  simp only [gqA, gqZ] at cA cX
  have HV := Lib.hid hV
  have HR := Lib.hid hR
  clear hV hA hX h hen hcall hout hR
  go_enter Try.func103, Try.ntmps103
  go_wp2_with fail
  refine hr0.out.mono ?_
  rintro e w1 ⟨rfl, ha, hk, hR1⟩
  have hv := hk.row (by simp [h1, h2, h3]) HV.out
  have HA := Lib.hid ha
  have HK := Lib.hid hk
  have HV1 := Lib.hid hv
  have HR1 := Lib.hid hR1
  have cV := cell_of_row hv 0
  have fV := free_of_row hv 0
  simp only [gqA, gqZ] at cV
  clear ha hk hv hr0 hR1
  go_wp2
  go_end0
  have hs := heap_setCell_same w1 bV 0 _ _ (.int .u64 (was s k)) HV1.out
  refine ⟨rfl, HA.out.keep ((Kp.refl [bV] _).setCell (.inl (by simp)) _) (by simp [h1.symm]) (by simp [h2.symm]), by rw [hs]; simp, (HK.out.mono (T := pA :: rA :: bV :: B) (fun x hx _ => by
    simp only [List.mem_cons] at hx ⊢
    rcases hx with hx | hx | hx
    · exact .inl hx
    · exact .inr (.inl hx)
    · exact .inr (.inr (.inr hx)))).setCell (.inl (by simp)) _, HR.out _ _ HR1.out ((Kp.refl [rA, bV] _).setCell (.inl (by simp)) _)⟩

end Go.Proofs.Ytnbaiinhalplcaa

namespace Go.Proofs.Ytnbaiinhalplcaa
set_option linter.unusedVariables false
set_option linter.unusedSimpArgs false
set_option maxRecDepth 100000
open Go.Conc
open Go.ConcN (upd_ne upd_same)

section
variable {G : Type} {Post : Value → World → Prop} {Sh : (Nat → Col) → World → G → Prop} {SB : Nat → Prop} {pA rA : Nat} {a : Ag} {mv : Value} {home : Goroutine → Prop} {n : Nat} {T : Tree G} {runs ov : Bool}
variable {pl pl' : Nat → Option Place} {F F' F1 : Nat → Option (Nat × Nat)} {col col' col1 : Nat → Col} {w w' w1 : World} {g : G} {S : Nat → Prop}

set_option maxHeartbeats 1000000 in
/-- AN UPDATE, by a closure that turns blocks of the agent's own and makes memory. -/
theorem bupdate3 (hSh : Shar Sh) (hmv : mv = memV pA) {k : Int} {φ : Int → Int} {f : FuncId} {cap : Array Value} {c : Int → G → G} {nx : Int → G → Tree G} {hl : G → G} {pre : G → Prop} {c₀ : Frame} {cs : List Frame} {own : Nat → Prop} {A : World → Prop} {DD : List Nat} {A' : Int → World → Prop}
    (hA : Acts SB pA rA a mv home true false pl F col w) (hown : ∀ b, own b → col b = .ag a.j) (hP : Priv own A) (hAw : A w) (hs : Sh col w g) (hDD : ∀ b ∈ DD, own b) (hP' : ∀ v, Priv own (A' v)) (hzero : ∀ w, A w → A' 0 w)
    (hen : ∀ (x : Value) (w : World), (callFunc f (#[x] ++ cap)).run Try.prog w = .ok (.enter f (#[x] ++ cap)) w)
    (hcl : ∀ w' x, A w' → 0 ≤ x → x < 18446744073709551616 → Calls Try.prog f (#[.int .u64 x] ++ cap) w' fun e w2 => e = .returned (.int .u64 (φ x)) ∧ Kp DD w' w2 ∧ A' x w2)
    (hres : ∀ v, 0 ≤ v → v < 18446744073709551616 → ∀ home n pl' F' col' w' g, Acts SB pA rA a mv home true false pl' F' col' w' → (∀ b, own b → col' b = .ag a.j) → A' v w' → Sh col' w' g → pre g → Kont Post Sh SB pA rA a mv home n (nx v g) pl' F' col' w' (c v g) → Win Try.prog Post pl' n a.j (gor (c₀.finish (.int .u64 v)) cs) w')
    (hstop : ∀ home n pl' F' col' w' g, Ends SB pA rA a mv home pl' F' col' w' → (∀ b, own b → col' b = .ag a.j) → A w' → Sh col' w' g → pre g → Kont Post Sh SB pA rA a mv home n .ret pl' F' col' w' (hl g) → Win Try.prog Post pl' n a.j (gor (c₀.raise [haltE]) cs) w')
    (K : Kont Post Sh SB pA rA a mv home n (.node k φ c nx hl pre) pl F col w g) :
    Win Try.prog Post pl n a.j (gor (Frame.enter Try.prog 98 #[.pointer (some ⟨a.m, 0, none⟩), .int .i64 k, .func (.func f) #[] cap] .normal) (c₀ :: cs)) w := by
  have hL2 := ((hA.lies.alloc (.cells #[.int .i64 k] 3)).alloc (.cells #[.func (.func f) #[] cap] 90)).alloc (.cells #[.int .u64 0] 49)
  have k2 : Ks (fun _ => False) w (((w.alloc (.cells #[.int .i64 k] 3)).alloc (.cells #[.func (.func f) #[] cap] 90)).alloc (.cells #[.int .u64 0] 49)) := ((ks_alloc _ w _).trans (ks_alloc _ _ _)).trans (ks_alloc _ _ _)
  have z1 : (w.alloc (.cells #[.int .i64 k] 3)).heap.size = w.heap.size + 1 := Array.size_push _
  have z2 : ((w.alloc (.cells #[.int .i64 k] 3)).alloc (.cells #[.func (.func f) #[] cap] 90)).heap.size = w.heap.size + 2 := by
    show (Array.push (Array.push _ _) _).size = _
    simp
  have hbA : (((w.alloc (.cells #[.int .i64 k] 3)).alloc (.cells #[.func (.func f) #[] cap] 90)).alloc (.cells #[.int .u64 0] 49)).heap[w.heap.size]? = some (.cells #[.int .i64 k] 3 (0, 0)) := (alloc_heap _ _ _ (by omega)).trans ((alloc_heap _ _ _ (by omega)).trans (alloc_new w _))
  have hbX : (((w.alloc (.cells #[.int .i64 k] 3)).alloc (.cells #[.func (.func f) #[] cap] 90)).alloc (.cells #[.int .u64 0] 49)).heap[w.heap.size + 1]? = some (.cells #[.func (.func f) #[] cap] 90 (0, 0)) := (alloc_heap _ _ _ (by omega)).trans (by
    have := alloc_new (w.alloc (.cells #[.int .i64 k] 3)) (.cells #[.func (.func f) #[] cap] 90)
    rw [z1] at this
    exact this)
  have hbV : (((w.alloc (.cells #[.int .i64 k] 3)).alloc (.cells #[.func (.func f) #[] cap] 90)).alloc (.cells #[.int .u64 0] 49)).heap[w.heap.size + 2]? = some (.cells #[.int .u64 0] 49 (0, 0)) := by
    have := alloc_new ((w.alloc (.cells #[.int .i64 k] 3)).alloc (.cells #[.func (.func f) #[] cap] 90)) (.cells #[.int .u64 0] 49)
    rw [z2] at this
    exact this
  have hz : (((w.alloc (.cells #[.int .i64 k] 3)).alloc (.cells #[.func (.func f) #[] cap] 90)).alloc (.cells #[.int .u64 0] 49)).heap.size = w.heap.size + 3 := by
    show (Array.push (Array.push (Array.push _ _) _) _).size = _
    simp
  refine update_in hA.lies ?_
  obtain ⟨hA2, hM⟩ := hA.grow k2 hL2
  have hAw2 := hP.grow hAw k2
  have hs2 := hSh.grow (j := a.j) hA.lay hs k2
  have hcA : pA < w.heap.size := by
    rcases Nat.lt_or_ge pA w.heap.size with z | z
    · exact z
    · have := hA.lay.ar.1; rw [hA.lay.above _ z] at this; cases this
  have hcR : rA < w.heap.size := by
    rcases Nat.lt_or_ge rA w.heap.size with z | z
    · exact z
    · have := hA.lay.ar.2; rw [hA.lay.above _ z] at this; cases this
  clear z1 z2
  generalize ((w.alloc (.cells #[.int .i64 k] 3)).alloc (.cells #[.func (.func f) #[] cap] 90)).alloc (.cells #[.int .u64 0] 49) = w2 at *
  have holt : ∀ b, own b → b < w.heap.size := fun b hb => hP.lt _ _ hAw hb
  refine btouch hSh (own := fun b => own b ∨ b = w.heap.size ∨ b = w.heap.size + 1 ∨ b = w.heap.size + 2) (A := fun w' => A w' ∧ w'.heap[w.heap.size]? = some (.cells #[.int .i64 k] 3 (0, 0)) ∧ w'.heap[w.heap.size + 1]? = some (.cells #[.func (.func f) #[] cap] 90 (0, 0)) ∧ w'.heap[w.heap.size + 2]? = some (.cells #[.int .u64 0] 49 (0, 0)))
    (B := fun v o w' => ((∀ b, own b ∨ b = w.heap.size + 2 ↔ o b) ∧ 0 ≤ v ∧ v < 18446744073709551616) ∧ A' v w' ∧ w'.heap[w.heap.size + 2]? = some (.cells #[.int .u64 v] 49 (0, 0))) hA2 ?_ ?_ ?_ ⟨hAw2, hbA, hbX, hbV⟩ hs2 ⟨_, Try.func103, rfl⟩ ?_ ?_ ?_ (Kont.moves hM K)
  · rintro b (hb | rfl | rfl | rfl)
    · exact grown_ag hA.lay (hown b hb)
    · exact grown_new (Nat.le_refl _) (by omega)
    · exact grown_new (by omega) (by omega)
    · exact grown_new (by omega) (by omega)
  · refine ⟨fun u u' ⟨h1, h2, h4, h3⟩ he => ⟨hP.st _ _ h1 fun b hb => he b (.inl hb), (he _ (.inr (.inl rfl))).trans h2, (he _ (.inr (.inr (.inl rfl)))).trans h4, (he _ (.inr (.inr (.inr rfl)))).trans h3⟩, fun u b ⟨h1, h2, h4, h3⟩ hb => ?_, fun u b ⟨h1, h2, h4, h3⟩ hb => ?_⟩
    · rcases hb with hb | rfl | rfl | rfl
      · exact hP.np _ _ h1 hb
      · exact rich_cells h2
      · exact rich_cells h4
      · exact rich_cells h3
    · rcases hb with hb | rfl | rfl | rfl
      · exact hP.lt _ _ h1 hb
      · exact lt_of_block h2
      · exact lt_of_block h4
      · exact lt_of_block h3
  · intro v o
    refine ⟨fun u u' ⟨h0, h1, h3⟩ he => ⟨h0, (hP' _).st _ _ h1 fun b hb => he b ((h0.1 b).1 (.inl hb)), (he _ ((h0.1 _).1 (.inr rfl))).trans h3⟩, fun u b ⟨h0, h1, h3⟩ hb => ?_, fun u b ⟨h0, h1, h3⟩ hb => ?_⟩
    · rcases (h0.1 b).2 hb with hb | rfl
      · exact (hP' _).np _ _ h1 hb
      · exact rich_cells h3
    · rcases (h0.1 b).2 hb with hb | rfl
      · exact (hP' _).lt _ _ h1 hb
      · exact lt_of_block h3
  · intro u s ⟨h1, h2, h4, h3⟩ har hn ht hbn
    subst hmv
    have hnA : ∀ b, own b → b ≠ pA := fun b hb e => by have hc := hown b hb; rw [e, hA.lay.ar.1] at hc; cases hc
    have hnR : ∀ b, own b → b ≠ rA := fun b hb e => by have hc := hown b hb; rw [e, hA.lay.ar.2] at hc; cases hc
    have hlo : ∀ b, own b → b ≠ w.heap.size + 2 := fun b hb e => by have := holt b hb; omega
    refine (tch_own (B := DD) (R := A' (was s k)) har hn ht h2 h4 h3 (by omega) (by omega) (fun h => hlo _ (hDD _ h) rfl) (fun h => hnA _ (hDD _ h) rfl) (fun h => hnR _ (hDD _ h) rfl) (fun u2 u3 r kk => (hP' _).st _ _ r fun b hb => kk.block b ((hP' _).lt _ _ r hb) (by simp only [List.mem_cons, List.not_mem_nil, or_false, not_or]; exact ⟨hnR b hb, hlo b hb⟩)) hen (fun u' hk => hcl u' _ (hP.st _ _ h1 fun b hb => hk.block b (hP.lt _ _ h1 hb) (by simpa using hnA b hb)) (hbn.was k).1 (hbn.was k).2) (fun e => by rw [e]; exact hzero _ h1)).mono ?_
    rintro e u2 ⟨he, ha, hv, hk, hR⟩
    have hk' := ks_of_kp hk
    refine ⟨he, ha, ⟨fun b => own b ∨ b = w.heap.size + 2, fun b hb => ?_, ⟨fun b => Iff.rfl, hbn.was k⟩, hR, hv⟩, hk'.mono fun b _ hb => ?_⟩
    · rcases hb with hb | rfl
      · exact .inl (.inl hb)
      · exact .inl (.inr (.inr (.inr rfl)))
    · simp only [List.mem_cons] at hb
      rcases hb with rfl | rfl | rfl | hb
      · exact .inl rfl
      · exact .inr (.inl rfl)
      · exact .inr (.inr (.inr (.inr (.inr rfl))))
      · exact .inr (.inr (.inl (hDD b hb)))
  · intro v o home' n' pl' F' col' w' g' hA' ho hb hs' hp' K'
    obtain ⟨h0, h1, h3⟩ := hb
    have hc : col' (w.heap.size + 2) = .ag a.j := ho _ ((h0.1 _).1 (.inr rfl))
    have hFn : F' (w.heap.size + 2) = none := hA'.lay.free _ (by rw [hc]; rfl)
    have kk := ks_setCell w' ⟨w.heap.size + 2, 0, none⟩ (.int .u64 v)
    obtain ⟨hA3, hM3⟩ := hA'.turn kk (hA'.lies.setCell _ _) (fun b hb => by
      have e : b = w.heap.size + 2 := hb
      subst e; exact .inl hc)
    refine update_out (cell_of_row h3 0) (free_of_row h3 0) ⟨fun i s' x hi hx => ?_, fun i s' x hi hx e => ?_⟩ (hres v h0.2.1 h0.2.2 home' n' pl' F' _ _ g' hA3 (fun b hb => ?_) ((hP' _).st _ _ h1 fun b hb => kk.block b ((hP' _).lt _ _ h1 hb) ?_) (hSh.st _ _ _ _ _ hs' (fun b hb => kk.block b (hA'.lay.ltS hb) ?_) fun b hb => (grown_old (hA'.lay.ltS hb)).trans hb) hp' (Kont.moves hM3 K'))
    · obtain ⟨lo, hi', z, _, _⟩ := hA'.lies.still i s' _ x hi hx
      rw [hFn] at z; cases z
    · obtain ⟨_, _, _, _, _, _, hh⟩ := hA'.lies.chans i s' x hi hx
      rw [e] at hh
      simp only at hh
      rw [h3] at hh; cases hh
    · exact grown_ag hA'.lay (ho b ((h0.1 b).1 (.inl hb)))
    · intro e
      have e' : b = w.heap.size + 2 := e
      have := holt b hb
      omega
    · intro e
      have e' : b = w.heap.size + 2 := e
      have := hb
      rw [e', hc] at this; cases this
  · intro home' n' pl' F' col' w' g' hE ho ha hs' hp' K'
    have hne : (Frame.enter Try.prog 98 #[.pointer (some ⟨a.m, 0, none⟩), .int .i64 k, .func (.func f) #[] cap] CallKind.normal).kind = .normal := rfl
    refine Win.unwinds (chain := [haltE]) rfl rfl rfl ?_
    exact hstop home' n' pl' F' col' w' g' hE (fun b hb => ho b (.inl hb)) ha.1 hs' hp' K'

end
end Go.Proofs.Ytnbaiinhalplcaa

namespace Go.Proofs.Ytnbaiinhalplcaa
set_option linter.unusedVariables false
set_option linter.unusedSimpArgs false
set_option maxRecDepth 100000
open Go.Conc
open Go.ConcN (upd_ne upd_same)

section
variable {G : Type} {Post : Value → World → Prop} {Sh : (Nat → Col) → World → G → Prop} {SB : Nat → Prop} {pA rA : Nat} {a : Ag} {mv : Value} {home : Goroutine → Prop} {n : Nat} {T : Tree G} {runs ov : Bool}
variable {pl pl' : Nat → Option Place} {F F' F1 : Nat → Option (Nat × Nat)} {col col' col1 : Nat → Col} {w w' w1 : World} {g : G} {S sh : Nat → Prop}

open Classical in
/-- Whose the blocks are behind memory that the agent has made, some of it shared. -/
noncomputable def grownS (j : Nat) (sh : Nat → Prop) (col : Nat → Col) (w w1 : World) (b : Nat) : Col := if w.heap.size ≤ b ∧ b < w1.heap.size then (if sh b then .shared else .ag j) else col b
theorem grownS_old {j b : Nat} (h1 : b < w.heap.size) : grownS j sh col w w1 b = col b := if_neg (by omega)
theorem grownS_far {j b : Nat} (h1 : w1.heap.size ≤ b) : grownS j sh col w w1 b = col b := if_neg (by omega)
theorem grownS_new {j b : Nat} (h1 : w.heap.size ≤ b) (h2 : b < w1.heap.size) (h3 : ¬ sh b) : grownS j sh col w w1 b = .ag j := (if_pos ⟨h1, h2⟩).trans (if_neg h3)
theorem grownS_sh {j b : Nat} (h1 : w.heap.size ≤ b) (h2 : b < w1.heap.size) (h3 : sh b) : grownS j sh col w w1 b = .shared := (if_pos ⟨h1, h2⟩).trans (if_pos h3)
theorem grownS_keep {j b : Nat} (L : Lay SB pA rA col F w) (h : col b ≠ .main) : grownS j sh col w w1 b = col b := by
  refine grownS_old ?_
  rcases Nat.lt_or_ge b w.heap.size with z | z
  · exact z
  · exact absurd (L.above b z) h
theorem Lay.plainS {j : Nat} (h : Lay SB pA rA col F w) (k : Ks S w w1) : Lay SB pA rA (grownS j sh col w w1) F w1 := by
  have hz := k.size
  refine ⟨fun b hb => ?_, fun b hb => ?_, fun b hb => (grownS_keep h (by rw [h.sb b hb]; simp)).trans (h.sb b hb), (grownS_keep h (by rw [h.ar.1]; simp)).trans h.ar.1, (grownS_keep h (by rw [h.ar.2]; simp)).trans h.ar.2⟩
  · by_cases hc : w.heap.size ≤ b
    · exact h.free b (by rw [h.above b hc]; rfl)
    · rw [grownS_old (by omega)] at hb; exact h.free b hb
  · rw [grownS_far hb]; exact h.above b (by omega)
theorem Acts.plainS (h : Acts SB pA rA a mv home runs ov pl F col w) (k : Ks S w w1) (hL : Lies pl F w1) (hS : ∀ b, S b → col b = .ag a.j ∨ col b = .shared) :
    Acts SB pA rA a mv home runs ov pl F (grownS a.j sh col w w1) w1 ∧ Moves (mine a col) a.j F col w F (grownS a.j sh col w w1) w1 := by
  have hsys : ∀ b, col b = .sys a.j → ¬ S b := fun b hb hx => by rcases hS b hx with z | z <;> rw [hb] at z <;> cases z
  have hk : ∀ b, col b = .sys a.j → grownS a.j sh col w w1 b = .sys a.j := fun b hb => (grownS_keep h.lay (by rw [hb]; simp)).trans hb
  obtain ⟨nx, bz, hst⟩ := h.st
  refine ⟨⟨h.jpos, hL, h.lay.plainS k, h.seat, h.absent, h.alone, ⟨nx, bz, k.row (hsys _ h.cp) hst⟩, k.row (hsys _ h.cm) h.me, h.fm, h.fp, hk _ h.cm, hk _ h.cp, hk _ h.ccT, hk _ h.ccU, hk _ h.ccS, h.dis, h.oT.keep k (hsys _ h.ccT), h.oU.keep k (hsys _ h.ccU), fun z => (h.oS z).keep k (hsys _ h.ccS)⟩, ⟨k.mono fun b _ hb => (hS b hb).imp id fun z => .inr z, fun b hb => grownS_old hb, fun b h1 h2 => ?_, fun _ _ => rfl⟩⟩
  by_cases hs : sh b
  · exact .inr (.inr (grownS_sh h1 h2 hs))
  · exact .inl (grownS_new h1 h2 hs)
/-- What is shared is not turned. -/
theorem Shar.plainS {j : Nat} (h : Shar Sh) (L : Lay SB pA rA col F w) (hs : Sh col w g) (k : Ks S w w1) (hS : ∀ b, S b → col b ≠ .shared) : Sh (grownS j sh col w w1) w1 g :=
  h.st _ _ _ _ _ hs (fun b hb => k.block b (L.ltS hb) fun z => hS b z hb) fun b hb => (grownS_keep L (by rw [hb]; simp)).trans hb

/-- A PIECE OF THE AGENT'S CODE, which it does alone, in company. -/
theorem Acts.piece (hA : Acts SB pA rA a mv home runs ov pl F col w) {ι : Type} {own S : Nat → Prop} {A : World → Prop} (hP : Priv own A) (hAw : A w) (hown : ∀ b, own b → col b = .ag a.j ∨ col b = .shared) (hS : ∀ b, S b → col b = .ag a.j ∨ col b = .shared)
    {own' : ι → Nat → Prop} {A' : ι → World → Prop} (hP' : ∀ i, Priv (own' i) (A' i)) {fr : ι → Act} (sh : ι → Nat → Prop)
    {b : Frame} {ac : Act} {k : List Item} {cs : List Frame} {c : Code} (hok : StOK Try.prog (b.at ac (.code c :: k)) [])
    (hc : ∀ (wt : World) (Q : Exit → Act → World → Prop), A wt → wt.heap.size = w.heap.size → (∀ i w', (∀ y, own' i y → own y ∨ (wt.heap.size ≤ y ∧ y < w'.heap.size)) → A' i w' → Ks S wt w' → Q .normal (fr i) w') → c.wp Try.prog Q ac wt)
    (H : ∀ i w', (∀ y, own' i y → own y ∨ (w.heap.size ≤ y ∧ y < w'.heap.size)) → A' i w' → Ks S w w' → Acts SB pA rA a mv home runs ov pl F (grownS a.j (sh i) col w w') w' → Moves (mine a col) a.j F col w F (grownS a.j (sh i) col w w') w' → Win Try.prog Post pl n a.j (gor (b.at (fr i) k) cs) w') :
    Win Try.prog Post pl n a.j (gor (b.at ac (.code c :: k)) cs) w := by
  have hfr : ∀ b, own b → F b = none := fun b hb => hA.lay.free b (by rcases hown b hb with z | z <;> rw [z] <;> rfl)
  refine hA.lies.code (fun x hx => hA.lay.free x (by rw [hA.lay.above x hx]; rfl)) hP hAw hfr (R := fun a' o w' => ∃ i, o = own' i ∧ a' = fr i ∧ A' i w') (fun a' o => ?_) hok (fun wt Q h1 h2 _ hQ => hc wt Q h1 h2 fun i w' ho ha hk => hQ _ _ w' ho ⟨i, rfl, rfl, ha⟩ hk) fun a' o w' ho hr hk hL => ?_
  · refine ⟨?_, ?_, ?_⟩
    · rintro u u' ⟨i, rfl, e, h⟩ hu
      exact ⟨i, rfl, e, (hP' i).st _ _ h hu⟩
    · rintro u b ⟨i, rfl, e, h⟩ hb
      exact (hP' i).np _ _ h hb
    · rintro u b ⟨i, rfl, e, h⟩ hb
      exact (hP' i).lt _ _ h hb
  · obtain ⟨i, rfl, rfl, ha⟩ := hr
    obtain ⟨hA2, hM2⟩ := hA.plainS (sh := sh i) hk hL hS
    exact H i w' ho ha hk hA2 hM2
end
end Go.Proofs.Ytnbaiinhalplcaa
