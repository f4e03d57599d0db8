/- What one does alone, in company: a piece of code, with what it holds of blocks that nobody who waits looks at. Package agent, the side of who steps: Stop. Written by gen/ak_b.py. Agents by trees, on: a Stop, as a whole. AgentCounts' program, in company: so many updates, and a deferred addition. Written by gen/ak_d.py. A crew of agents, each by its tree: one more is made, one is stepped, one is stopped, who steps does something alone. Rows of the call's own, of elements of whatever type; 'append', its run and its law; such a row as what is held of blocks. Conditions: as each lemma states them. AgentPlays' driver: its frame of 287 slots; a piece of code that who steps does alone. Written by gen/ap_a.py. The frame of a law's proof, of whatever program: where a law's walk returns true and turns nothing below the heap's old size, what the row asks behind the call is so. Conditions: the arguments' types can be read and are rows of the table; no variable is named. Three results, the first a struct that lies in a block, of whatever program. Conditions: as each lemma states them. Conditions: as each theorem states them. -/
import Derived.Test.YtnbibpmhmffmpaaRows
import Derived.OneCell
import Derived.Deep.Draws
import Derived.ProofKit
import Derived.OwnWalk
import Derived.ArgAppend
import Derived.Deep.AppendLies
import Derived.Maps.AppendAt
import Derived.Laws.BytesArg
import Derived.Deep.RegionLaw
import Derived.Below
import Derived.Carry
import Derived.ChangeOld
import Derived.Laws.Rows
import Derived.Laws.ResultCell
import Derived.Test.YtnbibpmhmffmpaaPa10
import Derived.Test.YtnbibpmhmffmpaaPa14
import Derived.Test.YtnbibpmhmffmpaaPa15
namespace Go.Proofs.Ytnbibpmhmffmpaa
open List renaming getElem_toArray → gtA, getElem_cons_zero → gtZ, getElem_cons_succ → gtS, setIfInBounds_toArray → siA, set_cons_succ → scS, set_cons_zero → scZ, getElem?_toArray → gqA, getElem?_cons_zero → gqZ, getElem?_cons_succ → gqS
set_option linter.unusedVariables false
set_option linter.unusedSimpArgs false
set_option maxRecDepth 100000
open Go.Conc

/-- Two in one. -/
theorem Priv.and {o1 o2 : Nat → Prop} {A B : World → Prop} (h1 : Priv o1 A) (h2 : Priv o2 B) : Priv (fun b => o1 b ∨ o2 b) (fun w => A w ∧ B w) := by
  refine ⟨fun w w' h hb => ⟨h1.st _ _ h.1 fun b hb' => hb b (.inl hb'), h2.st _ _ h.2 fun b hb' => hb b (.inr hb')⟩, fun w b h hb => ?_, fun w b h hb => ?_⟩
  · rcases hb with z | z
    · exact h1.np _ _ h.1 z
    · exact h2.np _ _ h.2 z
  · rcases hb with z | z
    · exact h1.lt _ _ h.1 z
    · exact h2.lt _ _ h.2 z
theorem Priv.const (p : Prop) : Priv (fun _ => False) (fun _ => p) := ⟨fun _ _ h _ => h, fun _ _ _ h => h.elim, fun _ _ _ h => h.elim⟩
theorem Priv.row (k : Nat) (cs : Array Value) (t : TypeId) (fz : Nat × Nat) : Priv (· = k) (fun w => w.heap[k]? = some (.cells cs t fz)) :=
  ⟨fun w w' h hb => (hb k rfl).trans h, fun w b h e => by have e' : b = k := e; subst e'; rw [h]; rfl, fun w b h e => by have e' : b = k := e; subst e'; exact lt_of_block h⟩
/-- What is held of all blocks of a world: whatever of it is not poor. -/
def poorless (W : World) (b : Nat) : Prop := b < W.heap.size ∧ poor W.heap[b]? = false

section
variable {pl : Nat → Option Place} {F : Nat → Option (Nat × Nat)} {w w' : World} {n h : Nat} {Post : Value → World → Prop}

/-- A PIECE OF CODE that one does alone, in company: it ends normally. -/
theorem Lies.code (L : Lies pl F w) (hFn : ∀ x, w.heap.size ≤ x → F x = none) {own S : Nat → Prop} {A : World → Prop} (hP : Priv own A) (hA : A w) (hFo : ∀ b, own b → F b = none)
    {b : Frame} {a : Act} {k : List Item} {cs : List Frame} {c : Code} {R : Act → (Nat → Prop) → World → Prop} (hR : ∀ a' o, Priv o (R a' o))
    (hok : StOK Try.prog (b.at a (.code c :: k)) [])
    (hc : ∀ (wt : World) (Q : Exit → Act → World → Prop), A wt → wt.heap.size = w.heap.size → (∀ ad, wt.cell? ad = w.cell? ad) → (∀ a' o w', (∀ x, o x → own x ∨ (wt.heap.size ≤ x ∧ x < w'.heap.size)) → R a' o w' → Ks S wt w' → Q .normal a' w') → c.wp Try.prog Q a wt)
    (H : ∀ a' o w', (∀ x, o x → own x ∨ (w.heap.size ≤ x ∧ x < w'.heap.size)) → R a' o w' → Ks S w w' → Lies pl F w' → Win Try.prog Post pl n h (gor (b.at a' k) cs) w') :
    Win Try.prog Post pl n h (gor (b.at a (.code c :: k)) cs) w := by
  refine Win.code mild L (Q := fun e a' u => e = .normal ∧ ∃ o, (∀ x, o x → own x ∨ (w.heap.size ≤ x ∧ x < u.heap.size)) ∧ R a' o u ∧ Ks S (L.veil.world (fun _ _ => 0) 0 w) u) hok (fun τ => ?_) ?_ ?_ ?_ ?_
  · refine hc _ _ (hP.st _ _ hA fun b hb => L.same w (hFo b hb) (hP.np _ _ hA hb)) veil_size (fun ad => veil_cell ad) fun a' o u ho hr hk => ⟨rfl, o, fun x hx => (ho x hx).imp id fun z => ⟨by have := z.1; rw [veil_size] at this; exact this, z.2⟩, hr, ks_twin0 hk⟩
  · intro a u h; cases h.1
  · intro id a u h; cases h.1
  · intro l a u h; cases h.1
  · intro e a' w' τ' D' fr' hst hVOK hVK hq hl
    obtain ⟨rfl, o, ho, hr, hk⟩ := hq
    obtain rfl : fr' = b.at a' k := hl
    have hK := ks_of_twin L hVOK hVK hk
    refine H a' o w' (fun x hx => (ho x hx).imp id fun z => ⟨z.1, by have := z.2; rw [veil_size] at this; exact this⟩) ?_ hK (L.keeps hVK hVOK)
    refine (hR a' o).st _ _ hr fun x hx => ?_
    rcases ho x hx with z | z
    · exact (L.same w' (hFo x z) (hP.np _ _ hA z)).symm
    · refine (L.same w' (hFn x z.1) ?_).symm
      rw [Array.getElem?_eq_none z.1]; rfl
end

section
variable {SB : Nat → Prop} {pA rA : Nat} {pl pl' : Nat → Option Place} {F F' : Nat → Option (Nat × Nat)} {col col' : Nat → Col} {w w' : World} {n : Nat} {Post : Value → World → Prop}
theorem Desk.turned (D : Desk SB pA rA pl F col w) (hL : Lies pl F w') (hz : w.heap.size ≤ w'.heap.size) : Desk SB pA rA pl F col w' :=
  ⟨D.pl0, hL, ⟨D.lay.free, fun b hb => D.lay.above b (by omega), D.lay.sb, D.lay.ar⟩, D.own⟩

/-- The same for who steps. -/
theorem Desk.code (D : Desk SB pA rA pl F col w) {own S : Nat → Prop} {A : World → Prop} (hP : Priv own A) (hA : A w) (hown : ∀ b, own b → (col b).isSys = false)
    {b : Frame} {a : Act} {k : List Item} {cs : List Frame} {c : Code} {R : Act → (Nat → Prop) → World → Prop} (hR : ∀ a' o, Priv o (R a' o))
    (hok : StOK Try.prog (b.at a (.code c :: k)) [])
    (hc : ∀ (wt : World) (Q : Exit → Act → World → Prop), A wt → wt.heap.size = w.heap.size → (∀ ad, wt.cell? ad = w.cell? ad) → (∀ a' o w', (∀ x, o x → own x ∨ (wt.heap.size ≤ x ∧ x < w'.heap.size)) → R a' o w' → Ks S wt w' → Q .normal a' w') → c.wp Try.prog Q a wt)
    (H : ∀ a' o w', (∀ x, o x → own x ∨ (w.heap.size ≤ x ∧ x < w'.heap.size)) → R a' o w' → Ks S w w' → Desk SB pA rA pl F col w' → Win Try.prog Post pl n 0 (gor (b.at a' k) cs) w') :
    Win Try.prog Post pl n 0 (gor (b.at a (.code c :: k)) cs) w :=
  D.lies.code (fun x hx => D.lay.free x (by rw [D.lay.above x hx]; rfl)) hP hA (fun x hx => D.lay.free x (hown x hx)) hR hok hc fun a' o w' ho hr hk hL => H a' o w' ho hr hk (D.turned hL hk.size)
end
end Go.Proofs.Ytnbibpmhmffmpaa

namespace Go.Proofs.Ytnbibpmhmffmpaa
open List renaming getElem_toArray → gtA, getElem_cons_zero → gtZ, getElem_cons_succ → gtS, setIfInBounds_toArray → siA, set_cons_succ → scS, set_cons_zero → scZ, getElem?_toArray → gqA, getElem?_cons_zero → gqZ, getElem?_cons_succ → gqS
set_option linter.unusedVariables false
set_option linter.unusedSimpArgs false
set_option maxRecDepth 100000
open Go.Conc
open Go.ConcN (upd_ne upd_same)

def codeThen : Code → Code
  | .cond _ a _ => a
  | c => c
/-- Stop's slots behind its close. -/
def stopTmps (p cS : Nat) (x : Value) : Array Value := #[.pointer (some ⟨p, 0, none⟩), undef, .pointer (some ⟨p, 0, none⟩), .bool false, .pointer (some ⟨p, 0, none⟩), .pointer (some ⟨p, 0, none⟩), .pointer (some ⟨p, 6, none⟩), .pointer (some ⟨p, 0, none⟩), .pointer (some ⟨p, 0, none⟩), .pointer (some ⟨p, 5, none⟩), .bool false, .bool true, .pointer (some ⟨p, 0, none⟩), .pointer (some ⟨p, 0, none⟩), .pointer (some ⟨p, 3, none⟩), .chan (some cS), x, undef]
/-- Where Stop stands while it waits for the end. -/
def stopWait (P : Program) (f : Func) (p cS : Nat) : Frame :=
  (Frame.enter P 18 #[.pointer (some ⟨p, 0, none⟩)] .normal).at ⟨stopTmps p cS (.pointer (some ⟨p, 0, none⟩)), []⟩ [.inRegion (regOps (codeR (codeThen (codeR (codeR (codeR (bodyOf f))))))) [1]]
def stopHome (p cS cT : Nat) (cs : List Frame) (g : Goroutine) : Prop := g = gor (waitFr Try.prog Try.f46 p cT) (stopWait Try.prog Try.f18 p cS :: cs)

theorem way_stop (p cS cT : Nat) (cs : List Frame) (main : Bool) (ops : Array Oper) : Way Try.prog main (waitSeat p cT (fun _ _ => False) (stopHome p cS cT cs)) 60
    (gor ((Frame.enter Try.prog 18 #[.pointer (some ⟨p, 0, none⟩)] .normal).at (⟨stopTmps p cS undef, []⟩ : Act) (.inRegion ops [] :: [.code (codeR (codeThen (codeR (codeR (codeR (bodyOf Try.f18))))))])) cs) := by
  have hne : (Frame.enter Try.prog 18 #[Value.pointer (some { block := p, off := 0 })] CallKind.normal).kind = .normal := rfl
  refine Way.upTo (N := 44) ?_ (by omega)
  refine Way.opsEnd ?_
  simp only [bodyOf, Try.f18, codeR, codeThen, Option.getD_some]
  refine Way.region ?_
  simp only [List.size_toArray, List.length_cons, List.length_nil, Nat.reduceAdd, List.range, List.range.loop, stopTmps]
  refine Way.pure (v := .pointer (some ⟨p, 0, none⟩)) (.inl hne) rfl rfl (fun w => rfl) ?_
  simp only [Act.put, Act.eval, gtA, gtZ, gtS, siA, scS, scZ]
  refine Way.enter (f := 46) (args := #[.pointer (some ⟨p, 0, none⟩)]) (es := #[]) (.inl hne) rfl rfl (fun e he => by simp at he) (fun w _ => call_enter mild.toMild Try.func46 rfl rfl rfl rfl _ _ (by simp [Act.eval])) ?_
  have hw := way_wait p cT (fun _ _ => False) (stopWait Try.prog Try.f18 p cS :: cs) main
  exact hw

section
variable {pl : Nat → Option Place} {n : Nat} {Post : Value → World → Prop} {F : Nat → Option (Nat × Nat)} {w : World}

set_option maxHeartbeats 2000000 in
theorem stop_in (L : Lies pl F w) {c : Frame} {cs : List Frame} {p cS cT j : Nat} {s : Place} {z : Value} (h6 : w.cell? ⟨p, 6, none⟩ = some (.bool false)) (h5 : w.cell? ⟨p, 5, none⟩ = some (.bool false)) (h3 : w.cell? ⟨p, 3, none⟩ = some (.chan (some cS))) (h1 : w.cell? ⟨p, 1, none⟩ = some (.chan (some cT))) (f6 : ∀ u, Ks (fun _ => False) w u → u.frozen? ⟨p, 6, none⟩ = false) (F6 : Free pl ⟨p, 6, none⟩)
    (hj : pl j = some s) (hk : s.cases[1]? = some (rcase cS z)) (hS : Open cS w) (hT : Open cT w) (hST : cS ≠ cT) (hSp : cS ≠ p) (hTp : cT ≠ p) (hap : ∀ i s' c, pl i = some s' → s'.has c → c ≠ cT)
    (hw : ∀ u g₂ d m, Ks (fun _ => False) w u → Lies pl F u → s.home g₂ → u.heap[cS]? = some (.chan 0 #[] false m m false) → Win Try.prog Post (moved pl 0 j (some (waitSeat p cT (fun _ _ => False) (stopHome p cS cT (c :: cs))))) n j (Go.Conc.served g₂ (commResult s.cases s.shape 1 z false)) (((u.setCell ⟨p, 6, none⟩ (.bool true)).at d).setChan cS 0 #[] true m m false)) :
    Win Try.prog Post pl n 0 (gor (Frame.enter Try.prog 18 #[.pointer (some ⟨p, 0, none⟩)] .normal) (c :: cs)) w := by
  have hne : (Frame.enter Try.prog 18 #[.pointer (some ⟨p, 0, none⟩)] CallKind.normal).kind = .normal := rfl
  rw [enter_at Try.func18 rfl]
  simp only [Try.ntmps18, List.size_toArray, List.length_cons, List.length_nil, Nat.reduceAdd, Nat.reduceSub, Array.replicate_succ, Array.replicate_zero, List.push_toArray, List.append_toArray, List.nil_append, List.cons_append]
  refine Win.seq ?_
  refine Win.seq ?_
  refine Win.region ?_
  simp only [List.size_toArray, List.length_cons, List.length_nil, Nat.reduceAdd, List.range, List.range.loop]
  refine Win.pureOp (v := .pointer (some ⟨p, 0, none⟩)) (.inl hne) rfl rfl (fun w => rfl) ?_
  simp only [Act.put, Act.eval, gtA, gtZ, gtS, siA, scS, scZ]
  refine Win.enter (f := 16) (args := #[.pointer (some ⟨p, 0, none⟩)]) (.inl hne) rfl rfl (fun d => ⟨#[], call_enter mild.toMild Try.func16 rfl rfl rfl rfl _ _ (by simp [Act.eval]), fun e he => by simp at he⟩) ?_
  refine Win.calls mild L (stok_at rfl rfl (by simp) (by kernel_rfl)) (R := fun e w' => e = .returned (.bool false) ∧ Ks (fun _ => False) (L.veil.world (fun _ _ => 0) 0 w) w') (fun τ => (done_at _ p false (by rw [veil_cell]; exact h6)).mono (by rintro e w' ⟨h1, rfl⟩; exact ⟨h1, ks_twin0 (Ks.refl _ _)⟩)) (fun e w' h => ⟨_, h.1⟩) ?_
  intro v' u τ Dd hok' hVOK hVK hR
  obtain ⟨hv, hku⟩ := hR
  obtain rfl : v' = .bool false := by simpa using hv
  have k1 := ks_of_twin L hVOK hVK hku
  have L1 := L.keeps hVK hVOK
  clear hv hku hok' hVOK hVK
  have hcell : ∀ {ad : Addr} {x : Value}, w.cell? ad = some x → u.cell? ad = some x := fun {ad x} h => (World.cell?_of_block (k1.block _ (World.block_lt_of_cell? _ _ h) fun z => z)).trans h
  have u6 := hcell h6
  have u5 := hcell h5
  have u3 := hcell h3
  have u1 := hcell h1
  have g6 := f6 u k1
  rw [Frame.finish_at]
  simp only [Act.put, Act.eval, gqA, gqZ, gqS, Option.bind_some, gtA, gtZ, gtS, siA, scS, scZ]
  refine Win.opsEnd ?_
  refine Win.cond (t := false) rfl ?_
  simp only [if_false, Bool.false_eq_true]
  refine Win.skip ?_
  refine Win.seq ?_
  refine Win.region ?_
  simp only [List.size_toArray, List.length_cons, List.length_nil, Nat.reduceAdd, List.range, List.range.loop]
  refine Win.pureOp (v := .pointer (some ⟨p, 0, none⟩)) (.inl hne) rfl rfl (fun w => rfl) ?_
  simp only [Act.put, Act.eval, gtA, gtZ, gtS, siA, scS, scZ]
  refine Win.pureOp (v := .pointer (some ⟨p, 0, none⟩)) (.inl hne) rfl rfl (fun w => by rw [Sem.runT_eq]; simp [go_sem, execOp, Act.eval]) ?_
  simp only [Act.put, Act.eval, gtA, gtZ, gtS, siA, scS, scZ]
  refine Win.pureOp (v := .pointer (some ⟨p, 6, none⟩)) (.inl hne) rfl rfl (fun w => by rw [Sem.runT_eq]; simp [go_sem, execOp, Act.eval]) ?_
  simp only [Act.put, Act.eval, gtA, gtZ, gtS, siA, scS, scZ]
  refine Win.storeOp (ad := ⟨p, 6, none⟩) (x := .bool true) (.inl hne) rfl rfl F6 (fun d => by
    rw [Sem.runT_eq]
    have c1 : (u.at d).cell? ⟨p, 6, none⟩ = some (.bool false) := u6
    have c2 : (u.at d).frozen? ⟨p, 6, none⟩ = false := g6
    generalize u.at d = W at c1 c2 ⊢
    obtain ⟨s1, s2⟩ := store_ok (P := Try.prog) (x := .bool true) (w := W) (m := .plain) (by simp) (by simp) c1 c2
    simp [go_sem, execOp, Act.eval, s1, s2, c1, c2]) ?_
  simp only [Act.put, Act.eval, gtA, gtZ, gtS, siA, scS, scZ]
  have v5 := cell_setCell_ne (ad := ⟨p, 6, none⟩) (x := .bool true) u5 (by simp)
  have v3 := cell_setCell_ne (ad := ⟨p, 6, none⟩) (x := .bool true) u3 (by simp)
  have v1 := cell_setCell_ne (ad := ⟨p, 6, none⟩) (x := .bool true) u1 (by simp)
  have hkv := ks_setCell u ⟨p, 6, none⟩ (.bool true)
  obtain ⟨mS, hmS⟩ := hS
  have uS := k1.row (fun z => z) hmS
  have vS : (u.setCell ⟨p, 6, none⟩ (.bool true)).heap[cS]? = _ := hkv.row (show ¬ cS = p from hSp) uS
  have vT : Open cT (u.setCell ⟨p, 6, none⟩ (.bool true)) := (hT.keep k1 fun z => z).keep hkv (show ¬ cT = p from hTp)
  have hW := fun g₂ d hg => hw u g₂ d mS k1 L1 hg uS
  generalize u.setCell ⟨p, 6, none⟩ (.bool true) = w2 at v5 v3 v1 vS vT hW ⊢
  refine Win.opsEnd ?_
  refine Win.seq ?_
  refine Win.region ?_
  simp only [List.size_toArray, List.length_cons, List.length_nil, Nat.reduceAdd, List.range, List.range.loop]
  refine Win.pureOp (v := .pointer (some ⟨p, 0, none⟩)) (.inl hne) rfl rfl (fun w => rfl) ?_
  simp only [Act.put, Act.eval, gtA, gtZ, gtS, siA, scS, scZ]
  refine Win.pureOp (v := .pointer (some ⟨p, 0, none⟩)) (.inl hne) rfl rfl (fun w => by rw [Sem.runT_eq]; simp [go_sem, execOp, Act.eval]) ?_
  simp only [Act.put, Act.eval, gtA, gtZ, gtS, siA, scS, scZ]
  refine Win.pureOp (v := .pointer (some ⟨p, 5, none⟩)) (.inl hne) rfl rfl (fun w => by rw [Sem.runT_eq]; simp [go_sem, execOp, Act.eval]) ?_
  simp only [Act.put, Act.eval, gtA, gtZ, gtS, siA, scS, scZ]
  refine Win.lookOp (v := .bool false) (ad := ⟨p, 5, none⟩) (x := .bool false) (.inl hne) rfl rfl (v5) (fun w hc => by rw [Sem.runT_eq]; simp [go_sem, execOp, Act.eval, hc]) ?_
  simp only [Act.put, Act.eval, gtA, gtZ, gtS, siA, scS, scZ]
  refine Win.pureOp (v := .bool true) (.inl hne) rfl rfl (fun w => by rw [Sem.runT_eq]; simp [go_sem, execOp, Act.eval]) ?_
  simp only [Act.put, Act.eval, gtA, gtZ, gtS, siA, scS, scZ]
  refine Win.opsEnd ?_
  refine Win.cond (t := true) rfl ?_
  simp only [if_true]
  refine Win.seq ?_
  refine Win.region ?_
  simp only [List.size_toArray, List.length_cons, List.length_nil, Nat.reduceAdd, List.range, List.range.loop]
  refine Win.pureOp (v := .pointer (some ⟨p, 0, none⟩)) (.inl hne) rfl rfl (fun w => rfl) ?_
  simp only [Act.put, Act.eval, gtA, gtZ, gtS, siA, scS, scZ]
  refine Win.pureOp (v := .pointer (some ⟨p, 0, none⟩)) (.inl hne) rfl rfl (fun w => by rw [Sem.runT_eq]; simp [go_sem, execOp, Act.eval]) ?_
  simp only [Act.put, Act.eval, gtA, gtZ, gtS, siA, scS, scZ]
  refine Win.pureOp (v := .pointer (some ⟨p, 3, none⟩)) (.inl hne) rfl rfl (fun w => by rw [Sem.runT_eq]; simp [go_sem, execOp, Act.eval]) ?_
  simp only [Act.put, Act.eval, gtA, gtZ, gtS, siA, scS, scZ]
  refine Win.lookOp (v := .chan (some cS)) (ad := ⟨p, 3, none⟩) (x := .chan (some cS)) (.inl hne) rfl rfl (v3) (fun w hc => by rw [Sem.runT_eq]; simp [go_sem, execOp, Act.eval, hc]) ?_
  simp only [Act.put, Act.eval, gtA, gtZ, gtS, siA, scS, scZ]
  refine Win.closes (j := j) (c := cS) (kk := 1) (m := mS) (z := z) (pl' := some (waitSeat p cT (fun _ _ => False) (stopHome p cS cT (c :: cs)))) (.inl hne) rfl rfl rfl rfl rfl hj hk vS ⟨waitSeat_wf, fun q hq => ?_, fun i' s' q hi hq hq' => ?_, fun ad v hv => ?_, 60, ?_⟩ (fun g₂ d hg => hW g₂ d hg)
  · rw [waitSeat_has hq]; exact vT
  · exact hap i' s' q hi hq (waitSeat_has hq')
  · rcases hv with ⟨rfl, rfl⟩ | h
    · exact v1
    · exact h.elim
  · exact way_stop p cS cT (c :: cs) _ _

/-- Behind the wait. -/
theorem stop_after {c : Frame} {cs : List Frame} {p cS cT : Nat} {next x y : Value} {ok : Bool} (h4 : w.cell? ⟨p, 4, none⟩ = some x) (h6 : w.cell? ⟨p, 6, none⟩ = some y) (f4 : w.frozen? ⟨p, 4, none⟩ = false) (f6 : w.frozen? ⟨p, 6, none⟩ = false)
    (hn1 : ∀ l, next ≠ .agg l) (hn2 : ∀ l, next ≠ .tuple l) (F4 : Free pl ⟨p, 4, none⟩) (F6 : Free pl ⟨p, 6, none⟩)
    (H : Win Try.prog Post pl n 0 (gor (c.finish (.tuple #[])) cs) ((w.setCell ⟨p, 4, none⟩ next).setCell ⟨p, 6, none⟩ (.bool !ok))) :
    Win Try.prog Post pl n 0 (Go.Conc.served (gor (waitFr Try.prog Try.f46 p cT) (stopWait Try.prog Try.f18 p cS :: c :: cs)) (.tuple #[next, .bool ok])) w := by
  have hne : (Frame.enter Try.prog 18 #[.pointer (some ⟨p, 0, none⟩)] CallKind.normal).kind = .normal := rfl
  refine wait_back h4 h6 f4 f6 hn1 hn2 F4 F6 ?_
  generalize (w.setCell ⟨p, 4, none⟩ next).setCell ⟨p, 6, none⟩ (.bool !ok) = w2 at H ⊢
  unfold stopWait
  rw [Frame.finish_at]
  simp only [bodyOf, Try.f18, codeR, codeThen, regOps, Option.getD_some, stopTmps]
  simp only [Act.put, Act.eval, gqA, gqZ, gqS, Option.bind_some, gtA, gtZ, gtS, siA, scS, scZ]
  refine Win.opsEnd ?_
  refine Win.falls ?_
  refine Win.leave (v := .tuple #[]) rfl rfl rfl Try.func18 (fun d => ⟨#[], by rw [Sem.runT_eq]; simp [results, Try.results18, go_sem]; try rfl, fun e he => by simp at he⟩) H
end
end Go.Proofs.Ytnbibpmhmffmpaa

namespace Go.Proofs.Ytnbibpmhmffmpaa
open List renaming getElem_toArray → gtA, getElem_cons_zero → gtZ, getElem_cons_succ → gtS, setIfInBounds_toArray → siA, set_cons_succ → scS, set_cons_zero → scZ, getElem?_toArray → gqA, getElem?_cons_zero → gqZ, getElem?_cons_succ → gqS
set_option linter.unusedVariables false
set_option linter.unusedSimpArgs false
set_option maxRecDepth 100000
open Go.Conc
open Go.ConcN (upd_ne upd_same)

section
variable {G : Type} {Post : Value → World → Prop} {Sh : World → G → Prop} {SB : Nat → Prop} {pA rA : Nat} {a : Ag} {mv : Value} {n : Nat}
variable {pl pl' : Nat → Option Place} {F F' : Nat → Option (Nat × Nat)} {col col' : Nat → Col} {w w' : World} {g : G}

theorem stAt_over {nx nx' : Value} {bz ov : Bool} (h : StAt a mv nx bz ov w) (ok : Bool) : StAt a mv nx' bz ok ((w.setCell ⟨a.p, 4, none⟩ nx').setCell ⟨a.p, 6, none⟩ (.bool ok)) := by
  unfold StAt at *
  have h1 := heap_setCell_same w a.p 4 _ _ nx' h
  have h2 := heap_setCell_same _ a.p 6 _ _ (.bool ok) h1
  rw [h2]
  simp

set_option maxHeartbeats 2000000 in
/-- A STOP: the agent ends where it waits; what it has shared is as its tree says. -/
theorem stop_goes (hSh : ∀ g, Priv SB (fun w => Sh w g)) (D : Desk SB pA rA pl F col w) (hO : AgOK a F col) {k : Int} {φ : Int → Int} {c : Int → G → G} {nx : Int → G → Tree G} {hl : G → G} {c₀ : Frame} {cs : List Frame}
    (hst : Stands Post Sh SB pA rA a mv (.node k φ c nx hl) pl F col w) (hs : Sh w g)
    (H : ∀ pl' F' col' w', Desk SB pA rA pl' F' col' w' → Ks (fun b => col b = .ag a.j ∨ col b = .sys a.j ∨ col b = .shared) w w' → Same F col w F' col' → (∀ i, i ≠ a.j → pl' i = pl i) → Stands Post Sh SB pA rA a mv (.ret : Tree G) pl' F' col' w' → Sh w' (hl g) → Win Try.prog Post pl' n 0 (gor (c₀.finish (.tuple #[])) cs) w') :
    Win Try.prog Post pl n 0 (gor (Frame.enter Try.prog 18 #[.pointer (some ⟨a.p, 0, none⟩)] .normal) (c₀ :: cs)) w := by
  obtain ⟨t, hSt, oT, oU, oS, hPo⟩ := hst
  obtain ⟨b3, homeJ, own, A, B, f, cap, q1, q2, q3, q4, q5, q6, q7, q8, q9, q10, ⟨rfl, fn, hfn, hfb⟩, qT, qR, qS⟩ := hPo
  have hjp := hO.jpos
  have hj0 : a.j ≠ 0 := by omega
  have hplt := D.lay.lt (b := a.p) (by rw [hO.cp]; simp)
  have hTp : ∀ {x : Nat}, Open x w → x ≠ a.p := fun {x} h e => by
    obtain ⟨q, hq⟩ := h
    unfold StAt at hSt
    rw [← e, hq] at hSt; cases hSt
  have hmp : a.m ≠ a.p := fun e => by unfold MeAt at q6; unfold StAt at hSt; rw [e, hSt] at q6; simp at q6
  have hb3p : b3 ≠ a.p := fun e => by unfold StAt at hSt; rw [e, hSt] at q7; simp at q7
  have hmS : a.m ≠ a.cS := fun e => by obtain ⟨q, hq⟩ := oS; unfold MeAt at q6; rw [e, hq] at q6; cases q6
  have hb3S : b3 ≠ a.cS := fun e => by obtain ⟨q, hq⟩ := oS; rw [e, hq] at q7; cases q7
  refine stop_in D.lies (cS := a.cS) (cT := a.cT) (j := a.j) (s := turnSeat a.p a.m b3 a.cU a.cS homeJ) (z := .agg #[]) (cell_of_row hSt 6) (cell_of_row hSt 5) (cell_of_row hSt 3) (cell_of_row hSt 1) (fun u ku => free_of_row (ku.row (fun z => z) hSt) 6) (D.freeP hO hSt (by omega)) q1 rfl oS oT hO.dis.2.1.symm (hTp oS) (hTp oT) (fun i s' x hi hx e => ?_) (fun u g₂ d m ku Lu hg₂ huS => ?_)
  · have h1 := D.own i s' x hi hx
    rw [e, hO.ccT] at h1
    have h2 : a.j = i := Col.sys.inj h1
    subst h2
    rw [q1] at hi
    obtain rfl := Option.some.inj hi
    rcases turnSeat_has hx with h | h
    · exact hO.dis.1 (e.symm.trans h)
    · exact hO.dis.2.1 (e.symm.trans h)
  have hSp : a.cS ≠ a.p := hTp oS
  have huS' : ((u.setCell ⟨a.p, 6, none⟩ (.bool true)).at d).heap[a.cS]? = some (.chan 0 #[] false m m false) := (ks_setCell u ⟨a.p, 6, none⟩ (.bool true)).row (show ¬ a.cS = a.p from hSp) huS
  have hWL0 : Lies pl F (((u.setCell ⟨a.p, 6, none⟩ (.bool true)).at d).setChan a.cS 0 #[] true m m false) := ((Lu.setCell _ _).at d).setChan huS' _ _ _ _ _ _
  have kAll : Ks (fun b => b = a.p ∨ b = a.cS) w (((u.setCell ⟨a.p, 6, none⟩ (.bool true)).at d).setChan a.cS 0 #[] true m m false) :=
    (((ku.mono fun _ _ z => z.elim).then (ks_setCell u ⟨a.p, 6, none⟩ (.bool true)) fun _ _ e => .inl e).at d).then (ks_setChan _ a.cS _ _ _ _ _ _) fun _ _ e => .inr e
  have hWS0 : StAt a mv (.func (.func f) #[] cap) false true (((u.setCell ⟨a.p, 6, none⟩ (.bool true)).at d).setChan a.cS 0 #[] true m m false) := by
    have h1 : StAt a mv (.func (.func f) #[] cap) false false u := ku.row (fun z => z) hSt
    have h2 : StAt a mv (.func (.func f) #[] cap) false true (u.setCell ⟨a.p, 6, none⟩ (.bool true)) := by
      unfold StAt at *
      rw [heap_setCell_same _ a.p 6 _ _ (.bool true) h1]
      simp
    exact (ks_setChan ((u.setCell ⟨a.p, 6, none⟩ (.bool true)).at d) a.cS 0 #[] true m m false).row (show ¬ a.p = a.cS from hSp.symm) h2
  have hWC : Shut' a.cS (((u.setCell ⟨a.p, 6, none⟩ (.bool true)).at d).setChan a.cS 0 #[] true m m false) := ⟨m, Array.getElem?_setIfInBounds_self_of_lt (lt_of_block huS')⟩
  generalize ((u.setCell ⟨a.p, 6, none⟩ (.bool true)).at d).setChan a.cS 0 #[] true m m false = W at hWL0 kAll hWS0 hWC ⊢
  refine (told_stop a.p a.m b3 a.cU a.cS homeJ).symm ▸ ?_
  have hzW := kAll.size
  have hne : ∀ b, col b ≠ .sys a.j → ¬ (b = a.p ∨ b = a.cS) := fun b hb z => by
    rcases z with z | z
    · exact hb (by rw [z]; exact hO.cp)
    · exact hb (by rw [z]; exact hO.ccS)
  have hLay : Lay SB pA rA col F W := ⟨D.lay.free, fun b hb => D.lay.above b (by omega), D.lay.sb, D.lay.ar⟩
  have hWT : Open a.cT W := oT.keep kAll fun z => z.elim (hTp oT) fun e => hO.dis.2.1 e
  have hWU : Open a.cU W := oU.keep kAll fun z => z.elim (hTp oU) fun e => hO.dis.2.2 e
  have hWm : MeAt a false 0 W := kAll.row (fun z => z.elim hmp hmS) q6
  have hW3 := kAll.row (fun z => z.elim hb3p hb3S) q7
  have hWA : A W := q3.st _ _ q5 fun b hb => kAll.block b (q3.lt _ _ q5 hb) (hne b (by rw [q2 b hb]; simp))
  have hWSh : Sh W g := (hSh g).st _ _ hs fun b hb => kAll.block b ((hSh g).lt _ _ hs hb) (hne b (by rw [D.lay.sb b hb]; simp))
  refine qS (stopHome a.p a.cS a.cT (c₀ :: cs)) n _ F col W g g₂ hg₂ ⟨hjp, ?_, hLay, ⟨_, moved_h _ _ _ _⟩, moved_j _ _ hj0, ?_, ⟨_, _, hWS0⟩, hWm, hO.fm, hO.fp, hO.cm, hO.cp, hO.ccT, hO.ccU, hO.ccS, hO.dis, hWT, hWU, fun h => by cases h⟩ q2 hWA hW3 hWSh ?_
  · unfold moved
    refine (hWL0.drop a.j).put 0 (fun x hx => ?_) fun ad v hv => ?_
    · obtain rfl := waitSeat_has hx
      obtain ⟨q, hq⟩ := hWT
      exact ⟨_, _, _, _, _, _, hq⟩
    · rcases hv with ⟨rfl, rfl⟩ | h
      · exact ⟨1, 4, hO.fp, Nat.le_refl _, (by decide : 1 < 4)⟩
      · exact h.elim
  · intro i s' hi
    by_cases e0 : i = 0
    · subst e0
      rw [moved_h] at hi
      obtain rfl := Option.some.inj hi
      exact ⟨fun h => hO.dis.1 (waitSeat_has h).symm, fun h => hO.dis.2.1 (waitSeat_has h).symm⟩
    · obtain ⟨ej, hi'⟩ := moved_old hj0 e0 hi
      exact ⟨fun h => by have := D.own i s' _ hi' h; rw [hO.ccU] at this; exact ej (Col.sys.inj this).symm, fun h => by have := D.own i s' _ hi' h; rw [hO.ccS] at this; exact ej (Col.sys.inj this).symm⟩
  · intro pl' F' col' w' gm hgm hA hpj hsh hs'
    have hgm' : gm = gor (waitFr Try.prog Try.f46 a.p a.cT) (stopWait Try.prog Try.f18 a.p a.cS :: c₀ :: cs) := hgm
    subst hgm'
    have hpS : ¬ mine a col a.p := by
      intro h
      rcases h with h | h | h
      · rw [hO.cp] at h; cases h
      · exact h.2 rfl
      · rw [hO.cp] at h; cases h
    have hst' : StAt a mv _ false true w' := hA.mv.ks.row hpS hWS0
    have hpltW : a.p < W.heap.size := by omega
    have hFp : F' a.p = some (1, 4) := (hA.mv.fo _ hpltW).trans hO.fp
    refine stop_after (cell_of_row hst' 4) (cell_of_row hst' 6) (free_of_row hst' 4) (free_of_row hst' 6) (by simp) (by simp) (free_of_lies hA.lies hFp hst' (by omega)) (free_of_lies hA.lies hFp hst' (by omega)) ?_
    have kl : Ks (· = a.p) w' ((w'.setCell ⟨a.p, 4, none⟩ .nilFunc).setCell ⟨a.p, 6, none⟩ (.bool true)) := (ks_setCell w' ⟨a.p, 4, none⟩ _).trans (ks_setCell _ ⟨a.p, 6, none⟩ _)
    have kz : ((w'.setCell ⟨a.p, 4, none⟩ .nilFunc).setCell ⟨a.p, 6, none⟩ (.bool true)).heap.size = w'.heap.size := by simp [World.setCell]
    refine H pl' F' col' _ ⟨hA.pl0, (hA.lies.setCell _ _).setCell _ _, ⟨hA.lay.free, fun b hb => hA.lay.above b (by rw [show ((w'.setCell ⟨a.p, 4, none⟩ .nilFunc).setCell ⟨a.p, 6, none⟩ (.bool !false)).heap.size = w'.heap.size from kz] at hb; exact hb), hA.lay.sb, hA.lay.ar⟩, fun i s x hi hx => ?_⟩ ?_ ⟨fun b hb => hA.mv.colo b (by omega), fun b hb => hA.mv.fo b (by omega)⟩ (fun i ej => ?_) ⟨hpj, stAt_over hst' true⟩ ?_
    · by_cases e0 : i = 0
      · subst e0; rw [hA.pl0] at hi; cases hi
      by_cases ej : i = a.j
      · subst ej; rw [hpj] at hi; cases hi
      · rw [hA.pls i e0 ej, moved_ne _ _ e0 ej] at hi
        have h := D.own i s x hi hx
        have hlt := D.lay.lt (b := x) (by rw [h]; simp)
        exact (hA.mv.colo x (by omega)).trans h
    · refine ((kAll.mono fun b _ z => ?_).then hA.mv.ks fun b hb z => ?_).then kl fun b hb z => ?_
      · rcases z with z | z
        · rw [z]; exact .inr (.inl hO.cp)
        · rw [z]; exact .inr (.inl hO.ccS)
      · rcases z with z | z | z
        · exact .inl z
        · exact .inr (.inl z.1)
        · exact .inr (.inr z)
      · have e' : b = a.p := z
        rw [e']; exact .inr (.inl hO.cp)
    · by_cases e0 : i = 0
      · subst e0; rw [hA.pl0, D.pl0]
      · exact (hA.pls i e0 ej).trans (moved_ne _ _ e0 ej)
    · refine (hSh _).st _ _ hs' fun b hb => kl.block b ((hSh _).lt _ _ hs' hb) fun e => ?_
      have h1 := hA.lay.sb b hb
      have h2 := hA.mv.colo a.p hpltW
      have e' : b = a.p := e
      rw [e', h2, hO.cp] at h1; cases h1
end
end Go.Proofs.Ytnbibpmhmffmpaa

namespace Go.Proofs.Ytnbibpmhmffmpaa
open List renaming getElem_toArray → gtA, getElem_cons_zero → gtZ, getElem_cons_succ → gtS, setIfInBounds_toArray → siA, set_cons_succ → scS, set_cons_zero → scZ, getElem?_toArray → gqA, getElem?_cons_zero → gqZ, getElem?_cons_succ → gqS
set_option linter.unusedVariables false
set_option linter.unusedSimpArgs false
set_option maxRecDepth 100000
open Go.Conc
open Go.ConcN (upd_ne upd_same)

section
variable {Post : Value → World → Prop} {SB : Nat → Prop} {pA rA : Nat} {a : Ag} {mv : Value} {home : Goroutine → Prop} {n : Nat} {runs ov : Bool}
variable {pl pl' : Nat → Option Place} {F F' : Nat → Option (Nat × Nat)} {col col' : Nat → Col} {w w' : World} {g : List Int} {G : Type} {Sh : World → G → Prop}

theorem Ends.free_shared (h : Ends SB pA rA a mv home pl F col w) {q : Addr} {x : Value} (hq : SB q.block) (hc : w.cell? q = some x) : Free pl q := by
  have hF : F q.block = none := h.lay.free _ (by rw [h.lay.sb _ hq]; rfl)
  refine ⟨fun i s v hi hs => ?_, fun i s c hi hs e => ?_⟩
  · obtain ⟨lo, hi', z, _, _⟩ := h.lies.still i s _ v hi hs
    rw [hF] at z; cases z
  · obtain ⟨_, _, _, _, _, _, hh⟩ := h.lies.chans i s c hi hs
    rw [e] at hh
    unfold World.cell? at hc
    rw [hh] at hc; cases hc
theorem Ends.shared (h : Ends SB pA rA a mv home pl F col w) {q : Addr} (hq : SB q.block) (x : Value) : Ends SB pA rA a mv home pl F col (w.setCell q x) := by
  have k := ks_setCell w q x
  have hz : (w.setCell q x).heap.size = w.heap.size := by simp [World.setCell]
  have hne : ∀ b, col b = .sys a.j → ¬ b = q.block := fun b hb e => by have := h.lay.sb _ hq; rw [← e, hb] at this; cases this
  obtain ⟨nx, bz, ov, hst⟩ := h.st
  obtain ⟨r, l, hme⟩ := h.me
  exact ⟨h.jpos, h.lies.setCell _ _, ⟨h.lay.free, fun b hb => h.lay.above b (by rw [hz] at hb; exact hb), h.lay.sb, h.lay.ar⟩, h.seat, h.absent, ⟨nx, bz, ov, k.row (hne _ h.cp) hst⟩, ⟨r, l, k.row (hne _ h.cm) hme⟩, h.fm, h.cm, h.cp, h.ccT, h.oT.keep k (hne _ h.ccT)⟩
variable {b1 b2 bd bn be ix N M : Nat} {gf : FuncId} {cap : Array Value}
end
end Go.Proofs.Ytnbibpmhmffmpaa

namespace Go.Proofs.Ytnbibpmhmffmpaa
open List renaming getElem_toArray → gtA, getElem_cons_zero → gtZ, getElem_cons_succ → gtS, setIfInBounds_toArray → siA, set_cons_succ → scS, set_cons_zero → scZ, getElem?_toArray → gqA, getElem?_cons_zero → gqZ, getElem?_cons_succ → gqS
set_option linter.unusedVariables false
set_option linter.unusedSimpArgs false
set_option maxRecDepth 100000
open Go.Conc
open Go.ConcN (upd_ne upd_same)

/-- The first k agents stand, each by its tree. -/
structure Crew {G : Type} (Post : Value → World → Prop) (Sh : World → G → Prop) (SB : Nat → Prop) (pA rA : Nat) (mv : Value) (n0 k : Nat) (ag : Nat → Ag) (T : Nat → Tree G) (pl : Nat → Option Place) (F : Nat → Option (Nat × Nat)) (col : Nat → Col) (w : World) (g : G) : Prop where
  npos : 0 < n0
  desk : Desk SB pA rA pl F col w
  out : ∀ i, n0 + k ≤ i → pl i = none
  ok : ∀ i, i < k → AgOK (ag i) F col
  num : ∀ i, i < k → (ag i).j = n0 + i
  st : ∀ i, i < k → Stands Post Sh SB pA rA (ag i) mv (T i) pl F col w
  sh : Sh w g
/-- Of who steps alone. -/
def Plain (c : Col) : Prop := c = .main ∨ c = .arena ∨ c = .shared
theorem Plain.sys {c : Col} (h : Plain c) : c.isSys = false := by rcases h with rfl | rfl | rfl <;> rfl

section
variable {G : Type} {Post : Value → World → Prop} {Sh : World → G → Prop} {SB : Nat → Prop} {pA rA : Nat} {mv : Value} {n n0 k : Nat} {ag : Nat → Ag} {T : Nat → Tree G}
variable {pl pl' : Nat → Option Place} {F F' : Nat → Option (Nat × Nat)} {col col' : Nat → Col} {w w' : World} {g g' : G}

/-- Who steps has done something alone. -/
theorem Crew.keep (C : Crew Post Sh SB pA rA mv n0 k ag T pl F col w g) {S : Nat → Prop} (D : Desk SB pA rA pl F col w') (ks : Ks S w w') (hS : ∀ b, b < w.heap.size → S b → Plain (col b)) (hs : Sh w' g') : Crew Post Sh SB pA rA mv n0 k ag T pl F col w' g' :=
  ⟨C.npos, D, C.out, C.ok, C.num, fun i hi => (C.st i hi).keep (C.ok i hi) C.desk.lay rfl ⟨fun _ _ => rfl, fun _ _ => rfl⟩ fun b hb hc => ks.block b hb (fun z => (by
    rcases hS b hb z with h | h | h <;> rw [h] at hc <;> rcases hc with hc | hc <;> cases hc)), hs⟩

theorem crew_other {i j : Nat} (h1 : (ag i).j = n0 + i) (h2 : (ag j).j = n0 + j) (h : j ≠ i) : (ag j).j ≠ (ag i).j := by omega

/-- A step of one. -/
theorem Crew.steps (hSh : ∀ g, Priv SB (fun w => Sh w g)) (C : Crew Post Sh SB pA rA mv n0 k ag T pl F col w g) {i : Nat} (hi : i < k) {kk : Int} {φ : Int → Int} {c : Int → G → G} {nx : Int → G → Tree G} {hl : G → G} (hT : T i = .node kk φ c nx hl) {s : St} (har : Ar w pA rA s) (hlen : s.ws.length ≤ 4096) (ht : s.t ≤ 4095) (hbn : Bnd s) {c₀ : Frame} {cs : List Frame}
    (H : ∀ pl' F' col' w', Crew Post Sh SB pA rA mv n0 k ag (fun j => if j = i then nx (was s kk) g else T j) pl' F' col' w' (c (was s kk) g) → Ar w' pA rA (Go.Proofs.Ytnbibpmhmffmpaa.upd s kk (φ (was s kk))) → Ks (stepped (ag i) col) w w' → Same F col w F' col' → Win Try.prog Post pl' n 0 (gor (c₀.finish (.int .i64 0)) cs) w') :
    Win Try.prog Post pl n 0 (gor (Frame.enter Try.prog 15 #[.pointer (some ⟨(ag i).p, 0, none⟩)] .normal) (c₀ :: cs)) w := by
  have hst := C.st i hi
  rw [hT] at hst
  refine step_goes hSh C.desk (C.ok i hi) hst har hlen ht hbn C.sh fun pl' F' col' w' D' ks sm hpl hst' har' hs' => H pl' F' col' w' ⟨C.npos, D', fun j hj => ?_, fun j hj => (C.ok j hj).keep C.desk.lay sm, C.num, fun j hj => ?_, hs'⟩ har' ks sm
  · rw [hpl j (by rw [C.num i hi]; omega)]; exact C.out j hj
  · by_cases e : j = i
    · subst e; simp only [if_true]; exact hst'
    · simp only [if_neg e]
      have hne := crew_other (C.num i hi) (C.num j hj) e
      exact (C.st j hj).keep (C.ok j hj) C.desk.lay (hpl _ hne) sm fun b hb hc => ks.block b hb fun z => by
        unfold stepped at z
        rcases hc with hc | hc <;> rw [hc] at z <;> rcases z with z | z | z | z <;> first | exact hne (Col.ag.inj z) | exact hne (Col.sys.inj z) | cases z

/-- One is stopped. -/
theorem Crew.stops (hSh : ∀ g, Priv SB (fun w => Sh w g)) (C : Crew Post Sh SB pA rA mv n0 k ag T pl F col w g) {i : Nat} (hi : i < k) {kk : Int} {φ : Int → Int} {c : Int → G → G} {nx : Int → G → Tree G} {hl : G → G} (hT : T i = .node kk φ c nx hl) {c₀ : Frame} {cs : List Frame}
    (H : ∀ pl' F' col' w', Crew Post Sh SB pA rA mv n0 k ag (fun j => if j = i then .ret else T j) pl' F' col' w' (hl g) → Ks (fun b => col b = .ag (ag i).j ∨ col b = .sys (ag i).j ∨ col b = .shared) w w' → Same F col w F' col' → Win Try.prog Post pl' n 0 (gor (c₀.finish (.tuple #[])) cs) w') :
    Win Try.prog Post pl n 0 (gor (Frame.enter Try.prog 18 #[.pointer (some ⟨(ag i).p, 0, none⟩)] .normal) (c₀ :: cs)) w := by
  have hst := C.st i hi
  rw [hT] at hst
  refine stop_goes hSh C.desk (C.ok i hi) hst C.sh fun pl' F' col' w' D' ks sm hpl hst' hs' => H pl' F' col' w' ⟨C.npos, D', fun j hj => ?_, fun j hj => (C.ok j hj).keep C.desk.lay sm, C.num, fun j hj => ?_, hs'⟩ ks sm
  · rw [hpl j (by rw [C.num i hi]; omega)]; exact C.out j hj
  · by_cases e : j = i
    · subst e; simp only [if_true]; exact hst'
    · simp only [if_neg e]
      have hne := crew_other (C.num i hi) (C.num j hj) e
      exact (C.st j hj).keep (C.ok j hj) C.desk.lay (hpl _ hne) sm fun b hb hc => ks.block b hb fun z => by
        rcases hc with hc | hc <;> rw [hc] at z <;> rcases z with z | z | z <;> first | exact hne (Col.ag.inj z) | exact hne (Col.sys.inj z) | cases z

/-- Colours ahead of one more: its blocks are its own, no block is its system's. -/
def recol (n : Nat) (own : Nat → Prop) [DecidablePred own] (col : Nat → Col) (b : Nat) : Col :=
  if own b then .ag n else match col b with
    | .sys i => if n ≤ i then .sys 0 else .sys i
    | .ag i => if n ≤ i then .main else .ag i
    | c => c
theorem Crew.recol (C : Crew Post Sh SB pA rA mv n0 k ag T pl F col w g) (own : Nat → Prop) [DecidablePred own] (hown : ∀ b, own b → col b = .main ∧ b < w.heap.size) :
    Crew Post Sh SB pA rA mv n0 k ag T pl F (Go.Proofs.Ytnbibpmhmffmpaa.recol (n0 + k) own col) w g ∧ (∀ b, own b → Go.Proofs.Ytnbibpmhmffmpaa.recol (n0 + k) own col b = .ag (n0 + k)) ∧ (∀ b, Go.Proofs.Ytnbibpmhmffmpaa.recol (n0 + k) own col b ≠ .sys (n0 + k)) ∧ (∀ b, ¬ own b → Plain (col b) → Go.Proofs.Ytnbibpmhmffmpaa.recol (n0 + k) own col b = col b) ∧ (∀ b, Go.Proofs.Ytnbibpmhmffmpaa.recol (n0 + k) own col b = .shared → col b = .shared) ∧ (∀ b, Go.Proofs.Ytnbibpmhmffmpaa.recol (n0 + k) own col b = .ag (n0 + k) → own b) := by
  have hs : ∀ b i, i < n0 + k → col b = .sys i → Go.Proofs.Ytnbibpmhmffmpaa.recol (n0 + k) own col b = .sys i := fun b i hi hb => by
    have hno : ¬ own b := fun h => by rw [(hown b h).1] at hb; cases hb
    unfold Go.Proofs.Ytnbibpmhmffmpaa.recol
    rw [if_neg hno, hb]
    simp only
    rw [if_neg (by omega)]
  have hp : ∀ b, ¬ own b → Plain (col b) → Go.Proofs.Ytnbibpmhmffmpaa.recol (n0 + k) own col b = col b := fun b h1 h2 => by
    unfold Go.Proofs.Ytnbibpmhmffmpaa.recol
    rw [if_neg h1]
    rcases h2 with h | h | h <;> rw [h]
  have hag : ∀ b i, i < n0 + k → col b = .ag i → Go.Proofs.Ytnbibpmhmffmpaa.recol (n0 + k) own col b = .ag i := fun b i hi hb => by
    have hno : ¬ own b := fun h => by rw [(hown b h).1] at hb; cases hb
    unfold Go.Proofs.Ytnbibpmhmffmpaa.recol
    rw [if_neg hno, hb]
    simp only
    rw [if_neg (by omega)]
  have hsysof : ∀ b, (col b).isSys = true → (Go.Proofs.Ytnbibpmhmffmpaa.recol (n0 + k) own col b).isSys = true := fun b hb => by
    have hno : ¬ own b := fun h => by rw [(hown b h).1] at hb; cases hb
    unfold Go.Proofs.Ytnbibpmhmffmpaa.recol
    rw [if_neg hno]
    cases hc : col b <;> rw [hc] at hb <;> first | cases hb | skip
    simp only
    split <;> rfl
  have L := C.desk.lay
  have hnoS : ∀ b, SB b → ¬ own b := fun b hb h => by have := (hown b h).1; rw [L.sb b hb] at this; cases this
  have hnoA : ∀ b, col b = .arena → ¬ own b := fun b hb h => by have := (hown b h).1; rw [hb] at this; cases this
  have D : Desk SB pA rA pl F (Go.Proofs.Ytnbibpmhmffmpaa.recol (n0 + k) own col) w := by
    refine ⟨C.desk.pl0, C.desk.lies, ⟨fun b hb => ?_, fun b hb => ?_, fun b hb => ?_, ?_, ?_⟩, fun i s c hi hc => ?_⟩
    · cases hc : (col b).isSys with
      | false => exact L.free b hc
      | true => rw [hsysof b hc] at hb; cases hb
    · have hno : ¬ own b := fun h => by have := (hown b h).2; omega
      exact (hp b hno (.inl (L.above b hb))).trans (L.above b hb)
    · exact (hp b (hnoS b hb) (.inr (.inr (L.sb b hb)))).trans (L.sb b hb)
    · exact (hp pA (hnoA _ L.ar.1) (.inr (.inl L.ar.1))).trans L.ar.1
    · exact (hp rA (hnoA _ L.ar.2) (.inr (.inl L.ar.2))).trans L.ar.2
    · rcases Nat.lt_or_ge i (n0 + k) with z | z
      · exact hs c i z (C.desk.own i s c hi hc)
      · rw [C.out i z] at hi; cases hi
  have hok : ∀ i, i < k → AgOK (ag i) F (Go.Proofs.Ytnbibpmhmffmpaa.recol (n0 + k) own col) := fun i hi => by
    have h := C.ok i hi
    have hj := C.num i hi
    exact ⟨h.jpos, h.fm, h.fp, hs _ _ (by omega) h.cm, hs _ _ (by omega) h.cp, hs _ _ (by omega) h.ccT, hs _ _ (by omega) h.ccU, hs _ _ (by omega) h.ccS, h.dis⟩
  refine ⟨⟨C.npos, D, C.out, hok, C.num, fun i hi => ?_, C.sh⟩, fun b hb => if_pos hb, fun b hb => ?_, hp, fun b hb => ?_, fun b hb => ?_⟩
  · have h := C.st i hi
    have hj := C.num i hi
    cases hT : T i with
    | ret => rw [hT] at h; exact h
    | node kk φ c nx hl =>
      rw [hT] at h
      obtain ⟨t, h1, h2, h3, h4, b3, homeJ, own', A, B, f, cap, q1, q2, q3, q4, q5, q6, q7, q8, q9, q10, q11, q12, q13, q14⟩ := h
      exact ⟨t, h1, h2, h3, h4, b3, homeJ, own', A, B, f, cap, q1, fun b hb => hag b _ (by omega) (q2 b hb), q3, q4, q5, q6, q7, hs b3 _ (by omega) q8, q9, q10, q11, q12, q13, q14⟩
  · have : 0 < n0 + k := by have := C.npos; omega
    unfold Go.Proofs.Ytnbibpmhmffmpaa.recol at hb
    split at hb
    · cases hb
    · cases hc : col b <;> rw [hc] at hb <;> simp only at hb <;> first | cases hb | skip
      · split at hb <;> cases hb
      · split at hb
        · have := Col.sys.inj hb; omega
        · have := Col.sys.inj hb; omega
  · unfold Go.Proofs.Ytnbibpmhmffmpaa.recol at hb
    split at hb
    · cases hb
    · cases hc : col b <;> rw [hc] at hb <;> simp only at hb <;> first | rfl | cases hb | skip
      · split at hb <;> cases hb
      · split at hb <;> cases hb
  · unfold Go.Proofs.Ytnbibpmhmffmpaa.recol at hb
    split at hb
    · assumption
    · cases hc : col b <;> rw [hc] at hb <;> simp only at hb <;> first | cases hb | skip
      · split at hb
        · cases hb
        · have := Col.ag.inj hb; omega
      · split at hb <;> cases hb

/-- One more is made. -/
theorem Crew.news (hSh : ∀ g, Priv SB (fun w => Sh w g)) (C : Crew Post Sh SB pA rA mv n0 k ag T pl F col w g) {own0 : Nat → Prop} [DecidablePred own0] {A0 : World → Prop} (hP0 : Priv own0 A0) (hown0 : ∀ b, own0 b → col b = .main) (hA0 : A0 w) {mt : TypeId} {mval : Value} (hmv : mv = .iface mt mval) {gf : FuncId} {cap : Array Value} {fn : Func} (hg : Try.prog.funcs[gf]? = some fn) (hgb : fn.body.isNone = false) {T0 : Tree G} {g1 : G} {c₀ : Frame} {cs : List Frame}
    (hprog : ∀ a home pl' F' col' w' b1 b2, a.j = n0 + k → Acts SB pA rA a mv home true false pl' F' col' w' → Boxed a b1 b2 w' → col' b1 = .ag (n0 + k) → col' b2 = .ag (n0 + k) → (∀ b, own0 b → col' b = .ag (n0 + k)) → A0 w' → Sh w' g → Kont Post Sh SB pA rA a mv home (n0 + k + 1) T0 pl' F' col' w' g1 →
      Win Try.prog Post pl' (n0 + k + 1) a.j (gor (Frame.enter Try.prog gf (#[.iface 136 (.pointer (some ⟨a.m, 0, none⟩))] ++ cap) .normal) [runFr Try.prog Try.f45 a.p a.m b1 b2 gf cap, rootFr Try.prog]) w')
    (H : ∀ a pl' F' col' w', Crew Post Sh SB pA rA mv n0 (k + 1) (fun j => if j = k then a else ag j) (fun j => if j = k then T0 else T j) pl' F' col' w' g1 → Ks (fun b => own0 b ∨ col b = .shared) w w' → (∀ b, b < w.heap.size → ¬ own0 b → Plain (col b) → col' b = col b) → w.heap.size ≤ a.p →
      Win Try.prog Post pl' (n0 + k + 1) 0 (gor (c₀.finish (.tuple #[.pointer (some ⟨a.p, 0, none⟩), .int .i64 0])) cs) w') :
    Win Try.prog Post pl (n0 + k) 0 (gor (Frame.enter Try.prog 11 #[mv, .func (.func gf) #[] cap] .normal) (c₀ :: cs)) w := by
  subst hmv
  obtain ⟨C', r1, r2, r3, r4, r5⟩ := C.recol own0 fun b hb => ⟨hown0 b hb, hP0.lt _ _ hA0 hb⟩
  have hpos := C.npos
  refine new_goes hSh C'.desk (n := n0 + k) (by omega) (C.out (n0 + k) (Nat.le_refl _)) r2 hg hgb hP0 r1 hA0 C.sh hprog fun a pl' F' col' w' hj hO D' ks sm hpl hst hs hap => H a pl' F' col' w' ⟨C.npos, D', fun j hj' => ?_, fun j hj' => ?_, fun j hj' => ?_, fun j hj' => ?_, hs⟩ (ks.mono fun b _ z => z.imp (r5 b) (r4 b)) (fun b hb h1 h2 => (sm.co b hb).trans (r3 b h1 h2)) hap
  · rw [hpl j (by omega)]; exact C.out j (by omega)
  · by_cases e : j = k
    · subst e; simp only [if_true]; exact hO
    · simp only [if_neg e]; exact (C'.ok j (by omega)).keep C'.desk.lay sm
  · by_cases e : j = k
    · subst e; simp only [if_true]; exact hj
    · simp only [if_neg e]; exact C.num j (by omega)
  · by_cases e : j = k
    · subst e; simp only [if_true]; exact hst
    · simp only [if_neg e]
      have hn := C.num j (by omega)
      refine (C'.st j (by omega)).keep (C'.ok j (by omega)) C'.desk.lay (hpl _ (by omega)) sm fun b hb hc => ks.block b hb fun z => ?_
      rcases hc with hc | hc <;> rw [hc] at z <;> rcases z with z | z <;> first | (have := Col.ag.inj z; omega) | cases z
end
end Go.Proofs.Ytnbibpmhmffmpaa

namespace Go.Proofs.Ytnbibpmhmffmpaa
set_option linter.unusedVariables false
set_option linter.unusedSimpArgs false
open Go.RowKit
/-- The block that a slice leads to, as a list. -/
def blk (v : Value) : List Nat := v.ownBlock.toList
theorem blk_nil : blk (.slice none 0 0) = [] := rfl
theorem blk_some (g o n c : Nat) : blk (.slice (some ⟨g, o, none⟩) n c) = [g] := rfl
theorem kp_of_row {w w' : World} {v : Value} (h : w.grownBy w' v.ownBlock) : Kp (blk v) w w' := ⟨h.os, h.tape, h.output, h.size, fun k hk hn => h.block k hk (by
  intro e
  apply hn
  unfold blk
  rw [Option.mem_toList]
  exact e.symm)⟩
theorem kp_drewN {S : List Nat} (w : World) (j : Nat) : Kp S w (w.drewN j) := ⟨rfl, rfl, rfl, Nat.le_refl _, fun _ _ _ => rfl⟩
theorem Kp.cell {S : List Nat} {w w' : World} (k : Kp S w w') {g o : Nat} (hg : g ∉ S) {v : Value} (h : w.cell? ⟨g, o, none⟩ = some v) : w'.cell? ⟨g, o, none⟩ = some v :=
  (World.cell?_of_block (a := ⟨g, o, none⟩) (k.block g (block_lt_of_cell h) hg)).trans h


/-- A row of the call's own, made since base: n elements of type T, sz cells each. -/
structure Rw (T : TypeId) (sz : Nat) (base : Nat) (w : World) (v : Value) (n : Nat) (xs : List Value) : Prop where
  own : w.ownsRow base T sz v n xs
section
variable {T : TypeId} {sz base : Nat} {w w' : World} {v : Value} {n : Nat} {xs : List Value}
theorem Rw.nil (T : TypeId) (sz base : Nat) (w : World) : Rw T sz base w (.slice none 0 0) 0 [] := ⟨World.ownsRow_nil _ _ _ _⟩
theorem Rw.keep {S : List Nat} (h : Rw T sz base w v n xs) (k : Kp S w w') (hS : ∀ b ∈ blk v, b ∉ S) : Rw T sz base w' v n xs := by
  refine ⟨h.own.1, ?_⟩
  rcases h.own.2 with h0 | ⟨b, c, cur, rfl, hge, hb, r⟩
  · exact .inl h0
  · exact .inr ⟨b, c, cur, rfl, hge, k.row (hS b (by simp [blk_some])) hb, r⟩
theorem Rw.keep0 (h : Rw T sz base w v n xs) (k : Kp [] w w') : Rw T sz base w' v n xs := h.keep k (by simp)
theorem Rw.block (h : Rw T sz base w v n xs) : ∀ b ∈ blk v, base ≤ b ∧ ∃ cur, w.heap[b]? = some (.cells cur T (0, 0)) := by
  intro b hb
  rcases h.own.2 with ⟨rfl, _⟩ | ⟨b', c, cur, rfl, hge, hb', _⟩
  · simp [blk_nil] at hb
  · rw [blk_some, List.mem_singleton] at hb
    exact ⟨hb ▸ hge, cur, hb ▸ hb'⟩
theorem Rw.form (h : Rw T sz base w v n xs) : ∃ ao c, v = .slice ao n c := by
  rcases h.own.2 with ⟨rfl, h0⟩ | ⟨b, c, cur, rfl, _⟩
  · exact ⟨none, 0, by rw [h0]⟩
  · exact ⟨_, c, rfl⟩
theorem Rw.at (h : Rw T sz base w v n xs) (hn : 0 < n) (hsz : 0 < sz) : ∃ b c, v = .slice (some ⟨b, 0, none⟩) n c ∧ n ≤ c ∧ ∀ i, i < n * sz → w.cell? ⟨b, i, none⟩ = xs[i]? := by
  rcases h.own.2 with ⟨_, h0⟩ | ⟨b, c, cur, rfl, _, hb, h1, h2, h3, h4⟩
  · omega
  · refine ⟨b, c, rfl, h1, fun i hi => ?_⟩
    rw [cell_of_row hb, ← h4, List.getElem?_take_of_lt hi]
    simp
/-- Nothing older than the base turns where such a row does. -/
theorem Rw.old (h : Rw T sz base w v n xs) {w0 : World} (hb : base = w0.heap.size) (k0 : Kp [] w0 w) (k : Kp (blk v) w w') : Kp [] w0 w' :=
  ((k0.mono (by simp)).trans k).mono fun y hy hlt => by have := (h.block y hy).1; omega
theorem Rw.len (h : Rw T sz base w v n xs) : xs.length = n * sz := h.own.1
end

/-- 'append(v, news...)', its run. -/
theorem run_app {T t ty : TypeId} {sz base bytes : Nat} {w : World} {v : Value} {n : Nat} {xs : List Value} (ht : Try.prog.underlying t = some (.slice T)) (hi : ∃ i z, Try.prog.info? T = some i ∧ i.zero = some z ∧ i.size = sz ∧ i.bytes = bytes ∧ z.cells.size = sz) (hsz : 0 < sz)
    (h : Rw T sz base w v n xs) (hbase : base ≤ w.heap.size) (ad : Addr) (m c : Nat) (news : List Value) (hl : news.length = m * sz) (hnews : ∀ j u, news[j]? = some u → w.cell? (ad.add j) = some u) (h1 : ∀ u ∈ news, u.oneCell' = true) (hm : 0 < m)
    (hn : n + m ≤ 1000000) (hb : bytes ≤ 100) :
    ∃ g cap w', (Builtin.append_ #[t, t] ty #[v, .slice (some ad) m c]).run Try.prog w = .ok (.slice (some ⟨g, 0, none⟩) (n + m) cap) w' ∧ Rw T sz base w' (.slice (some ⟨g, 0, none⟩) (n + m) cap) (n + m) (xs ++ news) ∧ Kp (blk v) w w' ∧ (g ∈ blk v ∨ g = w.heap.size) := by
  obtain ⟨i, z, e1, e2, e3, e4, e5⟩ := hi
  have h63 : n + m ≤ maxLen := by unfold maxLen; omega
  have hby : (n + m) * bytes ≤ 140737488355328 := by
    have : (n + m) * bytes ≤ 1000000 * 100 := Nat.mul_le_mul hn hb
    omega
  obtain ⟨g, cap, w', hr, h2, h3, h4, _⟩ := run_append_lies (P := Try.prog) w t ty base T i z sz bytes ht e1 e2 e3 e4 e5 hsz v n xs h.own ad m c news hl hnews h1 hm h63 hby hbase _ rfl
  exact ⟨g, cap, w', hr, ⟨h2⟩, kp_of_row h3, h4.imp (fun e => by unfold blk; rw [e]; simp) id⟩


/-- An 'append' whose run is known. -/
theorem wpList_append_eq {P : Program} {w w2 : World} {ops : Array Oper} {rest : List Oper} {o : Oper} {a : Act} {Q : Exit → Act → World → Prop} (hgd : o.guard = none) (s x : Operand) (t : TypeId)
    (ho : o.op = .call { callee := .builtin .append, args := #[s, x], argTypes := #[t, t] }) (sv xv v : Value) (hs : a.eval s = sv) (hx : a.eval x = xv)
    (hrun : (Builtin.append_ #[t, t] o.type #[sv, xv]).run P w = .ok v w2) (hK : wpList P ops Q rest (a.put o.dst v) w2) : wpList P ops Q (o :: rest) a w := by
  refine wpList_plain hgd fun K hK' => ?_
  unfold Oper.wp
  simp [execOp, ho, resolve, invoke, builtin, hs, hx, hrun, Result.andThen]
  exact hK' _ _ hK


end Go.Proofs.Ytnbibpmhmffmpaa

namespace Go.Proofs.Ytnbibpmhmffmpaa
set_option linter.unusedVariables false
set_option linter.unusedSimpArgs false
set_option maxRecDepth 100000
open Go.RowKit
open Go.Conc
open Go.ConcN (upd_ne upd_same)

def T287 (x : Nat → Value) : Array Value := #[x 0, x 1, x 2, x 3, x 4, x 5, x 6, x 7, x 8, x 9, x 10, x 11, x 12, x 13, x 14, x 15, x 16, x 17, x 18, x 19, x 20, x 21, x 22, x 23, x 24, x 25, x 26, x 27, x 28, x 29, x 30, x 31, x 32, x 33, x 34, x 35, x 36, x 37, x 38, x 39, x 40, x 41, x 42, x 43, x 44, x 45, x 46, x 47, x 48, x 49, x 50, x 51, x 52, x 53, x 54, x 55, x 56, x 57, x 58, x 59, x 60, x 61, x 62, x 63, x 64, x 65, x 66, x 67, x 68, x 69, x 70, x 71, x 72, x 73, x 74, x 75, x 76, x 77, x 78, x 79, x 80, x 81, x 82, x 83, x 84, x 85, x 86, x 87, x 88, x 89, x 90, x 91, x 92, x 93, x 94, x 95, x 96, x 97, x 98, x 99, x 100, x 101, x 102, x 103, x 104, x 105, x 106, x 107, x 108, x 109, x 110, x 111, x 112, x 113, x 114, x 115, x 116, x 117, x 118, x 119, x 120, x 121, x 122, x 123, x 124, x 125, x 126, x 127, x 128, x 129, x 130, x 131, x 132, x 133, x 134, x 135, x 136, x 137, x 138, x 139, x 140, x 141, x 142, x 143, x 144, x 145, x 146, x 147, x 148, x 149, x 150, x 151, x 152, x 153, x 154, x 155, x 156, x 157, x 158, x 159, x 160, x 161, x 162, x 163, x 164, x 165, x 166, x 167, x 168, x 169, x 170, x 171, x 172, x 173, x 174, x 175, x 176, x 177, x 178, x 179, x 180, x 181, x 182, x 183, x 184, x 185, x 186, x 187, x 188, x 189, x 190, x 191, x 192, x 193, x 194, x 195, x 196, x 197, x 198, x 199, x 200, x 201, x 202, x 203, x 204, x 205, x 206, x 207, x 208, x 209, x 210, x 211, x 212, x 213, x 214, x 215, x 216, x 217, x 218, x 219, x 220, x 221, x 222, x 223, x 224, x 225, x 226, x 227, x 228, x 229, x 230, x 231, x 232, x 233, x 234, x 235, x 236, x 237, x 238, x 239, x 240, x 241, x 242, x 243, x 244, x 245, x 246, x 247, x 248, x 249, x 250, x 251, x 252, x 253, x 254, x 255, x 256, x 257, x 258, x 259, x 260, x 261, x 262, x 263, x 264, x 265, x 266, x 267, x 268, x 269, x 270, x 271, x 272, x 273, x 274, x 275, x 276, x 277, x 278, x 279, x 280, x 281, x 282, x 283, x 284, x 285, x 286]
theorem T287_eq (f : Nat → Value) : T287 f = ((List.range 287).map f).toArray := by kernel_rfl
theorem arr287 (t : Array Value) (h : t.size = 287) : t = T287 (fun j => t.getD j undef) := by
  rw [T287_eq]
  apply Array.ext'
  apply List.ext_getElem (by simp [h])
  intro i h1 h2
  simp only [List.getElem_map, List.getElem_range]
  have h3 : i < t.size := by simpa using h1
  simp [h3]
/-- What some slots hold. -/
def HasY (x : Nat → Value) : List (Nat × Value) → Prop
  | [] => True
  | p :: r => x p.1 = p.2 ∧ HasY x r
theorem Priv.exTiedY {ι : Type} {o' : ι → Nat → Prop} {B : ι → World → Prop} (h : ∀ i, Priv (o' i) (B i)) (p : ι → Prop) (o : Nat → Prop) : Priv o (fun w => ∃ i, o = o' i ∧ p i ∧ B i w) := by
  refine ⟨fun w w' hh hb => ?_, fun w b hh hb => ?_, fun w b hh hb => ?_⟩
  · obtain ⟨i, h1, h2, h3⟩ := hh
    exact ⟨i, h1, h2, (h i).st _ _ h3 fun b hb' => hb b (by rw [h1]; exact hb')⟩
  · obtain ⟨i, h1, h2, h3⟩ := hh
    exact (h i).np _ _ h3 (by rw [← h1]; exact hb)
  · obtain ⟨i, h1, h2, h3⟩ := hh
    exact (h i).lt _ _ h3 (by rw [← h1]; exact hb)

section
variable {pl : Nat → Option Place} {F : Nat → Option (Nat × Nat)} {w w' : World} {n h : Nat} {Post : Value → World → Prop}

/-- What an act is, by the slots that matter. -/
def FrY (K : List (Nat × Value)) (a : Act) : Prop := a.defers = [] ∧ a.tmps.size = 287 ∧ HasY (fun j => a.tmps.getD j undef) K
theorem FrY.at {K : List (Nat × Value)} {a : Act} (h : FrY K a) : a = ⟨T287 (fun j => a.tmps.getD j undef), []⟩ := by
  obtain ⟨t, d⟩ := a
  obtain ⟨hd, hz, _⟩ := h
  simp only at hd hz
  subst hd
  rw [← arr287 t hz]

/-- A PIECE OF CODE of the driver's, done alone. -/
theorem Lies.pieceY (L : Lies pl F w) (hFn : ∀ x, w.heap.size ≤ x → F x = none) {ι : Type} {own S : Nat → Prop} {A : World → Prop} (hP : Priv own A) (hA : A w) (hFo : ∀ b, own b → F b = none)
    {own' : ι → Nat → Prop} {A' : ι → World → Prop} (hP' : ∀ i, Priv (own' i) (A' i)) {K' : ι → List (Nat × Value)}
    {b : Frame} {x : Nat → Value} {k : List Item} {cs : List Frame} {c : Code}
    (hok : StOK Try.prog (b.at ⟨T287 x, []⟩ (.code c :: k)) [])
    (hc : ∀ (wt : World) (Q : Exit → Act → World → Prop), A wt → wt.heap.size = w.heap.size → (∀ ad, wt.cell? ad = w.cell? ad) → (∀ a' i w', (∀ y, own' i y → own y ∨ (wt.heap.size ≤ y ∧ y < w'.heap.size)) → FrY (K' i) a' → A' i w' → Ks S wt w' → Q .normal a' w') → c.wp Try.prog Q ⟨T287 x, []⟩ wt)
    (H : ∀ (x' : Nat → Value) i w', (∀ y, own' i y → own y ∨ (w.heap.size ≤ y ∧ y < w'.heap.size)) → HasY x' (K' i) → A' i w' → Ks S w w' → Lies pl F w' → Win Try.prog Post pl n h (gor (b.at ⟨T287 x', []⟩ k) cs) w') :
    Win Try.prog Post pl n h (gor (b.at ⟨T287 x, []⟩ (.code c :: k)) cs) w := by
  refine L.code hFn hP hA hFo (R := fun a' o w' => ∃ i, o = own' i ∧ FrY (K' i) a' ∧ A' i w') (fun a' o => Priv.exTiedY hP' _ o) hok (fun wt Q h1 h2 h3 hQ => hc wt Q h1 h2 h3 fun a' i w' ho hf ha hk => hQ a' _ w' ho ⟨i, rfl, hf, ha⟩ hk) fun a' o w' ho hr hk hL => ?_
  obtain ⟨i, rfl, hf, ha⟩ := hr
  have e := hf.at
  have := H (fun j => a'.tmps.getD j undef) i w' ho hf.2.2 ha hk hL
  rw [e]
  exact this
end
section
variable {SB : Nat → Prop} {pA rA : Nat} {pl pl' : Nat → Option Place} {F F' : Nat → Option (Nat × Nat)} {col col' : Nat → Col} {w w' : World} {n : Nat} {Post : Value → World → Prop}
/-- The same for who steps. -/
theorem Desk.pieceY (D : Desk SB pA rA pl F col w) {ι : Type} {own S : Nat → Prop} {A : World → Prop} (hP : Priv own A) (hA : A w) (hown : ∀ b, own b → (col b).isSys = false)
    {own' : ι → Nat → Prop} {A' : ι → World → Prop} (hP' : ∀ i, Priv (own' i) (A' i)) {K' : ι → List (Nat × Value)}
    {b : Frame} {x : Nat → Value} {k : List Item} {cs : List Frame} {c : Code}
    (hok : StOK Try.prog (b.at ⟨T287 x, []⟩ (.code c :: k)) [])
    (hc : ∀ (wt : World) (Q : Exit → Act → World → Prop), A wt → wt.heap.size = w.heap.size → (∀ ad, wt.cell? ad = w.cell? ad) → (∀ a' i w', (∀ y, own' i y → own y ∨ (wt.heap.size ≤ y ∧ y < w'.heap.size)) → FrY (K' i) a' → A' i w' → Ks S wt w' → Q .normal a' w') → c.wp Try.prog Q ⟨T287 x, []⟩ wt)
    (H : ∀ (x' : Nat → Value) i w', (∀ y, own' i y → own y ∨ (w.heap.size ≤ y ∧ y < w'.heap.size)) → HasY x' (K' i) → A' i w' → Ks S w w' → Desk SB pA rA pl F col w' → Win Try.prog Post pl n 0 (gor (b.at ⟨T287 x', []⟩ k) cs) w') :
    Win Try.prog Post pl n 0 (gor (b.at ⟨T287 x, []⟩ (.code c :: k)) cs) w :=
  D.lies.pieceY (fun x hx => D.lay.free x (by rw [D.lay.above x hx]; rfl)) hP hA (fun x hx => D.lay.free x (hown x hx)) hP' hok hc fun x' i w' ho hf ha hk hL => H x' i w' ho hf ha hk (D.turned hL hk.size)
end
section
variable {Post : Value → World → Prop} {pA rA N : Nat} {pl : Nat → Option Place} {F : Nat → Option (Nat × Nat)} {col : Nat → Col} {w w' : World}
theorem win_slotsY {Post : Value → World → Prop} {pl : Nat → Option Place} {N h : Nat} {b : Frame} {t : Array Value} {k : List Item} {cs : List Frame} {w : World} {K : List (Nat × Value)} (hz : t.size = 287) (hK : HasY (fun j => t.getD j undef) K) (H : ∀ x, HasY x K → Win Try.prog Post pl N h (gor (b.at ⟨T287 x, []⟩ k) cs) w) : Win Try.prog Post pl N h (gor (b.at ⟨t, []⟩ k) cs) w := by
  rw [arr287 t hz]
  exact H _ hK
theorem desk_stillY {SB : Nat → Prop} {N : Nat} (D : Desk SB pA rA pl F col w) {K' : List (Nat × Value)} {b : Frame} {x : Nat → Value} {k : List Item} {cs : List Frame} {c : Code}
    (hok : StOK Try.prog (b.at ⟨T287 x, []⟩ (.code c :: k)) [])
    (hc : ∀ (wt : World) (Q : Exit → Act → World → Prop), (∀ a', FrY K' a' → Q .normal a' wt) → c.wp Try.prog Q ⟨T287 x, []⟩ wt)
    (H : ∀ (x' : Nat → Value) w', HasY x' K' → Ks (fun _ => False) w w' → Desk SB pA rA pl F col w' → Win Try.prog Post pl N 0 (gor (b.at ⟨T287 x', []⟩ k) cs) w') :
    Win Try.prog Post pl N 0 (gor (b.at ⟨T287 x, []⟩ (.code c :: k)) cs) w :=
  D.pieceY (own := fun _ => False) (S := fun _ => False) (A := fun _ => True) (Priv.const True) trivial (fun _ h => h.elim) (ι := Unit) (own' := fun _ _ => False) (A' := fun _ _ => True) (fun _ => Priv.const True) (K' := fun _ => K') hok (fun wt Q _ _ _ hQ => hc wt Q fun a' hf => hQ a' () wt (fun y hy => hy.elim) hf trivial (Ks.refl _ _)) fun x' _ w' _ hx _ hk D => H x' w' hx hk D
/-- Who steps looks at cells, and turns nothing. -/
theorem desk_lookY {SB : Nat → Prop} (D : Desk SB pA rA pl F col w) {K' : List (Nat × Value)} {b : Frame} {x : Nat → Value} {k : List Item} {cs : List Frame} {c : Code}
    (hok : StOK Try.prog (b.at ⟨T287 x, []⟩ (.code c :: k)) [])
    (hc : ∀ (wt : World) (Q : Exit → Act → World → Prop), (∀ ad, wt.cell? ad = w.cell? ad) → (∀ a', FrY K' a' → Q .normal a' wt) → c.wp Try.prog Q ⟨T287 x, []⟩ wt)
    (H : ∀ (x' : Nat → Value) w', HasY x' K' → Ks (fun _ => False) w w' → Desk SB pA rA pl F col w' → Win Try.prog Post pl N 0 (gor (b.at ⟨T287 x', []⟩ k) cs) w') :
    Win Try.prog Post pl N 0 (gor (b.at ⟨T287 x, []⟩ (.code c :: k)) cs) w :=
  D.pieceY (own := fun _ => False) (S := fun _ => False) (A := fun _ => True) (Priv.const True) trivial (fun _ h => h.elim) (ι := Unit) (own' := fun _ _ => False) (A' := fun _ _ => True) (fun _ => Priv.const True) (K' := fun _ => K') hok (fun wt Q _ _ h3 hQ => hc wt Q h3 fun a' hf => hQ a' () wt (fun y hy => hy.elim) hf trivial (Ks.refl _ _)) fun x' _ w' _ hx _ hk D => H x' w' hx hk D
/-- The way out of a loop. -/
theorem desk_exitY {SB : Nat → Prop} (D : Desk SB pA rA pl F col w) {K' : List (Nat × Value)} {b : Frame} {x : Nat → Value} {k k' : List Item} {id : Nat} {cs : List Frame} {c : Code} (he : exitTo id k = some k')
    (hok : StOK Try.prog (b.at ⟨T287 x, []⟩ (.code c :: k)) [])
    (hc : ∀ (wt : World) (Q : Exit → Act → World → Prop), (∀ a', FrY K' a' → Q (.exit id) a' wt) → c.wp Try.prog Q ⟨T287 x, []⟩ wt)
    (H : ∀ (x' : Nat → Value) w', HasY x' K' → Ks (fun _ => False) w w' → Desk SB pA rA pl F col w' → Win Try.prog Post pl N 0 (gor (b.at ⟨T287 x', []⟩ k') cs) w') :
    Win Try.prog Post pl N 0 (gor (b.at ⟨T287 x, []⟩ (.code c :: k)) cs) w := by
  have L := D.lies
  refine Win.code mild L (Q := fun e a' u => e = .exit id ∧ FrY K' a' ∧ Ks (fun _ => False) (L.veil.world (fun _ _ => 0) 0 w) u) hok (fun τ => ?_) ?_ ?_ ?_ ?_
  · exact hc _ _ fun a' hf => ⟨rfl, hf, ks_twin0 (Ks.refl _ _)⟩
  · intro a u h; cases h.1
  · intro id' a u h
    have h1 : Exit.exit id' = Exit.exit id := h.1
    cases h1
    rw [he]; simp
  · intro l a u h; cases h.1
  · intro e a' w' τ' D' fr' hst hVOK hVK hq hl
    obtain ⟨rfl, hf, hk⟩ := hq
    obtain ⟨k2, hk2, rfl⟩ := hl
    rw [he] at hk2
    cases hk2
    have hK := ks_of_twin L hVOK hVK hk
    have e := hf.at
    have := H (fun j => a'.tmps.getD j undef) w' hf.2.2 hK (D.turned (L.keeps hVK hVOK) hK.size)
    rw [e]
    exact this
end
theorem priv_rwY (T : TypeId) (sz base : Nat) (v : Value) (n : Nat) (xs : List Value) : Priv (fun b => b ∈ blk v) (fun w => Rw T sz base w v n xs) := by
  refine ⟨fun w w' h hb => ⟨h.own.1, ?_⟩, fun w b h hb => ?_, fun w b h hb => ?_⟩
  · rcases h.own.2 with h0 | ⟨b, c, cur, rfl, hge, hbk, r⟩
    · exact .inl h0
    · exact .inr ⟨b, c, cur, rfl, hge, (hb b (by simp [blk_some])).trans hbk, r⟩
  · obtain ⟨_, cur, hc⟩ := h.block b hb
    rw [hc]; rfl
  · obtain ⟨_, cur, hc⟩ := h.block b hb
    exact lt_of_block hc
end Go.Proofs.Ytnbibpmhmffmpaa

namespace Go.Proofs.Ytnbibpmhmffmpaa
open Go.ChangeShapes Go.WideShapes Go.ChangeAt Go.RowKit

def typesRowed (P : Program) (ts : List TypeId) : Bool := ts.all fun t => P.readableRec t && decide (t < P.types.size)

theorem trodAll_below {H : Type} {enc : TypeId × Value → H} {P : Program} (hl : laidOutB P = true) {W W' : World} (hb : Below W.heap.size W W') :
    ∀ {ts : List TypeId} {vs : List Value} {ds : List (DataW H)} {ps : List MemPlace}, typesRowed P ts = true → DataW.TrodAll enc P W 0 (fun _ => true) true ts vs ds ps → (∀ x ∈ ps, x.block < W.heap.size) →
      DataW.TrodAll enc P W' 0 (fun b => decide (b < W.heap.size)) true ts vs ds ps
  | [], vs, ds, ps, _, h, _ => by
    obtain ⟨rfl, rfl, rfl⟩ := trodAll_nil h
    exact rfl
  | t :: ts, vs, ds, ps, hr, h, hlt => by
    obtain ⟨v, vs1, d, ds1, a, b, rfl, rfl, rfl, h1, h2⟩ := trodAll_cons h
    simp only [typesRowed, List.all_cons, Bool.and_eq_true, decide_eq_true_eq] at hr
    exact ⟨a, b, Below.trod hl hr.1.1 hr.1.2 h1 hb (fun x hx => hlt x (by simp [hx])), trodAll_below hl hb hr.2 h2 (fun x hx => hlt x (by simp [hx])), rfl⟩

end Go.Proofs.Ytnbibpmhmffmpaa

namespace Go.Proofs.Ytnbibpmhmffmpaa
set_option linter.unusedVariables false
set_option linter.unusedSimpArgs false
open Go.RowKit

theorem results_cell_tmp2 {fn : Func} {p u v : Tmp} {ty : TypeId} (h : fn.results = #[.cell p ty, .tmp u, .tmp v]) (tmps : Array Value) (P : Program) (w : World) :
    (results fn tmps).run P w = ((asAddr (tmps.getD p undef)).run P w).andThen fun a w₁ => ((loadVar ty a).run P w₁).andThen fun x w₂ => .ok (.tuple #[x, tmps.getD u undef, tmps.getD v undef]) w₂ := by
  simp only [results, h]
  simp [Sem.run_bind, Result.andThen]
theorem results_row_tmp2 {P : Program} {fn : Func} {p u v : Tmp} {ty : TypeId} (h : fn.results = #[.cell p ty, .tmp u, .tmp v]) (tmps : Array Value) (w : World) (g : Nat) (t : TypeId) (cs : Array Value) (fr : Nat × Nat) (d : TypeDesc)
    (hp : tmps.getD p undef = .pointer (some ⟨g, 0, none⟩)) (hg : w.heap[g]? = some (.cells cs t fr))
    (hu : P.underlying ty = some d) (hd : (match d with | .struct _ | .array _ _ => true | _ => false) = true) (hi : (P.info? ty).map (·.size) = some cs.size) :
    (results fn tmps).run P w = .ok (.tuple #[.agg cs, tmps.getD u undef, tmps.getD v undef]) w := by
  rw [results_cell_tmp2 h, hp]
  simp [asAddr, run_loadVar_row w g t ty cs fr d hg hu hd hi, Result.andThen]
theorem bodyPost_row_tmp2 {P : Program} {fn : Func} {R : Ending → World → Prop} {a : Act} {w : World} {p u v : Tmp} {ty : TypeId} (h : fn.results = #[.cell p ty, .tmp u, .tmp v]) (g : Nat) (t : TypeId) (cs : Array Value) (fr : Nat × Nat) (d : TypeDesc) (x y : Value)
    (hp : a.tmps.getD p undef = .pointer (some ⟨g, 0, none⟩)) (hx : a.tmps.getD u undef = x) (hy : a.tmps.getD v undef = y) (hdef : a.defers = []) (hg : w.heap[g]? = some (.cells cs t fr))
    (hu : P.underlying ty = some d) (hd : (match d with | .struct _ | .array _ _ => true | _ => false) = true) (hi : (P.info? ty).map (·.size) = some cs.size)
    (hR : R (.returned (.tuple #[.agg cs, x, y])) w) : bodyPost P fn R .ret a w := by
  subst hx hy
  exact bodyPost_ret (results_row_tmp2 h a.tmps w g t cs fr d hp hg hu hd hi) hdef hR

end Go.Proofs.Ytnbibpmhmffmpaa
