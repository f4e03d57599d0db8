/- What one does alone, in company: a piece of code, with what it holds of blocks that nobody who waits looks at. Package agent, the side of who steps: Stop. Written by gen/ak_b.py. Agents by trees, on: a Stop, as a whole. AgentCounts' program, in company: so many updates, and a deferred addition. Written by gen/ak_d.py. A crew of agents, each by its tree: one more is made, one is stepped, one is stopped, who steps does something alone. The frame of a law's proof, of whatever program: where a law's walk returns true and turns nothing below the heap's old size, what the row asks behind the call is so. Conditions: the arguments' types can be read and are rows of the table; no variable is named. Plain facts on a header's numbers and bits; nothing here speaks of the program. Conditions: as each lemma states them. The walks of package word: each contract says what a call answers, and that below the heap's old size nothing has turned. Conditions: as each theorem states them (the numbers are those of a uint8, of a uint64). The walks of package word, on: a header's word and back (Put, Take). Conditions: as each theorem states them (the numbers are those of a uint8, of a uint64). Conditions: as each theorem states them. -/
import Derived.ProofKit
import Derived.Below
import Derived.Carry
import Derived.ChangeOld
import Derived.Deep.Draws
import Derived.Laws.Rows
import Derived.Laws.ResultCell
import Derived.Laws.BitsAllLaws
import Derived.Laws.Bits64
import Derived.Test.YtnbibpmhmffmpaaRows
import Derived.WalkKit
import Derived.WalkSpells
import Derived.WalkLawsBesides
import Derived.BigQuiet
import Derived.RegionTactic
import Derived.ChangeAlike
import Derived.Handy
import Derived.Deep.RegionHeld3
import Derived.Test.YtnbibpmhmffmpaaPk14
namespace Go.Proofs.Ytnbibpmhmffmpaa
set_option linter.unusedVariables false
set_option linter.unusedSimpArgs false
set_option maxRecDepth 100000
open Go.Conc

/-- Two in one. -/
theorem Priv.and {o1 o2 : Nat → Prop} {A B : World → Prop} (h1 : Priv o1 A) (h2 : Priv o2 B) : Priv (fun b => o1 b ∨ o2 b) (fun w => A w ∧ B w) := by
  refine ⟨fun w w' h hb => ⟨h1.st _ _ h.1 fun b hb' => hb b (.inl hb'), h2.st _ _ h.2 fun b hb' => hb b (.inr hb')⟩, fun w b h hb => ?_, fun w b h hb => ?_⟩
  · rcases hb with z | z
    · exact h1.np _ _ h.1 z
    · exact h2.np _ _ h.2 z
  · rcases hb with z | z
    · exact h1.lt _ _ h.1 z
    · exact h2.lt _ _ h.2 z
theorem Priv.const (p : Prop) : Priv (fun _ => False) (fun _ => p) := ⟨fun _ _ h _ => h, fun _ _ _ h => h.elim, fun _ _ _ h => h.elim⟩
theorem Priv.row (k : Nat) (cs : Array Value) (t : TypeId) (fz : Nat × Nat) : Priv (· = k) (fun w => w.heap[k]? = some (.cells cs t fz)) :=
  ⟨fun w w' h hb => (hb k rfl).trans h, fun w b h e => by have e' : b = k := e; subst e'; rw [h]; rfl, fun w b h e => by have e' : b = k := e; subst e'; exact lt_of_block h⟩
section
variable {pl : Nat → Option Place} {F : Nat → Option (Nat × Nat)} {w w' : World} {n h : Nat} {Post : Value → World → Prop}

/-- A PIECE OF CODE that one does alone, in company: it ends normally. -/
theorem Lies.code (L : Lies pl F w) (hFn : ∀ x, w.heap.size ≤ x → F x = none) {own S : Nat → Prop} {A : World → Prop} (hP : Priv own A) (hA : A w) (hFo : ∀ b, own b → F b = none)
    {b : Frame} {a : Act} {k : List Item} {cs : List Frame} {c : Code} {R : Act → (Nat → Prop) → World → Prop} (hR : ∀ a' o, Priv o (R a' o))
    (hok : StOK Try.prog (b.at a (.code c :: k)) [])
    (hc : ∀ (wt : World) (Q : Exit → Act → World → Prop), A wt → wt.heap.size = w.heap.size → (∀ ad, wt.cell? ad = w.cell? ad) → (∀ a' o w', (∀ x, o x → own x ∨ (wt.heap.size ≤ x ∧ x < w'.heap.size)) → R a' o w' → Ks S wt w' → Q .normal a' w') → c.wp Try.prog Q a wt)
    (H : ∀ a' o w', (∀ x, o x → own x ∨ (w.heap.size ≤ x ∧ x < w'.heap.size)) → R a' o w' → Ks S w w' → Lies pl F w' → Win Try.prog Post pl n h (gor (b.at a' k) cs) w') :
    Win Try.prog Post pl n h (gor (b.at a (.code c :: k)) cs) w := by
  refine Win.code mild L (Q := fun e a' u => e = .normal ∧ ∃ o, (∀ x, o x → own x ∨ (w.heap.size ≤ x ∧ x < u.heap.size)) ∧ R a' o u ∧ Ks S (L.veil.world (fun _ _ => 0) 0 w) u) hok (fun τ => ?_) ?_ ?_ ?_ ?_
  · refine hc _ _ (hP.st _ _ hA fun b hb => L.same w (hFo b hb) (hP.np _ _ hA hb)) veil_size (fun ad => veil_cell ad) fun a' o u ho hr hk => ⟨rfl, o, fun x hx => (ho x hx).imp id fun z => ⟨by have := z.1; rw [veil_size] at this; exact this, z.2⟩, hr, ks_twin0 hk⟩
  · intro a u h; cases h.1
  · intro id a u h; cases h.1
  · intro l a u h; cases h.1
  · intro e a' w' τ' D' fr' hst hVOK hVK hq hl
    obtain ⟨rfl, o, ho, hr, hk⟩ := hq
    obtain rfl : fr' = b.at a' k := hl
    have hK := ks_of_twin L hVOK hVK hk
    refine H a' o w' (fun x hx => (ho x hx).imp id fun z => ⟨z.1, by have := z.2; rw [veil_size] at this; exact this⟩) ?_ hK (L.keeps hVK hVOK)
    refine (hR a' o).st _ _ hr fun x hx => ?_
    rcases ho x hx with z | z
    · exact (L.same w' (hFo x z) (hP.np _ _ hA z)).symm
    · refine (L.same w' (hFn x z.1) ?_).symm
      rw [Array.getElem?_eq_none z.1]; rfl
end

section
variable {SB : Nat → Prop} {pA rA : Nat} {pl pl' : Nat → Option Place} {F F' : Nat → Option (Nat × Nat)} {col col' : Nat → Col} {w w' : World} {n : Nat} {Post : Value → World → Prop}
theorem Desk.turned (D : Desk SB pA rA pl F col w) (hL : Lies pl F w') (hz : w.heap.size ≤ w'.heap.size) : Desk SB pA rA pl F col w' :=
  ⟨D.pl0, hL, ⟨D.lay.free, fun b hb => D.lay.above b (by omega), D.lay.sb, D.lay.ar⟩, D.own⟩

/-- The same for who steps. -/
theorem Desk.code (D : Desk SB pA rA pl F col w) {own S : Nat → Prop} {A : World → Prop} (hP : Priv own A) (hA : A w) (hown : ∀ b, own b → (col b).isSys = false)
    {b : Frame} {a : Act} {k : List Item} {cs : List Frame} {c : Code} {R : Act → (Nat → Prop) → World → Prop} (hR : ∀ a' o, Priv o (R a' o))
    (hok : StOK Try.prog (b.at a (.code c :: k)) [])
    (hc : ∀ (wt : World) (Q : Exit → Act → World → Prop), A wt → wt.heap.size = w.heap.size → (∀ ad, wt.cell? ad = w.cell? ad) → (∀ a' o w', (∀ x, o x → own x ∨ (wt.heap.size ≤ x ∧ x < w'.heap.size)) → R a' o w' → Ks S wt w' → Q .normal a' w') → c.wp Try.prog Q a wt)
    (H : ∀ a' o w', (∀ x, o x → own x ∨ (w.heap.size ≤ x ∧ x < w'.heap.size)) → R a' o w' → Ks S w w' → Desk SB pA rA pl F col w' → Win Try.prog Post pl n 0 (gor (b.at a' k) cs) w') :
    Win Try.prog Post pl n 0 (gor (b.at a (.code c :: k)) cs) w :=
  D.lies.code (fun x hx => D.lay.free x (by rw [D.lay.above x hx]; rfl)) hP hA (fun x hx => D.lay.free x (hown x hx)) hR hok hc fun a' o w' ho hr hk hL => H a' o w' ho hr hk (D.turned hL hk.size)
end
end Go.Proofs.Ytnbibpmhmffmpaa

namespace Go.Proofs.Ytnbibpmhmffmpaa
set_option linter.unusedVariables false
set_option linter.unusedSimpArgs false
set_option maxRecDepth 100000
open Go.Conc
open Go.ConcN (upd_ne upd_same)

def codeThen : Code → Code
  | .cond _ a _ => a
  | c => c
/-- Stop's slots behind its close. -/
def stopTmps (p cS : Nat) (x : Value) : Array Value := #[.pointer (some ⟨p, 0, none⟩), undef, .pointer (some ⟨p, 0, none⟩), .bool false, .pointer (some ⟨p, 0, none⟩), .pointer (some ⟨p, 0, none⟩), .pointer (some ⟨p, 6, none⟩), .pointer (some ⟨p, 0, none⟩), .pointer (some ⟨p, 0, none⟩), .pointer (some ⟨p, 5, none⟩), .bool false, .bool true, .pointer (some ⟨p, 0, none⟩), .pointer (some ⟨p, 0, none⟩), .pointer (some ⟨p, 3, none⟩), .chan (some cS), x, undef]
/-- Where Stop stands while it waits for the end. -/
def stopWait (P : Program) (f : Func) (p cS : Nat) : Frame :=
  (Frame.enter P 18 #[.pointer (some ⟨p, 0, none⟩)] .normal).at ⟨stopTmps p cS (.pointer (some ⟨p, 0, none⟩)), []⟩ [.inRegion (regOps (codeR (codeThen (codeR (codeR (codeR (bodyOf f))))))) [1]]
def stopHome (p cS cT : Nat) (cs : List Frame) (g : Goroutine) : Prop := g = gor (waitFr Try.prog Try.f46 p cT) (stopWait Try.prog Try.f18 p cS :: cs)

theorem way_stop (p cS cT : Nat) (cs : List Frame) (main : Bool) (ops : Array Oper) : Way Try.prog main (waitSeat p cT (fun _ _ => False) (stopHome p cS cT cs)) 60
    (gor ((Frame.enter Try.prog 18 #[.pointer (some ⟨p, 0, none⟩)] .normal).at (⟨stopTmps p cS undef, []⟩ : Act) (.inRegion ops [] :: [.code (codeR (codeThen (codeR (codeR (codeR (bodyOf Try.f18))))))])) cs) := by
  have hne : (Frame.enter Try.prog 18 #[Value.pointer (some { block := p, off := 0 })] CallKind.normal).kind = .normal := rfl
  refine Way.upTo (N := 44) ?_ (by omega)
  refine Way.opsEnd ?_
  simp only [bodyOf, Try.f18, codeR, codeThen, Option.getD_some]
  refine Way.region ?_
  simp only [List.size_toArray, List.length_cons, List.length_nil, Nat.reduceAdd, List.range, List.range.loop, stopTmps]
  refine Way.pure (v := .pointer (some ⟨p, 0, none⟩)) (.inl hne) rfl rfl (fun w => rfl) ?_
  simp only [Act.put, Act.eval, List.getElem_toArray, List.getElem_cons_zero, List.getElem_cons_succ, List.setIfInBounds_toArray, List.set_cons_succ, List.set_cons_zero]
  refine Way.enter (f := 46) (args := #[.pointer (some ⟨p, 0, none⟩)]) (es := #[]) (.inl hne) rfl rfl (fun e he => by simp at he) (fun w _ => call_enter mild.toMild Try.func46 rfl rfl rfl rfl _ _ (by simp [Act.eval])) ?_
  have hw := way_wait p cT (fun _ _ => False) (stopWait Try.prog Try.f18 p cS :: cs) main
  exact hw

section
variable {pl : Nat → Option Place} {n : Nat} {Post : Value → World → Prop} {F : Nat → Option (Nat × Nat)} {w : World}

set_option maxHeartbeats 2000000 in
theorem stop_in (L : Lies pl F w) {c : Frame} {cs : List Frame} {p cS cT j : Nat} {s : Place} {z : Value} (h6 : w.cell? ⟨p, 6, none⟩ = some (.bool false)) (h5 : w.cell? ⟨p, 5, none⟩ = some (.bool false)) (h3 : w.cell? ⟨p, 3, none⟩ = some (.chan (some cS))) (h1 : w.cell? ⟨p, 1, none⟩ = some (.chan (some cT))) (f6 : ∀ u, Ks (fun _ => False) w u → u.frozen? ⟨p, 6, none⟩ = false) (F6 : Free pl ⟨p, 6, none⟩)
    (hj : pl j = some s) (hk : s.cases[1]? = some (rcase cS z)) (hS : Open cS w) (hT : Open cT w) (hST : cS ≠ cT) (hSp : cS ≠ p) (hTp : cT ≠ p) (hap : ∀ i s' c, pl i = some s' → s'.has c → c ≠ cT)
    (hw : ∀ u g₂ d m, Ks (fun _ => False) w u → Lies pl F u → s.home g₂ → u.heap[cS]? = some (.chan 0 #[] false m m false) → Win Try.prog Post (moved pl 0 j (some (waitSeat p cT (fun _ _ => False) (stopHome p cS cT (c :: cs))))) n j (Go.Conc.served g₂ (commResult s.cases s.shape 1 z false)) (((u.setCell ⟨p, 6, none⟩ (.bool true)).at d).setChan cS 0 #[] true m m false)) :
    Win Try.prog Post pl n 0 (gor (Frame.enter Try.prog 18 #[.pointer (some ⟨p, 0, none⟩)] .normal) (c :: cs)) w := by
  have hne : (Frame.enter Try.prog 18 #[.pointer (some ⟨p, 0, none⟩)] CallKind.normal).kind = .normal := rfl
  rw [enter_at Try.func18 rfl]
  simp only [Try.ntmps18, List.size_toArray, List.length_cons, List.length_nil, Nat.reduceAdd, Nat.reduceSub, Array.replicate_succ, Array.replicate_zero, List.push_toArray, List.append_toArray, List.nil_append, List.cons_append]
  refine Win.seq ?_
  refine Win.seq ?_
  refine Win.region ?_
  simp only [List.size_toArray, List.length_cons, List.length_nil, Nat.reduceAdd, List.range, List.range.loop]
  refine Win.pureOp (v := .pointer (some ⟨p, 0, none⟩)) (.inl hne) rfl rfl (fun w => rfl) ?_
  simp only [Act.put, Act.eval, List.getElem_toArray, List.getElem_cons_zero, List.getElem_cons_succ, List.setIfInBounds_toArray, List.set_cons_succ, List.set_cons_zero]
  refine Win.enter (f := 16) (args := #[.pointer (some ⟨p, 0, none⟩)]) (.inl hne) rfl rfl (fun d => ⟨#[], call_enter mild.toMild Try.func16 rfl rfl rfl rfl _ _ (by simp [Act.eval]), fun e he => by simp at he⟩) ?_
  refine Win.calls mild L (stok_at rfl rfl (by simp) (by kernel_rfl)) (R := fun e w' => e = .returned (.bool false) ∧ Ks (fun _ => False) (L.veil.world (fun _ _ => 0) 0 w) w') (fun τ => (done_at _ p false (by rw [veil_cell]; exact h6)).mono (by rintro e w' ⟨h1, rfl⟩; exact ⟨h1, ks_twin0 (Ks.refl _ _)⟩)) (fun e w' h => ⟨_, h.1⟩) ?_
  intro v' u τ Dd hok' hVOK hVK hR
  obtain ⟨hv, hku⟩ := hR
  obtain rfl : v' = .bool false := by simpa using hv
  have k1 := ks_of_twin L hVOK hVK hku
  have L1 := L.keeps hVK hVOK
  clear hv hku hok' hVOK hVK
  have hcell : ∀ {ad : Addr} {x : Value}, w.cell? ad = some x → u.cell? ad = some x := fun {ad x} h => (World.cell?_of_block (k1.block _ (World.block_lt_of_cell? _ _ h) fun z => z)).trans h
  have u6 := hcell h6
  have u5 := hcell h5
  have u3 := hcell h3
  have u1 := hcell h1
  have g6 := f6 u k1
  rw [Frame.finish_at]
  simp only [Act.put, Act.eval, List.getElem?_toArray, List.getElem?_cons_zero, List.getElem?_cons_succ, Option.bind_some, List.getElem_toArray, List.getElem_cons_zero, List.getElem_cons_succ, List.setIfInBounds_toArray, List.set_cons_succ, List.set_cons_zero]
  refine Win.opsEnd ?_
  refine Win.cond (t := false) rfl ?_
  simp only [if_false, Bool.false_eq_true]
  refine Win.skip ?_
  refine Win.seq ?_
  refine Win.region ?_
  simp only [List.size_toArray, List.length_cons, List.length_nil, Nat.reduceAdd, List.range, List.range.loop]
  refine Win.pureOp (v := .pointer (some ⟨p, 0, none⟩)) (.inl hne) rfl rfl (fun w => rfl) ?_
  simp only [Act.put, Act.eval, List.getElem_toArray, List.getElem_cons_zero, List.getElem_cons_succ, List.setIfInBounds_toArray, List.set_cons_succ, List.set_cons_zero]
  refine Win.pureOp (v := .pointer (some ⟨p, 0, none⟩)) (.inl hne) rfl rfl (fun w => by rw [Sem.runT_eq]; simp [go_sem, execOp, Act.eval]) ?_
  simp only [Act.put, Act.eval, List.getElem_toArray, List.getElem_cons_zero, List.getElem_cons_succ, List.setIfInBounds_toArray, List.set_cons_succ, List.set_cons_zero]
  refine Win.pureOp (v := .pointer (some ⟨p, 6, none⟩)) (.inl hne) rfl rfl (fun w => by rw [Sem.runT_eq]; simp [go_sem, execOp, Act.eval]) ?_
  simp only [Act.put, Act.eval, List.getElem_toArray, List.getElem_cons_zero, List.getElem_cons_succ, List.setIfInBounds_toArray, List.set_cons_succ, List.set_cons_zero]
  refine Win.storeOp (ad := ⟨p, 6, none⟩) (x := .bool true) (.inl hne) rfl rfl F6 (fun d => by
    rw [Sem.runT_eq]
    have c1 : (u.at d).cell? ⟨p, 6, none⟩ = some (.bool false) := u6
    have c2 : (u.at d).frozen? ⟨p, 6, none⟩ = false := g6
    generalize u.at d = W at c1 c2 ⊢
    obtain ⟨s1, s2⟩ := store_ok (P := Try.prog) (x := .bool true) (w := W) (m := .plain) (by simp) (by simp) c1 c2
    simp [go_sem, execOp, Act.eval, s1, s2, c1, c2]) ?_
  simp only [Act.put, Act.eval, List.getElem_toArray, List.getElem_cons_zero, List.getElem_cons_succ, List.setIfInBounds_toArray, List.set_cons_succ, List.set_cons_zero]
  have v5 := cell_setCell_ne (ad := ⟨p, 6, none⟩) (x := .bool true) u5 (by simp)
  have v3 := cell_setCell_ne (ad := ⟨p, 6, none⟩) (x := .bool true) u3 (by simp)
  have v1 := cell_setCell_ne (ad := ⟨p, 6, none⟩) (x := .bool true) u1 (by simp)
  have hkv := ks_setCell u ⟨p, 6, none⟩ (.bool true)
  obtain ⟨mS, hmS⟩ := hS
  have uS := k1.row (fun z => z) hmS
  have vS : (u.setCell ⟨p, 6, none⟩ (.bool true)).heap[cS]? = _ := hkv.row (show ¬ cS = p from hSp) uS
  have vT : Open cT (u.setCell ⟨p, 6, none⟩ (.bool true)) := (hT.keep k1 fun z => z).keep hkv (show ¬ cT = p from hTp)
  have hW := fun g₂ d hg => hw u g₂ d mS k1 L1 hg uS
  generalize u.setCell ⟨p, 6, none⟩ (.bool true) = w2 at v5 v3 v1 vS vT hW ⊢
  refine Win.opsEnd ?_
  refine Win.seq ?_
  refine Win.region ?_
  simp only [List.size_toArray, List.length_cons, List.length_nil, Nat.reduceAdd, List.range, List.range.loop]
  refine Win.pureOp (v := .pointer (some ⟨p, 0, none⟩)) (.inl hne) rfl rfl (fun w => rfl) ?_
  simp only [Act.put, Act.eval, List.getElem_toArray, List.getElem_cons_zero, List.getElem_cons_succ, List.setIfInBounds_toArray, List.set_cons_succ, List.set_cons_zero]
  refine Win.pureOp (v := .pointer (some ⟨p, 0, none⟩)) (.inl hne) rfl rfl (fun w => by rw [Sem.runT_eq]; simp [go_sem, execOp, Act.eval]) ?_
  simp only [Act.put, Act.eval, List.getElem_toArray, List.getElem_cons_zero, List.getElem_cons_succ, List.setIfInBounds_toArray, List.set_cons_succ, List.set_cons_zero]
  refine Win.pureOp (v := .pointer (some ⟨p, 5, none⟩)) (.inl hne) rfl rfl (fun w => by rw [Sem.runT_eq]; simp [go_sem, execOp, Act.eval]) ?_
  simp only [Act.put, Act.eval, List.getElem_toArray, List.getElem_cons_zero, List.getElem_cons_succ, List.setIfInBounds_toArray, List.set_cons_succ, List.set_cons_zero]
  refine Win.lookOp (v := .bool false) (ad := ⟨p, 5, none⟩) (x := .bool false) (.inl hne) rfl rfl (v5) (fun w hc => by rw [Sem.runT_eq]; simp [go_sem, execOp, Act.eval, hc]) ?_
  simp only [Act.put, Act.eval, List.getElem_toArray, List.getElem_cons_zero, List.getElem_cons_succ, List.setIfInBounds_toArray, List.set_cons_succ, List.set_cons_zero]
  refine Win.pureOp (v := .bool true) (.inl hne) rfl rfl (fun w => by rw [Sem.runT_eq]; simp [go_sem, execOp, Act.eval]) ?_
  simp only [Act.put, Act.eval, List.getElem_toArray, List.getElem_cons_zero, List.getElem_cons_succ, List.setIfInBounds_toArray, List.set_cons_succ, List.set_cons_zero]
  refine Win.opsEnd ?_
  refine Win.cond (t := true) rfl ?_
  simp only [if_true]
  refine Win.seq ?_
  refine Win.region ?_
  simp only [List.size_toArray, List.length_cons, List.length_nil, Nat.reduceAdd, List.range, List.range.loop]
  refine Win.pureOp (v := .pointer (some ⟨p, 0, none⟩)) (.inl hne) rfl rfl (fun w => rfl) ?_
  simp only [Act.put, Act.eval, List.getElem_toArray, List.getElem_cons_zero, List.getElem_cons_succ, List.setIfInBounds_toArray, List.set_cons_succ, List.set_cons_zero]
  refine Win.pureOp (v := .pointer (some ⟨p, 0, none⟩)) (.inl hne) rfl rfl (fun w => by rw [Sem.runT_eq]; simp [go_sem, execOp, Act.eval]) ?_
  simp only [Act.put, Act.eval, List.getElem_toArray, List.getElem_cons_zero, List.getElem_cons_succ, List.setIfInBounds_toArray, List.set_cons_succ, List.set_cons_zero]
  refine Win.pureOp (v := .pointer (some ⟨p, 3, none⟩)) (.inl hne) rfl rfl (fun w => by rw [Sem.runT_eq]; simp [go_sem, execOp, Act.eval]) ?_
  simp only [Act.put, Act.eval, List.getElem_toArray, List.getElem_cons_zero, List.getElem_cons_succ, List.setIfInBounds_toArray, List.set_cons_succ, List.set_cons_zero]
  refine Win.lookOp (v := .chan (some cS)) (ad := ⟨p, 3, none⟩) (x := .chan (some cS)) (.inl hne) rfl rfl (v3) (fun w hc => by rw [Sem.runT_eq]; simp [go_sem, execOp, Act.eval, hc]) ?_
  simp only [Act.put, Act.eval, List.getElem_toArray, List.getElem_cons_zero, List.getElem_cons_succ, List.setIfInBounds_toArray, List.set_cons_succ, List.set_cons_zero]
  refine Win.closes (j := j) (c := cS) (kk := 1) (m := mS) (z := z) (pl' := some (waitSeat p cT (fun _ _ => False) (stopHome p cS cT (c :: cs)))) (.inl hne) rfl rfl rfl rfl rfl hj hk vS ⟨waitSeat_wf, fun q hq => ?_, fun i' s' q hi hq hq' => ?_, fun ad v hv => ?_, 60, ?_⟩ (fun g₂ d hg => hW g₂ d hg)
  · rw [waitSeat_has hq]; exact vT
  · exact hap i' s' q hi hq (waitSeat_has hq')
  · rcases hv with ⟨rfl, rfl⟩ | h
    · exact v1
    · exact h.elim
  · exact way_stop p cS cT (c :: cs) _ _

/-- Behind the wait. -/
theorem stop_after {c : Frame} {cs : List Frame} {p cS cT : Nat} {next x y : Value} {ok : Bool} (h4 : w.cell? ⟨p, 4, none⟩ = some x) (h6 : w.cell? ⟨p, 6, none⟩ = some y) (f4 : w.frozen? ⟨p, 4, none⟩ = false) (f6 : w.frozen? ⟨p, 6, none⟩ = false)
    (hn1 : ∀ l, next ≠ .agg l) (hn2 : ∀ l, next ≠ .tuple l) (F4 : Free pl ⟨p, 4, none⟩) (F6 : Free pl ⟨p, 6, none⟩)
    (H : Win Try.prog Post pl n 0 (gor (c.finish (.tuple #[])) cs) ((w.setCell ⟨p, 4, none⟩ next).setCell ⟨p, 6, none⟩ (.bool !ok))) :
    Win Try.prog Post pl n 0 (Go.Conc.served (gor (waitFr Try.prog Try.f46 p cT) (stopWait Try.prog Try.f18 p cS :: c :: cs)) (.tuple #[next, .bool ok])) w := by
  have hne : (Frame.enter Try.prog 18 #[.pointer (some ⟨p, 0, none⟩)] CallKind.normal).kind = .normal := rfl
  refine wait_back h4 h6 f4 f6 hn1 hn2 F4 F6 ?_
  generalize (w.setCell ⟨p, 4, none⟩ next).setCell ⟨p, 6, none⟩ (.bool !ok) = w2 at H ⊢
  unfold stopWait
  rw [Frame.finish_at]
  simp only [bodyOf, Try.f18, codeR, codeThen, regOps, Option.getD_some, stopTmps]
  simp only [Act.put, Act.eval, List.getElem?_toArray, List.getElem?_cons_zero, List.getElem?_cons_succ, Option.bind_some, List.getElem_toArray, List.getElem_cons_zero, List.getElem_cons_succ, List.setIfInBounds_toArray, List.set_cons_succ, List.set_cons_zero]
  refine Win.opsEnd ?_
  refine Win.falls ?_
  refine Win.leave (v := .tuple #[]) rfl rfl rfl Try.func18 (fun d => ⟨#[], by rw [Sem.runT_eq]; simp [results, Try.results18, go_sem]; try rfl, fun e he => by simp at he⟩) H
end
end Go.Proofs.Ytnbibpmhmffmpaa

namespace Go.Proofs.Ytnbibpmhmffmpaa
set_option linter.unusedVariables false
set_option linter.unusedSimpArgs false
set_option maxRecDepth 100000
open Go.Conc
open Go.ConcN (upd_ne upd_same)

section
variable {G : Type} {Post : Value → World → Prop} {Sh : World → G → Prop} {SB : Nat → Prop} {pA rA : Nat} {a : Ag} {mv : Value} {n : Nat}
variable {pl pl' : Nat → Option Place} {F F' : Nat → Option (Nat × Nat)} {col col' : Nat → Col} {w w' : World} {g : G}

theorem stAt_over {nx nx' : Value} {bz ov : Bool} (h : StAt a mv nx bz ov w) (ok : Bool) : StAt a mv nx' bz ok ((w.setCell ⟨a.p, 4, none⟩ nx').setCell ⟨a.p, 6, none⟩ (.bool ok)) := by
  unfold StAt at *
  have h1 := heap_setCell_same w a.p 4 _ _ nx' h
  have h2 := heap_setCell_same _ a.p 6 _ _ (.bool ok) h1
  rw [h2]
  simp

set_option maxHeartbeats 2000000 in
/-- A STOP: the agent ends where it waits; what it has shared is as its tree says. -/
theorem stop_goes (hSh : ∀ g, Priv SB (fun w => Sh w g)) (D : Desk SB pA rA pl F col w) (hO : AgOK a F col) {k : Int} {φ : Int → Int} {c : Int → G → G} {nx : Int → G → Tree G} {hl : G → G} {c₀ : Frame} {cs : List Frame}
    (hst : Stands Post Sh SB pA rA a mv (.node k φ c nx hl) pl F col w) (hs : Sh w g)
    (H : ∀ pl' F' col' w', Desk SB pA rA pl' F' col' w' → Ks (fun b => col b = .ag a.j ∨ col b = .sys a.j ∨ col b = .shared) w w' → Same F col w F' col' → (∀ i, i ≠ a.j → pl' i = pl i) → Stands Post Sh SB pA rA a mv (.ret : Tree G) pl' F' col' w' → Sh w' (hl g) → Win Try.prog Post pl' n 0 (gor (c₀.finish (.tuple #[])) cs) w') :
    Win Try.prog Post pl n 0 (gor (Frame.enter Try.prog 18 #[.pointer (some ⟨a.p, 0, none⟩)] .normal) (c₀ :: cs)) w := by
  obtain ⟨t, hSt, oT, oU, oS, hPo⟩ := hst
  obtain ⟨b3, homeJ, own, A, B, f, cap, q1, q2, q3, q4, q5, q6, q7, q8, q9, q10, ⟨rfl, fn, hfn, hfb⟩, qT, qR, qS⟩ := hPo
  have hjp := hO.jpos
  have hj0 : a.j ≠ 0 := by omega
  have hplt := D.lay.lt (b := a.p) (by rw [hO.cp]; simp)
  have hTp : ∀ {x : Nat}, Open x w → x ≠ a.p := fun {x} h e => by
    obtain ⟨q, hq⟩ := h
    unfold StAt at hSt
    rw [← e, hq] at hSt; cases hSt
  have hmp : a.m ≠ a.p := fun e => by unfold MeAt at q6; unfold StAt at hSt; rw [e, hSt] at q6; simp at q6
  have hb3p : b3 ≠ a.p := fun e => by unfold StAt at hSt; rw [e, hSt] at q7; simp at q7
  have hmS : a.m ≠ a.cS := fun e => by obtain ⟨q, hq⟩ := oS; unfold MeAt at q6; rw [e, hq] at q6; cases q6
  have hb3S : b3 ≠ a.cS := fun e => by obtain ⟨q, hq⟩ := oS; rw [e, hq] at q7; cases q7
  refine stop_in D.lies (cS := a.cS) (cT := a.cT) (j := a.j) (s := turnSeat a.p a.m b3 a.cU a.cS homeJ) (z := .agg #[]) (cell_of_row hSt 6) (cell_of_row hSt 5) (cell_of_row hSt 3) (cell_of_row hSt 1) (fun u ku => free_of_row (ku.row (fun z => z) hSt) 6) (D.freeP hO hSt (by omega)) q1 rfl oS oT hO.dis.2.1.symm (hTp oS) (hTp oT) (fun i s' x hi hx e => ?_) (fun u g₂ d m ku Lu hg₂ huS => ?_)
  · have h1 := D.own i s' x hi hx
    rw [e, hO.ccT] at h1
    have h2 : a.j = i := Col.sys.inj h1
    subst h2
    rw [q1] at hi
    obtain rfl := Option.some.inj hi
    rcases turnSeat_has hx with h | h
    · exact hO.dis.1 (e.symm.trans h)
    · exact hO.dis.2.1 (e.symm.trans h)
  have hSp : a.cS ≠ a.p := hTp oS
  have huS' : ((u.setCell ⟨a.p, 6, none⟩ (.bool true)).at d).heap[a.cS]? = some (.chan 0 #[] false m m false) := (ks_setCell u ⟨a.p, 6, none⟩ (.bool true)).row (show ¬ a.cS = a.p from hSp) huS
  have hWL0 : Lies pl F (((u.setCell ⟨a.p, 6, none⟩ (.bool true)).at d).setChan a.cS 0 #[] true m m false) := ((Lu.setCell _ _).at d).setChan huS' _ _ _ _ _ _
  have kAll : Ks (fun b => b = a.p ∨ b = a.cS) w (((u.setCell ⟨a.p, 6, none⟩ (.bool true)).at d).setChan a.cS 0 #[] true m m false) :=
    (((ku.mono fun _ _ z => z.elim).then (ks_setCell u ⟨a.p, 6, none⟩ (.bool true)) fun _ _ e => .inl e).at d).then (ks_setChan _ a.cS _ _ _ _ _ _) fun _ _ e => .inr e
  have hWS0 : StAt a mv (.func (.func f) #[] cap) false true (((u.setCell ⟨a.p, 6, none⟩ (.bool true)).at d).setChan a.cS 0 #[] true m m false) := by
    have h1 : StAt a mv (.func (.func f) #[] cap) false false u := ku.row (fun z => z) hSt
    have h2 : StAt a mv (.func (.func f) #[] cap) false true (u.setCell ⟨a.p, 6, none⟩ (.bool true)) := by
      unfold StAt at *
      rw [heap_setCell_same _ a.p 6 _ _ (.bool true) h1]
      simp
    exact (ks_setChan ((u.setCell ⟨a.p, 6, none⟩ (.bool true)).at d) a.cS 0 #[] true m m false).row (show ¬ a.p = a.cS from hSp.symm) h2
  have hWC : Shut' a.cS (((u.setCell ⟨a.p, 6, none⟩ (.bool true)).at d).setChan a.cS 0 #[] true m m false) := ⟨m, Array.getElem?_setIfInBounds_self_of_lt (lt_of_block huS')⟩
  generalize ((u.setCell ⟨a.p, 6, none⟩ (.bool true)).at d).setChan a.cS 0 #[] true m m false = W at hWL0 kAll hWS0 hWC ⊢
  refine (told_stop a.p a.m b3 a.cU a.cS homeJ).symm ▸ ?_
  have hzW := kAll.size
  have hne : ∀ b, col b ≠ .sys a.j → ¬ (b = a.p ∨ b = a.cS) := fun b hb z => by
    rcases z with z | z
    · exact hb (by rw [z]; exact hO.cp)
    · exact hb (by rw [z]; exact hO.ccS)
  have hLay : Lay SB pA rA col F W := ⟨D.lay.free, fun b hb => D.lay.above b (by omega), D.lay.sb, D.lay.ar⟩
  have hWT : Open a.cT W := oT.keep kAll fun z => z.elim (hTp oT) fun e => hO.dis.2.1 e
  have hWU : Open a.cU W := oU.keep kAll fun z => z.elim (hTp oU) fun e => hO.dis.2.2 e
  have hWm : MeAt a false 0 W := kAll.row (fun z => z.elim hmp hmS) q6
  have hW3 := kAll.row (fun z => z.elim hb3p hb3S) q7
  have hWA : A W := q3.st _ _ q5 fun b hb => kAll.block b (q3.lt _ _ q5 hb) (hne b (by rw [q2 b hb]; simp))
  have hWSh : Sh W g := (hSh g).st _ _ hs fun b hb => kAll.block b ((hSh g).lt _ _ hs hb) (hne b (by rw [D.lay.sb b hb]; simp))
  refine qS (stopHome a.p a.cS a.cT (c₀ :: cs)) n _ F col W g g₂ hg₂ ⟨hjp, ?_, hLay, ⟨_, moved_h _ _ _ _⟩, moved_j _ _ hj0, ?_, ⟨_, _, hWS0⟩, hWm, hO.fm, hO.fp, hO.cm, hO.cp, hO.ccT, hO.ccU, hO.ccS, hO.dis, hWT, hWU, fun h => by cases h⟩ q2 hWA hW3 hWSh ?_
  · unfold moved
    refine (hWL0.drop a.j).put 0 (fun x hx => ?_) fun ad v hv => ?_
    · obtain rfl := waitSeat_has hx
      obtain ⟨q, hq⟩ := hWT
      exact ⟨_, _, _, _, _, _, hq⟩
    · rcases hv with ⟨rfl, rfl⟩ | h
      · exact ⟨1, 4, hO.fp, Nat.le_refl _, (by decide : 1 < 4)⟩
      · exact h.elim
  · intro i s' hi
    by_cases e0 : i = 0
    · subst e0
      rw [moved_h] at hi
      obtain rfl := Option.some.inj hi
      exact ⟨fun h => hO.dis.1 (waitSeat_has h).symm, fun h => hO.dis.2.1 (waitSeat_has h).symm⟩
    · obtain ⟨ej, hi'⟩ := moved_old hj0 e0 hi
      exact ⟨fun h => by have := D.own i s' _ hi' h; rw [hO.ccU] at this; exact ej (Col.sys.inj this).symm, fun h => by have := D.own i s' _ hi' h; rw [hO.ccS] at this; exact ej (Col.sys.inj this).symm⟩
  · intro pl' F' col' w' gm hgm hA hpj hsh hs'
    have hgm' : gm = gor (waitFr Try.prog Try.f46 a.p a.cT) (stopWait Try.prog Try.f18 a.p a.cS :: c₀ :: cs) := hgm
    subst hgm'
    have hpS : ¬ mine a col a.p := by
      intro h
      rcases h with h | h | h
      · rw [hO.cp] at h; cases h
      · exact h.2 rfl
      · rw [hO.cp] at h; cases h
    have hst' : StAt a mv _ false true w' := hA.mv.ks.row hpS hWS0
    have hpltW : a.p < W.heap.size := by omega
    have hFp : F' a.p = some (1, 4) := (hA.mv.fo _ hpltW).trans hO.fp
    refine stop_after (cell_of_row hst' 4) (cell_of_row hst' 6) (free_of_row hst' 4) (free_of_row hst' 6) (by simp) (by simp) (free_of_lies hA.lies hFp hst' (by omega)) (free_of_lies hA.lies hFp hst' (by omega)) ?_
    have kl : Ks (· = a.p) w' ((w'.setCell ⟨a.p, 4, none⟩ .nilFunc).setCell ⟨a.p, 6, none⟩ (.bool true)) := (ks_setCell w' ⟨a.p, 4, none⟩ _).trans (ks_setCell _ ⟨a.p, 6, none⟩ _)
    have kz : ((w'.setCell ⟨a.p, 4, none⟩ .nilFunc).setCell ⟨a.p, 6, none⟩ (.bool true)).heap.size = w'.heap.size := by simp [World.setCell]
    refine H pl' F' col' _ ⟨hA.pl0, (hA.lies.setCell _ _).setCell _ _, ⟨hA.lay.free, fun b hb => hA.lay.above b (by rw [show ((w'.setCell ⟨a.p, 4, none⟩ .nilFunc).setCell ⟨a.p, 6, none⟩ (.bool !false)).heap.size = w'.heap.size from kz] at hb; exact hb), hA.lay.sb, hA.lay.ar⟩, fun i s x hi hx => ?_⟩ ?_ ⟨fun b hb => hA.mv.colo b (by omega), fun b hb => hA.mv.fo b (by omega)⟩ (fun i ej => ?_) ⟨hpj, stAt_over hst' true⟩ ?_
    · by_cases e0 : i = 0
      · subst e0; rw [hA.pl0] at hi; cases hi
      by_cases ej : i = a.j
      · subst ej; rw [hpj] at hi; cases hi
      · rw [hA.pls i e0 ej, moved_ne _ _ e0 ej] at hi
        have h := D.own i s x hi hx
        have hlt := D.lay.lt (b := x) (by rw [h]; simp)
        exact (hA.mv.colo x (by omega)).trans h
    · refine ((kAll.mono fun b _ z => ?_).then hA.mv.ks fun b hb z => ?_).then kl fun b hb z => ?_
      · rcases z with z | z
        · rw [z]; exact .inr (.inl hO.cp)
        · rw [z]; exact .inr (.inl hO.ccS)
      · rcases z with z | z | z
        · exact .inl z
        · exact .inr (.inl z.1)
        · exact .inr (.inr z)
      · have e' : b = a.p := z
        rw [e']; exact .inr (.inl hO.cp)
    · by_cases e0 : i = 0
      · subst e0; rw [hA.pl0, D.pl0]
      · exact (hA.pls i e0 ej).trans (moved_ne _ _ e0 ej)
    · refine (hSh _).st _ _ hs' fun b hb => kl.block b ((hSh _).lt _ _ hs' hb) fun e => ?_
      have h1 := hA.lay.sb b hb
      have h2 := hA.mv.colo a.p hpltW
      have e' : b = a.p := e
      rw [e', h2, hO.cp] at h1; cases h1
end
end Go.Proofs.Ytnbibpmhmffmpaa

namespace Go.Proofs.Ytnbibpmhmffmpaa
set_option linter.unusedVariables false
set_option linter.unusedSimpArgs false
set_option maxRecDepth 100000
open Go.Conc
open Go.ConcN (upd_ne upd_same)

/-- How often each has ended, as a row. -/
def ends64 (g : List Int) : Array Value := (g.map (Value.int .i64)).toArray
def endsSh (be M : Nat) (w : World) (g : List Int) : Prop := w.heap[be]? = some (.cells (ends64 g) 3 (0, 0)) ∧ g.length = M
theorem priv_ends (be M : Nat) (g : List Int) : Priv (· = be) (fun w => endsSh be M w g) :=
  ⟨fun w w' h hb => ⟨(hb be rfl).trans h.1, h.2⟩, fun w b h e => by have e' : b = be := e; subst e'; rw [h.1]; rfl, fun w b h e => by have e' : b = be := e; subst e'; exact lt_of_block h.1⟩
theorem ends_cell {be M : Nat} {w : World} {g : List Int} (h : endsSh be M w g) {i : Nat} (hi : i < M) : w.cell? ⟨be, i, none⟩ = some (.int .i64 (g.getD i 0)) ∧ w.frozen? ⟨be, i, none⟩ = false := by
  have hi' : i < g.length := by rw [h.2]; exact hi
  refine ⟨?_, free_of_row h.1 i⟩
  rw [cell_of_row h.1]
  simp [ends64, List.getD, hi']
theorem ends_set {be M : Nat} {w : World} {g : List Int} (h : endsSh be M w g) (i : Nat) (v : Int) : endsSh be M (w.setCell ⟨be, i, none⟩ (.int .i64 v)) (g.set i v) := by
  refine ⟨?_, by rw [List.length_set]; exact h.2⟩
  rw [heap_setCell_same _ _ _ _ _ _ h.1]
  simp [ends64, List.map_set]
section
variable {Post : Value → World → Prop} {SB : Nat → Prop} {pA rA : Nat} {a : Ag} {mv : Value} {home : Goroutine → Prop} {n : Nat} {runs ov : Bool}
variable {pl pl' : Nat → Option Place} {F F' : Nat → Option (Nat × Nat)} {col col' : Nat → Col} {w w' : World} {g : List Int} {G : Type} {Sh : World → G → Prop}

theorem Ends.free_shared (h : Ends SB pA rA a mv home pl F col w) {q : Addr} {x : Value} (hq : SB q.block) (hc : w.cell? q = some x) : Free pl q := by
  have hF : F q.block = none := h.lay.free _ (by rw [h.lay.sb _ hq]; rfl)
  refine ⟨fun i s v hi hs => ?_, fun i s c hi hs e => ?_⟩
  · obtain ⟨lo, hi', z, _, _⟩ := h.lies.still i s _ v hi hs
    rw [hF] at z; cases z
  · obtain ⟨_, _, _, _, _, _, hh⟩ := h.lies.chans i s c hi hs
    rw [e] at hh
    unfold World.cell? at hc
    rw [hh] at hc; cases hc
theorem Ends.shared (h : Ends SB pA rA a mv home pl F col w) {q : Addr} (hq : SB q.block) (x : Value) : Ends SB pA rA a mv home pl F col (w.setCell q x) := by
  have k := ks_setCell w q x
  have hz : (w.setCell q x).heap.size = w.heap.size := by simp [World.setCell]
  have hne : ∀ b, col b = .sys a.j → ¬ b = q.block := fun b hb e => by have := h.lay.sb _ hq; rw [← e, hb] at this; cases this
  obtain ⟨nx, bz, ov, hst⟩ := h.st
  obtain ⟨r, l, hme⟩ := h.me
  exact ⟨h.jpos, h.lies.setCell _ _, ⟨h.lay.free, fun b hb => h.lay.above b (by rw [hz] at hb; exact hb), h.lay.sb, h.lay.ar⟩, h.seat, h.absent, ⟨nx, bz, ov, k.row (hne _ h.cp) hst⟩, ⟨r, l, k.row (hne _ h.cm) hme⟩, h.fm, h.cm, h.cp, h.ccT, h.oT.keep k (hne _ h.ccT)⟩
variable {b1 b2 bd bn be ix N M : Nat} {gf : FuncId} {cap : Array Value}
end
end Go.Proofs.Ytnbibpmhmffmpaa

namespace Go.Proofs.Ytnbibpmhmffmpaa
set_option linter.unusedVariables false
set_option linter.unusedSimpArgs false
set_option maxRecDepth 100000
open Go.Conc
open Go.ConcN (upd_ne upd_same)

/-- The first k agents stand, each by its tree. -/
structure Crew {G : Type} (Post : Value → World → Prop) (Sh : World → G → Prop) (SB : Nat → Prop) (pA rA : Nat) (mv : Value) (n0 k : Nat) (ag : Nat → Ag) (T : Nat → Tree G) (pl : Nat → Option Place) (F : Nat → Option (Nat × Nat)) (col : Nat → Col) (w : World) (g : G) : Prop where
  npos : 0 < n0
  desk : Desk SB pA rA pl F col w
  out : ∀ i, n0 + k ≤ i → pl i = none
  ok : ∀ i, i < k → AgOK (ag i) F col
  num : ∀ i, i < k → (ag i).j = n0 + i
  st : ∀ i, i < k → Stands Post Sh SB pA rA (ag i) mv (T i) pl F col w
  sh : Sh w g
/-- Of who steps alone. -/
def Plain (c : Col) : Prop := c = .main ∨ c = .arena ∨ c = .shared
theorem Plain.sys {c : Col} (h : Plain c) : c.isSys = false := by rcases h with rfl | rfl | rfl <;> rfl

section
variable {G : Type} {Post : Value → World → Prop} {Sh : World → G → Prop} {SB : Nat → Prop} {pA rA : Nat} {mv : Value} {n n0 k : Nat} {ag : Nat → Ag} {T : Nat → Tree G}
variable {pl pl' : Nat → Option Place} {F F' : Nat → Option (Nat × Nat)} {col col' : Nat → Col} {w w' : World} {g g' : G}

/-- Who steps has done something alone. -/
theorem Crew.keep (C : Crew Post Sh SB pA rA mv n0 k ag T pl F col w g) {S : Nat → Prop} (D : Desk SB pA rA pl F col w') (ks : Ks S w w') (hS : ∀ b, b < w.heap.size → S b → Plain (col b)) (hs : Sh w' g') : Crew Post Sh SB pA rA mv n0 k ag T pl F col w' g' :=
  ⟨C.npos, D, C.out, C.ok, C.num, fun i hi => (C.st i hi).keep (C.ok i hi) C.desk.lay rfl ⟨fun _ _ => rfl, fun _ _ => rfl⟩ fun b hb hc => ks.block b hb (fun z => (by
    rcases hS b hb z with h | h | h <;> rw [h] at hc <;> rcases hc with hc | hc <;> cases hc)), hs⟩

theorem crew_other {i j : Nat} (h1 : (ag i).j = n0 + i) (h2 : (ag j).j = n0 + j) (h : j ≠ i) : (ag j).j ≠ (ag i).j := by omega

/-- A step of one. -/
theorem Crew.steps (hSh : ∀ g, Priv SB (fun w => Sh w g)) (C : Crew Post Sh SB pA rA mv n0 k ag T pl F col w g) {i : Nat} (hi : i < k) {kk : Int} {φ : Int → Int} {c : Int → G → G} {nx : Int → G → Tree G} {hl : G → G} (hT : T i = .node kk φ c nx hl) {s : St} (har : Ar w pA rA s) (hlen : s.ws.length ≤ 4096) (ht : s.t ≤ 4095) (hbn : Bnd s) {c₀ : Frame} {cs : List Frame}
    (H : ∀ pl' F' col' w', Crew Post Sh SB pA rA mv n0 k ag (fun j => if j = i then nx (was s kk) g else T j) pl' F' col' w' (c (was s kk) g) → Ar w' pA rA (Go.Proofs.Ytnbibpmhmffmpaa.upd s kk (φ (was s kk))) → Ks (stepped (ag i) col) w w' → Same F col w F' col' → Win Try.prog Post pl' n 0 (gor (c₀.finish (.int .i64 0)) cs) w') :
    Win Try.prog Post pl n 0 (gor (Frame.enter Try.prog 15 #[.pointer (some ⟨(ag i).p, 0, none⟩)] .normal) (c₀ :: cs)) w := by
  have hst := C.st i hi
  rw [hT] at hst
  refine step_goes hSh C.desk (C.ok i hi) hst har hlen ht hbn C.sh fun pl' F' col' w' D' ks sm hpl hst' har' hs' => H pl' F' col' w' ⟨C.npos, D', fun j hj => ?_, fun j hj => (C.ok j hj).keep C.desk.lay sm, C.num, fun j hj => ?_, hs'⟩ har' ks sm
  · rw [hpl j (by rw [C.num i hi]; omega)]; exact C.out j hj
  · by_cases e : j = i
    · subst e; simp only [if_true]; exact hst'
    · simp only [if_neg e]
      have hne := crew_other (C.num i hi) (C.num j hj) e
      exact (C.st j hj).keep (C.ok j hj) C.desk.lay (hpl _ hne) sm fun b hb hc => ks.block b hb fun z => by
        unfold stepped at z
        rcases hc with hc | hc <;> rw [hc] at z <;> rcases z with z | z | z | z <;> first | exact hne (Col.ag.inj z) | exact hne (Col.sys.inj z) | cases z

/-- One is stopped. -/
theorem Crew.stops (hSh : ∀ g, Priv SB (fun w => Sh w g)) (C : Crew Post Sh SB pA rA mv n0 k ag T pl F col w g) {i : Nat} (hi : i < k) {kk : Int} {φ : Int → Int} {c : Int → G → G} {nx : Int → G → Tree G} {hl : G → G} (hT : T i = .node kk φ c nx hl) {c₀ : Frame} {cs : List Frame}
    (H : ∀ pl' F' col' w', Crew Post Sh SB pA rA mv n0 k ag (fun j => if j = i then .ret else T j) pl' F' col' w' (hl g) → Ks (fun b => col b = .ag (ag i).j ∨ col b = .sys (ag i).j ∨ col b = .shared) w w' → Same F col w F' col' → Win Try.prog Post pl' n 0 (gor (c₀.finish (.tuple #[])) cs) w') :
    Win Try.prog Post pl n 0 (gor (Frame.enter Try.prog 18 #[.pointer (some ⟨(ag i).p, 0, none⟩)] .normal) (c₀ :: cs)) w := by
  have hst := C.st i hi
  rw [hT] at hst
  refine stop_goes hSh C.desk (C.ok i hi) hst C.sh fun pl' F' col' w' D' ks sm hpl hst' hs' => H pl' F' col' w' ⟨C.npos, D', fun j hj => ?_, fun j hj => (C.ok j hj).keep C.desk.lay sm, C.num, fun j hj => ?_, hs'⟩ ks sm
  · rw [hpl j (by rw [C.num i hi]; omega)]; exact C.out j hj
  · by_cases e : j = i
    · subst e; simp only [if_true]; exact hst'
    · simp only [if_neg e]
      have hne := crew_other (C.num i hi) (C.num j hj) e
      exact (C.st j hj).keep (C.ok j hj) C.desk.lay (hpl _ hne) sm fun b hb hc => ks.block b hb fun z => by
        rcases hc with hc | hc <;> rw [hc] at z <;> rcases z with z | z | z <;> first | exact hne (Col.ag.inj z) | exact hne (Col.sys.inj z) | cases z

/-- Colours ahead of one more: its blocks are its own, no block is its system's. -/
def recol (n : Nat) (own : Nat → Prop) [DecidablePred own] (col : Nat → Col) (b : Nat) : Col :=
  if own b then .ag n else match col b with
    | .sys i => if n ≤ i then .sys 0 else .sys i
    | .ag i => if n ≤ i then .main else .ag i
    | c => c
theorem Crew.recol (C : Crew Post Sh SB pA rA mv n0 k ag T pl F col w g) (own : Nat → Prop) [DecidablePred own] (hown : ∀ b, own b → col b = .main ∧ b < w.heap.size) :
    Crew Post Sh SB pA rA mv n0 k ag T pl F (Go.Proofs.Ytnbibpmhmffmpaa.recol (n0 + k) own col) w g ∧ (∀ b, own b → Go.Proofs.Ytnbibpmhmffmpaa.recol (n0 + k) own col b = .ag (n0 + k)) ∧ (∀ b, Go.Proofs.Ytnbibpmhmffmpaa.recol (n0 + k) own col b ≠ .sys (n0 + k)) ∧ (∀ b, ¬ own b → Plain (col b) → Go.Proofs.Ytnbibpmhmffmpaa.recol (n0 + k) own col b = col b) ∧ (∀ b, Go.Proofs.Ytnbibpmhmffmpaa.recol (n0 + k) own col b = .shared → col b = .shared) ∧ (∀ b, Go.Proofs.Ytnbibpmhmffmpaa.recol (n0 + k) own col b = .ag (n0 + k) → own b) := by
  have hs : ∀ b i, i < n0 + k → col b = .sys i → Go.Proofs.Ytnbibpmhmffmpaa.recol (n0 + k) own col b = .sys i := fun b i hi hb => by
    have hno : ¬ own b := fun h => by rw [(hown b h).1] at hb; cases hb
    unfold Go.Proofs.Ytnbibpmhmffmpaa.recol
    rw [if_neg hno, hb]
    simp only
    rw [if_neg (by omega)]
  have hp : ∀ b, ¬ own b → Plain (col b) → Go.Proofs.Ytnbibpmhmffmpaa.recol (n0 + k) own col b = col b := fun b h1 h2 => by
    unfold Go.Proofs.Ytnbibpmhmffmpaa.recol
    rw [if_neg h1]
    rcases h2 with h | h | h <;> rw [h]
  have hag : ∀ b i, i < n0 + k → col b = .ag i → Go.Proofs.Ytnbibpmhmffmpaa.recol (n0 + k) own col b = .ag i := fun b i hi hb => by
    have hno : ¬ own b := fun h => by rw [(hown b h).1] at hb; cases hb
    unfold Go.Proofs.Ytnbibpmhmffmpaa.recol
    rw [if_neg hno, hb]
    simp only
    rw [if_neg (by omega)]
  have hsysof : ∀ b, (col b).isSys = true → (Go.Proofs.Ytnbibpmhmffmpaa.recol (n0 + k) own col b).isSys = true := fun b hb => by
    have hno : ¬ own b := fun h => by rw [(hown b h).1] at hb; cases hb
    unfold Go.Proofs.Ytnbibpmhmffmpaa.recol
    rw [if_neg hno]
    cases hc : col b <;> rw [hc] at hb <;> first | cases hb | skip
    simp only
    split <;> rfl
  have L := C.desk.lay
  have hnoS : ∀ b, SB b → ¬ own b := fun b hb h => by have := (hown b h).1; rw [L.sb b hb] at this; cases this
  have hnoA : ∀ b, col b = .arena → ¬ own b := fun b hb h => by have := (hown b h).1; rw [hb] at this; cases this
  have D : Desk SB pA rA pl F (Go.Proofs.Ytnbibpmhmffmpaa.recol (n0 + k) own col) w := by
    refine ⟨C.desk.pl0, C.desk.lies, ⟨fun b hb => ?_, fun b hb => ?_, fun b hb => ?_, ?_, ?_⟩, fun i s c hi hc => ?_⟩
    · cases hc : (col b).isSys with
      | false => exact L.free b hc
      | true => rw [hsysof b hc] at hb; cases hb
    · have hno : ¬ own b := fun h => by have := (hown b h).2; omega
      exact (hp b hno (.inl (L.above b hb))).trans (L.above b hb)
    · exact (hp b (hnoS b hb) (.inr (.inr (L.sb b hb)))).trans (L.sb b hb)
    · exact (hp pA (hnoA _ L.ar.1) (.inr (.inl L.ar.1))).trans L.ar.1
    · exact (hp rA (hnoA _ L.ar.2) (.inr (.inl L.ar.2))).trans L.ar.2
    · rcases Nat.lt_or_ge i (n0 + k) with z | z
      · exact hs c i z (C.desk.own i s c hi hc)
      · rw [C.out i z] at hi; cases hi
  have hok : ∀ i, i < k → AgOK (ag i) F (Go.Proofs.Ytnbibpmhmffmpaa.recol (n0 + k) own col) := fun i hi => by
    have h := C.ok i hi
    have hj := C.num i hi
    exact ⟨h.jpos, h.fm, h.fp, hs _ _ (by omega) h.cm, hs _ _ (by omega) h.cp, hs _ _ (by omega) h.ccT, hs _ _ (by omega) h.ccU, hs _ _ (by omega) h.ccS, h.dis⟩
  refine ⟨⟨C.npos, D, C.out, hok, C.num, fun i hi => ?_, C.sh⟩, fun b hb => if_pos hb, fun b hb => ?_, hp, fun b hb => ?_, fun b hb => ?_⟩
  · have h := C.st i hi
    have hj := C.num i hi
    cases hT : T i with
    | ret => rw [hT] at h; exact h
    | node kk φ c nx hl =>
      rw [hT] at h
      obtain ⟨t, h1, h2, h3, h4, b3, homeJ, own', A, B, f, cap, q1, q2, q3, q4, q5, q6, q7, q8, q9, q10, q11, q12, q13, q14⟩ := h
      exact ⟨t, h1, h2, h3, h4, b3, homeJ, own', A, B, f, cap, q1, fun b hb => hag b _ (by omega) (q2 b hb), q3, q4, q5, q6, q7, hs b3 _ (by omega) q8, q9, q10, q11, q12, q13, q14⟩
  · have : 0 < n0 + k := by have := C.npos; omega
    unfold Go.Proofs.Ytnbibpmhmffmpaa.recol at hb
    split at hb
    · cases hb
    · cases hc : col b <;> rw [hc] at hb <;> simp only at hb <;> first | cases hb | skip
      · split at hb <;> cases hb
      · split at hb
        · have := Col.sys.inj hb; omega
        · have := Col.sys.inj hb; omega
  · unfold Go.Proofs.Ytnbibpmhmffmpaa.recol at hb
    split at hb
    · cases hb
    · cases hc : col b <;> rw [hc] at hb <;> simp only at hb <;> first | rfl | cases hb | skip
      · split at hb <;> cases hb
      · split at hb <;> cases hb
  · unfold Go.Proofs.Ytnbibpmhmffmpaa.recol at hb
    split at hb
    · assumption
    · cases hc : col b <;> rw [hc] at hb <;> simp only at hb <;> first | cases hb | skip
      · split at hb
        · cases hb
        · have := Col.ag.inj hb; omega
      · split at hb <;> cases hb

/-- One more is made. -/
theorem Crew.news (hSh : ∀ g, Priv SB (fun w => Sh w g)) (C : Crew Post Sh SB pA rA mv n0 k ag T pl F col w g) {own0 : Nat → Prop} [DecidablePred own0] {A0 : World → Prop} (hP0 : Priv own0 A0) (hown0 : ∀ b, own0 b → col b = .main) (hA0 : A0 w) {mt : TypeId} {mval : Value} (hmv : mv = .iface mt mval) {gf : FuncId} {cap : Array Value} {fn : Func} (hg : Try.prog.funcs[gf]? = some fn) (hgb : fn.body.isNone = false) {T0 : Tree G} {g1 : G} {c₀ : Frame} {cs : List Frame}
    (hprog : ∀ a home pl' F' col' w' b1 b2, a.j = n0 + k → Acts SB pA rA a mv home true false pl' F' col' w' → Boxed a b1 b2 w' → col' b1 = .ag (n0 + k) → col' b2 = .ag (n0 + k) → (∀ b, own0 b → col' b = .ag (n0 + k)) → A0 w' → Sh w' g → Kont Post Sh SB pA rA a mv home (n0 + k + 1) T0 pl' F' col' w' g1 →
      Win Try.prog Post pl' (n0 + k + 1) a.j (gor (Frame.enter Try.prog gf (#[.iface 136 (.pointer (some ⟨a.m, 0, none⟩))] ++ cap) .normal) [runFr Try.prog Try.f45 a.p a.m b1 b2 gf cap, rootFr Try.prog]) w')
    (H : ∀ a pl' F' col' w', Crew Post Sh SB pA rA mv n0 (k + 1) (fun j => if j = k then a else ag j) (fun j => if j = k then T0 else T j) pl' F' col' w' g1 → Ks (fun b => own0 b ∨ col b = .shared) w w' → (∀ b, b < w.heap.size → ¬ own0 b → Plain (col b) → col' b = col b) → w.heap.size ≤ a.p →
      Win Try.prog Post pl' (n0 + k + 1) 0 (gor (c₀.finish (.tuple #[.pointer (some ⟨a.p, 0, none⟩), .int .i64 0])) cs) w') :
    Win Try.prog Post pl (n0 + k) 0 (gor (Frame.enter Try.prog 11 #[mv, .func (.func gf) #[] cap] .normal) (c₀ :: cs)) w := by
  subst hmv
  obtain ⟨C', r1, r2, r3, r4, r5⟩ := C.recol own0 fun b hb => ⟨hown0 b hb, hP0.lt _ _ hA0 hb⟩
  have hpos := C.npos
  refine new_goes hSh C'.desk (n := n0 + k) (by omega) (C.out (n0 + k) (Nat.le_refl _)) r2 hg hgb hP0 r1 hA0 C.sh hprog fun a pl' F' col' w' hj hO D' ks sm hpl hst hs hap => H a pl' F' col' w' ⟨C.npos, D', fun j hj' => ?_, fun j hj' => ?_, fun j hj' => ?_, fun j hj' => ?_, hs⟩ (ks.mono fun b _ z => z.imp (r5 b) (r4 b)) (fun b hb h1 h2 => (sm.co b hb).trans (r3 b h1 h2)) hap
  · rw [hpl j (by omega)]; exact C.out j (by omega)
  · by_cases e : j = k
    · subst e; simp only [if_true]; exact hO
    · simp only [if_neg e]; exact (C'.ok j (by omega)).keep C'.desk.lay sm
  · by_cases e : j = k
    · subst e; simp only [if_true]; exact hj
    · simp only [if_neg e]; exact C.num j (by omega)
  · by_cases e : j = k
    · subst e; simp only [if_true]; exact hst
    · simp only [if_neg e]
      have hn := C.num j (by omega)
      refine (C'.st j (by omega)).keep (C'.ok j (by omega)) C'.desk.lay (hpl _ (by omega)) sm fun b hb hc => ks.block b hb fun z => ?_
      rcases hc with hc | hc <;> rw [hc] at z <;> rcases z with z | z <;> first | (have := Col.ag.inj z; omega) | cases z
end
end Go.Proofs.Ytnbibpmhmffmpaa

namespace Go.Proofs.Ytnbibpmhmffmpaa
open Go.ChangeShapes Go.WideShapes Go.ChangeAt Go.RowKit

theorem bcell {W w1 : World} (hb : Below W.heap.size W w1) : (∀ b o, b < W.heap.size → w1.cell? ⟨b, o, none⟩ = W.cell? ⟨b, o, none⟩) ∧ (∀ b o, b < W.heap.size → w1.frozen? ⟨b, o, none⟩ = W.frozen? ⟨b, o, none⟩) :=
  ⟨fun b o h => hb.cell (p := ⟨b, o, none⟩) h, fun b o h => hb.frozen (p := ⟨b, o, none⟩) h⟩

theorem below_draws {B : Nat} {w w' : World} (h : Below B w w') (n : Nat) : Below B w (w'.drewN n) := ⟨h.os, h.tape, h.output, h.size, h.block⟩

def typesRowed (P : Program) (ts : List TypeId) : Bool := ts.all fun t => P.readableRec t && decide (t < P.types.size)

theorem trodAll_below {H : Type} {enc : TypeId × Value → H} {P : Program} (hl : laidOutB P = true) {W W' : World} (hb : Below W.heap.size W W') :
    ∀ {ts : List TypeId} {vs : List Value} {ds : List (DataW H)} {ps : List MemPlace}, typesRowed P ts = true → DataW.TrodAll enc P W 0 (fun _ => true) true ts vs ds ps → (∀ x ∈ ps, x.block < W.heap.size) →
      DataW.TrodAll enc P W' 0 (fun b => decide (b < W.heap.size)) true ts vs ds ps
  | [], vs, ds, ps, _, h, _ => by
    obtain ⟨rfl, rfl, rfl⟩ := trodAll_nil h
    exact rfl
  | t :: ts, vs, ds, ps, hr, h, hlt => by
    obtain ⟨v, vs1, d, ds1, a, b, rfl, rfl, rfl, h1, h2⟩ := trodAll_cons h
    simp only [typesRowed, List.all_cons, Bool.and_eq_true, decide_eq_true_eq] at hr
    exact ⟨a, b, Below.trod hl hr.1.1 hr.1.2 h1 hb (fun x hx => hlt x (by simp [hx])), trodAll_below hl hb hr.2 h2 (fun x hx => hlt x (by simp [hx])), rfl⟩

/-- A whole row is stored into a block of the call's own. -/
theorem below_setRow {B g : Nat} {w0 w : World} (h : Below B w0 w) (hB : B ≤ g) (cs : Array Value) : Below B w0 (w.setRow g cs) :=
  ⟨h.os, h.tape, h.output, by rw [size_setRow]; exact h.size, fun k hk => (setRow_other w g k cs (by omega)).trans (h.block k hk)⟩

/-- Two results, the first a struct that lies in a block. -/
theorem results_row_tmp {P : Program} {fn : Func} {p u : Tmp} {ty : TypeId} (h : fn.results = #[.cell p ty, .tmp u]) (tmps : Array Value) (w : World) (g : Nat) (t : TypeId) (cs : Array Value) (fr : Nat × Nat) (d : TypeDesc)
    (hp : tmps.getD p undef = .pointer (some ⟨g, 0, none⟩)) (hg : w.heap[g]? = some (.cells cs t fr))
    (hu : P.underlying ty = some d) (hd : (match d with | .struct _ | .array _ _ => true | _ => false) = true) (hi : (P.info? ty).map (·.size) = some cs.size) :
    (results fn tmps).run P w = .ok (.tuple #[.agg cs, tmps.getD u undef]) w := by
  rw [results_cell_tmp h, hp]
  simp [asAddr, run_loadVar_row w g t ty cs fr d hg hu hd hi, Result.andThen]

theorem bodyPost_row_tmp {P : Program} {fn : Func} {R : Ending → World → Prop} {a : Act} {w : World} {p u : Tmp} {ty : TypeId} (h : fn.results = #[.cell p ty, .tmp u]) (g : Nat) (t : TypeId) (cs : Array Value) (fr : Nat × Nat) (d : TypeDesc) (v : Value)
    (hp : a.tmps.getD p undef = .pointer (some ⟨g, 0, none⟩)) (hv : a.tmps.getD u undef = v) (hdef : a.defers = []) (hg : w.heap[g]? = some (.cells cs t fr))
    (hu : P.underlying ty = some d) (hd : (match d with | .struct _ | .array _ _ => true | _ => false) = true) (hi : (P.info? ty).map (·.size) = some cs.size)
    (hR : R (.returned (.tuple #[.agg cs, v])) w) : bodyPost P fn R .ret a w := by
  subst hv
  exact bodyPost_ret (results_row_tmp h a.tmps w g t cs fr d hp hg hu hd hi) hdef hR

/-- A block below B holds what it held. -/
theorem below_row {B : Nat} {w w' : World} (h : Below B w w') {g : Nat} (hg : g < B) {o : Obj} (ho : w.heap[g]? = some o) : w'.heap[g]? = some o := (h.block g hg).trans ho

end Go.Proofs.Ytnbibpmhmffmpaa

namespace Go.Proofs.Ytnbibpmhmffmpaa
set_option linter.unusedVariables false
set_option linter.unusedSimpArgs false
open Go

def bitI : Bool → Int | true => 1 | false => 0
theorem bitI_le (b : Bool) : 0 ≤ bitI b ∧ bitI b ≤ 1 := by cases b <;> simp [bitI]

theorem or_put (x p q : Int) (n : Nat) (hn : n ≤ 18) (hq : q = 2 ^ n) (h0 : 0 ≤ x) (h1 : x < q) (hp : 0 ≤ p) (hp2 : p ≤ 255) :
    bits .or .u64 x (IntKind.u64.wrap (p * 2 ^ n)) = x + p * q := by
  subst hq
  obtain ⟨a, rfl⟩ := Int.eq_ofNat_of_zero_le h0
  obtain ⟨b, rfl⟩ := Int.eq_ofNat_of_zero_le hp
  have e : ((b : Int) * 2 ^ n) = ((b * 2 ^ n : Nat) : Int) := by push_cast; rfl
  have hq : (2 : Nat) ^ n ≤ 2 ^ 18 := Nat.pow_le_pow_right (by omega) hn
  have ha : a < 2 ^ n := by exact_mod_cast h1
  have hb : b ≤ 255 := by omega
  have hbq : b * 2 ^ n ≤ 255 * 2 ^ 18 := Nat.mul_le_mul hb hq
  rw [e, IntKind.wrap_u64, Int.emod_eq_of_lt (by omega) (by omega)]
  rw [u64_or_nat _ _ (by omega) (by omega), Nat.or_comm, nat_join n _ _ (by simp) ha]
  push_cast; omega

theorem and_part (x q d : Int) (f n : Nat) (hn : n ≤ 8) (hq : q = 2 ^ n) (hd : d = 2 ^ f) (h0 : 0 ≤ x) (h1 : x < 18446744073709551616) :
    bits .and .u64 (x / 2 ^ f) (IntKind.u64.wrap (IntKind.u64.wrap (2 ^ n) - 1)) = x / d % q := by
  subst hq hd
  obtain ⟨a, rfl⟩ := Int.eq_ofNat_of_zero_le h0
  have e : ((a : Int) / 2 ^ f) = ((a / 2 ^ f : Nat) : Int) := by push_cast; rfl
  have hq : (2 : Nat) ^ n ≤ 2 ^ 8 := Nat.pow_le_pow_right (by omega) hn
  have hq0 : 0 < (2 : Nat) ^ n := Nat.two_pow_pos n
  have e2 : (2 : Int) ^ n = ((2 ^ n : Nat) : Int) := by push_cast; rfl
  have hd : a / 2 ^ f ≤ a := Nat.div_le_self _ _
  rw [e, e2, IntKind.wrap_u64, IntKind.wrap_u64, Int.emod_eq_of_lt (a := ((2 ^ n : Nat) : Int)) (by omega) (by omega), Int.emod_eq_of_lt (by omega) (by omega)]
  have e3 : ((2 ^ n : Nat) : Int) - 1 = ((2 ^ n - 1 : Nat) : Int) := by omega
  rw [e3, u64_and_nat _ _ (by omega) (by omega), Nat.and_two_pow_sub_one_eq_mod]
  push_cast; rfl

theorem part_u8 (x q : Int) (n : Nat) (hn : n ≤ 8) (hq : q = 2 ^ n) : x % q % 256 = x % q := by
  have h1 : (2 : Int) ^ n ≤ 2 ^ 8 := by exact_mod_cast Nat.pow_le_pow_right (n := 2) (by omega) hn
  have h3 : (0 : Int) < 2 ^ n := by exact_mod_cast Nat.two_pow_pos _
  have := Int.emod_lt_of_pos x (b := q) (by omega)
  have := Int.emod_nonneg x (b := q) (by omega)
  omega

/-- May a header be? -/
def mayB (k c o r s : Int) (g m : Bool) : Bool :=
  decide (k ≤ 3 ∧ c ≤ 1 ∧ o ≤ 63 ∧ s ≤ 95 ∧ r ≤ s ∧ (k = 2 → c = 0 ∧ g = false) ∧ (k = 3 → m = false) ∧ (k ≤ 1 → c = 0 ∧ s = 0 ∧ r = 0 ∧ g = false ∧ m = false))
/-- Its word. -/
def wordI (k c o r s : Int) (g m : Bool) : Int := k + c * 4 + bitI g * 8 + bitI m * 16 + o * 32 + r * 2048 + s * 262144
def heqB (k c o r s k' c' o' r' s' : Int) (g m g' m' : Bool) : Bool := decide (k = k' ∧ c = c' ∧ g = g' ∧ m = m' ∧ o = o' ∧ r = r' ∧ s = s')

theorem mayB_iff {k c o r s : Int} {g m : Bool} : mayB k c o r s g m = true ↔ (k ≤ 3 ∧ c ≤ 1 ∧ o ≤ 63 ∧ s ≤ 95 ∧ r ≤ s ∧ (k = 2 → c = 0 ∧ g = false) ∧ (k = 3 → m = false) ∧ (k ≤ 1 → c = 0 ∧ s = 0 ∧ r = 0 ∧ g = false ∧ m = false)) := by
  simp only [mayB, decide_eq_true_eq]
theorem mayB_false {k c o r s : Int} {g m : Bool} (h : ¬ (k ≤ 3 ∧ c ≤ 1 ∧ o ≤ 63 ∧ s ≤ 95 ∧ r ≤ s)) : mayB k c o r s g m = false := by
  simp only [mayB, decide_eq_false_iff_not]; intro h'; exact h ⟨h'.1, h'.2.1, h'.2.2.1, h'.2.2.2.1, h'.2.2.2.2.1⟩

/-- The header of a word's bits. -/
def takeB (x : Int) : Bool := decide (x < 33554432) && mayB (x % 4) (x / 4 % 2) (x / 32 % 64) (x / 2048 % 128) (x / 262144 % 128) (x / 8 % 2 == 1) (x / 16 % 2 == 1)

theorem bitI_beq (x : Int) : bitI (x % 2 == 1) = x % 2 := by
  by_cases h : x % 2 = 1
  · simp [h, bitI]
  · have : x % 2 = 0 := by omega
    simp [this, bitI]
theorem word_of_parts (x : Int) : wordI (x % 4) (x / 4 % 2) (x / 32 % 64) (x / 2048 % 128) (x / 262144 % 128) (x / 8 % 2 == 1) (x / 16 % 2 == 1) = x % 33554432 := by
  simp only [wordI, bitI_beq]; omega
theorem takeB_word (x : Int) (h0 : 0 ≤ x) (h : takeB x = true) : wordI (x % 4) (x / 4 % 2) (x / 32 % 64) (x / 2048 % 128) (x / 262144 % 128) (x / 8 % 2 == 1) (x / 16 % 2 == 1) = x := by
  simp only [takeB, Bool.and_eq_true, decide_eq_true_eq] at h
  rw [word_of_parts x]; omega
theorem bitI_one (b : Bool) : (bitI b == 1) = b := by cases b <;> simp [bitI]
theorem word_lt (k c o r s : Int) (g m : Bool) (hk : 0 ≤ k) (hc : 0 ≤ c) (ho : 0 ≤ o) (hr : 0 ≤ r) (hs : 0 ≤ s) (h : mayB k c o r s g m = true) : 0 ≤ wordI k c o r s g m ∧ wordI k c o r s g m < 33554432 := by
  have h' := mayB_iff.1 h
  have h1 := bitI_le g
  have h2 := bitI_le m
  unfold wordI
  omega
theorem parts_of_word (k c o r s : Int) (g m : Bool) (hk : 0 ≤ k) (hc : 0 ≤ c) (ho : 0 ≤ o) (hr : 0 ≤ r) (hs : 0 ≤ s) (h : mayB k c o r s g m = true) :
    wordI k c o r s g m % 4 = k ∧ wordI k c o r s g m / 4 % 2 = c ∧ wordI k c o r s g m / 32 % 64 = o ∧ wordI k c o r s g m / 2048 % 128 = r ∧ wordI k c o r s g m / 262144 % 128 = s ∧
      (wordI k c o r s g m / 8 % 2 == 1) = g ∧ (wordI k c o r s g m / 16 % 2 == 1) = m := by
  have h' := mayB_iff.1 h
  have h1 := bitI_le g
  have h2 := bitI_le m
  have e1 : wordI k c o r s g m / 8 % 2 = bitI g := by unfold wordI; omega
  have e2 : wordI k c o r s g m / 16 % 2 = bitI m := by unfold wordI; omega
  refine ⟨by unfold wordI; omega, by unfold wordI; omega, by unfold wordI; omega, by unfold wordI; omega, by unfold wordI; omega, by rw [e1, bitI_one], by rw [e2, bitI_one]⟩
theorem takeB_of_word (k c o r s : Int) (g m : Bool) (hk : 0 ≤ k) (hc : 0 ≤ c) (ho : 0 ≤ o) (hr : 0 ≤ r) (hs : 0 ≤ s) (h : mayB k c o r s g m = true) : takeB (wordI k c o r s g m) = true := by
  obtain ⟨e1, e2, e3, e4, e5, e6, e7⟩ := parts_of_word k c o r s g m hk hc ho hr hs h
  have := word_lt k c o r s g m hk hc ho hr hs h
  simp only [takeB, e1, e2, e3, e4, e5, e6, e7, h, Bool.and_true, decide_eq_true_eq]
  omega
theorem heq_listed (c o r s : Int) (g m : Bool) (h1 : c ≤ 1) (h2 : o < 64) (h3 : s ≤ 95) (h4 : r ≤ s) : heqB 1 c o r s 1 0 o 0 0 g m false false = mayB 1 c o r s g m := by
  rw [Bool.eq_iff_iff, mayB_iff]; simp only [heqB, decide_eq_true_eq]
  cases g <;> cases m <;> first | omega | (simp; done) | (simp; omega)
theorem heq_local (c o r s : Int) (g m : Bool) (h1 : c ≤ 1) (h2 : o < 64) (h3 : s ≤ 95) (h4 : r ≤ s) : heqB 2 c o r s 2 0 o r s g m false m = mayB 2 c o r s g m := by
  rw [Bool.eq_iff_iff, mayB_iff]; simp only [heqB, decide_eq_true_eq]
  cases g <;> cases m <;> first | omega | (simp; done) | (simp; omega)
theorem heq_global (c o r s : Int) (g m : Bool) (h1 : c ≤ 1) (h2 : o < 64) (h3 : s ≤ 95) (h4 : r ≤ s) : heqB 3 c o r s 3 c o r s g m g false = mayB 3 c o r s g m := by
  rw [Bool.eq_iff_iff, mayB_iff]; simp only [heqB, decide_eq_true_eq]
  cases g <;> cases m <;> first | omega | (simp; done) | (simp; omega)
theorem heq_none (k c o r s : Int) (g m : Bool) (hk : 0 ≤ k) (h1 : c ≤ 1) (h2 : o < 64) (h3 : s ≤ 95) (h4 : r ≤ s) (k1 : k ≠ 1) (k2 : k ≠ 2) (k3 : k ≠ 3) : heqB k c o r s 0 0 o 0 0 g m false false = mayB k c o r s g m := by
  rw [Bool.eq_iff_iff, mayB_iff]; simp only [heqB, decide_eq_true_eq]
  cases g <;> cases m <;> first | omega | (simp; done) | (simp; omega)

end Go.Proofs.Ytnbibpmhmffmpaa

namespace Go.Proofs.Ytnbibpmhmffmpaa
set_option linter.unusedVariables false
set_option linter.unusedSimpArgs false
open Go.RowKit

theorem eq28 (k c o r s k' c' o' r' s' : Int) (g m g' m' : Bool) (w : World) :
    (binOp .eql 59 (.agg #[.int .u8 k, .int .u8 c, .bool g, .bool m, .int .u8 o, .int .u8 r, .int .u8 s]) (.agg #[.int .u8 k', .int .u8 c', .bool g', .bool m', .int .u8 o', .int .u8 r', .int .u8 s'])).run Try.prog w = .ok (.bool (heqB k c o r s k' c' o' r' s' g m g' m')) w := by
  by_cases h1 : k = k'
  case neg => simp [go_sem, heqB, *]
  by_cases h2 : c = c'
  case neg => simp [go_sem, heqB, *]
  by_cases h3 : g = g'
  case neg => simp [go_sem, heqB, *]
  by_cases h4 : m = m'
  case neg => simp [go_sem, heqB, *]
  by_cases h5 : o = o'
  case neg => simp [go_sem, heqB, *]
  by_cases h6 : r = r'
  case neg => simp [go_sem, heqB, *]
  by_cases h7 : s = s'
  case neg => simp [go_sem, heqB, *]
  simp [go_sem, heqB, *]

theorem put_any (p t x q y : Int) (b : Nat) (w : World) (hp : 0 ≤ p) (hp2 : p ≤ 255) (ht : 0 ≤ t) (ht2 : t ≤ 18) (hq : q = 2 ^ t.toNat) (hx : 0 ≤ x) (hxq : x < q) (hy : x + p * q = y) (hc : w.cell? ⟨b, 0, none⟩ = some (.int .u64 x)) (hf : w.frozen? ⟨b, 0, none⟩ = false) :
    Calls Try.prog 82 #[.int .u8 p, .int .i64 t, .pointer (some ⟨b, 0, none⟩)] w fun e w' => e = .returned (.tuple #[]) ∧ (w.setCell ⟨b, 0, none⟩ (.int .u64 y)).drew = w' := by
  have hh := or_put x p q t.toNat (by omega) hq hx hxq hp hp2
  rw [hy] at hh
  clear hq hy
  go_enter Try.func82, Try.ntmps82
  go_wp2
  go_region
  go_end0
  exact ⟨rfl, rfl⟩

theorem part_any (f t x q d : Int) (b : Nat) (w : World) (h0 : 0 ≤ f) (h1 : f < t) (h2 : t - f ≤ 8) (ht2 : t ≤ 25) (hq : q = 2 ^ (t - f).toNat) (hd : d = 2 ^ f.toNat) (hx : 0 ≤ x) (hx2 : x < 18446744073709551616) (hc : w.cell? ⟨b, 0, none⟩ = some (.int .u64 x)) :
    Calls Try.prog 94 #[.int .i64 f, .int .i64 t, .pointer (some ⟨b, 0, none⟩)] w fun e w' => e = .returned (.int .u8 (x / d % q)) ∧ w.drew = w' := by
  have hh := and_part x q d f.toNat (t - f).toNat (by omega) hq hd hx hx2
  have hm := part_u8 (x / d) q (t - f).toNat (by omega) hq
  clear hq hd hx2
  go_enter Try.func94, Try.ntmps94
  go_wp2
  go_region
  go_wp2
  go_ret
  exact ⟨rfl, rfl⟩

theorem bit_any (b : Bool) (w : World) :
    Calls Try.prog 83 #[.bool b] w fun e w' => e = .returned (.int .u8 (bitI b)) ∧ w = w' := by
  cases b <;> (go_enter Try.func83, Try.ntmps83; go_wp2; go_ret; exact ⟨rfl, rfl⟩)

theorem proper_local (c o r s : Int) (g m : Bool) (w : World) :
    Calls Try.prog 81 #[.agg #[.int .u8 2, .int .u8 c, .bool g, .bool m, .int .u8 o, .int .u8 r, .int .u8 s]] w fun e w' => e = .returned (.agg #[.int .u8 2, .int .u8 0, .bool false, .bool m, .int .u8 o, .int .u8 r, .int .u8 s]) ∧ Below w.heap.size w w' := by
  go_enter Try.func81, Try.ntmps81
  go_wp2
  go_returns
  exact ⟨rfl, by go_grown⟩

theorem proper_global (c o r s : Int) (g m : Bool) (w : World) :
    Calls Try.prog 81 #[.agg #[.int .u8 3, .int .u8 c, .bool g, .bool m, .int .u8 o, .int .u8 r, .int .u8 s]] w fun e w' => e = .returned (.agg #[.int .u8 3, .int .u8 c, .bool g, .bool false, .int .u8 o, .int .u8 r, .int .u8 s]) ∧ Below w.heap.size w w' := by
  go_enter Try.func81, Try.ntmps81
  go_wp2
  go_returns
  exact ⟨rfl, by go_grown⟩

theorem proper_listed (c o r s : Int) (g m : Bool) (w : World) :
    Calls Try.prog 81 #[.agg #[.int .u8 1, .int .u8 c, .bool g, .bool m, .int .u8 o, .int .u8 r, .int .u8 s]] w fun e w' => e = .returned (.agg #[.int .u8 1, .int .u8 0, .bool false, .bool false, .int .u8 o, .int .u8 0, .int .u8 0]) ∧ Below w.heap.size w w' := by
  go_enter Try.func81, Try.ntmps81
  go_wp2
  go_returns
  exact ⟨rfl, by go_grown⟩

theorem proper_none (k c o r s : Int) (g m : Bool) (w : World) (h1 : (k == 1) = false) (h2 : (k == 2) = false) (h3 : (k == 3) = false) :
    Calls Try.prog 81 #[.agg #[.int .u8 k, .int .u8 c, .bool g, .bool m, .int .u8 o, .int .u8 r, .int .u8 s]] w fun e w' => e = .returned (.agg #[.int .u8 0, .int .u8 0, .bool false, .bool false, .int .u8 o, .int .u8 0, .int .u8 0]) ∧ Below w.heap.size w w' := by
  go_enter Try.func81, Try.ntmps81
  go_wp2
  go_returns
  exact ⟨rfl, by go_grown⟩

set_option maxHeartbeats 1000000 in
theorem may_core (k c o r s k' c' o' r' s' : Int) (g m g' m' : Bool) (w : World) (h1 : c ≤ 1) (h2 : o < 64) (h3 : s ≤ 95) (h4 : r ≤ s)
    (hprop : Hid (∀ w, Calls Try.prog 81 #[.agg #[.int .u8 k, .int .u8 c, .bool g, .bool m, .int .u8 o, .int .u8 r, .int .u8 s]] w fun e w' => e = .returned (.agg #[.int .u8 k', .int .u8 c', .bool g', .bool m', .int .u8 o', .int .u8 r', .int .u8 s']) ∧ Below w.heap.size w w')) :
    Calls Try.prog 51 #[.agg #[.int .u8 k, .int .u8 c, .bool g, .bool m, .int .u8 o, .int .u8 r, .int .u8 s]] w fun e w' => e = .returned (.bool (heqB k c o r s k' c' o' r' s' g m g' m')) ∧ Below w.heap.size w w' := by
  have heq := eq28 k c o r s k' c' o' r' s' g m g' m'
  go_enter Try.func51, Try.ntmps51
  go_wp2
  go_region_held3 (fun w' => w'.cell? ⟨w.heap.size, 0, none⟩ = some (.int .u8 k) ∧ w'.cell? ⟨w.heap.size, 1, none⟩ = some (.int .u8 c) ∧ w'.cell? ⟨w.heap.size, 2, none⟩ = some (.bool g) ∧ w'.cell? ⟨w.heap.size, 3, none⟩ = some (.bool m) ∧
      w'.cell? ⟨w.heap.size, 4, none⟩ = some (.int .u8 o) ∧ w'.cell? ⟨w.heap.size, 5, none⟩ = some (.int .u8 r) ∧ w'.cell? ⟨w.heap.size, 6, none⟩ = some (.int .u8 s) ∧ Below w.heap.size w w' ∧ w.heap.size < w'.heap.size)
    (first
      | exact ⟨by simp, by simp, by simp, by simp, by simp, by simp, by simp, by go_grown, by simp⟩
      | (obtain ⟨s0, s1, s2, s3, s4, s5, s6, s7, s8⟩ := ‹_ ∧ _›
         exact ⟨(hc _ _ s8).trans s0, (hc _ _ s8).trans s1, (hc _ _ s8).trans s2, (hc _ _ s8).trans s3, (hc _ _ s8).trans s4, (hc _ _ s8).trans s5, (hc _ _ s8).trans s6, s7.trans (hb.mono (Nat.le_of_lt s8)), Nat.lt_of_lt_of_le s8 hb.size⟩))
    (first | (go_at_call 81; refine (hprop.out _).mono ?_; rintro e w' ⟨rfl, hb⟩; obtain ⟨hc, hf⟩ := bcell hb))
  obtain ⟨_, _, _, _, _, _, _, bel, _⟩ := ‹_ ∧ _›
  clear hb hc hf
  go_wp2
  go_ret
  exact ⟨rfl, bel⟩

theorem may_short (k c o r s : Int) (g m : Bool) (w : World) (h : ¬ (c ≤ 1 ∧ o < 64 ∧ s ≤ 95 ∧ r ≤ s)) :
    Calls Try.prog 51 #[.agg #[.int .u8 k, .int .u8 c, .bool g, .bool m, .int .u8 o, .int .u8 r, .int .u8 s]] w fun e w' => e = .returned (.bool false) ∧ Below w.heap.size w w' := by
  by_cases h1 : c ≤ 1
  · by_cases h2 : o < 64
    · by_cases h3 : s ≤ 95
      · have h4 : ¬ r ≤ s := fun h4 => h ⟨h1, h2, h3, h4⟩
        have hd : decide (r ≤ s) = false := by simpa using h4
        clear h
        go_enter Try.func51, Try.ntmps51
        go_wp2
        go_quiet (fail)
        go_wp2
        go_ret
        exact ⟨rfl, below_draws (by go_grown) _⟩
      · have hd : decide (s ≤ 95) = false := by simpa using h3
        clear h
        go_enter Try.func51, Try.ntmps51
        go_wp2
        go_quiet (fail)
        go_wp2
        go_ret
        exact ⟨rfl, below_draws (by go_grown) _⟩
    · have hd : decide (o < 64) = false := by simpa using h2
      clear h
      go_enter Try.func51, Try.ntmps51
      go_wp2
      go_quiet (fail)
      go_wp2
      go_ret
      exact ⟨rfl, below_draws (by go_grown) _⟩
  · have hd : decide (c ≤ 1) = false := by simpa using h1
    clear h
    go_enter Try.func51, Try.ntmps51
    go_wp2
    go_quiet (fail)
    go_wp2
    go_ret
    exact ⟨rfl, below_draws (by go_grown) _⟩

theorem may_any (k c o r s : Int) (g m : Bool) (w : World) (hk : 0 ≤ k) (hr : 0 ≤ r) :
    Calls Try.prog 51 #[.agg #[.int .u8 k, .int .u8 c, .bool g, .bool m, .int .u8 o, .int .u8 r, .int .u8 s]] w fun e w' => e = .returned (.bool (mayB k c o r s g m)) ∧ Below w.heap.size w w' := by
  by_cases h : c ≤ 1 ∧ o < 64 ∧ s ≤ 95 ∧ r ≤ s
  · obtain ⟨h1, h2, h3, h4⟩ := h
    by_cases k1 : k = 1
    · subst k1
      refine (may_core 1 c o r s 1 0 o 0 0 g m false false w h1 h2 h3 h4 (fun w => proper_listed c o r s g m w)).mono fun e w' ⟨he, hb⟩ => ⟨?_, hb⟩
      rw [he, heq_listed c o r s g m h1 h2 h3 h4]
    by_cases k2 : k = 2
    · subst k2
      refine (may_core 2 c o r s 2 0 o r s g m false m w h1 h2 h3 h4 (fun w => proper_local c o r s g m w)).mono fun e w' ⟨he, hb⟩ => ⟨?_, hb⟩
      rw [he, heq_local c o r s g m h1 h2 h3 h4]
    by_cases k3 : k = 3
    · subst k3
      refine (may_core 3 c o r s 3 c o r s g m g false w h1 h2 h3 h4 (fun w => proper_global c o r s g m w)).mono fun e w' ⟨he, hb⟩ => ⟨?_, hb⟩
      rw [he, heq_global c o r s g m h1 h2 h3 h4]
    refine (may_core k c o r s 0 0 o 0 0 g m false false w h1 h2 h3 h4 (fun w => proper_none k c o r s g m w (by simpa using k1) (by simpa using k2) (by simpa using k3))).mono fun e w' ⟨he, hb⟩ => ⟨?_, hb⟩
    rw [he, heq_none k c o r s g m hk h1 h2 h3 h4 k1 k2 k3]
  · refine (may_short k c o r s g m w h).mono fun e w' ⟨he, hb⟩ => ⟨?_, hb⟩
    rw [he, mayB_false (by omega)]

end Go.Proofs.Ytnbibpmhmffmpaa

namespace Go.Proofs.Ytnbibpmhmffmpaa
set_option linter.unusedVariables false
set_option linter.unusedSimpArgs false
open Go.RowKit

set_option maxHeartbeats 1000000 in
theorem pack_any (k c o r s : Int) (g m : Bool) (w : World) (hk : 0 ≤ k) (hc : 0 ≤ c) (ho : 0 ≤ o) (hr : 0 ≤ r) (hs : 0 ≤ s) (h : mayB k c o r s g m = true) :
    Calls Try.prog 52 #[.agg #[.int .u8 k, .int .u8 c, .bool g, .bool m, .int .u8 o, .int .u8 r, .int .u8 s]] w fun e w' => e = .returned (.int .u64 (wordI k c o r s g m)) ∧ Below w.heap.size w w' := by
  obtain ⟨b1, b2, b3, b4, b5, _⟩ := mayB_iff.1 h
  have g1 := bitI_le g
  have g2 := bitI_le m
  have hw : wordI k c o r s g m = k + c * 4 + bitI g * 8 + bitI m * 16 + o * 32 + r * 2048 + s * 262144 := rfl
  clear h
  go_enter Try.func52, Try.ntmps52
  go_wp2_with fail
  refine (put_any k 0 0 1 k (w.heap.size + 1) _ (by omega) (by omega) (by omega) (by omega) (by decide) (by omega) (by omega) (by omega) (by simp) (by simp)).mono ?_; rintro e w' ⟨rfl, rfl⟩
  go_wp2_with fail
  refine (put_any c 2 k 4 (k + c * 4) (w.heap.size + 1) _ (by omega) (by omega) (by omega) (by omega) (by decide) (by omega) (by omega) (by omega) (by simp) (by simp)).mono ?_; rintro e w' ⟨rfl, rfl⟩
  go_wp2_with fail
  refine (bit_any g _).mono ?_; rintro e w' ⟨rfl, rfl⟩
  go_wp2_with fail
  refine (put_any (bitI g) 3 (k + c * 4) 8 (k + c * 4 + bitI g * 8) (w.heap.size + 1) _ (by omega) (by omega) (by omega) (by omega) (by decide) (by omega) (by omega) (by omega) (by simp) (by simp)).mono ?_; rintro e w' ⟨rfl, rfl⟩
  go_wp2_with fail
  refine (bit_any m _).mono ?_; rintro e w' ⟨rfl, rfl⟩
  go_wp2_with fail
  refine (put_any (bitI m) 4 (k + c * 4 + bitI g * 8) 16 (k + c * 4 + bitI g * 8 + bitI m * 16) (w.heap.size + 1) _ (by omega) (by omega) (by omega) (by omega) (by decide) (by omega) (by omega) (by omega) (by simp) (by simp)).mono ?_; rintro e w' ⟨rfl, rfl⟩
  go_wp2_with fail
  refine (put_any o 5 (k + c * 4 + bitI g * 8 + bitI m * 16) 32 (k + c * 4 + bitI g * 8 + bitI m * 16 + o * 32) (w.heap.size + 1) _ (by omega) (by omega) (by omega) (by omega) (by decide) (by omega) (by omega) (by omega) (by simp) (by simp)).mono ?_; rintro e w' ⟨rfl, rfl⟩
  go_wp2_with fail
  refine (put_any r 11 (k + c * 4 + bitI g * 8 + bitI m * 16 + o * 32) 2048 (k + c * 4 + bitI g * 8 + bitI m * 16 + o * 32 + r * 2048) (w.heap.size + 1) _ (by omega) (by omega) (by omega) (by omega) (by decide) (by omega) (by omega) (by omega) (by simp) (by simp)).mono ?_; rintro e w' ⟨rfl, rfl⟩
  go_wp2_with fail
  refine (put_any s 18 (k + c * 4 + bitI g * 8 + bitI m * 16 + o * 32 + r * 2048) 262144 (wordI k c o r s g m) (w.heap.size + 1) _ (by omega) (by omega) (by omega) (by omega) (by decide) (by omega) (by omega) (by omega) (by simp) (by simp)).mono ?_; rintro e w' ⟨rfl, rfl⟩
  clear hw
  go_wp2
  go_ret
  exact ⟨rfl, by go_grown⟩

end Go.Proofs.Ytnbibpmhmffmpaa
