/- In company: an operation that reads nothing, that looks at a cell, that stores into one. Of whatever program. Conditions: none. In company: memory that is made; what is known of the cells that the waiting ones look at, carried on. Of whatever program. Conditions: none. Conditions: as each theorem states them. -/
import Derived.Test.YtodcnhodbeakiaaLfS
import Derived.Deep.RegionHeld
namespace Go.Proofs.Ytodcnhodbeakiaa
set_option linter.unusedVariables false
set_option linter.unusedSimpArgs false
open Go.Conc

section
variable {P : Program} {Post : Value → World → Prop} {pl : Nat → Option Place} {n h : Nat} {cs : List Frame} {w w' : World}
variable {b : Frame} {a : Act} {k : List Item} {ops : Array Oper} {i : Nat} {rest : List Nat} {o : Oper} {v : Value}

theorem Win.pureOp (hb : b.kind = .normal ∨ b.kind = .deferred) (ho : ops[i]? = some o) (hwt : Region.wanted o (yielded ops a.tmps) = true) (hr : ∀ w, (execOp a.eval o).runT P w #[] = (.ok (.value v) w, #[]))
    (H : Win P Post pl n h (gor (b.at (a.put o.dst v) (.inRegion ops rest :: k)) cs) w) : Win P Post pl n h (gor (b.at a (.inRegion ops (i :: rest) :: k)) cs) w :=
  Win.op hb ho hwt (fun d => ⟨#[], hr _, fun e he => by simp at he⟩) H
theorem Win.lookOp {ad : Addr} {x : Value} (hb : b.kind = .normal ∨ b.kind = .deferred) (ho : ops[i]? = some o) (hwt : Region.wanted o (yielded ops a.tmps) = true) (hc : w.cell? ad = some x) (hr : ∀ w, w.cell? ad = some x → (execOp a.eval o).runT P w #[] = (.ok (.value v) w, #[⟨.cell ad, false, false⟩]))
    (H : Win P Post pl n h (gor (b.at (a.put o.dst v) (.inRegion ops rest :: k)) cs) w) : Win P Post pl n h (gor (b.at a (.inRegion ops (i :: rest) :: k)) cs) w :=
  Win.op hb ho hwt (fun d => ⟨#[⟨.cell ad, false, false⟩], hr _ hc, fun e he => by obtain rfl : e = ⟨.cell ad, false, false⟩ := (by simpa using he); exact ⟨rfl, fun m => by simp⟩⟩) H

/-- Who does not act looks at this cell not, and waits not at this block. -/
structure Free (pl : Nat → Option Place) (ad : Addr) : Prop where
  cell : ∀ i s v, pl i = some s → ¬ s.still ad v
  chan : ∀ i s c, pl i = some s → s.has c → c ≠ ad.block
theorem cell_setCell_ne {w : World} {ad c : Addr} {x v : Value} (hv : w.cell? c = some v) (hne : c ≠ ad) : (w.setCell ad x).cell? c = some v := by
  by_cases hbl : ad.block = c.block
  · unfold World.cell? at hv ⊢
    have hg : (w.setCell ad x).heap[c.block]? = (w.heap[c.block]?).map fun
        | .cells cc elem frozen => .cells (if ad.spot.isSome then cc else cc.setIfInBounds ad.off x) elem frozen
        | o => o := by simp [World.setCell, Array.getElem?_modify, hbl]; rfl
    rw [hg]
    cases ho : w.heap[c.block]? with
    | none => rw [ho] at hv; cases hv
    | some ob =>
      rw [ho] at hv
      cases ob <;> simp only [Option.map_some] at hv ⊢ <;> first | (cases hv; done) | skip
      by_cases hs : c.spot.isSome = true
      · rw [if_pos hs] at hv; cases hv
      · rw [if_neg hs] at hv ⊢
        by_cases ha : ad.spot.isSome = true
        · rw [if_pos ha]; exact hv
        · rw [if_neg ha, Array.getElem?_setIfInBounds_ne]
          · exact hv
          · intro e
            apply hne
            obtain ⟨b1, o1, s1⟩ := c
            obtain ⟨b2, o2, s2⟩ := ad
            cases s1 <;> cases s2 <;> simp_all
  · rw [World.cell?_setCell_far w ad c x hbl]; exact hv
theorem Free.kept {ad : Addr} {x : Value} (F : Free pl ad) (w : World) : Kept pl w (w.setCell ad x) := by
  refine ⟨fun i s c hi hc => ?_, fun i s hi hs c v hcv => cell_setCell_ne (hs c v hcv) fun e => F.cell i s v hi (e ▸ hcv)⟩
  have := F.chan i s c hi hc
  simp [World.setCell, Array.getElem?_modify, Ne.symm this]
theorem store_ok {ad : Addr} {x u : Value} {m : Mode} (h1 : ∀ l, x ≠ .agg l) (h2 : ∀ l, x ≠ .tuple l) (hc : w.cell? ad = some u) (hf : w.frozen? ad = false) :
    (Go.store ad x m).run P w = .ok () (w.setCell ad x) ∧ (Go.store ad x m).events P w #[] = #[⟨.cell ad, true, m == .atomic⟩] := by
  refine ⟨?_, ?_⟩
  · rw [run_store_cell h1 h2, hc]; simp [hf]
  · have := runT_store_cell (P := P) (m := m) (es := #[]) h1 h2 hc hf
    rw [Sem.runT_eq] at this
    simpa using this
theorem Win.storeOp {ad : Addr} {x : Value} (hb : b.kind = .normal ∨ b.kind = .deferred) (ho : ops[i]? = some o) (hwt : Region.wanted o (yielded ops a.tmps) = true) (F : Free pl ad)
    (hr : ∀ d, (execOp a.eval o).runT P (w.at d) #[] = (.ok .skip ((w.at d).setCell ad x), #[⟨.cell ad, true, false⟩]))
    (H : Win P Post pl n h (gor (b.at (a.put o.dst undef) (.inRegion ops rest :: k)) cs) (w.setCell ad x)) : Win P Post pl n h (gor (b.at a (.inRegion ops (i :: rest) :: k)) cs) w :=
  Win.opS hb ho hwt fun d => by
    refine ⟨_, _, hr d, F.kept _, fun e he => ?_, H.at d⟩
    obtain rfl : e = ⟨.cell ad, true, false⟩ := (by simpa using he)
    refine ⟨fun y hy _ g c hl hp => ?_, by simp, by simp⟩
    simp [MemAct.ofEvent, MemAct.touch?] at hy
    subst hy
    obtain ⟨s, v, hs, hv⟩ := hp
    cases hl
    exact F.cell g s v hs hv
end
end Go.Proofs.Ytodcnhodbeakiaa

namespace Go.Proofs.Ytodcnhodbeakiaa
set_option linter.unusedVariables false
set_option linter.unusedSimpArgs false
open Go.Conc
open Go.ConcN (upd upd_ne upd_same)

section
variable {P : Program} {Post : Value → World → Prop} {pl : Nat → Option Place} {n h : Nat} {cs : List Frame} {w w' : World} {F : Nat → Option (Nat × Nat)}
variable {b : Frame} {a : Act} {k : List Item} {ops : Array Oper} {i : Nat} {rest : List Nat} {o : Oper} {v : Value}

/-- A call of a Go function enters it. -/
theorem invoke_enter (M : Mild P) {f : FuncId} {fn : Func} (hf : P.funcs[f]? = some fn) (hb : fn.body.isNone = false) (cap args : Array Value) (w : World) (es : Array Event) : (invoke (.fn (.func f) cap) args).runT P w es = (.ok (.enter f (args ++ cap)) w, es) := by
  have hg := M.goro f fn hf
  simp only [invoke, callFunc, program, Bind.bind, Sem.bind, Sem.runT, hf, hg, hb, if_false, Bool.false_eq_true, Pure.pure]
theorem call_enter (M : Mild P) {f : FuncId} {fn : Func} (hf : P.funcs[f]? = some fn) (hb : fn.body.isNone = false) {ρ : Operand → Value} (hρ : ρ (.func f) = .func (.func f) #[] #[]) {o : Oper} {c : Call} (ho : o.op = .call c) (hc : c.callee = .value (.func f))
    (w : World) (es : Array Event) {args : Array Value} (ha : c.args.map ρ = args) : (execOp ρ o).runT P w es = (.ok (.enter f args) w, es) := by
  unfold execOp
  rw [ho]
  simp only [resolve, hc, hρ, Deferred.ofValue, Bind.bind, Sem.bind, Pure.pure]
  have := invoke_enter M hf hb #[] (#[] ++ c.args.map ρ) w es
  rw [ha] at this
  simp only [Array.append_empty, Array.empty_append] at this
  rw [ha, Array.empty_append]
  exact this
theorem alloc_heap (w : World) (ob : Obj) (i : Nat) (hi : i < w.heap.size) : (w.alloc ob).heap[i]? = w.heap[i]? := by
  show (w.heap.push ob)[i]? = _
  rw [Array.getElem?_push, if_neg (by omega)]
theorem alloc_cell (w : World) (ob : Obj) {c : Addr} {x : Value} (hc : w.cell? c = some x) : (w.alloc ob).cell? c = some x := by
  have hlt : c.block < w.heap.size := by
    unfold World.cell? at hc
    cases hh : w.heap[c.block]? with
    | none => rw [hh] at hc; cases hc
    | some _ => exact (Array.getElem?_eq_some_iff.1 hh).1
  unfold World.cell? at hc ⊢
  rw [alloc_heap w ob _ hlt]; exact hc
theorem alloc_new (w : World) (ob : Obj) : (w.alloc ob).heap[w.heap.size]? = some ob := by
  show (w.heap.push ob)[w.heap.size]? = _
  simp
theorem alloc_box (w : World) (x : Value) (t : TypeId) (fz : Nat × Nat) : (w.alloc (.cells #[x] t fz)).cell? ⟨w.heap.size, 0, none⟩ = some x := by
  unfold World.cell?
  rw [alloc_new]
  rfl
theorem Lies.keptAlloc (L : Lies pl F w) (ob : Obj) : Kept pl w (w.alloc ob) := by
  refine ⟨fun i s c hi hc => ?_, fun i s hi hs c v hcv => alloc_cell w ob (hs c v hcv)⟩
  obtain ⟨_, _, _, _, _, _, hh⟩ := L.chans i s c hi hc
  exact alloc_heap w ob c (Array.getElem?_eq_some_iff.1 hh).1
theorem Lies.alloc (L : Lies pl F w) (ob : Obj) : Lies pl F (w.alloc ob) := by
  refine ⟨fun i r hr => ?_, fun i s c hi hc => ?_, L.still⟩
  · obtain ⟨c, t, hh⟩ := L.lies i r hr
    exact ⟨c, t, by rw [alloc_heap w ob i (Array.getElem?_eq_some_iff.1 hh).1]; exact hh⟩
  · obtain ⟨cap, buf, cl, sn, rc, tm, hh⟩ := L.chans i s c hi hc
    exact ⟨cap, buf, cl, sn, rc, tm, by rw [alloc_heap w ob c (Array.getElem?_eq_some_iff.1 hh).1]; exact hh⟩
theorem Lies.setCell (L : Lies pl F w) (ad : Addr) (x : Value) : Lies pl F (w.setCell ad x) := by
  refine ⟨fun i r hr => ?_, fun i s c hi hc => ?_, L.still⟩
  · obtain ⟨c, t, hh⟩ := L.lies i r hr
    by_cases e : ad.block = i
    · subst e; exact ⟨if ad.spot.isSome then c else c.setIfInBounds ad.off x, t, by simp [World.setCell, Array.getElem?_modify, hh]⟩
    · exact ⟨c, t, by simp [World.setCell, Array.getElem?_modify, e, hh]⟩
  · obtain ⟨cap, buf, cl, sn, rc, tm, hh⟩ := L.chans i s c hi hc
    by_cases e : ad.block = c
    · subst e; exact ⟨cap, buf, cl, sn, rc, tm, by simp [World.setCell, Array.getElem?_modify, hh]⟩
    · exact ⟨cap, buf, cl, sn, rc, tm, by simp [World.setCell, Array.getElem?_modify, e, hh]⟩
/-- Memory is made. -/
theorem Win.makeOp {ob : Obj} {es : Array Event} (L : Lies pl F w) (hb : b.kind = .normal ∨ b.kind = .deferred) (ho : ops[i]? = some o) (hwt : Region.wanted o (yielded ops a.tmps) = true)
    (hr : ∀ d, (execOp a.eval o).runT P (w.at d) #[] = (.ok (.value v) ((w.at d).alloc ob), es)) (hes : Reads es) (H : Win P Post pl n h (gor (b.at (a.put o.dst v) (.inRegion ops rest :: k)) cs) (w.alloc ob)) :
    Win P Post pl n h (gor (b.at a (.inRegion ops (i :: rest) :: k)) cs) w :=
  Win.opW hb ho hwt fun d => ⟨v, _, es, hr d, (L.at d).keptAlloc ob, fun e he => hes.calm e he, H.at d⟩

/-- A place more: its still cells lie within F too. -/
theorem Lies.put (L : Lies pl F w) (j : Nat) {s : Place} (hc : ∀ c, s.has c → ∃ cap buf cl sn rc tm, w.heap[c]? = some (.chan cap buf cl sn rc tm)) (hs : ∀ a v, s.still a v → ∃ lo hi, F a.block = some (lo, hi) ∧ lo ≤ a.off ∧ a.off < hi) : Lies (upd pl j (some s)) F w := by
  refine ⟨L.lies, fun i s' c hi hc' => ?_, fun i s' a v hi ha => ?_⟩
  · by_cases e : i = j
    · subst e; rw [upd_same] at hi; obtain rfl := Option.some.inj hi; exact hc c hc'
    · rw [upd_ne _ _ e] at hi; exact L.chans i s' c hi hc'
  · by_cases e : i = j
    · subst e; rw [upd_same] at hi; obtain rfl := Option.some.inj hi; exact hs a v ha
    · rw [upd_ne _ _ e] at hi; exact L.still i s' a v hi ha
theorem Lies.drop (L : Lies pl F w) (j : Nat) : Lies (upd pl j none) F w := by
  refine ⟨L.lies, fun i s' c hi hc' => ?_, fun i s' a v hi ha => ?_⟩
  · by_cases e : i = j
    · subst e; rw [upd_same] at hi; cases hi
    · rw [upd_ne _ _ e] at hi; exact L.chans i s' c hi hc'
  · by_cases e : i = j
    · subst e; rw [upd_same] at hi; cases hi
    · rw [upd_ne _ _ e] at hi; exact L.still i s' a v hi ha
/-- More blocks that may bear no store. -/
theorem Lies.more {F' : Nat → Option (Nat × Nat)} (L : Lies pl F w) (hF : ∀ i lo hi, F i = some (lo, hi) → ∃ lo' hi', F' i = some (lo', hi') ∧ lo' ≤ lo ∧ hi ≤ hi') (hl : ∀ i r, F' i = some r → ∃ c t, w.heap[i]? = some (.cells c t (0, 0))) : Lies pl F' w := by
  refine ⟨hl, L.chans, fun i s a v hi ha => ?_⟩
  obtain ⟨lo, hi', h1, h2, h3⟩ := L.still i s a v hi ha
  obtain ⟨lo', hi'', h4, h5, h6⟩ := hF _ _ _ h1
  exact ⟨lo', hi'', h4, by omega, by omega⟩
theorem Lies.setChan (L : Lies pl F w) {c cap sn rc : Nat} {buf : Array Value} {cl tm : Bool} (hc : w.heap[c]? = some (.chan cap buf cl sn rc tm)) (cap' : Nat) (buf' : Array Value) (cl' : Bool) (sn' rc' : Nat) (tm' : Bool) : Lies pl F (w.setChan c cap' buf' cl' sn' rc' tm') := by
  have hlt : c < w.heap.size := (Array.getElem?_eq_some_iff.1 hc).1
  refine ⟨fun i r hr => ?_, fun i s d hi hd => ?_, L.still⟩
  · obtain ⟨cc, t, hh⟩ := L.lies i r hr
    have e : c ≠ i := fun e => by rw [← e, hc] at hh; cases hh
    exact ⟨cc, t, by rw [heap_setChan_ne _ _ _ _ _ _ _ e]; exact hh⟩
  · obtain ⟨cap2, buf2, cl2, sn2, rc2, tm2, hh⟩ := L.chans i s d hi hd
    by_cases e : c = d
    · subst e; exact ⟨cap', buf', cl', sn', rc', tm', by simp [World.setChan, hlt]⟩
    · exact ⟨cap2, buf2, cl2, sn2, rc2, tm2, by rw [heap_setChan_ne _ _ _ _ _ _ _ e]; exact hh⟩
end
end Go.Proofs.Ytodcnhodbeakiaa
