/- The document's own list (demesneref07): Pop and Push. Conditions: as each theorem states them. -/
import Derived.Test.YthcblhombfggaaaLrB
import Derived.Laws.Tables
namespace Go.Proofs.Ythcblhombfggaaa
set_option linter.unusedVariables false
set_option linter.unusedSimpArgs false
open Go.RowKit

/-- Three results, the first a struct that lies in a block. -/
theorem results_cell_tmp2 {fn : Func} {p u v : Tmp} {ty : TypeId} (h : fn.results = #[.cell p ty, .tmp u, .tmp v]) (tmps : Array Value) (P : Program) (w : World) :
    (results fn tmps).run P w = ((asAddr (tmps.getD p undef)).run P w).andThen fun a w₁ => ((loadVar ty a).run P w₁).andThen fun x w₂ => .ok (.tuple #[x, tmps.getD u undef, tmps.getD v undef]) w₂ := by
  simp only [results, h]
  simp [Sem.run_bind, Result.andThen]
theorem results_row_tmp2 {P : Program} {fn : Func} {p u v : Tmp} {ty : TypeId} (h : fn.results = #[.cell p ty, .tmp u, .tmp v]) (tmps : Array Value) (w : World) (g : Nat) (t : TypeId) (cs : Array Value) (fr : Nat × Nat) (d : TypeDesc)
    (hp : tmps.getD p undef = .pointer (some ⟨g, 0, none⟩)) (hg : w.heap[g]? = some (.cells cs t fr))
    (hu : P.underlying ty = some d) (hd : (match d with | .struct _ | .array _ _ => true | _ => false) = true) (hi : (P.info? ty).map (·.size) = some cs.size) :
    (results fn tmps).run P w = .ok (.tuple #[.agg cs, tmps.getD u undef, tmps.getD v undef]) w := by
  rw [results_cell_tmp2 h, hp]
  simp [asAddr, run_loadVar_row w g t ty cs fr d hg hu hd hi, Result.andThen]
theorem bodyPost_row_tmp2 {P : Program} {fn : Func} {R : Ending → World → Prop} {a : Act} {w : World} {p u v : Tmp} {ty : TypeId} (h : fn.results = #[.cell p ty, .tmp u, .tmp v]) (g : Nat) (t : TypeId) (cs : Array Value) (fr : Nat × Nat) (d : TypeDesc) (x y : Value)
    (hp : a.tmps.getD p undef = .pointer (some ⟨g, 0, none⟩)) (hx : a.tmps.getD u undef = x) (hy : a.tmps.getD v undef = y) (hdef : a.defers = []) (hg : w.heap[g]? = some (.cells cs t fr))
    (hu : P.underlying ty = some d) (hd : (match d with | .struct _ | .array _ _ => true | _ => false) = true) (hi : (P.info? ty).map (·.size) = some cs.size)
    (hR : R (.returned (.tuple #[.agg cs, x, y])) w) : bodyPost P fn R .ret a w := by
  subst hx hy
  exact bodyPost_ret (results_row_tmp2 h a.tmps w g t cs fr d hp hg hu hd hi) hdef hR

theorem Rd.one {w : World} {u : Value} {xs : List Int} (h : Rd w u xs) : u.oneCell' = true := by
  obtain ⟨ao, cap, rfl, _⟩ := h.form
  rfl
theorem ones {w : World} {us : Nat → Value} {Q : Nat → List Int} (hq : ∀ c, c < 4 → Rd w (us c) (Q c)) : (#[us 0, us 1, us 2, us 3] : Array Value).all (·.oneCell') = true := by
  simp [(hq 0 (by omega)).one, (hq 1 (by omega)).one, (hq 2 (by omega)).one, (hq 3 (by omega)).one]
theorem ones_of {a b c d : Value} (ha : a.oneCell' = true) (hb : b.oneCell' = true) (hc : c.oneCell' = true) (hd : d.oneCell' = true) : (#[a, b, c, d] : Array Value).all (·.oneCell') = true := by
  simp [ha, hb, hc, hd]

theorem rpop_bad (w : World) (us : Nat → Value) (Q : Nat → List Int) (c : Int) (h : c < 0 ∨ 4 ≤ c) (hq : ∀ c, c < 4 → Rd w (us c) (Q c)) :
    Calls Try.prog 9 #[.agg #[us 0, us 1, us 2, us 3], .int .i64 c] w fun e w' => e = .returned (.tuple #[.agg #[us 0, us 1, us 2, us 3], .int .i64 0, .int .i64 2]) ∧ Kp [] w w' := by
  have h1 := ones hq
  have hb2 := heap_alloc2_new w (.cells #[us 0, us 1, us 2, us 3] 29) (.cells #[.slice none 0 0, .slice none 0 0, .slice none 0 0, .slice none 0 0] 29)
  have hk := (((Kp.refl [] w).alloc (.cells #[us 0, us 1, us 2, us 3] 29)).alloc (.cells #[.slice none 0 0, .slice none 0 0, .slice none 0 0, .slice none 0 0] 29)).setRow (g := w.heap.size + 1) (.inr (by omega)) #[us 0, us 1, us 2, us 3]
  have hfin := setRow_heap _ _ _ #[us 0, us 1, us 2, us 3] _ _ hb2
  have HB := Lib.hid (And.intro h1 (And.intro hb2 (And.intro hk hfin)))
  clear h1 hb2 hk hfin hq
  rcases h with h | h
  · go_enter Try.func9, Try.ntmps9
    go_wp2_with (refine wpList_store_row rfl 29 _ _ rfl (w.heap.size + 1) _ rfl rfl 29 _ HB.out.2.1 (by kernel_rfl) rfl HB.out.1 ?_)
    exact bodyPost_row_tmp2 rfl (w.heap.size + 1) 29 _ (0, 0) _ (.int .i64 0) (.int .i64 2) rfl rfl rfl rfl HB.out.2.2.2 Try.underlying29 rfl (by kernel_rfl) ⟨rfl, HB.out.2.2.1⟩
  · have h1 : ¬ c < 0 := by omega
    have h2 : 3 < c := by omega
    go_enter Try.func9, Try.ntmps9
    go_wp2_with (refine wpList_store_row rfl 29 _ _ rfl (w.heap.size + 1) _ rfl rfl 29 _ HB.out.2.1 (by kernel_rfl) rfl HB.out.1 ?_)
    exact bodyPost_row_tmp2 rfl (w.heap.size + 1) 29 _ (0, 0) _ (.int .i64 0) (.int .i64 2) rfl rfl rfl rfl HB.out.2.2.2 Try.underlying29 rfl (by kernel_rfl) ⟨rfl, HB.out.2.2.1⟩

/-- The two blocks that each of the document's own calls lays first: its list, and the one that it will answer. -/
structure Pre (w w2 : World) (us : Nat → Value) (Q : Nat → List Int) : Prop where
  hb1 : w2.heap[w.heap.size]? = some (.cells #[us 0, us 1, us 2, us 3] 29 (0, 0))
  hb2 : ∃ old, w2.heap[w.heap.size + 1]? = some (.cells old 29 (0, 0)) ∧ old.size = 4
  kp : Kp [] w w2
  rd : ∀ c, c < 4 → Rd w2 (us c) (Q c)
theorem Pre.cell {w w2 : World} {us : Nat → Value} {Q : Nat → List Int} (h : Pre w w2 us Q) {c : Nat} (hc : c < 4) : w2.cell? ⟨w.heap.size, c, none⟩ = some (us c) := by
  rw [cell_of_row h.hb1]
  rcases four hc with rfl | rfl | rfl | rfl <;> rfl
theorem pre_of (w : World) (us : Nat → Value) (Q : Nat → List Int) (hq : ∀ c, c < 4 → Rd w (us c) (Q c)) :
    Pre w ((w.alloc (.cells #[us 0, us 1, us 2, us 3] 29)).alloc (.cells #[.slice none 0 0, .slice none 0 0, .slice none 0 0, .slice none 0 0] 29)) us Q := by
  have hk : Kp [] w ((w.alloc (.cells #[us 0, us 1, us 2, us 3] 29)).alloc (.cells #[.slice none 0 0, .slice none 0 0, .slice none 0 0, .slice none 0 0] 29)) := ((Kp.refl [] w).alloc _).alloc _
  exact ⟨heap_alloc2_old w _ _, ⟨_, heap_alloc2_new w _ _, rfl⟩, hk, fun c hc => (hq c hc).keep0 hk⟩
/-- The answer's block is filled. -/
theorem Pre.fin {w w2 w3 : World} {us : Nat → Value} {Q : Nat → List Int} (h : Pre w w2 us Q) (k : Kp [w.heap.size] w2 w3) (cs : Array Value) :
    (∃ old, w3.heap[w.heap.size + 1]? = some (.cells old 29 (0, 0)) ∧ old.size = 4) ∧ (w3.setRow (w.heap.size + 1) cs).heap[w.heap.size + 1]? = some (.cells cs 29 (0, 0)) ∧ Kp [] w (w3.setRow (w.heap.size + 1) cs) := by
  obtain ⟨old, ho, hs⟩ := h.hb2
  have h3 := k.row (by simp) ho
  refine ⟨⟨old, h3, hs⟩, setRow_heap _ _ _ _ _ _ h3, ?_⟩
  have k2 : Kp [] w w3 := ⟨k.os.trans h.kp.os, k.tape.trans h.kp.tape, k.output.trans h.kp.output, Nat.le_trans h.kp.size k.size, fun i hi _ => (k.block i (Nat.lt_of_lt_of_le hi h.kp.size) (by rw [List.mem_singleton]; omega)).trans (h.kp.block i hi (by simp))⟩
  exact k2.setRow (.inr (by omega)) _

theorem rpop_empty (w : World) (us : Nat → Value) (Q : Nat → List Int) (c : Nat) (hc : c < 4) (hq : ∀ c, c < 4 → Rd w (us c) (Q c)) (h0 : Q c = []) :
    Calls Try.prog 9 #[.agg #[us 0, us 1, us 2, us 3], .int .i64 c] w fun e w' => e = .returned (.tuple #[.agg #[us 0, us 1, us 2, us 3], .int .i64 0, .int .i64 5]) ∧ Kp [] w w' := by
  have h1 := ones hq
  have H := pre_of w us Q hq
  obtain ⟨w2, hw2⟩ : ∃ w2, (w.alloc (.cells #[us 0, us 1, us 2, us 3] 29)).alloc (.cells #[.slice none 0 0, .slice none 0 0, .slice none 0 0, .slice none 0 0] 29) = w2 := ⟨_, rfl⟩
  rw [hw2] at H
  obtain ⟨⟨old, ho, hs⟩, f2, f3⟩ := H.fin (Kp.refl _ w2) #[us 0, us 1, us 2, us 3]
  have hcc := H.cell hc
  have c0 := H.cell (c := 0) (by omega)
  have c1 := H.cell (c := 1) (by omega)
  have c2 := H.cell (c := 2) (by omega)
  have c3 := H.cell (c := 3) (by omega)
  obtain ⟨ao, cap, hu, _⟩ := (hq c hc).form
  rw [h0] at hu
  change us c = .slice ao 0 cap at hu
  rw [hu] at hcc
  have HB := Lib.hid (And.intro h1 (And.intro ho (And.intro hs (And.intro f2 f3))))
  clear h1 hq h0 H ho hs f2 f3 hu
  go_enter Try.func9, Try.ntmps9
  go_wp2_with (refine wpList_store_row rfl 29 _ _ rfl (w.heap.size + 1) _ rfl rfl 29 _ HB.out.2.1 (by kernel_rfl) HB.out.2.2.1 HB.out.1 ?_)
  exact bodyPost_row_tmp2 rfl (w.heap.size + 1) 29 _ (0, 0) _ (.int .i64 0) (.int .i64 5) rfl rfl rfl rfl HB.out.2.2.2.1 Try.underlying29 rfl (by kernel_rfl) ⟨rfl, HB.out.2.2.2.2⟩

theorem Rd.head {w : World} {u : Value} {x : Int} {xs : List Int} (h : Rd w u (x :: xs)) : ∃ g o cap, u = .slice (some ⟨g, o, none⟩) (xs.length + 1) cap ∧ xs.length + 1 ≤ cap ∧ w.cell? ⟨g, o, none⟩ = some (.int .i64 x) ∧
    ∀ a : Addr, (xs ≠ [] → a = ⟨g, o + 1, none⟩) → Rd w (.slice (some a) xs.length (cap - 1)) xs := by
  obtain ⟨ao, cap, rfl, hc, hz, hx⟩ := h.form
  obtain ⟨g, o, rfl, hcell⟩ := hx (by simp)
  refine ⟨g, o, cap, rfl, by simpa using hc, by simpa using hcell 0 (by simp), fun a ha => ⟨some a, cap - 1, rfl, by simp at hc; omega, fun e => (by cases e), fun hne => ⟨g, o + 1, by rw [ha hne], fun i hi => ?_⟩⟩⟩
  have := hcell (i + 1) (by simpa using hi)
  rw [show o + (i + 1) = o + 1 + i by omega] at this
  rw [this]
  simp [List.getD]

/-- A row's slice stored into the list's block, and the list answered: what lies behind. -/
theorem Pre.answer {w w2 : World} {us : Nat → Value} {Q : Nat → List Int} (h : Pre w w2 us Q) (w3 : World) (k : Kp [w.heap.size] w2 w3) (cs : Array Value) (c : Nat) (V : Value) (ys : List Int) (hV : Rd w3 V ys) (hb : ∀ y ∈ blk V, y ∈ blk (us c) ∨ (w.heap.size ≤ y ∧ y < w3.heap.size)) (hlt : ∀ d, d < 4 → ∀ y ∈ blk (us d), y ≠ w.heap.size) (hVn : ∀ y ∈ blk V, y ≠ w.heap.size + 1) (hln : ∀ d, d < 4 → ∀ y ∈ blk (us d), y ≠ w.heap.size + 1) :
    Kp [] w (w3.setRow (w.heap.size + 1) cs) ∧ (∀ d, d < 4 → Rd (w3.setRow (w.heap.size + 1) cs) (updV us c V d) (upd Q c ys d)) ∧ ∀ d, d < 4 → ∀ y ∈ blk (updV us c V d), y ∈ blk (us d) ∨ (w.heap.size ≤ y ∧ y < (w3.setRow (w.heap.size + 1) cs).heap.size) := by
  have ks : Kp [w.heap.size + 1] w3 (w3.setRow (w.heap.size + 1) cs) := (Kp.refl _ _).setRow (.inl (by simp)) _
  refine ⟨(h.fin k cs).2.2, fun d hd => ?_, fun d hd y hy => ?_⟩
  · by_cases e : d = c
    · subst e
      rw [updV_same, upd_same]
      exact hV.keep ks (fun g hg hg' => hVn g hg (by simpa using hg'))
    · rw [updV_ne _ _ _ _ e, upd_ne _ _ _ _ e]
      exact ((h.rd d hd).keep k (fun g hg hg' => hlt d hd g hg (by simpa using hg'))).keep ks (fun g hg hg' => hln d hd g hg (by simpa using hg'))
  · by_cases e : d = c
    · subst e
      rw [updV_same] at hy
      rw [size_setRow]
      exact hb y hy
    · rw [updV_ne _ _ _ _ e] at hy
      exact .inl hy

/-- Rows that lay ahead of a call are in no block that it makes. -/
theorem rows_lt {w : World} {us : Nat → Value} {N : Nat} (hl : ∀ d, d < 4 → ∀ y ∈ blk (us d), y < w.heap.size) : (∀ d, d < 4 → ∀ y ∈ blk (us d), y ≠ w.heap.size) ∧ (∀ d, d < 4 → ∀ y ∈ blk (us d), y ≠ w.heap.size + 1) :=
  ⟨fun d hd y hy => by have := hl d hd y hy; omega, fun d hd y hy => by have := hl d hd y hy; omega⟩

set_option maxHeartbeats 2000000 in
theorem rpop_good (w : World) (us : Nat → Value) (Q : Nat → List Int) (c : Nat) (hc : c < 4) (hq : ∀ c, c < 4 → Rd w (us c) (Q c)) (x : Int) (xs : List Int) (h0 : Q c = x :: xs) (hn : (Q c).length ≤ 1000) (hlt : ∀ d, d < 4 → ∀ y ∈ blk (us d), y < w.heap.size) :
    Calls Try.prog 9 #[.agg #[us 0, us 1, us 2, us 3], .int .i64 c] w fun e w' => ∃ us' : Nat → Value, e = .returned (.tuple #[.agg #[us' 0, us' 1, us' 2, us' 3], .int .i64 x, .int .i64 0]) ∧ Kp [] w w' ∧ (∀ d, d < 4 → Rd w' (us' d) (upd Q c xs d)) ∧ ∀ d, d < 4 → ∀ y ∈ blk (us' d), y ∈ blk (us d) ∨ (w.heap.size ≤ y ∧ y < w'.heap.size) := by
  have H := pre_of w us Q hq
  have h1 := fun d hd => (hq d hd).one
  obtain ⟨w2, hw2⟩ : ∃ w2, (w.alloc (.cells #[us 0, us 1, us 2, us 3] 29)).alloc (.cells #[.slice none 0 0, .slice none 0 0, .slice none 0 0, .slice none 0 0] 29) = w2 := ⟨_, rfl⟩
  rw [hw2] at H
  have hRc := H.rd c hc
  rw [h0] at hRc
  obtain ⟨g, o, cap, hu, hcap, hx, hcut⟩ := hRc.head
  have hgl : g < w.heap.size := hlt c hc g (by rw [hu, blk_some]; simp)
  have hcc := H.cell hc
  have hfr := free_of_row H.hb1 c
  rw [hu] at hcc
  have c0 := H.cell (c := 0) (by omega)
  have c1 := H.cell (c := 1) (by omega)
  have c2 := H.cell (c := 2) (by omega)
  have c3 := H.cell (c := 3) (by omega)
  rw [h0, List.length_cons] at hn
  -- what lies behind, whatever slice is stored
  have hend : ∀ (a : Addr), (xs ≠ [] → a = ⟨g, o + 1, none⟩) → (∀ y ∈ blk (.slice (some a) xs.length (cap - 1)), y = g) → ∀ cs : Array Value,
      (∃ old, (w2.setCell ⟨w.heap.size, c, none⟩ (.slice (some a) xs.length (cap - 1))).heap[w.heap.size + 1]? = some (.cells old 29 (0, 0)) ∧ old.size = 4) ∧
      ((w2.setCell ⟨w.heap.size, c, none⟩ (.slice (some a) xs.length (cap - 1))).setRow (w.heap.size + 1) cs).heap[w.heap.size + 1]? = some (.cells cs 29 (0, 0)) ∧
      Kp [] w ((w2.setCell ⟨w.heap.size, c, none⟩ (.slice (some a) xs.length (cap - 1))).setRow (w.heap.size + 1) cs) ∧
      (∀ d, d < 4 → Rd ((w2.setCell ⟨w.heap.size, c, none⟩ (.slice (some a) xs.length (cap - 1))).setRow (w.heap.size + 1) cs) (updV us c (.slice (some a) xs.length (cap - 1)) d) (upd Q c xs d)) ∧
      ∀ d, d < 4 → ∀ y ∈ blk (updV us c (.slice (some a) xs.length (cap - 1)) d), y ∈ blk (us d) ∨ (w.heap.size ≤ y ∧ y < ((w2.setCell ⟨w.heap.size, c, none⟩ (.slice (some a) xs.length (cap - 1))).setRow (w.heap.size + 1) cs).heap.size) := by
    intro a ha hba cs
    have k3 : Kp [w.heap.size] w2 (w2.setCell ⟨w.heap.size, c, none⟩ (.slice (some a) xs.length (cap - 1))) := (Kp.refl _ _).setCell (.inl (by simp)) _
    obtain ⟨r1, r2⟩ := rows_lt (N := 0) hlt
    have hV := (hcut a ha).keep k3 (fun y hy hy' => by have := hba y hy; simp at hy'; omega)
    have hf := H.fin k3 cs
    have han := H.answer _ k3 cs c _ xs hV (fun y hy => .inl (by rw [hba y hy, hu, blk_some]; simp)) r1 (fun y hy => by have := hba y hy; omega) r2
    exact ⟨hf.1, hf.2.1, han.1, han.2.1, han.2.2⟩
  have HE := Lib.hid hend
  have H1 := Lib.hid h1
  have HX : Hid (xs = [] ↔ xs.length = 0) := Lib.hid List.length_eq_zero_iff.symm
  clear H hRc h0 hq hcut hend h1 hlt
  obtain ⟨n, hnn⟩ : ∃ n, n = xs.length := ⟨_, rfl⟩
  rw [← hnn] at hu hcc hcap hn HE HX
  clear hnn
  have HU := Lib.hid hu
  by_cases hc1 : cap = 1
  · obtain rfl : n = 0 := by omega
    subst hc1
    have E := HE.out ⟨g, o, none⟩ (fun e => absurd (HX.out.2 rfl) e) (fun y hy => by simpa [blk_some] using hy)
    rw [Nat.sub_self] at E
    rw [show (0 : Nat) + 1 = 1 from rfl] at hu hcc HU
    have HE2 := Lib.hid E
    clear HE E hcap hgl
    rcases four hc with rfl | rfl | rfl | rfl
    · obtain ⟨⟨old, ho, hs⟩, f2, f3, f4, f5⟩ := HE2.out #[Value.slice (some ⟨g, o, none⟩) 0 0, us 1, us 2, us 3]
      have HF := Lib.hid (And.intro ho (And.intro hs (And.intro f2 (And.intro f3 (And.intro f4 f5)))))
      have HO := Lib.hid (show (#[Value.slice (some ⟨g, o, none⟩) 0 0, us 1, us 2, us 3] : Array Value).all (·.oneCell') = true from ones_of rfl (H1.out 1 (by omega)) (H1.out 2 (by omega)) (H1.out 3 (by omega)))
      rw [hu] at c0
      clear HE2 ho hs f2 f3 f4 f5 hu H1
      go_enter Try.func9, Try.ntmps9
      go_wp2_with (refine wpList_store_row rfl 29 _ _ rfl (w.heap.size + 1) _ rfl rfl 29 _ HF.out.1 (by kernel_rfl) HF.out.2.1 HO.out ?_)
      refine bodyPost_row_tmp2 rfl (w.heap.size + 1) 29 #[Value.slice (some ⟨g, o, none⟩) 0 0, us 1, us 2, us 3] (0, 0) _ (.int .i64 x) (.int .i64 0) rfl rfl rfl rfl HF.out.2.2.1 Try.underlying29 rfl (by kernel_rfl) ⟨updV us 0 (Value.slice (some ⟨g, o, none⟩) 0 0), ?_, HF.out.2.2.2.1, HF.out.2.2.2.2.1, HF.out.2.2.2.2.2⟩
      simp [updV]
    · obtain ⟨⟨old, ho, hs⟩, f2, f3, f4, f5⟩ := HE2.out #[us 0, Value.slice (some ⟨g, o, none⟩) 0 0, us 2, us 3]
      have HF := Lib.hid (And.intro ho (And.intro hs (And.intro f2 (And.intro f3 (And.intro f4 f5)))))
      have HO := Lib.hid (show (#[us 0, Value.slice (some ⟨g, o, none⟩) 0 0, us 2, us 3] : Array Value).all (·.oneCell') = true from ones_of (H1.out 0 (by omega)) rfl (H1.out 2 (by omega)) (H1.out 3 (by omega)))
      rw [hu] at c1
      clear HE2 ho hs f2 f3 f4 f5 hu H1
      go_enter Try.func9, Try.ntmps9
      go_wp2_with (refine wpList_store_row rfl 29 _ _ rfl (w.heap.size + 1) _ rfl rfl 29 _ HF.out.1 (by kernel_rfl) HF.out.2.1 HO.out ?_)
      refine bodyPost_row_tmp2 rfl (w.heap.size + 1) 29 #[us 0, Value.slice (some ⟨g, o, none⟩) 0 0, us 2, us 3] (0, 0) _ (.int .i64 x) (.int .i64 0) rfl rfl rfl rfl HF.out.2.2.1 Try.underlying29 rfl (by kernel_rfl) ⟨updV us 1 (Value.slice (some ⟨g, o, none⟩) 0 0), ?_, HF.out.2.2.2.1, HF.out.2.2.2.2.1, HF.out.2.2.2.2.2⟩
      simp [updV]
    · obtain ⟨⟨old, ho, hs⟩, f2, f3, f4, f5⟩ := HE2.out #[us 0, us 1, Value.slice (some ⟨g, o, none⟩) 0 0, us 3]
      have HF := Lib.hid (And.intro ho (And.intro hs (And.intro f2 (And.intro f3 (And.intro f4 f5)))))
      have HO := Lib.hid (show (#[us 0, us 1, Value.slice (some ⟨g, o, none⟩) 0 0, us 3] : Array Value).all (·.oneCell') = true from ones_of (H1.out 0 (by omega)) (H1.out 1 (by omega)) rfl (H1.out 3 (by omega)))
      rw [hu] at c2
      clear HE2 ho hs f2 f3 f4 f5 hu H1
      go_enter Try.func9, Try.ntmps9
      go_wp2_with (refine wpList_store_row rfl 29 _ _ rfl (w.heap.size + 1) _ rfl rfl 29 _ HF.out.1 (by kernel_rfl) HF.out.2.1 HO.out ?_)
      refine bodyPost_row_tmp2 rfl (w.heap.size + 1) 29 #[us 0, us 1, Value.slice (some ⟨g, o, none⟩) 0 0, us 3] (0, 0) _ (.int .i64 x) (.int .i64 0) rfl rfl rfl rfl HF.out.2.2.1 Try.underlying29 rfl (by kernel_rfl) ⟨updV us 2 (Value.slice (some ⟨g, o, none⟩) 0 0), ?_, HF.out.2.2.2.1, HF.out.2.2.2.2.1, HF.out.2.2.2.2.2⟩
      simp [updV]
    · obtain ⟨⟨old, ho, hs⟩, f2, f3, f4, f5⟩ := HE2.out #[us 0, us 1, us 2, Value.slice (some ⟨g, o, none⟩) 0 0]
      have HF := Lib.hid (And.intro ho (And.intro hs (And.intro f2 (And.intro f3 (And.intro f4 f5)))))
      have HO := Lib.hid (show (#[us 0, us 1, us 2, Value.slice (some ⟨g, o, none⟩) 0 0] : Array Value).all (·.oneCell') = true from ones_of (H1.out 0 (by omega)) (H1.out 1 (by omega)) (H1.out 2 (by omega)) rfl)
      rw [hu] at c3
      clear HE2 ho hs f2 f3 f4 f5 hu H1
      go_enter Try.func9, Try.ntmps9
      go_wp2_with (refine wpList_store_row rfl 29 _ _ rfl (w.heap.size + 1) _ rfl rfl 29 _ HF.out.1 (by kernel_rfl) HF.out.2.1 HO.out ?_)
      refine bodyPost_row_tmp2 rfl (w.heap.size + 1) 29 #[us 0, us 1, us 2, Value.slice (some ⟨g, o, none⟩) 0 0] (0, 0) _ (.int .i64 x) (.int .i64 0) rfl rfl rfl rfl HF.out.2.2.1 Try.underlying29 rfl (by kernel_rfl) ⟨updV us 3 (Value.slice (some ⟨g, o, none⟩) 0 0), ?_, HF.out.2.2.2.1, HF.out.2.2.2.2.1, HF.out.2.2.2.2.2⟩
      simp [updV]
  · have hcl : 1 < cap := by omega
    have E := HE.out ⟨g, o + 1, none⟩ (fun _ => rfl) (fun y hy => by simpa [blk_some] using hy)
    have HE2 := Lib.hid E
    clear HE E hgl hc1
    rcases four hc with rfl | rfl | rfl | rfl
    · obtain ⟨⟨old, ho, hs⟩, f2, f3, f4, f5⟩ := HE2.out #[Value.slice (some ⟨g, o + 1, none⟩) n (cap - 1), us 1, us 2, us 3]
      have HF := Lib.hid (And.intro ho (And.intro hs (And.intro f2 (And.intro f3 (And.intro f4 f5)))))
      have HO := Lib.hid (show (#[Value.slice (some ⟨g, o + 1, none⟩) n (cap - 1), us 1, us 2, us 3] : Array Value).all (·.oneCell') = true from ones_of rfl (H1.out 1 (by omega)) (H1.out 2 (by omega)) (H1.out 3 (by omega)))
      rw [hu] at c0
      clear HE2 ho hs f2 f3 f4 f5 hu H1
      go_enter Try.func9, Try.ntmps9
      go_wp2_with (refine wpList_store_row rfl 29 _ _ rfl (w.heap.size + 1) _ rfl rfl 29 _ HF.out.1 (by kernel_rfl) HF.out.2.1 HO.out ?_)
      refine bodyPost_row_tmp2 rfl (w.heap.size + 1) 29 #[Value.slice (some ⟨g, o + 1, none⟩) n (cap - 1), us 1, us 2, us 3] (0, 0) _ (.int .i64 x) (.int .i64 0) rfl rfl rfl rfl HF.out.2.2.1 Try.underlying29 rfl (by kernel_rfl) ⟨updV us 0 (Value.slice (some ⟨g, o + 1, none⟩) n (cap - 1)), ?_, HF.out.2.2.2.1, HF.out.2.2.2.2.1, HF.out.2.2.2.2.2⟩
      simp [updV]
    · obtain ⟨⟨old, ho, hs⟩, f2, f3, f4, f5⟩ := HE2.out #[us 0, Value.slice (some ⟨g, o + 1, none⟩) n (cap - 1), us 2, us 3]
      have HF := Lib.hid (And.intro ho (And.intro hs (And.intro f2 (And.intro f3 (And.intro f4 f5)))))
      have HO := Lib.hid (show (#[us 0, Value.slice (some ⟨g, o + 1, none⟩) n (cap - 1), us 2, us 3] : Array Value).all (·.oneCell') = true from ones_of (H1.out 0 (by omega)) rfl (H1.out 2 (by omega)) (H1.out 3 (by omega)))
      rw [hu] at c1
      clear HE2 ho hs f2 f3 f4 f5 hu H1
      go_enter Try.func9, Try.ntmps9
      go_wp2_with (refine wpList_store_row rfl 29 _ _ rfl (w.heap.size + 1) _ rfl rfl 29 _ HF.out.1 (by kernel_rfl) HF.out.2.1 HO.out ?_)
      refine bodyPost_row_tmp2 rfl (w.heap.size + 1) 29 #[us 0, Value.slice (some ⟨g, o + 1, none⟩) n (cap - 1), us 2, us 3] (0, 0) _ (.int .i64 x) (.int .i64 0) rfl rfl rfl rfl HF.out.2.2.1 Try.underlying29 rfl (by kernel_rfl) ⟨updV us 1 (Value.slice (some ⟨g, o + 1, none⟩) n (cap - 1)), ?_, HF.out.2.2.2.1, HF.out.2.2.2.2.1, HF.out.2.2.2.2.2⟩
      simp [updV]
    · obtain ⟨⟨old, ho, hs⟩, f2, f3, f4, f5⟩ := HE2.out #[us 0, us 1, Value.slice (some ⟨g, o + 1, none⟩) n (cap - 1), us 3]
      have HF := Lib.hid (And.intro ho (And.intro hs (And.intro f2 (And.intro f3 (And.intro f4 f5)))))
      have HO := Lib.hid (show (#[us 0, us 1, Value.slice (some ⟨g, o + 1, none⟩) n (cap - 1), us 3] : Array Value).all (·.oneCell') = true from ones_of (H1.out 0 (by omega)) (H1.out 1 (by omega)) rfl (H1.out 3 (by omega)))
      rw [hu] at c2
      clear HE2 ho hs f2 f3 f4 f5 hu H1
      go_enter Try.func9, Try.ntmps9
      go_wp2_with (refine wpList_store_row rfl 29 _ _ rfl (w.heap.size + 1) _ rfl rfl 29 _ HF.out.1 (by kernel_rfl) HF.out.2.1 HO.out ?_)
      refine bodyPost_row_tmp2 rfl (w.heap.size + 1) 29 #[us 0, us 1, Value.slice (some ⟨g, o + 1, none⟩) n (cap - 1), us 3] (0, 0) _ (.int .i64 x) (.int .i64 0) rfl rfl rfl rfl HF.out.2.2.1 Try.underlying29 rfl (by kernel_rfl) ⟨updV us 2 (Value.slice (some ⟨g, o + 1, none⟩) n (cap - 1)), ?_, HF.out.2.2.2.1, HF.out.2.2.2.2.1, HF.out.2.2.2.2.2⟩
      simp [updV]
    · obtain ⟨⟨old, ho, hs⟩, f2, f3, f4, f5⟩ := HE2.out #[us 0, us 1, us 2, Value.slice (some ⟨g, o + 1, none⟩) n (cap - 1)]
      have HF := Lib.hid (And.intro ho (And.intro hs (And.intro f2 (And.intro f3 (And.intro f4 f5)))))
      have HO := Lib.hid (show (#[us 0, us 1, us 2, Value.slice (some ⟨g, o + 1, none⟩) n (cap - 1)] : Array Value).all (·.oneCell') = true from ones_of (H1.out 0 (by omega)) (H1.out 1 (by omega)) (H1.out 2 (by omega)) rfl)
      rw [hu] at c3
      clear HE2 ho hs f2 f3 f4 f5 hu H1
      go_enter Try.func9, Try.ntmps9
      go_wp2_with (refine wpList_store_row rfl 29 _ _ rfl (w.heap.size + 1) _ rfl rfl 29 _ HF.out.1 (by kernel_rfl) HF.out.2.1 HO.out ?_)
      refine bodyPost_row_tmp2 rfl (w.heap.size + 1) 29 #[us 0, us 1, us 2, Value.slice (some ⟨g, o + 1, none⟩) n (cap - 1)] (0, 0) _ (.int .i64 x) (.int .i64 0) rfl rfl rfl rfl HF.out.2.2.1 Try.underlying29 rfl (by kernel_rfl) ⟨updV us 3 (Value.slice (some ⟨g, o + 1, none⟩) n (cap - 1)), ?_, HF.out.2.2.2.1, HF.out.2.2.2.2.1, HF.out.2.2.2.2.2⟩
      simp [updV]

end Go.Proofs.Ythcblhombfggaaa
