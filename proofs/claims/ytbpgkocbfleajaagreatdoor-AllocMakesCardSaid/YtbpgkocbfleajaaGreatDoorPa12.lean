/- The document's own list (demesneref07): Pop and Push. The document's own list (demesneref07): Push. The document's own list (demesneref07): Drop. The document's own list answers what the list answers: its rows are the list's rows turned round. The walks of Place, of the document's own Starts, and of 'wakes'. Conditions: the package's table holds its four numbers. Conditions: as each theorem states them. -/
import Derived.Laws.Tables
import Derived.RangeFuncBox
import Derived.OwnWalk
import Derived.Test.YtbpgkocbfleajaaGreatDoorPa01
import Derived.Test.YtbpgkocbfleajaaGreatDoorPa04
import Derived.Test.YtbpgkocbfleajaaGreatDoorPa11
namespace Go.Proofs.YtbpgkocbfleajaaGreatDoor.Li
set_option linter.unusedVariables false
set_option linter.unusedSimpArgs false
open Go.RowKit

/-- Three results, the first a struct that lies in a block. -/
theorem results_cell_tmp2 {fn : Func} {p u v : Tmp} {ty : TypeId} (h : fn.results = #[.cell p ty, .tmp u, .tmp v]) (tmps : Array Value) (P : Program) (w : World) :
    (results fn tmps).run P w = ((asAddr (tmps.getD p undef)).run P w).andThen fun a w₁ => ((loadVar ty a).run P w₁).andThen fun x w₂ => .ok (.tuple #[x, tmps.getD u undef, tmps.getD v undef]) w₂ := by
  simp only [results, h]
  simp [Sem.run_bind, Result.andThen]
theorem results_row_tmp2 {P : Program} {fn : Func} {p u v : Tmp} {ty : TypeId} (h : fn.results = #[.cell p ty, .tmp u, .tmp v]) (tmps : Array Value) (w : World) (g : Nat) (t : TypeId) (cs : Array Value) (fr : Nat × Nat) (d : TypeDesc)
    (hp : tmps.getD p undef = .pointer (some ⟨g, 0, none⟩)) (hg : w.heap[g]? = some (.cells cs t fr))
    (hu : P.underlying ty = some d) (hd : (match d with | .struct _ | .array _ _ => true | _ => false) = true) (hi : (P.info? ty).map (·.size) = some cs.size) :
    (results fn tmps).run P w = .ok (.tuple #[.agg cs, tmps.getD u undef, tmps.getD v undef]) w := by
  rw [results_cell_tmp2 h, hp]
  simp [asAddr, run_loadVar_row w g t ty cs fr d hg hu hd hi, Result.andThen]
theorem bodyPost_row_tmp2 {P : Program} {fn : Func} {R : Ending → World → Prop} {a : Act} {w : World} {p u v : Tmp} {ty : TypeId} (h : fn.results = #[.cell p ty, .tmp u, .tmp v]) (g : Nat) (t : TypeId) (cs : Array Value) (fr : Nat × Nat) (d : TypeDesc) (x y : Value)
    (hp : a.tmps.getD p undef = .pointer (some ⟨g, 0, none⟩)) (hx : a.tmps.getD u undef = x) (hy : a.tmps.getD v undef = y) (hdef : a.defers = []) (hg : w.heap[g]? = some (.cells cs t fr))
    (hu : P.underlying ty = some d) (hd : (match d with | .struct _ | .array _ _ => true | _ => false) = true) (hi : (P.info? ty).map (·.size) = some cs.size)
    (hR : R (.returned (.tuple #[.agg cs, x, y])) w) : bodyPost P fn R .ret a w := by
  subst hx hy
  exact bodyPost_ret (results_row_tmp2 h a.tmps w g t cs fr d hp hg hu hd hi) hdef hR

theorem Rd.one {w : World} {u : Value} {xs : List Int} (h : Rd w u xs) : u.oneCell' = true := by
  obtain ⟨ao, cap, rfl, _⟩ := h.form
  rfl
theorem ones {w : World} {us : Nat → Value} {Q : Nat → List Int} (hq : ∀ c, c < 4 → Rd w (us c) (Q c)) : (#[us 0, us 1, us 2, us 3] : Array Value).all (·.oneCell') = true := by
  simp [(hq 0 (by omega)).one, (hq 1 (by omega)).one, (hq 2 (by omega)).one, (hq 3 (by omega)).one]
theorem ones_of {a b c d : Value} (ha : a.oneCell' = true) (hb : b.oneCell' = true) (hc : c.oneCell' = true) (hd : d.oneCell' = true) : (#[a, b, c, d] : Array Value).all (·.oneCell') = true := by
  simp [ha, hb, hc, hd]

theorem rpop_bad (w : World) (us : Nat → Value) (Q : Nat → List Int) (c : Int) (h : c < 0 ∨ 4 ≤ c) (hq : ∀ c, c < 4 → Rd w (us c) (Q c)) :
    Calls Tryz.prog 107 #[.agg #[us 0, us 1, us 2, us 3], .int .i64 c] w fun e w' => e = .returned (.tuple #[.agg #[us 0, us 1, us 2, us 3], .int .i64 0, .int .i64 2]) ∧ Kp [] w w' := by
  have h1 := ones hq
  have hb2 := heap_alloc2_new w (.cells #[us 0, us 1, us 2, us 3] 98) (.cells #[.slice none 0 0, .slice none 0 0, .slice none 0 0, .slice none 0 0] 98)
  have hk := (((Kp.refl [] w).alloc (.cells #[us 0, us 1, us 2, us 3] 98)).alloc (.cells #[.slice none 0 0, .slice none 0 0, .slice none 0 0, .slice none 0 0] 98)).setRow (g := w.heap.size + 1) (.inr (by omega)) #[us 0, us 1, us 2, us 3]
  have hfin := setRow_heap _ _ _ #[us 0, us 1, us 2, us 3] _ _ hb2
  have HB := Lib.hid (And.intro h1 (And.intro hb2 (And.intro hk hfin)))
  clear h1 hb2 hk hfin hq
  rcases h with h | h
  · go_enter Tryz.func107, Tryz.ntmps107
    go_wp2_with (refine wpList_store_row rfl 98 _ _ rfl (w.heap.size + 1) _ rfl rfl 98 _ HB.out.2.1 (by kernel_rfl) rfl HB.out.1 ?_)
    exact bodyPost_row_tmp2 rfl (w.heap.size + 1) 98 _ (0, 0) _ (.int .i64 0) (.int .i64 2) rfl rfl rfl rfl HB.out.2.2.2 Tryz.underlying98 rfl (by kernel_rfl) ⟨rfl, HB.out.2.2.1⟩
  · have h1 : ¬ c < 0 := by omega
    have h2 : 3 < c := by omega
    go_enter Tryz.func107, Tryz.ntmps107
    go_wp2_with (refine wpList_store_row rfl 98 _ _ rfl (w.heap.size + 1) _ rfl rfl 98 _ HB.out.2.1 (by kernel_rfl) rfl HB.out.1 ?_)
    exact bodyPost_row_tmp2 rfl (w.heap.size + 1) 98 _ (0, 0) _ (.int .i64 0) (.int .i64 2) rfl rfl rfl rfl HB.out.2.2.2 Tryz.underlying98 rfl (by kernel_rfl) ⟨rfl, HB.out.2.2.1⟩

/-- The two blocks that each of the document's own calls lays first: its list, and the one that it will answer. -/
structure Pre (w w2 : World) (us : Nat → Value) (Q : Nat → List Int) : Prop where
  hb1 : w2.heap[w.heap.size]? = some (.cells #[us 0, us 1, us 2, us 3] 98 (0, 0))
  hb2 : ∃ old, w2.heap[w.heap.size + 1]? = some (.cells old 98 (0, 0)) ∧ old.size = 4
  kp : Kp [] w w2
  rd : ∀ c, c < 4 → Rd w2 (us c) (Q c)
theorem Pre.cell {w w2 : World} {us : Nat → Value} {Q : Nat → List Int} (h : Pre w w2 us Q) {c : Nat} (hc : c < 4) : w2.cell? ⟨w.heap.size, c, none⟩ = some (us c) := by
  rw [cell_of_row h.hb1]
  rcases four hc with rfl | rfl | rfl | rfl <;> rfl
theorem pre_of (w : World) (us : Nat → Value) (Q : Nat → List Int) (hq : ∀ c, c < 4 → Rd w (us c) (Q c)) :
    Pre w ((w.alloc (.cells #[us 0, us 1, us 2, us 3] 98)).alloc (.cells #[.slice none 0 0, .slice none 0 0, .slice none 0 0, .slice none 0 0] 98)) us Q := by
  have hk : Kp [] w ((w.alloc (.cells #[us 0, us 1, us 2, us 3] 98)).alloc (.cells #[.slice none 0 0, .slice none 0 0, .slice none 0 0, .slice none 0 0] 98)) := ((Kp.refl [] w).alloc _).alloc _
  exact ⟨heap_alloc2_old w _ _, ⟨_, heap_alloc2_new w _ _, rfl⟩, hk, fun c hc => (hq c hc).keep0 hk⟩
/-- The answer's block is filled. -/
theorem Pre.fin {w w2 w3 : World} {us : Nat → Value} {Q : Nat → List Int} (h : Pre w w2 us Q) (k : Kp [w.heap.size] w2 w3) (cs : Array Value) :
    (∃ old, w3.heap[w.heap.size + 1]? = some (.cells old 98 (0, 0)) ∧ old.size = 4) ∧ (w3.setRow (w.heap.size + 1) cs).heap[w.heap.size + 1]? = some (.cells cs 98 (0, 0)) ∧ Kp [] w (w3.setRow (w.heap.size + 1) cs) := by
  obtain ⟨old, ho, hs⟩ := h.hb2
  have h3 := k.row (by simp) ho
  refine ⟨⟨old, h3, hs⟩, setRow_heap _ _ _ _ _ _ h3, ?_⟩
  have k2 : Kp [] w w3 := ⟨k.os.trans h.kp.os, k.tape.trans h.kp.tape, k.output.trans h.kp.output, Nat.le_trans h.kp.size k.size, fun i hi _ => (k.block i (Nat.lt_of_lt_of_le hi h.kp.size) (by rw [List.mem_singleton]; omega)).trans (h.kp.block i hi (by simp))⟩
  exact k2.setRow (.inr (by omega)) _

theorem rpop_empty (w : World) (us : Nat → Value) (Q : Nat → List Int) (c : Nat) (hc : c < 4) (hq : ∀ c, c < 4 → Rd w (us c) (Q c)) (h0 : Q c = []) :
    Calls Tryz.prog 107 #[.agg #[us 0, us 1, us 2, us 3], .int .i64 c] w fun e w' => e = .returned (.tuple #[.agg #[us 0, us 1, us 2, us 3], .int .i64 0, .int .i64 5]) ∧ Kp [] w w' := by
  have h1 := ones hq
  have H := pre_of w us Q hq
  obtain ⟨w2, hw2⟩ : ∃ w2, (w.alloc (.cells #[us 0, us 1, us 2, us 3] 98)).alloc (.cells #[.slice none 0 0, .slice none 0 0, .slice none 0 0, .slice none 0 0] 98) = w2 := ⟨_, rfl⟩
  rw [hw2] at H
  obtain ⟨⟨old, ho, hs⟩, f2, f3⟩ := H.fin (Kp.refl _ w2) #[us 0, us 1, us 2, us 3]
  have hcc := H.cell hc
  have c0 := H.cell (c := 0) (by omega)
  have c1 := H.cell (c := 1) (by omega)
  have c2 := H.cell (c := 2) (by omega)
  have c3 := H.cell (c := 3) (by omega)
  obtain ⟨ao, cap, hu, _⟩ := (hq c hc).form
  rw [h0] at hu
  change us c = .slice ao 0 cap at hu
  rw [hu] at hcc
  have HB := Lib.hid (And.intro h1 (And.intro ho (And.intro hs (And.intro f2 f3))))
  clear h1 hq h0 H ho hs f2 f3 hu
  go_enter Tryz.func107, Tryz.ntmps107
  go_wp2_with (refine wpList_store_row rfl 98 _ _ rfl (w.heap.size + 1) _ rfl rfl 98 _ HB.out.2.1 (by kernel_rfl) HB.out.2.2.1 HB.out.1 ?_)
  exact bodyPost_row_tmp2 rfl (w.heap.size + 1) 98 _ (0, 0) _ (.int .i64 0) (.int .i64 5) rfl rfl rfl rfl HB.out.2.2.2.1 Tryz.underlying98 rfl (by kernel_rfl) ⟨rfl, HB.out.2.2.2.2⟩

theorem Rd.head {w : World} {u : Value} {x : Int} {xs : List Int} (h : Rd w u (x :: xs)) : ∃ g o cap, u = .slice (some ⟨g, o, none⟩) (xs.length + 1) cap ∧ xs.length + 1 ≤ cap ∧ w.cell? ⟨g, o, none⟩ = some (.int .i64 x) ∧
    ∀ a : Addr, (xs ≠ [] → a = ⟨g, o + 1, none⟩) → Rd w (.slice (some a) xs.length (cap - 1)) xs := by
  obtain ⟨ao, cap, rfl, hc, hz, hx⟩ := h.form
  obtain ⟨g, o, rfl, hcell⟩ := hx (by simp)
  refine ⟨g, o, cap, rfl, by simpa using hc, by simpa using hcell 0 (by simp), fun a ha => ⟨some a, cap - 1, rfl, by simp at hc; omega, fun e => (by cases e), fun hne => ⟨g, o + 1, by rw [ha hne], fun i hi => ?_⟩⟩⟩
  have := hcell (i + 1) (by simpa using hi)
  rw [show o + (i + 1) = o + 1 + i by omega] at this
  rw [this]
  simp [List.getD]

/-- A row's slice stored into the list's block, and the list answered: what lies behind. -/
theorem Pre.answer {w w2 : World} {us : Nat → Value} {Q : Nat → List Int} (h : Pre w w2 us Q) (w3 : World) (k : Kp [w.heap.size] w2 w3) (cs : Array Value) (c : Nat) (V : Value) (ys : List Int) (hV : Rd w3 V ys) (hb : ∀ y ∈ blk V, y ∈ blk (us c) ∨ (w.heap.size ≤ y ∧ y < w3.heap.size)) (hlt : ∀ d, d < 4 → ∀ y ∈ blk (us d), y ≠ w.heap.size) (hVn : ∀ y ∈ blk V, y ≠ w.heap.size + 1) (hln : ∀ d, d < 4 → ∀ y ∈ blk (us d), y ≠ w.heap.size + 1) :
    Kp [] w (w3.setRow (w.heap.size + 1) cs) ∧ (∀ d, d < 4 → Rd (w3.setRow (w.heap.size + 1) cs) (updV us c V d) (upd Q c ys d)) ∧ ∀ d, d < 4 → ∀ y ∈ blk (updV us c V d), y ∈ blk (us d) ∨ (w.heap.size ≤ y ∧ y < (w3.setRow (w.heap.size + 1) cs).heap.size) := by
  have ks : Kp [w.heap.size + 1] w3 (w3.setRow (w.heap.size + 1) cs) := (Kp.refl _ _).setRow (.inl (by simp)) _
  refine ⟨(h.fin k cs).2.2, fun d hd => ?_, fun d hd y hy => ?_⟩
  · by_cases e : d = c
    · subst e
      rw [updV_same, upd_same]
      exact hV.keep ks (fun g hg hg' => hVn g hg (by simpa using hg'))
    · rw [updV_ne _ _ _ _ e, upd_ne _ _ _ _ e]
      exact ((h.rd d hd).keep k (fun g hg hg' => hlt d hd g hg (by simpa using hg'))).keep ks (fun g hg hg' => hln d hd g hg (by simpa using hg'))
  · by_cases e : d = c
    · subst e
      rw [updV_same] at hy
      rw [size_setRow]
      exact hb y hy
    · rw [updV_ne _ _ _ _ e] at hy
      exact .inl hy

/-- Rows that lay ahead of a call are in no block that it makes. -/
theorem rows_lt {w : World} {us : Nat → Value} {N : Nat} (hl : ∀ d, d < 4 → ∀ y ∈ blk (us d), y < w.heap.size) : (∀ d, d < 4 → ∀ y ∈ blk (us d), y ≠ w.heap.size) ∧ (∀ d, d < 4 → ∀ y ∈ blk (us d), y ≠ w.heap.size + 1) :=
  ⟨fun d hd y hy => by have := hl d hd y hy; omega, fun d hd y hy => by have := hl d hd y hy; omega⟩

set_option maxHeartbeats 2000000 in
theorem rpop_good (w : World) (us : Nat → Value) (Q : Nat → List Int) (c : Nat) (hc : c < 4) (hq : ∀ c, c < 4 → Rd w (us c) (Q c)) (x : Int) (xs : List Int) (h0 : Q c = x :: xs) (hn : (Q c).length ≤ 1000) (hlt : ∀ d, d < 4 → ∀ y ∈ blk (us d), y < w.heap.size) :
    Calls Tryz.prog 107 #[.agg #[us 0, us 1, us 2, us 3], .int .i64 c] w fun e w' => ∃ us' : Nat → Value, e = .returned (.tuple #[.agg #[us' 0, us' 1, us' 2, us' 3], .int .i64 x, .int .i64 0]) ∧ Kp [] w w' ∧ (∀ d, d < 4 → Rd w' (us' d) (upd Q c xs d)) ∧ ∀ d, d < 4 → ∀ y ∈ blk (us' d), y ∈ blk (us d) ∨ (w.heap.size ≤ y ∧ y < w'.heap.size) := by
  have H := pre_of w us Q hq
  have h1 := fun d hd => (hq d hd).one
  obtain ⟨w2, hw2⟩ : ∃ w2, (w.alloc (.cells #[us 0, us 1, us 2, us 3] 98)).alloc (.cells #[.slice none 0 0, .slice none 0 0, .slice none 0 0, .slice none 0 0] 98) = w2 := ⟨_, rfl⟩
  rw [hw2] at H
  have hRc := H.rd c hc
  rw [h0] at hRc
  obtain ⟨g, o, cap, hu, hcap, hx, hcut⟩ := hRc.head
  have hgl : g < w.heap.size := hlt c hc g (by rw [hu, blk_some]; simp)
  have hcc := H.cell hc
  have hfr := free_of_row H.hb1 c
  rw [hu] at hcc
  have c0 := H.cell (c := 0) (by omega)
  have c1 := H.cell (c := 1) (by omega)
  have c2 := H.cell (c := 2) (by omega)
  have c3 := H.cell (c := 3) (by omega)
  rw [h0, List.length_cons] at hn
  -- what lies behind, whatever slice is stored
  have hend : ∀ (a : Addr), (xs ≠ [] → a = ⟨g, o + 1, none⟩) → (∀ y ∈ blk (.slice (some a) xs.length (cap - 1)), y = g) → ∀ cs : Array Value,
      (∃ old, (w2.setCell ⟨w.heap.size, c, none⟩ (.slice (some a) xs.length (cap - 1))).heap[w.heap.size + 1]? = some (.cells old 98 (0, 0)) ∧ old.size = 4) ∧
      ((w2.setCell ⟨w.heap.size, c, none⟩ (.slice (some a) xs.length (cap - 1))).setRow (w.heap.size + 1) cs).heap[w.heap.size + 1]? = some (.cells cs 98 (0, 0)) ∧
      Kp [] w ((w2.setCell ⟨w.heap.size, c, none⟩ (.slice (some a) xs.length (cap - 1))).setRow (w.heap.size + 1) cs) ∧
      (∀ d, d < 4 → Rd ((w2.setCell ⟨w.heap.size, c, none⟩ (.slice (some a) xs.length (cap - 1))).setRow (w.heap.size + 1) cs) (updV us c (.slice (some a) xs.length (cap - 1)) d) (upd Q c xs d)) ∧
      ∀ d, d < 4 → ∀ y ∈ blk (updV us c (.slice (some a) xs.length (cap - 1)) d), y ∈ blk (us d) ∨ (w.heap.size ≤ y ∧ y < ((w2.setCell ⟨w.heap.size, c, none⟩ (.slice (some a) xs.length (cap - 1))).setRow (w.heap.size + 1) cs).heap.size) := by
    intro a ha hba cs
    have k3 : Kp [w.heap.size] w2 (w2.setCell ⟨w.heap.size, c, none⟩ (.slice (some a) xs.length (cap - 1))) := (Kp.refl _ _).setCell (.inl (by simp)) _
    obtain ⟨r1, r2⟩ := rows_lt (N := 0) hlt
    have hV := (hcut a ha).keep k3 (fun y hy hy' => by have := hba y hy; simp at hy'; omega)
    have hf := H.fin k3 cs
    have han := H.answer _ k3 cs c _ xs hV (fun y hy => .inl (by rw [hba y hy, hu, blk_some]; simp)) r1 (fun y hy => by have := hba y hy; omega) r2
    exact ⟨hf.1, hf.2.1, han.1, han.2.1, han.2.2⟩
  have HE := Lib.hid hend
  have H1 := Lib.hid h1
  have HX : Hid (xs = [] ↔ xs.length = 0) := Lib.hid List.length_eq_zero_iff.symm
  clear H hRc h0 hq hcut hend h1 hlt
  obtain ⟨n, hnn⟩ : ∃ n, n = xs.length := ⟨_, rfl⟩
  rw [← hnn] at hu hcc hcap hn HE HX
  clear hnn
  have HU := Lib.hid hu
  by_cases hc1 : cap = 1
  · obtain rfl : n = 0 := by omega
    subst hc1
    have E := HE.out ⟨g, o, none⟩ (fun e => absurd (HX.out.2 rfl) e) (fun y hy => by simpa [blk_some] using hy)
    rw [Nat.sub_self] at E
    rw [show (0 : Nat) + 1 = 1 from rfl] at hu hcc HU
    have HE2 := Lib.hid E
    clear HE E hcap hgl
    rcases four hc with rfl | rfl | rfl | rfl
    · obtain ⟨⟨old, ho, hs⟩, f2, f3, f4, f5⟩ := HE2.out #[Value.slice (some ⟨g, o, none⟩) 0 0, us 1, us 2, us 3]
      have HF := Lib.hid (And.intro ho (And.intro hs (And.intro f2 (And.intro f3 (And.intro f4 f5)))))
      have HO := Lib.hid (show (#[Value.slice (some ⟨g, o, none⟩) 0 0, us 1, us 2, us 3] : Array Value).all (·.oneCell') = true from ones_of rfl (H1.out 1 (by omega)) (H1.out 2 (by omega)) (H1.out 3 (by omega)))
      rw [hu] at c0
      clear HE2 ho hs f2 f3 f4 f5 hu H1
      go_enter Tryz.func107, Tryz.ntmps107
      go_wp2_with (refine wpList_store_row rfl 98 _ _ rfl (w.heap.size + 1) _ rfl rfl 98 _ HF.out.1 (by kernel_rfl) HF.out.2.1 HO.out ?_)
      refine bodyPost_row_tmp2 rfl (w.heap.size + 1) 98 #[Value.slice (some ⟨g, o, none⟩) 0 0, us 1, us 2, us 3] (0, 0) _ (.int .i64 x) (.int .i64 0) rfl rfl rfl rfl HF.out.2.2.1 Tryz.underlying98 rfl (by kernel_rfl) ⟨updV us 0 (Value.slice (some ⟨g, o, none⟩) 0 0), ?_, HF.out.2.2.2.1, HF.out.2.2.2.2.1, HF.out.2.2.2.2.2⟩
      simp [updV]
    · obtain ⟨⟨old, ho, hs⟩, f2, f3, f4, f5⟩ := HE2.out #[us 0, Value.slice (some ⟨g, o, none⟩) 0 0, us 2, us 3]
      have HF := Lib.hid (And.intro ho (And.intro hs (And.intro f2 (And.intro f3 (And.intro f4 f5)))))
      have HO := Lib.hid (show (#[us 0, Value.slice (some ⟨g, o, none⟩) 0 0, us 2, us 3] : Array Value).all (·.oneCell') = true from ones_of (H1.out 0 (by omega)) rfl (H1.out 2 (by omega)) (H1.out 3 (by omega)))
      rw [hu] at c1
      clear HE2 ho hs f2 f3 f4 f5 hu H1
      go_enter Tryz.func107, Tryz.ntmps107
      go_wp2_with (refine wpList_store_row rfl 98 _ _ rfl (w.heap.size + 1) _ rfl rfl 98 _ HF.out.1 (by kernel_rfl) HF.out.2.1 HO.out ?_)
      refine bodyPost_row_tmp2 rfl (w.heap.size + 1) 98 #[us 0, Value.slice (some ⟨g, o, none⟩) 0 0, us 2, us 3] (0, 0) _ (.int .i64 x) (.int .i64 0) rfl rfl rfl rfl HF.out.2.2.1 Tryz.underlying98 rfl (by kernel_rfl) ⟨updV us 1 (Value.slice (some ⟨g, o, none⟩) 0 0), ?_, HF.out.2.2.2.1, HF.out.2.2.2.2.1, HF.out.2.2.2.2.2⟩
      simp [updV]
    · obtain ⟨⟨old, ho, hs⟩, f2, f3, f4, f5⟩ := HE2.out #[us 0, us 1, Value.slice (some ⟨g, o, none⟩) 0 0, us 3]
      have HF := Lib.hid (And.intro ho (And.intro hs (And.intro f2 (And.intro f3 (And.intro f4 f5)))))
      have HO := Lib.hid (show (#[us 0, us 1, Value.slice (some ⟨g, o, none⟩) 0 0, us 3] : Array Value).all (·.oneCell') = true from ones_of (H1.out 0 (by omega)) (H1.out 1 (by omega)) rfl (H1.out 3 (by omega)))
      rw [hu] at c2
      clear HE2 ho hs f2 f3 f4 f5 hu H1
      go_enter Tryz.func107, Tryz.ntmps107
      go_wp2_with (refine wpList_store_row rfl 98 _ _ rfl (w.heap.size + 1) _ rfl rfl 98 _ HF.out.1 (by kernel_rfl) HF.out.2.1 HO.out ?_)
      refine bodyPost_row_tmp2 rfl (w.heap.size + 1) 98 #[us 0, us 1, Value.slice (some ⟨g, o, none⟩) 0 0, us 3] (0, 0) _ (.int .i64 x) (.int .i64 0) rfl rfl rfl rfl HF.out.2.2.1 Tryz.underlying98 rfl (by kernel_rfl) ⟨updV us 2 (Value.slice (some ⟨g, o, none⟩) 0 0), ?_, HF.out.2.2.2.1, HF.out.2.2.2.2.1, HF.out.2.2.2.2.2⟩
      simp [updV]
    · obtain ⟨⟨old, ho, hs⟩, f2, f3, f4, f5⟩ := HE2.out #[us 0, us 1, us 2, Value.slice (some ⟨g, o, none⟩) 0 0]
      have HF := Lib.hid (And.intro ho (And.intro hs (And.intro f2 (And.intro f3 (And.intro f4 f5)))))
      have HO := Lib.hid (show (#[us 0, us 1, us 2, Value.slice (some ⟨g, o, none⟩) 0 0] : Array Value).all (·.oneCell') = true from ones_of (H1.out 0 (by omega)) (H1.out 1 (by omega)) (H1.out 2 (by omega)) rfl)
      rw [hu] at c3
      clear HE2 ho hs f2 f3 f4 f5 hu H1
      go_enter Tryz.func107, Tryz.ntmps107
      go_wp2_with (refine wpList_store_row rfl 98 _ _ rfl (w.heap.size + 1) _ rfl rfl 98 _ HF.out.1 (by kernel_rfl) HF.out.2.1 HO.out ?_)
      refine bodyPost_row_tmp2 rfl (w.heap.size + 1) 98 #[us 0, us 1, us 2, Value.slice (some ⟨g, o, none⟩) 0 0] (0, 0) _ (.int .i64 x) (.int .i64 0) rfl rfl rfl rfl HF.out.2.2.1 Tryz.underlying98 rfl (by kernel_rfl) ⟨updV us 3 (Value.slice (some ⟨g, o, none⟩) 0 0), ?_, HF.out.2.2.2.1, HF.out.2.2.2.2.1, HF.out.2.2.2.2.2⟩
      simp [updV]
  · have hcl : 1 < cap := by omega
    have E := HE.out ⟨g, o + 1, none⟩ (fun _ => rfl) (fun y hy => by simpa [blk_some] using hy)
    have HE2 := Lib.hid E
    clear HE E hgl hc1
    rcases four hc with rfl | rfl | rfl | rfl
    · obtain ⟨⟨old, ho, hs⟩, f2, f3, f4, f5⟩ := HE2.out #[Value.slice (some ⟨g, o + 1, none⟩) n (cap - 1), us 1, us 2, us 3]
      have HF := Lib.hid (And.intro ho (And.intro hs (And.intro f2 (And.intro f3 (And.intro f4 f5)))))
      have HO := Lib.hid (show (#[Value.slice (some ⟨g, o + 1, none⟩) n (cap - 1), us 1, us 2, us 3] : Array Value).all (·.oneCell') = true from ones_of rfl (H1.out 1 (by omega)) (H1.out 2 (by omega)) (H1.out 3 (by omega)))
      rw [hu] at c0
      clear HE2 ho hs f2 f3 f4 f5 hu H1
      go_enter Tryz.func107, Tryz.ntmps107
      go_wp2_with (refine wpList_store_row rfl 98 _ _ rfl (w.heap.size + 1) _ rfl rfl 98 _ HF.out.1 (by kernel_rfl) HF.out.2.1 HO.out ?_)
      refine bodyPost_row_tmp2 rfl (w.heap.size + 1) 98 #[Value.slice (some ⟨g, o + 1, none⟩) n (cap - 1), us 1, us 2, us 3] (0, 0) _ (.int .i64 x) (.int .i64 0) rfl rfl rfl rfl HF.out.2.2.1 Tryz.underlying98 rfl (by kernel_rfl) ⟨updV us 0 (Value.slice (some ⟨g, o + 1, none⟩) n (cap - 1)), ?_, HF.out.2.2.2.1, HF.out.2.2.2.2.1, HF.out.2.2.2.2.2⟩
      simp [updV]
    · obtain ⟨⟨old, ho, hs⟩, f2, f3, f4, f5⟩ := HE2.out #[us 0, Value.slice (some ⟨g, o + 1, none⟩) n (cap - 1), us 2, us 3]
      have HF := Lib.hid (And.intro ho (And.intro hs (And.intro f2 (And.intro f3 (And.intro f4 f5)))))
      have HO := Lib.hid (show (#[us 0, Value.slice (some ⟨g, o + 1, none⟩) n (cap - 1), us 2, us 3] : Array Value).all (·.oneCell') = true from ones_of (H1.out 0 (by omega)) rfl (H1.out 2 (by omega)) (H1.out 3 (by omega)))
      rw [hu] at c1
      clear HE2 ho hs f2 f3 f4 f5 hu H1
      go_enter Tryz.func107, Tryz.ntmps107
      go_wp2_with (refine wpList_store_row rfl 98 _ _ rfl (w.heap.size + 1) _ rfl rfl 98 _ HF.out.1 (by kernel_rfl) HF.out.2.1 HO.out ?_)
      refine bodyPost_row_tmp2 rfl (w.heap.size + 1) 98 #[us 0, Value.slice (some ⟨g, o + 1, none⟩) n (cap - 1), us 2, us 3] (0, 0) _ (.int .i64 x) (.int .i64 0) rfl rfl rfl rfl HF.out.2.2.1 Tryz.underlying98 rfl (by kernel_rfl) ⟨updV us 1 (Value.slice (some ⟨g, o + 1, none⟩) n (cap - 1)), ?_, HF.out.2.2.2.1, HF.out.2.2.2.2.1, HF.out.2.2.2.2.2⟩
      simp [updV]
    · obtain ⟨⟨old, ho, hs⟩, f2, f3, f4, f5⟩ := HE2.out #[us 0, us 1, Value.slice (some ⟨g, o + 1, none⟩) n (cap - 1), us 3]
      have HF := Lib.hid (And.intro ho (And.intro hs (And.intro f2 (And.intro f3 (And.intro f4 f5)))))
      have HO := Lib.hid (show (#[us 0, us 1, Value.slice (some ⟨g, o + 1, none⟩) n (cap - 1), us 3] : Array Value).all (·.oneCell') = true from ones_of (H1.out 0 (by omega)) (H1.out 1 (by omega)) rfl (H1.out 3 (by omega)))
      rw [hu] at c2
      clear HE2 ho hs f2 f3 f4 f5 hu H1
      go_enter Tryz.func107, Tryz.ntmps107
      go_wp2_with (refine wpList_store_row rfl 98 _ _ rfl (w.heap.size + 1) _ rfl rfl 98 _ HF.out.1 (by kernel_rfl) HF.out.2.1 HO.out ?_)
      refine bodyPost_row_tmp2 rfl (w.heap.size + 1) 98 #[us 0, us 1, Value.slice (some ⟨g, o + 1, none⟩) n (cap - 1), us 3] (0, 0) _ (.int .i64 x) (.int .i64 0) rfl rfl rfl rfl HF.out.2.2.1 Tryz.underlying98 rfl (by kernel_rfl) ⟨updV us 2 (Value.slice (some ⟨g, o + 1, none⟩) n (cap - 1)), ?_, HF.out.2.2.2.1, HF.out.2.2.2.2.1, HF.out.2.2.2.2.2⟩
      simp [updV]
    · obtain ⟨⟨old, ho, hs⟩, f2, f3, f4, f5⟩ := HE2.out #[us 0, us 1, us 2, Value.slice (some ⟨g, o + 1, none⟩) n (cap - 1)]
      have HF := Lib.hid (And.intro ho (And.intro hs (And.intro f2 (And.intro f3 (And.intro f4 f5)))))
      have HO := Lib.hid (show (#[us 0, us 1, us 2, Value.slice (some ⟨g, o + 1, none⟩) n (cap - 1)] : Array Value).all (·.oneCell') = true from ones_of (H1.out 0 (by omega)) (H1.out 1 (by omega)) (H1.out 2 (by omega)) rfl)
      rw [hu] at c3
      clear HE2 ho hs f2 f3 f4 f5 hu H1
      go_enter Tryz.func107, Tryz.ntmps107
      go_wp2_with (refine wpList_store_row rfl 98 _ _ rfl (w.heap.size + 1) _ rfl rfl 98 _ HF.out.1 (by kernel_rfl) HF.out.2.1 HO.out ?_)
      refine bodyPost_row_tmp2 rfl (w.heap.size + 1) 98 #[us 0, us 1, us 2, Value.slice (some ⟨g, o + 1, none⟩) n (cap - 1)] (0, 0) _ (.int .i64 x) (.int .i64 0) rfl rfl rfl rfl HF.out.2.2.1 Tryz.underlying98 rfl (by kernel_rfl) ⟨updV us 3 (Value.slice (some ⟨g, o + 1, none⟩) n (cap - 1)), ?_, HF.out.2.2.2.1, HF.out.2.2.2.2.1, HF.out.2.2.2.2.2⟩
      simp [updV]

end Go.Proofs.YtbpgkocbfleajaaGreatDoor.Li

namespace Go.Proofs.YtbpgkocbfleajaaGreatDoor.Li
set_option linter.unusedVariables false
set_option linter.unusedSimpArgs false
set_option maxRecDepth 100000
open Go.RowKit

theorem Pre.on {w w2 w3 : World} {us : Nat → Value} {Q : Nat → List Int} (h : Pre w w2 us Q) (k : Kp [] w2 w3) : Pre w w3 us Q := by
  obtain ⟨old, ho, hs⟩ := h.hb2
  exact ⟨k.row (by simp) h.hb1, ⟨old, k.row (by simp) ho, hs⟩, h.kp.trans k, fun c hc => (h.rd c hc).keep0 k⟩

theorem rpush_bad (w : World) (us : Nat → Value) (Q : Nat → List Int) (c x : Int) (h : (c < 0 ∨ 4 ≤ c) ∨ (¬ (c < 0 ∨ 4 ≤ c) ∧ x < 1)) (hq : ∀ c, c < 4 → Rd w (us c) (Q c)) :
    Calls Tryz.prog 131 #[.agg #[us 0, us 1, us 2, us 3], .int .i64 c, .int .i64 x] w fun e w' => e = .returned (.tuple #[.agg #[us 0, us 1, us 2, us 3], .int .i64 2]) ∧ Kp [] w w' := by
  have h1 := ones hq
  have H := pre_of w us Q hq
  obtain ⟨w2, hw2⟩ : ∃ w2, (w.alloc (.cells #[us 0, us 1, us 2, us 3] 98)).alloc (.cells #[.slice none 0 0, .slice none 0 0, .slice none 0 0, .slice none 0 0] 98) = w2 := ⟨_, rfl⟩
  rw [hw2] at H
  obtain ⟨⟨old, ho, hs⟩, f2, f3⟩ := H.fin (Kp.refl _ w2) #[us 0, us 1, us 2, us 3]
  have c0 := H.cell (c := 0) (by omega)
  have c1 := H.cell (c := 1) (by omega)
  have c2 := H.cell (c := 2) (by omega)
  have c3 := H.cell (c := 3) (by omega)
  have HB := Lib.hid (And.intro h1 (And.intro ho (And.intro hs (And.intro f2 f3))))
  clear h1 hq H ho hs f2 f3
  rcases h with (h | h) | ⟨hc, hx⟩
  · go_enter Tryz.func131, Tryz.ntmps131
    go_wp2_with (refine wpList_store_row rfl 98 _ _ rfl (w.heap.size + 1) _ rfl rfl 98 _ HB.out.2.1 (by kernel_rfl) HB.out.2.2.1 HB.out.1 ?_)
    exact bodyPost_row_tmp rfl (w.heap.size + 1) 98 _ (0, 0) _ (.int .i64 2) rfl rfl rfl HB.out.2.2.2.1 Tryz.underlying98 rfl (by kernel_rfl) ⟨rfl, HB.out.2.2.2.2⟩
  · have h1 : ¬ c < 0 := by omega
    have h2 : 3 < c := by omega
    go_enter Tryz.func131, Tryz.ntmps131
    go_wp2_with (refine wpList_store_row rfl 98 _ _ rfl (w.heap.size + 1) _ rfl rfl 98 _ HB.out.2.1 (by kernel_rfl) HB.out.2.2.1 HB.out.1 ?_)
    exact bodyPost_row_tmp rfl (w.heap.size + 1) 98 _ (0, 0) _ (.int .i64 2) rfl rfl rfl HB.out.2.2.2.1 Tryz.underlying98 rfl (by kernel_rfl) ⟨rfl, HB.out.2.2.2.2⟩
  · have h1 : ¬ c < 0 := by omega
    have h2 : ¬ 3 < c := by omega
    go_enter Tryz.func131, Tryz.ntmps131
    go_wp2_with (refine wpList_store_row rfl 98 _ _ rfl (w.heap.size + 1) _ rfl rfl 98 _ HB.out.2.1 (by kernel_rfl) HB.out.2.2.1 HB.out.1 ?_)
    exact bodyPost_row_tmp rfl (w.heap.size + 1) 98 _ (0, 0) _ (.int .i64 2) rfl rfl rfl HB.out.2.2.2.1 Tryz.underlying98 rfl (by kernel_rfl) ⟨rfl, HB.out.2.2.2.2⟩

theorem rpush_has (w : World) (us : Nat → Value) (Q : Nat → List Int) (c : Nat) (x : Int) (hc : c < 4) (hx : 1 ≤ x) (hh : hasB Q x = true) (hq : ∀ c, c < 4 → Rd w (us c) (Q c)) (hn : Len Q 1000) :
    Calls Tryz.prog 131 #[.agg #[us 0, us 1, us 2, us 3], .int .i64 c, .int .i64 x] w fun e w' => e = .returned (.tuple #[.agg #[us 0, us 1, us 2, us 3], .int .i64 6]) ∧ Kp [] w w' := by
  have h1 := ones hq
  have H := pre_of w us Q hq
  obtain ⟨w2, hw2⟩ : ∃ w2, (w.alloc (.cells #[us 0, us 1, us 2, us 3] 98)).alloc (.cells #[.slice none 0 0, .slice none 0 0, .slice none 0 0, .slice none 0 0] 98) = w2 := ⟨_, rfl⟩
  rw [hw2] at H
  have c0 := H.cell (c := 0) (by omega)
  have c1 := H.cell (c := 1) (by omega)
  have c2 := H.cell (c := 2) (by omega)
  have c3 := H.cell (c := 3) (by omega)
  have hr := rhas_any w2 us Q x H.rd hn
  rw [hh] at hr
  have HH := Lib.hid (And.intro H h1)
  clear H h1 hh hq hn
  go_enter Tryz.func131, Tryz.ntmps131
  go_wp2_with fail
  refine hr.mono ?_
  rintro e w3 ⟨rfl, hk3⟩
  have H3 := HH.out.1.on hk3
  obtain ⟨⟨old, ho, hs⟩, f2, f3⟩ := H3.fin (Kp.refl _ w3) #[us 0, us 1, us 2, us 3]
  have d0 := H3.cell (c := 0) (by omega)
  have d1 := H3.cell (c := 1) (by omega)
  have d2 := H3.cell (c := 2) (by omega)
  have d3 := H3.cell (c := 3) (by omega)
  have HB := Lib.hid (And.intro HH.out.2 (And.intro ho (And.intro hs (And.intro f2 f3))))
  clear H3 ho hs f2 f3 hk3 c0 c1 c2 c3 hr
  go_wp2_with (refine wpList_store_row rfl 98 _ _ rfl (w.heap.size + 1) _ rfl rfl 98 _ HB.out.2.1 (by kernel_rfl) HB.out.2.2.1 HB.out.1 ?_)
  exact bodyPost_row_tmp rfl (w.heap.size + 1) 98 _ (0, 0) _ (.int .i64 6) rfl rfl rfl HB.out.2.2.2.1 Tryz.underlying98 rfl (by kernel_rfl) ⟨rfl, HB.out.2.2.2.2⟩

/-- What is appended to a row of one: its cells, where there are any. -/
theorem Rd.news {w : World} {u : Value} {xs : List Int} (h : Rd w u xs) : (u = .slice none 0 0 ∧ xs = []) ∨ ∃ ad cap, u = .slice (some ad) xs.length cap ∧ ∀ w', Kp [] w w' → ∀ j v, (ints xs)[j]? = some v → w'.cell? (ad.add j) = some v := by
  have h' := h
  obtain ⟨ao, cap, rfl, hc, hz, hx⟩ := h.form
  cases ao with
  | none =>
    obtain rfl := hz rfl
    have : xs = [] := List.eq_nil_of_length_eq_zero (by omega)
    subst this
    exact .inl ⟨rfl, rfl⟩
  | some ad =>
    refine .inr ⟨ad, cap, rfl, fun w' k j v hv => ?_⟩
    have hj : j < xs.length := by
      have := (List.getElem?_eq_some_iff.1 hv).1
      simpa [ints] using this
    obtain ⟨g, o, e, hcell⟩ := hx (fun e => by subst e; simp at hj)
    cases e
    have := hcell j hj
    rw [Addr.add_lit, (World.cell?_of_block (a := ⟨g, o + j, none⟩) (k.block g (block_lt_of_cell this) (by simp))).trans this, ← ints_get xs j hj]
    exact hv

/-- The list's block behind a slice is stored. -/
theorem Pre.stored {w w5 : World} {us : Nat → Value} {Q : Nat → List Int} (h : Pre w w5 us Q) {c : Nat} (hc : c < 4) (V : Value) :
    (w5.setCell ⟨w.heap.size, c, none⟩ V).heap[w.heap.size]? = some (.cells #[updV us c V 0, updV us c V 1, updV us c V 2, updV us c V 3] 98 (0, 0)) := by
  rw [heap_setCell_same _ _ _ _ _ _ h.hb1]
  rcases four hc with rfl | rfl | rfl | rfl <;> simp [updV]

theorem ints_cons (x : Int) (xs : List Int) : ints (x :: xs) = [.int .i64 x] ++ ints xs := rfl

/-- All that is behind the append. -/
structure PushEnd (w w5 : World) (us : Nat → Value) (Q : Nat → List Int) (c : Nat) (x : Int) (V : Value) : Prop where
  pre : Pre w w5 us Q
  one : (#[updV us c V 0, updV us c V 1, updV us c V 2, updV us c V 3] : Array Value).all (·.oneCell') = true
  hb : (w5.setCell ⟨w.heap.size, c, none⟩ V).heap[w.heap.size]? = some (.cells #[updV us c V 0, updV us c V 1, updV us c V 2, updV us c V 3] 98 (0, 0))
  old : ∃ old, (w5.setCell ⟨w.heap.size, c, none⟩ V).heap[w.heap.size + 1]? = some (.cells old 98 (0, 0)) ∧ old.size = 4
  res : ((w5.setCell ⟨w.heap.size, c, none⟩ V).setRow (w.heap.size + 1) #[updV us c V 0, updV us c V 1, updV us c V 2, updV us c V 3]).heap[w.heap.size + 1]? = some (.cells #[updV us c V 0, updV us c V 1, updV us c V 2, updV us c V 3] 98 (0, 0))
  kp : Kp [] w ((w5.setCell ⟨w.heap.size, c, none⟩ V).setRow (w.heap.size + 1) #[updV us c V 0, updV us c V 1, updV us c V 2, updV us c V 3])
  rd : ∀ d, d < 4 → Rd ((w5.setCell ⟨w.heap.size, c, none⟩ V).setRow (w.heap.size + 1) #[updV us c V 0, updV us c V 1, updV us c V 2, updV us c V 3]) (updV us c V d) (upd Q c (x :: Q c) d)
  blk : ∀ d, d < 4 → ∀ y ∈ blk (updV us c V d), y ∈ blk (us d) ∨ (w.heap.size ≤ y ∧ y < ((w5.setCell ⟨w.heap.size, c, none⟩ V).setRow (w.heap.size + 1) #[updV us c V 0, updV us c V 1, updV us c V 2, updV us c V 3]).heap.size)

theorem pushEnd {w w5 : World} {us : Nat → Value} {Q : Nat → List Int} {c : Nat} {x : Int} {V : Value} (h : Pre w w5 us Q) (hc : c < 4) (hlt : ∀ d, d < 4 → ∀ y ∈ blk (us d), y < w.heap.size)
    (hV : Rw w5 V (x :: Q c)) (hge : ∀ y ∈ blk V, w.heap.size + 2 ≤ y) : PushEnd w w5 us Q c x V := by
  have k3 : Kp [w.heap.size] w5 (w5.setCell ⟨w.heap.size, c, none⟩ V) := (Kp.refl _ _).setCell (.inl (by simp)) _
  obtain ⟨r1, r2⟩ := rows_lt (N := 0) hlt
  have hf := h.fin k3 #[updV us c V 0, updV us c V 1, updV us c V 2, updV us c V 3]
  have hV' := (Rd.of_rw hV).keep k3 (fun y hy hy' => by have := hge y hy; simp at hy'; omega)
  have han := h.answer _ k3 #[updV us c V 0, updV us c V 1, updV us c V 2, updV us c V 3] c V (x :: Q c) hV' (fun y hy => .inr (by have := hge y hy; have := hV.lt y hy; rw [World.size_setCell]; omega)) r1 (fun y hy => by have := hge y hy; omega) r2
  have ho : ∀ d, d < 4 → (updV us c V d).oneCell' = true := fun d hd => by
    by_cases e : d = c
    · subst e; rw [updV_same]; exact (Rd.of_rw hV).one
    · rw [updV_ne _ _ _ _ e]; exact (h.rd d hd).one
  exact ⟨h, ones_of (ho 0 (by omega)) (ho 1 (by omega)) (ho 2 (by omega)) (ho 3 (by omega)), h.stored hc V, hf.1, hf.2.1, han.1, han.2.1, han.2.2⟩

set_option maxHeartbeats 1000000 in
theorem rpush_good (w : World) (us : Nat → Value) (Q : Nat → List Int) (c : Nat) (x : Int) (hc : c < 4) (hx : 1 ≤ x) (hh : hasB Q x = false) (hq : ∀ c, c < 4 → Rd w (us c) (Q c)) (hn : Len Q 1000) (hlt : ∀ d, d < 4 → ∀ y ∈ blk (us d), y < w.heap.size) :
    Calls Tryz.prog 131 #[.agg #[us 0, us 1, us 2, us 3], .int .i64 c, .int .i64 x] w fun e w' => ∃ us' : Nat → Value, e = .returned (.tuple #[.agg #[us' 0, us' 1, us' 2, us' 3], .int .i64 0]) ∧ Kp [] w w' ∧ (∀ d, d < 4 → Rd w' (us' d) (upd Q c (x :: Q c) d)) ∧ ∀ d, d < 4 → ∀ y ∈ blk (us' d), y ∈ blk (us d) ∨ (w.heap.size ≤ y ∧ y < w'.heap.size) := by
  have H := pre_of w us Q hq
  have hw2s : ((w.alloc (.cells #[us 0, us 1, us 2, us 3] 98)).alloc (.cells #[.slice none 0 0, .slice none 0 0, .slice none 0 0, .slice none 0 0] 98)).heap.size = w.heap.size + 2 := by simp
  obtain ⟨w2, hw2⟩ : ∃ w2, (w.alloc (.cells #[us 0, us 1, us 2, us 3] 98)).alloc (.cells #[.slice none 0 0, .slice none 0 0, .slice none 0 0, .slice none 0 0] 98) = w2 := ⟨_, rfl⟩
  rw [hw2] at H hw2s
  have c0 := H.cell (c := 0) (by omega)
  have c1 := H.cell (c := 1) (by omega)
  have c2 := H.cell (c := 2) (by omega)
  have c3 := H.cell (c := 3) (by omega)
  have hr := rhas_any w2 us Q x H.rd hn
  rw [hh] at hr
  have hnc := hn c hc
  obtain ⟨i0, hi, hz0, hz1, hz2⟩ := info_parts int_info
  have HH := Lib.hid (And.intro H (And.intro hlt hw2s))
  have HQ := Lib.hid (hq c hc)
  clear H hh hq hn hlt hw2s
  go_enter Tryz.func131, Tryz.ntmps131
  go_wp2_with fail
  refine hr.mono ?_
  rintro e w3 ⟨rfl, hk3⟩
  have H3 := HH.out.1.on hk3
  have hs3 : w.heap.size + 2 ≤ w3.heap.size := by rw [← HH.out.2.2]; exact hk3.size
  have d0 := H3.cell hc
  have hq3 := H3.rd c hc
  have HP := Lib.hid H3
  clear H3 hk3 c0 c1 c2 c3 hr hw2
  have hown := World.ownsRow_lit (base := w.heap.size + 2) (e := 3) (size := 1) w3 #[.int .i64 x] 1 hs3 (by decide) rfl
  rcases hq3.news with ⟨hu, h0⟩ | ⟨ad, cap, hu, hnews⟩
  · rw [hu] at d0
    have hap : ∀ ty, (Builtin.append_ #[52, 52] ty #[.slice (some ⟨w3.heap.size, 0, none⟩) 1 1, .slice none 0 0]).run Tryz.prog (w3.alloc (.cells #[.int .i64 x] 3)) = .ok (.slice (some ⟨w3.heap.size, 0, none⟩) 1 1) (w3.alloc (.cells #[.int .i64 x] 3)) :=
      fun ty => run_append_owned_none _ _ 52 ty 3 i0 1 Tryz.underlying52 hi _ 1 _ hown
    have hk4 : Kp [] w3 (w3.alloc (.cells #[.int .i64 x] 3)) := (Kp.refl _ _).alloc _
    have hrw : Rw (w3.alloc (.cells #[.int .i64 x] 3)) (.slice (some ⟨w3.heap.size, 0, none⟩) 1 1) (x :: Q c) := by
      rw [h0]; exact Rw.of_own hown
    have E := Lib.hid (pushEnd (HP.out.on hk4) hc HH.out.2.1 hrw (fun y hy => by rw [blk_some, List.mem_singleton] at hy; omega))
    have d5 := E.out.pre.cell hc
    rw [hu] at d5
    have f5 := free_of_row E.out.pre.hb1 c
    obtain ⟨old, ho, hs⟩ := E.out.old
    have HO := Lib.hid (And.intro ho hs)
    clear hown hk4 hrw hq3 ho hs h0 hu d0
    go_wp2_with (first
      | (refine wpList_load_row rfl 98 _ rfl w.heap.size rfl 98 _ _ _ E.out.hb Tryz.underlying98 rfl (by kernel_rfl) ?_)
      | (refine wpList_store_row rfl 98 _ _ rfl (w.heap.size + 1) _ rfl rfl 98 _ HO.out.1 (by kernel_rfl) HO.out.2 E.out.one ?_))
    exact bodyPost_row_tmp rfl (w.heap.size + 1) 98 _ (0, 0) _ (.int .i64 0) rfl rfl rfl E.out.res Tryz.underlying98 rfl (by kernel_rfl) ⟨_, rfl, E.out.kp, E.out.rd, E.out.blk⟩
  · rw [hu] at d0
    have hk4 : Kp [] w3 (w3.alloc (.cells #[.int .i64 x] 3)) := (Kp.refl _ _).alloc _
    have hnw := hnews _ hk4
    have d4 := (HP.out.on hk4).cell hc
    rw [hu] at d4
    have HW := Lib.hid (And.intro hown hnw)
    have HV := Lib.hid hu
    have hlx : (x :: Q c).length = 1 + (Q c).length := by rw [List.length_cons]; omega
    have HLX := Lib.hid hlx
    clear hown hk4 hq3 hu hnews hnw hlx
    go_wp2_with (first
      | (refine wpList_load_row rfl 98 _ rfl w.heap.size rfl 98 _ _ _ E.out.hb Tryz.underlying98 rfl (by kernel_rfl) ?_)
      | (refine wpList_store_row rfl 98 _ _ rfl (w.heap.size + 1) _ rfl rfl 98 _ HO.out.1 (by kernel_rfl) HO.out.2 E.out.one ?_)
      | (at_builtin; refine wpList_append_own _ rfl _ _ 52 rfl (w.heap.size + 2) 3 i0 (.int .i64 0) 1 8 Tryz.underlying52 hi hz0 hz1 hz2 rfl (by decide) _ 1 _ rfl HW.out.1 ad (Q c).length cap (ints (Q c)) rfl (by simp [ints]) HW.out.2 (by intro u hu; obtain ⟨_, _, rfl⟩ := List.mem_map.1 hu; rfl) (by unfold maxLen; omega) (by omega) (by simp; omega) ?_
         intro V w5 hown5 hg5 _
         have hrw : Rw w5 V (x :: Q c) := Rw.of_own (base := w.heap.size + 2) (by rw [HLX.out, ints_cons]; exact hown5)
         have hge : ∀ y ∈ blk V, w.heap.size + 2 ≤ y := fun y hy => (hown5.lt y (by unfold blk at hy; rwa [Option.mem_toList] at hy)).1
         have hk5 : Kp [] w3 w5 := ((Kp.refl [] w3).alloc _).grown hg5 (fun k e => .inr (by simp only [Value.ownBlock] at e; cases e; exact Nat.le_refl _))
         have E := Lib.hid (pushEnd (HP.out.on hk5) hc HH.out.2.1 hrw hge)
         have d5 := E.out.pre.cell hc
         have f5 := free_of_row E.out.pre.hb1 c
         obtain ⟨a5, cap5, hV5⟩ := hrw.form
         subst hV5
         obtain ⟨old, ho, hs⟩ := E.out.old
         have HO := Lib.hid (And.intro ho hs)
         clear hown5 hg5 hk5 hrw hge ho hs d0 d4))
    exact bodyPost_row_tmp rfl (w.heap.size + 1) 98 _ (0, 0) _ (.int .i64 0) rfl rfl rfl E.out.res Tryz.underlying98 rfl (by kernel_rfl) ⟨_, rfl, E.out.kp, E.out.rd, E.out.blk⟩

end Go.Proofs.YtbpgkocbfleajaaGreatDoor.Li

namespace Go.Proofs.YtbpgkocbfleajaaGreatDoor.Li
set_option linter.unusedVariables false
set_option linter.unusedSimpArgs false
set_option maxRecDepth 100000
open Go.RowKit

theorem Pre.onS {w w2 w3 : World} {us : Nat → Value} {Q : Nat → List Int} {S : List Nat} {B : Nat} (h : Pre w w2 us Q) (k : Kp S w2 w3) (hS : ∀ x ∈ S, B ≤ x) (hB : w.heap.size + 2 ≤ B) (hlt : ∀ d, d < 4 → ∀ y ∈ blk (us d), y < B) : Pre w w3 us Q := by
  obtain ⟨old, ho, hs⟩ := h.hb2
  refine ⟨k.row (fun e => by have := hS _ e; omega) h.hb1, ⟨old, k.row (fun e => by have := hS _ e; omega) ho, hs⟩, ?_, fun c hc => (h.rd c hc).keep k (fun g hg e => by have := hS _ e; have := hlt c hc g hg; omega)⟩
  exact ⟨k.os.trans h.kp.os, k.tape.trans h.kp.tape, k.output.trans h.kp.output, Nat.le_trans h.kp.size k.size, fun i hi _ => (k.block i (Nat.lt_of_lt_of_le hi h.kp.size) (fun e => by have := hS _ e; omega)).trans (h.kp.block i hi (by simp))⟩

/-- Between two rows. -/
structure DO (w : World) (us : Nat → Value) (Q : Nat → List Int) (f t : Int) (c : Nat) (wr : World) (us' : Nat → Value) : Prop where
  pre : Pre w wr us' (Rk Q f t c)
  bl : ∀ d, d < 4 → ∀ y ∈ blk (us' d), y ∈ blk (us d) ∨ w.heap.size ≤ y
  lt : ∀ d, d < 4 → ∀ y ∈ blk (us' d), y < wr.heap.size
  sz : w.heap.size + 2 ≤ wr.heap.size
/-- Within a row. -/
structure DI (w w0 : World) (us' : Nat → Value) (Q : Nat → List Int) (f t : Int) (c i : Nat) (v : Value) (wi : World) : Prop where
  pre : Pre w wi us' (Rk Q f t c)
  own : wi.ownsRow w0.heap.size 3 1 v (left f t ((Q c).take i)).length (ints (left f t ((Q c).take i)))
  sz : w0.heap.size ≤ wi.heap.size

theorem left_no {f t : Int} {xs : List Int} {i : Nat} (hi : i < xs.length) (h : goes f t (xs.getD i 0) = true) : left f t (xs.take (i + 1)) = left f t (xs.take i) := by
  rw [getD_lt _ _ hi] at h
  unfold left
  rw [List.take_succ_eq_append_getElem hi, List.filter_append]
  simp [h]
theorem left_yes {f t : Int} {xs : List Int} {i : Nat} (hi : i < xs.length) (h : goes f t (xs.getD i 0) = false) : left f t (xs.take (i + 1)) = left f t (xs.take i) ++ [xs.getD i 0] := by
  rw [getD_lt _ _ hi] at h ⊢
  unfold left
  rw [List.take_succ_eq_append_getElem hi, List.filter_append]
  simp [h]
theorem left_take_le (f t : Int) (xs : List Int) (i : Nat) : (left f t (xs.take i)).length ≤ i := by
  have h1 := left_le f t (xs.take i)
  have h2 : (xs.take i).length ≤ i := by simp; omega
  omega

theorem DI.push {w w0 wi w5 : World} {us' : Nat → Value} {Q : Nat → List Int} {f t : Int} {c i : Nat} {v v' : Value} {x : Int} (h : DI w w0 us' Q f t c i v wi) (hi : i < (Q c).length) (hx : (Q c).getD i 0 = x) (hg : goes f t x = false) {o : Obj} (hs0 : w.heap.size + 2 ≤ w0.heap.size) (hlt : ∀ d, d < 4 → ∀ y ∈ blk (us' d), y < w0.heap.size)
    (hown : w5.ownsRow w0.heap.size 3 1 v' ((left f t ((Q c).take i)).length + 1) (ints (left f t ((Q c).take i)) ++ [.int .i64 x])) (hgr : (wi.alloc o).grownBy w5 v.ownBlock) : DI w w0 us' Q f t c (i + 1) v' w5 := by
  have hk : Kp (blk v) wi w5 := ((Kp.refl _ _).alloc o).trans (kp_of_row hgr)
  refine ⟨h.pre.onS hk (fun y hy => ?_) hs0 hlt, ?_, Nat.le_trans h.sz hk.size⟩
  · unfold blk at hy
    rw [Option.mem_toList] at hy
    exact (h.own.lt y hy).1
  · rw [left_yes hi (by rw [hx]; exact hg), hx, List.length_append, ints_snoc]
    exact hown

theorem DI.fin {w w0 wi : World} {us us' : Nat → Value} {Q : Nat → List Int} {f t : Int} {c : Nat} {v : Value} (h : DI w w0 us' Q f t c (Q c).length v wi) (hc : c < 4) (bl : ∀ d, d < 4 → ∀ y ∈ blk (us' d), y ∈ blk (us d) ∨ w.heap.size ≤ y) (hs0 : w.heap.size + 2 ≤ w0.heap.size) (hlt : ∀ d, d < 4 → ∀ y ∈ blk (us' d), y < w0.heap.size) (hne : ∀ d, d < 4 → ∀ y ∈ blk (us' d), y ≠ w.heap.size) :
    DO w us Q f t (c + 1) (wi.setCell ⟨w.heap.size, c, none⟩ v) (updV us' c v) := by
  have k3 : Kp [w.heap.size] wi (wi.setCell ⟨w.heap.size, c, none⟩ v) := (Kp.refl _ _).setCell (.inl (by simp)) _
  have hown := h.own
  rw [List.take_length] at hown
  have hR : Rw wi v (left f t (Q c)) := Rw.of_own hown
  have hge : ∀ y ∈ blk v, w0.heap.size ≤ y ∧ y < wi.heap.size := fun y hy => by
    unfold blk at hy
    rw [Option.mem_toList] at hy
    exact hown.lt y hy
  obtain ⟨old, ho, hs⟩ := h.pre.hb2
  have hkp := h.pre.kp
  refine ⟨⟨h.pre.stored hc v, ⟨old, k3.row (by simp) ho, hs⟩, ?_, ?_⟩, ?_, ?_, ?_⟩
  · exact ⟨k3.os.trans hkp.os, k3.tape.trans hkp.tape, k3.output.trans hkp.output, Nat.le_trans hkp.size k3.size, fun j hj _ => (k3.block j (Nat.lt_of_lt_of_le hj hkp.size) (by rw [List.mem_singleton]; omega)).trans (hkp.block j hj (by simp))⟩
  · intro d hd
    rw [← Rk_upd]
    by_cases e : d = c
    · subst e
      rw [updV_same, upd_same]
      exact (Rd.of_rw hR).keep k3 (fun g hg hg' => by have := hge g hg; simp at hg'; omega)
    · rw [updV_ne _ _ _ _ e, upd_ne _ _ _ _ e]
      exact (h.pre.rd d hd).keep k3 (fun g hg hg' => hne d hd g hg (by simpa using hg'))
  · intro d hd y hy
    by_cases e : d = c
    · subst e
      rw [updV_same] at hy
      exact .inr (by have := hge y hy; omega)
    · rw [updV_ne _ _ _ _ e] at hy
      exact bl d hd y hy
  · intro d hd y hy
    rw [World.size_setCell]
    by_cases e : d = c
    · subst e
      rw [updV_same] at hy
      exact (hge y hy).2
    · rw [updV_ne _ _ _ _ e] at hy
      have := hlt d hd y hy
      have := h.sz
      omega
  · rw [World.size_setCell]
    have := h.sz
    omega

set_option maxRecDepth 100000 in
set_option maxHeartbeats 2000000 in
theorem rdrop_any (w : World) (us : Nat → Value) (Q : Nat → List Int) (f t : Int) (hq : ∀ c, c < 4 → Rd w (us c) (Q c)) (hn : Len Q 1000) (hlt : ∀ d, d < 4 → ∀ y ∈ blk (us d), y < w.heap.size) :
    Calls Tryz.prog 68 #[.agg #[us 0, us 1, us 2, us 3], .int .i64 f, .int .i64 t] w fun e w' => ∃ us' : Nat → Value, e = .returned (.tuple #[.agg #[us' 0, us' 1, us' 2, us' 3], .int .i64 (gone Q f t 4)]) ∧ Kp [] w w' ∧ (∀ d, d < 4 → Rd w' (us' d) (Rk Q f t 4 d)) ∧ ∀ d, d < 4 → ∀ y ∈ blk (us' d), y ∈ blk (us d) ∨ (w.heap.size ≤ y ∧ y < w'.heap.size) := by
  have H := pre_of w us Q hq
  have hw2s : ((w.alloc (.cells #[us 0, us 1, us 2, us 3] 98)).alloc (.cells #[.slice none 0 0, .slice none 0 0, .slice none 0 0, .slice none 0 0] 98)).heap.size = w.heap.size + 2 := by simp
  obtain ⟨w2, hw2⟩ : ∃ w2, (w.alloc (.cells #[us 0, us 1, us 2, us 3] 98)).alloc (.cells #[.slice none 0 0, .slice none 0 0, .slice none 0 0, .slice none 0 0] 98) = w2 := ⟨_, rfl⟩
  rw [hw2] at H hw2s
  obtain ⟨i0, hi, hz0, hz1, hz2⟩ := info_parts int_info
  have H0 : Hid (DO w us Q f t 0 w2 us) := Lib.hid ⟨by rw [Rk_zero]; exact H, fun d hd y hy => .inl hy, fun d hd y hy => by have := hlt d hd y hy; omega, by omega⟩
  have HLT := Lib.hid hlt
  clear H hq hlt hw2s
  go_enter Tryz.func68, Tryz.ntmps68
  go_wp2
  try rw [hw2]
  clear hw2
  go_loopg [8, 9, 10, 11, 12] 4 (fun g nv cv _ _ _ wr => ∃ (c : Nat) (us' : Nat → Value), c + g = 4 ∧ cv = .int .i64 (c : Int) ∧ nv = .int .i64 (gone Q f t c) ∧ Hid (DO w us Q f t c wr us') ∧ Hid (∀ d, d < 4 → ∀ y ∈ blk (us' d), y ≠ w.heap.size ∧ y ≠ w.heap.size + 1))
  case atStart => exact ⟨0, us, by omega, rfl, rfl, H0, Lib.hid (fun d hd y hy => by have := HLT.out d hd y hy; omega)⟩
  case round =>
    clear H0
    obtain ⟨c, us', hcg, rfl, rfl, D, NE⟩ := hrel
    obtain ⟨w0, rfl⟩ : ∃ w0 : World, w0 = wr := ⟨_, rfl⟩
    have hgl := gone_le Q f t hn c (by omega)
    by_cases hc4 : c < 4
    · have hcell := D.out.pre.cell hc4
      have hfr := free_of_row D.out.pre.hb1 c
      have hRd := D.out.pre.rd c hc4
      rw [Rk_at] at hRd
      obtain ⟨ao, cap, hu, hcap, _, hcs⟩ := hRd.form
      have hl := hn c hc4
      rw [hu] at hcell
      have HN : Hid (∀ i, i < (Q c).length → ∃ g o, ao = some ⟨g, o, none⟩ ∧ ∀ wi, Pre w wi us' (Rk Q f t c) → wi.cell? ⟨g, o + i, none⟩ = some (.int .i64 ((Q c).getD i 0))) := Lib.hid (fun i hi => by
        obtain ⟨g, o, e, hx⟩ := hcs (fun e => by rw [e] at hi; simp at hi)
        refine ⟨g, o, e, fun wi P => ?_⟩
        have hr2 := P.rd c hc4
        rw [Rk_at] at hr2
        obtain ⟨ao2, cap2, hu2, _, _, hcs2⟩ := hr2.form
        obtain ⟨g2, o2, e2, hx2⟩ := hcs2 (fun e => by rw [e] at hi; simp at hi)
        rw [hu] at hu2
        cases hu2
        rw [e] at e2
        cases e2
        exact hx2 i hi)
      obtain ⟨n, hnn⟩ : ∃ n, n = (Q c).length := ⟨_, rfl⟩
      have HL := Lib.hid hnn
      rw [← hnn] at hcell hl hcap
      have HU := Lib.hid hu
      have HX := Lib.hid hn
      have hgo := Lib.hid (show gone Q f t (c + 1) = gone Q f t c + ((Q c).length - (left f t (Q c)).length) from rfl)
      have I0 : Hid (DI w w0 us' Q f t c 0 (.slice none 0 0) w0) := Lib.hid ⟨D.out.pre, World.ownsRow_nil _ _ _ _, Nat.le_refl _⟩
      have hsz := D.out.sz
      clear hcs hu hnn hn hRd
      obtain ⟨G, hG⟩ : ∃ G, G + 1 = gk := ⟨gk - 1, by omega⟩
      go_wp2
      rw [show decide ((c : Int) < 4) = true from decide_eq_true (by omega)]
      go_loopg [8, 10, 11, 12] n (fun g nv lv iv _ wi => ∃ (i k : Nat) (v : Value), i + g = n ∧ iv = .int .i64 (i : Int) ∧ lv = v ∧ nv = .int .i64 ((gone Q f t c + k : Nat) : Int) ∧ k ≤ i ∧ Hid (k = i - (left f t ((Q c).take i)).length) ∧ Hid (DI w w0 us' Q f t c i v wi))
      case atStart => exact ⟨0, 0, _, by omega, rfl, rfl, rfl, by omega, Lib.hid (by omega), I0⟩
      case round =>
        clear I0
        obtain ⟨i, k, v, hig, rfl, hvv, rfl, hki, hkk, I⟩ := hrel
        have hvv' := hvv.symm
        subst hvv'
        clear hvv
        have d1 := I.out.pre.cell hc4
        rw [HU.out, ← HL.out] at d1
        by_cases hin : i < n
        · obtain ⟨g, o, rfl, hx⟩ := HN.out i (by have := HL.out; omega)
          have hci := hx wr I.out.pre
          clear hx
          obtain ⟨y, hy⟩ : ∃ y, y = (Q c).getD i 0 := ⟨_, rfl⟩
          have HY := Lib.hid hy
          rw [← hy] at hci
          have hll := left_take_le f t (Q c) i
          clear hy
          by_cases hgg : goes f t y = true
          · have h1 : f ≤ y := by simp only [goes, Bool.and_eq_true, decide_eq_true_eq] at hgg; exact hgg.1
            have h2 : y < t := by simp only [goes, Bool.and_eq_true, decide_eq_true_eq] at hgg; exact hgg.2
            have hstep := left_no (f := f) (t := t) (xs := Q c) (i := i) (by have := HL.out; omega) (by rw [← HY.out]; exact hgg)
            have I2 : Hid (DI w w0 us' Q f t c (i + 1) v wr) := Lib.hid ⟨I.out.pre, by rw [hstep]; exact I.out.own, I.out.sz⟩
            have hk2 : Hid (k + 1 = i + 1 - (left f t ((Q c).take (i + 1))).length) := Lib.hid (by rw [hstep]; have := hkk.out; omega)
            clear hstep hgg
            go_wp2
            go_roundg (n - (i + 1))
            case measure => omega
            case rel => exact ⟨i + 1, k + 1, v, by omega, by go_num, rfl, by go_num, by omega, hk2, I2⟩
          · have hgf : goes f t y = false := by simpa using hgg
            have hil : i < (Q c).length := by have := HL.out; omega
            have hstep := left_yes (f := f) (t := t) (xs := Q c) (i := i) hil (by rw [← HY.out]; exact hgf)
            have hk2 : Hid (k = i + 1 - (left f t ((Q c).take (i + 1))).length) := Lib.hid (by rw [hstep, List.length_append]; have := hkk.out; simp; omega)
            have HG := Lib.hid hgf
            have hlen : (left f t ((Q c).take i)).length ≤ 1000 := by omega
            clear hstep hgg hgf
            have hor : (y < f) ∨ (f ≤ y ∧ t ≤ y) := by
              have := HG.out
              simp only [goes, Bool.and_eq_false_iff, decide_eq_false_iff_not] at this
              omega
            rcases hor with hor | ⟨ho1, ho2⟩
            · go_wp2_with (first
                | (at_builtin; refine wpList_append_own _ rfl _ _ 52 rfl w0.heap.size 3 i0 (.int .i64 0) 1 8 Tryz.underlying52 hi hz0 hz1 hz2 rfl (by decide) _ _ _ rfl (I.out.own.alloc _) ⟨wr.heap.size, 0, none⟩ 1 1 [.int .i64 y] rfl rfl (news_one wr y _ rfl) (one_cell _) (by unfold maxLen; omega) (by omega) (by have := I.out.sz; simp; omega) ?_
                   intro v5 w5 hown5 hg5 _
                   have I2 : Hid (DI w w0 us' Q f t c (i + 1) v5 w5) := Lib.hid (I.out.push hil HY.out.symm HG.out hsz D.out.lt hown5 hg5)
                   clear hown5 hg5 d1 hci))
              go_roundg (n - (i + 1))
              case measure => omega
              case rel => exact ⟨i + 1, k, v5, by omega, by go_num, rfl, rfl, by omega, hk2, I2⟩
            · have hor2 : ¬ y < t := by omega
              go_wp2_with (first
                | (at_builtin; refine wpList_append_own _ rfl _ _ 52 rfl w0.heap.size 3 i0 (.int .i64 0) 1 8 Tryz.underlying52 hi hz0 hz1 hz2 rfl (by decide) _ _ _ rfl (I.out.own.alloc _) ⟨wr.heap.size, 0, none⟩ 1 1 [.int .i64 y] rfl rfl (news_one wr y _ rfl) (one_cell _) (by unfold maxLen; omega) (by omega) (by have := I.out.sz; simp; omega) ?_
                   intro v5 w5 hown5 hg5 _
                   have I2 : Hid (DI w w0 us' Q f t c (i + 1) v5 w5) := Lib.hid (I.out.push hil HY.out.symm HG.out hsz D.out.lt hown5 hg5)
                   clear hown5 hg5 d1 hci))
              go_roundg (n - (i + 1))
              case measure => omega
              case rel => exact ⟨i + 1, k, v5, by omega, by go_num, rfl, rfl, by omega, hk2, I2⟩
        · have hie : i = (Q c).length := by have := HL.out; omega
          have I3 := I.out
          have hk3 := hkk.out
          rw [hie] at I3 hk3
          rw [List.take_length] at hk3
          have F := Lib.hid (I3.fin hc4 D.out.bl hsz D.out.lt (fun d hd y hy => (NE.out d hd y hy).1))
          have F2 : Hid (∀ d, d < 4 → ∀ y ∈ blk (updV us' c v d), y ≠ w.heap.size ∧ y ≠ w.heap.size + 1) := Lib.hid (fun d hd y hy => by
            by_cases e : d = c
            · subst e
              rw [updV_same] at hy
              unfold blk at hy
              rw [Option.mem_toList] at hy
              have := (I3.own.lt y hy).1
              omega
            · rw [updV_ne _ _ _ _ e] at hy
              exact NE.out d hd y hy)
          have hgn : gone Q f t c + k = gone Q f t (c + 1) := by rw [hgo.out, hk3]
          have HGN := Lib.hid hgn
          have f1 := free_of_row I.out.pre.hb1 c
          have hown := I3.own
          rw [List.take_length] at hown
          obtain ⟨av, cv, hv⟩ := (Rw.of_own hown).form
          subst hv
          clear I3 hk3 hgn hown hcell hfr I D HN
          go_wp2
          go_roundg G
          case measure => omega
          case rel => exact ⟨c + 1, updV us' c _, by omega, by go_num, by rw [HGN.out], F, F2⟩
    · obtain rfl : c = 4 := by omega
      have k0 : Kp [w.heap.size] w0 w0 := Kp.refl _ _
      obtain ⟨⟨old, ho, hs⟩, f2, f3⟩ := D.out.pre.fin k0 #[us' 0, us' 1, us' 2, us' 3]
      have c0 := D.out.pre.cell (c := 0) (by omega)
      have c1 := D.out.pre.cell (c := 1) (by omega)
      have c2 := D.out.pre.cell (c := 2) (by omega)
      have c3 := D.out.pre.cell (c := 3) (by omega)
      have ks : Kp [w.heap.size + 1] w0 (w0.setRow (w.heap.size + 1) #[us' 0, us' 1, us' 2, us' 3]) := (Kp.refl _ _).setRow (.inl (by simp)) _
      have hone := ones D.out.pre.rd
      have HB := Lib.hid (And.intro ho (And.intro hs (And.intro f2 (And.intro f3 (And.intro ks hone)))))
      clear ho hs f2 f3 k0 ks hn hone
      go_wp2_with (refine wpList_store_row rfl 98 _ _ rfl (w.heap.size + 1) _ rfl rfl 98 _ HB.out.1 (by kernel_rfl) HB.out.2.1 HB.out.2.2.2.2.2 ?_)
      refine bodyPost_row_tmp rfl (w.heap.size + 1) 98 #[us' 0, us' 1, us' 2, us' 3] (0, 0) _ _ rfl rfl rfl HB.out.2.2.1 Tryz.underlying98 rfl (by kernel_rfl) ⟨us', rfl, HB.out.2.2.2.1, fun d hd => ?_, fun d hd y hy => (D.out.bl d hd y hy).imp id (fun q => ⟨q, by rw [size_setRow]; exact D.out.lt d hd y hy⟩)⟩
      exact (D.out.pre.rd d hd).keep HB.out.2.2.2.2.1 (fun g hg hg' => (NE.out d hd g hg).2 (by simpa using hg'))

end Go.Proofs.YtbpgkocbfleajaaGreatDoor.Li

namespace Go.Proofs.YtbpgkocbfleajaaGreatDoor.Li
set_option linter.unusedVariables false
set_option linter.unusedSimpArgs false
set_option maxRecDepth 100000
open Go.RowKit

def rev (R : Nat → List Int) : Nat → List Int := fun d => (R d).reverse
theorem rev_len {R : Nat → List Int} {N : Nat} (h : Len R N) : Len (rev R) N := fun d hd => by
  have := h d hd
  simpa [rev] using this
theorem inR_rev (x : Int) (xs : List Int) : inR x xs.reverse = inR x xs := by simp [inR]
theorem inK_rev (R : Nat → List Int) (x : Int) : ∀ k, inK (rev R) x k = inK R x k
  | 0 => rfl
  | k + 1 => by rw [inK, inK, inK_rev R x k]; simp only [rev, inR_rev]
theorem hasB_rev (R : Nat → List Int) (x : Int) : hasB (rev R) x = hasB R x := inK_rev R x 4
theorem left_rev (f t : Int) (xs : List Int) : left f t xs.reverse = (left f t xs).reverse := by simp [left, List.filter_reverse]
theorem Rk_rev (R : Nat → List Int) (f t : Int) (k d : Nat) : Rk (rev R) f t k d = rev (Rk R f t k) d := by
  by_cases h : d < k <;> simp [Rk, rev, h, left_rev]
theorem gone_rev (R : Nat → List Int) (f t : Int) : ∀ k, gone (rev R) f t k = gone R f t k
  | 0 => rfl
  | k + 1 => by
    rw [gone, gone, gone_rev R f t k]
    simp only [rev, left_rev, List.length_reverse]
theorem upd_rev (R : Nat → List Int) (c d : Nat) (xs : List Int) : upd (rev R) c xs.reverse d = rev (upd R c xs) d := by
  by_cases h : d = c <;> simp [upd, rev, h]

/-- The rows of the document's own list. -/
def Rows4 (w : World) (us : Nat → Value) (R : Nat → List Int) : Prop := ∀ d, d < 4 → Rd w (us d) (rev R d)
def Lt4 (us : Nat → Value) (n : Nat) : Prop := ∀ d, d < 4 → ∀ y ∈ blk (us d), y < n
def Bl4 (us us' : Nat → Value) (n m : Nat) : Prop := ∀ d, d < 4 → ∀ y ∈ blk (us' d), y ∈ blk (us d) ∨ (n ≤ y ∧ y < m)
theorem bl_refl (us : Nat → Value) (n m : Nat) : Bl4 us us n m := fun _ _ _ hy => .inl hy

theorem rpush_is (w : World) (us : Nat → Value) (R : Nat → List Int) (c x : Int) (hq : Rows4 w us R) (hn : Len R 1000) (hlt : Lt4 us w.heap.size) :
    Calls Tryz.prog 131 #[.agg #[us 0, us 1, us 2, us 3], .int .i64 c, .int .i64 x] w fun e w' => ∃ us' : Nat → Value, e = .returned (.tuple #[.agg #[us' 0, us' 1, us' 2, us' 3], .int .i64 (pushE R c x)]) ∧ Kp [] w w' ∧ Rows4 w' us' (pushR R c x) ∧ Bl4 us us' w.heap.size w'.heap.size := by
  unfold pushR pushE
  cases hb : badC c with
  | true =>
    simp only [if_true, show ¬ ((2 : Int) = 0) from by decide, if_false]
    refine (rpush_bad w us _ c x (.inl (badC_iff.1 hb)) hq).mono ?_
    rintro e w' ⟨rfl, hk⟩
    exact ⟨us, rfl, hk, fun d hd => (hq d hd).keep0 hk, bl_refl _ _ _⟩
  | false =>
    obtain ⟨k, rfl, hk⟩ := goodC hb
    simp only [Bool.false_eq_true, if_false, Int.toNat_natCast]
    by_cases hx : x < 1
    · simp only [if_pos hx, show ¬ ((2 : Int) = 0) from by decide, if_false]
      refine (rpush_bad w us _ k x (.inr ⟨by omega, hx⟩) hq).mono ?_
      rintro e w' ⟨rfl, hk⟩
      exact ⟨us, rfl, hk, fun d hd => (hq d hd).keep0 hk, bl_refl _ _ _⟩
    · simp only [if_neg hx]
      cases hh : hasB R x with
      | true =>
        simp only [if_true, show ¬ ((6 : Int) = 0) from by decide, if_false]
        refine (rpush_has w us _ k x hk (by omega) (by rw [hasB_rev]; exact hh) hq (rev_len hn)).mono ?_
        rintro e w' ⟨rfl, hk'⟩
        exact ⟨us, rfl, hk', fun d hd => (hq d hd).keep0 hk', bl_refl _ _ _⟩
      | false =>
        simp only [Bool.false_eq_true, if_false, if_true]
        refine (rpush_good w us _ k x hk (by omega) (by rw [hasB_rev]; exact hh) hq (rev_len hn) hlt).mono ?_
        rintro e w' ⟨us', rfl, hk', hr, hb'⟩
        refine ⟨us', rfl, hk', fun d hd => ?_, hb'⟩
        have := hr d hd
        rw [show x :: rev R k = (R k ++ [x]).reverse from by simp [rev], upd_rev] at this
        exact this

theorem rpop_is (w : World) (us : Nat → Value) (R : Nat → List Int) (c : Int) (hq : Rows4 w us R) (hn : Len R 1000) (hlt : Lt4 us w.heap.size) :
    Calls Tryz.prog 107 #[.agg #[us 0, us 1, us 2, us 3], .int .i64 c] w fun e w' => ∃ us' : Nat → Value, e = .returned (.tuple #[.agg #[us' 0, us' 1, us' 2, us' 3], .int .i64 (popX R c), .int .i64 (popE R c)]) ∧ Kp [] w w' ∧ Rows4 w' us' (popR R c) ∧ Bl4 us us' w.heap.size w'.heap.size := by
  unfold popX popR popE
  cases hb : badC c with
  | true =>
    simp only [if_true, show ¬ ((2 : Int) = 0) from by decide, if_false]
    refine (rpop_bad w us _ c (badC_iff.1 hb) hq).mono ?_
    rintro e w' ⟨rfl, hk⟩
    exact ⟨us, rfl, hk, fun d hd => (hq d hd).keep0 hk, bl_refl _ _ _⟩
  | false =>
    obtain ⟨k, rfl, hk⟩ := goodC hb
    simp only [Bool.false_eq_true, if_false, Int.toNat_natCast]
    by_cases hx : R k = []
    · simp only [if_pos hx, show ¬ ((5 : Int) = 0) from by decide, if_false]
      refine (rpop_empty w us _ k hk hq (by simp [rev, hx])).mono ?_
      rintro e w' ⟨rfl, hk'⟩
      exact ⟨us, rfl, hk', fun d hd => (hq d hd).keep0 hk', bl_refl _ _ _⟩
    · simp only [if_neg hx, if_true]
      have e := List.dropLast_concat_getLast hx
      have e2 : (R k).getLastD 0 = (R k).getLast hx := by rw [List.getLastD_eq_getLast?, List.getLast?_eq_some_getLast hx]; rfl
      rw [e2]
      have e3 : rev R k = (R k).getLast hx :: (R k).dropLast.reverse := by
        unfold rev
        conv => lhs; rw [← e]
        simp
      refine (rpop_good w us _ k hk hq _ _ e3 (rev_len hn k hk) hlt).mono ?_
      rintro e w' ⟨us', rfl, hk', hr, hb'⟩
      refine ⟨us', rfl, hk', fun d hd => ?_, hb'⟩
      have := hr d hd
      rw [upd_rev] at this
      exact this

theorem rdrop_is (w : World) (us : Nat → Value) (R : Nat → List Int) (f t : Int) (hq : Rows4 w us R) (hn : Len R 1000) (hlt : Lt4 us w.heap.size) :
    Calls Tryz.prog 68 #[.agg #[us 0, us 1, us 2, us 3], .int .i64 f, .int .i64 t] w fun e w' => ∃ us' : Nat → Value, e = .returned (.tuple #[.agg #[us' 0, us' 1, us' 2, us' 3], .int .i64 (dropN R f t)]) ∧ Kp [] w w' ∧ Rows4 w' us' (dropR R f t) ∧ Bl4 us us' w.heap.size w'.heap.size := by
  refine (rdrop_any w us _ f t hq (rev_len hn) hlt).mono ?_
  rintro e w' ⟨us', rfl, hk', hr, hb'⟩
  rw [gone_rev]
  refine ⟨us', rfl, hk', fun d hd => ?_, hb'⟩
  have := hr d hd
  rw [Rk_rev] at this
  exact this

/-! ### The law's own state -/

theorem Rd.same {w w' : World} {u : Value} {xs : List Int} (h : Rd w u xs) (k : ∀ g ∈ blk u, g < w.heap.size → w'.heap[g]? = w.heap[g]?) : Rd w' u xs := by
  obtain ⟨ao, cap, rfl, hc, hz, hx⟩ := h.form
  refine ⟨ao, cap, rfl, hc, hz, fun hne => ?_⟩
  obtain ⟨g, o, rfl, hcell⟩ := hx hne
  refine ⟨g, o, rfl, fun i hi => ?_⟩
  have := hcell i hi
  exact (World.cell?_of_block (a := ⟨g, o + i, none⟩) (k g (by simp [blk_some]) (block_lt_of_cell this))).trans this

theorem ne_types {w : World} {a b : Nat} {x y : Array Value} {t u : TypeId} (h : w.heap[a]? = some (.cells x t (0, 0))) (k : w.heap[b]? = some (.cells y u (0, 0))) (htu : t ≠ u) : a ≠ b := by
  intro e; subst e
  have := h.symm.trans k
  simp at this
  exact htu this.2
theorem not_own {w : World} {p : Nat} {vs : Nat → Value} {R : Nat → List Int} (L : Ls w p vs R) {b : Nat} {x : Array Value} {t : TypeId} (h : w.heap[b]? = some (.cells x t (0, 0))) (h1 : t ≠ 3) : ¬ Owns vs b := by
  rintro ⟨c, hc, hg⟩
  obtain ⟨cur, hcur⟩ := (L.rw c hc).block b hg
  exact ne_types h hcur h1 rfl

/-- The list at p with rows R; the document's own at b with rows Q. -/
structure PL (w : World) (p b : Nat) (R Q : Nat → List Int) (wr : World) (vs us : Nat → Value) : Prop where
  bag : Bag w p R wr vs
  hb : wr.heap[b]? = some (.cells #[us 0, us 1, us 2, us 3] 98 (0, 0))
  rd : Rows4 wr us Q
  ap : ∀ d, d < 4 → ∀ y ∈ blk (us d), ¬ Owns vs y ∧ y ≠ p ∧ y ≠ b ∧ y < wr.heap.size
  ge : w.heap.size ≤ b

section
variable {w wr w2 : World} {p b : Nat} {R R' Q Q' : Nat → List Int} {vs vs' us us' : Nat → Value}
theorem PL.lt (h : PL w p b R Q wr vs us) : Lt4 us wr.heap.size := fun d hd y hy => (h.ap d hd y hy).2.2.2
theorem PL.lst (h : PL w p b R Q wr vs us) (L : Ls w2 p vs' R') (k : Lk p vs vs' wr w2) : PL w p b R' Q w2 vs' us := by
  have hbp := ne_types h.hb h.bag.ls.hp (by decide)
  refine ⟨h.bag.step L k, k.row hbp (not_own h.bag.ls h.hb (by decide)) h.hb, fun d hd => (h.rd d hd).same (fun g hg hl => k.block g hl (h.ap d hd g hg).2.1 (h.ap d hd g hg).1), fun d hd y hy => ?_, h.ge⟩
  obtain ⟨a1, a2, a4, a3⟩ := h.ap d hd y hy
  refine ⟨fun e => ?_, a2, a4, Nat.lt_of_lt_of_le a3 k.size⟩
  rcases k.own y e with q | q
  · exact a1 q
  · omega
theorem PL.on (h : PL w p b R Q wr vs us) (k : Kp [] wr w2) : PL w p b R Q w2 vs us := h.lst (h.bag.ls.keep0 k) (Lk.of_kp k)
end

end Go.Proofs.YtbpgkocbfleajaaGreatDoor.Li

namespace Go.Proofs.YtbpgkocbfleajaaGreatDoor.Cl
set_option maxRecDepth 100000
set_option linter.unusedVariables false
set_option linter.unusedSimpArgs false
open Go.RowKit

/-- A class, its words, its cells. -/
def Cls (c n : Int) (m : Nat) : Prop := (c = 0 ∧ n = 2 ∧ m = 16) ∨ (c = 1 ∧ n = 3 ∧ m = 10) ∨ (c = 2 ∧ n = 5 ∧ m = 6) ∨ (c = 3 ∧ n = 9 ∧ m = 3)

/-- The places n * 0, n * 1, .. -/
def lstC (n : Int) (k : Nat) : List Value := (List.range k).map fun j : Nat => .int .i64 (n * (j : Int))
theorem lst_succ (n : Int) (k : Nat) : lstC n (k + 1) = lstC n k ++ [.int .i64 (n * k)] := by simp [lstC, List.range_succ]
theorem lst_get (n : Int) (m k : Nat) (h : k < m) : (lstC n m)[k]? = some (.int .i64 (n * k)) := by simp [lstC, h]

/-- Ahead of a round of Starts' loop. -/
structure StRel (w : World) (n : Int) (k : Nat) (v : Value) (a : Int) (wr : World) : Prop where
  own : wr.ownsRow w.heap.size 3 1 v k (lstC n k)
  keep : Kp [] w wr
  lo : n * k ≤ a
  hi : a ≤ n * k

theorem StRel.step {w wr w1 : World} {n a : Int} {k : Nat} {v v' : Value} {o : Obj} (h : StRel w n k v a wr) (hown' : w1.ownsRow w.heap.size 3 1 v' (k + 1) (lstC n k ++ [.int .i64 a])) (hg : (wr.alloc o).grownBy w1 v.ownBlock) : StRel w n (k + 1) v' (a + n) w1 := by
  have ha : a = n * k := Int.le_antisymm h.hi h.lo
  refine ⟨?_, (h.keep.alloc o).grown hg (fun j hj => .inr (h.own.lt j hj).1), ?_, ?_⟩
  · rw [lst_succ, ← ha]; exact hown'
  · rw [ha]; push_cast; rw [Int.mul_add, Int.mul_one]; exact Int.le_refl _
  · rw [ha]; push_cast; rw [Int.mul_add, Int.mul_one]; exact Int.le_refl _

theorem int_info : (Tryz.prog.info? 3).map (fun i => (i.zero, i.size, i.bytes)) = some (some (.int .i64 0), 1, 8) := by kernel_rfl

set_option maxHeartbeats 1600000 in
theorem starts_in (w : World) (c n : Int) (m : Nat) (h : Cls c n m) :
    Calls Tryz.prog 130 #[.int .i64 c] w fun e w' => ∃ v, e = .returned v ∧ w'.ownsRow w.heap.size 3 1 v m (lstC n m) ∧ Kp [] w w' := by
  obtain ⟨i0, hi, hz0, hz1, hz2⟩ := info_parts int_info
  have hn : 2 ≤ n ∧ n ≤ 9 := by rcases h with ⟨rfl, rfl, rfl⟩ | ⟨rfl, rfl, rfl⟩ | ⟨rfl, rfl, rfl⟩ | ⟨rfl, rfl, rfl⟩ <;> omega
  obtain ⟨hn1, hn2⟩ := hn
  have hwd : wdC c = n := by rcases h with ⟨rfl, rfl, rfl⟩ | ⟨rfl, rfl, rfl⟩ | ⟨rfl, rfl, rfl⟩ | ⟨rfl, rfl, rfl⟩ <;> rfl
  have W := rwords_is w c n hwd
  have hstep : ∀ (k : Nat) (a : Int), n * k ≤ a → a ≤ n * k → (a + n ≤ 32 ↔ k < m) := by
    rcases h with ⟨rfl, rfl, rfl⟩ | ⟨rfl, rfl, rfl⟩ | ⟨rfl, rfl, rfl⟩ | ⟨rfl, rfl, rfl⟩ <;> intro k a h1 h2 <;> omega
  have hle : ∀ (k : Nat) (a : Int), k ≤ m → n * k ≤ a → a ≤ n * k → 0 ≤ a ∧ a ≤ 32 := by
    rcases h with ⟨rfl, rfl, rfl⟩ | ⟨rfl, rfl, rfl⟩ | ⟨rfl, rfl, rfl⟩ | ⟨rfl, rfl, rfl⟩ <;> intro k a h0 h1 h2 <;> omega
  have hm : m ≤ 16 := by rcases h with ⟨rfl, rfl, rfl⟩ | ⟨rfl, rfl, rfl⟩ | ⟨rfl, rfl, rfl⟩ | ⟨rfl, rfl, rfl⟩ <;> omega
  have HS := Lib.hid hstep
  have HL := Lib.hid hle
  clear hstep hle hwd h
  go_enter Tryz.func130, Tryz.ntmps130
  go_wp2_with ((refine W.mono ?_); rintro e w' ⟨rfl, rfl⟩)
  go_loopw [3, 5] (fun v i wr => ∃ (k : Nat) (a : Int), k ≤ m ∧ i = .int .i64 a ∧ StRel w n k v a wr) (fun _ i _ => 64 - (intOf i).toNat)
  case atStart => exact ⟨0, 0, by omega, rfl, World.ownsRow_nil _ _ _ _, Kp.refl _ _, by simp, by simp⟩
  case round =>
    obtain ⟨k, a, hk, rfl, R⟩ := hrel
    obtain ⟨ha0, ha1⟩ := HL.out k a hk R.lo R.hi
    by_cases hlt : k < m
    · have hgo : a + n ≤ 32 := (HS.out k a R.lo R.hi).2 hlt
      go_wp2_with (at_builtin; refine wpList_append_own _ rfl _ _ 52 rfl w.heap.size 3 i0 (.int .i64 0) 1 8 Tryz.underlying52 hi hz0 hz1 hz2 rfl (by decide) _ _ _ rfl (R.own.alloc _) ⟨wr.heap.size, 0, none⟩ 1 1 [.int .i64 a] rfl rfl ?c1 ?c2 ?c3 ?c4 ?c5 ?_)
      case c1 =>
        intro j u hj
        match j, hj with
        | 0, hj => simp at hj; subst hj; simp [Addr.add]
      case c2 => intro u hu; simp at hu; subst hu; rfl
      case c3 => unfold maxLen; omega
      case c4 => omega
      case c5 => have := R.keep.size; simp; omega
      intro v' w1 hown' hgrow _
      have R2 := R.step hown' hgrow
      clear hown' hgrow R
      go_wp2
      go_roundw
      case rel => exact ⟨k + 1, a + n, by omega, rfl, R2⟩
      case measure => simp [intOf]; omega
    · have hkm : k = m := by omega
      have hgo : ¬ a + n ≤ 32 := fun h => hlt ((HS.out k a R.lo R.hi).1 h)
      subst hkm
      go_wp2
      go_ret
      exact ⟨_, rfl, R.own, R.keep⟩

end Go.Proofs.YtbpgkocbfleajaaGreatDoor.Cl
