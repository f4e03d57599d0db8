/- The document's own list (demesneref07): Push. The document's own list (demesneref07): Drop. The document's own list answers what the list answers: its rows are the list's rows turned round. The walks of Place, of the document's own Starts, and of 'wakes'. Conditions: the package's table holds its four numbers. The walks of the document's own heap (demesneref15), on: More. The walks of the document's own heap (demesneref15), on: Make, plainly. Makers, plainly, on: whatever the owners do, words and lists stay fit. The walks of package alloc: Make of what goes into a run; what may not be. Conditions: as each theorem states them. -/
import Derived.RangeFuncBox
import Derived.OwnWalk
import Derived.Test.YticbnckikkdknaaGreatDoorPn01
import Derived.Test.YticbnckikkdknaaGreatDoorPn04
import Derived.Test.YticbnckikkdknaaGreatDoorPn08
import Derived.Test.YticbnckikkdknaaGreatDoorPn10
namespace Go.Proofs.YticbnckikkdknaaGreatDoor.Li
set_option linter.unusedVariables false
set_option linter.unusedSimpArgs false
set_option maxRecDepth 100000
open Go.RowKit

theorem Pre.on {w w2 w3 : World} {us : Nat → Value} {Q : Nat → List Int} (h : Pre w w2 us Q) (k : Kp [] w2 w3) : Pre w w3 us Q := by
  obtain ⟨old, ho, hs⟩ := h.hb2
  exact ⟨k.row (by simp) h.hb1, ⟨old, k.row (by simp) ho, hs⟩, h.kp.trans k, fun c hc => (h.rd c hc).keep0 k⟩

theorem rpush_bad (w : World) (us : Nat → Value) (Q : Nat → List Int) (c x : Int) (h : (c < 0 ∨ 4 ≤ c) ∨ (¬ (c < 0 ∨ 4 ≤ c) ∧ x < 1)) (hq : ∀ c, c < 4 → Rd w (us c) (Q c)) :
    Calls Tryz.prog 86 #[.agg #[us 0, us 1, us 2, us 3], .int .i64 c, .int .i64 x] w fun e w' => e = .returned (.tuple #[.agg #[us 0, us 1, us 2, us 3], .int .i64 2]) ∧ Kp [] w w' := by
  have h1 := ones hq
  have H := pre_of w us Q hq
  obtain ⟨w2, hw2⟩ : ∃ w2, (w.alloc (.cells #[us 0, us 1, us 2, us 3] 72)).alloc (.cells #[.slice none 0 0, .slice none 0 0, .slice none 0 0, .slice none 0 0] 72) = w2 := ⟨_, rfl⟩
  rw [hw2] at H
  obtain ⟨⟨old, ho, hs⟩, f2, f3⟩ := H.fin (Kp.refl _ w2) #[us 0, us 1, us 2, us 3]
  have c0 := H.cell (c := 0) (by omega)
  have c1 := H.cell (c := 1) (by omega)
  have c2 := H.cell (c := 2) (by omega)
  have c3 := H.cell (c := 3) (by omega)
  have HB := Lib.hid (And.intro h1 (And.intro ho (And.intro hs (And.intro f2 f3))))
  clear h1 hq H ho hs f2 f3
  rcases h with (h | h) | ⟨hc, hx⟩
  · go_enter Tryz.func86, Tryz.ntmps86
    go_wp2_with (refine wpList_store_row rfl 72 _ _ rfl (w.heap.size + 1) _ rfl rfl 72 _ HB.out.2.1 (by kernel_rfl) HB.out.2.2.1 HB.out.1 ?_)
    exact bodyPost_row_tmp rfl (w.heap.size + 1) 72 _ (0, 0) _ (.int .i64 2) rfl rfl rfl HB.out.2.2.2.1 Tryz.underlying72 rfl (by kernel_rfl) ⟨rfl, HB.out.2.2.2.2⟩
  · have h1 : ¬ c < 0 := by omega
    have h2 : 3 < c := by omega
    go_enter Tryz.func86, Tryz.ntmps86
    go_wp2_with (refine wpList_store_row rfl 72 _ _ rfl (w.heap.size + 1) _ rfl rfl 72 _ HB.out.2.1 (by kernel_rfl) HB.out.2.2.1 HB.out.1 ?_)
    exact bodyPost_row_tmp rfl (w.heap.size + 1) 72 _ (0, 0) _ (.int .i64 2) rfl rfl rfl HB.out.2.2.2.1 Tryz.underlying72 rfl (by kernel_rfl) ⟨rfl, HB.out.2.2.2.2⟩
  · have h1 : ¬ c < 0 := by omega
    have h2 : ¬ 3 < c := by omega
    go_enter Tryz.func86, Tryz.ntmps86
    go_wp2_with (refine wpList_store_row rfl 72 _ _ rfl (w.heap.size + 1) _ rfl rfl 72 _ HB.out.2.1 (by kernel_rfl) HB.out.2.2.1 HB.out.1 ?_)
    exact bodyPost_row_tmp rfl (w.heap.size + 1) 72 _ (0, 0) _ (.int .i64 2) rfl rfl rfl HB.out.2.2.2.1 Tryz.underlying72 rfl (by kernel_rfl) ⟨rfl, HB.out.2.2.2.2⟩

theorem rpush_has (w : World) (us : Nat → Value) (Q : Nat → List Int) (c : Nat) (x : Int) (hc : c < 4) (hx : 1 ≤ x) (hh : hasB Q x = true) (hq : ∀ c, c < 4 → Rd w (us c) (Q c)) (hn : Len Q 1000) :
    Calls Tryz.prog 86 #[.agg #[us 0, us 1, us 2, us 3], .int .i64 c, .int .i64 x] w fun e w' => e = .returned (.tuple #[.agg #[us 0, us 1, us 2, us 3], .int .i64 6]) ∧ Kp [] w w' := by
  have h1 := ones hq
  have H := pre_of w us Q hq
  obtain ⟨w2, hw2⟩ : ∃ w2, (w.alloc (.cells #[us 0, us 1, us 2, us 3] 72)).alloc (.cells #[.slice none 0 0, .slice none 0 0, .slice none 0 0, .slice none 0 0] 72) = w2 := ⟨_, rfl⟩
  rw [hw2] at H
  have c0 := H.cell (c := 0) (by omega)
  have c1 := H.cell (c := 1) (by omega)
  have c2 := H.cell (c := 2) (by omega)
  have c3 := H.cell (c := 3) (by omega)
  have hr := rhas_any w2 us Q x H.rd hn
  rw [hh] at hr
  have HH := Lib.hid (And.intro H h1)
  clear H h1 hh hq hn
  go_enter Tryz.func86, Tryz.ntmps86
  go_wp2_with fail
  refine hr.mono ?_
  rintro e w3 ⟨rfl, hk3⟩
  have H3 := HH.out.1.on hk3
  obtain ⟨⟨old, ho, hs⟩, f2, f3⟩ := H3.fin (Kp.refl _ w3) #[us 0, us 1, us 2, us 3]
  have d0 := H3.cell (c := 0) (by omega)
  have d1 := H3.cell (c := 1) (by omega)
  have d2 := H3.cell (c := 2) (by omega)
  have d3 := H3.cell (c := 3) (by omega)
  have HB := Lib.hid (And.intro HH.out.2 (And.intro ho (And.intro hs (And.intro f2 f3))))
  clear H3 ho hs f2 f3 hk3 c0 c1 c2 c3 hr
  go_wp2_with (refine wpList_store_row rfl 72 _ _ rfl (w.heap.size + 1) _ rfl rfl 72 _ HB.out.2.1 (by kernel_rfl) HB.out.2.2.1 HB.out.1 ?_)
  exact bodyPost_row_tmp rfl (w.heap.size + 1) 72 _ (0, 0) _ (.int .i64 6) rfl rfl rfl HB.out.2.2.2.1 Tryz.underlying72 rfl (by kernel_rfl) ⟨rfl, HB.out.2.2.2.2⟩

/-- What is appended to a row of one: its cells, where there are any. -/
theorem Rd.news {w : World} {u : Value} {xs : List Int} (h : Rd w u xs) : (u = .slice none 0 0 ∧ xs = []) ∨ ∃ ad cap, u = .slice (some ad) xs.length cap ∧ ∀ w', Kp [] w w' → ∀ j v, (ints xs)[j]? = some v → w'.cell? (ad.add j) = some v := by
  have h' := h
  obtain ⟨ao, cap, rfl, hc, hz, hx⟩ := h.form
  cases ao with
  | none =>
    obtain rfl := hz rfl
    have : xs = [] := List.eq_nil_of_length_eq_zero (by omega)
    subst this
    exact .inl ⟨rfl, rfl⟩
  | some ad =>
    refine .inr ⟨ad, cap, rfl, fun w' k j v hv => ?_⟩
    have hj : j < xs.length := by
      have := (List.getElem?_eq_some_iff.1 hv).1
      simpa [ints] using this
    obtain ⟨g, o, e, hcell⟩ := hx (fun e => by subst e; simp at hj)
    cases e
    have := hcell j hj
    rw [Addr.add_lit, (World.cell?_of_block (a := ⟨g, o + j, none⟩) (k.block g (block_lt_of_cell this) (by simp))).trans this, ← ints_get xs j hj]
    exact hv

/-- The list's block behind a slice is stored. -/
theorem Pre.stored {w w5 : World} {us : Nat → Value} {Q : Nat → List Int} (h : Pre w w5 us Q) {c : Nat} (hc : c < 4) (V : Value) :
    (w5.setCell ⟨w.heap.size, c, none⟩ V).heap[w.heap.size]? = some (.cells #[updV us c V 0, updV us c V 1, updV us c V 2, updV us c V 3] 72 (0, 0)) := by
  rw [heap_setCell_same _ _ _ _ _ _ h.hb1]
  rcases four hc with rfl | rfl | rfl | rfl <;> simp [updV]

theorem ints_cons (x : Int) (xs : List Int) : ints (x :: xs) = [.int .i64 x] ++ ints xs := rfl

/-- All that is behind the append. -/
structure PushEnd (w w5 : World) (us : Nat → Value) (Q : Nat → List Int) (c : Nat) (x : Int) (V : Value) : Prop where
  pre : Pre w w5 us Q
  one : (#[updV us c V 0, updV us c V 1, updV us c V 2, updV us c V 3] : Array Value).all (·.oneCell') = true
  hb : (w5.setCell ⟨w.heap.size, c, none⟩ V).heap[w.heap.size]? = some (.cells #[updV us c V 0, updV us c V 1, updV us c V 2, updV us c V 3] 72 (0, 0))
  old : ∃ old, (w5.setCell ⟨w.heap.size, c, none⟩ V).heap[w.heap.size + 1]? = some (.cells old 72 (0, 0)) ∧ old.size = 4
  res : ((w5.setCell ⟨w.heap.size, c, none⟩ V).setRow (w.heap.size + 1) #[updV us c V 0, updV us c V 1, updV us c V 2, updV us c V 3]).heap[w.heap.size + 1]? = some (.cells #[updV us c V 0, updV us c V 1, updV us c V 2, updV us c V 3] 72 (0, 0))
  kp : Kp [] w ((w5.setCell ⟨w.heap.size, c, none⟩ V).setRow (w.heap.size + 1) #[updV us c V 0, updV us c V 1, updV us c V 2, updV us c V 3])
  rd : ∀ d, d < 4 → Rd ((w5.setCell ⟨w.heap.size, c, none⟩ V).setRow (w.heap.size + 1) #[updV us c V 0, updV us c V 1, updV us c V 2, updV us c V 3]) (updV us c V d) (upd Q c (x :: Q c) d)
  blk : ∀ d, d < 4 → ∀ y ∈ blk (updV us c V d), y ∈ blk (us d) ∨ (w.heap.size ≤ y ∧ y < ((w5.setCell ⟨w.heap.size, c, none⟩ V).setRow (w.heap.size + 1) #[updV us c V 0, updV us c V 1, updV us c V 2, updV us c V 3]).heap.size)

theorem pushEnd {w w5 : World} {us : Nat → Value} {Q : Nat → List Int} {c : Nat} {x : Int} {V : Value} (h : Pre w w5 us Q) (hc : c < 4) (hlt : ∀ d, d < 4 → ∀ y ∈ blk (us d), y < w.heap.size)
    (hV : Rw w5 V (x :: Q c)) (hge : ∀ y ∈ blk V, w.heap.size + 2 ≤ y) : PushEnd w w5 us Q c x V := by
  have k3 : Kp [w.heap.size] w5 (w5.setCell ⟨w.heap.size, c, none⟩ V) := (Kp.refl _ _).setCell (.inl (by simp)) _
  obtain ⟨r1, r2⟩ := rows_lt (N := 0) hlt
  have hf := h.fin k3 #[updV us c V 0, updV us c V 1, updV us c V 2, updV us c V 3]
  have hV' := (Rd.of_rw hV).keep k3 (fun y hy hy' => by have := hge y hy; simp at hy'; omega)
  have han := h.answer _ k3 #[updV us c V 0, updV us c V 1, updV us c V 2, updV us c V 3] c V (x :: Q c) hV' (fun y hy => .inr (by have := hge y hy; have := hV.lt y hy; rw [World.size_setCell]; omega)) r1 (fun y hy => by have := hge y hy; omega) r2
  have ho : ∀ d, d < 4 → (updV us c V d).oneCell' = true := fun d hd => by
    by_cases e : d = c
    · subst e; rw [updV_same]; exact (Rd.of_rw hV).one
    · rw [updV_ne _ _ _ _ e]; exact (h.rd d hd).one
  exact ⟨h, ones_of (ho 0 (by omega)) (ho 1 (by omega)) (ho 2 (by omega)) (ho 3 (by omega)), h.stored hc V, hf.1, hf.2.1, han.1, han.2.1, han.2.2⟩

set_option maxHeartbeats 1000000 in
theorem rpush_good (w : World) (us : Nat → Value) (Q : Nat → List Int) (c : Nat) (x : Int) (hc : c < 4) (hx : 1 ≤ x) (hh : hasB Q x = false) (hq : ∀ c, c < 4 → Rd w (us c) (Q c)) (hn : Len Q 1000) (hlt : ∀ d, d < 4 → ∀ y ∈ blk (us d), y < w.heap.size) :
    Calls Tryz.prog 86 #[.agg #[us 0, us 1, us 2, us 3], .int .i64 c, .int .i64 x] w fun e w' => ∃ us' : Nat → Value, e = .returned (.tuple #[.agg #[us' 0, us' 1, us' 2, us' 3], .int .i64 0]) ∧ Kp [] w w' ∧ (∀ d, d < 4 → Rd w' (us' d) (upd Q c (x :: Q c) d)) ∧ ∀ d, d < 4 → ∀ y ∈ blk (us' d), y ∈ blk (us d) ∨ (w.heap.size ≤ y ∧ y < w'.heap.size) := by
  have H := pre_of w us Q hq
  have hw2s : ((w.alloc (.cells #[us 0, us 1, us 2, us 3] 72)).alloc (.cells #[.slice none 0 0, .slice none 0 0, .slice none 0 0, .slice none 0 0] 72)).heap.size = w.heap.size + 2 := by simp
  obtain ⟨w2, hw2⟩ : ∃ w2, (w.alloc (.cells #[us 0, us 1, us 2, us 3] 72)).alloc (.cells #[.slice none 0 0, .slice none 0 0, .slice none 0 0, .slice none 0 0] 72) = w2 := ⟨_, rfl⟩
  rw [hw2] at H hw2s
  have c0 := H.cell (c := 0) (by omega)
  have c1 := H.cell (c := 1) (by omega)
  have c2 := H.cell (c := 2) (by omega)
  have c3 := H.cell (c := 3) (by omega)
  have hr := rhas_any w2 us Q x H.rd hn
  rw [hh] at hr
  have hnc := hn c hc
  obtain ⟨i0, hi, hz0, hz1, hz2⟩ := info_parts int_info
  have HH := Lib.hid (And.intro H (And.intro hlt hw2s))
  have HQ := Lib.hid (hq c hc)
  clear H hh hq hn hlt hw2s
  go_enter Tryz.func86, Tryz.ntmps86
  go_wp2_with fail
  refine hr.mono ?_
  rintro e w3 ⟨rfl, hk3⟩
  have H3 := HH.out.1.on hk3
  have hs3 : w.heap.size + 2 ≤ w3.heap.size := by rw [← HH.out.2.2]; exact hk3.size
  have d0 := H3.cell hc
  have hq3 := H3.rd c hc
  have HP := Lib.hid H3
  clear H3 hk3 c0 c1 c2 c3 hr hw2
  have hown := World.ownsRow_lit (base := w.heap.size + 2) (e := 3) (size := 1) w3 #[.int .i64 x] 1 hs3 (by decide) rfl
  rcases hq3.news with ⟨hu, h0⟩ | ⟨ad, cap, hu, hnews⟩
  · rw [hu] at d0
    have hap : ∀ ty, (Builtin.append_ #[46, 46] ty #[.slice (some ⟨w3.heap.size, 0, none⟩) 1 1, .slice none 0 0]).run Tryz.prog (w3.alloc (.cells #[.int .i64 x] 3)) = .ok (.slice (some ⟨w3.heap.size, 0, none⟩) 1 1) (w3.alloc (.cells #[.int .i64 x] 3)) :=
      fun ty => run_append_owned_none _ _ 46 ty 3 i0 1 Tryz.underlying46 hi _ 1 _ hown
    have hk4 : Kp [] w3 (w3.alloc (.cells #[.int .i64 x] 3)) := (Kp.refl _ _).alloc _
    have hrw : Rw (w3.alloc (.cells #[.int .i64 x] 3)) (.slice (some ⟨w3.heap.size, 0, none⟩) 1 1) (x :: Q c) := by
      rw [h0]; exact Rw.of_own hown
    have E := Lib.hid (pushEnd (HP.out.on hk4) hc HH.out.2.1 hrw (fun y hy => by rw [blk_some, List.mem_singleton] at hy; omega))
    have d5 := E.out.pre.cell hc
    rw [hu] at d5
    have f5 := free_of_row E.out.pre.hb1 c
    obtain ⟨old, ho, hs⟩ := E.out.old
    have HO := Lib.hid (And.intro ho hs)
    clear hown hk4 hrw hq3 ho hs h0 hu d0
    go_wp2_with (first
      | (refine wpList_load_row rfl 72 _ rfl w.heap.size rfl 72 _ _ _ E.out.hb Tryz.underlying72 rfl (by kernel_rfl) ?_)
      | (refine wpList_store_row rfl 72 _ _ rfl (w.heap.size + 1) _ rfl rfl 72 _ HO.out.1 (by kernel_rfl) HO.out.2 E.out.one ?_))
    exact bodyPost_row_tmp rfl (w.heap.size + 1) 72 _ (0, 0) _ (.int .i64 0) rfl rfl rfl E.out.res Tryz.underlying72 rfl (by kernel_rfl) ⟨_, rfl, E.out.kp, E.out.rd, E.out.blk⟩
  · rw [hu] at d0
    have hk4 : Kp [] w3 (w3.alloc (.cells #[.int .i64 x] 3)) := (Kp.refl _ _).alloc _
    have hnw := hnews _ hk4
    have d4 := (HP.out.on hk4).cell hc
    rw [hu] at d4
    have HW := Lib.hid (And.intro hown hnw)
    have HV := Lib.hid hu
    have hlx : (x :: Q c).length = 1 + (Q c).length := by rw [List.length_cons]; omega
    have HLX := Lib.hid hlx
    clear hown hk4 hq3 hu hnews hnw hlx
    go_wp2_with (first
      | (refine wpList_load_row rfl 72 _ rfl w.heap.size rfl 72 _ _ _ E.out.hb Tryz.underlying72 rfl (by kernel_rfl) ?_)
      | (refine wpList_store_row rfl 72 _ _ rfl (w.heap.size + 1) _ rfl rfl 72 _ HO.out.1 (by kernel_rfl) HO.out.2 E.out.one ?_)
      | (at_builtin; refine wpList_append_own _ rfl _ _ 46 rfl (w.heap.size + 2) 3 i0 (.int .i64 0) 1 8 Tryz.underlying46 hi hz0 hz1 hz2 rfl (by decide) _ 1 _ rfl HW.out.1 ad (Q c).length cap (ints (Q c)) rfl (by simp [ints]) HW.out.2 (by intro u hu; obtain ⟨_, _, rfl⟩ := List.mem_map.1 hu; rfl) (by unfold maxLen; omega) (by omega) (by simp; omega) ?_
         intro V w5 hown5 hg5 _
         have hrw : Rw w5 V (x :: Q c) := Rw.of_own (base := w.heap.size + 2) (by rw [HLX.out, ints_cons]; exact hown5)
         have hge : ∀ y ∈ blk V, w.heap.size + 2 ≤ y := fun y hy => (hown5.lt y (by unfold blk at hy; rwa [Option.mem_toList] at hy)).1
         have hk5 : Kp [] w3 w5 := ((Kp.refl [] w3).alloc _).grown hg5 (fun k e => .inr (by simp only [Value.ownBlock] at e; cases e; exact Nat.le_refl _))
         have E := Lib.hid (pushEnd (HP.out.on hk5) hc HH.out.2.1 hrw hge)
         have d5 := E.out.pre.cell hc
         have f5 := free_of_row E.out.pre.hb1 c
         obtain ⟨a5, cap5, hV5⟩ := hrw.form
         subst hV5
         obtain ⟨old, ho, hs⟩ := E.out.old
         have HO := Lib.hid (And.intro ho hs)
         clear hown5 hg5 hk5 hrw hge ho hs d0 d4))
    exact bodyPost_row_tmp rfl (w.heap.size + 1) 72 _ (0, 0) _ (.int .i64 0) rfl rfl rfl E.out.res Tryz.underlying72 rfl (by kernel_rfl) ⟨_, rfl, E.out.kp, E.out.rd, E.out.blk⟩

end Go.Proofs.YticbnckikkdknaaGreatDoor.Li

namespace Go.Proofs.YticbnckikkdknaaGreatDoor.Li
set_option linter.unusedVariables false
set_option linter.unusedSimpArgs false
set_option maxRecDepth 100000
open Go.RowKit

theorem Pre.onS {w w2 w3 : World} {us : Nat → Value} {Q : Nat → List Int} {S : List Nat} {B : Nat} (h : Pre w w2 us Q) (k : Kp S w2 w3) (hS : ∀ x ∈ S, B ≤ x) (hB : w.heap.size + 2 ≤ B) (hlt : ∀ d, d < 4 → ∀ y ∈ blk (us d), y < B) : Pre w w3 us Q := by
  obtain ⟨old, ho, hs⟩ := h.hb2
  refine ⟨k.row (fun e => by have := hS _ e; omega) h.hb1, ⟨old, k.row (fun e => by have := hS _ e; omega) ho, hs⟩, ?_, fun c hc => (h.rd c hc).keep k (fun g hg e => by have := hS _ e; have := hlt c hc g hg; omega)⟩
  exact ⟨k.os.trans h.kp.os, k.tape.trans h.kp.tape, k.output.trans h.kp.output, Nat.le_trans h.kp.size k.size, fun i hi _ => (k.block i (Nat.lt_of_lt_of_le hi h.kp.size) (fun e => by have := hS _ e; omega)).trans (h.kp.block i hi (by simp))⟩

/-- Between two rows. -/
structure DO (w : World) (us : Nat → Value) (Q : Nat → List Int) (f t : Int) (c : Nat) (wr : World) (us' : Nat → Value) : Prop where
  pre : Pre w wr us' (Rk Q f t c)
  bl : ∀ d, d < 4 → ∀ y ∈ blk (us' d), y ∈ blk (us d) ∨ w.heap.size ≤ y
  lt : ∀ d, d < 4 → ∀ y ∈ blk (us' d), y < wr.heap.size
  sz : w.heap.size + 2 ≤ wr.heap.size
/-- Within a row. -/
structure DI (w w0 : World) (us' : Nat → Value) (Q : Nat → List Int) (f t : Int) (c i : Nat) (v : Value) (wi : World) : Prop where
  pre : Pre w wi us' (Rk Q f t c)
  own : wi.ownsRow w0.heap.size 3 1 v (left f t ((Q c).take i)).length (ints (left f t ((Q c).take i)))
  sz : w0.heap.size ≤ wi.heap.size

theorem left_yes {f t : Int} {xs : List Int} {i : Nat} (hi : i < xs.length) (h : goes f t (xs.getD i 0) = false) : left f t (xs.take (i + 1)) = left f t (xs.take i) ++ [xs.getD i 0] := by
  rw [getD_lt _ _ hi] at h ⊢
  unfold left
  rw [List.take_succ_eq_append_getElem hi, List.filter_append]
  simp [h]
theorem DI.push {w w0 wi w5 : World} {us' : Nat → Value} {Q : Nat → List Int} {f t : Int} {c i : Nat} {v v' : Value} {x : Int} (h : DI w w0 us' Q f t c i v wi) (hi : i < (Q c).length) (hx : (Q c).getD i 0 = x) (hg : goes f t x = false) {o : Obj} (hs0 : w.heap.size + 2 ≤ w0.heap.size) (hlt : ∀ d, d < 4 → ∀ y ∈ blk (us' d), y < w0.heap.size)
    (hown : w5.ownsRow w0.heap.size 3 1 v' ((left f t ((Q c).take i)).length + 1) (ints (left f t ((Q c).take i)) ++ [.int .i64 x])) (hgr : (wi.alloc o).grownBy w5 v.ownBlock) : DI w w0 us' Q f t c (i + 1) v' w5 := by
  have hk : Kp (blk v) wi w5 := ((Kp.refl _ _).alloc o).trans (kp_of_row hgr)
  refine ⟨h.pre.onS hk (fun y hy => ?_) hs0 hlt, ?_, Nat.le_trans h.sz hk.size⟩
  · unfold blk at hy
    rw [Option.mem_toList] at hy
    exact (h.own.lt y hy).1
  · rw [left_yes hi (by rw [hx]; exact hg), hx, List.length_append, ints_snoc]
    exact hown

theorem DI.fin {w w0 wi : World} {us us' : Nat → Value} {Q : Nat → List Int} {f t : Int} {c : Nat} {v : Value} (h : DI w w0 us' Q f t c (Q c).length v wi) (hc : c < 4) (bl : ∀ d, d < 4 → ∀ y ∈ blk (us' d), y ∈ blk (us d) ∨ w.heap.size ≤ y) (hs0 : w.heap.size + 2 ≤ w0.heap.size) (hlt : ∀ d, d < 4 → ∀ y ∈ blk (us' d), y < w0.heap.size) (hne : ∀ d, d < 4 → ∀ y ∈ blk (us' d), y ≠ w.heap.size) :
    DO w us Q f t (c + 1) (wi.setCell ⟨w.heap.size, c, none⟩ v) (updV us' c v) := by
  have k3 : Kp [w.heap.size] wi (wi.setCell ⟨w.heap.size, c, none⟩ v) := (Kp.refl _ _).setCell (.inl (by simp)) _
  have hown := h.own
  rw [List.take_length] at hown
  have hR : Rw wi v (left f t (Q c)) := Rw.of_own hown
  have hge : ∀ y ∈ blk v, w0.heap.size ≤ y ∧ y < wi.heap.size := fun y hy => by
    unfold blk at hy
    rw [Option.mem_toList] at hy
    exact hown.lt y hy
  obtain ⟨old, ho, hs⟩ := h.pre.hb2
  have hkp := h.pre.kp
  refine ⟨⟨h.pre.stored hc v, ⟨old, k3.row (by simp) ho, hs⟩, ?_, ?_⟩, ?_, ?_, ?_⟩
  · exact ⟨k3.os.trans hkp.os, k3.tape.trans hkp.tape, k3.output.trans hkp.output, Nat.le_trans hkp.size k3.size, fun j hj _ => (k3.block j (Nat.lt_of_lt_of_le hj hkp.size) (by rw [List.mem_singleton]; omega)).trans (hkp.block j hj (by simp))⟩
  · intro d hd
    rw [← Rk_upd]
    by_cases e : d = c
    · subst e
      rw [updV_same, upd_same]
      exact (Rd.of_rw hR).keep k3 (fun g hg hg' => by have := hge g hg; simp at hg'; omega)
    · rw [updV_ne _ _ _ _ e, upd_ne _ _ _ _ e]
      exact (h.pre.rd d hd).keep k3 (fun g hg hg' => hne d hd g hg (by simpa using hg'))
  · intro d hd y hy
    by_cases e : d = c
    · subst e
      rw [updV_same] at hy
      exact .inr (by have := hge y hy; omega)
    · rw [updV_ne _ _ _ _ e] at hy
      exact bl d hd y hy
  · intro d hd y hy
    rw [World.size_setCell]
    by_cases e : d = c
    · subst e
      rw [updV_same] at hy
      exact (hge y hy).2
    · rw [updV_ne _ _ _ _ e] at hy
      have := hlt d hd y hy
      have := h.sz
      omega
  · rw [World.size_setCell]
    have := h.sz
    omega

end Go.Proofs.YticbnckikkdknaaGreatDoor.Li

namespace Go.Proofs.YticbnckikkdknaaGreatDoor.Li
set_option linter.unusedVariables false
set_option linter.unusedSimpArgs false
set_option maxRecDepth 100000
open Go.RowKit

def rev (R : Nat → List Int) : Nat → List Int := fun d => (R d).reverse
theorem rev_len {R : Nat → List Int} {N : Nat} (h : Len R N) : Len (rev R) N := fun d hd => by
  have := h d hd
  simpa [rev] using this
theorem inR_rev (x : Int) (xs : List Int) : inR x xs.reverse = inR x xs := by simp [inR]
theorem inK_rev (R : Nat → List Int) (x : Int) : ∀ k, inK (rev R) x k = inK R x k
  | 0 => rfl
  | k + 1 => by rw [inK, inK, inK_rev R x k]; simp only [rev, inR_rev]
theorem hasB_rev (R : Nat → List Int) (x : Int) : hasB (rev R) x = hasB R x := inK_rev R x 4
theorem upd_rev (R : Nat → List Int) (c d : Nat) (xs : List Int) : upd (rev R) c xs.reverse d = rev (upd R c xs) d := by
  by_cases h : d = c <;> simp [upd, rev, h]

/-- The rows of the document's own list. -/
def Rows4 (w : World) (us : Nat → Value) (R : Nat → List Int) : Prop := ∀ d, d < 4 → Rd w (us d) (rev R d)
def Lt4 (us : Nat → Value) (n : Nat) : Prop := ∀ d, d < 4 → ∀ y ∈ blk (us d), y < n
def Bl4 (us us' : Nat → Value) (n m : Nat) : Prop := ∀ d, d < 4 → ∀ y ∈ blk (us' d), y ∈ blk (us d) ∨ (n ≤ y ∧ y < m)
theorem bl_refl (us : Nat → Value) (n m : Nat) : Bl4 us us n m := fun _ _ _ hy => .inl hy

theorem rpush_is (w : World) (us : Nat → Value) (R : Nat → List Int) (c x : Int) (hq : Rows4 w us R) (hn : Len R 1000) (hlt : Lt4 us w.heap.size) :
    Calls Tryz.prog 86 #[.agg #[us 0, us 1, us 2, us 3], .int .i64 c, .int .i64 x] w fun e w' => ∃ us' : Nat → Value, e = .returned (.tuple #[.agg #[us' 0, us' 1, us' 2, us' 3], .int .i64 (pushE R c x)]) ∧ Kp [] w w' ∧ Rows4 w' us' (pushR R c x) ∧ Bl4 us us' w.heap.size w'.heap.size := by
  unfold pushR pushE
  cases hb : badC c with
  | true =>
    simp only [if_true, show ¬ ((2 : Int) = 0) from by decide, if_false]
    refine (rpush_bad w us _ c x (.inl (badC_iff.1 hb)) hq).mono ?_
    rintro e w' ⟨rfl, hk⟩
    exact ⟨us, rfl, hk, fun d hd => (hq d hd).keep0 hk, bl_refl _ _ _⟩
  | false =>
    obtain ⟨k, rfl, hk⟩ := goodC hb
    simp only [Bool.false_eq_true, if_false, Int.toNat_natCast]
    by_cases hx : x < 1
    · simp only [if_pos hx, show ¬ ((2 : Int) = 0) from by decide, if_false]
      refine (rpush_bad w us _ k x (.inr ⟨by omega, hx⟩) hq).mono ?_
      rintro e w' ⟨rfl, hk⟩
      exact ⟨us, rfl, hk, fun d hd => (hq d hd).keep0 hk, bl_refl _ _ _⟩
    · simp only [if_neg hx]
      cases hh : hasB R x with
      | true =>
        simp only [if_true, show ¬ ((6 : Int) = 0) from by decide, if_false]
        refine (rpush_has w us _ k x hk (by omega) (by rw [hasB_rev]; exact hh) hq (rev_len hn)).mono ?_
        rintro e w' ⟨rfl, hk'⟩
        exact ⟨us, rfl, hk', fun d hd => (hq d hd).keep0 hk', bl_refl _ _ _⟩
      | false =>
        simp only [Bool.false_eq_true, if_false, if_true]
        refine (rpush_good w us _ k x hk (by omega) (by rw [hasB_rev]; exact hh) hq (rev_len hn) hlt).mono ?_
        rintro e w' ⟨us', rfl, hk', hr, hb'⟩
        refine ⟨us', rfl, hk', fun d hd => ?_, hb'⟩
        have := hr d hd
        rw [show x :: rev R k = (R k ++ [x]).reverse from by simp [rev], upd_rev] at this
        exact this

theorem rpop_is (w : World) (us : Nat → Value) (R : Nat → List Int) (c : Int) (hq : Rows4 w us R) (hn : Len R 1000) (hlt : Lt4 us w.heap.size) :
    Calls Tryz.prog 101 #[.agg #[us 0, us 1, us 2, us 3], .int .i64 c] w fun e w' => ∃ us' : Nat → Value, e = .returned (.tuple #[.agg #[us' 0, us' 1, us' 2, us' 3], .int .i64 (popX R c), .int .i64 (popE R c)]) ∧ Kp [] w w' ∧ Rows4 w' us' (popR R c) ∧ Bl4 us us' w.heap.size w'.heap.size := by
  unfold popX popR popE
  cases hb : badC c with
  | true =>
    simp only [if_true, show ¬ ((2 : Int) = 0) from by decide, if_false]
    refine (rpop_bad w us _ c (badC_iff.1 hb) hq).mono ?_
    rintro e w' ⟨rfl, hk⟩
    exact ⟨us, rfl, hk, fun d hd => (hq d hd).keep0 hk, bl_refl _ _ _⟩
  | false =>
    obtain ⟨k, rfl, hk⟩ := goodC hb
    simp only [Bool.false_eq_true, if_false, Int.toNat_natCast]
    by_cases hx : R k = []
    · simp only [if_pos hx, show ¬ ((5 : Int) = 0) from by decide, if_false]
      refine (rpop_empty w us _ k hk hq (by simp [rev, hx])).mono ?_
      rintro e w' ⟨rfl, hk'⟩
      exact ⟨us, rfl, hk', fun d hd => (hq d hd).keep0 hk', bl_refl _ _ _⟩
    · simp only [if_neg hx, if_true]
      have e := List.dropLast_concat_getLast hx
      have e2 : (R k).getLastD 0 = (R k).getLast hx := by rw [List.getLastD_eq_getLast?, List.getLast?_eq_some_getLast hx]; rfl
      rw [e2]
      have e3 : rev R k = (R k).getLast hx :: (R k).dropLast.reverse := by
        unfold rev
        conv => lhs; rw [← e]
        simp
      refine (rpop_good w us _ k hk hq _ _ e3 (rev_len hn k hk) hlt).mono ?_
      rintro e w' ⟨us', rfl, hk', hr, hb'⟩
      refine ⟨us', rfl, hk', fun d hd => ?_, hb'⟩
      have := hr d hd
      rw [upd_rev] at this
      exact this

theorem Rd.same {w w' : World} {u : Value} {xs : List Int} (h : Rd w u xs) (k : ∀ g ∈ blk u, g < w.heap.size → w'.heap[g]? = w.heap[g]?) : Rd w' u xs := by
  obtain ⟨ao, cap, rfl, hc, hz, hx⟩ := h.form
  refine ⟨ao, cap, rfl, hc, hz, fun hne => ?_⟩
  obtain ⟨g, o, rfl, hcell⟩ := hx hne
  refine ⟨g, o, rfl, fun i hi => ?_⟩
  have := hcell i hi
  exact (World.cell?_of_block (a := ⟨g, o + i, none⟩) (k g (by simp [blk_some]) (block_lt_of_cell this))).trans this

theorem ne_types {w : World} {a b : Nat} {x y : Array Value} {t u : TypeId} (h : w.heap[a]? = some (.cells x t (0, 0))) (k : w.heap[b]? = some (.cells y u (0, 0))) (htu : t ≠ u) : a ≠ b := by
  intro e; subst e
  have := h.symm.trans k
  simp at this
  exact htu this.2
theorem not_own {w : World} {p : Nat} {vs : Nat → Value} {R : Nat → List Int} (L : Ls w p vs R) {b : Nat} {x : Array Value} {t : TypeId} (h : w.heap[b]? = some (.cells x t (0, 0))) (h1 : t ≠ 3) : ¬ Owns vs b := by
  rintro ⟨c, hc, hg⟩
  obtain ⟨cur, hcur⟩ := (L.rw c hc).block b hg
  exact ne_types h hcur h1 rfl

/-- The list at p with rows R; the document's own at b with rows Q. -/
structure PL (w : World) (p b : Nat) (R Q : Nat → List Int) (wr : World) (vs us : Nat → Value) : Prop where
  bag : Bag w p R wr vs
  hb : wr.heap[b]? = some (.cells #[us 0, us 1, us 2, us 3] 72 (0, 0))
  rd : Rows4 wr us Q
  ap : ∀ d, d < 4 → ∀ y ∈ blk (us d), ¬ Owns vs y ∧ y ≠ p ∧ y ≠ b ∧ y < wr.heap.size
  ge : w.heap.size ≤ b

section
variable {w wr w2 : World} {p b : Nat} {R R' Q Q' : Nat → List Int} {vs vs' us us' : Nat → Value}
theorem PL.lt (h : PL w p b R Q wr vs us) : Lt4 us wr.heap.size := fun d hd y hy => (h.ap d hd y hy).2.2.2
theorem PL.lst (h : PL w p b R Q wr vs us) (L : Ls w2 p vs' R') (k : Lk p vs vs' wr w2) : PL w p b R' Q w2 vs' us := by
  have hbp := ne_types h.hb h.bag.ls.hp (by decide)
  refine ⟨h.bag.step L k, k.row hbp (not_own h.bag.ls h.hb (by decide)) h.hb, fun d hd => (h.rd d hd).same (fun g hg hl => k.block g hl (h.ap d hd g hg).2.1 (h.ap d hd g hg).1), fun d hd y hy => ?_, h.ge⟩
  obtain ⟨a1, a2, a4, a3⟩ := h.ap d hd y hy
  refine ⟨fun e => ?_, a2, a4, Nat.lt_of_lt_of_le a3 k.size⟩
  rcases k.own y e with q | q
  · exact a1 q
  · omega
theorem PL.on (h : PL w p b R Q wr vs us) (k : Kp [] wr w2) : PL w p b R Q w2 vs us := h.lst (h.bag.ls.keep0 k) (Lk.of_kp k)
/-- The document's own list is replaced: by a box of its own at y. -/
theorem PL.ref {w3 : World} (h : PL w p b R Q wr vs us) (k : Kp [] wr w2) (hr : Rows4 w2 us' Q') (hbl : Bl4 us us' wr.heap.size w2.heap.size) (k3 : Kp [b, w2.heap.size] w2 w3) (hb2 : w3.heap[b]? = some (.cells #[us' 0, us' 1, us' 2, us' 3] 72 (0, 0))) : PL w p b R Q' w3 vs us' := by
  have hbp := ne_types h.hb h.bag.ls.hp (by decide)
  have hbo := not_own h.bag.ls h.hb (by decide)
  have hbl2 := lt_of_block h.hb
  have h2 := h.on k
  have hS : ∀ x ∈ [b, w2.heap.size], x = b ∨ w2.heap.size ≤ x := by
    intro x hx
    simp only [List.mem_cons, List.not_mem_nil, or_false] at hx
    omega
  have L3 := h2.bag.ls.keep k3 (fun e => by
    rcases hS _ e with q | q
    · exact hbp q.symm
    · have := h2.bag.ls.lt; omega) (fun g hg e => by
    rcases hS _ e with q | q
    · exact hbo (q ▸ hg)
    · have := h2.bag.ls.olt hg; omega)
  have hap : ∀ d, d < 4 → ∀ y ∈ blk (us' d), ¬ Owns vs y ∧ y ≠ p ∧ y ≠ b ∧ y < w2.heap.size := fun d hd y hy => by
    rcases hbl d hd y hy with q | q
    · exact h2.ap d hd y q
    · refine ⟨fun e => ?_, fun e => ?_, fun e => ?_, q.2⟩
      · have := h.bag.ls.olt e; omega
      · have := h.bag.ls.lt; omega
      · omega
  refine ⟨⟨L3, ?_, h.bag.hp, h.bag.ho⟩, hb2, fun d hd => (hr d hd).keep k3 (fun g hg e => ?_), fun d hd y hy => ?_, h.ge⟩
  · exact h2.bag.bel.trans (k3.below h2.bag.bel.size (fun x hx => by
      rcases hS x hx with q | q
      · rw [q]; exact h.ge
      · exact Nat.le_trans h2.bag.bel.size q))
  · obtain ⟨_, _, a3, a4⟩ := hap d hd g hg
    rcases hS g e with q | q
    · exact a3 q
    · omega
  · obtain ⟨a1, a2, a3, a4⟩ := hap d hd y hy
    exact ⟨a1, a2, a3, Nat.lt_of_lt_of_le a4 k3.size⟩
end

end Go.Proofs.YticbnckikkdknaaGreatDoor.Li

namespace Go.Proofs.YticbnckikkdknaaGreatDoor.Cl
set_option maxRecDepth 100000
set_option linter.unusedVariables false
set_option linter.unusedSimpArgs false
open Go.RowKit

/-- A class, its words, its cells. -/
def Cls (c n : Int) (m : Nat) : Prop := (c = 0 ∧ n = 2 ∧ m = 16) ∨ (c = 1 ∧ n = 3 ∧ m = 10) ∨ (c = 2 ∧ n = 5 ∧ m = 6) ∨ (c = 3 ∧ n = 9 ∧ m = 3)

/-- The places n * 0, n * 1, .. -/
def lstC (n : Int) (k : Nat) : List Value := (List.range k).map fun j : Nat => .int .i64 (n * (j : Int))
theorem lst_succ (n : Int) (k : Nat) : lstC n (k + 1) = lstC n k ++ [.int .i64 (n * k)] := by simp [lstC, List.range_succ]
theorem lst_get (n : Int) (m k : Nat) (h : k < m) : (lstC n m)[k]? = some (.int .i64 (n * k)) := by simp [lstC, h]

/-- Ahead of a round of Starts' loop. -/
structure StRel (w : World) (n : Int) (k : Nat) (v : Value) (a : Int) (wr : World) : Prop where
  own : wr.ownsRow w.heap.size 3 1 v k (lstC n k)
  keep : Kp [] w wr
  lo : n * k ≤ a
  hi : a ≤ n * k

theorem StRel.step {w wr w1 : World} {n a : Int} {k : Nat} {v v' : Value} {o : Obj} (h : StRel w n k v a wr) (hown' : w1.ownsRow w.heap.size 3 1 v' (k + 1) (lstC n k ++ [.int .i64 a])) (hg : (wr.alloc o).grownBy w1 v.ownBlock) : StRel w n (k + 1) v' (a + n) w1 := by
  have ha : a = n * k := Int.le_antisymm h.hi h.lo
  refine ⟨?_, (h.keep.alloc o).grown hg (fun j hj => .inr (h.own.lt j hj).1), ?_, ?_⟩
  · rw [lst_succ, ← ha]; exact hown'
  · rw [ha]; push_cast; rw [Int.mul_add, Int.mul_one]; exact Int.le_refl _
  · rw [ha]; push_cast; rw [Int.mul_add, Int.mul_one]; exact Int.le_refl _

theorem int_info : (Tryz.prog.info? 3).map (fun i => (i.zero, i.size, i.bytes)) = some (some (.int .i64 0), 1, 8) := by kernel_rfl

set_option maxHeartbeats 1600000 in
theorem starts_in (w : World) (c n : Int) (m : Nat) (h : Cls c n m) :
    Calls Tryz.prog 85 #[.int .i64 c] w fun e w' => ∃ v, e = .returned v ∧ w'.ownsRow w.heap.size 3 1 v m (lstC n m) ∧ Kp [] w w' := by
  obtain ⟨i0, hi, hz0, hz1, hz2⟩ := info_parts int_info
  have hn : 2 ≤ n ∧ n ≤ 9 := by rcases h with ⟨rfl, rfl, rfl⟩ | ⟨rfl, rfl, rfl⟩ | ⟨rfl, rfl, rfl⟩ | ⟨rfl, rfl, rfl⟩ <;> omega
  obtain ⟨hn1, hn2⟩ := hn
  have hwd : wdC c = n := by rcases h with ⟨rfl, rfl, rfl⟩ | ⟨rfl, rfl, rfl⟩ | ⟨rfl, rfl, rfl⟩ | ⟨rfl, rfl, rfl⟩ <;> rfl
  have W := rwords_is w c n hwd
  have hstep : ∀ (k : Nat) (a : Int), n * k ≤ a → a ≤ n * k → (a + n ≤ 32 ↔ k < m) := by
    rcases h with ⟨rfl, rfl, rfl⟩ | ⟨rfl, rfl, rfl⟩ | ⟨rfl, rfl, rfl⟩ | ⟨rfl, rfl, rfl⟩ <;> intro k a h1 h2 <;> omega
  have hle : ∀ (k : Nat) (a : Int), k ≤ m → n * k ≤ a → a ≤ n * k → 0 ≤ a ∧ a ≤ 32 := by
    rcases h with ⟨rfl, rfl, rfl⟩ | ⟨rfl, rfl, rfl⟩ | ⟨rfl, rfl, rfl⟩ | ⟨rfl, rfl, rfl⟩ <;> intro k a h0 h1 h2 <;> omega
  have hm : m ≤ 16 := by rcases h with ⟨rfl, rfl, rfl⟩ | ⟨rfl, rfl, rfl⟩ | ⟨rfl, rfl, rfl⟩ | ⟨rfl, rfl, rfl⟩ <;> omega
  have HS := Lib.hid hstep
  have HL := Lib.hid hle
  clear hstep hle hwd h
  go_enter Tryz.func85, Tryz.ntmps85
  go_wp2_with ((refine W.mono ?_); rintro e w' ⟨rfl, rfl⟩)
  go_loopw [3, 5] (fun v i wr => ∃ (k : Nat) (a : Int), k ≤ m ∧ i = .int .i64 a ∧ StRel w n k v a wr) (fun _ i _ => 64 - (intOf i).toNat)
  case atStart => exact ⟨0, 0, by omega, rfl, World.ownsRow_nil _ _ _ _, Kp.refl _ _, by simp, by simp⟩
  case round =>
    obtain ⟨k, a, hk, rfl, R⟩ := hrel
    obtain ⟨ha0, ha1⟩ := HL.out k a hk R.lo R.hi
    by_cases hlt : k < m
    · have hgo : a + n ≤ 32 := (HS.out k a R.lo R.hi).2 hlt
      go_wp2_with (at_builtin; refine wpList_append_own _ rfl _ _ 46 rfl w.heap.size 3 i0 (.int .i64 0) 1 8 Tryz.underlying46 hi hz0 hz1 hz2 rfl (by decide) _ _ _ rfl (R.own.alloc _) ⟨wr.heap.size, 0, none⟩ 1 1 [.int .i64 a] rfl rfl ?c1 ?c2 ?c3 ?c4 ?c5 ?_)
      case c1 =>
        intro j u hj
        match j, hj with
        | 0, hj => simp at hj; subst hj; simp [Addr.add]
      case c2 => intro u hu; simp at hu; subst hu; rfl
      case c3 => unfold maxLen; omega
      case c4 => omega
      case c5 => have := R.keep.size; simp; omega
      intro v' w1 hown' hgrow _
      have R2 := R.step hown' hgrow
      clear hown' hgrow R
      go_wp2
      go_roundw
      case rel => exact ⟨k + 1, a + n, by omega, rfl, R2⟩
      case measure => simp [intOf]; omega
    · have hkm : k = m := by omega
      have hgo : ¬ a + n ≤ 32 := fun h => hlt ((HS.out k a R.lo R.hi).1 h)
      subst hkm
      go_wp2
      go_ret
      exact ⟨_, rfl, R.own, R.keep⟩

end Go.Proofs.YticbnckikkdknaaGreatDoor.Cl

namespace Go.Proofs.YticbnckikkdknaaGreatDoor
set_option linter.unusedVariables false
set_option linter.unusedSimpArgs false
set_option maxRecDepth 100000
open Go.RowKit
variable {Bz : Nat}

abbrev zH : Array Value := #[.slice none 0 0, .int .i64 0, .int .i64 0, .int .i64 0]
abbrev zL : Array Value := #[.slice none 0 0, .slice none 0 0, .slice none 0 0, .slice none 0 0]
/-- What More holds: the heap's box, the list's, and the two that it answers by. -/
structure Mo (Bz : Nat) (w0 : World) (vs : Nat → Value) (T G n N db dc : Nat) (us : Nat → Value) (H : List Int) (R : Nat → List Int) (w : World) : Prop where
  r5 : w.heap[w0.heap.size]? = some (.cells #[.slice (some ⟨db, 0, none⟩) N dc, .int .i64 T, .int .i64 G, .int .i64 n] 40 (0, 0))
  r6 : w.heap[w0.heap.size + 1]? = some (.cells #[us 0, us 1, us 2, us 3] 72 (0, 0))
  r10 : w.heap[w0.heap.size + 2]? = some (.cells zH 40 (0, 0))
  r11 : w.heap[w0.heap.size + 3]? = some (.cells zL 72 (0, 0))
  len : H.length = N
  dh : Dh Bz T G n db dc H w
  rd : Li.Rows4 w us R
  lo : ∀ d, d < 4 → ∀ y ∈ Li.blk (us d), (y < w0.heap.size ∨ w0.heap.size + 4 ≤ y) ∧ y < w.heap.size
  kp : Kp [] w0 w
  bl : Li.Bl4 vs us w0.heap.size w.heap.size
section
variable {w0 w w' : World} {T G n N db dc db' dc' : Nat} {vs us us' : Nat → Value} {H H' : List Int} {R R' : Nat → List Int}
theorem bl_up {n m m' : Nat} (h : Li.Bl4 us us' n m) (hm : m ≤ m') : Li.Bl4 us us' n m' := fun d hd y hy => (h d hd y hy).imp id fun z => ⟨z.1, Nat.lt_of_lt_of_le z.2 hm⟩
theorem bl_trans {n n' m m' : Nat} {us'' : Nat → Value} (h : Li.Bl4 us us' n m) (k : Li.Bl4 us' us'' n' m') (hn : n ≤ n') (hm : m ≤ m') : Li.Bl4 us us'' n m' := fun d hd y hy => by
  rcases k d hd y hy with z | z
  · exact (bl_up h hm) d hd y z
  · exact .inr ⟨Nat.le_trans hn z.1, z.2⟩
theorem Mo.on (h : Mo Bz w0 vs T G n N db dc us H R w) (k : Kp [] w w') : Mo Bz w0 vs T G n N db dc us H R w' :=
  ⟨k.row (by simp) h.r5, k.row (by simp) h.r6, k.row (by simp) h.r10, k.row (by simp) h.r11, h.len, h.dh.on k, fun d hd => (h.rd d hd).keep0 k, fun d hd y hy => ⟨(h.lo d hd y hy).1, Nat.lt_of_lt_of_le (h.lo d hd y hy).2 k.size⟩, h.kp.trans k, bl_up h.bl k.size⟩
theorem Mo.lt4 (h : Mo Bz w0 vs T G n N db dc us H R w) : Li.Lt4 us w.heap.size := fun d hd y hy => (h.lo d hd y hy).2
theorem Mo.z (h : Mo Bz w0 vs T G n N db dc us H R w) : w0.heap.size + 4 ≤ w.heap.size := lt_of_block h.r11
/-- The heap's box has become another one's. -/
theorem Mo.heap (h : Mo Bz w0 vs T G n N db dc us H R w) (k : Kp [] w w') (hd : Dh Bz T G n db' dc' H' w') (hl : H'.length = N) : Mo Bz w0 vs T G n N db' dc' us H' R (put4v w' w0.heap.size (.slice (some ⟨db', 0, none⟩) N dc') (.int .i64 T) (.int .i64 G) (.int .i64 n)) := by
  have h1 := h.on k
  have kk := put4v_kp w' w0.heap.size (.slice (some ⟨db', 0, none⟩) N dc') (.int .i64 T) (.int .i64 G) (.int .i64 n)
  refine ⟨put4v_row _ _ _ _ h1.r5, kk.row (by simp) h1.r6, kk.row (by simp) h1.r10, kk.row (by simp) h1.r11, hl, hd.box h1.r5, fun d hd => (h1.rd d hd).keep kk fun g hg e => ?_, fun d hd y hy => ⟨(h1.lo d hd y hy).1, Nat.lt_of_lt_of_le (h1.lo d hd y hy).2 kk.size⟩, kp_new_set h1.kp kk (Nat.le_refl _), bl_up h1.bl kk.size⟩
  have := (h1.lo d hd g hg).1
  simp only [List.mem_singleton] at e
  omega
/-- The list's box has. -/
theorem heap_setRow_same {w : World} {b : Nat} {cs cs' : Array Value} {U : TypeId} (h : w.heap[b]? = some (.cells cs U (0, 0))) : (w.setRow b cs').heap[b]? = some (.cells cs' U (0, 0)) := by
  unfold World.setRow
  rw [Array.getElem?_modify, if_pos rfl, h]
  rfl
theorem setRow_kp (w : World) (b : Nat) (cs : Array Value) : Kp [b] w (w.setRow b cs) := (Kp.refl _ _).setRow (.inl (by simp)) cs
/-- The list's box, stored as a row. -/
theorem Mo.list' (h : Mo Bz w0 vs T G n N db dc us H R w) (k : Kp [] w w') (hr : Li.Rows4 w' us' R') (hb : Li.Bl4 us us' w.heap.size w'.heap.size) : Mo Bz w0 vs T G n N db dc us' H R' (w'.setRow (w0.heap.size + 1) #[us' 0, us' 1, us' 2, us' 3]) := by
  have h1 := h.on k
  have hz := h.z
  have kk := setRow_kp w' (w0.heap.size + 1) #[us' 0, us' 1, us' 2, us' 3]
  have hlo : ∀ d, d < 4 → ∀ y ∈ Li.blk (us' d), (y < w0.heap.size ∨ w0.heap.size + 4 ≤ y) ∧ y < w'.heap.size := fun d hd y hy => by
    rcases hb d hd y hy with z | z
    · exact h1.lo d hd y z
    · omega
  refine ⟨kk.row (by simp) h1.r5, heap_setRow_same h1.r6, kk.row (by simp) h1.r10, kk.row (by simp) h1.r11, h.len, ?_, fun d hd => (hr d hd).keep kk fun g hg e => ?_, fun d hd y hy => ⟨(hlo d hd y hy).1, Nat.lt_of_lt_of_le (hlo d hd y hy).2 kk.size⟩, kp_new_set h1.kp kk (by omega), bl_up (bl_trans h.bl hb (by omega) k.size) kk.size⟩
  · refine ⟨?_, h1.dh.len, h1.dh.top, h1.dh.ok, h1.dh.hT, h1.dh.hG, h1.dh.hn⟩
    refine Gx.Rw.keep h1.dh.ww kk fun g hg e => ?_
    simp only [List.mem_singleton] at e
    subst e
    obtain ⟨_, cur, hc⟩ := Gx.Rw.block h1.dh.ww _ hg
    rw [h1.r6] at hc
    simp at hc
  · have := (hlo d hd g hg).1
    simp only [List.mem_singleton] at e
    omega
/-- What it answers with lies in its boxes. -/
theorem Mo.fin0 (h : Mo Bz w0 vs T G n N db dc us H R w) (k : Kp [] w w') (hd : Dh Bz T G n db' dc' H' w') {W : World} (hW : W = (put4v (put4v w' (w0.heap.size + 2) (.slice (some ⟨db', 0, none⟩) N dc') (.int .i64 T) (.int .i64 G) (.int .i64 n)) (w0.heap.size + 3) (us 0) (us 1) (us 2) (us 3))) :
    W.heap[w0.heap.size + 2]? = some (.cells #[.slice (some ⟨db', 0, none⟩) N dc', .int .i64 T, .int .i64 G, .int .i64 n] 40 (0, 0)) ∧ W.heap[w0.heap.size + 3]? = some (.cells #[us 0, us 1, us 2, us 3] 72 (0, 0)) ∧ Dh Bz T G n db' dc' H' W ∧ Li.Rows4 W us R ∧ Kp [] w0 W ∧ Li.Bl4 vs us w0.heap.size W.heap.size := by
  have h1 := h.on k
  have hz := h.z
  have k1 := put4v_kp w' (w0.heap.size + 2) (.slice (some ⟨db', 0, none⟩) N dc') (.int .i64 T) (.int .i64 G) (.int .i64 n)
  have k2 := put4v_kp (put4v w' (w0.heap.size + 2) (.slice (some ⟨db', 0, none⟩) N dc') (.int .i64 T) (.int .i64 G) (.int .i64 n)) (w0.heap.size + 3) (us 0) (us 1) (us 2) (us 3)
  have k3 : Kp [] (put4v (put4v w' (w0.heap.size + 2) (.slice (some ⟨db', 0, none⟩) N dc') (.int .i64 T) (.int .i64 G) (.int .i64 n)) (w0.heap.size + 3) (us 0) (us 1) (us 2) (us 3)) W := by rw [hW]; exact Kp.refl _ _
  have r11 := k1.row (by simp) h1.r11
  have d1 := hd.box (v0 := .slice (some ⟨db', 0, none⟩) N dc') (v1 := .int .i64 T) (v2 := .int .i64 G) (v3 := .int .i64 n) h1.r10
  refine ⟨k3.row (by simp) (k2.row (by simp) (put4v_row _ _ _ _ h1.r10)), k3.row (by simp) (put4v_row _ _ _ _ r11), Dh.on ⟨?_, hd.len, hd.top, hd.ok, hd.hT, hd.hG, hd.hn⟩ k3, fun d hd' => Li.Rd.keep0 (((h1.rd d hd').keep k1 fun g hg e => ?_).keep k2 fun g hg e => ?_) k3, (kp_new_set (kp_new_set h1.kp k1 (by omega)) k2 (by omega)).trans k3, bl_up h1.bl (Nat.le_trans (Nat.le_trans k1.size k2.size) k3.size)⟩
  · refine Gx.Rw.keep d1.ww k2 fun g hg e => ?_
    simp only [List.mem_singleton] at e
    subst e
    obtain ⟨_, cur, hc⟩ := Gx.Rw.block d1.ww _ hg
    rw [r11] at hc
    simp at hc
  · have := (h1.lo d hd' g hg).1
    simp only [List.mem_singleton] at e
    omega
  · have := (h1.lo d hd' g hg).1
    simp only [List.mem_singleton] at e
    omega
/-- The same, behind a draw. -/
theorem Mo.fin (h : Mo Bz w0 vs T G n N db dc us H R w) (k : Kp [] w w') (hd : Dh Bz T G n db' dc' H' w') {W : World} (hW : W = (put4v (put4v w' (w0.heap.size + 2) (.slice (some ⟨db', 0, none⟩) N dc') (.int .i64 T) (.int .i64 G) (.int .i64 n)) (w0.heap.size + 3) (us 0) (us 1) (us 2) (us 3)).drew) :
    W.heap[w0.heap.size + 2]? = some (.cells #[.slice (some ⟨db', 0, none⟩) N dc', .int .i64 T, .int .i64 G, .int .i64 n] 40 (0, 0)) ∧ W.heap[w0.heap.size + 3]? = some (.cells #[us 0, us 1, us 2, us 3] 72 (0, 0)) ∧ Dh Bz T G n db' dc' H' W ∧ Li.Rows4 W us R ∧ Kp [] w0 W ∧ Li.Bl4 vs us w0.heap.size W.heap.size := by
  obtain ⟨f1, f2, f3, f4, f5, f6⟩ := h.fin0 k hd rfl
  have k3 : Kp [] (put4v (put4v w' (w0.heap.size + 2) (.slice (some ⟨db', 0, none⟩) N dc') (.int .i64 T) (.int .i64 G) (.int .i64 n)) (w0.heap.size + 3) (us 0) (us 1) (us 2) (us 3)) W := by rw [hW]; exact (Kp.refl _ _).drew
  exact ⟨k3.row (by simp) f1, k3.row (by simp) f2, f3.on k3, fun d hd' => (f4 d hd').keep0 k3, f5.trans k3, bl_up f6 k3.size⟩
def sl (a0 a1 a2 a3 : Option Addr) (l0 k0 l1 k1 l2 k2 l3 k3 : Nat) : Nat → Value
  | 0 => .slice a0 l0 k0
  | 1 => .slice a1 l1 k1
  | 2 => .slice a2 l2 k2
  | _ => .slice a3 l3 k3
/-- The list's cells are slices. -/
theorem Mo.slices (h : Mo Bz w0 vs T G n N db dc us H R w) : ∃ a0 a1 a2 a3 l0 k0 l1 k1 l2 k2 l3 k3, Mo Bz w0 vs T G n N db dc (sl a0 a1 a2 a3 l0 k0 l1 k1 l2 k2 l3 k3) H R w := by
  obtain ⟨a0, k0, e0, _⟩ := (h.rd 0 (by omega)).form
  obtain ⟨a1, k1, e1, _⟩ := (h.rd 1 (by omega)).form
  obtain ⟨a2, k2, e2, _⟩ := (h.rd 2 (by omega)).form
  obtain ⟨a3, k3, e3, _⟩ := (h.rd 3 (by omega)).form
  refine ⟨a0, a1, a2, a3, (Li.rev R 0).length, k0, (Li.rev R 1).length, k1, (Li.rev R 2).length, k2, (Li.rev R 3).length, k3, ?_⟩
  have hE : ∀ d, d < 4 → us d = sl a0 a1 a2 a3 (Li.rev R 0).length k0 (Li.rev R 1).length k1 (Li.rev R 2).length k2 (Li.rev R 3).length k3 d := fun d hd => by
    rcases Li.four hd with rfl | rfl | rfl | rfl
    · exact e0
    · exact e1
    · exact e2
    · exact e3
  have r6 := h.r6
  rw [hE 0 (by omega), hE 1 (by omega), hE 2 (by omega), hE 3 (by omega)] at r6
  exact ⟨h.r5, r6, h.r10, h.r11, h.len, h.dh, fun d hd => by rw [← hE d hd]; exact h.rd d hd, fun d hd => by rw [← hE d hd]; exact h.lo d hd, h.kp, fun d hd => by rw [← hE d hd]; exact h.bl d hd⟩
/-- What lies in a row, loaded. -/
theorem load_row {P : Program} {w : World} {g : Nat} {t ty : TypeId} {cs : Array Value} {d : TypeDesc} (hg : w.heap[g]? = some (.cells cs t (0, 0))) (hu : P.underlying ty = some d) (hd : (match d with | .struct _ | .array _ _ => true | _ => false) = true) (hi : (P.info? ty).map (·.size) = some cs.size) : (loadVar ty ⟨g, 0, none⟩).run P w = .ok (.agg cs) w :=
  run_loadVar_row w g t ty cs (0, 0) d hg hu hd hi
/-- A class's row of the list's box. -/
theorem Mo.len4 (h : Mo Bz w0 vs T G n N db dc us H R w) {c : Nat} (hc : c < 4) : ∃ ao cap, w.cell? ⟨w0.heap.size + 1, c, none⟩ = some (.slice ao (R c).length cap) := by
  obtain ⟨ao, cap, hu, _⟩ := (h.rd c hc).form
  refine ⟨ao, cap, ?_⟩
  rw [cell_of_row h.r6]
  have e : (Li.rev R c).length = (R c).length := by simp [Li.rev]
  rw [← e, ← hu]
  rcases Li.four hc with rfl | rfl | rfl | rfl <;> rfl
def mow (w : World) (db dc N T G n : Nat) (us : Nat → Value) : World := (((w.alloc (.cells #[.slice (some ⟨db, 0, none⟩) N dc, .int .i64 T, .int .i64 G, .int .i64 n] 40)).alloc (.cells #[us 0, us 1, us 2, us 3] 72)).alloc (.cells zH 40)).alloc (.cells zL 72)
theorem mo_new (h : Dh Bz T G n db dc H w) (hr : Li.Rows4 w us R) (hlt : Li.Lt4 us w.heap.size) : Mo Bz w us T G n H.length db dc us H R (mow w db dc H.length T G n us) := by
  have k : Kp [] w (mow w db dc H.length T G n us) := ((((Kp.refl _ _).alloc _).alloc _).alloc _).alloc _
  have z1 := World.size_alloc w (.cells #[.slice (some ⟨db, 0, none⟩) H.length dc, .int .i64 T, .int .i64 G, .int .i64 n] 40)
  have z2 := World.size_alloc (w.alloc (.cells #[.slice (some ⟨db, 0, none⟩) H.length dc, .int .i64 T, .int .i64 G, .int .i64 n] 40)) (.cells #[us 0, us 1, us 2, us 3] 72)
  have z3 := World.size_alloc ((w.alloc (.cells #[.slice (some ⟨db, 0, none⟩) H.length dc, .int .i64 T, .int .i64 G, .int .i64 n] 40)).alloc (.cells #[us 0, us 1, us 2, us 3] 72)) (.cells zH 40)
  have hzz : (mow w db dc H.length T G n us).heap.size = w.heap.size + 4 := by simp [mow]
  refine ⟨?_, ?_, ?_, ?_, rfl, h.on k, fun d hd => (hr d hd).keep0 k, fun d hd y hy => ?_, k, ?_⟩
  · exact ((((Kp.refl [] _).alloc _).alloc _).alloc _).row (by simp) (heap_alloc_new w _)
  · exact (((Kp.refl [] _).alloc _).alloc _).row (by simp) (by rw [← z1]; exact heap_alloc_new _ _)
  · exact ((Kp.refl [] _).alloc _).row (by simp) (by rw [show w.heap.size + 2 = w.heap.size + 1 + 1 from rfl, ← z1, ← z2]; exact heap_alloc_new _ _)
  · rw [show w.heap.size + 3 = w.heap.size + 1 + 1 + 1 from rfl, ← z1, ← z2, ← z3]; exact heap_alloc_new _ _
  · have := hlt d hd y hy; omega
  · exact Li.bl_refl _ _ _
end
end Go.Proofs.YticbnckikkdknaaGreatDoor

namespace Go.Proofs.YticbnckikkdknaaGreatDoor
set_option linter.unusedVariables false
set_option linter.unusedSimpArgs false
set_option maxRecDepth 100000
open Go.RowKit
variable {Bz : Nat}

/-- A run, as the document claims it; what it answers. -/
def claimD (H : List Int) (run : Nat) : List Int × Option Nat :=
  match frst (H.getD 0 0).toNat run with
  | some k => (H.set 0 (Bm.setN (H.getD 0 0).toNat k run false : Int), some k)
  | none => (H, none)
def bI : Option Nat → Int
  | some k => k
  | none => -1
section
variable {w w' : World} {T G n N db dc o c : Nat} {us : Nat → Value} {H : List Int} {R : Nat → List Int} {wk : Bool}
theorem claimD_len (run : Nat) : (claimD H run).1.length = H.length := by
  unfold claimD; split <;> simp
theorem dblocksH_eq (run : Nat) : dblocksH T G n o wk H run = if (claimD H run).2.isSome then claimD H run else if wk then claimD H run else claimD (waitH T G n o H n) run := by
  unfold dblocksH claimD
  cases hf : frst (H.getD 0 0).toNat run with
  | some k => simp
  | none => cases wk with
    | true => simp
    | false => simp only [Option.isSome_none, if_false, Bool.false_eq_true]; rfl
theorem d_claim (h : Dh Bz T G n db dc H w) (run : Nat) (hr : 1 ≤ run ∧ run ≤ 3) :
    Calls Tryz.prog 97 #[hV db dc H.length T G n, .int .i64 run] w fun e w' => ∃ b' c', e = .returned (.tuple #[hV b' c' H.length T G n, .int .i64 (bI (claimD H run).2)]) ∧ Dh Bz T G n b' c' (claimD H run).1 w' ∧ Kp [] w w' := by
  unfold claimD
  cases hf : frst (H.getD 0 0).toNat run with
  | none =>
    refine (d_claim_no h run hf).mono ?_
    rintro e w' ⟨rfl, k⟩
    exact ⟨db, dc, rfl, h.on k, k⟩
  | some k => exact d_claim_yes h run k hr hf
theorem claim_fit (h : Ivn T G n H) {run k : Nat} (h1 : 1 ≤ run) (hk : (claimD H run).2 = some k) : k + run ≤ n := by
  unfold claimD at hk
  cases hf : frst (H.getD 0 0).toNat run with
  | none => rw [hf] at hk; cases hk
  | some k' =>
    rw [hf] at hk
    cases hk
    exact frst_fit h h1 hf
/-- What lies at a place that is made; a large object's tails and its first entry. -/
def fitH (T G n o rf sz : Nat) (H : List Int) (a b run : Nat) : List Int :=
  if run = 0 then (clearH H a sz).set a (Wd.wordI 2 0 o rf sz false false) else (tailD T G b ((clearH H a sz).set a (Wd.wordI 2 0 o rf sz false false)) run).set (3 + T + G + b) (Tb.wordE 2 0 run o)
/-- What the document makes. -/
def dmakeS (T G n o : Nat) (wk : Bool) (rf sz : Nat) (s : Hs) : Hs × Int :=
  if Cl.runC sz = 0 then
    match (dcellS T G n o wk (Cl.ofC sz).toNat s).2 with
    | none => ((dcellS T G n o wk (Cl.ofC sz).toNat s).1, 0)
    | some x => ((fitH T G n o rf sz (dcellS T G n o wk (Cl.ofC sz).toNat s).1.1 x.toNat 0 0, (dcellS T G n o wk (Cl.ofC sz).toNat s).1.2), x)
  else
    match (dblocksH T G n o wk s.1 (Cl.runC sz).toNat).2 with
    | none => (((dblocksH T G n o wk s.1 (Cl.runC sz).toNat).1, s.2), 0)
    | some b => ((fitH T G n o rf sz (dblocksH T G n o wk s.1 (Cl.runC sz).toNat).1 (3 + T + G + n + 32 * b) b (Cl.runC sz).toNat, s.2), ((3 + T + G + n + 32 * b : Nat) : Int))
/-- What the document makes is what the program makes: a large object. -/
theorem large_same {run rf sz : Nat} {s : Hs} (hrun : Cl.runC sz = run) (h1 : 1 ≤ run) (hn : n ≤ 64) (h : Ivn T G n s.1) :
    (dmakeS T G n o wk rf sz s).1 = (largeS T G n o wk run rf sz s).1 ∧ (dmakeS T G n o wk rf sz s).2 = (largeS T G n o wk run rf sz s).2.getD 0 := by
  obtain ⟨e, i1, i2⟩ := blocks_inv (o := o) (wk := wk) h1 hn h
  unfold dmakeS largeS
  rw [if_neg (by omega), hrun, Int.toNat_natCast, ← e]
  cases hb : (blocksH T G n o wk s.1 run).2 with
  | none => exact ⟨rfl, rfl⟩
  | some b =>
    have hbr := i2 b hb
    simp only [fitH]
    rw [if_neg (by omega), large_words (rf := rf) h1 hbr]
    exact ⟨rfl, rfl⟩
theorem small_same {rf sz : Nat} {s : Hs} (hrun : Cl.runC sz = 0) (hcc : Cl.ofC sz = c) (hc : c < 4) (ho : o < 64) (hn : n ≤ 64) (h : Ivn T G n s.1) (hp : Pok T G n s.2) :
    (dmakeS T G n o wk rf sz s).1 = (smallS T G n o wk c rf sz s).1 ∧ (dmakeS T G n o wk rf sz s).2 = (smallS T G n o wk c rf sz s).2.getD 0 := by
  obtain ⟨e, _⟩ := cell_inv (wk := wk) hc ho hn h hp
  unfold dmakeS smallS
  rw [if_pos hrun, hcc, Int.toNat_natCast, ← e]
  cases hb : (cellS T G n o wk c s).2 with
  | none => simp [hb]
  | some x => simp [fitH]
end
section
variable {w0 w w' w'' : World} {T G n N db dc db' dc' B : Nat} {vs us us' : Nat → Value} {H H' : List Int} {R R' : Nat → List Int}
theorem Mo.list2 (h : Mo Bz w0 vs T G n N db dc us H R w) (k : Kp [] w w') (kk : Kp [w0.heap.size + 1] w' w'') (hrow : w''.heap[w0.heap.size + 1]? = some (.cells #[us' 0, us' 1, us' 2, us' 3] 72 (0, 0))) (hr : Li.Rows4 w' us' R') (hb : Li.Bl4 us us' B w'.heap.size) (hB : w0.heap.size + 4 ≤ B) : Mo Bz w0 vs T G n N db dc us' H R' w'' := by
  have h1 := h.on k
  have hlo : ∀ d, d < 4 → ∀ y ∈ Li.blk (us' d), (y < w0.heap.size ∨ w0.heap.size + 4 ≤ y) ∧ y < w'.heap.size := fun d hd y hy => by
    rcases hb d hd y hy with z | z
    · exact h1.lo d hd y z
    · omega
  refine ⟨kk.row (by simp) h1.r5, hrow, kk.row (by simp) h1.r10, kk.row (by simp) h1.r11, h.len, ?_, fun d hd => (hr d hd).keep kk fun g hg e => ?_, fun d hd y hy => ⟨(hlo d hd y hy).1, Nat.lt_of_lt_of_le (hlo d hd y hy).2 kk.size⟩, kp_new_set h1.kp kk (by omega), bl_up (bl_trans h.bl hb (by omega) k.size) kk.size⟩
  · refine ⟨?_, h1.dh.len, h1.dh.top, h1.dh.ok, h1.dh.hT, h1.dh.hG, h1.dh.hn⟩
    refine Gx.Rw.keep h1.dh.ww kk fun g hg e => ?_
    simp only [List.mem_singleton] at e
    subst e
    obtain ⟨_, cur, hc⟩ := Gx.Rw.block h1.dh.ww _ hg
    rw [h1.r6] at hc
    simp at hc
  · have := (hlo d hd g hg).1
    simp only [List.mem_singleton] at e
    omega
/-- Both boxes have become others'. -/
theorem Mo.both (h : Mo Bz w0 vs T G n N db dc us H R w) (k : Kp [] w w') (hd : Dh Bz T G n db' dc' H' w') (hl : H'.length = N) (hr : Li.Rows4 w' us' R') (hb : Li.Bl4 us us' w.heap.size w'.heap.size) : Mo Bz w0 vs T G n N db' dc' us' H' R' ((put4v w' w0.heap.size (.slice (some ⟨db', 0, none⟩) N dc') (.int .i64 T) (.int .i64 G) (.int .i64 n)).setRow (w0.heap.size + 1) #[us' 0, us' 1, us' 2, us' 3]) := by
  have hz := h.z
  have h1 := h.on k
  have kk := put4v_kp w' w0.heap.size (.slice (some ⟨db', 0, none⟩) N dc') (.int .i64 T) (.int .i64 G) (.int .i64 n)
  have M := h.heap k hd hl
  refine M.list2 (Kp.refl _ _) (setRow_kp _ _ _) (heap_setRow_same M.r6) (fun d hd' => (hr d hd').keep kk fun g hg e => ?_) (bl_up hb kk.size) hz
  have := hb d hd' g hg
  simp only [List.mem_singleton] at e
  rcases this with z | z
  · have := (h.lo d hd' g z).1
    omega
  · omega
end
theorem rows_slices {w : World} {us : Nat → Value} {R : Nat → List Int} (h : Li.Rows4 w us R) : ∃ a0 a1 a2 a3 l0 k0 l1 k1 l2 k2 l3 k3, ∀ d, d < 4 → us d = sl a0 a1 a2 a3 l0 k0 l1 k1 l2 k2 l3 k3 d := by
  obtain ⟨a0, k0, e0, _⟩ := (h 0 (by omega)).form
  obtain ⟨a1, k1, e1, _⟩ := (h 1 (by omega)).form
  obtain ⟨a2, k2, e2, _⟩ := (h 2 (by omega)).form
  obtain ⟨a3, k3, e3, _⟩ := (h 3 (by omega)).form
  refine ⟨a0, a1, a2, a3, (Li.rev R 0).length, k0, (Li.rev R 1).length, k1, (Li.rev R 2).length, k2, (Li.rev R 3).length, k3, fun d hd => ?_⟩
  rcases Li.four hd with rfl | rfl | rfl | rfl
  · exact e0
  · exact e1
  · exact e2
  · exact e3
theorem more_ok {T G n o c N : Nat} {wk : Bool} {H : List Int} {R : Nat → List Int} (hc : c < 4) (ho : o < 64) (hn : n ≤ 64) (h : Ivn T G n H) (hN : H.length = N) (hl : Lok N R) : Lok N (moreS T G n o c wk (H, R)).2 := by
  have hN' : 3 + T + G + 33 * n ≤ N := by have := h.len; omega
  have h1 : Ivn T G n (foundS T G n o c (H, R) n).1 := h.low (found_low n)
  have p1 : Lok N (foundS T G n o c (H, R) n).2 := foundS_ok (s := (H, R)) hc hN' hl n (Nat.le_refl n)
  unfold moreS
  split
  · have h2 := h1.tidy (o := o) (wk := wk) hn
    cases hf : frst ((tidyH T G n o wk (foundS T G n o c (H, R) n).1).getD 0 0).toNat 1 with
    | none => exact p1
    | some k =>
      have hk := frst_fit h2 (Nat.le_refl 1) hf
      exact pushS_ok hc (by omega) rfl hN' p1 _ (Nat.le_refl _)
  · exact p1
theorem more_len {T G n o c : Nat} {wk : Bool} {H : List Int} {R : Nat → List Int} : (moreS T G n o c wk (H, R)).1.length = H.length := by
  unfold moreS
  split
  · cases hf : frst ((tidyH T G n o wk (foundS T G n o c (H, R) n).1).getD 0 0).toNat 1 with
    | none => simp [tidyH_len, foundS_len]
    | some k => simp [cutS, markS_len, tidyH_len, foundS_len]
  · exact foundS_len n
/-- Three results, two of them in blocks. -/
theorem results_cell2_tmp {fn : Func} {p u v : Tmp} {ty tz : TypeId} (h : fn.results = #[.cell p ty, .cell u tz, .tmp v]) (tmps : Array Value) (P : Program) (w : World) (a b : Addr) (x y : Value) (hp : tmps.getD p undef = .pointer (some a)) (hu : tmps.getD u undef = .pointer (some b)) (hx : (loadVar ty a).run P w = .ok x w) (hy : (loadVar tz b).run P w = .ok y w) :
    (results fn tmps).run P w = .ok (.tuple #[x, y, tmps.getD v undef]) w := by
  rw [Array.getD_eq_getD_getElem?] at hp hu
  simp only [results, h]
  simp [Sem.run_bind, Result.andThen, hp, hu, asAddr, hx, hy]
theorem bodyPost_cell2_tmp {P : Program} {fn : Func} {R : Ending → World → Prop} {a : Act} {w : World} {p u v : Tmp} {ty tz : TypeId} (h : fn.results = #[.cell p ty, .cell u tz, .tmp v]) (b c : Addr) (x y z : Value) (hp : a.tmps.getD p undef = .pointer (some b)) (hu : a.tmps.getD u undef = .pointer (some c)) (hz : a.tmps.getD v undef = z) (hx : (loadVar ty b).run P w = .ok x w) (hy : (loadVar tz c).run P w = .ok y w) (hdef : a.defers = []) (hR : R (.returned (.tuple #[x, y, z])) w) : bodyPost P fn R .ret a w := by
  subst hz
  exact bodyPost_ret (results_cell2_tmp h a.tmps P w b c x y hp hu hx hy) hdef hR
end Go.Proofs.YticbnckikkdknaaGreatDoor

namespace Go.Proofs.YticbnckikkdknaaGreatDoor
set_option linter.unusedVariables false
set_option linter.unusedSimpArgs false
set_option maxRecDepth 100000
open Go.RowKit

/-- All owners' words and lists are fit. -/
structure Fit (T n : Nat) (H : List Int) (Rs : Nat → Nat → List Int) : Prop where
  iv : Ivn T 0 n H
  ls : ∀ i, i < T → Pok T 0 n (Rs i) ∧ Lok (3 + T + 33 * n) (Rs i)
def updO (Rs : Nat → Nat → List Int) (i : Nat) (R : Nat → List Int) : Nat → Nat → List Int := fun j => if j = i then R else Rs j
/-- What the program makes. -/
def pmakeS (T G n o : Nat) (wk : Bool) (rf sz : Nat) (s : Hs) : Hs × Option Int :=
  if Cl.runC sz = 0 then smallS T G n o wk (Cl.ofC sz).toNat rf sz s else largeS T G n o wk (Cl.runC sz).toNat rf sz s

section
variable {T G n o c N : Nat} {wk : Bool} {H H' : List Int} {R R' : Nat → List Int} {Rs : Nat → Nat → List Int}
theorem updO_same (i : Nat) : updO Rs i R i = R := if_pos rfl
theorem updO_ne {i j : Nat} (h : j ≠ i) : updO Rs i R j = Rs j := if_neg h
theorem Fit.len (h : Fit T n H Rs) : H.length = 3 + T + 33 * n := by have := h.iv.len; omega
theorem Fit.upd (h : Fit T n H Rs) {i : Nat} (hv : Ivn T 0 n H') (hp : Pok T 0 n R) (hl : Lok (3 + T + 33 * n) R) : Fit T n H' (updO Rs i R) := by
  refine ⟨hv, fun j hj => ?_⟩
  by_cases e : j = i
  · subst e; rw [updO_same]; exact ⟨hp, hl⟩
  · rw [updO_ne e]; exact h.ls j hj
theorem Fit.words (h : Fit T n H Rs) (hv : Ivn T 0 n H') : Fit T n H' Rs := ⟨hv, h.ls⟩
theorem Lok.drop (h : Lok N R) (f t : Int) : Lok N (Li.dropR R f t) := fun c hc => by
  unfold Li.dropR Li.Rk
  rw [if_pos hc]
  exact ⟨(h c hc).1.filter _, fun x hx => (h c hc).2 x (List.mem_filter.1 hx).1⟩
theorem Pok.drop (h : Pok T G n R) (f t : Int) : Pok T G n (Li.dropR R f t) := fun c hc x hx => by
  unfold Li.dropR Li.Rk at hx
  rw [if_pos hc] at hx
  exact h c hc x (List.mem_filter.1 hx).1
theorem dcell_ok (hc : c < 4) (ho : o < 64) (hn : n ≤ 64) (h : Ivn T G n H) (hN : H.length = N) (hl : Lok N R) : Lok N (dcellS T G n o wk c (H, R)).1.2 := by
  unfold dcellS
  split
  · exact (more_ok hc ho hn h hN hl).pop c
  · exact hl.pop c
/-- A size's class, or its blocks. -/
theorem size_ways (sz : Nat) (h : sz ≤ 95) : (Cl.runC sz = 0 ∧ ∃ c : Nat, c < 4 ∧ Cl.ofC sz = c ∧ (sz : Int) + 1 ≤ Cl.wdC c) ∨ ∃ run : Nat, 1 ≤ run ∧ run ≤ 3 ∧ Cl.runC sz = run ∧ sz + 1 ≤ 32 * run := by
  rcases Cl.run_ofs (sz : Int) with z | z | z | z | z
  · refine .inl ⟨z.2, ?_⟩
    rcases Cl.of_ofs (sz : Int) with y | y | y | y | y | y
    · omega
    · exact ⟨0, by omega, y.2.2, by have : Cl.wdC (0 : Nat) = 2 := by decide
                                    omega⟩
    · exact ⟨1, by omega, y.2, by have : Cl.wdC (1 : Nat) = 3 := by decide
                                  omega⟩
    · exact ⟨2, by omega, y.2.2, by have : Cl.wdC (2 : Nat) = 5 := by decide
                                    omega⟩
    · exact ⟨3, by omega, y.2.2, by have : Cl.wdC (3 : Nat) = 9 := by decide
                                    omega⟩
    · omega
  · exact .inr ⟨1, by omega, by omega, z.2.2, by omega⟩
  · exact .inr ⟨2, by omega, by omega, z.2.2, by omega⟩
  · exact .inr ⟨3, by omega, by omega, z.2.2, by omega⟩
  · omega
/-- What is made is as the document says; all stays fit; the place lies in a block. -/
theorem pmake_fit (h : Fit T n H Rs) {i rf sz : Nat} (hi : i < T) (hT : T ≤ 64) (hn : n ≤ 64) (hs : sz ≤ 95) :
    ((dmakeS T 0 n i wk rf sz (H, Rs i)).1 = (pmakeS T 0 n i wk rf sz (H, Rs i)).1 ∧ (dmakeS T 0 n i wk rf sz (H, Rs i)).2 = (pmakeS T 0 n i wk rf sz (H, Rs i)).2.getD 0) ∧
    Fit T n (pmakeS T 0 n i wk rf sz (H, Rs i)).1.1 (updO Rs i (pmakeS T 0 n i wk rf sz (H, Rs i)).1.2) ∧
    ∀ x, (pmakeS T 0 n i wk rf sz (H, Rs i)).2 = some x → ((3 + T + n : Nat) : Int) ≤ x ∧ x + sz < (3 + T + 33 * n : Nat) := by
  obtain ⟨hp, hl⟩ := h.ls i hi
  have hlen := h.len
  unfold pmakeS
  rcases size_ways sz hs with ⟨h0, c, hc, hcc, hw⟩ | ⟨run, h1, h3, hr, hw⟩
  · rw [if_pos h0, hcc, Int.toNat_natCast]
    have hl' : Lok H.length (Rs i) := by rw [hlen]; exact hl
    obtain ⟨a1, a2, a3⟩ := small_inv (wk := wk) (rf := rf) (s := (H, Rs i)) hc (show i < 64 by omega) hn hw h.iv hp hl'
    refine ⟨small_same (s := (H, Rs i)) h0 hcc hc (show i < 64 by omega) hn h.iv hp, h.upd a1 a2 ?_, fun x hx => by have := a3 x hx; omega⟩
    have hce := (cell_inv (wk := wk) (s := (H, Rs i)) hc (show i < 64 by omega) hn h.iv hp).1
    have hk := dcell_ok (wk := wk) (o := i) hc (by omega) hn h.iv hlen hl
    rw [← hce] at hk
    unfold smallS
    split <;> exact hk
  · rw [if_neg (by omega), hr, Int.toNat_natCast]
    obtain ⟨a1, a2, a3⟩ := large_inv (wk := wk) (rf := rf) (s := (H, Rs i)) h1 h3 (show i < 64 by omega) hn hw h.iv hp
    refine ⟨large_same (s := (H, Rs i)) hr h1 hn h.iv, h.upd a1 a2 ?_, fun x hx => by have := a3 x hx; omega⟩
    unfold largeS
    split <;> exact hl
/-- A made place is freed. -/
theorem Fit.free (h : Fit T n H Rs) {a : Nat} (ha : 3 + T + n ≤ a) (v : Int) : Fit T n (H.set a v) Rs := h.words (h.iv.low (Low.set (by omega) v))
/-- A block waits. -/
theorem Fit.waits (h : Fit T n H Rs) {i b : Nat} (hi : i < T) (hT : T ≤ 64) (hb : b < n) (f t : Int) : Fit T n (H.set (3 + T + 0 + b) (Tb.wordE 4 0 0 i)) (updO Rs i (Li.dropR (Rs i) f t)) :=
  h.upd (h.iv.entry b hb (by rw [ek_word (by omega) (by omega) (by omega) (by omega) (Tb.mayE_iff.2 (by omega))]; omega)) ((h.ls i hi).1.drop f t) ((h.ls i hi).2.drop f t)
/-- The beginning. -/
theorem fit_begin (T n : Nat) (hn : n ≤ 12) : Fit T n ((List.replicate (3 + T + 33 * n) (0 : Int)).set 0 ((2 ^ n - 1 : Nat) : Int)) (fun _ _ => []) := by
  refine ⟨⟨by simp, fun b hb => ?_, fun i hi => ?_⟩, fun i hi => ⟨fun c hc x hx => by simp at hx, fun c hc => ⟨List.nodup_nil, fun x hx => by simp at hx⟩⟩⟩
  · rw [getD_set', if_pos ⟨rfl, by rw [List.length_replicate]; omega⟩, Int.toNat_natCast] at hb
    refine Nat.lt_of_not_le fun hle => ?_
    have : (2 ^ n - 1).testBit b = false := Nat.testBit_lt_two_pow (Nat.lt_of_lt_of_le (Nat.sub_lt (Nat.two_pow_pos n) (by decide)) (Nat.pow_le_pow_right (by decide) hle))
    rw [this] at hb; cases hb
  · rw [getD_set', if_neg (by omega)]
    have : (List.replicate (3 + T + 33 * n) (0 : Int)).getD (3 + T + 0 + i) 0 = 0 := by
      rw [List.getD_eq_getElem?_getD, List.getElem?_replicate]
      split <;> rfl
    rw [this, ek_zero]; omega
end
end Go.Proofs.YticbnckikkdknaaGreatDoor

namespace Go.Proofs.YticbnckikkdknaaGreatDoor
set_option linter.unusedVariables false
set_option linter.unusedSimpArgs false
set_option maxRecDepth 100000
open Go.RowKit

section
variable {T G n p r q t o a : Nat} {wk : Bool} {hd : Value} {vs vs' vs'' : Nat → Value} {H : List Int} {R : Nat → List Int} {w w0 w1 w2 wx wy : World} {Sh : List Nat} {P : Nat → World → Prop}
set_option maxHeartbeats 16000000 in
theorem make_large (h : Mw T G n p r q vs H R t w) (ht : t ≤ 300000) (hoT : o < T) (run rf sz : Nat) (hrun : Cl.runC sz = run) (hr : rf ≤ sz) (h9 : 9 ≤ sz) (h95 : sz ≤ 95) (ho2 : HoldOk T G n p r q o wk hd vs w Sh P) :
    Calls Tryz.prog 59 #[mkV T G n p q o wk hd, .int .i64 rf, .int .i64 sz] w fun e w' => e = .returned (.tuple #[.int .i64 ((largeS T G n o wk run rf sz (H, R)).2.getD 0), .int .i64 (erM (largeS T G n o wk run rf sz (H, R)).2)]) ∧ ∃ vs', Mw T G n p r q vs' (largeS T G n o wk run rf sz (H, R)).1.1 (largeS T G n o wk run rf sz (H, R)).1.2 (t + 5 * n + 110) w' ∧ Mh Sh p r q vs vs' w w' ∧ Tp Sh P (largeS T G n o wk run rf sz (H, R)).2 w w' := by
  have hT := Lib.hid (fun w => Ly.threads_is T G n w)
  have hf := h.fit
  have HOf := Lib.hid (fun w (tb : Cl.Tab w) => Cl.of_no w tb sz (by
    rcases Cl.of_ofs (sz : Int) with h | h | h | h | h | h <;> omega))
  have HSm : Hid (∀ w1, Kp [] w w1 → Calls Tryz.prog 95 #[mkV T G n p q o wk hd, .agg #[.int .u8 2, .int .u8 0, .bool false, .bool false, .int .u8 o, .int .u8 rf, .int .u8 sz]] w1 fun e w' => e = .returned (.tuple #[.int .i64 ((largeS T G n o wk run rf sz (H, R)).2.getD 0), .int .i64 (erM (largeS T G n o wk run rf sz (H, R)).2)]) ∧ ∃ vs', Mw T G n p r q vs' (largeS T G n o wk run rf sz (H, R)).1.1 (largeS T G n o wk run rf sz (H, R)).1.2 (t + 5 * n + 110) w' ∧ Mh Sh p r q vs vs' w w' ∧ Tp Sh P (largeS T G n o wk run rf sz (H, R)).2 w w') := by
    refine Lib.hid fun w1 k => (a_large (h.on k) ht (by omega) run rf sz hrun hr h9 h95 (ho2.on (Mk.of_kp k (by simp)))).mono ?_
    rintro e w' ⟨h1, v, h2, h3, h4⟩
    exact ⟨h1, v, h2, (Mh.of_mk (Mk.of_kp k (by simp))).trans h3, h4.pre k⟩
  have HTb : Hid (∀ w1, Kp [] w w1 → Cl.Tab w1) := Lib.hid fun w1 k => (h.on k).tab
  have KB : Hid (∀ w', Kp [] (mkW w T G n p q o wk hd) w' → Kp [] w w') := Lib.hid fun w' k => (mkW_kp w T G n p q o wk hd).trans k
  have HS0 := Lib.hid (ms_of (F := Kp [] (mkW w T G n p q o wk hd)) (mkW_row w T G n p q o wk hd) (Kp.refl _ _))
  have hc1 : ¬ ((T : Int) ≤ o) := by omega
  have hc2 : ¬ ((rf : Int) < 0) := by omega
  have hc3 : ¬ ((sz : Int) < rf) := by omega
  have hc4 : ¬ (95 < (sz : Int)) := by omega
  have ew := IntWalk.i64_in (o : Int) (by omega)
  have hd1 : decide (T ≤ o) = false := by simp; omega
  have hd2 : decide ((rf : Int) < 0) = false := by simp
  have hd3 : decide (sz < rf) = false := by simp; omega
  have hd4 : decide (95 < (sz : Int)) = false := by simp; omega
  clear hc1 hc2 hc3 hc4
  have hc5 : ((rf : Int) % 256) = rf := by omega
  have hc6 : ((sz : Int) % 256) = sz := by omega
  unfold mkW mkC at KB HS0
  generalize largeS T G n o wk run rf sz (H, R) = fin at HSm ⊢
  clear h ht hoT hrun hr h9 h95 ho2 hf
  go_enter Tryz.func59, Tryz.ntmps59
  go_wp2_with fail
  go_region_held3 (fun wx => wx.cell? ⟨w.heap.size, 0, none⟩ = some (.iface 31 (.pointer (some ⟨p, 0, none⟩))) ∧ wx.cell? ⟨w.heap.size, 1, none⟩ = some (.int .i64 T) ∧ wx.cell? ⟨w.heap.size, 2, none⟩ = some (.int .i64 G) ∧ wx.cell? ⟨w.heap.size, 3, none⟩ = some (.int .i64 n) ∧ wx.cell? ⟨w.heap.size, 4, none⟩ = some (.int .u8 o) ∧ wx.cell? ⟨w.heap.size, 5, none⟩ = some (.pointer (some ⟨q, 0, none⟩)) ∧ wx.cell? ⟨w.heap.size, 6, none⟩ = some (.bool wk) ∧ wx.cell? ⟨w.heap.size, 7, none⟩ = some hd ∧ Kp [] (mkW w T G n p q o wk hd) wx)
    (first
      | assumption
      | exact ms_keep HS0.out ((Kp.refl [] _).drew) (by simp) (fun k => k.trans ((Kp.refl [] _).drew))
      | exact ms_keep ‹Ms w.heap.size T G n p q o wk hd (Kp [] (mkW w T G n p q o wk hd)) _› hk9 (by simp) (fun k => k.trans hk9))
    (first
    | (go_at_call 32
       refine (hT.out _).mono ?_
       rintro e w4 ⟨rfl, hk9⟩))
  all_goals
    rename_i hHeld
    obtain ⟨r0, r1, r2, r3, r4, r5, r6, r7, hk4⟩ := hHeld
    have hrow4 := hk4.row (by simp) (mkW_row w T G n p q o wk hd)
    have K4 := Lib.hid (KB.out _ hk4)
    have kA : Kp [] w4 (w4.alloc (.cells #[.int .u8 2, .int .u8 0, .bool false, .bool false, .int .u8 o, .int .u8 rf, .int .u8 sz] 59)) := (Kp.refl _ _).alloc _
    have K5 := Lib.hid (K4.out.trans kA)
    have hrow5 := kA.row (by simp) hrow4
    obtain ⟨s0, s1, s2, s3, s4, s5, s6, s7, -⟩ := ms_of (F := fun _ => True) hrow5 trivial
    have HOf5 := Lib.hid (HOf.out _ (HTb.out _ K5.out))
    have HSm5 := Lib.hid (HSm.out _ K5.out)
    clear hk4 hrow4 kA hrow5 HOf HSm hk9
    go_wp2_with fail
    refine HOf5.out.mono ?_
    rintro e w6 ⟨rfl, rfl⟩
    go_wp2_with fail
    refine HSm5.out.mono ?_
    rintro e w7 ⟨rfl, h7⟩
    have H7 := Lib.hid h7
    clear h7
    go_wp2_with fail
    go_ret2
    exact ⟨rfl, H7.out⟩
end

end Go.Proofs.YticbnckikkdknaaGreatDoor
