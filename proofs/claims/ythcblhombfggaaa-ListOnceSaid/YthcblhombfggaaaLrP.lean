/- The document's own list (demesneref07): Push. Conditions: as each theorem states them. -/
import Derived.Test.YthcblhombfggaaaLrC
import Derived.RangeFuncBox
namespace Go.Proofs.Ythcblhombfggaaa
set_option linter.unusedVariables false
set_option linter.unusedSimpArgs false
open Go.RowKit

theorem Pre.on {w w2 w3 : World} {us : Nat → Value} {Q : Nat → List Int} (h : Pre w w2 us Q) (k : Kp [] w2 w3) : Pre w w3 us Q := by
  obtain ⟨old, ho, hs⟩ := h.hb2
  exact ⟨k.row (by simp) h.hb1, ⟨old, k.row (by simp) ho, hs⟩, h.kp.trans k, fun c hc => (h.rd c hc).keep0 k⟩

theorem rpush_bad (w : World) (us : Nat → Value) (Q : Nat → List Int) (c x : Int) (h : (c < 0 ∨ 4 ≤ c) ∨ (¬ (c < 0 ∨ 4 ≤ c) ∧ x < 1)) (hq : ∀ c, c < 4 → Rd w (us c) (Q c)) :
    Calls Try.prog 13 #[.agg #[us 0, us 1, us 2, us 3], .int .i64 c, .int .i64 x] w fun e w' => e = .returned (.tuple #[.agg #[us 0, us 1, us 2, us 3], .int .i64 2]) ∧ Kp [] w w' := by
  have h1 := ones hq
  have H := pre_of w us Q hq
  obtain ⟨w2, hw2⟩ : ∃ w2, (w.alloc (.cells #[us 0, us 1, us 2, us 3] 29)).alloc (.cells #[.slice none 0 0, .slice none 0 0, .slice none 0 0, .slice none 0 0] 29) = w2 := ⟨_, rfl⟩
  rw [hw2] at H
  obtain ⟨⟨old, ho, hs⟩, f2, f3⟩ := H.fin (Kp.refl _ w2) #[us 0, us 1, us 2, us 3]
  have c0 := H.cell (c := 0) (by omega)
  have c1 := H.cell (c := 1) (by omega)
  have c2 := H.cell (c := 2) (by omega)
  have c3 := H.cell (c := 3) (by omega)
  have HB := Lib.hid (And.intro h1 (And.intro ho (And.intro hs (And.intro f2 f3))))
  clear h1 hq H ho hs f2 f3
  rcases h with (h | h) | ⟨hc, hx⟩
  · go_enter Try.func13, Try.ntmps13
    go_wp2_with (refine wpList_store_row rfl 29 _ _ rfl (w.heap.size + 1) _ rfl rfl 29 _ HB.out.2.1 (by kernel_rfl) HB.out.2.2.1 HB.out.1 ?_)
    exact bodyPost_row_tmp rfl (w.heap.size + 1) 29 _ (0, 0) _ (.int .i64 2) rfl rfl rfl HB.out.2.2.2.1 Try.underlying29 rfl (by kernel_rfl) ⟨rfl, HB.out.2.2.2.2⟩
  · have h1 : ¬ c < 0 := by omega
    have h2 : 3 < c := by omega
    go_enter Try.func13, Try.ntmps13
    go_wp2_with (refine wpList_store_row rfl 29 _ _ rfl (w.heap.size + 1) _ rfl rfl 29 _ HB.out.2.1 (by kernel_rfl) HB.out.2.2.1 HB.out.1 ?_)
    exact bodyPost_row_tmp rfl (w.heap.size + 1) 29 _ (0, 0) _ (.int .i64 2) rfl rfl rfl HB.out.2.2.2.1 Try.underlying29 rfl (by kernel_rfl) ⟨rfl, HB.out.2.2.2.2⟩
  · have h1 : ¬ c < 0 := by omega
    have h2 : ¬ 3 < c := by omega
    go_enter Try.func13, Try.ntmps13
    go_wp2_with (refine wpList_store_row rfl 29 _ _ rfl (w.heap.size + 1) _ rfl rfl 29 _ HB.out.2.1 (by kernel_rfl) HB.out.2.2.1 HB.out.1 ?_)
    exact bodyPost_row_tmp rfl (w.heap.size + 1) 29 _ (0, 0) _ (.int .i64 2) rfl rfl rfl HB.out.2.2.2.1 Try.underlying29 rfl (by kernel_rfl) ⟨rfl, HB.out.2.2.2.2⟩

theorem rpush_has (w : World) (us : Nat → Value) (Q : Nat → List Int) (c : Nat) (x : Int) (hc : c < 4) (hx : 1 ≤ x) (hh : hasB Q x = true) (hq : ∀ c, c < 4 → Rd w (us c) (Q c)) (hn : Len Q 1000) :
    Calls Try.prog 13 #[.agg #[us 0, us 1, us 2, us 3], .int .i64 c, .int .i64 x] w fun e w' => e = .returned (.tuple #[.agg #[us 0, us 1, us 2, us 3], .int .i64 6]) ∧ Kp [] w w' := by
  have h1 := ones hq
  have H := pre_of w us Q hq
  obtain ⟨w2, hw2⟩ : ∃ w2, (w.alloc (.cells #[us 0, us 1, us 2, us 3] 29)).alloc (.cells #[.slice none 0 0, .slice none 0 0, .slice none 0 0, .slice none 0 0] 29) = w2 := ⟨_, rfl⟩
  rw [hw2] at H
  have c0 := H.cell (c := 0) (by omega)
  have c1 := H.cell (c := 1) (by omega)
  have c2 := H.cell (c := 2) (by omega)
  have c3 := H.cell (c := 3) (by omega)
  have hr := rhas_any w2 us Q x H.rd hn
  rw [hh] at hr
  have HH := Lib.hid (And.intro H h1)
  clear H h1 hh hq hn
  go_enter Try.func13, Try.ntmps13
  go_wp2_with fail
  refine hr.mono ?_
  rintro e w3 ⟨rfl, hk3⟩
  have H3 := HH.out.1.on hk3
  obtain ⟨⟨old, ho, hs⟩, f2, f3⟩ := H3.fin (Kp.refl _ w3) #[us 0, us 1, us 2, us 3]
  have d0 := H3.cell (c := 0) (by omega)
  have d1 := H3.cell (c := 1) (by omega)
  have d2 := H3.cell (c := 2) (by omega)
  have d3 := H3.cell (c := 3) (by omega)
  have HB := Lib.hid (And.intro HH.out.2 (And.intro ho (And.intro hs (And.intro f2 f3))))
  clear H3 ho hs f2 f3 hk3 c0 c1 c2 c3 hr
  go_wp2_with (refine wpList_store_row rfl 29 _ _ rfl (w.heap.size + 1) _ rfl rfl 29 _ HB.out.2.1 (by kernel_rfl) HB.out.2.2.1 HB.out.1 ?_)
  exact bodyPost_row_tmp rfl (w.heap.size + 1) 29 _ (0, 0) _ (.int .i64 6) rfl rfl rfl HB.out.2.2.2.1 Try.underlying29 rfl (by kernel_rfl) ⟨rfl, HB.out.2.2.2.2⟩

/-- What is appended to a row of one: its cells, where there are any. -/
theorem Rd.news {w : World} {u : Value} {xs : List Int} (h : Rd w u xs) : (u = .slice none 0 0 ∧ xs = []) ∨ ∃ ad cap, u = .slice (some ad) xs.length cap ∧ ∀ w', Kp [] w w' → ∀ j v, (ints xs)[j]? = some v → w'.cell? (ad.add j) = some v := by
  have h' := h
  obtain ⟨ao, cap, rfl, hc, hz, hx⟩ := h.form
  cases ao with
  | none =>
    obtain rfl := hz rfl
    have : xs = [] := List.eq_nil_of_length_eq_zero (by omega)
    subst this
    exact .inl ⟨rfl, rfl⟩
  | some ad =>
    refine .inr ⟨ad, cap, rfl, fun w' k j v hv => ?_⟩
    have hj : j < xs.length := by
      have := (List.getElem?_eq_some_iff.1 hv).1
      simpa [ints] using this
    obtain ⟨g, o, e, hcell⟩ := hx (fun e => by subst e; simp at hj)
    cases e
    have := hcell j hj
    rw [Addr.add_lit, (World.cell?_of_block (a := ⟨g, o + j, none⟩) (k.block g (block_lt_of_cell this) (by simp))).trans this, ← ints_get xs j hj]
    exact hv

/-- The list's block behind a slice is stored. -/
theorem Pre.stored {w w5 : World} {us : Nat → Value} {Q : Nat → List Int} (h : Pre w w5 us Q) {c : Nat} (hc : c < 4) (V : Value) :
    (w5.setCell ⟨w.heap.size, c, none⟩ V).heap[w.heap.size]? = some (.cells #[updV us c V 0, updV us c V 1, updV us c V 2, updV us c V 3] 29 (0, 0)) := by
  rw [heap_setCell_same _ _ _ _ _ _ h.hb1]
  rcases four hc with rfl | rfl | rfl | rfl <;> simp [updV]

theorem ints_cons (x : Int) (xs : List Int) : ints (x :: xs) = [.int .i64 x] ++ ints xs := rfl

/-- All that is behind the append. -/
structure PushEnd (w w5 : World) (us : Nat → Value) (Q : Nat → List Int) (c : Nat) (x : Int) (V : Value) : Prop where
  pre : Pre w w5 us Q
  one : (#[updV us c V 0, updV us c V 1, updV us c V 2, updV us c V 3] : Array Value).all (·.oneCell') = true
  hb : (w5.setCell ⟨w.heap.size, c, none⟩ V).heap[w.heap.size]? = some (.cells #[updV us c V 0, updV us c V 1, updV us c V 2, updV us c V 3] 29 (0, 0))
  old : ∃ old, (w5.setCell ⟨w.heap.size, c, none⟩ V).heap[w.heap.size + 1]? = some (.cells old 29 (0, 0)) ∧ old.size = 4
  res : ((w5.setCell ⟨w.heap.size, c, none⟩ V).setRow (w.heap.size + 1) #[updV us c V 0, updV us c V 1, updV us c V 2, updV us c V 3]).heap[w.heap.size + 1]? = some (.cells #[updV us c V 0, updV us c V 1, updV us c V 2, updV us c V 3] 29 (0, 0))
  kp : Kp [] w ((w5.setCell ⟨w.heap.size, c, none⟩ V).setRow (w.heap.size + 1) #[updV us c V 0, updV us c V 1, updV us c V 2, updV us c V 3])
  rd : ∀ d, d < 4 → Rd ((w5.setCell ⟨w.heap.size, c, none⟩ V).setRow (w.heap.size + 1) #[updV us c V 0, updV us c V 1, updV us c V 2, updV us c V 3]) (updV us c V d) (upd Q c (x :: Q c) d)
  blk : ∀ d, d < 4 → ∀ y ∈ blk (updV us c V d), y ∈ blk (us d) ∨ (w.heap.size ≤ y ∧ y < ((w5.setCell ⟨w.heap.size, c, none⟩ V).setRow (w.heap.size + 1) #[updV us c V 0, updV us c V 1, updV us c V 2, updV us c V 3]).heap.size)

theorem pushEnd {w w5 : World} {us : Nat → Value} {Q : Nat → List Int} {c : Nat} {x : Int} {V : Value} (h : Pre w w5 us Q) (hc : c < 4) (hlt : ∀ d, d < 4 → ∀ y ∈ blk (us d), y < w.heap.size)
    (hV : Rw w5 V (x :: Q c)) (hge : ∀ y ∈ Go.Proofs.Ythcblhombfggaaa.blk V, w.heap.size + 2 ≤ y) : PushEnd w w5 us Q c x V := by
  have k3 : Kp [w.heap.size] w5 (w5.setCell ⟨w.heap.size, c, none⟩ V) := (Kp.refl _ _).setCell (.inl (by simp)) _
  obtain ⟨r1, r2⟩ := rows_lt (N := 0) hlt
  have hf := h.fin k3 #[updV us c V 0, updV us c V 1, updV us c V 2, updV us c V 3]
  have hV' := (Rd.of_rw hV).keep k3 (fun y hy hy' => by have := hge y hy; simp at hy'; omega)
  have han := h.answer _ k3 #[updV us c V 0, updV us c V 1, updV us c V 2, updV us c V 3] c V (x :: Q c) hV' (fun y hy => .inr (by have := hge y hy; have := hV.lt y hy; rw [World.size_setCell]; omega)) r1 (fun y hy => by have := hge y hy; omega) r2
  have ho : ∀ d, d < 4 → (updV us c V d).oneCell' = true := fun d hd => by
    by_cases e : d = c
    · subst e; rw [updV_same]; exact (Rd.of_rw hV).one
    · rw [updV_ne _ _ _ _ e]; exact (h.rd d hd).one
  exact ⟨h, ones_of (ho 0 (by omega)) (ho 1 (by omega)) (ho 2 (by omega)) (ho 3 (by omega)), h.stored hc V, hf.1, hf.2.1, han.1, han.2.1, han.2.2⟩

set_option maxHeartbeats 1000000 in
theorem rpush_good (w : World) (us : Nat → Value) (Q : Nat → List Int) (c : Nat) (x : Int) (hc : c < 4) (hx : 1 ≤ x) (hh : hasB Q x = false) (hq : ∀ c, c < 4 → Rd w (us c) (Q c)) (hn : Len Q 1000) (hlt : ∀ d, d < 4 → ∀ y ∈ blk (us d), y < w.heap.size) :
    Calls Try.prog 13 #[.agg #[us 0, us 1, us 2, us 3], .int .i64 c, .int .i64 x] w fun e w' => ∃ us' : Nat → Value, e = .returned (.tuple #[.agg #[us' 0, us' 1, us' 2, us' 3], .int .i64 0]) ∧ Kp [] w w' ∧ (∀ d, d < 4 → Rd w' (us' d) (upd Q c (x :: Q c) d)) ∧ ∀ d, d < 4 → ∀ y ∈ blk (us' d), y ∈ blk (us d) ∨ (w.heap.size ≤ y ∧ y < w'.heap.size) := by
  have H := pre_of w us Q hq
  have hw2s : ((w.alloc (.cells #[us 0, us 1, us 2, us 3] 29)).alloc (.cells #[.slice none 0 0, .slice none 0 0, .slice none 0 0, .slice none 0 0] 29)).heap.size = w.heap.size + 2 := by simp
  obtain ⟨w2, hw2⟩ : ∃ w2, (w.alloc (.cells #[us 0, us 1, us 2, us 3] 29)).alloc (.cells #[.slice none 0 0, .slice none 0 0, .slice none 0 0, .slice none 0 0] 29) = w2 := ⟨_, rfl⟩
  rw [hw2] at H hw2s
  have c0 := H.cell (c := 0) (by omega)
  have c1 := H.cell (c := 1) (by omega)
  have c2 := H.cell (c := 2) (by omega)
  have c3 := H.cell (c := 3) (by omega)
  have hr := rhas_any w2 us Q x H.rd hn
  rw [hh] at hr
  have hnc := hn c hc
  obtain ⟨i0, hi, hz0, hz1, hz2⟩ := info_parts int_info
  have HH := Lib.hid (And.intro H (And.intro hlt hw2s))
  have HQ := Lib.hid (hq c hc)
  clear H hh hq hn hlt hw2s
  go_enter Try.func13, Try.ntmps13
  go_wp2_with fail
  refine hr.mono ?_
  rintro e w3 ⟨rfl, hk3⟩
  have H3 := HH.out.1.on hk3
  have hs3 : w.heap.size + 2 ≤ w3.heap.size := by rw [← HH.out.2.2]; exact hk3.size
  have d0 := H3.cell hc
  have hq3 := H3.rd c hc
  have HP := Lib.hid H3
  clear H3 hk3 c0 c1 c2 c3 hr hw2
  have hown := World.ownsRow_lit (base := w.heap.size + 2) (e := 3) (size := 1) w3 #[.int .i64 x] 1 hs3 (by decide) rfl
  rcases hq3.news with ⟨hu, h0⟩ | ⟨ad, cap, hu, hnews⟩
  · rw [hu] at d0
    have hap : ∀ ty, (Builtin.append_ #[26, 26] ty #[.slice (some ⟨w3.heap.size, 0, none⟩) 1 1, .slice none 0 0]).run Try.prog (w3.alloc (.cells #[.int .i64 x] 3)) = .ok (.slice (some ⟨w3.heap.size, 0, none⟩) 1 1) (w3.alloc (.cells #[.int .i64 x] 3)) :=
      fun ty => run_append_owned_none _ _ 26 ty 3 i0 1 Try.underlying26 hi _ 1 _ hown
    have hk4 : Kp [] w3 (w3.alloc (.cells #[.int .i64 x] 3)) := (Kp.refl _ _).alloc _
    have hrw : Rw (w3.alloc (.cells #[.int .i64 x] 3)) (.slice (some ⟨w3.heap.size, 0, none⟩) 1 1) (x :: Q c) := by
      rw [h0]; exact Rw.of_own hown
    have E := Lib.hid (pushEnd (HP.out.on hk4) hc HH.out.2.1 hrw (fun y hy => by rw [blk_some, List.mem_singleton] at hy; omega))
    have d5 := E.out.pre.cell hc
    rw [hu] at d5
    have f5 := free_of_row E.out.pre.hb1 c
    obtain ⟨old, ho, hs⟩ := E.out.old
    have HO := Lib.hid (And.intro ho hs)
    clear hown hk4 hrw hq3 ho hs h0 hu d0
    go_wp2_with (first
      | (refine wpList_load_row rfl 29 _ rfl w.heap.size rfl 29 _ _ _ E.out.hb Try.underlying29 rfl (by kernel_rfl) ?_)
      | (refine wpList_store_row rfl 29 _ _ rfl (w.heap.size + 1) _ rfl rfl 29 _ HO.out.1 (by kernel_rfl) HO.out.2 E.out.one ?_))
    exact bodyPost_row_tmp rfl (w.heap.size + 1) 29 _ (0, 0) _ (.int .i64 0) rfl rfl rfl E.out.res Try.underlying29 rfl (by kernel_rfl) ⟨_, rfl, E.out.kp, E.out.rd, E.out.blk⟩
  · rw [hu] at d0
    have hk4 : Kp [] w3 (w3.alloc (.cells #[.int .i64 x] 3)) := (Kp.refl _ _).alloc _
    have hnw := hnews _ hk4
    have d4 := (HP.out.on hk4).cell hc
    rw [hu] at d4
    have HW := Lib.hid (And.intro hown hnw)
    have HV := Lib.hid hu
    have hlx : (x :: Q c).length = 1 + (Q c).length := by rw [List.length_cons]; omega
    have HLX := Lib.hid hlx
    clear hown hk4 hq3 hu hnews hnw hlx
    go_wp2_with (first
      | (refine wpList_load_row rfl 29 _ rfl w.heap.size rfl 29 _ _ _ E.out.hb Try.underlying29 rfl (by kernel_rfl) ?_)
      | (refine wpList_store_row rfl 29 _ _ rfl (w.heap.size + 1) _ rfl rfl 29 _ HO.out.1 (by kernel_rfl) HO.out.2 E.out.one ?_)
      | (at_builtin; refine wpList_append_own _ rfl _ _ 26 rfl (w.heap.size + 2) 3 i0 (.int .i64 0) 1 8 Try.underlying26 hi hz0 hz1 hz2 rfl (by decide) _ 1 _ rfl HW.out.1 ad (Q c).length cap (ints (Q c)) rfl (by simp [ints]) HW.out.2 (by intro u hu; obtain ⟨_, _, rfl⟩ := List.mem_map.1 hu; rfl) (by unfold maxLen; omega) (by omega) (by simp; omega) ?_
         intro V w5 hown5 hg5 _
         have hrw : Rw w5 V (x :: Q c) := Rw.of_own (base := w.heap.size + 2) (by rw [HLX.out, ints_cons]; exact hown5)
         have hge : ∀ y ∈ blk V, w.heap.size + 2 ≤ y := fun y hy => (hown5.lt y (by unfold blk at hy; rwa [Option.mem_toList] at hy)).1
         have hk5 : Kp [] w3 w5 := ((Kp.refl [] w3).alloc _).grown hg5 (fun k e => .inr (by simp only [Value.ownBlock] at e; cases e; exact Nat.le_refl _))
         have E := Lib.hid (pushEnd (HP.out.on hk5) hc HH.out.2.1 hrw hge)
         have d5 := E.out.pre.cell hc
         have f5 := free_of_row E.out.pre.hb1 c
         obtain ⟨a5, cap5, hV5⟩ := hrw.form
         subst hV5
         obtain ⟨old, ho, hs⟩ := E.out.old
         have HO := Lib.hid (And.intro ho hs)
         clear hown5 hg5 hk5 hrw hge ho hs d0 d4))
    exact bodyPost_row_tmp rfl (w.heap.size + 1) 29 _ (0, 0) _ (.int .i64 0) rfl rfl rfl E.out.res Try.underlying29 rfl (by kernel_rfl) ⟨_, rfl, E.out.kp, E.out.rd, E.out.blk⟩

end Go.Proofs.Ythcblhombfggaaa
