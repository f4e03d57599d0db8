/- The document's own list (demesneref07): Drop. Conditions: as each theorem states them. -/
import Derived.Test.YthcblhombfggaaaLrP
namespace Go.Proofs.Ythcblhombfggaaa
set_option linter.unusedVariables false
set_option linter.unusedSimpArgs false
open Go.RowKit

theorem Pre.onS {w w2 w3 : World} {us : Nat → Value} {Q : Nat → List Int} {S : List Nat} {B : Nat} (h : Pre w w2 us Q) (k : Kp S w2 w3) (hS : ∀ x ∈ S, B ≤ x) (hB : w.heap.size + 2 ≤ B) (hlt : ∀ d, d < 4 → ∀ y ∈ blk (us d), y < B) : Pre w w3 us Q := by
  obtain ⟨old, ho, hs⟩ := h.hb2
  refine ⟨k.row (fun e => by have := hS _ e; omega) h.hb1, ⟨old, k.row (fun e => by have := hS _ e; omega) ho, hs⟩, ?_, fun c hc => (h.rd c hc).keep k (fun g hg e => by have := hS _ e; have := hlt c hc g hg; omega)⟩
  exact ⟨k.os.trans h.kp.os, k.tape.trans h.kp.tape, k.output.trans h.kp.output, Nat.le_trans h.kp.size k.size, fun i hi _ => (k.block i (Nat.lt_of_lt_of_le hi h.kp.size) (fun e => by have := hS _ e; omega)).trans (h.kp.block i hi (by simp))⟩

/-- Between two rows. -/
structure DO (w : World) (us : Nat → Value) (Q : Nat → List Int) (f t : Int) (c : Nat) (wr : World) (us' : Nat → Value) : Prop where
  pre : Pre w wr us' (Rk Q f t c)
  bl : ∀ d, d < 4 → ∀ y ∈ blk (us' d), y ∈ blk (us d) ∨ w.heap.size ≤ y
  lt : ∀ d, d < 4 → ∀ y ∈ blk (us' d), y < wr.heap.size
  sz : w.heap.size + 2 ≤ wr.heap.size
/-- Within a row. -/
structure DI (w w0 : World) (us' : Nat → Value) (Q : Nat → List Int) (f t : Int) (c i : Nat) (v : Value) (wi : World) : Prop where
  pre : Pre w wi us' (Rk Q f t c)
  own : wi.ownsRow w0.heap.size 3 1 v (left f t ((Q c).take i)).length (ints (left f t ((Q c).take i)))
  sz : w0.heap.size ≤ wi.heap.size

theorem left_no {f t : Int} {xs : List Int} {i : Nat} (hi : i < xs.length) (h : goes f t (xs.getD i 0) = true) : left f t (xs.take (i + 1)) = left f t (xs.take i) := by
  rw [getD_lt _ _ hi] at h
  unfold left
  rw [List.take_succ_eq_append_getElem hi, List.filter_append]
  simp [h]
theorem left_yes {f t : Int} {xs : List Int} {i : Nat} (hi : i < xs.length) (h : goes f t (xs.getD i 0) = false) : left f t (xs.take (i + 1)) = left f t (xs.take i) ++ [xs.getD i 0] := by
  rw [getD_lt _ _ hi] at h ⊢
  unfold left
  rw [List.take_succ_eq_append_getElem hi, List.filter_append]
  simp [h]
theorem left_take_le (f t : Int) (xs : List Int) (i : Nat) : (left f t (xs.take i)).length ≤ i := by
  have h1 := left_le f t (xs.take i)
  have h2 : (xs.take i).length ≤ i := by simp; omega
  omega

theorem DI.push {w w0 wi w5 : World} {us' : Nat → Value} {Q : Nat → List Int} {f t : Int} {c i : Nat} {v v' : Value} {x : Int} (h : DI w w0 us' Q f t c i v wi) (hi : i < (Q c).length) (hx : (Q c).getD i 0 = x) (hg : goes f t x = false) {o : Obj} (hs0 : w.heap.size + 2 ≤ w0.heap.size) (hlt : ∀ d, d < 4 → ∀ y ∈ blk (us' d), y < w0.heap.size)
    (hown : w5.ownsRow w0.heap.size 3 1 v' ((left f t ((Q c).take i)).length + 1) (ints (left f t ((Q c).take i)) ++ [.int .i64 x])) (hgr : (wi.alloc o).grownBy w5 v.ownBlock) : DI w w0 us' Q f t c (i + 1) v' w5 := by
  have hk : Kp (blk v) wi w5 := ((Kp.refl _ _).alloc o).trans (kp_of_row hgr)
  refine ⟨h.pre.onS hk (fun y hy => ?_) hs0 hlt, ?_, Nat.le_trans h.sz hk.size⟩
  · unfold blk at hy
    rw [Option.mem_toList] at hy
    exact (h.own.lt y hy).1
  · rw [left_yes hi (by rw [hx]; exact hg), hx, List.length_append, ints_snoc]
    exact hown

theorem DI.fin {w w0 wi : World} {us us' : Nat → Value} {Q : Nat → List Int} {f t : Int} {c : Nat} {v : Value} (h : DI w w0 us' Q f t c (Q c).length v wi) (hc : c < 4) (bl : ∀ d, d < 4 → ∀ y ∈ blk (us' d), y ∈ blk (us d) ∨ w.heap.size ≤ y) (hs0 : w.heap.size + 2 ≤ w0.heap.size) (hlt : ∀ d, d < 4 → ∀ y ∈ blk (us' d), y < w0.heap.size) (hne : ∀ d, d < 4 → ∀ y ∈ blk (us' d), y ≠ w.heap.size) :
    DO w us Q f t (c + 1) (wi.setCell ⟨w.heap.size, c, none⟩ v) (updV us' c v) := by
  have k3 : Kp [w.heap.size] wi (wi.setCell ⟨w.heap.size, c, none⟩ v) := (Kp.refl _ _).setCell (.inl (by simp)) _
  have hown := h.own
  rw [List.take_length] at hown
  have hR : Rw wi v (left f t (Q c)) := Rw.of_own hown
  have hge : ∀ y ∈ blk v, w0.heap.size ≤ y ∧ y < wi.heap.size := fun y hy => by
    unfold blk at hy
    rw [Option.mem_toList] at hy
    exact hown.lt y hy
  obtain ⟨old, ho, hs⟩ := h.pre.hb2
  have hkp := h.pre.kp
  refine ⟨⟨h.pre.stored hc v, ⟨old, k3.row (by simp) ho, hs⟩, ?_, ?_⟩, ?_, ?_, ?_⟩
  · exact ⟨k3.os.trans hkp.os, k3.tape.trans hkp.tape, k3.output.trans hkp.output, Nat.le_trans hkp.size k3.size, fun j hj _ => (k3.block j (Nat.lt_of_lt_of_le hj hkp.size) (by rw [List.mem_singleton]; omega)).trans (hkp.block j hj (by simp))⟩
  · intro d hd
    rw [← Rk_upd]
    by_cases e : d = c
    · subst e
      rw [updV_same, upd_same]
      exact (Rd.of_rw hR).keep k3 (fun g hg hg' => by have := hge g hg; simp at hg'; omega)
    · rw [updV_ne _ _ _ _ e, upd_ne _ _ _ _ e]
      exact (h.pre.rd d hd).keep k3 (fun g hg hg' => hne d hd g hg (by simpa using hg'))
  · intro d hd y hy
    by_cases e : d = c
    · subst e
      rw [updV_same] at hy
      exact .inr (by have := hge y hy; omega)
    · rw [updV_ne _ _ _ _ e] at hy
      exact bl d hd y hy
  · intro d hd y hy
    rw [World.size_setCell]
    by_cases e : d = c
    · subst e
      rw [updV_same] at hy
      exact (hge y hy).2
    · rw [updV_ne _ _ _ _ e] at hy
      have := hlt d hd y hy
      have := h.sz
      omega
  · rw [World.size_setCell]
    have := h.sz
    omega

set_option maxRecDepth 100000 in
set_option maxHeartbeats 2000000 in
theorem rdrop_any (w : World) (us : Nat → Value) (Q : Nat → List Int) (f t : Int) (hq : ∀ c, c < 4 → Rd w (us c) (Q c)) (hn : Len Q 1000) (hlt : ∀ d, d < 4 → ∀ y ∈ blk (us d), y < w.heap.size) :
    Calls Try.prog 11 #[.agg #[us 0, us 1, us 2, us 3], .int .i64 f, .int .i64 t] w fun e w' => ∃ us' : Nat → Value, e = .returned (.tuple #[.agg #[us' 0, us' 1, us' 2, us' 3], .int .i64 (gone Q f t 4)]) ∧ Kp [] w w' ∧ (∀ d, d < 4 → Rd w' (us' d) (Rk Q f t 4 d)) ∧ ∀ d, d < 4 → ∀ y ∈ blk (us' d), y ∈ blk (us d) ∨ (w.heap.size ≤ y ∧ y < w'.heap.size) := by
  have H := pre_of w us Q hq
  have hw2s : ((w.alloc (.cells #[us 0, us 1, us 2, us 3] 29)).alloc (.cells #[.slice none 0 0, .slice none 0 0, .slice none 0 0, .slice none 0 0] 29)).heap.size = w.heap.size + 2 := by simp
  obtain ⟨w2, hw2⟩ : ∃ w2, (w.alloc (.cells #[us 0, us 1, us 2, us 3] 29)).alloc (.cells #[.slice none 0 0, .slice none 0 0, .slice none 0 0, .slice none 0 0] 29) = w2 := ⟨_, rfl⟩
  rw [hw2] at H hw2s
  obtain ⟨i0, hi, hz0, hz1, hz2⟩ := info_parts int_info
  have H0 : Hid (DO w us Q f t 0 w2 us) := Lib.hid ⟨by rw [Rk_zero]; exact H, fun d hd y hy => .inl hy, fun d hd y hy => by have := hlt d hd y hy; omega, by omega⟩
  have HLT := Lib.hid hlt
  clear H hq hlt hw2s
  go_enter Try.func11, Try.ntmps11
  go_wp2
  try rw [hw2]
  clear hw2
  go_loopg [8, 9, 10, 11, 12] 4 (fun g nv cv _ _ _ wr => ∃ (c : Nat) (us' : Nat → Value), c + g = 4 ∧ cv = .int .i64 (c : Int) ∧ nv = .int .i64 (gone Q f t c) ∧ Hid (DO w us Q f t c wr us') ∧ Hid (∀ d, d < 4 → ∀ y ∈ blk (us' d), y ≠ w.heap.size ∧ y ≠ w.heap.size + 1))
  case atStart => exact ⟨0, us, by omega, rfl, rfl, H0, Lib.hid (fun d hd y hy => by have := HLT.out d hd y hy; omega)⟩
  case round =>
    clear H0
    obtain ⟨c, us', hcg, rfl, rfl, D, NE⟩ := hrel
    obtain ⟨w0, rfl⟩ : ∃ w0 : World, w0 = wr := ⟨_, rfl⟩
    have hgl := gone_le Q f t hn c (by omega)
    by_cases hc4 : c < 4
    · have hcell := D.out.pre.cell hc4
      have hfr := free_of_row D.out.pre.hb1 c
      have hRd := D.out.pre.rd c hc4
      rw [Rk_at] at hRd
      obtain ⟨ao, cap, hu, hcap, _, hcs⟩ := hRd.form
      have hl := hn c hc4
      rw [hu] at hcell
      have HN : Hid (∀ i, i < (Q c).length → ∃ g o, ao = some ⟨g, o, none⟩ ∧ ∀ wi, Pre w wi us' (Rk Q f t c) → wi.cell? ⟨g, o + i, none⟩ = some (.int .i64 ((Q c).getD i 0))) := Lib.hid (fun i hi => by
        obtain ⟨g, o, e, hx⟩ := hcs (fun e => by rw [e] at hi; simp at hi)
        refine ⟨g, o, e, fun wi P => ?_⟩
        have hr2 := P.rd c hc4
        rw [Rk_at] at hr2
        obtain ⟨ao2, cap2, hu2, _, _, hcs2⟩ := hr2.form
        obtain ⟨g2, o2, e2, hx2⟩ := hcs2 (fun e => by rw [e] at hi; simp at hi)
        rw [hu] at hu2
        cases hu2
        rw [e] at e2
        cases e2
        exact hx2 i hi)
      obtain ⟨n, hnn⟩ : ∃ n, n = (Q c).length := ⟨_, rfl⟩
      have HL := Lib.hid hnn
      rw [← hnn] at hcell hl hcap
      have HU := Lib.hid hu
      have HX := Lib.hid hn
      have hgo := Lib.hid (show gone Q f t (c + 1) = gone Q f t c + ((Q c).length - (left f t (Q c)).length) from rfl)
      have I0 : Hid (DI w w0 us' Q f t c 0 (.slice none 0 0) w0) := Lib.hid ⟨D.out.pre, World.ownsRow_nil _ _ _ _, Nat.le_refl _⟩
      have hsz := D.out.sz
      clear hcs hu hnn hn hRd
      obtain ⟨G, hG⟩ : ∃ G, G + 1 = gk := ⟨gk - 1, by omega⟩
      go_wp2
      rw [show decide ((c : Int) < 4) = true from decide_eq_true (by omega)]
      go_loopg [8, 10, 11, 12] n (fun g nv lv iv _ wi => ∃ (i k : Nat) (v : Value), i + g = n ∧ iv = .int .i64 (i : Int) ∧ lv = v ∧ nv = .int .i64 ((gone Q f t c + k : Nat) : Int) ∧ k ≤ i ∧ Hid (k = i - (left f t ((Q c).take i)).length) ∧ Hid (DI w w0 us' Q f t c i v wi))
      case atStart => exact ⟨0, 0, _, by omega, rfl, rfl, rfl, by omega, Lib.hid (by omega), I0⟩
      case round =>
        clear I0
        obtain ⟨i, k, v, hig, rfl, hvv, rfl, hki, hkk, I⟩ := hrel
        have hvv' := hvv.symm
        subst hvv'
        clear hvv
        have d1 := I.out.pre.cell hc4
        rw [HU.out, ← HL.out] at d1
        by_cases hin : i < n
        · obtain ⟨g, o, rfl, hx⟩ := HN.out i (by have := HL.out; omega)
          have hci := hx wr I.out.pre
          clear hx
          obtain ⟨y, hy⟩ : ∃ y, y = (Q c).getD i 0 := ⟨_, rfl⟩
          have HY := Lib.hid hy
          rw [← hy] at hci
          have hll := left_take_le f t (Q c) i
          clear hy
          by_cases hgg : goes f t y = true
          · have h1 : f ≤ y := by simp only [goes, Bool.and_eq_true, decide_eq_true_eq] at hgg; exact hgg.1
            have h2 : y < t := by simp only [goes, Bool.and_eq_true, decide_eq_true_eq] at hgg; exact hgg.2
            have hstep := left_no (f := f) (t := t) (xs := Q c) (i := i) (by have := HL.out; omega) (by rw [← HY.out]; exact hgg)
            have I2 : Hid (DI w w0 us' Q f t c (i + 1) v wr) := Lib.hid ⟨I.out.pre, by rw [hstep]; exact I.out.own, I.out.sz⟩
            have hk2 : Hid (k + 1 = i + 1 - (left f t ((Q c).take (i + 1))).length) := Lib.hid (by rw [hstep]; have := hkk.out; omega)
            clear hstep hgg
            go_wp2
            go_roundg (n - (i + 1))
            case measure => omega
            case rel => exact ⟨i + 1, k + 1, v, by omega, by go_num, rfl, by go_num, by omega, hk2, I2⟩
          · have hgf : goes f t y = false := by simpa using hgg
            have hil : i < (Q c).length := by have := HL.out; omega
            have hstep := left_yes (f := f) (t := t) (xs := Q c) (i := i) hil (by rw [← HY.out]; exact hgf)
            have hk2 : Hid (k = i + 1 - (left f t ((Q c).take (i + 1))).length) := Lib.hid (by rw [hstep, List.length_append]; have := hkk.out; simp; omega)
            have HG := Lib.hid hgf
            have hlen : (left f t ((Q c).take i)).length ≤ 1000 := by omega
            clear hstep hgg hgf
            have hor : (y < f) ∨ (f ≤ y ∧ t ≤ y) := by
              have := HG.out
              simp only [goes, Bool.and_eq_false_iff, decide_eq_false_iff_not] at this
              omega
            rcases hor with hor | ⟨ho1, ho2⟩
            · go_wp2_with (first
                | (at_builtin; refine wpList_append_own _ rfl _ _ 26 rfl w0.heap.size 3 i0 (.int .i64 0) 1 8 Try.underlying26 hi hz0 hz1 hz2 rfl (by decide) _ _ _ rfl (I.out.own.alloc _) ⟨wr.heap.size, 0, none⟩ 1 1 [.int .i64 y] rfl rfl (news_one wr y _ rfl) (one_cell _) (by unfold maxLen; omega) (by omega) (by have := I.out.sz; simp; omega) ?_
                   intro v5 w5 hown5 hg5 _
                   have I2 : Hid (DI w w0 us' Q f t c (i + 1) v5 w5) := Lib.hid (I.out.push hil HY.out.symm HG.out hsz D.out.lt hown5 hg5)
                   clear hown5 hg5 d1 hci))
              go_roundg (n - (i + 1))
              case measure => omega
              case rel => exact ⟨i + 1, k, v5, by omega, by go_num, rfl, rfl, by omega, hk2, I2⟩
            · have hor2 : ¬ y < t := by omega
              go_wp2_with (first
                | (at_builtin; refine wpList_append_own _ rfl _ _ 26 rfl w0.heap.size 3 i0 (.int .i64 0) 1 8 Try.underlying26 hi hz0 hz1 hz2 rfl (by decide) _ _ _ rfl (I.out.own.alloc _) ⟨wr.heap.size, 0, none⟩ 1 1 [.int .i64 y] rfl rfl (news_one wr y _ rfl) (one_cell _) (by unfold maxLen; omega) (by omega) (by have := I.out.sz; simp; omega) ?_
                   intro v5 w5 hown5 hg5 _
                   have I2 : Hid (DI w w0 us' Q f t c (i + 1) v5 w5) := Lib.hid (I.out.push hil HY.out.symm HG.out hsz D.out.lt hown5 hg5)
                   clear hown5 hg5 d1 hci))
              go_roundg (n - (i + 1))
              case measure => omega
              case rel => exact ⟨i + 1, k, v5, by omega, by go_num, rfl, rfl, by omega, hk2, I2⟩
        · have hie : i = (Q c).length := by have := HL.out; omega
          have I3 := I.out
          have hk3 := hkk.out
          rw [hie] at I3 hk3
          rw [List.take_length] at hk3
          have F := Lib.hid (I3.fin hc4 D.out.bl hsz D.out.lt (fun d hd y hy => (NE.out d hd y hy).1))
          have F2 : Hid (∀ d, d < 4 → ∀ y ∈ blk (updV us' c v d), y ≠ w.heap.size ∧ y ≠ w.heap.size + 1) := Lib.hid (fun d hd y hy => by
            by_cases e : d = c
            · subst e
              rw [updV_same] at hy
              unfold blk at hy
              rw [Option.mem_toList] at hy
              have := (I3.own.lt y hy).1
              omega
            · rw [updV_ne _ _ _ _ e] at hy
              exact NE.out d hd y hy)
          have hgn : gone Q f t c + k = gone Q f t (c + 1) := by rw [hgo.out, hk3]
          have HGN := Lib.hid hgn
          have f1 := free_of_row I.out.pre.hb1 c
          have hown := I3.own
          rw [List.take_length] at hown
          obtain ⟨av, cv, hv⟩ := (Rw.of_own hown).form
          subst hv
          clear I3 hk3 hgn hown hcell hfr I D HN
          go_wp2
          go_roundg G
          case measure => omega
          case rel => exact ⟨c + 1, updV us' c _, by omega, by go_num, by rw [HGN.out], F, F2⟩
    · obtain rfl : c = 4 := by omega
      have k0 : Kp [w.heap.size] w0 w0 := Kp.refl _ _
      obtain ⟨⟨old, ho, hs⟩, f2, f3⟩ := D.out.pre.fin k0 #[us' 0, us' 1, us' 2, us' 3]
      have c0 := D.out.pre.cell (c := 0) (by omega)
      have c1 := D.out.pre.cell (c := 1) (by omega)
      have c2 := D.out.pre.cell (c := 2) (by omega)
      have c3 := D.out.pre.cell (c := 3) (by omega)
      have ks : Kp [w.heap.size + 1] w0 (w0.setRow (w.heap.size + 1) #[us' 0, us' 1, us' 2, us' 3]) := (Kp.refl _ _).setRow (.inl (by simp)) _
      have hone := ones D.out.pre.rd
      have HB := Lib.hid (And.intro ho (And.intro hs (And.intro f2 (And.intro f3 (And.intro ks hone)))))
      clear ho hs f2 f3 k0 ks hn hone
      go_wp2_with (refine wpList_store_row rfl 29 _ _ rfl (w.heap.size + 1) _ rfl rfl 29 _ HB.out.1 (by kernel_rfl) HB.out.2.1 HB.out.2.2.2.2.2 ?_)
      refine bodyPost_row_tmp rfl (w.heap.size + 1) 29 #[us' 0, us' 1, us' 2, us' 3] (0, 0) _ _ rfl rfl rfl HB.out.2.2.1 Try.underlying29 rfl (by kernel_rfl) ⟨us', rfl, HB.out.2.2.2.1, fun d hd => ?_, fun d hd y hy => (D.out.bl d hd y hy).imp id (fun q => ⟨q, by rw [size_setRow]; exact D.out.lt d hd y hy⟩)⟩
      exact (D.out.pre.rd d hd).keep HB.out.2.2.2.2.1 (fun g hg hg' => (NE.out d hd g hg).2 (by simpa using hg'))

end Go.Proofs.Ythcblhombfggaaa
