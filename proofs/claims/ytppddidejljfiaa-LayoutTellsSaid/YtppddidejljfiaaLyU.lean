/- LayoutTells, walked, on: a layout that there is. Conditions: the numbers are those of an int. -/
import Derived.Test.YtppddidejljfiaaLyT
import Derived.Deep.LoopGhost
namespace Go.Proofs.Ytppddidejljfiaa
set_option linter.unusedVariables false
set_option linter.unusedSimpArgs false
open Go.RowKit

set_option maxRecDepth 100000 in
set_option maxHeartbeats 4000000 in
/-- A layout: 'yes' with the block's number, where the place lies in one; else 'no'. -/
theorem tells_some (W T G i : Int) (t g b n fst p1 p2 p3 p4 : Int) (w : World) (q : Bool) (m : Nat) (bk of : Int)
    (c1 : Hid (Ans 5 #[.int .i64 W, .int .i64 T, .int .i64 G] (.tuple #[.agg #[.int .i64 t, .int .i64 g, .int .i64 b], .int .i64 0])))
    (c2 : Hid (Ans 6 #[.int .i64 W, .int .i64 T, .int .i64 G] (.tuple #[.agg #[.int .i64 t, .int .i64 g, .int .i64 b], .int .i64 0])))
    (c3 : Hid (Ans 10 #[.agg #[.int .i64 t, .int .i64 g, .int .i64 b]] (.int .i64 n)))
    (c4 : Hid (Ans 11 #[.agg #[.int .i64 t, .int .i64 g, .int .i64 b]] (.int .i64 n)))
    (a1 : Hid (Ans 14 #[.agg #[.int .i64 t, .int .i64 g, .int .i64 b], .int .i64 i] (.int .i64 p1)))
    (r1 : Hid (Ans 15 #[.agg #[.int .i64 t, .int .i64 g, .int .i64 b], .int .i64 i] (.int .i64 p1)))
    (a2 : Hid (Ans 16 #[.agg #[.int .i64 t, .int .i64 g, .int .i64 b], .int .i64 i] (.int .i64 p2)))
    (r2 : Hid (Ans 17 #[.agg #[.int .i64 t, .int .i64 g, .int .i64 b], .int .i64 i] (.int .i64 p2)))
    (a3 : Hid (Ans 18 #[.agg #[.int .i64 t, .int .i64 g, .int .i64 b], .int .i64 i] (.int .i64 p3)))
    (r3 : Hid (Ans 19 #[.agg #[.int .i64 t, .int .i64 g, .int .i64 b], .int .i64 i] (.int .i64 p3)))
    (a4 : Hid (Ans 20 #[.agg #[.int .i64 t, .int .i64 g, .int .i64 b], .int .i64 i] (.int .i64 p4)))
    (r4 : Hid (Ans 21 #[.agg #[.int .i64 t, .int .i64 g, .int .i64 b], .int .i64 i] (.int .i64 p4)))
    (a5 : Hid (Ans 12 #[.agg #[.int .i64 t, .int .i64 g, .int .i64 b], .int .i64 i] (.tuple #[.int .i64 bk, .int .i64 of, .bool q])))
    (r5 : Hid (∀ k : Nat, k < b → Ans 21 #[.agg #[.int .i64 t, .int .i64 g, .int .i64 b], .int .i64 k] (.int .i64 (fst + 32 * k))))
    (f0 : 0 ≤ fst) (f1 : fst ≤ 200) (b1 : b ≤ 64) (b0 : 1 ≤ b)
    (hq : Hid ((q = true ∧ m < b ∧ bk = m ∧ of = i - (fst + 32 * m) ∧ fst + 32 * m ≤ i ∧ i < fst + 32 * m + 32) ∨ (q = false ∧ bk = 0 ∧ of = 0 ∧ (i < fst ∨ fst + 32 * b ≤ i)))) :
    Calls Try.prog 3 #[.int .i64 W, .int .i64 T, .int .i64 G, .int .i64 i] w fun e w' => e = .returned (.bool true) ∧ Kp [] w w' := by
  have k3 := Lib.hid (fun w => threads_is t g b w)
  have k4 := Lib.hid (fun w => globals_is t g b w)
  have k5 := Lib.hid (fun w => blocks_is t g b w)
  go_enter Try.func3, Try.ntmps3
  go_wp2_with fail
  refine (c1.out _).mono ?_; rintro e w1 ⟨rfl, hk⟩
  have kp := Lib.hid hk
  have B1 := Lib.hid (box3_new w1 t g b 23)
  clear hk
  go_wp2_with fail
  refine (c2.out _).mono ?_; rintro e w2 ⟨rfl, hk⟩
  have B2 := Lib.hid (two3_mk (box3_step B1.out (hk.alloc _)) (box3_new w2 t g b 28))
  have kp2 := Lib.hid ((kp.out.alloc (.cells #[.int .i64 t, .int .i64 g, .int .i64 b] 23)).trans hk)
  clear hk kp B1
  go_wp2_with fail
  go_region_held3 (fun w' => w'.cell? ⟨w1.heap.size, 0, none⟩ = some (.int .i64 t) ∧ w'.cell? ⟨w1.heap.size, 1, none⟩ = some (.int .i64 g) ∧ w'.cell? ⟨w1.heap.size, 2, none⟩ = some (.int .i64 b) ∧ Below w1.heap.size w1 w' ∧ w1.heap.size < w'.heap.size ∧
      w'.cell? ⟨w2.heap.size, 0, none⟩ = some (.int .i64 t) ∧ w'.cell? ⟨w2.heap.size, 1, none⟩ = some (.int .i64 g) ∧ w'.cell? ⟨w2.heap.size, 2, none⟩ = some (.int .i64 b) ∧ Below w2.heap.size w2 w' ∧ w2.heap.size < w'.heap.size)
    (first
      | exact two3_drew B2.out
      | exact two3_step ‹Two3 w1 w2 t g b _› hk)
    (first
      | (go_at_call 7; refine (k3.out _).mono ?_; rintro e w' ⟨rfl, hk⟩)
      | (go_at_call 8; refine (k4.out _).mono ?_; rintro e w' ⟨rfl, hk⟩)
      | (go_at_call 9; refine (k5.out _).mono ?_; rintro e w' ⟨rfl, hk⟩)
      | (go_at_call 10; refine (c3.out _).mono ?_; rintro e w' ⟨rfl, hk⟩)
      | (go_at_call 11; refine (c4.out _).mono ?_; rintro e w' ⟨rfl, hk⟩))
  have B3 := Lib.hid ‹Two3 w1 w2 t g b w'›
  clear hk B2
  rename_i hHeld
  clear hHeld
  go_wp2_with fail
  clear k3 k4 k5 c1 c2 c3 c4
  go_region_held3 (fun wx => wx.cell? ⟨w1.heap.size, 0, none⟩ = some (.int .i64 t) ∧ wx.cell? ⟨w1.heap.size, 1, none⟩ = some (.int .i64 g) ∧ wx.cell? ⟨w1.heap.size, 2, none⟩ = some (.int .i64 b) ∧ Below w1.heap.size w1 wx ∧ w1.heap.size < wx.heap.size ∧
      wx.cell? ⟨w2.heap.size, 0, none⟩ = some (.int .i64 t) ∧ wx.cell? ⟨w2.heap.size, 1, none⟩ = some (.int .i64 g) ∧ wx.cell? ⟨w2.heap.size, 2, none⟩ = some (.int .i64 b) ∧ Below w2.heap.size w2 wx ∧ w2.heap.size < wx.heap.size)
    (first
      | exact two3_drew B3.out
      | exact two3_step ‹Two3 w1 w2 t g b _› hk)
    (first
      | (go_at_call 14; refine (a1.out _).mono ?_; rintro e w' ⟨rfl, hk⟩)
      | (go_at_call 16; refine (a2.out _).mono ?_; rintro e w' ⟨rfl, hk⟩)
      | (go_at_call 18; refine (a3.out _).mono ?_; rintro e w' ⟨rfl, hk⟩)
      | (go_at_call 20; refine (a4.out _).mono ?_; rintro e w' ⟨rfl, hk⟩)
      | (go_at_call 15; refine (r1.out _).mono ?_; rintro e w' ⟨rfl, hk⟩)
      | (go_at_call 17; refine (r2.out _).mono ?_; rintro e w' ⟨rfl, hk⟩)
      | (go_at_call 19; refine (r3.out _).mono ?_; rintro e w' ⟨rfl, hk⟩)
      | (go_at_call 21; refine (r4.out _).mono ?_; rintro e w' ⟨rfl, hk⟩))
  have B4 := Lib.hid ‹Two3 w1 w2 t g b w'›
  rename_i hHeld
  clear hHeld hk B3 a1 a2 a3 a4 r1 r2 r3 r4
  obtain ⟨s0, s1, s2, s7, s8, t0, t1, t2, t7, t8⟩ := B4.out
  have hz := Nat.lt_of_lt_of_le s8 (Nat.le_refl _)
  go_wp2_with fail
  refine (a5.out _).mono ?_; rintro e w5 ⟨rfl, hk⟩
  have B5 := Lib.hid (box3_step (two3_one B4.out).2 hk)
  clear hk s0 s1 s2 s7 s8 t0 t1 t2 t7 t8 B4 hz
  obtain ⟨bn, rfl⟩ := Int.eq_ofNat_of_zero_le (show 0 ≤ b by omega)
  go_wp2_with fail
  go_loopg [19] bn (fun gg kv wr => ∃ k : Nat, k + gg = bn ∧ kv = .int .i64 k ∧ (q = true → k ≤ m) ∧ Box3 w2 t g bn wr)
  case atStart => exact ⟨0, by omega, rfl, fun _ => by omega, B5.out⟩
  case round =>
    obtain ⟨k, hkg, rfl, hkm, BR⟩ := hrel
    have HQ := Lib.hid hkm
    have HB := Lib.hid BR
    clear hkm BR
    obtain ⟨s0, s1, s2, s7, s8⟩ := HB.out
    by_cases hkb : k < bn
    · have hz1 : fst + 32 * (k : Int) ≤ 3000 := by omega
      have hz0 : 0 ≤ fst + 32 * (k : Int) := by omega
      have hkb' : (k : Int) < bn := by omega
      have hway : (q = true ∧ bk = k ∧ of = i - (fst + 32 * (k : Int)) ∧ fst + 32 * (k : Int) ≤ i ∧ i < fst + 32 * (k : Int) + 32) ∨ ((q = true → k + 1 ≤ m) ∧ i < fst + 32 * (k : Int)) ∨ ((q = true → k + 1 ≤ m) ∧ fst + 32 * (k : Int) ≤ i ∧ fst + 32 * (k : Int) + 32 ≤ i) := by
        rcases hq.out with ⟨e1, e2, e3, e4, e5, e6⟩ | ⟨e1, e2, e3, e4⟩
        · have := HQ.out e1
          by_cases hkm : k = m
          · subst hkm
            exact .inl ⟨e1, e3, e4, e5, e6⟩
          · exact .inr (.inr ⟨fun _ => by omega, by omega, by omega⟩)
        · rcases e4 with h | h
          · exact .inr (.inl ⟨(fun h => by rw [e1] at h; cases h), by omega⟩)
          · exact .inr (.inr ⟨(fun h => by rw [e1] at h; cases h), by omega, by omega⟩)
      rcases hway with ⟨hq1, hb1, ho1, h1, h2⟩ | ⟨hm, h1⟩ | ⟨hm, h1, h2⟩
      · have hb2 : (bk == (k : Int)) = true := by simpa using hb1
        have ho2 : (of == i - (fst + 32 * (k : Int))) = true := by simpa using ho1
        clear hb1 ho1
        go_wp2_with fail
        refine (r5.out k (by omega) _).mono ?_; rintro e w6 ⟨rfl, hk⟩
        have B6 := Lib.hid (box3_step HB.out hk)
        clear hk s0 s1 s2 s7 s8 HB
        go_wp2_with fail
        refine (wakes_is _).mono ?_; rintro e w7 ⟨rfl, hk⟩
        have kp7 := Lib.hid ((kp2.out.trans (kp_of_below B6.out.2.2.2.1)).trans hk)
        clear hk
        go_wp2
        go_ret
        exact ⟨rfl, kp7.out⟩
      · have HM := Lib.hid hm
        clear hm
        go_wp2_with fail
        refine (r5.out k (by omega) _).mono ?_; rintro e w6 ⟨rfl, hk⟩
        have B6 := Lib.hid (box3_step HB.out hk)
        clear hk s0 s1 s2 s7 s8 HB
        go_wp2
        go_roundg (bn - (k + 1))
        case rel => exact ⟨k + 1, by omega, by go_num, HM.out, B6.out⟩
        case measure => omega
      · have HM := Lib.hid hm
        clear hm
        go_wp2_with fail
        refine (r5.out k (by omega) _).mono ?_; rintro e w6 ⟨rfl, hk⟩
        have B6 := Lib.hid (box3_step HB.out hk)
        clear hk s0 s1 s2 s7 s8 HB
        go_wp2
        go_roundg (bn - (k + 1))
        case rel => exact ⟨k + 1, by omega, by go_num, HM.out, B6.out⟩
        case measure => omega
    · have hkb' : ¬ (k : Int) < bn := by omega
      obtain ⟨e1, e2, e3⟩ : q = false ∧ bk = 0 ∧ of = 0 := by
        rcases hq.out with ⟨e1, e2, e3, e4, e5, e6⟩ | ⟨e1, e2, e3, e4⟩
        · have := HQ.out e1
          omega
        · exact ⟨e1, e2, e3⟩
      have hb2 : (bk == 0) = true := by simpa using e2
      have ho2 : (of == 0) = true := by simpa using e3
      clear e2 e3
      go_wp2_with fail
      refine (wakes_is _).mono ?_; rintro e w7 ⟨rfl, hk⟩
      have kp7 := Lib.hid ((kp2.out.trans (kp_of_below s7)).trans hk)
      clear hk s0 s1 s2 s7 s8
      go_wp2
      go_ret
      exact ⟨rfl, kp7.out⟩

/-- LayoutTells, walked. -/
theorem tells_any (W T G i : Int) (w : World) : Calls Try.prog 3 #[.int .i64 W, .int .i64 T, .int .i64 G, .int .i64 i] w fun e w' => e = .returned (.bool true) ∧ Kp [] w w' := by
  by_cases h : 1 ≤ W ∧ W ≤ 4096 ∧ 1 ≤ T ∧ T ≤ 64 ∧ 0 ≤ G ∧ G ≤ 8
  · obtain ⟨w1, w2, t0, t1, g0, g1⟩ := h
    by_cases hf : W < 3 + T + G + 33
    · exact tells_none W T G i 4 w (.inr rfl) (Lib.hid fun w => new_full W T G w w1 w2 t0 t1 g0 g1 hf) (Lib.hid fun w => rnew_full W T G w w1 w2 t0 t1 g0 g1 hf)
    · obtain ⟨b, hb⟩ : ∃ b, blkP W T G = b := ⟨_, rfl⟩
      have b0 : 1 ≤ b := by rw [← hb]; unfold blkP; split <;> omega
      have b1 : b ≤ 64 := by rw [← hb]; unfold blkP; split <;> omega
      have hS : Hid (∀ k : Nat, k < b → Ans 21 #[.agg #[.int .i64 T, .int .i64 G, .int .i64 b], .int .i64 k] (.int .i64 (3 + T + G + b + 32 * k))) :=
        Lib.hid fun k hk w => rstart_is T G b k _ w ((rowP_in (by omega) hk).trans (by omega)) (by omega) t1 g0 g1 (by omega) b1
      have hW : Hid (Ans 10 #[.agg #[.int .i64 T, .int .i64 G, .int .i64 b]] (.int .i64 (3 + T + G + 33 * b))) :=
        Lib.hid fun w => (words_is T G b w t0 t1 g0 g1 (by omega) b1).mono fun e w' ⟨he, hk⟩ => ⟨by rw [he, show 3 + T + G + b + b * 32 = 3 + T + G + 33 * b from by omega], hk⟩
      have key := fun q m bk of a5 hq => tells_some W T G i T G b (3 + T + G + 33 * b) (3 + T + G + b) (rowP 3 T 1 i) (rowP (3 + T) G 1 i) (rowP (3 + T + G) b 1 i) (rowP (3 + T + G + b) b 32 i) w q m bk of
        (Lib.hid fun w => new_ok W T G b w hb w1 w2 t0 t1 g0 g1 (by omega)) (Lib.hid fun w => rnew_ok W T G b w hb w1 w2 t0 t1 g0 g1 (by omega)) hW (Lib.hid fun w => rwords_is T G b _ w rfl t0 t1 g0 g1 b0 b1)
        (Lib.hid fun w => answer_is T G b i _ w rfl (by omega) t1) (Lib.hid fun w => ranswer_is T G b i _ w rfl (by omega) t1 g0 g1 (by omega) b1)
        (Lib.hid fun w => global_is T G b i _ w rfl (by omega) t1 g0 g1) (Lib.hid fun w => rglobal_is T G b i _ w rfl (by omega) t1 g0 g1 (by omega) b1)
        (Lib.hid fun w => entry_is T G b i _ w rfl (by omega) t1 g0 g1 (by omega) b1) (Lib.hid fun w => rentry_is T G b i _ w rfl (by omega) t1 g0 g1 (by omega) b1)
        (Lib.hid fun w => start_is T G b i _ w rfl (by omega) t1 g0 g1 (by omega) b1) (Lib.hid fun w => rstart_is T G b i _ w rfl (by omega) t1 g0 g1 (by omega) b1)
        a5 hS (by omega) (by omega) b1 b0 hq
      by_cases hin : 3 + T + G + b ≤ i ∧ i < 3 + T + G + b + b * 32
      · obtain ⟨h1, h2⟩ := hin
        obtain ⟨m, hm⟩ : ∃ m : Nat, (i - (3 + T + G + b)) / 32 = (m : Int) := ⟨((i - (3 + T + G + b)) / 32).toNat, by omega⟩
        exact key true m _ _ (Lib.hid fun w => block_in T G b i w t0 t1 g0 g1 (by omega) b1 h1 h2) (Lib.hid (.inl ⟨rfl, by omega, hm, by omega, by omega, by omega⟩))
      · exact key false 0 0 0 (Lib.hid fun w => block_out T G b i w t0 t1 g0 g1 (by omega) b1 (by omega)) (Lib.hid (.inr ⟨rfl, rfl, rfl, by omega⟩))
  · exact tells_none W T G i 2 w (.inl rfl) (Lib.hid fun w => new_bad W T G w h) (Lib.hid fun w => rnew_bad W T G w h)

end Go.Proofs.Ytppddidejljfiaa
