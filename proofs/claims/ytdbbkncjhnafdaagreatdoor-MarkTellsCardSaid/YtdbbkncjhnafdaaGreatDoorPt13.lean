/- The walks of law 15's own: the beginning of an arena of several owners, walked. Rows of numbers, appended to in a region that draws its order. The walks of law 15's own: Same. The walks of law 15's own: who is told of a place, what is made of whatever size. Law 18's heap, plainly: which objects lie where, behind any makes: each one at a cell of a block of its class, or at a run's first block; all other cells are on their owner's list. Conditions: as each theorem states them. -/
import Derived.Deep.CutBlock
import Derived.Deep.CutRange
import Derived.Deep.DeepCutAuto
import Derived.Deep.RegionHeld3
import Derived.BigQuiet
import Derived.Test.YtdbbkncjhnafdaaGreatDoorPt10
import Derived.Test.YtdbbkncjhnafdaaGreatDoorPt11
import Derived.Test.YtdbbkncjhnafdaaGreatDoorPt12
namespace Go.Proofs.YtdbbkncjhnafdaaGreatDoor
set_option linter.unusedVariables false
set_option linter.unusedSimpArgs false
set_option maxRecDepth 100000
open Go.RowKit

/-- All that an owner may turn lies at or beyond B. -/
structure Lo (B T p r sp : Nat) (qs : Nat → Nat) (v : Av) : Prop where
  p0 : B ≤ p
  r0 : B ≤ r
  s0 : B ≤ sp
  q0 : ∀ i, i < T → B ≤ qs i
  o0 : ∀ i, i < T → ∀ g, Li.Owns (v.vss i) g → B ≤ g
  w0 : ∀ g ∈ Gx.blk (v.f 5), B ≤ g
  d0 : ∀ g ∈ Gx.blk (v.f 10), B ≤ g
  m0 : ∀ g ∈ Gx.blk (v.f 11), B ≤ g
  z0 : ∀ g ∈ Gx.blk (v.f 12), B ≤ g
  a0 : ∀ i, i < T → ∀ g ∈ Li.blk (v.ms i), B ≤ g
  b0 : ∀ i, i < T → ∀ g ∈ Li.blk (v.ss i), B ≤ g
/-- The State as it begins. -/
abbrev Av0 (f : Nat → Value) (db dc : Nat) : Av := ⟨f, fun _ _ => .slice none 0 0, fun _ _ => .slice none 0 0, fun _ => .slice none 0 0, fun _ => .slice none 0 0, db, dc⟩
abbrev As0 (T n : Nat) : As := ⟨HB T n, fun _ _ => [], fun _ => false, fun _ => [], fun _ => []⟩
def colB : Nat → Nat := fun g => if g = 0 then 2000 else 0
theorem Pq.low {w W : World} {T n sp db dc : Nat} {qs : Nat → Nat} {f : Nat → Value} (h : Pq w T n sp db dc qs f T T T T T W) : Lo w.heap.size T (w.heap.size + 1) w.heap.size sp qs (Av0 f db dc) where
  p0 := by omega
  r0 := Nat.le_refl _
  s0 := by have := h.lo; omega
  q0 := fun i hi => by have := h.qge i hi; omega
  o0 := fun i hi g hg => by obtain ⟨c, _, hb⟩ := hg; simp [Li.blk_nil] at hb
  w0 := fun g hg => (h.r5.block g hg).1
  d0 := fun g hg => (h.r10.block g hg).1
  m0 := fun g hg => (h.r11.block g hg).1
  z0 := fun g hg => (h.r12.block g hg).1
  a0 := fun i hi g hg => by simp [Li.blk_nil] at hg
  b0 := fun i hi g hg => by simp [Li.blk_nil] at hg
/-- The two layouts' boxes. -/
def B6T (T a b n : Nat) (F : World → Prop) (wx : World) : Prop :=
  wx.cell? ⟨a, 0, none⟩ = some (.int .i64 T) ∧ wx.cell? ⟨a, 1, none⟩ = some (.int .i64 0) ∧ wx.cell? ⟨a, 2, none⟩ = some (.int .i64 n) ∧ wx.cell? ⟨b, 0, none⟩ = some (.int .i64 T) ∧ wx.cell? ⟨b, 1, none⟩ = some (.int .i64 0) ∧ wx.cell? ⟨b, 2, none⟩ = some (.int .i64 n) ∧ F wx
theorem B6T.keep {T a b n : Nat} {F : World → Prop} {wx wy : World} {S : List Nat} (h : B6T T a b n F wx) (k : Kp S wx wy) (ha : a ∉ S) (hb : b ∉ S) (hF : F wx → F wy) : B6T T a b n F wy := by
  obtain ⟨h0, h1, h2, h3, h4, h5, h6⟩ := h
  exact ⟨kp_cell k ha h0, kp_cell k ha h1, kp_cell k ha h2, kp_cell k hb h3, kp_cell k hb h4, kp_cell k hb h5, hF h6⟩
def st0T (T p b n N : Nat) : Array Value := #[.pointer (some ⟨p, 0, none⟩), .int .i64 T, .int .i64 0, .int .i64 n, .slice none 0 0, .slice none 0 0, .slice (some ⟨b, 0, none⟩) N N, .int .i64 T, .int .i64 0, .int .i64 n, .slice none 0 0, .slice none 0 0, .slice none 0 0]
def stFT (T p b n N : Nat) (i : Nat) : Value := (st0T T p b n N).getD i undef

set_option maxHeartbeats 4000000 in
theorem begins_many (w : World) (T0 : Cl.Tab w) (T n : Nat) (hT1 : 1 ≤ T) (hT4 : T ≤ 4) (hn1 : 1 ≤ n) (hn2 : n ≤ 12) :
    Calls Tryz.prog 31 #[.int .i64 n, .int .i64 T] w fun e w' => ∃ sp f db dc qs, e = .returned (.tuple #[.pointer (some ⟨sp, 0, none⟩), .bool true]) ∧ Aw T n (w.heap.size + 1) w.heap.size sp qs (Av0 f db dc) (As0 T n) 1 colB w' ∧ Kp [] w w' ∧ Lo w.heap.size T (w.heap.size + 1) w.heap.size sp qs (Av0 f db dc) := by
  have HT0 := Lib.hid T0
  clear T0
  have hNew := Lib.hid (fun w => new_good w (3 + T + 33 * n) (by omega) (by omega))
  have hbk : Ly.blkP ((3 + T + 33 * n : Nat) : Int) T 0 = n := by unfold Ly.blkP; rw [if_pos (by omega)]; omega
  have hLay := Lib.hid (fun w => Ly.new_ok ((3 + T + 33 * n : Nat) : Int) T 0 n w hbk (by omega) (by omega) (by omega) (by omega) (by omega) (by omega) (by omega))
  have hRLay := Lib.hid (fun w => Ly.rnew_ok ((3 + T + 33 * n : Nat) : Int) T 0 n w hbk (by omega) (by omega) (by omega) (by omega) (by omega) (by omega) (by omega))
  have hB := Lib.hid (fun w => Ly.blocks_is T 0 n w)
  have hmk := Lib.hid (make_u64s (3 + T + 33 * n) (by omega))
  have hAll := Lib.hid (fun w => Bm.rall_is (n : Int) (2 ^ n - 1) w (by rw [show min (n : Int).toNat 64 = n from by simp; omega]))
  have HH : Hid (∀ w', Ar w' (w.heap.size + 1) w.heap.size (fresh (3 + T + 33 * n)) → Hw T 0 n (w.heap.size + 1) w.heap.size (List.replicate (3 + T + 33 * n) 0) 0 w') := by
    refine Lib.hid fun w' a => ⟨⟨0, a⟩, by simp; try omega, by simp; try omega, fun k => ?_, by omega, by omega, by omega⟩
    simp only [List.getD_eq_getElem?_getD, List.getElem?_replicate]
    split <;> simp
  have e1 : (33 * (n : Int)) = ((33 * n : Nat) : Int) := by omega
  have ew1 := IntWalk.i64_in ((33 * n : Nat) : Int) (by omega)
  obtain ⟨N, hN⟩ : ∃ N, N = 3 + T + 33 * n := ⟨_, rfl⟩
  have HN := Lib.hid hN
  have ew0 := IntWalk.i64_in (3 + (T : Int)) (by omega)
  have ew3 := IntWalk.i64_in (3 + (T : Int) + ((33 * n : Nat) : Int)) (by omega)
  have e2 : (3 + (T : Int) + ((33 * n : Nat) : Int)) = (N : Int) := by omega
  rw [← hN] at hNew hLay hRLay hmk HH
  rw [e2] at ew3
  obtain ⟨M33, hM33⟩ : ∃ M, M = 33 * n := ⟨_, rfl⟩
  rw [← hM33] at e1 ew1 e2
  clear hN hbk hM33
  go_enter Tryz.func31, Tryz.ntmps31
  go_wp2_with fail
  refine (hNew.out _).mono ?_
  rintro e w1 ⟨rfl, ha1, hk1⟩
  have F1 := Lib.hid (And.intro (HH.out _ ha1) hk1)
  clear ha1 hk1
  go_wp2_with fail
  refine (hLay.out _).mono ?_
  rintro e w2 ⟨rfl, hk2⟩
  have kA2 : Kp [] w2 (w2.alloc (.cells #[.int .i64 T, .int .i64 0, .int .i64 n] 32)) := (Kp.refl _ _).alloc _
  have F2 := Lib.hid (And.intro (F1.out.1.on (hk2.trans kA2)) (And.intro (F1.out.2.trans (hk2.trans kA2)) (heap_alloc_new w2 (.cells #[.int .i64 T, .int .i64 0, .int .i64 n] 32))))
  clear hk2 kA2
  go_wp2_with fail
  refine (hRLay.out _).mono ?_
  rintro e w3 ⟨rfl, hk3⟩
  have kA3 : Kp [] w3 (w3.alloc (.cells #[.int .i64 T, .int .i64 0, .int .i64 n] 37)) := (Kp.refl _ _).alloc _
  have hrl := (hk3.trans kA3).row (by simp) F2.out.2.2
  have hrr := heap_alloc_new w3 (.cells #[.int .i64 T, .int .i64 0, .int .i64 n] 37)
  have F3 := Lib.hid (And.intro (F2.out.1.on (hk3.trans kA3)) (And.intro (F2.out.2.1.trans (hk3.trans kA3)) (And.intro hrl hrr)))
  have c0 : (w3.alloc (.cells #[.int .i64 T, .int .i64 0, .int .i64 n] 37)).cell? ⟨w2.heap.size, 0, none⟩ = some (.int .i64 T) := cell_of_row hrl 0
  have c1 : (w3.alloc (.cells #[.int .i64 T, .int .i64 0, .int .i64 n] 37)).cell? ⟨w2.heap.size, 1, none⟩ = some (.int .i64 0) := cell_of_row hrl 1
  have c2 : (w3.alloc (.cells #[.int .i64 T, .int .i64 0, .int .i64 n] 37)).cell? ⟨w2.heap.size, 2, none⟩ = some (.int .i64 n) := cell_of_row hrl 2
  clear hk3 kA3 hrl hrr
  go_wp2_with fail
  refine (hB.out _).mono ?_
  rintro e w4 ⟨rfl, hk4⟩
  have hrl := hk4.row (by simp) F3.out.2.2.1
  have hrr := hk4.row (by simp) F3.out.2.2.2
  have F4 := Lib.hid (And.intro (F3.out.1.on hk4) (And.intro (F3.out.2.1.trans hk4) (And.intro hrl hrr)))
  have HS0 : Hid (B6T T w2.heap.size w3.heap.size n (Kp [] w4) w4) := Lib.hid ⟨cell_of_row hrl 0, cell_of_row hrl 1, cell_of_row hrl 2, cell_of_row hrr 0, cell_of_row hrr 1, cell_of_row hrr 2, Kp.refl _ _⟩
  clear hk4 hrl hrr c0 c1 c2
  go_wp2_with fail
  have hmk' := hmk.out
  go_region_held3 (fun wx => wx.cell? ⟨w2.heap.size, 0, none⟩ = some (.int .i64 T) ∧ wx.cell? ⟨w2.heap.size, 1, none⟩ = some (.int .i64 0) ∧ wx.cell? ⟨w2.heap.size, 2, none⟩ = some (.int .i64 n) ∧ wx.cell? ⟨w3.heap.size, 0, none⟩ = some (.int .i64 T) ∧ wx.cell? ⟨w3.heap.size, 1, none⟩ = some (.int .i64 0) ∧ wx.cell? ⟨w3.heap.size, 2, none⟩ = some (.int .i64 n) ∧ Kp [] w4 wx)
    (first
      | assumption
      | exact B6T.keep HS0.out ((Kp.refl [] _).drew) (by simp) (by simp) (fun k => k.trans ((Kp.refl [] _).drew))
      | exact B6T.keep ‹B6T T w2.heap.size w3.heap.size n (Kp [] w4) _› ((Kp.refl [] _).alloc _) (by simp) (by simp) (fun k => k.trans ((Kp.refl [] _).alloc _)))
    (fail)
  all_goals
    rename_i hHeld
    clear hHeld
    have kW : Kp [] w4 (w4.alloc (.cells (u64s (List.replicate N 0)) 53)) := (Kp.refl _ _).alloc _
    have kS : Kp [] w4 ((w4.alloc (.cells (u64s (List.replicate N 0)) 53)).alloc (.cells (st0T T (w.heap.size + 1) w4.heap.size n N) 43)).drew := (kW.alloc _).drew
    have rW : (((w4.alloc (.cells (u64s (List.replicate N 0)) 53)).alloc (.cells (st0T T (w.heap.size + 1) w4.heap.size n N) 43)).drew).heap[w4.heap.size]? = some (.cells (u64s (List.replicate N 0)) 53 (0, 0)) := (((Kp.refl [] _).alloc _).drew).row (by simp) (heap_alloc_new w4 _)
    have rS : (((w4.alloc (.cells (u64s (List.replicate N 0)) 53)).alloc (.cells (st0T T (w.heap.size + 1) w4.heap.size n N) 43)).drew).heap[w4.heap.size + 1]? = some (.cells (st0T T (w.heap.size + 1) w4.heap.size n N) 43 (0, 0)) := by
      have := heap_alloc_new (w4.alloc (.cells (u64s (List.replicate N 0)) 53)) (.cells (st0T T (w.heap.size + 1) w4.heap.size n N) 43)
      rw [World.size_alloc] at this
      exact this
    unfold st0T at kS rW rS
    obtain ⟨w5, hw5⟩ : ∃ w5, w5 = ((w4.alloc (.cells (u64s (List.replicate N 0)) 53)).alloc (.cells #[.pointer (some ⟨w.heap.size + 1, 0, none⟩), .int .i64 T, .int .i64 0, .int .i64 n, .slice none 0 0, .slice none 0 0, .slice (some ⟨w4.heap.size, 0, none⟩) N N, .int .i64 T, .int .i64 0, .int .i64 n, .slice none 0 0, .slice none 0 0, .slice none 0 0] 43)).drew := ⟨_, rfl⟩
    have hK := F4.out.2.1.trans kS
    have hH5 := F4.out.1.on kS
    have hl5 := kS.row (by simp) F4.out.2.2.1
    have h0z : w.heap.size + 2 ≤ w4.heap.size := by
      have := F1.out.1.lt
      have h12 := F4.out.1.lt
      omega
    rw [← hw5] at rW rS hK hH5 hl5 ⊢
    have hS5 : S13 w5 (w4.heap.size + 1) (stFT T (w.heap.size + 1) w4.heap.size n N) := S13.of rS rfl
    have c0 := (cell_of_row hl5 0).trans (show _ = some (.int .i64 T) from rfl)
    have c1 := (cell_of_row hl5 1).trans (show _ = some (.int .i64 0) from rfl)
    have c2 := (cell_of_row hl5 2).trans (show _ = some (.int .i64 n) from rfl)
    have HBe := Lib.hid (g_begin hH5 (by omega) (2 ^ n - 1) (by rw [Nat.min_eq_left (by omega)]))
    have F5 := Lib.hid (And.intro hK (And.intro rW (And.intro hS5 h0z)))
    have HLt := Lib.hid hH5.lt
    clear kW kS rW rS hK hH5 hl5 hS5 h0z hw5 HS0
    go_wp2_with fail
    refine HBe.out.mono ?_
    rintro e w6 ⟨rfl, hh6, hk6⟩
    have hK6 : Kp [] w w6 := (F5.out.1.mono (by simp)).trans hk6 |>.mono (by simp)
    have hS6 := F5.out.2.2.1.keep hk6 (by have := F5.out.2.2.2; simp; omega)
    have hW6 := hk6.row (by have := F5.out.2.2.2; simp; omega) F5.out.2.1
    have F6 := Lib.hid (And.intro hK6 (And.intro hS6 (And.intro hW6 hh6)))
    have HBn : HB T n = (List.replicate N 0).set 0 ((2 ^ n - 1 : Nat) : Int) := by unfold HB; rw [HN.out]
    have HWt : Hid (∀ w', Kp [] w6 w' → Calls Tryz.prog 56 #[.agg #[.slice (some ⟨w4.heap.size, 0, none⟩) N N, .int .i64 T, .int .i64 ((0 : Nat) : Int), .int .i64 n], .int .i64 0, .int .u64 ((2 ^ n - 1 : Nat) : Int)] w' fun e w'' => ∃ b' c', e = .returned (.agg #[.slice (some ⟨b', 0, none⟩) N c', .int .i64 T, .int .i64 ((0 : Nat) : Int), .int .i64 n]) ∧ Dh (w.heap.size + 1) T 0 n b' c' (HB T n) w'' ∧ Kp [] w' w'') := by
      refine Lib.hid fun w' k => ?_
      have hl : (List.replicate N (0 : Int)).length = N := List.length_replicate
      have hww : Ww (w.heap.size + 1) w' w4.heap.size N (List.replicate N 0) := by
        refine ⟨by simp [ws_len], .inr ⟨w4.heap.size, N, _, by simp, by have := F5.out.2.2.2; omega, k.row (by simp) F6.out.2.2.1, by simp, ?_, by simp [u64s], ?_⟩⟩
        · have := HN.out; unfold maxLen; omega
        · simp [u64s, ws]
      have hd : Dh (w.heap.size + 1) T 0 n w4.heap.size N (List.replicate N 0) w' := by
        refine ⟨hww, by have := HN.out; simp; omega, by have := HN.out; simp; omega, fun k => ?_, by omega, by omega, by omega⟩
        simp only [List.getD_eq_getElem?_getD, List.getElem?_replicate]
        split <;> simp
      have hM : 2 ^ n - 1 < 18446744073709551616 := Nat.lt_of_lt_of_le (Nat.sub_lt (Nat.two_pow_pos n) (by decide)) (Nat.le_trans (Nat.pow_le_pow_right (by decide) (show n ≤ 12 by omega)) (by decide))
      have := hd.with (k := 0) (x := ((2 ^ n - 1 : Nat) : Int)) (by have := HN.out; simp; omega) (by omega) (by omega)
      rw [hl] at this
      refine this.mono ?_
      rintro e w2 ⟨b', c', rfl, h1, k2⟩
      rw [← HBn] at h1
      exact ⟨b', c', rfl, h1, k2⟩
    generalize 2 ^ n - 1 = M at hAll HWt
    have d6 := (hS6.cell (i := 6) (by decide)).trans (show _ = some (.slice (some ⟨w4.heap.size, 0, none⟩) N N) from rfl)
    have d7 := (hS6.cell (i := 7) (by decide)).trans (show _ = some (.int .i64 T) from rfl)
    have d8 := (hS6.cell (i := 8) (by decide)).trans (show _ = some (.int .i64 0) from rfl)
    have d9 := (hS6.cell (i := 9) (by decide)).trans (show _ = some (.int .i64 n) from rfl)
    clear hh6 hk6 hK6 hS6 hW6 c0 c1 c2 hmk'
    go_upto_region 9 with (fail)
    go_cut [13] (fun v13 wc => v13 = .pointer (some ⟨w4.heap.size + 1, 0, none⟩) ∧ Hid (∃ f db dc, Pq w T n (w4.heap.size + 1) db dc (fun _ => 0) f 0 0 0 0 0 wc))
    case first =>
      go_region_with (first
        | (go_at_call 63
           refine (hAll.out _).mono ?_
           rintro e w7 ⟨rfl, hk7⟩
           have K7 : Hid (Kp [] w6 w7) := Lib.hid (by refine Kp.trans ?_ hk7; exact ⟨rfl, rfl, rfl, Nat.le_refl _, fun _ _ _ => rfl⟩)
           have hS7 := F6.out.2.1.keep K7.out (by simp)
           have d6' := (hS7.cell (i := 6) (by decide)).trans (show _ = some (.slice (some ⟨w4.heap.size, 0, none⟩) N N) from rfl)
           have d7' := (hS7.cell (i := 7) (by decide)).trans (show _ = some (.int .i64 T) from rfl)
           have d8' := (hS7.cell (i := 8) (by decide)).trans (show _ = some (.int .i64 0) from rfl)
           have d9' := (hS7.cell (i := 9) (by decide)).trans (show _ = some (.int .i64 n) from rfl)
           clear hS7 hk7)
        | (go_at_call 56
           refine (HWt.out _ ?_).mono ?_
           · exact K7.out.trans ⟨rfl, rfl, rfl, Nat.le_refl _, fun _ _ _ => rfl⟩
           rintro e w8 ⟨b', c', rfl, hd8, hk8⟩
           have K8 : Hid (Kp [] w6 w8) := Lib.hid (K7.out.trans (by refine Kp.trans ?_ hk8; exact ⟨rfl, rfl, rfl, Nat.le_refl _, fun _ _ _ => rfl⟩))
           have hS8 := F6.out.2.1.keep K8.out (by simp)
           have d6'' := (hS8.cell (i := 6) (by decide)).trans (show _ = some (.slice (some ⟨w4.heap.size, 0, none⟩) N N) from rfl)
           have d7'' := (hS8.cell (i := 7) (by decide)).trans (show _ = some (.int .i64 T) from rfl)
           have d8'' := (hS8.cell (i := 8) (by decide)).trans (show _ = some (.int .i64 0) from rfl)
           have d9'' := (hS8.cell (i := 9) (by decide)).trans (show _ = some (.int .i64 n) from rfl)
           have g6 := hS8.free 6
           have g7 := hS8.free 7
           have g8 := hS8.free 8
           have g9 := hS8.free 9
           have HS8 := Lib.hid hS8
           have HD8 := Lib.hid hd8
           clear hS8 hk8 hd8))
      all_goals go_wp2_with fail
      all_goals go_meet
      all_goals
        have hs4 := (((HS8.out.set (i := 6) (by decide) (.slice (some ⟨b', 0, none⟩) N c')).set (i := 7) (by decide) (.int .i64 T)).set (i := 8) (by decide) (.int .i64 0)).set (i := 9) (by decide) (.int .i64 n)
        have hk4 : Kp [w4.heap.size + 1] w8 ((((w8.setCell ⟨w4.heap.size + 1, 6, none⟩ (.slice (some ⟨b', 0, none⟩) N c')).setCell ⟨w4.heap.size + 1, 7, none⟩ (.int .i64 T)).setCell ⟨w4.heap.size + 1, 8, none⟩ (.int .i64 0)).setCell ⟨w4.heap.size + 1, 9, none⟩ (.int .i64 n)) := ((((Kp.refl _ _).setCell (.inl (by simp)) _).setCell (.inl (by simp)) _).setCell (.inl (by simp)) _).setCell (.inl (by simp)) _
        have hz := F5.out.2.2.2
        have hK8 := F6.out.1.trans K8.out
        have hh8 : Hw T 0 n (w.heap.size + 1) w.heap.size (HB T n) 1 w8 := by
          have := F6.out.2.2.2.on K8.out
          rw [HBn]; exact this
        have hP : ∀ Wf, S13 Wf (w4.heap.size + 1) (fun j => if j = 9 then .int .i64 n else if j = 8 then .int .i64 0 else if j = 7 then .int .i64 T else if j = 6 then .slice (some ⟨b', 0, none⟩) N c' else stFT T (w.heap.size + 1) w4.heap.size n N j) → Kp [w4.heap.size + 1] w8 Wf → ∃ f db dc, Pq w T n (w4.heap.size + 1) db dc (fun _ => 0) f 0 0 0 0 0 Wf := fun Wf hS hK => by
          refine ⟨_, b', c', { hs := hS, hh := hh8.keep hK (by simp; omega) (by simp; omega), hd := HD8.out.keepS hK ?_, hk := kp_new_set hK8 hK (by omega), hl := by omega, qge := by omega, qne := by omega, r4 := Gx.Rw.nil _ _ _ _, r5 := Gx.Rw.nil _ _ _ _, r10 := Gx.Rw.nil _ _ _ _, r11 := Gx.Rw.nil _ _ _ _, r12 := Gx.Rw.nil _ _ _ _, two := by intro g hg; simp [stFT, st0T, Gx.blk_nil] at hg, lo := by omega, f0 := rfl, f1 := rfl, f2 := rfl, f3 := rfl, f6 := by rw [← HN.out]; rfl, f7 := rfl, f8 := rfl, f9 := rfl }⟩
          intro e
          rw [List.mem_singleton] at e
          obtain ⟨_, cur2, hc2⟩ := Gx.Rw.block HD8.out.ww b' (by rw [Gx.blk_some]; simp)
          have hst := HS8.out
          unfold S13 at hst
          rw [e, hst] at hc2; simp at hc2
        first
          | exact ⟨rfl, Lib.hid (hP _ hs4 hk4)⟩
          | exact ⟨rfl, Lib.hid (hP _ (hs4.keep ((Kp.refl [] _).drew) (by simp)) hk4.drew)⟩
    case rest =>
      obtain ⟨rfl, HF⟩ := hcut
      clear d6 d7 d8 d9 HWt hAll HBe HBn F1 F2 F3 F4 F6 F5 hB hmk hNew hLay hRLay HH HLt
      obtain ⟨sp, hsp⟩ : ∃ sp, sp = w4.heap.size + 1 := ⟨_, rfl⟩
      rw [← hsp] at HF ⊢
      clear hsp
      go_wp2_with fail
      go_loopg [14] T (fun gg v14 wr => ∃ k : Nat, k + gg = T ∧ v14 = .int .i64 k ∧ Hid (∃ f db dc qs, Pq w T n sp db dc qs f k k k k k wr))
      case atStart =>
        obtain ⟨f, db, dc, hP⟩ := HF.out
        exact ⟨0, by omega, rfl, Lib.hid ⟨f, db, dc, _, hP⟩⟩
      case round =>
        obtain ⟨k, hkg, rfl, HP⟩ := hrel
        by_cases hk : k < T
        · obtain ⟨f, db, dc, qs, P0⟩ := HP.out
          have P0 := Lib.hid P0
          have c4 := P0.out.hs.cell (i := 4) (by decide)
          have HNw : Hid (∀ w', Calls Tryz.prog 64 #[] w' fun e w'' => ∃ q, e = .returned (.pointer (some ⟨q, 0, none⟩)) ∧ Li.Ls w'' q (fun _ => .slice none 0 0) (fun _ => []) ∧ Kp [] w' w'' ∧ w'.heap.size ≤ q) := Lib.hid fun w' => (Li.new_any w').mono fun e w'' ⟨h1, h2, h3⟩ => ⟨_, h1, h2, h3, Nat.le_refl _⟩
          have HKG := Lib.hid hkg
          clear hkg HP HF
          go_upto_region 13 with (fail)
          go_cut [13] (fun v13 wd => v13 = .pointer (some ⟨sp, 0, none⟩) ∧ Hid (∃ f qs, Pq w T n sp db dc qs f (k + 1) k k k k wd))
          case first =>
            go_region_law (first
              | (refine step_append_eq rfl (.tmp 84) (.tmp 86) 33 rfl _ _ _ rfl rfl hrun ?_)
              | (go_simp
                 go_at_call 64
                 refine (HNw.out _).mono ?_
                 rintro e w5 ⟨q5, rfl, L5, k5, hq5⟩
                 have hq5' : wr.heap.size ≤ q5 := hq5
                 have k5' : Kp [] wr w5 := by refine Kp.trans ?_ k5; exact ⟨rfl, rfl, rfl, Nat.le_refl _, fun _ _ _ => rfl⟩
                 have P5 := P0.out.on k5'
                 have hs5 := P5.hs
                 obtain ⟨g6, cap6, w6', hrun, hs6, P6⟩ := P5.add4 (by omega) L5 (by have := P0.out.hk.size; have := P0.out.hh.lt; omega) (fun j hj => by have := (P0.out.hl j hj).lt; omega)
                 have c5 := hs5.cell (i := 4) (by decide)
                 have c5a := (hs5.keep ((Kp.refl [] w5).alloc (.cells #[.pointer (some ⟨q5, 0, none⟩)] 77)) (by simp)).cell (i := 4) (by decide)
                 have c6 := hs6.cell (i := 4) (by decide)
                 have g06 := hs6.free 4
                 have HST := Lib.hid P6
                 clear L5 k5 k5' hs5 hs6 hq5 hq5' P5 P6))
            all_goals go_wp2_with fail
            all_goals go_meet
            all_goals
              first
                | exact ⟨rfl, Lib.hid ⟨_, _, HST.out⟩⟩
                | exact ⟨rfl, Lib.hid ⟨_, _, HST.out.on ((Kp.refl [] _).drew)⟩⟩
          case rest =>
            obtain ⟨rfl, HG⟩ := hcut
            obtain ⟨f1, qs1, Q0⟩ := HG.out
            obtain ⟨W0, hW0⟩ : ∃ W, W = wc := ⟨_, rfl⟩
            rw [← hW0] at Q0 ⊢
            obtain ⟨g0, cap0, wa0, hrun0, hs0, Q1⟩ := Q0.add10 (by omega)
            have HRun0 := Lib.hid hrun0
            have l0 := Q0.hs.cell (i := 10) (by decide)
            have m0 := hs0.cell (i := 10) (by decide)
            have o0 := hs0.free 10
            have Q1 := Lib.hid Q1
            clear hrun0 hs0 Q0 HG P0 c4 hW0 HNw
            go_upto_region 15 with (at_builtin; refine Gx.wpList_append_eq rfl (.tmp 94) (.tmp 96) 40 rfl _ _ _ rfl rfl HRun0.out ?_)
            obtain ⟨W1, hW1⟩ : ∃ W, W = wa0.setCell ⟨sp, 10, none⟩ (.slice (some ⟨g0, 0, none⟩) (k + 1) cap0) := ⟨_, rfl⟩
            rw [← hW1] at Q1 ⊢
            obtain ⟨g1, cap1, wa1, hrun1, hs1, Q2⟩ := Q1.out.add5 (by omega)
            have HRun1 := Lib.hid hrun1
            have l1 := Q1.out.hs.cell (i := 5) (by decide)
            have m1 := hs1.cell (i := 5) (by decide)
            have o1 := hs1.free 5
            have Q2 := Lib.hid Q2
            generalize hF1 : ifF f1 10 (.slice (some ⟨g0, 0, none⟩) (k + 1) cap0) = f2 at Q2 hrun1 hs1 l1 m1 HRun1 Q1
            clear hrun1 hs1 hW1 l0 m0 o0 HRun0
            go_upto_region 16 with (at_builtin; refine Gx.wpList_append_eq rfl (.tmp 104) (.tmp 105) 34 rfl _ _ _ rfl rfl HRun1.out ?_)
            obtain ⟨W2, hW2⟩ : ∃ W, W = wa1.setCell ⟨sp, 5, none⟩ (.slice (some ⟨g1, 0, none⟩) (k + 1) cap1) := ⟨_, rfl⟩
            rw [← hW2] at Q2 ⊢
            obtain ⟨g2, cap2, wa2, hrun2, hs2, Q3⟩ := Q2.out.add11 (by omega)
            have HRun2 := Lib.hid hrun2
            have l2 := Q2.out.hs.cell (i := 11) (by decide)
            have m2 := hs2.cell (i := 11) (by decide)
            have o2 := hs2.free 11
            have Q3 := Lib.hid Q3
            generalize hF2 : ifF f2 5 (.slice (some ⟨g1, 0, none⟩) (k + 1) cap1) = f3 at Q3 hrun2 hs2 l2 m2 HRun2 Q2
            clear hrun2 hs2 hW2 l1 m1 o1 HRun1 Q1 hF1
            go_upto_region 17 with (at_builtin; refine Gx.wpList_append_eq rfl (.tmp 113) (.tmp 114) 41 rfl _ _ _ rfl rfl HRun2.out ?_)
            obtain ⟨W3, hW3⟩ : ∃ W, W = wa2.setCell ⟨sp, 11, none⟩ (.slice (some ⟨g2, 0, none⟩) (k + 1) cap2) := ⟨_, rfl⟩
            rw [← hW3] at Q3 ⊢
            obtain ⟨g3, cap3, wa3, hrun3, hs3, Q4⟩ := Q3.out.add12 (by omega)
            have HRun3 := Lib.hid hrun3
            have l3 := Q3.out.hs.cell (i := 12) (by decide)
            have m3 := hs3.cell (i := 12) (by decide)
            have o3 := hs3.free 12
            have Q4 := Lib.hid Q4
            generalize hF3 : ifF f3 11 (.slice (some ⟨g2, 0, none⟩) (k + 1) cap2) = f4 at Q4 hrun3 hs3 l3 m3 HRun3 Q3
            clear hrun3 hs3 hW3 l2 m2 o2 HRun2 Q2 hF2 Q3
            go_wp2_with (at_builtin; refine Gx.wpList_append_eq rfl (.tmp 122) (.tmp 123) 41 rfl _ _ _ rfl rfl HRun3.out ?_)
            go_roundg (T - (k + 1))
            case rel => exact ⟨k + 1, by omega, by go_num, Lib.hid ⟨_, _, _, _, Q4.out⟩⟩
            case measure => have := HKG.out; omega
        · obtain rfl : k = T := by omega
          obtain ⟨f, db, dc, qs, P0⟩ := HP.out
          go_wp2_with fail
          go_ret2
          exact ⟨sp, f, db, dc, qs, rfl, P0.aw (by omega) hT4 hn2 HT0.out, P0.hk, P0.low⟩

end Go.Proofs.YtdbbkncjhnafdaaGreatDoor

namespace Go.Proofs.YtdbbkncjhnafdaaGreatDoor
set_option linter.unusedVariables false
set_option linter.unusedSimpArgs false
open Go.RowKit

theorem info_in : ∃ i z, Tryz.prog.info? 3 = some i ∧ i.zero = some z ∧ i.size = 1 ∧ i.bytes = 8 ∧ z.cells.size = 1 := by
  obtain ⟨i, hi, hz0, hz1, hz2⟩ := info_parts (show (Tryz.prog.info? 3).map (fun i => (i.zero, i.size, i.bytes)) = some (some (.int .i64 0), 1, 8) by kernel_rfl)
  exact ⟨i, _, hi, hz0, hz1, hz2, rfl⟩
theorem ints_app (xs ys : List Int) : Li.ints (xs ++ ys) = Li.ints xs ++ Li.ints ys := by simp [Li.ints]
/-- Numbers that lie from an address on. -/
def Src (w : World) (ad : Addr) (ys : List Int) : Prop := ∀ j u, (Li.ints ys)[j]? = some u → w.cell? (ad.add j) = some u
theorem Src.keep {w w' : World} {g o : Nat} {ys : List Int} (h : Src w ⟨g, o, none⟩ ys) (k : Kp [] w w') : Src w' ⟨g, o, none⟩ ys := fun j u hu => by
  have := h j u hu
  rw [Addr.add_lit] at this ⊢
  exact kp_cell k (by simp) this
theorem Src.of_row {w : World} {g cap : Nat} {xs : List Int} (h : Li.Rw w (.slice (some ⟨g, 0, none⟩) xs.length cap) xs) : Src w ⟨g, 0, none⟩ xs := fun j u hu => by
  rcases h with ⟨h, _⟩ | ⟨g', cap', cur, he, hg, h1, h2, h3, h4⟩
  · simp at h
  · simp only [Value.slice.injEq, Option.some.injEq, Addr.mk.injEq, and_true, true_and] at he
    obtain ⟨rfl, rfl⟩ := he
    rw [Addr.add_lit, Nat.zero_add]
    have hj : j < xs.length := by
      have := (List.getElem?_eq_some_iff.1 hu).1
      rwa [Li.ints_len] at this
    rw [Li.row_cell hg h4 hj, ← hu, Li.ints_get xs j hj]
theorem Src.take {w : World} {g o : Nat} {xs : List Int} (h : Src w ⟨g, o, none⟩ xs) (k : Nat) : Src w ⟨g, o, none⟩ (xs.take k) := fun j u hu => h j u (by
  rw [← Li.ints_take, List.getElem?_take] at hu
  split at hu
  · exact hu
  · simp at hu)
theorem Src.drop {w : World} {g : Nat} {xs : List Int} (h : Src w ⟨g, 0, none⟩ xs) (k : Nat) : Src w ⟨g, k, none⟩ (xs.drop k) := fun j u hu => by
  have e : Li.ints (xs.drop k) = (Li.ints xs).drop k := by simp [Li.ints]
  rw [e, List.getElem?_drop] at hu
  have := h (k + j) u hu
  rw [Addr.add_lit, Nat.zero_add] at this
  rw [Addr.add_lit]
  exact this
section
variable {ops : Array Oper} {o : Oper} {a : Act} {K : Act → World → Prop} {Q : Exit → Act → World → Prop} {E : Prop} {w w0 : World}
/-- 'append(v, z)' of a row of whoever's. -/
theorem step_app2 (hgd : o.guard = none) (s x : Operand) (ho : o.op = .call { callee := .builtin .append, args := #[s, x], argTypes := #[45, 45] }) {v : Value} {xs : List Int} {n : Nat} (hn : xs.length = n) {z : Int} {ad : Addr} (hs : a.eval s = v) (hx : a.eval x = .slice (some ad) 1 1) (hown : Li.Rw w v xs) (hsrc : Src w ad [z]) (hl : n ≤ 100000)
    (h : ∀ g cap w', Li.Rw w' (.slice (some ⟨g, 0, none⟩) (n + 1) cap) (xs ++ [z]) → Kp (Li.blk v) w w' → (g ∈ Li.blk v ∨ g = w.heap.size) → K (a.put o.dst (.slice (some ⟨g, 0, none⟩) (n + 1) cap)) w') : if Region.wanted o (yielded ops a.tmps) = true then Oper.wp Tryz.prog o a w K Q else E := by
  subst hn
  obtain ⟨g, cap, w', hrun, hrw, hkp, hg⟩ := Gx.run_app (T := 3) (t := 45) (ty := o.type) (base := 0) Tryz.underlying45 info_in (by decide) (⟨hown.own⟩ : Gx.Rw 3 1 0 w v xs.length (Li.ints xs)) (Nat.zero_le _) ad 1 1 (Li.ints [z]) rfl hsrc (by
    intro u hu
    simp only [Li.ints, List.mem_map] at hu
    obtain ⟨x, _, rfl⟩ := hu
    rfl) (by omega) (by omega) (by omega)
  rw [← ints_app] at hrw
  have hr : Li.Rw w' (.slice (some ⟨g, 0, none⟩) (xs.length + 1) cap) (xs ++ [z]) := by
    have := hrw.own
    refine Li.Rw.of_own (base := 0) ?_
    rw [List.length_append]
    exact this
  exact step_append_eq hgd s x 45 ho _ _ _ hs hx hrun (h g cap w' hr hkp hg)
end
end Go.Proofs.YtdbbkncjhnafdaaGreatDoor

namespace Go.Proofs.YtdbbkncjhnafdaaGreatDoor
set_option linter.unusedVariables false
set_option linter.unusedSimpArgs false
set_option maxRecDepth 100000
open Go.RowKit

section
variable {T n p r sp t t' : Nat} {qs : Nat → Nat} {v : Av} {s : As} {col col' : Nat → Nat} {w w' w1 w2 w3 : World}
theorem rowF_at {U : TypeId} {m : Nat} {x : Value} {F : Nat → Value} (h : Gx.Rw U 1 0 w x m ((List.range m).map F)) (hm : 0 < m) : ∃ b c, x = .slice (some ⟨b, 0, none⟩) m c ∧ m ≤ c ∧ (∃ cur, w.heap[b]? = some (.cells cur U (0, 0))) ∧ ∀ i, i < m → w.cell? ⟨b, i, none⟩ = some (F i) := by
  obtain ⟨b, c, e, hc, hcell⟩ := Gx.Rw.at h hm (by decide)
  refine ⟨b, c, e, hc, ?_, fun i hi => ?_⟩
  · exact (Gx.Rw.block h b (by rw [e, Gx.blk_some]; simp)).2
  · rw [hcell i (by omega), List.getElem?_map, List.getElem?_range hi]; rfl
theorem row4_at {U : TypeId} {m : Nat} {x : Value} {us : Nat → Nat → Value} (h : Gx.Rw U 4 0 w x m ((List.range (4 * m)).map fun k => us (k / 4) (k % 4))) (hm : 0 < m) : ∃ b c, x = .slice (some ⟨b, 0, none⟩) m c ∧ m ≤ c ∧ (∃ cur, w.heap[b]? = some (.cells cur U (0, 0))) ∧ ∀ i d, i < m → d < 4 → w.cell? ⟨b, i * 4 + d, none⟩ = some (us i d) := by
  obtain ⟨b, c, e, hc, hcell⟩ := Gx.Rw.at h hm (by decide)
  refine ⟨b, c, e, hc, ?_, fun i d hi hd => ?_⟩
  · exact (Gx.Rw.block h b (by rw [e, Gx.blk_some]; simp)).2
  · rw [hcell _ (by omega), List.getElem?_map, List.getElem?_range (by omega)]
    simp only [Option.map_some]
    rw [show (i * 4 + d) / 4 = i from by omega, show (i * 4 + d) % 4 = d from by omega]
/-- All of the arena's words, as a row of its own. -/
theorem Aw.all (h : Aw T n p r sp qs v s t col w) (hT : 0 < T) (hn : n ≤ 12) : Calls Tryz.prog 21 #[.pointer (some ⟨p, 0, none⟩)] w fun e w' => e = .returned (.slice (some ⟨w.heap.size, 0, none⟩) (3 + T + 33 * n) (3 + T + 33 * n)) ∧ w'.heap[w.heap.size]? = some (.cells (u64s s.H) 53 (0, 0)) ∧ Kp [] w w' := by
  obtain ⟨t0, ht0, hw⟩ := (h.mws.one 0 hT).hw
  obtain ⟨l, a⟩ := hw.ar
  have hl := h.fit.len
  have := all_any w p r _ a (by show 1 ≤ s.H.length; omega) (hw.top)
  rw [show (St.mk s.H t0 l).ws.length = 3 + T + 33 * n from hl] at this
  exact this
theorem Li.Rd.get {u : Value} {xs : List Int} (h : Li.Rd w u xs) : ∃ g o c, (∃ ao, u = .slice ao xs.length c ∧ (xs ≠ [] → ao = some ⟨g, o, none⟩)) ∧ xs.length ≤ c ∧ ∀ i, i < xs.length → w.cell? ⟨g, o + i, none⟩ = some (.int .i64 (xs.getD i 0)) := by
  obtain ⟨ao, c, e, hc, hz, hx⟩ := h.form
  by_cases hne : xs = []
  · exact ⟨0, 0, c, ⟨ao, e, fun h => absurd hne h⟩, hc, fun i hi => by rw [hne] at hi; simp at hi⟩
  · obtain ⟨g, o, rfl, hcell⟩ := hx hne
    exact ⟨g, o, c, ⟨_, e, fun _ => rfl⟩, hc, hcell⟩

set_option maxHeartbeats 4000000 in
theorem aw_same (h : Aw T n p r sp qs v s t col w) (hT : 0 < T) (hT4 : T ≤ 64) (hn : n ≤ 12) :
    Calls Tryz.prog 17 #[.pointer (some ⟨sp, 0, none⟩)] w fun e w' => e = .returned (.bool true) ∧ Kp [] w w' := by
  have HAll := Lib.hid (h.all hT hn)
  have HA := Lib.hid h
  have a0 : w.cell? ⟨sp, 0, none⟩ = some (.pointer (some ⟨p, 0, none⟩)) := (h.cell (by decide)).trans (by rw [h.f0])
  obtain ⟨N, hN⟩ : ∃ N, N = 3 + T + 33 * n := ⟨_, rfl⟩
  have HN := Lib.hid (And.intro hN h.fit.len)
  rw [← hN] at HAll
  have hN1 : N ≤ 4096 := by omega
  clear hN h
  go_enter Tryz.func17, Tryz.ntmps17
  go_wp2_with fail
  refine HAll.out.mono ?_
  rintro e w1 ⟨rfl, hb1, hk1⟩
  have HA1 := Lib.hid (HA.out.on hk1)
  have HB := Lib.hid hb1
  have HK := Lib.hid hk1
  have b6 : w1.cell? ⟨sp, 6, none⟩ = some (.slice (some ⟨v.db, 0, none⟩) N v.dc) := (HA1.out.cell (by decide)).trans (by rw [HA1.out.f6, HN.out.1])
  have hneq : ((N : Int) != (N : Int)) = false := by simp
  clear hb1 hk1 HAll a0
  go_wp2_with fail
  go_loopg [4] N (fun g v4 wr => ∃ i : Nat, i + g = N ∧ v4 = .int .i64 i ∧ Hid (Kp [] w1 wr))
  case atStart => exact ⟨0, by omega, rfl, Lib.hid (Kp.refl _ _)⟩
  case round =>
    obtain ⟨i, hi, rfl, HR⟩ := hrel
    by_cases hlt : i < N
    · have hA2 := HA1.out.on HR.out
      have c1 : wr.cell? ⟨sp, 6, none⟩ = some (.slice (some ⟨v.db, 0, none⟩) N v.dc) := (hA2.cell (by decide)).trans (by rw [hA2.f6, HN.out.1])
      have c2 := hA2.dh.cell (k := i) (by rw [HN.out.2, ← HN.out.1]; exact hlt)
      have c3 : wr.cell? ⟨w.heap.size, i, none⟩ = some (.int .u64 (s.H.getD i 0)) := by rw [cell_of_row (HR.out.row (by simp) HB.out), u64s_get _ _ (by rw [HN.out.2, ← HN.out.1]; exact hlt)]
      have hdc : N ≤ v.dc := by
        obtain ⟨_, cur, _, _, _, hz, _⟩ := hA2.dh.ww.heap (by rw [HN.out.2, ← HN.out.1]; omega)
        rw [HN.out.2, ← HN.out.1] at hz; exact hz
      obtain ⟨y, hy⟩ : ∃ y, s.H.getD i 0 = y := ⟨_, rfl⟩
      rw [hy] at c2 c3
      have hne : (y != y) = false := by simp
      clear hy hA2 b6
      go_wp2_with fail
      go_region
      all_goals go_wp2_with fail
      all_goals go_roundg (N - (i + 1))
      all_goals first | omega | exact ⟨i + 1, by omega, rfl, Lib.hid (HR.out.drew)⟩ | exact ⟨i + 1, by omega, rfl, HR⟩
    · obtain rfl : i = N := by omega
      have HK2 := Lib.hid (HK.out.trans HR.out)
      obtain ⟨b10, c10, e10, hc10, -, hcell10⟩ := row4_at HA.out.docs hT
      obtain ⟨b4, c4, e4, hc4, -, hcell4⟩ := rowF_at HA.out.free hT
      have z10 : w.cell? ⟨sp, 10, none⟩ = some (.slice (some ⟨b10, 0, none⟩) T c10) := (HA.out.cell (by decide)).trans (by rw [e10])
      have z4 : w.cell? ⟨sp, 4, none⟩ = some (.slice (some ⟨b4, 0, none⟩) T c4) := (HA.out.cell (by decide)).trans (by rw [e4])
      have HX := Lib.hid (And.intro z10 (And.intro z4 (And.intro hcell10 hcell4)))
      clear e10 e4 hcell10 hcell4 z10 z4 HR HA1 b6 HB hlt
      have d10 := kp_cell HK2.out (by simp) HX.out.1
      go_wp2_with fail
      go_loopg [5] T (fun g v5 wr => ∃ k : Nat, k + g = T ∧ v5 = .int .i64 k ∧ Hid (Kp [] w wr))
      case atStart => exact ⟨0, by omega, rfl, HK2⟩
      case round =>
        obtain ⟨k, hk, rfl, HR⟩ := hrel
        clear d10 HK2
        have d10 := kp_cell HR.out (by simp) HX.out.1
        by_cases hkT : k < T
        · go_wp2_with fail
          go_loopg [6] 4 (fun g v6 wr => ∃ c : Nat, c + g = 4 ∧ v6 = .int .i64 c ∧ Hid (Kp [] w wr))
          case atStart => exact ⟨0, by omega, rfl, HR⟩
          case round =>
            obtain ⟨c, hc, rfl, HQ⟩ := hrel
            clear d10 HR
            by_cases hc4' : c < 4
            · have HA4 := Lib.hid (HA.out.on HQ.out)
              have x4 := kp_cell HQ.out (by simp) HX.out.2.1
              have y4 := kp_cell HQ.out (by simp) (HX.out.2.2.2 k hkT)
              have hlen : (s.Rs k c).length ≤ 1000 := (HA4.out.mws.one k hkT).lk.len (HA4.out.mws.one k hkT).sm c hc4'
              have HAl := Lib.hid (Li.all_good _ (qs k) c (v.vss k) (s.Rs k) (HA4.out.mws.one k hkT).ls hc4' hlen)
              obtain ⟨m, hm⟩ : ∃ m, m = (s.Rs k c).length := ⟨_, rfl⟩
              obtain ⟨B0, hB0⟩ : ∃ B0, B0 = wr.heap.size := ⟨_, rfl⟩
              rw [← hm, ← hB0] at HAl
              rw [← hm] at hlen
              clear hB0
              have HM := Lib.hid hm
              clear hm
              go_wp2_with fail
              refine HAl.out.mono ?_
              rintro e w5 ⟨rfl, hr5, hk5⟩
              have HK5 := Lib.hid (HQ.out.trans hk5)
              have HR5 := Lib.hid hr5
              have hrd := (HA.out.on HK5.out).rd k hkT c hc4'
              obtain ⟨g, o, cu, ⟨ao, eu, hao⟩, hcu, hcell⟩ := Li.Rd.get hrd
              have hml : (Li.rev (s.Rs k) c).length = m := by rw [HM.out]; simp [Li.rev]
              rw [hml] at eu hcu hcell
              have HC := Lib.hid (And.intro eu (And.intro hao hcell))
              clear hr5 hk5 hrd eu hao hcell HAl x4 y4
              have x10 := kp_cell HK5.out (by simp) HX.out.1
              have y10 := (kp_cell HK5.out (by simp) (HX.out.2.2.1 k c hkT hc4')).trans (congrArg some HC.out.1)
              have hneq : ((m : Int) != (m : Int)) = false := by simp
              go_wp2_with fail
              go_loopg [8] m (fun g v8 wr => ∃ j : Nat, j + g = m ∧ v8 = .int .i64 j ∧ Hid (Kp [] w5 wr))
              case atStart => exact ⟨0, by omega, rfl, Lib.hid (Kp.refl _ _)⟩
              case round =>
                obtain ⟨j, hj, rfl, HJ⟩ := hrel
                clear x10 y10
                by_cases hjm : j < m
                · have hne : Li.rev (s.Rs k) c ≠ [] := by
                    intro e0
                    rw [HM.out, ← List.length_reverse, show (s.Rs k c).reverse = Li.rev (s.Rs k) c from rfl, e0] at hjm
                    simp at hjm
                  obtain rfl := HC.out.2.1 hne
                  have c1 := kp_cell (HK5.out.trans HJ.out) (by simp) HX.out.1
                  have c2 := (kp_cell (HK5.out.trans HJ.out) (by simp) (HX.out.2.2.1 k c hkT hc4')).trans (congrArg some HC.out.1)
                  have c3 := kp_cell HJ.out (by simp) (HC.out.2.2 j hjm)
                  have c4' : wr.cell? ⟨B0, j, none⟩ = some (.int .i64 ((Li.rev (s.Rs k) c).getD j 0)) := by
                    have hl : (Li.rev (s.Rs k) c).length = m := by rw [HM.out]; simp [Li.rev]
                    have hr : Li.Rw wr (.slice (some ⟨B0, 0, none⟩) (Li.rev (s.Rs k) c).length m) (Li.rev (s.Rs k) c) := by rw [hl]; exact HR5.out.keep0 HJ.out
                    have := Src.of_row hr j _ (Li.ints_get _ j (by omega))
                    rwa [Addr.add_lit, Nat.zero_add] at this
                  obtain ⟨y, hy⟩ : ∃ y, (Li.rev (s.Rs k) c).getD j 0 = y := ⟨_, rfl⟩
                  rw [hy] at c3 c4'
                  have hne : (y != y) = false := by simp
                  clear hy hneq
                  go_wp2_with fail
                  go_region
                  all_goals go_wp2_with fail
                  all_goals go_roundg (m - (j + 1))
                  all_goals first | omega | exact ⟨j + 1, by omega, rfl, Lib.hid (HJ.out.drew)⟩ | exact ⟨j + 1, by omega, rfl, HJ⟩
                · have HK6 := Lib.hid (HK5.out.trans HJ.out)
                  go_wp2_with fail
                  go_roundg (4 - (c + 1))
                  case rel => exact ⟨c + 1, by omega, by go_num, HK6⟩
                  case measure => omega
            · go_wp2_with fail
              go_roundg (T - (k + 1))
              case rel => exact ⟨k + 1, by omega, by go_num, HQ⟩
              case measure => omega
        · go_wp2_with fail
          go_ret
          exact ⟨rfl, HR.out⟩
end
end Go.Proofs.YtdbbkncjhnafdaaGreatDoor

namespace Go.Proofs.YtdbbkncjhnafdaaGreatDoor
set_option linter.unusedVariables false
set_option linter.unusedSimpArgs false
set_option maxRecDepth 100000
open Go.RowKit

/-- The law's own closure: what it is told goes into a box. -/
abbrev hdV (b9 : Nat) : Value := .func (.func 65) #[] #[.pointer (some ⟨b9, 0, none⟩)]
def BoxP (b9 : Nat) (a : Nat) (w : World) : Prop := w.cell? ⟨b9, 0, none⟩ = some (.int .i64 a)
theorem cl_hold (a b9 : Nat) (u : Value) (w : World) (hb : w.heap[b9]? = some (.cells #[u] 3 (0, 0))) :
    Calls Tryz.prog 65 #[.int .i64 a, .pointer (some ⟨b9, 0, none⟩)] w fun e w' => e = .returned (.tuple #[]) ∧ Kp [b9] w w' ∧ BoxP b9 a w' := by
  have c0 : w.cell? ⟨b9, 0, none⟩ = some u := cell_of_row hb 0
  have g0 := free_of_row hb 0
  have K : Kp [b9] w (w.setCell ⟨b9, 0, none⟩ (.int .i64 a)) := (Kp.refl _ _).setCell (.inl (by simp)) _
  have hP : BoxP b9 a (w.setCell ⟨b9, 0, none⟩ (.int .i64 a)) := by
    unfold BoxP
    rw [cell_of_row (heap_setCell_same _ _ _ _ _ _ hb)]
    rfl
  have HK := Lib.hid (And.intro K hP)
  clear K hP hb
  go_enter Tryz.func65, Tryz.ntmps65
  go_wp2_with fail
  go_end0
  exact ⟨rfl, HK.out⟩
theorem hold_box (T G n p r q o : Nat) (wk : Bool) (vs : Nat → Value) (w : World) (b9 : Nat) (u : Value) (hb : w.heap[b9]? = some (.cells #[u] 3 (0, 0))) (ho : Off p r q vs w b9) : HoldOk T G n p r q o wk (hdV b9) vs w [b9] (BoxP b9) := by
  refine ⟨fun a vs' w1 k _ => ?_, by simpa using ho, fun a w1 w2 hp k => kp_cell k (by have := ho.2; simp; omega) hp⟩
  have hb1 : w1.heap[b9]? = some (.cells #[u] 3 (0, 0)) := k.row ho.2.1 ho.2.2.1 ho.2.2.2.1 ho.2.2.2.2.1 hb
  have KB := Lib.hid (mkW_kp w1 T G n p q o wk (hdV b9))
  have HC := Lib.hid (fun (w2 : World) (k2 : Kp [] w1 w2) => cl_hold a b9 u w2 (k2.row (by simp) hb1))
  unfold mkW mkC at KB
  have hfn : ∀ w, (binOp .neq 48 (hdV b9) .nilFunc).run Tryz.prog w = .ok (.bool true) w := fun _ => rfl
  clear hb hb1 ho k
  go_enter Tryz.func140, Tryz.ntmps140
  go_wp2_with fail
  refine (HC.out _ KB.out).mono ?_
  rintro e w2 ⟨rfl, hk2, hp2⟩
  have H2 := Lib.hid (And.intro ((KB.out.mono (by simp)).trans hk2) hp2)
  clear hk2 hp2
  go_wp2_with fail
  go_end0
  exact ⟨rfl, H2.out⟩

section
variable {T n p r sp t t' : Nat} {qs : Nat → Nat} {v : Av} {s : As} {col col' : Nat → Nat} {w w' w1 w2 w3 : World}
theorem Aw.db_off (h : Aw T n p r sp qs v s t col w) {i : Nat} (hi : i < T) {Sh : List Nat} (hS : Apart col w Sh) : v.db ∉ mhS Sh p r (qs i) (v.vss i) := fun e => by
  obtain ⟨_, cur, hc⟩ := Gx.Rw.block h.dh.ww v.db (by rw [Gx.blk_some]; simp)
  have hd := h.dbp (by omega)
  obtain ⟨a1, a2, a3, e1, e2, e3⟩ := (h.mws.one i hi).types
  rcases mem_mhS.1 e with e | e | e | e | e
  · exact hd.1 e
  · exact hd.2.1 e
  · rw [e, e3] at hc; simp at hc
  · obtain ⟨_, cs, hcs⟩ := hS _ e
    rw [hcs] at hc; simp at hc
  · obtain ⟨cs, hcs⟩ := owns_type (h.mws.one i hi).ls e
    rw [hcs] at hc; simp at hc
theorem Lo.mhs {B : Nat} (hL : Lo B T p r sp qs v) {i : Nat} (hi : i < T) {Sh : List Nat} (hS : ∀ x ∈ Sh, B ≤ x) : ∀ x ∈ mhS Sh p r (qs i) (v.vss i), B ≤ x := fun x hx => by
  rcases mem_mhS.1 hx with e | e | e | e | e
  · rw [e]; exact hL.p0
  · rw [e]; exact hL.r0
  · rw [e]; exact hL.q0 i hi
  · exact hS x e
  · exact hL.o0 i hi x e
/-- Behind a step of an owner. -/
theorem Lo.step {B : Nat} (hL : Lo B T p r sp qs v) {i : Nat} (hi : i < T) {vs' us' : Nat → Value} {Sh : List Nat} (k : Mh Sh p r (qs i) (v.vss i) vs' w w1) (hB : B ≤ w.heap.size) {f' : Nat → Value} (hf : ∀ j, j ≠ 6 → f' j = v.f j) {b c : Nat} : Lo B T p r sp qs { v with f := f', vss := updV4 v.vss i vs', us := updV4 v.us i us', db := b, dc := c } where
  p0 := hL.p0
  r0 := hL.r0
  s0 := hL.s0
  q0 := hL.q0
  o0 := fun j hj g hg => by
    by_cases e : j = i
    · subst e
      have hg' : Li.Owns vs' g := by simpa [updV4_same] using hg
      rcases k.own g hg' with z | z
      · exact hL.o0 j hj g z
      · omega
    · have hg' : Li.Owns (v.vss j) g := by simpa [updV4_ne e] using hg
      exact hL.o0 j hj g hg'
  w0 := fun g hg => hL.w0 g (by have hg2 : g ∈ Gx.blk (f' 5) := hg; rwa [hf 5 (by decide)] at hg2)
  d0 := fun g hg => hL.d0 g (by have hg2 : g ∈ Gx.blk (f' 10) := hg; rwa [hf 10 (by decide)] at hg2)
  m0 := fun g hg => hL.m0 g (by have hg2 : g ∈ Gx.blk (f' 11) := hg; rwa [hf 11 (by decide)] at hg2)
  z0 := fun g hg => hL.z0 g (by have hg2 : g ∈ Gx.blk (f' 12) := hg; rwa [hf 12 (by decide)] at hg2)
  a0 := hL.a0
  b0 := hL.b0
theorem Lo.made {B : Nat} (hL : Lo B T p r sp qs v) {i : Nat} {m' : Value} (hb : ∀ g ∈ Li.blk m', B ≤ g) : Lo B T p r sp qs { v with ms := upd1 v.ms i m' } := by
  have h : ∀ j, j < T → ∀ g ∈ Li.blk (upd1 v.ms i m' j), B ≤ g := fun j hj g hg => by
    by_cases e : j = i
    · subst e
      exact hb g (by simpa [upd1_same] using hg)
    · exact hL.a0 j hj g (by simpa [upd1_ne e] using hg)
  exact { hL with a0 := h }
theorem Lo.size {B : Nat} (hL : Lo B T p r sp qs v) {i : Nat} {m' : Value} (hb : ∀ g ∈ Li.blk m', B ≤ g) : Lo B T p r sp qs { v with ss := upd1 v.ss i m' } := by
  have h : ∀ j, j < T → ∀ g ∈ Li.blk (upd1 v.ss i m' j), B ≤ g := fun j hj g hg => by
    by_cases e : j = i
    · subst e
      exact hb g (by simpa [upd1_same] using hg)
    · exact hL.b0 j hj g (by simpa [upd1_ne e] using hg)
  exact { hL with b0 := h }
theorem Aw.mh_col (h : Aw T n p r sp qs v s t col w) {i : Nat} (hi : i < T) {Sh : List Nat} (hS : ∀ x ∈ Sh, w.heap.size ≤ x) : ∀ x ∈ mhS Sh p r (qs i) (v.vss i), x < w.heap.size → col x ≠ 1000 := fun x hx hl => by
  rcases mem_mhS.1 hx with e | e | e | e | e
  · rw [h.c0 x (.inl e)]; decide
  · rw [h.c0 x (.inr (.inl e))]; decide
  · rw [e, h.cq i hi]; decide
  · have := hS x e; omega
  · rw [h.c1 i hi x e]; decide
/-- The document's list of an owner, as slices. -/
theorem Aw.us_slices (h : Aw T n p r sp qs v s t col w) {i : Nat} (hi : i < T) : ∃ a0 a1 a2 a3 l0 k0 l1 k1 l2 k2 l3 k3, ∀ d, d < 4 → v.us i d = sl a0 a1 a2 a3 l0 k0 l1 k1 l2 k2 l3 k3 d := rows_slices (h.rd i hi)
theorem rows4_eq {us us' : Nat → Value} {R : Nat → List Int} (h : Li.Rows4 w us R) (e : ∀ d, d < 4 → us d = us' d) : Li.Rows4 w us' R := fun d hd => by rw [← e d hd]; exact h d hd
theorem bl4_eq {us us' vs vs' : Nat → Value} {a b : Nat} (h : Li.Bl4 us vs a b) (e : ∀ d, d < 4 → us d = us' d) (e' : ∀ d, d < 4 → vs d = vs' d) : Li.Bl4 us' vs' a b := fun d hd => by rw [← e d hd, ← e' d hd]; exact h d hd
end
/-- What the law's State says behind an object that may be. -/
def madeS (T n : Nat) (s : As) (i rf sz : Nat) : As :=
  { H := (pmakeS T 0 n i (s.wk i) rf sz (s.H, s.Rs i)).1.1, Rs := updO s.Rs i (pmakeS T 0 n i (s.wk i) rf sz (s.H, s.Rs i)).1.2, wk := s.wk,
    made := match (pmakeS T 0 n i (s.wk i) rf sz (s.H, s.Rs i)).2 with | none => s.made | some x => upd1 s.made i (s.made i ++ [x]),
    size := match (pmakeS T 0 n i (s.wk i) rf sz (s.H, s.Rs i)).2 with | none => s.size | some _ => upd1 s.size i (s.size i ++ [(sz : Int)]) }

/-- The contract of the document's Make (d_make). -/
def DMake (Bz T n : Nat) : Prop := ∀ (db dc o : Nat) (us : Nat → Value) (H : List Int) (R : Nat → List Int) (wk : Bool) (w : World) (rf sz : Nat), Dh Bz T 0 n db dc H w → Li.Rows4 w us R → Li.Lt4 us w.heap.size → Lok H.length R → H.length ≤ 1000 → Ivn T 0 n H → o < 64 → rf ≤ sz → sz ≤ 95 →
    Calls Tryz.prog 67 #[hV db dc H.length T 0 n, .agg #[us 0, us 1, us 2, us 3], .int .u8 o, .bool wk, .int .i64 rf, .int .i64 sz] w fun e w' => ∃ db' dc' us', e = .returned (.tuple #[hV db' dc' H.length T 0 n, .agg #[us' 0, us' 1, us' 2, us' 3], .int .i64 (dmakeS T 0 n o wk rf sz (H, R)).2]) ∧ Dh Bz T 0 n db' dc' (dmakeS T 0 n o wk rf sz (H, R)).1.1 w' ∧ Li.Rows4 w' us' (dmakeS T 0 n o wk rf sz (H, R)).1.2 ∧ Kp [] w w' ∧ Li.Bl4 us us' w.heap.size w'.heap.size
/-- What is older than B stands, and what is coloured 1000; colours stay. -/
structure BK (B : Nat) (col col' : Nat → Nat) (w w' : World) : Prop where
  bel : Below B w w'
  agr : ∀ g, g < w.heap.size → col' g = col g
  st : ∀ g, g < w.heap.size → col g = 1000 → w'.heap[g]? = w.heap[g]?
theorem BK.of {S : List Nat} {B : Nat} {col : Nat → Nat} {w w' : World} (k : Kp S w w') (hB : B ≤ w.heap.size) (hS : ∀ x ∈ S, B ≤ x) (hc : ∀ x ∈ S, x < w.heap.size → col x ≠ 1000) : BK B col col w w' :=
  ⟨k.below hB hS, fun _ _ => rfl, fun g hg h1 => k.block g hg fun e => hc g e hg h1⟩
theorem BK.of0 {B : Nat} {col : Nat → Nat} {w w' : World} (k : Kp [] w w') (hB : B ≤ w.heap.size) : BK B col col w w' := BK.of k hB (by simp) (by simp)
theorem BK.recol {B : Nat} {c1 c2 c3 : Nat → Nat} {w w' : World} (h : BK B c1 c2 w w') (hc : ∀ g, g < w.heap.size → c3 g = c2 g) : BK B c1 c3 w w' := ⟨h.bel, fun g hg => (hc g hg).trans (h.agr g hg), h.st⟩
theorem BK.trans {B : Nat} {c1 c2 c3 : Nat → Nat} {w w1 w2 : World} (h : BK B c1 c2 w w1) (k : BK B c2 c3 w1 w2) : BK B c1 c3 w w2 :=
  ⟨h.bel.trans k.bel, fun g hg => (k.agr g (Nat.lt_of_lt_of_le hg h.bel.size)).trans (h.agr g hg), fun g hg h1 => (k.st g (Nat.lt_of_lt_of_le hg h.bel.size) ((h.agr g hg).trans h1)).trans (h.st g hg h1)⟩
theorem BK.size {B : Nat} {c1 c2 : Nat → Nat} {w w1 : World} (h : BK B c1 c2 w w1) : w.heap.size ≤ w1.heap.size := h.bel.size
section
variable {T n p r q t o : Nat} {wk : Bool} {hd : Value} {vs : Nat → Value} {H : List Int} {R : Nat → List Int} {w : World} {Sh : List Nat} {P : Nat → World → Prop}
/-- An object of whatever size that may be. -/
theorem make_good (h : Mw T 0 n p r q vs H R t w) (ht : t ≤ 300000) (hn : n ≤ 12) (hoT : o < T) (rf sz : Nat) (hr : rf ≤ sz) (h95 : sz ≤ 95) (ho2 : HoldOk T 0 n p r q o wk hd vs w Sh P) :
    Calls Tryz.prog 66 #[mkV T 0 n p q o wk hd, .int .i64 rf, .int .i64 sz] w fun e w' => e = .returned (.tuple #[.int .i64 ((pmakeS T 0 n o wk rf sz (H, R)).2.getD 0), .int .i64 (erM (pmakeS T 0 n o wk rf sz (H, R)).2)]) ∧ ∃ vs', Mw T 0 n p r q vs' (pmakeS T 0 n o wk rf sz (H, R)).1.1 (pmakeS T 0 n o wk rf sz (H, R)).1.2 (t + 600) w' ∧ Mh Sh p r q vs vs' w w' ∧ Tp Sh P (pmakeS T 0 n o wk rf sz (H, R)).2 w w' := by
  unfold pmakeS
  rcases size_ways sz h95 with ⟨h0, c, hc, hcc, hw⟩ | ⟨run, h1, h3, hrn, hw⟩
  · have h8 : sz ≤ 8 := by
      rcases Cl.run_ofs (sz : Int) with z | z | z | z | z <;> omega
    rw [if_pos h0, hcc, Int.toNat_natCast]
    refine (make_small h ht hoT c rf sz hcc hr h8 ho2).mono ?_
    rintro e w' ⟨h1, v, h2, h3, h4⟩
    exact ⟨h1, v, h2.more (by omega), h3, h4⟩
  · have h9 : 9 ≤ sz := by
      rcases Cl.run_ofs (sz : Int) with z | z | z | z | z <;> omega
    rw [if_neg (by omega), hrn, Int.toNat_natCast]
    refine (make_large h ht hoT run rf sz hrn hr h9 h95 ho2).mono ?_
    rintro e w' ⟨h1, v, h2, h3, h4⟩
    exact ⟨h1, v, h2.more (by omega), h3, h4⟩
end
/-- What a drawn region that builds a maker holds on to. -/
def B9 (T n sp b4 c4 b5 c5 i p qi : Nat) (wk : Bool) (F : World → Prop) (wx : World) : Prop :=
  wx.cell? ⟨sp, 0, none⟩ = some (.pointer (some ⟨p, 0, none⟩)) ∧ wx.cell? ⟨sp, 1, none⟩ = some (.int .i64 T) ∧ wx.cell? ⟨sp, 2, none⟩ = some (.int .i64 0) ∧ wx.cell? ⟨sp, 3, none⟩ = some (.int .i64 n) ∧ wx.cell? ⟨sp, 4, none⟩ = some (.slice (some ⟨b4, 0, none⟩) T c4) ∧ wx.cell? ⟨sp, 5, none⟩ = some (.slice (some ⟨b5, 0, none⟩) T c5) ∧ wx.cell? ⟨b4, i, none⟩ = some (.pointer (some ⟨qi, 0, none⟩)) ∧ wx.cell? ⟨b5, i, none⟩ = some (.bool wk) ∧ F wx
theorem B9.keep {T n sp b4 c4 b5 c5 i p qi : Nat} {wk : Bool} {F : World → Prop} {wx wy : World} {S : List Nat} (h : B9 T n sp b4 c4 b5 c5 i p qi wk F wx) (k : Kp S wx wy) (h1 : sp ∉ S) (h2 : b4 ∉ S) (h3 : b5 ∉ S) (hF : F wx → F wy) : B9 T n sp b4 c4 b5 c5 i p qi wk F wy := by
  obtain ⟨a0, a1, a2, a3, a4, a5, a6, a7, a8⟩ := h
  exact ⟨kp_cell k h1 a0, kp_cell k h1 a1, kp_cell k h1 a2, kp_cell k h1 a3, kp_cell k h1 a4, kp_cell k h1 a5, kp_cell k h2 a6, kp_cell k h3 a7, hF a8⟩
section
variable {T n p r sp t t' : Nat} {qs : Nat → Nat} {v : Av} {s : As} {col col' : Nat → Nat} {w w' w1 w2 w3 : World}
theorem Aw.b9 (h : Aw T n p r sp qs v s t col w) {i : Nat} (hi : i < T) : ∃ b4 c4 b5 c5, T ≤ c4 ∧ T ≤ c5 ∧ b4 < w.heap.size ∧ b5 < w.heap.size ∧ v.f 4 = .slice (some ⟨b4, 0, none⟩) T c4 ∧ v.f 5 = .slice (some ⟨b5, 0, none⟩) T c5 ∧ B9 T n sp b4 c4 b5 c5 i p (qs i) (s.wk i) (fun _ => True) w := by
  obtain ⟨b4, c4, e4, hc4, ⟨_, z4⟩, hcell4⟩ := rowF_at h.free (by omega)
  obtain ⟨b5, c5, e5, hc5, ⟨_, z5⟩, hcell5⟩ := rowF_at h.walks (by omega)
  exact ⟨b4, c4, b5, c5, hc4, hc5, lt_of_block z4, lt_of_block z5, e4, e5, (h.cell (by decide)).trans (by rw [h.f0]), (h.cell (by decide)).trans (by rw [h.f1]), (h.cell (by decide)).trans (by rw [h.f2]), (h.cell (by decide)).trans (by rw [h.f3]), (h.cell (by decide)).trans (by rw [e4]), (h.cell (by decide)).trans (by rw [e5]), hcell4 i hi, hcell5 i hi, trivial⟩
end
end Go.Proofs.YtdbbkncjhnafdaaGreatDoor

namespace Go.Proofs.YtdbbkncjhnafdaaGreatDoor
set_option linter.unusedVariables false
set_option linter.unusedSimpArgs false

/-- Which object lies at a place: its owner, references, size. -/
abbrev Obs := Nat → Option (Nat × Nat × Nat)
def setOb (O : Obs) (x : Nat) (y : Nat × Nat × Nat) : Obs := fun z => if z = x then some y else O z
theorem setOb_same (O : Obs) (x : Nat) (y : Nat × Nat × Nat) : setOb O x y x = some y := if_pos rfl
theorem setOb_ne {O : Obs} {x z : Nat} {y : Nat × Nat × Nat} (h : z ≠ x) : setOb O x y z = O z := if_neg h
/-- A block's entry; its first word. -/
abbrev en (T : Nat) (H : List Int) (b : Nat) : Int := H.getD (3 + T + 0 + b) 0
def hd (T n b : Nat) : Nat := 3 + T + 0 + n + 32 * b
def eS (c o : Nat) : Int := Tb.wordE 1 c 0 o
def eL (run o : Nat) : Int := Tb.wordE 2 0 run o
def hw (o rf sz : Nat) : Int := Wd.wordI 2 0 o rf sz false false

theorem wd_cl {c : Nat} (h : c < 4) : ((Cl.wdC c).toNat = 2 ∧ (Cl.clC c).toNat = 16) ∨ ((Cl.wdC c).toNat = 3 ∧ (Cl.clC c).toNat = 10) ∨ ((Cl.wdC c).toNat = 5 ∧ (Cl.clC c).toNat = 6) ∨ ((Cl.wdC c).toNat = 9 ∧ (Cl.clC c).toNat = 3) := by
  rcases Li.four h with rfl | rfl | rfl | rfl <;> decide
theorem wd_nat {c : Nat} (h : c < 4) : (((Cl.wdC c).toNat : Nat) : Int) = Cl.wdC c := by
  have := wd_pos h
  omega
theorem pl_in {T n c b m : Nat} (hc : c < 4) (hm : m < (Cl.clC c).toNat) : hd T n b ≤ pl T 0 n c b m ∧ pl T 0 n c b m + (Cl.wdC c).toNat ≤ hd T n b + 32 := by
  unfold pl hd
  rcases wd_cl hc with ⟨h1, h2⟩ | ⟨h1, h2⟩ | ⟨h1, h2⟩ | ⟨h1, h2⟩ <;> rw [h1] <;> rw [h2] at hm <;> omega
theorem pl_apart {T n c b m m' : Nat} (hc : c < 4) (hne : m ≠ m') : pl T 0 n c b m + (Cl.wdC c).toNat ≤ pl T 0 n c b m' ∨ pl T 0 n c b m' + (Cl.wdC c).toNat ≤ pl T 0 n c b m := by
  unfold pl
  rcases wd_cl hc with ⟨h1, h2⟩ | ⟨h1, h2⟩ | ⟨h1, h2⟩ | ⟨h1, h2⟩ <;> rw [h1] <;> omega
theorem wd_ge {c : Nat} (hc : c < 4) : 2 ≤ (Cl.wdC c).toNat ∧ (Cl.wdC c).toNat ≤ 9 := by
  rcases wd_cl hc with ⟨h1, h2⟩ | ⟨h1, h2⟩ | ⟨h1, h2⟩ | ⟨h1, h2⟩ <;> rw [h1] <;> omega
theorem pl_inj {T n c c' b b' m m' : Nat} (hc : c < 4) (hm : m < (Cl.clC c).toNat) (hc' : c' < 4) (hm' : m' < (Cl.clC c').toNat) (h : pl T 0 n c b m = pl T 0 n c' b' m') : b = b' := by
  have a := pl_in (T := T) (n := n) (b := b) hc hm
  have a' := pl_in (T := T) (n := n) (b := b') hc' hm'
  have := wd_ge hc
  have := wd_ge hc'
  unfold hd at a a'
  omega
theorem pl_inj2 {T n c b m m' : Nat} (hc : c < 4) (h : pl T 0 n c b m = pl T 0 n c b m') : m = m' := by
  by_cases hne : m = m'
  · exact hne
  · have := wd_ge hc
    rcases pl_apart (T := T) (n := n) (b := b) hc hne with h1 | h1 <;> omega

theorem eS_ne (c o : Nat) : eS c o ≠ 0 ∧ eS c o ≠ 3 := by unfold eS Tb.wordE; omega
theorem eL_ne (run o : Nat) : eL run o ≠ 0 ∧ eL run o ≠ 3 := by unfold eL Tb.wordE; omega
theorem eS_eL {c o run o' : Nat} : eS c o ≠ eL run o' := by unfold eS eL Tb.wordE; omega
theorem eS_inj {c o c' o' : Nat} (h : eS c o = eS c' o') (hc : c < 4) (hc' : c' < 4) : c = c' ∧ o = o' := by unfold eS Tb.wordE at h; omega
theorem eL_inj {c o c' o' : Nat} (h : eL c o = eL c' o') (hc : c < 4) (hc' : c' < 4) : c = c' ∧ o = o' := by unfold eL Tb.wordE at h; omega
theorem hw_mod (o rf sz : Nat) : hw o rf sz % 4 = 2 := by unfold hw Wd.wordI Wd.bitI; simp; omega
theorem lw_mod (o : Nat) : lw o % 4 = 1 := by unfold lw Wd.wordI Wd.bitI; simp; omega
theorem frB_hw (o rf sz : Nat) : frB (hw o rf sz) = false := by
  unfold frB
  have : ¬ hw o rf sz % 4 = 0 := by rw [hw_mod]; omega
  simp [this]
theorem frB_lw (o : Nat) : frB (lw o) = false := by
  unfold frB
  have : ¬ lw o % 4 = 0 := by rw [lw_mod]; omega
  simp [this]

/-- What lies where. -/
structure Cel (T n : Nat) (H : List Int) (Rs : Nat → Nat → List Int) (O : Obs) : Prop where
  fit : Fit T n H Rs
  map : ∀ b, b < n → (H.getD 0 0).toNat.testBit b = true → en T H b = 0
  ent : ∀ b, b < n → en T H b = 0 ∨ en T H b = 3 ∨ (∃ c o : Nat, c < 4 ∧ o < T ∧ en T H b = eS c o ∧ ∀ m, m < (Cl.clC c).toNat → (∃ rf sz, O (pl T 0 n c b m) = some (o, rf, sz)) ∨ ((pl T 0 n c b m : Nat) : Int) ∈ Rs o c) ∨
    ∃ run o : Nat, 1 ≤ run ∧ run ≤ 3 ∧ o < T ∧ b + run ≤ n ∧ en T H b = eL run o ∧ (∃ rf sz, O (hd T n b) = some (o, rf, sz)) ∧ ∀ k, 1 ≤ k → k < run → en T H (b + k) = 3
  lst : ∀ o, o < T → ∀ c : Nat, c < 4 → ∀ x ∈ Rs o c, ∃ b m : Nat, b < n ∧ m < (Cl.clC c).toNat ∧ x = ((pl T 0 n c b m : Nat) : Int) ∧ en T H b = eS c o ∧ O (pl T 0 n c b m) = none ∧ H.getD (pl T 0 n c b m) 0 = lw o
  obj : ∀ x o rf sz, O x = some (o, rf, sz) → o < T ∧ rf ≤ sz ∧ sz ≤ 95 ∧ H.getD x 0 = hw o rf sz ∧ (∀ k, k < sz → H.getD (x + 1 + k) 0 = 0) ∧
    ((∃ c b m : Nat, c < 4 ∧ b < n ∧ m < (Cl.clC c).toNat ∧ sz + 1 ≤ (Cl.wdC c).toNat ∧ x = pl T 0 n c b m ∧ en T H b = eS c o) ∨ ∃ b run : Nat, 1 ≤ run ∧ run ≤ 3 ∧ b + run ≤ n ∧ sz + 1 ≤ 32 * run ∧ x = hd T n b ∧ en T H b = eL run o)

section
variable {T n i c b : Nat} {H : List Int} {Rs : Nat → Nat → List Int} {O : Obs} {wk : Bool}

/-- Two objects' words are apart. -/
theorem Cel.apart (h : Cel T n H Rs O) {x y o rf sz o' rf' sz' : Nat} (hx : O x = some (o, rf, sz)) (hy : O y = some (o', rf', sz')) (hne : x ≠ y) : x + sz < y ∨ y + sz' < x := by
  obtain ⟨_, _, _, _, _, h1⟩ := h.obj x o rf sz hx
  obtain ⟨_, _, _, _, _, h2⟩ := h.obj y o' rf' sz' hy
  rcases h1 with ⟨c1, b1, m1, hc1, hb1, hm1, hs1, rfl, he1⟩ | ⟨b1, r1, hr1, hr13, hb1, hs1, rfl, he1⟩ <;> rcases h2 with ⟨c2, b2, m2, hc2, hb2, hm2, hs2, rfl, he2⟩ | ⟨b2, r2, hr2, hr23, hb2, hs2, rfl, he2⟩
  · have p1 := pl_in (T := T) (n := n) (b := b1) hc1 hm1
    have p2 := pl_in (T := T) (n := n) (b := b2) hc2 hm2
    by_cases hb : b1 = b2
    · subst hb
      rw [he1] at he2
      obtain ⟨rfl, rfl⟩ := eS_inj he2 hc1 hc2
      have hm : m1 ≠ m2 := fun e => hne (by rw [e])
      rcases pl_apart (T := T) (n := n) (b := b1) hc1 hm with q | q <;> omega
    · unfold hd at p1 p2; omega
  · have p1 := pl_in (T := T) (n := n) (b := b1) hc1 hm1
    have hno : ¬ (b2 ≤ b1 ∧ b1 < b2 + r2) := fun ⟨q1, q2⟩ => by
      rcases h.ent b2 (by omega) with z | z | ⟨c', o3, _, _, z, _⟩ | ⟨r', o3, z1, z2, z3, z4, z5, _, z7⟩
      · exact (eL_ne r2 o').1 (he2.symm.trans z)
      · exact (eL_ne r2 o').2 (he2.symm.trans z)
      · exact eS_eL (z.symm.trans he2)
      · obtain ⟨rfl, rfl⟩ := eL_inj (he2.symm.trans z5) (by omega) (by omega)
        by_cases e : b1 = b2
        · subst e; exact eS_eL (he1.symm.trans he2)
        · have := z7 (b1 - b2) (by omega) (by omega)
          rw [show b2 + (b1 - b2) = b1 by omega] at this
          exact (eS_ne c1 o).2 (he1.symm.trans this)
    unfold hd at p1 ⊢; omega
  · have p2 := pl_in (T := T) (n := n) (b := b2) hc2 hm2
    have hno : ¬ (b1 ≤ b2 ∧ b2 < b1 + r1) := fun ⟨q1, q2⟩ => by
      rcases h.ent b1 (by omega) with z | z | ⟨c', o3, _, _, z, _⟩ | ⟨r', o3, z1, z2, z3, z4, z5, _, z7⟩
      · exact (eL_ne r1 o).1 (he1.symm.trans z)
      · exact (eL_ne r1 o).2 (he1.symm.trans z)
      · exact eS_eL (z.symm.trans he1)
      · obtain ⟨rfl, rfl⟩ := eL_inj (he1.symm.trans z5) (by omega) (by omega)
        by_cases e : b2 = b1
        · subst e; exact eS_eL (he2.symm.trans he1)
        · have := z7 (b2 - b1) (by omega) (by omega)
          rw [show b1 + (b2 - b1) = b2 by omega] at this
          exact (eS_ne c2 o').2 (he2.symm.trans this)
    unfold hd at p2 ⊢; omega
  · have hb : b1 ≠ b2 := fun e => hne (by rw [e])
    have key : ∀ {ba bc ra rc oa oc : Nat}, ba + ra ≤ n → bc + rc ≤ n → 1 ≤ ra → 1 ≤ rc → ra ≤ 3 → rc ≤ 3 → en T H ba = eL ra oa → en T H bc = eL rc oc → ba ≠ bc → ¬ (ba ≤ bc ∧ bc < ba + ra) := by
      intro ba bc ra rc oa oc q1 q2 q3 q4 q5 q6 e1 e2 hne ⟨a1, a2⟩
      rcases h.ent ba (by omega) with z | z | ⟨c', o3, _, _, z, _⟩ | ⟨r', o3, z1, z2, z3, z4, z5, _, z7⟩
      · exact (eL_ne ra oa).1 (e1.symm.trans z)
      · exact (eL_ne ra oa).2 (e1.symm.trans z)
      · exact eS_eL (z.symm.trans e1)
      · obtain ⟨rfl, rfl⟩ := eL_inj (e1.symm.trans z5) (by omega) (by omega)
        have := z7 (bc - ba) (by omega) (by omega)
        rw [show ba + (bc - ba) = bc by omega] at this
        exact (eL_ne rc oc).2 (e2.symm.trans this)
    have k1 := key hb1 hb2 hr1 hr2 hr13 hr23 he1 he2 hb
    have k2 := key hb2 hb1 hr2 hr1 hr23 hr13 he2 he1 (Ne.symm hb)
    unfold hd; omega

theorem takeE_of {x : Int} (h : ek x ≠ 0) : Tb.takeE x = true := by
  unfold ek at h
  split at h
  · assumption
  · exact absurd rfl h
/-- A Small block's entry, by its parts. -/
theorem isE_eS {c o : Nat} {x : Int} (h0 : 0 ≤ x) (h : isE c o x = true) : x = eS c o := by
  unfold isE Tb.eqE at h
  simp only [decide_eq_true_eq] at h
  obtain ⟨h1, h2, h3, h4⟩ := h
  have ht := takeE_of (x := x) (by rw [h1]; decide)
  simp only [ek, ec, er, eo, if_pos ht] at h1 h2 h3 h4
  simp only [Tb.takeE, Bool.and_eq_true, decide_eq_true_eq] at ht
  unfold eS Tb.wordE
  omega
theorem Cel.en_pos (h : Cel T n H Rs O) (hb : b < n) : 0 ≤ en T H b := by
  rcases h.ent b hb with z | z | ⟨c', o', _, _, z, _⟩ | ⟨r', o3, _, _, _, _, z, _⟩ <;> rw [z]
  · decide
  · decide
  · unfold eS Tb.wordE; omega
  · unfold eL Tb.wordE; omega
/-- No cell is Free. -/
theorem Cel.noFree (h : Cel T n H Rs O) (hb : b < n) (hc : c < 4) {o : Nat} (he : en T H b = eS c o) {m : Nat} (hm : m < (Cl.clC c).toNat) : frB (H.getD (pl T 0 n c b m) 0) = false := by
  rcases h.ent b hb with z | z | ⟨c', o', hc', ho', z, hz⟩ | ⟨r', o3, z1, z2, z3, z4, z5, _, z7⟩
  · exact absurd (he.symm.trans z) (eS_ne c o).1
  · exact absurd (he.symm.trans z) (eS_ne c o).2
  · obtain ⟨rfl, rfl⟩ := eS_inj (he.symm.trans z) hc hc'
    rcases hz m hm with ⟨rf, sz, hx⟩ | hx
    · rw [(h.obj _ _ _ _ hx).2.2.2.1]; exact frB_hw _ _ _
    · obtain ⟨b', m', hb', hm', e, _, _, hl⟩ := h.lst o ho' c hc _ hx
      have e' : pl T 0 n c b m = pl T 0 n c b' m' := by exact_mod_cast e
      rw [e', hl]; exact frB_lw _
  · exact absurd (he.symm.trans z5) eS_eL
theorem Cel.look (h : Cel T n H Rs O) (hb : b < n) (hc : c < 4) {o : Nat} (he : en T H b = eS c o) {R : Nat → List Int} : ∀ j, j ≤ (Cl.clC c).toNat → lookS T 0 n i c b (H, R) j = (H, R)
  | 0, _ => rfl
  | j + 1, hj => by
    rw [lookS, h.look hb hc he j (by omega)]
    simp only
    rw [h.noFree hb hc he (show j < (Cl.clC c).toNat by omega)]
    simp
theorem Cel.found (h : Cel T n H Rs O) (hc : c < 4) {R : Nat → List Int} : ∀ j, j ≤ n → foundS T 0 n i c (H, R) j = (H, R)
  | 0, _ => rfl
  | j + 1, hj => by
    rw [foundS, h.found hc j (by omega)]
    simp only
    split
    · rename_i hE
      exact h.look (by omega) hc (isE_eS (h.en_pos (by omega)) hE) _ (Nat.le_refl _)
    · rfl
end
end Go.Proofs.YtdbbkncjhnafdaaGreatDoor
