/- Package publish, the document's own: Local, Refs. Conditions: as each theorem states them. -/
import Derived.Test.YtdnlddjgjceogaaPbE
namespace Go.Proofs.Ytdnlddjgjceogaa
set_option linter.unusedVariables false
set_option linter.unusedSimpArgs false
set_option maxRecDepth 100000
open Go.RowKit

theorem zrow_new (w : World) (cs : Array Value) (t : TypeId) {S : List Nat} {w' : World} (k : Kp [] (w.alloc (.cells cs t)) w') : w'.heap[w.heap.size]? = some (.cells cs t (0, 0)) := k.row (by simp) (heap_alloc_new w _)

/-- A header is stored into a box, part by part. -/
def put7 (w : World) (b : Nat) (k c : Int) (g m : Bool) (o r s : Int) : World := ((((((w.setCell ⟨b, 0, none⟩ (.int .u8 k)).setCell ⟨b, 1, none⟩ (.int .u8 c)).setCell ⟨b, 2, none⟩ (.bool g)).setCell ⟨b, 3, none⟩ (.bool m)).setCell ⟨b, 4, none⟩ (.int .u8 o)).setCell ⟨b, 5, none⟩ (.int .u8 r)).setCell ⟨b, 6, none⟩ (.int .u8 s)
theorem put7_kp (w : World) (b : Nat) (k c : Int) (g m : Bool) (o r s : Int) : Kp [b] w (put7 w b k c g m o r s) := (((((((Kp.refl [b] w).setCell (.inl (by simp)) _).setCell (.inl (by simp)) _).setCell (.inl (by simp)) _).setCell (.inl (by simp)) _).setCell (.inl (by simp)) _).setCell (.inl (by simp)) _).setCell (.inl (by simp)) _
theorem put7_row {w : World} {b : Nat} {k0 c0 o0 r0 s0 : Int} {g0 m0 : Bool} (k c : Int) (g m : Bool) (o r s : Int) {T : TypeId} (h : w.heap[b]? = some (.cells (hc7 k0 c0 g0 m0 o0 r0 s0) T (0, 0))) : (put7 w b k c g m o r s).heap[b]? = some (.cells (hc7 k c g m o r s) T (0, 0)) := by
  unfold put7
  rw [heap_setCell_same _ _ _ _ _ _ (heap_setCell_same _ _ _ _ _ _ (heap_setCell_same _ _ _ _ _ _ (heap_setCell_same _ _ _ _ _ _ (heap_setCell_same _ _ _ _ _ _ (heap_setCell_same _ _ _ _ _ _ (heap_setCell_same _ _ _ _ _ _ h))))))]
  rfl
theorem kp_new {S : List Nat} {a w w2 : World} {b : Nat} (h : Kp S a w) (k : Kp [b] w w2) (hb : a.heap.size ≤ b) : Kp S a w2 :=
  ⟨k.os.trans h.os, k.tape.trans h.tape, k.output.trans h.output, Nat.le_trans h.size k.size, fun i hi hn => (k.block i (Nat.lt_of_lt_of_le hi h.size) (by simp; omega)).trans (h.block i hi hn)⟩

set_option maxHeartbeats 1000000 in
theorem local_core (w : World) (b0 o cap N : Nat) (i : Nat) (x k c o' r s n : Int) (g m q n0 k0 : Bool) (hi : i < N) (hN : N ≤ 100000) (hc : w.cell? ⟨b0, o + i, none⟩ = some (.int .u64 x)) (hb : b0 < w.heap.size)
    (h1 : (n == 0) = n0) (h2 : (k == 2) = k0) (h3 : (n0 && k0) = q)
    (hT : Hid (∀ w, Calls Try.prog 22 #[.int .u64 x] w fun e w' => e = .returned (.tuple #[.agg (hc7 k c g m o' r s), .int .i64 n]) ∧ Kp [] w w')) :
    Calls Try.prog 31 #[.slice (some ⟨b0, o, none⟩) N cap, .int .i64 i] w fun e w' => e = .returned (.tuple #[.agg (hc7 k c g m o' r s), .bool q]) ∧ Kp [] w w' := by
  have hcz : (w.alloc (.cells (hc7 0 0 false false 0 0 0) 40)).cell? ⟨b0, o + i, none⟩ = some (.int .u64 x) := by rw [World.cell?_alloc_past _ _ _ hb]; exact hc
  have hz : (w.alloc (.cells (hc7 0 0 false false 0 0 0) 40)).heap[w.heap.size]? = some (.cells (hc7 0 0 false false 0 0 0) 40 (0, 0)) := heap_alloc_new w _
  have K0 := Lib.hid ((Kp.refl [] w).alloc (.cells (hc7 0 0 false false 0 0 0) 40))
  have HZ := Lib.hid hz
  have hlz : w.heap.size < (w.alloc (.cells (hc7 0 0 false false 0 0 0) 40)).heap.size := by simp
  clear hc hz hb
  rcases (by cases n0 <;> simp : n0 = false ∨ n0 = true) with rfl | rfl
  rotate_left
  rcases (by cases k0 <;> simp : k0 = false ∨ k0 = true) with rfl | rfl
  all_goals
    simp only [Bool.true_and, Bool.false_and] at h3
    have HQ := Lib.hid h3
    clear h3
    go_enter Try.func31, Try.ntmps31
    go_upto_region 3 with (fail)
    generalize w.alloc (.cells (hc7 0 0 false false 0 0 0) 40) = w1 at *
    go_wp2_with fail
    refine (hT.out _).mono ?_; rintro e w2 ⟨rfl, hk2⟩
    have hz2 := hk2.row (by simp) HZ.out
    have K2 := Lib.hid (K0.out.trans hk2)
    clear hk2 HZ K0 hcz hlz hT
    have kA : Kp [] w2 (w2.alloc (.cells (hc7 k c g m o' r s) 40)) := (Kp.refl _ _).alloc _
    have zA := kA.row (by simp) hz2
    have hA : (w2.alloc (.cells (hc7 k c g m o' r s) 40)).heap[w2.heap.size]? = some (.cells (hc7 k c g m o' r s) 40 (0, 0)) := heap_alloc_new _ _
    have KA := Lib.hid (K2.out.trans kA)
    have hne : ¬ w.heap.size = w2.heap.size := by have := lt_of_block hz2; omega
    have hne2 : ¬ w2.heap.size = w.heap.size := fun e => hne e.symm
    go_upto_region 4 with (fail)
    generalize w2.alloc (.cells (hc7 k c g m o' r s) 40) = w3 at *
    have z0 := (cell_of_row zA 0).trans (show _ = some (.int .u8 0) from rfl)
    have z1 := (cell_of_row zA 1).trans (show _ = some (.int .u8 0) from rfl)
    have z2 := (cell_of_row zA 2).trans (show _ = some (.bool false) from rfl)
    have z3 := (cell_of_row zA 3).trans (show _ = some (.bool false) from rfl)
    have z4 := (cell_of_row zA 4).trans (show _ = some (.int .u8 0) from rfl)
    have z5 := (cell_of_row zA 5).trans (show _ = some (.int .u8 0) from rfl)
    have z6 := (cell_of_row zA 6).trans (show _ = some (.int .u8 0) from rfl)
    have d0 := (cell_of_row hA 0).trans (show _ = some (.int .u8 k) from rfl)
    have d1 := (cell_of_row hA 1).trans (show _ = some (.int .u8 c) from rfl)
    have d2 := (cell_of_row hA 2).trans (show _ = some (.bool g) from rfl)
    have d3 := (cell_of_row hA 3).trans (show _ = some (.bool m) from rfl)
    have d4 := (cell_of_row hA 4).trans (show _ = some (.int .u8 o') from rfl)
    have d5 := (cell_of_row hA 5).trans (show _ = some (.int .u8 r) from rfl)
    have d6 := (cell_of_row hA 6).trans (show _ = some (.int .u8 s) from rfl)
    have fz := free_of_row zA
    have ZA := Lib.hid zA
    clear zA hA kA hz2 K2
    go_cut [5] from 25 to 32 (fun v5 wd => v5 = .bool q ∧ Hid (Kp [w.heap.size] w3 wd ∧ wd.heap[w.heap.size]? = some (.cells (hc7 k c g m o' r s) 40 (0, 0))))
    case first =>
      go_region
      all_goals go_wp2_with fail
      all_goals go_meet
      all_goals
        have r1 := (put7_kp w3 w.heap.size k c g m o' r s).drew
        have r2 := put7_row k c g m o' r s ZA.out
        unfold put7 at r1 r2
        refine ⟨by rw [← HQ.out], Lib.hid ⟨r1, ?_⟩⟩
        rw [show ∀ W : World, W.drew.heap = W.heap from fun _ => rfl]
        exact r2
    case rest =>
      obtain ⟨rfl, HF⟩ := hcut
      go_wp2_with fail
      exact bodyPost_row_tmp rfl w.heap.size 40 (hc7 k c g m o' r s) (0, 0) _ _ rfl rfl rfl HF.out.2 Try.underlying40 rfl (by kernel_rfl)
        ⟨rfl, kp_new KA.out HF.out.1 (Nat.le_refl _)⟩

/-- Does a Local object lie at a place? -/
def lcl (ws : List Int) (k : Int) : Bool := decide (0 ≤ k ∧ k < ws.length) && locB (ws.getD k.toNat 0)

theorem local_out (w : World) (b0 o cap N : Nat) (i : Int) (hi : i < 0 ∨ (0 ≤ i ∧ (N : Int) ≤ i)) (hN : N ≤ 100000) :
    Calls Try.prog 31 #[.slice (some ⟨b0, o, none⟩) N cap, .int .i64 i] w fun e w' => e = .returned (.tuple #[.agg (hc7 0 0 false false 0 0 0), .bool false]) ∧ Kp [] w w' := by
  have hz : (w.alloc (.cells (hc7 0 0 false false 0 0 0) 40)).heap[w.heap.size]? = some (.cells (hc7 0 0 false false 0 0 0) 40 (0, 0)) := heap_alloc_new w _
  have K0 := Lib.hid ((Kp.refl [] w).alloc (.cells (hc7 0 0 false false 0 0 0) 40))
  have HZ := Lib.hid hz
  clear hz
  rcases hi with hi | ⟨h0, hi⟩
  all_goals
    go_enter Try.func31, Try.ntmps31
    go_upto_region 2 with (fail)
    go_wp2_with (refine wpList_store_row rfl 40 _ _ rfl w.heap.size _ rfl rfl 40 _ HZ.out (by kernel_rfl) rfl (by simp [Value.oneCell']) ?_)
    exact bodyPost_row_tmp rfl w.heap.size 40 _ (0, 0) _ _ rfl rfl rfl (setRow_heap _ _ _ _ _ _ HZ.out) Try.underlying40 rfl (by kernel_rfl)
      ⟨rfl, kp_new K0.out ((Kp.refl [w.heap.size] _).setRow (.inl (by simp)) _) (Nat.le_refl _)⟩

theorem local_any (w : World) (b0 o cap N : Nat) (ws : List Int) (i : Int) (hN : ws.length = N) (hN2 : N ≤ 100000) (hW : Wd w b0 o cap ws) (hok : ∀ j, 0 ≤ ws.getD j 0 ∧ ws.getD j 0 < 33554432) (q : Bool) (hq : lcl ws i = q) :
    Calls Try.prog 31 #[.slice (some ⟨b0, o, none⟩) N cap, .int .i64 i] w fun e w' => (∃ k c o' r s g m, e = .returned (.tuple #[.agg (hc7 k c g m o' r s), .bool q])) ∧ Kp [] w w' := by
  by_cases hi : 0 ≤ i ∧ i < N
  · obtain ⟨j, rfl⟩ : ∃ j : Nat, i = j := ⟨i.toNat, by omega⟩
    have hj : j < N := by omega
    have hc := hW.at_ j (by omega)
    have ho := hok j
    have hq' : locB (ws.getD j 0) = q := by rw [← hq]; simp [lcl, hN, hj]
    generalize ws.getD j 0 = x at hc ho hq'
    by_cases ht : takeB x = true
    · refine (local_core w b0 o cap N j x (x % 4) (x / 4 % 2) (x / 32 % 64) (x / 2048 % 128) (x / 262144 % 128) 0 (x / 8 % 2 == 1) (x / 16 % 2 == 1) q true (x % 4 == 2) hj hN2 hc hW.lt rfl rfl ?_ (Lib.hid fun w => (rtake_some x w ho.1 ht).mono fun e w' ⟨he, hb⟩ => ⟨he, kp_of_below hb⟩)).mono fun e w' ⟨he, hk⟩ => ⟨⟨_, _, _, _, _, _, _, he⟩, hk⟩
      rw [← hq', locB, ht, Bool.eq_iff_iff]
      simp
    · have ht' : takeB x = false := by simpa using ht
      refine (local_core w b0 o cap N j x 0 0 0 0 0 3 false false q false (0 == 2) hj hN2 hc hW.lt rfl rfl ?_ (Lib.hid fun w => (rtake_none x w ho.1 (by omega) ht').mono fun e w' ⟨he, hb⟩ => ⟨he, kp_of_below hb⟩)).mono fun e w' ⟨he, hk⟩ => ⟨⟨_, _, _, _, _, _, _, he⟩, hk⟩
      rw [← hq', locB, ht']
      rfl
  · have hq' : q = false := by rw [← hq, lcl, hN]; simp; omega
    subst hq'
    exact (local_out w b0 o cap N i (by omega) hN2).mono fun e w' ⟨he, hk⟩ => ⟨⟨_, _, _, _, _, _, _, he⟩, hk⟩

theorem Rw.mono {T : TypeId} {sz base base' n : Nat} {w : World} {v : Value} {xs : List Value} (h : Rw T sz base w v n xs) (hb : base' ≤ base) : Rw T sz base' w v n xs :=
  ⟨h.own.1, h.own.2.imp id fun ⟨g, cap, cur, h1, h2, h3⟩ => ⟨g, cap, cur, h1, Nat.le_trans hb h2, h3⟩⟩

/-- The document's Take: as take_ref. -/
theorem rtake_ref (x : Int) (h0 : 0 ≤ x) (h1 : x < 18446744073709551616) : ∃ k c o s n g m, (∀ w, Calls Try.prog 22 #[.int .u64 x] w fun e w' => e = .returned (.tuple #[.agg (hc7 k c g m o (nref x) s), .int .i64 n]) ∧ Kp [] w w') := by
  by_cases ht : takeB x = true
  · refine ⟨x % 4, x / 4 % 2, x / 32 % 64, x / 262144 % 128, 0, x / 8 % 2 == 1, x / 16 % 2 == 1, fun w => ?_⟩
    rw [nref, if_pos ht]
    exact (rtake_some x w h0 ht).mono fun e w' ⟨he, hb⟩ => ⟨he, kp_of_below hb⟩
  · refine ⟨0, 0, 0, 0, 3, false, false, fun w => ?_⟩
    rw [nref, if_neg ht]
    exact (rtake_none x w h0 h1 (by simpa using ht)).mono fun e w' ⟨he, hb⟩ => ⟨he, kp_of_below hb⟩

/-- An object's references. -/
def refP (ws : List Int) (i q : Nat) : Int := if i + 1 + q < ws.length then ws.getD (i + 1 + q) 0 else 0
def refsP (ws : List Int) (i n : Nat) : List Int := (List.range n).map (refP ws i)
theorem refsP_succ (ws : List Int) (i n : Nat) : refsP ws i (n + 1) = refsP ws i n ++ [refP ws i n] := by simp [refsP, List.range_succ]
theorem refsP_len (ws : List Int) (i n : Nat) : (refsP ws i n).length = n := by simp [refsP]

set_option maxHeartbeats 1000000 in
theorem refs_any (w : World) (b0 o cap N : Nat) (ws : List Int) (i : Nat) (hN : ws.length = N) (hN2 : N ≤ 100000) (hi : i < N) (hW : Wd w b0 o cap ws) (hok : ∀ j, 0 ≤ ws.getD j 0 ∧ ws.getD j 0 < 33554432) (M : Nat) (hM : (nref (ws.getD i 0)).toNat = M) :
    Calls Try.prog 32 #[.slice (some ⟨b0, o, none⟩) N cap, .int .i64 i] w fun e w' => ∃ ao c, e = .returned (.slice ao M c) ∧ Rw 30 1 w.heap.size w' (.slice ao M c) M (u64l (refsP ws i M)) ∧ Kp [] w w' := by
  have ho := hok i
  have hc := hW.at_ i (by omega)
  obtain ⟨k, c, o', s, n, g, m, hT⟩ := rtake_ref (ws.getD i 0) ho.1 (by omega)
  have hb := nref_bounds (ws.getD i 0)
  have hR : nref (ws.getD i 0) = M := by omega
  have hM2 : M ≤ 127 := by omega
  rw [hR] at hT
  generalize ws.getD i 0 = x at *
  have HT := Lib.hid hT
  have HW := Lib.hid hW
  have HOK := Lib.hid hok
  clear hT hW hok hM hb hR ho
  go_enter Try.func32, Try.ntmps32
  go_wp2_with fail
  refine (HT.out _).mono ?_; rintro e w1 ⟨rfl, hk⟩
  have K1 := Lib.hid (hk.alloc (.cells (hc7 k c g m o' M s) 40))
  have HB1 := Lib.hid (heap_alloc_new w1 (.cells (hc7 k c g m o' M s) 40))
  clear hk hc
  go_upto_region 3 with (fail)
  generalize hz1 : w1.heap.size = z1 at *
  generalize w1.alloc (.cells (hc7 k c g m o' M s) 40) = w2 at *
  clear hz1
  go_wp2_with fail
  go_loopg [5, 8] M (fun gg v5 v8 wr => ∃ q : Nat, ∃ ao c, q + gg = M ∧ v8 = .int .i64 q ∧ v5 = .slice ao q c ∧ Hid (Kp [] w2 wr ∧ Rw 30 1 w2.heap.size wr (.slice ao q c) q (u64l (refsP ws i q))))
  case atStart => exact ⟨0, none, 0, by omega, rfl, rfl, Lib.hid ⟨Kp.refl _ _, Rw.nil _ _ _ _⟩⟩
  case round =>
    obtain ⟨q, ao, cq, hq, rfl, rfl, HR⟩ := hrel
    have e5 := (cell_of_row (HR.out.1.row (by simp) HB1.out) 5).trans (show _ = some (.int .u8 (M : Int)) from rfl)
    by_cases hlt : q < M
    · have hs := refsP_succ ws i q
      by_cases hin : i + 1 + q < N
      · have cc := (HW.out.keep (K1.out.trans HR.out.1) (by simp)).at_ (i + 1 + q) (by omega)
        have hy1 : refP ws i q = ws.getD (i + 1 + q) 0 := by rw [refP, hN, if_pos hin]
        obtain ⟨y, hy⟩ : ∃ y, ws.getD (i + 1 + q) 0 = y := ⟨_, rfl⟩
        rw [hy] at cc hy1
        clear hy
        obtain ⟨ao8, cap8, w8, hrun8, hrw8, hk8⟩ := app_one (W0 := w2) HR.out.2 HR.out.1 rfl y (by omega)
        have HRun := Lib.hid hrun8
        have F8 : Hid (Kp [] w2 w8 ∧ Rw 30 1 w2.heap.size w8 (.slice ao8 (q + 1) cap8) (q + 1) (u64l (refsP ws i (q + 1)))) := Lib.hid ⟨hk8, by rw [hs, hy1]; simpa [u64l] using hrw8⟩
        clear hrun8 hrw8 hk8 hs hy1 HR
        go_wp2_with (at_builtin; refine wpList_append_eq rfl (.tmp 39) (.tmp 41) 23 rfl _ _ _ rfl rfl HRun.out ?_)
        go_roundg (M - (q + 1))
        exact ⟨q + 1, _, _, by omega, rfl, rfl, F8⟩
        omega
      · have hy1 : refP ws i q = 0 := by rw [refP, hN, if_neg hin]
        obtain ⟨ao8, cap8, w8, hrun8, hrw8, hk8⟩ := app_one (W0 := w2) HR.out.2 HR.out.1 rfl 0 (by omega)
        have HRun := Lib.hid hrun8
        have F8 : Hid (Kp [] w2 w8 ∧ Rw 30 1 w2.heap.size w8 (.slice ao8 (q + 1) cap8) (q + 1) (u64l (refsP ws i (q + 1)))) := Lib.hid ⟨hk8, by rw [hs, hy1]; simpa [u64l] using hrw8⟩
        clear hrun8 hrw8 hk8 hs hy1 HR
        go_wp2_with (at_builtin; refine wpList_append_eq rfl (.tmp 39) (.tmp 41) 23 rfl _ _ _ rfl rfl HRun.out ?_)
        go_roundg (M - (q + 1))
        exact ⟨q + 1, _, _, by omega, rfl, rfl, F8⟩
        omega
    · obtain rfl : q = M := by omega
      have F : Hid (Rw 30 1 w.heap.size wr (.slice ao q cq) q (u64l (refsP ws i q)) ∧ Kp [] w wr) := Lib.hid ⟨HR.out.2.mono K1.out.size, K1.out.trans HR.out.1⟩
      clear HR
      go_wp2_with fail
      go_ret
      exact ⟨ao, cq, rfl, F.out⟩

end Go.Proofs.Ytdnlddjgjceogaa
