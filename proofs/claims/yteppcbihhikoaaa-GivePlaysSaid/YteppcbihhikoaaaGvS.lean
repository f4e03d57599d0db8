/- The walks of the document's own blocks (demesneref14), on: Begin, Claim, Set. Conditions: as each theorem states them. -/
import Derived.Test.YteppcbihhikoaaaGvR
namespace Go.Proofs.Yteppcbihhikoaaa
set_option linter.unusedVariables false
set_option linter.unusedSimpArgs false
set_option maxRecDepth 100000
open Go.RowKit

section
variable {n : Nat} {g : Gv} {v : Value} {base : Nat} {w w' : World}

def put3 (w : World) (b : Nat) (x y z : Value) : World := ((w.setCell ⟨b, 0, none⟩ x).setCell ⟨b, 1, none⟩ y).setCell ⟨b, 2, none⟩ z
theorem put3_kp (w : World) (b : Nat) (x y z : Value) : Kp [b] w (put3 w b x y z) := (((Kp.refl [b] w).setCell (.inl (by simp)) _).setCell (.inl (by simp)) _).setCell (.inl (by simp)) _
theorem put3_row {w : World} {b : Nat} {x0 y0 z0 : Value} (x y z : Value) {T : TypeId} (h : w.heap[b]? = some (.cells #[x0, y0, z0] T (0, 0))) : (put3 w b x y z).heap[b]? = some (.cells #[x, y, z] T (0, 0)) := by
  unfold put3
  rw [heap_setCell_same _ _ _ _ _ _ (heap_setCell_same _ _ _ _ _ _ (heap_setCell_same _ _ _ _ _ _ h))]
  rfl
theorem kp_own {w w1 w2 : World} {b : Nat} (h : Kp [] w w1) (k : Kp [b] w1 w2) (hb : w.heap.size ≤ b) : Kp [] w w2 :=
  ⟨k.os.trans h.os, k.tape.trans h.tape, k.output.trans h.output, Nat.le_trans h.size k.size, fun i hi hn => (k.block i (Nat.lt_of_lt_of_le hi h.size) (by simp; omega)).trans (h.block i hi hn)⟩

set_option maxHeartbeats 1000000 in
theorem r_begin (w : World) (n : Nat) (h1 : 1 ≤ n) (h64 : n ≤ 64) (M : Nat) (hM : 2 ^ min n 64 - 1 = M) :
    Calls Try.prog 7 #[.int .i64 n] w fun e w' => ∃ v, e = .returned v ∧ Dv n ⟨M, List.replicate n 0⟩ v w.heap.size w' ∧ Kp [] w w' := by
  have hA := Lib.hid (fun w => Bm.rall_is n M w (by simpa using hM))
  have hmk := make_u64s n (by omega)
  clear hM
  have hb0 := heap_alloc_new w (Obj.cells #[.int .i64 0, .int .u64 0, .slice none 0 0] 33)
  have hb1 := heap_alloc2_old w (Obj.cells #[.int .i64 0, .int .u64 0, .slice none 0 0] 33) (Obj.cells (u64s (List.replicate n 0)) 30)
  have hb2 := heap_alloc_new (w.alloc (Obj.cells #[.int .i64 0, .int .u64 0, .slice none 0 0] 33)) (Obj.cells (u64s (List.replicate n 0)) 30)
  rw [World.size_alloc] at hb2
  have HB := Lib.hid (And.intro hb0 (And.intro hb1 hb2))
  clear hb0 hb1 hb2
  go_enter Try.func7, Try.ntmps7
  go_wp2
  go_region_with (first
    | (go_at_call 28; refine (hA.out _).mono ?_; rintro e w1 ⟨rfl, hk⟩
       try replace hk := hk.drew_l
       have B0 : w1.heap[w.heap.size]? = some (.cells #[.int .i64 0, .int .u64 0, .slice none 0 0] 33 (0, 0)) := (by first | exact hk.row (by simp) HB.out.1 | exact hk.row (by simp) HB.out.2.1)
       have K1 : Hid (Kp [] w w1) := Lib.hid (by first | exact ((Kp.refl [] w).alloc _).trans hk | exact (((Kp.refl [] w).alloc _).alloc _).trans hk)
       have c0 : w1.cell? ⟨w.heap.size, 0, none⟩ = some (.int .i64 0) := cell_of_row B0 0
       have c1 : w1.cell? ⟨w.heap.size, 1, none⟩ = some (.int .u64 0) := cell_of_row B0 1
       have c2 : w1.cell? ⟨w.heap.size, 2, none⟩ = some (.slice none 0 0) := cell_of_row B0 2
       have f0 := free_of_row B0 0
       have f1 := free_of_row B0 1
       have f2 := free_of_row B0 2
       have ka : Kp [] w1 (w1.alloc (.cells (u64s (List.replicate n 0)) 30)) := (Kp.refl _ _).alloc _
       have B1 := Lib.hid (ka.row (by simp) B0)
       have c3 : (w1.alloc (.cells (u64s (List.replicate n 0)) 30)).cell? ⟨w.heap.size, 0, none⟩ = some (.int .i64 0) := cell_of_row B1.out 0
       have c4 : (w1.alloc (.cells (u64s (List.replicate n 0)) 30)).cell? ⟨w.heap.size, 1, none⟩ = some (.int .u64 0) := cell_of_row B1.out 1
       have c5 : (w1.alloc (.cells (u64s (List.replicate n 0)) 30)).cell? ⟨w.heap.size, 2, none⟩ = some (.slice none 0 0) := cell_of_row B1.out 2
       have f3 := free_of_row B1.out 0
       have f4 := free_of_row B1.out 1
       have f5 := free_of_row B1.out 2
       have B0' := Lib.hid B0
       try have R7 := Lib.hid (hk.row (by simp) HB.out.2.2)
       clear hk ka B0))
  all_goals go_wp2_with fail
  · have z1 : w.heap.size + 1 ≤ w1.heap.size := lt_of_block B0'.out
    have hrow := (put3_kp (w1.alloc (.cells (u64s (List.replicate n 0)) 30)) w.heap.size (.int .i64 n) (.int .u64 M) (.slice (some ⟨w1.heap.size, 0, none⟩) n n)).row (by simp; omega) (heap_alloc_new w1 (.cells (u64s (List.replicate n 0)) 30))
    have hrw := rw_of_u64s hrow
    rw [List.length_replicate] at hrw
    exact bodyPost_row rfl w.heap.size 33 _ (0, 0) _ rfl rfl (put3_row _ _ _ B1.out) Try.underlying33 rfl (by kernel_rfl)
      ⟨_, rfl, ⟨⟨_, _, rfl, hrw, by omega⟩, by simp, ⟨h1, h64⟩⟩, kp_own (K1.out.alloc _) (put3_kp _ _ _ _ _) (Nat.le_refl _)⟩
  · have hrow := (put3_kp w1 w.heap.size (.int .i64 n) (.int .u64 M) (.slice (some ⟨w.heap.size + 1, 0, none⟩) n n)).row (by simp) R7.out
    have hrw := rw_of_u64s hrow
    rw [List.length_replicate] at hrw
    exact bodyPost_row rfl w.heap.size 33 _ (0, 0) _ rfl rfl (put3_row _ _ _ B0'.out) Try.underlying33 rfl (by kernel_rfl)
      ⟨_, rfl, ⟨⟨_, _, rfl, hrw, by omega⟩, by simp, ⟨h1, h64⟩⟩, kp_own K1.out (put3_kp _ _ _ _ _) (Nat.le_refl _)⟩

/-- What Claim answers. -/
theorem r_claim_no (D : Dv n g v base w) (r' : Int) (hM : g.M < 18446744073709551616) (hno : NoneRun g.M r') :
    Calls Try.prog 10 #[v, .int .i64 r'] w fun e w' => ∃ v', e = .returned (.tuple #[v', .int .i64 (-1)]) ∧ Dv n g v' base w' ∧ Kp [] w w' := by
  obtain ⟨q, cap, rfl, hr, hq⟩ := D.ex
  have hf := Lib.hid (fun w => Bm.rfind_is g.M r' (-1) w hM (fun k hk _ => by rw [hno k] at hk; simp at hk) (fun _ => rfl))
  have HD := Lib.hid D
  have hb1 := heap_alloc2_old w (Obj.cells #[.int .i64 n, .int .u64 g.M, .slice (some ⟨q, 0, none⟩) n cap] 33) (Obj.cells #[.int .i64 0, .int .u64 0, .slice none 0 0] 33)
  have hb2 := heap_alloc_new (w.alloc (Obj.cells #[.int .i64 n, .int .u64 g.M, .slice (some ⟨q, 0, none⟩) n cap] 33)) (Obj.cells #[.int .i64 0, .int .u64 0, .slice none 0 0] 33)
  rw [World.size_alloc] at hb2
  have HB := Lib.hid (And.intro hb1 hb2)
  have K0 := Lib.hid (((Kp.refl [] w).alloc (Obj.cells #[.int .i64 n, .int .u64 g.M, .slice (some ⟨q, 0, none⟩) n cap] 33)).alloc (Obj.cells #[.int .i64 0, .int .u64 0, .slice none 0 0] 33))
  clear hb1 hb2 hr D hno
  unfold sv
  go_enter Try.func10, Try.ntmps10
  go_wp2_with fail
  refine (hf.out _).mono ?_
  rintro e w1 ⟨rfl, hk⟩
  have B1 := hk.row (by simp) HB.out.1
  have B2 := Lib.hid (hk.row (by simp) HB.out.2)
  have K1 := Lib.hid (K0.out.trans hk)
  have c0 : w1.cell? ⟨w.heap.size, 0, none⟩ = some (.int .i64 n) := cell_of_row B1 0
  have c1 : w1.cell? ⟨w.heap.size, 1, none⟩ = some (.int .u64 g.M) := cell_of_row B1 1
  have c2 : w1.cell? ⟨w.heap.size, 2, none⟩ = some (.slice (some ⟨q, 0, none⟩) n cap) := cell_of_row B1 2
  clear hk B1
  go_wp2_with (refine wpList_store_row rfl 33 _ _ rfl (w.heap.size + 1) _ rfl rfl 33 _ B2.out (by kernel_rfl) rfl (by simp [Value.oneCell']) ?_)
  have k2 : Kp [] w (w1.setRow (w.heap.size + 1) #[.int .i64 n, .int .u64 g.M, .slice (some ⟨q, 0, none⟩) n cap]) := K1.out.setRow (.inr (by omega)) _
  exact bodyPost_row_tmp rfl (w.heap.size + 1) 33 _ (0, 0) _ (.int .i64 (-1)) rfl rfl rfl (setRow_heap _ _ _ _ _ _ B2.out) Try.underlying33 rfl (by kernel_rfl)
      ⟨_, rfl, HD.out.on k2, k2⟩

set_option maxHeartbeats 1000000 in
theorem r_claim_yes (D : Dv n g v base w) (r' : Nat) (k : Nat) (hM : g.M < 18446744073709551616) (hf : FirstRun g.M r' k) :
    Calls Try.prog 10 #[v, .int .i64 r'] w fun e w' => ∃ v', e = .returned (.tuple #[v', .int .i64 k]) ∧ Dv n ⟨Bm.setN g.M k r' false, g.E⟩ v' base w' ∧ Kp [] w w' := by
  obtain ⟨q, cap, rfl, hr, hq⟩ := D.ex
  have hkr := hf.1
  simp only [Bm.isR, Bool.and_eq_true, decide_eq_true_eq] at hkr
  have hfi := Lib.hid (fun w => Bm.rfind_is g.M r' k w hM (fun j hj hj2 => by
    rcases Nat.lt_trichotomy j k with hl | hl | hl
    · rw [hf.2 j hl] at hj; simp at hj
    · rw [hl]
    · have h2 := hj2 k hl; rw [hf.1] at h2; simp at h2) (fun hno => by have := hno k (by omega); rw [hf.1] at this; simp at this))
  have hwi := Lib.hid (fun w => Bm.rwith_is g.M k r' (Bm.setN g.M k r' false) false w hM (by omega) (by omega) (by omega) rfl)
  have HD : Hid (Dv n ⟨Bm.setN g.M k r' false, g.E⟩ (.agg #[.int .i64 n, .int .u64 (Bm.setN g.M k r' false), .slice (some ⟨q, 0, none⟩) n cap]) base w) := Lib.hid ⟨⟨q, cap, rfl, hr, hq⟩, D.len, D.hn⟩
  have hb1 := heap_alloc2_old w (Obj.cells #[.int .i64 n, .int .u64 g.M, .slice (some ⟨q, 0, none⟩) n cap] 33) (Obj.cells #[.int .i64 0, .int .u64 0, .slice none 0 0] 33)
  have hb2 := heap_alloc_new (w.alloc (Obj.cells #[.int .i64 n, .int .u64 g.M, .slice (some ⟨q, 0, none⟩) n cap] 33)) (Obj.cells #[.int .i64 0, .int .u64 0, .slice none 0 0] 33)
  rw [World.size_alloc] at hb2
  have HB := Lib.hid (And.intro hb1 hb2)
  have K0 := Lib.hid (((Kp.refl [] w).alloc (Obj.cells #[.int .i64 n, .int .u64 g.M, .slice (some ⟨q, 0, none⟩) n cap] 33)).alloc (Obj.cells #[.int .i64 0, .int .u64 0, .slice none 0 0] 33))
  have hk0 : ¬ ((k : Int) < 0) := by omega
  clear hb1 hb2 hr D hf hkr
  generalize Bm.setN g.M k r' false = M' at hwi HD ⊢
  unfold sv
  go_enter Try.func10, Try.ntmps10
  go_wp2_with fail
  refine (hfi.out _).mono ?_
  rintro e w1 ⟨rfl, hk⟩
  have B1 := hk.row (by simp) HB.out.1
  have HB1 := Lib.hid (And.intro B1 (hk.row (by simp) HB.out.2))
  have K1 := Lib.hid (K0.out.trans hk)
  have c1 : w1.cell? ⟨w.heap.size, 1, none⟩ = some (.int .u64 g.M) := cell_of_row B1 1
  clear hk B1
  go_wp2_with fail
  refine (hwi.out _).mono ?_
  rintro e w2 ⟨rfl, hk⟩
  have B1 := hk.row (by simp) HB1.out.1
  have c0 : w2.cell? ⟨w.heap.size, 0, none⟩ = some (.int .i64 n) := cell_of_row B1 0
  have c1 : w2.cell? ⟨w.heap.size, 1, none⟩ = some (.int .u64 g.M) := cell_of_row B1 1
  have c2 : w2.cell? ⟨w.heap.size, 2, none⟩ = some (.slice (some ⟨q, 0, none⟩) n cap) := cell_of_row B1 2
  have f1 := free_of_row B1 1
  have B2 : Hid ((w2.setCell ⟨w.heap.size, 1, none⟩ (.int .u64 M')).heap[w.heap.size + 1]? = some (.cells #[.int .i64 0, .int .u64 0, .slice none 0 0] 33 (0, 0))) :=
    Lib.hid (by rw [heap_setCell_other _ _ _ _ (by show w.heap.size + 1 ≠ w.heap.size; omega)]; exact hk.row (by simp) HB1.out.2)
  have K2 : Hid (Kp [] w (w2.setCell ⟨w.heap.size, 1, none⟩ (.int .u64 M'))) := Lib.hid ((K1.out.trans hk).setCell (.inr (Nat.le_refl _)) _)
  clear hk B1
  go_wp2_with (refine wpList_store_row rfl 33 _ _ rfl (w.heap.size + 1) _ rfl rfl 33 _ B2.out (by kernel_rfl) rfl (by simp [Value.oneCell']) ?_)
  have k2 := K2.out.setRow (g := w.heap.size + 1) (.inr (by omega)) #[.int .i64 n, .int .u64 M', .slice (some ⟨q, 0, none⟩) n cap]
  exact bodyPost_row_tmp rfl (w.heap.size + 1) 33 _ (0, 0) _ (.int .i64 k) rfl rfl rfl (setRow_heap _ _ _ _ _ _ B2.out) Try.underlying33 rfl (by kernel_rfl)
      ⟨_, rfl, HD.out.on k2, k2⟩
end
end Go.Proofs.Yteppcbihhikoaaa
