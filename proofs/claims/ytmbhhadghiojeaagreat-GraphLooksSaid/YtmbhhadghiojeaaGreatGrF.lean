/- Layer 10's acts, one by one, over what they call: Alloc. Conditions: as each theorem states them. -/
import Derived.Test.YtmbhhadghiojeaaGreatGrS
import Derived.IntWalk
namespace Go.Proofs.YtmbhhadghiojeaaGreat
set_option linter.unusedVariables false
set_option linter.unusedSimpArgs false
open Go.RowKit

set_option maxRecDepth 100000 in
theorem ac_alloc_th (w : World) (bg bt bd br bz bn : Nat) (gv : Option Addr) (t d r z x : Int) (hg : w.cell? ⟨bg, 0, none⟩ = some (.pointer gv)) (ht : w.cell? ⟨bt, 0, none⟩ = some (.int .i64 t)) (hd : w.cell? ⟨bd, 0, none⟩ = some (.int .i64 d)) (hr : w.cell? ⟨br, 0, none⟩ = some (.int .i64 r)) (hz : w.cell? ⟨bz, 0, none⟩ = some (.int .i64 z)) (hth : ThNo w gv t [d] x) :
    Calls Tryz.prog 56 #[.pointer (some ⟨bg, 0, none⟩), .pointer (some ⟨bt, 0, none⟩), .pointer (some ⟨bd, 0, none⟩), .pointer (some ⟨br, 0, none⟩), .pointer (some ⟨bz, 0, none⟩), .pointer (some ⟨bn, 0, none⟩)] w (Threw w x) := by
  have ka : Kp [] w (w.alloc (.cells #[.int .i64 d] 3)) := (Kp.refl _ _).alloc _
  have h1 := hth _ _ ka (rd_new w [d])
  have KA := Lib.hid ka
  clear hth ka
  simp only [List.length_cons, List.length_nil] at h1
  go_enter Tryz.func56, Tryz.ntmps56
  go_wp2_with fail
  refine h1.mono ?_
  rintro e w1 ⟨rfl, rfl⟩
  exact ⟨rfl, rfl, KA.out⟩

set_option maxRecDepth 100000 in
theorem ac_alloc_need (w : World) (bg bt bd br bz bn : Nat) (p q : Nat) (t d r z : Int) (hg : w.cell? ⟨bg, 0, none⟩ = some (.pointer (some ⟨p, 0, none⟩))) (ht : w.cell? ⟨bt, 0, none⟩ = some (.int .i64 t)) (hd : w.cell? ⟨bd, 0, none⟩ = some (.int .i64 d)) (hr : w.cell? ⟨br, 0, none⟩ = some (.int .i64 r)) (hz : w.cell? ⟨bz, 0, none⟩ = some (.int .i64 z)) (hth : ThIs w p t [d] q) (hb : r < 0 ∨ z < r ∨ 95 < z) :
    Calls Tryz.prog 56 #[.pointer (some ⟨bg, 0, none⟩), .pointer (some ⟨bt, 0, none⟩), .pointer (some ⟨bd, 0, none⟩), .pointer (some ⟨br, 0, none⟩), .pointer (some ⟨bz, 0, none⟩), .pointer (some ⟨bn, 0, none⟩)] w (Threw w 2) := by
  by_cases i0 : 0 ≤ r
  · by_cases i1 : r ≤ z
    · have i2 : decide (z ≤ 95) = false := by simp; omega
      clear hb
      have ka : Kp [] w (w.alloc (.cells #[.int .i64 d] 3)) := (Kp.refl _ _).alloc _
      have h1 := hth _ _ ka (rd_new w [d])
      have CC := Lib.hid (show Kp [] w (w.alloc (.cells #[.int .i64 d] 3)) ∧ (w.alloc (.cells #[.int .i64 d] 3)).cell? ⟨bg, 0, none⟩ = some (.pointer (some ⟨p, 0, none⟩)) ∧ (w.alloc (.cells #[.int .i64 d] 3)).cell? ⟨bd, 0, none⟩ = some (.int .i64 d) ∧ (w.alloc (.cells #[.int .i64 d] 3)).cell? ⟨br, 0, none⟩ = some (.int .i64 r) ∧ (w.alloc (.cells #[.int .i64 d] 3)).cell? ⟨bz, 0, none⟩ = some (.int .i64 z) from ⟨ka, ka.cell (by simp) hg, ka.cell (by simp) hd, ka.cell (by simp) hr, ka.cell (by simp) hz⟩)
      clear hth ka 
      simp only [List.length_cons, List.length_nil] at h1
      go_enter Tryz.func56, Tryz.ntmps56
      go_wp2_with fail
      refine h1.mono ?_
      rintro e w1 ⟨rfl, rfl⟩
      clear h1 hg ht hd hr hz
      obtain ⟨hk0, hg, hd, hr, hz⟩ := CC.out
      clear CC
      generalize (w.alloc (.cells #[.int .i64 d] 3)) = wa at *
      have K0 := Lib.hid hk0
      clear hk0
      have hn := need_no wa 2
      go_wp2_with ((with_reducible refine hn.mono ?_); rintro e w2 ⟨rfl, rfl⟩)
      exact ⟨rfl, rfl, K0.out⟩
    · have i2 : decide (r ≤ z) = false := by simp; omega
      clear hb
      have ka : Kp [] w (w.alloc (.cells #[.int .i64 d] 3)) := (Kp.refl _ _).alloc _
      have h1 := hth _ _ ka (rd_new w [d])
      have CC := Lib.hid (show Kp [] w (w.alloc (.cells #[.int .i64 d] 3)) ∧ (w.alloc (.cells #[.int .i64 d] 3)).cell? ⟨bg, 0, none⟩ = some (.pointer (some ⟨p, 0, none⟩)) ∧ (w.alloc (.cells #[.int .i64 d] 3)).cell? ⟨bd, 0, none⟩ = some (.int .i64 d) ∧ (w.alloc (.cells #[.int .i64 d] 3)).cell? ⟨br, 0, none⟩ = some (.int .i64 r) ∧ (w.alloc (.cells #[.int .i64 d] 3)).cell? ⟨bz, 0, none⟩ = some (.int .i64 z) from ⟨ka, ka.cell (by simp) hg, ka.cell (by simp) hd, ka.cell (by simp) hr, ka.cell (by simp) hz⟩)
      clear hth ka 
      simp only [List.length_cons, List.length_nil] at h1
      go_enter Tryz.func56, Tryz.ntmps56
      go_wp2_with fail
      refine h1.mono ?_
      rintro e w1 ⟨rfl, rfl⟩
      clear h1 hg ht hd hr hz
      obtain ⟨hk0, hg, hd, hr, hz⟩ := CC.out
      clear CC
      generalize (w.alloc (.cells #[.int .i64 d] 3)) = wa at *
      have K0 := Lib.hid hk0
      clear hk0
      have hn := need_no wa 2
      go_wp2_with ((with_reducible refine hn.mono ?_); rintro e w2 ⟨rfl, rfl⟩)
      exact ⟨rfl, rfl, K0.out⟩
  · have i2 : decide (0 ≤ r) = false := by simp; omega
    clear hb
    have ka : Kp [] w (w.alloc (.cells #[.int .i64 d] 3)) := (Kp.refl _ _).alloc _
    have h1 := hth _ _ ka (rd_new w [d])
    have CC := Lib.hid (show Kp [] w (w.alloc (.cells #[.int .i64 d] 3)) ∧ (w.alloc (.cells #[.int .i64 d] 3)).cell? ⟨bg, 0, none⟩ = some (.pointer (some ⟨p, 0, none⟩)) ∧ (w.alloc (.cells #[.int .i64 d] 3)).cell? ⟨bd, 0, none⟩ = some (.int .i64 d) ∧ (w.alloc (.cells #[.int .i64 d] 3)).cell? ⟨br, 0, none⟩ = some (.int .i64 r) ∧ (w.alloc (.cells #[.int .i64 d] 3)).cell? ⟨bz, 0, none⟩ = some (.int .i64 z) from ⟨ka, ka.cell (by simp) hg, ka.cell (by simp) hd, ka.cell (by simp) hr, ka.cell (by simp) hz⟩)
    clear hth ka 
    simp only [List.length_cons, List.length_nil] at h1
    go_enter Tryz.func56, Tryz.ntmps56
    go_wp2_with fail
    refine h1.mono ?_
    rintro e w1 ⟨rfl, rfl⟩
    clear h1 hg ht hd hr hz
    obtain ⟨hk0, hg, hd, hr, hz⟩ := CC.out
    clear CC
    generalize (w.alloc (.cells #[.int .i64 d] 3)) = wa at *
    have K0 := Lib.hid hk0
    clear hk0
    have hn := need_no wa 2
    go_wp2_with ((with_reducible refine hn.mono ?_); rintro e w2 ⟨rfl, rfl⟩)
    exact ⟨rfl, rfl, K0.out⟩


theorem grew_RD (w wa : World) (B m r f : Nat) (fn : Nat → Value) (K0 : Kp [] w wa) (hM : Mo w B m fn) (hm : m ≤ 10000) :
    ∃ w5, (Instr.mapUpdate 51 (.map (some B)) (.int .i64 ((m : Int) + 1)) (.agg #[.slice (some ⟨wa.heap.size, 0, none⟩) r r, .slice (some ⟨(wa.heap.size + 1), 0, none⟩) f f])).run Tryz.prog ((wa.alloc (.cells (ints (List.replicate r 0)).toArray 3)).alloc (.cells (u64s (List.replicate f 0)) 31)).drew = .ok () w5 ∧
      Grew w B m r f fn w5 ∧ Kp [B] ((wa.alloc (.cells (ints (List.replicate r 0)).toArray 3)).alloc (.cells (u64s (List.replicate f 0)) 31)).drew w5 := by
  have k2 : Kp [] wa ((wa.alloc (.cells (ints (List.replicate r 0)).toArray 3)).alloc (.cells (u64s (List.replicate f 0)) 31)).drew := ((Kp.refl [] wa).alloc _).alloc _ |>.drew
  obtain ⟨w5, hrun, hM5, hk5⟩ := Mo.put (hM.keep (K0.trans k2) (by simp)) hm (.agg #[.slice (some ⟨wa.heap.size, 0, none⟩) r r, .slice (some ⟨(wa.heap.size + 1), 0, none⟩) f f])
  have h1 : (((wa.alloc (.cells (ints (List.replicate r 0)).toArray 3)).alloc (.cells (u64s (List.replicate f 0)) 31)).drew).heap[wa.heap.size]? = some (.cells (ints (List.replicate r 0)).toArray 3) := (Below.heap_alloc _ _ _ (by simp)).trans (heap_alloc_new wa _)
  have h2 : (((wa.alloc (.cells (ints (List.replicate r 0)).toArray 3)).alloc (.cells (u64s (List.replicate f 0)) 31)).drew).heap[wa.heap.size + 1]? = some (.cells (u64s (List.replicate f 0)) 31) := by
    have := heap_alloc_new (wa.alloc (.cells (ints (List.replicate r 0)).toArray 3)) (.cells (u64s (List.replicate f 0)) 31)
    rw [World.size_alloc] at this
    exact this
  have hMV := hM.keep (K0.trans k2) (S := []) (by simp)
  refine ⟨w5, hrun, ⟨wa.heap.size, (wa.heap.size + 1), by have := K0.size; omega, by have := K0.size; omega, ro_ints (hk5.row (by simpa using (hMV.ne h1).symm) h1), ro_u64s (hk5.row (by simpa using (hMV.ne h2).symm) h2), hM5, kp_then (K0.trans k2) hk5⟩, hk5⟩


theorem grew_DR (w wa : World) (B m r f : Nat) (fn : Nat → Value) (K0 : Kp [] w wa) (hM : Mo w B m fn) (hm : m ≤ 10000) :
    ∃ w5, (Instr.mapUpdate 51 (.map (some B)) (.int .i64 ((m : Int) + 1)) (.agg #[.slice (some ⟨(wa.heap.size + 1), 0, none⟩) r r, .slice (some ⟨wa.heap.size, 0, none⟩) f f])).run Tryz.prog ((wa.alloc (.cells (u64s (List.replicate f 0)) 31)).alloc (.cells (ints (List.replicate r 0)).toArray 3)).drew = .ok () w5 ∧
      Grew w B m r f fn w5 ∧ Kp [B] ((wa.alloc (.cells (u64s (List.replicate f 0)) 31)).alloc (.cells (ints (List.replicate r 0)).toArray 3)).drew w5 := by
  have k2 : Kp [] wa ((wa.alloc (.cells (u64s (List.replicate f 0)) 31)).alloc (.cells (ints (List.replicate r 0)).toArray 3)).drew := ((Kp.refl [] wa).alloc _).alloc _ |>.drew
  obtain ⟨w5, hrun, hM5, hk5⟩ := Mo.put (hM.keep (K0.trans k2) (by simp)) hm (.agg #[.slice (some ⟨(wa.heap.size + 1), 0, none⟩) r r, .slice (some ⟨wa.heap.size, 0, none⟩) f f])
  have h1 : (((wa.alloc (.cells (u64s (List.replicate f 0)) 31)).alloc (.cells (ints (List.replicate r 0)).toArray 3)).drew).heap[wa.heap.size]? = some (.cells (u64s (List.replicate f 0)) 31) := (Below.heap_alloc _ _ _ (by simp)).trans (heap_alloc_new wa _)
  have h2 : (((wa.alloc (.cells (u64s (List.replicate f 0)) 31)).alloc (.cells (ints (List.replicate r 0)).toArray 3)).drew).heap[wa.heap.size + 1]? = some (.cells (ints (List.replicate r 0)).toArray 3) := by
    have := heap_alloc_new (wa.alloc (.cells (u64s (List.replicate f 0)) 31)) (.cells (ints (List.replicate r 0)).toArray 3)
    rw [World.size_alloc] at this
    exact this
  have hMV := hM.keep (K0.trans k2) (S := []) (by simp)
  refine ⟨w5, hrun, ⟨(wa.heap.size + 1), wa.heap.size, by have := K0.size; omega, by have := K0.size; omega, ro_ints (hk5.row (by simpa using (hMV.ne h2).symm) h2), ro_u64s (hk5.row (by simpa using (hMV.ne h1).symm) h1), hM5, kp_then (K0.trans k2) hk5⟩, hk5⟩

theorem Kp.drew_both {S : List Nat} {a b : World} (h : Kp S a b) : Kp S a.drew b.drew := ⟨h.os, h.tape, h.output, h.size, h.block⟩

/-- What Alloc has made. -/
def AlMade (w : World) (B m r f : Nat) (fn : Nat → Value) (q bn : Nat) (Q : World → World → Prop) (e : Ending) (w' : World) : Prop :=
  e = .returned (.tuple #[]) ∧ ∃ w1 w2, Grew w B m r f fn w1 ∧ Q w1 w2 ∧ Kp [q] w1 w2 ∧ w' = w2.setCell ⟨bn, 0, none⟩ (.int .i64 ((m : Int) + 1))

set_option maxRecDepth 100000 in
theorem ac_alloc_ok (w : World) (bg bt bd br bz bn : Nat) (p q r f B m : Nat) (t d z : Int) (hg : w.cell? ⟨bg, 0, none⟩ = some (.pointer (some ⟨p, 0, none⟩))) (ht : w.cell? ⟨bt, 0, none⟩ = some (.int .i64 t)) (hd : w.cell? ⟨bd, 0, none⟩ = some (.int .i64 d)) (hr : w.cell? ⟨br, 0, none⟩ = some (.int .i64 r)) (hz : w.cell? ⟨bz, 0, none⟩ = some (.int .i64 z)) (hth : ThIs w p t [d] q) (hP : w.cell? ⟨p, 2, none⟩ = some (.map (some B))) (fn : Nat → Value) (hM : Mo w B m fn) (hm : m ≤ 10000) (hz1 : z = (r : Int) + f ∧ z ≤ 95) (Q : World → World → Prop) (hset : ∀ w1, Grew w B m r f fn w1 → Calls Tryz.prog 58 #[.pointer (some ⟨q, 0, none⟩), .int .i64 d, .int .i64 ((m : Int) + 1)] w1 fun e w' => e = .returned (.int .i64 0) ∧ Q w1 w' ∧ Kp [q] w1 w') (y : Int) (hbn : w.heap[bn]? = some (.cells #[.int .i64 y] 3 (0, 0)) ∧ bn ≠ q ∧ bn ≠ B) (hne : bg ≠ B ∧ br ≠ B ∧ bz ≠ B ∧ bd ≠ B ∧ p ≠ B) :
    Calls Tryz.prog 56 #[.pointer (some ⟨bg, 0, none⟩), .pointer (some ⟨bt, 0, none⟩), .pointer (some ⟨bd, 0, none⟩), .pointer (some ⟨br, 0, none⟩), .pointer (some ⟨bz, 0, none⟩), .pointer (some ⟨bn, 0, none⟩)] w (AlMade w B m r f fn q bn Q) := by
  have hsum : 0 ≤ z ∧ (r : Int) ≤ z ∧ z ≤ 95 := by omega
  have hrz : r ≤ 95 ∧ f ≤ 95 := by omega
  obtain ⟨hz0, hrle, hz95⟩ := hsum
  obtain ⟨hr95, hf95⟩ := hrz
  have HZ := Lib.hid hz1
  have HN := Lib.hid hne
  have HB := Lib.hid hbn
  have HD := Lib.hid hd
  clear hz1 hne hbn
  have ka : Kp [] w (w.alloc (.cells #[.int .i64 d] 3)) := (Kp.refl _ _).alloc _
  have h1 := hth _ _ ka (rd_new w [d])
  have HP := Lib.hid hP
  have HM := Lib.hid hM
  have HS := Lib.hid hset
  have CC := Lib.hid (show Kp [] w (w.alloc (.cells #[.int .i64 d] 3)) ∧ (w.alloc (.cells #[.int .i64 d] 3)).cell? ⟨bg, 0, none⟩ = some (.pointer (some ⟨p, 0, none⟩)) ∧ (w.alloc (.cells #[.int .i64 d] 3)).cell? ⟨bd, 0, none⟩ = some (.int .i64 d) ∧ (w.alloc (.cells #[.int .i64 d] 3)).cell? ⟨br, 0, none⟩ = some (.int .i64 r) ∧ (w.alloc (.cells #[.int .i64 d] 3)).cell? ⟨bz, 0, none⟩ = some (.int .i64 z) from ⟨ka, ka.cell (by simp) hg, ka.cell (by simp) hd, ka.cell (by simp) hr, ka.cell (by simp) hz⟩)
  clear hth ka hP hM hset
  simp only [List.length_cons, List.length_nil] at h1
  go_enter Tryz.func56, Tryz.ntmps56
  go_wp2_with fail
  refine h1.mono ?_
  rintro e w1 ⟨rfl, rfl⟩
  clear h1 hg ht hd hr hz
  obtain ⟨hk0, hg, hd, hr, hz⟩ := CC.out
  clear CC
  generalize (w.alloc (.cells #[.int .i64 d] 3)) = wa at *
  have K0 := Lib.hid hk0
  clear hk0
  have hn := need_ok wa 2
  have hP := K0.out.cell (by simp) HP.out
  have hle := (HM.out.keep K0.out (by simp)).len 3
  go_wp2_with ((with_reducible refine hn.mono ?_); rintro e w2 ⟨rfl, rfl⟩)
  clear hle hn
  have hsub : IntKind.i64.wrap (z - (r : Int)) = (f : Int) := by
    have := HZ.out
    rw [IntWalk.i64_in (z - (r : Int)) (by omega)]
    omega
  have K1 := Lib.hid (K0.out.trans (kp_drewN _ 1))
  clear hd K0
  have K0 := K1
  clear K1
  go_wp2_with fail
  refine wp_region_held_drew (S := (fun w' => w'.cell? ⟨bg, 0, none⟩ = some (.pointer (some ⟨p, 0, none⟩)) ∧ w'.cell? ⟨br, 0, none⟩ = some (.int .i64 r) ∧ w'.cell? ⟨bz, 0, none⟩ = some (.int .i64 z) ∧ w'.cell? ⟨p, 2, none⟩ = some (.map (some B)))) (by kernel_rfl) ?_ (fun hHeld => ?_)
  · exact ⟨(kp_drewN (S := []) _ 1).cell (by simp) hg, (kp_drewN (S := []) _ 1).cell (by simp) hr, (kp_drewN (S := []) _ 1).cell (by simp) hz, (kp_drewN (S := []) _ 1).cell (by simp) hP⟩
  clear hg hr hz hP
  refine wpAnyH_take (i := 0) (v := ?_) rfl (by kernel_rfl) (by kernel_rfl) (by kernel_rfl) (fun _ _ _ h => h) (Or.inl ⟨by rfl, ?hy⟩) (by assumption) ?_
  case hy => (intro w hSw; (try dsimp only at hSw); go_simp; try with_reducible rfl)
  try simp only [Act.put, List.setIfInBounds_toArray, List.set_cons_zero, List.set_cons_succ]
  refine wpAnyH_take (i := 1) (v := ?_) rfl (by kernel_rfl) (by kernel_rfl) (by kernel_rfl) (fun _ _ _ h => h) (Or.inl ⟨by rfl, ?hy⟩) (by assumption) ?_
  case hy => (intro w hSw; (try dsimp only at hSw); go_simp; try with_reducible rfl)
  try simp only [Act.put, List.setIfInBounds_toArray, List.set_cons_zero, List.set_cons_succ]
  refine wpAnyH_take (i := 2) (v := ?_) rfl (by kernel_rfl) (by kernel_rfl) (by kernel_rfl) (fun _ _ _ h => h) (Or.inl ⟨by rfl, ?hy⟩) (by assumption) ?_
  case hy => (intro w hSw; (try dsimp only at hSw); go_simp; try with_reducible rfl)
  try simp only [Act.put, List.setIfInBounds_toArray, List.set_cons_zero, List.set_cons_succ]
  refine wpAnyH_take (i := 3) (v := ?_) rfl (by kernel_rfl) (by kernel_rfl) (by kernel_rfl) (fun _ _ _ h => h) (Or.inl ⟨by rfl, ?hy⟩) (by assumption) ?_
  case hy => (intro w hSw; (try dsimp only at hSw); go_simp; try with_reducible rfl)
  try simp only [Act.put, List.setIfInBounds_toArray, List.set_cons_zero, List.set_cons_succ]
  refine wpAnyH_take (i := 4) (v := ?_) rfl (by kernel_rfl) (by kernel_rfl) (by kernel_rfl) (fun _ _ _ h => h) (Or.inl ⟨by rfl, ?hy⟩) (by assumption) ?_
  case hy => (intro w hSw; (try dsimp only at hSw); go_simp; try with_reducible rfl)
  try simp only [Act.put, List.setIfInBounds_toArray, List.set_cons_zero, List.set_cons_succ]
  refine wpAnyH_take (i := 5) (v := ?_) rfl (by kernel_rfl) (by kernel_rfl) (by kernel_rfl) (fun _ _ _ h => h) (Or.inl ⟨by rfl, ?hy⟩) (by assumption) ?_
  case hy => (intro w hSw; (try dsimp only at hSw); go_simp; try with_reducible rfl)
  try simp only [Act.put, List.setIfInBounds_toArray, List.set_cons_zero, List.set_cons_succ]
  refine wpAnyH_take (i := 7) (v := ?_) rfl (by kernel_rfl) (by kernel_rfl) (by kernel_rfl) (fun _ _ _ h => h) (Or.inl ⟨by rfl, ?hy⟩) (by assumption) ?_
  case hy => (intro w hSw; (try dsimp only at hSw); go_simp; try with_reducible rfl)
  try simp only [Act.put, List.setIfInBounds_toArray, List.set_cons_zero, List.set_cons_succ]
  refine wpAnyH_take (i := 8) (v := ?_) rfl (by kernel_rfl) (by kernel_rfl) (by kernel_rfl) (fun _ _ _ h => h) (Or.inl ⟨by rfl, ?hy⟩) (by assumption) ?_
  case hy => (intro w hSw; (try dsimp only at hSw); go_simp; try with_reducible rfl)
  try simp only [Act.put, List.setIfInBounds_toArray, List.set_cons_zero, List.set_cons_succ]
  refine wpAnyH_take (i := 9) (v := ?_) rfl (by kernel_rfl) (by kernel_rfl) (by kernel_rfl) (fun _ _ _ h => h) (Or.inl ⟨by rfl, ?hy⟩) (by assumption) ?_
  case hy => (intro w hSw; (try dsimp only at hSw); go_simp; try with_reducible rfl)
  try simp only [Act.put, List.setIfInBounds_toArray, List.set_cons_zero, List.set_cons_succ]
  clear hsub
  refine wpAnyH_ready (rs := [6, 10]) (by kernel_rfl) (by simp) ?_
  refine AllReadyH.cons rfl (fun K hK => ?_) (AllReadyH.cons rfl (fun K hK => ?_) AllReadyH.nil)
  · have mk1 := make_ints r (by omega) wa.drew
    go_simp
    clear mk1
    have ka1 : Kp [] wa.drew (wa.alloc (.cells (ints (List.replicate r 0)).toArray 3)).drew := ((Kp.refl [] wa).alloc _).drew_both
    refine hK.out _ _ ?_ (fun hHeld2 => ?_)
    · exact ⟨ka1.cell (by simp) hHeld.1, ka1.cell (by simp) hHeld.2.1, ka1.cell (by simp) hHeld.2.2.1, ka1.cell (by simp) hHeld.2.2.2⟩
    clear hK K hHeld
    have hHeld := hHeld2
    clear hHeld2
    try simp only [Act.put, List.setIfInBounds_toArray, List.set_cons_zero, List.set_cons_succ]
    refine wpAnyH_ready (rs := [10]) (by kernel_rfl) (by simp) ?_
    refine AllReadyH.cons rfl (fun K hK => ?_) AllReadyH.nil
    have mk2 := make_u64s f (by omega) ((wa.alloc (.cells (ints (List.replicate r 0)).toArray 3)).drew)
    go_simp
    clear mk2
    have ka2 : Kp [] (wa.alloc (.cells (ints (List.replicate r 0)).toArray 3)).drew ((wa.alloc (.cells (ints (List.replicate r 0)).toArray 3)).alloc (.cells (u64s (List.replicate f 0)) 31)).drew := ((Kp.refl [] (wa.alloc (.cells (ints (List.replicate r 0)).toArray 3))).alloc _).drew_both
    refine hK.out _ _ ?_ (fun hHeld2 => ?_)
    · exact ⟨ka2.cell (by simp) hHeld.1, ka2.cell (by simp) hHeld.2.1, ka2.cell (by simp) hHeld.2.2.1, ka2.cell (by simp) hHeld.2.2.2⟩
    clear hK K hHeld
    have hHeld := hHeld2
    clear hHeld2
    try simp only [Act.put, List.setIfInBounds_toArray, List.set_cons_zero, List.set_cons_succ]
    refine wpAnyH_take (i := 11) (v := ?_) rfl (by kernel_rfl) (by kernel_rfl) (by kernel_rfl) (fun _ _ _ h => h) (Or.inl ⟨by rfl, ?hy⟩) (by assumption) ?_
    case hy => (intro w hSw; (try dsimp only at hSw); go_simp; try with_reducible rfl)
    try simp only [Act.put, List.setIfInBounds_toArray, List.set_cons_zero, List.set_cons_succ]
    obtain ⟨w5, hrun, hG0, hGk0⟩ := grew_RD w wa B m r f fn (K0.out.trans ⟨rfl, rfl, rfl, Nat.le_refl _, fun _ _ _ => rfl⟩) HM.out hm
    have hG := Lib.hid hG0
    have hGk := Lib.hid (show Kp [B] w w5 from hG0.choose_spec.choose_spec.2.2.2.2.2)
    clear hG0
    refine wpAnyH_ready (rs := [12]) (by kernel_rfl) (by simp) ?_
    refine AllReadyH.cons rfl (fun K hK => ?_) AllReadyH.nil
    go_simp
    clear hrun
    obtain ⟨eg, er, ez, ed, ep⟩ := HN.out
    refine hK.out _ _ ?_ (fun hHeld2 => ?_)
    · exact ⟨hGk0.cell (by simpa using eg) hHeld.1, hGk0.cell (by simpa using er) hHeld.2.1, hGk0.cell (by simpa using ez) hHeld.2.2.1, hGk0.cell (by simpa using ep) hHeld.2.2.2⟩
    clear hK K hHeld hHeld2 hGk0 ka1 ka2
    try simp only [Act.put, List.setIfInBounds_toArray, List.set_cons_zero, List.set_cons_succ]
    refine wpAnyH_done (by kernel_rfl) ?_ _
    have hd := hGk.out.cell (by simpa using ed) (show w.cell? ⟨bd, 0, none⟩ = some (.int .i64 d) from HD.out)
    clear eg er ez ed ep
    go_wp2_with fail
    refine (HS.out _ hG.out).mono ?_
    rintro e w6 ⟨rfl, hQ6, hk6⟩
    have hb6 := hk6.row (by simpa using HB.out.2.1) (hGk.out.row (by simpa using HB.out.2.2) HB.out.1)
    have hc6 := cell_of_row hb6 0
    have hf6 := free_of_row hb6 0
    have HQ := Lib.hid (And.intro hQ6 hk6)
    have hmm := must_ok w6
    clear hQ6 hk6 hb6
    go_wp2_with ((with_reducible refine hmm.mono ?_); rintro e w7 ⟨rfl, rfl⟩)
    go_end0
    exact ⟨rfl, w5, w6, hG.out, HQ.out.1, HQ.out.2, rfl⟩
  · have mk1 := make_u64s f (by omega) wa.drew
    go_simp
    clear mk1
    have ka1 : Kp [] wa.drew (wa.alloc (.cells (u64s (List.replicate f 0)) 31)).drew := ((Kp.refl [] wa).alloc _).drew_both
    refine hK.out _ _ ?_ (fun hHeld2 => ?_)
    · exact ⟨ka1.cell (by simp) hHeld.1, ka1.cell (by simp) hHeld.2.1, ka1.cell (by simp) hHeld.2.2.1, ka1.cell (by simp) hHeld.2.2.2⟩
    clear hK K hHeld
    have hHeld := hHeld2
    clear hHeld2
    try simp only [Act.put, List.setIfInBounds_toArray, List.set_cons_zero, List.set_cons_succ]
    refine wpAnyH_ready (rs := [6]) (by kernel_rfl) (by simp) ?_
    refine AllReadyH.cons rfl (fun K hK => ?_) AllReadyH.nil
    have mk2 := make_ints r (by omega) ((wa.alloc (.cells (u64s (List.replicate f 0)) 31)).drew)
    go_simp
    clear mk2
    have ka2 : Kp [] (wa.alloc (.cells (u64s (List.replicate f 0)) 31)).drew ((wa.alloc (.cells (u64s (List.replicate f 0)) 31)).alloc (.cells (ints (List.replicate r 0)).toArray 3)).drew := ((Kp.refl [] (wa.alloc (.cells (u64s (List.replicate f 0)) 31))).alloc _).drew_both
    refine hK.out _ _ ?_ (fun hHeld2 => ?_)
    · exact ⟨ka2.cell (by simp) hHeld.1, ka2.cell (by simp) hHeld.2.1, ka2.cell (by simp) hHeld.2.2.1, ka2.cell (by simp) hHeld.2.2.2⟩
    clear hK K hHeld
    have hHeld := hHeld2
    clear hHeld2
    try simp only [Act.put, List.setIfInBounds_toArray, List.set_cons_zero, List.set_cons_succ]
    refine wpAnyH_take (i := 11) (v := ?_) rfl (by kernel_rfl) (by kernel_rfl) (by kernel_rfl) (fun _ _ _ h => h) (Or.inl ⟨by rfl, ?hy⟩) (by assumption) ?_
    case hy => (intro w hSw; (try dsimp only at hSw); go_simp; try with_reducible rfl)
    try simp only [Act.put, List.setIfInBounds_toArray, List.set_cons_zero, List.set_cons_succ]
    obtain ⟨w5, hrun, hG0, hGk0⟩ := grew_DR w wa B m r f fn (K0.out.trans ⟨rfl, rfl, rfl, Nat.le_refl _, fun _ _ _ => rfl⟩) HM.out hm
    have hG := Lib.hid hG0
    have hGk := Lib.hid (show Kp [B] w w5 from hG0.choose_spec.choose_spec.2.2.2.2.2)
    clear hG0
    refine wpAnyH_ready (rs := [12]) (by kernel_rfl) (by simp) ?_
    refine AllReadyH.cons rfl (fun K hK => ?_) AllReadyH.nil
    go_simp
    clear hrun
    obtain ⟨eg, er, ez, ed, ep⟩ := HN.out
    refine hK.out _ _ ?_ (fun hHeld2 => ?_)
    · exact ⟨hGk0.cell (by simpa using eg) hHeld.1, hGk0.cell (by simpa using er) hHeld.2.1, hGk0.cell (by simpa using ez) hHeld.2.2.1, hGk0.cell (by simpa using ep) hHeld.2.2.2⟩
    clear hK K hHeld hHeld2 hGk0 ka1 ka2
    try simp only [Act.put, List.setIfInBounds_toArray, List.set_cons_zero, List.set_cons_succ]
    refine wpAnyH_done (by kernel_rfl) ?_ _
    have hd := hGk.out.cell (by simpa using ed) (show w.cell? ⟨bd, 0, none⟩ = some (.int .i64 d) from HD.out)
    clear eg er ez ed ep
    go_wp2_with fail
    refine (HS.out _ hG.out).mono ?_
    rintro e w6 ⟨rfl, hQ6, hk6⟩
    have hb6 := hk6.row (by simpa using HB.out.2.1) (hGk.out.row (by simpa using HB.out.2.2) HB.out.1)
    have hc6 := cell_of_row hb6 0
    have hf6 := free_of_row hb6 0
    have HQ := Lib.hid (And.intro hQ6 hk6)
    have hmm := must_ok w6
    clear hQ6 hk6 hb6
    go_wp2_with ((with_reducible refine hmm.mono ?_); rintro e w7 ⟨rfl, rfl⟩)
    go_end0
    exact ⟨rfl, w5, w6, hG.out, HQ.out.1, HQ.out.2, rfl⟩

end Go.Proofs.YtmbhhadghiojeaaGreat
