/- Layer 10's acts, one by one, over what they call: Get, Put, Move. Conditions: as each theorem states them. -/
import Derived.Test.YtmbhhadghiojeaaGreatGrA
namespace Go.Proofs.YtmbhhadghiojeaaGreat
set_option linter.unusedVariables false
set_option linter.unusedSimpArgs false
open Go.RowKit

set_option maxRecDepth 100000 in
theorem ac_get_it (w : World) (bg bt bd bi bn : Nat) (p q : Nat) (t d i : Int) (hg : w.cell? ⟨bg, 0, none⟩ = some (.pointer (some ⟨p, 0, none⟩))) (ht : w.cell? ⟨bt, 0, none⟩ = some (.int .i64 t)) (hd : w.cell? ⟨bd, 0, none⟩ = some (.int .i64 d)) (hi : w.cell? ⟨bi, 0, none⟩ = some (.int .i64 i)) (hth : ThIs w p t [d] q) (g0 n0 c0 : Nat) (hP : w.cell? ⟨p, 1, none⟩ = some (.slice (some ⟨g0, 0, none⟩) n0 c0)) (hi0 : i < 0 ∨ (n0 : Int) ≤ i) :
    Calls Tryz.prog 69 #[.pointer (some ⟨bg, 0, none⟩), .pointer (some ⟨bt, 0, none⟩), .pointer (some ⟨bd, 0, none⟩), .pointer (some ⟨bi, 0, none⟩), .pointer (some ⟨bn, 0, none⟩)] w (Threw w 2) := by
  have ka : Kp [] w (w.alloc (.cells #[.int .i64 d] 3)) := (Kp.refl _ _).alloc _
  have h1 := hth _ _ ka (rd_new w [d])
  have HI := Lib.hid hi0
  have CC := Lib.hid (show Kp [] w (w.alloc (.cells #[.int .i64 d] 3)) ∧ (w.alloc (.cells #[.int .i64 d] 3)).cell? ⟨bg, 0, none⟩ = some (.pointer (some ⟨p, 0, none⟩)) ∧ (w.alloc (.cells #[.int .i64 d] 3)).cell? ⟨bi, 0, none⟩ = some (.int .i64 i) ∧ (w.alloc (.cells #[.int .i64 d] 3)).cell? ⟨p, 1, none⟩ = some (.slice (some ⟨g0, 0, none⟩) n0 c0) from ⟨ka, ka.cell (by simp) hg, ka.cell (by simp) hi, ka.cell (by simp) hP⟩)
  clear hth ka hi0
  simp only [List.length_cons, List.length_nil] at h1
  go_enter Tryz.func69, Tryz.ntmps69
  go_wp2_with fail
  refine h1.mono ?_
  rintro e w1 ⟨rfl, rfl⟩
  clear h1 hg ht hd hi hP
  obtain ⟨hk0, hg, hi, hP⟩ := CC.out
  clear CC
  generalize (w.alloc (.cells #[.int .i64 d] 3)) = wa at *
  have K0 := Lib.hid (hk0.trans (kp_drewN _ 1))
  clear hk0
  go_wp2_with fail
  refine wp_region_held_drew (S := (fun w' => w'.cell? ⟨bg, 0, none⟩ = some (.pointer (some ⟨p, 0, none⟩)) ∧ w'.cell? ⟨bi, 0, none⟩ = some (.int .i64 i) ∧ w'.cell? ⟨p, 1, none⟩ = some (.slice (some ⟨g0, 0, none⟩) n0 c0))) (by kernel_rfl) ?_ (fun hHeld => ?_)
  · exact ⟨(kp_drewN (S := []) _ 1).cell (by simp) hg, (kp_drewN (S := []) _ 1).cell (by simp) hi, (kp_drewN (S := []) _ 1).cell (by simp) hP⟩
  clear hg hi hP
  refine wpAnyH_take (i := 0) (v := ?_) rfl (by kernel_rfl) (by kernel_rfl) (by kernel_rfl) (fun _ _ _ h => h) (Or.inl ⟨by rfl, ?hy⟩) (by assumption) ?_
  case hy => (intro w hSw; (try dsimp only at hSw); go_simp; try with_reducible rfl)
  try simp only [Act.put, List.setIfInBounds_toArray, List.set_cons_zero, List.set_cons_succ]
  refine wpAnyH_take (i := 1) (v := ?_) rfl (by kernel_rfl) (by kernel_rfl) (by kernel_rfl) (fun _ _ _ h => h) (Or.inl ⟨by rfl, ?hy⟩) (by assumption) ?_
  case hy => (intro w hSw; (try dsimp only at hSw); go_simp; try with_reducible rfl)
  try simp only [Act.put, List.setIfInBounds_toArray, List.set_cons_zero, List.set_cons_succ]
  refine wpAnyH_take (i := 2) (v := ?_) rfl (by kernel_rfl) (by kernel_rfl) (by kernel_rfl) (fun _ _ _ h => h) (Or.inl ⟨by rfl, ?hy⟩) (by assumption) ?_
  case hy => (intro w hSw; (try dsimp only at hSw); go_simp; try with_reducible rfl)
  try simp only [Act.put, List.setIfInBounds_toArray, List.set_cons_zero, List.set_cons_succ]
  refine wpAnyH_take (i := 3) (v := ?_) rfl (by kernel_rfl) (by kernel_rfl) (by kernel_rfl) (fun _ _ _ h => h) (Or.inl ⟨by rfl, ?hy⟩) (by assumption) ?_
  case hy => (intro w hSw; (try dsimp only at hSw); go_simp; try with_reducible rfl)
  try simp only [Act.put, List.setIfInBounds_toArray, List.set_cons_zero, List.set_cons_succ]
  refine wpAnyH_take (i := 4) (v := ?_) rfl (by kernel_rfl) (by kernel_rfl) (by kernel_rfl) (fun _ _ _ h => h) (Or.inl ⟨by rfl, ?hy⟩) (by assumption) ?_
  case hy => (intro w hSw; (try dsimp only at hSw); go_simp; try with_reducible rfl)
  try simp only [Act.put, List.setIfInBounds_toArray, List.set_cons_zero, List.set_cons_succ]
  refine wpAnyH_ready (rs := [5]) (by kernel_rfl) (by simp) ?_
  refine AllReadyH.cons rfl (fun K hK => ?_) AllReadyH.nil
  go_simp
  refine (item_int_no _ _ n0 _ i HI.out).mono ?_
  rintro e w3 ⟨rfl, rfl⟩
  exact ⟨rfl, rfl, K0.out⟩

set_option maxRecDepth 100000 in
theorem ac_get_ok (w : World) (bg bt bd bi bn : Nat) (p q : Nat) (i : Nat) (t d y : Int) (hg : w.cell? ⟨bg, 0, none⟩ = some (.pointer (some ⟨p, 0, none⟩))) (ht : w.cell? ⟨bt, 0, none⟩ = some (.int .i64 t)) (hd : w.cell? ⟨bd, 0, none⟩ = some (.int .i64 d)) (hi : w.cell? ⟨bi, 0, none⟩ = some (.int .i64 i)) (hth : ThIs w p t [d] q) (g0 n0 c0 : Nat) (hP : w.cell? ⟨p, 1, none⟩ = some (.slice (some ⟨g0, 0, none⟩) n0 c0)) (hi1 : i < n0 ∧ n0 ≤ 100000) (hat : w.cell? ⟨g0, i, none⟩ = some (.int .i64 y)) (Q : World → Prop) (hset : OnIs w 58 q #[.int .i64 d, .int .i64 y] 0 Q) (z : Int) (hbn : w.heap[bn]? = some (.cells #[.int .i64 z] 3 (0, 0))) (hq : bn ≠ q) :
    Calls Tryz.prog 69 #[.pointer (some ⟨bg, 0, none⟩), .pointer (some ⟨bt, 0, none⟩), .pointer (some ⟨bd, 0, none⟩), .pointer (some ⟨bi, 0, none⟩), .pointer (some ⟨bn, 0, none⟩)] w (Made w [q] Q bn 0 (.int .i64 y)) := by
  have HB := Lib.hid (And.intro hbn hq)
  have HD := Lib.hid hd
  clear hbn hq
  have ka : Kp [] w (w.alloc (.cells #[.int .i64 d] 3)) := (Kp.refl _ _).alloc _
  have h1 := hth _ _ ka (rd_new w [d])
  have HI := Lib.hid hi1
  have HA := Lib.hid hat
  have HS := Lib.hid hset
  have CC := Lib.hid (show Kp [] w (w.alloc (.cells #[.int .i64 d] 3)) ∧ (w.alloc (.cells #[.int .i64 d] 3)).cell? ⟨bg, 0, none⟩ = some (.pointer (some ⟨p, 0, none⟩)) ∧ (w.alloc (.cells #[.int .i64 d] 3)).cell? ⟨bi, 0, none⟩ = some (.int .i64 i) ∧ (w.alloc (.cells #[.int .i64 d] 3)).cell? ⟨p, 1, none⟩ = some (.slice (some ⟨g0, 0, none⟩) n0 c0) from ⟨ka, ka.cell (by simp) hg, ka.cell (by simp) hi, ka.cell (by simp) hP⟩)
  clear hth ka hi1 hat hset
  simp only [List.length_cons, List.length_nil] at h1
  go_enter Tryz.func69, Tryz.ntmps69
  go_wp2_with fail
  refine h1.mono ?_
  rintro e w1 ⟨rfl, rfl⟩
  clear h1 hg ht hd hi hP
  obtain ⟨hk0, hg, hi, hP⟩ := CC.out
  clear CC
  generalize (w.alloc (.cells #[.int .i64 d] 3)) = wa at *
  have K0 := Lib.hid (hk0.trans (kp_drewN _ 1))
  clear hk0
  go_wp2_with fail
  refine wp_region_held_drew (S := (fun w' => w'.cell? ⟨bg, 0, none⟩ = some (.pointer (some ⟨p, 0, none⟩)) ∧ w'.cell? ⟨bi, 0, none⟩ = some (.int .i64 i) ∧ w'.cell? ⟨p, 1, none⟩ = some (.slice (some ⟨g0, 0, none⟩) n0 c0))) (by kernel_rfl) ?_ (fun hHeld => ?_)
  · exact ⟨(kp_drewN (S := []) _ 1).cell (by simp) hg, (kp_drewN (S := []) _ 1).cell (by simp) hi, (kp_drewN (S := []) _ 1).cell (by simp) hP⟩
  clear hg hi hP
  refine wpAnyH_take (i := 0) (v := ?_) rfl (by kernel_rfl) (by kernel_rfl) (by kernel_rfl) (fun _ _ _ h => h) (Or.inl ⟨by rfl, ?hy⟩) (by assumption) ?_
  case hy => (intro w hSw; (try dsimp only at hSw); go_simp; try with_reducible rfl)
  try simp only [Act.put, List.setIfInBounds_toArray, List.set_cons_zero, List.set_cons_succ]
  refine wpAnyH_take (i := 1) (v := ?_) rfl (by kernel_rfl) (by kernel_rfl) (by kernel_rfl) (fun _ _ _ h => h) (Or.inl ⟨by rfl, ?hy⟩) (by assumption) ?_
  case hy => (intro w hSw; (try dsimp only at hSw); go_simp; try with_reducible rfl)
  try simp only [Act.put, List.setIfInBounds_toArray, List.set_cons_zero, List.set_cons_succ]
  refine wpAnyH_take (i := 2) (v := ?_) rfl (by kernel_rfl) (by kernel_rfl) (by kernel_rfl) (fun _ _ _ h => h) (Or.inl ⟨by rfl, ?hy⟩) (by assumption) ?_
  case hy => (intro w hSw; (try dsimp only at hSw); go_simp; try with_reducible rfl)
  try simp only [Act.put, List.setIfInBounds_toArray, List.set_cons_zero, List.set_cons_succ]
  refine wpAnyH_take (i := 3) (v := ?_) rfl (by kernel_rfl) (by kernel_rfl) (by kernel_rfl) (fun _ _ _ h => h) (Or.inl ⟨by rfl, ?hy⟩) (by assumption) ?_
  case hy => (intro w hSw; (try dsimp only at hSw); go_simp; try with_reducible rfl)
  try simp only [Act.put, List.setIfInBounds_toArray, List.set_cons_zero, List.set_cons_succ]
  refine wpAnyH_take (i := 4) (v := ?_) rfl (by kernel_rfl) (by kernel_rfl) (by kernel_rfl) (fun _ _ _ h => h) (Or.inl ⟨by rfl, ?hy⟩) (by assumption) ?_
  case hy => (intro w hSw; (try dsimp only at hSw); go_simp; try with_reducible rfl)
  try simp only [Act.put, List.setIfInBounds_toArray, List.set_cons_zero, List.set_cons_succ]
  refine wpAnyH_ready (rs := [5]) (by kernel_rfl) (by simp) ?_
  refine AllReadyH.cons rfl (fun K hK => ?_) AllReadyH.nil
  go_simp
  refine (item0_int _ _ _ _ i HI.out.1 HI.out.2).mono ?_
  rintro e w3 ⟨rfl, rfl⟩
  refine hK.out _ _ ?_ (fun hHeld2 => ?_)
  · exact hHeld
  clear hK K hHeld
  have hHeld := hHeld2
  clear hHeld2
  try simp only [Act.put, List.setIfInBounds_toArray, List.set_cons_zero, List.set_cons_succ]
  refine wpAnyH_ready (rs := [6]) (by kernel_rfl) (by simp) ?_
  refine AllReadyH.cons rfl (fun K hK => ?_) AllReadyH.nil
  go_simp
  refine hK.out _ _ ?_ (fun hHeld2 => ?_)
  · exact hHeld
  clear hK K hHeld
  have hHeld := hHeld2
  clear hHeld2
  try simp only [Act.put, List.setIfInBounds_toArray, List.set_cons_zero, List.set_cons_succ]
  have hat := K0.out.cell (by simp) HA.out
  (try simp at hat)
  refine wpAnyH_ready (rs := [7]) (by kernel_rfl) (by simp) ?_
  refine AllReadyH.cons rfl (fun K hK => ?_) AllReadyH.nil
  go_simp
  refine hK.out _ _ ?_ (fun hHeld2 => ?_)
  · exact hHeld
  clear hK K hHeld
  have hHeld := hHeld2
  clear hHeld2
  try simp only [Act.put, List.setIfInBounds_toArray, List.set_cons_zero, List.set_cons_succ]
  clear hat
  refine wpAnyH_ready (rs := [8]) (by kernel_rfl) (by simp) ?_
  refine AllReadyH.cons rfl (fun K hK => ?_) AllReadyH.nil
  go_simp
  refine hK.out _ _ ?_ (fun hHeld2 => ?_)
  · exact hHeld
  clear hK K hHeld
  have hHeld := hHeld2
  clear hHeld2
  try simp only [Act.put, List.setIfInBounds_toArray, List.set_cons_zero, List.set_cons_succ]
  refine wpAnyH_done (by kernel_rfl) ?_ _
  have hd := K0.out.cell (by simp) HD.out
  (try simp at hd)
  clear hHeld
  go_wp2_with fail
  refine (HS.out _ K0.out).mono ?_
  rintro e w4 ⟨rfl, hQ4, hk4⟩
  have hb4 := hk4.row (by simpa using HB.out.2) (K0.out.row (by simp) HB.out.1)
  have hc4 := cell_of_row hb4 0
  have hf4 := free_of_row hb4 0
  have HQ := Lib.hid (And.intro hQ4 (kp_then K0.out hk4))
  have hm := must_ok w4
  clear hQ4 hk4 hb4
  go_wp2_with ((with_reducible refine hm.mono ?_); rintro e w5 ⟨rfl, rfl⟩)
  go_end0
  exact ⟨rfl, w4, HQ.out.1, HQ.out.2, rfl⟩

set_option maxRecDepth 100000 in
theorem ac_put_it (w : World) (bg bt bs bi : Nat) (p q : Nat) (t s i : Int) (hg : w.cell? ⟨bg, 0, none⟩ = some (.pointer (some ⟨p, 0, none⟩))) (ht : w.cell? ⟨bt, 0, none⟩ = some (.int .i64 t)) (hs : w.cell? ⟨bs, 0, none⟩ = some (.int .i64 s)) (hi : w.cell? ⟨bi, 0, none⟩ = some (.int .i64 i)) (hth : ThIs w p t [s] q) (g0 n0 c0 : Nat) (hP : w.cell? ⟨p, 1, none⟩ = some (.slice (some ⟨g0, 0, none⟩) n0 c0)) (hi0 : i < 0 ∨ (n0 : Int) ≤ i) :
    Calls Tryz.prog 70 #[.pointer (some ⟨bg, 0, none⟩), .pointer (some ⟨bt, 0, none⟩), .pointer (some ⟨bs, 0, none⟩), .pointer (some ⟨bi, 0, none⟩)] w (Threw w 2) := by
  have ka : Kp [] w (w.alloc (.cells #[.int .i64 s] 3)) := (Kp.refl _ _).alloc _
  have h1 := hth _ _ ka (rd_new w [s])
  have HI := Lib.hid hi0
  have CC := Lib.hid (show Kp [] w (w.alloc (.cells #[.int .i64 s] 3)) ∧ (w.alloc (.cells #[.int .i64 s] 3)).cell? ⟨bg, 0, none⟩ = some (.pointer (some ⟨p, 0, none⟩)) ∧ (w.alloc (.cells #[.int .i64 s] 3)).cell? ⟨bs, 0, none⟩ = some (.int .i64 s) ∧ (w.alloc (.cells #[.int .i64 s] 3)).cell? ⟨bi, 0, none⟩ = some (.int .i64 i) ∧ (w.alloc (.cells #[.int .i64 s] 3)).cell? ⟨p, 1, none⟩ = some (.slice (some ⟨g0, 0, none⟩) n0 c0) from ⟨ka, ka.cell (by simp) hg, ka.cell (by simp) hs, ka.cell (by simp) hi, ka.cell (by simp) hP⟩)
  clear hth ka hi0
  simp only [List.length_cons, List.length_nil] at h1
  go_enter Tryz.func70, Tryz.ntmps70
  go_wp2_with fail
  refine h1.mono ?_
  rintro e w1 ⟨rfl, rfl⟩
  clear h1 hg ht hs hi hP
  obtain ⟨hk0, hg, hs, hi, hP⟩ := CC.out
  clear CC
  generalize (w.alloc (.cells #[.int .i64 s] 3)) = wa at *
  have K0 := Lib.hid (hk0.trans (kp_drewN _ 1))
  clear hk0
  go_wp2_with fail
  refine wp_region_held_drew (S := (fun w' => w'.cell? ⟨bg, 0, none⟩ = some (.pointer (some ⟨p, 0, none⟩)) ∧ w'.cell? ⟨bs, 0, none⟩ = some (.int .i64 s) ∧ w'.cell? ⟨bi, 0, none⟩ = some (.int .i64 i) ∧ w'.cell? ⟨p, 1, none⟩ = some (.slice (some ⟨g0, 0, none⟩) n0 c0))) (by kernel_rfl) ?_ (fun hHeld => ?_)
  · exact ⟨(kp_drewN (S := []) _ 1).cell (by simp) hg, (kp_drewN (S := []) _ 1).cell (by simp) hs, (kp_drewN (S := []) _ 1).cell (by simp) hi, (kp_drewN (S := []) _ 1).cell (by simp) hP⟩
  clear hg hs hi hP
  refine wpAnyH_take (i := 0) (v := ?_) rfl (by kernel_rfl) (by kernel_rfl) (by kernel_rfl) (fun _ _ _ h => h) (Or.inl ⟨by rfl, ?hy⟩) (by assumption) ?_
  case hy => (intro w hSw; (try dsimp only at hSw); go_simp; try with_reducible rfl)
  try simp only [Act.put, List.setIfInBounds_toArray, List.set_cons_zero, List.set_cons_succ]
  refine wpAnyH_take (i := 1) (v := ?_) rfl (by kernel_rfl) (by kernel_rfl) (by kernel_rfl) (fun _ _ _ h => h) (Or.inl ⟨by rfl, ?hy⟩) (by assumption) ?_
  case hy => (intro w hSw; (try dsimp only at hSw); go_simp; try with_reducible rfl)
  try simp only [Act.put, List.setIfInBounds_toArray, List.set_cons_zero, List.set_cons_succ]
  refine wpAnyH_take (i := 2) (v := ?_) rfl (by kernel_rfl) (by kernel_rfl) (by kernel_rfl) (fun _ _ _ h => h) (Or.inl ⟨by rfl, ?hy⟩) (by assumption) ?_
  case hy => (intro w hSw; (try dsimp only at hSw); go_simp; try with_reducible rfl)
  try simp only [Act.put, List.setIfInBounds_toArray, List.set_cons_zero, List.set_cons_succ]
  refine wpAnyH_take (i := 3) (v := ?_) rfl (by kernel_rfl) (by kernel_rfl) (by kernel_rfl) (fun _ _ _ h => h) (Or.inl ⟨by rfl, ?hy⟩) (by assumption) ?_
  case hy => (intro w hSw; (try dsimp only at hSw); go_simp; try with_reducible rfl)
  try simp only [Act.put, List.setIfInBounds_toArray, List.set_cons_zero, List.set_cons_succ]
  refine wpAnyH_take (i := 4) (v := ?_) rfl (by kernel_rfl) (by kernel_rfl) (by kernel_rfl) (fun _ _ _ h => h) (Or.inl ⟨by rfl, ?hy⟩) (by assumption) ?_
  case hy => (intro w hSw; (try dsimp only at hSw); go_simp; try with_reducible rfl)
  try simp only [Act.put, List.setIfInBounds_toArray, List.set_cons_zero, List.set_cons_succ]
  refine wpAnyH_take (i := 6) (v := ?_) rfl (by kernel_rfl) (by kernel_rfl) (by kernel_rfl) (fun _ _ _ h => h) (Or.inl ⟨by rfl, ?hy⟩) (by assumption) ?_
  case hy => (intro w hSw; (try dsimp only at hSw); go_simp; try with_reducible rfl)
  try simp only [Act.put, List.setIfInBounds_toArray, List.set_cons_zero, List.set_cons_succ]
  refine wpAnyH_take (i := 7) (v := ?_) rfl (by kernel_rfl) (by kernel_rfl) (by kernel_rfl) (fun _ _ _ h => h) (Or.inl ⟨by rfl, ?hy⟩) (by assumption) ?_
  case hy => (intro w hSw; (try dsimp only at hSw); go_simp; try with_reducible rfl)
  try simp only [Act.put, List.setIfInBounds_toArray, List.set_cons_zero, List.set_cons_succ]
  refine wpAnyH_ready (rs := [5]) (by kernel_rfl) (by simp) ?_
  refine AllReadyH.cons rfl (fun K hK => ?_) AllReadyH.nil
  go_simp
  refine (item_int_no _ _ n0 _ i HI.out).mono ?_
  rintro e w3 ⟨rfl, rfl⟩
  exact ⟨rfl, rfl, K0.out⟩

set_option maxRecDepth 100000 in
theorem ac_put_ok (w : World) (bg bt bs bi : Nat) (p q : Nat) (i : Nat) (t s y : Int) (hg : w.cell? ⟨bg, 0, none⟩ = some (.pointer (some ⟨p, 0, none⟩))) (ht : w.cell? ⟨bt, 0, none⟩ = some (.int .i64 t)) (hs : w.cell? ⟨bs, 0, none⟩ = some (.int .i64 s)) (hi : w.cell? ⟨bi, 0, none⟩ = some (.int .i64 i)) (hth : ThIs w p t [s] q) (g0 n0 c0 : Nat) (hP : w.cell? ⟨p, 1, none⟩ = some (.slice (some ⟨g0, 0, none⟩) n0 c0)) (hi1 : i < n0 ∧ n0 ≤ 100000) (hre : ReIs w q s y) (cur : Array Value) (u : Value) (hg1 : w.heap[g0]? = some (.cells cur 3 (0, 0)) ∧ cur[i]? = some u ∧ bg ≠ g0 ∧ bs ≠ g0 ∧ bi ≠ g0 ∧ p ≠ g0) :
    Calls Tryz.prog 70 #[.pointer (some ⟨bg, 0, none⟩), .pointer (some ⟨bt, 0, none⟩), .pointer (some ⟨bs, 0, none⟩), .pointer (some ⟨bi, 0, none⟩)] w (Made w [] (fun _ => True) g0 i (.int .i64 y)) := by
  have ka : Kp [] w (w.alloc (.cells #[.int .i64 s] 3)) := (Kp.refl _ _).alloc _
  have h1 := hth _ _ ka (rd_new w [s])
  have HI := Lib.hid hi1
  have HR := Lib.hid hre
  have HG := Lib.hid hg1
  have CC := Lib.hid (show Kp [] w (w.alloc (.cells #[.int .i64 s] 3)) ∧ (w.alloc (.cells #[.int .i64 s] 3)).cell? ⟨bg, 0, none⟩ = some (.pointer (some ⟨p, 0, none⟩)) ∧ (w.alloc (.cells #[.int .i64 s] 3)).cell? ⟨bs, 0, none⟩ = some (.int .i64 s) ∧ (w.alloc (.cells #[.int .i64 s] 3)).cell? ⟨bi, 0, none⟩ = some (.int .i64 i) ∧ (w.alloc (.cells #[.int .i64 s] 3)).cell? ⟨p, 1, none⟩ = some (.slice (some ⟨g0, 0, none⟩) n0 c0) from ⟨ka, ka.cell (by simp) hg, ka.cell (by simp) hs, ka.cell (by simp) hi, ka.cell (by simp) hP⟩)
  clear hth ka hi1 hre hg1
  simp only [List.length_cons, List.length_nil] at h1
  go_enter Tryz.func70, Tryz.ntmps70
  go_wp2_with fail
  refine h1.mono ?_
  rintro e w1 ⟨rfl, rfl⟩
  clear h1 hg ht hs hi hP
  obtain ⟨hk0, hg, hs, hi, hP⟩ := CC.out
  clear CC
  generalize (w.alloc (.cells #[.int .i64 s] 3)) = wa at *
  have K0 := Lib.hid (hk0.trans (kp_drewN _ 1))
  clear hk0
  go_wp2_with fail
  refine wp_region_held_drew (S := (fun w' => w'.cell? ⟨bg, 0, none⟩ = some (.pointer (some ⟨p, 0, none⟩)) ∧ w'.cell? ⟨bs, 0, none⟩ = some (.int .i64 s) ∧ w'.cell? ⟨bi, 0, none⟩ = some (.int .i64 i) ∧ w'.cell? ⟨p, 1, none⟩ = some (.slice (some ⟨g0, 0, none⟩) n0 c0))) (by kernel_rfl) ?_ (fun hHeld => ?_)
  · exact ⟨(kp_drewN (S := []) _ 1).cell (by simp) hg, (kp_drewN (S := []) _ 1).cell (by simp) hs, (kp_drewN (S := []) _ 1).cell (by simp) hi, (kp_drewN (S := []) _ 1).cell (by simp) hP⟩
  clear hg hs hi hP
  refine wpAnyH_take (i := 0) (v := ?_) rfl (by kernel_rfl) (by kernel_rfl) (by kernel_rfl) (fun _ _ _ h => h) (Or.inl ⟨by rfl, ?hy⟩) (by assumption) ?_
  case hy => (intro w hSw; (try dsimp only at hSw); go_simp; try with_reducible rfl)
  try simp only [Act.put, List.setIfInBounds_toArray, List.set_cons_zero, List.set_cons_succ]
  refine wpAnyH_take (i := 1) (v := ?_) rfl (by kernel_rfl) (by kernel_rfl) (by kernel_rfl) (fun _ _ _ h => h) (Or.inl ⟨by rfl, ?hy⟩) (by assumption) ?_
  case hy => (intro w hSw; (try dsimp only at hSw); go_simp; try with_reducible rfl)
  try simp only [Act.put, List.setIfInBounds_toArray, List.set_cons_zero, List.set_cons_succ]
  refine wpAnyH_take (i := 2) (v := ?_) rfl (by kernel_rfl) (by kernel_rfl) (by kernel_rfl) (fun _ _ _ h => h) (Or.inl ⟨by rfl, ?hy⟩) (by assumption) ?_
  case hy => (intro w hSw; (try dsimp only at hSw); go_simp; try with_reducible rfl)
  try simp only [Act.put, List.setIfInBounds_toArray, List.set_cons_zero, List.set_cons_succ]
  refine wpAnyH_take (i := 3) (v := ?_) rfl (by kernel_rfl) (by kernel_rfl) (by kernel_rfl) (fun _ _ _ h => h) (Or.inl ⟨by rfl, ?hy⟩) (by assumption) ?_
  case hy => (intro w hSw; (try dsimp only at hSw); go_simp; try with_reducible rfl)
  try simp only [Act.put, List.setIfInBounds_toArray, List.set_cons_zero, List.set_cons_succ]
  refine wpAnyH_take (i := 4) (v := ?_) rfl (by kernel_rfl) (by kernel_rfl) (by kernel_rfl) (fun _ _ _ h => h) (Or.inl ⟨by rfl, ?hy⟩) (by assumption) ?_
  case hy => (intro w hSw; (try dsimp only at hSw); go_simp; try with_reducible rfl)
  try simp only [Act.put, List.setIfInBounds_toArray, List.set_cons_zero, List.set_cons_succ]
  refine wpAnyH_take (i := 6) (v := ?_) rfl (by kernel_rfl) (by kernel_rfl) (by kernel_rfl) (fun _ _ _ h => h) (Or.inl ⟨by rfl, ?hy⟩) (by assumption) ?_
  case hy => (intro w hSw; (try dsimp only at hSw); go_simp; try with_reducible rfl)
  try simp only [Act.put, List.setIfInBounds_toArray, List.set_cons_zero, List.set_cons_succ]
  refine wpAnyH_take (i := 7) (v := ?_) rfl (by kernel_rfl) (by kernel_rfl) (by kernel_rfl) (fun _ _ _ h => h) (Or.inl ⟨by rfl, ?hy⟩) (by assumption) ?_
  case hy => (intro w hSw; (try dsimp only at hSw); go_simp; try with_reducible rfl)
  try simp only [Act.put, List.setIfInBounds_toArray, List.set_cons_zero, List.set_cons_succ]
  refine wpAnyH_ready (rs := [5]) (by kernel_rfl) (by simp) ?_
  refine AllReadyH.cons rfl (fun K hK => ?_) AllReadyH.nil
  go_simp
  refine (item0_int _ _ _ _ i HI.out.1 HI.out.2).mono ?_
  rintro e w3 ⟨rfl, rfl⟩
  refine hK.out _ _ ?_ (fun hHeld2 => ?_)
  · exact hHeld
  clear hK K hHeld
  have hHeld := hHeld2
  clear hHeld2
  try simp only [Act.put, List.setIfInBounds_toArray, List.set_cons_zero, List.set_cons_succ]
  refine wpAnyH_ready (rs := [8]) (by kernel_rfl) (by simp) ?_
  refine AllReadyH.cons rfl (fun K hK => ?_) AllReadyH.nil
  go_simp
  refine (HR.out _ K0.out).mono ?_
  rintro e w4 ⟨rfl, rfl⟩
  refine hK.out _ _ ?_ (fun hHeld2 => ?_)
  · exact hHeld
  clear hK K hHeld
  have hHeld := hHeld2
  clear hHeld2
  try simp only [Act.put, List.setIfInBounds_toArray, List.set_cons_zero, List.set_cons_succ]
  refine wpAnyH_ready (rs := [9]) (by kernel_rfl) (by simp) ?_
  refine AllReadyH.cons rfl (fun K hK => ?_) AllReadyH.nil
  go_simp
  refine hK.out _ _ ?_ (fun hHeld2 => ?_)
  · exact hHeld
  clear hK K hHeld
  have hHeld := hHeld2
  clear hHeld2
  try simp only [Act.put, List.setIfInBounds_toArray, List.set_cons_zero, List.set_cons_succ]
  have hg := K0.out.row (by simp) HG.out.1
  have hgc := (cell_of_row hg i).trans HG.out.2.1
  have hgf := free_of_row hg i
  (try simp at hgc)
  (try simp at hgf)
  clear hg
  refine wpAnyH_ready (rs := [10]) (by kernel_rfl) (by simp) ?_
  refine AllReadyH.cons rfl (fun K hK => ?_) AllReadyH.nil
  go_simp
  have kst : ∀ (W : World) (v : Value), Kp [g0] W (W.setCell ⟨g0, i, none⟩ v) := fun W v => (Kp.refl _ _).setCell (.inl (by simp)) v
  obtain ⟨eg, es, ei, eP⟩ := HG.out.2.2
  refine hK.out _ _ ?_ (fun hHeld2 => ?_)
  · exact ⟨(kst _ _).cell (by simpa using eg) hHeld.1, (kst _ _).cell (by simpa using es) hHeld.2.1, (kst _ _).cell (by simpa using ei) hHeld.2.2.1, (kst _ _).cell (by simpa using eP) hHeld.2.2.2⟩
  clear hK K hHeld hHeld2 hgc hgf kst
  try simp only [Act.put, List.setIfInBounds_toArray, List.set_cons_zero, List.set_cons_succ]
  refine wpAnyH_done (by kernel_rfl) ?_ _
  go_wp2_with fail
  go_end0
  exact ⟨rfl, _, trivial, K0.out, rfl⟩

set_option maxRecDepth 100000 in
theorem ac_move_ok (w : World) (bg bt bd bs : Nat) (p q : Nat) (t d s y : Int) (hg : w.cell? ⟨bg, 0, none⟩ = some (.pointer (some ⟨p, 0, none⟩))) (ht : w.cell? ⟨bt, 0, none⟩ = some (.int .i64 t)) (hd : w.cell? ⟨bd, 0, none⟩ = some (.int .i64 d)) (hs : w.cell? ⟨bs, 0, none⟩ = some (.int .i64 s)) (hth : ThIs w p t [d, s] q) (hre : ReIs w q s y) (Q : World → Prop) (hset : OnIs w 58 q #[.int .i64 d, .int .i64 y] 0 Q) (hne : bd ≠ q ∧ bs ≠ q) :
    Calls Tryz.prog 71 #[.pointer (some ⟨bg, 0, none⟩), .pointer (some ⟨bt, 0, none⟩), .pointer (some ⟨bd, 0, none⟩), .pointer (some ⟨bs, 0, none⟩)] w (MadeS w [q] Q) := by
  have ka : Kp [] w (w.alloc (.cells #[.int .i64 d, .int .i64 s] 3)) := (Kp.refl _ _).alloc _
  have h1 := hth _ _ ka (rd_new w [d, s])
  have HR := Lib.hid hre
  have HS := Lib.hid hset
  have HN := Lib.hid hne
  have CC := Lib.hid (show Kp [] w (w.alloc (.cells #[.int .i64 d, .int .i64 s] 3)) ∧ (w.alloc (.cells #[.int .i64 d, .int .i64 s] 3)).cell? ⟨bd, 0, none⟩ = some (.int .i64 d) ∧ (w.alloc (.cells #[.int .i64 d, .int .i64 s] 3)).cell? ⟨bs, 0, none⟩ = some (.int .i64 s) from ⟨ka, ka.cell (by simp) hd, ka.cell (by simp) hs⟩)
  clear hth ka hre hset hne
  simp only [List.length_cons, List.length_nil] at h1
  go_enter Tryz.func71, Tryz.ntmps71
  go_wp2_with fail
  refine h1.mono ?_
  rintro e w1 ⟨rfl, rfl⟩
  clear h1 hg ht hd hs
  obtain ⟨hk0, hd, hs⟩ := CC.out
  clear CC
  generalize (w.alloc (.cells #[.int .i64 d, .int .i64 s] 3)) = wa at *
  have K0 := Lib.hid (hk0.trans (kp_drewN _ 1))
  clear hk0
  go_wp2_with fail
  refine wp_region_held_drew (S := (fun w' => w'.cell? ⟨bd, 0, none⟩ = some (.int .i64 d) ∧ w'.cell? ⟨bs, 0, none⟩ = some (.int .i64 s))) (by kernel_rfl) ?_ (fun hHeld => ?_)
  · exact ⟨(kp_drewN (S := []) _ 1).cell (by simp) hd, (kp_drewN (S := []) _ 1).cell (by simp) hs⟩
  clear hd hs
  refine wpAnyH_take (i := 0) (v := ?_) rfl (by kernel_rfl) (by kernel_rfl) (by kernel_rfl) (fun _ _ _ h => h) (Or.inl ⟨by rfl, ?hy⟩) (by assumption) ?_
  case hy => (intro w hSw; (try dsimp only at hSw); go_simp; try with_reducible rfl)
  try simp only [Act.put, List.setIfInBounds_toArray, List.set_cons_zero, List.set_cons_succ]
  refine wpAnyH_take (i := 1) (v := ?_) rfl (by kernel_rfl) (by kernel_rfl) (by kernel_rfl) (fun _ _ _ h => h) (Or.inl ⟨by rfl, ?hy⟩) (by assumption) ?_
  case hy => (intro w hSw; (try dsimp only at hSw); go_simp; try with_reducible rfl)
  try simp only [Act.put, List.setIfInBounds_toArray, List.set_cons_zero, List.set_cons_succ]
  refine wpAnyH_take (i := 2) (v := ?_) rfl (by kernel_rfl) (by kernel_rfl) (by kernel_rfl) (fun _ _ _ h => h) (Or.inl ⟨by rfl, ?hy⟩) (by assumption) ?_
  case hy => (intro w hSw; (try dsimp only at hSw); go_simp; try with_reducible rfl)
  try simp only [Act.put, List.setIfInBounds_toArray, List.set_cons_zero, List.set_cons_succ]
  refine wpAnyH_take (i := 3) (v := ?_) rfl (by kernel_rfl) (by kernel_rfl) (by kernel_rfl) (fun _ _ _ h => h) (Or.inl ⟨by rfl, ?hy⟩) (by assumption) ?_
  case hy => (intro w hSw; (try dsimp only at hSw); go_simp; try with_reducible rfl)
  try simp only [Act.put, List.setIfInBounds_toArray, List.set_cons_zero, List.set_cons_succ]
  refine wpAnyH_ready (rs := [4]) (by kernel_rfl) (by simp) ?_
  refine AllReadyH.cons rfl (fun K hK => ?_) AllReadyH.nil
  go_simp
  refine (HR.out _ K0.out).mono ?_
  rintro e w3 ⟨rfl, rfl⟩
  refine hK.out _ _ ?_ (fun hHeld2 => ?_)
  · exact hHeld
  clear hK K hHeld
  have hHeld := hHeld2
  clear hHeld2
  try simp only [Act.put, List.setIfInBounds_toArray, List.set_cons_zero, List.set_cons_succ]
  refine wpAnyH_ready (rs := [5]) (by kernel_rfl) (by simp) ?_
  refine AllReadyH.cons rfl (fun K hK => ?_) AllReadyH.nil
  go_simp
  refine (HS.out _ K0.out).mono ?_
  rintro e w4 ⟨rfl, hQ4, hk4⟩
  obtain ⟨ed, es⟩ := HN.out
  refine hK.out _ _ ?_ (fun hHeld2 => ?_)
  · exact ⟨hk4.cell (by simpa using ed) hHeld.1, hk4.cell (by simpa using es) hHeld.2⟩
  clear hK K hHeld
  have hHeld := hHeld2
  clear hHeld2
  try simp only [Act.put, List.setIfInBounds_toArray, List.set_cons_zero, List.set_cons_succ]
  have HQ := Lib.hid (And.intro hQ4 (kp_then K0.out hk4))
  clear hQ4 hk4
  refine wpAnyH_ready (rs := [6]) (by kernel_rfl) (by simp) ?_
  refine AllReadyH.cons rfl (fun K hK => ?_) AllReadyH.nil
  go_simp
  refine (must_ok _).mono ?_
  rintro e w5 ⟨rfl, rfl⟩
  refine hK.out _ _ ?_ (fun hHeld2 => ?_)
  · exact hHeld
  clear hK K hHeld
  have hHeld := hHeld2
  clear hHeld2
  try simp only [Act.put, List.setIfInBounds_toArray, List.set_cons_zero, List.set_cons_succ]
  refine wpAnyH_done (by kernel_rfl) ?_ _
  clear hHeld ed es
  go_wp2_with fail
  go_end0
  exact ⟨rfl, HQ.out⟩

end Go.Proofs.YtmbhhadghiojeaaGreat
