/- Layer 10's acts, one by one, over what they call: what throws. Layer 10's acts, one by one, over what they call: what throws. Conditions: as each theorem states them. -/
import Derived.Test.YtmbhhadghiojeaaGreatGrA
namespace Go.Proofs.YtmbhhadghiojeaaGreat
set_option linter.unusedVariables false
set_option linter.unusedSimpArgs false
open Go.RowKit

set_option maxRecDepth 100000 in
theorem ac_load_he (w : World) (bg bt bd bs bi bn : Nat) (p q : Nat) (t d s i x : Int) (hg : w.cell? ⟨bg, 0, none⟩ = some (.pointer (some ⟨p, 0, none⟩))) (ht : w.cell? ⟨bt, 0, none⟩ = some (.int .i64 t)) (hd : w.cell? ⟨bd, 0, none⟩ = some (.int .i64 d)) (hs : w.cell? ⟨bs, 0, none⟩ = some (.int .i64 s)) (hi : w.cell? ⟨bi, 0, none⟩ = some (.int .i64 i)) (hth : ThIs w p t [d, s] q) (hhe : HeNo w p q s x) :
    Calls Tryz.prog 64 #[.pointer (some ⟨bg, 0, none⟩), .pointer (some ⟨bt, 0, none⟩), .pointer (some ⟨bd, 0, none⟩), .pointer (some ⟨bs, 0, none⟩), .pointer (some ⟨bi, 0, none⟩), .pointer (some ⟨bn, 0, none⟩)] w (Threw w x) := by
  have ka : Kp [] w (w.alloc (.cells #[.int .i64 d, .int .i64 s] 3)) := (Kp.refl _ _).alloc _
  have h1 := hth _ _ ka (rd_new w [d, s])
  have HH := Lib.hid hhe
  have CC := Lib.hid (show Kp [] w (w.alloc (.cells #[.int .i64 d, .int .i64 s] 3)) ∧ (w.alloc (.cells #[.int .i64 d, .int .i64 s] 3)).cell? ⟨bg, 0, none⟩ = some (.pointer (some ⟨p, 0, none⟩)) ∧ (w.alloc (.cells #[.int .i64 d, .int .i64 s] 3)).cell? ⟨bs, 0, none⟩ = some (.int .i64 s) ∧ (w.alloc (.cells #[.int .i64 d, .int .i64 s] 3)).cell? ⟨bi, 0, none⟩ = some (.int .i64 i) from ⟨ka, ka.cell (by simp) hg, ka.cell (by simp) hs, ka.cell (by simp) hi⟩)
  clear hth ka hhe
  simp only [List.length_cons, List.length_nil] at h1
  go_enter Tryz.func64, Tryz.ntmps64
  go_wp2_with fail
  refine h1.mono ?_
  rintro e w1 ⟨rfl, rfl⟩
  clear h1 hg ht hd hs hi
  obtain ⟨hk0, hg, hs, hi⟩ := CC.out
  clear CC
  generalize (w.alloc (.cells #[.int .i64 d, .int .i64 s] 3)) = wa at *
  have K0 := Lib.hid (hk0.trans (kp_drewN _ 1))
  clear hk0
  go_wp2_with fail
  refine wp_region_held_drew (S := (fun w' => w'.cell? ⟨bg, 0, none⟩ = some (.pointer (some ⟨p, 0, none⟩)) ∧ w'.cell? ⟨bs, 0, none⟩ = some (.int .i64 s) ∧ w'.cell? ⟨bi, 0, none⟩ = some (.int .i64 i))) (by kernel_rfl) ?_ (fun hHeld => ?_)
  · exact ⟨(kp_drewN (S := []) _ 1).cell (by simp) hg, (kp_drewN (S := []) _ 1).cell (by simp) hs, (kp_drewN (S := []) _ 1).cell (by simp) hi⟩
  clear hg hs hi
  refine wpAnyH_take (i := 0) (v := ?_) rfl (by kernel_rfl) (by kernel_rfl) (by kernel_rfl) (fun _ _ _ h => h) (Or.inl ⟨by rfl, ?hy⟩) (by assumption) ?_
  case hy => (intro w hSw; (try dsimp only at hSw); go_simp; try with_reducible rfl)
  try simp only [Act.put, List.setIfInBounds_toArray, List.set_cons_zero, List.set_cons_succ]
  refine wpAnyH_take (i := 1) (v := ?_) rfl (by kernel_rfl) (by kernel_rfl) (by kernel_rfl) (fun _ _ _ h => h) (Or.inl ⟨by rfl, ?hy⟩) (by assumption) ?_
  case hy => (intro w hSw; (try dsimp only at hSw); go_simp; try with_reducible rfl)
  try simp only [Act.put, List.setIfInBounds_toArray, List.set_cons_zero, List.set_cons_succ]
  refine wpAnyH_take (i := 2) (v := ?_) rfl (by kernel_rfl) (by kernel_rfl) (by kernel_rfl) (fun _ _ _ h => h) (Or.inl ⟨by rfl, ?hy⟩) (by assumption) ?_
  case hy => (intro w hSw; (try dsimp only at hSw); go_simp; try with_reducible rfl)
  try simp only [Act.put, List.setIfInBounds_toArray, List.set_cons_zero, List.set_cons_succ]
  refine wpAnyH_take (i := 5) (v := ?_) rfl (by kernel_rfl) (by kernel_rfl) (by kernel_rfl) (fun _ _ _ h => h) (Or.inl ⟨by rfl, ?hy⟩) (by assumption) ?_
  case hy => (intro w hSw; (try dsimp only at hSw); go_simp; try with_reducible rfl)
  try simp only [Act.put, List.setIfInBounds_toArray, List.set_cons_zero, List.set_cons_succ]
  refine wpAnyH_ready (rs := [3]) (by kernel_rfl) (by simp) ?_
  refine AllReadyH.cons rfl (fun K hK => ?_) AllReadyH.nil
  go_simp
  refine (HH.out _ K0.out).mono ?_
  rintro e w2 ⟨rfl, hk⟩
  exact ⟨rfl, rfl, K0.out.trans hk⟩

set_option maxRecDepth 100000 in
theorem ac_load_it (w : World) (bg bt bd bs bi bn : Nat) (p q : Nat) (t d s i : Int) (hg : w.cell? ⟨bg, 0, none⟩ = some (.pointer (some ⟨p, 0, none⟩))) (ht : w.cell? ⟨bt, 0, none⟩ = some (.int .i64 t)) (hd : w.cell? ⟨bd, 0, none⟩ = some (.int .i64 d)) (hs : w.cell? ⟨bs, 0, none⟩ = some (.int .i64 s)) (hi : w.cell? ⟨bi, 0, none⟩ = some (.int .i64 i)) (hth : ThIs w p t [d, s] q) (g1 n1 c1 g2 n2 c2 : Nat) (hhe : HeIs w p q s (.slice (some ⟨g1, 0, none⟩) n1 c1) (.slice (some ⟨g2, 0, none⟩) n2 c2)) (hi0 : i < 0 ∨ (n1 : Int) ≤ i) :
    Calls Tryz.prog 64 #[.pointer (some ⟨bg, 0, none⟩), .pointer (some ⟨bt, 0, none⟩), .pointer (some ⟨bd, 0, none⟩), .pointer (some ⟨bs, 0, none⟩), .pointer (some ⟨bi, 0, none⟩), .pointer (some ⟨bn, 0, none⟩)] w (Threw w 2) := by
  have ka : Kp [] w (w.alloc (.cells #[.int .i64 d, .int .i64 s] 3)) := (Kp.refl _ _).alloc _
  have h1 := hth _ _ ka (rd_new w [d, s])
  have HH := Lib.hid hhe
  have HI := Lib.hid hi0
  have CC := Lib.hid (show Kp [] w (w.alloc (.cells #[.int .i64 d, .int .i64 s] 3)) ∧ (w.alloc (.cells #[.int .i64 d, .int .i64 s] 3)).cell? ⟨bg, 0, none⟩ = some (.pointer (some ⟨p, 0, none⟩)) ∧ (w.alloc (.cells #[.int .i64 d, .int .i64 s] 3)).cell? ⟨bs, 0, none⟩ = some (.int .i64 s) ∧ (w.alloc (.cells #[.int .i64 d, .int .i64 s] 3)).cell? ⟨bi, 0, none⟩ = some (.int .i64 i) from ⟨ka, ka.cell (by simp) hg, ka.cell (by simp) hs, ka.cell (by simp) hi⟩)
  clear hth ka hhe hi0
  simp only [List.length_cons, List.length_nil] at h1
  go_enter Tryz.func64, Tryz.ntmps64
  go_wp2_with fail
  refine h1.mono ?_
  rintro e w1 ⟨rfl, rfl⟩
  clear h1 hg ht hd hs hi
  obtain ⟨hk0, hg, hs, hi⟩ := CC.out
  clear CC
  generalize (w.alloc (.cells #[.int .i64 d, .int .i64 s] 3)) = wa at *
  have K0 := Lib.hid (hk0.trans (kp_drewN _ 1))
  clear hk0
  go_wp2_with fail
  refine wp_region_held_drew (S := (fun w' => w'.cell? ⟨bg, 0, none⟩ = some (.pointer (some ⟨p, 0, none⟩)) ∧ w'.cell? ⟨bs, 0, none⟩ = some (.int .i64 s) ∧ w'.cell? ⟨bi, 0, none⟩ = some (.int .i64 i))) (by kernel_rfl) ?_ (fun hHeld => ?_)
  · exact ⟨(kp_drewN (S := []) _ 1).cell (by simp) hg, (kp_drewN (S := []) _ 1).cell (by simp) hs, (kp_drewN (S := []) _ 1).cell (by simp) hi⟩
  clear hg hs hi
  refine wpAnyH_take (i := 0) (v := ?_) rfl (by kernel_rfl) (by kernel_rfl) (by kernel_rfl) (fun _ _ _ h => h) (Or.inl ⟨by rfl, ?hy⟩) (by assumption) ?_
  case hy => (intro w hSw; (try dsimp only at hSw); go_simp; try with_reducible rfl)
  try simp only [Act.put, List.setIfInBounds_toArray, List.set_cons_zero, List.set_cons_succ]
  refine wpAnyH_take (i := 1) (v := ?_) rfl (by kernel_rfl) (by kernel_rfl) (by kernel_rfl) (fun _ _ _ h => h) (Or.inl ⟨by rfl, ?hy⟩) (by assumption) ?_
  case hy => (intro w hSw; (try dsimp only at hSw); go_simp; try with_reducible rfl)
  try simp only [Act.put, List.setIfInBounds_toArray, List.set_cons_zero, List.set_cons_succ]
  refine wpAnyH_take (i := 2) (v := ?_) rfl (by kernel_rfl) (by kernel_rfl) (by kernel_rfl) (fun _ _ _ h => h) (Or.inl ⟨by rfl, ?hy⟩) (by assumption) ?_
  case hy => (intro w hSw; (try dsimp only at hSw); go_simp; try with_reducible rfl)
  try simp only [Act.put, List.setIfInBounds_toArray, List.set_cons_zero, List.set_cons_succ]
  refine wpAnyH_take (i := 5) (v := ?_) rfl (by kernel_rfl) (by kernel_rfl) (by kernel_rfl) (fun _ _ _ h => h) (Or.inl ⟨by rfl, ?hy⟩) (by assumption) ?_
  case hy => (intro w hSw; (try dsimp only at hSw); go_simp; try with_reducible rfl)
  try simp only [Act.put, List.setIfInBounds_toArray, List.set_cons_zero, List.set_cons_succ]
  refine wpAnyH_ready (rs := [3]) (by kernel_rfl) (by simp) ?_
  refine AllReadyH.cons rfl (fun K hK => ?_) AllReadyH.nil
  go_simp
  refine (HH.out _ K0.out).mono ?_
  rintro e w2 ⟨rfl, hk⟩
  refine hK.out _ _ ?_ (fun hHeld2 => ?_)
  · exact ⟨hk.cell (by simp) hHeld.1, hk.cell (by simp) hHeld.2.1, hk.cell (by simp) hHeld.2.2⟩
  clear hK K hHeld
  have hHeld := hHeld2
  clear hHeld2
  try simp only [Act.put, List.setIfInBounds_toArray, List.set_cons_zero, List.set_cons_succ]
  have K1 := Lib.hid (K0.out.trans hk)
  clear hk K0
  have K0 := K1
  clear K1
  have hfl := field_0 g1 n1 c1 g2 n2 c2
  refine wpAnyH_take (i := 4) (v := ?_) rfl (by kernel_rfl) (by kernel_rfl) (by kernel_rfl) (fun _ _ _ h => h) (Or.inl ⟨by rfl, ?hy⟩) (by assumption) ?_
  case hy => (intro w hSw; (try dsimp only at hSw); go_simp; try with_reducible rfl)
  try simp only [Act.put, List.setIfInBounds_toArray, List.set_cons_zero, List.set_cons_succ]
  clear hfl
  refine wpAnyH_ready (rs := [6]) (by kernel_rfl) (by simp) ?_
  refine AllReadyH.cons rfl (fun K hK => ?_) AllReadyH.nil
  go_simp
  refine (item_int_no _ _ n1 _ i HI.out).mono ?_
  rintro e w3 ⟨rfl, rfl⟩
  exact ⟨rfl, rfl, K0.out⟩

set_option maxRecDepth 100000 in
theorem ac_store_he (w : World) (bg bt bd bs bi : Nat) (p q : Nat) (t d s i x : Int) (hg : w.cell? ⟨bg, 0, none⟩ = some (.pointer (some ⟨p, 0, none⟩))) (ht : w.cell? ⟨bt, 0, none⟩ = some (.int .i64 t)) (hd : w.cell? ⟨bd, 0, none⟩ = some (.int .i64 d)) (hs : w.cell? ⟨bs, 0, none⟩ = some (.int .i64 s)) (hi : w.cell? ⟨bi, 0, none⟩ = some (.int .i64 i)) (hth : ThIs w p t [d, s] q) (hhe : HeNo w p q d x) :
    Calls Tryz.prog 59 #[.pointer (some ⟨bg, 0, none⟩), .pointer (some ⟨bt, 0, none⟩), .pointer (some ⟨bd, 0, none⟩), .pointer (some ⟨bs, 0, none⟩), .pointer (some ⟨bi, 0, none⟩)] w (Threw w x) := by
  have ka : Kp [] w (w.alloc (.cells #[.int .i64 d, .int .i64 s] 3)) := (Kp.refl _ _).alloc _
  have h1 := hth _ _ ka (rd_new w [d, s])
  have HH := Lib.hid hhe
  have CC := Lib.hid (show Kp [] w (w.alloc (.cells #[.int .i64 d, .int .i64 s] 3)) ∧ (w.alloc (.cells #[.int .i64 d, .int .i64 s] 3)).cell? ⟨bg, 0, none⟩ = some (.pointer (some ⟨p, 0, none⟩)) ∧ (w.alloc (.cells #[.int .i64 d, .int .i64 s] 3)).cell? ⟨bd, 0, none⟩ = some (.int .i64 d) ∧ (w.alloc (.cells #[.int .i64 d, .int .i64 s] 3)).cell? ⟨bs, 0, none⟩ = some (.int .i64 s) ∧ (w.alloc (.cells #[.int .i64 d, .int .i64 s] 3)).cell? ⟨bi, 0, none⟩ = some (.int .i64 i) from ⟨ka, ka.cell (by simp) hg, ka.cell (by simp) hd, ka.cell (by simp) hs, ka.cell (by simp) hi⟩)
  clear hth ka hhe
  simp only [List.length_cons, List.length_nil] at h1
  go_enter Tryz.func59, Tryz.ntmps59
  go_wp2_with fail
  refine h1.mono ?_
  rintro e w1 ⟨rfl, rfl⟩
  clear h1 hg ht hd hs hi
  obtain ⟨hk0, hg, hd, hs, hi⟩ := CC.out
  clear CC
  generalize (w.alloc (.cells #[.int .i64 d, .int .i64 s] 3)) = wa at *
  have K0 := Lib.hid (hk0.trans (kp_drewN _ 1))
  clear hk0
  go_wp2_with fail
  refine wp_region_held_drew (S := (fun w' => w'.cell? ⟨bg, 0, none⟩ = some (.pointer (some ⟨p, 0, none⟩)) ∧ w'.cell? ⟨bd, 0, none⟩ = some (.int .i64 d) ∧ w'.cell? ⟨bs, 0, none⟩ = some (.int .i64 s) ∧ w'.cell? ⟨bi, 0, none⟩ = some (.int .i64 i))) (by kernel_rfl) ?_ (fun hHeld => ?_)
  · exact ⟨(kp_drewN (S := []) _ 1).cell (by simp) hg, (kp_drewN (S := []) _ 1).cell (by simp) hd, (kp_drewN (S := []) _ 1).cell (by simp) hs, (kp_drewN (S := []) _ 1).cell (by simp) hi⟩
  clear hg hd hs hi
  refine wpAnyH_take (i := 0) (v := ?_) rfl (by kernel_rfl) (by kernel_rfl) (by kernel_rfl) (fun _ _ _ h => h) (Or.inl ⟨by rfl, ?hy⟩) (by assumption) ?_
  case hy => (intro w hSw; (try dsimp only at hSw); go_simp; try with_reducible rfl)
  try simp only [Act.put, List.setIfInBounds_toArray, List.set_cons_zero, List.set_cons_succ]
  refine wpAnyH_take (i := 1) (v := ?_) rfl (by kernel_rfl) (by kernel_rfl) (by kernel_rfl) (fun _ _ _ h => h) (Or.inl ⟨by rfl, ?hy⟩) (by assumption) ?_
  case hy => (intro w hSw; (try dsimp only at hSw); go_simp; try with_reducible rfl)
  try simp only [Act.put, List.setIfInBounds_toArray, List.set_cons_zero, List.set_cons_succ]
  refine wpAnyH_take (i := 2) (v := ?_) rfl (by kernel_rfl) (by kernel_rfl) (by kernel_rfl) (fun _ _ _ h => h) (Or.inl ⟨by rfl, ?hy⟩) (by assumption) ?_
  case hy => (intro w hSw; (try dsimp only at hSw); go_simp; try with_reducible rfl)
  try simp only [Act.put, List.setIfInBounds_toArray, List.set_cons_zero, List.set_cons_succ]
  refine wpAnyH_take (i := 5) (v := ?_) rfl (by kernel_rfl) (by kernel_rfl) (by kernel_rfl) (fun _ _ _ h => h) (Or.inl ⟨by rfl, ?hy⟩) (by assumption) ?_
  case hy => (intro w hSw; (try dsimp only at hSw); go_simp; try with_reducible rfl)
  try simp only [Act.put, List.setIfInBounds_toArray, List.set_cons_zero, List.set_cons_succ]
  refine wpAnyH_take (i := 7) (v := ?_) rfl (by kernel_rfl) (by kernel_rfl) (by kernel_rfl) (fun _ _ _ h => h) (Or.inl ⟨by rfl, ?hy⟩) (by assumption) ?_
  case hy => (intro w hSw; (try dsimp only at hSw); go_simp; try with_reducible rfl)
  try simp only [Act.put, List.setIfInBounds_toArray, List.set_cons_zero, List.set_cons_succ]
  refine wpAnyH_take (i := 8) (v := ?_) rfl (by kernel_rfl) (by kernel_rfl) (by kernel_rfl) (fun _ _ _ h => h) (Or.inl ⟨by rfl, ?hy⟩) (by assumption) ?_
  case hy => (intro w hSw; (try dsimp only at hSw); go_simp; try with_reducible rfl)
  try simp only [Act.put, List.setIfInBounds_toArray, List.set_cons_zero, List.set_cons_succ]
  refine wpAnyH_ready (rs := [3]) (by kernel_rfl) (by simp) ?_
  refine AllReadyH.cons rfl (fun K hK => ?_) AllReadyH.nil
  go_simp
  refine (HH.out _ K0.out).mono ?_
  rintro e w2 ⟨rfl, hk⟩
  exact ⟨rfl, rfl, K0.out.trans hk⟩

set_option maxRecDepth 100000 in
theorem ac_store_it (w : World) (bg bt bd bs bi : Nat) (p q : Nat) (t d s i : Int) (hg : w.cell? ⟨bg, 0, none⟩ = some (.pointer (some ⟨p, 0, none⟩))) (ht : w.cell? ⟨bt, 0, none⟩ = some (.int .i64 t)) (hd : w.cell? ⟨bd, 0, none⟩ = some (.int .i64 d)) (hs : w.cell? ⟨bs, 0, none⟩ = some (.int .i64 s)) (hi : w.cell? ⟨bi, 0, none⟩ = some (.int .i64 i)) (hth : ThIs w p t [d, s] q) (g1 n1 c1 g2 n2 c2 : Nat) (hhe : HeIs w p q d (.slice (some ⟨g1, 0, none⟩) n1 c1) (.slice (some ⟨g2, 0, none⟩) n2 c2)) (hi0 : i < 0 ∨ (n1 : Int) ≤ i) :
    Calls Tryz.prog 59 #[.pointer (some ⟨bg, 0, none⟩), .pointer (some ⟨bt, 0, none⟩), .pointer (some ⟨bd, 0, none⟩), .pointer (some ⟨bs, 0, none⟩), .pointer (some ⟨bi, 0, none⟩)] w (Threw w 2) := by
  have ka : Kp [] w (w.alloc (.cells #[.int .i64 d, .int .i64 s] 3)) := (Kp.refl _ _).alloc _
  have h1 := hth _ _ ka (rd_new w [d, s])
  have HH := Lib.hid hhe
  have HI := Lib.hid hi0
  have CC := Lib.hid (show Kp [] w (w.alloc (.cells #[.int .i64 d, .int .i64 s] 3)) ∧ (w.alloc (.cells #[.int .i64 d, .int .i64 s] 3)).cell? ⟨bg, 0, none⟩ = some (.pointer (some ⟨p, 0, none⟩)) ∧ (w.alloc (.cells #[.int .i64 d, .int .i64 s] 3)).cell? ⟨bd, 0, none⟩ = some (.int .i64 d) ∧ (w.alloc (.cells #[.int .i64 d, .int .i64 s] 3)).cell? ⟨bs, 0, none⟩ = some (.int .i64 s) ∧ (w.alloc (.cells #[.int .i64 d, .int .i64 s] 3)).cell? ⟨bi, 0, none⟩ = some (.int .i64 i) from ⟨ka, ka.cell (by simp) hg, ka.cell (by simp) hd, ka.cell (by simp) hs, ka.cell (by simp) hi⟩)
  clear hth ka hhe hi0
  simp only [List.length_cons, List.length_nil] at h1
  go_enter Tryz.func59, Tryz.ntmps59
  go_wp2_with fail
  refine h1.mono ?_
  rintro e w1 ⟨rfl, rfl⟩
  clear h1 hg ht hd hs hi
  obtain ⟨hk0, hg, hd, hs, hi⟩ := CC.out
  clear CC
  generalize (w.alloc (.cells #[.int .i64 d, .int .i64 s] 3)) = wa at *
  have K0 := Lib.hid (hk0.trans (kp_drewN _ 1))
  clear hk0
  go_wp2_with fail
  refine wp_region_held_drew (S := (fun w' => w'.cell? ⟨bg, 0, none⟩ = some (.pointer (some ⟨p, 0, none⟩)) ∧ w'.cell? ⟨bd, 0, none⟩ = some (.int .i64 d) ∧ w'.cell? ⟨bs, 0, none⟩ = some (.int .i64 s) ∧ w'.cell? ⟨bi, 0, none⟩ = some (.int .i64 i))) (by kernel_rfl) ?_ (fun hHeld => ?_)
  · exact ⟨(kp_drewN (S := []) _ 1).cell (by simp) hg, (kp_drewN (S := []) _ 1).cell (by simp) hd, (kp_drewN (S := []) _ 1).cell (by simp) hs, (kp_drewN (S := []) _ 1).cell (by simp) hi⟩
  clear hg hd hs hi
  refine wpAnyH_take (i := 0) (v := ?_) rfl (by kernel_rfl) (by kernel_rfl) (by kernel_rfl) (fun _ _ _ h => h) (Or.inl ⟨by rfl, ?hy⟩) (by assumption) ?_
  case hy => (intro w hSw; (try dsimp only at hSw); go_simp; try with_reducible rfl)
  try simp only [Act.put, List.setIfInBounds_toArray, List.set_cons_zero, List.set_cons_succ]
  refine wpAnyH_take (i := 1) (v := ?_) rfl (by kernel_rfl) (by kernel_rfl) (by kernel_rfl) (fun _ _ _ h => h) (Or.inl ⟨by rfl, ?hy⟩) (by assumption) ?_
  case hy => (intro w hSw; (try dsimp only at hSw); go_simp; try with_reducible rfl)
  try simp only [Act.put, List.setIfInBounds_toArray, List.set_cons_zero, List.set_cons_succ]
  refine wpAnyH_take (i := 2) (v := ?_) rfl (by kernel_rfl) (by kernel_rfl) (by kernel_rfl) (fun _ _ _ h => h) (Or.inl ⟨by rfl, ?hy⟩) (by assumption) ?_
  case hy => (intro w hSw; (try dsimp only at hSw); go_simp; try with_reducible rfl)
  try simp only [Act.put, List.setIfInBounds_toArray, List.set_cons_zero, List.set_cons_succ]
  refine wpAnyH_take (i := 5) (v := ?_) rfl (by kernel_rfl) (by kernel_rfl) (by kernel_rfl) (fun _ _ _ h => h) (Or.inl ⟨by rfl, ?hy⟩) (by assumption) ?_
  case hy => (intro w hSw; (try dsimp only at hSw); go_simp; try with_reducible rfl)
  try simp only [Act.put, List.setIfInBounds_toArray, List.set_cons_zero, List.set_cons_succ]
  refine wpAnyH_take (i := 7) (v := ?_) rfl (by kernel_rfl) (by kernel_rfl) (by kernel_rfl) (fun _ _ _ h => h) (Or.inl ⟨by rfl, ?hy⟩) (by assumption) ?_
  case hy => (intro w hSw; (try dsimp only at hSw); go_simp; try with_reducible rfl)
  try simp only [Act.put, List.setIfInBounds_toArray, List.set_cons_zero, List.set_cons_succ]
  refine wpAnyH_take (i := 8) (v := ?_) rfl (by kernel_rfl) (by kernel_rfl) (by kernel_rfl) (fun _ _ _ h => h) (Or.inl ⟨by rfl, ?hy⟩) (by assumption) ?_
  case hy => (intro w hSw; (try dsimp only at hSw); go_simp; try with_reducible rfl)
  try simp only [Act.put, List.setIfInBounds_toArray, List.set_cons_zero, List.set_cons_succ]
  refine wpAnyH_ready (rs := [3]) (by kernel_rfl) (by simp) ?_
  refine AllReadyH.cons rfl (fun K hK => ?_) AllReadyH.nil
  go_simp
  refine (HH.out _ K0.out).mono ?_
  rintro e w2 ⟨rfl, hk⟩
  refine hK.out _ _ ?_ (fun hHeld2 => ?_)
  · exact ⟨hk.cell (by simp) hHeld.1, hk.cell (by simp) hHeld.2.1, hk.cell (by simp) hHeld.2.2.1, hk.cell (by simp) hHeld.2.2.2⟩
  clear hK K hHeld
  have hHeld := hHeld2
  clear hHeld2
  try simp only [Act.put, List.setIfInBounds_toArray, List.set_cons_zero, List.set_cons_succ]
  have K1 := Lib.hid (K0.out.trans hk)
  clear hk K0
  have K0 := K1
  clear K1
  have hfl := field_0 g1 n1 c1 g2 n2 c2
  refine wpAnyH_take (i := 4) (v := ?_) rfl (by kernel_rfl) (by kernel_rfl) (by kernel_rfl) (fun _ _ _ h => h) (Or.inl ⟨by rfl, ?hy⟩) (by assumption) ?_
  case hy => (intro w hSw; (try dsimp only at hSw); go_simp; try with_reducible rfl)
  try simp only [Act.put, List.setIfInBounds_toArray, List.set_cons_zero, List.set_cons_succ]
  clear hfl
  refine wpAnyH_ready (rs := [6]) (by kernel_rfl) (by simp) ?_
  refine AllReadyH.cons rfl (fun K hK => ?_) AllReadyH.nil
  go_simp
  refine (item_int_no _ _ n1 _ i HI.out).mono ?_
  rintro e w3 ⟨rfl, rfl⟩
  exact ⟨rfl, rfl, K0.out⟩

end Go.Proofs.YtmbhhadghiojeaaGreat

namespace Go.Proofs.YtmbhhadghiojeaaGreat
set_option linter.unusedVariables false
set_option linter.unusedSimpArgs false
open Go.RowKit

set_option maxRecDepth 100000 in
theorem ac_read_he (w : World) (bg bt bs bi bn : Nat) (p q : Nat) (t s i x : Int) (hg : w.cell? ⟨bg, 0, none⟩ = some (.pointer (some ⟨p, 0, none⟩))) (ht : w.cell? ⟨bt, 0, none⟩ = some (.int .i64 t)) (hs : w.cell? ⟨bs, 0, none⟩ = some (.int .i64 s)) (hi : w.cell? ⟨bi, 0, none⟩ = some (.int .i64 i)) (hth : ThIs w p t [s] q) (hhe : HeNo w p q s x) :
    Calls Tryz.prog 66 #[.pointer (some ⟨bg, 0, none⟩), .pointer (some ⟨bt, 0, none⟩), .pointer (some ⟨bs, 0, none⟩), .pointer (some ⟨bi, 0, none⟩), .pointer (some ⟨bn, 0, none⟩)] w (Threw w x) := by
  have ka : Kp [] w (w.alloc (.cells #[.int .i64 s] 3)) := (Kp.refl _ _).alloc _
  have h1 := hth _ _ ka (rd_new w [s])
  have HH := Lib.hid hhe
  have CC := Lib.hid (show Kp [] w (w.alloc (.cells #[.int .i64 s] 3)) ∧ (w.alloc (.cells #[.int .i64 s] 3)).cell? ⟨bg, 0, none⟩ = some (.pointer (some ⟨p, 0, none⟩)) ∧ (w.alloc (.cells #[.int .i64 s] 3)).cell? ⟨bs, 0, none⟩ = some (.int .i64 s) ∧ (w.alloc (.cells #[.int .i64 s] 3)).cell? ⟨bi, 0, none⟩ = some (.int .i64 i) from ⟨ka, ka.cell (by simp) hg, ka.cell (by simp) hs, ka.cell (by simp) hi⟩)
  clear hth ka hhe
  simp only [List.length_cons, List.length_nil] at h1
  go_enter Tryz.func66, Tryz.ntmps66
  go_wp2_with fail
  refine h1.mono ?_
  rintro e w1 ⟨rfl, rfl⟩
  clear h1 hg ht hs hi
  obtain ⟨hk0, hg, hs, hi⟩ := CC.out
  clear CC
  generalize (w.alloc (.cells #[.int .i64 s] 3)) = wa at *
  have K0 := Lib.hid (hk0.trans (kp_drewN _ 1))
  clear hk0
  go_wp2_with fail
  refine wp_region_held_drew (S := (fun w' => w'.cell? ⟨bg, 0, none⟩ = some (.pointer (some ⟨p, 0, none⟩)) ∧ w'.cell? ⟨bs, 0, none⟩ = some (.int .i64 s) ∧ w'.cell? ⟨bi, 0, none⟩ = some (.int .i64 i))) (by kernel_rfl) ?_ (fun hHeld => ?_)
  · exact ⟨(kp_drewN (S := []) _ 1).cell (by simp) hg, (kp_drewN (S := []) _ 1).cell (by simp) hs, (kp_drewN (S := []) _ 1).cell (by simp) hi⟩
  clear hg hs hi
  refine wpAnyH_take (i := 0) (v := ?_) rfl (by kernel_rfl) (by kernel_rfl) (by kernel_rfl) (fun _ _ _ h => h) (Or.inl ⟨by rfl, ?hy⟩) (by assumption) ?_
  case hy => (intro w hSw; (try dsimp only at hSw); go_simp; try with_reducible rfl)
  try simp only [Act.put, List.setIfInBounds_toArray, List.set_cons_zero, List.set_cons_succ]
  refine wpAnyH_take (i := 1) (v := ?_) rfl (by kernel_rfl) (by kernel_rfl) (by kernel_rfl) (fun _ _ _ h => h) (Or.inl ⟨by rfl, ?hy⟩) (by assumption) ?_
  case hy => (intro w hSw; (try dsimp only at hSw); go_simp; try with_reducible rfl)
  try simp only [Act.put, List.setIfInBounds_toArray, List.set_cons_zero, List.set_cons_succ]
  refine wpAnyH_take (i := 2) (v := ?_) rfl (by kernel_rfl) (by kernel_rfl) (by kernel_rfl) (fun _ _ _ h => h) (Or.inl ⟨by rfl, ?hy⟩) (by assumption) ?_
  case hy => (intro w hSw; (try dsimp only at hSw); go_simp; try with_reducible rfl)
  try simp only [Act.put, List.setIfInBounds_toArray, List.set_cons_zero, List.set_cons_succ]
  refine wpAnyH_take (i := 5) (v := ?_) rfl (by kernel_rfl) (by kernel_rfl) (by kernel_rfl) (fun _ _ _ h => h) (Or.inl ⟨by rfl, ?hy⟩) (by assumption) ?_
  case hy => (intro w hSw; (try dsimp only at hSw); go_simp; try with_reducible rfl)
  try simp only [Act.put, List.setIfInBounds_toArray, List.set_cons_zero, List.set_cons_succ]
  refine wpAnyH_ready (rs := [3]) (by kernel_rfl) (by simp) ?_
  refine AllReadyH.cons rfl (fun K hK => ?_) AllReadyH.nil
  go_simp
  refine (HH.out _ K0.out).mono ?_
  rintro e w2 ⟨rfl, hk⟩
  exact ⟨rfl, rfl, K0.out.trans hk⟩

set_option maxRecDepth 100000 in
theorem ac_read_it (w : World) (bg bt bs bi bn : Nat) (p q : Nat) (t s i : Int) (hg : w.cell? ⟨bg, 0, none⟩ = some (.pointer (some ⟨p, 0, none⟩))) (ht : w.cell? ⟨bt, 0, none⟩ = some (.int .i64 t)) (hs : w.cell? ⟨bs, 0, none⟩ = some (.int .i64 s)) (hi : w.cell? ⟨bi, 0, none⟩ = some (.int .i64 i)) (hth : ThIs w p t [s] q) (g1 n1 c1 g2 n2 c2 : Nat) (hhe : HeIs w p q s (.slice (some ⟨g1, 0, none⟩) n1 c1) (.slice (some ⟨g2, 0, none⟩) n2 c2)) (hi0 : i < 0 ∨ (n2 : Int) ≤ i) :
    Calls Tryz.prog 66 #[.pointer (some ⟨bg, 0, none⟩), .pointer (some ⟨bt, 0, none⟩), .pointer (some ⟨bs, 0, none⟩), .pointer (some ⟨bi, 0, none⟩), .pointer (some ⟨bn, 0, none⟩)] w (Threw w 2) := by
  have ka : Kp [] w (w.alloc (.cells #[.int .i64 s] 3)) := (Kp.refl _ _).alloc _
  have h1 := hth _ _ ka (rd_new w [s])
  have HH := Lib.hid hhe
  have HI := Lib.hid hi0
  have CC := Lib.hid (show Kp [] w (w.alloc (.cells #[.int .i64 s] 3)) ∧ (w.alloc (.cells #[.int .i64 s] 3)).cell? ⟨bg, 0, none⟩ = some (.pointer (some ⟨p, 0, none⟩)) ∧ (w.alloc (.cells #[.int .i64 s] 3)).cell? ⟨bs, 0, none⟩ = some (.int .i64 s) ∧ (w.alloc (.cells #[.int .i64 s] 3)).cell? ⟨bi, 0, none⟩ = some (.int .i64 i) from ⟨ka, ka.cell (by simp) hg, ka.cell (by simp) hs, ka.cell (by simp) hi⟩)
  clear hth ka hhe hi0
  simp only [List.length_cons, List.length_nil] at h1
  go_enter Tryz.func66, Tryz.ntmps66
  go_wp2_with fail
  refine h1.mono ?_
  rintro e w1 ⟨rfl, rfl⟩
  clear h1 hg ht hs hi
  obtain ⟨hk0, hg, hs, hi⟩ := CC.out
  clear CC
  generalize (w.alloc (.cells #[.int .i64 s] 3)) = wa at *
  have K0 := Lib.hid (hk0.trans (kp_drewN _ 1))
  clear hk0
  go_wp2_with fail
  refine wp_region_held_drew (S := (fun w' => w'.cell? ⟨bg, 0, none⟩ = some (.pointer (some ⟨p, 0, none⟩)) ∧ w'.cell? ⟨bs, 0, none⟩ = some (.int .i64 s) ∧ w'.cell? ⟨bi, 0, none⟩ = some (.int .i64 i))) (by kernel_rfl) ?_ (fun hHeld => ?_)
  · exact ⟨(kp_drewN (S := []) _ 1).cell (by simp) hg, (kp_drewN (S := []) _ 1).cell (by simp) hs, (kp_drewN (S := []) _ 1).cell (by simp) hi⟩
  clear hg hs hi
  refine wpAnyH_take (i := 0) (v := ?_) rfl (by kernel_rfl) (by kernel_rfl) (by kernel_rfl) (fun _ _ _ h => h) (Or.inl ⟨by rfl, ?hy⟩) (by assumption) ?_
  case hy => (intro w hSw; (try dsimp only at hSw); go_simp; try with_reducible rfl)
  try simp only [Act.put, List.setIfInBounds_toArray, List.set_cons_zero, List.set_cons_succ]
  refine wpAnyH_take (i := 1) (v := ?_) rfl (by kernel_rfl) (by kernel_rfl) (by kernel_rfl) (fun _ _ _ h => h) (Or.inl ⟨by rfl, ?hy⟩) (by assumption) ?_
  case hy => (intro w hSw; (try dsimp only at hSw); go_simp; try with_reducible rfl)
  try simp only [Act.put, List.setIfInBounds_toArray, List.set_cons_zero, List.set_cons_succ]
  refine wpAnyH_take (i := 2) (v := ?_) rfl (by kernel_rfl) (by kernel_rfl) (by kernel_rfl) (fun _ _ _ h => h) (Or.inl ⟨by rfl, ?hy⟩) (by assumption) ?_
  case hy => (intro w hSw; (try dsimp only at hSw); go_simp; try with_reducible rfl)
  try simp only [Act.put, List.setIfInBounds_toArray, List.set_cons_zero, List.set_cons_succ]
  refine wpAnyH_take (i := 5) (v := ?_) rfl (by kernel_rfl) (by kernel_rfl) (by kernel_rfl) (fun _ _ _ h => h) (Or.inl ⟨by rfl, ?hy⟩) (by assumption) ?_
  case hy => (intro w hSw; (try dsimp only at hSw); go_simp; try with_reducible rfl)
  try simp only [Act.put, List.setIfInBounds_toArray, List.set_cons_zero, List.set_cons_succ]
  refine wpAnyH_ready (rs := [3]) (by kernel_rfl) (by simp) ?_
  refine AllReadyH.cons rfl (fun K hK => ?_) AllReadyH.nil
  go_simp
  refine (HH.out _ K0.out).mono ?_
  rintro e w2 ⟨rfl, hk⟩
  refine hK.out _ _ ?_ (fun hHeld2 => ?_)
  · exact ⟨hk.cell (by simp) hHeld.1, hk.cell (by simp) hHeld.2.1, hk.cell (by simp) hHeld.2.2⟩
  clear hK K hHeld
  have hHeld := hHeld2
  clear hHeld2
  try simp only [Act.put, List.setIfInBounds_toArray, List.set_cons_zero, List.set_cons_succ]
  have K1 := Lib.hid (K0.out.trans hk)
  clear hk K0
  have K0 := K1
  clear K1
  have hfl := field_1 g1 n1 c1 g2 n2 c2
  refine wpAnyH_take (i := 4) (v := ?_) rfl (by kernel_rfl) (by kernel_rfl) (by kernel_rfl) (fun _ _ _ h => h) (Or.inl ⟨by rfl, ?hy⟩) (by assumption) ?_
  case hy => (intro w hSw; (try dsimp only at hSw); go_simp; try with_reducible rfl)
  try simp only [Act.put, List.setIfInBounds_toArray, List.set_cons_zero, List.set_cons_succ]
  clear hfl
  refine wpAnyH_ready (rs := [6]) (by kernel_rfl) (by simp) ?_
  refine AllReadyH.cons rfl (fun K hK => ?_) AllReadyH.nil
  go_simp
  refine (item_u64_no _ _ n2 _ i HI.out).mono ?_
  rintro e w3 ⟨rfl, rfl⟩
  exact ⟨rfl, rfl, K0.out⟩

set_option maxRecDepth 100000 in
theorem ac_write_he (w : World) (bg bt bs bv bi : Nat) (p q : Nat) (t s v i x : Int) (hg : w.cell? ⟨bg, 0, none⟩ = some (.pointer (some ⟨p, 0, none⟩))) (ht : w.cell? ⟨bt, 0, none⟩ = some (.int .i64 t)) (hs : w.cell? ⟨bs, 0, none⟩ = some (.int .i64 s)) (hv : w.cell? ⟨bv, 0, none⟩ = some (.int .u64 v)) (hi : w.cell? ⟨bi, 0, none⟩ = some (.int .i64 i)) (hth : ThIs w p t [s] q) (hhe : HeNo w p q s x) :
    Calls Tryz.prog 68 #[.pointer (some ⟨bg, 0, none⟩), .pointer (some ⟨bt, 0, none⟩), .pointer (some ⟨bs, 0, none⟩), .pointer (some ⟨bv, 0, none⟩), .pointer (some ⟨bi, 0, none⟩)] w (Threw w x) := by
  have ka : Kp [] w (w.alloc (.cells #[.int .i64 s] 3)) := (Kp.refl _ _).alloc _
  have h1 := hth _ _ ka (rd_new w [s])
  have HH := Lib.hid hhe
  have CC := Lib.hid (show Kp [] w (w.alloc (.cells #[.int .i64 s] 3)) ∧ (w.alloc (.cells #[.int .i64 s] 3)).cell? ⟨bg, 0, none⟩ = some (.pointer (some ⟨p, 0, none⟩)) ∧ (w.alloc (.cells #[.int .i64 s] 3)).cell? ⟨bs, 0, none⟩ = some (.int .i64 s) ∧ (w.alloc (.cells #[.int .i64 s] 3)).cell? ⟨bv, 0, none⟩ = some (.int .u64 v) ∧ (w.alloc (.cells #[.int .i64 s] 3)).cell? ⟨bi, 0, none⟩ = some (.int .i64 i) from ⟨ka, ka.cell (by simp) hg, ka.cell (by simp) hs, ka.cell (by simp) hv, ka.cell (by simp) hi⟩)
  clear hth ka hhe
  simp only [List.length_cons, List.length_nil] at h1
  go_enter Tryz.func68, Tryz.ntmps68
  go_wp2_with fail
  refine h1.mono ?_
  rintro e w1 ⟨rfl, rfl⟩
  clear h1 hg ht hs hv hi
  obtain ⟨hk0, hg, hs, hv, hi⟩ := CC.out
  clear CC
  generalize (w.alloc (.cells #[.int .i64 s] 3)) = wa at *
  have K0 := Lib.hid (hk0.trans (kp_drewN _ 1))
  clear hk0
  go_wp2_with fail
  refine wp_region_held_drew (S := (fun w' => w'.cell? ⟨bg, 0, none⟩ = some (.pointer (some ⟨p, 0, none⟩)) ∧ w'.cell? ⟨bs, 0, none⟩ = some (.int .i64 s) ∧ w'.cell? ⟨bv, 0, none⟩ = some (.int .u64 v) ∧ w'.cell? ⟨bi, 0, none⟩ = some (.int .i64 i))) (by kernel_rfl) ?_ (fun hHeld => ?_)
  · exact ⟨(kp_drewN (S := []) _ 1).cell (by simp) hg, (kp_drewN (S := []) _ 1).cell (by simp) hs, (kp_drewN (S := []) _ 1).cell (by simp) hv, (kp_drewN (S := []) _ 1).cell (by simp) hi⟩
  clear hg hs hv hi
  refine wpAnyH_take (i := 0) (v := ?_) rfl (by kernel_rfl) (by kernel_rfl) (by kernel_rfl) (fun _ _ _ h => h) (Or.inl ⟨by rfl, ?hy⟩) (by assumption) ?_
  case hy => (intro w hSw; (try dsimp only at hSw); go_simp; try with_reducible rfl)
  try simp only [Act.put, List.setIfInBounds_toArray, List.set_cons_zero, List.set_cons_succ]
  refine wpAnyH_take (i := 1) (v := ?_) rfl (by kernel_rfl) (by kernel_rfl) (by kernel_rfl) (fun _ _ _ h => h) (Or.inl ⟨by rfl, ?hy⟩) (by assumption) ?_
  case hy => (intro w hSw; (try dsimp only at hSw); go_simp; try with_reducible rfl)
  try simp only [Act.put, List.setIfInBounds_toArray, List.set_cons_zero, List.set_cons_succ]
  refine wpAnyH_take (i := 2) (v := ?_) rfl (by kernel_rfl) (by kernel_rfl) (by kernel_rfl) (fun _ _ _ h => h) (Or.inl ⟨by rfl, ?hy⟩) (by assumption) ?_
  case hy => (intro w hSw; (try dsimp only at hSw); go_simp; try with_reducible rfl)
  try simp only [Act.put, List.setIfInBounds_toArray, List.set_cons_zero, List.set_cons_succ]
  refine wpAnyH_take (i := 5) (v := ?_) rfl (by kernel_rfl) (by kernel_rfl) (by kernel_rfl) (fun _ _ _ h => h) (Or.inl ⟨by rfl, ?hy⟩) (by assumption) ?_
  case hy => (intro w hSw; (try dsimp only at hSw); go_simp; try with_reducible rfl)
  try simp only [Act.put, List.setIfInBounds_toArray, List.set_cons_zero, List.set_cons_succ]
  refine wpAnyH_take (i := 7) (v := ?_) rfl (by kernel_rfl) (by kernel_rfl) (by kernel_rfl) (fun _ _ _ h => h) (Or.inl ⟨by rfl, ?hy⟩) (by assumption) ?_
  case hy => (intro w hSw; (try dsimp only at hSw); go_simp; try with_reducible rfl)
  try simp only [Act.put, List.setIfInBounds_toArray, List.set_cons_zero, List.set_cons_succ]
  refine wpAnyH_ready (rs := [3]) (by kernel_rfl) (by simp) ?_
  refine AllReadyH.cons rfl (fun K hK => ?_) AllReadyH.nil
  go_simp
  refine (HH.out _ K0.out).mono ?_
  rintro e w2 ⟨rfl, hk⟩
  exact ⟨rfl, rfl, K0.out.trans hk⟩

set_option maxRecDepth 100000 in
theorem ac_write_it (w : World) (bg bt bs bv bi : Nat) (p q : Nat) (t s v i : Int) (hg : w.cell? ⟨bg, 0, none⟩ = some (.pointer (some ⟨p, 0, none⟩))) (ht : w.cell? ⟨bt, 0, none⟩ = some (.int .i64 t)) (hs : w.cell? ⟨bs, 0, none⟩ = some (.int .i64 s)) (hv : w.cell? ⟨bv, 0, none⟩ = some (.int .u64 v)) (hi : w.cell? ⟨bi, 0, none⟩ = some (.int .i64 i)) (hth : ThIs w p t [s] q) (g1 n1 c1 g2 n2 c2 : Nat) (hhe : HeIs w p q s (.slice (some ⟨g1, 0, none⟩) n1 c1) (.slice (some ⟨g2, 0, none⟩) n2 c2)) (hi0 : i < 0 ∨ (n2 : Int) ≤ i) :
    Calls Tryz.prog 68 #[.pointer (some ⟨bg, 0, none⟩), .pointer (some ⟨bt, 0, none⟩), .pointer (some ⟨bs, 0, none⟩), .pointer (some ⟨bv, 0, none⟩), .pointer (some ⟨bi, 0, none⟩)] w (Threw w 2) := by
  have ka : Kp [] w (w.alloc (.cells #[.int .i64 s] 3)) := (Kp.refl _ _).alloc _
  have h1 := hth _ _ ka (rd_new w [s])
  have HH := Lib.hid hhe
  have HI := Lib.hid hi0
  have CC := Lib.hid (show Kp [] w (w.alloc (.cells #[.int .i64 s] 3)) ∧ (w.alloc (.cells #[.int .i64 s] 3)).cell? ⟨bg, 0, none⟩ = some (.pointer (some ⟨p, 0, none⟩)) ∧ (w.alloc (.cells #[.int .i64 s] 3)).cell? ⟨bs, 0, none⟩ = some (.int .i64 s) ∧ (w.alloc (.cells #[.int .i64 s] 3)).cell? ⟨bv, 0, none⟩ = some (.int .u64 v) ∧ (w.alloc (.cells #[.int .i64 s] 3)).cell? ⟨bi, 0, none⟩ = some (.int .i64 i) from ⟨ka, ka.cell (by simp) hg, ka.cell (by simp) hs, ka.cell (by simp) hv, ka.cell (by simp) hi⟩)
  clear hth ka hhe hi0
  simp only [List.length_cons, List.length_nil] at h1
  go_enter Tryz.func68, Tryz.ntmps68
  go_wp2_with fail
  refine h1.mono ?_
  rintro e w1 ⟨rfl, rfl⟩
  clear h1 hg ht hs hv hi
  obtain ⟨hk0, hg, hs, hv, hi⟩ := CC.out
  clear CC
  generalize (w.alloc (.cells #[.int .i64 s] 3)) = wa at *
  have K0 := Lib.hid (hk0.trans (kp_drewN _ 1))
  clear hk0
  go_wp2_with fail
  refine wp_region_held_drew (S := (fun w' => w'.cell? ⟨bg, 0, none⟩ = some (.pointer (some ⟨p, 0, none⟩)) ∧ w'.cell? ⟨bs, 0, none⟩ = some (.int .i64 s) ∧ w'.cell? ⟨bv, 0, none⟩ = some (.int .u64 v) ∧ w'.cell? ⟨bi, 0, none⟩ = some (.int .i64 i))) (by kernel_rfl) ?_ (fun hHeld => ?_)
  · exact ⟨(kp_drewN (S := []) _ 1).cell (by simp) hg, (kp_drewN (S := []) _ 1).cell (by simp) hs, (kp_drewN (S := []) _ 1).cell (by simp) hv, (kp_drewN (S := []) _ 1).cell (by simp) hi⟩
  clear hg hs hv hi
  refine wpAnyH_take (i := 0) (v := ?_) rfl (by kernel_rfl) (by kernel_rfl) (by kernel_rfl) (fun _ _ _ h => h) (Or.inl ⟨by rfl, ?hy⟩) (by assumption) ?_
  case hy => (intro w hSw; (try dsimp only at hSw); go_simp; try with_reducible rfl)
  try simp only [Act.put, List.setIfInBounds_toArray, List.set_cons_zero, List.set_cons_succ]
  refine wpAnyH_take (i := 1) (v := ?_) rfl (by kernel_rfl) (by kernel_rfl) (by kernel_rfl) (fun _ _ _ h => h) (Or.inl ⟨by rfl, ?hy⟩) (by assumption) ?_
  case hy => (intro w hSw; (try dsimp only at hSw); go_simp; try with_reducible rfl)
  try simp only [Act.put, List.setIfInBounds_toArray, List.set_cons_zero, List.set_cons_succ]
  refine wpAnyH_take (i := 2) (v := ?_) rfl (by kernel_rfl) (by kernel_rfl) (by kernel_rfl) (fun _ _ _ h => h) (Or.inl ⟨by rfl, ?hy⟩) (by assumption) ?_
  case hy => (intro w hSw; (try dsimp only at hSw); go_simp; try with_reducible rfl)
  try simp only [Act.put, List.setIfInBounds_toArray, List.set_cons_zero, List.set_cons_succ]
  refine wpAnyH_take (i := 5) (v := ?_) rfl (by kernel_rfl) (by kernel_rfl) (by kernel_rfl) (fun _ _ _ h => h) (Or.inl ⟨by rfl, ?hy⟩) (by assumption) ?_
  case hy => (intro w hSw; (try dsimp only at hSw); go_simp; try with_reducible rfl)
  try simp only [Act.put, List.setIfInBounds_toArray, List.set_cons_zero, List.set_cons_succ]
  refine wpAnyH_take (i := 7) (v := ?_) rfl (by kernel_rfl) (by kernel_rfl) (by kernel_rfl) (fun _ _ _ h => h) (Or.inl ⟨by rfl, ?hy⟩) (by assumption) ?_
  case hy => (intro w hSw; (try dsimp only at hSw); go_simp; try with_reducible rfl)
  try simp only [Act.put, List.setIfInBounds_toArray, List.set_cons_zero, List.set_cons_succ]
  refine wpAnyH_ready (rs := [3]) (by kernel_rfl) (by simp) ?_
  refine AllReadyH.cons rfl (fun K hK => ?_) AllReadyH.nil
  go_simp
  refine (HH.out _ K0.out).mono ?_
  rintro e w2 ⟨rfl, hk⟩
  refine hK.out _ _ ?_ (fun hHeld2 => ?_)
  · exact ⟨hk.cell (by simp) hHeld.1, hk.cell (by simp) hHeld.2.1, hk.cell (by simp) hHeld.2.2.1, hk.cell (by simp) hHeld.2.2.2⟩
  clear hK K hHeld
  have hHeld := hHeld2
  clear hHeld2
  try simp only [Act.put, List.setIfInBounds_toArray, List.set_cons_zero, List.set_cons_succ]
  have K1 := Lib.hid (K0.out.trans hk)
  clear hk K0
  have K0 := K1
  clear K1
  have hfl := field_1 g1 n1 c1 g2 n2 c2
  refine wpAnyH_take (i := 4) (v := ?_) rfl (by kernel_rfl) (by kernel_rfl) (by kernel_rfl) (fun _ _ _ h => h) (Or.inl ⟨by rfl, ?hy⟩) (by assumption) ?_
  case hy => (intro w hSw; (try dsimp only at hSw); go_simp; try with_reducible rfl)
  try simp only [Act.put, List.setIfInBounds_toArray, List.set_cons_zero, List.set_cons_succ]
  clear hfl
  refine wpAnyH_ready (rs := [6]) (by kernel_rfl) (by simp) ?_
  refine AllReadyH.cons rfl (fun K hK => ?_) AllReadyH.nil
  go_simp
  refine (item_u64_no _ _ n2 _ i HI.out).mono ?_
  rintro e w3 ⟨rfl, rfl⟩
  exact ⟨rfl, rfl, K0.out⟩

end Go.Proofs.YtmbhhadghiojeaaGreat
