/- Layer 10's acts, one by one, over what they call: Load, Store. Layer 10's acts, one by one, over what they call: Read, Write. Conditions: as each theorem states them. -/
import Derived.Test.YtmbhhadghiojeaaGreatGrA
namespace Go.Proofs.YtmbhhadghiojeaaGreat
set_option linter.unusedVariables false
set_option linter.unusedSimpArgs false
open Go.RowKit

set_option maxRecDepth 100000 in
theorem ac_load_ok (w : World) (bg bt bd bs bi bn : Nat) (p q : Nat) (i : Nat) (t d s y : Int) (hg : w.cell? ⟨bg, 0, none⟩ = some (.pointer (some ⟨p, 0, none⟩))) (ht : w.cell? ⟨bt, 0, none⟩ = some (.int .i64 t)) (hd : w.cell? ⟨bd, 0, none⟩ = some (.int .i64 d)) (hs : w.cell? ⟨bs, 0, none⟩ = some (.int .i64 s)) (hi : w.cell? ⟨bi, 0, none⟩ = some (.int .i64 i)) (hth : ThIs w p t [d, s] q) (g1 n1 c1 g2 n2 c2 : Nat) (hhe : HeIs w p q s (.slice (some ⟨g1, 0, none⟩) n1 c1) (.slice (some ⟨g2, 0, none⟩) n2 c2)) (hi1 : i < n1 ∧ n1 ≤ 100000) (hat : w.cell? ⟨g1, i, none⟩ = some (.int .i64 y)) (Q : World → Prop) (hset : OnIs w 58 q #[.int .i64 d, .int .i64 y] 0 Q) (z : Int) (hbn : w.heap[bn]? = some (.cells #[.int .i64 z] 3 (0, 0))) (hq : bn ≠ q) :
    Calls Tryz.prog 64 #[.pointer (some ⟨bg, 0, none⟩), .pointer (some ⟨bt, 0, none⟩), .pointer (some ⟨bd, 0, none⟩), .pointer (some ⟨bs, 0, none⟩), .pointer (some ⟨bi, 0, none⟩), .pointer (some ⟨bn, 0, none⟩)] w (Made w [q] Q bn 0 (.int .i64 y)) := by
  have HB := Lib.hid (And.intro hbn hq)
  have HD := Lib.hid hd
  clear hbn hq
  have ka : Kp [] w (w.alloc (.cells #[.int .i64 d, .int .i64 s] 3)) := (Kp.refl _ _).alloc _
  have h1 := hth _ _ ka (rd_new w [d, s])
  have HH := Lib.hid hhe
  have HI := Lib.hid hi1
  have HA := Lib.hid hat
  have HS := Lib.hid hset
  have CC := Lib.hid (show Kp [] w (w.alloc (.cells #[.int .i64 d, .int .i64 s] 3)) ∧ (w.alloc (.cells #[.int .i64 d, .int .i64 s] 3)).cell? ⟨bg, 0, none⟩ = some (.pointer (some ⟨p, 0, none⟩)) ∧ (w.alloc (.cells #[.int .i64 d, .int .i64 s] 3)).cell? ⟨bs, 0, none⟩ = some (.int .i64 s) ∧ (w.alloc (.cells #[.int .i64 d, .int .i64 s] 3)).cell? ⟨bi, 0, none⟩ = some (.int .i64 i) from ⟨ka, ka.cell (by simp) hg, ka.cell (by simp) hs, ka.cell (by simp) hi⟩)
  clear hth ka hhe hi1 hat hset
  simp only [List.length_cons, List.length_nil] at h1
  go_enter Tryz.func64, Tryz.ntmps64
  go_wp2_with fail
  refine h1.mono ?_
  rintro e w1 ⟨rfl, rfl⟩
  clear h1 hg ht hd hs hi
  obtain ⟨hk0, hg, hs, hi⟩ := CC.out
  clear CC
  generalize (w.alloc (.cells #[.int .i64 d, .int .i64 s] 3)) = wa at *
  have K0 := Lib.hid (hk0.trans (kp_drewN _ 1))
  clear hk0
  go_wp2_with fail
  refine wp_region_held_drew (S := (fun w' => w'.cell? ⟨bg, 0, none⟩ = some (.pointer (some ⟨p, 0, none⟩)) ∧ w'.cell? ⟨bs, 0, none⟩ = some (.int .i64 s) ∧ w'.cell? ⟨bi, 0, none⟩ = some (.int .i64 i))) (by kernel_rfl) ?_ (fun hHeld => ?_)
  · exact ⟨(kp_drewN (S := []) _ 1).cell (by simp) hg, (kp_drewN (S := []) _ 1).cell (by simp) hs, (kp_drewN (S := []) _ 1).cell (by simp) hi⟩
  clear hg hs hi
  refine wpAnyH_take (i := 0) (v := ?_) rfl (by kernel_rfl) (by kernel_rfl) (by kernel_rfl) (fun _ _ _ h => h) (Or.inl ⟨by rfl, ?hy⟩) (by assumption) ?_
  case hy => (intro w hSw; (try dsimp only at hSw); go_simp; try with_reducible rfl)
  try simp only [Act.put, List.setIfInBounds_toArray, List.set_cons_zero, List.set_cons_succ]
  refine wpAnyH_take (i := 1) (v := ?_) rfl (by kernel_rfl) (by kernel_rfl) (by kernel_rfl) (fun _ _ _ h => h) (Or.inl ⟨by rfl, ?hy⟩) (by assumption) ?_
  case hy => (intro w hSw; (try dsimp only at hSw); go_simp; try with_reducible rfl)
  try simp only [Act.put, List.setIfInBounds_toArray, List.set_cons_zero, List.set_cons_succ]
  refine wpAnyH_take (i := 2) (v := ?_) rfl (by kernel_rfl) (by kernel_rfl) (by kernel_rfl) (fun _ _ _ h => h) (Or.inl ⟨by rfl, ?hy⟩) (by assumption) ?_
  case hy => (intro w hSw; (try dsimp only at hSw); go_simp; try with_reducible rfl)
  try simp only [Act.put, List.setIfInBounds_toArray, List.set_cons_zero, List.set_cons_succ]
  refine wpAnyH_take (i := 5) (v := ?_) rfl (by kernel_rfl) (by kernel_rfl) (by kernel_rfl) (fun _ _ _ h => h) (Or.inl ⟨by rfl, ?hy⟩) (by assumption) ?_
  case hy => (intro w hSw; (try dsimp only at hSw); go_simp; try with_reducible rfl)
  try simp only [Act.put, List.setIfInBounds_toArray, List.set_cons_zero, List.set_cons_succ]
  refine wpAnyH_ready (rs := [3]) (by kernel_rfl) (by simp) ?_
  refine AllReadyH.cons rfl (fun K hK => ?_) AllReadyH.nil
  go_simp
  refine (HH.out _ K0.out).mono ?_
  rintro e w2 ⟨rfl, hk⟩
  refine hK.out _ _ ?_ (fun hHeld2 => ?_)
  · exact ⟨hk.cell (by simp) hHeld.1, hk.cell (by simp) hHeld.2.1, hk.cell (by simp) hHeld.2.2⟩
  clear hK K hHeld
  have hHeld := hHeld2
  clear hHeld2
  try simp only [Act.put, List.setIfInBounds_toArray, List.set_cons_zero, List.set_cons_succ]
  have K1 := Lib.hid (K0.out.trans hk)
  clear hk K0
  have K0 := K1
  clear K1
  have hfl := field_0 g1 n1 c1 g2 n2 c2
  refine wpAnyH_take (i := 4) (v := ?_) rfl (by kernel_rfl) (by kernel_rfl) (by kernel_rfl) (fun _ _ _ h => h) (Or.inl ⟨by rfl, ?hy⟩) (by assumption) ?_
  case hy => (intro w hSw; (try dsimp only at hSw); go_simp; try with_reducible rfl)
  try simp only [Act.put, List.setIfInBounds_toArray, List.set_cons_zero, List.set_cons_succ]
  clear hfl
  refine wpAnyH_ready (rs := [6]) (by kernel_rfl) (by simp) ?_
  refine AllReadyH.cons rfl (fun K hK => ?_) AllReadyH.nil
  go_simp
  refine (item0_int _ _ _ _ i HI.out.1 HI.out.2).mono ?_
  rintro e w3 ⟨rfl, rfl⟩
  refine hK.out _ _ ?_ (fun hHeld2 => ?_)
  · exact hHeld
  clear hK K hHeld
  have hHeld := hHeld2
  clear hHeld2
  try simp only [Act.put, List.setIfInBounds_toArray, List.set_cons_zero, List.set_cons_succ]
  refine wpAnyH_ready (rs := [7]) (by kernel_rfl) (by simp) ?_
  refine AllReadyH.cons rfl (fun K hK => ?_) AllReadyH.nil
  go_simp
  refine hK.out _ _ ?_ (fun hHeld2 => ?_)
  · exact hHeld
  clear hK K hHeld
  have hHeld := hHeld2
  clear hHeld2
  try simp only [Act.put, List.setIfInBounds_toArray, List.set_cons_zero, List.set_cons_succ]
  have hat := K0.out.cell (by simp) HA.out
  (try simp at hat)
  refine wpAnyH_ready (rs := [8]) (by kernel_rfl) (by simp) ?_
  refine AllReadyH.cons rfl (fun K hK => ?_) AllReadyH.nil
  go_simp
  refine hK.out _ _ ?_ (fun hHeld2 => ?_)
  · exact hHeld
  clear hK K hHeld
  have hHeld := hHeld2
  clear hHeld2
  try simp only [Act.put, List.setIfInBounds_toArray, List.set_cons_zero, List.set_cons_succ]
  clear hat
  refine wpAnyH_ready (rs := [9]) (by kernel_rfl) (by simp) ?_
  refine AllReadyH.cons rfl (fun K hK => ?_) AllReadyH.nil
  go_simp
  refine hK.out _ _ ?_ (fun hHeld2 => ?_)
  · exact hHeld
  clear hK K hHeld
  have hHeld := hHeld2
  clear hHeld2
  try simp only [Act.put, List.setIfInBounds_toArray, List.set_cons_zero, List.set_cons_succ]
  refine wpAnyH_done (by kernel_rfl) ?_ _
  have hd := K0.out.cell (by simp) HD.out
  (try simp at hd)
  clear hHeld
  go_wp2_with fail
  refine (HS.out _ K0.out).mono ?_
  rintro e w4 ⟨rfl, hQ4, hk4⟩
  have hb4 := hk4.row (by simpa using HB.out.2) (K0.out.row (by simp) HB.out.1)
  have hc4 := cell_of_row hb4 0
  have hf4 := free_of_row hb4 0
  have HQ := Lib.hid (And.intro hQ4 (kp_then K0.out hk4))
  have hm := must_ok w4
  clear hQ4 hk4 hb4
  go_wp2_with ((with_reducible refine hm.mono ?_); rintro e w5 ⟨rfl, rfl⟩)
  go_end0
  exact ⟨rfl, w4, HQ.out.1, HQ.out.2, rfl⟩

set_option maxRecDepth 100000 in
theorem ac_store_ok (w : World) (bg bt bd bs bi : Nat) (p q : Nat) (i : Nat) (t d s y : Int) (hg : w.cell? ⟨bg, 0, none⟩ = some (.pointer (some ⟨p, 0, none⟩))) (ht : w.cell? ⟨bt, 0, none⟩ = some (.int .i64 t)) (hd : w.cell? ⟨bd, 0, none⟩ = some (.int .i64 d)) (hs : w.cell? ⟨bs, 0, none⟩ = some (.int .i64 s)) (hi : w.cell? ⟨bi, 0, none⟩ = some (.int .i64 i)) (hth : ThIs w p t [d, s] q) (g1 n1 c1 g2 n2 c2 : Nat) (hhe : HeIs w p q d (.slice (some ⟨g1, 0, none⟩) n1 c1) (.slice (some ⟨g2, 0, none⟩) n2 c2)) (hi1 : i < n1 ∧ n1 ≤ 100000) (hre : ReIs w q s y) (cur : Array Value) (u : Value) (hg1 : w.heap[g1]? = some (.cells cur 3 (0, 0)) ∧ cur[i]? = some u ∧ bg ≠ g1 ∧ bd ≠ g1 ∧ bs ≠ g1 ∧ bi ≠ g1) :
    Calls Tryz.prog 59 #[.pointer (some ⟨bg, 0, none⟩), .pointer (some ⟨bt, 0, none⟩), .pointer (some ⟨bd, 0, none⟩), .pointer (some ⟨bs, 0, none⟩), .pointer (some ⟨bi, 0, none⟩)] w (Made w [] (fun _ => True) g1 i (.int .i64 y)) := by
  have ka : Kp [] w (w.alloc (.cells #[.int .i64 d, .int .i64 s] 3)) := (Kp.refl _ _).alloc _
  have h1 := hth _ _ ka (rd_new w [d, s])
  have HH := Lib.hid hhe
  have HI := Lib.hid hi1
  have HR := Lib.hid hre
  have HG := Lib.hid hg1
  have CC := Lib.hid (show Kp [] w (w.alloc (.cells #[.int .i64 d, .int .i64 s] 3)) ∧ (w.alloc (.cells #[.int .i64 d, .int .i64 s] 3)).cell? ⟨bg, 0, none⟩ = some (.pointer (some ⟨p, 0, none⟩)) ∧ (w.alloc (.cells #[.int .i64 d, .int .i64 s] 3)).cell? ⟨bd, 0, none⟩ = some (.int .i64 d) ∧ (w.alloc (.cells #[.int .i64 d, .int .i64 s] 3)).cell? ⟨bs, 0, none⟩ = some (.int .i64 s) ∧ (w.alloc (.cells #[.int .i64 d, .int .i64 s] 3)).cell? ⟨bi, 0, none⟩ = some (.int .i64 i) from ⟨ka, ka.cell (by simp) hg, ka.cell (by simp) hd, ka.cell (by simp) hs, ka.cell (by simp) hi⟩)
  clear hth ka hhe hi1 hre hg1
  simp only [List.length_cons, List.length_nil] at h1
  go_enter Tryz.func59, Tryz.ntmps59
  go_wp2_with fail
  refine h1.mono ?_
  rintro e w1 ⟨rfl, rfl⟩
  clear h1 hg ht hd hs hi
  obtain ⟨hk0, hg, hd, hs, hi⟩ := CC.out
  clear CC
  generalize (w.alloc (.cells #[.int .i64 d, .int .i64 s] 3)) = wa at *
  have K0 := Lib.hid (hk0.trans (kp_drewN _ 1))
  clear hk0
  go_wp2_with fail
  refine wp_region_held_drew (S := (fun w' => w'.cell? ⟨bg, 0, none⟩ = some (.pointer (some ⟨p, 0, none⟩)) ∧ w'.cell? ⟨bd, 0, none⟩ = some (.int .i64 d) ∧ w'.cell? ⟨bs, 0, none⟩ = some (.int .i64 s) ∧ w'.cell? ⟨bi, 0, none⟩ = some (.int .i64 i))) (by kernel_rfl) ?_ (fun hHeld => ?_)
  · exact ⟨(kp_drewN (S := []) _ 1).cell (by simp) hg, (kp_drewN (S := []) _ 1).cell (by simp) hd, (kp_drewN (S := []) _ 1).cell (by simp) hs, (kp_drewN (S := []) _ 1).cell (by simp) hi⟩
  clear hg hd hs hi
  refine wpAnyH_take (i := 0) (v := ?_) rfl (by kernel_rfl) (by kernel_rfl) (by kernel_rfl) (fun _ _ _ h => h) (Or.inl ⟨by rfl, ?hy⟩) (by assumption) ?_
  case hy => (intro w hSw; (try dsimp only at hSw); go_simp; try with_reducible rfl)
  try simp only [Act.put, List.setIfInBounds_toArray, List.set_cons_zero, List.set_cons_succ]
  refine wpAnyH_take (i := 1) (v := ?_) rfl (by kernel_rfl) (by kernel_rfl) (by kernel_rfl) (fun _ _ _ h => h) (Or.inl ⟨by rfl, ?hy⟩) (by assumption) ?_
  case hy => (intro w hSw; (try dsimp only at hSw); go_simp; try with_reducible rfl)
  try simp only [Act.put, List.setIfInBounds_toArray, List.set_cons_zero, List.set_cons_succ]
  refine wpAnyH_take (i := 2) (v := ?_) rfl (by kernel_rfl) (by kernel_rfl) (by kernel_rfl) (fun _ _ _ h => h) (Or.inl ⟨by rfl, ?hy⟩) (by assumption) ?_
  case hy => (intro w hSw; (try dsimp only at hSw); go_simp; try with_reducible rfl)
  try simp only [Act.put, List.setIfInBounds_toArray, List.set_cons_zero, List.set_cons_succ]
  refine wpAnyH_take (i := 5) (v := ?_) rfl (by kernel_rfl) (by kernel_rfl) (by kernel_rfl) (fun _ _ _ h => h) (Or.inl ⟨by rfl, ?hy⟩) (by assumption) ?_
  case hy => (intro w hSw; (try dsimp only at hSw); go_simp; try with_reducible rfl)
  try simp only [Act.put, List.setIfInBounds_toArray, List.set_cons_zero, List.set_cons_succ]
  refine wpAnyH_take (i := 7) (v := ?_) rfl (by kernel_rfl) (by kernel_rfl) (by kernel_rfl) (fun _ _ _ h => h) (Or.inl ⟨by rfl, ?hy⟩) (by assumption) ?_
  case hy => (intro w hSw; (try dsimp only at hSw); go_simp; try with_reducible rfl)
  try simp only [Act.put, List.setIfInBounds_toArray, List.set_cons_zero, List.set_cons_succ]
  refine wpAnyH_take (i := 8) (v := ?_) rfl (by kernel_rfl) (by kernel_rfl) (by kernel_rfl) (fun _ _ _ h => h) (Or.inl ⟨by rfl, ?hy⟩) (by assumption) ?_
  case hy => (intro w hSw; (try dsimp only at hSw); go_simp; try with_reducible rfl)
  try simp only [Act.put, List.setIfInBounds_toArray, List.set_cons_zero, List.set_cons_succ]
  refine wpAnyH_ready (rs := [3]) (by kernel_rfl) (by simp) ?_
  refine AllReadyH.cons rfl (fun K hK => ?_) AllReadyH.nil
  go_simp
  refine (HH.out _ K0.out).mono ?_
  rintro e w2 ⟨rfl, hk⟩
  refine hK.out _ _ ?_ (fun hHeld2 => ?_)
  · exact ⟨hk.cell (by simp) hHeld.1, hk.cell (by simp) hHeld.2.1, hk.cell (by simp) hHeld.2.2.1, hk.cell (by simp) hHeld.2.2.2⟩
  clear hK K hHeld
  have hHeld := hHeld2
  clear hHeld2
  try simp only [Act.put, List.setIfInBounds_toArray, List.set_cons_zero, List.set_cons_succ]
  have K1 := Lib.hid (K0.out.trans hk)
  clear hk K0
  have K0 := K1
  clear K1
  have hfl := field_0 g1 n1 c1 g2 n2 c2
  refine wpAnyH_take (i := 4) (v := ?_) rfl (by kernel_rfl) (by kernel_rfl) (by kernel_rfl) (fun _ _ _ h => h) (Or.inl ⟨by rfl, ?hy⟩) (by assumption) ?_
  case hy => (intro w hSw; (try dsimp only at hSw); go_simp; try with_reducible rfl)
  try simp only [Act.put, List.setIfInBounds_toArray, List.set_cons_zero, List.set_cons_succ]
  clear hfl
  refine wpAnyH_ready (rs := [6]) (by kernel_rfl) (by simp) ?_
  refine AllReadyH.cons rfl (fun K hK => ?_) AllReadyH.nil
  go_simp
  refine (item0_int _ _ _ _ i HI.out.1 HI.out.2).mono ?_
  rintro e w3 ⟨rfl, rfl⟩
  refine hK.out _ _ ?_ (fun hHeld2 => ?_)
  · exact hHeld
  clear hK K hHeld
  have hHeld := hHeld2
  clear hHeld2
  try simp only [Act.put, List.setIfInBounds_toArray, List.set_cons_zero, List.set_cons_succ]
  refine wpAnyH_ready (rs := [9]) (by kernel_rfl) (by simp) ?_
  refine AllReadyH.cons rfl (fun K hK => ?_) AllReadyH.nil
  go_simp
  refine (HR.out _ K0.out).mono ?_
  rintro e w4 ⟨rfl, rfl⟩
  refine hK.out _ _ ?_ (fun hHeld2 => ?_)
  · exact hHeld
  clear hK K hHeld
  have hHeld := hHeld2
  clear hHeld2
  try simp only [Act.put, List.setIfInBounds_toArray, List.set_cons_zero, List.set_cons_succ]
  refine wpAnyH_ready (rs := [10]) (by kernel_rfl) (by simp) ?_
  refine AllReadyH.cons rfl (fun K hK => ?_) AllReadyH.nil
  go_simp
  refine hK.out _ _ ?_ (fun hHeld2 => ?_)
  · exact hHeld
  clear hK K hHeld
  have hHeld := hHeld2
  clear hHeld2
  try simp only [Act.put, List.setIfInBounds_toArray, List.set_cons_zero, List.set_cons_succ]
  have hg := K0.out.row (by simp) HG.out.1
  have hgc := (cell_of_row hg i).trans HG.out.2.1
  have hgf := free_of_row hg i
  (try simp at hgc)
  (try simp at hgf)
  clear hg
  refine wpAnyH_ready (rs := [11]) (by kernel_rfl) (by simp) ?_
  refine AllReadyH.cons rfl (fun K hK => ?_) AllReadyH.nil
  go_simp
  have kst : ∀ (W : World) (v : Value), Kp [g1] W (W.setCell ⟨g1, i, none⟩ v) := fun W v => (Kp.refl _ _).setCell (.inl (by simp)) v
  obtain ⟨eg, ed, es, ei⟩ := HG.out.2.2
  refine hK.out _ _ ?_ (fun hHeld2 => ?_)
  · exact ⟨(kst _ _).cell (by simpa using eg) hHeld.1, (kst _ _).cell (by simpa using ed) hHeld.2.1, (kst _ _).cell (by simpa using es) hHeld.2.2.1, (kst _ _).cell (by simpa using ei) hHeld.2.2.2⟩
  clear hK K hHeld hHeld2 hgc hgf kst
  try simp only [Act.put, List.setIfInBounds_toArray, List.set_cons_zero, List.set_cons_succ]
  refine wpAnyH_done (by kernel_rfl) ?_ _
  go_wp2_with fail
  go_end0
  exact ⟨rfl, _, trivial, K0.out, rfl⟩

end Go.Proofs.YtmbhhadghiojeaaGreat

namespace Go.Proofs.YtmbhhadghiojeaaGreat
set_option linter.unusedVariables false
set_option linter.unusedSimpArgs false
open Go.RowKit

set_option maxRecDepth 100000 in
theorem ac_read_ok (w : World) (bg bt bs bi bn : Nat) (p q : Nat) (i : Nat) (t s y : Int) (hg : w.cell? ⟨bg, 0, none⟩ = some (.pointer (some ⟨p, 0, none⟩))) (ht : w.cell? ⟨bt, 0, none⟩ = some (.int .i64 t)) (hs : w.cell? ⟨bs, 0, none⟩ = some (.int .i64 s)) (hi : w.cell? ⟨bi, 0, none⟩ = some (.int .i64 i)) (hth : ThIs w p t [s] q) (g1 n1 c1 g2 n2 c2 : Nat) (hhe : HeIs w p q s (.slice (some ⟨g1, 0, none⟩) n1 c1) (.slice (some ⟨g2, 0, none⟩) n2 c2)) (hi1 : i < n2 ∧ n2 ≤ 100000) (hat : w.cell? ⟨g2, i, none⟩ = some (.int .u64 y)) (z : Int) (hg1 : w.heap[bn]? = some (.cells #[.int .u64 z] 31 (0, 0)) ∧ #[Value.int .u64 z][0]? = some (.int .u64 z) ∧ bg ≠ bn ∧ bs ≠ bn ∧ bi ≠ bn) :
    Calls Tryz.prog 66 #[.pointer (some ⟨bg, 0, none⟩), .pointer (some ⟨bt, 0, none⟩), .pointer (some ⟨bs, 0, none⟩), .pointer (some ⟨bi, 0, none⟩), .pointer (some ⟨bn, 0, none⟩)] w (Made w [] (fun _ => True) bn 0 (.int .u64 y)) := by
  have ka : Kp [] w (w.alloc (.cells #[.int .i64 s] 3)) := (Kp.refl _ _).alloc _
  have h1 := hth _ _ ka (rd_new w [s])
  have HH := Lib.hid hhe
  have HI := Lib.hid hi1
  have HA := Lib.hid hat
  have HG := Lib.hid hg1
  have CC := Lib.hid (show Kp [] w (w.alloc (.cells #[.int .i64 s] 3)) ∧ (w.alloc (.cells #[.int .i64 s] 3)).cell? ⟨bg, 0, none⟩ = some (.pointer (some ⟨p, 0, none⟩)) ∧ (w.alloc (.cells #[.int .i64 s] 3)).cell? ⟨bs, 0, none⟩ = some (.int .i64 s) ∧ (w.alloc (.cells #[.int .i64 s] 3)).cell? ⟨bi, 0, none⟩ = some (.int .i64 i) from ⟨ka, ka.cell (by simp) hg, ka.cell (by simp) hs, ka.cell (by simp) hi⟩)
  clear hth ka hhe hi1 hat hg1
  simp only [List.length_cons, List.length_nil] at h1
  go_enter Tryz.func66, Tryz.ntmps66
  go_wp2_with fail
  refine h1.mono ?_
  rintro e w1 ⟨rfl, rfl⟩
  clear h1 hg ht hs hi
  obtain ⟨hk0, hg, hs, hi⟩ := CC.out
  clear CC
  generalize (w.alloc (.cells #[.int .i64 s] 3)) = wa at *
  have K0 := Lib.hid (hk0.trans (kp_drewN _ 1))
  clear hk0
  go_wp2_with fail
  refine wp_region_held_drew (S := (fun w' => w'.cell? ⟨bg, 0, none⟩ = some (.pointer (some ⟨p, 0, none⟩)) ∧ w'.cell? ⟨bs, 0, none⟩ = some (.int .i64 s) ∧ w'.cell? ⟨bi, 0, none⟩ = some (.int .i64 i))) (by kernel_rfl) ?_ (fun hHeld => ?_)
  · exact ⟨(kp_drewN (S := []) _ 1).cell (by simp) hg, (kp_drewN (S := []) _ 1).cell (by simp) hs, (kp_drewN (S := []) _ 1).cell (by simp) hi⟩
  clear hg hs hi
  refine wpAnyH_take (i := 0) (v := ?_) rfl (by kernel_rfl) (by kernel_rfl) (by kernel_rfl) (fun _ _ _ h => h) (Or.inl ⟨by rfl, ?hy⟩) (by assumption) ?_
  case hy => (intro w hSw; (try dsimp only at hSw); go_simp; try with_reducible rfl)
  try simp only [Act.put, List.setIfInBounds_toArray, List.set_cons_zero, List.set_cons_succ]
  refine wpAnyH_take (i := 1) (v := ?_) rfl (by kernel_rfl) (by kernel_rfl) (by kernel_rfl) (fun _ _ _ h => h) (Or.inl ⟨by rfl, ?hy⟩) (by assumption) ?_
  case hy => (intro w hSw; (try dsimp only at hSw); go_simp; try with_reducible rfl)
  try simp only [Act.put, List.setIfInBounds_toArray, List.set_cons_zero, List.set_cons_succ]
  refine wpAnyH_take (i := 2) (v := ?_) rfl (by kernel_rfl) (by kernel_rfl) (by kernel_rfl) (fun _ _ _ h => h) (Or.inl ⟨by rfl, ?hy⟩) (by assumption) ?_
  case hy => (intro w hSw; (try dsimp only at hSw); go_simp; try with_reducible rfl)
  try simp only [Act.put, List.setIfInBounds_toArray, List.set_cons_zero, List.set_cons_succ]
  refine wpAnyH_take (i := 5) (v := ?_) rfl (by kernel_rfl) (by kernel_rfl) (by kernel_rfl) (fun _ _ _ h => h) (Or.inl ⟨by rfl, ?hy⟩) (by assumption) ?_
  case hy => (intro w hSw; (try dsimp only at hSw); go_simp; try with_reducible rfl)
  try simp only [Act.put, List.setIfInBounds_toArray, List.set_cons_zero, List.set_cons_succ]
  refine wpAnyH_ready (rs := [3]) (by kernel_rfl) (by simp) ?_
  refine AllReadyH.cons rfl (fun K hK => ?_) AllReadyH.nil
  go_simp
  refine (HH.out _ K0.out).mono ?_
  rintro e w2 ⟨rfl, hk⟩
  refine hK.out _ _ ?_ (fun hHeld2 => ?_)
  · exact ⟨hk.cell (by simp) hHeld.1, hk.cell (by simp) hHeld.2.1, hk.cell (by simp) hHeld.2.2⟩
  clear hK K hHeld
  have hHeld := hHeld2
  clear hHeld2
  try simp only [Act.put, List.setIfInBounds_toArray, List.set_cons_zero, List.set_cons_succ]
  have K1 := Lib.hid (K0.out.trans hk)
  clear hk K0
  have K0 := K1
  clear K1
  have hfl := field_1 g1 n1 c1 g2 n2 c2
  refine wpAnyH_take (i := 4) (v := ?_) rfl (by kernel_rfl) (by kernel_rfl) (by kernel_rfl) (fun _ _ _ h => h) (Or.inl ⟨by rfl, ?hy⟩) (by assumption) ?_
  case hy => (intro w hSw; (try dsimp only at hSw); go_simp; try with_reducible rfl)
  try simp only [Act.put, List.setIfInBounds_toArray, List.set_cons_zero, List.set_cons_succ]
  clear hfl
  refine wpAnyH_ready (rs := [6]) (by kernel_rfl) (by simp) ?_
  refine AllReadyH.cons rfl (fun K hK => ?_) AllReadyH.nil
  go_simp
  refine (item0_u64 _ _ _ _ i HI.out.1 HI.out.2).mono ?_
  rintro e w3 ⟨rfl, rfl⟩
  refine hK.out _ _ ?_ (fun hHeld2 => ?_)
  · exact hHeld
  clear hK K hHeld
  have hHeld := hHeld2
  clear hHeld2
  try simp only [Act.put, List.setIfInBounds_toArray, List.set_cons_zero, List.set_cons_succ]
  refine wpAnyH_ready (rs := [7]) (by kernel_rfl) (by simp) ?_
  refine AllReadyH.cons rfl (fun K hK => ?_) AllReadyH.nil
  go_simp
  refine hK.out _ _ ?_ (fun hHeld2 => ?_)
  · exact hHeld
  clear hK K hHeld
  have hHeld := hHeld2
  clear hHeld2
  try simp only [Act.put, List.setIfInBounds_toArray, List.set_cons_zero, List.set_cons_succ]
  have hat := K0.out.cell (by simp) HA.out
  (try simp at hat)
  refine wpAnyH_ready (rs := [8]) (by kernel_rfl) (by simp) ?_
  refine AllReadyH.cons rfl (fun K hK => ?_) AllReadyH.nil
  go_simp
  refine hK.out _ _ ?_ (fun hHeld2 => ?_)
  · exact hHeld
  clear hK K hHeld
  have hHeld := hHeld2
  clear hHeld2
  try simp only [Act.put, List.setIfInBounds_toArray, List.set_cons_zero, List.set_cons_succ]
  clear hat
  have hg := K0.out.row (by simp) HG.out.1
  have hgc := (cell_of_row hg 0).trans HG.out.2.1
  have hgf := free_of_row hg 0
  (try simp at hgc)
  (try simp at hgf)
  clear hg
  refine wpAnyH_ready (rs := [9]) (by kernel_rfl) (by simp) ?_
  refine AllReadyH.cons rfl (fun K hK => ?_) AllReadyH.nil
  go_simp
  have kst : ∀ (W : World) (v : Value), Kp [bn] W (W.setCell ⟨bn, 0, none⟩ v) := fun W v => (Kp.refl _ _).setCell (.inl (by simp)) v
  obtain ⟨eg, es, ei⟩ := HG.out.2.2
  refine hK.out _ _ ?_ (fun hHeld2 => ?_)
  · exact ⟨(kst _ _).cell (by simpa using eg) hHeld.1, (kst _ _).cell (by simpa using es) hHeld.2.1, (kst _ _).cell (by simpa using ei) hHeld.2.2⟩
  clear hK K hHeld hHeld2 hgc hgf kst
  try simp only [Act.put, List.setIfInBounds_toArray, List.set_cons_zero, List.set_cons_succ]
  refine wpAnyH_done (by kernel_rfl) ?_ _
  go_wp2_with fail
  go_end0
  exact ⟨rfl, _, trivial, K0.out, rfl⟩

set_option maxRecDepth 100000 in
theorem ac_write_ok (w : World) (bg bt bs bv bi : Nat) (p q : Nat) (i : Nat) (t s v : Int) (hg : w.cell? ⟨bg, 0, none⟩ = some (.pointer (some ⟨p, 0, none⟩))) (ht : w.cell? ⟨bt, 0, none⟩ = some (.int .i64 t)) (hs : w.cell? ⟨bs, 0, none⟩ = some (.int .i64 s)) (hv : w.cell? ⟨bv, 0, none⟩ = some (.int .u64 v)) (hi : w.cell? ⟨bi, 0, none⟩ = some (.int .i64 i)) (hth : ThIs w p t [s] q) (g1 n1 c1 g2 n2 c2 : Nat) (hhe : HeIs w p q s (.slice (some ⟨g1, 0, none⟩) n1 c1) (.slice (some ⟨g2, 0, none⟩) n2 c2)) (hi1 : i < n2 ∧ n2 ≤ 100000) (cur : Array Value) (u : Value) (hg1 : w.heap[g2]? = some (.cells cur 31 (0, 0)) ∧ cur[i]? = some u ∧ bg ≠ g2 ∧ bs ≠ g2 ∧ bv ≠ g2 ∧ bi ≠ g2) :
    Calls Tryz.prog 68 #[.pointer (some ⟨bg, 0, none⟩), .pointer (some ⟨bt, 0, none⟩), .pointer (some ⟨bs, 0, none⟩), .pointer (some ⟨bv, 0, none⟩), .pointer (some ⟨bi, 0, none⟩)] w (Made w [] (fun _ => True) g2 i (.int .u64 v)) := by
  have ka : Kp [] w (w.alloc (.cells #[.int .i64 s] 3)) := (Kp.refl _ _).alloc _
  have h1 := hth _ _ ka (rd_new w [s])
  have HH := Lib.hid hhe
  have HI := Lib.hid hi1
  have HG := Lib.hid hg1
  have CC := Lib.hid (show Kp [] w (w.alloc (.cells #[.int .i64 s] 3)) ∧ (w.alloc (.cells #[.int .i64 s] 3)).cell? ⟨bg, 0, none⟩ = some (.pointer (some ⟨p, 0, none⟩)) ∧ (w.alloc (.cells #[.int .i64 s] 3)).cell? ⟨bs, 0, none⟩ = some (.int .i64 s) ∧ (w.alloc (.cells #[.int .i64 s] 3)).cell? ⟨bv, 0, none⟩ = some (.int .u64 v) ∧ (w.alloc (.cells #[.int .i64 s] 3)).cell? ⟨bi, 0, none⟩ = some (.int .i64 i) from ⟨ka, ka.cell (by simp) hg, ka.cell (by simp) hs, ka.cell (by simp) hv, ka.cell (by simp) hi⟩)
  clear hth ka hhe hi1 hg1
  simp only [List.length_cons, List.length_nil] at h1
  go_enter Tryz.func68, Tryz.ntmps68
  go_wp2_with fail
  refine h1.mono ?_
  rintro e w1 ⟨rfl, rfl⟩
  clear h1 hg ht hs hv hi
  obtain ⟨hk0, hg, hs, hv, hi⟩ := CC.out
  clear CC
  generalize (w.alloc (.cells #[.int .i64 s] 3)) = wa at *
  have K0 := Lib.hid (hk0.trans (kp_drewN _ 1))
  clear hk0
  go_wp2_with fail
  refine wp_region_held_drew (S := (fun w' => w'.cell? ⟨bg, 0, none⟩ = some (.pointer (some ⟨p, 0, none⟩)) ∧ w'.cell? ⟨bs, 0, none⟩ = some (.int .i64 s) ∧ w'.cell? ⟨bv, 0, none⟩ = some (.int .u64 v) ∧ w'.cell? ⟨bi, 0, none⟩ = some (.int .i64 i))) (by kernel_rfl) ?_ (fun hHeld => ?_)
  · exact ⟨(kp_drewN (S := []) _ 1).cell (by simp) hg, (kp_drewN (S := []) _ 1).cell (by simp) hs, (kp_drewN (S := []) _ 1).cell (by simp) hv, (kp_drewN (S := []) _ 1).cell (by simp) hi⟩
  clear hg hs hv hi
  refine wpAnyH_take (i := 0) (v := ?_) rfl (by kernel_rfl) (by kernel_rfl) (by kernel_rfl) (fun _ _ _ h => h) (Or.inl ⟨by rfl, ?hy⟩) (by assumption) ?_
  case hy => (intro w hSw; (try dsimp only at hSw); go_simp; try with_reducible rfl)
  try simp only [Act.put, List.setIfInBounds_toArray, List.set_cons_zero, List.set_cons_succ]
  refine wpAnyH_take (i := 1) (v := ?_) rfl (by kernel_rfl) (by kernel_rfl) (by kernel_rfl) (fun _ _ _ h => h) (Or.inl ⟨by rfl, ?hy⟩) (by assumption) ?_
  case hy => (intro w hSw; (try dsimp only at hSw); go_simp; try with_reducible rfl)
  try simp only [Act.put, List.setIfInBounds_toArray, List.set_cons_zero, List.set_cons_succ]
  refine wpAnyH_take (i := 2) (v := ?_) rfl (by kernel_rfl) (by kernel_rfl) (by kernel_rfl) (fun _ _ _ h => h) (Or.inl ⟨by rfl, ?hy⟩) (by assumption) ?_
  case hy => (intro w hSw; (try dsimp only at hSw); go_simp; try with_reducible rfl)
  try simp only [Act.put, List.setIfInBounds_toArray, List.set_cons_zero, List.set_cons_succ]
  refine wpAnyH_take (i := 5) (v := ?_) rfl (by kernel_rfl) (by kernel_rfl) (by kernel_rfl) (fun _ _ _ h => h) (Or.inl ⟨by rfl, ?hy⟩) (by assumption) ?_
  case hy => (intro w hSw; (try dsimp only at hSw); go_simp; try with_reducible rfl)
  try simp only [Act.put, List.setIfInBounds_toArray, List.set_cons_zero, List.set_cons_succ]
  refine wpAnyH_take (i := 7) (v := ?_) rfl (by kernel_rfl) (by kernel_rfl) (by kernel_rfl) (fun _ _ _ h => h) (Or.inl ⟨by rfl, ?hy⟩) (by assumption) ?_
  case hy => (intro w hSw; (try dsimp only at hSw); go_simp; try with_reducible rfl)
  try simp only [Act.put, List.setIfInBounds_toArray, List.set_cons_zero, List.set_cons_succ]
  refine wpAnyH_ready (rs := [3]) (by kernel_rfl) (by simp) ?_
  refine AllReadyH.cons rfl (fun K hK => ?_) AllReadyH.nil
  go_simp
  refine (HH.out _ K0.out).mono ?_
  rintro e w2 ⟨rfl, hk⟩
  refine hK.out _ _ ?_ (fun hHeld2 => ?_)
  · exact ⟨hk.cell (by simp) hHeld.1, hk.cell (by simp) hHeld.2.1, hk.cell (by simp) hHeld.2.2.1, hk.cell (by simp) hHeld.2.2.2⟩
  clear hK K hHeld
  have hHeld := hHeld2
  clear hHeld2
  try simp only [Act.put, List.setIfInBounds_toArray, List.set_cons_zero, List.set_cons_succ]
  have K1 := Lib.hid (K0.out.trans hk)
  clear hk K0
  have K0 := K1
  clear K1
  have hfl := field_1 g1 n1 c1 g2 n2 c2
  refine wpAnyH_take (i := 4) (v := ?_) rfl (by kernel_rfl) (by kernel_rfl) (by kernel_rfl) (fun _ _ _ h => h) (Or.inl ⟨by rfl, ?hy⟩) (by assumption) ?_
  case hy => (intro w hSw; (try dsimp only at hSw); go_simp; try with_reducible rfl)
  try simp only [Act.put, List.setIfInBounds_toArray, List.set_cons_zero, List.set_cons_succ]
  clear hfl
  refine wpAnyH_ready (rs := [6]) (by kernel_rfl) (by simp) ?_
  refine AllReadyH.cons rfl (fun K hK => ?_) AllReadyH.nil
  go_simp
  refine (item0_u64 _ _ _ _ i HI.out.1 HI.out.2).mono ?_
  rintro e w3 ⟨rfl, rfl⟩
  refine hK.out _ _ ?_ (fun hHeld2 => ?_)
  · exact hHeld
  clear hK K hHeld
  have hHeld := hHeld2
  clear hHeld2
  try simp only [Act.put, List.setIfInBounds_toArray, List.set_cons_zero, List.set_cons_succ]
  refine wpAnyH_ready (rs := [8]) (by kernel_rfl) (by simp) ?_
  refine AllReadyH.cons rfl (fun K hK => ?_) AllReadyH.nil
  go_simp
  refine hK.out _ _ ?_ (fun hHeld2 => ?_)
  · exact hHeld
  clear hK K hHeld
  have hHeld := hHeld2
  clear hHeld2
  try simp only [Act.put, List.setIfInBounds_toArray, List.set_cons_zero, List.set_cons_succ]
  have hg := K0.out.row (by simp) HG.out.1
  have hgc := (cell_of_row hg i).trans HG.out.2.1
  have hgf := free_of_row hg i
  (try simp at hgc)
  (try simp at hgf)
  clear hg
  refine wpAnyH_ready (rs := [9]) (by kernel_rfl) (by simp) ?_
  refine AllReadyH.cons rfl (fun K hK => ?_) AllReadyH.nil
  go_simp
  have kst : ∀ (W : World) (v : Value), Kp [g2] W (W.setCell ⟨g2, i, none⟩ v) := fun W v => (Kp.refl _ _).setCell (.inl (by simp)) v
  obtain ⟨eg, es, ev, ei⟩ := HG.out.2.2
  refine hK.out _ _ ?_ (fun hHeld2 => ?_)
  · exact ⟨(kst _ _).cell (by simpa using eg) hHeld.1, (kst _ _).cell (by simpa using es) hHeld.2.1, (kst _ _).cell (by simpa using ev) hHeld.2.2.1, (kst _ _).cell (by simpa using ei) hHeld.2.2.2⟩
  clear hK K hHeld hHeld2 hgc hgf kst
  try simp only [Act.put, List.setIfInBounds_toArray, List.set_cons_zero, List.set_cons_succ]
  refine wpAnyH_done (by kernel_rfl) ?_ _
  go_wp2_with fail
  go_end0
  exact ⟨rfl, _, trivial, K0.out, rfl⟩

end Go.Proofs.YtmbhhadghiojeaaGreat
