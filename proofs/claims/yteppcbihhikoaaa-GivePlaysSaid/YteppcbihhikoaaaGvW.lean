/- The law's own helpers (demesnelaw14): an entry is turned, an arena is made, the known blocks (wakes). Conditions: as each theorem states them. -/
import Derived.Test.YteppcbihhikoaaaGvG
import Derived.Test.YteppcbihhikoaaaArnC
import Derived.Test.YteppcbihhikoaaaGvS
import Derived.Carry
namespace Go.Proofs.Yteppcbihhikoaaa
set_option linter.unusedVariables false
set_option linter.unusedSimpArgs false
set_option maxRecDepth 100000
open Go.RowKit

/-- A struct that lies in a block, between two plain results. -/
theorem results_tmp_cell_tmp {fn : Func} {u p v : Tmp} {ty : TypeId} (h : fn.results = #[.tmp u, .cell p ty, .tmp v]) (tmps : Array Value) (P : Program) (w : World) :
    (results fn tmps).run P w = ((asAddr (tmps.getD p undef)).run P w).andThen fun a w₁ => ((loadVar ty a).run P w₁).andThen fun x w₂ => .ok (.tuple #[tmps.getD u undef, x, tmps.getD v undef]) w₂ := by
  simp only [results, h]
  simp [Sem.run_bind, Result.andThen]
theorem bodyPost_tmp_row_tmp {P : Program} {fn : Func} {R : Ending → World → Prop} {a : Act} {w : World} {u p v : Tmp} {ty : TypeId} (h : fn.results = #[.tmp u, .cell p ty, .tmp v]) (g : Nat) (x y z : Value)
    (hx : a.tmps.getD u undef = x) (hp : a.tmps.getD p undef = .pointer (some ⟨g, 0, none⟩)) (hy : a.tmps.getD v undef = y) (hdef : a.defers = []) (hl : (loadVar ty ⟨g, 0, none⟩).run P w = .ok z w)
    (hR : R (.returned (.tuple #[x, z, y])) w) : bodyPost P fn R .ret a w := by
  subst hx hy
  refine bodyPost_ret ?_ hdef hR
  rw [results_tmp_cell_tmp h, hp]
  simp [asAddr, hl, Result.andThen]

theorem entry_is (k c r o : Int) (w : World) :
    Calls Try.prog 17 #[.agg #[.int .u8 k, .int .u8 c, .int .u8 r, .int .u8 o]] w fun e w' => e = .returned (.agg #[.int .u8 k, .int .u8 c, .int .u8 r, .int .u8 o]) ∧ Kp [] w w' := by
  go_enter Try.func17, Try.ntmps17
  go_wp2
  go_returns
  exact ⟨rfl, kp_of_below (by go_grown)⟩

theorem words_new (n : Nat) : List.replicate (5 + 33 * n) (0 : Int) = wordsG n ⟨0, List.replicate n 0⟩ := by
  unfold wordsG
  rw [List.replicate_append_replicate, show n + 32 * n = 33 * n from by omega, Nat.add_comm 5]
  rfl
theorem gw_new {w' : World} {n p r : Nat} (hn : n ≤ 64) (h : Ar w' p r (fresh (5 + 33 * n))) : Gw n p r ⟨0, List.replicate n 0⟩ 0 w' := by
  refine ⟨⟨0, ?_⟩, ⟨by simp, (by decide : (0 : Nat) < 18446744073709551616), fun k => ?_⟩, hn⟩
  · have : fresh (5 + 33 * n) = ⟨wordsG n ⟨0, List.replicate n 0⟩, 0, 0⟩ := by unfold fresh; rw [words_new]
    rw [← this]; exact h
  · simp only [List.getD_eq_getElem?_getD, List.getElem?_replicate]
    split <;> simp

def z4 : Array Value := #[.int .i64 0, .int .i64 0, .int .i64 0]
def l3 (n : Nat) : Array Value := #[.int .i64 1, .int .i64 1, .int .i64 n]
/-- What Made's region holds on to. -/
def Ms (b n : Nat) (w2 wx : World) : Prop :=
  wx.cell? ⟨w2.heap.size, 0, none⟩ = some (.int .i64 1) ∧ wx.cell? ⟨w2.heap.size, 1, none⟩ = some (.int .i64 1) ∧ wx.cell? ⟨w2.heap.size, 2, none⟩ = some (.int .i64 n) ∧ Kp [b] w2 wx
theorem ms_of {b n : Nat} {w2 : World} (k : Kp [] w2 (w2.alloc (.cells (l3 n) 26))) : Ms b n w2 (w2.alloc (.cells (l3 n) 26)) := by
  have h := heap_alloc_new w2 (.cells (l3 n) 26)
  exact ⟨cell_of_row h 0, cell_of_row h 1, cell_of_row h 2, k.mono (by simp)⟩
theorem ms_keep {b n : Nat} {w2 wx wy : World} (h : Ms b n w2 wx) (k : Kp [b] wx wy) (hb : b < w2.heap.size) : Ms b n w2 wy :=
  ⟨kp_cell k (by simp; omega) h.1, kp_cell k (by simp; omega) h.2.1, kp_cell k (by simp; omega) h.2.2.1, h.2.2.2.trans k⟩
set_option maxHeartbeats 2000000 in
theorem made_is (w : World) (n : Nat) (h1 : 1 ≤ n) (h64 : n ≤ 64) :
    Calls Try.prog 5 #[.int .i64 n] w fun e w' => e = .returned (.tuple #[.pointer (some ⟨w.heap.size + 1 + 1, 0, none⟩), .agg #[.int .i64 1, .int .i64 1, .int .i64 n], .bool true]) ∧ Gw n (w.heap.size + 1 + 1) (w.heap.size + 1) ⟨0, List.replicate n 0⟩ 0 w' ∧ Kp [] w w' := by
  have e1 := IntWalk.i64_in (33 * (n : Int)) (by omega)
  have e2 := IntWalk.i64_in (5 + 33 * (n : Int)) (by omega)
  have hnew := Lib.hid (fun w => new_good w (5 + 33 * n) (by omega) (by omega))
  simp only [Int.natCast_add, Int.natCast_mul, Int.cast_ofNat_Int] at hnew
  have hlay := Lib.hid (fun w => Ly.new_ok (5 + 33 * n) 1 1 n w (by unfold Ly.blkP; omega) (by omega) (by omega) (by omega) (by omega) (by omega) (by omega) (by omega))
  have hB := Lib.hid (fun w => Ly.blocks_is 1 1 n w)
  have z1 := World.size_alloc w (.cells z4 26)
  have hb0 := heap_alloc_new w (.cells z4 26)
  have k0 : Kp [] w (w.alloc (.cells z4 26)) := (Kp.refl _ _).alloc _
  go_enter Try.func5, Try.ntmps5
  go_wp2_with fail
  refine (hnew.out _).mono ?_
  rintro e w1 ⟨rfl, ha, hk⟩
  have hw1 := hk.row (by simp) hb0
  have z2 : w.heap.size + 1 ≤ w1.heap.size := by have := hk.size; simpa using this
  have HA := Lib.hid ha
  have K1 := Lib.hid (k0.trans hk)
  clear ha hk hb0 k0
  go_wp2_with fail
  refine (hlay.out _).mono ?_
  rintro e w2 ⟨rfl, hk⟩
  have hw2 := hk.row (by simp) hw1
  have HA2 := Lib.hid (HA.out.keep hk (by simp) (by simp))
  have K2 := Lib.hid (K1.out.trans hk)
  have ka : Kp [] w2 (w2.alloc (.cells (l3 n) 26)) := (Kp.refl _ _).alloc _
  have z3 := hk.size
  have n1 : ¬ w.heap.size = w2.heap.size := by omega
  have n2 : ¬ w2.heap.size = w.heap.size := by omega
  have c0 : w2.cell? ⟨w.heap.size, 0, none⟩ = some (.int .i64 0) := cell_of_row hw2 0
  have c1 : w2.cell? ⟨w.heap.size, 1, none⟩ = some (.int .i64 0) := cell_of_row hw2 1
  have c2 : w2.cell? ⟨w.heap.size, 2, none⟩ = some (.int .i64 0) := cell_of_row hw2 2
  have HW2 := Lib.hid hw2
  clear hw1 hw2
  go_wp2_with fail
  have HS := Lib.hid (ms_of (b := w.heap.size) ka)
  have n3 : w.heap.size < w2.heap.size := by omega
  go_region_held3 (fun wx => wx.cell? ⟨w2.heap.size, 0, none⟩ = some (.int .i64 1) ∧ wx.cell? ⟨w2.heap.size, 1, none⟩ = some (.int .i64 1) ∧ wx.cell? ⟨w2.heap.size, 2, none⟩ = some (.int .i64 n) ∧ Kp [w.heap.size] w2 wx)
    (first
      | exact ms_keep HS.out ((Kp.refl _ _).drew) n3
      | exact ms_keep (ms_keep HS.out ((Kp.refl _ _).drew) n3) (hk5.mono (by simp)) n3
      | exact ms_keep (ms_keep (ms_keep HS.out ((Kp.refl _ _).drew) n3) (hk5.mono (by simp)) n3) (put3_kp _ _ _ _ _) n3)
    (first
    | (go_at_call 26; refine (hB.out _).mono ?_; rintro e w5 ⟨rfl, hk5⟩
       have hk6 : Kp [] w2 w5 := by first | exact ka.trans hk5 | exact ka.trans hk5.drew_l
       have b5 := hk6.row (by simp) HW2.out
       have d0 : w5.cell? ⟨w.heap.size, 0, none⟩ = some (.int .i64 0) := cell_of_row b5 0
       have d1 : w5.cell? ⟨w.heap.size, 1, none⟩ = some (.int .i64 0) := cell_of_row b5 1
       have d2 : w5.cell? ⟨w.heap.size, 2, none⟩ = some (.int .i64 0) := cell_of_row b5 2
       have f0 := free_of_row b5 0
       have f1 := free_of_row b5 1
       have f2 := free_of_row b5 2
       have B5 := Lib.hid b5
       have K5 := Lib.hid hk6
       clear b5 hk6))
  rename_i hHeld
  clear hHeld
  go_wp2_with fail
  have hk7 := K5.out
  have hk8 : Kp [w.heap.size] w5 (put3 w5 w.heap.size (.int .i64 1) (.int .i64 1) (.int .i64 n)) := put3_kp _ _ _ _ _
  refine bodyPost_tmp_row_tmp rfl w.heap.size _ _ (.agg (l3 n)) rfl rfl rfl rfl (run_loadVar_row _ w.heap.size _ _ _ (0, 0) _ (put3_row _ _ _ B5.out) Try.underlying26 rfl (by kernel_rfl)) ⟨rfl, ?_, ?_⟩
  · have h9 := ((HA2.out.keep hk7 (by simp) (by simp)).keep hk8 (by simp; omega) (by simp))
    simp only [World.size_alloc] at h9
    exact gw_new h64 h9
  · exact kp_own (K2.out.trans hk7) hk8 (Nat.le_refl _)

/-- The arena, the layout's box, and what was there before. -/
structure Wk (a p r n : Nat) (g : Gv) (t : Nat) (w0 w : World) : Prop where
  gw : Gw n p r g t w
  lx : Lx a n w
  kp : Kp [] w0 w
  ge : w0.heap.size ≤ p ∧ w0.heap.size ≤ r ∧ a ≠ p ∧ a ≠ r
section
variable {a p r n t t' : Nat} {g g' : Gv} {w0 w w' : World}
theorem Wk.step (h : Wk a p r n g t w0 w) (hg : Gw n p r g' t' w') (k : Kp [p, r] w w') : Wk a p r n g' t' w0 w' :=
  ⟨hg, h.lx.keep k (by have := h.ge; simp; omega), ((h.kp.mono (by simp)).trans k).mono fun x hx hlt => by have := h.ge; simp at hx; omega, h.ge⟩
theorem Wk.on (h : Wk a p r n g t w0 w) (k : Kp [] w w') : Wk a p r n g t w0 w' := h.step (h.gw.on k) (k.mono (by simp))
theorem Wk.new {w1 : World} (h : Gw n p r g t w1) (k : Kp [] w0 w1) (hp : w0.heap.size ≤ p) (hr : w0.heap.size ≤ r) : Wk w1.heap.size p r n g t w0 (w1.alloc (.cells #[.int .i64 1, .int .i64 1, .int .i64 n] 26)) :=
  ⟨h.on ((Kp.refl _ _).alloc _), Lx.new _ _, k.alloc _, hp, hr, by have := h.lt; omega, by have := h.lt; omega⟩
end

theorem none_small (M : Nat) (r : Int) (h : ∀ k : Nat, k < 64 → Bm.isR M k r true = false) : NoneRun M r := fun k => by
  by_cases hk : k < 64
  · exact h k hk
  · cases hb : Bm.isR M k r true with
    | false => rfl
    | true =>
      simp only [Bm.isR, Bool.and_eq_true, decide_eq_true_eq] at hb
      omega
theorem cl1 : Claims 3 1 0 true 2 := .inl ⟨0, by decide, ⟨by decide, fun j hj => by omega⟩, rfl, rfl, by decide⟩
theorem cl2 : Claims 2 2 0 false 2 := .inr ⟨none_small 2 2 (by decide), rfl, rfl, rfl⟩
theorem cl3 : Claims 2 1 1 true 0 := .inl ⟨1, by decide, ⟨by decide, by decide⟩, rfl, rfl, by decide⟩
theorem cl4 : Claims 0 1 0 false 0 := .inr ⟨none_small 0 1 (by decide), rfl, rfl, rfl⟩
theorem cl5 : Claims 1 1 0 true 0 := .inl ⟨0, by decide, ⟨by decide, fun j hj => by omega⟩, rfl, rfl, by decide⟩
theorem wk_back (E : List Int) : backG 2 ⟨0, E⟩ 0 1 = ⟨1, zer E 0 1⟩ := by
  have := backG_in (n := 2) (g := ⟨0, E⟩) (b := 0) (r := 1) (by decide) (by decide) (by decide)
  rw [show giveM 0 0 1 = 1 from by decide] at this
  exact this

set_option maxHeartbeats 2000000 in
theorem wakes_is (w : World) :
    Calls Try.prog 4 #[] w fun e w' => e = .returned (.bool true) ∧ Kp [] w w' := by
  have hm := Lib.hid (made_is w 2 (by decide) (by decide))
  go_enter Try.func4, Try.ntmps4
  go_wp2_with fail
  refine hm.out.mono ?_
  rintro e w1 ⟨rfl, hg, hk⟩
  obtain ⟨p, hp⟩ : ∃ p, p = w.heap.size + 1 + 1 := ⟨_, rfl⟩
  obtain ⟨r, hr⟩ : ∃ r, r = w.heap.size + 1 := ⟨_, rfl⟩
  rw [← hp, ← hr] at hg
  rw [← hp]
  have H0 : Hid (Wk w1.heap.size p r 2 ⟨0, List.replicate 2 0⟩ 0 w (w1.alloc (.cells #[.int .i64 1, .int .i64 1, .int .i64 2] 26))) := Lib.hid (Wk.new hg hk (by omega) (by omega))
  clear hg hk hp hr hm
  go_wp2_with fail
  refine (g_begin H0.out.gw (by decide) 3 (by decide)).mono ?_
  rintro e w2 ⟨rfl, hg, hk⟩
  have H1 := Lib.hid (H0.out.step hg hk)
  obtain ⟨b0, b1, b2⟩ := H1.out.lx
  clear hg hk H0
  go_wp2_with fail
  refine (g_claim H1.out.gw (by decide) cl1 1 (by decide)).mono ?_
  rintro e w3 ⟨rfl, hg, hk⟩
  have H2 := Lib.hid (H1.out.step hg hk)
  obtain ⟨b0, b1, b2⟩ := H2.out.lx
  clear hg hk H1
  go_wp2_with fail
  refine (g_claim H2.out.gw (by decide) cl2 1 (by decide)).mono ?_
  rintro e w4 ⟨rfl, hg, hk⟩
  have H3 := Lib.hid (H2.out.step hg hk)
  obtain ⟨b0, b1, b2⟩ := H3.out.lx
  clear hg hk H2
  go_wp2_with fail
  refine (g_claim H3.out.gw (by decide) cl3 1 (by decide)).mono ?_
  rintro e w5 ⟨rfl, hg, hk⟩
  have H4 := Lib.hid (H3.out.step hg hk)
  obtain ⟨b0, b1, b2⟩ := H4.out.lx
  clear hg hk H3
  go_wp2_with fail
  refine (g_claim H4.out.gw (by decide) cl4 1 (by decide)).mono ?_
  rintro e w6 ⟨rfl, hg, hk⟩
  have H5 := Lib.hid (H4.out.step hg hk)
  obtain ⟨b0, b1, b2⟩ := H5.out.lx
  clear hg hk H4
  go_wp2_with fail
  refine (g_back H5.out.gw (by decide) 0 1 2 (by decide)).mono ?_
  rintro e w7 ⟨rfl, hg, hk⟩
  rw [wk_back] at hg
  have H6 := Lib.hid (H5.out.step hg hk)
  obtain ⟨b0, b1, b2⟩ := H6.out.lx
  clear hg hk H5
  go_wp2_with fail
  refine (g_claim H6.out.gw (by decide) cl5 1 (by decide)).mono ?_
  rintro e w8 ⟨rfl, hg, hk⟩
  have H7 := Lib.hid (H6.out.step hg hk)
  obtain ⟨b0, b1, b2⟩ := H7.out.lx
  clear hg hk H6
  clear b0 b1 b2
  go_wp2_with fail
  go_ret
  exact ⟨rfl, H7.out.kp⟩

end Go.Proofs.Yteppcbihhikoaaa
