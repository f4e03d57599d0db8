/- The document's own roots (demesneref09): New, with, Set. The document's own roots (demesneref09): Push. The document's own roots (demesneref09): Push whatever it is; Pop. Conditions: as each theorem states them. -/
import Derived.Test.YtmbhhadghiojeaaGreatRtC
import Derived.Test.YtmbhhadghiojeaaGreatLaw
import Derived.OwnWalk
import Derived.Deep.AppendLies
import Derived.Deep.RegionHeld3
import Derived.Deep.RegionLaw
import Derived.Handy
import Derived.IntWalk
import Derived.Deep.CutRange
import Derived.Deep.CutBlock
import Derived.Deep.DeepCutAuto
namespace Go.Proofs.YtmbhhadghiojeaaGreat
set_option linter.unusedVariables false
set_option linter.unusedSimpArgs false
open Go.RowKit

/-- What holds in each world behind the boxes: the struct's box, the answer's box, and that nothing older has turned. -/
def Bx (w0 : World) (u v : Value) (w' : World) : Prop :=
  w'.cell? ⟨w0.heap.size, 0, none⟩ = some u ∧ w'.cell? ⟨w0.heap.size, 1, none⟩ = some v ∧
    w'.heap[w0.heap.size]? = some (.cells #[u, v] 64 (0, 0)) ∧
    (∃ cs, w'.heap[w0.heap.size + 1]? = some (.cells cs 64 (0, 0)) ∧ cs.size = 2) ∧ Kp [] w0 w'
section
variable {w0 w w' : World} {u v : Value}
theorem rx_mk (h1 : w'.heap[w0.heap.size]? = some (.cells #[u, v] 64 (0, 0))) (h2 : ∃ cs, w'.heap[w0.heap.size + 1]? = some (.cells cs 64 (0, 0)) ∧ cs.size = 2) (h3 : Kp [] w0 w') : Bx w0 u v w' :=
  ⟨by rw [cell_of_row h1]; rfl, by rw [cell_of_row h1]; rfl, h1, h2, h3⟩
theorem rx_kp (h : Bx w0 u v w) : Kp [] w0 w := h.2.2.2.2
theorem rx_to (h : Bx w0 u v w) (k : Ky w w') (hk : Kp [] w0 w') : Bx w0 u v w' := by
  obtain ⟨_, _, h1, ⟨cs, h2, h3⟩, _⟩ := h
  exact rx_mk (k _ _ _ (by decide) h1) ⟨cs, k _ _ _ (by decide) h2, h3⟩ hk
theorem rx_on (h : Bx w0 u v w) (k : Kp [] w w') : Bx w0 u v w' := rx_to h (ky_of k) ((rx_kp h).trans k)
theorem rx_drew (h : Bx w0 u v w) : Bx w0 u v w.drew := rx_on h (Kp.refl _ _).drew
theorem rx_alloc (h : Bx w0 u v w) (x : Obj) : Bx w0 u v (w.alloc x) := rx_on h ((Kp.refl _ _).alloc _)
theorem rx_ans (h : Bx w0 u v w) : ∃ cs, w.heap[w0.heap.size + 1]? = some (.cells cs 64 (0, 0)) ∧ cs.size = 2 := h.2.2.2.1
theorem rx_cells (h : Bx w0 u v w) : ∃ v0 v1, w.cell? ⟨w0.heap.size + 1, 0, none⟩ = some v0 ∧ w.cell? ⟨w0.heap.size + 1, 1, none⟩ = some v1 ∧
    w.frozen? ⟨w0.heap.size + 1, 0, none⟩ = false ∧ w.frozen? ⟨w0.heap.size + 1, 1, none⟩ = false := by
  obtain ⟨cs, h1, h2⟩ := rx_ans h
  refine ⟨cs[0], cs[1], ?_, ?_, free_of_row h1 _, free_of_row h1 _⟩ <;> rw [cell_of_row h1] <;> simp [h2]
theorem rx_set (h : Bx w0 u v w) (i : Nat) (z : Value) : Bx w0 u v (w.setCell ⟨w0.heap.size + 1, i, none⟩ z) := by
  obtain ⟨_, _, h1, ⟨cs, h2, h3⟩, h4⟩ := h
  exact rx_mk ((heap_setCell_other _ _ _ _ (by simp)).trans h1) ⟨_, heap_setCell_same _ _ _ _ _ _ h2, by simpa using h3⟩ (h4.setCell (.inr (by simp)) _)
theorem rx_set2 (h : Bx w0 u v w) (a b : Value) : Bx w0 u v ((w.setCell ⟨w0.heap.size + 1, 0, none⟩ a).setCell ⟨w0.heap.size + 1, 1, none⟩ b) := rx_set (rx_set h 0 a) 1 b
/-- The answer, stored. -/
theorem rx_fin (h : Bx w0 u v w) (a b : Value) : ((w.setCell ⟨w0.heap.size + 1, 0, none⟩ a).setCell ⟨w0.heap.size + 1, 1, none⟩ b).heap[w0.heap.size + 1]? = some (.cells #[a, b] 64 (0, 0)) := by
  obtain ⟨cs, h1, h2⟩ := rx_ans h
  rw [heap_setCell_same _ _ _ _ _ _ (heap_setCell_same _ _ _ _ _ _ h1)]
  congr 2
  apply Array.ext
  · simp [h2]
  · intro i hi _
    have : i = 0 ∨ i = 1 := by simp [h2] at hi; omega
    rcases this with rfl | rfl <;> simp [h2]
theorem rx_rd (h : Bx w0 u v w) {x : Value} {xs : List Int} (hr : Rd w x xs) (a b : Value) : Rd ((w.setCell ⟨w0.heap.size + 1, 0, none⟩ a).setCell ⟨w0.heap.size + 1, 1, none⟩ b) x xs := by
  obtain ⟨cs, h1, h2⟩ := rx_ans h
  have k : Kp [w0.heap.size + 1] w ((w.setCell ⟨w0.heap.size + 1, 0, none⟩ a).setCell ⟨w0.heap.size + 1, 1, none⟩ b) := ((Kp.refl _ _).setCell (.inl (by simp)) _).setCell (.inl (by simp)) _
  exact hr.keep k fun g hg => by simpa using hr.nin h1 (by decide) g hg
/-- The struct, boxed, and the answer's box behind it. -/
theorem rx_start (w0 : World) (u v : Value) : Bx w0 u v ((w0.alloc (.cells #[u, v] 64)).alloc (.cells #[.slice none 0 0, .slice none 0 0] 64)) := by
  have hz := heap_alloc_new (w0.alloc (Obj.cells #[u, v] 64)) (Obj.cells #[.slice none 0 0, .slice none 0 0] 64)
  rw [World.size_alloc] at hz
  exact rx_mk (heap_alloc2_old _ _ _) ⟨_, hz, rfl⟩ (((Kp.refl _ _).alloc _).alloc _)
end

/-- A row that is known whole. -/
theorem Rd.of_row {w : World} {g : Nat} {xs : List Int} (h : w.heap[g]? = some (.cells (ints xs).toArray 3 (0, 0))) : Rd w (.slice (some ⟨g, 0, none⟩) xs.length xs.length) xs := by
  refine ⟨⟨some ⟨g, 0, none⟩, xs.length, rfl, Nat.le_refl _, (fun e => by cases e), fun _ => ⟨g, 0, rfl, fun i hi => ?_⟩⟩, fun y hy => ?_⟩
  · rw [Nat.zero_add, cell_of_row h, ← ints_get xs i hi]; simp
  · rw [blk_some, List.mem_singleton] at hy
    subst hy
    exact ⟨_, h⟩

/-- The answer: a struct of two slices, whose numbers lie there. -/
def RAns (w : World) (A L : List Int) (e : Ending) (w' : World) : Prop := ∃ u v, e = .returned (.agg #[u, v]) ∧ Rd w' u A ∧ Rd w' v L ∧ Kp [] w w' ∧ (∀ b ∈ blk u, w.heap.size ≤ b) ∧ ∀ b ∈ blk v, w.heap.size ≤ b
/-- Its blocks are those of u, of v, or new. -/
def Fro (w : World) (u v x : Value) : Prop := ∀ b ∈ blk x, b ∈ blk u ∨ b ∈ blk v ∨ w.heap.size ≤ b
theorem fro_l {w : World} {u v : Value} : Fro w u v u := fun b hb => .inl hb
theorem fro_r {w : World} {u v : Value} : Fro w u v v := fun b hb => .inr (.inl hb)
def RAnsE (w : World) (U V : Value) (A L : List Int) (n : Int) (e : Ending) (w' : World) : Prop := ∃ u v, e = .returned (.tuple #[.agg #[u, v], .int .i64 n]) ∧ Rd w' u A ∧ Rd w' v L ∧ Kp [] w w' ∧ Fro w U V u ∧ Fro w U V v

theorem rnew_any (w : World) (n : Nat) (h1 : 1 ≤ n) (h2 : n ≤ 8) : Calls Tryz.prog 24 #[.int .i64 n] w (RAns w (List.replicate n 0) []) := by
  have hmk := make_ints n (by omega)
  go_enter Tryz.func24, Tryz.ntmps24
  go_wp2_with fail
  have hr1 := heap_alloc2_old w (Obj.cells #[.slice (some ⟨w.heap.size + 1, 0, none⟩) n n, .slice none 0 0] 64) (Obj.cells (ints (List.replicate n 0)).toArray 3)
  have hr2 := heap_alloc_new (w.alloc (Obj.cells #[.slice (some ⟨w.heap.size + 1, 0, none⟩) n n, .slice none 0 0] 64)) (Obj.cells (ints (List.replicate n 0)).toArray 3)
  rw [World.size_alloc] at hr2
  refine bodyPost_row rfl w.heap.size 64 _ (0, 0) _ rfl rfl hr1 Tryz.underlying64 rfl (by kernel_rfl) ⟨_, _, rfl, ?_, Rd.nil _, ((Kp.refl _ _).alloc _).alloc _, fun b hb => by
    rw [blk_some, List.mem_singleton] at hb
    omega, fun b hb => by simp [blk_nil] at hb⟩
  have := Rd.of_row hr2
  rwa [List.length_replicate] at this

/-- 'with': a slot that has a reference. -/
theorem rwith_any (w : World) (u v : Value) (A L : List Int) (k : Nat) (x : Int) (hA : Rd w u A) (hL : Rd w v L) (hk : k < A.length) (h8 : A.length ≤ 8) :
    Calls Tryz.prog 97 #[.agg #[u, v], .int .i64 k, .int .i64 x] w fun e w' => ∃ u', e = .returned (.agg #[u', v]) ∧ Rd w' u' (A.set k x) ∧ Kp [] w w' ∧ ∀ b ∈ blk u', w.heap.size ≤ b := by
  obtain ⟨ao, cap, hu, -⟩ := hA.form
  obtain ⟨lo, lcap, hv, -⟩ := hL.form
  obtain ⟨n, hn⟩ : ∃ n, n = A.length := ⟨_, rfl⟩
  have HN := Lib.hid hn
  rw [← hn] at hu hk h8
  generalize L.length = m at hv
  have HB := Lib.hid (rx_start w u v)
  have HA := Lib.hid hA
  subst hu hv
  clear hn hA hL
  go_enter Tryz.func97, Tryz.ntmps97
  go_wp2_with (
    at_builtin
    refine wpList_append_cp (w0 := w) rfl (.const (.slice none 0 0)) (.tmp 9) rfl (.slice ao n cap) A n HN.out rfl rfl (HA.out.keep0 (rx_kp HB.out)) (by omega) (rx_kp HB.out) ?_
    intro a4 c4 w4 hr4 hk4
    have HB4 := Lib.hid (rx_on HB.out hk4)
    obtain ⟨g4, cc, hv4, -⟩ := hr4.at (fun e => by have := HN.out; rw [e] at this; simp at this; omega)
    rw [← HN.out] at hv4
    simp only [Value.slice.injEq, true_and] at hv4
    obtain ⟨rfl, rfl⟩ := hv4
    have cg := hr4.cell (i := k) (by rw [← HN.out]; exact hk)
    have fg := hr4.free k
    have HR5 := Lib.hid (hr4.set k x)
    have ng1 : ¬ g4 = w.heap.size := fun e => by
      obtain ⟨_, cur, hc⟩ := hr4.block g4 (by simp [blk_some])
      exact ne_types hc HB4.out.2.2.1 (by decide) e
    have hge := (hr4.block g4 (by simp [blk_some])).1
    have HG := Lib.hid hge
    have k5 : Kp [g4] w4 (w4.setCell ⟨g4, k, none⟩ (.int .i64 x)) := (Kp.refl _ _).setCell (.inl (by simp)) _
    have k5' : Kp [] w (w4.setCell ⟨g4, k, none⟩ (.int .i64 x)) := (rx_kp HB4.out).setCell (.inr hge) _
    have HB5 := Lib.hid (rx_to HB4.out (ky_row k5 (fun y hy => by
      rw [List.mem_singleton] at hy
      subst hy
      exact (hr4.block y (by simp [blk_some])).2)) k5')
    have cb := HB5.out.2.1
    obtain ⟨z0, z1, e0, e1, f0, f1⟩ := rx_cells HB5.out
    clear hr4 hk4 HB HA HB4 hge k5 k5'
    generalize A.getD k 0 = y4 at cg)
  exact bodyPost_row rfl (w.heap.size + 1) 64 #[.slice (some ⟨g4, 0, none⟩) n c4, .slice lo m lcap] (0, 0) _ rfl rfl (rx_fin HB5.out _ _) Tryz.underlying64 rfl (by kernel_rfl) ⟨_, rfl, rx_rd HB5.out HR5.out.rd _ _, rx_kp (rx_set2 HB5.out _ _), fun b hb => by
    rw [blk_some, List.mem_singleton] at hb
    rw [hb]; exact HG.out⟩

/-- A struct that is answered as it came in: the answer's box. -/
theorem same_box (w : World) (u v : Value) : ((w.alloc (Obj.cells #[u, v] 64)).alloc (Obj.cells #[u, v] 64)).heap[w.heap.size + 1]? = some (.cells #[u, v] 64 (0, 0)) ∧
    Kp [] w ((w.alloc (Obj.cells #[u, v] 64)).alloc (Obj.cells #[u, v] 64)) := by
  have hz := heap_alloc_new (w.alloc (Obj.cells #[u, v] 64)) (Obj.cells #[u, v] 64)
  rw [World.size_alloc] at hz
  exact ⟨hz, ((Kp.refl _ _).alloc _).alloc _⟩

theorem rset_bad (w : World) (u v : Value) (A L : List Int) (k x : Int) (hA : Rd w u A) (hL : Rd w v L) (h8 : A.length ≤ 8) (hk : k < 0 ∨ (A.length : Int) ≤ k ∨ x < 0) :
    Calls Tryz.prog 95 #[.agg #[u, v], .int .i64 k, .int .i64 x] w (RAnsE w u v A L 2) := by
  obtain ⟨ao, cap, hu, -⟩ := hA.form
  obtain ⟨lo, lcap, hv, -⟩ := hL.form
  have HS := Lib.hid (same_box w u v)
  have HA := Lib.hid (And.intro hA hL)
  generalize A.length = n at hu h8 hk
  generalize L.length = m at hv
  subst hu hv
  clear hA hL
  by_cases k0 : k < 0
  · clear hk
    go_enter Tryz.func95, Tryz.ntmps95
    go_wp2_with fail
    exact bodyPost_row_tmp rfl (w.heap.size + 1) 64 _ (0, 0) _ (.int .i64 2) rfl rfl rfl HS.out.1 Tryz.underlying64 rfl (by kernel_rfl) ⟨_, _, rfl, HA.out.1.keep0 HS.out.2, HA.out.2.keep0 HS.out.2, HS.out.2, fro_l, fro_r⟩
  · by_cases k1 : (n : Int) ≤ k
    · clear hk
      go_enter Tryz.func95, Tryz.ntmps95
      go_wp2_with fail
      exact bodyPost_row_tmp rfl (w.heap.size + 1) 64 _ (0, 0) _ (.int .i64 2) rfl rfl rfl HS.out.1 Tryz.underlying64 rfl (by kernel_rfl) ⟨_, _, rfl, HA.out.1.keep0 HS.out.2, HA.out.2.keep0 HS.out.2, HS.out.2, fro_l, fro_r⟩
    · obtain ⟨j, rfl⟩ : ∃ j : Nat, k = j := ⟨k.toNat, by omega⟩
      have hj : j < n := by omega
      have hx : x < 0 := by omega
      clear hk k0 k1
      go_enter Tryz.func95, Tryz.ntmps95
      go_wp2_with fail
      exact bodyPost_row_tmp rfl (w.heap.size + 1) 64 _ (0, 0) _ (.int .i64 2) rfl rfl rfl HS.out.1 Tryz.underlying64 rfl (by kernel_rfl) ⟨_, _, rfl, HA.out.1.keep0 HS.out.2, HA.out.2.keep0 HS.out.2, HS.out.2, fro_l, fro_r⟩
theorem rset_ok (w : World) (u v : Value) (A L : List Int) (k : Nat) (x : Int) (hA : Rd w u A) (hL : Rd w v L) (h8 : A.length ≤ 8) (hk : k < A.length) (hx : 0 ≤ x) :
    Calls Tryz.prog 95 #[.agg #[u, v], .int .i64 k, .int .i64 x] w (RAnsE w u v (A.set k x) L 0) := by
  have HB := Lib.hid (rx_start w u v)
  have hw := rwith_any _ u v A L k x (hA.keep0 (rx_kp HB.out)) (hL.keep0 (rx_kp HB.out)) hk h8
  obtain ⟨ao, cap, hu, -⟩ := hA.form
  obtain ⟨lo, lcap, hv, -⟩ := hL.form
  have HL := Lib.hid hL
  generalize A.length = n at hu h8 hk
  generalize L.length = m at hv
  subst hu hv
  clear hA hL
  go_enter Tryz.func95, Tryz.ntmps95
  go_wp2_with fail
  refine hw.mono ?_
  rintro e w6 ⟨u', rfl, hr6, hk6, hf6⟩
  have HF : Hid (∀ b ∈ blk u', w.heap.size ≤ b) := Lib.hid fun b hb => Nat.le_trans (rx_kp HB.out).size (hf6 b hb)
  clear hf6
  have HB6 := Lib.hid (rx_on HB.out hk6)
  have HR6 := Lib.hid hr6
  obtain ⟨ao6, cap6, hu6, -⟩ := hr6.form
  generalize (A.set k x).length = n6 at hu6
  subst hu6
  obtain ⟨z0, z1, e0, e1, f0, f1⟩ := rx_cells HB6.out
  clear hk6 hr6 hw HB
  go_wp2_with fail
  exact bodyPost_row_tmp rfl (w.heap.size + 1) 64 #[.slice ao6 n6 cap6, .slice lo m lcap] (0, 0) _ (.int .i64 0) rfl rfl rfl (rx_fin HB6.out _ _) Tryz.underlying64 rfl (by kernel_rfl) ⟨_, _, rfl, rx_rd HB6.out HR6.out _ _, rx_rd HB6.out (HL.out.keep0 (rx_kp HB6.out)) _ _, rx_kp (rx_set2 HB6.out _ _), fun b hb => .inr (.inr (HF.out b hb)), fro_r⟩
theorem rset_any (w : World) (u v : Value) (A L : List Int) (k x : Int) (hA : Rd w u A) (hL : Rd w v L) (h8 : A.length ≤ 8) :
    Calls Tryz.prog 95 #[.agg #[u, v], .int .i64 k, .int .i64 x] w (RAnsE w u v (setA A k x) L (setE A k x)) := by
  by_cases hb : (badS A k || decide (x < 0)) = true
  · rw [show setE A k x = 2 from if_pos hb, show setA A k x = A from if_pos hb]
    refine rset_bad w u v A L k x hA hL h8 ?_
    rw [Bool.or_eq_true] at hb
    rcases hb with hb | hb
    · rcases badS_or hb with q | q
      · exact .inl q
      · exact .inr (.inl q)
    · exact .inr (.inr (by simpa using hb))
  · rw [show setE A k x = 0 from if_neg hb, show setA A k x = A.set k.toNat x from if_neg hb]
    rw [Bool.not_eq_true, Bool.or_eq_false_iff] at hb
    obtain ⟨j, rfl, hj⟩ := badS_no hb.1
    exact rset_ok w u v A L j x hA hL h8 hj (by simpa using hb.2)

end Go.Proofs.YtmbhhadghiojeaaGreat

namespace Go.Proofs.YtmbhhadghiojeaaGreat
set_option linter.unusedVariables false
set_option linter.unusedSimpArgs false
open Go.RowKit

/-- As Bx, and a cell that is older. -/
def By (w0 : World) (u v : Value) (g j : Nat) (x : Int) (w' : World) : Prop :=
  w'.cell? ⟨w0.heap.size, 0, none⟩ = some u ∧ w'.cell? ⟨w0.heap.size, 1, none⟩ = some v ∧ w'.cell? ⟨g, j, none⟩ = some (.int .i64 x) ∧
    w'.heap[w0.heap.size]? = some (.cells #[u, v] 64 (0, 0)) ∧
    (∃ cs, w'.heap[w0.heap.size + 1]? = some (.cells cs 64 (0, 0)) ∧ cs.size = 2) ∧ w0.cell? ⟨g, j, none⟩ = some (.int .i64 x) ∧ Kp [] w0 w'
section
variable {w0 w w' : World} {u v : Value} {g j : Nat} {x : Int}
theorem by_bx (h : By w0 u v g j x w) : Bx w0 u v w := ⟨h.1, h.2.1, h.2.2.2.1, h.2.2.2.2.1, h.2.2.2.2.2.2⟩
theorem by_kp (h : By w0 u v g j x w) : Kp [] w0 w := h.2.2.2.2.2.2
theorem by_of (h : Bx w0 u v w) (c : w0.cell? ⟨g, j, none⟩ = some (.int .i64 x)) : By w0 u v g j x w := ⟨h.1, h.2.1, (rx_kp h).cell (by simp) c, h.2.2.1, h.2.2.2.1, c, h.2.2.2.2⟩
theorem by_old (h : By w0 u v g j x w) : w0.cell? ⟨g, j, none⟩ = some (.int .i64 x) := h.2.2.2.2.2.1
theorem by_drew (h : By w0 u v g j x w) : By w0 u v g j x w.drew := by_of (rx_drew (by_bx h)) (by_old h)
theorem by_alloc (h : By w0 u v g j x w) (o : Obj) : By w0 u v g j x (w.alloc o) := by_of (rx_alloc (by_bx h) o) (by_old h)
theorem by_on (h : By w0 u v g j x w) (k : Kp [] w w') : By w0 u v g j x w' := by_of (rx_on (by_bx h) k) (by_old h)
theorem by_to (h : By w0 u v g j x w) (k : Ky w w') (hk : Kp [] w0 w') : By w0 u v g j x w' := by_of (rx_to (by_bx h) k hk) (by_old h)
theorem by_set2 (h : By w0 u v g j x w) (a b : Value) : By w0 u v g j x ((w.setCell ⟨w0.heap.size + 1, 0, none⟩ a).setCell ⟨w0.heap.size + 1, 1, none⟩ b) := by_of (rx_set2 (by_bx h) a b) (by_old h)
end

theorem rpush_bad (w : World) (u v : Value) (A L : List Int) (k : Int) (hA : Rd w u A) (hL : Rd w v L) (h8 : A.length ≤ 8) (hk : k < 0 ∨ (A.length : Int) ≤ k) :
    Calls Tryz.prog 80 #[.agg #[u, v], .int .i64 k] w (RAnsE w u v A L 2) := by
  obtain ⟨ao, cap, hu, -⟩ := hA.form
  obtain ⟨lo, lcap, hv, -⟩ := hL.form
  have HS := Lib.hid (same_box w u v)
  have HA := Lib.hid (And.intro hA hL)
  generalize A.length = n at hu h8 hk
  generalize L.length = m at hv
  subst hu hv
  clear hA hL
  by_cases k0 : k < 0
  · clear hk
    go_enter Tryz.func80, Tryz.ntmps80
    go_wp2_with fail
    exact bodyPost_row_tmp rfl (w.heap.size + 1) 64 _ (0, 0) _ (.int .i64 2) rfl rfl rfl HS.out.1 Tryz.underlying64 rfl (by kernel_rfl) ⟨_, _, rfl, HA.out.1.keep0 HS.out.2, HA.out.2.keep0 HS.out.2, HS.out.2, fro_l, fro_r⟩
  · have k1 : (n : Int) ≤ k := by omega
    clear hk
    go_enter Tryz.func80, Tryz.ntmps80
    go_wp2_with fail
    exact bodyPost_row_tmp rfl (w.heap.size + 1) 64 _ (0, 0) _ (.int .i64 2) rfl rfl rfl HS.out.1 Tryz.underlying64 rfl (by kernel_rfl) ⟨_, _, rfl, HA.out.1.keep0 HS.out.2, HA.out.2.keep0 HS.out.2, HS.out.2, fro_l, fro_r⟩
theorem rpush_full (w : World) (u v : Value) (A L : List Int) (k : Nat) (hA : Rd w u A) (hL : Rd w v L) (h8 : A.length ≤ 8) (hk : k < A.length) (hl : L.length = 16) :
    Calls Tryz.prog 80 #[.agg #[u, v], .int .i64 k] w (RAnsE w u v A L 4) := by
  obtain ⟨ao, cap, hu, -⟩ := hA.form
  obtain ⟨lo, lcap, hv, -⟩ := hL.form
  have HS := Lib.hid (same_box w u v)
  have HA := Lib.hid (And.intro hA hL)
  generalize A.length = n at hu h8 hk
  rw [hl] at hv
  subst hu hv
  clear hA hL hl
  go_enter Tryz.func80, Tryz.ntmps80
  go_wp2_with fail
  exact bodyPost_row_tmp rfl (w.heap.size + 1) 64 _ (0, 0) _ (.int .i64 4) rfl rfl rfl HS.out.1 Tryz.underlying64 rfl (by kernel_rfl) ⟨_, _, rfl, HA.out.1.keep0 HS.out.2, HA.out.2.keep0 HS.out.2, HS.out.2, fro_l, fro_r⟩

set_option maxHeartbeats 4000000 in
theorem rpush_ok (w : World) (u v : Value) (A L : List Int) (k : Nat) (hA : Rd w u A) (hL : Rd w v L) (h8 : A.length ≤ 8) (hk : k < A.length) (hl : L.length < 16) :
    Calls Tryz.prog 80 #[.agg #[u, v], .int .i64 k] w (RAnsE w u v A (L ++ [A.getD k 0]) 0) := by
  obtain ⟨uo, cap, hu, -⟩ := hA.form
  obtain ⟨ao, lcap, hv, -⟩ := hL.form
  have hA' := hA
  rw [hu] at hA'
  obtain ⟨gu, ou, huo, hcu⟩ := hA'.cellAt hk
  subst huo
  clear hA'
  obtain ⟨n, hn⟩ : ∃ n, n = L.length := ⟨_, rfl⟩
  have HN := Lib.hid hn
  rw [← hn] at hv hl
  have HA := Lib.hid (And.intro hA hL)
  have B := Lib.hid (by_of (rx_start w u v) hcu)
  generalize A.length = na at hu h8 hk
  generalize A.getD k 0 = x at hcu B ⊢
  subst hu hv
  clear hn hA hL hcu
  go_enter Tryz.func80, Tryz.ntmps80
  go_wp2_with fail
  go_region_held3 (fun w' => w'.cell? ⟨w.heap.size, 0, none⟩ = some (.slice (some ⟨gu, ou, none⟩) na cap) ∧ w'.cell? ⟨w.heap.size, 1, none⟩ = some (.slice ao n lcap) ∧ w'.cell? ⟨gu, ou + k, none⟩ = some (.int .i64 x) ∧
      w'.heap[w.heap.size]? = some (.cells #[.slice (some ⟨gu, ou, none⟩) na cap, .slice ao n lcap] 64 (0, 0)) ∧
      (∃ cs, w'.heap[w.heap.size + 1]? = some (.cells cs 64 (0, 0)) ∧ cs.size = 2) ∧ w.cell? ⟨gu, ou + k, none⟩ = some (.int .i64 x) ∧ Kp [] w w')
    (first
      | exact by_drew B.out
      | exact by_alloc ‹By w (.slice (some ⟨gu, ou, none⟩) na cap) (.slice ao n lcap) gu (ou + k) x _› _
      | exact by_on ‹By w (.slice (some ⟨gu, ou, none⟩) na cap) (.slice ao n lcap) gu (ou + k) x _› hk
      | exact by_to ‹By w (.slice (some ⟨gu, ou, none⟩) na cap) (.slice ao n lcap) gu (ou + k) x _› hky hk
      | exact by_set2 ‹By w (.slice (some ⟨gu, ou, none⟩) na cap) (.slice ao n lcap) gu (ou + k) x _› _ _)
    (first
      | (refine step_append_cp (w0 := w) rfl (.const (.slice none 0 0)) (.tmp 24) rfl (.slice ao n lcap) L n HN.out rfl rfl (HA.out.2.keep0 (by_kp ‹By w (.slice (some ⟨gu, ou, none⟩) na cap) (.slice ao n lcap) gu (ou + k) x _›)) (by omega) (by_kp ‹By w (.slice (some ⟨gu, ou, none⟩) na cap) (.slice ao n lcap) gu (ou + k) x _›) ?_
         intro ao4 cap4 w4 hown4 hk
         have H4 := Lib.hid hown4
         clear hown4)
      | (refine step_append_snoc (w0 := w) rfl (.tmp 25) (.tmp 31) rfl (.slice ao4 n cap4) L n HN.out x _ rfl rfl (H4.out.keep0 ((Kp.refl _ _).alloc _)) (by omega) (by_kp ‹By w (.slice (some ⟨gu, ou, none⟩) na cap) (.slice ao n lcap) gu (ou + k) x _›) (news_one _ x _ _ rfl) ?_
         intro g7 cap7 w7 hr7 hky hk
         have H7 := Lib.hid hr7
         have HB7 := Lib.hid (by_to ‹By w (.slice (some ⟨gu, ou, none⟩) na cap) (.slice ao n lcap) gu (ou + k) x _› hky hk)
         obtain ⟨v0, v1, e0, e1, f0, f1⟩ := rx_cells (by_bx HB7.out)
         clear hr7)
      | (have hnw := news_kp (H := w.heap.size + 2) (by simp) hk.drew_l
         refine step_append_snoc (w0 := w) (w := w4) rfl (.tmp 25) (.tmp 31) rfl (.slice ao4 n cap4) L n HN.out x ⟨w.heap.size + 2, 0, none⟩ rfl rfl H4.out (by omega) (by_kp ‹By w (.slice (some ⟨gu, ou, none⟩) na cap) (.slice ao n lcap) gu (ou + k) x w4›) hnw ?_
         intro g7 cap7 w7 hr7 hky hk
         have H7 := Lib.hid hr7
         have HB7 := Lib.hid (by_to ‹By w (.slice (some ⟨gu, ou, none⟩) na cap) (.slice ao n lcap) gu (ou + k) x _› hky hk)
         obtain ⟨v0, v1, e0, e1, f0, f1⟩ := rx_cells (by_bx HB7.out)
         clear hr7))
  all_goals go_wp2_with fail
  all_goals exact bodyPost_row_tmp rfl (w.heap.size + 1) 64 #[.slice (some ⟨gu, ou, none⟩) na cap, .slice (some ⟨g7, 0, none⟩) (n + 1) cap7] (0, 0) _ (.int .i64 0) rfl rfl rfl (rx_fin (by_bx HB7.out) _ _) Tryz.underlying64 rfl (by kernel_rfl) ⟨_, _, rfl, rx_rd (by_bx HB7.out) (HA.out.1.keep0 (by_kp HB7.out)) _ _, rx_rd (by_bx HB7.out) H7.out.rd _ _, by_kp (by_set2 HB7.out _ _), fro_l, fun b hb => .inr (.inr (H7.out.block b hb).1)⟩

end Go.Proofs.YtmbhhadghiojeaaGreat

namespace Go.Proofs.YtmbhhadghiojeaaGreat
set_option linter.unusedVariables false
set_option linter.unusedSimpArgs false
open Go.RowKit

theorem rpush_any (w : World) (u v : Value) (A L : List Int) (k : Int) (hA : Rd w u A) (hL : Rd w v L) (h8 : A.length ≤ 8) (h16 : L.length ≤ 16) :
    Calls Tryz.prog 80 #[.agg #[u, v], .int .i64 k] w (RAnsE w u v A (pushL A L k) (pushE A L k)) := by
  by_cases hb : badS A k = true
  · rw [show pushE A L k = 2 from if_pos hb, show pushL A L k = L from if_pos hb]
    exact rpush_bad w u v A L k hA hL h8 (badS_or hb)
  · rw [pushE, pushL, if_neg hb, if_neg hb]
    obtain ⟨j, rfl, hj⟩ := badS_no (by simpa using hb)
    by_cases hl : L.length = 16
    · rw [if_pos hl, if_pos hl]
      exact rpush_full w u v A L j hA hL h8 hj hl
    · rw [if_neg hl, if_neg hl]
      exact rpush_ok w u v A L j hA hL h8 hj (by omega)

theorem rpop_bad (w : World) (u v : Value) (A L : List Int) (k : Int) (hA : Rd w u A) (hL : Rd w v L) (h8 : A.length ≤ 8) (hk : k < 0 ∨ (A.length : Int) ≤ k) :
    Calls Tryz.prog 81 #[.agg #[u, v], .int .i64 k] w (RAnsE w u v A L 2) := by
  obtain ⟨ao, cap, hu, -⟩ := hA.form
  obtain ⟨lo, lcap, hv, -⟩ := hL.form
  have HS := Lib.hid (same_box w u v)
  have HA := Lib.hid (And.intro hA hL)
  generalize A.length = n at hu h8 hk
  generalize L.length = m at hv
  subst hu hv
  clear hA hL
  by_cases k0 : k < 0
  · clear hk
    go_enter Tryz.func81, Tryz.ntmps81
    go_wp2_with fail
    exact bodyPost_row_tmp rfl (w.heap.size + 1) 64 _ (0, 0) _ (.int .i64 2) rfl rfl rfl HS.out.1 Tryz.underlying64 rfl (by kernel_rfl) ⟨_, _, rfl, HA.out.1.keep0 HS.out.2, HA.out.2.keep0 HS.out.2, HS.out.2, fro_l, fro_r⟩
  · have k1 : (n : Int) ≤ k := by omega
    clear hk
    go_enter Tryz.func81, Tryz.ntmps81
    go_wp2_with fail
    exact bodyPost_row_tmp rfl (w.heap.size + 1) 64 _ (0, 0) _ (.int .i64 2) rfl rfl rfl HS.out.1 Tryz.underlying64 rfl (by kernel_rfl) ⟨_, _, rfl, HA.out.1.keep0 HS.out.2, HA.out.2.keep0 HS.out.2, HS.out.2, fro_l, fro_r⟩
theorem rpop_none (w : World) (u v : Value) (A : List Int) (k : Nat) (hA : Rd w u A) (hL : Rd w v []) (h8 : A.length ≤ 8) (hk : k < A.length) :
    Calls Tryz.prog 81 #[.agg #[u, v], .int .i64 k] w (RAnsE w u v A [] 5) := by
  obtain ⟨ao, cap, hu, -⟩ := hA.form
  obtain ⟨lo, lcap, hv, -⟩ := hL.form
  have HS := Lib.hid (same_box w u v)
  have HA := Lib.hid (And.intro hA hL)
  generalize A.length = n at hu h8 hk
  rw [List.length_nil] at hv
  subst hu hv
  clear hA hL
  go_enter Tryz.func81, Tryz.ntmps81
  go_wp2_with fail
  exact bodyPost_row_tmp rfl (w.heap.size + 1) 64 _ (0, 0) _ (.int .i64 5) rfl rfl rfl HS.out.1 Tryz.underlying64 rfl (by kernel_rfl) ⟨_, _, rfl, HA.out.1.keep0 HS.out.2, HA.out.2.keep0 HS.out.2, HS.out.2, fro_l, fro_r⟩

/-- A box of the call's own is turned. -/
theorem rx_keep {w0 w w' : World} {u v : Value} {S : List Nat} (h : Bx w0 u v w) (k : Kp S w w') (hS : ∀ y ∈ S, w0.heap.size + 2 ≤ y) : Bx w0 u v w' := by
  obtain ⟨_, _, h1, ⟨cs, h2, h3⟩, h4⟩ := h
  exact rx_mk (k.row (fun e => by have := hS _ e; omega) h1) ⟨cs, k.row (fun e => by have := hS _ e; omega) h2, h3⟩ (((h4.mono (by simp)).trans k).mono fun y hy hlt => by have := hS y hy; omega)

theorem by_set_y {w0 w : World} {u v : Value} {g j : Nat} {x : Int} (h : By w0 u v g j x w) {y : Nat} (hy : w0.heap.size + 2 ≤ y) (a b : Value) : By w0 u v g j x ((w.setCell ⟨y, 0, none⟩ a).setCell ⟨y, 1, none⟩ b) :=
  by_of (rx_keep (by_bx h) (((Kp.refl [y] w).setCell (p := ⟨y, 0, none⟩) (.inl (by simp)) a).setCell (p := ⟨y, 1, none⟩) (.inl (by simp)) b) (by simpa using hy)) (by_old h)
/-- What is known once the next one lies in a box of its own. -/
structure PM (w0 : World) (u v : Value) (y : Nat) (u6 : Value) (A : List Int) (w' : World) : Prop where
  bx : Bx w0 u v w'
  hy : w'.heap[y]? = some (.cells #[u6, v] 64 (0, 0))
  rd : Rd w' u6 A
  ge : w0.heap.size + 2 ≤ y
section
variable {w0 w w6 : World} {u v u6 : Value} {A : List Int}
theorem PM.make1 (h : Bx w0 u v w6) (hr : Rd w6 u6 A) (hge : w0.heap.size + 2 ≤ w6.heap.size) : PM w0 u v w6.heap.size u6 A (w6.alloc (.cells #[u6, v] 64)) :=
  ⟨rx_alloc h _, heap_alloc_new _ _, hr.keep0 ((Kp.refl _ _).alloc _), hge⟩
theorem PM.make2 {y : Nat} (h : Bx w0 u v w6) (hr : Rd w6 u6 A) (hy : w6.heap[y]? = some (.cells #[.slice none 0 0, .slice none 0 0] 64 (0, 0))) (hge : w0.heap.size + 2 ≤ y) :
    PM w0 u v y u6 A ((w6.setCell ⟨y, 0, none⟩ u6).setCell ⟨y, 1, none⟩ v) := by
  have k3 : Kp [y] w6 ((w6.setCell ⟨y, 0, none⟩ u6).setCell ⟨y, 1, none⟩ v) := ((Kp.refl _ _).setCell (.inl (by simp)) _).setCell (.inl (by simp)) _
  refine ⟨rx_keep h k3 (by simpa using hge), ?_, hr.keep k3 fun g hg => by
    have := hr.nin hy (by decide) g hg
    simpa using this, hge⟩
  rw [heap_setCell_same _ _ _ _ _ _ (heap_setCell_same _ _ _ _ _ _ hy)]
  simp
theorem PM.drew {y : Nat} (h : PM w0 u v y u6 A w) : PM w0 u v y u6 A w.drew := ⟨rx_drew h.bx, h.hy, h.rd.keep0 (Kp.refl _ _).drew, h.ge⟩
end

set_option maxHeartbeats 4000000 in
theorem rpop_ok (w : World) (u v : Value) (A L : List Int) (x : Int) (k : Nat) (hA : Rd w u A) (hL : Rd w v (L ++ [x])) (h8 : A.length ≤ 8) (hk : k < A.length) (h16 : L.length ≤ 16) :
    Calls Tryz.prog 81 #[.agg #[u, v], .int .i64 k] w (RAnsE w u v (A.set k x) L 0) := by
  obtain ⟨uo, cap, hu, -⟩ := hA.form
  obtain ⟨gv, ov, lcap, hv, hcap, hcv, hL'⟩ := hL.last
  have HA := Lib.hid (And.intro hA (And.intro hL hL'))
  have HK := Lib.hid hk
  have H8 := Lib.hid h8
  have B := Lib.hid (by_of (rx_start w u v) hcv)
  generalize A.length = na at hu h8 hk
  generalize L.length = m at hv hcap hcv B HA h16
  subst hu hv
  clear hA hL hL' hcv
  have d1 : decide ((k : Int) < 0) = false := by simp
  have d2 : decide (na ≤ k) = false := by simp; omega
  have d3 : ((m : Int) + 1 == 0) = false := by simp; omega
  go_enter Tryz.func81, Tryz.ntmps81
  go_upto_region 6 with (fail)
  go_cut [7] from 24 to 32 (fun v7 w' => ∃ (y : Nat) (u6 : Value), v7 = .pointer (some ⟨y, 0, none⟩) ∧ Hid (PM w (.slice uo na cap) (.slice (some ⟨gv, ov, none⟩) (m + 1) lcap) y u6 (A.set k x) w') ∧ Hid (∀ b ∈ blk u6, w.heap.size ≤ b))
  case first =>
    have hw1 := IntWalk.i64_in ((m : Int) + 1 - 1) (by omega)
    have hw2 := IntWalk.i64_in (m : Int) (by omega)
    have hb0 : (0 : Int) ≤ (m : Int) := by omega
    have hb1 : (m : Int) < (m : Int) + 1 := by omega
    have hb2 : (m : Int) + 1 - 1 < (m : Int) + 1 := by omega
    have hb3 : (0 : Int) ≤ (m : Int) + 1 - 1 := by omega
    have hb4 : ((m : Int) + 1 - 1).toNat = m := by omega
    go_region_held3 (fun w' => w'.cell? ⟨w.heap.size, 0, none⟩ = some (.slice uo na cap) ∧ w'.cell? ⟨w.heap.size, 1, none⟩ = some (.slice (some ⟨gv, ov, none⟩) (m + 1) lcap) ∧ w'.cell? ⟨gv, ov + m, none⟩ = some (.int .i64 x) ∧
        w'.heap[w.heap.size]? = some (.cells #[.slice uo na cap, .slice (some ⟨gv, ov, none⟩) (m + 1) lcap] 64 (0, 0)) ∧
        (∃ cs, w'.heap[w.heap.size + 1]? = some (.cells cs 64 (0, 0)) ∧ cs.size = 2) ∧ w.cell? ⟨gv, ov + m, none⟩ = some (.int .i64 x) ∧ Kp [] w w')
      (first
        | exact by_drew B.out
        | exact by_alloc ‹By w (.slice uo na cap) (.slice (some ⟨gv, ov, none⟩) (m + 1) lcap) gv (ov + m) x _› _
        | exact by_on ‹By w (.slice uo na cap) (.slice (some ⟨gv, ov, none⟩) (m + 1) lcap) gv (ov + m) x _› hk
        | exact B6.out
        | exact by_alloc B6.out _
        | exact by_set_y B6.out (by simp) _ _)
      (first
        | (go_at_call 97
           refine (rwith_any _ _ _ A (L ++ [x]) k x (HA.out.1.keep0 (by_kp ‹By w (.slice uo na cap) (.slice (some ⟨gv, ov, none⟩) (m + 1) lcap) gv (ov + m) x _›)) (HA.out.2.1.keep0 (by_kp ‹By w (.slice uo na cap) (.slice (some ⟨gv, ov, none⟩) (m + 1) lcap) gv (ov + m) x _›)) HK.out H8.out).mono ?_
           rintro e w6 ⟨u6, rfl, r6, hk, hf⟩
           have HF6 : Hid (∀ b ∈ blk u6, w.heap.size ≤ b) := Lib.hid fun b hb => Nat.le_trans (by_kp ‹By w (.slice uo na cap) (.slice (some ⟨gv, ov, none⟩) (m + 1) lcap) gv (ov + m) x _›).size (hf b hb)
           clear hf
           have B6 := Lib.hid (by_on ‹By w (.slice uo na cap) (.slice (some ⟨gv, ov, none⟩) (m + 1) lcap) gv (ov + m) x _› hk)
           have R6 := Lib.hid r6
           obtain ⟨ao6, c6, hu6, -⟩ := r6.form
           obtain ⟨n6, hn6⟩ : ∃ n6, n6 = (A.set k x).length := ⟨_, rfl⟩
           rw [← hn6] at hu6
           clear hn6
           subst hu6
           have hy0 := hk.drew_l.row (by simp) (heap_alloc_new _ _)
           have hy : w6.heap[w.heap.size + 1 + 1]? = some (.cells #[.slice none 0 0, .slice none 0 0] 64 (0, 0)) := by
             rw [World.size_alloc, World.size_alloc] at hy0
             exact hy0
           have e0 : w6.cell? ⟨w.heap.size + 1 + 1, 0, none⟩ = some (.slice none 0 0) := cell_of_row hy 0
           have e1 : w6.cell? ⟨w.heap.size + 1 + 1, 1, none⟩ = some (.slice none 0 0) := cell_of_row hy 1
           have f0 := free_of_row hy 0
           have f1 := free_of_row hy 1
           clear r6 hy0)
        | (go_at_call 97
           refine (rwith_any _ _ _ A (L ++ [x]) k x (HA.out.1.keep0 (by_kp ‹By w (.slice uo na cap) (.slice (some ⟨gv, ov, none⟩) (m + 1) lcap) gv (ov + m) x _›)) (HA.out.2.1.keep0 (by_kp ‹By w (.slice uo na cap) (.slice (some ⟨gv, ov, none⟩) (m + 1) lcap) gv (ov + m) x _›)) HK.out H8.out).mono ?_
           rintro e w6 ⟨u6, rfl, r6, hk, hf⟩
           have HF6 : Hid (∀ b ∈ blk u6, w.heap.size ≤ b) := Lib.hid fun b hb => Nat.le_trans (by_kp ‹By w (.slice uo na cap) (.slice (some ⟨gv, ov, none⟩) (m + 1) lcap) gv (ov + m) x _›).size (hf b hb)
           clear hf
           have B6 := Lib.hid (by_on ‹By w (.slice uo na cap) (.slice (some ⟨gv, ov, none⟩) (m + 1) lcap) gv (ov + m) x _› hk)
           have R6 := Lib.hid r6
           obtain ⟨ao6, c6, hu6, -⟩ := r6.form
           obtain ⟨n6, hn6⟩ : ∃ n6, n6 = (A.set k x).length := ⟨_, rfl⟩
           rw [← hn6] at hu6
           clear hn6
           subst hu6
           clear r6))
    all_goals go_wp2_with fail
    all_goals go_meet
    · exact ⟨_, _, rfl, Lib.hid (PM.make1 (by_bx B6.out) R6.out (by have := hk.size; simp at this; omega)), HF6⟩
    · exact ⟨_, _, rfl, Lib.hid (PM.make2 (by_bx B6.out) R6.out hy (by omega)), HF6⟩
  case rest =>
    obtain ⟨y, u6, rfl, HM, HF6⟩ := hcut
    have k7 : Kp [y] wc (wc.setCell ⟨y, 1, none⟩ (.slice (some ⟨gv, ov, none⟩) m lcap)) := (Kp.refl _ _).setCell (.inl (by simp)) _
    have hb7 := rx_keep HM.out.bx k7 (by simpa using HM.out.ge)
    have HB7 := Lib.hid hb7
    have cb := HM.out.bx.2.1
    have hy7 : (wc.setCell ⟨y, 1, none⟩ (.slice (some ⟨gv, ov, none⟩) m lcap)).heap[y]? = some (.cells #[u6, .slice (some ⟨gv, ov, none⟩) m lcap] 64 (0, 0)) := by
      rw [heap_setCell_same _ _ _ _ _ _ HM.out.hy]; simp
    have cy1 : wc.cell? ⟨y, 1, none⟩ = some (.slice (some ⟨gv, ov, none⟩) (m + 1) lcap) := cell_of_row HM.out.hy 1
    have fy1 := free_of_row HM.out.hy 1
    have HR7 := Lib.hid (And.intro (HM.out.rd.keep k7 fun g hg => by
      have := HM.out.rd.nin HM.out.hy (by decide) g hg
      simpa using this) (HA.out.2.2.keep0 (rx_kp hb7)))
    have cy0' : (wc.setCell ⟨y, 1, none⟩ (.slice (some ⟨gv, ov, none⟩) m lcap)).cell? ⟨y, 0, none⟩ = some u6 := cell_of_row hy7 0
    have cy1' : (wc.setCell ⟨y, 1, none⟩ (.slice (some ⟨gv, ov, none⟩) m lcap)).cell? ⟨y, 1, none⟩ = some (.slice (some ⟨gv, ov, none⟩) m lcap) := cell_of_row hy7 1
    obtain ⟨z0, z1, e0, e1, f0, f1⟩ := rx_cells hb7
    obtain ⟨ao6, c6, hu6, -⟩ := HM.out.rd.form
    generalize (A.set k x).length = n6 at hu6
    subst hu6
    clear HM hb7 k7 hy7
    go_wp2_with fail
    exact bodyPost_row_tmp rfl (w.heap.size + 1) 64 #[.slice ao6 n6 c6, .slice (some ⟨gv, ov, none⟩) m lcap] (0, 0) _ (.int .i64 0) rfl rfl rfl (rx_fin HB7.out _ _) Tryz.underlying64 rfl (by kernel_rfl) ⟨_, _, rfl, rx_rd HB7.out HR7.out.1 _ _, rx_rd HB7.out HR7.out.2 _ _, rx_kp (rx_set2 HB7.out _ _), fun b hb => .inr (.inr (HF6.out b hb)), fun b hb => .inr (.inl (by rw [blk_same _ m lcap (m + 1) lcap] at hb; exact hb))⟩

theorem rpop_any (w : World) (u v : Value) (A L : List Int) (k : Int) (hA : Rd w u A) (hL : Rd w v L) (h8 : A.length ≤ 8) (h16 : L.length ≤ 16) :
    Calls Tryz.prog 81 #[.agg #[u, v], .int .i64 k] w (RAnsE w u v (popA A L k) (popL A L k) (popE A L k)) := by
  by_cases hb : badS A k = true
  · rw [popE, popA, popL, if_pos hb, if_pos hb, if_pos hb]
    exact rpop_bad w u v A L k hA hL h8 (badS_or hb)
  · rw [popE, popA, popL, if_neg hb, if_neg hb, if_neg hb]
    obtain ⟨j, rfl, hj⟩ := badS_no (by simpa using hb)
    rcases List.eq_nil_or_concat L with rfl | ⟨M, x, hM⟩
    · exact rpop_none w u v A j hA hL h8 hj
    · rw [List.concat_eq_append] at hM
      subst hM
      have hne : ¬ (M ++ [x] = []) := by simp
      rw [if_neg hne, if_neg hne, show (M ++ [x]).getLastD 0 = x from by simp, show (M ++ [x]).dropLast = M from by simp]
      exact rpop_ok w u v A M x j hA hL h8 hj (by simp at h16; omega)

end Go.Proofs.YtmbhhadghiojeaaGreat
