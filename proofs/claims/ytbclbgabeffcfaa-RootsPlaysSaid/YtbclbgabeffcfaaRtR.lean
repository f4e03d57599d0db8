/- The document's own roots (demesneref09): New, with, Set. Conditions: as each theorem states them. -/
import Derived.Test.YtbclbgabeffcfaaRtN
import Derived.Test.YtbclbgabeffcfaaLaw
import Derived.OwnWalk
import Derived.Deep.AppendLies
import Derived.Deep.RegionHeld3
import Derived.Deep.RegionLaw
import Derived.Handy
namespace Go.Proofs.Ytbclbgabeffcfaa
set_option linter.unusedVariables false
set_option linter.unusedSimpArgs false
open Go.RowKit

/-- What holds in each world behind the boxes: the struct's box, the answer's box, and that nothing older has turned. -/
def Bx (w0 : World) (u v : Value) (w' : World) : Prop :=
  w'.cell? ⟨w0.heap.size, 0, none⟩ = some u ∧ w'.cell? ⟨w0.heap.size, 1, none⟩ = some v ∧
    w'.heap[w0.heap.size]? = some (.cells #[u, v] 30 (0, 0)) ∧
    (∃ cs, w'.heap[w0.heap.size + 1]? = some (.cells cs 30 (0, 0)) ∧ cs.size = 2) ∧ Kp [] w0 w'
section
variable {w0 w w' : World} {u v : Value}
theorem bx_mk (h1 : w'.heap[w0.heap.size]? = some (.cells #[u, v] 30 (0, 0))) (h2 : ∃ cs, w'.heap[w0.heap.size + 1]? = some (.cells cs 30 (0, 0)) ∧ cs.size = 2) (h3 : Kp [] w0 w') : Bx w0 u v w' :=
  ⟨by rw [cell_of_row h1]; rfl, by rw [cell_of_row h1]; rfl, h1, h2, h3⟩
theorem bx_kp (h : Bx w0 u v w) : Kp [] w0 w := h.2.2.2.2
theorem bx_to (h : Bx w0 u v w) (k : Ky w w') (hk : Kp [] w0 w') : Bx w0 u v w' := by
  obtain ⟨_, _, h1, ⟨cs, h2, h3⟩, _⟩ := h
  exact bx_mk (k _ _ _ (by decide) h1) ⟨cs, k _ _ _ (by decide) h2, h3⟩ hk
theorem bx_on (h : Bx w0 u v w) (k : Kp [] w w') : Bx w0 u v w' := bx_to h (ky_of k) ((bx_kp h).trans k)
theorem bx_drew (h : Bx w0 u v w) : Bx w0 u v w.drew := bx_on h (Kp.refl _ _).drew
theorem bx_alloc (h : Bx w0 u v w) (x : Obj) : Bx w0 u v (w.alloc x) := bx_on h ((Kp.refl _ _).alloc _)
theorem bx_ans (h : Bx w0 u v w) : ∃ cs, w.heap[w0.heap.size + 1]? = some (.cells cs 30 (0, 0)) ∧ cs.size = 2 := h.2.2.2.1
theorem bx_cells (h : Bx w0 u v w) : ∃ v0 v1, w.cell? ⟨w0.heap.size + 1, 0, none⟩ = some v0 ∧ w.cell? ⟨w0.heap.size + 1, 1, none⟩ = some v1 ∧
    w.frozen? ⟨w0.heap.size + 1, 0, none⟩ = false ∧ w.frozen? ⟨w0.heap.size + 1, 1, none⟩ = false := by
  obtain ⟨cs, h1, h2⟩ := bx_ans h
  refine ⟨cs[0], cs[1], ?_, ?_, free_of_row h1 _, free_of_row h1 _⟩ <;> rw [cell_of_row h1] <;> simp [h2]
theorem bx_set (h : Bx w0 u v w) (i : Nat) (z : Value) : Bx w0 u v (w.setCell ⟨w0.heap.size + 1, i, none⟩ z) := by
  obtain ⟨_, _, h1, ⟨cs, h2, h3⟩, h4⟩ := h
  exact bx_mk ((heap_setCell_other _ _ _ _ (by simp)).trans h1) ⟨_, heap_setCell_same _ _ _ _ _ _ h2, by simpa using h3⟩ (h4.setCell (.inr (by simp)) _)
theorem bx_set2 (h : Bx w0 u v w) (a b : Value) : Bx w0 u v ((w.setCell ⟨w0.heap.size + 1, 0, none⟩ a).setCell ⟨w0.heap.size + 1, 1, none⟩ b) := bx_set (bx_set h 0 a) 1 b
/-- The answer, stored. -/
theorem bx_fin (h : Bx w0 u v w) (a b : Value) : ((w.setCell ⟨w0.heap.size + 1, 0, none⟩ a).setCell ⟨w0.heap.size + 1, 1, none⟩ b).heap[w0.heap.size + 1]? = some (.cells #[a, b] 30 (0, 0)) := by
  obtain ⟨cs, h1, h2⟩ := bx_ans h
  rw [heap_setCell_same _ _ _ _ _ _ (heap_setCell_same _ _ _ _ _ _ h1)]
  congr 2
  apply Array.ext
  · simp [h2]
  · intro i hi _
    have : i = 0 ∨ i = 1 := by simp [h2] at hi; omega
    rcases this with rfl | rfl <;> simp [h2]
theorem bx_rd (h : Bx w0 u v w) {x : Value} {xs : List Int} (hr : Rd w x xs) (a b : Value) : Rd ((w.setCell ⟨w0.heap.size + 1, 0, none⟩ a).setCell ⟨w0.heap.size + 1, 1, none⟩ b) x xs := by
  obtain ⟨cs, h1, h2⟩ := bx_ans h
  have k : Kp [w0.heap.size + 1] w ((w.setCell ⟨w0.heap.size + 1, 0, none⟩ a).setCell ⟨w0.heap.size + 1, 1, none⟩ b) := ((Kp.refl _ _).setCell (.inl (by simp)) _).setCell (.inl (by simp)) _
  exact hr.keep k fun g hg => by simpa using hr.nin h1 (by decide) g hg
/-- The struct, boxed, and the answer's box behind it. -/
theorem bx_start (w0 : World) (u v : Value) : Bx w0 u v ((w0.alloc (.cells #[u, v] 30)).alloc (.cells #[.slice none 0 0, .slice none 0 0] 30)) := by
  have hz := heap_alloc_new (w0.alloc (Obj.cells #[u, v] 30)) (Obj.cells #[.slice none 0 0, .slice none 0 0] 30)
  rw [World.size_alloc] at hz
  exact bx_mk (heap_alloc2_old _ _ _) ⟨_, hz, rfl⟩ (((Kp.refl _ _).alloc _).alloc _)
end

/-- A row that is known whole. -/
theorem Rd.of_row {w : World} {g : Nat} {xs : List Int} (h : w.heap[g]? = some (.cells (ints xs).toArray 3 (0, 0))) : Rd w (.slice (some ⟨g, 0, none⟩) xs.length xs.length) xs := by
  refine ⟨⟨some ⟨g, 0, none⟩, xs.length, rfl, Nat.le_refl _, (fun e => by cases e), fun _ => ⟨g, 0, rfl, fun i hi => ?_⟩⟩, fun y hy => ?_⟩
  · rw [Nat.zero_add, cell_of_row h, ← ints_get xs i hi]; simp
  · rw [blk_some, List.mem_singleton] at hy
    subst hy
    exact ⟨_, h⟩

/-- The answer: a struct of two slices, whose numbers lie there. -/
def RAns (w : World) (A L : List Int) (e : Ending) (w' : World) : Prop := ∃ u v, e = .returned (.agg #[u, v]) ∧ Rd w' u A ∧ Rd w' v L ∧ Kp [] w w'
def RAnsE (w : World) (A L : List Int) (n : Int) (e : Ending) (w' : World) : Prop := ∃ u v, e = .returned (.tuple #[.agg #[u, v], .int .i64 n]) ∧ Rd w' u A ∧ Rd w' v L ∧ Kp [] w w'

theorem rnew_any (w : World) (n : Nat) (h1 : 1 ≤ n) (h2 : n ≤ 8) : Calls Try.prog 8 #[.int .i64 n] w (RAns w (List.replicate n 0) []) := by
  have hmk := make_ints n (by omega)
  go_enter Try.func8, Try.ntmps8
  go_wp2_with fail
  have hr1 := heap_alloc2_old w (Obj.cells #[.slice (some ⟨w.heap.size + 1, 0, none⟩) n n, .slice none 0 0] 30) (Obj.cells (ints (List.replicate n 0)).toArray 3)
  have hr2 := heap_alloc_new (w.alloc (Obj.cells #[.slice (some ⟨w.heap.size + 1, 0, none⟩) n n, .slice none 0 0] 30)) (Obj.cells (ints (List.replicate n 0)).toArray 3)
  rw [World.size_alloc] at hr2
  refine bodyPost_row rfl w.heap.size 30 _ (0, 0) _ rfl rfl hr1 Try.underlying30 rfl (by kernel_rfl) ⟨_, _, rfl, ?_, Rd.nil _, ((Kp.refl _ _).alloc _).alloc _⟩
  have := Rd.of_row hr2
  rwa [List.length_replicate] at this

/-- 'with': a slot that has a reference. -/
theorem rwith_any (w : World) (u v : Value) (A L : List Int) (k : Nat) (x : Int) (hA : Rd w u A) (hL : Rd w v L) (hk : k < A.length) (h8 : A.length ≤ 8) :
    Calls Try.prog 22 #[.agg #[u, v], .int .i64 k, .int .i64 x] w fun e w' => ∃ u', e = .returned (.agg #[u', v]) ∧ Rd w' u' (A.set k x) ∧ Kp [] w w' := by
  obtain ⟨ao, cap, hu, -⟩ := hA.form
  obtain ⟨lo, lcap, hv, -⟩ := hL.form
  obtain ⟨n, hn⟩ : ∃ n, n = A.length := ⟨_, rfl⟩
  have HN := Lib.hid hn
  rw [← hn] at hu hk h8
  generalize L.length = m at hv
  have HB := Lib.hid (bx_start w u v)
  have HA := Lib.hid hA
  subst hu hv
  clear hn hA hL
  go_enter Try.func22, Try.ntmps22
  go_wp2_with (
    at_builtin
    refine wpList_append_cp (w0 := w) rfl (.const (.slice none 0 0)) (.tmp 9) rfl (.slice ao n cap) A n HN.out rfl rfl (HA.out.keep0 (bx_kp HB.out)) (by omega) (bx_kp HB.out) ?_
    intro a4 c4 w4 hr4 hk4
    have HB4 := Lib.hid (bx_on HB.out hk4)
    obtain ⟨g4, cc, hv4, -⟩ := hr4.at (fun e => by have := HN.out; rw [e] at this; simp at this; omega)
    rw [← HN.out] at hv4
    simp only [Value.slice.injEq, true_and] at hv4
    obtain ⟨rfl, rfl⟩ := hv4
    have cg := hr4.cell (i := k) (by rw [← HN.out]; exact hk)
    have fg := hr4.free k
    have HR5 := Lib.hid (hr4.set k x)
    have ng1 : ¬ g4 = w.heap.size := fun e => by
      obtain ⟨_, cur, hc⟩ := hr4.block g4 (by simp [blk_some])
      exact ne_types hc HB4.out.2.2.1 (by decide) e
    have hge := (hr4.block g4 (by simp [blk_some])).1
    have k5 : Kp [g4] w4 (w4.setCell ⟨g4, k, none⟩ (.int .i64 x)) := (Kp.refl _ _).setCell (.inl (by simp)) _
    have k5' : Kp [] w (w4.setCell ⟨g4, k, none⟩ (.int .i64 x)) := (bx_kp HB4.out).setCell (.inr hge) _
    have HB5 := Lib.hid (bx_to HB4.out (ky_row k5 (fun y hy => by
      rw [List.mem_singleton] at hy
      subst hy
      exact (hr4.block y (by simp [blk_some])).2)) k5')
    have cb := HB5.out.2.1
    obtain ⟨z0, z1, e0, e1, f0, f1⟩ := bx_cells HB5.out
    clear hr4 hk4 HB HA HB4 hge k5 k5'
    generalize A.getD k 0 = y4 at cg)
  exact bodyPost_row rfl (w.heap.size + 1) 30 #[.slice (some ⟨g4, 0, none⟩) n c4, .slice lo m lcap] (0, 0) _ rfl rfl (bx_fin HB5.out _ _) Try.underlying30 rfl (by kernel_rfl) ⟨_, rfl, bx_rd HB5.out HR5.out.rd _ _, bx_kp (bx_set2 HB5.out _ _)⟩

/-- A struct that is answered as it came in: the answer's box. -/
theorem same_box (w : World) (u v : Value) : ((w.alloc (Obj.cells #[u, v] 30)).alloc (Obj.cells #[u, v] 30)).heap[w.heap.size + 1]? = some (.cells #[u, v] 30 (0, 0)) ∧
    Kp [] w ((w.alloc (Obj.cells #[u, v] 30)).alloc (Obj.cells #[u, v] 30)) := by
  have hz := heap_alloc_new (w.alloc (Obj.cells #[u, v] 30)) (Obj.cells #[u, v] 30)
  rw [World.size_alloc] at hz
  exact ⟨hz, ((Kp.refl _ _).alloc _).alloc _⟩

theorem rset_bad (w : World) (u v : Value) (A L : List Int) (k x : Int) (hA : Rd w u A) (hL : Rd w v L) (h8 : A.length ≤ 8) (hk : k < 0 ∨ (A.length : Int) ≤ k ∨ x < 0) :
    Calls Try.prog 14 #[.agg #[u, v], .int .i64 k, .int .i64 x] w (RAnsE w A L 2) := by
  obtain ⟨ao, cap, hu, -⟩ := hA.form
  obtain ⟨lo, lcap, hv, -⟩ := hL.form
  have HS := Lib.hid (same_box w u v)
  have HA := Lib.hid (And.intro hA hL)
  generalize A.length = n at hu h8 hk
  generalize L.length = m at hv
  subst hu hv
  clear hA hL
  by_cases k0 : k < 0
  · clear hk
    go_enter Try.func14, Try.ntmps14
    go_wp2_with fail
    exact bodyPost_row_tmp rfl (w.heap.size + 1) 30 _ (0, 0) _ (.int .i64 2) rfl rfl rfl HS.out.1 Try.underlying30 rfl (by kernel_rfl) ⟨_, _, rfl, HA.out.1.keep0 HS.out.2, HA.out.2.keep0 HS.out.2, HS.out.2⟩
  · by_cases k1 : (n : Int) ≤ k
    · clear hk
      go_enter Try.func14, Try.ntmps14
      go_wp2_with fail
      exact bodyPost_row_tmp rfl (w.heap.size + 1) 30 _ (0, 0) _ (.int .i64 2) rfl rfl rfl HS.out.1 Try.underlying30 rfl (by kernel_rfl) ⟨_, _, rfl, HA.out.1.keep0 HS.out.2, HA.out.2.keep0 HS.out.2, HS.out.2⟩
    · obtain ⟨j, rfl⟩ : ∃ j : Nat, k = j := ⟨k.toNat, by omega⟩
      have hj : j < n := by omega
      have hx : x < 0 := by omega
      clear hk k0 k1
      go_enter Try.func14, Try.ntmps14
      go_wp2_with fail
      exact bodyPost_row_tmp rfl (w.heap.size + 1) 30 _ (0, 0) _ (.int .i64 2) rfl rfl rfl HS.out.1 Try.underlying30 rfl (by kernel_rfl) ⟨_, _, rfl, HA.out.1.keep0 HS.out.2, HA.out.2.keep0 HS.out.2, HS.out.2⟩
theorem rset_ok (w : World) (u v : Value) (A L : List Int) (k : Nat) (x : Int) (hA : Rd w u A) (hL : Rd w v L) (h8 : A.length ≤ 8) (hk : k < A.length) (hx : 0 ≤ x) :
    Calls Try.prog 14 #[.agg #[u, v], .int .i64 k, .int .i64 x] w (RAnsE w (A.set k x) L 0) := by
  have HB := Lib.hid (bx_start w u v)
  have hw := rwith_any _ u v A L k x (hA.keep0 (bx_kp HB.out)) (hL.keep0 (bx_kp HB.out)) hk h8
  obtain ⟨ao, cap, hu, -⟩ := hA.form
  obtain ⟨lo, lcap, hv, -⟩ := hL.form
  have HL := Lib.hid hL
  generalize A.length = n at hu h8 hk
  generalize L.length = m at hv
  subst hu hv
  clear hA hL
  go_enter Try.func14, Try.ntmps14
  go_wp2_with fail
  refine hw.mono ?_
  rintro e w6 ⟨u', rfl, hr6, hk6⟩
  have HB6 := Lib.hid (bx_on HB.out hk6)
  have HR6 := Lib.hid hr6
  obtain ⟨ao6, cap6, hu6, -⟩ := hr6.form
  generalize (A.set k x).length = n6 at hu6
  subst hu6
  obtain ⟨z0, z1, e0, e1, f0, f1⟩ := bx_cells HB6.out
  clear hk6 hr6 hw HB
  go_wp2_with fail
  exact bodyPost_row_tmp rfl (w.heap.size + 1) 30 #[.slice ao6 n6 cap6, .slice lo m lcap] (0, 0) _ (.int .i64 0) rfl rfl rfl (bx_fin HB6.out _ _) Try.underlying30 rfl (by kernel_rfl) ⟨_, _, rfl, bx_rd HB6.out HR6.out _ _, bx_rd HB6.out (HL.out.keep0 (bx_kp HB6.out)) _ _, bx_kp (bx_set2 HB6.out _ _)⟩
theorem rset_any (w : World) (u v : Value) (A L : List Int) (k x : Int) (hA : Rd w u A) (hL : Rd w v L) (h8 : A.length ≤ 8) :
    Calls Try.prog 14 #[.agg #[u, v], .int .i64 k, .int .i64 x] w (RAnsE w (setA A k x) L (setE A k x)) := by
  by_cases hb : (badS A k || decide (x < 0)) = true
  · rw [show setE A k x = 2 from if_pos hb, show setA A k x = A from if_pos hb]
    refine rset_bad w u v A L k x hA hL h8 ?_
    rw [Bool.or_eq_true] at hb
    rcases hb with hb | hb
    · rcases badS_or hb with q | q
      · exact .inl q
      · exact .inr (.inl q)
    · exact .inr (.inr (by simpa using hb))
  · rw [show setE A k x = 0 from if_neg hb, show setA A k x = A.set k.toNat x from if_neg hb]
    rw [Bool.not_eq_true, Bool.or_eq_false_iff] at hb
    obtain ⟨j, rfl, hj⟩ := badS_no hb.1
    exact rset_ok w u v A L j x hA hL h8 hj (by simpa using hb.2)

end Go.Proofs.Ytbclbgabeffcfaa
