/- GivePlays: an entry of no block; what is known ahead of a round, and in it; where it asks nothing. Conditions: as each theorem states them. -/
import Derived.Test.YteppcbihhikoaaaGvW
import Derived.Test.YteppcbihhikoaaaGvV
import Derived.Test.YteppcbihhikoaaaGvO
namespace Go.Proofs.Yteppcbihhikoaaa
set_option linter.unusedVariables false
set_option linter.unusedSimpArgs false
set_option maxRecDepth 100000
open Go.RowKit

theorem g_entry_no (w : World) (n : Nat) (hn : n ≤ 64) (b : Int) (p : Addr) (h : runG n b 1 = false) :
    Calls Try.prog 23 #[.iface 24 (.pointer (some p)), .agg #[.int .i64 1, .int .i64 1, .int .i64 n], .int .i64 b] w fun e w' => e = .returned (.agg #[.int .u8 0, .int .u8 0, .int .u8 0, .int .u8 0]) ∧ Kp [] w w' := by
  have hh := Lib.hid (fun w => g_has n b 1 w hn)
  rw [h] at hh
  have HK := Lib.hid (((Kp.refl [] w).alloc (.cells #[.int .i64 1, .int .i64 1, .int .i64 n] 26)).alloc (.cells #[.int .u8 0, .int .u8 0, .int .u8 0, .int .u8 0] 50))
  have hb := heap_alloc_new (w.alloc (.cells #[.int .i64 1, .int .i64 1, .int .i64 n] 26)) (.cells #[.int .u8 0, .int .u8 0, .int .u8 0, .int .u8 0] 50)
  rw [World.size_alloc] at hb
  clear h
  go_enter Try.func23, Try.ntmps23
  go_wp2_with fail
  refine (hh.out _).mono ?_
  rintro e w1 ⟨rfl, hk⟩
  have hr := hk.row (by simp) hb
  have c0 : w1.cell? ⟨w.heap.size + 1, 0, none⟩ = some (.int .u8 0) := cell_of_row hr 0
  have c1 : w1.cell? ⟨w.heap.size + 1, 1, none⟩ = some (.int .u8 0) := cell_of_row hr 1
  have c2 : w1.cell? ⟨w.heap.size + 1, 2, none⟩ = some (.int .u8 0) := cell_of_row hr 2
  have c3 : w1.cell? ⟨w.heap.size + 1, 3, none⟩ = some (.int .u8 0) := cell_of_row hr 3
  have f0 := free_of_row hr 0
  have f1 := free_of_row hr 1
  have f2 := free_of_row hr 2
  have f3 := free_of_row hr 3
  have HR := Lib.hid hr
  have K1 := Lib.hid (HK.out.trans hk)
  clear hk hr hb
  go_wp2_with fail
  exact bodyPost_row rfl (w.heap.size + 1) 50 (cs4 0 0 0 0) (0, 0) _ rfl rfl (put4_row 0 0 0 0 HR.out) Try.underlying50 rfl (by kernel_rfl) ⟨rfl, kp_own K1.out (put4_kp _ _ _ _ _ _) (by omega)⟩

/-- What is known ahead of a round, and in it: the arena stands at g, the document's own at h. -/
structure GP (w0 : World) (a p r n b base : Nat) (g h : Gv) (t q cap : Nat) (w : World) : Prop where
  wk : Wk a p r n g t w0 w
  box : w.heap[b]? = some (.cells (s3 n h.M q cap) 33 (0, 0))
  row : Rw w q cap h.E
  ge : base ≤ q
  lo : p < base ∧ r < base ∧ base ≤ b ∧ a < b ∧ w0.heap.size ≤ base
  okh : h.Ok n
  hn : 1 ≤ n ∧ n ≤ 20
section
variable {w0 w w' : World} {a p r n b base t t' q cap : Nat} {g g' h h' : Gv}
theorem GP.step (H : GP w0 a p r n b base g h t q cap w) (hg : Gw n p r g' t' w') (k : Kp [p, r] w w') : GP w0 a p r n b base g' h t' q cap w' :=
  ⟨H.wk.step hg k, k.row (by have := H.lo; simp; omega) H.box, H.row.keep k (by have := H.lo; have := H.ge; simp; omega), H.ge, H.lo, H.okh, H.hn⟩
theorem GP.on (H : GP w0 a p r n b base g h t q cap w) (k : Kp [] w w') : GP w0 a p r n b base g h t q cap w' := H.step (H.wk.gw.on k) (k.mono (by simp))
theorem GP.dv (H : GP w0 a p r n b base g h t q cap w) : Dv n h (sv n h.M q cap) base w := ⟨⟨q, cap, rfl, H.row, H.ge⟩, H.okh.len, H.hn.1, by have := H.hn; omega⟩
theorem GP.size (H : GP w0 a p r n b base g h t q cap w) : base ≤ w.heap.size := by have := lt_of_block H.box; have := H.lo; omega
theorem GP.qb (H : GP w0 a p r n b base g h t q cap w) : q ≠ b := by
  intro e
  obtain ⟨⟨cur, hc, _⟩, _⟩ := H.row
  rw [e] at hc
  have := hc.symm.trans H.box
  simp at this
/-- The document's own is replaced. -/
theorem GP.put {q2 cap2 : Nat} (H : GP w0 a p r n b base g h t q cap w) (k : Kp [] w w') (hr : Rw w' q2 cap2 h'.E) (hq : base ≤ q2) (hok : h'.Ok n) : GP w0 a p r n b base g h' t q2 cap2 (w'.setRow b (s3 n h'.M q2 cap2)) := by
  have H1 := H.on k
  have hk : Kp [b] w' (w'.setRow b (s3 n h'.M q2 cap2)) := (Kp.refl _ _).setRow (.inl (by simp)) _
  have hne : q2 ≠ b := by
    intro e
    obtain ⟨⟨cur, hc, _⟩, _⟩ := hr
    rw [e] at hc
    have := hc.symm.trans H1.box
    simp at this
  have l := H.lo
  refine ⟨⟨H1.wk.gw.keep hk (by simp; omega) (by simp; omega), H1.wk.lx.keep hk (by simp; omega), (((H1.wk.kp.mono (T := [b]) (by simp)).trans hk).mono fun x hx hlt => by simp at hx; omega), H1.wk.ge⟩, setRow_heap _ _ _ _ _ _ H1.box, hr.keep hk (by simpa using hne), hq, H.lo, hok, H.hn⟩
theorem GP.cells (H : GP w0 a p r n b base g h t q cap w) : w.cell? ⟨b, 0, none⟩ = some (.int .i64 n) ∧ w.cell? ⟨b, 1, none⟩ = some (.int .u64 h.M) ∧ w.cell? ⟨b, 2, none⟩ = some (.slice (some ⟨q, 0, none⟩) n cap) := ⟨cell_of_row H.box 0, cell_of_row H.box 1, cell_of_row H.box 2⟩
end

theorem plays_skip (w : World) (x : Int) (x0 : 0 ≤ x) (x1 : x ≤ 255) (ao : Option Addr) (m cap : Nat) (h : x < 1 ∨ 20 < x ∨ 100 < m) :
    Calls Try.prog 3 #[.int .u8 x, .slice ao m cap] w fun e w' => e = .returned (.bool true) ∧ Kp [] w w' := by
  have e1 := IntWalk.i64_in x (by omega)
  rcases (by omega : x < 1 ∨ (1 ≤ x ∧ 20 < x) ∨ (1 ≤ x ∧ x ≤ 20 ∧ 100 < m)) with h1 | ⟨h1, h2⟩ | ⟨h1, h2, h3⟩
  all_goals
    clear h
    go_enter Try.func3, Try.ntmps3
    go_wp2_with fail
    refine (wakes_is _).mono ?_
    rintro e w1 ⟨rfl, hk⟩
    have H := Lib.hid hk
    clear hk
    go_wp2_with fail
    go_ret
    exact ⟨rfl, H.out⟩

/-- What Waiting asks. -/
theorem is_ow (c : Nat) (o' ow : Int) (w : World) (h : w.cell? ⟨c, 3, none⟩ = some (.int .u8 ow)) :
    Calls Try.prog 14 (#[.int .u8 o'] ++ #[.pointer (some ⟨c, 0, none⟩)]) w fun e w2 => e = .returned (.bool (o' == ow)) ∧ Kp [] w w2 := by
  show Calls Try.prog 14 #[.int .u8 o', .pointer (some ⟨c, 0, none⟩)] w _
  go_enter Try.func14, Try.ntmps14
  go_wp2
  go_ret
  exact ⟨rfl, Kp.refl _ _⟩
/-- What Set's region holds on to. -/
def Ss (a c n : Nat) (bl k0 c0 r0 o0 : Int) (p r : Nat) (w0 wx : World) : Prop :=
  wx.cell? ⟨a, 0, none⟩ = some (.int .i64 1) ∧ wx.cell? ⟨a, 1, none⟩ = some (.int .i64 1) ∧ wx.cell? ⟨a, 2, none⟩ = some (.int .i64 n) ∧ wx.cell? ⟨c, 1, none⟩ = some (.int .i64 bl) ∧ wx.cell? ⟨c, 4, none⟩ = some (.int .u8 k0) ∧ wx.cell? ⟨c, 5, none⟩ = some (.int .u8 c0) ∧ wx.cell? ⟨c, 6, none⟩ = some (.int .u8 r0) ∧ wx.cell? ⟨c, 7, none⟩ = some (.int .u8 o0) ∧ Kp [p, r] w0 wx
theorem ss_of {a c n p r : Nat} {d bl ru ow k0 c0 r0 o0 : Int} {w0 wx : World} (h : Lx a n wx) (hc : wx.heap[c]? = some (.cells #[.int .u8 d, .int .i64 bl, .int .i64 ru, .int .u8 ow, .int .u8 k0, .int .u8 c0, .int .u8 r0, .int .u8 o0] 38 (0, 0))) (k : Kp [p, r] w0 wx) : Ss a c n bl k0 c0 r0 o0 p r w0 wx :=
  ⟨h.c0, h.c1, h.c2, cell_of_row hc 1, cell_of_row hc 4, cell_of_row hc 5, cell_of_row hc 6, cell_of_row hc 7, k⟩
theorem ss_keep {a c n p r : Nat} {bl k0 c0 r0 o0 : Int} {w0 wx wy : World} (h : Ss a c n bl k0 c0 r0 o0 p r w0 wx) (k : Kp [p, r] wx wy) (hp : a ≠ p ∧ a ≠ r ∧ c ≠ p ∧ c ≠ r) : Ss a c n bl k0 c0 r0 o0 p r w0 wy :=
  have ha : a ∉ [p, r] := by simp [hp.1, hp.2.1]
  have hc : c ∉ [p, r] := by simp [hp.2.2.1, hp.2.2.2]
  ⟨kp_cell k ha h.1, kp_cell k ha h.2.1, kp_cell k ha h.2.2.1, kp_cell k hc h.2.2.2.1, kp_cell k hc h.2.2.2.2.1, kp_cell k hc h.2.2.2.2.2.1, kp_cell k hc h.2.2.2.2.2.2.1, kp_cell k hc h.2.2.2.2.2.2.2.1, h.2.2.2.2.2.2.2.2.trans k⟩

/-- What the first compare's region holds on to. -/
def Ms1 (b M p r : Nat) (w0 wx : World) : Prop := wx.cell? ⟨b, 1, none⟩ = some (.int .u64 M) ∧ Kp [p, r] w0 wx
theorem ms1_of {b M p r : Nat} {w0 wx : World} (h : wx.cell? ⟨b, 1, none⟩ = some (.int .u64 M)) (k : Kp [p, r] w0 wx) : Ms1 b M p r w0 wx := ⟨h, k⟩
theorem ms1_keep {b M p r : Nat} {w0 wx wy : World} (h : Ms1 b M p r w0 wx) (k : Kp [p, r] wx wy) (hp : b ≠ p ∧ b ≠ r) : Ms1 b M p r w0 wy := ⟨kp_cell k (by simp [hp.1, hp.2]) h.1, h.2.trans k⟩
/-- What the second compare's region holds on to. -/
def Es (a n b q j cap f : Nat) (x k c r' o : Int) (p r : Nat) (w0 wx : World) : Prop :=
  wx.cell? ⟨a, 0, none⟩ = some (.int .i64 1) ∧ wx.cell? ⟨a, 1, none⟩ = some (.int .i64 1) ∧ wx.cell? ⟨a, 2, none⟩ = some (.int .i64 n) ∧ wx.cell? ⟨b, 2, none⟩ = some (.slice (some ⟨q, 0, none⟩) n cap) ∧ wx.cell? ⟨q, j, none⟩ = some (.int .u64 x) ∧ wx.cell? ⟨f, 0, none⟩ = some (.int .u8 k) ∧ wx.cell? ⟨f, 1, none⟩ = some (.int .u8 c) ∧ wx.cell? ⟨f, 2, none⟩ = some (.int .u8 r') ∧ wx.cell? ⟨f, 3, none⟩ = some (.int .u8 o) ∧ Kp [p, r] w0 wx
theorem es_of {a n b q j cap f : Nat} {x k c r' o : Int} {p r : Nat} {w0 wx : World} (h : Lx a n wx) (hb : wx.cell? ⟨b, 2, none⟩ = some (.slice (some ⟨q, 0, none⟩) n cap)) (hq : wx.cell? ⟨q, j, none⟩ = some (.int .u64 x)) (hf : wx.heap[f]? = some (.cells #[.int .u8 k, .int .u8 c, .int .u8 r', .int .u8 o] 36 (0, 0))) (kk : Kp [p, r] w0 wx) : Es a n b q j cap f x k c r' o p r w0 wx :=
  ⟨h.c0, h.c1, h.c2, hb, hq, cell_of_row hf 0, cell_of_row hf 1, cell_of_row hf 2, cell_of_row hf 3, kk⟩
theorem es_keep {a n b q j cap f : Nat} {x k c r' o : Int} {p r : Nat} {w0 wx wy : World} (h : Es a n b q j cap f x k c r' o p r w0 wx) (kk : Kp [p, r] wx wy) (hp : a ∉ [p, r] ∧ b ∉ [p, r] ∧ q ∉ [p, r] ∧ f ∉ [p, r]) : Es a n b q j cap f x k c r' o p r w0 wy := by
  obtain ⟨a0, a1, a2, b2, q0, f0, f1, f2, f3, k0⟩ := h
  exact ⟨kp_cell kk hp.1 a0, kp_cell kk hp.1 a1, kp_cell kk hp.1 a2, kp_cell kk hp.2.1 b2, kp_cell kk hp.2.2.1 q0, kp_cell kk hp.2.2.2 f0, kp_cell kk hp.2.2.2 f1, kp_cell kk hp.2.2.2 f2, kp_cell kk hp.2.2.2 f3, k0.trans kk⟩
theorem entry_same (k c r o : Int) (w : World) : (binOp .neq 50 (.agg #[.int .u8 k, .int .u8 c, .int .u8 r, .int .u8 o]) (.agg #[.int .u8 k, .int .u8 c, .int .u8 r, .int .u8 o])).run Try.prog w = .ok (.bool false) w := by simp [go_sem]
theorem entry_zero (w : World) : (binOp .eql 50 (.agg #[.int .u8 0, .int .u8 0, .int .u8 0, .int .u8 0]) (.agg #[.int .u8 0, .int .u8 0, .int .u8 0, .int .u8 0])).run Try.prog w = .ok (.bool true) w := by simp [go_sem]
end Go.Proofs.Yteppcbihhikoaaa
