/- The walks of package give, on: Back. Conditions: as each theorem states them. -/
import Derived.Test.YteppcbihhikoaaaGvD
namespace Go.Proofs.Yteppcbihhikoaaa
set_option linter.unusedVariables false
set_option linter.unusedSimpArgs false
open Go.RowKit

section
variable {n p r t : Nat} {g : Gv} {w w' : World}
/-- What giving a run in the map does. -/
theorem cl_back {M b r' : Nat} (hM : M < 18446744073709551616) (b1 b2 : Nat) (w : World) (c1 : w.cell? ⟨b1, 0, none⟩ = some (.int .i64 b)) (c2 : w.cell? ⟨b2, 0, none⟩ = some (.int .i64 r')) :
    Calls Try.prog 36 #[.int .u64 M, .pointer (some ⟨b1, 0, none⟩), .pointer (some ⟨b2, 0, none⟩)] w fun e w' => e = .returned (.int .u64 (giveM M b r')) ∧ Kp [] w w' ∧ True := by
  have hg := Lib.hid (fun w => Bm.give_is M b r' (giveM M b r') _ w hM rfl (by simp [giveM]))
  generalize Bm.isR M b r' false = q at hg
  generalize giveM M b r' = M' at hg ⊢
  go_enter Try.func36, Try.ntmps36
  go_wp2_with fail
  refine (hg.out _).mono ?_
  rintro e w1 ⟨rfl, rfl⟩
  go_wp2
  go_ret
  exact ⟨rfl, Kp.refl _ _, trivial⟩

/-- The boxes of Back: the layout's, the block's, the run's. -/
def bw (w : World) (n : Nat) (b r' : Int) : World := ((w.alloc (.cells #[.int .i64 1, .int .i64 1, .int .i64 n] 26)).alloc (.cells #[.int .i64 b] 3)).alloc (.cells #[.int .i64 r'] 3)
theorem bw_kp (w : World) (n : Nat) (b r' : Int) : Kp [] w (bw w n b r') := (((Kp.refl [] w).alloc _).alloc _).alloc _
/-- What Back finds in its boxes. -/
structure Bk (a n : Nat) (b r' : Int) (w : World) : Prop where
  lx : Lx a n w
  cb : w.cell? ⟨a + 1, 0, none⟩ = some (.int .i64 b)
  cr : w.cell? ⟨a + 1 + 1, 0, none⟩ = some (.int .i64 r')
theorem Bk.new (w : World) (n : Nat) (b r' : Int) : Bk w.heap.size n b r' (bw w n b r') := by
  have z1 := World.size_alloc w (.cells #[.int .i64 1, .int .i64 1, .int .i64 n] 26)
  have z2 := World.size_alloc (w.alloc (.cells #[.int .i64 1, .int .i64 1, .int .i64 n] 26)) (.cells #[.int .i64 b] 3)
  have r1 : (bw w n b r').heap[w.heap.size + 1]? = some (.cells #[.int .i64 b] 3 (0, 0)) := ((Kp.refl [] _).alloc _).row (by simp) (by rw [← z1]; exact heap_alloc_new _ _)
  have r2 : (bw w n b r').heap[w.heap.size + 1 + 1]? = some (.cells #[.int .i64 r'] 3 (0, 0)) := by rw [← z1, ← z2]; exact heap_alloc_new _ _
  exact ⟨(Lx.new w n).keep (((Kp.refl [] _).alloc _).alloc _) (by simp), cell_of_row r1 0, cell_of_row r2 0⟩
theorem Bk.keep {S : List Nat} {a : Nat} {b r' : Int} (h : Bk a n b r' w) (k : Kp S w w') (hS : ∀ x ∈ S, x < a) : Bk a n b r' w' :=
  ⟨h.lx.keep k (fun e => by have := hS _ e; omega), kp_cell k (fun e => by have := hS _ e; omega) h.cb, kp_cell k (fun e => by have := hS _ e; omega) h.cr⟩

theorem g_back_no (w : World) (n : Nat) (hn : n ≤ 64) (b r' : Int) (p : Addr) (h : runG n b r' = false) :
    Calls Try.prog 11 #[.iface 24 (.pointer (some p)), .agg #[.int .i64 1, .int .i64 1, .int .i64 n], .int .i64 b, .int .i64 r'] w fun e w' => e = .returned (.tuple #[]) ∧ Kp [] w w' := by
  have hh := Lib.hid (fun w => g_has n b r' w hn)
  rw [h] at hh
  have HK := Lib.hid (bw_kp w n b r')
  unfold bw at HK
  clear h
  go_enter Try.func11, Try.ntmps11
  go_wp2_with fail
  refine (hh.out _).mono ?_
  rintro e w1 ⟨rfl, hk⟩
  have K1 := Lib.hid (HK.out.trans hk)
  clear hk
  go_wp2
  exact bodyPost_ret (results_none Try.results11 _ _ _) rfl ⟨rfl, K1.out⟩

/-- What Back's region holds on to. -/
def Bs (a n : Nat) (b r' : Int) (p r : Nat) (w0 wx : World) : Prop :=
  wx.cell? ⟨a, 0, none⟩ = some (.int .i64 1) ∧ wx.cell? ⟨a, 1, none⟩ = some (.int .i64 1) ∧ wx.cell? ⟨a, 2, none⟩ = some (.int .i64 n) ∧ wx.cell? ⟨a + 1, 0, none⟩ = some (.int .i64 b) ∧ wx.cell? ⟨a + 1 + 1, 0, none⟩ = some (.int .i64 r') ∧ Kp [p, r] w0 wx
theorem bs_of {a : Nat} {b r' : Int} {w0 wx : World} (h : Bk a n b r' wx) (k : Kp [p, r] w0 wx) : Bs a n b r' p r w0 wx := ⟨h.lx.c0, h.lx.c1, h.lx.c2, h.cb, h.cr, k⟩
theorem bs_bk {a : Nat} {b r' : Int} {w0 wx : World} (h : Bs a n b r' p r w0 wx) : Bk a n b r' wx := ⟨⟨h.1, h.2.1, h.2.2.1⟩, h.2.2.2.1, h.2.2.2.2.1⟩
theorem bs_drew {a : Nat} {b r' : Int} {w0 wx : World} (h : Bs a n b r' p r w0 wx) : Bs a n b r' p r w0 wx.drew := bs_of ((bs_bk h).keep ((Kp.refl [] wx).drew) (by simp)) h.2.2.2.2.2.drew
theorem bs_step {a : Nat} {b r' : Int} {w0 wx wy : World} (h : Bs a n b r' p r w0 wx) (k : Kp [] wx wy) : Bs a n b r' p r w0 wy := bs_of ((bs_bk h).keep k (by simp)) (h.2.2.2.2.2.trans (k.mono (by simp)))
theorem bs_write {a : Nat} {b r' : Int} {w0 wx wy : World} (h : Bs a n b r' p r w0 wx) (hp : p < a ∧ r < a) (k : Kp [p, r] wx wy) : Bs a n b r' p r w0 wy := bs_of ((bs_bk h).keep k (by simp; omega)) (h.2.2.2.2.2.trans k)
end
end Go.Proofs.Yteppcbihhikoaaa
