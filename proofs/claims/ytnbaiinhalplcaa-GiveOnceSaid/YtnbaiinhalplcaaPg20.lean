/- The walks of package give, on: Entry. The walks of package give, on: Back. The walks of package give, on: Back, walked. The walks of package give, on: Waiting. The walks of layer layout, on: New. Law 14's helpers over the whole words: an arena is made, the known blocks (wakes). Law 14: the pieces of its driver ahead of its second loop, each done alone. Written by gen/go_c.py. Conditions: as each theorem states them. -/
import Derived.Deep.CutBlock
import Derived.Deep.CutRange
import Derived.Deep.DeepCutAuto
import Derived.Deep.RegionHeld3
import Derived.IntWalk
import Derived.Carry
import Derived.Test.YtnbaiinhalplcaaPg16
import Derived.Test.YtnbaiinhalplcaaPg19
namespace Go.Proofs.Ytnbaiinhalplcaa
set_option linter.unusedVariables false
set_option linter.unusedSimpArgs false
open Go.RowKit

section
variable {T G n p r t : Nat} {H : List Int} {w w' : World}
/-- An entry's four cells. -/
def cs4 (k c r o : Int) : Array Value := #[.int .u8 k, .int .u8 c, .int .u8 r, .int .u8 o]
/-- What is known once the entry lies in a box of its own. -/
structure PE (w0 : World) (T G n p r : Nat) (H : List Int) (t : Nat) (b : Nat) (k c r' o : Int) (wc : World) : Prop where
  gw : Hw T G n p r H t wc
  kp : Kp [p, r] w0 wc
  hb : wc.heap[b]? = some (.cells (cs4 k c r' o) 52 (0, 0))
  ho : wc.heap[w0.heap.size + 1]? = some (.cells (cs4 0 0 0 0) 52 (0, 0))
  ge : w0.heap.size + 2 ≤ b
def put4 (w : World) (b : Nat) (k c r o : Int) : World := (((w.setCell ⟨b, 0, none⟩ (.int .u8 k)).setCell ⟨b, 1, none⟩ (.int .u8 c)).setCell ⟨b, 2, none⟩ (.int .u8 r)).setCell ⟨b, 3, none⟩ (.int .u8 o)
theorem put4_kp (w : World) (b : Nat) (k c r o : Int) : Kp [b] w (put4 w b k c r o) := ((((Kp.refl [b] w).setCell (.inl (by simp)) _).setCell (.inl (by simp)) _).setCell (.inl (by simp)) _).setCell (.inl (by simp)) _
theorem put4_row {w : World} {b : Nat} {k0 c0 r0 o0 : Int} (k c r o : Int) {T : TypeId} (h : w.heap[b]? = some (.cells (cs4 k0 c0 r0 o0) T (0, 0))) : (put4 w b k c r o).heap[b]? = some (.cells (cs4 k c r o) T (0, 0)) := by
  unfold put4
  rw [heap_setCell_same _ _ _ _ _ _ (heap_setCell_same _ _ _ _ _ _ (heap_setCell_same _ _ _ _ _ _ (heap_setCell_same _ _ _ _ _ _ h)))]
  rfl
theorem Kp.new_set {S : List Nat} {w w1 w2 : World} {b : Nat} (h : Kp S w w1) (k : Kp [b] w1 w2) (hb : w.heap.size ≤ b) : Kp S w w2 :=
  ⟨k.os.trans h.os, k.tape.trans h.tape, k.output.trans h.output, Nat.le_trans h.size k.size, fun i hi hn => (k.block i (Nat.lt_of_lt_of_le hi h.size) (by simp; omega)).trans (h.block i hi hn)⟩
theorem PE.make1 {w0 w4 : World} {k c r' o : Int} (hg : Hw T G n p r H t w4) (hk : Kp [p, r] w0 w4) (ho : w4.heap[w0.heap.size + 1]? = some (.cells (cs4 0 0 0 0) 52 (0, 0))) :
    PE w0 T G n p r H t w4.heap.size k c r' o (w4.alloc (.cells (cs4 k c r' o) 52)) :=
  ⟨hg.on ((Kp.refl _ _).alloc _), hk.alloc _, heap_alloc_new _ _, ((Kp.refl [] w4).alloc _).row (by simp) ho, lt_of_block ho⟩
theorem PE.make2 {w0 w4 : World} {k c r' o : Int} {b : Nat} (hg : Hw T G n p r H t w4) (hk : Kp [p, r] w0 w4) (hp : p < w0.heap.size ∧ r < w0.heap.size) (ho : w4.heap[w0.heap.size + 1]? = some (.cells (cs4 0 0 0 0) 52 (0, 0))) (hb : w4.heap[b]? = some (.cells (cs4 0 0 0 0) 52 (0, 0))) (hge : w0.heap.size + 2 ≤ b) :
    PE w0 T G n p r H t b k c r' o (put4 w4 b k c r' o) :=
  ⟨hg.keep (put4_kp _ _ _ _ _ _) (by simp; omega) (by simp; omega), hk.new_set (put4_kp _ _ _ _ _ _) (by omega), put4_row _ _ _ _ hb, (put4_kp _ _ _ _ _ _).row (by simp; omega) ho, hge⟩

set_option maxRecDepth 100000 in
set_option maxHeartbeats 16000000 in
theorem g_entry (h : Hw T G n p r H t w) (ht : t ≤ 900000) (k : Nat) (hk : k < n) (x : Int) (hx : H.getD (3 + T + G + k) 0 = x) :
    Calls Try.prog 17 #[.iface 25 (.pointer (some ⟨p, 0, none⟩)), .agg #[.int .i64 T, .int .i64 G, .int .i64 n], .int .i64 k] w fun e w' => e = .returned (.agg #[.int .u8 (ek x), .int .u8 (ec x), .int .u8 (er x), .int .u8 (eo x)]) ∧ Hw T G n p r H (t + 1) w' ∧ Kp [p, r] w w' := by
  have hhas := Lib.hid (fun w => g_has T G n k 1 w h.hn)
  rw [show runG n k 1 = true from runG_iff.2 (by omega)] at hhas
  have hen := Lib.hid (fun w => entry_at (T := T) (G := G) (n := n) k w h.hT h.hG h.hn hk)
  have hx01 := h.ok (3 + T + G + k)
  rw [hx] at hx01
  have htk := Lib.hid (fun w => take_part x w hx01.1 hx01.2)
  have K0 := Lib.hid (((Kp.refl [] w).alloc (.cells #[.int .i64 T, .int .i64 G, .int .i64 n] 27)).alloc (.cells #[.int .u8 0, .int .u8 0, .int .u8 0, .int .u8 0] 52))
  have HG := Lib.hid h
  have HRD := Lib.hid (fun (w' : World) (hw : Kp [] w w') => rd_word (h.on hw) ht (3 + T + G + k) (by have := h.len; omega) ((3 + T + G + k : Nat) : Int) x rfl hx)
  have hpl := h.lt
  have HX : Hid (∀ w', Kp [] ((w.alloc (.cells #[.int .i64 T, .int .i64 G, .int .i64 n] 27)).alloc (.cells #[.int .u8 0, .int .u8 0, .int .u8 0, .int .u8 0] 52)) w' → Lx w.heap.size T G n w' ∧ w'.heap[w.heap.size + 1]? = some (.cells #[.int .u8 0, .int .u8 0, .int .u8 0, .int .u8 0] 52 (0, 0))) :=
    Lib.hid fun w' hk => ⟨((Lx.new w T G n).keep ((Kp.refl [] _).alloc _) (by simp)).keep hk (by simp), hk.row (by simp) (by rw [show w.heap.size + 1 = (w.alloc (.cells #[.int .i64 T, .int .i64 G, .int .i64 n] 27)).heap.size from (World.size_alloc _ _).symm]; exact heap_alloc_new _ _)⟩
  clear hx01 hx
  have hna := na_read
  generalize ek x = xk at htk ⊢
  generalize ec x = xc at htk ⊢
  generalize er x = xr at htk ⊢
  generalize eo x = xo at htk ⊢
  go_enter Try.func17, Try.ntmps17
  go_wp2_with fail
  refine (hhas.out _).mono ?_
  rintro e w1 ⟨rfl, hk1⟩
  have X1 := HX.out w1 hk1
  have K1 := Lib.hid (K0.out.trans hk1)
  have hc := X1.1
  obtain ⟨a0, a1, a2⟩ := hc
  have R1 := Lib.hid X1.2
  have X1' := Lib.hid X1.1
  have hz1 := hk1.size
  clear X1 hk1
  have z1 : w.heap.size + 2 ≤ w1.heap.size := by have := hz1; simpa [World.size_alloc] using this
  have z1a : w.heap.size < w1.heap.size := by omega
  have z1b : ¬ w.heap.size = w1.heap.size := by omega
  have b0 : (w1.alloc (.cells #[.int .u8 0, .int .u8 0, .int .u8 0, .int .u8 0] 52)).cell? ⟨w.heap.size, 0, none⟩ = some (.int .i64 T) := (X1'.out.keep ((Kp.refl [] w1).alloc _) (by simp)).c0
  have b1 : (w1.alloc (.cells #[.int .u8 0, .int .u8 0, .int .u8 0, .int .u8 0] 52)).cell? ⟨w.heap.size, 1, none⟩ = some (.int .i64 G) := (X1'.out.keep ((Kp.refl [] w1).alloc _) (by simp)).c1
  have b2 : (w1.alloc (.cells #[.int .u8 0, .int .u8 0, .int .u8 0, .int .u8 0] 52)).cell? ⟨w.heap.size, 2, none⟩ = some (.int .i64 n) := (X1'.out.keep ((Kp.refl [] w1).alloc _) (by simp)).c2
  go_upto_region 3 with (fail)
  go_cut [7] (fun v7 wc => ∃ b, v7 = .pointer (some ⟨b, 0, none⟩) ∧ Hid (PE w T G n p r H (t + 1) b xk xc xr xo wc))
  case first =>
    go_region_with (first
      | (go_at_call 38; refine (hen.out _).mono ?_; rintro e w2 ⟨rfl, hk⟩
         try replace hk := hk.drew_l
         try have B7 := hk.row (by simp) (heap_alloc_new _ _)
         have K2 : Hid (Kp [] w1 w2) := Lib.hid (by refine Kp.trans ?_ hk; first | exact ⟨rfl, rfl, rfl, Nat.le_refl _, fun _ _ _ => rfl⟩ | exact Kp.alloc ⟨rfl, rfl, rfl, Nat.le_refl _, fun _ _ _ => rfl⟩ _)
         have z2 : w1.heap.size ≤ w2.heap.size := K2.out.size
         clear hk)
      | (go_at_call 14
         refine (HRD.out _ (K1.out.trans (K2.out.trans ?_))).mono ?_
         · first | exact ⟨rfl, rfl, rfl, Nat.le_refl _, fun _ _ _ => rfl⟩ | exact Kp.alloc ⟨rfl, rfl, rfl, Nat.le_refl _, fun _ _ _ => rfl⟩ _
         rintro e w3 ⟨rfl, hg, hk⟩
         try have B7 := hk.row (by simp; omega) B7
         try have B7 := hk.row (by simp; omega) (heap_alloc_new _ _)
         have G3 := Lib.hid hg
         have K3 : Hid (Kp [p, r] w1 w3) := Lib.hid (by refine (K2.out.mono (by simp)).trans (Kp.trans ?_ hk); first | exact ⟨rfl, rfl, rfl, Nat.le_refl _, fun _ _ _ => rfl⟩ | exact Kp.alloc ⟨rfl, rfl, rfl, Nat.le_refl _, fun _ _ _ => rfl⟩ _)
         have z3 : w1.heap.size ≤ w3.heap.size := K3.out.size
         clear hg hk)
      | (go_at_call 45; refine (htk.out _).mono ?_; rintro e w4 ⟨rfl, hk⟩
         try have B7 := hk.row (by simp) B7
         try have B7 := hk.row (by simp) (heap_alloc_new _ _)
         try have e70 := (cell_of_row B7 0).trans (show _ = some (.int .u8 0) from rfl)
         try have e71 := (cell_of_row B7 1).trans (show _ = some (.int .u8 0) from rfl)
         try have e72 := (cell_of_row B7 2).trans (show _ = some (.int .u8 0) from rfl)
         try have e73 := (cell_of_row B7 3).trans (show _ = some (.int .u8 0) from rfl)
         try have f70 := free_of_row B7 0
         try have f71 := free_of_row B7 1
         try have f72 := free_of_row B7 2
         try have f73 := free_of_row B7 3
         have K4 : Hid (Kp [p, r] w1 w4) := Lib.hid (by refine K3.out.trans (Kp.trans ?_ (hk.mono (by simp))); first | exact ⟨rfl, rfl, rfl, Nat.le_refl _, fun _ _ _ => rfl⟩ | exact Kp.alloc ⟨rfl, rfl, rfl, Nat.le_refl _, fun _ _ _ => rfl⟩ _)
         have G4 : Hid (Hw T G n p r H (t + 1) w4) := Lib.hid (by refine G3.out.on (Kp.trans ?_ hk); first | exact ⟨rfl, rfl, rfl, Nat.le_refl _, fun _ _ _ => rfl⟩ | exact Kp.alloc ⟨rfl, rfl, rfl, Nat.le_refl _, fun _ _ _ => rfl⟩ _)
         clear hk))
    all_goals go_wp2_with fail
    all_goals go_meet
    all_goals
      have KK : Kp [p, r] w w4 := (K1.out.mono (by simp)).trans K4.out
      have B6 := K4.out.row (by simp; omega) R1.out
      first
        | exact ⟨_, rfl, Lib.hid (PE.make1 G4.out KK B6)⟩
        | exact ⟨_, rfl, Lib.hid (PE.make2 G4.out KK hpl B6 B7 (by omega))⟩
  case rest =>
    obtain ⟨b, rfl, HM⟩ := hcut
    have c0 := (cell_of_row HM.out.hb 0).trans (show _ = some (.int .u8 xk) from rfl)
    have c1 := (cell_of_row HM.out.hb 1).trans (show _ = some (.int .u8 xc) from rfl)
    have c2 := (cell_of_row HM.out.hb 2).trans (show _ = some (.int .u8 xr) from rfl)
    have c3 := (cell_of_row HM.out.hb 3).trans (show _ = some (.int .u8 xo) from rfl)
    have d0 := (cell_of_row HM.out.ho 0).trans (show _ = some (.int .u8 0) from rfl)
    have d1 := (cell_of_row HM.out.ho 1).trans (show _ = some (.int .u8 0) from rfl)
    have d2 := (cell_of_row HM.out.ho 2).trans (show _ = some (.int .u8 0) from rfl)
    have d3 := (cell_of_row HM.out.ho 3).trans (show _ = some (.int .u8 0) from rfl)
    have f0 := free_of_row HM.out.ho 0
    have f1 := free_of_row HM.out.ho 1
    have f2 := free_of_row HM.out.ho 2
    have f3 := free_of_row HM.out.ho 3
    go_wp2_with fail
    exact bodyPost_row rfl (w.heap.size + 1) 52 (cs4 xk xc xr xo) (0, 0) _ rfl rfl (put4_row xk xc xr xo HM.out.ho) Try.underlying52 rfl (by kernel_rfl) ⟨rfl, HM.out.gw.keep (put4_kp _ _ _ _ _ _) (by simp; omega) (by simp; omega), HM.out.kp.new_set (put4_kp _ _ _ _ _ _) (by omega)⟩

end
end Go.Proofs.Ytnbaiinhalplcaa

namespace Go.Proofs.Ytnbaiinhalplcaa.Gv
set_option linter.unusedVariables false
set_option linter.unusedSimpArgs false
open Go.RowKit

section
variable {T G n p r t : Nat} {H : List Int} {w w' : World}
/-- What giving a run in the map does. -/
theorem cl_back {M b r' : Nat} (hM : M < 18446744073709551616) (b1 b2 : Nat) (w : World) (c1 : w.cell? ⟨b1, 0, none⟩ = some (.int .i64 b)) (c2 : w.cell? ⟨b2, 0, none⟩ = some (.int .i64 r')) :
    Calls Try.prog 39 #[.int .u64 M, .pointer (some ⟨b1, 0, none⟩), .pointer (some ⟨b2, 0, none⟩)] w fun e w' => e = .returned (.int .u64 (giveM M b r')) ∧ Kp [] w w' ∧ True := by
  have hg := Lib.hid (fun w => Bm.give_is M b r' (giveM M b r') _ w hM rfl (by simp [giveM]))
  generalize Bm.isR M b r' false = q at hg
  generalize giveM M b r' = M' at hg ⊢
  go_enter Try.func39, Try.ntmps39
  go_wp2_with fail
  refine (hg.out _).mono ?_
  rintro e w1 ⟨rfl, rfl⟩
  go_wp2
  go_ret
  exact ⟨rfl, Kp.refl _ _, trivial⟩

/-- The boxes of Back: the layout's, the block's, the run's. -/
def bw (w : World) (T G n : Nat) (b r' : Int) : World := ((w.alloc (.cells #[.int .i64 T, .int .i64 G, .int .i64 n] 27)).alloc (.cells #[.int .i64 b] 3)).alloc (.cells #[.int .i64 r'] 3)
theorem bw_kp (w : World) (T G n : Nat) (b r' : Int) : Kp [] w (bw w T G n b r') := (((Kp.refl [] w).alloc _).alloc _).alloc _
/-- What Back finds in its boxes. -/
structure Bk (a T G n : Nat) (b r' : Int) (w : World) : Prop where
  lx : Lx a T G n w
  cb : w.cell? ⟨a + 1, 0, none⟩ = some (.int .i64 b)
  cr : w.cell? ⟨a + 1 + 1, 0, none⟩ = some (.int .i64 r')
theorem Bk.new (w : World) (T G n : Nat) (b r' : Int) : Bk w.heap.size T G n b r' (bw w T G n b r') := by
  have z1 := World.size_alloc w (.cells #[.int .i64 T, .int .i64 G, .int .i64 n] 27)
  have z2 := World.size_alloc (w.alloc (.cells #[.int .i64 T, .int .i64 G, .int .i64 n] 27)) (.cells #[.int .i64 b] 3)
  have r1 : (bw w T G n b r').heap[w.heap.size + 1]? = some (.cells #[.int .i64 b] 3 (0, 0)) := ((Kp.refl [] _).alloc _).row (by simp) (by rw [← z1]; exact heap_alloc_new _ _)
  have r2 : (bw w T G n b r').heap[w.heap.size + 1 + 1]? = some (.cells #[.int .i64 r'] 3 (0, 0)) := by rw [← z1, ← z2]; exact heap_alloc_new _ _
  exact ⟨(Lx.new w T G n).keep (((Kp.refl [] _).alloc _).alloc _) (by simp), cell_of_row r1 0, cell_of_row r2 0⟩
theorem Bk.keep {S : List Nat} {a : Nat} {b r' : Int} (h : Bk a T G n b r' w) (k : Kp S w w') (hS : ∀ x ∈ S, x < a) : Bk a T G n b r' w' :=
  ⟨h.lx.keep k (fun e => by have := hS _ e; omega), kp_cell k (fun e => by have := hS _ e; omega) h.cb, kp_cell k (fun e => by have := hS _ e; omega) h.cr⟩

/-- What Back's region holds on to. -/
def Bs (a T G n : Nat) (b r' : Int) (p r : Nat) (w0 wx : World) : Prop :=
  wx.cell? ⟨a, 0, none⟩ = some (.int .i64 T) ∧ wx.cell? ⟨a, 1, none⟩ = some (.int .i64 G) ∧ wx.cell? ⟨a, 2, none⟩ = some (.int .i64 n) ∧ wx.cell? ⟨a + 1, 0, none⟩ = some (.int .i64 b) ∧ wx.cell? ⟨a + 1 + 1, 0, none⟩ = some (.int .i64 r') ∧ Kp [p, r] w0 wx
theorem bs_of {a : Nat} {b r' : Int} {w0 wx : World} (h : Bk a T G n b r' wx) (k : Kp [p, r] w0 wx) : Bs a T G n b r' p r w0 wx := ⟨h.lx.c0, h.lx.c1, h.lx.c2, h.cb, h.cr, k⟩
theorem bs_bk {a : Nat} {b r' : Int} {w0 wx : World} (h : Bs a T G n b r' p r w0 wx) : Bk a T G n b r' wx := ⟨⟨h.1, h.2.1, h.2.2.1⟩, h.2.2.2.1, h.2.2.2.2.1⟩
theorem bs_drew {a : Nat} {b r' : Int} {w0 wx : World} (h : Bs a T G n b r' p r w0 wx) : Bs a T G n b r' p r w0 wx.drew := bs_of ((bs_bk h).keep ((Kp.refl [] wx).drew) (by simp)) h.2.2.2.2.2.drew
theorem bs_step {a : Nat} {b r' : Int} {w0 wx wy : World} (h : Bs a T G n b r' p r w0 wx) (k : Kp [] wx wy) : Bs a T G n b r' p r w0 wy := bs_of ((bs_bk h).keep k (by simp)) (h.2.2.2.2.2.trans (k.mono (by simp)))
theorem bs_write {a : Nat} {b r' : Int} {w0 wx wy : World} (h : Bs a T G n b r' p r w0 wx) (hp : p < a ∧ r < a) (k : Kp [p, r] wx wy) : Bs a T G n b r' p r w0 wy := bs_of ((bs_bk h).keep k (by simp; omega)) (h.2.2.2.2.2.trans k)
end
end Go.Proofs.Ytnbaiinhalplcaa.Gv

namespace Go.Proofs.Ytnbaiinhalplcaa.Gv
set_option linter.unusedVariables false
set_option linter.unusedSimpArgs false
open Go.RowKit

section
variable {T G n p r t : Nat} {H : List Int} {w w' : World}
set_option maxRecDepth 100000 in
set_option maxHeartbeats 8000000 in
theorem g_back_in {M : Nat} (hM0 : H.getD 0 0 = M) (h : Hw T G n p r H t w) (ht : t ≤ 800000) (b r' : Nat) (h1 : 1 ≤ r') (h3 : r' ≤ 3) (hbn : b + r' ≤ n) :
    Calls Try.prog 11 #[.iface 25 (.pointer (some ⟨p, 0, none⟩)), .agg #[.int .i64 T, .int .i64 G, .int .i64 n], .int .i64 b, .int .i64 r'] w fun e w' => e = .returned (.tuple #[]) ∧ Hw T G n p r ((zer H (3 + T + G + b) r').set 0 (giveM M b r' : Int)) (t + r' + 1) w' ∧ Kp [p, r] w w' := by
  have hh := Lib.hid (fun w => g_has T G n b r' w h.hn)
  rw [runG_iff.2 (by omega)] at hh
  have hn := h.hn
  have hpl := h.lt
  have HML : Hid (M < 18446744073709551616) := Lib.hid (by
    have := (h.ok 0).2
    rw [hM0] at this
    exact Int.ofNat_lt.1 this)
  have HBK := Lib.hid (Bk.new w T G n b r')
  have HK := Lib.hid (bw_kp w T G n b r')
  have hen := Lib.hid (fun (k : Nat) (w : World) (hk : k < n) => entry_at (T := T) (G := G) (n := n) k w h.hT h.hG h.hn hk)
  have HWR : Hid (∀ (i : Nat) (w' : World), i < r' → Hw T G n p r (zer H (3 + T + G + (b + r' - i)) i) (t + i) w' → Calls Try.prog 48 #[.pointer (some ⟨p, 0, none⟩), .int .i64 ((3 + T + G + (b + r' - 1 - i) : Nat) : Int), .int .u64 0] w' fun e w2 => e = .returned (.tuple #[]) ∧ Hw T G n p r (zer H (3 + T + G + (b + r' - (i + 1))) (i + 1)) (t + (i + 1)) w2 ∧ Kp [p, r] w' w2) := by
    refine Lib.hid fun i w' hi hg => ?_
    have hl := hg.len
    have := wr_word hg (by omega) (3 + T + G + (b + r' - 1 - i)) (by omega) ((3 + T + G + (b + r' - 1 - i) : Nat) : Int) 0 rfl (by decide) (by decide)
    have hz := zer_down H (3 + T + G + (b + r' - (i + 1))) i
    rw [show 3 + T + G + (b + r' - (i + 1)) + 1 = 3 + T + G + (b + r' - i) from by omega] at hz
    rw [show b + r' - 1 - i = b + r' - (i + 1) from by omega] at this ⊢
    simp only [hz] at this
    exact this
  have HUP : Hid (∀ (w' : World), Hw T G n p r (zer H (3 + T + G + b) r') (t + r') w' → Bk w.heap.size T G n b r' w' → Calls Try.prog 43 #[.pointer (some ⟨p, 0, none⟩), .int .i64 0, .func (.func 39) #[] #[.pointer (some ⟨w.heap.size + 1, 0, none⟩), .pointer (some ⟨w.heap.size + 1 + 1, 0, none⟩)]] w' fun e w2 => e = .returned (.int .u64 M) ∧ Hw T G n p r ((zer H (3 + T + G + b) r').set 0 (giveM M b r' : Int)) (t + r' + 1) w2 ∧ Kp [p, r] w' w2 ∧ True) :=
    Lib.hid fun w' hg hb => up_map hg (by omega) 39 #[.pointer (some ⟨w.heap.size + 1, 0, none⟩), .pointer (some ⟨w.heap.size + 1 + 1, 0, none⟩)] M (giveM M b r') [] (fun _ => True) (by rw [zer_get, if_neg (by omega)]; exact hM0) (giveM_lt HML.out) (by simp) (by simp) (fun _ _ _ _ => trivial) (fun _ _ => rfl)
      (fun w1 k => cl_back HML.out _ _ w1 (kp_cell k (by simp; omega) hb.cb) (kp_cell k (by simp; omega) hb.cr))
  have HG0 : Hid (∀ w1, Kp [] (bw w T G n b r') w1 → Hw T G n p r (zer H (3 + T + G + (b + r' - 0)) 0) (t + 0) w1 ∧ Kp [p, r] w w1 ∧ Bk w.heap.size T G n b r' w1) :=
    Lib.hid fun w1 k => ⟨by rw [zer_none]; exact h.on ((bw_kp w T G n b r').trans k), ((bw_kp w T G n b r').trans k).mono (by simp), (Bk.new w T G n b r').keep k (by simp)⟩
  obtain ⟨⟨x0, x1, x2⟩, x3, x4⟩ := HBK.out
  have hna := na_write
  unfold bw at HK x0 x1 x2 x3 x4 HG0
  clear HBK
  go_enter Try.func11, Try.ntmps11
  go_wp2_with fail
  refine (hh.out _).mono ?_
  rintro e w1 ⟨rfl, hk⟩
  have G1 := HG0.out w1 hk
  have HG1 := Lib.hid G1
  obtain ⟨⟨a0, a1, a2⟩, a3, a4⟩ := G1.2.2
  clear hk G1 x0 x1 x2 x3 x4
  go_wp2_with fail
  go_loopg [19] r' (fun gg v19 wr => ∃ i : Nat, i + gg = r' ∧ v19 = .int .i64 i ∧ Hid (Hw T G n p r (zer H (3 + T + G + (b + r' - i)) i) (t + i) wr ∧ Kp [p, r] w wr ∧ Bk w.heap.size T G n b r' wr))
  case atStart => exact ⟨0, by omega, rfl, HG1⟩
  case round =>
    obtain ⟨i, hi, rfl, HR⟩ := hrel
    obtain ⟨⟨b0, b1, b2⟩, b3, b4⟩ := HR.out.2.2
    by_cases hlt : i < r'
    · have e1 := IntWalk.i64_in ((b : Int) + r') (by omega)
      have e2 := IntWalk.i64_in ((b : Int) + r' - 1) (by omega)
      have e3 := IntWalk.i64_in ((b : Int) + r' - 1 - i) (by omega)
      have e4 : (b : Int) + r' - 1 - i = ((b + r' - 1 - i : Nat) : Int) := by omega
      obtain ⟨k, hk⟩ : ∃ k, k = b + r' - 1 - i := ⟨_, rfl⟩
      have hkn : k < n := by omega
      have e5 := IntWalk.i64_in (k : Int) (by omega)
      have HWRi := Lib.hid (fun w' => HWR.out i w' hlt)
      rw [← hk] at e4 HWRi
      have henk := Lib.hid (fun w => hen.out k w hkn)
      clear hk
      go_wp2_with fail
      have HS := Lib.hid (bs_of HR.out.2.2 (Kp.refl [p, r] wr))
      have HP := Lib.hid hpl
      go_region_held3? (fun wx => wx.cell? ⟨w.heap.size, 0, none⟩ = some (.int .i64 T) ∧ wx.cell? ⟨w.heap.size, 1, none⟩ = some (.int .i64 G) ∧ wx.cell? ⟨w.heap.size, 2, none⟩ = some (.int .i64 n) ∧ wx.cell? ⟨w.heap.size + 1, 0, none⟩ = some (.int .i64 b) ∧ wx.cell? ⟨w.heap.size + 1 + 1, 0, none⟩ = some (.int .i64 r') ∧ Kp [p, r] wr wx)
        (first
          | assumption
          | exact bs_drew HS.out
          | exact bs_step ‹Bs w.heap.size T G n b r' p r wr _› hk9
          | exact bs_write ‹Bs w.heap.size T G n b r' p r wr _› HP.out hk8)
        (first
        | (go_at_call 38; refine (henk.out _).mono ?_; rintro e w3 ⟨rfl, hk9⟩
           have K3 : Hid (Kp [] wr w3) := Lib.hid (by refine Kp.trans ?_ hk9; exact ⟨rfl, rfl, rfl, Nat.le_refl _, fun _ _ _ => rfl⟩))
        | (go_at_call 48
           refine (HWRi.out _ (HR.out.1.on (K3.out.trans ?_))).mono ?_
           · exact ⟨rfl, rfl, rfl, Nat.le_refl _, fun _ _ _ => rfl⟩
           rintro e w4 ⟨rfl, hg, hk8⟩
           have G4 := Lib.hid hg
           have K4 : Hid (Kp [p, r] wr w4) := Lib.hid (by refine (K3.out.mono (by simp)).trans (Kp.trans ?_ hk8); exact ⟨rfl, rfl, rfl, Nat.le_refl _, fun _ _ _ => rfl⟩)
           clear hg))
      all_goals
        rename_i hHeld
        clear hHeld
        go_wp2_with fail
        go_roundg (r' - (i + 1))
        case rel => exact ⟨i + 1, by omega, by go_num, Lib.hid ⟨G4.out, HR.out.2.1.trans K4.out, HR.out.2.2.keep K4.out (by simp; omega)⟩⟩
        case measure => omega
    · obtain rfl : i = r' := by omega
      have HU := Lib.hid (HUP.out wr (by have := HR.out.1; rwa [show b + i - i = b from by omega] at this) HR.out.2.2)
      go_wp2_with fail
      refine HU.out.mono ?_
      rintro e w5 ⟨rfl, hg, hk, -⟩
      have G5 := Lib.hid hg
      have K5 := Lib.hid (HR.out.2.1.trans hk)
      clear hg hk
      go_wp2_with fail
      go_end0
      exact ⟨rfl, G5.out, K5.out⟩

end
end Go.Proofs.Ytnbaiinhalplcaa.Gv

namespace Go.Proofs.Ytnbaiinhalplcaa.Gv
set_option linter.unusedVariables false
set_option linter.unusedSimpArgs false
set_option maxRecDepth 100000
open Go.RowKit

/-- Blocks are given back; one block's turn, of an owner's that wait; all of them. -/
def backH (T G n : Nat) (H : List Int) (b r : Int) : List Int := if runG n b r then (zer H (3 + T + G + b.toNat) r.toNat).set 0 (giveM (H.getD 0 0).toNat b.toNat r.toNat : Int) else H
def turnH (T G n : Nat) (o : Int) (H : List Int) (i : Nat) : List Int := if waitsE (H.getD (3 + T + G + i) 0) o then backH T G n H i (Tb.blkE (H.getD (3 + T + G + i) 0 % 8) (H.getD (3 + T + G + i) 0 / 32 % 4)) else H
theorem turn_back {T G n : Nat} {o : Int} {H : List Int} {i : Nat} {x : Int} (hx : H.getD (3 + T + G + i) 0 = x) (h : decide (ek x = 4 ∨ ek x = 5) = true) (ho : (eo x == o) = true) : turnH T G n o H i = backH T G n H i (Tb.blkE (ek x) (er x)) := by
  unfold turnH waitsE
  rw [hx]
  unfold ek at h
  unfold eo at ho
  unfold ek er
  cases ht : Tb.takeE x
  · rw [ht] at h; simp at h
  · rw [ht] at ho h
    simp only [if_true, beq_iff_eq, decide_eq_true_eq] at ho h ⊢
    rw [if_pos (by simp only [Bool.true_and, decide_eq_true_eq]; exact ⟨ho, h⟩)]
section
variable {T G n p r t : Nat} {H : List Int} {w w' : World}
end
end Go.Proofs.Ytnbaiinhalplcaa.Gv

namespace Go.Proofs.Ytnbaiinhalplcaa.Ly
set_option linter.unusedVariables false
set_option linter.unusedSimpArgs false
open Go.RowKit

/-- The two boxes of New, behind the call of table. -/
theorem new_rows {w w3 : World} {T G : Int} (hk : Kp [] ((w.alloc (.cells #[.int .i64 0, .int .i64 0, .int .i64 0] 27)).alloc (.cells #[.int .i64 T, .int .i64 G, .int .i64 0] 27)) w3) :
    w3.heap[w.heap.size]? = some (.cells #[.int .i64 0, .int .i64 0, .int .i64 0] 27 (0, 0)) ∧ w3.heap[w.heap.size + 1]? = some (.cells #[.int .i64 T, .int .i64 G, .int .i64 0] 27 (0, 0)) ∧ Kp [] w w3 := by
  refine ⟨hk.row (by simp) (heap_alloc2_old w _ _), hk.row (by simp) ?_, (((Kp.refl _ _).alloc _).alloc _).trans hk⟩
  have := heap_alloc_new (w.alloc (.cells #[.int .i64 0, .int .i64 0, .int .i64 0] 27)) (.cells #[.int .i64 T, .int .i64 G, .int .i64 0] 27)
  rwa [World.size_alloc] at this

theorem new_store {w w3 : World} {T G : Int} (R0 : w3.heap[w.heap.size]? = some (.cells #[.int .i64 0, .int .i64 0, .int .i64 0] 27 (0, 0))) (R1 : w3.heap[w.heap.size + 1]? = some (.cells #[.int .i64 T, .int .i64 G, .int .i64 0] 27 (0, 0))) (K : Kp [] w w3) (q : Int) :
    (w3.setCell ⟨w.heap.size + 1, 2, none⟩ (.int .i64 q)).heap[w.heap.size]? = some (.cells #[.int .i64 0, .int .i64 0, .int .i64 0] 27 (0, 0)) ∧
    Kp [] w (w3.setCell ⟨w.heap.size + 1, 2, none⟩ (.int .i64 q)) :=
  ⟨by rw [heap_setCell_other _ _ _ _ (by simp)]; exact R0, K.setCell (.inr (by simp)) _⟩

set_option maxRecDepth 100000 in
set_option maxHeartbeats 1000000 in
theorem new_low (W T G tb : Int) (w : World) (htb : tb = 3 + T + G) (w1 : 1 ≤ W) (w2 : W ≤ 4096) (t0 : 1 ≤ T) (t1 : T ≤ 64) (g0 : 0 ≤ G) (g1 : G ≤ 8) (h0 : 0 ≤ W - tb) (q1 : 1 ≤ (W - tb) / 33) (q2 : (W - tb) / 33 ≤ 64) :
    Calls Try.prog 28 #[.int .i64 W, .int .i64 T, .int .i64 G] w fun e w' => e = .returned (.tuple #[.agg #[.int .i64 T, .int .i64 G, .int .i64 ((W - tb) / 33)], .int .i64 0]) ∧ Kp [] w w' := by
  have k1 := Lib.hid (fun w => table_is T G 0 w (by omega) t1 g0 g1)
  rw [← htb] at k1
  have tb0 : 0 ≤ tb := by omega
  have tb1 : tb ≤ 75 := by omega
  clear htb
  go_enter Try.func28, Try.ntmps28
  go_wp2_with fail
  refine (k1.out _).mono ?_; rintro e w3 ⟨rfl, hk⟩
  obtain ⟨R0, R1, K⟩ := new_rows hk
  obtain ⟨S0, KS⟩ := new_store R0 R1 K ((W - tb) / 33)
  have hf2 := free_of_row R1 2
  have hc0 := cell_of_row R1 0
  have hc1 := cell_of_row R1 1
  have hc2 := cell_of_row R1 2
  have S0 := Lib.hid S0
  clear hk R0 R1 K
  simp at hc0 hc1 hc2
  go_wp2_with (refine wpList_store_row rfl 27 _ _ rfl w.heap.size _ rfl rfl 27 _ S0.out (by kernel_rfl) rfl (by simp [Value.oneCell']) ?_)
  exact bodyPost_row_tmp rfl w.heap.size 27 _ (0, 0) _ (.int .i64 0) rfl rfl rfl (setRow_heap _ _ _ _ _ _ S0.out) Try.underlying27 rfl (by kernel_rfl)
    ⟨rfl, KS.setRow (.inr (Nat.le_refl _)) _⟩

set_option maxRecDepth 100000 in
set_option maxHeartbeats 1000000 in
theorem new_high (W T G tb : Int) (w : World) (htb : tb = 3 + T + G) (w1 : 1 ≤ W) (w2 : W ≤ 4096) (t0 : 1 ≤ T) (t1 : T ≤ 64) (g0 : 0 ≤ G) (g1 : G ≤ 8) (h0 : 0 ≤ W - tb) (q1 : 1 ≤ (W - tb) / 33) (q2 : 64 < (W - tb) / 33) :
    Calls Try.prog 28 #[.int .i64 W, .int .i64 T, .int .i64 G] w fun e w' => e = .returned (.tuple #[.agg #[.int .i64 T, .int .i64 G, .int .i64 64], .int .i64 0]) ∧ Kp [] w w' := by
  have k1 := Lib.hid (fun w => table_is T G 0 w (by omega) t1 g0 g1)
  rw [← htb] at k1
  have tb0 : 0 ≤ tb := by omega
  have tb1 : tb ≤ 75 := by omega
  clear htb
  go_enter Try.func28, Try.ntmps28
  go_wp2_with fail
  refine (k1.out _).mono ?_; rintro e w3 ⟨rfl, hk⟩
  obtain ⟨R0, R1, K⟩ := new_rows hk
  obtain ⟨S0, KS⟩ := new_store R0 R1 K 64
  have hf2 := free_of_row R1 2
  have hc0 := cell_of_row R1 0
  have hc1 := cell_of_row R1 1
  have hc2 := cell_of_row R1 2
  have S0 := Lib.hid S0
  clear hk R0 R1 K
  simp at hc0 hc1 hc2
  go_wp2_with (refine wpList_store_row rfl 27 _ _ rfl w.heap.size _ rfl rfl 27 _ S0.out (by kernel_rfl) rfl (by simp [Value.oneCell']) ?_)
  exact bodyPost_row_tmp rfl w.heap.size 27 _ (0, 0) _ (.int .i64 0) rfl rfl rfl (setRow_heap _ _ _ _ _ _ S0.out) Try.underlying27 rfl (by kernel_rfl)
    ⟨rfl, KS.setRow (.inr (Nat.le_refl _)) _⟩

/-- How many blocks go in. -/
def blkP (W T G : Int) : Int := if (W - (3 + T + G)) / 33 ≤ 64 then (W - (3 + T + G)) / 33 else 64
theorem new_ok (W T G b : Int) (w : World) (hb : blkP W T G = b) (w1 : 1 ≤ W) (w2 : W ≤ 4096) (t0 : 1 ≤ T) (t1 : T ≤ 64) (g0 : 0 ≤ G) (g1 : G ≤ 8) (h : 3 + T + G + 33 ≤ W) :
    Calls Try.prog 28 #[.int .i64 W, .int .i64 T, .int .i64 G] w fun e w' => e = .returned (.tuple #[.agg #[.int .i64 T, .int .i64 G, .int .i64 b], .int .i64 0]) ∧ Kp [] w w' := by
  subst hb
  unfold blkP
  by_cases hq : (W - (3 + T + G)) / 33 ≤ 64
  · rw [if_pos hq]
    exact new_low W T G _ w rfl w1 w2 t0 t1 g0 g1 (by omega) (by omega) hq
  · rw [if_neg hq]
    exact new_high W T G _ w rfl w1 w2 t0 t1 g0 g1 (by omega) (by omega) (by omega)

end Go.Proofs.Ytnbaiinhalplcaa.Ly

namespace Go.Proofs.Ytnbaiinhalplcaa
open List renaming getElem?_cons_succ → gqS
set_option linter.unusedVariables false
set_option linter.unusedSimpArgs false
set_option maxRecDepth 100000
open Go.RowKit

/-- A struct that lies in a block, between two plain results. -/
theorem results_tmp_cell_tmp {fn : Func} {u p v : Tmp} {ty : TypeId} (h : fn.results = #[.tmp u, .cell p ty, .tmp v]) (tmps : Array Value) (P : Program) (w : World) :
    (results fn tmps).run P w = ((asAddr (tmps.getD p undef)).run P w).andThen fun a w₁ => ((loadVar ty a).run P w₁).andThen fun x w₂ => .ok (.tuple #[tmps.getD u undef, x, tmps.getD v undef]) w₂ := by
  simp only [results, h]
  simp [Sem.run_bind, Result.andThen]
theorem bodyPost_tmp_row_tmp {P : Program} {fn : Func} {R : Ending → World → Prop} {a : Act} {w : World} {u p v : Tmp} {ty : TypeId} (h : fn.results = #[.tmp u, .cell p ty, .tmp v]) (g : Nat) (x y z : Value)
    (hx : a.tmps.getD u undef = x) (hp : a.tmps.getD p undef = .pointer (some ⟨g, 0, none⟩)) (hy : a.tmps.getD v undef = y) (hdef : a.defers = []) (hl : (loadVar ty ⟨g, 0, none⟩).run P w = .ok z w)
    (hR : R (.returned (.tuple #[x, z, y])) w) : bodyPost P fn R .ret a w := by
  subst hx hy
  refine bodyPost_ret ?_ hdef hR
  rw [results_tmp_cell_tmp h, hp]
  simp [asAddr, hl, Result.andThen]


def put3 (w : World) (b : Nat) (x y z : Value) : World := ((w.setCell ⟨b, 0, none⟩ x).setCell ⟨b, 1, none⟩ y).setCell ⟨b, 2, none⟩ z
theorem put3_kp (w : World) (b : Nat) (x y z : Value) : Kp [b] w (put3 w b x y z) := (((Kp.refl [b] w).setCell (.inl (by simp)) _).setCell (.inl (by simp)) _).setCell (.inl (by simp)) _
theorem put3_row {w : World} {b : Nat} {x0 y0 z0 : Value} (x y z : Value) {T : TypeId} (h : w.heap[b]? = some (.cells #[x0, y0, z0] T (0, 0))) : (put3 w b x y z).heap[b]? = some (.cells #[x, y, z] T (0, 0)) := by
  unfold put3
  rw [heap_setCell_same _ _ _ _ _ _ (heap_setCell_same _ _ _ _ _ _ (heap_setCell_same _ _ _ _ _ _ h))]
  rfl
theorem kp_own {w w1 w2 : World} {b : Nat} (h : Kp [] w w1) (k : Kp [b] w1 w2) (hb : w.heap.size ≤ b) : Kp [] w w2 :=
  ⟨k.os.trans h.os, k.tape.trans h.tape, k.output.trans h.output, Nat.le_trans h.size k.size, fun i hi hn => (k.block i (Nat.lt_of_lt_of_le hi h.size) (by simp; omega)).trans (h.block i hi hn)⟩
theorem hw_new {n p r : Nat} {w' : World} (hn : n ≤ 64) (h : Ar w' p r (fresh (5 + 33 * n))) : Hw 1 1 n p r (wordsW n 0) 0 w' := by
  have e : fresh (5 + 33 * n) = ⟨wordsW n 0, 0, 0⟩ := by
    unfold fresh wordsW
    rw [show 5 + 33 * n = (4 + 33 * n) + 1 from by omega, List.replicate_succ]
    rfl
  rw [e] at h
  refine ⟨⟨0, h⟩, by rw [wordsW_len]; omega, by rw [wordsW_len]; omega, fun k => ?_, by decide, by decide, hn⟩
  have : (wordsW n 0).getD k 0 = 0 := by
    unfold wordsW
    cases k with
    | zero => rfl
    | succ k => simp only [List.getD_eq_getElem?_getD, gqS, List.getElem?_replicate]; split <;> rfl
  rw [this]; omega
def z4 : Array Value := #[.int .i64 0, .int .i64 0, .int .i64 0]
def l3 (n : Nat) : Array Value := #[.int .i64 1, .int .i64 1, .int .i64 n]
/-- What Made's region holds on to. -/
def Ms (b n : Nat) (w2 wx : World) : Prop :=
  wx.cell? ⟨w2.heap.size, 0, none⟩ = some (.int .i64 1) ∧ wx.cell? ⟨w2.heap.size, 1, none⟩ = some (.int .i64 1) ∧ wx.cell? ⟨w2.heap.size, 2, none⟩ = some (.int .i64 n) ∧ Kp [b] w2 wx
theorem ms_of {b n : Nat} {w2 : World} (k : Kp [] w2 (w2.alloc (.cells (l3 n) 27))) : Ms b n w2 (w2.alloc (.cells (l3 n) 27)) := by
  have h := heap_alloc_new w2 (.cells (l3 n) 27)
  exact ⟨cell_of_row h 0, cell_of_row h 1, cell_of_row h 2, k.mono (by simp)⟩
theorem ms_keep {b n : Nat} {w2 wx wy : World} (h : Ms b n w2 wx) (k : Kp [b] wx wy) (hb : b < w2.heap.size) : Ms b n w2 wy :=
  ⟨kp_cell k (by simp; omega) h.1, kp_cell k (by simp; omega) h.2.1, kp_cell k (by simp; omega) h.2.2.1, h.2.2.2.trans k⟩
set_option maxHeartbeats 2000000 in
theorem made_is (w : World) (n : Nat) (h1 : 1 ≤ n) (h64 : n ≤ 64) :
    Calls Try.prog 6 #[.int .i64 n] w fun e w' => e = .returned (.tuple #[.pointer (some ⟨w.heap.size + 1 + 1, 0, none⟩), .agg #[.int .i64 1, .int .i64 1, .int .i64 n], .bool true]) ∧ Hw 1 1 n (w.heap.size + 1 + 1) (w.heap.size + 1) (wordsW n 0) 0 w' ∧ Kp [] w w' := by
  have e1 := IntWalk.i64_in (33 * (n : Int)) (by omega)
  have e2 := IntWalk.i64_in (5 + 33 * (n : Int)) (by omega)
  have hnew := Lib.hid (fun w => new_good w (5 + 33 * n) (by omega) (by omega))
  simp only [Int.natCast_add, Int.natCast_mul, Int.cast_ofNat_Int] at hnew
  have hlay := Lib.hid (fun w => Ly.new_ok (5 + 33 * n) 1 1 n w (by unfold Ly.blkP; omega) (by omega) (by omega) (by omega) (by omega) (by omega) (by omega) (by omega))
  have hB := Lib.hid (fun w => Ly.blocks_is 1 1 n w)
  have z1 := World.size_alloc w (.cells z4 27)
  have hb0 := heap_alloc_new w (.cells z4 27)
  have k0 : Kp [] w (w.alloc (.cells z4 27)) := (Kp.refl _ _).alloc _
  go_enter Try.func6, Try.ntmps6
  go_wp2_with fail
  refine (hnew.out _).mono ?_
  rintro e w1 ⟨rfl, ha, hk⟩
  have hw1 := hk.row (by simp) hb0
  have z2 : w.heap.size + 1 ≤ w1.heap.size := by have := hk.size; simpa using this
  have HA := Lib.hid ha
  have K1 := Lib.hid (k0.trans hk)
  clear ha hk hb0 k0
  go_wp2_with fail
  refine (hlay.out _).mono ?_
  rintro e w2 ⟨rfl, hk⟩
  have hw2 := hk.row (by simp) hw1
  have HA2 := Lib.hid (HA.out.keep hk (by simp) (by simp))
  have K2 := Lib.hid (K1.out.trans hk)
  have ka : Kp [] w2 (w2.alloc (.cells (l3 n) 27)) := (Kp.refl _ _).alloc _
  have z3 := hk.size
  have n1 : ¬ w.heap.size = w2.heap.size := by omega
  have n2 : ¬ w2.heap.size = w.heap.size := by omega
  have c0 : w2.cell? ⟨w.heap.size, 0, none⟩ = some (.int .i64 0) := cell_of_row hw2 0
  have c1 : w2.cell? ⟨w.heap.size, 1, none⟩ = some (.int .i64 0) := cell_of_row hw2 1
  have c2 : w2.cell? ⟨w.heap.size, 2, none⟩ = some (.int .i64 0) := cell_of_row hw2 2
  have HW2 := Lib.hid hw2
  clear hw1 hw2
  go_wp2_with fail
  have HS := Lib.hid (ms_of (b := w.heap.size) ka)
  have n3 : w.heap.size < w2.heap.size := by omega
  go_region_held3 (fun wx => wx.cell? ⟨w2.heap.size, 0, none⟩ = some (.int .i64 1) ∧ wx.cell? ⟨w2.heap.size, 1, none⟩ = some (.int .i64 1) ∧ wx.cell? ⟨w2.heap.size, 2, none⟩ = some (.int .i64 n) ∧ Kp [w.heap.size] w2 wx)
    (first
      | exact ms_keep HS.out ((Kp.refl _ _).drew) n3
      | exact ms_keep (ms_keep HS.out ((Kp.refl _ _).drew) n3) (hk5.mono (by simp)) n3
      | exact ms_keep (ms_keep (ms_keep HS.out ((Kp.refl _ _).drew) n3) (hk5.mono (by simp)) n3) (put3_kp _ _ _ _ _) n3)
    (first
    | (go_at_call 29; refine (hB.out _).mono ?_; rintro e w5 ⟨rfl, hk5⟩
       have hk6 : Kp [] w2 w5 := by first | exact ka.trans hk5 | exact ka.trans hk5.drew_l
       have b5 := hk6.row (by simp) HW2.out
       have d0 : w5.cell? ⟨w.heap.size, 0, none⟩ = some (.int .i64 0) := cell_of_row b5 0
       have d1 : w5.cell? ⟨w.heap.size, 1, none⟩ = some (.int .i64 0) := cell_of_row b5 1
       have d2 : w5.cell? ⟨w.heap.size, 2, none⟩ = some (.int .i64 0) := cell_of_row b5 2
       have f0 := free_of_row b5 0
       have f1 := free_of_row b5 1
       have f2 := free_of_row b5 2
       have B5 := Lib.hid b5
       have K5 := Lib.hid hk6
       clear b5 hk6))
  rename_i hHeld
  clear hHeld
  go_wp2_with fail
  have hk7 := K5.out
  have hk8 : Kp [w.heap.size] w5 (put3 w5 w.heap.size (.int .i64 1) (.int .i64 1) (.int .i64 n)) := put3_kp _ _ _ _ _
  refine bodyPost_tmp_row_tmp rfl w.heap.size _ _ (.agg (l3 n)) rfl rfl rfl rfl (run_loadVar_row _ w.heap.size _ _ _ (0, 0) _ (put3_row _ _ _ B5.out) Try.underlying27 rfl (by kernel_rfl)) ⟨rfl, ?_, ?_⟩
  · have h9 := ((HA2.out.keep hk7 (by simp) (by simp)).keep hk8 (by simp; omega) (by simp))
    simp only [World.size_alloc] at h9
    exact hw_new h64 h9
  · exact kp_own (K2.out.trans hk7) hk8 (Nat.le_refl _)


/-- The arena, the layout's box, and what was there before. -/
structure Wk (a p r n : Nat) (H : List Int) (t : Nat) (w0 w : World) : Prop where
  gw : Hw 1 1 n p r H t w
  lx : Lx a 1 1 n w
  kp : Kp [] w0 w
  ge : w0.heap.size ≤ p ∧ w0.heap.size ≤ r ∧ a ≠ p ∧ a ≠ r
section
variable {a p r n t t' : Nat} {H H' : List Int} {w0 w w' : World}
theorem Wk.step (h : Wk a p r n H t w0 w) (hg : Hw 1 1 n p r H' t' w') (k : Kp [p, r] w w') : Wk a p r n H' t' w0 w' :=
  ⟨hg, h.lx.keep k (by have := h.ge; simp; omega), ((h.kp.mono (by simp)).trans k).mono fun x hx hlt => by have := h.ge; simp at hx; omega, h.ge⟩
theorem Wk.on (h : Wk a p r n H t w0 w) (k : Kp [] w w') : Wk a p r n H t w0 w' := h.step (h.gw.on k) (k.mono (by simp))
theorem Wk.new {w1 : World} (h : Hw 1 1 n p r H t w1) (k : Kp [] w0 w1) (hp : w0.heap.size ≤ p) (hr : w0.heap.size ≤ r) : Wk w1.heap.size p r n H t w0 (w1.alloc (.cells #[.int .i64 1, .int .i64 1, .int .i64 n] 27)) :=
  ⟨h.on ((Kp.refl _ _).alloc _), Lx.new _ _ _ _, k.alloc _, hp, hr, by have := h.lt; omega, by have := h.lt; omega⟩
end
theorem none_small (M : Nat) (r : Int) (h : ∀ k : Nat, k < 64 → Bm.isR M k r true = false) : NoneRun M r := fun k => by
  by_cases hk : k < 64
  · exact h k hk
  · cases hb : Bm.isR M k r true with
    | false => rfl
    | true =>
      simp only [Bm.isR, Bool.and_eq_true, decide_eq_true_eq] at hb
      omega
theorem cl1 : Claims 3 1 0 true 2 := .inl ⟨0, by decide, ⟨by decide, fun j hj => by omega⟩, rfl, rfl, by decide⟩
theorem cl2 : Claims 2 2 0 false 2 := .inr ⟨none_small 2 2 (by decide), rfl, rfl, rfl⟩
theorem cl3 : Claims 2 1 1 true 0 := .inl ⟨1, by decide, ⟨by decide, by decide⟩, rfl, rfl, by decide⟩
theorem cl4 : Claims 0 1 0 false 0 := .inr ⟨none_small 0 1 (by decide), rfl, rfl, rfl⟩
theorem cl5 : Claims 1 1 0 true 0 := .inl ⟨0, by decide, ⟨by decide, fun j hj => by omega⟩, rfl, rfl, by decide⟩
theorem wk_back : (zer (wordsW 2 0) (3 + 1 + 1 + 0) 1).set 0 ((giveM 0 0 1 : Nat) : Int) = wordsW 2 1 := by decide +kernel

set_option maxHeartbeats 2000000 in
theorem wakes_is (w : World) :
    Calls Try.prog 5 #[] w fun e w' => e = .returned (.bool true) ∧ Kp [] w w' := by
  have hm := Lib.hid (made_is w 2 (by decide) (by decide))
  go_enter Try.func5, Try.ntmps5
  go_wp2_with fail
  refine hm.out.mono ?_
  rintro e w1 ⟨rfl, hg, hk⟩
  obtain ⟨p, hp⟩ : ∃ p, p = w.heap.size + 1 + 1 := ⟨_, rfl⟩
  obtain ⟨r, hr⟩ : ∃ r, r = w.heap.size + 1 := ⟨_, rfl⟩
  rw [← hp, ← hr] at hg
  rw [← hp]
  have H0 : Hid (Wk w1.heap.size p r 2 (wordsW 2 0) 0 w (w1.alloc (.cells #[.int .i64 1, .int .i64 1, .int .i64 2] 27))) := Lib.hid (Wk.new hg hk (by omega) (by omega))
  clear hg hk hp hr hm
  go_wp2_with fail
  refine (g_begin H0.out.gw (by decide) 3 (by decide)).mono ?_
  rintro e w2 ⟨rfl, hg, hk⟩
  have H1 := Lib.hid (H0.out.step hg hk)
  obtain ⟨b0, b1, b2⟩ := H1.out.lx
  clear hg hk H0
  go_wp2_with fail
  refine (Gv.g_claim_in H1.out.gw (by decide) (M := 3) rfl cl1 (by decide) (by decide)).mono ?_
  rintro e w3 ⟨rfl, hg, hk⟩
  have H2 := Lib.hid (H1.out.step hg hk)
  obtain ⟨b0, b1, b2⟩ := H2.out.lx
  clear hg hk H1
  go_wp2_with fail
  refine (Gv.g_claim_in H2.out.gw (by decide) (M := 2) rfl cl2 (by decide) (by decide)).mono ?_
  rintro e w4 ⟨rfl, hg, hk⟩
  have H3 := Lib.hid (H2.out.step hg hk)
  obtain ⟨b0, b1, b2⟩ := H3.out.lx
  clear hg hk H2
  go_wp2_with fail
  refine (Gv.g_claim_in H3.out.gw (by decide) (M := 2) rfl cl3 (by decide) (by decide)).mono ?_
  rintro e w5 ⟨rfl, hg, hk⟩
  have H4 := Lib.hid (H3.out.step hg hk)
  obtain ⟨b0, b1, b2⟩ := H4.out.lx
  clear hg hk H3
  go_wp2_with fail
  refine (Gv.g_claim_in H4.out.gw (by decide) (M := 0) rfl cl4 (by decide) (by decide)).mono ?_
  rintro e w6 ⟨rfl, hg, hk⟩
  have H5 := Lib.hid (H4.out.step hg hk)
  obtain ⟨b0, b1, b2⟩ := H5.out.lx
  clear hg hk H4
  have H5 : Hid (Wk w1.heap.size p r 2 (wordsW 2 0) (0 + 1 + 1 + 1 + 1 + 1) w w6) := H5
  go_wp2_with fail
  refine (Gv.g_back_in (M := 0) rfl H5.out.gw (by decide) 0 1 (by decide) (by decide) (by decide)).mono ?_
  rintro e w7 ⟨rfl, hg, hk⟩
  rw [wk_back] at hg
  have H6 := Lib.hid (H5.out.step hg hk)
  obtain ⟨b0, b1, b2⟩ := H6.out.lx
  clear hg hk H5
  go_wp2_with fail
  refine (Gv.g_claim_in H6.out.gw (by decide) (M := 1) rfl cl5 (by decide) (by decide)).mono ?_
  rintro e w8 ⟨rfl, hg, hk⟩
  have H7 := Lib.hid (H6.out.step hg hk)
  obtain ⟨b0, b1, b2⟩ := H7.out.lx
  clear hg hk H6
  clear b0 b1 b2
  go_wp2_with fail
  go_ret
  exact ⟨rfl, H7.out.kp⟩

end Go.Proofs.Ytnbaiinhalplcaa

namespace Go.Proofs.Ytnbaiinhalplcaa
open List renaming getElem?_toArray → gqA, getElem?_cons_zero → gqZ, getElem?_cons_succ → gqS
set_option linter.unusedVariables false
set_option linter.unusedSimpArgs false
set_option maxRecDepth 100000
open Go.RowKit

def goR0 (f : Func) : Code := bodyOf f
def goR1 (f : Func) : Code := codeR (goR0 f)
def goR2 (f : Func) : Code := codeR (goR1 f)
def goR3 (f : Func) : Code := codeR (goR2 f)
def goR4 (f : Func) : Code := codeR (goR3 f)
def goR5 (f : Func) : Code := codeR (goR4 f)
def goR6 (f : Func) : Code := codeR (goR5 f)
def goR7 (f : Func) : Code := codeR (goR6 f)
def goR8 (f : Func) : Code := codeR (goR7 f)
def goR9 (f : Func) : Code := codeR (goR8 f)
def goR10 (f : Func) : Code := codeR (goR9 f)
def goR11 (f : Func) : Code := codeR (goR10 f)
def goR12 (f : Func) : Code := codeR (goR11 f)
def goR13 (f : Func) : Code := codeR (goR12 f)
def goR14 (f : Func) : Code := codeR (goR13 f)
def goP0 (f : Func) : Code := codeL (goR0 f)
def goP1 (f : Func) : Code := codeL (goR1 f)
def goP2 (f : Func) : Code := codeL (goR2 f)
def goP3 (f : Func) : Code := codeL (goR3 f)
def goP4 (f : Func) : Code := codeL (goR4 f)
def goP5 (f : Func) : Code := codeL (goR5 f)
def goP6 (f : Func) : Code := codeL (goR6 f)
def goP7 (f : Func) : Code := codeL (goR7 f)
def goP8 (f : Func) : Code := codeL (goR8 f)
def goP9 (f : Func) : Code := codeL (goR9 f)

section
variable {x : Nat → Value} {wt : World} {Q : Exit → Act → World → Prop} {bd od n M cd K co pA rA bl bh : Nat} {bo ad : Option Addr} {va : Value}
theorem go_p0 (hx0 : x 0 = .int .u8 n) (hx1 : x 1 = .slice ad M cd) (hx2 : x 2 = .slice bo K co) 
    (hQ : ∀ a', FrN 219 [(0, .int .u8 n), (1, .slice ad M cd), (2, .slice bo K co)] a' → Q .normal a' wt) : (goP0 Try.f3).wp Try.prog Q ⟨T219 x, []⟩ wt := by
  have HQ := Lib.hid hQ
  clear hQ
  simp only [goP0, goR14, goR13, goR12, goR11, goR10, goR9, goR8, goR7, goR6, goR5, goR4, goR3, goR2, goR1, goR0, bodyOf, Try.f3, codeL, codeR, blockOf, loopOf, Option.getD_some, T219]
  simp only [hx0, hx1, hx2]
  go_wp2
  exact HQ.out _ ⟨rfl, rfl, ⟨rfl, rfl, rfl, trivial⟩⟩

theorem go_p1 (hx0 : x 0 = .int .u8 n) (hx1 : x 1 = .slice ad M cd) (hx2 : x 2 = .slice bo K co) (hn : n ≤ 255)
    (hQ : ∀ a', FrN 219 [(1, .slice ad M cd), (2, .slice bo K co), (7, .int .i64 n)] a' → Q .normal a' wt) : (goP1 Try.f3).wp Try.prog Q ⟨T219 x, []⟩ wt := by
  have HQ := Lib.hid hQ
  clear hQ
  simp only [goP1, goR14, goR13, goR12, goR11, goR10, goR9, goR8, goR7, goR6, goR5, goR4, goR3, goR2, goR1, goR0, bodyOf, Try.f3, codeL, codeR, blockOf, loopOf, Option.getD_some, T219]
  simp only [hx0, hx1, hx2]
  go_wp2
  exact HQ.out _ ⟨rfl, rfl, ⟨rfl, rfl, rfl, trivial⟩⟩

theorem go_p2 (hx1 : x 1 = .slice ad M cd) (hx2 : x 2 = .slice bo K co) (hx7 : x 7 = .int .i64 n) (h1 : 1 ≤ n) (h20 : n ≤ 20) (hM1 : 1 ≤ M) (hM5 : M ≤ 5) (hK : K ≤ 200)
    (hQ : ∀ a', FrN 219 [(1, .slice ad M cd), (2, .slice bo K co), (7, .int .i64 n)] a' → Q .normal a' wt) : (goP2 Try.f3).wp Try.prog Q ⟨T219 x, []⟩ wt := by
  have HQ := Lib.hid hQ
  clear hQ
  simp only [goP2, goR14, goR13, goR12, goR11, goR10, goR9, goR8, goR7, goR6, goR5, goR4, goR3, goR2, goR1, goR0, bodyOf, Try.f3, codeL, codeR, blockOf, loopOf, Option.getD_some, T219]
  simp only [hx1, hx2, hx7]
  go_wp2
  exact HQ.out _ ⟨rfl, rfl, ⟨rfl, rfl, rfl, trivial⟩⟩

set_option maxHeartbeats 2000000 in
theorem go_p2_bad (hx1 : x 1 = .slice ad M cd) (hx2 : x 2 = .slice bo K co) (hx7 : x 7 = .int .i64 n) (hbad : n < 1 ∨ 20 < n ∨ M < 1 ∨ 5 < M ∨ 200 < K)
    (hQ : ∀ a' w', a'.defers = [] → a'.tmps.size = 219 → a'.tmps.getD 6 undef = .bool true → Kp [] wt w' → Q .ret a' w') : (goP2 Try.f3).wp Try.prog Q ⟨T219 x, []⟩ wt := by
  have HQ := Lib.hid hQ
  clear hQ
  have HB := Lib.hid hbad
  have HW := Lib.hid (fun w => wakes_is w)
  clear hbad
  simp only [goP2, goR14, goR13, goR12, goR11, goR10, goR9, goR8, goR7, goR6, goR5, goR4, goR3, goR2, goR1, goR0, bodyOf, Try.f3, codeL, codeR, blockOf, loopOf, Option.getD_some, T219]
  simp only [hx1, hx2, hx7]
  go_wp2_with fail
  all_goals first
    | (exfalso; have := HB.out; omega)
    | (refine (HW.out _).mono ?_
       rintro e w1 ⟨rfl, hk⟩
       have HK := Lib.hid hk
       clear hk
       go_wp2
       exact HQ.out _ _ rfl rfl rfl HK.out)

set_option maxHeartbeats 2000000 in
theorem go_p3 (hx1 : x 1 = .slice (some ⟨bd, od, none⟩) M cd) (hx2 : x 2 = .slice bo K co) (hx7 : x 7 = .int .i64 n) (hM5 : M ≤ 5) {ai : Nat → Option Addr} {Li ci : Nat → Nat} (hd : ∀ i, i < M → wt.cell? ⟨bd, od + i, none⟩ = some (.slice (ai i) (Li i) (ci i))) (hL : ∀ i, i < M → Li i ≤ 20)
    (hQ : ∀ a' w', FrN 219 [(1, .slice (some ⟨bd, od, none⟩) M cd), (2, .slice bo K co), (7, .int .i64 n)] a' → (∀ ad, w'.cell? ad = wt.cell? ad) → Kp [] wt w' → Q .normal a' w') : (goP3 Try.f3).wp Try.prog Q ⟨T219 x, []⟩ wt := by
  have HQ := Lib.hid hQ
  clear hQ
  have HD := Lib.hid hd
  have HL := Lib.hid hL
  clear hd hL
  simp only [goP3, goR14, goR13, goR12, goR11, goR10, goR9, goR8, goR7, goR6, goR5, goR4, goR3, goR2, goR1, goR0, bodyOf, Try.f3, codeL, codeR, blockOf, loopOf, Option.getD_some, T219]
  simp only [hx1, hx2, hx7]
  go_wp2_with fail
  go_loopg [8] M (fun g v wr => ∃ i : Nat, i + g = M ∧ v = .int .i64 i ∧ Hid (∀ ad, wr.cell? ad = wt.cell? ad) ∧ Hid (Kp [] wt wr))
  case atStart => exact ⟨0, by omega, rfl, Lib.hid fun _ => rfl, Lib.hid (Kp.refl _ _)⟩
  case round =>
    obtain ⟨i, hi, rfl, HC, HK⟩ := hrel
    by_cases hlt : i < M
    · have d0 := (HC.out _).trans (HD.out i hlt)
      have d1 := HL.out i hlt
      generalize hLi : Li i = li at d0 d1
      generalize ai i = aa at d0
      generalize ci i = cc at d0
      have hw := IntWalk.i64_in ((i : Int) + 1) (by omega)
      clear hLi
      go_wp2
      go_roundg (M - (i + 1))
      all_goals first | omega | exact ⟨i + 1, by omega, rfl, Lib.hid HC.out, Lib.hid HK.out⟩
    · obtain rfl : i = M := by omega
      go_wp2
      exact HQ.out _ _ ⟨rfl, rfl, ⟨rfl, rfl, rfl, trivial⟩⟩ HC.out HK.out

set_option maxHeartbeats 2000000 in
theorem go_p3_bad (hx1 : x 1 = .slice (some ⟨bd, od, none⟩) M cd) (hx2 : x 2 = .slice bo K co) (hx7 : x 7 = .int .i64 n) (hM5 : M ≤ 5) {ai : Nat → Option Addr} {Li ci : Nat → Nat} (hd : ∀ i, i < M → wt.cell? ⟨bd, od + i, none⟩ = some (.slice (ai i) (Li i) (ci i))) {i0 : Nat} (h0 : i0 < M) (hL0 : 20 < Li i0) (hL : ∀ i, i < i0 → Li i ≤ 20)
    (hQ : ∀ a' w', a'.defers = [] → a'.tmps.size = 219 → a'.tmps.getD 6 undef = .bool true → Kp [] wt w' → Q .ret a' w') : (goP3 Try.f3).wp Try.prog Q ⟨T219 x, []⟩ wt := by
  have HQ := Lib.hid hQ
  clear hQ
  have HD := Lib.hid hd
  have HL := Lib.hid hL
  have HL0 := Lib.hid hL0
  have HW := Lib.hid (fun w => wakes_is w)
  clear hd hL hL0
  simp only [goP3, goR14, goR13, goR12, goR11, goR10, goR9, goR8, goR7, goR6, goR5, goR4, goR3, goR2, goR1, goR0, bodyOf, Try.f3, codeL, codeR, blockOf, loopOf, Option.getD_some, T219]
  simp only [hx1, hx2, hx7]
  go_wp2_with fail
  go_loopg [8] i0 (fun g v wr => ∃ i : Nat, i + g = i0 ∧ v = .int .i64 i ∧ Hid (∀ ad, wr.cell? ad = wt.cell? ad) ∧ Hid (Kp [] wt wr))
  case atStart => exact ⟨0, by omega, rfl, Lib.hid fun _ => rfl, Lib.hid (Kp.refl _ _)⟩
  case round =>
    obtain ⟨i, hi, rfl, HC, HK⟩ := hrel
    have hlt : i < M := by omega
    have hw := IntWalk.i64_in ((i : Int) + 1) (by omega)
    have d0 := (HC.out _).trans (HD.out i hlt)
    by_cases hi0 : i < i0
    · have d1 := HL.out i hi0
      generalize hLi : Li i = li at d0 d1
      generalize ai i = aa at d0
      generalize ci i = cc at d0
      clear hLi
      go_wp2
      go_roundg (i0 - (i + 1))
      all_goals first | omega | exact ⟨i + 1, by omega, rfl, Lib.hid HC.out, Lib.hid HK.out⟩
    · obtain rfl : i = i0 := by omega
      have d1 := HL0.out
      generalize hLi : Li i = li at d0 d1
      generalize ai i = aa at d0
      generalize ci i = cc at d0
      clear hLi
      go_wp2_with fail
      refine (HW.out _).mono ?_
      rintro e w1 ⟨rfl, hk⟩
      have HK1 := Lib.hid (HK.out.trans hk)
      clear hk
      go_wp2
      exact HQ.out _ _ rfl rfl rfl HK1.out

set_option maxHeartbeats 2000000 in
theorem go_p4 (hx1 : x 1 = .slice (some ⟨bd, od, none⟩) M cd) (hx2 : x 2 = .slice bo K co) (hx7 : x 7 = .int .i64 n) (h1 : 1 ≤ n) (h20 : n ≤ 20)
    (hQ : ∀ a' w' pA rA bl, FrN 219 [(1, .slice (some ⟨bd, od, none⟩) M cd), (2, .slice bo K co), (7, .int .i64 n), (9, .pointer (some ⟨pA, 0, none⟩)), (10, .pointer (some ⟨bl, 0, none⟩)), (11, .bool true)] a' → Hw 1 1 n pA rA (wordsW n 0) 0 w' → w'.heap[bl]? = some (.cells #[.int .i64 1, .int .i64 1, .int .i64 n] 27 (0, 0)) → wt.heap.size ≤ rA → rA < pA → pA < bl → Kp [] wt w' → Q .normal a' w') : (goP4 Try.f3).wp Try.prog Q ⟨T219 x, []⟩ wt := by
  have HQ := Lib.hid hQ
  clear hQ
  have HN := Lib.hid (made_is wt n h1 (by omega))
  simp only [goP4, goR14, goR13, goR12, goR11, goR10, goR9, goR8, goR7, goR6, goR5, goR4, goR3, goR2, goR1, goR0, bodyOf, Try.f3, codeL, codeR, blockOf, loopOf, Option.getD_some, T219]
  simp only [hx1, hx2, hx7]
  go_wp2_with fail
  refine HN.out.mono ?_
  rintro e w1 ⟨rfl, ha, hk⟩
  have HA := Lib.hid (And.intro ha hk)
  clear ha hk HN
  go_wp2
  have hlt := HA.out.1.lt
  exact HQ.out _ _ _ _ _ ⟨rfl, rfl, ⟨rfl, rfl, rfl, rfl, rfl, rfl, trivial⟩⟩ (HA.out.1.on ((Kp.refl _ _).alloc _)) (heap_alloc_new _ _) (by omega) (by omega) (by omega) (HA.out.2.alloc _)

theorem go_p5 (hx1 : x 1 = .slice (some ⟨bd, od, none⟩) M cd) (hx2 : x 2 = .slice bo K co) (hx7 : x 7 = .int .i64 n) (hx9 : x 9 = .pointer (some ⟨pA, 0, none⟩)) (hx10 : x 10 = .pointer (some ⟨bl, 0, none⟩)) (hx11 : x 11 = .bool true) 
    (hQ : ∀ a', FrN 219 [(1, .slice (some ⟨bd, od, none⟩) M cd), (2, .slice bo K co), (7, .int .i64 n), (9, .pointer (some ⟨pA, 0, none⟩)), (10, .pointer (some ⟨bl, 0, none⟩))] a' → Q .normal a' wt) : (goP5 Try.f3).wp Try.prog Q ⟨T219 x, []⟩ wt := by
  have HQ := Lib.hid hQ
  clear hQ
  simp only [goP5, goR14, goR13, goR12, goR11, goR10, goR9, goR8, goR7, goR6, goR5, goR4, goR3, goR2, goR1, goR0, bodyOf, Try.f3, codeL, codeR, blockOf, loopOf, Option.getD_some, T219]
  simp only [hx1, hx2, hx7, hx9, hx10, hx11]
  go_wp2
  exact HQ.out _ ⟨rfl, rfl, ⟨rfl, rfl, rfl, rfl, rfl, trivial⟩⟩

set_option maxHeartbeats 2000000 in
theorem go_p6 (hx1 : x 1 = .slice (some ⟨bd, od, none⟩) M cd) (hx2 : x 2 = .slice bo K co) (hx7 : x 7 = .int .i64 n) (hx9 : x 9 = .pointer (some ⟨pA, 0, none⟩)) (hx10 : x 10 = .pointer (some ⟨bl, 0, none⟩)) (h20 : n ≤ 20) (hw : Hw 1 1 n pA rA (wordsW n 0) 0 wt) (hl : wt.heap[bl]? = some (.cells #[.int .i64 1, .int .i64 1, .int .i64 n] 27 (0, 0)))
    (hQ : ∀ a' w', FrN 219 [(1, .slice (some ⟨bd, od, none⟩) M cd), (2, .slice bo K co), (7, .int .i64 n), (9, .pointer (some ⟨pA, 0, none⟩)), (10, .pointer (some ⟨bl, 0, none⟩))] a' → Hw 1 1 n pA rA (wordsW n (2 ^ n - 1)) 1 w' → Ks (fun b => b = pA ∨ b = rA) wt w' → Q .normal a' w') : (goP6 Try.f3).wp Try.prog Q ⟨T219 x, []⟩ wt := by
  have HQ := Lib.hid hQ
  clear hQ
  have hm : 2 ^ min n 64 - 1 = 2 ^ n - 1 := by rw [Nat.min_eq_left (by omega)]
  have HN := Lib.hid (fun w h => g_begin (w := w) (p := pA) (r := rA) (T := 1) (G := 1) (n := n) (H := wordsW n 0) (t := 0) h (by decide) (2 ^ n - 1) hm)
  have HW := Lib.hid hw
  have c0 := cell_of_row hl 0
  have c1 := cell_of_row hl 1
  have c2 := cell_of_row hl 2
  simp only [gqA, gqZ, gqS] at c0 c1 c2
  clear hm hw hl
  generalize hM' : 2 ^ n - 1 = M' at *
  clear hM'
  simp only [goP6, goR14, goR13, goR12, goR11, goR10, goR9, goR8, goR7, goR6, goR5, goR4, goR3, goR2, goR1, goR0, bodyOf, Try.f3, codeL, codeR, blockOf, loopOf, Option.getD_some, T219]
  simp only [hx1, hx2, hx7, hx9, hx10]
  go_wp2_with fail
  refine (HN.out _ HW.out).mono ?_
  rintro e w1 ⟨rfl, ha, hk⟩
  have HA := Lib.hid (And.intro ha hk)
  clear ha hk HN
  go_wp2
  exact HQ.out _ _ ⟨rfl, rfl, ⟨rfl, rfl, rfl, rfl, rfl, trivial⟩⟩ HA.out.1 ((ks_of_kp HA.out.2).mono fun _ _ z => by simpa using z)

theorem make_hs (n : Nat) (h2 : n ≤ 4096) (w : World) : (Instr.makeSlice 31 (.int .i64 (n : Int)) (.int .i64 (n : Int))).run Try.prog w = .ok (.slice (some ⟨w.heap.size, 0, none⟩) n n) (w.alloc (.cells ((List.range n).map fun _ => Value.slice none 0 0).toArray 34)) := by
  obtain ⟨i, hi, hz0, hz1, hz2⟩ := info_parts (P := Try.prog) (e := 34) (z := .slice none 0 0) (size := 1) (bytes := 24) (by kernel_rfl)
  have := run_make (P := Try.prog) w 31 34 i (.slice none 0 0) Try.underlying31 hi hz0 .i64 .i64 n n (by omega) (Int.le_refl _) (by rw [hz2]; omega) (by omega)
  have e : madeCells #[.slice none 0 0] n = ((List.range n).map fun _ => Value.slice none 0 0).toArray := by
    apply Array.ext'
    rw [toList_madeCells_one]
    apply List.ext_getElem (by simp)
    intro i h1 h2
    simp
  rw [this, hz1]
  simp [Value.cells, e]
set_option maxHeartbeats 2000000 in
theorem go_p7 (hx1 : x 1 = .slice (some ⟨bd, od, none⟩) M cd) (hx2 : x 2 = .slice bo K co) (hx7 : x 7 = .int .i64 n) (hx9 : x 9 = .pointer (some ⟨pA, 0, none⟩)) (hx10 : x 10 = .pointer (some ⟨bl, 0, none⟩)) (hM5 : M ≤ 5)
    (hQ : ∀ a' w' bh, FrN 219 [(1, .slice (some ⟨bd, od, none⟩) M cd), (2, .slice bo K co), (7, .int .i64 n), (9, .pointer (some ⟨pA, 0, none⟩)), (10, .pointer (some ⟨bl, 0, none⟩)), (12, .slice (some ⟨bh, 0, none⟩) M M)] a' → w'.heap[bh]? = some (.cells ((List.range M).map fun _ => Value.slice none 0 0).toArray 34 (0, 0)) → wt.heap.size ≤ bh → Kp [] wt w' → Q .normal a' w') : (goP7 Try.f3).wp Try.prog Q ⟨T219 x, []⟩ wt := by
  have HQ := Lib.hid hQ
  clear hQ
  have hmk := make_hs M (by omega)
  simp only [goP7, goR14, goR13, goR12, goR11, goR10, goR9, goR8, goR7, goR6, goR5, goR4, goR3, goR2, goR1, goR0, bodyOf, Try.f3, codeL, codeR, blockOf, loopOf, Option.getD_some, T219]
  simp only [hx1, hx2, hx7, hx9, hx10]
  go_wp2
  exact HQ.out _ _ _ ⟨rfl, rfl, ⟨rfl, rfl, rfl, rfl, rfl, rfl, trivial⟩⟩ (heap_alloc_new _ _) (Nat.le_refl _) ((Kp.refl _ _).alloc _)

theorem go_p8 (hx1 : x 1 = .slice (some ⟨bd, od, none⟩) M cd) (hx2 : x 2 = .slice bo K co) (hx7 : x 7 = .int .i64 n) (hx9 : x 9 = .pointer (some ⟨pA, 0, none⟩)) (hx10 : x 10 = .pointer (some ⟨bl, 0, none⟩)) (hx12 : x 12 = .slice (some ⟨bh, 0, none⟩) M M) 
    (hQ : ∀ a', FrN 219 [(1, .slice (some ⟨bd, od, none⟩) M cd), (2, .slice bo K co), (7, .int .i64 n), (9, .pointer (some ⟨pA, 0, none⟩)), (10, .pointer (some ⟨bl, 0, none⟩)), (12, .slice (some ⟨bh, 0, none⟩) M M), (13, .slice none 0 0)] a' → Q .normal a' wt) : (goP8 Try.f3).wp Try.prog Q ⟨T219 x, []⟩ wt := by
  have HQ := Lib.hid hQ
  clear hQ
  simp only [goP8, goR14, goR13, goR12, goR11, goR10, goR9, goR8, goR7, goR6, goR5, goR4, goR3, goR2, goR1, goR0, bodyOf, Try.f3, codeL, codeR, blockOf, loopOf, Option.getD_some, T219]
  simp only [hx1, hx2, hx7, hx9, hx10, hx12]
  go_wp2
  exact HQ.out _ ⟨rfl, rfl, ⟨rfl, rfl, rfl, rfl, rfl, rfl, rfl, trivial⟩⟩

theorem go_p9 (hx1 : x 1 = .slice (some ⟨bd, od, none⟩) M cd) (hx2 : x 2 = .slice bo K co) (hx7 : x 7 = .int .i64 n) (hx9 : x 9 = .pointer (some ⟨pA, 0, none⟩)) (hx10 : x 10 = .pointer (some ⟨bl, 0, none⟩)) (hx12 : x 12 = .slice (some ⟨bh, 0, none⟩) M M) (hx13 : x 13 = va) 
    (hQ : ∀ a', FrN 219 [(1, .slice (some ⟨bd, od, none⟩) M cd), (2, .slice bo K co), (7, .int .i64 n), (9, .pointer (some ⟨pA, 0, none⟩)), (10, .pointer (some ⟨bl, 0, none⟩)), (12, .slice (some ⟨bh, 0, none⟩) M M), (13, va), (14, .bool true)] a' → Q .normal a' wt) : (goP9 Try.f3).wp Try.prog Q ⟨T219 x, []⟩ wt := by
  have HQ := Lib.hid hQ
  clear hQ
  simp only [goP9, goR14, goR13, goR12, goR11, goR10, goR9, goR8, goR7, goR6, goR5, goR4, goR3, goR2, goR1, goR0, bodyOf, Try.f3, codeL, codeR, blockOf, loopOf, Option.getD_some, T219]
  simp only [hx1, hx2, hx7, hx9, hx10, hx12, hx13]
  go_wp2
  exact HQ.out _ ⟨rfl, rfl, ⟨rfl, rfl, rfl, rfl, rfl, rfl, rfl, rfl, trivial⟩⟩

end
end Go.Proofs.Ytnbaiinhalplcaa
