/- The walks of package give, on: Entry. The walks of package give, on: Back. The walks of package give, on: Back, walked. The walks of package give, on: Waiting. Plain facts on a header's numbers and bits; nothing here speaks of the program. Conditions: as each lemma states them. The walks of package word: each contract says what a call answers, and that below the heap's old size nothing has turned. Conditions: as each theorem states them (the numbers are those of a uint8, of a uint64). The walks of package word, on: a header's word and back (Put, Take). Conditions: as each theorem states them (the numbers are those of a uint8, of a uint64). The walks of package word, on: Put and Take as they are called. Conditions: as each theorem states them (the numbers are those of a uint8, of a uint64). The walks of package word, on: Take. Conditions: as each theorem states them (the numbers are those of a uint64). The walks of the document's own header functions (demesneref01), and of Of. Conditions: as each theorem states them (the numbers are those of a uint8, of a uint64). Conditions: as each theorem states them. -/
import Derived.Deep.CutBlock
import Derived.Deep.CutRange
import Derived.Deep.DeepCutAuto
import Derived.Deep.RegionHeld3
import Derived.IntWalk
import Derived.Laws.BitsAllLaws
import Derived.Laws.Bits64
import Derived.Test.YticbnckikkdknaaGreatDoorRows
import Derived.WalkKit
import Derived.WalkSpells
import Derived.WalkLawsBesides
import Derived.BigQuiet
import Derived.RegionTactic
import Derived.ChangeAlike
import Derived.Handy
import Derived.Lib.Hide
import Derived.Test.YticbnckikkdknaaGreatDoorPn01
import Derived.Test.YticbnckikkdknaaGreatDoorPn02
namespace Go.Proofs.YticbnckikkdknaaGreatDoor
set_option linter.unusedVariables false
set_option linter.unusedSimpArgs false
open Go.RowKit

section
variable {T G n p r t : Nat} {H : List Int} {w w' : World}
/-- An entry's four cells. -/
def cs4 (k c r o : Int) : Array Value := #[.int .u8 k, .int .u8 c, .int .u8 r, .int .u8 o]
/-- What is known once the entry lies in a box of its own. -/
structure PE (w0 : World) (T G n p r : Nat) (H : List Int) (t : Nat) (b : Nat) (k c r' o : Int) (wc : World) : Prop where
  gw : Hw T G n p r H t wc
  kp : Kp [p, r] w0 wc
  hb : wc.heap[b]? = some (.cells (cs4 k c r' o) 110 (0, 0))
  ho : wc.heap[w0.heap.size + 1]? = some (.cells (cs4 0 0 0 0) 110 (0, 0))
  ge : w0.heap.size + 2 ≤ b
def put4 (w : World) (b : Nat) (k c r o : Int) : World := (((w.setCell ⟨b, 0, none⟩ (.int .u8 k)).setCell ⟨b, 1, none⟩ (.int .u8 c)).setCell ⟨b, 2, none⟩ (.int .u8 r)).setCell ⟨b, 3, none⟩ (.int .u8 o)
theorem put4_kp (w : World) (b : Nat) (k c r o : Int) : Kp [b] w (put4 w b k c r o) := ((((Kp.refl [b] w).setCell (.inl (by simp)) _).setCell (.inl (by simp)) _).setCell (.inl (by simp)) _).setCell (.inl (by simp)) _
theorem put4_row {w : World} {b : Nat} {k0 c0 r0 o0 : Int} (k c r o : Int) {T : TypeId} (h : w.heap[b]? = some (.cells (cs4 k0 c0 r0 o0) T (0, 0))) : (put4 w b k c r o).heap[b]? = some (.cells (cs4 k c r o) T (0, 0)) := by
  unfold put4
  rw [heap_setCell_same _ _ _ _ _ _ (heap_setCell_same _ _ _ _ _ _ (heap_setCell_same _ _ _ _ _ _ (heap_setCell_same _ _ _ _ _ _ h)))]
  rfl
theorem Kp.new_set {S : List Nat} {w w1 w2 : World} {b : Nat} (h : Kp S w w1) (k : Kp [b] w1 w2) (hb : w.heap.size ≤ b) : Kp S w w2 :=
  ⟨k.os.trans h.os, k.tape.trans h.tape, k.output.trans h.output, Nat.le_trans h.size k.size, fun i hi hn => (k.block i (Nat.lt_of_lt_of_le hi h.size) (by simp; omega)).trans (h.block i hi hn)⟩
theorem PE.make1 {w0 w4 : World} {k c r' o : Int} (hg : Hw T G n p r H t w4) (hk : Kp [p, r] w0 w4) (ho : w4.heap[w0.heap.size + 1]? = some (.cells (cs4 0 0 0 0) 110 (0, 0))) :
    PE w0 T G n p r H t w4.heap.size k c r' o (w4.alloc (.cells (cs4 k c r' o) 110)) :=
  ⟨hg.on ((Kp.refl _ _).alloc _), hk.alloc _, heap_alloc_new _ _, ((Kp.refl [] w4).alloc _).row (by simp) ho, lt_of_block ho⟩
theorem PE.make2 {w0 w4 : World} {k c r' o : Int} {b : Nat} (hg : Hw T G n p r H t w4) (hk : Kp [p, r] w0 w4) (hp : p < w0.heap.size ∧ r < w0.heap.size) (ho : w4.heap[w0.heap.size + 1]? = some (.cells (cs4 0 0 0 0) 110 (0, 0))) (hb : w4.heap[b]? = some (.cells (cs4 0 0 0 0) 110 (0, 0))) (hge : w0.heap.size + 2 ≤ b) :
    PE w0 T G n p r H t b k c r' o (put4 w4 b k c r' o) :=
  ⟨hg.keep (put4_kp _ _ _ _ _ _) (by simp; omega) (by simp; omega), hk.new_set (put4_kp _ _ _ _ _ _) (by omega), put4_row _ _ _ _ hb, (put4_kp _ _ _ _ _ _).row (by simp; omega) ho, hge⟩

set_option maxRecDepth 100000 in
set_option maxHeartbeats 16000000 in
theorem g_entry (h : Hw T G n p r H t w) (ht : t ≤ 900000000000) (k : Nat) (hk : k < n) (x : Int) (hx : H.getD (3 + T + G + k) 0 = x) :
    Calls Tryz.prog 44 #[.iface 31 (.pointer (some ⟨p, 0, none⟩)), .agg #[.int .i64 T, .int .i64 G, .int .i64 n], .int .i64 k] w fun e w' => e = .returned (.agg #[.int .u8 (ek x), .int .u8 (ec x), .int .u8 (er x), .int .u8 (eo x)]) ∧ Hw T G n p r H (t + 1) w' ∧ Kp [p, r] w w' := by
  have hhas := Lib.hid (fun w => g_has T G n k 1 w h.hn)
  rw [show runG n k 1 = true from runG_iff.2 (by omega)] at hhas
  have hen := Lib.hid (fun w => entry_at (T := T) (G := G) (n := n) k w h.hT h.hG h.hn hk)
  have hx01 := h.ok (3 + T + G + k)
  rw [hx] at hx01
  have htk := Lib.hid (fun w => take_part x w hx01.1 hx01.2)
  have K0 := Lib.hid (((Kp.refl [] w).alloc (.cells #[.int .i64 T, .int .i64 G, .int .i64 n] 33)).alloc (.cells #[.int .u8 0, .int .u8 0, .int .u8 0, .int .u8 0] 110))
  have HG := Lib.hid h
  have HRD := Lib.hid (fun (w' : World) (hw : Kp [] w w') => rd_word (h.on hw) ht (3 + T + G + k) (by have := h.len; omega) ((3 + T + G + k : Nat) : Int) x rfl hx)
  have hpl := h.lt
  have HX : Hid (∀ w', Kp [] ((w.alloc (.cells #[.int .i64 T, .int .i64 G, .int .i64 n] 33)).alloc (.cells #[.int .u8 0, .int .u8 0, .int .u8 0, .int .u8 0] 110)) w' → Lx w.heap.size T G n w' ∧ w'.heap[w.heap.size + 1]? = some (.cells #[.int .u8 0, .int .u8 0, .int .u8 0, .int .u8 0] 110 (0, 0))) :=
    Lib.hid fun w' hk => ⟨((Lx.new w T G n).keep ((Kp.refl [] _).alloc _) (by simp)).keep hk (by simp), hk.row (by simp) (by rw [show w.heap.size + 1 = (w.alloc (.cells #[.int .i64 T, .int .i64 G, .int .i64 n] 33)).heap.size from (World.size_alloc _ _).symm]; exact heap_alloc_new _ _)⟩
  clear hx01 hx
  have hna := na_read
  generalize ek x = xk at htk ⊢
  generalize ec x = xc at htk ⊢
  generalize er x = xr at htk ⊢
  generalize eo x = xo at htk ⊢
  go_enter Tryz.func44, Tryz.ntmps44
  go_wp2_with fail
  refine (hhas.out _).mono ?_
  rintro e w1 ⟨rfl, hk1⟩
  have X1 := HX.out w1 hk1
  have K1 := Lib.hid (K0.out.trans hk1)
  have hc := X1.1
  obtain ⟨a0, a1, a2⟩ := hc
  have R1 := Lib.hid X1.2
  have X1' := Lib.hid X1.1
  have hz1 := hk1.size
  clear X1 hk1
  have z1 : w.heap.size + 2 ≤ w1.heap.size := by have := hz1; simpa [World.size_alloc] using this
  have z1a : w.heap.size < w1.heap.size := by omega
  have z1b : ¬ w.heap.size = w1.heap.size := by omega
  have b0 : (w1.alloc (.cells #[.int .u8 0, .int .u8 0, .int .u8 0, .int .u8 0] 110)).cell? ⟨w.heap.size, 0, none⟩ = some (.int .i64 T) := (X1'.out.keep ((Kp.refl [] w1).alloc _) (by simp)).c0
  have b1 : (w1.alloc (.cells #[.int .u8 0, .int .u8 0, .int .u8 0, .int .u8 0] 110)).cell? ⟨w.heap.size, 1, none⟩ = some (.int .i64 G) := (X1'.out.keep ((Kp.refl [] w1).alloc _) (by simp)).c1
  have b2 : (w1.alloc (.cells #[.int .u8 0, .int .u8 0, .int .u8 0, .int .u8 0] 110)).cell? ⟨w.heap.size, 2, none⟩ = some (.int .i64 n) := (X1'.out.keep ((Kp.refl [] w1).alloc _) (by simp)).c2
  go_upto_region 3 with (fail)
  go_cut [7] (fun v7 wc => ∃ b, v7 = .pointer (some ⟨b, 0, none⟩) ∧ Hid (PE w T G n p r H (t + 1) b xk xc xr xo wc))
  case first =>
    go_region_with (first
      | (go_at_call 81; refine (hen.out _).mono ?_; rintro e w2 ⟨rfl, hk⟩
         try replace hk := hk.drew_l
         try have B7 := hk.row (by simp) (heap_alloc_new _ _)
         have K2 : Hid (Kp [] w1 w2) := Lib.hid (by refine Kp.trans ?_ hk; first | exact ⟨rfl, rfl, rfl, Nat.le_refl _, fun _ _ _ => rfl⟩ | exact Kp.alloc ⟨rfl, rfl, rfl, Nat.le_refl _, fun _ _ _ => rfl⟩ _)
         have z2 : w1.heap.size ≤ w2.heap.size := K2.out.size
         clear hk)
      | (go_at_call 41
         refine (HRD.out _ (K1.out.trans (K2.out.trans ?_))).mono ?_
         · first | exact ⟨rfl, rfl, rfl, Nat.le_refl _, fun _ _ _ => rfl⟩ | exact Kp.alloc ⟨rfl, rfl, rfl, Nat.le_refl _, fun _ _ _ => rfl⟩ _
         rintro e w3 ⟨rfl, hg, hk⟩
         try have B7 := hk.row (by simp; omega) B7
         try have B7 := hk.row (by simp; omega) (heap_alloc_new _ _)
         have G3 := Lib.hid hg
         have K3 : Hid (Kp [p, r] w1 w3) := Lib.hid (by refine (K2.out.mono (by simp)).trans (Kp.trans ?_ hk); first | exact ⟨rfl, rfl, rfl, Nat.le_refl _, fun _ _ _ => rfl⟩ | exact Kp.alloc ⟨rfl, rfl, rfl, Nat.le_refl _, fun _ _ _ => rfl⟩ _)
         have z3 : w1.heap.size ≤ w3.heap.size := K3.out.size
         clear hg hk)
      | (go_at_call 80; refine (htk.out _).mono ?_; rintro e w4 ⟨rfl, hk⟩
         try have B7 := hk.row (by simp) B7
         try have B7 := hk.row (by simp) (heap_alloc_new _ _)
         try have e70 := (cell_of_row B7 0).trans (show _ = some (.int .u8 0) from rfl)
         try have e71 := (cell_of_row B7 1).trans (show _ = some (.int .u8 0) from rfl)
         try have e72 := (cell_of_row B7 2).trans (show _ = some (.int .u8 0) from rfl)
         try have e73 := (cell_of_row B7 3).trans (show _ = some (.int .u8 0) from rfl)
         try have f70 := free_of_row B7 0
         try have f71 := free_of_row B7 1
         try have f72 := free_of_row B7 2
         try have f73 := free_of_row B7 3
         have K4 : Hid (Kp [p, r] w1 w4) := Lib.hid (by refine K3.out.trans (Kp.trans ?_ (hk.mono (by simp))); first | exact ⟨rfl, rfl, rfl, Nat.le_refl _, fun _ _ _ => rfl⟩ | exact Kp.alloc ⟨rfl, rfl, rfl, Nat.le_refl _, fun _ _ _ => rfl⟩ _)
         have G4 : Hid (Hw T G n p r H (t + 1) w4) := Lib.hid (by refine G3.out.on (Kp.trans ?_ hk); first | exact ⟨rfl, rfl, rfl, Nat.le_refl _, fun _ _ _ => rfl⟩ | exact Kp.alloc ⟨rfl, rfl, rfl, Nat.le_refl _, fun _ _ _ => rfl⟩ _)
         clear hk))
    all_goals go_wp2_with fail
    all_goals go_meet
    all_goals
      have KK : Kp [p, r] w w4 := (K1.out.mono (by simp)).trans K4.out
      have B6 := K4.out.row (by simp; omega) R1.out
      first
        | exact ⟨_, rfl, Lib.hid (PE.make1 G4.out KK B6)⟩
        | exact ⟨_, rfl, Lib.hid (PE.make2 G4.out KK hpl B6 B7 (by omega))⟩
  case rest =>
    obtain ⟨b, rfl, HM⟩ := hcut
    have c0 := (cell_of_row HM.out.hb 0).trans (show _ = some (.int .u8 xk) from rfl)
    have c1 := (cell_of_row HM.out.hb 1).trans (show _ = some (.int .u8 xc) from rfl)
    have c2 := (cell_of_row HM.out.hb 2).trans (show _ = some (.int .u8 xr) from rfl)
    have c3 := (cell_of_row HM.out.hb 3).trans (show _ = some (.int .u8 xo) from rfl)
    have d0 := (cell_of_row HM.out.ho 0).trans (show _ = some (.int .u8 0) from rfl)
    have d1 := (cell_of_row HM.out.ho 1).trans (show _ = some (.int .u8 0) from rfl)
    have d2 := (cell_of_row HM.out.ho 2).trans (show _ = some (.int .u8 0) from rfl)
    have d3 := (cell_of_row HM.out.ho 3).trans (show _ = some (.int .u8 0) from rfl)
    have f0 := free_of_row HM.out.ho 0
    have f1 := free_of_row HM.out.ho 1
    have f2 := free_of_row HM.out.ho 2
    have f3 := free_of_row HM.out.ho 3
    go_wp2_with fail
    exact bodyPost_row rfl (w.heap.size + 1) 110 (cs4 xk xc xr xo) (0, 0) _ rfl rfl (put4_row xk xc xr xo HM.out.ho) Tryz.underlying110 rfl (by kernel_rfl) ⟨rfl, HM.out.gw.keep (put4_kp _ _ _ _ _ _) (by simp; omega) (by simp; omega), HM.out.kp.new_set (put4_kp _ _ _ _ _ _) (by omega)⟩

end
end Go.Proofs.YticbnckikkdknaaGreatDoor

namespace Go.Proofs.YticbnckikkdknaaGreatDoor
set_option linter.unusedVariables false
set_option linter.unusedSimpArgs false
open Go.RowKit

section
variable {T G n p r t : Nat} {H : List Int} {w w' : World}
/-- What giving a run in the map does. -/
theorem cl_back {M b r' : Nat} (hM : M < 18446744073709551616) (b1 b2 : Nat) (w : World) (c1 : w.cell? ⟨b1, 0, none⟩ = some (.int .i64 b)) (c2 : w.cell? ⟨b2, 0, none⟩ = some (.int .i64 r')) :
    Calls Tryz.prog 147 #[.int .u64 M, .pointer (some ⟨b1, 0, none⟩), .pointer (some ⟨b2, 0, none⟩)] w fun e w' => e = .returned (.int .u64 (giveM M b r')) ∧ Kp [] w w' ∧ True := by
  have hg := Lib.hid (fun w => Bm.give_is M b r' (giveM M b r') _ w hM rfl (by simp [giveM]))
  generalize Bm.isR M b r' false = q at hg
  generalize giveM M b r' = M' at hg ⊢
  go_enter Tryz.func147, Tryz.ntmps147
  go_wp2_with fail
  refine (hg.out _).mono ?_
  rintro e w1 ⟨rfl, rfl⟩
  go_wp2
  go_ret
  exact ⟨rfl, Kp.refl _ _, trivial⟩

/-- The boxes of Back: the layout's, the block's, the run's. -/
def bw (w : World) (T G n : Nat) (b r' : Int) : World := ((w.alloc (.cells #[.int .i64 T, .int .i64 G, .int .i64 n] 33)).alloc (.cells #[.int .i64 b] 3)).alloc (.cells #[.int .i64 r'] 3)
theorem bw_kp (w : World) (T G n : Nat) (b r' : Int) : Kp [] w (bw w T G n b r') := (((Kp.refl [] w).alloc _).alloc _).alloc _
/-- What Back finds in its boxes. -/
structure Bk (a T G n : Nat) (b r' : Int) (w : World) : Prop where
  lx : Lx a T G n w
  cb : w.cell? ⟨a + 1, 0, none⟩ = some (.int .i64 b)
  cr : w.cell? ⟨a + 1 + 1, 0, none⟩ = some (.int .i64 r')
theorem Bk.new (w : World) (T G n : Nat) (b r' : Int) : Bk w.heap.size T G n b r' (bw w T G n b r') := by
  have z1 := World.size_alloc w (.cells #[.int .i64 T, .int .i64 G, .int .i64 n] 33)
  have z2 := World.size_alloc (w.alloc (.cells #[.int .i64 T, .int .i64 G, .int .i64 n] 33)) (.cells #[.int .i64 b] 3)
  have r1 : (bw w T G n b r').heap[w.heap.size + 1]? = some (.cells #[.int .i64 b] 3 (0, 0)) := ((Kp.refl [] _).alloc _).row (by simp) (by rw [← z1]; exact heap_alloc_new _ _)
  have r2 : (bw w T G n b r').heap[w.heap.size + 1 + 1]? = some (.cells #[.int .i64 r'] 3 (0, 0)) := by rw [← z1, ← z2]; exact heap_alloc_new _ _
  exact ⟨(Lx.new w T G n).keep (((Kp.refl [] _).alloc _).alloc _) (by simp), cell_of_row r1 0, cell_of_row r2 0⟩
theorem Bk.keep {S : List Nat} {a : Nat} {b r' : Int} (h : Bk a T G n b r' w) (k : Kp S w w') (hS : ∀ x ∈ S, x < a) : Bk a T G n b r' w' :=
  ⟨h.lx.keep k (fun e => by have := hS _ e; omega), kp_cell k (fun e => by have := hS _ e; omega) h.cb, kp_cell k (fun e => by have := hS _ e; omega) h.cr⟩

theorem g_back_no (w : World) (T G n : Nat) (hn : n ≤ 64) (b r' : Int) (p : Addr) (h : runG n b r' = false) :
    Calls Tryz.prog 120 #[.iface 31 (.pointer (some p)), .agg #[.int .i64 T, .int .i64 G, .int .i64 n], .int .i64 b, .int .i64 r'] w fun e w' => e = .returned (.tuple #[]) ∧ Kp [] w w' := by
  have hh := Lib.hid (fun w => g_has T G n b r' w hn)
  rw [h] at hh
  have HK := Lib.hid (bw_kp w T G n b r')
  unfold bw at HK
  clear h
  go_enter Tryz.func120, Tryz.ntmps120
  go_wp2_with fail
  refine (hh.out _).mono ?_
  rintro e w1 ⟨rfl, hk⟩
  have K1 := Lib.hid (HK.out.trans hk)
  clear hk
  go_wp2
  exact bodyPost_ret (results_none Tryz.results120 _ _ _) rfl ⟨rfl, K1.out⟩

/-- What Back's region holds on to. -/
def Bs (a T G n : Nat) (b r' : Int) (p r : Nat) (w0 wx : World) : Prop :=
  wx.cell? ⟨a, 0, none⟩ = some (.int .i64 T) ∧ wx.cell? ⟨a, 1, none⟩ = some (.int .i64 G) ∧ wx.cell? ⟨a, 2, none⟩ = some (.int .i64 n) ∧ wx.cell? ⟨a + 1, 0, none⟩ = some (.int .i64 b) ∧ wx.cell? ⟨a + 1 + 1, 0, none⟩ = some (.int .i64 r') ∧ Kp [p, r] w0 wx
theorem bs_of {a : Nat} {b r' : Int} {w0 wx : World} (h : Bk a T G n b r' wx) (k : Kp [p, r] w0 wx) : Bs a T G n b r' p r w0 wx := ⟨h.lx.c0, h.lx.c1, h.lx.c2, h.cb, h.cr, k⟩
theorem bs_bk {a : Nat} {b r' : Int} {w0 wx : World} (h : Bs a T G n b r' p r w0 wx) : Bk a T G n b r' wx := ⟨⟨h.1, h.2.1, h.2.2.1⟩, h.2.2.2.1, h.2.2.2.2.1⟩
theorem bs_drew {a : Nat} {b r' : Int} {w0 wx : World} (h : Bs a T G n b r' p r w0 wx) : Bs a T G n b r' p r w0 wx.drew := bs_of ((bs_bk h).keep ((Kp.refl [] wx).drew) (by simp)) h.2.2.2.2.2.drew
theorem bs_step {a : Nat} {b r' : Int} {w0 wx wy : World} (h : Bs a T G n b r' p r w0 wx) (k : Kp [] wx wy) : Bs a T G n b r' p r w0 wy := bs_of ((bs_bk h).keep k (by simp)) (h.2.2.2.2.2.trans (k.mono (by simp)))
theorem bs_write {a : Nat} {b r' : Int} {w0 wx wy : World} (h : Bs a T G n b r' p r w0 wx) (hp : p < a ∧ r < a) (k : Kp [p, r] wx wy) : Bs a T G n b r' p r w0 wy := bs_of ((bs_bk h).keep k (by simp; omega)) (h.2.2.2.2.2.trans k)
end
end Go.Proofs.YticbnckikkdknaaGreatDoor

namespace Go.Proofs.YticbnckikkdknaaGreatDoor
set_option linter.unusedVariables false
set_option linter.unusedSimpArgs false
open Go.RowKit

section
variable {T G n p r t : Nat} {H : List Int} {w w' : World}
set_option maxRecDepth 100000 in
set_option maxHeartbeats 8000000 in
theorem g_back_in {M : Nat} (hM0 : H.getD 0 0 = M) (h : Hw T G n p r H t w) (ht : t ≤ 800000) (b r' : Nat) (h1 : 1 ≤ r') (h3 : r' ≤ 3) (hbn : b + r' ≤ n) :
    Calls Tryz.prog 120 #[.iface 31 (.pointer (some ⟨p, 0, none⟩)), .agg #[.int .i64 T, .int .i64 G, .int .i64 n], .int .i64 b, .int .i64 r'] w fun e w' => e = .returned (.tuple #[]) ∧ Hw T G n p r ((zer H (3 + T + G + b) r').set 0 (giveM M b r' : Int)) (t + r' + 1) w' ∧ Kp [p, r] w w' := by
  have hh := Lib.hid (fun w => g_has T G n b r' w h.hn)
  rw [runG_iff.2 (by omega)] at hh
  have hn := h.hn
  have hpl := h.lt
  have HML : Hid (M < 18446744073709551616) := Lib.hid (by
    have := (h.ok 0).2
    rw [hM0] at this
    exact Int.ofNat_lt.1 this)
  have HBK := Lib.hid (Bk.new w T G n b r')
  have HK := Lib.hid (bw_kp w T G n b r')
  have hen := Lib.hid (fun (k : Nat) (w : World) (hk : k < n) => entry_at (T := T) (G := G) (n := n) k w h.hT h.hG h.hn hk)
  have HWR : Hid (∀ (i : Nat) (w' : World), i < r' → Hw T G n p r (zer H (3 + T + G + (b + r' - i)) i) (t + i) w' → Calls Tryz.prog 62 #[.pointer (some ⟨p, 0, none⟩), .int .i64 ((3 + T + G + (b + r' - 1 - i) : Nat) : Int), .int .u64 0] w' fun e w2 => e = .returned (.tuple #[]) ∧ Hw T G n p r (zer H (3 + T + G + (b + r' - (i + 1))) (i + 1)) (t + (i + 1)) w2 ∧ Kp [p, r] w' w2) := by
    refine Lib.hid fun i w' hi hg => ?_
    have hl := hg.len
    have := wr_word hg (by omega) (3 + T + G + (b + r' - 1 - i)) (by omega) ((3 + T + G + (b + r' - 1 - i) : Nat) : Int) 0 rfl (by decide) (by decide)
    have hz := zer_down H (3 + T + G + (b + r' - (i + 1))) i
    rw [show 3 + T + G + (b + r' - (i + 1)) + 1 = 3 + T + G + (b + r' - i) from by omega] at hz
    rw [show b + r' - 1 - i = b + r' - (i + 1) from by omega] at this ⊢
    simp only [hz] at this
    exact this
  have HUP : Hid (∀ (w' : World), Hw T G n p r (zer H (3 + T + G + b) r') (t + r') w' → Bk w.heap.size T G n b r' w' → Calls Tryz.prog 74 #[.pointer (some ⟨p, 0, none⟩), .int .i64 0, .func (.func 147) #[] #[.pointer (some ⟨w.heap.size + 1, 0, none⟩), .pointer (some ⟨w.heap.size + 1 + 1, 0, none⟩)]] w' fun e w2 => e = .returned (.int .u64 M) ∧ Hw T G n p r ((zer H (3 + T + G + b) r').set 0 (giveM M b r' : Int)) (t + r' + 1) w2 ∧ Kp [p, r] w' w2 ∧ True) :=
    Lib.hid fun w' hg hb => up_map hg (by omega) 147 #[.pointer (some ⟨w.heap.size + 1, 0, none⟩), .pointer (some ⟨w.heap.size + 1 + 1, 0, none⟩)] M (giveM M b r') [] (fun _ => True) (by rw [zer_get, if_neg (by omega)]; exact hM0) (giveM_lt HML.out) (by simp) (by simp) (fun _ _ _ _ => trivial) (fun _ _ => rfl)
      (fun w1 k => cl_back HML.out _ _ w1 (kp_cell k (by simp; omega) hb.cb) (kp_cell k (by simp; omega) hb.cr))
  have HG0 : Hid (∀ w1, Kp [] (bw w T G n b r') w1 → Hw T G n p r (zer H (3 + T + G + (b + r' - 0)) 0) (t + 0) w1 ∧ Kp [p, r] w w1 ∧ Bk w.heap.size T G n b r' w1) :=
    Lib.hid fun w1 k => ⟨by rw [zer_none]; exact h.on ((bw_kp w T G n b r').trans k), ((bw_kp w T G n b r').trans k).mono (by simp), (Bk.new w T G n b r').keep k (by simp)⟩
  obtain ⟨⟨x0, x1, x2⟩, x3, x4⟩ := HBK.out
  have hna := na_write
  unfold bw at HK x0 x1 x2 x3 x4 HG0
  clear HBK
  go_enter Tryz.func120, Tryz.ntmps120
  go_wp2_with fail
  refine (hh.out _).mono ?_
  rintro e w1 ⟨rfl, hk⟩
  have G1 := HG0.out w1 hk
  have HG1 := Lib.hid G1
  obtain ⟨⟨a0, a1, a2⟩, a3, a4⟩ := G1.2.2
  clear hk G1 x0 x1 x2 x3 x4
  go_wp2_with fail
  go_loopg [19] r' (fun gg v19 wr => ∃ i : Nat, i + gg = r' ∧ v19 = .int .i64 i ∧ Hid (Hw T G n p r (zer H (3 + T + G + (b + r' - i)) i) (t + i) wr ∧ Kp [p, r] w wr ∧ Bk w.heap.size T G n b r' wr))
  case atStart => exact ⟨0, by omega, rfl, HG1⟩
  case round =>
    obtain ⟨i, hi, rfl, HR⟩ := hrel
    obtain ⟨⟨b0, b1, b2⟩, b3, b4⟩ := HR.out.2.2
    by_cases hlt : i < r'
    · have e1 := IntWalk.i64_in ((b : Int) + r') (by omega)
      have e2 := IntWalk.i64_in ((b : Int) + r' - 1) (by omega)
      have e3 := IntWalk.i64_in ((b : Int) + r' - 1 - i) (by omega)
      have e4 : (b : Int) + r' - 1 - i = ((b + r' - 1 - i : Nat) : Int) := by omega
      obtain ⟨k, hk⟩ : ∃ k, k = b + r' - 1 - i := ⟨_, rfl⟩
      have hkn : k < n := by omega
      have e5 := IntWalk.i64_in (k : Int) (by omega)
      have HWRi := Lib.hid (fun w' => HWR.out i w' hlt)
      rw [← hk] at e4 HWRi
      have henk := Lib.hid (fun w => hen.out k w hkn)
      clear hk
      go_wp2_with fail
      have HS := Lib.hid (bs_of HR.out.2.2 (Kp.refl [p, r] wr))
      have HP := Lib.hid hpl
      go_region_held3? (fun wx => wx.cell? ⟨w.heap.size, 0, none⟩ = some (.int .i64 T) ∧ wx.cell? ⟨w.heap.size, 1, none⟩ = some (.int .i64 G) ∧ wx.cell? ⟨w.heap.size, 2, none⟩ = some (.int .i64 n) ∧ wx.cell? ⟨w.heap.size + 1, 0, none⟩ = some (.int .i64 b) ∧ wx.cell? ⟨w.heap.size + 1 + 1, 0, none⟩ = some (.int .i64 r') ∧ Kp [p, r] wr wx)
        (first
          | assumption
          | exact bs_drew HS.out
          | exact bs_step ‹Bs w.heap.size T G n b r' p r wr _› hk9
          | exact bs_write ‹Bs w.heap.size T G n b r' p r wr _› HP.out hk8)
        (first
        | (go_at_call 81; refine (henk.out _).mono ?_; rintro e w3 ⟨rfl, hk9⟩
           have K3 : Hid (Kp [] wr w3) := Lib.hid (by refine Kp.trans ?_ hk9; exact ⟨rfl, rfl, rfl, Nat.le_refl _, fun _ _ _ => rfl⟩))
        | (go_at_call 62
           refine (HWRi.out _ (HR.out.1.on (K3.out.trans ?_))).mono ?_
           · exact ⟨rfl, rfl, rfl, Nat.le_refl _, fun _ _ _ => rfl⟩
           rintro e w4 ⟨rfl, hg, hk8⟩
           have G4 := Lib.hid hg
           have K4 : Hid (Kp [p, r] wr w4) := Lib.hid (by refine (K3.out.mono (by simp)).trans (Kp.trans ?_ hk8); exact ⟨rfl, rfl, rfl, Nat.le_refl _, fun _ _ _ => rfl⟩)
           clear hg))
      all_goals
        rename_i hHeld
        clear hHeld
        go_wp2_with fail
        go_roundg (r' - (i + 1))
        case rel => exact ⟨i + 1, by omega, by go_num, Lib.hid ⟨G4.out, HR.out.2.1.trans K4.out, HR.out.2.2.keep K4.out (by simp; omega)⟩⟩
        case measure => omega
    · obtain rfl : i = r' := by omega
      have HU := Lib.hid (HUP.out wr (by have := HR.out.1; rwa [show b + i - i = b from by omega] at this) HR.out.2.2)
      go_wp2_with fail
      refine HU.out.mono ?_
      rintro e w5 ⟨rfl, hg, hk, -⟩
      have G5 := Lib.hid hg
      have K5 := Lib.hid (HR.out.2.1.trans hk)
      clear hg hk
      go_wp2_with fail
      go_end0
      exact ⟨rfl, G5.out, K5.out⟩

end
end Go.Proofs.YticbnckikkdknaaGreatDoor

namespace Go.Proofs.YticbnckikkdknaaGreatDoor
set_option linter.unusedVariables false
set_option linter.unusedSimpArgs false
set_option maxRecDepth 100000
open Go.RowKit

/-- Blocks are given back; one block's turn, of an owner's that wait; all of them. -/
def backH (T G n : Nat) (H : List Int) (b r : Int) : List Int := if runG n b r then (zer H (3 + T + G + b.toNat) r.toNat).set 0 (giveM (H.getD 0 0).toNat b.toNat r.toNat : Int) else H
def turnH (T G n : Nat) (o : Int) (H : List Int) (i : Nat) : List Int := if waitsE (H.getD (3 + T + G + i) 0) o then backH T G n H i (Tb.blkE (H.getD (3 + T + G + i) 0 % 8) (H.getD (3 + T + G + i) 0 / 32 % 4)) else H
def waitH (T G n : Nat) (o : Int) (H : List Int) : Nat → List Int
  | 0 => H
  | i + 1 => turnH T G n o (waitH T G n o H i) i

/-- Back, whatever the block and the run. -/
theorem g_back {T G n p r t : Nat} {H : List Int} {w : World} (h : Hw T G n p r H t w) (ht : t ≤ 800000) (b r' : Int) (d : Nat) (hd : (if runG n b r' then r'.toNat + 1 else 0) = d) :
    Calls Tryz.prog 120 #[.iface 31 (.pointer (some ⟨p, 0, none⟩)), .agg #[.int .i64 T, .int .i64 G, .int .i64 n], .int .i64 b, .int .i64 r'] w fun e w' => e = .returned (.tuple #[]) ∧ Hw T G n p r (backH T G n H b r') (t + d) w' ∧ Kp [p, r] w w' := by
  cases hr : runG n b r'
  · rw [hr] at hd
    obtain rfl : d = 0 := by rw [← hd]; rfl
    unfold backH
    rw [if_neg (by rw [hr]; simp)]
    exact (g_back_no w T G n h.hn b r' _ hr).mono fun e w' ⟨h1, h2⟩ => ⟨h1, h.on h2, h2.mono (by simp)⟩
  · have hr' := runG_iff.1 hr
    obtain ⟨b', rfl⟩ := Int.eq_ofNat_of_zero_le (show 0 ≤ b by omega)
    obtain ⟨r2, rfl⟩ := Int.eq_ofNat_of_zero_le (show 0 ≤ r' by omega)
    obtain rfl : d = r2 + 1 := by rw [← hd, hr]; simp
    unfold backH
    rw [if_pos hr]
    exact g_back_in (by have := (h.ok 0).1; omega) h ht b' r2 (by omega) (by omega) (by omega)

theorem turn_no {T G n : Nat} {o : Int} {H : List Int} {i : Nat} {x : Int} (hx : H.getD (3 + T + G + i) 0 = x) (h : decide (ek x = 4 ∨ ek x = 5) = false) : turnH T G n o H i = H := by
  unfold turnH waitsE
  rw [hx]
  unfold ek at h
  cases ht : Tb.takeE x
  · rfl
  · rw [ht] at h
    simp only [if_true, decide_eq_false_iff_not] at h
    rw [if_neg]
    simp only [Bool.true_and, decide_eq_true_eq]
    exact fun hh => h hh.2
theorem turn_other {T G n : Nat} {o : Int} {H : List Int} {i : Nat} {x : Int} (hx : H.getD (3 + T + G + i) 0 = x) (h : decide (ek x = 4 ∨ ek x = 5) = true) (ho : (eo x == o) = false) : turnH T G n o H i = H := by
  unfold turnH waitsE
  rw [hx]
  unfold eo at ho
  cases ht : Tb.takeE x
  · rfl
  · rw [ht] at ho
    simp only [if_true, beq_eq_false_iff_ne, ne_eq] at ho
    rw [if_neg]
    simp only [Bool.true_and, decide_eq_true_eq]
    exact fun hh => ho hh.1
theorem turn_back {T G n : Nat} {o : Int} {H : List Int} {i : Nat} {x : Int} (hx : H.getD (3 + T + G + i) 0 = x) (h : decide (ek x = 4 ∨ ek x = 5) = true) (ho : (eo x == o) = true) : turnH T G n o H i = backH T G n H i (Tb.blkE (ek x) (er x)) := by
  unfold turnH waitsE
  rw [hx]
  unfold ek at h
  unfold eo at ho
  unfold ek er
  cases ht : Tb.takeE x
  · rw [ht] at h; simp at h
  · rw [ht] at ho h
    simp only [if_true, beq_iff_eq, decide_eq_true_eq] at ho h ⊢
    rw [if_pos (by simp only [Bool.true_and, decide_eq_true_eq]; exact ⟨ho, h⟩)]
theorem er_in {x : Int} (h0 : 0 ≤ x) : 0 ≤ er x ∧ er x ≤ 255 := by
  unfold er; split <;> omega

section
variable {T G n p r t : Nat} {H : List Int} {w w' : World}
/-- What Waiting's region holds on to. -/
def Ws (a T G n b : Nat) (k c r' o : Int) (p r : Nat) (w0 wx : World) : Prop :=
  wx.cell? ⟨a, 0, none⟩ = some (.int .i64 T) ∧ wx.cell? ⟨a, 1, none⟩ = some (.int .i64 G) ∧ wx.cell? ⟨a, 2, none⟩ = some (.int .i64 n) ∧ wx.cell? ⟨b, 0, none⟩ = some (.int .u8 k) ∧ wx.cell? ⟨b, 1, none⟩ = some (.int .u8 c) ∧ wx.cell? ⟨b, 2, none⟩ = some (.int .u8 r') ∧ wx.cell? ⟨b, 3, none⟩ = some (.int .u8 o) ∧ Kp [p, r] w0 wx
theorem ws_of {a b : Nat} {k c r' o : Int} {w0 wx : World} (h : Lx a T G n wx) (hb : wx.heap[b]? = some (.cells (cs4 k c r' o) 110 (0, 0))) (kk : Kp [p, r] w0 wx) : Ws a T G n b k c r' o p r w0 wx :=
  ⟨h.c0, h.c1, h.c2, cell_of_row hb 0, cell_of_row hb 1, cell_of_row hb 2, cell_of_row hb 3, kk⟩
theorem ws_keep {a b : Nat} {k c r' o : Int} {w0 wx wy : World} {S : List Nat} (h : Ws a T G n b k c r' o p r w0 wx) (kk : Kp S wx wy) (hS : ∀ x ∈ S, x = p ∨ x = r) (ha : p ≠ a ∧ r ≠ a ∧ p ≠ b ∧ r ≠ b) : Ws a T G n b k c r' o p r w0 wy := by
  obtain ⟨h0, h1, h2, h3, h4, h5, h6, h7⟩ := h
  have na : a ∉ S := fun e => by rcases hS _ e with e | e <;> omega
  have nb : b ∉ S := fun e => by rcases hS _ e with e | e <;> omega
  exact ⟨kp_cell kk na h0, kp_cell kk na h1, kp_cell kk na h2, kp_cell kk nb h3, kp_cell kk nb h4, kp_cell kk nb h5, kp_cell kk nb h6, h7.trans (kk.mono fun x hx _ => by rcases hS _ hx with e | e <;> simp [e])⟩

set_option maxHeartbeats 4000000 in
theorem g_waiting (h : Hw T G n p r H t w) (ht : t ≤ 700000) (o : Int) (f : FuncId) (cap : Array Value)
    (hen : ∀ (x : Value) (w : World), (callFunc f (#[x] ++ cap)).run Tryz.prog w = .ok (.enter f (#[x] ++ cap)) w)
    (hIs : ∀ (o' : Int) (w' : World), Kp [p, r] w w' → Calls Tryz.prog f (#[.int .u8 o'] ++ cap) w' fun e w2 => e = .returned (.bool (o' == o)) ∧ Kp [] w' w2) :
    Calls Tryz.prog 170 #[.iface 31 (.pointer (some ⟨p, 0, none⟩)), .agg #[.int .i64 T, .int .i64 G, .int .i64 n], .func (.func f) #[] cap] w fun e w' => ∃ t', t ≤ t' ∧ t' ≤ t + 5 * n ∧ e = .returned (.tuple #[]) ∧ Hw T G n p r (waitH T G n o H n) t' w' ∧ Kp [p, r] w w' := by
  have hB := Lib.hid (fun w => Ly.blocks_is T G n w)
  have hfn : ∀ (g : FuncId) (first cap : Array Value) (w : World), (binOp .eql 187 (.func (.func g) first cap) .nilFunc).run Tryz.prog w = .ok (.bool false) w := fun _ _ _ _ => rfl
  have hn := h.hn
  have hpl := h.lt
  have HG := Lib.hid h
  have HI := Lib.hid hIs
  have HT := Lib.hid ht
  have HX : Hid (∀ w1, Kp [] (w.alloc (.cells #[.int .i64 T, .int .i64 G, .int .i64 n] 33)) w1 → Lx w.heap.size T G n w1 ∧ Kp [] w w1) := Lib.hid fun w1 k => ⟨(Lx.new w T G n).keep k (by simp), ((Kp.refl [] w).alloc _).trans k⟩
  clear hIs h
  go_enter Tryz.func170, Tryz.ntmps170
  go_wp2_with fail
  refine (hB.out _).mono ?_
  rintro e w1 ⟨rfl, hk⟩
  have H1 := Lib.hid (HX.out w1 hk)
  clear hk
  go_wp2_with fail
  go_loopg [12] n (fun gg v12 wr => ∃ i : Nat, i + gg = n ∧ v12 = .int .i64 i ∧ Hid (∃ t', t ≤ t' ∧ t' ≤ t + 5 * i ∧ Hw T G n p r (waitH T G n o H i) t' wr ∧ Kp [p, r] w wr ∧ Lx w.heap.size T G n wr))
  case atStart => exact ⟨0, by omega, rfl, Lib.hid ⟨t, by omega, by omega, HG.out.on H1.out.2, H1.out.2.mono (by simp), H1.out.1⟩⟩
  case round =>
    obtain ⟨i, hi, rfl, HR⟩ := hrel
    obtain ⟨t', t0, t1, hg, hkw, hlx⟩ := HR.out
    by_cases hlt : i < n
    · obtain ⟨x, hx⟩ : ∃ x, (waitH T G n o H i).getD (3 + T + G + i) 0 = x := ⟨_, rfl⟩
      have hx0 := hg.ok (3 + T + G + i)
      rw [hx] at hx0
      have h6 := er_in hx0.1
      have HE := Lib.hid (g_entry hg (by have := HT.out; omega) i hlt x hx)
      have HL : Hid (Lx w.heap.size T G n wr) := Lib.hid hlx
      obtain ⟨b0, b1, b2⟩ := HL.out
      have HK := Lib.hid hkw
      obtain ⟨q, hq⟩ : ∃ q, decide (ek x = 4 ∨ ek x = 5) = q := ⟨_, rfl⟩
      obtain ⟨s, hs⟩ : ∃ s, (eo x == o) = s := ⟨_, rfl⟩
      have H7 : Hid (∀ w', Hw T G n p r (waitH T G n o H i) (t' + 1) w' → q = true → s = true → ∃ d, d ≤ 4 ∧ Calls Tryz.prog 120 #[.iface 31 (.pointer (some ⟨p, 0, none⟩)), .agg #[.int .i64 T, .int .i64 G, .int .i64 n], .int .i64 i, .int .i64 (Tb.blkE (ek x) (er x))] w' fun e w2 => e = .returned (.tuple #[]) ∧ Hw T G n p r (waitH T G n o H (i + 1)) (t' + 1 + d) w2 ∧ Kp [p, r] w' w2) := by
        refine Lib.hid fun w' hg' hq' hs' => ?_
        have := g_back hg' (by have := HT.out; omega) i (Tb.blkE (ek x) (er x)) _ rfl
        rw [← turn_back (o := o) hx (hq.trans hq') (hs.trans hs')] at this
        refine ⟨_, ?_, this⟩
        split
        · rename_i hh
          have := runG_iff.1 hh
          omega
        · omega
      have HN1 : Hid (q = false → waitH T G n o H (i + 1) = waitH T G n o H i) := Lib.hid fun hq' => turn_no hx (hq.trans hq')
      have HN2 : Hid (q = true → s = false → waitH T G n o H (i + 1) = waitH T G n o H i) := Lib.hid fun hq' hs' => turn_other hx (hq.trans hq') (hs.trans hs')
      have HWt := Lib.hid (fun w => g_waits (ek x) (ec x) (er x) (eo x) q w hq)
      have HBl := Lib.hid (fun w => Tb.blocks_is (ek x) (ec x) (er x) (eo x) w h6.1 h6.2)
      have HIx := Lib.hid (fun w' hw' => (HI.out (eo x) w' hw'))
      simp only [hs] at HIx
      have HTT := Lib.hid (And.intro t0 t1)
      clear hx0 hq hs hg hkw hlx t0 t1 HR h6 hx
      generalize Tb.blkE (ek x) (er x) = bl at H7 HBl
      generalize ek x = xk at HE HWt HBl
      generalize ec x = xc at HE HWt HBl
      generalize er x = xr at HE HWt HBl
      generalize eo x = xo at HE HWt HBl HIx
      go_wp2_with fail
      refine HE.out.mono ?_
      rintro e w2 ⟨rfl, hg2, hk2⟩
      have G2 := Lib.hid hg2
      have K2 := Lib.hid (HK.out.trans hk2)
      have z0 : w.heap.size < wr.heap.size := World.block_lt_of_cell? _ _ b0
      have z2 := hk2.size
      have kA : Kp [] w2 (w2.alloc (.cells (cs4 xk xc xr xo) 110)) := (Kp.refl _ _).alloc _
      have L3 := Lib.hid ((HL.out.keep hk2 (by simp; omega)).keep kA (by simp))
      have R3 := Lib.hid (heap_alloc_new w2 (.cells (cs4 xk xc xr xo) 110))
      have G3 := Lib.hid (hg2.on kA)
      have K3 := Lib.hid (K2.out.trans (kA.mono (by simp)))
      clear hg2 hk2 kA b0 b1 b2 HL HE
      unfold cs4 at L3 R3 G3 K3
      go_wp2_with fail
      refine (HWt.out _).mono ?_
      rintro e w4 ⟨rfl, hk4⟩
      have hr4 := hk4.row (by simp) R3.out
      have G4 := Lib.hid (G3.out.on hk4)
      have K4 := Lib.hid (K3.out.trans (hk4.mono (by simp)))
      have L4 := Lib.hid (L3.out.keep hk4 (by simp))
      have R4 := Lib.hid hr4
      have c3 : w4.cell? ⟨w2.heap.size, 3, none⟩ = some (.int .u8 xo) := cell_of_row hr4 3
      clear hk4 hr4 L3 R3 G3 K3
      cases q
      · go_wp2_with fail
        go_roundg (n - (i + 1))
        case rel => exact ⟨i + 1, by omega, by go_num, Lib.hid ⟨t' + 1, by have := HTT.out; omega, by have := HTT.out; omega, by rw [HN1.out (by simp)]; exact G4.out, K4.out, L4.out⟩⟩
        case measure => omega
      · go_wp2_with fail
        refine (HIx.out _ K4.out).mono ?_
        rintro e w5 ⟨rfl, hk5⟩
        have hr5 := hk5.row (by simp) R4.out
        have G5 := Lib.hid (G4.out.on hk5)
        have K5 := Lib.hid (K4.out.trans (hk5.mono (by simp)))
        have L5 := Lib.hid (L4.out.keep hk5 (by simp))
        have R5 := Lib.hid hr5
        clear hk5 hr5 c3 L4 R4 G4 K4
        cases s
        · go_wp2_with fail
          go_roundg (n - (i + 1))
          case rel => exact ⟨i + 1, by omega, by go_num, Lib.hid ⟨t' + 1, by have := HTT.out; omega, by have := HTT.out; omega, by rw [HN2.out (by simp) (by simp)]; exact G5.out, K5.out, L5.out⟩⟩
          case measure => omega
        · have HS := Lib.hid (ws_of L5.out R5.out (Kp.refl [p, r] w5))
          have HP : Hid (p ≠ w.heap.size ∧ r ≠ w.heap.size ∧ p ≠ w2.heap.size ∧ r ≠ w2.heap.size) := Lib.hid (by omega)
          go_wp2_with fail
          go_region_held3 (fun wx => wx.cell? ⟨w.heap.size, 0, none⟩ = some (.int .i64 T) ∧ wx.cell? ⟨w.heap.size, 1, none⟩ = some (.int .i64 G) ∧ wx.cell? ⟨w.heap.size, 2, none⟩ = some (.int .i64 n) ∧ wx.cell? ⟨w2.heap.size, 0, none⟩ = some (.int .u8 xk) ∧ wx.cell? ⟨w2.heap.size, 1, none⟩ = some (.int .u8 xc) ∧ wx.cell? ⟨w2.heap.size, 2, none⟩ = some (.int .u8 xr) ∧ wx.cell? ⟨w2.heap.size, 3, none⟩ = some (.int .u8 xo) ∧ Kp [p, r] w5 wx)
            (first
              | assumption
              | exact ws_keep HS.out ((Kp.refl [] _).drew) (by simp) HP.out
              | exact ws_keep ‹Ws w.heap.size T G n w2.heap.size xk xc xr xo p r w5 _› hk9 (by simp) HP.out
              | exact ws_keep ‹Ws w.heap.size T G n w2.heap.size xk xc xr xo p r w5 _› hk8 (by simp) HP.out)
            (first
            | (go_at_call 121; refine (HBl.out _).mono ?_; rintro e w6 ⟨rfl, hk9⟩
               have K6 : Hid (Kp [] w5 w6) := Lib.hid (by refine Kp.trans ?_ hk9; exact ⟨rfl, rfl, rfl, Nat.le_refl _, fun _ _ _ => rfl⟩))
            | (go_at_call 120
               obtain ⟨d, hd, hbk⟩ := H7.out w6 (G5.out.on K6.out) (by simp) (by simp)
               refine hbk.mono ?_
               rintro e w7 ⟨rfl, hg, hk8⟩
               have G7 := Lib.hid hg
               have K7 : Hid (Kp [p, r] w5 w7) := Lib.hid ((K6.out.mono (by simp)).trans hk8)
               clear hg hbk))
          all_goals
            rename_i hHeld
            clear hHeld
            go_wp2_with fail
            go_roundg (n - (i + 1))
            case rel => exact ⟨i + 1, by omega, by go_num, Lib.hid ⟨t' + 1 + d, by have := HTT.out; omega, by have := HTT.out; omega, G7.out, K5.out.trans K7.out, L5.out.keep K7.out (by have := HP.out; simp; omega)⟩⟩
            case measure => omega
    · obtain rfl : i = n := by omega
      have HF := Lib.hid (show ∃ t', t ≤ t' ∧ t' ≤ t + 5 * i ∧ Hw T G i p r (waitH T G i o H i) t' wr ∧ Kp [p, r] w wr from ⟨t', t0, t1, hg, hkw⟩)
      go_wp2_with fail
      obtain ⟨t2, e1, e2, e3, e4⟩ := HF.out
      go_end0
      exact ⟨t2, e1, e2, rfl, e3, e4⟩
end
end Go.Proofs.YticbnckikkdknaaGreatDoor

namespace Go.Proofs.YticbnckikkdknaaGreatDoor.Wd
set_option linter.unusedVariables false
set_option linter.unusedSimpArgs false
open Go

def bitI : Bool → Int | true => 1 | false => 0
theorem bitI_le (b : Bool) : 0 ≤ bitI b ∧ bitI b ≤ 1 := by cases b <;> simp [bitI]

theorem or_put (x p q : Int) (n : Nat) (hn : n ≤ 18) (hq : q = 2 ^ n) (h0 : 0 ≤ x) (h1 : x < q) (hp : 0 ≤ p) (hp2 : p ≤ 255) :
    bits .or .u64 x (IntKind.u64.wrap (p * 2 ^ n)) = x + p * q := by
  subst hq
  obtain ⟨a, rfl⟩ := Int.eq_ofNat_of_zero_le h0
  obtain ⟨b, rfl⟩ := Int.eq_ofNat_of_zero_le hp
  have e : ((b : Int) * 2 ^ n) = ((b * 2 ^ n : Nat) : Int) := by push_cast; rfl
  have hq : (2 : Nat) ^ n ≤ 2 ^ 18 := Nat.pow_le_pow_right (by omega) hn
  have ha : a < 2 ^ n := by exact_mod_cast h1
  have hb : b ≤ 255 := by omega
  have hbq : b * 2 ^ n ≤ 255 * 2 ^ 18 := Nat.mul_le_mul hb hq
  rw [e, IntKind.wrap_u64, Int.emod_eq_of_lt (by omega) (by omega)]
  rw [u64_or_nat _ _ (by omega) (by omega), Nat.or_comm, nat_join n _ _ (by simp) ha]
  push_cast; omega

theorem and_part (x q d : Int) (f n : Nat) (hn : n ≤ 8) (hq : q = 2 ^ n) (hd : d = 2 ^ f) (h0 : 0 ≤ x) (h1 : x < 18446744073709551616) :
    bits .and .u64 (x / 2 ^ f) (IntKind.u64.wrap (IntKind.u64.wrap (2 ^ n) - 1)) = x / d % q := by
  subst hq hd
  obtain ⟨a, rfl⟩ := Int.eq_ofNat_of_zero_le h0
  have e : ((a : Int) / 2 ^ f) = ((a / 2 ^ f : Nat) : Int) := by push_cast; rfl
  have hq : (2 : Nat) ^ n ≤ 2 ^ 8 := Nat.pow_le_pow_right (by omega) hn
  have hq0 : 0 < (2 : Nat) ^ n := Nat.two_pow_pos n
  have e2 : (2 : Int) ^ n = ((2 ^ n : Nat) : Int) := by push_cast; rfl
  have hd : a / 2 ^ f ≤ a := Nat.div_le_self _ _
  rw [e, e2, IntKind.wrap_u64, IntKind.wrap_u64, Int.emod_eq_of_lt (a := ((2 ^ n : Nat) : Int)) (by omega) (by omega), Int.emod_eq_of_lt (by omega) (by omega)]
  have e3 : ((2 ^ n : Nat) : Int) - 1 = ((2 ^ n - 1 : Nat) : Int) := by omega
  rw [e3, u64_and_nat _ _ (by omega) (by omega), Nat.and_two_pow_sub_one_eq_mod]
  push_cast; rfl

theorem part_u8 (x q : Int) (n : Nat) (hn : n ≤ 8) (hq : q = 2 ^ n) : x % q % 256 = x % q := by
  have h1 : (2 : Int) ^ n ≤ 2 ^ 8 := by exact_mod_cast Nat.pow_le_pow_right (n := 2) (by omega) hn
  have h3 : (0 : Int) < 2 ^ n := by exact_mod_cast Nat.two_pow_pos _
  have := Int.emod_lt_of_pos x (b := q) (by omega)
  have := Int.emod_nonneg x (b := q) (by omega)
  omega

/-- May a header be? -/
def mayB (k c o r s : Int) (g m : Bool) : Bool :=
  decide (k ≤ 3 ∧ c ≤ 1 ∧ o ≤ 63 ∧ s ≤ 95 ∧ r ≤ s ∧ (k = 2 → c = 0 ∧ g = false) ∧ (k = 3 → m = false) ∧ (k ≤ 1 → c = 0 ∧ s = 0 ∧ r = 0 ∧ g = false ∧ m = false))
/-- Its word. -/
def wordI (k c o r s : Int) (g m : Bool) : Int := k + c * 4 + bitI g * 8 + bitI m * 16 + o * 32 + r * 2048 + s * 262144
def heqB (k c o r s k' c' o' r' s' : Int) (g m g' m' : Bool) : Bool := decide (k = k' ∧ c = c' ∧ g = g' ∧ m = m' ∧ o = o' ∧ r = r' ∧ s = s')

theorem mayB_iff {k c o r s : Int} {g m : Bool} : mayB k c o r s g m = true ↔ (k ≤ 3 ∧ c ≤ 1 ∧ o ≤ 63 ∧ s ≤ 95 ∧ r ≤ s ∧ (k = 2 → c = 0 ∧ g = false) ∧ (k = 3 → m = false) ∧ (k ≤ 1 → c = 0 ∧ s = 0 ∧ r = 0 ∧ g = false ∧ m = false)) := by
  simp only [mayB, decide_eq_true_eq]
theorem mayB_false {k c o r s : Int} {g m : Bool} (h : ¬ (k ≤ 3 ∧ c ≤ 1 ∧ o ≤ 63 ∧ s ≤ 95 ∧ r ≤ s)) : mayB k c o r s g m = false := by
  simp only [mayB, decide_eq_false_iff_not]; intro h'; exact h ⟨h'.1, h'.2.1, h'.2.2.1, h'.2.2.2.1, h'.2.2.2.2.1⟩

/-- The header of a word's bits. -/
def takeB (x : Int) : Bool := decide (x < 33554432) && mayB (x % 4) (x / 4 % 2) (x / 32 % 64) (x / 2048 % 128) (x / 262144 % 128) (x / 8 % 2 == 1) (x / 16 % 2 == 1)

theorem bitI_beq (x : Int) : bitI (x % 2 == 1) = x % 2 := by
  by_cases h : x % 2 = 1
  · simp [h, bitI]
  · have : x % 2 = 0 := by omega
    simp [this, bitI]
theorem word_of_parts (x : Int) : wordI (x % 4) (x / 4 % 2) (x / 32 % 64) (x / 2048 % 128) (x / 262144 % 128) (x / 8 % 2 == 1) (x / 16 % 2 == 1) = x % 33554432 := by
  simp only [wordI, bitI_beq]; omega
theorem takeB_word (x : Int) (h0 : 0 ≤ x) (h : takeB x = true) : wordI (x % 4) (x / 4 % 2) (x / 32 % 64) (x / 2048 % 128) (x / 262144 % 128) (x / 8 % 2 == 1) (x / 16 % 2 == 1) = x := by
  simp only [takeB, Bool.and_eq_true, decide_eq_true_eq] at h
  rw [word_of_parts x]; omega
theorem bitI_one (b : Bool) : (bitI b == 1) = b := by cases b <;> simp [bitI]
theorem word_lt (k c o r s : Int) (g m : Bool) (hk : 0 ≤ k) (hc : 0 ≤ c) (ho : 0 ≤ o) (hr : 0 ≤ r) (hs : 0 ≤ s) (h : mayB k c o r s g m = true) : 0 ≤ wordI k c o r s g m ∧ wordI k c o r s g m < 33554432 := by
  have h' := mayB_iff.1 h
  have h1 := bitI_le g
  have h2 := bitI_le m
  unfold wordI
  omega
theorem parts_of_word (k c o r s : Int) (g m : Bool) (hk : 0 ≤ k) (hc : 0 ≤ c) (ho : 0 ≤ o) (hr : 0 ≤ r) (hs : 0 ≤ s) (h : mayB k c o r s g m = true) :
    wordI k c o r s g m % 4 = k ∧ wordI k c o r s g m / 4 % 2 = c ∧ wordI k c o r s g m / 32 % 64 = o ∧ wordI k c o r s g m / 2048 % 128 = r ∧ wordI k c o r s g m / 262144 % 128 = s ∧
      (wordI k c o r s g m / 8 % 2 == 1) = g ∧ (wordI k c o r s g m / 16 % 2 == 1) = m := by
  have h' := mayB_iff.1 h
  have h1 := bitI_le g
  have h2 := bitI_le m
  have e1 : wordI k c o r s g m / 8 % 2 = bitI g := by unfold wordI; omega
  have e2 : wordI k c o r s g m / 16 % 2 = bitI m := by unfold wordI; omega
  refine ⟨by unfold wordI; omega, by unfold wordI; omega, by unfold wordI; omega, by unfold wordI; omega, by unfold wordI; omega, by rw [e1, bitI_one], by rw [e2, bitI_one]⟩
theorem heq_listed (c o r s : Int) (g m : Bool) (h1 : c ≤ 1) (h2 : o < 64) (h3 : s ≤ 95) (h4 : r ≤ s) : heqB 1 c o r s 1 0 o 0 0 g m false false = mayB 1 c o r s g m := by
  rw [Bool.eq_iff_iff, mayB_iff]; simp only [heqB, decide_eq_true_eq]
  cases g <;> cases m <;> first | omega | (simp; done) | (simp; omega)
theorem heq_local (c o r s : Int) (g m : Bool) (h1 : c ≤ 1) (h2 : o < 64) (h3 : s ≤ 95) (h4 : r ≤ s) : heqB 2 c o r s 2 0 o r s g m false m = mayB 2 c o r s g m := by
  rw [Bool.eq_iff_iff, mayB_iff]; simp only [heqB, decide_eq_true_eq]
  cases g <;> cases m <;> first | omega | (simp; done) | (simp; omega)
theorem heq_global (c o r s : Int) (g m : Bool) (h1 : c ≤ 1) (h2 : o < 64) (h3 : s ≤ 95) (h4 : r ≤ s) : heqB 3 c o r s 3 c o r s g m g false = mayB 3 c o r s g m := by
  rw [Bool.eq_iff_iff, mayB_iff]; simp only [heqB, decide_eq_true_eq]
  cases g <;> cases m <;> first | omega | (simp; done) | (simp; omega)
theorem heq_none (k c o r s : Int) (g m : Bool) (hk : 0 ≤ k) (h1 : c ≤ 1) (h2 : o < 64) (h3 : s ≤ 95) (h4 : r ≤ s) (k1 : k ≠ 1) (k2 : k ≠ 2) (k3 : k ≠ 3) : heqB k c o r s 0 0 o 0 0 g m false false = mayB k c o r s g m := by
  rw [Bool.eq_iff_iff, mayB_iff]; simp only [heqB, decide_eq_true_eq]
  cases g <;> cases m <;> first | omega | (simp; done) | (simp; omega)

end Go.Proofs.YticbnckikkdknaaGreatDoor.Wd

namespace Go.Proofs.YticbnckikkdknaaGreatDoor.Wd
set_option linter.unusedVariables false
set_option linter.unusedSimpArgs false
open Go.RowKit

theorem eq28 (k c o r s k' c' o' r' s' : Int) (g m g' m' : Bool) (w : World) :
    (binOp .eql 59 (.agg #[.int .u8 k, .int .u8 c, .bool g, .bool m, .int .u8 o, .int .u8 r, .int .u8 s]) (.agg #[.int .u8 k', .int .u8 c', .bool g', .bool m', .int .u8 o', .int .u8 r', .int .u8 s'])).run Tryz.prog w = .ok (.bool (heqB k c o r s k' c' o' r' s' g m g' m')) w := by
  by_cases h1 : k = k'
  case neg => simp [go_sem, heqB, *]
  by_cases h2 : c = c'
  case neg => simp [go_sem, heqB, *]
  by_cases h3 : g = g'
  case neg => simp [go_sem, heqB, *]
  by_cases h4 : m = m'
  case neg => simp [go_sem, heqB, *]
  by_cases h5 : o = o'
  case neg => simp [go_sem, heqB, *]
  by_cases h6 : r = r'
  case neg => simp [go_sem, heqB, *]
  by_cases h7 : s = s'
  case neg => simp [go_sem, heqB, *]
  simp [go_sem, heqB, *]

theorem put_any (p t x q y : Int) (b : Nat) (w : World) (hp : 0 ≤ p) (hp2 : p ≤ 255) (ht : 0 ≤ t) (ht2 : t ≤ 18) (hq : q = 2 ^ t.toNat) (hx : 0 ≤ x) (hxq : x < q) (hy : x + p * q = y) (hc : w.cell? ⟨b, 0, none⟩ = some (.int .u64 x)) (hf : w.frozen? ⟨b, 0, none⟩ = false) :
    Calls Tryz.prog 139 #[.int .u8 p, .int .i64 t, .pointer (some ⟨b, 0, none⟩)] w fun e w' => e = .returned (.tuple #[]) ∧ (w.setCell ⟨b, 0, none⟩ (.int .u64 y)).drew = w' := by
  have hh := or_put x p q t.toNat (by omega) hq hx hxq hp hp2
  rw [hy] at hh
  clear hq hy
  go_enter Tryz.func139, Tryz.ntmps139
  go_wp2
  go_region
  go_end0
  exact ⟨rfl, rfl⟩

theorem part_any (f t x q d : Int) (b : Nat) (w : World) (h0 : 0 ≤ f) (h1 : f < t) (h2 : t - f ≤ 8) (ht2 : t ≤ 25) (hq : q = 2 ^ (t - f).toNat) (hd : d = 2 ^ f.toNat) (hx : 0 ≤ x) (hx2 : x < 18446744073709551616) (hc : w.cell? ⟨b, 0, none⟩ = some (.int .u64 x)) :
    Calls Tryz.prog 71 #[.int .i64 f, .int .i64 t, .pointer (some ⟨b, 0, none⟩)] w fun e w' => e = .returned (.int .u8 (x / d % q)) ∧ w.drew = w' := by
  have hh := and_part x q d f.toNat (t - f).toNat (by omega) hq hd hx hx2
  have hm := part_u8 (x / d) q (t - f).toNat (by omega) hq
  clear hq hd hx2
  go_enter Tryz.func71, Tryz.ntmps71
  go_wp2
  go_region
  go_wp2
  go_ret
  exact ⟨rfl, rfl⟩

theorem bit_any (b : Bool) (w : World) :
    Calls Tryz.prog 140 #[.bool b] w fun e w' => e = .returned (.int .u8 (bitI b)) ∧ w = w' := by
  cases b <;> (go_enter Tryz.func140, Tryz.ntmps140; go_wp2; go_ret; exact ⟨rfl, rfl⟩)

theorem proper_local (c o r s : Int) (g m : Bool) (w : World) :
    Calls Tryz.prog 72 #[.agg #[.int .u8 2, .int .u8 c, .bool g, .bool m, .int .u8 o, .int .u8 r, .int .u8 s]] w fun e w' => e = .returned (.agg #[.int .u8 2, .int .u8 0, .bool false, .bool m, .int .u8 o, .int .u8 r, .int .u8 s]) ∧ Below w.heap.size w w' := by
  go_enter Tryz.func72, Tryz.ntmps72
  go_wp2
  go_returns
  exact ⟨rfl, by go_grown⟩

theorem proper_global (c o r s : Int) (g m : Bool) (w : World) :
    Calls Tryz.prog 72 #[.agg #[.int .u8 3, .int .u8 c, .bool g, .bool m, .int .u8 o, .int .u8 r, .int .u8 s]] w fun e w' => e = .returned (.agg #[.int .u8 3, .int .u8 c, .bool g, .bool false, .int .u8 o, .int .u8 r, .int .u8 s]) ∧ Below w.heap.size w w' := by
  go_enter Tryz.func72, Tryz.ntmps72
  go_wp2
  go_returns
  exact ⟨rfl, by go_grown⟩

theorem proper_listed (c o r s : Int) (g m : Bool) (w : World) :
    Calls Tryz.prog 72 #[.agg #[.int .u8 1, .int .u8 c, .bool g, .bool m, .int .u8 o, .int .u8 r, .int .u8 s]] w fun e w' => e = .returned (.agg #[.int .u8 1, .int .u8 0, .bool false, .bool false, .int .u8 o, .int .u8 0, .int .u8 0]) ∧ Below w.heap.size w w' := by
  go_enter Tryz.func72, Tryz.ntmps72
  go_wp2
  go_returns
  exact ⟨rfl, by go_grown⟩

theorem proper_none (k c o r s : Int) (g m : Bool) (w : World) (h1 : (k == 1) = false) (h2 : (k == 2) = false) (h3 : (k == 3) = false) :
    Calls Tryz.prog 72 #[.agg #[.int .u8 k, .int .u8 c, .bool g, .bool m, .int .u8 o, .int .u8 r, .int .u8 s]] w fun e w' => e = .returned (.agg #[.int .u8 0, .int .u8 0, .bool false, .bool false, .int .u8 o, .int .u8 0, .int .u8 0]) ∧ Below w.heap.size w w' := by
  go_enter Tryz.func72, Tryz.ntmps72
  go_wp2
  go_returns
  exact ⟨rfl, by go_grown⟩

set_option maxHeartbeats 1000000 in
theorem may_core (k c o r s k' c' o' r' s' : Int) (g m g' m' : Bool) (w : World) (h1 : c ≤ 1) (h2 : o < 64) (h3 : s ≤ 95) (h4 : r ≤ s)
    (hprop : Hid (∀ w, Calls Tryz.prog 72 #[.agg #[.int .u8 k, .int .u8 c, .bool g, .bool m, .int .u8 o, .int .u8 r, .int .u8 s]] w fun e w' => e = .returned (.agg #[.int .u8 k', .int .u8 c', .bool g', .bool m', .int .u8 o', .int .u8 r', .int .u8 s']) ∧ Below w.heap.size w w')) :
    Calls Tryz.prog 39 #[.agg #[.int .u8 k, .int .u8 c, .bool g, .bool m, .int .u8 o, .int .u8 r, .int .u8 s]] w fun e w' => e = .returned (.bool (heqB k c o r s k' c' o' r' s' g m g' m')) ∧ Below w.heap.size w w' := by
  have heq := eq28 k c o r s k' c' o' r' s' g m g' m'
  go_enter Tryz.func39, Tryz.ntmps39
  go_wp2
  go_region_held3 (fun w' => w'.cell? ⟨w.heap.size, 0, none⟩ = some (.int .u8 k) ∧ w'.cell? ⟨w.heap.size, 1, none⟩ = some (.int .u8 c) ∧ w'.cell? ⟨w.heap.size, 2, none⟩ = some (.bool g) ∧ w'.cell? ⟨w.heap.size, 3, none⟩ = some (.bool m) ∧
      w'.cell? ⟨w.heap.size, 4, none⟩ = some (.int .u8 o) ∧ w'.cell? ⟨w.heap.size, 5, none⟩ = some (.int .u8 r) ∧ w'.cell? ⟨w.heap.size, 6, none⟩ = some (.int .u8 s) ∧ Below w.heap.size w w' ∧ w.heap.size < w'.heap.size)
    (first
      | exact ⟨by simp, by simp, by simp, by simp, by simp, by simp, by simp, by go_grown, by simp⟩
      | (obtain ⟨s0, s1, s2, s3, s4, s5, s6, s7, s8⟩ := ‹_ ∧ _›
         exact ⟨(hc _ _ s8).trans s0, (hc _ _ s8).trans s1, (hc _ _ s8).trans s2, (hc _ _ s8).trans s3, (hc _ _ s8).trans s4, (hc _ _ s8).trans s5, (hc _ _ s8).trans s6, s7.trans (hb.mono (Nat.le_of_lt s8)), Nat.lt_of_lt_of_le s8 hb.size⟩))
    (first | (go_at_call 72; refine (hprop.out _).mono ?_; rintro e w' ⟨rfl, hb⟩; obtain ⟨hc, hf⟩ := bcell hb))
  obtain ⟨_, _, _, _, _, _, _, bel, _⟩ := ‹_ ∧ _›
  clear hb hc hf
  go_wp2
  go_ret
  exact ⟨rfl, bel⟩

theorem may_short (k c o r s : Int) (g m : Bool) (w : World) (h : ¬ (c ≤ 1 ∧ o < 64 ∧ s ≤ 95 ∧ r ≤ s)) :
    Calls Tryz.prog 39 #[.agg #[.int .u8 k, .int .u8 c, .bool g, .bool m, .int .u8 o, .int .u8 r, .int .u8 s]] w fun e w' => e = .returned (.bool false) ∧ Below w.heap.size w w' := by
  by_cases h1 : c ≤ 1
  · by_cases h2 : o < 64
    · by_cases h3 : s ≤ 95
      · have h4 : ¬ r ≤ s := fun h4 => h ⟨h1, h2, h3, h4⟩
        have hd : decide (r ≤ s) = false := by simpa using h4
        clear h
        go_enter Tryz.func39, Tryz.ntmps39
        go_wp2
        go_quiet (fail)
        go_wp2
        go_ret
        exact ⟨rfl, below_draws (by go_grown) _⟩
      · have hd : decide (s ≤ 95) = false := by simpa using h3
        clear h
        go_enter Tryz.func39, Tryz.ntmps39
        go_wp2
        go_quiet (fail)
        go_wp2
        go_ret
        exact ⟨rfl, below_draws (by go_grown) _⟩
    · have hd : decide (o < 64) = false := by simpa using h2
      clear h
      go_enter Tryz.func39, Tryz.ntmps39
      go_wp2
      go_quiet (fail)
      go_wp2
      go_ret
      exact ⟨rfl, below_draws (by go_grown) _⟩
  · have hd : decide (c ≤ 1) = false := by simpa using h1
    clear h
    go_enter Tryz.func39, Tryz.ntmps39
    go_wp2
    go_quiet (fail)
    go_wp2
    go_ret
    exact ⟨rfl, below_draws (by go_grown) _⟩

theorem may_any (k c o r s : Int) (g m : Bool) (w : World) (hk : 0 ≤ k) (hr : 0 ≤ r) :
    Calls Tryz.prog 39 #[.agg #[.int .u8 k, .int .u8 c, .bool g, .bool m, .int .u8 o, .int .u8 r, .int .u8 s]] w fun e w' => e = .returned (.bool (mayB k c o r s g m)) ∧ Below w.heap.size w w' := by
  by_cases h : c ≤ 1 ∧ o < 64 ∧ s ≤ 95 ∧ r ≤ s
  · obtain ⟨h1, h2, h3, h4⟩ := h
    by_cases k1 : k = 1
    · subst k1
      refine (may_core 1 c o r s 1 0 o 0 0 g m false false w h1 h2 h3 h4 (fun w => proper_listed c o r s g m w)).mono fun e w' ⟨he, hb⟩ => ⟨?_, hb⟩
      rw [he, heq_listed c o r s g m h1 h2 h3 h4]
    by_cases k2 : k = 2
    · subst k2
      refine (may_core 2 c o r s 2 0 o r s g m false m w h1 h2 h3 h4 (fun w => proper_local c o r s g m w)).mono fun e w' ⟨he, hb⟩ => ⟨?_, hb⟩
      rw [he, heq_local c o r s g m h1 h2 h3 h4]
    by_cases k3 : k = 3
    · subst k3
      refine (may_core 3 c o r s 3 c o r s g m g false w h1 h2 h3 h4 (fun w => proper_global c o r s g m w)).mono fun e w' ⟨he, hb⟩ => ⟨?_, hb⟩
      rw [he, heq_global c o r s g m h1 h2 h3 h4]
    refine (may_core k c o r s 0 0 o 0 0 g m false false w h1 h2 h3 h4 (fun w => proper_none k c o r s g m w (by simpa using k1) (by simpa using k2) (by simpa using k3))).mono fun e w' ⟨he, hb⟩ => ⟨?_, hb⟩
    rw [he, heq_none k c o r s g m hk h1 h2 h3 h4 k1 k2 k3]
  · refine (may_short k c o r s g m w h).mono fun e w' ⟨he, hb⟩ => ⟨?_, hb⟩
    rw [he, mayB_false (by omega)]

end Go.Proofs.YticbnckikkdknaaGreatDoor.Wd

namespace Go.Proofs.YticbnckikkdknaaGreatDoor.Wd
set_option linter.unusedVariables false
set_option linter.unusedSimpArgs false
open Go.RowKit

set_option maxHeartbeats 1000000 in
theorem pack_any (k c o r s : Int) (g m : Bool) (w : World) (hk : 0 ≤ k) (hc : 0 ≤ c) (ho : 0 ≤ o) (hr : 0 ≤ r) (hs : 0 ≤ s) (h : mayB k c o r s g m = true) :
    Calls Tryz.prog 103 #[.agg #[.int .u8 k, .int .u8 c, .bool g, .bool m, .int .u8 o, .int .u8 r, .int .u8 s]] w fun e w' => e = .returned (.int .u64 (wordI k c o r s g m)) ∧ Below w.heap.size w w' := by
  obtain ⟨b1, b2, b3, b4, b5, _⟩ := mayB_iff.1 h
  have g1 := bitI_le g
  have g2 := bitI_le m
  have hw : wordI k c o r s g m = k + c * 4 + bitI g * 8 + bitI m * 16 + o * 32 + r * 2048 + s * 262144 := rfl
  clear h
  go_enter Tryz.func103, Tryz.ntmps103
  go_wp2_with fail
  refine (put_any k 0 0 1 k (w.heap.size + 1) _ (by omega) (by omega) (by omega) (by omega) (by decide) (by omega) (by omega) (by omega) (by simp) (by simp)).mono ?_; rintro e w' ⟨rfl, rfl⟩
  go_wp2_with fail
  refine (put_any c 2 k 4 (k + c * 4) (w.heap.size + 1) _ (by omega) (by omega) (by omega) (by omega) (by decide) (by omega) (by omega) (by omega) (by simp) (by simp)).mono ?_; rintro e w' ⟨rfl, rfl⟩
  go_wp2_with fail
  refine (bit_any g _).mono ?_; rintro e w' ⟨rfl, rfl⟩
  go_wp2_with fail
  refine (put_any (bitI g) 3 (k + c * 4) 8 (k + c * 4 + bitI g * 8) (w.heap.size + 1) _ (by omega) (by omega) (by omega) (by omega) (by decide) (by omega) (by omega) (by omega) (by simp) (by simp)).mono ?_; rintro e w' ⟨rfl, rfl⟩
  go_wp2_with fail
  refine (bit_any m _).mono ?_; rintro e w' ⟨rfl, rfl⟩
  go_wp2_with fail
  refine (put_any (bitI m) 4 (k + c * 4 + bitI g * 8) 16 (k + c * 4 + bitI g * 8 + bitI m * 16) (w.heap.size + 1) _ (by omega) (by omega) (by omega) (by omega) (by decide) (by omega) (by omega) (by omega) (by simp) (by simp)).mono ?_; rintro e w' ⟨rfl, rfl⟩
  go_wp2_with fail
  refine (put_any o 5 (k + c * 4 + bitI g * 8 + bitI m * 16) 32 (k + c * 4 + bitI g * 8 + bitI m * 16 + o * 32) (w.heap.size + 1) _ (by omega) (by omega) (by omega) (by omega) (by decide) (by omega) (by omega) (by omega) (by simp) (by simp)).mono ?_; rintro e w' ⟨rfl, rfl⟩
  go_wp2_with fail
  refine (put_any r 11 (k + c * 4 + bitI g * 8 + bitI m * 16 + o * 32) 2048 (k + c * 4 + bitI g * 8 + bitI m * 16 + o * 32 + r * 2048) (w.heap.size + 1) _ (by omega) (by omega) (by omega) (by omega) (by decide) (by omega) (by omega) (by omega) (by simp) (by simp)).mono ?_; rintro e w' ⟨rfl, rfl⟩
  go_wp2_with fail
  refine (put_any s 18 (k + c * 4 + bitI g * 8 + bitI m * 16 + o * 32 + r * 2048) 262144 (wordI k c o r s g m) (w.heap.size + 1) _ (by omega) (by omega) (by omega) (by omega) (by decide) (by omega) (by omega) (by omega) (by simp) (by simp)).mono ?_; rintro e w' ⟨rfl, rfl⟩
  clear hw
  go_wp2
  go_ret
  exact ⟨rfl, by go_grown⟩

end Go.Proofs.YticbnckikkdknaaGreatDoor.Wd

namespace Go.Proofs.YticbnckikkdknaaGreatDoor.Wd
set_option linter.unusedVariables false
set_option linter.unusedSimpArgs false
open Go.RowKit

theorem put_yes (k c o r s : Int) (g m : Bool) (w : World) (hk : 0 ≤ k) (hc : 0 ≤ c) (ho : 0 ≤ o) (hr : 0 ≤ r) (hs : 0 ≤ s) (h : mayB k c o r s g m = true) :
    Calls Tryz.prog 65 #[.agg #[.int .u8 k, .int .u8 c, .bool g, .bool m, .int .u8 o, .int .u8 r, .int .u8 s]] w fun e w' => e = .returned (.tuple #[.int .u64 (wordI k c o r s g m), .int .i64 0]) ∧ Below w.heap.size w w' := by
  go_enter Tryz.func65, Tryz.ntmps65
  go_wp2_with fail
  refine (may_any k c o r s g m _ hk hr).mono ?_; rintro e w1 ⟨rfl, hb⟩
  obtain ⟨hc1, hf1⟩ := bcell hb
  go_wp2_with fail
  refine (pack_any k c o r s g m _ hk hc ho hr hs h).mono ?_; rintro e w2 ⟨rfl, hb2⟩
  have bel : Below w.heap.size w w2 := (((Below.refl _ _).alloc (Nat.le_refl _) _).trans (hb.mono (by simp))).trans (hb2.mono (by have := hb.size; simp at this; omega))
  clear hb hb2 hc1 hf1
  go_wp2
  go_ret2
  exact ⟨rfl, bel⟩

set_option maxHeartbeats 1000000 in
theorem unpack_any (x : Int) (w : World) (h0 : 0 ≤ x) (h1 : x < 18446744073709551616) :
    Calls Tryz.prog 38 #[.int .u64 x] w fun e w' => e = .returned (.agg #[.int .u8 (x % 4), .int .u8 (x / 4 % 2), .bool (x / 8 % 2 == 1), .bool (x / 16 % 2 == 1), .int .u8 (x / 32 % 64), .int .u8 (x / 2048 % 128), .int .u8 (x / 262144 % 128)]) ∧ Below w.heap.size w w' := by
  have H1 := Lib.hid h1
  clear h1
  go_enter Tryz.func38, Tryz.ntmps38
  go_wp2_with fail
  refine (part_any 0 2 x 4 1 w.heap.size _ (by omega) (by omega) (by omega) (by omega) (by decide) (by decide) h0 H1.out (by simp)).mono ?_; rintro e w' ⟨rfl, rfl⟩
  go_wp2_with fail
  refine (part_any 2 3 x 2 4 w.heap.size _ (by omega) (by omega) (by omega) (by omega) (by decide) (by decide) h0 H1.out (by simp)).mono ?_; rintro e w' ⟨rfl, rfl⟩
  go_wp2_with fail
  refine (part_any 3 4 x 2 8 w.heap.size _ (by omega) (by omega) (by omega) (by omega) (by decide) (by decide) h0 H1.out (by simp)).mono ?_; rintro e w' ⟨rfl, rfl⟩
  go_wp2_with fail
  refine (part_any 4 5 x 2 16 w.heap.size _ (by omega) (by omega) (by omega) (by omega) (by decide) (by decide) h0 H1.out (by simp)).mono ?_; rintro e w' ⟨rfl, rfl⟩
  go_wp2_with fail
  refine (part_any 5 11 x 64 32 w.heap.size _ (by omega) (by omega) (by omega) (by omega) (by decide) (by decide) h0 H1.out (by simp)).mono ?_; rintro e w' ⟨rfl, rfl⟩
  go_wp2_with fail
  refine (part_any 11 18 x 128 2048 w.heap.size _ (by omega) (by omega) (by omega) (by omega) (by decide) (by decide) h0 H1.out (by simp)).mono ?_; rintro e w' ⟨rfl, rfl⟩
  go_wp2_with fail
  refine (part_any 18 25 x 128 262144 w.heap.size _ (by omega) (by omega) (by omega) (by omega) (by decide) (by decide) h0 H1.out (by simp)).mono ?_; rintro e w' ⟨rfl, rfl⟩
  go_wp2
  go_returns
  exact ⟨rfl, by go_grown⟩

end Go.Proofs.YticbnckikkdknaaGreatDoor.Wd

namespace Go.Proofs.YticbnckikkdknaaGreatDoor.Wd
set_option linter.unusedVariables false
set_option linter.unusedSimpArgs false
open Go.RowKit

theorem take_high (x : Int) (w : World) (h0 : 0 ≤ x) (h1 : x < 18446744073709551616) (h : 33554432 ≤ x) :
    Calls Tryz.prog 14 #[.int .u64 x] w fun e w' => e = .returned (.tuple #[.agg #[.int .u8 0, .int .u8 0, .bool false, .bool false, .int .u8 0, .int .u8 0, .int .u8 0], .int .i64 3]) ∧ Below w.heap.size w w' := by
  have H1 := Lib.hid h1
  clear h1
  have hne : (x / 33554432 != 0) = true := by simp; omega
  clear h
  go_enter Tryz.func14, Tryz.ntmps14
  go_wp2_with fail
  refine (unpack_any x _ h0 H1.out).mono ?_; rintro e w1 ⟨rfl, hb⟩
  have blk := Lib.hid (below_row hb (by simp) (heap_alloc_new w _))
  have bel := Lib.hid (((Below.refl w.heap.size w).alloc (Nat.le_refl _) _).trans (hb.mono (by simp)))
  have hz : w.heap.size < w1.heap.size := by have := hb.size; simp at this; omega
  clear hb
  go_wp2_with (refine wpList_store_row rfl 59 _ _ rfl w.heap.size _ rfl rfl 59 _ ((Below.heap_alloc _ _ _ hz).trans blk.out) (by kernel_rfl) rfl (by simp [Value.oneCell']) ?_)
  exact bodyPost_row_tmp rfl w.heap.size 59 _ (0, 0) _ (.int .i64 3) rfl rfl rfl (setRow_heap _ _ _ _ _ _ ((Below.heap_alloc _ _ _ hz).trans blk.out)) Tryz.underlying59 rfl (by kernel_rfl)
    ⟨rfl, below_setRow (bel.out.alloc (Nat.le_of_lt hz) _) (Nat.le_refl _) _⟩

theorem take_no (x : Int) (w : World) (h0 : 0 ≤ x) (h : x < 33554432) (hm : mayB (x % 4) (x / 4 % 2) (x / 32 % 64) (x / 2048 % 128) (x / 262144 % 128) (x / 8 % 2 == 1) (x / 16 % 2 == 1) = false) :
    Calls Tryz.prog 14 #[.int .u64 x] w fun e w' => e = .returned (.tuple #[.agg #[.int .u8 0, .int .u8 0, .bool false, .bool false, .int .u8 0, .int .u8 0, .int .u8 0], .int .i64 3]) ∧ Below w.heap.size w w' := by
  have hne : (x / 33554432 != 0) = false := by simp; omega
  have hk : 0 ≤ x % 4 := by omega
  have hr : 0 ≤ x / 2048 % 128 := by omega
  have hx : x < 18446744073709551616 := by omega
  have H1 := Lib.hid hx
  clear hx h
  go_enter Tryz.func14, Tryz.ntmps14
  go_wp2_with fail
  refine (unpack_any x _ h0 H1.out).mono ?_; rintro e w1 ⟨rfl, hb⟩
  have blk := Lib.hid (below_row hb (by simp) (heap_alloc_new w _))
  have bel := Lib.hid (((Below.refl w.heap.size w).alloc (Nat.le_refl _) _).trans (hb.mono (by simp)))
  have hz : w.heap.size < w1.heap.size := by have := hb.size; simp at this; omega
  clear hb
  go_wp2_with fail
  refine (may_any _ _ _ _ _ _ _ _ hk hr).mono ?_; rintro e w2 ⟨rfl, hb⟩
  have blk2 := Lib.hid ((below_row hb (by simp; omega) ((Below.heap_alloc _ _ _ hz).trans blk.out)))
  have bel2 := Lib.hid ((bel.out.alloc (Nat.le_of_lt hz) _).trans (hb.mono (by simp; omega)))
  clear hb
  go_wp2_with (refine wpList_store_row rfl 59 _ _ rfl w.heap.size _ rfl rfl 59 _ blk2.out (by kernel_rfl) rfl (by simp [Value.oneCell']) ?_)
  exact bodyPost_row_tmp rfl w.heap.size 59 _ (0, 0) _ (.int .i64 3) rfl rfl rfl (setRow_heap _ _ _ _ _ _ blk2.out) Tryz.underlying59 rfl (by kernel_rfl)
    ⟨rfl, below_setRow bel2.out (Nat.le_refl _) _⟩

theorem take_yes (x : Int) (w : World) (h0 : 0 ≤ x) (h : x < 33554432) (hm : mayB (x % 4) (x / 4 % 2) (x / 32 % 64) (x / 2048 % 128) (x / 262144 % 128) (x / 8 % 2 == 1) (x / 16 % 2 == 1) = true) :
    Calls Tryz.prog 14 #[.int .u64 x] w fun e w' => e = .returned (.tuple #[.agg #[.int .u8 (x % 4), .int .u8 (x / 4 % 2), .bool (x / 8 % 2 == 1), .bool (x / 16 % 2 == 1), .int .u8 (x / 32 % 64), .int .u8 (x / 2048 % 128), .int .u8 (x / 262144 % 128)], .int .i64 0]) ∧ Below w.heap.size w w' := by
  have hne : (x / 33554432 != 0) = false := by simp; omega
  have hk : 0 ≤ x % 4 := by omega
  have hr : 0 ≤ x / 2048 % 128 := by omega
  have hx : x < 18446744073709551616 := by omega
  have H1 := Lib.hid hx
  clear hx h
  go_enter Tryz.func14, Tryz.ntmps14
  go_wp2_with fail
  refine (unpack_any x _ h0 H1.out).mono ?_; rintro e w1 ⟨rfl, hb⟩
  have blk := Lib.hid (below_row hb (by simp) (heap_alloc_new w _))
  have bel := Lib.hid (((Below.refl w.heap.size w).alloc (Nat.le_refl _) _).trans (hb.mono (by simp)))
  have hz : w.heap.size < w1.heap.size := by have := hb.size; simp at this; omega
  clear hb
  go_wp2_with fail
  refine (may_any _ _ _ _ _ _ _ _ hk hr).mono ?_; rintro e w2 ⟨rfl, hb⟩
  obtain ⟨hc1, hf1⟩ := bcell hb
  have blk2 := Lib.hid ((below_row hb (by simp; omega) ((Below.heap_alloc _ _ _ hz).trans blk.out)))
  have bel2 := Lib.hid ((bel.out.alloc (Nat.le_of_lt hz) _).trans (hb.mono (by simp; omega)))
  clear hb
  go_wp2_with (refine wpList_store_row rfl 59 _ _ rfl w.heap.size _ rfl rfl 59 _ blk2.out (by kernel_rfl) rfl (by simp [Value.oneCell']) ?_)
  exact bodyPost_row_tmp rfl w.heap.size 59 _ (0, 0) _ (.int .i64 0) rfl rfl rfl (setRow_heap _ _ _ _ _ _ blk2.out) Tryz.underlying59 rfl (by kernel_rfl)
    ⟨rfl, below_setRow bel2.out (Nat.le_refl _) _⟩

end Go.Proofs.YticbnckikkdknaaGreatDoor.Wd

namespace Go.Proofs.YticbnckikkdknaaGreatDoor.Wd
set_option linter.unusedVariables false
set_option linter.unusedSimpArgs false
open Go.RowKit

theorem ret_u64 {a b : Int} (h : a = b) : Ending.returned (.int .u64 a) = .returned (.int .u64 b) := by rw [h]
theorem ret_bool {a b : Bool} (h : a = b) : Ending.returned (.bool a) = .returned (.bool b) := by rw [h]

theorem rword_any (k c o r s : Int) (g m : Bool) (w : World) (hk : 0 ≤ k) (hc : 0 ≤ c) (ho : 0 ≤ o) (hr : 0 ≤ r) (hs : 0 ≤ s) (hk1 : k ≤ 255) (hc1 : c ≤ 255) (ho1 : o ≤ 255) (hr1 : r ≤ 255) (hs1 : s ≤ 255) :
    Calls Tryz.prog 30 #[.agg #[.int .u8 k, .int .u8 c, .bool g, .bool m, .int .u8 o, .int .u8 r, .int .u8 s]] w fun e w' => e = .returned (.int .u64 (wordI k c o r s g m)) ∧ Below w.heap.size w w' := by
  cases g <;> cases m <;> (
    go_enter Tryz.func30, Tryz.ntmps30
    go_wp2
    go_ret
    exact ⟨ret_u64 (by simp only [wordI, bitI]; omega), by go_grown⟩)

set_option maxHeartbeats 1000000 in
theorem rmay_any (k c o r s : Int) (g m : Bool) (w : World) (hr : 0 ≤ r) :
    Calls Tryz.prog 61 #[.agg #[.int .u8 k, .int .u8 c, .bool g, .bool m, .int .u8 o, .int .u8 r, .int .u8 s]] w fun e w' => e = .returned (.bool (mayB k c o r s g m)) ∧ Below w.heap.size w w' := by
  go_enter Tryz.func61, Tryz.ntmps61
  go_wp2
  all_goals go_ret
  all_goals (refine ⟨ret_bool ?_, by go_grown⟩)
  all_goals (rw [eq_comm]; first
    | exact mayB_false (by omega)
    | (rw [Bool.eq_iff_iff, mayB_iff]; cases g <;> cases m <;> first | omega | (simp_all; done) | (simp_all; omega)))

end Go.Proofs.YticbnckikkdknaaGreatDoor.Wd
