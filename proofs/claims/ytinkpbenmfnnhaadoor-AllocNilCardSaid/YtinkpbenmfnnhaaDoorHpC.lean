/- The walks of package give, on: Entry. Conditions: as each theorem states them. -/
import Derived.Test.YtinkpbenmfnnhaaDoorHpAB
import Derived.Deep.CutBlock
import Derived.Deep.CutRange
import Derived.Deep.DeepCutAuto
namespace Go.Proofs.YtinkpbenmfnnhaaDoor
set_option linter.unusedVariables false
set_option linter.unusedSimpArgs false
open Go.RowKit

section
variable {T G n p r t : Nat} {H : List Int} {w w' : World}
/-- An entry's four cells. -/
def cs4 (k c r o : Int) : Array Value := #[.int .u8 k, .int .u8 c, .int .u8 r, .int .u8 o]
/-- What is known once the entry lies in a box of its own. -/
structure PE (w0 : World) (T G n p r : Nat) (H : List Int) (t : Nat) (b : Nat) (k c r' o : Int) (wc : World) : Prop where
  gw : Hw T G n p r H t wc
  kp : Kp [p, r] w0 wc
  hb : wc.heap[b]? = some (.cells (cs4 k c r' o) 84 (0, 0))
  ho : wc.heap[w0.heap.size + 1]? = some (.cells (cs4 0 0 0 0) 84 (0, 0))
  ge : w0.heap.size + 2 ≤ b
def put4 (w : World) (b : Nat) (k c r o : Int) : World := (((w.setCell ⟨b, 0, none⟩ (.int .u8 k)).setCell ⟨b, 1, none⟩ (.int .u8 c)).setCell ⟨b, 2, none⟩ (.int .u8 r)).setCell ⟨b, 3, none⟩ (.int .u8 o)
theorem put4_kp (w : World) (b : Nat) (k c r o : Int) : Kp [b] w (put4 w b k c r o) := ((((Kp.refl [b] w).setCell (.inl (by simp)) _).setCell (.inl (by simp)) _).setCell (.inl (by simp)) _).setCell (.inl (by simp)) _
theorem put4_row {w : World} {b : Nat} {k0 c0 r0 o0 : Int} (k c r o : Int) {T : TypeId} (h : w.heap[b]? = some (.cells (cs4 k0 c0 r0 o0) T (0, 0))) : (put4 w b k c r o).heap[b]? = some (.cells (cs4 k c r o) T (0, 0)) := by
  unfold put4
  rw [heap_setCell_same _ _ _ _ _ _ (heap_setCell_same _ _ _ _ _ _ (heap_setCell_same _ _ _ _ _ _ (heap_setCell_same _ _ _ _ _ _ h)))]
  rfl
theorem Kp.new_set {S : List Nat} {w w1 w2 : World} {b : Nat} (h : Kp S w w1) (k : Kp [b] w1 w2) (hb : w.heap.size ≤ b) : Kp S w w2 :=
  ⟨k.os.trans h.os, k.tape.trans h.tape, k.output.trans h.output, Nat.le_trans h.size k.size, fun i hi hn => (k.block i (Nat.lt_of_lt_of_le hi h.size) (by simp; omega)).trans (h.block i hi hn)⟩
theorem PE.make1 {w0 w4 : World} {k c r' o : Int} (hg : Hw T G n p r H t w4) (hk : Kp [p, r] w0 w4) (ho : w4.heap[w0.heap.size + 1]? = some (.cells (cs4 0 0 0 0) 84 (0, 0))) :
    PE w0 T G n p r H t w4.heap.size k c r' o (w4.alloc (.cells (cs4 k c r' o) 84)) :=
  ⟨hg.on ((Kp.refl _ _).alloc _), hk.alloc _, heap_alloc_new _ _, ((Kp.refl [] w4).alloc _).row (by simp) ho, lt_of_block ho⟩
theorem PE.make2 {w0 w4 : World} {k c r' o : Int} {b : Nat} (hg : Hw T G n p r H t w4) (hk : Kp [p, r] w0 w4) (hp : p < w0.heap.size ∧ r < w0.heap.size) (ho : w4.heap[w0.heap.size + 1]? = some (.cells (cs4 0 0 0 0) 84 (0, 0))) (hb : w4.heap[b]? = some (.cells (cs4 0 0 0 0) 84 (0, 0))) (hge : w0.heap.size + 2 ≤ b) :
    PE w0 T G n p r H t b k c r' o (put4 w4 b k c r' o) :=
  ⟨hg.keep (put4_kp _ _ _ _ _ _) (by simp; omega) (by simp; omega), hk.new_set (put4_kp _ _ _ _ _ _) (by omega), put4_row _ _ _ _ hb, (put4_kp _ _ _ _ _ _).row (by simp; omega) ho, hge⟩

set_option maxRecDepth 100000 in
set_option maxHeartbeats 16000000 in
theorem g_entry (h : Hw T G n p r H t w) (ht : t ≤ 900000) (k : Nat) (hk : k < n) (x : Int) (hx : H.getD (3 + T + G + k) 0 = x) :
    Calls Tryd.prog 44 #[.iface 27 (.pointer (some ⟨p, 0, none⟩)), .agg #[.int .i64 T, .int .i64 G, .int .i64 n], .int .i64 k] w fun e w' => e = .returned (.agg #[.int .u8 (ek x), .int .u8 (ec x), .int .u8 (er x), .int .u8 (eo x)]) ∧ Hw T G n p r H (t + 1) w' ∧ Kp [p, r] w w' := by
  have hhas := Lib.hid (fun w => g_has T G n k 1 w h.hn)
  rw [show runG n k 1 = true from runG_iff.2 (by omega)] at hhas
  have hen := Lib.hid (fun w => entry_at (T := T) (G := G) (n := n) k w h.hT h.hG h.hn hk)
  have hx01 := h.ok (3 + T + G + k)
  rw [hx] at hx01
  have htk := Lib.hid (fun w => take_part x w hx01.1 hx01.2)
  have K0 := Lib.hid (((Kp.refl [] w).alloc (.cells #[.int .i64 T, .int .i64 G, .int .i64 n] 29)).alloc (.cells #[.int .u8 0, .int .u8 0, .int .u8 0, .int .u8 0] 84))
  have HG := Lib.hid h
  have HRD := Lib.hid (fun (w' : World) (hw : Kp [] w w') => rd_word (h.on hw) ht (3 + T + G + k) (by have := h.len; omega) ((3 + T + G + k : Nat) : Int) x rfl hx)
  have hpl := h.lt
  have HX : Hid (∀ w', Kp [] ((w.alloc (.cells #[.int .i64 T, .int .i64 G, .int .i64 n] 29)).alloc (.cells #[.int .u8 0, .int .u8 0, .int .u8 0, .int .u8 0] 84)) w' → Lx w.heap.size T G n w' ∧ w'.heap[w.heap.size + 1]? = some (.cells #[.int .u8 0, .int .u8 0, .int .u8 0, .int .u8 0] 84 (0, 0))) :=
    Lib.hid fun w' hk => ⟨((Lx.new w T G n).keep ((Kp.refl [] _).alloc _) (by simp)).keep hk (by simp), hk.row (by simp) (by rw [show w.heap.size + 1 = (w.alloc (.cells #[.int .i64 T, .int .i64 G, .int .i64 n] 29)).heap.size from (World.size_alloc _ _).symm]; exact heap_alloc_new _ _)⟩
  clear hx01 hx
  have hna := na_read
  generalize ek x = xk at htk ⊢
  generalize ec x = xc at htk ⊢
  generalize er x = xr at htk ⊢
  generalize eo x = xo at htk ⊢
  go_enter Tryd.func44, Tryd.ntmps44
  go_wp2_with fail
  refine (hhas.out _).mono ?_
  rintro e w1 ⟨rfl, hk1⟩
  have X1 := HX.out w1 hk1
  have K1 := Lib.hid (K0.out.trans hk1)
  have hc := X1.1
  obtain ⟨a0, a1, a2⟩ := hc
  have R1 := Lib.hid X1.2
  have X1' := Lib.hid X1.1
  have hz1 := hk1.size
  clear X1 hk1
  have z1 : w.heap.size + 2 ≤ w1.heap.size := by have := hz1; simpa [World.size_alloc] using this
  have z1a : w.heap.size < w1.heap.size := by omega
  have z1b : ¬ w.heap.size = w1.heap.size := by omega
  have b0 : (w1.alloc (.cells #[.int .u8 0, .int .u8 0, .int .u8 0, .int .u8 0] 84)).cell? ⟨w.heap.size, 0, none⟩ = some (.int .i64 T) := (X1'.out.keep ((Kp.refl [] w1).alloc _) (by simp)).c0
  have b1 : (w1.alloc (.cells #[.int .u8 0, .int .u8 0, .int .u8 0, .int .u8 0] 84)).cell? ⟨w.heap.size, 1, none⟩ = some (.int .i64 G) := (X1'.out.keep ((Kp.refl [] w1).alloc _) (by simp)).c1
  have b2 : (w1.alloc (.cells #[.int .u8 0, .int .u8 0, .int .u8 0, .int .u8 0] 84)).cell? ⟨w.heap.size, 2, none⟩ = some (.int .i64 n) := (X1'.out.keep ((Kp.refl [] w1).alloc _) (by simp)).c2
  go_upto_region 3 with (fail)
  go_cut [7] (fun v7 wc => ∃ b, v7 = .pointer (some ⟨b, 0, none⟩) ∧ Hid (PE w T G n p r H (t + 1) b xk xc xr xo wc))
  case first =>
    go_region_with (first
      | (go_at_call 41; refine (hen.out _).mono ?_; rintro e w2 ⟨rfl, hk⟩
         try replace hk := hk.drew_l
         try have B7 := hk.row (by simp) (heap_alloc_new _ _)
         have K2 : Hid (Kp [] w1 w2) := Lib.hid (by refine Kp.trans ?_ hk; first | exact ⟨rfl, rfl, rfl, Nat.le_refl _, fun _ _ _ => rfl⟩ | exact Kp.alloc ⟨rfl, rfl, rfl, Nat.le_refl _, fun _ _ _ => rfl⟩ _)
         have z2 : w1.heap.size ≤ w2.heap.size := K2.out.size
         clear hk)
      | (go_at_call 106
         refine (HRD.out _ (K1.out.trans (K2.out.trans ?_))).mono ?_
         · first | exact ⟨rfl, rfl, rfl, Nat.le_refl _, fun _ _ _ => rfl⟩ | exact Kp.alloc ⟨rfl, rfl, rfl, Nat.le_refl _, fun _ _ _ => rfl⟩ _
         rintro e w3 ⟨rfl, hg, hk⟩
         try have B7 := hk.row (by simp; omega) B7
         try have B7 := hk.row (by simp; omega) (heap_alloc_new _ _)
         have G3 := Lib.hid hg
         have K3 : Hid (Kp [p, r] w1 w3) := Lib.hid (by refine (K2.out.mono (by simp)).trans (Kp.trans ?_ hk); first | exact ⟨rfl, rfl, rfl, Nat.le_refl _, fun _ _ _ => rfl⟩ | exact Kp.alloc ⟨rfl, rfl, rfl, Nat.le_refl _, fun _ _ _ => rfl⟩ _)
         have z3 : w1.heap.size ≤ w3.heap.size := K3.out.size
         clear hg hk)
      | (go_at_call 59; refine (htk.out _).mono ?_; rintro e w4 ⟨rfl, hk⟩
         try have B7 := hk.row (by simp) B7
         try have B7 := hk.row (by simp) (heap_alloc_new _ _)
         try have e70 := (cell_of_row B7 0).trans (show _ = some (.int .u8 0) from rfl)
         try have e71 := (cell_of_row B7 1).trans (show _ = some (.int .u8 0) from rfl)
         try have e72 := (cell_of_row B7 2).trans (show _ = some (.int .u8 0) from rfl)
         try have e73 := (cell_of_row B7 3).trans (show _ = some (.int .u8 0) from rfl)
         try have f70 := free_of_row B7 0
         try have f71 := free_of_row B7 1
         try have f72 := free_of_row B7 2
         try have f73 := free_of_row B7 3
         have K4 : Hid (Kp [p, r] w1 w4) := Lib.hid (by refine K3.out.trans (Kp.trans ?_ (hk.mono (by simp))); first | exact ⟨rfl, rfl, rfl, Nat.le_refl _, fun _ _ _ => rfl⟩ | exact Kp.alloc ⟨rfl, rfl, rfl, Nat.le_refl _, fun _ _ _ => rfl⟩ _)
         have G4 : Hid (Hw T G n p r H (t + 1) w4) := Lib.hid (by refine G3.out.on (Kp.trans ?_ hk); first | exact ⟨rfl, rfl, rfl, Nat.le_refl _, fun _ _ _ => rfl⟩ | exact Kp.alloc ⟨rfl, rfl, rfl, Nat.le_refl _, fun _ _ _ => rfl⟩ _)
         clear hk))
    all_goals go_wp2_with fail
    all_goals go_meet
    all_goals
      have KK : Kp [p, r] w w4 := (K1.out.mono (by simp)).trans K4.out
      have B6 := K4.out.row (by simp; omega) R1.out
      first
        | exact ⟨_, rfl, Lib.hid (PE.make1 G4.out KK B6)⟩
        | exact ⟨_, rfl, Lib.hid (PE.make2 G4.out KK hpl B6 B7 (by omega))⟩
  case rest =>
    obtain ⟨b, rfl, HM⟩ := hcut
    have c0 := (cell_of_row HM.out.hb 0).trans (show _ = some (.int .u8 xk) from rfl)
    have c1 := (cell_of_row HM.out.hb 1).trans (show _ = some (.int .u8 xc) from rfl)
    have c2 := (cell_of_row HM.out.hb 2).trans (show _ = some (.int .u8 xr) from rfl)
    have c3 := (cell_of_row HM.out.hb 3).trans (show _ = some (.int .u8 xo) from rfl)
    have d0 := (cell_of_row HM.out.ho 0).trans (show _ = some (.int .u8 0) from rfl)
    have d1 := (cell_of_row HM.out.ho 1).trans (show _ = some (.int .u8 0) from rfl)
    have d2 := (cell_of_row HM.out.ho 2).trans (show _ = some (.int .u8 0) from rfl)
    have d3 := (cell_of_row HM.out.ho 3).trans (show _ = some (.int .u8 0) from rfl)
    have f0 := free_of_row HM.out.ho 0
    have f1 := free_of_row HM.out.ho 1
    have f2 := free_of_row HM.out.ho 2
    have f3 := free_of_row HM.out.ho 3
    go_wp2_with fail
    exact bodyPost_row rfl (w.heap.size + 1) 84 (cs4 xk xc xr xo) (0, 0) _ rfl rfl (put4_row xk xc xr xo HM.out.ho) Tryd.underlying84 rfl (by kernel_rfl) ⟨rfl, HM.out.gw.keep (put4_kp _ _ _ _ _ _) (by simp; omega) (by simp; omega), HM.out.kp.new_set (put4_kp _ _ _ _ _ _) (by omega)⟩

end
end Go.Proofs.YtinkpbenmfnnhaaDoor
