/- The walks of package give, on: Set, Claim. Conditions: as each theorem states them. -/
import Derived.Test.YtinkpbenmfnnhaaDoorHpAB
import Derived.Deep.CutBlock
import Derived.Deep.CutRange
import Derived.Deep.DeepCutAuto
namespace Go.Proofs.YtinkpbenmfnnhaaDoor
set_option linter.unusedVariables false
set_option linter.unusedSimpArgs false
open Go.RowKit

section
variable {T G n p r t : Nat} {H : List Int} {w w' : World}
theorem kp_new_set {S : List Nat} {w w1 w2 : World} {b : Nat} (h : Kp S w w1) (k : Kp [b] w1 w2) (hb : w.heap.size ≤ b) : Kp S w w2 :=
  ⟨k.os.trans h.os, k.tape.trans h.tape, k.output.trans h.output, Nat.le_trans h.size k.size, fun i hi hn => (k.block i (Nat.lt_of_lt_of_le hi h.size) (by simp; omega)).trans (h.block i hi hn)⟩
/-- The boxes of Set's layout and entry. -/
theorem set_boxes (w : World) (T G n : Nat) (k c r' o : Int) (w1 : World) (hk : Kp [] ((w.alloc (.cells #[.int .i64 T, .int .i64 G, .int .i64 n] 29)).alloc (.cells #[.int .u8 k, .int .u8 c, .int .u8 r', .int .u8 o] 84)) w1) : Lx w.heap.size T G n w1 ∧ Kp [] w w1 :=
  ⟨((Lx.new w T G n).keep ((Kp.refl [] _).alloc _) (by simp)).keep hk (by simp), (((Kp.refl [] w).alloc _).alloc _).trans hk⟩

theorem g_set_no (w : World) (m : Value) (T G n : Nat) (b k c r' o : Int) (hk : 0 ≤ k) (hc : 0 ≤ c) (hr : 0 ≤ r') (ho : 0 ≤ o) (p : Addr) (hm : Tb.mayE k c r' o = false) :
    Calls Tryd.prog 29 #[.iface 27 (.pointer (some p)), .agg #[.int .i64 T, .int .i64 G, .int .i64 n], .int .i64 b, .agg #[.int .u8 k, .int .u8 c, .int .u8 r', .int .u8 o]] w fun e w' => e = .returned (.tuple #[]) ∧ Kp [] w w' := by
  have hp := Lib.hid (fun w => Tb.put_no k c r' o w hk hc hr ho hm)
  have K0 := Lib.hid (((Kp.refl [] w).alloc (.cells #[.int .i64 T, .int .i64 G, .int .i64 n] 29)).alloc (.cells #[.int .u8 k, .int .u8 c, .int .u8 r', .int .u8 o] 84))
  clear hm
  go_enter Tryd.func29, Tryd.ntmps29
  go_wp2_with fail
  refine (hp.out _).mono ?_
  rintro e w1 ⟨rfl, hk1⟩
  have K1 := Lib.hid (K0.out.trans hk1)
  clear hk1
  go_wp2
  exact bodyPost_ret (results_none Tryd.results29 _ _ _) rfl ⟨rfl, K1.out⟩

theorem g_set_out (w : World) (T G n : Nat) (hn : n ≤ 64) (b k c r' o : Int) (hk : 0 ≤ k) (hc : 0 ≤ c) (hr : 0 ≤ r') (ho : 0 ≤ o) (p : Addr) (hm : Tb.mayE k c r' o = true) (hb : ¬ (0 ≤ b ∧ b < n)) :
    Calls Tryd.prog 29 #[.iface 27 (.pointer (some p)), .agg #[.int .i64 T, .int .i64 G, .int .i64 n], .int .i64 b, .agg #[.int .u8 k, .int .u8 c, .int .u8 r', .int .u8 o]] w fun e w' => e = .returned (.tuple #[]) ∧ Kp [] w w' := by
  have hp := Lib.hid (fun w => Tb.put_yes k c r' o w hk hc hr ho hm)
  have hhas := Lib.hid (fun w => g_has T G n b 1 w hn)
  rw [show runG n b 1 = false from runG_not.2 (by omega)] at hhas
  have HB := Lib.hid (set_boxes w T G n k c r' o)
  clear hm hb
  generalize Tb.wordE k c r' o = x at hp
  go_enter Tryd.func29, Tryd.ntmps29
  go_wp2_with fail
  refine (hp.out _).mono ?_
  rintro e w1 ⟨rfl, hk1⟩
  obtain ⟨⟨a0, a1, a2⟩, k1⟩ := HB.out w1 hk1
  have K1 := Lib.hid k1
  clear hk1 k1
  go_wp2_with fail
  refine (hhas.out _).mono ?_
  rintro e w2 ⟨rfl, hk2⟩
  have K2 := Lib.hid (K1.out.trans hk2)
  clear hk2
  go_wp2
  exact bodyPost_ret (results_none Tryd.results29 _ _ _) rfl ⟨rfl, K2.out⟩

set_option maxRecDepth 100000 in
set_option maxHeartbeats 2000000 in
theorem g_set_in (h : Hw T G n p r H t w) (ht : t ≤ 900000) (b : Nat) (hb : b < n) (k c r' o : Int) (hk : 0 ≤ k) (hc : 0 ≤ c) (hr : 0 ≤ r') (ho : 0 ≤ o) (hm : Tb.mayE k c r' o = true) :
    Calls Tryd.prog 29 #[.iface 27 (.pointer (some ⟨p, 0, none⟩)), .agg #[.int .i64 T, .int .i64 G, .int .i64 n], .int .i64 b, .agg #[.int .u8 k, .int .u8 c, .int .u8 r', .int .u8 o]] w fun e w' => e = .returned (.tuple #[]) ∧ Hw T G n p r (H.set (3 + T + G + b) (Tb.wordE k c r' o)) (t + 1) w' ∧ Kp [p, r] w w' := by
  have hp := Lib.hid (fun w => Tb.put_yes k c r' o w hk hc hr ho hm)
  have hhas := Lib.hid (fun w => g_has T G n b 1 w h.hn)
  rw [show runG n b 1 = true from runG_iff.2 (by omega)] at hhas
  have hen := Lib.hid (fun w => entry_at (T := T) (G := G) (n := n) b w h.hT h.hG h.hn hb)
  have hw := Tb.wordE_lt hk hc hr ho hm
  have HWR := Lib.hid (fun (w' : World) (hw' : Kp [] w w') => wr_word (h.on hw') ht (3 + T + G + b) (by have := h.len; omega) ((3 + T + G + b : Nat) : Int) (Tb.wordE k c r' o) rfl hw.1 (Int.lt_trans hw.2 (by decide)))
  have HB := Lib.hid (set_boxes w T G n k c r' o)
  clear hm hw
  generalize Tb.wordE k c r' o = x at hp HWR ⊢
  have hna := na_write
  go_enter Tryd.func29, Tryd.ntmps29
  go_wp2_with fail
  refine (hp.out _).mono ?_
  rintro e w1 ⟨rfl, hk1⟩
  obtain ⟨⟨a0, a1, a2⟩, k1⟩ := HB.out w1 hk1
  have K1 := Lib.hid k1
  have X1 := Lib.hid (HB.out w1 hk1).1
  clear hk1 k1
  go_wp2_with fail
  refine (hhas.out _).mono ?_
  rintro e w2 ⟨rfl, hk2⟩
  have K2 := Lib.hid (K1.out.trans hk2)
  obtain ⟨b0, b1, b2⟩ := X1.out.keep hk2 (by simp)
  clear hk2
  go_wp2
  go_region_with (first
    | (go_at_call 41; refine (hen.out _).mono ?_; rintro e w3 ⟨rfl, hk⟩
       have K3 : Hid (Kp [] w w3) := Lib.hid (by refine K2.out.trans (Kp.trans ?_ hk); exact ⟨rfl, rfl, rfl, Nat.le_refl _, fun _ _ _ => rfl⟩)
       clear hk)
    | (go_at_call 108
       refine (HWR.out _ (K3.out.trans ?_)).mono ?_
       · exact ⟨rfl, rfl, rfl, Nat.le_refl _, fun _ _ _ => rfl⟩
       rintro e w4 ⟨rfl, hg, hk⟩
       have G4 := Lib.hid hg
       have K4 : Hid (Kp [p, r] w w4) := Lib.hid (by refine (K3.out.mono (by simp)).trans (Kp.trans ?_ hk); exact ⟨rfl, rfl, rfl, Nat.le_refl _, fun _ _ _ => rfl⟩)
       clear hg hk))
  all_goals
    go_wp2
    go_end0
    exact ⟨rfl, G4.out, K4.out⟩

/-- What Find and Take answer. -/
theorem find_claims {M M' : Nat} {r' a : Int} {q : Bool} (hc : Claims M r' a q M') (hM : M < 18446744073709551616) (h1 : 1 ≤ r') (h3 : r' ≤ 3) (w : World) :
    Calls Tryd.prog 67 #[.int .u64 M, .int .i64 r'] w fun e w' => e = .returned (.tuple #[.int .i64 a, .bool q]) ∧ Kp [] w w' := by
  obtain ⟨m, rfl⟩ := Int.eq_ofNat_of_zero_le (show 0 ≤ r' by omega)
  refine Bm.find_walk M m w hM (by omega) (by omega) a q ?_ ?_
  · rintro k ⟨hk1, hk2, hk3⟩
    have hkr : Bm.isR M k m true = true := by simp only [Bm.isR, Bool.and_eq_true, decide_eq_true_eq]; exact ⟨by omega, by simpa using hk2⟩
    rcases hc with ⟨k', _, hf, ha, hq, _⟩ | ⟨hno, _⟩
    · have hk' := hf.1
      simp only [Bm.isR, Bool.and_eq_true, decide_eq_true_eq, Int.toNat_natCast] at hk'
      rcases Nat.lt_trichotomy k k' with hl | hl | hl
      · rw [hf.2 k hl] at hkr; simp at hkr
      · subst hl; exact ⟨ha, hq⟩
      · have := hk3 k' hl
        rw [hk'.2] at this; simp at this
    · rw [hno k] at hkr; simp at hkr
  · intro hno
    rcases hc with ⟨k', _, hf, ha, hq, _⟩ | ⟨_, ha, hq, _⟩
    · have hk' := hf.1
      simp only [Bm.isR, Bool.and_eq_true, decide_eq_true_eq, Int.toNat_natCast] at hk'
      have := hno k' (by omega)
      rw [hk'.2] at this; simp at this
    · exact ⟨ha, hq⟩
theorem take_claims {M M' : Nat} {r' a : Int} {q : Bool} (hc : Claims M r' a q M') (hM : M < 18446744073709551616) (w : World) :
    Calls Tryd.prog 68 #[.int .u64 M, .int .i64 a, .int .i64 r'] w fun e w' => e = .returned (.tuple #[.int .u64 M', .bool q]) ∧ w = w' := by
  rcases hc with ⟨k', _, hf, ha, hq, hM'⟩ | ⟨hno, ha, hq, hM'⟩
  · rw [ha, hq]
    exact Bm.take_is M k' r' M' true w hM hf.1 (by rw [hM']; simp)
  · rw [ha, hq]
    exact Bm.take_is M 0 r' M' false w hM (hno 0) (by rw [hM']; simp)

/-- What a claim's closure does. -/
theorem cl_claim {M M' : Nat} {r' a : Int} {q : Bool} (hc : Claims M r' a q M') (hM : M < 18446744073709551616) (h1 : 1 ≤ r') (h3 : r' ≤ 3) (b1 b2 b3 : Nat) (x : Int) (y : Bool) (w : World)
    (c1 : w.heap[b1]? = some (.cells #[.int .i64 r'] 3 (0, 0))) (c2 : w.heap[b2]? = some (.cells #[.int .i64 x] 3 (0, 0))) (c3 : w.heap[b3]? = some (.cells #[.bool y] 4 (0, 0))) (n12 : b1 ≠ b2) (n13 : b1 ≠ b3) (n23 : b2 ≠ b3) :
    Calls Tryd.prog 66 #[.int .u64 M, .pointer (some ⟨b1, 0, none⟩), .pointer (some ⟨b2, 0, none⟩), .pointer (some ⟨b3, 0, none⟩)] w fun e w' => e = .returned (.int .u64 M') ∧ Kp [b2, b3] w w' ∧ w'.heap[b2]? = some (.cells #[.int .i64 a] 3 (0, 0)) ∧ w'.heap[b3]? = some (.cells #[.bool q] 4 (0, 0)) := by
  have hf := Lib.hid (find_claims hc hM h1 h3)
  have hta := Lib.hid (take_claims hc hM)
  clear hc
  have e1 : w.cell? ⟨b1, 0, none⟩ = some (.int .i64 r') := cell_of_row c1 0
  have C := Lib.hid (And.intro c1 (And.intro c2 c3))
  have NE := Lib.hid (And.intro n12 (And.intro n13 n23))
  clear c1 c2 c3
  go_enter Tryd.func66, Tryd.ntmps66
  go_wp2_with fail
  refine (hf.out _).mono ?_
  rintro e w1 ⟨rfl, hk⟩
  have d1 := hk.row (by simp) C.out.1
  have d2 := hk.row (by simp) C.out.2.1
  have d3 := hk.row (by simp) C.out.2.2
  have K1 := Lib.hid hk
  clear hk
  have e2 : w1.cell? ⟨b2, 0, none⟩ = some (.int .i64 x) := cell_of_row d2 0
  have f2 := free_of_row d2 0
  have k2 : Kp [b2, b3] w1 (w1.setCell ⟨b2, 0, none⟩ (.int .i64 a)) := (Kp.refl _ _).setCell (.inl (by simp)) _
  have D2 : (w1.setCell ⟨b2, 0, none⟩ (.int .i64 a)).heap[b2]? = some (.cells #[.int .i64 a] 3 (0, 0)) := by rw [heap_setCell_same _ _ _ _ _ _ d2]; rfl
  have D1 : (w1.setCell ⟨b2, 0, none⟩ (.int .i64 a)).heap[b1]? = some (.cells #[.int .i64 r'] 3 (0, 0)) := by rw [heap_setCell_other _ _ _ _ (by exact n12), d1]
  have D3 : (w1.setCell ⟨b2, 0, none⟩ (.int .i64 a)).heap[b3]? = some (.cells #[.bool y] 4 (0, 0)) := by rw [heap_setCell_other _ _ _ _ (by exact n23.symm), d3]
  have HD := Lib.hid (And.intro D1 (And.intro D2 D3))
  have K2 := Lib.hid ((K1.out.mono (by simp)).trans k2)
  clear d1 d2 d3 D1 D2 D3 k2
  go_upto_region 2 with (fail)
  obtain ⟨w2, hw2⟩ : ∃ w2, w2 = w1.setCell ⟨b2, 0, none⟩ (.int .i64 a) := ⟨_, rfl⟩
  rw [← hw2] at HD K2 ⊢
  clear hw2 e2 f2
  have g1 : w2.cell? ⟨b1, 0, none⟩ = some (.int .i64 r') := cell_of_row HD.out.1 0
  have g2 : w2.cell? ⟨b2, 0, none⟩ = some (.int .i64 a) := cell_of_row HD.out.2.1 0
  have g3 : w2.cell? ⟨b3, 0, none⟩ = some (.bool y) := cell_of_row HD.out.2.2 0
  have f3 := free_of_row HD.out.2.2 0
  go_wp2_with fail
  refine (hta.out _).mono ?_
  rintro e w3 ⟨rfl, rfl⟩
  go_wp2
  go_ret
  refine ⟨rfl, K2.out.trans ((Kp.refl _ _).setCell (.inl (by simp)) _), ?_, ?_⟩
  · rw [heap_setCell_other _ _ _ _ (by exact NE.out.2.2), HD.out.2.1]
  · rw [heap_setCell_same _ _ _ _ _ _ HD.out.2.2]; rfl
theorem results_cell2 {fn : Func} {p u : Tmp} {ty tz : TypeId} (h : fn.results = #[.cell p ty, .cell u tz]) (tmps : Array Value) (P : Program) (w : World) (a b : Addr) (x y : Value) (hp : tmps.getD p undef = .pointer (some a)) (hu : tmps.getD u undef = .pointer (some b)) (hx : (loadVar ty a).run P w = .ok x w) (hy : (loadVar tz b).run P w = .ok y w) :
    (results fn tmps).run P w = .ok (.tuple #[x, y]) w := by
  rw [Array.getD_eq_getD_getElem?] at hp hu
  simp only [results, h]
  simp [Sem.run_bind, Result.andThen, hp, hu, asAddr, hx, hy]
theorem bodyPost_cell2 {P : Program} {fn : Func} {R : Ending → World → Prop} {a : Act} {w : World} {p u : Tmp} {ty tz : TypeId} (h : fn.results = #[.cell p ty, .cell u tz]) (b c : Addr) (x y : Value) (hp : a.tmps.getD p undef = .pointer (some b)) (hu : a.tmps.getD u undef = .pointer (some c)) (hx : (loadVar ty b).run P w = .ok x w) (hy : (loadVar tz c).run P w = .ok y w) (hdef : a.defers = []) (hR : R (.returned (.tuple #[x, y])) w) : bodyPost P fn R .ret a w :=
  bodyPost_ret (results_cell2 h a.tmps P w b c x y hp hu hx hy) hdef hR
theorem load_int {w : World} {b : Nat} {x : Int} (h : w.heap[b]? = some (.cells #[.int .i64 x] 3 (0, 0))) : (loadVar 3 ⟨b, 0, none⟩).run Tryd.prog w = .ok (.int .i64 x) w := by
  have e : w.cell? ⟨b, 0, none⟩ = some (.int .i64 x) := cell_of_row h 0
  simp [go_sem, e]
theorem load_bool {w : World} {b : Nat} {x : Bool} (h : w.heap[b]? = some (.cells #[.bool x] 4 (0, 0))) : (loadVar 4 ⟨b, 0, none⟩).run Tryd.prog w = .ok (.bool x) w := by
  have e : w.cell? ⟨b, 0, none⟩ = some (.bool x) := cell_of_row h 0
  simp [go_sem, e]

/-- The boxes of Claim: the layout's, the run's, the answers'. -/
def cw (w : World) (T G n : Nat) (r' : Int) : World := (((w.alloc (.cells #[.int .i64 T, .int .i64 G, .int .i64 n] 29)).alloc (.cells #[.int .i64 r'] 3)).alloc (.cells #[.int .i64 0] 3)).alloc (.cells #[.bool false] 4)
theorem cw_kp (w : World) (T G n : Nat) (r' : Int) : Kp [] w (cw w T G n r') := ((((Kp.refl [] w).alloc _).alloc _).alloc _).alloc _
theorem cw_rows (w : World) (T G n : Nat) (r' : Int) : (cw w T G n r').heap[w.heap.size + 1]? = some (.cells #[.int .i64 r'] 3 (0, 0)) ∧ (cw w T G n r').heap[w.heap.size + 2]? = some (.cells #[.int .i64 0] 3 (0, 0)) ∧ (cw w T G n r').heap[w.heap.size + 3]? = some (.cells #[.bool false] 4 (0, 0)) := by
  have z1 := World.size_alloc w (.cells #[.int .i64 T, .int .i64 G, .int .i64 n] 29)
  have z2 := World.size_alloc (w.alloc (.cells #[.int .i64 T, .int .i64 G, .int .i64 n] 29)) (.cells #[.int .i64 r'] 3)
  have z3 := World.size_alloc ((w.alloc (.cells #[.int .i64 T, .int .i64 G, .int .i64 n] 29)).alloc (.cells #[.int .i64 r'] 3)) (.cells #[.int .i64 0] 3)
  refine ⟨?_, ?_, ?_⟩
  · exact (((Kp.refl [] _).alloc _).alloc _).row (by simp) (by rw [← z1]; exact heap_alloc_new _ _)
  · exact ((Kp.refl [] _).alloc _).row (by simp) (by rw [show w.heap.size + 2 = w.heap.size + 1 + 1 from rfl, ← z1, ← z2]; exact heap_alloc_new _ _)
  · rw [show w.heap.size + 3 = w.heap.size + 1 + 1 + 1 from rfl, ← z1, ← z2, ← z3]; exact heap_alloc_new _ _

theorem g_claim_no (w : World) (T G n : Nat) (r' : Int) (p : Addr) (h : ¬ (1 ≤ r' ∧ r' ≤ 3)) :
    Calls Tryd.prog 53 #[.iface 27 (.pointer (some p)), .agg #[.int .i64 T, .int .i64 G, .int .i64 n], .int .i64 r'] w fun e w' => e = .returned (.tuple #[.int .i64 0, .bool false]) ∧ Kp [] w w' := by
  have hm := fun w => g_mayRun r' false w (by simpa using h)
  have HK := Lib.hid (cw_kp w T G n r')
  unfold cw at HK
  clear h
  go_enter Tryd.func53, Tryd.ntmps53
  go_wp2_with fail
  refine (hm _).mono ?_
  rintro e w1 ⟨rfl, rfl⟩
  have HR := Lib.hid (cw_rows w T G n r')
  unfold cw at HR
  go_wp2
  refine bodyPost_cell2 rfl ⟨w.heap.size + 2, 0, none⟩ ⟨w.heap.size + 3, 0, none⟩ (.int .i64 0) (.bool false) rfl rfl (load_int (b := w.heap.size + 2) ?_) (load_bool (b := w.heap.size + 3) ?_) rfl ⟨rfl, ?_⟩
  · exact HR.out.2.1
  · exact HR.out.2.2
  · exact HK.out

set_option maxRecDepth 100000 in
set_option maxHeartbeats 1000000 in
theorem g_claim_in (h : Hw T G n p r H t w) (ht : t ≤ 900000) {M M' : Nat} {r' a : Int} {q : Bool} (hM0 : H.getD 0 0 = M) (hc : Claims M r' a q M') (h1 : 1 ≤ r') (h3 : r' ≤ 3) :
    Calls Tryd.prog 53 #[.iface 27 (.pointer (some ⟨p, 0, none⟩)), .agg #[.int .i64 T, .int .i64 G, .int .i64 n], .int .i64 r'] w fun e w' => e = .returned (.tuple #[.int .i64 a, .bool q]) ∧ Hw T G n p r (H.set 0 (M' : Int)) (t + 1) w' ∧ Kp [p, r] w w' := by
  have hm := fun w => g_mayRun r' true w (by simp; omega)
  have hlt := h.lt
  have hM : M < 18446744073709551616 := by
    have := (h.ok 0).2
    rw [hM0] at this
    exact Int.ofNat_lt.1 this
  have HU := Lib.hid (up_map (h.on (cw_kp w T G n r')) ht 66 #[.pointer (some ⟨w.heap.size + 1, 0, none⟩), .pointer (some ⟨w.heap.size + 2, 0, none⟩), .pointer (some ⟨w.heap.size + 3, 0, none⟩)] M M' [w.heap.size + 2, w.heap.size + 3]
    (fun w' => w'.heap[w.heap.size + 2]? = some (.cells #[.int .i64 a] 3 (0, 0)) ∧ w'.heap[w.heap.size + 3]? = some (.cells #[.bool q] 4 (0, 0))) hM0 (claims_lt hc hM) (by simp; omega) (by simp; omega)
    (fun w2 w3 hR k => ⟨k.row (by simp; omega) hR.1, k.row (by simp; omega) hR.2⟩) (fun _ _ => rfl)
    (fun w1 k => cl_claim hc hM h1 h3 _ _ _ 0 false w1 (k.row (by simp; omega) (cw_rows w T G n r').1) (k.row (by simp; omega) (cw_rows w T G n r').2.1) (k.row (by simp; omega) (cw_rows w T G n r').2.2) (by omega) (by omega) (by omega)))
  have HK := Lib.hid (cw_kp w T G n r')
  unfold cw at HU HK
  clear hc hM
  go_enter Tryd.func53, Tryd.ntmps53
  go_wp2_with fail
  refine (hm _).mono ?_
  rintro e w1 ⟨rfl, rfl⟩
  go_wp2_with fail
  refine HU.out.mono ?_
  rintro e w2 ⟨rfl, hg, hk, r2, r3⟩
  have e2 : w2.cell? ⟨w.heap.size + 1 + 1, 0, none⟩ = some (.int .i64 a) := cell_of_row r2 0
  have e3 : w2.cell? ⟨w.heap.size + 1 + 1 + 1, 0, none⟩ = some (.bool q) := cell_of_row r3 0
  have f2 : w2.frozen? ⟨w.heap.size + 1 + 1, 0, none⟩ = false := free_of_row r2 0
  have f3 : w2.frozen? ⟨w.heap.size + 1 + 1 + 1, 0, none⟩ = false := free_of_row r3 0
  have HR := Lib.hid (And.intro r2 r3)
  have HG := Lib.hid hg
  have KK : Hid (Kp [p, r] w w2) := Lib.hid (((HK.out.mono (T := [p, r, w.heap.size + 2, w.heap.size + 3]) (by simp)).trans hk).mono fun x hx hlt' => by
    simp only [List.mem_cons, List.not_mem_nil, or_false] at hx ⊢
    omega)
  clear hg hk r2 r3
  go_wp2_with fail
  go_region
  all_goals
    go_wp2
    refine bodyPost_cell2 rfl ⟨w.heap.size + 2, 0, none⟩ ⟨w.heap.size + 3, 0, none⟩ (.int .i64 a) (.bool q) rfl rfl (load_int (b := w.heap.size + 2) ?_) (load_bool (b := w.heap.size + 3) ?_) rfl ⟨rfl, ?_⟩
  · exact (show Kp [w.heap.size + 3] _ _ from (Kp.refl _ _).setCell (.inl (by simp)) _).row (by simp) (by rw [heap_setCell_same _ _ _ _ _ _ HR.out.1]; rfl)
  · exact (heap_setCell_same _ _ _ _ _ _ ((show Kp [w.heap.size + 2] w2 (w2.setCell ⟨w.heap.size + 1 + 1, 0, none⟩ (.int .i64 a)) from (Kp.refl _ _).setCell (.inl (by simp)) _).row (by simp) HR.out.2)).trans rfl
  · have q1 : Kp [w.heap.size + 2] w2 (w2.setCell ⟨w.heap.size + 1 + 1, 0, none⟩ (.int .i64 a)) := (Kp.refl _ _).setCell (.inl (by simp)) _
    have q2 : Kp [w.heap.size + 3] (w2.setCell ⟨w.heap.size + 1 + 1, 0, none⟩ (.int .i64 a)) ((w2.setCell ⟨w.heap.size + 1 + 1, 0, none⟩ (.int .i64 a)).setCell ⟨w.heap.size + 1 + 1 + 1, 0, none⟩ (.bool q)).drew := ((Kp.refl _ _).setCell (.inl (by simp)) _).drew
    exact ⟨(HG.out.keep q1 (by simp; omega) (by simp; omega)).keep q2 (by simp; omega) (by simp; omega), kp_new_set (kp_new_set KK.out q1 (by omega)) q2 (by omega)⟩

end
end Go.Proofs.YtinkpbenmfnnhaaDoor
