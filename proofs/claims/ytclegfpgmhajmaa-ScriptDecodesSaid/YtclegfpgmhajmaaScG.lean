/- The walk of Encode. Conditions: the entries lie where the slice leads, at most 2,100. -/
import Derived.Test.YtclegfpgmhajmaaScD
import Derived.Test.YtclegfpgmhajmaaScR
import Derived.Deep.AppendLies
import Derived.Deep.LoopGhost
import Derived.Deep.CutRange
import Derived.Deep.CutBlock
import Derived.Deep.DeepCutAuto
namespace Go.Proofs.Ytclegfpgmhajmaa
set_option linter.unusedVariables false
set_option linter.unusedSimpArgs false
open Go.RowKit

/-- What Encode answers. -/
def encV (L : List Ent) : Value := if L.all Ent.may = true then .tuple #[.string (str (script L)), .int .i64 0] else .tuple #[.string ⟨#[]⟩, .int .i64 3]
theorem encV_yes {L : List Ent} (h : allMay L) : encV L = .tuple #[.string (str (script L)), .int .i64 0] := by
  unfold encV
  rw [if_pos (List.all_eq_true.2 h)]
theorem encV_no {L : List Ent} {e : Ent} (h : e ∈ L) (he : e.may = false) : encV L = .tuple #[.string ⟨#[]⟩, .int .i64 3] := by
  unfold encV
  rw [if_neg fun h2 => by
    have := List.all_eq_true.1 h2 e h
    rw [he] at this; cases this]
theorem allMay_take {L : List Ent} {k : Nat} {e : Ent} (h : allMay (L.take k)) (hk : L[k]? = some e) (he : e.may = true) : allMay (L.take (k + 1)) := by
  rw [List.take_add_one, hk]
  exact allMay_snoc h he
theorem script_take {L : List Ent} {k : Nat} {e : Ent} (hk : L[k]? = some e) : script (L.take (k + 1)) = script (L.take k) ++ [e.g, e.d] ++ [e.a, e.b, e.c].take e.n := by
  rw [List.take_add_one, hk, script_app, List.append_assoc]
  congr 1
  exact script_one e

/-- What is known in a round. -/
structure EnX (w : World) (L : List Ent) (k : Nat) (v : Value) (l : Nat) (wr : World) : Prop where
  row : Br w.heap.size wr v l (script (L.take k))
  may : allMay (L.take k)
  kp : Kp [] w wr
theorem EnX.le {w wr : World} {L : List Ent} {k l : Nat} {v : Value} (h : EnX w L k v l wr) (hk : k ≤ L.length) : l ≤ 5 * k := by
  rw [h.row.1]
  have := script_le (L.take k)
  rw [List.length_take, Nat.min_eq_left hk] at this
  exact this
theorem EnX.on {w wr w' : World} {L : List Ent} {k l : Nat} {v : Value} (h : EnX w L k v l wr) (hk : Kp [] wr w') : EnX w L k v l w' := ⟨h.row.keep0 hk, h.may, h.kp.trans hk⟩
theorem EnX.next {w wr w1 w2 : World} {L : List Ent} {k l l1 l2 : Nat} {v v1 v2 : Value} {e : Ent} (h : EnX w L k v l wr) (hk : L[k]? = some e) (he : e.may = true) (b1 : Br w.heap.size w1 v1 l1 (script (L.take k) ++ [e.g, e.d])) (k1 : Kp (blk v) wr w1) (b2 : Br w.heap.size w2 v2 l2 (script (L.take k) ++ [e.g, e.d] ++ [e.a, e.b, e.c].take e.n)) (k2 : Kp (blk v1) w1 w2) : EnX w L (k + 1) v2 l2 w2 :=
  ⟨by rw [script_take hk]; exact b2, allMay_take h.may hk he, b1.2.old rfl (h.row.2.old rfl h.kp k1) k2⟩
theorem sl3 (W : World) (p n : Nat) (h : n ≤ 3) : (Instr.sliceAt 48 (.pointer (some ⟨p, 0, none⟩)) none (some (.int .i64 (n : Int))) none).run Try.prog W = .ok (.slice (some ⟨p, 0, none⟩) n 3) W := by
  have ht : Try.prog.underlying 48 = some (.array (Try.prog.arrayLen 48) (Try.prog.elem 48)) := by kernel_rfl
  have hl : Try.prog.arrayLen 48 = 3 := by kernel_rfl
  have hz : ∀ w, (Go.sizeOf (Try.prog.elem 48)).run Try.prog w = .ok 1 w := by intro w; kernel_rfl
  rw [run_sliceAt_array_h W 48 _ ht .i64 _ (by omega) (by rw [hl]; omega), hz, hl]
  simp [Result.andThen, slicedAt, Addr.add]

set_option maxRecDepth 100000 in
set_option maxHeartbeats 4000000 in
theorem enc_any (w : World) (base : Nat) (v : Value) (n : Nat) (L : List Ent) (hE : Er 28 base w v n L) (hn : n ≤ 2100) :
    Calls Try.prog 11 #[v] w fun e w' => e = .returned (encV L) ∧ Kp [] w w' := by
  obtain ⟨ao, c, rfl⟩ := hE.2.form
  have HR := Lib.hid hE
  have HN : Hid (n = L.length) := Lib.hid hE.1
  clear hE
  go_enter Try.func11, Try.ntmps11
  go_wp2_with fail
  go_loopg [4, 10] n (fun gg vt vi wr => ∃ (k : Nat) (bo : Option Addr) (l c' : Nat), k + gg = n ∧ vi = .int .i64 (k : Int) ∧ vt = .slice bo l c' ∧ Hid (EnX w L k (.slice bo l c') l wr))
  case atStart => exact ⟨0, none, 0, 0, by omega, rfl, rfl, Lib.hid ⟨Br.nil _ _, by rw [List.take_zero]; exact allMay_nil, Kp.refl _ _⟩⟩
  case round =>
    obtain ⟨k, bo, l, c', hkg, rfl, rfl, H⟩ := hrel
    by_cases hkn : k < n
    · obtain ⟨b, c2, hv, hc2⟩ := HR.out.at (by omega)
      simp only [Value.slice.injEq, true_and] at hv
      obtain ⟨rfl, rfl⟩ := hv
      have hkl : k < L.length := HN.out ▸ hkn
      obtain ⟨e, he⟩ : ∃ e, L[k]? = some e := ⟨_, List.getElem?_eq_getElem hkl⟩
      have HK := Lib.hid he
      have hR := HR.out.keep0 H.out.kp
      have q0 := hR.cell he (j := 0) (by decide)
      have q1 := hR.cell he (j := 1) (by decide)
      have q2 := hR.cell he (j := 2) (by decide)
      have q3 := hR.cell he (j := 3) (by decide)
      have q4 := hR.cell he (j := 4) (by decide)
      simp only [Ent.cells, List.getElem?_cons_zero, List.getElem?_cons_succ, Nat.add_zero] at q0 q1 q2 q3 q4
      have hle := H.out.le (by omega)
      have hu1 := (u_lt e.d).1
      clear he hR hkl
      have hmy : Hid (mayB (u e.g) (u e.d) (u e.a) (u e.b) (u e.c) = e.may) := Lib.hid rfl
      cases hm : e.may
      · rw [hm] at hmy
        have HM := Lib.hid hm
        clear hm
        go_wp2_with fail
        refine (may_is _ _ _ _ _ _ hu1 false hmy.out).mono ?_
        rintro r w2 ⟨rfl, hk⟩
        have K := Lib.hid (H.out.kp.trans (((Kp.refl [] _).alloc _).trans hk))
        clear hk q0 q1 q2 q3 q4
        go_wp2_with fail
        go_ret2
        exact ⟨congrArg Ending.returned (encV_no (List.mem_of_getElem? HK.out) HM.out).symm, K.out⟩
      · rw [hm] at hmy
        have HM := Lib.hid hm
        clear hm
        obtain ⟨x0, h0⟩ : ∃ x, x = u e.g := ⟨_, rfl⟩
        obtain ⟨x1, h1⟩ : ∃ x, x = u e.d := ⟨_, rfl⟩
        obtain ⟨x2, h2⟩ : ∃ x, x = u e.a := ⟨_, rfl⟩
        obtain ⟨x3, h3⟩ : ∃ x, x = u e.b := ⟨_, rfl⟩
        obtain ⟨x4, h4⟩ : ∃ x, x = u e.c := ⟨_, rfl⟩
        rw [← h0] at q0 hmy
        rw [← h1] at q1 hmy hu1
        rw [← h2] at q2 hmy
        rw [← h3] at q3 hmy
        rw [← h4] at q4 hmy
        have X0 := Lib.hid h0
        have X1 := Lib.hid h1
        have X2 := Lib.hid h2
        have X3 := Lib.hid h3
        have X4 := Lib.hid h4
        clear h0 h1 h2 h3 h4
        go_wp2_with fail
        refine (may_is _ _ _ _ _ _ hu1 true hmy.out).mono ?_
        rintro r w2 ⟨rfl, hk⟩
        have b2 := hk.row (by simp) (heap_alloc_new wr (.cells #[.int .u8 x0, .int .u8 x1, .int .u8 x2, .int .u8 x3, .int .u8 x4] 28))
        have H2 := Lib.hid (H.out.on (((Kp.refl [] _).alloc _).trans hk))
        have B2 := Lib.hid b2
        obtain ⟨c0, c1, c2', c3, c4⟩ := cells5 b2
        clear hk q0 q1 q2 q3 q4 H b2
        go_wp2_with fail
        refine (opargs_any _ x1 x2 x3 x4).mono ?_
        rintro r w3 ⟨rfl, hk⟩
        have b3 := hk.row (by simp) B2.out
        have H3 := Lib.hid (H2.out.on hk)
        have B3 := Lib.hid b3
        have hz3 : wr.heap.size < w3.heap.size := lt_of_block b3
        clear c0 c1 c2' c3 c4
        obtain ⟨c0, c1, c2', c3, c4⟩ := cells5 b3
        clear hk b3 H2 B2
        -- the first append
        have e1 := heap_alloc_new ((w3.alloc (.cells #[.int .u8 x2, .int .u8 x3, .int .u8 x4] 48))) (.cells #[.int .u8 x0, .int .u8 x1] 5)
        rw [World.size_alloc] at e1
        have k3 : Kp [] w3 ((w3.alloc (.cells #[.int .u8 x2, .int .u8 x3, .int .u8 x4] 48)).alloc (.cells #[.int .u8 x0, .int .u8 x1] 5)) := ((Kp.refl _ _).alloc _).alloc _
        have hr3 := (H3.out.on k3).row
        obtain ⟨ao4, cap4, w4, hrun, hb4, hk4⟩ := run_bts (ty := 46) hr3 ((H3.out.on k3).kp.size) (w3.heap.size + 1) 2 2 [e.g, e.d] rfl (fun j v hv => by
          rw [cell_of_row e1, X0.out, X1.out]
          simpa [bcells] using hv) (by omega)
        have a3 : ((w3.alloc (.cells #[.int .u8 x2, .int .u8 x3, .int .u8 x4] 48)).alloc (.cells #[.int .u8 x0, .int .u8 x1] 5)).heap[w3.heap.size]? = some (.cells #[.int .u8 x2, .int .u8 x3, .int .u8 x4] 48 (0, 0)) := heap_alloc2_old _ _ _
        have a4 := hk4.row (hr3.2.nin a3 (by decide)) a3
        have b4 := hk4.row (hr3.2.nin (k3.row (by simp) B3.out) (by decide)) (k3.row (by simp) B3.out)
        have hs4 : w.heap.size ≤ w4.heap.size := Nat.le_trans (H3.out.on k3).kp.size hk4.size
        have HB4 := Lib.hid hb4
        have K4 := Lib.hid hk4
        have K3 := Lib.hid k3
        have A4 := Lib.hid a4
        have B4 := Lib.hid b4
        have HRun := Lib.hid hrun
        have hzb : wr.heap.size < w4.heap.size := lt_of_block b4
        clear hb4 hk4 k3 a4 a3 hr3 e1 hrun
        obtain ⟨d0, d1, d2, d3, d4⟩ := cells5 b4
        clear b4
        go_wp2_with (at_builtin; refine wpList_append_eq rfl (.tmp 20) (.tmp 26) 46 rfl _ _ _ rfl rfl HRun.out ?_)
        obtain ⟨m, hm⟩ : ∃ m, m = e.n := ⟨_, rfl⟩
        have hm3 : m ≤ 3 := by rw [hm]; exact e.n_le
        have HMn := Lib.hid hm
        have ha : argsN x1 = m := by rw [hm, X1.out]; rfl
        refine (args_is w4 x1 m hu1 ha).mono ?_
        rintro r w5 ⟨rfl, rfl⟩
        have e7 := A4.out
        obtain ⟨ao6, cap6, w6, hrun6, hb6, hk6⟩ := run_bts (ty := 46) HB4.out hs4 w3.heap.size m 3 ([e.a, e.b, e.c].take m) (by simp; omega) (fun j v hv => by
          rw [cell_of_row e7, X2.out, X3.out, X4.out]
          have : (bcells ([e.a, e.b, e.c].take m))[j]? = (bcells [e.a, e.b, e.c])[j]? := by
            have hj := (List.getElem?_eq_some_iff.1 hv).1
            simp [bcells] at hj
            unfold bcells
            rw [List.map_take, List.getElem?_take_of_lt (by omega)]
          rw [this] at hv
          simpa [bcells] using hv) (by omega)
        have HB6 := Lib.hid hb6
        have K6 := Lib.hid hk6
        have HRun6 := Lib.hid hrun6
        have hsl := sl3 w4 w3.heap.size m hm3
        clear hb6 hk6 hrun6 e7 ha hm HRun
        go_wp2_with (at_builtin; refine wpList_append_eq rfl (.tmp 28) (.tmp 33) 46 rfl _ _ _ rfl rfl HRun6.out ?_)
        have H6 : Hid (EnX w L (k + 1) (.slice ao6 (l + 2 + m) cap6) (l + 2 + m) w6) := Lib.hid ((H3.out.on K3.out).next HK.out HM.out HB4.out K4.out (by have := HB6.out; rw [HMn.out] at this ⊢; exact this) K6.out)
        clear H3 HB4 K4 K3 HB6 K6 d0 d1 d2 d3 d4 c0 c1 c2' c3 c4 hsl
        go_roundg (n - (k + 1))
        case measure => omega
        case rel => exact ⟨k + 1, ao6, l + 2 + m, cap6, by omega, by go_num, rfl, H6⟩
    · obtain rfl : k = n := by omega
      have hcv := run_str H.out.row
      have HE : Hid (encV L = .tuple #[.string (str (script (L.take k))), .int .i64 0]) := Lib.hid (by
        have := H.out.may
        have hl : L.take k = L := by rw [HN.out]; exact List.take_length
        rw [hl] at this ⊢
        exact encV_yes this)
      go_wp2_with fail
      go_ret2
      exact ⟨congrArg Ending.returned HE.out.symm, H.out.kp⟩

end Go.Proofs.Ytclegfpgmhajmaa
