/- The walks of package give, on: Waiting. Conditions: as each theorem states them. -/
import Derived.Test.YteppcbihhikoaaaGvF
import Derived.Test.YteppcbihhikoaaaGvC
namespace Go.Proofs.Yteppcbihhikoaaa
set_option linter.unusedVariables false
set_option linter.unusedSimpArgs false
set_option maxRecDepth 100000
open Go.RowKit

theorem turn_no {n : Nat} {o : Int} {g : Gv} {i : Nat} {x : Int} (hx : g.E.getD i 0 = x) (h : decide (ek x = 4 ∨ ek x = 5) = false) : turnG n o g i = g := by
  unfold turnG waitsE
  rw [hx]
  unfold ek at h
  cases ht : Tb.takeE x
  · rfl
  · rw [ht] at h
    simp only [if_true, decide_eq_false_iff_not] at h
    rw [if_neg]
    simp only [Bool.true_and, decide_eq_true_eq]
    exact fun hh => h hh.2
theorem turn_other {n : Nat} {o : Int} {g : Gv} {i : Nat} {x : Int} (hx : g.E.getD i 0 = x) (h : decide (ek x = 4 ∨ ek x = 5) = true) (ho : (eo x == o) = false) : turnG n o g i = g := by
  unfold turnG waitsE
  rw [hx]
  unfold eo at ho
  cases ht : Tb.takeE x
  · rfl
  · rw [ht] at ho
    simp only [if_true, beq_eq_false_iff_ne, ne_eq] at ho
    rw [if_neg]
    simp only [Bool.true_and, decide_eq_true_eq]
    exact fun hh => ho hh.1
theorem turn_back {n : Nat} {o : Int} {g : Gv} {i : Nat} {x : Int} (hx : g.E.getD i 0 = x) (h : decide (ek x = 4 ∨ ek x = 5) = true) (ho : (eo x == o) = true) : turnG n o g i = backG n g i (Tb.blkE (ek x) (er x)) := by
  unfold turnG waitsE
  rw [hx]
  unfold ek at h
  unfold eo at ho
  unfold ek er
  cases ht : Tb.takeE x
  · rw [ht] at h; simp at h
  · rw [ht] at ho h
    simp only [if_true, beq_iff_eq, decide_eq_true_eq] at ho h ⊢
    rw [if_pos (by simp only [Bool.true_and, decide_eq_true_eq]; exact ⟨ho, h⟩)]
theorem er_in {x : Int} (h0 : 0 ≤ x) : 0 ≤ er x ∧ er x ≤ 255 := by
  unfold er; split <;> omega

section
variable {n p r t : Nat} {g : Gv} {w w' : World}
/-- What Waiting's region holds on to. -/
def Ws (a n b : Nat) (k c r' o : Int) (p r : Nat) (w0 wx : World) : Prop :=
  wx.cell? ⟨a, 0, none⟩ = some (.int .i64 1) ∧ wx.cell? ⟨a, 1, none⟩ = some (.int .i64 1) ∧ wx.cell? ⟨a, 2, none⟩ = some (.int .i64 n) ∧ wx.cell? ⟨b, 0, none⟩ = some (.int .u8 k) ∧ wx.cell? ⟨b, 1, none⟩ = some (.int .u8 c) ∧ wx.cell? ⟨b, 2, none⟩ = some (.int .u8 r') ∧ wx.cell? ⟨b, 3, none⟩ = some (.int .u8 o) ∧ Kp [p, r] w0 wx
theorem ws_of {a b : Nat} {k c r' o : Int} {w0 wx : World} (h : Lx a n wx) (hb : wx.heap[b]? = some (.cells (cs4 k c r' o) 50 (0, 0))) (kk : Kp [p, r] w0 wx) : Ws a n b k c r' o p r w0 wx :=
  ⟨h.c0, h.c1, h.c2, cell_of_row hb 0, cell_of_row hb 1, cell_of_row hb 2, cell_of_row hb 3, kk⟩
theorem ws_keep {a b : Nat} {k c r' o : Int} {w0 wx wy : World} {S : List Nat} (h : Ws a n b k c r' o p r w0 wx) (kk : Kp S wx wy) (hS : ∀ x ∈ S, x = p ∨ x = r) (ha : p ≠ a ∧ r ≠ a ∧ p ≠ b ∧ r ≠ b) : Ws a n b k c r' o p r w0 wy := by
  obtain ⟨h0, h1, h2, h3, h4, h5, h6, h7⟩ := h
  have na : a ∉ S := fun e => by rcases hS _ e with e | e <;> omega
  have nb : b ∉ S := fun e => by rcases hS _ e with e | e <;> omega
  exact ⟨kp_cell kk na h0, kp_cell kk na h1, kp_cell kk na h2, kp_cell kk nb h3, kp_cell kk nb h4, kp_cell kk nb h5, kp_cell kk nb h6, h7.trans (kk.mono fun x hx _ => by rcases hS _ hx with e | e <;> simp [e])⟩

set_option maxHeartbeats 4000000 in
theorem g_waiting (h : Gw n p r g t w) (ht : t ≤ 700000) (o : Int) (f : FuncId) (cap : Array Value)
    (hen : ∀ (x : Value) (w : World), (callFunc f (#[x] ++ cap)).run Try.prog w = .ok (.enter f (#[x] ++ cap)) w)
    (hIs : ∀ (o' : Int) (w' : World), Kp [p, r] w w' → Calls Try.prog f (#[.int .u8 o'] ++ cap) w' fun e w2 => e = .returned (.bool (o' == o)) ∧ Kp [] w' w2) :
    Calls Try.prog 13 #[.iface 24 (.pointer (some ⟨p, 0, none⟩)), .agg #[.int .i64 1, .int .i64 1, .int .i64 n], .func (.func f) #[] cap] w fun e w' => ∃ t', t ≤ t' ∧ t' ≤ t + 5 * n ∧ e = .returned (.tuple #[]) ∧ Gw n p r (waitG n o g n) t' w' ∧ Kp [p, r] w w' := by
  have hB := Lib.hid (fun w => Ly.blocks_is 1 1 n w)
  have hfn : ∀ (g : FuncId) (first cap : Array Value) (w : World), (binOp .eql 47 (.func (.func g) first cap) .nilFunc).run Try.prog w = .ok (.bool false) w := fun _ _ _ _ => rfl
  have hn := h.hn
  have hpl := h.lt
  have HG := Lib.hid h
  have HI := Lib.hid hIs
  have HT := Lib.hid ht
  have HX : Hid (∀ w1, Kp [] (w.alloc (.cells #[.int .i64 1, .int .i64 1, .int .i64 n] 26)) w1 → Lx w.heap.size n w1 ∧ Kp [] w w1) := Lib.hid fun w1 k => ⟨(Lx.new w n).keep k (by simp), ((Kp.refl [] w).alloc _).trans k⟩
  clear hIs h
  go_enter Try.func13, Try.ntmps13
  go_wp2_with fail
  refine (hB.out _).mono ?_
  rintro e w1 ⟨rfl, hk⟩
  have H1 := Lib.hid (HX.out w1 hk)
  clear hk
  go_wp2_with fail
  go_loopg [12] n (fun gg v12 wr => ∃ i : Nat, i + gg = n ∧ v12 = .int .i64 i ∧ Hid (∃ t', t ≤ t' ∧ t' ≤ t + 5 * i ∧ Gw n p r (waitG n o g i) t' wr ∧ Kp [p, r] w wr ∧ Lx w.heap.size n wr))
  case atStart => exact ⟨0, by omega, rfl, Lib.hid ⟨t, by omega, by omega, HG.out.on H1.out.2, H1.out.2.mono (by simp), H1.out.1⟩⟩
  case round =>
    obtain ⟨i, hi, rfl, HR⟩ := hrel
    obtain ⟨t', t0, t1, hg, hkw, hlx⟩ := HR.out
    by_cases hlt : i < n
    · obtain ⟨x, hx⟩ : ∃ x, (waitG n o g i).E.getD i 0 = x := ⟨_, rfl⟩
      have hx0 := hg.ok.ent i
      rw [hx] at hx0
      have h6 := er_in hx0.1
      have HE := Lib.hid (g_entry hg (by have := HT.out; omega) i hlt x hx)
      have HL : Hid (Lx w.heap.size n wr) := Lib.hid hlx
      obtain ⟨b0, b1, b2⟩ := HL.out
      have HK := Lib.hid hkw
      obtain ⟨q, hq⟩ : ∃ q, decide (ek x = 4 ∨ ek x = 5) = q := ⟨_, rfl⟩
      obtain ⟨s, hs⟩ : ∃ s, (eo x == o) = s := ⟨_, rfl⟩
      have H7 : Hid (∀ w', Gw n p r (waitG n o g i) (t' + 1) w' → q = true → s = true → ∃ d, d ≤ 4 ∧ Calls Try.prog 11 #[.iface 24 (.pointer (some ⟨p, 0, none⟩)), .agg #[.int .i64 1, .int .i64 1, .int .i64 n], .int .i64 i, .int .i64 (Tb.blkE (ek x) (er x))] w' fun e w2 => e = .returned (.tuple #[]) ∧ Gw n p r (waitG n o g (i + 1)) (t' + 1 + d) w2 ∧ Kp [p, r] w' w2) := by
        refine Lib.hid fun w' hg' hq' hs' => ?_
        have := g_back hg' (by have := HT.out; omega) i (Tb.blkE (ek x) (er x)) _ rfl
        rw [← turn_back (o := o) hx (hq.trans hq') (hs.trans hs')] at this
        refine ⟨_, ?_, this⟩
        split
        · rename_i hh
          have := runG_iff.1 hh
          omega
        · omega
      have HN1 : Hid (q = false → waitG n o g (i + 1) = waitG n o g i) := Lib.hid fun hq' => turn_no hx (hq.trans hq')
      have HN2 : Hid (q = true → s = false → waitG n o g (i + 1) = waitG n o g i) := Lib.hid fun hq' hs' => turn_other hx (hq.trans hq') (hs.trans hs')
      have HWt := Lib.hid (fun w => g_waits (ek x) (ec x) (er x) (eo x) q w hq)
      have HBl := Lib.hid (fun w => Tb.blocks_is (ek x) (ec x) (er x) (eo x) w h6.1 h6.2)
      have HIx := Lib.hid (fun w' hw' => (HI.out (eo x) w' hw'))
      simp only [hs] at HIx
      have HTT := Lib.hid (And.intro t0 t1)
      clear hx0 hq hs hg hkw hlx t0 t1 HR h6 hx
      generalize Tb.blkE (ek x) (er x) = bl at H7 HBl
      generalize ek x = xk at HE HWt HBl
      generalize ec x = xc at HE HWt HBl
      generalize er x = xr at HE HWt HBl
      generalize eo x = xo at HE HWt HBl HIx
      go_wp2_with fail
      refine HE.out.mono ?_
      rintro e w2 ⟨rfl, hg2, hk2⟩
      have G2 := Lib.hid hg2
      have K2 := Lib.hid (HK.out.trans hk2)
      have z0 : w.heap.size < wr.heap.size := World.block_lt_of_cell? _ _ b0
      have z2 := hk2.size
      have kA : Kp [] w2 (w2.alloc (.cells (cs4 xk xc xr xo) 50)) := (Kp.refl _ _).alloc _
      have L3 := Lib.hid ((HL.out.keep hk2 (by simp; omega)).keep kA (by simp))
      have R3 := Lib.hid (heap_alloc_new w2 (.cells (cs4 xk xc xr xo) 50))
      have G3 := Lib.hid (hg2.on kA)
      have K3 := Lib.hid (K2.out.trans (kA.mono (by simp)))
      clear hg2 hk2 kA b0 b1 b2 HL HE
      unfold cs4 at L3 R3 G3 K3
      go_wp2_with fail
      refine (HWt.out _).mono ?_
      rintro e w4 ⟨rfl, hk4⟩
      have hr4 := hk4.row (by simp) R3.out
      have G4 := Lib.hid (G3.out.on hk4)
      have K4 := Lib.hid (K3.out.trans (hk4.mono (by simp)))
      have L4 := Lib.hid (L3.out.keep hk4 (by simp))
      have R4 := Lib.hid hr4
      have c3 : w4.cell? ⟨w2.heap.size, 3, none⟩ = some (.int .u8 xo) := cell_of_row hr4 3
      clear hk4 hr4 L3 R3 G3 K3
      cases q
      · go_wp2_with fail
        go_roundg (n - (i + 1))
        case rel => exact ⟨i + 1, by omega, by go_num, Lib.hid ⟨t' + 1, by have := HTT.out; omega, by have := HTT.out; omega, by rw [HN1.out (by simp)]; exact G4.out, K4.out, L4.out⟩⟩
        case measure => omega
      · go_wp2_with fail
        refine (HIx.out _ K4.out).mono ?_
        rintro e w5 ⟨rfl, hk5⟩
        have hr5 := hk5.row (by simp) R4.out
        have G5 := Lib.hid (G4.out.on hk5)
        have K5 := Lib.hid (K4.out.trans (hk5.mono (by simp)))
        have L5 := Lib.hid (L4.out.keep hk5 (by simp))
        have R5 := Lib.hid hr5
        clear hk5 hr5 c3 L4 R4 G4 K4
        cases s
        · go_wp2_with fail
          go_roundg (n - (i + 1))
          case rel => exact ⟨i + 1, by omega, by go_num, Lib.hid ⟨t' + 1, by have := HTT.out; omega, by have := HTT.out; omega, by rw [HN2.out (by simp) (by simp)]; exact G5.out, K5.out, L5.out⟩⟩
          case measure => omega
        · have HS := Lib.hid (ws_of L5.out R5.out (Kp.refl [p, r] w5))
          have HP : Hid (p ≠ w.heap.size ∧ r ≠ w.heap.size ∧ p ≠ w2.heap.size ∧ r ≠ w2.heap.size) := Lib.hid (by omega)
          go_wp2_with fail
          go_region_held3 (fun wx => wx.cell? ⟨w.heap.size, 0, none⟩ = some (.int .i64 1) ∧ wx.cell? ⟨w.heap.size, 1, none⟩ = some (.int .i64 1) ∧ wx.cell? ⟨w.heap.size, 2, none⟩ = some (.int .i64 n) ∧ wx.cell? ⟨w2.heap.size, 0, none⟩ = some (.int .u8 xk) ∧ wx.cell? ⟨w2.heap.size, 1, none⟩ = some (.int .u8 xc) ∧ wx.cell? ⟨w2.heap.size, 2, none⟩ = some (.int .u8 xr) ∧ wx.cell? ⟨w2.heap.size, 3, none⟩ = some (.int .u8 xo) ∧ Kp [p, r] w5 wx)
            (first
              | assumption
              | exact ws_keep HS.out ((Kp.refl [] _).drew) (by simp) HP.out
              | exact ws_keep ‹Ws w.heap.size n w2.heap.size xk xc xr xo p r w5 _› hk9 (by simp) HP.out
              | exact ws_keep ‹Ws w.heap.size n w2.heap.size xk xc xr xo p r w5 _› hk8 (by simp) HP.out)
            (first
            | (go_at_call 41; refine (HBl.out _).mono ?_; rintro e w6 ⟨rfl, hk9⟩
               have K6 : Hid (Kp [] w5 w6) := Lib.hid (by refine Kp.trans ?_ hk9; exact ⟨rfl, rfl, rfl, Nat.le_refl _, fun _ _ _ => rfl⟩))
            | (go_at_call 11
               obtain ⟨d, hd, hbk⟩ := H7.out w6 (G5.out.on K6.out) (by simp) (by simp)
               refine hbk.mono ?_
               rintro e w7 ⟨rfl, hg, hk8⟩
               have G7 := Lib.hid hg
               have K7 : Hid (Kp [p, r] w5 w7) := Lib.hid ((K6.out.mono (by simp)).trans hk8)
               clear hg hbk))
          all_goals
            rename_i hHeld
            clear hHeld
            go_wp2_with fail
            go_roundg (n - (i + 1))
            case rel => exact ⟨i + 1, by omega, by go_num, Lib.hid ⟨t' + 1 + d, by have := HTT.out; omega, by have := HTT.out; omega, G7.out, K5.out.trans K7.out, L5.out.keep K7.out (by have := HP.out; simp; omega)⟩⟩
            case measure => omega
    · obtain rfl : i = n := by omega
      have HF := Lib.hid (show ∃ t', t ≤ t' ∧ t' ≤ t + 5 * i ∧ Gw i p r (waitG i o g i) t' wr ∧ Kp [p, r] w wr from ⟨t', t0, t1, hg, hkw⟩)
      go_wp2_with fail
      obtain ⟨t2, e1, e2, e3, e4⟩ := HF.out
      go_end0
      exact ⟨t2, e1, e2, rfl, e3, e4⟩
end
end Go.Proofs.Yteppcbihhikoaaa
