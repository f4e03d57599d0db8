/- Copies: slotsOf, cloneRoots. Conditions: as each theorem states them. -/
import Derived.Test.YtmbhhadghiojeaaGreatGrR
import Derived.Test.YtmbhhadghiojeaaGreatDrR
import Derived.Deep.LoopGhost
import Derived.Deep.CutRange
import Derived.Deep.CutBlock
import Derived.Deep.DeepCutAuto
import Derived.Carry
namespace Go.Proofs.YtmbhhadghiojeaaGreat
set_option linter.unusedVariables false
set_option linter.unusedSimpArgs false
open Go.RowKit

theorem getD_ext {xs ys : List Int} (hl : xs.length = ys.length) (h : ∀ i, i < ys.length → xs.getD i 0 = ys.getD i 0) : xs = ys := by
  apply List.ext_getElem hl
  intro i h1 h2
  have := h i h2
  simpa [List.getD, h1, h2] using this

/-- A row of n numbers is filled up: k of them are as A's. -/
structure Fl (w : World) (g n : Nat) (A : List Int) (k : Nat) (ys : List Int) (wr : World) : Prop where
  rw' : Rw w (.slice (some ⟨g, 0, none⟩) n n) ys wr
  len : ys.length = n
  at' : ∀ i, i < k → ys.getD i 0 = A.getD i 0
  kp : Kp [] w wr
  ge : w.heap.size ≤ g
theorem Fl.step {w wr : World} {g n k : Nat} {A ys : List Int} (h : Fl w g n A k ys wr) (hk : k < n) : Fl w g n A (k + 1) (ys.set k (A.getD k 0)) (wr.setCell ⟨g, k, none⟩ (.int .i64 (A.getD k 0))) := by
  refine ⟨h.rw'.set k _, by rw [List.length_set]; exact h.len, fun i hi => ?_, h.kp.setCell (.inr h.ge) _, h.ge⟩
  rw [getD_set ys k i _ (by rw [h.len]; exact hk)]
  by_cases e : i = k
  · subst e; rw [if_pos rfl]
  · rw [if_neg e]; exact h.at' i (by omega)
theorem Fl.start (w : World) (n : Nat) (A : List Int) (hn : n ≤ 1000) : Fl w w.heap.size n A 0 (List.replicate n 0) (w.alloc (.cells (ints (List.replicate n 0)).toArray 3)) :=
  ⟨⟨by simp [ints], .inr ⟨w.heap.size, n, _, by simp, Nat.le_refl _, heap_alloc_new w _, by simp, by unfold maxLen; omega, by simp [ints], by simp [ints]⟩⟩, by simp, fun i hi => by omega, (Kp.refl _ _).alloc _, Nat.le_refl _⟩
theorem Fl.done {w wr : World} {g n : Nat} {A ys : List Int} (h : Fl w g n A n ys wr) (hn : A.length = n) : Rw w (.slice (some ⟨g, 0, none⟩) n n) A wr := by
  have := getD_ext (h.len.trans hn.symm) (fun i hi => h.at' i (by omega))
  rw [← this]; exact h.rw'

/-- What a row of the call's own is, whose address is known. -/
def RowIs (w : World) (A : List Int) (n : Nat) (e : Ending) (w' : World) : Prop := ∃ g c, e = .returned (.slice (some ⟨g, 0, none⟩) n c) ∧ Rw w (.slice (some ⟨g, 0, none⟩) n c) A w' ∧ Kp [] w w'

set_option maxRecDepth 100000 in
theorem slotsOf_any (w : World) (p n : Nat) (A L : List Int) (h : Rt w p A L) (hn : A.length = n) (h8 : n ≤ 8) :
    Calls Tryz.prog 88 #[.pointer (some ⟨p, 0, none⟩)] w (RowIs w A n) := by
  have hs := slots_any w p A L h
  rw [hn] at hs
  have hmk := make_ints n (by omega)
  have HR := Lib.hid h
  have HN := Lib.hid hn
  have HF0 : Hid (Fl w w.heap.size n A 0 (List.replicate n 0) (w.alloc (.cells (ints (List.replicate n 0)).toArray 3))) := Lib.hid (Fl.start w n A (by omega))
  clear h hn
  go_enter Tryz.func88, Tryz.ntmps88
  go_wp2_with ((with_reducible refine hs.mono ?_); rintro e w1 ⟨rfl, rfl⟩)
  clear hs hmk
  obtain ⟨g, hg⟩ : ∃ g, g = w.heap.size := ⟨_, rfl⟩
  rw [← hg] at HF0 ⊢
  have HG := Lib.hid hg
  clear hg
  go_loopg [10] n (fun gg v wr => ∃ (k : Nat) (ys : List Int), k + gg = n ∧ v = .int .i64 (k : Int) ∧ Hid (Fl w g n A k ys wr))
  case atStart => exact ⟨0, _, by omega, rfl, HF0⟩
  case round =>
    clear HF0
    obtain ⟨k, ys, hkg, rfl, HF⟩ := hrel
    by_cases hkn : k < n
    · have h3 := reference_ok wr p A L (HR.out.keep0 HF.out.kp) k (by rw [HN.out]; exact hkn)
      have hc := HF.out.rw'.cell (i := k) (by rw [HF.out.len]; exact hkn)
      have hf := HF.out.rw'.free k
      have HF2 := Lib.hid (HF.out.step hkn)
      generalize A.getD k 0 = x at h3 HF2
      generalize ys.getD k 0 = z at hc
      clear HF
      go_wp2_with ((with_reducible refine h3.mono ?_); rintro e w1 ⟨rfl, rfl⟩)
      go_roundg (n - (k + 1))
      case measure => omega
      case rel => exact ⟨k + 1, _, by omega, by go_num, HF2⟩
    · have hnn : ¬ ((k : Int) < (n : Int)) := by omega
      have e : k = n := by omega
      subst e
      have HE := Lib.hid (And.intro (HF.out.done HN.out) HF.out.kp)
      clear HF
      go_wp2
      go_ret
      exact ⟨_, _, rfl, HE.out⟩

/-- A copy of roots, its stack under way: k of L are pushed; m of A are set. -/
structure Cr (w : World) (q n : Nat) (A L : List Int) (k m : Nat) (wr : World) : Prop where
  rt : ∃ A', A'.length = n ∧ Rt wr q A' (L.take k) ∧ ∀ i, i < m → A'.getD i 0 = A.getD i 0
  kp : Kp [] w wr
  ge : w.heap.size ≤ q
theorem Cr.on {w wr w2 : World} {q n k m : Nat} {A L : List Int} (h : Cr w q n A L k m wr) (hk : Kp [] wr w2) : Cr w q n A L k m w2 := by
  obtain ⟨⟨A', h1, h2, h3⟩, h4, h5⟩ := h
  exact ⟨⟨A', h1, h2.keep0 hk, h3⟩, h4.trans hk, h5⟩
theorem Cr.turn {w wr w2 : World} {q n k m k' m' : Nat} {A L A' : List Int} (h : Cr w q n A L k m wr) (h1 : A'.length = n) (h2 : Rt w2 q A' (L.take k')) (h3 : ∀ i, i < m' → A'.getD i 0 = A.getD i 0) (hk : Kp [q] wr w2) : Cr w q n A L k' m' w2 :=
  ⟨⟨A', h1, h2, h3⟩, (kp_then h.kp hk).mono fun x hx hlt => by
    rw [List.mem_singleton] at hx
    have := h.ge
    omega, h.ge⟩
/-- What the copy answers. -/
def CrIs (w : World) (A L : List Int) (e : Ending) (w' : World) : Prop := ∃ q, e = .returned (.pointer (some ⟨q, 0, none⟩)) ∧ w.heap.size ≤ q ∧ Rt w' q A L ∧ Kp [] w w'
theorem Rd.on_rt {w w' : World} {v : Value} {xs A L : List Int} {q : Nat} (h : Rd w v xs) (hr : Rt w q A L) (k : Kp [q] w w') : Rd w' v xs := by
  obtain ⟨cs, hc⟩ := hr.row
  exact h.keep k fun g hg => by simpa using h.nin hc (by decide) g hg

set_option maxRecDepth 100000 in
set_option maxHeartbeats 4000000 in
theorem cloneRoots_any (w : World) (p n : Nat) (A L : List Int) (h : Rt w p A L) (hn : A.length = n) (h1 : 1 ≤ n) (h8 : n ≤ 8) (hA : ∀ x ∈ A, 0 ≤ x) (hL : ∀ x ∈ L, 0 ≤ x) :
    Calls Tryz.prog 50 #[.pointer (some ⟨p, 0, none⟩)] w (CrIs w A L) := by
  have hs := slots_any w p A L h
  rw [hn] at hs
  have hnew := new_good w n h1 h8
  have HR := Lib.hid h
  have HN := Lib.hid hn
  have HX := Lib.hid (And.intro hA hL)
  have hl16 := h.ll
  obtain ⟨l, hl⟩ : ∃ l, l = L.length := ⟨_, rfl⟩
  have HL := Lib.hid hl
  rw [← hl] at hl16
  clear h hn hA hL hl
  go_enter Tryz.func50, Tryz.ntmps50
  go_wp2_with ((with_reducible refine hs.mono ?_); rintro e w1 ⟨rfl, rfl⟩)
  refine hnew.mono ?_
  rintro e w1 ⟨rfl, hrt, hk1⟩
  have hstk := stack_any w1 p A L (HR.out.keep0 hk1)
  rw [← HL.out] at hstk
  have H1 : Hid (Cr w w.heap.size n A L 0 0 w1) := Lib.hid ⟨⟨List.replicate n 0, List.length_replicate, by simpa using hrt, fun i hi => by omega⟩, hk1, Nat.le_refl _⟩
  clear hrt hk1 hs hnew
  go_wp2_with fail
  refine hstk.mono ?_
  rintro e w2 ⟨rfl, hrow, hk2⟩
  have H2 : Hid (Cr w w.heap.size n A L 0 0 w2 ∧ Rd w2 (.slice (some ⟨w1.heap.size, 0, none⟩) l l) L) := Lib.hid ⟨H1.out.on hk2, by rw [HL.out]; exact Rd.of_row hrow⟩
  clear hrow hk2 hstk H1
  go_wp2_with fail
  obtain ⟨q, hq⟩ : ∃ q, q = w.heap.size := ⟨_, rfl⟩
  obtain ⟨g, hg⟩ : ∃ g, g = w1.heap.size := ⟨_, rfl⟩
  rw [← hq] at H2 ⊢
  rw [← hg] at H2 ⊢
  have HQ := Lib.hid (And.intro hq hg)
  clear hq hg
  go_loopg [18] l (fun gg v wr => ∃ (k : Nat), k + gg = l ∧ v = .int .i64 (k : Int) ∧ Hid (Cr w q n A L k 0 wr ∧ Rd wr (.slice (some ⟨g, 0, none⟩) l l) L))
  case atStart => exact ⟨0, by omega, rfl, H2⟩
  case round =>
    clear H2
    obtain ⟨k, hkg, rfl, H⟩ := hrel
    by_cases hkl : k < l
    · obtain ⟨g', o', e', hc⟩ := H.out.2.cellAt (i := k) (by rw [← HL.out]; exact hkl)
      simp only [Option.some.injEq, Addr.mk.injEq, Value.slice.injEq, and_true] at e'
      obtain ⟨rfl, rfl⟩ := e'
      rw [Nat.zero_add] at hc
      obtain ⟨A', a1, a2, a3⟩ := H.out.1.rt
      have hx := HX.out.2 (L.getD k 0) (getD_mem (by rw [← HL.out]; exact hkl))
      have hset := set_ok wr q A' (L.take k) a2 0 (L.getD k 0) (by omega) hx
      rw [show ((0 : Nat) : Int) = 0 from rfl] at hset
      have HP : Hid (∀ w5, Rt w5 q (A'.set 0 (L.getD k 0)) (L.take k) → Calls Tryz.prog 73 #[.pointer (some ⟨q, 0, none⟩), .int .i64 0] w5 fun e w' => e = .returned (.int .i64 0) ∧ Rt w' q (A'.set 0 (L.getD k 0)) (L.take (k + 1)) ∧ Kp [q] w5 w') := Lib.hid fun w5 h5 => by
        have := push_ok w5 q (A'.set 0 (L.getD k 0)) (L.take k) h5 0 (by rw [List.length_set]; omega) (by rw [List.length_take]; omega)
        have e1 : (A'.set 0 (L.getD k 0)).getD 0 0 = L.getD k 0 := by rw [getD_set _ _ _ _ (by omega), if_pos rfl]
        have e2 : L.take k ++ [L.getD k 0] = L.take (k + 1) := by
          have : k < L.length := by rw [← HL.out]; exact hkl
          rw [List.take_add_one, List.getElem?_eq_getElem this]
          simp [List.getD, this]
        rw [e1, e2] at this
        exact this
      have HS := Lib.hid (show (A'.set 0 (L.getD k 0)).length = n from by rw [List.length_set]; exact a1)
      have HO := Lib.hid (And.intro a2 H.out)
      generalize A'.set 0 (L.getD k 0) = A2 at hset HP HS
      generalize L.getD k 0 = x at hset hc
      clear a1 a2 a3 H hx
      go_wp2_with fail
      refine hset.mono ?_
      rintro e w3 ⟨rfl, hrt, hk3⟩
      have hpush := HP.out w3 hrt
      have H3 : Hid (Rt w3 q A2 (L.take k) ∧ Kp [q] wr w3) := Lib.hid ⟨hrt, hk3⟩
      clear hrt hk3 hset hc HP
      go_wp2_with fail
      refine hpush.mono ?_
      rintro e w4 ⟨rfl, hrt, hk4⟩
      have H4 : Hid (Cr w q n A L (k + 1) 0 w4 ∧ Rd w4 (.slice (some ⟨g, 0, none⟩) l l) L) := Lib.hid ⟨HO.out.2.1.turn HS.out hrt (fun i hi => by omega) (H3.out.2.trans hk4), (HO.out.2.2.on_rt HO.out.1 H3.out.2).on_rt H3.out.1 hk4⟩
      clear hrt hk4 hpush H3 HO HS
      go_wp2_with fail
      go_roundg (l - (k + 1))
      case measure => omega
      case rel => exact ⟨k + 1, by omega, by go_num, H4⟩
    · have hnn : ¬ ((k : Int) < (l : Int)) := by omega
      have e : k = L.length := by rw [← HL.out]; omega
      have hso := slotsOf_any wr p n A L (HR.out.keep0 H.out.1.kp) HN.out (by omega)
      have H1 : Hid (Cr w q n A L L.length 0 wr) := Lib.hid (by rw [← e]; exact H.out.1)
      clear H e
      go_wp2_with fail
      refine hso.mono ?_
      rintro e w5 ⟨g5, c5, rfl, hrw5, hk5⟩
      have H5 : Hid (Cr w q n A L L.length 0 w5 ∧ Rd w5 (.slice (some ⟨g5, 0, none⟩) n c5) A) := Lib.hid ⟨H1.out.on hk5, hrw5.rd⟩
      clear hrw5 hk5 hso H1
      go_wp2_with fail
      go_loopg [31] n (fun gg v wr => ∃ (m : Nat), m + gg = n ∧ v = .int .i64 (m : Int) ∧ Hid (Cr w q n A L L.length m wr ∧ Rd wr (.slice (some ⟨g5, 0, none⟩) n c5) A))
      case atStart => exact ⟨0, by omega, rfl, H5⟩
      case round =>
        clear H5
        obtain ⟨m, hmg, rfl, H⟩ := hrel
        by_cases hmn : m < n
        · obtain ⟨g', o', e', hc⟩ := H.out.2.cellAt (i := m) (by rw [HN.out]; exact hmn)
          simp only [Option.some.injEq, Addr.mk.injEq, Value.slice.injEq, and_true] at e'
          obtain ⟨rfl, rfl⟩ := e'
          rw [Nat.zero_add] at hc
          obtain ⟨A', a1, a2, a3⟩ := H.out.1.rt
          have hset := set_ok wr q A' (L.take L.length) a2 m (A.getD m 0) (by omega) (HX.out.1 _ (getD_mem (by rw [HN.out]; exact hmn)))
          have HS := Lib.hid (show (A'.set m (A.getD m 0)).length = n ∧ ∀ i, i < m + 1 → (A'.set m (A.getD m 0)).getD i 0 = A.getD i 0 from ⟨by rw [List.length_set]; exact a1, fun i hi => by
            rw [getD_set _ _ _ _ (by omega)]
            by_cases e : i = m
            · subst e; rw [if_pos rfl]
            · rw [if_neg e]; exact a3 i (by omega)⟩)
          have HO := Lib.hid (And.intro a2 H.out)
          generalize A'.set m (A.getD m 0) = A2 at hset HS
          generalize A.getD m 0 = x at hset hc
          clear a1 a2 a3 H
          go_wp2_with fail
          refine hset.mono ?_
          rintro e w3 ⟨rfl, hrt, hk3⟩
          have H4 : Hid (Cr w q n A L L.length (m + 1) w3 ∧ Rd w3 (.slice (some ⟨g5, 0, none⟩) n c5) A) := Lib.hid ⟨HO.out.2.1.turn HS.out.1 hrt HS.out.2 hk3, HO.out.2.2.on_rt HO.out.1 hk3⟩
          clear hrt hk3 hset hc HS HO
          go_wp2_with fail
          go_roundg (n - (m + 1))
          case measure => omega
          case rel => exact ⟨m + 1, by omega, by go_num, H4⟩
        · have hnn2 : ¬ ((m : Int) < (n : Int)) := by omega
          have HE : Hid (CrIs w A L (.returned (.pointer (some ⟨q, 0, none⟩))) wr) := Lib.hid (by
            obtain ⟨A', a1, a2, a3⟩ := H.out.1.rt
            have : A' = A := getD_ext (a1.trans HN.out.symm) fun i hi => a3 i (by have := HN.out; omega)
            rw [this, List.take_length] at a2
            exact ⟨q, rfl, H.out.1.ge, a2, H.out.1.kp⟩)
          clear H
          go_wp2
          go_ret
          exact HE.out

end Go.Proofs.YtmbhhadghiojeaaGreat
