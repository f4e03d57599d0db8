/- The document's own graph: Reach, plainly; a row of truths. Conditions: as each lemma states them. The document's own graph: Reach, walked. Conditions: as each theorem states them. -/
import Derived.Test.YtmbhhadghiojeaaGreatDgB
import Derived.Test.YtmbhhadghiojeaaGreatGrR
import Derived.Deep.LoopGhost
import Derived.Deep.CutRange
import Derived.Deep.CutBlock
import Derived.Deep.DeepCutAuto
import Derived.Carry
import Derived.IntWalk
namespace Go.Proofs.YtmbhhadghiojeaaGreat
set_option linter.unusedVariables false
set_option linter.unusedSimpArgs false
open Go.RowKit

/-- n truths, from the block's first cell on. -/
def Bl (w : World) (g n : Nat) (f : Nat → Bool) : Prop := ∃ cur : Array Value, w.heap[g]? = some (.cells cur 4 (0, 0)) ∧ ∀ i, i < n → cur[i]? = some (.bool (f i))
section
variable {w w' : World} {g n : Nat} {f : Nat → Bool}
theorem Bl.keep {S : List Nat} (h : Bl w g n f) (k : Kp S w w') (hg : g ∉ S) : Bl w' g n f := by
  obtain ⟨cur, hc, hx⟩ := h
  exact ⟨cur, k.row hg hc, hx⟩
theorem Bl.cell (h : Bl w g n f) {i : Nat} (hi : i < n) : w.cell? ⟨g, i, none⟩ = some (.bool (f i)) := by
  obtain ⟨cur, hc, hx⟩ := h
  rw [cell_of_row hc, hx i hi]
theorem Bl.free (h : Bl w g n f) (i : Nat) : w.frozen? ⟨g, i, none⟩ = false := by
  obtain ⟨cur, hc, hx⟩ := h
  exact free_of_row hc i
theorem Bl.set (h : Bl w g n f) {i : Nat} (hi : i < n) (b : Bool) : Bl (w.setCell ⟨g, i, none⟩ (.bool b)) g n (up f i b) := by
  obtain ⟨cur, hc, hx⟩ := h
  refine ⟨_, heap_setCell_same _ _ _ _ _ _ hc, fun j hj => ?_⟩
  by_cases e : j = i
  · subst e
    have := (Array.getElem?_eq_some_iff.1 (hx j hj)).1
    rw [Array.getElem?_setIfInBounds_self_of_lt this, up_same]
  · rw [Array.getElem?_setIfInBounds_ne (Ne.symm e), up_other _ _ e]
    exact hx j hj
end
def falses (n : Nat) : Array Value := (List.replicate n (Value.bool false)).toArray
theorem make_bools (n : Nat) (h2 : n ≤ 4096) (w : World) : (Instr.makeSlice 39 (.int .i64 (n : Int)) (.int .i64 (n : Int))).run Tryz.prog w = .ok (.slice (some ⟨w.heap.size, 0, none⟩) n n) (w.alloc (.cells (falses n) 4)) := by
  obtain ⟨i, hi, hz0, hz1, hz2⟩ := info_parts (P := Tryz.prog) (e := 4) (z := .bool false) (size := 1) (bytes := 1) (by kernel_rfl)
  have := run_make (P := Tryz.prog) w 39 4 i (.bool false) Tryz.underlying39 hi hz0 .i64 .i64 n n (by omega) (Int.le_refl _) (by rw [hz2]; omega) (by omega)
  rw [this, hz1]
  have e : madeCells #[.bool false] n = falses n := by
    apply Array.ext'
    rw [toList_madeCells_one]
    simp [falses]
  simp [Value.cells, e]
theorem bl_falses {w : World} {g n : Nat} (h : w.heap[g]? = some (.cells (falses n) 4 (0, 0))) : Bl w g n (fun _ => false) := ⟨_, h, fun i hi => by simp [falses, hi]⟩

/-- How many are not marked. -/
def unm (f : Nat → Bool) : Nat → Nat
  | 0 => 0
  | k + 1 => unm f k + if f (k + 1) then 0 else 1
theorem unm_le (f : Nat → Bool) : ∀ k, unm f k ≤ k
  | 0 => Nat.le_refl _
  | k + 1 => by
    have := unm_le f k
    rw [unm]
    split <;> omega
theorem unm_same (f : Nat → Bool) {n : Nat} : ∀ k, k < n → unm (up f n true) k = unm f k
  | 0, _ => rfl
  | k + 1, hk => by rw [unm, unm, unm_same f k (by omega), up_other _ _ (by omega)]
theorem unm_set (f : Nat → Bool) {n : Nat} (h1 : 1 ≤ n) (hm : f n = false) : ∀ k, n ≤ k → unm (up f n true) k + 1 = unm f k
  | 0, hk => by omega
  | k + 1, hk => by
    rw [unm, unm]
    by_cases e : n = k + 1
    · subst e
      rw [unm_same f k (by omega), up_same, hm]
      simp
    · have := unm_set f h1 hm k (by omega)
      rw [up_other _ _ (fun q => e q.symm)]
      omega

/-- The row of what is reached, in the making. -/
structure Rk (w : World) (g m : Nat) (f : Nat → Bool) (wr : World) : Prop where
  bl : Bl wr g (m + 1) f
  ge : w.heap.size ≤ g
  kp : Kp [] w wr
theorem Rk.on {w wr w2 : World} {g m : Nat} {f : Nat → Bool} (h : Rk w g m f wr) (k : Kp [] wr w2) : Rk w g m f w2 := ⟨h.bl.keep k (by simp), h.ge, h.kp.trans k⟩
theorem Rk.set {w wr : World} {g m : Nat} {f : Nat → Bool} (h : Rk w g m f wr) {i : Nat} (hi : i ≤ m) (b : Bool) : Rk w g m (up f i b) (wr.setCell ⟨g, i, none⟩ (.bool b)) :=
  ⟨h.bl.set (by omega) b, h.ge, h.kp.setCell (.inr h.ge) _⟩
/-- Those on the list are marked. -/
def On (f : Nat → Bool) (m : Nat) (xs : List Int) : Prop := ∀ n : Nat, 1 ≤ n → n ≤ m → (f n = true ↔ (n : Int) ∈ xs)
theorem On.put {f : Nat → Bool} {m : Nat} {xs : List Int} (h : On f m xs) {x : Int} {n : Nat} (hx : x = n) : On (up f n true) m (xs ++ [x]) := fun j h1 hj => by
  rw [List.mem_append, List.mem_singleton, hx]
  by_cases e : j = n
  · subst e
    rw [up_same]
    exact ⟨fun _ => .inr rfl, fun _ => rfl⟩
  · rw [up_other _ _ e, h j h1 hj]
    exact ⟨.inl, fun hh => hh.resolve_right (by omega)⟩
theorem take_snoc {xs : List Int} {i : Nat} (hi : i < xs.length) : xs.take (i + 1) = xs.take i ++ [xs.getD i 0] := by
  rw [List.take_succ_eq_append_getElem hi]
  simp [List.getD, hi]

/-- In a round: sound; the roots' own are marked; if nothing was marked anew, all so far are closed. -/
structure Ru (s : Gs) (f0 f : Nat → Bool) (more : Bool) (Cl : Nat → Int → Prop) : Prop where
  z : f 0 = false
  rt : ∀ n : Nat, 1 ≤ n → n ≤ s.m → (n : Int) ∈ flat s s.nt → f n = true
  sound : ∀ n : Nat, n ≤ s.m → f n = true → Rch s n
  same : more = false → f = f0 ∧ ∀ n x, Cl n x → f n = true → x ≠ 0 → f x.toNat = true
  less : more = true → unm f s.m < unm f0 s.m
theorem Ru.more {s : Gs} {M : Nat} (hw : Wf s M) {f0 f : Nat → Bool} {more : Bool} {Cl Cl' : Nat → Int → Prop} (h : Ru s f0 f more Cl) {n k : Nat} (hn : n ≤ s.m) (h1 : 1 ≤ n) (hf : f n = true) {x : Int} (hx : x ∈ s.R n) (hk : x = k) (h0 : k ≠ 0) (hfk : f k = false) : Ru s f0 (up f k true) true Cl' := by
  have hr := Rch.step (h.sound n hn hf) hx (by omega)
  have hlt := hr.lt hw
  have hu := unm_set f (n := k) (by omega) hfk s.m (by omega)
  refine ⟨by rw [up_other _ _ (Ne.symm h0)]; exact h.z, fun j j1 hj hin => ?_, fun j hj hjf => ?_, fun e => (by cases e), fun _ => ?_⟩
  · have := h.rt j j1 hj hin
    unfold up
    split
    · rfl
    · exact this
  · by_cases e : j = k
    · subst e; rw [← hk]; exact hr
    · rw [up_other _ _ e] at hjf
      exact h.sound j hj hjf
  · cases hm : more
    · have := (h.same hm).1
      rw [this] at hu ⊢
      omega
    · have := h.less hm
      omega
theorem Ru.pass {s : Gs} {f0 f : Nat → Bool} {more : Bool} {Cl Cl' : Nat → Int → Prop} (h : Ru s f0 f more Cl) (hc : ∀ n x, Cl' n x → Cl n x ∨ (f n = true → x ≠ 0 → f x.toNat = true)) : Ru s f0 f more Cl' :=
  ⟨h.z, h.rt, h.sound, fun hm => ⟨(h.same hm).1, fun n x c hf h0 => (hc n x c).elim (fun c => (h.same hm).2 n x c hf h0) fun c => c hf h0⟩, h.less⟩
theorem Ru.done {s : Gs} {M : Nat} (hw : Wf s M) {f0 f : Nat → Bool} (h : Ru s f0 f false (fun n x => 1 ≤ n ∧ n ≤ s.m ∧ x ∈ s.R n)) : ∀ n : Nat, n ≤ s.m → (f n = true ↔ Rch s n) := by
  have base : ∀ x : Int, Rch s x → f x.toNat = true := by
    intro x r
    have fl : ∀ x : Int, Rch s x → x ≠ 0 → x ∈ flat s s.nt → f x.toNat = true := fun x r h0 hin => by
      have hl := r.lt hw
      obtain ⟨n, rfl⟩ : ∃ n : Nat, x = n := ⟨x.toNat, by omega⟩
      exact h.rt n (by omega) (by omega) hin
    induction r with
    | glob hx h0 => exact fl _ (.glob hx h0) h0 ((flat_mem s _ _ h0).2 (.inl hx))
    | slot ht hx h0 => exact fl _ (.slot ht hx h0) h0 ((flat_mem s _ _ h0).2 (.inr ⟨_, ht, .inl hx⟩))
    | stack ht hx h0 => exact fl _ (.stack ht hx h0) h0 ((flat_mem s _ _ h0).2 (.inr ⟨_, ht, .inr hx⟩))
    | @step n x r hx h0 ih =>
      have hl := r.lt hw
      exact (h.same rfl).2 n x ⟨by omega, by omega, hx⟩ (by simpa using ih) h0
  exact fun n hn => ⟨h.sound n hn, fun r => by simpa using base n r⟩
/-- Between two rounds. -/
structure Rv (s : Gs) (f : Nat → Bool) (more : Bool) : Prop where
  z : f 0 = false
  rt : ∀ n : Nat, 1 ≤ n → n ≤ s.m → (n : Int) ∈ flat s s.nt → f n = true
  sound : ∀ n : Nat, n ≤ s.m → f n = true → Rch s n
  done : more = false → ∀ n : Nat, n ≤ s.m → (f n = true ↔ Rch s n)
theorem rv_start {s : Gs} {f : Nat → Bool} (h : On f s.m (flat s s.nt)) : Rv s (up f 0 false) true := by
  refine ⟨up_same _ _ _, fun n h1 hn hin => ?_, fun n hn hf => ?_, fun e => by cases e⟩
  · rw [up_other _ _ (by omega)]
    exact (h n h1 hn).2 hin
  · by_cases e : n = 0
    · subst e
      rw [up_same] at hf
      cases hf
    · rw [up_other _ _ e] at hf
      have h0 : (n : Int) ≠ 0 := by omega
      rcases (flat_mem s _ _ h0).1 ((h n (by omega) hn).1 hf) with hh | ⟨t, ht, hh | hh⟩
      · exact .glob hh h0
      · exact .slot ht hh h0
      · exact .stack ht hh h0
theorem Rv.round {s : Gs} {f : Nat → Bool} (h : Rv s f true) : Ru s f f false (fun _ _ => False) := ⟨h.z, h.rt, h.sound, fun _ => ⟨rfl, fun _ _ c => c.elim⟩, fun e => by cases e⟩
theorem Ru.out {s : Gs} {M : Nat} (hw : Wf s M) {f0 f : Nat → Bool} {more : Bool} (h : Ru s f0 f more (fun n x => 1 ≤ n ∧ n ≤ s.m ∧ x ∈ s.R n)) : Rv s f more :=
  ⟨h.z, h.rt, h.sound, fun e => by subst e; exact h.done hw⟩

end Go.Proofs.YtmbhhadghiojeaaGreat

namespace Go.Proofs.YtmbhhadghiojeaaGreat
set_option linter.unusedVariables false
set_option linter.unusedSimpArgs false
open Go.RowKit

set_option maxRecDepth 100000 in
set_option maxHeartbeats 4000000 in
theorem d_Reach {F : Nat → Prop} {w : World} {q : Nat} {s : Gs} {M : Nat} (hx : Dx F w q s) (hw : Wf s M) (hM : M ≤ 1000) : Calls Tryz.prog 12 #[.pointer (some ⟨q, 0, none⟩)] w fun e w' => ∃ g f, e = .returned (.slice (some ⟨g, 0, none⟩) (s.m + 1) (s.m + 1)) ∧ Bl w' g (s.m + 1) f ∧ (∀ n : Nat, n ≤ s.m → (f n = true ↔ Rch s n)) ∧ Kp [] w w' := by
  obtain ⟨y, hy, hf⟩ := hx
  have HY := Lib.hid hy
  have HW := Lib.hid hw
  have h64 := hw.n64
  have hmM := hw.m
  have h8 := hw.g8
  have c2 := hy.c2
  obtain ⟨oo, oc, ho⟩ := hy.ho.form
  rw [ho] at c2
  obtain ⟨m, hm⟩ : ∃ m, m = s.m := ⟨_, rfl⟩
  have HM := Lib.hid hm
  obtain ⟨nt, hnt⟩ : ∃ nt, nt = s.nt := ⟨_, rfl⟩
  have HNT := Lib.hid hnt
  obtain ⟨l0, hl0⟩ : ∃ l0, l0 = (s.R 0).length := ⟨_, rfl⟩
  have HL0 := Lib.hid hl0
  rw [← hm] at c2 hmM ⊢
  rw [← hnt] at h64
  rw [← hl0] at h8
  have hmk : ∀ w : World, (Instr.makeSlice 39 (.int .i64 ((m : Int) + 1)) (.int .i64 ((m : Int) + 1))).run Tryz.prog w = .ok (.slice (some ⟨w.heap.size, 0, none⟩) (m + 1) (m + 1)) (w.alloc (.cells (falses (m + 1)) 4)) := fun w => by
    have := make_bools (m + 1) (by omega) w
    rwa [show ((m + 1 : Nat) : Int) = (m : Int) + 1 from by omega] at this
  have H0 : Hid (Rk w w.heap.size m (fun _ => false) (w.alloc (.cells (falses (m + 1)) 4)) ∧ On (fun _ => false) m ((s.R 0).take 0)) := Lib.hid ⟨⟨bl_falses (heap_alloc_new w _), Nat.le_refl _, (Kp.refl _ _).alloc _⟩, fun n h1 hn => by simp⟩
  clear hy hw hf ho hm hnt hl0
  go_enter Tryz.func12, Tryz.ntmps12
  go_wp2_with fail
  clear hmk c2
  generalize w.heap.size = g at H0 ⊢
  generalize w.alloc (.cells (falses (m + 1)) 4) = w1 at H0 ⊢
  go_loopg [4] l0 (fun gg v wr => ∃ (i : Nat) (f : Nat → Bool), i + gg = l0 ∧ v = .int .i64 (i : Int) ∧ Hid (Rk w g m f wr ∧ On f m ((s.R 0).take i)))
  case atStart => exact ⟨0, _, by omega, rfl, H0⟩
  case round =>
    clear H0
    obtain ⟨i, f, hig, rfl, H⟩ := hrel
    have hyr := HY.out.keep0 H.out.1.kp
    have c1 := hyr.c1
    unfold refsV at c1
    rw [← HL0.out] at c1
    by_cases hi : i < l0
    · have hil : i < (s.R 0).length := HL0.out ▸ hi
      have cx := (hyr.hi 0 (Nat.zero_le _)).1.cell hil
      have hv := HW.out.vR 0 (Nat.zero_le _) _ (getD_mem hil)
      obtain ⟨n, hn⟩ : ∃ n : Nat, (s.R 0).getD i 0 = n := ⟨((s.R 0).getD i 0).toNat, by omega⟩
      have hnm : n ≤ m := by have := HM.out; omega
      have co := H.out.1.bl.cell (i := n) (by omega)
      have fo := H.out.1.bl.free n
      have HN : Hid (Rk w g m (up f n true) (wr.setCell ⟨g, n, none⟩ (.bool true)) ∧ On (up f n true) m ((s.R 0).take (i + 1))) := Lib.hid ⟨H.out.1.set hnm true, by rw [take_snoc hil]; exact H.out.2.put hn⟩
      rw [hn] at cx
      generalize y.ig 0 = ig at c1 cx
      generalize y.ic 0 = ic at c1
      generalize f n = b0 at co
      clear hyr hil hv hn H
      go_wp2_with fail
      go_roundg (l0 - (i + 1))
      case measure => omega
      case rel => exact ⟨i + 1, _, by omega, by go_num, HN⟩
    · obtain rfl : i = l0 := by omega
      have H1 : Hid (Rk w g m f wr ∧ On f m (flat s 0)) := Lib.hid ⟨H.out.1, by have := H.out.2; rw [HL0.out, List.take_length] at this; exact this⟩
      have hnn : ¬ ((i : Int) < (i : Int)) := by omega
      generalize y.ig 0 = ig at c1
      generalize y.ic 0 = ic at c1
      clear hyr H hig hi
      have c0 := (HY.out.keep0 H1.out.1.kp).c0
      rw [← HNT.out] at c0
      go_wp2_with fail
      clear c1 c0
      go_loopg [5] nt (fun gg v wr => ∃ (t : Nat) (f : Nat → Bool), t + gg = nt ∧ v = .int .i64 (t : Int) ∧ Hid (Rk w g m f wr ∧ On f m (flat s t)))
      case atStart => exact ⟨0, _, by omega, rfl, H1⟩
      case round =>
        clear H1
        obtain ⟨t, f, htg, rfl, H⟩ := hrel
        have hyr := HY.out.keep0 H.out.1.kp
        have c0 := hyr.c0
        rw [← HNT.out] at c0
        by_cases ht : t < nt
        · have hts : t < s.nt := HNT.out ▸ ht
          obtain ⟨c1, c2, _, _⟩ := hyr.tu hts
          obtain ⟨ao, cap, hu, -⟩ := (hyr.hu t hts).form
          obtain ⟨lo, lcap, hv, -⟩ := (hyr.hv t hts).form
          have hall := rall_any wr _ _ _ _ (hyr.hu t hts) (hyr.hv t hts) (hyr.la t hts).1 (hyr.la t hts).2
          rw [hu] at c1 hall
          rw [hv] at c2 hall
          have hzl := nz_le (s.A t ++ s.L t)
          rw [List.length_append] at hzl
          have hla := hyr.la t hts
          obtain ⟨zs, hzs⟩ : ∃ zs, zs = nz (s.A t ++ s.L t) := ⟨_, rfl⟩
          have HZ := Lib.hid hzs
          rw [← hzs] at hall hzl
          have hzl24 : zs.length ≤ 24 := by omega
          generalize (s.A t).length = na at c1 hall
          generalize (s.L t).length = nl at c2 hall
          generalize y.tb = tb at c0 c1 c2
          generalize y.tc = tc at c0
          clear hyr hts hu hv hzl hla hzs
          go_wp2_with fail
          refine hall.mono ?_
          rintro e w2 ⟨ao3, c3, rfl, hR, hk2⟩
          obtain ⟨zl, hzl⟩ : ∃ zl, zl = zs.length := ⟨_, rfl⟩
          have HZL := Lib.hid hzl
          rw [← hzl] at hzl24
          have H2 : Hid (Rk w g m f w2 ∧ On f m (flat s t ++ zs.take 0) ∧ Rd w2 (.slice ao3 zl c3) zs) := Lib.hid ⟨H.out.1.on hk2, by simpa using H.out.2, by rw [hzl]; exact hR.rd⟩
          rw [← hzl]
          clear hall hR hk2 hzl c0 c1 c2 H
          go_wp2_with fail
          go_loopg [7] zl (fun gg v wi => ∃ (i : Nat) (f : Nat → Bool), i + gg = zl ∧ v = .int .i64 (i : Int) ∧ Hid (Rk w g m f wi ∧ On f m (flat s t ++ zs.take i) ∧ Rd wi (.slice ao3 zl c3) zs))
          case atStart => exact ⟨0, _, by omega, rfl, H2⟩
          case round =>
            clear H2
            obtain ⟨i, f, hig, rfl, H⟩ := hrel
            by_cases hi : i < zl
            · have hil : i < zs.length := HZL.out ▸ hi
              obtain ⟨g3, o3, rfl, cx⟩ := H.out.2.2.cellAt hil
              have hin : zs.getD i 0 ∈ s.A t ++ s.L t := by
                have := getD_mem hil
                rw [HZ.out, mem_nz] at this
                rw [HZ.out]; exact this.1
              have hv : 0 ≤ zs.getD i 0 ∧ zs.getD i 0 ≤ s.m := by
                rw [List.mem_append] at hin
                rcases hin with h | h
                · exact HW.out.vA t (HNT.out ▸ ht) _ h
                · exact HW.out.vL t (HNT.out ▸ ht) _ h
              obtain ⟨n, hn⟩ : ∃ n : Nat, zs.getD i 0 = n := ⟨(zs.getD i 0).toNat, by omega⟩
              have hnm : n ≤ m := by have := HM.out; omega
              have co := H.out.1.bl.cell (i := n) (by omega)
              have fo := H.out.1.bl.free n
              obtain ⟨cur, hrow, _⟩ := H.out.1.bl
              have kn : Kp [g] wr (wr.setCell ⟨g, n, none⟩ (.bool true)) := (Kp.refl _ _).setCell (.inl (by simp)) _
              have HN : Hid (Rk w g m (up f n true) (wr.setCell ⟨g, n, none⟩ (.bool true)) ∧ On (up f n true) m (flat s t ++ zs.take (i + 1)) ∧ Rd (wr.setCell ⟨g, n, none⟩ (.bool true)) (.slice (some ⟨g3, o3, none⟩) zl c3) zs) :=
                Lib.hid ⟨H.out.1.set hnm true, by rw [take_snoc hil, ← List.append_assoc]; exact H.out.2.1.put hn, H.out.2.2.keep kn fun b hb => by simpa using H.out.2.2.nin hrow (by decide) b hb⟩
              rw [hn] at cx
              generalize f n = b0 at co
              clear hil hin hv hn hrow kn H
              go_wp2_with fail
              go_roundg (zl - (i + 1))
              case measure => omega
              case rel => exact ⟨i + 1, _, by omega, by go_num, HN⟩
            · obtain rfl : i = zl := by omega
              have HN : Hid (Rk w g m f wr ∧ On f m (flat s (t + 1))) := Lib.hid ⟨H.out.1, by have := H.out.2.1; rw [HZL.out, List.take_length, HZ.out] at this; exact this⟩
              have hnn2 : ¬ ((i : Int) < (i : Int)) := by omega
              clear H hig hi
              go_wp2_with fail
              go_roundg (nt - (t + 1))
              case measure => omega
              case rel => exact ⟨t + 1, _, by omega, by go_num, HN⟩
        · obtain rfl : t = nt := by omega
          have hnn2 : ¬ ((t : Int) < (t : Int)) := by omega
          have co := H.out.1.bl.cell (i := 0) (by omega)
          have fo := H.out.1.bl.free 0
          have HB : Hid (Rk w g m (up f 0 false) (wr.setCell ⟨g, 0, none⟩ (.bool false)) ∧ Rv s (up f 0 false) true) := Lib.hid ⟨H.out.1.set (Nat.zero_le _) false, by
            have := H.out.2
            rw [HM.out, HNT.out] at this
            exact rv_start this⟩
          generalize f 0 = b0 at co
          generalize y.tb = tb at c0
          generalize y.tc = tc at c0
          clear hyr H htg ht
          go_wp2_with fail
          clear co fo c0
          generalize wr.setCell ⟨g, 0, none⟩ (.bool false) = w4 at HB ⊢
          generalize up f 0 false = f4 at HB
          obtain ⟨N4, hN4⟩ : ∃ N4, N4 = 2 * unm f4 m + 1 := ⟨_, rfl⟩
          have H4 : Hid (2 * unm f4 m + 1 ≤ N4 ∧ Rk w g m f4 w4 ∧ Rv s f4 true) := Lib.hid ⟨by omega, HB.out⟩
          clear hN4 HB
          go_loopg [8] N4 (fun gg v wr => ∃ (more : Bool) (f1 : Nat → Bool), v = .bool more ∧ Hid (2 * unm f1 m + (if more = true then 1 else 0) ≤ gg ∧ Rk w g m f1 wr ∧ Rv s f1 more))
          case atStart => exact ⟨true, _, rfl, H4⟩
          case round =>
            clear H4
            obtain ⟨more, f1, rfl, H⟩ := hrel
            cases more
            · have HE : Hid (Bl wr g (m + 1) f1 ∧ (∀ n : Nat, n ≤ m → (f1 n = true ↔ Rch s n)) ∧ Kp [] w wr) := Lib.hid ⟨H.out.2.1.bl, by rw [HM.out]; exact H.out.2.2.done rfl, H.out.2.1.kp⟩
              clear H
              go_wp2_with fail
              go_ret
              exact ⟨g, f1, rfl, HE.out.1, HE.out.2.1, HE.out.2.2⟩
            · have hge : 2 * unm f1 m + 1 ≤ gk := by simpa using H.out.1
              have H5 : Hid (Rk w g m f1 wr ∧ Ru s f1 f1 false (fun k x => 1 ≤ k ∧ k < 0 + 1 ∧ x ∈ s.R k)) := Lib.hid ⟨H.out.2.1, H.out.2.2.round.pass fun k x hk => by omega⟩
              clear H
              go_wp2_with fail
              go_loopg [8, 9] m (fun gg v8 v9 wr => ∃ (more : Bool) (f2 : Nat → Bool) (n : Nat), n + gg = m ∧ v8 = .bool more ∧ v9 = .int .i64 ((n : Int) + 1) ∧ Hid (Rk w g m f2 wr ∧ Ru s f1 f2 more (fun k x => 1 ≤ k ∧ k < n + 1 ∧ x ∈ s.R k)))
              case atStart => exact ⟨false, _, 0, by omega, rfl, rfl, H5⟩
              case round =>
                clear H5
                obtain ⟨more, f2, n, hng, rfl, rfl, H⟩ := hrel
                have hyr := HY.out.keep0 H.out.1.kp
                have c2 := hyr.c2
                by_cases hn : n < m
                · have hns : n + 1 ≤ s.m := by have := HM.out; omega
                  obtain ⟨b, c, hob, c3, _⟩ := hyr.ob (n := n + 1) (by omega) hns
                  rw [hob, ← HM.out] at c2
                  obtain ⟨l, hl⟩ : ∃ l, l = (s.R (n + 1)).length := ⟨_, rfl⟩
                  have HL := Lib.hid hl
                  have h95 := HW.out.r95 (n + 1) (by omega) hns
                  rw [← hl] at h95
                  have hl95 : l ≤ 95 := by omega
                  have HOB := Lib.hid hob
                  have H6 : Hid (Rk w g m f2 wr ∧ Ru s f1 f2 more (fun k x => (1 ≤ k ∧ k < n + 1 ∧ x ∈ s.R k) ∨ (k = n + 1 ∧ x ∈ (s.R (n + 1)).take 0))) := Lib.hid ⟨H.out.1, H.out.2.pass fun k x hk => by
                    rcases hk with hk | ⟨_, hk⟩
                    · exact .inl hk
                    · simp at hk⟩
                  have hnle : ((n : Int) + 1 ≤ (m : Int)) := by omega
                  clear hyr c3 hob hl h95 H
                  go_wp2_with fail
                  clear c2 hnle
                  go_loopg [8, 10] l (fun gg v8 v10 wr => ∃ (more : Bool) (f3 : Nat → Bool) (i : Nat), i + gg = l ∧ v8 = .bool more ∧ v10 = .int .i64 (i : Int) ∧ Hid (Rk w g m f3 wr ∧ Ru s f1 f3 more (fun k x => (1 ≤ k ∧ k < n + 1 ∧ x ∈ s.R k) ∨ (k = n + 1 ∧ x ∈ (s.R (n + 1)).take i))))
                  case atStart => exact ⟨more, f2, 0, by omega, rfl, rfl, H6⟩
                  case round =>
                    clear H6
                    obtain ⟨more, f3, i, hig, rfl, rfl, H⟩ := hrel
                    have co := H.out.1.bl.cell (i := n + 1) (by omega)
                    cases hfn : f3 (n + 1)
                    · rw [hfn] at co
                      have HN : Hid (Rk w g m f3 wr ∧ Ru s f1 f3 more (fun k x => 1 ≤ k ∧ k < n + 1 + 1 ∧ x ∈ s.R k)) := Lib.hid ⟨H.out.1, H.out.2.pass fun k x hk => by
                        by_cases e : k = n + 1
                        · subst e
                          exact .inr fun hf => by rw [hfn] at hf; cases hf
                        · exact .inl (.inl ⟨hk.1, by omega, hk.2.2⟩)⟩
                      clear H hfn
                      go_wp2_with fail
                      go_roundg (m - (n + 1))
                      case measure => omega
                      case rel => exact ⟨more, f3, n + 1, by omega, rfl, by go_num, HN⟩
                    · rw [hfn] at co
                      have hyr := HY.out.keep0 H.out.1.kp
                      have c2 := hyr.c2
                      obtain ⟨b', c', hob', c3, _⟩ := hyr.ob (n := n + 1) (by omega) hns
                      rw [HOB.out] at hob' c2
                      simp only [Value.slice.injEq, Option.some.injEq, Addr.mk.injEq, true_and, and_true] at hob'
                      obtain ⟨rfl, rfl⟩ := hob'
                      rw [← HM.out] at c2
                      rw [show n + 1 - 1 = n from by omega] at c3
                      unfold refsV at c3
                      rw [← HL.out] at c3
                      by_cases hi : i < l
                      · have hil : i < (s.R (n + 1)).length := HL.out ▸ hi
                        have cx := (hyr.hi (n + 1) hns).1.cell hil
                        have hv := HW.out.vR (n + 1) hns _ (getD_mem hil)
                        obtain ⟨k, hk⟩ : ∃ k : Nat, (s.R (n + 1)).getD i 0 = k := ⟨((s.R (n + 1)).getD i 0).toNat, by omega⟩
                        have hkm : k ≤ m := by have := HM.out; omega
                        have hxin := getD_mem hil
                        rw [hk] at cx hxin
                        have ck := H.out.1.bl.cell (i := k) (by omega)
                        have fk := H.out.1.bl.free k
                        have snoc : ∀ x, x ∈ (s.R (n + 1)).take (i + 1) → x ∈ (s.R (n + 1)).take i ∨ x = (k : Int) := fun x hx => by
                          rw [take_snoc hil, List.mem_append, List.mem_singleton, hk] at hx
                          exact hx
                        generalize y.ig (n + 1) = ig at c3 cx
                        generalize y.ic (n + 1) = ic at c3
                        by_cases hk0 : k = 0
                        · have HN : Hid (Rk w g m f3 wr ∧ Ru s f1 f3 more (fun k x => (1 ≤ k ∧ k < n + 1 ∧ x ∈ s.R k) ∨ (k = n + 1 ∧ x ∈ (s.R (n + 1)).take (i + 1)))) := Lib.hid ⟨H.out.1, H.out.2.pass fun j x hj => by
                            rcases hj with hj | ⟨e, hx⟩
                            · exact .inl (.inl hj)
                            · rcases snoc x hx with hx | hx
                              · exact .inl (.inr ⟨e, hx⟩)
                              · exact .inr fun _ h0 => absurd (by omega) h0⟩
                          subst hk0
                          clear H hyr hil hv hk hxin snoc ck fk hfn
                          go_wp2_with fail
                          go_roundg (l - (i + 1))
                          case measure => omega
                          case rel => exact ⟨more, f3, i + 1, by omega, rfl, by go_num, HN⟩
                        · have hkb : ((k : Int) != 0) = true := by simpa using hk0
                          have hkb2 : ((k : Int) == 0) = false := by simpa using hk0
                          cases hfk : f3 k
                          · have HN : Hid (Rk w g m (up f3 k true) (wr.setCell ⟨g, k, none⟩ (.bool true)) ∧ Ru s f1 (up f3 k true) true (fun k x => (1 ≤ k ∧ k < n + 1 ∧ x ∈ s.R k) ∨ (k = n + 1 ∧ x ∈ (s.R (n + 1)).take (i + 1)))) :=
                              Lib.hid ⟨H.out.1.set hkm true, H.out.2.more HW.out hns (by omega) hfn hxin rfl hk0 hfk⟩
                            rw [hfk] at ck
                            clear H hyr hil hv hk hxin snoc hfn hfk
                            go_wp2_with fail
                            go_roundg (l - (i + 1))
                            case measure => omega
                            case rel => exact ⟨true, _, i + 1, by omega, rfl, by go_num, HN⟩
                          · have HN : Hid (Rk w g m f3 wr ∧ Ru s f1 f3 more (fun k x => (1 ≤ k ∧ k < n + 1 ∧ x ∈ s.R k) ∨ (k = n + 1 ∧ x ∈ (s.R (n + 1)).take (i + 1)))) := Lib.hid ⟨H.out.1, H.out.2.pass fun j x hj => by
                              rcases hj with hj | ⟨e, hx⟩
                              · exact .inl (.inl hj)
                              · rcases snoc x hx with hx | hx
                                · exact .inl (.inr ⟨e, hx⟩)
                                · exact .inr fun _ _ => by rw [hx]; simpa using hfk⟩
                            rw [hfk] at ck
                            clear H hyr hil hv hk hxin snoc hfn hfk fk
                            go_wp2_with fail
                            go_roundg (l - (i + 1))
                            case measure => omega
                            case rel => exact ⟨more, f3, i + 1, by omega, rfl, by go_num, HN⟩
                      · obtain rfl : i = l := by omega
                        have HN : Hid (Rk w g m f3 wr ∧ Ru s f1 f3 more (fun k x => 1 ≤ k ∧ k < n + 1 + 1 ∧ x ∈ s.R k)) := Lib.hid ⟨H.out.1, H.out.2.pass fun k x hk => by
                          by_cases e : k = n + 1
                          · subst e
                            exact .inl (.inr ⟨rfl, by rw [HL.out, List.take_length]; exact hk.2.2⟩)
                          · exact .inl (.inl ⟨hk.1, by omega, hk.2.2⟩)⟩
                        have hnn3 : ¬ ((i : Int) < (i : Int)) := by omega
                        generalize y.ig (n + 1) = ig at c3
                        generalize y.ic (n + 1) = ic at c3
                        clear H hyr hfn hi hig
                        go_wp2_with fail
                        go_roundg (m - (n + 1))
                        case measure => omega
                        case rel => exact ⟨more, f3, n + 1, by omega, rfl, by go_num, HN⟩
                · obtain rfl : n = m := by omega
                  obtain ⟨oo', oc', ho'⟩ := hyr.ho.form
                  rw [ho', ← HM.out] at c2
                  have hR : Ru s f1 f2 more (fun k x => 1 ≤ k ∧ k ≤ s.m ∧ x ∈ s.R k) := H.out.2.pass fun k x hk => .inl ⟨hk.1, by have := HM.out; omega, hk.2.2⟩
                  have hmeas : 2 * unm f2 n + (if more = true then 1 else 0) < 2 * unm f1 n + 1 := by
                    cases hm : more
                    · have := (hR.same hm).1
                      rw [this]
                      simp
                    · have := hR.less hm
                      rw [← HM.out] at this
                      simp
                      omega
                  obtain ⟨G4, hG4⟩ : ∃ G4, G4 = 2 * unm f2 n + (if more = true then 1 else 0) := ⟨_, rfl⟩
                  have HN : Hid (2 * unm f2 n + (if more = true then 1 else 0) ≤ G4 ∧ Rk w g n f2 wr ∧ Rv s f2 more) := Lib.hid ⟨Nat.le_of_eq hG4.symm, H.out.1, hR.out HW.out⟩
                  rw [← hG4] at hmeas
                  clear hG4
                  have hnn4 : ¬ ((n : Int) + 1 ≤ (n : Int)) := by omega
                  clear H hR hyr hng hn ho'
                  go_wp2_with fail
                  go_roundg G4
                  case measure => omega
                  case rel => exact ⟨more, f2, rfl, HN⟩

end Go.Proofs.YtmbhhadghiojeaaGreat
