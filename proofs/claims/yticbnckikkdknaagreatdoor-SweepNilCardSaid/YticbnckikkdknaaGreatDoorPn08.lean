/- The walks of package alloc: an object in a run of blocks. Makers, plainly, on: what the document makes is what the program makes. Makers, plainly, on: what stays so whatever is made. The walks of package alloc: Make, of what there is not, and of what goes into a cell. Rows of the call's own, of elements of whatever type; 'append', its run and its law; such a row as what is held of blocks. Conditions: as each lemma states them. The walks of layer layout, on: New. The walks of the document's own layout (demesneref06). Conditions: as each theorem states them. -/
import Derived.Test.YticbnckikkdknaaGreatDoorRows
import Derived.OneCell
import Derived.Deep.Draws
import Derived.ProofKit
import Derived.OwnWalk
import Derived.ArgAppend
import Derived.Deep.AppendLies
import Derived.Maps.AppendAt
import Derived.Laws.BytesArg
import Derived.Deep.RegionLaw
import Derived.Test.YticbnckikkdknaaGreatDoorPn01
import Derived.Test.YticbnckikkdknaaGreatDoorPn02
import Derived.Test.YticbnckikkdknaaGreatDoorPn07
namespace Go.Proofs.YticbnckikkdknaaGreatDoor
set_option linter.unusedVariables false
set_option linter.unusedSimpArgs false
set_option maxRecDepth 100000
open Go.RowKit

/-- A run, if need be out of what waited, plainly. -/
def blocksH (T G n o : Nat) (wk : Bool) (H : List Int) (run : Nat) : List Int × Option Nat :=
  if (claimH n H run).2.isSome || wk then claimH n H run else claimH n (tidyH T G n o wk (claimH n H run).1) run
def tailH (T G b : Nat) (H : List Int) : Nat → List Int
  | 0 => H
  | i + 1 => (tailH T G b H i).set (3 + T + G + (b + (1 + i))) 3
def largeS (T G n o : Nat) (wk : Bool) (run rf sz : Nat) (s : Hs) : Hs × Option Int :=
  match (blocksH T G n o wk s.1 run).2 with
  | none => (((blocksH T G n o wk s.1 run).1, s.2), none)
  | some b => ((((tailH T G b (clearH (blocksH T G n o wk s.1 run).1 (3 + T + G + n + 32 * b) sz) (run - 1)).set (3 + T + G + n + 32 * b) (Wd.wordI 2 0 o rf sz false false)).set (3 + T + G + b) (Tb.wordE 2 0 run o), s.2), some ((3 + T + G + n + 32 * b : Nat) : Int))

section
variable {T G n p r q t o a : Nat} {wk : Bool} {hd : Value} {vs vs' vs'' : Nat → Value} {H : List Int} {R : Nat → List Int} {w w0 w1 w2 wx wy : World} {Sh : List Nat} {P : Nat → World → Prop}
theorem tailH_len (b : Nat) (i : Nat) : (tailH T G b H i).length = H.length := by
  induction i with
  | zero => rfl
  | succ i ih => simp [tailH, ih]
theorem claimH_in {run b : Nat} (h : (claimH n H run).2 = some b) : b + run ≤ n := by
  unfold claimH at h
  split at h
  · simp at h
  · simp only at h
    split at h
    · simp only [Option.some.injEq] at h; omega
    · simp at h
theorem blocksH_len (run : Nat) : (blocksH T G n o wk H run).1.length = H.length := by
  unfold blocksH; split
  · exact claimH_len _
  · rw [claimH_len, tidyH_len, claimH_len]
theorem blocksH_in {run b : Nat} (h : (blocksH T G n o wk H run).2 = some b) : b + run ≤ n := by
  unfold blocksH at h; split at h
  · exact claimH_in h
  · exact claimH_in h

set_option maxHeartbeats 4000000 in
theorem a_blocks (h : Mw T G n p r q vs H R t w) (ht : t ≤ 500000) (run : Nat) (hr : 1 ≤ run ∧ run ≤ 3) :
    Calls Tryz.prog 137 #[mkV T G n p q o wk hd, .int .i64 run] w fun e w' => e = .returned (.tuple #[.int .i64 ((blocksH T G n o wk H run).2.getD 0 : Nat), .bool (blocksH T G n o wk H run).2.isSome]) ∧ Mw T G n p r q vs (blocksH T G n o wk H run).1 R (t + 5 * n + 2) w' ∧ Kp [p, r] w w' := by
  have hf := h.fit
  have hlt := h.lt
  have HC1 : Hid (Calls Tryz.prog 156 #[mkV T G n p q o wk hd, .int .i64 run] (mkW w T G n p q o wk hd) fun e w' => e = .returned (.tuple #[.int .i64 ((claimH n H run).2.getD 0 : Nat), .bool (claimH n H run).2.isSome]) ∧ Mw T G n p r q vs (claimH n H run).1 R (t + 1) w' ∧ Kp [p, r] w w' ∧ w'.heap[w.heap.size]? = some (.cells (mkC T G n p q o wk hd) 130 (0, 0))) := by
    refine Lib.hid ((a_claim (o := o) (wk := wk) (hd := hd) (h.on (mkW_kp w T G n p q o wk hd)) (by omega) run hr).mono ?_)
    rintro e w' ⟨rfl, h1, h2⟩
    exact ⟨rfl, h1, ((mkW_kp w T G n p q o wk hd).mono (by simp)).trans h2, h2.row (by simp; omega) (mkW_row w T G n p q o wk hd)⟩
  have HTi : Hid (∀ w1, Mw T G n p r q vs (claimH n H run).1 R (t + 1) w1 → Calls Tryz.prog 157 #[mkV T G n p q o wk hd] w1 fun e w' => e = .returned (.tuple #[]) ∧ Mw T G n p r q vs (tidyH T G n o wk (claimH n H run).1) R (t + 1 + 5 * n) w' ∧ Kp [p, r] w1 w') := Lib.hid fun w1 h1 => a_tidy h1 (by omega)
  have HC2 : Hid (∀ w1, Mw T G n p r q vs (tidyH T G n o wk (claimH n H run).1) R (t + 1 + 5 * n) w1 → Calls Tryz.prog 156 #[mkV T G n p q o wk hd, .int .i64 run] w1 fun e w' => e = .returned (.tuple #[.int .i64 ((claimH n (tidyH T G n o wk (claimH n H run).1) run).2.getD 0 : Nat), .bool (claimH n (tidyH T G n o wk (claimH n H run).1) run).2.isSome]) ∧ Mw T G n p r q vs (claimH n (tidyH T G n o wk (claimH n H run).1) run).1 R (t + 1 + 5 * n + 1) w' ∧ Kp [p, r] w1 w') := Lib.hid fun w1 h1 => a_claim h1 (by omega) run hr
  have HB : Hid (blocksH T G n o wk H run = if (claimH n H run).2.isSome || wk then claimH n H run else claimH n (tidyH T G n o wk (claimH n H run).1) run) := Lib.hid rfl
  have HNe : Hid (w.heap.size ≠ p ∧ w.heap.size ≠ r) := Lib.hid (by omega)
  generalize claimH n (tidyH T G n o wk (claimH n H run).1) run = c2 at HC2 HB
  generalize tidyH T G n o wk (claimH n H run).1 = H1 at HTi HC2
  generalize claimH n H run = c1 at HC1 HTi HB
  generalize blocksH T G n o wk H run = fin at HB ⊢
  unfold mkW at HC1
  clear h ht hf hlt hr
  obtain ⟨u, hu⟩ : ∃ u, c1.2.isSome = u := ⟨_, rfl⟩
  rw [hu] at HC1 HB
  have HU := Lib.hid hu
  clear hu
  go_enter Tryz.func137, Tryz.ntmps137
  have HC10 := HC1
  unfold mkC at HC10
  go_wp2_with fail
  refine HC10.out.mono ?_
  rintro e w1 ⟨rfl, h1, hk1, hrow1⟩
  have hrow : w1.heap[w.heap.size]? = some (.cells (mkC T G n p q o wk hd) 130 (0, 0)) := hrow1
  obtain ⟨r0, r1, r2, r3, r4, r5, r6, r7, -⟩ := ms_of (F := fun _ => True) hrow trivial
  have F1 := Lib.hid (And.intro h1 (And.intro hk1 hrow))
  clear h1 hk1 hrow1 hrow HC1 HC10
  cases u
  · cases wk
    · have hfin : fin = c2 := by rw [HB.out]; simp
      have HFin := Lib.hid hfin
      have HT1 := Lib.hid (HTi.out _ F1.out.1)
      clear hfin HB
      go_wp2_with fail
      refine HT1.out.mono ?_
      rintro e w2 ⟨rfl, h2, hk2⟩
      have hrow2 := hk2.row (by have := HNe.out; simp; omega) F1.out.2.2
      obtain ⟨s0, s1, s2, s3, s4, s5, s6, s7, -⟩ := ms_of (F := fun _ => True) hrow2 trivial
      have HC3 := Lib.hid (HC2.out _ h2)
      have K2 := Lib.hid (F1.out.2.1.trans hk2)
      clear h2 hk2 hrow2 r0 r1 r2 r3 r4 r5 r6 r7
      go_wp2_with fail
      refine HC3.out.mono ?_
      rintro e w3 ⟨rfl, h3, hk3⟩
      have F3 := Lib.hid (And.intro (h3.more (show t + 1 + 5 * n + 1 ≤ t + 5 * n + 2 by omega)) (K2.out.trans hk3))
      clear h3 hk3
      go_wp2_with fail
      go_ret2
      exact ⟨by rw [HFin.out]; rfl, by rw [HFin.out]; exact F3.out.1, F3.out.2⟩
    · have hfin : fin = c1 := by rw [HB.out]; simp
      have HFin := Lib.hid hfin
      clear hfin HB
      go_wp2_with fail
      go_ret2
      exact ⟨by rw [HFin.out, HU.out]; rfl, by rw [HFin.out]; exact F1.out.1.more (by omega), F1.out.2.1⟩
  · have hfin : fin = c1 := by rw [HB.out]; simp
    have HFin := Lib.hid hfin
    clear hfin HB
    go_wp2_with fail
    go_ret2
    exact ⟨by rw [HFin.out, HU.out]; rfl, by rw [HFin.out]; exact F1.out.1.more (by omega), F1.out.2.1⟩
theorem tail_may : Tb.mayE 3 0 0 0 = true := by decide
theorem head_may (run o : Nat) (hr : 1 ≤ run ∧ run ≤ 3) (ho : o < 64) : Tb.mayE 2 0 run o = true := by
  rw [Tb.mayE_iff]; omega
theorem run_room {sz run : Nat} (h : Cl.runC sz = run) (h9 : 9 ≤ sz) (h95 : sz ≤ 95) : 1 ≤ run ∧ run ≤ 3 ∧ sz + 1 ≤ 32 * run := by
  rcases Cl.run_ofs (sz : Int) with h1 | h1 | h1 | h1 | h1 <;> omega

set_option maxHeartbeats 1000000 in
theorem a_large (h : Mw T G n p r q vs H R t w) (ht : t ≤ 300000) (ho : o < 64) (run rf sz : Nat) (hrun : Cl.runC sz = run) (hr : rf ≤ sz) (h9 : 9 ≤ sz) (h95 : sz ≤ 95) (ho2 : HoldOk T G n p r q o wk hd vs w Sh P) :
    Calls Tryz.prog 95 #[mkV T G n p q o wk hd, .agg #[.int .u8 2, .int .u8 0, .bool false, .bool false, .int .u8 o, .int .u8 rf, .int .u8 sz]] w fun e w' => e = .returned (.tuple #[.int .i64 ((largeS T G n o wk run rf sz (H, R)).2.getD 0), .int .i64 (erM (largeS T G n o wk run rf sz (H, R)).2)]) ∧ ∃ vs', Mw T G n p r q vs' (largeS T G n o wk run rf sz (H, R)).1.1 (largeS T G n o wk run rf sz (H, R)).1.2 (t + 5 * n + 110) w' ∧ Mh Sh p r q vs vs' w w' ∧ Tp Sh P (largeS T G n o wk run rf sz (H, R)).2 w w' := by
  have hf := h.fit
  have hsm := h.sm
  have hrm := run_room hrun h9 h95
  have KB : Kp [] w ((mkW w T G n p q o wk hd).alloc (.cells #[.int .u8 2, .int .u8 0, .bool false, .bool false, .int .u8 o, .int .u8 rf, .int .u8 sz] 59)) := (mkW_kp w T G n p q o wk hd).alloc _
  have HRn : Hid (∀ w, Calls Tryz.prog 136 #[.int .i64 sz] w fun e w' => e = .returned (.tuple #[.int .i64 run, .bool true]) ∧ w = w') := by
    refine Lib.hid fun w => ?_
    have := Cl.run_is w sz run hrun
    rwa [show decide (0 < (run : Int)) = true from by simp; omega] at this
  have hrowk : ((mkW w T G n p q o wk hd).alloc (.cells #[.int .u8 2, .int .u8 0, .bool false, .bool false, .int .u8 o, .int .u8 rf, .int .u8 sz] 59)).heap[w.heap.size]? = some (.cells (mkC T G n p q o wk hd) 130 (0, 0)) := ((Kp.refl [] _).alloc _).row (by simp) (mkW_row w T G n p q o wk hd)
  have hrowh : ((mkW w T G n p q o wk hd).alloc (.cells #[.int .u8 2, .int .u8 0, .bool false, .bool false, .int .u8 o, .int .u8 rf, .int .u8 sz] 59)).heap[w.heap.size + 1]? = some (.cells #[.int .u8 2, .int .u8 0, .bool false, .bool false, .int .u8 o, .int .u8 rf, .int .u8 sz] 59 (0, 0)) := by
    have := heap_alloc_new (mkW w T G n p q o wk hd) (.cells #[.int .u8 2, .int .u8 0, .bool false, .bool false, .int .u8 o, .int .u8 rf, .int .u8 sz] 59)
    rwa [show (mkW w T G n p q o wk hd).heap.size = w.heap.size + 1 from World.size_alloc _ _] at this
  have h1 := h.on KB
  have hap := h1.apart hrowk (by decide) (by decide) (by decide) (by decide)
  have haph := h1.apart hrowh (by decide) (by decide) (by decide) (by decide)
  have HNe := Lib.hid (And.intro hap haph)
  have hlt := h.lt
  have HBl : Hid (Calls Tryz.prog 137 #[mkV T G n p q o wk hd, .int .i64 run] ((mkW w T G n p q o wk hd).alloc (.cells #[.int .u8 2, .int .u8 0, .bool false, .bool false, .int .u8 o, .int .u8 rf, .int .u8 sz] 59)) fun e w' => e = .returned (.tuple #[.int .i64 ((blocksH T G n o wk H run).2.getD 0 : Nat), .bool (blocksH T G n o wk H run).2.isSome]) ∧ Mw T G n p r q vs (blocksH T G n o wk H run).1 R (t + 5 * n + 2) w' ∧ Kp [p, r] w w' ∧ w'.heap[w.heap.size]? = some (.cells (mkC T G n p q o wk hd) 130 (0, 0)) ∧ w'.heap[w.heap.size + 1]? = some (.cells #[.int .u8 2, .int .u8 0, .bool false, .bool false, .int .u8 o, .int .u8 rf, .int .u8 sz] 59 (0, 0))) := by
    refine Lib.hid ((a_blocks (o := o) (wk := wk) (hd := hd) h1 (by omega) run (by omega)).mono ?_)
    rintro e w' ⟨rfl, h2, h3⟩
    exact ⟨rfl, h2, (KB.mono (by simp)).trans h3, h3.row (by simp; omega) hrowk, h3.row (by simp; omega) hrowh⟩
  have HIn : Hid (∀ b, (blocksH T G n o wk H run).2 = some b → b + run ≤ n) := Lib.hid fun b hb => blocksH_in hb
  have hlen := blocksH_len (T := T) (G := G) (n := n) (o := o) (wk := wk) (H := H) run
  have HLg : Hid (largeS T G n o wk run rf sz (H, R) = match (blocksH T G n o wk H run).2 with
    | none => (((blocksH T G n o wk H run).1, R), none)
    | some b => ((((tailH T G b (clearH (blocksH T G n o wk H run).1 (3 + T + G + n + 32 * b) sz) (run - 1)).set (3 + T + G + n + 32 * b) (Wd.wordI 2 0 o rf sz false false)).set (3 + T + G + b) (Tb.wordE 2 0 run o), R), some ((3 + T + G + n + 32 * b : Nat) : Int))) := Lib.hid rfl
  generalize largeS T G n o wk run rf sz (H, R) = fin at HLg ⊢
  generalize (blocksH T G n o wk H run).1 = Hc at HBl HLg hlen
  generalize (blocksH T G n o wk H run).2 = res at HBl HLg HIn
  have HO := Lib.hid ho2
  have HN := Lib.hid (And.intro hf (And.intro ht (And.intro hrm (And.intro hr (And.intro h95 (And.intro ho (And.intro hsm hlen)))))))
  unfold mkW mkC at HBl
  have hr3 := hrm
  clear h hf ht ho hrun hr h9 h95 ho2 hsm hrm KB hrowk hrowh h1 hap haph hlen
  cases res with
  | none =>
    have hfin : fin = ((Hc, R), none) := HLg.out
    go_enter Tryz.func95, Tryz.ntmps95
    go_wp2_with fail
    refine (HRn.out _).mono ?_
    rintro e w0 ⟨rfl, rfl⟩
    go_wp2_with fail
    refine HBl.out.mono ?_
    rintro e w1 ⟨rfl, h1, hk1, -, -⟩
    have F : Hid (((fin.2).getD 0 = 0) ∧ erM fin.2 = 7 ∧ ∃ vs', Mw T G n p r q vs' fin.1.1 fin.1.2 (t + 5 * n + 110) w1 ∧ Mh Sh p r q vs vs' w w1 ∧ Tp Sh P fin.2 w w1) := Lib.hid (by rw [hfin]; exact ⟨rfl, rfl, vs, h1.more (by omega), Mh.of_mk (Mk.of_kp hk1 (by simp)), Tp.of_none rfl (Mk.of_kp (vs := vs) hk1 (by simp)) HO.out.old⟩)
    clear h1 hk1 hfin
    go_wp2_with fail
    go_ret2
    exact ⟨by rw [F.out.1, F.out.2.1]; rfl, F.out.2.2⟩
  | some b =>
    have hb := HIn.out b rfl
    have HBn := Lib.hid hb
    have hSt : Hid (∀ w, Calls Tryz.prog 70 #[.agg #[.int .i64 T, .int .i64 G, .int .i64 n], .int .i64 b] w fun e w' => e = .returned (.int .i64 ((3 + T + G + n + 32 * b : Nat) : Int)) ∧ Kp [] w w') := Lib.hid (fun w => Ly.start_is T G n b ((3 + T + G + n + 32 * b : Nat) : Int) w (by have := HN.out; rw [Ly.rowP_in (by omega) (by omega)]; omega) (by omega) (by have := HN.out; omega) (by omega) (by have := HN.out; omega) (by omega) (by have := HN.out; omega))
    have hfit : 3 + T + G + n + 32 * b + sz < H.length := by have := HN.out; omega
    have HFit := Lib.hid hfit
    have HLg2 : Hid (fin = ((((tailH T G b (clearH Hc (3 + T + G + n + 32 * b) sz) (run - 1)).set (3 + T + G + n + 32 * b) (Wd.wordI 2 0 o rf sz false false)).set (3 + T + G + b) (Tb.wordE 2 0 run o), R), some ((3 + T + G + n + 32 * b : Nat) : Int))) := HLg
    generalize 3 + T + G + n + 32 * b = k at hSt HFit HLg2 hfit
    have hk5 : k ≤ 5000 := by have := HN.out; omega
    clear HLg hfit
    go_enter Tryz.func95, Tryz.ntmps95
    go_wp2_with fail
    refine (HRn.out _).mono ?_
    rintro e w0 ⟨rfl, rfl⟩
    go_wp2_with fail
    refine HBl.out.mono ?_
    rintro e w1 ⟨rfl, h1, hk1, hrow1, hrowh1⟩
    have hrow1' : w1.heap[w.heap.size]? = some (.cells (mkC T G n p q o wk hd) 130 (0, 0)) := hrow1
    have F1 := Lib.hid (And.intro h1 (And.intro hk1 (And.intro hrow1' hrowh1)))
    obtain ⟨r0, r1, r2, r3, r4, r5, r6, r7, -⟩ := ms_of (F := fun _ => True) hrow1' trivial
    clear h1 hk1 hrow1 hrow1' hrowh1 HBl
    go_wp2_with fail
    refine (hSt.out _).mono ?_
    rintro e w2 ⟨rfl, hk2⟩
    have hrow2 := hk2.row (by simp) F1.out.2.2.1
    have hrowh2 := hk2.row (by simp) F1.out.2.2.2
    have F2 := Lib.hid (And.intro (F1.out.1.on hk2) (And.intro (F1.out.2.1.trans (hk2.mono (by simp))) (And.intro hrow2 hrowh2)))
    have HHo := Lib.hid (HO.out.run k vs w2 (Mk.of_kp (F1.out.2.1.trans (hk2.mono (by simp))) (by simp)) hk5)
    obtain ⟨s0, s1, s2, s3, s4, s5, s6, s7, -⟩ := ms_of (F := fun _ => True) hrow2 trivial
    clear hk2 hrow2 hrowh2 r0 r1 r2 r3 r4 r5 r6 r7
    go_wp2_with fail
    refine HHo.out.mono ?_
    rintro e w3 ⟨rfl, hk3, hP3⟩
    have hne1 : w.heap.size ∉ Sh := fun e => by have := (HO.out.old _ e).1; omega
    have hne2 : w.heap.size + 1 ∉ Sh := fun e => by have := (HO.out.old _ e).1; omega
    have hrow3 := hk3.row hne1 F2.out.2.2.1
    have hrowh3 := hk3.row hne2 F2.out.2.2.2
    have hM3 := F2.out.1.told hk3 (fun b hb => (HO.out.old b hb).on (Mk.of_kp (p := p) (r := r) (q := q) F2.out.2.1 (by simp)))
    have F3 := Lib.hid (And.intro hM3 (And.intro ((Mh.of_mk (Sh := Sh) (p := p) (r := r) (q := q) (vs := vs) (Mk.of_kp F2.out.2.1 (by simp))).trans (Mh.of_kp hk3)) (And.intro hrow3 hrowh3)))
    have HP3 := Lib.hid hP3
    have HCl := Lib.hid (a_clear (o := o) (wk := wk) (hd := hd) hM3 (by have := HN.out; omega) k sz (by have := HN.out; omega) (by have := HN.out; have := HFit.out; omega) (.int .u8 2) (.int .u8 0) (.bool false) (.bool false) (.int .u8 o) (.int .u8 rf))
    obtain ⟨r0, r1, r2, r3, r4, r5, r6, r7, -⟩ := ms_of (F := fun _ => True) hrow3 trivial
    have g0 := (cell_of_row hrowh3 0).trans (show _ = some (.int .u8 2) from rfl)
    have g1 := (cell_of_row hrowh3 1).trans (show _ = some (.int .u8 0) from rfl)
    have g2 := (cell_of_row hrowh3 2).trans (show _ = some (.bool false) from rfl)
    have g3 := (cell_of_row hrowh3 3).trans (show _ = some (.bool false) from rfl)
    have g4 := (cell_of_row hrowh3 4).trans (show _ = some (.int .u8 o) from rfl)
    have g5 := (cell_of_row hrowh3 5).trans (show _ = some (.int .u8 rf) from rfl)
    have g6 := (cell_of_row hrowh3 6).trans (show _ = some (.int .u8 sz) from rfl)
    clear hk3 hP3 hne1 hne2 hrow3 hrowh3 hM3 s0 s1 s2 s3 s4 s5 s6 s7
    go_wp2_with fail
    refine HCl.out.mono ?_
    rintro e w4 ⟨rfl, h4, hk4⟩
    have hrow4 := hk4.row (by have := HNe.out.1; simp; omega) F3.out.2.2.1
    have hrowh4 := hk4.row (by have := HNe.out.2; simp; omega) F3.out.2.2.2
    have F4 := Lib.hid (And.intro h4 (And.intro hk4 (And.intro hrow4 hrowh4)))
    have HLc := Lib.hid (clearH_len (H := Hc) k sz)
    generalize clearH Hc k sz = Hd at F4 HLg2 HLc
    clear h4 hk4 hrow4 hrowh4 r0 r1 r2 r3 r4 r5 r6 r7 g0 g1 g2 g3 g4 g5 g6
    go_wp2_with fail
    obtain ⟨m, hm⟩ : ∃ m, run = m + 1 := ⟨run - 1, by omega⟩
    have HMm := Lib.hid hm
    have hm2 : m ≤ 2 := by omega
    clear hm
    go_loopg [11] m (fun gg v11 wr => ∃ i j : Nat, i + gg = m ∧ j = 1 + i ∧ v11 = .int .i64 j ∧ Hid (Mw T G n p r q vs (tailH T G b Hd i) R (t + 5 * n + 2 + sz + i) wr ∧ Kp [p, r] w3 wr ∧ wr.heap[w.heap.size]? = some (.cells (mkC T G n p q o wk hd) 130 (0, 0)) ∧ wr.heap[w.heap.size + 1]? = some (.cells #[.int .u8 2, .int .u8 0, .bool false, .bool false, .int .u8 o, .int .u8 rf, .int .u8 sz] 59 (0, 0))))
    case atStart => exact ⟨0, 1, by omega, by omega, rfl, Lib.hid ⟨F4.out.1, F4.out.2.1, F4.out.2.2.1, F4.out.2.2.2⟩⟩
    case round =>
      obtain ⟨i, j, hi, hj, rfl, HR⟩ := hrel
      have HJ := Lib.hid hj
      obtain ⟨r0, r1, r2, r3, r4, r5, r6, r7, -⟩ := ms_of (F := fun _ => True) HR.out.2.2.1 trivial
      by_cases hlt2 : i < m
      · obtain ⟨c, hc⟩ : ∃ c, c = b + j := ⟨_, rfl⟩
        have HCc := Lib.hid hc
        have hn64 := HN.out.1.2.2.2
        have e2 : (b : Int) + j = (c : Int) := by omega
        have hbn := HBn.out
        have e3 := IntWalk.i64_in (c : Int) (by have := HMm.out; omega)
        clear hbn
        have hjr : (j : Int) < run := by have := HMm.out; omega
        have HSet : Hid (Calls Tryz.prog 119 #[.iface 31 (.pointer (some ⟨p, 0, none⟩)), .agg #[.int .i64 T, .int .i64 G, .int .i64 n], .int .i64 c, .agg #[.int .u8 3, .int .u8 0, .int .u8 0, .int .u8 0]] wr fun e w2 => e = .returned (.tuple #[]) ∧ Mw T G n p r q vs (tailH T G b Hd (i + 1)) R (t + 5 * n + 2 + sz + (i + 1)) w2 ∧ Kp [p, r] wr w2) := by
          obtain ⟨t0, ht0, hh⟩ := HR.out.1.hw
          refine Lib.hid ((g_set_in hh (by have := HN.out; omega) c (by have := HMm.out; have := HBn.out; omega) 3 0 0 0 (by decide) (by decide) (by decide) (by decide) tail_may).mono ?_)
          rintro e w2 ⟨rfl, h3, h4⟩
          refine ⟨rfl, HR.out.1.turn h4 ⟨t0 + 1, by omega, ?_⟩ (by simp [tailH]), h4⟩
          have : (tailH T G b Hd i).set (3 + T + G + c) (Tb.wordE 3 0 0 0) = tailH T G b Hd (i + 1) := by
            rw [hc, hj]; rfl
          rw [← this]
          exact h3
        clear hj hc
        go_wp2_with fail
        refine HSet.out.mono ?_
        rintro e w5 ⟨rfl, h5, hk5⟩
        have F5 := Lib.hid (And.intro h5 (And.intro (HR.out.2.1.trans hk5) (And.intro (hk5.row (by have := HNe.out.1; simp; omega) HR.out.2.2.1) (hk5.row (by have := HNe.out.2; simp; omega) HR.out.2.2.2))))
        clear h5 hk5 r0 r1 r2 r3 r4 r5 r6 r7
        go_wp2_with fail
        go_roundg (m - (i + 1))
        case rel => exact ⟨i + 1, j + 1, by omega, by have := HJ.out; omega, by go_num, F5⟩
        case measure => omega
      · obtain rfl : i = m := by omega
        have hjr : ¬ ((j : Int) < run) := by have := HMm.out; omega
        have h5 := HR.out.1
        have HLt : Hid ((tailH T G b Hd i).length = H.length) := Lib.hid (by rw [tailH_len, HLc.out]; have := HN.out; omega)
        have hfin : fin = ((((tailH T G b Hd i).set k (Wd.wordI 2 0 o rf sz false false)).set (3 + T + G + b) (Tb.wordE 2 0 run o), R), some (k : Int)) := by
          have := HLg2.out
          rwa [show run - 1 = i from by have := HMm.out; omega] at this
        have HFi := Lib.hid hfin
        generalize tailH T G b Hd i = He at h5 HLt HFi
        have HWr := Lib.hid (a_write (o := o) (wk := wk) (hd := hd) h5 (by have := HN.out; omega) k (by rw [HLt.out]; have := HFit.out; omega) (k : Int) rfl 2 0 o rf sz false false (by decide) (by decide) (by omega) (by omega) (by omega) (loc_may o rf sz (by have := HN.out; omega) (by have := HN.out; omega) (by have := HN.out; omega)) _ rfl)
        have g0 := (cell_of_row HR.out.2.2.2 0).trans (show _ = some (.int .u8 2) from rfl)
        have g1 := (cell_of_row HR.out.2.2.2 1).trans (show _ = some (.int .u8 0) from rfl)
        have g2 := (cell_of_row HR.out.2.2.2 2).trans (show _ = some (.bool false) from rfl)
        have g3 := (cell_of_row HR.out.2.2.2 3).trans (show _ = some (.bool false) from rfl)
        have g4 := (cell_of_row HR.out.2.2.2 4).trans (show _ = some (.int .u8 o) from rfl)
        have g5 := (cell_of_row HR.out.2.2.2 5).trans (show _ = some (.int .u8 rf) from rfl)
        have g6 := (cell_of_row HR.out.2.2.2 6).trans (show _ = some (.int .u8 sz) from rfl)
        have HKR := Lib.hid HR.out.2
        generalize Wd.wordI 2 0 o rf sz false false = lx at HWr HFi
        clear h5 hfin HLg2 HR hj
        go_wp2_with fail
        refine HWr.out.mono ?_
        rintro e w6 ⟨rfl, h6, hk6⟩
        have hrow6 := hk6.row (by have := HNe.out.1; simp; omega) HKR.out.2.1
        have HSet : Hid (Calls Tryz.prog 119 #[.iface 31 (.pointer (some ⟨p, 0, none⟩)), .agg #[.int .i64 T, .int .i64 G, .int .i64 n], .int .i64 b, .agg #[.int .u8 2, .int .u8 0, .int .u8 run, .int .u8 o]] w6 fun e w2 => e = .returned (.tuple #[]) ∧ Mw T G n p r q vs ((He.set k lx).set (3 + T + G + b) (Tb.wordE 2 0 run o)) R (t + 5 * n + 110) w2 ∧ Kp [p, r] w6 w2) := by
          obtain ⟨t0, ht0, hh⟩ := h6.hw
          refine Lib.hid ((g_set_in hh (by have := HN.out; omega) b (by have := HBn.out; have := HMm.out; omega) 2 0 run o (by decide) (by decide) (by omega) (by omega) (head_may run o (by have := HN.out; omega) (by have := HN.out; omega))).mono ?_)
          rintro e w2 ⟨rfl, h3, h4⟩
          exact ⟨rfl, h6.turn h4 ⟨t0 + 1, by have := HN.out; omega, h3⟩ (by simp), h4⟩
        have F6 := Lib.hid (HKR.out.1.trans hk6)
        obtain ⟨s0, s1, s2, s3, s4, s5, s6, s7, -⟩ := ms_of (F := fun _ => True) hrow6 trivial
        have hr256 : ((run : Int) % 256) = run := by omega
        clear h6 hk6 hrow6 r0 r1 r2 r3 r4 r5 r6 r7 g0 g1 g2 g3 g4 g5 g6
        go_wp2_with fail
        refine HSet.out.mono ?_
        rintro e w7 ⟨rfl, h7, hk7⟩
        have F : Hid (((fin.2).getD 0 = k) ∧ erM fin.2 = 0 ∧ ∃ vs', Mw T G n p r q vs' fin.1.1 fin.1.2 (t + 5 * n + 110) w7 ∧ Mh Sh p r q vs vs' w w7 ∧ Tp Sh P fin.2 w w7) := Lib.hid (by
          rw [HFi.out]
          refine ⟨rfl, rfl, vs, h7, F3.out.2.1.trans (Mh.of_mk (Mk.of_kp (F6.out.trans hk7) (by simp))), Tp.of_some rfl ?_⟩
          exact HO.out.keep _ _ _ HP3.out (F6.out.trans hk7))
        clear h7 hk7 s0 s1 s2 s3 s4 s5 s6 s7
        go_wp2_with fail
        go_ret2
        exact ⟨by rw [F.out.1, F.out.2.1]; rfl, F.out.2.2⟩
end

end Go.Proofs.YticbnckikkdknaaGreatDoor

namespace Go.Proofs.YticbnckikkdknaaGreatDoor
set_option linter.unusedVariables false
set_option linter.unusedSimpArgs false
set_option maxRecDepth 100000
open Go.RowKit

/-- Words at many places become one. -/
def setAll (v : Int) (H : List Int) (ps : List Nat) : List Int := ps.foldl (fun H p => H.set p v) H
theorem setAll_len (v : Int) (ps : List Nat) : ∀ H : List Int, (setAll v H ps).length = H.length := by
  induction ps with
  | nil => intro H; rfl
  | cons p ps ih => intro H; show (setAll v (H.set p v) ps).length = _; rw [ih]; simp
theorem setAll_get (v : Int) (ps : List Nat) : ∀ (H : List Int) (j : Nat), (setAll v H ps).getD j 0 = if j ∈ ps ∧ j < H.length then v else H.getD j 0 := by
  induction ps with
  | nil => intro H j; simp [setAll]
  | cons p ps ih =>
    intro H j
    show (setAll v (H.set p v) ps).getD j 0 = _
    rw [ih, getD_set']
    simp only [List.length_set]
    by_cases h1 : j ∈ ps ∧ j < H.length
    · rw [if_pos h1, if_pos ⟨List.mem_cons_of_mem _ h1.1, h1.2⟩]
    · rw [if_neg h1]
      by_cases h2 : j = p ∧ p < H.length
      · rw [if_pos h2, if_pos ⟨by rw [h2.1]; exact List.mem_cons_self, by rw [h2.1]; exact h2.2⟩]
      · rw [if_neg h2, if_neg]
        rintro ⟨hm, hl⟩
        rcases List.mem_cons.1 hm with e | e
        · exact h2 ⟨e, e ▸ hl⟩
        · exact h1 ⟨e, hl⟩
theorem setAll_snoc (v : Int) (H : List Int) (ps : List Nat) (p : Nat) : setAll v H (ps ++ [p]) = (setAll v H ps).set p v := by simp [setAll, List.foldl_append]
theorem setAll_same {v : Int} {H : List Int} {ps qs : List Nat} (h : ∀ j, j ∈ ps ↔ j ∈ qs) : setAll v H ps = setAll v H qs := by
  refine ext_getD' (by rw [setAll_len, setAll_len]) fun k _ => ?_
  rw [setAll_get, setAll_get]
  simp only [h k]

section
variable {T G n o c b : Nat} {wk : Bool} {s : Hs} {H : List Int} {R : Nat → List Int}
theorem markS_all (i : Nat) : markS T G n o c b H i = setAll (lw o) H ((List.range i).map (pl T G n c b)) := by
  induction i with
  | zero => rfl
  | succ i ih => rw [markS, ih, List.range_succ, List.map_append, List.map_singleton, setAll_snoc]
theorem clearH_all (a i : Nat) : clearH H a i = setAll 0 H ((List.range i).map fun j => a + 1 + j) := by
  induction i with
  | zero => rfl
  | succ i ih => rw [clearH, ih, List.range_succ, List.map_append, List.map_singleton, setAll_snoc]
theorem tailH_all (i : Nat) : tailH T G b H i = setAll 3 H ((List.range i).map fun j => 3 + T + G + (b + (1 + j))) := by
  induction i with
  | zero => rfl
  | succ i ih => rw [tailH, ih, List.range_succ, List.map_append, List.map_singleton, setAll_snoc]
/-- The document marks from the last cell down. -/
def markD (T G n o c b m : Nat) (H : List Int) : Nat → List Int
  | 0 => H
  | i + 1 => (markD T G n o c b m H i).set (pl T G n c b (m - 1 - i)) (lw o)
theorem markD_all (m i : Nat) : markD T G n o c b m H i = setAll (lw o) H ((List.range i).map fun j => pl T G n c b (m - 1 - j)) := by
  induction i with
  | zero => rfl
  | succ i ih => rw [markD, ih, List.range_succ, List.map_append, List.map_singleton, setAll_snoc]
theorem markD_same (m : Nat) : markD T G n o c b m H m = markS T G n o c b H m := by
  rw [markD_all, markS_all]
  refine setAll_same fun j => ?_
  simp only [List.mem_map, List.mem_range]
  constructor
  · rintro ⟨i, hi, rfl⟩; exact ⟨m - 1 - i, by omega, rfl⟩
  · rintro ⟨i, hi, rfl⟩; exact ⟨m - 1 - i, by omega, by congr 1; omega⟩
theorem markD_len (m i : Nat) : (markD T G n o c b m H i).length = H.length := by rw [markD_all, setAll_len]
/-- The document's tails: the first one, too. -/
def tailD (T G b : Nat) (H : List Int) : Nat → List Int
  | 0 => H
  | i + 1 => (tailD T G b H i).set (3 + T + G + (b + i)) 3
theorem tailD_all (i : Nat) : tailD T G b H i = setAll 3 H ((List.range i).map fun j => 3 + T + G + (b + j)) := by
  induction i with
  | zero => rfl
  | succ i ih => rw [tailD, ih, List.range_succ, List.map_append, List.map_singleton, setAll_snoc]
theorem tailD_len (i : Nat) : (tailD T G b H i).length = H.length := by rw [tailD_all, setAll_len]

/-- What the document does where a class's row is empty. -/
def moreS (T G n o c : Nat) (wk : Bool) (s : Hs) : Hs :=
  if (foundS T G n o c s n).2 c = [] then
    match frst ((tidyH T G n o wk (foundS T G n o c s n).1).getD 0 0).toNat 1 with
    | none => (tidyH T G n o wk (foundS T G n o c s n).1, (foundS T G n o c s n).2)
    | some b => cutS T G n o c ((tidyH T G n o wk (foundS T G n o c s n).1).set 0 (Bm.setN ((tidyH T G n o wk (foundS T G n o c s n).1).getD 0 0).toNat b 1 false : Int), (foundS T G n o c s n).2) b
  else foundS T G n o c s n
def dcellS (T G n o : Nat) (wk : Bool) (c : Nat) (s : Hs) : Hs × Option Int := if s.2 c = [] then popS (moreS T G n o c wk s) c else popS s c

theorem popE_at (hc : c < 4) : Li.popE R c = if R c = [] then 5 else 0 := by
  unfold Li.popE Li.badC
  simp only [Int.toNat_natCast]
  rw [decide_eq_false (by omega), decide_eq_false (by omega)]
  rfl
theorem popS_none (hc : c < 4) (h : s.2 c = []) : popS s c = (s, none) := by
  unfold popS Li.popR
  rw [popE_at hc, if_pos h]
  rfl
theorem popS_some (hc : c < 4) (h : s.2 c ≠ []) : (popS s c).2.isSome = true := by
  unfold popS
  simp only
  rw [popE_at hc, if_neg h]
  rfl
theorem claimH_at {run : Nat} (hk : ∀ k, frst (H.getD 0 0).toNat run = some k → k + run ≤ n) : claimH n H run = match frst (H.getD 0 0).toNat run with | none => (H, none) | some k => (H.set 0 (Bm.setN (H.getD 0 0).toNat k run false : Int), some k) := by
  unfold claimH
  cases hf : frst (H.getD 0 0).toNat run with
  | none => rfl
  | some k => simp only; rw [if_pos (hk k hf)]
theorem cell_same (hc : c < 4) (hk : ∀ k, frst ((tidyH T G n o wk (foundS T G n o c s n).1).getD 0 0).toNat 1 = some k → k + 1 ≤ n) : cellS T G n o wk c s = dcellS T G n o wk c s := by
  unfold cellS dcellS
  by_cases h : s.2 c = []
  · rw [popS_none hc h]
    simp only [Option.isSome_none, if_false, Bool.false_eq_true]
    rw [if_pos h]
    unfold moreS foundP
    by_cases h2 : (foundS T G n o c s n).2 c = []
    · rw [popS_none hc h2]
      simp only [Option.isSome_none, if_false, Bool.false_eq_true]
      rw [if_pos h2]
      unfold carveS
      rw [claimH_at hk]
      cases frst ((tidyH T G n o wk (foundS T G n o c s n).1).getD 0 0).toNat 1 with
      | none => exact (popS_none (s := (tidyH T G n o wk (foundS T G n o c s n).1, (foundS T G n o c s n).2)) hc h2).symm
      | some k => rfl
    · rw [popS_some hc h2, if_neg h2]
      rfl
  · rw [popS_some hc h, if_neg h]
    rfl

/-- A run, as the document claims it. -/
def dblocksH (T G n o : Nat) (wk : Bool) (H : List Int) (run : Nat) : List Int × Option Nat :=
  match frst (H.getD 0 0).toNat run with
  | some k => (H.set 0 (Bm.setN (H.getD 0 0).toNat k run false : Int), some k)
  | none => if wk then (H, none) else match frst ((waitH T G n o H n).getD 0 0).toNat run with
    | some k => ((waitH T G n o H n).set 0 (Bm.setN ((waitH T G n o H n).getD 0 0).toNat k run false : Int), some k)
    | none => (waitH T G n o H n, none)
theorem blocks_same {run : Nat} (hk : ∀ k, frst (H.getD 0 0).toNat run = some k → k + run ≤ n) (hk2 : ∀ k, frst ((waitH T G n o H n).getD 0 0).toNat run = some k → k + run ≤ n) : blocksH T G n o wk H run = dblocksH T G n o wk H run := by
  unfold blocksH dblocksH
  rw [claimH_at hk]
  cases hf : frst (H.getD 0 0).toNat run with
  | some k => simp
  | none =>
    simp only [Option.isSome_none, Bool.false_or]
    cases wk with
    | true => rfl
    | false =>
      simp only [if_false, Bool.false_eq_true, tidyH]
      rw [claimH_at hk2]
      cases frst ((waitH T G n o H n).getD 0 0).toNat run <;> rfl
/-- The words of what goes into a run, as the document writes them. -/
theorem large_words {run rf sz : Nat} {y z : Int} (h1 : 1 ≤ run) (hb : b + run ≤ n) : ((tailD T G b ((clearH H (3 + T + G + n + 32 * b) sz).set (3 + T + G + n + 32 * b) y) run).set (3 + T + G + b) z) = (((tailH T G b (clearH H (3 + T + G + n + 32 * b) sz) (run - 1)).set (3 + T + G + n + 32 * b) y).set (3 + T + G + b) z) := by
  rw [tailD_all, tailH_all]
  refine ext_getD' (by simp [setAll_len]) fun k hk => ?_
  simp only [getD_set', setAll_get, List.length_set, setAll_len]
  by_cases h0 : k = 3 + T + G + b ∧ 3 + T + G + b < (clearH H (3 + T + G + n + 32 * b) sz).length
  · rw [if_pos h0, if_pos h0]
  · rw [if_neg h0, if_neg h0]
    by_cases hx : k = 3 + T + G + n + 32 * b ∧ 3 + T + G + n + 32 * b < (clearH H (3 + T + G + n + 32 * b) sz).length
    · rw [if_neg, if_pos hx, if_pos hx]
      rintro ⟨hm, _⟩
      obtain ⟨j, hj, hj2⟩ := List.mem_map.1 hm
      have := List.mem_range.1 hj
      omega
    · rw [if_neg hx, if_neg hx]
      congr 1
      apply propext
      constructor
      · rintro ⟨hm, h2⟩
        refine ⟨?_, h2⟩
        obtain ⟨j, hj, hj2⟩ := List.mem_map.1 hm
        have := List.mem_range.1 hj
        have hj0 : j ≠ 0 := fun e => h0 ⟨by omega, by omega⟩
        exact List.mem_map.2 ⟨j - 1, List.mem_range.2 (by omega), by omega⟩
      · rintro ⟨hm, h2⟩
        refine ⟨?_, h2⟩
        obtain ⟨j, hj, hj2⟩ := List.mem_map.1 hm
        have := List.mem_range.1 hj
        exact List.mem_map.2 ⟨1 + j, List.mem_range.2 (by omega), by omega⟩
end
end Go.Proofs.YticbnckikkdknaaGreatDoor

namespace Go.Proofs.YticbnckikkdknaaGreatDoor
set_option linter.unusedVariables false
set_option linter.unusedSimpArgs false
set_option maxRecDepth 100000
open Go.RowKit

/-- The map tells of blocks that there are; no block waits as a great one. -/
structure Ivn (T G n : Nat) (H : List Int) : Prop where
  len : H.length = 3 + T + G + 33 * n
  map : ∀ b, (H.getD 0 0).toNat.testBit b = true → b < n
  ent : ∀ i, i < n → ek (H.getD (3 + T + G + i) 0) ≠ 5
/-- Listed places lie in blocks. -/
def Pok (T G n : Nat) (R : Nat → List Int) : Prop := ∀ c, c < 4 → ∀ x ∈ R c, ((3 + T + G + n : Nat) : Int) ≤ x
/-- Words below a place are the same. -/
def Low (B : Nat) (H H' : List Int) : Prop := H'.length = H.length ∧ ∀ k, k < B → H'.getD k 0 = H.getD k 0

section
variable {T G n o c b : Nat} {wk : Bool} {s : Hs} {H H' H'' : List Int} {R : Nat → List Int} {B : Nat}
theorem Low.refl (B : Nat) (H : List Int) : Low B H H := ⟨rfl, fun _ _ => rfl⟩
theorem Low.trans (h : Low B H H') (k : Low B H' H'') : Low B H H'' := ⟨k.1.trans h.1, fun i hi => (k.2 i hi).trans (h.2 i hi)⟩
theorem Low.set {k : Nat} (hk : B ≤ k) (v : Int) : Low B H (H.set k v) := ⟨by simp, fun i hi => by rw [getD_set', if_neg (by omega)]⟩
theorem Low.all {v : Int} {ps : List Nat} (h : ∀ p ∈ ps, B ≤ p) : Low B H (setAll v H ps) := ⟨setAll_len _ _ _, fun i hi => by rw [setAll_get, if_neg (fun z => by have := h i z.1; omega)]⟩
theorem Ivn.low (h : Ivn T G n H) (k : Low (3 + T + G + n) H H') : Ivn T G n H' :=
  ⟨k.1.trans h.len, fun b hb => h.map b (by rw [← k.2 0 (by omega)]; exact hb), fun i hi => by rw [k.2 _ (by omega)]; exact h.ent i hi⟩
theorem pl_ge (i : Nat) : 3 + T + G + n ≤ pl T G n c b i := by unfold pl; omega
theorem look_low (i : Nat) : Low (3 + T + G + n) s.1 (lookS T G n o c b s i).1 := by
  induction i with
  | zero => exact Low.refl _ _
  | succ i ih =>
    unfold lookS
    split
    · exact ih.trans (Low.set (pl_ge i) _)
    · exact ih
theorem found_low (i : Nat) : Low (3 + T + G + n) s.1 (foundS T G n o c s i).1 := by
  induction i with
  | zero => exact Low.refl _ _
  | succ i ih =>
    unfold foundS
    split
    · exact ih.trans (look_low _)
    · exact ih
theorem mark_low (i : Nat) : Low (3 + T + G + n) H (markS T G n o c b H i) := by
  rw [markS_all]
  exact Low.all fun p hp => by
    obtain ⟨j, _, rfl⟩ := List.mem_map.1 hp
    exact pl_ge j
theorem clear_low {a : Nat} (ha : 3 + T + G + n ≤ a) (i : Nat) : Low (3 + T + G + n) H (clearH H a i) := by
  rw [clearH_all]
  exact Low.all fun p hp => by
    obtain ⟨j, _, rfl⟩ := List.mem_map.1 hp
    omega
theorem Ivn.entry (h : Ivn T G n H) (i : Nat) (hi : i < n) {v : Int} (hv : ek v ≠ 5) : Ivn T G n (H.set (3 + T + G + i) v) := by
  refine ⟨by simpa using h.len, fun b hb => h.map b (by rwa [getD_set', if_neg (by omega)] at hb), fun j hj => ?_⟩
  rw [getD_set']
  split
  · exact hv
  · exact h.ent j hj
theorem Ivn.map0 (h : Ivn T G n H) {M : Nat} (hM : ∀ b, M.testBit b = true → b < n) : Ivn T G n (H.set 0 (M : Int)) := by
  have hl := h.len
  refine ⟨by simpa using h.len, fun b hb => hM b ?_, fun j hj => ?_⟩
  · rw [getD_set', if_pos ⟨rfl, by omega⟩] at hb
    simpa using hb
  · rw [getD_set', if_neg (by omega)]; exact h.ent j hj
theorem setN_sub {M k r : Nat} {i : Nat} (h : (Bm.setN M k r false).testBit i = true) : M.testBit i = true := by
  by_cases hi : i < 64
  · rw [Bm.setN_bit _ _ _ _ _ hi] at h
    split at h
    · cases h
    · exact h
  · have h1 : (Bm.setN M k r false).testBit i = false := Nat.testBit_lt_two_pow (Nat.lt_of_lt_of_le (Bm.setN_lt M k r false) (Nat.pow_le_pow_right (by decide) (by omega)))
    rw [h1] at h; cases h
theorem frst_fit (h : Ivn T G n H) {run k : Nat} (h1 : 1 ≤ run) (hf : frst (H.getD 0 0).toNat run = some k) : k + run ≤ n := by
  unfold frst at hf
  rw [List.find?_range_eq_some] at hf
  have h2 := hf.1
  simp only [Bm.isR, Bool.and_eq_true, decide_eq_true_eq] at h2
  have := h.map (k + run - 1) (Bm.allN_iff.1 h2.2 _ (by simp only [Int.toNat_natCast]; omega) (by simp only [Int.toNat_natCast]; omega))
  omega
theorem Ivn.claim (h : Ivn T G n H) (k run : Nat) : Ivn T G n (H.set 0 (Bm.setN (H.getD 0 0).toNat k run false : Int)) := h.map0 fun b hb => h.map b (setN_sub hb)
theorem ek_zero : ek 0 = 0 := by decide
theorem Ivn.back (h : Ivn T G n H) (b r : Int) (hn : n ≤ 64) : Ivn T G n (backH T G n H b r) := by
  unfold backH
  split
  · rename_i hr
    have hr := runG_iff.1 hr
    have h1 : Ivn T G n (zer H (3 + T + G + b.toNat) r.toNat) := ⟨by rw [zer_len]; exact h.len, fun i hi => h.map i (by rwa [zer_get, if_neg (by omega)] at hi), fun i hi => by
      rw [zer_get]
      split
      · rw [ek_zero]; omega
      · exact h.ent i hi⟩
    refine h1.map0 fun i hi => ?_
    unfold giveM at hi
    split at hi
    · by_cases h64 : i < 64
      · rw [Bm.setN_bit _ _ _ _ _ h64] at hi
        split at hi
        · omega
        · exact h.map i hi
      · have h2 : (Bm.setN (H.getD 0 0).toNat b.toNat r.toNat true).testBit i = false := Nat.testBit_lt_two_pow (Nat.lt_of_lt_of_le (Bm.setN_lt _ _ _ _) (Nat.pow_le_pow_right (by decide) (by omega)))
        rw [h2] at hi; cases hi
    · exact h.map i hi
  · exact h
theorem Ivn.wait (h : Ivn T G n H) (hn : n ≤ 64) (i : Nat) : Ivn T G n (waitH T G n o H i) := by
  induction i with
  | zero => exact h
  | succ i ih =>
    unfold waitH turnH
    split
    · exact ih.back _ _ hn
    · exact ih
theorem Ivn.tidy (h : Ivn T G n H) (hn : n ≤ 64) : Ivn T G n (tidyH T G n o wk H) := by
  unfold tidyH
  split
  · exact h
  · exact h.wait hn n
theorem ek_word {k c r o : Int} (hk : 0 ≤ k) (hc : 0 ≤ c) (hr : 0 ≤ r) (ho : 0 ≤ o) (h : Tb.mayE k c r o = true) : ek (Tb.wordE k c r o) = k := by
  unfold ek
  rw [if_pos (Tb.takeE_of_word hk hc hr ho h)]
  exact (Tb.parts_word hk hc hr ho h).1

/-! Rows -/
theorem Pok.put {xs : List Int} (h : Pok T G n R) (hx : ∀ x ∈ xs, ((3 + T + G + n : Nat) : Int) ≤ x) : Pok T G n (Li.upd R c xs) := fun d hd x hm => by
  by_cases e : d = c
  · subst e; rw [Li.upd_same] at hm; exact hx x hm
  · rw [Li.upd_ne _ _ _ _ e] at hm; exact h d hd x hm
theorem Pok.push (h : Pok T G n R) (hc : c < 4) {x : Int} (hx : ((3 + T + G + n : Nat) : Int) ≤ x) : Pok T G n (Li.pushR R c x) := by
  unfold Li.pushR
  split
  · rw [Int.toNat_natCast]
    refine h.put fun y hy => ?_
    rcases List.mem_append.1 hy with hy | hy
    · exact h c hc y hy
    · rw [List.mem_singleton] at hy; rw [hy]; exact hx
  · exact h
theorem Pok.pop (h : Pok T G n R) (hc : c < 4) : Pok T G n (Li.popR R c) := by
  unfold Li.popR
  split
  · rw [Int.toNat_natCast]
    exact h.put fun y hy => h c hc y (List.dropLast_subset _ hy)
  · exact h
theorem Pok.look (h : Pok T G n s.2) (hc : c < 4) (i : Nat) : Pok T G n (lookS T G n o c b s i).2 := by
  induction i with
  | zero => exact h
  | succ i ih =>
    unfold lookS
    split
    · exact ih.push hc (by exact_mod_cast pl_ge i)
    · exact ih
theorem Pok.found (h : Pok T G n s.2) (hc : c < 4) (i : Nat) : Pok T G n (foundS T G n o c s i).2 := by
  induction i with
  | zero => exact h
  | succ i ih =>
    unfold foundS
    split
    · exact ih.look hc _
    · exact ih
theorem Pok.pushes {m : Nat} (h : Pok T G n R) (hc : c < 4) (i : Nat) : Pok T G n (pushS T G n c b m R i) := by
  induction i with
  | zero => exact h
  | succ i ih => exact ih.push hc (by exact_mod_cast pl_ge (m - 1 - i))
theorem popS_ge (h : Pok T G n s.2) (hc : c < 4) {x : Int} (hx : (popS s c).2 = some x) : ((3 + T + G + n : Nat) : Int) ≤ x := by
  unfold popS at hx
  simp only at hx
  split at hx
  · rename_i he
    have := h c hc _ (pop_mem hc he)
    cases hx
    exact this
  · cases hx

/-- A class's row is filled. -/
theorem more_inv (hc : c < 4) (ho : o < 64) (hn : n ≤ 64) (h : Ivn T G n s.1) (hp : Pok T G n s.2) : Ivn T G n (moreS T G n o c wk s).1 ∧ Pok T G n (moreS T G n o c wk s).2 := by
  have h1 : Ivn T G n (foundS T G n o c s n).1 := h.low (found_low n)
  have p1 := hp.found (o := o) hc n
  unfold moreS
  split
  · have h2 := h1.tidy (o := o) (wk := wk) hn
    cases hf : frst ((tidyH T G n o wk (foundS T G n o c s n).1).getD 0 0).toNat 1 with
    | none => exact ⟨h2, p1⟩
    | some k =>
      simp only
      have hk := frst_fit h2 (Nat.le_refl 1) hf
      refine ⟨((h2.claim k 1).low (mark_low _)).entry k (by omega) ?_, p1.pushes hc _⟩
      rw [ek_word (by omega) (by omega) (by omega) (by omega) (Tb.mayE_iff.2 (by omega))]
      omega
  · exact ⟨h1, p1⟩
theorem cell_inv (hc : c < 4) (ho : o < 64) (hn : n ≤ 64) (h : Ivn T G n s.1) (hp : Pok T G n s.2) : cellS T G n o wk c s = dcellS T G n o wk c s ∧ Ivn T G n (cellS T G n o wk c s).1.1 ∧ Pok T G n (cellS T G n o wk c s).1.2 ∧ ∀ x, (cellS T G n o wk c s).2 = some x → ((3 + T + G + n : Nat) : Int) ≤ x := by
  have e : cellS T G n o wk c s = dcellS T G n o wk c s := cell_same hc fun k hk => frst_fit ((h.low (found_low n)).tidy hn) (Nat.le_refl 1) hk
  refine ⟨e, ?_⟩
  rw [e]
  unfold dcellS
  split
  · obtain ⟨h1, h2⟩ := more_inv (wk := wk) hc ho hn h hp
    exact ⟨h1, h2.pop hc, fun x hx => popS_ge h2 hc hx⟩
  · exact ⟨h, hp.pop hc, fun x hx => popS_ge hp hc hx⟩
theorem small_inv {rf sz : Nat} (hc : c < 4) (ho : o < 64) (hn : n ≤ 64) (hsz : (sz : Int) + 1 ≤ Cl.wdC c) (h : Ivn T G n s.1) (hp : Pok T G n s.2) (hl : Lok s.1.length s.2) :
    Ivn T G n (smallS T G n o wk c rf sz s).1.1 ∧ Pok T G n (smallS T G n o wk c rf sz s).1.2 ∧ ∀ x, (smallS T G n o wk c rf sz s).2 = some x → ((3 + T + G + n : Nat) : Int) ≤ x ∧ x + sz < (3 + T + G + 33 * n : Nat) := by
  obtain ⟨_, h1, h2, h3⟩ := cell_inv (wk := wk) hc ho hn h hp
  have hlen := h.len
  have hfit := fun x => cellS_fit (T := T) (G := G) (n := n) (o := o) (wk := wk) (s := s) (x := x) (N := s.1.length) hc (by omega) hl
  unfold smallS
  cases hx : (cellS T G n o wk c s).2 with
  | none => exact ⟨h1, h2, fun x hxx => by rw [hx] at hxx; cases hxx⟩
  | some x =>
    simp only
    have hge := h3 x hx
    obtain ⟨f1, f2⟩ := hfit x hx
    refine ⟨(h1.low (clear_low (by omega) _)).low (Low.set (by omega) _), h2, fun y hy => ?_⟩
    cases hy
    exact ⟨hge, by omega⟩
theorem blocks_inv {run : Nat} (h1 : 1 ≤ run) (hn : n ≤ 64) (h : Ivn T G n H) : blocksH T G n o wk H run = dblocksH T G n o wk H run ∧ Ivn T G n (blocksH T G n o wk H run).1 ∧ ∀ b, (blocksH T G n o wk H run).2 = some b → b + run ≤ n := by
  have hw := h.wait (o := o) hn n
  have e := blocks_same (o := o) (wk := wk) (fun k hk => frst_fit h h1 hk) (fun k hk => frst_fit hw h1 hk)
  refine ⟨e, ?_⟩
  rw [e]
  unfold dblocksH
  cases hf : frst (H.getD 0 0).toNat run with
  | some k => exact ⟨h.claim k run, fun b hb => by cases hb; exact frst_fit h h1 hf⟩
  | none =>
    simp only
    cases wk with
    | true => exact ⟨h, fun b hb => by cases hb⟩
    | false =>
      simp only [if_false, Bool.false_eq_true]
      cases hf2 : frst ((waitH T G n o H n).getD 0 0).toNat run with
      | some k => exact ⟨hw.claim k run, fun b hb => by cases hb; exact frst_fit hw h1 hf2⟩
      | none => exact ⟨hw, fun b hb => by cases hb⟩
theorem tail_inv {m : Nat} (h : Ivn T G n H) (hb : b + (1 + m) ≤ n) : Ivn T G n (tailH T G b H m) := by
  induction m with
  | zero => exact h
  | succ m ih => exact (ih (by omega)).entry (b + (1 + m)) (by omega) (by decide)
theorem large_inv {run rf sz : Nat} (h1 : 1 ≤ run) (h3 : run ≤ 3) (ho : o < 64) (hn : n ≤ 64) (hsz : sz + 1 ≤ 32 * run) (h : Ivn T G n s.1) (hp : Pok T G n s.2) :
    Ivn T G n (largeS T G n o wk run rf sz s).1.1 ∧ Pok T G n (largeS T G n o wk run rf sz s).1.2 ∧ ∀ x, (largeS T G n o wk run rf sz s).2 = some x → ((3 + T + G + n : Nat) : Int) ≤ x ∧ x + sz < (3 + T + G + 33 * n : Nat) := by
  obtain ⟨_, i1, i2⟩ := blocks_inv (o := o) (wk := wk) h1 hn h
  unfold largeS
  cases hb : (blocksH T G n o wk s.1 run).2 with
  | none => exact ⟨i1, hp, fun x hx => by cases hx⟩
  | some b =>
    simp only
    have hbr := i2 b hb
    refine ⟨((tail_inv (i1.low (clear_low (by omega) _)) (by omega)).low (Low.set (by omega) _)).entry b (by omega) ?_, hp, fun x hx => ?_⟩
    · rw [ek_word (by omega) (by omega) (by omega) (by omega) (Tb.mayE_iff.2 (by omega))]
      omega
    · cases hx
      exact ⟨by omega, by omega⟩
end
end Go.Proofs.YticbnckikkdknaaGreatDoor

namespace Go.Proofs.YticbnckikkdknaaGreatDoor
set_option linter.unusedVariables false
set_option linter.unusedSimpArgs false
set_option maxRecDepth 100000
open Go.RowKit

section
variable {T G n p r q t o a : Nat} {wk : Bool} {hd : Value} {vs vs' vs'' : Nat → Value} {H : List Int} {R : Nat → List Int} {w w0 w1 w2 wx wy : World} {Sh : List Nat} {P : Nat → World → Prop}

set_option maxHeartbeats 16000000 in
theorem make_small (h : Mw T G n p r q vs H R t w) (ht : t ≤ 300000) (hoT : o < T) (c rf sz : Nat) (hc : Cl.ofC sz = c) (hr : rf ≤ sz) (hs : sz ≤ 8) (ho2 : HoldOk T G n p r q o wk hd vs w Sh P) :
    Calls Tryz.prog 59 #[mkV T G n p q o wk hd, .int .i64 rf, .int .i64 sz] w fun e w' => e = .returned (.tuple #[.int .i64 ((smallS T G n o wk c rf sz (H, R)).2.getD 0), .int .i64 (erM (smallS T G n o wk c rf sz (H, R)).2)]) ∧ ∃ vs', Mw T G n p r q vs' (smallS T G n o wk c rf sz (H, R)).1.1 (smallS T G n o wk c rf sz (H, R)).1.2 (t + 38 * n + 120) w' ∧ Mh Sh p r q vs vs' w w' ∧ Tp Sh P (smallS T G n o wk c rf sz (H, R)).2 w w' := by
  have hT := Lib.hid (fun w => Ly.threads_is T G n w)
  have hf := h.fit
  have HOf := Lib.hid (fun w (tb : Cl.Tab w) => Cl.of_yes w tb sz c (by omega) hc (by omega))
  have hw : c < 4 ∧ (sz : Int) + 1 ≤ Cl.wdC c := by
    rcases Cl.of_ofs (sz : Int) with h | h | h | h | h | h
    · omega
    · obtain rfl : c = 0 := by omega
      exact ⟨by decide, by rw [show Cl.wdC ((0 : Nat) : Int) = 2 from by decide]; omega⟩
    · obtain rfl : c = 1 := by omega
      exact ⟨by decide, by rw [show Cl.wdC ((1 : Nat) : Int) = 3 from by decide]; omega⟩
    · obtain rfl : c = 2 := by omega
      exact ⟨by decide, by rw [show Cl.wdC ((2 : Nat) : Int) = 5 from by decide]; omega⟩
    · obtain rfl : c = 3 := by omega
      exact ⟨by decide, by rw [show Cl.wdC ((3 : Nat) : Int) = 9 from by decide]; omega⟩
    · omega
  have HSm : Hid (∀ w1, Kp [] w w1 → Calls Tryz.prog 94 #[mkV T G n p q o wk hd, .int .i64 c, .agg #[.int .u8 2, .int .u8 0, .bool false, .bool false, .int .u8 o, .int .u8 rf, .int .u8 sz]] w1 fun e w' => e = .returned (.tuple #[.int .i64 ((smallS T G n o wk c rf sz (H, R)).2.getD 0), .int .i64 (erM (smallS T G n o wk c rf sz (H, R)).2)]) ∧ ∃ vs', Mw T G n p r q vs' (smallS T G n o wk c rf sz (H, R)).1.1 (smallS T G n o wk c rf sz (H, R)).1.2 (t + 38 * n + 120) w' ∧ Mh Sh p r q vs vs' w w' ∧ Tp Sh P (smallS T G n o wk c rf sz (H, R)).2 w w') := by
    refine Lib.hid fun w1 k => (a_small (h.on k) ht (by omega) c rf sz hw.1 hr (by omega) hw.2 (ho2.on (Mk.of_kp k (by simp)))).mono ?_
    rintro e w' ⟨h1, v, h2, h3, h4⟩
    exact ⟨h1, v, h2, (Mh.of_mk (Mk.of_kp k (by simp))).trans h3, h4.pre k⟩
  have HTb : Hid (∀ w1, Kp [] w w1 → Cl.Tab w1) := Lib.hid fun w1 k => (h.on k).tab
  have KB : Hid (∀ w', Kp [] (mkW w T G n p q o wk hd) w' → Kp [] w w') := Lib.hid fun w' k => (mkW_kp w T G n p q o wk hd).trans k
  have HS0 := Lib.hid (ms_of (F := Kp [] (mkW w T G n p q o wk hd)) (mkW_row w T G n p q o wk hd) (Kp.refl _ _))
  have hc1 : ¬ ((T : Int) ≤ o) := by omega
  have hc2 : ¬ ((rf : Int) < 0) := by omega
  have hc3 : ¬ ((sz : Int) < rf) := by omega
  have hc4 : ¬ (95 < (sz : Int)) := by omega
  have ew := IntWalk.i64_in (o : Int) (by omega)
  have hd1 : decide (T ≤ o) = false := by simp; omega
  have hd2 : decide ((rf : Int) < 0) = false := by simp
  have hd3 : decide (sz < rf) = false := by simp; omega
  have hd4 : decide (95 < (sz : Int)) = false := by simp; omega
  clear hc1 hc2 hc3 hc4
  have hc5 : ((rf : Int) % 256) = rf := by omega
  have hc6 : ((sz : Int) % 256) = sz := by omega
  unfold mkW mkC at KB HS0
  generalize smallS T G n o wk c rf sz (H, R) = fin at HSm ⊢
  clear h ht hoT hc hr hs ho2 hw hf
  go_enter Tryz.func59, Tryz.ntmps59
  go_wp2_with fail
  go_region_held3 (fun wx => wx.cell? ⟨w.heap.size, 0, none⟩ = some (.iface 31 (.pointer (some ⟨p, 0, none⟩))) ∧ wx.cell? ⟨w.heap.size, 1, none⟩ = some (.int .i64 T) ∧ wx.cell? ⟨w.heap.size, 2, none⟩ = some (.int .i64 G) ∧ wx.cell? ⟨w.heap.size, 3, none⟩ = some (.int .i64 n) ∧ wx.cell? ⟨w.heap.size, 4, none⟩ = some (.int .u8 o) ∧ wx.cell? ⟨w.heap.size, 5, none⟩ = some (.pointer (some ⟨q, 0, none⟩)) ∧ wx.cell? ⟨w.heap.size, 6, none⟩ = some (.bool wk) ∧ wx.cell? ⟨w.heap.size, 7, none⟩ = some hd ∧ Kp [] (mkW w T G n p q o wk hd) wx)
    (first
      | assumption
      | exact ms_keep HS0.out ((Kp.refl [] _).drew) (by simp) (fun k => k.trans ((Kp.refl [] _).drew))
      | exact ms_keep ‹Ms w.heap.size T G n p q o wk hd (Kp [] (mkW w T G n p q o wk hd)) _› hk9 (by simp) (fun k => k.trans hk9))
    (first
    | (go_at_call 32
       refine (hT.out _).mono ?_
       rintro e w4 ⟨rfl, hk9⟩))
  all_goals
    rename_i hHeld
    obtain ⟨r0, r1, r2, r3, r4, r5, r6, r7, hk4⟩ := hHeld
    have hrow4 := hk4.row (by simp) (mkW_row w T G n p q o wk hd)
    have K4 := Lib.hid (KB.out _ hk4)
    have kA : Kp [] w4 (w4.alloc (.cells #[.int .u8 2, .int .u8 0, .bool false, .bool false, .int .u8 o, .int .u8 rf, .int .u8 sz] 59)) := (Kp.refl _ _).alloc _
    have K5 := Lib.hid (K4.out.trans kA)
    have hrow5 := kA.row (by simp) hrow4
    obtain ⟨s0, s1, s2, s3, s4, s5, s6, s7, -⟩ := ms_of (F := fun _ => True) hrow5 trivial
    have HOf5 := Lib.hid (HOf.out _ (HTb.out _ K5.out))
    have HSm5 := Lib.hid (HSm.out _ K5.out)
    clear hk4 hrow4 kA hrow5 HOf HSm hk9
    go_wp2_with fail
    refine HOf5.out.mono ?_
    rintro e w6 ⟨rfl, rfl⟩
    go_wp2_with fail
    refine HSm5.out.mono ?_
    rintro e w7 ⟨rfl, h7⟩
    have H7 := Lib.hid h7
    clear h7
    go_wp2_with fail
    go_ret2
    exact ⟨rfl, H7.out⟩
end

end Go.Proofs.YticbnckikkdknaaGreatDoor

namespace Go.Proofs.YticbnckikkdknaaGreatDoor.Gx
set_option linter.unusedVariables false
set_option linter.unusedSimpArgs false
open Go.RowKit
/-- The block that a slice leads to, as a list. -/
def blk (v : Value) : List Nat := v.ownBlock.toList
theorem blk_nil : blk (.slice none 0 0) = [] := rfl
theorem blk_some (g o n c : Nat) : blk (.slice (some ⟨g, o, none⟩) n c) = [g] := rfl
theorem kp_of_row {w w' : World} {v : Value} (h : w.grownBy w' v.ownBlock) : Kp (blk v) w w' := ⟨h.os, h.tape, h.output, h.size, fun k hk hn => h.block k hk (by
  intro e
  apply hn
  unfold blk
  rw [Option.mem_toList]
  exact e.symm)⟩
theorem kp_drewN {S : List Nat} (w : World) (j : Nat) : Kp S w (w.drewN j) := ⟨rfl, rfl, rfl, Nat.le_refl _, fun _ _ _ => rfl⟩
theorem ne_types {w : World} {a b : Nat} {x y : Array Value} {t u : TypeId} (h : w.heap[a]? = some (.cells x t (0, 0))) (k : w.heap[b]? = some (.cells y u (0, 0))) (htu : t ≠ u) : a ≠ b := by
  intro e; subst e
  have := h.symm.trans k
  simp at this
  exact htu this.2
theorem Kp.cell {S : List Nat} {w w' : World} (k : Kp S w w') {g o : Nat} (hg : g ∉ S) {v : Value} (h : w.cell? ⟨g, o, none⟩ = some v) : w'.cell? ⟨g, o, none⟩ = some v :=
  (World.cell?_of_block (a := ⟨g, o, none⟩) (k.block g (block_lt_of_cell h) hg)).trans h


/-- A row of the call's own, made since base: n elements of type T, sz cells each. -/
structure Rw (T : TypeId) (sz : Nat) (base : Nat) (w : World) (v : Value) (n : Nat) (xs : List Value) : Prop where
  own : w.ownsRow base T sz v n xs
section
variable {T : TypeId} {sz base : Nat} {w w' : World} {v : Value} {n : Nat} {xs : List Value}
theorem Rw.nil (T : TypeId) (sz base : Nat) (w : World) : Rw T sz base w (.slice none 0 0) 0 [] := ⟨World.ownsRow_nil _ _ _ _⟩
theorem Rw.keep {S : List Nat} (h : Rw T sz base w v n xs) (k : Kp S w w') (hS : ∀ b ∈ blk v, b ∉ S) : Rw T sz base w' v n xs := by
  refine ⟨h.own.1, ?_⟩
  rcases h.own.2 with h0 | ⟨b, c, cur, rfl, hge, hb, r⟩
  · exact .inl h0
  · exact .inr ⟨b, c, cur, rfl, hge, k.row (hS b (by simp [blk_some])) hb, r⟩
theorem Rw.keep0 (h : Rw T sz base w v n xs) (k : Kp [] w w') : Rw T sz base w' v n xs := h.keep k (by simp)
theorem Rw.block (h : Rw T sz base w v n xs) : ∀ b ∈ blk v, base ≤ b ∧ ∃ cur, w.heap[b]? = some (.cells cur T (0, 0)) := by
  intro b hb
  rcases h.own.2 with ⟨rfl, _⟩ | ⟨b', c, cur, rfl, hge, hb', _⟩
  · simp [blk_nil] at hb
  · rw [blk_some, List.mem_singleton] at hb
    exact ⟨hb ▸ hge, cur, hb ▸ hb'⟩
theorem Rw.form (h : Rw T sz base w v n xs) : ∃ ao c, v = .slice ao n c := by
  rcases h.own.2 with ⟨rfl, h0⟩ | ⟨b, c, cur, rfl, _⟩
  · exact ⟨none, 0, by rw [h0]⟩
  · exact ⟨_, c, rfl⟩
theorem Rw.at (h : Rw T sz base w v n xs) (hn : 0 < n) (hsz : 0 < sz) : ∃ b c, v = .slice (some ⟨b, 0, none⟩) n c ∧ n ≤ c ∧ ∀ i, i < n * sz → w.cell? ⟨b, i, none⟩ = xs[i]? := by
  rcases h.own.2 with ⟨_, h0⟩ | ⟨b, c, cur, rfl, _, hb, h1, h2, h3, h4⟩
  · omega
  · refine ⟨b, c, rfl, h1, fun i hi => ?_⟩
    rw [cell_of_row hb, ← h4, List.getElem?_take_of_lt hi]
    simp
/-- Nothing older than the base turns where such a row does. -/
theorem Rw.old (h : Rw T sz base w v n xs) {w0 : World} (hb : base = w0.heap.size) (k0 : Kp [] w0 w) (k : Kp (blk v) w w') : Kp [] w0 w' :=
  ((k0.mono (by simp)).trans k).mono fun y hy hlt => by have := (h.block y hy).1; omega
theorem Rw.len (h : Rw T sz base w v n xs) : xs.length = n * sz := h.own.1
end

/-- 'append(v, news...)', its run. -/
theorem run_app {T t ty : TypeId} {sz base bytes : Nat} {w : World} {v : Value} {n : Nat} {xs : List Value} (ht : Tryz.prog.underlying t = some (.slice T)) (hi : ∃ i z, Tryz.prog.info? T = some i ∧ i.zero = some z ∧ i.size = sz ∧ i.bytes = bytes ∧ z.cells.size = sz) (hsz : 0 < sz)
    (h : Rw T sz base w v n xs) (hbase : base ≤ w.heap.size) (ad : Addr) (m c : Nat) (news : List Value) (hl : news.length = m * sz) (hnews : ∀ j u, news[j]? = some u → w.cell? (ad.add j) = some u) (h1 : ∀ u ∈ news, u.oneCell' = true) (hm : 0 < m)
    (hn : n + m ≤ 1000000) (hb : bytes ≤ 100) :
    ∃ g cap w', (Builtin.append_ #[t, t] ty #[v, .slice (some ad) m c]).run Tryz.prog w = .ok (.slice (some ⟨g, 0, none⟩) (n + m) cap) w' ∧ Rw T sz base w' (.slice (some ⟨g, 0, none⟩) (n + m) cap) (n + m) (xs ++ news) ∧ Kp (blk v) w w' ∧ (g ∈ blk v ∨ g = w.heap.size) := by
  obtain ⟨i, z, e1, e2, e3, e4, e5⟩ := hi
  have h63 : n + m ≤ maxLen := by unfold maxLen; omega
  have hby : (n + m) * bytes ≤ 140737488355328 := by
    have : (n + m) * bytes ≤ 1000000 * 100 := Nat.mul_le_mul hn hb
    omega
  obtain ⟨g, cap, w', hr, h2, h3, h4, _⟩ := run_append_lies (P := Tryz.prog) w t ty base T i z sz bytes ht e1 e2 e3 e4 e5 hsz v n xs h.own ad m c news hl hnews h1 hm h63 hby hbase _ rfl
  exact ⟨g, cap, w', hr, ⟨h2⟩, kp_of_row h3, h4.imp (fun e => by unfold blk; rw [e]; simp) id⟩


/-- An 'append' whose run is known. -/
theorem wpList_append_eq {P : Program} {w w2 : World} {ops : Array Oper} {rest : List Oper} {o : Oper} {a : Act} {Q : Exit → Act → World → Prop} (hgd : o.guard = none) (s x : Operand) (t : TypeId)
    (ho : o.op = .call { callee := .builtin .append, args := #[s, x], argTypes := #[t, t] }) (sv xv v : Value) (hs : a.eval s = sv) (hx : a.eval x = xv)
    (hrun : (Builtin.append_ #[t, t] o.type #[sv, xv]).run P w = .ok v w2) (hK : wpList P ops Q rest (a.put o.dst v) w2) : wpList P ops Q (o :: rest) a w := by
  refine wpList_plain hgd fun K hK' => ?_
  unfold Oper.wp
  simp [execOp, ho, resolve, invoke, builtin, hs, hx, hrun, Result.andThen]
  exact hK' _ _ hK


end Go.Proofs.YticbnckikkdknaaGreatDoor.Gx

namespace Go.Proofs.YticbnckikkdknaaGreatDoor.Ly
set_option linter.unusedVariables false
set_option linter.unusedSimpArgs false
open Go.RowKit

/-- The two boxes of New, behind the call of table. -/
theorem new_rows {w w3 : World} {T G : Int} (hk : Kp [] ((w.alloc (.cells #[.int .i64 0, .int .i64 0, .int .i64 0] 33)).alloc (.cells #[.int .i64 T, .int .i64 G, .int .i64 0] 33)) w3) :
    w3.heap[w.heap.size]? = some (.cells #[.int .i64 0, .int .i64 0, .int .i64 0] 33 (0, 0)) ∧ w3.heap[w.heap.size + 1]? = some (.cells #[.int .i64 T, .int .i64 G, .int .i64 0] 33 (0, 0)) ∧ Kp [] w w3 := by
  refine ⟨hk.row (by simp) (heap_alloc2_old w _ _), hk.row (by simp) ?_, (((Kp.refl _ _).alloc _).alloc _).trans hk⟩
  have := heap_alloc_new (w.alloc (.cells #[.int .i64 0, .int .i64 0, .int .i64 0] 33)) (.cells #[.int .i64 T, .int .i64 G, .int .i64 0] 33)
  rwa [World.size_alloc] at this

theorem new_store {w w3 : World} {T G : Int} (R0 : w3.heap[w.heap.size]? = some (.cells #[.int .i64 0, .int .i64 0, .int .i64 0] 33 (0, 0))) (R1 : w3.heap[w.heap.size + 1]? = some (.cells #[.int .i64 T, .int .i64 G, .int .i64 0] 33 (0, 0))) (K : Kp [] w w3) (q : Int) :
    (w3.setCell ⟨w.heap.size + 1, 2, none⟩ (.int .i64 q)).heap[w.heap.size]? = some (.cells #[.int .i64 0, .int .i64 0, .int .i64 0] 33 (0, 0)) ∧
    Kp [] w (w3.setCell ⟨w.heap.size + 1, 2, none⟩ (.int .i64 q)) :=
  ⟨by rw [heap_setCell_other _ _ _ _ (by simp)]; exact R0, K.setCell (.inr (by simp)) _⟩

set_option maxRecDepth 100000 in
set_option maxHeartbeats 1000000 in
theorem new_low (W T G tb : Int) (w : World) (htb : tb = 3 + T + G) (w1 : 1 ≤ W) (w2 : W ≤ 4096) (t0 : 1 ≤ T) (t1 : T ≤ 64) (g0 : 0 ≤ G) (g1 : G ≤ 8) (h0 : 0 ≤ W - tb) (q1 : 1 ≤ (W - tb) / 33) (q2 : (W - tb) / 33 ≤ 64) :
    Calls Tryz.prog 53 #[.int .i64 W, .int .i64 T, .int .i64 G] w fun e w' => e = .returned (.tuple #[.agg #[.int .i64 T, .int .i64 G, .int .i64 ((W - tb) / 33)], .int .i64 0]) ∧ Kp [] w w' := by
  have k1 := Lib.hid (fun w => table_is T G 0 w (by omega) t1 g0 g1)
  rw [← htb] at k1
  have tb0 : 0 ≤ tb := by omega
  have tb1 : tb ≤ 75 := by omega
  clear htb
  go_enter Tryz.func53, Tryz.ntmps53
  go_wp2_with fail
  refine (k1.out _).mono ?_; rintro e w3 ⟨rfl, hk⟩
  obtain ⟨R0, R1, K⟩ := new_rows hk
  obtain ⟨S0, KS⟩ := new_store R0 R1 K ((W - tb) / 33)
  have hf2 := free_of_row R1 2
  have hc0 := cell_of_row R1 0
  have hc1 := cell_of_row R1 1
  have hc2 := cell_of_row R1 2
  have S0 := Lib.hid S0
  clear hk R0 R1 K
  simp at hc0 hc1 hc2
  go_wp2_with (refine wpList_store_row rfl 33 _ _ rfl w.heap.size _ rfl rfl 33 _ S0.out (by kernel_rfl) rfl (by simp [Value.oneCell']) ?_)
  exact bodyPost_row_tmp rfl w.heap.size 33 _ (0, 0) _ (.int .i64 0) rfl rfl rfl (setRow_heap _ _ _ _ _ _ S0.out) Tryz.underlying33 rfl (by kernel_rfl)
    ⟨rfl, KS.setRow (.inr (Nat.le_refl _)) _⟩

set_option maxRecDepth 100000 in
set_option maxHeartbeats 1000000 in
theorem new_high (W T G tb : Int) (w : World) (htb : tb = 3 + T + G) (w1 : 1 ≤ W) (w2 : W ≤ 4096) (t0 : 1 ≤ T) (t1 : T ≤ 64) (g0 : 0 ≤ G) (g1 : G ≤ 8) (h0 : 0 ≤ W - tb) (q1 : 1 ≤ (W - tb) / 33) (q2 : 64 < (W - tb) / 33) :
    Calls Tryz.prog 53 #[.int .i64 W, .int .i64 T, .int .i64 G] w fun e w' => e = .returned (.tuple #[.agg #[.int .i64 T, .int .i64 G, .int .i64 64], .int .i64 0]) ∧ Kp [] w w' := by
  have k1 := Lib.hid (fun w => table_is T G 0 w (by omega) t1 g0 g1)
  rw [← htb] at k1
  have tb0 : 0 ≤ tb := by omega
  have tb1 : tb ≤ 75 := by omega
  clear htb
  go_enter Tryz.func53, Tryz.ntmps53
  go_wp2_with fail
  refine (k1.out _).mono ?_; rintro e w3 ⟨rfl, hk⟩
  obtain ⟨R0, R1, K⟩ := new_rows hk
  obtain ⟨S0, KS⟩ := new_store R0 R1 K 64
  have hf2 := free_of_row R1 2
  have hc0 := cell_of_row R1 0
  have hc1 := cell_of_row R1 1
  have hc2 := cell_of_row R1 2
  have S0 := Lib.hid S0
  clear hk R0 R1 K
  simp at hc0 hc1 hc2
  go_wp2_with (refine wpList_store_row rfl 33 _ _ rfl w.heap.size _ rfl rfl 33 _ S0.out (by kernel_rfl) rfl (by simp [Value.oneCell']) ?_)
  exact bodyPost_row_tmp rfl w.heap.size 33 _ (0, 0) _ (.int .i64 0) rfl rfl rfl (setRow_heap _ _ _ _ _ _ S0.out) Tryz.underlying33 rfl (by kernel_rfl)
    ⟨rfl, KS.setRow (.inr (Nat.le_refl _)) _⟩

/-- How many blocks go in. -/
def blkP (W T G : Int) : Int := if (W - (3 + T + G)) / 33 ≤ 64 then (W - (3 + T + G)) / 33 else 64
theorem new_ok (W T G b : Int) (w : World) (hb : blkP W T G = b) (w1 : 1 ≤ W) (w2 : W ≤ 4096) (t0 : 1 ≤ T) (t1 : T ≤ 64) (g0 : 0 ≤ G) (g1 : G ≤ 8) (h : 3 + T + G + 33 ≤ W) :
    Calls Tryz.prog 53 #[.int .i64 W, .int .i64 T, .int .i64 G] w fun e w' => e = .returned (.tuple #[.agg #[.int .i64 T, .int .i64 G, .int .i64 b], .int .i64 0]) ∧ Kp [] w w' := by
  subst hb
  unfold blkP
  by_cases hq : (W - (3 + T + G)) / 33 ≤ 64
  · rw [if_pos hq]
    exact new_low W T G _ w rfl w1 w2 t0 t1 g0 g1 (by omega) (by omega) hq
  · rw [if_neg hq]
    exact new_high W T G _ w rfl w1 w2 t0 t1 g0 g1 (by omega) (by omega) (by omega)

end Go.Proofs.YticbnckikkdknaaGreatDoor.Ly

namespace Go.Proofs.YticbnckikkdknaaGreatDoor.Ly
set_option linter.unusedVariables false
set_option linter.unusedSimpArgs false
open Go.RowKit

set_option maxRecDepth 100000 in
set_option maxHeartbeats 1000000 in
/-- New: either no block goes in, or as many as go in. -/
theorem rnew_walk (W T G : Int) (w : World) (w1 : 1 ≤ W) (w2 : W ≤ 4096) (t0 : 1 ≤ T) (t1 : T ≤ 64) (g0 : 0 ≤ G) (g1 : G ≤ 8) (R : Ending → Prop)
    (hfull : W < 3 + T + G + 33 → R (.returned (.tuple #[.agg #[.int .i64 0, .int .i64 0, .int .i64 0], .int .i64 4])))
    (hok : ∀ b : Int, 1 ≤ b → b ≤ 64 → 3 + T + G + 33 * b ≤ W → (b < 64 → W < 3 + T + G + 33 * (b + 1)) → R (.returned (.tuple #[.agg #[.int .i64 T, .int .i64 G, .int .i64 b], .int .i64 0]))) :
    Calls Tryz.prog 54 #[.int .i64 W, .int .i64 T, .int .i64 G] w fun e w' => R e ∧ Kp [] w w' := by
  have HF := Lib.hid hfull
  have HO := Lib.hid hok
  clear hfull hok
  go_enter Tryz.func54, Tryz.ntmps54
  go_wp2_with fail
  go_loop [8] (fun bv => ∃ k : Nat, k ≤ 64 ∧ bv = .int .i64 k ∧ (k = 0 ∨ 3 + T + G + 33 * k ≤ W)) (fun bv => 64 - (intOf bv).toNat)
  case atStart => exact ⟨0, by omega, rfl, .inl rfl⟩
  case round =>
    obtain ⟨k, hk, rfl, hfit⟩ := hrel
    have HFIT := Lib.hid hfit
    clear hfit
    by_cases hk64 : k < 64
    · by_cases hm : 3 + T + G + 33 * (k + 1) ≤ W
      · go_wp2
        go_round
        case rel => exact ⟨k + 1, by omega, by go_num, .inr (by push_cast; omega)⟩
        case measure => simp [intOf]; omega
      · by_cases h0 : k = 0
        · subst h0
          have hd : decide ((3 + T + G + 33 * ((0 : Nat) + 1) : Int) ≤ W) = false := by simpa using hm
          go_wp2
          go_returns
          exact ⟨HF.out (by omega), (Kp.refl _ _).alloc _⟩
        · have hk0 : 0 < k := by omega
          have hne : ((k : Int) == 0) = false := by simpa using h0
          have HR := Lib.hid (HO.out k (by omega) (by omega) (by rcases HFIT.out with h | h <;> omega) (fun _ => by omega))
          go_wp2
          go_returns
          exact ⟨HR.out, (Kp.refl _ _).alloc _⟩
    · obtain rfl : k = 64 := by omega
      have HR := Lib.hid (HO.out 64 (by omega) (by omega) (by rcases HFIT.out with h | h <;> omega) (fun h => by omega))
      go_wp2
      go_returns
      exact ⟨HR.out, (Kp.refl _ _).alloc _⟩

theorem rnew_ok (W T G b : Int) (w : World) (hb : blkP W T G = b) (w1 : 1 ≤ W) (w2 : W ≤ 4096) (t0 : 1 ≤ T) (t1 : T ≤ 64) (g0 : 0 ≤ G) (g1 : G ≤ 8) (h : 3 + T + G + 33 ≤ W) :
    Calls Tryz.prog 54 #[.int .i64 W, .int .i64 T, .int .i64 G] w fun e w' => e = .returned (.tuple #[.agg #[.int .i64 T, .int .i64 G, .int .i64 b], .int .i64 0]) ∧ Kp [] w w' := by
  refine rnew_walk W T G w w1 w2 t0 t1 g0 g1 _ (fun _ => by omega) (fun c h1 h2 h3 h4 => ?_)
  have : c = b := by rw [← hb]; unfold blkP; split <;> omega
  rw [this]

theorem rentry_is (t g b k p : Int) (w : World) (hp : rowP (3 + t + g) b 1 k = p) (t0 : 0 ≤ t) (t1 : t ≤ 64) (g0 : 0 ≤ g) (g1 : g ≤ 8) (b0 : 0 ≤ b) (b1 : b ≤ 64) : Calls Tryz.prog 84 #[.agg #[.int .i64 t, .int .i64 g, .int .i64 b], .int .i64 k] w fun e w' => e = .returned (.int .i64 p) ∧ Kp [] w w' := by
  subst hp
  rcases (by omega : k < 0 ∨ (0 ≤ k ∧ b ≤ k) ∨ (0 ≤ k ∧ k < b)) with h | ⟨h0, h1⟩ | ⟨h0, h1⟩
  · rw [rowP_out (.inl h)]
    go_enter Tryz.func84, Tryz.ntmps84
    go_wp2
    go_ret
    exact ⟨rfl, (Kp.refl _ _).alloc _⟩
  · rw [rowP_out (.inr h1)]
    go_enter Tryz.func84, Tryz.ntmps84
    go_wp2
    go_ret
    exact ⟨rfl, (Kp.refl _ _).alloc _⟩
  · rw [rowP_in h0 h1, show (3 + t + g) + k * 1 = 3 + t + g + k from by omega]
    go_enter Tryz.func84, Tryz.ntmps84
    go_wp2
    go_ret
    exact ⟨rfl, (Kp.refl _ _).alloc _⟩

theorem rstart_is (t g b k p : Int) (w : World) (hp : rowP (3 + t + g + b) b 32 k = p) (t0 : 0 ≤ t) (t1 : t ≤ 64) (g0 : 0 ≤ g) (g1 : g ≤ 8) (b0 : 0 ≤ b) (b1 : b ≤ 64) : Calls Tryz.prog 47 #[.agg #[.int .i64 t, .int .i64 g, .int .i64 b], .int .i64 k] w fun e w' => e = .returned (.int .i64 p) ∧ Kp [] w w' := by
  subst hp
  rcases (by omega : k < 0 ∨ (0 ≤ k ∧ b ≤ k) ∨ (0 ≤ k ∧ k < b)) with h | ⟨h0, h1⟩ | ⟨h0, h1⟩
  · rw [rowP_out (.inl h)]
    go_enter Tryz.func47, Tryz.ntmps47
    go_wp2
    go_ret
    exact ⟨rfl, (Kp.refl _ _).alloc _⟩
  · rw [rowP_out (.inr h1)]
    go_enter Tryz.func47, Tryz.ntmps47
    go_wp2
    go_ret
    exact ⟨rfl, (Kp.refl _ _).alloc _⟩
  · rw [rowP_in h0 h1, show (3 + t + g + b) + k * 32 = 3 + t + g + b + 32 * k from by omega]
    go_enter Tryz.func47, Tryz.ntmps47
    go_wp2
    go_ret
    exact ⟨rfl, (Kp.refl _ _).alloc _⟩

end Go.Proofs.YticbnckikkdknaaGreatDoor.Ly
