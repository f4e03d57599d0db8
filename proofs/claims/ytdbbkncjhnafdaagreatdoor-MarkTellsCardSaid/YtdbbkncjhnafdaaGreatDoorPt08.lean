/- Makers, plainly, on: what stays so whatever is made. The walks of package alloc: Make, of what there is not, and of what goes into a cell. Rows of the call's own, of elements of whatever type; 'append', its run and its law; such a row as what is held of blocks. Conditions: as each lemma states them. The walks of layer layout, on: New. The walks of the document's own layout (demesneref06). The walks of the document's own bitmap (demesneref04). Conditions: as each theorem states them. -/
import Derived.Test.YtdbbkncjhnafdaaGreatDoorRows
import Derived.OneCell
import Derived.Deep.Draws
import Derived.ProofKit
import Derived.OwnWalk
import Derived.ArgAppend
import Derived.Deep.AppendLies
import Derived.Maps.AppendAt
import Derived.Laws.BytesArg
import Derived.Deep.RegionLaw
import Derived.Deep.WholeRow
import Derived.Test.YtdbbkncjhnafdaaGreatDoorPt01
import Derived.Test.YtdbbkncjhnafdaaGreatDoorPt02
import Derived.Test.YtdbbkncjhnafdaaGreatDoorPt07
namespace Go.Proofs.YtdbbkncjhnafdaaGreatDoor
set_option linter.unusedVariables false
set_option linter.unusedSimpArgs false
set_option maxRecDepth 100000
open Go.RowKit

/-- The map tells of blocks that there are; no block waits as a great one. -/
structure Ivn (T G n : Nat) (H : List Int) : Prop where
  len : H.length = 3 + T + G + 33 * n
  map : ∀ b, (H.getD 0 0).toNat.testBit b = true → b < n
  ent : ∀ i, i < n → ek (H.getD (3 + T + G + i) 0) ≠ 5
/-- Listed places lie in blocks. -/
def Pok (T G n : Nat) (R : Nat → List Int) : Prop := ∀ c, c < 4 → ∀ x ∈ R c, ((3 + T + G + n : Nat) : Int) ≤ x
/-- Words below a place are the same. -/
def Low (B : Nat) (H H' : List Int) : Prop := H'.length = H.length ∧ ∀ k, k < B → H'.getD k 0 = H.getD k 0

section
variable {T G n o c b : Nat} {wk : Bool} {s : Hs} {H H' H'' : List Int} {R : Nat → List Int} {B : Nat}
theorem Low.refl (B : Nat) (H : List Int) : Low B H H := ⟨rfl, fun _ _ => rfl⟩
theorem Low.trans (h : Low B H H') (k : Low B H' H'') : Low B H H'' := ⟨k.1.trans h.1, fun i hi => (k.2 i hi).trans (h.2 i hi)⟩
theorem Low.set {k : Nat} (hk : B ≤ k) (v : Int) : Low B H (H.set k v) := ⟨by simp, fun i hi => by rw [getD_set', if_neg (by omega)]⟩
theorem Low.all {v : Int} {ps : List Nat} (h : ∀ p ∈ ps, B ≤ p) : Low B H (setAll v H ps) := ⟨setAll_len _ _ _, fun i hi => by rw [setAll_get, if_neg (fun z => by have := h i z.1; omega)]⟩
theorem Ivn.low (h : Ivn T G n H) (k : Low (3 + T + G + n) H H') : Ivn T G n H' :=
  ⟨k.1.trans h.len, fun b hb => h.map b (by rw [← k.2 0 (by omega)]; exact hb), fun i hi => by rw [k.2 _ (by omega)]; exact h.ent i hi⟩
theorem pl_ge (i : Nat) : 3 + T + G + n ≤ pl T G n c b i := by unfold pl; omega
theorem look_low (i : Nat) : Low (3 + T + G + n) s.1 (lookS T G n o c b s i).1 := by
  induction i with
  | zero => exact Low.refl _ _
  | succ i ih =>
    unfold lookS
    split
    · exact ih.trans (Low.set (pl_ge i) _)
    · exact ih
theorem found_low (i : Nat) : Low (3 + T + G + n) s.1 (foundS T G n o c s i).1 := by
  induction i with
  | zero => exact Low.refl _ _
  | succ i ih =>
    unfold foundS
    split
    · exact ih.trans (look_low _)
    · exact ih
theorem mark_low (i : Nat) : Low (3 + T + G + n) H (markS T G n o c b H i) := by
  rw [markS_all]
  exact Low.all fun p hp => by
    obtain ⟨j, _, rfl⟩ := List.mem_map.1 hp
    exact pl_ge j
theorem clear_low {a : Nat} (ha : 3 + T + G + n ≤ a) (i : Nat) : Low (3 + T + G + n) H (clearH H a i) := by
  rw [clearH_all]
  exact Low.all fun p hp => by
    obtain ⟨j, _, rfl⟩ := List.mem_map.1 hp
    omega
theorem Ivn.entry (h : Ivn T G n H) (i : Nat) (hi : i < n) {v : Int} (hv : ek v ≠ 5) : Ivn T G n (H.set (3 + T + G + i) v) := by
  refine ⟨by simpa using h.len, fun b hb => h.map b (by rwa [getD_set', if_neg (by omega)] at hb), fun j hj => ?_⟩
  rw [getD_set']
  split
  · exact hv
  · exact h.ent j hj
theorem Ivn.map0 (h : Ivn T G n H) {M : Nat} (hM : ∀ b, M.testBit b = true → b < n) : Ivn T G n (H.set 0 (M : Int)) := by
  have hl := h.len
  refine ⟨by simpa using h.len, fun b hb => hM b ?_, fun j hj => ?_⟩
  · rw [getD_set', if_pos ⟨rfl, by omega⟩] at hb
    simpa using hb
  · rw [getD_set', if_neg (by omega)]; exact h.ent j hj
theorem setN_sub {M k r : Nat} {i : Nat} (h : (Bm.setN M k r false).testBit i = true) : M.testBit i = true := by
  by_cases hi : i < 64
  · rw [Bm.setN_bit _ _ _ _ _ hi] at h
    split at h
    · cases h
    · exact h
  · have h1 : (Bm.setN M k r false).testBit i = false := Nat.testBit_lt_two_pow (Nat.lt_of_lt_of_le (Bm.setN_lt M k r false) (Nat.pow_le_pow_right (by decide) (by omega)))
    rw [h1] at h; cases h
theorem frst_fit (h : Ivn T G n H) {run k : Nat} (h1 : 1 ≤ run) (hf : frst (H.getD 0 0).toNat run = some k) : k + run ≤ n := by
  unfold frst at hf
  rw [List.find?_range_eq_some] at hf
  have h2 := hf.1
  simp only [Bm.isR, Bool.and_eq_true, decide_eq_true_eq] at h2
  have := h.map (k + run - 1) (Bm.allN_iff.1 h2.2 _ (by simp only [Int.toNat_natCast]; omega) (by simp only [Int.toNat_natCast]; omega))
  omega
theorem Ivn.claim (h : Ivn T G n H) (k run : Nat) : Ivn T G n (H.set 0 (Bm.setN (H.getD 0 0).toNat k run false : Int)) := h.map0 fun b hb => h.map b (setN_sub hb)
theorem ek_zero : ek 0 = 0 := by decide
theorem Ivn.back (h : Ivn T G n H) (b r : Int) (hn : n ≤ 64) : Ivn T G n (backH T G n H b r) := by
  unfold backH
  split
  · rename_i hr
    have hr := runG_iff.1 hr
    have h1 : Ivn T G n (zer H (3 + T + G + b.toNat) r.toNat) := ⟨by rw [zer_len]; exact h.len, fun i hi => h.map i (by rwa [zer_get, if_neg (by omega)] at hi), fun i hi => by
      rw [zer_get]
      split
      · rw [ek_zero]; omega
      · exact h.ent i hi⟩
    refine h1.map0 fun i hi => ?_
    unfold giveM at hi
    split at hi
    · by_cases h64 : i < 64
      · rw [Bm.setN_bit _ _ _ _ _ h64] at hi
        split at hi
        · omega
        · exact h.map i hi
      · have h2 : (Bm.setN (H.getD 0 0).toNat b.toNat r.toNat true).testBit i = false := Nat.testBit_lt_two_pow (Nat.lt_of_lt_of_le (Bm.setN_lt _ _ _ _) (Nat.pow_le_pow_right (by decide) (by omega)))
        rw [h2] at hi; cases hi
    · exact h.map i hi
  · exact h
theorem Ivn.wait (h : Ivn T G n H) (hn : n ≤ 64) (i : Nat) : Ivn T G n (waitH T G n o H i) := by
  induction i with
  | zero => exact h
  | succ i ih =>
    unfold waitH turnH
    split
    · exact ih.back _ _ hn
    · exact ih
theorem Ivn.tidy (h : Ivn T G n H) (hn : n ≤ 64) : Ivn T G n (tidyH T G n o wk H) := by
  unfold tidyH
  split
  · exact h
  · exact h.wait hn n
theorem ek_word {k c r o : Int} (hk : 0 ≤ k) (hc : 0 ≤ c) (hr : 0 ≤ r) (ho : 0 ≤ o) (h : Tb.mayE k c r o = true) : ek (Tb.wordE k c r o) = k := by
  unfold ek
  rw [if_pos (Tb.takeE_of_word hk hc hr ho h)]
  exact (Tb.parts_word hk hc hr ho h).1

/-! Rows -/
theorem Pok.put {xs : List Int} (h : Pok T G n R) (hx : ∀ x ∈ xs, ((3 + T + G + n : Nat) : Int) ≤ x) : Pok T G n (Li.upd R c xs) := fun d hd x hm => by
  by_cases e : d = c
  · subst e; rw [Li.upd_same] at hm; exact hx x hm
  · rw [Li.upd_ne _ _ _ _ e] at hm; exact h d hd x hm
theorem Pok.push (h : Pok T G n R) (hc : c < 4) {x : Int} (hx : ((3 + T + G + n : Nat) : Int) ≤ x) : Pok T G n (Li.pushR R c x) := by
  unfold Li.pushR
  split
  · rw [Int.toNat_natCast]
    refine h.put fun y hy => ?_
    rcases List.mem_append.1 hy with hy | hy
    · exact h c hc y hy
    · rw [List.mem_singleton] at hy; rw [hy]; exact hx
  · exact h
theorem Pok.pop (h : Pok T G n R) (hc : c < 4) : Pok T G n (Li.popR R c) := by
  unfold Li.popR
  split
  · rw [Int.toNat_natCast]
    exact h.put fun y hy => h c hc y (List.dropLast_subset _ hy)
  · exact h
theorem Pok.look (h : Pok T G n s.2) (hc : c < 4) (i : Nat) : Pok T G n (lookS T G n o c b s i).2 := by
  induction i with
  | zero => exact h
  | succ i ih =>
    unfold lookS
    split
    · exact ih.push hc (by exact_mod_cast pl_ge i)
    · exact ih
theorem Pok.found (h : Pok T G n s.2) (hc : c < 4) (i : Nat) : Pok T G n (foundS T G n o c s i).2 := by
  induction i with
  | zero => exact h
  | succ i ih =>
    unfold foundS
    split
    · exact ih.look hc _
    · exact ih
theorem Pok.pushes {m : Nat} (h : Pok T G n R) (hc : c < 4) (i : Nat) : Pok T G n (pushS T G n c b m R i) := by
  induction i with
  | zero => exact h
  | succ i ih => exact ih.push hc (by exact_mod_cast pl_ge (m - 1 - i))
theorem popS_ge (h : Pok T G n s.2) (hc : c < 4) {x : Int} (hx : (popS s c).2 = some x) : ((3 + T + G + n : Nat) : Int) ≤ x := by
  unfold popS at hx
  simp only at hx
  split at hx
  · rename_i he
    have := h c hc _ (pop_mem hc he)
    cases hx
    exact this
  · cases hx

/-- A class's row is filled. -/
theorem more_inv (hc : c < 4) (ho : o < 64) (hn : n ≤ 64) (h : Ivn T G n s.1) (hp : Pok T G n s.2) : Ivn T G n (moreS T G n o c wk s).1 ∧ Pok T G n (moreS T G n o c wk s).2 := by
  have h1 : Ivn T G n (foundS T G n o c s n).1 := h.low (found_low n)
  have p1 := hp.found (o := o) hc n
  unfold moreS
  split
  · have h2 := h1.tidy (o := o) (wk := wk) hn
    cases hf : frst ((tidyH T G n o wk (foundS T G n o c s n).1).getD 0 0).toNat 1 with
    | none => exact ⟨h2, p1⟩
    | some k =>
      simp only
      have hk := frst_fit h2 (Nat.le_refl 1) hf
      refine ⟨((h2.claim k 1).low (mark_low _)).entry k (by omega) ?_, p1.pushes hc _⟩
      rw [ek_word (by omega) (by omega) (by omega) (by omega) (Tb.mayE_iff.2 (by omega))]
      omega
  · exact ⟨h1, p1⟩
theorem cell_inv (hc : c < 4) (ho : o < 64) (hn : n ≤ 64) (h : Ivn T G n s.1) (hp : Pok T G n s.2) : cellS T G n o wk c s = dcellS T G n o wk c s ∧ Ivn T G n (cellS T G n o wk c s).1.1 ∧ Pok T G n (cellS T G n o wk c s).1.2 ∧ ∀ x, (cellS T G n o wk c s).2 = some x → ((3 + T + G + n : Nat) : Int) ≤ x := by
  have e : cellS T G n o wk c s = dcellS T G n o wk c s := cell_same hc fun k hk => frst_fit ((h.low (found_low n)).tidy hn) (Nat.le_refl 1) hk
  refine ⟨e, ?_⟩
  rw [e]
  unfold dcellS
  split
  · obtain ⟨h1, h2⟩ := more_inv (wk := wk) hc ho hn h hp
    exact ⟨h1, h2.pop hc, fun x hx => popS_ge h2 hc hx⟩
  · exact ⟨h, hp.pop hc, fun x hx => popS_ge hp hc hx⟩
theorem small_inv {rf sz : Nat} (hc : c < 4) (ho : o < 64) (hn : n ≤ 64) (hsz : (sz : Int) + 1 ≤ Cl.wdC c) (h : Ivn T G n s.1) (hp : Pok T G n s.2) (hl : Lok s.1.length s.2) :
    Ivn T G n (smallS T G n o wk c rf sz s).1.1 ∧ Pok T G n (smallS T G n o wk c rf sz s).1.2 ∧ ∀ x, (smallS T G n o wk c rf sz s).2 = some x → ((3 + T + G + n : Nat) : Int) ≤ x ∧ x + sz < (3 + T + G + 33 * n : Nat) := by
  obtain ⟨_, h1, h2, h3⟩ := cell_inv (wk := wk) hc ho hn h hp
  have hlen := h.len
  have hfit := fun x => cellS_fit (T := T) (G := G) (n := n) (o := o) (wk := wk) (s := s) (x := x) (N := s.1.length) hc (by omega) hl
  unfold smallS
  cases hx : (cellS T G n o wk c s).2 with
  | none => exact ⟨h1, h2, fun x hxx => by rw [hx] at hxx; cases hxx⟩
  | some x =>
    simp only
    have hge := h3 x hx
    obtain ⟨f1, f2⟩ := hfit x hx
    refine ⟨(h1.low (clear_low (by omega) _)).low (Low.set (by omega) _), h2, fun y hy => ?_⟩
    cases hy
    exact ⟨hge, by omega⟩
theorem blocks_inv {run : Nat} (h1 : 1 ≤ run) (hn : n ≤ 64) (h : Ivn T G n H) : blocksH T G n o wk H run = dblocksH T G n o wk H run ∧ Ivn T G n (blocksH T G n o wk H run).1 ∧ ∀ b, (blocksH T G n o wk H run).2 = some b → b + run ≤ n := by
  have hw := h.wait (o := o) hn n
  have e := blocks_same (o := o) (wk := wk) (fun k hk => frst_fit h h1 hk) (fun k hk => frst_fit hw h1 hk)
  refine ⟨e, ?_⟩
  rw [e]
  unfold dblocksH
  cases hf : frst (H.getD 0 0).toNat run with
  | some k => exact ⟨h.claim k run, fun b hb => by cases hb; exact frst_fit h h1 hf⟩
  | none =>
    simp only
    cases wk with
    | true => exact ⟨h, fun b hb => by cases hb⟩
    | false =>
      simp only [if_false, Bool.false_eq_true]
      cases hf2 : frst ((waitH T G n o H n).getD 0 0).toNat run with
      | some k => exact ⟨hw.claim k run, fun b hb => by cases hb; exact frst_fit hw h1 hf2⟩
      | none => exact ⟨hw, fun b hb => by cases hb⟩
theorem tail_inv {m : Nat} (h : Ivn T G n H) (hb : b + (1 + m) ≤ n) : Ivn T G n (tailH T G b H m) := by
  induction m with
  | zero => exact h
  | succ m ih => exact (ih (by omega)).entry (b + (1 + m)) (by omega) (by decide)
theorem large_inv {run rf sz : Nat} (h1 : 1 ≤ run) (h3 : run ≤ 3) (ho : o < 64) (hn : n ≤ 64) (hsz : sz + 1 ≤ 32 * run) (h : Ivn T G n s.1) (hp : Pok T G n s.2) :
    Ivn T G n (largeS T G n o wk run rf sz s).1.1 ∧ Pok T G n (largeS T G n o wk run rf sz s).1.2 ∧ ∀ x, (largeS T G n o wk run rf sz s).2 = some x → ((3 + T + G + n : Nat) : Int) ≤ x ∧ x + sz < (3 + T + G + 33 * n : Nat) := by
  obtain ⟨_, i1, i2⟩ := blocks_inv (o := o) (wk := wk) h1 hn h
  unfold largeS
  cases hb : (blocksH T G n o wk s.1 run).2 with
  | none => exact ⟨i1, hp, fun x hx => by cases hx⟩
  | some b =>
    simp only
    have hbr := i2 b hb
    refine ⟨((tail_inv (i1.low (clear_low (by omega) _)) (by omega)).low (Low.set (by omega) _)).entry b (by omega) ?_, hp, fun x hx => ?_⟩
    · rw [ek_word (by omega) (by omega) (by omega) (by omega) (Tb.mayE_iff.2 (by omega))]
      omega
    · cases hx
      exact ⟨by omega, by omega⟩
end
end Go.Proofs.YtdbbkncjhnafdaaGreatDoor

namespace Go.Proofs.YtdbbkncjhnafdaaGreatDoor
set_option linter.unusedVariables false
set_option linter.unusedSimpArgs false
set_option maxRecDepth 100000
open Go.RowKit

section
variable {T G n p r q t o a : Nat} {wk : Bool} {hd : Value} {vs vs' vs'' : Nat → Value} {H : List Int} {R : Nat → List Int} {w w0 w1 w2 wx wy : World} {Sh : List Nat} {P : Nat → World → Prop}

set_option maxHeartbeats 16000000 in
theorem make_small (h : Mw T G n p r q vs H R t w) (ht : t ≤ 300000) (hoT : o < T) (c rf sz : Nat) (hc : Cl.ofC sz = c) (hr : rf ≤ sz) (hs : sz ≤ 8) (ho2 : HoldOk T G n p r q o wk hd vs w Sh P) :
    Calls Tryz.prog 66 #[mkV T G n p q o wk hd, .int .i64 rf, .int .i64 sz] w fun e w' => e = .returned (.tuple #[.int .i64 ((smallS T G n o wk c rf sz (H, R)).2.getD 0), .int .i64 (erM (smallS T G n o wk c rf sz (H, R)).2)]) ∧ ∃ vs', Mw T G n p r q vs' (smallS T G n o wk c rf sz (H, R)).1.1 (smallS T G n o wk c rf sz (H, R)).1.2 (t + 38 * n + 120) w' ∧ Mh Sh p r q vs vs' w w' ∧ Tp Sh P (smallS T G n o wk c rf sz (H, R)).2 w w' := by
  have hT := Lib.hid (fun w => Ly.threads_is T G n w)
  have hf := h.fit
  have HOf := Lib.hid (fun w (tb : Cl.Tab w) => Cl.of_yes w tb sz c (by omega) hc (by omega))
  have hw : c < 4 ∧ (sz : Int) + 1 ≤ Cl.wdC c := by
    rcases Cl.of_ofs (sz : Int) with h | h | h | h | h | h
    · omega
    · obtain rfl : c = 0 := by omega
      exact ⟨by decide, by rw [show Cl.wdC ((0 : Nat) : Int) = 2 from by decide]; omega⟩
    · obtain rfl : c = 1 := by omega
      exact ⟨by decide, by rw [show Cl.wdC ((1 : Nat) : Int) = 3 from by decide]; omega⟩
    · obtain rfl : c = 2 := by omega
      exact ⟨by decide, by rw [show Cl.wdC ((2 : Nat) : Int) = 5 from by decide]; omega⟩
    · obtain rfl : c = 3 := by omega
      exact ⟨by decide, by rw [show Cl.wdC ((3 : Nat) : Int) = 9 from by decide]; omega⟩
    · omega
  have HSm : Hid (∀ w1, Kp [] w w1 → Calls Tryz.prog 101 #[mkV T G n p q o wk hd, .int .i64 c, .agg #[.int .u8 2, .int .u8 0, .bool false, .bool false, .int .u8 o, .int .u8 rf, .int .u8 sz]] w1 fun e w' => e = .returned (.tuple #[.int .i64 ((smallS T G n o wk c rf sz (H, R)).2.getD 0), .int .i64 (erM (smallS T G n o wk c rf sz (H, R)).2)]) ∧ ∃ vs', Mw T G n p r q vs' (smallS T G n o wk c rf sz (H, R)).1.1 (smallS T G n o wk c rf sz (H, R)).1.2 (t + 38 * n + 120) w' ∧ Mh Sh p r q vs vs' w w' ∧ Tp Sh P (smallS T G n o wk c rf sz (H, R)).2 w w') := by
    refine Lib.hid fun w1 k => (a_small (h.on k) ht (by omega) c rf sz hw.1 hr (by omega) hw.2 (ho2.on (Mk.of_kp k (by simp)))).mono ?_
    rintro e w' ⟨h1, v, h2, h3, h4⟩
    exact ⟨h1, v, h2, (Mh.of_mk (Mk.of_kp k (by simp))).trans h3, h4.pre k⟩
  have HTb : Hid (∀ w1, Kp [] w w1 → Cl.Tab w1) := Lib.hid fun w1 k => (h.on k).tab
  have KB : Hid (∀ w', Kp [] (mkW w T G n p q o wk hd) w' → Kp [] w w') := Lib.hid fun w' k => (mkW_kp w T G n p q o wk hd).trans k
  have HS0 := Lib.hid (ms_of (F := Kp [] (mkW w T G n p q o wk hd)) (mkW_row w T G n p q o wk hd) (Kp.refl _ _))
  have hc1 : ¬ ((T : Int) ≤ o) := by omega
  have hc2 : ¬ ((rf : Int) < 0) := by omega
  have hc3 : ¬ ((sz : Int) < rf) := by omega
  have hc4 : ¬ (95 < (sz : Int)) := by omega
  have ew := IntWalk.i64_in (o : Int) (by omega)
  have hd1 : decide (T ≤ o) = false := by simp; omega
  have hd2 : decide ((rf : Int) < 0) = false := by simp
  have hd3 : decide (sz < rf) = false := by simp; omega
  have hd4 : decide (95 < (sz : Int)) = false := by simp; omega
  clear hc1 hc2 hc3 hc4
  have hc5 : ((rf : Int) % 256) = rf := by omega
  have hc6 : ((sz : Int) % 256) = sz := by omega
  unfold mkW mkC at KB HS0
  generalize smallS T G n o wk c rf sz (H, R) = fin at HSm ⊢
  clear h ht hoT hc hr hs ho2 hw hf
  go_enter Tryz.func66, Tryz.ntmps66
  go_wp2_with fail
  go_region_held3 (fun wx => wx.cell? ⟨w.heap.size, 0, none⟩ = some (.iface 30 (.pointer (some ⟨p, 0, none⟩))) ∧ wx.cell? ⟨w.heap.size, 1, none⟩ = some (.int .i64 T) ∧ wx.cell? ⟨w.heap.size, 2, none⟩ = some (.int .i64 G) ∧ wx.cell? ⟨w.heap.size, 3, none⟩ = some (.int .i64 n) ∧ wx.cell? ⟨w.heap.size, 4, none⟩ = some (.int .u8 o) ∧ wx.cell? ⟨w.heap.size, 5, none⟩ = some (.pointer (some ⟨q, 0, none⟩)) ∧ wx.cell? ⟨w.heap.size, 6, none⟩ = some (.bool wk) ∧ wx.cell? ⟨w.heap.size, 7, none⟩ = some hd ∧ Kp [] (mkW w T G n p q o wk hd) wx)
    (first
      | assumption
      | exact ms_keep HS0.out ((Kp.refl [] _).drew) (by simp) (fun k => k.trans ((Kp.refl [] _).drew))
      | exact ms_keep ‹Ms w.heap.size T G n p q o wk hd (Kp [] (mkW w T G n p q o wk hd)) _› hk9 (by simp) (fun k => k.trans hk9))
    (first
    | (go_at_call 37
       refine (hT.out _).mono ?_
       rintro e w4 ⟨rfl, hk9⟩))
  all_goals
    rename_i hHeld
    obtain ⟨r0, r1, r2, r3, r4, r5, r6, r7, hk4⟩ := hHeld
    have hrow4 := hk4.row (by simp) (mkW_row w T G n p q o wk hd)
    have K4 := Lib.hid (KB.out _ hk4)
    have kA : Kp [] w4 (w4.alloc (.cells #[.int .u8 2, .int .u8 0, .bool false, .bool false, .int .u8 o, .int .u8 rf, .int .u8 sz] 68)) := (Kp.refl _ _).alloc _
    have K5 := Lib.hid (K4.out.trans kA)
    have hrow5 := kA.row (by simp) hrow4
    obtain ⟨s0, s1, s2, s3, s4, s5, s6, s7, -⟩ := ms_of (F := fun _ => True) hrow5 trivial
    have HOf5 := Lib.hid (HOf.out _ (HTb.out _ K5.out))
    have HSm5 := Lib.hid (HSm.out _ K5.out)
    clear hk4 hrow4 kA hrow5 HOf HSm hk9
    go_wp2_with fail
    refine HOf5.out.mono ?_
    rintro e w6 ⟨rfl, rfl⟩
    go_wp2_with fail
    refine HSm5.out.mono ?_
    rintro e w7 ⟨rfl, h7⟩
    have H7 := Lib.hid h7
    clear h7
    go_wp2_with fail
    go_ret2
    exact ⟨rfl, H7.out⟩
end

end Go.Proofs.YtdbbkncjhnafdaaGreatDoor

namespace Go.Proofs.YtdbbkncjhnafdaaGreatDoor.Gx
set_option linter.unusedVariables false
set_option linter.unusedSimpArgs false
open Go.RowKit
/-- The block that a slice leads to, as a list. -/
def blk (v : Value) : List Nat := v.ownBlock.toList
theorem blk_nil : blk (.slice none 0 0) = [] := rfl
theorem blk_some (g o n c : Nat) : blk (.slice (some ⟨g, o, none⟩) n c) = [g] := rfl
theorem kp_of_row {w w' : World} {v : Value} (h : w.grownBy w' v.ownBlock) : Kp (blk v) w w' := ⟨h.os, h.tape, h.output, h.size, fun k hk hn => h.block k hk (by
  intro e
  apply hn
  unfold blk
  rw [Option.mem_toList]
  exact e.symm)⟩
theorem kp_drewN {S : List Nat} (w : World) (j : Nat) : Kp S w (w.drewN j) := ⟨rfl, rfl, rfl, Nat.le_refl _, fun _ _ _ => rfl⟩
theorem ne_types {w : World} {a b : Nat} {x y : Array Value} {t u : TypeId} (h : w.heap[a]? = some (.cells x t (0, 0))) (k : w.heap[b]? = some (.cells y u (0, 0))) (htu : t ≠ u) : a ≠ b := by
  intro e; subst e
  have := h.symm.trans k
  simp at this
  exact htu this.2
theorem Kp.cell {S : List Nat} {w w' : World} (k : Kp S w w') {g o : Nat} (hg : g ∉ S) {v : Value} (h : w.cell? ⟨g, o, none⟩ = some v) : w'.cell? ⟨g, o, none⟩ = some v :=
  (World.cell?_of_block (a := ⟨g, o, none⟩) (k.block g (block_lt_of_cell h) hg)).trans h


/-- A row of the call's own, made since base: n elements of type T, sz cells each. -/
structure Rw (T : TypeId) (sz : Nat) (base : Nat) (w : World) (v : Value) (n : Nat) (xs : List Value) : Prop where
  own : w.ownsRow base T sz v n xs
section
variable {T : TypeId} {sz base : Nat} {w w' : World} {v : Value} {n : Nat} {xs : List Value}
theorem Rw.nil (T : TypeId) (sz base : Nat) (w : World) : Rw T sz base w (.slice none 0 0) 0 [] := ⟨World.ownsRow_nil _ _ _ _⟩
theorem Rw.keep {S : List Nat} (h : Rw T sz base w v n xs) (k : Kp S w w') (hS : ∀ b ∈ blk v, b ∉ S) : Rw T sz base w' v n xs := by
  refine ⟨h.own.1, ?_⟩
  rcases h.own.2 with h0 | ⟨b, c, cur, rfl, hge, hb, r⟩
  · exact .inl h0
  · exact .inr ⟨b, c, cur, rfl, hge, k.row (hS b (by simp [blk_some])) hb, r⟩
theorem Rw.keep0 (h : Rw T sz base w v n xs) (k : Kp [] w w') : Rw T sz base w' v n xs := h.keep k (by simp)
theorem Rw.block (h : Rw T sz base w v n xs) : ∀ b ∈ blk v, base ≤ b ∧ ∃ cur, w.heap[b]? = some (.cells cur T (0, 0)) := by
  intro b hb
  rcases h.own.2 with ⟨rfl, _⟩ | ⟨b', c, cur, rfl, hge, hb', _⟩
  · simp [blk_nil] at hb
  · rw [blk_some, List.mem_singleton] at hb
    exact ⟨hb ▸ hge, cur, hb ▸ hb'⟩
theorem Rw.form (h : Rw T sz base w v n xs) : ∃ ao c, v = .slice ao n c := by
  rcases h.own.2 with ⟨rfl, h0⟩ | ⟨b, c, cur, rfl, _⟩
  · exact ⟨none, 0, by rw [h0]⟩
  · exact ⟨_, c, rfl⟩
theorem Rw.at (h : Rw T sz base w v n xs) (hn : 0 < n) (hsz : 0 < sz) : ∃ b c, v = .slice (some ⟨b, 0, none⟩) n c ∧ n ≤ c ∧ ∀ i, i < n * sz → w.cell? ⟨b, i, none⟩ = xs[i]? := by
  rcases h.own.2 with ⟨_, h0⟩ | ⟨b, c, cur, rfl, _, hb, h1, h2, h3, h4⟩
  · omega
  · refine ⟨b, c, rfl, h1, fun i hi => ?_⟩
    rw [cell_of_row hb, ← h4, List.getElem?_take_of_lt hi]
    simp
/-- Nothing older than the base turns where such a row does. -/
theorem Rw.old (h : Rw T sz base w v n xs) {w0 : World} (hb : base = w0.heap.size) (k0 : Kp [] w0 w) (k : Kp (blk v) w w') : Kp [] w0 w' :=
  ((k0.mono (by simp)).trans k).mono fun y hy hlt => by have := (h.block y hy).1; omega
theorem Rw.len (h : Rw T sz base w v n xs) : xs.length = n * sz := h.own.1
end

/-- 'append(v, news...)', its run. -/
theorem run_app {T t ty : TypeId} {sz base bytes : Nat} {w : World} {v : Value} {n : Nat} {xs : List Value} (ht : Tryz.prog.underlying t = some (.slice T)) (hi : ∃ i z, Tryz.prog.info? T = some i ∧ i.zero = some z ∧ i.size = sz ∧ i.bytes = bytes ∧ z.cells.size = sz) (hsz : 0 < sz)
    (h : Rw T sz base w v n xs) (hbase : base ≤ w.heap.size) (ad : Addr) (m c : Nat) (news : List Value) (hl : news.length = m * sz) (hnews : ∀ j u, news[j]? = some u → w.cell? (ad.add j) = some u) (h1 : ∀ u ∈ news, u.oneCell' = true) (hm : 0 < m)
    (hn : n + m ≤ 1000000) (hb : bytes ≤ 100) :
    ∃ g cap w', (Builtin.append_ #[t, t] ty #[v, .slice (some ad) m c]).run Tryz.prog w = .ok (.slice (some ⟨g, 0, none⟩) (n + m) cap) w' ∧ Rw T sz base w' (.slice (some ⟨g, 0, none⟩) (n + m) cap) (n + m) (xs ++ news) ∧ Kp (blk v) w w' ∧ (g ∈ blk v ∨ g = w.heap.size) := by
  obtain ⟨i, z, e1, e2, e3, e4, e5⟩ := hi
  have h63 : n + m ≤ maxLen := by unfold maxLen; omega
  have hby : (n + m) * bytes ≤ 140737488355328 := by
    have : (n + m) * bytes ≤ 1000000 * 100 := Nat.mul_le_mul hn hb
    omega
  obtain ⟨g, cap, w', hr, h2, h3, h4, _⟩ := run_append_lies (P := Tryz.prog) w t ty base T i z sz bytes ht e1 e2 e3 e4 e5 hsz v n xs h.own ad m c news hl hnews h1 hm h63 hby hbase _ rfl
  exact ⟨g, cap, w', hr, ⟨h2⟩, kp_of_row h3, h4.imp (fun e => by unfold blk; rw [e]; simp) id⟩


/-- An 'append' whose run is known. -/
theorem wpList_append_eq {P : Program} {w w2 : World} {ops : Array Oper} {rest : List Oper} {o : Oper} {a : Act} {Q : Exit → Act → World → Prop} (hgd : o.guard = none) (s x : Operand) (t : TypeId)
    (ho : o.op = .call { callee := .builtin .append, args := #[s, x], argTypes := #[t, t] }) (sv xv v : Value) (hs : a.eval s = sv) (hx : a.eval x = xv)
    (hrun : (Builtin.append_ #[t, t] o.type #[sv, xv]).run P w = .ok v w2) (hK : wpList P ops Q rest (a.put o.dst v) w2) : wpList P ops Q (o :: rest) a w := by
  refine wpList_plain hgd fun K hK' => ?_
  unfold Oper.wp
  simp [execOp, ho, resolve, invoke, builtin, hs, hx, hrun, Result.andThen]
  exact hK' _ _ hK


end Go.Proofs.YtdbbkncjhnafdaaGreatDoor.Gx

namespace Go.Proofs.YtdbbkncjhnafdaaGreatDoor.Ly
set_option linter.unusedVariables false
set_option linter.unusedSimpArgs false
open Go.RowKit

/-- The two boxes of New, behind the call of table. -/
theorem new_rows {w w3 : World} {T G : Int} (hk : Kp [] ((w.alloc (.cells #[.int .i64 0, .int .i64 0, .int .i64 0] 32)).alloc (.cells #[.int .i64 T, .int .i64 G, .int .i64 0] 32)) w3) :
    w3.heap[w.heap.size]? = some (.cells #[.int .i64 0, .int .i64 0, .int .i64 0] 32 (0, 0)) ∧ w3.heap[w.heap.size + 1]? = some (.cells #[.int .i64 T, .int .i64 G, .int .i64 0] 32 (0, 0)) ∧ Kp [] w w3 := by
  refine ⟨hk.row (by simp) (heap_alloc2_old w _ _), hk.row (by simp) ?_, (((Kp.refl _ _).alloc _).alloc _).trans hk⟩
  have := heap_alloc_new (w.alloc (.cells #[.int .i64 0, .int .i64 0, .int .i64 0] 32)) (.cells #[.int .i64 T, .int .i64 G, .int .i64 0] 32)
  rwa [World.size_alloc] at this

theorem new_store {w w3 : World} {T G : Int} (R0 : w3.heap[w.heap.size]? = some (.cells #[.int .i64 0, .int .i64 0, .int .i64 0] 32 (0, 0))) (R1 : w3.heap[w.heap.size + 1]? = some (.cells #[.int .i64 T, .int .i64 G, .int .i64 0] 32 (0, 0))) (K : Kp [] w w3) (q : Int) :
    (w3.setCell ⟨w.heap.size + 1, 2, none⟩ (.int .i64 q)).heap[w.heap.size]? = some (.cells #[.int .i64 0, .int .i64 0, .int .i64 0] 32 (0, 0)) ∧
    Kp [] w (w3.setCell ⟨w.heap.size + 1, 2, none⟩ (.int .i64 q)) :=
  ⟨by rw [heap_setCell_other _ _ _ _ (by simp)]; exact R0, K.setCell (.inr (by simp)) _⟩

set_option maxRecDepth 100000 in
set_option maxHeartbeats 1000000 in
theorem new_low (W T G tb : Int) (w : World) (htb : tb = 3 + T + G) (w1 : 1 ≤ W) (w2 : W ≤ 4096) (t0 : 1 ≤ T) (t1 : T ≤ 64) (g0 : 0 ≤ G) (g1 : G ≤ 8) (h0 : 0 ≤ W - tb) (q1 : 1 ≤ (W - tb) / 33) (q2 : (W - tb) / 33 ≤ 64) :
    Calls Tryz.prog 60 #[.int .i64 W, .int .i64 T, .int .i64 G] w fun e w' => e = .returned (.tuple #[.agg #[.int .i64 T, .int .i64 G, .int .i64 ((W - tb) / 33)], .int .i64 0]) ∧ Kp [] w w' := by
  have k1 := Lib.hid (fun w => table_is T G 0 w (by omega) t1 g0 g1)
  rw [← htb] at k1
  have tb0 : 0 ≤ tb := by omega
  have tb1 : tb ≤ 75 := by omega
  clear htb
  go_enter Tryz.func60, Tryz.ntmps60
  go_wp2_with fail
  refine (k1.out _).mono ?_; rintro e w3 ⟨rfl, hk⟩
  obtain ⟨R0, R1, K⟩ := new_rows hk
  obtain ⟨S0, KS⟩ := new_store R0 R1 K ((W - tb) / 33)
  have hf2 := free_of_row R1 2
  have hc0 := cell_of_row R1 0
  have hc1 := cell_of_row R1 1
  have hc2 := cell_of_row R1 2
  have S0 := Lib.hid S0
  clear hk R0 R1 K
  simp at hc0 hc1 hc2
  go_wp2_with (refine wpList_store_row rfl 32 _ _ rfl w.heap.size _ rfl rfl 32 _ S0.out (by kernel_rfl) rfl (by simp [Value.oneCell']) ?_)
  exact bodyPost_row_tmp rfl w.heap.size 32 _ (0, 0) _ (.int .i64 0) rfl rfl rfl (setRow_heap _ _ _ _ _ _ S0.out) Tryz.underlying32 rfl (by kernel_rfl)
    ⟨rfl, KS.setRow (.inr (Nat.le_refl _)) _⟩

set_option maxRecDepth 100000 in
set_option maxHeartbeats 1000000 in
theorem new_high (W T G tb : Int) (w : World) (htb : tb = 3 + T + G) (w1 : 1 ≤ W) (w2 : W ≤ 4096) (t0 : 1 ≤ T) (t1 : T ≤ 64) (g0 : 0 ≤ G) (g1 : G ≤ 8) (h0 : 0 ≤ W - tb) (q1 : 1 ≤ (W - tb) / 33) (q2 : 64 < (W - tb) / 33) :
    Calls Tryz.prog 60 #[.int .i64 W, .int .i64 T, .int .i64 G] w fun e w' => e = .returned (.tuple #[.agg #[.int .i64 T, .int .i64 G, .int .i64 64], .int .i64 0]) ∧ Kp [] w w' := by
  have k1 := Lib.hid (fun w => table_is T G 0 w (by omega) t1 g0 g1)
  rw [← htb] at k1
  have tb0 : 0 ≤ tb := by omega
  have tb1 : tb ≤ 75 := by omega
  clear htb
  go_enter Tryz.func60, Tryz.ntmps60
  go_wp2_with fail
  refine (k1.out _).mono ?_; rintro e w3 ⟨rfl, hk⟩
  obtain ⟨R0, R1, K⟩ := new_rows hk
  obtain ⟨S0, KS⟩ := new_store R0 R1 K 64
  have hf2 := free_of_row R1 2
  have hc0 := cell_of_row R1 0
  have hc1 := cell_of_row R1 1
  have hc2 := cell_of_row R1 2
  have S0 := Lib.hid S0
  clear hk R0 R1 K
  simp at hc0 hc1 hc2
  go_wp2_with (refine wpList_store_row rfl 32 _ _ rfl w.heap.size _ rfl rfl 32 _ S0.out (by kernel_rfl) rfl (by simp [Value.oneCell']) ?_)
  exact bodyPost_row_tmp rfl w.heap.size 32 _ (0, 0) _ (.int .i64 0) rfl rfl rfl (setRow_heap _ _ _ _ _ _ S0.out) Tryz.underlying32 rfl (by kernel_rfl)
    ⟨rfl, KS.setRow (.inr (Nat.le_refl _)) _⟩

/-- How many blocks go in. -/
def blkP (W T G : Int) : Int := if (W - (3 + T + G)) / 33 ≤ 64 then (W - (3 + T + G)) / 33 else 64
theorem new_ok (W T G b : Int) (w : World) (hb : blkP W T G = b) (w1 : 1 ≤ W) (w2 : W ≤ 4096) (t0 : 1 ≤ T) (t1 : T ≤ 64) (g0 : 0 ≤ G) (g1 : G ≤ 8) (h : 3 + T + G + 33 ≤ W) :
    Calls Tryz.prog 60 #[.int .i64 W, .int .i64 T, .int .i64 G] w fun e w' => e = .returned (.tuple #[.agg #[.int .i64 T, .int .i64 G, .int .i64 b], .int .i64 0]) ∧ Kp [] w w' := by
  subst hb
  unfold blkP
  by_cases hq : (W - (3 + T + G)) / 33 ≤ 64
  · rw [if_pos hq]
    exact new_low W T G _ w rfl w1 w2 t0 t1 g0 g1 (by omega) (by omega) hq
  · rw [if_neg hq]
    exact new_high W T G _ w rfl w1 w2 t0 t1 g0 g1 (by omega) (by omega) (by omega)

end Go.Proofs.YtdbbkncjhnafdaaGreatDoor.Ly

namespace Go.Proofs.YtdbbkncjhnafdaaGreatDoor.Ly
set_option linter.unusedVariables false
set_option linter.unusedSimpArgs false
open Go.RowKit

set_option maxRecDepth 100000 in
set_option maxHeartbeats 1000000 in
/-- New: either no block goes in, or as many as go in. -/
theorem rnew_walk (W T G : Int) (w : World) (w1 : 1 ≤ W) (w2 : W ≤ 4096) (t0 : 1 ≤ T) (t1 : T ≤ 64) (g0 : 0 ≤ G) (g1 : G ≤ 8) (R : Ending → Prop)
    (hfull : W < 3 + T + G + 33 → R (.returned (.tuple #[.agg #[.int .i64 0, .int .i64 0, .int .i64 0], .int .i64 4])))
    (hok : ∀ b : Int, 1 ≤ b → b ≤ 64 → 3 + T + G + 33 * b ≤ W → (b < 64 → W < 3 + T + G + 33 * (b + 1)) → R (.returned (.tuple #[.agg #[.int .i64 T, .int .i64 G, .int .i64 b], .int .i64 0]))) :
    Calls Tryz.prog 61 #[.int .i64 W, .int .i64 T, .int .i64 G] w fun e w' => R e ∧ Kp [] w w' := by
  have HF := Lib.hid hfull
  have HO := Lib.hid hok
  clear hfull hok
  go_enter Tryz.func61, Tryz.ntmps61
  go_wp2_with fail
  go_loop [8] (fun bv => ∃ k : Nat, k ≤ 64 ∧ bv = .int .i64 k ∧ (k = 0 ∨ 3 + T + G + 33 * k ≤ W)) (fun bv => 64 - (intOf bv).toNat)
  case atStart => exact ⟨0, by omega, rfl, .inl rfl⟩
  case round =>
    obtain ⟨k, hk, rfl, hfit⟩ := hrel
    have HFIT := Lib.hid hfit
    clear hfit
    by_cases hk64 : k < 64
    · by_cases hm : 3 + T + G + 33 * (k + 1) ≤ W
      · go_wp2
        go_round
        case rel => exact ⟨k + 1, by omega, by go_num, .inr (by push_cast; omega)⟩
        case measure => simp [intOf]; omega
      · by_cases h0 : k = 0
        · subst h0
          have hd : decide ((3 + T + G + 33 * ((0 : Nat) + 1) : Int) ≤ W) = false := by simpa using hm
          go_wp2
          go_returns
          exact ⟨HF.out (by omega), (Kp.refl _ _).alloc _⟩
        · have hk0 : 0 < k := by omega
          have hne : ((k : Int) == 0) = false := by simpa using h0
          have HR := Lib.hid (HO.out k (by omega) (by omega) (by rcases HFIT.out with h | h <;> omega) (fun _ => by omega))
          go_wp2
          go_returns
          exact ⟨HR.out, (Kp.refl _ _).alloc _⟩
    · obtain rfl : k = 64 := by omega
      have HR := Lib.hid (HO.out 64 (by omega) (by omega) (by rcases HFIT.out with h | h <;> omega) (fun h => by omega))
      go_wp2
      go_returns
      exact ⟨HR.out, (Kp.refl _ _).alloc _⟩

theorem rnew_ok (W T G b : Int) (w : World) (hb : blkP W T G = b) (w1 : 1 ≤ W) (w2 : W ≤ 4096) (t0 : 1 ≤ T) (t1 : T ≤ 64) (g0 : 0 ≤ G) (g1 : G ≤ 8) (h : 3 + T + G + 33 ≤ W) :
    Calls Tryz.prog 61 #[.int .i64 W, .int .i64 T, .int .i64 G] w fun e w' => e = .returned (.tuple #[.agg #[.int .i64 T, .int .i64 G, .int .i64 b], .int .i64 0]) ∧ Kp [] w w' := by
  refine rnew_walk W T G w w1 w2 t0 t1 g0 g1 _ (fun _ => by omega) (fun c h1 h2 h3 h4 => ?_)
  have : c = b := by rw [← hb]; unfold blkP; split <;> omega
  rw [this]

theorem rentry_is (t g b k p : Int) (w : World) (hp : rowP (3 + t + g) b 1 k = p) (t0 : 0 ≤ t) (t1 : t ≤ 64) (g0 : 0 ≤ g) (g1 : g ≤ 8) (b0 : 0 ≤ b) (b1 : b ≤ 64) : Calls Tryz.prog 91 #[.agg #[.int .i64 t, .int .i64 g, .int .i64 b], .int .i64 k] w fun e w' => e = .returned (.int .i64 p) ∧ Kp [] w w' := by
  subst hp
  rcases (by omega : k < 0 ∨ (0 ≤ k ∧ b ≤ k) ∨ (0 ≤ k ∧ k < b)) with h | ⟨h0, h1⟩ | ⟨h0, h1⟩
  · rw [rowP_out (.inl h)]
    go_enter Tryz.func91, Tryz.ntmps91
    go_wp2
    go_ret
    exact ⟨rfl, (Kp.refl _ _).alloc _⟩
  · rw [rowP_out (.inr h1)]
    go_enter Tryz.func91, Tryz.ntmps91
    go_wp2
    go_ret
    exact ⟨rfl, (Kp.refl _ _).alloc _⟩
  · rw [rowP_in h0 h1, show (3 + t + g) + k * 1 = 3 + t + g + k from by omega]
    go_enter Tryz.func91, Tryz.ntmps91
    go_wp2
    go_ret
    exact ⟨rfl, (Kp.refl _ _).alloc _⟩

theorem rstart_is (t g b k p : Int) (w : World) (hp : rowP (3 + t + g + b) b 32 k = p) (t0 : 0 ≤ t) (t1 : t ≤ 64) (g0 : 0 ≤ g) (g1 : g ≤ 8) (b0 : 0 ≤ b) (b1 : b ≤ 64) : Calls Tryz.prog 54 #[.agg #[.int .i64 t, .int .i64 g, .int .i64 b], .int .i64 k] w fun e w' => e = .returned (.int .i64 p) ∧ Kp [] w w' := by
  subst hp
  rcases (by omega : k < 0 ∨ (0 ≤ k ∧ b ≤ k) ∨ (0 ≤ k ∧ k < b)) with h | ⟨h0, h1⟩ | ⟨h0, h1⟩
  · rw [rowP_out (.inl h)]
    go_enter Tryz.func54, Tryz.ntmps54
    go_wp2
    go_ret
    exact ⟨rfl, (Kp.refl _ _).alloc _⟩
  · rw [rowP_out (.inr h1)]
    go_enter Tryz.func54, Tryz.ntmps54
    go_wp2
    go_ret
    exact ⟨rfl, (Kp.refl _ _).alloc _⟩
  · rw [rowP_in h0 h1, show (3 + t + g + b) + k * 32 = 3 + t + g + b + 32 * k from by omega]
    go_enter Tryz.func54, Tryz.ntmps54
    go_wp2
    go_ret
    exact ⟨rfl, (Kp.refl _ _).alloc _⟩

end Go.Proofs.YtdbbkncjhnafdaaGreatDoor.Ly

namespace Go.Proofs.YtdbbkncjhnafdaaGreatDoor.Bm
set_option linter.unusedVariables false
set_option linter.unusedSimpArgs false
set_option maxRecDepth 100000
open Go.RowKit

/-- An array of 64 bools. -/
def bv (f : Nat → Bool) : Array Value := ((List.range 64).map fun i => Value.bool (f i)).toArray
theorem bv_size (f : Nat → Bool) : (bv f).size = 64 := by simp [bv]
theorem bv_get (f : Nat → Bool) (i : Nat) (h : i < 64) : (bv f)[i]? = some (.bool (f i)) := by simp [bv, h]
theorem bv_set (f : Nat → Bool) (i : Nat) (b : Bool) (g : Nat → Bool) (h : ∀ j, j < 64 → g j = if j = i then b else f j) : (bv f).setIfInBounds i (.bool b) = bv g := by
  apply Array.ext_getElem?
  intro j
  by_cases hj : j < 64
  · rw [bv_get g j hj, h j hj]
    by_cases e : i = j
    · subst e
      rw [Array.getElem?_setIfInBounds_self_of_lt (by rw [bv_size]; exact hj)]; simp
    · rw [Array.getElem?_setIfInBounds_ne e, bv_get f j hj, if_neg (fun q => e q.symm)]
  · rw [Array.getElem?_eq_none (by rw [Array.size_setIfInBounds, bv_size]; omega), Array.getElem?_eq_none (by rw [bv_size]; omega)]
theorem bv_one (f : Nat → Bool) : (bv f).all (·.oneCell') = true := by
  rw [Array.all_eq_true]
  intro i hi
  have hi' : i < 64 := by rwa [bv_size] at hi
  have := bv_get f i hi'
  rw [Array.getElem?_eq_getElem hi] at this
  injection this with this
  rw [this]; rfl
theorem bv_info : (Tryz.prog.info? 174).map (fun i => (i.zero, i.size)) = some (some (.agg (bv fun _ => false)), 64) := by kernel_rfl

/-- The block that was made last holds an array of bools. -/
theorem bv_cell (w : World) (f : Nat → Bool) (k : Nat) (hk : k < 64) (b : Nat) (hb : b = w.heap.size) : (w.alloc (.cells (bv f) 174)).cell? ⟨b, k, none⟩ = some (.bool (f k)) := by
  subst hb
  rw [cell_of_row (heap_alloc_last w _) k, bv_get f k hk]
theorem bv_free (w : World) (f : Nat → Bool) (k : Nat) (b : Nat) (hb : b = w.heap.size) : (w.alloc (.cells (bv f) 174)).frozen? ⟨b, k, none⟩ = false := by
  subst hb
  exact free_of_row (heap_alloc_last w _) k

theorem bv_szs : (Tryz.prog.info? 174).map (·.size) = some 64 := (zero_of_info bv_info).2

/-- The whole array is loaded, and stored. -/
theorem bv_load {w : World} {ops : Array Oper} {rest : List Oper} {o : Oper} {a : Act} {Q : Exit → Act → World → Prop} (hgd : o.guard = none) (x : Operand) (ho : o.op = .load 174 x) (g : Nat) (hx : a.eval x = .pointer (some ⟨g, 0, none⟩))
    (f : Nat → Bool) (hg : w.heap[g]? = some (.cells (bv f) 174 (0, 0))) (h : wpList Tryz.prog ops Q rest (a.put o.dst (.agg (bv f))) w) : wpList Tryz.prog ops Q (o :: rest) a w :=
  wpList_load_row hgd 174 x ho g hx 174 (bv f) (0, 0) _ hg Tryz.underlying174 rfl (by rw [bv_szs, bv_size]) h
theorem bv_store {w : World} {ops : Array Oper} {rest : List Oper} {o : Oper} {a : Act} {Q : Exit → Act → World → Prop} (hgd : o.guard = none) (x y : Operand) (ho : o.op = .store 174 x y) (g : Nat) (hx : a.eval x = .pointer (some ⟨g, 0, none⟩))
    (f : Nat → Bool) (hy : a.eval y = .agg (bv f)) (f0 : Nat → Bool) (hg : w.heap[g]? = some (.cells (bv f0) 174 (0, 0))) (h : wpList Tryz.prog ops Q rest (a.put o.dst undef) (w.setRow g (bv f))) : wpList Tryz.prog ops Q (o :: rest) a w :=
  wpList_store_row hgd 174 x y ho g (bv f) hx hy 174 (bv f0) hg (by rw [bv_szs, bv_size]) (by rw [bv_size, bv_size]) (bv_one f) h

theorem bit_of_half (x y k : Nat) (h : y = x / 2 ^ k) : ((y : Int) % 2 == 1) = x.testBit k := by
  rw [Nat.testBit_eq_decide_div_mod_eq, ← h, Bool.eq_iff_iff]
  simp only [beq_iff_eq, decide_eq_true_eq]
  omega
theorem bv_congr {f g : Nat → Bool} (h : ∀ j, j < 64 → f j = g j) : bv f = bv g := by
  apply Array.ext_getElem?
  intro j
  by_cases hj : j < 64
  · rw [bv_get f j hj, bv_get g j hj, h j hj]
  · rw [Array.getElem?_eq_none (by rw [bv_size]; omega), Array.getElem?_eq_none (by rw [bv_size]; omega)]

theorem rbits_is (x : Nat) (w : World) (hx : x < 18446744073709551616) : Calls Tryz.prog 159 #[.int .u64 x] w fun e w' => e = .returned (.agg (bv fun i => x.testBit i)) ∧ Kp [] w w' := by
  obtain ⟨hz, hs⟩ := zero_of_info bv_info
  have HS := Lib.hid hs
  clear hs
  go_enter Tryz.func159, Tryz.ntmps159
  go_wp2
  go_loopg [0, 4] 64 (fun g xv iv wr => ∃ (k y : Nat) (f : Nat → Bool), k + g = 64 ∧ xv = .int .u64 y ∧ y < 18446744073709551616 ∧ Hid (y = x / 2 ^ k) ∧ iv = .int .i64 k ∧ Hid (∀ j, j < k → f j = x.testBit j) ∧
    wr = (w.alloc (.cells (bv fun _ => false) 174)).alloc (.cells (bv f) 174))
  case atStart => exact ⟨0, x, _, by omega, rfl, hx, by simp [Hid], rfl, fun j hj => absurd hj (by omega), rfl⟩
  case round =>
    obtain ⟨k, y, f, hkg, rfl, hy, HY, rfl, HF, rfl⟩ := hrel
    by_cases hk : k < 64
    · have hc := bv_cell (w.alloc (.cells (bv fun _ => false) 174)) f k hk (w.heap.size + 1) (by simp)
      have hf := bv_free (w.alloc (.cells (bv fun _ => false) 174)) f k (w.heap.size + 1) (by simp)
      go_wp2
      go_roundg (64 - (k + 1))
      case rel =>
        refine ⟨k + 1, y / 2, fun j => if j = k then ((y : Int) % 2 == 1) else f j, by omega, by go_num, by omega, ?_, by go_num, fun j hj => ?_, ?_⟩
        · show y / 2 = x / 2 ^ (k + 1)
          rw [HY.out, Nat.div_div_eq_div_mul, Nat.pow_succ]
        · by_cases e : j = k
          · subst e
            simp only [if_true]; exact bit_of_half x y j HY.out
          · simp only [if_neg e]; exact HF.out j (by omega)
        · rw [bv_set f k _ (fun j => if j = k then ((y : Int) % 2 == 1) else f j) (fun j _ => rfl)]
      case measure => omega
    · have hb2 : bv f = bv fun i => x.testBit i := bv_congr fun j hj => HF.out j (by omega)
      rw [hb2]
      clear hb2
      have e1 := heap_alloc_last (w.alloc (.cells (bv fun _ => false) 174)) (.cells (bv fun i => x.testBit i) 174)
      rw [World.size_alloc] at e1
      have e0 := heap_alloc2_old w (.cells (bv fun _ => false) 174) (.cells (bv fun i => x.testBit i) 174)
      have H0 := Lib.hid e0
      have H1 := Lib.hid e1
      clear e0 e1
      go_wp2_with (first
        | refine bv_load rfl _ rfl (w.heap.size + 1) rfl _ H1.out ?_
        | refine bv_store rfl _ _ rfl w.heap.size rfl _ rfl _ H0.out ?_)
      exact bodyPost_row rfl w.heap.size 174 _ (0, 0) _ rfl rfl (setRow_heap _ _ _ _ _ _ H0.out) Tryz.underlying174 rfl (by rw [bv_szs, bv_size])
        ⟨rfl, (((Kp.refl [] w).alloc _).alloc _).setRow (.inr (Nat.le_refl _)) _⟩

theorem rword_is (f : Nat → Bool) (n : Nat) (w : World) (hn : wv f 0 64 = n) : Calls Tryz.prog 99 #[.agg (bv f)] w fun e w' => e = .returned (.int .u64 n) ∧ Kp [] w w' := by
  have HN := Lib.hid hn
  clear hn
  go_enter Tryz.func99, Tryz.ntmps99
  go_wp2
  go_loopg [3, 4] 64 (fun g nv iv wr => ∃ (m : Nat) (i : Int), g ≤ 64 ∧ nv = .int .u64 m ∧ Hid (m = wv f g (64 - g)) ∧ iv = .int .i64 i ∧ i + 1 = g ∧ wr = w.alloc (.cells (bv f) 174))
  case atStart => exact ⟨0, 63, by omega, rfl, rfl, rfl, by omega, rfl⟩
  case round =>
    obtain ⟨m, i, hg64, rfl, HM, rfl, hi, rfl⟩ := hrel
    by_cases h0 : gk = 0
    · subst h0
      obtain rfl : i = -1 := by omega
      obtain rfl : m = n := by rw [HM.out, ← HN.out]
      go_wp2
      go_ret
      exact ⟨rfl, (Kp.refl _ _).alloc _⟩
    · obtain ⟨q, rfl⟩ : ∃ q, gk = q + 1 := ⟨gk - 1, by omega⟩
      obtain rfl : i = q := by omega
      have hm : m < 2 ^ (64 - (q + 1)) := by rw [HM.out]; exact wv_lt _ _ _
      have hm2 : m < 9223372036854775808 := Nat.lt_of_lt_of_le hm (by
        have : 2 ^ (64 - (q + 1)) ≤ 2 ^ 63 := Nat.pow_le_pow_right (by omega) (by omega)
        exact this)
      clear hm
      have hc := bv_cell w f q (by omega) w.heap.size rfl
      have key : wv f q (64 - q) = (f q).toNat + 2 * m := by
        rw [show 64 - q = (64 - (q + 1)) + 1 from by omega, HM.out]; rfl
      have HK := Lib.hid key
      clear key
      cases hf : f q
      · rw [hf] at hc
        have HF := Lib.hid hf
        clear hf
        go_wp2
        go_roundg q
        case rel =>
          refine ⟨2 * m, (q : Int) - 1, by omega, by go_num, ?_, rfl, by omega, rfl⟩
          show _ = _
          rw [HK.out, HF.out]; simp
        case measure => omega
      · rw [hf] at hc
        have HF := Lib.hid hf
        clear hf
        go_wp2
        go_roundg q
        case rel =>
          refine ⟨1 + 2 * m, (q : Int) - 1, by omega, by go_num, ?_, rfl, by omega, rfl⟩
          show _ = _
          rw [HK.out, HF.out]; simp
        case measure => omega

theorem rall_num (b : Int) (n : Nat) (hn : 2 ^ min b.toNat 64 - 1 = n) (f : Nat → Bool) (hf : ∀ j, j < 64 → f j = decide ((j : Int) < b)) : wv f 0 64 = n := by
  subst hn
  have h0 := Nat.two_pow_pos (min b.toNat 64)
  have h1 : 2 ^ min b.toNat 64 ≤ 2 ^ 64 := Nat.pow_le_pow_right (by omega) (by omega)
  refine wv_of (by omega) fun i hi => ?_
  rw [hf i hi, Nat.testBit_two_pow_sub_one, Bool.eq_iff_iff]
  simp only [decide_eq_true_eq]
  omega

theorem rall_is (b : Int) (n : Nat) (w : World) (hn : 2 ^ min b.toNat 64 - 1 = n) : Calls Tryz.prog 63 #[.int .i64 b] w fun e w' => e = .returned (.int .u64 n) ∧ Kp [] w w' := by
  obtain ⟨hz, hs⟩ := zero_of_info bv_info
  have HN := Lib.hid hn
  clear hn hs
  go_enter Tryz.func63, Tryz.ntmps63
  go_wp2
  go_loopg [4] 64 (fun g iv wr => ∃ (k : Nat) (f : Nat → Bool), k + g = 64 ∧ iv = .int .i64 k ∧ Hid (∀ j, j < k → f j = decide ((j : Int) < b)) ∧ wr = w.alloc (.cells (bv f) 174))
  case atStart => exact ⟨0, _, by omega, rfl, fun j hj => absurd hj (by omega), rfl⟩
  case round =>
    obtain ⟨k, f, hkg, rfl, HF, rfl⟩ := hrel
    by_cases hk : k < 64
    · have hc := bv_cell w f k hk w.heap.size rfl
      have hf := bv_free w f k w.heap.size rfl
      go_wp2
      go_roundg (64 - (k + 1))
      case rel =>
        refine ⟨k + 1, fun j => if j = k then decide ((k : Int) < b) else f j, by omega, by go_num, fun j hj => ?_, ?_⟩
        · by_cases e : j = k
          · subst e
            simp only [if_true]
          · simp only [if_neg e]; exact HF.out j (by omega)
        · rw [bv_set f k _ (fun j => if j = k then decide ((k : Int) < b) else f j) (fun j _ => rfl)]
      case measure => omega
    · have hw := rword_is f n (w.alloc (.cells (bv f) 174)) (rall_num b n HN.out f fun j hj => HF.out j (by omega))
      have H0 := Lib.hid (heap_alloc_last w (.cells (bv f) 174))
      go_wp2_with (first
        | refine bv_load rfl _ rfl w.heap.size rfl _ H0.out ?_
        | ((with_reducible refine hw.mono ?_); rintro e w1 ⟨rfl, hkp⟩))
      go_ret
      exact ⟨rfl, ((Kp.refl [] w).alloc _).trans (hkp.mono (by simp))⟩

/-- Is: no such run. -/
theorem ris_out (x : Nat) (k r : Int) (b : Bool) (w : World) (h : ¬ (1 ≤ r ∧ r ≤ 3 ∧ 0 ≤ k ∧ k + r ≤ 64)) : Calls Tryz.prog 136 #[.int .u64 x, .int .i64 k, .int .i64 r, .bool b] w fun e w' => e = .returned (.bool false) ∧ Kp [] w w' := by
  rcases (by omega : r < 1 ∨ (1 ≤ r ∧ 3 < r) ∨ (1 ≤ r ∧ r ≤ 3 ∧ k < 0) ∨ (1 ≤ r ∧ r ≤ 3 ∧ 0 ≤ k ∧ 63 < k) ∨ (1 ≤ r ∧ r ≤ 3 ∧ 0 ≤ k ∧ k ≤ 63 ∧ 64 < k + r)) with h1 | ⟨h1, h2⟩ | ⟨h1, h2, h3⟩ | ⟨h1, h2, h3, h4⟩ | ⟨h1, h2, h3, h4, h5⟩
  all_goals (
    clear h
    go_enter Tryz.func136, Tryz.ntmps136
    go_wp2
    go_ret
    exact ⟨rfl, Kp.refl _ _⟩)

theorem ris_in (x : Nat) (k r : Nat) (b q : Bool) (w : World) (hx : x < 18446744073709551616) (h1 : 1 ≤ r) (h2 : r ≤ 3) (h3 : k + r ≤ 64) (hq : allN x k r b = q) : Calls Tryz.prog 136 #[.int .u64 x, .int .i64 k, .int .i64 r, .bool b] w fun e w' => e = .returned (.bool q) ∧ Kp [] w w' := by
  obtain ⟨hz, hs⟩ := zero_of_info bv_info
  have kb := rbits_is x w hx
  have HQ := Lib.hid hq
  clear hq hs
  go_enter Tryz.func136, Tryz.ntmps136
  go_wp2_with (first
    | ((with_reducible refine kb.mono ?_); rintro e w1 ⟨rfl, hkp⟩; have H1 := Lib.hid (heap_alloc_last w1 (.cells (bv fun _ => false) 174)))
    | (refine bv_store rfl _ _ rfl w1.heap.size rfl _ rfl _ H1.out ?_; rw [World.setRow_alloc_new]))
  clear kb H1
  go_loopg [10] r (fun g iv wr => ∃ j : Nat, j + g = r ∧ iv = .int .i64 j ∧ Hid (∀ i, i < j → x.testBit (k + i) = b) ∧ wr = w1.alloc (.cells (bv fun i => x.testBit i) 174))
  case atStart => exact ⟨0, by omega, rfl, fun i hi => absurd hi (by omega), rfl⟩
  case round =>
    obtain ⟨j, hjg, rfl, HI, rfl⟩ := hrel
    by_cases hj : j < r
    · have hc := bv_cell w1 (fun i => x.testBit i) (k + j) (by omega) w1.heap.size rfl
      cases hb : x.testBit (k + j) <;> cases b
      all_goals (
        rw [hb] at hc
        have HB := Lib.hid hb
        clear hb)
      · go_wp2
        go_roundg (r - (j + 1))
        case rel =>
          refine ⟨j + 1, by omega, by go_num, fun i hi => ?_, rfl⟩
          by_cases e : i = j
          · subst e; exact HB.out
          · exact HI.out i (by omega)
        case measure => omega
      · obtain rfl : q = false := by
          rw [← HQ.out]
          refine decide_eq_false fun h => ?_
          have := h j hj
          rw [HB.out] at this
          exact absurd this (by decide)
        go_wp2
        go_ret
        exact ⟨rfl, hkp.alloc _⟩
      · obtain rfl : q = false := by
          rw [← HQ.out]
          refine decide_eq_false fun h => ?_
          have := h j hj
          rw [HB.out] at this
          exact absurd this (by decide)
        go_wp2
        go_ret
        exact ⟨rfl, hkp.alloc _⟩
      · go_wp2
        go_roundg (r - (j + 1))
        case rel =>
          refine ⟨j + 1, by omega, by go_num, fun i hi => ?_, rfl⟩
          by_cases e : i = j
          · subst e; exact HB.out
          · exact HI.out i (by omega)
        case measure => omega
    · obtain rfl : q = true := by
        rw [← HQ.out]
        exact decide_eq_true fun i hi => HI.out i (by omega)
      go_wp2
      go_ret
      exact ⟨rfl, hkp.alloc _⟩

theorem ris_is (x : Nat) (k r : Int) (b q : Bool) (w : World) (hx : x < 18446744073709551616) (hq : isR x k r b = q) : Calls Tryz.prog 136 #[.int .u64 x, .int .i64 k, .int .i64 r, .bool b] w fun e w' => e = .returned (.bool q) ∧ Kp [] w w' := by
  by_cases h : 1 ≤ r ∧ r ≤ 3 ∧ 0 ≤ k ∧ k + r ≤ 64
  · obtain ⟨r', rfl⟩ := Int.eq_ofNat_of_zero_le (show 0 ≤ r by omega)
    obtain ⟨k', rfl⟩ := Int.eq_ofNat_of_zero_le h.2.2.1
    refine ris_in x k' r' b q w hx (by omega) (by omega) (by omega) ?_
    simp only [isR, decide_eq_true h, Bool.true_and] at hq
    exact hq
  · obtain rfl : q = false := by rw [← hq]; simp only [isR, decide_eq_false h, Bool.false_and]
    exact ris_out x k r b w h

theorem rwith_is (x : Nat) (k r n : Nat) (b : Bool) (w : World) (hx : x < 18446744073709551616) (h1 : 1 ≤ r) (h2 : r ≤ 3) (h3 : k + r ≤ 64) (hn : setN x k r b = n) : Calls Tryz.prog 137 #[.int .u64 x, .int .i64 k, .int .i64 r, .bool b] w fun e w' => e = .returned (.int .u64 n) ∧ Kp [] w w' := by
  obtain ⟨hz, hs⟩ := zero_of_info bv_info
  have kb := rbits_is x w hx
  have HN := Lib.hid hn
  clear hn hs
  go_enter Tryz.func137, Tryz.ntmps137
  go_wp2_with (first
    | ((with_reducible refine kb.mono ?_); rintro e w1 ⟨rfl, hkp⟩; have H1 := Lib.hid (heap_alloc_last w1 (.cells (bv fun _ => false) 174)))
    | (refine bv_store rfl _ _ rfl w1.heap.size rfl _ rfl _ H1.out ?_; rw [World.setRow_alloc_new]))
  clear kb H1
  go_loopg [10] r (fun g iv wr => ∃ (j : Nat) (f : Nat → Bool), j + g = r ∧ iv = .int .i64 j ∧ Hid (∀ i, i < 64 → f i = if k ≤ i ∧ i < k + j then b else x.testBit i) ∧ wr = w1.alloc (.cells (bv f) 174))
  case atStart => exact ⟨0, _, by omega, rfl, fun i hi => by rw [if_neg (by omega)], rfl⟩
  case round =>
    obtain ⟨j, f, hjg, rfl, HF, rfl⟩ := hrel
    by_cases hj : j < r
    · have hc := bv_cell w1 f (k + j) (by omega) w1.heap.size rfl
      have hf := bv_free w1 f (k + j) w1.heap.size rfl
      go_wp2
      go_roundg (r - (j + 1))
      case rel =>
        refine ⟨j + 1, fun i => if i = k + j then b else f i, by omega, by go_num, fun i hi => ?_, ?_⟩
        · by_cases e : i = k + j
          · subst e
            simp only [if_true]; rw [if_pos (by omega)]
          · simp only [if_neg e]; rw [HF.out i hi]
            by_cases c : k ≤ i ∧ i < k + j
            · rw [if_pos c, if_pos (by omega)]
            · rw [if_neg c, if_neg (by omega)]
        · rw [bv_set f (k + j) _ (fun i => if i = k + j then b else f i) (fun i _ => rfl)]
      case measure => omega
    · obtain rfl : j = r := by omega
      have hw := rword_is f n (w1.alloc (.cells (bv f) 174)) (by
        rw [← HN.out, setN]
        exact wv_of (wv_lt _ 64 0) fun i hi => by rw [HF.out i hi, wv_bit]; simp [hi])
      have H0 := Lib.hid (heap_alloc_last w1 (.cells (bv f) 174))
      go_wp2_with (first
        | refine bv_load rfl _ rfl w1.heap.size rfl _ H0.out ?_
        | ((with_reducible refine hw.mono ?_); rintro e w2 ⟨rfl, hk2⟩))
      go_ret
      exact ⟨rfl, (hkp.alloc _).trans (hk2.mono (by simp))⟩

theorem rfind_is (x : Nat) (r o : Int) (w : World) (hx : x < 18446744073709551616) (hyes : ∀ k : Nat, isR x k r true = true → (∀ j : Nat, j < k → isR x j r true = false) → o = k) (hno : (∀ j : Nat, j < 64 → isR x j r true = false) → o = -1) :
    Calls Tryz.prog 145 #[.int .u64 x, .int .i64 r] w fun e w' => e = .returned (.int .i64 o) ∧ Kp [] w w' := by
  have HY := Lib.hid hyes
  have HN := Lib.hid hno
  clear hyes hno
  go_enter Tryz.func145, Tryz.ntmps145
  go_wp2
  go_loopg [5] 64 (fun g iv wr => ∃ k : Nat, k + g = 64 ∧ iv = .int .i64 k ∧ Hid (∀ j : Nat, j < k → isR x j r true = false) ∧ Kp [] w wr)
  case atStart => exact ⟨0, by omega, rfl, fun i hi => absurd hi (by omega), Kp.refl _ _⟩
  case round =>
    obtain ⟨k, hkg, rfl, HB, hkp⟩ := hrel
    by_cases hk : k < 64
    · cases hb : isR x k r true
      · have ki := ris_is x k r true false wr hx hb
        have HI := Lib.hid hb
        clear hb
        go_wp2_with ((with_reducible refine ki.mono ?_); rintro e w2 ⟨rfl, hk2⟩)
        go_roundg (64 - (k + 1))
        case rel =>
          refine ⟨k + 1, by omega, by go_num, fun j hj => ?_, hkp.trans (hk2.mono (by simp))⟩
          by_cases e : j = k
          · subst e; exact HI.out
          · exact HB.out j (by omega)
        case measure => omega
      · have ki := ris_is x k r true true wr hx hb
        obtain rfl := HY.out k hb HB.out
        clear hb
        go_wp2_with ((with_reducible refine ki.mono ?_); rintro e w2 ⟨rfl, hk2⟩)
        go_ret
        exact ⟨rfl, hkp.trans (hk2.mono (by simp))⟩
    · obtain rfl := HN.out fun j hj => HB.out j (by omega)
      go_wp2
      go_ret
      exact ⟨rfl, hkp⟩

end Go.Proofs.YtdbbkncjhnafdaaGreatDoor.Bm
