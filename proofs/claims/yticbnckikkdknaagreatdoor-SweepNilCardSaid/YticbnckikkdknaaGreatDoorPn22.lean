/- Sweep, plainly: what is done to an arena's words and an owner's list, cell by cell, block by block; and what the document says. Package sweep, its walks: a header is unmarked; one is read; blocks are given back; are all cells Listed. Package sweep, its walks: a cell is swept. Conditions: as each theorem states them. -/
import Derived.Deep.RegionHeld3
import Derived.Test.YticbnckikkdknaaGreatDoorPn21
namespace Go.Proofs.YticbnckikkdknaaGreatDoor
set_option linter.unusedVariables false
set_option linter.unusedSimpArgs false
set_option maxRecDepth 100000
open Go.RowKit

/-- Is it a Local object of the owner's? Is it marked? Its kind, if there is a header. -/
def lkB (o : Nat) (x : Int) : Bool := Wd.takeB x && (decide (x % 4 = 2) && decide (x / 32 % 64 = (o : Int)))
def mkB (x : Int) : Bool := x / 16 % 2 == 1
def knd (x : Int) : Int := if Wd.takeB x then x % 4 else 0
/-- A Free header. -/
def fw (o : Nat) : Int := Wd.wordI 0 0 o 0 0 false false
/-- A cell is swept; its header's kind behind that. -/
def swCell (o c a : Nat) (s : Hs) : Hs × Int :=
  if frB (s.1.getD a 0) || (lkB o (s.1.getD a 0) && !mkB (s.1.getD a 0)) then ((s.1.set a (lw o), Li.pushR s.2 c a), 1)
  else if lkB o (s.1.getD a 0) then ((s.1.set a (s.1.getD a 0 - 16), s.2), 2)
  else (s, knd (s.1.getD a 0))
/-- The cells of a block; are all of them Listed then? -/
def swCells (T n o c b : Nat) (s : Hs) : Nat → Hs × Bool
  | 0 => (s, true)
  | i + 1 => ((swCell o c (pl T 0 n c b i) (swCells T n o c b s i).1).1, (swCells T n o c b s i).2 && decide ((swCell o c (pl T 0 n c b i) (swCells T n o c b s i).1).2 = 1))
def swBack (T n : Nat) (wk : Bool) (H : List Int) (b : Nat) (k : Int) : List Int := if wk then H else backH T 0 n H b k
def swEmpty (T n o b : Nat) (wk : Bool) (s : Hs) : Hs := (swBack T n wk (s.1.set (3 + T + 0 + b) (Tb.wordE 4 0 0 o)) b 1, Li.dropR s.2 (hd T n b) ((hd T n b : Nat) + 32))
def swSmall (T n o c b : Nat) (wk : Bool) (s : Hs) : Hs := if (swCells T n o c b s (Cl.clC c).toNat).2 then swEmpty T n o b wk (swCells T n o c b s (Cl.clC c).toNat).1 else (swCells T n o c b s (Cl.clC c).toNat).1
def swLargeH (T n o b run : Nat) (wk : Bool) (H : List Int) : List Int :=
  if lkB o (H.getD (hd T n b) 0) then
    if mkB (H.getD (hd T n b) 0) then H.set (hd T n b) (H.getD (hd T n b) 0 - 16)
    else swBack T n wk ((H.set (hd T n b) (fw o)).set (3 + T + 0 + b) (Tb.wordE 5 0 run o)) b run
  else H
/-- A block is swept, by its entry. -/
def swBlock (T n o : Nat) (wk : Bool) (s : Hs) (b : Nat) : Hs :=
  if eo (en T s.1 b) = o then
    if ek (en T s.1 b) = 1 then swSmall T n o (ec (en T s.1 b)).toNat b wk s
    else if ek (en T s.1 b) = 2 then (swLargeH T n o b (er (en T s.1 b)).toNat wk s.1, s.2)
    else if ek (en T s.1 b) = 4 ∨ ek (en T s.1 b) = 5 then (swBack T n wk s.1 b (Tb.blkE (ek (en T s.1 b)) (er (en T s.1 b))), s.2)
    else s
  else s
def sweepS (T n o : Nat) (wk : Bool) (s : Hs) : Nat → Hs
  | 0 => s
  | b + 1 => swBlock T n o wk (sweepS T n o wk s b) b
/-- A word that has an entry tells of one that may be. -/
theorem swent_parts {x : Int} (h0 : 0 ≤ x) (h : ek x ≠ 0) : Tb.mayE (ek x) (ec x) (er x) (eo x) = true ∧ x = Tb.wordE (ek x) (ec x) (er x) (eo x) ∧ 0 ≤ ek x ∧ 0 ≤ ec x ∧ 0 ≤ er x ∧ 0 ≤ eo x := by
  unfold ek at h
  cases ht : Tb.takeE x with
  | false => rw [ht] at h; simp at h
  | true =>
    have hm : x < 8192 ∧ Tb.mayE (x % 8) (x / 8 % 4) (x / 32 % 4) (x / 128 % 64) = true := by
      unfold Tb.takeE at ht
      simpa using ht
    unfold ek ec er eo
    rw [ht]
    simp only [if_true]
    refine ⟨hm.2, ?_, by omega, by omega, by omega, by omega⟩
    unfold Tb.wordE
    omega
/-- What sweeping keeps: lists that may be; of a large object's block no place is listed. -/
structure Swi (T n : Nat) (H : List Int) (R : Nat → List Int) : Prop where
  len : H.length = 3 + T + 33 * n
  lok : Lok H.length R
  nol : ∀ b, b < n → ek (en T H b) = 2 → ∀ c, c < 4 → ∀ x ∈ R c, ¬ ((hd T n b : Int) ≤ x ∧ x < (hd T n b : Int) + 32)

section
variable {T n o c b : Nat} {wk : Bool} {s : Hs} {H H' : List Int} {R R' : Nat → List Int}
theorem Swi.step (h : Swi T n H R) (hl : H'.length = H.length) (hk : Lok H'.length R') (he : ∀ j, j < n → ek (en T H' j) = 2 → ek (en T H j) = 2) (hR : ∀ c, c < 4 → ∀ x ∈ R' c, x ∈ R c ∨ ∃ j, j < n ∧ ek (en T H' j) ≠ 2 ∧ (hd T n j : Int) ≤ x ∧ x < (hd T n j : Int) + 32) : Swi T n H' R' := by
  refine ⟨hl.trans h.len, hk, fun b hb h2 c hc x hx => ?_⟩
  rcases hR c hc x hx with hm | ⟨j, hj, h3, h4, h5⟩
  · exact h.nol b hb (he b hb h2) c hc x hm
  · intro ⟨h6, h7⟩
    have : j = b := by unfold hd at h4 h5 h6 h7; omega
    rw [this] at h3
    exact h3 h2

/-! Cells -/
theorem cell_len (c a : Nat) : (swCell o c a s).1.1.length = s.1.length := by
  unfold swCell
  split
  · simp
  · split <;> simp
theorem cells_len (i : Nat) : (swCells T n o c b s i).1.1.length = s.1.length := by
  induction i with
  | zero => rfl
  | succ i ih => rw [swCells, cell_len, ih]
theorem back_len (H : List Int) (k : Int) : (swBack T n wk H b k).length = H.length := by
  unfold swBack backH
  split
  · rfl
  · split
    · rw [List.length_set, zer_len]
    · rfl
theorem mayE4 (ho : o < 64) : Tb.mayE 4 0 0 o = true := Tb.mayE_iff.2 (by omega)
theorem mayE5 {run : Nat} (ho : o < 64) (h1 : 1 ≤ run) (h3 : run ≤ 3) : Tb.mayE 5 0 run o = true := Tb.mayE_iff.2 (by omega)
def Wok (H : List Int) : Prop := ∀ k, 0 ≤ H.getD k 0 ∧ H.getD k 0 < 18446744073709551616
theorem Wok.set (h : Wok H) (k : Nat) {v : Int} (h0 : 0 ≤ v) (h1 : v < 18446744073709551616) : Wok (H.set k v) := fun j => by
  rw [getD_set']
  split
  · exact ⟨h0, h1⟩
  · exact h j
theorem swgive_lt {M b' r : Nat} (h : M < 18446744073709551616) : giveM M b' r < 18446744073709551616 := by
  unfold giveM
  split
  · exact Bm.setN_lt _ _ _ _
  · exact h
theorem Wok.back (h : Wok H) (k : Int) : Wok (swBack T n wk H b k) := by
  unfold swBack backH
  split
  · exact h
  · split
    · refine Wok.set (fun j => ?_) 0 (by omega) (by have := swgive_lt (M := (H.getD 0 0).toNat) (b' := (b : Int).toNat) (r := k.toNat) (by have := h 0; omega); omega)
      rw [zer_get]
      split
      · omega
      · exact h j
    · exact h
theorem lw_in (ho : o < 64) : 0 ≤ lw o ∧ lw o < 18446744073709551616 := by unfold lw Wd.wordI Wd.bitI; simp; omega
theorem fw_in (ho : o < 64) : 0 ≤ fw o ∧ fw o < 18446744073709551616 := by unfold fw Wd.wordI Wd.bitI; simp; omega
theorem mk_in {x : Int} (h0 : 0 ≤ x) (h1 : x < 18446744073709551616) (h : mkB x = true) : 0 ≤ x - 16 ∧ x - 16 < 18446744073709551616 := by
  unfold mkB at h
  simp only [beq_iff_eq] at h
  omega
theorem lk_mk {x : Int} (h : lkB o x = true) (h' : ¬ (frB x || (lkB o x && !mkB x)) = true) : mkB x = true := by
  rw [h] at h'
  cases hm : mkB x with
  | true => rfl
  | false => rw [hm] at h'; simp at h'
theorem Wok.cell (h : Wok s.1) (ho : o < 64) (c a : Nat) : Wok (swCell o c a s).1.1 := by
  unfold swCell
  split
  · exact h.set _ (lw_in ho).1 (lw_in ho).2
  · rename_i h1
    split
    · rename_i h2
      have := mk_in (h a).1 (h a).2 (lk_mk h2 h1)
      exact h.set _ this.1 this.2
    · exact h
theorem Wok.cells (h : Wok s.1) (ho : o < 64) (i : Nat) : Wok (swCells T n o c b s i).1.1 := by
  induction i with
  | zero => exact h
  | succ i ih => rw [swCells]; exact ih.cell ho c _
theorem Wok.small (h : Wok s.1) (ho : o < 64) : Wok (swSmall T n o c b wk s).1 := by
  unfold swSmall
  split
  · unfold swEmpty
    have := Tb.wordE_lt (k := 4) (c := 0) (r := 0) (o := (o : Int)) (by omega) (by omega) (by omega) (by omega) (mayE4 ho)
    exact ((h.cells ho _).set _ (by omega) (by omega)).back _
  · exact h.cells ho _
theorem Wok.large (h : Wok H) (ho : o < 64) {run : Nat} (h1 : 1 ≤ run) (h3 : run ≤ 3) : Wok (swLargeH T n o b run wk H) := by
  unfold swLargeH
  split
  · split
    · rename_i hm
      have := mk_in (h _).1 (h _).2 hm
      exact h.set _ this.1 this.2
    · have := Tb.wordE_lt (k := 5) (c := 0) (r := (run : Int)) (o := (o : Int)) (by omega) (by omega) (by omega) (by omega) (mayE5 ho h1 h3)
      exact ((h.set _ (fw_in ho).1 (fw_in ho).2).set _ (by omega) (by omega)).back _
  · exact h
theorem Wok.block (h : Wok s.1) (ho : o < 64) : Wok (swBlock T n o wk s b).1 := by
  unfold swBlock
  split
  · split
    · exact h.small ho
    · split
      · rename_i he
        obtain ⟨hm, -, -, p1, p2, p3⟩ := swent_parts (h (3 + T + 0 + b)).1 (show ek (en T s.1 b) ≠ 0 by omega)
        have hm := Tb.mayE_iff.1 hm
        have hr := hm.2.2.2.2.2.1 (.inl he)
        exact h.large ho (by unfold en; omega) (by unfold en; omega)
      · split
        · exact h.back _
        · exact h
  · exact h
end
end Go.Proofs.YticbnckikkdknaaGreatDoor

namespace Go.Proofs.YticbnckikkdknaaGreatDoor
set_option linter.unusedVariables false
set_option linter.unusedSimpArgs false
set_option maxRecDepth 100000
open Go.RowKit

/-- What Take says of a word. -/
theorem take_any (x : Int) (h0 : 0 ≤ x) (h1 : x < 18446744073709551616) : ∃ (k c o r s er : Int) (g m : Bool),
    Hid (∀ w, Calls Tryz.prog 14 #[.int .u64 x] w fun e w' => e = .returned (.tuple #[.agg #[.int .u8 k, .int .u8 c, .bool g, .bool m, .int .u8 o, .int .u8 r, .int .u8 s], .int .i64 er]) ∧ Kp [] w w') ∧
    ((er = 3 ∧ Wd.takeB x = false ∧ k = 0 ∧ c = 0 ∧ o = 0 ∧ r = 0 ∧ s = 0 ∧ g = false ∧ m = false) ∨ (er = 0 ∧ Wd.takeB x = true ∧ k = x % 4 ∧ c = x / 4 % 2 ∧ o = x / 32 % 64 ∧ r = x / 2048 % 128 ∧ s = x / 262144 % 128 ∧ g = (x / 8 % 2 == 1) ∧ m = mkB x)) := by
  cases ht : Wd.takeB x
  · exact ⟨0, 0, 0, 0, 0, 3, false, false, Lib.hid fun w => (Wd.take_none x w h0 h1 ht).mono fun e w' ⟨a, b⟩ => ⟨a, kp_of_below b⟩, .inl ⟨rfl, rfl, rfl, rfl, rfl, rfl, rfl, rfl, rfl⟩⟩
  · exact ⟨_, _, _, _, _, 0, _, _, Lib.hid fun w => (Wd.take_some x w h0 ht).mono fun e w' ⟨a, b⟩ => ⟨a, kp_of_below b⟩, .inr ⟨rfl, rfl, rfl, rfl, rfl, rfl, rfl, rfl, rfl⟩⟩

section
variable {T n p r q t o : Nat} {wk : Bool} {vs : Nat → Value} {H : List Int} {R : Nat → List Int} {w : World}
set_option maxHeartbeats 1000000 in
/-- A header is written unmarked. -/
theorem sw_unmark (h : Mw T 0 n p r q vs H R t w) (ht : t ≤ 800000) (k : Nat) (hk : k < H.length) (j : Int) (hj : j = k) (kd c ow rf sz : Int) (g m : Bool) (h0 : 0 ≤ kd) (h1 : 0 ≤ c) (h2 : 0 ≤ ow) (h3 : 0 ≤ rf) (h4 : 0 ≤ sz) (hm : Wd.mayB kd c ow rf sz g false = true) (x : Int) (hx : Wd.wordI kd c ow rf sz g false = x) :
    Calls Tryz.prog 117 #[swV T n p q o wk, .int .i64 j, .agg #[.int .u8 kd, .int .u8 c, .bool g, .bool m, .int .u8 ow, .int .u8 rf, .int .u8 sz]] w fun e w' => e = .returned (.tuple #[]) ∧ Mw T 0 n p r q vs (H.set k x) R (t + 1) w' ∧ Kp [p, r] w w' := by
  have HWr := Lib.hid (fun (wq : World) (kq : Kp [] w wq) => sw_write (o := o) (wk := wk) (h.on kq) ht k hk j hj kd c ow rf sz g false h0 h1 h2 h3 h4 hm x hx)
  obtain ⟨w1, hw1⟩ : ∃ w1, w1 = (swW w T n p q o wk).alloc (.cells #[.int .u8 kd, .int .u8 c, .bool g, .bool m, .int .u8 ow, .int .u8 rf, .int .u8 sz] 59) := ⟨_, rfl⟩
  have k1 : Kp [] w w1 := by rw [hw1]; exact (swW_kp w T n p q o wk).alloc _
  have r0 : w1.heap[w.heap.size]? = some (.cells (swC T n p q o wk) 106 (0, 0)) := by rw [hw1]; exact ((Kp.refl [] _).alloc _).row (by simp) (swW_row w T n p q o wk)
  have r1 : w1.heap[w.heap.size + 1]? = some (.cells #[.int .u8 kd, .int .u8 c, .bool g, .bool m, .int .u8 ow, .int .u8 rf, .int .u8 sz] 59 (0, 0)) := by
    rw [hw1]
    have := heap_alloc_new (swW w T n p q o wk) (.cells #[.int .u8 kd, .int .u8 c, .bool g, .bool m, .int .u8 ow, .int .u8 rf, .int .u8 sz] 59)
    rwa [show (swW w T n p q o wk).heap.size = w.heap.size + 1 from World.size_alloc _ _] at this
  have k2 : Kp [] w (w1.setCell ⟨w.heap.size + 1, 3, none⟩ (.bool false)) := kp_new_set k1 ((Kp.refl [w.heap.size + 1] _).setCell (.inl (by simp)) _) (by omega)
  have r0' : (w1.setCell ⟨w.heap.size + 1, 3, none⟩ (.bool false)).heap[w.heap.size]? = some (.cells (swC T n p q o wk) 106 (0, 0)) := ((Kp.refl [w.heap.size + 1] w1).setCell (.inl (by simp)) _).row (by simp) r0
  have r1' : (w1.setCell ⟨w.heap.size + 1, 3, none⟩ (.bool false)).heap[w.heap.size + 1]? = some (.cells #[.int .u8 kd, .int .u8 c, .bool g, .bool false, .int .u8 ow, .int .u8 rf, .int .u8 sz] 59 (0, 0)) := by rw [heap_setCell_same _ _ _ _ _ _ r1]; rfl
  obtain ⟨w2, hw2⟩ : ∃ w2, w2 = w1.setCell ⟨w.heap.size + 1, 3, none⟩ (.bool false) := ⟨_, rfl⟩
  rw [← hw2] at k2 r0' r1'
  have HB := Lib.hid (And.intro k2 (And.intro r0' r1'))
  have c3 := (cell_of_row r1 3).trans (show _ = some (.bool m) from rfl)
  have f3 := free_of_row r1 3
  unfold swW swC at hw1
  clear k1 r0 r1 k2 r0' r1' h hm hx hj hk ht h0 h1 h2 h3 h4
  go_enter Tryz.func117, Tryz.ntmps117
  go_upto_region 1 with (fail)
  rw [← hw1]
  clear hw1
  go_upto_region 2 with (fail)
  rw [← hw2]
  clear c3 f3 hw2
  obtain ⟨k2, r0, r1⟩ := HB.out
  have cc : ∀ {j : Nat} {v : Value}, (swC T n p q o wk)[j]? = some v → w2.cell? ⟨w.heap.size, j, none⟩ = some v := fun hj => (cell_of_row r0 _).trans hj
  have a0 : w2.cell? ⟨w.heap.size, 0, none⟩ = some (.iface 31 (.pointer (some ⟨p, 0, none⟩))) := cc (j := 0) rfl
  have a1 : w2.cell? ⟨w.heap.size, 1, none⟩ = some (.int .i64 T) := cc (j := 1) rfl
  have a2 : w2.cell? ⟨w.heap.size, 2, none⟩ = some (.int .i64 0) := cc (j := 2) rfl
  have a3 : w2.cell? ⟨w.heap.size, 3, none⟩ = some (.int .i64 n) := cc (j := 3) rfl
  have a4 : w2.cell? ⟨w.heap.size, 4, none⟩ = some (.int .u8 o) := cc (j := 4) rfl
  have a5 : w2.cell? ⟨w.heap.size, 5, none⟩ = some (.pointer (some ⟨q, 0, none⟩)) := cc (j := 5) rfl
  have a6 : w2.cell? ⟨w.heap.size, 6, none⟩ = some (.bool wk) := cc (j := 6) rfl
  have b0 := (cell_of_row r1 0).trans (show _ = some (.int .u8 kd) from rfl)
  have b1 := (cell_of_row r1 1).trans (show _ = some (.int .u8 c) from rfl)
  have b2 := (cell_of_row r1 2).trans (show _ = some (.bool g) from rfl)
  have b3 := (cell_of_row r1 3).trans (show _ = some (.bool false) from rfl)
  have b4 := (cell_of_row r1 4).trans (show _ = some (.int .u8 ow) from rfl)
  have b5 := (cell_of_row r1 5).trans (show _ = some (.int .u8 rf) from rfl)
  have b6 := (cell_of_row r1 6).trans (show _ = some (.int .u8 sz) from rfl)
  clear cc k2 r0 r1
  go_wp2_with fail
  refine (HWr.out _ HB.out.1).mono ?_
  rintro e w3 ⟨rfl, h3, k3⟩
  have F := Lib.hid (And.intro h3 ((HB.out.1.mono (by simp)).trans k3))
  clear h3 k3
  go_wp2_with fail
  go_end0
  exact ⟨rfl, F.out⟩

set_option maxHeartbeats 4000000 in
/-- A header is read. -/
theorem sw_head (h : Mw T 0 n p r q vs H R t w) (ht : t ≤ 800000) (a : Nat) (ha : a < H.length) (x : Int) (hx : H.getD a 0 = x) (k c o' rf sz er : Int) (g m : Bool) (HTk : Hid (∀ w, Calls Tryz.prog 14 #[.int .u64 x] w fun e w' => e = .returned (.tuple #[.agg #[.int .u8 k, .int .u8 c, .bool g, .bool m, .int .u8 o', .int .u8 rf, .int .u8 sz], .int .i64 er]) ∧ Kp [] w w')) (ok : Bool) (hok : (er == 0) = ok) :
    Calls Tryz.prog 115 #[swV T n p q o wk, .int .i64 a] w fun e w' => e = .returned (.tuple #[.agg #[.int .u8 k, .int .u8 c, .bool g, .bool m, .int .u8 o', .int .u8 rf, .int .u8 sz], .bool ok]) ∧ Mw T 0 n p r q vs H R (t + 1) w' ∧ Kp [p, r] w w' := by
  have hlt := h.lt
  obtain ⟨w1, hw1⟩ : ∃ w1, w1 = (swW w T n p q o wk).alloc (.cells #[.int .u8 0, .int .u8 0, .bool false, .bool false, .int .u8 0, .int .u8 0, .int .u8 0] 59) := ⟨_, rfl⟩
  have kb : Kp [] w w1 := by rw [hw1]; exact (swW_kp w T n p q o wk).alloc _
  have r0 : w1.heap[w.heap.size]? = some (.cells (swC T n p q o wk) 106 (0, 0)) := by rw [hw1]; exact ((Kp.refl [] _).alloc _).row (by simp) (swW_row w T n p q o wk)
  have r1 : w1.heap[w.heap.size + 1]? = some (.cells #[.int .u8 0, .int .u8 0, .bool false, .bool false, .int .u8 0, .int .u8 0, .int .u8 0] 59 (0, 0)) := by
    rw [hw1]
    have := heap_alloc_new (swW w T n p q o wk) (.cells #[.int .u8 0, .int .u8 0, .bool false, .bool false, .int .u8 0, .int .u8 0, .int .u8 0] 59)
    rwa [show (swW w T n p q o wk).heap.size = w.heap.size + 1 from World.size_alloc _ _] at this
  obtain ⟨t0, ht0, hh⟩ := h.hw
  have HRd := Lib.hid (rd_word (hh.on kb) (by omega) a ha (a : Int) x rfl hx)
  have HT : Hid (∀ w', Hw T 0 n p r H (t0 + 1) w' → Kp [p, r] w w' → Mw T 0 n p r q vs H R (t + 1) w') := Lib.hid fun w' b k' => h.turn k' ⟨t0 + 1, by omega, b⟩ rfl
  have c0 := (cell_of_row r0 0).trans (show _ = some (.iface 31 (.pointer (some ⟨p, 0, none⟩))) from rfl)
  have HB := Lib.hid (And.intro kb (And.intro r1 hlt))
  have hna := na_read
  unfold swW swC at hw1
  clear h ha hx kb r0 r1 hlt hh ht ht0
  go_enter Tryz.func115, Tryz.ntmps115
  go_upto_region 1 with (fail)
  rw [← hw1]
  clear hw1
  go_wp2_with fail
  refine HRd.out.mono ?_
  rintro e w2 ⟨rfl, h2, k2⟩
  have H2 := Lib.hid (And.intro h2 k2)
  clear h2 k2 c0
  go_wp2_with fail
  refine (HTk.out w2).mono ?_
  rintro e w3 ⟨rfl, k3⟩
  have hz : w.heap.size + 1 < w2.heap.size := by
    have := lt_of_block HB.out.2.1
    have := H2.out.2.size
    omega
  have r1 := k3.row (by simp) (H2.out.2.row (by have := HB.out.2.2; simp; omega) HB.out.2.1)
  have ka : Kp [] w3 (w3.alloc (.cells #[.int .u8 k, .int .u8 c, .bool g, .bool m, .int .u8 o', .int .u8 rf, .int .u8 sz] 59)) := (Kp.refl _ _).alloc _
  have r2 := ka.row (by simp) r1
  have H3 := Lib.hid (And.intro k3 (And.intro ka r2))
  have z0 := (cell_of_row r2 0).trans (show _ = some (.int .u8 0) from rfl)
  have z1 := (cell_of_row r2 1).trans (show _ = some (.int .u8 0) from rfl)
  have z2 := (cell_of_row r2 2).trans (show _ = some (.bool false) from rfl)
  have z3 := (cell_of_row r2 3).trans (show _ = some (.bool false) from rfl)
  have z4 := (cell_of_row r2 4).trans (show _ = some (.int .u8 0) from rfl)
  have z5 := (cell_of_row r2 5).trans (show _ = some (.int .u8 0) from rfl)
  have z6 := (cell_of_row r2 6).trans (show _ = some (.int .u8 0) from rfl)
  have f0 := free_of_row r2 0
  have f1 := free_of_row r2 1
  have f2 := free_of_row r2 2
  have f3 := free_of_row r2 3
  have f4 := free_of_row r2 4
  have f5 := free_of_row r2 5
  have f6 := free_of_row r2 6
  clear k3 r1 ka r2 hz
  go_wp2_with fail
  have kF := set7_kp (.int .u8 k) (.int .u8 c) (.bool g) (.bool m) (.int .u8 o') (.int .u8 rf) (.int .u8 sz) ((((HB.out.1.mono (by simp)).trans H2.out.2).trans (H3.out.1.mono (by simp))).trans (H3.out.2.1.mono (by simp))) (show w.heap.size ≤ w.heap.size + 1 by omega)
  refine bodyPost_row_tmp rfl (w.heap.size + 1) 59 #[.int .u8 k, .int .u8 c, .bool g, .bool m, .int .u8 o', .int .u8 rf, .int .u8 sz] (0, 0) _ (.bool ok) rfl rfl rfl (set7_row H3.out.2.2 _ _ _ _ _ _ _) Tryz.underlying59 rfl (by kernel_rfl) ⟨rfl, HT.out _ ?_ kF, kF⟩
  have hlt := HB.out.2.2
  refine ((H2.out.1.on H3.out.1).on H3.out.2.1).keep (S := [w.heap.size + 1]) (((((((((Kp.refl _ _).setCell (.inl (by simp)) _).setCell (.inl (by simp)) _).setCell (.inl (by simp)) _).setCell (.inl (by simp)) _).setCell (.inl (by simp)) _).setCell (.inl (by simp)) _).setCell (.inl (by simp)) _)) (by simp; omega) (by simp; omega)

set_option maxHeartbeats 4000000 in
/-- Blocks are given back, unless the collector walks. -/
theorem sw_back (h : Mw T 0 n p r q vs H R t w) (ht : t ≤ 700000) (b : Nat) (k c rr ow : Int) (hk : 0 ≤ rr) (hk2 : rr ≤ 255) (H' : List Int) (hH : swBack T n wk H b (Tb.blkE k rr) = H') :
    Calls Tryz.prog 78 #[swV T n p q o wk, .int .i64 b, .agg #[.int .u8 k, .int .u8 c, .int .u8 rr, .int .u8 ow]] w fun e w' => e = .returned (.tuple #[]) ∧ Mw T 0 n p r q vs H' R (t + 4) w' ∧ Kp [p, r] w w' := by
  have hlt := h.lt
  have hlen : H'.length = H.length := by rw [← hH, back_len]
  have HBl := Lib.hid (fun w => Tb.blocks_is k c rr ow w hk hk2)
  obtain ⟨w1, hw1⟩ : ∃ w1, w1 = (swW w T n p q o wk).alloc (.cells #[.int .u8 k, .int .u8 c, .int .u8 rr, .int .u8 ow] 110) := ⟨_, rfl⟩
  have kb : Kp [] w w1 := by rw [hw1]; exact (swW_kp w T n p q o wk).alloc _
  have r0 : w1.heap[w.heap.size]? = some (.cells (swC T n p q o wk) 106 (0, 0)) := by rw [hw1]; exact ((Kp.refl [] _).alloc _).row (by simp) (swW_row w T n p q o wk)
  have r1 : w1.heap[w.heap.size + 1]? = some (.cells #[.int .u8 k, .int .u8 c, .int .u8 rr, .int .u8 ow] 110 (0, 0)) := by
    rw [hw1]
    have := heap_alloc_new (swW w T n p q o wk) (.cells #[.int .u8 k, .int .u8 c, .int .u8 rr, .int .u8 ow] 110)
    rwa [show (swW w T n p q o wk).heap.size = w.heap.size + 1 from World.size_alloc _ _] at this
  have cc : ∀ {j : Nat} {v : Value}, (swC T n p q o wk)[j]? = some v → w1.cell? ⟨w.heap.size, j, none⟩ = some v := fun hj => (cell_of_row r0 _).trans hj
  have a0 : w1.cell? ⟨w.heap.size, 0, none⟩ = some (.iface 31 (.pointer (some ⟨p, 0, none⟩))) := cc (j := 0) rfl
  have a1 : w1.cell? ⟨w.heap.size, 1, none⟩ = some (.int .i64 T) := cc (j := 1) rfl
  have a2 : w1.cell? ⟨w.heap.size, 2, none⟩ = some (.int .i64 ((0 : Nat) : Int)) := cc (j := 2) rfl
  have a3 : w1.cell? ⟨w.heap.size, 3, none⟩ = some (.int .i64 n) := cc (j := 3) rfl
  have a6 : w1.cell? ⟨w.heap.size, 6, none⟩ = some (.bool wk) := cc (j := 6) rfl
  have b0 := (cell_of_row r1 0).trans (show _ = some (.int .u8 k) from rfl)
  have b1 := (cell_of_row r1 1).trans (show _ = some (.int .u8 c) from rfl)
  have b2 := (cell_of_row r1 2).trans (show _ = some (.int .u8 rr) from rfl)
  have b3 := (cell_of_row r1 3).trans (show _ = some (.int .u8 ow) from rfl)
  cases wk
  · have HBk : Hid (∀ w', Kp [] w w' → Calls Tryz.prog 120 #[.iface 31 (.pointer (some ⟨p, 0, none⟩)), .agg #[.int .i64 T, .int .i64 ((0 : Nat) : Int), .int .i64 n], .int .i64 b, .int .i64 (Tb.blkE k rr)] w' fun e w2 => e = .returned (.tuple #[]) ∧ Mw T 0 n p r q vs H' R (t + 4) w2 ∧ Kp [p, r] w' w2) := by
      refine Lib.hid fun w' k' => ?_
      obtain ⟨t0, ht0, hh⟩ := (h.on k').hw
      refine (g_back hh (by omega) b (Tb.blkE k rr) _ rfl).mono ?_
      rintro e w2 ⟨rfl, h2, k2⟩
      have h2' : Hw T 0 n p r H' (t0 + (if runG n b (Tb.blkE k rr) then (Tb.blkE k rr).toNat + 1 else 0)) w2 := by rw [← hH]; exact h2
      refine ⟨rfl, (h.on k').turn k2 ⟨_, ?_, h2'⟩ hlen, k2⟩
      split
      · rename_i hr
        have := runG_iff.1 hr
        omega
      · omega
    have HS : Hid (∀ wx, Kp [] w1 wx → wx.cell? ⟨w.heap.size, 0, none⟩ = some (.iface 31 (.pointer (some ⟨p, 0, none⟩))) ∧ wx.cell? ⟨w.heap.size, 1, none⟩ = some (.int .i64 T) ∧ wx.cell? ⟨w.heap.size, 2, none⟩ = some (.int .i64 ((0 : Nat) : Int)) ∧ wx.cell? ⟨w.heap.size, 3, none⟩ = some (.int .i64 n) ∧ wx.cell? ⟨w.heap.size + 1, 0, none⟩ = some (.int .u8 k) ∧ wx.cell? ⟨w.heap.size + 1, 1, none⟩ = some (.int .u8 c) ∧ wx.cell? ⟨w.heap.size + 1, 2, none⟩ = some (.int .u8 rr) ∧ wx.cell? ⟨w.heap.size + 1, 3, none⟩ = some (.int .u8 ow) ∧ Kp [p, r] w1 wx) := Lib.hid fun wx k' => ⟨kp_cell k' (by simp) a0, kp_cell k' (by simp) a1, kp_cell k' (by simp) a2, kp_cell k' (by simp) a3, kp_cell k' (by simp) b0, kp_cell k' (by simp) b1, kp_cell k' (by simp) b2, kp_cell k' (by simp) b3, k'.mono (by simp)⟩
    have HS2 : Hid (∀ wx, Kp [p, r] w1 wx → wx.cell? ⟨w.heap.size, 0, none⟩ = some (.iface 31 (.pointer (some ⟨p, 0, none⟩))) ∧ wx.cell? ⟨w.heap.size, 1, none⟩ = some (.int .i64 T) ∧ wx.cell? ⟨w.heap.size, 2, none⟩ = some (.int .i64 ((0 : Nat) : Int)) ∧ wx.cell? ⟨w.heap.size, 3, none⟩ = some (.int .i64 n) ∧ wx.cell? ⟨w.heap.size + 1, 0, none⟩ = some (.int .u8 k) ∧ wx.cell? ⟨w.heap.size + 1, 1, none⟩ = some (.int .u8 c) ∧ wx.cell? ⟨w.heap.size + 1, 2, none⟩ = some (.int .u8 rr) ∧ wx.cell? ⟨w.heap.size + 1, 3, none⟩ = some (.int .u8 ow) ∧ Kp [p, r] w1 wx) := Lib.hid fun wx k' => by
      have n1 : w.heap.size ∉ [p, r] := by simp; omega
      have n2 : w.heap.size + 1 ∉ [p, r] := by simp; omega
      exact ⟨kp_cell k' n1 a0, kp_cell k' n1 a1, kp_cell k' n1 a2, kp_cell k' n1 a3, kp_cell k' n2 b0, kp_cell k' n2 b1, kp_cell k' n2 b2, kp_cell k' n2 b3, k'⟩
    have HK := Lib.hid kb
    unfold swW swC at hw1
    generalize Tb.blkE k rr = bl at HBl HBk
    clear hH hlen cc r0 r1 kb h ht hk hk2 hlt
    go_enter Tryz.func78, Tryz.ntmps78
    go_upto_region 1 with (fail)
    rw [← hw1]
    clear hw1
    go_wp2_with fail
    go_region_held3 (fun wx => wx.cell? ⟨w.heap.size, 0, none⟩ = some (.iface 31 (.pointer (some ⟨p, 0, none⟩))) ∧ wx.cell? ⟨w.heap.size, 1, none⟩ = some (.int .i64 T) ∧ wx.cell? ⟨w.heap.size, 2, none⟩ = some (.int .i64 ((0 : Nat) : Int)) ∧ wx.cell? ⟨w.heap.size, 3, none⟩ = some (.int .i64 n) ∧ wx.cell? ⟨w.heap.size + 1, 0, none⟩ = some (.int .u8 k) ∧ wx.cell? ⟨w.heap.size + 1, 1, none⟩ = some (.int .u8 c) ∧ wx.cell? ⟨w.heap.size + 1, 2, none⟩ = some (.int .u8 rr) ∧ wx.cell? ⟨w.heap.size + 1, 3, none⟩ = some (.int .u8 ow) ∧ Kp [p, r] w1 wx)
      (first
        | with_reducible assumption
        | (refine HS2.out _ ?_
           first
             | with_reducible first
              | exact K7.out
              | exact (Kp.drew K7.out))
        | (refine HS.out _ ?_
           repeat (first
             | with_reducible first
              | exact Kp.refl _ _
              | exact K6.out
             | with_reducible refine Kp.drew ?_)))
      (first
        | (go_at_call 121
           refine (HBl.out _).mono ?_
           rintro e w6 ⟨rfl, k6⟩
           have K6 : Hid (Kp [] w1 w6) := Lib.hid (by
             refine Kp.trans ?_ k6
             repeat (first | with_reducible exact Kp.refl _ _ | with_reducible refine Kp.drew ?_))
           clear k6)
        | (go_at_call 120
           with_reducible refine Calls.mono (HBk.out _ ?hk) ?_
           case hk =>
             refine HK.out.trans ?_
             repeat (first | with_reducible exact Kp.refl _ _ | with_reducible exact K6.out | with_reducible refine Kp.drew ?_)
           rintro e w7 ⟨rfl, h7, k7⟩
           have F7 := Lib.hid h7
           have K7 : Hid (Kp [p, r] w1 w7) := Lib.hid (by
             refine Kp.trans (Kp.mono (S := []) ?_ (by simp)) k7
             repeat (first | with_reducible exact Kp.refl _ _ | with_reducible exact K6.out | with_reducible refine Kp.drew ?_))
           clear h7 k7))
    all_goals
      rename_i hHeld
      clear hHeld
    all_goals go_wp2_with fail
    all_goals go_end0
    all_goals exact ⟨rfl, F7.out, (HK.out.mono (by simp)).trans K7.out⟩
  · have HF : Hid (Mw T 0 n p r q vs H' R (t + 4) w1 ∧ Kp [p, r] w w1) := Lib.hid ⟨by rw [← hH]; exact (h.on kb).more (by omega), kb.mono (by simp)⟩
    unfold swW swC at hw1
    clear hH hlen cc r0 r1 kb h ht hk hk2 hlt HBl
    go_enter Tryz.func78, Tryz.ntmps78
    go_upto_region 1 with (fail)
    rw [← hw1]
    clear hw1
    go_wp2_with fail
    go_end0
    exact ⟨rfl, HF.out⟩
/-- Are all of them Listed: the closure, and its making. -/
theorem sw_listed (k : Int) (w : World) (b : Nat) (v : Bool) (hb : w.heap[b]? = some (.cells #[.bool v] 4 (0, 0))) (res : Bool) (hr : (v && decide (k = 1)) = res) :
    Calls Tryz.prog 143 #[.int .u8 k, .pointer (some ⟨b, 0, none⟩)] w fun e w' => e = .returned (.bool res) ∧ w'.heap[b]? = some (.cells #[.bool res] 4 (0, 0)) ∧ Kp [b] w w' := by
  have c0 := (cell_of_row hb 0).trans (show _ = some (.bool v) from rfl)
  have f0 := free_of_row hb 0
  have HB := Lib.hid hb
  have HR := Lib.hid hr
  have e1 : (k == 1) = decide (k = 1) := by by_cases h : k = 1 <;> simp [h]
  cases v
  · have hres : res = false := by rw [← hr]; rfl
    subst hres
    have hw : w.setCell ⟨b, 0, none⟩ (.bool false) = w.setCell ⟨b, 0, none⟩ (.bool false) := rfl
    have hc := heap_setCell_same w b 0 _ _ (.bool false) hb
    have HF : Hid ((w.setCell ⟨b, 0, none⟩ (.bool false)).heap[b]? = some (.cells #[.bool false] 4 (0, 0)) ∧ Kp [b] w (w.setCell ⟨b, 0, none⟩ (.bool false))) := Lib.hid ⟨hc, (Kp.refl _ _).setCell (.inl (by simp)) _⟩
    clear hb hr hw hc e1
    go_enter Tryz.func143, Tryz.ntmps143
    go_wp2
    go_ret
    exact ⟨rfl, HF.out⟩
  · cases hd : decide (k = 1) with
    | false =>
      have hres : res = false := by rw [← hr, hd]; rfl
      subst hres
      rw [hd] at e1
      have hc := heap_setCell_same w b 0 _ _ (.bool false) hb
      have HF : Hid ((w.setCell ⟨b, 0, none⟩ (.bool false)).heap[b]? = some (.cells #[.bool false] 4 (0, 0)) ∧ Kp [b] w (w.setCell ⟨b, 0, none⟩ (.bool false))) := Lib.hid ⟨hc, (Kp.refl _ _).setCell (.inl (by simp)) _⟩
      clear hb hr hc hd
      go_enter Tryz.func143, Tryz.ntmps143
      go_wp2
      go_ret
      exact ⟨rfl, HF.out⟩
    | true =>
      have hres : res = true := by rw [← hr, hd]; rfl
      subst hres
      rw [hd] at e1
      have hc := heap_setCell_same w b 0 _ _ (.bool true) hb
      have HF : Hid ((w.setCell ⟨b, 0, none⟩ (.bool true)).heap[b]? = some (.cells #[.bool true] 4 (0, 0)) ∧ Kp [b] w (w.setCell ⟨b, 0, none⟩ (.bool true))) := Lib.hid ⟨hc, (Kp.refl _ _).setCell (.inl (by simp)) _⟩
      clear hb hr hc hd
      go_enter Tryz.func143, Tryz.ntmps143
      go_wp2
      go_ret
      exact ⟨rfl, HF.out⟩
theorem sw_all (w : World) : Calls Tryz.prog 112 #[] w fun e w' => (∃ b, e = .returned (.func (.func 143) #[] #[.pointer (some ⟨b, 0, none⟩)]) ∧ w'.heap[b]? = some (.cells #[.bool true] 4 (0, 0)) ∧ w.heap.size ≤ b) ∧ Kp [] w w' := by
  go_enter Tryz.func112, Tryz.ntmps112
  go_wp2
  go_ret
  exact ⟨⟨_, rfl, heap_alloc_new _ _, Nat.le_refl _⟩, (Kp.refl _ _).alloc _⟩
end
end Go.Proofs.YticbnckikkdknaaGreatDoor

namespace Go.Proofs.YticbnckikkdknaaGreatDoor
set_option linter.unusedVariables false
set_option linter.unusedSimpArgs false
set_option maxRecDepth 100000
open Go.RowKit

theorem unmark_word {x : Int} (h0 : 0 ≤ x) (ht : Wd.takeB x = true) (hk : x % 4 = 2) (hm : mkB x = true) :
    Wd.mayB (x % 4) (x / 4 % 2) (x / 32 % 64) (x / 2048 % 128) (x / 262144 % 128) (x / 8 % 2 == 1) false = true ∧ Wd.wordI (x % 4) (x / 4 % 2) (x / 32 % 64) (x / 2048 % 128) (x / 262144 % 128) (x / 8 % 2 == 1) false = x - 16 := by
  have hw := Wd.takeB_word x h0 ht
  have hb : Wd.mayB (x % 4) (x / 4 % 2) (x / 32 % 64) (x / 2048 % 128) (x / 262144 % 128) (x / 8 % 2 == 1) (x / 16 % 2 == 1) = true := by
    unfold Wd.takeB at ht
    simp only [Bool.and_eq_true] at ht
    exact ht.2
  have hm' : (x / 16 % 2 == 1) = true := hm
  rw [hm'] at hw hb
  constructor
  · have h2 := Wd.mayB_iff.1 hb
    exact Wd.mayB_iff.2 ⟨h2.1, h2.2.1, h2.2.2.1, h2.2.2.2.1, h2.2.2.2.2.1, h2.2.2.2.2.2.1, fun _ => rfl, fun h => by omega⟩
  · unfold Wd.wordI Wd.bitI at hw ⊢
    simp only at hw ⊢
    omega

section
variable {T n p r q t o : Nat} {wk : Bool} {vs : Nat → Value} {H : List Int} {R : Nat → List Int} {w : World}
set_option maxHeartbeats 8000000 in
/-- A cell is swept. -/
theorem sw_cell (h : Mw T 0 n p r q vs H R t w) (ht : t ≤ 700000) (ho : o < 64) (c : Nat) (hc : c < 4) (a : Nat) (ha1 : 1 ≤ a) (ha : a < H.length) (ha2 : (a : Int) + Cl.wdC c ≤ H.length) :
    Calls Tryz.prog 113 #[swV T n p q o wk, .int .i64 c, .int .i64 a] w fun e w' => e = .returned (.int .u8 (swCell o c a (H, R)).2) ∧ ∃ vs', Mw T 0 n p r q vs' (swCell o c a (H, R)).1.1 (swCell o c a (H, R)).1.2 (t + 2) w' ∧ Mk p r q vs vs' w w' := by
  obtain ⟨x, hx⟩ : ∃ x, H.getD a 0 = x := ⟨_, rfl⟩
  have hx0 := h.word a
  rw [hx] at hx0
  obtain ⟨k, c', o', rf, sz, er, g, m, HTk, hways⟩ := take_any x hx0.1 hx0.2
  have hlt := h.lt
  have kb := swW_kp w T n p q o wk
  have HHd0 := fun ok hok => Lib.hid (sw_head (o := o) (wk := wk) (h.on kb) (by omega) a ha x hx k c' o' rf sz er g m HTk ok hok)
  have HR0 := Lib.hid (swW_row w T n p q o wk)
  have HCl : swCell o c a (H, R) = if frB x || (lkB o x && !mkB x) then ((H.set a (lw o), Li.pushR R c a), 1) else if lkB o x then ((H.set a (x - 16), R), 2) else ((H, R), knd x) := by unfold swCell; simp only [hx]
  -- Mw behind the head's reading: all that follows
  have HPu : Hid (∀ wq vq, Mw T 0 n p r q vq (H.set a (lw o)) R (t + 2) wq → Calls Tryz.prog 144 #[.pointer (some ⟨q, 0, none⟩), .int .i64 c, .int .i64 a] wq fun e w' => (∃ y, e = .returned (.int .i64 y)) ∧ ∃ vs', Mw T 0 n p r q vs' (H.set a (lw o)) (Li.pushR R c a) (t + 2) w' ∧ Mk p r q vq vs' wq w') := Lib.hid fun wq vq hq => by
    refine (Li.push_is wq q vq R c a hq.ls (hq.lk.len hq.sm)).mono ?_
    rintro e w' ⟨rfl, vs2, L, K⟩
    refine ⟨⟨_, rfl⟩, vs2, hq.list L K ?_, Mk.of_lk K⟩
    rw [List.length_set]
    have := h.lk
    exact this.push hc (by omega) ha2
  have HWr : Hid (∀ wq, Mw T 0 n p r q vs H R (t + 1) wq → Calls Tryz.prog 118 #[swV T n p q o wk, .int .i64 a, .agg #[.int .u8 1, .int .u8 0, .bool false, .bool false, .int .u8 o, .int .u8 0, .int .u8 0]] wq fun e w' => e = .returned (.tuple #[]) ∧ Mw T 0 n p r q vs (H.set a (lw o)) R (t + 2) w' ∧ Kp [p, r] wq w') := Lib.hid fun wq hq => sw_write hq (by omega) a ha a rfl 1 0 o 0 0 false false (by omega) (by omega) (by omega) (by omega) (by omega) (lw_may o ho) _ rfl
  have HUn : Hid (k = 2 → er = 0 → m = true → ∀ wq, Mw T 0 n p r q vs H R (t + 1) wq → Calls Tryz.prog 117 #[swV T n p q o wk, .int .i64 a, .agg #[.int .u8 k, .int .u8 c', .bool g, .bool m, .int .u8 o', .int .u8 rf, .int .u8 sz]] wq fun e w' => e = .returned (.tuple #[]) ∧ Mw T 0 n p r q vs (H.set a (x - 16)) R (t + 2) w' ∧ Kp [p, r] wq w') := Lib.hid fun hk he hm wq hq => by
    rcases hways with ⟨e0, -⟩ | ⟨-, htk, e1, e2, e3, e4, e5, e6, e7⟩
    · omega
    · obtain ⟨m1, m2⟩ := unmark_word hx0.1 htk (by omega) (by rw [← e7]; exact hm)
      rw [e1, e2, e3, e4, e5, e6]
      exact sw_unmark hq (by omega) a ha a rfl _ _ _ _ _ _ m (by omega) (by omega) (by omega) (by omega) (by omega) m1 _ m2
  have HOw : Hid (∀ (res : Bool) (wq : World), (decide (k = 2) && decide (o' = o)) = res → Calls Tryz.prog 116 #[swV T n p q o wk, .agg #[.int .u8 k, .int .u8 c', .bool g, .bool m, .int .u8 o', .int .u8 rf, .int .u8 sz]] wq fun e w' => e = .returned (.bool res) ∧ Kp [] wq w') := Lib.hid fun res wq hr => sw_own k c' o' rf sz g m wq res hr
  have HMk : Hid (∀ {w1 w2 : World}, Kp [p, r] w1 w2 → Mk p r q vs vs w1 w2) := Lib.hid fun k' => Mk.of_kp k' (by simp)
  have HKn : Hid (er = 3 → frB x = false ∧ lkB o x = false ∧ knd x = 0 ∧ k = 0) := Lib.hid fun he => by
    rcases hways with ⟨-, htk, e1, -⟩ | ⟨e0, -⟩
    · exact ⟨by simp [frB, htk], by simp [lkB, htk], by simp [knd, htk], e1⟩
    · omega
  have HKy : Hid (er = 0 → frB x = decide (k = 0) ∧ lkB o x = (decide (k = 2) && decide (o' = o)) ∧ knd x = k ∧ mkB x = m) := Lib.hid fun he => by
    rcases hways with ⟨e0, -⟩ | ⟨-, htk, e1, e2, e3, e4, e5, e6, e7⟩
    · omega
    · exact ⟨by simp [frB, htk, e1], by simp [lkB, htk, e1, e3], by simp [knd, htk, e1], e7.symm⟩
  have hways2 : er = 3 ∨ er = 0 := by
    rcases hways with h1 | h1
    · exact .inl h1.1
    · exact .inr h1.1
  have HN := Lib.hid (And.intro kb hlt)
  have HCl := Lib.hid HCl
  clear hways hx0 hx HTk h ht ho hc ha1 ha ha2 hlt kb
  unfold swW swC at HR0
  unfold swW at HN
  unfold swC at HN
  have hok : (er == 0) = decide (er = 0) := by by_cases h : er = 0 <;> simp [h]
  have HHd := HHd0 _ hok
  clear HHd0
  unfold swW at HHd
  unfold swC at HHd
  go_enter Tryz.func113, Tryz.ntmps113
  have c0 := (cell_of_row HR0.out 0).trans (show _ = some (.iface 31 (.pointer (some ⟨p, 0, none⟩))) from rfl)
  have c1 := (cell_of_row HR0.out 1).trans (show _ = some (.int .i64 T) from rfl)
  have c2 := (cell_of_row HR0.out 2).trans (show _ = some (.int .i64 ((0 : Nat) : Int)) from rfl)
  have c3 := (cell_of_row HR0.out 3).trans (show _ = some (.int .i64 n) from rfl)
  have c4 := (cell_of_row HR0.out 4).trans (show _ = some (.int .u8 o) from rfl)
  have c5 := (cell_of_row HR0.out 5).trans (show _ = some (.pointer (some ⟨q, 0, none⟩)) from rfl)
  have c6 := (cell_of_row HR0.out 6).trans (show _ = some (.bool wk) from rfl)
  go_wp2_with fail
  refine HHd.out.mono ?_
  rintro e w2 ⟨rfl, h2, k2⟩
  have n0 : w.heap.size ∉ [p, r] := by have := HN.out.2; simp; omega
  have r2 := k2.row n0 HR0.out
  have hz : w.heap.size < w2.heap.size := lt_of_block r2
  have kA : Kp [] w2 (w2.alloc (.cells #[.int .u8 k, .int .u8 c', .bool g, .bool m, .int .u8 o', .int .u8 rf, .int .u8 sz] 59)) := (Kp.refl _ _).alloc _
  have r3 := kA.row (by simp) r2
  have s3 := heap_alloc_new w2 (.cells #[.int .u8 k, .int .u8 c', .bool g, .bool m, .int .u8 o', .int .u8 rf, .int .u8 sz] 59)
  have m3 := h2.on kA
  have K3 := ((HN.out.1.mono (by simp)).trans k2).trans (kA.mono (by simp))
  obtain ⟨hb, hhb⟩ : ∃ hb, hb = w2.heap.size := ⟨_, rfl⟩
  obtain ⟨w3, hw3⟩ : ∃ w3, w3 = w2.alloc (.cells #[.int .u8 k, .int .u8 c', .bool g, .bool m, .int .u8 o', .int .u8 rf, .int .u8 sz] 59) := ⟨_, rfl⟩
  rw [← hw3] at r3 s3 m3 K3
  rw [← hhb] at s3 hz
  have HC : Hid (∀ wx, Kp [p, r] w3 wx → wx.cell? ⟨w.heap.size, 0, none⟩ = some (.iface 31 (.pointer (some ⟨p, 0, none⟩))) ∧ wx.cell? ⟨w.heap.size, 1, none⟩ = some (.int .i64 T) ∧ wx.cell? ⟨w.heap.size, 2, none⟩ = some (.int .i64 ((0 : Nat) : Int)) ∧ wx.cell? ⟨w.heap.size, 3, none⟩ = some (.int .i64 n) ∧ wx.cell? ⟨w.heap.size, 4, none⟩ = some (.int .u8 o) ∧ wx.cell? ⟨w.heap.size, 5, none⟩ = some (.pointer (some ⟨q, 0, none⟩)) ∧ wx.cell? ⟨w.heap.size, 6, none⟩ = some (.bool wk) ∧ wx.cell? ⟨hb, 0, none⟩ = some (.int .u8 k) ∧ wx.cell? ⟨hb, 1, none⟩ = some (.int .u8 c') ∧ wx.cell? ⟨hb, 2, none⟩ = some (.bool g) ∧ wx.cell? ⟨hb, 3, none⟩ = some (.bool m) ∧ wx.cell? ⟨hb, 4, none⟩ = some (.int .u8 o') ∧ wx.cell? ⟨hb, 5, none⟩ = some (.int .u8 rf) ∧ wx.cell? ⟨hb, 6, none⟩ = some (.int .u8 sz)) := Lib.hid fun wx k' => by
    have n1 : hb ∉ [p, r] := by have := HN.out.2; simp; omega
    have r4 := k'.row n0 r3
    have s4 := k'.row n1 s3
    exact ⟨(cell_of_row r4 0).trans rfl, (cell_of_row r4 1).trans rfl, (cell_of_row r4 2).trans rfl, (cell_of_row r4 3).trans rfl, (cell_of_row r4 4).trans rfl, (cell_of_row r4 5).trans rfl, (cell_of_row r4 6).trans rfl, (cell_of_row s4 0).trans rfl, (cell_of_row s4 1).trans rfl, (cell_of_row s4 2).trans rfl, (cell_of_row s4 3).trans rfl, (cell_of_row s4 4).trans rfl, (cell_of_row s4 5).trans rfl, (cell_of_row s4 6).trans rfl⟩
  have H3 := Lib.hid (And.intro m3 K3)
  clear c0 c1 c2 c3 c4 c5 c6 h2 k2 r2 hz kA r3 s3 m3 K3 n0
  go_upto_region 2 with (fail)
  rw [← hhb, ← hw3]
  clear hhb hw3 HHd HR0
  obtain ⟨c0, c1, c2, c3, c4, c5, c6, d0, d1, d2, d3, d4, d5, d6⟩ := HC.out w3 (Kp.refl _ _)
  rcases hways2 with rfl | rfl
  · obtain ⟨f1, f2, f3, f4⟩ := HKn.out rfl
    have HF : Hid (swCell o c a (H, R) = ((H, R), 0)) := Lib.hid (by rw [HCl.out, f1, f2, f3]; rfl)
    have hd3 : decide ((3 : Int) = 0) = false := rfl
    subst f4
    clear f1 f2 f3 HCl HKn HKy hok
    --{{B
    go_wp2_with fail
    refine (HOw.out false _ rfl).mono ?_
    rintro e w4 ⟨rfl, k4⟩
    have H4 := Lib.hid k4
    obtain ⟨c0, c1, c2, c3, c4, c5, c6, d0, d1, d2, d3, d4, d5, d6⟩ := HC.out w4 (k4.mono (by simp))
    clear k4
    go_wp2_with fail
    refine (HOw.out false _ rfl).mono ?_
    rintro e w5 ⟨rfl, k5⟩
    have H5 := Lib.hid (H4.out.trans k5)
    obtain ⟨c0, c1, c2, c3, c4, c5, c6, d0, d1, d2, d3, d4, d5, d6⟩ := HC.out w5 ((H4.out.trans k5).mono (by simp))
    clear k5
    go_wp2_with fail
    go_ret
    rw [HF.out]
    exact ⟨rfl, vs, (H3.out.1.on H5.out).more (by omega), HMk.out (H3.out.2.trans (H5.out.mono (by simp)))⟩
    --}}
  · obtain ⟨f1, f2, f3, f4⟩ := HKy.out rfl
    have hd3 : decide ((0 : Int) = 0) = true := rfl
    by_cases hk0 : k = 0
    · subst hk0
      --{{A
      have HF : Hid (swCell o c a (H, R) = ((H.set a (lw o), Li.pushR R c a), 1)) := Lib.hid (by rw [HCl.out, if_pos (by rw [f1]; rfl)])
      clear HCl HKn HKy
      go_wp2_with fail
      refine (HWr.out _ H3.out.1).mono ?_
      rintro e w5 ⟨rfl, h5, k5⟩
      have H5 := Lib.hid (And.intro h5 (H3.out.2.trans k5))
      obtain ⟨c0, c1, c2, c3, c4, c5, c6, d0, d1, d2, d3, d4, d5, d6⟩ := HC.out w5 ((Kp.refl _ _).trans k5)
      clear h5 k5
      go_wp2_with fail
      refine (HPu.out _ _ H5.out.1).mono ?_
      rintro e w6 ⟨⟨y, rfl⟩, vs6, h6, k6⟩
      have H6 := Lib.hid (And.intro h6 ((HMk.out H5.out.2).trans k6))
      clear h6 k6 c0 c1 c2 c3 c4 c5 c6 d0 d1 d2 d3 d4 d5 d6
      go_wp2_with fail
      go_ret
      rw [HF.out]
      exact ⟨rfl, vs6, H6.out⟩
      --}}
    · have e0 : (k == 0) = false := by simp [hk0]
      have f1' : frB x = false := by rw [f1]; simp [hk0]
      cases hw : (decide (k = 2) && decide (o' = o)) with
      | false =>
        have HF : Hid (swCell o c a (H, R) = ((H, R), k)) := Lib.hid (by rw [HCl.out, f1', f2, hw, f3]; rfl)
        have HO := Lib.hid (fun wq => HOw.out false wq hw)
        clear f1 f2 f3 f4 f1' HCl HKn HKy hok hw hk0
        --{{C
        go_wp2_with fail
        refine (HO.out _).mono ?_
        rintro e w4 ⟨rfl, k4⟩
        have H4 := Lib.hid k4
        obtain ⟨c0, c1, c2, c3, c4, c5, c6, d0, d1, d2, d3, d4, d5, d6⟩ := HC.out w4 (k4.mono (by simp))
        clear k4
        go_wp2_with fail
        refine (HO.out _).mono ?_
        rintro e w5 ⟨rfl, k5⟩
        have H5 := Lib.hid (H4.out.trans k5)
        obtain ⟨c0, c1, c2, c3, c4, c5, c6, d0, d1, d2, d3, d4, d5, d6⟩ := HC.out w5 ((H4.out.trans k5).mono (by simp))
        clear k5
        go_wp2_with fail
        go_ret
        rw [HF.out]
        exact ⟨rfl, vs, (H3.out.1.on H5.out).more (by omega), HMk.out (H3.out.2.trans (H5.out.mono (by simp)))⟩
        --}}
      | true =>
        have hk2 : k = 2 := by simp at hw; exact hw.1
        have HO := Lib.hid (fun wq => HOw.out true wq hw)
        cases m with
        | false =>
          have f5 : (frB x || (lkB o x && !mkB x)) = true := by rw [f2, hw, f4]; simp
          clear f1 f2 f3 f4 f1' hok hw hk0 hk2
          --{{D
          go_wp2_with fail
          refine (HO.out _).mono ?_
          rintro e w4 ⟨rfl, k4⟩
          have H4 := Lib.hid k4
          obtain ⟨c0, c1, c2, c3, c4, c5, c6, d0, d1, d2, d3, d4, d5, d6⟩ := HC.out w4 (k4.mono (by simp))
          clear k4
          have HF : Hid (swCell o c a (H, R) = ((H.set a (lw o), Li.pushR R c a), 1)) := Lib.hid (by rw [HCl.out, if_pos f5])
          clear HCl HKn HKy
          go_wp2_with fail
          refine (HWr.out _ (H3.out.1.on H4.out)).mono ?_
          rintro e w5 ⟨rfl, h5, k5⟩
          have H5 := Lib.hid (And.intro h5 ((H3.out.2.trans (H4.out.mono (by simp))).trans k5))
          obtain ⟨c0, c1, c2, c3, c4, c5, c6, d0, d1, d2, d3, d4, d5, d6⟩ := HC.out w5 ((H4.out.mono (by simp)).trans k5)
          clear h5 k5
          go_wp2_with fail
          refine (HPu.out _ _ H5.out.1).mono ?_
          rintro e w6 ⟨⟨y, rfl⟩, vs6, h6, k6⟩
          have H6 := Lib.hid (And.intro h6 ((HMk.out H5.out.2).trans k6))
          clear h6 k6 c0 c1 c2 c3 c4 c5 c6 d0 d1 d2 d3 d4 d5 d6
          go_wp2_with fail
          go_ret
          rw [HF.out]
          exact ⟨rfl, vs6, H6.out⟩
          --}}
        | true =>
          have HF : Hid (swCell o c a (H, R) = ((H.set a (x - 16), R), 2)) := Lib.hid (by rw [HCl.out, f1', f2, hw, f4]; rfl)
          have HU := Lib.hid (HUn.out hk2 rfl rfl)
          have HK2 := Lib.hid hk2
          clear f1 f2 f3 f4 f1' HCl HKn HKy hok hw hk0 hk2
          --{{E
          go_wp2_with fail
          refine (HO.out _).mono ?_
          rintro e w4 ⟨rfl, k4⟩
          have H4 := Lib.hid k4
          obtain ⟨c0, c1, c2, c3, c4, c5, c6, d0, d1, d2, d3, d4, d5, d6⟩ := HC.out w4 (k4.mono (by simp))
          clear k4
          go_wp2_with fail
          refine (HO.out _).mono ?_
          rintro e w5 ⟨rfl, k5⟩
          have H5 := Lib.hid (H4.out.trans k5)
          obtain ⟨c0, c1, c2, c3, c4, c5, c6, d0, d1, d2, d3, d4, d5, d6⟩ := HC.out w5 ((H4.out.trans k5).mono (by simp))
          clear k5
          go_wp2_with fail
          refine (HU.out _ (H3.out.1.on H5.out)).mono ?_
          rintro e w6 ⟨rfl, h6, k6⟩
          have H6 := Lib.hid (And.intro h6 ((H3.out.2.trans (H5.out.mono (by simp))).trans k6))
          obtain ⟨c0, c1, c2, c3, c4, c5, c6, d0, d1, d2, d3, d4, d5, d6⟩ := HC.out w6 ((H5.out.mono (by simp)).trans k6)
          clear h6 k6
          go_wp2_with fail
          go_ret
          rw [HF.out]
          refine ⟨?_, vs, H6.out.1, HMk.out H6.out.2⟩
          show Ending.returned (.int .u8 k) = _
          rw [HK2.out]
          --}}
end
end Go.Proofs.YticbnckikkdknaaGreatDoor
