/- The walks of the document's own heap (demesneref15), on: More. The walks of the document's own heap (demesneref15), on: Make, plainly. Makers, plainly, on: whatever the owners do, words and lists stay fit. The walks of package alloc: Make of what goes into a run; what may not be. Makers, on: several owners' lists over one arena. Conditions: as each theorem states them. -/
import Derived.Test.YtbpgkocbfleajaaGreatDoorPa08
import Derived.Test.YtbpgkocbfleajaaGreatDoorPa11
import Derived.Test.YtbpgkocbfleajaaGreatDoorPa12
namespace Go.Proofs.YtbpgkocbfleajaaGreatDoor
set_option linter.unusedVariables false
set_option linter.unusedSimpArgs false
set_option maxRecDepth 100000
open Go.RowKit
variable {Bz : Nat}

abbrev zH : Array Value := #[.slice none 0 0, .int .i64 0, .int .i64 0, .int .i64 0]
abbrev zL : Array Value := #[.slice none 0 0, .slice none 0 0, .slice none 0 0, .slice none 0 0]
/-- What More holds: the heap's box, the list's, and the two that it answers by. -/
structure Mo (Bz : Nat) (w0 : World) (vs : Nat → Value) (T G n N db dc : Nat) (us : Nat → Value) (H : List Int) (R : Nat → List Int) (w : World) : Prop where
  r5 : w.heap[w0.heap.size]? = some (.cells #[.slice (some ⟨db, 0, none⟩) N dc, .int .i64 T, .int .i64 G, .int .i64 n] 47 (0, 0))
  r6 : w.heap[w0.heap.size + 1]? = some (.cells #[us 0, us 1, us 2, us 3] 98 (0, 0))
  r10 : w.heap[w0.heap.size + 2]? = some (.cells zH 47 (0, 0))
  r11 : w.heap[w0.heap.size + 3]? = some (.cells zL 98 (0, 0))
  len : H.length = N
  dh : Dh Bz T G n db dc H w
  rd : Li.Rows4 w us R
  lo : ∀ d, d < 4 → ∀ y ∈ Li.blk (us d), (y < w0.heap.size ∨ w0.heap.size + 4 ≤ y) ∧ y < w.heap.size
  kp : Kp [] w0 w
  bl : Li.Bl4 vs us w0.heap.size w.heap.size
section
variable {w0 w w' : World} {T G n N db dc db' dc' : Nat} {vs us us' : Nat → Value} {H H' : List Int} {R R' : Nat → List Int}
theorem bl_up {n m m' : Nat} (h : Li.Bl4 us us' n m) (hm : m ≤ m') : Li.Bl4 us us' n m' := fun d hd y hy => (h d hd y hy).imp id fun z => ⟨z.1, Nat.lt_of_lt_of_le z.2 hm⟩
theorem bl_trans {n n' m m' : Nat} {us'' : Nat → Value} (h : Li.Bl4 us us' n m) (k : Li.Bl4 us' us'' n' m') (hn : n ≤ n') (hm : m ≤ m') : Li.Bl4 us us'' n m' := fun d hd y hy => by
  rcases k d hd y hy with z | z
  · exact (bl_up h hm) d hd y z
  · exact .inr ⟨Nat.le_trans hn z.1, z.2⟩
theorem Mo.on (h : Mo Bz w0 vs T G n N db dc us H R w) (k : Kp [] w w') : Mo Bz w0 vs T G n N db dc us H R w' :=
  ⟨k.row (by simp) h.r5, k.row (by simp) h.r6, k.row (by simp) h.r10, k.row (by simp) h.r11, h.len, h.dh.on k, fun d hd => (h.rd d hd).keep0 k, fun d hd y hy => ⟨(h.lo d hd y hy).1, Nat.lt_of_lt_of_le (h.lo d hd y hy).2 k.size⟩, h.kp.trans k, bl_up h.bl k.size⟩
theorem Mo.lt4 (h : Mo Bz w0 vs T G n N db dc us H R w) : Li.Lt4 us w.heap.size := fun d hd y hy => (h.lo d hd y hy).2
theorem Mo.z (h : Mo Bz w0 vs T G n N db dc us H R w) : w0.heap.size + 4 ≤ w.heap.size := lt_of_block h.r11
/-- The heap's box has become another one's. -/
theorem Mo.heap (h : Mo Bz w0 vs T G n N db dc us H R w) (k : Kp [] w w') (hd : Dh Bz T G n db' dc' H' w') (hl : H'.length = N) : Mo Bz w0 vs T G n N db' dc' us H' R (put4v w' w0.heap.size (.slice (some ⟨db', 0, none⟩) N dc') (.int .i64 T) (.int .i64 G) (.int .i64 n)) := by
  have h1 := h.on k
  have kk := put4v_kp w' w0.heap.size (.slice (some ⟨db', 0, none⟩) N dc') (.int .i64 T) (.int .i64 G) (.int .i64 n)
  refine ⟨put4v_row _ _ _ _ h1.r5, kk.row (by simp) h1.r6, kk.row (by simp) h1.r10, kk.row (by simp) h1.r11, hl, hd.box h1.r5, fun d hd => (h1.rd d hd).keep kk fun g hg e => ?_, fun d hd y hy => ⟨(h1.lo d hd y hy).1, Nat.lt_of_lt_of_le (h1.lo d hd y hy).2 kk.size⟩, kp_new_set h1.kp kk (Nat.le_refl _), bl_up h1.bl kk.size⟩
  have := (h1.lo d hd g hg).1
  simp only [List.mem_singleton] at e
  omega
/-- The list's box has. -/
theorem heap_setRow_same {w : World} {b : Nat} {cs cs' : Array Value} {U : TypeId} (h : w.heap[b]? = some (.cells cs U (0, 0))) : (w.setRow b cs').heap[b]? = some (.cells cs' U (0, 0)) := by
  unfold World.setRow
  rw [Array.getElem?_modify, if_pos rfl, h]
  rfl
theorem setRow_kp (w : World) (b : Nat) (cs : Array Value) : Kp [b] w (w.setRow b cs) := (Kp.refl _ _).setRow (.inl (by simp)) cs
/-- The list's box, stored as a row. -/
theorem Mo.list' (h : Mo Bz w0 vs T G n N db dc us H R w) (k : Kp [] w w') (hr : Li.Rows4 w' us' R') (hb : Li.Bl4 us us' w.heap.size w'.heap.size) : Mo Bz w0 vs T G n N db dc us' H R' (w'.setRow (w0.heap.size + 1) #[us' 0, us' 1, us' 2, us' 3]) := by
  have h1 := h.on k
  have hz := h.z
  have kk := setRow_kp w' (w0.heap.size + 1) #[us' 0, us' 1, us' 2, us' 3]
  have hlo : ∀ d, d < 4 → ∀ y ∈ Li.blk (us' d), (y < w0.heap.size ∨ w0.heap.size + 4 ≤ y) ∧ y < w'.heap.size := fun d hd y hy => by
    rcases hb d hd y hy with z | z
    · exact h1.lo d hd y z
    · omega
  refine ⟨kk.row (by simp) h1.r5, heap_setRow_same h1.r6, kk.row (by simp) h1.r10, kk.row (by simp) h1.r11, h.len, ?_, fun d hd => (hr d hd).keep kk fun g hg e => ?_, fun d hd y hy => ⟨(hlo d hd y hy).1, Nat.lt_of_lt_of_le (hlo d hd y hy).2 kk.size⟩, kp_new_set h1.kp kk (by omega), bl_up (bl_trans h.bl hb (by omega) k.size) kk.size⟩
  · refine ⟨?_, h1.dh.len, h1.dh.top, h1.dh.ok, h1.dh.hT, h1.dh.hG, h1.dh.hn⟩
    refine Gx.Rw.keep h1.dh.ww kk fun g hg e => ?_
    simp only [List.mem_singleton] at e
    subst e
    obtain ⟨_, cur, hc⟩ := Gx.Rw.block h1.dh.ww _ hg
    rw [h1.r6] at hc
    simp at hc
  · have := (hlo d hd g hg).1
    simp only [List.mem_singleton] at e
    omega
/-- What it answers with lies in its boxes. -/
theorem Mo.fin0 (h : Mo Bz w0 vs T G n N db dc us H R w) (k : Kp [] w w') (hd : Dh Bz T G n db' dc' H' w') {W : World} (hW : W = (put4v (put4v w' (w0.heap.size + 2) (.slice (some ⟨db', 0, none⟩) N dc') (.int .i64 T) (.int .i64 G) (.int .i64 n)) (w0.heap.size + 3) (us 0) (us 1) (us 2) (us 3))) :
    W.heap[w0.heap.size + 2]? = some (.cells #[.slice (some ⟨db', 0, none⟩) N dc', .int .i64 T, .int .i64 G, .int .i64 n] 47 (0, 0)) ∧ W.heap[w0.heap.size + 3]? = some (.cells #[us 0, us 1, us 2, us 3] 98 (0, 0)) ∧ Dh Bz T G n db' dc' H' W ∧ Li.Rows4 W us R ∧ Kp [] w0 W ∧ Li.Bl4 vs us w0.heap.size W.heap.size := by
  have h1 := h.on k
  have hz := h.z
  have k1 := put4v_kp w' (w0.heap.size + 2) (.slice (some ⟨db', 0, none⟩) N dc') (.int .i64 T) (.int .i64 G) (.int .i64 n)
  have k2 := put4v_kp (put4v w' (w0.heap.size + 2) (.slice (some ⟨db', 0, none⟩) N dc') (.int .i64 T) (.int .i64 G) (.int .i64 n)) (w0.heap.size + 3) (us 0) (us 1) (us 2) (us 3)
  have k3 : Kp [] (put4v (put4v w' (w0.heap.size + 2) (.slice (some ⟨db', 0, none⟩) N dc') (.int .i64 T) (.int .i64 G) (.int .i64 n)) (w0.heap.size + 3) (us 0) (us 1) (us 2) (us 3)) W := by rw [hW]; exact Kp.refl _ _
  have r11 := k1.row (by simp) h1.r11
  have d1 := hd.box (v0 := .slice (some ⟨db', 0, none⟩) N dc') (v1 := .int .i64 T) (v2 := .int .i64 G) (v3 := .int .i64 n) h1.r10
  refine ⟨k3.row (by simp) (k2.row (by simp) (put4v_row _ _ _ _ h1.r10)), k3.row (by simp) (put4v_row _ _ _ _ r11), Dh.on ⟨?_, hd.len, hd.top, hd.ok, hd.hT, hd.hG, hd.hn⟩ k3, fun d hd' => Li.Rd.keep0 (((h1.rd d hd').keep k1 fun g hg e => ?_).keep k2 fun g hg e => ?_) k3, (kp_new_set (kp_new_set h1.kp k1 (by omega)) k2 (by omega)).trans k3, bl_up h1.bl (Nat.le_trans (Nat.le_trans k1.size k2.size) k3.size)⟩
  · refine Gx.Rw.keep d1.ww k2 fun g hg e => ?_
    simp only [List.mem_singleton] at e
    subst e
    obtain ⟨_, cur, hc⟩ := Gx.Rw.block d1.ww _ hg
    rw [r11] at hc
    simp at hc
  · have := (h1.lo d hd' g hg).1
    simp only [List.mem_singleton] at e
    omega
  · have := (h1.lo d hd' g hg).1
    simp only [List.mem_singleton] at e
    omega
/-- The same, behind a draw. -/
theorem Mo.fin (h : Mo Bz w0 vs T G n N db dc us H R w) (k : Kp [] w w') (hd : Dh Bz T G n db' dc' H' w') {W : World} (hW : W = (put4v (put4v w' (w0.heap.size + 2) (.slice (some ⟨db', 0, none⟩) N dc') (.int .i64 T) (.int .i64 G) (.int .i64 n)) (w0.heap.size + 3) (us 0) (us 1) (us 2) (us 3)).drew) :
    W.heap[w0.heap.size + 2]? = some (.cells #[.slice (some ⟨db', 0, none⟩) N dc', .int .i64 T, .int .i64 G, .int .i64 n] 47 (0, 0)) ∧ W.heap[w0.heap.size + 3]? = some (.cells #[us 0, us 1, us 2, us 3] 98 (0, 0)) ∧ Dh Bz T G n db' dc' H' W ∧ Li.Rows4 W us R ∧ Kp [] w0 W ∧ Li.Bl4 vs us w0.heap.size W.heap.size := by
  obtain ⟨f1, f2, f3, f4, f5, f6⟩ := h.fin0 k hd rfl
  have k3 : Kp [] (put4v (put4v w' (w0.heap.size + 2) (.slice (some ⟨db', 0, none⟩) N dc') (.int .i64 T) (.int .i64 G) (.int .i64 n)) (w0.heap.size + 3) (us 0) (us 1) (us 2) (us 3)) W := by rw [hW]; exact (Kp.refl _ _).drew
  exact ⟨k3.row (by simp) f1, k3.row (by simp) f2, f3.on k3, fun d hd' => (f4 d hd').keep0 k3, f5.trans k3, bl_up f6 k3.size⟩
def sl (a0 a1 a2 a3 : Option Addr) (l0 k0 l1 k1 l2 k2 l3 k3 : Nat) : Nat → Value
  | 0 => .slice a0 l0 k0
  | 1 => .slice a1 l1 k1
  | 2 => .slice a2 l2 k2
  | _ => .slice a3 l3 k3
/-- The list's cells are slices. -/
theorem Mo.slices (h : Mo Bz w0 vs T G n N db dc us H R w) : ∃ a0 a1 a2 a3 l0 k0 l1 k1 l2 k2 l3 k3, Mo Bz w0 vs T G n N db dc (sl a0 a1 a2 a3 l0 k0 l1 k1 l2 k2 l3 k3) H R w := by
  obtain ⟨a0, k0, e0, _⟩ := (h.rd 0 (by omega)).form
  obtain ⟨a1, k1, e1, _⟩ := (h.rd 1 (by omega)).form
  obtain ⟨a2, k2, e2, _⟩ := (h.rd 2 (by omega)).form
  obtain ⟨a3, k3, e3, _⟩ := (h.rd 3 (by omega)).form
  refine ⟨a0, a1, a2, a3, (Li.rev R 0).length, k0, (Li.rev R 1).length, k1, (Li.rev R 2).length, k2, (Li.rev R 3).length, k3, ?_⟩
  have hE : ∀ d, d < 4 → us d = sl a0 a1 a2 a3 (Li.rev R 0).length k0 (Li.rev R 1).length k1 (Li.rev R 2).length k2 (Li.rev R 3).length k3 d := fun d hd => by
    rcases Li.four hd with rfl | rfl | rfl | rfl
    · exact e0
    · exact e1
    · exact e2
    · exact e3
  have r6 := h.r6
  rw [hE 0 (by omega), hE 1 (by omega), hE 2 (by omega), hE 3 (by omega)] at r6
  exact ⟨h.r5, r6, h.r10, h.r11, h.len, h.dh, fun d hd => by rw [← hE d hd]; exact h.rd d hd, fun d hd => by rw [← hE d hd]; exact h.lo d hd, h.kp, fun d hd => by rw [← hE d hd]; exact h.bl d hd⟩
/-- What lies in a row, loaded. -/
theorem load_row {P : Program} {w : World} {g : Nat} {t ty : TypeId} {cs : Array Value} {d : TypeDesc} (hg : w.heap[g]? = some (.cells cs t (0, 0))) (hu : P.underlying ty = some d) (hd : (match d with | .struct _ | .array _ _ => true | _ => false) = true) (hi : (P.info? ty).map (·.size) = some cs.size) : (loadVar ty ⟨g, 0, none⟩).run P w = .ok (.agg cs) w :=
  run_loadVar_row w g t ty cs (0, 0) d hg hu hd hi
/-- A class's row of the list's box. -/
theorem Mo.len4 (h : Mo Bz w0 vs T G n N db dc us H R w) {c : Nat} (hc : c < 4) : ∃ ao cap, w.cell? ⟨w0.heap.size + 1, c, none⟩ = some (.slice ao (R c).length cap) := by
  obtain ⟨ao, cap, hu, _⟩ := (h.rd c hc).form
  refine ⟨ao, cap, ?_⟩
  rw [cell_of_row h.r6]
  have e : (Li.rev R c).length = (R c).length := by simp [Li.rev]
  rw [← e, ← hu]
  rcases Li.four hc with rfl | rfl | rfl | rfl <;> rfl
def mow (w : World) (db dc N T G n : Nat) (us : Nat → Value) : World := (((w.alloc (.cells #[.slice (some ⟨db, 0, none⟩) N dc, .int .i64 T, .int .i64 G, .int .i64 n] 47)).alloc (.cells #[us 0, us 1, us 2, us 3] 98)).alloc (.cells zH 47)).alloc (.cells zL 98)
theorem mo_new (h : Dh Bz T G n db dc H w) (hr : Li.Rows4 w us R) (hlt : Li.Lt4 us w.heap.size) : Mo Bz w us T G n H.length db dc us H R (mow w db dc H.length T G n us) := by
  have k : Kp [] w (mow w db dc H.length T G n us) := ((((Kp.refl _ _).alloc _).alloc _).alloc _).alloc _
  have z1 := World.size_alloc w (.cells #[.slice (some ⟨db, 0, none⟩) H.length dc, .int .i64 T, .int .i64 G, .int .i64 n] 47)
  have z2 := World.size_alloc (w.alloc (.cells #[.slice (some ⟨db, 0, none⟩) H.length dc, .int .i64 T, .int .i64 G, .int .i64 n] 47)) (.cells #[us 0, us 1, us 2, us 3] 98)
  have z3 := World.size_alloc ((w.alloc (.cells #[.slice (some ⟨db, 0, none⟩) H.length dc, .int .i64 T, .int .i64 G, .int .i64 n] 47)).alloc (.cells #[us 0, us 1, us 2, us 3] 98)) (.cells zH 47)
  have hzz : (mow w db dc H.length T G n us).heap.size = w.heap.size + 4 := by simp [mow]
  refine ⟨?_, ?_, ?_, ?_, rfl, h.on k, fun d hd => (hr d hd).keep0 k, fun d hd y hy => ?_, k, ?_⟩
  · exact ((((Kp.refl [] _).alloc _).alloc _).alloc _).row (by simp) (heap_alloc_new w _)
  · exact (((Kp.refl [] _).alloc _).alloc _).row (by simp) (by rw [← z1]; exact heap_alloc_new _ _)
  · exact ((Kp.refl [] _).alloc _).row (by simp) (by rw [show w.heap.size + 2 = w.heap.size + 1 + 1 from rfl, ← z1, ← z2]; exact heap_alloc_new _ _)
  · rw [show w.heap.size + 3 = w.heap.size + 1 + 1 + 1 from rfl, ← z1, ← z2, ← z3]; exact heap_alloc_new _ _
  · have := hlt d hd y hy; omega
  · exact Li.bl_refl _ _ _
end
end Go.Proofs.YtbpgkocbfleajaaGreatDoor

namespace Go.Proofs.YtbpgkocbfleajaaGreatDoor
set_option linter.unusedVariables false
set_option linter.unusedSimpArgs false
set_option maxRecDepth 100000
open Go.RowKit
variable {Bz : Nat}

/-- A run, as the document claims it; what it answers. -/
def claimD (H : List Int) (run : Nat) : List Int × Option Nat :=
  match frst (H.getD 0 0).toNat run with
  | some k => (H.set 0 (Bm.setN (H.getD 0 0).toNat k run false : Int), some k)
  | none => (H, none)
def bI : Option Nat → Int
  | some k => k
  | none => -1
section
variable {w w' : World} {T G n N db dc o c : Nat} {us : Nat → Value} {H : List Int} {R : Nat → List Int} {wk : Bool}
theorem claimD_len (run : Nat) : (claimD H run).1.length = H.length := by
  unfold claimD; split <;> simp
theorem dblocksH_eq (run : Nat) : dblocksH T G n o wk H run = if (claimD H run).2.isSome then claimD H run else if wk then claimD H run else claimD (waitH T G n o H n) run := by
  unfold dblocksH claimD
  cases hf : frst (H.getD 0 0).toNat run with
  | some k => simp
  | none => cases wk with
    | true => simp
    | false => simp only [Option.isSome_none, if_false, Bool.false_eq_true]; rfl
theorem d_claim (h : Dh Bz T G n db dc H w) (run : Nat) (hr : 1 ≤ run ∧ run ≤ 3) :
    Calls Tryz.prog 103 #[hV db dc H.length T G n, .int .i64 run] w fun e w' => ∃ b' c', e = .returned (.tuple #[hV b' c' H.length T G n, .int .i64 (bI (claimD H run).2)]) ∧ Dh Bz T G n b' c' (claimD H run).1 w' ∧ Kp [] w w' := by
  unfold claimD
  cases hf : frst (H.getD 0 0).toNat run with
  | none =>
    refine (d_claim_no h run hf).mono ?_
    rintro e w' ⟨rfl, k⟩
    exact ⟨db, dc, rfl, h.on k, k⟩
  | some k => exact d_claim_yes h run k hr hf
theorem claim_fit (h : Ivn T G n H) {run k : Nat} (h1 : 1 ≤ run) (hk : (claimD H run).2 = some k) : k + run ≤ n := by
  unfold claimD at hk
  cases hf : frst (H.getD 0 0).toNat run with
  | none => rw [hf] at hk; cases hk
  | some k' =>
    rw [hf] at hk
    cases hk
    exact frst_fit h h1 hf
/-- What lies at a place that is made; a large object's tails and its first entry. -/
def fitH (T G n o rf sz : Nat) (H : List Int) (a b run : Nat) : List Int :=
  if run = 0 then (clearH H a sz).set a (Wd.wordI 2 0 o rf sz false false) else (tailD T G b ((clearH H a sz).set a (Wd.wordI 2 0 o rf sz false false)) run).set (3 + T + G + b) (Tb.wordE 2 0 run o)
/-- What the document makes. -/
def dmakeS (T G n o : Nat) (wk : Bool) (rf sz : Nat) (s : Hs) : Hs × Int :=
  if Cl.runC sz = 0 then
    match (dcellS T G n o wk (Cl.ofC sz).toNat s).2 with
    | none => ((dcellS T G n o wk (Cl.ofC sz).toNat s).1, 0)
    | some x => ((fitH T G n o rf sz (dcellS T G n o wk (Cl.ofC sz).toNat s).1.1 x.toNat 0 0, (dcellS T G n o wk (Cl.ofC sz).toNat s).1.2), x)
  else
    match (dblocksH T G n o wk s.1 (Cl.runC sz).toNat).2 with
    | none => (((dblocksH T G n o wk s.1 (Cl.runC sz).toNat).1, s.2), 0)
    | some b => ((fitH T G n o rf sz (dblocksH T G n o wk s.1 (Cl.runC sz).toNat).1 (3 + T + G + n + 32 * b) b (Cl.runC sz).toNat, s.2), ((3 + T + G + n + 32 * b : Nat) : Int))
/-- What the document makes is what the program makes: a large object. -/
theorem large_same {run rf sz : Nat} {s : Hs} (hrun : Cl.runC sz = run) (h1 : 1 ≤ run) (hn : n ≤ 64) (h : Ivn T G n s.1) :
    (dmakeS T G n o wk rf sz s).1 = (largeS T G n o wk run rf sz s).1 ∧ (dmakeS T G n o wk rf sz s).2 = (largeS T G n o wk run rf sz s).2.getD 0 := by
  obtain ⟨e, i1, i2⟩ := blocks_inv (o := o) (wk := wk) h1 hn h
  unfold dmakeS largeS
  rw [if_neg (by omega), hrun, Int.toNat_natCast, ← e]
  cases hb : (blocksH T G n o wk s.1 run).2 with
  | none => exact ⟨rfl, rfl⟩
  | some b =>
    have hbr := i2 b hb
    simp only [fitH]
    rw [if_neg (by omega), large_words (rf := rf) h1 hbr]
    exact ⟨rfl, rfl⟩
theorem small_same {rf sz : Nat} {s : Hs} (hrun : Cl.runC sz = 0) (hcc : Cl.ofC sz = c) (hc : c < 4) (ho : o < 64) (hn : n ≤ 64) (h : Ivn T G n s.1) (hp : Pok T G n s.2) :
    (dmakeS T G n o wk rf sz s).1 = (smallS T G n o wk c rf sz s).1 ∧ (dmakeS T G n o wk rf sz s).2 = (smallS T G n o wk c rf sz s).2.getD 0 := by
  obtain ⟨e, _⟩ := cell_inv (wk := wk) hc ho hn h hp
  unfold dmakeS smallS
  rw [if_pos hrun, hcc, Int.toNat_natCast, ← e]
  cases hb : (cellS T G n o wk c s).2 with
  | none => simp [hb]
  | some x => simp [fitH]
end
section
variable {w0 w w' w'' : World} {T G n N db dc db' dc' B : Nat} {vs us us' : Nat → Value} {H H' : List Int} {R R' : Nat → List Int}
theorem Mo.list2 (h : Mo Bz w0 vs T G n N db dc us H R w) (k : Kp [] w w') (kk : Kp [w0.heap.size + 1] w' w'') (hrow : w''.heap[w0.heap.size + 1]? = some (.cells #[us' 0, us' 1, us' 2, us' 3] 98 (0, 0))) (hr : Li.Rows4 w' us' R') (hb : Li.Bl4 us us' B w'.heap.size) (hB : w0.heap.size + 4 ≤ B) : Mo Bz w0 vs T G n N db dc us' H R' w'' := by
  have h1 := h.on k
  have hlo : ∀ d, d < 4 → ∀ y ∈ Li.blk (us' d), (y < w0.heap.size ∨ w0.heap.size + 4 ≤ y) ∧ y < w'.heap.size := fun d hd y hy => by
    rcases hb d hd y hy with z | z
    · exact h1.lo d hd y z
    · omega
  refine ⟨kk.row (by simp) h1.r5, hrow, kk.row (by simp) h1.r10, kk.row (by simp) h1.r11, h.len, ?_, fun d hd => (hr d hd).keep kk fun g hg e => ?_, fun d hd y hy => ⟨(hlo d hd y hy).1, Nat.lt_of_lt_of_le (hlo d hd y hy).2 kk.size⟩, kp_new_set h1.kp kk (by omega), bl_up (bl_trans h.bl hb (by omega) k.size) kk.size⟩
  · refine ⟨?_, h1.dh.len, h1.dh.top, h1.dh.ok, h1.dh.hT, h1.dh.hG, h1.dh.hn⟩
    refine Gx.Rw.keep h1.dh.ww kk fun g hg e => ?_
    simp only [List.mem_singleton] at e
    subst e
    obtain ⟨_, cur, hc⟩ := Gx.Rw.block h1.dh.ww _ hg
    rw [h1.r6] at hc
    simp at hc
  · have := (hlo d hd g hg).1
    simp only [List.mem_singleton] at e
    omega
/-- Both boxes have become others'. -/
theorem Mo.both (h : Mo Bz w0 vs T G n N db dc us H R w) (k : Kp [] w w') (hd : Dh Bz T G n db' dc' H' w') (hl : H'.length = N) (hr : Li.Rows4 w' us' R') (hb : Li.Bl4 us us' w.heap.size w'.heap.size) : Mo Bz w0 vs T G n N db' dc' us' H' R' ((put4v w' w0.heap.size (.slice (some ⟨db', 0, none⟩) N dc') (.int .i64 T) (.int .i64 G) (.int .i64 n)).setRow (w0.heap.size + 1) #[us' 0, us' 1, us' 2, us' 3]) := by
  have hz := h.z
  have h1 := h.on k
  have kk := put4v_kp w' w0.heap.size (.slice (some ⟨db', 0, none⟩) N dc') (.int .i64 T) (.int .i64 G) (.int .i64 n)
  have M := h.heap k hd hl
  refine M.list2 (Kp.refl _ _) (setRow_kp _ _ _) (heap_setRow_same M.r6) (fun d hd' => (hr d hd').keep kk fun g hg e => ?_) (bl_up hb kk.size) hz
  have := hb d hd' g hg
  simp only [List.mem_singleton] at e
  rcases this with z | z
  · have := (h.lo d hd' g z).1
    omega
  · omega
end
theorem rows_slices {w : World} {us : Nat → Value} {R : Nat → List Int} (h : Li.Rows4 w us R) : ∃ a0 a1 a2 a3 l0 k0 l1 k1 l2 k2 l3 k3, ∀ d, d < 4 → us d = sl a0 a1 a2 a3 l0 k0 l1 k1 l2 k2 l3 k3 d := by
  obtain ⟨a0, k0, e0, _⟩ := (h 0 (by omega)).form
  obtain ⟨a1, k1, e1, _⟩ := (h 1 (by omega)).form
  obtain ⟨a2, k2, e2, _⟩ := (h 2 (by omega)).form
  obtain ⟨a3, k3, e3, _⟩ := (h 3 (by omega)).form
  refine ⟨a0, a1, a2, a3, (Li.rev R 0).length, k0, (Li.rev R 1).length, k1, (Li.rev R 2).length, k2, (Li.rev R 3).length, k3, fun d hd => ?_⟩
  rcases Li.four hd with rfl | rfl | rfl | rfl
  · exact e0
  · exact e1
  · exact e2
  · exact e3
theorem more_ok {T G n o c N : Nat} {wk : Bool} {H : List Int} {R : Nat → List Int} (hc : c < 4) (ho : o < 64) (hn : n ≤ 64) (h : Ivn T G n H) (hN : H.length = N) (hl : Lok N R) : Lok N (moreS T G n o c wk (H, R)).2 := by
  have hN' : 3 + T + G + 33 * n ≤ N := by have := h.len; omega
  have h1 : Ivn T G n (foundS T G n o c (H, R) n).1 := h.low (found_low n)
  have p1 : Lok N (foundS T G n o c (H, R) n).2 := foundS_ok (s := (H, R)) hc hN' hl n (Nat.le_refl n)
  unfold moreS
  split
  · have h2 := h1.tidy (o := o) (wk := wk) hn
    cases hf : frst ((tidyH T G n o wk (foundS T G n o c (H, R) n).1).getD 0 0).toNat 1 with
    | none => exact p1
    | some k =>
      have hk := frst_fit h2 (Nat.le_refl 1) hf
      exact pushS_ok hc (by omega) rfl hN' p1 _ (Nat.le_refl _)
  · exact p1
theorem more_len {T G n o c : Nat} {wk : Bool} {H : List Int} {R : Nat → List Int} : (moreS T G n o c wk (H, R)).1.length = H.length := by
  unfold moreS
  split
  · cases hf : frst ((tidyH T G n o wk (foundS T G n o c (H, R) n).1).getD 0 0).toNat 1 with
    | none => simp [tidyH_len, foundS_len]
    | some k => simp [cutS, markS_len, tidyH_len, foundS_len]
  · exact foundS_len n
/-- Three results, two of them in blocks. -/
theorem results_cell2_tmp {fn : Func} {p u v : Tmp} {ty tz : TypeId} (h : fn.results = #[.cell p ty, .cell u tz, .tmp v]) (tmps : Array Value) (P : Program) (w : World) (a b : Addr) (x y : Value) (hp : tmps.getD p undef = .pointer (some a)) (hu : tmps.getD u undef = .pointer (some b)) (hx : (loadVar ty a).run P w = .ok x w) (hy : (loadVar tz b).run P w = .ok y w) :
    (results fn tmps).run P w = .ok (.tuple #[x, y, tmps.getD v undef]) w := by
  rw [Array.getD_eq_getD_getElem?] at hp hu
  simp only [results, h]
  simp [Sem.run_bind, Result.andThen, hp, hu, asAddr, hx, hy]
theorem bodyPost_cell2_tmp {P : Program} {fn : Func} {R : Ending → World → Prop} {a : Act} {w : World} {p u v : Tmp} {ty tz : TypeId} (h : fn.results = #[.cell p ty, .cell u tz, .tmp v]) (b c : Addr) (x y z : Value) (hp : a.tmps.getD p undef = .pointer (some b)) (hu : a.tmps.getD u undef = .pointer (some c)) (hz : a.tmps.getD v undef = z) (hx : (loadVar ty b).run P w = .ok x w) (hy : (loadVar tz c).run P w = .ok y w) (hdef : a.defers = []) (hR : R (.returned (.tuple #[x, y, z])) w) : bodyPost P fn R .ret a w := by
  subst hz
  exact bodyPost_ret (results_cell2_tmp h a.tmps P w b c x y hp hu hx hy) hdef hR
end Go.Proofs.YtbpgkocbfleajaaGreatDoor

namespace Go.Proofs.YtbpgkocbfleajaaGreatDoor
set_option linter.unusedVariables false
set_option linter.unusedSimpArgs false
set_option maxRecDepth 100000
open Go.RowKit

/-- All owners' words and lists are fit. -/
structure Fit (T n : Nat) (H : List Int) (Rs : Nat → Nat → List Int) : Prop where
  iv : Ivn T 0 n H
  ls : ∀ i, i < T → Pok T 0 n (Rs i) ∧ Lok (3 + T + 33 * n) (Rs i)
def updO (Rs : Nat → Nat → List Int) (i : Nat) (R : Nat → List Int) : Nat → Nat → List Int := fun j => if j = i then R else Rs j
/-- What the program makes. -/
def pmakeS (T G n o : Nat) (wk : Bool) (rf sz : Nat) (s : Hs) : Hs × Option Int :=
  if Cl.runC sz = 0 then smallS T G n o wk (Cl.ofC sz).toNat rf sz s else largeS T G n o wk (Cl.runC sz).toNat rf sz s

section
variable {T G n o c N : Nat} {wk : Bool} {H H' : List Int} {R R' : Nat → List Int} {Rs : Nat → Nat → List Int}
theorem updO_same (i : Nat) : updO Rs i R i = R := if_pos rfl
theorem updO_ne {i j : Nat} (h : j ≠ i) : updO Rs i R j = Rs j := if_neg h
theorem Fit.len (h : Fit T n H Rs) : H.length = 3 + T + 33 * n := by have := h.iv.len; omega
theorem Fit.upd (h : Fit T n H Rs) {i : Nat} (hv : Ivn T 0 n H') (hp : Pok T 0 n R) (hl : Lok (3 + T + 33 * n) R) : Fit T n H' (updO Rs i R) := by
  refine ⟨hv, fun j hj => ?_⟩
  by_cases e : j = i
  · subst e; rw [updO_same]; exact ⟨hp, hl⟩
  · rw [updO_ne e]; exact h.ls j hj
theorem Fit.words (h : Fit T n H Rs) (hv : Ivn T 0 n H') : Fit T n H' Rs := ⟨hv, h.ls⟩
theorem Lok.drop (h : Lok N R) (f t : Int) : Lok N (Li.dropR R f t) := fun c hc => by
  unfold Li.dropR Li.Rk
  rw [if_pos hc]
  exact ⟨(h c hc).1.filter _, fun x hx => (h c hc).2 x (List.mem_filter.1 hx).1⟩
theorem Pok.drop (h : Pok T G n R) (f t : Int) : Pok T G n (Li.dropR R f t) := fun c hc x hx => by
  unfold Li.dropR Li.Rk at hx
  rw [if_pos hc] at hx
  exact h c hc x (List.mem_filter.1 hx).1
theorem dcell_ok (hc : c < 4) (ho : o < 64) (hn : n ≤ 64) (h : Ivn T G n H) (hN : H.length = N) (hl : Lok N R) : Lok N (dcellS T G n o wk c (H, R)).1.2 := by
  unfold dcellS
  split
  · exact (more_ok hc ho hn h hN hl).pop c
  · exact hl.pop c
/-- A size's class, or its blocks. -/
theorem size_ways (sz : Nat) (h : sz ≤ 95) : (Cl.runC sz = 0 ∧ ∃ c : Nat, c < 4 ∧ Cl.ofC sz = c ∧ (sz : Int) + 1 ≤ Cl.wdC c) ∨ ∃ run : Nat, 1 ≤ run ∧ run ≤ 3 ∧ Cl.runC sz = run ∧ sz + 1 ≤ 32 * run := by
  rcases Cl.run_ofs (sz : Int) with z | z | z | z | z
  · refine .inl ⟨z.2, ?_⟩
    rcases Cl.of_ofs (sz : Int) with y | y | y | y | y | y
    · omega
    · exact ⟨0, by omega, y.2.2, by have : Cl.wdC (0 : Nat) = 2 := by decide
                                    omega⟩
    · exact ⟨1, by omega, y.2, by have : Cl.wdC (1 : Nat) = 3 := by decide
                                  omega⟩
    · exact ⟨2, by omega, y.2.2, by have : Cl.wdC (2 : Nat) = 5 := by decide
                                    omega⟩
    · exact ⟨3, by omega, y.2.2, by have : Cl.wdC (3 : Nat) = 9 := by decide
                                    omega⟩
    · omega
  · exact .inr ⟨1, by omega, by omega, z.2.2, by omega⟩
  · exact .inr ⟨2, by omega, by omega, z.2.2, by omega⟩
  · exact .inr ⟨3, by omega, by omega, z.2.2, by omega⟩
  · omega
/-- What is made is as the document says; all stays fit; the place lies in a block. -/
theorem pmake_fit (h : Fit T n H Rs) {i rf sz : Nat} (hi : i < T) (hT : T ≤ 64) (hn : n ≤ 64) (hs : sz ≤ 95) :
    ((dmakeS T 0 n i wk rf sz (H, Rs i)).1 = (pmakeS T 0 n i wk rf sz (H, Rs i)).1 ∧ (dmakeS T 0 n i wk rf sz (H, Rs i)).2 = (pmakeS T 0 n i wk rf sz (H, Rs i)).2.getD 0) ∧
    Fit T n (pmakeS T 0 n i wk rf sz (H, Rs i)).1.1 (updO Rs i (pmakeS T 0 n i wk rf sz (H, Rs i)).1.2) ∧
    ∀ x, (pmakeS T 0 n i wk rf sz (H, Rs i)).2 = some x → ((3 + T + n : Nat) : Int) ≤ x ∧ x + sz < (3 + T + 33 * n : Nat) := by
  obtain ⟨hp, hl⟩ := h.ls i hi
  have hlen := h.len
  unfold pmakeS
  rcases size_ways sz hs with ⟨h0, c, hc, hcc, hw⟩ | ⟨run, h1, h3, hr, hw⟩
  · rw [if_pos h0, hcc, Int.toNat_natCast]
    have hl' : Lok H.length (Rs i) := by rw [hlen]; exact hl
    obtain ⟨a1, a2, a3⟩ := small_inv (wk := wk) (rf := rf) (s := (H, Rs i)) hc (show i < 64 by omega) hn hw h.iv hp hl'
    refine ⟨small_same (s := (H, Rs i)) h0 hcc hc (show i < 64 by omega) hn h.iv hp, h.upd a1 a2 ?_, fun x hx => by have := a3 x hx; omega⟩
    have hce := (cell_inv (wk := wk) (s := (H, Rs i)) hc (show i < 64 by omega) hn h.iv hp).1
    have hk := dcell_ok (wk := wk) (o := i) hc (by omega) hn h.iv hlen hl
    rw [← hce] at hk
    unfold smallS
    split <;> exact hk
  · rw [if_neg (by omega), hr, Int.toNat_natCast]
    obtain ⟨a1, a2, a3⟩ := large_inv (wk := wk) (rf := rf) (s := (H, Rs i)) h1 h3 (show i < 64 by omega) hn hw h.iv hp
    refine ⟨large_same (s := (H, Rs i)) hr h1 hn h.iv, h.upd a1 a2 ?_, fun x hx => by have := a3 x hx; omega⟩
    unfold largeS
    split <;> exact hl
/-- A made place is freed. -/
theorem Fit.free (h : Fit T n H Rs) {a : Nat} (ha : 3 + T + n ≤ a) (v : Int) : Fit T n (H.set a v) Rs := h.words (h.iv.low (Low.set (by omega) v))
/-- A block waits. -/
theorem Fit.waits (h : Fit T n H Rs) {i b : Nat} (hi : i < T) (hT : T ≤ 64) (hb : b < n) (f t : Int) : Fit T n (H.set (3 + T + 0 + b) (Tb.wordE 4 0 0 i)) (updO Rs i (Li.dropR (Rs i) f t)) :=
  h.upd (h.iv.entry b hb (by rw [ek_word (by omega) (by omega) (by omega) (by omega) (Tb.mayE_iff.2 (by omega))]; omega)) ((h.ls i hi).1.drop f t) ((h.ls i hi).2.drop f t)
/-- The beginning. -/
theorem fit_begin (T n : Nat) (hn : n ≤ 12) : Fit T n ((List.replicate (3 + T + 33 * n) (0 : Int)).set 0 ((2 ^ n - 1 : Nat) : Int)) (fun _ _ => []) := by
  refine ⟨⟨by simp, fun b hb => ?_, fun i hi => ?_⟩, fun i hi => ⟨fun c hc x hx => by simp at hx, fun c hc => ⟨List.nodup_nil, fun x hx => by simp at hx⟩⟩⟩
  · rw [getD_set', if_pos ⟨rfl, by rw [List.length_replicate]; omega⟩, Int.toNat_natCast] at hb
    refine Nat.lt_of_not_le fun hle => ?_
    have : (2 ^ n - 1).testBit b = false := Nat.testBit_lt_two_pow (Nat.lt_of_lt_of_le (Nat.sub_lt (Nat.two_pow_pos n) (by decide)) (Nat.pow_le_pow_right (by decide) hle))
    rw [this] at hb; cases hb
  · rw [getD_set', if_neg (by omega)]
    have : (List.replicate (3 + T + 33 * n) (0 : Int)).getD (3 + T + 0 + i) 0 = 0 := by
      rw [List.getD_eq_getElem?_getD, List.getElem?_replicate]
      split <;> rfl
    rw [this, ek_zero]; omega
end
end Go.Proofs.YtbpgkocbfleajaaGreatDoor

namespace Go.Proofs.YtbpgkocbfleajaaGreatDoor
open List renaming setIfInBounds_toArray → siA, set_cons_succ → scS, set_cons_zero → scZ
set_option linter.unusedVariables false
set_option linter.unusedSimpArgs false
set_option maxRecDepth 100000
open Go.RowKit

section
variable {T G n p r q t o a : Nat} {wk : Bool} {hd : Value} {vs vs' vs'' : Nat → Value} {H : List Int} {R : Nat → List Int} {w w0 w1 w2 wx wy : World} {Sh : List Nat} {P : Nat → World → Prop}
set_option maxHeartbeats 16000000 in
theorem make_large (h : Mw T G n p r q vs H R t w) (ht : t ≤ 300000) (hoT : o < T) (run rf sz : Nat) (hrun : Cl.runC sz = run) (hr : rf ≤ sz) (h9 : 9 ≤ sz) (h95 : sz ≤ 95) (ho2 : HoldOk T G n p r q o wk hd vs w Sh P) :
    Calls Tryz.prog 27 #[mkV T G n p q o wk hd, .int .i64 rf, .int .i64 sz] w fun e w' => e = .returned (.tuple #[.int .i64 ((largeS T G n o wk run rf sz (H, R)).2.getD 0), .int .i64 (erM (largeS T G n o wk run rf sz (H, R)).2)]) ∧ ∃ vs', Mw T G n p r q vs' (largeS T G n o wk run rf sz (H, R)).1.1 (largeS T G n o wk run rf sz (H, R)).1.2 (t + 5 * n + 110) w' ∧ Mh Sh p r q vs vs' w w' ∧ Tp Sh P (largeS T G n o wk run rf sz (H, R)).2 w w' := by
  have hT := Lib.hid (fun w => Ly.threads_is T G n w)
  have hf := h.fit
  have HOf := Lib.hid (fun w (tb : Cl.Tab w) => Cl.of_no w tb sz (by
    rcases Cl.of_ofs (sz : Int) with h | h | h | h | h | h <;> omega))
  have HSm : Hid (∀ w1, Kp [] w w1 → Calls Tryz.prog 59 #[mkV T G n p q o wk hd, .agg #[.int .u8 2, .int .u8 0, .bool false, .bool false, .int .u8 o, .int .u8 rf, .int .u8 sz]] w1 fun e w' => e = .returned (.tuple #[.int .i64 ((largeS T G n o wk run rf sz (H, R)).2.getD 0), .int .i64 (erM (largeS T G n o wk run rf sz (H, R)).2)]) ∧ ∃ vs', Mw T G n p r q vs' (largeS T G n o wk run rf sz (H, R)).1.1 (largeS T G n o wk run rf sz (H, R)).1.2 (t + 5 * n + 110) w' ∧ Mh Sh p r q vs vs' w w' ∧ Tp Sh P (largeS T G n o wk run rf sz (H, R)).2 w w') := by
    refine Lib.hid fun w1 k => (a_large (h.on k) ht (by omega) run rf sz hrun hr h9 h95 (ho2.on (Mk.of_kp k (by simp)))).mono ?_
    rintro e w' ⟨h1, v, h2, h3, h4⟩
    exact ⟨h1, v, h2, (Mh.of_mk (Mk.of_kp k (by simp))).trans h3, h4.pre k⟩
  have HTb : Hid (∀ w1, Kp [] w w1 → Cl.Tab w1) := Lib.hid fun w1 k => (h.on k).tab
  have KB : Hid (∀ w', Kp [] (mkW w T G n p q o wk hd) w' → Kp [] w w') := Lib.hid fun w' k => (mkW_kp w T G n p q o wk hd).trans k
  have HS0 := Lib.hid (ms_of (F := Kp [] (mkW w T G n p q o wk hd)) (mkW_row w T G n p q o wk hd) (Kp.refl _ _))
  have hc1 : ¬ ((T : Int) ≤ o) := by omega
  have hc2 : ¬ ((rf : Int) < 0) := by omega
  have hc3 : ¬ ((sz : Int) < rf) := by omega
  have hc4 : ¬ (95 < (sz : Int)) := by omega
  have ew := IntWalk.i64_in (o : Int) (by omega)
  have hd1 : decide (T ≤ o) = false := by simp; omega
  have hd2 : decide ((rf : Int) < 0) = false := by simp
  have hd3 : decide (sz < rf) = false := by simp; omega
  have hd4 : decide (95 < (sz : Int)) = false := by simp; omega
  clear hc1 hc2 hc3 hc4
  have hc5 : ((rf : Int) % 256) = rf := by omega
  have hc6 : ((sz : Int) % 256) = sz := by omega
  unfold mkW mkC at KB HS0
  generalize largeS T G n o wk run rf sz (H, R) = fin at HSm ⊢
  clear h ht hoT hrun hr h9 h95 ho2 hf
  go_enter Tryz.func27, Tryz.ntmps27
  go_wp2_with fail
  go_region_held3 (fun wx => wx.cell? ⟨w.heap.size, 0, none⟩ = some (.iface 38 (.pointer (some ⟨p, 0, none⟩))) ∧ wx.cell? ⟨w.heap.size, 1, none⟩ = some (.int .i64 T) ∧ wx.cell? ⟨w.heap.size, 2, none⟩ = some (.int .i64 G) ∧ wx.cell? ⟨w.heap.size, 3, none⟩ = some (.int .i64 n) ∧ wx.cell? ⟨w.heap.size, 4, none⟩ = some (.int .u8 o) ∧ wx.cell? ⟨w.heap.size, 5, none⟩ = some (.pointer (some ⟨q, 0, none⟩)) ∧ wx.cell? ⟨w.heap.size, 6, none⟩ = some (.bool wk) ∧ wx.cell? ⟨w.heap.size, 7, none⟩ = some hd ∧ Kp [] (mkW w T G n p q o wk hd) wx)
    (first
      | assumption
      | exact ms_keep HS0.out ((Kp.refl [] _).drew) (by simp) (fun k => k.trans ((Kp.refl [] _).drew))
      | exact ms_keep ‹Ms w.heap.size T G n p q o wk hd (Kp [] (mkW w T G n p q o wk hd)) _› hk9 (by simp) (fun k => k.trans hk9))
    (first
    | (go_at_call 47
       refine (hT.out _).mono ?_
       rintro e w4 ⟨rfl, hk9⟩))
  all_goals
    rename_i hHeld
    obtain ⟨r0, r1, r2, r3, r4, r5, r6, r7, hk4⟩ := hHeld
    have hrow4 := hk4.row (by simp) (mkW_row w T G n p q o wk hd)
    have K4 := Lib.hid (KB.out _ hk4)
    have kA : Kp [] w4 (w4.alloc (.cells #[.int .u8 2, .int .u8 0, .bool false, .bool false, .int .u8 o, .int .u8 rf, .int .u8 sz] 75)) := (Kp.refl _ _).alloc _
    have K5 := Lib.hid (K4.out.trans kA)
    have hrow5 := kA.row (by simp) hrow4
    obtain ⟨s0, s1, s2, s3, s4, s5, s6, s7, -⟩ := ms_of (F := fun _ => True) hrow5 trivial
    have HOf5 := Lib.hid (HOf.out _ (HTb.out _ K5.out))
    have HSm5 := Lib.hid (HSm.out _ K5.out)
    clear hk4 hrow4 kA hrow5 HOf HSm hk9
    go_wp2_with fail
    refine HOf5.out.mono ?_
    rintro e w6 ⟨rfl, rfl⟩
    go_wp2_with fail
    refine HSm5.out.mono ?_
    rintro e w7 ⟨rfl, h7⟩
    have H7 := Lib.hid h7
    clear h7
    go_wp2_with fail
    go_ret2
    exact ⟨rfl, H7.out⟩
set_option maxHeartbeats 4000000 in
/-- References below 0. -/
theorem make_refs (rf sz : Int) (hoB : o ≤ 255) (h1 : o < T) (h2 : rf < 0) (w : World) :
    Calls Tryz.prog 27 #[mkV T G n p q o wk hd, .int .i64 rf, .int .i64 sz] w fun e w' => e = .returned (.tuple #[.int .i64 0, .int .i64 2]) ∧ Kp [] w w' := by
  have hT := Lib.hid (fun w => Ly.threads_is T G n w)
  have KB : Hid (∀ w', Kp [] (mkW w T G n p q o wk hd) w' → Kp [] w w') := Lib.hid fun w' k => (mkW_kp w T G n p q o wk hd).trans k
  have HS0 : Hid ((mkW w T G n p q o wk hd).drew.cell? ⟨w.heap.size, 1, none⟩ = some (.int .i64 T) ∧ (mkW w T G n p q o wk hd).drew.cell? ⟨w.heap.size, 2, none⟩ = some (.int .i64 G) ∧ (mkW w T G n p q o wk hd).drew.cell? ⟨w.heap.size, 3, none⟩ = some (.int .i64 n) ∧ (mkW w T G n p q o wk hd).drew.cell? ⟨w.heap.size, 4, none⟩ = some (.int .u8 o)) :=
    have hr := mkW_row w T G n p q o wk hd
    Lib.hid ⟨cell_of_row hr 1, cell_of_row hr 2, cell_of_row hr 3, cell_of_row hr 4⟩
  have ew := IntWalk.i64_in (o : Int) (by omega)
  have hd1 : decide (T ≤ o) = false := by simp; omega
  have hd2 : decide (rf < 0) = true := by simp; omega
  unfold mkW mkC at KB HS0
  clear hoB h1 h2
  go_enter Tryz.func27, Tryz.ntmps27
  go_wp2_with fail
  refine wp_region_held_drew (S := (fun w' => w'.cell? ⟨w.heap.size, 1, none⟩ = some (.int .i64 T) ∧ w'.cell? ⟨w.heap.size, 2, none⟩ = some (.int .i64 G) ∧ w'.cell? ⟨w.heap.size, 3, none⟩ = some (.int .i64 n) ∧ w'.cell? ⟨w.heap.size, 4, none⟩ = some (.int .u8 o))) (by kernel_rfl) ?_ (fun hHeld => ?_)
  · exact HS0.out
  refine wpAnyH_take (i := 0) (v := ?_) rfl (by kernel_rfl) (by kernel_rfl) (by kernel_rfl) (fun _ _ _ h => h) (Or.inl ⟨by rfl, ?hy⟩) (by assumption) ?_
  case hy => (intro w hSw; (try dsimp only at hSw); go_simp; try with_reducible rfl)
  try simp only [Act.put, siA, scZ, scS]
  refine wpAnyH_take (i := 1) (v := ?_) rfl (by kernel_rfl) (by kernel_rfl) (by kernel_rfl) (fun _ _ _ h => h) (Or.inl ⟨by rfl, ?hy⟩) (by assumption) ?_
  case hy => (intro w hSw; (try dsimp only at hSw); go_simp; try with_reducible rfl)
  try simp only [Act.put, siA, scZ, scS]
  refine wpAnyH_take (i := 2) (v := ?_) rfl (by kernel_rfl) (by kernel_rfl) (by kernel_rfl) (fun _ _ _ h => h) (Or.inl ⟨by rfl, ?hy⟩) (by assumption) ?_
  case hy => (intro w hSw; (try dsimp only at hSw); go_simp; try with_reducible rfl)
  try simp only [Act.put, siA, scZ, scS]
  refine wpAnyH_take (i := 3) (v := ?_) rfl (by kernel_rfl) (by kernel_rfl) (by kernel_rfl) (fun _ _ _ h => h) (Or.inl ⟨by rfl, ?hy⟩) (by assumption) ?_
  case hy => (intro w hSw; (try dsimp only at hSw); go_simp; try with_reducible rfl)
  try simp only [Act.put, siA, scZ, scS]
  refine wpAnyH_take (i := 4) (v := ?_) rfl (by kernel_rfl) (by kernel_rfl) (by kernel_rfl) (fun _ _ _ h => h) (Or.inl ⟨by rfl, ?hy⟩) (by assumption) ?_
  case hy => (intro w hSw; (try dsimp only at hSw); go_simp; try with_reducible rfl)
  try simp only [Act.put, siA, scZ, scS]
  refine wpAnyH_ready (rs := [5]) (by kernel_rfl) (by simp) ?_
  refine AllReadyH.cons rfl (fun K hK => ?_) AllReadyH.nil
  go_simp
  refine (hT.out _).mono ?_
  rintro e w4 ⟨rfl, hk9⟩
  have K4 : Hid (Kp [] w w4) := Lib.hid (KB.out _ (by refine Kp.trans ?_ hk9; exact ⟨rfl, rfl, rfl, Nat.le_refl _, fun _ _ _ => rfl⟩))
  refine hK.out _ _ ?_ (fun hHeld2 => ?_)
  · exact ⟨kp_cell hk9 (by simp) hHeld.1, kp_cell hk9 (by simp) hHeld.2.1, kp_cell hk9 (by simp) hHeld.2.2.1, kp_cell hk9 (by simp) hHeld.2.2.2⟩
  clear hK K hHeld
  have hHeld := hHeld2
  clear hHeld2
  try simp only [Act.put, siA, scZ, scS]
  clear hk9
  refine wpAnyH_take (i := 6) (v := ?_) rfl (by kernel_rfl) (by kernel_rfl) (by kernel_rfl) (fun _ _ _ h => h) (Or.inl ⟨by rfl, ?hy⟩) (by assumption) ?_
  case hy => (intro w hSw; (try dsimp only at hSw); go_simp; try with_reducible rfl)
  try simp only [Act.put, siA, scZ, scS]
  refine wpAnyH_take (i := 7) (v := ?_) rfl (by kernel_rfl) (by kernel_rfl) (by kernel_rfl) (fun _ _ _ h => h) (Or.inl ⟨by rfl, ?hy⟩) (by assumption) ?_
  case hy => (intro w hSw; (try dsimp only at hSw); go_simp; try with_reducible rfl)
  try simp only [Act.put, siA, scZ, scS]
  refine wpAnyH_take (i := 8) (v := ?_) rfl (by kernel_rfl) (by kernel_rfl) (by kernel_rfl) (fun _ _ _ h => h) (Or.inl ⟨by rfl, ?hy⟩) (by assumption) ?_
  case hy => (intro w hSw; (try dsimp only at hSw); go_simp; try with_reducible rfl)
  try simp only [Act.put, siA, scZ, scS]
  refine wpAnyH_take (i := 9) (v := ?_) rfl (by kernel_rfl) (by kernel_rfl) (by kernel_rfl) (fun _ _ _ h => h) (Or.inl ⟨by rfl, ?hy⟩) (by assumption) ?_
  case hy => (intro w hSw; (try dsimp only at hSw); go_simp; try with_reducible rfl)
  try simp only [Act.put, siA, scZ, scS]
  refine wpAnyH_take (i := 10) (v := ?_) rfl (by kernel_rfl) (by kernel_rfl) (by kernel_rfl) (fun _ _ _ h => h) (Or.inl ⟨by rfl, ?hy⟩) (by assumption) ?_
  case hy => (intro w hSw; (try dsimp only at hSw); go_simp; try with_reducible rfl)
  try simp only [Act.put, siA, scZ, scS]
  refine wpAnyH_take (i := 11) (v := ?_) rfl (by kernel_rfl) (by kernel_rfl) (by kernel_rfl) (fun _ _ _ h => h) (Or.inl ⟨by rfl, ?hy⟩) (by assumption) ?_
  case hy => (intro w hSw; (try dsimp only at hSw); go_simp; try with_reducible rfl)
  try simp only [Act.put, siA, scZ, scS]
  refine wpAnyH_ready (rs := [12, 13]) (by kernel_rfl) (by simp) ?_
  refine AllReadyH.cons rfl (fun K hK => ?_) (AllReadyH.cons rfl (fun K hK => ?_) AllReadyH.nil)
  ·   go_simp
      refine hK.out _ _ ?_ (fun hHeld2 => ?_)
      · exact hHeld
      clear hK K hHeld
      have hHeld := hHeld2
      clear hHeld2
      try simp only [Act.put, siA, scZ, scS]
      refine wpAnyH_ready (rs := [13]) (by kernel_rfl) (by simp) ?_
      refine AllReadyH.cons rfl (fun K hK => ?_) AllReadyH.nil
      go_simp
      refine hK.out _ _ ?_ (fun hHeld2 => ?_)
      · exact hHeld
      clear hK K hHeld
      have hHeld := hHeld2
      clear hHeld2
      try simp only [Act.put, siA, scZ, scS]
      refine wpAnyH_ready (rs := [14]) (by kernel_rfl) (by simp) ?_
      refine AllReadyH.cons rfl (fun K hK => ?_) AllReadyH.nil
      go_simp
      refine hK.out _ _ ?_ (fun hHeld2 => ?_)
      · exact hHeld
      clear hK K hHeld
      have hHeld := hHeld2
      clear hHeld2
      try simp only [Act.put, siA, scZ, scS]
      refine wpAnyH_take (i := 15) (v := ?_) rfl (by kernel_rfl) (by kernel_rfl) (by kernel_rfl) (fun _ _ _ h => h) (Or.inl ⟨by rfl, ?hy⟩) (by assumption) ?_
      case hy => (intro w hSw; (try dsimp only at hSw); go_simp; try with_reducible rfl)
      try simp only [Act.put, siA, scZ, scS]
      refine wpAnyH_take (i := 16) (v := ?_) rfl (by kernel_rfl) (by kernel_rfl) (by kernel_rfl) (fun _ _ _ h => h) (Or.inl ⟨by rfl, ?hy⟩) (by assumption) ?_
      case hy => (intro w hSw; (try dsimp only at hSw); go_simp; try with_reducible rfl)
      try simp only [Act.put, siA, scZ, scS]
      refine wpAnyH_ready (rs := [17]) (by kernel_rfl) (by simp) ?_
      refine AllReadyH.cons rfl (fun K hK => ?_) AllReadyH.nil
      go_simp
      refine hK.out _ _ ?_ (fun hHeld2 => ?_)
      · exact hHeld
      clear hK K hHeld
      have hHeld := hHeld2
      clear hHeld2
      try simp only [Act.put, siA, scZ, scS]
      refine wpAnyH_ready (rs := [18]) (by kernel_rfl) (by simp) ?_
      refine AllReadyH.cons rfl (fun K hK => ?_) AllReadyH.nil
      go_simp
      refine hK.out _ _ ?_ (fun hHeld2 => ?_)
      · exact hHeld
      clear hK K hHeld
      have hHeld := hHeld2
      clear hHeld2
      try simp only [Act.put, siA, scZ, scS]
      refine wpAnyH_take (i := 19) (v := ?_) rfl (by kernel_rfl) (by kernel_rfl) (by kernel_rfl) (fun _ _ _ h => h) (Or.inl ⟨by rfl, ?hy⟩) (by assumption) ?_
      case hy => (intro w hSw; (try dsimp only at hSw); go_simp; try with_reducible rfl)
      try simp only [Act.put, siA, scZ, scS]
      refine wpAnyH_done (by kernel_rfl) ?_ _
      go_wp2_with fail
      go_ret2
      exact ⟨rfl, K4.out⟩
  ·   go_simp
      refine hK.out _ _ ?_ (fun hHeld2 => ?_)
      · exact hHeld
      clear hK K hHeld
      have hHeld := hHeld2
      clear hHeld2
      try simp only [Act.put, siA, scZ, scS]
      refine wpAnyH_ready (rs := [12]) (by kernel_rfl) (by simp) ?_
      refine AllReadyH.cons rfl (fun K hK => ?_) AllReadyH.nil
      go_simp
      refine hK.out _ _ ?_ (fun hHeld2 => ?_)
      · exact hHeld
      clear hK K hHeld
      have hHeld := hHeld2
      clear hHeld2
      try simp only [Act.put, siA, scZ, scS]
      refine wpAnyH_ready (rs := [14]) (by kernel_rfl) (by simp) ?_
      refine AllReadyH.cons rfl (fun K hK => ?_) AllReadyH.nil
      go_simp
      refine hK.out _ _ ?_ (fun hHeld2 => ?_)
      · exact hHeld
      clear hK K hHeld
      have hHeld := hHeld2
      clear hHeld2
      try simp only [Act.put, siA, scZ, scS]
      refine wpAnyH_take (i := 15) (v := ?_) rfl (by kernel_rfl) (by kernel_rfl) (by kernel_rfl) (fun _ _ _ h => h) (Or.inl ⟨by rfl, ?hy⟩) (by assumption) ?_
      case hy => (intro w hSw; (try dsimp only at hSw); go_simp; try with_reducible rfl)
      try simp only [Act.put, siA, scZ, scS]
      refine wpAnyH_take (i := 16) (v := ?_) rfl (by kernel_rfl) (by kernel_rfl) (by kernel_rfl) (fun _ _ _ h => h) (Or.inl ⟨by rfl, ?hy⟩) (by assumption) ?_
      case hy => (intro w hSw; (try dsimp only at hSw); go_simp; try with_reducible rfl)
      try simp only [Act.put, siA, scZ, scS]
      refine wpAnyH_ready (rs := [17]) (by kernel_rfl) (by simp) ?_
      refine AllReadyH.cons rfl (fun K hK => ?_) AllReadyH.nil
      go_simp
      refine hK.out _ _ ?_ (fun hHeld2 => ?_)
      · exact hHeld
      clear hK K hHeld
      have hHeld := hHeld2
      clear hHeld2
      try simp only [Act.put, siA, scZ, scS]
      refine wpAnyH_ready (rs := [18]) (by kernel_rfl) (by simp) ?_
      refine AllReadyH.cons rfl (fun K hK => ?_) AllReadyH.nil
      go_simp
      refine hK.out _ _ ?_ (fun hHeld2 => ?_)
      · exact hHeld
      clear hK K hHeld
      have hHeld := hHeld2
      clear hHeld2
      try simp only [Act.put, siA, scZ, scS]
      refine wpAnyH_take (i := 19) (v := ?_) rfl (by kernel_rfl) (by kernel_rfl) (by kernel_rfl) (fun _ _ _ h => h) (Or.inl ⟨by rfl, ?hy⟩) (by assumption) ?_
      case hy => (intro w hSw; (try dsimp only at hSw); go_simp; try with_reducible rfl)
      try simp only [Act.put, siA, scZ, scS]
      refine wpAnyH_done (by kernel_rfl) ?_ _
      go_wp2_with fail
      go_ret2
      exact ⟨rfl, K4.out⟩

set_option maxHeartbeats 4000000 in
/-- References above the size. -/
theorem make_more (rf sz : Int) (hoB : o ≤ 255) (h1 : o < T) (h2 : 0 ≤ rf) (h3 : sz < rf) (w : World) :
    Calls Tryz.prog 27 #[mkV T G n p q o wk hd, .int .i64 rf, .int .i64 sz] w fun e w' => e = .returned (.tuple #[.int .i64 0, .int .i64 2]) ∧ Kp [] w w' := by
  have hT := Lib.hid (fun w => Ly.threads_is T G n w)
  have KB : Hid (∀ w', Kp [] (mkW w T G n p q o wk hd) w' → Kp [] w w') := Lib.hid fun w' k => (mkW_kp w T G n p q o wk hd).trans k
  have HS0 : Hid ((mkW w T G n p q o wk hd).drew.cell? ⟨w.heap.size, 1, none⟩ = some (.int .i64 T) ∧ (mkW w T G n p q o wk hd).drew.cell? ⟨w.heap.size, 2, none⟩ = some (.int .i64 G) ∧ (mkW w T G n p q o wk hd).drew.cell? ⟨w.heap.size, 3, none⟩ = some (.int .i64 n) ∧ (mkW w T G n p q o wk hd).drew.cell? ⟨w.heap.size, 4, none⟩ = some (.int .u8 o)) :=
    have hr := mkW_row w T G n p q o wk hd
    Lib.hid ⟨cell_of_row hr 1, cell_of_row hr 2, cell_of_row hr 3, cell_of_row hr 4⟩
  have ew := IntWalk.i64_in (o : Int) (by omega)
  have hd1 : decide (T ≤ o) = false := by simp; omega
  have hd2 : decide (rf < 0) = false := by simp; omega
  have hd3 : decide (sz < rf) = true := by simp; omega
  unfold mkW mkC at KB HS0
  clear hoB h1 h2 h3
  go_enter Tryz.func27, Tryz.ntmps27
  go_wp2_with fail
  refine wp_region_held_drew (S := (fun w' => w'.cell? ⟨w.heap.size, 1, none⟩ = some (.int .i64 T) ∧ w'.cell? ⟨w.heap.size, 2, none⟩ = some (.int .i64 G) ∧ w'.cell? ⟨w.heap.size, 3, none⟩ = some (.int .i64 n) ∧ w'.cell? ⟨w.heap.size, 4, none⟩ = some (.int .u8 o))) (by kernel_rfl) ?_ (fun hHeld => ?_)
  · exact HS0.out
  refine wpAnyH_take (i := 0) (v := ?_) rfl (by kernel_rfl) (by kernel_rfl) (by kernel_rfl) (fun _ _ _ h => h) (Or.inl ⟨by rfl, ?hy⟩) (by assumption) ?_
  case hy => (intro w hSw; (try dsimp only at hSw); go_simp; try with_reducible rfl)
  try simp only [Act.put, siA, scZ, scS]
  refine wpAnyH_take (i := 1) (v := ?_) rfl (by kernel_rfl) (by kernel_rfl) (by kernel_rfl) (fun _ _ _ h => h) (Or.inl ⟨by rfl, ?hy⟩) (by assumption) ?_
  case hy => (intro w hSw; (try dsimp only at hSw); go_simp; try with_reducible rfl)
  try simp only [Act.put, siA, scZ, scS]
  refine wpAnyH_take (i := 2) (v := ?_) rfl (by kernel_rfl) (by kernel_rfl) (by kernel_rfl) (fun _ _ _ h => h) (Or.inl ⟨by rfl, ?hy⟩) (by assumption) ?_
  case hy => (intro w hSw; (try dsimp only at hSw); go_simp; try with_reducible rfl)
  try simp only [Act.put, siA, scZ, scS]
  refine wpAnyH_take (i := 3) (v := ?_) rfl (by kernel_rfl) (by kernel_rfl) (by kernel_rfl) (fun _ _ _ h => h) (Or.inl ⟨by rfl, ?hy⟩) (by assumption) ?_
  case hy => (intro w hSw; (try dsimp only at hSw); go_simp; try with_reducible rfl)
  try simp only [Act.put, siA, scZ, scS]
  refine wpAnyH_take (i := 4) (v := ?_) rfl (by kernel_rfl) (by kernel_rfl) (by kernel_rfl) (fun _ _ _ h => h) (Or.inl ⟨by rfl, ?hy⟩) (by assumption) ?_
  case hy => (intro w hSw; (try dsimp only at hSw); go_simp; try with_reducible rfl)
  try simp only [Act.put, siA, scZ, scS]
  refine wpAnyH_ready (rs := [5]) (by kernel_rfl) (by simp) ?_
  refine AllReadyH.cons rfl (fun K hK => ?_) AllReadyH.nil
  go_simp
  refine (hT.out _).mono ?_
  rintro e w4 ⟨rfl, hk9⟩
  have K4 : Hid (Kp [] w w4) := Lib.hid (KB.out _ (by refine Kp.trans ?_ hk9; exact ⟨rfl, rfl, rfl, Nat.le_refl _, fun _ _ _ => rfl⟩))
  refine hK.out _ _ ?_ (fun hHeld2 => ?_)
  · exact ⟨kp_cell hk9 (by simp) hHeld.1, kp_cell hk9 (by simp) hHeld.2.1, kp_cell hk9 (by simp) hHeld.2.2.1, kp_cell hk9 (by simp) hHeld.2.2.2⟩
  clear hK K hHeld
  have hHeld := hHeld2
  clear hHeld2
  try simp only [Act.put, siA, scZ, scS]
  clear hk9
  refine wpAnyH_take (i := 6) (v := ?_) rfl (by kernel_rfl) (by kernel_rfl) (by kernel_rfl) (fun _ _ _ h => h) (Or.inl ⟨by rfl, ?hy⟩) (by assumption) ?_
  case hy => (intro w hSw; (try dsimp only at hSw); go_simp; try with_reducible rfl)
  try simp only [Act.put, siA, scZ, scS]
  refine wpAnyH_take (i := 7) (v := ?_) rfl (by kernel_rfl) (by kernel_rfl) (by kernel_rfl) (fun _ _ _ h => h) (Or.inl ⟨by rfl, ?hy⟩) (by assumption) ?_
  case hy => (intro w hSw; (try dsimp only at hSw); go_simp; try with_reducible rfl)
  try simp only [Act.put, siA, scZ, scS]
  refine wpAnyH_take (i := 8) (v := ?_) rfl (by kernel_rfl) (by kernel_rfl) (by kernel_rfl) (fun _ _ _ h => h) (Or.inl ⟨by rfl, ?hy⟩) (by assumption) ?_
  case hy => (intro w hSw; (try dsimp only at hSw); go_simp; try with_reducible rfl)
  try simp only [Act.put, siA, scZ, scS]
  refine wpAnyH_take (i := 9) (v := ?_) rfl (by kernel_rfl) (by kernel_rfl) (by kernel_rfl) (fun _ _ _ h => h) (Or.inl ⟨by rfl, ?hy⟩) (by assumption) ?_
  case hy => (intro w hSw; (try dsimp only at hSw); go_simp; try with_reducible rfl)
  try simp only [Act.put, siA, scZ, scS]
  refine wpAnyH_take (i := 10) (v := ?_) rfl (by kernel_rfl) (by kernel_rfl) (by kernel_rfl) (fun _ _ _ h => h) (Or.inl ⟨by rfl, ?hy⟩) (by assumption) ?_
  case hy => (intro w hSw; (try dsimp only at hSw); go_simp; try with_reducible rfl)
  try simp only [Act.put, siA, scZ, scS]
  refine wpAnyH_take (i := 11) (v := ?_) rfl (by kernel_rfl) (by kernel_rfl) (by kernel_rfl) (fun _ _ _ h => h) (Or.inl ⟨by rfl, ?hy⟩) (by assumption) ?_
  case hy => (intro w hSw; (try dsimp only at hSw); go_simp; try with_reducible rfl)
  try simp only [Act.put, siA, scZ, scS]
  refine wpAnyH_take (i := 12) (v := ?_) rfl (by kernel_rfl) (by kernel_rfl) (by kernel_rfl) (fun _ _ _ h => h) (Or.inl ⟨by rfl, ?hy⟩) (by assumption) ?_
  case hy => (intro w hSw; (try dsimp only at hSw); go_simp; try with_reducible rfl)
  try simp only [Act.put, siA, scZ, scS]
  refine wpAnyH_take (i := 13) (v := ?_) rfl (by kernel_rfl) (by kernel_rfl) (by kernel_rfl) (fun _ _ _ h => h) (Or.inl ⟨by rfl, ?hy⟩) (by assumption) ?_
  case hy => (intro w hSw; (try dsimp only at hSw); go_simp; try with_reducible rfl)
  try simp only [Act.put, siA, scZ, scS]
  refine wpAnyH_take (i := 14) (v := ?_) rfl (by kernel_rfl) (by kernel_rfl) (by kernel_rfl) (fun _ _ _ h => h) (Or.inl ⟨by rfl, ?hy⟩) (by assumption) ?_
  case hy => (intro w hSw; (try dsimp only at hSw); go_simp; try with_reducible rfl)
  try simp only [Act.put, siA, scZ, scS]
  refine wpAnyH_take (i := 15) (v := ?_) rfl (by kernel_rfl) (by kernel_rfl) (by kernel_rfl) (fun _ _ _ h => h) (Or.inl ⟨by rfl, ?hy⟩) (by assumption) ?_
  case hy => (intro w hSw; (try dsimp only at hSw); go_simp; try with_reducible rfl)
  try simp only [Act.put, siA, scZ, scS]
  refine wpAnyH_take (i := 16) (v := ?_) rfl (by kernel_rfl) (by kernel_rfl) (by kernel_rfl) (fun _ _ _ h => h) (Or.inl ⟨by rfl, ?hy⟩) (by assumption) ?_
  case hy => (intro w hSw; (try dsimp only at hSw); go_simp; try with_reducible rfl)
  try simp only [Act.put, siA, scZ, scS]
  refine wpAnyH_ready (rs := [17]) (by kernel_rfl) (by simp) ?_
  refine AllReadyH.cons rfl (fun K hK => ?_) AllReadyH.nil
  go_simp
  refine hK.out _ _ ?_ (fun hHeld2 => ?_)
  · exact hHeld
  clear hK K hHeld
  have hHeld := hHeld2
  clear hHeld2
  try simp only [Act.put, siA, scZ, scS]
  refine wpAnyH_ready (rs := [18]) (by kernel_rfl) (by simp) ?_
  refine AllReadyH.cons rfl (fun K hK => ?_) AllReadyH.nil
  go_simp
  refine hK.out _ _ ?_ (fun hHeld2 => ?_)
  · exact hHeld
  clear hK K hHeld
  have hHeld := hHeld2
  clear hHeld2
  try simp only [Act.put, siA, scZ, scS]
  refine wpAnyH_take (i := 19) (v := ?_) rfl (by kernel_rfl) (by kernel_rfl) (by kernel_rfl) (fun _ _ _ h => h) (Or.inl ⟨by rfl, ?hy⟩) (by assumption) ?_
  case hy => (intro w hSw; (try dsimp only at hSw); go_simp; try with_reducible rfl)
  try simp only [Act.put, siA, scZ, scS]
  refine wpAnyH_done (by kernel_rfl) ?_ _
  go_wp2_with fail
  go_ret2
  exact ⟨rfl, K4.out⟩

set_option maxHeartbeats 4000000 in
/-- A size above MaxFields. -/
theorem make_great (rf sz : Int) (hoB : o ≤ 255) (h1 : o < T) (h2 : 0 ≤ rf) (h3 : rf ≤ sz) (h4 : 95 < sz) (w : World) :
    Calls Tryz.prog 27 #[mkV T G n p q o wk hd, .int .i64 rf, .int .i64 sz] w fun e w' => e = .returned (.tuple #[.int .i64 0, .int .i64 2]) ∧ Kp [] w w' := by
  have hT := Lib.hid (fun w => Ly.threads_is T G n w)
  have KB : Hid (∀ w', Kp [] (mkW w T G n p q o wk hd) w' → Kp [] w w') := Lib.hid fun w' k => (mkW_kp w T G n p q o wk hd).trans k
  have HS0 := Lib.hid (ms_of (F := Kp [] (mkW w T G n p q o wk hd)) (mkW_row w T G n p q o wk hd) (Kp.refl _ _))
  have ew := IntWalk.i64_in (o : Int) (by omega)
  have hd1 : decide (T ≤ o) = false := by simp; omega
  have hd2 : decide (rf < 0) = false := by simp; omega
  have hd3 : decide (sz < rf) = false := by simp; omega
  have hd4 : decide (95 < sz) = true := by simp; omega
  unfold mkW mkC at KB HS0
  clear hoB h1 h2 h3 h4
  go_enter Tryz.func27, Tryz.ntmps27
  go_wp2_with fail
  go_region_held3 (fun wx => wx.cell? ⟨w.heap.size, 0, none⟩ = some (.iface 38 (.pointer (some ⟨p, 0, none⟩))) ∧ wx.cell? ⟨w.heap.size, 1, none⟩ = some (.int .i64 T) ∧ wx.cell? ⟨w.heap.size, 2, none⟩ = some (.int .i64 G) ∧ wx.cell? ⟨w.heap.size, 3, none⟩ = some (.int .i64 n) ∧ wx.cell? ⟨w.heap.size, 4, none⟩ = some (.int .u8 o) ∧ wx.cell? ⟨w.heap.size, 5, none⟩ = some (.pointer (some ⟨q, 0, none⟩)) ∧ wx.cell? ⟨w.heap.size, 6, none⟩ = some (.bool wk) ∧ wx.cell? ⟨w.heap.size, 7, none⟩ = some hd ∧ Kp [] (mkW w T G n p q o wk hd) wx)
    (first
      | assumption
      | exact ms_keep HS0.out ((Kp.refl [] _).drew) (by simp) (fun k => k.trans ((Kp.refl [] _).drew))
      | exact ms_keep ‹Ms w.heap.size T G n p q o wk hd (Kp [] (mkW w T G n p q o wk hd)) _› hk9 (by simp) (fun k => k.trans hk9))
    (first
    | (go_at_call 47
       refine (hT.out _).mono ?_
       rintro e w4 ⟨rfl, hk9⟩))
  all_goals
    rename_i hHeld
    have K4 := Lib.hid (KB.out _ hHeld.2.2.2.2.2.2.2.2)
    clear hHeld hk9
    go_wp2_with fail
    go_ret2
    exact ⟨rfl, K4.out⟩

/-- What may not be. -/
theorem make_bad (rf sz : Int) (hoB : o ≤ 255) (h : T ≤ o ∨ rf < 0 ∨ sz < rf ∨ 95 < sz) (w : World) :
    Calls Tryz.prog 27 #[mkV T G n p q o wk hd, .int .i64 rf, .int .i64 sz] w fun e w' => e = .returned (.tuple #[.int .i64 0, .int .i64 2]) ∧ Kp [] w w' := by
  by_cases h1 : T ≤ o
  · exact make_owner rf sz hoB h1 w
  by_cases h2 : rf < 0
  · exact make_refs rf sz hoB (by omega) h2 w
  by_cases h3 : sz < rf
  · exact make_more rf sz hoB (by omega) (by omega) h3 w
  · exact make_great rf sz hoB (by omega) (by omega) (by omega) (by omega) w
end

end Go.Proofs.YtbpgkocbfleajaaGreatDoor

namespace Go.Proofs.YtbpgkocbfleajaaGreatDoor
set_option linter.unusedVariables false
set_option linter.unusedSimpArgs false
set_option maxRecDepth 100000
open Go.RowKit

section
variable {T n p r t t' : Nat} {Sh : List Nat} {q : Nat} {vs vs' : Nat → Value} {H H' : List Int} {R R' : Nat → List Int} {w w' : World}
/-- What a maker may turn, as a list of blocks. -/
def mhS (Sh : List Nat) (p r q : Nat) (vs : Nat → Value) : List Nat := p :: r :: q :: (Sh ++ (Li.blk (vs 0) ++ (Li.blk (vs 1) ++ (Li.blk (vs 2) ++ Li.blk (vs 3)))))
theorem mem_mhS {k : Nat} : k ∈ mhS Sh p r q vs ↔ k = p ∨ k = r ∨ k = q ∨ k ∈ Sh ∨ Li.Owns vs k := by
  unfold mhS Li.Owns
  simp only [List.mem_cons, List.mem_append]
  constructor
  · rintro (h | h | h | h | h | h | h | h)
    · exact .inl h
    · exact .inr (.inl h)
    · exact .inr (.inr (.inl h))
    · exact .inr (.inr (.inr (.inl h)))
    · exact .inr (.inr (.inr (.inr ⟨0, by omega, h⟩)))
    · exact .inr (.inr (.inr (.inr ⟨1, by omega, h⟩)))
    · exact .inr (.inr (.inr (.inr ⟨2, by omega, h⟩)))
    · exact .inr (.inr (.inr (.inr ⟨3, by omega, h⟩)))
  · rintro (h | h | h | h | ⟨c, hc, h⟩)
    · exact .inl h
    · exact .inr (.inl h)
    · exact .inr (.inr (.inl h))
    · exact .inr (.inr (.inr (.inl h)))
    · rcases Li.four hc with rfl | rfl | rfl | rfl
      · exact .inr (.inr (.inr (.inr (.inl h))))
      · exact .inr (.inr (.inr (.inr (.inr (.inl h)))))
      · exact .inr (.inr (.inr (.inr (.inr (.inr (.inl h))))))
      · exact .inr (.inr (.inr (.inr (.inr (.inr (.inr h))))))
theorem Mh.kp (h : Mh Sh p r q vs vs' w w') : Kp (mhS Sh p r q vs) w w' :=
  ⟨h.os, h.tape, h.output, h.size, fun k hk hS => h.block k hk (fun e => hS (mem_mhS.2 (.inl e))) (fun e => hS (mem_mhS.2 (.inr (.inl e)))) (fun e => hS (mem_mhS.2 (.inr (.inr (.inl e))))) (fun e => hS (mem_mhS.2 (.inr (.inr (.inr (.inr e)))))) (fun e => hS (mem_mhS.2 (.inr (.inr (.inr (.inl e))))))⟩
end

/-- Several owners' lists over one arena: each list's blocks are its own. -/
structure Mws (T n p r : Nat) (qs : Nat → Nat) (vss : Nat → Nat → Value) (H : List Int) (Rs : Nat → Nat → List Int) (t : Nat) (w : World) : Prop where
  one : ∀ i, i < T → Mw T 0 n p r (qs i) (vss i) H (Rs i) t w
  qne : ∀ i j, i < T → j < T → i ≠ j → qs i ≠ qs j
  vne : ∀ i j, i < T → j < T → i ≠ j → ∀ g, Li.Owns (vss i) g → ¬ Li.Owns (vss j) g
def updV4 (vss : Nat → Nat → Value) (i : Nat) (vs : Nat → Value) : Nat → Nat → Value := fun j => if j = i then vs else vss j
section
variable {T n p r t t' : Nat} {Sh : List Nat} {qs : Nat → Nat} {vss : Nat → Nat → Value} {vs' : Nat → Value} {H H' : List Int} {Rs : Nat → Nat → List Int} {R' : Nat → List Int} {w w' : World}
theorem updV4_same (i : Nat) : updV4 vss i vs' i = vs' := if_pos rfl
theorem updV4_ne {i j : Nat} (h : j ≠ i) : updV4 vss i vs' j = vss j := if_neg h
theorem Mws.on (h : Mws T n p r qs vss H Rs t w) (k : Kp [] w w') : Mws T n p r qs vss H Rs t w' := ⟨fun i hi => (h.one i hi).on k, h.qne, h.vne⟩
theorem Mws.more (h : Mws T n p r qs vss H Rs t w) (ht : t ≤ t') : Mws T n p r qs vss H Rs t' w := ⟨fun i hi => (h.one i hi).more ht, h.qne, h.vne⟩
/-- Two lists: no block is of both. -/
theorem Mws.apart (h : Mws T n p r qs vss H Rs t w) {i j : Nat} (hi : i < T) (hj : j < T) (hne : j ≠ i) (hS : ∀ b ∈ Sh, Off p r (qs j) (vss j) w b) : qs j ∉ mhS Sh p r (qs i) (vss i) ∧ ∀ g, Li.Owns (vss j) g → g ∉ mhS Sh p r (qs i) (vss i) := by
  have hJ := h.one j hj
  obtain ⟨n1, n2, n3, n4⟩ := hJ.ne
  obtain ⟨a1, a2, a3, e1, e2, e3⟩ := hJ.types
  refine ⟨fun e => ?_, fun g hg e => ?_⟩
  · rcases mem_mhS.1 e with e | e | e | e | e
    · exact n1 e
    · exact n2 e
    · exact h.qne j i hj hi hne e
    · exact (hS _ e).2.2.2.1 rfl
    · obtain ⟨cs, hcs⟩ := owns_type (h.one i hi).ls e
      rw [e3] at hcs
      simp at hcs
  · rcases mem_mhS.1 e with e | e | e | e | e
    · exact n3 (e ▸ hg)
    · exact n4 (e ▸ hg)
    · obtain ⟨cs, hcs⟩ := owns_type hJ.ls hg
      obtain ⟨b1, b2, b3, f1, f2, f3⟩ := (h.one i hi).types
      rw [e, f3] at hcs
      simp at hcs
    · exact (hS _ e).2.2.2.2.1 hg
    · exact h.vne j i hj hi hne g hg e
/-- One of them has made something, or has dropped places. -/
theorem Mws.made (h : Mws T n p r qs vss H Rs t w) {i : Nat} (hi : i < T) (hm : Mw T 0 n p r (qs i) vs' H' R' t' w') (hl : H'.length = H.length) (k : Mh Sh p r (qs i) (vss i) vs' w w') (hS : ∀ j, j < T → ∀ b ∈ Sh, Off p r (qs j) (vss j) w b) :
    Mws T n p r qs (updV4 vss i vs') H' (updO Rs i R') t' w' := by
  refine ⟨fun j hj => ?_, h.qne, fun a b ha hb hab g h1 h2 => ?_⟩
  · by_cases e : j = i
    · subst e; rw [updV4_same, updO_same]; exact hm
    · rw [updV4_ne e, updO_ne e]
      have hJ := h.one j hj
      obtain ⟨h1, h2⟩ := h.apart hi hj e (hS j hj)
      exact ⟨hm.hw, hJ.ls.keep k.kp h1 h2, hl ▸ hJ.lk, hl ▸ hJ.sm, hm.tab, hJ.gn⟩
  · by_cases ea : a = i
    · subst ea
      rw [updV4_same] at h1
      rw [updV4_ne (fun e => hab e.symm)] at h2
      rcases k.own g h1 with z | z
      · exact h.vne a b ha hb hab g z h2
      · have := (h.one b hb).ls.olt h2
        omega
    · rw [updV4_ne ea] at h1
      by_cases eb : b = i
      · subst eb
        rw [updV4_same] at h2
        rcases k.own g h2 with z | z
        · exact h.vne a b ha hb hab g h1 z
        · have := (h.one a ha).ls.olt h1
          omega
      · rw [updV4_ne eb] at h2
        exact h.vne a b ha hb hab g h1 h2
end
end Go.Proofs.YtbpgkocbfleajaaGreatDoor
