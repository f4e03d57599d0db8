/- The walks of law 15's own: who is told of a place, what is made of whatever size. Law 18's heap, plainly: which objects lie where, behind any makes: each one at a cell of a block of its class, or at a run's first block; all other cells are on their owner's list. Law 18's heap, plainly, on: a block is cut into cells, a cell is taken, a run of blocks is taken. Law 18's heap, plainly, on: an object is made in a cell, or in a run of blocks; Make as a whole. Conditions: as each theorem states them. -/
import Derived.Test.YticbnckikkdknaaGreatDoorPn10
import Derived.Test.YticbnckikkdknaaGreatDoorPn11
import Derived.Test.YticbnckikkdknaaGreatDoorPn13
namespace Go.Proofs.YticbnckikkdknaaGreatDoor
set_option linter.unusedVariables false
set_option linter.unusedSimpArgs false
set_option maxRecDepth 100000
open Go.RowKit

/-- The law's own closure: what it is told goes into a box. -/
abbrev hdV (b9 : Nat) : Value := .func (.func 58) #[] #[.pointer (some ⟨b9, 0, none⟩)]
def BoxP (b9 : Nat) (a : Nat) (w : World) : Prop := w.cell? ⟨b9, 0, none⟩ = some (.int .i64 a)
theorem cl_hold (a b9 : Nat) (u : Value) (w : World) (hb : w.heap[b9]? = some (.cells #[u] 3 (0, 0))) :
    Calls Tryz.prog 58 #[.int .i64 a, .pointer (some ⟨b9, 0, none⟩)] w fun e w' => e = .returned (.tuple #[]) ∧ Kp [b9] w w' ∧ BoxP b9 a w' := by
  have c0 : w.cell? ⟨b9, 0, none⟩ = some u := cell_of_row hb 0
  have g0 := free_of_row hb 0
  have K : Kp [b9] w (w.setCell ⟨b9, 0, none⟩ (.int .i64 a)) := (Kp.refl _ _).setCell (.inl (by simp)) _
  have hP : BoxP b9 a (w.setCell ⟨b9, 0, none⟩ (.int .i64 a)) := by
    unfold BoxP
    rw [cell_of_row (heap_setCell_same _ _ _ _ _ _ hb)]
    rfl
  have HK := Lib.hid (And.intro K hP)
  clear K hP hb
  go_enter Tryz.func58, Tryz.ntmps58
  go_wp2_with fail
  go_end0
  exact ⟨rfl, HK.out⟩
theorem hold_box (T G n p r q o : Nat) (wk : Bool) (vs : Nat → Value) (w : World) (b9 : Nat) (u : Value) (hb : w.heap[b9]? = some (.cells #[u] 3 (0, 0))) (ho : Off p r q vs w b9) : HoldOk T G n p r q o wk (hdV b9) vs w [b9] (BoxP b9) := by
  refine ⟨fun a vs' w1 k _ => ?_, by simpa using ho, fun a w1 w2 hp k => kp_cell k (by have := ho.2; simp; omega) hp⟩
  have hb1 : w1.heap[b9]? = some (.cells #[u] 3 (0, 0)) := k.row ho.2.1 ho.2.2.1 ho.2.2.2.1 ho.2.2.2.2.1 hb
  have KB := Lib.hid (mkW_kp w1 T G n p q o wk (hdV b9))
  have HC := Lib.hid (fun (w2 : World) (k2 : Kp [] w1 w2) => cl_hold a b9 u w2 (k2.row (by simp) hb1))
  unfold mkW mkC at KB
  have hfn : ∀ w, (binOp .neq 49 (hdV b9) .nilFunc).run Tryz.prog w = .ok (.bool true) w := fun _ => rfl
  clear hb hb1 ho k
  go_enter Tryz.func133, Tryz.ntmps133
  go_wp2_with fail
  refine (HC.out _ KB.out).mono ?_
  rintro e w2 ⟨rfl, hk2, hp2⟩
  have H2 := Lib.hid (And.intro ((KB.out.mono (by simp)).trans hk2) hp2)
  clear hk2 hp2
  go_wp2_with fail
  go_end0
  exact ⟨rfl, H2.out⟩

section
variable {T n p r sp t t' : Nat} {qs : Nat → Nat} {v : Av} {s : As} {col col' : Nat → Nat} {w w' w1 w2 w3 : World}
theorem Aw.db_off (h : Aw T n p r sp qs v s t col w) {i : Nat} (hi : i < T) {Sh : List Nat} (hS : Apart col w Sh) : v.db ∉ mhS Sh p r (qs i) (v.vss i) := fun e => by
  obtain ⟨_, cur, hc⟩ := Gx.Rw.block h.dh.ww v.db (by rw [Gx.blk_some]; simp)
  have hd := h.dbp (by omega)
  obtain ⟨a1, a2, a3, e1, e2, e3⟩ := (h.mws.one i hi).types
  rcases mem_mhS.1 e with e | e | e | e | e
  · exact hd.1 e
  · exact hd.2.1 e
  · rw [e, e3] at hc; simp at hc
  · obtain ⟨_, cs, hcs⟩ := hS _ e
    rw [hcs] at hc; simp at hc
  · obtain ⟨cs, hcs⟩ := owns_type (h.mws.one i hi).ls e
    rw [hcs] at hc; simp at hc
theorem Lo.mhs {B : Nat} (hL : Lo B T p r sp qs v) {i : Nat} (hi : i < T) {Sh : List Nat} (hS : ∀ x ∈ Sh, B ≤ x) : ∀ x ∈ mhS Sh p r (qs i) (v.vss i), B ≤ x := fun x hx => by
  rcases mem_mhS.1 hx with e | e | e | e | e
  · rw [e]; exact hL.p0
  · rw [e]; exact hL.r0
  · rw [e]; exact hL.q0 i hi
  · exact hS x e
  · exact hL.o0 i hi x e
/-- Behind a step of an owner. -/
theorem Lo.step {B : Nat} (hL : Lo B T p r sp qs v) {i : Nat} (hi : i < T) {vs' us' : Nat → Value} {Sh : List Nat} (k : Mh Sh p r (qs i) (v.vss i) vs' w w1) (hB : B ≤ w.heap.size) {f' : Nat → Value} (hf : ∀ j, j ≠ 6 → f' j = v.f j) {b c : Nat} : Lo B T p r sp qs { v with f := f', vss := updV4 v.vss i vs', us := updV4 v.us i us', db := b, dc := c } where
  p0 := hL.p0
  r0 := hL.r0
  s0 := hL.s0
  q0 := hL.q0
  o0 := fun j hj g hg => by
    by_cases e : j = i
    · subst e
      have hg' : Li.Owns vs' g := by simpa [updV4_same] using hg
      rcases k.own g hg' with z | z
      · exact hL.o0 j hj g z
      · omega
    · have hg' : Li.Owns (v.vss j) g := by simpa [updV4_ne e] using hg
      exact hL.o0 j hj g hg'
  w0 := fun g hg => hL.w0 g (by have hg2 : g ∈ Gx.blk (f' 5) := hg; rwa [hf 5 (by decide)] at hg2)
  d0 := fun g hg => hL.d0 g (by have hg2 : g ∈ Gx.blk (f' 10) := hg; rwa [hf 10 (by decide)] at hg2)
  m0 := fun g hg => hL.m0 g (by have hg2 : g ∈ Gx.blk (f' 11) := hg; rwa [hf 11 (by decide)] at hg2)
  z0 := fun g hg => hL.z0 g (by have hg2 : g ∈ Gx.blk (f' 12) := hg; rwa [hf 12 (by decide)] at hg2)
  a0 := hL.a0
  b0 := hL.b0
theorem Lo.made {B : Nat} (hL : Lo B T p r sp qs v) {i : Nat} {m' : Value} (hb : ∀ g ∈ Li.blk m', B ≤ g) : Lo B T p r sp qs { v with ms := upd1 v.ms i m' } := by
  have h : ∀ j, j < T → ∀ g ∈ Li.blk (upd1 v.ms i m' j), B ≤ g := fun j hj g hg => by
    by_cases e : j = i
    · subst e
      exact hb g (by simpa [upd1_same] using hg)
    · exact hL.a0 j hj g (by simpa [upd1_ne e] using hg)
  exact { hL with a0 := h }
theorem Lo.size {B : Nat} (hL : Lo B T p r sp qs v) {i : Nat} {m' : Value} (hb : ∀ g ∈ Li.blk m', B ≤ g) : Lo B T p r sp qs { v with ss := upd1 v.ss i m' } := by
  have h : ∀ j, j < T → ∀ g ∈ Li.blk (upd1 v.ss i m' j), B ≤ g := fun j hj g hg => by
    by_cases e : j = i
    · subst e
      exact hb g (by simpa [upd1_same] using hg)
    · exact hL.b0 j hj g (by simpa [upd1_ne e] using hg)
  exact { hL with b0 := h }
theorem Aw.mh_col (h : Aw T n p r sp qs v s t col w) {i : Nat} (hi : i < T) {Sh : List Nat} (hS : ∀ x ∈ Sh, w.heap.size ≤ x) : ∀ x ∈ mhS Sh p r (qs i) (v.vss i), x < w.heap.size → col x ≠ 1000 := fun x hx hl => by
  rcases mem_mhS.1 hx with e | e | e | e | e
  · rw [h.c0 x (.inl e)]; decide
  · rw [h.c0 x (.inr (.inl e))]; decide
  · rw [e, h.cq i hi]; decide
  · have := hS x e; omega
  · rw [h.c1 i hi x e]; decide
/-- The document's list of an owner, as slices. -/
theorem Aw.us_slices (h : Aw T n p r sp qs v s t col w) {i : Nat} (hi : i < T) : ∃ a0 a1 a2 a3 l0 k0 l1 k1 l2 k2 l3 k3, ∀ d, d < 4 → v.us i d = sl a0 a1 a2 a3 l0 k0 l1 k1 l2 k2 l3 k3 d := rows_slices (h.rd i hi)
theorem rows4_eq {us us' : Nat → Value} {R : Nat → List Int} (h : Li.Rows4 w us R) (e : ∀ d, d < 4 → us d = us' d) : Li.Rows4 w us' R := fun d hd => by rw [← e d hd]; exact h d hd
theorem bl4_eq {us us' vs vs' : Nat → Value} {a b : Nat} (h : Li.Bl4 us vs a b) (e : ∀ d, d < 4 → us d = us' d) (e' : ∀ d, d < 4 → vs d = vs' d) : Li.Bl4 us' vs' a b := fun d hd => by rw [← e d hd, ← e' d hd]; exact h d hd
end
/-- What the law's State says behind an object that may be. -/
def madeS (T n : Nat) (s : As) (i rf sz : Nat) : As :=
  { H := (pmakeS T 0 n i (s.wk i) rf sz (s.H, s.Rs i)).1.1, Rs := updO s.Rs i (pmakeS T 0 n i (s.wk i) rf sz (s.H, s.Rs i)).1.2, wk := s.wk,
    made := match (pmakeS T 0 n i (s.wk i) rf sz (s.H, s.Rs i)).2 with | none => s.made | some x => upd1 s.made i (s.made i ++ [x]),
    size := match (pmakeS T 0 n i (s.wk i) rf sz (s.H, s.Rs i)).2 with | none => s.size | some _ => upd1 s.size i (s.size i ++ [(sz : Int)]) }

/-- The contract of the document's Make (d_make). -/
def DMake (Bz T n : Nat) : Prop := ∀ (db dc o : Nat) (us : Nat → Value) (H : List Int) (R : Nat → List Int) (wk : Bool) (w : World) (rf sz : Nat), Dh Bz T 0 n db dc H w → Li.Rows4 w us R → Li.Lt4 us w.heap.size → Lok H.length R → H.length ≤ 1000 → Ivn T 0 n H → o < 64 → rf ≤ sz → sz ≤ 95 →
    Calls Tryz.prog 60 #[hV db dc H.length T 0 n, .agg #[us 0, us 1, us 2, us 3], .int .u8 o, .bool wk, .int .i64 rf, .int .i64 sz] w fun e w' => ∃ db' dc' us', e = .returned (.tuple #[hV db' dc' H.length T 0 n, .agg #[us' 0, us' 1, us' 2, us' 3], .int .i64 (dmakeS T 0 n o wk rf sz (H, R)).2]) ∧ Dh Bz T 0 n db' dc' (dmakeS T 0 n o wk rf sz (H, R)).1.1 w' ∧ Li.Rows4 w' us' (dmakeS T 0 n o wk rf sz (H, R)).1.2 ∧ Kp [] w w' ∧ Li.Bl4 us us' w.heap.size w'.heap.size
/-- What is older than B stands, and what is coloured 1000; colours stay. -/
structure BK (B : Nat) (col col' : Nat → Nat) (w w' : World) : Prop where
  bel : Below B w w'
  agr : ∀ g, g < w.heap.size → col' g = col g
  st : ∀ g, g < w.heap.size → col g = 1000 → w'.heap[g]? = w.heap[g]?
theorem BK.of {S : List Nat} {B : Nat} {col : Nat → Nat} {w w' : World} (k : Kp S w w') (hB : B ≤ w.heap.size) (hS : ∀ x ∈ S, B ≤ x) (hc : ∀ x ∈ S, x < w.heap.size → col x ≠ 1000) : BK B col col w w' :=
  ⟨k.below hB hS, fun _ _ => rfl, fun g hg h1 => k.block g hg fun e => hc g e hg h1⟩
theorem BK.of0 {B : Nat} {col : Nat → Nat} {w w' : World} (k : Kp [] w w') (hB : B ≤ w.heap.size) : BK B col col w w' := BK.of k hB (by simp) (by simp)
theorem BK.recol {B : Nat} {c1 c2 c3 : Nat → Nat} {w w' : World} (h : BK B c1 c2 w w') (hc : ∀ g, g < w.heap.size → c3 g = c2 g) : BK B c1 c3 w w' := ⟨h.bel, fun g hg => (hc g hg).trans (h.agr g hg), h.st⟩
theorem BK.trans {B : Nat} {c1 c2 c3 : Nat → Nat} {w w1 w2 : World} (h : BK B c1 c2 w w1) (k : BK B c2 c3 w1 w2) : BK B c1 c3 w w2 :=
  ⟨h.bel.trans k.bel, fun g hg => (k.agr g (Nat.lt_of_lt_of_le hg h.bel.size)).trans (h.agr g hg), fun g hg h1 => (k.st g (Nat.lt_of_lt_of_le hg h.bel.size) ((h.agr g hg).trans h1)).trans (h.st g hg h1)⟩
theorem BK.size {B : Nat} {c1 c2 : Nat → Nat} {w w1 : World} (h : BK B c1 c2 w w1) : w.heap.size ≤ w1.heap.size := h.bel.size
section
variable {T n p r q t o : Nat} {wk : Bool} {hd : Value} {vs : Nat → Value} {H : List Int} {R : Nat → List Int} {w : World} {Sh : List Nat} {P : Nat → World → Prop}
/-- An object of whatever size that may be. -/
theorem make_good (h : Mw T 0 n p r q vs H R t w) (ht : t ≤ 300000) (hn : n ≤ 12) (hoT : o < T) (rf sz : Nat) (hr : rf ≤ sz) (h95 : sz ≤ 95) (ho2 : HoldOk T 0 n p r q o wk hd vs w Sh P) :
    Calls Tryz.prog 59 #[mkV T 0 n p q o wk hd, .int .i64 rf, .int .i64 sz] w fun e w' => e = .returned (.tuple #[.int .i64 ((pmakeS T 0 n o wk rf sz (H, R)).2.getD 0), .int .i64 (erM (pmakeS T 0 n o wk rf sz (H, R)).2)]) ∧ ∃ vs', Mw T 0 n p r q vs' (pmakeS T 0 n o wk rf sz (H, R)).1.1 (pmakeS T 0 n o wk rf sz (H, R)).1.2 (t + 600) w' ∧ Mh Sh p r q vs vs' w w' ∧ Tp Sh P (pmakeS T 0 n o wk rf sz (H, R)).2 w w' := by
  unfold pmakeS
  rcases size_ways sz h95 with ⟨h0, c, hc, hcc, hw⟩ | ⟨run, h1, h3, hrn, hw⟩
  · have h8 : sz ≤ 8 := by
      rcases Cl.run_ofs (sz : Int) with z | z | z | z | z <;> omega
    rw [if_pos h0, hcc, Int.toNat_natCast]
    refine (make_small h ht hoT c rf sz hcc hr h8 ho2).mono ?_
    rintro e w' ⟨h1, v, h2, h3, h4⟩
    exact ⟨h1, v, h2.more (by omega), h3, h4⟩
  · have h9 : 9 ≤ sz := by
      rcases Cl.run_ofs (sz : Int) with z | z | z | z | z <;> omega
    rw [if_neg (by omega), hrn, Int.toNat_natCast]
    refine (make_large h ht hoT run rf sz hrn hr h9 h95 ho2).mono ?_
    rintro e w' ⟨h1, v, h2, h3, h4⟩
    exact ⟨h1, v, h2.more (by omega), h3, h4⟩
end
/-- What a drawn region that builds a maker holds on to. -/
def B9 (T n sp b4 c4 b5 c5 i p qi : Nat) (wk : Bool) (F : World → Prop) (wx : World) : Prop :=
  wx.cell? ⟨sp, 0, none⟩ = some (.pointer (some ⟨p, 0, none⟩)) ∧ wx.cell? ⟨sp, 1, none⟩ = some (.int .i64 T) ∧ wx.cell? ⟨sp, 2, none⟩ = some (.int .i64 0) ∧ wx.cell? ⟨sp, 3, none⟩ = some (.int .i64 n) ∧ wx.cell? ⟨sp, 4, none⟩ = some (.slice (some ⟨b4, 0, none⟩) T c4) ∧ wx.cell? ⟨sp, 5, none⟩ = some (.slice (some ⟨b5, 0, none⟩) T c5) ∧ wx.cell? ⟨b4, i, none⟩ = some (.pointer (some ⟨qi, 0, none⟩)) ∧ wx.cell? ⟨b5, i, none⟩ = some (.bool wk) ∧ F wx
theorem B9.keep {T n sp b4 c4 b5 c5 i p qi : Nat} {wk : Bool} {F : World → Prop} {wx wy : World} {S : List Nat} (h : B9 T n sp b4 c4 b5 c5 i p qi wk F wx) (k : Kp S wx wy) (h1 : sp ∉ S) (h2 : b4 ∉ S) (h3 : b5 ∉ S) (hF : F wx → F wy) : B9 T n sp b4 c4 b5 c5 i p qi wk F wy := by
  obtain ⟨a0, a1, a2, a3, a4, a5, a6, a7, a8⟩ := h
  exact ⟨kp_cell k h1 a0, kp_cell k h1 a1, kp_cell k h1 a2, kp_cell k h1 a3, kp_cell k h1 a4, kp_cell k h1 a5, kp_cell k h2 a6, kp_cell k h3 a7, hF a8⟩
section
variable {T n p r sp t t' : Nat} {qs : Nat → Nat} {v : Av} {s : As} {col col' : Nat → Nat} {w w' w1 w2 w3 : World}
theorem Aw.b9 (h : Aw T n p r sp qs v s t col w) {i : Nat} (hi : i < T) : ∃ b4 c4 b5 c5, T ≤ c4 ∧ T ≤ c5 ∧ b4 < w.heap.size ∧ b5 < w.heap.size ∧ v.f 4 = .slice (some ⟨b4, 0, none⟩) T c4 ∧ v.f 5 = .slice (some ⟨b5, 0, none⟩) T c5 ∧ B9 T n sp b4 c4 b5 c5 i p (qs i) (s.wk i) (fun _ => True) w := by
  obtain ⟨b4, c4, e4, hc4, ⟨_, z4⟩, hcell4⟩ := rowF_at h.free (by omega)
  obtain ⟨b5, c5, e5, hc5, ⟨_, z5⟩, hcell5⟩ := rowF_at h.walks (by omega)
  exact ⟨b4, c4, b5, c5, hc4, hc5, lt_of_block z4, lt_of_block z5, e4, e5, (h.cell (by decide)).trans (by rw [h.f0]), (h.cell (by decide)).trans (by rw [h.f1]), (h.cell (by decide)).trans (by rw [h.f2]), (h.cell (by decide)).trans (by rw [h.f3]), (h.cell (by decide)).trans (by rw [e4]), (h.cell (by decide)).trans (by rw [e5]), hcell4 i hi, hcell5 i hi, trivial⟩
end
end Go.Proofs.YticbnckikkdknaaGreatDoor

namespace Go.Proofs.YticbnckikkdknaaGreatDoor
set_option linter.unusedVariables false
set_option linter.unusedSimpArgs false

/-- Which object lies at a place: its owner, references, size. -/
abbrev Obs := Nat → Option (Nat × Nat × Nat)
def setOb (O : Obs) (x : Nat) (y : Nat × Nat × Nat) : Obs := fun z => if z = x then some y else O z
theorem setOb_same (O : Obs) (x : Nat) (y : Nat × Nat × Nat) : setOb O x y x = some y := if_pos rfl
theorem setOb_ne {O : Obs} {x z : Nat} {y : Nat × Nat × Nat} (h : z ≠ x) : setOb O x y z = O z := if_neg h
/-- A block's entry; its first word. -/
abbrev en (T : Nat) (H : List Int) (b : Nat) : Int := H.getD (3 + T + 0 + b) 0
def hd (T n b : Nat) : Nat := 3 + T + 0 + n + 32 * b
def eS (c o : Nat) : Int := Tb.wordE 1 c 0 o
def eL (run o : Nat) : Int := Tb.wordE 2 0 run o
def hw (o rf sz : Nat) : Int := Wd.wordI 2 0 o rf sz false false

theorem wd_cl {c : Nat} (h : c < 4) : ((Cl.wdC c).toNat = 2 ∧ (Cl.clC c).toNat = 16) ∨ ((Cl.wdC c).toNat = 3 ∧ (Cl.clC c).toNat = 10) ∨ ((Cl.wdC c).toNat = 5 ∧ (Cl.clC c).toNat = 6) ∨ ((Cl.wdC c).toNat = 9 ∧ (Cl.clC c).toNat = 3) := by
  rcases Li.four h with rfl | rfl | rfl | rfl <;> decide
theorem wd_nat {c : Nat} (h : c < 4) : (((Cl.wdC c).toNat : Nat) : Int) = Cl.wdC c := by
  have := wd_pos h
  omega
theorem pl_in {T n c b m : Nat} (hc : c < 4) (hm : m < (Cl.clC c).toNat) : hd T n b ≤ pl T 0 n c b m ∧ pl T 0 n c b m + (Cl.wdC c).toNat ≤ hd T n b + 32 := by
  unfold pl hd
  rcases wd_cl hc with ⟨h1, h2⟩ | ⟨h1, h2⟩ | ⟨h1, h2⟩ | ⟨h1, h2⟩ <;> rw [h1] <;> rw [h2] at hm <;> omega
theorem pl_apart {T n c b m m' : Nat} (hc : c < 4) (hne : m ≠ m') : pl T 0 n c b m + (Cl.wdC c).toNat ≤ pl T 0 n c b m' ∨ pl T 0 n c b m' + (Cl.wdC c).toNat ≤ pl T 0 n c b m := by
  unfold pl
  rcases wd_cl hc with ⟨h1, h2⟩ | ⟨h1, h2⟩ | ⟨h1, h2⟩ | ⟨h1, h2⟩ <;> rw [h1] <;> omega
theorem wd_ge {c : Nat} (hc : c < 4) : 2 ≤ (Cl.wdC c).toNat ∧ (Cl.wdC c).toNat ≤ 9 := by
  rcases wd_cl hc with ⟨h1, h2⟩ | ⟨h1, h2⟩ | ⟨h1, h2⟩ | ⟨h1, h2⟩ <;> rw [h1] <;> omega
theorem pl_inj {T n c c' b b' m m' : Nat} (hc : c < 4) (hm : m < (Cl.clC c).toNat) (hc' : c' < 4) (hm' : m' < (Cl.clC c').toNat) (h : pl T 0 n c b m = pl T 0 n c' b' m') : b = b' := by
  have a := pl_in (T := T) (n := n) (b := b) hc hm
  have a' := pl_in (T := T) (n := n) (b := b') hc' hm'
  have := wd_ge hc
  have := wd_ge hc'
  unfold hd at a a'
  omega
theorem pl_inj2 {T n c b m m' : Nat} (hc : c < 4) (h : pl T 0 n c b m = pl T 0 n c b m') : m = m' := by
  by_cases hne : m = m'
  · exact hne
  · have := wd_ge hc
    rcases pl_apart (T := T) (n := n) (b := b) hc hne with h1 | h1 <;> omega

theorem eS_ne (c o : Nat) : eS c o ≠ 0 ∧ eS c o ≠ 3 := by unfold eS Tb.wordE; omega
theorem eL_ne (run o : Nat) : eL run o ≠ 0 ∧ eL run o ≠ 3 := by unfold eL Tb.wordE; omega
theorem eS_eL {c o run o' : Nat} : eS c o ≠ eL run o' := by unfold eS eL Tb.wordE; omega
theorem eS_inj {c o c' o' : Nat} (h : eS c o = eS c' o') (hc : c < 4) (hc' : c' < 4) : c = c' ∧ o = o' := by unfold eS Tb.wordE at h; omega
theorem eL_inj {c o c' o' : Nat} (h : eL c o = eL c' o') (hc : c < 4) (hc' : c' < 4) : c = c' ∧ o = o' := by unfold eL Tb.wordE at h; omega
theorem hw_mod (o rf sz : Nat) : hw o rf sz % 4 = 2 := by unfold hw Wd.wordI Wd.bitI; simp; omega
theorem lw_mod (o : Nat) : lw o % 4 = 1 := by unfold lw Wd.wordI Wd.bitI; simp; omega
theorem frB_hw (o rf sz : Nat) : frB (hw o rf sz) = false := by
  unfold frB
  have : ¬ hw o rf sz % 4 = 0 := by rw [hw_mod]; omega
  simp [this]
theorem frB_lw (o : Nat) : frB (lw o) = false := by
  unfold frB
  have : ¬ lw o % 4 = 0 := by rw [lw_mod]; omega
  simp [this]

/-- What lies where. -/
structure Cel (T n : Nat) (H : List Int) (Rs : Nat → Nat → List Int) (O : Obs) : Prop where
  fit : Fit T n H Rs
  map : ∀ b, b < n → (H.getD 0 0).toNat.testBit b = true → en T H b = 0
  ent : ∀ b, b < n → en T H b = 0 ∨ en T H b = 3 ∨ (∃ c o : Nat, c < 4 ∧ o < T ∧ en T H b = eS c o ∧ ∀ m, m < (Cl.clC c).toNat → (∃ rf sz, O (pl T 0 n c b m) = some (o, rf, sz)) ∨ ((pl T 0 n c b m : Nat) : Int) ∈ Rs o c) ∨
    ∃ run o : Nat, 1 ≤ run ∧ run ≤ 3 ∧ o < T ∧ b + run ≤ n ∧ en T H b = eL run o ∧ (∃ rf sz, O (hd T n b) = some (o, rf, sz)) ∧ ∀ k, 1 ≤ k → k < run → en T H (b + k) = 3
  lst : ∀ o, o < T → ∀ c : Nat, c < 4 → ∀ x ∈ Rs o c, ∃ b m : Nat, b < n ∧ m < (Cl.clC c).toNat ∧ x = ((pl T 0 n c b m : Nat) : Int) ∧ en T H b = eS c o ∧ O (pl T 0 n c b m) = none ∧ H.getD (pl T 0 n c b m) 0 = lw o
  obj : ∀ x o rf sz, O x = some (o, rf, sz) → o < T ∧ rf ≤ sz ∧ sz ≤ 95 ∧ H.getD x 0 = hw o rf sz ∧ (∀ k, k < sz → H.getD (x + 1 + k) 0 = 0) ∧
    ((∃ c b m : Nat, c < 4 ∧ b < n ∧ m < (Cl.clC c).toNat ∧ sz + 1 ≤ (Cl.wdC c).toNat ∧ x = pl T 0 n c b m ∧ en T H b = eS c o) ∨ ∃ b run : Nat, 1 ≤ run ∧ run ≤ 3 ∧ b + run ≤ n ∧ sz + 1 ≤ 32 * run ∧ x = hd T n b ∧ en T H b = eL run o)

section
variable {T n i c b : Nat} {H : List Int} {Rs : Nat → Nat → List Int} {O : Obs} {wk : Bool}

/-- Two objects' words are apart. -/
theorem Cel.apart (h : Cel T n H Rs O) {x y o rf sz o' rf' sz' : Nat} (hx : O x = some (o, rf, sz)) (hy : O y = some (o', rf', sz')) (hne : x ≠ y) : x + sz < y ∨ y + sz' < x := by
  obtain ⟨_, _, _, _, _, h1⟩ := h.obj x o rf sz hx
  obtain ⟨_, _, _, _, _, h2⟩ := h.obj y o' rf' sz' hy
  rcases h1 with ⟨c1, b1, m1, hc1, hb1, hm1, hs1, rfl, he1⟩ | ⟨b1, r1, hr1, hr13, hb1, hs1, rfl, he1⟩ <;> rcases h2 with ⟨c2, b2, m2, hc2, hb2, hm2, hs2, rfl, he2⟩ | ⟨b2, r2, hr2, hr23, hb2, hs2, rfl, he2⟩
  · have p1 := pl_in (T := T) (n := n) (b := b1) hc1 hm1
    have p2 := pl_in (T := T) (n := n) (b := b2) hc2 hm2
    by_cases hb : b1 = b2
    · subst hb
      rw [he1] at he2
      obtain ⟨rfl, rfl⟩ := eS_inj he2 hc1 hc2
      have hm : m1 ≠ m2 := fun e => hne (by rw [e])
      rcases pl_apart (T := T) (n := n) (b := b1) hc1 hm with q | q <;> omega
    · unfold hd at p1 p2; omega
  · have p1 := pl_in (T := T) (n := n) (b := b1) hc1 hm1
    have hno : ¬ (b2 ≤ b1 ∧ b1 < b2 + r2) := fun ⟨q1, q2⟩ => by
      rcases h.ent b2 (by omega) with z | z | ⟨c', o3, _, _, z, _⟩ | ⟨r', o3, z1, z2, z3, z4, z5, _, z7⟩
      · exact (eL_ne r2 o').1 (he2.symm.trans z)
      · exact (eL_ne r2 o').2 (he2.symm.trans z)
      · exact eS_eL (z.symm.trans he2)
      · obtain ⟨rfl, rfl⟩ := eL_inj (he2.symm.trans z5) (by omega) (by omega)
        by_cases e : b1 = b2
        · subst e; exact eS_eL (he1.symm.trans he2)
        · have := z7 (b1 - b2) (by omega) (by omega)
          rw [show b2 + (b1 - b2) = b1 by omega] at this
          exact (eS_ne c1 o).2 (he1.symm.trans this)
    unfold hd at p1 ⊢; omega
  · have p2 := pl_in (T := T) (n := n) (b := b2) hc2 hm2
    have hno : ¬ (b1 ≤ b2 ∧ b2 < b1 + r1) := fun ⟨q1, q2⟩ => by
      rcases h.ent b1 (by omega) with z | z | ⟨c', o3, _, _, z, _⟩ | ⟨r', o3, z1, z2, z3, z4, z5, _, z7⟩
      · exact (eL_ne r1 o).1 (he1.symm.trans z)
      · exact (eL_ne r1 o).2 (he1.symm.trans z)
      · exact eS_eL (z.symm.trans he1)
      · obtain ⟨rfl, rfl⟩ := eL_inj (he1.symm.trans z5) (by omega) (by omega)
        by_cases e : b2 = b1
        · subst e; exact eS_eL (he2.symm.trans he1)
        · have := z7 (b2 - b1) (by omega) (by omega)
          rw [show b1 + (b2 - b1) = b2 by omega] at this
          exact (eS_ne c2 o').2 (he2.symm.trans this)
    unfold hd at p2 ⊢; omega
  · have hb : b1 ≠ b2 := fun e => hne (by rw [e])
    have key : ∀ {ba bc ra rc oa oc : Nat}, ba + ra ≤ n → bc + rc ≤ n → 1 ≤ ra → 1 ≤ rc → ra ≤ 3 → rc ≤ 3 → en T H ba = eL ra oa → en T H bc = eL rc oc → ba ≠ bc → ¬ (ba ≤ bc ∧ bc < ba + ra) := by
      intro ba bc ra rc oa oc q1 q2 q3 q4 q5 q6 e1 e2 hne ⟨a1, a2⟩
      rcases h.ent ba (by omega) with z | z | ⟨c', o3, _, _, z, _⟩ | ⟨r', o3, z1, z2, z3, z4, z5, _, z7⟩
      · exact (eL_ne ra oa).1 (e1.symm.trans z)
      · exact (eL_ne ra oa).2 (e1.symm.trans z)
      · exact eS_eL (z.symm.trans e1)
      · obtain ⟨rfl, rfl⟩ := eL_inj (e1.symm.trans z5) (by omega) (by omega)
        have := z7 (bc - ba) (by omega) (by omega)
        rw [show ba + (bc - ba) = bc by omega] at this
        exact (eL_ne rc oc).2 (e2.symm.trans this)
    have k1 := key hb1 hb2 hr1 hr2 hr13 hr23 he1 he2 hb
    have k2 := key hb2 hb1 hr2 hr1 hr23 hr13 he2 he1 (Ne.symm hb)
    unfold hd; omega

theorem takeE_of {x : Int} (h : ek x ≠ 0) : Tb.takeE x = true := by
  unfold ek at h
  split at h
  · assumption
  · exact absurd rfl h
/-- A Small block's entry, by its parts. -/
theorem isE_eS {c o : Nat} {x : Int} (h0 : 0 ≤ x) (h : isE c o x = true) : x = eS c o := by
  unfold isE Tb.eqE at h
  simp only [decide_eq_true_eq] at h
  obtain ⟨h1, h2, h3, h4⟩ := h
  have ht := takeE_of (x := x) (by rw [h1]; decide)
  simp only [ek, ec, er, eo, if_pos ht] at h1 h2 h3 h4
  simp only [Tb.takeE, Bool.and_eq_true, decide_eq_true_eq] at ht
  unfold eS Tb.wordE
  omega
theorem Cel.en_pos (h : Cel T n H Rs O) (hb : b < n) : 0 ≤ en T H b := by
  rcases h.ent b hb with z | z | ⟨c', o', _, _, z, _⟩ | ⟨r', o3, _, _, _, _, z, _⟩ <;> rw [z]
  · decide
  · decide
  · unfold eS Tb.wordE; omega
  · unfold eL Tb.wordE; omega
/-- No cell is Free. -/
theorem Cel.noFree (h : Cel T n H Rs O) (hb : b < n) (hc : c < 4) {o : Nat} (he : en T H b = eS c o) {m : Nat} (hm : m < (Cl.clC c).toNat) : frB (H.getD (pl T 0 n c b m) 0) = false := by
  rcases h.ent b hb with z | z | ⟨c', o', hc', ho', z, hz⟩ | ⟨r', o3, z1, z2, z3, z4, z5, _, z7⟩
  · exact absurd (he.symm.trans z) (eS_ne c o).1
  · exact absurd (he.symm.trans z) (eS_ne c o).2
  · obtain ⟨rfl, rfl⟩ := eS_inj (he.symm.trans z) hc hc'
    rcases hz m hm with ⟨rf, sz, hx⟩ | hx
    · rw [(h.obj _ _ _ _ hx).2.2.2.1]; exact frB_hw _ _ _
    · obtain ⟨b', m', hb', hm', e, _, _, hl⟩ := h.lst o ho' c hc _ hx
      have e' : pl T 0 n c b m = pl T 0 n c b' m' := by exact_mod_cast e
      rw [e', hl]; exact frB_lw _
  · exact absurd (he.symm.trans z5) eS_eL
theorem Cel.look (h : Cel T n H Rs O) (hb : b < n) (hc : c < 4) {o : Nat} (he : en T H b = eS c o) {R : Nat → List Int} : ∀ j, j ≤ (Cl.clC c).toNat → lookS T 0 n i c b (H, R) j = (H, R)
  | 0, _ => rfl
  | j + 1, hj => by
    rw [lookS, h.look hb hc he j (by omega)]
    simp only
    rw [h.noFree hb hc he (show j < (Cl.clC c).toNat by omega)]
    simp
theorem Cel.found (h : Cel T n H Rs O) (hc : c < 4) {R : Nat → List Int} : ∀ j, j ≤ n → foundS T 0 n i c (H, R) j = (H, R)
  | 0, _ => rfl
  | j + 1, hj => by
    rw [foundS, h.found hc j (by omega)]
    simp only
    split
    · rename_i hE
      exact h.look (by omega) hc (isE_eS (h.en_pos (by omega)) hE) _ (Nat.le_refl _)
    · rfl
end
end Go.Proofs.YticbnckikkdknaaGreatDoor

namespace Go.Proofs.YticbnckikkdknaaGreatDoor
set_option linter.unusedVariables false
set_option linter.unusedSimpArgs false

section
variable {T n i c b : Nat} {H : List Int} {Rs : Nat → Nat → List Int} {O : Obs} {wk : Bool} {R : Nat → List Int}

theorem Cel.tidy (h : Cel T n H Rs O) : tidyH T 0 n i wk H = H := by
  unfold tidyH
  split
  · rfl
  · have : ∀ j, j ≤ n → waitH T 0 n i H j = H := by
      intro j
      induction j with
      | zero => intro _; rfl
      | succ j ih =>
        intro hj
        rw [waitH, ih (by omega)]
        unfold turnH
        rw [if_neg]
        unfold waitsE
        have he : H.getD (3 + T + 0 + j) 0 = en T H j := rfl
        rw [he]
        intro hw
        simp only [Bool.and_eq_true, decide_eq_true_eq] at hw
        rcases h.ent j (by omega) with z | z | ⟨c', o', _, _, z, _⟩ | ⟨r', o3, _, _, _, _, z, _⟩ <;> rw [z] at hw
        · omega
        · omega
        · unfold eS Tb.wordE at hw; omega
        · unfold eL Tb.wordE at hw; omega
    exact this n (Nat.le_refl _)

theorem hasB_no {x : Int} (h : ∀ d, d < 4 → x ∉ R d) : Li.hasB R x = false := by
  have h1 : ∀ d, d < 4 → Li.inR x (R d) = false := fun d hd => by
    unfold Li.inR
    rw [List.any_eq_false]
    intro y hy e
    exact h d hd (by rw [show x = y by simpa using e]; exact hy)
  unfold Li.hasB
  simp only [Li.inK, h1 0 (by omega), h1 1 (by omega), h1 2 (by omega), h1 3 (by omega), Bool.or_false]
theorem pushR_new {x : Int} (hc : c < 4) (hx : 1 ≤ x) (h : ∀ d, d < 4 → x ∉ R d) : Li.pushR R c x = Li.upd R c (R c ++ [x]) := by
  unfold Li.pushR Li.pushE Li.badC
  rw [hasB_no h, decide_eq_false (show ¬ ((c : Int) < 0) by omega), decide_eq_false (show ¬ ((4 : Int) ≤ c) by omega), if_neg (show ¬ x < 1 by omega)]
  simp
theorem pushS_mem {m : Nat} (hc : c < 4) (hf : ∀ d, d < 4 → ∀ j, j < m → ((pl T 0 n c b j : Nat) : Int) ∉ R d) :
    ∀ k, k ≤ m → ∀ d, d < 4 → ∀ x, x ∈ pushS T 0 n c b m R k d ↔ x ∈ R d ∨ (d = c ∧ ∃ j, m ≤ j + k ∧ j < m ∧ x = ((pl T 0 n c b j : Nat) : Int))
  | 0, _, d, hd, x => by
    constructor
    · exact .inl
    · rintro (h | ⟨_, j, h1, h2, _⟩)
      · exact h
      · omega
  | k + 1, hk, d, hd, x => by
    have ih := pushS_mem hc hf k (by omega)
    have hnew : ∀ d, d < 4 → ((pl T 0 n c b (m - 1 - k) : Nat) : Int) ∉ pushS T 0 n c b m R k d := by
      intro d hd hm
      rcases (ih d hd _).1 hm with z | ⟨rfl, j, h1, h2, h3⟩
      · exact hf d hd _ (by omega) z
      · have := pl_inj2 hc (show pl T 0 n d b (m - 1 - k) = pl T 0 n d b j by exact_mod_cast h3)
        omega
    have h1 : (1 : Int) ≤ ((pl T 0 n c b (m - 1 - k) : Nat) : Int) := by unfold pl; omega
    rw [pushS, pushR_new hc h1 hnew]
    by_cases hdc : d = c
    · subst hdc
      rw [Li.upd_same, List.mem_append, List.mem_singleton, ih d hd]
      constructor
      · rintro ((z | ⟨_, j, h1, h2, h3⟩) | rfl)
        · exact .inl z
        · exact .inr ⟨rfl, j, by omega, h2, h3⟩
        · exact .inr ⟨rfl, m - 1 - k, by omega, by omega, rfl⟩
      · rintro (z | ⟨_, j, h1, h2, h3⟩)
        · exact .inl (.inl z)
        · by_cases hj : m ≤ j + k
          · exact .inl (.inr ⟨rfl, j, hj, h2, h3⟩)
          · exact .inr (by rw [h3, show j = m - 1 - k by omega])
    · rw [Li.upd_ne _ _ _ _ hdc, ih d hd]
      constructor
      · rintro (z | ⟨e, _⟩)
        · exact .inl z
        · exact absurd e hdc
      · rintro (z | ⟨e, _⟩)
        · exact .inl z
        · exact absurd e hdc

/-- Nothing lies in a block that is free; what lies elsewhere is off it. -/
theorem Cel.off (h : Cel T n H Rs O) (hb : b < n) (he : en T H b = 0) {x o rf sz : Nat} (hx : O x = some (o, rf, sz)) : hd T n 0 ≤ x ∧ (x + sz < hd T n b ∨ hd T n b + 32 ≤ x) := by
  obtain ⟨_, _, _, _, _, h1⟩ := h.obj x o rf sz hx
  rcases h1 with ⟨c1, b1, m1, hc1, hb1, hm1, hs1, rfl, he1⟩ | ⟨b1, r1, hr1, hr13, hb1, hs1, rfl, he1⟩
  · have p1 := pl_in (T := T) (n := n) (b := b1) hc1 hm1
    have hne : b1 ≠ b := fun e => by rw [e, he] at he1; exact (eS_ne c1 o).1 he1.symm
    unfold hd at *; omega
  · have hno : ¬ (b1 ≤ b ∧ b < b1 + r1) := fun ⟨q1, q2⟩ => by
      rcases h.ent b1 (by omega) with z | z | ⟨c', o3, _, _, z, _⟩ | ⟨r', o3, z1, z2, z3, z4, z5, _, z7⟩
      · exact (eL_ne r1 o).1 (he1.symm.trans z)
      · exact (eL_ne r1 o).2 (he1.symm.trans z)
      · exact eS_eL (z.symm.trans he1)
      · obtain ⟨rfl, rfl⟩ := eL_inj (he1.symm.trans z5) (by omega) (by omega)
        by_cases e : b = b1
        · subst e; exact (eL_ne r1 o).1 (he1.symm.trans he)
        · have := z7 (b - b1) (by omega) (by omega)
          rw [show b1 + (b - b1) = b by omega, he] at this
          cases this
    unfold hd at *; omega
theorem Cel.noneAt (h : Cel T n H Rs O) (hb : b < n) (he : en T H b = 0) {x : Nat} (h1 : hd T n b ≤ x) (h2 : x < hd T n b + 32) : O x = none := by
  cases hx : O x with
  | none => rfl
  | some y =>
    obtain ⟨o, rf, sz⟩ := y
    have := (h.off hb he hx).2
    omega
/-- An object, and a cell of a Small block that is none. -/
theorem Cel.apartL (h : Cel T n H Rs O) {o m : Nat} (hb : b < n) (hc : c < 4) (hm : m < (Cl.clC c).toNat) (he : en T H b = eS c o) {y o' rf' sz' : Nat} (hy : O y = some (o', rf', sz')) (hne : y ≠ pl T 0 n c b m) :
    y + sz' < pl T 0 n c b m ∨ pl T 0 n c b m + (Cl.wdC c).toNat ≤ y := by
  obtain ⟨_, _, _, _, _, h2⟩ := h.obj y o' rf' sz' hy
  have p1 := pl_in (T := T) (n := n) (b := b) hc hm
  rcases h2 with ⟨c2, b2, m2, hc2, hb2, hm2, hs2, rfl, he2⟩ | ⟨b2, r2, hr2, hr23, hb2, hs2, rfl, he2⟩
  · have p2 := pl_in (T := T) (n := n) (b := b2) hc2 hm2
    by_cases hbb : b2 = b
    · subst hbb
      obtain ⟨rfl, rfl⟩ := eS_inj (he2.symm.trans he) hc2 hc
      have hm : m2 ≠ m := fun e => hne (by rw [e])
      rcases pl_apart (T := T) (n := n) (b := b2) hc hm with q | q <;> omega
    · unfold hd at p1 p2; omega
  · have hno : ¬ (b2 ≤ b ∧ b < b2 + r2) := fun ⟨q1, q2⟩ => by
      rcases h.ent b2 (by omega) with z | z | ⟨c', o3, _, _, z, _⟩ | ⟨r', o3, z1, z2, z3, z4, z5, _, z7⟩
      · exact (eL_ne r2 o').1 (he2.symm.trans z)
      · exact (eL_ne r2 o').2 (he2.symm.trans z)
      · exact eS_eL (z.symm.trans he2)
      · obtain ⟨rfl, rfl⟩ := eL_inj (he2.symm.trans z5) (by omega) (by omega)
        by_cases e : b = b2
        · subst e; exact eS_eL (he.symm.trans he2)
        · have := z7 (b - b2) (by omega) (by omega)
          rw [show b2 + (b - b2) = b by omega] at this
          exact (eS_ne c o).2 (he.symm.trans this)
    unfold hd at p1 ⊢; omega
theorem Cel.len (h : Cel T n H Rs O) : H.length = 3 + T + 33 * n := h.fit.len

/-- The first block that is free. -/
theorem Cel.free (h : Cel T n H Rs O) {run : Nat} (h1 : 1 ≤ run) (hf : frst (H.getD 0 0).toNat run = some b) : b + run ≤ n ∧ ∀ k, k < run → en T H (b + k) = 0 := by
  have hfit := frst_fit h.fit.iv h1 hf
  refine ⟨hfit, fun k hk => h.map _ (by omega) ?_⟩
  unfold frst at hf
  rw [List.find?_range_eq_some] at hf
  have h2 := hf.1
  simp only [Bm.isR, Bool.and_eq_true, decide_eq_true_eq] at h2
  exact Bm.allN_iff.1 h2.2 _ (by simp only [Int.toNat_natCast]; omega) (by simp only [Int.toNat_natCast]; omega)

/-- The words behind a block's cutting. -/
theorem cut_words (hN : H.length = 3 + T + 33 * n) (hb : b < n) (hc : c < 4) (M : Int) (k : Nat) : (cutS T 0 n i c (H.set 0 M, R) b).1.getD k 0 =
    if k = 3 + T + 0 + b then eS c i else if (∃ j, j < (Cl.clC c).toNat ∧ k = pl T 0 n c b j) then lw i else if k = 0 then M else H.getD k 0 := by
  unfold cutS
  simp only
  rw [getD_set', markS_all, setAll_len, setAll_get, getD_set']
  have hlen : (H.set 0 M).length = 3 + T + 33 * n := by simpa using hN
  rw [hlen]
  by_cases h1 : k = 3 + T + 0 + b
  · rw [if_pos ⟨h1, by omega⟩, if_pos h1]; rfl
  · rw [if_neg (fun z => h1 z.1), if_neg h1]
    by_cases h2 : ∃ j, j < (Cl.clC c).toNat ∧ k = pl T 0 n c b j
    · rw [if_pos h2, if_pos]
      obtain ⟨j, hj, rfl⟩ := h2
      refine ⟨List.mem_map.2 ⟨j, List.mem_range.2 hj, rfl⟩, ?_⟩
      have := pl_in (T := T) (n := n) (b := b) hc hj
      have := wd_ge hc
      unfold hd at *; omega
    · rw [if_neg h2, if_neg (fun z => h2 (by
        obtain ⟨j, hj, e⟩ := List.mem_map.1 z.1
        exact ⟨j, List.mem_range.1 hj, e.symm⟩))]
      by_cases h3 : k = 0
      · rw [if_pos ⟨h3, by omega⟩, if_pos h3]
      · rw [if_neg (fun z => h3 z.1), if_neg h3]

theorem setN_not {M k r j : Nat} (h : (Bm.setN M k r false).testBit j = true) : ¬ (k ≤ j ∧ j < k + r) := by
  intro hj
  by_cases hi : j < 64
  · rw [Bm.setN_bit _ _ _ _ _ hi, if_pos hj] at h; cases h
  · have h1 : (Bm.setN M k r false).testBit j = false := Nat.testBit_lt_two_pow (Nat.lt_of_lt_of_le (Bm.setN_lt M k r false) (Nat.pow_le_pow_right (by decide) (by omega)))
    rw [h1] at h; cases h

/-- A block is cut into cells. -/
theorem Cel.cut (h : Cel T n H Rs O) (hi : i < T) (hT : T ≤ 64) (hc : c < 4) (hf : frst (H.getD 0 0).toNat 1 = some b) :
    Cel T n (cutS T 0 n i c (H.set 0 (Bm.setN (H.getD 0 0).toNat b 1 false : Int), Rs i) b).1 (updO Rs i (cutS T 0 n i c (H.set 0 (Bm.setN (H.getD 0 0).toNat b 1 false : Int), Rs i) b).2) O ∧
    (cutS T 0 n i c (H.set 0 (Bm.setN (H.getD 0 0).toNat b 1 false : Int), Rs i) b).2 c ≠ [] := by
  obtain ⟨hbn, he0⟩ := h.free (run := 1) (by omega) hf
  have he : en T H b = 0 := he0 0 (by omega)
  have hb : b < n := by omega
  have hN := h.len
  obtain ⟨M, hM⟩ : ∃ M : Nat, M = Bm.setN (H.getD 0 0).toNat b 1 false := ⟨_, rfl⟩
  rw [← hM]
  have hw := fun k => cut_words (i := i) (R := Rs i) hN hb hc (M : Int) k
  have hfr : ∀ d, d < 4 → ∀ j, j < (Cl.clC c).toNat → ((pl T 0 n c b j : Nat) : Int) ∉ Rs i d := by
    intro d hd j hj hm
    obtain ⟨b', m', hb', hm', e, he', _, _⟩ := h.lst i hi d hd _ hm
    have := pl_inj hc hj hd hm' (show pl T 0 n c b j = pl T 0 n d b' m' by exact_mod_cast e)
    subst this
    exact (eS_ne d i).1 (he'.symm.trans he)
  have hmem := pushS_mem (T := T) (n := n) (b := b) (R := Rs i) hc hfr (Cl.clC c).toNat (Nat.le_refl _)
  have hR : (cutS T 0 n i c (H.set 0 (M : Int), Rs i) b).2 = pushS T 0 n c b (Cl.clC c).toNat (Rs i) (Cl.clC c).toNat := rfl
  have hcl : 3 ≤ (Cl.clC c).toNat := by rcases wd_cl hc with ⟨h1, h2⟩ | ⟨h1, h2⟩ | ⟨h1, h2⟩ | ⟨h1, h2⟩ <;> omega
  rw [hR]
  have hen : ∀ b', b' < n → en T (cutS T 0 n i c (H.set 0 (M : Int), Rs i) b).1 b' = if b' = b then eS c i else en T H b' := by
    intro b' hb'
    show (cutS T 0 n i c (H.set 0 (M : Int), Rs i) b).1.getD (3 + T + 0 + b') 0 = _
    rw [hw]
    by_cases e : b' = b
    · rw [if_pos (by omega), if_pos e]
    · rw [if_neg (by omega), if_neg e, if_neg, if_neg (by omega)]
      rintro ⟨j, hj, e⟩
      have := pl_in (T := T) (n := n) (b := b) hc hj
      unfold hd at this; omega
  have hold : ∀ k, hd T n 0 ≤ k → (k < hd T n b ∨ hd T n b + 32 ≤ k) → (cutS T 0 n i c (H.set 0 (M : Int), Rs i) b).1.getD k 0 = H.getD k 0 := by
    intro k h1 h2
    rw [hw, if_neg (by unfold hd at *; omega), if_neg, if_neg (by unfold hd at *; omega)]
    rintro ⟨j, hj, e⟩
    have := pl_in (T := T) (n := n) (b := b) hc hj
    have := wd_ge hc
    omega
  have hzero : (cutS T 0 n i c (H.set 0 (M : Int), Rs i) b).1.getD 0 0 = (M : Int) := by
    rw [hw, if_neg (by omega), if_neg, if_pos rfl]
    rintro ⟨j, hj, e⟩
    have := pl_in (T := T) (n := n) (b := b) hc hj
    unfold hd at this; omega
  obtain ⟨hp, hl⟩ := h.fit.ls i hi
  refine ⟨⟨?_, ?_, ?_, ?_, ?_⟩, ?_⟩
  · have hv : Ivn T 0 n (cutS T 0 n i c (H.set 0 (M : Int), Rs i) b).1 := by
      unfold cutS
      refine Ivn.entry (Ivn.low ?_ (mark_low _)) b hb ?_
      · rw [hM]; exact h.fit.iv.claim b 1
      · rw [ek_word (by omega) (by omega) (by omega) (by omega) (by rw [Tb.mayE_iff]; omega)]; decide
    exact h.fit.upd hv (hp.pushes hc _) (pushS_ok (T := T) (G := 0) (n := n) hc hb rfl (by omega) hl _ (Nat.le_refl _))
  · intro b' hb' hbit
    rw [hzero, Int.toNat_natCast, hM] at hbit
    have h1 := setN_not hbit
    rw [hen b' hb', if_neg (by omega)]
    exact h.map b' hb' (setN_sub hbit)
  · intro b' hb'
    rw [hen b' hb']
    by_cases e : b' = b
    · subst e
      rw [if_pos rfl]
      refine .inr (.inr (.inl ⟨c, i, hc, hi, rfl, fun m hm => .inr ?_⟩))
      rw [updO_same]
      exact (hmem c hc _).2 (.inr ⟨rfl, m, by omega, hm, rfl⟩)
    · rw [if_neg e]
      rcases h.ent b' hb' with z | z | ⟨c', o', hc', ho', z, hz⟩ | ⟨r', o3, z1, z2, z3, z4, z5, z6, z7⟩
      · exact .inl z
      · exact .inr (.inl z)
      · refine .inr (.inr (.inl ⟨c', o', hc', ho', z, fun m hm => ?_⟩))
        rcases hz m hm with q | q
        · exact .inl q
        · refine .inr ?_
          by_cases ho : o' = i
          · subst ho
            rw [updO_same]
            exact (hmem c' hc' _).2 (.inl q)
          · rw [updO_ne ho]; exact q
      · refine .inr (.inr (.inr ⟨r', o3, z1, z2, z3, z4, z5, z6, fun k hk1 hk2 => ?_⟩))
        rw [hen _ (by omega), if_neg, z7 k hk1 hk2]
        intro e2
        have := z7 k hk1 hk2
        rw [e2, he] at this
        cases this
  · intro o ho c' hc' x hx
    have old : ∀ x, x ∈ Rs o c' → ∃ b' m : Nat, b' < n ∧ m < (Cl.clC c').toNat ∧ x = ((pl T 0 n c' b' m : Nat) : Int) ∧ en T (cutS T 0 n i c (H.set 0 (M : Int), Rs i) b).1 b' = eS c' o ∧ O (pl T 0 n c' b' m) = none ∧ (cutS T 0 n i c (H.set 0 (M : Int), Rs i) b).1.getD (pl T 0 n c' b' m) 0 = lw o := by
      intro x hx
      obtain ⟨b', m', hb', hm', e, he', hO, hl'⟩ := h.lst o ho c' hc' _ hx
      have hne : b' ≠ b := fun e => by rw [e] at he'; exact (eS_ne c' o).1 (he'.symm.trans he)
      have p := pl_in (T := T) (n := n) (b := b') hc' hm'
      have := wd_ge hc'
      refine ⟨b', m', hb', hm', e, by rw [hen b' hb', if_neg hne]; exact he', hO, ?_⟩
      rw [hold _ (by unfold hd at *; omega) (by unfold hd at *; omega)]
      exact hl'
    by_cases hoi : o = i
    · subst hoi
      rw [updO_same] at hx
      rcases (hmem c' hc' _).1 hx with z | ⟨rfl, j, _, hj, rfl⟩
      · exact old x z
      · have p := pl_in (T := T) (n := n) (b := b) hc hj
        have := wd_ge hc
        refine ⟨b, j, hb, hj, rfl, by rw [hen b hb, if_pos rfl], h.noneAt hb he (by omega) (by omega), ?_⟩
        rw [hw, if_neg (by unfold hd at p; omega), if_pos ⟨j, hj, rfl⟩]
    · rw [updO_ne hoi] at hx
      exact old x hx
  · intro x o rf sz hx
    obtain ⟨h1, h2, h3, h4, h5, h6⟩ := h.obj x o rf sz hx
    obtain ⟨g1, g2⟩ := h.off hb he hx
    refine ⟨h1, h2, h3, ?_, fun k hk => ?_, ?_⟩
    · rw [hold x g1 (by omega)]; exact h4
    · rw [hold (x + 1 + k) (by omega) (by omega)]; exact h5 k hk
    · rcases h6 with ⟨c1, b1, m1, q1, q2, q3, q4, q5, q6⟩ | ⟨b1, r1, q1, q2, q3, q4, q5, q6⟩
      · refine .inl ⟨c1, b1, m1, q1, q2, q3, q4, q5, ?_⟩
        rw [hen b1 q2, if_neg (fun e => by rw [e, he] at q6; exact (eS_ne c1 o).1 q6.symm)]; exact q6
      · refine .inr ⟨b1, r1, q1, q2, q3, q4, q5, ?_⟩
        rw [hen b1 (by omega), if_neg (fun e => by rw [e, he] at q6; exact (eL_ne r1 o).1 q6.symm)]; exact q6
  · intro e
    have := (hmem c hc ((pl T 0 n c b 0 : Nat) : Int)).2 (.inr ⟨rfl, 0, by omega, by omega, rfl⟩)
    rw [e] at this
    cases this
end
end Go.Proofs.YticbnckikkdknaaGreatDoor

namespace Go.Proofs.YticbnckikkdknaaGreatDoor
set_option linter.unusedVariables false
set_option linter.unusedSimpArgs false

section
variable {T n i c b : Nat} {H : List Int} {Rs : Nat → Nat → List Int} {O : Obs} {wk : Bool} {R : Nat → List Int}

theorem made_words {a sz : Nat} {v : Int} (ha : a + sz < H.length) (k : Nat) : ((clearH H a sz).set a v).getD k 0 = if k = a then v else if a < k ∧ k ≤ a + sz then 0 else H.getD k 0 := by
  rw [getD_set', clearH_all, setAll_len, setAll_get]
  by_cases h1 : k = a
  · rw [if_pos ⟨h1, by omega⟩, if_pos h1]
  · rw [if_neg (fun z => h1 z.1), if_neg h1]
    by_cases h2 : a < k ∧ k ≤ a + sz
    · rw [if_pos h2, if_pos]
      exact ⟨List.mem_map.2 ⟨k - a - 1, List.mem_range.2 (by omega), by omega⟩, by omega⟩
    · rw [if_neg h2, if_neg]
      rintro ⟨z, _⟩
      obtain ⟨j, hj, e⟩ := List.mem_map.1 z
      have := List.mem_range.1 hj
      omega

/-- An object is made in a cell that was on the list. -/
theorem Cel.pop (h : Cel T n H Rs O) (hi : i < T) (hT : T ≤ 64) (hn : n ≤ 64) (hc : c < 4) {rf sz : Nat} (hrf : rf ≤ sz) (hsz : sz + 1 ≤ (Cl.wdC c).toNat) (hne : Rs i c ≠ []) :
    ∃ a : Nat, (Rs i c).getLastD 0 = a ∧ O a = none ∧ Cel T n ((clearH H a sz).set a (hw i rf sz)) (updO Rs i (Li.popR (Rs i) c)) (setOb O a (i, rf, sz)) := by
  have hlast : (Rs i c).getLastD 0 ∈ Rs i c := by
    rw [List.getLastD_eq_getLast?, List.getLast?_eq_some_getLast hne]
    exact List.getLast_mem hne
  obtain ⟨b, m, hb, hm, ha, he, hO, hlw⟩ := h.lst i hi c hc _ hlast
  obtain ⟨a, haa⟩ : ∃ a, a = pl T 0 n c b m := ⟨_, rfl⟩
  rw [← haa] at ha hO hlw
  have hpR : Li.popR (Rs i) c = Li.upd (Rs i) c (Rs i c).dropLast := by
    unfold Li.popR
    rw [popE_at hc, if_neg hne]
    rfl
  have hdec : (Rs i c).dropLast ++ [(Rs i c).getLastD 0] = Rs i c := by
    rw [List.getLastD_eq_getLast?, List.getLast?_eq_some_getLast hne]
    exact List.dropLast_concat_getLast hne
  obtain ⟨hp, hl⟩ := h.fit.ls i hi
  have hnd := (hl c hc).1
  rw [← hdec, List.nodup_append] at hnd
  have hnot : ((a : Nat) : Int) ∉ (Rs i c).dropLast := fun z => hnd.2.2 _ z _ (List.mem_singleton.2 rfl) (by rw [ha])
  have hN := h.len
  have p := pl_in (T := T) (n := n) (b := b) hc hm
  rw [← haa] at p
  have hwg := wd_ge hc
  have hlt : a + sz < H.length := by unfold hd at p; omega
  have hge : hd T n 0 ≤ a := by unfold hd at *; omega
  refine ⟨a, ha, hO, ?_⟩
  have hw := fun k => made_words (H := H) (v := hw i rf sz) hlt k
  have hen : ∀ b', b' < n → en T ((clearH H a sz).set a (Go.Proofs.YticbnckikkdknaaGreatDoor.hw i rf sz)) b' = en T H b' := by
    intro b' hb'
    show ((clearH H a sz).set a (Go.Proofs.YticbnckikkdknaaGreatDoor.hw i rf sz)).getD (3 + T + 0 + b') 0 = _
    rw [hw, if_neg (by unfold hd at *; omega), if_neg (by unfold hd at *; omega)]
  have hmemR : ∀ o, ∀ c', ∀ x, x ∈ updO Rs i (Li.popR (Rs i) c) o c' → x ∈ Rs o c' ∧ (o = i → c' = c → x ≠ ((a : Nat) : Int)) := by
    intro o c' x hx
    by_cases ho : o = i
    · subst ho
      rw [updO_same, hpR] at hx
      by_cases hcc : c' = c
      · subst hcc
        rw [Li.upd_same] at hx
        exact ⟨List.dropLast_subset _ hx, fun _ _ e => hnot (e ▸ hx)⟩
      · rw [Li.upd_ne _ _ _ _ hcc] at hx
        exact ⟨hx, fun _ e => absurd e hcc⟩
    · rw [updO_ne ho] at hx
      exact ⟨hx, fun e => absurd e ho⟩
  refine ⟨?_, ?_, ?_, ?_, ?_⟩
  · refine h.fit.upd ((h.fit.iv.low (clear_low (by unfold hd at hge; omega) _)).low (Low.set (by unfold hd at hge; omega) _)) (hp.pop hc) ?_
    intro d hd'
    rw [hpR]
    by_cases hdc : d = c
    · subst hdc
      rw [Li.upd_same]
      exact ⟨(List.dropLast_sublist _).nodup (hl d hd').1, fun x hx => (hl d hd').2 x (List.dropLast_subset _ hx)⟩
    · rw [Li.upd_ne _ _ _ _ hdc]; exact hl d hd'
  · intro b' hb' hbit
    rw [hen b' hb']
    rw [hw, if_neg (by unfold hd at hge; omega), if_neg (by omega)] at hbit
    exact h.map b' hb' hbit
  · intro b' hb'
    rw [hen b' hb']
    rcases h.ent b' hb' with z | z | ⟨c', o', hc', ho', z, hz⟩ | ⟨r', o3, z1, z2, z3, z4, z5, ⟨rf3, sz3, z6⟩, z7⟩
    · exact .inl z
    · exact .inr (.inl z)
    · refine .inr (.inr (.inl ⟨c', o', hc', ho', z, fun m' hm' => ?_⟩))
      by_cases e : pl T 0 n c' b' m' = a
      · have hbb := pl_inj hc' hm' hc hm (e.trans haa)
        subst hbb
        obtain ⟨rfl, rfl⟩ := eS_inj (z.symm.trans he) hc' hc
        exact .inl ⟨rf, sz, by rw [e]; exact setOb_same _ _ _⟩
      · rcases hz m' hm' with ⟨r4, s4, q⟩ | q
        · exact .inl ⟨r4, s4, by rw [setOb_ne e]; exact q⟩
        · refine .inr ?_
          by_cases ho : o' = i
          · subst ho
            rw [updO_same, hpR]
            by_cases hcc : c' = c
            · subst hcc
              rw [Li.upd_same]
              have q' := q
              rw [← hdec, List.mem_append, List.mem_singleton] at q'
              rcases q' with q' | q'
              · exact q'
              · exact absurd (show pl T 0 n c' b' m' = a by rw [ha] at q'; exact_mod_cast q') e
            · rw [Li.upd_ne _ _ _ _ hcc]; exact q
          · rw [updO_ne ho]; exact q
    · refine .inr (.inr (.inr ⟨r', o3, z1, z2, z3, z4, z5, ⟨rf3, sz3, ?_⟩, fun k hk1 hk2 => by rw [hen _ (by omega)]; exact z7 k hk1 hk2⟩))
      rw [setOb_ne]; exact z6
      intro e
      rw [e, hO] at z6
      cases z6
  · intro o ho c' hc' x hx
    obtain ⟨hx1, hx2⟩ := hmemR o c' x hx
    obtain ⟨b', m', hb', hm', e, he', hO', hl'⟩ := h.lst o ho c' hc' _ hx1
    have hna : pl T 0 n c' b' m' ≠ a := by
      intro e2
      have hbb := pl_inj hc' hm' hc hm (e2.trans haa)
      subst hbb
      obtain ⟨rfl, rfl⟩ := eS_inj (he'.symm.trans he) hc' hc
      exact hx2 rfl rfl (by rw [e, e2])
    refine ⟨b', m', hb', hm', e, by rw [hen b' hb']; exact he', by rw [setOb_ne hna]; exact hO', ?_⟩
    rw [hw, if_neg hna, if_neg]
    · exact hl'
    · rintro ⟨q1, q2⟩
      by_cases hbb : b' = b
      · subst hbb
        obtain ⟨rfl, rfl⟩ := eS_inj (he'.symm.trans he) hc' hc
        have hmm : m ≠ m' := fun e3 => hna (by rw [haa, e3])
        have := pl_apart (T := T) (n := n) (b := b') hc hmm
        rw [← haa] at this
        omega
      · have p2 := pl_in (T := T) (n := n) (b := b') hc' hm'
        have := wd_ge hc'
        unfold hd at p p2; omega
  · intro x o rf' sz' hx
    by_cases e : x = a
    · subst e
      rw [setOb_same] at hx
      simp only [Option.some.injEq, Prod.mk.injEq] at hx
      obtain ⟨rfl, rfl, rfl⟩ := hx
      refine ⟨hi, hrf, by omega, by rw [hw, if_pos rfl], fun k hk => by rw [hw, if_neg (by omega), if_pos (by omega)], .inl ⟨c, b, m, hc, hb, hm, hsz, haa, by rw [hen b hb]; exact he⟩⟩
    · rw [setOb_ne e] at hx
      obtain ⟨h1, h2, h3, h4, h5, h6⟩ := h.obj x o rf' sz' hx
      have hap := h.apartL hb hc hm he hx (by rw [← haa]; exact e)
      rw [← haa] at hap
      refine ⟨h1, h2, h3, ?_, fun k hk => ?_, ?_⟩
      · rw [hw, if_neg e, if_neg (by omega)]; exact h4
      · rw [hw, if_neg (by omega), if_neg (by omega)]; exact h5 k hk
      · rcases h6 with ⟨c1, b1, m1, q1, q2, q3, q4, q5, q6⟩ | ⟨b1, r1, q1, q2, q3, q4, q5, q6⟩
        · exact .inl ⟨c1, b1, m1, q1, q2, q3, q4, q5, by rw [hen b1 q2]; exact q6⟩
        · exact .inr ⟨b1, r1, q1, q2, q3, q4, q5, by rw [hen b1 (by omega)]; exact q6⟩

theorem large_at {a run sz : Nat} {v e M : Int} (hN : H.length = 3 + T + 33 * n) (hr1 : 1 ≤ run) (hb : b + run ≤ n) (ha : a = hd T n b) (hsz : sz + 1 ≤ 32 * run) (k : Nat) :
    (((tailH T 0 b (clearH (H.set 0 M) a sz) (run - 1)).set a v).set (3 + T + 0 + b) e).getD k 0 =
      if k = 3 + T + 0 + b then e else if 3 + T + 0 + b < k ∧ k < 3 + T + 0 + b + run then 3 else if k = a then v else if a < k ∧ k ≤ a + sz then 0 else if k = 0 then M else H.getD k 0 := by
  have ha' : a = 3 + T + 0 + n + 32 * b := ha
  have hl : ((H.set 0 M)).length = 3 + T + 33 * n := by simpa using hN
  rw [getD_set', List.length_set, tailH_all, setAll_len, clearH_all, setAll_len, hl]
  by_cases h1 : k = 3 + T + 0 + b
  · rw [if_pos ⟨h1, by omega⟩, if_pos h1]
  · rw [if_neg (fun z => h1 z.1), if_neg h1, getD_set', setAll_len, setAll_len, hl, setAll_get, setAll_len, hl, setAll_get, hl, getD_set', hN]
    by_cases h2 : 3 + T + 0 + b < k ∧ k < 3 + T + 0 + b + run
    · rw [if_pos h2, if_neg (by omega), if_pos]
      exact ⟨List.mem_map.2 ⟨k - (3 + T + 0 + b) - 1, List.mem_range.2 (by omega), by omega⟩, by omega⟩
    · rw [if_neg h2]
      by_cases h3 : k = a
      · rw [if_pos ⟨h3, by omega⟩, if_pos h3]
      · rw [if_neg (fun z => h3 z.1), if_neg h3, if_neg (fun z => ?_)]
        · by_cases h4 : a < k ∧ k ≤ a + sz
          · rw [if_pos h4, if_pos]
            exact ⟨List.mem_map.2 ⟨k - a - 1, List.mem_range.2 (by omega), by omega⟩, by omega⟩
          · rw [if_neg h4, if_neg (fun z => ?_)]
            · by_cases h5 : k = 0
              · rw [if_pos ⟨h5, by omega⟩, if_pos h5]
              · rw [if_neg (fun z => h5 z.1), if_neg h5]
            · obtain ⟨j, hj, e⟩ := List.mem_map.1 z.1
              have := List.mem_range.1 hj
              omega
        · obtain ⟨j, hj, e⟩ := List.mem_map.1 z.1
          have := List.mem_range.1 hj
          omega

/-- An object is made in a run of blocks. -/
theorem Cel.large (h : Cel T n H Rs O) (hi : i < T) (hT : T ≤ 64) (hn : n ≤ 64) {run rf sz : Nat} (hr1 : 1 ≤ run) (hr3 : run ≤ 3) (hrf : rf ≤ sz) (hsz : sz + 1 ≤ 32 * run) (hsm : sz ≤ 95)
    (hf : frst (H.getD 0 0).toNat run = some b)
    (hfit : Fit T n (((tailH T 0 b (clearH (H.set 0 (Bm.setN (H.getD 0 0).toNat b run false : Int)) (hd T n b) sz) (run - 1)).set (hd T n b) (hw i rf sz)).set (3 + T + 0 + b) (eL run i)) Rs) :
    O (hd T n b) = none ∧ Cel T n (((tailH T 0 b (clearH (H.set 0 (Bm.setN (H.getD 0 0).toNat b run false : Int)) (hd T n b) sz) (run - 1)).set (hd T n b) (hw i rf sz)).set (3 + T + 0 + b) (eL run i)) Rs (setOb O (hd T n b) (i, rf, sz)) := by
  obtain ⟨hbn, he0⟩ := h.free hr1 hf
  have hN := h.len
  obtain ⟨M, hM⟩ : ∃ M : Nat, M = Bm.setN (H.getD 0 0).toNat b run false := ⟨_, rfl⟩
  rw [← hM] at hfit ⊢
  have hw := fun k => large_at (sz := sz) (v := hw i rf sz) (e := eL run i) (M := (M : Int)) hN hr1 hbn rfl hsz k
  obtain ⟨X, hX⟩ : ∃ X, X = (((tailH T 0 b (clearH (H.set 0 (M : Int)) (hd T n b) sz) (run - 1)).set (hd T n b) (Go.Proofs.YticbnckikkdknaaGreatDoor.hw i rf sz)).set (3 + T + 0 + b) (eL run i)) := ⟨_, rfl⟩
  rw [← hX] at hfit hw ⊢
  clear hX
  have hO : O (hd T n b) = none := h.noneAt (b := b) (by omega) (by have := he0 0 (by omega); simpa using this) (by omega) (by omega)
  have hge : 3 + T + 0 + n ≤ hd T n b := by unfold hd; omega
  refine ⟨hO, ?_⟩
  have hen : ∀ b', b' < n → en T X b' = if b' = b then eL run i else if b < b' ∧ b' < b + run then 3 else en T H b' := by
    intro b' hb'
    show X.getD (3 + T + 0 + b') 0 = _
    rw [hw]
    by_cases e : b' = b
    · rw [if_pos (by omega), if_pos e]
    · rw [if_neg (by omega), if_neg e]
      by_cases e2 : b < b' ∧ b' < b + run
      · rw [if_pos (by omega), if_pos e2]
      · rw [if_neg (by omega), if_neg e2, if_neg (by omega), if_neg (by omega), if_neg (by omega)]
  have hnz : ∀ b', b' < n → en T H b' ≠ 0 → en T X b' = en T H b' := by
    intro b' hb' hne
    rw [hen b' hb', if_neg (fun e => hne (by rw [e]; have := he0 0 (by omega); simpa using this)), if_neg]
    rintro ⟨q1, q2⟩
    have := he0 (b' - b) (by omega)
    rw [show b + (b' - b) = b' by omega] at this
    exact hne this
  have hold : ∀ k, hd T n 0 ≤ k → (k < hd T n b ∨ hd T n b + sz < k) → X.getD k 0 = H.getD k 0 := by
    intro k h1 h2
    rw [hw, if_neg (by unfold hd at *; omega), if_neg (by unfold hd at *; omega), if_neg (by omega), if_neg (by omega), if_neg (by unfold hd at h1; omega)]
  -- an object is off the run
  have hoff : ∀ {x o rf' sz' : Nat}, O x = some (o, rf', sz') → hd T n 0 ≤ x ∧ (x + sz' < hd T n b ∨ hd T n b + 32 * run ≤ x) := by
    intro x o rf' sz' hx
    have a0 := h.off (b := b) (by omega) (by have := he0 0 (by omega); simpa using this) hx
    by_cases q1 : run = 1
    · subst q1; omega
    · have a1 := h.off (b := b + 1) (by omega) (he0 1 (by omega)) hx
      by_cases q2 : run = 2
      · subst q2; unfold hd at *; omega
      · have a2 := h.off (b := b + 2) (by omega) (he0 2 (by omega)) hx
        unfold hd at *; omega
  refine ⟨hfit, ?_, ?_, ?_, ?_⟩
  · intro b' hb' hbit
    rw [hw, if_neg (by omega), if_neg (by omega), if_neg (by omega), if_neg (by omega), if_pos rfl, Int.toNat_natCast, hM] at hbit
    have h1 := setN_not hbit
    rw [hen b' hb', if_neg (by omega), if_neg (by omega)]
    exact h.map b' hb' (setN_sub hbit)
  · intro b' hb'
    rw [hen b' hb']
    by_cases e : b' = b
    · subst e
      rw [if_pos rfl]
      refine .inr (.inr (.inr ⟨run, i, hr1, hr3, hi, hbn, rfl, ⟨rf, sz, setOb_same _ _ _⟩, fun k hk1 hk2 => ?_⟩))
      rw [hen _ (by omega), if_neg (by omega), if_pos (by omega)]
    · rw [if_neg e]
      by_cases e2 : b < b' ∧ b' < b + run
      · rw [if_pos e2]; exact .inr (.inl rfl)
      · rw [if_neg e2]
        rcases h.ent b' hb' with z | z | ⟨c', o', hc', ho', z, hz⟩ | ⟨r', o3, z1, z2, z3, z4, z5, ⟨rf3, sz3, z6⟩, z7⟩
        · exact .inl z
        · exact .inr (.inl z)
        · refine .inr (.inr (.inl ⟨c', o', hc', ho', z, fun m' hm' => ?_⟩))
          rcases hz m' hm' with ⟨r4, s4, q⟩ | q
          · refine .inl ⟨r4, s4, ?_⟩
            rw [setOb_ne]; exact q
            intro e3
            rw [e3, hO] at q; cases q
          · exact .inr q
        · refine .inr (.inr (.inr ⟨r', o3, z1, z2, z3, z4, z5, ⟨rf3, sz3, ?_⟩, fun k hk1 hk2 => ?_⟩))
          · rw [setOb_ne]; exact z6
            intro e3
            rw [e3, hO] at z6; cases z6
          · rw [hnz _ (by omega) (by rw [z7 k hk1 hk2]; decide)]; exact z7 k hk1 hk2
  · intro o ho c' hc' x hx
    obtain ⟨b', m', hb', hm', e, he', hO', hl'⟩ := h.lst o ho c' hc' _ hx
    have hne : en T H b' ≠ 0 := by rw [he']; exact (eS_ne c' o).1
    have hout : ¬ (b ≤ b' ∧ b' < b + run) := fun ⟨q1, q2⟩ => by
      have := he0 (b' - b) (by omega)
      rw [show b + (b' - b) = b' by omega] at this
      exact hne this
    have p2 := pl_in (T := T) (n := n) (b := b') hc' hm'
    have := wd_ge hc'
    refine ⟨b', m', hb', hm', e, by rw [hnz b' hb' hne]; exact he', ?_, ?_⟩
    · rw [setOb_ne]; exact hO'
      unfold hd at *; omega
    · rw [hold _ (by unfold hd at *; omega) (by unfold hd at *; omega)]; exact hl'
  · intro x o rf' sz' hx
    by_cases e : x = hd T n b
    · subst e
      rw [setOb_same] at hx
      simp only [Option.some.injEq, Prod.mk.injEq] at hx
      obtain ⟨rfl, rfl, rfl⟩ := hx
      refine ⟨hi, hrf, hsm, by rw [hw, if_neg (by omega), if_neg (by omega), if_pos rfl], fun k hk => by rw [hw, if_neg (by omega), if_neg (by omega), if_neg (by omega), if_pos (by omega)], .inr ⟨b, run, hr1, hr3, hbn, hsz, rfl, by rw [hen b (by omega), if_pos rfl]⟩⟩
    · rw [setOb_ne e] at hx
      obtain ⟨h1, h2, h3, h4, h5, h6⟩ := h.obj x o rf' sz' hx
      obtain ⟨g1, g2⟩ := hoff hx
      refine ⟨h1, h2, h3, ?_, fun k hk => ?_, ?_⟩
      · rw [hold x g1 (by omega)]; exact h4
      · rw [hold (x + 1 + k) (by omega) (by omega)]; exact h5 k hk
      · rcases h6 with ⟨c1, b1, m1, q1, q2, q3, q4, q5, q6⟩ | ⟨b1, r1, q1, q2, q3, q4, q5, q6⟩
        · exact .inl ⟨c1, b1, m1, q1, q2, q3, q4, q5, by rw [hnz b1 q2 (by rw [q6]; exact (eS_ne c1 o).1)]; exact q6⟩
        · exact .inr ⟨b1, r1, q1, q2, q3, q4, q5, by rw [hnz b1 (by omega) (by rw [q6]; exact (eL_ne r1 o).1)]; exact q6⟩

/-- Make, as a whole. -/
theorem Cel.make (h : Cel T n H Rs O) (hi : i < T) (hT : T ≤ 64) (hn : n ≤ 64) {rf sz : Nat} (hrf : rf ≤ sz) (hsm : sz ≤ 95) :
    ((pmakeS T 0 n i wk rf sz (H, Rs i)).2 = none ∧ Cel T n (pmakeS T 0 n i wk rf sz (H, Rs i)).1.1 (updO Rs i (pmakeS T 0 n i wk rf sz (H, Rs i)).1.2) O) ∨
    ∃ a : Nat, (pmakeS T 0 n i wk rf sz (H, Rs i)).2 = some (a : Int) ∧ O a = none ∧ Cel T n (pmakeS T 0 n i wk rf sz (H, Rs i)).1.1 (updO Rs i (pmakeS T 0 n i wk rf sz (H, Rs i)).1.2) (setOb O a (i, rf, sz)) := by
  obtain ⟨hp, hl⟩ := h.fit.ls i hi
  have hN := h.len
  have hupd : updO Rs i (Rs i) = Rs := funext fun j => by
    by_cases e : j = i
    · subst e; rw [updO_same]
    · rw [updO_ne e]
  unfold pmakeS
  rcases size_ways sz hsm with ⟨h0, c, hc, hcc, hw⟩ | ⟨run, h1, h3, hr, hw⟩
  · rw [if_pos h0, hcc, Int.toNat_natCast]
    have hwn := wd_nat hc
    have hce := (cell_inv (wk := wk) (s := (H, Rs i)) hc (show i < 64 by omega) hn h.fit.iv hp).1
    unfold smallS
    rw [hce]
    unfold dcellS
    by_cases hemp : Rs i c = []
    · rw [if_pos hemp]
      have hfd : foundS T 0 n i c (H, Rs i) n = (H, Rs i) := h.found hc n (Nat.le_refl _)
      unfold moreS
      rw [hfd, if_pos hemp]
      simp only
      rw [h.tidy]
      cases hf : frst (H.getD 0 0).toNat 1 with
      | none =>
        simp only
        rw [popS_none hc hemp]
        exact .inl ⟨rfl, by rw [hupd]; exact h⟩
      | some b =>
        simp only
        obtain ⟨hc1, hne⟩ := h.cut hi hT hc hf
        generalize hs : cutS T 0 n i c (H.set 0 (Bm.setN (H.getD 0 0).toNat b 1 false : Int), Rs i) b = s1 at hc1 hne ⊢
        have hR1 : updO Rs i s1.2 i = s1.2 := updO_same _
        obtain ⟨a, ha, hOa, hcel⟩ := hc1.pop hi hT hn hc (rf := rf) (sz := sz) hrf (by omega) (by rw [hR1]; exact hne)
        rw [hR1] at ha hcel
        have hpop : popS s1 c = ((s1.1, Li.popR s1.2 c), some (a : Int)) := by
          unfold popS Li.popX
          rw [popE_at hc, if_neg hne]
          simp only [Int.toNat_natCast, ite_true]
          rw [ha]
        rw [hpop]
        refine .inr ⟨a, rfl, hOa, ?_⟩
        have hud : updO (updO Rs i s1.2) i (Li.popR s1.2 c) = updO Rs i (Li.popR s1.2 c) := funext fun j => by
          by_cases e : j = i
          · subst e; rw [updO_same, updO_same]
          · rw [updO_ne e, updO_ne e, updO_ne e]
        rw [hud] at hcel
        exact hcel
    · rw [if_neg hemp]
      obtain ⟨a, ha, hOa, hcel⟩ := h.pop hi hT hn hc (rf := rf) (sz := sz) hrf (by omega) hemp
      have hpop : popS (H, Rs i) c = ((H, Li.popR (Rs i) c), some (a : Int)) := by
        unfold popS Li.popX
        rw [popE_at hc, if_neg hemp]
        simp only [Int.toNat_natCast, ite_true]
        rw [ha]
      rw [hpop]
      exact .inr ⟨a, rfl, hOa, hcel⟩
  · rw [if_neg (by omega), hr, Int.toNat_natCast]
    have hbl := (blocks_inv (wk := wk) (o := i) h1 hn h.fit.iv).1
    obtain ⟨hfitA, _⟩ : Fit T n (pmakeS T 0 n i wk rf sz (H, Rs i)).1.1 (updO Rs i (pmakeS T 0 n i wk rf sz (H, Rs i)).1.2) ∧ True := ⟨(pmake_fit (wk := wk) (rf := rf) h.fit hi hT hn hsm).2.1, trivial⟩
    unfold pmakeS at hfitA
    rw [if_neg (by omega), hr, Int.toNat_natCast] at hfitA
    unfold largeS at hfitA ⊢
    rw [hbl] at hfitA ⊢
    unfold dblocksH at hfitA ⊢
    have hwt : waitH T 0 n i H n = H := by
      have := h.tidy (i := i) (wk := false)
      simpa [tidyH] using this
    rw [hwt] at hfitA ⊢
    cases hf : frst (H.getD 0 0).toNat run with
    | none =>
      have : ∀ (wk : Bool), (if wk = true then ((H, none) : List Int × Option Nat) else (H, none)) = (H, none) := fun wk => by split <;> rfl
      simp only [this]
      exact .inl ⟨by first | rfl | trivial, by rw [hupd]; exact h⟩
    | some b =>
      rw [hf] at hfitA
      simp only at hfitA ⊢
      rw [hupd] at hfitA ⊢
      obtain ⟨q1, q2⟩ := h.large hi hT hn h1 h3 hrf hw hsm hf hfitA
      exact .inr ⟨hd T n b, rfl, q1, q2⟩
end
end Go.Proofs.YticbnckikkdknaaGreatDoor
