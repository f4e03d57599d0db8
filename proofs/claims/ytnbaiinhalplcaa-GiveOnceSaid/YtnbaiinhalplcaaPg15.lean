/- Pieces of code done alone, from slots known to slots known, at frames of whatever size; an agent's, and who steps'. Plain facts on a map's bits: a number by its bits; a run of blocks; the least one that is free; how many are. Nothing here speaks of the program. Conditions: as each lemma states them. Plain facts: the sum of a number's bits, by halves, pairs, nibbles and bytes. Nothing here speaks of the program. Conditions: the number is below 2^64. The walks of layer bitmap: each function returns what the plain functions say. Conditions: as each theorem states them (a map's number is that of a uint64). The walk of Find: a labelled loop. Plain facts on a table entry's numbers and bits; nothing here speaks of the program. Conditions: as each lemma states them. Plain facts on blocks that are claimed and given back: the map's number, the entries' words, the arena's words of both. Conditions: none beyond the theorems' own. The frame of a law's proof, of whatever program: where a law's walk returns true and turns nothing below the heap's old size, what the row asks behind the call is so. Conditions: the arguments' types can be read and are rows of the table; no variable is named. The walks of layer table: each contract says what a call answers, and that no block that was there has turned. Conditions: as each theorem states them (the numbers are those of a uint8, of a uint64). The walks of layer table, on: an entry's word and back (Put, Take). Conditions: as each theorem states them (the numbers are those of a uint8, of a uint64). Plain facts on an arena's layout: its numbers as plain functions. Conditions: none beyond the theorems' own. The walks of layer layout: each contract says what a call answers, and that no block that was there has turned. Conditions: as each theorem states them. -/
import Derived.Laws.BitsAllLaws
import Derived.Laws.Bits64
import Derived.Test.YtnbaiinhalplcaaRows
import Derived.WalkKit
import Derived.ProofKit
import Derived.LoopTactic
import Derived.Deep.LoopGhost
import Derived.BigQuiet
import Derived.Lib.Hide
import Derived.Laws.Bits128
import Derived.Below
import Derived.Carry
import Derived.ChangeOld
import Derived.Deep.Draws
import Derived.Laws.Rows
import Derived.Laws.ResultCell
import Derived.WalkSpells
import Derived.WalkLawsBesides
import Derived.RegionTactic
import Derived.ChangeAlike
import Derived.Handy
import Derived.Deep.RegionHeld3
import Derived.Deep.RegionWith
import Derived.IntWalk
import Derived.Test.YtnbaiinhalplcaaPg10
import Derived.Test.YtnbaiinhalplcaaPg14
namespace Go.Proofs.Ytnbaiinhalplcaa
set_option linter.unusedVariables false
set_option linter.unusedSimpArgs false
set_option maxRecDepth 100000
open Go.Conc
open Go.ConcN (upd_ne upd_same)

/-- A frame's slots, by a function. -/
def ShapeN (N : Nat) (TT : (Nat → Value) → Array Value) : Prop := ∀ f, TT f = ((List.range N).map f).toArray
theorem ShapeN.arr {N : Nat} {TT : (Nat → Value) → Array Value} (H : ShapeN N TT) (t : Array Value) (h : t.size = N) : t = TT (fun j => t.getD j undef) := by
  rw [H]
  apply Array.ext'
  apply List.ext_getElem (by simp [h])
  intro i h1 h2
  simp only [List.getElem_map, List.getElem_range]
  have h3 : i < t.size := by simpa using h1
  simp [h3]
/-- What some slots hold. -/
def HasN (x : Nat → Value) : List (Nat × Value) → Prop
  | [] => True
  | p :: r => x p.1 = p.2 ∧ HasN x r
def FrN (N : Nat) (K : List (Nat × Value)) (a : Act) : Prop := a.defers = [] ∧ a.tmps.size = N ∧ HasN (fun j => a.tmps.getD j undef) K
theorem FrN.at {N : Nat} {TT : (Nat → Value) → Array Value} (H : ShapeN N TT) {K : List (Nat × Value)} {a : Act} (h : FrN N K a) : a = ⟨TT (fun j => a.tmps.getD j undef), []⟩ := by
  obtain ⟨t, d⟩ := a
  obtain ⟨hd, hz, _⟩ := h
  simp only at hd hz
  subst hd
  rw [← H.arr t hz]
theorem Priv.exTied {ι : Type} {o' : ι → Nat → Prop} {B : ι → World → Prop} (h : ∀ i, Priv (o' i) (B i)) (p : ι → Prop) (o : Nat → Prop) : Priv o (fun w => ∃ i, o = o' i ∧ p i ∧ B i w) := by
  refine ⟨fun w w' hh hb => ?_, fun w b hh hb => ?_, fun w b hh hb => ?_⟩
  · obtain ⟨i, h1, h2, h3⟩ := hh
    exact ⟨i, h1, h2, (h i).st _ _ h3 fun b hb' => hb b (by rw [h1]; exact hb')⟩
  · obtain ⟨i, h1, h2, h3⟩ := hh
    exact (h i).np _ _ h3 (by rw [← h1]; exact hb)
  · obtain ⟨i, h1, h2, h3⟩ := hh
    exact (h i).lt _ _ h3 (by rw [← h1]; exact hb)
theorem Priv.or {o1 : Nat → Prop} {A : World → Prop} (h : Priv o1 A) {o : Nat → Prop} (e : ∀ b, o b ↔ o1 b) : Priv o A :=
  ⟨fun w w' hh hb => h.st _ _ hh fun b z => hb b ((e b).2 z), fun w b hh hb => h.np _ _ hh ((e b).1 hb), fun w b hh hb => h.lt _ _ hh ((e b).1 hb)⟩

section
variable {N : Nat} {TT : (Nat → Value) → Array Value}
theorem win_slotsN (HT : ShapeN N TT) {Post : Value → World → Prop} {pl : Nat → Option Place} {n h : Nat} {b : Frame} {t : Array Value} {k : List Item} {cs : List Frame} {w : World} {K : List (Nat × Value)} (hz : t.size = N) (hK : HasN (fun j => t.getD j undef) K) (H : ∀ x, HasN x K → Win Try.prog Post pl n h (gor (b.at ⟨TT x, []⟩ k) cs) w) : Win Try.prog Post pl n h (gor (b.at ⟨t, []⟩ k) cs) w := by
  rw [HT.arr t hz]
  exact H _ hK
variable {pl : Nat → Option Place} {F : Nat → Option (Nat × Nat)} {w w' : World} {n h : Nat} {Post : Value → World → Prop}
theorem Lies.pieceN (HT : ShapeN N TT) (L : Lies pl F w) (hFn : ∀ x, w.heap.size ≤ x → F x = none) {ι : Type} {own S : Nat → Prop} {A : World → Prop} (hP : Priv own A) (hA : A w) (hFo : ∀ b, own b → F b = none)
    {own' : ι → Nat → Prop} {A' : ι → World → Prop} (hP' : ∀ i, Priv (own' i) (A' i)) {K' : ι → List (Nat × Value)}
    {b : Frame} {x : Nat → Value} {k : List Item} {cs : List Frame} {c : Code}
    (hok : StOK Try.prog (b.at ⟨TT x, []⟩ (.code c :: k)) [])
    (hc : ∀ (wt : World) (Q : Exit → Act → World → Prop), A wt → wt.heap.size = w.heap.size → (∀ ad, wt.cell? ad = w.cell? ad) → (∀ a' i w', (∀ y, own' i y → own y ∨ (wt.heap.size ≤ y ∧ y < w'.heap.size)) → FrN N (K' i) a' → A' i w' → Ks S wt w' → Q .normal a' w') → c.wp Try.prog Q ⟨TT x, []⟩ wt)
    (H : ∀ (x' : Nat → Value) i w', (∀ y, own' i y → own y ∨ (w.heap.size ≤ y ∧ y < w'.heap.size)) → HasN x' (K' i) → A' i w' → Ks S w w' → Lies pl F w' → Win Try.prog Post pl n h (gor (b.at ⟨TT x', []⟩ k) cs) w') :
    Win Try.prog Post pl n h (gor (b.at ⟨TT x, []⟩ (.code c :: k)) cs) w := by
  refine L.code hFn hP hA hFo (R := fun a' o w' => ∃ i, o = own' i ∧ FrN N (K' i) a' ∧ A' i w') (fun a' o => Priv.exTied hP' _ o) hok (fun wt Q h1 h2 h3 hQ => hc wt Q h1 h2 h3 fun a' i w' ho hf ha hk => hQ a' _ w' ho ⟨i, rfl, hf, ha⟩ hk) fun a' o w' ho hr hk hL => ?_
  obtain ⟨i, rfl, hf, ha⟩ := hr
  have e := hf.at HT
  have := H (fun j => a'.tmps.getD j undef) i w' ho hf.2.2 ha hk hL
  rw [e]
  exact this
end

section
variable {N : Nat} {TT : (Nat → Value) → Array Value} {SB : Nat → Prop} {pA rA : Nat} {pl pl' : Nat → Option Place} {F F' : Nat → Option (Nat × Nat)} {col col' : Nat → Col} {w w' : World} {n : Nat} {Post : Value → World → Prop}
/-- Who steps. -/
theorem Desk.pieceN (HT : ShapeN N TT) (D : Desk SB pA rA pl F col w) {ι : Type} {own S : Nat → Prop} {A : World → Prop} (hP : Priv own A) (hA : A w) (hown : ∀ b, own b → (col b).isSys = false)
    {own' : ι → Nat → Prop} {A' : ι → World → Prop} (hP' : ∀ i, Priv (own' i) (A' i)) {K' : ι → List (Nat × Value)}
    {b : Frame} {x : Nat → Value} {k : List Item} {cs : List Frame} {c : Code}
    (hok : StOK Try.prog (b.at ⟨TT x, []⟩ (.code c :: k)) [])
    (hc : ∀ (wt : World) (Q : Exit → Act → World → Prop), A wt → wt.heap.size = w.heap.size → (∀ ad, wt.cell? ad = w.cell? ad) → (∀ a' i w', (∀ y, own' i y → own y ∨ (wt.heap.size ≤ y ∧ y < w'.heap.size)) → FrN N (K' i) a' → A' i w' → Ks S wt w' → Q .normal a' w') → c.wp Try.prog Q ⟨TT x, []⟩ wt)
    (H : ∀ (x' : Nat → Value) i w', (∀ y, own' i y → own y ∨ (w.heap.size ≤ y ∧ y < w'.heap.size)) → HasN x' (K' i) → A' i w' → Ks S w w' → Desk SB pA rA pl F col w' → Win Try.prog Post pl n 0 (gor (b.at ⟨TT x', []⟩ k) cs) w') :
    Win Try.prog Post pl n 0 (gor (b.at ⟨TT x, []⟩ (.code c :: k)) cs) w :=
  D.lies.pieceN HT (fun x hx => D.lay.free x (by rw [D.lay.above x hx]; rfl)) hP hA (fun x hx => D.lay.free x (hown x hx)) hP' hok hc fun x' i w' ho hf ha hk hL => H x' i w' ho hf ha hk (D.turned hL hk.size)

variable {a : Ag} {mv : Value} {home : Goroutine → Prop} {runs ov : Bool}
/-- An agent. -/
theorem Acts.pieceN (HT : ShapeN N TT) (hA : Acts SB pA rA a mv home runs ov pl F col w) {ι : Type} {own S : Nat → Prop} {A : World → Prop} (hP : Priv own A) (hAw : A w) (hown : ∀ b, own b → col b = .ag a.j ∨ col b = .shared) (hS : ∀ b, S b → col b = .ag a.j ∨ col b = .shared)
    {own' : ι → Nat → Prop} {A' : ι → World → Prop} (hP' : ∀ i, Priv (own' i) (A' i)) {K' : ι → List (Nat × Value)} (sh : ι → Nat → Prop)
    {b : Frame} {x : Nat → Value} {k : List Item} {cs : List Frame} {c : Code} (hok : StOK Try.prog (b.at ⟨TT x, []⟩ (.code c :: k)) [])
    (hc : ∀ (wt : World) (Q : Exit → Act → World → Prop), A wt → wt.heap.size = w.heap.size → (∀ ad, wt.cell? ad = w.cell? ad) → (∀ a' i w', (∀ y, own' i y → own y ∨ (wt.heap.size ≤ y ∧ y < w'.heap.size)) → FrN N (K' i) a' → A' i w' → Ks S wt w' → Q .normal a' w') → c.wp Try.prog Q ⟨TT x, []⟩ wt)
    (H : ∀ (x' : Nat → Value) i w', (∀ y, own' i y → own y ∨ (w.heap.size ≤ y ∧ y < w'.heap.size)) → HasN x' (K' i) → A' i w' → Ks S w w' → Acts SB pA rA a mv home runs ov pl F (grownS a.j (sh i) col w w') w' → Moves (mine a col) a.j F col w F (grownS a.j (sh i) col w w') w' → Win Try.prog Post pl n a.j (gor (b.at ⟨TT x', []⟩ k) cs) w') :
    Win Try.prog Post pl n a.j (gor (b.at ⟨TT x, []⟩ (.code c :: k)) cs) w := by
  have hfr : ∀ b, own b → F b = none := fun b hb => hA.lay.free b (by rcases hown b hb with z | z <;> rw [z] <;> rfl)
  refine hA.lies.pieceN HT (fun x hx => hA.lay.free x (by rw [hA.lay.above x hx]; rfl)) hP hAw hfr hP' hok hc fun x' i w' ho hf ha hk hL => ?_
  obtain ⟨hA2, hM2⟩ := hA.plainS (sh := sh i) hk hL hS
  exact H x' i w' ho hf ha hk hA2 hM2
end
end Go.Proofs.Ytnbaiinhalplcaa

namespace Go.Proofs.Ytnbaiinhalplcaa.Bm
set_option linter.unusedVariables false
set_option linter.unusedSimpArgs false
open Go

/-- The number whose bits are f k, f (k + 1), .. (m of them). -/
def wv (f : Nat → Bool) : Nat → Nat → Nat
  | _, 0 => 0
  | k, m + 1 => (f k).toNat + 2 * wv f (k + 1) m

theorem wv_lt (f : Nat → Bool) : ∀ m k, wv f k m < 2 ^ m
  | 0, k => by simp [wv]
  | m + 1, k => by
    have := wv_lt f m (k + 1)
    have : (f k).toNat ≤ 1 := Bool.toNat_le _
    simp only [wv, Nat.pow_succ]; omega

theorem wv_bit (f : Nat → Bool) : ∀ m k i, (wv f k m).testBit i = (decide (i < m) && f (k + i))
  | 0, k, i => by simp [wv]
  | m + 1, k, 0 => by
    simp only [wv, Nat.testBit_zero]
    cases f k <;> simp <;> omega
  | m + 1, k, i + 1 => by
    have h : ((f k).toNat + 2 * wv f (k + 1) m) / 2 = wv f (k + 1) m := by
      have : (f k).toNat ≤ 1 := Bool.toNat_le _
      omega
    simp only [wv, Nat.testBit_succ, h, wv_bit f m (k + 1) i]
    have : k + 1 + i = k + (i + 1) := by omega
    simp [this]

theorem eq_of_bits {x y : Nat} (hx : x < 2 ^ 64) (hy : y < 2 ^ 64) (h : ∀ i, i < 64 → x.testBit i = y.testBit i) : x = y := by
  apply Nat.eq_of_testBit_eq
  intro i
  by_cases hi : i < 64
  · exact h i hi
  · have e : 2 ^ 64 ≤ 2 ^ i := Nat.pow_le_pow_right (by omega) (by omega)
    rw [Nat.testBit_lt_two_pow (Nat.lt_of_lt_of_le hx e), Nat.testBit_lt_two_pow (Nat.lt_of_lt_of_le hy e)]

/-- The map with the blocks a .. a + r - 1 free, or none of them. -/
def setN (x a r : Nat) (b : Bool) : Nat := wv (fun i => if a ≤ i ∧ i < a + r then b else x.testBit i) 0 64
theorem setN_bit (x a r : Nat) (b : Bool) (i : Nat) (hi : i < 64) : (setN x a r b).testBit i = if a ≤ i ∧ i < a + r then b else x.testBit i := by
  rw [setN, wv_bit]; simp [hi]
theorem setN_lt (x a r : Nat) (b : Bool) : setN x a r b < 2 ^ 64 := wv_lt _ _ _

/-- The blocks a .. a + r - 1 alone. -/
def mk (a r : Nat) : Nat := (2 ^ r - 1) * 2 ^ a
theorem mk_bit (a r i : Nat) : (mk a r).testBit i = decide (a ≤ i ∧ i < a + r) := by
  rw [mk, Nat.testBit_mul_two_pow, Nat.testBit_two_pow_sub_one]
  by_cases h : a ≤ i
  · simp [h]; omega
  · simp [h]
theorem mk_lt {a r : Nat} (h : a + r ≤ 64) : mk a r < 2 ^ 64 := by
  have h1 : 2 ^ (a + r) ≤ 2 ^ 64 := Nat.pow_le_pow_right (by omega) h
  have h2 : 0 < 2 ^ a := Nat.two_pow_pos a
  have h3 : 2 ^ (a + r) = 2 ^ r * 2 ^ a := by rw [Nat.add_comm, Nat.pow_add]
  have h4 : (2 ^ r - 1) * 2 ^ a < 2 ^ r * 2 ^ a := Nat.mul_lt_mul_of_pos_right (by have := Nat.two_pow_pos r; omega) h2
  unfold mk; omega

/-- Are all blocks of a run free (none)? -/
def allN (x a r : Nat) (b : Bool) : Bool := decide (∀ i, i < r → x.testBit (a + i) = b)
theorem allN_iff {x a r : Nat} {b : Bool} : allN x a r b = true ↔ ∀ i, a ≤ i → i < a + r → x.testBit i = b := by
  simp only [allN, decide_eq_true_eq]
  constructor
  · intro h i h1 h2
    have := h (i - a) (by omega)
    rwa [show a + (i - a) = i from by omega] at this
  · intro h i hi
    exact h (a + i) (by omega) (by omega)

theorem and_mk_all {x a r : Nat} (hx : x < 2 ^ 64) (h : a + r ≤ 64) : (x &&& mk a r = mk a r) ↔ allN x a r true = true := by
  rw [allN_iff]
  constructor
  · intro e i h1 h2
    have := congrArg (fun n => Nat.testBit n i) e
    simp only [Nat.testBit_and, mk_bit] at this
    simpa [h1, h2] using this
  · intro hh
    apply Nat.eq_of_testBit_eq
    intro i
    rw [Nat.testBit_and, mk_bit]
    by_cases hi : a ≤ i ∧ i < a + r
    · simp [hi, hh i hi.1 hi.2]
    · simp [hi]
theorem and_mk_none {x a r : Nat} (hx : x < 2 ^ 64) (h : a + r ≤ 64) : (x &&& mk a r = 0) ↔ allN x a r false = true := by
  rw [allN_iff]
  constructor
  · intro e i h1 h2
    have := congrArg (fun n => Nat.testBit n i) e
    simp only [Nat.testBit_and, mk_bit] at this
    simpa [h1, h2] using this
  · intro hh
    apply Nat.eq_of_testBit_eq
    intro i
    rw [Nat.testBit_and, mk_bit]
    by_cases hi : a ≤ i ∧ i < a + r
    · simp [hi, hh i hi.1 hi.2]
    · simp [hi]
theorem not_bit {y : Nat} (hy : y < 2 ^ 64) {i : Nat} (hi : i < 64) : (18446744073709551615 - y).testBit i = !y.testBit i := by
  have := Nat.testBit_two_pow_sub_succ (n := 64) (x := y) (by simpa using hy) i
  rw [show (18446744073709551615 - y) = 2 ^ 64 - (y + 1) from by omega, this]
  simp [hi]
theorem clear_eq {x a r : Nat} (hx : x < 2 ^ 64) (h : a + r ≤ 64) : x &&& (18446744073709551615 - mk a r) = setN x a r false := by
  refine eq_of_bits (Nat.lt_of_le_of_lt Nat.and_le_left hx) (setN_lt _ _ _ _) fun i hi => ?_
  rw [setN_bit _ _ _ _ _ hi, Nat.testBit_and, not_bit (mk_lt h) hi, mk_bit]
  by_cases c : a ≤ i ∧ i < a + r
  · simp [c]
  · simp [c]
theorem put_eq {x a r : Nat} (hx : x < 2 ^ 64) (h : a + r ≤ 64) : x ||| mk a r = setN x a r true := by
  refine eq_of_bits (Nat.or_lt_two_pow hx (mk_lt h)) (setN_lt _ _ _ _) fun i hi => ?_
  rw [setN_bit _ _ _ _ _ hi, Nat.testBit_or, mk_bit]
  by_cases c : a ≤ i ∧ i < a + r
  · simp [c]
  · simp [c]

end Go.Proofs.Ytnbaiinhalplcaa.Bm

namespace Go.Proofs.Ytnbaiinhalplcaa.Bm
set_option linter.unusedVariables false
set_option linter.unusedSimpArgs false
open Go

/-- A number's n lowest bytes, each turned by f. -/
def mapB (f : Nat → Nat) : Nat → Nat → Nat
  | 0, _ => 0
  | n + 1, x => f (x % 256) + 256 * mapB f n (x / 256)

def f1 (a : Nat) : Nat := (a / 2 &&& 85) + (a &&& 85)
def f2 (a : Nat) : Nat := (a / 4 &&& 51) + (a &&& 51)
def f3 (a : Nat) : Nat := (a / 16 + a) % 16
/-- Behind the third step: the bytes' counts. -/
def cb (x : Nat) : Nat := mapB (fun a => f3 (f2 (f1 a))) 8 x
end Go.Proofs.Ytnbaiinhalplcaa.Bm

namespace Go.Proofs.Ytnbaiinhalplcaa.Bm
set_option linter.unusedVariables false
set_option linter.unusedSimpArgs false
open Go.RowKit

theorem shift_bit (x k : Nat) (hx : x < 18446744073709551616) : (bits .and .u64 ((x : Int) / 2 ^ k) 1 == 1) = x.testBit k := by
  have e : ((x : Int) / 2 ^ k) = ((x / 2 ^ k : Nat) : Int) := by push_cast; rfl
  have h := Nat.div_le_self x (2 ^ k)
  rw [e, show (1 : Int) = ((1 : Nat) : Int) from rfl, u64_and_nat _ _ (by omega) (by omega), nat_mask1, Nat.testBit_eq_decide_div_mod_eq]
  rw [Bool.eq_iff_iff]
  simp only [beq_iff_eq, decide_eq_true_eq]
  omega

theorem ret_bool {a b : Bool} (h : a = b) : Ending.returned (.bool a) = .returned (.bool b) := by rw [h]

theorem ret_u64 {a b : Int} (h : a = b) : Ending.returned (.int .u64 a) = .returned (.int .u64 b) := by rw [h]
theorem all_num (m : Nat) (h : m ≤ 64) : IntKind.u64.wrap (IntKind.u64.wrap (2 ^ m) - 1) = ((2 ^ m - 1 : Nat) : Int) := by
  have e : (2 : Int) ^ m = ((2 ^ m : Nat) : Int) := by push_cast; rfl
  have h1 : 2 ^ m ≤ 2 ^ 64 := Nat.pow_le_pow_right (by omega) h
  have h0 := Nat.two_pow_pos m
  rw [e, IntKind.wrap_u64, IntKind.wrap_u64]
  omega

theorem bit_at (x : Nat) (k : Int) (b : Nat) (r : Bool) (w : World) (hk : 0 ≤ k) (hk2 : k < 64) (hx : x < 18446744073709551616) (hr : x.testBit k.toNat = r) (hc : w.cell? ⟨b, 0, none⟩ = some (.int .u64 x)) :
    Calls Try.prog 70 #[.int .i64 k, .pointer (some ⟨b, 0, none⟩)] w fun e w' => e = .returned (.bool r) ∧ w = w' := by
  have hh := shift_bit x k.toNat hx
  rw [hr] at hh
  clear hr
  go_enter Try.func70, Try.ntmps70
  go_wp2
  go_ret
  exact ⟨rfl, rfl⟩

theorem bits_of (x : Nat) (w : World) : Calls Try.prog 56 #[.int .u64 x] w fun e w' => e = .returned (.func (.func 70) #[] #[.pointer (some ⟨w.heap.size, 0, none⟩)]) ∧ w.alloc (.cells #[.int .u64 x] 49) = w' := by
  go_enter Try.func56, Try.ntmps56
  go_wp2
  go_ret
  exact ⟨rfl, rfl⟩

theorem may_run (r : Int) (b : Bool) (w : World) (h : decide (1 ≤ r ∧ r ≤ 3) = b) : Calls Try.prog 55 #[.int .i64 r] w fun e w' => e = .returned (.bool b) ∧ w = w' := by
  have HH := Lib.hid h
  clear h
  go_enter Try.func55, Try.ntmps55
  go_wp2
  all_goals go_ret
  all_goals exact ⟨ret_bool (by rw [← HH.out, Bool.eq_iff_iff]; simp only [decide_eq_true_eq, Bool.false_eq_true]; constructor <;> intro hq <;> first | exact hq.elim | omega), rfl⟩

theorem all_is (b : Int) (n : Nat) (w : World) (hn : 2 ^ min b.toNat 64 - 1 = n) : Calls Try.prog 30 #[.int .i64 b] w fun e w' => e = .returned (.int .u64 n) ∧ w = w' := by
  rcases (by omega : b ≤ 0 ∨ 64 < b ∨ (0 < b ∧ b ≤ 64)) with h | h | ⟨h0, h1⟩
  · obtain rfl : n = 0 := by rw [show b.toNat = 0 from by omega] at hn; simpa using hn.symm
    have hh := all_num 0 (by omega)
    clear hn
    go_enter Try.func30, Try.ntmps30
    go_wp2
    go_ret
    exact ⟨ret_u64 hh, rfl⟩
  · obtain rfl : n = 18446744073709551615 := by rw [show min b.toNat 64 = 64 from by omega] at hn; simpa using hn.symm
    have hh := all_num 64 (by omega)
    clear hn
    go_enter Try.func30, Try.ntmps30
    go_wp2
    go_ret
    exact ⟨ret_u64 hh, rfl⟩
  · have hh := all_num b.toNat (by omega)
    rw [show min b.toNat 64 = b.toNat from by omega] at hn
    rw [hn] at hh
    clear hn
    go_enter Try.func30, Try.ntmps30
    go_wp2
    go_ret
    exact ⟨rfl, rfl⟩

/-- The blocks of a run, where there is such a run. -/
theorem span_no (k r : Int) (w : World) (h : ¬ (1 ≤ r ∧ r ≤ 3 ∧ 0 ≤ k ∧ k + r ≤ 64)) : Calls Try.prog 57 #[.int .i64 k, .int .i64 r] w fun e w' => e = .returned (.tuple #[.int .u64 0, .bool false]) ∧ w = w' := by
  by_cases hr : 1 ≤ r ∧ r ≤ 3
  · have km := may_run r true w (by simpa using hr)
    obtain ⟨hr1, hr2⟩ := hr
    rcases (by omega : k < 0 ∨ (0 ≤ k ∧ 64 - r < k)) with h0 | ⟨h0, h1⟩
    · clear h
      go_enter Try.func57, Try.ntmps57
      go_wp2_with ((with_reducible refine km.mono ?_); rintro e w' ⟨rfl, rfl⟩)
      go_ret2
      exact ⟨rfl, rfl⟩
    · clear h
      go_enter Try.func57, Try.ntmps57
      go_wp2_with ((with_reducible refine km.mono ?_); rintro e w' ⟨rfl, rfl⟩)
      go_ret2
      exact ⟨rfl, rfl⟩
  · have km := may_run r false w (by simpa using hr)
    clear h hr
    go_enter Try.func57, Try.ntmps57
    go_wp2_with ((with_reducible refine km.mono ?_); rintro e w' ⟨rfl, rfl⟩)
    go_ret2
    exact ⟨rfl, rfl⟩

theorem span_yes (k r : Int) (w : World) (h1 : 1 ≤ r) (h2 : r ≤ 3) (h3 : 0 ≤ k) (h4 : k + r ≤ 64) : Calls Try.prog 57 #[.int .i64 k, .int .i64 r] w fun e w' => e = .returned (.tuple #[.int .u64 (mk k.toNat r.toNat), .bool true]) ∧ w = w' := by
  have km := may_run r true w (by simp; omega)
  have ka := all_is r (2 ^ r.toNat - 1) w (by rw [show min r.toNat 64 = r.toNat from by omega])
  have hh : IntKind.u64.wrap (((2 ^ r.toNat - 1 : Nat) : Int) * 2 ^ k.toNat) = ((mk k.toNat r.toNat : Nat) : Int) := by
    have := mk_lt (a := k.toNat) (r := r.toNat) (by omega)
    have e : (((2 ^ r.toNat - 1 : Nat) : Int) * 2 ^ k.toNat) = ((mk k.toNat r.toNat : Nat) : Int) := by unfold mk; rw [Int.natCast_mul]; congr 1
    rw [e, IntKind.wrap_u64]; omega
  obtain ⟨n, hn⟩ : ∃ n, n = 2 ^ r.toNat - 1 := ⟨_, rfl⟩
  obtain ⟨m, hm⟩ : ∃ m, m = mk k.toNat r.toNat := ⟨_, rfl⟩
  rw [← hn] at ka hh
  rw [← hm] at hh ⊢
  clear hn hm
  go_enter Try.func57, Try.ntmps57
  go_wp2_with (first | ((with_reducible refine km.mono ?_); rintro e w' ⟨rfl, rfl⟩) | ((with_reducible refine ka.mono ?_); rintro e w' ⟨rfl, rfl⟩))
  go_ret2
  exact ⟨rfl, rfl⟩

/-- Take: the map, whether or not there is such a run, and it is free. -/
def isR (x : Nat) (k r : Int) (b : Bool) : Bool := decide (1 ≤ r ∧ r ≤ 3 ∧ 0 ≤ k ∧ k + r ≤ 64) && allN x k.toNat r.toNat b

theorem take_is (x : Nat) (k r : Int) (y : Nat) (b : Bool) (w : World) (hx : x < 18446744073709551616) (hb : isR x k r true = b) (hy : (if b then setN x k.toNat r.toNat false else x) = y) :
    Calls Try.prog 36 #[.int .u64 x, .int .i64 k, .int .i64 r] w fun e w' => e = .returned (.tuple #[.int .u64 y, .bool b]) ∧ w = w' := by
  by_cases h : 1 ≤ r ∧ r ≤ 3 ∧ 0 ≤ k ∧ k + r ≤ 64
  · obtain ⟨h1, h2, h3, h4⟩ := h
    have ks := span_yes k r w h1 h2 h3 h4
    have hm := mk_lt (a := k.toNat) (r := r.toNat) (by omega)
    have ha := and_mk_all (x := x) (a := k.toNat) (r := r.toNat) hx (by omega)
    have hcl := clear_eq (x := x) (a := k.toNat) (r := r.toNat) hx (by omega)
    obtain ⟨m, em⟩ : ∃ m, m = mk k.toNat r.toNat := ⟨_, rfl⟩
    rw [← em] at ks hm ha hcl
    have eand : bits .and .u64 (x : Int) (m : Int) = ((x &&& m : Nat) : Int) := u64_and_nat _ _ (by omega) (by omega)
    by_cases hf : allN x k.toNat r.toNat true = true
    · obtain rfl : b = true := by rw [← hb]; simp [isR, hf]; omega
      have e1 : bits .and .u64 (x : Int) (m : Int) = (m : Int) := by rw [eand, ha.2 hf]
      have e2 : bits .andNot .u64 (x : Int) (m : Int) = (y : Int) := by rw [u64_andNot_nat _ _ (by omega) (by omega), hcl, ← hy]; rfl
      clear hb hy eand ha hcl hm em hf
      go_enter Try.func36, Try.ntmps36
      go_wp2_with ((with_reducible refine ks.mono ?_); rintro e w' ⟨rfl, rfl⟩)
      go_ret2
      exact ⟨rfl, rfl⟩
    · obtain rfl : b = false := by rw [← hb]; simp [isR, hf]
      obtain rfl : x = y := by simpa using hy
      obtain ⟨u, hu⟩ : ∃ u, u = x &&& m := ⟨_, rfl⟩
      rw [← hu] at eand ha
      have hne : ((u : Int) != (m : Int)) = true := by
        simp only [bne_iff_ne, ne_eq]
        intro e
        exact hf (ha.1 (by omega))
      clear hb hy ha hcl hm em hf hu
      go_enter Try.func36, Try.ntmps36
      go_wp2_with ((with_reducible refine ks.mono ?_); rintro e w' ⟨rfl, rfl⟩)
      go_ret2
      exact ⟨rfl, rfl⟩
  · obtain rfl : b = false := by rw [← hb]; simp only [isR, decide_eq_false h, Bool.false_and]
    obtain rfl : x = y := by simpa using hy
    have ks := span_no k r w h
    clear hb hy h
    go_enter Try.func36, Try.ntmps36
    go_wp2_with ((with_reducible refine ks.mono ?_); rintro e w' ⟨rfl, rfl⟩)
    go_ret2
    exact ⟨rfl, rfl⟩

theorem give_is (x : Nat) (k r : Int) (y : Nat) (b : Bool) (w : World) (hx : x < 18446744073709551616) (hb : isR x k r false = b) (hy : (if b then setN x k.toNat r.toNat true else x) = y) :
    Calls Try.prog 40 #[.int .u64 x, .int .i64 k, .int .i64 r] w fun e w' => e = .returned (.tuple #[.int .u64 y, .bool b]) ∧ w = w' := by
  by_cases h : 1 ≤ r ∧ r ≤ 3 ∧ 0 ≤ k ∧ k + r ≤ 64
  · obtain ⟨h1, h2, h3, h4⟩ := h
    have ks := span_yes k r w h1 h2 h3 h4
    have hm := mk_lt (a := k.toNat) (r := r.toNat) (by omega)
    have ha := and_mk_none (x := x) (a := k.toNat) (r := r.toNat) hx (by omega)
    have hcl := put_eq (x := x) (a := k.toNat) (r := r.toNat) hx (by omega)
    obtain ⟨m, em⟩ : ∃ m, m = mk k.toNat r.toNat := ⟨_, rfl⟩
    rw [← em] at ks hm ha hcl
    have eand : bits .and .u64 (x : Int) (m : Int) = ((x &&& m : Nat) : Int) := u64_and_nat _ _ (by omega) (by omega)
    by_cases hf : allN x k.toNat r.toNat false = true
    · obtain rfl : b = true := by rw [← hb]; simp [isR, hf]; omega
      have e1 : bits .and .u64 (x : Int) (m : Int) = 0 := by rw [eand, ha.2 hf]; rfl
      have e2 : bits .or .u64 (x : Int) (m : Int) = (y : Int) := by rw [u64_or_nat _ _ (by omega) (by omega), hcl, ← hy]; rfl
      clear hb hy eand ha hcl hm em hf
      go_enter Try.func40, Try.ntmps40
      go_wp2_with ((with_reducible refine ks.mono ?_); rintro e w' ⟨rfl, rfl⟩)
      go_ret2
      exact ⟨rfl, rfl⟩
    · obtain rfl : b = false := by rw [← hb]; simp [isR, hf]
      obtain rfl : x = y := by simpa using hy
      obtain ⟨u, hu⟩ : ∃ u, u = x &&& m := ⟨_, rfl⟩
      rw [← hu] at eand ha
      have hne : ((u : Int) != 0) = true := by
        simp only [bne_iff_ne, ne_eq]
        intro e
        exact hf (ha.1 (by omega))
      clear hb hy ha hcl hm em hf hu
      go_enter Try.func40, Try.ntmps40
      go_wp2_with ((with_reducible refine ks.mono ?_); rintro e w' ⟨rfl, rfl⟩)
      go_ret2
      exact ⟨rfl, rfl⟩
  · obtain rfl : b = false := by rw [← hb]; simp only [isR, decide_eq_false h, Bool.false_and]
    obtain rfl : x = y := by simpa using hy
    have ks := span_no k r w h
    clear hb hy h
    go_enter Try.func40, Try.ntmps40
    go_wp2_with ((with_reducible refine ks.mono ?_); rintro e w' ⟨rfl, rfl⟩)
    go_ret2
    exact ⟨rfl, rfl⟩

end Go.Proofs.Ytnbaiinhalplcaa.Bm

namespace Go.Proofs.Ytnbaiinhalplcaa.Bm
set_option linter.unusedVariables false
set_option linter.unusedSimpArgs false
open Go.RowKit

/-- Block k is the least one at which a run is free. -/
def Least (x : Nat) (r : Nat) (k : Nat) : Prop := k + r ≤ 64 ∧ allN x k r true = true ∧ ∀ j, j < k → allN x j r true = false
def NoRun (x : Nat) (r : Nat) : Prop := ∀ j, j + r ≤ 64 → allN x j r true = false

theorem find_walk (x : Nat) (r : Nat) (w : World) (hx : x < 18446744073709551616) (h1 : 1 ≤ r) (h3 : r ≤ 3) (o : Int) (b : Bool)
    (hyes : ∀ k : Nat, Least x r k → o = k ∧ b = true) (hno : NoRun x r → o = 0 ∧ b = false) :
    Calls Try.prog 35 #[.int .u64 x, .int .i64 r] w fun e w' => e = .returned (.tuple #[.int .i64 o, .bool b]) ∧ Kp [] w w' := by
  have km := may_run r true w (by simp; omega)
  have kb := bits_of x w
  have HY := Lib.hid hyes
  have HN := Lib.hid hno
  have hcell : (w.alloc (.cells #[.int .u64 x] 49)).cell? ⟨w.heap.size, 0, none⟩ = some (.int .u64 x) := by simp
  have kc : ∀ (i : Int) (q : Bool), 0 ≤ i → i < 64 → x.testBit i.toNat = q → _ := fun i q i0 i1 hq => bit_at x i w.heap.size q (w.alloc (.cells #[.int .u64 x] 49)) i0 i1 hx hq hcell
  have KC := Lib.hid kc
  clear hyes hno kc
  go_enter Try.func35, Try.ntmps35
  go_wp2
  go_step3
  go_wp2_with (first | ((with_reducible refine km.mono ?_); rintro e w' ⟨rfl, rfl⟩) | ((with_reducible refine kb.mono ?_); rintro e w' ⟨rfl, rfl⟩))
  clear km kb
  go_step3
  go_wp2
  go_loopg [17] (65 - r) (fun g i wr => ∃ k : Nat, k + g = 65 - r ∧ i = .int .i64 k ∧ Hid (∀ j, j < k → allN x j r true = false) ∧ wr = w.alloc (.cells #[.int .u64 x] 49))
  case atStart => exact ⟨0, by omega, rfl, fun j hj => absurd hj (by omega), rfl⟩
  case round =>
    obtain ⟨k, hkg, rfl, HB, rfl⟩ := hrel
    by_cases hk : k < 65 - r
    · have hgo : (k : Int) < 64 - r + 1 := by omega
      obtain ⟨G, hG⟩ : ∃ G, G + 1 = gk := ⟨65 - r - k - 1, by omega⟩
      go_wp2
      go_loopg [21] r (fun g i wr => ∃ j : Nat, j + g = r ∧ i = .int .i64 j ∧ Hid (∀ i, i < j → x.testBit (k + i) = true) ∧ wr = w.alloc (.cells #[.int .u64 x] 49))
      case atStart => exact ⟨0, by omega, rfl, fun j hj => absurd hj (by omega), rfl⟩
      case round =>
        obtain ⟨j, hjg, rfl, HI, rfl⟩ := hrel
        by_cases hj : j < r
        · cases hq : x.testBit (k + j)
          · have cc := KC.out (k + j) false (by omega) (by omega) (by rw [← hq]; congr 1)
            have HQ := Lib.hid hq
            clear hq
            go_wp2_with ((with_reducible refine cc.mono ?_); rintro e w' ⟨rfl, rfl⟩)
            go_roundg G
            case rel =>
              refine ⟨k + 1, by omega, by go_num, fun i hi => ?_, rfl⟩
              by_cases hik : i = k
              · subst hik
                by_cases ha : allN x i r true = true
                · have h5 := allN_iff.1 ha (i + j) (by omega) (by omega)
                  rw [HQ.out] at h5
                  exact absurd h5 (by decide)
                · simpa using ha
              · exact HB.out i (by omega)
            case measure => omega
          · have cc := KC.out (k + j) true (by omega) (by omega) (by rw [← hq]; congr 1)
            have HQ := Lib.hid hq
            clear hq
            go_wp2_with ((with_reducible refine cc.mono ?_); rintro e w' ⟨rfl, rfl⟩)
            go_roundg (r - (j + 1))
            case rel =>
              refine ⟨j + 1, by omega, by go_num, fun i hi => ?_, rfl⟩
              by_cases hij : i = j
              · subst hij; exact HQ.out
              · exact HI.out i (by omega)
            case measure => omega
        · have hjr : j = r := by omega
          obtain ⟨rfl, rfl⟩ := HY.out k ⟨by omega, decide_eq_true (fun i hi => HI.out i (by omega)), HB.out⟩
          go_wp2
          try rw [Exit.noGoto_ret]
          go_ret2
          exact ⟨rfl, (Kp.refl _ _).alloc _⟩
    · have hgo : ¬ (k : Int) < 64 - r + 1 := by omega
      obtain ⟨rfl, rfl⟩ := HN.out (fun j hj => HB.out j (by omega))
      go_wp2
      try rw [Exit.noGoto_ret]
      go_ret2
      exact ⟨rfl, (Kp.refl _ _).alloc _⟩

end Go.Proofs.Ytnbaiinhalplcaa.Bm

namespace Go.Proofs.Ytnbaiinhalplcaa.Tb
set_option linter.unusedVariables false
set_option linter.unusedSimpArgs false
open Go

theorem and_part (x q d : Int) (f n : Nat) (hn : n ≤ 8) (hq : q = 2 ^ n) (hd : d = 2 ^ f) (h0 : 0 ≤ x) (h1 : x < 18446744073709551616) :
    bits .and .u64 (x / 2 ^ f) (IntKind.u64.wrap (IntKind.u64.wrap (2 ^ n) - 1)) = x / d % q := by
  subst hq hd
  obtain ⟨a, rfl⟩ := Int.eq_ofNat_of_zero_le h0
  have e : ((a : Int) / 2 ^ f) = ((a / 2 ^ f : Nat) : Int) := by push_cast; rfl
  have hq : (2 : Nat) ^ n ≤ 2 ^ 8 := Nat.pow_le_pow_right (by omega) hn
  have hq0 : 0 < (2 : Nat) ^ n := Nat.two_pow_pos n
  have e2 : (2 : Int) ^ n = ((2 ^ n : Nat) : Int) := by push_cast; rfl
  have hd : a / 2 ^ f ≤ a := Nat.div_le_self _ _
  rw [e, e2, IntKind.wrap_u64, IntKind.wrap_u64, Int.emod_eq_of_lt (a := ((2 ^ n : Nat) : Int)) (by omega) (by omega), Int.emod_eq_of_lt (by omega) (by omega)]
  have e3 : ((2 ^ n : Nat) : Int) - 1 = ((2 ^ n - 1 : Nat) : Int) := by omega
  rw [e3, u64_and_nat _ _ (by omega) (by omega), Nat.and_two_pow_sub_one_eq_mod]
  push_cast; rfl

theorem part_u8 (x q : Int) (n : Nat) (hn : n ≤ 8) (hq : q = 2 ^ n) : x % q % 256 = x % q := by
  have h1 : (2 : Int) ^ n ≤ 2 ^ 8 := by exact_mod_cast Nat.pow_le_pow_right (n := 2) (by omega) hn
  have h3 : (0 : Int) < 2 ^ n := by exact_mod_cast Nat.two_pow_pos _
  have := Int.emod_lt_of_pos x (b := q) (by omega)
  have := Int.emod_nonneg x (b := q) (by omega)
  omega

/-- May an entry be? -/
def mayE (k c r o : Int) : Bool :=
  decide (k ≤ 5 ∧ c ≤ 3 ∧ o ≤ 63 ∧ r ≤ 3 ∧ (k ≠ 1 → c ≤ 0) ∧ ((k = 2 ∨ k = 5) → 0 < r) ∧ (k ≠ 2 → k ≠ 5 → r ≤ 0) ∧ (k = 0 → o ≤ 0) ∧ (k = 3 → o ≤ 0))
/-- Its word. -/
def wordE (k c r o : Int) : Int := k + c * 8 + r * 32 + o * 128
/-- Two entries are the same. -/
def eqE (k c r o k' c' r' o' : Int) : Bool := decide (k = k' ∧ c = c' ∧ r = r' ∧ o = o')
/-- How many blocks it tells of. -/
def blkE (k r : Int) : Int := if k = 2 ∨ k = 5 then r else 1
/-- Has the word an entry? -/
def takeE (x : Int) : Bool := decide (x < 8192) && mayE (x % 8) (x / 8 % 4) (x / 32 % 4) (x / 128 % 64)

theorem mayE_iff {k c r o : Int} : mayE k c r o = true ↔ (k ≤ 5 ∧ c ≤ 3 ∧ o ≤ 63 ∧ r ≤ 3 ∧ (k ≠ 1 → c ≤ 0) ∧ ((k = 2 ∨ k = 5) → 0 < r) ∧ (k ≠ 2 → k ≠ 5 → r ≤ 0) ∧ (k = 0 → o ≤ 0) ∧ (k = 3 → o ≤ 0)) := by
  simp only [mayE, decide_eq_true_eq]
theorem mayE_false {k c r o : Int} : mayE k c r o = false ↔ ¬ (k ≤ 5 ∧ c ≤ 3 ∧ o ≤ 63 ∧ r ≤ 3 ∧ (k ≠ 1 → c ≤ 0) ∧ ((k = 2 ∨ k = 5) → 0 < r) ∧ (k ≠ 2 → k ≠ 5 → r ≤ 0) ∧ (k = 0 → o ≤ 0) ∧ (k = 3 → o ≤ 0)) := by
  simp only [mayE, decide_eq_false_iff_not]
theorem eqE_iff {k c r o k' c' r' o' : Int} : eqE k c r o k' c' r' o' = true ↔ (k = k' ∧ c = c' ∧ r = r' ∧ o = o') := by simp only [eqE, decide_eq_true_eq]
theorem wordE_lt {k c r o : Int} (hk : 0 ≤ k) (hc : 0 ≤ c) (hr : 0 ≤ r) (ho : 0 ≤ o) (h : mayE k c r o = true) : 0 ≤ wordE k c r o ∧ wordE k c r o < 8192 := by
  have h' := mayE_iff.1 h
  unfold wordE; omega
/-- The parts that a kind has, by bits. -/
def partsK (k : Int) : Int := if k = 1 then 5 else if k = 2 ∨ k = 5 then 6 else if k = 4 then 4 else 0
/-- An entry as its kind would have it. -/
def prC (k c : Int) : Int := if k = 1 then c else 0
def prR (k r : Int) : Int := if k = 2 ∨ k = 5 then max r 1 else 0
def prO (k o : Int) : Int := if k = 0 ∨ k = 3 ∨ k < 0 ∨ 5 < k then 0 else o

theorem kind_cases (k : Int) : k = 0 ∨ k = 1 ∨ k = 2 ∨ k = 3 ∨ k = 4 ∨ k = 5 ∨ ((k == 1) = false ∧ (k == 2) = false ∧ (k == 5) = false ∧ (k == 4) = false ∧ (k < 0 ∨ 5 < k)) := by
  have : (k = 0 ∨ k = 1 ∨ k = 2 ∨ k = 3 ∨ k = 4 ∨ k = 5) ∨ (k < 0 ∨ 5 < k) := by omega
  rcases this with h | h
  · rcases h with h | h | h | h | h | h <;> simp [h]
  · refine .inr (.inr (.inr (.inr (.inr (.inr ⟨by simp; omega, by simp; omega, by simp; omega, by simp; omega, h⟩)))))
theorem partsK_out {k : Int} (h : k < 0 ∨ 5 < k) : partsK k = 0 := by unfold partsK; rw [if_neg (by omega), if_neg (by omega), if_neg (by omega)]
theorem prC_out {k c : Int} (h : k < 0 ∨ 5 < k) : prC k c = 0 := by unfold prC; rw [if_neg (by omega)]
theorem prR_out {k r : Int} (h : k < 0 ∨ 5 < k) : prR k r = 0 := by unfold prR; rw [if_neg (by omega)]
theorem prO_out {k o : Int} (h : k < 0 ∨ 5 < k) : prO k o = 0 := by unfold prO; rw [if_pos (by omega)]
theorem proper_may {k c r o : Int} (hk : 0 ≤ k) (hc : 0 ≤ c) (hr : 0 ≤ r) (ho : 0 ≤ o) (k5 : k ≤ 5) (c3 : c < 4) (r3 : r ≤ 3) (o63 : o < 64) : eqE k c r o k (prC k c) (prR k r) (prO k o) = mayE k c r o := by
  rw [Bool.eq_iff_iff, eqE_iff, mayE_iff]
  have h : k = 0 ∨ k = 1 ∨ k = 2 ∨ k = 3 ∨ k = 4 ∨ k = 5 := by omega
  rcases h with rfl | rfl | rfl | rfl | rfl | rfl <;> simp [prC, prR, prO] <;> omega
theorem mayE_short {k c r o : Int} (h : ¬ (k ≤ 5 ∧ c < 4 ∧ r ≤ 3 ∧ o < 64)) : mayE k c r o = false := by
  rw [mayE_false]; omega

end Go.Proofs.Ytnbaiinhalplcaa.Tb

namespace Go.Proofs.Ytnbaiinhalplcaa
set_option linter.unusedVariables false
set_option linter.unusedSimpArgs false
open Go.RowKit

/-- The map, and the entries' words. -/
structure Gv where
  M : Nat
  E : List Int

/-- There are so many blocks; all words are words. -/
structure Gv.Ok (n : Nat) (g : Gv) : Prop where
  len : g.E.length = n
  map : g.M < 18446744073709551616
  ent : ∀ k, 0 ≤ g.E.getD k 0 ∧ g.E.getD k 0 < 18446744073709551616

theorem Gv.Ok.setM {n : Nat} {g : Gv} (h : g.Ok n) {x : Nat} (hx : x < 18446744073709551616) : Gv.Ok n ⟨x, g.E⟩ := ⟨h.len, hx, h.ent⟩
theorem Gv.Ok.setE {n : Nat} {g : Gv} (h : g.Ok n) (k : Nat) {v : Int} (h0 : 0 ≤ v) (h1 : v < 18446744073709551616) : Gv.Ok n ⟨g.M, g.E.set k v⟩ := by
  refine ⟨by simpa using h.len, h.map, fun j => ?_⟩
  have := h.ent j
  simp only [List.getD_eq_getElem?_getD, List.getElem?_set] at this ⊢
  split
  · split
    · simpa using ⟨h0, h1⟩
    · simp
  · exact this

/-- The entries from a on, r of them, are 0. -/
def zer (E : List Int) (a r : Nat) : List Int := (List.range E.length).map fun k => if a ≤ k ∧ k < a + r then 0 else E.getD k 0
theorem zer_len (E : List Int) (a r : Nat) : (zer E a r).length = E.length := by simp [zer]
theorem zer_get (E : List Int) (a r k : Nat) : (zer E a r).getD k 0 = if a ≤ k ∧ k < a + r then 0 else E.getD k 0 := by
  by_cases hk : k < E.length
  · simp [zer, List.getD_eq_getElem?_getD, hk]
  · have : E.getD k 0 = 0 := by simp [List.getD_eq_getElem?_getD, Nat.le_of_not_lt hk]
    rw [this]
    simp [zer, List.getD_eq_getElem?_getD, Nat.le_of_not_lt hk]
theorem ext_getD {xs ys : List Int} (hl : xs.length = ys.length) (h : ∀ k, k < xs.length → xs.getD k 0 = ys.getD k 0) : xs = ys := by
  apply List.ext_getElem hl
  intro i h1 h2
  have := h i h1
  simpa [List.getD_eq_getElem?_getD, h1, h2] using this
theorem zer_none (E : List Int) (a : Nat) : zer E a 0 = E := ext_getD (zer_len _ _ _) fun k _ => by rw [zer_get, if_neg (by omega)]
theorem getD_set (E : List Int) (k : Nat) (v : Int) (j : Nat) (hj : j < E.length) : (E.set k v).getD j 0 = if j = k then v else E.getD j 0 := by
  by_cases h : j = k
  · subst h; simp [List.getD_eq_getElem?_getD, hj]
  · rw [if_neg h, List.getD_eq_getElem?_getD, List.getElem?_set_ne (fun e => h e.symm), ← List.getD_eq_getElem?_getD]
/-- One more, downward. -/
theorem zer_down (E : List Int) (a i : Nat) : (zer E (a + 1) i).set a 0 = zer E a (i + 1) := by
  refine ext_getD (by simp [zer_len]) fun k hk => ?_
  rw [getD_set _ _ _ _ (by simpa using hk), zer_get, zer_get]
  by_cases h : k = a
  · rw [if_pos h, if_pos (by omega)]
  · rw [if_neg h]
    by_cases h2 : a + 1 ≤ k ∧ k < a + 1 + i
    · rw [if_pos h2, if_pos (by omega)]
    · rw [if_neg h2, if_neg (by omega)]
theorem Gv.Ok.zer {n : Nat} {g : Gv} (h : g.Ok n) (a r : Nat) : Gv.Ok n ⟨g.M, Go.Proofs.Ytnbaiinhalplcaa.zer g.E a r⟩ := by
  refine ⟨by rw [zer_len]; exact h.len, h.map, fun k => ?_⟩
  simp only [zer_get]
  split
  · simp
  · exact h.ent k

/-- Is it a run of the blocks? -/
def runG (n : Nat) (b r : Int) : Bool := decide (1 ≤ r ∧ r ≤ 3 ∧ 0 ≤ b ∧ b + r ≤ n)
theorem runG_iff {n : Nat} {b r : Int} : runG n b r = true ↔ (1 ≤ r ∧ r ≤ 3 ∧ 0 ≤ b ∧ b + r ≤ n) := by simp [runG]
theorem runG_not {n : Nat} {b r : Int} : runG n b r = false ↔ ¬ (1 ≤ r ∧ r ≤ 3 ∧ 0 ≤ b ∧ b + r ≤ n) := by simp only [runG, decide_eq_false_iff_not]

/-- The map behind a run's being given. -/
def giveM (M : Nat) (b r : Nat) : Nat := if Bm.isR M b r false then Bm.setN M b r true else M
theorem giveM_lt {M b r : Nat} (h : M < 18446744073709551616) : giveM M b r < 18446744073709551616 := by
  unfold giveM; split
  · exact Bm.setN_lt _ _ _ _
  · exact h

/-- Blocks are given back. -/
def backG (n : Nat) (g : Gv) (b r : Int) : Gv := if runG n b r then ⟨giveM g.M b.toNat r.toNat, zer g.E b.toNat r.toNat⟩ else g
theorem Gv.Ok.back {n : Nat} {g : Gv} (h : g.Ok n) (b r : Int) : (backG n g b r).Ok n := by
  unfold backG; split
  · exact (h.zer b.toNat r.toNat).setM (x := giveM g.M b.toNat r.toNat) (giveM_lt h.map)
  · exact h

/-- An entry is set. -/
def setG (n : Nat) (g : Gv) (b k c r o : Int) : Gv := if decide (0 ≤ b ∧ b < n) && Tb.mayE k c r o then ⟨g.M, g.E.set b.toNat (Tb.wordE k c r o)⟩ else g
theorem Gv.Ok.set {n : Nat} {g : Gv} (h : g.Ok n) (b k c r o : Int) (hk : 0 ≤ k) (hc : 0 ≤ c) (hr : 0 ≤ r) (ho : 0 ≤ o) : (setG n g b k c r o).Ok n := by
  unfold setG; split
  · rename_i hh
    simp only [Bool.and_eq_true, decide_eq_true_eq] at hh
    have hw := Tb.wordE_lt hk hc hr ho hh.2
    exact h.setE _ hw.1 (Int.lt_trans hw.2 (by decide))
  · exact h

/-- Where the first run begins, if there is one. -/
def FirstRun (M : Nat) (r : Int) (k : Nat) : Prop := Bm.isR M k r true = true ∧ ∀ j : Nat, j < k → Bm.isR M j r true = false
def NoneRun (M : Nat) (r : Int) : Prop := ∀ k : Nat, Bm.isR M k r true = false
theorem first_or_none (M : Nat) (r : Int) : (∃ k, k < 64 ∧ FirstRun M r k) ∨ NoneRun M r := by
  by_cases h : ∃ k : Nat, Bm.isR M k r true = true
  · refine .inl ?_
    have key : ∀ m : Nat, Bm.isR M m r true = true → ∃ k, k ≤ m ∧ FirstRun M r k := by
      intro m
      induction m using Nat.strongRecOn with
      | ind m ih =>
        intro hm
        by_cases h2 : ∃ j : Nat, j < m ∧ Bm.isR M j r true = true
        · obtain ⟨j, hj, hr⟩ := h2
          obtain ⟨k, hk, hf⟩ := ih j hj hr
          exact ⟨k, by omega, hf⟩
        · refine ⟨m, Nat.le_refl _, hm, fun j hj => ?_⟩
          cases hb : Bm.isR M j r true with
          | false => rfl
          | true => exact absurd ⟨j, hj, hb⟩ h2
    obtain ⟨m, hm⟩ := h
    obtain ⟨k, hk, hf⟩ := key m hm
    refine ⟨k, ?_, hf⟩
    have := hf.1
    simp only [Bm.isR, Bool.and_eq_true, decide_eq_true_eq] at this
    omega
  · refine .inr fun k => ?_
    cases hb : Bm.isR M k r true with
    | false => rfl
    | true => exact absurd ⟨k, hb⟩ h

/-- What a claim answers, and the map behind it. -/
def Claims (M : Nat) (r : Int) (at' : Int) (ok : Bool) (M' : Nat) : Prop :=
  (∃ k : Nat, k < 64 ∧ FirstRun M r k ∧ at' = k ∧ ok = true ∧ M' = Bm.setN M k r.toNat false) ∨ (NoneRun M r ∧ at' = 0 ∧ ok = false ∧ M' = M)
theorem claims_any (M : Nat) (r : Int) : ∃ at' ok M', Claims M r at' ok M' := by
  rcases first_or_none M r with ⟨k, h1, h2⟩ | h
  · exact ⟨_, _, _, .inl ⟨k, h1, h2, rfl, rfl, rfl⟩⟩
  · exact ⟨_, _, _, .inr ⟨h, rfl, rfl, rfl⟩⟩
theorem claims_lt {M : Nat} {r at' : Int} {ok : Bool} {M' : Nat} (h : Claims M r at' ok M') (hM : M < 18446744073709551616) : M' < 18446744073709551616 := by
  rcases h with ⟨k, _, _, _, _, h⟩ | ⟨_, _, _, h⟩
  · have := Bm.setN_lt M k r.toNat false
    rw [h]; omega
  · rw [h]; exact hM
/-- One block's turn, of an owner's that wait. -/
def waitsE (x o : Int) : Bool := Tb.takeE x && decide (x / 128 % 64 = o ∧ (x % 8 = 4 ∨ x % 8 = 5))
def turnG (n : Nat) (o : Int) (g : Gv) (i : Nat) : Gv := if waitsE (g.E.getD i 0) o then backG n g i (Tb.blkE (g.E.getD i 0 % 8) (g.E.getD i 0 / 32 % 4)) else g
def waitG (n : Nat) (o : Int) (g : Gv) : Nat → Gv
  | 0 => g
  | i + 1 => turnG n o (waitG n o g i) i
theorem Gv.Ok.turn {n : Nat} {g : Gv} (h : g.Ok n) (o : Int) (i : Nat) : (turnG n o g i).Ok n := by
  unfold turnG; split
  · exact h.back _ _
  · exact h
theorem Gv.Ok.wait {n : Nat} {g : Gv} (h : g.Ok n) (o : Int) (i : Nat) : (waitG n o g i).Ok n := by
  induction i with
  | zero => exact h
  | succ i ih => exact ih.turn o i

end Go.Proofs.Ytnbaiinhalplcaa

namespace Go.Proofs.Ytnbaiinhalplcaa
open Go.ChangeShapes Go.WideShapes Go.ChangeAt Go.RowKit

theorem bcell {W w1 : World} (hb : Below W.heap.size W w1) : (∀ b o, b < W.heap.size → w1.cell? ⟨b, o, none⟩ = W.cell? ⟨b, o, none⟩) ∧ (∀ b o, b < W.heap.size → w1.frozen? ⟨b, o, none⟩ = W.frozen? ⟨b, o, none⟩) :=
  ⟨fun b o h => hb.cell (p := ⟨b, o, none⟩) h, fun b o h => hb.frozen (p := ⟨b, o, none⟩) h⟩

theorem below_draws {B : Nat} {w w' : World} (h : Below B w w') (n : Nat) : Below B w (w'.drewN n) := ⟨h.os, h.tape, h.output, h.size, h.block⟩

def typesRowed (P : Program) (ts : List TypeId) : Bool := ts.all fun t => P.readableRec t && decide (t < P.types.size)

theorem trodAll_below {H : Type} {enc : TypeId × Value → H} {P : Program} (hl : laidOutB P = true) {W W' : World} (hb : Below W.heap.size W W') :
    ∀ {ts : List TypeId} {vs : List Value} {ds : List (DataW H)} {ps : List MemPlace}, typesRowed P ts = true → DataW.TrodAll enc P W 0 (fun _ => true) true ts vs ds ps → (∀ x ∈ ps, x.block < W.heap.size) →
      DataW.TrodAll enc P W' 0 (fun b => decide (b < W.heap.size)) true ts vs ds ps
  | [], vs, ds, ps, _, h, _ => by
    obtain ⟨rfl, rfl, rfl⟩ := trodAll_nil h
    exact rfl
  | t :: ts, vs, ds, ps, hr, h, hlt => by
    obtain ⟨v, vs1, d, ds1, a, b, rfl, rfl, rfl, h1, h2⟩ := trodAll_cons h
    simp only [typesRowed, List.all_cons, Bool.and_eq_true, decide_eq_true_eq] at hr
    exact ⟨a, b, Below.trod hl hr.1.1 hr.1.2 h1 hb (fun x hx => hlt x (by simp [hx])), trodAll_below hl hb hr.2 h2 (fun x hx => hlt x (by simp [hx])), rfl⟩

/-- Two results, the first a struct that lies in a block. -/
theorem results_row_tmp {P : Program} {fn : Func} {p u : Tmp} {ty : TypeId} (h : fn.results = #[.cell p ty, .tmp u]) (tmps : Array Value) (w : World) (g : Nat) (t : TypeId) (cs : Array Value) (fr : Nat × Nat) (d : TypeDesc)
    (hp : tmps.getD p undef = .pointer (some ⟨g, 0, none⟩)) (hg : w.heap[g]? = some (.cells cs t fr))
    (hu : P.underlying ty = some d) (hd : (match d with | .struct _ | .array _ _ => true | _ => false) = true) (hi : (P.info? ty).map (·.size) = some cs.size) :
    (results fn tmps).run P w = .ok (.tuple #[.agg cs, tmps.getD u undef]) w := by
  rw [results_cell_tmp h, hp]
  simp [asAddr, run_loadVar_row w g t ty cs fr d hg hu hd hi, Result.andThen]

theorem bodyPost_row_tmp {P : Program} {fn : Func} {R : Ending → World → Prop} {a : Act} {w : World} {p u : Tmp} {ty : TypeId} (h : fn.results = #[.cell p ty, .tmp u]) (g : Nat) (t : TypeId) (cs : Array Value) (fr : Nat × Nat) (d : TypeDesc) (v : Value)
    (hp : a.tmps.getD p undef = .pointer (some ⟨g, 0, none⟩)) (hv : a.tmps.getD u undef = v) (hdef : a.defers = []) (hg : w.heap[g]? = some (.cells cs t fr))
    (hu : P.underlying ty = some d) (hd : (match d with | .struct _ | .array _ _ => true | _ => false) = true) (hi : (P.info? ty).map (·.size) = some cs.size)
    (hR : R (.returned (.tuple #[.agg cs, v])) w) : bodyPost P fn R .ret a w := by
  subst hv
  exact bodyPost_ret (results_row_tmp h a.tmps w g t cs fr d hp hg hu hd hi) hdef hR

theorem bodyPost_row {P : Program} {fn : Func} {R : Ending → World → Prop} {a : Act} {w : World} {p : Tmp} {ty : TypeId} (h : fn.results = #[.cell p ty]) (g : Nat) (t : TypeId) (cs : Array Value) (fr : Nat × Nat) (d : TypeDesc)
    (hp : a.tmps.getD p undef = .pointer (some ⟨g, 0, none⟩)) (hdef : a.defers = []) (hg : w.heap[g]? = some (.cells cs t fr))
    (hu : P.underlying ty = some d) (hd : (match d with | .struct _ | .array _ _ => true | _ => false) = true) (hi : (P.info? ty).map (·.size) = some cs.size)
    (hR : R (.returned (.agg cs)) w) : bodyPost P fn R .ret a w :=
  bodyPost_ret (results_cell_row h a.tmps w g t cs fr d hp hg hu hd hi) hdef hR

end Go.Proofs.Ytnbaiinhalplcaa

namespace Go.Proofs.Ytnbaiinhalplcaa.Tb
set_option linter.unusedVariables false
set_option linter.unusedSimpArgs false
open Go.RowKit

theorem eqT (k c r o k' c' r' o' : Int) (w : World) :
    (binOp .eql 52 (.agg #[.int .u8 k, .int .u8 c, .int .u8 r, .int .u8 o]) (.agg #[.int .u8 k', .int .u8 c', .int .u8 r', .int .u8 o'])).run Try.prog w = .ok (.bool (eqE k c r o k' c' r' o')) w := by
  by_cases h1 : k = k'
  case neg => simp [go_sem, eqE, *]
  by_cases h2 : c = c'
  case neg => simp [go_sem, eqE, *]
  by_cases h3 : r = r'
  case neg => simp [go_sem, eqE, *]
  by_cases h4 : o = o'
  case neg => simp [go_sem, eqE, *]
  simp [go_sem, eqE, *]
theorem has_is (m p : Int) (r : Bool) (b : Nat) (w : World) (hr : (bits .and .u8 p m != 0) = r) (hc : w.cell? ⟨b, 0, none⟩ = some (.int .u8 p)) :
    Calls Try.prog 78 #[.int .u8 m, .pointer (some ⟨b, 0, none⟩)] w fun e w' => e = .returned (.bool r) ∧ w = w' := by
  go_enter Try.func78, Try.ntmps78
  go_wp2
  go_ret
  exact ⟨rfl, rfl⟩

theorem parts_of (k q : Int) (w : World) (hq : partsK k = q) :
    Calls Try.prog 75 #[.int .u8 k] w fun e w' => e = .returned (.func (.func 78) #[] #[.pointer (some ⟨w.heap.size, 0, none⟩)]) ∧ w.alloc (.cells #[.int .u8 q] 5) = w' := by
  subst hq
  rcases kind_cases k with rfl | rfl | rfl | rfl | rfl | rfl | ⟨h1, h2, h5, h4, h⟩
  iterate 6
    · go_enter Try.func75, Try.ntmps75
      go_wp2
      go_ret
      exact ⟨rfl, rfl⟩
  rw [partsK_out h]
  clear h
  go_enter Try.func75, Try.ntmps75
  go_wp2
  go_ret
  exact ⟨rfl, rfl⟩

set_option maxHeartbeats 1000000 in
theorem proper_nnn (k c r o q : Int) (w : World) (hr0 : 0 ≤ r) (hr1 : r ≤ 255) (hq : partsK k = q) (g1 : (bits .and .u8 q 1 != 0) = false) (g2 : (bits .and .u8 q 2 != 0) = false) (g3 : (bits .and .u8 q 4 != 0) = false) :
    Calls Try.prog 73 #[.agg #[.int .u8 k, .int .u8 c, .int .u8 r, .int .u8 o]] w fun e w' => e = .returned (.agg #[.int .u8 k, .int .u8 0, .int .u8 0, .int .u8 0]) ∧ Kp [] w w' := by
  have h1 := fun w => parts_of k q w hq
  have a1 := fun n w => has_is 1 q false n w g1
  have a2 := fun n w => has_is 2 q false n w g2
  have a4 := fun n w => has_is 4 q false n w g3
  clear hq g1 g2 g3
  go_enter Try.func73, Try.ntmps73
  go_wp2_with (first
    | ((with_reducible refine (h1 _).mono ?_); rintro e w' ⟨rfl, rfl⟩)
    | ((with_reducible refine (a1 _ _ (by simp [go_sem])).mono ?_); rintro e w' ⟨rfl, rfl⟩)
    | ((with_reducible refine (a2 _ _ (by simp [go_sem])).mono ?_); rintro e w' ⟨rfl, rfl⟩)
    | ((with_reducible refine (a4 _ _ (by simp [go_sem])).mono ?_); rintro e w' ⟨rfl, rfl⟩))
  go_returns
  exact ⟨rfl, kp_of_below (by go_grown)⟩

set_option maxHeartbeats 1000000 in
theorem proper_yny (k c r o q : Int) (w : World) (hr0 : 0 ≤ r) (hr1 : r ≤ 255) (hq : partsK k = q) (g1 : (bits .and .u8 q 1 != 0) = true) (g2 : (bits .and .u8 q 2 != 0) = false) (g3 : (bits .and .u8 q 4 != 0) = true) :
    Calls Try.prog 73 #[.agg #[.int .u8 k, .int .u8 c, .int .u8 r, .int .u8 o]] w fun e w' => e = .returned (.agg #[.int .u8 k, .int .u8 c, .int .u8 0, .int .u8 o]) ∧ Kp [] w w' := by
  have h1 := fun w => parts_of k q w hq
  have a1 := fun n w => has_is 1 q true n w g1
  have a2 := fun n w => has_is 2 q false n w g2
  have a4 := fun n w => has_is 4 q true n w g3
  clear hq g1 g2 g3
  go_enter Try.func73, Try.ntmps73
  go_wp2_with (first
    | ((with_reducible refine (h1 _).mono ?_); rintro e w' ⟨rfl, rfl⟩)
    | ((with_reducible refine (a1 _ _ (by simp [go_sem])).mono ?_); rintro e w' ⟨rfl, rfl⟩)
    | ((with_reducible refine (a2 _ _ (by simp [go_sem])).mono ?_); rintro e w' ⟨rfl, rfl⟩)
    | ((with_reducible refine (a4 _ _ (by simp [go_sem])).mono ?_); rintro e w' ⟨rfl, rfl⟩))
  go_returns
  exact ⟨rfl, kp_of_below (by go_grown)⟩

set_option maxHeartbeats 1000000 in
theorem proper_nyy (k c r o q : Int) (w : World) (hr0 : 0 ≤ r) (hr1 : r ≤ 255) (hq : partsK k = q) (g1 : (bits .and .u8 q 1 != 0) = false) (g2 : (bits .and .u8 q 2 != 0) = true) (g3 : (bits .and .u8 q 4 != 0) = true) :
    Calls Try.prog 73 #[.agg #[.int .u8 k, .int .u8 c, .int .u8 r, .int .u8 o]] w fun e w' => e = .returned (.agg #[.int .u8 k, .int .u8 0, .int .u8 (max r 1), .int .u8 o]) ∧ Kp [] w w' := by
  have h1 := fun w => parts_of k q w hq
  have a1 := fun n w => has_is 1 q false n w g1
  have a2 := fun n w => has_is 2 q true n w g2
  have a4 := fun n w => has_is 4 q true n w g3
  clear hq g1 g2 g3
  go_enter Try.func73, Try.ntmps73
  go_wp2_with (first
    | ((with_reducible refine (h1 _).mono ?_); rintro e w' ⟨rfl, rfl⟩)
    | ((with_reducible refine (a1 _ _ (by simp [go_sem])).mono ?_); rintro e w' ⟨rfl, rfl⟩)
    | ((with_reducible refine (a2 _ _ (by simp [go_sem])).mono ?_); rintro e w' ⟨rfl, rfl⟩)
    | ((with_reducible refine (a4 _ _ (by simp [go_sem])).mono ?_); rintro e w' ⟨rfl, rfl⟩))
  all_goals go_returns
  all_goals (refine ⟨?_, kp_of_below (by go_grown)⟩; first | rw [show max r 1 = r from by omega] | rw [show max r 1 = 1 from by omega])

set_option maxHeartbeats 1000000 in
theorem proper_nny (k c r o q : Int) (w : World) (hr0 : 0 ≤ r) (hr1 : r ≤ 255) (hq : partsK k = q) (g1 : (bits .and .u8 q 1 != 0) = false) (g2 : (bits .and .u8 q 2 != 0) = false) (g3 : (bits .and .u8 q 4 != 0) = true) :
    Calls Try.prog 73 #[.agg #[.int .u8 k, .int .u8 c, .int .u8 r, .int .u8 o]] w fun e w' => e = .returned (.agg #[.int .u8 k, .int .u8 0, .int .u8 0, .int .u8 o]) ∧ Kp [] w w' := by
  have h1 := fun w => parts_of k q w hq
  have a1 := fun n w => has_is 1 q false n w g1
  have a2 := fun n w => has_is 2 q false n w g2
  have a4 := fun n w => has_is 4 q true n w g3
  clear hq g1 g2 g3
  go_enter Try.func73, Try.ntmps73
  go_wp2_with (first
    | ((with_reducible refine (h1 _).mono ?_); rintro e w' ⟨rfl, rfl⟩)
    | ((with_reducible refine (a1 _ _ (by simp [go_sem])).mono ?_); rintro e w' ⟨rfl, rfl⟩)
    | ((with_reducible refine (a2 _ _ (by simp [go_sem])).mono ?_); rintro e w' ⟨rfl, rfl⟩)
    | ((with_reducible refine (a4 _ _ (by simp [go_sem])).mono ?_); rintro e w' ⟨rfl, rfl⟩))
  go_returns
  exact ⟨rfl, kp_of_below (by go_grown)⟩

theorem proper_is (k c r o : Int) (w : World) (hr0 : 0 ≤ r) (hr1 : r ≤ 255) :
    Calls Try.prog 73 #[.agg #[.int .u8 k, .int .u8 c, .int .u8 r, .int .u8 o]] w fun e w' => e = .returned (.agg #[.int .u8 k, .int .u8 (prC k c), .int .u8 (prR k r), .int .u8 (prO k o)]) ∧ Kp [] w w' := by
  rcases kind_cases k with rfl | rfl | rfl | rfl | rfl | rfl | ⟨h1, h2, h5, h4, h⟩
  · exact proper_nnn 0 c r o 0 w hr0 hr1 rfl (by decide) (by decide) (by decide)
  · exact proper_yny 1 c r o 5 w hr0 hr1 rfl (by decide) (by decide) (by decide)
  · exact proper_nyy 2 c r o 6 w hr0 hr1 rfl (by decide) (by decide) (by decide)
  · exact proper_nnn 3 c r o 0 w hr0 hr1 rfl (by decide) (by decide) (by decide)
  · exact proper_nny 4 c r o 4 w hr0 hr1 rfl (by decide) (by decide) (by decide)
  · exact proper_nyy 5 c r o 6 w hr0 hr1 rfl (by decide) (by decide) (by decide)
  rw [prC_out h, prR_out h, prO_out h]
  exact proper_nnn k c r o 0 w hr0 hr1 (partsK_out h) (by decide) (by decide) (by decide)

set_option maxHeartbeats 1000000 in
theorem may_core (k c r o : Int) (w : World) (h1 : k ≤ 5) (h2 : c < 4) (h3 : r ≤ 3) (h4 : o < 64) (hr0 : 0 ≤ r) :
    Calls Try.prog 63 #[.agg #[.int .u8 k, .int .u8 c, .int .u8 r, .int .u8 o]] w fun e w' => e = .returned (.bool (eqE k c r o k (prC k c) (prR k r) (prO k o))) ∧ Kp [] w w' := by
  have heq := eqT k c r o k (prC k c) (prR k r) (prO k o)
  have hprop := Lib.hid (fun w => proper_is k c r o w hr0 (by omega))
  go_enter Try.func63, Try.ntmps63
  go_wp2
  go_region_held3 (fun w' => w'.cell? ⟨w.heap.size, 0, none⟩ = some (.int .u8 k) ∧ w'.cell? ⟨w.heap.size, 1, none⟩ = some (.int .u8 c) ∧ w'.cell? ⟨w.heap.size, 2, none⟩ = some (.int .u8 r) ∧ w'.cell? ⟨w.heap.size, 3, none⟩ = some (.int .u8 o) ∧
      Below w.heap.size w w' ∧ w.heap.size < w'.heap.size)
    (first
      | exact ⟨by simp, by simp, by simp, by simp, by go_grown, by simp⟩
      | (obtain ⟨s0, s1, s2, s3, s7, s8⟩ := ‹_ ∧ _›
         exact ⟨(hc _ _ s8).trans s0, (hc _ _ s8).trans s1, (hc _ _ s8).trans s2, (hc _ _ s8).trans s3, s7.trans (hb.mono (Nat.le_of_lt s8)), Nat.lt_of_lt_of_le s8 hb.size⟩))
    (first | (go_at_call 73; refine (hprop.out _).mono ?_; rintro e w' ⟨rfl, hk⟩; have hb := hk.to_below; obtain ⟨hc, hf⟩ := bcell hb))
  obtain ⟨_, _, _, _, bel, _⟩ := ‹_ ∧ _›
  clear hk hb hc hf
  go_wp2
  go_ret
  exact ⟨rfl, kp_of_below bel⟩

theorem may_short (k c r o : Int) (w : World) (h : ¬ (k ≤ 5 ∧ c < 4 ∧ r ≤ 3 ∧ o < 64)) :
    Calls Try.prog 63 #[.agg #[.int .u8 k, .int .u8 c, .int .u8 r, .int .u8 o]] w fun e w' => e = .returned (.bool false) ∧ Kp [] w w' := by
  by_cases h1 : k ≤ 5
  · by_cases h2 : c < 4
    · by_cases h3 : r ≤ 3
      · have h4 : ¬ o < 64 := fun h4 => h ⟨h1, h2, h3, h4⟩
        have hd : decide (o < 64) = false := by simpa using h4
        clear h
        go_enter Try.func63, Try.ntmps63
        go_wp2
        go_quiet (fail)
        go_wp2
        go_ret
        exact ⟨rfl, kp_of_below (below_draws (by go_grown) _)⟩
      · have hd : decide (r ≤ 3) = false := by simpa using h3
        clear h
        go_enter Try.func63, Try.ntmps63
        go_wp2
        go_quiet (fail)
        go_wp2
        go_ret
        exact ⟨rfl, kp_of_below (below_draws (by go_grown) _)⟩
    · have hd : decide (c < 4) = false := by simpa using h2
      clear h
      go_enter Try.func63, Try.ntmps63
      go_wp2
      go_quiet (fail)
      go_wp2
      go_ret
      exact ⟨rfl, kp_of_below (below_draws (by go_grown) _)⟩
  · have hd : decide (k ≤ 5) = false := by simpa using h1
    clear h
    go_enter Try.func63, Try.ntmps63
    go_wp2
    go_quiet (fail)
    go_wp2
    go_ret
    exact ⟨rfl, kp_of_below (below_draws (by go_grown) _)⟩

theorem may_is (k c r o : Int) (b : Bool) (w : World) (hk : 0 ≤ k) (hc : 0 ≤ c) (hr : 0 ≤ r) (ho : 0 ≤ o) (h : mayE k c r o = b) :
    Calls Try.prog 63 #[.agg #[.int .u8 k, .int .u8 c, .int .u8 r, .int .u8 o]] w fun e w' => e = .returned (.bool b) ∧ Kp [] w w' := by
  subst h
  by_cases h : k ≤ 5 ∧ c < 4 ∧ r ≤ 3 ∧ o < 64
  · obtain ⟨h1, h2, h3, h4⟩ := h
    refine (may_core k c r o w h1 h2 h3 h4 hr).mono fun e w' ⟨he, hb⟩ => ⟨?_, hb⟩
    rw [he, proper_may hk hc hr ho h1 h2 h3 h4]
  · refine (may_short k c r o w h).mono fun e w' ⟨he, hb⟩ => ⟨?_, hb⟩
    rw [he, mayE_short h]

end Go.Proofs.Ytnbaiinhalplcaa.Tb

namespace Go.Proofs.Ytnbaiinhalplcaa.Tb
set_option linter.unusedVariables false
set_option linter.unusedSimpArgs false
open Go.RowKit

theorem part_any (f t x q d : Int) (b : Nat) (w : World) (h0 : 0 ≤ f) (h1 : f < t) (h2 : t - f ≤ 8) (ht2 : t ≤ 25) (hq : q = 2 ^ (t - f).toNat) (hd : d = 2 ^ f.toNat) (hx : 0 ≤ x) (hx2 : x < 18446744073709551616) (hc : w.cell? ⟨b, 0, none⟩ = some (.int .u64 x)) :
    Calls Try.prog 72 #[.int .i64 f, .int .i64 t, .pointer (some ⟨b, 0, none⟩)] w fun e w' => e = .returned (.int .u8 (x / d % q)) ∧ w.drew = w' := by
  have hh := and_part x q d f.toNat (t - f).toNat (by omega) hq hd hx hx2
  have hm := part_u8 (x / d) q (t - f).toNat (by omega) hq
  clear hq hd hx2
  go_enter Try.func72, Try.ntmps72
  go_wp2
  go_region
  go_wp2
  go_ret
  exact ⟨rfl, rfl⟩

theorem unpack_is (x : Int) (w : World) (h0 : 0 ≤ x) (h1 : x < 18446744073709551616) :
    Calls Try.prog 62 #[.int .u64 x] w fun e w' => e = .returned (.agg #[.int .u8 (x % 8), .int .u8 (x / 8 % 4), .int .u8 (x / 32 % 4), .int .u8 (x / 128 % 64)]) ∧ Kp [] w w' := by
  have H1 := Lib.hid h1
  clear h1
  go_enter Try.func62, Try.ntmps62
  go_wp2_with fail
  refine (part_any 0 3 x 8 1 w.heap.size _ (by omega) (by omega) (by omega) (by omega) (by decide) (by decide) h0 H1.out (by simp)).mono ?_; rintro e w' ⟨rfl, rfl⟩
  go_wp2_with fail
  refine (part_any 3 5 x 4 8 w.heap.size _ (by omega) (by omega) (by omega) (by omega) (by decide) (by decide) h0 H1.out (by simp)).mono ?_; rintro e w' ⟨rfl, rfl⟩
  go_wp2_with fail
  refine (part_any 5 7 x 4 32 w.heap.size _ (by omega) (by omega) (by omega) (by omega) (by decide) (by decide) h0 H1.out (by simp)).mono ?_; rintro e w' ⟨rfl, rfl⟩
  go_wp2_with fail
  refine (part_any 7 13 x 64 128 w.heap.size _ (by omega) (by omega) (by omega) (by omega) (by decide) (by decide) h0 H1.out (by simp)).mono ?_; rintro e w' ⟨rfl, rfl⟩
  go_wp2
  go_returns
  exact ⟨rfl, kp_of_below (by go_grown)⟩

theorem take_high (x : Int) (w : World) (h0 : 0 ≤ x) (h1 : x < 18446744073709551616) (h : 8192 ≤ x) :
    Calls Try.prog 45 #[.int .u64 x] w fun e w' => e = .returned (.tuple #[.agg #[.int .u8 0, .int .u8 0, .int .u8 0, .int .u8 0], .int .i64 3]) ∧ Kp [] w w' := by
  have H1 := Lib.hid h1
  clear h1
  have hne : (x / 8192 != 0) = true := by simp; omega
  clear h
  go_enter Try.func45, Try.ntmps45
  go_wp2_with fail
  refine (unpack_is x _ h0 H1.out).mono ?_; rintro e w1 ⟨rfl, hk⟩
  have blk := Lib.hid (hk.row (by simp) (heap_alloc_new w _))
  have kp := Lib.hid (((Kp.refl [] w).alloc _).trans hk)
  have hz : w.heap.size < w1.heap.size := by have := hk.size; simp at this; omega
  clear hk
  go_wp2_with (refine wpList_store_row rfl 52 _ _ rfl w.heap.size _ rfl rfl 52 _ ((Below.heap_alloc _ _ _ hz).trans blk.out) (by kernel_rfl) rfl (by simp [Value.oneCell']) ?_)
  exact bodyPost_row_tmp rfl w.heap.size 52 _ (0, 0) _ (.int .i64 3) rfl rfl rfl (setRow_heap _ _ _ _ _ _ ((Below.heap_alloc _ _ _ hz).trans blk.out)) Try.underlying52 rfl (by kernel_rfl)
    ⟨rfl, (kp.out.alloc _).setRow (.inr (Nat.le_refl _)) _⟩

theorem take_low (x n k c r o : Int) (b : Bool) (w : World) (h0 : 0 ≤ x) (h : x < 8192) (hm : mayE (x % 8) (x / 8 % 4) (x / 32 % 4) (x / 128 % 64) = b)
    (hb : (b = true ∧ n = 0 ∧ k = x % 8 ∧ c = x / 8 % 4 ∧ r = x / 32 % 4 ∧ o = x / 128 % 64) ∨ (b = false ∧ n = 3 ∧ k = 0 ∧ c = 0 ∧ r = 0 ∧ o = 0)) :
    Calls Try.prog 45 #[.int .u64 x] w fun e w' => e = .returned (.tuple #[.agg #[.int .u8 k, .int .u8 c, .int .u8 r, .int .u8 o], .int .i64 n]) ∧ Kp [] w w' := by
  have hne : (x / 8192 != 0) = false := by simp; omega
  have hx : x < 18446744073709551616 := by omega
  have H1 := Lib.hid hx
  have hmay := Lib.hid (fun w => may_is _ _ _ _ b w (by omega) (by omega) (by omega) (by omega) hm)
  clear hx h hm
  rcases hb with ⟨rfl, rfl, rfl, rfl, rfl, rfl⟩ | ⟨rfl, rfl, rfl, rfl, rfl, rfl⟩
  · go_enter Try.func45, Try.ntmps45
    go_wp2_with fail
    refine (unpack_is x _ h0 H1.out).mono ?_; rintro e w1 ⟨rfl, hk⟩
    have blk := Lib.hid (hk.row (by simp) (heap_alloc_new w _))
    have kp := Lib.hid (((Kp.refl [] w).alloc _).trans hk)
    have hz : w.heap.size < w1.heap.size := by have := hk.size; simp at this; omega
    clear hk
    go_wp2_with fail
    refine (hmay.out _).mono ?_; rintro e w2 ⟨rfl, hk⟩
    have hb := hk.to_below
    obtain ⟨hc1, hf1⟩ := bcell hb
    have blk2 := Lib.hid (hk.row (by simp) ((Below.heap_alloc _ _ _ hz).trans blk.out))
    have kp2 := Lib.hid ((kp.out.alloc _).trans hk)
    clear hk hb
    go_wp2_with (refine wpList_store_row rfl 52 _ _ rfl w.heap.size _ rfl rfl 52 _ blk2.out (by kernel_rfl) rfl (by simp [Value.oneCell']) ?_)
    exact bodyPost_row_tmp rfl w.heap.size 52 _ (0, 0) _ (.int .i64 0) rfl rfl rfl (setRow_heap _ _ _ _ _ _ blk2.out) Try.underlying52 rfl (by kernel_rfl)
      ⟨rfl, kp2.out.setRow (.inr (Nat.le_refl _)) _⟩
  · go_enter Try.func45, Try.ntmps45
    go_wp2_with fail
    refine (unpack_is x _ h0 H1.out).mono ?_; rintro e w1 ⟨rfl, hk⟩
    have blk := Lib.hid (hk.row (by simp) (heap_alloc_new w _))
    have kp := Lib.hid (((Kp.refl [] w).alloc _).trans hk)
    have hz : w.heap.size < w1.heap.size := by have := hk.size; simp at this; omega
    clear hk
    go_wp2_with fail
    refine (hmay.out _).mono ?_; rintro e w2 ⟨rfl, hk⟩
    have blk2 := Lib.hid (hk.row (by simp) ((Below.heap_alloc _ _ _ hz).trans blk.out))
    have kp2 := Lib.hid ((kp.out.alloc _).trans hk)
    clear hk
    go_wp2_with (refine wpList_store_row rfl 52 _ _ rfl w.heap.size _ rfl rfl 52 _ blk2.out (by kernel_rfl) rfl (by simp [Value.oneCell']) ?_)
    exact bodyPost_row_tmp rfl w.heap.size 52 _ (0, 0) _ (.int .i64 3) rfl rfl rfl (setRow_heap _ _ _ _ _ _ blk2.out) Try.underlying52 rfl (by kernel_rfl)
      ⟨rfl, kp2.out.setRow (.inr (Nat.le_refl _)) _⟩

theorem take_some (x : Int) (w : World) (h0 : 0 ≤ x) (h : takeE x = true) :
    Calls Try.prog 45 #[.int .u64 x] w fun e w' => e = .returned (.tuple #[.agg #[.int .u8 (x % 8), .int .u8 (x / 8 % 4), .int .u8 (x / 32 % 4), .int .u8 (x / 128 % 64)], .int .i64 0]) ∧ Kp [] w w' := by
  have h' := h
  simp only [takeE, Bool.and_eq_true, decide_eq_true_eq] at h'
  exact take_low x 0 _ _ _ _ true w h0 h'.1 h'.2 (.inl ⟨rfl, rfl, rfl, rfl, rfl, rfl⟩)
theorem take_none (x : Int) (w : World) (h0 : 0 ≤ x) (h1 : x < 18446744073709551616) (h : takeE x = false) :
    Calls Try.prog 45 #[.int .u64 x] w fun e w' => e = .returned (.tuple #[.agg #[.int .u8 0, .int .u8 0, .int .u8 0, .int .u8 0], .int .i64 3]) ∧ Kp [] w w' := by
  by_cases hx : x < 8192
  · refine take_low x 3 _ _ _ _ false w h0 hx ?_ (.inr ⟨rfl, rfl, rfl, rfl, rfl, rfl⟩)
    simpa [takeE, hx] using h
  · exact take_high x w h0 h1 (by omega)

end Go.Proofs.Ytnbaiinhalplcaa.Tb

namespace Go.Proofs.Ytnbaiinhalplcaa.Ly

/-- The place of thing k in a row. -/
def rowP (fr things wd k : Int) : Int := if k < 0 ∨ things ≤ k then -1 else fr + k * wd
theorem rowP_out {fr things wd k : Int} (h : k < 0 ∨ things ≤ k) : rowP fr things wd k = -1 := if_pos h
theorem rowP_in {fr things wd k : Int} (h0 : 0 ≤ k) (h1 : k < things) : rowP fr things wd k = fr + k * wd := if_neg (by omega)

end Go.Proofs.Ytnbaiinhalplcaa.Ly

namespace Go.Proofs.Ytnbaiinhalplcaa.Ly
set_option linter.unusedVariables false
set_option linter.unusedSimpArgs false
open Go.RowKit

theorem blocks_is (t g b : Int) (w : World) : Calls Try.prog 29 #[.agg #[.int .i64 t, .int .i64 g, .int .i64 b]] w fun e w' => e = .returned (.int .i64 b) ∧ Kp [] w w' := by
  go_enter Try.func29, Try.ntmps29
  go_wp2
  go_ret
  exact ⟨rfl, (Kp.refl _ _).alloc _⟩
theorem roots_is (t g b : Int) (w : World) (t0 : 0 ≤ t) (t1 : t ≤ 64) : Calls Try.prog 69 #[.agg #[.int .i64 t, .int .i64 g, .int .i64 b]] w fun e w' => e = .returned (.int .i64 (3 + t)) ∧ Kp [] w w' := by
  go_enter Try.func69, Try.ntmps69
  go_wp2
  go_ret
  exact ⟨rfl, (Kp.refl _ _).alloc _⟩

/-- A layout's box: its three cells, and that below it all is as it was. -/
abbrev Box3 (w0 : World) (t g b : Int) (w' : World) : Prop :=
  w'.cell? ⟨w0.heap.size, 0, none⟩ = some (.int .i64 t) ∧ w'.cell? ⟨w0.heap.size, 1, none⟩ = some (.int .i64 g) ∧ w'.cell? ⟨w0.heap.size, 2, none⟩ = some (.int .i64 b) ∧ Below w0.heap.size w0 w' ∧ w0.heap.size < w'.heap.size
theorem box3_new (w0 : World) (t g b : Int) (T : TypeId) : Box3 w0 t g b (w0.alloc (.cells #[.int .i64 t, .int .i64 g, .int .i64 b] T)) :=
  ⟨by simp, by simp, by simp, by go_grown, by simp⟩
theorem box3_step {w0 w w' : World} {t g b : Int} (h : Box3 w0 t g b w) (hk : Kp [] w w') : Box3 w0 t g b w' := by
  obtain ⟨s0, s1, s2, s7, s8⟩ := h
  have hb := hk.to_below
  have hc := (bcell hb).1
  exact ⟨(hc _ _ s8).trans s0, (hc _ _ s8).trans s1, (hc _ _ s8).trans s2, s7.trans (hb.mono (Nat.le_of_lt s8)), Nat.lt_of_lt_of_le s8 hb.size⟩
theorem box3_drew {w0 w : World} {t g b : Int} (h : Box3 w0 t g b w) : Box3 w0 t g b w.drew := by
  obtain ⟨s0, s1, s2, s7, s8⟩ := h
  exact ⟨s0, s1, s2, s7.drew, s8⟩

theorem table_is (t g b : Int) (w : World) (t0 : 0 ≤ t) (t1 : t ≤ 64) (g0 : 0 ≤ g) (g1 : g ≤ 8) : Calls Try.prog 53 #[.agg #[.int .i64 t, .int .i64 g, .int .i64 b]] w fun e w' => e = .returned (.int .i64 (3 + t + g)) ∧ Kp [] w w' := by
  have k1 := Lib.hid (fun w => roots_is t g b w t0 t1)
  go_enter Try.func53, Try.ntmps53
  go_wp2
  have hw1 := IntWalk.i64_in (3 + t + g) (by omega)
  go_region_held3 (fun w' => w'.cell? ⟨w.heap.size, 0, none⟩ = some (.int .i64 t) ∧ w'.cell? ⟨w.heap.size, 1, none⟩ = some (.int .i64 g) ∧ w'.cell? ⟨w.heap.size, 2, none⟩ = some (.int .i64 b) ∧ Below w.heap.size w w' ∧ w.heap.size < w'.heap.size)
    (first
      | exact ⟨by simp, by simp, by simp, by go_grown, by simp⟩
      | exact box3_step ‹Box3 w t g b _› hk)
    (first | (go_at_call 69; refine (k1.out _).mono ?_; rintro e w' ⟨rfl, hk⟩))
  obtain ⟨_, _, _, bel, _⟩ := ‹_ ∧ _›
  clear hk
  go_wp2
  go_ret
  exact ⟨rfl, kp_of_below bel⟩

theorem row_of (f n d : Int) (w : World) :
    Calls Try.prog 58 #[.int .i64 f, .int .i64 n, .int .i64 d] w fun e w' => e = .returned (.func (.func 71) #[] #[.pointer (some ⟨w.heap.size + 1, 0, none⟩), .pointer (some ⟨w.heap.size, 0, none⟩), .pointer (some ⟨w.heap.size + 2, 0, none⟩)]) ∧
      ((w.alloc (.cells #[.int .i64 f] 3)).alloc (.cells #[.int .i64 n] 3)).alloc (.cells #[.int .i64 d] 3) = w' := by
  go_enter Try.func58, Try.ntmps58
  go_wp2
  go_ret
  exact ⟨rfl, rfl⟩

theorem place_is (f n d k p : Int) (bf bn bd : Nat) (w : World) (hp : rowP f n d k = p) (f0 : 0 ≤ f) (f1 : f ≤ 200) (n0 : 0 ≤ n) (n1 : n ≤ 64) (d0 : 0 ≤ d) (d1 : d ≤ 32) (hf : w.cell? ⟨bf, 0, none⟩ = some (.int .i64 f)) (hn : w.cell? ⟨bn, 0, none⟩ = some (.int .i64 n)) (hd : w.cell? ⟨bd, 0, none⟩ = some (.int .i64 d)) :
    Calls Try.prog 71 #[.int .i64 k, .pointer (some ⟨bn, 0, none⟩), .pointer (some ⟨bf, 0, none⟩), .pointer (some ⟨bd, 0, none⟩)] w fun e w' => e = .returned (.int .i64 p) ∧ w = w' := by
  subst hp
  rcases (by omega : k < 0 ∨ (0 ≤ k ∧ n ≤ k) ∨ (0 ≤ k ∧ k < n)) with h | ⟨h0, h1⟩ | ⟨h0, h1⟩
  · rw [rowP_out (.inl h)]
    go_enter Try.func71, Try.ntmps71
    go_wp2
    go_ret
    exact ⟨rfl, rfl⟩
  · rw [rowP_out (.inr h1)]
    go_enter Try.func71, Try.ntmps71
    go_wp2
    go_ret
    exact ⟨rfl, rfl⟩
  · rw [rowP_in h0 h1]
    have h2 : 0 ≤ k * d := Int.mul_nonneg h0 d0
    have h3 : k * d ≤ 2048 := Int.le_trans (Int.mul_le_mul (show k ≤ 64 by omega) d1 d0 (by omega)) (by omega)
    go_enter Try.func71, Try.ntmps71
    go_wp2
    go_ret
    exact ⟨rfl, rfl⟩

end Go.Proofs.Ytnbaiinhalplcaa.Ly
