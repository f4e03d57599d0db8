/- ShadeOnce's driver: its frame of 318 slots; a piece of code that who steps does alone, the slots that matter kept as a list; plain facts. Written by gen/so_d.py. The walks of package shade, on: Shade and Blacken over an arena, and of no memory. Conditions: as each theorem states them (the numbers are those of a uint8, of a uint64). The walks of the document's own Shaded and Blackened, and of the law's wakes. Conditions: as each theorem states them (the numbers are those of a uint8, of a uint64). Rows of the call's own, of elements of whatever type; 'append', its run and its law; such a row as what is held of blocks. Conditions: as each lemma states them. ShadeOnce: the pieces ahead of its second loop, each done alone. Written by gen/so_f.py. The law's wake: to the agent's birth. Written by gen/ah_i.py. The law's wake. Written by gen/ah_j.py. The law's wake, as a whole. Written by gen/ah_k.py. The law 'AgentNil': its walk. Written by gen/ah_l.py. ShadeOnce: its ten pieces ahead of its second loop, glued. Written by gen/so_g.py. Conditions: as each theorem states them. -/
import Derived.Test.YtnbibpmhmffmpaaRows
import Derived.OneCell
import Derived.Deep.Draws
import Derived.ProofKit
import Derived.OwnWalk
import Derived.ArgAppend
import Derived.Deep.AppendLies
import Derived.Maps.AppendAt
import Derived.Laws.BytesArg
import Derived.Deep.RegionLaw
import Derived.Test.YtnbibpmhmffmpaaPk10
import Derived.Test.YtnbibpmhmffmpaaPk14
import Derived.Test.YtnbibpmhmffmpaaPk16
import Derived.Test.YtnbibpmhmffmpaaPk17
namespace Go.Proofs.Ytnbibpmhmffmpaa
set_option linter.unusedVariables false
set_option linter.unusedSimpArgs false
set_option maxRecDepth 100000
open Go.Conc
open Go.ConcN (upd_ne upd_same)

def T318 (x : Nat → Value) : Array Value := #[x 0, x 1, x 2, x 3, x 4, x 5, x 6, x 7, x 8, x 9, x 10, x 11, x 12, x 13, x 14, x 15, x 16, x 17, x 18, x 19, x 20, x 21, x 22, x 23, x 24, x 25, x 26, x 27, x 28, x 29, x 30, x 31, x 32, x 33, x 34, x 35, x 36, x 37, x 38, x 39, x 40, x 41, x 42, x 43, x 44, x 45, x 46, x 47, x 48, x 49, x 50, x 51, x 52, x 53, x 54, x 55, x 56, x 57, x 58, x 59, x 60, x 61, x 62, x 63, x 64, x 65, x 66, x 67, x 68, x 69, x 70, x 71, x 72, x 73, x 74, x 75, x 76, x 77, x 78, x 79, x 80, x 81, x 82, x 83, x 84, x 85, x 86, x 87, x 88, x 89, x 90, x 91, x 92, x 93, x 94, x 95, x 96, x 97, x 98, x 99, x 100, x 101, x 102, x 103, x 104, x 105, x 106, x 107, x 108, x 109, x 110, x 111, x 112, x 113, x 114, x 115, x 116, x 117, x 118, x 119, x 120, x 121, x 122, x 123, x 124, x 125, x 126, x 127, x 128, x 129, x 130, x 131, x 132, x 133, x 134, x 135, x 136, x 137, x 138, x 139, x 140, x 141, x 142, x 143, x 144, x 145, x 146, x 147, x 148, x 149, x 150, x 151, x 152, x 153, x 154, x 155, x 156, x 157, x 158, x 159, x 160, x 161, x 162, x 163, x 164, x 165, x 166, x 167, x 168, x 169, x 170, x 171, x 172, x 173, x 174, x 175, x 176, x 177, x 178, x 179, x 180, x 181, x 182, x 183, x 184, x 185, x 186, x 187, x 188, x 189, x 190, x 191, x 192, x 193, x 194, x 195, x 196, x 197, x 198, x 199, x 200, x 201, x 202, x 203, x 204, x 205, x 206, x 207, x 208, x 209, x 210, x 211, x 212, x 213, x 214, x 215, x 216, x 217, x 218, x 219, x 220, x 221, x 222, x 223, x 224, x 225, x 226, x 227, x 228, x 229, x 230, x 231, x 232, x 233, x 234, x 235, x 236, x 237, x 238, x 239, x 240, x 241, x 242, x 243, x 244, x 245, x 246, x 247, x 248, x 249, x 250, x 251, x 252, x 253, x 254, x 255, x 256, x 257, x 258, x 259, x 260, x 261, x 262, x 263, x 264, x 265, x 266, x 267, x 268, x 269, x 270, x 271, x 272, x 273, x 274, x 275, x 276, x 277, x 278, x 279, x 280, x 281, x 282, x 283, x 284, x 285, x 286, x 287, x 288, x 289, x 290, x 291, x 292, x 293, x 294, x 295, x 296, x 297, x 298, x 299, x 300, x 301, x 302, x 303, x 304, x 305, x 306, x 307, x 308, x 309, x 310, x 311, x 312, x 313, x 314, x 315, x 316, x 317]
theorem T318_eq (f : Nat → Value) : T318 f = ((List.range 318).map f).toArray := by kernel_rfl
theorem arr318 (t : Array Value) (h : t.size = 318) : t = T318 (fun j => t.getD j undef) := by
  rw [T318_eq]
  apply Array.ext'
  apply List.ext_getElem (by simp [h])
  intro i h1 h2
  simp only [List.getElem_map, List.getElem_range]
  have h3 : i < t.size := by simpa using h1
  simp [h3]
/-- What some slots hold. -/
def HasX (x : Nat → Value) : List (Nat × Value) → Prop
  | [] => True
  | p :: r => x p.1 = p.2 ∧ HasX x r

theorem Priv.exTied {ι : Type} {o' : ι → Nat → Prop} {B : ι → World → Prop} (h : ∀ i, Priv (o' i) (B i)) (p : ι → Prop) (o : Nat → Prop) : Priv o (fun w => ∃ i, o = o' i ∧ p i ∧ B i w) := by
  refine ⟨fun w w' hh hb => ?_, fun w b hh hb => ?_, fun w b hh hb => ?_⟩
  · obtain ⟨i, h1, h2, h3⟩ := hh
    exact ⟨i, h1, h2, (h i).st _ _ h3 fun b hb' => hb b (by rw [h1]; exact hb')⟩
  · obtain ⟨i, h1, h2, h3⟩ := hh
    exact (h i).np _ _ h3 (by rw [← h1]; exact hb)
  · obtain ⟨i, h1, h2, h3⟩ := hh
    exact (h i).lt _ _ h3 (by rw [← h1]; exact hb)

section
variable {pl : Nat → Option Place} {F : Nat → Option (Nat × Nat)} {w w' : World} {n h : Nat} {Post : Value → World → Prop}

/-- What an act is, by the slots that matter. -/
def FrX (K : List (Nat × Value)) (a : Act) : Prop := a.defers = [] ∧ a.tmps.size = 318 ∧ HasX (fun j => a.tmps.getD j undef) K
theorem FrX.at {K : List (Nat × Value)} {a : Act} (h : FrX K a) : a = ⟨T318 (fun j => a.tmps.getD j undef), []⟩ := by
  obtain ⟨t, d⟩ := a
  obtain ⟨hd, hz, _⟩ := h
  simp only at hd hz
  subst hd
  rw [← arr318 t hz]

/-- A PIECE OF CODE of the driver's, done alone. -/
theorem Lies.piece (L : Lies pl F w) (hFn : ∀ x, w.heap.size ≤ x → F x = none) {ι : Type} {own S : Nat → Prop} {A : World → Prop} (hP : Priv own A) (hA : A w) (hFo : ∀ b, own b → F b = none)
    {own' : ι → Nat → Prop} {A' : ι → World → Prop} (hP' : ∀ i, Priv (own' i) (A' i)) {K' : ι → List (Nat × Value)}
    {b : Frame} {x : Nat → Value} {k : List Item} {cs : List Frame} {c : Code}
    (hok : StOK Try.prog (b.at ⟨T318 x, []⟩ (.code c :: k)) [])
    (hc : ∀ (wt : World) (Q : Exit → Act → World → Prop), A wt → wt.heap.size = w.heap.size → (∀ ad, wt.cell? ad = w.cell? ad) → (∀ a' i w', (∀ y, own' i y → own y ∨ (wt.heap.size ≤ y ∧ y < w'.heap.size)) → FrX (K' i) a' → A' i w' → Ks S wt w' → Q .normal a' w') → c.wp Try.prog Q ⟨T318 x, []⟩ wt)
    (H : ∀ (x' : Nat → Value) i w', (∀ y, own' i y → own y ∨ (w.heap.size ≤ y ∧ y < w'.heap.size)) → HasX x' (K' i) → A' i w' → Ks S w w' → Lies pl F w' → Win Try.prog Post pl n h (gor (b.at ⟨T318 x', []⟩ k) cs) w') :
    Win Try.prog Post pl n h (gor (b.at ⟨T318 x, []⟩ (.code c :: k)) cs) w := by
  refine L.code hFn hP hA hFo (R := fun a' o w' => ∃ i, o = own' i ∧ FrX (K' i) a' ∧ A' i w') (fun a' o => Priv.exTied hP' _ o) hok (fun wt Q h1 h2 h3 hQ => hc wt Q h1 h2 h3 fun a' i w' ho hf ha hk => hQ a' _ w' ho ⟨i, rfl, hf, ha⟩ hk) fun a' o w' ho hr hk hL => ?_
  obtain ⟨i, rfl, hf, ha⟩ := hr
  have e := hf.at
  have := H (fun j => a'.tmps.getD j undef) i w' ho hf.2.2 ha hk hL
  rw [e]
  exact this
end
section
variable {SB : Nat → Prop} {pA rA : Nat} {pl pl' : Nat → Option Place} {F F' : Nat → Option (Nat × Nat)} {col col' : Nat → Col} {w w' : World} {n : Nat} {Post : Value → World → Prop}
/-- The same for who steps. -/
theorem Desk.piece (D : Desk SB pA rA pl F col w) {ι : Type} {own S : Nat → Prop} {A : World → Prop} (hP : Priv own A) (hA : A w) (hown : ∀ b, own b → (col b).isSys = false)
    {own' : ι → Nat → Prop} {A' : ι → World → Prop} (hP' : ∀ i, Priv (own' i) (A' i)) {K' : ι → List (Nat × Value)}
    {b : Frame} {x : Nat → Value} {k : List Item} {cs : List Frame} {c : Code}
    (hok : StOK Try.prog (b.at ⟨T318 x, []⟩ (.code c :: k)) [])
    (hc : ∀ (wt : World) (Q : Exit → Act → World → Prop), A wt → wt.heap.size = w.heap.size → (∀ ad, wt.cell? ad = w.cell? ad) → (∀ a' i w', (∀ y, own' i y → own y ∨ (wt.heap.size ≤ y ∧ y < w'.heap.size)) → FrX (K' i) a' → A' i w' → Ks S wt w' → Q .normal a' w') → c.wp Try.prog Q ⟨T318 x, []⟩ wt)
    (H : ∀ (x' : Nat → Value) i w', (∀ y, own' i y → own y ∨ (w.heap.size ≤ y ∧ y < w'.heap.size)) → HasX x' (K' i) → A' i w' → Ks S w w' → Desk SB pA rA pl F col w' → Win Try.prog Post pl n 0 (gor (b.at ⟨T318 x', []⟩ k) cs) w') :
    Win Try.prog Post pl n 0 (gor (b.at ⟨T318 x, []⟩ (.code c :: k)) cs) w :=
  D.lies.piece (fun x hx => D.lay.free x (by rw [D.lay.above x hx]; rfl)) hP hA (fun x hx => D.lay.free x (hown x hx)) hP' hok hc fun x' i w' ho hf ha hk hL => H x' i w' ho hf ha hk (D.turned hL hk.size)
end

/-- A word without colour and grey, if it is a Global header's. -/
def plnI (x : Int) : Int := if x % 4 = 3 then x - x / 4 % 4 * 4 else x
theorem pln_and (x : Int) (h0 : 0 ≤ x) (h1 : x < 18446744073709551616) : bits .and .u64 x 3 = x % 4 := by
  obtain ⟨a, rfl⟩ := Int.eq_ofNat_of_zero_le h0
  have := u64_and_nat a 3 (by omega) (by decide)
  rw [show ((3 : Nat) : Int) = 3 from rfl] at this
  rw [this, show (3 : Nat) = 2 ^ 2 - 1 from rfl, Nat.and_two_pow_sub_one_eq_mod]
  omega
theorem nat_not12 (a : Nat) (h : a < 18446744073709551616) : a &&& (18446744073709551615 - 12) = a - a / 4 % 4 * 4 := by
  have h1 : (a &&& 18446744073709551603) / 2 ^ 4 = a / 2 ^ 4 &&& 18446744073709551603 / 2 ^ 4 := Nat.and_div_two_pow
  have h2 : (a &&& 18446744073709551603) % 2 ^ 4 = a % 2 ^ 4 &&& 18446744073709551603 % 2 ^ 4 := Nat.and_mod_two_pow
  rw [show (18446744073709551603 : Nat) / 2 ^ 4 = 2 ^ 60 - 1 by decide, Nat.and_two_pow_sub_one_eq_mod] at h1
  rw [show (18446744073709551603 : Nat) % 2 ^ 4 = 2 ^ 2 - 1 by decide, Nat.and_two_pow_sub_one_eq_mod] at h2
  show a &&& 18446744073709551603 = _
  generalize (a &&& 18446744073709551603) = z at *
  omega
theorem pln_not (x : Int) (h0 : 0 ≤ x) (h1 : x < 18446744073709551616) : bits .andNot .u64 x 12 = x - x / 4 % 4 * 4 := by
  obtain ⟨a, rfl⟩ := Int.eq_ofNat_of_zero_le h0
  have := u64_andNot_nat a 12 (by omega) (by decide)
  rw [show ((12 : Nat) : Int) = 12 from rfl] at this
  rw [this, nat_not12 a (by omega)]
  omega
theorem plain_is (x y : Int) (w : World) (h0 : 0 ≤ x) (h1 : x < 18446744073709551616) (hy : plnI x = y) : Calls Try.prog 27 #[.int .u64 x] w fun e w' => e = .returned (.int .u64 y) ∧ w' = w := by
  have ha := pln_and x h0 h1
  have hn := pln_not x h0 h1
  unfold plnI at hy
  by_cases h : x % 4 = 3
  · rw [if_pos h] at hy
    rw [hy] at hn
    have hb : (x % 4 != 3) = false := by simp [h]
    rw [h] at ha
    clear hy h1 h0 h hb
    go_enter Try.func27, Try.ntmps27
    go_wp2
    go_ret
    exact ⟨rfl, rfl⟩
  · rw [if_neg h] at hy
    subst hy
    have hb : (x % 4 != 3) = true := by simp [h]
    generalize x % 4 = r at ha hb
    clear hn h1 h0 h
    go_enter Try.func27, Try.ntmps27
    go_wp2
    go_ret
    exact ⟨rfl, rfl⟩

/-- What an agent's touch makes of a word, as the law asks. -/
theorem pln_dyed {x c : Int} {g : Bool} (hx0 : 0 ≤ x) (h : glob x = true) (h0 : 0 ≤ c) (h1 : c ≤ 1) : plnI (dyed x c g) = plnI x := by
  have hm := glob_may (g := g) h h0 h1
  have e := parts_of_word 3 c (x / 32 % 64) (x / 2048 % 128) (x / 262144 % 128) g false (by omega) h0 (by omega) (by omega) (by omega) hm
  obtain ⟨ht, hx3⟩ := glob_take h
  have hmk := glob_marked h
  have hx := takeB_word x
  have hb := bitI_le g
  have e1 : dyed x c g = 3 + c * 4 + bitI g * 8 + (x / 32 % 64) * 32 + (x / 2048 % 128) * 2048 + (x / 262144 % 128) * 262144 := by simp [dyed, wordI, bitI]
  simp only [takeB, Bool.and_eq_true, decide_eq_true_eq] at ht
  have h16 : x / 16 % 2 = 0 := by
    have := hmk
    simp only [beq_eq_false_iff_ne, ne_eq] at this
    omega
  have e4 : dyed x c g % 4 = 3 := e.1
  unfold plnI
  rw [if_pos e4, if_pos hx3]
  have hlt := ht.1
  have ex : x = x % 4 + (x / 4 % 4) * 4 + (x / 16 % 2) * 16 + (x / 32 % 64) * 32 + (x / 2048 % 128) * 2048 + (x / 262144 % 128) * 262144 := by omega
  have ed : dyed x c g / 4 % 4 = c + 2 * bitI g := by rw [e1]; omega
  rw [ed, e1]
  omega
/-- What a touch may make of a word. -/
def mayTouch (cc x y : Int) : Prop := y = x ∨ y = shadeI x cc ∨ y = blackI x
theorem trio {a b : Int} (h : (a = 1 ∧ b = 1) ∨ (a = 1 ∧ b = 2) ∨ (a = 2 ∧ b = 3) ∨ (a = 3 ∧ b = 3) ∨ a = b) : ((a = 0) ↔ (b = 0)) ∧ (a ≠ 1 ∨ b ≠ 3) ∧ (a = 1 ∨ b ≠ 1) := by
  rcases h with ⟨rfl, rfl⟩ | ⟨rfl, rfl⟩ | ⟨rfl, rfl⟩ | ⟨rfl, rfl⟩ | rfl
  · decide
  · decide
  · decide
  · decide
  · exact ⟨Iff.rfl, by omega, by omega⟩
theorem touch_ok {cc x y : Int} (hx0 : 0 ≤ x) (hc0 : 0 ≤ cc) (hc1 : cc ≤ 1) (h : mayTouch cc x y) : plnI y = plnI x ∧ ((tellI x cc = 0) ↔ (tellI y cc = 0)) ∧ (tellI x cc ≠ 1 ∨ tellI y cc ≠ 3) ∧ (tellI x cc = 1 ∨ tellI y cc ≠ 1) := by
  rcases h with rfl | rfl | rfl
  · exact ⟨rfl, trio (by simp)⟩
  · unfold shadeI
    split
    · rename_i ht
      obtain ⟨hg, _⟩ := tell_pos (x := x) (c := cc) (by rw [ht]; decide)
      have hg2 := glob_dyed (g := true) hg hc0 hc1
      have e := parts_of_word 3 cc (x / 32 % 64) (x / 2048 % 128) (x / 262144 % 128) true false (by omega) hc0 (by omega) (by omega) (by omega) (glob_may hg hc0 hc1)
      have e1 : dyed x cc true / 4 % 2 = cc := e.2.1
      have e2 : (dyed x cc true / 8 % 2 == 1) = true := e.2.2.2.2.2.1
      have t2 : tellI (dyed x cc true) cc = 2 := by
        unfold tellI
        rw [if_pos ⟨hg2, hc1⟩, if_pos e1, if_pos (by simpa using e2)]
      exact ⟨pln_dyed hx0 hg hc0 hc1, trio (.inr (.inl ⟨ht, t2⟩))⟩
    · exact ⟨rfl, trio (by simp)⟩
  · unfold blackI
    split
    · rename_i hg
      have hc4 : 0 ≤ x / 4 % 2 ∧ x / 4 % 2 ≤ 1 := by omega
      have hg2 := glob_dyed (g := false) hg hc4.1 hc4.2
      have e := parts_of_word 3 (x / 4 % 2) (x / 32 % 64) (x / 2048 % 128) (x / 262144 % 128) false false (by omega) hc4.1 (by omega) (by omega) (by omega) (glob_may hg hc4.1 hc4.2)
      have e1 : dyed x (x / 4 % 2) false / 4 % 2 = x / 4 % 2 := e.2.1
      have e8 : ¬ dyed x (x / 4 % 2) false / 8 % 2 = 1 := by have : (dyed x (x / 4 % 2) false / 8 % 2 == 1) = false := e.2.2.2.2.2.1; simpa using this
      by_cases h4 : x / 4 % 2 = cc
      · have ty : tellI (dyed x (x / 4 % 2) false) cc = 3 := by
          unfold tellI
          rw [if_pos ⟨hg2, hc1⟩, if_pos (by rw [e1]; exact h4), if_neg e8]
        have tx : tellI x cc = 2 ∨ tellI x cc = 3 := by
          unfold tellI
          rw [if_pos ⟨hg, hc1⟩, if_pos h4]
          by_cases h8 : x / 8 % 2 = 1
          · rw [if_pos h8]; exact .inl rfl
          · rw [if_neg h8]; exact .inr rfl
        exact ⟨pln_dyed hx0 hg hc4.1 hc4.2, trio (by rcases tx with tx | tx <;> rw [tx, ty] <;> simp)⟩
      · have ty : tellI (dyed x (x / 4 % 2) false) cc = 1 := by
          unfold tellI
          rw [if_pos ⟨hg2, hc1⟩, if_neg (by rw [e1]; exact h4)]
        have tx : tellI x cc = 1 := by
          unfold tellI
          rw [if_pos ⟨hg, hc1⟩, if_neg h4]
        exact ⟨pln_dyed hx0 hg hc4.1 hc4.2, trio (.inl ⟨tx, ty⟩)⟩
    · exact ⟨rfl, trio (by simp)⟩
theorem shade_end {cc x : Int} (hc0 : 0 ≤ cc) (hc1 : cc ≤ 1) : tellI (shadeI x cc) cc ≠ 1 := by
  unfold shadeI
  split
  · rename_i ht
    obtain ⟨hg, _⟩ := tell_pos (x := x) (c := cc) (by rw [ht]; decide)
    have hg2 := glob_dyed (g := true) hg hc0 hc1
    have e := parts_of_word 3 cc (x / 32 % 64) (x / 2048 % 128) (x / 262144 % 128) true false (by omega) hc0 (by omega) (by omega) (by omega) (glob_may hg hc0 hc1)
    have e1 : dyed x cc true / 4 % 2 = cc := e.2.1
    have e2 : (dyed x cc true / 8 % 2 == 1) = true := e.2.2.2.2.2.1
    have t2 : tellI (dyed x cc true) cc = 2 := by
      unfold tellI
      rw [if_pos ⟨hg2, hc1⟩, if_pos e1, if_pos (by simpa using e2)]
    rw [t2]; decide
  · assumption

end Go.Proofs.Ytnbibpmhmffmpaa

namespace Go.Proofs.Ytnbibpmhmffmpaa
set_option linter.unusedVariables false
set_option linter.unusedSimpArgs false
set_option maxRecDepth 100000
open Go.RowKit

theorem black_any (w : World) (p r : Nat) (s : St) (k : Int) (h : Ar w p r s) (hn : s.ws.length ≤ 4096) (ht : s.t ≤ 4096) (h0 : 0 ≤ was s k) (h1 : was s k < 18446744073709551616) :
    Calls Try.prog 24 #[.iface 26 (.pointer (some ⟨p, 0, none⟩)), .int .i64 k] w fun e w' => e = .returned (.tuple #[]) ∧ Ar w' p r (upd s k (blackI (was s k))) ∧ Kp [p, r] w w' := by
  have hu := upd_kp w p r s k 55 #[] (blackI (was s k)) h hn (Nat.le_trans ht (by decide)) (fun _ _ => rfl) (fun _ w' _ => cl_black _ w' h0 h1)
  go_enter Try.func24, Try.ntmps24
  go_wp2_with fail
  refine hu.mono ?_
  rintro e w1 ⟨rfl, ha, hk⟩
  go_wp2
  go_end0
  exact ⟨rfl, ha, hk⟩

theorem sh_kp (w : World) : Kp [] w w.drew := (Kp.refl [] w).drew

theorem shade_low (w : World) (p r : Nat) (s : St) (k c x t : Int) (b : Bool) (h : Ar w p r s) (hn : s.ws.length ≤ 4096) (ht : s.t ≤ 4095) (hc0 : 0 ≤ c) (hc : c ≤ 1) (hx : was s k = x) (h0 : 0 ≤ x) (h1 : x < 18446744073709551616) (hT : tellI x c = t) (ht1 : (t == 1) = false) (hb : (t == 2) = b) :
    Calls Try.prog 25 #[.iface 26 (.pointer (some ⟨p, 0, none⟩)), .int .i64 k, .int .u8 c] w fun e w' => e = .returned (.bool b) ∧ Ar w' p r (upd s k x) ∧ Kp [p, r] w w' := by
  have HX := Lib.hid h1
  have HT := Lib.hid hT
  have HW := Lib.hid hx
  clear h1 hT hx
  subst hb
  have hpl := h.lt
  have HS : Hid (∀ w', Kp [] (w.alloc (.cells #[.int .u8 c] 5)) w' → Ar w' p r s ∧ w'.cell? ⟨w.heap.size, 0, none⟩ = some (.int .u8 c)) :=
    Lib.hid fun w' hk => ⟨h.keep (((Kp.refl [] w).alloc _).trans hk) (by simp) (by simp), by rw [World.cell?_of_block (hk.block _ (by simp) (by simp))]; simp⟩
  have HC : Hid (∀ w' w2, Kp [] (w.alloc (.cells #[.int .u8 c] 5)) w' → Kp [p, r] w' w2 → w2.cell? ⟨w.heap.size, 0, none⟩ = some (.int .u8 c) ∧ Kp [p, r] w w2) :=
    Lib.hid fun w' w2 hk hk2 => ⟨by rw [World.cell?_of_block (hk2.block _ (Nat.lt_of_lt_of_le (by simp) hk.size) (by simp; omega))]; exact (HS.out _ hk).2, ((((Kp.refl [] w).alloc _).trans hk).mono (by simp)).trans hk2⟩
  go_enter Try.func25, Try.ntmps25
  have hc1 := (HS.out _ (Kp.refl _ _)).2
  go_wp2_with fail
  go_region_with (first
    | (go_at_call 35
       refine (read_any _ p r s k (HS.out _ ?_).1 hn (by omega)).mono ?_
       · first | exact Kp.refl _ _ | exact sh_kp _ | exact ⟨rfl, rfl, rfl, Nat.le_refl _, fun _ _ _ => rfl⟩
       rintro e w1 ⟨rfl, ha1, hk1⟩
       obtain ⟨hc1, hk1'⟩ := HC.out _ _ (by first | exact Kp.refl _ _ | exact sh_kp _ | exact ⟨rfl, rfl, rfl, Nat.le_refl _, fun _ _ _ => rfl⟩) hk1
       rw [HW.out] at ha1 ⊢
       have HA := Lib.hid ha1
       have HK := Lib.hid hk1'
       clear ha1 hk1 hk1')
    | (go_at_call 26
       refine (tell_is _ _ _ _ h0 HX.out HT.out).mono ?_
       rintro e w2 ⟨rfl, hk2⟩
       have HA2 := (show Hid (Ar w2 p r _) from Lib.hid (by first | exact HA.out.keep hk2 (by simp) (by simp) | exact HA.out.keep ((sh_kp _).trans hk2) (by simp) (by simp)))
       have HK2 := (show Hid (Kp [p, r] w w2) from Lib.hid (by first | exact HK.out.trans (hk2.mono (by simp)) | exact HK.out.trans (((sh_kp _).trans hk2).mono (by simp))))
       clear hk2))
  all_goals
    go_wp2
    go_ret
    exact ⟨rfl, HA2.out, HK2.out⟩

set_option maxHeartbeats 1000000 in
theorem shade_one (w : World) (p r : Nat) (s : St) (k c x : Int) (h : Ar w p r s) (hn : s.ws.length ≤ 4096) (ht : s.t ≤ 4094) (hc0 : 0 ≤ c) (hc : c ≤ 1) (hx : was s k = x) (h0 : 0 ≤ x) (h1 : x < 18446744073709551616) (hT : tellI x c = 1) :
    Calls Try.prog 25 #[.iface 26 (.pointer (some ⟨p, 0, none⟩)), .int .i64 k, .int .u8 c] w fun e w' => e = .returned (.bool true) ∧ Ar w' p r (upd (upd s k x) k (shadeI x c)) ∧ Kp [p, r] w w' := by
  have HX := Lib.hid h1
  have HT := Lib.hid hT
  have HW := Lib.hid hx
  clear h1 hT hx
  have hpl := h.lt
  have hmf : ∀ (fn : Fn) (first cap : Array Value) (w : World), (Instr.makeFunc fn first cap).run Try.prog w = .ok (.func fn first cap) w := fun _ _ _ _ => rfl
  have HWs : Hid (was (upd s k x) k = x) := Lib.hid (by rw [← HW.out, was_same])
  have HN : Hid ((upd s k x).ws.length ≤ 4096) := Lib.hid (by rw [upd_len]; exact hn)
  have HTT : Hid ((upd s k x).t ≤ 4096) := Lib.hid (by have := upd_t s k x; omega)
  have HS : Hid (∀ w', Kp [] (w.alloc (.cells #[.int .u8 c] 5)) w' → Ar w' p r s ∧ w'.cell? ⟨w.heap.size, 0, none⟩ = some (.int .u8 c)) :=
    Lib.hid fun w' hk => ⟨h.keep (((Kp.refl [] w).alloc _).trans hk) (by simp) (by simp), by rw [World.cell?_of_block (hk.block _ (by simp) (by simp))]; simp⟩
  have HC : Hid (∀ w' w2, Kp [] (w.alloc (.cells #[.int .u8 c] 5)) w' → Kp [p, r] w' w2 → w2.cell? ⟨w.heap.size, 0, none⟩ = some (.int .u8 c) ∧ Kp [p, r] w w2) :=
    Lib.hid fun w' w2 hk hk2 => ⟨by rw [World.cell?_of_block (hk2.block _ (Nat.lt_of_lt_of_le (by simp) hk.size) (by simp; omega))]; exact (HS.out _ hk).2, ((((Kp.refl [] w).alloc _).trans hk).mono (by simp)).trans hk2⟩
  go_enter Try.func25, Try.ntmps25
  have hc1 := (HS.out _ (Kp.refl _ _)).2
  go_wp2_with fail
  go_region_with (first
    | (go_at_call 35
       refine (read_any _ p r s k (HS.out _ ?_).1 hn (by omega)).mono ?_
       · first | exact Kp.refl _ _ | exact sh_kp _ | exact ⟨rfl, rfl, rfl, Nat.le_refl _, fun _ _ _ => rfl⟩
       rintro e w1 ⟨rfl, ha1, hk1⟩
       obtain ⟨hc1, hk1'⟩ := HC.out _ _ (by first | exact Kp.refl _ _ | exact sh_kp _ | exact ⟨rfl, rfl, rfl, Nat.le_refl _, fun _ _ _ => rfl⟩) hk1
       rw [HW.out] at ha1 ⊢
       have HA := Lib.hid ha1
       have HK := Lib.hid hk1'
       clear ha1 hk1 hk1')
    | (go_at_call 26
       refine (tell_is _ _ _ _ h0 HX.out HT.out).mono ?_
       rintro e w2 ⟨rfl, hk2⟩
       have HA2 := (show Hid (Ar w2 p r _) from Lib.hid (by first | exact HA.out.keep hk2 (by simp) (by simp) | exact HA.out.keep ((sh_kp _).trans hk2) (by simp) (by simp)))
       have HK2 := (show Hid (Kp [p, r] w w2) from Lib.hid (by first | exact HK.out.trans (hk2.mono (by simp)) | exact HK.out.trans (((sh_kp _).trans hk2).mono (by simp))))
       have HC2 := Lib.hid (show w2.cell? ⟨w.heap.size, 0, none⟩ = some (.int .u8 c) by (rw [World.cell?_of_block (hk2.block _ (World.block_lt_of_cell? _ _ hc1) (by simp))]; exact hc1))
       clear hk2))
  all_goals
    have hu := upd_kp _ p r (upd s k x) k 58 #[.pointer (some ⟨w.heap.size, 0, none⟩)] (shadeI x c) HA2.out HN.out (Nat.le_trans HTT.out (by decide)) (fun _ _ => rfl)
      (fun _ w' hk' => by
        rw [HWs.out]
        refine cl_shade x c w.heap.size w' h0 HX.out hc0 ?_
        rw [World.cell?_of_block (hk'.block _ (World.block_lt_of_cell? _ _ HC2.out) (by simp; omega))]
        exact HC2.out)
    rw [HWs.out] at hu
    go_wp2_with fail
    refine hu.mono ?_
    rintro e w3 ⟨rfl, ha3, hk3⟩
    have hc3 : w3.cell? ⟨w.heap.size, 0, none⟩ = some (.int .u8 c) := by
      rw [World.cell?_of_block (hk3.block _ (World.block_lt_of_cell? _ _ HC2.out) (by simp; omega))]
      exact HC2.out
    have HA3 := Lib.hid ha3
    have HK3 := Lib.hid (HK2.out.trans hk3)
    clear ha3 hk3 hu
    go_wp2_with fail
    refine (tell_is x c 1 _ h0 HX.out HT.out).mono ?_
    rintro e w4 ⟨rfl, hk4⟩
    have HA4 := Lib.hid (HA3.out.keep hk4 (by simp) (by simp))
    have HK4 := Lib.hid (HK3.out.trans (hk4.mono (by simp)))
    clear hk4 hc3
    go_wp2
    go_ret
    exact ⟨rfl, HA4.out, HK4.out⟩

end Go.Proofs.Ytnbibpmhmffmpaa

namespace Go.Proofs.Ytnbibpmhmffmpaa
set_option linter.unusedVariables false
set_option linter.unusedSimpArgs false
open Go.RowKit

theorem stake_lit (w : World) : Calls Try.prog 44 #[.int .u64 262151] w fun e w' => e = .returned (.tuple #[.agg (hcells 3 1 false false 0 0 1), .int .i64 0]) ∧ Kp [] w w' :=
  (take_yes 262151 w (by decide) (by decide) (by decide)).mono fun _ _ ⟨he, hb⟩ => ⟨he, kp_of_below hb⟩
theorem sput_lit (w : World) : Calls Try.prog 21 #[.agg #[.int .u8 3, .int .u8 0, .bool false, .bool false, .int .u8 0, .int .u8 0, .int .u8 1]] w fun e w' => e = .returned (.tuple #[.int .u64 262147, .int .i64 0]) ∧ Kp [] w w' :=
  sput_yes 3 0 0 0 1 262147 false false w (by decide) (by decide) (by decide) (by decide) (by decide) (by decide) (by decide)

set_option maxHeartbeats 1000000 in
theorem swakes_any (w : World) : Calls Try.prog 20 #[] w fun e w' => e = .returned (.bool true) ∧ Kp [] w w' := by
  have hnew : Calls Try.prog 10 #[.int .i64 1] w _ := new_good w 1 (by omega) (by omega)
  have heq := fun w => (eq28 3 1 0 0 1 3 1 0 0 1 false false false false w)
  rw [show heqB 3 1 0 0 1 3 1 0 0 1 false false false false = true from rfl] at heq
  go_enter Try.func20, Try.ntmps20
  go_wp2_with fail
  refine hnew.mono ?_
  rintro e w1 ⟨rfl, ha1, hk1⟩
  have HB : Hid (w.heap.size ≤ w.heap.size + 1) := Lib.hid (by omega)
  have HA1 := Lib.hid ha1
  have K1 := Lib.hid hk1
  clear hk1 ha1
  go_wp2_with fail
  refine (sput_lit _).mono ?_
  rintro e w2 ⟨rfl, hk⟩
  have HA2 := Lib.hid (HA1.out.keep hk (by simp) (by simp))
  have K2 := Lib.hid (K1.out.trans hk)
  clear hk HA1 K1
  go_wp2_with fail
  refine (write_any _ _ _ _ 0 262147 HA2.out (by decide) (by decide)).mono ?_
  rintro e w3 ⟨rfl, ha, hk⟩
  have HA3 := Lib.hid ha
  have K3 := Lib.hid (show Kp [] w w3 from Kp.trans_two K2.out hk (by omega) (by omega))
  clear hk ha HA2 K2
  go_wp2_with fail
  refine (shade_one _ _ _ _ 0 1 262147 HA3.out (by decide) (by decide) (by decide) (by decide) (by rfl) (by decide) (by decide) (by decide)).mono ?_
  rintro e w4 ⟨rfl, ha, hk⟩
  have HA4 := Lib.hid ha
  have K4 := Lib.hid (show Kp [] w w4 from Kp.trans_two K3.out hk (by omega) (by omega))
  clear hk ha HA3 K3
  go_wp2_with fail
  refine (shade_low _ _ _ _ 0 1 262159 2 true HA4.out (by decide) (by decide) (by decide) (by decide) (by decide) (by decide) (by decide) (by decide) (by decide) (by decide)).mono ?_
  rintro e w5 ⟨rfl, ha, hk⟩
  have HA5 := Lib.hid ha
  have K5 := Lib.hid (show Kp [] w w5 from Kp.trans_two K4.out hk (by omega) (by omega))
  clear hk ha HA4 K4
  go_wp2_with fail
  refine (black_any _ _ _ _ 0 HA5.out (by decide) (by decide) (by decide) (by decide)).mono ?_
  rintro e w6 ⟨rfl, ha, hk⟩
  have HA6 := Lib.hid ha
  have K6 := Lib.hid (show Kp [] w w6 from Kp.trans_two K5.out hk (by omega) (by omega))
  clear hk ha HA5 K5
  go_wp2_with fail
  refine (shade_low _ _ _ _ 0 1 262151 3 false HA6.out (by decide) (by decide) (by decide) (by decide) (by decide) (by decide) (by decide) (by decide) (by decide) (by decide)).mono ?_
  rintro e w7 ⟨rfl, ha, hk⟩
  have HA7 := Lib.hid ha
  have K7 := Lib.hid (show Kp [] w w7 from Kp.trans_two K6.out hk (by omega) (by omega))
  clear hk ha HA6 K6
  go_wp2_with fail
  have hrd : Calls Try.prog 35 #[.pointer (some ⟨w.heap.size + 1, 0, none⟩), .int .i64 0] w7 fun e w' => e = .returned (.int .u64 262151) ∧ Kp [w.heap.size + 1, w.heap.size] w7 w' :=
    (read_any _ _ _ _ 0 HA7.out (by decide) (by decide)).mono fun e w' ⟨he, _, hk⟩ => ⟨by rw [he]; rfl, hk⟩
  refine hrd.mono ?_
  rintro e w8 ⟨rfl, hk⟩
  have K8 := Lib.hid (show Kp [] w w8 from Kp.trans_two K7.out hk (by omega) (by omega))
  clear hk HA7 K7 hrd
  go_wp2_with fail
  refine (stake_lit _).mono ?_
  rintro e w9 ⟨rfl, hk⟩
  have K9 := Lib.hid ((K8.out.trans hk).alloc (.cells (hcells 3 1 false false 0 0 1) 59))
  clear hk K8
  go_wp2_with fail
  refine (tell_is 262147 1 1 _ (by decide) (by decide) (by decide)).mono ?_
  rintro e w10 ⟨rfl, hk⟩
  have K10 := Lib.hid (K9.out.trans hk)
  clear hk K9
  go_wp2
  go_ret
  exact ⟨rfl, K10.out⟩

end Go.Proofs.Ytnbibpmhmffmpaa

namespace Go.Proofs.Ytnbibpmhmffmpaa
set_option linter.unusedVariables false
set_option linter.unusedSimpArgs false
open Go.RowKit
/-- The block that a slice leads to, as a list. -/
def blk (v : Value) : List Nat := v.ownBlock.toList
theorem blk_nil : blk (.slice none 0 0) = [] := rfl
theorem blk_some (g o n c : Nat) : blk (.slice (some ⟨g, o, none⟩) n c) = [g] := rfl
theorem kp_of_row {w w' : World} {v : Value} (h : w.grownBy w' v.ownBlock) : Kp (blk v) w w' := ⟨h.os, h.tape, h.output, h.size, fun k hk hn => h.block k hk (by
  intro e
  apply hn
  unfold blk
  rw [Option.mem_toList]
  exact e.symm)⟩
theorem kp_drewN {S : List Nat} (w : World) (j : Nat) : Kp S w (w.drewN j) := ⟨rfl, rfl, rfl, Nat.le_refl _, fun _ _ _ => rfl⟩
theorem Kp.cell {S : List Nat} {w w' : World} (k : Kp S w w') {g o : Nat} (hg : g ∉ S) {v : Value} (h : w.cell? ⟨g, o, none⟩ = some v) : w'.cell? ⟨g, o, none⟩ = some v :=
  (World.cell?_of_block (a := ⟨g, o, none⟩) (k.block g (block_lt_of_cell h) hg)).trans h


/-- A row of the call's own, made since base: n elements of type T, sz cells each. -/
structure Rw (T : TypeId) (sz : Nat) (base : Nat) (w : World) (v : Value) (n : Nat) (xs : List Value) : Prop where
  own : w.ownsRow base T sz v n xs
section
variable {T : TypeId} {sz base : Nat} {w w' : World} {v : Value} {n : Nat} {xs : List Value}
theorem Rw.nil (T : TypeId) (sz base : Nat) (w : World) : Rw T sz base w (.slice none 0 0) 0 [] := ⟨World.ownsRow_nil _ _ _ _⟩
theorem Rw.keep {S : List Nat} (h : Rw T sz base w v n xs) (k : Kp S w w') (hS : ∀ b ∈ blk v, b ∉ S) : Rw T sz base w' v n xs := by
  refine ⟨h.own.1, ?_⟩
  rcases h.own.2 with h0 | ⟨b, c, cur, rfl, hge, hb, r⟩
  · exact .inl h0
  · exact .inr ⟨b, c, cur, rfl, hge, k.row (hS b (by simp [blk_some])) hb, r⟩
theorem Rw.keep0 (h : Rw T sz base w v n xs) (k : Kp [] w w') : Rw T sz base w' v n xs := h.keep k (by simp)
theorem Rw.block (h : Rw T sz base w v n xs) : ∀ b ∈ blk v, base ≤ b ∧ ∃ cur, w.heap[b]? = some (.cells cur T (0, 0)) := by
  intro b hb
  rcases h.own.2 with ⟨rfl, _⟩ | ⟨b', c, cur, rfl, hge, hb', _⟩
  · simp [blk_nil] at hb
  · rw [blk_some, List.mem_singleton] at hb
    exact ⟨hb ▸ hge, cur, hb ▸ hb'⟩
theorem Rw.at (h : Rw T sz base w v n xs) (hn : 0 < n) (hsz : 0 < sz) : ∃ b c, v = .slice (some ⟨b, 0, none⟩) n c ∧ n ≤ c ∧ ∀ i, i < n * sz → w.cell? ⟨b, i, none⟩ = xs[i]? := by
  rcases h.own.2 with ⟨_, h0⟩ | ⟨b, c, cur, rfl, _, hb, h1, h2, h3, h4⟩
  · omega
  · refine ⟨b, c, rfl, h1, fun i hi => ?_⟩
    rw [cell_of_row hb, ← h4, List.getElem?_take_of_lt hi]
    simp
/-- Nothing older than the base turns where such a row does. -/
theorem Rw.old (h : Rw T sz base w v n xs) {w0 : World} (hb : base = w0.heap.size) (k0 : Kp [] w0 w) (k : Kp (blk v) w w') : Kp [] w0 w' :=
  ((k0.mono (by simp)).trans k).mono fun y hy hlt => by have := (h.block y hy).1; omega
theorem Rw.len (h : Rw T sz base w v n xs) : xs.length = n * sz := h.own.1
end

/-- 'append(v, news...)', its run. -/
theorem run_app {T t ty : TypeId} {sz base bytes : Nat} {w : World} {v : Value} {n : Nat} {xs : List Value} (ht : Try.prog.underlying t = some (.slice T)) (hi : ∃ i z, Try.prog.info? T = some i ∧ i.zero = some z ∧ i.size = sz ∧ i.bytes = bytes ∧ z.cells.size = sz) (hsz : 0 < sz)
    (h : Rw T sz base w v n xs) (hbase : base ≤ w.heap.size) (ad : Addr) (m c : Nat) (news : List Value) (hl : news.length = m * sz) (hnews : ∀ j u, news[j]? = some u → w.cell? (ad.add j) = some u) (h1 : ∀ u ∈ news, u.oneCell' = true) (hm : 0 < m)
    (hn : n + m ≤ 1000000) (hb : bytes ≤ 100) :
    ∃ g cap w', (Builtin.append_ #[t, t] ty #[v, .slice (some ad) m c]).run Try.prog w = .ok (.slice (some ⟨g, 0, none⟩) (n + m) cap) w' ∧ Rw T sz base w' (.slice (some ⟨g, 0, none⟩) (n + m) cap) (n + m) (xs ++ news) ∧ Kp (blk v) w w' ∧ (g ∈ blk v ∨ g = w.heap.size) := by
  obtain ⟨i, z, e1, e2, e3, e4, e5⟩ := hi
  have h63 : n + m ≤ maxLen := by unfold maxLen; omega
  have hby : (n + m) * bytes ≤ 140737488355328 := by
    have : (n + m) * bytes ≤ 1000000 * 100 := Nat.mul_le_mul hn hb
    omega
  obtain ⟨g, cap, w', hr, h2, h3, h4, _⟩ := run_append_lies (P := Try.prog) w t ty base T i z sz bytes ht e1 e2 e3 e4 e5 hsz v n xs h.own ad m c news hl hnews h1 hm h63 hby hbase _ rfl
  exact ⟨g, cap, w', hr, ⟨h2⟩, kp_of_row h3, h4.imp (fun e => by unfold blk; rw [e]; simp) id⟩


/-- An 'append' whose run is known. -/
theorem wpList_append_eq {P : Program} {w w2 : World} {ops : Array Oper} {rest : List Oper} {o : Oper} {a : Act} {Q : Exit → Act → World → Prop} (hgd : o.guard = none) (s x : Operand) (t : TypeId)
    (ho : o.op = .call { callee := .builtin .append, args := #[s, x], argTypes := #[t, t] }) (sv xv v : Value) (hs : a.eval s = sv) (hx : a.eval x = xv)
    (hrun : (Builtin.append_ #[t, t] o.type #[sv, xv]).run P w = .ok v w2) (hK : wpList P ops Q rest (a.put o.dst v) w2) : wpList P ops Q (o :: rest) a w := by
  refine wpList_plain hgd fun K hK' => ?_
  unfold Oper.wp
  simp [execOp, ho, resolve, invoke, builtin, hs, hx, hrun, Result.andThen]
  exact hK' _ _ hK


end Go.Proofs.Ytnbibpmhmffmpaa

namespace Go.Proofs.Ytnbibpmhmffmpaa
set_option linter.unusedVariables false
set_option linter.unusedSimpArgs false
set_option maxRecDepth 100000
open Go.RowKit

def soP0 (f : Func) : Code := codeL (bodyOf f)
def soP1 (f : Func) : Code := codeL (codeR (bodyOf f))
def soP2 (f : Func) : Code := codeL (codeR (codeR (bodyOf f)))
def soP3 (f : Func) : Code := codeL (codeR (codeR (codeR (bodyOf f))))
def soP4 (f : Func) : Code := codeL (codeR (codeR (codeR (codeR (bodyOf f)))))
def soP5 (f : Func) : Code := codeL (codeR (codeR (codeR (codeR (codeR (bodyOf f))))))
def soP6 (f : Func) : Code := codeL (codeR (codeR (codeR (codeR (codeR (codeR (bodyOf f)))))))
def soP7 (f : Func) : Code := codeL (codeR (codeR (codeR (codeR (codeR (codeR (codeR (bodyOf f))))))))
def soP8 (f : Func) : Code := codeL (codeR (codeR (codeR (codeR (codeR (codeR (codeR (codeR (bodyOf f)))))))))
def soP9 (f : Func) : Code := codeL (codeR (codeR (codeR (codeR (codeR (codeR (codeR (codeR (codeR (bodyOf f))))))))))

/-- A header's parts, that may be. -/
structure Hd where
  k : Int
  c : Int
  g : Bool
  m : Bool
  o : Int
  r : Int
  s : Int
def Hd.cs (h : Hd) : List Value := [.int .u8 h.k, .int .u8 h.c, .bool h.g, .bool h.m, .int .u8 h.o, .int .u8 h.r, .int .u8 h.s]
def Hd.w (h : Hd) : Int := wordI h.k h.c h.o h.r h.s h.g h.m
def Hd.may (h : Hd) : Bool := mayB h.k h.c h.o h.r h.s h.g h.m
def Hd.ok (h : Hd) : Prop := 0 ≤ h.k ∧ 0 ≤ h.c ∧ 0 ≤ h.o ∧ 0 ≤ h.r ∧ 0 ≤ h.s
def HeadsAt (w : World) (bh oh : Nat) (L : List Hd) : Prop := ∀ i h, L[i]? = some h → h.ok ∧ ∀ j v, h.cs[j]? = some v → w.cell? ⟨bh, oh + i * 7 + j, none⟩ = some v

section
variable {x : Nat → Value} {wt : World} {Q : Exit → Act → World → Prop} {bh oh n ch bd od M cd K co bc pA rA bf be : Nat} {bo : Option Addr} {cc : Int} {s : St}

theorem so_p0 (hx0 : x 0 = .slice (some ⟨bh, oh, none⟩) n ch) (hx1 : x 1 = .slice (some ⟨bd, od, none⟩) M cd) (hx2 : x 2 = .slice bo K co) (hx3 : x 3 = .int .u8 cc)
    (hQ : ∀ a' w', FrX [(0, .slice (some ⟨bh, oh, none⟩) n ch), (1, .slice (some ⟨bd, od, none⟩) M cd), (2, .slice bo K co), (7, .pointer (some ⟨wt.heap.size, 0, none⟩))] a' → w'.heap[wt.heap.size]? = some (.cells #[.int .u8 cc] 5 (0, 0)) → Kp [] wt w' → Q .normal a' w') : (soP0 Try.f5).wp Try.prog Q ⟨T318 x, []⟩ wt := by
  have HQ := Lib.hid hQ
  clear hQ
  simp only [soP0, bodyOf, Try.f5, codeL, codeR, blockOf, loopOf, Option.getD_some, T318]
  simp only [hx0, hx1, hx2, hx3]
  go_wp2
  exact HQ.out _ _ ⟨rfl, rfl, ⟨rfl, rfl, rfl, rfl, trivial⟩⟩ (heap_alloc_new wt _) ((Kp.refl _ _).alloc _)

theorem so_p1 (hx0 : x 0 = .slice (some ⟨bh, oh, none⟩) n ch) (hx1 : x 1 = .slice (some ⟨bd, od, none⟩) M cd) (hx2 : x 2 = .slice bo K co) (hx7 : x 7 = .pointer (some ⟨bc, 0, none⟩)) (hQ : ∀ a', FrX [(0, .slice (some ⟨bh, oh, none⟩) n ch), (1, .slice (some ⟨bd, od, none⟩) M cd), (2, .slice bo K co), (7, .pointer (some ⟨bc, 0, none⟩)), (9, .int .i64 n)] a' → Q .normal a' wt) : (soP1 Try.f5).wp Try.prog Q ⟨T318 x, []⟩ wt := by
  have HQ := Lib.hid hQ
  clear hQ
  simp only [soP1, bodyOf, Try.f5, codeL, codeR, blockOf, loopOf, Option.getD_some, T318]
  simp only [hx0, hx1, hx2, hx7]
  go_wp2
  exact HQ.out _ ⟨rfl, rfl, ⟨rfl, rfl, rfl, rfl, rfl, trivial⟩⟩

theorem so_p2 (hx0 : x 0 = .slice (some ⟨bh, oh, none⟩) n ch) (hx1 : x 1 = .slice (some ⟨bd, od, none⟩) M cd) (hx2 : x 2 = .slice bo K co) (hx7 : x 7 = .pointer (some ⟨bc, 0, none⟩)) (hx9 : x 9 = .int .i64 n) (hn1 : 1 ≤ n) (hn4 : n ≤ 4) (hM1 : 1 ≤ M) (hM4 : M ≤ 4) (hK : K ≤ 100) (hc : wt.cell? ⟨bc, 0, none⟩ = some (.int .u8 cc)) (hc1 : cc ≤ 1) (hQ : ∀ a', FrX [(0, .slice (some ⟨bh, oh, none⟩) n ch), (1, .slice (some ⟨bd, od, none⟩) M cd), (2, .slice bo K co), (7, .pointer (some ⟨bc, 0, none⟩)), (9, .int .i64 n)] a' → Q .normal a' wt) : (soP2 Try.f5).wp Try.prog Q ⟨T318 x, []⟩ wt := by
  have HQ := Lib.hid hQ
  clear hQ
  simp only [soP2, bodyOf, Try.f5, codeL, codeR, blockOf, loopOf, Option.getD_some, T318]
  simp only [hx0, hx1, hx2, hx7, hx9]
  go_wp2
  exact HQ.out _ ⟨rfl, rfl, ⟨rfl, rfl, rfl, rfl, rfl, trivial⟩⟩

theorem so_p3 (hx0 : x 0 = .slice (some ⟨bh, oh, none⟩) n ch) (hx1 : x 1 = .slice (some ⟨bd, od, none⟩) M cd) (hx2 : x 2 = .slice bo K co) (hx7 : x 7 = .pointer (some ⟨bc, 0, none⟩)) (hx9 : x 9 = .int .i64 n) (hn1 : 1 ≤ n) (hn4 : n ≤ 4) (hQ : ∀ a' w', FrX [(0, .slice (some ⟨bh, oh, none⟩) n ch), (1, .slice (some ⟨bd, od, none⟩) M cd), (2, .slice bo K co), (7, .pointer (some ⟨bc, 0, none⟩)), (9, .int .i64 n), (10, .pointer (some ⟨wt.heap.size + 1, 0, none⟩)), (11, .int .i64 0)] a' → Ar w' (wt.heap.size + 1) wt.heap.size (fresh n) → Kp [] wt w' → Q .normal a' w') : (soP3 Try.f5).wp Try.prog Q ⟨T318 x, []⟩ wt := by
  have HQ := Lib.hid hQ
  have HN := Lib.hid (new_good wt n hn1 (by omega))
  clear hQ
  simp only [soP3, bodyOf, Try.f5, codeL, codeR, blockOf, loopOf, Option.getD_some, T318]
  simp only [hx0, hx1, hx2, hx7, hx9]
  go_wp2_with fail
  refine HN.out.mono ?_
  rintro e w1 ⟨rfl, ha, hk⟩
  have HA := Lib.hid (And.intro ha hk)
  clear ha hk HN
  go_wp2
  exact HQ.out _ _ ⟨rfl, rfl, ⟨rfl, rfl, rfl, rfl, rfl, rfl, rfl, trivial⟩⟩ HA.out.1 HA.out.2

theorem so_p4 (hx0 : x 0 = .slice (some ⟨bh, oh, none⟩) n ch) (hx1 : x 1 = .slice (some ⟨bd, od, none⟩) M cd) (hx2 : x 2 = .slice bo K co) (hx7 : x 7 = .pointer (some ⟨bc, 0, none⟩)) (hx9 : x 9 = .int .i64 n) (hx10 : x 10 = .pointer (some ⟨pA, 0, none⟩)) (hx11 : x 11 = .int .i64 0) (hQ : ∀ a', FrX [(0, .slice (some ⟨bh, oh, none⟩) n ch), (1, .slice (some ⟨bd, od, none⟩) M cd), (2, .slice bo K co), (7, .pointer (some ⟨bc, 0, none⟩)), (9, .int .i64 n), (10, .pointer (some ⟨pA, 0, none⟩))] a' → Q .normal a' wt) : (soP4 Try.f5).wp Try.prog Q ⟨T318 x, []⟩ wt := by
  have HQ := Lib.hid hQ
  have hnil : ∀ (a : Addr) (w : World), (binOp .eql 26 (.pointer (some a)) (.pointer none)).run Try.prog w = .ok (.bool false) w := fun a w => by kernel_rfl
  clear hQ
  simp only [soP4, bodyOf, Try.f5, codeL, codeR, blockOf, loopOf, Option.getD_some, T318]
  simp only [hx0, hx1, hx2, hx7, hx9, hx10, hx11]
  go_wp2
  exact HQ.out _ ⟨rfl, rfl, ⟨rfl, rfl, rfl, rfl, rfl, rfl, trivial⟩⟩

set_option maxHeartbeats 2000000 in
theorem so_p5 {L : List Hd} {a0 : Nat} (hx0 : x 0 = .slice (some ⟨bh, oh, none⟩) n ch) (hx1 : x 1 = .slice (some ⟨bd, od, none⟩) M cd) (hx2 : x 2 = .slice bo K co) (hx7 : x 7 = .pointer (some ⟨bc, 0, none⟩)) (hx9 : x 9 = .int .i64 n) (hx10 : x 10 = .pointer (some ⟨pA, 0, none⟩)) (hn4 : n ≤ 4) (hL : L.length = n) (hH : HeadsAt wt bh oh L) (hm : L.all Hd.may = true) (ha : Ar wt pA rA (fresh n)) (hbp : bh ≠ pA ∧ bh ≠ rA)
    (hQ : ∀ a' w' s, FrX [(0, .slice (some ⟨bh, oh, none⟩) n ch), (1, .slice (some ⟨bd, od, none⟩) M cd), (2, .slice bo K co), (7, .pointer (some ⟨bc, 0, none⟩)), (9, .int .i64 n), (10, .pointer (some ⟨pA, 0, none⟩))] a' → Ar w' pA rA s → s.ws = L.map Hd.w → s.t = n → Ks (fun b => b = pA ∨ b = rA) wt w' → Q .normal a' w') : (soP5 Try.f5).wp Try.prog Q ⟨T318 x, []⟩ wt := by
  have HQ := Lib.hid hQ
  have HH := Lib.hid hH
  have HM := Lib.hid hm
  have HA := Lib.hid ha
  clear hQ hH hm ha
  simp only [soP5, bodyOf, Try.f5, codeL, codeR, blockOf, loopOf, Option.getD_some, T318]
  simp only [hx0, hx1, hx2, hx7, hx9, hx10]
  go_wp2_with fail
  go_loopg [12] n (fun g v wr => ∃ i : Nat, i + g = n ∧ v = .int .i64 i ∧ Hid (∃ s, Ar wr pA rA s ∧ s.ws.length = n ∧ s.t = i ∧ (∀ j, j < i → s.ws.getD j 0 = (L.map Hd.w).getD j 0) ∧ Kp [pA, rA] wt wr))
  case atStart => exact ⟨0, by omega, rfl, Lib.hid ⟨_, HA.out, by simp [fresh], rfl, fun j hj => by omega, Kp.refl _ _⟩⟩
  case round =>
    obtain ⟨i, hi, rfl, HR⟩ := hrel
    by_cases hlt : i < n
    · obtain ⟨s, r1, r2, r3, r4, r5⟩ := HR.out
      obtain ⟨h, hh⟩ : ∃ h, L[i]? = some h := ⟨L[i], List.getElem?_eq_getElem (by omega)⟩
      obtain ⟨ho, hcs⟩ := HH.out i h hh
      have kc : ∀ o v, wt.cell? ⟨bh, o, none⟩ = some v → wr.cell? ⟨bh, o, none⟩ = some v := fun o v hv => by
        rw [World.cell?_of_block (r5.block bh (World.block_lt_of_cell? _ _ hv) (by simp; omega))]; exact hv
      have d0 := kc _ _ (hcs 0 _ rfl)
      have d1 := kc _ _ (hcs 1 _ rfl)
      have d2 := kc _ _ (hcs 2 _ rfl)
      have d3 := kc _ _ (hcs 3 _ rfl)
      have d4 := kc _ _ (hcs 4 _ rfl)
      have d5 := kc _ _ (hcs 5 _ rfl)
      have d6 := kc _ _ (hcs 6 _ rfl)
      simp only [Nat.add_zero] at d0
      have hmay : h.may = true := List.all_eq_true.1 HM.out h (List.mem_of_getElem? hh)
      have HP := Lib.hid (fun w => put_yes h.k h.c h.o h.r h.s h.g h.m w ho.1 ho.2.1 ho.2.2.1 ho.2.2.2.1 ho.2.2.2.2 hmay)
      have hwg : (L.map Hd.w).getD i 0 = wordI h.k h.c h.o h.r h.s h.g h.m := by simp [List.getD, hh, Hd.w]
      generalize wordI h.k h.c h.o h.r h.s h.g h.m = y at HP hwg
      have HY := Lib.hid hwg
      have HS := Lib.hid (And.intro r1 (And.intro r2 (And.intro r3 (And.intro r4 r5))))
      clear hcs hmay ho hh hwg r1 r2 r3 r4 r5 HR kc
      go_wp2_with fail
      refine (HP.out _).mono ?_
      rintro e w1 ⟨rfl, hb⟩
      have k1 := kp_of_below hb
      have HW := Lib.hid (write_any w1 pA rA s (i : Int) y (HS.out.1.keep k1 (by simp) (by simp)) (by have := HS.out.2.1; omega) (by have := HS.out.2.2.1; omega))
      have K1 := Lib.hid (HS.out.2.2.2.2.trans (k1.mono (by simp)))
      clear hb k1 d0 d1 d2 d3 d4 d5 d6 HP
      go_wp2_with fail
      refine HW.out.mono ?_
      rintro e w3 ⟨rfl, ha, hk⟩
      have F : Hid (∃ s, Ar w3 pA rA s ∧ s.ws.length = n ∧ s.t = i + 1 ∧ (∀ j, j < i + 1 → s.ws.getD j 0 = (L.map Hd.w).getD j 0) ∧ Kp [pA, rA] wt w3) := by
        obtain ⟨_, r2, r3, r4, _⟩ := HS.out
        have hin : inB s (i : Int) = true := inB_iff.2 (by omega)
        refine Lib.hid ⟨_, ha, by rw [upd_len]; exact r2, by rw [upd_in hin]; simp [r3], fun j hj => ?_, K1.out.trans hk⟩
        rw [upd_in hin]
        simp only [Int.toNat_natCast, List.getD]
        by_cases hj2 : j = i
        · subst hj2
          rw [List.getElem?_set_self (by omega)]
          exact HY.out.symm
        · rw [List.getElem?_set_ne (by omega)]
          exact r4 j (by omega)
      clear ha hk HW
      go_wp2_with fail
      go_roundg (n - (i + 1))
      exact ⟨i + 1, by omega, rfl, F⟩
      omega
    · obtain rfl : i = n := by omega
      obtain ⟨s, r1, r2, r3, r4, r5⟩ := HR.out
      have F := Lib.hid (show Ar wr pA rA s ∧ s.ws = L.map Hd.w ∧ s.t = i ∧ Ks (fun b => b = pA ∨ b = rA) wt wr from ⟨r1, List.ext_getElem (by simp; omega) (fun j g1 g2 => by
        have e1 : s.ws.getD j 0 = s.ws[j] := by rw [List.getD, List.getElem?_eq_getElem g1]; rfl
        have e2 : (L.map Hd.w).getD j 0 = (L.map Hd.w)[j] := by rw [List.getD, List.getElem?_eq_getElem g2]; rfl
        rw [← e1, ← e2]
        exact r4 j (by omega)), r3, (ks_of_kp r5).mono fun b _ hb => by simpa using hb⟩)
      clear r1 r2 r3 r4 r5 HR
      go_wp2_with fail
      exact HQ.out _ _ s ⟨rfl, rfl, ⟨rfl, rfl, rfl, rfl, rfl, rfl, trivial⟩⟩ F.out.1 F.out.2.1 F.out.2.2.1 F.out.2.2.2

theorem so_p6 (hx0 : x 0 = .slice (some ⟨bh, oh, none⟩) n ch) (hx1 : x 1 = .slice (some ⟨bd, od, none⟩) M cd) (hx2 : x 2 = .slice bo K co) (hx7 : x 7 = .pointer (some ⟨bc, 0, none⟩)) (hx9 : x 9 = .int .i64 n) (hx10 : x 10 = .pointer (some ⟨pA, 0, none⟩)) (hn1 : 1 ≤ n) (hn4 : n ≤ 4) (ha : Ar wt pA rA s) (hs : s.ws.length = n) (hQ : ∀ a' w', FrX [(0, .slice (some ⟨bh, oh, none⟩) n ch), (1, .slice (some ⟨bd, od, none⟩) M cd), (2, .slice bo K co), (7, .pointer (some ⟨bc, 0, none⟩)), (9, .int .i64 n), (10, .pointer (some ⟨pA, 0, none⟩)), (15, .slice (some ⟨wt.heap.size, 0, none⟩) n n)] a' → w'.heap[wt.heap.size]? = some (.cells (u64s s.ws) 40 (0, 0)) → Kp [] wt w' → Q .normal a' w') : (soP6 Try.f5).wp Try.prog Q ⟨T318 x, []⟩ wt := by
  have HQ := Lib.hid hQ
  have HN := Lib.hid (all_any wt pA rA s ha (by omega) (by omega))
  rw [hs] at HN
  clear hQ ha
  simp only [soP6, bodyOf, Try.f5, codeL, codeR, blockOf, loopOf, Option.getD_some, T318]
  simp only [hx0, hx1, hx2, hx7, hx9, hx10]
  go_wp2_with fail
  refine HN.out.mono ?_
  rintro e w1 ⟨rfl, ha, hk⟩
  have HA := Lib.hid (And.intro ha hk)
  clear ha hk HN
  go_wp2
  exact HQ.out _ _ ⟨rfl, rfl, ⟨rfl, rfl, rfl, rfl, rfl, rfl, rfl, trivial⟩⟩ HA.out.1 HA.out.2

theorem make_told (n : Nat) (h2 : n ≤ 4096) (w : World) : (Instr.makeSlice 61 (.int .i64 (n : Int)) (.int .i64 (n : Int))).run Try.prog w = .ok (.slice (some ⟨w.heap.size, 0, none⟩) n n) (w.alloc (.cells (ends64 (List.replicate n 0)) 3)) := by
  obtain ⟨i, hi, hz0, hz1, hz2⟩ := info_parts (P := Try.prog) (e := 3) (z := .int .i64 0) (size := 1) (bytes := 8) (by kernel_rfl)
  have := run_make (P := Try.prog) w 61 3 i (.int .i64 0) Try.underlying61 hi hz0 .i64 .i64 n n (by omega) (Int.le_refl _) (by rw [hz2]; omega) (by omega)
  have e : madeCells #[.int .i64 0] n = ends64 (List.replicate n 0) := by
    apply Array.ext'
    rw [toList_madeCells_one]
    simp [ends64]
  rw [this, hz1]
  simp [Value.cells, e]
theorem so_p7 (hx0 : x 0 = .slice (some ⟨bh, oh, none⟩) n ch) (hx1 : x 1 = .slice (some ⟨bd, od, none⟩) M cd) (hx2 : x 2 = .slice bo K co) (hx7 : x 7 = .pointer (some ⟨bc, 0, none⟩)) (hx9 : x 9 = .int .i64 n) (hx10 : x 10 = .pointer (some ⟨pA, 0, none⟩)) (hx15 : x 15 = .slice (some ⟨bf, 0, none⟩) n n) (hM4 : M ≤ 4) (hQ : ∀ a' w', FrX [(0, .slice (some ⟨bh, oh, none⟩) n ch), (1, .slice (some ⟨bd, od, none⟩) M cd), (2, .slice bo K co), (7, .pointer (some ⟨bc, 0, none⟩)), (9, .int .i64 n), (10, .pointer (some ⟨pA, 0, none⟩)), (15, .slice (some ⟨bf, 0, none⟩) n n), (16, .slice (some ⟨wt.heap.size, 0, none⟩) M M)] a' → w'.heap[wt.heap.size]? = some (.cells (ends64 (List.replicate M 0)) 3 (0, 0)) → Kp [] wt w' → Q .normal a' w') : (soP7 Try.f5).wp Try.prog Q ⟨T318 x, []⟩ wt := by
  have HQ := Lib.hid hQ
  have hmk := make_told M (by omega)
  clear hQ
  simp only [soP7, bodyOf, Try.f5, codeL, codeR, blockOf, loopOf, Option.getD_some, T318]
  simp only [hx0, hx1, hx2, hx7, hx9, hx10, hx15]
  go_wp2
  exact HQ.out _ _ ⟨rfl, rfl, ⟨rfl, rfl, rfl, rfl, rfl, rfl, rfl, rfl, trivial⟩⟩ (heap_alloc_new wt _) ((Kp.refl _ _).alloc _)

theorem so_p8 (hx0 : x 0 = .slice (some ⟨bh, oh, none⟩) n ch) (hx1 : x 1 = .slice (some ⟨bd, od, none⟩) M cd) (hx2 : x 2 = .slice bo K co) (hx7 : x 7 = .pointer (some ⟨bc, 0, none⟩)) (hx9 : x 9 = .int .i64 n) (hx10 : x 10 = .pointer (some ⟨pA, 0, none⟩)) (hx15 : x 15 = .slice (some ⟨bf, 0, none⟩) n n) (hx16 : x 16 = .slice (some ⟨be, 0, none⟩) M M) (hQ : ∀ a', FrX [(0, .slice (some ⟨bh, oh, none⟩) n ch), (1, .slice (some ⟨bd, od, none⟩) M cd), (2, .slice bo K co), (7, .pointer (some ⟨bc, 0, none⟩)), (9, .int .i64 n), (10, .pointer (some ⟨pA, 0, none⟩)), (15, .slice (some ⟨bf, 0, none⟩) n n), (16, .slice (some ⟨be, 0, none⟩) M M), (17, .slice none 0 0)] a' → Q .normal a' wt) : (soP8 Try.f5).wp Try.prog Q ⟨T318 x, []⟩ wt := by
  have HQ := Lib.hid hQ
  clear hQ
  simp only [soP8, bodyOf, Try.f5, codeL, codeR, blockOf, loopOf, Option.getD_some, T318]
  simp only [hx0, hx1, hx2, hx7, hx9, hx10, hx15, hx16]
  go_wp2
  exact HQ.out _ ⟨rfl, rfl, ⟨rfl, rfl, rfl, rfl, rfl, rfl, rfl, rfl, rfl, trivial⟩⟩

theorem so_p9 (hx0 : x 0 = .slice (some ⟨bh, oh, none⟩) n ch) (hx1 : x 1 = .slice (some ⟨bd, od, none⟩) M cd) (hx2 : x 2 = .slice bo K co) (hx7 : x 7 = .pointer (some ⟨bc, 0, none⟩)) (hx9 : x 9 = .int .i64 n) (hx10 : x 10 = .pointer (some ⟨pA, 0, none⟩)) (hx15 : x 15 = .slice (some ⟨bf, 0, none⟩) n n) (hx16 : x 16 = .slice (some ⟨be, 0, none⟩) M M) (hx17 : x 17 = .slice none 0 0) (hQ : ∀ a', FrX [(0, .slice (some ⟨bh, oh, none⟩) n ch), (1, .slice (some ⟨bd, od, none⟩) M cd), (2, .slice bo K co), (7, .pointer (some ⟨bc, 0, none⟩)), (9, .int .i64 n), (10, .pointer (some ⟨pA, 0, none⟩)), (15, .slice (some ⟨bf, 0, none⟩) n n), (16, .slice (some ⟨be, 0, none⟩) M M), (17, .slice none 0 0), (18, .bool true)] a' → Q .normal a' wt) : (soP9 Try.f5).wp Try.prog Q ⟨T318 x, []⟩ wt := by
  have HQ := Lib.hid hQ
  clear hQ
  simp only [soP9, bodyOf, Try.f5, codeL, codeR, blockOf, loopOf, Option.getD_some, T318]
  simp only [hx0, hx1, hx2, hx7, hx9, hx10, hx15, hx16, hx17]
  go_wp2
  exact HQ.out _ ⟨rfl, rfl, ⟨rfl, rfl, rfl, rfl, rfl, rfl, rfl, rfl, rfl, rfl, trivial⟩⟩
end

end Go.Proofs.Ytnbibpmhmffmpaa

namespace Go.Proofs.Ytnbibpmhmffmpaa
set_option linter.unusedVariables false
set_option linter.unusedSimpArgs false
set_option maxRecDepth 100000
open Go.Conc
open Go.ConcN (upd_ne upd_same)

theorem lies_none {pl : Nat → Option Place} (h : ∀ i, pl i = none) (w : World) : Lies pl (fun _ => none) w :=
  ⟨fun i r z => (by cases z), fun i s c hi => (by rw [h i] at hi; cases hi), fun i s a v hi => (by rw [h i] at hi; cases hi)⟩
theorem Kp.ks0 {w w' : World} (h : Kp [] w w') : Ks (fun _ => False) w w' := (ks_of_kp h).mono fun b _ z => by cases z

section
variable {pl : Nat → Option Place} {n h : Nat} {Post : Value → World → Prop} {w : World}

end
end Go.Proofs.Ytnbibpmhmffmpaa

namespace Go.Proofs.Ytnbibpmhmffmpaa
set_option linter.unusedVariables false
set_option linter.unusedSimpArgs false
set_option maxRecDepth 100000
open Go.Conc
open Go.ConcN (upd_ne upd_same)

theorem Priv.both {o1 o2 : Nat → Prop} {A1 A2 : World → Prop} (h1 : Priv o1 A1) (h2 : Priv o2 A2) : Priv (fun b => o1 b ∨ o2 b) (fun w => A1 w ∧ A2 w) :=
  ⟨fun w w' h he => ⟨h1.st _ _ h.1 fun b hb => he b (.inl hb), h2.st _ _ h.2 fun b hb => he b (.inr hb)⟩, fun w b h hb => hb.elim (h1.np _ _ h.1) (h2.np _ _ h.2), fun w b h hb => hb.elim (h1.lt _ _ h.1) (h2.lt _ _ h.2)⟩
/-- A lone call that turns nothing old. -/
theorem Desk.ks0 {SB : Nat → Prop} {pA rA : Nat} {pl : Nat → Option Place} {F : Nat → Option (Nat × Nat)} {col : Nat → Col} {w w' : World} (D : Desk SB pA rA pl F col w) (hL : Lies pl F w') (k : Ks (fun _ => False) w w') : Desk SB pA rA pl F col w' :=
  ⟨D.pl0, hL, ⟨D.lay.free, fun b hb => D.lay.above b (Nat.le_trans k.size hb), D.lay.sb, D.lay.ar⟩, D.own⟩

section
variable {pl : Nat → Option Place} {n h : Nat} {Post : Value → World → Prop} {w : World}

end
end Go.Proofs.Ytnbibpmhmffmpaa

namespace Go.Proofs.Ytnbibpmhmffmpaa
set_option linter.unusedVariables false
set_option linter.unusedSimpArgs false
set_option maxRecDepth 100000
open Go.Conc
open Go.ConcN (upd_ne upd_same)

section
variable {pl : Nat → Option Place} {n h : Nat} {Post : Value → World → Prop} {w : World}

end
end Go.Proofs.Ytnbibpmhmffmpaa

namespace Go.Proofs.Ytnbibpmhmffmpaa
set_option linter.unusedVariables false
set_option linter.unusedSimpArgs false
set_option maxRecDepth 100000
open Go.Conc
open Go.ConcN (upd_ne upd_same)

theorem stepG_done {P : Program} {fr : Frame} {v : Value} (hm : fr.mode = .returning) (hd : fr.defers = []) (hk : fr.kind = .normal) {fn : Func} (hf : P.funcs[fr.fn]? = some fn) (hi : P.inits.idxOf? fr.fn = none) (hr : ∀ w, (results fn fr.tmps).runT P w #[] = (.ok v w, #[])) (w : World) :
    stepG P true (gor fr []) w = .ended (.done v) w := by
  rw [stepG_not_run (by rw [hm]; simp)]
  unfold unwind
  simp only [hd, hm, hf, hr w, doReturn, hk, GStep.after, gor, hi, Bool.not_true, if_false, Bool.false_eq_true]
  simp [seen]

section
variable {Post : Value → World → Prop} {w : World}
end
end Go.Proofs.Ytnbibpmhmffmpaa

namespace Go.Proofs.Ytnbibpmhmffmpaa
set_option linter.unusedVariables false
set_option linter.unusedSimpArgs false
set_option maxRecDepth 100000
open Go.RowKit
open Go.Conc

def soR0 (f : Func) : Code := bodyOf f
def soR1 (f : Func) : Code := codeR (bodyOf f)
def soR2 (f : Func) : Code := codeR (codeR (bodyOf f))
def soR3 (f : Func) : Code := codeR (codeR (codeR (bodyOf f)))
def soR4 (f : Func) : Code := codeR (codeR (codeR (codeR (bodyOf f))))
def soR5 (f : Func) : Code := codeR (codeR (codeR (codeR (codeR (bodyOf f)))))
def soR6 (f : Func) : Code := codeR (codeR (codeR (codeR (codeR (codeR (bodyOf f))))))
def soR7 (f : Func) : Code := codeR (codeR (codeR (codeR (codeR (codeR (codeR (bodyOf f)))))))
def soR8 (f : Func) : Code := codeR (codeR (codeR (codeR (codeR (codeR (codeR (codeR (bodyOf f))))))))
def soR9 (f : Func) : Code := codeR (codeR (codeR (codeR (codeR (codeR (codeR (codeR (codeR (bodyOf f)))))))))
def soR10 (f : Func) : Code := codeR (codeR (codeR (codeR (codeR (codeR (codeR (codeR (codeR (codeR (bodyOf f))))))))))

section
variable {pl : Nat → Option Place} {w : World} {N h : Nat} {Post : Value → World → Prop} {own : Nat → Prop} {A : World → Prop} {b : Frame} {x : Nat → Value} {k : List Item} {c : Code}

theorem priv_ar (pA rA : Nat) (s : St) : Priv (fun b => b = pA ∨ b = rA) (fun w => Ar w pA rA s) := by
  refine ⟨fun w w' h hb => ⟨(hb _ (.inl rfl)).trans h.hp, (hb _ (.inr rfl)).trans h.hr⟩, fun w b h hb => ?_, fun w b h hb => ?_⟩
  · rcases hb with rfl | rfl
    · rw [h.hp]; rfl
    · rw [h.hr]; rfl
  · rcases hb with rfl | rfl
    · exact h.lt.1
    · exact h.lt.2
theorem four_at (a b c d : Value) : ∃ x, (#[a, b, c, d] : Array Value) ++ Array.replicate 314 undef = T318 x ∧ x 0 = a ∧ x 1 = b ∧ x 2 = c ∧ x 3 = d := by
  refine ⟨_, arr318 _ (by simp), ?_, ?_, ?_, ?_⟩ <;> simp [Array.getD, Array.getElem_append]
/-- A piece that turns nothing. -/
theorem piece_still (hpl : ∀ i, pl i = none) (hP : Priv own A) (hA : A w) {K' : List (Nat × Value)} (hok : StOK Try.prog (b.at ⟨T318 x, []⟩ (.code c :: k)) [])
    (hc : ∀ (wt : World) (Q : Exit → Act → World → Prop), A wt → (∀ a', FrX K' a' → Q .normal a' wt) → c.wp Try.prog Q ⟨T318 x, []⟩ wt)
    (H : ∀ (x' : Nat → Value) w', HasX x' K' → A w' → Ks (fun _ => False) w w' → Win Try.prog Post pl N h (gor (b.at ⟨T318 x', []⟩ k) []) w') :
    Win Try.prog Post pl N h (gor (b.at ⟨T318 x, []⟩ (.code c :: k)) []) w := by
  refine (lies_none hpl w).piece (fun _ _ => rfl) (ι := Unit) (S := fun _ => False) hP hA (fun _ _ => rfl) (own' := fun _ => own) (A' := fun _ => A) (fun _ => hP) (K' := fun _ => K') hok (fun wt Q h1 _ _ hQ => hc wt Q h1 fun a' hf => hQ a' () wt (fun y hy => .inl hy) hf h1 (Ks.refl _ _)) fun x' i w' _ hx ha hk _ => H x' w' hx ha hk

/-- A piece that makes blocks. -/
theorem piece_new (hpl : ∀ i, pl i = none) (hP : Priv own A) (hA : A w) {ι : Type} {own' : ι → Nat → Prop} {A' : ι → World → Prop} (hP' : ∀ i, Priv (own' i) (A' i)) (hfr : ∀ i y, own' i y → w.heap.size ≤ y) {K' : ι → List (Nat × Value)} (hok : StOK Try.prog (b.at ⟨T318 x, []⟩ (.code c :: k)) [])
    (hc : ∀ (wt : World) (Q : Exit → Act → World → Prop), A wt → wt.heap.size = w.heap.size → (∀ a' i w', FrX (K' i) a' → A' i w' → Kp [] wt w' → Q .normal a' w') → c.wp Try.prog Q ⟨T318 x, []⟩ wt)
    (H : ∀ (x' : Nat → Value) i w', HasX x' (K' i) → A w' → A' i w' → Ks (fun _ => False) w w' → Win Try.prog Post pl N h (gor (b.at ⟨T318 x', []⟩ k) []) w') :
    Win Try.prog Post pl N h (gor (b.at ⟨T318 x, []⟩ (.code c :: k)) []) w := by
  refine (lies_none hpl w).piece (fun _ _ => rfl) (ι := ι) (S := fun _ => False) hP hA (fun _ _ => rfl) (own' := fun i y => own y ∨ own' i y) (A' := fun i w => A w ∧ A' i w) (fun i => hP.and (hP' i)) (K' := K') hok (fun wt Q h1 h2 _ hQ => hc wt Q h1 h2 fun a' i w' hf ha hk => hQ a' i w' (fun y hy => hy.imp id fun z => ⟨by have := hfr i y z; omega, (hP' i).lt _ _ ha z⟩) hf ⟨hP.st _ _ h1 fun y hy => hk.block y (hP.lt _ _ h1 hy) (by simp), ha⟩ ((ks_of_kp hk).mono fun _ _ z => by simp at z)) fun x' i w' _ hx ha hk _ => H x' i w' hx ha.1 ha.2 hk
end

section
variable {pl : Nat → Option Place} {w : World} {N : Nat} {Post : Value → World → Prop} {own : Nat → Prop} {A : World → Prop} {bh oh n ch bd od M cd K co : Nat} {bo : Option Addr} {cc : Int}

set_option maxHeartbeats 1000000 in
theorem so_in {L : List Hd} (hpl : ∀ i, pl i = none) (hP : Priv own A) (hA : A w) (hAh : ∀ w, A w → HeadsAt w bh oh L) (hbh : own bh) (hn1 : 1 ≤ n) (hn4 : n ≤ 4) (hM1 : 1 ≤ M) (hM4 : M ≤ 4) (hK : K ≤ 100) (hc1 : cc ≤ 1) (hL : L.length = n) (hm : L.all Hd.may = true)
    (H : ∀ (x : Nat → Value) bc pA rA bf be s w', HasX x [(0, .slice (some ⟨bh, oh, none⟩) n ch), (1, .slice (some ⟨bd, od, none⟩) M cd), (2, .slice bo K co), (7, .pointer (some ⟨bc, 0, none⟩)), (9, .int .i64 n), (10, .pointer (some ⟨pA, 0, none⟩)), (15, .slice (some ⟨bf, 0, none⟩) n n), (16, .slice (some ⟨be, 0, none⟩) M M), (17, .slice none 0 0), (18, .bool true)] → A w' → w'.heap[bc]? = some (.cells #[.int .u8 cc] 5 (0, 0)) → Ar w' pA rA s → s.ws = L.map Hd.w → s.t = n → w'.heap[bf]? = some (.cells (u64s s.ws) 40 (0, 0)) → w'.heap[be]? = some (.cells (ends64 (List.replicate M 0)) 3 (0, 0)) →
      w.heap.size ≤ bc → bc < pA → bc < rA → pA < bf → rA < bf → bf < be → Ks (fun _ => False) w w' → Win Try.prog Post pl N 0 (gor ((Frame.enter Try.prog 5 #[.slice (some ⟨bh, oh, none⟩) n ch, .slice (some ⟨bd, od, none⟩) M cd, .slice bo K co, .int .u8 cc] .normal).at ⟨T318 x, []⟩ [.code (soR10 Try.f5)]) []) w') :
    Win Try.prog Post pl N 0 (gor (Frame.enter Try.prog 5 #[.slice (some ⟨bh, oh, none⟩) n ch, .slice (some ⟨bd, od, none⟩) M cd, .slice bo K co, .int .u8 cc] .normal) []) w := by
  have hb : (Frame.enter Try.prog 5 #[.slice (some ⟨bh, oh, none⟩) n ch, .slice (some ⟨bd, od, none⟩) M cd, .slice bo K co, .int .u8 cc] .normal).kind = .normal := rfl
  have hbd : Try.f5.body = some (soR0 Try.f5) := by kernel_rfl
  rw [enter_at Try.func5 hbd]
  have e0 : soR0 Try.f5 = .seq (soP0 Try.f5) (soR1 Try.f5) := by kernel_rfl
  have e1 : soR1 Try.f5 = .seq (soP1 Try.f5) (soR2 Try.f5) := by kernel_rfl
  have e2 : soR2 Try.f5 = .seq (soP2 Try.f5) (soR3 Try.f5) := by kernel_rfl
  have e3 : soR3 Try.f5 = .seq (soP3 Try.f5) (soR4 Try.f5) := by kernel_rfl
  have e4 : soR4 Try.f5 = .seq (soP4 Try.f5) (soR5 Try.f5) := by kernel_rfl
  have e5 : soR5 Try.f5 = .seq (soP5 Try.f5) (soR6 Try.f5) := by kernel_rfl
  have e6 : soR6 Try.f5 = .seq (soP6 Try.f5) (soR7 Try.f5) := by kernel_rfl
  have e7 : soR7 Try.f5 = .seq (soP7 Try.f5) (soR8 Try.f5) := by kernel_rfl
  have e8 : soR8 Try.f5 = .seq (soP8 Try.f5) (soR9 Try.f5) := by kernel_rfl
  have e9 : soR9 Try.f5 = .seq (soP9 Try.f5) (soR10 Try.f5) := by kernel_rfl
  have hnt : Try.f5.ntmps - (#[.slice (some ⟨bh, oh, none⟩) n ch, .slice (some ⟨bd, od, none⟩) M cd, .slice bo K co, .int .u8 cc] : Array Value).size = 314 := by kernel_rfl
  rw [hnt]
  clear hnt
  obtain ⟨x, hxe, hx0, hx1, hx2, hx3⟩ := four_at (.slice (some ⟨bh, oh, none⟩) n ch) (.slice (some ⟨bd, od, none⟩) M cd) (.slice bo K co) (.int .u8 cc)
  rw [hxe]
  clear hxe
  generalize hbb : Frame.enter Try.prog 5 #[.slice (some ⟨bh, oh, none⟩) n ch, .slice (some ⟨bd, od, none⟩) M cd, .slice bo K co, .int .u8 cc] .normal = b at H hb
  rw [e0]
  refine Win.seq ?_
  refine piece_new hpl hP hA (ι := {bc : Nat // w.heap.size ≤ bc}) (own' := fun bc => (· = bc.1)) (A' := fun bc w => w.heap[bc.1]? = some (.cells #[.int .u8 cc] 5 (0, 0))) (fun bc => Priv.row _ _ _ _) (fun bc y hy => hy ▸ bc.2) (K' := fun bc => [(0, .slice (some ⟨bh, oh, none⟩) n ch), (1, .slice (some ⟨bd, od, none⟩) M cd), (2, .slice bo K co), (7, .pointer (some ⟨bc.1, 0, none⟩))]) (stok_at hb (by rw [← hbb]; rfl) (by simp) (by kernel_rfl)) (fun wt Q h1 h2 hQ => so_p0 hx0 hx1 hx2 hx3 fun a' w' hf hr hk => hQ a' ⟨wt.heap.size, by omega⟩ w' hf hr hk) ?_
  rintro x1 ⟨bc, gbc⟩ w1 hx hA1 hr1 k1
  clear hx0 hx1 hx2 hx3 x
  obtain ⟨hx0, hx1, hx2, hx7, -⟩ := hx
  have PA := hP.and (Priv.row bc #[.int .u8 cc] 5 (0, 0))
  rw [e1]
  refine Win.seq ?_
  refine piece_still hpl PA ⟨hA1, hr1⟩ (stok_at hb (by rw [← hbb]; rfl) (by simp) (by kernel_rfl)) (fun wt Q h1 hQ => so_p1 hx0 hx1 hx2 hx7 hQ) ?_
  rintro x2 w2 hx hA2 k2
  clear hx0 hx1 hx2 hx7
  obtain ⟨hx0, hx1, hx2, hx7, hx9, -⟩ := hx
  rw [e2]
  refine Win.seq ?_
  refine piece_still hpl PA hA2 (stok_at hb (by rw [← hbb]; rfl) (by simp) (by kernel_rfl)) (fun wt Q h1 hQ => so_p2 hx0 hx1 hx2 hx7 hx9 hn1 hn4 hM1 hM4 hK ((cell_of_row h1.2 0).trans rfl) hc1 hQ) ?_
  rintro x3 w3 hx hA3 k3
  clear hx0 hx1 hx2 hx7 hx9
  obtain ⟨hx0, hx1, hx2, hx7, hx9, -⟩ := hx
  have k3 := (k1.trans k2).trans k3
  clear k1 k2
  rw [e3]
  refine Win.seq ?_
  refine piece_new hpl PA hA3 (ι := {p : Nat × Nat // w3.heap.size ≤ p.1 ∧ w3.heap.size ≤ p.2}) (own' := fun p b => b = p.1.1 ∨ b = p.1.2) (A' := fun p w => Ar w p.1.1 p.1.2 (fresh n)) (fun p => priv_ar _ _ _) (fun p y hy => hy.elim (fun e => e ▸ p.2.1) (fun e => e ▸ p.2.2)) (K' := fun p => [(0, .slice (some ⟨bh, oh, none⟩) n ch), (1, .slice (some ⟨bd, od, none⟩) M cd), (2, .slice bo K co), (7, .pointer (some ⟨bc, 0, none⟩)), (9, .int .i64 n), (10, .pointer (some ⟨p.1.1, 0, none⟩)), (11, .int .i64 0)]) (stok_at hb (by rw [← hbb]; rfl) (by simp) (by kernel_rfl)) (fun wt Q h1 h2 hQ => so_p3 hx0 hx1 hx2 hx7 hx9 hn1 hn4 fun a' w' hf hr hk => hQ a' ⟨(wt.heap.size + 1, wt.heap.size), by simp only; omega⟩ w' hf hr hk) ?_
  rintro x4 ⟨⟨pA, rA⟩, gpA, grA⟩ w4 hx hA4 hr4 k4
  simp only at gpA grA hr4
  clear hx0 hx1 hx2 hx7 hx9
  obtain ⟨hx0, hx1, hx2, hx7, hx9, hx10, hx11, -⟩ := hx
  have k4 := k3.trans k4
  have PB := PA.and (priv_ar pA rA (fresh n))
  rw [e4]
  refine Win.seq ?_
  refine piece_still hpl PB ⟨hA4, hr4⟩ (stok_at hb (by rw [← hbb]; rfl) (by simp) (by kernel_rfl)) (fun wt Q h1 hQ => so_p4 hx0 hx1 hx2 hx7 hx9 hx10 hx11 hQ) ?_
  rintro x5 w5 hx hA5 k5
  clear hx0 hx1 hx2 hx7 hx9 hx10 hx11
  obtain ⟨hx0, hx1, hx2, hx7, hx9, hx10, -⟩ := hx
  have k5 := k4.trans k5
  have lbc : bc < w3.heap.size := lt_of_block hA3.2
  have lbh : bh < w.heap.size := hP.lt _ _ hA hbh
  have hown : ∀ y, own y → y ≠ pA ∧ y ≠ rA := fun y hy => by have := hP.lt _ _ hA hy; have := k3.size; omega
  have hbc2 : bc ≠ pA ∧ bc ≠ rA := by omega
  rw [e5]
  refine Win.seq ?_
  refine (lies_none hpl w5).piece (fun _ _ => rfl) (ι := St) (S := fun b => b = pA ∨ b = rA) PB hA5 (fun _ _ => rfl) (own' := fun s y => (own y ∨ y = bc) ∨ (y = pA ∨ y = rA)) (A' := fun s w => (A w ∧ w.heap[bc]? = some (.cells #[.int .u8 cc] 5 (0, 0))) ∧ (s.ws = L.map Hd.w ∧ s.t = n ∧ Ar w pA rA s)) (fun s => PA.and ⟨fun w w' h hb => ⟨h.1, h.2.1, (priv_ar pA rA s).st _ _ h.2.2 hb⟩, fun w b h hb => (priv_ar pA rA s).np _ _ h.2.2 hb, fun w b h hb => (priv_ar pA rA s).lt _ _ h.2.2 hb⟩) (K' := fun s => [(0, .slice (some ⟨bh, oh, none⟩) n ch), (1, .slice (some ⟨bd, od, none⟩) M cd), (2, .slice bo K co), (7, .pointer (some ⟨bc, 0, none⟩)), (9, .int .i64 n), (10, .pointer (some ⟨pA, 0, none⟩))]) (stok_at hb (by rw [← hbb]; rfl) (by simp) (by kernel_rfl)) (fun wt Q h1 h2 _ hQ => so_p5 (L := L) (a0 := 0) hx0 hx1 hx2 hx7 hx9 hx10 hn4 hL (hAh _ h1.1.1) hm h1.2 (hown bh hbh) fun a' w' s hf hr hs ht hk => hQ a' s w' (fun y hy => .inl hy) hf ⟨⟨hP.st _ _ h1.1.1 fun y hy => hk.block y (hP.lt _ _ h1.1.1 hy) (fun z => z.elim (hown y hy).1 (hown y hy).2), hk.row (fun z => z.elim hbc2.1 hbc2.2) h1.1.2⟩, hs, ht, hr⟩ hk) ?_
  rintro x6 s w6 - hx ⟨hA6, hs, ht, hr6⟩ k6 -
  clear hx0 hx1 hx2 hx7 hx9 hx10
  obtain ⟨hx0, hx1, hx2, hx7, hx9, hx10, -⟩ := hx
  have k6 : Ks (fun _ => False) w w6 := k5.then k6 fun y hy z => by have := k3.size; rcases z with z | z <;> omega
  have PC := PA.and (priv_ar pA rA s)
  have hsl : s.ws.length = n := by rw [hs]; simp [hL]
  rw [e6]
  refine Win.seq ?_
  refine piece_new hpl PC ⟨hA6, hr6⟩ (ι := {bf : Nat // w6.heap.size ≤ bf}) (own' := fun bf => (· = bf.1)) (A' := fun bf w => w.heap[bf.1]? = some (.cells (u64s s.ws) 40 (0, 0))) (fun bf => Priv.row _ _ _ _) (fun bf y hy => hy ▸ bf.2) (K' := fun bf => [(0, .slice (some ⟨bh, oh, none⟩) n ch), (1, .slice (some ⟨bd, od, none⟩) M cd), (2, .slice bo K co), (7, .pointer (some ⟨bc, 0, none⟩)), (9, .int .i64 n), (10, .pointer (some ⟨pA, 0, none⟩)), (15, .slice (some ⟨bf.1, 0, none⟩) n n)]) (stok_at hb (by rw [← hbb]; rfl) (by simp) (by kernel_rfl)) (fun wt Q h1 h2 hQ => so_p6 hx0 hx1 hx2 hx7 hx9 hx10 hn1 hn4 h1.2 hsl fun a' w' hf hr hk => hQ a' ⟨wt.heap.size, by omega⟩ w' hf hr hk) ?_
  rintro x7 ⟨bf, gbf⟩ w7 hx hA7 hr7 k7
  simp only at hr7
  clear hx0 hx1 hx2 hx7 hx9 hx10
  obtain ⟨hx0, hx1, hx2, hx7, hx9, hx10, hx15, -⟩ := hx
  have k7 := k6.trans k7
  have PD := PC.and (Priv.row bf (u64s s.ws) 40 (0, 0))
  rw [e7]
  refine Win.seq ?_
  refine piece_new hpl PD ⟨hA7, hr7⟩ (ι := {be : Nat // w7.heap.size ≤ be}) (own' := fun be => (· = be.1)) (A' := fun be w => w.heap[be.1]? = some (.cells (ends64 (List.replicate M 0)) 3 (0, 0))) (fun be => Priv.row _ _ _ _) (fun be y hy => hy ▸ be.2) (K' := fun be => [(0, .slice (some ⟨bh, oh, none⟩) n ch), (1, .slice (some ⟨bd, od, none⟩) M cd), (2, .slice bo K co), (7, .pointer (some ⟨bc, 0, none⟩)), (9, .int .i64 n), (10, .pointer (some ⟨pA, 0, none⟩)), (15, .slice (some ⟨bf, 0, none⟩) n n), (16, .slice (some ⟨be.1, 0, none⟩) M M)]) (stok_at hb (by rw [← hbb]; rfl) (by simp) (by kernel_rfl)) (fun wt Q h1 h2 hQ => so_p7 hx0 hx1 hx2 hx7 hx9 hx10 hx15 hM4 fun a' w' hf hr hk => hQ a' ⟨wt.heap.size, by omega⟩ w' hf hr hk) ?_
  rintro x8 ⟨be, gbe⟩ w8 hx hA8 hr8 k8
  simp only at hr8
  clear hx0 hx1 hx2 hx7 hx9 hx10 hx15
  obtain ⟨hx0, hx1, hx2, hx7, hx9, hx10, hx15, hx16, -⟩ := hx
  have k8 := k7.trans k8
  have PE := PD.and (Priv.row be (ends64 (List.replicate M 0)) 3 (0, 0))
  rw [e8]
  refine Win.seq ?_
  refine piece_still hpl PE ⟨hA8, hr8⟩ (stok_at hb (by rw [← hbb]; rfl) (by simp) (by kernel_rfl)) (fun wt Q h1 hQ => so_p8 hx0 hx1 hx2 hx7 hx9 hx10 hx15 hx16 hQ) ?_
  rintro x9 w9 hx hA9 k9
  clear hx0 hx1 hx2 hx7 hx9 hx10 hx15 hx16
  obtain ⟨hx0, hx1, hx2, hx7, hx9, hx10, hx15, hx16, hx17, -⟩ := hx
  have k9 := k8.trans k9
  rw [e9]
  refine Win.seq ?_
  refine piece_still hpl PE hA9 (stok_at hb (by rw [← hbb]; rfl) (by simp) (by kernel_rfl)) (fun wt Q h1 hQ => so_p9 hx0 hx1 hx2 hx7 hx9 hx10 hx15 hx16 hx17 hQ) ?_
  rintro x10 w10 hx hA10 k10
  have l7 := hr6.lt
  exact H x10 bc pA rA bf be s w10 hx hA10.1.1.1.1 hA10.1.1.1.2 hA10.1.1.2 hs ht hA10.1.2 hA10.2 gbc (by omega) (by omega) (by omega) (by omega) (by have := lt_of_block hr7; omega) (k9.trans k10)
end

end Go.Proofs.Ytnbibpmhmffmpaa
