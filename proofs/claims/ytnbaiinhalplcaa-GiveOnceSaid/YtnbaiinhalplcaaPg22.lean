/- Law 14: what apart answers, where no block is in two hands and none in a hand is free. Law 14: the pieces of its third and its fourth loop, each done alone. Written by gen/go_h.py. Law 14: a turn; the third loop. Written by gen/go_i.py. Law 14: the fourth loop: all are stopped. Written by gen/go_j.py. Conditions: as each theorem states them. -/
import Derived.Deep.WholeRow
import Derived.Test.YtnbaiinhalplcaaPg21
namespace Go.Proofs.Ytnbaiinhalplcaa
open List renaming getElem?_toArray → gqA, getElem?_cons_zero → gqZ, getElem?_cons_succ → gqS
set_option linter.unusedVariables false
set_option linter.unusedSimpArgs false
set_option maxRecDepth 100000
open Go.RowKit
open Go.Conc

/-- An array of 64 bools. -/
def sv (f : Nat → Bool) : Array Value := ((List.range 64).map fun i => Value.bool (f i)).toArray
theorem sv_size (f : Nat → Bool) : (sv f).size = 64 := by simp [sv]
theorem sv_get (f : Nat → Bool) (i : Nat) (h : i < 64) : (sv f)[i]? = some (.bool (f i)) := by simp [sv, h]
theorem sv_set (f : Nat → Bool) (i : Nat) (b : Bool) : (sv f).setIfInBounds i (.bool b) = sv fun j => if j = i then b else f j := by
  apply Array.ext_getElem?
  intro j
  by_cases hj : j < 64
  · rw [sv_get _ j hj]
    by_cases e : i = j
    · subst e
      rw [Array.getElem?_setIfInBounds_self_of_lt (by rw [sv_size]; exact hj)]; simp
    · rw [Array.getElem?_setIfInBounds_ne e, sv_get f j hj, if_neg (fun q => e q.symm)]
  · rw [Array.getElem?_eq_none (by rw [Array.size_setIfInBounds, sv_size]; omega), Array.getElem?_eq_none (by rw [sv_size]; omega)]
theorem sv_zero (w : World) : (zeroValue 93).run Try.prog w = .ok (.agg (sv fun _ => false)) w :=
  (zero_of_info (show (Try.prog.info? 93).map (fun i => (i.zero, i.size)) = some (some (.agg (sv fun _ => false)), 64) from by kernel_rfl)).1 w

/-- The hands, where they lie. -/
def HandsAt (w : World) (bh M : Nat) (vs : Nat → Value) (g : Hands) : Prop := w.heap[bh]? = some (.cells ((List.range M).map vs).toArray 34 (0, 0)) ∧ ∀ i, i < M → Qh w (vs i) (g i)
def handsOwn (bh M : Nat) (vs : Nat → Value) (b : Nat) : Prop := b = bh ∨ ∃ i, i < M ∧ b ∈ blk (vs i)
theorem priv_hands (bh M : Nat) (vs : Nat → Value) (g : Hands) : Priv (handsOwn bh M vs) (fun w => HandsAt w bh M vs g) := by
  refine ⟨fun w w' h hb => ⟨(hb bh (.inl rfl)).trans h.1, fun i hi => (h.2 i hi).same fun b hb' => hb b (.inr ⟨i, hi, hb'⟩)⟩, fun w b h hb => ?_, fun w b h hb => ?_⟩
  · rcases hb with rfl | ⟨i, hi, hb⟩
    · exact rich_cells h.1
    · exact (priv_qh _ _).np _ _ (h.2 i hi) hb
  · rcases hb with rfl | ⟨i, hi, hb⟩
    · exact lt_of_block h.1
    · exact (priv_qh _ _).lt _ _ (h.2 i hi) hb
theorem HandsAt.on {w w' : World} {bh M : Nat} {vs : Nat → Value} {g : Hands} (h : HandsAt w bh M vs g) (k : Kp [] w w') : HandsAt w' bh M vs g :=
  (priv_hands bh M vs g).st _ _ h fun b hb => k.block b ((priv_hands bh M vs g).lt _ _ h hb) (by simp)
theorem HandsAt.slot {w : World} {bh M : Nat} {vs : Nat → Value} {g : Hands} (h : HandsAt w bh M vs g) {i : Nat} (hi : i < M) : ∃ ao c, w.cell? ⟨bh, i, none⟩ = some (.slice ao (g i).length c) ∧ ∀ k a r, (g i)[k]? = some (a, r) → ∃ b off, ao = some ⟨b, off, none⟩ ∧ w.cell? ⟨b, off + k * 2, none⟩ = some (.int .i64 a) ∧ w.cell? ⟨b, off + k * 2 + 1, none⟩ = some (.int .i64 r) := by
  have hc : w.cell? ⟨bh, i, none⟩ = some (vs i) := by rw [cell_of_row h.1]; simp [hi]
  rcases (h.2 i hi).q with ⟨h1, h2⟩ | ⟨b, off, cap, cur, h1, h2, h3, h4, h5⟩
  · rw [h1] at hc
    refine ⟨none, 0, by rw [hc, h2]; rfl, fun k a r hk => ?_⟩
    rw [h2] at hk; simp at hk
  · rw [h1] at hc
    refine ⟨_, cap, hc, fun k a r hk => ⟨b, off, rfl, ?_, ?_⟩⟩
    · have hl := (List.getElem?_eq_some_iff.1 hk).1
      rw [cell_of_row h2, show off + k * 2 = off + 2 * k by omega, h5 (2 * k) (by omega)]
      unfold cellH
      rw [if_pos (by omega), show 2 * k / 2 = k by omega]
      simp [List.getD, hk]
    · have hl := (List.getElem?_eq_some_iff.1 hk).1
      rw [cell_of_row h2, show off + k * 2 + 1 = off + (2 * k + 1) by omega, h5 (2 * k + 1) (by omega)]
      unfold cellH
      rw [if_neg (by omega), show (2 * k + 1) / 2 = k by omega]
      simp [List.getD, hk]
theorem shift_clear (x j : Nat) (hx : x < 2 ^ 64) (h : x.testBit j = false) : bits .and .u64 ((x : Int) / 2 ^ j) 1 = 0 := by
  have e : (x : Int) / 2 ^ j = ((x / 2 ^ j : Nat) : Int) := by simp
  have hlt : x / 2 ^ j < 2 ^ 64 := Nat.lt_of_le_of_lt (Nat.div_le_self _ _) hx
  rw [e, show (1 : Int) = ((1 : Nat) : Int) from rfl, u64_and_nat _ _ (by omega) (by omega)]
  have : x / 2 ^ j &&& 1 = 0 := by
    rw [Nat.and_one_is_mod]
    have h2 : (x / 2 ^ j).testBit 0 = false := by rw [Nat.testBit_div_two_pow]; simpa using h
    simpa [Nat.testBit_zero] using h2
  rw [this]; rfl
/-- How many hold a block, of those before. -/
def before (g : Hands) (i k b : Nat) : Nat := sumTo (fun j => load (g j) b) i + load ((g i).take k) b
theorem before_zero (g : Hands) (b : Nat) : before g 0 0 b = 0 := by simp [before, sumTo, load]
theorem before_next (g : Hands) (i b : Nat) : before g i (g i).length b = before g (i + 1) 0 b := by simp [before, sumTo, load]
theorem load_app (l t : List (Int × Int)) (b : Nat) : load (l ++ t) b = load l b + load t b := by
  induction l with
  | nil => simp [load]
  | cons x l ih => simp only [List.cons_append, load, ih]; omega
theorem before_up {g : Hands} {i k : Nat} {x : Int × Int} (h : (g i)[k]? = some x) (b : Nat) : before g i (k + 1) b = before g i k b + cov x b := by
  have hk := (List.getElem?_eq_some_iff.1 h).1
  have e : (g i).take (k + 1) = (g i).take k ++ [x] := by rw [List.take_add_one, h]; rfl
  unfold before
  rw [e, load_app]; simp only [load]; omega
/-- What the loops know. -/
def SeenAt (w wr : World) (b7 : Nat) (f : Nat → Bool) : Prop := Kp [] w wr ∧ wr.heap[b7]? = some (.cells (sv f) 93 (0, 0))

set_option maxHeartbeats 4000000 in
theorem apart_true {w : World} {bh M n v : Nat} {vs : Nat → Value} {g : Hands} (hH : HandsAt w bh M vs g) (hM : M ≤ 64) (hn : n ≤ 64) (hv : v < 2 ^ 64) (hlen : ∀ i, i < M → (g i).length ≤ 64) (hval : Valid n M g)
    (hap : ∀ (i k j : Nat) (a r : Int), i < M → (g i)[k]? = some (a, r) → a ≤ (j : Int) → (j : Int) < a + r → v.testBit j = false ∧ before g i k j = 0) :
    Calls Try.prog 13 #[.slice (some ⟨bh, 0, none⟩) M M, .int .u64 v, .int .i64 n] w fun e w' => e = .returned (.bool true) ∧ Kp [] w w' := by
  have HH := Lib.hid hH
  have HL := Lib.hid hlen
  have HV := Lib.hid hval
  have HA := Lib.hid hap
  have HB := Lib.hid hv
  clear hH hlen hval hap hv
  have hz := sv_zero
  have H0 : Hid (SeenAt w (w.alloc (.cells (sv fun _ => false) 93)) w.heap.size (fun _ => false)) := Lib.hid ⟨(Kp.refl _ _).alloc _, heap_alloc_new _ _⟩
  go_enter Try.func13, Try.ntmps13
  go_wp2
  go_loopg [8] M (fun gk iv wr => ∃ i : Nat, i + gk = M ∧ iv = .int .i64 i ∧ Hid (∃ f, SeenAt w wr w.heap.size f ∧ ∀ b, b < 64 → f b = decide (0 < before g i 0 b)))
  case atStart => exact ⟨0, by omega, rfl, Lib.hid ⟨_, H0.out, fun b _ => by simp [before_zero]⟩⟩
  case round =>
    obtain ⟨i, hi, rfl, HR⟩ := hrel
    by_cases hlt : i < M
    · obtain ⟨f0, hs0, hf0⟩ := HR.out
      have HS0 := Lib.hid hs0
      have HF0 := Lib.hid hf0
      clear hs0 hf0 HR
      have hw1 := IntWalk.i64_in ((i : Int) + 1) (by omega)
      have hlen := HL.out i hlt
      obtain ⟨ao, co, hc0, hks⟩ := HH.out.slot hlt
      have HK := Lib.hid hks
      clear hks
      obtain ⟨L, hL⟩ : ∃ L, L = (g i).length := ⟨_, rfl⟩
      rw [← hL] at hc0 hlen
      have HLL := Lib.hid hL
      clear hL
      have HC0 := Lib.hid hc0
      clear hc0
      obtain ⟨G1, hG1⟩ : ∃ G, G + 1 = gk := ⟨gk - 1, by omega⟩
      have hi1 : i + (G1 + 1) = M := by omega
      have hgl1 : G1 + 1 ≤ gk := by omega
      clear hG1 hi
      go_wp2
      go_loopg [9] L (fun gk kv wr => ∃ k : Nat, k + gk = L ∧ kv = .int .i64 k ∧ Hid (∃ f, SeenAt w wr w.heap.size f ∧ ∀ b, b < 64 → f b = decide (0 < before g i k b)))
      case atStart => exact ⟨0, by omega, rfl, Lib.hid ⟨_, HS0.out, HF0.out⟩⟩
      case round =>
        obtain ⟨k, hk, rfl, HR⟩ := hrel
        by_cases hltk : k < L
        · obtain ⟨f1, hs1, hf1⟩ := HR.out
          have hkL : k < (g i).length := by have := HLL.out; omega
          obtain ⟨⟨a0, r0⟩, hx⟩ : ∃ x, (g i)[k]? = some x := ⟨_, List.getElem?_eq_getElem hkL⟩
          have hvl := HV.out i hlt (a0, r0) (List.mem_of_getElem? hx)
          simp only at hvl
          obtain ⟨a, rfl⟩ : ∃ a : Nat, a0 = a := ⟨a0.toNat, by omega⟩
          obtain ⟨r, rfl⟩ : ∃ r : Nat, r0 = r := ⟨r0.toNat, by omega⟩
          have hr1 : 1 ≤ r := by omega
          have har : a + r ≤ n := by omega
          clear hvl hkL
          obtain ⟨b, off, rfl, d1, d2⟩ := HK.out k _ _ hx
          have kc : ∀ {ad : Addr} {x : Value}, w.cell? ad = some x → wr.cell? ad = some x := fun {ad x} h => (World.cell?_of_block (hs1.1.block _ (World.block_lt_of_cell? _ _ h) (by simp))).trans h
          have hc1 := kc HC0.out
          have e1 := kc d1
          have e2 := kc d2
          clear d1 d2 kc
          have hw2 := IntWalk.i64_in ((k : Int) + 1) (by omega)
          have HX := Lib.hid hx
          have HS1 := Lib.hid hs1
          have HF1 := Lib.hid hf1
          clear hx hs1 hf1
          obtain ⟨G2, hG2⟩ : ∃ G, G + 1 = gk := ⟨gk - 1, by omega⟩
          have hk1 : k + (G2 + 1) = L := by omega
          have hgl2 : G2 + 1 ≤ gk := by omega
          clear hG2 hk
          obtain ⟨wa, rfl⟩ : ∃ wa : World, wa = wr := ⟨_, rfl⟩
          have HS2 : Hid (SeenAt w (wa.alloc (.cells #[.int .i64 a, .int .i64 r] 44)) w.heap.size f1 ∧ (wa.alloc (.cells #[.int .i64 a, .int .i64 r] 44)).heap[wa.heap.size]? = some (.cells #[.int .i64 a, .int .i64 r] 44 (0, 0))) := Lib.hid ⟨⟨HS1.out.1.alloc _, ((Kp.refl [] wa).alloc _).row (by simp) HS1.out.2⟩, heap_alloc_new _ _⟩
          go_wp2
          go_loopg [11] r (fun gk iv wr => ∃ j : Nat, j + gk = a + r ∧ a ≤ j ∧ iv = .int .i64 j ∧ Hid (∃ f, (SeenAt w wr w.heap.size f ∧ wr.heap[wa.heap.size]? = some (.cells #[.int .i64 a, .int .i64 r] 44 (0, 0))) ∧ ∀ b, b < 64 → f b = (decide (0 < before g i k b) || decide (a ≤ b ∧ b < j))))
          case atStart => exact ⟨a, rfl, Nat.le_refl _, rfl, Lib.hid ⟨_, HS2.out, fun b hb => by rw [HF1.out b hb, decide_eq_false (p := a ≤ b ∧ b < a) (by omega), Bool.or_false]⟩⟩
          case round =>
            obtain ⟨j, hj, haj, rfl, HR⟩ := hrel
            obtain ⟨f2, ⟨hs2, hb2⟩, hf2⟩ := HR.out
            have c0 := cell_of_row hb2 0
            have c1 := cell_of_row hb2 1
            simp only [gqA, gqZ, gqS] at c0 c1
            have hsum := IntWalk.i64_in ((a : Int) + r) (by omega)
            have HB2 := Lib.hid hb2
            clear HR
            by_cases hltj : j < a + r
            · obtain ⟨hbit, hbef⟩ := HA.out i k j a r hlt HX.out (by omega) (by omega)
              have hfj : f2 j = false := by rw [hf2 j (by omega), hbef]; simp
              have cs : wr.cell? ⟨w.heap.size, j, none⟩ = some (.bool false) := by rw [cell_of_row hs2.2, sv_get _ _ (by omega), hfj]
              have fs : wr.frozen? ⟨w.heap.size, j, none⟩ = false := free_of_row hs2.2 j
              have ebit := shift_clear v j HB.out hbit
              have hw3 := IntWalk.i64_in ((j : Int) + 1) (by omega)
              have hjn : j < n := by omega
              have hne : wa.heap.size ≠ w.heap.size := fun e => by
                rw [e] at hb2
                exact ne_types hb2 hs2.2 (by decide) rfl
              have HN : Hid (SeenAt w (wr.setCell ⟨w.heap.size, j, none⟩ (.bool true)) w.heap.size (fun b => if b = j then true else f2 b) ∧ (wr.setCell ⟨w.heap.size, j, none⟩ (.bool true)).heap[wa.heap.size]? = some (.cells #[.int .i64 a, .int .i64 r] 44 (0, 0))) := Lib.hid (by
                have kk : Kp [w.heap.size] wr (wr.setCell ⟨w.heap.size, j, none⟩ (.bool true)) := (Kp.refl _ _).setCell (.inl (by simp)) _
                refine ⟨⟨⟨hs2.1.os, hs2.1.tape, hs2.1.output, by have := hs2.1.size; simpa [World.setCell] using this, fun b hb hn => (kk.block b (Nat.lt_of_lt_of_le hb hs2.1.size) (by simp; omega)).trans (hs2.1.block b hb hn)⟩, ?_⟩, kk.row (by simpa using hne) hb2⟩
                rw [heap_setCell_same _ _ _ _ _ _ hs2.2, sv_set])
              have HF2 := Lib.hid hf2
              clear hs2 hb2 hf2 hbit hbef hne
              obtain ⟨G3, hG3⟩ : ∃ G, G + 1 = gk := ⟨gk - 1, by omega⟩
              have hj1 : j + (G3 + 1) = a + r := by omega
              have hgl3 : G3 + 1 ≤ gk := by omega
              clear hG3 hj
              go_wp2
              go_roundg G3
              all_goals first
                | omega
                | exact ⟨j + 1, by omega, by omega, rfl, Lib.hid ⟨_, HN.out, fun b hb => by
                    by_cases e : b = j
                    · rw [if_pos e, decide_eq_true (p := a ≤ b ∧ b < j + 1) (by omega), Bool.or_true]
                    · rw [if_neg e, HF2.out b hb]
                      congr 1
                      exact decide_eq_decide.2 (by omega)⟩⟩
            · obtain rfl : j = a + r := by omega
              have HN : Hid (SeenAt w wr w.heap.size f2 ∧ ∀ b, b < 64 → f2 b = decide (0 < before g i (k + 1) b)) := Lib.hid ⟨hs2, fun b hb => by
                rw [hf2 b hb, before_up HX.out]
                unfold cov
                by_cases e : a ≤ b ∧ b < a + r
                · rw [decide_eq_true e, Bool.or_true, if_pos (by omega)]
                  exact (decide_eq_true (by omega)).symm
                · rw [decide_eq_false e, Bool.or_false, if_neg (by omega), Nat.add_zero]⟩
              clear hs2 hf2
              go_wp2
              go_roundg G2
              all_goals first
                | omega
                | exact ⟨k + 1, by omega, rfl, Lib.hid ⟨_, HN.out⟩⟩
        · obtain rfl : k = L := by omega
          have HR2 : Hid (∃ f, SeenAt w wr w.heap.size f ∧ ∀ b, b < 64 → f b = decide (0 < before g (i + 1) 0 b)) := by
            obtain ⟨f, h1, h2⟩ := HR.out
            exact Lib.hid ⟨f, h1, fun b hb => by rw [h2 b hb, HLL.out, before_next]⟩
          have hc1 := HR.out
          obtain ⟨f, h1, -⟩ := hc1
          have hc1 := (World.cell?_of_block (h1.1.block _ (World.block_lt_of_cell? _ _ HC0.out) (by simp))).trans HC0.out
          clear h1 HR
          go_wp2
          go_roundg G1
          all_goals first
            | omega
            | exact ⟨i + 1, by omega, rfl, HR2⟩
    · obtain rfl : i = M := by omega
      obtain ⟨f, h1, -⟩ := HR.out
      have HK := Lib.hid h1.1
      clear h1 HR
      go_wp2
      go_ret
      exact ⟨rfl, HK.out⟩
end Go.Proofs.Ytnbaiinhalplcaa

namespace Go.Proofs.Ytnbaiinhalplcaa
set_option linter.unusedVariables false
set_option linter.unusedSimpArgs false
set_option maxRecDepth 100000
open Go.RowKit
open Go.Conc

def goX3 (f : Func) : Code := loopOf (blockOf (codeR (codeL (goR11 f))))
def goB3 (f : Func) : Code := blockOf (codeL (codeR (goX3 f)))
def goK3 (f : Func) : List Item := [.inLoop (goX3 f), .inBlock 4, .code (goR12 f)]
def goQ24 (f : Func) : Code := codeL (codeL (goR11 f))
def goQ25 (f : Func) : Code := codeL (goX3 f)
def goQ26 (f : Func) : Code := codeR (codeR (goX3 f))
def goQ27 (f : Func) : Code := codeL (goB3 f)
def goQ28 (f : Func) : Code := codeR (goB3 f)
def goQ29 (f : Func) : Code := codeL (goR12 f)
def goX4 (f : Func) : Code := loopOf (blockOf (codeR (codeL (goR13 f))))
def goB4 (f : Func) : Code := blockOf (codeL (codeR (goX4 f)))
def goK4 (f : Func) : List Item := [.inLoop (goX4 f), .inBlock 6, .code (goR14 f)]
def goQ30 (f : Func) : Code := codeL (codeL (goR13 f))
def goQ31 (f : Func) : Code := codeL (goX4 f)
def goQ32 (f : Func) : Code := codeR (codeR (goX4 f))
def goQ33 (f : Func) : Code := codeL (goB4 f)
def goQ34 (f : Func) : Code := codeR (goB4 f)

section
variable {x : Nat → Value} {wt : World} {Q : Exit → Act → World → Prop} {bd od n M cd K co pA rA bl bh i ba ca p : Nat} {bo : Option Addr} {va : Value} {en ov : Bool}
theorem go_q24 (hx2 : x 2 = .slice bo K co) (hx7 : x 7 = .int .i64 n) (hx9 : x 9 = .pointer (some ⟨pA, 0, none⟩)) (hx10 : x 10 = .pointer (some ⟨bl, 0, none⟩)) (hx12 : x 12 = .slice (some ⟨bh, 0, none⟩) M M) (hx13 : x 13 = va) (hx14 : x 14 = .bool true) 
    (hQ : ∀ a', FrN 219 [(2, .slice bo K co), (7, .int .i64 n), (9, .pointer (some ⟨pA, 0, none⟩)), (10, .pointer (some ⟨bl, 0, none⟩)), (12, .slice (some ⟨bh, 0, none⟩) M M), (13, va), (14, .bool true), (20, .int .i64 0)] a' → Q (.normal) a' wt) : (goQ24 Try.f3).wp Try.prog Q ⟨T219 x, []⟩ wt := by
  have HQ := Lib.hid hQ
  clear hQ
  simp only [goQ24, goX4, goB4, goX3, goB3, goX2, goB2, goR14, goR13, goR12, goR11, goR10, goR9, goR8, goR7, goR6, goR5, goR4, goR3, goR2, goR1, goR0, bodyOf, Try.f3, codeL, codeR, blockOf, loopOf, Option.getD_some, T219]
  simp only [hx2, hx7, hx9, hx10, hx12, hx13, hx14]
  go_wp2
  exact HQ.out _ ⟨rfl, rfl, ⟨rfl, rfl, rfl, rfl, rfl, rfl, rfl, rfl, trivial⟩⟩

theorem go_q25 (hx2 : x 2 = .slice bo K co) (hx7 : x 7 = .int .i64 n) (hx9 : x 9 = .pointer (some ⟨pA, 0, none⟩)) (hx10 : x 10 = .pointer (some ⟨bl, 0, none⟩)) (hx12 : x 12 = .slice (some ⟨bh, 0, none⟩) M M) (hx13 : x 13 = va) (hx14 : x 14 = .bool true) (hx20 : x 20 = .int .i64 i) (hi : i < K) (hK : K ≤ 200)
    (hQ : ∀ a', FrN 219 [(2, .slice bo K co), (7, .int .i64 n), (9, .pointer (some ⟨pA, 0, none⟩)), (10, .pointer (some ⟨bl, 0, none⟩)), (12, .slice (some ⟨bh, 0, none⟩) M M), (13, va), (14, .bool true), (20, .int .i64 i)] a' → Q (.normal) a' wt) : (goQ25 Try.f3).wp Try.prog Q ⟨T219 x, []⟩ wt := by
  have HQ := Lib.hid hQ
  clear hQ
  simp only [goQ25, goX4, goB4, goX3, goB3, goX2, goB2, goR14, goR13, goR12, goR11, goR10, goR9, goR8, goR7, goR6, goR5, goR4, goR3, goR2, goR1, goR0, bodyOf, Try.f3, codeL, codeR, blockOf, loopOf, Option.getD_some, T219]
  simp only [hx2, hx7, hx9, hx10, hx12, hx13, hx14, hx20]
  go_wp2
  exact HQ.out _ ⟨rfl, rfl, ⟨rfl, rfl, rfl, rfl, rfl, rfl, rfl, rfl, trivial⟩⟩

theorem go_q25_end (hx2 : x 2 = .slice bo K co) (hx7 : x 7 = .int .i64 n) (hx9 : x 9 = .pointer (some ⟨pA, 0, none⟩)) (hx10 : x 10 = .pointer (some ⟨bl, 0, none⟩)) (hx12 : x 12 = .slice (some ⟨bh, 0, none⟩) M M) (hx13 : x 13 = va) (hx14 : x 14 = .bool true) (hx20 : x 20 = .int .i64 i) (hi : i = K) (hK : K ≤ 200)
    (hQ : ∀ a', FrN 219 [(2, .slice bo K co), (7, .int .i64 n), (9, .pointer (some ⟨pA, 0, none⟩)), (10, .pointer (some ⟨bl, 0, none⟩)), (12, .slice (some ⟨bh, 0, none⟩) M M), (13, va), (14, .bool true)] a' → Q (.exit 4) a' wt) : (goQ25 Try.f3).wp Try.prog Q ⟨T219 x, []⟩ wt := by
  have HQ := Lib.hid hQ
  clear hQ
  simp only [goQ25, goX4, goB4, goX3, goB3, goX2, goB2, goR14, goR13, goR12, goR11, goR10, goR9, goR8, goR7, goR6, goR5, goR4, goR3, goR2, goR1, goR0, bodyOf, Try.f3, codeL, codeR, blockOf, loopOf, Option.getD_some, T219]
  simp only [hx2, hx7, hx9, hx10, hx12, hx13, hx14, hx20]
  go_wp2
  exact HQ.out _ ⟨rfl, rfl, ⟨rfl, rfl, rfl, rfl, rfl, rfl, rfl, trivial⟩⟩

theorem go_q26 (hx2 : x 2 = .slice bo K co) (hx7 : x 7 = .int .i64 n) (hx9 : x 9 = .pointer (some ⟨pA, 0, none⟩)) (hx10 : x 10 = .pointer (some ⟨bl, 0, none⟩)) (hx12 : x 12 = .slice (some ⟨bh, 0, none⟩) M M) (hx13 : x 13 = va) (hx14 : x 14 = .bool true) (hx20 : x 20 = .int .i64 i) (hi : i < K) (hK : K ≤ 200)
    (hQ : ∀ a', FrN 219 [(2, .slice bo K co), (7, .int .i64 n), (9, .pointer (some ⟨pA, 0, none⟩)), (10, .pointer (some ⟨bl, 0, none⟩)), (12, .slice (some ⟨bh, 0, none⟩) M M), (13, va), (14, .bool true), (20, .int .i64 ((i + 1 : Nat) : Int))] a' → Q (.normal) a' wt) : (goQ26 Try.f3).wp Try.prog Q ⟨T219 x, []⟩ wt := by
  have HQ := Lib.hid hQ
  clear hQ
  have hw := IntWalk.i64_in ((i : Int) + 1) (by omega)
  simp only [goQ26, goX4, goB4, goX3, goB3, goX2, goB2, goR14, goR13, goR12, goR11, goR10, goR9, goR8, goR7, goR6, goR5, goR4, goR3, goR2, goR1, goR0, bodyOf, Try.f3, codeL, codeR, blockOf, loopOf, Option.getD_some, T219]
  simp only [hx2, hx7, hx9, hx10, hx12, hx13, hx14, hx20]
  go_wp2
  exact HQ.out _ ⟨rfl, rfl, ⟨rfl, rfl, rfl, rfl, rfl, rfl, rfl, rfl, trivial⟩⟩

set_option maxHeartbeats 2000000 in
theorem go_q28 (hx2 : x 2 = .slice bo K co) (hx7 : x 7 = .int .i64 n) (hx9 : x 9 = .pointer (some ⟨pA, 0, none⟩)) (hx10 : x 10 = .pointer (some ⟨bl, 0, none⟩)) (hx12 : x 12 = .slice (some ⟨bh, 0, none⟩) M M) (hx13 : x 13 = va) (hx14 : x 14 = .bool true) (hx20 : x 20 = .int .i64 i) {v : Nat} {s : St} {vs : Nat → Value} {g : Hands} (har : Ar wt pA rA s) (hws : s.ws = wordsW n v) (ht : s.t ≤ 100000) (hH : HandsAt wt bh M vs g) (hap : ∀ b, handsOwn bh M vs b → b ≠ pA ∧ b ≠ rA) (hM5 : M ≤ 5) (hn : n ≤ 20) (hv : v < 2 ^ 64) (hlen : ∀ i, i < M → (g i).length ≤ 64) (hval : Valid n M g)
    (hcl : ∀ (i k j : Nat) (a r : Int), i < M → (g i)[k]? = some (a, r) → a ≤ (j : Int) → (j : Int) < a + r → v.testBit j = false ∧ before g i k j = 0)
    (hQ : ∀ a' w', FrN 219 [(2, .slice bo K co), (7, .int .i64 n), (9, .pointer (some ⟨pA, 0, none⟩)), (10, .pointer (some ⟨bl, 0, none⟩)), (12, .slice (some ⟨bh, 0, none⟩) M M), (13, va), (14, .bool true), (20, .int .i64 i)] a' → Ar w' pA rA (Go.Proofs.Ytnbaiinhalplcaa.upd s 0 (was s 0)) → Ks (fun b => b = pA ∨ b = rA) wt w' → Q .normal a' w') : (goQ28 Try.f3).wp Try.prog Q ⟨T219 x, []⟩ wt := by
  have HQ := Lib.hid hQ
  clear hQ
  have h0 : was s 0 = v := by
    have h : inB s 0 = true := inB_iff.2 ⟨by omega, by rw [hws, wordsW_len]; omega⟩
    rw [was_in h, hws]; rfl
  have HR := Lib.hid (read_any wt pA rA s 0 har (by rw [hws, wordsW_len]; omega) (by omega))
  have HP := Lib.hid (fun (w : World) (h : HandsAt w bh M vs g) => apart_true h (by omega) (by omega) hv hlen hval hcl)
  have HH := Lib.hid (fun (w : World) (k : Kp [pA, rA] wt w) => (priv_hands bh M vs g).st _ _ hH fun b hb => k.block b ((priv_hands bh M vs g).lt _ _ hH hb) (by have := hap b hb; simp; omega))
  rw [h0] at HR HQ
  clear har hH hap hval hcl hlen hws h0
  simp only [goQ28, goX4, goB4, goX3, goB3, goX2, goB2, goR14, goR13, goR12, goR11, goR10, goR9, goR8, goR7, goR6, goR5, goR4, goR3, goR2, goR1, goR0, bodyOf, Try.f3, codeL, codeR, blockOf, loopOf, Option.getD_some, T219]
  simp only [hx2, hx7, hx9, hx10, hx12, hx13, hx14, hx20]
  go_wp2_with fail
  refine HR.out.mono ?_
  rintro e w1 ⟨rfl, ha, hk⟩
  have HA := Lib.hid (And.intro ha hk)
  clear ha hk HR
  go_wp2_with fail
  refine (HP.out w1 (HH.out w1 HA.out.2)).mono ?_
  rintro e w2 ⟨rfl, hk⟩
  have HK := Lib.hid hk
  clear hk HP
  go_wp2
  exact HQ.out _ _ ⟨rfl, rfl, ⟨rfl, rfl, rfl, rfl, rfl, rfl, rfl, rfl, trivial⟩⟩ (HA.out.1.keep HK.out (by simp) (by simp)) ((ks_of_kp (HA.out.2.trans (HK.out.mono (by simp)))).mono fun _ _ z => by simpa using z)

theorem go_q29 (hx2 : x 2 = .slice bo K co) (hx7 : x 7 = .int .i64 n) (hx9 : x 9 = .pointer (some ⟨pA, 0, none⟩)) (hx10 : x 10 = .pointer (some ⟨bl, 0, none⟩)) (hx12 : x 12 = .slice (some ⟨bh, 0, none⟩) M M) (hx13 : x 13 = va) (hx14 : x 14 = .bool true) 
    (hQ : ∀ a', FrN 219 [(7, .int .i64 n), (9, .pointer (some ⟨pA, 0, none⟩)), (10, .pointer (some ⟨bl, 0, none⟩)), (12, .slice (some ⟨bh, 0, none⟩) M M), (13, va), (14, .bool true), (21, .bool true)] a' → Q (.normal) a' wt) : (goQ29 Try.f3).wp Try.prog Q ⟨T219 x, []⟩ wt := by
  have HQ := Lib.hid hQ
  clear hQ
  simp only [goQ29, goX4, goB4, goX3, goB3, goX2, goB2, goR14, goR13, goR12, goR11, goR10, goR9, goR8, goR7, goR6, goR5, goR4, goR3, goR2, goR1, goR0, bodyOf, Try.f3, codeL, codeR, blockOf, loopOf, Option.getD_some, T219]
  simp only [hx2, hx7, hx9, hx10, hx12, hx13, hx14]
  go_wp2
  exact HQ.out _ ⟨rfl, rfl, ⟨rfl, rfl, rfl, rfl, rfl, rfl, rfl, trivial⟩⟩

theorem go_q30 (hx7 : x 7 = .int .i64 n) (hx9 : x 9 = .pointer (some ⟨pA, 0, none⟩)) (hx10 : x 10 = .pointer (some ⟨bl, 0, none⟩)) (hx12 : x 12 = .slice (some ⟨bh, 0, none⟩) M M) (hx13 : x 13 = va) (hx14 : x 14 = .bool true) (hx21 : x 21 = .bool en) 
    (hQ : ∀ a', FrN 219 [(7, .int .i64 n), (9, .pointer (some ⟨pA, 0, none⟩)), (10, .pointer (some ⟨bl, 0, none⟩)), (12, .slice (some ⟨bh, 0, none⟩) M M), (13, va), (14, .bool true), (21, .bool en), (22, .int .i64 0)] a' → Q (.normal) a' wt) : (goQ30 Try.f3).wp Try.prog Q ⟨T219 x, []⟩ wt := by
  have HQ := Lib.hid hQ
  clear hQ
  simp only [goQ30, goX4, goB4, goX3, goB3, goX2, goB2, goR14, goR13, goR12, goR11, goR10, goR9, goR8, goR7, goR6, goR5, goR4, goR3, goR2, goR1, goR0, bodyOf, Try.f3, codeL, codeR, blockOf, loopOf, Option.getD_some, T219]
  simp only [hx7, hx9, hx10, hx12, hx13, hx14, hx21]
  go_wp2
  exact HQ.out _ ⟨rfl, rfl, ⟨rfl, rfl, rfl, rfl, rfl, rfl, rfl, rfl, trivial⟩⟩

theorem go_q31 (hx7 : x 7 = .int .i64 n) (hx9 : x 9 = .pointer (some ⟨pA, 0, none⟩)) (hx10 : x 10 = .pointer (some ⟨bl, 0, none⟩)) (hx12 : x 12 = .slice (some ⟨bh, 0, none⟩) M M) (hx13 : x 13 = .slice (some ⟨ba, 0, none⟩) M ca) (hx14 : x 14 = .bool true) (hx21 : x 21 = .bool en) (hx22 : x 22 = .int .i64 i) (hi : i < M) (hM5 : M ≤ 5)
    (hQ : ∀ a', FrN 219 [(7, .int .i64 n), (9, .pointer (some ⟨pA, 0, none⟩)), (10, .pointer (some ⟨bl, 0, none⟩)), (12, .slice (some ⟨bh, 0, none⟩) M M), (13, .slice (some ⟨ba, 0, none⟩) M ca), (14, .bool true), (21, .bool en), (22, .int .i64 i)] a' → Q (.normal) a' wt) : (goQ31 Try.f3).wp Try.prog Q ⟨T219 x, []⟩ wt := by
  have HQ := Lib.hid hQ
  clear hQ
  simp only [goQ31, goX4, goB4, goX3, goB3, goX2, goB2, goR14, goR13, goR12, goR11, goR10, goR9, goR8, goR7, goR6, goR5, goR4, goR3, goR2, goR1, goR0, bodyOf, Try.f3, codeL, codeR, blockOf, loopOf, Option.getD_some, T219]
  simp only [hx7, hx9, hx10, hx12, hx13, hx14, hx21, hx22]
  go_wp2
  exact HQ.out _ ⟨rfl, rfl, ⟨rfl, rfl, rfl, rfl, rfl, rfl, rfl, rfl, trivial⟩⟩

theorem go_q31_end (hx7 : x 7 = .int .i64 n) (hx9 : x 9 = .pointer (some ⟨pA, 0, none⟩)) (hx10 : x 10 = .pointer (some ⟨bl, 0, none⟩)) (hx12 : x 12 = .slice (some ⟨bh, 0, none⟩) M M) (hx13 : x 13 = .slice (some ⟨ba, 0, none⟩) M ca) (hx14 : x 14 = .bool true) (hx21 : x 21 = .bool en) (hx22 : x 22 = .int .i64 i) (hi : i = M) (hM5 : M ≤ 5)
    (hQ : ∀ a', FrN 219 [(7, .int .i64 n), (9, .pointer (some ⟨pA, 0, none⟩)), (10, .pointer (some ⟨bl, 0, none⟩)), (12, .slice (some ⟨bh, 0, none⟩) M M), (14, .bool true), (21, .bool en)] a' → Q (.exit 6) a' wt) : (goQ31 Try.f3).wp Try.prog Q ⟨T219 x, []⟩ wt := by
  have HQ := Lib.hid hQ
  clear hQ
  simp only [goQ31, goX4, goB4, goX3, goB3, goX2, goB2, goR14, goR13, goR12, goR11, goR10, goR9, goR8, goR7, goR6, goR5, goR4, goR3, goR2, goR1, goR0, bodyOf, Try.f3, codeL, codeR, blockOf, loopOf, Option.getD_some, T219]
  simp only [hx7, hx9, hx10, hx12, hx13, hx14, hx21, hx22]
  go_wp2
  exact HQ.out _ ⟨rfl, rfl, ⟨rfl, rfl, rfl, rfl, rfl, rfl, trivial⟩⟩

theorem go_q32 (hx7 : x 7 = .int .i64 n) (hx9 : x 9 = .pointer (some ⟨pA, 0, none⟩)) (hx10 : x 10 = .pointer (some ⟨bl, 0, none⟩)) (hx12 : x 12 = .slice (some ⟨bh, 0, none⟩) M M) (hx13 : x 13 = .slice (some ⟨ba, 0, none⟩) M ca) (hx14 : x 14 = .bool true) (hx21 : x 21 = .bool en) (hx22 : x 22 = .int .i64 i) (hi : i < M) (hM5 : M ≤ 5)
    (hQ : ∀ a', FrN 219 [(7, .int .i64 n), (9, .pointer (some ⟨pA, 0, none⟩)), (10, .pointer (some ⟨bl, 0, none⟩)), (12, .slice (some ⟨bh, 0, none⟩) M M), (13, .slice (some ⟨ba, 0, none⟩) M ca), (14, .bool true), (21, .bool en), (22, .int .i64 ((i + 1 : Nat) : Int))] a' → Q (.normal) a' wt) : (goQ32 Try.f3).wp Try.prog Q ⟨T219 x, []⟩ wt := by
  have HQ := Lib.hid hQ
  clear hQ
  have hw := IntWalk.i64_in ((i : Int) + 1) (by omega)
  simp only [goQ32, goX4, goB4, goX3, goB3, goX2, goB2, goR14, goR13, goR12, goR11, goR10, goR9, goR8, goR7, goR6, goR5, goR4, goR3, goR2, goR1, goR0, bodyOf, Try.f3, codeL, codeR, blockOf, loopOf, Option.getD_some, T219]
  simp only [hx7, hx9, hx10, hx12, hx13, hx14, hx21, hx22]
  go_wp2
  exact HQ.out _ ⟨rfl, rfl, ⟨rfl, rfl, rfl, rfl, rfl, rfl, rfl, rfl, trivial⟩⟩

set_option maxHeartbeats 1000000 in
theorem go_q33 (hx7 : x 7 = .int .i64 n) (hx9 : x 9 = .pointer (some ⟨pA, 0, none⟩)) (hx10 : x 10 = .pointer (some ⟨bl, 0, none⟩)) (hx12 : x 12 = .slice (some ⟨bh, 0, none⟩) M M) (hx13 : x 13 = .slice (some ⟨ba, 0, none⟩) M ca) (hx14 : x 14 = .bool true) (hx21 : x 21 = .bool en) (hx22 : x 22 = .int .i64 i) (hi : i < M) (hM5 : M ≤ 5) (hag : wt.cell? ⟨ba, i, none⟩ = some (.pointer (some ⟨p, 0, none⟩))) (hov : wt.cell? ⟨p, 6, none⟩ = some (.bool ov))
    (hQ : ∀ a', FrN 219 [(7, .int .i64 n), (9, .pointer (some ⟨pA, 0, none⟩)), (10, .pointer (some ⟨bl, 0, none⟩)), (12, .slice (some ⟨bh, 0, none⟩) M M), (13, .slice (some ⟨ba, 0, none⟩) M ca), (14, .bool true), (21, .bool (en && ov)), (22, .int .i64 i)] a' → Q (.normal) a' wt) : (goQ33 Try.f3).wp Try.prog Q ⟨T219 x, []⟩ wt := by
  have HQ := Lib.hid hQ
  clear hQ
  have HN := Lib.hid (done_at wt p ov hov)
  clear hov
  cases en with
  | false =>
    simp only [goQ33, goX4, goB4, goX3, goB3, goX2, goB2, goR14, goR13, goR12, goR11, goR10, goR9, goR8, goR7, goR6, goR5, goR4, goR3, goR2, goR1, goR0, bodyOf, Try.f3, codeL, codeR, blockOf, loopOf, Option.getD_some, T219]
    simp only [hx7, hx9, hx10, hx12, hx13, hx14, hx21, hx22]
    go_wp2
    exact HQ.out _ ⟨rfl, rfl, ⟨rfl, rfl, rfl, rfl, rfl, rfl, rfl, rfl, trivial⟩⟩
  | true =>
    simp only [goQ33, goX4, goB4, goX3, goB3, goX2, goB2, goR14, goR13, goR12, goR11, goR10, goR9, goR8, goR7, goR6, goR5, goR4, goR3, goR2, goR1, goR0, bodyOf, Try.f3, codeL, codeR, blockOf, loopOf, Option.getD_some, T219]
    simp only [hx7, hx9, hx10, hx12, hx13, hx14, hx21, hx22]
    go_wp2_with fail
    refine HN.out.mono ?_
    rintro e w9 ⟨rfl, rfl⟩
    go_wp2
    exact HQ.out _ ⟨rfl, rfl, ⟨rfl, rfl, rfl, rfl, rfl, rfl, rfl, rfl, trivial⟩⟩

end
end Go.Proofs.Ytnbaiinhalplcaa

namespace Go.Proofs.Ytnbaiinhalplcaa
open List renaming getElem_toArray → gtA, getElem_cons_zero → gtZ, getElem_cons_succ → gtS, setIfInBounds_toArray → siA, set_cons_succ → scS, set_cons_zero → scZ, getElem?_toArray → gqA, getElem?_cons_zero → gqZ, getElem?_cons_succ → gqS
set_option linter.unusedVariables false
set_option linter.unusedSimpArgs false
set_option maxRecDepth 100000
open Go.RowKit
open Go.Conc
open Go.ConcN (upd_ne upd_same)

theorem size_u8 : Try.t5.size = 1 := rfl
section
variable {W : World} {ρ : Operand → Value} {o : Oper}
theorem op_index_u8 (ba off i n cp : Nat) {x y : Nat} (hi : i < n) (ho : o.op = .indexAddr 23 (.tmp x) (.tmp y)) (hρ : ρ (.tmp x) = .slice (some ⟨ba, off, none⟩) n cp) (hρ' : ρ (.tmp y) = .int .i64 i) :
    (execOp ρ o).runT Try.prog W #[] = (.ok (.value (.pointer (some ⟨ba, off + i, none⟩))) W, #[]) := by
  have s48 := size_u8
  rw [Sem.runT_eq]
  simp [go_sem, execOp, ho, hρ, hρ', hi]
  try (first | done | (simp [Addr.add, s48]; done) | (simp [Addr.add, s48]; omega) | rfl)
end
/-- What stands between two turns. -/
structure GoT (Post : Value → World → Prop) (W : World) (pA rA bh bl M n : Nat) (ag : Nat → Ag) (T : Nat → Tree Hands) (va : Value) (pl : Nat → Option Place) (F : Nat → Option (Nat × Nat)) (col : Nat → Col) (w : World) (g : Hands) (s : St) : Prop where
  crew : Crew Post (gvSh W bh bl M 1 1 n) (gvSB W bh bl) pA rA (memV pA) 1 M ag T pl F col w g
  gs : GS n M T s.ws g
  ar : Ar w pA rA s
  all : Rw 35 1 W.heap.size w va M (ptrs ag M)
  allc : ∀ b ∈ blk va, col b = .main
  old : ∀ b, b < W.heap.size → ¬ poorlessW W b → col b = .main
  ks : Ks (fun _ => False) W w
theorem priv_arN (pA rA : Nat) (s : St) : Priv (fun b => b = pA ∨ b = rA) (fun w => Ar w pA rA s) := by
  refine ⟨fun w w' h hb => ⟨(hb _ (.inl rfl)).trans h.hp, (hb _ (.inr rfl)).trans h.hr⟩, fun w b h hb => ?_, fun w b h hb => ?_⟩
  · rcases hb with rfl | rfl
    · rw [h.hp]; rfl
    · rw [h.hr]; rfl
  · rcases hb with rfl | rfl
    · exact h.lt.1
    · exact h.lt.2
section
variable {Post : Value → World → Prop} {W : World} {pA rA bh bl M n k N : Nat} {ag : Nat → Ag} {T : Nat → Tree Hands} {va : Value} {pl : Nat → Option Place} {F : Nat → Option (Nat × Nat)} {col : Nat → Col} {w w' : World} {g : Hands} {s : St}
theorem GS.len {ws : List Int} (h : GS n M T ws g) : ws.length = 5 + 33 * n := by
  obtain ⟨v, fl, _, h, _⟩ := h
  rw [h, wordsW_len]
theorem GS.bnd (h : GS n M T s.ws g) : Bnd s := by
  obtain ⟨v, fl, hv, h, _⟩ := h
  intro x hx
  rw [h] at hx
  rcases List.mem_cons.1 hx with e | e
  · rw [e]; omega
  · rw [List.eq_of_mem_replicate e]; omega
theorem GoT.made (A : GoT Post W pA rA bh bl M n ag T va pl F col w g s) (D : Desk (gvSB W bh bl) pA rA pl F col w') (ks : Ks (fun _ => False) w w') : GoT Post W pA rA bh bl M n ag T va pl F col w' g s :=
  ⟨A.crew.keep D ks (fun _ _ z => z.elim) (sh_made A.crew.desk A.crew.sh ks fun _ z => z.elim), A.gs, ⟨ks.row (fun z => z) A.ar.hp, ks.row (fun z => z) A.ar.hr⟩, (priv_rw _ _ _ _ _ _).st _ _ A.all fun b hb => ks.block b ((priv_rw _ _ _ _ _ _).lt _ _ A.all hb) fun z => z, A.allc, A.old, A.ks.trans ks⟩
/-- Whether an agent is over. -/
theorem GoT.over (A : GoT Post W pA rA bh bl M n ag T va pl F col w g s) {i : Nat} (hi : i < M) : (T i = .ret → w.cell? ⟨(ag i).p, 6, none⟩ = some (.bool true)) ∧ (∀ kk φ c nx hl pre, T i = .node kk φ c nx hl pre → w.cell? ⟨(ag i).p, 6, none⟩ = some (.bool false)) := by
  have h := A.crew.st i hi
  refine ⟨fun e => ?_, fun kk φ c nx hl pre e => ?_⟩
  · rw [e] at h
    exact cell_of_row h.2 6
  · rw [e] at h
    obtain ⟨t, h1, _⟩ := h
    exact cell_of_row h1 6
theorem main_stepped {a : Ag} {b : Nat} (h : col b = .main) : ¬ stepped a col b := fun z => by
  unfold stepped at z
  rw [h] at z
  rcases z with z | z | z | z <;> cases z

/-- Behind a Step: what the law looks at. -/
theorem go_after {args : Array Value} {x : Nat → Value} {K co i : Nat} {bo : Option Addr} (A : GoT Post W pA rA bh bl M n ag T va pl F col w g s) (hx : HasN x [(2, .slice bo K co), (7, .int .i64 n), (9, .pointer (some ⟨pA, 0, none⟩)), (10, .pointer (some ⟨bl, 0, none⟩)), (12, .slice (some ⟨bh, 0, none⟩) M M), (13, va), (14, .bool true), (20, .int .i64 i)]) (hi : i < K) (hK : K ≤ 200) (hM5 : M ≤ 5) (hn : n ≤ 20) (ht : s.t ≤ 100000)
    (H : ∀ s' w' (x' : Nat → Value), GoT Post W pA rA bh bl M n ag T va pl F col w' g s' → s'.t ≤ s.t + 1 → HasN x' [(2, .slice bo K co), (7, .int .i64 n), (9, .pointer (some ⟨pA, 0, none⟩)), (10, .pointer (some ⟨bl, 0, none⟩)), (12, .slice (some ⟨bh, 0, none⟩) M M), (13, va), (14, .bool true), (20, .int .i64 ((i + 1 : Nat) : Int))] → Win Try.prog Post pl N 0 (gor ((Frame.enter Try.prog 3 args .normal).at ⟨T219 x', []⟩ (goK3 Try.f3)) []) w') :
    Win Try.prog Post pl N 0 (gor ((Frame.enter Try.prog 3 args .normal).at ⟨T219 x, []⟩ (.code (goQ28 Try.f3) :: .inBlock 5 :: .code (goQ26 Try.f3) :: goK3 Try.f3)) []) w := by
  obtain ⟨hx2, hx7, hx9, hx10, hx12, hx13, hx14, hx20, -⟩ := hx
  obtain ⟨v, fl, hv, hws, hW, hV, hP⟩ := A.gs
  have hsh := A.crew.sh
  obtain ⟨vs, r1, r2, r3⟩ := hsh.rows
  have hH : HandsAt w bh M vs g := ⟨r1, fun i hi => (r2 i hi).1⟩
  have hcol : ∀ b, handsOwn bh M vs b → col b = .shared := fun b hb => by
    rcases hb with rfl | ⟨i, hi, hb⟩
    · exact hsh.sb _ (.inl rfl)
    · exact ((r2 i hi).2 b hb).1
  have hL := A.crew.desk.lay
  have hap : ∀ b, handsOwn bh M vs b → b ≠ pA ∧ b ≠ rA := fun b hb => by
    have h := hcol b hb
    refine ⟨fun e => ?_, fun e => ?_⟩
    · rw [e, hL.ar.1] at h; cases h
    · rw [e, hL.ar.2] at h; cases h
  refine A.crew.desk.pieceN T219_shape (own := fun b => (b = pA ∨ b = rA) ∨ handsOwn bh M vs b) (S := fun b => b = pA ∨ b = rA) (A := fun w => Ar w pA rA s ∧ HandsAt w bh M vs g) ((priv_arN pA rA s).and (priv_hands bh M vs g)) ⟨A.ar, hH⟩ (fun b hb => by
      rcases hb with (rfl | rfl) | hb
      · rw [hL.ar.1]; rfl
      · rw [hL.ar.2]; rfl
      · rw [hcol b hb]; rfl) (ι := Unit) (own' := fun _ b => b = pA ∨ b = rA) (A' := fun _ w => Ar w pA rA (Go.Proofs.Ytnbaiinhalplcaa.upd s 0 (was s 0))) (fun _ => priv_arN _ _ _) (K' := fun _ => [(2, .slice bo K co), (7, .int .i64 n), (9, .pointer (some ⟨pA, 0, none⟩)), (10, .pointer (some ⟨bl, 0, none⟩)), (12, .slice (some ⟨bh, 0, none⟩) M M), (13, va), (14, .bool true), (20, .int .i64 i)]) (stok_at rfl rfl (by simp) (by kernel_rfl)) (fun wt Q h1 h2 h3 hQ => go_q28 hx2 hx7 hx9 hx10 hx12 hx13 hx14 hx20 h1.1 hws ht h1.2 hap hM5 hn hv (fun i hi => by have := hW.len hV hi; omega) hV (fun i k j a r hi hk h1 h2 => ?_) fun a' w' hf ha hk => hQ a' () w' (fun y hy => .inl (.inl hy)) hf ha hk) fun x1 _ w1 _ hx ha ks D1 => ?_
  · have hkl := (List.getElem?_eq_some_iff.1 hk).1
    have he : (g i)[k] = (a, r) := (List.getElem?_eq_some_iff.1 hk).2
    have := hW.apart hV hi hkl (j := j) (by rw [he]; exact h1) (by rw [he]; exact h2)
    exact ⟨this.2.1, by unfold before; omega⟩
  clear hx2 hx7 hx9 hx10 hx12 hx13 hx14 hx20
  obtain ⟨hx2, hx7, hx9, hx10, hx12, hx13, hx14, hx20, -⟩ := hx
  have hne : ∀ b, col b ≠ .arena → ¬ (b = pA ∨ b = rA) := fun b hb z => by
    rcases z with z | z
    · exact hb (z ▸ hL.ar.1)
    · exact hb (z ▸ hL.ar.2)
  have hup : (Go.Proofs.Ytnbaiinhalplcaa.upd s 0 (was s 0)).ws = s.ws := by
    have h : inB s 0 = true := inB_iff.2 ⟨by omega, by rw [hws, wordsW_len]; omega⟩
    rw [upd_in h, was_in h, hws]
    rfl
  have C1 := A.crew.keep D1 ks (fun b _ hb => by
    rcases hb with rfl | rfl
    · exact .inr (.inl hL.ar.1)
    · exact .inr (.inl hL.ar.2)) (sh_made A.crew.desk A.crew.sh ks fun b z hc => hne b (by rw [hc]; simp) z)
  have ksW : Ks (fun _ => False) W w1 := ksW A.ks ks C1.sh.inw fun b hb hp z => hne b (by rw [A.old b hb hp]; simp) z
  have A1 : GoT Post W pA rA bh bl M n ag T va pl F col w1 g (Go.Proofs.Ytnbaiinhalplcaa.upd s 0 (was s 0)) :=
    ⟨C1, by rw [hup]; exact A.gs, ha, (priv_rw _ _ _ _ _ _).st _ _ A.all fun b hb => ks.block b ((priv_rw _ _ _ _ _ _).lt _ _ A.all hb) (hne b (by rw [A.allc b hb]; simp)), A.allc, A.old, ksW⟩
  refine Win.inBlock ?_
  exact deskN_look T219_shape A1.crew.desk (stok_at rfl rfl (by simp) (by kernel_rfl)) (fun wt Q hcell hQ => go_q26 hx2 hx7 hx9 hx10 hx12 hx13 hx14 hx20 hi hK hQ) fun x2 w2 hx k2 D2 => H _ w2 x2 (A1.made D2 k2) (by have := upd_t s 0 (was s 0); omega) hx

set_option maxHeartbeats 4000000 in
/-- A TURN. -/
theorem go_turn {args : Array Value} {x : Nat → Value} {K co bO oo i : Nat} {d : Int} (A : GoT Post W pA rA bh bl M n ag T va pl F col w g s) (hx : HasN x [(2, .slice (some ⟨bO, oo, none⟩) K co), (7, .int .i64 n), (9, .pointer (some ⟨pA, 0, none⟩)), (10, .pointer (some ⟨bl, 0, none⟩)), (12, .slice (some ⟨bh, 0, none⟩) M M), (13, va), (14, .bool true), (20, .int .i64 i)]) (hi : i < K) (hK : K ≤ 200) (hM1 : 1 ≤ M) (hM5 : M ≤ 5) (hn : n ≤ 20) (hd : 0 ≤ d ∧ d ≤ 255) (hcl : w.cell? ⟨bO, oo + i, none⟩ = some (.int .u8 d)) (ht : s.t ≤ 3000)
    (H : ∀ T' g' s' pl' F' col' w' (x' : Nat → Value), GoT Post W pA rA bh bl M n ag T' va pl' F' col' w' g' s' → s'.t ≤ s.t + 2 → HasN x' [(2, .slice (some ⟨bO, oo, none⟩) K co), (7, .int .i64 n), (9, .pointer (some ⟨pA, 0, none⟩)), (10, .pointer (some ⟨bl, 0, none⟩)), (12, .slice (some ⟨bh, 0, none⟩) M M), (13, va), (14, .bool true), (20, .int .i64 ((i + 1 : Nat) : Int))] → Win Try.prog Post pl' N 0 (gor ((Frame.enter Try.prog 3 args .normal).at ⟨T219 x', []⟩ (goK3 Try.f3)) []) w') :
    Win Try.prog Post pl N 0 (gor ((Frame.enter Try.prog 3 args .normal).at ⟨T219 x, []⟩ (.code (goX3 Try.f3) :: goK3 Try.f3)) []) w := by
  have hb : (Frame.enter Try.prog 3 args .normal).kind = .normal := rfl
  have e25 : goX3 Try.f3 = .seq (goQ25 Try.f3) (.seq (.block 5 (goB3 Try.f3)) (goQ26 Try.f3)) := by kernel_rfl
  have e27 : goB3 Try.f3 = .seq (goQ27 Try.f3) (goQ28 Try.f3) := by kernel_rfl
  obtain ⟨ba, ca, hva, hca, hall⟩ := A.all.at hM1 (by decide)
  subst hva
  obtain ⟨hx2, hx7, hx9, hx10, hx12, hx13, hx14, hx20, -⟩ := hx
  rw [show (Item.code (goX3 Try.f3) :: goK3 Try.f3) = .code (.seq (goQ25 Try.f3) (.seq (.block 5 (goB3 Try.f3)) (goQ26 Try.f3))) :: goK3 Try.f3 by rw [← e25]]
  refine Win.seq ?_
  refine deskN_look T219_shape A.crew.desk (stok_at rfl rfl (by simp) (by kernel_rfl)) (fun wt Q hcell hQ => go_q25 hx2 hx7 hx9 hx10 hx12 hx13 hx14 hx20 hi hK hQ) fun x1 w1 hx k1 D1 => ?_
  have A1 := A.made D1 k1
  have hcl1 : w1.cell? ⟨bO, oo + i, none⟩ = some (.int .u8 d) := (World.cell?_of_block (k1.block _ (World.block_lt_of_cell? _ _ hcl) fun z => z)).trans hcl
  clear hx2 hx7 hx9 hx10 hx12 hx13 hx14 hx20
  obtain ⟨hx2, hx7, hx9, hx10, hx12, hx13, hx14, hx20, -⟩ := hx
  refine Win.seq ?_
  refine Win.block ?_
  rw [e27]
  refine Win.seq ?_
  have hm0 := Int.emod_nonneg d (show (M : Int) ≠ 0 by omega)
  have hm1 := Int.emod_lt_of_pos d (show (0 : Int) < M by omega)
  obtain ⟨kk, hkk⟩ : ∃ kk : Nat, (kk : Int) = d % M := ⟨(d % M).toNat, by omega⟩
  have hkM : kk < M := by omega
  have htm : d.tmod (M : Int) = (kk : Int) := by rw [Int.tmod_eq_emod_of_nonneg hd.1]; exact hkk.symm
  have e0 := IntWalk.i64_in d (by omega)
  have e1 := IntWalk.i64_in (kk : Int) (by omega)
  have hM0 : ¬ (M : Int) = 0 := by omega
  have hM0' : ¬ M = 0 := by omega
  have hag1 : w1.cell? ⟨ba, kk, none⟩ = some (.pointer (some ⟨(ag kk).p, 0, none⟩)) := by
    obtain ⟨_, _, h1, _, h2⟩ := A1.all.at (by omega) (by decide)
    cases h1
    rw [h2 kk (by omega)]; simp [ptrs, hkM]
  clear hm0 hm1 hkk
  generalize hC : goQ28 Try.f3 = C28
  generalize hK3 : goK3 Try.f3 = KK3
  generalize hQ26 : goQ26 Try.f3 = Q26
  simp only [goQ27, goX3, goB3, goX2, goB2, goR14, goR13, goR12, goR11, goR10, goR9, goR8, goR7, goR6, goR5, goR4, goR3, goR2, goR1, goR0, bodyOf, Try.f3, codeL, codeR, blockOf, loopOf, Option.getD_some, T219]
  simp only [hx2, hx7, hx9, hx10, hx12, hx13, hx14, hx20]
  refine Win.region ?_
  simp only [List.size_toArray, List.length_cons, List.length_nil, Nat.reduceAdd, List.range, List.range.loop]
  refine Win.pureOp (v := .slice (some ⟨ba, 0, none⟩) M ca) (.inl hb) rfl rfl (fun w => by rw [Sem.runT_eq]; simp [go_sem, execOp, Act.eval]; try (first | omega | rfl | exact ⟨rfl, rfl⟩ | kernel_rfl)) ?_
  simp only [Act.put, Act.eval, gqA, gqZ, gqS, Option.bind_some, gtA, gtZ, gtS, siA, scS, scZ]
  refine Win.pureOp (v := .slice (some ⟨bO, oo, none⟩) K co) (.inl hb) rfl rfl (fun w => by rw [Sem.runT_eq]; simp [go_sem, execOp, Act.eval]; try (first | omega | rfl | exact ⟨rfl, rfl⟩ | kernel_rfl)) ?_
  simp only [Act.put, Act.eval, gqA, gqZ, gqS, Option.bind_some, gtA, gtZ, gtS, siA, scS, scZ]
  refine Win.pureOp (v := .int .i64 i) (.inl hb) rfl rfl (fun w => by rw [Sem.runT_eq]; simp [go_sem, execOp, Act.eval]; try (first | omega | rfl | exact ⟨rfl, rfl⟩ | kernel_rfl)) ?_
  simp only [Act.put, Act.eval, gqA, gqZ, gqS, Option.bind_some, gtA, gtZ, gtS, siA, scS, scZ]
  refine Win.pureOp (v := .pointer (some ⟨bO, oo + i, none⟩)) (.inl hb) rfl rfl (fun w => op_index_u8 bO oo i K co hi rfl rfl rfl) ?_
  simp only [Act.put, Act.eval, gqA, gqZ, gqS, Option.bind_some, gtA, gtZ, gtS, siA, scS, scZ]
  refine Win.lookOp (v := .int .u8 d) (ad := ⟨bO, oo + i, none⟩) (x := .int .u8 d) (.inl hb) rfl rfl (hcl1) (fun w hc => by rw [Sem.runT_eq]; simp [go_sem, execOp, Act.eval, hc]) ?_
  simp only [Act.put, Act.eval, gqA, gqZ, gqS, Option.bind_some, gtA, gtZ, gtS, siA, scS, scZ]
  refine Win.pureOp (v := .int .i64 d) (.inl hb) rfl rfl (fun w => by rw [Sem.runT_eq]; simp [go_sem, execOp, Act.eval, e0]; try (first | omega | rfl | exact ⟨rfl, rfl⟩ | kernel_rfl)) ?_
  simp only [Act.put, Act.eval, gqA, gqZ, gqS, Option.bind_some, gtA, gtZ, gtS, siA, scS, scZ]
  refine Win.pureOp (v := .slice (some ⟨ba, 0, none⟩) M ca) (.inl hb) rfl rfl (fun w => by rw [Sem.runT_eq]; simp [go_sem, execOp, Act.eval]; try (first | omega | rfl | exact ⟨rfl, rfl⟩ | kernel_rfl)) ?_
  simp only [Act.put, Act.eval, gqA, gqZ, gqS, Option.bind_some, gtA, gtZ, gtS, siA, scS, scZ]
  refine Win.pureOp (v := .int .i64 M) (.inl hb) rfl rfl (fun w => by rw [Sem.runT_eq]; simp [go_sem, execOp, Act.eval]; try (first | omega | rfl | exact ⟨rfl, rfl⟩ | kernel_rfl)) ?_
  simp only [Act.put, Act.eval, gqA, gqZ, gqS, Option.bind_some, gtA, gtZ, gtS, siA, scS, scZ]
  refine Win.pureOp (v := .int .i64 kk) (.inl hb) rfl rfl (fun w => by rw [Sem.runT_eq]; simp [go_sem, execOp, Act.eval, htm, e1, hM0, hM0']; try (first | omega | rfl | exact ⟨rfl, rfl⟩ | kernel_rfl)) ?_
  simp only [Act.put, Act.eval, gqA, gqZ, gqS, Option.bind_some, gtA, gtZ, gtS, siA, scS, scZ]
  refine Win.pureOp (v := .pointer (some ⟨ba, kk, none⟩)) (.inl hb) rfl rfl (fun w => op_index_ag ba kk M ca hkM rfl rfl rfl) ?_
  simp only [Act.put, Act.eval, gqA, gqZ, gqS, Option.bind_some, gtA, gtZ, gtS, siA, scS, scZ]
  refine Win.lookOp (v := .pointer (some ⟨(ag kk).p, 0, none⟩)) (ad := ⟨ba, kk, none⟩) (x := .pointer (some ⟨(ag kk).p, 0, none⟩)) (.inl hb) rfl rfl (hag1) (fun w hc => by rw [Sem.runT_eq]; simp [go_sem, execOp, Act.eval, hc]) ?_
  simp only [Act.put, Act.eval, gqA, gqZ, gqS, Option.bind_some, gtA, gtZ, gtS, siA, scS, scZ]
  refine Win.enter (f := 12) (args := #[.pointer (some ⟨(ag kk).p, 0, none⟩)]) (.inl hb) rfl rfl (fun d => ⟨#[], call_enter mild.toMild Try.func12 rfl rfl rfl rfl _ _ (by simp [Act.eval]), fun e he => by simp at he⟩) ?_
  rcases A1.gs.step hkM hn with hT | ⟨kn, φ, c, nx, hl, pre, hT, hpre, hhl, hgs⟩
  · have h6 := (A1.over hkM).1 hT
    refine Win.calls mild D1.lies (stok_at rfl rfl (by simp) (by kernel_rfl)) (R := fun e w' => e = .returned (.int .i64 6) ∧ Ks (fun _ => False) (D1.lies.veil.world (fun _ _ => 0) 0 w1) w') (fun τ => (step_over _ (ag kk).p (by rw [veil_cell]; exact h6)).mono (by rintro e w' ⟨h1, h2⟩; exact ⟨h1, ks_twin0 h2.ks0⟩)) (fun e w' h => ⟨_, h.1⟩) ?_
    intro v' w4 τ Dd hok' hVOK hVK hR
    obtain ⟨hv, hku⟩ := hR
    obtain rfl : v' = .int .i64 6 := by simpa using hv
    have ks4 := ks_of_twin D1.lies hVOK hVK hku
    have D4 := D1.turned (D1.lies.keeps hVK hVOK) ks4.size
    have A4 := A1.made D4 ks4
    clear hv hku hok' hVOK hVK
    rw [Frame.finish_at]
    simp only [Act.put, Act.eval, gqA, gqZ, gqS, Option.bind_some, gtA, gtZ, gtS, siA, scS, scZ]
    refine Win.opsEnd ?_
    refine win_slotsN T219_shape (K := [(2, .slice (some ⟨bO, oo, none⟩) K co), (7, .int .i64 n), (9, .pointer (some ⟨pA, 0, none⟩)), (10, .pointer (some ⟨bl, 0, none⟩)), (12, .slice (some ⟨bh, 0, none⟩) M M), (13, .slice (some ⟨ba, 0, none⟩) M ca), (14, .bool true), (20, .int .i64 i)]) rfl ⟨rfl, rfl, rfl, rfl, rfl, rfl, rfl, rfl, trivial⟩ fun x5 hx => ?_
    subst hC hK3 hQ26
    exact go_after A4 hx hi hK hM5 hn (by omega) fun s' w' x' A' ht' hx' => H _ _ s' _ _ _ w' x' A' (by omega) hx'
  · refine A1.crew.steps (gv_shar W bh bl M 1 1 n) hkM hT hpre A1.ar (by rw [A1.gs.len]; omega) (by omega) A1.gs.bnd fun pl4 F4 col4 w4 C4 ar4 ks4 sm4 => ?_
    have hlt : ∀ b ∈ blk (.slice (some ⟨ba, 0, none⟩) M ca), b < w1.heap.size := fun b hb => (priv_rw _ _ _ _ _ _).lt _ _ A1.all hb
    have hW1 := A1.ks.size
    have A4 : GoT Post W pA rA bh bl M n ag (fun j => if j = kk then nx (was s kn) g else T j) (.slice (some ⟨ba, 0, none⟩) M ca) pl4 F4 col4 w4 (c (was s kn) g) (Go.Proofs.Ytnbaiinhalplcaa.upd s kn (φ (was s kn))) :=
      ⟨C4, hgs, ar4, (priv_rw _ _ _ _ _ _).st _ _ A1.all fun b hb => ks4.block b (hlt b hb) (main_stepped (A1.allc b hb)), fun b hb => (sm4.co b (hlt b hb)).trans (A1.allc b hb), fun b hb hp => (sm4.co b (by omega)).trans (A1.old b hb hp), ksW A1.ks ks4 C4.sh.inw fun b hb hp => main_stepped (A1.old b hb hp)⟩
    rw [Frame.finish_at]
    simp only [Act.put, Act.eval, gqA, gqZ, gqS, Option.bind_some, gtA, gtZ, gtS, siA, scS, scZ]
    refine Win.opsEnd ?_
    refine win_slotsN T219_shape (K := [(2, .slice (some ⟨bO, oo, none⟩) K co), (7, .int .i64 n), (9, .pointer (some ⟨pA, 0, none⟩)), (10, .pointer (some ⟨bl, 0, none⟩)), (12, .slice (some ⟨bh, 0, none⟩) M M), (13, .slice (some ⟨ba, 0, none⟩) M ca), (14, .bool true), (20, .int .i64 i)]) rfl ⟨rfl, rfl, rfl, rfl, rfl, rfl, rfl, rfl, trivial⟩ fun x5 hx => ?_
    subst hC hK3 hQ26
    have htu := upd_t s kn (φ (was s kn))
    exact go_after A4 hx hi hK hM5 hn (by omega) fun s' w' x' A' ht' hx' => H _ _ s' _ _ _ w' x' A' (by omega) hx'

/-- THE THIRD LOOP. -/
theorem go_loop3 {args : Array Value} {K co : Nat} {bo : Option Addr} (hK : K ≤ 200) (hM1 : 1 ≤ M) (hM5 : M ≤ 5) (hn : n ≤ 20) (hor : ∀ i, i < K → ∃ bO oo d, bo = some ⟨bO, oo, none⟩ ∧ W.cell? ⟨bO, oo + i, none⟩ = some (.int .u8 d) ∧ 0 ≤ d ∧ d ≤ 255)
    (H : ∀ T pl F col w g s (x : Nat → Value), GoT Post W pA rA bh bl M n ag T va pl F col w g s → s.t ≤ 2000 → HasN x [(2, .slice bo K co), (7, .int .i64 n), (9, .pointer (some ⟨pA, 0, none⟩)), (10, .pointer (some ⟨bl, 0, none⟩)), (12, .slice (some ⟨bh, 0, none⟩) M M), (13, va), (14, .bool true)] → Win Try.prog Post pl N 0 (gor ((Frame.enter Try.prog 3 args .normal).at ⟨T219 x, []⟩ [.code (goR12 Try.f3)]) []) w) :
    ∀ e i, i + e = K → ∀ T pl F col w g s (x : Nat → Value), GoT Post W pA rA bh bl M n ag T va pl F col w g s → s.t ≤ 1 + 2 * i → HasN x [(2, .slice bo K co), (7, .int .i64 n), (9, .pointer (some ⟨pA, 0, none⟩)), (10, .pointer (some ⟨bl, 0, none⟩)), (12, .slice (some ⟨bh, 0, none⟩) M M), (13, va), (14, .bool true), (20, .int .i64 i)] →
      Win Try.prog Post pl N 0 (gor ((Frame.enter Try.prog 3 args .normal).at ⟨T219 x, []⟩ (.code (goX3 Try.f3) :: goK3 Try.f3)) []) w := by
  intro e
  induction e with
  | zero =>
    intro i hi T pl F col w g s x A ht hx
    obtain rfl : i = K := by omega
    have e25 : goX3 Try.f3 = .seq (goQ25 Try.f3) (.seq (.block 5 (goB3 Try.f3)) (goQ26 Try.f3)) := by kernel_rfl
    obtain ⟨hx2, hx7, hx9, hx10, hx12, hx13, hx14, hx20, -⟩ := hx
    rw [show (Item.code (goX3 Try.f3) :: goK3 Try.f3) = .code (.seq (goQ25 Try.f3) (.seq (.block 5 (goB3 Try.f3)) (goQ26 Try.f3))) :: goK3 Try.f3 by rw [← e25]]
    refine Win.seq ?_
    have he : ∀ X : Code, exitTo 4 (.code X :: goK3 Try.f3) = some [.code (goR12 Try.f3)] := fun X => rfl
    refine deskN_exit T219_shape A.crew.desk (he _) (stok_at rfl rfl (by simp) (by kernel_rfl)) (fun wt Q hQ => go_q25_end hx2 hx7 hx9 hx10 hx12 hx13 hx14 hx20 rfl hK hQ) fun x1 w1 hx k1 D1 => ?_
    exact H T pl F col w1 g s x1 (A.made D1 k1) (by omega) hx
  | succ e ih =>
    intro i hi T pl F col w g s x A ht hx
    obtain ⟨bO, oo, d, hbo, hcl, hd⟩ := hor i (by omega)
    subst hbo
    have hcl' : w.cell? ⟨bO, oo + i, none⟩ = some (.int .u8 d) := (World.cell?_of_block (A.ks.block _ (World.block_lt_of_cell? _ _ hcl) fun z => z)).trans hcl
    refine go_turn A hx (by omega) hK hM1 hM5 hn hd hcl' (by omega) fun T' g' s' pl' F' col' w' x' A' ht' hx' => ?_
    exact Win.inLoop (ih (i + 1) (by omega) T' pl' F' col' w' g' s' x' A' (by omega) hx')
end
end Go.Proofs.Ytnbaiinhalplcaa

namespace Go.Proofs.Ytnbaiinhalplcaa
open List renaming getElem_toArray → gtA, getElem_cons_zero → gtZ, getElem_cons_succ → gtS, setIfInBounds_toArray → siA, set_cons_succ → scS, set_cons_zero → scZ, getElem?_toArray → gqA, getElem?_cons_zero → gqZ, getElem?_cons_succ → gqS
set_option linter.unusedVariables false
set_option linter.unusedSimpArgs false
set_option maxRecDepth 100000
open Go.RowKit
open Go.Conc
open Go.ConcN (upd_ne upd_same)

/-- What stands while all are stopped. -/
structure GoS (Post : Value → World → Prop) (W : World) (pA rA bh bl M n : Nat) (ag : Nat → Ag) (T : Nat → Tree Hands) (va : Value) (pl : Nat → Option Place) (F : Nat → Option (Nat × Nat)) (col : Nat → Col) (w : World) (g : Hands) (s : St) : Prop where
  crew : Crew Post (gvSh W bh bl M 1 1 n) (gvSB W bh bl) pA rA (memV pA) 1 M ag T pl F col w g
  ar : Ar w pA rA s
  all : Rw 35 1 W.heap.size w va M (ptrs ag M)
  allc : ∀ b ∈ blk va, col b = .main
  old : ∀ b, b < W.heap.size → ¬ poorlessW W b → col b = .main
  ks : Ks (fun _ => False) W w
section
variable {Post : Value → World → Prop} {W : World} {pA rA bh bl M n k N : Nat} {ag : Nat → Ag} {T T0 : Nat → Tree Hands} {va : Value} {pl : Nat → Option Place} {F : Nat → Option (Nat × Nat)} {col : Nat → Col} {w w' : World} {g : Hands} {s : St}
theorem GoT.stops (A : GoT Post W pA rA bh bl M n ag T va pl F col w g s) : GoS Post W pA rA bh bl M n ag T va pl F col w g s := ⟨A.crew, A.ar, A.all, A.allc, A.old, A.ks⟩
theorem GoS.made (A : GoS Post W pA rA bh bl M n ag T va pl F col w g s) (D : Desk (gvSB W bh bl) pA rA pl F col w') (ks : Ks (fun _ => False) w w') : GoS Post W pA rA bh bl M n ag T va pl F col w' g s :=
  ⟨A.crew.keep D ks (fun _ _ z => z.elim) (sh_made A.crew.desk A.crew.sh ks fun _ z => z.elim), ⟨ks.row (fun z => z) A.ar.hp, ks.row (fun z => z) A.ar.hr⟩, (priv_rw _ _ _ _ _ _).st _ _ A.all fun b hb => ks.block b ((priv_rw _ _ _ _ _ _).lt _ _ A.all hb) fun z => z, A.allc, A.old, A.ks.trans ks⟩
/-- Where an agent stands, as the law asks it. -/
def Fit (T : Tree Hands) (g : Hands) : Prop := T = .ret ∨ ∃ kk φ c nx hl pre, T = .node kk φ c nx hl pre ∧ pre g ∧ ∀ g, hl g = g
theorem GS.fit {ws : List Int} (h : GS n M T ws g) (hn : n ≤ 20) {i : Nat} (hi : i < M) : Fit (T i) g := by
  obtain ⟨v, fl, hv, hws, hW, hV, hP⟩ := h
  rcases GS.step (s := ⟨wordsW n v, 0, 0⟩) (⟨v, fl, hv, rfl, hW, hV, hP⟩ : GS n M T (⟨wordsW n v, 0, 0⟩ : St).ws g) hi hn with h | ⟨kk, φ, c, nx, hl, pre, h1, h2, h3, _⟩
  · exact .inl h
  · exact .inr ⟨kk, φ, c, nx, hl, pre, h1, h2, h3⟩
/-- A Stop, whatever the agent is. -/
theorem go_stop {i : Nat} (A : GoS Post W pA rA bh bl M n ag T va pl F col w g s) (hi : i < M) (hT : Fit (T i) g) {c₀ : Frame} {cs : List Frame} (hok : StOK Try.prog c₀ [])
    (H : ∀ pl' F' col' w', GoS Post W pA rA bh bl M n ag (fun j => if j = i then .ret else T j) va pl' F' col' w' g s → Win Try.prog Post pl' N 0 (gor (c₀.finish (.tuple #[])) cs) w') :
    Win Try.prog Post pl N 0 (gor (Frame.enter Try.prog 16 #[.pointer (some ⟨(ag i).p, 0, none⟩)] .normal) (c₀ :: cs)) w := by
  rcases hT with hT | ⟨kk, φ, c, nx, hl, pre, hT, hpre, hhl⟩
  · have hst := A.crew.st i hi
    rw [hT] at hst
    obtain ⟨hpk, hSk⟩ := hst
    have D := A.crew.desk
    refine Win.calls mild D.lies hok (R := fun e w' => e = .returned (.tuple #[]) ∧ Ks (fun _ => False) (D.lies.veil.world (fun _ _ => 0) 0 w) w') (fun τ => (stop_over _ (ag i).p (by rw [veil_cell]; exact cell_of_row hSk 6)).mono (by rintro e w' ⟨h1, rfl⟩; exact ⟨h1, ks_twin0 (Ks.refl _ _)⟩)) (fun e w' h => ⟨_, h.1⟩) ?_
    intro v' w2 τ Dd hok' hVOK hVK hR
    obtain ⟨hv, hku⟩ := hR
    obtain rfl : v' = .tuple #[] := by simpa using hv
    have ks2 := ks_of_twin D.lies hVOK hVK hku
    have A2 := A.made (D.turned (D.lies.keeps hVK hVOK) ks2.size) ks2
    have e : T = fun j => if j = i then .ret else T j := by
      funext j
      by_cases e : j = i
      · subst e; simp only [if_true]; exact hT
      · simp [e]
    refine H pl F col w2 ?_
    rw [← e]
    exact A2
  · refine A.crew.stops (gv_shar W bh bl M 1 1 n) hi hT hpre fun pl' F' col' w' C' ks sm => H pl' F' col' w' ?_
    rw [hhl] at C'
    have hnm : ∀ b, col b = .main ∨ col b = .arena → ¬ (col b = .ag (ag i).j ∨ col b = .sys (ag i).j ∨ col b = .shared) := fun b hb z => by rcases hb with hb | hb <;> rw [hb] at z <;> rcases z with z | z | z <;> cases z
    have hlva : ∀ b ∈ blk va, b < w.heap.size := fun b hb => (priv_rw _ _ _ _ _ _).lt _ _ A.all hb
    have hzW := A.ks.size
    have hL := A.crew.desk.lay
    exact ⟨C', ⟨ks.row (hnm _ (.inr hL.ar.1)) A.ar.hp, ks.row (hnm _ (.inr hL.ar.2)) A.ar.hr⟩, (priv_rw _ _ _ _ _ _).st _ _ A.all fun b hb => ks.block b (hlva b hb) (hnm b (.inl (A.allc b hb))), fun b hb => (sm.co b (hlva b hb)).trans (A.allc b hb), fun b hb hp => (sm.co b (by omega)).trans (A.old b hb hp), ksW A.ks ks C'.sh.inw fun b hb hp => hnm b (.inl (A.old b hb hp))⟩

set_option maxHeartbeats 4000000 in
/-- A round of the fourth loop. -/
theorem go_body4 {args : Array Value} {x : Nat → Value} {ba ca i : Nat} {en : Bool} (A : GoS Post W pA rA bh bl M n ag T (.slice (some ⟨ba, 0, none⟩) M ca) pl F col w g s) (hx : HasN x [(7, .int .i64 n), (9, .pointer (some ⟨pA, 0, none⟩)), (10, .pointer (some ⟨bl, 0, none⟩)), (12, .slice (some ⟨bh, 0, none⟩) M M), (13, .slice (some ⟨ba, 0, none⟩) M ca), (14, .bool true), (21, .bool en), (22, .int .i64 i)]) (hi : i < M) (hM5 : M ≤ 5) (hT : Fit (T i) g)
    (H : ∀ en' pl' F' col' w' (x' : Nat → Value), GoS Post W pA rA bh bl M n ag (fun j => if j = i then .ret else T j) (.slice (some ⟨ba, 0, none⟩) M ca) pl' F' col' w' g s → (en' = true → en = true ∧ T i = .ret) → HasN x' [(7, .int .i64 n), (9, .pointer (some ⟨pA, 0, none⟩)), (10, .pointer (some ⟨bl, 0, none⟩)), (12, .slice (some ⟨bh, 0, none⟩) M M), (13, .slice (some ⟨ba, 0, none⟩) M ca), (14, .bool true), (21, .bool en'), (22, .int .i64 ((i + 1 : Nat) : Int))] → Win Try.prog Post pl' N 0 (gor ((Frame.enter Try.prog 3 args .normal).at ⟨T219 x', []⟩ (goK4 Try.f3)) []) w') :
    Win Try.prog Post pl N 0 (gor ((Frame.enter Try.prog 3 args .normal).at ⟨T219 x, []⟩ (.code (goX4 Try.f3) :: goK4 Try.f3)) []) w := by
  have hb : (Frame.enter Try.prog 3 args .normal).kind = .normal := rfl
  have e31 : goX4 Try.f3 = .seq (goQ31 Try.f3) (.seq (.block 7 (goB4 Try.f3)) (goQ32 Try.f3)) := by kernel_rfl
  have e33 : goB4 Try.f3 = .seq (goQ33 Try.f3) (goQ34 Try.f3) := by kernel_rfl
  have hag : ∀ {T' : Nat → Tree Hands} {pl' : Nat → Option Place} {F' : Nat → Option (Nat × Nat)} {col' : Nat → Col} {w' : World}, GoS Post W pA rA bh bl M n ag T' (.slice (some ⟨ba, 0, none⟩) M ca) pl' F' col' w' g s → w'.cell? ⟨ba, i, none⟩ = some (.pointer (some ⟨(ag i).p, 0, none⟩)) := fun A' => by
    obtain ⟨_, _, h1, _, h2⟩ := A'.all.at (by omega) (by decide)
    cases h1
    rw [h2 i (by omega)]; simp [ptrs, hi]
  obtain ⟨ov, hov, hovT⟩ : ∃ ov, w.cell? ⟨(ag i).p, 6, none⟩ = some (.bool ov) ∧ (ov = true → T i = .ret) := by
    have h := A.crew.st i hi
    rcases hT with hT | ⟨kk, φ, c, nx, hl, pre, hT, _⟩
    · rw [hT] at h
      exact ⟨true, cell_of_row h.2 6, fun _ => hT⟩
    · rw [hT] at h
      obtain ⟨t, h1, _⟩ := h
      exact ⟨false, cell_of_row h1 6, fun z => by cases z⟩
  obtain ⟨hx7, hx9, hx10, hx12, hx13, hx14, hx21, hx22, -⟩ := hx
  rw [show (Item.code (goX4 Try.f3) :: goK4 Try.f3) = .code (.seq (goQ31 Try.f3) (.seq (.block 7 (goB4 Try.f3)) (goQ32 Try.f3))) :: goK4 Try.f3 by rw [← e31]]
  refine Win.seq ?_
  refine deskN_look T219_shape A.crew.desk (stok_at rfl rfl (by simp) (by kernel_rfl)) (fun wt Q hcell hQ => go_q31 hx7 hx9 hx10 hx12 hx13 hx14 hx21 hx22 hi hM5 hQ) fun x1 w1 hx k1 D1 => ?_
  have A1 := A.made D1 k1
  have hov1 : w1.cell? ⟨(ag i).p, 6, none⟩ = some (.bool ov) := (World.cell?_of_block (k1.block _ (World.block_lt_of_cell? _ _ hov) fun z => z)).trans hov
  clear hx7 hx9 hx10 hx12 hx13 hx14 hx21 hx22
  obtain ⟨hx7, hx9, hx10, hx12, hx13, hx14, hx21, hx22, -⟩ := hx
  refine Win.seq ?_
  refine Win.block ?_
  rw [e33]
  refine Win.seq ?_
  refine deskN_look T219_shape A1.crew.desk (stok_at rfl rfl (by simp) (by kernel_rfl)) (fun wt Q hcell hQ => go_q33 hx7 hx9 hx10 hx12 hx13 hx14 hx21 hx22 hi hM5 ((hcell _).trans (hag A1)) ((hcell _).trans hov1) hQ) fun x2 w2 hx k2 D2 => ?_
  have A2 := A1.made D2 k2
  clear hx7 hx9 hx10 hx12 hx13 hx14 hx21 hx22
  obtain ⟨hx7, hx9, hx10, hx12, hx13, hx14, hx21, hx22, -⟩ := hx
  generalize hK4 : goK4 Try.f3 = KK4
  generalize hQ32 : goQ32 Try.f3 = Q32
  simp only [goQ34, goX4, goB4, goX3, goB3, goX2, goB2, goR14, goR13, goR12, goR11, goR10, goR9, goR8, goR7, goR6, goR5, goR4, goR3, goR2, goR1, goR0, bodyOf, Try.f3, codeL, codeR, blockOf, loopOf, Option.getD_some, T219]
  simp only [hx7, hx9, hx10, hx12, hx13, hx14, hx21, hx22]
  refine Win.region ?_
  simp only [List.size_toArray, List.length_cons, List.length_nil, Nat.reduceAdd, List.range, List.range.loop]
  refine Win.pureOp (v := .slice (some ⟨ba, 0, none⟩) M ca) (.inl hb) rfl rfl (fun w => by rw [Sem.runT_eq]; simp [go_sem, execOp, Act.eval]; try (first | omega | rfl | exact ⟨rfl, rfl⟩ | kernel_rfl)) ?_
  simp only [Act.put, Act.eval, gqA, gqZ, gqS, Option.bind_some, gtA, gtZ, gtS, siA, scS, scZ]
  refine Win.pureOp (v := .int .i64 i) (.inl hb) rfl rfl (fun w => by rw [Sem.runT_eq]; simp [go_sem, execOp, Act.eval]; try (first | omega | rfl | exact ⟨rfl, rfl⟩ | kernel_rfl)) ?_
  simp only [Act.put, Act.eval, gqA, gqZ, gqS, Option.bind_some, gtA, gtZ, gtS, siA, scS, scZ]
  refine Win.pureOp (v := .pointer (some ⟨ba, i, none⟩)) (.inl hb) rfl rfl (fun w => op_index_ag ba i M ca hi rfl rfl rfl) ?_
  simp only [Act.put, Act.eval, gqA, gqZ, gqS, Option.bind_some, gtA, gtZ, gtS, siA, scS, scZ]
  refine Win.lookOp (v := .pointer (some ⟨(ag i).p, 0, none⟩)) (ad := ⟨ba, i, none⟩) (x := .pointer (some ⟨(ag i).p, 0, none⟩)) (.inl hb) rfl rfl (hag A2) (fun w hc => by rw [Sem.runT_eq]; simp [go_sem, execOp, Act.eval, hc]) ?_
  simp only [Act.put, Act.eval, gqA, gqZ, gqS, Option.bind_some, gtA, gtZ, gtS, siA, scS, scZ]
  refine Win.enter (f := 16) (args := #[.pointer (some ⟨(ag i).p, 0, none⟩)]) (.inl hb) rfl rfl (fun d => ⟨#[], call_enter mild.toMild Try.func16 rfl rfl rfl rfl _ _ (by simp [Act.eval]), fun e he => by simp at he⟩) ?_
  refine go_stop A2 hi hT (stok_at rfl rfl (by simp) (by kernel_rfl)) fun pl3 F3 col3 w3 A3 => ?_
  rw [Frame.finish_at]
  simp only [Act.put, Act.eval, gqA, gqZ, gqS, Option.bind_some, gtA, gtZ, gtS, siA, scS, scZ]
  refine Win.opsEnd ?_
  refine win_slotsN T219_shape (K := [(7, .int .i64 n), (9, .pointer (some ⟨pA, 0, none⟩)), (10, .pointer (some ⟨bl, 0, none⟩)), (12, .slice (some ⟨bh, 0, none⟩) M M), (13, .slice (some ⟨ba, 0, none⟩) M ca), (14, .bool true), (21, .bool (en && ov)), (22, .int .i64 i)]) rfl ⟨rfl, rfl, rfl, rfl, rfl, rfl, rfl, rfl, trivial⟩ fun x5 hx => ?_
  subst hK4 hQ32
  clear hx7 hx9 hx10 hx12 hx13 hx14 hx21 hx22
  obtain ⟨hx7, hx9, hx10, hx12, hx13, hx14, hx21, hx22, -⟩ := hx
  refine Win.inBlock ?_
  exact deskN_look T219_shape A3.crew.desk (stok_at rfl rfl (by simp) (by kernel_rfl)) (fun wt Q hcell hQ => go_q32 (en := en && ov) hx7 hx9 hx10 hx12 hx13 hx14 hx21 hx22 hi hM5 hQ) fun x6 w6 hx k6 D6 => H (en && ov) pl3 F3 col3 w6 x6 (A3.made D6 k6) (fun z => by
    rw [Bool.and_eq_true] at z
    exact ⟨z.1, hovT z.2⟩) hx

/-- THE FOURTH LOOP. -/
theorem go_loop4 {args : Array Value} (hM1 : 1 ≤ M) (hM5 : M ≤ 5) (hT0 : ∀ j, j < M → Fit (T0 j) g)
    (H : ∀ en pl F col w (x : Nat → Value), GoS Post W pA rA bh bl M n ag (fun _ => .ret) va pl F col w g s → (en = true → ∀ j, j < M → T0 j = .ret) → HasN x [(7, .int .i64 n), (9, .pointer (some ⟨pA, 0, none⟩)), (10, .pointer (some ⟨bl, 0, none⟩)), (12, .slice (some ⟨bh, 0, none⟩) M M), (14, .bool true), (21, .bool en)] → Win Try.prog Post pl N 0 (gor ((Frame.enter Try.prog 3 args .normal).at ⟨T219 x, []⟩ [.code (goR14 Try.f3)]) []) w) :
    ∀ e i, i + e = M → ∀ en T pl F col w (x : Nat → Value), GoS Post W pA rA bh bl M n ag T va pl F col w g s → (∀ j, j < M → T j = if j < i then .ret else T0 j) → (en = true → ∀ j, j < i → T0 j = .ret) → HasN x [(7, .int .i64 n), (9, .pointer (some ⟨pA, 0, none⟩)), (10, .pointer (some ⟨bl, 0, none⟩)), (12, .slice (some ⟨bh, 0, none⟩) M M), (13, va), (14, .bool true), (21, .bool en), (22, .int .i64 i)] →
      Win Try.prog Post pl N 0 (gor ((Frame.enter Try.prog 3 args .normal).at ⟨T219 x, []⟩ (.code (goX4 Try.f3) :: goK4 Try.f3)) []) w := by
  intro e
  induction e with
  | zero =>
    intro i hi en T pl F col w x A hT h0 hx
    obtain rfl : i = M := by omega
    have e31 : goX4 Try.f3 = .seq (goQ31 Try.f3) (.seq (.block 7 (goB4 Try.f3)) (goQ32 Try.f3)) := by kernel_rfl
    obtain ⟨ba, ca, hva, hca, _⟩ := A.all.at hM1 (by decide)
    subst hva
    obtain ⟨hx7, hx9, hx10, hx12, hx13, hx14, hx21, hx22, -⟩ := hx
    rw [show (Item.code (goX4 Try.f3) :: goK4 Try.f3) = .code (.seq (goQ31 Try.f3) (.seq (.block 7 (goB4 Try.f3)) (goQ32 Try.f3))) :: goK4 Try.f3 by rw [← e31]]
    refine Win.seq ?_
    have he : ∀ X : Code, exitTo 6 (.code X :: goK4 Try.f3) = some [.code (goR14 Try.f3)] := fun X => rfl
    refine deskN_exit T219_shape A.crew.desk (he _) (stok_at rfl rfl (by simp) (by kernel_rfl)) (fun wt Q hQ => go_q31_end hx7 hx9 hx10 hx12 hx13 hx14 hx21 hx22 rfl hM5 hQ) fun x1 w1 hx k1 D1 => ?_
    have A1 := A.made D1 k1
    have hst : ∀ j, j < i → Stands Post (gvSh W bh bl i 1 1 n) (gvSB W bh bl) pA rA (ag j) (memV pA) (.ret : Tree Hands) pl F col w1 := fun j hj => by
      have := A1.crew.st j hj
      rw [hT j hj, if_pos hj] at this
      exact this
    exact H en pl F col w1 x1 { A1 with crew := { A1.crew with st := hst } } h0 hx
  | succ e ih =>
    intro i hi en T pl F col w x A hT h0 hx
    obtain ⟨ba, ca, hva, hca, _⟩ := A.all.at hM1 (by decide)
    subst hva
    have hTi : T i = T0 i := by rw [hT i (by omega), if_neg (by omega)]
    refine go_body4 A hx (by omega) hM5 (by rw [hTi]; exact hT0 i (by omega)) fun en' pl' F' col' w' x' A' hen hx' => ?_
    refine Win.inLoop (ih (i + 1) (by omega) en' _ pl' F' col' w' x' A' (fun j hj => ?_) (fun z j hj => ?_) hx')
    · by_cases e : j = i
      · subst e; simp
      · rw [if_neg e, hT j hj]
        by_cases e2 : j < i
        · rw [if_pos e2, if_pos (by omega)]
        · rw [if_neg e2, if_neg (by omega)]
    · obtain ⟨h1, h2⟩ := hen z
      by_cases e : j = i
      · subst e; rw [← hTi]; exact h2
      · exact h0 h1 j (by omega)
end
end Go.Proofs.Ytnbaiinhalplcaa
