/- Law 14: its end, alone: what is taken, what is free, an entry, the wake. Written by gen/go_k.py. Law 14: the walk as a whole. Written by gen/go_l.py. Two closed facts on the program, that each law's frame names. Conditions: none. GiveOnce, as stated: a byte, a row of rows of bytes, a row of bytes, opened to their numbers; whatever they are, the law returns true and all that came in reads as it did. Conditions: none. Conditions: as each theorem states them. -/
import Derived.Test.YtnbaiinhalplcaaRows
import Derived.ProofKit
import Derived.ChangeOld
import Derived.OpenShut
import Derived.Carry
import Derived.Deep.Slices
import Derived.Deep.Fields
import Derived.ChangeSame
import Derived.Conc.LeavingOf
import Derived.Test.YtnbaiinhalplcaaPg15
import Derived.Test.YtnbaiinhalplcaaPg22
namespace Go.Proofs.Ytnbaiinhalplcaa
open List renaming getElem?_cons_zero → gqZ, getElem?_cons_succ → gqS
set_option linter.unusedVariables false
set_option linter.unusedSimpArgs false
set_option maxRecDepth 100000
open Go.RowKit
open Go.Conc

theorem runs_take {l : List (Int × Int)} {k : Nat} {x : Int × Int} (h : l[k]? = some x) : runs (l.take (k + 1)) = runs (l.take k) + x.2.toNat := by
  rw [List.take_add_one, h]
  exact runs_snoc _ _
theorem runs_le (l : List (Int × Int)) (k : Nat) : runs (l.take k) ≤ runs l := by
  induction l generalizing k with
  | nil => simp
  | cons x t ih =>
    cases k with
    | zero => simp [runs]
    | succ k => simp only [List.take_succ_cons, runs]; have := ih k; omega
theorem shift_set (x j : Nat) (hx : x < 2 ^ 64) (h : x.testBit j = true) : bits .and .u64 ((x : Int) / 2 ^ j) 1 = 1 := by
  have e : (x : Int) / 2 ^ j = ((x / 2 ^ j : Nat) : Int) := by simp
  have hlt : x / 2 ^ j < 2 ^ 64 := Nat.lt_of_le_of_lt (Nat.div_le_self _ _) hx
  rw [e, show (1 : Int) = ((1 : Nat) : Int) from rfl, u64_and_nat _ _ (by omega) (by omega)]
  have : x / 2 ^ j &&& 1 = 1 := by
    rw [Nat.and_one_is_mod]
    have h2 : (x / 2 ^ j).testBit 0 = true := by rw [Nat.testBit_div_two_pow]; simpa using h
    simpa [Nat.testBit_zero] using h2
  rw [this]
theorem hw_of {n pA rA v t : Nat} {l : Int} {w : World} (hn : n ≤ 64) (hv : v < 2 ^ 64) (h : Ar w pA rA ⟨wordsW n v, t, l⟩) : Hw 1 1 n pA rA (wordsW n v) t w := by
  refine ⟨⟨l, h⟩, by rw [wordsW_len]; omega, by rw [wordsW_len]; omega, fun k => ?_, by decide, by decide, hn⟩
  unfold wordsW
  cases k with
  | zero => simp only [List.getD_eq_getElem?_getD, gqZ, Option.getD_some]; (try omega)
  | succ k => simp only [List.getD_eq_getElem?_getD, gqS, List.getElem?_replicate]; split <;> simp
theorem ent_zero {n v k : Nat} (hk : 0 < k) : (wordsW n v).getD k 0 = 0 := by
  obtain ⟨k, rfl⟩ : ∃ j, k = j + 1 := ⟨k - 1, by omega⟩
  unfold wordsW
  simp only [List.getD_eq_getElem?_getD, gqS, List.getElem?_replicate]; split <;> rfl

section
variable {x : Nat → Value} {wt : World} {Q : Exit → Act → World → Prop} {n M pA rA bl bh v t : Nat} {vs : Nat → Value} {g : Hands} {en : Bool}
/-- What the end holds. -/
structure EndAt (pA rA bl bh M n v : Nat) (vs : Nat → Value) (g : Hands) (t : Nat) (wt wr : World) : Prop where
  hw : Hw 1 1 n pA rA (wordsW n v) t wr
  hands : HandsAt wr bh M vs g
  lay : wr.heap[bl]? = some (.cells #[.int .i64 1, .int .i64 1, .int .i64 n] 27 (0, 0))
  kp : Kp [pA, rA] wt wr
  ap : ∀ b, handsOwn bh M vs b → b ≠ pA ∧ b ≠ rA
theorem EndAt.step {t' : Nat} {w w' : World} (h : EndAt pA rA bl bh M n v vs g t wt w) (hw : Hw 1 1 n pA rA (wordsW n v) t' w') (k : Kp [pA, rA] w w') : EndAt pA rA bl bh M n v vs g t' wt w' := by
  refine ⟨hw, (priv_hands bh M vs g).st _ _ h.hands fun b hb => k.block b ((priv_hands bh M vs g).lt _ _ h.hands hb) (by have := h.ap b hb; simp; omega), k.row ?_ h.lay, h.kp.trans k, h.ap⟩
  obtain ⟨l, a⟩ := h.hw.ar
  have h1 : bl ≠ pA := ne_types h.lay a.hp (by decide)
  have h2 : bl ≠ rA := ne_types h.lay a.hr (by decide)
  simp [h1, h2]
theorem EndAt.on {w w' : World} (h : EndAt pA rA bl bh M n v vs g t wt w) (k : Kp [] w w') : EndAt pA rA bl bh M n v vs g t wt w' := h.step (h.hw.on k) (k.mono (by simp))

set_option maxHeartbeats 4000000 in
theorem go_r14 (hx7 : x 7 = .int .i64 n) (hx9 : x 9 = .pointer (some ⟨pA, 0, none⟩)) (hx10 : x 10 = .pointer (some ⟨bl, 0, none⟩)) (hx12 : x 12 = .slice (some ⟨bh, 0, none⟩) M M) (hx14 : x 14 = .bool true) (hx21 : x 21 = .bool en) (hM5 : M ≤ 5) (h1 : 1 ≤ n) (hn : n ≤ 20) (hv : v < 2 ^ 64) (ht : t ≤ 100000) (hE : EndAt pA rA bl bh M n v vs g t wt wt) (hlen : ∀ i, i < M → (g i).length ≤ 64) (hval : Valid n M g) (hsum : en = true → sumTo (fun i => runs (g i)) M + sumTo (fun b => (v.testBit b).toNat) n = n)
    (hQ : ∀ a' w', a'.defers = [] → a'.tmps.size = 219 → a'.tmps.getD 6 undef = .bool true → Ks (fun b => b = pA ∨ b = rA) wt w' → Q .ret a' w') : (goR14 Try.f3).wp Try.prog Q ⟨T219 x, []⟩ wt := by
  have HQ := Lib.hid hQ
  have HE := Lib.hid hE
  have HL := Lib.hid hlen
  have HV := Lib.hid hval
  have HB := Lib.hid hv
  have HW := Lib.hid (fun w => wakes_is w)
  have hfld : ∀ w : World, (Instr.field 54 (.agg #[.int .u8 0, .int .u8 0, .int .u8 0, .int .u8 0]) 0).run Try.prog w = .ok (.int .u8 0) w := fun w => by kernel_rfl
  have HN := Lib.hid (fun (w : World) (t : Nat) (h : Hw 1 1 n pA rA (wordsW n v) t w) (ht : t ≤ 900000) => g_entry h ht 0 h1 0 (ent_zero (by decide)))
  have z0 : ek 0 = 0 := by decide
  have z1 : ec 0 = 0 := by decide
  have z2 : er 0 = 0 := by decide
  have z3 : eo 0 = 0 := by decide
  rw [z0, z1, z2, z3] at HN
  clear hQ hE hlen hval z0 z1 z2 z3 hv
  cases en with
  | false =>
    obtain ⟨b0, b1, b2⟩ : Lx bl 1 1 n wt := ⟨cell_of_row HE.out.lay 0, cell_of_row HE.out.lay 1, cell_of_row HE.out.lay 2⟩
    simp only [goR14, goR13, goR12, goR11, goR10, goR9, goR8, goR7, goR6, goR5, goR4, goR3, goR2, goR1, goR0, bodyOf, Try.f3, codeL, codeR, blockOf, loopOf, Option.getD_some, T219]
    simp only [hx7, hx9, hx10, hx12, hx14, hx21]
    go_wp2_with fail
    refine (HN.out _ t HE.out.hw (by omega)).mono ?_
    rintro e w1 ⟨rfl, ha, hk⟩
    have H1 := Lib.hid (HE.out.step ha hk)
    clear ha hk
    go_wp2_with fail
    refine (HW.out _).mono ?_
    rintro e w2 ⟨rfl, hk⟩
    have HK := Lib.hid (((H1.out.kp.alloc _).trans (hk.mono (by simp))))
    clear hk
    go_wp2
    exact HQ.out _ _ rfl rfl rfl ((ks_of_kp HK.out).mono fun _ _ z => by simpa using z)
  | true =>
    have hs := hsum rfl
    clear hsum
    obtain ⟨S, hS⟩ : ∃ S : Nat → Nat, S = fun i => sumTo (fun j => runs (g j)) i := ⟨_, rfl⟩
    have hSM : ∀ i, i < M → S i + runs (g i) ≤ S M := fun i hi => by
      rw [hS]
      have := sumTo_mono (f := fun j => runs (g j)) (i := i + 1) (m := M) (by omega)
      simpa only [sumTo] using this
    have hS1 : ∀ i, S (i + 1) = S i + runs (g i) := fun i => by rw [hS]; rfl
    have hS0 : S 0 = 0 := by rw [hS]; rfl
    obtain ⟨B, hB⟩ : ∃ B : Nat → Nat, B = fun k => sumTo (fun b => (v.testBit b).toNat) k := ⟨_, rfl⟩
    have hB1 : ∀ k, B (k + 1) = B k + (v.testBit k).toNat := fun k => by rw [hB]; rfl
    have hB0 : B 0 = 0 := by rw [hB]; rfl
    have hBk : ∀ k, B k ≤ k := fun k => by rw [hB]; exact sumTo_le fun b _ => by cases v.testBit b <;> decide
    have hs : S M + B n = n := by rw [hS, hB]; exact hs
    have HS := Lib.hid (And.intro hSM (And.intro hS1 hS0))
    have HBB := Lib.hid (And.intro hB1 (And.intro hB0 hBk))
    have HSN := Lib.hid hs
    clear hS hSM hS1 hS0 hB hB1 hB0 hBk hs
    simp only [goR14, goR13, goR12, goR11, goR10, goR9, goR8, goR7, goR6, goR5, goR4, goR3, goR2, goR1, goR0, bodyOf, Try.f3, codeL, codeR, blockOf, loopOf, Option.getD_some, T219]
    simp only [hx7, hx9, hx10, hx12, hx14, hx21]
    go_wp2
    go_loopg [23, 24] M (fun gk tv iv wr => ∃ i tk : Nat, i + gk = M ∧ tv = .int .i64 tk ∧ iv = .int .i64 i ∧ Hid (tk = S i) ∧ wr = wt)
    case atStart => exact ⟨0, 0, by omega, rfl, rfl, Lib.hid HS.out.2.2.symm, rfl⟩
    case round =>
      obtain ⟨i, tk, hi, rfl, rfl, HT, rfl⟩ := hrel
      by_cases hlt : i < M
      · have hw1 := IntWalk.i64_in ((i : Int) + 1) (by omega)
        have hlen := HL.out i hlt
        obtain ⟨ao, co, hc0, hks⟩ := HE.out.hands.slot hlt
        have HK := Lib.hid hks
        clear hks
        obtain ⟨L, hL⟩ : ∃ L, L = (g i).length := ⟨_, rfl⟩
        rw [← hL] at hc0 hlen
        have HLL := Lib.hid hL
        clear hL
        obtain ⟨G1, hG1⟩ : ∃ G, G + 1 = gk := ⟨gk - 1, by omega⟩
        have hgl1 : G1 + 1 ≤ gk := by omega
        have hi1 : i + (G1 + 1) = M := by omega
        clear hG1 hi
        go_wp2
        go_loopg [23, 25] L (fun gk tv kv wr2 => ∃ k tk : Nat, k + gk = L ∧ tv = .int .i64 tk ∧ kv = .int .i64 k ∧ Hid (tk = S i + runs ((g i).take k)) ∧ wr2 = wr)
        case atStart => exact ⟨0, tk, by omega, rfl, rfl, Lib.hid (by rw [HT.out]; simp [runs]), rfl⟩
        case round =>
          obtain ⟨k, tk, hk, rfl, rfl, HT2, rfl⟩ := hrel
          by_cases hltk : k < L
          · have hkL : k < (g i).length := by have := HLL.out; omega
            obtain ⟨⟨a0, r0⟩, hx⟩ : ∃ x, (g i)[k]? = some x := ⟨_, List.getElem?_eq_getElem hkL⟩
            have hvl := HV.out i hlt (a0, r0) (List.mem_of_getElem? hx)
            simp only at hvl
            obtain ⟨r, rfl⟩ : ∃ r : Nat, r0 = r := ⟨r0.toNat, by omega⟩
            obtain ⟨b, off, rfl, d1, d2⟩ := HK.out k _ _ hx
            have hrt := runs_take hx
            have hrl := runs_le (g i) (k + 1)
            simp only [Int.toNat_natCast] at hrt
            have h2 := HT2.out
            have h3 := HS.out.1 i hlt
            have h4 := HSN.out
            have hw2 := IntWalk.i64_in ((k : Int) + 1) (by omega)
            have hw3 := IntWalk.i64_in ((tk : Int) + r) (by omega)
            have HN2 : Hid (tk + r = S i + runs ((g i).take (k + 1))) := Lib.hid (by omega)
            clear hrt hrl h2 h3 h4 hvl hkL hx d1
            obtain ⟨G2, hG2⟩ : ∃ G, G + 1 = gk := ⟨gk - 1, by omega⟩
            have hgl2 : G2 + 1 ≤ gk := by omega
            have hk1 : k + (G2 + 1) = L := by omega
            clear hG2 hk
            go_wp2
            go_roundg G2
            all_goals first
              | omega
              | exact ⟨k + 1, tk + r, by omega, rfl, rfl, HN2, rfl⟩
          · obtain rfl : k = L := by omega
            have HN2 : Hid (tk = S (i + 1)) := Lib.hid (by rw [HT2.out, HS.out.2.1, HLL.out, List.take_length])
            clear HT2
            go_wp2
            go_roundg G1
            all_goals first
              | omega
              | exact ⟨i + 1, tk, by omega, rfl, rfl, HN2, rfl⟩
      · obtain rfl : i = M := by omega
        have hS20 : tk ≤ 20 := by have := HT.out; have := HSN.out; omega
        obtain ⟨wb, rfl⟩ : ∃ wb : World, wb = wr := ⟨_, rfl⟩
        have HE0 : Hid (EndAt pA rA bl bh i n v vs g (t + 0) wb wb) := HE
        go_wp2
        go_loopg [26, 27] n (fun gk fv kv wr2 => ∃ k fr : Nat, k + gk = n ∧ fv = .int .i64 fr ∧ kv = .int .i64 k ∧ Hid (fr = B k) ∧ Hid (EndAt pA rA bl bh i n v vs g (t + k) wb wr2))
        case atStart => exact ⟨0, 0, by omega, rfl, rfl, Lib.hid HBB.out.2.1.symm, HE0⟩
        case round =>
          obtain ⟨k, fr, hk, rfl, rfl, HF, HE2⟩ := hrel
          by_cases hlt2 : k < n
          · have hw1 := IntWalk.i64_in ((k : Int) + 1) (by omega)
            have hfr : fr ≤ k := by rw [HF.out]; exact HBB.out.2.2 k
            have hw2 := IntWalk.i64_in ((fr : Int) + 1) (by omega)
            have HR := Lib.hid (rd_word HE2.out.hw (by omega) 0 (by rw [wordsW_len]; omega) 0 (v : Int) rfl rfl)
            obtain ⟨G1, hG1⟩ : ∃ G, G + 1 = gk := ⟨gk - 1, by omega⟩
            have hgl1 : G1 + 1 ≤ gk := by omega
            have hk1 : k + (G1 + 1) = n := by omega
            clear hG1 hk
            cases hbit : v.testBit k with
            | true =>
              have ebit := shift_set v k HB.out hbit
              have HF1 : Hid (fr + 1 = B (k + 1)) := Lib.hid (by rw [HBB.out.1, hbit, HF.out]; rfl)
              clear hbit
              go_wp2_with fail
              refine HR.out.mono ?_
              rintro e w1 ⟨rfl, ha, hk⟩
              have H1 : Hid (EndAt pA rA bl bh i n v vs g (t + (k + 1)) wb w1) := Lib.hid (HE2.out.step ha hk)
              clear ha hk HE2 HR
              go_wp2
              go_roundg G1
              all_goals first
                | omega
                | exact ⟨k + 1, fr + 1, by omega, rfl, rfl, HF1, H1⟩
            | false =>
              have ebit := shift_clear v k HB.out hbit
              have HF1 : Hid (fr = B (k + 1)) := Lib.hid (by rw [HBB.out.1, hbit, HF.out]; rfl)
              clear hbit
              go_wp2_with fail
              refine HR.out.mono ?_
              rintro e w1 ⟨rfl, ha, hk⟩
              have H1 : Hid (EndAt pA rA bl bh i n v vs g (t + (k + 1)) wb w1) := Lib.hid (HE2.out.step ha hk)
              clear ha hk HE2 HR
              go_wp2
              go_roundg G1
              all_goals first
                | omega
                | exact ⟨k + 1, fr, by omega, rfl, rfl, HF1, H1⟩
          · obtain rfl : k = n := by omega
            have hfr : fr ≤ k := by rw [HF.out]; exact HBB.out.2.2 k
            have hsum2 : tk + fr = k := by rw [HT.out, HF.out]; exact HSN.out
            have hw3 := IntWalk.i64_in ((tk : Int) + fr) (by omega)
            have hseq : ((tk : Int) + (fr : Int) == (k : Int)) = true := by simp; omega
            clear hsum2
            obtain ⟨b0, b1, b2⟩ : Lx bl 1 1 k wr := ⟨cell_of_row HE2.out.lay 0, cell_of_row HE2.out.lay 1, cell_of_row HE2.out.lay 2⟩
            go_wp2_with fail
            refine (HN.out _ _ HE2.out.hw (by omega)).mono ?_
            rintro e w1 ⟨rfl, ha, hk⟩
            have H1 := Lib.hid (HE2.out.step ha hk)
            clear ha hk
            go_wp2_with fail
            refine (HW.out _).mono ?_
            rintro e w2 ⟨rfl, hk⟩
            have HK := Lib.hid (((H1.out.kp.alloc _).trans (hk.mono (by simp))))
            clear hk
            go_wp2
            exact HQ.out _ _ rfl rfl rfl ((ks_of_kp HK.out).mono fun _ _ z => by simpa using z)
end
end Go.Proofs.Ytnbaiinhalplcaa

namespace Go.Proofs.Ytnbaiinhalplcaa
set_option linter.unusedVariables false
set_option linter.unusedSimpArgs false
set_option maxRecDepth 100000
open Go.RowKit
open Go.Conc
open Go.ConcN (upd_ne upd_same)

theorem ph_ret {n i : Nat} {f : List (Int × Int)} {T : Tree Hands} (h : Ph n i f T) (hT : T = .ret) : f = [] := by
  cases h with
  | over => rfl
  | claim x l h0 hl => rfl
  | back b r j l h1 h3 hb hj hl =>
    exfalso
    cases j with
    | zero => cases hT
    | succ j => cases hT
theorem gs_start {n M : Nat} {ls : Nat → List Int} (hn : n ≤ 20) (hl : ∀ i, i < M → Byts (ls i)) : GS n M (fun j => (gvN 1 1 n j (ls j) (fun _ => [])).1) (wordsW n (2 ^ n - 1)) (fun _ => []) := by
  have hp : 2 ^ n ≤ 2 ^ 20 := Nat.pow_le_pow_right (by decide) hn
  refine ⟨2 ^ n - 1, fun _ => [], by omega, rfl, fun b => ?_, fun i hi h hh => by simp at hh, fun i hi => ?_⟩
  · simp only [load, Nat.add_zero]
    rw [sumTo_zero, Nat.testBit_two_pow_sub_one]
    by_cases h : b < n <;> simp [h]
  · have hb := hl i hi
    simp only
    generalize ls i = l at hb
    cases l with
    | nil => exact .over
    | cons x l =>
      unfold gvN
      rw [if_pos (by simp)]
      exact .claim x l (hb x (by simp)) fun y hy => hb y (by simp [hy])
theorem long_or (f : Nat → Nat) : ∀ m, (∀ i, i < m → f i ≤ 20) ∨ ∃ i0, i0 < m ∧ 20 < f i0 ∧ ∀ i, i < i0 → f i ≤ 20 := by
  intro m
  induction m with
  | zero => exact .inl fun i hi => by omega
  | succ m ih =>
    rcases ih with h | ⟨i0, h1, h2, h3⟩
    · by_cases e : f m ≤ 20
      · exact .inl fun i hi => by
          by_cases e2 : i = m
          · subst e2; exact e
          · exact h i (by omega)
      · exact .inr ⟨m, by omega, by omega, h⟩
    · exact .inr ⟨i0, by omega, h2, h3⟩
/-- Bytes that lie where a slice leads. -/
def UsG (w : World) (ao : Option Addr) (L : List Int) : Prop := ∀ i x, L[i]? = some x → ∃ b o, ao = some ⟨b, o, none⟩ ∧ w.cell? ⟨b, o + i, none⟩ = some (.int .u8 x) ∧ 0 ≤ x ∧ x ≤ 255
/-- Rows of bytes that lie where a slice leads. -/
def DoesIn (w : World) (ao : Option Addr) (L : List Acs) : Prop := ∀ i x, L[i]? = some x → (∃ b o, ao = some ⟨b, o, none⟩ ∧ w.cell? ⟨b, o + i, none⟩ = some x.v) ∧ UsG w x.ao x.l
theorem cell_poorless {w : World} {b o : Nat} {v : Value} (h : w.cell? ⟨b, o, none⟩ = some v) : poorlessW w b := by
  refine ⟨World.block_lt_of_cell? _ _ h, ?_⟩
  cases ho : w.heap[b]? with
  | none => rfl
  | some ob => cases ob <;> first | rfl | (exfalso; simp [World.cell?, ho] at h)
theorem acs_ok {W : World} {a : Acs} (h : UsG W a.ao a.l) (h20 : a.l.length ≤ 20) : a.ok W ∧ Byts a.l := by
  refine ⟨⟨h20, ?_⟩, fun x hx => ?_⟩
  · cases hl : a.l with
    | nil => exact .inl rfl
    | cons x l =>
      right
      obtain ⟨b, o, h1, h2, _⟩ := h 0 x (by rw [hl]; rfl)
      refine ⟨b, o, h1, cell_poorless h2, fun k hk => ?_⟩
      rw [← hl] at hk ⊢
      obtain ⟨b', o', h3, h4, h5⟩ := h k (a.l[k]) (by simp [hk])
      rw [h1] at h3
      cases h3
      have e : a.l.getD k 0 = a.l[k] := by simp [List.getD, hk]
      rw [e]
      exact ⟨h4, by omega⟩
  · obtain ⟨i, hi, rfl⟩ := List.getElem_of_mem hx
    obtain ⟨_, _, _, _, h0, _⟩ := h i (a.l[i]) (by simp [hi])
    exact h0

section
variable {Post : Value → World → Prop} {W : World} {pA rA bh bl M n N : Nat} {ag : Nat → Ag} {T : Nat → Tree Hands} {va : Value} {pl : Nat → Option Place} {F : Nat → Option (Nat × Nat)} {col : Nat → Col} {w : World} {g : Hands} {s : St}
/-- From the end of the turns to the law's. -/
theorem go_last {args : Array Value} {x : Nat → Value} {K co : Nat} {bo : Option Addr} (A : GoT Post W pA rA bh bl M n ag T va pl F col w g s) (hx : HasN x [(2, .slice bo K co), (7, .int .i64 n), (9, .pointer (some ⟨pA, 0, none⟩)), (10, .pointer (some ⟨bl, 0, none⟩)), (12, .slice (some ⟨bh, 0, none⟩) M M), (13, va), (14, .bool true)]) (hM1 : 1 ≤ M) (hM5 : M ≤ 5) (h1 : 1 ≤ n) (hn : n ≤ 20) (ht : s.t ≤ 2000) (hWA : W.heap.size ≤ pA ∧ W.heap.size ≤ rA) (hPost : ∀ w', Ks (fun _ => False) W w' → Post (.bool true) w') :
    Win Try.prog Post pl N 0 (gor ((Frame.enter Try.prog 3 args .normal).at ⟨T219 x, []⟩ [.code (goR12 Try.f3)]) []) w := by
  have e12 : goR12 Try.f3 = .seq (goQ29 Try.f3) (goR13 Try.f3) := by kernel_rfl
  have e13 : goR13 Try.f3 = .seq (.seq (goQ30 Try.f3) (.block 6 (.loop (goX4 Try.f3)))) (goR14 Try.f3) := by kernel_rfl
  obtain ⟨hx2, hx7, hx9, hx10, hx12, hx13, hx14, -⟩ := hx
  rw [e12]
  refine Win.seq ?_
  refine deskN_look T219_shape A.crew.desk (stok_at rfl rfl (by simp) (by kernel_rfl)) (fun wt Q hcell hQ => go_q29 hx2 hx7 hx9 hx10 hx12 hx13 hx14 hQ) fun x1 w1 hx k1 D1 => ?_
  have A1 := A.made D1 k1
  clear hx2 hx7 hx9 hx10 hx12 hx13 hx14
  obtain ⟨hx7, hx9, hx10, hx12, hx13, hx14, hx21, -⟩ := hx
  rw [e13]
  refine Win.seq ?_
  refine Win.seq ?_
  refine deskN_look T219_shape D1 (stok_at rfl rfl (by simp) (by kernel_rfl)) (fun wt Q hcell hQ => go_q30 hx7 hx9 hx10 hx12 hx13 hx14 hx21 hQ) fun x2 w2 hx k2 D2 => ?_
  have A2 := A1.made D2 k2
  refine Win.block ?_
  refine Win.loop ?_
  have hfit : ∀ j, j < M → Fit (T j) g := fun j hj => A.gs.fit hn hj
  obtain ⟨v, fl, hv, hws, hW, hV, hP⟩ := A.gs
  refine go_loop4 (T0 := T) hM1 hM5 hfit (fun en pl F col w x A hen hx => ?_) M 0 (by omega) true T pl F col w2 x2 A2.stops (fun j hj => by simp) (fun _ j hj => by omega) hx
  have hpl : ∀ i, pl i = none := fun i => by
    rcases Nat.lt_or_ge i 1 with z | z
    · obtain rfl : i = 0 := by omega
      exact A.crew.desk.pl0
    · rcases Nat.lt_or_ge i (1 + M) with z2 | z2
      · have hst := A.crew.st (i - 1) (by omega)
        have hj := A.crew.num (i - 1) (by omega)
        have := hst.1
        rw [hj, show 1 + (i - 1) = i from by omega] at this
        exact this
      · exact A.crew.out i z2
  have hsh := A.crew.sh
  obtain ⟨vs, r1, r2, r3⟩ := hsh.rows
  have hH : HandsAt w bh M vs g := ⟨r1, fun i hi => (r2 i hi).1⟩
  have hL := A.crew.desk.lay
  have hap : ∀ b, handsOwn bh M vs b → b ≠ pA ∧ b ≠ rA := fun b hb => by
    have h : col b = .shared := by
      rcases hb with rfl | ⟨i, hi, hb⟩
      · exact hsh.sb _ (.inl rfl)
      · exact ((r2 i hi).2 b hb).1
    refine ⟨fun e => ?_, fun e => ?_⟩
    · rw [e, hL.ar.1] at h; cases h
    · rw [e, hL.ar.2] at h; cases h
  have hsum : en = true → sumTo (fun i => runs (g i)) M + sumTo (fun b => (v.testBit b).toNat) n = n := fun z => hW.ends hV fun i hi => ph_ret (hP i hi) (hen z i hi)
  obtain ⟨ws, t, l⟩ := s
  simp only at hws ht
  subst hws
  obtain ⟨hx7, hx9, hx10, hx12, hx14, hx21, -⟩ := hx
  exact none_ret hpl (S := fun b => b = pA ∨ b = rA) ((priv_arN pA rA ⟨wordsW n v, t, l⟩).and ((priv_hands bh M vs g).and (Priv.row bl #[.int .i64 1, .int .i64 1, .int .i64 n] 27 (0, 0)))) ⟨A.ar, hH, hsh.lay⟩ (stok_at rfl rfl (by simp) (by kernel_rfl)) (fun wt Q hw hQ => go_r14 hx7 hx9 hx10 hx12 hx14 hx21 hM5 h1 hn hv (t := t) (by omega) ⟨hw_of (by omega) hv hw.1, hw.2.1, hw.2.2, Kp.refl _ _, hap⟩ (fun i hi => by have := hW.len hV hi; omega) hV hsum hQ) fun w' k => hPost w' (A.ks.then k fun b hb z => by rcases z with z | z <;> omega)

/-- THE WALK OF THE LAW. -/
theorem go_walk {LS : List Acs} {O : List Int} {ad bo : Option Addr} {cd co : Nat} (hn255 : n ≤ 255) (hD : DoesIn W ad LS) (hO : UsG W bo O) (hPost : ∀ w', Ks (fun _ => False) W w' → Post (.bool true) w') :
    Win Try.prog Post (fun _ => none) 1 0 (gor (Frame.enter Try.prog 3 #[.int .u8 n, .slice ad LS.length cd, .slice bo O.length co] .normal) []) W := by
  by_cases hbad : n < 1 ∨ 20 < n ∨ LS.length < 1 ∨ 5 < LS.length ∨ 200 < O.length
  · exact go_bad (fun _ => rfl) hn255 hbad hPost
  obtain ⟨M, hM⟩ : ∃ M, M = LS.length := ⟨_, rfl⟩
  obtain ⟨K, hK⟩ : ∃ K, K = O.length := ⟨_, rfl⟩
  rw [← hM, ← hK] at hbad ⊢
  obtain ⟨ls, hls⟩ : ∃ ls : Nat → Acs, ls = fun i => LS.getD i ⟨none, 0, []⟩ := ⟨_, rfl⟩
  have hg : ∀ i, i < M → LS[i]? = some (ls i) := fun i hi => by rw [hls]; simp [List.getD, show i < LS.length from hM ▸ hi]
  obtain ⟨⟨bd, od, had, _⟩, _⟩ := hD 0 _ (hg 0 (by omega))
  subst had
  have hdo : DoesAt W bd od M ls := ⟨by omega, fun i hi => by
    obtain ⟨⟨b, o, h1, h2⟩, _⟩ := hD i _ (hg i hi)
    cases h1
    exact h2⟩
  rcases long_or (fun i => (ls i).l.length) M with hL | ⟨i0, h1, h2, h3⟩
  · have hok : ∀ i, i < M → (ls i).ok W ∧ Byts (ls i).l := fun i hi => acs_ok (hD i _ (hg i hi)).2 (hL i hi)
    refine go_made (ls := ls) (by omega) (by omega) (by omega) (by omega) hdo hL (fun i hi => (hok i hi).1) fun pA rA bl bh l ag va pl F col w x A hWb hWA hx => ?_
    have A2 : GoT Post W pA rA bh bl M n ag (fun j => (gvN 1 1 n j (ls j).l (fun _ => [])).1) va pl F col w (fun _ => []) ⟨wordsW n (2 ^ n - 1), 1, l⟩ :=
      ⟨A.crew, gs_start (ls := fun j => (ls j).l) (by omega) fun i hi => (hok i hi).2, A.ar, A.all, A.allc, A.old, A.ks⟩
    have e11 : goR11 Try.f3 = .seq (.seq (goQ24 Try.f3) (.block 4 (.loop (goX3 Try.f3)))) (goR12 Try.f3) := by kernel_rfl
    obtain ⟨hx1, hx2, hx7, hx9, hx10, hx12, hx13, hx14, -⟩ := hx
    rw [e11]
    refine Win.seq ?_
    refine Win.seq ?_
    refine deskN_look T219_shape A2.crew.desk (stok_at rfl rfl (by simp) (by kernel_rfl)) (fun wt Q hcell hQ => go_q24 hx2 hx7 hx9 hx10 hx12 hx13 hx14 hQ) fun x1 w1 hx k1 D1 => ?_
    refine Win.block ?_
    refine Win.loop ?_
    refine go_loop3 (K := K) (co := co) (bo := bo) (by omega) (by omega) (by omega) (by omega) (fun i hi => ?_) (fun T pl F col w g s x A ht hx => go_last A hx (by omega) (by omega) (by omega) (by omega) ht hWA hPost) K 0 (by omega) _ pl F col w1 _ _ x1 (A2.made D1 k1) (by simp) hx
    obtain ⟨b, o, h2, h3⟩ := hO i (O[i]'(by omega)) (by simp)
    exact ⟨b, o, _, h2, h3⟩
  · exact go_long (ls := ls) (fun _ => rfl) (by omega) (by omega) (by omega) (by omega) hdo h1 h2 h3 hPost
end
end Go.Proofs.Ytnbaiinhalplcaa

namespace Go.Proofs.Ytnbaiinhalplcaa

theorem Try.own : ownKnob Try.prog.godebug = none := by kernel_rfl
theorem Try.laidOut : laidOutB Try.prog = true := by kernel_rfl

end Go.Proofs.Ytnbaiinhalplcaa

namespace Go.Proofs.Ytnbaiinhalplcaa
set_option linter.unusedVariables false
set_option linter.unusedSimpArgs false
set_option maxRecDepth 100000
open Go.ChangeShapes Go.WideShapes Go.ChangeAt Go.RowKit Go.Deep Go.Conc

theorem us_spot {w : World} {a : Addr} {v : Value} (h : w.cell? a = some v) : a.spot = none := by
  unfold World.cell? at h
  split at h
  · split at h
    · cases h
    · rename_i hs
      simpa using hs
  · cases h
theorem us_getD {L : List Int} {i : Nat} {x : Int} (h : L[i]? = some x) : L.getD i 0 = x := by simp [List.getD, h]
theorem open_us {H : Type} {enc : TypeId × Value → H} {W : World} {base : Nat} {spare : Nat → Bool} {held : Bool} {v : Value} {d : DataW H} {p : List MemPlace} (hv : Value.okWide Try.prog W .any base 23 v) (h : DataW.Trod enc Try.prog W 0 spare held 23 v d p) :
    ∃ (ao : Option Addr) (cap : Nat) (R : List Int), v = .slice ao R.length cap ∧ UsG W ao R ∧ (ao = none → R = [] ∧ cap = 0) := by
  obtain ⟨fuel, hf⟩ := h
  obtain ⟨ao, l0, c0, rfl⟩ := okWide_slice Try.underlying23 hv
  rcases open_ints Try.underlying23 Try.underlying5 (by kernel_rfl) hf with ⟨hc, _⟩ | ⟨a, len, cap, ns, hcs, _, hl, hm, hlen, _, hcell, hwf⟩
  · have e : Value.slice ao l0 c0 = .slice none 0 0 := by simpa [Value.cells] using hc
    exact ⟨none, 0, [], by rw [e]; rfl, fun i x hi => by simp at hi, fun _ => ⟨rfl, rfl⟩⟩
  · have e : Value.slice ao l0 c0 = .slice (some a) len cap := by simpa [Value.cells] using hcs
    rw [e]
    have hlz : len ≤ ns.length := by rw [hlen]; split <;> omega
    have hlz2 : (ns.take len).length = len := by rw [List.length_take, Nat.min_eq_left hlz]
    refine ⟨some a, cap, ns.take len, by rw [hlz2], ?_, fun z => (by cases z)⟩
    · intro i x hi
      have hil : i < len := by have := (List.getElem?_eq_some_iff.1 hi).1; omega
      have h0 := hcell 0 (by omega)
      simp only [Addr.add, if_true] at h0
      have hsp := us_spot h0
      obtain ⟨b, o, sp⟩ := a
      simp only at hsp
      subst hsp
      have hi' := hcell i (by omega)
      rw [Addr.add_lit] at hi'
      have eg : ns.getD i 0 = x := by
        rw [← us_getD hi]
        simp [List.getD, hil]
      have hmem : ns.getD i 0 ∈ ns := by
        have : i < ns.length := by omega
        simp [List.getD, this]
      have hb := bounds_u8 (hwf _ hmem)
      rw [eg] at hi' hb
      exact ⟨b, o, rfl, hi', hb.1, hb.2⟩
theorem trodAll_ks {H : Type} {enc : TypeId × Value → H} {W W' : World} (hk : Ks (fun _ => False) W W') {ts : List TypeId} {vs : List Value} {ds : List (DataW H)} {ps : List MemPlace} (hr : typesRowed Try.prog ts = true) (h : DataW.TrodAll enc Try.prog W 0 (fun _ => true) true ts vs ds ps) (hlt : ∀ x ∈ ps, x.block < W.heap.size) :
    DataW.TrodAll enc Try.prog W' 0 (fun b => decide (b < W.heap.size)) true ts vs ds ps := by
  have hb : Below W.heap.size W {W' with tape := W.tape} := ⟨hk.os, rfl, hk.output, hk.size, fun k h => hk.block k h fun z => z⟩
  have h2 := trodAll_below (W' := {W' with tape := W.tape}) Try.laidOut hb hr h hlt
  have he : ({W' with tape := W.tape} : World).heap = W'.heap := rfl
  exact DataW.TrodAll.of_heap he h2
theorem Ks.kept0 {W W' : World} (k : Ks (fun _ => False) W W') (may : MemPlace → Prop) : W.keptBut W' may := by
  refine ⟨k.os, k.output, fun i hi => ?_⟩
  rw [k.block i hi fun z => z]
  split <;> simp_all

theorem list1 {α : Type} {l : List α} (h : l.length = 1) : ∃ a, l = [a] := by
  match l, h with
  | [a], _ => exact ⟨a, rfl⟩
section
variable {H : Type} {enc : TypeId × Value → H} {W : World} {base : Nat} {spare : Nat → Bool} {held : Bool}
set_option maxRecDepth 100000 in
theorem open_acs {fuel : Nat} {cs : List Value} {y : DataW H × List MemPlace} (h : DataW.trod enc Try.prog W 0 spare held fuel 23 cs = some y) :
    ∃ p : Acs, cs = [p.v] ∧ UsG W p.ao p.l := by
  rcases open_ints Try.underlying23 Try.underlying5 (by kernel_rfl) h with ⟨hc, _⟩ | ⟨a, len, cap, ns, hcs, _, hl, hm, hlen, _, hcell, hwf⟩
  · exact ⟨⟨none, 0, []⟩, hc, fun i x hi => by simp at hi⟩
  · have hlz : len ≤ ns.length := by rw [hlen]; split <;> omega
    have hlz2 : (ns.take len).length = len := by rw [List.length_take, Nat.min_eq_left hlz]
    refine ⟨⟨some a, cap, ns.take len⟩, by rw [hcs]; simp [Acs.v, hlz2], ?_⟩
    intro i x hi
    have hi : (ns.take len)[i]? = some x := hi
    have hil : i < len := by have := (List.getElem?_eq_some_iff.1 hi).1; omega
    have h0 := hcell 0 (by omega)
    simp only [Addr.add, if_true] at h0
    have hsp := us_spot h0
    obtain ⟨b, o, sp⟩ := a
    simp only at hsp
    subst hsp
    have hi' := hcell i (by omega)
    rw [Addr.add_lit] at hi'
    have eg : ns.getD i 0 = x := by
      rw [← us_getD hi]
      simp [List.getD, hil]
    have hmem : ns.getD i 0 ∈ ns := by
      have : i < ns.length := by omega
      simp [List.getD, this]
    have hb := bounds_u8 (hwf _ hmem)
    rw [eg] at hi' hb
    exact ⟨b, o, rfl, hi', hb.1, hb.2⟩
theorem open_does {v : Value} {d : DataW H} {p : List MemPlace} (hv : Value.okWide Try.prog W .any base 22 v) (h : DataW.Trod enc Try.prog W 0 spare held 22 v d p) :
    ∃ (ao : Option Addr) (cap : Nat) (L : List Acs), v = .slice ao L.length cap ∧ DoesIn W ao L := by
  obtain ⟨fuel, hf⟩ := h
  obtain ⟨ao, l0, c0, rfl⟩ := okWide_slice Try.underlying22 hv
  rcases open_slice Try.underlying22 hf with ⟨hc, _⟩ | ⟨a, len, cap, m, n, D, Pl, hcs, hb, hl, hm, hmm, hx, hi⟩
  · have e : Value.slice ao l0 c0 = .slice none 0 0 := by simpa [Value.cells] using hc
    exact ⟨none, 0, [], by rw [e]; rfl, fun i x hx => by simp at hx⟩
  · have e : Value.slice ao l0 c0 = .slice (some a) len cap := by simpa [Value.cells] using hcs
    rw [e]
    have hlm : len ≤ m := by rw [hmm]; split <;> omega
    have hC : Try.prog.cellsOf 23 = 1 := by kernel_rfl
    rw [hC] at hi
    have key : ∀ i, ∃ x : Acs, i < len → UsG W x.ao x.l ∧ ∃ b o, a = ⟨b, o, none⟩ ∧ W.cell? ⟨b, o + i, none⟩ = some x.v := by
      intro i
      by_cases hil : i < len
      · obtain ⟨cs', hc', ht'⟩ := hi i (by omega)
        obtain ⟨_, hcl, hat⟩ := World.cells?_some hc'
        obtain ⟨pp, hpp, hT⟩ := open_acs ht'
        subst hpp
        have hsp : a.spot = none := by
          obtain ⟨cs0, hc0, _⟩ := hi 0 (by omega)
          obtain ⟨_, hl0, hat0⟩ := World.cells?_some hc0
          obtain ⟨p0, rfl⟩ := list1 hl0
          have := hat0 0 (by omega)
          simp only [Nat.zero_mul, Addr.add, if_true] at this
          exact us_spot this
        obtain ⟨b, o, sp⟩ := a
        simp only at hsp
        subst hsp
        have h0 := hat 0 (by omega)
        simp only [Addr.add_lit, Nat.mul_one, Nat.add_zero] at h0
        exact ⟨pp, fun _ => ⟨hT, b, o, rfl, h0⟩⟩
      · exact ⟨⟨none, 0, []⟩, fun h => absurd h hil⟩
    obtain ⟨f, hf'⟩ := Classical.skolem.1 key
    refine ⟨some a, cap, (List.range len).map f, by simp, ?_⟩
    intro i x hx'
    have hil : i < len := by
      have := (List.getElem?_eq_some_iff.1 hx').1
      simpa using this
    obtain rfl : f i = x := by simpa [hil] using hx'
    obtain ⟨h0, b, o, rfl, r⟩ := hf' i hil
    exact ⟨⟨b, o, rfl, r⟩, h0⟩
end

theorem giveOnce_lifted (os : Os) (started : os.Started) (H : Type) (enc : TypeId × Value → H) :
    ReturnsInLeavingWide {} Try.checked os 3 .any (Rows.giveOnceSpec.pre6 enc Try.prog Try.f3 Rows.giveOnceRow.domain false) (Rows.giveOnceSpec.post enc Try.prog Try.f3 false true false false) := by
  refine returnsInLeavingWide_of_change_sized (C := Try.checked) Try.own started Try.func3
    (ChangeSpec.witness6 (enc := enc) (C := Try.checked) false ⟨#[], #[.int .u8 0, .slice none 0 0, .slice none 0 0], []⟩ 8 (by kernel_rfl) (by kernel_rfl) (by kernel_rfl) (by kernel_rfl)) ?_
  intro W base args ds gs before hval0 hW _ _ _
  have hval : ∀ (j : Nat) t v, Try.f3.params[j]? = some t → args[j]? = some v → Value.okWide Try.prog W .any base t v := hval0
  have hW' := hW
  obtain ⟨p, q, hA0, hV, rfl, hz, hnn⟩ := hW
  have hA : DataW.TrodAll enc Try.prog W 0 (fun _ => true) true Try.f3.params.toList args.toList ds p := hA0
  have hV' := hV
  obtain ⟨rfl, rfl⟩ := trodVars_none hV
  have hlt : ∀ x ∈ p, x.block < W.heap.size := fun x hx => DataW.Whole.lt (⟨p, [], hA0, hV', rfl, hz, hnn⟩ : DataW.Whole enc Try.prog _ _ false W args.toList ds [] (p ++ [])) x (by simpa using hx)
  rw [Try.params3] at hA hval
  have hA2 := hA
  obtain ⟨v0, v1, v2, d0, d1, d2, p0, p1, p2, rfl, rfl, rfl, h0, h1, h2⟩ := trodAll_three hA
  obtain ⟨wd0, rfl, rfl, rfl, wc⟩ := open_int Try.underlying5 (hval 0 5 v0 rfl rfl) h0
  obtain ⟨ao, ca, L, rfl, hL⟩ := open_does (hval 1 22 v1 rfl rfl) h1
  obtain ⟨bo, co, O, rfl, hO, _⟩ := open_us (hval 2 23 v2 rfl rfl) h2
  obtain ⟨wd, rfl⟩ : ∃ wd : Nat, wd0 = wd := ⟨wd0.toNat, by have := (bounds_u8 wc).1; omega⟩
  clear hA0 hval0
  simp only [List.append_nil] at hW'
  obtain ⟨M, last, o, w', t', r1, r2, r3, r4⟩ := Win.runs (Post := fun v w' => v = .bool true ∧ Ks (fun _ => False) W w') (go_walk (n := wd) (cd := ca) (co := co) (by have := (bounds_u8 wc).2; omega) hL hO fun w' k => ⟨rfl, k⟩)
  refine ⟨M, last, o, w', t', r1, r2, r3, r4.mono fun v hF => ?_⟩
  obtain ⟨rfl, hk⟩ := hF
  exact ⟨_, _, _, [], _, [], hW', trodAll_mk1 (shut_bool Try.underlying4 _), trodAll_ks hk (by kernel_rfl) hA2 hlt, rfl, hk.kept0 _, fun h => by cases h⟩

/-- THE STATEMENT. -/
theorem giveOnce_holds : Rows.GiveOnceSaid :=
  OpenClaim.holds_of_wide_leaving 3 Try.f3 rfl rfl rfl rfl rfl rfl rfl ⟨rfl, rfl, rfl, rfl, rfl⟩ rfl rfl rfl rfl rfl (by kernel_rfl) Try.func3 (by kernel_rfl)
    (of_decide_eq_true (by kernel_rfl)) (by unfold Func.isWrapper; first | (rw [if_pos (by decide +kernel)]; kernel_rfl) | (rw [if_neg (by decide +kernel)]; exact ⟨rfl, rfl⟩))
    (fun os started H enc _ => giveOnce_lifted os started H enc)
end Go.Proofs.Ytnbaiinhalplcaa
