/- Plain facts on blocks that are claimed and given back: the map's number, the entries' words, the arena's words of both. Conditions: none beyond the theorems' own. -/
import Derived.Test.YtinkpbenmfnnhaaDoorBmF
import Derived.Test.YtinkpbenmfnnhaaDoorTbP
namespace Go.Proofs.YtinkpbenmfnnhaaDoor
set_option linter.unusedVariables false
set_option linter.unusedSimpArgs false
open Go.RowKit

/-- The map, and the entries' words. -/
structure Gv where
  M : Nat
  E : List Int

/-- There are so many blocks; all words are words. -/
structure Gv.Ok (n : Nat) (g : Gv) : Prop where
  len : g.E.length = n
  map : g.M < 18446744073709551616
  ent : ∀ k, 0 ≤ g.E.getD k 0 ∧ g.E.getD k 0 < 18446744073709551616

/-- The arena's words. -/
def wordsG (n : Nat) (g : Gv) : List Int := (g.M : Int) :: 0 :: 0 :: 0 :: 0 :: (g.E ++ List.replicate (32 * n) 0)
theorem wordsG_len (n : Nat) (g : Gv) (h : g.E.length = n) : (wordsG n g).length = 5 + 33 * n := by simp [wordsG, h]; omega
theorem wordsG_map (n : Nat) (g : Gv) : (wordsG n g).getD 0 0 = g.M := rfl
theorem wordsG_ent (n : Nat) (g : Gv) (h : g.E.length = n) (k : Nat) (hk : k < n) : (wordsG n g).getD (5 + k) 0 = g.E.getD k 0 := by
  rw [Nat.add_comm 5 k]
  simp only [wordsG, List.getD_eq_getElem?_getD, List.getElem?_cons_succ]
  rw [List.getElem?_append_left (by omega)]
theorem wordsG_setM (n : Nat) (g : Gv) (x : Nat) : (wordsG n g).set 0 (x : Int) = wordsG n ⟨x, g.E⟩ := rfl
theorem wordsG_setE (n : Nat) (g : Gv) (h : g.E.length = n) (k : Nat) (hk : k < n) (v : Int) : (wordsG n g).set (5 + k) v = wordsG n ⟨g.M, g.E.set k v⟩ := by
  rw [Nat.add_comm 5 k]
  simp only [wordsG, List.set_cons_succ]
  rw [List.set_append_left _ _ (by omega)]

theorem Gv.Ok.setM {n : Nat} {g : Gv} (h : g.Ok n) {x : Nat} (hx : x < 18446744073709551616) : Gv.Ok n ⟨x, g.E⟩ := ⟨h.len, hx, h.ent⟩
theorem Gv.Ok.setE {n : Nat} {g : Gv} (h : g.Ok n) (k : Nat) {v : Int} (h0 : 0 ≤ v) (h1 : v < 18446744073709551616) : Gv.Ok n ⟨g.M, g.E.set k v⟩ := by
  refine ⟨by simpa using h.len, h.map, fun j => ?_⟩
  have := h.ent j
  simp only [List.getD_eq_getElem?_getD, List.getElem?_set] at this ⊢
  split
  · split
    · simpa using ⟨h0, h1⟩
    · simp
  · exact this

/-- The entries from a on, r of them, are 0. -/
def zer (E : List Int) (a r : Nat) : List Int := (List.range E.length).map fun k => if a ≤ k ∧ k < a + r then 0 else E.getD k 0
theorem zer_len (E : List Int) (a r : Nat) : (zer E a r).length = E.length := by simp [zer]
theorem zer_get (E : List Int) (a r k : Nat) : (zer E a r).getD k 0 = if a ≤ k ∧ k < a + r then 0 else E.getD k 0 := by
  by_cases hk : k < E.length
  · simp [zer, List.getD_eq_getElem?_getD, hk]
  · have : E.getD k 0 = 0 := by simp [List.getD_eq_getElem?_getD, Nat.le_of_not_lt hk]
    rw [this]
    simp [zer, List.getD_eq_getElem?_getD, Nat.le_of_not_lt hk]
theorem ext_getD {xs ys : List Int} (hl : xs.length = ys.length) (h : ∀ k, k < xs.length → xs.getD k 0 = ys.getD k 0) : xs = ys := by
  apply List.ext_getElem hl
  intro i h1 h2
  have := h i h1
  simpa [List.getD_eq_getElem?_getD, h1, h2] using this
theorem zer_none (E : List Int) (a : Nat) : zer E a 0 = E := ext_getD (zer_len _ _ _) fun k _ => by rw [zer_get, if_neg (by omega)]
theorem getD_set (E : List Int) (k : Nat) (v : Int) (j : Nat) (hj : j < E.length) : (E.set k v).getD j 0 = if j = k then v else E.getD j 0 := by
  by_cases h : j = k
  · subst h; simp [List.getD_eq_getElem?_getD, hj]
  · rw [if_neg h, List.getD_eq_getElem?_getD, List.getElem?_set_ne (fun e => h e.symm), ← List.getD_eq_getElem?_getD]
/-- One more, upward. -/
theorem zer_up (E : List Int) (a i : Nat) : (zer E a i).set (a + i) 0 = zer E a (i + 1) := by
  refine ext_getD (by simp [zer_len]) fun k hk => ?_
  rw [getD_set _ _ _ _ (by simpa using hk), zer_get, zer_get]
  by_cases h : k = a + i
  · rw [if_pos h, if_pos (by omega)]
  · rw [if_neg h]
    by_cases h2 : a ≤ k ∧ k < a + i
    · rw [if_pos h2, if_pos (by omega)]
    · rw [if_neg h2, if_neg (by omega)]
/-- One more, downward. -/
theorem zer_down (E : List Int) (a i : Nat) : (zer E (a + 1) i).set a 0 = zer E a (i + 1) := by
  refine ext_getD (by simp [zer_len]) fun k hk => ?_
  rw [getD_set _ _ _ _ (by simpa using hk), zer_get, zer_get]
  by_cases h : k = a
  · rw [if_pos h, if_pos (by omega)]
  · rw [if_neg h]
    by_cases h2 : a + 1 ≤ k ∧ k < a + 1 + i
    · rw [if_pos h2, if_pos (by omega)]
    · rw [if_neg h2, if_neg (by omega)]
theorem Gv.Ok.zer {n : Nat} {g : Gv} (h : g.Ok n) (a r : Nat) : Gv.Ok n ⟨g.M, Go.Proofs.YtinkpbenmfnnhaaDoor.zer g.E a r⟩ := by
  refine ⟨by rw [zer_len]; exact h.len, h.map, fun k => ?_⟩
  simp only [zer_get]
  split
  · simp
  · exact h.ent k

/-- Is it a run of the blocks? -/
def runG (n : Nat) (b r : Int) : Bool := decide (1 ≤ r ∧ r ≤ 3 ∧ 0 ≤ b ∧ b + r ≤ n)
theorem runG_iff {n : Nat} {b r : Int} : runG n b r = true ↔ (1 ≤ r ∧ r ≤ 3 ∧ 0 ≤ b ∧ b + r ≤ n) := by simp [runG]
theorem runG_not {n : Nat} {b r : Int} : runG n b r = false ↔ ¬ (1 ≤ r ∧ r ≤ 3 ∧ 0 ≤ b ∧ b + r ≤ n) := by simp only [runG, decide_eq_false_iff_not]

/-- The map behind a run's being given. -/
def giveM (M : Nat) (b r : Nat) : Nat := if Bm.isR M b r false then Bm.setN M b r true else M
theorem giveM_lt {M b r : Nat} (h : M < 18446744073709551616) : giveM M b r < 18446744073709551616 := by
  unfold giveM; split
  · exact Bm.setN_lt _ _ _ _
  · exact h

/-- Blocks are given back. -/
def backG (n : Nat) (g : Gv) (b r : Int) : Gv := if runG n b r then ⟨giveM g.M b.toNat r.toNat, zer g.E b.toNat r.toNat⟩ else g
theorem backG_in {n : Nat} {g : Gv} {b r : Nat} (h1 : 1 ≤ r) (h2 : r ≤ 3) (h3 : b + r ≤ n) : backG n g b r = ⟨giveM g.M b r, zer g.E b r⟩ := by
  unfold backG; rw [if_pos (runG_iff.2 (by omega))]; rfl
theorem backG_out {n : Nat} {g : Gv} {b r : Int} (h : runG n b r = false) : backG n g b r = g := by unfold backG; rw [h]; rfl
theorem Gv.Ok.back {n : Nat} {g : Gv} (h : g.Ok n) (b r : Int) : (backG n g b r).Ok n := by
  unfold backG; split
  · exact (h.zer b.toNat r.toNat).setM (x := giveM g.M b.toNat r.toNat) (giveM_lt h.map)
  · exact h

/-- An entry is set. -/
def setG (n : Nat) (g : Gv) (b k c r o : Int) : Gv := if decide (0 ≤ b ∧ b < n) && Tb.mayE k c r o then ⟨g.M, g.E.set b.toNat (Tb.wordE k c r o)⟩ else g
theorem Gv.Ok.set {n : Nat} {g : Gv} (h : g.Ok n) (b k c r o : Int) (hk : 0 ≤ k) (hc : 0 ≤ c) (hr : 0 ≤ r) (ho : 0 ≤ o) : (setG n g b k c r o).Ok n := by
  unfold setG; split
  · rename_i hh
    simp only [Bool.and_eq_true, decide_eq_true_eq] at hh
    have hw := Tb.wordE_lt hk hc hr ho hh.2
    exact h.setE _ hw.1 (Int.lt_trans hw.2 (by decide))
  · exact h

/-- Where the first run begins, if there is one. -/
def FirstRun (M : Nat) (r : Int) (k : Nat) : Prop := Bm.isR M k r true = true ∧ ∀ j : Nat, j < k → Bm.isR M j r true = false
def NoneRun (M : Nat) (r : Int) : Prop := ∀ k : Nat, Bm.isR M k r true = false
theorem first_or_none (M : Nat) (r : Int) : (∃ k, k < 64 ∧ FirstRun M r k) ∨ NoneRun M r := by
  by_cases h : ∃ k : Nat, Bm.isR M k r true = true
  · refine .inl ?_
    have key : ∀ m : Nat, Bm.isR M m r true = true → ∃ k, k ≤ m ∧ FirstRun M r k := by
      intro m
      induction m using Nat.strongRecOn with
      | ind m ih =>
        intro hm
        by_cases h2 : ∃ j : Nat, j < m ∧ Bm.isR M j r true = true
        · obtain ⟨j, hj, hr⟩ := h2
          obtain ⟨k, hk, hf⟩ := ih j hj hr
          exact ⟨k, by omega, hf⟩
        · refine ⟨m, Nat.le_refl _, hm, fun j hj => ?_⟩
          cases hb : Bm.isR M j r true with
          | false => rfl
          | true => exact absurd ⟨j, hj, hb⟩ h2
    obtain ⟨m, hm⟩ := h
    obtain ⟨k, hk, hf⟩ := key m hm
    refine ⟨k, ?_, hf⟩
    have := hf.1
    simp only [Bm.isR, Bool.and_eq_true, decide_eq_true_eq] at this
    omega
  · refine .inr fun k => ?_
    cases hb : Bm.isR M k r true with
    | false => rfl
    | true => exact absurd ⟨k, hb⟩ h

/-- What a claim answers, and the map behind it. -/
def Claims (M : Nat) (r : Int) (at' : Int) (ok : Bool) (M' : Nat) : Prop :=
  (∃ k : Nat, k < 64 ∧ FirstRun M r k ∧ at' = k ∧ ok = true ∧ M' = Bm.setN M k r.toNat false) ∨ (NoneRun M r ∧ at' = 0 ∧ ok = false ∧ M' = M)
theorem claims_any (M : Nat) (r : Int) : ∃ at' ok M', Claims M r at' ok M' := by
  rcases first_or_none M r with ⟨k, h1, h2⟩ | h
  · exact ⟨_, _, _, .inl ⟨k, h1, h2, rfl, rfl, rfl⟩⟩
  · exact ⟨_, _, _, .inr ⟨h, rfl, rfl, rfl⟩⟩
theorem claims_lt {M : Nat} {r at' : Int} {ok : Bool} {M' : Nat} (h : Claims M r at' ok M') (hM : M < 18446744073709551616) : M' < 18446744073709551616 := by
  rcases h with ⟨k, _, _, _, _, h⟩ | ⟨_, _, _, h⟩
  · have := Bm.setN_lt M k r.toNat false
    rw [h]; omega
  · rw [h]; exact hM
theorem none_bad {M : Nat} {r : Int} (h : ¬ (1 ≤ r ∧ r ≤ 3)) : NoneRun M r := fun k => by
  simp only [Bm.isR, Bool.and_eq_false_iff, decide_eq_false_iff_not]; omega

/-- One block's turn, of an owner's that wait. -/
def waitsE (x o : Int) : Bool := Tb.takeE x && decide (x / 128 % 64 = o ∧ (x % 8 = 4 ∨ x % 8 = 5))
def turnG (n : Nat) (o : Int) (g : Gv) (i : Nat) : Gv := if waitsE (g.E.getD i 0) o then backG n g i (Tb.blkE (g.E.getD i 0 % 8) (g.E.getD i 0 / 32 % 4)) else g
def waitG (n : Nat) (o : Int) (g : Gv) : Nat → Gv
  | 0 => g
  | i + 1 => turnG n o (waitG n o g i) i
theorem Gv.Ok.turn {n : Nat} {g : Gv} (h : g.Ok n) (o : Int) (i : Nat) : (turnG n o g i).Ok n := by
  unfold turnG; split
  · exact h.back _ _
  · exact h
theorem Gv.Ok.wait {n : Nat} {g : Gv} (h : g.Ok n) (o : Int) (i : Nat) : (waitG n o g i).Ok n := by
  induction i with
  | zero => exact h
  | succ i ih => exact ih.turn o i

end Go.Proofs.YtinkpbenmfnnhaaDoor
