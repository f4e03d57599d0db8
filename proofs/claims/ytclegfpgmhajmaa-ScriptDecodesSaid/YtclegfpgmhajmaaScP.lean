/- Entries and bytes, plainly: which entry may be, its bytes, which bytes are a script; no bytes are two scripts. Conditions: as each lemma states them. -/
import GoSem.Claim
import Derived.OneCell
namespace Go.Proofs.Ytclegfpgmhajmaa
set_option linter.unusedVariables false
set_option linter.unusedSimpArgs false

/-- How many arguments an operation has. -/
def argsN (d : Int) : Nat := if d = 1 ∨ d = 2 ∨ d = 3 ∨ d = 5 then 3 else if d = 4 ∨ d = 6 ∨ d = 7 ∨ d = 8 then 2 else if d = 9 ∨ d = 10 ∨ d = 11 then 1 else 0
theorem argsN_le (d : Int) : argsN d ≤ 3 := by unfold argsN; split <;> (try split) <;> (try split) <;> omega

def plainB (d a b c : Int) : Bool := decide ((argsN d < 1 → a = 0) ∧ (argsN d < 2 → b = 0) ∧ (argsN d < 3 → c = 0))
def thrB (g d : Int) : Bool := decide (g < 64 ∧ d < 13)
def colB (g d : Int) : Bool := decide (g = 255 ∧ (d = 0 ∨ d = 13))
/-- Whether an entry may be. -/
def mayB (g d a b c : Int) : Bool := plainB d a b c && (thrB g d || colB g d)

/-- An entry. -/
structure Ent where
  g : UInt8
  d : UInt8
  a : UInt8
  b : UInt8
  c : UInt8

def u (x : UInt8) : Int := (x.toNat : Int)
theorem u_inj {x y : UInt8} (h : u x = u y) : x = y := by
  unfold u at h
  exact UInt8.toNat_inj.1 (by omega)
theorem u_zero {x : UInt8} (h : u x = 0) : x = 0 := u_inj (h.trans rfl)
theorem u_lt (x : UInt8) : 0 ≤ u x ∧ u x < 256 := by
  have := x.toNat_lt
  unfold u; omega
def Ent.n (e : Ent) : Nat := argsN (u e.d)
def Ent.may (e : Ent) : Bool := mayB (u e.g) (u e.d) (u e.a) (u e.b) (u e.c)
def Ent.bytes (e : Ent) : List UInt8 := [e.g, e.d] ++ [e.a, e.b, e.c].take e.n
theorem Ent.bytes_len (e : Ent) : e.bytes.length = 2 + e.n := by
  have := argsN_le (u e.d)
  unfold Ent.bytes Ent.n
  simp; omega
theorem Ent.n_le (e : Ent) : e.n ≤ 3 := argsN_le _

/-- What of an entry that may be is not there is 0. -/
theorem Ent.zeros {e : Ent} (h : e.may = true) : (e.n < 1 → e.a = 0) ∧ (e.n < 2 → e.b = 0) ∧ (e.n < 3 → e.c = 0) := by
  unfold Ent.may mayB at h
  rw [Bool.and_eq_true] at h
  have h1 := of_decide_eq_true h.1
  exact ⟨fun k => u_zero (h1.1 k), fun k => u_zero (h1.2.1 k), fun k => u_zero (h1.2.2 k)⟩

theorem Ent.inj {e f : Ent} {x y : List UInt8} (he : e.may = true) (hf : f.may = true) (h : e.bytes ++ x = f.bytes ++ y) : e = f ∧ x = y := by
  obtain ⟨z0, z1, z2⟩ := zeros he
  obtain ⟨y0, y1, y2⟩ := zeros hf
  have hn := e.n_le
  obtain ⟨g, d, a, b, c⟩ := e
  obtain ⟨g', d', a', b', c'⟩ := f
  unfold Ent.bytes at h
  simp only [List.cons_append, List.nil_append, List.append_assoc, List.cons.injEq] at h
  obtain ⟨rfl, rfl, h⟩ := h
  have e1 : Ent.n ⟨g, d, a', b', c'⟩ = Ent.n ⟨g, d, a, b, c⟩ := rfl
  rw [e1] at h y0 y1 y2
  generalize Ent.n ⟨g, d, a, b, c⟩ = n at *
  simp only at z0 z1 z2 y0 y1 y2
  have hc : n = 0 ∨ n = 1 ∨ n = 2 ∨ n = 3 := by omega
  rcases hc with rfl | rfl | rfl | rfl
  · simp at h
    rw [z0 (by omega), z1 (by omega), z2 (by omega), y0 (by omega), y1 (by omega), y2 (by omega)]
    exact ⟨rfl, h⟩
  · simp at h
    rw [z1 (by omega), z2 (by omega), y1 (by omega), y2 (by omega), h.1]
    exact ⟨rfl, h.2⟩
  · simp at h
    rw [z2 (by omega), y2 (by omega), h.1, h.2.1]
    exact ⟨rfl, h.2.2⟩
  · simp at h
    rw [h.1, h.2.1, h.2.2.1]
    exact ⟨rfl, h.2.2.2⟩

/-- A script's bytes. -/
def script (L : List Ent) : List UInt8 := L.flatMap Ent.bytes
theorem script_nil : script [] = [] := rfl
theorem script_cons (e : Ent) (L : List Ent) : script (e :: L) = e.bytes ++ script L := by simp [script]
theorem script_app (L M : List Ent) : script (L ++ M) = script L ++ script M := by simp [script]
theorem script_one (e : Ent) : script [e] = e.bytes := by simp [script]
theorem script_le : ∀ L : List Ent, (script L).length ≤ 5 * L.length
  | [] => by simp [script]
  | e :: L => by
    have := script_le L
    have h1 := e.bytes_len
    have h2 := e.n_le
    rw [script_cons]; simp; omega
theorem script_ge : ∀ L : List Ent, 2 * L.length ≤ (script L).length
  | [] => by simp
  | e :: L => by
    have := script_ge L
    have h1 := e.bytes_len
    rw [script_cons]; simp; omega
def allMay (L : List Ent) : Prop := ∀ e ∈ L, e.may = true
theorem allMay_nil : allMay [] := fun e h => by simp at h
theorem allMay_snoc {L : List Ent} {e : Ent} (h : allMay L) (he : e.may = true) : allMay (L ++ [e]) := by
  intro x hx
  rcases List.mem_append.1 hx with hx | hx
  · exact h x hx
  · rw [List.mem_singleton.1 hx]; exact he

/-- What begins as a script does is that script, and more. -/
theorem script_pre : ∀ (M L : List Ent) (r : List UInt8), allMay M → allMay L → script M ++ r = script L → ∃ L', L = M ++ L' ∧ script L' = r
  | [], L, r, _, _, h => ⟨L, rfl, h.symm⟩
  | e :: M, [], r, _, _, h => by
    have h1 := e.bytes_len
    have := congrArg List.length h
    rw [script_cons] at this
    simp [script_nil, h1] at this
  | e :: M, f :: L, r, hM, hL, h => by
    rw [script_cons, script_cons, List.append_assoc] at h
    obtain ⟨rfl, h2⟩ := Ent.inj (hM e (by simp)) (hL f (by simp)) h
    obtain ⟨L', rfl, h3⟩ := script_pre M L r (fun x hx => hM x (by simp [hx])) (fun x hx => hL x (by simp [hx])) h2
    exact ⟨L', rfl, h3⟩

/-- These bytes are the script L. -/
def Is (s : List UInt8) (L : List Ent) : Prop := allMay L ∧ script L = s
theorem Is.uniq {s : List UInt8} {L M : List Ent} (h : Is s L) (k : Is s M) : L = M := by
  obtain ⟨L', rfl, h2⟩ := script_pre L M [] h.1 k.1 (by rw [List.append_nil, h.2, k.2])
  have := script_ge L'
  rw [h2] at this
  have : L' = [] := List.eq_nil_of_length_eq_zero (by simp at this; omega)
  rw [this, List.append_nil]
/-- Bytes that are broken off. -/
theorem Is.cut {s : List UInt8} {L M : List Ent} {n : Nat} (h : Is s L) (k : Is (s.take n) M) : ∃ L', L = M ++ L' ∧ (n < s.length → 0 < L'.length) := by
  obtain ⟨L', rfl, h2⟩ := script_pre M L (s.drop n) k.1 h.1 (by rw [k.2, h.2, List.take_append_drop])
  refine ⟨L', rfl, fun hn => ?_⟩
  rcases Nat.eq_zero_or_pos L'.length with e | e
  · rw [List.eq_nil_of_length_eq_zero e] at h2
    have := congrArg List.length h2
    simp [script_nil] at this
    omega
  · exact e

/-- The entry at the head of bytes. -/
def entAt (r : List UInt8) : Ent := ⟨r.getD 0 0, r.getD 1 0, if 0 < argsN (u (r.getD 1 0)) then r.getD 2 0 else 0, if 1 < argsN (u (r.getD 1 0)) then r.getD 3 0 else 0, if 2 < argsN (u (r.getD 1 0)) then r.getD 4 0 else 0⟩
theorem entAt_n (r : List UInt8) : (entAt r).n = argsN (u (r.getD 1 0)) := rfl
theorem entAt_cut {r : List UInt8} (h : 2 + (entAt r).n ≤ r.length) : r = (entAt r).bytes ++ r.drop (2 + (entAt r).n) := by
  have hn := (entAt r).n_le
  match r, h with
  | [], h => simp at h
  | [x], h => simp at h; omega
  | g :: d :: t, h =>
    have e1 : (entAt (g :: d :: t)).n = argsN (u d) := rfl
    unfold Ent.bytes
    rw [e1] at h hn ⊢
    unfold entAt
    simp only [List.getD_cons_zero, List.getD_cons_succ]
    generalize argsN (u d) = n at *
    have hc : n = 0 ∨ n = 1 ∨ n = 2 ∨ n = 3 := by omega
    rcases hc with rfl | rfl | rfl | rfl
    · simp
    · match t, h with
      | a :: t, _ => simp
    · match t, h with
      | a :: b :: t, _ => simp
    · match t, h with
      | a :: b :: c :: t, _ => simp
theorem entAt_bytes (e : Ent) (h : e.may = true) (x : List UInt8) : entAt (e.bytes ++ x) = e := by
  obtain ⟨z0, z1, z2⟩ := e.zeros h
  have hn := e.n_le
  have hu : argsN (u e.d) = e.n := rfl
  obtain ⟨g, d, a, b, c⟩ := e
  unfold Ent.bytes entAt
  simp only [List.cons_append, List.nil_append, List.getD_cons_zero, List.getD_cons_succ]
  simp only at hu z0 z1 z2
  rw [hu]
  generalize Ent.n ⟨g, d, a, b, c⟩ = n at *
  have hc : n = 0 ∨ n = 1 ∨ n = 2 ∨ n = 3 := by omega
  rcases hc with rfl | rfl | rfl | rfl
  · rw [z0 (by omega), z1 (by omega), z2 (by omega)]; simp
  · rw [z1 (by omega), z2 (by omega)]; simp
  · rw [z2 (by omega)]; simp
  · simp

/-- Nothing that begins with L, and goes on so, is a script. -/
def Bad (r : List UInt8) : Prop := r.length < 2 ∨ r.length < 2 + (entAt r).n ∨ (entAt r).may = false
theorem Bad.no {L : List Ent} {r s : List UInt8} (hL : allMay L) (hs : script L ++ r = s) (h0 : r ≠ []) (hb : Bad r) : ∀ M, ¬ Is s M := by
  rintro M ⟨hM, hk⟩
  obtain ⟨L', rfl, h2⟩ := script_pre L M r hL hM (hs.trans hk.symm)
  match L', h2 with
  | [], h2 => exact h0 h2.symm
  | e :: L', h2 =>
    have he : e.may = true := hM e (by simp)
    rw [script_cons] at h2
    have h3 : entAt r = e := by rw [← h2]; exact entAt_bytes e he _
    have h4 : 2 + e.n ≤ r.length := by rw [← h2, List.length_append, e.bytes_len]; omega
    unfold Bad at hb
    rw [h3] at hb
    rcases hb with hb | hb | hb
    · omega
    · omega
    · rw [he] at hb; cases hb

/-- An entry's five numbers. -/
def Ent.cells (e : Ent) : List Value := [.int .u8 (u e.g), .int .u8 (u e.d), .int .u8 (u e.a), .int .u8 (u e.b), .int .u8 (u e.c)]
def cellsL (L : List Ent) : List Value := L.flatMap Ent.cells
theorem cellsL_len : ∀ L : List Ent, (cellsL L).length = L.length * 5
  | [] => rfl
  | e :: L => by
    have := cellsL_len L
    unfold cellsL at this ⊢
    rw [List.flatMap_cons, List.length_append, this]
    simp [Ent.cells]; omega
theorem cellsL_snoc (L : List Ent) (e : Ent) : cellsL (L ++ [e]) = cellsL L ++ e.cells := by simp [cellsL]
theorem cellsL_get : ∀ (L : List Ent) (i j : Nat) (e : Ent), L[i]? = some e → j < 5 → (cellsL L)[i * 5 + j]? = e.cells[j]?
  | [], i, j, e, h, _ => by simp at h
  | f :: L, 0, j, e, h, hj => by
    simp at h
    subst h
    unfold cellsL
    rw [List.flatMap_cons, List.getElem?_append_left (by simp [Ent.cells]; omega)]
    simp
  | f :: L, i + 1, j, e, h, hj => by
    have := cellsL_get L i j e (by simpa using h) hj
    unfold cellsL at this ⊢
    rw [List.flatMap_cons, List.getElem?_append_right (by simp [Ent.cells]; omega), ← this]
    congr 1
    simp [Ent.cells]; omega
theorem cellsL_one (L : List Ent) : ∀ v ∈ cellsL L, v.oneCell' = true := by
  intro v hv
  unfold cellsL at hv
  obtain ⟨e, _, h⟩ := List.mem_flatMap.1 hv
  simp only [Ent.cells, List.mem_cons, List.not_mem_nil, or_false] at h
  rcases h with rfl | rfl | rfl | rfl | rfl <;> rfl

/-- Bytes as a string. -/
def str (l : List UInt8) : ByteArray := ⟨l.toArray⟩
theorem str_data (s : ByteArray) : str s.data.toList = s := by
  apply ByteArray.ext
  simp [str]
theorem str_size (l : List UInt8) : (str l).size = l.length := by simp [str, ByteArray.size]
theorem data_str (l : List UInt8) : (str l).data.toList = l := rfl

end Go.Proofs.Ytclegfpgmhajmaa
