/- Law 18's heap, plainly, on: its things are made one behind the other, then their references and Global headers are set. The walks of law 15's own: what was made lies in blocks; Does, as the law takes it. Conditions: as each theorem states them. -/
import Derived.Test.YticbnckikkdknaaGreatDoorPn14
namespace Go.Proofs.YticbnckikkdknaaGreatDoor
set_option linter.unusedVariables false
set_option linter.unusedSimpArgs false

/-- A thing: its owner, references, size, whether it is Global, its colour, where its references lead. -/
structure Th where
  ow : Nat
  rf : Nat
  sz : Nat
  g : Bool
  c : Nat
  tl : List Nat
def Th0 : Th := ⟨0, 0, 0, false, 0, []⟩
def szO (x : Th) : Nat := x.sz % 40
def rfO (x : Th) : Nat := x.rf % (x.sz % 40 + 1)
/-- One thing is made. -/
def makeS (T n : Nat) (y : As × List Int) (x : Th) : As × List Int :=
  (madeS T n y.1 (x.ow % T) (rfO x) (szO x), y.2 ++ [(pmakeS T 0 n (x.ow % T) (y.1.wk (x.ow % T)) (rfO x) (szO x) (y.1.H, y.1.Rs (x.ow % T))).2.getD 0])
def makesN (T n : Nat) (l : List Th) : Nat → As × List Int
  | 0 => (As0 T n, [])
  | k + 1 => makeS T n (makesN T n l k) (l.getD k Th0)
/-- The place of a thing, by its number. -/
def atP (P : List Int) (m : Nat) : Int := if m = 0 ∨ P.length < m then 0 else P.getD (m - 1) 0
def refS (P : List Int) (a : Nat) (tl : List Nat) (H : List Int) : Nat → List Int
  | 0 => H
  | k + 1 => (refS P a tl H k).set (a + 1 + k) (atP P (tl.getD k 0))
def gwO (c : Nat) (x : Int) : Int := Wd.wordI 3 (c % 2 : Nat) (x / 32 % 64) (x / 2048 % 128) (x / 262144 % 128) false false
def kidS (P : List Int) (a : Nat) (x : Th) (H : List Int) : List Int :=
  if x.g then (refS P a x.tl H (min (H.getD a 0 / 2048 % 128).toNat x.tl.length)).set a (gwO x.c (H.getD a 0)) else refS P a x.tl H (min (H.getD a 0 / 2048 % 128).toNat x.tl.length)
def kidsN (P : List Int) (l : List Th) (H : List Int) : Nat → List Int
  | 0 => H
  | k + 1 => if P.getD k 0 = 0 then kidsN P l H k else kidS P (P.getD k 0).toNat (l.getD k Th0) (kidsN P l H k)

/-- Objects' headers and fields, over what lies where. -/
structure Hp (T n : Nat) (H : List Int) (Rs : Nat → Nat → List Int) (O : Obs) (V : Nat → Int) (F : Nat → Nat → Int) : Prop where
  base : ∃ H0, Cel T n H0 Rs O ∧ H.length = H0.length ∧ ∀ k, (∀ x o rf sz, O x = some (o, rf, sz) → ¬ (x ≤ k ∧ k ≤ x + sz)) → H.getD k 0 = H0.getD k 0
  hdr : ∀ x o rf sz, O x = some (o, rf, sz) → H.getD x 0 = V x
  fld : ∀ x o rf sz, O x = some (o, rf, sz) → ∀ k, k < sz → H.getD (x + 1 + k) 0 = F x k
section
variable {T n i c b : Nat} {H : List Int} {Rs : Nat → Nat → List Int} {O : Obs} {V : Nat → Int} {F : Nat → Nat → Int}

theorem Hp.of (h : Cel T n H Rs O) : Hp T n H Rs O (fun x => H.getD x 0) (fun _ _ => 0) :=
  ⟨⟨H, h, rfl, fun _ _ => rfl⟩, fun _ _ _ _ _ => rfl, fun x o rf sz hx k hk => (h.obj x o rf sz hx).2.2.2.2.1 k hk⟩
/-- An object's words lie behind the table, and in the arena. -/
theorem Cel.inn (h : Cel T n H Rs O) {x o rf sz : Nat} (hx : O x = some (o, rf, sz)) : hd T n 0 ≤ x ∧ x + sz < H.length ∧ o < T ∧ rf ≤ sz ∧ sz ≤ 95 := by
  obtain ⟨h1, h2, h3, _, _, h4⟩ := h.obj x o rf sz hx
  have hN := h.len
  rcases h4 with ⟨c1, b1, m1, hc1, hb1, hm1, hs1, rfl, he1⟩ | ⟨b1, r1, hr1, hr13, hb1, hs1, rfl, he1⟩
  · have p := pl_in (T := T) (n := n) (b := b1) hc1 hm1
    unfold hd at *; omega
  · unfold hd at *; omega
theorem Hp.len (h : Hp T n H Rs O V F) : H.length = 3 + T + 33 * n := by
  obtain ⟨H0, h0, h1, _⟩ := h.base
  rw [h1, h0.len]
theorem Hp.inn (h : Hp T n H Rs O V F) {x o rf sz : Nat} (hx : O x = some (o, rf, sz)) : hd T n 0 ≤ x ∧ x + sz < H.length ∧ o < T ∧ rf ≤ sz ∧ sz ≤ 95 := by
  obtain ⟨H0, h0, h1, _⟩ := h.base
  rw [h1]; exact h0.inn hx
theorem Hp.low (h : Hp T n H Rs O V F) {k : Nat} (hk : k < hd T n 0) : ∃ H0, Cel T n H0 Rs O ∧ H.length = H0.length ∧ ∀ k, k < hd T n 0 → H.getD k 0 = H0.getD k 0 := by
  obtain ⟨H0, h0, h1, h2⟩ := h.base
  exact ⟨H0, h0, h1, fun k hk => h2 k fun x o rf sz hx => by have := (h0.inn hx).1; omega⟩
theorem Hp.fit (h : Hp T n H Rs O V F) : Fit T n H Rs := by
  obtain ⟨H0, h0, h1, h2⟩ := h.low (k := 0) (by unfold hd; omega)
  refine h0.fit.words (h0.fit.iv.low ⟨h1, fun k hk => h2 k (by unfold hd; omega)⟩)
/-- A field is set. -/
theorem Hp.setF (h : Hp T n H Rs O V F) {x o rf sz k : Nat} (hx : O x = some (o, rf, sz)) (hk : k < sz) (v : Int) : Hp T n (H.set (x + 1 + k) v) Rs O V (fun y j => if y = x ∧ j = k then v else F y j) := by
  have hin := h.inn hx
  obtain ⟨H0, h0, h1, h2⟩ := h.base
  refine ⟨⟨H0, h0, by simpa using h1, fun j hj => ?_⟩, fun y o' rf' sz' hy => ?_, fun y o' rf' sz' hy j hj => ?_⟩
  · rw [getD_set', if_neg]
    · exact h2 j hj
    · rintro ⟨e, _⟩
      exact hj x o rf sz hx (by omega)
  · rw [getD_set', if_neg]
    · exact h.hdr y o' rf' sz' hy
    · rintro ⟨e, _⟩
      by_cases hxy : y = x
      · omega
      · rcases h0.apart hy hx hxy with q | q <;> omega
  · rw [getD_set']
    by_cases hxy : y = x
    · subst hxy
      by_cases hjk : j = k
      · subst hjk
        rw [if_pos ⟨rfl, by omega⟩]; simp
      · rw [if_neg (by omega)]
        simp only [hjk, and_false, if_false]
        exact h.fld y o' rf' sz' hy j hj
    · rw [if_neg]
      · simp only [hxy, false_and, if_false]
        exact h.fld y o' rf' sz' hy j hj
      · rintro ⟨e, _⟩
        rcases h0.apart hy hx hxy with q | q <;> omega
/-- A header is set. -/
theorem Hp.setV (h : Hp T n H Rs O V F) {x o rf sz : Nat} (hx : O x = some (o, rf, sz)) (v : Int) : Hp T n (H.set x v) Rs O (fun y => if y = x then v else V y) F := by
  have hin := h.inn hx
  obtain ⟨H0, h0, h1, h2⟩ := h.base
  refine ⟨⟨H0, h0, by simpa using h1, fun j hj => ?_⟩, fun y o' rf' sz' hy => ?_, fun y o' rf' sz' hy j hj => ?_⟩
  · rw [getD_set', if_neg]
    · exact h2 j hj
    · rintro ⟨e, _⟩
      exact hj x o rf sz hx (by omega)
  · rw [getD_set']
    by_cases hxy : y = x
    · subst hxy
      rw [if_pos ⟨rfl, by omega⟩, if_pos rfl]
    · rw [if_neg (fun z => hxy z.1), if_neg hxy]
      exact h.hdr y o' rf' sz' hy
  · rw [getD_set', if_neg]
    · exact h.fld y o' rf' sz' hy j hj
    · rintro ⟨e, _⟩
      by_cases hxy : y = x
      · omega
      · rcases h0.apart hy hx hxy with q | q <;> omega

/-- A heap whose objects are Local and not marked, or Global, and lead tl objects alone. -/
structure Gd (T n : Nat) (H : List Int) (Rs : Nat → Nat → List Int) (O : Obs) (V : Nat → Int) (F : Nat → Nat → Int) : Prop where
  hp : Hp T n H Rs O V F
  vk : ∀ x o rf sz, O x = some (o, rf, sz) → V x = hw o rf sz ∨ ∃ c : Nat, c ≤ 1 ∧ V x = Wd.wordI 3 c o rf sz false false
  fk : ∀ x o rf sz, O x = some (o, rf, sz) → ∀ k, k < sz → F x k = 0 ∨ ∃ y : Nat, F x k = y ∧ (O y).isSome = true
/-- Places of objects, or none. -/
def Pls (O : Obs) (P : List Int) : Prop := ∀ v ∈ P, v = 0 ∨ ∃ y : Nat, v = y ∧ (O y).isSome = true
theorem atP_ok {P : List Int} (h : Pls O P) (m : Nat) : atP P m = 0 ∨ ∃ y : Nat, atP P m = y ∧ (O y).isSome = true := by
  unfold atP
  split
  · exact .inl rfl
  · rename_i hm
    have hlt : m - 1 < P.length := by omega
    refine h _ ?_
    rw [List.getD_eq_getElem?_getD, List.getElem?_eq_getElem hlt]
    exact List.getElem_mem hlt
theorem Gd.of (h : Cel T n H Rs O) : Gd T n H Rs O (fun x => H.getD x 0) (fun _ _ => 0) :=
  ⟨Hp.of h, fun x o rf sz hx => .inl (h.obj x o rf sz hx).2.2.2.1, fun _ _ _ _ _ _ _ => .inl rfl⟩
theorem Gd.setF (h : Gd T n H Rs O V F) {x o rf sz k : Nat} (hx : O x = some (o, rf, sz)) (hk : k < sz) {v : Int} (hv : v = 0 ∨ ∃ y : Nat, v = y ∧ (O y).isSome = true) : ∃ F', Gd T n (H.set (x + 1 + k) v) Rs O V F' := by
  refine ⟨_, h.hp.setF hx hk v, h.vk, fun y o' rf' sz' hy j hj => ?_⟩
  by_cases e : y = x ∧ j = k
  · rw [if_pos e]; exact hv
  · rw [if_neg e]; exact h.fk y o' rf' sz' hy j hj
theorem Gd.setV (h : Gd T n H Rs O V F) {x o rf sz c : Nat} (hx : O x = some (o, rf, sz)) (hc : c ≤ 1) : ∃ V', Gd T n (H.set x (Wd.wordI 3 c o rf sz false false)) Rs O V' F := by
  refine ⟨_, h.hp.setV hx _, fun y o' rf' sz' hy => ?_, h.fk⟩
  by_cases e : y = x
  · subst e
    rw [hx] at hy
    simp only [Option.some.injEq, Prod.mk.injEq] at hy
    obtain ⟨rfl, rfl, rfl⟩ := hy
    rw [if_pos rfl]; exact .inr ⟨c, hc, rfl⟩
  · rw [if_neg e]; exact h.vk y o' rf' sz' hy
theorem Gd.refs (h : Gd T n H Rs O V F) {P : List Int} (hP : Pls O P) {x o rf sz : Nat} (hx : O x = some (o, rf, sz)) (tl : List Nat) : ∀ k, k ≤ sz → ∃ F', Gd T n (refS P x tl H k) Rs O V F'
  | 0, _ => ⟨F, h⟩
  | k + 1, hk => by
    obtain ⟨F', h'⟩ := h.refs hP hx tl k (by omega)
    exact h'.setF hx (by omega) (atP_ok hP _)
theorem parts_hw {k c o rf sz : Nat} (hk : k ≤ 3) (hc : c ≤ 1) (ho : o ≤ 63) (hr : rf ≤ 127) (hs : sz ≤ 127) : (Wd.wordI k c o rf sz false false) % 4 = k ∧ (Wd.wordI k c o rf sz false false) / 32 % 64 = o ∧ (Wd.wordI k c o rf sz false false) / 2048 % 128 = rf ∧ (Wd.wordI k c o rf sz false false) / 262144 % 128 = sz ∧ (Wd.wordI k c o rf sz false false) / 16 % 2 = 0 := by
  unfold Wd.wordI Wd.bitI
  simp only [Bool.false_eq_true, if_false]
  refine ⟨?_, ?_, ?_, ?_, ?_⟩ <;> omega
/-- What a header says. -/
theorem Gd.head (h : Gd T n H Rs O V F) (hT : T ≤ 64) {x o rf sz : Nat} (hx : O x = some (o, rf, sz)) : H.getD x 0 / 32 % 64 = o ∧ H.getD x 0 / 2048 % 128 = rf ∧ H.getD x 0 / 262144 % 128 = sz ∧ H.getD x 0 / 16 % 2 = 0 := by
  have hin := h.hp.inn hx
  rw [h.hp.hdr x o rf sz hx]
  rcases h.vk x o rf sz hx with e | ⟨c, hc, e⟩
  · rw [e]
    have := parts_hw (k := 2) (c := 0) (o := o) (rf := rf) (sz := sz) (by omega) (by omega) (by omega) (by omega) (by omega)
    exact ⟨this.2.1, this.2.2.1, this.2.2.2.1, this.2.2.2.2⟩
  · rw [e]
    have := parts_hw (k := 3) (c := c) (o := o) (rf := rf) (sz := sz) (by omega) hc (by omega) (by omega) (by omega)
    exact ⟨this.2.1, this.2.2.1, this.2.2.2.1, this.2.2.2.2⟩
theorem Gd.kid (h : Gd T n H Rs O V F) (hT : T ≤ 64) {P : List Int} (hP : Pls O P) {x o rf sz : Nat} (hx : O x = some (o, rf, sz)) (y : Th) : ∃ V' F', Gd T n (kidS P x y H) Rs O V' F' := by
  have hin := h.hp.inn hx
  obtain ⟨e1, e2, e3, e4⟩ := h.head hT hx
  obtain ⟨F', h'⟩ := h.refs hP hx y.tl (min (H.getD x 0 / 2048 % 128).toNat y.tl.length) (by rw [e2]; omega)
  unfold kidS
  split
  · have : gwO y.c (H.getD x 0) = Wd.wordI 3 ((y.c % 2 : Nat) : Int) o rf sz false false := by unfold gwO; rw [e1, e2, e3]
    rw [this]
    obtain ⟨V', hv⟩ := h'.setV hx (c := y.c % 2) (by omega)
    exact ⟨V', F', hv⟩
  · exact ⟨V, F', h'⟩
theorem Gd.kids (h : Gd T n H Rs O V F) (hT : T ≤ 64) {P : List Int} (hP : Pls O P) (l : List Th) : ∀ k, k ≤ P.length → ∃ V' F', Gd T n (kidsN P l H k) Rs O V' F'
  | 0, _ => ⟨V, F, h⟩
  | k + 1, hk => by
    obtain ⟨V', F', h'⟩ := h.kids hT hP l k (by omega)
    rw [kidsN]
    split
    · exact ⟨V', F', h'⟩
    · rename_i hne
      have hmem : P.getD k 0 ∈ P := by
        rw [List.getD_eq_getElem?_getD, List.getElem?_eq_getElem (show k < P.length by omega)]
        exact List.getElem_mem _
      rcases hP _ hmem with e | ⟨y, e, hy⟩
      · exact absurd e hne
      · rw [e, Int.toNat_natCast]
        cases hO : O y with
        | none => rw [hO] at hy; cases hy
        | some z =>
          obtain ⟨o, rf, sz⟩ := z
          exact h'.kid hT hP hO _
end
section
variable {T n : Nat}
theorem cel_begin (hT : 1 ≤ T) (hn : n ≤ 12) : Cel T n (As0 T n).H (As0 T n).Rs (fun _ => none) := by
  have hz : ∀ k, 1 ≤ k → ((List.replicate (3 + T + 33 * n) (0 : Int)).set 0 ((2 ^ n - 1 : Nat) : Int)).getD k 0 = 0 := fun k hk => by
    rw [getD_set', if_neg (by omega)]
    simp [List.getD_eq_getElem?_getD, List.getElem?_replicate]
    split <;> rfl
  refine ⟨fit_begin T n hn, fun b hb _ => hz _ (by omega), fun b hb => .inl (hz _ (by omega)), ?_, ?_⟩
  · intro o _ c _ x hx
    exact absurd hx (by simp [As0])
  · intro x o rf sz hx
    cases hx
theorem makes_good (hT : 1 ≤ T) (hT4 : T ≤ 4) (hn : n ≤ 12) (l : List Th) : ∀ k, ∃ O, Cel T n (makesN T n l k).1.H (makesN T n l k).1.Rs O ∧ Pls O (makesN T n l k).2 ∧ (makesN T n l k).2.length = k
  | 0 => ⟨_, cel_begin hT hn, fun v hv => absurd hv (by simp [makesN]), rfl⟩
  | k + 1 => by
    obtain ⟨O, h1, h2, h3⟩ := makes_good hT hT4 hn l k
    rw [makesN]
    generalize makesN T n l k = y at *
    generalize l.getD k Th0 = x
    have hi : x.ow % T < T := Nat.mod_lt _ (by omega)
    have hsz : szO x ≤ 95 := by unfold szO; omega
    have hrf : rfO x ≤ szO x := by
      have := Nat.mod_lt x.rf (show 0 < x.sz % 40 + 1 by omega)
      unfold rfO szO; omega
    unfold makeS madeS
    rcases h1.make (wk := y.1.wk (x.ow % T)) hi (by omega) (by omega) hrf hsz with ⟨e, h⟩ | ⟨a, e, hO, h⟩
    · refine ⟨O, h, fun v hv => ?_, by simp [h3]⟩
      simp only [List.mem_append, List.mem_singleton] at hv
      rcases hv with hv | rfl
      · exact h2 v hv
      · rw [e]; exact .inl rfl
    · refine ⟨_, h, fun v hv => ?_, by simp [h3]⟩
      simp only [List.mem_append, List.mem_singleton] at hv
      rcases hv with hv | rfl
      · rcases h2 v hv with q | ⟨z, q1, q2⟩
        · exact .inl q
        · refine .inr ⟨z, q1, ?_⟩
          by_cases ez : z = a
          · subst ez; rw [hO] at q2; cases q2
          · rw [setOb_ne ez]; exact q2
      · rw [e]; exact .inr ⟨a, rfl, by rw [setOb_same]; rfl⟩
end
end Go.Proofs.YticbnckikkdknaaGreatDoor

namespace Go.Proofs.YticbnckikkdknaaGreatDoor
set_option linter.unusedVariables false
set_option linter.unusedSimpArgs false
set_option maxRecDepth 100000
open Go.RowKit

/-- What was made lies in blocks; there are as many sizes. -/
structure Mok (T n k : Nat) (s : As) : Prop where
  pl : ∀ i, i < T → ∀ x ∈ s.made i, ((3 + T + n : Nat) : Int) ≤ x ∧ x < (3 + T + 33 * n : Nat)
  ln : ∀ i, i < T → (s.made i).length ≤ k ∧ (s.size i).length = (s.made i).length
theorem Mok.more {T n k k' : Nat} {s : As} (h : Mok T n k s) (hk : k ≤ k') : Mok T n k' s := ⟨h.pl, fun i hi => ⟨Nat.le_trans (h.ln i hi).1 hk, (h.ln i hi).2⟩⟩
theorem Mok.same {T n k : Nat} {s s' : As} (h : Mok T n k s) (h1 : s'.made = s.made) (h2 : s'.size = s.size) : Mok T n k s' := ⟨by rw [h1]; exact h.pl, by rw [h1, h2]; exact h.ln⟩
theorem Mok.made {T n k : Nat} {s : As} (h : Mok T n k s) (hf : Fit T n s.H s.Rs) {i rf sz : Nat} (hi : i < T) (hT : T ≤ 64) (hn : n ≤ 64) (hs : sz ≤ 95) : Mok T n (k + 1) (madeS T n s i rf sz) := by
  have hb := (pmake_fit (wk := s.wk i) (rf := rf) hf hi hT hn hs).2.2
  unfold madeS
  cases hres : (pmakeS T 0 n i (s.wk i) rf sz (s.H, s.Rs i)).2 with
  | none => exact ⟨h.pl, fun j hj => ⟨Nat.le_succ_of_le (h.ln j hj).1, (h.ln j hj).2⟩⟩
  | some x =>
    have hx := hb x hres
    refine ⟨fun j hj y hy => ?_, fun j hj => ?_⟩
    · by_cases e : j = i
      · subst e
        have hy' : y ∈ s.made j ++ [x] := by simpa [upd1_same] using hy
        rw [List.mem_append, List.mem_singleton] at hy'
        rcases hy' with z | z
        · exact h.pl j hj y z
        · omega
      · exact h.pl j hj y (by simpa [upd1_ne e] using hy)
    · by_cases e : j = i
      · subst e
        have := h.ln j hj
        simp only [upd1_same, List.length_append, List.length_cons, List.length_nil]
        omega
      · have := h.ln j hj
        simp only [upd1_ne e]
        omega
/-- One that was made is taken out. -/
def cutL (xs : List Int) (k : Nat) : List Int := xs.take k ++ xs.drop (k + 1)
theorem cutL_len {xs : List Int} {k : Nat} (h : k < xs.length) : (cutL xs k).length + 1 = xs.length := by
  unfold cutL
  rw [List.length_append, List.length_take, List.length_drop]
  omega
theorem Mok.cut {T n k m : Nat} {s : As} (h : Mok T n k s) {i : Nat} (hi : i < T) (hm : m < (s.made i).length) : Mok T n k { s with made := upd1 s.made i (cutL (s.made i) m), size := upd1 s.size i (cutL (s.size i) m) } := by
  refine ⟨fun j hj y hy => ?_, fun j hj => ?_⟩
  · by_cases e : j = i
    · subst e
      have hy' : y ∈ cutL (s.made j) m := by simpa [upd1_same] using hy
      unfold cutL at hy'
      rw [List.mem_append] at hy'
      rcases hy' with z | z
      · exact h.pl j hj y (List.mem_of_mem_take z)
      · exact h.pl j hj y (List.mem_of_mem_drop z)
    · exact h.pl j hj y (by simpa [upd1_ne e] using hy)
  · by_cases e : j = i
    · subst e
      have h1 := h.ln j hj
      have h2 := cutL_len hm
      have h3 := cutL_len (xs := s.size j) (k := m) (by omega)
      simp only [upd1_same]
      omega
    · simpa [upd1_ne e] using h.ln j hj
/-- What a region that cuts a row holds on to. -/
def D2 (T idx sp bb cc kb : Nat) (kk : Int) (wx : World) : Prop := wx.cell? ⟨sp, idx, none⟩ = some (.slice (some ⟨bb, 0, none⟩) T cc) ∧ wx.cell? ⟨kb, 2, none⟩ = some (.int .u8 kk)
theorem D2.keep {T idx sp bb cc kb : Nat} {kk : Int} {wx wy : World} {S : List Nat} (h : D2 T idx sp bb cc kb kk wx) (k : Kp S wx wy) (h1 : sp ∉ S) (h2 : kb ∉ S) : D2 T idx sp bb cc kb kk wy := ⟨kp_cell k h1 h.1, kp_cell k h2 h.2⟩
end Go.Proofs.YticbnckikkdknaaGreatDoor
