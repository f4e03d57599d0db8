/- The document's own graph (demesneref10): where it lies; what stays and what turns. Conditions: as each lemma states them. The document's own graph: Slot, object, ref, datum, set. The document's own graph: set. The document's own graph: object, ref, datum. The document's own graph: datum; how an act on it ends. Conditions: as each theorem states them. -/
import Derived.Test.YtmbhhadghiojeaaGreatGdP
import Derived.Test.YtmbhhadghiojeaaGreatDrR
import Derived.Test.YtmbhhadghiojeaaGreatDrU
import Derived.Deep.RegionHeld3
import Derived.BigQuiet
namespace Go.Proofs.YtmbhhadghiojeaaGreat
set_option linter.unusedVariables false
set_option linter.unusedSimpArgs false
open Go.RowKit

/-! ### a row of pairs -/
def prs (f g : Nat → Value) : Nat → List Value
  | 0 => []
  | k + 1 => prs f g k ++ [f k, g k]
theorem prs_len (f g : Nat → Value) : ∀ k, (prs f g k).length = k * 2
  | 0 => rfl
  | k + 1 => by rw [prs, List.length_append, prs_len f g k]; simp; omega
theorem prs_get (f g : Nat → Value) : ∀ k i, i < k → (prs f g k)[i * 2]? = some (f i) ∧ (prs f g k)[i * 2 + 1]? = some (g i)
  | 0, i, h => by omega
  | k + 1, i, h => by
    have hl := prs_len f g k
    rw [prs]
    by_cases e : i = k
    · subst e
      rw [List.getElem?_append_right (by omega), List.getElem?_append_right (by omega), hl]
      simp
    · obtain ⟨a, b⟩ := prs_get f g k i (by omega)
      rw [List.getElem?_append_left (by omega), List.getElem?_append_left (by omega)]
      exact ⟨a, b⟩
theorem prs_congr {f g f' g' : Nat → Value} : ∀ k, (∀ i, i < k → f i = f' i ∧ g i = g' i) → prs f g k = prs f' g' k
  | 0, _ => rfl
  | k + 1, h => by
    rw [prs, prs, prs_congr k fun i hi => h i (by omega), (h k (by omega)).1, (h k (by omega)).2]
theorem prs_ext {xs : List Value} {f g : Nat → Value} {k : Nat} (hl : xs.length = k * 2) (h : ∀ i, i < k → xs[i * 2]? = some (f i) ∧ xs[i * 2 + 1]? = some (g i)) : xs = prs f g k := by
  apply List.ext_getElem?
  intro j
  by_cases hj : j < k * 2
  · have h1 := h (j / 2) (by omega)
    have h2 := prs_get f g k (j / 2) (by omega)
    have e : j = j / 2 * 2 ∨ j = j / 2 * 2 + 1 := by omega
    rcases e with e | e
    · rw [e, h1.1, h2.1]
    · rw [e, h1.2, h2.2]
  · rw [List.getElem?_eq_none (by omega), List.getElem?_eq_none (by rw [prs_len]; omega)]

/-- n pairs, of type T, where a slice leads. -/
def Pr (T : TypeId) (w : World) (v : Value) (n : Nat) (f g : Nat → Value) : Prop := w.ownsRow 0 T 2 v n (prs f g n)
section
variable {T : TypeId} {w w' : World} {v : Value} {n : Nat} {f g : Nat → Value}
theorem Pr.keep {S : List Nat} (h : Pr T w v n f g) (k : Kp S w w') (hS : ∀ b ∈ blk v, b ∉ S) : Pr T w' v n f g := by
  refine ⟨h.1, ?_⟩
  rcases h.2 with h0 | ⟨b, c, cur, rfl, hge, hb, r⟩
  · exact .inl h0
  · exact .inr ⟨b, c, cur, rfl, hge, k.row (hS b (by simp [blk_some])) hb, r⟩
theorem Pr.block (h : Pr T w v n f g) : ∀ b ∈ blk v, ∃ cur, w.heap[b]? = some (.cells cur T (0, 0)) := by
  intro b hb
  rcases h.2 with ⟨rfl, _⟩ | ⟨b', c, cur, rfl, _, hb', _⟩
  · simp [blk_nil] at hb
  · rw [blk_some, List.mem_singleton] at hb
    exact ⟨cur, hb ▸ hb'⟩
theorem Pr.at (h : Pr T w v n f g) (hn : 0 < n) : ∃ b c cur, v = .slice (some ⟨b, 0, none⟩) n c ∧ w.heap[b]? = some (.cells cur T (0, 0)) ∧ n ≤ c ∧ cur.size = c * 2 ∧ ∀ i, i < n → cur[i * 2]? = some (f i) ∧ cur[i * 2 + 1]? = some (g i) := by
  rcases h.2 with ⟨_, h0⟩ | ⟨b, c, cur, rfl, _, hb, h1, h2, h3, h4⟩
  · omega
  · refine ⟨b, c, cur, rfl, hb, h1, h3, fun i hi => ?_⟩
    have h5 := prs_get f g n i hi
    rw [← h4, List.getElem?_take_of_lt (by omega), List.getElem?_take_of_lt (by omega)] at h5
    simpa using h5
theorem Pr.form (h : Pr T w v n f g) : ∃ ao c, v = .slice ao n c := by
  rcases h.2 with ⟨rfl, h0⟩ | ⟨b, c, cur, rfl, _⟩
  · exact ⟨none, 0, by rw [h0]⟩
  · exact ⟨_, c, rfl⟩
theorem Pr.congr {f' g' : Nat → Value} (h : Pr T w v n f g) (e : ∀ i, i < n → f i = f' i ∧ g i = g' i) : Pr T w v n f' g' := by
  unfold Pr
  rw [← prs_congr n e]
  exact h
/-- One pair is stored. -/
theorem Pr.set {b c : Nat} (h : Pr T w (.slice (some ⟨b, 0, none⟩) n c) n f g) {i : Nat} (hi : i < n) (x y : Value) : Pr T ((w.setCell ⟨b, i * 2, none⟩ x).setCell ⟨b, i * 2 + 1, none⟩ y) (.slice (some ⟨b, 0, none⟩) n c) n (up f i x) (up g i y) := by
  refine ⟨prs_len _ _ _, ?_⟩
  rcases h.2 with ⟨e, _⟩ | ⟨b', c', cur, e, hge, hb, h1, h2, h3, h4⟩
  · cases e
  · simp only [Value.slice.injEq, Option.some.injEq, Addr.mk.injEq, true_and, and_true] at e
    obtain ⟨rfl, rfl⟩ := e
    refine .inr ⟨b, c, _, rfl, hge, heap_setCell_same _ _ _ _ _ _ (heap_setCell_same _ _ _ _ _ _ hb), h1, h2, by simpa using h3, prs_ext ?_ fun j hj => ?_⟩
    · have h6 : ((cur.setIfInBounds (i * 2) x).setIfInBounds (i * 2 + 1) y).toList.length = c * 2 := by simpa using h3
      rw [List.length_take, h6]
      omega
    · have h5 := prs_get f g n j hj
      rw [← h4, List.getElem?_take_of_lt (by omega), List.getElem?_take_of_lt (by omega)] at h5
      rw [List.getElem?_take_of_lt (by omega), List.getElem?_take_of_lt (by omega)]
      have hc : c * 2 = cur.size := h3.symm
      by_cases e : j = i
      · subst e
        rw [up_same, up_same]
        constructor
        · rw [Array.getElem?_toList, Array.getElem?_setIfInBounds_ne (by omega), Array.getElem?_setIfInBounds_self_of_lt (by omega)]
        · rw [Array.getElem?_toList, Array.getElem?_setIfInBounds_self_of_lt (by simp; omega)]
      · rw [up_other _ _ e, up_other _ _ e, ← h5.1, ← h5.2]
        constructor
        · rw [Array.getElem?_toList, Array.getElem?_setIfInBounds_ne (by omega), Array.getElem?_setIfInBounds_ne (by omega), Array.getElem?_toList]
        · rw [Array.getElem?_toList, Array.getElem?_setIfInBounds_ne (by omega), Array.getElem?_setIfInBounds_ne (by omega), Array.getElem?_toList]
end

/-! ### the graph -/
structure Dl where
  tb : Nat
  tc : Nat
  o : Value
  u : Nat → Value
  v : Nat → Value
  ig : Nat → Nat
  ic : Nat → Nat
  dg : Nat → Nat
  dc : Nat → Nat
def refsV (y : Dl) (s : Gs) (n : Nat) : Value := .slice (some ⟨y.ig n, 0, none⟩) (s.R n).length (y.ic n)
def dataV (y : Dl) (s : Gs) (n : Nat) : Value := .slice (some ⟨y.dg n, 0, none⟩) (s.D n).length (y.dc n)
/-- The document's graph s at q, as y lays it. -/
structure Dy (w : World) (q : Nat) (s : Gs) (y : Dl) : Prop where
  hp : w.heap[q]? = some (.cells #[.slice (some ⟨y.tb, 0, none⟩) s.nt y.tc, refsV y s 0, y.o] 62 (0, 0))
  ht : Pr 64 w (.slice (some ⟨y.tb, 0, none⟩) s.nt y.tc) s.nt y.u y.v
  ho : Pr 81 w y.o s.m (fun k => refsV y s (k + 1)) (fun k => dataV y s (k + 1))
  hu : ∀ i, i < s.nt → Rd w (y.u i) (s.A i)
  hv : ∀ i, i < s.nt → Rd w (y.v i) (s.L i)
  la : ∀ i, i < s.nt → (s.A i).length ≤ 8 ∧ (s.L i).length ≤ 16
  hi : ∀ n, n ≤ s.m → Ro 3 .i64 w (y.ig n) (s.R n) ∧ (s.R n).length ≤ y.ic n
  hd : ∀ n, 1 ≤ n → n ≤ s.m → Ro 31 .u64 w (y.dg n) (s.D n) ∧ (s.D n).length ≤ y.dc n
  ai : ∀ n k, n ≤ s.m → k ≤ s.m → y.ig n = y.ig k → n = k
  ad : ∀ n k, 1 ≤ n → n ≤ s.m → 1 ≤ k → k ≤ s.m → y.dg n = y.dg k → n = k
  au : ∀ i n, i < s.nt → n ≤ s.m → y.ig n ∉ blk (y.u i) ∧ y.ig n ∉ blk (y.v i)
/-- The blocks in which it lies. -/
def Feet (q : Nat) (s : Gs) (y : Dl) (b : Nat) : Prop :=
  b = q ∨ b = y.tb ∨ b ∈ blk y.o ∨ (∃ i, i < s.nt ∧ (b ∈ blk (y.u i) ∨ b ∈ blk (y.v i))) ∨ (∃ n, n ≤ s.m ∧ b = y.ig n) ∨ (∃ n, 1 ≤ n ∧ n ≤ s.m ∧ b = y.dg n)

section
variable {w w' : World} {q : Nat} {s : Gs} {y : Dl}
theorem Dy.lt (h : Dy w q s y) {b : Nat} (hb : Feet q s y b) : b < w.heap.size := by
  rcases hb with rfl | rfl | hb | ⟨i, hi, hb | hb⟩ | ⟨n, hn, rfl⟩ | ⟨n, h1, hn, rfl⟩
  · exact lt_of_block h.hp
  · obtain ⟨cur, hc⟩ := h.ht.block y.tb (by simp [blk_some]); exact lt_of_block hc
  · obtain ⟨cur, hc⟩ := h.ho.block b hb; exact lt_of_block hc
  · exact (h.hu i hi).lt b hb
  · exact (h.hv i hi).lt b hb
  · exact (h.hi n hn).1.lt
  · exact (h.hd n h1 hn).1.lt
theorem Dy.keep {S : List Nat} (h : Dy w q s y) (k : Kp S w w') (hS : ∀ b ∈ S, ¬ Feet q s y b) : Dy w' q s y := by
  have nin : ∀ b, Feet q s y b → b ∉ S := fun b hb hin => hS b hin hb
  exact ⟨k.row (nin _ (.inl rfl)) h.hp, h.ht.keep k (fun b hb => nin b (by rw [blk_some, List.mem_singleton] at hb; exact .inr (.inl hb))), h.ho.keep k (fun b hb => nin b (.inr (.inr (.inl hb)))),
    fun i hi => (h.hu i hi).keep k (fun b hb => nin b (.inr (.inr (.inr (.inl ⟨i, hi, .inl hb⟩))))), fun i hi => (h.hv i hi).keep k (fun b hb => nin b (.inr (.inr (.inr (.inl ⟨i, hi, .inr hb⟩))))), h.la,
    fun n hn => ⟨(h.hi n hn).1.keep k (nin _ (.inr (.inr (.inr (.inr (.inl ⟨n, hn, rfl⟩)))))), (h.hi n hn).2⟩,
    fun n h1 hn => ⟨(h.hd n h1 hn).1.keep k (nin _ (.inr (.inr (.inr (.inr (.inr ⟨n, h1, hn, rfl⟩)))))), (h.hd n h1 hn).2⟩, h.ai, h.ad, h.au⟩
theorem Dy.keep0 (h : Dy w q s y) (k : Kp [] w w') : Dy w' q s y := h.keep k (by simp)
theorem Dy.c0 (h : Dy w q s y) : w.cell? ⟨q, 0, none⟩ = some (.slice (some ⟨y.tb, 0, none⟩) s.nt y.tc) := by rw [cell_of_row h.hp]; rfl
theorem Dy.c1 (h : Dy w q s y) : w.cell? ⟨q, 1, none⟩ = some (refsV y s 0) := by rw [cell_of_row h.hp]; rfl
theorem Dy.c2 (h : Dy w q s y) : w.cell? ⟨q, 2, none⟩ = some y.o := by rw [cell_of_row h.hp]; rfl
theorem Dy.tu (h : Dy w q s y) {i : Nat} (hi : i < s.nt) : w.cell? ⟨y.tb, i * 2, none⟩ = some (y.u i) ∧ w.cell? ⟨y.tb, i * 2 + 1, none⟩ = some (y.v i) ∧ w.frozen? ⟨y.tb, i * 2, none⟩ = false ∧ w.frozen? ⟨y.tb, i * 2 + 1, none⟩ = false := by
  obtain ⟨b, c, cur, e, hb, _, _, hc⟩ := h.ht.at (Nat.lt_of_le_of_lt (Nat.zero_le _) hi)
  simp only [Value.slice.injEq, Option.some.injEq, Addr.mk.injEq, true_and, and_true] at e
  obtain ⟨rfl, _⟩ := e
  exact ⟨by rw [cell_of_row hb, (hc i hi).1], by rw [cell_of_row hb, (hc i hi).2], free_of_row hb _, free_of_row hb _⟩
theorem Dy.ob (h : Dy w q s y) {n : Nat} (h1 : 1 ≤ n) (hn : n ≤ s.m) : ∃ b c, y.o = .slice (some ⟨b, 0, none⟩) s.m c ∧ w.cell? ⟨b, (n - 1) * 2, none⟩ = some (refsV y s n) ∧ w.cell? ⟨b, (n - 1) * 2 + 1, none⟩ = some (dataV y s n) := by
  obtain ⟨b, c, cur, e, hb, _, _, hc⟩ := h.ho.at (by omega)
  have := hc (n - 1) (by omega)
  rw [show n - 1 + 1 = n from by omega] at this
  exact ⟨b, c, e, by rw [cell_of_row hb, this.1], by rw [cell_of_row hb, this.2]⟩
/-- A thread's roots turn: struct t of T's row is stored anew. -/
theorem Dy.root {w1 : World} (h : Dy w1 q s y) {t : Nat} (ht : t < s.nt) {A' L' : List Int} {u' v' : Value} (hu : Rd w1 u' A') (hv : Rd w1 v' L') (la : A'.length ≤ 8 ∧ L'.length ≤ 16) (hi : ∀ n, n ≤ s.m → y.ig n ∉ blk u' ∧ y.ig n ∉ blk v') :
    Dy ((w1.setCell ⟨y.tb, t * 2, none⟩ u').setCell ⟨y.tb, t * 2 + 1, none⟩ v') q { s with A := up s.A t A', L := up s.L t L' } { y with u := up y.u t u', v := up y.v t v' } := by
  have k : Kp [y.tb] w1 ((w1.setCell ⟨y.tb, t * 2, none⟩ u').setCell ⟨y.tb, t * 2 + 1, none⟩ v') := ((Kp.refl _ _).setCell (.inl (by simp)) _).setCell (.inl (by simp)) _
  obtain ⟨cur, hb⟩ := h.ht.block y.tb (by simp [blk_some])
  have nr : ∀ {x : Value} {xs : List Int}, Rd w1 x xs → ∀ b ∈ blk x, b ∉ [y.tb] := fun hr b hbb => by simpa using hr.nin hb (by decide) b hbb
  refine ⟨k.row (by simpa using ne_types h.hp hb (by decide)) h.hp, h.ht.set ht u' v', h.ho.keep k (fun b hbb => ?_), fun i hi' => ?_, fun i hi' => ?_, fun i hi' => ?_, fun n hn => ⟨(h.hi n hn).1.keep k (by simpa using (h.hi n hn).1.ne hb (by decide)), (h.hi n hn).2⟩,
    fun n h1 hn => ⟨(h.hd n h1 hn).1.keep k (by simpa using (h.hd n h1 hn).1.ne hb (by decide)), (h.hd n h1 hn).2⟩, h.ai, h.ad, fun i n hi' hn => ?_⟩
  · obtain ⟨cur', hb'⟩ := h.ho.block b hbb
    simpa using ne_types hb' hb (by decide)
  · by_cases e : i = t
    · subst e
      show Rd _ (up y.u i u' i) (up s.A i A' i)
      rw [up_same, up_same]
      exact hu.keep k (nr hu)
    · show Rd _ (up y.u t u' i) (up s.A t A' i)
      rw [up_other _ _ e, up_other _ _ e]
      exact (h.hu i hi').keep k (nr (h.hu i hi'))
  · by_cases e : i = t
    · subst e
      show Rd _ (up y.v i v' i) (up s.L i L' i)
      rw [up_same, up_same]
      exact hv.keep k (nr hv)
    · show Rd _ (up y.v t v' i) (up s.L t L' i)
      rw [up_other _ _ e, up_other _ _ e]
      exact (h.hv i hi').keep k (nr (h.hv i hi'))
  · by_cases e : i = t
    · subst e
      show (up s.A i A' i).length ≤ 8 ∧ (up s.L i L' i).length ≤ 16
      rw [up_same, up_same]; exact la
    · show (up s.A t A' i).length ≤ 8 ∧ (up s.L t L' i).length ≤ 16
      rw [up_other _ _ e, up_other _ _ e]; exact h.la i hi'
  · by_cases e : i = t
    · subst e
      show y.ig n ∉ blk (up y.u i u' i) ∧ y.ig n ∉ blk (up y.v i v' i)
      rw [up_same, up_same]; exact hi n hn
    · show y.ig n ∉ blk (up y.u t u' i) ∧ y.ig n ∉ blk (up y.v t v' i)
      rw [up_other _ _ e, up_other _ _ e]; exact h.au i n hi' hn
/-- A reference of an object (or a global root) is stored. -/
theorem Dy.refs (h : Dy w q s y) {n : Nat} (hn : n ≤ s.m) {i : Nat} (hi : i < (s.R n).length) (x : Int) : Dy (w.setCell ⟨y.ig n, i, none⟩ (.int .i64 x)) q { s with R := up s.R n ((s.R n).set i x) } y := by
  have k : Kp [y.ig n] w (w.setCell ⟨y.ig n, i, none⟩ (.int .i64 x)) := (Kp.refl _ _).setCell (.inl (by simp)) _
  obtain ⟨cu, hrow, _⟩ := (h.hi n hn).1
  have hl : ∀ j, (up s.R n ((s.R n).set i x) j).length = (s.R j).length := fun j => by
    by_cases e : j = n
    · subst e; rw [up_same, List.length_set]
    · rw [up_other _ _ e]
  have hr : ∀ j, refsV y { s with R := up s.R n ((s.R n).set i x) } j = refsV y s j := fun j => by simp only [refsV, hl]
  refine ⟨?_, h.ht.keep k (fun b hb => ?_), (h.ho.keep k (fun b hb => ?_)).congr fun j _ => ⟨(hr _).symm, rfl⟩, fun j hj => (h.hu j hj).keep k (fun b hb => ?_), fun j hj => (h.hv j hj).keep k (fun b hb => ?_), h.la, fun j hj => ?_, fun j h1 hj => ⟨(h.hd j h1 hj).1.keep k ?_, (h.hd j h1 hj).2⟩, h.ai, h.ad, h.au⟩
  · rw [k.row (by simpa using ne_types h.hp hrow (by decide)) h.hp, hr]
  · obtain ⟨cur', hb'⟩ := h.ht.block b hb
    simpa using ne_types hb' hrow (by decide)
  · obtain ⟨cur', hb'⟩ := h.ho.block b hb
    simpa using ne_types hb' hrow (by decide)
  · rw [List.mem_singleton]; rintro rfl; exact (h.au j n hj hn).1 hb
  · rw [List.mem_singleton]; rintro rfl; exact (h.au j n hj hn).2 hb
  · refine ⟨?_, by rw [hl]; exact (h.hi j hj).2⟩
    by_cases e : j = n
    · subst e
      show Ro _ _ _ _ (up s.R j _ j)
      rw [up_same]; exact (h.hi j hj).1.set hi x
    · show Ro _ _ _ _ (up s.R n _ j)
      rw [up_other _ _ e]
      exact (h.hi j hj).1.keep k (by simpa using fun q => e (h.ai j n hj hn q))
  · simpa using (h.hd j h1 hj).1.ne hrow (by decide)
/-- A datum is stored. -/
theorem Dy.data (h : Dy w q s y) {n : Nat} (h1 : 1 ≤ n) (hn : n ≤ s.m) {i : Nat} (hi : i < (s.D n).length) (x : Int) : Dy (w.setCell ⟨y.dg n, i, none⟩ (.int .u64 x)) q { s with D := up s.D n ((s.D n).set i x) } y := by
  have k : Kp [y.dg n] w (w.setCell ⟨y.dg n, i, none⟩ (.int .u64 x)) := (Kp.refl _ _).setCell (.inl (by simp)) _
  obtain ⟨cu, hrow, _⟩ := (h.hd n h1 hn).1
  have hl : ∀ j, (up s.D n ((s.D n).set i x) j).length = (s.D j).length := fun j => by
    by_cases e : j = n
    · subst e; rw [up_same, List.length_set]
    · rw [up_other _ _ e]
  have hr : ∀ j, dataV y { s with D := up s.D n ((s.D n).set i x) } j = dataV y s j := fun j => by simp only [dataV, hl]
  refine ⟨k.row (by simpa using ne_types h.hp hrow (by decide)) h.hp, h.ht.keep k (fun b hb => ?_), (h.ho.keep k (fun b hb => ?_)).congr fun j _ => ⟨rfl, (hr _).symm⟩, fun j hj => (h.hu j hj).keep k (fun b hb => ?_), fun j hj => (h.hv j hj).keep k (fun b hb => ?_), h.la,
    fun j hj => ⟨(h.hi j hj).1.keep k ?_, (h.hi j hj).2⟩, fun j j1 hj => ?_, h.ai, h.ad, h.au⟩
  · obtain ⟨cur', hb'⟩ := h.ht.block b hb
    simpa using ne_types hb' hrow (by decide)
  · obtain ⟨cur', hb'⟩ := h.ho.block b hb
    simpa using ne_types hb' hrow (by decide)
  · simpa using (h.hu j hj).nin hrow (by decide) b hb
  · simpa using (h.hv j hj).nin hrow (by decide) b hb
  · simpa using (h.hi j hj).1.ne hrow (by decide)
  · refine ⟨?_, by rw [hl]; exact (h.hd j j1 hj).2⟩
    by_cases e : j = n
    · subst e
      show Ro _ _ _ _ (up s.D j _ j)
      rw [up_same]; exact (h.hd j j1 hj).1.set hi x
    · show Ro _ _ _ _ (up s.D n _ j)
      rw [up_other _ _ e]
      exact (h.hd j j1 hj).1.keep k (by simpa using fun q => e (h.ad j n j1 hj h1 hn q))
end

end Go.Proofs.YtmbhhadghiojeaaGreat

namespace Go.Proofs.YtmbhhadghiojeaaGreat
set_option linter.unusedVariables false
set_option linter.unusedSimpArgs false
open Go.RowKit

section
variable {w : World} {q : Nat} {s : Gs} {y : Dl} {M : Nat}
set_option maxRecDepth 100000 in
theorem dslot_bad (hy : Dy w q s y) (hw : Wf s M) {t k : Int} (h : bK s t k = true) : Calls Tryz.prog 44 #[.pointer (some ⟨q, 0, none⟩), .int .i64 t, .int .i64 k] w fun e w' => e = .returned (.tuple #[.int .i64 0, .int .i64 2]) ∧ w = w' := by
  have c0 := hy.c0
  have h64 := hw.n64
  cases ht : bT s t
  · obtain ⟨tn, rfl, htn⟩ := bT_no ht
    have hb : badS (s.A tn) k = true := by simpa [bK, ht] using h
    have c1 := (hy.tu htn).1
    obtain ⟨ao, cap, hu, -⟩ := (hy.hu tn htn).form
    rw [hu] at c1
    have h8 := (hy.la tn htn).1
    have hb := badS_or hb
    generalize s.nt = nt at c0 htn h64
    generalize (s.A tn).length = na at c1 h8 hb
    generalize y.tb = tb at c0 c1
    generalize y.tc = tc at c0
    clear hu h ht hy hw
    by_cases k0 : k < 0
    · clear hb
      go_enter Tryz.func44, Tryz.ntmps44
      go_wp2_with fail
      go_ret2
      exact ⟨rfl, rfl⟩
    · have k1 : (na : Int) ≤ k := by omega
      clear hb
      go_enter Tryz.func44, Tryz.ntmps44
      go_wp2_with fail
      go_ret2
      exact ⟨rfl, rfl⟩
  · have hb := bT_or ht
    generalize s.nt = nt at c0 hb h64
    generalize y.tb = tb at c0
    generalize y.tc = tc at c0
    clear h ht hy hw
    by_cases t0 : t < 0
    · clear hb
      go_enter Tryz.func44, Tryz.ntmps44
      go_wp2_with fail
      go_ret2
      exact ⟨rfl, rfl⟩
    · have k1 : (nt : Int) ≤ t := by omega
      clear hb
      go_enter Tryz.func44, Tryz.ntmps44
      go_wp2_with fail
      go_ret2
      exact ⟨rfl, rfl⟩

set_option maxRecDepth 100000 in
theorem dslot_ok (hy : Dy w q s y) (hw : Wf s M) {t k : Nat} (ht : t < s.nt) (hk : k < (s.A t).length) : Calls Tryz.prog 44 #[.pointer (some ⟨q, 0, none⟩), .int .i64 t, .int .i64 k] w fun e w' => e = .returned (.tuple #[.int .i64 ((s.A t).getD k 0), .int .i64 0]) ∧ w = w' := by
  have c0 := hy.c0
  have h64 := hw.n64
  have c1 := (hy.tu ht).1
  obtain ⟨ao, cap, hu, -⟩ := (hy.hu t ht).form
  have hr := hy.hu t ht
  rw [hu] at c1 hr
  obtain ⟨g, o, rfl, c2⟩ := hr.cellAt hk
  have h8 := (hy.la t ht).1
  generalize s.nt = nt at c0 ht h64
  generalize (s.A t).getD k 0 = x at c2 ⊢
  generalize (s.A t).length = na at c1 h8 hk
  generalize y.tb = tb at c0 c1
  generalize y.tc = tc at c0
  clear hu hr hy hw
  go_enter Tryz.func44, Tryz.ntmps44
  go_wp2_with fail
  go_ret2
  exact ⟨rfl, rfl⟩
end

end Go.Proofs.YtmbhhadghiojeaaGreat

namespace Go.Proofs.YtmbhhadghiojeaaGreat
set_option linter.unusedVariables false
set_option linter.unusedSimpArgs false
open Go.RowKit

/-- What holds while a thread's roots are turned. -/
def Sx (w0 : World) (q tb nt tc t : Nat) (u v : Value) (cur : Array Value) (w' : World) : Prop :=
  w'.cell? ⟨q, 0, none⟩ = some (.slice (some ⟨tb, 0, none⟩) nt tc) ∧ w'.cell? ⟨tb, t * 2, none⟩ = some u ∧ w'.cell? ⟨tb, t * 2 + 1, none⟩ = some v ∧ w'.heap[tb]? = some (.cells cur 64 (0, 0)) ∧ Kp [] w0 w'
section
variable {w0 w w' : World} {q tb nt tc t : Nat} {u v : Value} {cur : Array Value}
theorem sx_on (h : Sx w0 q tb nt tc t u v cur w) (k : Kp [] w w') : Sx w0 q tb nt tc t u v cur w' := ⟨k.cell (by simp) h.1, k.cell (by simp) h.2.1, k.cell (by simp) h.2.2.1, k.row (by simp) h.2.2.2.1, h.2.2.2.2.trans k⟩
theorem sx_drew (h : Sx w0 q tb nt tc t u v cur w) : Sx w0 q tb nt tc t u v cur w.drew := sx_on h (Kp.refl _ _).drew
theorem sx_kp (h : Sx w0 q tb nt tc t u v cur w) : Kp [] w0 w := h.2.2.2.2
end

/-- A thread's roots are stored: U and V, whose rows are those of before, or new. -/
def Stored (w : World) (tb t : Nat) (u v : Value) (A L : List Int) (w' : World) : Prop :=
  ∃ w1 u' v', w' = (w1.setCell ⟨tb, t * 2, none⟩ u').setCell ⟨tb, t * 2 + 1, none⟩ v' ∧ Rd w1 u' A ∧ Rd w1 v' L ∧ Kp [] w w1 ∧ Fro w u v u' ∧ Fro w u v v'

set_option maxRecDepth 100000 in
set_option maxHeartbeats 4000000 in
theorem dset_any {w : World} {q : Nat} {s : Gs} {y : Dl} {M : Nat} (hy : Dy w q s y) (hw : Wf s M) {t : Nat} (ht : t < s.nt) (k x : Int) :
    Calls Tryz.prog 77 #[.pointer (some ⟨q, 0, none⟩), .int .i64 t, .int .i64 k, .int .i64 x] w fun e w' => e = .returned (.tuple #[]) ∧ Stored w y.tb t (y.u t) (y.v t) (setA (s.A t) k x) (s.L t) w' := by
  have h64 := hw.n64
  have c0 := hy.c0
  obtain ⟨c1, c2, f1, f2⟩ := hy.tu ht
  obtain ⟨cur, hrow⟩ := hy.ht.block y.tb (by simp [blk_some])
  obtain ⟨ao, cap, hu, -⟩ := (hy.hu t ht).form
  obtain ⟨lo, lcap, hv, -⟩ := (hy.hv t ht).form
  have HU := Lib.hid (And.intro (hy.hu t ht) (hy.hv t ht))
  have h8 := (hy.la t ht).1
  have HS : Hid (∀ w', Kp [] w w' → Calls Tryz.prog 95 #[.agg #[y.u t, y.v t], .int .i64 k, .int .i64 x] w' (RAnsE w' (y.u t) (y.v t) (setA (s.A t) k x) (s.L t) (setE (s.A t) k x))) := Lib.hid fun w' kk => rset_any w' _ _ _ _ k x ((hy.hu t ht).keep0 kk) ((hy.hv t ht).keep0 kk) h8
  have B : Hid (Sx w q y.tb s.nt y.tc t (y.u t) (y.v t) cur w) := Lib.hid ⟨c0, c1, c2, hrow, Kp.refl _ _⟩
  obtain ⟨uu, huu⟩ : ∃ uu, uu = y.u t := ⟨_, rfl⟩
  obtain ⟨vv, hvv⟩ : ∃ vv, vv = y.v t := ⟨_, rfl⟩
  rw [← huu] at B HS c1 hu HU ⊢
  rw [← hvv] at B HS c2 hv HU ⊢
  generalize setA (s.A t) k x = A' at HS ⊢
  generalize setE (s.A t) k x = ee at HS
  generalize s.L t = L at *
  generalize (s.A t).length = na at hu
  generalize L.length = nl at hv
  generalize s.nt = nt at *
  generalize y.tb = tb at *
  generalize y.tc = tc at *
  clear hy hw huu hvv h8
  subst hu hv
  go_enter Tryz.func77, Tryz.ntmps77
  go_wp2_with fail
  go_region_with (
    go_at_call 95
    refine (HS.out _ (Kp.refl _ _).drew).mono ?_
    rintro e w5 ⟨u', v', rfl, r1, r2, k5, fu, fv⟩
    have S5 := Lib.hid (sx_on (sx_drew B.out) k5)
    have c5 := S5.out.1
    have e0 := S5.out.2.1
    have e1 := S5.out.2.2.1
    have g0 := free_of_row S5.out.2.2.2.1 (t * 2)
    have g1 := free_of_row S5.out.2.2.2.1 (t * 2 + 1)
    have R5 := Lib.hid (And.intro r1 (And.intro r2 (And.intro fu fv)))
    obtain ⟨ao5, c5', hu5, -⟩ := r1.form
    obtain ⟨lo5, d5, hv5, -⟩ := r2.form
    generalize A'.length = n5 at hu5
    generalize L.length = m5 at hv5
    subst hu5 hv5
    clear r1 r2 fu fv)
  all_goals
    go_end0
    exact ⟨rfl, w5, _, _, rfl, R5.out.1, R5.out.2.1, k5.drew_l, R5.out.2.2.1, R5.out.2.2.2⟩

end Go.Proofs.YtmbhhadghiojeaaGreat

namespace Go.Proofs.YtmbhhadghiojeaaGreat
set_option linter.unusedVariables false
set_option linter.unusedSimpArgs false
open Go.RowKit

section
variable {w : World} {q : Nat} {s : Gs} {y : Dl} {M : Nat}
/-- What a slot has, and whether it has something. -/
def objE (s : Gs) (t k : Int) : Int := if bK s t k then 2 else if ofS s t k = 0 then 5 else 0
def refE (s : Gs) (t k i : Int) : Int := heldE (bK s t k) (ofS s t k) (onR s t k) i
def slotV (s : Gs) (t k : Int) : Int := if bK s t k then 0 else ofS s t k
theorem dslot_any (hy : Dy w q s y) (hw : Wf s M) (t k : Int) : Calls Tryz.prog 44 #[.pointer (some ⟨q, 0, none⟩), .int .i64 t, .int .i64 k] w fun e w' => e = .returned (.tuple #[.int .i64 (slotV s t k), .int .i64 (clearE s t k)]) ∧ w = w' := by
  unfold slotV clearE
  cases h : bK s t k
  · obtain ⟨tn, kn, rfl, rfl, ht, hk⟩ := bK_no h
    exact dslot_ok hy hw ht hk
  · exact dslot_bad hy hw h
theorem slotV_in (hw : Wf s M) (t k : Int) : 0 ≤ slotV s t k ∧ slotV s t k ≤ s.m := by
  unfold slotV
  cases h : bK s t k
  · exact ofS_in hw (bK_bT h)
  · exact z_le s

set_option maxRecDepth 100000 in
theorem dobject_any (hy : Dy w q s y) (hw : Wf s M) (hM : M ≤ 10000) (t k : Int) : Calls Tryz.prog 96 #[.pointer (some ⟨q, 0, none⟩), .int .i64 t, .int .i64 k] w fun e w' => e = .returned (.tuple #[.int .i64 (slotV s t k - 1), .int .i64 (objE s t k)]) ∧ w = w' := by
  have hs := dslot_any hy hw t k
  have hin := slotV_in hw t k
  have hm := hw.m
  have hE : objE s t k = if clearE s t k = 0 then (if slotV s t k = 0 then 5 else 0) else clearE s t k := by
    unfold objE clearE slotV
    cases h : bK s t k <;> simp
  rw [hE]
  have hc : clearE s t k = 0 ∨ clearE s t k = 2 := by
    unfold clearE
    cases h : bK s t k <;> simp
  generalize clearE s t k = ee at hs hc ⊢
  generalize slotV s t k = x at hs hin ⊢
  generalize s.m = m at hin hm
  clear hE hy hw
  have hx : x ≤ 10000 := by omega
  have hx0 : 0 ≤ x := hin.1
  clear hin hm
  rcases hc with rfl | rfl
  · by_cases h0 : x = 0
    · subst h0
      go_enter Tryz.func96, Tryz.ntmps96
      go_wp2_with ((with_reducible refine hs.mono ?_); rintro e w1 ⟨rfl, rfl⟩)
      go_ret2
      exact ⟨rfl, rfl⟩
    · have hb : (x == 0) = false := by simp [h0]
      rw [if_pos rfl, if_neg h0]
      go_enter Tryz.func96, Tryz.ntmps96
      go_wp2_with ((with_reducible refine hs.mono ?_); rintro e w1 ⟨rfl, rfl⟩)
      go_ret2
      exact ⟨rfl, rfl⟩
  · go_enter Tryz.func96, Tryz.ntmps96
    go_wp2_with ((with_reducible refine hs.mono ?_); rintro e w1 ⟨rfl, rfl⟩)
    go_ret2
    exact ⟨rfl, rfl⟩

theorem objE_hold {t k i : Int} {xs : List Int} : heldE (bK s t k) (ofS s t k) xs i = if objE s t k = 0 then (if badS xs i then 2 else 0) else objE s t k := by
  unfold heldE objE
  cases h : bK s t k
  · by_cases h0 : ofS s t k = 0
    · simp [h0]
    · simp [h0]
  · simp
theorem objE_or (s : Gs) (t k : Int) : objE s t k = 0 ∨ objE s t k = 2 ∨ objE s t k = 5 := by
  unfold objE
  split
  · exact .inr (.inl rfl)
  · split
    · exact .inr (.inr rfl)
    · exact .inl rfl
/-- Where there is an object, its number. -/
theorem objE_z (hw : Wf s M) {t k : Int} (h : objE s t k = 0) : ∃ n : Nat, slotV s t k = n ∧ ofS s t k = n ∧ 1 ≤ n ∧ n ≤ s.m := by
  unfold objE at h
  cases hb : bK s t k
  · rw [hb, if_neg (by simp)] at h
    have h0 : ofS s t k ≠ 0 := fun e => by rw [if_pos e] at h; cases h
    have hin := ofS_in hw (k := k) (bK_bT hb)
    refine ⟨(ofS s t k).toNat, ?_, by omega, by omega, by omega⟩
    unfold slotV
    rw [hb]
    simp
    omega
  · rw [hb, if_pos rfl] at h; cases h

set_option maxRecDepth 100000 in
theorem dref_any (hy : Dy w q s y) (hw : Wf s M) (hM : M ≤ 10000) (t k i : Int) : Calls Tryz.prog 78 #[.pointer (some ⟨q, 0, none⟩), .int .i64 t, .int .i64 k, .int .i64 i] w fun e w' => e = .returned (.tuple #[.int .i64 (slotV s t k - 1), .int .i64 (refE s t k i)]) ∧ w = w' := by
  have hs := dobject_any hy hw hM t k
  rw [refE, objE_hold]
  have hin := slotV_in hw t k
  have hm := hw.m
  have hc := objE_or s t k
  by_cases h0 : objE s t k = 0
  · obtain ⟨n, hn, hn2, h1, hnm⟩ := objE_z hw h0
    rw [if_pos h0]
    rw [h0, hn] at hs
    rw [hn]
    have c2 := hy.c2
    obtain ⟨b, c, hob, c3, c4⟩ := hy.ob h1 hnm
    rw [hob] at c2
    have hR : onR s t k = s.R n := by unfold onR; rw [hn2]; rfl
    rw [hR]
    have h95 := hw.r95 n h1 hnm
    obtain ⟨n', rfl⟩ : ∃ n', n = n' + 1 := ⟨n - 1, by omega⟩
    rw [show n' + 1 - 1 = n' from by omega] at c3
    unfold refsV at c3
    have hbs : ∀ b, badS (s.R (n' + 1)) i = b → ((decide (i < 0) || decide (((s.R (n' + 1)).length : Int) ≤ i)) = b) := fun b h => h
    have e1 : ((n' + 1 : Nat) : Int) - 1 = (n' : Int) := by omega
    rw [e1] at hs ⊢
    generalize hl : (s.R (n' + 1)).length = l at c3 h95 hbs
    generalize y.ig (n' + 1) = g at c3
    generalize y.ic (n' + 1) = gc at c3
    generalize s.m = m at c2 hm hnm
    clear hob c4 hR hn hn2 h0 hc hin e1
    have hl95 : l ≤ 95 := by omega
    cases hbb : badS (s.R (n' + 1)) i
    · have hb2 := hbs _ hbb
      rw [Bool.or_eq_false_iff] at hb2
      obtain ⟨hb3, hb4⟩ := hb2
      have i0 : 0 ≤ i := by simpa using hb3
      have i1 : i < (l : Int) := by simpa using hb4
      clear hbs hbb hy hw hl h95
      go_enter Tryz.func78, Tryz.ntmps78
      go_wp2_with ((with_reducible refine hs.mono ?_); rintro e w1 ⟨rfl, rfl⟩)
      go_ret2
      exact ⟨rfl, rfl⟩
    · have hb2 := hbs _ hbb
      clear hbs hbb hy hw hl h95
      by_cases i0 : i < 0
      · clear hb2
        go_enter Tryz.func78, Tryz.ntmps78
        go_wp2_with ((with_reducible refine hs.mono ?_); rintro e w1 ⟨rfl, rfl⟩)
        go_ret2
        exact ⟨rfl, rfl⟩
      · have i1 : (l : Int) ≤ i := by
          rcases Bool.or_eq_true _ _ ▸ hb2 with h | h
          · exact absurd (by simpa using h) i0
          · simpa using h
        clear hb2
        go_enter Tryz.func78, Tryz.ntmps78
        go_wp2_with ((with_reducible refine hs.mono ?_); rintro e w1 ⟨rfl, rfl⟩)
        go_ret2
        exact ⟨rfl, rfl⟩
  · rw [if_neg h0]
    have hc := hc.resolve_left h0
    have hb : (objE s t k == 0) = false := by simp [h0]
    generalize objE s t k = ee at *
    generalize slotV s t k = x at *
    clear hy hw hin h0
    rcases hc with rfl | rfl <;>
    · clear hb
      go_enter Tryz.func78, Tryz.ntmps78
      go_wp2_with ((with_reducible refine hs.mono ?_); rintro e w1 ⟨rfl, rfl⟩)
      go_ret2
      exact ⟨rfl, rfl⟩
end

end Go.Proofs.YtmbhhadghiojeaaGreat

namespace Go.Proofs.YtmbhhadghiojeaaGreat
set_option linter.unusedVariables false
set_option linter.unusedSimpArgs false
open Go.RowKit

section
variable {w : World} {q : Nat} {s : Gs} {y : Dl} {M : Nat}
set_option maxRecDepth 100000 in
theorem ddatum_any (hy : Dy w q s y) (hw : Wf s M) (hM : M ≤ 10000) (t k i : Int) : Calls Tryz.prog 79 #[.pointer (some ⟨q, 0, none⟩), .int .i64 t, .int .i64 k, .int .i64 i] w fun e w' => e = .returned (.tuple #[.int .i64 (slotV s t k - 1), .int .i64 (readE s t k i)]) ∧ w = w' := by
  have hs := dobject_any hy hw hM t k
  rw [readE, objE_hold]
  have hin := slotV_in hw t k
  have hm := hw.m
  have hc := objE_or s t k
  by_cases h0 : objE s t k = 0
  · obtain ⟨n, hn, hn2, h1, hnm⟩ := objE_z hw h0
    rw [if_pos h0]
    rw [h0, hn] at hs
    rw [hn]
    have c2 := hy.c2
    obtain ⟨b, c, hob, c3, c4⟩ := hy.ob h1 hnm
    rw [hob] at c2
    have hR : onD s t k = s.D n := by unfold onD; rw [hn2]; rfl
    rw [hR]
    have h95 := hw.r95 n h1 hnm
    obtain ⟨n', rfl⟩ : ∃ n', n = n' + 1 := ⟨n - 1, by omega⟩
    rw [show n' + 1 - 1 = n' from by omega] at c4
    unfold dataV at c4
    have hbs : ∀ b, badS (s.D (n' + 1)) i = b → ((decide (i < 0) || decide (((s.D (n' + 1)).length : Int) ≤ i)) = b) := fun b h => h
    have e1 : ((n' + 1 : Nat) : Int) - 1 = (n' : Int) := by omega
    rw [e1] at hs ⊢
    generalize hl : (s.D (n' + 1)).length = l at c4 h95 hbs
    generalize y.dg (n' + 1) = g at c4
    generalize y.dc (n' + 1) = gc at c4
    generalize s.m = m at c2 hm hnm
    clear hob c3 hR hn hn2 h0 hc hin e1
    have hl95 : l ≤ 95 := by omega
    cases hbb : badS (s.D (n' + 1)) i
    · have hb2 := hbs _ hbb
      rw [Bool.or_eq_false_iff] at hb2
      obtain ⟨hb3, hb4⟩ := hb2
      have i0 : 0 ≤ i := by simpa using hb3
      have i1 : i < (l : Int) := by simpa using hb4
      clear hbs hbb hy hw hl h95
      go_enter Tryz.func79, Tryz.ntmps79
      go_wp2_with ((with_reducible refine hs.mono ?_); rintro e w1 ⟨rfl, rfl⟩)
      go_ret2
      exact ⟨rfl, rfl⟩
    · have hb2 := hbs _ hbb
      clear hbs hbb hy hw hl h95
      by_cases i0 : i < 0
      · clear hb2
        go_enter Tryz.func79, Tryz.ntmps79
        go_wp2_with ((with_reducible refine hs.mono ?_); rintro e w1 ⟨rfl, rfl⟩)
        go_ret2
        exact ⟨rfl, rfl⟩
      · have i1 : (l : Int) ≤ i := by
          rcases Bool.or_eq_true _ _ ▸ hb2 with h | h
          · exact absurd (by simpa using h) i0
          · simpa using h
        clear hb2
        go_enter Tryz.func79, Tryz.ntmps79
        go_wp2_with ((with_reducible refine hs.mono ?_); rintro e w1 ⟨rfl, rfl⟩)
        go_ret2
        exact ⟨rfl, rfl⟩
  · rw [if_neg h0]
    have hc := hc.resolve_left h0
    have hb : (objE s t k == 0) = false := by simp [h0]
    generalize objE s t k = ee at *
    generalize slotV s t k = x at *
    clear hy hw hin h0
    rcases hc with rfl | rfl <;>
    · clear hb
      go_enter Tryz.func79, Tryz.ntmps79
      go_wp2_with ((with_reducible refine hs.mono ?_); rintro e w1 ⟨rfl, rfl⟩)
      go_ret2
      exact ⟨rfl, rfl⟩
end

/-- The document's graph s at q, in F. -/
def Dx (F : Nat → Prop) (w : World) (q : Nat) (s : Gs) : Prop := ∃ y, Dy w q s y ∧ ∀ b, Feet q s y b → F b
/-- How an act leaves it. -/
def Left (F : Nat → Prop) (w : World) (q : Nat) (s' : Gs) (w' : World) : Prop := Dx (nw F w w') w' q s' ∧ Fr F w w'
section
variable {F : Nat → Prop} {w w' : World} {q : Nat} {s s' : Gs} {y : Dl}
theorem Dx.mono {F' : Nat → Prop} (h : Dx F w q s) (hF : ∀ b, F b → F' b) : Dx F' w q s := by
  obtain ⟨y, hy, hf⟩ := h
  exact ⟨y, hy, fun b hb => hF b (hf b hb)⟩
theorem Dx.on (h : Dx F w q s) (k : Kp [] w w') : Dx F w' q s := by
  obtain ⟨y, hy, hf⟩ := h
  exact ⟨y, hy.keep0 k, hf⟩
theorem left_same (hy : Dy w q s y) (hf : ∀ b, Feet q s y b → F b) : Left F w q s w := ⟨⟨y, hy, fun b hb => .inl (hf b hb)⟩, Fr.of (Kp.refl [] w) (by simp)⟩
theorem left_stored (hy : Dy w q s y) (hf : ∀ b, Feet q s y b → F b) {t : Nat} (ht : t < s.nt) {A L : List Int} (la : A.length ≤ 8 ∧ L.length ≤ 16) (h : Stored w y.tb t (y.u t) (y.v t) A L w') :
    Left F w q { s with A := up s.A t A, L := up s.L t L } w' := by
  obtain ⟨w1, u', v', rfl, ru, rv, k1, fu, fv⟩ := h
  have hy1 := hy.keep0 k1
  have k2 : Kp [y.tb] w ((w1.setCell ⟨y.tb, t * 2, none⟩ u').setCell ⟨y.tb, t * 2 + 1, none⟩ v') := ((kp_then k1 (Kp.refl _ _)).setCell (.inl (by simp)) _).setCell (.inl (by simp)) _
  have nin : ∀ x, Fro w (y.u t) (y.v t) x → ∀ n, n ≤ s.m → y.ig n ∉ blk x := fun x fx n hn hb => by
    rcases fx _ hb with h | h | h
    · exact (hy.au t n ht hn).1 h
    · exact (hy.au t n ht hn).2 h
    · have := (hy.hi n hn).1.lt; omega
  have hs1 : ((w1.setCell ⟨y.tb, t * 2, none⟩ u').setCell ⟨y.tb, t * 2 + 1, none⟩ v').heap.size = w1.heap.size := by simp [World.setCell]
  have inn : ∀ x xs, Fro w (y.u t) (y.v t) x → Rd w1 x xs → ∀ b ∈ blk x, nw F w ((w1.setCell ⟨y.tb, t * 2, none⟩ u').setCell ⟨y.tb, t * 2 + 1, none⟩ v') b := fun x xs fx hr b hb => by
    rcases fx _ hb with h | h | h
    · exact .inl (hf b (.inr (.inr (.inr (.inl ⟨t, ht, .inl h⟩)))))
    · exact .inl (hf b (.inr (.inr (.inr (.inl ⟨t, ht, .inr h⟩)))))
    · exact .inr ⟨h, by rw [hs1]; exact hr.lt b hb⟩
  refine ⟨⟨_, hy1.root ht ru rv la fun n hn => ⟨nin _ fu n hn, nin _ fv n hn⟩, fun b hb => ?_⟩, Fr.of k2 fun x hx => hf x (by rw [List.mem_singleton] at hx; exact .inr (.inl hx))⟩
  rcases hb with hb | hb | hb | ⟨i, hi, hb⟩ | hb | hb
  · exact .inl (hf b (.inl hb))
  · exact .inl (hf b (.inr (.inl hb)))
  · exact .inl (hf b (.inr (.inr (.inl hb))))
  · have hi : i < s.nt := hi
    have hb : b ∈ blk (up y.u t u' i) ∨ b ∈ blk (up y.v t v' i) := hb
    by_cases e : i = t
    · subst e
      rw [up_same, up_same] at hb
      rcases hb with hb | hb
      · exact inn _ _ fu ru b hb
      · exact inn _ _ fv rv b hb
    · rw [up_other _ _ e, up_other _ _ e] at hb
      exact .inl (hf b (.inr (.inr (.inr (.inl ⟨i, hi, hb⟩)))))
  · exact .inl (hf b (.inr (.inr (.inr (.inr (.inl hb))))))
  · exact .inl (hf b (.inr (.inr (.inr (.inr (.inr hb))))))
theorem left_refs (hy : Dy w q s y) (hf : ∀ b, Feet q s y b → F b) {n : Nat} (hn : n ≤ s.m) {i : Nat} (hi : i < (s.R n).length) (x : Int) : Left F w q { s with R := up s.R n ((s.R n).set i x) } (w.setCell ⟨y.ig n, i, none⟩ (.int .i64 x)) :=
  ⟨⟨y, hy.refs hn hi x, fun b hb => .inl (hf b hb)⟩, Fr.of (S := [y.ig n]) ((Kp.refl _ _).setCell (.inl (by simp)) _) fun b hb => hf b (by rw [List.mem_singleton] at hb; exact .inr (.inr (.inr (.inr (.inl ⟨n, hn, hb⟩)))))⟩
theorem left_data (hy : Dy w q s y) (hf : ∀ b, Feet q s y b → F b) {n : Nat} (h1 : 1 ≤ n) (hn : n ≤ s.m) {i : Nat} (hi : i < (s.D n).length) (x : Int) : Left F w q { s with D := up s.D n ((s.D n).set i x) } (w.setCell ⟨y.dg n, i, none⟩ (.int .u64 x)) :=
  ⟨⟨y, hy.data h1 hn hi x, fun b hb => .inl (hf b hb)⟩, Fr.of (S := [y.dg n]) ((Kp.refl _ _).setCell (.inl (by simp)) _) fun b hb => hf b (by rw [List.mem_singleton] at hb; exact .inr (.inr (.inr (.inr (.inr ⟨n, h1, hn, hb⟩)))))⟩
/-- A slot that there is is set. -/
theorem left_set (hy : Dy w q s y) (hf : ∀ b, Feet q s y b → F b) {t d : Nat} (ht : t < s.nt) (hd : d < (s.A t).length) {x : Int} (hx : 0 ≤ x) (h : Stored w y.tb t (y.u t) (y.v t) (setA (s.A t) d x) (s.L t) w') : Left F w q (setS s t d x) w' := by
  have e : setA (s.A t) d x = (s.A t).set d x := by
    unfold setA badS
    rw [if_neg (by simp; omega)]
    rfl
  rw [e] at h
  have := left_stored hy hf ht (by rw [List.length_set]; exact hy.la t ht) h
  rw [up_id] at this
  exact this
end

end Go.Proofs.YtmbhhadghiojeaaGreat
