/- Layer 10's graph: what it is, plainly; where it lies; what stays and what turns. Conditions: as each lemma states them. Layer 10's map of objects: made, looked up, stored into, counted; rows that are made. Conditions: as each lemma states them. Conditions: as each theorem states them. -/
import Derived.Test.YtmbhhadghiojeaaGreatGrA
import Derived.Maps.Own
import Derived.Maps.OwnSet
import Derived.Maps.Views
import Derived.Maps.Range
import Derived.WalkArith
import Derived.WalkKit
namespace Go.Proofs.YtmbhhadghiojeaaGreat
set_option linter.unusedVariables false
set_option linter.unusedSimpArgs false
open Go.RowKit Go.Maps

/-- A graph, plainly: threads' slots and stacks; how many objects there are; the references (of 0: the global roots'), the data of each. -/
structure Gs where
  nt : Nat
  A : Nat → List Int
  L : Nat → List Int
  m : Nat
  R : Nat → List Int
  D : Nat → List Int

def up {α : Type} (f : Nat → α) (k : Nat) (x : α) : Nat → α := fun j => if j = k then x else f j
theorem up_same {α : Type} (f : Nat → α) (k : Nat) (x : α) : up f k x k = x := if_pos rfl
theorem up_other {α : Type} (f : Nat → α) {k j : Nat} (x : α) (h : j ≠ k) : up f k x j = f j := if_neg h

/-- Where it lies. -/
structure Ly where
  tb : Nat
  tc : Nat
  B : Nat
  qs : Nat → Nat
  ig : Nat → Nat
  ic : Nat → Nat
  dg : Nat → Nat
  dc : Nat → Nat

/-- The numbers xs, from the block's first cell on. -/
def Ro (T : TypeId) (k : IntKind) (w : World) (g : Nat) (xs : List Int) : Prop :=
  ∃ cur : Array Value, w.heap[g]? = some (.cells cur T (0, 0)) ∧ ∀ i, i < xs.length → cur[i]? = some (.int k (xs.getD i 0))

section
variable {T : TypeId} {k : IntKind} {w w' : World} {g : Nat} {xs : List Int}
theorem Ro.keep {S : List Nat} (h : Ro T k w g xs) (q : Kp S w w') (hg : g ∉ S) : Ro T k w' g xs := by
  obtain ⟨cur, hc, hx⟩ := h
  exact ⟨cur, q.row hg hc, hx⟩
theorem Ro.keep0 (h : Ro T k w g xs) (q : Kp [] w w') : Ro T k w' g xs := h.keep q (by simp)
theorem Ro.lt (h : Ro T k w g xs) : g < w.heap.size := by
  obtain ⟨cur, hc, hx⟩ := h
  exact lt_of_block hc
theorem Ro.cell (h : Ro T k w g xs) {i : Nat} (hi : i < xs.length) : w.cell? ⟨g, i, none⟩ = some (.int k (xs.getD i 0)) := by
  obtain ⟨cur, hc, hx⟩ := h
  rw [cell_of_row hc, hx i hi]
theorem Ro.set (h : Ro T k w g xs) {i : Nat} (hi : i < xs.length) (y : Int) : Ro T k (w.setCell ⟨g, i, none⟩ (.int k y)) g (xs.set i y) := by
  obtain ⟨cur, hc, hx⟩ := h
  refine ⟨_, heap_setCell_same _ _ _ _ _ _ hc, fun j hj => ?_⟩
  rw [List.length_set] at hj
  rw [getD_set xs i j y hi]
  by_cases e : j = i
  · subst e
    have := (Array.getElem?_eq_some_iff.1 (hx j hj)).1
    rw [Array.getElem?_setIfInBounds_self_of_lt this, if_pos rfl]
  · rw [Array.getElem?_setIfInBounds_ne (Ne.symm e), if_neg e]
    exact hx j hj
theorem Ro.rows {T' : TypeId} {k' : IntKind} {g' : Nat} {ys : List Int} (h : Ro T k w g xs) (h' : Ro T' k' w g' ys) (hT : T ≠ T') : g ≠ g' := by
  obtain ⟨cur, hc, _⟩ := h
  obtain ⟨cur', hc', _⟩ := h'
  exact ne_types hc hc' hT
theorem Ro.ne {b : Nat} {cs : Array Value} {t : TypeId} (h : Ro T k w g xs) (hb : w.heap[b]? = some (.cells cs t (0, 0))) (hT : T ≠ t) : g ≠ b := by
  obtain ⟨cur, hc, _⟩ := h
  exact ne_types hc hb hT
end

/-- How an element reads: as itself. -/
def heldR (v : Value) : Option (DataW Value × List MemPlace) := some (.held v, [])
theorem heldR_inv {v v' : Value} {ps : List MemPlace} (h : heldR v = some (.held v', ps)) : v = v' := by
  simp [heldR] at h
  exact h.1
/-- Block B is a map of the numbers from 1 to m, f of each. -/
def Mo (w : World) (B m : Nat) (f : Nat → Value) : Prop :=
  ∃ D : DataW Value, w.ownsMap Tryz.prog 3 heldR B m D ∧ Maps.size D = m ∧ (∀ l, Maps.has D l = true → ∃ n : Nat, 1 ≤ n ∧ n ≤ m ∧ l = .int .i64 n) ∧ (∀ n : Nat, 1 ≤ n → n ≤ m → Maps.has D (.int .i64 n) = true) ∧ ∀ n : Nat, 1 ≤ n → n ≤ m → ∀ z, D.atKey (.int .i64 n) z = .held (f n)

def obj (ig ic dg dc : Nat → Nat) (R D : Nat → List Int) (n : Nat) : Value := .agg #[.slice (some ⟨ig n, 0, none⟩) (R n).length (ic n), .slice (some ⟨dg n, 0, none⟩) (D n).length (dc n)]
def Ly.obj (y : Ly) (s : Gs) (n : Nat) : Value := YtmbhhadghiojeaaGreat.obj y.ig y.ic y.dg y.dc s.R s.D n

/-- The graph s at p, as y lays it. -/
structure Gy (w : World) (p : Nat) (s : Gs) (y : Ly) : Prop where
  hp : w.heap[p]? = some (.cells #[.slice (some ⟨y.tb, 0, none⟩) s.nt y.tc, .slice (some ⟨y.ig 0, 0, none⟩) (s.R 0).length (y.ic 0), .map (some y.B)] 54 (0, 0))
  ht : ∃ cur : Array Value, w.heap[y.tb]? = some (.cells cur 55 (0, 0)) ∧ ∀ i, i < s.nt → cur[i]? = some (.pointer (some ⟨y.qs i, 0, none⟩))
  hq : ∀ i, i < s.nt → Rt w (y.qs i) (s.A i) (s.L i)
  hi : ∀ n, n ≤ s.m → Ro 3 .i64 w (y.ig n) (s.R n)
  hd : ∀ n, 1 ≤ n → n ≤ s.m → Ro 31 .u64 w (y.dg n) (s.D n)
  hm : Mo w y.B s.m (y.obj s)
  aq : ∀ i j, i < s.nt → j < s.nt → y.qs i = y.qs j → i = j
  ai : ∀ n k, n ≤ s.m → k ≤ s.m → y.ig n = y.ig k → n = k
  ad : ∀ n k, 1 ≤ n → n ≤ s.m → 1 ≤ k → k ≤ s.m → y.dg n = y.dg k → n = k

/-- The blocks in which it lies. -/
def Foot (p : Nat) (s : Gs) (y : Ly) (b : Nat) : Prop :=
  b = p ∨ b = y.tb ∨ b = y.B ∨ (∃ i, i < s.nt ∧ b = y.qs i) ∨ (∃ n, n ≤ s.m ∧ b = y.ig n) ∨ (∃ n, 1 ≤ n ∧ n ≤ s.m ∧ b = y.dg n)

theorem Mo.heap {w : World} {B m : Nat} {f : Nat → Value} (h : Mo w B m f) : ∃ es clock, w.heap[B]? = some (.map es clock) := by
  obtain ⟨D, ⟨es, clock, hb, _⟩, _⟩ := h
  exact ⟨es, clock, hb⟩
theorem Mo.ne {w : World} {B m b : Nat} {f : Nat → Value} {cs : Array Value} {t : TypeId} {fr : Nat × Nat} (h : Mo w B m f) (hb : w.heap[b]? = some (.cells cs t fr)) : B ≠ b := by
  obtain ⟨_, _, hm⟩ := h.heap
  intro e; subst e
  have := hm.symm.trans hb
  simp at this
theorem Mo.keep {w w' : World} {B m : Nat} {f : Nat → Value} {S : List Nat} (h : Mo w B m f) (k : Kp S w w') (hB : B ∉ S) : Mo w' B m f := by
  obtain ⟨D, ⟨es, clock, hb, r⟩, h2⟩ := h
  exact ⟨D, ⟨es, clock, k.row hB hb, r⟩, h2⟩
theorem Mo.congr {w : World} {B m : Nat} {f f' : Nat → Value} (h : Mo w B m f) (e : ∀ n, 1 ≤ n → n ≤ m → f n = f' n) : Mo w B m f' := by
  obtain ⟨D, h1, h2, h3, h4, h5⟩ := h
  exact ⟨D, h1, h2, h3, h4, fun n a b z => by rw [h5 n a b z, e n a b]⟩

section
variable {w w' : World} {p : Nat} {s : Gs} {y : Ly}
theorem Gy.lt (h : Gy w p s y) {b : Nat} (hb : Foot p s y b) : b < w.heap.size := by
  rcases hb with rfl | rfl | rfl | ⟨i, hi, rfl⟩ | ⟨n, hn, rfl⟩ | ⟨n, h1, hn, rfl⟩
  · exact lt_of_block h.hp
  · obtain ⟨cur, hc, _⟩ := h.ht; exact lt_of_block hc
  · obtain ⟨_, _, hm⟩ := h.hm.heap; exact lt_of_block hm
  · exact (h.hq i hi).lt
  · exact (h.hi n hn).lt
  · exact (h.hd n h1 hn).lt
theorem Gy.keep {S : List Nat} (h : Gy w p s y) (k : Kp S w w') (hS : ∀ b ∈ S, ¬ Foot p s y b) : Gy w' p s y := by
  have nin : ∀ b, Foot p s y b → b ∉ S := fun b hb hin => hS b hin hb
  refine ⟨k.row (nin _ (.inl rfl)) h.hp, ?_, fun i hi => (h.hq i hi).keep k (nin _ (.inr (.inr (.inr (.inl ⟨i, hi, rfl⟩))))), fun n hn => (h.hi n hn).keep k (nin _ (.inr (.inr (.inr (.inr (.inl ⟨n, hn, rfl⟩)))))),
    fun n h1 hn => (h.hd n h1 hn).keep k (nin _ (.inr (.inr (.inr (.inr (.inr ⟨n, h1, hn, rfl⟩)))))), h.hm.keep k (nin _ (.inr (.inr (.inl rfl)))), h.aq, h.ai, h.ad⟩
  obtain ⟨cur, hc, hx⟩ := h.ht
  exact ⟨cur, k.row (nin _ (.inr (.inl rfl))) hc, hx⟩
theorem Gy.keep0 (h : Gy w p s y) (k : Kp [] w w') : Gy w' p s y := h.keep k (by simp)

theorem Gy.c0 (h : Gy w p s y) : w.cell? ⟨p, 0, none⟩ = some (.slice (some ⟨y.tb, 0, none⟩) s.nt y.tc) := by rw [cell_of_row h.hp]; rfl
theorem Gy.c1 (h : Gy w p s y) : w.cell? ⟨p, 1, none⟩ = some (.slice (some ⟨y.ig 0, 0, none⟩) (s.R 0).length (y.ic 0)) := by rw [cell_of_row h.hp]; rfl
theorem Gy.c2 (h : Gy w p s y) : w.cell? ⟨p, 2, none⟩ = some (.map (some y.B)) := by rw [cell_of_row h.hp]; rfl
theorem Gy.ct (h : Gy w p s y) {i : Nat} (hi : i < s.nt) : w.cell? ⟨y.tb, i, none⟩ = some (.pointer (some ⟨y.qs i, 0, none⟩)) := by
  obtain ⟨cur, hc, hx⟩ := h.ht
  rw [cell_of_row hc, hx i hi]

/-- A thread's roots turn. -/
theorem Gy.root (h : Gy w p s y) {t : Nat} (ht : t < s.nt) {A' L' : List Int} (hR : Rt w' (y.qs t) A' L') (k : Kp [y.qs t] w w') : Gy w' p { s with A := up s.A t A', L := up s.L t L' } y := by
  obtain ⟨csq, hrow⟩ := (h.hq t ht).row
  obtain ⟨cur, hc, hx⟩ := h.ht
  refine ⟨k.row ?_ h.hp, ⟨cur, k.row ?_ hc, hx⟩, fun i hi => ?_, fun n hn => (h.hi n hn).keep k ?_, fun n h1 hn => (h.hd n h1 hn).keep k ?_, h.hm.keep k ?_, h.aq, h.ai, h.ad⟩
  · simpa using ne_types h.hp hrow (by decide)
  · simpa using ne_types hc hrow (by decide)
  · by_cases e : i = t
    · subst e
      show Rt w' (y.qs i) (up s.A i A' i) (up s.L i L' i)
      rw [up_same, up_same]; exact hR
    · show Rt w' (y.qs i) (up s.A t A' i) (up s.L t L' i)
      rw [up_other _ _ e, up_other _ _ e]
      exact (h.hq i hi).keep k (by simpa using fun q => e (h.aq i t hi ht q))
  · simpa using (h.hi n hn).ne hrow (by decide)
  · simpa using (h.hd n h1 hn).ne hrow (by decide)
  · simpa using h.hm.ne hrow

/-- A reference of an object (or a global root) is stored. -/
theorem Gy.refs (h : Gy w p s y) {n : Nat} (hn : n ≤ s.m) {i : Nat} (hi : i < (s.R n).length) (x : Int) (hR : Ro 3 .i64 w' (y.ig n) ((s.R n).set i x)) (k : Kp [y.ig n] w w') : Gy w' p { s with R := up s.R n ((s.R n).set i x) } y := by
  obtain ⟨cu, hrow, _⟩ := h.hi n hn
  obtain ⟨cur, hc, hx⟩ := h.ht
  have hl : ∀ j, (up s.R n ((s.R n).set i x) j).length = (s.R j).length := fun j => by
    by_cases e : j = n
    · subst e; rw [up_same, List.length_set]
    · rw [up_other _ _ e]
  refine ⟨?_, ⟨cur, k.row ?_ hc, hx⟩, fun i hi => (h.hq i hi).keep k ?_, fun j hj => ?_, fun j h1 hj => (h.hd j h1 hj).keep k ?_, ((h.hm.keep k ?_).congr fun j _ _ => ?_), h.aq, h.ai, h.ad⟩
  · rw [k.row (by simpa using ne_types h.hp hrow (by decide)) h.hp]
    rw [hl 0]
  · simpa using ne_types hc hrow (by decide)
  · obtain ⟨csq, hq⟩ := (h.hq i hi).row
    simpa using ne_types hq hrow (by decide)
  · by_cases e : j = n
    · subst e
      show Ro _ _ w' _ (up s.R j _ j)
      rw [up_same]; exact hR
    · show Ro _ _ w' _ (up s.R n _ j)
      rw [up_other _ _ e]
      exact (h.hi j hj).keep k (by simpa using fun q => e (h.ai j n hj hn q))
  · simpa using (h.hd j h1 hj).ne hrow (by decide)
  · simpa using h.hm.ne hrow
  · show Ly.obj _ _ _ = Ly.obj _ _ _
    simp only [Ly.obj, obj, hl]

/-- A datum is stored. -/
theorem Gy.data (h : Gy w p s y) {n : Nat} (h1 : 1 ≤ n) (hn : n ≤ s.m) {i : Nat} (hi : i < (s.D n).length) (x : Int) (hR : Ro 31 .u64 w' (y.dg n) ((s.D n).set i x)) (k : Kp [y.dg n] w w') : Gy w' p { s with D := up s.D n ((s.D n).set i x) } y := by
  obtain ⟨cu, hrow, _⟩ := h.hd n h1 hn
  obtain ⟨cur, hc, hx⟩ := h.ht
  have hl : ∀ j, (up s.D n ((s.D n).set i x) j).length = (s.D j).length := fun j => by
    by_cases e : j = n
    · subst e; rw [up_same, List.length_set]
    · rw [up_other _ _ e]
  refine ⟨k.row ?_ h.hp, ⟨cur, k.row ?_ hc, hx⟩, fun i hi => (h.hq i hi).keep k ?_, fun j hj => (h.hi j hj).keep k ?_, fun j j1 hj => ?_, ((h.hm.keep k ?_).congr fun j _ _ => ?_), h.aq, h.ai, h.ad⟩
  · simpa using ne_types h.hp hrow (by decide)
  · simpa using ne_types hc hrow (by decide)
  · obtain ⟨csq, hq⟩ := (h.hq i hi).row
    simpa using ne_types hq hrow (by decide)
  · simpa using (h.hi j hj).ne hrow (by decide)
  · by_cases e : j = n
    · subst e
      show Ro _ _ w' _ (up s.D j _ j)
      rw [up_same]; exact hR
    · show Ro _ _ w' _ (up s.D n _ j)
      rw [up_other _ _ e]
      exact (h.hd j j1 hj).keep k (by simpa using fun q => e (h.ad j n j1 hj h1 hn q))
  · simpa using h.hm.ne hrow
  · show Ly.obj _ _ _ = Ly.obj _ _ _
    simp only [Ly.obj, obj, hl]
end

end Go.Proofs.YtmbhhadghiojeaaGreat

namespace Go.Proofs.YtmbhhadghiojeaaGreat
set_option linter.unusedVariables false
set_option linter.unusedSimpArgs false
open Go.RowKit Go.Maps

theorem kint : Keyed Tryz.prog 3 := int_keyed Tryz.underlying3
def zobj : Value := .agg #[.slice none 0 0, .slice none 0 0]
theorem zero_obj (w : World) : (zeroValue 75).run Tryz.prog w = .ok zobj w := by kernel_rfl
theorem wf_nat {n : Nat} (h : n ≤ 100000) : (Lit.int .i64 (n : Int)).wf = true := by
  refine WalkArith.wf_i64 ?_
  omega

theorem Mo.at {w : World} {B m : Nat} {f : Nat → Value} (h : Mo w B m f) {n : Nat} (h1 : 1 ≤ n) (hn : n ≤ m) (hb : n ≤ 100000) :
    (Instr.lookup 51 (.map (some B)) (.int .i64 n) false).run Tryz.prog w = .ok (f n) w := by
  obtain ⟨D, ho, _, _, _, h5⟩ := h
  obtain ⟨v, ps, hrun, hv⟩ := ho.lookup kint Tryz.underlying51 (zero_obj w) rfl (keyOf_int_mk Tryz.underlying3 (wf_nat hb))
  rw [h5 n h1 hn] at hv
  rw [hrun, heldR_inv hv]
theorem Mo.ok {w : World} {B m : Nat} {f : Nat → Value} (h : Mo w B m f) {n : Nat} (h1 : 1 ≤ n) (hn : n ≤ m) (hb : n ≤ 100000) :
    (Instr.lookup 51 (.map (some B)) (.int .i64 n) true).run Tryz.prog w = .ok (.tuple #[f n, .bool true]) w := by
  obtain ⟨D, ho, _, _, h4, h5⟩ := h
  obtain ⟨v, ps, hrun, hv⟩ := ho.look_ok kint Tryz.underlying51 (zero_obj w) rfl (keyOf_int_mk Tryz.underlying3 (wf_nat hb))
  rw [h5 n h1 hn] at hv
  rw [hrun, heldR_inv hv, h4 n h1 hn]
theorem Mo.no {w : World} {B m : Nat} {f : Nat → Value} (h : Mo w B m f) {x : Int} (hw : (Lit.int .i64 x).wf = true) (hx : x < 1 ∨ (m : Int) < x) :
    (Instr.lookup 51 (.map (some B)) (.int .i64 x) true).run Tryz.prog w = .ok (.tuple #[zobj, .bool false]) w := by
  obtain ⟨D, ho, _, h3, _, _⟩ := h
  obtain ⟨v, ps, hrun, hv⟩ := ho.look_ok kint Tryz.underlying51 (zero_obj w) rfl (keyOf_int_mk Tryz.underlying3 hw)
  have hf : Maps.has D (.int .i64 x) = false := Bool.eq_false_iff.2 fun hh => by
    obtain ⟨n, a, b, e⟩ := h3 _ hh
    injection e with _ e
    omega
  rw [atKey_of_not_has hf] at hv
  rw [hrun, heldR_inv hv, hf]
theorem Mo.len {w : World} {B m : Nat} {f : Nat → Value} (h : Mo w B m f) (ty : TypeId) : (Builtin.len_ #[51] ty #[.map (some B)]).run Tryz.prog w = .ok (.int .i64 m) w := by
  obtain ⟨D, ho, h2, _⟩ := h
  rw [ho.len Tryz.underlying51 ty, h2]
theorem Mo.made (w : World) (f : Nat → Value) : Mo (w.alloc (.map #[] 0)) w.heap.size 0 f := by
  refine ⟨_, World.ownsMap_made w Tryz.prog 3 heldR, rfl, fun l h => ?_, fun n a b => by omega, fun n a b => by omega⟩
  simp [Maps.has] at h
theorem Mo.put {w : World} {B m : Nat} {f : Nat → Value} (h : Mo w B m f) (hm : m ≤ 10000) (u : Value) :
    ∃ w', (Instr.mapUpdate 51 (.map (some B)) (.int .i64 ((m : Int) + 1)) u).run Tryz.prog w = .ok () w' ∧ Mo w' B (m + 1) (up f (m + 1) u) ∧ Kp [B] w w' := by
  obtain ⟨D, ho, h2, h3, h4, h5⟩ := h
  have hw : (Lit.int .i64 ((m : Int) + 1)).wf = true := wf_nat (n := m + 1) (by omega)
  obtain ⟨w', hrun, ho', hg⟩ := ho.update (val := u) (d := .held u) (ps := []) kint Tryz.underlying51 (by unfold maxLen; omega) (keyOf_int_mk Tryz.underlying3 hw) rfl
  have hno : Maps.has D (.int .i64 ((m : Int) + 1)) = false := Bool.eq_false_iff.2 fun hh => by
    obtain ⟨n, a, b, e⟩ := h3 _ hh
    injection e with _ e
    omega
  have hkl : WideAt.IsKeyLit (.int .i64 ((m : Int) + 1)) := trivial
  refine ⟨w', hrun, ⟨_, ho', ?_, fun l hl => ?_, fun n a b => ?_, fun n a b z => ?_⟩, (Kp.refl [B] w).grown hg (fun j hj => by cases hj; simp)⟩
  · rw [size_put (ho.tidy kint), hno, h2]; rfl
  · by_cases e : l = .int .i64 ((m : Int) + 1)
    · exact ⟨m + 1, by omega, Nat.le_refl _, by rw [e]; rfl⟩
    · rw [has_put_other e] at hl
      obtain ⟨n, a, b, e⟩ := h3 _ hl
      exact ⟨n, a, by omega, e⟩
  · by_cases e : n = m + 1
    · subst e
      exact has_put_same ho.isMap hkl _
    · rw [has_put_other (by intro q; injection q with _ q; omega)]
      exact h4 n a (by omega)
  · by_cases e : n = m + 1
    · subst e
      rw [up_same]
      exact atKey_put_same ho.isMap hkl _ _
    · rw [up_other _ _ e, atKey_put_other (by intro q; injection q with _ q; omega)]
      exact h5 n a (by omega) z

def u64s (ws : List Int) : Array Value := (ws.map (Value.int .u64)).toArray
theorem make_u64s (n : Nat) (h2 : n ≤ 4096) (w : World) : (Instr.makeSlice 73 (.int .i64 (n : Int)) (.int .i64 (n : Int))).run Tryz.prog w = .ok (.slice (some ⟨w.heap.size, 0, none⟩) n n) (w.alloc (.cells (u64s (List.replicate n 0)) 31)) := by
  obtain ⟨i, hi, hz0, hz1, hz2⟩ := info_parts (P := Tryz.prog) (e := 31) (z := .int .u64 0) (size := 1) (bytes := 8) (by kernel_rfl)
  have := run_make (P := Tryz.prog) w 73 31 i (.int .u64 0) Tryz.underlying73 hi hz0 .i64 .i64 n n (by omega) (Int.le_refl _) (by rw [hz2]; omega) (by omega)
  have e : madeCells #[.int .u64 0] n = u64s (List.replicate n 0) := by
    apply Array.ext'
    rw [toList_madeCells_one]
    simp [u64s]
  rw [this, hz1]
  simp [Value.cells, e]
theorem ro_ints {w : World} {g n : Nat} (h : w.heap[g]? = some (.cells (ints (List.replicate n 0)).toArray 3 (0, 0))) : Ro 3 .i64 w g (List.replicate n 0) := by
  refine ⟨_, h, fun i hi => ?_⟩
  rw [← ints_get _ i hi]; simp
theorem ro_u64s {w : World} {g n : Nat} (h : w.heap[g]? = some (.cells (u64s (List.replicate n 0)) 31 (0, 0))) : Ro 31 .u64 w g (List.replicate n 0) := by
  refine ⟨_, h, fun i hi => ?_⟩
  simp at hi
  simp [u64s, List.getD, hi]

/-- An object more. -/
def Grew (W : World) (B m r d : Nat) (f : Nat → Value) (w5 : World) : Prop :=
  ∃ gi gd, W.heap.size ≤ gi ∧ W.heap.size ≤ gd ∧ Ro 3 .i64 w5 gi (List.replicate r 0) ∧ Ro 31 .u64 w5 gd (List.replicate d 0) ∧
    Mo w5 B (m + 1) (up f (m + 1) (.agg #[.slice (some ⟨gi, 0, none⟩) r r, .slice (some ⟨gd, 0, none⟩) d d])) ∧ Kp [B] W w5

theorem Gy.made {w w' : World} {p : Nat} {s : Gs} {y : Ly} (h : Gy w p s y) {r d : Nat} (hg : Grew w y.B s.m r d (y.obj s) w') :
    ∃ y', Gy w' p { s with m := s.m + 1, R := up s.R (s.m + 1) (List.replicate r 0), D := up s.D (s.m + 1) (List.replicate d 0) } y' ∧
      (∀ b, Foot p { s with m := s.m + 1, R := up s.R (s.m + 1) (List.replicate r 0), D := up s.D (s.m + 1) (List.replicate d 0) } y' b → Foot p s y b ∨ (w.heap.size ≤ b ∧ b < w'.heap.size)) ∧ y'.qs = y.qs ∧ y'.tb = y.tb := by
  obtain ⟨gi, gd, hgi, hgd, hri, hrd, hmo, k⟩ := hg
  refine ⟨{ y with ig := up y.ig (s.m + 1) gi, ic := up y.ic (s.m + 1) r, dg := up y.dg (s.m + 1) gd, dc := up y.dc (s.m + 1) d }, ?_, ?_, rfl, rfl⟩
  · obtain ⟨cur, hc, hx⟩ := h.ht
    have n0 : ∀ {α : Type} (f : Nat → α) (x : α), up f (s.m + 1) x 0 = f 0 := fun f x => up_other _ _ (by omega)
    have lo : ∀ {α : Type} (f : Nat → α) (x : α) (n : Nat), n ≤ s.m → up f (s.m + 1) x n = f n := fun f x n hn => up_other _ _ (by omega)
    have bne : ∀ {g T kk xs}, Ro T kk w g xs → g ∉ [y.B] := fun q => by
      obtain ⟨cu, hrow, _⟩ := q
      simpa using (h.hm.ne hrow).symm
    refine ⟨?_, ⟨cur, k.row (by simpa using (h.hm.ne hc).symm) hc, hx⟩, fun i hi => (h.hq i hi).keep k ?_, fun n hn => ?_, fun n h1 hn => ?_, hmo.congr fun n h1 hn => ?_, h.aq, fun n j hn hj e => ?_, fun n j h1 hn h2 hj e => ?_⟩
    · show w'.heap[p]? = some (.cells #[_, .slice (some ⟨up y.ig (s.m + 1) gi 0, 0, none⟩) (up s.R (s.m + 1) (List.replicate r 0) 0).length (up y.ic (s.m + 1) r 0), _] _ (0, 0))
      rw [n0, n0, n0]
      exact k.row (by simpa using (h.hm.ne h.hp).symm) h.hp
    · obtain ⟨csq, hq⟩ := (h.hq i hi).row
      simpa using (h.hm.ne hq).symm
    · show Ro _ _ w' (up y.ig (s.m + 1) gi n) (up s.R (s.m + 1) (List.replicate r 0) n)
      by_cases e : n = s.m + 1
      · subst e; rw [up_same, up_same]; exact hri
      · have hn' : n ≤ s.m := by have : n ≤ s.m + 1 := hn; omega
        rw [lo _ _ _ hn', lo _ _ _ hn']
        exact (h.hi n hn').keep k (bne (h.hi n hn'))
    · show Ro _ _ w' (up y.dg (s.m + 1) gd n) (up s.D (s.m + 1) (List.replicate d 0) n)
      by_cases e : n = s.m + 1
      · subst e; rw [up_same, up_same]; exact hrd
      · have hn' : n ≤ s.m := by have : n ≤ s.m + 1 := hn; omega
        rw [lo _ _ _ hn', lo _ _ _ hn']
        exact (h.hd n h1 hn').keep k (bne (h.hd n h1 hn'))
    · show up _ _ _ n = YtmbhhadghiojeaaGreat.obj (up y.ig (s.m + 1) gi) (up y.ic (s.m + 1) r) (up y.dg (s.m + 1) gd) (up y.dc (s.m + 1) d) (up s.R (s.m + 1) (List.replicate r 0)) (up s.D (s.m + 1) (List.replicate d 0)) n
      by_cases e : n = s.m + 1
      · subst e
        simp [YtmbhhadghiojeaaGreat.obj, up_same]
      · have hn' : n ≤ s.m := by omega
        simp [YtmbhhadghiojeaaGreat.obj, up_other _ _ e, Ly.obj]
    · have hn : n ≤ s.m + 1 := hn
      have hj : j ≤ s.m + 1 := hj
      have e : up y.ig (s.m + 1) gi n = up y.ig (s.m + 1) gi j := e
      by_cases e1 : n = s.m + 1 <;> by_cases e2 : j = s.m + 1
      · omega
      · subst e1
        rw [up_same, up_other _ _ e2] at e
        have := (h.hi j (by omega)).lt
        omega
      · subst e2
        rw [up_same, up_other _ _ e1] at e
        have := (h.hi n (by omega)).lt
        omega
      · rw [up_other _ _ e1, up_other _ _ e2] at e
        exact h.ai n j (by omega) (by omega) e
    · have hn : n ≤ s.m + 1 := hn
      have hj : j ≤ s.m + 1 := hj
      have e : up y.dg (s.m + 1) gd n = up y.dg (s.m + 1) gd j := e
      by_cases e1 : n = s.m + 1 <;> by_cases e2 : j = s.m + 1
      · omega
      · subst e1
        rw [up_same, up_other _ _ e2] at e
        have := (h.hd j h2 (by omega)).lt
        omega
      · subst e2
        rw [up_same, up_other _ _ e1] at e
        have := (h.hd n h1 (by omega)).lt
        omega
      · rw [up_other _ _ e1, up_other _ _ e2] at e
        exact h.ad n j h1 (by omega) h2 (by omega) e
  · rintro b (hb | hb | hb | ⟨i, hi, hb⟩ | ⟨n, hn, hb⟩ | ⟨n, h1, hn, hb⟩)
    · exact .inl (.inl hb)
    · exact .inl (.inr (.inl hb))
    · exact .inl (.inr (.inr (.inl hb)))
    · exact .inl (.inr (.inr (.inr (.inl ⟨i, hi, hb⟩))))
    · have hb : b = up y.ig (s.m + 1) gi n := hb
      have hn : n ≤ s.m + 1 := hn
      by_cases e : n = s.m + 1
      · subst e
        rw [up_same] at hb
        subst hb
        exact .inr ⟨hgi, hri.lt⟩
      · rw [up_other _ _ e] at hb
        exact .inl (.inr (.inr (.inr (.inr (.inl ⟨n, by omega, hb⟩)))))
    · have hb : b = up y.dg (s.m + 1) gd n := hb
      have hn : n ≤ s.m + 1 := hn
      by_cases e : n = s.m + 1
      · subst e
        rw [up_same] at hb
        subst hb
        exact .inr ⟨hgd, hrd.lt⟩
      · rw [up_other _ _ e] at hb
        exact .inl (.inr (.inr (.inr (.inr (.inr ⟨n, h1, by omega, hb⟩)))))

end Go.Proofs.YtmbhhadghiojeaaGreat
