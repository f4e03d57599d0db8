/- The walks of law 15's own: the beginning of an arena of several owners. The walks of law 15's own: the beginning of an arena of several owners, walked. Rows of numbers, appended to in a region that draws its order. The walks of law 15's own: Same. Conditions: as each theorem states them. -/
import Derived.Deep.CutBlock
import Derived.Deep.CutRange
import Derived.Deep.DeepCutAuto
import Derived.Deep.RegionHeld3
import Derived.BigQuiet
import Derived.Test.YticbnckikkdknaaGreatDoorPn12
namespace Go.Proofs.YticbnckikkdknaaGreatDoor
set_option linter.unusedVariables false
set_option linter.unusedSimpArgs false
set_option maxRecDepth 100000
open Go.RowKit

/-- The words as they begin. -/
def HB (T n : Nat) : List Int := (List.replicate (3 + T + 33 * n) (0 : Int)).set 0 ((2 ^ n - 1 : Nat) : Int)
/-- What is carried through the beginning's rows. -/
structure Pq (w : World) (T n sp db dc : Nat) (qs : Nat → Nat) (f : Nat → Value) (m4 m5 m10 m11 m12 : Nat) (W : World) : Prop where
  hs : S13 W sp f
  hh : Hw T 0 n (w.heap.size + 1) w.heap.size (HB T n) 1 W
  hd : Dh (w.heap.size + 1) T 0 n db dc (HB T n) W
  hk : Kp [] w W
  hl : ∀ j, j < m4 → Li.Ls W (qs j) (fun _ => .slice none 0 0) (fun _ => [])
  qge : ∀ j, j < m4 → w.heap.size + 2 ≤ qs j
  qne : ∀ i j, i < m4 → j < m4 → i ≠ j → qs i ≠ qs j
  r4 : Gx.Rw 69 1 w.heap.size W (f 4) m4 ((List.range m4).map fun i => .pointer (some ⟨qs i, 0, none⟩))
  r5 : Gx.Rw 4 1 w.heap.size W (f 5) m5 ((List.range m5).map fun _ => .bool false)
  r10 : Gx.Rw 72 4 w.heap.size W (f 10) m10 ((List.range (4 * m10)).map fun _ => .slice none 0 0)
  r11 : Gx.Rw 46 1 w.heap.size W (f 11) m11 ((List.range m11).map fun _ => .slice none 0 0)
  r12 : Gx.Rw 46 1 w.heap.size W (f 12) m12 ((List.range m12).map fun _ => .slice none 0 0)
  two : ∀ g ∈ Gx.blk (f 11), g ∉ Gx.blk (f 12)
  lo : w.heap.size + 2 ≤ sp
  f0 : f 0 = .pointer (some ⟨w.heap.size + 1, 0, none⟩)
  f1 : f 1 = .int .i64 T
  f2 : f 2 = .int .i64 0
  f3 : f 3 = .int .i64 n
  f6 : f 6 = .slice (some ⟨db, 0, none⟩) (3 + T + 33 * n) dc
  f7 : f 7 = .int .i64 T
  f8 : f 8 = .int .i64 0
  f9 : f 9 = .int .i64 n
def ifF (f : Nat → Value) (k : Nat) (x : Value) : Nat → Value := fun j => if j = k then x else f j
theorem ifF_same {f : Nat → Value} {k : Nat} {x : Value} : ifF f k x k = x := if_pos rfl
theorem ifF_ne {f : Nat → Value} {k j : Nat} {x : Value} (h : j ≠ k) : ifF f k x j = f j := if_neg h
section
variable {w W W' : World} {T n sp db dc m4 m5 m10 m11 m12 : Nat} {qs : Nat → Nat} {f : Nat → Value}
/-- What stands where blocks of other types turn, all of them new. -/
theorem Pq.still (h : Pq w T n sp db dc qs f m4 m5 m10 m11 m12 W) {S : List Nat} (k : Kp S W W') (hS : ∀ g ∈ S, g < W.heap.size → w.heap.size ≤ g ∧ ∃ cur U, W.heap[g]? = some (.cells cur U (0, 0)) ∧ U ≠ 99 ∧ U ≠ 57 ∧ U ≠ 172) :
    Hw T 0 n (w.heap.size + 1) w.heap.size (HB T n) 1 W' ∧ Dh (w.heap.size + 1) T 0 n db dc (HB T n) W' ∧ Kp [] w W' ∧ ∀ j, j < m4 → Li.Ls W' (qs j) (fun _ => .slice none 0 0) (fun _ => []) := by
  obtain ⟨l, a⟩ := h.hh.ar
  have hlt := h.hh.lt
  refine ⟨h.hh.keep k (fun e => ?_) (fun e => ?_), h.hd.keepS k (fun e => ?_), ⟨k.os.trans h.hk.os, k.tape.trans h.hk.tape, k.output.trans h.hk.output, Nat.le_trans h.hk.size k.size, fun i hi _ => (k.block i (Nat.lt_of_lt_of_le hi h.hk.size) fun e => ?_).trans (h.hk.block i hi (by simp))⟩, fun j hj => (h.hl j hj).keep k (fun e => ?_) (fun g hg => ?_)⟩
  · obtain ⟨_, cur, U, hc, h1, _⟩ := hS _ e hlt.1
    have := a.hp
    rw [this] at hc; simp at hc; exact h1 hc.2.symm
  · obtain ⟨_, cur, U, hc, _, h2, _⟩ := hS _ e hlt.2
    have := a.hr
    rw [this] at hc; simp at hc; exact h2 hc.2.symm
  · obtain ⟨_, cur2, hc2⟩ := Gx.Rw.block h.hd.ww db (by rw [Gx.blk_some]; simp)
    obtain ⟨_, cur, U, hc, _, h2, _⟩ := hS _ e (lt_of_block hc2)
    rw [hc2] at hc; simp at hc; exact h2 hc.2.symm
  · have := (hS i e (Nat.lt_of_lt_of_le hi h.hk.size)).1; omega
  · obtain ⟨_, cur, U, hc, _, _, h3⟩ := hS _ e (h.hl j hj).lt
    have := (h.hl j hj).hp
    rw [this] at hc; simp at hc; exact h3 hc.2.symm
  · obtain ⟨c, _, hb⟩ := hg
    simp [Li.blk_nil] at hb
theorem Pq.on (h : Pq w T n sp db dc qs f m4 m5 m10 m11 m12 W) (k : Kp [] W W') : Pq w T n sp db dc qs f m4 m5 m10 m11 m12 W' := by
  obtain ⟨a1, a2, a3, a4⟩ := h.still k (by simp)
  exact { h with hs := h.hs.keep k (by simp), hh := a1, hd := a2, hk := a3, hl := a4, r4 := h.r4.keep0 k, r5 := h.r5.keep0 k, r10 := h.r10.keep0 k, r11 := h.r11.keep0 k, r12 := h.r12.keep0 k }

/-- One element more of the 4-th. -/
theorem Pq.add4 (h : Pq w T n sp db dc qs f m4 m5 m10 m11 m12 W) (hm : m4 < 1000) {q5 : Nat} (hq5 : Li.Ls W q5 (fun _ => .slice none 0 0) (fun _ => [])) (hq2 : w.heap.size + 2 ≤ q5) (hq3 : ∀ j, j < m4 → qs j ≠ q5) :
    ∃ g cap W2, (Builtin.append_ #[34, 34] 34 #[f 4, .slice (some ⟨W.heap.size, 0, none⟩) 1 1]).run Tryz.prog (W.alloc (.cells #[.pointer (some ⟨q5, 0, none⟩)] 69)) = .ok (.slice (some ⟨g, 0, none⟩) (m4 + 1) cap) W2 ∧ S13 W2 sp f ∧ Pq w T n sp db dc (upd1 qs m4 q5) (ifF f 4 (.slice (some ⟨g, 0, none⟩) (m4 + 1) cap)) (m4 + 1) m5 m10 m11 m12 (W2.setCell ⟨sp, 4, none⟩ (.slice (some ⟨g, 0, none⟩) (m4 + 1) cap)) := by
  have ka : Kp [] W (W.alloc (.cells #[.pointer (some ⟨q5, 0, none⟩)] 69)) := (Kp.refl _ _).alloc _
  have hB : w.heap.size ≤ (W.alloc (.cells #[.pointer (some ⟨q5, 0, none⟩)] 69)).heap.size := Nat.le_trans h.hk.size ka.size
  obtain ⟨g, cap, W2, hrun, hrw, hkp, hg⟩ := Gx.run_app (T := 69) (t := 34) (ty := 34) (base := w.heap.size) Tryz.underlying34 info_lst (by decide) (h.r4.keep0 ka) hB ⟨W.heap.size, 0, none⟩ 1 1 [.pointer (some ⟨q5, 0, none⟩)] (by rfl) (by
    intro j u hu
    have e : (⟨W.heap.size, 0, none⟩ : Addr).add j = ⟨W.heap.size, j, none⟩ := by simp [Addr.add]; omega
    rw [e, cell_of_row (heap_alloc_new W _), ← hu]
    simp) (by simp [Value.oneCell']) (by omega) (by omega) (by decide)
  have hrb := h.r4.block
  have hspr : ∀ g ∈ Gx.blk (f 4), g ≠ sp := fun g hg e => by
    obtain ⟨_, cur, hc⟩ := hrb g hg
    have hst := h.hs
    unfold S13 at hst
    rw [e, hst] at hc; simp at hc
  have k1 : Kp (Gx.blk (f 4)) W W2 := (ka.mono (by simp)).trans hkp
  have s2 : S13 W2 sp f := h.hs.keep k1 fun e => hspr sp e rfl
  have k2 : Kp [sp] W2 (W2.setCell ⟨sp, 4, none⟩ (.slice (some ⟨g, 0, none⟩) (m4 + 1) cap)) := (Kp.refl _ _).setCell (.inl (by simp)) _
  have K : Kp (sp :: Gx.blk (f 4)) W (W2.setCell ⟨sp, 4, none⟩ (.slice (some ⟨g, 0, none⟩) (m4 + 1) cap)) := (k1.mono fun x hx _ => by simp [hx]).trans (k2.mono fun x hx _ => by simp at hx; simp [hx])
  have hS : ∀ g ∈ sp :: Gx.blk (f 4), w.heap.size ≤ g ∧ ∃ cur U, W.heap[g]? = some (.cells cur U (0, 0)) ∧ U ≠ 99 ∧ U ≠ 57 ∧ U ≠ 172 ∧ (U = 44 ∨ U = 69) := fun g hg => by
    rw [List.mem_cons] at hg
    rcases hg with e | e
    · subst e; exact ⟨by have := h.lo; omega, _, _, h.hs, by decide, by decide, by decide, .inl rfl⟩
    · obtain ⟨h1, cur, hc⟩ := hrb g e
      exact ⟨h1, _, _, hc, by decide, by decide, by decide, .inr rfl⟩
  have hty : ∀ {U : TypeId} {sz m : Nat} {x : Value} {xs : List Value}, Gx.Rw U sz w.heap.size W x m xs → U ≠ 44 → U ≠ 69 → Gx.Rw U sz w.heap.size (W2.setCell ⟨sp, 4, none⟩ (.slice (some ⟨g, 0, none⟩) (m4 + 1) cap)) x m xs := fun hr h1 h2 => hr.keep K fun g hg e => by
    obtain ⟨_, cur, hc⟩ := Gx.Rw.block hr g hg
    obtain ⟨_, cur2, U2, hc2, _, _, _, h4⟩ := hS g e
    rw [hc] at hc2; simp at hc2
    rcases h4 with z | z
    · exact h1 (hc2.2.trans z)
    · exact h2 (hc2.2.trans z)
  obtain ⟨a1, a2, a3, a4⟩ := h.still K fun g hg _ => by
    obtain ⟨b1, cur, U, hc, b2, b3, b4, _⟩ := hS g hg
    exact ⟨b1, cur, U, hc, b2, b3, b4⟩
  refine ⟨g, cap, W2, hrun, s2, { hs := s2.set (by decide) _, hh := a1, hd := a2, hk := a3, hl := fun j hj => ?_, qge := fun j hj => ?_, qne := fun a b ha hb hab => ?_, r4 := ?_, r5 := ?_, r10 := ?_, r11 := ?_, r12 := ?_, two := ?_, lo := h.lo, f0 := (ifF_ne (by decide)).trans h.f0, f1 := (ifF_ne (by decide)).trans h.f1, f2 := (ifF_ne (by decide)).trans h.f2, f3 := (ifF_ne (by decide)).trans h.f3, f6 := (ifF_ne (by decide)).trans h.f6, f7 := (ifF_ne (by decide)).trans h.f7, f8 := (ifF_ne (by decide)).trans h.f8, f9 := (ifF_ne (by decide)).trans h.f9 }⟩
  · by_cases e : j = m4
    · subst e
      rw [upd1_same]
      have hql := hq5.lt
      exact (hq5.keep K (fun e => by
        obtain ⟨_, cur, U, hc, _, _, b4, _⟩ := hS q5 e
        rw [hq5.hp] at hc; simp at hc; exact b4 hc.2.symm) fun g hg => by
          obtain ⟨c, _, hb⟩ := hg
          simp [Li.blk_nil] at hb)
    · rw [upd1_ne e]; exact a4 j (by omega)
  · by_cases e : j = m4
    · subst e; rw [upd1_same]; exact hq2
    · rw [upd1_ne e]; exact h.qge j (by omega)
  · by_cases ea : a = m4
    · subst ea
      rw [upd1_same, upd1_ne (fun e => hab e.symm)]
      exact fun e => hq3 b (by omega) e.symm
    · rw [upd1_ne ea]
      by_cases eb : b = m4
      · subst eb; rw [upd1_same]; exact hq3 a (by omega)
      · rw [upd1_ne eb]; exact h.qne a b (by omega) (by omega) hab
  · rw [ifF_same]
    have e : (List.range (m4 + 1)).map (fun i => Value.pointer (some ⟨upd1 qs m4 q5 i, 0, none⟩)) = (List.range m4).map (fun i => Value.pointer (some ⟨qs i, 0, none⟩)) ++ [.pointer (some ⟨q5, 0, none⟩)] := by
      rw [List.range_succ, List.map_append, List.map_singleton, upd1_same]
      congr 1
      exact map_range_congr fun j hj => by rw [upd1_ne (by omega)]
    rw [e]
    exact hrw.keep k2 fun b hb e => by
      rw [List.mem_singleton] at e
      rw [Gx.blk_some, List.mem_singleton] at hb
      rcases hg with z | z
      · exact hspr g z (hb.symm.trans e)
      · have := lt_of_block h.hs; have := ka.size; omega
  · rw [ifF_ne (by decide)]
    exact hty h.r5 (by decide) (by decide)
  · rw [ifF_ne (by decide)]
    exact hty h.r10 (by decide) (by decide)
  · rw [ifF_ne (by decide)]
    exact hty h.r11 (by decide) (by decide)
  · rw [ifF_ne (by decide)]
    exact hty h.r12 (by decide) (by decide)
  · rw [ifF_ne (by decide), ifF_ne (by decide)]
    exact h.two

/-- One element more of the 5-th. -/
theorem Pq.add5 (h : Pq w T n sp db dc qs f m4 m5 m10 m11 m12 W) (hm : m5 < 1000) :
    ∃ g cap W2, (Builtin.append_ #[35, 35] 35 #[f 5, .slice (some ⟨W.heap.size, 0, none⟩) 1 1]).run Tryz.prog (W.alloc (.cells #[.bool false] 4)) = .ok (.slice (some ⟨g, 0, none⟩) (m5 + 1) cap) W2 ∧ S13 W2 sp f ∧ Pq w T n sp db dc qs (ifF f 5 (.slice (some ⟨g, 0, none⟩) (m5 + 1) cap)) m4 (m5 + 1) m10 m11 m12 (W2.setCell ⟨sp, 5, none⟩ (.slice (some ⟨g, 0, none⟩) (m5 + 1) cap)) := by
  have ka : Kp [] W (W.alloc (.cells #[.bool false] 4)) := (Kp.refl _ _).alloc _
  have hB : w.heap.size ≤ (W.alloc (.cells #[.bool false] 4)).heap.size := Nat.le_trans h.hk.size ka.size
  obtain ⟨g, cap, W2, hrun, hrw, hkp, hg⟩ := Gx.run_app (T := 4) (t := 35) (ty := 35) (base := w.heap.size) Tryz.underlying35 info_bool (by decide) (h.r5.keep0 ka) hB ⟨W.heap.size, 0, none⟩ 1 1 [.bool false] (by rfl) (by
    intro j u hu
    have e : (⟨W.heap.size, 0, none⟩ : Addr).add j = ⟨W.heap.size, j, none⟩ := by simp [Addr.add]; omega
    rw [e, cell_of_row (heap_alloc_new W _), ← hu]
    simp) (by simp [Value.oneCell']) (by omega) (by omega) (by decide)
  have hrb := h.r5.block
  have hspr : ∀ g ∈ Gx.blk (f 5), g ≠ sp := fun g hg e => by
    obtain ⟨_, cur, hc⟩ := hrb g hg
    have hst := h.hs
    unfold S13 at hst
    rw [e, hst] at hc; simp at hc
  have k1 : Kp (Gx.blk (f 5)) W W2 := (ka.mono (by simp)).trans hkp
  have s2 : S13 W2 sp f := h.hs.keep k1 fun e => hspr sp e rfl
  have k2 : Kp [sp] W2 (W2.setCell ⟨sp, 5, none⟩ (.slice (some ⟨g, 0, none⟩) (m5 + 1) cap)) := (Kp.refl _ _).setCell (.inl (by simp)) _
  have K : Kp (sp :: Gx.blk (f 5)) W (W2.setCell ⟨sp, 5, none⟩ (.slice (some ⟨g, 0, none⟩) (m5 + 1) cap)) := (k1.mono fun x hx _ => by simp [hx]).trans (k2.mono fun x hx _ => by simp at hx; simp [hx])
  have hS : ∀ g ∈ sp :: Gx.blk (f 5), w.heap.size ≤ g ∧ ∃ cur U, W.heap[g]? = some (.cells cur U (0, 0)) ∧ U ≠ 99 ∧ U ≠ 57 ∧ U ≠ 172 ∧ (U = 44 ∨ U = 4) := fun g hg => by
    rw [List.mem_cons] at hg
    rcases hg with e | e
    · subst e; exact ⟨by have := h.lo; omega, _, _, h.hs, by decide, by decide, by decide, .inl rfl⟩
    · obtain ⟨h1, cur, hc⟩ := hrb g e
      exact ⟨h1, _, _, hc, by decide, by decide, by decide, .inr rfl⟩
  have hty : ∀ {U : TypeId} {sz m : Nat} {x : Value} {xs : List Value}, Gx.Rw U sz w.heap.size W x m xs → U ≠ 44 → U ≠ 4 → Gx.Rw U sz w.heap.size (W2.setCell ⟨sp, 5, none⟩ (.slice (some ⟨g, 0, none⟩) (m5 + 1) cap)) x m xs := fun hr h1 h2 => hr.keep K fun g hg e => by
    obtain ⟨_, cur, hc⟩ := Gx.Rw.block hr g hg
    obtain ⟨_, cur2, U2, hc2, _, _, _, h4⟩ := hS g e
    rw [hc] at hc2; simp at hc2
    rcases h4 with z | z
    · exact h1 (hc2.2.trans z)
    · exact h2 (hc2.2.trans z)
  obtain ⟨a1, a2, a3, a4⟩ := h.still K fun g hg _ => by
    obtain ⟨b1, cur, U, hc, b2, b3, b4, _⟩ := hS g hg
    exact ⟨b1, cur, U, hc, b2, b3, b4⟩
  refine ⟨g, cap, W2, hrun, s2, { hs := s2.set (by decide) _, hh := a1, hd := a2, hk := a3, hl := a4, qge := h.qge, qne := h.qne, r4 := ?_, r5 := ?_, r10 := ?_, r11 := ?_, r12 := ?_, two := ?_, lo := h.lo, f0 := (ifF_ne (by decide)).trans h.f0, f1 := (ifF_ne (by decide)).trans h.f1, f2 := (ifF_ne (by decide)).trans h.f2, f3 := (ifF_ne (by decide)).trans h.f3, f6 := (ifF_ne (by decide)).trans h.f6, f7 := (ifF_ne (by decide)).trans h.f7, f8 := (ifF_ne (by decide)).trans h.f8, f9 := (ifF_ne (by decide)).trans h.f9 }⟩
  · rw [ifF_ne (by decide)]
    exact hty h.r4 (by decide) (by decide)
  · rw [ifF_same]
    have e : (List.range (m5 + 1)).map (fun _ => Value.bool false) = (List.range m5).map (fun _ => Value.bool false) ++ [.bool false] := by
      rw [List.range_succ, List.map_append, List.map_singleton]
    rw [e]
    exact hrw.keep k2 fun b hb e => by
      rw [List.mem_singleton] at e
      rw [Gx.blk_some, List.mem_singleton] at hb
      rcases hg with z | z
      · exact hspr g z (hb.symm.trans e)
      · have := lt_of_block h.hs; have := ka.size; omega
  · rw [ifF_ne (by decide)]
    exact hty h.r10 (by decide) (by decide)
  · rw [ifF_ne (by decide)]
    exact hty h.r11 (by decide) (by decide)
  · rw [ifF_ne (by decide)]
    exact hty h.r12 (by decide) (by decide)
  · rw [ifF_ne (by decide), ifF_ne (by decide)]
    exact h.two

/-- One element more of the 10-th. -/
theorem Pq.add10 (h : Pq w T n sp db dc qs f m4 m5 m10 m11 m12 W) (hm : m10 < 1000) :
    ∃ g cap W2, (Builtin.append_ #[41, 41] 41 #[f 10, .slice (some ⟨W.heap.size, 0, none⟩) 1 1]).run Tryz.prog (W.alloc (.cells #[.slice none 0 0, .slice none 0 0, .slice none 0 0, .slice none 0 0] 72)) = .ok (.slice (some ⟨g, 0, none⟩) (m10 + 1) cap) W2 ∧ S13 W2 sp f ∧ Pq w T n sp db dc qs (ifF f 10 (.slice (some ⟨g, 0, none⟩) (m10 + 1) cap)) m4 m5 (m10 + 1) m11 m12 (W2.setCell ⟨sp, 10, none⟩ (.slice (some ⟨g, 0, none⟩) (m10 + 1) cap)) := by
  have ka : Kp [] W (W.alloc (.cells #[.slice none 0 0, .slice none 0 0, .slice none 0 0, .slice none 0 0] 72)) := (Kp.refl _ _).alloc _
  have hB : w.heap.size ≤ (W.alloc (.cells #[.slice none 0 0, .slice none 0 0, .slice none 0 0, .slice none 0 0] 72)).heap.size := Nat.le_trans h.hk.size ka.size
  obtain ⟨g, cap, W2, hrun, hrw, hkp, hg⟩ := Gx.run_app (T := 72) (t := 41) (ty := 41) (base := w.heap.size) Tryz.underlying41 info_rl (by decide) (h.r10.keep0 ka) hB ⟨W.heap.size, 0, none⟩ 1 1 [.slice none 0 0, .slice none 0 0, .slice none 0 0, .slice none 0 0] (by rfl) (by
    intro j u hu
    have e : (⟨W.heap.size, 0, none⟩ : Addr).add j = ⟨W.heap.size, j, none⟩ := by simp [Addr.add]; omega
    rw [e, cell_of_row (heap_alloc_new W _), ← hu]
    simp) (by simp [Value.oneCell']) (by omega) (by omega) (by decide)
  have hrb := h.r10.block
  have hspr : ∀ g ∈ Gx.blk (f 10), g ≠ sp := fun g hg e => by
    obtain ⟨_, cur, hc⟩ := hrb g hg
    have hst := h.hs
    unfold S13 at hst
    rw [e, hst] at hc; simp at hc
  have k1 : Kp (Gx.blk (f 10)) W W2 := (ka.mono (by simp)).trans hkp
  have s2 : S13 W2 sp f := h.hs.keep k1 fun e => hspr sp e rfl
  have k2 : Kp [sp] W2 (W2.setCell ⟨sp, 10, none⟩ (.slice (some ⟨g, 0, none⟩) (m10 + 1) cap)) := (Kp.refl _ _).setCell (.inl (by simp)) _
  have K : Kp (sp :: Gx.blk (f 10)) W (W2.setCell ⟨sp, 10, none⟩ (.slice (some ⟨g, 0, none⟩) (m10 + 1) cap)) := (k1.mono fun x hx _ => by simp [hx]).trans (k2.mono fun x hx _ => by simp at hx; simp [hx])
  have hS : ∀ g ∈ sp :: Gx.blk (f 10), w.heap.size ≤ g ∧ ∃ cur U, W.heap[g]? = some (.cells cur U (0, 0)) ∧ U ≠ 99 ∧ U ≠ 57 ∧ U ≠ 172 ∧ (U = 44 ∨ U = 72) := fun g hg => by
    rw [List.mem_cons] at hg
    rcases hg with e | e
    · subst e; exact ⟨by have := h.lo; omega, _, _, h.hs, by decide, by decide, by decide, .inl rfl⟩
    · obtain ⟨h1, cur, hc⟩ := hrb g e
      exact ⟨h1, _, _, hc, by decide, by decide, by decide, .inr rfl⟩
  have hty : ∀ {U : TypeId} {sz m : Nat} {x : Value} {xs : List Value}, Gx.Rw U sz w.heap.size W x m xs → U ≠ 44 → U ≠ 72 → Gx.Rw U sz w.heap.size (W2.setCell ⟨sp, 10, none⟩ (.slice (some ⟨g, 0, none⟩) (m10 + 1) cap)) x m xs := fun hr h1 h2 => hr.keep K fun g hg e => by
    obtain ⟨_, cur, hc⟩ := Gx.Rw.block hr g hg
    obtain ⟨_, cur2, U2, hc2, _, _, _, h4⟩ := hS g e
    rw [hc] at hc2; simp at hc2
    rcases h4 with z | z
    · exact h1 (hc2.2.trans z)
    · exact h2 (hc2.2.trans z)
  obtain ⟨a1, a2, a3, a4⟩ := h.still K fun g hg _ => by
    obtain ⟨b1, cur, U, hc, b2, b3, b4, _⟩ := hS g hg
    exact ⟨b1, cur, U, hc, b2, b3, b4⟩
  refine ⟨g, cap, W2, hrun, s2, { hs := s2.set (by decide) _, hh := a1, hd := a2, hk := a3, hl := a4, qge := h.qge, qne := h.qne, r4 := ?_, r5 := ?_, r10 := ?_, r11 := ?_, r12 := ?_, two := ?_, lo := h.lo, f0 := (ifF_ne (by decide)).trans h.f0, f1 := (ifF_ne (by decide)).trans h.f1, f2 := (ifF_ne (by decide)).trans h.f2, f3 := (ifF_ne (by decide)).trans h.f3, f6 := (ifF_ne (by decide)).trans h.f6, f7 := (ifF_ne (by decide)).trans h.f7, f8 := (ifF_ne (by decide)).trans h.f8, f9 := (ifF_ne (by decide)).trans h.f9 }⟩
  · rw [ifF_ne (by decide)]
    exact hty h.r4 (by decide) (by decide)
  · rw [ifF_ne (by decide)]
    exact hty h.r5 (by decide) (by decide)
  · rw [ifF_same]
    have e : (List.range (4 * (m10 + 1))).map (fun _ => Value.slice none 0 0) = (List.range (4 * m10)).map (fun _ => Value.slice none 0 0) ++ [.slice none 0 0, .slice none 0 0, .slice none 0 0, .slice none 0 0] := by
      rw [show 4 * (m10 + 1) = 4 * m10 + 1 + 1 + 1 + 1 from by omega, List.range_succ, List.range_succ, List.range_succ, List.range_succ]
      simp
    rw [e]
    exact hrw.keep k2 fun b hb e => by
      rw [List.mem_singleton] at e
      rw [Gx.blk_some, List.mem_singleton] at hb
      rcases hg with z | z
      · exact hspr g z (hb.symm.trans e)
      · have := lt_of_block h.hs; have := ka.size; omega
  · rw [ifF_ne (by decide)]
    exact hty h.r11 (by decide) (by decide)
  · rw [ifF_ne (by decide)]
    exact hty h.r12 (by decide) (by decide)
  · rw [ifF_ne (by decide), ifF_ne (by decide)]
    exact h.two

/-- One element more of the 11-th. -/
theorem Pq.add11 (h : Pq w T n sp db dc qs f m4 m5 m10 m11 m12 W) (hm : m11 < 1000) :
    ∃ g cap W2, (Builtin.append_ #[42, 42] 42 #[f 11, .slice (some ⟨W.heap.size, 0, none⟩) 1 1]).run Tryz.prog (W.alloc (.cells #[.slice none 0 0] 46)) = .ok (.slice (some ⟨g, 0, none⟩) (m11 + 1) cap) W2 ∧ S13 W2 sp f ∧ Pq w T n sp db dc qs (ifF f 11 (.slice (some ⟨g, 0, none⟩) (m11 + 1) cap)) m4 m5 m10 (m11 + 1) m12 (W2.setCell ⟨sp, 11, none⟩ (.slice (some ⟨g, 0, none⟩) (m11 + 1) cap)) := by
  have ka : Kp [] W (W.alloc (.cells #[.slice none 0 0] 46)) := (Kp.refl _ _).alloc _
  have hB : w.heap.size ≤ (W.alloc (.cells #[.slice none 0 0] 46)).heap.size := Nat.le_trans h.hk.size ka.size
  obtain ⟨g, cap, W2, hrun, hrw, hkp, hg⟩ := Gx.run_app (T := 46) (t := 42) (ty := 42) (base := w.heap.size) Tryz.underlying42 info_row (by decide) (h.r11.keep0 ka) hB ⟨W.heap.size, 0, none⟩ 1 1 [.slice none 0 0] (by rfl) (by
    intro j u hu
    have e : (⟨W.heap.size, 0, none⟩ : Addr).add j = ⟨W.heap.size, j, none⟩ := by simp [Addr.add]; omega
    rw [e, cell_of_row (heap_alloc_new W _), ← hu]
    simp) (by simp [Value.oneCell']) (by omega) (by omega) (by decide)
  have hrb := h.r11.block
  have hspr : ∀ g ∈ Gx.blk (f 11), g ≠ sp := fun g hg e => by
    obtain ⟨_, cur, hc⟩ := hrb g hg
    have hst := h.hs
    unfold S13 at hst
    rw [e, hst] at hc; simp at hc
  have k1 : Kp (Gx.blk (f 11)) W W2 := (ka.mono (by simp)).trans hkp
  have s2 : S13 W2 sp f := h.hs.keep k1 fun e => hspr sp e rfl
  have k2 : Kp [sp] W2 (W2.setCell ⟨sp, 11, none⟩ (.slice (some ⟨g, 0, none⟩) (m11 + 1) cap)) := (Kp.refl _ _).setCell (.inl (by simp)) _
  have K : Kp (sp :: Gx.blk (f 11)) W (W2.setCell ⟨sp, 11, none⟩ (.slice (some ⟨g, 0, none⟩) (m11 + 1) cap)) := (k1.mono fun x hx _ => by simp [hx]).trans (k2.mono fun x hx _ => by simp at hx; simp [hx])
  have hS : ∀ g ∈ sp :: Gx.blk (f 11), w.heap.size ≤ g ∧ ∃ cur U, W.heap[g]? = some (.cells cur U (0, 0)) ∧ U ≠ 99 ∧ U ≠ 57 ∧ U ≠ 172 ∧ (U = 44 ∨ U = 46) := fun g hg => by
    rw [List.mem_cons] at hg
    rcases hg with e | e
    · subst e; exact ⟨by have := h.lo; omega, _, _, h.hs, by decide, by decide, by decide, .inl rfl⟩
    · obtain ⟨h1, cur, hc⟩ := hrb g e
      exact ⟨h1, _, _, hc, by decide, by decide, by decide, .inr rfl⟩
  have hty : ∀ {U : TypeId} {sz m : Nat} {x : Value} {xs : List Value}, Gx.Rw U sz w.heap.size W x m xs → U ≠ 44 → U ≠ 46 → Gx.Rw U sz w.heap.size (W2.setCell ⟨sp, 11, none⟩ (.slice (some ⟨g, 0, none⟩) (m11 + 1) cap)) x m xs := fun hr h1 h2 => hr.keep K fun g hg e => by
    obtain ⟨_, cur, hc⟩ := Gx.Rw.block hr g hg
    obtain ⟨_, cur2, U2, hc2, _, _, _, h4⟩ := hS g e
    rw [hc] at hc2; simp at hc2
    rcases h4 with z | z
    · exact h1 (hc2.2.trans z)
    · exact h2 (hc2.2.trans z)
  obtain ⟨a1, a2, a3, a4⟩ := h.still K fun g hg _ => by
    obtain ⟨b1, cur, U, hc, b2, b3, b4, _⟩ := hS g hg
    exact ⟨b1, cur, U, hc, b2, b3, b4⟩
  refine ⟨g, cap, W2, hrun, s2, { hs := s2.set (by decide) _, hh := a1, hd := a2, hk := a3, hl := a4, qge := h.qge, qne := h.qne, r4 := ?_, r5 := ?_, r10 := ?_, r11 := ?_, r12 := ?_, two := ?_, lo := h.lo, f0 := (ifF_ne (by decide)).trans h.f0, f1 := (ifF_ne (by decide)).trans h.f1, f2 := (ifF_ne (by decide)).trans h.f2, f3 := (ifF_ne (by decide)).trans h.f3, f6 := (ifF_ne (by decide)).trans h.f6, f7 := (ifF_ne (by decide)).trans h.f7, f8 := (ifF_ne (by decide)).trans h.f8, f9 := (ifF_ne (by decide)).trans h.f9 }⟩
  · rw [ifF_ne (by decide)]
    exact hty h.r4 (by decide) (by decide)
  · rw [ifF_ne (by decide)]
    exact hty h.r5 (by decide) (by decide)
  · rw [ifF_ne (by decide)]
    exact hty h.r10 (by decide) (by decide)
  · rw [ifF_same]
    have e : (List.range (m11 + 1)).map (fun _ => Value.slice none 0 0) = (List.range m11).map (fun _ => Value.slice none 0 0) ++ [.slice none 0 0] := by
      rw [List.range_succ, List.map_append, List.map_singleton]
    rw [e]
    exact hrw.keep k2 fun b hb e => by
      rw [List.mem_singleton] at e
      rw [Gx.blk_some, List.mem_singleton] at hb
      rcases hg with z | z
      · exact hspr g z (hb.symm.trans e)
      · have := lt_of_block h.hs; have := ka.size; omega
  · rw [ifF_ne (by decide)]
    refine h.r12.keep K fun g hg e => ?_
    rw [List.mem_cons] at e
    rcases e with e | e
    · obtain ⟨_, cur, hc⟩ := h.r12.block g hg
      have hst := h.hs
      unfold S13 at hst
      rw [e, hst] at hc; simp at hc
    · exact h.two g e hg
  · intro b hb hb2
    rw [ifF_same] at hb
    rw [ifF_ne (by decide)] at hb2
    rw [Gx.blk_some, List.mem_singleton] at hb
    rcases hg with z | z
    · exact h.two b (hb ▸ z) hb2
    · obtain ⟨_, cur, hc⟩ := h.r12.block b hb2
      have := lt_of_block hc; have := ka.size; omega

/-- One element more of the 12-th. -/
theorem Pq.add12 (h : Pq w T n sp db dc qs f m4 m5 m10 m11 m12 W) (hm : m12 < 1000) :
    ∃ g cap W2, (Builtin.append_ #[42, 42] 42 #[f 12, .slice (some ⟨W.heap.size, 0, none⟩) 1 1]).run Tryz.prog (W.alloc (.cells #[.slice none 0 0] 46)) = .ok (.slice (some ⟨g, 0, none⟩) (m12 + 1) cap) W2 ∧ S13 W2 sp f ∧ Pq w T n sp db dc qs (ifF f 12 (.slice (some ⟨g, 0, none⟩) (m12 + 1) cap)) m4 m5 m10 m11 (m12 + 1) (W2.setCell ⟨sp, 12, none⟩ (.slice (some ⟨g, 0, none⟩) (m12 + 1) cap)) := by
  have ka : Kp [] W (W.alloc (.cells #[.slice none 0 0] 46)) := (Kp.refl _ _).alloc _
  have hB : w.heap.size ≤ (W.alloc (.cells #[.slice none 0 0] 46)).heap.size := Nat.le_trans h.hk.size ka.size
  obtain ⟨g, cap, W2, hrun, hrw, hkp, hg⟩ := Gx.run_app (T := 46) (t := 42) (ty := 42) (base := w.heap.size) Tryz.underlying42 info_row (by decide) (h.r12.keep0 ka) hB ⟨W.heap.size, 0, none⟩ 1 1 [.slice none 0 0] (by rfl) (by
    intro j u hu
    have e : (⟨W.heap.size, 0, none⟩ : Addr).add j = ⟨W.heap.size, j, none⟩ := by simp [Addr.add]; omega
    rw [e, cell_of_row (heap_alloc_new W _), ← hu]
    simp) (by simp [Value.oneCell']) (by omega) (by omega) (by decide)
  have hrb := h.r12.block
  have hspr : ∀ g ∈ Gx.blk (f 12), g ≠ sp := fun g hg e => by
    obtain ⟨_, cur, hc⟩ := hrb g hg
    have hst := h.hs
    unfold S13 at hst
    rw [e, hst] at hc; simp at hc
  have k1 : Kp (Gx.blk (f 12)) W W2 := (ka.mono (by simp)).trans hkp
  have s2 : S13 W2 sp f := h.hs.keep k1 fun e => hspr sp e rfl
  have k2 : Kp [sp] W2 (W2.setCell ⟨sp, 12, none⟩ (.slice (some ⟨g, 0, none⟩) (m12 + 1) cap)) := (Kp.refl _ _).setCell (.inl (by simp)) _
  have K : Kp (sp :: Gx.blk (f 12)) W (W2.setCell ⟨sp, 12, none⟩ (.slice (some ⟨g, 0, none⟩) (m12 + 1) cap)) := (k1.mono fun x hx _ => by simp [hx]).trans (k2.mono fun x hx _ => by simp at hx; simp [hx])
  have hS : ∀ g ∈ sp :: Gx.blk (f 12), w.heap.size ≤ g ∧ ∃ cur U, W.heap[g]? = some (.cells cur U (0, 0)) ∧ U ≠ 99 ∧ U ≠ 57 ∧ U ≠ 172 ∧ (U = 44 ∨ U = 46) := fun g hg => by
    rw [List.mem_cons] at hg
    rcases hg with e | e
    · subst e; exact ⟨by have := h.lo; omega, _, _, h.hs, by decide, by decide, by decide, .inl rfl⟩
    · obtain ⟨h1, cur, hc⟩ := hrb g e
      exact ⟨h1, _, _, hc, by decide, by decide, by decide, .inr rfl⟩
  have hty : ∀ {U : TypeId} {sz m : Nat} {x : Value} {xs : List Value}, Gx.Rw U sz w.heap.size W x m xs → U ≠ 44 → U ≠ 46 → Gx.Rw U sz w.heap.size (W2.setCell ⟨sp, 12, none⟩ (.slice (some ⟨g, 0, none⟩) (m12 + 1) cap)) x m xs := fun hr h1 h2 => hr.keep K fun g hg e => by
    obtain ⟨_, cur, hc⟩ := Gx.Rw.block hr g hg
    obtain ⟨_, cur2, U2, hc2, _, _, _, h4⟩ := hS g e
    rw [hc] at hc2; simp at hc2
    rcases h4 with z | z
    · exact h1 (hc2.2.trans z)
    · exact h2 (hc2.2.trans z)
  obtain ⟨a1, a2, a3, a4⟩ := h.still K fun g hg _ => by
    obtain ⟨b1, cur, U, hc, b2, b3, b4, _⟩ := hS g hg
    exact ⟨b1, cur, U, hc, b2, b3, b4⟩
  refine ⟨g, cap, W2, hrun, s2, { hs := s2.set (by decide) _, hh := a1, hd := a2, hk := a3, hl := a4, qge := h.qge, qne := h.qne, r4 := ?_, r5 := ?_, r10 := ?_, r11 := ?_, r12 := ?_, two := ?_, lo := h.lo, f0 := (ifF_ne (by decide)).trans h.f0, f1 := (ifF_ne (by decide)).trans h.f1, f2 := (ifF_ne (by decide)).trans h.f2, f3 := (ifF_ne (by decide)).trans h.f3, f6 := (ifF_ne (by decide)).trans h.f6, f7 := (ifF_ne (by decide)).trans h.f7, f8 := (ifF_ne (by decide)).trans h.f8, f9 := (ifF_ne (by decide)).trans h.f9 }⟩
  · rw [ifF_ne (by decide)]
    exact hty h.r4 (by decide) (by decide)
  · rw [ifF_ne (by decide)]
    exact hty h.r5 (by decide) (by decide)
  · rw [ifF_ne (by decide)]
    exact hty h.r10 (by decide) (by decide)
  · rw [ifF_ne (by decide)]
    refine h.r11.keep K fun g hg e => ?_
    rw [List.mem_cons] at e
    rcases e with e | e
    · obtain ⟨_, cur, hc⟩ := h.r11.block g hg
      have hst := h.hs
      unfold S13 at hst
      rw [e, hst] at hc; simp at hc
    · exact h.two g hg e
  · rw [ifF_same]
    have e : (List.range (m12 + 1)).map (fun _ => Value.slice none 0 0) = (List.range m12).map (fun _ => Value.slice none 0 0) ++ [.slice none 0 0] := by
      rw [List.range_succ, List.map_append, List.map_singleton]
    rw [e]
    exact hrw.keep k2 fun b hb e => by
      rw [List.mem_singleton] at e
      rw [Gx.blk_some, List.mem_singleton] at hb
      rcases hg with z | z
      · exact hspr g z (hb.symm.trans e)
      · have := lt_of_block h.hs; have := ka.size; omega
  · intro b hb hb2
    rw [ifF_ne (by decide)] at hb
    rw [ifF_same] at hb2
    rw [Gx.blk_some, List.mem_singleton] at hb2
    rcases hg with z | z
    · exact h.two b hb (hb2 ▸ z)
    · obtain ⟨_, cur, hc⟩ := h.r11.block b hb
      have := lt_of_block hc; have := ka.size; omega

/-- The beginning, as the law's State. -/
theorem Pq.aw (h : Pq w T n sp db dc qs f T T T T T W) (hT : 0 < T) (hT4 : T ≤ 4) (hn : n ≤ 12) (T0 : Cl.Tab w) :
    Aw T n (w.heap.size + 1) w.heap.size sp qs ⟨f, fun _ _ => .slice none 0 0, fun _ _ => .slice none 0 0, fun _ => .slice none 0 0, fun _ => .slice none 0 0, db, dc⟩ ⟨HB T n, fun _ _ => [], fun _ => false, fun _ => [], fun _ => []⟩ 1 (fun g => if g = 0 then 2000 else 0) W := by
  have hlt : 0 < w.heap.size := World.block_lt_of_cell? _ _ T0.c0
  have low : ∀ {U : TypeId} {sz base m : Nat} {x : Value} {xs : List Value}, Gx.Rw U sz base W x m xs → Gx.Rw U sz 0 W x m xs := fun hr => by
    refine ⟨hr.own.1, ?_⟩
    rcases hr.own.2 with h0 | ⟨b, c, cur, rfl, hge, hb, r⟩
    · exact .inl h0
    · exact .inr ⟨b, c, cur, rfl, Nat.zero_le _, hb, r⟩
  have hlen : (HB T n).length = 3 + T + 33 * n := by simp [HB]
  refine { st := h.hs, f0 := h.f0, f1 := h.f1, f2 := h.f2, f3 := h.f3, f6 := h.f6, f7 := h.f7, f8 := h.f8, f9 := h.f9, fit := fit_begin T n hn, mws := ⟨fun i hi => ⟨⟨1, Nat.le_refl _, h.hh⟩, h.hl i hi, fun c hc => ⟨by simp, by simp⟩, by show (HB T n).length ≤ 1000; omega, tab_keep T0 h.hk (by simp), ?_, ?_, ?_, ?_⟩, fun i j hi hj hij => h.qne i j hi hj hij, fun i j hi hj hij g hg => ?_⟩, dh := h.hd, free := low h.r4, walks := low h.r5, docs := low h.r10, rd := fun i hi d hd => Li.Rd.nil _, mades := low h.r11, sizes := low h.r12, mr := fun i hi => Li.Rw.nil _, sr := fun i hi => Li.Rw.nil _, two := h.two, c1 := fun i hi g hg => ?_, c2 := fun i hi d hd g hg => ?_, c3 := fun i hi g hg => ?_, c4 := fun i hi g hg => ?_, lt := fun i hi d hd g hg => ?_, spg := ?_, cq := fun i hi => ?_, cg := if_pos rfl, c0 := fun g hg => ?_ }
  · omega
  · omega
  · have := h.qge i hi; omega
  · rintro ⟨c, _, hb⟩; simp [Li.blk_nil] at hb
  · obtain ⟨c, _, hb⟩ := hg; simp [Li.blk_nil] at hb
  · obtain ⟨c, _, hb⟩ := hg; simp [Li.blk_nil] at hb
  · simp [Li.blk_nil] at hg
  · simp [Li.blk_nil] at hg
  · simp [Li.blk_nil] at hg
  · simp [Li.blk_nil] at hg
  · have := h.lo; omega
  · have := h.qge i hi
    exact if_neg (by omega)
  · have hge : w.heap.size ≤ g := by
      rcases hg with e | e | e | e | e | e | e | e
      · omega
      · omega
      · have := h.lo; omega
      · exact (h.r4.block g e).1
      · exact (h.r5.block g e).1
      · exact (h.r10.block g e).1
      · exact (h.r11.block g e).1
      · exact (h.r12.block g e).1
    exact if_neg (by omega)
end
end Go.Proofs.YticbnckikkdknaaGreatDoor

namespace Go.Proofs.YticbnckikkdknaaGreatDoor
set_option linter.unusedVariables false
set_option linter.unusedSimpArgs false
set_option maxRecDepth 100000
open Go.RowKit

/-- All that an owner may turn lies at or beyond B. -/
structure Lo (B T p r sp : Nat) (qs : Nat → Nat) (v : Av) : Prop where
  p0 : B ≤ p
  r0 : B ≤ r
  s0 : B ≤ sp
  q0 : ∀ i, i < T → B ≤ qs i
  o0 : ∀ i, i < T → ∀ g, Li.Owns (v.vss i) g → B ≤ g
  w0 : ∀ g ∈ Gx.blk (v.f 5), B ≤ g
  d0 : ∀ g ∈ Gx.blk (v.f 10), B ≤ g
  m0 : ∀ g ∈ Gx.blk (v.f 11), B ≤ g
  z0 : ∀ g ∈ Gx.blk (v.f 12), B ≤ g
  a0 : ∀ i, i < T → ∀ g ∈ Li.blk (v.ms i), B ≤ g
  b0 : ∀ i, i < T → ∀ g ∈ Li.blk (v.ss i), B ≤ g
/-- The State as it begins. -/
abbrev Av0 (f : Nat → Value) (db dc : Nat) : Av := ⟨f, fun _ _ => .slice none 0 0, fun _ _ => .slice none 0 0, fun _ => .slice none 0 0, fun _ => .slice none 0 0, db, dc⟩
abbrev As0 (T n : Nat) : As := ⟨HB T n, fun _ _ => [], fun _ => false, fun _ => [], fun _ => []⟩
def colB : Nat → Nat := fun g => if g = 0 then 2000 else 0
theorem Pq.low {w W : World} {T n sp db dc : Nat} {qs : Nat → Nat} {f : Nat → Value} (h : Pq w T n sp db dc qs f T T T T T W) : Lo w.heap.size T (w.heap.size + 1) w.heap.size sp qs (Av0 f db dc) where
  p0 := by omega
  r0 := Nat.le_refl _
  s0 := by have := h.lo; omega
  q0 := fun i hi => by have := h.qge i hi; omega
  o0 := fun i hi g hg => by obtain ⟨c, _, hb⟩ := hg; simp [Li.blk_nil] at hb
  w0 := fun g hg => (h.r5.block g hg).1
  d0 := fun g hg => (h.r10.block g hg).1
  m0 := fun g hg => (h.r11.block g hg).1
  z0 := fun g hg => (h.r12.block g hg).1
  a0 := fun i hi g hg => by simp [Li.blk_nil] at hg
  b0 := fun i hi g hg => by simp [Li.blk_nil] at hg
/-- The two layouts' boxes. -/
def B6T (T a b n : Nat) (F : World → Prop) (wx : World) : Prop :=
  wx.cell? ⟨a, 0, none⟩ = some (.int .i64 T) ∧ wx.cell? ⟨a, 1, none⟩ = some (.int .i64 0) ∧ wx.cell? ⟨a, 2, none⟩ = some (.int .i64 n) ∧ wx.cell? ⟨b, 0, none⟩ = some (.int .i64 T) ∧ wx.cell? ⟨b, 1, none⟩ = some (.int .i64 0) ∧ wx.cell? ⟨b, 2, none⟩ = some (.int .i64 n) ∧ F wx
theorem B6T.keep {T a b n : Nat} {F : World → Prop} {wx wy : World} {S : List Nat} (h : B6T T a b n F wx) (k : Kp S wx wy) (ha : a ∉ S) (hb : b ∉ S) (hF : F wx → F wy) : B6T T a b n F wy := by
  obtain ⟨h0, h1, h2, h3, h4, h5, h6⟩ := h
  exact ⟨kp_cell k ha h0, kp_cell k ha h1, kp_cell k ha h2, kp_cell k hb h3, kp_cell k hb h4, kp_cell k hb h5, hF h6⟩
def st0T (T p b n N : Nat) : Array Value := #[.pointer (some ⟨p, 0, none⟩), .int .i64 T, .int .i64 0, .int .i64 n, .slice none 0 0, .slice none 0 0, .slice (some ⟨b, 0, none⟩) N N, .int .i64 T, .int .i64 0, .int .i64 n, .slice none 0 0, .slice none 0 0, .slice none 0 0]
def stFT (T p b n N : Nat) (i : Nat) : Value := (st0T T p b n N).getD i undef

set_option maxHeartbeats 4000000 in
theorem begins_many (w : World) (T0 : Cl.Tab w) (T n : Nat) (hT1 : 1 ≤ T) (hT4 : T ≤ 4) (hn1 : 1 ≤ n) (hn2 : n ≤ 12) :
    Calls Tryz.prog 26 #[.int .i64 n, .int .i64 T] w fun e w' => ∃ sp f db dc qs, e = .returned (.tuple #[.pointer (some ⟨sp, 0, none⟩), .bool true]) ∧ Aw T n (w.heap.size + 1) w.heap.size sp qs (Av0 f db dc) (As0 T n) 1 colB w' ∧ Kp [] w w' ∧ Lo w.heap.size T (w.heap.size + 1) w.heap.size sp qs (Av0 f db dc) := by
  have HT0 := Lib.hid T0
  clear T0
  have hNew := Lib.hid (fun w => new_good w (3 + T + 33 * n) (by omega) (by omega))
  have hbk : Ly.blkP ((3 + T + 33 * n : Nat) : Int) T 0 = n := by unfold Ly.blkP; rw [if_pos (by omega)]; omega
  have hLay := Lib.hid (fun w => Ly.new_ok ((3 + T + 33 * n : Nat) : Int) T 0 n w hbk (by omega) (by omega) (by omega) (by omega) (by omega) (by omega) (by omega))
  have hRLay := Lib.hid (fun w => Ly.rnew_ok ((3 + T + 33 * n : Nat) : Int) T 0 n w hbk (by omega) (by omega) (by omega) (by omega) (by omega) (by omega) (by omega))
  have hB := Lib.hid (fun w => Ly.blocks_is T 0 n w)
  have hmk := Lib.hid (make_u64s (3 + T + 33 * n) (by omega))
  have hAll := Lib.hid (fun w => Bm.rall_is (n : Int) (2 ^ n - 1) w (by rw [show min (n : Int).toNat 64 = n from by simp; omega]))
  have HH : Hid (∀ w', Ar w' (w.heap.size + 1) w.heap.size (fresh (3 + T + 33 * n)) → Hw T 0 n (w.heap.size + 1) w.heap.size (List.replicate (3 + T + 33 * n) 0) 0 w') := by
    refine Lib.hid fun w' a => ⟨⟨0, a⟩, by simp; try omega, by simp; try omega, fun k => ?_, by omega, by omega, by omega⟩
    simp only [List.getD_eq_getElem?_getD, List.getElem?_replicate]
    split <;> simp
  have e1 : (33 * (n : Int)) = ((33 * n : Nat) : Int) := by omega
  have ew1 := IntWalk.i64_in ((33 * n : Nat) : Int) (by omega)
  obtain ⟨N, hN⟩ : ∃ N, N = 3 + T + 33 * n := ⟨_, rfl⟩
  have HN := Lib.hid hN
  have ew0 := IntWalk.i64_in (3 + (T : Int)) (by omega)
  have ew3 := IntWalk.i64_in (3 + (T : Int) + ((33 * n : Nat) : Int)) (by omega)
  have e2 : (3 + (T : Int) + ((33 * n : Nat) : Int)) = (N : Int) := by omega
  rw [← hN] at hNew hLay hRLay hmk HH
  rw [e2] at ew3
  obtain ⟨M33, hM33⟩ : ∃ M, M = 33 * n := ⟨_, rfl⟩
  rw [← hM33] at e1 ew1 e2
  clear hN hbk hM33
  go_enter Tryz.func26, Tryz.ntmps26
  go_wp2_with fail
  refine (hNew.out _).mono ?_
  rintro e w1 ⟨rfl, ha1, hk1⟩
  have F1 := Lib.hid (And.intro (HH.out _ ha1) hk1)
  clear ha1 hk1
  go_wp2_with fail
  refine (hLay.out _).mono ?_
  rintro e w2 ⟨rfl, hk2⟩
  have kA2 : Kp [] w2 (w2.alloc (.cells #[.int .i64 T, .int .i64 0, .int .i64 n] 33)) := (Kp.refl _ _).alloc _
  have F2 := Lib.hid (And.intro (F1.out.1.on (hk2.trans kA2)) (And.intro (F1.out.2.trans (hk2.trans kA2)) (heap_alloc_new w2 (.cells #[.int .i64 T, .int .i64 0, .int .i64 n] 33))))
  clear hk2 kA2
  go_wp2_with fail
  refine (hRLay.out _).mono ?_
  rintro e w3 ⟨rfl, hk3⟩
  have kA3 : Kp [] w3 (w3.alloc (.cells #[.int .i64 T, .int .i64 0, .int .i64 n] 38)) := (Kp.refl _ _).alloc _
  have hrl := (hk3.trans kA3).row (by simp) F2.out.2.2
  have hrr := heap_alloc_new w3 (.cells #[.int .i64 T, .int .i64 0, .int .i64 n] 38)
  have F3 := Lib.hid (And.intro (F2.out.1.on (hk3.trans kA3)) (And.intro (F2.out.2.1.trans (hk3.trans kA3)) (And.intro hrl hrr)))
  have c0 : (w3.alloc (.cells #[.int .i64 T, .int .i64 0, .int .i64 n] 38)).cell? ⟨w2.heap.size, 0, none⟩ = some (.int .i64 T) := cell_of_row hrl 0
  have c1 : (w3.alloc (.cells #[.int .i64 T, .int .i64 0, .int .i64 n] 38)).cell? ⟨w2.heap.size, 1, none⟩ = some (.int .i64 0) := cell_of_row hrl 1
  have c2 : (w3.alloc (.cells #[.int .i64 T, .int .i64 0, .int .i64 n] 38)).cell? ⟨w2.heap.size, 2, none⟩ = some (.int .i64 n) := cell_of_row hrl 2
  clear hk3 kA3 hrl hrr
  go_wp2_with fail
  refine (hB.out _).mono ?_
  rintro e w4 ⟨rfl, hk4⟩
  have hrl := hk4.row (by simp) F3.out.2.2.1
  have hrr := hk4.row (by simp) F3.out.2.2.2
  have F4 := Lib.hid (And.intro (F3.out.1.on hk4) (And.intro (F3.out.2.1.trans hk4) (And.intro hrl hrr)))
  have HS0 : Hid (B6T T w2.heap.size w3.heap.size n (Kp [] w4) w4) := Lib.hid ⟨cell_of_row hrl 0, cell_of_row hrl 1, cell_of_row hrl 2, cell_of_row hrr 0, cell_of_row hrr 1, cell_of_row hrr 2, Kp.refl _ _⟩
  clear hk4 hrl hrr c0 c1 c2
  go_wp2_with fail
  have hmk' := hmk.out
  go_region_held3 (fun wx => wx.cell? ⟨w2.heap.size, 0, none⟩ = some (.int .i64 T) ∧ wx.cell? ⟨w2.heap.size, 1, none⟩ = some (.int .i64 0) ∧ wx.cell? ⟨w2.heap.size, 2, none⟩ = some (.int .i64 n) ∧ wx.cell? ⟨w3.heap.size, 0, none⟩ = some (.int .i64 T) ∧ wx.cell? ⟨w3.heap.size, 1, none⟩ = some (.int .i64 0) ∧ wx.cell? ⟨w3.heap.size, 2, none⟩ = some (.int .i64 n) ∧ Kp [] w4 wx)
    (first
      | assumption
      | exact B6T.keep HS0.out ((Kp.refl [] _).drew) (by simp) (by simp) (fun k => k.trans ((Kp.refl [] _).drew))
      | exact B6T.keep ‹B6T T w2.heap.size w3.heap.size n (Kp [] w4) _› ((Kp.refl [] _).alloc _) (by simp) (by simp) (fun k => k.trans ((Kp.refl [] _).alloc _)))
    (fail)
  all_goals
    rename_i hHeld
    clear hHeld
    have kW : Kp [] w4 (w4.alloc (.cells (u64s (List.replicate N 0)) 57)) := (Kp.refl _ _).alloc _
    have kS : Kp [] w4 ((w4.alloc (.cells (u64s (List.replicate N 0)) 57)).alloc (.cells (st0T T (w.heap.size + 1) w4.heap.size n N) 44)).drew := (kW.alloc _).drew
    have rW : (((w4.alloc (.cells (u64s (List.replicate N 0)) 57)).alloc (.cells (st0T T (w.heap.size + 1) w4.heap.size n N) 44)).drew).heap[w4.heap.size]? = some (.cells (u64s (List.replicate N 0)) 57 (0, 0)) := (((Kp.refl [] _).alloc _).drew).row (by simp) (heap_alloc_new w4 _)
    have rS : (((w4.alloc (.cells (u64s (List.replicate N 0)) 57)).alloc (.cells (st0T T (w.heap.size + 1) w4.heap.size n N) 44)).drew).heap[w4.heap.size + 1]? = some (.cells (st0T T (w.heap.size + 1) w4.heap.size n N) 44 (0, 0)) := by
      have := heap_alloc_new (w4.alloc (.cells (u64s (List.replicate N 0)) 57)) (.cells (st0T T (w.heap.size + 1) w4.heap.size n N) 44)
      rw [World.size_alloc] at this
      exact this
    unfold st0T at kS rW rS
    obtain ⟨w5, hw5⟩ : ∃ w5, w5 = ((w4.alloc (.cells (u64s (List.replicate N 0)) 57)).alloc (.cells #[.pointer (some ⟨w.heap.size + 1, 0, none⟩), .int .i64 T, .int .i64 0, .int .i64 n, .slice none 0 0, .slice none 0 0, .slice (some ⟨w4.heap.size, 0, none⟩) N N, .int .i64 T, .int .i64 0, .int .i64 n, .slice none 0 0, .slice none 0 0, .slice none 0 0] 44)).drew := ⟨_, rfl⟩
    have hK := F4.out.2.1.trans kS
    have hH5 := F4.out.1.on kS
    have hl5 := kS.row (by simp) F4.out.2.2.1
    have h0z : w.heap.size + 2 ≤ w4.heap.size := by
      have := F1.out.1.lt
      have h12 := F4.out.1.lt
      omega
    rw [← hw5] at rW rS hK hH5 hl5 ⊢
    have hS5 : S13 w5 (w4.heap.size + 1) (stFT T (w.heap.size + 1) w4.heap.size n N) := S13.of rS rfl
    have c0 := (cell_of_row hl5 0).trans (show _ = some (.int .i64 T) from rfl)
    have c1 := (cell_of_row hl5 1).trans (show _ = some (.int .i64 0) from rfl)
    have c2 := (cell_of_row hl5 2).trans (show _ = some (.int .i64 n) from rfl)
    have HBe := Lib.hid (g_begin hH5 (by omega) (2 ^ n - 1) (by rw [Nat.min_eq_left (by omega)]))
    have F5 := Lib.hid (And.intro hK (And.intro rW (And.intro hS5 h0z)))
    have HLt := Lib.hid hH5.lt
    clear kW kS rW rS hK hH5 hl5 hS5 h0z hw5 HS0
    go_wp2_with fail
    refine HBe.out.mono ?_
    rintro e w6 ⟨rfl, hh6, hk6⟩
    have hK6 : Kp [] w w6 := (F5.out.1.mono (by simp)).trans hk6 |>.mono (by simp)
    have hS6 := F5.out.2.2.1.keep hk6 (by have := F5.out.2.2.2; simp; omega)
    have hW6 := hk6.row (by have := F5.out.2.2.2; simp; omega) F5.out.2.1
    have F6 := Lib.hid (And.intro hK6 (And.intro hS6 (And.intro hW6 hh6)))
    have HBn : HB T n = (List.replicate N 0).set 0 ((2 ^ n - 1 : Nat) : Int) := by unfold HB; rw [HN.out]
    have HWt : Hid (∀ w', Kp [] w6 w' → Calls Tryz.prog 49 #[.agg #[.slice (some ⟨w4.heap.size, 0, none⟩) N N, .int .i64 T, .int .i64 ((0 : Nat) : Int), .int .i64 n], .int .i64 0, .int .u64 ((2 ^ n - 1 : Nat) : Int)] w' fun e w'' => ∃ b' c', e = .returned (.agg #[.slice (some ⟨b', 0, none⟩) N c', .int .i64 T, .int .i64 ((0 : Nat) : Int), .int .i64 n]) ∧ Dh (w.heap.size + 1) T 0 n b' c' (HB T n) w'' ∧ Kp [] w' w'') := by
      refine Lib.hid fun w' k => ?_
      have hl : (List.replicate N (0 : Int)).length = N := List.length_replicate
      have hww : Ww (w.heap.size + 1) w' w4.heap.size N (List.replicate N 0) := by
        refine ⟨by simp [ws_len], .inr ⟨w4.heap.size, N, _, by simp, by have := F5.out.2.2.2; omega, k.row (by simp) F6.out.2.2.1, by simp, ?_, by simp [u64s], ?_⟩⟩
        · have := HN.out; unfold maxLen; omega
        · simp [u64s, ws]
      have hd : Dh (w.heap.size + 1) T 0 n w4.heap.size N (List.replicate N 0) w' := by
        refine ⟨hww, by have := HN.out; simp; omega, by have := HN.out; simp; omega, fun k => ?_, by omega, by omega, by omega⟩
        simp only [List.getD_eq_getElem?_getD, List.getElem?_replicate]
        split <;> simp
      have hM : 2 ^ n - 1 < 18446744073709551616 := Nat.lt_of_lt_of_le (Nat.sub_lt (Nat.two_pow_pos n) (by decide)) (Nat.le_trans (Nat.pow_le_pow_right (by decide) (show n ≤ 12 by omega)) (by decide))
      have := hd.with (k := 0) (x := ((2 ^ n - 1 : Nat) : Int)) (by have := HN.out; simp; omega) (by omega) (by omega)
      rw [hl] at this
      refine this.mono ?_
      rintro e w2 ⟨b', c', rfl, h1, k2⟩
      rw [← HBn] at h1
      exact ⟨b', c', rfl, h1, k2⟩
    generalize 2 ^ n - 1 = M at hAll HWt
    have d6 := (hS6.cell (i := 6) (by decide)).trans (show _ = some (.slice (some ⟨w4.heap.size, 0, none⟩) N N) from rfl)
    have d7 := (hS6.cell (i := 7) (by decide)).trans (show _ = some (.int .i64 T) from rfl)
    have d8 := (hS6.cell (i := 8) (by decide)).trans (show _ = some (.int .i64 0) from rfl)
    have d9 := (hS6.cell (i := 9) (by decide)).trans (show _ = some (.int .i64 n) from rfl)
    clear hh6 hk6 hK6 hS6 hW6 c0 c1 c2 hmk'
    go_upto_region 9 with (fail)
    go_cut [13] (fun v13 wc => v13 = .pointer (some ⟨w4.heap.size + 1, 0, none⟩) ∧ Hid (∃ f db dc, Pq w T n (w4.heap.size + 1) db dc (fun _ => 0) f 0 0 0 0 0 wc))
    case first =>
      go_region_with (first
        | (go_at_call 56
           refine (hAll.out _).mono ?_
           rintro e w7 ⟨rfl, hk7⟩
           have K7 : Hid (Kp [] w6 w7) := Lib.hid (by refine Kp.trans ?_ hk7; exact ⟨rfl, rfl, rfl, Nat.le_refl _, fun _ _ _ => rfl⟩)
           have hS7 := F6.out.2.1.keep K7.out (by simp)
           have d6' := (hS7.cell (i := 6) (by decide)).trans (show _ = some (.slice (some ⟨w4.heap.size, 0, none⟩) N N) from rfl)
           have d7' := (hS7.cell (i := 7) (by decide)).trans (show _ = some (.int .i64 T) from rfl)
           have d8' := (hS7.cell (i := 8) (by decide)).trans (show _ = some (.int .i64 0) from rfl)
           have d9' := (hS7.cell (i := 9) (by decide)).trans (show _ = some (.int .i64 n) from rfl)
           clear hS7 hk7)
        | (go_at_call 49
           refine (HWt.out _ ?_).mono ?_
           · exact K7.out.trans ⟨rfl, rfl, rfl, Nat.le_refl _, fun _ _ _ => rfl⟩
           rintro e w8 ⟨b', c', rfl, hd8, hk8⟩
           have K8 : Hid (Kp [] w6 w8) := Lib.hid (K7.out.trans (by refine Kp.trans ?_ hk8; exact ⟨rfl, rfl, rfl, Nat.le_refl _, fun _ _ _ => rfl⟩))
           have hS8 := F6.out.2.1.keep K8.out (by simp)
           have d6'' := (hS8.cell (i := 6) (by decide)).trans (show _ = some (.slice (some ⟨w4.heap.size, 0, none⟩) N N) from rfl)
           have d7'' := (hS8.cell (i := 7) (by decide)).trans (show _ = some (.int .i64 T) from rfl)
           have d8'' := (hS8.cell (i := 8) (by decide)).trans (show _ = some (.int .i64 0) from rfl)
           have d9'' := (hS8.cell (i := 9) (by decide)).trans (show _ = some (.int .i64 n) from rfl)
           have g6 := hS8.free 6
           have g7 := hS8.free 7
           have g8 := hS8.free 8
           have g9 := hS8.free 9
           have HS8 := Lib.hid hS8
           have HD8 := Lib.hid hd8
           clear hS8 hk8 hd8))
      all_goals go_wp2_with fail
      all_goals go_meet
      all_goals
        have hs4 := (((HS8.out.set (i := 6) (by decide) (.slice (some ⟨b', 0, none⟩) N c')).set (i := 7) (by decide) (.int .i64 T)).set (i := 8) (by decide) (.int .i64 0)).set (i := 9) (by decide) (.int .i64 n)
        have hk4 : Kp [w4.heap.size + 1] w8 ((((w8.setCell ⟨w4.heap.size + 1, 6, none⟩ (.slice (some ⟨b', 0, none⟩) N c')).setCell ⟨w4.heap.size + 1, 7, none⟩ (.int .i64 T)).setCell ⟨w4.heap.size + 1, 8, none⟩ (.int .i64 0)).setCell ⟨w4.heap.size + 1, 9, none⟩ (.int .i64 n)) := ((((Kp.refl _ _).setCell (.inl (by simp)) _).setCell (.inl (by simp)) _).setCell (.inl (by simp)) _).setCell (.inl (by simp)) _
        have hz := F5.out.2.2.2
        have hK8 := F6.out.1.trans K8.out
        have hh8 : Hw T 0 n (w.heap.size + 1) w.heap.size (HB T n) 1 w8 := by
          have := F6.out.2.2.2.on K8.out
          rw [HBn]; exact this
        have hP : ∀ Wf, S13 Wf (w4.heap.size + 1) (fun j => if j = 9 then .int .i64 n else if j = 8 then .int .i64 0 else if j = 7 then .int .i64 T else if j = 6 then .slice (some ⟨b', 0, none⟩) N c' else stFT T (w.heap.size + 1) w4.heap.size n N j) → Kp [w4.heap.size + 1] w8 Wf → ∃ f db dc, Pq w T n (w4.heap.size + 1) db dc (fun _ => 0) f 0 0 0 0 0 Wf := fun Wf hS hK => by
          refine ⟨_, b', c', { hs := hS, hh := hh8.keep hK (by simp; omega) (by simp; omega), hd := HD8.out.keepS hK ?_, hk := kp_new_set hK8 hK (by omega), hl := by omega, qge := by omega, qne := by omega, r4 := Gx.Rw.nil _ _ _ _, r5 := Gx.Rw.nil _ _ _ _, r10 := Gx.Rw.nil _ _ _ _, r11 := Gx.Rw.nil _ _ _ _, r12 := Gx.Rw.nil _ _ _ _, two := by intro g hg; simp [stFT, st0T, Gx.blk_nil] at hg, lo := by omega, f0 := rfl, f1 := rfl, f2 := rfl, f3 := rfl, f6 := by rw [← HN.out]; rfl, f7 := rfl, f8 := rfl, f9 := rfl }⟩
          intro e
          rw [List.mem_singleton] at e
          obtain ⟨_, cur2, hc2⟩ := Gx.Rw.block HD8.out.ww b' (by rw [Gx.blk_some]; simp)
          have hst := HS8.out
          unfold S13 at hst
          rw [e, hst] at hc2; simp at hc2
        first
          | exact ⟨rfl, Lib.hid (hP _ hs4 hk4)⟩
          | exact ⟨rfl, Lib.hid (hP _ (hs4.keep ((Kp.refl [] _).drew) (by simp)) hk4.drew)⟩
    case rest =>
      obtain ⟨rfl, HF⟩ := hcut
      clear d6 d7 d8 d9 HWt hAll HBe HBn F1 F2 F3 F4 F6 F5 hB hmk hNew hLay hRLay HH HLt
      obtain ⟨sp, hsp⟩ : ∃ sp, sp = w4.heap.size + 1 := ⟨_, rfl⟩
      rw [← hsp] at HF ⊢
      clear hsp
      go_wp2_with fail
      go_loopg [14] T (fun gg v14 wr => ∃ k : Nat, k + gg = T ∧ v14 = .int .i64 k ∧ Hid (∃ f db dc qs, Pq w T n sp db dc qs f k k k k k wr))
      case atStart =>
        obtain ⟨f, db, dc, hP⟩ := HF.out
        exact ⟨0, by omega, rfl, Lib.hid ⟨f, db, dc, _, hP⟩⟩
      case round =>
        obtain ⟨k, hkg, rfl, HP⟩ := hrel
        by_cases hk : k < T
        · obtain ⟨f, db, dc, qs, P0⟩ := HP.out
          have P0 := Lib.hid P0
          have c4 := P0.out.hs.cell (i := 4) (by decide)
          have HNw : Hid (∀ w', Calls Tryz.prog 57 #[] w' fun e w'' => ∃ q, e = .returned (.pointer (some ⟨q, 0, none⟩)) ∧ Li.Ls w'' q (fun _ => .slice none 0 0) (fun _ => []) ∧ Kp [] w' w'' ∧ w'.heap.size ≤ q) := Lib.hid fun w' => (Li.new_any w').mono fun e w'' ⟨h1, h2, h3⟩ => ⟨_, h1, h2, h3, Nat.le_refl _⟩
          have HKG := Lib.hid hkg
          clear hkg HP HF
          go_upto_region 13 with (fail)
          go_cut [13] (fun v13 wd => v13 = .pointer (some ⟨sp, 0, none⟩) ∧ Hid (∃ f qs, Pq w T n sp db dc qs f (k + 1) k k k k wd))
          case first =>
            go_region_law (first
              | (refine step_append_eq rfl (.tmp 84) (.tmp 86) 34 rfl _ _ _ rfl rfl hrun ?_)
              | (go_simp
                 go_at_call 57
                 refine (HNw.out _).mono ?_
                 rintro e w5 ⟨q5, rfl, L5, k5, hq5⟩
                 have hq5' : wr.heap.size ≤ q5 := hq5
                 have k5' : Kp [] wr w5 := by refine Kp.trans ?_ k5; exact ⟨rfl, rfl, rfl, Nat.le_refl _, fun _ _ _ => rfl⟩
                 have P5 := P0.out.on k5'
                 have hs5 := P5.hs
                 obtain ⟨g6, cap6, w6', hrun, hs6, P6⟩ := P5.add4 (by omega) L5 (by have := P0.out.hk.size; have := P0.out.hh.lt; omega) (fun j hj => by have := (P0.out.hl j hj).lt; omega)
                 have c5 := hs5.cell (i := 4) (by decide)
                 have c5a := (hs5.keep ((Kp.refl [] w5).alloc (.cells #[.pointer (some ⟨q5, 0, none⟩)] 69)) (by simp)).cell (i := 4) (by decide)
                 have c6 := hs6.cell (i := 4) (by decide)
                 have g06 := hs6.free 4
                 have HST := Lib.hid P6
                 clear L5 k5 k5' hs5 hs6 hq5 hq5' P5 P6))
            all_goals go_wp2_with fail
            all_goals go_meet
            all_goals
              first
                | exact ⟨rfl, Lib.hid ⟨_, _, HST.out⟩⟩
                | exact ⟨rfl, Lib.hid ⟨_, _, HST.out.on ((Kp.refl [] _).drew)⟩⟩
          case rest =>
            obtain ⟨rfl, HG⟩ := hcut
            obtain ⟨f1, qs1, Q0⟩ := HG.out
            obtain ⟨W0, hW0⟩ : ∃ W, W = wc := ⟨_, rfl⟩
            rw [← hW0] at Q0 ⊢
            obtain ⟨g0, cap0, wa0, hrun0, hs0, Q1⟩ := Q0.add10 (by omega)
            have HRun0 := Lib.hid hrun0
            have l0 := Q0.hs.cell (i := 10) (by decide)
            have m0 := hs0.cell (i := 10) (by decide)
            have o0 := hs0.free 10
            have Q1 := Lib.hid Q1
            clear hrun0 hs0 Q0 HG P0 c4 hW0 HNw
            go_upto_region 15 with (at_builtin; refine Gx.wpList_append_eq rfl (.tmp 94) (.tmp 96) 41 rfl _ _ _ rfl rfl HRun0.out ?_)
            obtain ⟨W1, hW1⟩ : ∃ W, W = wa0.setCell ⟨sp, 10, none⟩ (.slice (some ⟨g0, 0, none⟩) (k + 1) cap0) := ⟨_, rfl⟩
            rw [← hW1] at Q1 ⊢
            obtain ⟨g1, cap1, wa1, hrun1, hs1, Q2⟩ := Q1.out.add5 (by omega)
            have HRun1 := Lib.hid hrun1
            have l1 := Q1.out.hs.cell (i := 5) (by decide)
            have m1 := hs1.cell (i := 5) (by decide)
            have o1 := hs1.free 5
            have Q2 := Lib.hid Q2
            generalize hF1 : ifF f1 10 (.slice (some ⟨g0, 0, none⟩) (k + 1) cap0) = f2 at Q2 hrun1 hs1 l1 m1 HRun1 Q1
            clear hrun1 hs1 hW1 l0 m0 o0 HRun0
            go_upto_region 16 with (at_builtin; refine Gx.wpList_append_eq rfl (.tmp 104) (.tmp 105) 35 rfl _ _ _ rfl rfl HRun1.out ?_)
            obtain ⟨W2, hW2⟩ : ∃ W, W = wa1.setCell ⟨sp, 5, none⟩ (.slice (some ⟨g1, 0, none⟩) (k + 1) cap1) := ⟨_, rfl⟩
            rw [← hW2] at Q2 ⊢
            obtain ⟨g2, cap2, wa2, hrun2, hs2, Q3⟩ := Q2.out.add11 (by omega)
            have HRun2 := Lib.hid hrun2
            have l2 := Q2.out.hs.cell (i := 11) (by decide)
            have m2 := hs2.cell (i := 11) (by decide)
            have o2 := hs2.free 11
            have Q3 := Lib.hid Q3
            generalize hF2 : ifF f2 5 (.slice (some ⟨g1, 0, none⟩) (k + 1) cap1) = f3 at Q3 hrun2 hs2 l2 m2 HRun2 Q2
            clear hrun2 hs2 hW2 l1 m1 o1 HRun1 Q1 hF1
            go_upto_region 17 with (at_builtin; refine Gx.wpList_append_eq rfl (.tmp 113) (.tmp 114) 42 rfl _ _ _ rfl rfl HRun2.out ?_)
            obtain ⟨W3, hW3⟩ : ∃ W, W = wa2.setCell ⟨sp, 11, none⟩ (.slice (some ⟨g2, 0, none⟩) (k + 1) cap2) := ⟨_, rfl⟩
            rw [← hW3] at Q3 ⊢
            obtain ⟨g3, cap3, wa3, hrun3, hs3, Q4⟩ := Q3.out.add12 (by omega)
            have HRun3 := Lib.hid hrun3
            have l3 := Q3.out.hs.cell (i := 12) (by decide)
            have m3 := hs3.cell (i := 12) (by decide)
            have o3 := hs3.free 12
            have Q4 := Lib.hid Q4
            generalize hF3 : ifF f3 11 (.slice (some ⟨g2, 0, none⟩) (k + 1) cap2) = f4 at Q4 hrun3 hs3 l3 m3 HRun3 Q3
            clear hrun3 hs3 hW3 l2 m2 o2 HRun2 Q2 hF2 Q3
            go_wp2_with (at_builtin; refine Gx.wpList_append_eq rfl (.tmp 122) (.tmp 123) 42 rfl _ _ _ rfl rfl HRun3.out ?_)
            go_roundg (T - (k + 1))
            case rel => exact ⟨k + 1, by omega, by go_num, Lib.hid ⟨_, _, _, _, Q4.out⟩⟩
            case measure => have := HKG.out; omega
        · obtain rfl : k = T := by omega
          obtain ⟨f, db, dc, qs, P0⟩ := HP.out
          go_wp2_with fail
          go_ret2
          exact ⟨sp, f, db, dc, qs, rfl, P0.aw (by omega) hT4 hn2 HT0.out, P0.hk, P0.low⟩

end Go.Proofs.YticbnckikkdknaaGreatDoor

namespace Go.Proofs.YticbnckikkdknaaGreatDoor
set_option linter.unusedVariables false
set_option linter.unusedSimpArgs false
open Go.RowKit

theorem info_in : ∃ i z, Tryz.prog.info? 3 = some i ∧ i.zero = some z ∧ i.size = 1 ∧ i.bytes = 8 ∧ z.cells.size = 1 := by
  obtain ⟨i, hi, hz0, hz1, hz2⟩ := info_parts (show (Tryz.prog.info? 3).map (fun i => (i.zero, i.size, i.bytes)) = some (some (.int .i64 0), 1, 8) by kernel_rfl)
  exact ⟨i, _, hi, hz0, hz1, hz2, rfl⟩
theorem ints_app (xs ys : List Int) : Li.ints (xs ++ ys) = Li.ints xs ++ Li.ints ys := by simp [Li.ints]
/-- Numbers that lie from an address on. -/
def Src (w : World) (ad : Addr) (ys : List Int) : Prop := ∀ j u, (Li.ints ys)[j]? = some u → w.cell? (ad.add j) = some u
theorem Src.keep {w w' : World} {g o : Nat} {ys : List Int} (h : Src w ⟨g, o, none⟩ ys) (k : Kp [] w w') : Src w' ⟨g, o, none⟩ ys := fun j u hu => by
  have := h j u hu
  rw [Addr.add_lit] at this ⊢
  exact kp_cell k (by simp) this
theorem Src.of_row {w : World} {g cap : Nat} {xs : List Int} (h : Li.Rw w (.slice (some ⟨g, 0, none⟩) xs.length cap) xs) : Src w ⟨g, 0, none⟩ xs := fun j u hu => by
  rcases h with ⟨h, _⟩ | ⟨g', cap', cur, he, hg, h1, h2, h3, h4⟩
  · simp at h
  · simp only [Value.slice.injEq, Option.some.injEq, Addr.mk.injEq, and_true, true_and] at he
    obtain ⟨rfl, rfl⟩ := he
    rw [Addr.add_lit, Nat.zero_add]
    have hj : j < xs.length := by
      have := (List.getElem?_eq_some_iff.1 hu).1
      rwa [Li.ints_len] at this
    rw [Li.row_cell hg h4 hj, ← hu, Li.ints_get xs j hj]
theorem Src.take {w : World} {g o : Nat} {xs : List Int} (h : Src w ⟨g, o, none⟩ xs) (k : Nat) : Src w ⟨g, o, none⟩ (xs.take k) := fun j u hu => h j u (by
  rw [← Li.ints_take, List.getElem?_take] at hu
  split at hu
  · exact hu
  · simp at hu)
theorem Src.drop {w : World} {g : Nat} {xs : List Int} (h : Src w ⟨g, 0, none⟩ xs) (k : Nat) : Src w ⟨g, k, none⟩ (xs.drop k) := fun j u hu => by
  have e : Li.ints (xs.drop k) = (Li.ints xs).drop k := by simp [Li.ints]
  rw [e, List.getElem?_drop] at hu
  have := h (k + j) u hu
  rw [Addr.add_lit, Nat.zero_add] at this
  rw [Addr.add_lit]
  exact this
section
variable {ops : Array Oper} {o : Oper} {a : Act} {K : Act → World → Prop} {Q : Exit → Act → World → Prop} {E : Prop} {w w0 : World}
/-- 'append(v, z)' of a row of whoever's. -/
theorem step_app2 (hgd : o.guard = none) (s x : Operand) (ho : o.op = .call { callee := .builtin .append, args := #[s, x], argTypes := #[46, 46] }) {v : Value} {xs : List Int} {n : Nat} (hn : xs.length = n) {z : Int} {ad : Addr} (hs : a.eval s = v) (hx : a.eval x = .slice (some ad) 1 1) (hown : Li.Rw w v xs) (hsrc : Src w ad [z]) (hl : n ≤ 100000)
    (h : ∀ g cap w', Li.Rw w' (.slice (some ⟨g, 0, none⟩) (n + 1) cap) (xs ++ [z]) → Kp (Li.blk v) w w' → (g ∈ Li.blk v ∨ g = w.heap.size) → K (a.put o.dst (.slice (some ⟨g, 0, none⟩) (n + 1) cap)) w') : if Region.wanted o (yielded ops a.tmps) = true then Oper.wp Tryz.prog o a w K Q else E := by
  subst hn
  obtain ⟨g, cap, w', hrun, hrw, hkp, hg⟩ := Gx.run_app (T := 3) (t := 46) (ty := o.type) (base := 0) Tryz.underlying46 info_in (by decide) (⟨hown.own⟩ : Gx.Rw 3 1 0 w v xs.length (Li.ints xs)) (Nat.zero_le _) ad 1 1 (Li.ints [z]) rfl hsrc (by
    intro u hu
    simp only [Li.ints, List.mem_map] at hu
    obtain ⟨x, _, rfl⟩ := hu
    rfl) (by omega) (by omega) (by omega)
  rw [← ints_app] at hrw
  have hr : Li.Rw w' (.slice (some ⟨g, 0, none⟩) (xs.length + 1) cap) (xs ++ [z]) := by
    have := hrw.own
    refine Li.Rw.of_own (base := 0) ?_
    rw [List.length_append]
    exact this
  exact step_append_eq hgd s x 46 ho _ _ _ hs hx hrun (h g cap w' hr hkp hg)
end
end Go.Proofs.YticbnckikkdknaaGreatDoor

namespace Go.Proofs.YticbnckikkdknaaGreatDoor
set_option linter.unusedVariables false
set_option linter.unusedSimpArgs false
set_option maxRecDepth 100000
open Go.RowKit

section
variable {T n p r sp t t' : Nat} {qs : Nat → Nat} {v : Av} {s : As} {col col' : Nat → Nat} {w w' w1 w2 w3 : World}
theorem rowF_at {U : TypeId} {m : Nat} {x : Value} {F : Nat → Value} (h : Gx.Rw U 1 0 w x m ((List.range m).map F)) (hm : 0 < m) : ∃ b c, x = .slice (some ⟨b, 0, none⟩) m c ∧ m ≤ c ∧ (∃ cur, w.heap[b]? = some (.cells cur U (0, 0))) ∧ ∀ i, i < m → w.cell? ⟨b, i, none⟩ = some (F i) := by
  obtain ⟨b, c, e, hc, hcell⟩ := Gx.Rw.at h hm (by decide)
  refine ⟨b, c, e, hc, ?_, fun i hi => ?_⟩
  · exact (Gx.Rw.block h b (by rw [e, Gx.blk_some]; simp)).2
  · rw [hcell i (by omega), List.getElem?_map, List.getElem?_range hi]; rfl
theorem row4_at {U : TypeId} {m : Nat} {x : Value} {us : Nat → Nat → Value} (h : Gx.Rw U 4 0 w x m ((List.range (4 * m)).map fun k => us (k / 4) (k % 4))) (hm : 0 < m) : ∃ b c, x = .slice (some ⟨b, 0, none⟩) m c ∧ m ≤ c ∧ (∃ cur, w.heap[b]? = some (.cells cur U (0, 0))) ∧ ∀ i d, i < m → d < 4 → w.cell? ⟨b, i * 4 + d, none⟩ = some (us i d) := by
  obtain ⟨b, c, e, hc, hcell⟩ := Gx.Rw.at h hm (by decide)
  refine ⟨b, c, e, hc, ?_, fun i d hi hd => ?_⟩
  · exact (Gx.Rw.block h b (by rw [e, Gx.blk_some]; simp)).2
  · rw [hcell _ (by omega), List.getElem?_map, List.getElem?_range (by omega)]
    simp only [Option.map_some]
    rw [show (i * 4 + d) / 4 = i from by omega, show (i * 4 + d) % 4 = d from by omega]
/-- All of the arena's words, as a row of its own. -/
theorem Aw.all (h : Aw T n p r sp qs v s t col w) (hT : 0 < T) (hn : n ≤ 12) : Calls Tryz.prog 13 #[.pointer (some ⟨p, 0, none⟩)] w fun e w' => e = .returned (.slice (some ⟨w.heap.size, 0, none⟩) (3 + T + 33 * n) (3 + T + 33 * n)) ∧ w'.heap[w.heap.size]? = some (.cells (u64s s.H) 57 (0, 0)) ∧ Kp [] w w' := by
  obtain ⟨t0, ht0, hw⟩ := (h.mws.one 0 hT).hw
  obtain ⟨l, a⟩ := hw.ar
  have hl := h.fit.len
  have := all_any w p r _ a (by show 1 ≤ s.H.length; omega) (hw.top)
  rw [show (St.mk s.H t0 l).ws.length = 3 + T + 33 * n from hl] at this
  exact this
theorem Li.Rd.get {u : Value} {xs : List Int} (h : Li.Rd w u xs) : ∃ g o c, (∃ ao, u = .slice ao xs.length c ∧ (xs ≠ [] → ao = some ⟨g, o, none⟩)) ∧ xs.length ≤ c ∧ ∀ i, i < xs.length → w.cell? ⟨g, o + i, none⟩ = some (.int .i64 (xs.getD i 0)) := by
  obtain ⟨ao, c, e, hc, hz, hx⟩ := h.form
  by_cases hne : xs = []
  · exact ⟨0, 0, c, ⟨ao, e, fun h => absurd hne h⟩, hc, fun i hi => by rw [hne] at hi; simp at hi⟩
  · obtain ⟨g, o, rfl, hcell⟩ := hx hne
    exact ⟨g, o, c, ⟨_, e, fun _ => rfl⟩, hc, hcell⟩

set_option maxHeartbeats 4000000 in
theorem aw_same (h : Aw T n p r sp qs v s t col w) (hT : 0 < T) (hT4 : T ≤ 64) (hn : n ≤ 12) :
    Calls Tryz.prog 20 #[.pointer (some ⟨sp, 0, none⟩)] w fun e w' => e = .returned (.bool true) ∧ Kp [] w w' := by
  have HAll := Lib.hid (h.all hT hn)
  have HA := Lib.hid h
  have a0 : w.cell? ⟨sp, 0, none⟩ = some (.pointer (some ⟨p, 0, none⟩)) := (h.cell (by decide)).trans (by rw [h.f0])
  obtain ⟨N, hN⟩ : ∃ N, N = 3 + T + 33 * n := ⟨_, rfl⟩
  have HN := Lib.hid (And.intro hN h.fit.len)
  rw [← hN] at HAll
  have hN1 : N ≤ 4096 := by omega
  clear hN h
  go_enter Tryz.func20, Tryz.ntmps20
  go_wp2_with fail
  refine HAll.out.mono ?_
  rintro e w1 ⟨rfl, hb1, hk1⟩
  have HA1 := Lib.hid (HA.out.on hk1)
  have HB := Lib.hid hb1
  have HK := Lib.hid hk1
  have b6 : w1.cell? ⟨sp, 6, none⟩ = some (.slice (some ⟨v.db, 0, none⟩) N v.dc) := (HA1.out.cell (by decide)).trans (by rw [HA1.out.f6, HN.out.1])
  have hneq : ((N : Int) != (N : Int)) = false := by simp
  clear hb1 hk1 HAll a0
  go_wp2_with fail
  go_loopg [4] N (fun g v4 wr => ∃ i : Nat, i + g = N ∧ v4 = .int .i64 i ∧ Hid (Kp [] w1 wr))
  case atStart => exact ⟨0, by omega, rfl, Lib.hid (Kp.refl _ _)⟩
  case round =>
    obtain ⟨i, hi, rfl, HR⟩ := hrel
    by_cases hlt : i < N
    · have hA2 := HA1.out.on HR.out
      have c1 : wr.cell? ⟨sp, 6, none⟩ = some (.slice (some ⟨v.db, 0, none⟩) N v.dc) := (hA2.cell (by decide)).trans (by rw [hA2.f6, HN.out.1])
      have c2 := hA2.dh.cell (k := i) (by rw [HN.out.2, ← HN.out.1]; exact hlt)
      have c3 : wr.cell? ⟨w.heap.size, i, none⟩ = some (.int .u64 (s.H.getD i 0)) := by rw [cell_of_row (HR.out.row (by simp) HB.out), u64s_get _ _ (by rw [HN.out.2, ← HN.out.1]; exact hlt)]
      have hdc : N ≤ v.dc := by
        obtain ⟨_, cur, _, _, _, hz, _⟩ := hA2.dh.ww.heap (by rw [HN.out.2, ← HN.out.1]; omega)
        rw [HN.out.2, ← HN.out.1] at hz; exact hz
      obtain ⟨y, hy⟩ : ∃ y, s.H.getD i 0 = y := ⟨_, rfl⟩
      rw [hy] at c2 c3
      have hne : (y != y) = false := by simp
      clear hy hA2 b6
      go_wp2_with fail
      go_region
      all_goals go_wp2_with fail
      all_goals go_roundg (N - (i + 1))
      all_goals first | omega | exact ⟨i + 1, by omega, rfl, Lib.hid (HR.out.drew)⟩ | exact ⟨i + 1, by omega, rfl, HR⟩
    · obtain rfl : i = N := by omega
      have HK2 := Lib.hid (HK.out.trans HR.out)
      obtain ⟨b10, c10, e10, hc10, -, hcell10⟩ := row4_at HA.out.docs hT
      obtain ⟨b4, c4, e4, hc4, -, hcell4⟩ := rowF_at HA.out.free hT
      have z10 : w.cell? ⟨sp, 10, none⟩ = some (.slice (some ⟨b10, 0, none⟩) T c10) := (HA.out.cell (by decide)).trans (by rw [e10])
      have z4 : w.cell? ⟨sp, 4, none⟩ = some (.slice (some ⟨b4, 0, none⟩) T c4) := (HA.out.cell (by decide)).trans (by rw [e4])
      have HX := Lib.hid (And.intro z10 (And.intro z4 (And.intro hcell10 hcell4)))
      clear e10 e4 hcell10 hcell4 z10 z4 HR HA1 b6 HB hlt
      have d10 := kp_cell HK2.out (by simp) HX.out.1
      go_wp2_with fail
      go_loopg [5] T (fun g v5 wr => ∃ k : Nat, k + g = T ∧ v5 = .int .i64 k ∧ Hid (Kp [] w wr))
      case atStart => exact ⟨0, by omega, rfl, HK2⟩
      case round =>
        obtain ⟨k, hk, rfl, HR⟩ := hrel
        clear d10 HK2
        have d10 := kp_cell HR.out (by simp) HX.out.1
        by_cases hkT : k < T
        · go_wp2_with fail
          go_loopg [6] 4 (fun g v6 wr => ∃ c : Nat, c + g = 4 ∧ v6 = .int .i64 c ∧ Hid (Kp [] w wr))
          case atStart => exact ⟨0, by omega, rfl, HR⟩
          case round =>
            obtain ⟨c, hc, rfl, HQ⟩ := hrel
            clear d10 HR
            by_cases hc4' : c < 4
            · have HA4 := Lib.hid (HA.out.on HQ.out)
              have x4 := kp_cell HQ.out (by simp) HX.out.2.1
              have y4 := kp_cell HQ.out (by simp) (HX.out.2.2.2 k hkT)
              have hlen : (s.Rs k c).length ≤ 1000 := (HA4.out.mws.one k hkT).lk.len (HA4.out.mws.one k hkT).sm c hc4'
              have HAl := Lib.hid (Li.all_good _ (qs k) c (v.vss k) (s.Rs k) (HA4.out.mws.one k hkT).ls hc4' hlen)
              obtain ⟨m, hm⟩ : ∃ m, m = (s.Rs k c).length := ⟨_, rfl⟩
              obtain ⟨B0, hB0⟩ : ∃ B0, B0 = wr.heap.size := ⟨_, rfl⟩
              rw [← hm, ← hB0] at HAl
              rw [← hm] at hlen
              clear hB0
              have HM := Lib.hid hm
              clear hm
              go_wp2_with fail
              refine HAl.out.mono ?_
              rintro e w5 ⟨rfl, hr5, hk5⟩
              have HK5 := Lib.hid (HQ.out.trans hk5)
              have HR5 := Lib.hid hr5
              have hrd := (HA.out.on HK5.out).rd k hkT c hc4'
              obtain ⟨g, o, cu, ⟨ao, eu, hao⟩, hcu, hcell⟩ := Li.Rd.get hrd
              have hml : (Li.rev (s.Rs k) c).length = m := by rw [HM.out]; simp [Li.rev]
              rw [hml] at eu hcu hcell
              have HC := Lib.hid (And.intro eu (And.intro hao hcell))
              clear hr5 hk5 hrd eu hao hcell HAl x4 y4
              have x10 := kp_cell HK5.out (by simp) HX.out.1
              have y10 := (kp_cell HK5.out (by simp) (HX.out.2.2.1 k c hkT hc4')).trans (congrArg some HC.out.1)
              have hneq : ((m : Int) != (m : Int)) = false := by simp
              go_wp2_with fail
              go_loopg [8] m (fun g v8 wr => ∃ j : Nat, j + g = m ∧ v8 = .int .i64 j ∧ Hid (Kp [] w5 wr))
              case atStart => exact ⟨0, by omega, rfl, Lib.hid (Kp.refl _ _)⟩
              case round =>
                obtain ⟨j, hj, rfl, HJ⟩ := hrel
                clear x10 y10
                by_cases hjm : j < m
                · have hne : Li.rev (s.Rs k) c ≠ [] := by
                    intro e0
                    rw [HM.out, ← List.length_reverse, show (s.Rs k c).reverse = Li.rev (s.Rs k) c from rfl, e0] at hjm
                    simp at hjm
                  obtain rfl := HC.out.2.1 hne
                  have c1 := kp_cell (HK5.out.trans HJ.out) (by simp) HX.out.1
                  have c2 := (kp_cell (HK5.out.trans HJ.out) (by simp) (HX.out.2.2.1 k c hkT hc4')).trans (congrArg some HC.out.1)
                  have c3 := kp_cell HJ.out (by simp) (HC.out.2.2 j hjm)
                  have c4' : wr.cell? ⟨B0, j, none⟩ = some (.int .i64 ((Li.rev (s.Rs k) c).getD j 0)) := by
                    have hl : (Li.rev (s.Rs k) c).length = m := by rw [HM.out]; simp [Li.rev]
                    have hr : Li.Rw wr (.slice (some ⟨B0, 0, none⟩) (Li.rev (s.Rs k) c).length m) (Li.rev (s.Rs k) c) := by rw [hl]; exact HR5.out.keep0 HJ.out
                    have := Src.of_row hr j _ (Li.ints_get _ j (by omega))
                    rwa [Addr.add_lit, Nat.zero_add] at this
                  obtain ⟨y, hy⟩ : ∃ y, (Li.rev (s.Rs k) c).getD j 0 = y := ⟨_, rfl⟩
                  rw [hy] at c3 c4'
                  have hne : (y != y) = false := by simp
                  clear hy hneq
                  go_wp2_with fail
                  go_region
                  all_goals go_wp2_with fail
                  all_goals go_roundg (m - (j + 1))
                  all_goals first | omega | exact ⟨j + 1, by omega, rfl, Lib.hid (HJ.out.drew)⟩ | exact ⟨j + 1, by omega, rfl, HJ⟩
                · have HK6 := Lib.hid (HK5.out.trans HJ.out)
                  go_wp2_with fail
                  go_roundg (4 - (c + 1))
                  case rel => exact ⟨c + 1, by omega, by go_num, HK6⟩
                  case measure => omega
            · go_wp2_with fail
              go_roundg (T - (k + 1))
              case rel => exact ⟨k + 1, by omega, by go_num, HQ⟩
              case measure => omega
        · go_wp2_with fail
          go_ret
          exact ⟨rfl, HR.out⟩
end
end Go.Proofs.YticbnckikkdknaaGreatDoor
