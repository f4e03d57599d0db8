/- Layer 10's map of objects: made, looked up, stored into, counted; rows that are made. Conditions: as each lemma states them. -/
import Derived.Test.YtmbhhadghiojeaaGrS
import Derived.WalkArith
import Derived.WalkKit
namespace Go.Proofs.Ytmbhhadghiojeaa
set_option linter.unusedVariables false
set_option linter.unusedSimpArgs false
open Go.RowKit Go.Maps

theorem kint : Keyed Try.prog 3 := int_keyed Try.underlying3
def zobj : Value := .agg #[.slice none 0 0, .slice none 0 0]
theorem zero_obj (w : World) : (zeroValue 56).run Try.prog w = .ok zobj w := by kernel_rfl
theorem wf_nat {n : Nat} (h : n ≤ 100000) : (Lit.int .i64 (n : Int)).wf = true := by
  refine WalkArith.wf_i64 ?_
  omega

theorem Mo.at {w : World} {B m : Nat} {f : Nat → Value} (h : Mo w B m f) {n : Nat} (h1 : 1 ≤ n) (hn : n ≤ m) (hb : n ≤ 100000) :
    (Instr.lookup 50 (.map (some B)) (.int .i64 n) false).run Try.prog w = .ok (f n) w := by
  obtain ⟨D, ho, _, _, _, h5⟩ := h
  obtain ⟨v, ps, hrun, hv⟩ := ho.lookup kint Try.underlying50 (zero_obj w) rfl (keyOf_int_mk Try.underlying3 (wf_nat hb))
  rw [h5 n h1 hn] at hv
  rw [hrun, heldR_inv hv]
theorem Mo.ok {w : World} {B m : Nat} {f : Nat → Value} (h : Mo w B m f) {n : Nat} (h1 : 1 ≤ n) (hn : n ≤ m) (hb : n ≤ 100000) :
    (Instr.lookup 50 (.map (some B)) (.int .i64 n) true).run Try.prog w = .ok (.tuple #[f n, .bool true]) w := by
  obtain ⟨D, ho, _, _, h4, h5⟩ := h
  obtain ⟨v, ps, hrun, hv⟩ := ho.look_ok kint Try.underlying50 (zero_obj w) rfl (keyOf_int_mk Try.underlying3 (wf_nat hb))
  rw [h5 n h1 hn] at hv
  rw [hrun, heldR_inv hv, h4 n h1 hn]
theorem Mo.no {w : World} {B m : Nat} {f : Nat → Value} (h : Mo w B m f) {x : Int} (hw : (Lit.int .i64 x).wf = true) (hx : x < 1 ∨ (m : Int) < x) :
    (Instr.lookup 50 (.map (some B)) (.int .i64 x) true).run Try.prog w = .ok (.tuple #[zobj, .bool false]) w := by
  obtain ⟨D, ho, _, h3, _, _⟩ := h
  obtain ⟨v, ps, hrun, hv⟩ := ho.look_ok kint Try.underlying50 (zero_obj w) rfl (keyOf_int_mk Try.underlying3 hw)
  have hf : Maps.has D (.int .i64 x) = false := Bool.eq_false_iff.2 fun hh => by
    obtain ⟨n, a, b, e⟩ := h3 _ hh
    injection e with _ e
    omega
  rw [atKey_of_not_has hf] at hv
  rw [hrun, heldR_inv hv, hf]
theorem Mo.len {w : World} {B m : Nat} {f : Nat → Value} (h : Mo w B m f) (ty : TypeId) : (Builtin.len_ #[50] ty #[.map (some B)]).run Try.prog w = .ok (.int .i64 m) w := by
  obtain ⟨D, ho, h2, _⟩ := h
  rw [ho.len Try.underlying50 ty, h2]
theorem Mo.made (w : World) (f : Nat → Value) : Mo (w.alloc (.map #[] 0)) w.heap.size 0 f := by
  refine ⟨_, World.ownsMap_made w Try.prog 3 heldR, rfl, fun l h => ?_, fun n a b => by omega, fun n a b => by omega⟩
  simp [Maps.has] at h
theorem Mo.put {w : World} {B m : Nat} {f : Nat → Value} (h : Mo w B m f) (hm : m ≤ 10000) (u : Value) :
    ∃ w', (Instr.mapUpdate 50 (.map (some B)) (.int .i64 ((m : Int) + 1)) u).run Try.prog w = .ok () w' ∧ Mo w' B (m + 1) (up f (m + 1) u) ∧ Kp [B] w w' := by
  obtain ⟨D, ho, h2, h3, h4, h5⟩ := h
  have hw : (Lit.int .i64 ((m : Int) + 1)).wf = true := wf_nat (n := m + 1) (by omega)
  obtain ⟨w', hrun, ho', hg⟩ := ho.update (val := u) (d := .held u) (ps := []) kint Try.underlying50 (by unfold maxLen; omega) (keyOf_int_mk Try.underlying3 hw) rfl
  have hno : Maps.has D (.int .i64 ((m : Int) + 1)) = false := Bool.eq_false_iff.2 fun hh => by
    obtain ⟨n, a, b, e⟩ := h3 _ hh
    injection e with _ e
    omega
  have hkl : WideAt.IsKeyLit (.int .i64 ((m : Int) + 1)) := trivial
  refine ⟨w', hrun, ⟨_, ho', ?_, fun l hl => ?_, fun n a b => ?_, fun n a b z => ?_⟩, (Kp.refl [B] w).grown hg (fun j hj => by cases hj; simp)⟩
  · rw [size_put (ho.tidy kint), hno, h2]; rfl
  · by_cases e : l = .int .i64 ((m : Int) + 1)
    · exact ⟨m + 1, by omega, Nat.le_refl _, by rw [e]; rfl⟩
    · rw [has_put_other e] at hl
      obtain ⟨n, a, b, e⟩ := h3 _ hl
      exact ⟨n, a, by omega, e⟩
  · by_cases e : n = m + 1
    · subst e
      exact has_put_same ho.isMap hkl _
    · rw [has_put_other (by intro q; injection q with _ q; omega)]
      exact h4 n a (by omega)
  · by_cases e : n = m + 1
    · subst e
      rw [up_same]
      exact atKey_put_same ho.isMap hkl _ _
    · rw [up_other _ _ e, atKey_put_other (by intro q; injection q with _ q; omega)]
      exact h5 n a (by omega) z

def u64s (ws : List Int) : Array Value := (ws.map (Value.int .u64)).toArray
theorem make_u64s (n : Nat) (h2 : n ≤ 4096) (w : World) : (Instr.makeSlice 54 (.int .i64 (n : Int)) (.int .i64 (n : Int))).run Try.prog w = .ok (.slice (some ⟨w.heap.size, 0, none⟩) n n) (w.alloc (.cells (u64s (List.replicate n 0)) 22)) := by
  obtain ⟨i, hi, hz0, hz1, hz2⟩ := info_parts (P := Try.prog) (e := 22) (z := .int .u64 0) (size := 1) (bytes := 8) (by kernel_rfl)
  have := run_make (P := Try.prog) w 54 22 i (.int .u64 0) Try.underlying54 hi hz0 .i64 .i64 n n (by omega) (Int.le_refl _) (by rw [hz2]; omega) (by omega)
  have e : madeCells #[.int .u64 0] n = u64s (List.replicate n 0) := by
    apply Array.ext'
    rw [toList_madeCells_one]
    simp [u64s]
  rw [this, hz1]
  simp [Value.cells, e]
theorem ro_ints {w : World} {g n : Nat} (h : w.heap[g]? = some (.cells (ints (List.replicate n 0)).toArray 3 (0, 0))) : Ro 3 .i64 w g (List.replicate n 0) := by
  refine ⟨_, h, fun i hi => ?_⟩
  rw [← ints_get _ i hi]; simp
theorem ro_u64s {w : World} {g n : Nat} (h : w.heap[g]? = some (.cells (u64s (List.replicate n 0)) 22 (0, 0))) : Ro 22 .u64 w g (List.replicate n 0) := by
  refine ⟨_, h, fun i hi => ?_⟩
  simp at hi
  simp [u64s, List.getD, hi]

/-- An object more. -/
def Grew (W : World) (B m r d : Nat) (f : Nat → Value) (w5 : World) : Prop :=
  ∃ gi gd, W.heap.size ≤ gi ∧ W.heap.size ≤ gd ∧ Ro 3 .i64 w5 gi (List.replicate r 0) ∧ Ro 22 .u64 w5 gd (List.replicate d 0) ∧
    Mo w5 B (m + 1) (up f (m + 1) (.agg #[.slice (some ⟨gi, 0, none⟩) r r, .slice (some ⟨gd, 0, none⟩) d d])) ∧ Kp [B] W w5

theorem Gy.made {w w' : World} {p : Nat} {s : Gs} {y : Ly} (h : Gy w p s y) {r d : Nat} (hg : Grew w y.B s.m r d (y.obj s) w') :
    ∃ y', Gy w' p { s with m := s.m + 1, R := up s.R (s.m + 1) (List.replicate r 0), D := up s.D (s.m + 1) (List.replicate d 0) } y' ∧
      (∀ b, Foot p { s with m := s.m + 1, R := up s.R (s.m + 1) (List.replicate r 0), D := up s.D (s.m + 1) (List.replicate d 0) } y' b → Foot p s y b ∨ (w.heap.size ≤ b ∧ b < w'.heap.size)) ∧ y'.qs = y.qs ∧ y'.tb = y.tb := by
  obtain ⟨gi, gd, hgi, hgd, hri, hrd, hmo, k⟩ := hg
  refine ⟨{ y with ig := up y.ig (s.m + 1) gi, ic := up y.ic (s.m + 1) r, dg := up y.dg (s.m + 1) gd, dc := up y.dc (s.m + 1) d }, ?_, ?_, rfl, rfl⟩
  · obtain ⟨cur, hc, hx⟩ := h.ht
    have n0 : ∀ {α : Type} (f : Nat → α) (x : α), up f (s.m + 1) x 0 = f 0 := fun f x => up_other _ _ (by omega)
    have lo : ∀ {α : Type} (f : Nat → α) (x : α) (n : Nat), n ≤ s.m → up f (s.m + 1) x n = f n := fun f x n hn => up_other _ _ (by omega)
    have bne : ∀ {g T kk xs}, Ro T kk w g xs → g ∉ [y.B] := fun q => by
      obtain ⟨cu, hrow, _⟩ := q
      simpa using (h.hm.ne hrow).symm
    refine ⟨?_, ⟨cur, k.row (by simpa using (h.hm.ne hc).symm) hc, hx⟩, fun i hi => (h.hq i hi).keep k ?_, fun n hn => ?_, fun n h1 hn => ?_, hmo.congr fun n h1 hn => ?_, h.aq, fun n j hn hj e => ?_, fun n j h1 hn h2 hj e => ?_⟩
    · show w'.heap[p]? = some (.cells #[_, .slice (some ⟨up y.ig (s.m + 1) gi 0, 0, none⟩) (up s.R (s.m + 1) (List.replicate r 0) 0).length (up y.ic (s.m + 1) r 0), _] _ (0, 0))
      rw [n0, n0, n0]
      exact k.row (by simpa using (h.hm.ne h.hp).symm) h.hp
    · obtain ⟨csq, hq⟩ := (h.hq i hi).row
      simpa using (h.hm.ne hq).symm
    · show Ro _ _ w' (up y.ig (s.m + 1) gi n) (up s.R (s.m + 1) (List.replicate r 0) n)
      by_cases e : n = s.m + 1
      · subst e; rw [up_same, up_same]; exact hri
      · have hn' : n ≤ s.m := by have : n ≤ s.m + 1 := hn; omega
        rw [lo _ _ _ hn', lo _ _ _ hn']
        exact (h.hi n hn').keep k (bne (h.hi n hn'))
    · show Ro _ _ w' (up y.dg (s.m + 1) gd n) (up s.D (s.m + 1) (List.replicate d 0) n)
      by_cases e : n = s.m + 1
      · subst e; rw [up_same, up_same]; exact hrd
      · have hn' : n ≤ s.m := by have : n ≤ s.m + 1 := hn; omega
        rw [lo _ _ _ hn', lo _ _ _ hn']
        exact (h.hd n h1 hn').keep k (bne (h.hd n h1 hn'))
    · show up _ _ _ n = Ytmbhhadghiojeaa.obj (up y.ig (s.m + 1) gi) (up y.ic (s.m + 1) r) (up y.dg (s.m + 1) gd) (up y.dc (s.m + 1) d) (up s.R (s.m + 1) (List.replicate r 0)) (up s.D (s.m + 1) (List.replicate d 0)) n
      by_cases e : n = s.m + 1
      · subst e
        simp [Ytmbhhadghiojeaa.obj, up_same]
      · have hn' : n ≤ s.m := by omega
        simp [Ytmbhhadghiojeaa.obj, up_other _ _ e, Ly.obj]
    · have hn : n ≤ s.m + 1 := hn
      have hj : j ≤ s.m + 1 := hj
      have e : up y.ig (s.m + 1) gi n = up y.ig (s.m + 1) gi j := e
      by_cases e1 : n = s.m + 1 <;> by_cases e2 : j = s.m + 1
      · omega
      · subst e1
        rw [up_same, up_other _ _ e2] at e
        have := (h.hi j (by omega)).lt
        omega
      · subst e2
        rw [up_same, up_other _ _ e1] at e
        have := (h.hi n (by omega)).lt
        omega
      · rw [up_other _ _ e1, up_other _ _ e2] at e
        exact h.ai n j (by omega) (by omega) e
    · have hn : n ≤ s.m + 1 := hn
      have hj : j ≤ s.m + 1 := hj
      have e : up y.dg (s.m + 1) gd n = up y.dg (s.m + 1) gd j := e
      by_cases e1 : n = s.m + 1 <;> by_cases e2 : j = s.m + 1
      · omega
      · subst e1
        rw [up_same, up_other _ _ e2] at e
        have := (h.hd j h2 (by omega)).lt
        omega
      · subst e2
        rw [up_same, up_other _ _ e1] at e
        have := (h.hd n h1 (by omega)).lt
        omega
      · rw [up_other _ _ e1, up_other _ _ e2] at e
        exact h.ad n j h1 (by omega) h2 (by omega) e
  · rintro b (hb | hb | hb | ⟨i, hi, hb⟩ | ⟨n, hn, hb⟩ | ⟨n, h1, hn, hb⟩)
    · exact .inl (.inl hb)
    · exact .inl (.inr (.inl hb))
    · exact .inl (.inr (.inr (.inl hb)))
    · exact .inl (.inr (.inr (.inr (.inl ⟨i, hi, hb⟩))))
    · have hb : b = up y.ig (s.m + 1) gi n := hb
      have hn : n ≤ s.m + 1 := hn
      by_cases e : n = s.m + 1
      · subst e
        rw [up_same] at hb
        subst hb
        exact .inr ⟨hgi, hri.lt⟩
      · rw [up_other _ _ e] at hb
        exact .inl (.inr (.inr (.inr (.inr (.inl ⟨n, by omega, hb⟩)))))
    · have hb : b = up y.dg (s.m + 1) gd n := hb
      have hn : n ≤ s.m + 1 := hn
      by_cases e : n = s.m + 1
      · subst e
        rw [up_same] at hb
        subst hb
        exact .inr ⟨hgd, hrd.lt⟩
      · rw [up_other _ _ e] at hb
        exact .inl (.inr (.inr (.inr (.inr (.inr ⟨n, h1, by omega, hb⟩)))))

end Go.Proofs.Ytmbhhadghiojeaa
