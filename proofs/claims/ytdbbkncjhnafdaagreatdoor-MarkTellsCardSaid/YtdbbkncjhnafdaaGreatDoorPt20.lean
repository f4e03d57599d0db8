/- Law 18, its parts: a map of truths that is told, who is told by a map or a box, places by their numbers, Mark's errors. Law 18, its parts, on: places by their numbers, how great a heap may be, the known heap. Law 18: what stands of a heap whose words turn; the known heap, marked. Law 18: the known heap, marked: its wake. Conditions: as each theorem states them. -/
import Derived.Maps.Own
import Derived.Maps.OwnSet
import Derived.Maps.Views
import Derived.WalkArith
import Derived.WalkKit
import Derived.Test.YtdbbkncjhnafdaaGreatDoorPt19
namespace Go.Proofs.YtdbbkncjhnafdaaGreatDoor
set_option linter.unusedVariables false
set_option linter.unusedSimpArgs false
set_option maxRecDepth 100000
open Go.RowKit Go.Maps

theorem mkint : Keyed Tryz.prog 3 := int_keyed Tryz.underlying3
theorem mwf_nat {n : Nat} (h : n ≤ 100000) : (Lit.int .i64 (n : Int)).wf = true := by
  refine WalkArith.wf_i64 ?_
  omega
theorem mbool_inv {H : Type} {P : Program} {e : TypeId} (he : P.underlying e = some .bool) {v : Value} {z : DataW H × List MemPlace} (h : plainElem P e v = some z) : ∃ x, v = .bool x ∧ z = (.lit (.bool x), []) := by
  unfold plainElem at h
  rw [he] at h
  cases v <;> simp at h
  exact ⟨_, rfl, h.symm⟩
theorem mzero_bool (w : World) : (zeroValue 4).run Tryz.prog w = .ok (.bool false) w := by kernel_rfl
theorem cnt_more (f : Nat → Bool) (a : Nat) (hf : f a = false) : ∀ N, (List.range N).countP (fun z => f z || decide (z = a)) = (List.range N).countP f + if a < N then 1 else 0
  | 0 => rfl
  | N + 1 => by
    have ih := cnt_more f a hf N
    rw [List.range_succ, List.countP_append, List.countP_append, List.countP_singleton, List.countP_singleton]
    by_cases e : N = a
    · subst e
      rw [if_neg (by omega)] at ih
      simp [hf]; omega
    · have : decide (N = a) = false := by simp [e]
      rw [this]
      simp only [Bool.or_false]
      have e1 : (if a < N + 1 then 1 else 0) = (if a < N then 1 else 0) := by split <;> split <;> omega
      rw [e1]
      omega
theorem cnt_ext {f g : Nat → Bool} : ∀ N, (∀ z, z < N → f z = g z) → (List.range N).countP f = (List.range N).countP g
  | 0, _ => rfl
  | N + 1, h => by
    rw [List.range_succ, List.countP_append, List.countP_append, List.countP_singleton, List.countP_singleton, cnt_ext N (fun z hz => h z (by omega)), h N (by omega)]
theorem cnt_cut (f : Nat → Bool) (N : Nat) (h : ∀ z, f z = true → z < N) : ∀ M, (List.range (N + M)).countP f = (List.range N).countP f
  | 0 => rfl
  | M + 1 => by
    rw [← Nat.add_assoc, List.range_succ, List.countP_append, cnt_cut f N h M, List.countP_singleton]
    cases hf : f (N + M) with
    | false => simp
    | true => have := h _ hf; omega

/-- A map of numbers to truths, to which true alone is put. -/
def Mt (w : World) (B N : Nat) (f : Nat → Bool) : Prop :=
  ∃ D : DataW Unit, w.ownsMap Tryz.prog 3 (plainElem Tryz.prog 4) B (Maps.size D) D ∧ (∀ n : Nat, n ≤ 100000 → D.atKey (.int .i64 n) (.lit (.bool false)) = .lit (.bool (f n))) ∧ (∀ n : Nat, n ≤ 100000 → Maps.has D (.int .i64 n) = f n) ∧ Maps.size D = (List.range N).countP f ∧ ∀ n, f n = true → n < N
section
variable {w w' : World} {B N : Nat} {f : Nat → Bool}
theorem Mt.at (h : Mt w B N f) {n : Nat} (hb : n ≤ 100000) : (Instr.lookup 29 (.map (some B)) (.int .i64 n) false).run Tryz.prog w = .ok (.bool (f n)) w := by
  obtain ⟨D, ho, h5, _⟩ := h
  obtain ⟨v, ps, hrun, hv⟩ := ho.lookup mkint Tryz.underlying29 (mzero_bool w) (plainElem_bool (H := Unit) Tryz.underlying4 false) (keyOf_int_mk Tryz.underlying3 (mwf_nat hb))
  rw [h5 n hb] at hv
  obtain ⟨x, hx, e⟩ := mbool_inv Tryz.underlying4 hv
  have e1 : f n = x := by
    have := congrArg Prod.fst e
    simpa using this
  rw [hrun, hx, e1]
theorem Mt.made (w : World) (N : Nat) : Mt (w.alloc (.map #[] 0)) w.heap.size N (fun _ => false) :=
  ⟨.map [], World.ownsMap_made w Tryz.prog 3 (plainElem Tryz.prog 4), fun n a => rfl, fun n a => rfl, by simp [Maps.size], fun n h => by cases h⟩
theorem Mt.keep {S : List Nat} (h : Mt w B N f) (k : Kp S w w') (hB : B ∉ S) : Mt w' B N f := by
  obtain ⟨D, ⟨es, clock, hb, r⟩, h2⟩ := h
  exact ⟨D, ⟨es, clock, k.row hB hb, r⟩, h2⟩
theorem Mt.lt (h : Mt w B N f) : B < w.heap.size := by
  obtain ⟨D, ⟨es, clock, hb, r⟩, h2⟩ := h
  exact lt_of_block hb
theorem Mt.ne {b : Nat} {cs : Array Value} {t : TypeId} {fr : Nat × Nat} (h : Mt w B N f) (hb : w.heap[b]? = some (.cells cs t fr)) : B ≠ b := by
  obtain ⟨D, ⟨es, clock, hm, _⟩, _⟩ := h
  intro e; subst e
  have := hm.symm.trans hb
  simp at this
theorem Mt.len (h : Mt w B N f) (ty : TypeId) : (Builtin.len_ #[29] ty #[.map (some B)]).run Tryz.prog w = .ok (.int .i64 ((List.range N).countP f : Nat)) w := by
  obtain ⟨D, ho, _, _, h5, _⟩ := h
  rw [← h5]
  exact ho.len Tryz.underlying29 ty
theorem owns_tight {k : TypeId} {R : Value → Option (DataW Unit × List MemPlace)} {b n : Nat} {D : DataW Unit} (h : w.ownsMap Tryz.prog k R b n D) : w.ownsMap Tryz.prog k R b (Maps.size D) D := by
  obtain ⟨es, clock, hb, F, hs, rfl⟩ := h
  exact ⟨es, clock, hb, F, by simp [Maps.size, length_sorted], rfl⟩
theorem Mt.put (h : Mt w B N f) (hN : N ≤ 100000) {a : Nat} (ha : a < N) :
    ∃ w', (Instr.mapUpdate 29 (.map (some B)) (.int .i64 a) (.bool true)).run Tryz.prog w = .ok () w' ∧ Mt w' B N (fun z => f z || decide (z = a)) ∧ Kp [B] w w' := by
  obtain ⟨D, ho, h5, h6, h7, h8⟩ := h
  have hcl : (List.range N).countP f ≤ N := by
    have := List.countP_le_length (p := f) (l := List.range N)
    simpa using this
  obtain ⟨w', hrun, ho', hg⟩ := ho.update mkint Tryz.underlying29 (by unfold maxLen; omega) (keyOf_int_mk Tryz.underlying3 (mwf_nat (n := a) (by omega))) (plainElem_bool (H := Unit) Tryz.underlying4 true)
  have hkl : WideAt.IsKeyLit (.int .i64 (a : Int)) := trivial
  refine ⟨w', hrun, ⟨_, owns_tight ho', fun k b => ?_, fun k b => ?_, ?_, fun n hn => ?_⟩, (Kp.refl [B] w).grown hg (fun j hj => by cases hj; simp)⟩
  · by_cases e : k = a
    · subst e
      rw [Maps.atKey_put_same ho.isMap hkl]
      simp
    · rw [Maps.atKey_put_other (by intro q; injection q with _ q; omega), h5 k b]
      simp [e]
  · by_cases e : k = a
    · subst e
      rw [Maps.has_put_same ho.isMap hkl]
      simp
    · rw [Maps.has_put_other (by intro q; injection q with _ q; omega), h6 k b]
      simp [e]
  · rw [Maps.size_put (ho.tidy mkint), h6 a (by omega), h7]
    cases hfa : f a with
    | true =>
      rw [if_pos rfl]
      exact cnt_ext N fun z hz => by
        by_cases e : z = a
        · subst e; simp [hfa]
        · simp [e]
    | false =>
      rw [if_neg (by decide), cnt_more f a hfa N, if_pos ha]
  · simp only [Bool.or_eq_true, decide_eq_true_eq] at hn
    rcases hn with hn | rfl
    · exact h8 n hn
    · exact ha
end

section
variable {T n p r q ro o t : Nat} {gf : Value} {H : List Int} {w w' : World}
/-- Told by a map. -/
def TLm (bx mb : Nat) (tl : Nat → Bool) (w : World) : Prop := w.heap[bx]? = some (.cells #[.map (some mb)] 29 (0, 0)) ∧ Mt w mb 5001 tl
theorem TLm.keep {bx mb : Nat} {tl : Nat → Bool} {S : List Nat} (h : TLm bx mb tl w) (k : Kp S w w') (h1 : bx ∉ S) (h2 : mb ∉ S) : TLm bx mb tl w' := ⟨k.row h1 h.1, h.2.keep k h2⟩
theorem map_told {g : Nat} (bx mb : Nat) (hbm : bx ≠ mb) (hlt : bx ≠ p ∧ bx ≠ r ∧ mb ≠ p ∧ mb ≠ r ∧ bx ≠ q ∧ bx ≠ ro ∧ mb ≠ q ∧ mb ≠ ro)
    (hen : ∀ (x : Value) (w : World), (callFunc g (#[x] ++ #[.pointer (some ⟨bx, 0, none⟩)])).run Tryz.prog w = .ok (.enter g (#[x] ++ #[.pointer (some ⟨bx, 0, none⟩)])) w)
    (hc : ∀ tl w (a : Nat), TLm bx mb tl w → a ≤ 5000 → Calls Tryz.prog g (#[.int .i64 a] ++ #[.pointer (some ⟨bx, 0, none⟩)]) w fun e w' => e = .returned (.tuple #[]) ∧ TLm bx mb (fun z => tl z || decide (z = a)) w' ∧ Kp [bx, mb] w w') :
    TlOk p r q ro [bx, mb] (.func (.func g) #[] #[.pointer (some ⟨bx, 0, none⟩)]) true (TLm bx mb) where
  keep := fun tl S w w' hS k h => h.keep k (fun e => hS _ e (by simp)) (fun e => hS _ e (by simp))
  no := fun h => by cases h
  tell := fun _ => ⟨g, _, rfl, hen, hc⟩
  sg := by simp; omega
/-- The law's closures over a map. -/
theorem tells_put (bx mb : Nat) (tl : Nat → Bool) (w : World) (a : Nat) (h : TLm bx mb tl w) (ha : a ≤ 5000) : Calls Tryz.prog 11 #[.int .i64 a, .pointer (some ⟨bx, 0, none⟩)] w fun e w' => e = .returned (.tuple #[]) ∧ TLm bx mb (fun z => tl z || decide (z = a)) w' ∧ Kp [bx, mb] w w' := by
  obtain ⟨h1, h2⟩ := h
  have hne := h2.ne h1
  obtain ⟨w1, hrun, hm, hk⟩ := h2.put (by omega) (a := a) (by omega)
  have c0 := (cell_of_row h1 0).trans (show _ = some (.map (some mb)) from rfl)
  have F := Lib.hid (show TLm bx mb (fun z => tl z || decide (z = a)) w1 ∧ Kp [bx, mb] w w1 from ⟨⟨hk.row (by simp; omega) h1, hm⟩, hk.mono (by simp)⟩)
  clear h1 h2 hne hm hk
  go_enter Tryz.func11, Tryz.ntmps11
  go_wp2
  go_end0
  exact ⟨rfl, F.out⟩
/-- Told by a box: the last one. -/
def TLb (bx : Nat) (tl : Nat → Bool) (w : World) : Prop := ∃ v : Nat, w.heap[bx]? = some (.cells #[.int .i64 v] 3 (0, 0)) ∧ ((v = 0 ∧ ∀ z, tl z = false) ∨ tl v = true)
theorem wakes_put (bx : Nat) (tl : Nat → Bool) (w : World) (a : Nat) (h : TLb bx tl w) (ha : a ≤ 5000) : Calls Tryz.prog 30 #[.int .i64 a, .pointer (some ⟨bx, 0, none⟩)] w fun e w' => e = .returned (.tuple #[]) ∧ TLb bx (fun z => tl z || decide (z = a)) w' ∧ Kp [bx] w w' := by
  obtain ⟨v, h1, h2⟩ := h
  have c0 := (cell_of_row h1 0).trans (show _ = some (.int .i64 v) from rfl)
  have f0 := free_of_row h1 0
  have F := Lib.hid (show TLb bx (fun z => tl z || decide (z = a)) (w.setCell ⟨bx, 0, none⟩ (.int .i64 a)) ∧ Kp [bx] w (w.setCell ⟨bx, 0, none⟩ (.int .i64 a)) from ⟨⟨a, by rw [heap_setCell_same _ _ _ _ _ _ h1]; rfl, .inr (by simp)⟩, (Kp.refl _ _).setCell (.inl (by simp)) _⟩)
  clear h1 h2
  go_enter Tryz.func30, Tryz.ntmps30
  go_wp2
  go_end0
  exact ⟨rfl, F.out⟩
theorem box_told (bx : Nat) (hlt : bx ≠ p ∧ bx ≠ r ∧ bx ≠ q ∧ bx ≠ ro) :
    TlOk p r q ro [bx] (.func (.func 30) #[] #[.pointer (some ⟨bx, 0, none⟩)]) true (TLb bx) where
  keep := fun tl S w w' hS k ⟨v, h, h2⟩ => ⟨v, k.row (fun e => hS _ e (by simp)) h, h2⟩
  no := fun h => by cases h
  tell := fun _ => ⟨_, _, rfl, fun x w => by kernel_rfl, fun tl w a h ha => wakes_put bx tl w a h ha⟩
  sg := by simp; omega
set_option maxHeartbeats 1000000 in
theorem mark_arg (hT : T ≤ 64) (ho : o ≤ 255) (room : Int) (hb : room < 1 ∨ 64 < room ∨ T ≤ o) (ao : Option Addr) (m cap : Nat) (w : World) (gf : Value) : Calls Tryz.prog 14 #[.agg #[.iface 30 (.pointer (some ⟨p, 0, none⟩)), .int .i64 T, .int .i64 0, .int .i64 n, .int .u8 o, .int .i64 room, gf], .slice ao m cap] w fun e w' => e = .returned (.int .i64 2) ∧ Kp [] w w' := by
  have kb : Kp [] w (w.alloc (.cells #[.iface 30 (.pointer (some ⟨p, 0, none⟩)), .int .i64 T, .int .i64 0, .int .i64 n, .int .u8 o, .int .i64 room, gf] 52)) := (Kp.refl _ _).alloc _
  have r0 : (w.alloc (.cells #[.iface 30 (.pointer (some ⟨p, 0, none⟩)), .int .i64 T, .int .i64 0, .int .i64 n, .int .u8 o, .int .i64 room, gf] 52)).heap[w.heap.size]? = some (.cells #[.iface 30 (.pointer (some ⟨p, 0, none⟩)), .int .i64 T, .int .i64 0, .int .i64 n, .int .u8 o, .int .i64 room, gf] 52 (0, 0)) := heap_alloc_new _ _
  have HB := Lib.hid (And.intro kb r0)
  obtain ⟨w1, hw1⟩ : ∃ w1, w1 = w.alloc (.cells #[.iface 30 (.pointer (some ⟨p, 0, none⟩)), .int .i64 T, .int .i64 0, .int .i64 n, .int .u8 o, .int .i64 room, gf] 52) := ⟨_, rfl⟩
  rw [← hw1] at HB r0
  have c0 := (cell_of_row r0 0).trans (show _ = some (.iface 30 (.pointer (some ⟨p, 0, none⟩))) from rfl)
  have c5 := (cell_of_row r0 5).trans (show _ = some (.int .i64 room) from rfl)
  clear kb r0
  by_cases hr : room < 1 ∨ 64 < room
  · have HNew := Lib.hid (Sk.snew_bad w1 room hr)
    clear hr hb
    go_enter Tryz.func14, Tryz.ntmps14
    go_upto_region 1 with (fail)
    rw [← hw1]
    clear hw1
    go_wp2_with fail
    refine HNew.out.mono ?_
    rintro e w2 ⟨rfl, rfl⟩
    go_wp2_with fail
    go_quiet (fail)
    go_wp2_with fail
    go_ret
    exact ⟨rfl, HB.out.1.trans (Gx.kp_drewN _ _)⟩
  · obtain ⟨rm, rfl⟩ : ∃ rm : Nat, room = rm := ⟨room.toNat, by omega⟩
    have HNew := Lib.hid (Sk.snew_good w1 rm (by omega) (by omega))
    have hTo : T ≤ o := by omega
    clear hr hb
    go_enter Tryz.func14, Tryz.ntmps14
    go_upto_region 1 with (fail)
    rw [← hw1]
    clear hw1
    go_wp2_with fail
    refine HNew.out.mono ?_
    rintro e w2 ⟨rfl, -, k2⟩
    obtain ⟨q, hq⟩ : ∃ q, q = w1.heap.size + 1 := ⟨_, rfl⟩
    rw [← hq]
    have r0 := k2.row (by simp) HB.out.2
    have HK2 := Lib.hid (HB.out.1.trans k2)
    have c1 := (cell_of_row r0 1).trans (show _ = some (.int .i64 T) from rfl)
    have c2 := (cell_of_row r0 2).trans (show _ = some (.int .i64 0) from rfl)
    have c3 := (cell_of_row r0 3).trans (show _ = some (.int .i64 n) from rfl)
    have c4 := (cell_of_row r0 4).trans (show _ = some (.int .u8 o) from rfl)
    have HTh := Lib.hid (fun wq => Ly.threads_is (T : Int) 0 (n : Int) wq)
    have co : IntKind.i64.wrap (o : Int) = o := IntWalk.i64_in _ (by omega)
    have hoT : decide ((T : Int) ≤ (o : Int)) = true := by simp; omega
    have hoT' : decide (T ≤ o) = true := by simp; omega
    clear k2 hq r0 HNew c0 c5
    go_upto_region 4 with (fail)
    go_cut [30] (fun v30 we => v30 = .bool true ∧ Hid (Kp [] w2 we))
    case first =>
      have HC4 : Hid (∀ wx, Kp [] w2 wx → wx.cell? ⟨w.heap.size, 1, none⟩ = some (.int .i64 T) ∧ wx.cell? ⟨w.heap.size, 2, none⟩ = some (.int .i64 0) ∧ wx.cell? ⟨w.heap.size, 3, none⟩ = some (.int .i64 n) ∧ wx.cell? ⟨w.heap.size, 4, none⟩ = some (.int .u8 o) ∧ Kp [] w2 wx) := Lib.hid fun wx k => ⟨kp_cell k (by simp) c1, kp_cell k (by simp) c2, kp_cell k (by simp) c3, kp_cell k (by simp) c4, k⟩
      have k0 : Kp [] w2 w2 := Kp.refl _ _
      go_region_held3 (fun wx => wx.cell? ⟨w.heap.size, 1, none⟩ = some (.int .i64 T) ∧ wx.cell? ⟨w.heap.size, 2, none⟩ = some (.int .i64 0) ∧ wx.cell? ⟨w.heap.size, 3, none⟩ = some (.int .i64 n) ∧ wx.cell? ⟨w.heap.size, 4, none⟩ = some (.int .u8 o) ∧ Kp [] w2 wx)
        (first
          | with_reducible assumption
          | exact HC4.out _ K4.out
          | exact HC4.out _ (K4.out.trans ((Kp.refl [] _).drew))
          | exact HC4.out _ ((Kp.refl [] _).drew)
          | exact HC4.out _ (Kp.refl [] _))
        (first
          | (go_at_call 37
             refine (HTh.out _).mono ?_
             rintro e w4 ⟨rfl, k4⟩
             have K4 : Hid (Kp [] w2 w4) := Lib.hid (by
               refine Kp.trans ?_ k4
               repeat (first
                 | with_reducible exact Kp.refl _ _
                 | with_reducible refine Kp.drew ?_))
             clear k4))
      all_goals
        rename_i hHeld
        have HKp := Lib.hid hHeld.2.2.2.2
        clear hHeld
      all_goals go_wp2_with fail
      all_goals go_meet
      all_goals
        first
          | exact ⟨rfl, HKp⟩
          | exact ⟨by simp [*], HKp⟩
    case rest =>
      obtain ⟨rfl, HK3⟩ := hcut
      have F := Lib.hid (HK2.out.trans HK3.out)
      go_wp2_with fail
      go_ret
      exact ⟨rfl, F.out⟩
end
end Go.Proofs.YtdbbkncjhnafdaaGreatDoor

namespace Go.Proofs.YtdbbkncjhnafdaaGreatDoor
open List renaming getElem?_cons_zero → gqZ
set_option linter.unusedVariables false
set_option linter.unusedSimpArgs false
set_option maxRecDepth 100000
open Go.RowKit

/-- One number more behind a row of the call's own. -/
theorem app_oneI {w : World} {v : Value} {xs : List Value} {m : Nat} {base : Nat} (hown : Gx.Rw 3 1 base w v m xs) (hb : base ≤ w.heap.size) (z : Int) (hl : m ≤ 100000) (ty : TypeId) :
    ∃ g cap w', (Builtin.append_ #[45, 45] ty #[v, .slice (some ⟨w.heap.size, 0, none⟩) 1 1]).run Tryz.prog (w.alloc (.cells #[.int .i64 z] 3)) = .ok (.slice (some ⟨g, 0, none⟩) (m + 1) cap) w' ∧ Gx.Rw 3 1 base w' (.slice (some ⟨g, 0, none⟩) (m + 1) cap) (m + 1) (xs ++ [.int .i64 z]) ∧ Kp (Gx.blk v) w w' := by
  have ka : Kp [] w (w.alloc (.cells #[.int .i64 z] 3)) := (Kp.refl _ _).alloc _
  obtain ⟨i, hi, hz0, hz1, hz2⟩ := info_parts (show (Tryz.prog.info? 3).map (fun i => (i.zero, i.size, i.bytes)) = some (some (.int .i64 0), 1, 8) by kernel_rfl)
  obtain ⟨g, cap, w', hrun, hrw, hkp, hg⟩ := Gx.run_app (T := 3) (t := 45) (ty := ty) (base := base) Tryz.underlying45 ⟨i, _, hi, hz0, hz1, hz2, rfl⟩ (by decide) (hown.keep0 ka) (Nat.le_trans hb ka.size) ⟨w.heap.size, 0, none⟩ 1 1 [.int .i64 z] rfl (by
    intro j u hu
    match j, hu with
    | 0, hu =>
      simp only [gqZ, Option.some.injEq] at hu
      subst hu
      rw [Addr.add_lit]
      exact cell_of_row (heap_alloc_new w (.cells #[.int .i64 z] 3)) 0
    | j + 1, hu => simp at hu) (by
    intro u hu
    simp only [List.mem_singleton] at hu
    subst hu
    rfl) (by omega) (by omega) (by omega)
  exact ⟨g, cap, w', hrun, hrw, (ka.mono (by simp)).trans hkp⟩

/-- Numbers of things that came in. -/
def Nms (W : World) (ao : Option Addr) (l : List Nat) : Prop := ∀ j, j < l.length → ∃ g q, ao = some ⟨g, q, none⟩ ∧ W.cell? ⟨g, q + j, none⟩ = some (.int .u8 (l.getD j 0)) ∧ l.getD j 0 ≤ 255
theorem Nms.keep {W W' : World} {ao : Option Addr} {l : List Nat} (h : Nms W ao l) (k : Kp [] W W') : Nms W' ao l := fun j hj => by
  obtain ⟨g, q, e, hc, hb⟩ := h j hj
  exact ⟨g, q, e, kp_cell k (by simp) hc, hb⟩
/-- Their places, as values. -/
def plV (P : List Int) (l : List Nat) (m : Nat) : List Value := (List.range m).map fun j => .int .i64 (atP P (l.getD j 0))
theorem plV_succ (P : List Int) (l : List Nat) (m : Nat) : plV P l (m + 1) = plV P l m ++ [.int .i64 (atP P (l.getD m 0))] := by simp [plV, List.range_succ]
section
variable {T n : Nat} {B sp hb t : Nat} {qs : Nat → Nat} {s : As} {P : List Int} {w W : World}
set_option maxHeartbeats 1000000 in
theorem places_any (h : Hm B T n sp hb qs s P t w W) (hP : P.length ≤ 200) {ao : Option Addr} {cap : Nat} {l : List Nat} (hl : l.length ≤ 60) (hN : Nms W ao l) :
    Calls Tryz.prog 13 #[.pointer (some ⟨hb, 0, none⟩), .slice ao l.length cap] W fun e w' => ∃ ao' c, e = .returned (.slice ao' l.length c) ∧ Gx.Rw 3 1 W.heap.size w' (.slice ao' l.length c) l.length (plV P l l.length) ∧ Kp [] W w' := by
  have HAt := Lib.hid (fun (wq : World) (kq : Kp [] W wq) (m : Nat) (hm : m ≤ 255) => hm_at (h.on kq) hP m hm _ rfl)
  have HN := Lib.hid hN
  obtain ⟨M, hM⟩ : ∃ M, M = l.length := ⟨_, rfl⟩
  rw [← hM] at hl ⊢
  have HM := Lib.hid hM
  clear h hN hM hP
  go_enter Tryz.func13, Tryz.ntmps13
  go_wp2_with fail
  go_loopg [5, 6] M (fun gg v5 v6 wr => ∃ q : Nat, ∃ ao c, q + gg = M ∧ v6 = .int .i64 q ∧ v5 = .slice ao q c ∧ Hid (Kp [] W wr ∧ Gx.Rw 3 1 W.heap.size wr (.slice ao q c) q (plV P l q)))
  case atStart => exact ⟨0, none, 0, by omega, rfl, rfl, Lib.hid ⟨Kp.refl _ _, Gx.Rw.nil _ _ _ _⟩⟩
  case round =>
    obtain ⟨q, ao2, cq, hq, rfl, rfl, HR⟩ := hrel
    by_cases hlt : q < M
    · obtain ⟨g, o', hao, hc, hb255⟩ := HN.out q (by rw [← HM.out]; exact hlt)
      have hs := plV_succ P l q
      have cc := kp_cell HR.out.1 (by simp) hc
      obtain ⟨y, hy⟩ : ∃ y, l.getD q 0 = y := ⟨_, rfl⟩
      rw [hy] at cc hs hb255
      have HA := Lib.hid (HAt.out wr HR.out.1 y hb255)
      obtain ⟨z, hz⟩ : ∃ z, atP P y = z := ⟨_, rfl⟩
      rw [hz] at HA hs
      obtain ⟨ao8, cap8, w8, hrun8, hrw8, hk8⟩ := app_oneI HR.out.2 HR.out.1.size z (by omega) 45
      have HRun := Lib.hid hrun8
      have F8 : Hid (Kp [] W w8 ∧ Gx.Rw 3 1 W.heap.size w8 (.slice (some ⟨ao8, 0, none⟩) (q + 1) cap8) (q + 1) (plV P l (q + 1))) := Lib.hid ⟨HR.out.2.old rfl HR.out.1 hk8, by rw [hs]; exact hrw8⟩
      subst hao
      clear hrun8 hrw8 hk8 hs HR hc hy hz
      go_wp2_with fail
      refine HA.out.mono ?_
      rintro e w3 ⟨rfl, rfl⟩
      go_wp2_with (at_builtin; refine Gx.wpList_append_eq rfl (.tmp 13) (.tmp 20) 45 rfl _ _ _ rfl rfl HRun.out ?_)
      go_roundg (M - (q + 1))
      case rel => exact ⟨q + 1, _, _, by omega, by go_num, rfl, F8⟩
      case measure => omega
    · obtain rfl : q = M := by omega
      have F := Lib.hid HR.out
      clear HR
      go_wp2_with fail
      go_ret
      exact ⟨_, _, rfl, F.out.2, F.out.1⟩
end

/-- How great a heap may be. -/
theorem great_is (x y : Int) (hx : 0 ≤ x ∧ x ≤ 255) (hy : 0 ≤ y ∧ y ≤ 255) (ao : Option Addr) (m cap : Nat) (w : World) (b : Bool) (hb : b = true ↔ x < 1 ∨ 12 < x ∨ y < 1 ∨ 4 < y ∨ 60 < m) :
    Calls Tryz.prog 8 #[.int .u8 x, .int .u8 y, .slice ao m cap] w fun e w' => e = .returned (.bool b) ∧ w = w' := by
  have main : ∀ b0, (b0 = true ↔ x < 1 ∨ 12 < x ∨ y < 1 ∨ 4 < y ∨ 60 < m) → b = b0 := fun b0 h0 => Bool.eq_iff_iff.2 (hb.trans h0.symm)
  by_cases h1 : x < 1
  · have e := main true (by simp [h1])
    subst e
    clear hb main
    go_enter Tryz.func8, Tryz.ntmps8
    go_wp2
    go_ret
    exact ⟨rfl, rfl⟩
  · by_cases h2 : 12 < x
    · have e := main true (by simp [h2])
      subst e
      clear hb main
      go_enter Tryz.func8, Tryz.ntmps8
      go_wp2
      go_ret
      exact ⟨rfl, rfl⟩
    · by_cases h3 : y < 1
      · have e := main true (by simp [h3])
        subst e
        clear hb main
        go_enter Tryz.func8, Tryz.ntmps8
        go_wp2
        go_ret
        exact ⟨rfl, rfl⟩
      · by_cases h4 : 4 < y
        · have e := main true (by simp [h4])
          subst e
          clear hb main
          go_enter Tryz.func8, Tryz.ntmps8
          go_wp2
          go_ret
          exact ⟨rfl, rfl⟩
        · have e := main (decide (60 < m)) (by simp [h1, h2, h3, h4])
          subst e
          clear hb main
          have hm : ((60 : Int) < (m : Int)) = (60 < m) := by simp; omega
          cases h5 : decide (60 < m) with
          | true =>
            have h6 : (60 : Int) < (m : Int) := by simp at h5; omega
            go_enter Tryz.func8, Tryz.ntmps8
            go_wp2
            go_ret
            exact ⟨rfl, rfl⟩
          | false =>
            have h6 : ¬ ((60 : Int) < (m : Int)) := by simp at h5; omega
            go_enter Tryz.func8, Tryz.ntmps8
            go_wp2
            go_ret
            exact ⟨rfl, rfl⟩

/-- The known heap. -/
def kn : List Th := [⟨0, 2, 2, false, 0, [2, 3]⟩, ⟨0, 0, 1, false, 0, []⟩, ⟨0, 1, 1, false, 0, [4]⟩, ⟨0, 0, 0, true, 0, []⟩]
def knP : List Int := [8, 40, 42, 44]
theorem kn_P : (makesN 1 4 kn 4).2 = knP := by kernel_rfl
def knH : List Int := kidsN knP kn (makesN 1 4 kn 4).1.H 4
theorem kn_v : knH.getD 8 0 = 528386 ∧ knH.getD 9 0 = 40 ∧ knH.getD 10 0 = 42 ∧ knH.getD 40 0 = 262146 ∧ knH.getD 42 0 = 264194 ∧ knH.getD 43 0 = 44 ∧ knH.getD 44 0 = 3 := by
  refine ⟨?_, ?_, ?_, ?_, ?_, ?_, ?_⟩ <;> kernel_rfl
set_option maxHeartbeats 1000000 in
theorem known_any (w : World) : Calls Tryz.prog 18 #[] w fun e w' => (∃ ao, e = .returned (.slice ao 4 4) ∧ Tgs w' ao kn) ∧ Kp [] w w' := by
  go_enter Tryz.func18, Tryz.ntmps18
  go_wp2
  go_ret
  refine ⟨⟨some ⟨w.heap.size + 1 + 1, 0, none⟩, rfl, ?_⟩, (((Kp.refl _ _).alloc _).alloc _).alloc _⟩
  obtain ⟨w1, hw1⟩ : ∃ w1, w1 = w.alloc (.cells #[.int .u8 2, .int .u8 3] 5) := ⟨_, rfl⟩
  obtain ⟨w2, hw2⟩ : ∃ w2, w2 = w1.alloc (.cells #[.int .u8 4] 5) := ⟨_, rfl⟩
  obtain ⟨cs, hcs⟩ : ∃ cs : Array Value, cs = #[.int .u8 0, .int .u8 2, .int .u8 2, .bool false, .int .u8 0, .slice (some ⟨w.heap.size, 0, none⟩) 2 2, .int .u8 0, .int .u8 0, .int .u8 1, .bool false, .int .u8 0, .slice none 0 0, .int .u8 0, .int .u8 1, .int .u8 1, .bool false, .int .u8 0, .slice (some ⟨w.heap.size + 1, 0, none⟩) 1 1, .int .u8 0, .int .u8 0, .int .u8 0, .bool true, .int .u8 0, .slice none 0 0] := ⟨_, rfl⟩
  rw [← hw1, ← hw2, ← hcs]
  obtain ⟨w3, hw3⟩ : ∃ w3, w3 = w2.alloc (.cells cs 85) := ⟨_, rfl⟩
  rw [← hw3]
  have e1 : w1.heap.size = w.heap.size + 1 := by rw [hw1, World.size_alloc]
  have e2 : w2.heap.size = w.heap.size + 1 + 1 := by rw [hw2, World.size_alloc, e1]
  have r1 : w1.heap[w.heap.size]? = some (.cells #[.int .u8 2, .int .u8 3] 5 (0, 0)) := by rw [hw1]; exact heap_alloc_new _ _
  have r2 : w2.heap[w.heap.size + 1]? = some (.cells #[.int .u8 4] 5 (0, 0)) := by rw [hw2, ← e1]; exact heap_alloc_new _ _
  have r3 : w3.heap[w.heap.size + 1 + 1]? = some (.cells cs 85 (0, 0)) := by rw [hw3, ← e2]; exact heap_alloc_new _ _
  have k2 : Kp [] w1 w2 := by rw [hw2]; exact (Kp.refl _ _).alloc _
  have k3 : Kp [] w2 w3 := by rw [hw3]; exact (Kp.refl _ _).alloc _
  have q1 := (k2.trans k3).row (by simp) r1
  have q2 := k3.row (by simp) r2
  clear hw1 hw2 hw3 r1 r2 k2 k3 e1 e2
  generalize w.heap.size = b at *
  subst hcs
  have cl : ∀ i, w3.cell? ⟨b + 1 + 1, i, none⟩ = _ := fun i => cell_of_row r3 i
  intro j hj
  have hj4 : j < 4 := hj
  refine ⟨b + 1 + 1, 0, rfl, ?_, ?_⟩
  · match j, hj4 with
    | 0, _ => exact ⟨cl 0, cl 1, cl 2, cl 3, cl 4, some ⟨b, 0, none⟩, 2, cl 5, fun k hk => ⟨b, 0, rfl, by
        have hk2 : k < 2 := hk
        match k, hk2 with
        | 0, _ => exact cell_of_row q1 0
        | 1, _ => exact cell_of_row q1 1⟩⟩
    | 1, _ => exact ⟨cl 6, cl 7, cl 8, cl 9, cl 10, none, 0, cl 11, fun k hk => absurd (show k < 0 from hk) (Nat.not_lt_zero _)⟩
    | 2, _ => exact ⟨cl 12, cl 13, cl 14, cl 15, cl 16, some ⟨b + 1, 0, none⟩, 1, cl 17, fun k hk => ⟨b + 1, 0, rfl, by
        have hk2 : k < 1 := hk
        match k, hk2 with
        | 0, _ => exact cell_of_row q2 0⟩⟩
    | 3, _ => exact ⟨cl 18, cl 19, cl 20, cl 21, cl 22, none, 0, cl 23, fun k hk => absurd (show k < 0 from hk) (Nat.not_lt_zero _)⟩
  · match j, hj4 with
    | 0, _ => exact ⟨by decide, by decide, by decide, by decide, fun k => by
        match k with
        | 0 => decide
        | 1 => decide
        | k + 2 => exact Nat.zero_le _⟩
    | 1, _ => exact ⟨by decide, by decide, by decide, by decide, fun k => by exact Nat.zero_le _⟩
    | 2, _ => exact ⟨by decide, by decide, by decide, by decide, fun k => by
        match k with
        | 0 => decide
        | k + 1 => exact Nat.zero_le _⟩
    | 3, _ => exact ⟨by decide, by decide, by decide, by decide, fun k => by exact Nat.zero_le _⟩
end Go.Proofs.YtdbbkncjhnafdaaGreatDoor

namespace Go.Proofs.YtdbbkncjhnafdaaGreatDoor
set_option linter.unusedVariables false
set_option linter.unusedSimpArgs false
set_option maxRecDepth 100000
open Go.RowKit

/-- Made, for whatever heap. -/
def CMade : Prop := ∀ (w : World) (T n : Nat), Cl.Tab w → 1 ≤ n → n ≤ 12 → 1 ≤ T → T ≤ 4 → ∀ (ao : Option Addr) (cap : Nat) (l : List Th), l.length ≤ 60 → Tgs w ao l →
    Calls Tryz.prog 10 #[.int .u8 n, .int .u8 T, .slice ao l.length cap] w fun e w' => ∃ sp hb qs t, t ≤ 100000 ∧ e = .returned (.tuple #[.pointer (some ⟨hb, 0, none⟩), .bool true]) ∧ Hm w.heap.size T n sp hb qs ({ (makesN T n l l.length).1 with H := kidsN (makesN T n l l.length).2 l (makesN T n l l.length).1.H l.length } : As) (makesN T n l l.length).2 t w w'
/-- What a heap's boxes say, whatever its words are. -/
structure Hsf (B T n sp hb : Nat) (P : List Int) (W : World) : Prop where
  st : ∃ f, S13 W sp f ∧ f 0 = .pointer (some ⟨B + 1, 0, none⟩) ∧ f 1 = .int .i64 T ∧ f 2 = .int .i64 0 ∧ f 3 = .int .i64 n
  hx : W.heap[hb]? = some (.cells #[.pointer (some ⟨sp, 0, none⟩), (W.cell? ⟨hb, 1, none⟩).getD undef] 47 (0, 0))
  pv : Li.Rw W ((W.cell? ⟨hb, 1, none⟩).getD undef) P
  tab : Cl.Tab W
  gn : 0 ≠ B + 1 ∧ 0 ≠ B
  ty : ∃ a b, W.heap[B + 1]? = some (.cells a 95 (0, 0)) ∧ W.heap[B]? = some (.cells b 53 (0, 0))
section
variable {B T n sp hb t : Nat} {qs : Nat → Nat} {s : As} {P : List Int} {w W W' : World}
theorem Hm.stat (h : Hm B T n sp hb qs s P t w W) (hT : 0 < T) : Hsf B T n sp hb P W := by
  obtain ⟨v, col, pv, hA, hLo, hbx, hpv, hpc, hcb⟩ := h.ex
  obtain ⟨a1, a2, a3, e1, e2, e3⟩ := (hA.mws.one 0 hT).types
  have hc : (W.cell? ⟨hb, 1, none⟩).getD undef = pv := by rw [cell_of_row hbx]; rfl
  exact ⟨⟨v.f, hA.st, hA.f0, hA.f1, hA.f2, hA.f3⟩, by rw [hc]; exact hbx, by rw [hc]; exact hpv, (hA.mws.one 0 hT).tab, ⟨(hA.mws.one 0 hT).gn.1, (hA.mws.one 0 hT).gn.2.1⟩, _, _, e1, e2⟩
theorem Hsf.keep (h : Hsf B T n sp hb P W) {S : List Nat} (k : Kp S W W') (hS : ∀ g ∈ S, g = B + 1 ∨ g = B ∨ W.heap.size ≤ g) (hty : ∃ a b, W'.heap[B + 1]? = some (.cells a 95 (0, 0)) ∧ W'.heap[B]? = some (.cells b 53 (0, 0))) : Hsf B T n sp hb P W' := by
  obtain ⟨a, b, e1, e2⟩ := h.ty
  have hne : ∀ {g : Nat} {cs : Array Value} {U : TypeId}, W.heap[g]? = some (.cells cs U (0, 0)) → U ≠ 95 → U ≠ 53 → g ∉ S := fun hg h1 h2 e => by
    rcases hS _ e with e | e | e
    · rw [e, e1] at hg; simp at hg; exact h1 hg.2.symm
    · rw [e, e2] at hg; simp at hg; exact h2 hg.2.symm
    · have := lt_of_block hg; omega
  obtain ⟨f, f1, f2⟩ := h.st
  have hb' := k.row (hne h.hx (by decide) (by decide)) h.hx
  have hc : (W'.cell? ⟨hb, 1, none⟩).getD undef = (W.cell? ⟨hb, 1, none⟩).getD undef := by rw [cell_of_row hb']; rfl
  refine ⟨⟨f, k.row (hne f1 (by decide) (by decide)) f1, f2⟩, by rw [hc]; exact hb', ?_, ?_, h.gn, hty⟩
  · rw [hc]
    rcases h.pv with q | ⟨g, cap, cur, e, g1, g2⟩
    · exact .inl q
    · exact .inr ⟨g, cap, cur, e, k.row (hne g1 (by decide) (by decide)) g1, g2⟩
  · have hrn : 0 ∉ S := fun e => by
      rcases hS _ e with e | e | e
      · exact h.gn.1 e
      · exact h.gn.2 e
      · have := block_lt_of_cell h.tab.c0; omega
    exact tab_keep h.tab k hrn
/-- What the known heap is, plainly. -/
theorem kn_all : ∃ O V F, Gd 1 4 knH (makesN 1 4 kn 4).1.Rs O V F ∧ Pls O knP := by
  have := heap_good (T := 1) (n := 4) (by decide) (by decide) (by decide) kn
  obtain ⟨O, V, F, h, hp⟩ := this
  refine ⟨O, V, F, ?_, by rw [← kn_P]; exact hp⟩
  have e : knH = kidsN (makesN 1 4 kn 4).2 kn (makesN 1 4 kn 4).1.H 4 := by rw [kn_P]; rfl
  rw [e]; exact h
end
section
variable {O : Obs} {tel : Bool}
theorem kn_obj (hp : Pls O knP) : (O 8).isSome = true ∧ (O 40).isSome = true ∧ (O 42).isSome = true ∧ (O 44).isSome = true := by
  have key : ∀ x : Nat, (x : Int) ∈ knP → x ≠ 0 → (O x).isSome = true := fun x hx h0 => by
    rcases hp _ hx with e | ⟨y, e, hy⟩
    · omega
    · have : x = y := by exact_mod_cast e
      rw [this]; exact hy
  exact ⟨key 8 (by decide) (by decide), key 40 (by decide) (by decide), key 42 (by decide) (by decide), key 44 (by decide) (by decide)⟩
theorem kn_graph (hp : Pls O knP) : ((gpOf O knH 0 tel).own 8 = true ∧ (gpOf O knH 0 tel).own 40 = true ∧ (gpOf O knH 0 tel).own 42 = true ∧ (gpOf O knH 0 tel).own 44 = false) ∧ ((gpOf O knH 0 tel).glb 8 = false ∧ (gpOf O knH 0 tel).glb 40 = false ∧ (gpOf O knH 0 tel).glb 42 = false ∧ (gpOf O knH 0 tel).glb 44 = true) ∧ ((gpOf O knH 0 tel).ref 8 = [40, 42] ∧ (gpOf O knH 0 tel).ref 40 = [] ∧ (gpOf O knH 0 tel).ref 42 = [44]) := by
  obtain ⟨o1, o2, o3, o4⟩ := kn_obj hp
  obtain ⟨v1, v2, v3, v4, v5, v6, v7⟩ := kn_v
  refine ⟨⟨?_, ?_, ?_, ?_⟩, ⟨?_, ?_, ?_, ?_⟩, ?_, ?_, ?_⟩
  · simp only [gpOf, o1, v1]; decide
  · simp only [gpOf, o2, v4]; decide
  · simp only [gpOf, o3, v5]; decide
  · simp only [gpOf, o4, v7]; decide
  · simp only [gpOf, o1, v1]; decide
  · simp only [gpOf, o2, v4]; decide
  · simp only [gpOf, o3, v5]; decide
  · simp only [gpOf, o4, v7]; decide
  · have e : (gpOf O knH 0 tel).ref 8 = (List.range (knH.getD 8 0 / 2048 % 128).toNat).map fun k => (knH.getD (8 + 1 + k) 0).toNat := rfl
    rw [e]
    rw [v1]
    show [(knH.getD (8 + 1 + 0) 0).toNat, (knH.getD (8 + 1 + 1) 0).toNat] = _
    rw [v2, v3]; rfl
  · have e : (gpOf O knH 0 tel).ref 40 = (List.range (knH.getD 40 0 / 2048 % 128).toNat).map fun k => (knH.getD (40 + 1 + k) 0).toNat := rfl
    rw [e]
    rw [v4]; rfl
  · have e : (gpOf O knH 0 tel).ref 42 = (List.range (knH.getD 42 0 / 2048 % 128).toNat).map fun k => (knH.getD (42 + 1 + k) 0).toNat := rfl
    rw [e]
    rw [v5]
    show [(knH.getD (42 + 1 + 0) 0).toNat] = _
    rw [v6]; rfl
theorem kn_rc (hp : Pls O knP) {R : List Nat} (hR : 8 ∈ R) (hR2 : ∀ x ∈ R, x = 0 ∨ x = 8 ∨ x = 44) (x : Nat) : Rc (gpOf O knH 0 tel) R x ↔ (x = 8 ∨ x = 40 ∨ x = 42) := by
  obtain ⟨⟨a1, a2, a3, a4⟩, ⟨b1, b2, b3, b4⟩, c1, c2, c3⟩ := kn_graph (tel := tel) hp
  constructor
  · intro h
    induction h with
    | root x hx h0 ho =>
      rcases hR2 x hx with e | e | e
      · exact absurd e h0
      · exact .inl e
      · rw [e, a4] at ho; cases ho
    | step x y hx hy h0 ho ih =>
      rcases ih with e | e | e
      · rw [e, c1] at hy; simp at hy; omega
      · rw [e, c2] at hy; simp at hy
      · rw [e, c3] at hy; simp at hy
        rw [hy, a4] at ho; cases ho
  · have r8 : Rc (gpOf O knH 0 tel) R 8 := .root 8 hR (by decide) a1
    rintro (rfl | rfl | rfl)
    · exact r8
    · exact .step 8 40 r8 (by rw [c1]; simp) (by decide) a2
    · exact .step 8 42 r8 (by rw [c1]; simp) (by decide) a3
theorem kn_tld (hp : Pls O knP) (y : Nat) : Tld (gpOf O knH 0 tel) [8] y ↔ y = 44 := by
  obtain ⟨⟨a1, a2, a3, a4⟩, ⟨b1, b2, b3, b4⟩, c1, c2, c3⟩ := kn_graph (tel := tel) hp
  constructor
  · rintro ⟨hg, h0, hm | ⟨x, hx, hy⟩⟩
    · simp at hm; rw [hm, b1] at hg; cases hg
    · rcases (kn_rc hp (by simp) (by simp) x).1 hx with e | e | e
      · rw [e, c1] at hy
        simp at hy
        rcases hy with e | e
        · rw [e, b2] at hg; cases hg
        · rw [e, b3] at hg; cases hg
      · rw [e, c2] at hy; simp at hy
      · rw [e, c3] at hy; simpa using hy
  · rintro rfl
    exact ⟨b4, by decide, .inr ⟨42, (kn_rc hp (by simp) (by simp) 42).2 (by simp), by rw [c3]; simp⟩⟩
end
end Go.Proofs.YtdbbkncjhnafdaaGreatDoor

namespace Go.Proofs.YtdbbkncjhnafdaaGreatDoor
set_option linter.unusedVariables false
set_option linter.unusedSimpArgs false
set_option maxRecDepth 100000
open Go.RowKit

section
variable {B T n sp hb t : Nat} {qs : Nat → Nat} {s : As} {P : List Int} {w W W' : World}
/-- What a heap gives to a marker. -/
theorem Hm.work (h : Hm B T n sp hb qs s P t w W) (hT : 0 < T) : (∃ t0, t0 ≤ t ∧ Hw T 0 n (B + 1) B s.H t0 W) ∧ Cl.Tab W ∧ 0 ≠ B + 1 ∧ 0 ≠ B ∧ B + 1 < W.heap.size ∧ B < W.heap.size ∧ s.H.length = 3 + T + 33 * n := by
  obtain ⟨v, col, pv, hA, hLo, hbx, hpv, hpc, hcb⟩ := h.ex
  have h1 := hA.mws.one 0 hT
  obtain ⟨a1, a2, a3, e1, e2, e3⟩ := h1.types
  exact ⟨h1.hw, h1.tab, h1.gn.1, h1.gn.2.1, lt_of_block e1, lt_of_block e2, hA.fit.len⟩
theorem Hsf.cells (h : Hsf B T n sp hb P W) : W.cell? ⟨hb, 0, none⟩ = some (.pointer (some ⟨sp, 0, none⟩)) ∧ W.cell? ⟨sp, 0, none⟩ = some (.pointer (some ⟨B + 1, 0, none⟩)) ∧ W.cell? ⟨sp, 1, none⟩ = some (.int .i64 T) ∧ W.cell? ⟨sp, 2, none⟩ = some (.int .i64 0) ∧ W.cell? ⟨sp, 3, none⟩ = some (.int .i64 n) := by
  obtain ⟨f, f1, f2, f3, f4, f5⟩ := h.st
  exact ⟨(cell_of_row h.hx 0).trans rfl, (f1.cell (by decide)).trans (by rw [f2]), (f1.cell (by decide)).trans (by rw [f3]), (f1.cell (by decide)).trans (by rw [f4]), (f1.cell (by decide)).trans (by rw [f5])⟩
theorem Hsf.row (h : Hsf B T n sp hb P W) {m : Nat} (hm : P.length = m) : ∃ ao c, W.cell? ⟨hb, 1, none⟩ = some (.slice ao m c) ∧ ∀ k, k < m → ∃ g, ao = some ⟨g, 0, none⟩ ∧ W.cell? ⟨g, k, none⟩ = some (.int .i64 (P.getD k 0)) := by
  obtain ⟨ao, c, e, hc⟩ := rw_form h.pv hm
  refine ⟨ao, c, ?_, hc⟩
  have := cell_of_row h.hx 1
  rw [this, e]; rfl
theorem Hw.ty {p r t : Nat} {H : List Int} (h : Hw T 0 n p r H t W) : ∃ a b, W.heap[p]? = some (.cells a 95 (0, 0)) ∧ W.heap[r]? = some (.cells b 53 (0, 0)) := by
  obtain ⟨l, ha⟩ := h.ar
  exact ⟨_, _, ha.hp, ha.hr⟩
end
theorem mu0_le (G : Gp) (N : Nat) : muM G N X0m ≤ 2 * N := by
  have := List.countP_le_length (p := fun x => G.own x && !X0m.M x) (l := List.range N)
  simp only [List.length_range] at this
  unfold muM
  show 2 * _ + 0 ≤ _
  omega
/-- The arena's words, copied, as the document's. -/
theorem dh_all {T n p r t g : Nat} {H : List Int} {w W : World} (hw : Hw T 0 n p r H t w) (hg : W.heap[g]? = some (.cells (u64s H) 53 (0, 0))) : Dh 0 T 0 n g H.length H W := by
  have htop := hw.top
  refine ⟨⟨by simp [ws_len], .inr ⟨g, H.length, u64s H, rfl, Nat.zero_le _, hg, by simp [u64s], by unfold maxLen; omega, by simp [u64s], ?_⟩⟩, hw.len, hw.top, hw.ok, hw.hT, hw.hG, hw.hn⟩
  rw [Nat.mul_one, List.take_of_length_le (by simp [u64s])]
  simp [u64s, ws]
theorem field_mk (k c : Int) (g m : Bool) (o r s : Int) (w : World) : (Instr.field 64 (.agg #[.int .u8 k, .int .u8 c, .bool g, .bool m, .int .u8 o, .int .u8 r, .int .u8 s]) 3).run Tryz.prog w = .ok (.bool m) w := by kernel_rfl
/-- The known heap is marked, and told by a box. -/
theorem kn_mark {B t0 bx g : Nat} {w4 wq : World} {O : Obs} {V : Nat → Int} {F : Nat → Nat → Int} (hG : Gd 1 4 knH (makesN 1 4 kn 4).1.Rs O V F) (hPl : Pls O knP) (ht : t0 ≤ 100000) (hw : Hw 1 0 4 (B + 1) B knH t0 w4) (htab : Cl.Tab w4) (hr1 : 0 ≠ B + 1) (hr2 : 0 ≠ B) (hr3 : 0 ≠ bx) (hbx : w4.heap[bx]? = some (.cells #[.int .i64 0] 3 (0, 0))) (kq : Kp [] w4 wq) (hg : wq.cell? ⟨g, 0, none⟩ = some (.int .i64 8)) (hgn : w4.heap.size ≤ g) :
    Calls Tryz.prog 14 #[.agg #[.iface 30 (.pointer (some ⟨B + 1, 0, none⟩)), .int .i64 1, .int .i64 0, .int .i64 4, .int .u8 0, .int .i64 1, .func (.func 30) #[] #[.pointer (some ⟨bx, 0, none⟩)]], .slice (some ⟨g, 0, none⟩) 1 1] wq fun e w' => e = .returned (.int .i64 0) ∧ (∃ (M : Nat → Bool) (t' : Nat), (∀ x, M x = true ↔ (x = 8 ∨ x = 40 ∨ x = 42)) ∧ Hw 1 0 4 (B + 1) B (markL knH M) t' w' ∧ w'.heap[bx]? = some (.cells #[.int .i64 44] 3 (0, 0))) ∧ Kp [B + 1, B, bx] w4 w' := by
  obtain ⟨a, b, e1, e2⟩ := hw.ty
  have n1 : bx ≠ B + 1 := fun e => by rw [e, e1] at hbx; simp at hbx
  have n2 : bx ≠ B := fun e => by rw [e, e2] at hbx; simp at hbx
  have l1 := lt_of_block e1
  have l2 := lt_of_block e2
  have l3 := lt_of_block hbx
  have lq := kq.size
  have htop := hw.top
  have hlen : knH.length = 136 := by kernel_rfl
  have hmu := mu0_le (gpOf O knH 0 true) knH.length
  rw [hlen] at hmu
  have hm := mark_is (o := 0) (room := 1) (tel := true) (R := [8]) (ao := some ⟨g, 0, none⟩) (cap := 1) (gf := .func (.func 30) #[] #[.pointer (some ⟨bx, 0, none⟩)]) (Sg := [bx]) (TL := TLb bx) hG (by decide) (by decide) (by decide) (by decide) (by decide) (hw.on kq) (tab_keep htab kq (by simp)) (by simp only [List.mem_cons, List.not_mem_nil, or_false, not_or]; exact ⟨hr1, hr2, hr3⟩) (by intro x hx; simp at hx; rcases hx with rfl | rfl | rfl <;> omega)
    (fun q ro h1 h2 => box_told bx ⟨n1, n2, by omega, by omega⟩) ⟨0, kq.row (by simp) hbx, .inl ⟨rfl, fun _ => rfl⟩⟩ (by intro y hy; simp at hy; subst hy; exact .inr (kn_obj hPl).1)
    (by
      intro j hj
      have : j = 0 := by simp at hj; exact hj
      subst this
      exact ⟨g, 0, rfl, by simp; omega, block_lt_of_cell hg, hg⟩) (by decide) (by rw [hlen]; simp only [List.length_singleton]; omega)
  refine hm.mono ?_
  rintro e w' ⟨rfl, X, t', h1, h2, h3, h4, h5⟩
  refine ⟨rfl, ⟨X.M, t', fun x => (h1 x).trans (kn_rc hPl (by simp) (by simp) x), h3, ?_⟩, (kq.mono (by simp)).trans h5⟩
  obtain ⟨v, hv, hv2⟩ := h4
  have ht44 : ∀ y, X.tl y = true ↔ y = 44 := fun y => (h2 rfl y).trans (kn_tld hPl y)
  rcases hv2 with ⟨_, hv2⟩ | hv2
  · have := (ht44 44).2 rfl
    rw [hv2] at this; cases this
  · rw [(ht44 v).1 hv2] at hv
    exact hv
/-- A marked object of the known heap, as the document sees it. -/
theorem kn_head {O : Obs} {V : Nat → Int} {F : Nat → Nat → Int} (hG : Gd 1 4 knH (makesN 1 4 kn 4).1.Rs O V F) (hPl : Pls O knP) {M : Nat → Bool} (hM : ∀ x, M x = true ↔ (x = 8 ∨ x = 40 ∨ x = 42)) {W : World} {g : Nat} (h : Dh 0 1 0 4 g 136 (markL knH M) W) {x : Nat} (hx : x = 8 ∨ x = 40 ∨ x = 42) :
    Calls Tryz.prog 20 #[.slice (some ⟨g, 0, none⟩) 136 136, .int .i64 x] W fun e w' => (∃ k c o' r s, e = .returned (.agg (mh7 k c false true o' r s))) ∧ Kp [] W w' := by
  have hlen : knH.length = 136 := by kernel_rfl
  have hl2 : (markL knH M).length = 136 := by rw [markL_len, hlen]
  have hO : (O x).isSome = true := by
    obtain ⟨o1, o2, o3, o4⟩ := kn_obj hPl
    rcases hx with rfl | rfl | rfl <;> assumption
  have hMo : ∀ x, M x = true → (gpOf O knH 0 false).own x = true := fun x hx => by
    obtain ⟨⟨a1, a2, a3, a4⟩, _⟩ := kn_graph (tel := false) hPl
    rcases (hM x).1 hx with rfl | rfl | rfl <;> assumption
  cases hOx : O x with
  | none => rw [hOx] at hO; cases hO
  | some z =>
    obtain ⟨o', rf, sz⟩ := z
    have hin := hG.hp.inn hOx
    obtain ⟨k, c, a1, a2, a3, a4, a5, a6, a7, a8, a9, a10, a11, a12, a13⟩ := hG.at (by decide) hMo hOx
    have hMx : M x = true := (hM x).2 hx
    rw [hMx] at a5 a6
    obtain ⟨e1, e2, e3, e4, e5, e6, e7⟩ := Wd.parts_of_word k c o' rf sz false true (by omega) (by omega) (by omega) (by omega) (by omega) a6
    have hd := dhead_yes h (x := x) (by rw [markL_len]; exact a1) (by rw [a5]; exact Wd.takeB_of_word k c o' rf sz false true (by omega) (by omega) (by omega) (by omega) (by omega) a6)
    rw [a5, e1, e2, e3, e4, e5, e6, e7, hl2] at hd
    exact hd.mono fun e w' ⟨p1, p2⟩ => ⟨⟨_, _, _, _, _, p1⟩, p2⟩
set_option maxHeartbeats 4000000 in
theorem wakes18 (HMd : Hid CMade) (w : World) (T0 : Cl.Tab w) : Calls Tryz.prog 9 #[] w fun e w' => e = .returned (.bool true) ∧ Kp [] w w' := by
  have HKn := Lib.hid (known_any w)
  have HT := Lib.hid T0
  clear T0
  go_enter Tryz.func9, Tryz.ntmps9
  go_wp2_with fail
  refine HKn.out.mono ?_
  rintro e w1 ⟨⟨ao, rfl, htg⟩, k1⟩
  have hrn : 0 ∉ ([] : List Nat) := by simp
  have HMa := Lib.hid (HMd.out w1 1 4 (tab_keep HT.out k1 hrn) (by decide) (by decide) (by decide) (by decide) ao 4 kn (by decide) htg)
  have HK1 := Lib.hid k1
  clear htg k1 HKn
  go_wp2_with fail
  refine HMa.out.mono ?_
  rintro e w2 ⟨sp, hb, qs, t, ht, rfl, hm⟩
  have HK2 := Lib.hid (HK1.out.trans (kp_of_below hm.bel))
  have hmP : (makesN 1 4 kn kn.length).2 = knP := kn_P
  rw [hmP] at hm
  obtain ⟨S, hS⟩ : ∃ S : As, S = { (makesN 1 4 kn kn.length).1 with H := kidsN knP kn (makesN 1 4 kn kn.length).1.H kn.length } := ⟨_, rfl⟩
  rw [← hS] at hm
  have hSH : S.H = knH := by rw [hS]; rfl
  obtain ⟨O, V, F, hG, hPl⟩ := kn_all
  obtain ⟨⟨t0, ht0, hw⟩, htab, hr1, hr2, hl1, hl2, hlen⟩ := hm.work (by decide)
  rw [hSH] at hw hlen
  have hsf := hm.stat (by decide)
  obtain ⟨B, hB⟩ : ∃ B, B = w1.heap.size := ⟨_, rfl⟩
  rw [← hB] at hm hw hr1 hr2 hl1 hl2 hsf
  have HBw := Lib.hid hB
  clear hB
  obtain ⟨c0, d0, d1, d2, d3⟩ := hsf.cells
  obtain ⟨w3, hw3⟩ : ∃ w3, w3 = w2.alloc (.cells #[.int .i64 0] 3) := ⟨_, rfl⟩
  have k3 : Kp [] w2 w3 := by rw [hw3]; exact (Kp.refl _ _).alloc _
  have r3 : w3.heap[w2.heap.size]? = some (.cells #[.int .i64 0] 3 (0, 0)) := by rw [hw3]; exact heap_alloc_new _ _
  obtain ⟨bx, hbx⟩ : ∃ bx, bx = w2.heap.size := ⟨_, rfl⟩
  rw [← hbx] at r3
  have c0 := kp_cell k3 (by simp) c0
  have d0 := kp_cell k3 (by simp) d0
  have d1 : w3.cell? ⟨sp, 1, none⟩ = some (.int .i64 1) := kp_cell k3 (by simp) d1
  have d2 := kp_cell k3 (by simp) d2
  have d3 : w3.cell? ⟨sp, 3, none⟩ = some (.int .i64 4) := kp_cell k3 (by simp) d3
  have H3 := Lib.hid (And.intro k3 (And.intro r3 hbx))
  have HW := Lib.hid (And.intro ht (And.intro ht0 (And.intro hw (And.intro htab (And.intro hr1 (And.intro hr2 (And.intro hl1 (And.intro hl2 hlen))))))))
  have HG := Lib.hid (And.intro hG hPl)
  have HM := Lib.hid hm
  have HSf := Lib.hid hsf
  clear ht hm hmP hS hSH hG hPl ht0 hw htab hr1 hr2 hl1 hl2 hlen hsf k3 r3 HMa
  go_upto_region 5 with (fail)
  rw [← hw3, ← hbx]
  clear hw3 hbx
  go_wp2_with fail
  have hz : ((w3.alloc (.cells #[.nilIface, .int .i64 0, .int .i64 0, .int .i64 0, .int .u8 0, .int .i64 0, .nilFunc] 52)).drew).heap[w3.heap.size]? = some (.cells #[.nilIface, .int .i64 0, .int .i64 0, .int .i64 0, .int .u8 0, .int .i64 0, .nilFunc] 52 (0, 0)) := heap_alloc_new w3 _
  have hkz : Kp [] w3 ((w3.alloc (.cells #[.nilIface, .int .i64 0, .int .i64 0, .int .i64 0, .int .u8 0, .int .i64 0, .nilFunc] 52)).drew) := ((Kp.refl _ _).alloc _).drew
  have hrow : ((w3.alloc (.cells #[.iface 30 (.pointer (some ⟨B + 1, 0, none⟩)), .int .i64 1, .int .i64 0, .int .i64 4, .int .u8 0, .int .i64 1, .nilFunc] 52)).drew).heap[w3.heap.size]? = some (.cells #[.iface 30 (.pointer (some ⟨B + 1, 0, none⟩)), .int .i64 1, .int .i64 0, .int .i64 4, .int .u8 0, .int .i64 1, .nilFunc] 52 (0, 0)) := heap_alloc_new w3 _
  have hkb : Kp [] w3 ((w3.alloc (.cells #[.iface 30 (.pointer (some ⟨B + 1, 0, none⟩)), .int .i64 1, .int .i64 0, .int .i64 4, .int .u8 0, .int .i64 1, .nilFunc] 52)).drew) := ((Kp.refl _ _).alloc _).drew
  have hsf : (store ⟨w3.heap.size, 6, none⟩ (.func (.func 30) #[] #[.pointer (some ⟨bx, 0, none⟩)])).run Tryz.prog ((w3.alloc (.cells #[.iface 30 (.pointer (some ⟨B + 1, 0, none⟩)), .int .i64 1, .int .i64 0, .int .i64 4, .int .u8 0, .int .i64 1, .nilFunc] 52)).drew) = .ok () (((w3.alloc (.cells #[.iface 30 (.pointer (some ⟨B + 1, 0, none⟩)), .int .i64 1, .int .i64 0, .int .i64 4, .int .u8 0, .int .i64 1, .nilFunc] 52)).drew).setCell ⟨w3.heap.size, 6, none⟩ (.func (.func 30) #[] #[.pointer (some ⟨bx, 0, none⟩)])) := Li.store_one ((cell_of_row hrow 6).trans (show _ = some .nilFunc from rfl)) (free_of_row hrow 6) rfl
  have hk9 : Kp [] w3 (((w3.alloc (.cells #[.iface 30 (.pointer (some ⟨B + 1, 0, none⟩)), .int .i64 1, .int .i64 0, .int .i64 4, .int .u8 0, .int .i64 1, .nilFunc] 52)).drew).setCell ⟨w3.heap.size, 6, none⟩ (.func (.func 30) #[] #[.pointer (some ⟨bx, 0, none⟩)])) := kp_new_set hkb (b := w3.heap.size) ((Kp.refl _ _).setCell (.inl (by simp)) _) (Nat.le_refl _)
  have hr9 : (((w3.alloc (.cells #[.iface 30 (.pointer (some ⟨B + 1, 0, none⟩)), .int .i64 1, .int .i64 0, .int .i64 4, .int .u8 0, .int .i64 1, .nilFunc] 52)).drew).setCell ⟨w3.heap.size, 6, none⟩ (.func (.func 30) #[] #[.pointer (some ⟨bx, 0, none⟩)])).heap[w3.heap.size]? = some (.cells #[.iface 30 (.pointer (some ⟨B + 1, 0, none⟩)), .int .i64 1, .int .i64 0, .int .i64 4, .int .u8 0, .int .i64 1, .func (.func 30) #[] #[.pointer (some ⟨bx, 0, none⟩)]] 52 (0, 0)) := by rw [heap_setCell_same _ _ _ _ _ _ hrow]; rfl
  have hrow7 : ((w3.alloc (.cells #[.iface 30 (.pointer (some ⟨B + 1, 0, none⟩)), .int .i64 1, .int .i64 0, .int .i64 4, .int .u8 0, .int .i64 1, .func (.func 30) #[] #[.pointer (some ⟨bx, 0, none⟩)]] 52)).drew).heap[w3.heap.size]? = some (.cells #[.iface 30 (.pointer (some ⟨B + 1, 0, none⟩)), .int .i64 1, .int .i64 0, .int .i64 4, .int .u8 0, .int .i64 1, .func (.func 30) #[] #[.pointer (some ⟨bx, 0, none⟩)]] 52 (0, 0)) := heap_alloc_new w3 _
  have hk7 : Kp [] w3 ((w3.alloc (.cells #[.iface 30 (.pointer (some ⟨B + 1, 0, none⟩)), .int .i64 1, .int .i64 0, .int .i64 4, .int .u8 0, .int .i64 1, .func (.func 30) #[] #[.pointer (some ⟨bx, 0, none⟩)]] 52)).drew) := ((Kp.refl _ _).alloc _).drew
  have HC : Hid (∀ wx, Kp [] w3 wx → wx.cell? ⟨hb, 0, none⟩ = some (.pointer (some ⟨sp, 0, none⟩)) ∧ wx.cell? ⟨sp, 0, none⟩ = some (.pointer (some ⟨B + 1, 0, none⟩)) ∧ wx.cell? ⟨sp, 1, none⟩ = some (.int .i64 1) ∧ wx.cell? ⟨sp, 2, none⟩ = some (.int .i64 0) ∧ wx.cell? ⟨sp, 3, none⟩ = some (.int .i64 4) ∧ Kp [] w3 wx) := Lib.hid fun wx k => ⟨kp_cell k (by simp) c0, kp_cell k (by simp) d0, kp_cell k (by simp) d1, kp_cell k (by simp) d2, kp_cell k (by simp) d3, k⟩
  have HW9 := Lib.hid (And.intro hk9 hr9)
  have HW7 := Lib.hid (And.intro hk7 hrow7)
  have HKZ := Lib.hid (And.intro hkz hkb)
  clear hz hkz hrow hkb hk9 hr9 hrow7 hk7
  go_cut [4] (fun v4 we => v4 = .pointer (some ⟨w3.heap.size, 0, none⟩) ∧ Hid (Kp [] w3 we ∧ we.heap[w3.heap.size]? = some (.cells #[.iface 30 (.pointer (some ⟨B + 1, 0, none⟩)), .int .i64 1, .int .i64 0, .int .i64 4, .int .u8 0, .int .i64 1, .func (.func 30) #[] #[.pointer (some ⟨bx, 0, none⟩)]] 52 (0, 0))))
  case first =>
    have k0 : Kp [] w3 w3 := Kp.refl _ _
    go_region_held3 (fun wx => wx.cell? ⟨hb, 0, none⟩ = some (.pointer (some ⟨sp, 0, none⟩)) ∧ wx.cell? ⟨sp, 0, none⟩ = some (.pointer (some ⟨B + 1, 0, none⟩)) ∧ wx.cell? ⟨sp, 1, none⟩ = some (.int .i64 1) ∧ wx.cell? ⟨sp, 2, none⟩ = some (.int .i64 0) ∧ wx.cell? ⟨sp, 3, none⟩ = some (.int .i64 4) ∧ Kp [] w3 wx)
      (first
        | with_reducible assumption
        | exact HC.out _ HKZ.out.1
        | exact HC.out _ HKZ.out.2
        | exact HC.out _ HW7.out.1
        | exact HC.out _ HW9.out.1
        | exact HC.out _ ((Kp.refl [] _).drew)
        | exact HC.out _ (Kp.refl [] _))
      (fail)
    all_goals
      rename_i hHeld
      clear hHeld
    all_goals go_wp2_with fail
    all_goals go_meet
    all_goals first | exact ⟨rfl, HW7⟩ | exact ⟨rfl, HW9⟩
  case rest =>
    obtain ⟨rfl, HK4⟩ := hcut
    obtain ⟨w4, rfl⟩ : ∃ w4 : World, w4 = wc := ⟨_, rfl⟩
    clear HW7 HW9 HKZ HC hsf
    obtain ⟨ht, ht0, hw, htab, hr1, hr2, hl1, hl2, hlen⟩ := HW.out
    have K4 := H3.out.1.trans HK4.out.1
    have hbx4 := HK4.out.1.row (by simp) H3.out.2.1
    have hr3 : 0 ≠ bx := by
      have := block_lt_of_cell htab.c0
      have := H3.out.2.2
      omega
    have HMk := Lib.hid (fun (wq : World) (g : Nat) (kq : Kp [] w4 wq) (hg : wq.cell? ⟨g, 0, none⟩ = some (.int .i64 8)) (hgn : w4.heap.size ≤ g) => kn_mark (bx := bx) HG.out.1 HG.out.2 (Nat.le_trans ht0 ht) (hw.on K4) (tab_keep htab K4 (by simp)) hr1 hr2 hr3 hbx4 kq hg hgn)
    have HAt := Lib.hid (fun (wq : World) (kq : Kp [] w4 wq) => hm_at (HM.out.on (K4.trans kq)) (by decide) 1 (by decide) 8 (by decide))
    have m0 := (cell_of_row HK4.out.2 0).trans (show _ = some (.iface 30 (.pointer (some ⟨B + 1, 0, none⟩))) from rfl)
    have m1 := (cell_of_row HK4.out.2 1).trans (show _ = some (.int .i64 1) from rfl)
    have m2 := (cell_of_row HK4.out.2 2).trans (show _ = some (.int .i64 0) from rfl)
    have m3 := (cell_of_row HK4.out.2 3).trans (show _ = some (.int .i64 4) from rfl)
    have m4 := (cell_of_row HK4.out.2 4).trans (show _ = some (.int .u8 0) from rfl)
    have m5 := (cell_of_row HK4.out.2 5).trans (show _ = some (.int .i64 1) from rfl)
    have m6 := (cell_of_row HK4.out.2 6).trans (show _ = some (.func (.func 30) #[] #[.pointer (some ⟨bx, 0, none⟩)]) from rfl)
    have HK4' := Lib.hid K4
    have hlt34 : w3.heap.size < w4.heap.size := lt_of_block HK4.out.2
    have hne34 : ¬ w3.heap.size = w4.heap.size := by omega
    clear ht ht0 hw htab hr1 hr2 hl1 hl2 hlen K4 hbx4 hr3 c0 d0 d1 d2 d3
    go_wp2_with fail
    go_cut [5] (fun v5 we => v5 = .int .i64 0 ∧ Hid ((∃ (M : Nat → Bool) (t' : Nat), (∀ x, M x = true ↔ (x = 8 ∨ x = 40 ∨ x = 42)) ∧ Hw 1 0 4 (B + 1) B (markL knH M) t' we ∧ we.heap[bx]? = some (.cells #[.int .i64 44] 3 (0, 0))) ∧ Kp [B + 1, B, bx] w4 we))
    case first =>
      go_region_with (first
        | (go_at_call 19
           refine (HAt.out _ (by repeat (first | with_reducible exact Kp.refl _ _ | with_reducible refine Kp.drew ?_ | with_reducible refine Kp.alloc ?_ _))).mono ?_
           rintro e w5 ⟨rfl, rfl⟩)
        | (go_at_call 14
           refine (HMk.out _ w4.heap.size (by repeat (first | with_reducible exact Kp.refl _ _ | with_reducible refine Kp.drew ?_ | with_reducible refine Kp.alloc ?_ _)) (cell_of_row (heap_alloc_new _ _) 0) (Nat.le_refl _)).mono ?_
           rintro e w5 ⟨rfl, h5, k5⟩
           have F5 := Lib.hid (And.intro h5 k5)
           clear h5 k5))
      all_goals go_wp2_with fail
      all_goals go_meet
      all_goals exact ⟨rfl, F5⟩
    case rest =>
      obtain ⟨rfl, H5⟩ := hcut
      obtain ⟨w5, rfl⟩ : ∃ w5 : World, w5 = wc := ⟨_, rfl⟩
      clear m0 m1 m2 m3 m4 m5 m6 HMk HAt
      obtain ⟨⟨M, t', hM, hw5, hbx5⟩, k5⟩ := H5.out
      have K25 : Kp [B + 1, B, bx] w2 w5 := (HK4'.out.mono (by simp)).trans k5
      have hsf5 := HSf.out.keep K25 (by
        intro g hg
        have := H3.out.2.2
        simp at hg
        rcases hg with e | e | e
        · exact .inl e
        · exact .inr (.inl e)
        · exact .inr (.inr (by omega))) hw5.ty
      obtain ⟨c0, d0, d1, d2, d3⟩ := hsf5.cells
      obtain ⟨aP, cP, c1, hcP⟩ := hsf5.row (m := 4) (by decide)
      obtain ⟨l5, har⟩ := hw5.ar
      have hl136 : (markL knH M).length = 136 := by rw [markL_len]; kernel_rfl
      have hall := all_any w5 (B + 1) B _ har (by show 1 ≤ (markL knH M).length; omega) hw5.top
      rw [show (St.mk (markL knH M) t' l5).ws.length = 136 from hl136] at hall
      have HAl := Lib.hid hall
      have HN5 := Lib.hid (And.intro hM (And.intro hw5 (And.intro hbx5 hsf5)))
      have HK5 : Hid (Kp [] w w5) := Lib.hid (by
        have hB := HM.out.bel
        refine ⟨K25.os.trans HK2.out.os, K25.tape.trans HK2.out.tape, K25.output.trans HK2.out.output, Nat.le_trans HK2.out.size K25.size, fun i hi hn => ?_⟩
        have hi2 := Nat.lt_of_lt_of_le hi HK2.out.size
        refine (K25.block i hi2 ?_).trans (HK2.out.block i hi hn)
        have z1 := H3.out.2.2
        have z2 := HK1.out.size
        have z3 := HBw.out
        simp; omega)
      have HP := Lib.hid hcP
      clear hall har hl136 hM hw5 hbx5 hsf5 k5 K25 d1 d2 d3 hcP H5 HK4 HK4' hlt34 hne34
      go_wp2_with fail
      refine HAl.out.mono ?_
      rintro e w6 ⟨rfl, hg6, k6⟩
      obtain ⟨g6, hg6e⟩ : ∃ g6, g6 = w5.heap.size := ⟨_, rfl⟩
      rw [← hg6e] at hg6 ⊢
      have c0 := kp_cell k6 (by simp) c0
      have c1 := kp_cell k6 (by simp) c1
      have HD6 := Lib.hid (fun (wq : World) (kq : Kp [] w6 wq) => dh_all HN5.out.2.1 (kq.row (by simp) hg6))
      have HK6 := Lib.hid k6
      clear k6 hg6 hg6e d0 HAl
      go_wp2_with fail
      go_loopg [7, 8] 3 (fun gg v7 v8 wr => ∃ i : Nat, i + gg = 3 ∧ v8 = .int .i64 i ∧ v7 = .int .i64 i ∧ Hid (Kp [] w6 wr))
      case atStart => exact ⟨0, by omega, rfl, rfl, Lib.hid (Kp.refl _ _)⟩
      case round =>
        obtain ⟨i, hi, rfl, rfl, HR⟩ := hrel
        have c0r := kp_cell HR.out (by simp) c0
        have c1r := kp_cell HR.out (by simp) c1
        by_cases hlt : i < 3
        · obtain ⟨gP, hgP, cP1⟩ := HP.out i (by omega)
          have cP2 := kp_cell (HK6.out.trans HR.out) (by simp) cP1
          obtain ⟨x, hx, hx2⟩ : ∃ x : Nat, knP.getD i 0 = x ∧ (x = 8 ∨ x = 40 ∨ x = 42) := by
            match i, hlt with
            | 0, _ => exact ⟨8, rfl, .inl rfl⟩
            | 1, _ => exact ⟨40, rfl, .inr (.inl rfl)⟩
            | 2, _ => exact ⟨42, rfl, .inr (.inr rfl)⟩
          rw [hx] at cP2
          have hd := HD6.out wr HR.out
          rw [show (markL knH M).length = 136 by rw [markL_len]; kernel_rfl] at hd
          have HHd := Lib.hid (kn_head HG.out.1 HG.out.2 HN5.out.1 hd hx2)
          have i3 : ((i : Int) < 3) := by omega
          subst hgP
          clear cP1 hx hx2 hd
          go_wp2_with fail
          refine HHd.out.mono ?_
          rintro e w7 ⟨⟨k7, c7, o7, r7, s7, rfl⟩, hk7⟩
          have hfld := field_mk k7 c7 false true o7 r7 s7
          have F := Lib.hid (HR.out.trans hk7)
          clear hk7 HHd
          go_wp2_with fail
          go_roundg (3 - (i + 1))
          case rel => exact ⟨i + 1, by omega, by go_num, by go_num, F⟩
          case measure => omega
        · have e3 : i = 3 := by omega
          subst e3
          have kr := HK6.out.trans HR.out
          have hb7 := HN5.out.2.2.1
          have cb := fun (wq : World) (kq : Kp [] wr wq) => (cell_of_row ((kr.trans kq).row (by simp) hb7) 0).trans (show _ = some (.int .i64 44) from rfl)
          have cb0 := cb wr (Kp.refl _ _)
          have HAt4 := Lib.hid (fun (wq : World) (kq : Kp [] wr wq) => (at_any (HN5.out.2.2.2.keep (kr.trans kq) (by simp) (HN5.out.2.1.on (kr.trans kq)).ty).hx (HN5.out.2.2.2.keep (kr.trans kq) (by simp) (HN5.out.2.1.on (kr.trans kq)).ty).pv (by decide) 4 (by decide) 44 (by decide)).mono (fun e w' h => And.intro h.1 h.2.symm))
          have F := Lib.hid (HK5.out.trans kr)
          clear kr hb7 cb
          go_wp2_with fail
          go_quiet (first | (go_at_call 19; exact Calls.quiet_of_same (HAt4.out _ (Gx.kp_drewN _ _))))
          go_wp2_with fail
          go_ret
          exact ⟨rfl, F.out.trans (Gx.kp_drewN _ _)⟩
end Go.Proofs.YtdbbkncjhnafdaaGreatDoor
