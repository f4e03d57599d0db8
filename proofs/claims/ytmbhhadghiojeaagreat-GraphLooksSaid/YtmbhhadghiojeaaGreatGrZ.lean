/- slices.Clone; a row appended to a row; what is reached, plainly; the map of what is. Conditions: as each theorem states them. -/
import Derived.Test.YtmbhhadghiojeaaGreatGrT
import Derived.Test.YtmbhhadghiojeaaGreatGrK
import Derived.Test.YtmbhhadghiojeaaGreatRtC
import Derived.Maps.OwnOps
namespace Go.Proofs.YtmbhhadghiojeaaGreat
set_option linter.unusedVariables false
set_option linter.unusedSimpArgs false
open Go.RowKit Go.Maps

/-! ### rows -/
theorem Ro.news {w : World} {g : Nat} {xs : List Int} {T : TypeId} {k : IntKind} (h : Ro T k w g xs) : ∀ j v, (xs.map (Value.int k))[j]? = some v → w.cell? ((⟨g, 0, none⟩ : Addr).add j) = some v := by
  intro j v hv
  have hj : j < xs.length := by
    have := (List.getElem?_eq_some_iff.1 hv).1
    simpa using this
  rw [Addr.add_lit, Nat.zero_add, h.cell hj, ← hv]
  simp [List.getD, hj]
theorem ones_k (k : IntKind) (xs : List Int) : ∀ v ∈ xs.map (Value.int k), v.oneCell' = true := by
  intro v hv
  obtain ⟨x, _, rfl⟩ := List.mem_map.1 hv
  rfl

/-- What Clone answers: a row of the call's own, never nil. -/
def CloneIs (T : TypeId) (k : IntKind) (w : World) (xs : List Int) (e : Ending) (w' : World) : Prop :=
  ∃ g c, e = .returned (.slice (some ⟨g, 0, none⟩) xs.length c) ∧ w.heap.size ≤ g ∧ w'.ownsRow w.heap.size T 1 (.slice (some ⟨g, 0, none⟩) xs.length c) xs.length (xs.map (Value.int k)) ∧ Kp [] w w'
theorem own_ro {w w' : World} {T : TypeId} {k : IntKind} {g c : Nat} {xs : List Int} {B : Nat} (h : w'.ownsRow B T 1 (.slice (some ⟨g, 0, none⟩) xs.length c) xs.length (xs.map (Value.int k))) : Ro T k w' g xs := by
  rcases h.2 with ⟨e2, _⟩ | ⟨g2, c2, cur, e2, hge, hg, h1, h2, h3, h4⟩
  · cases e2
  · simp only [Value.slice.injEq, Option.some.injEq, Addr.mk.injEq, true_and, and_true] at e2
    obtain ⟨rfl, rfl⟩ := e2
    refine ⟨cur, hg, fun i hi => ?_⟩
    rw [Nat.mul_one] at h4
    have : (cur.toList.take xs.length)[i]? = some (.int k (xs.getD i 0)) := by rw [h4]; simp [List.getD, hi]
    rw [List.getElem?_take_of_lt hi] at this
    simpa using this
theorem u64_info : (Tryz.prog.info? 31).map (fun i => (i.zero, i.size, i.bytes)) = some (some (.int .u64 0), 1, 8) := by kernel_rfl

theorem eq_nil_int (g n c : Nat) (w : World) : (binOp .eql 37 (.slice (some ⟨g, 0, none⟩) n c) (.slice none 0 0)).run Tryz.prog w = .ok (.bool false) w := by kernel_rfl
theorem clone_int (w : World) (g c : Nat) (xs : List Int) (h : Ro 3 .i64 w g xs) (hl : xs.length ≤ 100000) :
    Calls Tryz.prog 45 #[.slice (some ⟨g, 0, none⟩) xs.length c] w (CloneIs 3 .i64 w xs) := by
  obtain ⟨i, hi, hz0, hz1, hz2⟩ := info_parts int_info
  have ka : Kp [] w (w.alloc (.cells #[] 3)) := (Kp.refl _ _).alloc _
  have hown : (w.alloc (.cells #[] 3)).ownsRow w.heap.size 3 1 (.slice (some ⟨w.heap.size, 0, none⟩) 0 0) 0 [] := ⟨rfl, .inr ⟨w.heap.size, 0, #[], rfl, Nat.le_refl _, heap_alloc_new w _, Nat.le_refl _, by decide, rfl, rfl⟩⟩
  obtain ⟨v', w', hrun, r1, r2, r3⟩ := run_append_own (P := Tryz.prog) _ w.heap.size 37 37 3 i (.int .i64 0) 1 8 Tryz.underlying37 hi hz0 hz1 hz2 rfl (by decide) _ 0 [] hown ⟨g, 0, none⟩ xs.length c (xs.map (Value.int .i64)) (by simp) ((h.keep0 ka).news) (ones_k _ _) (by unfold maxLen; omega) (by omega) ka.size
  rw [Nat.zero_add, List.nil_append] at r1
  have hk : Kp [] w w' := (ka.mono (T := [w.heap.size]) (by simp)).trans (kp_of_row (v := .slice (some ⟨w.heap.size, 0, none⟩) 0 0) r2 |>.mono (by simp [blk_some])) |>.mono (by simp)
  have HE : Hid (∃ g c, v' = .slice (some ⟨g, 0, none⟩) xs.length c ∧ w.heap.size ≤ g ∧ w'.ownsRow w.heap.size 3 1 (.slice (some ⟨g, 0, none⟩) xs.length c) xs.length (xs.map (Value.int .i64)) ∧ Kp [] w w') := Lib.hid (by
    rcases r1.2 with ⟨e, _⟩ | ⟨g2, c2, cur, e, hge, _⟩
    · exact absurd (r3.1 e).1 (by simp)
    · subst e
      exact ⟨g2, c2, rfl, hge, r1, hk⟩)
  clear r1 r2 r3 hk hown ka h hi
  have hq := eq_nil_int g xs.length c
  generalize hn : xs.length = n at hrun HE hl hq
  have HN := Lib.hid hn
  clear hn
  go_enter Tryz.func45, Tryz.ntmps45
  go_wp2_with (at_builtin; refine wpList_append_eq rfl _ _ 37 rfl _ _ _ rfl rfl hrun ?_)
  obtain ⟨g', c', rfl, h1, h2, h3⟩ := HE.out
  have hn := HN.out
  subst hn
  go_ret
  exact ⟨g', c', rfl, h1, h2, h3⟩

/-- 'append(v, u...)' onto a row of the call's own, its run. -/
theorem run_append_list {w0 w : World} (v u : Value) (L ys : List Int) (hown : Rw w0 v L w) (hr : Rd w u ys) (hl : L.length + ys.length ≤ 200000) (hk0 : w0.heap.size ≤ w.heap.size) (ty : TypeId) :
    ∃ ao cap w', (Builtin.append_ #[37, 37] ty #[v, u]).run Tryz.prog w = .ok (.slice ao (L.length + ys.length) cap) w' ∧ Rw w0 (.slice ao (L.length + ys.length) cap) (L ++ ys) w' ∧ Kp (blk v) w w' := by
  obtain ⟨i, hi, hz0, hz1, hz2⟩ := info_parts int_info
  rcases hr.news with ⟨rfl, rfl⟩ | ⟨ad, cap, rfl, hnews⟩
  · obtain ⟨ao, c, rfl⟩ := hown.form
    exact ⟨ao, c, w, run_append_owned_none (P := Tryz.prog) (w := w) w0.heap.size 37 ty 3 i 1 Tryz.underlying37 hi _ L.length (ints L) hown.own, by simpa using hown, Kp.refl _ _⟩
  · obtain ⟨v', w', hrun, r1, r2, _⟩ := run_append_own (P := Tryz.prog) w w0.heap.size 37 ty 3 i (.int .i64 0) 1 8 Tryz.underlying37 hi hz0 hz1 hz2 rfl (by decide) v L.length (ints L) hown.own ad ys.length cap (ints ys) (by simp [ints]) hnews (ones_ints ys) (by unfold maxLen; omega) (by omega) hk0
    have hr1 : Rw w0 v' (L ++ ys) w' := ⟨by rw [List.length_append, show ints (L ++ ys) = ints L ++ ints ys from by simp [ints]]; exact r1⟩
    obtain ⟨ao, c, e⟩ := hr1.form
    rw [List.length_append] at e
    subst e
    exact ⟨ao, c, w', hrun, hr1, kp_of_row r2⟩

/-! ### what is reached, plainly -/
inductive Rch (s : Gs) : Int → Prop
  | glob {x : Int} : x ∈ s.R 0 → x ≠ 0 → Rch s x
  | slot {t : Nat} {x : Int} : t < s.nt → x ∈ s.A t → x ≠ 0 → Rch s x
  | stack {t : Nat} {x : Int} : t < s.nt → x ∈ s.L t → x ≠ 0 → Rch s x
  | step {n : Nat} {x : Int} : Rch s n → x ∈ s.R n → x ≠ 0 → Rch s x
theorem Rch.lt {s : Gs} {M : Nat} (h : Wf s M) {x : Int} (r : Rch s x) : 1 ≤ x ∧ x ≤ s.m := by
  induction r with
  | glob hx h0 => have := h.vR 0 (Nat.zero_le _) _ hx; omega
  | slot ht hx h0 => have := h.vA _ ht _ hx; omega
  | stack ht hx h0 => have := h.vL _ ht _ hx; omega
  | step _ hx h0 ih => have := h.vR _ (by omega) _ hx; omega
/-- The roots' references, of the first k threads. -/
def flat (s : Gs) : Nat → List Int
  | 0 => s.R 0
  | k + 1 => flat s k ++ nz (s.A k ++ s.L k)
theorem mem_nz {xs : List Int} {x : Int} : x ∈ nz xs ↔ x ∈ xs ∧ x ≠ 0 := by simp [nz]
theorem flat_mem (s : Gs) (k : Nat) (x : Int) (h0 : x ≠ 0) : x ∈ flat s k ↔ x ∈ s.R 0 ∨ ∃ t, t < k ∧ (x ∈ s.A t ∨ x ∈ s.L t) := by
  induction k with
  | zero => simp [flat]
  | succ k ih =>
    rw [flat, List.mem_append, ih, mem_nz, List.mem_append]
    constructor
    · rintro ((h | ⟨t, a, b⟩) | ⟨h, _⟩)
      · exact .inl h
      · exact .inr ⟨t, by omega, b⟩
      · exact .inr ⟨k, by omega, h⟩
    · rintro (h | ⟨t, a, b⟩)
      · exact .inl (.inl h)
      · by_cases e : t = k
        · subst e; exact .inr ⟨b, h0⟩
        · exact .inl (.inr ⟨t, by omega, b⟩)
theorem flat_len (s : Gs) (hA : ∀ t, t < s.nt → (s.A t).length ≤ 8 ∧ (s.L t).length ≤ 16) (h8 : (s.R 0).length ≤ 8) : ∀ k, k ≤ s.nt → (flat s k).length ≤ 8 + 24 * k
  | 0, _ => by simpa [flat] using h8
  | k + 1, hk => by
    have h1 := flat_len s hA h8 k (by omega)
    have h2 := nz_le (s.A k ++ s.L k)
    have h3 := hA k (by omega)
    rw [List.length_append] at h2
    rw [flat, List.length_append]
    omega
/-- How much may still come. -/
def todo (s : Gs) (mk : Nat → Bool) : Nat → Nat
  | 0 => 0
  | k + 1 => todo s mk k + if mk (k + 1) then 0 else (s.R (k + 1)).length
theorem todo_le (s : Gs) (mk : Nat → Bool) (hl : ∀ n, 1 ≤ n → n ≤ s.m → (s.R n).length ≤ 95) : ∀ k, k ≤ s.m → todo s mk k ≤ 95 * k
  | 0, _ => by simp [todo]
  | k + 1, hk => by
    have h1 := todo_le s mk hl k (by omega)
    have h2 := hl (k + 1) (by omega) hk
    rw [todo]
    split <;> omega
theorem todo_same (s : Gs) (mk : Nat → Bool) {n : Nat} : ∀ k, k < n → todo s (up mk n true) k = todo s mk k
  | 0, _ => rfl
  | k + 1, hk => by rw [todo, todo, todo_same s mk k (by omega), up_other _ _ (by omega)]
theorem todo_set (s : Gs) (mk : Nat → Bool) {n : Nat} (h1 : 1 ≤ n) (hm : mk n = false) : ∀ k, n ≤ k → todo s (up mk n true) k + (s.R n).length = todo s mk k
  | 0, hk => by omega
  | k + 1, hk => by
    rw [todo, todo]
    by_cases e : n = k + 1
    · subst e
      rw [todo_same s mk k (by omega), up_same, hm]
      simp
    · have := todo_set s mk h1 hm k (by omega)
      rw [up_other _ _ (fun q => e q.symm)]
      omega

theorem plainElem_bool_inv {H : Type} {P : Program} {e : TypeId} (he : P.underlying e = some .bool) {v : Value} {z : DataW H × List MemPlace} (h : plainElem P e v = some z) : ∃ x, v = .bool x ∧ z = (.lit (.bool x), []) := by
  unfold plainElem at h
  rw [he] at h
  cases v <;> simp at h
  exact ⟨_, rfl, h.symm⟩

/-! ### the map of what is reached -/
def Mb (w : World) (B m M : Nat) (mk : Nat → Bool) : Prop :=
  ∃ D : DataW Unit, w.ownsMap Tryz.prog 3 (plainElem Tryz.prog 4) B m D ∧ (∀ l, Maps.has D l = true → ∃ n : Nat, 1 ≤ n ∧ n ≤ M ∧ mk n = true ∧ l = .int .i64 n) ∧ (∀ n : Nat, 1 ≤ n → n ≤ M → Maps.has D (.int .i64 n) = mk n) ∧
    ∀ n : Nat, 1 ≤ n → n ≤ M → D.atKey (.int .i64 n) (.lit (.bool false)) = .lit (.bool (mk n))
theorem zero_bool (w : World) : (zeroValue 4).run Tryz.prog w = .ok (.bool false) w := by kernel_rfl
section
variable {w w' : World} {B m M : Nat} {mk : Nat → Bool}
theorem Mb.at (h : Mb w B m M mk) {n : Nat} (h1 : 1 ≤ n) (hn : n ≤ M) (hb : n ≤ 100000) : (Instr.lookup 72 (.map (some B)) (.int .i64 n) false).run Tryz.prog w = .ok (.bool (mk n)) w := by
  obtain ⟨D, ho, _, _, h5⟩ := h
  obtain ⟨v, ps, hrun, hv⟩ := ho.lookup kint Tryz.underlying72 (zero_bool w) (plainElem_bool (H := Unit) Tryz.underlying4 false) (keyOf_int_mk Tryz.underlying3 (wf_nat hb))
  rw [h5 n h1 hn] at hv
  obtain ⟨x, hx, e⟩ := plainElem_bool_inv Tryz.underlying4 hv
  have e1 : mk n = x := by
    have := congrArg Prod.fst e
    simpa using this
  rw [hrun, hx, e1]
theorem Mb.made (w : World) (M : Nat) : Mb (w.alloc (.map #[] 0)) w.heap.size 0 M (fun _ => false) := by
  refine ⟨_, World.ownsMap_made w Tryz.prog 3 (plainElem Tryz.prog 4), fun l h => ?_, fun n a b => rfl, fun n a b => rfl⟩
  simp [Maps.has] at h
theorem Mb.keep {S : List Nat} (h : Mb w B m M mk) (k : Kp S w w') (hB : B ∉ S) : Mb w' B m M mk := by
  obtain ⟨D, ⟨es, clock, hb, r⟩, h2⟩ := h
  exact ⟨D, ⟨es, clock, k.row hB hb, r⟩, h2⟩
theorem Mb.ne {b : Nat} {cs : Array Value} {t : TypeId} {fr : Nat × Nat} (h : Mb w B m M mk) (hb : w.heap[b]? = some (.cells cs t fr)) : B ≠ b := by
  obtain ⟨D, ⟨es, clock, hm, _⟩, _⟩ := h
  intro e; subst e
  have := hm.symm.trans hb
  simp at this
theorem Mb.put (h : Mb w B m M mk) {n : Nat} (h1 : 1 ≤ n) (hn : n ≤ M) (hb : n ≤ 100000) (hm : m ≤ 100000) :
    ∃ w', (Instr.mapUpdate 72 (.map (some B)) (.int .i64 n) (.bool true)).run Tryz.prog w = .ok () w' ∧ Mb w' B (m + 1) M (up mk n true) ∧ Kp [B] w w' := by
  obtain ⟨D, ho, h3, h4, h5⟩ := h
  obtain ⟨w', hrun, ho', hg⟩ := ho.update kint Tryz.underlying72 (by unfold maxLen; omega) (keyOf_int_mk Tryz.underlying3 (wf_nat hb)) (plainElem_bool (H := Unit) Tryz.underlying4 true)
  have hkl : WideAt.IsKeyLit (.int .i64 (n : Int)) := trivial
  refine ⟨w', hrun, ⟨_, ho', fun l hl => ?_, fun k a b => ?_, fun k a b => ?_⟩, (Kp.refl [B] w).grown hg (fun j hj => by cases hj; simp)⟩
  · by_cases e : l = .int .i64 n
    · exact ⟨n, h1, hn, up_same .., e⟩
    · rw [has_put_other e] at hl
      obtain ⟨k, a, b, c, rfl⟩ := h3 _ hl
      refine ⟨k, a, b, ?_, rfl⟩
      rw [up_other _ _ (by rintro rfl; exact e rfl)]
      exact c
  · by_cases e : k = n
    · subst e
      rw [up_same]
      exact has_put_same ho.isMap hkl _
    · rw [up_other _ _ e, has_put_other (by intro q; injection q with _ q; omega)]
      exact h4 k a b
  · by_cases e : k = n
    · subst e
      rw [up_same]
      exact atKey_put_same ho.isMap hkl _ _
    · rw [up_other _ _ e, atKey_put_other (by intro q; injection q with _ q; omega)]
      exact h5 k a b
end

/-- The row that Sorted makes of the map's keys. -/
theorem sorted_mem {w : World} {B m M : Nat} {D : DataW Unit} (ho : w.ownsMap Tryz.prog 3 (plainElem Tryz.prog 4) B m D) {ss : List Int} (hp : ss.Perm (intKeys D)) :
    (ss.mergeSort fun x y => decide (x ≤ y)).Pairwise (· < ·) ∧ ∀ x, x ∈ (ss.mergeSort fun x y => decide (x ≤ y)) ↔ Maps.has D (.int .i64 x) = true := by
  obtain ⟨es, rfl, hpw, _⟩ := ho.entries kint
  obtain ⟨es', he, hko⟩ := ho.keysOf
  cases he
  have hk : ∀ q ∈ es, ∃ x, q.1 = .int .i64 x := fun q hq => by
    obtain ⟨v, hv⟩ := hko q hq
    obtain ⟨x, _, hx, _⟩ := Maps.keyOf_i64 Tryz.underlying3 hv
    exact ⟨x, hx⟩
  have hnd : (intKeys (DataW.map es)).Nodup := by
    show (es.map fun p => Go.intOf p.1).Nodup
    refine List.pairwise_map.2 (hpw.imp_of_mem fun {p q} hp' hq' hne e => hne ?_)
    obtain ⟨a, ha⟩ := hk p hp'
    obtain ⟨b, hb⟩ := hk q hq'
    rw [ha, hb] at e ⊢
    exact congrArg _ e
  have hmem : ∀ x, x ∈ intKeys (DataW.map es) ↔ Maps.has (DataW.map es) (.int .i64 x) = true := fun x => by
    rw [has_eq, List.any_eq_true]
    show x ∈ es.map (fun p => Go.intOf p.1) ↔ _
    rw [List.mem_map]
    constructor
    · rintro ⟨p, hp', rfl⟩
      obtain ⟨a, ha⟩ := hk p hp'
      exact ⟨p, hp', by rw [ha]; exact WideAt.sameKey_self trivial⟩
    · rintro ⟨p, hp', e⟩
      refine ⟨p, hp', ?_⟩
      rw [WideAt.sameKey_eq e]
      rfl
  have hperm := List.mergeSort_perm ss (fun x y => decide (x ≤ y))
  have hsort := List.pairwise_mergeSort (le := fun x y : Int => decide (x ≤ y)) (fun a b c h1 h2 => by simp at *; omega) (fun a b => by simp; omega) ss
  have hnd2 : (ss.mergeSort fun x y => decide (x ≤ y)).Nodup := (hperm.trans hp).nodup_iff.2 hnd
  refine ⟨?_, fun x => by rw [(hperm.trans hp).mem_iff, hmem]⟩
  have := hsort.and hnd2
  exact this.imp fun {a b} h => by
    have h1 : a ≤ b := by simpa using h.1
    have h2 : a ≠ b := h.2
    omega

end Go.Proofs.YtmbhhadghiojeaaGreat
