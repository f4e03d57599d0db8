/- A region that draws its order, whose last operation waits for all the others: what is said of the world need not stand behind that one. Conditions: as the theorem states them. Conditions: as each theorem states them. -/
import Derived.Deep.RegionHeld3
namespace Go.Proofs.YtbpgkocbfleajaaGreatDoor
set_option linter.unusedVariables false
set_option linter.unusedSimpArgs false

section
variable {P : Program} {ops : Array Oper} {Q : Exit → Act → World → Prop} {md : Region.Mode} {S : World → Prop}

/-- The post ahead of the last operation. -/
def ZQ (P : Program) (ops : Array Oper) (Q : Exit → Act → World → Prop) (z : Nat) : Exit → Act → World → Prop
  | .normal, a, w => wpOp P ops Q z (Q .normal) a w
  | e, a, w => Q e a w

theorem zq_normal {z : Nat} {a : Act} {w : World} (h : wpOp P ops Q z (Q .normal) a w) : ZQ P ops Q z .normal a w := h

/-- An operation's place, held by one that does nothing. -/
def idle (o : Oper) : Oper := { o with op := .move (.const undef), guard := none }

theorem lets_out {z : Nat} (h : LetsOut (ZQ P ops Q z)) : LetsOut Q := h

theorem upon_swap {z : Nat} {o : Oper} {K K' : Act → World → Prop} {a : Act} {r : Result Next} (h : ∀ a w, K a w → K' a w) (hh : o.upon P a K (ZQ P ops Q z) r) : o.upon P a K' Q r := by
  cases r with
  | ok n w' =>
    cases n <;> simp only [Oper.upon] at hh ⊢ <;>
      first
        | exact h _ _ hh
        | exact Calls.mono hh (fun e w'' he => by cases e <;> first | exact h _ _ he | exact he)
        | exact Rows.mono hh (fun _ _ he => h _ _ he)
  | halt x w' => cases x <;> simp only [Oper.upon] at hh ⊢ <;> exact hh

theorem op_swap {z j : Nat} {ops' : Array Oper} (hj : ops'[j]? = ops[j]?) (hy : ∀ t, yielded ops' t = yielded ops t) {K K' : Act → World → Prop} {a : Act} {w : World} (h : ∀ a w, K a w → K' a w) (hh : wpOp P ops' (ZQ P ops Q z) j K a w) : wpOp P ops Q j K' a w := by
  unfold wpOp at *
  rw [hj] at hh
  cases ho : ops[j]? with
  | none => rw [ho] at hh; exact h _ _ hh
  | some o =>
    rw [ho] at hh
    simp only [hy] at hh ⊢
    split
    · rename_i hw
      simp only [hw, if_true] at hh
      exact hh.imp (fun q => upon_swap h q) fun q => ⟨q.1, lets_out q.2⟩
    · rename_i hw
      simp only [hw] at hh
      exact h _ _ hh

/-- What has come up is closed under what it waits for. -/
def Closed (md : Region.Mode) (ops : Array Oper) (listed : Array Bool) : Prop :=
  ∀ j o, ops[j]? = some o → listed.getD j false = true → ∀ e ∈ o.after, Region.binds md e = true → listed.getD e.on false = true

theorem closed_set {listed : Array Bool} (hc : Closed md ops listed) {i : Nat} (hi : i ∈ Region.ready md ops listed) : Closed md ops (listed.setIfInBounds i true) := by
  intro j o ho hl e he hb
  obtain ⟨h0, oi, hoi, hall⟩ := mem_ready.1 hi
  by_cases hij : i = j
  · subst hij
    rw [hoi] at ho
    cases ho
    exact getD_set_true (hall e he hb)
  · rw [getD_set_ne false hij] at hl
    exact getD_set_true (hc j o ho hl e he hb)

/-- Each but 'z' is waited for by a later one. -/
def awaited (md : Region.Mode) (ops : Array Oper) (z : Nat) : Bool :=
  (List.range ops.size).all fun i => i == z || (List.range ops.size).any fun j => decide (i < j) && ((ops[j]?).map fun o => o.after.any fun e => Region.binds md e && e.on == i).getD false
/-- Each waits for earlier ones. -/
def ordered (md : Region.Mode) (ops : Array Oper) : Bool :=
  (List.range ops.size).all fun j => ((ops[j]?).map fun o => o.after.all fun e => !Region.binds md e || decide (e.on < j)).getD true

theorem getD_both {listed : Array Bool} {i : Nat} (hi : i < listed.size) : listed.getD i true = listed.getD i false := by simp [hi]

theorem awaited_spec {z : Nat} (h : awaited md ops z = true) {i : Nat} (hi : i < ops.size) (hz : i ≠ z) :
    ∃ j o, ops[j]? = some o ∧ i < j ∧ ∃ e ∈ o.after, Region.binds md e = true ∧ e.on = i := by
  have h1 := List.all_eq_true.1 h i (List.mem_range.2 hi)
  rw [Bool.or_eq_true] at h1
  rcases h1 with h1 | h1
  · exact absurd (by simpa using h1) hz
  · obtain ⟨j, hj, h2⟩ := List.any_eq_true.1 h1
    rw [Bool.and_eq_true] at h2
    obtain ⟨h2, h3⟩ := h2
    cases ho : ops[j]? with
    | none => rw [ho] at h3; simp at h3
    | some o =>
      rw [ho] at h3
      simp only [Option.map_some, Option.getD_some] at h3
      obtain ⟨x, hx, h4⟩ := Array.any_eq_true.1 h3
      have he : o.after[x] ∈ o.after := Array.getElem_mem hx
      generalize o.after[x] = e at h4 he
      rw [Bool.and_eq_true] at h4
      exact ⟨j, o, ho, by simpa using h2, e, he, h4.1, by simpa using h4.2⟩

theorem all_listed {z : Nat} (h : awaited md ops z = true) {listed : Array Bool} (hs : listed.size = ops.size) (hc : Closed md ops listed) (hz : z ∈ Region.ready md ops listed) :
    ∀ n i, ops.size - i ≤ n → i < ops.size → i ≠ z → listed.getD i false = true := by
  obtain ⟨h0, oz, hoz, hall⟩ := mem_ready.1 hz
  intro n
  induction n with
  | zero => intro i hn hi; omega
  | succ n ih =>
    intro i hn hi hiz
    obtain ⟨j, o, ho, hij, e, he, hb, hon⟩ := awaited_spec h hi hiz
    have hj : j < ops.size := (Array.getElem?_eq_some_iff.1 ho).1
    rw [← hon]
    by_cases hjz : j = z
    · subst hjz
      rw [hoz] at ho
      cases ho
      exact hall e he hb
    · exact hc j o ho (ih j (by omega) hj hjz) e he hb

theorem none_behind {z : Nat} (h : awaited md ops z = true) {listed : Array Bool} (hs : listed.size = ops.size) (hc : Closed md ops listed) (hz : z ∈ Region.ready md ops listed) :
    Region.ready md ops (listed.setIfInBounds z true) = [] := by
  rw [List.eq_nil_iff_forall_not_mem]
  intro k hk
  obtain ⟨h0, o, ho, _⟩ := mem_ready.1 hk
  have hk1 : k < ops.size := (Array.getElem?_eq_some_iff.1 ho).1
  by_cases hkz : z = k
  · subst hkz
    have : z < listed.size := by omega
    simp [this] at h0
  · rw [getD_set_ne true hkz, getD_both (by omega), all_listed h hs hc hz _ k (Nat.le_refl _) hk1 (Ne.symm hkz)] at h0
    cases h0

theorem stuck_none (h : ordered md ops = true) {listed : Array Bool} (hs : listed.size = ops.size) (hr : Region.ready md ops listed = []) : ∀ n j, j < n → j < ops.size → listed.getD j true = true := by
  intro n
  induction n with
  | zero => intro j hj; omega
  | succ n ih =>
    intro j hj hlt
    cases hb : listed.getD j true with
    | true => rfl
    | false =>
      exfalso
      have : j ∈ Region.ready md ops listed := by
        refine mem_ready.2 ⟨hb, ops[j], by simp [hlt], fun e he hbn => ?_⟩
        have h1 := List.all_eq_true.1 h j (List.mem_range.2 hlt)
        have h2 : (ops[j]?) = some ops[j] := by simp [hlt]
        rw [h2] at h1
        simp only [Option.map_some, Option.getD_some] at h1
        have h3 := Array.all_eq_true_iff_forall_mem.1 h1 e he
        rw [hbn] at h3
        have h4 : e.on < j := by simpa using h3
        rw [← getD_both (by omega)]
        exact ih e.on (by omega) (by omega)
      rw [hr] at this
      cases this

/-- **A region whose last operation waits for all the others**: the walk, with an idle one in its place. -/
theorem any_of_held_last {z : Nat} {oz : Oper} (hz : ops[z]? = some oz) (hd : oz.dst = none) (ha : awaited md ops z = true) (ho : ordered md ops = true) :
    ∀ (fuel : Nat) (listed : Array Bool) (a : Act) (w : World), listed.size = ops.size → Closed md ops listed → listed.getD z true = false →
      wpAnyH P md (ops.setIfInBounds z (idle oz)) (ZQ P ops Q z) S fuel listed a w → wpAny P md ops Q fuel listed a w := by
  have hzl : z < ops.size := (Array.getElem?_eq_some_iff.1 hz).1
  have hget : ∀ j, j ≠ z → (ops.setIfInBounds z (idle oz))[j]? = ops[j]? := fun j hj => Array.getElem?_setIfInBounds_ne (Ne.symm hj)
  have hgz : (ops.setIfInBounds z (idle oz))[z]? = some (idle oz) := by simp [hzl]
  have hy : ∀ t, yielded (ops.setIfInBounds z (idle oz)) t = yielded ops t := by
    intro t
    funext j
    unfold yielded
    by_cases hj : j = z
    · subst hj; rw [hgz, hz]; rfl
    · rw [hget j hj]
  have hready : ∀ listed, Region.ready md (ops.setIfInBounds z (idle oz)) listed = Region.ready md ops listed := by
    intro listed
    unfold Region.ready
    rw [Array.size_setIfInBounds]
    refine List.filter_congr fun j _ => ?_
    by_cases hj : j = z
    · subst hj; rw [hgz, hz]; rfl
    · rw [hget j hj]
  intro fuel
  induction fuel with
  | zero =>
    intro listed a w hs hc hu H
    exfalso
    have h1 := H.1
    rw [hready] at h1
    rw [stuck_none ho hs h1 _ z (Nat.lt_succ_self z) hzl] at hu
    cases hu
  | succ fuel ih =>
    intro listed a w hs hc hu H
    refine ⟨fun h1 => ?_, fun j hj => ?_⟩
    · exfalso
      rw [stuck_none ho hs h1 _ z (Nat.lt_succ_self z) hzl] at hu
      cases hu
    · have h1 := H.2 j (by rw [hready]; exact hj)
      by_cases hjz : j = z
      · subst hjz
        have hnil := none_behind ha hs hc hj
        have hQ : wpOp P ops Q j (Q .normal) a w := by
          unfold wpOp at h1
          rw [hgz] at h1
          have hw : Region.wanted (idle oz) (yielded (ops.setIfInBounds j (idle oz)) a.tmps) = true := rfl
          simp only [hw, if_true] at h1
          have hrun : (execOp a.eval (idle oz)).run P w = .ok (.value (a.eval (.const undef))) w := rfl
          have hput : a.put (idle oz).dst (a.eval (.const undef)) = a := by
            show a.put oz.dst _ = a
            rw [hd]; rfl
          have hne : ∀ x, wpAnyH P md (ops.setIfInBounds j (idle oz)) (ZQ P ops Q j) S fuel (listed.setIfInBounds j true) a x → ZQ P ops Q j .normal a x := by
            intro x hx
            cases fuel with
            | zero => exact hx.2
            | succ fuel => exact hx.1 (by rw [hready]; exact hnil)
          rcases h1 with h1 | ⟨h1, _⟩
          · unfold Oper.wp at h1
            rw [hrun] at h1
            simp only [Oper.upon, hput] at h1
            exact hne _ h1.2
          · exfalso
            revert h1
            unfold Oper.asks
            rintro ⟨h2, _⟩
            have : ((execOp a.eval (idle oz)).runT P w #[]).2 = #[] := rfl
            rw [this] at h2
            simp at h2
        refine wpOp_mono (fun a' w' hq => ?_) hQ
        exact wpAny_done hnil hq fuel
      · refine op_swap (hget j hjz) hy (fun a' w' hq => ?_) h1
        exact ih _ a' w' (by rw [Array.size_setIfInBounds]; exact hs) (closed_set hc hj) (by rw [getD_set_ne true hjz]; exact hu) hq.2

/-- The same, of a region. -/
theorem region_held_last {id : Nat} {a : Act} {w : World} (z : Nat) (oz : Oper) (hm : P.follows .mixedOrders = true) (hz : ops[z]? = some oz) (hd : oz.dst = none) (ha : awaited .any ops z = true) (ho : ordered .any ops = true)
    (hS : S w.drew) (h : S w.drew → wpAnyH P .any (ops.setIfInBounds z (idle oz)) (ZQ P ops Q z) S ops.size (Array.replicate ops.size false) a w.drew) : (Code.region id ops true).wp P Q a w := by
  refine wp_region_any hm (any_of_held_last hz hd ha ho _ _ a _ (by simp) ?_ ?_ (h hS))
  · intro j o _ hl
    exfalso
    revert hl
    simp only [Array.getD_eq_getD_getElem?]
    rw [Array.getElem?_replicate]
    split <;> simp
  · have hzl : z < ops.size := (Array.getElem?_eq_some_iff.1 hz).1
    simp [hzl]

end
end Go.Proofs.YtbpgkocbfleajaaGreatDoor
