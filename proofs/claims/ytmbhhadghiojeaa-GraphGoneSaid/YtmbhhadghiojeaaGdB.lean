/- What is not reached never is again, plainly; a map of numbers to truths; a graph and such a map beside each other. Conditions: as each lemma states them. -/
import Derived.Test.YtmbhhadghiojeaaGdW
namespace Go.Proofs.Ytmbhhadghiojeaa
set_option linter.unusedVariables false
set_option linter.unusedSimpArgs false
open Go.RowKit Go.Maps

/-- None, or one that is reached. -/
def Ok (s : Gs) (x : Int) : Prop := x = 0 ∨ Rch s x
section
variable {s s' : Gs} {M M' : Nat}
theorem ok0 : Ok s 0 := .inl rfl
theorem okG {x : Int} (h : x ∈ s.R 0) : Ok s x := Classical.or_iff_not_imp_left.2 (Rch.glob h)
theorem okA {t : Nat} {x : Int} (ht : t < s.nt) (h : x ∈ s.A t) : Ok s x := Classical.or_iff_not_imp_left.2 (Rch.slot ht h)
theorem okL {t : Nat} {x : Int} (ht : t < s.nt) (h : x ∈ s.L t) : Ok s x := Classical.or_iff_not_imp_left.2 (Rch.stack ht h)
theorem okR {n : Nat} {x : Int} (hn : Rch s n) (h : x ∈ s.R n) : Ok s x := Classical.or_iff_not_imp_left.2 (Rch.step hn h)
theorem ok_of {t k : Int} (hb : bT s t = false) : Ok s (ofS s t k) := by
  obtain ⟨tn, rfl, ht⟩ := bT_no hb
  exact getD_in (Ok s) _ ok0 fun x => okA (by simpa using ht)
theorem rch_sub (hw' : Wf s' M') (hnt : s'.nt = s.nt) (hA : ∀ t, t < s.nt → ∀ x ∈ s'.A t, (s.m : Int) < x ∨ Ok s x) (hL : ∀ t, t < s.nt → ∀ x ∈ s'.L t, Ok s x)
    (hR : ∀ n : Nat, n ≤ s'.m → (n = 0 ∨ s.m < n ∨ Rch s n) → ∀ x ∈ s'.R n, Ok s x) : ∀ y, Rch s' y → y ≤ s.m → Rch s y := by
  intro y r
  induction r with
  | glob hx h0 => exact fun _ => (hR 0 (Nat.zero_le _) (.inl rfl) _ hx).resolve_left h0
  | slot ht hx h0 => exact fun hle => ((hA _ (hnt ▸ ht) _ hx).resolve_left (by omega)).resolve_left h0
  | stack ht hx h0 => exact fun hle => (hL _ (hnt ▸ ht) _ hx).resolve_left h0
  | @step n x r hx h0 ih =>
    intro hle
    have hn := r.lt hw'
    refine (hR n (by omega) ?_ _ hx).resolve_left h0
    by_cases hs : s.m < n
    · exact .inr (.inl hs)
    · exact .inr (.inr (ih (by omega)))
theorem rch_same (hw' : Wf s' M') (hnt : s'.nt = s.nt) (hm : s'.m = s.m) (hA : ∀ t, t < s.nt → ∀ x ∈ s'.A t, Ok s x) (hL : ∀ t, t < s.nt → ∀ x ∈ s'.L t, Ok s x)
    (hR : ∀ n : Nat, (n = 0 ∨ Rch s n) → ∀ x ∈ s'.R n, Ok s x) : ∀ y, Rch s' y → y ≤ s.m → Rch s y :=
  rch_sub hw' hnt (fun t ht x hx => .inr (hA t ht x hx)) hL fun n hn hc => hR n (by rcases hc with h | h | h; exact .inl h; omega; exact .inr h)
theorem okRn : ∀ n : Nat, (n = 0 ∨ Rch s n) → ∀ x ∈ s.R n, Ok s x := by
  rintro n (rfl | h) x hx
  · exact okG hx
  · exact okR h hx
theorem okUp {f : Nat → List Int} {n j i : Nat} {v : Int} (hv : Ok s v) (hf : ∀ x ∈ f j, Ok s x) : ∀ x ∈ up f n ((f n).set i v) j, Ok s x := by
  intro x hx
  by_cases e : j = n
  · subst e
    rw [up_same] at hx
    rcases mem_set hx with h | rfl
    · exact hf x h
    · exact hv
  · rw [up_other _ _ e] at hx
    exact hf x hx
theorem rch_setS {t d v : Int} (hw : Wf (setS s t d v) M') (hv : Ok s v) : ∀ y, Rch (setS s t d v) y → y ≤ s.m → Rch s y :=
  rch_same hw rfl rfl (fun u hu => okUp hv fun x => okA hu) (fun u hu x => okL hu) okRn
theorem rch_setR {n : Nat} {i v : Int} (hw : Wf (setR s n i v) M') (hv : Ok s v) : ∀ y, Rch (setR s n i v) y → y ≤ s.m → Rch s y :=
  rch_same hw rfl rfl (fun u hu x => okA hu) (fun u hu x => okL hu) fun k hk => okUp hv (okRn k hk)
theorem rch_setD {n : Nat} {i v : Int} (hw : Wf (setD s n i v) M') : ∀ y, Rch (setD s n i v) y → y ≤ s.m → Rch s y :=
  rch_same hw rfl rfl (fun u hu x => okA hu) (fun u hu x => okL hu) okRn
theorem rch_AL {t : Nat} {A L : List Int} (hw : Wf { s with A := up s.A t A, L := up s.L t L } M') (hA : t < s.nt → ∀ x ∈ A, Ok s x) (hL : t < s.nt → ∀ x ∈ L, Ok s x) : ∀ y, Rch { s with A := up s.A t A, L := up s.L t L } y → y ≤ s.m → Rch s y := by
  refine rch_same hw rfl rfl (fun u hu x hx => ?_) (fun u hu x hx => ?_) okRn
  · have hx : x ∈ up s.A t A u := hx
    by_cases e : u = t
    · subst e; rw [up_same] at hx; exact hA hu x hx
    · rw [up_other _ _ e] at hx; exact okA hu hx
  · have hx : x ∈ up s.L t L u := hx
    by_cases e : u = t
    · subst e; rw [up_same] at hx; exact hL hu x hx
    · rw [up_other _ _ e] at hx; exact okL hu hx
theorem sta_rch {e : Int} (h : Wf (sta e s' s) M') (hh : e = 0 → Wf s' M' → ∀ y, Rch s' y → y ≤ s.m → Rch s y) : ∀ y, Rch (sta e s' s) y → y ≤ s.m → Rch s y := by
  unfold sta at h ⊢
  split
  · rename_i he
    rw [if_pos he] at h
    exact hh he h
  · exact fun y r _ => r
theorem ok_load (hw : Wf s M) {t d k i : Int} (he : loadE s t d k i = 0) : Ok s ((onR s t k).getD i.toNat 0) := by
  have hb := heldE_z he
  rw [Bool.or_eq_false_iff] at hb
  have ho := ok_of (k := k) (bK_bT hb.2)
  have hp := ofS_in hw (k := k) (bK_bT hb.2)
  have h0 : ofS s t k ≠ 0 := fun h0 => by
    unfold loadE heldE at he
    rw [if_neg (by rw [Bool.or_eq_false_iff.2 hb]; simp), if_pos h0] at he
    cases he
  have hr := ho.resolve_left h0
  obtain ⟨n, hn⟩ : ∃ n : Nat, ofS s t k = n := ⟨(ofS s t k).toNat, by omega⟩
  have : onR s t k = s.R n := by unfold onR; rw [hn]; rfl
  rw [this]
  rw [hn] at hr
  exact getD_in (Ok s) _ ok0 fun x => okR hr
theorem ok_get {t d k : Int} : Ok s ((s.R 0).getD k.toNat 0) := getD_in (Ok s) _ ok0 fun x => okG
theorem sta_m {e : Int} (h : s'.m = s.m) : (sta e s' s).m = s.m := by
  unfold sta
  split
  · exact h
  · rfl
theorem do_m_other (x : Ac) (h0 : x.d ≠ 0) : (doS s x).m = s.m := by
  unfold doS
  rw [if_neg h0]
  split
  · exact sta_m rfl
  split
  · exact sta_m rfl
  split
  · rfl
  split
  · exact sta_m rfl
  split
  · exact sta_m rfl
  split
  · exact sta_m rfl
  split
  · exact sta_m rfl
  split
  · exact sta_m rfl
  split
  · unfold gpushS; split <;> rfl
  split
  · unfold gpopS; split <;> rfl
  · rfl
theorem do_m (s : Gs) (x : Ac) : (doS s x).m = if x.d = 0 ∧ doE s x = 0 then s.m + 1 else s.m := by
  by_cases h0 : x.d = 0
  · have e1 : doE s x = allocE s x.t x.a x.b x.c := by simp [doE, h0]
    have e2 : doS s x = sta (allocE s x.t x.a x.b x.c) (setS (newO s x.b x.c) x.t x.a ((s.m : Int) + 1)) s := by simp [doS, h0]
    rw [e1, e2]
    unfold sta
    by_cases he : allocE s x.t x.a x.b x.c = 0
    · rw [if_pos he, if_pos ⟨h0, he⟩]; rfl
    · rw [if_neg he, if_neg (fun h => he h.2)]
  · rw [if_neg (fun h => h0 h.1)]
    exact do_m_other x h0
/-- What is not reached never is again. -/
theorem rch_do (hw : Wf s M) (x : Ac) : ∀ y, Rch (doS s x) y → y ≤ s.m → Rch s y := by
  have hw' := wf_do hw x
  unfold doS at hw' ⊢
  split
  · rename_i h0
    rw [if_pos h0] at hw'
    refine sta_rch hw' fun he hw2 => ?_
    obtain ⟨a, b, c⟩ := allocE_z he
    refine rch_sub hw2 rfl (fun u hu z hz => ?_) (fun u hu z => okL hu) fun n hn hc z hz => ?_
    · have hz : z ∈ up s.A x.t.toNat ((s.A x.t.toNat).set x.a.toNat ((s.m : Int) + 1)) u := hz
      by_cases e : u = x.t.toNat
      · subst e
        rw [up_same] at hz
        rcases mem_set hz with h | rfl
        · exact .inr (okA hu h)
        · exact .inl (by omega)
      · rw [up_other _ _ e] at hz
        exact .inr (okA hu hz)
    · have hz : z ∈ up s.R (s.m + 1) (List.replicate x.b.toNat 0) n := hz
      have hn : n ≤ s.m + 1 := hn
      by_cases e : n = s.m + 1
      · subst e
        rw [up_same, List.mem_replicate] at hz
        rw [hz.2]; exact ok0
      · rw [up_other _ _ e] at hz
        exact okRn n (by rcases hc with h | h | h; exact .inl h; omega; exact .inr h) z hz
  rename_i h0
  rw [if_neg h0] at hw'
  split
  · rename_i h1
    rw [if_pos h1] at hw'
    exact sta_rch hw' fun he hw2 => rch_setS hw2 (ok_load hw he)
  rename_i h1
  rw [if_neg h1] at hw'
  split
  · rename_i h2
    rw [if_pos h2] at hw'
    refine sta_rch hw' fun he hw2 => rch_setR hw2 ?_
    have hb := heldE_z he
    rw [Bool.or_eq_false_iff] at hb
    exact ok_of (bK_bT hb.2)
  rename_i h2
  rw [if_neg h2] at hw'
  split
  · exact fun y r _ => r
  rename_i h3
  rw [if_neg h3] at hw'
  split
  · rename_i h4
    rw [if_pos h4] at hw'
    exact sta_rch hw' fun he hw2 => rch_setD hw2
  rename_i h4
  rw [if_neg h4] at hw'
  split
  · rename_i h5
    rw [if_pos h5] at hw'
    exact sta_rch hw' fun he hw2 => rch_setS hw2 (ok_get (t := 0) (d := 0))
  rename_i h5
  rw [if_neg h5] at hw'
  split
  · rename_i h6
    rw [if_pos h6] at hw'
    refine sta_rch hw' fun he hw2 => rch_setR hw2 ?_
    have hb := if2 he
    rw [Bool.or_eq_false_iff] at hb
    exact ok_of (bK_bT hb.1)
  rename_i h6
  rw [if_neg h6] at hw'
  split
  · rename_i h7
    rw [if_pos h7] at hw'
    refine sta_rch hw' fun he hw2 => rch_setS hw2 ?_
    have hb := if2 he
    rw [Bool.or_eq_false_iff] at hb
    exact ok_of (bK_bT hb.2)
  rename_i h7
  rw [if_neg h7] at hw'
  split
  · rename_i h8
    rw [if_pos h8] at hw'
    exact sta_rch hw' fun he hw2 => rch_setS hw2 ok0
  rename_i h8
  rw [if_neg h8] at hw'
  split
  · rename_i h9
    rw [if_pos h9] at hw'
    unfold gpushS at hw' ⊢
    split
    · exact fun y r _ => r
    · rename_i hb
      rw [if_neg hb] at hw'
      refine rch_AL hw' (fun ht z => okA ht) fun ht => ?_
      unfold pushL
      split
      · exact fun z => okL ht
      · split
        · exact fun z => okL ht
        · intro z hz
          rw [List.mem_append, List.mem_singleton] at hz
          rcases hz with hz | rfl
          · exact okL ht hz
          · exact getD_in (Ok s) _ ok0 fun z => okA ht
  rename_i h9
  rw [if_neg h9] at hw'
  split
  · rename_i h10
    rw [if_pos h10] at hw'
    unfold gpopS at hw' ⊢
    split
    · exact fun y r _ => r
    · rename_i hb
      rw [if_neg hb] at hw'
      refine rch_AL hw' (fun ht => ?_) fun ht => ?_
      · unfold popA
        split
        · exact fun z => okA ht
        · split
          · exact fun z => okA ht
          · rename_i hne
            intro z hz
            rcases mem_set hz with q | rfl
            · exact okA ht q
            · refine okL ht ?_
              rw [List.getLastD_eq_getLast?, List.getLast?_eq_some_getLast hne]
              exact List.getLast_mem hne
      · unfold popL
        split
        · exact fun z => okL ht
        · exact fun z hz => okL ht ((List.dropLast_sublist _).subset hz)
  · exact fun y r _ => r
/-- What is loaded is none, or was reached. -/
theorem ok_loaded (hw : Wf s M) (x : Ac) (hd : x.d = 1 ∨ x.d = 5) (he : doE s x = 0) : Ok s (doV s x) := by
  rcases hd with h | h
  · have e1 : doE s x = loadE s x.t x.a x.b x.c := by simp [doE, h]
    have e2 : doV s x = val (loadE s x.t x.a x.b x.c) ((onR s x.t x.b).getD x.c.toNat 0) := by simp only [doV, h]; rfl
    rw [e1] at he
    rw [e2, he]
    exact ok_load hw he
  · have e1 : doE s x = getE s x.t x.a x.b := by simp [doE, h]
    have e2 : doV s x = val (getE s x.t x.a x.b) ((s.R 0).getD x.b.toNat 0) := by simp only [doV, h]; rfl
    rw [e1] at he
    rw [e2, he]
    exact ok_get (t := 0) (d := 0)
theorem v_made (x : Ac) (hd : x.d = 0) (he : doE s x = 0) : doV s x = (s.m : Int) + 1 := by
  have e1 : doE s x = allocE s x.t x.a x.b x.c := by simp [doE, hd]
  have e2 : doV s x = val (allocE s x.t x.a x.b x.c) ((s.m : Int) + 1) := by simp [doV, hd]
  rw [e1] at he
  rw [e2, he]; rfl

/-! ### which are gone -/
def Gq (s : Gs) (f : Nat → Bool) : Prop := ∀ n : Nat, f n = true → 1 ≤ n ∧ n ≤ s.m ∧ ¬ Rch s n
theorem Gq.act {f : Nat → Bool} (h : Gq s f) (hw : Wf s M) (x : Ac) : Gq (doS s x) f := fun n hn => by
  obtain ⟨a, b, c⟩ := h n hn
  have := do_m s x
  exact ⟨a, by split at this <;> omega, fun r => c (rch_do hw x n r (by omega))⟩
theorem Gq.off {f : Nat → Bool} (h : Gq s f) {n : Nat} (hn : Ok s n) : f n = false := by
  cases e : f n
  · rfl
  · obtain ⟨a, b, c⟩ := h n e
    rcases hn with h0 | hr
    · omega
    · exact absurd hr c
theorem Gq.put {f : Nat → Bool} (h : Gq s f) {n : Nat} (h1 : 1 ≤ n) (hn : n ≤ s.m) {b : Bool} (hb : b = true → ¬ Rch s n) : Gq s (up f n b) := fun k hk => by
  by_cases e : k = n
  · subst e
    rw [up_same] at hk
    exact ⟨h1, hn, hb hk⟩
  · rw [up_other _ _ e] at hk
    exact h k hk
end

/-! ### a map of numbers to truths -/
def Mg (w : World) (B m : Nat) (f : Nat → Bool) : Prop :=
  ∃ D : DataW Unit, w.ownsMap Try.prog 3 (plainElem Try.prog 4) B m D ∧ ∀ n : Nat, n ≤ 100000 → D.atKey (.int .i64 n) (.lit (.bool false)) = .lit (.bool (f n))
section
variable {w w' : World} {B m : Nat} {f : Nat → Bool}
theorem Mg.at (h : Mg w B m f) {n : Nat} (hb : n ≤ 100000) : (Instr.lookup 37 (.map (some B)) (.int .i64 n) false).run Try.prog w = .ok (.bool (f n)) w := by
  obtain ⟨D, ho, h5⟩ := h
  obtain ⟨v, ps, hrun, hv⟩ := ho.lookup kint Try.underlying37 (zero_bool w) (plainElem_bool (H := Unit) Try.underlying4 false) (keyOf_int_mk Try.underlying3 (wf_nat hb))
  rw [h5 n hb] at hv
  obtain ⟨x, hx, e⟩ := plainElem_bool_inv Try.underlying4 hv
  have e1 : f n = x := by
    have := congrArg Prod.fst e
    simpa using this
  rw [hrun, hx, e1]
theorem Mg.made (w : World) : Mg (w.alloc (.map #[] 0)) w.heap.size 0 (fun _ => false) :=
  ⟨_, World.ownsMap_made w Try.prog 3 (plainElem Try.prog 4), fun n a => rfl⟩
theorem Mg.keep {S : List Nat} (h : Mg w B m f) (k : Kp S w w') (hB : B ∉ S) : Mg w' B m f := by
  obtain ⟨D, ⟨es, clock, hb, r⟩, h2⟩ := h
  exact ⟨D, ⟨es, clock, k.row hB hb, r⟩, h2⟩
theorem Mg.lt (h : Mg w B m f) : B < w.heap.size := by
  obtain ⟨D, ⟨es, clock, hb, r⟩, h2⟩ := h
  exact lt_of_block hb
theorem Mg.ne {b : Nat} {cs : Array Value} {t : TypeId} {fr : Nat × Nat} (h : Mg w B m f) (hb : w.heap[b]? = some (.cells cs t fr)) : B ≠ b := by
  obtain ⟨D, ⟨es, clock, hm, _⟩, _⟩ := h
  intro e; subst e
  have := hm.symm.trans hb
  simp at this
theorem Mg.put (h : Mg w B m f) {n : Nat} (hb : n ≤ 100000) (hm : m ≤ 100000) (b : Bool) :
    ∃ w', (Instr.mapUpdate 37 (.map (some B)) (.int .i64 n) (.bool b)).run Try.prog w = .ok () w' ∧ Mg w' B (m + 1) (up f n b) ∧ Kp [B] w w' := by
  obtain ⟨D, ho, h5⟩ := h
  obtain ⟨w', hrun, ho', hg⟩ := ho.update kint Try.underlying37 (by unfold maxLen; omega) (keyOf_int_mk Try.underlying3 (wf_nat hb)) (plainElem_bool (H := Unit) Try.underlying4 b)
  have hkl : WideAt.IsKeyLit (.int .i64 (n : Int)) := trivial
  refine ⟨w', hrun, ⟨_, ho', fun k b => ?_⟩, (Kp.refl [B] w).grown hg (fun j hj => by cases hj; simp)⟩
  by_cases e : k = n
  · subst e
    rw [up_same]
    exact atKey_put_same ho.isMap hkl _ _
  · rw [up_other _ _ e, atKey_put_other (by intro q; injection q with _ q; omega)]
    exact h5 k b
theorem Rw.keep_mg {w0 : World} {v : Value} {xs : List Int} (h : Rw w0 v xs w) (k : Kp [B] w w') (hB : Mg w B m f) : Rw w0 v xs w' := by
  refine ⟨h.own.1, ?_⟩
  rcases h.own.2 with h0 | ⟨g, c, cur, rfl, hge, hg, r⟩
  · exact .inl h0
  · exact .inr ⟨g, c, cur, rfl, hge, k.row (by simpa using (hB.ne hg).symm) hg, r⟩
end

/-- A graph of the call's own, and the map of what is gone. -/
def Gn (w : World) (p : Nat) (s : Gs) (B m : Nat) (f : Nat → Bool) (w' : World) : Prop := ∃ F, Gx F w' p s ∧ (∀ b, F b → w.heap.size ≤ b) ∧ ¬ F B ∧ w.heap.size ≤ B ∧ Mg w' B m f ∧ Kp [] w w'
section
variable {w w' w2 : World} {p : Nat} {s s2 : Gs} {B m : Nat} {f : Nat → Bool}
theorem Gn.kp (h : Gn w p s B m f w') : Kp [] w w' := by
  obtain ⟨F, _, _, _, _, _, hk⟩ := h
  exact hk
theorem Gn.mg (h : Gn w p s B m f w') : Mg w' B m f := by
  obtain ⟨F, _, _, _, _, hm, _⟩ := h
  exact hm
theorem Gn.on (h : Gn w p s B m f w') (k : Kp [] w' w2) : Gn w p s B m f w2 := by
  obtain ⟨F, hx, hF, hB, hge, hm, hk⟩ := h
  exact ⟨F, hx.on k, hF, hB, hge, hm.keep k (by simp), hk.trans k⟩
theorem Gn.start (h : OwnG w p s w') : Gn w p s w'.heap.size 0 (fun _ => false) (w'.alloc (.map #[] 0)) := by
  obtain ⟨F, hx, hF, hk⟩ := h
  have ka : Kp [] w' (w'.alloc (.map #[] 0)) := (Kp.refl _ _).alloc _
  obtain ⟨y, hy, hf⟩ := hx
  exact ⟨Foot p s y, ⟨y, hy.keep0 ka, fun b hb => hb⟩, fun b hb => hF b (hf b hb), fun hb => by have := hy.lt hb; omega, hk.size, Mg.made w', hk.trans ka⟩
theorem Gn.act {r : Value} {g : FuncId} {args : Array Value} (h : Gn w p s B m f w') (hc : ∀ F, Gx F w' p s → Calls Try.prog g args w' (Ended F w' p r s2)) :
    Calls Try.prog g args w' fun e w2 => e = .returned r ∧ Gn w p s2 B m f w2 := by
  obtain ⟨F, hx, hF, hB, hge, hm, hk⟩ := h
  refine (hc F hx).mono fun e w2 h => ?_
  obtain ⟨he, F2, hx2, hF2, hk2⟩ := OwnG.turn hF hk h
  obtain ⟨_, hx3, hfr⟩ := h
  refine ⟨he, nw F w' w2, hx3, fun b hb => ?_, fun hb => ?_, hge, ?_, hk2⟩
  · rcases hb with hb | ⟨hb, _⟩
    · exact hF b hb
    · exact Nat.le_trans hk.size hb
  · rcases hb with hb | ⟨hb, _⟩
    · exact hB hb
    · have := hm.lt; omega
  · obtain ⟨D, ⟨es, clock, hb, r⟩, h2⟩ := hm
    exact ⟨D, ⟨es, clock, (hfr.block B (lt_of_block hb) hB).trans hb, r⟩, h2⟩
theorem Gn.put (h : Gn w p s B m f w') {n : Nat} (hb : n ≤ 100000) (hm : m ≤ 100000) (b : Bool) :
    ∃ w2, (Instr.mapUpdate 37 (.map (some B)) (.int .i64 n) (.bool b)).run Try.prog w' = .ok () w2 ∧ Gn w p s B (m + 1) (up f n b) w2 ∧ Kp [B] w' w2 := by
  obtain ⟨F, ⟨y, hy, hf⟩, hF, hB, hge, hmg, hk⟩ := h
  obtain ⟨w2, hrun, h2, k2⟩ := hmg.put hb hm b
  refine ⟨w2, hrun, ⟨F, ⟨y, hy.keep k2 (fun x hx hft => ?_), hf⟩, hF, hB, hge, h2, (kp_then hk k2).mono fun x hx hlt => ?_⟩, k2⟩
  · rw [List.mem_singleton] at hx
    subst hx
    exact hB (hf _ hft)
  · rw [List.mem_singleton] at hx
    omega
theorem Gn.ne {B' m' : Nat} {f' : Nat → Bool} (h : Gn w p s B m f w') (hB : w'.heap.size ≤ B') : B' ≠ B := by
  have := h.mg.lt
  omega
end

end Go.Proofs.Ytmbhhadghiojeaa
