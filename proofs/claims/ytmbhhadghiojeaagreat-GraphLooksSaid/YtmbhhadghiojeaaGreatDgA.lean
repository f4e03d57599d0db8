/- The document's own graph: Alloc. Conditions: as each theorem states them. -/
import Derived.Test.YtmbhhadghiojeaaGreatDg6
import Derived.Deep.AppendLies
import Derived.IntWalk
import Derived.Deep.RegionLaw
namespace Go.Proofs.YtmbhhadghiojeaaGreat
set_option linter.unusedVariables false
set_option linter.unusedSimpArgs false
open Go.RowKit

theorem alloc3 (w : World) (a b c : Obj) : (((w.alloc a).alloc b).alloc c).heap[w.heap.size]? = some a ∧ (((w.alloc a).alloc b).alloc c).heap[w.heap.size + 1]? = some b ∧ (((w.alloc a).alloc b).alloc c).heap[w.heap.size + 1 + 1]? = some c := by
  have h1 := heap_alloc_new w a
  have h2 := heap_alloc_new (w.alloc a) b
  have h3 := heap_alloc_new ((w.alloc a).alloc b) c
  rw [World.size_alloc] at h2
  rw [World.size_alloc, World.size_alloc] at h3
  have k2 : Kp [] (w.alloc a) ((w.alloc a).alloc b) := (Kp.refl _ _).alloc _
  have k3 : Kp [] ((w.alloc a).alloc b) (((w.alloc a).alloc b).alloc c) := (Kp.refl _ _).alloc _
  exact ⟨k3.row (by simp) (k2.row (by simp) h1), k3.row (by simp) h2, h3⟩
theorem kp3 (w : World) (a b c : Obj) : Kp [] w (((w.drew.alloc a).alloc b).alloc c) := (((((Kp.refl [] w).drew).alloc a).alloc b).alloc c)
theorem obj_info : (Tryz.prog.info? 81).map (fun i => (i.zero, i.size, i.bytes)) = some (some (.agg #[.slice none 0 0, .slice none 0 0]), 2, 48) := by kernel_rfl
theorem grown_kp {wA w6 : World} {v : Value} (h : wA.grownBy w6 v.ownBlock) : Kp (blk v) wA w6 := (Kp.refl _ _).grown h fun k hk => .inl (by
  cases v <;> simp [Value.ownBlock] at hk
  rename_i ao n c
  cases ao <;> simp at hk
  subst hk
  exact List.mem_singleton.2 rfl)

section
variable {F : Nat → Prop} {w : World} {q : Nat} {s : Gs} {y : Dl} {M : Nat}
theorem al_made (hy : Dy w q s y) (hf : ∀ b, Feet q s y b → F b) {rn fn : Nat} {z : Int} (hfn : z - (rn : Int) = fn) {oo : Option Addr} {oc : Nat} (ho : y.o = .slice oo s.m oc) {wX w6 : World} (kX : Kp [] w wX) {g1 g2 : Nat}
    (h1 : wX.heap[g1]? = some (.cells (ints (List.replicate rn 0)).toArray 3 (0, 0))) (h2 : wX.heap[g2]? = some (.cells (u64s (List.replicate fn 0)) 31 (0, 0))) (ge1 : w.heap.size ≤ g1) (ge2 : w.heap.size ≤ g2) {g6 cap6 : Nat}
    (hown : w6.ownsRow 0 81 2 (.slice (some ⟨g6, 0, none⟩) (s.m + 1) cap6) (s.m + 1) (prs (fun k => refsV y s (k + 1)) (fun k => dataV y s (k + 1)) s.m ++ [.slice (some ⟨g1, 0, none⟩) rn rn, .slice (some ⟨g2, 0, none⟩) fn fn]))
    (hgr : wX.grownBy w6 (Value.slice oo s.m oc).ownBlock) (hg6 : (Value.slice oo s.m oc).ownBlock = some g6 ∨ w.heap.size ≤ g6) : Left F w q (newO s rn z) (w6.setCell ⟨q, 2, none⟩ (.slice (some ⟨g6, 0, none⟩) (s.m + 1) cap6)) := by
  refine Dy.made hy hf kX (ro_ints h1) (ro_u64s h2) ge1 ge2 hown (by rw [ho]; exact grown_kp hgr) ?_ _ _ (by simp) (by rw [hfn]; simp)
  rcases hg6 with h | h
  · left
    rw [ho]
    cases oo <;> simp [Value.ownBlock] at h
    rw [← h]
    exact List.mem_singleton.2 rfl
  · exact .inr h
/-- Behind the store: the slot is set, and how many there are is read. -/
theorem al_set {w7 : World} (hw : Wf s M) {rn tn dn : Nat} {z : Int} (h1 : (rn : Int) ≤ z) (h2 : z ≤ 95) (ht : tn < s.nt) (hd : dn < (s.A tn).length) (L1 : Left F w q (newO s rn z) w7) :
    Calls Tryz.prog 77 #[.pointer (some ⟨q, 0, none⟩), .int .i64 tn, .int .i64 dn, .int .i64 ((s.m : Int) + 1)] w7 fun e w' => e = .returned (.tuple #[]) ∧ (∃ ao c, w'.cell? ⟨q, 2, none⟩ = some (.slice ao (s.m + 1) c)) ∧ Left F w q (setS (newO s rn z) tn dn ((s.m : Int) + 1)) w' := by
  obtain ⟨y7, hy7, hf7⟩ := L1.1
  refine (dset_any hy7 (wf_newO hw (by omega) h1 h2) (t := tn) ht dn ((s.m : Int) + 1)).mono ?_
  rintro e w8 ⟨rfl, st⟩
  have L2 := left_set hy7 hf7 (t := tn) (d := dn) ht hd (by omega) st
  have L := L1.trans L2
  obtain ⟨y8, hy8, _⟩ := L.1
  obtain ⟨ao, c, ho⟩ := hy8.ho.form
  have c2 := hy8.c2
  rw [ho] at c2
  exact ⟨rfl, ⟨ao, c, c2⟩, L⟩
set_option maxRecDepth 100000 in
theorem d_Alloc_no (hx : Dx F w q s) (hw : Wf s M) (t d r z : Int) (hE : allocE s t d r z ≠ 0) : Calls Tryz.prog 33 #[.pointer (some ⟨q, 0, none⟩), .int .i64 t, .int .i64 d, .int .i64 r, .int .i64 z] w fun e w' => e = .returned (.tuple #[.int .i64 0, .int .i64 2]) ∧ Left F w q s w' := by
  obtain ⟨y, hy, hf⟩ := hx
  have h1 := dslot_any hy hw t d
  have HL := Lib.hid (left_same hy hf)
  cases hb : bK s t d
  · rw [clearE_f hb] at h1
    have ho : r < 0 ∨ z < r ∨ 95 < z := by
      unfold allocE at hE
      rw [hb, if_neg (by simp)] at hE
      by_cases h : (decide (r < 0) || decide (z < r) || decide (95 < z)) = true
      · simpa [or_assoc] using h
      · rw [if_neg h] at hE; exact absurd rfl hE
    generalize slotV s t d = x at h1
    clear hy hw hb hf hE
    by_cases r0 : r < 0
    · clear ho
      go_enter Tryz.func33, Tryz.ntmps33
      go_wp2_with fail
      refine h1.mono ?_
      rintro e w1 ⟨rfl, rfl⟩
      go_wp2_with fail
      go_ret2
      exact ⟨rfl, HL.out⟩
    · by_cases r1 : z < r
      · clear ho
        go_enter Tryz.func33, Tryz.ntmps33
        go_wp2_with fail
        refine h1.mono ?_
        rintro e w1 ⟨rfl, rfl⟩
        go_wp2_with fail
        go_ret2
        exact ⟨rfl, HL.out⟩
      · have r2 : 95 < z := by omega
        clear ho
        go_enter Tryz.func33, Tryz.ntmps33
        go_wp2_with fail
        refine h1.mono ?_
        rintro e w1 ⟨rfl, rfl⟩
        go_wp2_with fail
        go_ret2
        exact ⟨rfl, HL.out⟩
  · rw [clearE_t hb] at h1
    generalize slotV s t d = x at h1
    clear hy hw hb hf hE
    go_enter Tryz.func33, Tryz.ntmps33
    go_wp2_with fail
    refine h1.mono ?_
    rintro e w1 ⟨rfl, rfl⟩
    go_wp2_with fail
    go_ret2
    exact ⟨rfl, HL.out⟩

set_option maxRecDepth 100000 in
set_option maxHeartbeats 4000000 in
theorem d_Alloc_ok (hx : Dx F w q s) (hw : Wf s M) (hM : M ≤ 10000) (t d r z : Int) (hE : allocE s t d r z = 0) : Calls Tryz.prog 33 #[.pointer (some ⟨q, 0, none⟩), .int .i64 t, .int .i64 d, .int .i64 r, .int .i64 z] w fun e w' => e = .returned (.tuple #[.int .i64 ((s.m : Int) + 1), .int .i64 0]) ∧ Left F w q (setS (newO s r z) t d ((s.m : Int) + 1)) w' := by
  obtain ⟨y, hy, hf⟩ := hx
  have h1 := dslot_any hy hw t d
  have hb : bK s t d = false := by
    unfold allocE at hE
    exact Bool.eq_false_iff.2 fun h => by rw [if_pos h] at hE; cases hE
  rw [clearE_f hb] at h1
  obtain ⟨r0, r1, r2⟩ := allocE_z hE
  obtain ⟨rn, rfl⟩ : ∃ n : Nat, r = n := ⟨r.toNat, by omega⟩
  obtain ⟨fn, hfn⟩ : ∃ n : Nat, z - rn = n := ⟨(z - rn).toNat, by omega⟩
  have hr95 : rn ≤ 95 := by omega
  have hf95 : fn ≤ 95 := by omega
  have hmk1 := make_ints rn (by omega)
  have hmk2 : ∀ w : World, (Instr.makeSlice 73 (.int .i64 (z - (rn : Int))) (.int .i64 (z - (rn : Int)))).run Tryz.prog w = .ok (.slice (some ⟨w.heap.size, 0, none⟩) fn fn) (w.alloc (.cells (u64s (List.replicate fn 0)) 31)) := by
    rw [hfn]; exact make_u64s fn (by omega)
  have hm := hw.m
  have c2 := hy.c2
  obtain ⟨oo, oc, ho⟩ := hy.ho.form
  rw [ho] at c2
  have HO : Hid (∀ w', Kp [] w w' → w'.ownsRow 0 81 2 (.slice oo s.m oc) s.m (prs (fun k => refsV y s (k + 1)) (fun k => dataV y s (k + 1)) s.m)) := Lib.hid fun w' k => by
    have := hy.ho.keep k (by simp)
    rw [ho] at this
    exact this
  have HQ : Hid (∀ wA w6, Kp [] w wA → wA.grownBy w6 (Value.slice oo s.m oc).ownBlock → ∃ cs, w6.heap[q]? = some (.cells cs 62 (0, 0)) ∧ cs[2]? = some (.slice oo s.m oc)) := Lib.hid fun wA w6 k hg => by
    have hyA := hy.keep0 k
    refine ⟨_, (grown_kp hg).row (fun e => ?_) hyA.hp, by rw [ho]; rfl⟩
    have hpr := hyA.ho
    rw [ho] at hpr
    obtain ⟨cur, hc⟩ := hpr.block q e
    exact ne_types hc hyA.hp (by decide) rfl
  obtain ⟨tn, dn, rfl, rfl, ht, hd⟩ := bK_no hb
  have HB := Lib.hid (And.intro ht (And.intro hd ho))
  have HF := Lib.hid (And.intro hy (And.intro hw hf))
  have HR := Lib.hid hfn
  clear hfn
  obtain ⟨iO, hiO, hz0, hz1, hz2⟩ := info_parts obj_info
  generalize hxs : prs (fun k => refsV y s (k + 1)) (fun k => dataV y s (k + 1)) s.m = XS at HO
  have HXS := Lib.hid hxs
  obtain ⟨m, hmm⟩ : ∃ m, s.m = m := ⟨_, rfl⟩
  have HM := Lib.hid hmm
  rw [hmm] at hm c2 HO HQ ⊢
  generalize slotV s (tn : Int) (dn : Int) = x at h1
  clear hy hw hf hb hE ho hxs hmm ht hd
  go_enter Tryz.func33, Tryz.ntmps33
  go_wp2_with fail
  refine h1.mono ?_
  rintro e w1 ⟨rfl, rfl⟩
  clear h1
  go_wp2_with fail
  have ka1 : Kp [] w (w.alloc (.cells (ints (List.replicate rn 0)).toArray 3)) := (Kp.refl _ _).alloc _
  have ka2 : Kp [] w (w.alloc (.cells (u64s (List.replicate fn 0)) 31)) := (Kp.refl _ _).alloc _
  have d1 := ka1.cell (by simp) c2
  have d2 := ka2.cell (by simp) c2
  have d3 := (ka1.alloc (.cells (u64s (List.replicate fn 0)) 31)).cell (by simp) c2
  have d4 := (ka2.alloc (.cells (ints (List.replicate rn 0)).toArray 3)).cell (by simp) c2
  have d5 := ((ka1.alloc (.cells (u64s (List.replicate fn 0)) 31)).alloc (.cells #[.slice (some ⟨w.heap.size, 0, none⟩) rn rn, .slice (some ⟨w.heap.size + 1, 0, none⟩) fn fn] 81)).cell (by simp) c2
  have d6 := ((ka2.alloc (.cells (ints (List.replicate rn 0)).toArray 3)).alloc (.cells #[.slice (some ⟨w.heap.size + 1, 0, none⟩) rn rn, .slice (some ⟨w.heap.size, 0, none⟩) fn fn] 81)).cell (by simp) c2
  clear ka1 ka2
  have hwz := IntWalk.i64_in (z - (rn : Int)) (by omega)
  go_region_law (
    refine step_append_lies _ rfl (.tmp 43) (.tmp 51) 60 rfl 0 81 iO (.agg #[.slice none 0 0, .slice none 0 0]) 2 48 Tryz.underlying60 hiO hz0 hz1 hz2 rfl (by decide) (.slice oo m oc) m XS rfl (HO.out _ (kp3 w _ _ _)) _ 1 1 _ rfl rfl (World.news_of_block (alloc3 _ _ _ _).2.2) (by simp [Value.oneCell']) (by decide) (by unfold maxLen; omega) (by omega) (Nat.zero_le _) _ rfl ?_
    intro g6 cap6 w6 hown6 hgr6 hg6 hlt6
    obtain ⟨cs6, hq6, hcs6⟩ := HQ.out _ w6 (kp3 w _ _ _) hgr6
    have e6 : w6.cell? ⟨q, 2, none⟩ = some (.slice oo m oc) := by rw [cell_of_row hq6]; exact hcs6
    have g06 := free_of_row hq6 2
    have H6 := Lib.hid (And.intro hown6 (And.intro hgr6 hg6))
    clear hown6 hgr6 hg6 hq6 hcs6)
  all_goals go_wp2_with fail
  all_goals
    obtain rfl := HM.out
    obtain rfl := HXS.out
    have L1 : Left F w q (newO s rn z) (w6.setCell ⟨q, 2, none⟩ (.slice (some ⟨g6, 0, none⟩) (s.m + 1) cap6)) := by
      first
        | exact al_made HF.out.1 HF.out.2.2 HR.out HB.out.2.2 (kp3 w _ _ _) (alloc3 _ _ _ _).1 (alloc3 _ _ _ _).2.1 (Nat.le_refl _) (Nat.le_succ _) H6.out.1 H6.out.2.1 (H6.out.2.2.imp id fun e => by rw [e]; exact (kp3 w _ _ _).size)
        | exact al_made HF.out.1 HF.out.2.2 HR.out HB.out.2.2 (kp3 w _ _ _) (alloc3 _ _ _ _).2.1 (alloc3 _ _ _ _).1 (Nat.le_succ _) (Nat.le_refl _) H6.out.1 H6.out.2.1 (H6.out.2.2.imp id fun e => by rw [e]; exact (kp3 w _ _ _).size)
    have h3 := al_set HF.out.2.1 r1 r2 HB.out.1 HB.out.2.1 L1
    clear L1
    refine h3.mono ?_
    rintro e w8 ⟨rfl, ⟨ao8, c8, e8⟩, L8⟩
    have HL := Lib.hid L8
    clear L8 h3 H6 HO HQ HF HB
    go_wp2_with fail
    go_ret2
    exact ⟨rfl, HL.out⟩
theorem d_Alloc (hx : Dx F w q s) (hw : Wf s M) (hM : M ≤ 10000) (t d r z : Int) : Calls Tryz.prog 33 #[.pointer (some ⟨q, 0, none⟩), .int .i64 t, .int .i64 d, .int .i64 r, .int .i64 z] w fun e w' => e = .returned (.tuple #[.int .i64 (val (allocE s t d r z) ((s.m : Int) + 1)), .int .i64 (allocE s t d r z)]) ∧ Left F w q (sta (allocE s t d r z) (setS (newO s r z) t d ((s.m : Int) + 1)) s) w' := by
  by_cases hE : allocE s t d r z = 0
  · rw [hE]
    exact d_Alloc_ok hx hw hM t d r z hE
  · have h2 : allocE s t d r z = 2 := by
      unfold allocE at hE ⊢
      split
      · rfl
      · rename_i h
        rw [if_neg h] at hE
        split
        · rfl
        · rename_i h'
          rw [if_neg h'] at hE
          exact absurd rfl hE
    rw [h2]
    exact d_Alloc_no hx hw t d r z hE
end

end Go.Proofs.YtmbhhadghiojeaaGreat
