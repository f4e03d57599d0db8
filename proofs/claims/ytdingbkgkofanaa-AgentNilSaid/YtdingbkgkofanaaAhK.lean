/- The law's wake, as a whole. Written by gen/ah_k.py. Conditions: as each theorem states them. -/
import Derived.Test.YtdingbkgkofanaaAhJ
namespace Go.Proofs.Ytdingbkgkofanaa
set_option linter.unusedVariables false
set_option linter.unusedSimpArgs false
set_option maxRecDepth 100000
open Go.Conc
open Go.ConcN (upd_ne upd_same)

theorem wakes_t1 : ptree (fun g : Int => g) (fun v _ => v) wakesL 0 = .node 1 (fun z => z) (fun u _ => u) (fun u _ => ptree (fun g : Int => g) (fun v _ => v) [(1, 0, 1)] u) (fun g => g) := by simp [ptree, wakesL]
theorem wakes_t2 : ptree (fun g : Int => g) (fun v _ => v) [(1, 0, 1)] 7 = .node 0 (fun _ => IntKind.wrap .u64 (7 + 1)) (fun _ g => g) (fun _ _ => .ret) (fun g => g) := by simp [ptree]
theorem wakesCol_old {n pA rA bq ba bl bp b : Nat} {w w1 : World} (hw : Woken w w1 pA rA bq ba bl bp) (hb : b < w.heap.size) : wakesCol n pA rA bq ba bl bp b = .main := by
  obtain ⟨o1, o2, o3, o4, o5, o6⟩ := hw.new
  unfold wakesCol; rw [if_neg (by omega), if_neg (by omega), if_neg (by omega)]

section
variable {pl : Nat → Option Place} {n h : Nat} {Post : Value → World → Prop} {w : World}

set_option maxHeartbeats 8000000 in
/-- THE WAKE. -/
theorem wakes_goes (hpl : ∀ i, pl i = none) (hn : 0 < n) {c₀ : Frame} {cs : List Frame}
    (H : ∀ pl' n' w', (∀ i, pl' i = none) → 0 < n' → Ks (fun _ => False) w w' → Win Try.prog Post pl' n' 0 (gor (c₀.finish (.bool true)) cs) w') :
    Win Try.prog Post pl n 0 (gor (Frame.enter Try.prog 10 #[] .normal) (c₀ :: cs)) w := by
  refine wakes_in hpl fun pA rA bq ba bl bp w1 hw => ?_
  refine wakes_new hpl hn hw fun a pl2 F2 col2 w2 hj hO2 D2 k2 s2 hp2 st2 sh2 hap => ?_
  obtain ⟨o1, o2, o3, o4, o5, o6⟩ := hw.new
  have hSh : ∀ g, Priv (· = bq) (fun w => wakesSh bq w g) := fun g => priv_row _ _ _ _
  have hb : (Frame.enter Try.prog 10 #[] .normal).kind = .normal := rfl
  have hne : ∀ b, b = pA ∨ b = rA → ¬ (wakesCol n pA rA bq ba bl bp b = .ag n ∨ wakesCol n pA rA bq ba bl bp b = .shared) := fun b hb z => by
    unfold wakesCol at z; rw [if_pos hb] at z; rcases z with z | z <;> cases z
  have a2 : Ar w2 pA rA (Go.Proofs.Ytdingbkgkofanaa.upd (fresh 2) 1 7) := ⟨k2.row (hne _ (.inl rfl)) hw.ar.hp, k2.row (hne _ (.inr rfl)) hw.ar.hr⟩
  have hz1 := hw.ks.size
  have q2 : Ks (fun _ => False) w w2 := hw.ks.then k2 fun b hb z => by rw [wakesCol_old hw hb] at z; rcases z with z | z <;> cases z
  have m2 : ∀ b, b < w.heap.size → col2 b = .main := fun b hb => (s2.co b (by omega)).trans (wakesCol_old hw hb)
  have pn2 : ∀ i, i ≠ a.j → pl2 i = none := fun i hi => (hp2 i (by rw [← hj]; exact hi)).trans (hpl i)
  rw [wakes_t1] at st2
  clear hw k2 s2 hp2 hne
  obtain ⟨t, hSt2, _⟩ := id st2
  unfold wakesAt
  rw [Frame.finish_at]
  simp only [bodyOf, Try.f10, codeL, codeR, regOps, Option.getD_some, wakesTmps]
  simp only [Act.put, Act.eval, List.getElem?_toArray, List.getElem?_cons_zero, List.getElem?_cons_succ, Option.bind_some, List.getElem_toArray, List.getElem_cons_zero, List.getElem_cons_succ, List.setIfInBounds_toArray, List.set_cons_succ, List.set_cons_zero]
  refine Win.pureOp (v := .tuple #[.pointer (some ⟨a.p, 0, none⟩), .int .i64 0]) (.inl hb) rfl rfl (fun w => by rw [Sem.runT_eq]; simp [go_sem, execOp, Act.eval]; try (first | rfl | exact ⟨rfl, rfl⟩ | kernel_rfl)) ?_
  simp only [Act.put, Act.eval, List.getElem_toArray, List.getElem_cons_zero, List.getElem_cons_succ, List.setIfInBounds_toArray, List.set_cons_succ, List.set_cons_zero]
  refine Win.pureOp (v := .pointer (some ⟨a.p, 0, none⟩)) (.inl hb) rfl rfl (fun w => by rw [Sem.runT_eq]; simp [go_sem, execOp, Act.eval]; try (first | rfl | exact ⟨rfl, rfl⟩ | kernel_rfl)) ?_
  simp only [Act.put, Act.eval, List.getElem_toArray, List.getElem_cons_zero, List.getElem_cons_succ, List.setIfInBounds_toArray, List.set_cons_succ, List.set_cons_zero]
  refine Win.pureOp (v := .int .i64 0) (.inl hb) rfl rfl (fun w => by rw [Sem.runT_eq]; simp [go_sem, execOp, Act.eval]; try (first | rfl | exact ⟨rfl, rfl⟩ | kernel_rfl)) ?_
  simp only [Act.put, Act.eval, List.getElem_toArray, List.getElem_cons_zero, List.getElem_cons_succ, List.setIfInBounds_toArray, List.set_cons_succ, List.set_cons_zero]
  refine Win.pureOp (v := .pointer (some ⟨a.p, 0, none⟩)) (.inl hb) rfl rfl (fun w => by rw [Sem.runT_eq]; simp [go_sem, execOp, Act.eval]; try (first | rfl | exact ⟨rfl, rfl⟩ | kernel_rfl)) ?_
  simp only [Act.put, Act.eval, List.getElem_toArray, List.getElem_cons_zero, List.getElem_cons_succ, List.setIfInBounds_toArray, List.set_cons_succ, List.set_cons_zero]
  refine Win.pureOp (v := .int .i64 0) (.inl hb) rfl rfl (fun w => by rw [Sem.runT_eq]; simp [go_sem, execOp, Act.eval]; try (first | rfl | exact ⟨rfl, rfl⟩ | kernel_rfl)) ?_
  simp only [Act.put, Act.eval, List.getElem_toArray, List.getElem_cons_zero, List.getElem_cons_succ, List.setIfInBounds_toArray, List.set_cons_succ, List.set_cons_zero]
  refine Win.opsEnd ?_
  refine Win.seq ?_
  refine Win.seq ?_
  refine Win.region ?_
  simp only [List.size_toArray, List.length_cons, List.length_nil, Nat.reduceAdd, List.range, List.range.loop]
  refine Win.pureOp (v := .int .i64 0) (.inl hb) rfl rfl (fun w => by rw [Sem.runT_eq]; simp [go_sem, execOp, Act.eval]; try (first | rfl | exact ⟨rfl, rfl⟩ | kernel_rfl)) ?_
  simp only [Act.put, Act.eval, List.getElem_toArray, List.getElem_cons_zero, List.getElem_cons_succ, List.setIfInBounds_toArray, List.set_cons_succ, List.set_cons_zero]
  refine Win.pureOp (v := .bool false) (.inl hb) rfl rfl (fun w => by rw [Sem.runT_eq]; simp [go_sem, execOp, Act.eval]; try (first | rfl | exact ⟨rfl, rfl⟩ | kernel_rfl)) ?_
  simp only [Act.put, Act.eval, List.getElem_toArray, List.getElem_cons_zero, List.getElem_cons_succ, List.setIfInBounds_toArray, List.set_cons_succ, List.set_cons_zero]
  refine Win.pureOp (v := .bool false) (.inl hb) rfl rfl (fun w => by rw [Sem.runT_eq]; simp [go_sem, execOp, Act.eval]; try (first | rfl | exact ⟨rfl, rfl⟩ | kernel_rfl)) ?_
  simp only [Act.put, Act.eval, List.getElem_toArray, List.getElem_cons_zero, List.getElem_cons_succ, List.setIfInBounds_toArray, List.set_cons_succ, List.set_cons_zero]
  refine Win.pureOp (v := .pointer (some ⟨a.p, 0, none⟩)) (.inl hb) rfl rfl (fun w => by rw [Sem.runT_eq]; simp [go_sem, execOp, Act.eval]; try (first | rfl | exact ⟨rfl, rfl⟩ | kernel_rfl)) ?_
  simp only [Act.put, Act.eval, List.getElem_toArray, List.getElem_cons_zero, List.getElem_cons_succ, List.setIfInBounds_toArray, List.set_cons_succ, List.set_cons_zero]
  refine Win.pureOp (v := .bool false) (.inl hb) rfl rfl (fun w => by rw [Sem.runT_eq]; simp [go_sem, execOp, Act.eval]; try (first | rfl | exact ⟨rfl, rfl⟩ | kernel_rfl)) ?_
  simp only [Act.put, Act.eval, List.getElem_toArray, List.getElem_cons_zero, List.getElem_cons_succ, List.setIfInBounds_toArray, List.set_cons_succ, List.set_cons_zero]
  refine Win.pureOp (v := .bool false) (.inl hb) rfl rfl (fun w => by rw [Sem.runT_eq]; simp [go_sem, execOp, Act.eval]; try (first | rfl | exact ⟨rfl, rfl⟩ | kernel_rfl)) ?_
  simp only [Act.put, Act.eval, List.getElem_toArray, List.getElem_cons_zero, List.getElem_cons_succ, List.setIfInBounds_toArray, List.set_cons_succ, List.set_cons_zero]
  refine Win.opsEnd ?_
  refine Win.cond (t := false) rfl ?_
  simp only [if_false, Bool.false_eq_true]
  refine Win.skip ?_
  refine Win.seq ?_
  refine Win.region ?_
  simp only [List.size_toArray, List.length_cons, List.length_nil, Nat.reduceAdd, List.range, List.range.loop]
  refine Win.pureOp (v := .pointer (some ⟨a.p, 0, none⟩)) (.inl hb) rfl rfl (fun w => by rw [Sem.runT_eq]; simp [go_sem, execOp, Act.eval]; try (first | rfl | exact ⟨rfl, rfl⟩ | kernel_rfl)) ?_
  simp only [Act.put, Act.eval, List.getElem_toArray, List.getElem_cons_zero, List.getElem_cons_succ, List.setIfInBounds_toArray, List.set_cons_succ, List.set_cons_zero]
  refine Win.enter (f := 17) (args := #[.pointer (some ⟨a.p, 0, none⟩)]) (.inl hb) rfl rfl (fun d => ⟨#[], call_enter mild.toMild Try.func17 rfl rfl rfl rfl _ _ (by simp [Act.eval]), fun e he => by simp at he⟩) ?_
  refine Win.calls mild D2.lies (stok_at rfl rfl (by simp) (by kernel_rfl)) (R := fun e w' => e = .returned (.bool false) ∧ Ks (fun _ => False) (D2.lies.veil.world (fun _ _ => 0) 0 w2) w') (fun τ => (done_at _ a.p false (by rw [veil_cell]; exact cell_of_row hSt2 6)).mono (by rintro e w' ⟨h1, rfl⟩; exact ⟨h1, ks_twin0 (Ks.refl _ _)⟩)) (fun e w' h => ⟨_, h.1⟩) ?_
  intro v' w3 τ Dd hok' hVOK hVK hR
  obtain ⟨h1, h3⟩ := hR
  obtain rfl : v' = .bool false := by simpa using h1
  have k3 := ks_of_twin D2.lies hVOK hVK h3
  have D3 := D2.ks0 (D2.lies.keeps hVK hVOK) k3
  have st3 := st2.keep (pl' := pl2) (F' := F2) (col' := col2) (w' := w3) hO2 D2.lay rfl ⟨fun _ _ => rfl, fun _ _ => rfl⟩ (fun b hb _ => k3.block b hb fun z => z)
  have sh3 : wakesSh bq w3 _ := k3.row (fun z => z) sh2
  have a3 : Ar w3 pA rA _ := ⟨k3.row (fun z => z) a2.hp, k3.row (fun z => z) a2.hr⟩
  have q3 := q2.trans k3
  clear h1 h3 hok' hVOK hVK
  rw [Frame.finish_at]
  simp only [Act.put, Act.eval, List.getElem?_toArray, List.getElem?_cons_zero, List.getElem?_cons_succ, Option.bind_some, List.getElem_toArray, List.getElem_cons_zero, List.getElem_cons_succ, List.setIfInBounds_toArray, List.set_cons_succ, List.set_cons_zero]
  refine Win.pureOp (v := .pointer (some ⟨a.p, 0, none⟩)) (.inl hb) rfl rfl (fun w => by rw [Sem.runT_eq]; simp [go_sem, execOp, Act.eval]; try (first | rfl | exact ⟨rfl, rfl⟩ | kernel_rfl)) ?_
  simp only [Act.put, Act.eval, List.getElem_toArray, List.getElem_cons_zero, List.getElem_cons_succ, List.setIfInBounds_toArray, List.set_cons_succ, List.set_cons_zero]
  refine Win.enter (f := 16) (args := #[.pointer (some ⟨a.p, 0, none⟩)]) (.inl hb) rfl rfl (fun d => ⟨#[], call_enter mild.toMild Try.func16 rfl rfl rfl rfl _ _ (by simp [Act.eval]), fun e he => by simp at he⟩) ?_
  refine step_goes hSh D3 hO2 st3 a3 (by decide) (by decide) (by intro x hx; have hx2 : x = 0 ∨ x = 7 := (by simpa [Go.Proofs.Ytdingbkgkofanaa.upd, fresh, inB] using hx); rcases hx2 with rfl | rfl <;> omega) sh3 fun pl4 F4 col4 w4 D4 k4 s4 p4 st4 a4 sh4 => ?_
  have hO4 := hO2.keep D3.lay s4
  have m4 : ∀ b, b < w.heap.size → col4 b = .main := fun b hb => (s4.co b (Nat.lt_of_lt_of_le hb q3.size)).trans (m2 b hb)
  have q4 : Ks (fun _ => False) w w4 := q3.then k4 fun b hb z => by
    unfold stepped at z
    rw [m2 b hb] at z
    rcases z with z | z | z | z <;> cases z
  have pn4 : ∀ i, i ≠ a.j → pl4 i = none := fun i hi => (p4 i hi).trans (pn2 i hi)
  rw [Frame.finish_at]
  simp only [Act.put, Act.eval, List.getElem?_toArray, List.getElem?_cons_zero, List.getElem?_cons_succ, Option.bind_some, List.getElem_toArray, List.getElem_cons_zero, List.getElem_cons_succ, List.setIfInBounds_toArray, List.set_cons_succ, List.set_cons_zero]
  have w7 : was (Go.Proofs.Ytdingbkgkofanaa.upd (fresh 2) 1 7) 1 = 7 := by decide
  rw [w7] at st4
  rw [wakes_t2] at st4
  refine Win.pureOp (v := .pointer (some ⟨a.p, 0, none⟩)) (.inl hb) rfl rfl (fun w => by rw [Sem.runT_eq]; simp [go_sem, execOp, Act.eval]; try (first | rfl | exact ⟨rfl, rfl⟩ | kernel_rfl)) ?_
  simp only [Act.put, Act.eval, List.getElem_toArray, List.getElem_cons_zero, List.getElem_cons_succ, List.setIfInBounds_toArray, List.set_cons_succ, List.set_cons_zero]
  refine Win.enter (f := 16) (args := #[.pointer (some ⟨a.p, 0, none⟩)]) (.inl hb) rfl rfl (fun d => ⟨#[], call_enter mild.toMild Try.func16 rfl rfl rfl rfl _ _ (by simp [Act.eval]), fun e he => by simp at he⟩) ?_
  refine step_goes hSh D4 hO4 st4 a4 (by decide) (by decide) (by intro x hx; have hx2 : x = 0 ∨ x = 7 := (by simpa [Go.Proofs.Ytdingbkgkofanaa.upd, fresh, inB, was] using hx); rcases hx2 with rfl | rfl <;> omega) sh4 fun pl5 F5 col5 w5 D5 k5 s5 p5 st5 a5 sh5 => ?_
  have hO5 := hO4.keep D4.lay s5
  have m5 : ∀ b, b < w.heap.size → col5 b = .main := fun b hb => (s5.co b (Nat.lt_of_lt_of_le hb q4.size)).trans (m4 b hb)
  have q5 : Ks (fun _ => False) w w5 := q4.then k5 fun b hb z => by
    unfold stepped at z
    rw [m4 b hb] at z
    rcases z with z | z | z | z <;> cases z
  have pn5 : ∀ i, i ≠ a.j → pl5 i = none := fun i hi => (p5 i hi).trans (pn4 i hi)
  rw [Frame.finish_at]
  simp only [Act.put, Act.eval, List.getElem?_toArray, List.getElem?_cons_zero, List.getElem?_cons_succ, Option.bind_some, List.getElem_toArray, List.getElem_cons_zero, List.getElem_cons_succ, List.setIfInBounds_toArray, List.set_cons_succ, List.set_cons_zero]
  obtain ⟨hpj, hSt5⟩ := id st5
  refine Win.pureOp (v := .pointer (some ⟨a.p, 0, none⟩)) (.inl hb) rfl rfl (fun w => by rw [Sem.runT_eq]; simp [go_sem, execOp, Act.eval]; try (first | rfl | exact ⟨rfl, rfl⟩ | kernel_rfl)) ?_
  simp only [Act.put, Act.eval, List.getElem_toArray, List.getElem_cons_zero, List.getElem_cons_succ, List.setIfInBounds_toArray, List.set_cons_succ, List.set_cons_zero]
  refine Win.enter (f := 17) (args := #[.pointer (some ⟨a.p, 0, none⟩)]) (.inl hb) rfl rfl (fun d => ⟨#[], call_enter mild.toMild Try.func17 rfl rfl rfl rfl _ _ (by simp [Act.eval]), fun e he => by simp at he⟩) ?_
  refine Win.calls mild D5.lies (stok_at rfl rfl (by simp) (by kernel_rfl)) (R := fun e w' => e = .returned (.bool true) ∧ Ks (fun _ => False) (D5.lies.veil.world (fun _ _ => 0) 0 w5) w') (fun τ => (done_at _ a.p true (by rw [veil_cell]; exact cell_of_row hSt5 6)).mono (by rintro e w' ⟨h1, rfl⟩; exact ⟨h1, ks_twin0 (Ks.refl _ _)⟩)) (fun e w' h => ⟨_, h.1⟩) ?_
  intro v' w6 τ Dd hok' hVOK hVK hR
  obtain ⟨h1, h3⟩ := hR
  obtain rfl : v' = .bool true := by simpa using h1
  have k6 := ks_of_twin D5.lies hVOK hVK h3
  have D6 := D5.ks0 (D5.lies.keeps hVK hVOK) k6
  have st6 := st5.keep (pl' := pl5) (F' := F5) (col' := col5) (w' := w6) hO5 D5.lay rfl ⟨fun _ _ => rfl, fun _ _ => rfl⟩ (fun b hb _ => k6.block b hb fun z => z)
  have sh6 : wakesSh bq w6 _ := k6.row (fun z => z) sh5
  have a6 : Ar w6 pA rA _ := ⟨k6.row (fun z => z) a5.hp, k6.row (fun z => z) a5.hr⟩
  have q6 := q5.trans k6
  clear h1 h3 hok' hVOK hVK
  rw [Frame.finish_at]
  simp only [Act.put, Act.eval, List.getElem?_toArray, List.getElem?_cons_zero, List.getElem?_cons_succ, Option.bind_some, List.getElem_toArray, List.getElem_cons_zero, List.getElem_cons_succ, List.setIfInBounds_toArray, List.set_cons_succ, List.set_cons_zero]
  obtain ⟨_, hSt6⟩ := id st6
  have pn6 : ∀ i, pl5 i = none := fun i => by
    by_cases e : i = a.j
    · rw [e]; exact hpj
    · exact pn5 i e
  refine Win.pureOp (v := .bool false) (.inl hb) rfl rfl (fun w => by rw [Sem.runT_eq]; simp [go_sem, execOp, Act.eval]; try (first | rfl | exact ⟨rfl, rfl⟩ | kernel_rfl)) ?_
  simp only [Act.put, Act.eval, List.getElem_toArray, List.getElem_cons_zero, List.getElem_cons_succ, List.setIfInBounds_toArray, List.set_cons_succ, List.set_cons_zero]
  refine Win.pureOp (v := .int .i64 0) (.inl hb) rfl rfl (fun w => by rw [Sem.runT_eq]; simp [go_sem, execOp, Act.eval]; try (first | rfl | exact ⟨rfl, rfl⟩ | kernel_rfl)) ?_
  simp only [Act.put, Act.eval, List.getElem_toArray, List.getElem_cons_zero, List.getElem_cons_succ, List.setIfInBounds_toArray, List.set_cons_succ, List.set_cons_zero]
  refine Win.pureOp (v := .int .i64 0) (.inl hb) rfl rfl (fun w => by rw [Sem.runT_eq]; simp [go_sem, execOp, Act.eval]; try (first | rfl | exact ⟨rfl, rfl⟩ | kernel_rfl)) ?_
  simp only [Act.put, Act.eval, List.getElem_toArray, List.getElem_cons_zero, List.getElem_cons_succ, List.setIfInBounds_toArray, List.set_cons_succ, List.set_cons_zero]
  refine Win.pureOp (v := .bool true) (.inl hb) rfl rfl (fun w => by rw [Sem.runT_eq]; simp [go_sem, execOp, Act.eval]; try (first | rfl | exact ⟨rfl, rfl⟩ | kernel_rfl)) ?_
  simp only [Act.put, Act.eval, List.getElem_toArray, List.getElem_cons_zero, List.getElem_cons_succ, List.setIfInBounds_toArray, List.set_cons_succ, List.set_cons_zero]
  refine Win.opsEnd ?_
  refine Win.seq ?_
  refine Win.region ?_
  simp only [List.size_toArray, List.length_cons, List.length_nil, Nat.reduceAdd, List.range, List.range.loop]
  refine Win.pureOp (v := .bool false) (.inl hb) rfl rfl (fun w => by rw [Sem.runT_eq]; simp [go_sem, execOp, Act.eval]; try (first | rfl | exact ⟨rfl, rfl⟩ | kernel_rfl)) ?_
  simp only [Act.put, Act.eval, List.getElem_toArray, List.getElem_cons_zero, List.getElem_cons_succ, List.setIfInBounds_toArray, List.set_cons_succ, List.set_cons_zero]
  refine Win.pureOp (v := .bool true) (.inl hb) rfl rfl (fun w => by rw [Sem.runT_eq]; simp [go_sem, execOp, Act.eval]; try (first | rfl | exact ⟨rfl, rfl⟩ | kernel_rfl)) ?_
  simp only [Act.put, Act.eval, List.getElem_toArray, List.getElem_cons_zero, List.getElem_cons_succ, List.setIfInBounds_toArray, List.set_cons_succ, List.set_cons_zero]
  refine Win.pureOp (v := .bool true) (.inl hb) rfl rfl (fun w => by rw [Sem.runT_eq]; simp [go_sem, execOp, Act.eval]; try (first | rfl | exact ⟨rfl, rfl⟩ | kernel_rfl)) ?_
  simp only [Act.put, Act.eval, List.getElem_toArray, List.getElem_cons_zero, List.getElem_cons_succ, List.setIfInBounds_toArray, List.set_cons_succ, List.set_cons_zero]
  refine Win.pureOp (v := .int .i64 0) (.inl hb) rfl rfl (fun w => by rw [Sem.runT_eq]; simp [go_sem, execOp, Act.eval]; try (first | rfl | exact ⟨rfl, rfl⟩ | kernel_rfl)) ?_
  simp only [Act.put, Act.eval, List.getElem_toArray, List.getElem_cons_zero, List.getElem_cons_succ, List.setIfInBounds_toArray, List.set_cons_succ, List.set_cons_zero]
  refine Win.pureOp (v := .bool true) (.inl hb) rfl rfl (fun w => by rw [Sem.runT_eq]; simp [go_sem, execOp, Act.eval]; try (first | rfl | exact ⟨rfl, rfl⟩ | kernel_rfl)) ?_
  simp only [Act.put, Act.eval, List.getElem_toArray, List.getElem_cons_zero, List.getElem_cons_succ, List.setIfInBounds_toArray, List.set_cons_succ, List.set_cons_zero]
  refine Win.pureOp (v := .bool true) (.inl hb) rfl rfl (fun w => by rw [Sem.runT_eq]; simp [go_sem, execOp, Act.eval]; try (first | rfl | exact ⟨rfl, rfl⟩ | kernel_rfl)) ?_
  simp only [Act.put, Act.eval, List.getElem_toArray, List.getElem_cons_zero, List.getElem_cons_succ, List.setIfInBounds_toArray, List.set_cons_succ, List.set_cons_zero]
  refine Win.pureOp (v := .bool true) (.inl hb) rfl rfl (fun w => by rw [Sem.runT_eq]; simp [go_sem, execOp, Act.eval]; try (first | rfl | exact ⟨rfl, rfl⟩ | kernel_rfl)) ?_
  simp only [Act.put, Act.eval, List.getElem_toArray, List.getElem_cons_zero, List.getElem_cons_succ, List.setIfInBounds_toArray, List.set_cons_succ, List.set_cons_zero]
  refine Win.pureOp (v := .int .i64 0) (.inl hb) rfl rfl (fun w => by rw [Sem.runT_eq]; simp [go_sem, execOp, Act.eval]; try (first | rfl | exact ⟨rfl, rfl⟩ | kernel_rfl)) ?_
  simp only [Act.put, Act.eval, List.getElem_toArray, List.getElem_cons_zero, List.getElem_cons_succ, List.setIfInBounds_toArray, List.set_cons_succ, List.set_cons_zero]
  refine Win.pureOp (v := .bool true) (.inl hb) rfl rfl (fun w => by rw [Sem.runT_eq]; simp [go_sem, execOp, Act.eval]; try (first | rfl | exact ⟨rfl, rfl⟩ | kernel_rfl)) ?_
  simp only [Act.put, Act.eval, List.getElem_toArray, List.getElem_cons_zero, List.getElem_cons_succ, List.setIfInBounds_toArray, List.set_cons_succ, List.set_cons_zero]
  refine Win.pureOp (v := .bool true) (.inl hb) rfl rfl (fun w => by rw [Sem.runT_eq]; simp [go_sem, execOp, Act.eval]; try (first | rfl | exact ⟨rfl, rfl⟩ | kernel_rfl)) ?_
  simp only [Act.put, Act.eval, List.getElem_toArray, List.getElem_cons_zero, List.getElem_cons_succ, List.setIfInBounds_toArray, List.set_cons_succ, List.set_cons_zero]
  refine Win.pureOp (v := .bool true) (.inl hb) rfl rfl (fun w => by rw [Sem.runT_eq]; simp [go_sem, execOp, Act.eval]; try (first | rfl | exact ⟨rfl, rfl⟩ | kernel_rfl)) ?_
  simp only [Act.put, Act.eval, List.getElem_toArray, List.getElem_cons_zero, List.getElem_cons_succ, List.setIfInBounds_toArray, List.set_cons_succ, List.set_cons_zero]
  refine Win.pureOp (v := .bool true) (.inl hb) rfl rfl (fun w => by rw [Sem.runT_eq]; simp [go_sem, execOp, Act.eval]; try (first | rfl | exact ⟨rfl, rfl⟩ | kernel_rfl)) ?_
  simp only [Act.put, Act.eval, List.getElem_toArray, List.getElem_cons_zero, List.getElem_cons_succ, List.setIfInBounds_toArray, List.set_cons_succ, List.set_cons_zero]
  refine Win.pureOp (v := .bool true) (.inl hb) rfl rfl (fun w => by rw [Sem.runT_eq]; simp [go_sem, execOp, Act.eval]; try (first | rfl | exact ⟨rfl, rfl⟩ | kernel_rfl)) ?_
  simp only [Act.put, Act.eval, List.getElem_toArray, List.getElem_cons_zero, List.getElem_cons_succ, List.setIfInBounds_toArray, List.set_cons_succ, List.set_cons_zero]
  refine Win.pureOp (v := .bool true) (.inl hb) rfl rfl (fun w => by rw [Sem.runT_eq]; simp [go_sem, execOp, Act.eval]; try (first | rfl | exact ⟨rfl, rfl⟩ | kernel_rfl)) ?_
  simp only [Act.put, Act.eval, List.getElem_toArray, List.getElem_cons_zero, List.getElem_cons_succ, List.setIfInBounds_toArray, List.set_cons_succ, List.set_cons_zero]
  refine Win.pureOp (v := .pointer (some ⟨a.p, 0, none⟩)) (.inl hb) rfl rfl (fun w => by rw [Sem.runT_eq]; simp [go_sem, execOp, Act.eval]; try (first | rfl | exact ⟨rfl, rfl⟩ | kernel_rfl)) ?_
  simp only [Act.put, Act.eval, List.getElem_toArray, List.getElem_cons_zero, List.getElem_cons_succ, List.setIfInBounds_toArray, List.set_cons_succ, List.set_cons_zero]
  refine Win.enter (f := 16) (args := #[.pointer (some ⟨a.p, 0, none⟩)]) (.inl hb) rfl rfl (fun d => ⟨#[], call_enter mild.toMild Try.func16 rfl rfl rfl rfl _ _ (by simp [Act.eval]), fun e he => by simp at he⟩) ?_
  refine Win.calls mild D6.lies (stok_at rfl rfl (by simp) (by kernel_rfl)) (R := fun e w' => e = .returned (.int .i64 6) ∧ Ks (fun _ => False) (D6.lies.veil.world (fun _ _ => 0) 0 w6) w') (fun τ => (step_over _ a.p (by rw [veil_cell]; exact cell_of_row hSt6 6)).mono (by rintro e w' ⟨h1, h2⟩; exact ⟨h1, ks_twin0 h2.ks0⟩)) (fun e w' h => ⟨_, h.1⟩) ?_
  intro v' w7' τ Dd hok' hVOK hVK hR
  obtain ⟨h1, h3⟩ := hR
  obtain rfl : v' = .int .i64 6 := by simpa using h1
  have k7 := ks_of_twin D6.lies hVOK hVK h3
  have q7 := q6.trans k7
  have a7 : Ar w7' pA rA _ := ⟨k7.row (fun z => z) a6.hp, k7.row (fun z => z) a6.hr⟩
  clear h1 h3 hok' hVOK hVK
  rw [Frame.finish_at]
  simp only [Act.put, Act.eval, List.getElem?_toArray, List.getElem?_cons_zero, List.getElem?_cons_succ, Option.bind_some, List.getElem_toArray, List.getElem_cons_zero, List.getElem_cons_succ, List.setIfInBounds_toArray, List.set_cons_succ, List.set_cons_zero]
  refine Win.pureOp (v := .bool true) (.inl hb) rfl rfl (fun w => by rw [Sem.runT_eq]; simp [go_sem, execOp, Act.eval]; try (first | rfl | exact ⟨rfl, rfl⟩ | kernel_rfl)) ?_
  simp only [Act.put, Act.eval, List.getElem_toArray, List.getElem_cons_zero, List.getElem_cons_succ, List.setIfInBounds_toArray, List.set_cons_succ, List.set_cons_zero]
  refine Win.pureOp (v := .bool true) (.inl hb) rfl rfl (fun w => by rw [Sem.runT_eq]; simp [go_sem, execOp, Act.eval]; try (first | rfl | exact ⟨rfl, rfl⟩ | kernel_rfl)) ?_
  simp only [Act.put, Act.eval, List.getElem_toArray, List.getElem_cons_zero, List.getElem_cons_succ, List.setIfInBounds_toArray, List.set_cons_succ, List.set_cons_zero]
  refine Win.pureOp (v := .bool true) (.inl hb) rfl rfl (fun w => by rw [Sem.runT_eq]; simp [go_sem, execOp, Act.eval]; try (first | rfl | exact ⟨rfl, rfl⟩ | kernel_rfl)) ?_
  simp only [Act.put, Act.eval, List.getElem_toArray, List.getElem_cons_zero, List.getElem_cons_succ, List.setIfInBounds_toArray, List.set_cons_succ, List.set_cons_zero]
  refine Win.pureOp (v := .pointer (some ⟨pA, 0, none⟩)) (.inl hb) rfl rfl (fun w => by rw [Sem.runT_eq]; simp [go_sem, execOp, Act.eval]; try (first | rfl | exact ⟨rfl, rfl⟩ | kernel_rfl)) ?_
  simp only [Act.put, Act.eval, List.getElem_toArray, List.getElem_cons_zero, List.getElem_cons_succ, List.setIfInBounds_toArray, List.set_cons_succ, List.set_cons_zero]
  refine Win.enter (f := 24) (args := #[.pointer (some ⟨pA, 0, none⟩), .int .i64 0]) (.inl hb) rfl rfl (fun d => ⟨#[], call_enter mild.toMild Try.func24 rfl rfl rfl rfl _ _ (by simp [Act.eval]), fun e he => by simp at he⟩) ?_
  have L7 := lies_none pn6 w7'
  refine Win.calls mild L7 (stok_at rfl rfl (by simp) (by kernel_rfl)) (R := fun e w' => e = .returned (.int .u64 8) ∧ Ks (fun b => b = pA ∨ b = rA) (L7.veil.world (fun _ _ => 0) 0 w7') w') (fun τ => ?_) (fun e w' h => ⟨_, h.1⟩) ?_
  · have ha : Ar (L7.veil.world τ 0 w7') pA rA _ := ⟨(L7.block rfl).2 a7.hp, (L7.block rfl).2 a7.hr⟩
    refine (read_any _ pA rA _ 0 ha (by decide) (by decide)).mono ?_
    rintro e w' ⟨h1, _, h3⟩
    refine ⟨?_, ks_twin0 ((ks_of_kp h3).mono fun b _ z => by simpa using z)⟩
    rw [h1]
    have h8 : was (Go.Proofs.Ytdingbkgkofanaa.upd (Go.Proofs.Ytdingbkgkofanaa.upd (Go.Proofs.Ytdingbkgkofanaa.upd (fresh 2) 1 7) 1 (was (Go.Proofs.Ytdingbkgkofanaa.upd (fresh 2) 1 7) 1)) 0 (IntKind.wrap .u64 (7 + 1))) 0 = 8 := by decide
    rw [h8]
  intro v' w8 τ Dd hok' hVOK hVK hR
  obtain ⟨h1, h3⟩ := hR
  obtain rfl : v' = .int .u64 8 := by simpa using h1
  have q8 : Ks (fun _ => False) w w8 := q7.then (ks_of_twin L7 hVOK hVK h3) fun b hb z => by rcases z with z | z <;> omega
  clear h1 h3 hok' hVOK hVK
  rw [Frame.finish_at]
  simp only [Act.put, Act.eval, List.getElem?_toArray, List.getElem?_cons_zero, List.getElem?_cons_succ, Option.bind_some, List.getElem_toArray, List.getElem_cons_zero, List.getElem_cons_succ, List.setIfInBounds_toArray, List.set_cons_succ, List.set_cons_zero]
  refine Win.pureOp (v := .bool true) (.inl hb) rfl rfl (fun w => by rw [Sem.runT_eq]; simp [go_sem, execOp, Act.eval]; try (first | rfl | exact ⟨rfl, rfl⟩ | kernel_rfl)) ?_
  simp only [Act.put, Act.eval, List.getElem_toArray, List.getElem_cons_zero, List.getElem_cons_succ, List.setIfInBounds_toArray, List.set_cons_succ, List.set_cons_zero]
  refine Win.pureOp (v := .bool true) (.inl hb) rfl rfl (fun w => by rw [Sem.runT_eq]; simp [go_sem, execOp, Act.eval]; try (first | rfl | exact ⟨rfl, rfl⟩ | kernel_rfl)) ?_
  simp only [Act.put, Act.eval, List.getElem_toArray, List.getElem_cons_zero, List.getElem_cons_succ, List.setIfInBounds_toArray, List.set_cons_succ, List.set_cons_zero]
  refine Win.pureOp (v := .bool true) (.inl hb) rfl rfl (fun w => by rw [Sem.runT_eq]; simp [go_sem, execOp, Act.eval]; try (first | rfl | exact ⟨rfl, rfl⟩ | kernel_rfl)) ?_
  simp only [Act.put, Act.eval, List.getElem_toArray, List.getElem_cons_zero, List.getElem_cons_succ, List.setIfInBounds_toArray, List.set_cons_succ, List.set_cons_zero]
  refine Win.opsEnd ?_
  refine Win.ret ?_
  refine Win.leave (v := .bool true) rfl rfl hb Try.func10 (fun d => ⟨#[], by rw [Sem.runT_eq]; simp [go_sem, results, Try.f10, Frame.at], fun e he => by simp at he⟩) ?_
  exact H pl5 (n + 1) w8 pn6 (by omega) q8
end
end Go.Proofs.Ytdingbkgkofanaa
