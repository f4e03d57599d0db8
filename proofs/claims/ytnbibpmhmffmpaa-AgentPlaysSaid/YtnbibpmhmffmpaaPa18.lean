/- The law's wake: to the agent's birth. Written by gen/ah_i.py. The law's wake. Written by gen/ah_j.py. The law's wake, as a whole. Written by gen/ah_k.py. The law 'AgentNil': its walk. Written by gen/ah_l.py. Conditions: as each theorem states them. -/
import Derived.Test.YtnbibpmhmffmpaaPa15
namespace Go.Proofs.Ytnbibpmhmffmpaa
open List renaming getElem_toArray → gtA, getElem_cons_zero → gtZ, getElem_cons_succ → gtS, setIfInBounds_toArray → siA, set_cons_succ → scS, set_cons_zero → scZ, getElem?_toArray → gqA, getElem?_cons_zero → gqZ, getElem?_cons_succ → gqS
set_option linter.unusedVariables false
set_option linter.unusedSimpArgs false
set_option maxRecDepth 100000
open Go.Conc
open Go.ConcN (upd_ne upd_same)

theorem lies_none {pl : Nat → Option Place} (h : ∀ i, pl i = none) (w : World) : Lies pl (fun _ => none) w :=
  ⟨fun i r z => (by cases z), fun i s c hi => (by rw [h i] at hi; cases hi), fun i s a v hi => (by rw [h i] at hi; cases hi)⟩
theorem Kp.ks0 {w w' : World} (h : Kp [] w w') : Ks (fun _ => False) w w' := (ks_of_kp h).mono fun b _ z => by cases z

/-- What is made ahead of the agent. -/
structure Woken (w w' : World) (pA rA bq ba bl bp : Nat) : Prop where
  ks : Ks (fun _ => False) w w'
  ar : Ar w' pA rA (Go.Proofs.Ytnbibpmhmffmpaa.upd (fresh 2) 1 7)
  rq : w'.heap[bq]? = some (.cells #[.int .u64 0] 40 (0, 0))
  ra : w'.heap[ba]? = some (.cells #[.int .u8 0, .int .i64 1, .int .u64 0, .int .u8 1, .int .i64 0, .int .u64 1] 48 (0, 0))
  rl : w'.heap[bl]? = some (.cells #[.slice (some ⟨ba, 0, none⟩) 2 2] 38 (0, 0))
  rp : w'.heap[bp]? = some (.cells #[.pointer (some ⟨bq, 0, none⟩)] 39 (0, 0))
  new : w.heap.size ≤ rA ∧ rA < pA ∧ pA < bq ∧ bq < ba ∧ ba < bl ∧ bl < bp

/-- What wakes has in its slots while New runs. -/
def wakesTmps (pA bq ba bl bp : Nat) : Array Value := #[.bool false, .pointer (some ⟨pA, 0, none⟩), .int .i64 0, .pointer (some ⟨bq, 0, none⟩), undef, undef, undef, undef, undef, undef, .tuple #[.pointer (some ⟨pA, 0, none⟩), .int .i64 0], .tuple #[.pointer (some ⟨pA, 0, none⟩), .int .i64 0], .pointer (some ⟨pA, 0, none⟩), .int .i64 0, .int .i64 0, .bool false, .bool false, .pointer (some ⟨pA, 0, none⟩), .bool false, .bool false, .pointer (some ⟨pA, 0, none⟩), .tuple #[], undef, .pointer (some ⟨pA, 0, none⟩), memV pA, .agg #[.int .u8 0, .int .i64 1, .int .u64 0], .agg #[.int .u8 1, .int .i64 0, .int .u64 1], .slice (some ⟨ba, 0, none⟩) 2 2, .func (.func 47) #[] #[.pointer (some ⟨bl, 0, none⟩), .pointer (some ⟨bp, 0, none⟩)], undef, undef, undef, undef, undef, undef, undef, undef, undef, undef, undef, undef, undef, undef, undef, undef, undef, undef, undef, undef, undef, undef, undef, undef, undef, undef, undef, undef, undef, undef, undef, undef, undef, undef, undef, undef, undef, undef, undef, undef]
def wakesAt (P : Program) (f : Func) (pA bq ba bl bp : Nat) : Frame :=
  (Frame.enter P 9 #[] .normal).at ⟨wakesTmps pA bq ba bl bp, []⟩ [.inRegion (regOps (codeL (codeR (codeR (codeR (codeR (codeR (bodyOf f)))))))) [6, 7, 8, 9, 10, 11], .code (codeR (codeR (codeR (codeR (codeR (codeR (bodyOf f)))))))]

section
variable {pl : Nat → Option Place} {n h : Nat} {Post : Value → World → Prop} {w : World}

set_option maxHeartbeats 4000000 in
theorem wakes_in (hpl : ∀ i, pl i = none) {c₀ : Frame} {cs : List Frame}
    (H : ∀ (pA rA bq ba bl bp : Nat) w', Woken w w' pA rA bq ba bl bp → Win Try.prog Post pl n h (gor (Frame.enter Try.prog 11 #[memV pA, .func (.func 47) #[] #[.pointer (some ⟨bl, 0, none⟩), .pointer (some ⟨bp, 0, none⟩)]] .normal) (wakesAt Try.prog Try.f9 pA bq ba bl bp :: c₀ :: cs)) w') :
    Win Try.prog Post pl n h (gor (Frame.enter Try.prog 9 #[] .normal) (c₀ :: cs)) w := by
  have hb : (Frame.enter Try.prog 9 #[] .normal).kind = .normal := rfl
  rw [enter_at Try.func9 rfl]
  simp only [Try.ntmps9, List.size_toArray, List.length_cons, List.length_nil, Nat.reduceAdd, Nat.reduceSub, Array.replicate_succ, Array.replicate_zero, List.push_toArray, List.append_toArray, List.nil_append, List.cons_append]
  refine Win.seq ?_
  refine Win.region ?_
  simp only [List.size_toArray, List.length_cons, List.length_nil, Nat.reduceAdd, List.range, List.range.loop]
  refine Win.pureOp (v := .bool false) (.inl hb) rfl rfl (fun w => by rw [Sem.runT_eq]; simp [go_sem, execOp, Act.eval]; try (first | rfl | exact ⟨rfl, rfl⟩ | kernel_rfl)) ?_
  simp only [Act.put, Act.eval, gtA, gtZ, gtS, siA, scS, scZ]
  refine Win.opsEnd ?_
  refine Win.seq ?_
  refine Win.region ?_
  simp only [List.size_toArray, List.length_cons, List.length_nil, Nat.reduceAdd, List.range, List.range.loop]
  refine Win.enter (f := 10) (args := #[.int .i64 2]) (.inl hb) rfl rfl (fun d => ⟨#[], call_enter mild.toMild Try.func10 rfl rfl rfl rfl _ _ (by simp [Act.eval]), fun e he => by simp at he⟩) ?_
  have L0 := lies_none hpl w
  refine Win.calls mild L0 (stok_at rfl rfl (by simp) (by kernel_rfl)) (R := fun e w' => e = .returned (.tuple #[.pointer (some ⟨w.heap.size + 1, 0, none⟩), .int .i64 0]) ∧ Ar w' (w.heap.size + 1) w.heap.size (fresh 2) ∧ Ks (fun _ => False) (L0.veil.world (fun _ _ => 0) 0 w) w') (fun τ => ?_) (fun e w' h => ⟨_, h.1⟩) ?_
  · refine (new_good _ 2 (by omega) (by omega)).mono ?_
    rintro e w' ⟨h1, h2, h3⟩
    rw [veil_size] at h1 h2
    exact ⟨h1, h2, ks_twin0 h3.ks0⟩
  intro v' w1 τ D hok' hVOK hVK hR
  obtain ⟨h1, h2, h3⟩ := hR
  obtain rfl : v' = .tuple #[.pointer (some ⟨w.heap.size + 1, 0, none⟩), .int .i64 0] := by simpa using h1
  have k1 := ks_of_twin L0 hVOK hVK h3
  have a1 : Ar w1 (w.heap.size + 1) w.heap.size (fresh 2) := ⟨(L0.block rfl).1 h2.hp, (L0.block rfl).1 h2.hr⟩
  clear h1 h2 h3 hok' hVOK hVK
  obtain ⟨pA, hpA⟩ : ∃ pA, pA = w.heap.size + 1 := ⟨_, rfl⟩
  obtain ⟨rA, hrA⟩ : ∃ rA, rA = w.heap.size := ⟨_, rfl⟩
  rw [← hpA, ← hrA] at a1
  rw [← hpA]
  rw [Frame.finish_at]
  simp only [Act.put, Act.eval, gqA, gqZ, gqS, Option.bind_some, gtA, gtZ, gtS, siA, scS, scZ]
  refine Win.pureOp (v := .tuple #[.pointer (some ⟨pA, 0, none⟩), .int .i64 0]) (.inl hb) rfl rfl (fun w => by rw [Sem.runT_eq]; simp [go_sem, execOp, Act.eval]; try (first | rfl | exact ⟨rfl, rfl⟩ | kernel_rfl)) ?_
  simp only [Act.put, Act.eval, gtA, gtZ, gtS, siA, scS, scZ]
  refine Win.pureOp (v := .pointer (some ⟨pA, 0, none⟩)) (.inl hb) rfl rfl (fun w => by rw [Sem.runT_eq]; simp [go_sem, execOp, Act.eval]; try (first | rfl | exact ⟨rfl, rfl⟩ | kernel_rfl)) ?_
  simp only [Act.put, Act.eval, gtA, gtZ, gtS, siA, scS, scZ]
  refine Win.pureOp (v := .int .i64 0) (.inl hb) rfl rfl (fun w => by rw [Sem.runT_eq]; simp [go_sem, execOp, Act.eval]; try (first | rfl | exact ⟨rfl, rfl⟩ | kernel_rfl)) ?_
  simp only [Act.put, Act.eval, gtA, gtZ, gtS, siA, scS, scZ]
  refine Win.pureOp (v := .pointer (some ⟨pA, 0, none⟩)) (.inl hb) rfl rfl (fun w => by rw [Sem.runT_eq]; simp [go_sem, execOp, Act.eval]; try (first | rfl | exact ⟨rfl, rfl⟩ | kernel_rfl)) ?_
  simp only [Act.put, Act.eval, gtA, gtZ, gtS, siA, scS, scZ]
  refine Win.pureOp (v := .int .i64 0) (.inl hb) rfl rfl (fun w => by rw [Sem.runT_eq]; simp [go_sem, execOp, Act.eval]; try (first | rfl | exact ⟨rfl, rfl⟩ | kernel_rfl)) ?_
  simp only [Act.put, Act.eval, gtA, gtZ, gtS, siA, scS, scZ]
  refine Win.opsEnd ?_
  refine Win.seq ?_
  refine Win.seq ?_
  refine Win.region ?_
  simp only [List.size_toArray, List.length_cons, List.length_nil, Nat.reduceAdd, List.range, List.range.loop]
  refine Win.pureOp (v := .int .i64 0) (.inl hb) rfl rfl (fun w => by rw [Sem.runT_eq]; simp [go_sem, execOp, Act.eval]; try (first | rfl | exact ⟨rfl, rfl⟩ | kernel_rfl)) ?_
  simp only [Act.put, Act.eval, gtA, gtZ, gtS, siA, scS, scZ]
  refine Win.pureOp (v := .bool false) (.inl hb) rfl rfl (fun w => by rw [Sem.runT_eq]; simp [go_sem, execOp, Act.eval]; try (first | rfl | exact ⟨rfl, rfl⟩ | kernel_rfl)) ?_
  simp only [Act.put, Act.eval, gtA, gtZ, gtS, siA, scS, scZ]
  refine Win.pureOp (v := .bool false) (.inl hb) rfl rfl (fun w => by rw [Sem.runT_eq]; simp [go_sem, execOp, Act.eval]; try (first | rfl | exact ⟨rfl, rfl⟩ | kernel_rfl)) ?_
  simp only [Act.put, Act.eval, gtA, gtZ, gtS, siA, scS, scZ]
  refine Win.pureOp (v := .pointer (some ⟨pA, 0, none⟩)) (.inl hb) rfl rfl (fun w => by rw [Sem.runT_eq]; simp [go_sem, execOp, Act.eval]; try (first | rfl | exact ⟨rfl, rfl⟩ | kernel_rfl)) ?_
  simp only [Act.put, Act.eval, gtA, gtZ, gtS, siA, scS, scZ]
  refine Win.pureOp (v := .bool false) (.inl hb) rfl rfl (fun w => by rw [Sem.runT_eq]; simp [go_sem, execOp, Act.eval]; try (first | rfl | exact ⟨rfl, rfl⟩ | kernel_rfl)) ?_
  simp only [Act.put, Act.eval, gtA, gtZ, gtS, siA, scS, scZ]
  refine Win.pureOp (v := .bool false) (.inl hb) rfl rfl (fun w => by rw [Sem.runT_eq]; simp [go_sem, execOp, Act.eval]; try (first | rfl | exact ⟨rfl, rfl⟩ | kernel_rfl)) ?_
  simp only [Act.put, Act.eval, gtA, gtZ, gtS, siA, scS, scZ]
  refine Win.opsEnd ?_
  refine Win.cond (t := false) rfl ?_
  simp only [if_false, Bool.false_eq_true]
  refine Win.skip ?_
  refine Win.seq ?_
  refine Win.region ?_
  simp only [List.size_toArray, List.length_cons, List.length_nil, Nat.reduceAdd, List.range, List.range.loop]
  refine Win.pureOp (v := .pointer (some ⟨pA, 0, none⟩)) (.inl hb) rfl rfl (fun w => by rw [Sem.runT_eq]; simp [go_sem, execOp, Act.eval]; try (first | rfl | exact ⟨rfl, rfl⟩ | kernel_rfl)) ?_
  simp only [Act.put, Act.eval, gtA, gtZ, gtS, siA, scS, scZ]
  refine Win.enter (f := 22) (args := #[.pointer (some ⟨pA, 0, none⟩), .int .i64 1, .int .u64 7]) (.inl hb) rfl rfl (fun d => ⟨#[], call_enter mild.toMild Try.func22 rfl rfl rfl rfl _ _ (by simp [Act.eval]), fun e he => by simp at he⟩) ?_
  have L1 := lies_none hpl w1
  refine Win.calls mild L1 (stok_at rfl rfl (by simp) (by kernel_rfl)) (R := fun e w' => e = .returned (.tuple #[]) ∧ Ar w' pA rA (Go.Proofs.Ytnbibpmhmffmpaa.upd (fresh 2) 1 7) ∧ Ks (fun b => b = pA ∨ b = rA) (L1.veil.world (fun _ _ => 0) 0 w1) w') (fun τ => ?_) (fun e w' h => ⟨_, h.1⟩) ?_
  · have ha : Ar (L1.veil.world τ 0 w1) pA rA (fresh 2) := ⟨(L1.block rfl).2 a1.hp, (L1.block rfl).2 a1.hr⟩
    refine (write_any _ pA rA _ 1 7 ha (by decide) (by decide)).mono ?_
    rintro e w' ⟨h1, h2, h3⟩
    exact ⟨h1, h2, ks_twin0 ((ks_of_kp h3).mono fun b _ z => by simpa using z)⟩
  intro v' w2 τ D hok' hVOK hVK hR
  obtain ⟨h1, h2, h3⟩ := hR
  obtain rfl : v' = .tuple #[] := by simpa using h1
  have k2 : Ks (fun _ => False) w w2 := k1.then (ks_of_twin L1 hVOK hVK h3) fun b hb z => by rcases z with z | z <;> omega
  have a2 : Ar w2 pA rA (Go.Proofs.Ytnbibpmhmffmpaa.upd (fresh 2) 1 7) := ⟨(L1.block rfl).1 h2.hp, (L1.block rfl).1 h2.hr⟩
  clear h1 h2 h3 hok' hVOK hVK k1 a1 L1
  rw [Frame.finish_at]
  simp only [Act.put, Act.eval, gqA, gqZ, gqS, Option.bind_some, gtA, gtZ, gtS, siA, scS, scZ]
  refine Win.opsEnd ?_
  refine Win.seq ?_
  refine Win.region ?_
  simp only [List.size_toArray, List.length_cons, List.length_nil, Nat.reduceAdd, List.range, List.range.loop]
  have L2 := lies_none hpl w2
  obtain ⟨bq, hbq⟩ : ∃ bq, bq = w2.heap.size := ⟨_, rfl⟩
  have hq0 := alloc_new w2 (.cells #[.int .u64 0] 40)
  have k3 : Ks (fun _ => False) w2 (w2.alloc (.cells #[.int .u64 0] 40)) := ks_alloc _ _ _
  have z3 : (w2.alloc (.cells #[.int .u64 0] 40)).heap.size = w2.heap.size + 1 := Array.size_push _
  refine Win.makeOp (v := .pointer (some ⟨w2.heap.size, 0, none⟩)) (ob := .cells #[.int .u64 0] 40) (es := #[]) L2 (.inl hb) rfl rfl (fun d => by rw [Sem.runT_eq]; simp [go_sem, execOp, Act.eval]; try rfl) (fun e he => by simp at he) ?_
  simp only [Act.put, Act.eval, gtA, gtZ, gtS, siA, scS, scZ]
  rw [← hbq] at hq0 ⊢
  generalize w2.alloc (.cells #[.int .u64 0] 40) = w3 at hq0 k3 z3 ⊢
  refine Win.storeOp (ad := ⟨bq, 0, none⟩) (x := .int .u64 0) (.inl hb) rfl rfl ((lies_none hpl w2).freeNew (by show _ ≤ bq; omega)) (fun d => by
    rw [Sem.runT_eq]
    have c1 : (w3.at d).cell? ⟨bq, 0, none⟩ = some (.int .u64 0) := cell_of_row hq0 0
    have c2 : (w3.at d).frozen? ⟨bq, 0, none⟩ = false := free_of_row hq0 0
    generalize w3.at d = W at c1 c2 ⊢
    obtain ⟨s1, s2⟩ := store_ok (P := Try.prog) (x := .int .u64 0) (w := W) (m := .plain) (by simp) (by simp) c1 c2
    simp [go_sem, execOp, Act.eval, s1, s2, c1, c2]) ?_
  simp only [Act.put, Act.eval, gtA, gtZ, gtS, siA, scS, scZ]
  have hq : (w3.setCell ⟨bq, 0, none⟩ (.int .u64 0)).heap[bq]? = some (.cells #[.int .u64 0] 40 (0, 0)) := by
    have := heap_setCell_same _ bq 0 _ _ (.int .u64 0) hq0
    rw [this]; simp
  have k4 : Ks (fun _ => False) w2 (w3.setCell ⟨bq, 0, none⟩ (.int .u64 0)) := k3.then (ks_setCell w3 ⟨bq, 0, none⟩ _) fun b hb e => by
    have e' : b = bq := e
    omega
  have z4 : (w3.setCell ⟨bq, 0, none⟩ (.int .u64 0)).heap.size = w2.heap.size + 1 := by rw [← z3]; simp [World.setCell]
  generalize w3.setCell ⟨bq, 0, none⟩ (.int .u64 0) = w4 at hq k4 z4 ⊢
  have a4 : Ar w4 pA rA (Go.Proofs.Ytnbibpmhmffmpaa.upd (fresh 2) 1 7) := ⟨k4.row (fun z => z) a2.hp, k4.row (fun z => z) a2.hr⟩
  have kk4 := k2.trans k4
  have hlp := lt_of_block a2.hp
  clear a2 k3 z3 hq0
  refine Win.opsEnd ?_
  refine Win.seq ?_
  refine Win.region ?_
  simp only [List.size_toArray, List.length_cons, List.length_nil, Nat.reduceAdd, List.range, List.range.loop]
  refine Win.pureOp (v := .pointer (some ⟨pA, 0, none⟩)) (.inl hb) rfl rfl (fun w => by rw [Sem.runT_eq]; simp [go_sem, execOp, Act.eval]; try (first | rfl | exact ⟨rfl, rfl⟩ | kernel_rfl)) ?_
  simp only [Act.put, Act.eval, gtA, gtZ, gtS, siA, scS, scZ]
  refine Win.pureOp (v := .iface 26 (.pointer (some ⟨pA, 0, none⟩))) (.inl hb) rfl rfl (fun w => by rw [Sem.runT_eq]; simp [go_sem, execOp, Act.eval]; try (first | rfl | exact ⟨rfl, rfl⟩ | kernel_rfl)) ?_
  simp only [Act.put, Act.eval, gtA, gtZ, gtS, siA, scS, scZ]
  refine Win.pureOp (v := .agg #[.int .u8 0, .int .i64 1, .int .u64 0]) (.inl hb) rfl rfl (fun w => by rw [Sem.runT_eq]; simp [go_sem, execOp, Act.eval]; try (first | rfl | exact ⟨rfl, rfl⟩ | kernel_rfl)) ?_
  simp only [Act.put, Act.eval, gtA, gtZ, gtS, siA, scS, scZ]
  refine Win.pureOp (v := .agg #[.int .u8 1, .int .i64 0, .int .u64 1]) (.inl hb) rfl rfl (fun w => by rw [Sem.runT_eq]; simp [go_sem, execOp, Act.eval]; try (first | rfl | exact ⟨rfl, rfl⟩ | kernel_rfl)) ?_
  simp only [Act.put, Act.eval, gtA, gtZ, gtS, siA, scS, scZ]
  obtain ⟨ba, hba⟩ : ∃ ba, ba = w4.heap.size := ⟨_, rfl⟩
  have ha5 := alloc_new w4 (.cells #[.int .u8 0, .int .i64 1, .int .u64 0, .int .u8 1, .int .i64 0, .int .u64 1] 48)
  have k5 : Ks (fun _ => False) w4 (w4.alloc (.cells #[.int .u8 0, .int .i64 1, .int .u64 0, .int .u8 1, .int .i64 0, .int .u64 1] 48)) := ks_alloc _ _ _
  have z5 : (w4.alloc (.cells #[.int .u8 0, .int .i64 1, .int .u64 0, .int .u8 1, .int .i64 0, .int .u64 1] 48)).heap.size = w4.heap.size + 1 := Array.size_push _
  refine Win.makeOp (v := .slice (some ⟨w4.heap.size, 0, none⟩) 2 2) (ob := .cells #[.int .u8 0, .int .i64 1, .int .u64 0, .int .u8 1, .int .i64 0, .int .u64 1] 48) (es := #[]) (lies_none hpl w4) (.inl hb) rfl rfl (fun d => by rw [Sem.runT_eq]; simp [go_sem, execOp, Act.eval]; try (first | rfl | exact ⟨rfl, rfl⟩ | kernel_rfl)) (fun e he => by simp at he) ?_
  simp only [Act.put, Act.eval, gtA, gtZ, gtS, siA, scS, scZ]
  rw [← hba] at ha5 ⊢
  generalize w4.alloc (.cells #[.int .u8 0, .int .i64 1, .int .u64 0, .int .u8 1, .int .i64 0, .int .u64 1] 48) = w5 at ha5 k5 z5 ⊢
  refine Win.enter (f := 12) (args := #[.slice (some ⟨ba, 0, none⟩) 2 2, .pointer (some ⟨bq, 0, none⟩)]) (.inl hb) rfl rfl (fun d => ⟨#[], call_enter mild.toMild Try.func12 rfl rfl rfl rfl _ _ (by simp [Act.eval]), fun e he => by simp at he⟩) ?_
  have L5 := lies_none hpl w5
  refine Win.calls mild L5 (stok_at rfl rfl (by simp) (by kernel_rfl)) (R := fun e w' => e = .returned (.func (.func 47) #[] #[.pointer (some ⟨w5.heap.size, 0, none⟩), .pointer (some ⟨w5.heap.size + 1, 0, none⟩)]) ∧ w'.heap[w5.heap.size]? = some (.cells #[.slice (some ⟨ba, 0, none⟩) 2 2] 38 (0, 0)) ∧ w'.heap[w5.heap.size + 1]? = some (.cells #[.pointer (some ⟨bq, 0, none⟩)] 39 (0, 0)) ∧ Ks (fun _ => False) (L5.veil.world (fun _ _ => 0) 0 w5) w') (fun τ => ?_) (fun e w' h => ⟨_, h.1⟩) ?_
  · refine (program_makes _ ⟨ba, 0, none⟩ ⟨bq, 0, none⟩ 2 2).mono ?_
    rintro e w' ⟨h1, rfl⟩
    rw [veil_size] at h1
    have q1 := alloc_new (L5.veil.world τ 0 w5) (.cells #[.slice (some ⟨ba, 0, none⟩) 2 2] 38)
    have q2 := alloc_new ((L5.veil.world τ 0 w5).alloc (.cells #[.slice (some ⟨ba, 0, none⟩) 2 2] 38)) (.cells #[.pointer (some ⟨bq, 0, none⟩)] 39)
    have z6 : ((L5.veil.world τ 0 w5).alloc (.cells #[.slice (some ⟨ba, 0, none⟩) 2 2] 38)).heap.size = (L5.veil.world τ 0 w5).heap.size + 1 := Array.size_push _
    rw [z6, veil_size] at q2
    rw [veil_size] at q1 z6
    exact ⟨h1, (alloc_heap _ _ _ (by omega)).trans q1, q2, ks_twin0 ((ks_alloc _ _ _).trans (ks_alloc _ _ _))⟩
  intro v' w6 τ D hok' hVOK hVK hR
  obtain ⟨h1, h2, h2', h3⟩ := hR
  have k6 := ks_of_twin L5 hVOK hVK h3
  have q1 := (L5.block rfl).1 h2
  have q2 := (L5.block rfl).1 h2'
  obtain ⟨bl, hbl⟩ : ∃ bl, bl = w5.heap.size := ⟨_, rfl⟩
  obtain ⟨bp, hbp⟩ : ∃ bp, bp = w5.heap.size + 1 := ⟨_, rfl⟩
  obtain rfl : v' = .func (.func 47) #[] #[.pointer (some ⟨w5.heap.size, 0, none⟩), .pointer (some ⟨w5.heap.size + 1, 0, none⟩)] := by simpa using h1
  rw [← hbl] at q1
  rw [← hbp] at q2
  rw [← hbp, ← hbl]
  clear h1 h2 h2' h3 hok' hVOK hVK
  rw [Frame.finish_at]
  simp only [Act.put, Act.eval, gqA, gqZ, gqS, Option.bind_some, gtA, gtZ, gtS, siA, scS, scZ]
  refine Win.enter (f := 11) (args := #[memV pA, .func (.func 47) #[] #[.pointer (some ⟨bl, 0, none⟩), .pointer (some ⟨bp, 0, none⟩)]]) (.inl hb) rfl rfl (fun d => ⟨#[], call_enter mild.toMild Try.func11 rfl rfl rfl rfl _ _ (by simp [Act.eval]), fun e he => by simp at he⟩) ?_
  have a6 : Ar w6 pA rA (Go.Proofs.Ytnbibpmhmffmpaa.upd (fresh 2) 1 7) := ⟨k6.row (fun z => z) (k5.row (fun z => z) a4.hp), k6.row (fun z => z) (k5.row (fun z => z) a4.hr)⟩
  exact H pA rA bq ba bl bp w6 ⟨(kk4.trans k5).trans k6, a6, k6.row (fun z => z) (k5.row (fun z => z) hq), k6.row (fun z => z) ha5, q1, q2, by omega⟩
end
end Go.Proofs.Ytnbibpmhmffmpaa

namespace Go.Proofs.Ytnbibpmhmffmpaa
open List renaming getElem_toArray → gtA, getElem_cons_zero → gtZ, getElem_cons_succ → gtS, setIfInBounds_toArray → siA, set_cons_succ → scS, set_cons_zero → scZ, getElem?_toArray → gqA, getElem?_cons_zero → gqZ, getElem?_cons_succ → gqS
set_option linter.unusedVariables false
set_option linter.unusedSimpArgs false
set_option maxRecDepth 100000
open Go.Conc
open Go.ConcN (upd_ne upd_same)

theorem Priv.both {o1 o2 : Nat → Prop} {A1 A2 : World → Prop} (h1 : Priv o1 A1) (h2 : Priv o2 A2) : Priv (fun b => o1 b ∨ o2 b) (fun w => A1 w ∧ A2 w) :=
  ⟨fun w w' h he => ⟨h1.st _ _ h.1 fun b hb => he b (.inl hb), h2.st _ _ h.2 fun b hb => he b (.inr hb)⟩, fun w b h hb => hb.elim (h1.np _ _ h.1) (h2.np _ _ h.2), fun w b h hb => hb.elim (h1.lt _ _ h.1) (h2.lt _ _ h.2)⟩
theorem priv_row (b : Nat) (c : Array Value) (t : TypeId) (f : Nat × Nat) : Priv (· = b) (fun w => w.heap[b]? = some (.cells c t f)) :=
  ⟨fun w w' h he => (he b rfl).trans h, fun w x h e => by subst e; exact rich_cells h, fun w x h e => by subst e; exact lt_of_block h⟩

/-- A lone call that turns nothing old. -/
theorem Desk.ks0 {SB : Nat → Prop} {pA rA : Nat} {pl : Nat → Option Place} {F : Nat → Option (Nat × Nat)} {col : Nat → Col} {w w' : World} (D : Desk SB pA rA pl F col w) (hL : Lies pl F w') (k : Ks (fun _ => False) w w') : Desk SB pA rA pl F col w' :=
  ⟨D.pl0, hL, ⟨D.lay.free, fun b hb => D.lay.above b (Nat.le_trans k.size hb), D.lay.sb, D.lay.ar⟩, D.own⟩

def wakesSh (bq : Nat) (w : World) (g : Int) : Prop := w.heap[bq]? = some (.cells #[.int .u64 g] 40 (0, 0))
def wakesCol (n pA rA bq ba bl bp : Nat) (b : Nat) : Col := if b = pA ∨ b = rA then .arena else if b = bq then .shared else if b = ba ∨ b = bl ∨ b = bp then .ag n else .main
def wakesA (bq ba bl bp : Nat) (w : World) : Prop := w.heap[ba]? = some (.cells #[.int .u8 0, .int .i64 1, .int .u64 0, .int .u8 1, .int .i64 0, .int .u64 1] 48 (0, 0)) ∧ w.heap[bl]? = some (.cells #[.slice (some ⟨ba, 0, none⟩) 2 2] 38 (0, 0)) ∧ w.heap[bp]? = some (.cells #[.pointer (some ⟨bq, 0, none⟩)] 39 (0, 0))
/-- The wake's two touches. -/
def wakesL : List (Int × Int × Int) := [(0, 1, 0), (1, 0, 1)]

section
variable {pl : Nat → Option Place} {n h : Nat} {Post : Value → World → Prop} {w : World}

set_option maxHeartbeats 4000000 in
/-- From the birth on. -/
theorem wakes_new (hpl : ∀ i, pl i = none) (hn : 0 < n) {pA rA bq ba bl bp : Nat} {w1 : World} (hw : Woken w w1 pA rA bq ba bl bp) {c₀ : Frame} {cs : List Frame}
    (H : ∀ a pl' F' col' w', a.j = n → AgOK a F' col' → Desk (· = bq) pA rA pl' F' col' w' → Ks (fun b => wakesCol n pA rA bq ba bl bp b = .ag n ∨ wakesCol n pA rA bq ba bl bp b = .shared) w1 w' → Same (fun _ => none) (wakesCol n pA rA bq ba bl bp) w1 F' col' → (∀ i, i ≠ n → pl' i = pl i) →
      Stands Post (wakesSh bq) (· = bq) pA rA a (memV pA) (ptree (fun g : Int => g) (fun v _ => v) wakesL 0) pl' F' col' w' → wakesSh bq w' 0 → w1.heap.size ≤ a.p → Win Try.prog Post pl' (n + 1) 0 (gor (c₀.finish (.tuple #[.pointer (some ⟨a.p, 0, none⟩), .int .i64 0])) cs) w') :
    Win Try.prog Post pl n 0 (gor (Frame.enter Try.prog 11 #[memV pA, .func (.func 47) #[] #[.pointer (some ⟨bl, 0, none⟩), .pointer (some ⟨bp, 0, none⟩)]] .normal) (c₀ :: cs)) w1 := by
  obtain ⟨o1, o2, o3, o4, o5, o6⟩ := hw.new
  have lp := lt_of_block hw.rp
  have hSh : ∀ g, Priv (· = bq) (fun w => wakesSh bq w g) := fun g => priv_row _ _ _ _
  have hP0 : Priv (fun b => b = ba ∨ b = bl ∨ b = bp) (wakesA bq ba bl bp) := (priv_row _ _ _ _).both ((priv_row _ _ _ _).both (priv_row _ _ _ _))
  have D : Desk (· = bq) pA rA pl (fun _ => none) (wakesCol n pA rA bq ba bl bp) w1 := by
    refine ⟨hpl 0, lies_none hpl w1, ⟨fun _ _ => rfl, fun b hb => ?_, fun b hb => ?_, ?_, ?_⟩, fun i s c hi => by rw [hpl i] at hi; cases hi⟩
    · unfold wakesCol; rw [if_neg (by omega), if_neg (by omega), if_neg (by omega)]
    · have e : b = bq := hb
      unfold wakesCol; rw [if_neg (by omega), if_pos e]
    · unfold wakesCol; rw [if_pos (.inl rfl)]
    · unfold wakesCol; rw [if_pos (.inr rfl)]
  refine new_goes (Sh := wakesSh bq) (G := Int) (T := ptree (fun g : Int => g) (fun v _ => v) wakesL 0) (g := 0) (g1 := 0) hSh D hn (hpl n) (fun b e => ?_) Try.func47 rfl hP0 (fun b hb => ?_) ⟨hw.ra, hw.rl, hw.rp⟩ hw.rq ?_ H
  · unfold wakesCol at e
    split at e
    · cases e
    · split at e
      · cases e
      · split at e <;> cases e
  · unfold wakesCol; rw [if_neg (by omega), if_neg (by omega), if_pos hb]
  · intro a home pl' F' col' w' b1 b2 hj hA hB hc1 hc2 hown hA0 hs' K0
    refine prog_runs (oq := 0) (oa := 0) (ba := ba) (cp := 2) (l := wakesL) (lst := fun g : Int => g) (setL := fun v _ => v) (own := fun b => (b = ba ∨ b = bl ∨ b = bp) ∨ (b = b1 ∨ b = b2)) (A := fun w => wakesA bq ba bl bp w ∧ Boxed a b1 b2 w) hSh rfl (hP0.both (priv_boxed a b1 b2)) ?_ ?_ (fun _ _ => rfl) rfl (fun w h => h.2) (by decide) hA (fun b hb => ?_) ⟨hA0, hB⟩ hs' K0
    · intro w g h hs
      obtain ⟨⟨r1, r2, r3⟩, _⟩ := h
      have hs2 : w.heap[bq]? = some (.cells #[.int .u64 g] 40 (0, 0)) := hs
      refine ⟨cell_of_row r2 0, cell_of_row r3 0, cell_of_row hs2 0, free_of_row hs2 0, fun i d k v hget => ?_⟩
      rcases i with _ | _ | i
      · obtain ⟨rfl, rfl, rfl⟩ : (0 : Int) = d ∧ (1 : Int) = k ∧ (0 : Int) = v := by simpa [wakesL] using hget
        exact ⟨cell_of_row r1 0, cell_of_row r1 1, cell_of_row r1 2⟩
      · obtain ⟨rfl, rfl, rfl⟩ : (1 : Int) = d ∧ (0 : Int) = k ∧ (1 : Int) = v := by simpa [wakesL] using hget
        exact ⟨cell_of_row r1 3, cell_of_row r1 4, cell_of_row r1 5⟩
      · simp [wakesL] at hget
    · intro w g v h hs
      obtain ⟨⟨r1, r2, r3⟩, h1, h2⟩ := h
      have hs2 : w.heap[bq]? = some (.cells #[.int .u64 g] 40 (0, 0)) := hs
      have n1 : b1 ≠ bq := fun e => by rw [e, hs2] at h1; simp at h1
      have n2 : b2 ≠ bq := fun e => by rw [e, hs2] at h2; simp at h2
      have kk := ks_setCell w ⟨bq, 0, none⟩ (.int .u64 v)
      have hne : ∀ {b : Nat}, b ≠ bq → ¬ b = (⟨bq, 0, none⟩ : Addr).block := fun h => h
      refine ⟨⟨⟨kk.row (hne (by omega)) r1, kk.row (hne (by omega)) r2, kk.row (hne (by omega)) r3⟩, kk.row (hne n1) h1, kk.row (hne n2) h2⟩, ?_⟩
      have := heap_setCell_same _ bq 0 _ _ (.int .u64 v) hs2
      unfold wakesSh
      rw [this]; simp
    · rw [hj]
      rcases hb with hb | rfl | rfl
      · exact hown b hb
      · exact hc1
      · exact hc2
end
end Go.Proofs.Ytnbibpmhmffmpaa

namespace Go.Proofs.Ytnbibpmhmffmpaa
open List renaming getElem_toArray → gtA, getElem_cons_zero → gtZ, getElem_cons_succ → gtS, setIfInBounds_toArray → siA, set_cons_succ → scS, set_cons_zero → scZ, getElem?_toArray → gqA, getElem?_cons_zero → gqZ, getElem?_cons_succ → gqS
set_option linter.unusedVariables false
set_option linter.unusedSimpArgs false
set_option maxRecDepth 100000
open Go.Conc
open Go.ConcN (upd_ne upd_same)

theorem wakes_t1 : ptree (fun g : Int => g) (fun v _ => v) wakesL 0 = .node 1 (fun z => z) (fun u _ => u) (fun u _ => ptree (fun g : Int => g) (fun v _ => v) [(1, 0, 1)] u) (fun g => g) := by simp [ptree, wakesL]
theorem wakes_t2 : ptree (fun g : Int => g) (fun v _ => v) [(1, 0, 1)] 7 = .node 0 (fun _ => IntKind.wrap .u64 (7 + 1)) (fun _ g => g) (fun _ _ => .ret) (fun g => g) := by simp [ptree]
theorem wakesCol_old {n pA rA bq ba bl bp b : Nat} {w w1 : World} (hw : Woken w w1 pA rA bq ba bl bp) (hb : b < w.heap.size) : wakesCol n pA rA bq ba bl bp b = .main := by
  obtain ⟨o1, o2, o3, o4, o5, o6⟩ := hw.new
  unfold wakesCol; rw [if_neg (by omega), if_neg (by omega), if_neg (by omega)]

section
variable {pl : Nat → Option Place} {n h : Nat} {Post : Value → World → Prop} {w : World}

set_option maxHeartbeats 8000000 in
/-- THE WAKE. -/
theorem wakes_goes (hpl : ∀ i, pl i = none) (hn : 0 < n) {c₀ : Frame} {cs : List Frame}
    (H : ∀ pl' n' w', (∀ i, pl' i = none) → 0 < n' → Ks (fun _ => False) w w' → Win Try.prog Post pl' n' 0 (gor (c₀.finish (.bool true)) cs) w') :
    Win Try.prog Post pl n 0 (gor (Frame.enter Try.prog 9 #[] .normal) (c₀ :: cs)) w := by
  refine wakes_in hpl fun pA rA bq ba bl bp w1 hw => ?_
  refine wakes_new hpl hn hw fun a pl2 F2 col2 w2 hj hO2 D2 k2 s2 hp2 st2 sh2 hap => ?_
  obtain ⟨o1, o2, o3, o4, o5, o6⟩ := hw.new
  have hSh : ∀ g, Priv (· = bq) (fun w => wakesSh bq w g) := fun g => priv_row _ _ _ _
  have hb : (Frame.enter Try.prog 9 #[] .normal).kind = .normal := rfl
  have hne : ∀ b, b = pA ∨ b = rA → ¬ (wakesCol n pA rA bq ba bl bp b = .ag n ∨ wakesCol n pA rA bq ba bl bp b = .shared) := fun b hb z => by
    unfold wakesCol at z; rw [if_pos hb] at z; rcases z with z | z <;> cases z
  have a2 : Ar w2 pA rA (Go.Proofs.Ytnbibpmhmffmpaa.upd (fresh 2) 1 7) := ⟨k2.row (hne _ (.inl rfl)) hw.ar.hp, k2.row (hne _ (.inr rfl)) hw.ar.hr⟩
  have hz1 := hw.ks.size
  have q2 : Ks (fun _ => False) w w2 := hw.ks.then k2 fun b hb z => by rw [wakesCol_old hw hb] at z; rcases z with z | z <;> cases z
  have m2 : ∀ b, b < w.heap.size → col2 b = .main := fun b hb => (s2.co b (by omega)).trans (wakesCol_old hw hb)
  have pn2 : ∀ i, i ≠ a.j → pl2 i = none := fun i hi => (hp2 i (by rw [← hj]; exact hi)).trans (hpl i)
  rw [wakes_t1] at st2
  clear hw k2 s2 hp2 hne
  obtain ⟨t, hSt2, _⟩ := id st2
  unfold wakesAt
  rw [Frame.finish_at]
  simp only [bodyOf, Try.f9, codeL, codeR, regOps, Option.getD_some, wakesTmps]
  simp only [Act.put, Act.eval, gqA, gqZ, gqS, Option.bind_some, gtA, gtZ, gtS, siA, scS, scZ]
  refine Win.pureOp (v := .tuple #[.pointer (some ⟨a.p, 0, none⟩), .int .i64 0]) (.inl hb) rfl rfl (fun w => by rw [Sem.runT_eq]; simp [go_sem, execOp, Act.eval]; try (first | rfl | exact ⟨rfl, rfl⟩ | kernel_rfl)) ?_
  simp only [Act.put, Act.eval, gtA, gtZ, gtS, siA, scS, scZ]
  refine Win.pureOp (v := .pointer (some ⟨a.p, 0, none⟩)) (.inl hb) rfl rfl (fun w => by rw [Sem.runT_eq]; simp [go_sem, execOp, Act.eval]; try (first | rfl | exact ⟨rfl, rfl⟩ | kernel_rfl)) ?_
  simp only [Act.put, Act.eval, gtA, gtZ, gtS, siA, scS, scZ]
  refine Win.pureOp (v := .int .i64 0) (.inl hb) rfl rfl (fun w => by rw [Sem.runT_eq]; simp [go_sem, execOp, Act.eval]; try (first | rfl | exact ⟨rfl, rfl⟩ | kernel_rfl)) ?_
  simp only [Act.put, Act.eval, gtA, gtZ, gtS, siA, scS, scZ]
  refine Win.pureOp (v := .pointer (some ⟨a.p, 0, none⟩)) (.inl hb) rfl rfl (fun w => by rw [Sem.runT_eq]; simp [go_sem, execOp, Act.eval]; try (first | rfl | exact ⟨rfl, rfl⟩ | kernel_rfl)) ?_
  simp only [Act.put, Act.eval, gtA, gtZ, gtS, siA, scS, scZ]
  refine Win.pureOp (v := .int .i64 0) (.inl hb) rfl rfl (fun w => by rw [Sem.runT_eq]; simp [go_sem, execOp, Act.eval]; try (first | rfl | exact ⟨rfl, rfl⟩ | kernel_rfl)) ?_
  simp only [Act.put, Act.eval, gtA, gtZ, gtS, siA, scS, scZ]
  refine Win.opsEnd ?_
  refine Win.seq ?_
  refine Win.seq ?_
  refine Win.region ?_
  simp only [List.size_toArray, List.length_cons, List.length_nil, Nat.reduceAdd, List.range, List.range.loop]
  refine Win.pureOp (v := .int .i64 0) (.inl hb) rfl rfl (fun w => by rw [Sem.runT_eq]; simp [go_sem, execOp, Act.eval]; try (first | rfl | exact ⟨rfl, rfl⟩ | kernel_rfl)) ?_
  simp only [Act.put, Act.eval, gtA, gtZ, gtS, siA, scS, scZ]
  refine Win.pureOp (v := .bool false) (.inl hb) rfl rfl (fun w => by rw [Sem.runT_eq]; simp [go_sem, execOp, Act.eval]; try (first | rfl | exact ⟨rfl, rfl⟩ | kernel_rfl)) ?_
  simp only [Act.put, Act.eval, gtA, gtZ, gtS, siA, scS, scZ]
  refine Win.pureOp (v := .bool false) (.inl hb) rfl rfl (fun w => by rw [Sem.runT_eq]; simp [go_sem, execOp, Act.eval]; try (first | rfl | exact ⟨rfl, rfl⟩ | kernel_rfl)) ?_
  simp only [Act.put, Act.eval, gtA, gtZ, gtS, siA, scS, scZ]
  refine Win.pureOp (v := .pointer (some ⟨a.p, 0, none⟩)) (.inl hb) rfl rfl (fun w => by rw [Sem.runT_eq]; simp [go_sem, execOp, Act.eval]; try (first | rfl | exact ⟨rfl, rfl⟩ | kernel_rfl)) ?_
  simp only [Act.put, Act.eval, gtA, gtZ, gtS, siA, scS, scZ]
  refine Win.pureOp (v := .bool false) (.inl hb) rfl rfl (fun w => by rw [Sem.runT_eq]; simp [go_sem, execOp, Act.eval]; try (first | rfl | exact ⟨rfl, rfl⟩ | kernel_rfl)) ?_
  simp only [Act.put, Act.eval, gtA, gtZ, gtS, siA, scS, scZ]
  refine Win.pureOp (v := .bool false) (.inl hb) rfl rfl (fun w => by rw [Sem.runT_eq]; simp [go_sem, execOp, Act.eval]; try (first | rfl | exact ⟨rfl, rfl⟩ | kernel_rfl)) ?_
  simp only [Act.put, Act.eval, gtA, gtZ, gtS, siA, scS, scZ]
  refine Win.opsEnd ?_
  refine Win.cond (t := false) rfl ?_
  simp only [if_false, Bool.false_eq_true]
  refine Win.skip ?_
  refine Win.seq ?_
  refine Win.region ?_
  simp only [List.size_toArray, List.length_cons, List.length_nil, Nat.reduceAdd, List.range, List.range.loop]
  refine Win.pureOp (v := .pointer (some ⟨a.p, 0, none⟩)) (.inl hb) rfl rfl (fun w => by rw [Sem.runT_eq]; simp [go_sem, execOp, Act.eval]; try (first | rfl | exact ⟨rfl, rfl⟩ | kernel_rfl)) ?_
  simp only [Act.put, Act.eval, gtA, gtZ, gtS, siA, scS, scZ]
  refine Win.enter (f := 16) (args := #[.pointer (some ⟨a.p, 0, none⟩)]) (.inl hb) rfl rfl (fun d => ⟨#[], call_enter mild.toMild Try.func16 rfl rfl rfl rfl _ _ (by simp [Act.eval]), fun e he => by simp at he⟩) ?_
  refine Win.calls mild D2.lies (stok_at rfl rfl (by simp) (by kernel_rfl)) (R := fun e w' => e = .returned (.bool false) ∧ Ks (fun _ => False) (D2.lies.veil.world (fun _ _ => 0) 0 w2) w') (fun τ => (done_at _ a.p false (by rw [veil_cell]; exact cell_of_row hSt2 6)).mono (by rintro e w' ⟨h1, rfl⟩; exact ⟨h1, ks_twin0 (Ks.refl _ _)⟩)) (fun e w' h => ⟨_, h.1⟩) ?_
  intro v' w3 τ Dd hok' hVOK hVK hR
  obtain ⟨h1, h3⟩ := hR
  obtain rfl : v' = .bool false := by simpa using h1
  have k3 := ks_of_twin D2.lies hVOK hVK h3
  have D3 := D2.ks0 (D2.lies.keeps hVK hVOK) k3
  have st3 := st2.keep (pl' := pl2) (F' := F2) (col' := col2) (w' := w3) hO2 D2.lay rfl ⟨fun _ _ => rfl, fun _ _ => rfl⟩ (fun b hb _ => k3.block b hb fun z => z)
  have sh3 : wakesSh bq w3 _ := k3.row (fun z => z) sh2
  have a3 : Ar w3 pA rA _ := ⟨k3.row (fun z => z) a2.hp, k3.row (fun z => z) a2.hr⟩
  have q3 := q2.trans k3
  clear h1 h3 hok' hVOK hVK
  rw [Frame.finish_at]
  simp only [Act.put, Act.eval, gqA, gqZ, gqS, Option.bind_some, gtA, gtZ, gtS, siA, scS, scZ]
  refine Win.pureOp (v := .pointer (some ⟨a.p, 0, none⟩)) (.inl hb) rfl rfl (fun w => by rw [Sem.runT_eq]; simp [go_sem, execOp, Act.eval]; try (first | rfl | exact ⟨rfl, rfl⟩ | kernel_rfl)) ?_
  simp only [Act.put, Act.eval, gtA, gtZ, gtS, siA, scS, scZ]
  refine Win.enter (f := 15) (args := #[.pointer (some ⟨a.p, 0, none⟩)]) (.inl hb) rfl rfl (fun d => ⟨#[], call_enter mild.toMild Try.func15 rfl rfl rfl rfl _ _ (by simp [Act.eval]), fun e he => by simp at he⟩) ?_
  refine step_goes hSh D3 hO2 st3 a3 (by decide) (by decide) (by intro x hx; have hx2 : x = 0 ∨ x = 7 := (by simpa [Go.Proofs.Ytnbibpmhmffmpaa.upd, fresh, inB] using hx); rcases hx2 with rfl | rfl <;> omega) sh3 fun pl4 F4 col4 w4 D4 k4 s4 p4 st4 a4 sh4 => ?_
  have hO4 := hO2.keep D3.lay s4
  have m4 : ∀ b, b < w.heap.size → col4 b = .main := fun b hb => (s4.co b (Nat.lt_of_lt_of_le hb q3.size)).trans (m2 b hb)
  have q4 : Ks (fun _ => False) w w4 := q3.then k4 fun b hb z => by
    unfold stepped at z
    rw [m2 b hb] at z
    rcases z with z | z | z | z <;> cases z
  have pn4 : ∀ i, i ≠ a.j → pl4 i = none := fun i hi => (p4 i hi).trans (pn2 i hi)
  rw [Frame.finish_at]
  simp only [Act.put, Act.eval, gqA, gqZ, gqS, Option.bind_some, gtA, gtZ, gtS, siA, scS, scZ]
  have w7 : was (Go.Proofs.Ytnbibpmhmffmpaa.upd (fresh 2) 1 7) 1 = 7 := by decide
  rw [w7] at st4
  rw [wakes_t2] at st4
  refine Win.pureOp (v := .pointer (some ⟨a.p, 0, none⟩)) (.inl hb) rfl rfl (fun w => by rw [Sem.runT_eq]; simp [go_sem, execOp, Act.eval]; try (first | rfl | exact ⟨rfl, rfl⟩ | kernel_rfl)) ?_
  simp only [Act.put, Act.eval, gtA, gtZ, gtS, siA, scS, scZ]
  refine Win.enter (f := 15) (args := #[.pointer (some ⟨a.p, 0, none⟩)]) (.inl hb) rfl rfl (fun d => ⟨#[], call_enter mild.toMild Try.func15 rfl rfl rfl rfl _ _ (by simp [Act.eval]), fun e he => by simp at he⟩) ?_
  refine step_goes hSh D4 hO4 st4 a4 (by decide) (by decide) (by intro x hx; have hx2 : x = 0 ∨ x = 7 := (by simpa [Go.Proofs.Ytnbibpmhmffmpaa.upd, fresh, inB, was] using hx); rcases hx2 with rfl | rfl <;> omega) sh4 fun pl5 F5 col5 w5 D5 k5 s5 p5 st5 a5 sh5 => ?_
  have hO5 := hO4.keep D4.lay s5
  have m5 : ∀ b, b < w.heap.size → col5 b = .main := fun b hb => (s5.co b (Nat.lt_of_lt_of_le hb q4.size)).trans (m4 b hb)
  have q5 : Ks (fun _ => False) w w5 := q4.then k5 fun b hb z => by
    unfold stepped at z
    rw [m4 b hb] at z
    rcases z with z | z | z | z <;> cases z
  have pn5 : ∀ i, i ≠ a.j → pl5 i = none := fun i hi => (p5 i hi).trans (pn4 i hi)
  rw [Frame.finish_at]
  simp only [Act.put, Act.eval, gqA, gqZ, gqS, Option.bind_some, gtA, gtZ, gtS, siA, scS, scZ]
  obtain ⟨hpj, hSt5⟩ := id st5
  refine Win.pureOp (v := .pointer (some ⟨a.p, 0, none⟩)) (.inl hb) rfl rfl (fun w => by rw [Sem.runT_eq]; simp [go_sem, execOp, Act.eval]; try (first | rfl | exact ⟨rfl, rfl⟩ | kernel_rfl)) ?_
  simp only [Act.put, Act.eval, gtA, gtZ, gtS, siA, scS, scZ]
  refine Win.enter (f := 16) (args := #[.pointer (some ⟨a.p, 0, none⟩)]) (.inl hb) rfl rfl (fun d => ⟨#[], call_enter mild.toMild Try.func16 rfl rfl rfl rfl _ _ (by simp [Act.eval]), fun e he => by simp at he⟩) ?_
  refine Win.calls mild D5.lies (stok_at rfl rfl (by simp) (by kernel_rfl)) (R := fun e w' => e = .returned (.bool true) ∧ Ks (fun _ => False) (D5.lies.veil.world (fun _ _ => 0) 0 w5) w') (fun τ => (done_at _ a.p true (by rw [veil_cell]; exact cell_of_row hSt5 6)).mono (by rintro e w' ⟨h1, rfl⟩; exact ⟨h1, ks_twin0 (Ks.refl _ _)⟩)) (fun e w' h => ⟨_, h.1⟩) ?_
  intro v' w6 τ Dd hok' hVOK hVK hR
  obtain ⟨h1, h3⟩ := hR
  obtain rfl : v' = .bool true := by simpa using h1
  have k6 := ks_of_twin D5.lies hVOK hVK h3
  have D6 := D5.ks0 (D5.lies.keeps hVK hVOK) k6
  have st6 := st5.keep (pl' := pl5) (F' := F5) (col' := col5) (w' := w6) hO5 D5.lay rfl ⟨fun _ _ => rfl, fun _ _ => rfl⟩ (fun b hb _ => k6.block b hb fun z => z)
  have sh6 : wakesSh bq w6 _ := k6.row (fun z => z) sh5
  have a6 : Ar w6 pA rA _ := ⟨k6.row (fun z => z) a5.hp, k6.row (fun z => z) a5.hr⟩
  have q6 := q5.trans k6
  clear h1 h3 hok' hVOK hVK
  rw [Frame.finish_at]
  simp only [Act.put, Act.eval, gqA, gqZ, gqS, Option.bind_some, gtA, gtZ, gtS, siA, scS, scZ]
  obtain ⟨_, hSt6⟩ := id st6
  have pn6 : ∀ i, pl5 i = none := fun i => by
    by_cases e : i = a.j
    · rw [e]; exact hpj
    · exact pn5 i e
  refine Win.pureOp (v := .bool false) (.inl hb) rfl rfl (fun w => by rw [Sem.runT_eq]; simp [go_sem, execOp, Act.eval]; try (first | rfl | exact ⟨rfl, rfl⟩ | kernel_rfl)) ?_
  simp only [Act.put, Act.eval, gtA, gtZ, gtS, siA, scS, scZ]
  refine Win.pureOp (v := .int .i64 0) (.inl hb) rfl rfl (fun w => by rw [Sem.runT_eq]; simp [go_sem, execOp, Act.eval]; try (first | rfl | exact ⟨rfl, rfl⟩ | kernel_rfl)) ?_
  simp only [Act.put, Act.eval, gtA, gtZ, gtS, siA, scS, scZ]
  refine Win.pureOp (v := .int .i64 0) (.inl hb) rfl rfl (fun w => by rw [Sem.runT_eq]; simp [go_sem, execOp, Act.eval]; try (first | rfl | exact ⟨rfl, rfl⟩ | kernel_rfl)) ?_
  simp only [Act.put, Act.eval, gtA, gtZ, gtS, siA, scS, scZ]
  refine Win.pureOp (v := .bool true) (.inl hb) rfl rfl (fun w => by rw [Sem.runT_eq]; simp [go_sem, execOp, Act.eval]; try (first | rfl | exact ⟨rfl, rfl⟩ | kernel_rfl)) ?_
  simp only [Act.put, Act.eval, gtA, gtZ, gtS, siA, scS, scZ]
  refine Win.opsEnd ?_
  refine Win.seq ?_
  refine Win.region ?_
  simp only [List.size_toArray, List.length_cons, List.length_nil, Nat.reduceAdd, List.range, List.range.loop]
  refine Win.pureOp (v := .bool false) (.inl hb) rfl rfl (fun w => by rw [Sem.runT_eq]; simp [go_sem, execOp, Act.eval]; try (first | rfl | exact ⟨rfl, rfl⟩ | kernel_rfl)) ?_
  simp only [Act.put, Act.eval, gtA, gtZ, gtS, siA, scS, scZ]
  refine Win.pureOp (v := .bool true) (.inl hb) rfl rfl (fun w => by rw [Sem.runT_eq]; simp [go_sem, execOp, Act.eval]; try (first | rfl | exact ⟨rfl, rfl⟩ | kernel_rfl)) ?_
  simp only [Act.put, Act.eval, gtA, gtZ, gtS, siA, scS, scZ]
  refine Win.pureOp (v := .bool true) (.inl hb) rfl rfl (fun w => by rw [Sem.runT_eq]; simp [go_sem, execOp, Act.eval]; try (first | rfl | exact ⟨rfl, rfl⟩ | kernel_rfl)) ?_
  simp only [Act.put, Act.eval, gtA, gtZ, gtS, siA, scS, scZ]
  refine Win.pureOp (v := .int .i64 0) (.inl hb) rfl rfl (fun w => by rw [Sem.runT_eq]; simp [go_sem, execOp, Act.eval]; try (first | rfl | exact ⟨rfl, rfl⟩ | kernel_rfl)) ?_
  simp only [Act.put, Act.eval, gtA, gtZ, gtS, siA, scS, scZ]
  refine Win.pureOp (v := .bool true) (.inl hb) rfl rfl (fun w => by rw [Sem.runT_eq]; simp [go_sem, execOp, Act.eval]; try (first | rfl | exact ⟨rfl, rfl⟩ | kernel_rfl)) ?_
  simp only [Act.put, Act.eval, gtA, gtZ, gtS, siA, scS, scZ]
  refine Win.pureOp (v := .bool true) (.inl hb) rfl rfl (fun w => by rw [Sem.runT_eq]; simp [go_sem, execOp, Act.eval]; try (first | rfl | exact ⟨rfl, rfl⟩ | kernel_rfl)) ?_
  simp only [Act.put, Act.eval, gtA, gtZ, gtS, siA, scS, scZ]
  refine Win.pureOp (v := .bool true) (.inl hb) rfl rfl (fun w => by rw [Sem.runT_eq]; simp [go_sem, execOp, Act.eval]; try (first | rfl | exact ⟨rfl, rfl⟩ | kernel_rfl)) ?_
  simp only [Act.put, Act.eval, gtA, gtZ, gtS, siA, scS, scZ]
  refine Win.pureOp (v := .int .i64 0) (.inl hb) rfl rfl (fun w => by rw [Sem.runT_eq]; simp [go_sem, execOp, Act.eval]; try (first | rfl | exact ⟨rfl, rfl⟩ | kernel_rfl)) ?_
  simp only [Act.put, Act.eval, gtA, gtZ, gtS, siA, scS, scZ]
  refine Win.pureOp (v := .bool true) (.inl hb) rfl rfl (fun w => by rw [Sem.runT_eq]; simp [go_sem, execOp, Act.eval]; try (first | rfl | exact ⟨rfl, rfl⟩ | kernel_rfl)) ?_
  simp only [Act.put, Act.eval, gtA, gtZ, gtS, siA, scS, scZ]
  refine Win.pureOp (v := .bool true) (.inl hb) rfl rfl (fun w => by rw [Sem.runT_eq]; simp [go_sem, execOp, Act.eval]; try (first | rfl | exact ⟨rfl, rfl⟩ | kernel_rfl)) ?_
  simp only [Act.put, Act.eval, gtA, gtZ, gtS, siA, scS, scZ]
  refine Win.pureOp (v := .bool true) (.inl hb) rfl rfl (fun w => by rw [Sem.runT_eq]; simp [go_sem, execOp, Act.eval]; try (first | rfl | exact ⟨rfl, rfl⟩ | kernel_rfl)) ?_
  simp only [Act.put, Act.eval, gtA, gtZ, gtS, siA, scS, scZ]
  refine Win.pureOp (v := .bool true) (.inl hb) rfl rfl (fun w => by rw [Sem.runT_eq]; simp [go_sem, execOp, Act.eval]; try (first | rfl | exact ⟨rfl, rfl⟩ | kernel_rfl)) ?_
  simp only [Act.put, Act.eval, gtA, gtZ, gtS, siA, scS, scZ]
  refine Win.pureOp (v := .bool true) (.inl hb) rfl rfl (fun w => by rw [Sem.runT_eq]; simp [go_sem, execOp, Act.eval]; try (first | rfl | exact ⟨rfl, rfl⟩ | kernel_rfl)) ?_
  simp only [Act.put, Act.eval, gtA, gtZ, gtS, siA, scS, scZ]
  refine Win.pureOp (v := .bool true) (.inl hb) rfl rfl (fun w => by rw [Sem.runT_eq]; simp [go_sem, execOp, Act.eval]; try (first | rfl | exact ⟨rfl, rfl⟩ | kernel_rfl)) ?_
  simp only [Act.put, Act.eval, gtA, gtZ, gtS, siA, scS, scZ]
  refine Win.pureOp (v := .pointer (some ⟨a.p, 0, none⟩)) (.inl hb) rfl rfl (fun w => by rw [Sem.runT_eq]; simp [go_sem, execOp, Act.eval]; try (first | rfl | exact ⟨rfl, rfl⟩ | kernel_rfl)) ?_
  simp only [Act.put, Act.eval, gtA, gtZ, gtS, siA, scS, scZ]
  refine Win.enter (f := 15) (args := #[.pointer (some ⟨a.p, 0, none⟩)]) (.inl hb) rfl rfl (fun d => ⟨#[], call_enter mild.toMild Try.func15 rfl rfl rfl rfl _ _ (by simp [Act.eval]), fun e he => by simp at he⟩) ?_
  refine Win.calls mild D6.lies (stok_at rfl rfl (by simp) (by kernel_rfl)) (R := fun e w' => e = .returned (.int .i64 6) ∧ Ks (fun _ => False) (D6.lies.veil.world (fun _ _ => 0) 0 w6) w') (fun τ => (step_over _ a.p (by rw [veil_cell]; exact cell_of_row hSt6 6)).mono (by rintro e w' ⟨h1, h2⟩; exact ⟨h1, ks_twin0 h2.ks0⟩)) (fun e w' h => ⟨_, h.1⟩) ?_
  intro v' w7' τ Dd hok' hVOK hVK hR
  obtain ⟨h1, h3⟩ := hR
  obtain rfl : v' = .int .i64 6 := by simpa using h1
  have k7 := ks_of_twin D6.lies hVOK hVK h3
  have q7 := q6.trans k7
  have a7 : Ar w7' pA rA _ := ⟨k7.row (fun z => z) a6.hp, k7.row (fun z => z) a6.hr⟩
  clear h1 h3 hok' hVOK hVK
  rw [Frame.finish_at]
  simp only [Act.put, Act.eval, gqA, gqZ, gqS, Option.bind_some, gtA, gtZ, gtS, siA, scS, scZ]
  refine Win.pureOp (v := .bool true) (.inl hb) rfl rfl (fun w => by rw [Sem.runT_eq]; simp [go_sem, execOp, Act.eval]; try (first | rfl | exact ⟨rfl, rfl⟩ | kernel_rfl)) ?_
  simp only [Act.put, Act.eval, gtA, gtZ, gtS, siA, scS, scZ]
  refine Win.pureOp (v := .bool true) (.inl hb) rfl rfl (fun w => by rw [Sem.runT_eq]; simp [go_sem, execOp, Act.eval]; try (first | rfl | exact ⟨rfl, rfl⟩ | kernel_rfl)) ?_
  simp only [Act.put, Act.eval, gtA, gtZ, gtS, siA, scS, scZ]
  refine Win.pureOp (v := .bool true) (.inl hb) rfl rfl (fun w => by rw [Sem.runT_eq]; simp [go_sem, execOp, Act.eval]; try (first | rfl | exact ⟨rfl, rfl⟩ | kernel_rfl)) ?_
  simp only [Act.put, Act.eval, gtA, gtZ, gtS, siA, scS, scZ]
  refine Win.pureOp (v := .pointer (some ⟨pA, 0, none⟩)) (.inl hb) rfl rfl (fun w => by rw [Sem.runT_eq]; simp [go_sem, execOp, Act.eval]; try (first | rfl | exact ⟨rfl, rfl⟩ | kernel_rfl)) ?_
  simp only [Act.put, Act.eval, gtA, gtZ, gtS, siA, scS, scZ]
  refine Win.enter (f := 35) (args := #[.pointer (some ⟨pA, 0, none⟩), .int .i64 0]) (.inl hb) rfl rfl (fun d => ⟨#[], call_enter mild.toMild Try.func35 rfl rfl rfl rfl _ _ (by simp [Act.eval]), fun e he => by simp at he⟩) ?_
  have L7 := lies_none pn6 w7'
  refine Win.calls mild L7 (stok_at rfl rfl (by simp) (by kernel_rfl)) (R := fun e w' => e = .returned (.int .u64 8) ∧ Ks (fun b => b = pA ∨ b = rA) (L7.veil.world (fun _ _ => 0) 0 w7') w') (fun τ => ?_) (fun e w' h => ⟨_, h.1⟩) ?_
  · have ha : Ar (L7.veil.world τ 0 w7') pA rA _ := ⟨(L7.block rfl).2 a7.hp, (L7.block rfl).2 a7.hr⟩
    refine (read_any _ pA rA _ 0 ha (by decide) (by decide)).mono ?_
    rintro e w' ⟨h1, _, h3⟩
    refine ⟨?_, ks_twin0 ((ks_of_kp h3).mono fun b _ z => by simpa using z)⟩
    rw [h1]
    have h8 : was (Go.Proofs.Ytnbibpmhmffmpaa.upd (Go.Proofs.Ytnbibpmhmffmpaa.upd (Go.Proofs.Ytnbibpmhmffmpaa.upd (fresh 2) 1 7) 1 (was (Go.Proofs.Ytnbibpmhmffmpaa.upd (fresh 2) 1 7) 1)) 0 (IntKind.wrap .u64 (7 + 1))) 0 = 8 := by decide
    rw [h8]
  intro v' w8 τ Dd hok' hVOK hVK hR
  obtain ⟨h1, h3⟩ := hR
  obtain rfl : v' = .int .u64 8 := by simpa using h1
  have q8 : Ks (fun _ => False) w w8 := q7.then (ks_of_twin L7 hVOK hVK h3) fun b hb z => by rcases z with z | z <;> omega
  clear h1 h3 hok' hVOK hVK
  rw [Frame.finish_at]
  simp only [Act.put, Act.eval, gqA, gqZ, gqS, Option.bind_some, gtA, gtZ, gtS, siA, scS, scZ]
  refine Win.pureOp (v := .bool true) (.inl hb) rfl rfl (fun w => by rw [Sem.runT_eq]; simp [go_sem, execOp, Act.eval]; try (first | rfl | exact ⟨rfl, rfl⟩ | kernel_rfl)) ?_
  simp only [Act.put, Act.eval, gtA, gtZ, gtS, siA, scS, scZ]
  refine Win.pureOp (v := .bool true) (.inl hb) rfl rfl (fun w => by rw [Sem.runT_eq]; simp [go_sem, execOp, Act.eval]; try (first | rfl | exact ⟨rfl, rfl⟩ | kernel_rfl)) ?_
  simp only [Act.put, Act.eval, gtA, gtZ, gtS, siA, scS, scZ]
  refine Win.pureOp (v := .bool true) (.inl hb) rfl rfl (fun w => by rw [Sem.runT_eq]; simp [go_sem, execOp, Act.eval]; try (first | rfl | exact ⟨rfl, rfl⟩ | kernel_rfl)) ?_
  simp only [Act.put, Act.eval, gtA, gtZ, gtS, siA, scS, scZ]
  refine Win.opsEnd ?_
  refine Win.ret ?_
  refine Win.leave (v := .bool true) rfl rfl hb Try.func9 (fun d => ⟨#[], by rw [Sem.runT_eq]; simp [go_sem, results, Try.f9, Frame.at], fun e he => by simp at he⟩) ?_
  exact H pl5 (n + 1) w8 pn6 (by omega) q8
end
end Go.Proofs.Ytnbibpmhmffmpaa

namespace Go.Proofs.Ytnbibpmhmffmpaa
open List renaming getElem_toArray → gtA, getElem_cons_zero → gtZ, getElem_cons_succ → gtS, setIfInBounds_toArray → siA, set_cons_succ → scS, set_cons_zero → scZ, getElem?_toArray → gqA, getElem?_cons_zero → gqZ, getElem?_cons_succ → gqS
set_option linter.unusedVariables false
set_option linter.unusedSimpArgs false
set_option maxRecDepth 100000
open Go.Conc
open Go.ConcN (upd_ne upd_same)

theorem stepG_done {P : Program} {fr : Frame} {v : Value} (hm : fr.mode = .returning) (hd : fr.defers = []) (hk : fr.kind = .normal) {fn : Func} (hf : P.funcs[fr.fn]? = some fn) (hi : P.inits.idxOf? fr.fn = none) (hr : ∀ w, (results fn fr.tmps).runT P w #[] = (.ok v w, #[])) (w : World) :
    stepG P true (gor fr []) w = .ended (.done v) w := by
  rw [stepG_not_run (by rw [hm]; simp)]
  unfold unwind
  simp only [hd, hm, hf, hr w, doReturn, hk, GStep.after, gor, hi, Bool.not_true, if_false, Bool.false_eq_true]
  simp [seen]

section
variable {Post : Value → World → Prop} {w : World}
end
end Go.Proofs.Ytnbibpmhmffmpaa
