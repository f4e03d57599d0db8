/- The law's wake: to the agent's birth. Written by gen/ah_i.py. Conditions: as each theorem states them. -/
import Derived.Test.YtdingbkgkofanaaAhH
namespace Go.Proofs.Ytdingbkgkofanaa
set_option linter.unusedVariables false
set_option linter.unusedSimpArgs false
set_option maxRecDepth 100000
open Go.Conc
open Go.ConcN (upd_ne upd_same)

theorem lies_none {pl : Nat → Option Place} (h : ∀ i, pl i = none) (w : World) : Lies pl (fun _ => none) w :=
  ⟨fun i r z => (by cases z), fun i s c hi => (by rw [h i] at hi; cases hi), fun i s a v hi => (by rw [h i] at hi; cases hi)⟩
theorem Kp.ks0 {w w' : World} (h : Kp [] w w') : Ks (fun _ => False) w w' := (ks_of_kp h).mono fun b _ z => by cases z

/-- What is made ahead of the agent. -/
structure Woken (w w' : World) (pA rA bq ba bl bp : Nat) : Prop where
  ks : Ks (fun _ => False) w w'
  ar : Ar w' pA rA (Go.Proofs.Ytdingbkgkofanaa.upd (fresh 2) 1 7)
  rq : w'.heap[bq]? = some (.cells #[.int .u64 0] 40 (0, 0))
  ra : w'.heap[ba]? = some (.cells #[.int .u8 0, .int .i64 1, .int .u64 0, .int .u8 1, .int .i64 0, .int .u64 1] 48 (0, 0))
  rl : w'.heap[bl]? = some (.cells #[.slice (some ⟨ba, 0, none⟩) 2 2] 38 (0, 0))
  rp : w'.heap[bp]? = some (.cells #[.pointer (some ⟨bq, 0, none⟩)] 39 (0, 0))
  new : w.heap.size ≤ rA ∧ rA < pA ∧ pA < bq ∧ bq < ba ∧ ba < bl ∧ bl < bp

/-- What wakes has in its slots while New runs. -/
def wakesTmps (pA bq ba bl bp : Nat) : Array Value := #[.bool false, .pointer (some ⟨pA, 0, none⟩), .int .i64 0, .pointer (some ⟨bq, 0, none⟩), undef, undef, undef, undef, undef, undef, .tuple #[.pointer (some ⟨pA, 0, none⟩), .int .i64 0], .tuple #[.pointer (some ⟨pA, 0, none⟩), .int .i64 0], .pointer (some ⟨pA, 0, none⟩), .int .i64 0, .int .i64 0, .bool false, .bool false, .pointer (some ⟨pA, 0, none⟩), .bool false, .bool false, .pointer (some ⟨pA, 0, none⟩), .tuple #[], undef, .pointer (some ⟨pA, 0, none⟩), memV pA, .agg #[.int .u8 0, .int .i64 1, .int .u64 0], .agg #[.int .u8 1, .int .i64 0, .int .u64 1], .slice (some ⟨ba, 0, none⟩) 2 2, .func (.func 38) #[] #[.pointer (some ⟨bl, 0, none⟩), .pointer (some ⟨bp, 0, none⟩)], undef, undef, undef, undef, undef, undef, undef, undef, undef, undef, undef, undef, undef, undef, undef, undef, undef, undef, undef, undef, undef, undef, undef, undef, undef, undef, undef, undef, undef, undef, undef, undef, undef, undef, undef, undef, undef, undef, undef, undef]
def wakesAt (P : Program) (f : Func) (pA bq ba bl bp : Nat) : Frame :=
  (Frame.enter P 10 #[] .normal).at ⟨wakesTmps pA bq ba bl bp, []⟩ [.inRegion (regOps (codeL (codeR (codeR (codeR (codeR (codeR (bodyOf f)))))))) [6, 7, 8, 9, 10, 11], .code (codeR (codeR (codeR (codeR (codeR (codeR (bodyOf f)))))))]

section
variable {pl : Nat → Option Place} {n h : Nat} {Post : Value → World → Prop} {w : World}

set_option maxHeartbeats 4000000 in
theorem wakes_in (hpl : ∀ i, pl i = none) {c₀ : Frame} {cs : List Frame}
    (H : ∀ (pA rA bq ba bl bp : Nat) w', Woken w w' pA rA bq ba bl bp → Win Try.prog Post pl n h (gor (Frame.enter Try.prog 12 #[memV pA, .func (.func 38) #[] #[.pointer (some ⟨bl, 0, none⟩), .pointer (some ⟨bp, 0, none⟩)]] .normal) (wakesAt Try.prog Try.f10 pA bq ba bl bp :: c₀ :: cs)) w') :
    Win Try.prog Post pl n h (gor (Frame.enter Try.prog 10 #[] .normal) (c₀ :: cs)) w := by
  have hb : (Frame.enter Try.prog 10 #[] .normal).kind = .normal := rfl
  rw [enter_at Try.func10 rfl]
  simp only [Try.ntmps10, List.size_toArray, List.length_cons, List.length_nil, Nat.reduceAdd, Nat.reduceSub, Array.replicate_succ, Array.replicate_zero, List.push_toArray, List.append_toArray, List.nil_append, List.cons_append]
  refine Win.seq ?_
  refine Win.region ?_
  simp only [List.size_toArray, List.length_cons, List.length_nil, Nat.reduceAdd, List.range, List.range.loop]
  refine Win.pureOp (v := .bool false) (.inl hb) rfl rfl (fun w => by rw [Sem.runT_eq]; simp [go_sem, execOp, Act.eval]; try (first | rfl | exact ⟨rfl, rfl⟩ | kernel_rfl)) ?_
  simp only [Act.put, Act.eval, List.getElem_toArray, List.getElem_cons_zero, List.getElem_cons_succ, List.setIfInBounds_toArray, List.set_cons_succ, List.set_cons_zero]
  refine Win.opsEnd ?_
  refine Win.seq ?_
  refine Win.region ?_
  simp only [List.size_toArray, List.length_cons, List.length_nil, Nat.reduceAdd, List.range, List.range.loop]
  refine Win.enter (f := 11) (args := #[.int .i64 2]) (.inl hb) rfl rfl (fun d => ⟨#[], call_enter mild.toMild Try.func11 rfl rfl rfl rfl _ _ (by simp [Act.eval]), fun e he => by simp at he⟩) ?_
  have L0 := lies_none hpl w
  refine Win.calls mild L0 (stok_at rfl rfl (by simp) (by kernel_rfl)) (R := fun e w' => e = .returned (.tuple #[.pointer (some ⟨w.heap.size + 1, 0, none⟩), .int .i64 0]) ∧ Ar w' (w.heap.size + 1) w.heap.size (fresh 2) ∧ Ks (fun _ => False) (L0.veil.world (fun _ _ => 0) 0 w) w') (fun τ => ?_) (fun e w' h => ⟨_, h.1⟩) ?_
  · refine (new_good _ 2 (by omega) (by omega)).mono ?_
    rintro e w' ⟨h1, h2, h3⟩
    rw [veil_size] at h1 h2
    exact ⟨h1, h2, ks_twin0 h3.ks0⟩
  intro v' w1 τ D hok' hVOK hVK hR
  obtain ⟨h1, h2, h3⟩ := hR
  obtain rfl : v' = .tuple #[.pointer (some ⟨w.heap.size + 1, 0, none⟩), .int .i64 0] := by simpa using h1
  have k1 := ks_of_twin L0 hVOK hVK h3
  have a1 : Ar w1 (w.heap.size + 1) w.heap.size (fresh 2) := ⟨(L0.block rfl).1 h2.hp, (L0.block rfl).1 h2.hr⟩
  clear h1 h2 h3 hok' hVOK hVK
  obtain ⟨pA, hpA⟩ : ∃ pA, pA = w.heap.size + 1 := ⟨_, rfl⟩
  obtain ⟨rA, hrA⟩ : ∃ rA, rA = w.heap.size := ⟨_, rfl⟩
  rw [← hpA, ← hrA] at a1
  rw [← hpA]
  rw [Frame.finish_at]
  simp only [Act.put, Act.eval, List.getElem?_toArray, List.getElem?_cons_zero, List.getElem?_cons_succ, Option.bind_some, List.getElem_toArray, List.getElem_cons_zero, List.getElem_cons_succ, List.setIfInBounds_toArray, List.set_cons_succ, List.set_cons_zero]
  refine Win.pureOp (v := .tuple #[.pointer (some ⟨pA, 0, none⟩), .int .i64 0]) (.inl hb) rfl rfl (fun w => by rw [Sem.runT_eq]; simp [go_sem, execOp, Act.eval]; try (first | rfl | exact ⟨rfl, rfl⟩ | kernel_rfl)) ?_
  simp only [Act.put, Act.eval, List.getElem_toArray, List.getElem_cons_zero, List.getElem_cons_succ, List.setIfInBounds_toArray, List.set_cons_succ, List.set_cons_zero]
  refine Win.pureOp (v := .pointer (some ⟨pA, 0, none⟩)) (.inl hb) rfl rfl (fun w => by rw [Sem.runT_eq]; simp [go_sem, execOp, Act.eval]; try (first | rfl | exact ⟨rfl, rfl⟩ | kernel_rfl)) ?_
  simp only [Act.put, Act.eval, List.getElem_toArray, List.getElem_cons_zero, List.getElem_cons_succ, List.setIfInBounds_toArray, List.set_cons_succ, List.set_cons_zero]
  refine Win.pureOp (v := .int .i64 0) (.inl hb) rfl rfl (fun w => by rw [Sem.runT_eq]; simp [go_sem, execOp, Act.eval]; try (first | rfl | exact ⟨rfl, rfl⟩ | kernel_rfl)) ?_
  simp only [Act.put, Act.eval, List.getElem_toArray, List.getElem_cons_zero, List.getElem_cons_succ, List.setIfInBounds_toArray, List.set_cons_succ, List.set_cons_zero]
  refine Win.pureOp (v := .pointer (some ⟨pA, 0, none⟩)) (.inl hb) rfl rfl (fun w => by rw [Sem.runT_eq]; simp [go_sem, execOp, Act.eval]; try (first | rfl | exact ⟨rfl, rfl⟩ | kernel_rfl)) ?_
  simp only [Act.put, Act.eval, List.getElem_toArray, List.getElem_cons_zero, List.getElem_cons_succ, List.setIfInBounds_toArray, List.set_cons_succ, List.set_cons_zero]
  refine Win.pureOp (v := .int .i64 0) (.inl hb) rfl rfl (fun w => by rw [Sem.runT_eq]; simp [go_sem, execOp, Act.eval]; try (first | rfl | exact ⟨rfl, rfl⟩ | kernel_rfl)) ?_
  simp only [Act.put, Act.eval, List.getElem_toArray, List.getElem_cons_zero, List.getElem_cons_succ, List.setIfInBounds_toArray, List.set_cons_succ, List.set_cons_zero]
  refine Win.opsEnd ?_
  refine Win.seq ?_
  refine Win.seq ?_
  refine Win.region ?_
  simp only [List.size_toArray, List.length_cons, List.length_nil, Nat.reduceAdd, List.range, List.range.loop]
  refine Win.pureOp (v := .int .i64 0) (.inl hb) rfl rfl (fun w => by rw [Sem.runT_eq]; simp [go_sem, execOp, Act.eval]; try (first | rfl | exact ⟨rfl, rfl⟩ | kernel_rfl)) ?_
  simp only [Act.put, Act.eval, List.getElem_toArray, List.getElem_cons_zero, List.getElem_cons_succ, List.setIfInBounds_toArray, List.set_cons_succ, List.set_cons_zero]
  refine Win.pureOp (v := .bool false) (.inl hb) rfl rfl (fun w => by rw [Sem.runT_eq]; simp [go_sem, execOp, Act.eval]; try (first | rfl | exact ⟨rfl, rfl⟩ | kernel_rfl)) ?_
  simp only [Act.put, Act.eval, List.getElem_toArray, List.getElem_cons_zero, List.getElem_cons_succ, List.setIfInBounds_toArray, List.set_cons_succ, List.set_cons_zero]
  refine Win.pureOp (v := .bool false) (.inl hb) rfl rfl (fun w => by rw [Sem.runT_eq]; simp [go_sem, execOp, Act.eval]; try (first | rfl | exact ⟨rfl, rfl⟩ | kernel_rfl)) ?_
  simp only [Act.put, Act.eval, List.getElem_toArray, List.getElem_cons_zero, List.getElem_cons_succ, List.setIfInBounds_toArray, List.set_cons_succ, List.set_cons_zero]
  refine Win.pureOp (v := .pointer (some ⟨pA, 0, none⟩)) (.inl hb) rfl rfl (fun w => by rw [Sem.runT_eq]; simp [go_sem, execOp, Act.eval]; try (first | rfl | exact ⟨rfl, rfl⟩ | kernel_rfl)) ?_
  simp only [Act.put, Act.eval, List.getElem_toArray, List.getElem_cons_zero, List.getElem_cons_succ, List.setIfInBounds_toArray, List.set_cons_succ, List.set_cons_zero]
  refine Win.pureOp (v := .bool false) (.inl hb) rfl rfl (fun w => by rw [Sem.runT_eq]; simp [go_sem, execOp, Act.eval]; try (first | rfl | exact ⟨rfl, rfl⟩ | kernel_rfl)) ?_
  simp only [Act.put, Act.eval, List.getElem_toArray, List.getElem_cons_zero, List.getElem_cons_succ, List.setIfInBounds_toArray, List.set_cons_succ, List.set_cons_zero]
  refine Win.pureOp (v := .bool false) (.inl hb) rfl rfl (fun w => by rw [Sem.runT_eq]; simp [go_sem, execOp, Act.eval]; try (first | rfl | exact ⟨rfl, rfl⟩ | kernel_rfl)) ?_
  simp only [Act.put, Act.eval, List.getElem_toArray, List.getElem_cons_zero, List.getElem_cons_succ, List.setIfInBounds_toArray, List.set_cons_succ, List.set_cons_zero]
  refine Win.opsEnd ?_
  refine Win.cond (t := false) rfl ?_
  simp only [if_false, Bool.false_eq_true]
  refine Win.skip ?_
  refine Win.seq ?_
  refine Win.region ?_
  simp only [List.size_toArray, List.length_cons, List.length_nil, Nat.reduceAdd, List.range, List.range.loop]
  refine Win.pureOp (v := .pointer (some ⟨pA, 0, none⟩)) (.inl hb) rfl rfl (fun w => by rw [Sem.runT_eq]; simp [go_sem, execOp, Act.eval]; try (first | rfl | exact ⟨rfl, rfl⟩ | kernel_rfl)) ?_
  simp only [Act.put, Act.eval, List.getElem_toArray, List.getElem_cons_zero, List.getElem_cons_succ, List.setIfInBounds_toArray, List.set_cons_succ, List.set_cons_zero]
  refine Win.enter (f := 27) (args := #[.pointer (some ⟨pA, 0, none⟩), .int .i64 1, .int .u64 7]) (.inl hb) rfl rfl (fun d => ⟨#[], call_enter mild.toMild Try.func27 rfl rfl rfl rfl _ _ (by simp [Act.eval]), fun e he => by simp at he⟩) ?_
  have L1 := lies_none hpl w1
  refine Win.calls mild L1 (stok_at rfl rfl (by simp) (by kernel_rfl)) (R := fun e w' => e = .returned (.tuple #[]) ∧ Ar w' pA rA (Go.Proofs.Ytdingbkgkofanaa.upd (fresh 2) 1 7) ∧ Ks (fun b => b = pA ∨ b = rA) (L1.veil.world (fun _ _ => 0) 0 w1) w') (fun τ => ?_) (fun e w' h => ⟨_, h.1⟩) ?_
  · have ha : Ar (L1.veil.world τ 0 w1) pA rA (fresh 2) := ⟨(L1.block rfl).2 a1.hp, (L1.block rfl).2 a1.hr⟩
    refine (write_any _ pA rA _ 1 7 ha (by decide) (by decide)).mono ?_
    rintro e w' ⟨h1, h2, h3⟩
    exact ⟨h1, h2, ks_twin0 ((ks_of_kp h3).mono fun b _ z => by simpa using z)⟩
  intro v' w2 τ D hok' hVOK hVK hR
  obtain ⟨h1, h2, h3⟩ := hR
  obtain rfl : v' = .tuple #[] := by simpa using h1
  have k2 : Ks (fun _ => False) w w2 := k1.then (ks_of_twin L1 hVOK hVK h3) fun b hb z => by rcases z with z | z <;> omega
  have a2 : Ar w2 pA rA (Go.Proofs.Ytdingbkgkofanaa.upd (fresh 2) 1 7) := ⟨(L1.block rfl).1 h2.hp, (L1.block rfl).1 h2.hr⟩
  clear h1 h2 h3 hok' hVOK hVK k1 a1 L1
  rw [Frame.finish_at]
  simp only [Act.put, Act.eval, List.getElem?_toArray, List.getElem?_cons_zero, List.getElem?_cons_succ, Option.bind_some, List.getElem_toArray, List.getElem_cons_zero, List.getElem_cons_succ, List.setIfInBounds_toArray, List.set_cons_succ, List.set_cons_zero]
  refine Win.opsEnd ?_
  refine Win.seq ?_
  refine Win.region ?_
  simp only [List.size_toArray, List.length_cons, List.length_nil, Nat.reduceAdd, List.range, List.range.loop]
  have L2 := lies_none hpl w2
  obtain ⟨bq, hbq⟩ : ∃ bq, bq = w2.heap.size := ⟨_, rfl⟩
  have hq0 := alloc_new w2 (.cells #[.int .u64 0] 40)
  have k3 : Ks (fun _ => False) w2 (w2.alloc (.cells #[.int .u64 0] 40)) := ks_alloc _ _ _
  have z3 : (w2.alloc (.cells #[.int .u64 0] 40)).heap.size = w2.heap.size + 1 := Array.size_push _
  refine Win.makeOp (v := .pointer (some ⟨w2.heap.size, 0, none⟩)) (ob := .cells #[.int .u64 0] 40) (es := #[]) L2 (.inl hb) rfl rfl (fun d => by rw [Sem.runT_eq]; simp [go_sem, execOp, Act.eval]; try rfl) (fun e he => by simp at he) ?_
  simp only [Act.put, Act.eval, List.getElem_toArray, List.getElem_cons_zero, List.getElem_cons_succ, List.setIfInBounds_toArray, List.set_cons_succ, List.set_cons_zero]
  rw [← hbq] at hq0 ⊢
  generalize w2.alloc (.cells #[.int .u64 0] 40) = w3 at hq0 k3 z3 ⊢
  refine Win.storeOp (ad := ⟨bq, 0, none⟩) (x := .int .u64 0) (.inl hb) rfl rfl ((lies_none hpl w2).freeNew (by show _ ≤ bq; omega)) (fun d => by
    rw [Sem.runT_eq]
    have c1 : (w3.at d).cell? ⟨bq, 0, none⟩ = some (.int .u64 0) := cell_of_row hq0 0
    have c2 : (w3.at d).frozen? ⟨bq, 0, none⟩ = false := free_of_row hq0 0
    generalize w3.at d = W at c1 c2 ⊢
    obtain ⟨s1, s2⟩ := store_ok (P := Try.prog) (x := .int .u64 0) (w := W) (m := .plain) (by simp) (by simp) c1 c2
    simp [go_sem, execOp, Act.eval, s1, s2, c1, c2]) ?_
  simp only [Act.put, Act.eval, List.getElem_toArray, List.getElem_cons_zero, List.getElem_cons_succ, List.setIfInBounds_toArray, List.set_cons_succ, List.set_cons_zero]
  have hq : (w3.setCell ⟨bq, 0, none⟩ (.int .u64 0)).heap[bq]? = some (.cells #[.int .u64 0] 40 (0, 0)) := by
    have := heap_setCell_same _ bq 0 _ _ (.int .u64 0) hq0
    rw [this]; simp
  have k4 : Ks (fun _ => False) w2 (w3.setCell ⟨bq, 0, none⟩ (.int .u64 0)) := k3.then (ks_setCell w3 ⟨bq, 0, none⟩ _) fun b hb e => by
    have e' : b = bq := e
    omega
  have z4 : (w3.setCell ⟨bq, 0, none⟩ (.int .u64 0)).heap.size = w2.heap.size + 1 := by rw [← z3]; simp [World.setCell]
  generalize w3.setCell ⟨bq, 0, none⟩ (.int .u64 0) = w4 at hq k4 z4 ⊢
  have a4 : Ar w4 pA rA (Go.Proofs.Ytdingbkgkofanaa.upd (fresh 2) 1 7) := ⟨k4.row (fun z => z) a2.hp, k4.row (fun z => z) a2.hr⟩
  have kk4 := k2.trans k4
  have hlp := lt_of_block a2.hp
  clear a2 k3 z3 hq0
  refine Win.opsEnd ?_
  refine Win.seq ?_
  refine Win.region ?_
  simp only [List.size_toArray, List.length_cons, List.length_nil, Nat.reduceAdd, List.range, List.range.loop]
  refine Win.pureOp (v := .pointer (some ⟨pA, 0, none⟩)) (.inl hb) rfl rfl (fun w => by rw [Sem.runT_eq]; simp [go_sem, execOp, Act.eval]; try (first | rfl | exact ⟨rfl, rfl⟩ | kernel_rfl)) ?_
  simp only [Act.put, Act.eval, List.getElem_toArray, List.getElem_cons_zero, List.getElem_cons_succ, List.setIfInBounds_toArray, List.set_cons_succ, List.set_cons_zero]
  refine Win.pureOp (v := .iface 26 (.pointer (some ⟨pA, 0, none⟩))) (.inl hb) rfl rfl (fun w => by rw [Sem.runT_eq]; simp [go_sem, execOp, Act.eval]; try (first | rfl | exact ⟨rfl, rfl⟩ | kernel_rfl)) ?_
  simp only [Act.put, Act.eval, List.getElem_toArray, List.getElem_cons_zero, List.getElem_cons_succ, List.setIfInBounds_toArray, List.set_cons_succ, List.set_cons_zero]
  refine Win.pureOp (v := .agg #[.int .u8 0, .int .i64 1, .int .u64 0]) (.inl hb) rfl rfl (fun w => by rw [Sem.runT_eq]; simp [go_sem, execOp, Act.eval]; try (first | rfl | exact ⟨rfl, rfl⟩ | kernel_rfl)) ?_
  simp only [Act.put, Act.eval, List.getElem_toArray, List.getElem_cons_zero, List.getElem_cons_succ, List.setIfInBounds_toArray, List.set_cons_succ, List.set_cons_zero]
  refine Win.pureOp (v := .agg #[.int .u8 1, .int .i64 0, .int .u64 1]) (.inl hb) rfl rfl (fun w => by rw [Sem.runT_eq]; simp [go_sem, execOp, Act.eval]; try (first | rfl | exact ⟨rfl, rfl⟩ | kernel_rfl)) ?_
  simp only [Act.put, Act.eval, List.getElem_toArray, List.getElem_cons_zero, List.getElem_cons_succ, List.setIfInBounds_toArray, List.set_cons_succ, List.set_cons_zero]
  obtain ⟨ba, hba⟩ : ∃ ba, ba = w4.heap.size := ⟨_, rfl⟩
  have ha5 := alloc_new w4 (.cells #[.int .u8 0, .int .i64 1, .int .u64 0, .int .u8 1, .int .i64 0, .int .u64 1] 48)
  have k5 : Ks (fun _ => False) w4 (w4.alloc (.cells #[.int .u8 0, .int .i64 1, .int .u64 0, .int .u8 1, .int .i64 0, .int .u64 1] 48)) := ks_alloc _ _ _
  have z5 : (w4.alloc (.cells #[.int .u8 0, .int .i64 1, .int .u64 0, .int .u8 1, .int .i64 0, .int .u64 1] 48)).heap.size = w4.heap.size + 1 := Array.size_push _
  refine Win.makeOp (v := .slice (some ⟨w4.heap.size, 0, none⟩) 2 2) (ob := .cells #[.int .u8 0, .int .i64 1, .int .u64 0, .int .u8 1, .int .i64 0, .int .u64 1] 48) (es := #[]) (lies_none hpl w4) (.inl hb) rfl rfl (fun d => by rw [Sem.runT_eq]; simp [go_sem, execOp, Act.eval]; try (first | rfl | exact ⟨rfl, rfl⟩ | kernel_rfl)) (fun e he => by simp at he) ?_
  simp only [Act.put, Act.eval, List.getElem_toArray, List.getElem_cons_zero, List.getElem_cons_succ, List.setIfInBounds_toArray, List.set_cons_succ, List.set_cons_zero]
  rw [← hba] at ha5 ⊢
  generalize w4.alloc (.cells #[.int .u8 0, .int .i64 1, .int .u64 0, .int .u8 1, .int .i64 0, .int .u64 1] 48) = w5 at ha5 k5 z5 ⊢
  refine Win.enter (f := 13) (args := #[.slice (some ⟨ba, 0, none⟩) 2 2, .pointer (some ⟨bq, 0, none⟩)]) (.inl hb) rfl rfl (fun d => ⟨#[], call_enter mild.toMild Try.func13 rfl rfl rfl rfl _ _ (by simp [Act.eval]), fun e he => by simp at he⟩) ?_
  have L5 := lies_none hpl w5
  refine Win.calls mild L5 (stok_at rfl rfl (by simp) (by kernel_rfl)) (R := fun e w' => e = .returned (.func (.func 38) #[] #[.pointer (some ⟨w5.heap.size, 0, none⟩), .pointer (some ⟨w5.heap.size + 1, 0, none⟩)]) ∧ w'.heap[w5.heap.size]? = some (.cells #[.slice (some ⟨ba, 0, none⟩) 2 2] 38 (0, 0)) ∧ w'.heap[w5.heap.size + 1]? = some (.cells #[.pointer (some ⟨bq, 0, none⟩)] 39 (0, 0)) ∧ Ks (fun _ => False) (L5.veil.world (fun _ _ => 0) 0 w5) w') (fun τ => ?_) (fun e w' h => ⟨_, h.1⟩) ?_
  · refine (program_makes _ ⟨ba, 0, none⟩ ⟨bq, 0, none⟩ 2 2).mono ?_
    rintro e w' ⟨h1, rfl⟩
    rw [veil_size] at h1
    have q1 := alloc_new (L5.veil.world τ 0 w5) (.cells #[.slice (some ⟨ba, 0, none⟩) 2 2] 38)
    have q2 := alloc_new ((L5.veil.world τ 0 w5).alloc (.cells #[.slice (some ⟨ba, 0, none⟩) 2 2] 38)) (.cells #[.pointer (some ⟨bq, 0, none⟩)] 39)
    have z6 : ((L5.veil.world τ 0 w5).alloc (.cells #[.slice (some ⟨ba, 0, none⟩) 2 2] 38)).heap.size = (L5.veil.world τ 0 w5).heap.size + 1 := Array.size_push _
    rw [z6, veil_size] at q2
    rw [veil_size] at q1 z6
    exact ⟨h1, (alloc_heap _ _ _ (by omega)).trans q1, q2, ks_twin0 ((ks_alloc _ _ _).trans (ks_alloc _ _ _))⟩
  intro v' w6 τ D hok' hVOK hVK hR
  obtain ⟨h1, h2, h2', h3⟩ := hR
  have k6 := ks_of_twin L5 hVOK hVK h3
  have q1 := (L5.block rfl).1 h2
  have q2 := (L5.block rfl).1 h2'
  obtain ⟨bl, hbl⟩ : ∃ bl, bl = w5.heap.size := ⟨_, rfl⟩
  obtain ⟨bp, hbp⟩ : ∃ bp, bp = w5.heap.size + 1 := ⟨_, rfl⟩
  obtain rfl : v' = .func (.func 38) #[] #[.pointer (some ⟨w5.heap.size, 0, none⟩), .pointer (some ⟨w5.heap.size + 1, 0, none⟩)] := by simpa using h1
  rw [← hbl] at q1
  rw [← hbp] at q2
  rw [← hbp, ← hbl]
  clear h1 h2 h2' h3 hok' hVOK hVK
  rw [Frame.finish_at]
  simp only [Act.put, Act.eval, List.getElem?_toArray, List.getElem?_cons_zero, List.getElem?_cons_succ, Option.bind_some, List.getElem_toArray, List.getElem_cons_zero, List.getElem_cons_succ, List.setIfInBounds_toArray, List.set_cons_succ, List.set_cons_zero]
  refine Win.enter (f := 12) (args := #[memV pA, .func (.func 38) #[] #[.pointer (some ⟨bl, 0, none⟩), .pointer (some ⟨bp, 0, none⟩)]]) (.inl hb) rfl rfl (fun d => ⟨#[], call_enter mild.toMild Try.func12 rfl rfl rfl rfl _ _ (by simp [Act.eval]), fun e he => by simp at he⟩) ?_
  have a6 : Ar w6 pA rA (Go.Proofs.Ytdingbkgkofanaa.upd (fresh 2) 1 7) := ⟨k6.row (fun z => z) (k5.row (fun z => z) a4.hp), k6.row (fun z => z) (k5.row (fun z => z) a4.hr)⟩
  exact H pA rA bq ba bl bp w6 ⟨(kk4.trans k5).trans k6, a6, k6.row (fun z => z) (k5.row (fun z => z) hq), k6.row (fun z => z) ha5, q1, q2, by omega⟩
end
end Go.Proofs.Ytdingbkgkofanaa
