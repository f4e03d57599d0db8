/- AgentCounts, walked: its frame; where it asks nothing; to its first loop. Written by gen/ak_f.py. AgentCounts, walked: its first loop. Written by gen/ak_g.py. AgentCounts, walked: its first loop as a whole, to its second one. Written by gen/ak_h.py. AgentCounts, walked: between its first two loops. Written by gen/ak_i.py. Conditions: as each theorem states them. -/
import Derived.Test.YtodcnhodbeakiaaAkAE
import Derived.Test.YtodcnhodbeakiaaGr
import Derived.Test.YtodcnhodbeakiaaAhIL
namespace Go.Proofs.Ytodcnhodbeakiaa
set_option linter.unusedVariables false
set_option linter.unusedSimpArgs false
set_option maxRecDepth 100000
open Go.Conc
open Go.ConcN (upd_ne upd_same)

def T181 (x : Nat → Value) : Array Value := #[x 0, x 1, x 2, x 3, x 4, x 5, x 6, x 7, x 8, x 9, x 10, x 11, x 12, x 13, x 14, x 15, x 16, x 17, x 18, x 19, x 20, x 21, x 22, x 23, x 24, x 25, x 26, x 27, x 28, x 29, x 30, x 31, x 32, x 33, x 34, x 35, x 36, x 37, x 38, x 39, x 40, x 41, x 42, x 43, x 44, x 45, x 46, x 47, x 48, x 49, x 50, x 51, x 52, x 53, x 54, x 55, x 56, x 57, x 58, x 59, x 60, x 61, x 62, x 63, x 64, x 65, x 66, x 67, x 68, x 69, x 70, x 71, x 72, x 73, x 74, x 75, x 76, x 77, x 78, x 79, x 80, x 81, x 82, x 83, x 84, x 85, x 86, x 87, x 88, x 89, x 90, x 91, x 92, x 93, x 94, x 95, x 96, x 97, x 98, x 99, x 100, x 101, x 102, x 103, x 104, x 105, x 106, x 107, x 108, x 109, x 110, x 111, x 112, x 113, x 114, x 115, x 116, x 117, x 118, x 119, x 120, x 121, x 122, x 123, x 124, x 125, x 126, x 127, x 128, x 129, x 130, x 131, x 132, x 133, x 134, x 135, x 136, x 137, x 138, x 139, x 140, x 141, x 142, x 143, x 144, x 145, x 146, x 147, x 148, x 149, x 150, x 151, x 152, x 153, x 154, x 155, x 156, x 157, x 158, x 159, x 160, x 161, x 162, x 163, x 164, x 165, x 166, x 167, x 168, x 169, x 170, x 171, x 172, x 173, x 174, x 175, x 176, x 177, x 178, x 179, x 180]
def acX1 (f : Func) : Code := loopOf (blockOf (codeR (codeL (codeR (codeR (codeR (codeR (codeR (codeR (codeR (bodyOf f)))))))))))
def acA1 (f : Func) : Code := codeR (codeR (codeR (codeR (codeR (codeR (codeR (codeR (bodyOf f))))))))
def acX2 (f : Func) : Code := loopOf (blockOf (codeR (codeL (codeR (codeR (codeR (codeR (codeR (codeR (codeR (codeR (codeR (codeR (bodyOf f))))))))))))))
def acA2 (f : Func) : Code := codeR (codeR (codeR (codeR (codeR (codeR (codeR (codeR (codeR (codeR (codeR (bodyOf f)))))))))))
def acX3 (f : Func) : Code := loopOf (blockOf (codeR (codeL (codeR (codeR (codeR (codeR (codeR (codeR (codeR (codeR (codeR (codeR (codeR (bodyOf f)))))))))))))))
def acA3 (f : Func) : Code := codeR (codeR (codeR (codeR (codeR (codeR (codeR (codeR (codeR (codeR (codeR (codeR (bodyOf f))))))))))))
def acK1 (f : Func) : List Item := [.inLoop (acX1 f), .inBlock 0, .code (acA1 f)]
def acK2 (f : Func) : List Item := [.inLoop (acX2 f), .inBlock 2, .code (acA2 f)]
def acK3 (f : Func) : List Item := [.inLoop (acX3 f), .inBlock 4, .code (acA3 f)]

section
variable {pl : Nat → Option Place} {n : Nat} {Post : Value → World → Prop} {w W : World} {vt vo : Value} {ao bo : Option Addr} {M K ct co : Nat}

set_option maxHeartbeats 4000000 in
theorem counts_skipM (hpl : ∀ i, pl i = none) (hn : 0 < n) (hM : 8 < M) (H : ∀ w', Ks (fun _ => False) w w' → Post (.bool true) w') :
    Win Try.prog Post pl n 0 (gor (Frame.enter Try.prog 5 #[.slice ao M ct, .slice bo K co] .normal) []) w := by
  have hb : (Frame.enter Try.prog 5 #[.slice ao M ct, .slice bo K co] .normal).kind = .normal := rfl
  rw [enter_at Try.func5 rfl]
  simp only [Try.ntmps5, List.size_toArray, List.length_cons, List.length_nil, Nat.reduceAdd, Nat.reduceSub, Array.replicate_succ, Array.replicate_zero, List.push_toArray, List.append_toArray, List.nil_append, List.cons_append]
  refine Win.seq ?_
  refine Win.region ?_
  simp only [List.size_toArray, List.length_cons, List.length_nil, Nat.reduceAdd, List.range, List.range.loop]
  refine Win.pureOp (v := .bool false) (.inl hb) rfl rfl (fun w => rfl) ?_
  simp only [Act.put, Act.eval, List.getElem?_toArray, List.getElem?_cons_zero, List.getElem?_cons_succ, Option.bind_some, List.getElem_toArray, List.getElem_cons_zero, List.getElem_cons_succ, List.setIfInBounds_toArray, List.set_cons_succ, List.set_cons_zero]
  refine Win.opsEnd ?_
  refine Win.seq ?_
  refine Win.seq ?_
  refine Win.region ?_
  simp only [List.size_toArray, List.length_cons, List.length_nil, Nat.reduceAdd, List.range, List.range.loop]
  refine Win.pureOp (v := .slice ao M ct) (.inl hb) rfl rfl (fun w => rfl) ?_
  simp only [Act.put, Act.eval, List.getElem?_toArray, List.getElem?_cons_zero, List.getElem?_cons_succ, Option.bind_some, List.getElem_toArray, List.getElem_cons_zero, List.getElem_cons_succ, List.setIfInBounds_toArray, List.set_cons_succ, List.set_cons_zero]
  refine Win.pureOp (v := .int .i64 (M : Int)) (.inl hb) rfl rfl (fun w => by rw [Sem.runT_eq]; simp [go_sem, execOp, Act.eval]; try (first | omega | rfl | exact ⟨rfl, rfl⟩ | kernel_rfl)) ?_
  simp only [Act.put, Act.eval, List.getElem?_toArray, List.getElem?_cons_zero, List.getElem?_cons_succ, Option.bind_some, List.getElem_toArray, List.getElem_cons_zero, List.getElem_cons_succ, List.setIfInBounds_toArray, List.set_cons_succ, List.set_cons_zero]
  refine Win.pureOp (v := .bool true) (.inl hb) rfl rfl (fun w => by rw [Sem.runT_eq]; simp [go_sem, execOp, Act.eval]; try (first | omega | rfl | exact ⟨rfl, rfl⟩ | kernel_rfl)) ?_
  simp only [Act.put, Act.eval, List.getElem?_toArray, List.getElem?_cons_zero, List.getElem?_cons_succ, Option.bind_some, List.getElem_toArray, List.getElem_cons_zero, List.getElem_cons_succ, List.setIfInBounds_toArray, List.set_cons_succ, List.set_cons_zero]
  refine Win.pureOp (v := .bool true) (.inl hb) rfl rfl (fun w => rfl) ?_
  simp only [Act.put, Act.eval, List.getElem?_toArray, List.getElem?_cons_zero, List.getElem?_cons_succ, Option.bind_some, List.getElem_toArray, List.getElem_cons_zero, List.getElem_cons_succ, List.setIfInBounds_toArray, List.set_cons_succ, List.set_cons_zero]
  refine Win.opSkip rfl rfl ?_
  simp only [Act.put, Act.eval, List.getElem?_toArray, List.getElem?_cons_zero, List.getElem?_cons_succ, Option.bind_some, List.getElem_toArray, List.getElem_cons_zero, List.getElem_cons_succ, List.setIfInBounds_toArray, List.set_cons_succ, List.set_cons_zero]
  refine Win.opSkip rfl rfl ?_
  simp only [Act.put, Act.eval, List.getElem?_toArray, List.getElem?_cons_zero, List.getElem?_cons_succ, Option.bind_some, List.getElem_toArray, List.getElem_cons_zero, List.getElem_cons_succ, List.setIfInBounds_toArray, List.set_cons_succ, List.set_cons_zero]
  refine Win.opSkip rfl rfl ?_
  simp only [Act.put, Act.eval, List.getElem?_toArray, List.getElem?_cons_zero, List.getElem?_cons_succ, Option.bind_some, List.getElem_toArray, List.getElem_cons_zero, List.getElem_cons_succ, List.setIfInBounds_toArray, List.set_cons_succ, List.set_cons_zero]
  refine Win.pureOp (v := .bool true) (.inl hb) rfl rfl (fun w => by rw [Sem.runT_eq]; simp [go_sem, execOp, Act.eval]; try (first | omega | rfl | exact ⟨rfl, rfl⟩ | kernel_rfl)) ?_
  simp only [Act.put, Act.eval, List.getElem?_toArray, List.getElem?_cons_zero, List.getElem?_cons_succ, Option.bind_some, List.getElem_toArray, List.getElem_cons_zero, List.getElem_cons_succ, List.setIfInBounds_toArray, List.set_cons_succ, List.set_cons_zero]
  refine Win.opsEnd ?_
  refine Win.cond (t := true) rfl ?_
  simp only [if_true, if_false, Bool.false_eq_true]
  refine Win.seq ?_
  refine Win.region ?_
  simp only [List.size_toArray, List.length_cons, List.length_nil, Nat.reduceAdd, List.range, List.range.loop]
  refine Win.enter (f := 9) (args := #[]) (.inl hb) rfl rfl (fun d => ⟨#[], call_enter mild.toMild Try.func9 rfl rfl rfl rfl _ _ (by simp [Act.eval]), fun e he => by simp at he⟩) ?_
  refine wakes_goes hpl hn fun pl' n' w9 hpl' hn' k9 => ?_
  rw [Frame.finish_at]
  simp only [Act.put, Act.eval, List.getElem?_toArray, List.getElem?_cons_zero, List.getElem?_cons_succ, Option.bind_some, List.getElem_toArray, List.getElem_cons_zero, List.getElem_cons_succ, List.setIfInBounds_toArray, List.set_cons_succ, List.set_cons_zero]
  refine Win.pureOp (v := .bool true) (.inl hb) rfl rfl (fun w => by rw [Sem.runT_eq]; simp [go_sem, execOp, Act.eval]; try (first | omega | rfl | exact ⟨rfl, rfl⟩ | kernel_rfl)) ?_
  simp only [Act.put, Act.eval, List.getElem?_toArray, List.getElem?_cons_zero, List.getElem?_cons_succ, Option.bind_some, List.getElem_toArray, List.getElem_cons_zero, List.getElem_cons_succ, List.setIfInBounds_toArray, List.set_cons_succ, List.set_cons_zero]
  refine Win.opsEnd ?_
  refine Win.ret ?_
  refine Win.done hpl' rfl fun d => ?_
  refine ⟨.bool true, #[], ?_, fun e he => by simp at he, H _ (k9.at d)⟩
  exact stepG_done rfl rfl rfl Try.func5 (by kernel_rfl) (fun w => by rw [Sem.runT_eq]; simp [go_sem, results, Try.f5, Frame.at]) _

set_option maxHeartbeats 4000000 in
theorem counts_skipK (hpl : ∀ i, pl i = none) (hn : 0 < n) (hM : ¬ 8 < M) (hK : 200 < K) (H : ∀ w', Ks (fun _ => False) w w' → Post (.bool true) w') :
    Win Try.prog Post pl n 0 (gor (Frame.enter Try.prog 5 #[.slice ao M ct, .slice bo K co] .normal) []) w := by
  have hb : (Frame.enter Try.prog 5 #[.slice ao M ct, .slice bo K co] .normal).kind = .normal := rfl
  rw [enter_at Try.func5 rfl]
  simp only [Try.ntmps5, List.size_toArray, List.length_cons, List.length_nil, Nat.reduceAdd, Nat.reduceSub, Array.replicate_succ, Array.replicate_zero, List.push_toArray, List.append_toArray, List.nil_append, List.cons_append]
  refine Win.seq ?_
  refine Win.region ?_
  simp only [List.size_toArray, List.length_cons, List.length_nil, Nat.reduceAdd, List.range, List.range.loop]
  refine Win.pureOp (v := .bool false) (.inl hb) rfl rfl (fun w => rfl) ?_
  simp only [Act.put, Act.eval, List.getElem?_toArray, List.getElem?_cons_zero, List.getElem?_cons_succ, Option.bind_some, List.getElem_toArray, List.getElem_cons_zero, List.getElem_cons_succ, List.setIfInBounds_toArray, List.set_cons_succ, List.set_cons_zero]
  refine Win.opsEnd ?_
  refine Win.seq ?_
  refine Win.seq ?_
  refine Win.region ?_
  simp only [List.size_toArray, List.length_cons, List.length_nil, Nat.reduceAdd, List.range, List.range.loop]
  refine Win.pureOp (v := .slice ao M ct) (.inl hb) rfl rfl (fun w => rfl) ?_
  simp only [Act.put, Act.eval, List.getElem?_toArray, List.getElem?_cons_zero, List.getElem?_cons_succ, Option.bind_some, List.getElem_toArray, List.getElem_cons_zero, List.getElem_cons_succ, List.setIfInBounds_toArray, List.set_cons_succ, List.set_cons_zero]
  refine Win.pureOp (v := .int .i64 (M : Int)) (.inl hb) rfl rfl (fun w => by rw [Sem.runT_eq]; simp [go_sem, execOp, Act.eval]; try (first | omega | rfl | exact ⟨rfl, rfl⟩ | kernel_rfl)) ?_
  simp only [Act.put, Act.eval, List.getElem?_toArray, List.getElem?_cons_zero, List.getElem?_cons_succ, Option.bind_some, List.getElem_toArray, List.getElem_cons_zero, List.getElem_cons_succ, List.setIfInBounds_toArray, List.set_cons_succ, List.set_cons_zero]
  refine Win.pureOp (v := .bool false) (.inl hb) rfl rfl (fun w => by rw [Sem.runT_eq]; simp [go_sem, execOp, Act.eval]; try (first | omega | rfl | exact ⟨rfl, rfl⟩ | kernel_rfl)) ?_
  simp only [Act.put, Act.eval, List.getElem?_toArray, List.getElem?_cons_zero, List.getElem?_cons_succ, Option.bind_some, List.getElem_toArray, List.getElem_cons_zero, List.getElem_cons_succ, List.setIfInBounds_toArray, List.set_cons_succ, List.set_cons_zero]
  refine Win.pureOp (v := .bool false) (.inl hb) rfl rfl (fun w => rfl) ?_
  simp only [Act.put, Act.eval, List.getElem?_toArray, List.getElem?_cons_zero, List.getElem?_cons_succ, Option.bind_some, List.getElem_toArray, List.getElem_cons_zero, List.getElem_cons_succ, List.setIfInBounds_toArray, List.set_cons_succ, List.set_cons_zero]
  refine Win.pureOp (v := .slice bo K co) (.inl hb) rfl rfl (fun w => rfl) ?_
  simp only [Act.put, Act.eval, List.getElem?_toArray, List.getElem?_cons_zero, List.getElem?_cons_succ, Option.bind_some, List.getElem_toArray, List.getElem_cons_zero, List.getElem_cons_succ, List.setIfInBounds_toArray, List.set_cons_succ, List.set_cons_zero]
  refine Win.pureOp (v := .int .i64 (K : Int)) (.inl hb) rfl rfl (fun w => by rw [Sem.runT_eq]; simp [go_sem, execOp, Act.eval]; try (first | omega | rfl | exact ⟨rfl, rfl⟩ | kernel_rfl)) ?_
  simp only [Act.put, Act.eval, List.getElem?_toArray, List.getElem?_cons_zero, List.getElem?_cons_succ, Option.bind_some, List.getElem_toArray, List.getElem_cons_zero, List.getElem_cons_succ, List.setIfInBounds_toArray, List.set_cons_succ, List.set_cons_zero]
  refine Win.pureOp (v := .bool true) (.inl hb) rfl rfl (fun w => by rw [Sem.runT_eq]; simp [go_sem, execOp, Act.eval]; try (first | omega | rfl | exact ⟨rfl, rfl⟩ | kernel_rfl)) ?_
  simp only [Act.put, Act.eval, List.getElem?_toArray, List.getElem?_cons_zero, List.getElem?_cons_succ, Option.bind_some, List.getElem_toArray, List.getElem_cons_zero, List.getElem_cons_succ, List.setIfInBounds_toArray, List.set_cons_succ, List.set_cons_zero]
  refine Win.pureOp (v := .bool true) (.inl hb) rfl rfl (fun w => by rw [Sem.runT_eq]; simp [go_sem, execOp, Act.eval]; try (first | omega | rfl | exact ⟨rfl, rfl⟩ | kernel_rfl)) ?_
  simp only [Act.put, Act.eval, List.getElem?_toArray, List.getElem?_cons_zero, List.getElem?_cons_succ, Option.bind_some, List.getElem_toArray, List.getElem_cons_zero, List.getElem_cons_succ, List.setIfInBounds_toArray, List.set_cons_succ, List.set_cons_zero]
  refine Win.opsEnd ?_
  refine Win.cond (t := true) rfl ?_
  simp only [if_true, if_false, Bool.false_eq_true]
  refine Win.seq ?_
  refine Win.region ?_
  simp only [List.size_toArray, List.length_cons, List.length_nil, Nat.reduceAdd, List.range, List.range.loop]
  refine Win.enter (f := 9) (args := #[]) (.inl hb) rfl rfl (fun d => ⟨#[], call_enter mild.toMild Try.func9 rfl rfl rfl rfl _ _ (by simp [Act.eval]), fun e he => by simp at he⟩) ?_
  refine wakes_goes hpl hn fun pl' n' w9 hpl' hn' k9 => ?_
  rw [Frame.finish_at]
  simp only [Act.put, Act.eval, List.getElem?_toArray, List.getElem?_cons_zero, List.getElem?_cons_succ, Option.bind_some, List.getElem_toArray, List.getElem_cons_zero, List.getElem_cons_succ, List.setIfInBounds_toArray, List.set_cons_succ, List.set_cons_zero]
  refine Win.pureOp (v := .bool true) (.inl hb) rfl rfl (fun w => by rw [Sem.runT_eq]; simp [go_sem, execOp, Act.eval]; try (first | omega | rfl | exact ⟨rfl, rfl⟩ | kernel_rfl)) ?_
  simp only [Act.put, Act.eval, List.getElem?_toArray, List.getElem?_cons_zero, List.getElem?_cons_succ, Option.bind_some, List.getElem_toArray, List.getElem_cons_zero, List.getElem_cons_succ, List.setIfInBounds_toArray, List.set_cons_succ, List.set_cons_zero]
  refine Win.opsEnd ?_
  refine Win.ret ?_
  refine Win.done hpl' rfl fun d => ?_
  refine ⟨.bool true, #[], ?_, fun e he => by simp at he, H _ (k9.at d)⟩
  exact stepG_done rfl rfl rfl Try.func5 (by kernel_rfl) (fun w => by rw [Sem.runT_eq]; simp [go_sem, results, Try.f5, Frame.at]) _

theorem make_ends (n : Nat) (h2 : n ≤ 4096) (w : World) : (Instr.makeSlice 55 (.int .i64 (n : Int)) (.int .i64 (n : Int))).run Try.prog w = .ok (.slice (some ⟨w.heap.size, 0, none⟩) n n) (w.alloc (.cells (ends64 (List.replicate n 0)) 3)) := by
  obtain ⟨i, hi, hz0, hz1, hz2⟩ := info_parts (P := Try.prog) (e := 3) (z := .int .i64 0) (size := 1) (bytes := 8) (by kernel_rfl)
  have := run_make (P := Try.prog) w 55 3 i (.int .i64 0) Try.underlying55 hi hz0 .i64 .i64 n n (by omega) (Int.le_refl _) (by rw [hz2]; omega) (by omega)
  have e : madeCells #[.int .i64 0] n = ends64 (List.replicate n 0) := by
    apply Array.ext'
    rw [toList_madeCells_one]
    simp [ends64]
  rw [this, hz1]
  simp [Value.cells, e]

set_option maxHeartbeats 4000000 in
theorem counts_in (hpl : ∀ i, pl i = none) (hn : 0 < n) (hM : ¬ 8 < M) (hK : ¬ 200 < K)
    (H : ∀ pA rA be (x : Nat → Value) w', x 0 = .slice ao M ct → x 1 = .slice bo K co → x 5 = .pointer (some ⟨pA, 0, none⟩) → x 7 = .slice (some ⟨be, 0, none⟩) M M → x 8 = .slice none 0 0 → x 9 = .bool true → x 10 = .int .i64 0 →
      Ar w' pA rA (fresh 1) → endsSh be M w' (List.replicate M 0) → Ks (fun _ => False) w w' → w.heap.size ≤ pA → w.heap.size ≤ rA → w.heap.size ≤ be → pA ≠ rA → be ≠ pA → be ≠ rA → be < w'.heap.size →
      Win Try.prog Post pl n 0 (gor ((Frame.enter Try.prog 5 #[.slice ao M ct, .slice bo K co] .normal).at ⟨T181 x, []⟩ (.code (acX1 Try.f5) :: acK1 Try.f5)) []) w') :
    Win Try.prog Post pl n 0 (gor (Frame.enter Try.prog 5 #[.slice ao M ct, .slice bo K co] .normal) []) w := by
  have hb : (Frame.enter Try.prog 5 #[.slice ao M ct, .slice bo K co] .normal).kind = .normal := rfl
  rw [enter_at Try.func5 rfl]
  simp only [Try.ntmps5, List.size_toArray, List.length_cons, List.length_nil, Nat.reduceAdd, Nat.reduceSub, Array.replicate_succ, Array.replicate_zero, List.push_toArray, List.append_toArray, List.nil_append, List.cons_append]
  refine Win.seq ?_
  refine Win.region ?_
  simp only [List.size_toArray, List.length_cons, List.length_nil, Nat.reduceAdd, List.range, List.range.loop]
  refine Win.pureOp (v := .bool false) (.inl hb) rfl rfl (fun w => rfl) ?_
  simp only [Act.put, Act.eval, List.getElem?_toArray, List.getElem?_cons_zero, List.getElem?_cons_succ, Option.bind_some, List.getElem_toArray, List.getElem_cons_zero, List.getElem_cons_succ, List.setIfInBounds_toArray, List.set_cons_succ, List.set_cons_zero]
  refine Win.opsEnd ?_
  refine Win.seq ?_
  refine Win.seq ?_
  refine Win.region ?_
  simp only [List.size_toArray, List.length_cons, List.length_nil, Nat.reduceAdd, List.range, List.range.loop]
  refine Win.pureOp (v := .slice ao M ct) (.inl hb) rfl rfl (fun w => rfl) ?_
  simp only [Act.put, Act.eval, List.getElem?_toArray, List.getElem?_cons_zero, List.getElem?_cons_succ, Option.bind_some, List.getElem_toArray, List.getElem_cons_zero, List.getElem_cons_succ, List.setIfInBounds_toArray, List.set_cons_succ, List.set_cons_zero]
  refine Win.pureOp (v := .int .i64 (M : Int)) (.inl hb) rfl rfl (fun w => by rw [Sem.runT_eq]; simp [go_sem, execOp, Act.eval]; try (first | omega | rfl | exact ⟨rfl, rfl⟩ | kernel_rfl)) ?_
  simp only [Act.put, Act.eval, List.getElem?_toArray, List.getElem?_cons_zero, List.getElem?_cons_succ, Option.bind_some, List.getElem_toArray, List.getElem_cons_zero, List.getElem_cons_succ, List.setIfInBounds_toArray, List.set_cons_succ, List.set_cons_zero]
  refine Win.pureOp (v := .bool false) (.inl hb) rfl rfl (fun w => by rw [Sem.runT_eq]; simp [go_sem, execOp, Act.eval]; try (first | omega | rfl | exact ⟨rfl, rfl⟩ | kernel_rfl)) ?_
  simp only [Act.put, Act.eval, List.getElem?_toArray, List.getElem?_cons_zero, List.getElem?_cons_succ, Option.bind_some, List.getElem_toArray, List.getElem_cons_zero, List.getElem_cons_succ, List.setIfInBounds_toArray, List.set_cons_succ, List.set_cons_zero]
  refine Win.pureOp (v := .bool false) (.inl hb) rfl rfl (fun w => rfl) ?_
  simp only [Act.put, Act.eval, List.getElem?_toArray, List.getElem?_cons_zero, List.getElem?_cons_succ, Option.bind_some, List.getElem_toArray, List.getElem_cons_zero, List.getElem_cons_succ, List.setIfInBounds_toArray, List.set_cons_succ, List.set_cons_zero]
  refine Win.pureOp (v := .slice bo K co) (.inl hb) rfl rfl (fun w => rfl) ?_
  simp only [Act.put, Act.eval, List.getElem?_toArray, List.getElem?_cons_zero, List.getElem?_cons_succ, Option.bind_some, List.getElem_toArray, List.getElem_cons_zero, List.getElem_cons_succ, List.setIfInBounds_toArray, List.set_cons_succ, List.set_cons_zero]
  refine Win.pureOp (v := .int .i64 (K : Int)) (.inl hb) rfl rfl (fun w => by rw [Sem.runT_eq]; simp [go_sem, execOp, Act.eval]; try (first | omega | rfl | exact ⟨rfl, rfl⟩ | kernel_rfl)) ?_
  simp only [Act.put, Act.eval, List.getElem?_toArray, List.getElem?_cons_zero, List.getElem?_cons_succ, Option.bind_some, List.getElem_toArray, List.getElem_cons_zero, List.getElem_cons_succ, List.setIfInBounds_toArray, List.set_cons_succ, List.set_cons_zero]
  refine Win.pureOp (v := .bool false) (.inl hb) rfl rfl (fun w => by rw [Sem.runT_eq]; simp [go_sem, execOp, Act.eval]; try (first | omega | rfl | exact ⟨rfl, rfl⟩ | kernel_rfl)) ?_
  simp only [Act.put, Act.eval, List.getElem?_toArray, List.getElem?_cons_zero, List.getElem?_cons_succ, Option.bind_some, List.getElem_toArray, List.getElem_cons_zero, List.getElem_cons_succ, List.setIfInBounds_toArray, List.set_cons_succ, List.set_cons_zero]
  refine Win.pureOp (v := .bool false) (.inl hb) rfl rfl (fun w => by rw [Sem.runT_eq]; simp [go_sem, execOp, Act.eval]; try (first | omega | rfl | exact ⟨rfl, rfl⟩ | kernel_rfl)) ?_
  simp only [Act.put, Act.eval, List.getElem?_toArray, List.getElem?_cons_zero, List.getElem?_cons_succ, Option.bind_some, List.getElem_toArray, List.getElem_cons_zero, List.getElem_cons_succ, List.setIfInBounds_toArray, List.set_cons_succ, List.set_cons_zero]
  refine Win.opsEnd ?_
  refine Win.cond (t := false) rfl ?_
  simp only [if_true, if_false, Bool.false_eq_true]
  refine Win.skip ?_
  refine Win.seq ?_
  refine Win.region ?_
  simp only [List.size_toArray, List.length_cons, List.length_nil, Nat.reduceAdd, List.range, List.range.loop]
  refine Win.enter (f := 10) (args := #[.int .i64 1]) (.inl hb) rfl rfl (fun d => ⟨#[], call_enter mild.toMild Try.func10 rfl rfl rfl rfl _ _ (by simp [Act.eval]), fun e he => by simp at he⟩) ?_
  have L0 := lies_none hpl w
  refine Win.calls mild L0 (stok_at rfl rfl (by simp) (by kernel_rfl)) (R := fun e w' => e = .returned (.tuple #[.pointer (some ⟨w.heap.size + 1, 0, none⟩), .int .i64 0]) ∧ Ar w' (w.heap.size + 1) w.heap.size (fresh 1) ∧ Ks (fun _ => False) (L0.veil.world (fun _ _ => 0) 0 w) w') (fun τ => ?_) (fun e w' h => ⟨_, h.1⟩) ?_
  · refine (new_good _ 1 (by omega) (by omega)).mono ?_
    rintro e w' ⟨h1, h2, h3⟩
    rw [veil_size] at h1 h2
    exact ⟨h1, h2, ks_twin0 h3.ks0⟩
  intro v' w1 τ D hok' hVOK hVK hR
  obtain ⟨h1, h2, h3⟩ := hR
  obtain rfl : v' = .tuple #[.pointer (some ⟨w.heap.size + 1, 0, none⟩), .int .i64 0] := by simpa using h1
  have k1 := ks_of_twin L0 hVOK hVK h3
  have a1 : Ar w1 (w.heap.size + 1) w.heap.size (fresh 1) := ⟨(L0.block rfl).1 h2.hp, (L0.block rfl).1 h2.hr⟩
  clear h1 h2 h3 hok' hVOK hVK
  obtain ⟨pA, hpA⟩ : ∃ pA, pA = w.heap.size + 1 := ⟨_, rfl⟩
  obtain ⟨rA, hrA⟩ : ∃ rA, rA = w.heap.size := ⟨_, rfl⟩
  rw [← hpA, ← hrA] at a1
  rw [← hpA]
  have gpA : w.heap.size ≤ pA := by omega
  have grA : w.heap.size ≤ rA := by omega
  clear hpA hrA
  rw [Frame.finish_at]
  simp only [Act.put, Act.eval, List.getElem?_toArray, List.getElem?_cons_zero, List.getElem?_cons_succ, Option.bind_some, List.getElem_toArray, List.getElem_cons_zero, List.getElem_cons_succ, List.setIfInBounds_toArray, List.set_cons_succ, List.set_cons_zero]
  refine Win.pureOp (v := .tuple #[.pointer (some ⟨pA, 0, none⟩), .int .i64 0]) (.inl hb) rfl rfl (fun w => rfl) ?_
  simp only [Act.put, Act.eval, List.getElem?_toArray, List.getElem?_cons_zero, List.getElem?_cons_succ, Option.bind_some, List.getElem_toArray, List.getElem_cons_zero, List.getElem_cons_succ, List.setIfInBounds_toArray, List.set_cons_succ, List.set_cons_zero]
  refine Win.pureOp (v := .pointer (some ⟨pA, 0, none⟩)) (.inl hb) rfl rfl (fun w => by rw [Sem.runT_eq]; simp [go_sem, execOp, Act.eval]; try (first | omega | rfl | exact ⟨rfl, rfl⟩ | kernel_rfl)) ?_
  simp only [Act.put, Act.eval, List.getElem?_toArray, List.getElem?_cons_zero, List.getElem?_cons_succ, Option.bind_some, List.getElem_toArray, List.getElem_cons_zero, List.getElem_cons_succ, List.setIfInBounds_toArray, List.set_cons_succ, List.set_cons_zero]
  refine Win.pureOp (v := .int .i64 0) (.inl hb) rfl rfl (fun w => by rw [Sem.runT_eq]; simp [go_sem, execOp, Act.eval]; try (first | omega | rfl | exact ⟨rfl, rfl⟩ | kernel_rfl)) ?_
  simp only [Act.put, Act.eval, List.getElem?_toArray, List.getElem?_cons_zero, List.getElem?_cons_succ, Option.bind_some, List.getElem_toArray, List.getElem_cons_zero, List.getElem_cons_succ, List.setIfInBounds_toArray, List.set_cons_succ, List.set_cons_zero]
  refine Win.pureOp (v := .pointer (some ⟨pA, 0, none⟩)) (.inl hb) rfl rfl (fun w => rfl) ?_
  simp only [Act.put, Act.eval, List.getElem?_toArray, List.getElem?_cons_zero, List.getElem?_cons_succ, Option.bind_some, List.getElem_toArray, List.getElem_cons_zero, List.getElem_cons_succ, List.setIfInBounds_toArray, List.set_cons_succ, List.set_cons_zero]
  refine Win.pureOp (v := .int .i64 0) (.inl hb) rfl rfl (fun w => rfl) ?_
  simp only [Act.put, Act.eval, List.getElem?_toArray, List.getElem?_cons_zero, List.getElem?_cons_succ, Option.bind_some, List.getElem_toArray, List.getElem_cons_zero, List.getElem_cons_succ, List.setIfInBounds_toArray, List.set_cons_succ, List.set_cons_zero]
  refine Win.opsEnd ?_
  refine Win.seq ?_
  refine Win.seq ?_
  refine Win.region ?_
  simp only [List.size_toArray, List.length_cons, List.length_nil, Nat.reduceAdd, List.range, List.range.loop]
  refine Win.pureOp (v := .pointer (some ⟨pA, 0, none⟩)) (.inl hb) rfl rfl (fun w => rfl) ?_
  simp only [Act.put, Act.eval, List.getElem?_toArray, List.getElem?_cons_zero, List.getElem?_cons_succ, Option.bind_some, List.getElem_toArray, List.getElem_cons_zero, List.getElem_cons_succ, List.setIfInBounds_toArray, List.set_cons_succ, List.set_cons_zero]
  refine Win.pureOp (v := .bool false) (.inl hb) rfl rfl (fun w => by rw [Sem.runT_eq]; simp [go_sem, execOp, Act.eval]; try (first | omega | rfl | exact ⟨rfl, rfl⟩ | kernel_rfl)) ?_
  simp only [Act.put, Act.eval, List.getElem?_toArray, List.getElem?_cons_zero, List.getElem?_cons_succ, Option.bind_some, List.getElem_toArray, List.getElem_cons_zero, List.getElem_cons_succ, List.setIfInBounds_toArray, List.set_cons_succ, List.set_cons_zero]
  refine Win.pureOp (v := .bool false) (.inl hb) rfl rfl (fun w => rfl) ?_
  simp only [Act.put, Act.eval, List.getElem?_toArray, List.getElem?_cons_zero, List.getElem?_cons_succ, Option.bind_some, List.getElem_toArray, List.getElem_cons_zero, List.getElem_cons_succ, List.setIfInBounds_toArray, List.set_cons_succ, List.set_cons_zero]
  refine Win.pureOp (v := .int .i64 0) (.inl hb) rfl rfl (fun w => rfl) ?_
  simp only [Act.put, Act.eval, List.getElem?_toArray, List.getElem?_cons_zero, List.getElem?_cons_succ, Option.bind_some, List.getElem_toArray, List.getElem_cons_zero, List.getElem_cons_succ, List.setIfInBounds_toArray, List.set_cons_succ, List.set_cons_zero]
  refine Win.pureOp (v := .bool false) (.inl hb) rfl rfl (fun w => by rw [Sem.runT_eq]; simp [go_sem, execOp, Act.eval]; try (first | omega | rfl | exact ⟨rfl, rfl⟩ | kernel_rfl)) ?_
  simp only [Act.put, Act.eval, List.getElem?_toArray, List.getElem?_cons_zero, List.getElem?_cons_succ, Option.bind_some, List.getElem_toArray, List.getElem_cons_zero, List.getElem_cons_succ, List.setIfInBounds_toArray, List.set_cons_succ, List.set_cons_zero]
  refine Win.pureOp (v := .bool false) (.inl hb) rfl rfl (fun w => by rw [Sem.runT_eq]; simp [go_sem, execOp, Act.eval]; try (first | omega | rfl | exact ⟨rfl, rfl⟩ | kernel_rfl)) ?_
  simp only [Act.put, Act.eval, List.getElem?_toArray, List.getElem?_cons_zero, List.getElem?_cons_succ, Option.bind_some, List.getElem_toArray, List.getElem_cons_zero, List.getElem_cons_succ, List.setIfInBounds_toArray, List.set_cons_succ, List.set_cons_zero]
  refine Win.opsEnd ?_
  refine Win.cond (t := false) rfl ?_
  simp only [if_true, if_false, Bool.false_eq_true]
  refine Win.skip ?_
  refine Win.seq ?_
  obtain ⟨be, hbe⟩ : ∃ be, be = w1.heap.size := ⟨_, rfl⟩
  have hmk := fun w => make_ends M (by omega) w
  refine (lies_none hpl w1).code (fun _ _ => rfl) (own := fun _ => False) (S := fun _ => False) (A := fun _ => True) (Priv.const True) trivial (fun _ h => h.elim) (R := fun a' o w' => o = (· = be) ∧ a' = (⟨#[.slice ao M ct, .slice bo K co, undef, undef, .bool false, .pointer (some ⟨pA, 0, none⟩), .int .i64 0, .slice (some ⟨be, 0, none⟩) M M, undef, undef, undef, undef, undef, undef, undef, undef, undef, undef, undef, undef, undef, .slice ao M ct, .int .i64 (M : Int), .bool false, .bool false, .slice bo K co, .int .i64 (K : Int), .bool false, .bool false, undef, .tuple #[.pointer (some ⟨pA, 0, none⟩), .int .i64 0], .tuple #[.pointer (some ⟨pA, 0, none⟩), .int .i64 0], .pointer (some ⟨pA, 0, none⟩), .int .i64 0, .pointer (some ⟨pA, 0, none⟩), .bool false, .bool false, .int .i64 0, .bool false, .bool false, .slice ao M ct, .int .i64 (M : Int), .slice (some ⟨be, 0, none⟩) M M, undef, undef, undef, undef, undef, undef, undef, undef, undef, undef, undef, undef, undef, undef, undef, undef, undef, undef, undef, undef, undef, undef, undef, undef, undef, undef, undef, undef, undef, undef, undef, undef, undef, undef, undef, undef, undef, undef, undef, undef, undef, undef, undef, undef, undef, undef, undef, undef, undef, undef, undef, undef, undef, undef, undef, undef, undef, undef, undef, undef, undef, undef, undef, undef, undef, undef, undef, undef, undef, undef, undef, undef, undef, undef, undef, undef, undef, undef, undef, undef, undef, undef, undef, undef, undef, undef, undef, undef, undef, undef, undef, undef, undef, undef, undef, undef, undef, undef, undef, undef, undef, undef, undef, undef, undef, undef, undef, undef, undef, undef, undef, undef, undef, undef, undef, undef, undef, undef, undef, undef, undef, undef, undef, undef, undef, undef, undef, undef, undef, undef, undef, undef, undef, undef, undef, undef, undef, undef], []⟩ : Act) ∧ endsSh be M w' (List.replicate M 0)) (fun a' o => (priv_ends be M _).tied _ o) (stok_at rfl rfl (by simp) (by kernel_rfl)) (fun wt Q _ hz _ hQ => ?_) ?_
  · have hz' : be = wt.heap.size := by rw [hbe, hz]
    subst hz'
    clear hz hbe
    go_wp2
    refine hQ _ _ _ (fun x hx => .inr ⟨by omega, ?_⟩) ⟨rfl, rfl, ⟨alloc_new wt _, by simp⟩⟩ (ks_alloc _ wt _)
    have hx' : x = wt.heap.size := hx
    subst hx'
    exact lt_of_block (alloc_new wt _)
  intro a' o w2 _ hR k12 L2
  obtain ⟨_, rfl, hes⟩ := hR
  refine Win.seq ?_
  refine Win.region ?_
  simp only [List.size_toArray, List.length_cons, List.length_nil, Nat.reduceAdd, List.range, List.range.loop]
  refine Win.pureOp (v := .slice none 0 0) (.inl hb) rfl rfl (fun w => rfl) ?_
  simp only [Act.put, Act.eval, List.getElem?_toArray, List.getElem?_cons_zero, List.getElem?_cons_succ, Option.bind_some, List.getElem_toArray, List.getElem_cons_zero, List.getElem_cons_succ, List.setIfInBounds_toArray, List.set_cons_succ, List.set_cons_zero]
  refine Win.opsEnd ?_
  refine Win.seq ?_
  refine Win.region ?_
  simp only [List.size_toArray, List.length_cons, List.length_nil, Nat.reduceAdd, List.range, List.range.loop]
  refine Win.pureOp (v := .bool true) (.inl hb) rfl rfl (fun w => rfl) ?_
  simp only [Act.put, Act.eval, List.getElem?_toArray, List.getElem?_cons_zero, List.getElem?_cons_succ, Option.bind_some, List.getElem_toArray, List.getElem_cons_zero, List.getElem_cons_succ, List.setIfInBounds_toArray, List.set_cons_succ, List.set_cons_zero]
  refine Win.opsEnd ?_
  refine Win.seq ?_
  refine Win.seq ?_
  refine Win.region ?_
  simp only [List.size_toArray, List.length_cons, List.length_nil, Nat.reduceAdd, List.range, List.range.loop]
  refine Win.pureOp (v := .int .i64 0) (.inl hb) rfl rfl (fun w => rfl) ?_
  simp only [Act.put, Act.eval, List.getElem?_toArray, List.getElem?_cons_zero, List.getElem?_cons_succ, Option.bind_some, List.getElem_toArray, List.getElem_cons_zero, List.getElem_cons_succ, List.setIfInBounds_toArray, List.set_cons_succ, List.set_cons_zero]
  refine Win.opsEnd ?_
  refine Win.block ?_
  refine Win.loop ?_
  have l1 := a1.lt
  have hz := k12.size
  have n1 := a1.ne
  exact H pA rA be (fun j => match j with | 0 => .slice ao M ct | 1 => .slice bo K co | 4 => .bool false | 5 => .pointer (some ⟨pA, 0, none⟩) | 6 => .int .i64 0 | 7 => .slice (some ⟨be, 0, none⟩) M M | 8 => .slice none 0 0 | 9 => .bool true | 10 => .int .i64 0 | 21 => .slice ao M ct | 22 => .int .i64 (M : Int) | 23 => .bool false | 24 => .bool false | 25 => .slice bo K co | 26 => .int .i64 (K : Int) | 27 => .bool false | 28 => .bool false | 30 => .tuple #[.pointer (some ⟨pA, 0, none⟩), .int .i64 0] | 31 => .tuple #[.pointer (some ⟨pA, 0, none⟩), .int .i64 0] | 32 => .pointer (some ⟨pA, 0, none⟩) | 33 => .int .i64 0 | 34 => .pointer (some ⟨pA, 0, none⟩) | 35 => .bool false | 36 => .bool false | 37 => .int .i64 0 | 38 => .bool false | 39 => .bool false | 40 => .slice ao M ct | 41 => .int .i64 (M : Int) | 42 => .slice (some ⟨be, 0, none⟩) M M | j => undef) _ rfl rfl rfl rfl rfl rfl rfl ⟨k12.row (fun z => z) a1.hp, k12.row (fun z => z) a1.hr⟩ hes (k1.trans k12) (by omega) (by omega) (by have := k1.size; omega) n1 (by omega) (by omega) (lt_of_block hes.1)
end
end Go.Proofs.Ytodcnhodbeakiaa

namespace Go.Proofs.Ytodcnhodbeakiaa
set_option linter.unusedVariables false
set_option linter.unusedSimpArgs false
set_option maxRecDepth 100000
open Go.Conc
open Go.ConcN (upd_ne upd_same)

theorem Priv.exTied {ι : Type} {o' : ι → Nat → Prop} {B : ι → World → Prop} (h : ∀ i, Priv (o' i) (B i)) (p : ι → Prop) (o : Nat → Prop) : Priv o (fun w => ∃ i, o = o' i ∧ p i ∧ B i w) := by
  refine ⟨fun w w' hh hb => ?_, fun w b hh hb => ?_, fun w b hh hb => ?_⟩
  · obtain ⟨i, h1, h2, h3⟩ := hh
    exact ⟨i, h1, h2, (h i).st _ _ h3 fun b hb' => hb b (by rw [h1]; exact hb')⟩
  · obtain ⟨i, h1, h2, h3⟩ := hh
    exact (h i).np _ _ h3 (by rw [← h1]; exact hb)
  · obtain ⟨i, h1, h2, h3⟩ := hh
    exact (h i).lt _ _ h3 (by rw [← h1]; exact hb)
theorem priv_rw (T : TypeId) (sz base : Nat) (v : Value) (n : Nat) (xs : List Value) : Priv (fun b => b ∈ blk v) (fun w => Rw T sz base w v n xs) := by
  refine ⟨fun w w' h hb => ⟨h.own.1, ?_⟩, fun w b h hb => ?_, fun w b h hb => ?_⟩
  · rcases h.own.2 with h0 | ⟨b, c, cur, rfl, hge, hbk, r⟩
    · exact .inl h0
    · exact .inr ⟨b, c, cur, rfl, hge, (hb b (by simp [blk_some])).trans hbk, r⟩
  · obtain ⟨_, cur, hc⟩ := h.block b hb
    rw [hc]; rfl
  · obtain ⟨_, cur, hc⟩ := h.block b hb
    exact lt_of_block hc

/-- The agents' row. -/
def ptrs (ag : Nat → Ag) (k : Nat) : List Value := (List.range k).map fun j => .pointer (some ⟨(ag j).p, 0, none⟩)
theorem ptrs_succ (ag : Nat → Ag) (a : Ag) (k : Nat) : ptrs (fun j => if j = k then a else ag j) (k + 1) = ptrs ag k ++ [.pointer (some ⟨a.p, 0, none⟩)] := by
  unfold ptrs
  rw [List.range_succ, List.map_append]
  congr 1
  · apply List.map_congr_left
    intro j hj
    have := List.mem_range.1 hj
    show Value.pointer (some ⟨(if j = k then a else ag j).p, 0, none⟩) = _
    rw [if_neg (by omega)]
  · simp
theorem ptrs_len (ag : Nat → Ag) (k : Nat) : (ptrs ag k).length = k := by simp [ptrs]

/-- What is known between the law's own steps. -/
structure AcW (Post : Value → World → Prop) (W : World) (pA rA be M k : Nat) (ag : Nat → Ag) (tr : Nat → Nat) (va : Value) (pl : Nat → Option Place) (F : Nat → Option (Nat × Nat)) (col : Nat → Col) (w : World) (g : List Int) (s : St) : Prop where
  crew : Crew Post (endsSh be M) (· = be) pA rA (memV pA) 1 k ag (fun j => ctree j (tr j)) pl F col w g
  ar : Ar w pA rA s
  all : Rw 33 1 W.heap.size w va k (ptrs ag k)
  allc : ∀ b ∈ blk va, col b = .main
  old : ∀ b, b < W.heap.size → col b = .main
  ks : Ks (fun _ => False) W w
section
variable {Post : Value → World → Prop} {W : World} {pA rA be M k n : Nat} {ag : Nat → Ag} {tr : Nat → Nat} {va : Value} {pl : Nat → Option Place} {F : Nat → Option (Nat × Nat)} {col : Nat → Col} {w w' : World} {g : List Int} {s : St}
theorem AcW.be_ge (A : AcW Post W pA rA be M k ag tr va pl F col w g s) : W.heap.size ≤ be := by
  rcases Nat.lt_or_ge be W.heap.size with z | z
  · have := A.old be z; rw [A.crew.desk.lay.sb be rfl] at this; cases this
  · exact z
theorem AcW.ar_ge (A : AcW Post W pA rA be M k ag tr va pl F col w g s) : W.heap.size ≤ pA ∧ W.heap.size ≤ rA := by
  constructor
  · rcases Nat.lt_or_ge pA W.heap.size with z | z
    · have := A.old pA z; rw [A.crew.desk.lay.ar.1] at this; cases this
    · exact z
  · rcases Nat.lt_or_ge rA W.heap.size with z | z
    · have := A.old rA z; rw [A.crew.desk.lay.ar.2] at this; cases this
    · exact z
/-- Something new is made. -/
theorem AcW.made (A : AcW Post W pA rA be M k ag tr va pl F col w g s) (D : Desk (· = be) pA rA pl F col w') (ks : Ks (fun _ => False) w w') : AcW Post W pA rA be M k ag tr va pl F col w' g s :=
  ⟨A.crew.keep D ks (fun _ _ z => z.elim) ((priv_ends be M g).st _ _ A.crew.sh fun b hb => ks.block b ((priv_ends be M g).lt _ _ A.crew.sh hb) fun z => z), ⟨ks.row (fun z => z) A.ar.hp, ks.row (fun z => z) A.ar.hr⟩, (priv_rw _ _ _ _ _ _).st _ _ A.all fun b hb => ks.block b ((priv_rw _ _ _ _ _ _).lt _ _ A.all hb) fun z => z, A.allc, A.old, A.ks.trans ks⟩

theorem info_agent : ∃ i z, Try.prog.info? 33 = some i ∧ i.zero = some z ∧ i.size = 1 ∧ i.bytes = 8 ∧ z.cells.size = 1 := by
  obtain ⟨i, hi, hz0, hz1, hz2⟩ := info_parts (show (Try.prog.info? 33).map (fun i => (i.zero, i.size, i.bytes)) = some (some (.pointer none), 1, 8) by kernel_rfl)
  exact ⟨i, _, hi, hz0, hz1, hz2, rfl⟩

set_option maxHeartbeats 8000000 in
/-- One agent more. -/
theorem ac_body1 {args : Array Value} {x : Nat → Value} {vo : Value} {bt ot ct N : Nat} (A : AcW Post W pA rA be M k ag tr va pl F col w g s) (hk : k < M) (hM : M ≤ 8) (hx0 : x 0 = .slice (some ⟨bt, ot, none⟩) M ct) (hx5 : x 5 = .pointer (some ⟨pA, 0, none⟩)) (hx7 : x 7 = .slice (some ⟨be, 0, none⟩) M M) (hx8 : x 8 = va) (hx9 : x 9 = .bool true) (hx10 : x 10 = .int .i64 k)
    (hcl : w.cell? ⟨bt, ot + k, none⟩ = some (.int .u8 N)) (hN : N ≤ 255)
    (H : ∀ a va' pl' F' col' w' (x' : Nat → Value), AcW Post W pA rA be M (k + 1) (fun j => if j = k then a else ag j) (fun j => if j = k then N else tr j) va' pl' F' col' w' (if N = 0 then inc k g else g) s → x' 0 = x 0 → x' 1 = x 1 → x' 5 = x 5 → x' 7 = x 7 → x' 8 = va' → x' 9 = .bool true → x' 10 = .int .i64 ((k + 1 : Nat) : Int) →
      Win Try.prog Post pl' (1 + k + 1) 0 (gor ((Frame.enter Try.prog 5 args .normal).at ⟨T181 x', []⟩ (acK1 Try.f5)) []) w') :
    Win Try.prog Post pl (1 + k) 0 (gor ((Frame.enter Try.prog 5 args .normal).at ⟨T181 x, []⟩ (.code (acX1 Try.f5) :: acK1 Try.f5)) []) w := by
  have hb : (Frame.enter Try.prog 5 args .normal).kind = .normal := rfl
  subst hx8
  have hw := wrap_small (i := k) (by omega)
  simp only [bodyOf, Try.f5, codeL, codeR, blockOf, loopOf, acX1, Option.getD_some, T181]
  simp only [hx0, hx5, hx7, hx9, hx10]
  refine Win.seq ?_
  refine Win.seq ?_
  refine Win.region ?_
  simp only [List.size_toArray, List.length_cons, List.length_nil, Nat.reduceAdd, List.range, List.range.loop]
  refine Win.pureOp (v := .int .i64 k) (.inl hb) rfl rfl (fun w => by rw [Sem.runT_eq]; simp [go_sem, execOp, Act.eval]; try (first | omega | rfl | exact ⟨rfl, rfl⟩ | kernel_rfl)) ?_
  simp only [Act.put, Act.eval, List.getElem?_toArray, List.getElem?_cons_zero, List.getElem?_cons_succ, Option.bind_some, List.getElem_toArray, List.getElem_cons_zero, List.getElem_cons_succ, List.setIfInBounds_toArray, List.set_cons_succ, List.set_cons_zero]
  refine Win.pureOp (v := .slice (some ⟨bt, ot, none⟩) M ct) (.inl hb) rfl rfl (fun w => by rw [Sem.runT_eq]; simp [go_sem, execOp, Act.eval]; try (first | omega | rfl | exact ⟨rfl, rfl⟩ | kernel_rfl)) ?_
  simp only [Act.put, Act.eval, List.getElem?_toArray, List.getElem?_cons_zero, List.getElem?_cons_succ, Option.bind_some, List.getElem_toArray, List.getElem_cons_zero, List.getElem_cons_succ, List.setIfInBounds_toArray, List.set_cons_succ, List.set_cons_zero]
  refine Win.pureOp (v := .int .i64 (M : Int)) (.inl hb) rfl rfl (fun w => by rw [Sem.runT_eq]; simp [go_sem, execOp, Act.eval]; try (first | omega | rfl | exact ⟨rfl, rfl⟩ | kernel_rfl)) ?_
  simp only [Act.put, Act.eval, List.getElem?_toArray, List.getElem?_cons_zero, List.getElem?_cons_succ, Option.bind_some, List.getElem_toArray, List.getElem_cons_zero, List.getElem_cons_succ, List.setIfInBounds_toArray, List.set_cons_succ, List.set_cons_zero]
  refine Win.pureOp (v := .bool true) (.inl hb) rfl rfl (fun w => by rw [Sem.runT_eq]; simp [go_sem, execOp, Act.eval, hk]; try (first | omega | rfl | exact ⟨rfl, rfl⟩ | kernel_rfl)) ?_
  simp only [Act.put, Act.eval, List.getElem?_toArray, List.getElem?_cons_zero, List.getElem?_cons_succ, Option.bind_some, List.getElem_toArray, List.getElem_cons_zero, List.getElem_cons_succ, List.setIfInBounds_toArray, List.set_cons_succ, List.set_cons_zero]
  refine Win.opsEnd ?_
  refine Win.cond (t := true) rfl ?_
  simp only [if_true, if_false, Bool.false_eq_true]
  refine Win.skip ?_
  refine Win.seq ?_
  refine Win.block ?_
  refine Win.seq ?_
  obtain ⟨bn, hbn⟩ : ∃ bn, bn = w.heap.size := ⟨_, rfl⟩
  have en := IntWalk.i64_in (N : Int) (by omega)
  have D0 := A.crew.desk
  refine D0.code (own := fun _ => False) (S := fun _ => False) (A := fun _ => True) (Priv.const True) trivial (fun _ h => h.elim) (R := fun a' o w' => o = (· = bn) ∧ a' = (⟨#[.slice (some ⟨bt, ot, none⟩) M ct, x 1, x 2, x 3, x 4, .pointer (some ⟨pA, 0, none⟩), x 6, .slice (some ⟨be, 0, none⟩) M M, x 8, .bool true, .int .i64 k, .pointer (some ⟨bn, 0, none⟩), x 12, x 13, x 14, x 15, x 16, x 17, x 18, x 19, x 20, x 21, x 22, x 23, x 24, x 25, x 26, x 27, x 28, x 29, x 30, x 31, x 32, x 33, x 34, x 35, x 36, x 37, x 38, x 39, x 40, x 41, x 42, .int .i64 k, .slice (some ⟨bt, ot, none⟩) M ct, .int .i64 (M : Int), .bool true, x 47, x 48, .slice (some ⟨bt, ot, none⟩) M ct, .int .i64 k, .pointer (some ⟨bt, ot + k, none⟩), .int .u8 N, .int .i64 N, x 54, x 55, x 56, x 57, x 58, x 59, x 60, x 61, x 62, x 63, x 64, x 65, x 66, x 67, x 68, x 69, x 70, x 71, x 72, x 73, x 74, x 75, x 76, x 77, x 78, x 79, x 80, x 81, x 82, x 83, x 84, x 85, x 86, x 87, x 88, x 89, x 90, x 91, x 92, x 93, x 94, x 95, x 96, x 97, x 98, x 99, x 100, x 101, x 102, x 103, x 104, x 105, x 106, x 107, x 108, x 109, x 110, x 111, x 112, x 113, x 114, x 115, x 116, x 117, x 118, x 119, x 120, x 121, x 122, x 123, x 124, x 125, x 126, x 127, x 128, x 129, x 130, x 131, x 132, x 133, x 134, x 135, x 136, x 137, x 138, x 139, x 140, x 141, x 142, x 143, x 144, x 145, x 146, x 147, x 148, x 149, x 150, x 151, x 152, x 153, x 154, x 155, x 156, x 157, x 158, x 159, x 160, x 161, x 162, x 163, x 164, x 165, x 166, x 167, x 168, x 169, x 170, x 171, x 172, x 173, x 174, x 175, x 176, x 177, x 178, x 179, x 180], []⟩ : Act) ∧ w'.heap[bn]? = some (.cells #[.int .i64 N] 3 (0, 0))) (fun a' o => (Priv.row bn _ _ _).tied _ o) (stok_at rfl rfl (by simp) (by kernel_rfl)) (fun wt Q _ hz hcell hQ => ?_) ?_
  · have h1 : wt.cell? ⟨bt, ot + k, none⟩ = some (.int .u8 N) := (hcell _).trans hcl
    have hz' : bn = wt.heap.size := by rw [hbn, hz]
    subst hz'
    clear hz hbn hcell D0 A H
    go_wp2
    refine hQ _ _ _ (fun y hy => .inr ⟨by have hy' : y = wt.heap.size := hy; omega, ?_⟩) ⟨rfl, rfl, alloc_new wt _⟩ (ks_alloc _ wt _)
    have hy' : y = wt.heap.size := hy
    subst hy'
    exact lt_of_block (alloc_new wt _)
  intro a' o w1 _ hR ks1 D1
  obtain ⟨_, rfl, hrn⟩ := hR
  have A1 := A.made D1 ks1
  clear D0
  refine Win.seq ?_
  obtain ⟨bd, hbd⟩ : ∃ bd, bd = w1.heap.size := ⟨_, rfl⟩
  refine D1.code (own := fun _ => False) (S := fun _ => False) (A := fun _ => True) (Priv.const True) trivial (fun _ h => h.elim) (R := fun a' o w' => o = (· = bd) ∧ a' = (⟨#[.slice (some ⟨bt, ot, none⟩) M ct, x 1, x 2, x 3, x 4, .pointer (some ⟨pA, 0, none⟩), x 6, .slice (some ⟨be, 0, none⟩) M M, x 8, .bool true, .int .i64 k, .pointer (some ⟨bn, 0, none⟩), .pointer (some ⟨bd, 0, none⟩), x 13, x 14, x 15, x 16, x 17, x 18, x 19, x 20, x 21, x 22, x 23, x 24, x 25, x 26, x 27, x 28, x 29, x 30, x 31, x 32, x 33, x 34, x 35, x 36, x 37, x 38, x 39, x 40, x 41, x 42, .int .i64 k, .slice (some ⟨bt, ot, none⟩) M ct, .int .i64 (M : Int), .bool true, x 47, x 48, .slice (some ⟨bt, ot, none⟩) M ct, .int .i64 k, .pointer (some ⟨bt, ot + k, none⟩), .int .u8 N, .int .i64 N, .slice (some ⟨be, 0, none⟩) M M, .int .i64 k, .pointer (some ⟨be, k, none⟩), x 57, x 58, x 59, x 60, x 61, x 62, x 63, x 64, x 65, x 66, x 67, x 68, x 69, x 70, x 71, x 72, x 73, x 74, x 75, x 76, x 77, x 78, x 79, x 80, x 81, x 82, x 83, x 84, x 85, x 86, x 87, x 88, x 89, x 90, x 91, x 92, x 93, x 94, x 95, x 96, x 97, x 98, x 99, x 100, x 101, x 102, x 103, x 104, x 105, x 106, x 107, x 108, x 109, x 110, x 111, x 112, x 113, x 114, x 115, x 116, x 117, x 118, x 119, x 120, x 121, x 122, x 123, x 124, x 125, x 126, x 127, x 128, x 129, x 130, x 131, x 132, x 133, x 134, x 135, x 136, x 137, x 138, x 139, x 140, x 141, x 142, x 143, x 144, x 145, x 146, x 147, x 148, x 149, x 150, x 151, x 152, x 153, x 154, x 155, x 156, x 157, x 158, x 159, x 160, x 161, x 162, x 163, x 164, x 165, x 166, x 167, x 168, x 169, x 170, x 171, x 172, x 173, x 174, x 175, x 176, x 177, x 178, x 179, x 180], []⟩ : Act) ∧ w'.heap[bd]? = some (.cells #[.pointer (some ⟨be, k, none⟩)] 56 (0, 0))) (fun a' o => (Priv.row bd _ _ _).tied _ o) (stok_at rfl rfl (by simp) (by kernel_rfl)) (fun wt Q _ hz hcell hQ => ?_) ?_
  · have hz' : bd = wt.heap.size := by rw [hbd, hz]
    subst hz'
    clear hz hbd hcell hbn D1 A A1 H
    go_wp2
    refine hQ _ _ _ (fun y hy => .inr ⟨by have hy' : y = wt.heap.size := hy; omega, ?_⟩) ⟨rfl, rfl, alloc_new wt _⟩ (ks_alloc _ wt _)
    have hy' : y = wt.heap.size := hy
    subst hy'
    exact lt_of_block (alloc_new wt _)
  intro a' o w2 _ hR ks2 D2
  obtain ⟨_, rfl, hrd⟩ := hR
  have A2 := A1.made D2 ks2
  have hrn2 := ks2.row (fun z => z) hrn
  have hL := A.crew.desk.lay
  have hz1 := ks1.size
  have hln := lt_of_block hrn
  have cn : col bn = .main := hL.above bn (by omega)
  have cd : col bd = .main := hL.above bd (by omega)
  refine Win.seq ?_
  refine Win.region ?_
  simp only [List.size_toArray, List.length_cons, List.length_nil, Nat.reduceAdd, List.range, List.range.loop]
  refine Win.pureOp (v := .pointer (some ⟨pA, 0, none⟩)) (.inl hb) rfl rfl (fun w => by rw [Sem.runT_eq]; simp [go_sem, execOp, Act.eval]; try (first | omega | rfl | exact ⟨rfl, rfl⟩ | kernel_rfl)) ?_
  simp only [Act.put, Act.eval, List.getElem?_toArray, List.getElem?_cons_zero, List.getElem?_cons_succ, Option.bind_some, List.getElem_toArray, List.getElem_cons_zero, List.getElem_cons_succ, List.setIfInBounds_toArray, List.set_cons_succ, List.set_cons_zero]
  refine Win.pureOp (v := .iface 26 (.pointer (some ⟨pA, 0, none⟩))) (.inl hb) rfl rfl (fun w => by rw [Sem.runT_eq]; simp [go_sem, execOp, Act.eval]; try (first | omega | rfl | exact ⟨rfl, rfl⟩ | kernel_rfl)) ?_
  simp only [Act.put, Act.eval, List.getElem?_toArray, List.getElem?_cons_zero, List.getElem?_cons_succ, Option.bind_some, List.getElem_toArray, List.getElem_cons_zero, List.getElem_cons_succ, List.setIfInBounds_toArray, List.set_cons_succ, List.set_cons_zero]
  refine Win.pureOp (v := .func (.func 20) #[] #[.pointer (some ⟨bd, 0, none⟩), .pointer (some ⟨bn, 0, none⟩)]) (.inl hb) rfl rfl (fun w => by rw [Sem.runT_eq]; simp [go_sem, execOp, Act.eval]; try (first | omega | rfl | exact ⟨rfl, rfl⟩ | kernel_rfl)) ?_
  simp only [Act.put, Act.eval, List.getElem?_toArray, List.getElem?_cons_zero, List.getElem?_cons_succ, Option.bind_some, List.getElem_toArray, List.getElem_cons_zero, List.getElem_cons_succ, List.setIfInBounds_toArray, List.set_cons_succ, List.set_cons_zero]
  refine Win.enter (f := 11) (args := #[.iface 26 (.pointer (some ⟨pA, 0, none⟩)), .func (.func 20) #[] #[.pointer (some ⟨bd, 0, none⟩), .pointer (some ⟨bn, 0, none⟩)]]) (.inl hb) rfl rfl (fun d => ⟨#[], call_enter mild.toMild Try.func11 rfl rfl rfl rfl _ _ (by simp [Act.eval]), fun e he => by simp at he⟩) ?_
  refine A2.crew.news (own0 := fun b => b = bd ∨ b = bn) (A0 := fun w => w.heap[bd]? = some (.cells #[.pointer (some ⟨be, k, none⟩)] 56 (0, 0)) ∧ w.heap[bn]? = some (.cells #[.int .i64 N] 3 (0, 0))) (priv_ends be M) ((Priv.row bd _ _ _).and (Priv.row bn _ _ _)) (fun b hb => by rcases hb with rfl | rfl <;> assumption) ⟨hrd, hrn2⟩ (mt := 26) (mval := .pointer (some ⟨pA, 0, none⟩)) rfl Try.func20 rfl (T0 := ctree k N) (g1 := if N = 0 then inc k g else g) (fun a home pl' F' col' w' b1 b2 hj hAc hBx hc1 hc2 ho hA0 hs K => ?_) (fun a pl3 F3 col3 w3 C3 ks3 sm3 hap => ?_)
  · exact cnt_runs (SB := (· = be)) rfl hk (by omega) rfl (priv_ends be M) hAc (fun b hb => by
      rw [hj]
      rcases hb with (rfl | rfl) | (rfl | rfl)
      · exact ho _ (.inl rfl)
      · exact ho _ (.inr rfl)
      · exact hc1
      · exact hc2) ⟨hA0, hBx⟩ hs K
  rw [Frame.finish_at]
  simp only [Act.put, Act.eval, List.getElem?_toArray, List.getElem?_cons_zero, List.getElem?_cons_succ, Option.bind_some, List.getElem_toArray, List.getElem_cons_zero, List.getElem_cons_succ, List.setIfInBounds_toArray, List.set_cons_succ, List.set_cons_zero]
  refine Win.pureOp (v := .tuple #[.pointer (some ⟨a.p, 0, none⟩), .int .i64 0]) (.inl hb) rfl rfl (fun w => rfl) ?_
  simp only [Act.put, Act.eval, List.getElem?_toArray, List.getElem?_cons_zero, List.getElem?_cons_succ, Option.bind_some, List.getElem_toArray, List.getElem_cons_zero, List.getElem_cons_succ, List.setIfInBounds_toArray, List.set_cons_succ, List.set_cons_zero]
  refine Win.pureOp (v := .pointer (some ⟨a.p, 0, none⟩)) (.inl hb) rfl rfl (fun w => by rw [Sem.runT_eq]; simp [go_sem, execOp, Act.eval]; try (first | omega | rfl | exact ⟨rfl, rfl⟩ | kernel_rfl)) ?_
  simp only [Act.put, Act.eval, List.getElem?_toArray, List.getElem?_cons_zero, List.getElem?_cons_succ, Option.bind_some, List.getElem_toArray, List.getElem_cons_zero, List.getElem_cons_succ, List.setIfInBounds_toArray, List.set_cons_succ, List.set_cons_zero]
  refine Win.pureOp (v := .int .i64 0) (.inl hb) rfl rfl (fun w => by rw [Sem.runT_eq]; simp [go_sem, execOp, Act.eval]; try (first | omega | rfl | exact ⟨rfl, rfl⟩ | kernel_rfl)) ?_
  simp only [Act.put, Act.eval, List.getElem?_toArray, List.getElem?_cons_zero, List.getElem?_cons_succ, Option.bind_some, List.getElem_toArray, List.getElem_cons_zero, List.getElem_cons_succ, List.setIfInBounds_toArray, List.set_cons_succ, List.set_cons_zero]
  refine Win.pureOp (v := .pointer (some ⟨a.p, 0, none⟩)) (.inl hb) rfl rfl (fun w => rfl) ?_
  simp only [Act.put, Act.eval, List.getElem?_toArray, List.getElem?_cons_zero, List.getElem?_cons_succ, Option.bind_some, List.getElem_toArray, List.getElem_cons_zero, List.getElem_cons_succ, List.setIfInBounds_toArray, List.set_cons_succ, List.set_cons_zero]
  refine Win.pureOp (v := .int .i64 0) (.inl hb) rfl rfl (fun w => rfl) ?_
  simp only [Act.put, Act.eval, List.getElem?_toArray, List.getElem?_cons_zero, List.getElem?_cons_succ, Option.bind_some, List.getElem_toArray, List.getElem_cons_zero, List.getElem_cons_succ, List.setIfInBounds_toArray, List.set_cons_succ, List.set_cons_zero]
  refine Win.opsEnd ?_
  have A3 : AcW Post W pA rA be M k ag tr (x 8) pl F col w2 g s := A2
  have hgb := A.be_ge
  have hzW := A.ks.size
  have hno : ∀ b, b < W.heap.size → ¬ (b = bd ∨ b = bn) := fun b hb z => by rcases z with z | z <;> omega
  have hnb : ∀ b ∈ blk (x 8), ¬ (b = bd ∨ b = bn) := fun b hb z => by
    have := (priv_rw _ _ _ _ _ _).lt _ _ A.all hb
    rcases z with z | z <;> omega
  have hcr : (fun j => if j = k then ctree k N else ctree j (tr j)) = fun j => ctree j (if j = k then N else tr j) := by
    funext j
    by_cases e : j = k
    · subst e; simp
    · simp [e]
  rw [hcr] at C3
  have ar3 : Ar w3 pA rA s := ⟨ks3.row (fun z => by
      rcases z with z | z
      · have := hL.ar.1; rcases z with z | z
        · rw [z, cd] at this; cases this
        · rw [z, cn] at this; cases this
      · rw [hL.ar.1] at z; cases z) A2.ar.hp, ks3.row (fun z => by
      rcases z with z | z
      · have := hL.ar.2; rcases z with z | z
        · rw [z, cd] at this; cases this
        · rw [z, cn] at this; cases this
      · rw [hL.ar.2] at z; cases z) A2.ar.hr⟩
  have all3 : Rw 33 1 W.heap.size w3 (x 8) k (ptrs ag k) := (priv_rw _ _ _ _ _ _).st _ _ A2.all fun b hb => ks3.block b ((priv_rw _ _ _ _ _ _).lt _ _ A2.all hb) fun z => by
    rcases z with z | z
    · exact hnb b hb z
    · rw [A.allc b hb] at z; cases z
  have allc3 : ∀ b ∈ blk (x 8), col3 b = .main := fun b hb => (sm3 b ((priv_rw _ _ _ _ _ _).lt _ _ A2.all hb) (hnb b hb) (.inl (A.allc b hb))).trans (A.allc b hb)
  have old3 : ∀ b, b < W.heap.size → col3 b = .main := fun b hb => (sm3 b (by have := A2.ks.size; omega) (hno b hb) (.inl (A.old b hb))).trans (A.old b hb)
  have ksW : Ks (fun _ => False) W w3 := A2.ks.then ks3 fun b hb z => by
    rcases z with z | z
    · exact hno b hb z
    · rw [A.old b hb] at z; cases z
  clear A A1 A2 A3 D1 D2 hrn hrn2 hrd hbn hbd ks1 ks2 ks3 sm3 hno hnb cn cd hL hcr
  refine Win.seq ?_
  refine Win.region ?_
  simp only [List.size_toArray, List.length_cons, List.length_nil, Nat.reduceAdd, List.range, List.range.loop]
  refine Win.pureOp (v := .bool true) (.inl hb) rfl rfl (fun w => by rw [Sem.runT_eq]; simp [go_sem, execOp, Act.eval]; try (first | omega | rfl | exact ⟨rfl, rfl⟩ | kernel_rfl)) ?_
  simp only [Act.put, Act.eval, List.getElem?_toArray, List.getElem?_cons_zero, List.getElem?_cons_succ, Option.bind_some, List.getElem_toArray, List.getElem_cons_zero, List.getElem_cons_succ, List.setIfInBounds_toArray, List.set_cons_succ, List.set_cons_zero]
  refine Win.pureOp (v := .bool true) (.inl hb) rfl rfl (fun w => rfl) ?_
  simp only [Act.put, Act.eval, List.getElem?_toArray, List.getElem?_cons_zero, List.getElem?_cons_succ, Option.bind_some, List.getElem_toArray, List.getElem_cons_zero, List.getElem_cons_succ, List.setIfInBounds_toArray, List.set_cons_succ, List.set_cons_zero]
  refine Win.pureOp (v := .int .i64 0) (.inl hb) rfl rfl (fun w => rfl) ?_
  simp only [Act.put, Act.eval, List.getElem?_toArray, List.getElem?_cons_zero, List.getElem?_cons_succ, Option.bind_some, List.getElem_toArray, List.getElem_cons_zero, List.getElem_cons_succ, List.setIfInBounds_toArray, List.set_cons_succ, List.set_cons_zero]
  refine Win.pureOp (v := .bool true) (.inl hb) rfl rfl (fun w => by rw [Sem.runT_eq]; simp [go_sem, execOp, Act.eval]; try (first | omega | rfl | exact ⟨rfl, rfl⟩ | kernel_rfl)) ?_
  simp only [Act.put, Act.eval, List.getElem?_toArray, List.getElem?_cons_zero, List.getElem?_cons_succ, Option.bind_some, List.getElem_toArray, List.getElem_cons_zero, List.getElem_cons_succ, List.setIfInBounds_toArray, List.set_cons_succ, List.set_cons_zero]
  refine Win.pureOp (v := .bool true) (.inl hb) rfl rfl (fun w => by rw [Sem.runT_eq]; simp [go_sem, execOp, Act.eval]; try (first | omega | rfl | exact ⟨rfl, rfl⟩ | kernel_rfl)) ?_
  simp only [Act.put, Act.eval, List.getElem?_toArray, List.getElem?_cons_zero, List.getElem?_cons_succ, Option.bind_some, List.getElem_toArray, List.getElem_cons_zero, List.getElem_cons_succ, List.setIfInBounds_toArray, List.set_cons_succ, List.set_cons_zero]
  refine Win.pureOp (v := .bool true) (.inl hb) rfl rfl (fun w => rfl) ?_
  simp only [Act.put, Act.eval, List.getElem?_toArray, List.getElem?_cons_zero, List.getElem?_cons_succ, Option.bind_some, List.getElem_toArray, List.getElem_cons_zero, List.getElem_cons_succ, List.setIfInBounds_toArray, List.set_cons_succ, List.set_cons_zero]
  refine Win.pureOp (v := .pointer (some ⟨a.p, 0, none⟩)) (.inl hb) rfl rfl (fun w => rfl) ?_
  simp only [Act.put, Act.eval, List.getElem?_toArray, List.getElem?_cons_zero, List.getElem?_cons_succ, Option.bind_some, List.getElem_toArray, List.getElem_cons_zero, List.getElem_cons_succ, List.setIfInBounds_toArray, List.set_cons_succ, List.set_cons_zero]
  refine Win.pureOp (v := .bool true) (.inl hb) rfl rfl (fun w => by rw [Sem.runT_eq]; simp [go_sem, execOp, Act.eval]; try (first | omega | rfl | exact ⟨rfl, rfl⟩ | kernel_rfl)) ?_
  simp only [Act.put, Act.eval, List.getElem?_toArray, List.getElem?_cons_zero, List.getElem?_cons_succ, Option.bind_some, List.getElem_toArray, List.getElem_cons_zero, List.getElem_cons_succ, List.setIfInBounds_toArray, List.set_cons_succ, List.set_cons_zero]
  refine Win.pureOp (v := .bool true) (.inl hb) rfl rfl (fun w => by rw [Sem.runT_eq]; simp [go_sem, execOp, Act.eval]; try (first | omega | rfl | exact ⟨rfl, rfl⟩ | kernel_rfl)) ?_
  simp only [Act.put, Act.eval, List.getElem?_toArray, List.getElem?_cons_zero, List.getElem?_cons_succ, Option.bind_some, List.getElem_toArray, List.getElem_cons_zero, List.getElem_cons_succ, List.setIfInBounds_toArray, List.set_cons_succ, List.set_cons_zero]
  refine Win.pureOp (v := .bool true) (.inl hb) rfl rfl (fun w => rfl) ?_
  simp only [Act.put, Act.eval, List.getElem?_toArray, List.getElem?_cons_zero, List.getElem?_cons_succ, Option.bind_some, List.getElem_toArray, List.getElem_cons_zero, List.getElem_cons_succ, List.setIfInBounds_toArray, List.set_cons_succ, List.set_cons_zero]
  refine Win.opsEnd ?_
  refine C3.desk.code (own := fun b => b ∈ blk (x 8)) (S := fun b => b ∈ blk (x 8)) (A := fun w => Rw 33 1 W.heap.size w (x 8) k (ptrs ag k)) (priv_rw _ _ _ _ _ _) all3 (fun b hb => by rw [allc3 b hb]; rfl) (R := fun a' o w' => ∃ vn : Value, o = (fun b => b ∈ blk vn) ∧ (a' = (⟨#[.slice (some ⟨bt, ot, none⟩) M ct, x 1, x 2, x 3, x 4, .pointer (some ⟨pA, 0, none⟩), x 6, .slice (some ⟨be, 0, none⟩) M M, vn, .bool true, .int .i64 k, .pointer (some ⟨bn, 0, none⟩), .pointer (some ⟨bd, 0, none⟩), .pointer (some ⟨a.p, 0, none⟩), .int .i64 0, x 15, x 16, x 17, x 18, x 19, x 20, x 21, x 22, x 23, x 24, x 25, x 26, x 27, x 28, x 29, x 30, x 31, x 32, x 33, x 34, x 35, x 36, x 37, x 38, x 39, x 40, x 41, x 42, .int .i64 k, .slice (some ⟨bt, ot, none⟩) M ct, .int .i64 (M : Int), .bool true, x 47, x 48, .slice (some ⟨bt, ot, none⟩) M ct, .int .i64 k, .pointer (some ⟨bt, ot + k, none⟩), .int .u8 N, .int .i64 N, .slice (some ⟨be, 0, none⟩) M M, .int .i64 k, .pointer (some ⟨be, k, none⟩), .tuple #[.pointer (some ⟨a.p, 0, none⟩), .int .i64 0], .pointer (some ⟨pA, 0, none⟩), .iface 26 (.pointer (some ⟨pA, 0, none⟩)), .func (.func 20) #[] #[.pointer (some ⟨bd, 0, none⟩), .pointer (some ⟨bn, 0, none⟩)], .tuple #[.pointer (some ⟨a.p, 0, none⟩), .int .i64 0], .pointer (some ⟨a.p, 0, none⟩), .int .i64 0, .bool true, .bool true, .int .i64 0, .bool true, .bool true, .bool true, .pointer (some ⟨a.p, 0, none⟩), .bool true, .bool true, x 8, .pointer (some ⟨a.p, 0, none⟩), .slice (some ⟨w3.heap.size, 0, none⟩) 1 1, vn, x 77, x 78, x 79, x 80, x 81, x 82, x 83, x 84, x 85, x 86, x 87, x 88, x 89, x 90, x 91, x 92, x 93, x 94, x 95, x 96, x 97, x 98, x 99, x 100, x 101, x 102, x 103, x 104, x 105, x 106, x 107, x 108, x 109, x 110, x 111, x 112, x 113, x 114, x 115, x 116, x 117, x 118, x 119, x 120, x 121, x 122, x 123, x 124, x 125, x 126, x 127, x 128, x 129, x 130, x 131, x 132, x 133, x 134, x 135, x 136, x 137, x 138, x 139, x 140, x 141, x 142, x 143, x 144, x 145, x 146, x 147, x 148, x 149, x 150, x 151, x 152, x 153, x 154, x 155, x 156, x 157, x 158, x 159, x 160, x 161, x 162, x 163, x 164, x 165, x 166, x 167, x 168, x 169, x 170, x 171, x 172, x 173, x 174, x 175, x 176, x 177, x 178, x 179, x 180], []⟩ : Act) ∧ ∀ b ∈ blk vn, b ∈ blk (x 8) ∨ w3.heap.size ≤ b) ∧ Rw 33 1 W.heap.size w' vn (k + 1) (ptrs ag k ++ [.pointer (some ⟨a.p, 0, none⟩)])) (fun a' o => Priv.exTied (fun vn => priv_rw _ _ _ _ _ _) _ o) (stok_at rfl rfl (by simp) (by kernel_rfl)) (fun wt Q hA hz hcell hQ => ?_) ?_
  · have hzW3 := ksW.size
    obtain ⟨gb, cap, w6, hrun, hrw, hkp, hgb2⟩ := run_app (t := 30) (ty := 30) (bytes := 8) (w := wt.alloc (.cells #[.pointer (some ⟨a.p, 0, none⟩)] 33)) Try.underlying30 info_agent (by decide) (hA.keep0 ((Kp.refl [] wt).alloc _)) (by rw [World.size_alloc]; omega) ⟨wt.heap.size, 0, none⟩ 1 1 [.pointer (some ⟨a.p, 0, none⟩)] rfl (fun j u hj => by
      rcases j with _ | j
      · obtain rfl := Option.some.inj hj
        exact cell_of_row (heap_alloc_new wt _) 0
      · simp at hj) (by simp [Value.oneCell']) (by decide) (by omega) (by decide)
    have HRun := Lib.hid hrun
    have HRw := Lib.hid hrw
    have HKp := Lib.hid hkp
    have HZ := Lib.hid hz
    have HA := Lib.hid hA
    have HQ := Lib.hid hQ
    clear hrun hrw hkp hz hcell hA H C3 hQ
    go_wp2_with (at_builtin; refine wpList_append_eq rfl (.tmp 73) (.tmp 75) 30 rfl _ _ _ rfl rfl HRun.out ?_)
    have hnewb : ∀ b ∈ blk (.slice (some ⟨gb, 0, none⟩) (k + 1) cap), b ∈ blk (x 8) ∨ wt.heap.size ≤ b := fun b hb => by
      rw [blk_some, List.mem_singleton] at hb
      rw [hb]
      rcases hgb2 with z | z
      · exact .inl z
      · exact .inr (by rw [z, World.size_alloc]; omega)
    refine HQ.out _ _ _ (fun y hy => ?_) ⟨.slice (some ⟨gb, 0, none⟩) (k + 1) cap, rfl, ⟨by rw [← HZ.out], by rw [← HZ.out]; exact hnewb⟩, HRw.out⟩ ?_
    · rcases hnewb y hy with z | z
      · exact .inl z
      · exact .inr ⟨z, (priv_rw _ _ _ _ _ _).lt _ _ HRw.out hy⟩
    · exact (ks_alloc (fun b => b ∈ blk (x 8)) wt _).trans (ks_of_kp HKp.out)
  intro a' o w4 _ hR ks4 D4
  obtain ⟨vn, _, ⟨rfl, hvn⟩, hrw⟩ := hR
  have C4 := C3.keep D4 ks4 (fun b _ hb => .inl (allc3 b hb)) ((priv_ends be M _).st _ _ C3.sh fun b hb => ks4.block b ((priv_ends be M _).lt _ _ C3.sh hb) fun z => by
    have hb' : b = be := hb
    have := allc3 b z
    rw [hb', C3.desk.lay.sb be rfl] at this; cases this)
  have ar4 : Ar w4 pA rA s := ⟨ks4.row (fun z => by have := allc3 _ z; rw [C3.desk.lay.ar.1] at this; cases this) ar3.hp, ks4.row (fun z => by have := allc3 _ z; rw [C3.desk.lay.ar.2] at this; cases this) ar3.hr⟩
  have ksW4 : Ks (fun _ => False) W w4 := ksW.then ks4 fun b hb z => by have := (all3.block b z).1; omega
  have A4 : AcW Post W pA rA be M (k + 1) (fun j => if j = k then a else ag j) (fun j => if j = k then N else tr j) vn pl3 F3 col3 w4 (if N = 0 then inc k g else g) s :=
    ⟨C4, ar4, by rw [ptrs_succ]; exact hrw, fun b hb => by
      rcases hvn b hb with z | z
      · exact allc3 b z
      · exact C3.desk.lay.above b z, old3, ksW4⟩
  refine Win.inBlock ?_
  refine Win.region ?_
  simp only [List.size_toArray, List.length_cons, List.length_nil, Nat.reduceAdd, List.range, List.range.loop]
  refine Win.pureOp (v := .int .i64 k) (.inl hb) rfl rfl (fun w => by rw [Sem.runT_eq]; simp [go_sem, execOp, Act.eval]; try (first | omega | rfl | exact ⟨rfl, rfl⟩ | kernel_rfl)) ?_
  simp only [Act.put, Act.eval, List.getElem?_toArray, List.getElem?_cons_zero, List.getElem?_cons_succ, Option.bind_some, List.getElem_toArray, List.getElem_cons_zero, List.getElem_cons_succ, List.setIfInBounds_toArray, List.set_cons_succ, List.set_cons_zero]
  refine Win.pureOp (v := .int .i64 ((k + 1 : Nat) : Int)) (.inl hb) rfl rfl (fun w => by rw [Sem.runT_eq]; simp [go_sem, execOp, Act.eval, hw]; try (first | omega | rfl | exact ⟨rfl, rfl⟩ | kernel_rfl)) ?_
  simp only [Act.put, Act.eval, List.getElem?_toArray, List.getElem?_cons_zero, List.getElem?_cons_succ, Option.bind_some, List.getElem_toArray, List.getElem_cons_zero, List.getElem_cons_succ, List.setIfInBounds_toArray, List.set_cons_succ, List.set_cons_zero]
  refine Win.pureOp (v := .int .i64 ((k + 1 : Nat) : Int)) (.inl hb) rfl rfl (fun w => by rw [Sem.runT_eq]; simp [go_sem, execOp, Act.eval]; try (first | omega | rfl | exact ⟨rfl, rfl⟩ | kernel_rfl)) ?_
  simp only [Act.put, Act.eval, List.getElem?_toArray, List.getElem?_cons_zero, List.getElem?_cons_succ, Option.bind_some, List.getElem_toArray, List.getElem_cons_zero, List.getElem_cons_succ, List.setIfInBounds_toArray, List.set_cons_succ, List.set_cons_zero]
  refine Win.opsEnd ?_
  exact H a vn pl3 F3 col3 w4 (fun j => match j with | 0 => .slice (some ⟨bt, ot, none⟩) M ct | 5 => .pointer (some ⟨pA, 0, none⟩) | 7 => .slice (some ⟨be, 0, none⟩) M M | 8 => vn | 9 => .bool true | 10 => .int .i64 ((k + 1 : Nat) : Int) | 11 => .pointer (some ⟨bn, 0, none⟩) | 12 => .pointer (some ⟨bd, 0, none⟩) | 13 => .pointer (some ⟨a.p, 0, none⟩) | 14 => .int .i64 0 | 43 => .int .i64 k | 44 => .slice (some ⟨bt, ot, none⟩) M ct | 45 => .int .i64 (M : Int) | 46 => .bool true | 47 => .int .i64 k | 48 => .int .i64 ((k + 1 : Nat) : Int) | 49 => .slice (some ⟨bt, ot, none⟩) M ct | 50 => .int .i64 k | 51 => .pointer (some ⟨bt, ot + k, none⟩) | 52 => .int .u8 N | 53 => .int .i64 N | 54 => .slice (some ⟨be, 0, none⟩) M M | 55 => .int .i64 k | 56 => .pointer (some ⟨be, k, none⟩) | 57 => .tuple #[.pointer (some ⟨a.p, 0, none⟩), .int .i64 0] | 58 => .pointer (some ⟨pA, 0, none⟩) | 59 => .iface 26 (.pointer (some ⟨pA, 0, none⟩)) | 60 => .func (.func 20) #[] #[.pointer (some ⟨bd, 0, none⟩), .pointer (some ⟨bn, 0, none⟩)] | 61 => .tuple #[.pointer (some ⟨a.p, 0, none⟩), .int .i64 0] | 62 => .pointer (some ⟨a.p, 0, none⟩) | 63 => .int .i64 0 | 64 => .bool true | 65 => .bool true | 66 => .int .i64 0 | 67 => .bool true | 68 => .bool true | 69 => .bool true | 70 => .pointer (some ⟨a.p, 0, none⟩) | 71 => .bool true | 72 => .bool true | 73 => x 8 | 74 => .pointer (some ⟨a.p, 0, none⟩) | 75 => .slice (some ⟨w3.heap.size, 0, none⟩) 1 1 | 76 => vn | j => x j) A4 hx0.symm rfl hx5.symm hx7.symm rfl rfl rfl
end
end Go.Proofs.Ytodcnhodbeakiaa

namespace Go.Proofs.Ytodcnhodbeakiaa
set_option linter.unusedVariables false
set_option linter.unusedSimpArgs false
set_option maxRecDepth 100000
open Go.Conc
open Go.ConcN (upd_ne upd_same)

/-- Who of the first k has ended. -/
def gof (M : Nat) (tr : Nat → Nat) (k : Nat) : List Int := (List.range M).map fun j => if j < k ∧ tr j = 0 then 1 else 0
theorem gof_len (M : Nat) (tr : Nat → Nat) (k : Nat) : (gof M tr k).length = M := by simp [gof]
theorem gof_get (M : Nat) (tr : Nat → Nat) (k j : Nat) (hj : j < M) : (gof M tr k).getD j 0 = if j < k ∧ tr j = 0 then 1 else 0 := by simp [gof, List.getD, hj]
theorem gof_zero (M : Nat) (tr : Nat → Nat) : gof M tr 0 = List.replicate M 0 := by
  apply List.ext_getElem (by simp [gof])
  intro i h1 h2
  simp [gof]
theorem gof_ext {M : Nat} {xs : List Int} {tr : Nat → Nat} {k : Nat} (hl : xs.length = M) (h : ∀ j, j < M → xs.getD j 0 = if j < k ∧ tr j = 0 then 1 else 0) : xs = gof M tr k := by
  apply List.ext_getElem (by rw [hl, gof_len])
  intro i h1 h2
  have hi : i < M := by omega
  have a := h i hi
  have b := gof_get M tr k i hi
  rw [← b] at a
  simpa [List.getD, h1, h2] using a
theorem inc_get (ix : Nat) (g : List Int) (j : Nat) (hj : j < g.length) : (inc ix g).getD j 0 = if j = ix then IntKind.wrap .i64 (g.getD ix 0 + 1) else g.getD j 0 := by
  unfold inc
  by_cases e : j = ix
  · subst e; simp [List.getD, hj]
  · rw [if_neg e, List.getD_eq_getElem?_getD, List.getElem?_set_ne (fun z => e z.symm), ← List.getD_eq_getElem?_getD]
theorem wrap_one : IntKind.wrap .i64 ((0 : Int) + 1) = 1 := by decide
theorem gof_more (M : Nat) (tr : Nat → Nat) (k N : Nat) (hk : k < M) : (if N = 0 then inc k (gof M tr k) else gof M tr k) = gof M (fun j => if j = k then N else tr j) (k + 1) := by
  refine gof_ext (by split <;> simp [inc, gof]) fun j hj => ?_
  have hg := gof_get M tr k
  by_cases hN : N = 0
  · subst hN
    rw [if_pos rfl, inc_get _ _ _ (by rw [gof_len]; exact hj), hg k hk, hg j hj]
    by_cases e : j = k
    · subst e; rw [if_pos rfl, if_neg (by omega), wrap_one, if_pos ⟨by omega, by simp⟩]
    · rw [if_neg e, if_neg e]
      by_cases h : j < k ∧ tr j = 0
      · rw [if_pos h, if_pos ⟨by omega, h.2⟩]
      · rw [if_neg h, if_neg (fun z => h ⟨by omega, z.2⟩)]
  · rw [if_neg hN, hg j hj]
    by_cases e : j = k
    · subst e; rw [if_neg (by omega)]; simp [hN]
    · rw [if_neg e]
      by_cases h : j < k ∧ tr j = 0
      · rw [if_pos h, if_pos ⟨by omega, h.2⟩]
      · rw [if_neg h, if_neg (fun z => h ⟨by omega, z.2⟩)]
theorem gof_same {M : Nat} {tr tr' : Nat → Nat} {k : Nat} (h : ∀ j, j < k → tr j = tr' j) : gof M tr k = gof M tr' k := by
  refine gof_ext (gof_len _ _ _) fun j hj => ?_
  rw [gof_get _ _ _ _ hj]
  by_cases e : j < k
  · rw [h j e]
  · rw [if_neg (fun z => e z.1), if_neg (fun z => e z.1)]

/-- Numbers of a byte that lie where a slice leads. -/
def Us (w : World) (ao : Option Addr) (L : List Int) : Prop := ∀ i x, L[i]? = some x → ∃ b o, ao = some ⟨b, o, none⟩ ∧ w.cell? ⟨b, o + i, none⟩ = some (.int .u8 x) ∧ 0 ≤ x ∧ x ≤ 255

section
variable {Post : Value → World → Prop} {W : World} {pA rA be M k n K : Nat} {ag : Nat → Ag} {tr : Nat → Nat} {va : Value} {pl : Nat → Option Place} {F : Nat → Option (Nat × Nat)} {col : Nat → Col} {w w' : World} {g : List Int} {s : St}

theorem AcW.cell (A : AcW Post W pA rA be M k ag tr va pl F col w g s) {ad : Addr} {v : Value} (h : W.cell? ad = some v) : w.cell? ad = some v :=
  (World.cell?_of_block (A.ks.block _ (World.block_lt_of_cell? _ _ h) fun z => z)).trans h
/-- Other counts, the same where it matters. -/
theorem AcW.like {tr' : Nat → Nat} {g' : List Int} (A : AcW Post W pA rA be M k ag tr va pl F col w g s) (h : ∀ j, j < k → tr j = tr' j) (hg : g = g') : AcW Post W pA rA be M k ag tr' va pl F col w g' s := by
  subst hg
  refine ⟨⟨A.crew.npos, A.crew.desk, A.crew.out, A.crew.ok, A.crew.num, fun i hi => ?_, A.crew.sh⟩, A.ar, A.all, A.allc, A.old, A.ks⟩
  have := A.crew.st i hi
  show Stands Post (endsSh be M) (· = be) pA rA (ag i) (memV pA) (ctree i (tr' i)) pl F col w
  rw [← h i hi]
  exact this

/-- THE FIRST LOOP: all agents are made. -/
theorem ac_loop1 {args : Array Value} {L : List Int} {ao : Option Addr} {ct : Nat} {vo : Value} (hL : Us W ao L) (hM : L.length ≤ 8) (hMl : M = L.length) (H : ∀ (x : Nat → Value) ag va pl F col w, AcW Post W pA rA be M M ag (fun j => (L.getD j 0).toNat) va pl F col w (gof M (fun j => (L.getD j 0).toNat) M) s → x 0 = .slice ao M ct → x 1 = vo → x 5 = .pointer (some ⟨pA, 0, none⟩) → x 7 = .slice (some ⟨be, 0, none⟩) M M → x 8 = va → x 9 = .bool true →
      Win Try.prog Post pl (1 + M) 0 (gor ((Frame.enter Try.prog 5 args .normal).at ⟨T181 x, []⟩ [.code (acA1 Try.f5)]) []) w) :
    ∀ d k, k + d = M → ∀ (x : Nat → Value) ag va pl F col w, AcW Post W pA rA be M k ag (fun j => (L.getD j 0).toNat) va pl F col w (gof M (fun j => (L.getD j 0).toNat) k) s → x 0 = .slice ao M ct → x 1 = vo → x 5 = .pointer (some ⟨pA, 0, none⟩) → x 7 = .slice (some ⟨be, 0, none⟩) M M → x 8 = va → x 9 = .bool true → x 10 = .int .i64 k →
      Win Try.prog Post pl (1 + k) 0 (gor ((Frame.enter Try.prog 5 args .normal).at ⟨T181 x, []⟩ (.code (acX1 Try.f5) :: acK1 Try.f5)) []) w := by
  intro d
  induction d with
  | zero =>
    intro k hk x ag va pl F col w A hx0 hx1 hx5 hx7 hx8 hx9 hx10
    obtain rfl : k = M := by omega
    have hb : (Frame.enter Try.prog 5 args .normal).kind = .normal := rfl
    have hX : acK1 Try.f5 = [.inLoop (acX1 Try.f5), .inBlock 0, .code (acA1 Try.f5)] := rfl
    rw [hX]
    obtain ⟨K, hK⟩ : ∃ K, K = Item.inLoop (acX1 Try.f5) := ⟨_, rfl⟩
    obtain ⟨K2, hK2⟩ : ∃ K2, K2 = acA1 Try.f5 := ⟨_, rfl⟩
    have hfin := H
    rw [← hK2] at hfin
    have hKe : exitTo 0 [K, .inBlock 0, .code K2] = some [.code K2] := by rw [hK]; rfl
    rw [← hK, ← hK2]
    clear hK hK2 H
    simp only [bodyOf, Try.f5, codeL, codeR, blockOf, loopOf, acX1, Option.getD_some, T181]
    simp only [hx0, hx5, hx7, hx9, hx10]
    refine Win.seq ?_
    refine Win.seq ?_
    refine Win.region ?_
    simp only [List.size_toArray, List.length_cons, List.length_nil, Nat.reduceAdd, List.range, List.range.loop]
    refine Win.pureOp (v := .int .i64 k) (.inl hb) rfl rfl (fun w => by rw [Sem.runT_eq]; simp [go_sem, execOp, Act.eval]; try (first | omega | rfl | exact ⟨rfl, rfl⟩ | kernel_rfl)) ?_
    simp only [Act.put, Act.eval, List.getElem?_toArray, List.getElem?_cons_zero, List.getElem?_cons_succ, Option.bind_some, List.getElem_toArray, List.getElem_cons_zero, List.getElem_cons_succ, List.setIfInBounds_toArray, List.set_cons_succ, List.set_cons_zero]
    refine Win.pureOp (v := .slice ao k ct) (.inl hb) rfl rfl (fun w => by rw [Sem.runT_eq]; simp [go_sem, execOp, Act.eval]; try (first | omega | rfl | exact ⟨rfl, rfl⟩ | kernel_rfl)) ?_
    simp only [Act.put, Act.eval, List.getElem?_toArray, List.getElem?_cons_zero, List.getElem?_cons_succ, Option.bind_some, List.getElem_toArray, List.getElem_cons_zero, List.getElem_cons_succ, List.setIfInBounds_toArray, List.set_cons_succ, List.set_cons_zero]
    refine Win.pureOp (v := .int .i64 (k : Int)) (.inl hb) rfl rfl (fun w => by rw [Sem.runT_eq]; simp [go_sem, execOp, Act.eval]; try (first | omega | rfl | exact ⟨rfl, rfl⟩ | kernel_rfl)) ?_
    simp only [Act.put, Act.eval, List.getElem?_toArray, List.getElem?_cons_zero, List.getElem?_cons_succ, Option.bind_some, List.getElem_toArray, List.getElem_cons_zero, List.getElem_cons_succ, List.setIfInBounds_toArray, List.set_cons_succ, List.set_cons_zero]
    refine Win.pureOp (v := .bool false) (.inl hb) rfl rfl (fun w => by rw [Sem.runT_eq]; simp [go_sem, execOp, Act.eval]; try (first | omega | rfl | exact ⟨rfl, rfl⟩ | kernel_rfl)) ?_
    simp only [Act.put, Act.eval, List.getElem?_toArray, List.getElem?_cons_zero, List.getElem?_cons_succ, Option.bind_some, List.getElem_toArray, List.getElem_cons_zero, List.getElem_cons_succ, List.setIfInBounds_toArray, List.set_cons_succ, List.set_cons_zero]
    refine Win.opsEnd ?_
    refine Win.cond (t := false) rfl ?_
    simp only [if_true, if_false, Bool.false_eq_true]
    refine Win.exit hKe ?_
    exact hfin (fun j => match j with | 0 => .slice ao k ct | 5 => .pointer (some ⟨pA, 0, none⟩) | 7 => .slice (some ⟨be, 0, none⟩) k k | 9 => .bool true | 10 => .int .i64 k | 43 => .int .i64 k | 44 => .slice ao k ct | 45 => .int .i64 (k : Int) | 46 => .bool false | j => x j) ag va pl F col w A rfl hx1 rfl rfl hx8 rfl
  | succ d ih =>
    intro k hk x ag va pl F col w A hx0 hx1 hx5 hx7 hx8 hx9 hx10
    have hkM : k < M := by omega
    obtain ⟨bt, ot, hao, hcl, h0, h255⟩ := hL k _ (List.getElem?_eq_getElem (show k < L.length by omega))
    have hgd : L.getD k 0 = L[k] := by simp [List.getD, show k < L.length by omega]
    have hcN : W.cell? ⟨bt, ot + k, none⟩ = some (.int .u8 ((L.getD k 0).toNat : Int)) := by rw [hcl, hgd, Int.toNat_of_nonneg h0]
    have hN : (L.getD k 0).toNat ≤ 255 := by rw [hgd]; omega
    refine ac_body1 (vo := vo) A hkM (by omega) (by rw [hx0, hao]) hx5 hx7 hx8 hx9 hx10 (A.cell hcN) hN fun a va' pl' F' col' w' x' A' y0 y1 y5 y7 y8 y9 y10 => ?_
    refine Win.inLoop ?_
    have hA2 := A'.like (tr' := fun j => (L.getD j 0).toNat) (g' := gof M (fun j => (L.getD j 0).toNat) (k + 1)) (fun j hj => by
      by_cases e : j = k
      · subst e; simp
      · simp [e]) (by
      rw [gof_more _ _ _ _ hkM]
      refine gof_same fun j hj => ?_
      by_cases e : j = k
      · subst e; simp
      · simp [e])
    have := ih (k + 1) (by omega) x' _ va' pl' F' col' w' hA2 (y0.trans hx0) (y1.trans hx1) (y5.trans hx5) (y7.trans hx7) y8 y9 y10
    rw [show 1 + (k + 1) = 1 + k + 1 from rfl] at this
    exact this
end
end Go.Proofs.Ytodcnhodbeakiaa

namespace Go.Proofs.Ytodcnhodbeakiaa
set_option linter.unusedVariables false
set_option linter.unusedSimpArgs false
set_option maxRecDepth 100000
open Go.Conc
open Go.ConcN (upd_ne upd_same)

theorem Rw.low {T : TypeId} {sz base base' n : Nat} {w : World} {v : Value} {xs : List Value} (h : Rw T sz base w v n xs) (hb : base' ≤ base) : Rw T sz base' w v n xs := by
  refine ⟨h.own.1, ?_⟩
  rcases h.own.2 with h0 | ⟨b, c, cur, rfl, hge, r⟩
  · exact .inl h0
  · exact .inr ⟨b, c, cur, rfl, by omega, r⟩
theorem info_u8 : ∃ i z, Try.prog.info? 5 = some i ∧ i.zero = some z ∧ i.size = 1 ∧ i.bytes = 1 ∧ z.cells.size = 1 := by
  obtain ⟨i, hi, hz0, hz1, hz2⟩ := info_parts (show (Try.prog.info? 5).map (fun i => (i.zero, i.size, i.bytes)) = some (some (.int .u8 0), 1, 1) by kernel_rfl)
  exact ⟨i, _, hi, hz0, hz1, hz2, rfl⟩
/-- What is left, as a row. -/
def lcells (tr : Nat → Nat) (M : Nat) : List Value := (List.range M).map fun j => .int .u8 (tr j)
theorem lcells_len (tr : Nat → Nat) (M : Nat) : (lcells tr M).length = M := by simp [lcells]
theorem lcells_get (tr : Nat → Nat) (M j : Nat) (hj : j < M) : (lcells tr M)[j]? = some (.int .u8 (tr j)) := by simp [lcells, hj]
theorem append_nils (w : World) : (Builtin.append_ #[23, 23] 23 #[.slice none 0 0, .slice none 0 0]).run Try.prog w = .ok (.slice none 0 0) w := by
  kernel_rfl
theorem run_left {w : World} {L : List Int} {ao : Option Addr} {ct : Nat} (hL : ∀ i x, L[i]? = some x → ∃ b o, ao = some ⟨b, o, none⟩ ∧ w.cell? ⟨b, o + i, none⟩ = some (.int .u8 x) ∧ 0 ≤ x ∧ x ≤ 255) (hn : ao = none → L = [] ∧ ct = 0) (hM : L.length ≤ 8) :
    ∃ ao' cap w', (Builtin.append_ #[23, 23] 23 #[.slice none 0 0, .slice ao L.length ct]).run Try.prog w = .ok (.slice ao' L.length cap) w' ∧ Rw 5 1 w.heap.size w' (.slice ao' L.length cap) L.length (lcells (fun j => (L.getD j 0).toNat) L.length) ∧ Kp [] w w' := by
  cases ao with
  | none =>
    obtain ⟨rfl, rfl⟩ := hn rfl
    exact ⟨none, 0, w, append_nils w, Rw.nil _ _ _ _, Kp.refl _ _⟩
  | some ad =>
    obtain ⟨ao', cap, w', h1, h2, h3⟩ := run_app_any (t := 23) (ty := 23) (base := w.heap.size) (bytes := 1) (w := w) (v := .slice none 0 0) (n := 0) (xs := []) Try.underlying23 info_u8 (by decide) (Rw.nil _ _ _ _) (Nat.le_refl _) ad L.length ct (lcells (fun j => (L.getD j 0).toNat) L.length) (by simp [lcells]) (fun j u hj => by
      have hlt : j < L.length := by have := (List.getElem?_eq_some_iff.1 hj).1; simpa [lcells] using this
      rw [lcells_get _ _ _ hlt] at hj
      obtain ⟨b, o, hao, hc, h0, _⟩ := hL j _ (List.getElem?_eq_getElem hlt)
      obtain rfl := Option.some.inj hao
      have hx : ((L.getD j 0).toNat : Int) = L[j] := by simp only [List.getD, List.getElem?_eq_getElem hlt, Option.getD_some]; omega
      have := Option.some.inj hj
      rw [← this]
      show w.cell? (Addr.add ⟨b, o, none⟩ j) = some (.int .u8 ((L.getD j 0).toNat : Int))
      rw [hx, show Addr.add ⟨b, o, none⟩ j = ⟨b, o + j, none⟩ from by unfold Addr.add; split <;> simp_all, hc]) (by intro u hu; simp only [lcells, List.mem_map] at hu; obtain ⟨j, _, rfl⟩ := hu; rfl) (by omega) (by decide)
    rw [Nat.zero_add] at h1 h2
    exact ⟨ao', cap, w', h1, by simpa using h2, h3⟩

/-- What is known in the second loop. -/
structure AcX (Post : Value → World → Prop) (W : World) (pA rA be M : Nat) (ag : Nat → Ag) (tr : Nat → Nat) (va vl : Value) (pl : Nat → Option Place) (F : Nat → Option (Nat × Nat)) (col : Nat → Col) (w : World) (s : St) : Prop where
  aw : AcW Post W pA rA be M M ag tr va pl F col w (gof M tr M) s
  lf : Rw 5 1 W.heap.size w vl M (lcells tr M)
  lfc : ∀ b ∈ blk vl, col b = .main
section
variable {Post : Value → World → Prop} {W : World} {pA rA be M k n : Nat} {ag : Nat → Ag} {tr : Nat → Nat} {va vl : Value} {pl : Nat → Option Place} {F : Nat → Option (Nat × Nat)} {col : Nat → Col} {w w' : World} {g : List Int} {s : St}

set_option maxHeartbeats 4000000 in
theorem ac_mid {args : Array Value} {x : Nat → Value} {vo : Value} {L : List Int} {ao : Option Addr} {ct : Nat} (hL : Us W ao L) (hn : ao = none → L = [] ∧ ct = 0) (hM : L.length ≤ 8) (hMl : M = L.length) (htr : tr = fun j => (L.getD j 0).toNat) (A : AcW Post W pA rA be M M ag tr va pl F col w (gof M tr M) s) (hx0 : x 0 = .slice ao M ct) (hx1 : x 1 = vo) (hx5 : x 5 = .pointer (some ⟨pA, 0, none⟩)) (hx7 : x 7 = .slice (some ⟨be, 0, none⟩) M M) (hx8 : x 8 = va) (hx9 : x 9 = .bool true)
    (H : ∀ (x' : Nat → Value) vl w', AcX Post W pA rA be M ag tr va vl pl F col w' s → x' 0 = .slice ao M ct → x' 1 = vo → x' 5 = .pointer (some ⟨pA, 0, none⟩) → x' 7 = .slice (some ⟨be, 0, none⟩) M M → x' 8 = va → x' 9 = .bool true → x' 15 = .int .u64 0 → x' 16 = vl → x' 17 = .int .i64 0 →
      Win Try.prog Post pl n 0 (gor ((Frame.enter Try.prog 5 args .normal).at ⟨T181 x', []⟩ (.code (acX2 Try.f5) :: acK2 Try.f5)) []) w') :
    Win Try.prog Post pl n 0 (gor ((Frame.enter Try.prog 5 args .normal).at ⟨T181 x, []⟩ [.code (acA1 Try.f5)]) []) w := by
  have hb : (Frame.enter Try.prog 5 args .normal).kind = .normal := rfl
  simp only [acA1, bodyOf, Try.f5, codeR, Option.getD_some, T181]
  simp only [hx0, hx1, hx5, hx7, hx8, hx9]
  refine Win.seq ?_
  refine Win.region ?_
  simp only [List.size_toArray, List.length_cons, List.length_nil, Nat.reduceAdd, List.range, List.range.loop]
  refine Win.pureOp (v := .int .u64 0) (.inl hb) rfl rfl (fun w => rfl) ?_
  simp only [Act.put, Act.eval, List.getElem?_toArray, List.getElem?_cons_zero, List.getElem?_cons_succ, Option.bind_some, List.getElem_toArray, List.getElem_cons_zero, List.getElem_cons_succ, List.setIfInBounds_toArray, List.set_cons_succ, List.set_cons_zero]
  refine Win.opsEnd ?_
  refine Win.seq ?_
  refine A.crew.desk.code (own := fun _ => False) (S := fun _ => False) (A := fun _ => True) (Priv.const True) trivial (fun _ h => h.elim) (R := fun a' o w' => ∃ vl : Value, o = (fun b => b ∈ blk vl) ∧ (a' = (⟨#[.slice ao M ct, vo, x 2, x 3, x 4, .pointer (some ⟨pA, 0, none⟩), x 6, .slice (some ⟨be, 0, none⟩) M M, va, .bool true, x 10, x 11, x 12, x 13, x 14, .int .u64 0, vl, x 17, x 18, x 19, x 20, x 21, x 22, x 23, x 24, x 25, x 26, x 27, x 28, x 29, x 30, x 31, x 32, x 33, x 34, x 35, x 36, x 37, x 38, x 39, x 40, x 41, x 42, x 43, x 44, x 45, x 46, x 47, x 48, x 49, x 50, x 51, x 52, x 53, x 54, x 55, x 56, x 57, x 58, x 59, x 60, x 61, x 62, x 63, x 64, x 65, x 66, x 67, x 68, x 69, x 70, x 71, x 72, x 73, x 74, x 75, x 76, .slice ao M ct, vl, x 79, x 80, x 81, x 82, x 83, x 84, x 85, x 86, x 87, x 88, x 89, x 90, x 91, x 92, x 93, x 94, x 95, x 96, x 97, x 98, x 99, x 100, x 101, x 102, x 103, x 104, x 105, x 106, x 107, x 108, x 109, x 110, x 111, x 112, x 113, x 114, x 115, x 116, x 117, x 118, x 119, x 120, x 121, x 122, x 123, x 124, x 125, x 126, x 127, x 128, x 129, x 130, x 131, x 132, x 133, x 134, x 135, x 136, x 137, x 138, x 139, x 140, x 141, x 142, x 143, x 144, x 145, x 146, x 147, x 148, x 149, x 150, x 151, x 152, x 153, x 154, x 155, x 156, x 157, x 158, x 159, x 160, x 161, x 162, x 163, x 164, x 165, x 166, x 167, x 168, x 169, x 170, x 171, x 172, x 173, x 174, x 175, x 176, x 177, x 178, x 179, x 180], []⟩ : Act) ∧ ∀ b ∈ blk vl, w.heap.size ≤ b) ∧ Rw 5 1 W.heap.size w' vl M (lcells tr M)) (fun a' o => Priv.exTied (fun vl => priv_rw _ _ _ _ _ _) _ o) (stok_at rfl rfl (by simp) (by kernel_rfl)) (fun wt Q _ hz hcell hQ => ?_) ?_
  · obtain ⟨ao', cap, w6, hrun, hrw, hkp⟩ := run_left (w := wt) (L := L) (ao := ao) (ct := ct) (fun i y hy => by
      obtain ⟨b, o, h1, h2, h3⟩ := hL i y hy
      exact ⟨b, o, h1, (hcell _).trans (A.cell h2), h3⟩) hn hM
    rw [← hMl] at hrun hrw
    have hWz := A.ks.size
    have HRun := Lib.hid hrun
    have HRw := Lib.hid hrw
    have HKp := Lib.hid hkp
    have HZ := Lib.hid hz
    have HQ := Lib.hid hQ
    have HT := Lib.hid htr
    clear hrun hrw hkp hz hcell A H hQ hn hL htr hMl
    go_wp2_with (at_builtin; refine wpList_append_eq rfl _ (.tmp 77) 23 rfl _ _ _ rfl rfl HRun.out ?_)
    have hge : ∀ b ∈ blk (.slice ao' M cap), wt.heap.size ≤ b := fun b hb => (HRw.out.block b hb).1
    refine HQ.out _ _ _ (fun y hy => ?_) ⟨.slice ao' M cap, rfl, ⟨rfl, by rw [← HZ.out]; exact hge⟩, by rw [HT.out]; exact HRw.out.low (by have := HZ.out; omega)⟩ ((ks_of_kp HKp.out).mono fun b _ z => by simp at z)
    exact .inr ⟨hge y hy, (priv_rw _ _ _ _ _ _).lt _ _ HRw.out hy⟩
  intro a' o w1 _ hR ks1 D1
  obtain ⟨vl, _, ⟨rfl, hvl⟩, hrw⟩ := hR
  have X1 : AcX Post W pA rA be M ag tr va vl pl F col w1 s := ⟨A.made D1 ks1, hrw, fun b hb => A.crew.desk.lay.above b (hvl b hb)⟩
  refine Win.seq ?_
  refine Win.seq ?_
  refine Win.region ?_
  simp only [List.size_toArray, List.length_cons, List.length_nil, Nat.reduceAdd, List.range, List.range.loop]
  refine Win.pureOp (v := .int .i64 0) (.inl hb) rfl rfl (fun w => rfl) ?_
  simp only [Act.put, Act.eval, List.getElem?_toArray, List.getElem?_cons_zero, List.getElem?_cons_succ, Option.bind_some, List.getElem_toArray, List.getElem_cons_zero, List.getElem_cons_succ, List.setIfInBounds_toArray, List.set_cons_succ, List.set_cons_zero]
  refine Win.opsEnd ?_
  refine Win.block ?_
  refine Win.loop ?_
  exact H (fun j => match j with | 0 => .slice ao M ct | 1 => vo | 5 => .pointer (some ⟨pA, 0, none⟩) | 7 => .slice (some ⟨be, 0, none⟩) M M | 8 => va | 9 => .bool true | 15 => .int .u64 0 | 16 => vl | 17 => .int .i64 0 | 77 => .slice ao M ct | 78 => vl | j => x j) vl w1 X1 rfl rfl rfl rfl rfl rfl rfl rfl rfl
end
end Go.Proofs.Ytodcnhodbeakiaa
