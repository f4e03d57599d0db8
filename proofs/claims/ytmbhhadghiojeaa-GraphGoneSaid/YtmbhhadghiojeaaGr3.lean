/- Layer 10's caught: what an act that ends, or throws, answers. Conditions: as each theorem states them. -/
import Derived.Test.YtmbhhadghiojeaaGr2
import Derived.BigQuiet
import Derived.RegionTactic
import Derived.Deep.RegionHeld3
import Derived.Handy
namespace Go.Proofs.Ytmbhhadghiojeaa
set_option linter.unusedVariables false
set_option linter.unusedSimpArgs false
open Go.RowKit

theorem assert_errno (x : Int) (w : World) : (Instr.typeAssert (.iface 26 (.int .i64 x)) 20 26 false).run Try.prog w = .ok (.int .i64 x) w := by kernel_rfl

set_option maxRecDepth 100000 in
theorem catch_panicking (H : Nat) (x y : Int) (older : List PanicEntry) (w : World) (hc : w.cell? ⟨H, 0, none⟩ = some (.int .i64 y)) (hf : w.frozen? ⟨H, 0, none⟩ = false) :
    CallsD Try.prog 65 #[.pointer (some ⟨H, 0, none⟩)] (.panicking ({ v := .iface 26 (.int .i64 x), recovered := false } :: older)) w fun e u' w' =>
      e = .returned (.tuple #[]) ∧ u' = .panicking ({ v := .iface 26 (.int .i64 x), recovered := true } :: older) ∧ w' = w.setCell ⟨H, 0, none⟩ (.int .i64 x) := by
  refine callsD_of_wpS Try.func65 rfl fun c₀ cs hu => ?_
  refine wpS_seq ?_
  apply wpS_region
  simp only [Try.ntmps65, List.size_toArray, List.length_cons, List.length_nil, Nat.reduceAdd, Nat.reduceSub, Array.replicate_succ, Array.replicate_zero, List.push_toArray, List.append_toArray, List.nil_append, List.cons_append]
  have HC := Lib.hid hc
  have HF := Lib.hid hf
  clear hc hf
  simp [wpOpsS, go_sem, recoverD, hu]
  clear hu
  generalize FrameMode.panicking ({ v := Value.iface 26 (Value.int IntKind.i64 x), recovered := true } :: older) = md
  simp only [Exit.thenS]
  cases c₀
  dsimp only
  have hc := HC.out
  have hf := HF.out
  have hta := assert_errno x w
  refine wpS_of_wp ?_
  go_wp2
  simp [bodyPostS, results, Try.results65]

theorem catch_idle (H : Nat) (w : World) :
    CallsD Try.prog 65 #[.pointer (some ⟨H, 0, none⟩)] .returning w fun e u' w' => e = .returned (.tuple #[]) ∧ u' = .returning ∧ w' = w := by
  refine callsD_of_wpS Try.func65 rfl fun c₀ cs hu => ?_
  refine wpS_seq ?_
  apply wpS_region
  cases c₀
  simp only [Try.ntmps65, List.size_toArray, List.length_cons, List.length_nil, Nat.reduceAdd, Nat.reduceSub, Array.replicate_succ, Array.replicate_zero, List.push_toArray, List.append_toArray, List.nil_append, List.cons_append]
  simp_all [wpOpsS, go_sem, recoverD, Exit.thenS]
  refine wpS_of_wp ?_
  go_wp2
  simp [bodyPostS, results, Try.results65]

/-- What caught answers, and where: the act's own world, but for the answer's box. -/
def Caught (w : World) (x : Int) (Q : World → Prop) (e : Ending) (w' : World) : Prop := e = .returned (.int .i64 x) ∧ ∃ w2, Q w2 ∧ Kp [w.heap.size] w2 w'

/-- An act that ends. -/
theorem caught_ok (w : World) (g : FuncId) (cap : Array Value) (Q : World → Prop) (hen : ∀ (args : Array Value) (w : World), (callFunc g args).run Try.prog w = .ok (.enter g args) w)
    (hcall : Calls Try.prog g cap (w.alloc (.cells #[.int .i64 0] 26)) fun e w2 => e = .returned (.tuple #[]) ∧ Q w2)
    (hQ : ∀ w2, Q w2 → w2.heap[w.heap.size]? = some (.cells #[.int .i64 0] 26 (0, 0))) :
    Calls Try.prog 30 #[.func (.func g) #[] cap] w (Caught w 0 Q) := by
  have hmf : ∀ (fn : Fn) (first cap : Array Value) (w : World), (Instr.makeFunc fn first cap).run Try.prog w = .ok (.func fn first cap) w := fun _ _ _ _ => rfl
  have HQ := Lib.hid hQ
  clear hQ
  go_enter_defers Try.func30, Try.ntmps30
  go_wp2_with fail
  refine hcall.mono ?_
  rintro e w2 ⟨rfl, hq⟩
  have hb := HQ.out w2 hq
  have hc := cell_of_row hb 0
  have hf := free_of_row hb 0
  have HC := Lib.hid (And.intro hq hb)
  clear hq hb hcall
  go_wp2_with fail
  have hs := cell_of_row (heap_setCell_same w2 w.heap.size 0 _ _ (.int .i64 0) HC.out.2) 0
  have hk : Kp [w.heap.size] w2 (w2.setCell ⟨w.heap.size, 0, none⟩ (.int .i64 0)) := (Kp.refl _ _).setCell (.inl (by simp)) _
  have HK := Lib.hid (And.intro HC.out.1 hk)
  clear hk HC HQ
  refine leaves_cons (f := 65) (args := #[.pointer (some ⟨w.heap.size, 0, none⟩)]) (by simp) (by simp [go_sem]) ?_
  refine (catch_idle _ _).mono ?_
  rintro e u' w'' ⟨rfl, rfl, rfl⟩
  have hres : Caught w 0 Q (.returned (.int .i64 0)) (w2.setCell ⟨w.heap.size, 0, none⟩ (.int .i64 0)) := ⟨rfl, w2, HK.out⟩
  simp at hs
  simp [Leaves, settle, results, Try.results30, go_sem, hs, hres]

/-- An act that throws. -/
theorem caught_no (w : World) (g : FuncId) (cap : Array Value) (x : Int) (Q : World → Prop) (hen : ∀ (args : Array Value) (w : World), (callFunc g args).run Try.prog w = .ok (.enter g args) w)
    (hcall : Calls Try.prog g cap (w.alloc (.cells #[.int .i64 0] 26)) fun e w2 => e = .panicked [{ v := .iface 26 (.int .i64 x), recovered := false }] ∧ Q w2)
    (hQ : ∀ w2, Q w2 → w2.heap[w.heap.size]? = some (.cells #[.int .i64 0] 26 (0, 0))) :
    Calls Try.prog 30 #[.func (.func g) #[] cap] w (Caught w x Q) := by
  have hmf : ∀ (fn : Fn) (first cap : Array Value) (w : World), (Instr.makeFunc fn first cap).run Try.prog w = .ok (.func fn first cap) w := fun _ _ _ _ => rfl
  have HQ := Lib.hid hQ
  clear hQ
  go_enter_defers Try.func30, Try.ntmps30
  go_wp2_with fail
  refine hcall.mono ?_
  rintro e w2 ⟨rfl, hq⟩
  have hb := HQ.out w2 hq
  have hc := cell_of_row hb 0
  have hf := free_of_row hb 0
  have hs := cell_of_row (heap_setCell_same w2 w.heap.size 0 _ _ (.int .i64 x) hb) 0
  have hk : Kp [w.heap.size] w2 (w2.setCell ⟨w.heap.size, 0, none⟩ (.int .i64 x)) := (Kp.refl _ _).setCell (.inl (by simp)) _
  have HK := Lib.hid (And.intro hq hk)
  clear hk hq hb hcall HQ
  go_wp2_with fail
  refine leaves_cons (f := 65) (args := #[.pointer (some ⟨w.heap.size, 0, none⟩)]) (by simp) (by simp [go_sem]) ?_
  refine (catch_panicking _ _ 0 [] _ hc hf).mono ?_
  rintro e u' w'' ⟨rfl, rfl, rfl⟩
  have hres : Caught w x Q (.returned (.int .i64 x)) (w2.setCell ⟨w.heap.size, 0, none⟩ (.int .i64 x)) := ⟨rfl, w2, HK.out⟩
  simp at hs
  simp [Leaves, settle, results, Try.results30, go_sem, hs, hres]

end Go.Proofs.Ytmbhhadghiojeaa
