/- The walks of package arena: touch, Update (by whatever closure), New, Len, Touched, Last, and all of them at nil. Conditions: as each theorem states them. -/
import Derived.Test.YtdnlddjgjceogaaArnBase
import Derived.WalkKit
import Derived.WalkSpells
import Derived.WalkLawsBesides
import Derived.Defers
import Derived.Recover
import Derived.BigQuiet
import Derived.RegionTactic
import Derived.Handy
namespace Go.Proofs.Ytdnlddjgjceogaa
set_option linter.unusedVariables false
set_option linter.unusedSimpArgs false
open Go.RowKit

/-- The text's own panic: a place that there is not. -/
theorem touch_out (w : World) (p r : Nat) (s : St) (k : Int) (h : Ar w p r s) (hn : s.ws.length ≤ 4096) (hk : inB s k = false) :
    Calls Try.prog 36 #[.pointer (some ⟨p, 0, none⟩), .int .i64 k] w fun e w' => e = .panicked [{ v := .iface 78 (.int .i64 k), recovered := false }] ∧ w' = w := by
  have hc0 := h.c0
  have hk' : k < 0 ∨ (0 ≤ k ∧ (s.ws.length : Int) ≤ k) := by
    simp only [inB, Bool.and_eq_false_iff, decide_eq_false_iff_not] at hk; omega
  clear hk
  generalize s.ws.length = n at hc0 hn hk'
  rcases hk' with hk' | ⟨hk0, hk1⟩
  · go_enter Try.func36, Try.ntmps36
    go_wp2
    exact ⟨rfl, rfl, rfl⟩
  · go_enter Try.func36, Try.ntmps36
    go_wp2
    exact ⟨rfl, rfl, rfl⟩

theorem touch_in (w : World) (p r : Nat) (s : St) (k : Int) (h : Ar w p r s) (hn : s.ws.length ≤ 4096) (ht : s.t ≤ 1000000) (hk : inB s k = true) :
    Calls Try.prog 36 #[.pointer (some ⟨p, 0, none⟩), .int .i64 k] w fun e w' => e = .returned (.pointer (some ⟨r, k.toNat, none⟩)) ∧ w' = tw w p s.t k := by
  have hc0 := h.c0
  have hc1 := h.c1
  have hc2 := h.c2
  have hf := h.f
  obtain ⟨hk0, hk1⟩ := inB_iff.1 hk
  go_enter Try.func36, Try.ntmps36
  go_wp2
  go_ret
  exact ⟨rfl, by simp [tw]⟩

theorem catch_panicking (u : TypeId) (pv : Value) (older : List PanicEntry) (w : World) :
    CallsD Try.prog 35 #[] (.panicking ({ v := .iface u pv, recovered := false } :: older)) w fun e u' w' =>
      e = .returned (.tuple #[]) ∧ u' = .panicking ({ v := .iface u pv, recovered := true } :: older) ∧ w' = w := by
  refine callsD_of_wpS Try.func35 rfl fun c₀ cs hu => ?_
  apply wpS_region
  simp [wpOpsS, go_sem, recoverD, hu, Try.ntmps35, bodyPostS, results, Try.results35]

theorem catch_idle (w : World) :
    CallsD Try.prog 35 #[] .returning w fun e u' w' => e = .returned (.tuple #[]) ∧ u' = .returning ∧ w' = w := by
  refine callsD_of_wpS Try.func35 rfl fun c₀ cs hu => ?_
  apply wpS_region
  cases c₀
  simp_all [wpOpsS, go_sem, recoverD, Try.ntmps35, bodyPostS, results, Try.results35]

set_option maxRecDepth 100000 in
theorem func_nil (g : FuncId) (first cap : Array Value) (w : World) : (binOp .eql 67 (.func (.func g) first cap) .nilFunc).run Try.prog w = .ok (.bool false) w := rfl

/-- Update at a place that there is not: 0, nothing; f is not asked. -/
theorem upd_no (w : World) (p r : Nat) (s : St) (k : Int) (g : FuncId) (first cap : Array Value) (h : Ar w p r s) (hn : s.ws.length ≤ 4096) (hk : inB s k = false) :
    Calls Try.prog 26 #[.pointer (some ⟨p, 0, none⟩), .int .i64 k, .func (.func g) first cap] w fun e w' => e = .returned (.int .u64 0) ∧ w' = w := by
  have hmf : ∀ (fn : Fn) (first cap : Array Value) (w : World), (Instr.makeFunc fn first cap).run Try.prog w = .ok (.func fn first cap) w := fun _ _ _ _ => rfl
  have hfn := func_nil
  go_enter_defers Try.func26, Try.ntmps26
  go_wp2_with (go_at_call 36; refine (touch_out _ _ _ _ _ h hn hk).mono ?_; rintro e w1 ⟨rfl, rfl⟩)
  refine leaves_cons (f := 35) (args := #[]) (by simp) (by simp [go_sem]) ?_
  refine (catch_panicking _ _ [] _).mono ?_
  rintro e u' w'' ⟨rfl, rfl, rfl⟩
  simp [Leaves, settle, results, Try.results26, go_sem]

/-- Update at a place that there is: what it was; then it is what f says. The world behind f is W2, in which the word's cell stands. -/
theorem upd_yes (w : World) (p r : Nat) (s : St) (k : Int) (g : FuncId) (cap : Array Value) (y z : Int) (W2 : World) (h : Ar w p r s) (hn : s.ws.length ≤ 4096) (ht : s.t ≤ 1000000) (hk : inB s k = true)
    (hen : ∀ (x : Value) (w : World), (callFunc g (#[x] ++ cap)).run Try.prog w = .ok (.enter g (#[x] ++ cap)) w)
    (hcall : Calls Try.prog g (#[.int .u64 (s.ws.getD k.toNat 0)] ++ cap) (tw w p s.t k) fun e w' => e = .returned (.int .u64 y) ∧ w' = W2)
    (hc2 : W2.cell? ⟨r, k.toNat, none⟩ = some (.int .u64 z)) (hf2 : W2.frozen? ⟨r, k.toNat, none⟩ = false) :
    Calls Try.prog 26 #[.pointer (some ⟨p, 0, none⟩), .int .i64 k, .func (.func g) #[] cap] w fun e w' => e = .returned (.int .u64 (s.ws.getD k.toNat 0)) ∧ w' = W2.setCell ⟨r, k.toNat, none⟩ (.int .u64 y) := by
  have hmf : ∀ (fn : Fn) (first cap : Array Value) (w : World), (Instr.makeFunc fn first cap).run Try.prog w = .ok (.func fn first cap) w := fun _ _ _ _ => rfl
  have hfn := func_nil
  obtain ⟨hk0, hk1⟩ := inB_iff.1 hk
  have hk3 : k.toNat < s.ws.length := by omega
  have hcr := (h.tw k).cr hk3
  have hto := touch_in w p r s k h hn ht hk
  generalize s.ws.getD k.toNat 0 = x0 at hcall hcr ⊢
  generalize tw w p s.t k = w1 at hcall hcr hto
  go_enter_defers Try.func26, Try.ntmps26
  go_wp2_with (go_at_call 36; refine hto.mono ?_; rintro e w1 ⟨rfl, rfl⟩)
  refine hcall.mono ?_
  rintro e w2 ⟨rfl, rfl⟩
  go_wp2_with fail
  refine leaves_cons (f := 35) (args := #[]) (by simp) (by simp [go_sem]) ?_
  refine (catch_idle _).mono ?_
  rintro e u' w'' ⟨rfl, rfl, rfl⟩
  simp [Leaves, settle, results, Try.results26, go_sem]

theorem upd_nil (w : World) (k : Int) (f : Value) :
    Calls Try.prog 26 #[.pointer none, .int .i64 k, f] w fun e w' => e = .returned (.int .u64 0) ∧ w' = w := by
  go_enter_defers Try.func26, Try.ntmps26
  go_wp2
  simp [bodyPostD, Leaves, settle, results, Try.results26, go_sem]

theorem touched_any (w : World) (p r : Nat) (s : St) (h : Ar w p r s) :
    Calls Try.prog 9 #[.pointer (some ⟨p, 0, none⟩)] w fun e w' => e = .returned (.int .u64 s.t) ∧ w' = w := by
  have hc1 := h.c1
  go_enter Try.func9, Try.ntmps9
  go_wp2
  go_ret
  exact ⟨rfl, rfl⟩

theorem touched_nil (w : World) : Calls Try.prog 9 #[.pointer none] w fun e w' => e = .returned (.int .u64 0) ∧ w' = w := by
  go_enter Try.func9, Try.ntmps9
  go_wp2
  go_ret
  exact ⟨rfl, rfl⟩

/-- The place that was touched last, or -1. -/
def lastOf (s : St) : Int := if s.t = 0 then -1 else s.l

theorem all_nil (w : World) : Calls Try.prog 23 #[.pointer none] w fun e w' => e = .returned (.slice none 0 0) ∧ w' = w := by
  go_enter Try.func23, Try.ntmps23
  go_wp2
  go_ret
  exact ⟨rfl, rfl⟩

theorem new_bad (w : World) (n : Int) (h : n < 1 ∨ 4096 < n) : Calls Try.prog 17 #[.int .i64 n] w fun e w' => e = .returned (.tuple #[.pointer none, .int .i64 2]) ∧ w' = w := by
  rcases h with h | h
  · go_enter Try.func17, Try.ntmps17
    go_wp2
    go_ret2
    exact ⟨rfl, rfl⟩
  · have h1 : ¬ n < 1 := by omega
    go_enter Try.func17, Try.ntmps17
    go_wp2
    go_ret2
    exact ⟨rfl, rfl⟩

/-- An arena that has just been made. -/
def fresh (n : Nat) : St := ⟨List.replicate n 0, 0, 0⟩

theorem made_u64s (n : Nat) : madeCells #[.int .u64 0] n = u64s (List.replicate n 0) := by
  apply Array.ext'
  rw [toList_madeCells_one]
  simp [u64s]

theorem make_u64s (n : Nat) (h2 : n ≤ 4096) (w : World) : (Instr.makeSlice 23 (.int .i64 (n : Int)) (.int .i64 (n : Int))).run Try.prog w = .ok (.slice (some ⟨w.heap.size, 0, none⟩) n n) (w.alloc (.cells (u64s (List.replicate n 0)) 30)) := by
  obtain ⟨i, hi, hz0, hz1, hz2⟩ := info_parts (P := Try.prog) (e := 30) (z := .int .u64 0) (size := 1) (bytes := 8) (by kernel_rfl)
  have := run_make (P := Try.prog) w 23 30 i (.int .u64 0) Try.underlying23 hi hz0 .i64 .i64 n n (by omega) (Int.le_refl _) (by rw [hz2]; omega) (by omega)
  rw [this, hz1]
  simp [Value.cells, made_u64s]

theorem new_good (w : World) (n : Nat) (h1 : 1 ≤ n) (h2 : n ≤ 4096) : Calls Try.prog 17 #[.int .i64 n] w fun e w' => e = .returned (.tuple #[.pointer (some ⟨w.heap.size + 1, 0, none⟩), .int .i64 0]) ∧ Ar w' (w.heap.size + 1) w.heap.size (fresh n) ∧ Kp [] w w' := by
  have hmk := make_u64s n h2
  go_enter Try.func17, Try.ntmps17
  go_wp2
  go_ret2
  refine ⟨rfl, ⟨?_, ?_⟩, ((Kp.refl _ _).alloc _).alloc _⟩
  · have := heap_alloc_new (w.alloc (Obj.cells (u64s (List.replicate n 0)) 30)) (Obj.cells #[Value.slice (some { block := w.heap.size, off := 0 }) n n, Value.int IntKind.u64 0, Value.int IntKind.i64 0] 55)
    rw [World.size_alloc] at this
    rw [this]
    simp [fresh]
  · rw [heap_alloc2_old]
    simp [fresh]

/-- All: the words, in a row of their own. -/
theorem all_any (w : World) (p r : Nat) (s : St) (h : Ar w p r s) (hn1 : 1 ≤ s.ws.length) (hn : s.ws.length ≤ 4096) :
    Calls Try.prog 23 #[.pointer (some ⟨p, 0, none⟩)] w fun e w' => e = .returned (.slice (some ⟨w.heap.size, 0, none⟩) s.ws.length s.ws.length) ∧ w'.heap[w.heap.size]? = some (.cells (u64s s.ws) 30 (0, 0)) ∧ Kp [] w w' := by
  have hc0 := h.c0
  have hmk := make_u64s s.ws.length hn
  have hpl := h.lt.1
  have hcs : (List.map (Value.int .u64) s.ws).length = Nat.min s.ws.length s.ws.length := by simp
  have hsrc : ∀ j v, (List.map (Value.int .u64) s.ws)[j]? = some v → w.cell? ((⟨r, 0, none⟩ : Addr).add j) = some v := by
    intro j v hv
    rw [Addr.add_lit, Nat.zero_add, cell_of_row h.hr]
    simpa [u64s] using hv
  have hg := heap_alloc_new w (Obj.cells (u64s (List.replicate s.ws.length 0)) 30)
  have hcp := run_copy_row (P := Try.prog) (w.alloc (Obj.cells (u64s (List.replicate s.ws.length 0)) 30)) 23 23 3 30 w.heap.size 0 s.ws.length s.ws.length ⟨r, 0, none⟩ s.ws.length s.ws.length (u64s (List.replicate s.ws.length 0)) 30 (List.map (Value.int .u64) s.ws)
    Try.underlying23 (by kernel_rfl) hg hcs
    (fun j v hv => by have := hsrc j v hv; rw [Addr.add_lit, Nat.zero_add] at this ⊢; rw [World.cell?_alloc_past _ _ _ h.lt.2]; exact this) (by simp [u64s]) (by intro v hv; obtain ⟨x, _, rfl⟩ := List.mem_map.1 hv; rfl)
  have e1 : ((u64s (List.replicate s.ws.length 0)).toList.take 0 ++ List.map (Value.int .u64) s.ws ++ (u64s (List.replicate s.ws.length 0)).toList.drop (0 + (List.map (Value.int .u64) s.ws).length)).toArray = u64s s.ws := by
    simp [u64s]
  rw [e1] at hcp
  have hend := setRow_heap (w.alloc (Obj.cells (u64s (List.replicate s.ws.length 0)) 30)) w.heap.size _ (u64s s.ws) 30 (0, 0) hg
  have hkp : Kp [] w ((w.alloc (Obj.cells (u64s (List.replicate s.ws.length 0)) 30)).setRow w.heap.size (u64s s.ws)) := ((Kp.refl [] w).alloc _).setRow (.inr (Nat.le_refl _)) _
  clear hsrc hcs e1
  generalize (w.alloc (Obj.cells (u64s (List.replicate s.ws.length 0)) 30)).setRow w.heap.size (u64s s.ws) = w2 at hcp hend hkp
  go_enter Try.func23, Try.ntmps23
  go_wp2
  go_ret
  exact ⟨rfl, hend, hkp⟩

end Go.Proofs.Ytdnlddjgjceogaa
