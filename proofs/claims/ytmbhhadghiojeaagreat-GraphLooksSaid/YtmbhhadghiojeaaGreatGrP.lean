/- Layer 10's methods, over what 'caught' answers of their closures. Conditions: as each theorem states them. -/
import Derived.Test.YtmbhhadghiojeaaGreatGrN
namespace Go.Proofs.YtmbhhadghiojeaaGreat
set_option linter.unusedVariables false
set_option linter.unusedSimpArgs false
open Go.RowKit

/-- What a method tells, and in which world. -/
def Told (r : Value) (S : List Nat) (Q : World → Prop) (e : Ending) (w' : World) : Prop := e = .returned r ∧ ∃ w2, Q w2 ∧ Kp S w2 w'

set_option maxRecDepth 100000 in
theorem me_New (w : World) (h k l x : Int) (Q : World → Prop) (hc : Calls Tryz.prog 19 #[.func (.func 20) #[] #[.pointer (some ⟨w.heap.size, 0, none⟩), .pointer (some ⟨w.heap.size + 1 + 1, 0, none⟩), .pointer (some ⟨w.heap.size + 1, 0, none⟩), .pointer (some ⟨w.heap.size + 1 + 1 + 1, 0, none⟩)]] ((((w.alloc (.cells #[.int .i64 h] 3)).alloc (.cells #[.int .i64 k] 3)).alloc (.cells #[.int .i64 l] 3)).alloc (.cells #[.pointer none] 24)) (Caught ((((w.alloc (.cells #[.int .i64 h] 3)).alloc (.cells #[.int .i64 k] 3)).alloc (.cells #[.int .i64 l] 3)).alloc (.cells #[.pointer none] 24)) x Q)) (y : Option Addr) (hQ : ∀ w2, Q w2 → w2.heap[w.heap.size + 1 + 1 + 1]? = some (.cells #[.pointer y] 24 (0, 0))) :
    Calls Tryz.prog 6 #[.int .i64 h, .int .i64 k, .int .i64 l] w (Told (.tuple #[.pointer y, .int .i64 x]) [w.heap.size + 1 + 1 + 1, w.heap.size + 1 + 1 + 1 + 1] Q) := by
  have hmf : ∀ (fn : Fn) (first cap : Array Value) (w : World), (Instr.makeFunc fn first cap).run Tryz.prog w = .ok (.func fn first cap) w := fun _ _ _ _ => rfl
  have HQ := Lib.hid hQ
  have HC := Lib.hid hc
  clear hQ hc
  go_enter Tryz.func6, Tryz.ntmps6
  go_wp2_with fail
  refine HC.out.mono ?_
  rintro e w3 ⟨rfl, w2, hq, hk⟩
  have hb := hk.row (by simp) (HQ.out w2 hq)
  have hc := cell_of_row hb 0
  have hf := free_of_row hb 0
  have hs := cell_of_row (heap_setCell_same w3 (w.heap.size + 1 + 1 + 1) 0 _ _ (.pointer y) hb) 0
  have hkk : Kp [w.heap.size + 1 + 1 + 1, w.heap.size + 1 + 1 + 1 + 1] w2 (w3.setCell ⟨w.heap.size + 1 + 1 + 1, 0, none⟩ (.pointer y)) := (hk.mono (by simp)).setCell (.inl (by simp)) _
  have HK := Lib.hid (And.intro hq hkk)
  clear hb hkk hk hq hmf HQ HC
  simp only [List.getElem?_toArray, List.getElem?_cons_zero] at hc
  simp at hs
  go_wp2_with fail
  exact bodyPost_ret (v := .tuple #[.pointer y, .int .i64 x]) (by simp [results, Tryz.results6, go_sem, hs]) rfl ⟨rfl, w2, HK.out⟩

set_option maxRecDepth 100000 in
theorem me_Alloc (w : World) (gv : Option Addr) (t d r z x : Int) (Q : World → Prop) (hc : Calls Tryz.prog 19 #[.func (.func 56) #[] #[.pointer (some ⟨w.heap.size, 0, none⟩), .pointer (some ⟨w.heap.size + 1, 0, none⟩), .pointer (some ⟨w.heap.size + 1 + 1, 0, none⟩), .pointer (some ⟨w.heap.size + 1 + 1 + 1, 0, none⟩), .pointer (some ⟨w.heap.size + 1 + 1 + 1 + 1, 0, none⟩), .pointer (some ⟨w.heap.size + 1 + 1 + 1 + 1 + 1, 0, none⟩)]] ((((((w.alloc (.cells #[.pointer gv] 24)).alloc (.cells #[.int .i64 t] 3)).alloc (.cells #[.int .i64 d] 3)).alloc (.cells #[.int .i64 r] 3)).alloc (.cells #[.int .i64 z] 3)).alloc (.cells #[.int .i64 0] 3)) (Caught ((((((w.alloc (.cells #[.pointer gv] 24)).alloc (.cells #[.int .i64 t] 3)).alloc (.cells #[.int .i64 d] 3)).alloc (.cells #[.int .i64 r] 3)).alloc (.cells #[.int .i64 z] 3)).alloc (.cells #[.int .i64 0] 3)) x Q)) (y : Int) (hQ : ∀ w2, Q w2 → w2.heap[w.heap.size + 1 + 1 + 1 + 1 + 1]? = some (.cells #[.int .i64 y] 3 (0, 0))) :
    Calls Tryz.prog 15 #[.pointer gv, .int .i64 t, .int .i64 d, .int .i64 r, .int .i64 z] w (Told (.tuple #[.int .i64 y, .int .i64 x]) [w.heap.size + 1 + 1 + 1 + 1 + 1, w.heap.size + 1 + 1 + 1 + 1 + 1 + 1] Q) := by
  have hmf : ∀ (fn : Fn) (first cap : Array Value) (w : World), (Instr.makeFunc fn first cap).run Tryz.prog w = .ok (.func fn first cap) w := fun _ _ _ _ => rfl
  have HQ := Lib.hid hQ
  have HC := Lib.hid hc
  clear hQ hc
  go_enter Tryz.func15, Tryz.ntmps15
  go_wp2_with fail
  refine HC.out.mono ?_
  rintro e w3 ⟨rfl, w2, hq, hk⟩
  have hb := hk.row (by simp) (HQ.out w2 hq)
  have hc := cell_of_row hb 0
  have hf := free_of_row hb 0
  have hs := cell_of_row (heap_setCell_same w3 (w.heap.size + 1 + 1 + 1 + 1 + 1) 0 _ _ (.int .i64 y) hb) 0
  have hkk : Kp [w.heap.size + 1 + 1 + 1 + 1 + 1, w.heap.size + 1 + 1 + 1 + 1 + 1 + 1] w2 (w3.setCell ⟨w.heap.size + 1 + 1 + 1 + 1 + 1, 0, none⟩ (.int .i64 y)) := (hk.mono (by simp)).setCell (.inl (by simp)) _
  have HK := Lib.hid (And.intro hq hkk)
  clear hb hkk hk hq hmf HQ HC
  simp only [List.getElem?_toArray, List.getElem?_cons_zero] at hc
  simp at hs
  go_wp2_with fail
  exact bodyPost_ret (v := .tuple #[.int .i64 y, .int .i64 x]) (by simp [results, Tryz.results15, go_sem, hs]) rfl ⟨rfl, w2, HK.out⟩

set_option maxRecDepth 100000 in
theorem me_Load (w : World) (gv : Option Addr) (t d s i x : Int) (Q : World → Prop) (hc : Calls Tryz.prog 19 #[.func (.func 64) #[] #[.pointer (some ⟨w.heap.size, 0, none⟩), .pointer (some ⟨w.heap.size + 1, 0, none⟩), .pointer (some ⟨w.heap.size + 1 + 1, 0, none⟩), .pointer (some ⟨w.heap.size + 1 + 1 + 1, 0, none⟩), .pointer (some ⟨w.heap.size + 1 + 1 + 1 + 1, 0, none⟩), .pointer (some ⟨w.heap.size + 1 + 1 + 1 + 1 + 1, 0, none⟩)]] ((((((w.alloc (.cells #[.pointer gv] 24)).alloc (.cells #[.int .i64 t] 3)).alloc (.cells #[.int .i64 d] 3)).alloc (.cells #[.int .i64 s] 3)).alloc (.cells #[.int .i64 i] 3)).alloc (.cells #[.int .i64 0] 3)) (Caught ((((((w.alloc (.cells #[.pointer gv] 24)).alloc (.cells #[.int .i64 t] 3)).alloc (.cells #[.int .i64 d] 3)).alloc (.cells #[.int .i64 s] 3)).alloc (.cells #[.int .i64 i] 3)).alloc (.cells #[.int .i64 0] 3)) x Q)) (y : Int) (hQ : ∀ w2, Q w2 → w2.heap[w.heap.size + 1 + 1 + 1 + 1 + 1]? = some (.cells #[.int .i64 y] 3 (0, 0))) :
    Calls Tryz.prog 18 #[.pointer gv, .int .i64 t, .int .i64 d, .int .i64 s, .int .i64 i] w (Told (.tuple #[.int .i64 y, .int .i64 x]) [w.heap.size + 1 + 1 + 1 + 1 + 1, w.heap.size + 1 + 1 + 1 + 1 + 1 + 1] Q) := by
  have hmf : ∀ (fn : Fn) (first cap : Array Value) (w : World), (Instr.makeFunc fn first cap).run Tryz.prog w = .ok (.func fn first cap) w := fun _ _ _ _ => rfl
  have HQ := Lib.hid hQ
  have HC := Lib.hid hc
  clear hQ hc
  go_enter Tryz.func18, Tryz.ntmps18
  go_wp2_with fail
  refine HC.out.mono ?_
  rintro e w3 ⟨rfl, w2, hq, hk⟩
  have hb := hk.row (by simp) (HQ.out w2 hq)
  have hc := cell_of_row hb 0
  have hf := free_of_row hb 0
  have hs := cell_of_row (heap_setCell_same w3 (w.heap.size + 1 + 1 + 1 + 1 + 1) 0 _ _ (.int .i64 y) hb) 0
  have hkk : Kp [w.heap.size + 1 + 1 + 1 + 1 + 1, w.heap.size + 1 + 1 + 1 + 1 + 1 + 1] w2 (w3.setCell ⟨w.heap.size + 1 + 1 + 1 + 1 + 1, 0, none⟩ (.int .i64 y)) := (hk.mono (by simp)).setCell (.inl (by simp)) _
  have HK := Lib.hid (And.intro hq hkk)
  clear hb hkk hk hq hmf HQ HC
  simp only [List.getElem?_toArray, List.getElem?_cons_zero] at hc
  simp at hs
  go_wp2_with fail
  exact bodyPost_ret (v := .tuple #[.int .i64 y, .int .i64 x]) (by simp [results, Tryz.results18, go_sem, hs]) rfl ⟨rfl, w2, HK.out⟩

set_option maxRecDepth 100000 in
theorem me_Store (w : World) (gv : Option Addr) (t d i s x : Int) (Q : World → Prop) (hc : Calls Tryz.prog 19 #[.func (.func 59) #[] #[.pointer (some ⟨w.heap.size, 0, none⟩), .pointer (some ⟨w.heap.size + 1, 0, none⟩), .pointer (some ⟨w.heap.size + 1 + 1, 0, none⟩), .pointer (some ⟨w.heap.size + 1 + 1 + 1 + 1, 0, none⟩), .pointer (some ⟨w.heap.size + 1 + 1 + 1, 0, none⟩)]] (((((w.alloc (.cells #[.pointer gv] 24)).alloc (.cells #[.int .i64 t] 3)).alloc (.cells #[.int .i64 d] 3)).alloc (.cells #[.int .i64 i] 3)).alloc (.cells #[.int .i64 s] 3)) (Caught (((((w.alloc (.cells #[.pointer gv] 24)).alloc (.cells #[.int .i64 t] 3)).alloc (.cells #[.int .i64 d] 3)).alloc (.cells #[.int .i64 i] 3)).alloc (.cells #[.int .i64 s] 3)) x Q)) :
    Calls Tryz.prog 16 #[.pointer gv, .int .i64 t, .int .i64 d, .int .i64 i, .int .i64 s] w (Told (.int .i64 x) [w.heap.size + 1 + 1 + 1 + 1 + 1] Q) := by
  have hmf : ∀ (fn : Fn) (first cap : Array Value) (w : World), (Instr.makeFunc fn first cap).run Tryz.prog w = .ok (.func fn first cap) w := fun _ _ _ _ => rfl
  have HC := Lib.hid hc
  clear hc
  go_enter Tryz.func16, Tryz.ntmps16
  go_wp2_with fail
  refine HC.out.mono ?_
  rintro e w3 ⟨rfl, w2, hq, hk⟩
  have HK := Lib.hid (And.intro hq (show Kp [w.heap.size + 1 + 1 + 1 + 1 + 1] w2 w3 from by simpa using hk))
  clear hk hq hmf HC
  go_wp2_with fail
  go_ret
  exact ⟨rfl, w2, HK.out⟩

set_option maxRecDepth 100000 in
theorem me_Read (w : World) (gv : Option Addr) (t s i x : Int) (Q : World → Prop) (hc : Calls Tryz.prog 19 #[.func (.func 66) #[] #[.pointer (some ⟨w.heap.size, 0, none⟩), .pointer (some ⟨w.heap.size + 1, 0, none⟩), .pointer (some ⟨w.heap.size + 1 + 1, 0, none⟩), .pointer (some ⟨w.heap.size + 1 + 1 + 1, 0, none⟩), .pointer (some ⟨w.heap.size + 1 + 1 + 1 + 1, 0, none⟩)]] (((((w.alloc (.cells #[.pointer gv] 24)).alloc (.cells #[.int .i64 t] 3)).alloc (.cells #[.int .i64 s] 3)).alloc (.cells #[.int .i64 i] 3)).alloc (.cells #[.int .u64 0] 31)) (Caught (((((w.alloc (.cells #[.pointer gv] 24)).alloc (.cells #[.int .i64 t] 3)).alloc (.cells #[.int .i64 s] 3)).alloc (.cells #[.int .i64 i] 3)).alloc (.cells #[.int .u64 0] 31)) x Q)) (y : Int) (hQ : ∀ w2, Q w2 → w2.heap[w.heap.size + 1 + 1 + 1 + 1]? = some (.cells #[.int .u64 y] 31 (0, 0))) :
    Calls Tryz.prog 25 #[.pointer gv, .int .i64 t, .int .i64 s, .int .i64 i] w (Told (.tuple #[.int .u64 y, .int .i64 x]) [w.heap.size + 1 + 1 + 1 + 1, w.heap.size + 1 + 1 + 1 + 1 + 1] Q) := by
  have hmf : ∀ (fn : Fn) (first cap : Array Value) (w : World), (Instr.makeFunc fn first cap).run Tryz.prog w = .ok (.func fn first cap) w := fun _ _ _ _ => rfl
  have HQ := Lib.hid hQ
  have HC := Lib.hid hc
  clear hQ hc
  go_enter Tryz.func25, Tryz.ntmps25
  go_wp2_with fail
  refine HC.out.mono ?_
  rintro e w3 ⟨rfl, w2, hq, hk⟩
  have hb := hk.row (by simp) (HQ.out w2 hq)
  have hc := cell_of_row hb 0
  have hf := free_of_row hb 0
  have hs := cell_of_row (heap_setCell_same w3 (w.heap.size + 1 + 1 + 1 + 1) 0 _ _ (.int .u64 y) hb) 0
  have hkk : Kp [w.heap.size + 1 + 1 + 1 + 1, w.heap.size + 1 + 1 + 1 + 1 + 1] w2 (w3.setCell ⟨w.heap.size + 1 + 1 + 1 + 1, 0, none⟩ (.int .u64 y)) := (hk.mono (by simp)).setCell (.inl (by simp)) _
  have HK := Lib.hid (And.intro hq hkk)
  clear hb hkk hk hq hmf HQ HC
  simp only [List.getElem?_toArray, List.getElem?_cons_zero] at hc
  simp at hs
  go_wp2_with fail
  exact bodyPost_ret (v := .tuple #[.int .u64 y, .int .i64 x]) (by simp [results, Tryz.results25, go_sem, hs]) rfl ⟨rfl, w2, HK.out⟩

set_option maxRecDepth 100000 in
theorem me_Write (w : World) (gv : Option Addr) (t s i v x : Int) (Q : World → Prop) (hc : Calls Tryz.prog 19 #[.func (.func 68) #[] #[.pointer (some ⟨w.heap.size, 0, none⟩), .pointer (some ⟨w.heap.size + 1, 0, none⟩), .pointer (some ⟨w.heap.size + 1 + 1, 0, none⟩), .pointer (some ⟨w.heap.size + 1 + 1 + 1 + 1, 0, none⟩), .pointer (some ⟨w.heap.size + 1 + 1 + 1, 0, none⟩)]] (((((w.alloc (.cells #[.pointer gv] 24)).alloc (.cells #[.int .i64 t] 3)).alloc (.cells #[.int .i64 s] 3)).alloc (.cells #[.int .i64 i] 3)).alloc (.cells #[.int .u64 v] 31)) (Caught (((((w.alloc (.cells #[.pointer gv] 24)).alloc (.cells #[.int .i64 t] 3)).alloc (.cells #[.int .i64 s] 3)).alloc (.cells #[.int .i64 i] 3)).alloc (.cells #[.int .u64 v] 31)) x Q)) :
    Calls Tryz.prog 26 #[.pointer gv, .int .i64 t, .int .i64 s, .int .i64 i, .int .u64 v] w (Told (.int .i64 x) [w.heap.size + 1 + 1 + 1 + 1 + 1] Q) := by
  have hmf : ∀ (fn : Fn) (first cap : Array Value) (w : World), (Instr.makeFunc fn first cap).run Tryz.prog w = .ok (.func fn first cap) w := fun _ _ _ _ => rfl
  have HC := Lib.hid hc
  clear hc
  go_enter Tryz.func26, Tryz.ntmps26
  go_wp2_with fail
  refine HC.out.mono ?_
  rintro e w3 ⟨rfl, w2, hq, hk⟩
  have HK := Lib.hid (And.intro hq (show Kp [w.heap.size + 1 + 1 + 1 + 1 + 1] w2 w3 from by simpa using hk))
  clear hk hq hmf HC
  go_wp2_with fail
  go_ret
  exact ⟨rfl, w2, HK.out⟩

set_option maxRecDepth 100000 in
theorem me_Get (w : World) (gv : Option Addr) (t d i x : Int) (Q : World → Prop) (hc : Calls Tryz.prog 19 #[.func (.func 69) #[] #[.pointer (some ⟨w.heap.size, 0, none⟩), .pointer (some ⟨w.heap.size + 1, 0, none⟩), .pointer (some ⟨w.heap.size + 1 + 1, 0, none⟩), .pointer (some ⟨w.heap.size + 1 + 1 + 1, 0, none⟩), .pointer (some ⟨w.heap.size + 1 + 1 + 1 + 1, 0, none⟩)]] (((((w.alloc (.cells #[.pointer gv] 24)).alloc (.cells #[.int .i64 t] 3)).alloc (.cells #[.int .i64 d] 3)).alloc (.cells #[.int .i64 i] 3)).alloc (.cells #[.int .i64 0] 3)) (Caught (((((w.alloc (.cells #[.pointer gv] 24)).alloc (.cells #[.int .i64 t] 3)).alloc (.cells #[.int .i64 d] 3)).alloc (.cells #[.int .i64 i] 3)).alloc (.cells #[.int .i64 0] 3)) x Q)) (y : Int) (hQ : ∀ w2, Q w2 → w2.heap[w.heap.size + 1 + 1 + 1 + 1]? = some (.cells #[.int .i64 y] 3 (0, 0))) :
    Calls Tryz.prog 27 #[.pointer gv, .int .i64 t, .int .i64 d, .int .i64 i] w (Told (.tuple #[.int .i64 y, .int .i64 x]) [w.heap.size + 1 + 1 + 1 + 1, w.heap.size + 1 + 1 + 1 + 1 + 1] Q) := by
  have hmf : ∀ (fn : Fn) (first cap : Array Value) (w : World), (Instr.makeFunc fn first cap).run Tryz.prog w = .ok (.func fn first cap) w := fun _ _ _ _ => rfl
  have HQ := Lib.hid hQ
  have HC := Lib.hid hc
  clear hQ hc
  go_enter Tryz.func27, Tryz.ntmps27
  go_wp2_with fail
  refine HC.out.mono ?_
  rintro e w3 ⟨rfl, w2, hq, hk⟩
  have hb := hk.row (by simp) (HQ.out w2 hq)
  have hc := cell_of_row hb 0
  have hf := free_of_row hb 0
  have hs := cell_of_row (heap_setCell_same w3 (w.heap.size + 1 + 1 + 1 + 1) 0 _ _ (.int .i64 y) hb) 0
  have hkk : Kp [w.heap.size + 1 + 1 + 1 + 1, w.heap.size + 1 + 1 + 1 + 1 + 1] w2 (w3.setCell ⟨w.heap.size + 1 + 1 + 1 + 1, 0, none⟩ (.int .i64 y)) := (hk.mono (by simp)).setCell (.inl (by simp)) _
  have HK := Lib.hid (And.intro hq hkk)
  clear hb hkk hk hq hmf HQ HC
  simp only [List.getElem?_toArray, List.getElem?_cons_zero] at hc
  simp at hs
  go_wp2_with fail
  exact bodyPost_ret (v := .tuple #[.int .i64 y, .int .i64 x]) (by simp [results, Tryz.results27, go_sem, hs]) rfl ⟨rfl, w2, HK.out⟩

set_option maxRecDepth 100000 in
theorem me_Put (w : World) (gv : Option Addr) (t i s x : Int) (Q : World → Prop) (hc : Calls Tryz.prog 19 #[.func (.func 70) #[] #[.pointer (some ⟨w.heap.size, 0, none⟩), .pointer (some ⟨w.heap.size + 1, 0, none⟩), .pointer (some ⟨w.heap.size + 1 + 1 + 1, 0, none⟩), .pointer (some ⟨w.heap.size + 1 + 1, 0, none⟩)]] ((((w.alloc (.cells #[.pointer gv] 24)).alloc (.cells #[.int .i64 t] 3)).alloc (.cells #[.int .i64 i] 3)).alloc (.cells #[.int .i64 s] 3)) (Caught ((((w.alloc (.cells #[.pointer gv] 24)).alloc (.cells #[.int .i64 t] 3)).alloc (.cells #[.int .i64 i] 3)).alloc (.cells #[.int .i64 s] 3)) x Q)) :
    Calls Tryz.prog 28 #[.pointer gv, .int .i64 t, .int .i64 i, .int .i64 s] w (Told (.int .i64 x) [w.heap.size + 1 + 1 + 1 + 1] Q) := by
  have hmf : ∀ (fn : Fn) (first cap : Array Value) (w : World), (Instr.makeFunc fn first cap).run Tryz.prog w = .ok (.func fn first cap) w := fun _ _ _ _ => rfl
  have HC := Lib.hid hc
  clear hc
  go_enter Tryz.func28, Tryz.ntmps28
  go_wp2_with fail
  refine HC.out.mono ?_
  rintro e w3 ⟨rfl, w2, hq, hk⟩
  have HK := Lib.hid (And.intro hq (show Kp [w.heap.size + 1 + 1 + 1 + 1] w2 w3 from by simpa using hk))
  clear hk hq hmf HC
  go_wp2_with fail
  go_ret
  exact ⟨rfl, w2, HK.out⟩

set_option maxRecDepth 100000 in
theorem me_Move (w : World) (gv : Option Addr) (t d s x : Int) (Q : World → Prop) (hc : Calls Tryz.prog 19 #[.func (.func 71) #[] #[.pointer (some ⟨w.heap.size, 0, none⟩), .pointer (some ⟨w.heap.size + 1, 0, none⟩), .pointer (some ⟨w.heap.size + 1 + 1, 0, none⟩), .pointer (some ⟨w.heap.size + 1 + 1 + 1, 0, none⟩)]] ((((w.alloc (.cells #[.pointer gv] 24)).alloc (.cells #[.int .i64 t] 3)).alloc (.cells #[.int .i64 d] 3)).alloc (.cells #[.int .i64 s] 3)) (Caught ((((w.alloc (.cells #[.pointer gv] 24)).alloc (.cells #[.int .i64 t] 3)).alloc (.cells #[.int .i64 d] 3)).alloc (.cells #[.int .i64 s] 3)) x Q)) :
    Calls Tryz.prog 29 #[.pointer gv, .int .i64 t, .int .i64 d, .int .i64 s] w (Told (.int .i64 x) [w.heap.size + 1 + 1 + 1 + 1] Q) := by
  have hmf : ∀ (fn : Fn) (first cap : Array Value) (w : World), (Instr.makeFunc fn first cap).run Tryz.prog w = .ok (.func fn first cap) w := fun _ _ _ _ => rfl
  have HC := Lib.hid hc
  clear hc
  go_enter Tryz.func29, Tryz.ntmps29
  go_wp2_with fail
  refine HC.out.mono ?_
  rintro e w3 ⟨rfl, w2, hq, hk⟩
  have HK := Lib.hid (And.intro hq (show Kp [w.heap.size + 1 + 1 + 1 + 1] w2 w3 from by simpa using hk))
  clear hk hq hmf HC
  go_wp2_with fail
  go_ret
  exact ⟨rfl, w2, HK.out⟩

set_option maxRecDepth 100000 in
theorem me_Clear (w : World) (gv : Option Addr) (t d x : Int) (Q : World → Prop) (hc : Calls Tryz.prog 19 #[.func (.func 63) #[] #[.pointer (some ⟨w.heap.size, 0, none⟩), .pointer (some ⟨w.heap.size + 1, 0, none⟩), .pointer (some ⟨w.heap.size + 1 + 1, 0, none⟩)]] (((w.alloc (.cells #[.pointer gv] 24)).alloc (.cells #[.int .i64 t] 3)).alloc (.cells #[.int .i64 d] 3)) (Caught (((w.alloc (.cells #[.pointer gv] 24)).alloc (.cells #[.int .i64 t] 3)).alloc (.cells #[.int .i64 d] 3)) x Q)) :
    Calls Tryz.prog 17 #[.pointer gv, .int .i64 t, .int .i64 d] w (Told (.int .i64 x) [w.heap.size + 1 + 1 + 1] Q) := by
  have hmf : ∀ (fn : Fn) (first cap : Array Value) (w : World), (Instr.makeFunc fn first cap).run Tryz.prog w = .ok (.func fn first cap) w := fun _ _ _ _ => rfl
  have HC := Lib.hid hc
  clear hc
  go_enter Tryz.func17, Tryz.ntmps17
  go_wp2_with fail
  refine HC.out.mono ?_
  rintro e w3 ⟨rfl, w2, hq, hk⟩
  have HK := Lib.hid (And.intro hq (show Kp [w.heap.size + 1 + 1 + 1] w2 w3 from by simpa using hk))
  clear hk hq hmf HC
  go_wp2_with fail
  go_ret
  exact ⟨rfl, w2, HK.out⟩

set_option maxRecDepth 100000 in
theorem me_Push (w : World) (gv : Option Addr) (t d x : Int) (Q : World → Prop) (hc : Calls Tryz.prog 19 #[.func (.func 72) #[] #[.pointer (some ⟨w.heap.size, 0, none⟩), .pointer (some ⟨w.heap.size + 1, 0, none⟩), .pointer (some ⟨w.heap.size + 1 + 1, 0, none⟩)]] (((w.alloc (.cells #[.pointer gv] 24)).alloc (.cells #[.int .i64 t] 3)).alloc (.cells #[.int .i64 d] 3)) (Caught (((w.alloc (.cells #[.pointer gv] 24)).alloc (.cells #[.int .i64 t] 3)).alloc (.cells #[.int .i64 d] 3)) x Q)) :
    Calls Tryz.prog 30 #[.pointer gv, .int .i64 t, .int .i64 d] w (Told (.int .i64 x) [w.heap.size + 1 + 1 + 1] Q) := by
  have hmf : ∀ (fn : Fn) (first cap : Array Value) (w : World), (Instr.makeFunc fn first cap).run Tryz.prog w = .ok (.func fn first cap) w := fun _ _ _ _ => rfl
  have HC := Lib.hid hc
  clear hc
  go_enter Tryz.func30, Tryz.ntmps30
  go_wp2_with fail
  refine HC.out.mono ?_
  rintro e w3 ⟨rfl, w2, hq, hk⟩
  have HK := Lib.hid (And.intro hq (show Kp [w.heap.size + 1 + 1 + 1] w2 w3 from by simpa using hk))
  clear hk hq hmf HC
  go_wp2_with fail
  go_ret
  exact ⟨rfl, w2, HK.out⟩

set_option maxRecDepth 100000 in
theorem me_Pop (w : World) (gv : Option Addr) (t d x : Int) (Q : World → Prop) (hc : Calls Tryz.prog 19 #[.func (.func 74) #[] #[.pointer (some ⟨w.heap.size, 0, none⟩), .pointer (some ⟨w.heap.size + 1, 0, none⟩), .pointer (some ⟨w.heap.size + 1 + 1, 0, none⟩)]] (((w.alloc (.cells #[.pointer gv] 24)).alloc (.cells #[.int .i64 t] 3)).alloc (.cells #[.int .i64 d] 3)) (Caught (((w.alloc (.cells #[.pointer gv] 24)).alloc (.cells #[.int .i64 t] 3)).alloc (.cells #[.int .i64 d] 3)) x Q)) :
    Calls Tryz.prog 31 #[.pointer gv, .int .i64 t, .int .i64 d] w (Told (.int .i64 x) [w.heap.size + 1 + 1 + 1] Q) := by
  have hmf : ∀ (fn : Fn) (first cap : Array Value) (w : World), (Instr.makeFunc fn first cap).run Tryz.prog w = .ok (.func fn first cap) w := fun _ _ _ _ => rfl
  have HC := Lib.hid hc
  clear hc
  go_enter Tryz.func31, Tryz.ntmps31
  go_wp2_with fail
  refine HC.out.mono ?_
  rintro e w3 ⟨rfl, w2, hq, hk⟩
  have HK := Lib.hid (And.intro hq (show Kp [w.heap.size + 1 + 1 + 1] w2 w3 from by simpa using hk))
  clear hk hq hmf HC
  go_wp2_with fail
  go_ret
  exact ⟨rfl, w2, HK.out⟩

set_option maxRecDepth 100000 in
theorem me_Slot (w : World) (gv : Option Addr) (t d x : Int) (Q : World → Prop) (hc : Calls Tryz.prog 19 #[.func (.func 76) #[] #[.pointer (some ⟨w.heap.size, 0, none⟩), .pointer (some ⟨w.heap.size + 1, 0, none⟩), .pointer (some ⟨w.heap.size + 1 + 1, 0, none⟩), .pointer (some ⟨w.heap.size + 1 + 1 + 1, 0, none⟩)]] ((((w.alloc (.cells #[.pointer gv] 24)).alloc (.cells #[.int .i64 t] 3)).alloc (.cells #[.int .i64 d] 3)).alloc (.cells #[.int .i64 0] 3)) (Caught ((((w.alloc (.cells #[.pointer gv] 24)).alloc (.cells #[.int .i64 t] 3)).alloc (.cells #[.int .i64 d] 3)).alloc (.cells #[.int .i64 0] 3)) x Q)) (y : Int) (hQ : ∀ w2, Q w2 → w2.heap[w.heap.size + 1 + 1 + 1]? = some (.cells #[.int .i64 y] 3 (0, 0))) :
    Calls Tryz.prog 32 #[.pointer gv, .int .i64 t, .int .i64 d] w (Told (.tuple #[.int .i64 y, .int .i64 x]) [w.heap.size + 1 + 1 + 1, w.heap.size + 1 + 1 + 1 + 1] Q) := by
  have hmf : ∀ (fn : Fn) (first cap : Array Value) (w : World), (Instr.makeFunc fn first cap).run Tryz.prog w = .ok (.func fn first cap) w := fun _ _ _ _ => rfl
  have HQ := Lib.hid hQ
  have HC := Lib.hid hc
  clear hQ hc
  go_enter Tryz.func32, Tryz.ntmps32
  go_wp2_with fail
  refine HC.out.mono ?_
  rintro e w3 ⟨rfl, w2, hq, hk⟩
  have hb := hk.row (by simp) (HQ.out w2 hq)
  have hc := cell_of_row hb 0
  have hf := free_of_row hb 0
  have hs := cell_of_row (heap_setCell_same w3 (w.heap.size + 1 + 1 + 1) 0 _ _ (.int .i64 y) hb) 0
  have hkk : Kp [w.heap.size + 1 + 1 + 1, w.heap.size + 1 + 1 + 1 + 1] w2 (w3.setCell ⟨w.heap.size + 1 + 1 + 1, 0, none⟩ (.int .i64 y)) := (hk.mono (by simp)).setCell (.inl (by simp)) _
  have HK := Lib.hid (And.intro hq hkk)
  clear hb hkk hk hq hmf HQ HC
  simp only [List.getElem?_toArray, List.getElem?_cons_zero] at hc
  simp at hs
  go_wp2_with fail
  exact bodyPost_ret (v := .tuple #[.int .i64 y, .int .i64 x]) (by simp [results, Tryz.results32, go_sem, hs]) rfl ⟨rfl, w2, HK.out⟩

end Go.Proofs.YtmbhhadghiojeaaGreat
