/- Layer 10's methods, over what 'caught' answers of their closures. Conditions: as each theorem states them. -/
import Derived.Test.YtmbhhadghiojeaaGrN
namespace Go.Proofs.Ytmbhhadghiojeaa
set_option linter.unusedVariables false
set_option linter.unusedSimpArgs false
open Go.RowKit

/-- What a method tells, and in which world. -/
def Told (r : Value) (S : List Nat) (Q : World → Prop) (e : Ending) (w' : World) : Prop := e = .returned r ∧ ∃ w2, Q w2 ∧ Kp S w2 w'

set_option maxRecDepth 100000 in
theorem me_New (w : World) (h k l x : Int) (Q : World → Prop) (hc : Calls Try.prog 30 #[.func (.func 31) #[] #[.pointer (some ⟨w.heap.size, 0, none⟩), .pointer (some ⟨w.heap.size + 1 + 1, 0, none⟩), .pointer (some ⟨w.heap.size + 1, 0, none⟩), .pointer (some ⟨w.heap.size + 1 + 1 + 1, 0, none⟩)]] ((((w.alloc (.cells #[.int .i64 h] 3)).alloc (.cells #[.int .i64 k] 3)).alloc (.cells #[.int .i64 l] 3)).alloc (.cells #[.pointer none] 25)) (Caught ((((w.alloc (.cells #[.int .i64 h] 3)).alloc (.cells #[.int .i64 k] 3)).alloc (.cells #[.int .i64 l] 3)).alloc (.cells #[.pointer none] 25)) x Q)) (y : Option Addr) (hQ : ∀ w2, Q w2 → w2.heap[w.heap.size + 1 + 1 + 1]? = some (.cells #[.pointer y] 25 (0, 0))) :
    Calls Try.prog 9 #[.int .i64 h, .int .i64 k, .int .i64 l] w (Told (.tuple #[.pointer y, .int .i64 x]) [w.heap.size + 1 + 1 + 1, w.heap.size + 1 + 1 + 1 + 1] Q) := by
  have hmf : ∀ (fn : Fn) (first cap : Array Value) (w : World), (Instr.makeFunc fn first cap).run Try.prog w = .ok (.func fn first cap) w := fun _ _ _ _ => rfl
  have HQ := Lib.hid hQ
  have HC := Lib.hid hc
  clear hQ hc
  go_enter Try.func9, Try.ntmps9
  go_wp2_with fail
  refine HC.out.mono ?_
  rintro e w3 ⟨rfl, w2, hq, hk⟩
  have hb := hk.row (by simp) (HQ.out w2 hq)
  have hc := cell_of_row hb 0
  have hf := free_of_row hb 0
  have hs := cell_of_row (heap_setCell_same w3 (w.heap.size + 1 + 1 + 1) 0 _ _ (.pointer y) hb) 0
  have hkk : Kp [w.heap.size + 1 + 1 + 1, w.heap.size + 1 + 1 + 1 + 1] w2 (w3.setCell ⟨w.heap.size + 1 + 1 + 1, 0, none⟩ (.pointer y)) := (hk.mono (by simp)).setCell (.inl (by simp)) _
  have HK := Lib.hid (And.intro hq hkk)
  clear hb hkk hk hq hmf HQ HC
  simp only [List.getElem?_toArray, List.getElem?_cons_zero] at hc
  simp at hs
  go_wp2_with fail
  exact bodyPost_ret (v := .tuple #[.pointer y, .int .i64 x]) (by simp [results, Try.results9, go_sem, hs]) rfl ⟨rfl, w2, HK.out⟩

set_option maxRecDepth 100000 in
theorem me_Alloc (w : World) (gv : Option Addr) (t d r z x : Int) (Q : World → Prop) (hc : Calls Try.prog 30 #[.func (.func 35) #[] #[.pointer (some ⟨w.heap.size, 0, none⟩), .pointer (some ⟨w.heap.size + 1, 0, none⟩), .pointer (some ⟨w.heap.size + 1 + 1, 0, none⟩), .pointer (some ⟨w.heap.size + 1 + 1 + 1, 0, none⟩), .pointer (some ⟨w.heap.size + 1 + 1 + 1 + 1, 0, none⟩), .pointer (some ⟨w.heap.size + 1 + 1 + 1 + 1 + 1, 0, none⟩)]] ((((((w.alloc (.cells #[.pointer gv] 25)).alloc (.cells #[.int .i64 t] 3)).alloc (.cells #[.int .i64 d] 3)).alloc (.cells #[.int .i64 r] 3)).alloc (.cells #[.int .i64 z] 3)).alloc (.cells #[.int .i64 0] 3)) (Caught ((((((w.alloc (.cells #[.pointer gv] 25)).alloc (.cells #[.int .i64 t] 3)).alloc (.cells #[.int .i64 d] 3)).alloc (.cells #[.int .i64 r] 3)).alloc (.cells #[.int .i64 z] 3)).alloc (.cells #[.int .i64 0] 3)) x Q)) (y : Int) (hQ : ∀ w2, Q w2 → w2.heap[w.heap.size + 1 + 1 + 1 + 1 + 1]? = some (.cells #[.int .i64 y] 3 (0, 0))) :
    Calls Try.prog 10 #[.pointer gv, .int .i64 t, .int .i64 d, .int .i64 r, .int .i64 z] w (Told (.tuple #[.int .i64 y, .int .i64 x]) [w.heap.size + 1 + 1 + 1 + 1 + 1, w.heap.size + 1 + 1 + 1 + 1 + 1 + 1] Q) := by
  have hmf : ∀ (fn : Fn) (first cap : Array Value) (w : World), (Instr.makeFunc fn first cap).run Try.prog w = .ok (.func fn first cap) w := fun _ _ _ _ => rfl
  have HQ := Lib.hid hQ
  have HC := Lib.hid hc
  clear hQ hc
  go_enter Try.func10, Try.ntmps10
  go_wp2_with fail
  refine HC.out.mono ?_
  rintro e w3 ⟨rfl, w2, hq, hk⟩
  have hb := hk.row (by simp) (HQ.out w2 hq)
  have hc := cell_of_row hb 0
  have hf := free_of_row hb 0
  have hs := cell_of_row (heap_setCell_same w3 (w.heap.size + 1 + 1 + 1 + 1 + 1) 0 _ _ (.int .i64 y) hb) 0
  have hkk : Kp [w.heap.size + 1 + 1 + 1 + 1 + 1, w.heap.size + 1 + 1 + 1 + 1 + 1 + 1] w2 (w3.setCell ⟨w.heap.size + 1 + 1 + 1 + 1 + 1, 0, none⟩ (.int .i64 y)) := (hk.mono (by simp)).setCell (.inl (by simp)) _
  have HK := Lib.hid (And.intro hq hkk)
  clear hb hkk hk hq hmf HQ HC
  simp only [List.getElem?_toArray, List.getElem?_cons_zero] at hc
  simp at hs
  go_wp2_with fail
  exact bodyPost_ret (v := .tuple #[.int .i64 y, .int .i64 x]) (by simp [results, Try.results10, go_sem, hs]) rfl ⟨rfl, w2, HK.out⟩

set_option maxRecDepth 100000 in
theorem me_Load (w : World) (gv : Option Addr) (t d s i x : Int) (Q : World → Prop) (hc : Calls Try.prog 30 #[.func (.func 38) #[] #[.pointer (some ⟨w.heap.size, 0, none⟩), .pointer (some ⟨w.heap.size + 1, 0, none⟩), .pointer (some ⟨w.heap.size + 1 + 1, 0, none⟩), .pointer (some ⟨w.heap.size + 1 + 1 + 1, 0, none⟩), .pointer (some ⟨w.heap.size + 1 + 1 + 1 + 1, 0, none⟩), .pointer (some ⟨w.heap.size + 1 + 1 + 1 + 1 + 1, 0, none⟩)]] ((((((w.alloc (.cells #[.pointer gv] 25)).alloc (.cells #[.int .i64 t] 3)).alloc (.cells #[.int .i64 d] 3)).alloc (.cells #[.int .i64 s] 3)).alloc (.cells #[.int .i64 i] 3)).alloc (.cells #[.int .i64 0] 3)) (Caught ((((((w.alloc (.cells #[.pointer gv] 25)).alloc (.cells #[.int .i64 t] 3)).alloc (.cells #[.int .i64 d] 3)).alloc (.cells #[.int .i64 s] 3)).alloc (.cells #[.int .i64 i] 3)).alloc (.cells #[.int .i64 0] 3)) x Q)) (y : Int) (hQ : ∀ w2, Q w2 → w2.heap[w.heap.size + 1 + 1 + 1 + 1 + 1]? = some (.cells #[.int .i64 y] 3 (0, 0))) :
    Calls Try.prog 11 #[.pointer gv, .int .i64 t, .int .i64 d, .int .i64 s, .int .i64 i] w (Told (.tuple #[.int .i64 y, .int .i64 x]) [w.heap.size + 1 + 1 + 1 + 1 + 1, w.heap.size + 1 + 1 + 1 + 1 + 1 + 1] Q) := by
  have hmf : ∀ (fn : Fn) (first cap : Array Value) (w : World), (Instr.makeFunc fn first cap).run Try.prog w = .ok (.func fn first cap) w := fun _ _ _ _ => rfl
  have HQ := Lib.hid hQ
  have HC := Lib.hid hc
  clear hQ hc
  go_enter Try.func11, Try.ntmps11
  go_wp2_with fail
  refine HC.out.mono ?_
  rintro e w3 ⟨rfl, w2, hq, hk⟩
  have hb := hk.row (by simp) (HQ.out w2 hq)
  have hc := cell_of_row hb 0
  have hf := free_of_row hb 0
  have hs := cell_of_row (heap_setCell_same w3 (w.heap.size + 1 + 1 + 1 + 1 + 1) 0 _ _ (.int .i64 y) hb) 0
  have hkk : Kp [w.heap.size + 1 + 1 + 1 + 1 + 1, w.heap.size + 1 + 1 + 1 + 1 + 1 + 1] w2 (w3.setCell ⟨w.heap.size + 1 + 1 + 1 + 1 + 1, 0, none⟩ (.int .i64 y)) := (hk.mono (by simp)).setCell (.inl (by simp)) _
  have HK := Lib.hid (And.intro hq hkk)
  clear hb hkk hk hq hmf HQ HC
  simp only [List.getElem?_toArray, List.getElem?_cons_zero] at hc
  simp at hs
  go_wp2_with fail
  exact bodyPost_ret (v := .tuple #[.int .i64 y, .int .i64 x]) (by simp [results, Try.results11, go_sem, hs]) rfl ⟨rfl, w2, HK.out⟩

set_option maxRecDepth 100000 in
theorem me_Store (w : World) (gv : Option Addr) (t d i s x : Int) (Q : World → Prop) (hc : Calls Try.prog 30 #[.func (.func 41) #[] #[.pointer (some ⟨w.heap.size, 0, none⟩), .pointer (some ⟨w.heap.size + 1, 0, none⟩), .pointer (some ⟨w.heap.size + 1 + 1, 0, none⟩), .pointer (some ⟨w.heap.size + 1 + 1 + 1 + 1, 0, none⟩), .pointer (some ⟨w.heap.size + 1 + 1 + 1, 0, none⟩)]] (((((w.alloc (.cells #[.pointer gv] 25)).alloc (.cells #[.int .i64 t] 3)).alloc (.cells #[.int .i64 d] 3)).alloc (.cells #[.int .i64 i] 3)).alloc (.cells #[.int .i64 s] 3)) (Caught (((((w.alloc (.cells #[.pointer gv] 25)).alloc (.cells #[.int .i64 t] 3)).alloc (.cells #[.int .i64 d] 3)).alloc (.cells #[.int .i64 i] 3)).alloc (.cells #[.int .i64 s] 3)) x Q)) :
    Calls Try.prog 12 #[.pointer gv, .int .i64 t, .int .i64 d, .int .i64 i, .int .i64 s] w (Told (.int .i64 x) [w.heap.size + 1 + 1 + 1 + 1 + 1] Q) := by
  have hmf : ∀ (fn : Fn) (first cap : Array Value) (w : World), (Instr.makeFunc fn first cap).run Try.prog w = .ok (.func fn first cap) w := fun _ _ _ _ => rfl
  have HC := Lib.hid hc
  clear hc
  go_enter Try.func12, Try.ntmps12
  go_wp2_with fail
  refine HC.out.mono ?_
  rintro e w3 ⟨rfl, w2, hq, hk⟩
  have HK := Lib.hid (And.intro hq (show Kp [w.heap.size + 1 + 1 + 1 + 1 + 1] w2 w3 from by simpa using hk))
  clear hk hq hmf HC
  go_wp2_with fail
  go_ret
  exact ⟨rfl, w2, HK.out⟩

set_option maxRecDepth 100000 in
theorem me_Read (w : World) (gv : Option Addr) (t s i x : Int) (Q : World → Prop) (hc : Calls Try.prog 30 #[.func (.func 43) #[] #[.pointer (some ⟨w.heap.size, 0, none⟩), .pointer (some ⟨w.heap.size + 1, 0, none⟩), .pointer (some ⟨w.heap.size + 1 + 1, 0, none⟩), .pointer (some ⟨w.heap.size + 1 + 1 + 1, 0, none⟩), .pointer (some ⟨w.heap.size + 1 + 1 + 1 + 1, 0, none⟩)]] (((((w.alloc (.cells #[.pointer gv] 25)).alloc (.cells #[.int .i64 t] 3)).alloc (.cells #[.int .i64 s] 3)).alloc (.cells #[.int .i64 i] 3)).alloc (.cells #[.int .u64 0] 22)) (Caught (((((w.alloc (.cells #[.pointer gv] 25)).alloc (.cells #[.int .i64 t] 3)).alloc (.cells #[.int .i64 s] 3)).alloc (.cells #[.int .i64 i] 3)).alloc (.cells #[.int .u64 0] 22)) x Q)) (y : Int) (hQ : ∀ w2, Q w2 → w2.heap[w.heap.size + 1 + 1 + 1 + 1]? = some (.cells #[.int .u64 y] 22 (0, 0))) :
    Calls Try.prog 13 #[.pointer gv, .int .i64 t, .int .i64 s, .int .i64 i] w (Told (.tuple #[.int .u64 y, .int .i64 x]) [w.heap.size + 1 + 1 + 1 + 1, w.heap.size + 1 + 1 + 1 + 1 + 1] Q) := by
  have hmf : ∀ (fn : Fn) (first cap : Array Value) (w : World), (Instr.makeFunc fn first cap).run Try.prog w = .ok (.func fn first cap) w := fun _ _ _ _ => rfl
  have HQ := Lib.hid hQ
  have HC := Lib.hid hc
  clear hQ hc
  go_enter Try.func13, Try.ntmps13
  go_wp2_with fail
  refine HC.out.mono ?_
  rintro e w3 ⟨rfl, w2, hq, hk⟩
  have hb := hk.row (by simp) (HQ.out w2 hq)
  have hc := cell_of_row hb 0
  have hf := free_of_row hb 0
  have hs := cell_of_row (heap_setCell_same w3 (w.heap.size + 1 + 1 + 1 + 1) 0 _ _ (.int .u64 y) hb) 0
  have hkk : Kp [w.heap.size + 1 + 1 + 1 + 1, w.heap.size + 1 + 1 + 1 + 1 + 1] w2 (w3.setCell ⟨w.heap.size + 1 + 1 + 1 + 1, 0, none⟩ (.int .u64 y)) := (hk.mono (by simp)).setCell (.inl (by simp)) _
  have HK := Lib.hid (And.intro hq hkk)
  clear hb hkk hk hq hmf HQ HC
  simp only [List.getElem?_toArray, List.getElem?_cons_zero] at hc
  simp at hs
  go_wp2_with fail
  exact bodyPost_ret (v := .tuple #[.int .u64 y, .int .i64 x]) (by simp [results, Try.results13, go_sem, hs]) rfl ⟨rfl, w2, HK.out⟩

set_option maxRecDepth 100000 in
theorem me_Write (w : World) (gv : Option Addr) (t s i v x : Int) (Q : World → Prop) (hc : Calls Try.prog 30 #[.func (.func 45) #[] #[.pointer (some ⟨w.heap.size, 0, none⟩), .pointer (some ⟨w.heap.size + 1, 0, none⟩), .pointer (some ⟨w.heap.size + 1 + 1, 0, none⟩), .pointer (some ⟨w.heap.size + 1 + 1 + 1 + 1, 0, none⟩), .pointer (some ⟨w.heap.size + 1 + 1 + 1, 0, none⟩)]] (((((w.alloc (.cells #[.pointer gv] 25)).alloc (.cells #[.int .i64 t] 3)).alloc (.cells #[.int .i64 s] 3)).alloc (.cells #[.int .i64 i] 3)).alloc (.cells #[.int .u64 v] 22)) (Caught (((((w.alloc (.cells #[.pointer gv] 25)).alloc (.cells #[.int .i64 t] 3)).alloc (.cells #[.int .i64 s] 3)).alloc (.cells #[.int .i64 i] 3)).alloc (.cells #[.int .u64 v] 22)) x Q)) :
    Calls Try.prog 14 #[.pointer gv, .int .i64 t, .int .i64 s, .int .i64 i, .int .u64 v] w (Told (.int .i64 x) [w.heap.size + 1 + 1 + 1 + 1 + 1] Q) := by
  have hmf : ∀ (fn : Fn) (first cap : Array Value) (w : World), (Instr.makeFunc fn first cap).run Try.prog w = .ok (.func fn first cap) w := fun _ _ _ _ => rfl
  have HC := Lib.hid hc
  clear hc
  go_enter Try.func14, Try.ntmps14
  go_wp2_with fail
  refine HC.out.mono ?_
  rintro e w3 ⟨rfl, w2, hq, hk⟩
  have HK := Lib.hid (And.intro hq (show Kp [w.heap.size + 1 + 1 + 1 + 1 + 1] w2 w3 from by simpa using hk))
  clear hk hq hmf HC
  go_wp2_with fail
  go_ret
  exact ⟨rfl, w2, HK.out⟩

set_option maxRecDepth 100000 in
theorem me_Get (w : World) (gv : Option Addr) (t d i x : Int) (Q : World → Prop) (hc : Calls Try.prog 30 #[.func (.func 46) #[] #[.pointer (some ⟨w.heap.size, 0, none⟩), .pointer (some ⟨w.heap.size + 1, 0, none⟩), .pointer (some ⟨w.heap.size + 1 + 1, 0, none⟩), .pointer (some ⟨w.heap.size + 1 + 1 + 1, 0, none⟩), .pointer (some ⟨w.heap.size + 1 + 1 + 1 + 1, 0, none⟩)]] (((((w.alloc (.cells #[.pointer gv] 25)).alloc (.cells #[.int .i64 t] 3)).alloc (.cells #[.int .i64 d] 3)).alloc (.cells #[.int .i64 i] 3)).alloc (.cells #[.int .i64 0] 3)) (Caught (((((w.alloc (.cells #[.pointer gv] 25)).alloc (.cells #[.int .i64 t] 3)).alloc (.cells #[.int .i64 d] 3)).alloc (.cells #[.int .i64 i] 3)).alloc (.cells #[.int .i64 0] 3)) x Q)) (y : Int) (hQ : ∀ w2, Q w2 → w2.heap[w.heap.size + 1 + 1 + 1 + 1]? = some (.cells #[.int .i64 y] 3 (0, 0))) :
    Calls Try.prog 15 #[.pointer gv, .int .i64 t, .int .i64 d, .int .i64 i] w (Told (.tuple #[.int .i64 y, .int .i64 x]) [w.heap.size + 1 + 1 + 1 + 1, w.heap.size + 1 + 1 + 1 + 1 + 1] Q) := by
  have hmf : ∀ (fn : Fn) (first cap : Array Value) (w : World), (Instr.makeFunc fn first cap).run Try.prog w = .ok (.func fn first cap) w := fun _ _ _ _ => rfl
  have HQ := Lib.hid hQ
  have HC := Lib.hid hc
  clear hQ hc
  go_enter Try.func15, Try.ntmps15
  go_wp2_with fail
  refine HC.out.mono ?_
  rintro e w3 ⟨rfl, w2, hq, hk⟩
  have hb := hk.row (by simp) (HQ.out w2 hq)
  have hc := cell_of_row hb 0
  have hf := free_of_row hb 0
  have hs := cell_of_row (heap_setCell_same w3 (w.heap.size + 1 + 1 + 1 + 1) 0 _ _ (.int .i64 y) hb) 0
  have hkk : Kp [w.heap.size + 1 + 1 + 1 + 1, w.heap.size + 1 + 1 + 1 + 1 + 1] w2 (w3.setCell ⟨w.heap.size + 1 + 1 + 1 + 1, 0, none⟩ (.int .i64 y)) := (hk.mono (by simp)).setCell (.inl (by simp)) _
  have HK := Lib.hid (And.intro hq hkk)
  clear hb hkk hk hq hmf HQ HC
  simp only [List.getElem?_toArray, List.getElem?_cons_zero] at hc
  simp at hs
  go_wp2_with fail
  exact bodyPost_ret (v := .tuple #[.int .i64 y, .int .i64 x]) (by simp [results, Try.results15, go_sem, hs]) rfl ⟨rfl, w2, HK.out⟩

set_option maxRecDepth 100000 in
theorem me_Put (w : World) (gv : Option Addr) (t i s x : Int) (Q : World → Prop) (hc : Calls Try.prog 30 #[.func (.func 47) #[] #[.pointer (some ⟨w.heap.size, 0, none⟩), .pointer (some ⟨w.heap.size + 1, 0, none⟩), .pointer (some ⟨w.heap.size + 1 + 1 + 1, 0, none⟩), .pointer (some ⟨w.heap.size + 1 + 1, 0, none⟩)]] ((((w.alloc (.cells #[.pointer gv] 25)).alloc (.cells #[.int .i64 t] 3)).alloc (.cells #[.int .i64 i] 3)).alloc (.cells #[.int .i64 s] 3)) (Caught ((((w.alloc (.cells #[.pointer gv] 25)).alloc (.cells #[.int .i64 t] 3)).alloc (.cells #[.int .i64 i] 3)).alloc (.cells #[.int .i64 s] 3)) x Q)) :
    Calls Try.prog 16 #[.pointer gv, .int .i64 t, .int .i64 i, .int .i64 s] w (Told (.int .i64 x) [w.heap.size + 1 + 1 + 1 + 1] Q) := by
  have hmf : ∀ (fn : Fn) (first cap : Array Value) (w : World), (Instr.makeFunc fn first cap).run Try.prog w = .ok (.func fn first cap) w := fun _ _ _ _ => rfl
  have HC := Lib.hid hc
  clear hc
  go_enter Try.func16, Try.ntmps16
  go_wp2_with fail
  refine HC.out.mono ?_
  rintro e w3 ⟨rfl, w2, hq, hk⟩
  have HK := Lib.hid (And.intro hq (show Kp [w.heap.size + 1 + 1 + 1 + 1] w2 w3 from by simpa using hk))
  clear hk hq hmf HC
  go_wp2_with fail
  go_ret
  exact ⟨rfl, w2, HK.out⟩

set_option maxRecDepth 100000 in
theorem me_Move (w : World) (gv : Option Addr) (t d s x : Int) (Q : World → Prop) (hc : Calls Try.prog 30 #[.func (.func 48) #[] #[.pointer (some ⟨w.heap.size, 0, none⟩), .pointer (some ⟨w.heap.size + 1, 0, none⟩), .pointer (some ⟨w.heap.size + 1 + 1, 0, none⟩), .pointer (some ⟨w.heap.size + 1 + 1 + 1, 0, none⟩)]] ((((w.alloc (.cells #[.pointer gv] 25)).alloc (.cells #[.int .i64 t] 3)).alloc (.cells #[.int .i64 d] 3)).alloc (.cells #[.int .i64 s] 3)) (Caught ((((w.alloc (.cells #[.pointer gv] 25)).alloc (.cells #[.int .i64 t] 3)).alloc (.cells #[.int .i64 d] 3)).alloc (.cells #[.int .i64 s] 3)) x Q)) :
    Calls Try.prog 17 #[.pointer gv, .int .i64 t, .int .i64 d, .int .i64 s] w (Told (.int .i64 x) [w.heap.size + 1 + 1 + 1 + 1] Q) := by
  have hmf : ∀ (fn : Fn) (first cap : Array Value) (w : World), (Instr.makeFunc fn first cap).run Try.prog w = .ok (.func fn first cap) w := fun _ _ _ _ => rfl
  have HC := Lib.hid hc
  clear hc
  go_enter Try.func17, Try.ntmps17
  go_wp2_with fail
  refine HC.out.mono ?_
  rintro e w3 ⟨rfl, w2, hq, hk⟩
  have HK := Lib.hid (And.intro hq (show Kp [w.heap.size + 1 + 1 + 1 + 1] w2 w3 from by simpa using hk))
  clear hk hq hmf HC
  go_wp2_with fail
  go_ret
  exact ⟨rfl, w2, HK.out⟩

set_option maxRecDepth 100000 in
theorem me_Clear (w : World) (gv : Option Addr) (t d x : Int) (Q : World → Prop) (hc : Calls Try.prog 30 #[.func (.func 49) #[] #[.pointer (some ⟨w.heap.size, 0, none⟩), .pointer (some ⟨w.heap.size + 1, 0, none⟩), .pointer (some ⟨w.heap.size + 1 + 1, 0, none⟩)]] (((w.alloc (.cells #[.pointer gv] 25)).alloc (.cells #[.int .i64 t] 3)).alloc (.cells #[.int .i64 d] 3)) (Caught (((w.alloc (.cells #[.pointer gv] 25)).alloc (.cells #[.int .i64 t] 3)).alloc (.cells #[.int .i64 d] 3)) x Q)) :
    Calls Try.prog 18 #[.pointer gv, .int .i64 t, .int .i64 d] w (Told (.int .i64 x) [w.heap.size + 1 + 1 + 1] Q) := by
  have hmf : ∀ (fn : Fn) (first cap : Array Value) (w : World), (Instr.makeFunc fn first cap).run Try.prog w = .ok (.func fn first cap) w := fun _ _ _ _ => rfl
  have HC := Lib.hid hc
  clear hc
  go_enter Try.func18, Try.ntmps18
  go_wp2_with fail
  refine HC.out.mono ?_
  rintro e w3 ⟨rfl, w2, hq, hk⟩
  have HK := Lib.hid (And.intro hq (show Kp [w.heap.size + 1 + 1 + 1] w2 w3 from by simpa using hk))
  clear hk hq hmf HC
  go_wp2_with fail
  go_ret
  exact ⟨rfl, w2, HK.out⟩

set_option maxRecDepth 100000 in
theorem me_Push (w : World) (gv : Option Addr) (t d x : Int) (Q : World → Prop) (hc : Calls Try.prog 30 #[.func (.func 50) #[] #[.pointer (some ⟨w.heap.size, 0, none⟩), .pointer (some ⟨w.heap.size + 1, 0, none⟩), .pointer (some ⟨w.heap.size + 1 + 1, 0, none⟩)]] (((w.alloc (.cells #[.pointer gv] 25)).alloc (.cells #[.int .i64 t] 3)).alloc (.cells #[.int .i64 d] 3)) (Caught (((w.alloc (.cells #[.pointer gv] 25)).alloc (.cells #[.int .i64 t] 3)).alloc (.cells #[.int .i64 d] 3)) x Q)) :
    Calls Try.prog 19 #[.pointer gv, .int .i64 t, .int .i64 d] w (Told (.int .i64 x) [w.heap.size + 1 + 1 + 1] Q) := by
  have hmf : ∀ (fn : Fn) (first cap : Array Value) (w : World), (Instr.makeFunc fn first cap).run Try.prog w = .ok (.func fn first cap) w := fun _ _ _ _ => rfl
  have HC := Lib.hid hc
  clear hc
  go_enter Try.func19, Try.ntmps19
  go_wp2_with fail
  refine HC.out.mono ?_
  rintro e w3 ⟨rfl, w2, hq, hk⟩
  have HK := Lib.hid (And.intro hq (show Kp [w.heap.size + 1 + 1 + 1] w2 w3 from by simpa using hk))
  clear hk hq hmf HC
  go_wp2_with fail
  go_ret
  exact ⟨rfl, w2, HK.out⟩

set_option maxRecDepth 100000 in
theorem me_Pop (w : World) (gv : Option Addr) (t d x : Int) (Q : World → Prop) (hc : Calls Try.prog 30 #[.func (.func 52) #[] #[.pointer (some ⟨w.heap.size, 0, none⟩), .pointer (some ⟨w.heap.size + 1, 0, none⟩), .pointer (some ⟨w.heap.size + 1 + 1, 0, none⟩)]] (((w.alloc (.cells #[.pointer gv] 25)).alloc (.cells #[.int .i64 t] 3)).alloc (.cells #[.int .i64 d] 3)) (Caught (((w.alloc (.cells #[.pointer gv] 25)).alloc (.cells #[.int .i64 t] 3)).alloc (.cells #[.int .i64 d] 3)) x Q)) :
    Calls Try.prog 20 #[.pointer gv, .int .i64 t, .int .i64 d] w (Told (.int .i64 x) [w.heap.size + 1 + 1 + 1] Q) := by
  have hmf : ∀ (fn : Fn) (first cap : Array Value) (w : World), (Instr.makeFunc fn first cap).run Try.prog w = .ok (.func fn first cap) w := fun _ _ _ _ => rfl
  have HC := Lib.hid hc
  clear hc
  go_enter Try.func20, Try.ntmps20
  go_wp2_with fail
  refine HC.out.mono ?_
  rintro e w3 ⟨rfl, w2, hq, hk⟩
  have HK := Lib.hid (And.intro hq (show Kp [w.heap.size + 1 + 1 + 1] w2 w3 from by simpa using hk))
  clear hk hq hmf HC
  go_wp2_with fail
  go_ret
  exact ⟨rfl, w2, HK.out⟩

set_option maxRecDepth 100000 in
theorem me_Slot (w : World) (gv : Option Addr) (t d x : Int) (Q : World → Prop) (hc : Calls Try.prog 30 #[.func (.func 54) #[] #[.pointer (some ⟨w.heap.size, 0, none⟩), .pointer (some ⟨w.heap.size + 1, 0, none⟩), .pointer (some ⟨w.heap.size + 1 + 1, 0, none⟩), .pointer (some ⟨w.heap.size + 1 + 1 + 1, 0, none⟩)]] ((((w.alloc (.cells #[.pointer gv] 25)).alloc (.cells #[.int .i64 t] 3)).alloc (.cells #[.int .i64 d] 3)).alloc (.cells #[.int .i64 0] 3)) (Caught ((((w.alloc (.cells #[.pointer gv] 25)).alloc (.cells #[.int .i64 t] 3)).alloc (.cells #[.int .i64 d] 3)).alloc (.cells #[.int .i64 0] 3)) x Q)) (y : Int) (hQ : ∀ w2, Q w2 → w2.heap[w.heap.size + 1 + 1 + 1]? = some (.cells #[.int .i64 y] 3 (0, 0))) :
    Calls Try.prog 21 #[.pointer gv, .int .i64 t, .int .i64 d] w (Told (.tuple #[.int .i64 y, .int .i64 x]) [w.heap.size + 1 + 1 + 1, w.heap.size + 1 + 1 + 1 + 1] Q) := by
  have hmf : ∀ (fn : Fn) (first cap : Array Value) (w : World), (Instr.makeFunc fn first cap).run Try.prog w = .ok (.func fn first cap) w := fun _ _ _ _ => rfl
  have HQ := Lib.hid hQ
  have HC := Lib.hid hc
  clear hQ hc
  go_enter Try.func21, Try.ntmps21
  go_wp2_with fail
  refine HC.out.mono ?_
  rintro e w3 ⟨rfl, w2, hq, hk⟩
  have hb := hk.row (by simp) (HQ.out w2 hq)
  have hc := cell_of_row hb 0
  have hf := free_of_row hb 0
  have hs := cell_of_row (heap_setCell_same w3 (w.heap.size + 1 + 1 + 1) 0 _ _ (.int .i64 y) hb) 0
  have hkk : Kp [w.heap.size + 1 + 1 + 1, w.heap.size + 1 + 1 + 1 + 1] w2 (w3.setCell ⟨w.heap.size + 1 + 1 + 1, 0, none⟩ (.int .i64 y)) := (hk.mono (by simp)).setCell (.inl (by simp)) _
  have HK := Lib.hid (And.intro hq hkk)
  clear hb hkk hk hq hmf HQ HC
  simp only [List.getElem?_toArray, List.getElem?_cons_zero] at hc
  simp at hs
  go_wp2_with fail
  exact bodyPost_ret (v := .tuple #[.int .i64 y, .int .i64 x]) (by simp [results, Try.results21, go_sem, hs]) rfl ⟨rfl, w2, HK.out⟩

end Go.Proofs.Ytmbhhadghiojeaa
