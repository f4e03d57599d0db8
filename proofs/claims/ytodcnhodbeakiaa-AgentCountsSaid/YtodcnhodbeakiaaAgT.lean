/- Package agent: what a touch does, alone: a Read, a Write, an Update of an arena's word. Conditions: as each theorem states them. -/
import Derived.Test.YtodcnhodbeakiaaArnK
namespace Go.Proofs.Ytodcnhodbeakiaa
set_option linter.unusedVariables false
set_option linter.unusedSimpArgs false
open Go.RowKit

abbrev memV (pA : Nat) : Value := .iface 26 (.pointer (some ⟨pA, 0, none⟩))

theorem tch_read {w : World} {pA rA bA bV : Nat} {s : St} {k y : Int} (h : Ar w pA rA s) (hn : s.ws.length ≤ 4096) (ht : s.t ≤ 4095) (hA : w.heap[bA]? = some (.cells #[.int .i64 k] 3 (0, 0))) (hV : w.heap[bV]? = some (.cells #[.int .u64 y] 40 (0, 0))) (h1 : bV ≠ pA) (h2 : bV ≠ rA) :
    Calls Try.prog 116 #[memV pA, .pointer (some ⟨bA, 0, none⟩), .pointer (some ⟨bV, 0, none⟩)] w fun e w2 => e = .returned (.tuple #[]) ∧ Ar w2 pA rA (upd s k (was s k)) ∧ w2.heap[bV]? = some (.cells #[.int .u64 (was s k)] 40 (0, 0)) ∧ Kp [pA, rA, bV] w w2 := by
  have hr := Lib.hid (read_any w pA rA s k h hn (by omega))
  have cA := cell_of_row hA 0
  simp only [List.getElem?_toArray, List.getElem?_cons_zero] at cA
  have HV := Lib.hid hV
  clear hV hA h
  go_enter Try.func116, Try.ntmps116
  go_wp2_with fail
  refine hr.out.mono ?_
  rintro e w1 ⟨rfl, ha, hk⟩
  have hv := hk.row (by simp [h1, h2]) HV.out
  have HA := Lib.hid ha
  have HK := Lib.hid hk
  have HV1 := Lib.hid hv
  have cV := cell_of_row hv 0
  have fV := free_of_row hv 0
  simp only [List.getElem?_toArray, List.getElem?_cons_zero] at cV
  clear ha hk hv hr
  go_wp2
  go_end0
  have hs := heap_setCell_same w1 bV 0 _ _ (.int .u64 (was s k)) HV1.out
  refine ⟨rfl, HA.out.keep ((Kp.refl [bV] _).setCell (.inl (by simp)) _) (by simp [h1.symm]) (by simp [h2.symm]), by rw [hs]; simp, (HK.out.mono (T := [pA, rA, bV]) (by simp)).setCell (.inl (by simp)) _⟩

theorem tch_write {w : World} {pA rA bA bX : Nat} {s : St} {k y : Int} (h : Ar w pA rA s) (hn : s.ws.length ≤ 4096) (ht : s.t ≤ 4095) (hA : w.heap[bA]? = some (.cells #[.int .i64 k] 3 (0, 0))) (hX : w.heap[bX]? = some (.cells #[.int .u64 y] 40 (0, 0))) :
    Calls Try.prog 118 #[memV pA, .pointer (some ⟨bA, 0, none⟩), .pointer (some ⟨bX, 0, none⟩)] w fun e w2 => e = .returned (.tuple #[]) ∧ Ar w2 pA rA (upd s k y) ∧ Kp [pA, rA] w w2 := by
  have hr := Lib.hid (write_any w pA rA s k y h hn (by omega))
  have cA := cell_of_row hA 0
  have cX := cell_of_row hX 0
  simp only [List.getElem?_toArray, List.getElem?_cons_zero] at cA cX
  clear hX hA h
  go_enter Try.func118, Try.ntmps118
  go_wp2_with fail
  refine hr.out.mono ?_
  rintro e w1 ⟨rfl, ha, hk⟩
  have HA := Lib.hid ha
  have HK := Lib.hid hk
  clear ha hk hr
  go_wp2
  go_end0
  exact ⟨rfl, HA.out, HK.out⟩

theorem tch_update {w : World} {pA rA bA bX bV : Nat} {s : St} {k y z : Int} {f : FuncId} {cap : Array Value} (h : Ar w pA rA s) (hn : s.ws.length ≤ 4096) (ht : s.t ≤ 4095) (hA : w.heap[bA]? = some (.cells #[.int .i64 k] 3 (0, 0))) (hX : w.heap[bX]? = some (.cells #[.func (.func f) #[] cap] 58 (0, 0))) (hV : w.heap[bV]? = some (.cells #[.int .u64 y] 40 (0, 0)))
    (h1 : bV ≠ pA) (h2 : bV ≠ rA) (hen : ∀ (x : Value) (w : World), (callFunc f (#[x] ++ cap)).run Try.prog w = .ok (.enter f (#[x] ++ cap)) w)
    (hcall : ∀ w', Kp [pA] w w' → Calls Try.prog f (#[.int .u64 (was s k)] ++ cap) w' fun e w2 => e = .returned (.int .u64 z) ∧ Kp [] w' w2) :
    Calls Try.prog 117 #[memV pA, .pointer (some ⟨bA, 0, none⟩), .pointer (some ⟨bX, 0, none⟩), .pointer (some ⟨bV, 0, none⟩)] w fun e w2 => e = .returned (.tuple #[]) ∧ Ar w2 pA rA (upd s k z) ∧ w2.heap[bV]? = some (.cells #[.int .u64 (was s k)] 40 (0, 0)) ∧ Kp [pA, rA, bV] w w2 := by
  have hr := Lib.hid (upd_kp w pA rA s k f cap z h hn (by omega) hen (fun _ w' hk => hcall w' hk))
  have cA := cell_of_row hA 0
  have cX := cell_of_row hX 0
  simp only [List.getElem?_toArray, List.getElem?_cons_zero] at cA cX
  have HV := Lib.hid hV
  clear hV hA hX h hen hcall
  go_enter Try.func117, Try.ntmps117
  go_wp2_with fail
  refine hr.out.mono ?_
  rintro e w1 ⟨rfl, ha, hk⟩
  have hv := hk.row (by simp [h1, h2]) HV.out
  have HA := Lib.hid ha
  have HK := Lib.hid hk
  have HV1 := Lib.hid hv
  have cV := cell_of_row hv 0
  have fV := free_of_row hv 0
  simp only [List.getElem?_toArray, List.getElem?_cons_zero] at cV
  clear ha hk hv hr
  go_wp2
  go_end0
  have hs := heap_setCell_same w1 bV 0 _ _ (.int .u64 (was s k)) HV1.out
  refine ⟨rfl, HA.out.keep ((Kp.refl [bV] _).setCell (.inl (by simp)) _) (by simp [h1.symm]) (by simp [h2.symm]), by rw [hs]; simp, (HK.out.mono (T := [pA, rA, bV]) (by simp)).setCell (.inl (by simp)) _⟩

end Go.Proofs.Ytodcnhodbeakiaa
