/- The arena's Update by a closure that makes memory at most. Conditions: as each theorem states them. -/
import Derived.Test.YtdnlddjgjceogaaArnB
import Derived.Lib.Hide
namespace Go.Proofs.Ytdnlddjgjceogaa
set_option linter.unusedVariables false
set_option linter.unusedSimpArgs false
set_option maxRecDepth 100000
open Go.RowKit

/-- A block that was made on the way may turn. -/
theorem Kp.trans_new {a w w2 : World} {b : Nat} (h : Kp [] a w) (k : Kp [b] w w2) (hb : a.heap.size ≤ b) : Kp [] a w2 :=
  ⟨k.os.trans h.os, k.tape.trans h.tape, k.output.trans h.output, Nat.le_trans h.size k.size, fun i hi hn => (k.block i (Nat.lt_of_lt_of_le hi h.size) (by simp; omega)).trans (h.block i hi hn)⟩

theorem Kp.trans_two {a w w2 : World} {b c : Nat} (h : Kp [] a w) (k : Kp [b, c] w w2) (hb : a.heap.size ≤ b) (hc : a.heap.size ≤ c) : Kp [] a w2 :=
  ⟨k.os.trans h.os, k.tape.trans h.tape, k.output.trans h.output, Nat.le_trans h.size k.size, fun i hi hn => (k.block i (Nat.lt_of_lt_of_le hi h.size) (by simp; omega)).trans (h.block i hi hn)⟩

/-- Update at a place that there is, by a closure that makes memory at most. -/
theorem upd_makes (w : World) (p r : Nat) (s : St) (k : Int) (g : FuncId) (cap : Array Value) (y : Int) (h : Ar w p r s) (hn : s.ws.length ≤ 4096) (ht : s.t ≤ 1000000) (hk : inB s k = true)
    (hen : ∀ (x : Value) (w : World), (callFunc g (#[x] ++ cap)).run Try.prog w = .ok (.enter g (#[x] ++ cap)) w)
    (hcall : Calls Try.prog g (#[.int .u64 (s.ws.getD k.toNat 0)] ++ cap) (tw w p s.t k) fun e w' => e = .returned (.int .u64 y) ∧ Kp [] (tw w p s.t k) w') :
    Calls Try.prog 26 #[.pointer (some ⟨p, 0, none⟩), .int .i64 k, .func (.func g) #[] cap] w fun e w' => e = .returned (.int .u64 (s.ws.getD k.toNat 0)) ∧ ∃ w2, Kp [] (tw w p s.t k) w2 ∧ w' = w2.setCell ⟨r, k.toNat, none⟩ (.int .u64 y) := by
  have hmf : ∀ (fn : Fn) (first cap : Array Value) (w : World), (Instr.makeFunc fn first cap).run Try.prog w = .ok (.func fn first cap) w := fun _ _ _ _ => rfl
  have hfn := func_nil
  obtain ⟨hk0, hk1⟩ := inB_iff.1 hk
  have hk3 : k.toNat < s.ws.length := by omega
  have hcr : Hid (∀ w2, Kp [] (tw w p s.t k) w2 → w2.cell? ⟨r, k.toNat, none⟩ = some (.int .u64 (s.ws.getD k.toNat 0)) ∧ w2.frozen? ⟨r, k.toNat, none⟩ = false) :=
    Lib.hid fun w2 h2 => ⟨((h.tw k).keep h2 (by simp) (by simp)).cr hk3, ((h.tw k).keep h2 (by simp) (by simp)).fr _⟩
  have hto := touch_in w p r s k h hn ht hk
  generalize s.ws.getD k.toNat 0 = x0 at hcall hcr ⊢
  generalize tw w p s.t k = w1 at hcall hcr hto ⊢
  go_enter_defers Try.func26, Try.ntmps26
  have hcr1 := (hcr.out w1 (Kp.refl _ _)).1
  go_wp2_with (go_at_call 36; refine hto.mono ?_; rintro e w1 ⟨rfl, rfl⟩)
  refine hcall.mono ?_
  rintro e w2 ⟨rfl, hk2⟩
  obtain ⟨hc2, hf2⟩ := hcr.out w2 hk2
  have HK := Lib.hid hk2
  clear hk2 hcr hcr1
  go_wp2_with fail
  refine leaves_cons (f := 35) (args := #[]) (by simp) (by simp [go_sem]) ?_
  refine (catch_idle _).mono ?_
  rintro e u' w'' ⟨rfl, rfl, rfl⟩
  simp only [Leaves, settle, results, Try.results26]
  simp [go_sem]
  exact ⟨w2, HK.out, rfl⟩

theorem upd_kp (w : World) (p r : Nat) (s : St) (k : Int) (g : FuncId) (cap : Array Value) (y : Int) (h : Ar w p r s) (hn : s.ws.length ≤ 4096) (ht : s.t ≤ 1000000)
    (hen : ∀ (x : Value) (w : World), (callFunc g (#[x] ++ cap)).run Try.prog w = .ok (.enter g (#[x] ++ cap)) w)
    (hcall : inB s k = true → ∀ w', Kp [p] w w' → Calls Try.prog g (#[.int .u64 (was s k)] ++ cap) w' fun e w2 => e = .returned (.int .u64 y) ∧ Kp [] w' w2) :
    Calls Try.prog 26 #[.pointer (some ⟨p, 0, none⟩), .int .i64 k, .func (.func g) #[] cap] w fun e w' => e = .returned (.int .u64 (was s k)) ∧ Ar w' p r (upd s k y) ∧ Kp [p, r] w w' := by
  by_cases hk : inB s k = true
  · have h3 : k.toNat < s.ws.length := by have := inB_iff.1 hk; omega
    have hc := hcall hk (tw w p s.t k) (tw_kp w p s.t k)
    rw [was_in hk] at hc ⊢
    rw [upd_in hk]
    refine (upd_makes w p r s k g cap y h hn ht hk hen hc).mono ?_
    rintro e w' ⟨rfl, w2, h2, rfl⟩
    exact ⟨rfl, ((h.tw k).keep h2 (by simp) (by simp)).store _ _, (((tw_kp w p s.t k).mono (by simp)).trans (h2.mono (by simp))).setCell (.inl (by simp)) _⟩
  · have hk' : inB s k = false := by simpa using hk
    rw [was_out hk', upd_out hk']
    refine (upd_no w p r s k g #[] cap h hn hk').mono ?_
    rintro e w' ⟨rfl, rfl⟩
    exact ⟨rfl, h, Kp.refl _ _⟩

theorem was_same (s : St) (k : Int) : was (upd s k (was s k)) k = was s k := by
  by_cases hk : inB s k = true
  · have h3 : k.toNat < s.ws.length := by have := inB_iff.1 hk; omega
    have h4 : inB (upd s k (was s k)) k = true := by rw [inB_upd]; exact hk
    rw [was_in h4, was_in hk, upd_in hk]
    simp [List.getD, h3]
  · have hk' : inB s k = false := by simpa using hk
    rw [upd_out hk']

end Go.Proofs.Ytdnlddjgjceogaa
