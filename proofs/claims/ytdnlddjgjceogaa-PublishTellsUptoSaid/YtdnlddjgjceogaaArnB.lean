/- The walks of package arena, further: the closures, Update by a closure that writes nothing, Read, Write; and what 'wakes' asks. Conditions: as each theorem states them. -/
import Derived.Test.YtdnlddjgjceogaaArn
namespace Go.Proofs.Ytdnlddjgjceogaa
set_option linter.unusedVariables false
set_option linter.unusedSimpArgs false
set_option maxRecDepth 100000
open Go.RowKit

/-- Update by a closure that writes nothing. -/
theorem upd_pure (w : World) (p r : Nat) (s : St) (k : Int) (g : FuncId) (cap : Array Value) (y : Int) (h : Ar w p r s) (hn : s.ws.length ≤ 4096) (ht : s.t ≤ 1000000)
    (hen : ∀ (x : Value) (w : World), (callFunc g (#[x] ++ cap)).run Try.prog w = .ok (.enter g (#[x] ++ cap)) w)
    (hcall : inB s k = true → ∀ w', Kp [p] w w' → Calls Try.prog g (#[.int .u64 (was s k)] ++ cap) w' fun e w2 => e = .returned (.int .u64 y) ∧ w2 = w') :
    Calls Try.prog 26 #[.pointer (some ⟨p, 0, none⟩), .int .i64 k, .func (.func g) #[] cap] w fun e w' => e = .returned (.int .u64 (was s k)) ∧ Ar w' p r (upd s k y) ∧ Kp [p, r] w w' := by
  by_cases hk : inB s k = true
  · have h3 : k.toNat < s.ws.length := by have := inB_iff.1 hk; omega
    have hc := hcall hk (tw w p s.t k) (tw_kp w p s.t k)
    rw [was_in hk] at hc ⊢
    rw [upd_in hk]
    refine (upd_yes w p r s k g cap y _ _ h hn ht hk hen hc ((h.tw k).cr h3) ((h.tw k).fr _)).mono ?_
    rintro e w' ⟨rfl, rfl⟩
    exact ⟨rfl, (h.tw k).store _ _, ((tw_kp w p s.t k).mono (by simp)).setCell (.inl (by simp)) _⟩
  · have hk' : inB s k = false := by simpa using hk
    rw [was_out hk', upd_out hk']
    refine (upd_no w p r s k g #[] cap h hn hk').mono ?_
    rintro e w' ⟨rfl, rfl⟩
    exact ⟨rfl, h, Kp.refl _ _⟩

theorem f21 (x : Int) (w : World) : Calls Try.prog 27 #[.int .u64 x] w fun e w2 => e = .returned (.int .u64 x) ∧ w2 = w := by
  go_enter Try.func27, Try.ntmps27
  go_wp2
  go_ret
  exact ⟨rfl, rfl⟩

theorem f22 (x v : Int) (b : Nat) (w : World) (hc : w.cell? ⟨b, 0, none⟩ = some (.int .u64 v)) : Calls Try.prog 28 #[.int .u64 x, .pointer (some ⟨b, 0, none⟩)] w fun e w2 => e = .returned (.int .u64 v) ∧ w2 = w := by
  go_enter Try.func28, Try.ntmps28
  go_wp2
  go_ret
  exact ⟨rfl, rfl⟩

theorem read_any (w : World) (p r : Nat) (s : St) (k : Int) (h : Ar w p r s) (hn : s.ws.length ≤ 4096) (ht : s.t ≤ 1000000) :
    Calls Try.prog 16 #[.pointer (some ⟨p, 0, none⟩), .int .i64 k] w fun e w' => e = .returned (.int .u64 (was s k)) ∧ Ar w' p r (upd s k (was s k)) ∧ Kp [p, r] w w' := by
  have hu := upd_pure w p r s k 27 #[] (was s k) h hn ht (fun _ _ => rfl) (fun _ w' _ => f21 _ w')
  go_enter Try.func16, Try.ntmps16
  go_wp2_with fail
  refine hu.mono ?_
  rintro e w1 ⟨rfl, ha, hk⟩
  go_wp2
  go_ret
  exact ⟨rfl, ha, hk⟩

theorem write_any (w : World) (p r : Nat) (s : St) (k v : Int) (h : Ar w p r s) (hn : s.ws.length ≤ 4096) (ht : s.t ≤ 1000000) :
    Calls Try.prog 18 #[.pointer (some ⟨p, 0, none⟩), .int .i64 k, .int .u64 v] w fun e w' => e = .returned (.tuple #[]) ∧ Ar w' p r (upd s k v) ∧ Kp [p, r] w w' := by
  have hmf : ∀ (fn : Fn) (first cap : Array Value) (w : World), (Instr.makeFunc fn first cap).run Try.prog w = .ok (.func fn first cap) w := fun _ _ _ _ => rfl
  have hka := (Kp.refl [] w).alloc (.cells #[.int .u64 v] 30)
  have hb := heap_alloc_new w (.cells #[.int .u64 v] 30)
  have hpl := h.lt
  have hu := upd_pure (w.alloc (.cells #[.int .u64 v] 30)) p r s k 28 #[.pointer (some ⟨w.heap.size, 0, none⟩)] v (h.keep hka (by simp) (by simp)) hn ht (fun _ _ => rfl)
    (fun _ w' hk' => f22 _ v _ w' (by rw [cell_of_row (hk'.row (by simp; omega) hb)]; rfl))
  go_enter Try.func18, Try.ntmps18
  go_wp2_with fail
  refine hu.mono ?_
  rintro e w1 ⟨rfl, ha, hk⟩
  have hkk := (hka.mono (T := [p, r]) (by simp)).trans hk
  clear hka hb hk hu
  go_wp2
  go_end0
  exact ⟨rfl, ha, hkk⟩

theorem read_nil (w : World) (k : Int) : Calls Try.prog 16 #[.pointer none, .int .i64 k] w fun e w' => e = .returned (.int .u64 0) ∧ w' = w := by
  go_enter Try.func16, Try.ntmps16
  go_wp2_with fail
  refine (upd_nil _ _ _).mono ?_
  rintro e w1 ⟨rfl, rfl⟩
  go_wp2
  go_ret
  exact ⟨rfl, rfl⟩

theorem write_nil (w : World) (k v : Int) : Calls Try.prog 18 #[.pointer none, .int .i64 k, .int .u64 v] w fun e w' => e = .returned (.tuple #[]) ∧ Kp [] w w' := by
  have hmf : ∀ (fn : Fn) (first cap : Array Value) (w : World), (Instr.makeFunc fn first cap).run Try.prog w = .ok (.func fn first cap) w := fun _ _ _ _ => rfl
  have hka := (Kp.refl [] w).alloc (.cells #[.int .u64 v] 30)
  go_enter Try.func18, Try.ntmps18
  go_wp2_with fail
  refine (upd_nil _ _ _).mono ?_
  rintro e w1 ⟨rfl, rfl⟩
  go_wp2
  go_end0
  exact ⟨rfl, hka⟩

end Go.Proofs.Ytdnlddjgjceogaa
