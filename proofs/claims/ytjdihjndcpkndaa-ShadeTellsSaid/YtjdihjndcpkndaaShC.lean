/- The walks of package shade, on: Shade and Blacken over an arena, and of no memory. Conditions: as each theorem states them (the numbers are those of a uint8, of a uint64). -/
import Derived.Test.YtjdihjndcpkndaaShB
namespace Go.Proofs.Ytjdihjndcpkndaa
set_option linter.unusedVariables false
set_option linter.unusedSimpArgs false
open Go.RowKit

theorem black_any (w : World) (p r : Nat) (s : St) (k : Int) (h : Ar w p r s) (hn : s.ws.length ≤ 4096) (ht : s.t ≤ 4096) (h0 : 0 ≤ was s k) (h1 : was s k < 18446744073709551616) :
    Calls Try.prog 13 #[.iface 24 (.pointer (some ⟨p, 0, none⟩)), .int .i64 k] w fun e w' => e = .returned (.tuple #[]) ∧ Ar w' p r (upd s k (blackI (was s k))) ∧ Kp [p, r] w w' := by
  have hu := upd_kp w p r s k 25 #[] (blackI (was s k)) h hn ht (fun _ _ => rfl) (fun _ w' _ => cl_black _ w' h0 h1)
  go_enter Try.func13, Try.ntmps13
  go_wp2_with fail
  refine hu.mono ?_
  rintro e w1 ⟨rfl, ha, hk⟩
  go_wp2
  go_end0
  exact ⟨rfl, ha, hk⟩

theorem sh_kp (w : World) : Kp [] w w.drew := (Kp.refl [] w).drew

/-- The arena behind Shade. -/
def shSt (s : St) (k c : Int) : St := if c ≤ 1 then (if tellI (was s k) c = 1 then upd (upd s k (was s k)) k (shadeI (was s k) c) else upd s k (was s k)) else s

theorem ptr_mem (p : Addr) (w : World) : (binOp .eql 51 (.iface 24 (.pointer (some p))) .nilIface).run Try.prog w = .ok (.bool false) w := by
  simp [go_sem]

theorem shade_high (w : World) (p : Addr) (k c : Int) (hc : 1 < c) :
    Calls Try.prog 10 #[.iface 24 (.pointer (some p)), .int .i64 k, .int .u8 c] w fun e w' => e = .returned (.bool false) ∧ Kp [] w w' := by
  go_enter Try.func10, Try.ntmps10
  go_wp2
  go_ret
  exact ⟨rfl, (Kp.refl _ _).alloc _⟩

theorem shade_none (w : World) (k c : Int) :
    Calls Try.prog 10 #[.nilIface, .int .i64 k, .int .u8 c] w fun e w' => e = .returned (.bool false) ∧ Kp [] w w' := by
  go_enter Try.func10, Try.ntmps10
  go_wp2
  go_ret
  exact ⟨rfl, (Kp.refl _ _).alloc _⟩

theorem black_none (w : World) (k : Int) :
    Calls Try.prog 13 #[.nilIface, .int .i64 k] w fun e w' => e = .returned (.tuple #[]) ∧ Kp [] w w' := by
  go_enter Try.func13, Try.ntmps13
  go_wp2
  exact bodyPost_ret (results_none Try.results13 _ _ _) rfl ⟨rfl, Kp.refl _ _⟩

theorem shade_low (w : World) (p r : Nat) (s : St) (k c x t : Int) (b : Bool) (h : Ar w p r s) (hn : s.ws.length ≤ 4096) (ht : s.t ≤ 4095) (hc0 : 0 ≤ c) (hc : c ≤ 1) (hx : was s k = x) (h0 : 0 ≤ x) (h1 : x < 18446744073709551616) (hT : tellI x c = t) (ht1 : (t == 1) = false) (hb : (t == 2) = b) :
    Calls Try.prog 10 #[.iface 24 (.pointer (some ⟨p, 0, none⟩)), .int .i64 k, .int .u8 c] w fun e w' => e = .returned (.bool b) ∧ Ar w' p r (upd s k x) ∧ Kp [p, r] w w' := by
  have HX := Lib.hid h1
  have HT := Lib.hid hT
  have HW := Lib.hid hx
  clear h1 hT hx
  subst hb
  have hpl := h.lt
  have HS : Hid (∀ w', Kp [] (w.alloc (.cells #[.int .u8 c] 5)) w' → Ar w' p r s ∧ w'.cell? ⟨w.heap.size, 0, none⟩ = some (.int .u8 c)) :=
    Lib.hid fun w' hk => ⟨h.keep (((Kp.refl [] w).alloc _).trans hk) (by simp) (by simp), by rw [World.cell?_of_block (hk.block _ (by simp) (by simp))]; simp⟩
  have HC : Hid (∀ w' w2, Kp [] (w.alloc (.cells #[.int .u8 c] 5)) w' → Kp [p, r] w' w2 → w2.cell? ⟨w.heap.size, 0, none⟩ = some (.int .u8 c) ∧ Kp [p, r] w w2) :=
    Lib.hid fun w' w2 hk hk2 => ⟨by rw [World.cell?_of_block (hk2.block _ (Nat.lt_of_lt_of_le (by simp) hk.size) (by simp; omega))]; exact (HS.out _ hk).2, ((((Kp.refl [] w).alloc _).trans hk).mono (by simp)).trans hk2⟩
  go_enter Try.func10, Try.ntmps10
  have hc1 := (HS.out _ (Kp.refl _ _)).2
  go_wp2_with fail
  go_region_with (first
    | (go_at_call 12
       refine (read_any _ p r s k (HS.out _ ?_).1 hn (by omega)).mono ?_
       · first | exact Kp.refl _ _ | exact sh_kp _ | exact ⟨rfl, rfl, rfl, Nat.le_refl _, fun _ _ _ => rfl⟩
       rintro e w1 ⟨rfl, ha1, hk1⟩
       obtain ⟨hc1, hk1'⟩ := HC.out _ _ (by first | exact Kp.refl _ _ | exact sh_kp _ | exact ⟨rfl, rfl, rfl, Nat.le_refl _, fun _ _ _ => rfl⟩) hk1
       rw [HW.out] at ha1 ⊢
       have HA := Lib.hid ha1
       have HK := Lib.hid hk1'
       clear ha1 hk1 hk1')
    | (go_at_call 5
       refine (tell_is _ _ _ _ h0 HX.out HT.out).mono ?_
       rintro e w2 ⟨rfl, hk2⟩
       have HA2 := (show Hid (Ar w2 p r _) from Lib.hid (by first | exact HA.out.keep hk2 (by simp) (by simp) | exact HA.out.keep ((sh_kp _).trans hk2) (by simp) (by simp)))
       have HK2 := (show Hid (Kp [p, r] w w2) from Lib.hid (by first | exact HK.out.trans (hk2.mono (by simp)) | exact HK.out.trans (((sh_kp _).trans hk2).mono (by simp))))
       clear hk2))
  all_goals
    go_wp2
    go_ret
    exact ⟨rfl, HA2.out, HK2.out⟩

set_option maxHeartbeats 1000000 in
theorem shade_one (w : World) (p r : Nat) (s : St) (k c x : Int) (h : Ar w p r s) (hn : s.ws.length ≤ 4096) (ht : s.t ≤ 4094) (hc0 : 0 ≤ c) (hc : c ≤ 1) (hx : was s k = x) (h0 : 0 ≤ x) (h1 : x < 18446744073709551616) (hT : tellI x c = 1) :
    Calls Try.prog 10 #[.iface 24 (.pointer (some ⟨p, 0, none⟩)), .int .i64 k, .int .u8 c] w fun e w' => e = .returned (.bool true) ∧ Ar w' p r (upd (upd s k x) k (shadeI x c)) ∧ Kp [p, r] w w' := by
  have HX := Lib.hid h1
  have HT := Lib.hid hT
  have HW := Lib.hid hx
  clear h1 hT hx
  have hpl := h.lt
  have hmf : ∀ (fn : Fn) (first cap : Array Value) (w : World), (Instr.makeFunc fn first cap).run Try.prog w = .ok (.func fn first cap) w := fun _ _ _ _ => rfl
  have HWs : Hid (was (upd s k x) k = x) := Lib.hid (by rw [← HW.out, was_same])
  have HN : Hid ((upd s k x).ws.length ≤ 4096) := Lib.hid (by rw [upd_len]; exact hn)
  have HTT : Hid ((upd s k x).t ≤ 4096) := Lib.hid (by have := upd_t s k x; omega)
  have HS : Hid (∀ w', Kp [] (w.alloc (.cells #[.int .u8 c] 5)) w' → Ar w' p r s ∧ w'.cell? ⟨w.heap.size, 0, none⟩ = some (.int .u8 c)) :=
    Lib.hid fun w' hk => ⟨h.keep (((Kp.refl [] w).alloc _).trans hk) (by simp) (by simp), by rw [World.cell?_of_block (hk.block _ (by simp) (by simp))]; simp⟩
  have HC : Hid (∀ w' w2, Kp [] (w.alloc (.cells #[.int .u8 c] 5)) w' → Kp [p, r] w' w2 → w2.cell? ⟨w.heap.size, 0, none⟩ = some (.int .u8 c) ∧ Kp [p, r] w w2) :=
    Lib.hid fun w' w2 hk hk2 => ⟨by rw [World.cell?_of_block (hk2.block _ (Nat.lt_of_lt_of_le (by simp) hk.size) (by simp; omega))]; exact (HS.out _ hk).2, ((((Kp.refl [] w).alloc _).trans hk).mono (by simp)).trans hk2⟩
  go_enter Try.func10, Try.ntmps10
  have hc1 := (HS.out _ (Kp.refl _ _)).2
  go_wp2_with fail
  go_region_with (first
    | (go_at_call 12
       refine (read_any _ p r s k (HS.out _ ?_).1 hn (by omega)).mono ?_
       · first | exact Kp.refl _ _ | exact sh_kp _ | exact ⟨rfl, rfl, rfl, Nat.le_refl _, fun _ _ _ => rfl⟩
       rintro e w1 ⟨rfl, ha1, hk1⟩
       obtain ⟨hc1, hk1'⟩ := HC.out _ _ (by first | exact Kp.refl _ _ | exact sh_kp _ | exact ⟨rfl, rfl, rfl, Nat.le_refl _, fun _ _ _ => rfl⟩) hk1
       rw [HW.out] at ha1 ⊢
       have HA := Lib.hid ha1
       have HK := Lib.hid hk1'
       clear ha1 hk1 hk1')
    | (go_at_call 5
       refine (tell_is _ _ _ _ h0 HX.out HT.out).mono ?_
       rintro e w2 ⟨rfl, hk2⟩
       have HA2 := (show Hid (Ar w2 p r _) from Lib.hid (by first | exact HA.out.keep hk2 (by simp) (by simp) | exact HA.out.keep ((sh_kp _).trans hk2) (by simp) (by simp)))
       have HK2 := (show Hid (Kp [p, r] w w2) from Lib.hid (by first | exact HK.out.trans (hk2.mono (by simp)) | exact HK.out.trans (((sh_kp _).trans hk2).mono (by simp))))
       have HC2 := Lib.hid (show w2.cell? ⟨w.heap.size, 0, none⟩ = some (.int .u8 c) by (rw [World.cell?_of_block (hk2.block _ (World.block_lt_of_cell? _ _ hc1) (by simp))]; exact hc1))
       clear hk2))
  all_goals
    have hu := upd_kp _ p r (upd s k x) k 20 #[.pointer (some ⟨w.heap.size, 0, none⟩)] (shadeI x c) HA2.out HN.out HTT.out (fun _ _ => rfl)
      (fun _ w' hk' => by
        rw [HWs.out]
        refine cl_shade x c w.heap.size w' h0 HX.out hc0 ?_
        rw [World.cell?_of_block (hk'.block _ (World.block_lt_of_cell? _ _ HC2.out) (by simp; omega))]
        exact HC2.out)
    rw [HWs.out] at hu
    go_wp2_with fail
    refine hu.mono ?_
    rintro e w3 ⟨rfl, ha3, hk3⟩
    have hc3 : w3.cell? ⟨w.heap.size, 0, none⟩ = some (.int .u8 c) := by
      rw [World.cell?_of_block (hk3.block _ (World.block_lt_of_cell? _ _ HC2.out) (by simp; omega))]
      exact HC2.out
    have HA3 := Lib.hid ha3
    have HK3 := Lib.hid (HK2.out.trans hk3)
    clear ha3 hk3 hu
    go_wp2_with fail
    refine (tell_is x c 1 _ h0 HX.out HT.out).mono ?_
    rintro e w4 ⟨rfl, hk4⟩
    have HA4 := Lib.hid (HA3.out.keep hk4 (by simp) (by simp))
    have HK4 := Lib.hid (HK3.out.trans (hk4.mono (by simp)))
    clear hk4 hc3
    go_wp2
    go_ret
    exact ⟨rfl, HA4.out, HK4.out⟩

end Go.Proofs.Ytjdihjndcpkndaa
