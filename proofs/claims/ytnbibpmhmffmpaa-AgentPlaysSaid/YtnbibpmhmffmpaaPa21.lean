/- AgentPlays: more pieces of its second loop, each done alone. Written by gen/ap_j.py. AgentPlays: the document's step, what is kept of it, the words behind a step: pieces of its second loop, each done alone. Written by gen/ap_k.py. AgentPlays: what stands between its turns; a step of an agent. Written by gen/ap_l.py. AgentPlays: behind a step; a turn; its second loop. Written by gen/ap_m.py. Conditions: as each theorem states them. -/
import Derived.Deep.RegionHeld3
import Derived.Deep.CutRange
import Derived.Deep.CutBlock
import Derived.Deep.DeepCutAuto
import Derived.BigQuiet
import Derived.Test.YtnbibpmhmffmpaaPa20
namespace Go.Proofs.Ytnbibpmhmffmpaa
set_option linter.unusedVariables false
set_option linter.unusedSimpArgs false
set_option maxRecDepth 100000
open Go.RowKit

theorem Ar.drewN {w : World} {p r : Nat} {s : St} (h : Ar w p r s) (j : Nat) : Ar (w.drewN j) p r s := ⟨(kp_drewN w j).row List.not_mem_nil h.hp, (kp_drewN w j).row List.not_mem_nil h.hr⟩
section
variable {x : Nat → Value} {wt : World} {Q : Exit → Act → World → Prop} {ao bo : Option Addr} {wd M K cl co pA rA bl bm cm i kk ba ca bv cv bp bn cn bz : Nat} {is th : Bool} {t f : Int}
theorem ap_q28_ttt (hx0 : x 0 = .int .u8 wd) (hx1 : x 1 = .slice ao M cl) (hx2 : x 2 = .slice bo K co) (hx7 : x 7 = .pointer (some ⟨pA, 0, none⟩)) (hx9 : x 9 = .slice (some ⟨ba, 0, none⟩) M ca) (hx10 : x 10 = .slice (some ⟨bv, 0, none⟩) M cv) (hx11 : x 11 = .slice (some ⟨bl, 0, none⟩) M M) (hx12 : x 12 = .slice (some ⟨bn, 0, none⟩) wd cn) (hx13 : x 13 = .bool true) (hx17 : x 17 = .int .i64 i) (hx18 : x 18 = .int .i64 kk) (hx19 : x 19 = .pointer (some ⟨bp, 0, none⟩)) (hx20 : x 20 = .slice (some ⟨bn, 0, none⟩) wd cn) (hx21 : x 21 = .bool true) (hx22 : x 22 = .int .u64 t) (hx23 : x 23 = .int .i64 0) (hx24 : x 24 = .bool true) {s : St} {z : Int} {pao : Option Addr} {N cp dn p : Nat} (ha : Ar wt pA rA s) (hT0 : 0 ≤ t ∧ t ≤ 4000) (ht : (s.t : Int) = t + 1) (hkk : kk < M) (hl : wt.cell? ⟨bl, kk, none⟩ = some (.int .u64 z)) (h0 : wt.cell? ⟨bp, 0, none⟩ = some (.slice pao N cp)) (h1 : wt.cell? ⟨bp, 1, none⟩ = some (.int .i64 dn)) (h2 : wt.cell? ⟨bp, 2, none⟩ = some (.int .u64 z)) (hag : wt.cell? ⟨ba, kk, none⟩ = some (.pointer (some ⟨p, 0, none⟩))) (hov : wt.cell? ⟨p, 6, none⟩ = some (.bool true)) (hdn : N ≤ dn) (hQ : ∀ a' w', FrY [(0, .int .u8 wd), (1, .slice ao M cl), (2, .slice bo K co), (7, .pointer (some ⟨pA, 0, none⟩)), (9, .slice (some ⟨ba, 0, none⟩) M ca), (10, .slice (some ⟨bv, 0, none⟩) M cv), (11, .slice (some ⟨bl, 0, none⟩) M M), (12, .slice (some ⟨bn, 0, none⟩) wd cn), (13, .bool true), (17, .int .i64 i), (18, .int .i64 kk)] a' → Kp [] wt w' → Q .normal a' w') : (apQ28 Try.f3).wp Try.prog Q ⟨T287 x, []⟩ wt := by
  have HQ := Lib.hid hQ
  have ew : IntKind.wrap .u64 (t + 1) = t + 1 := by simp [IntKind.wrap, IntKind.min, IntKind.max, IntKind.signed, IntKind.bits]; omega
  have HT := Lib.hid (fun jj => touched_any (wt.drewN jj) pA rA s (ha.drewN jj))
  rw [ht] at HT
  have HD := Lib.hid (fun jj => done_at (wt.drewN jj) p true ((World.cell?_of_block ((kp_drewN wt jj).block _ (World.block_lt_of_cell? _ _ hov) List.not_mem_nil)).trans hov))
  have ezz : (z == z) = true := by simp
  have et : (t == t + 1) = false := by rw [beq_eq_false_iff_ne]; omega
  have et2 : (t + 1 == t + 1) = true := by simp
  clear hQ ha ht hT0 hov
  simp only [apQ28, apB2, apX2, apS2, apR10, bodyOf, Try.f3, codeL, codeR, blockOf, loopOf, Option.getD_some, T287]
  simp only [hx0, hx1, hx2, hx7, hx9, hx10, hx11, hx12, hx13, hx17, hx18, hx19, hx20, hx21, hx22, hx23, hx24]
  go_quiet (first
    | (go_at_call 14; exact Calls.quiet_of_same (HT.out _))
    | (go_at_call 16; exact Calls.quiet_of_same (HD.out _)))
  go_wp2_with fail
  first | exact HQ.out _ _ ⟨rfl, rfl, ⟨rfl, rfl, rfl, rfl, rfl, rfl, rfl, rfl, rfl, rfl, rfl, trivial⟩⟩ (Kp.refl _ _) | exact HQ.out _ _ ⟨rfl, rfl, ⟨rfl, rfl, rfl, rfl, rfl, rfl, rfl, rfl, rfl, rfl, rfl, trivial⟩⟩ (kp_drewN _ _)

theorem ap_q28_ttf (hx0 : x 0 = .int .u8 wd) (hx1 : x 1 = .slice ao M cl) (hx2 : x 2 = .slice bo K co) (hx7 : x 7 = .pointer (some ⟨pA, 0, none⟩)) (hx9 : x 9 = .slice (some ⟨ba, 0, none⟩) M ca) (hx10 : x 10 = .slice (some ⟨bv, 0, none⟩) M cv) (hx11 : x 11 = .slice (some ⟨bl, 0, none⟩) M M) (hx12 : x 12 = .slice (some ⟨bn, 0, none⟩) wd cn) (hx13 : x 13 = .bool true) (hx17 : x 17 = .int .i64 i) (hx18 : x 18 = .int .i64 kk) (hx19 : x 19 = .pointer (some ⟨bp, 0, none⟩)) (hx20 : x 20 = .slice (some ⟨bn, 0, none⟩) wd cn) (hx21 : x 21 = .bool true) (hx22 : x 22 = .int .u64 t) (hx23 : x 23 = .int .i64 0) (hx24 : x 24 = .bool true) {s : St} {z : Int} {pao : Option Addr} {N cp dn p : Nat} (ha : Ar wt pA rA s) (hT0 : 0 ≤ t ∧ t ≤ 4000) (ht : (s.t : Int) = t + 1) (hkk : kk < M) (hl : wt.cell? ⟨bl, kk, none⟩ = some (.int .u64 z)) (h0 : wt.cell? ⟨bp, 0, none⟩ = some (.slice pao N cp)) (h1 : wt.cell? ⟨bp, 1, none⟩ = some (.int .i64 dn)) (h2 : wt.cell? ⟨bp, 2, none⟩ = some (.int .u64 z)) (hag : wt.cell? ⟨ba, kk, none⟩ = some (.pointer (some ⟨p, 0, none⟩))) (hov : wt.cell? ⟨p, 6, none⟩ = some (.bool false)) (hdn : ¬ N ≤ dn) (hQ : ∀ a' w', FrY [(0, .int .u8 wd), (1, .slice ao M cl), (2, .slice bo K co), (7, .pointer (some ⟨pA, 0, none⟩)), (9, .slice (some ⟨ba, 0, none⟩) M ca), (10, .slice (some ⟨bv, 0, none⟩) M cv), (11, .slice (some ⟨bl, 0, none⟩) M M), (12, .slice (some ⟨bn, 0, none⟩) wd cn), (13, .bool true), (17, .int .i64 i), (18, .int .i64 kk)] a' → Kp [] wt w' → Q .normal a' w') : (apQ28 Try.f3).wp Try.prog Q ⟨T287 x, []⟩ wt := by
  have HQ := Lib.hid hQ
  have ew : IntKind.wrap .u64 (t + 1) = t + 1 := by simp [IntKind.wrap, IntKind.min, IntKind.max, IntKind.signed, IntKind.bits]; omega
  have HT := Lib.hid (fun jj => touched_any (wt.drewN jj) pA rA s (ha.drewN jj))
  rw [ht] at HT
  have HD := Lib.hid (fun jj => done_at (wt.drewN jj) p false ((World.cell?_of_block ((kp_drewN wt jj).block _ (World.block_lt_of_cell? _ _ hov) List.not_mem_nil)).trans hov))
  have ezz : (z == z) = true := by simp
  have et : (t == t + 1) = false := by rw [beq_eq_false_iff_ne]; omega
  have et2 : (t + 1 == t + 1) = true := by simp
  clear hQ ha ht hT0 hov
  simp only [apQ28, apB2, apX2, apS2, apR10, bodyOf, Try.f3, codeL, codeR, blockOf, loopOf, Option.getD_some, T287]
  simp only [hx0, hx1, hx2, hx7, hx9, hx10, hx11, hx12, hx13, hx17, hx18, hx19, hx20, hx21, hx22, hx23, hx24]
  go_quiet (first
    | (go_at_call 14; exact Calls.quiet_of_same (HT.out _))
    | (go_at_call 16; exact Calls.quiet_of_same (HD.out _)))
  go_wp2_with fail
  first | exact HQ.out _ _ ⟨rfl, rfl, ⟨rfl, rfl, rfl, rfl, rfl, rfl, rfl, rfl, rfl, rfl, rfl, trivial⟩⟩ (Kp.refl _ _) | exact HQ.out _ _ ⟨rfl, rfl, ⟨rfl, rfl, rfl, rfl, rfl, rfl, rfl, rfl, rfl, rfl, rfl, trivial⟩⟩ (kp_drewN _ _)

theorem ap_q28_tft (hx0 : x 0 = .int .u8 wd) (hx1 : x 1 = .slice ao M cl) (hx2 : x 2 = .slice bo K co) (hx7 : x 7 = .pointer (some ⟨pA, 0, none⟩)) (hx9 : x 9 = .slice (some ⟨ba, 0, none⟩) M ca) (hx10 : x 10 = .slice (some ⟨bv, 0, none⟩) M cv) (hx11 : x 11 = .slice (some ⟨bl, 0, none⟩) M M) (hx12 : x 12 = .slice (some ⟨bn, 0, none⟩) wd cn) (hx13 : x 13 = .bool true) (hx17 : x 17 = .int .i64 i) (hx18 : x 18 = .int .i64 kk) (hx19 : x 19 = .pointer (some ⟨bp, 0, none⟩)) (hx20 : x 20 = .slice (some ⟨bn, 0, none⟩) wd cn) (hx21 : x 21 = .bool true) (hx22 : x 22 = .int .u64 t) (hx23 : x 23 = .int .i64 0) (hx24 : x 24 = .bool false) {s : St} {z : Int} {pao : Option Addr} {N cp dn p : Nat} (ha : Ar wt pA rA s) (hT0 : 0 ≤ t ∧ t ≤ 4000) (ht : (s.t : Int) = t) (hkk : kk < M) (hl : wt.cell? ⟨bl, kk, none⟩ = some (.int .u64 z)) (h0 : wt.cell? ⟨bp, 0, none⟩ = some (.slice pao N cp)) (h1 : wt.cell? ⟨bp, 1, none⟩ = some (.int .i64 dn)) (h2 : wt.cell? ⟨bp, 2, none⟩ = some (.int .u64 z)) (hag : wt.cell? ⟨ba, kk, none⟩ = some (.pointer (some ⟨p, 0, none⟩))) (hov : wt.cell? ⟨p, 6, none⟩ = some (.bool true)) (hdn : N ≤ dn) (hQ : ∀ a' w', FrY [(0, .int .u8 wd), (1, .slice ao M cl), (2, .slice bo K co), (7, .pointer (some ⟨pA, 0, none⟩)), (9, .slice (some ⟨ba, 0, none⟩) M ca), (10, .slice (some ⟨bv, 0, none⟩) M cv), (11, .slice (some ⟨bl, 0, none⟩) M M), (12, .slice (some ⟨bn, 0, none⟩) wd cn), (13, .bool true), (17, .int .i64 i), (18, .int .i64 kk)] a' → Kp [] wt w' → Q .normal a' w') : (apQ28 Try.f3).wp Try.prog Q ⟨T287 x, []⟩ wt := by
  have HQ := Lib.hid hQ
  have ew : IntKind.wrap .u64 (t + 1) = t + 1 := by simp [IntKind.wrap, IntKind.min, IntKind.max, IntKind.signed, IntKind.bits]; omega
  have HT := Lib.hid (fun jj => touched_any (wt.drewN jj) pA rA s (ha.drewN jj))
  rw [ht] at HT
  have HD := Lib.hid (fun jj => done_at (wt.drewN jj) p true ((World.cell?_of_block ((kp_drewN wt jj).block _ (World.block_lt_of_cell? _ _ hov) List.not_mem_nil)).trans hov))
  have ezz : (z == z) = true := by simp
  have et : (t == t + 1) = false := by rw [beq_eq_false_iff_ne]; omega
  have et2 : (t + 1 == t + 1) = true := by simp
  clear hQ ha ht hT0 hov
  simp only [apQ28, apB2, apX2, apS2, apR10, bodyOf, Try.f3, codeL, codeR, blockOf, loopOf, Option.getD_some, T287]
  simp only [hx0, hx1, hx2, hx7, hx9, hx10, hx11, hx12, hx13, hx17, hx18, hx19, hx20, hx21, hx22, hx23, hx24]
  go_quiet (first
    | (go_at_call 14; exact Calls.quiet_of_same (HT.out _))
    | (go_at_call 16; exact Calls.quiet_of_same (HD.out _)))
  go_wp2_with fail
  first | exact HQ.out _ _ ⟨rfl, rfl, ⟨rfl, rfl, rfl, rfl, rfl, rfl, rfl, rfl, rfl, rfl, rfl, trivial⟩⟩ (Kp.refl _ _) | exact HQ.out _ _ ⟨rfl, rfl, ⟨rfl, rfl, rfl, rfl, rfl, rfl, rfl, rfl, rfl, rfl, rfl, trivial⟩⟩ (kp_drewN _ _)

theorem ap_q28_tff (hx0 : x 0 = .int .u8 wd) (hx1 : x 1 = .slice ao M cl) (hx2 : x 2 = .slice bo K co) (hx7 : x 7 = .pointer (some ⟨pA, 0, none⟩)) (hx9 : x 9 = .slice (some ⟨ba, 0, none⟩) M ca) (hx10 : x 10 = .slice (some ⟨bv, 0, none⟩) M cv) (hx11 : x 11 = .slice (some ⟨bl, 0, none⟩) M M) (hx12 : x 12 = .slice (some ⟨bn, 0, none⟩) wd cn) (hx13 : x 13 = .bool true) (hx17 : x 17 = .int .i64 i) (hx18 : x 18 = .int .i64 kk) (hx19 : x 19 = .pointer (some ⟨bp, 0, none⟩)) (hx20 : x 20 = .slice (some ⟨bn, 0, none⟩) wd cn) (hx21 : x 21 = .bool true) (hx22 : x 22 = .int .u64 t) (hx23 : x 23 = .int .i64 0) (hx24 : x 24 = .bool false) {s : St} {z : Int} {pao : Option Addr} {N cp dn p : Nat} (ha : Ar wt pA rA s) (hT0 : 0 ≤ t ∧ t ≤ 4000) (ht : (s.t : Int) = t) (hkk : kk < M) (hl : wt.cell? ⟨bl, kk, none⟩ = some (.int .u64 z)) (h0 : wt.cell? ⟨bp, 0, none⟩ = some (.slice pao N cp)) (h1 : wt.cell? ⟨bp, 1, none⟩ = some (.int .i64 dn)) (h2 : wt.cell? ⟨bp, 2, none⟩ = some (.int .u64 z)) (hag : wt.cell? ⟨ba, kk, none⟩ = some (.pointer (some ⟨p, 0, none⟩))) (hov : wt.cell? ⟨p, 6, none⟩ = some (.bool false)) (hdn : ¬ N ≤ dn) (hQ : ∀ a' w', FrY [(0, .int .u8 wd), (1, .slice ao M cl), (2, .slice bo K co), (7, .pointer (some ⟨pA, 0, none⟩)), (9, .slice (some ⟨ba, 0, none⟩) M ca), (10, .slice (some ⟨bv, 0, none⟩) M cv), (11, .slice (some ⟨bl, 0, none⟩) M M), (12, .slice (some ⟨bn, 0, none⟩) wd cn), (13, .bool true), (17, .int .i64 i), (18, .int .i64 kk)] a' → Kp [] wt w' → Q .normal a' w') : (apQ28 Try.f3).wp Try.prog Q ⟨T287 x, []⟩ wt := by
  have HQ := Lib.hid hQ
  have ew : IntKind.wrap .u64 (t + 1) = t + 1 := by simp [IntKind.wrap, IntKind.min, IntKind.max, IntKind.signed, IntKind.bits]; omega
  have HT := Lib.hid (fun jj => touched_any (wt.drewN jj) pA rA s (ha.drewN jj))
  rw [ht] at HT
  have HD := Lib.hid (fun jj => done_at (wt.drewN jj) p false ((World.cell?_of_block ((kp_drewN wt jj).block _ (World.block_lt_of_cell? _ _ hov) List.not_mem_nil)).trans hov))
  have ezz : (z == z) = true := by simp
  have et : (t == t + 1) = false := by rw [beq_eq_false_iff_ne]; omega
  have et2 : (t + 1 == t + 1) = true := by simp
  clear hQ ha ht hT0 hov
  simp only [apQ28, apB2, apX2, apS2, apR10, bodyOf, Try.f3, codeL, codeR, blockOf, loopOf, Option.getD_some, T287]
  simp only [hx0, hx1, hx2, hx7, hx9, hx10, hx11, hx12, hx13, hx17, hx18, hx19, hx20, hx21, hx22, hx23, hx24]
  go_quiet (first
    | (go_at_call 14; exact Calls.quiet_of_same (HT.out _))
    | (go_at_call 16; exact Calls.quiet_of_same (HD.out _)))
  go_wp2_with fail
  first | exact HQ.out _ _ ⟨rfl, rfl, ⟨rfl, rfl, rfl, rfl, rfl, rfl, rfl, rfl, rfl, rfl, rfl, trivial⟩⟩ (Kp.refl _ _) | exact HQ.out _ _ ⟨rfl, rfl, ⟨rfl, rfl, rfl, rfl, rfl, rfl, rfl, rfl, rfl, rfl, rfl, trivial⟩⟩ (kp_drewN _ _)

theorem ap_q28_fft (hx0 : x 0 = .int .u8 wd) (hx1 : x 1 = .slice ao M cl) (hx2 : x 2 = .slice bo K co) (hx7 : x 7 = .pointer (some ⟨pA, 0, none⟩)) (hx9 : x 9 = .slice (some ⟨ba, 0, none⟩) M ca) (hx10 : x 10 = .slice (some ⟨bv, 0, none⟩) M cv) (hx11 : x 11 = .slice (some ⟨bl, 0, none⟩) M M) (hx12 : x 12 = .slice (some ⟨bn, 0, none⟩) wd cn) (hx13 : x 13 = .bool true) (hx17 : x 17 = .int .i64 i) (hx18 : x 18 = .int .i64 kk) (hx19 : x 19 = .pointer (some ⟨bp, 0, none⟩)) (hx20 : x 20 = .slice (some ⟨bn, 0, none⟩) wd cn) (hx21 : x 21 = .bool false) (hx22 : x 22 = .int .u64 t) (hx23 : x 23 = .int .i64 6) (hx24 : x 24 = .bool false) {s : St} {z : Int} {pao : Option Addr} {N cp dn p : Nat} (ha : Ar wt pA rA s) (hT0 : 0 ≤ t ∧ t ≤ 4000) (ht : (s.t : Int) = t) (hkk : kk < M) (hl : wt.cell? ⟨bl, kk, none⟩ = some (.int .u64 z)) (h0 : wt.cell? ⟨bp, 0, none⟩ = some (.slice pao N cp)) (h1 : wt.cell? ⟨bp, 1, none⟩ = some (.int .i64 dn)) (h2 : wt.cell? ⟨bp, 2, none⟩ = some (.int .u64 z)) (hag : wt.cell? ⟨ba, kk, none⟩ = some (.pointer (some ⟨p, 0, none⟩))) (hov : wt.cell? ⟨p, 6, none⟩ = some (.bool true)) (hdn : N ≤ dn) (hQ : ∀ a' w', FrY [(0, .int .u8 wd), (1, .slice ao M cl), (2, .slice bo K co), (7, .pointer (some ⟨pA, 0, none⟩)), (9, .slice (some ⟨ba, 0, none⟩) M ca), (10, .slice (some ⟨bv, 0, none⟩) M cv), (11, .slice (some ⟨bl, 0, none⟩) M M), (12, .slice (some ⟨bn, 0, none⟩) wd cn), (13, .bool true), (17, .int .i64 i), (18, .int .i64 kk)] a' → Kp [] wt w' → Q .normal a' w') : (apQ28 Try.f3).wp Try.prog Q ⟨T287 x, []⟩ wt := by
  have HQ := Lib.hid hQ
  have ew : IntKind.wrap .u64 (t + 1) = t + 1 := by simp [IntKind.wrap, IntKind.min, IntKind.max, IntKind.signed, IntKind.bits]; omega
  have HT := Lib.hid (fun jj => touched_any (wt.drewN jj) pA rA s (ha.drewN jj))
  rw [ht] at HT
  have HD := Lib.hid (fun jj => done_at (wt.drewN jj) p true ((World.cell?_of_block ((kp_drewN wt jj).block _ (World.block_lt_of_cell? _ _ hov) List.not_mem_nil)).trans hov))
  have ezz : (z == z) = true := by simp
  have et : (t == t + 1) = false := by rw [beq_eq_false_iff_ne]; omega
  have et2 : (t + 1 == t + 1) = true := by simp
  clear hQ ha ht hT0 hov
  simp only [apQ28, apB2, apX2, apS2, apR10, bodyOf, Try.f3, codeL, codeR, blockOf, loopOf, Option.getD_some, T287]
  simp only [hx0, hx1, hx2, hx7, hx9, hx10, hx11, hx12, hx13, hx17, hx18, hx19, hx20, hx21, hx22, hx23, hx24]
  go_quiet (first
    | (go_at_call 14; exact Calls.quiet_of_same (HT.out _))
    | (go_at_call 16; exact Calls.quiet_of_same (HD.out _)))
  go_wp2_with fail
  first | exact HQ.out _ _ ⟨rfl, rfl, ⟨rfl, rfl, rfl, rfl, rfl, rfl, rfl, rfl, rfl, rfl, rfl, trivial⟩⟩ (Kp.refl _ _) | exact HQ.out _ _ ⟨rfl, rfl, ⟨rfl, rfl, rfl, rfl, rfl, rfl, rfl, rfl, rfl, rfl, rfl, trivial⟩⟩ (kp_drewN _ _)

end
end Go.Proofs.Ytnbibpmhmffmpaa

namespace Go.Proofs.Ytnbibpmhmffmpaa
set_option linter.unusedVariables false
set_option linter.unusedSimpArgs false
set_option maxRecDepth 100000
open Go.RowKit

section
variable {x : Nat → Value} {wt : World} {Q : Exit → Act → World → Prop} {ao bo : Option Addr} {wd M K cl co pA rA bl bm cm i kk ba ca bv cv bp bn cn bz : Nat} {is th : Bool} {t f : Int}
theorem ap_q22 (hx0 : x 0 = .int .u8 wd) (hx1 : x 1 = .slice ao M cl) (hx2 : x 2 = .slice bo K co) (hx7 : x 7 = .pointer (some ⟨pA, 0, none⟩)) (hx9 : x 9 = .slice (some ⟨ba, 0, none⟩) M ca) (hx10 : x 10 = .slice (some ⟨bv, 0, none⟩) M cv) (hx11 : x 11 = .slice (some ⟨bl, 0, none⟩) M M) (hx12 : x 12 = .slice (some ⟨bm, 0, none⟩) wd cm) (hx13 : x 13 = .bool true) (hx17 : x 17 = .int .i64 i) (hx18 : x 18 = .int .i64 kk) {p : Pr} {dn : Nat} {la : Int} {ws : List Int} {tc : Tch} (hkk : kk < M) (h0 : wt.cell? ⟨bv, kk * 3, none⟩ = some p.v) (h1 : wt.cell? ⟨bv, kk * 3 + 1, none⟩ = some (.int .i64 dn)) (h2 : wt.cell? ⟨bv, kk * 3 + 2, none⟩ = some (.int .u64 la)) (hT : Touches wt p.ao p.l) (htc : p.l[dn]? = some tc) (hl : p.l.length ≤ 1000) (hrow : Rm wt bm cm ws) (hws : ws.length = wd) (hw1 : 1 ≤ wd) (hw2 : wd ≤ 1000)
    (hQ : ∀ a' w' bp g' cap', FrY [(0, .int .u8 wd), (1, .slice ao M cl), (2, .slice bo K co), (7, .pointer (some ⟨pA, 0, none⟩)), (9, .slice (some ⟨ba, 0, none⟩) M ca), (10, .slice (some ⟨bv, 0, none⟩) M cv), (11, .slice (some ⟨bl, 0, none⟩) M M), (12, .slice (some ⟨bm, 0, none⟩) wd cm), (13, .bool true), (17, .int .i64 i), (18, .int .i64 kk), (19, .pointer (some ⟨bp, 0, none⟩)), (20, .slice (some ⟨g', 0, none⟩) wd cap'), (21, .bool true)] a' → w'.heap[bp]? = some (.cells #[p.v, .int .i64 ((dn + 1 : Nat) : Int), .int .u64 (stepL tc la ws)] 42 (0, 0)) → Rm w' g' cap' (stepW tc la ws) → wt.heap.size ≤ bp → wt.heap.size ≤ g' → bp ≠ g' → Kp [] wt w' → Q .normal a' w') : (apQ22 Try.f3).wp Try.prog Q ⟨T287 x, []⟩ wt := by
  have HQ := Lib.hid hQ
  have HN := Lib.hid (rstep_is wt p.ao p.l p.cap dn bm cm la ws tc hT htc hl hrow (by omega) (by omega))
  rw [hws] at HN
  clear hQ hT htc hl hrow hws hw1 hw2
  unfold Pr.v at h0 HQ
  generalize stepL tc la ws = sl at HQ HN
  generalize stepW tc la ws = sw at HQ HN
  simp only [apQ22, apB2, apX2, apS2, apR10, bodyOf, Try.f3, codeL, codeR, blockOf, loopOf, Option.getD_some, T287]
  simp only [hx0, hx1, hx2, hx7, hx9, hx10, hx11, hx12, hx13, hx17, hx18]
  go_wp2_with fail
  refine HN.out.mono ?_
  rintro e w1 ⟨g', cap', rfl, hr, hge, hk⟩
  have HR := Lib.hid (And.intro hr (And.intro hge hk))
  have hlt := hr.lt
  clear hr hge hk HN h0 h1 h2
  go_wp2
  have ka : Kp [] w1 (w1.alloc (.cells #[.slice p.ao p.l.length p.cap, .int .i64 ((dn : Int) + 1), .int .u64 sl] 42)) := (Kp.refl _ _).alloc _
  refine HQ.out _ _ w1.heap.size g' cap' ⟨rfl, rfl, ⟨rfl, rfl, rfl, rfl, rfl, rfl, rfl, rfl, rfl, rfl, rfl, rfl, rfl, rfl, trivial⟩⟩ ?_ (HR.out.1.keep ka (by simp)) (HR.out.2.2.size) HR.out.2.1 (by omega) (HR.out.2.2.trans ka)
  have := heap_alloc_new w1 (.cells #[.slice p.ao p.l.length p.cap, .int .i64 ((dn : Int) + 1), .int .u64 sl] 42)
  simpa using this

theorem ap_q22_end (hx0 : x 0 = .int .u8 wd) (hx1 : x 1 = .slice ao M cl) (hx2 : x 2 = .slice bo K co) (hx7 : x 7 = .pointer (some ⟨pA, 0, none⟩)) (hx9 : x 9 = .slice (some ⟨ba, 0, none⟩) M ca) (hx10 : x 10 = .slice (some ⟨bv, 0, none⟩) M cv) (hx11 : x 11 = .slice (some ⟨bl, 0, none⟩) M M) (hx12 : x 12 = .slice (some ⟨bm, 0, none⟩) wd cm) (hx13 : x 13 = .bool true) (hx17 : x 17 = .int .i64 i) (hx18 : x 18 = .int .i64 kk) {p : Pr} {dn : Nat} {la : Int} (hkk : kk < M) (h0 : wt.cell? ⟨bv, kk * 3, none⟩ = some p.v) (h1 : wt.cell? ⟨bv, kk * 3 + 1, none⟩ = some (.int .i64 dn)) (h2 : wt.cell? ⟨bv, kk * 3 + 2, none⟩ = some (.int .u64 la)) (hdn : dn = p.l.length) (hl : p.l.length ≤ 1000)
    (hQ : ∀ a' w' bp, FrY [(0, .int .u8 wd), (1, .slice ao M cl), (2, .slice bo K co), (7, .pointer (some ⟨pA, 0, none⟩)), (9, .slice (some ⟨ba, 0, none⟩) M ca), (10, .slice (some ⟨bv, 0, none⟩) M cv), (11, .slice (some ⟨bl, 0, none⟩) M M), (12, .slice (some ⟨bm, 0, none⟩) wd cm), (13, .bool true), (17, .int .i64 i), (18, .int .i64 kk), (19, .pointer (some ⟨bp, 0, none⟩)), (20, .slice (some ⟨bm, 0, none⟩) wd cm), (21, .bool false)] a' → w'.heap[bp]? = some (.cells #[p.v, .int .i64 dn, .int .u64 la] 42 (0, 0)) → wt.heap.size ≤ bp → Kp [] wt w' → Q .normal a' w') : (apQ22 Try.f3).wp Try.prog Q ⟨T287 x, []⟩ wt := by
  have HQ := Lib.hid hQ
  have HN := Lib.hid (rstep_end wt p.ao p.l.length p.cap dn bm cm wd la hdn hl)
  clear hQ hdn hl
  unfold Pr.v at h0 HQ
  simp only [apQ22, apB2, apX2, apS2, apR10, bodyOf, Try.f3, codeL, codeR, blockOf, loopOf, Option.getD_some, T287]
  simp only [hx0, hx1, hx2, hx7, hx9, hx10, hx11, hx12, hx13, hx17, hx18]
  go_wp2_with fail
  refine HN.out.mono ?_
  rintro e w1 ⟨rfl, hk⟩
  have HR := Lib.hid hk
  clear hk HN h0 h1 h2
  go_wp2
  exact HQ.out _ _ w1.heap.size ⟨rfl, rfl, ⟨rfl, rfl, rfl, rfl, rfl, rfl, rfl, rfl, rfl, rfl, rfl, rfl, rfl, rfl, trivial⟩⟩ (heap_alloc_new w1 _) HR.out.size (HR.out.trans ((Kp.refl _ _).alloc _))

theorem ap_q26 (hx0 : x 0 = .int .u8 wd) (hx1 : x 1 = .slice ao M cl) (hx2 : x 2 = .slice bo K co) (hx7 : x 7 = .pointer (some ⟨pA, 0, none⟩)) (hx9 : x 9 = .slice (some ⟨ba, 0, none⟩) M ca) (hx10 : x 10 = .slice (some ⟨bv, 0, none⟩) M cv) (hx11 : x 11 = .slice (some ⟨bl, 0, none⟩) M M) (hx12 : x 12 = .slice (some ⟨bm, 0, none⟩) wd cm) (hx13 : x 13 = .bool true) (hx17 : x 17 = .int .i64 i) (hx18 : x 18 = .int .i64 kk) (hx19 : x 19 = .pointer (some ⟨bp, 0, none⟩)) (hx20 : x 20 = .slice (some ⟨bn, 0, none⟩) wd cn) (hx21 : x 21 = .bool is) (hx22 : x 22 = .int .u64 t) (hx23 : x 23 = .int .i64 f) (hx24 : x 24 = .bool th) {u0 u1 u2 : Value} {p : Pr} {dn : Nat} {la : Int} (hkk : kk < M) (h0 : wt.cell? ⟨bv, kk * 3, none⟩ = some u0) (h1 : wt.cell? ⟨bv, kk * 3 + 1, none⟩ = some u1) (h2 : wt.cell? ⟨bv, kk * 3 + 2, none⟩ = some u2) (f0 : ∀ j, wt.frozen? ⟨bv, j, none⟩ = false)
    (b0 : wt.cell? ⟨bp, 0, none⟩ = some p.v) (b1 : wt.cell? ⟨bp, 1, none⟩ = some (.int .i64 dn)) (b2 : wt.cell? ⟨bp, 2, none⟩ = some (.int .u64 la))
    (hQ : ∀ a', FrY [(0, .int .u8 wd), (1, .slice ao M cl), (2, .slice bo K co), (7, .pointer (some ⟨pA, 0, none⟩)), (9, .slice (some ⟨ba, 0, none⟩) M ca), (10, .slice (some ⟨bv, 0, none⟩) M cv), (11, .slice (some ⟨bl, 0, none⟩) M M), (12, .slice (some ⟨bm, 0, none⟩) wd cm), (13, .bool true), (17, .int .i64 i), (18, .int .i64 kk), (19, .pointer (some ⟨bp, 0, none⟩)), (20, .slice (some ⟨bn, 0, none⟩) wd cn), (21, .bool is), (22, .int .u64 t), (23, .int .i64 f), (24, .bool th)] a' → Q .normal a' (((wt.setCell ⟨bv, kk * 3, none⟩ p.v).setCell ⟨bv, kk * 3 + 1, none⟩ (.int .i64 dn)).setCell ⟨bv, kk * 3 + 2, none⟩ (.int .u64 la))) : (apQ26 Try.f3).wp Try.prog Q ⟨T287 x, []⟩ wt := by
  have HQ := Lib.hid hQ
  have g0 := f0 (kk * 3)
  have g1 := f0 (kk * 3 + 1)
  have g2 := f0 (kk * 3 + 2)
  clear hQ
  unfold Pr.v at b0 HQ
  simp only [apQ26, apB2, apX2, apS2, apR10, bodyOf, Try.f3, codeL, codeR, blockOf, loopOf, Option.getD_some, T287]
  simp only [hx0, hx1, hx2, hx7, hx9, hx10, hx11, hx12, hx13, hx17, hx18, hx19, hx20, hx21, hx22, hx23, hx24]
  go_wp2
  exact HQ.out _ ⟨rfl, rfl, ⟨rfl, rfl, rfl, rfl, rfl, rfl, rfl, rfl, rfl, rfl, rfl, rfl, rfl, rfl, rfl, rfl, rfl, trivial⟩⟩

theorem ap_q29 (hx0 : x 0 = .int .u8 wd) (hx1 : x 1 = .slice ao M cl) (hx2 : x 2 = .slice bo K co) (hx7 : x 7 = .pointer (some ⟨pA, 0, none⟩)) (hx9 : x 9 = .slice (some ⟨ba, 0, none⟩) M ca) (hx10 : x 10 = .slice (some ⟨bv, 0, none⟩) M cv) (hx11 : x 11 = .slice (some ⟨bl, 0, none⟩) M M) (hx12 : x 12 = .slice (some ⟨bn, 0, none⟩) wd cn) (hx13 : x 13 = .bool true) (hx17 : x 17 = .int .i64 i) (hx18 : x 18 = .int .i64 kk) {s : St} (ha : Ar wt pA rA s) (hs : s.ws.length = wd) (hw1 : 1 ≤ wd) (hw2 : wd ≤ 1000) (hQ : ∀ a' w', FrY [(0, .int .u8 wd), (1, .slice ao M cl), (2, .slice bo K co), (7, .pointer (some ⟨pA, 0, none⟩)), (9, .slice (some ⟨ba, 0, none⟩) M ca), (10, .slice (some ⟨bv, 0, none⟩) M cv), (11, .slice (some ⟨bl, 0, none⟩) M M), (12, .slice (some ⟨bn, 0, none⟩) wd cn), (13, .bool true), (17, .int .i64 i), (18, .int .i64 kk), (25, .slice (some ⟨wt.heap.size, 0, none⟩) wd wd)] a' → w'.heap[wt.heap.size]? = some (.cells (u64s s.ws) 40 (0, 0)) → Kp [] wt w' → Q .normal a' w') : (apQ29 Try.f3).wp Try.prog Q ⟨T287 x, []⟩ wt := by
  have HQ := Lib.hid hQ
  have HN := Lib.hid (all_any wt pA rA s ha (by omega) (by omega))
  rw [hs] at HN
  clear hQ ha
  simp only [apQ29, apB2, apX2, apS2, apR10, bodyOf, Try.f3, codeL, codeR, blockOf, loopOf, Option.getD_some, T287]
  simp only [hx0, hx1, hx2, hx7, hx9, hx10, hx11, hx12, hx13, hx17, hx18]
  go_wp2_with fail
  refine HN.out.mono ?_
  rintro e w1 ⟨rfl, ha, hk⟩
  have HA := Lib.hid (And.intro ha hk)
  clear ha hk HN
  go_wp2
  exact HQ.out _ _ ⟨rfl, rfl, ⟨rfl, rfl, rfl, rfl, rfl, rfl, rfl, rfl, rfl, rfl, rfl, rfl, trivial⟩⟩ HA.out.1 HA.out.2

set_option maxHeartbeats 4000000 in
theorem ap_q30 (hx0 : x 0 = .int .u8 wd) (hx1 : x 1 = .slice ao M cl) (hx2 : x 2 = .slice bo K co) (hx7 : x 7 = .pointer (some ⟨pA, 0, none⟩)) (hx9 : x 9 = .slice (some ⟨ba, 0, none⟩) M ca) (hx10 : x 10 = .slice (some ⟨bv, 0, none⟩) M cv) (hx11 : x 11 = .slice (some ⟨bl, 0, none⟩) M M) (hx12 : x 12 = .slice (some ⟨bn, 0, none⟩) wd cn) (hx13 : x 13 = .bool true) (hx17 : x 17 = .int .i64 i) (hx18 : x 18 = .int .i64 kk) (hx25 : x 25 = .slice (some ⟨bz, 0, none⟩) wd wd) {ws : List Int} (hz : ∀ j, j < wd → wt.cell? ⟨bz, j, none⟩ = some (.int .u64 (ws.getD j 0))) (hm : ∀ j, j < wd → wt.cell? ⟨bn, j, none⟩ = some (.int .u64 (ws.getD j 0))) (hw2 : wd ≤ 1000) (hQ : ∀ a' w', FrY [(0, .int .u8 wd), (1, .slice ao M cl), (2, .slice bo K co), (7, .pointer (some ⟨pA, 0, none⟩)), (9, .slice (some ⟨ba, 0, none⟩) M ca), (10, .slice (some ⟨bv, 0, none⟩) M cv), (11, .slice (some ⟨bl, 0, none⟩) M M), (12, .slice (some ⟨bn, 0, none⟩) wd cn), (13, .bool true), (17, .int .i64 i)] a' → Kp [] wt w' → Q .normal a' w') : (apQ30 Try.f3).wp Try.prog Q ⟨T287 x, []⟩ wt := by
  have HQ := Lib.hid hQ
  have HZ := Lib.hid hz
  have HM := Lib.hid hm
  have HW := Lib.hid (fun (j : Nat) (hj : j < wd) => wrap_small (i := j) (by omega))
  clear hQ hz hm hw2
  simp only [apQ30, apB2, apX2, apS2, apR10, bodyOf, Try.f3, codeL, codeR, blockOf, loopOf, Option.getD_some, T287]
  simp only [hx0, hx1, hx2, hx7, hx9, hx10, hx11, hx12, hx13, hx17, hx18, hx25]
  go_wp2_with fail
  go_loopg [13, 26] wd (fun g v13 v26 wr => ∃ j : Nat, j + g = wd ∧ v26 = .int .i64 j ∧ v13 = .bool true ∧ Hid (Kp [] wt wr))
  case atStart => exact ⟨0, by omega, rfl, rfl, Lib.hid (Kp.refl _ _)⟩
  case round =>
    obtain ⟨j, hj, rfl, rfl, HR⟩ := hrel
    by_cases hlt : j < wd
    · obtain ⟨u, hu⟩ : ∃ u, ws.getD j 0 = u := ⟨_, rfl⟩
      have z0 := HZ.out j hlt
      have m0 := HM.out j hlt
      rw [hu] at z0 m0
      have z1 := (World.cell?_of_block (HR.out.block _ (World.block_lt_of_cell? _ _ z0) List.not_mem_nil)).trans z0
      have m1 := (World.cell?_of_block (HR.out.block _ (World.block_lt_of_cell? _ _ m0) List.not_mem_nil)).trans m0
      have euu : (u == u) = true := by simp
      have hwj := HW.out j hlt
      clear hu z0 m0
      go_upto_region 33 with (fail)
      go_quiet (fail)
      go_wp2_with fail
      go_roundg (wd - (j + 1))
      exact ⟨j + 1, by omega, rfl, rfl, Lib.hid (HR.out.trans (kp_drewN _ _))⟩
      omega
    · obtain rfl : j = wd := by omega
      go_wp2_with fail
      exact HQ.out _ _ ⟨rfl, rfl, ⟨rfl, rfl, rfl, rfl, rfl, rfl, rfl, rfl, rfl, rfl, trivial⟩⟩ HR.out
end
end Go.Proofs.Ytnbibpmhmffmpaa

namespace Go.Proofs.Ytnbibpmhmffmpaa
set_option linter.unusedVariables false
set_option linter.unusedSimpArgs false
set_option maxRecDepth 100000
open Go.RowKit
open Go.Conc
open Go.ConcN (upd_ne upd_same)

theorem wrap_u64_bnd (z : Int) : 0 ≤ IntKind.wrap .u64 z ∧ IntKind.wrap .u64 z < 18446744073709551616 := by
  simp [IntKind.wrap, IntKind.min, IntKind.max, IntKind.signed, IntKind.bits]
  omega
theorem setF_self (j : Nat) (g : Nat → Int) : setF j (g j) g = g := by
  funext i
  unfold setF
  split
  · rename_i h; rw [h]
  · rfl
theorem setF_at (j : Nat) (v : Int) (g : Nat → Int) : setF j v g j = v := by simp [setF]
theorem setF_ne {j i : Nat} (v : Int) (g : Nat → Int) (h : i ≠ j) : setF j v g i = g i := by simp [setF, h]

theorem pcells_len (L : List Pr) (dn : Nat → Nat) (la : Nat → Int) (k : Nat) : (pcells L dn la k).length = 3 * k := by
  induction k with
  | zero => rfl
  | succ k ih => rw [pcells_succ]; simp [ih]; omega
theorem pcells_get (L : List Pr) (dn : Nat → Nat) (la : Nat → Int) {k j : Nat} (hj : j < k) (r : Nat) (hr : r < 3) : (pcells L dn la k)[j * 3 + r]? = ([(L.getD j dftP).v, .int .i64 (dn j), .int .u64 (la j)] : List Value)[r]? := by
  induction k with
  | zero => omega
  | succ k ih =>
    rw [pcells_succ]
    have hl := pcells_len L dn la k
    by_cases e : j = k
    · subst e
      rw [List.getElem?_append_right (by omega), hl]
      congr 1
      omega
    · rw [List.getElem?_append_left (by omega)]
      exact ih (by omega)
theorem pcells_set (L : List Pr) {dn dn' : Nat → Nat} {la la' : Nat → Int} {k j : Nat} (hj : j < k) (h : ∀ i, i ≠ j → dn i = dn' i ∧ la i = la' i) : (((pcells L dn la k).set (j * 3) (L.getD j dftP).v).set (j * 3 + 1) (.int .i64 (dn' j))).set (j * 3 + 2) (.int .u64 (la' j)) = pcells L dn' la' k := by
  apply List.ext_getElem?
  intro q
  rcases Nat.lt_or_ge q (3 * k) with hq | hq
  · obtain ⟨i, r, hr, hi, rfl⟩ : ∃ i r, r < 3 ∧ i < k ∧ q = i * 3 + r := ⟨q / 3, q % 3, Nat.mod_lt _ (by decide), by omega, by omega⟩
    rw [pcells_get L dn' la' hi r hr]
    by_cases e : i = j
    · subst e
      have hl := pcells_len L dn la k
      rcases (by omega : r = 0 ∨ r = 1 ∨ r = 2) with rfl | rfl | rfl
      · rw [List.getElem?_set_ne (by omega), List.getElem?_set_ne (by omega), Nat.add_zero, List.getElem?_set_self (by omega)]; rfl
      · rw [List.getElem?_set_ne (by omega), List.getElem?_set_self (by simp; omega)]; rfl
      · rw [List.getElem?_set_self (by simp; omega)]; rfl
    · rw [List.getElem?_set_ne (by omega), List.getElem?_set_ne (by omega), List.getElem?_set_ne (by omega), pcells_get L dn la hi r hr, (h i e).1, (h i e).2]
  · have h1 := pcells_len L dn la k
    have h2 := pcells_len L dn' la' k
    rw [List.getElem?_eq_none (by simp; omega), List.getElem?_eq_none (by omega)]
theorem rw_set {T : TypeId} {sz base b n c i : Nat} {xs : List Value} {w : World} {v : Value} (h : Rw T sz base w (.slice (some ⟨b, 0, none⟩) n c) n xs) (hi : i < n * sz) : Rw T sz base (w.setCell ⟨b, i, none⟩ v) (.slice (some ⟨b, 0, none⟩) n c) n (xs.set i v) := by
  refine ⟨by rw [List.length_set]; exact h.own.1, .inr ?_⟩
  rcases h.own.2 with ⟨h0, _⟩ | ⟨b', c', cur, he, hge, hb, h1, h2, h3, h4⟩
  · cases h0
  · cases he
    refine ⟨b, c, cur.setIfInBounds i v, rfl, hge, ?_, h1, h2, by simpa using h3, ?_⟩
    · rw [heap_setCell_same _ _ _ _ _ _ hb]
    · rw [← h4]
      simp only [Array.toList_setIfInBounds]
      rw [List.take_set]
theorem rw_free {T : TypeId} {sz base b n c : Nat} {xs : List Value} {w : World} (h : Rw T sz base w (.slice (some ⟨b, 0, none⟩) n c) n xs) (j : Nat) : w.frozen? ⟨b, j, none⟩ = false := by
  rcases h.own.2 with ⟨h0, _⟩ | ⟨b', c', cur, he, hge, hb, h1, h2, h3, h4⟩
  · cases h0
  · cases he; exact free_of_row hb j
theorem Touches.cells {w w' : World} {ao : Option Addr} {l : List Tch} (hc : ∀ ad, w'.cell? ad = w.cell? ad) (h : Touches w ao l) : Touches w' ao l := fun i x hx => by
  obtain ⟨h1, b, o, h2, h3, h4, h5⟩ := h i x hx
  exact ⟨h1, b, o, h2, (hc _).trans h3, (hc _).trans h4, (hc _).trans h5⟩

section
variable {Post : Value → World → Prop} {W : World} {pA rA bl bm cm M wd k N : Nat} {L : List Pr} {ag : Nat → Ag} {dn dw : Nat → Nat} {lw : Nat → Int} {mws : List Int} {va vw : Value} {pl : Nat → Option Place} {F : Nat → Option (Nat × Nat)} {col : Nat → Col} {w w' : World} {g : Nat → Int} {s : St}

/-- A step of an agent that is not over. -/
theorem ap_step {i : Nat} (C : Crew Post (lastSh W bl M) (apSB W bl) pA rA (memV pA) 1 M ag (fun j => ptree (fun g => g j) (setF j) ((lsP L j).drop (dn j)) (g j)) pl F col w g) (hi : i < M) {x : Tch} (hx : (lsP L i)[dn i]? = some x) (har : Ar w pA rA s) (hlen : s.ws.length ≤ 4096) (ht : s.t ≤ 4095) (hbn : Bnd s) {c₀ : Frame} {cs : List Frame}
    (H : ∀ pl' F' col' w' s', Crew Post (lastSh W bl M) (apSB W bl) pA rA (memV pA) 1 M ag (fun j => ptree (fun g => g j) (setF j) ((lsP L j).drop (if j = i then dn j + 1 else dn j)) ((setF i (stepL x (g i) s.ws) g) j)) pl' F' col' w' (setF i (stepL x (g i) s.ws) g) → Ar w' pA rA s' → s'.ws = stepW x (g i) s.ws → s'.t = (if 0 ≤ x.2.1 ∧ x.2.1 < s.ws.length then s.t + 1 else s.t) → Ks (stepped (ag i) col) w w' → Same F col w F' col' → Win Try.prog Post pl' N 0 (gor (c₀.finish (.int .i64 0)) cs) w') :
    Win Try.prog Post pl N 0 (gor (Frame.enter Try.prog 15 #[.pointer (some ⟨(ag i).p, 0, none⟩)] .normal) (c₀ :: cs)) w := by
  have hd : (lsP L i).drop (dn i) = x :: (lsP L i).drop (dn i + 1) := by
    obtain ⟨h1, h2⟩ := List.getElem?_eq_some_iff.1 hx
    rw [List.drop_eq_getElem_cons h1, h2]
  obtain ⟨d, k, v⟩ := x
  obtain ⟨u, hu⟩ : ∃ u, u = Go.Proofs.Ytnbibpmhmffmpaa.was s k := ⟨_, rfl⟩
  have key : ∀ (y : Int) (φ : Int → Int) (c : Int → (Nat → Int) → Nat → Int) (nx : Int → (Nat → Int) → Tree (Nat → Int)) (hl : (Nat → Int) → Nat → Int), ptree (fun g => g i) (setF i) ((lsP L i).drop (dn i)) (g i) = .node k φ c nx hl → φ u = y → c u g = setF i (stepL (d, k, v) (g i) s.ws) g → nx u g = ptree (fun g => g i) (setF i) ((lsP L i).drop (dn i + 1)) (stepL (d, k, v) (g i) s.ws) → (Go.Proofs.Ytnbibpmhmffmpaa.upd s k y).ws = stepW (d, k, v) (g i) s.ws →
      Win Try.prog Post pl N 0 (gor (Frame.enter Try.prog 15 #[.pointer (some ⟨(ag i).p, 0, none⟩)] .normal) (c₀ :: cs)) w := by
    intro y φ c nx hl hT hφ hc hn hw
    refine C.steps (priv_last W bl M) hi hT har hlen ht hbn fun pl' F' col' w' C' har' ks sm => ?_
    rw [← hu, hφ] at har'
    rw [← hu, hc] at C'
    have e : (fun j => if j = i then nx u g else ptree (fun g => g j) (setF j) ((lsP L j).drop (dn j)) (g j)) = fun j => ptree (fun g => g j) (setF j) ((lsP L j).drop (if j = i then dn j + 1 else dn j)) ((setF i (stepL (d, k, v) (g i) s.ws) g) j) := by
      funext j
      by_cases e : j = i
      · subst e; simp only [if_true]; rw [hn, setF_at]
      · simp only [if_neg e]; rw [setF_ne _ _ e]
    rw [e] at C'
    refine H pl' F' col' w' _ C' har' hw ?_ ks sm
    by_cases hin : 0 ≤ k ∧ k < s.ws.length
    · rw [if_pos hin, upd_in (inB_iff.2 hin)]
    · rw [if_neg hin]
      have hno : inB s k = false := by
        cases h : inB s k with
        | false => rfl
        | true => exact absurd (inB_iff.1 h) hin
      rw [upd_out hno]
  have hwas : u = if 0 ≤ k ∧ k < s.ws.length then s.ws.getD k.toNat 0 else 0 := by
    rw [hu]
    by_cases hin : 0 ≤ k ∧ k < s.ws.length
    · rw [if_pos hin, was_in (inB_iff.2 hin)]
    · rw [if_neg hin]
      have hno : inB s k = false := by
        cases h : inB s k with
        | false => rfl
        | true => exact absurd (inB_iff.1 h) hin
      exact was_out hno
  have hupd : ∀ y, (Go.Proofs.Ytnbibpmhmffmpaa.upd s k y).ws = if 0 ≤ k ∧ k < s.ws.length then s.ws.set k.toNat y else s.ws := fun y => by
    by_cases hin : 0 ≤ k ∧ k < s.ws.length
    · rw [if_pos hin, upd_in (inB_iff.2 hin)]
    · rw [if_neg hin]
      have hno : inB s k = false := by
        cases h : inB s k with
        | false => rfl
        | true => exact absurd (inB_iff.1 h) hin
      rw [upd_out hno]
  by_cases h0 : d = 0
  · subst h0
    have eL : stepL (0, k, v) (g i) s.ws = u := by simp only [stepL]; rw [if_neg (by decide), hwas]
    refine key u (fun z => z) (fun u g => setF i u g) (fun u _ => ptree (fun g => g i) (setF i) ((lsP L i).drop (dn i + 1)) u) (fun g => g) (by rw [hd]; simp [ptree]) rfl (by rw [eL]) (by rw [eL]) ?_
    rw [hupd]
    simp only [stepW, if_true]
    split
    · rename_i hin
      rw [hwas, if_pos hin]
      apply List.ext_getElem?
      intro q
      by_cases e : k.toNat = q
      · subst e
        rw [List.getElem?_set_self (by omega)]
        simp [List.getD, show k.toNat < s.ws.length by omega]
      · rw [List.getElem?_set_ne e]
    · rfl
  · by_cases h1 : d = 1
    · subst h1
      have eL : stepL (1, k, v) (g i) s.ws = g i := by simp only [stepL, if_true]
      refine key (IntKind.wrap .u64 (g i + v)) (fun _ => IntKind.wrap .u64 (g i + v)) (fun _ g => g) (fun _ g => ptree (fun g => g i) (setF i) ((lsP L i).drop (dn i + 1)) (g i)) (fun g => g) (by rw [hd]; simp [ptree]) rfl (by rw [eL, setF_self]) (by rw [eL]) ?_
      rw [hupd]
      simp only [stepW, if_true, if_neg h0]
    · have eL : stepL (d, k, v) (g i) s.ws = u := by simp only [stepL]; rw [if_neg h1, hwas]
      refine key (IntKind.wrap .u64 (u + v)) (fun z => IntKind.wrap .u64 (z + v)) (fun u g => setF i u g) (fun u _ => ptree (fun g => g i) (setF i) ((lsP L i).drop (dn i + 1)) u) (fun g => g) (by rw [hd]; simp [ptree, h0, h1]) rfl (by rw [eL]) (by rw [eL]) ?_
      rw [hupd]
      simp only [stepW, if_neg h0, if_neg h1]
      split
      · rename_i hin; rw [hwas, if_pos hin]
      · rfl

/-- WHAT STANDS BETWEEN TURNS. -/
structure ApT (Post : Value → World → Prop) (W : World) (pA rA bl bm cm M wd : Nat) (L : List Pr) (ag : Nat → Ag) (dn dw : Nat → Nat) (lw : Nat → Int) (mws : List Int) (va vw : Value) (pl : Nat → Option Place) (F : Nat → Option (Nat × Nat)) (col : Nat → Col) (w : World) (g : Nat → Int) (s : St) : Prop where
  crew : Crew Post (lastSh W bl M) (apSB W bl) pA rA (memV pA) 1 M ag (fun j => ptree (fun g => g j) (setF j) ((lsP L j).drop (dn j)) (g j)) pl F col w g
  ar : Ar w pA rA s
  rm : Rm w bm cm mws
  rmc : col bm = .main
  all : Rw 33 1 W.heap.size w va M (ptrsY ag M)
  allc : ∀ b ∈ blk va, col b = .main
  ws : Rw 42 3 W.heap.size w vw M (pcells L dw lw M)
  wsc : ∀ b ∈ blk vw, col b = .main
  dis : ∀ b ∈ blk va, b ∉ blk vw
  ma : bm ∉ blk va
  mw : bm ∉ blk vw
  old : ∀ b, b < W.heap.size → col b = .main ∨ (col b = .shared ∧ poorless W b)
  ks : Ks (poorless W) W w
  len : s.ws.length = wd
  bnd : Bnd s
  dle : ∀ j, dn j ≤ (lsP L j).length

theorem ApT.made (A : ApT Post W pA rA bl bm cm M wd L ag dn dw lw mws va vw pl F col w g s) (D : Desk (apSB W bl) pA rA pl F col w') (ks : Ks (fun _ => False) w w') : ApT Post W pA rA bl bm cm M wd L ag dn dw lw mws va vw pl F col w' g s :=
  { A with
    crew := A.crew.keep D ks (fun _ _ z => z.elim) ((priv_last W bl M _).st _ _ A.crew.sh fun b hb => ks.block b ((priv_last W bl M _).lt _ _ A.crew.sh hb) fun z => z)
    ar := ⟨ks.row (fun z => z) A.ar.hp, ks.row (fun z => z) A.ar.hr⟩
    rm := (priv_rm _ _ _).st _ _ A.rm fun b hb => ks.block b ((priv_rm _ _ _).lt _ _ A.rm hb) fun z => z
    all := (priv_rwY _ _ _ _ _ _).st _ _ A.all fun b hb => ks.block b ((priv_rwY _ _ _ _ _ _).lt _ _ A.all hb) fun z => z
    ws := (priv_rwY _ _ _ _ _ _).st _ _ A.ws fun b hb => ks.block b ((priv_rwY _ _ _ _ _ _).lt _ _ A.ws hb) fun z => z
    ks := A.ks.then ks fun _ _ z => z.elim }
/-- Whether an agent is over. -/
theorem ApT.over (A : ApT Post W pA rA bl bm cm M wd L ag dn dw lw mws va vw pl F col w g s) {i : Nat} (hi : i < M) : w.cell? ⟨(ag i).p, 6, none⟩ = some (.bool (decide ((lsP L i).length ≤ dn i))) := by
  have hst := A.crew.st i hi
  rcases Nat.lt_or_ge (dn i) (lsP L i).length with z | z
  · have hd : decide ((lsP L i).length ≤ dn i) = false := by simp; omega
    rw [hd]
    have hc : (lsP L i).drop (dn i) = (lsP L i)[dn i] :: (lsP L i).drop (dn i + 1) := List.drop_eq_getElem_cons z
    have hno : ∀ (T : Tree (Nat → Int)), (∃ kk φ c nx hl, T = .node kk φ c nx hl) → Stands Post (lastSh W bl M) (apSB W bl) pA rA (ag i) (memV pA) T pl F col w → w.cell? ⟨(ag i).p, 6, none⟩ = some (.bool false) := by
      rintro T ⟨kk, φ, c, nx, hl, rfl⟩ ⟨t, h1, _⟩
      exact cell_of_row h1 6
    refine hno _ ?_ hst
    rw [hc]
    obtain ⟨d, k, v⟩ := (lsP L i)[dn i]
    simp only [ptree]
    split
    · exact ⟨_, _, _, _, _, rfl⟩
    · split
      · exact ⟨_, _, _, _, _, rfl⟩
      · exact ⟨_, _, _, _, _, rfl⟩
  · have hd : decide ((lsP L i).length ≤ dn i) = true := by simp; omega
    rw [hd]
    have hc : (lsP L i).drop (dn i) = [] := List.drop_eq_nil_iff.2 z
    simp only [hc] at hst
    exact cell_of_row hst.2 6
theorem main_notY {b : Nat} {a : Ag} (h : col b = .main) : ¬ stepped a col b := fun z => by
  unfold stepped at z
  rw [h] at z
  rcases z with z | z | z | z <;> cases z
/-- One has stepped. -/
theorem ApT.stepped {i : Nat} (A : ApT Post W pA rA bl bm cm M wd L ag dn dw lw mws va vw pl F col w g s) (hi : i < M) {x : Tch} (hx : (lsP L i)[dn i]? = some x) {pl' : Nat → Option Place} {F' : Nat → Option (Nat × Nat)} {col' : Nat → Col} {s' : St}
    (C : Crew Post (lastSh W bl M) (apSB W bl) pA rA (memV pA) 1 M ag (fun j => ptree (fun g => g j) (setF j) ((lsP L j).drop (if j = i then dn j + 1 else dn j)) ((setF i (stepL x (g i) s.ws) g) j)) pl' F' col' w' (setF i (stepL x (g i) s.ws) g)) (ar : Ar w' pA rA s') (hs : s'.ws = stepW x (g i) s.ws) (ks : Ks (stepped (ag i) col) w w') (sm : Same F col w F' col') :
    ApT Post W pA rA bl bm cm M wd L ag (fun j => if j = i then dn j + 1 else dn j) dw lw mws va vw pl' F' col' w' (setF i (stepL x (g i) s.ws) g) s' := by
  have hnm : ∀ b, col b = .main → ¬ Go.Proofs.Ytnbibpmhmffmpaa.stepped (ag i) col b := fun b h => main_notY h
  have hcM : ∀ b, col b = .main → b < w.heap.size → col' b = .main := fun b hb hlt => (sm.co b hlt).trans hb
  have hzW := A.ks.size
  have lva : ∀ b ∈ blk va, b < w.heap.size := fun b hb => (priv_rwY _ _ _ _ _ _).lt _ _ A.all hb
  have lvw : ∀ b ∈ blk vw, b < w.heap.size := fun b hb => (priv_rwY _ _ _ _ _ _).lt _ _ A.ws hb
  refine ⟨C, ar, (priv_rm _ _ _).st _ _ A.rm fun b hb => ?_, hcM _ A.rmc A.rm.lt, (priv_rwY _ _ _ _ _ _).st _ _ A.all fun b hb => ks.block b (lva b hb) (hnm b (A.allc b hb)), fun b hb => hcM b (A.allc b hb) (lva b hb), (priv_rwY _ _ _ _ _ _).st _ _ A.ws fun b hb => ks.block b (lvw b hb) (hnm b (A.wsc b hb)), fun b hb => hcM b (A.wsc b hb) (lvw b hb), A.dis, A.ma, A.mw, fun b hb => ?_, A.ks.then ks fun b hb z => ?_, ?_, fun z hz => ?_, fun j => ?_⟩
  · have hb' : b = bm := hb
    rw [hb']; exact ks.block bm A.rm.lt (hnm _ A.rmc)
  · rcases A.old b hb with h | ⟨h, h2⟩
    · exact .inl ((sm.co b (by omega)).trans h)
    · exact .inr ⟨(sm.co b (by omega)).trans h, h2⟩
  · rcases A.old b hb with h | ⟨h, h2⟩
    · exact absurd z (hnm b h)
    · exact h2
  · rw [hs]
    have : (stepW x (g i) s.ws).length = s.ws.length := by
      unfold stepW; split
      · split
        · rfl
        · rw [List.length_set]
      · rfl
    rw [this]; exact A.len
  · rw [hs] at hz
    unfold stepW at hz
    split at hz
    · split at hz
      · exact A.bnd z hz
      · rcases List.mem_or_eq_of_mem_set hz with h | h
        · exact A.bnd z h
        · rw [h]; exact wrap_u64_bnd _
    · exact A.bnd z hz
  · by_cases e : j = i
    · subst e
      simp only [if_true]
      have := (List.getElem?_eq_some_iff.1 hx).1
      omega
    · simp only [if_neg e]; exact A.dle j

/-- Who steps looks at cells and at the arena, and turns nothing. -/
theorem desk_allY {SB : Nat → Prop} (D : Desk SB pA rA pl F col w) (har : Ar w pA rA s) {K' : List (Nat × Value)} {b : Frame} {x : Nat → Value} {k : List Item} {cs : List Frame} {c : Code}
    (hok : StOK Try.prog (b.at ⟨T287 x, []⟩ (.code c :: k)) [])
    (hc : ∀ (wt : World) (Q : Exit → Act → World → Prop), Ar wt pA rA s → (∀ ad, wt.cell? ad = w.cell? ad) → (∀ a' w', FrY K' a' → Kp [] wt w' → Q .normal a' w') → c.wp Try.prog Q ⟨T287 x, []⟩ wt)
    (H : ∀ (x' : Nat → Value) w', HasY x' K' → Ks (fun _ => False) w w' → Desk SB pA rA pl F col w' → Win Try.prog Post pl N 0 (gor (b.at ⟨T287 x', []⟩ k) cs) w') :
    Win Try.prog Post pl N 0 (gor (b.at ⟨T287 x, []⟩ (.code c :: k)) cs) w :=
  D.pieceY (own := fun b => b = pA ∨ b = rA) (S := fun _ => False) (A := fun w => Ar w pA rA s) (priv_arY pA rA s) har (fun b hb => hb.elim (fun e => by rw [e, D.lay.ar.1]; rfl) (fun e => by rw [e, D.lay.ar.2]; rfl)) (ι := Unit) (own' := fun _ _ => False) (A' := fun _ _ => True) (fun _ => Priv.const True) (K' := fun _ => K') hok (fun wt Q h1 _ h3 hQ => hc wt Q h1 h3 fun a' w' hf hk => hQ a' () w' (fun y hy => hy.elim) hf trivial ((ks_of_kp hk).mono fun _ _ z => by simp at z)) fun x' _ w' _ hx _ hk D => H x' w' hx hk D
end
end Go.Proofs.Ytnbibpmhmffmpaa

namespace Go.Proofs.Ytnbibpmhmffmpaa
set_option linter.unusedVariables false
set_option linter.unusedSimpArgs false
set_option maxRecDepth 100000
open Go.RowKit
open Go.Conc
open Go.ConcN (upd_ne upd_same)

theorem size_agentY : Try.t33.size = 1 := rfl
section
variable {W : World} {ρ : Operand → Value} {o : Oper}
theorem op_index_agY (ba i n cp : Nat) {x y : Nat} (hi : i < n) (ho : o.op = .indexAddr 30 (.tmp x) (.tmp y)) (hρ : ρ (.tmp x) = .slice (some ⟨ba, 0, none⟩) n cp) (hρ' : ρ (.tmp y) = .int .i64 i) :
    (execOp ρ o).runT Try.prog W #[] = (.ok (.value (.pointer (some ⟨ba, i, none⟩))) W, #[]) := by
  have s48 := size_agentY
  rw [Sem.runT_eq]
  simp [go_sem, execOp, ho, hρ, hρ', hi]
  try (first | done | (simp [Addr.add, s48]; done) | (simp [Addr.add, s48]; omega) | rfl)
end
section
variable {Post : Value → World → Prop} {W : World} {pA rA bl bm cm M wd N : Nat} {L : List Pr} {ag : Nat → Ag} {dn dw : Nat → Nat} {lw : Nat → Int} {mws : List Int} {va vw : Value} {pl : Nat → Option Place} {F : Nat → Option (Nat × Nat)} {col : Nat → Col} {w w' : World} {g : Nat → Int} {s : St}

/-- The row of what is to be done was written. -/
theorem ApT.wrote {dw' : Nat → Nat} {lw' : Nat → Int} (A : ApT Post W pA rA bl bm cm M wd L ag dn dw lw mws va vw pl F col w g s) (D : Desk (apSB W bl) pA rA pl F col w') (ks : Ks (fun b => b ∈ blk vw) w w') (hw : Rw 42 3 W.heap.size w' vw M (pcells L dw' lw' M)) : ApT Post W pA rA bl bm cm M wd L ag dn dw' lw' mws va vw pl F col w' g s := by
  have nsh : ∀ y, apSB W bl y → y ∉ blk vw := fun y hy z => by
    have h1 := A.wsc y z
    rw [A.crew.desk.lay.sb y hy] at h1; cases h1
  have har : ∀ y, col y = .arena → y ∉ blk vw := fun y hy z => by rw [A.wsc y z] at hy; cases hy
  exact { A with
    crew := A.crew.keep D ks (fun y _ hy => .inl (A.wsc y hy)) ((priv_last W bl M _).st _ _ A.crew.sh fun b hb => ks.block b ((priv_last W bl M _).lt _ _ A.crew.sh hb) (nsh b hb))
    ar := ⟨ks.row (har _ A.crew.desk.lay.ar.1) A.ar.hp, ks.row (har _ A.crew.desk.lay.ar.2) A.ar.hr⟩
    rm := (priv_rm _ _ _).st _ _ A.rm fun b hb => by
      have hb' : b = bm := hb
      rw [hb']; exact ks.block bm A.rm.lt A.mw
    all := (priv_rwY _ _ _ _ _ _).st _ _ A.all fun b hb => ks.block b ((priv_rwY _ _ _ _ _ _).lt _ _ A.all hb) (A.dis b hb)
    ws := hw
    ks := A.ks.then ks fun y hy z => by have := (A.ws.block y z).1; omega }
/-- The words of the document's step are the words now. -/
theorem ApT.mem {bn cn : Nat} {nws : List Int} (A : ApT Post W pA rA bl bm cm M wd L ag dn dw lw mws va vw pl F col w g s) (h : Rm w bn cn nws) (hc : col bn = .main) (h1 : bn ∉ blk va) (h2 : bn ∉ blk vw) : ApT Post W pA rA bl bn cn M wd L ag dn dw lw nws va vw pl F col w g s :=
  { A with rm := h, rmc := hc, ma := h1, mw := h2 }
theorem ApT.row {i : Nat} (A : ApT Post W pA rA bl bm cm M wd L ag dn dw lw mws va vw pl F col w g s) {bv cv : Nat} (hv : vw = .slice (some ⟨bv, 0, none⟩) M cv) (hi : i < M) (r : Nat) (hr : r < 3) : w.cell? ⟨bv, i * 3 + r, none⟩ = ([(L.getD i dftP).v, .int .i64 (dw i), .int .u64 (lw i)] : List Value)[r]? := by
  obtain ⟨b', c', h1, _, h2⟩ := A.ws.at (by omega) (by decide)
  rw [hv] at h1
  cases h1
  rw [h2 (i * 3 + r) (by omega), pcells_get L dw lw hi r hr]
theorem ApT.agent {i : Nat} (A : ApT Post W pA rA bl bm cm M wd L ag dn dw lw mws va vw pl F col w g s) {ba ca : Nat} (hv : va = .slice (some ⟨ba, 0, none⟩) M ca) (hi : i < M) : w.cell? ⟨ba, i, none⟩ = some (.pointer (some ⟨(ag i).p, 0, none⟩)) := by
  obtain ⟨b', c', h1, _, h2⟩ := A.all.at (by omega) (by decide)
  rw [hv] at h1
  cases h1
  rw [h2 i (by omega)]; simp [ptrsY, hi]

set_option maxHeartbeats 8000000 in
/-- Behind a step. -/
theorem ap_after {args : Array Value} {x : Nat → Value} {ao bo : Option Addr} {cl K co ba ca bv cv bp bn cn i kk : Nat} {is th : Bool} {t f : Int} {p : Pr} (A : ApT Post W pA rA bl bm cm M wd L ag dn dw lw mws (.slice (some ⟨ba, 0, none⟩) M ca) (.slice (some ⟨bv, 0, none⟩) M cv) pl F col w g s) (hx : HasY x [(0, .int .u8 wd), (1, .slice ao M cl), (2, .slice bo K co), (7, .pointer (some ⟨pA, 0, none⟩)), (9, .slice (some ⟨ba, 0, none⟩) M ca), (10, .slice (some ⟨bv, 0, none⟩) M cv), (11, .slice (some ⟨bl, 0, none⟩) M M), (12, .slice (some ⟨bm, 0, none⟩) wd cm), (13, .bool true), (17, .int .i64 i), (18, .int .i64 kk), (19, .pointer (some ⟨bp, 0, none⟩)), (20, .slice (some ⟨bn, 0, none⟩) wd cn), (21, .bool is), (22, .int .u64 t), (23, .int .i64 f)]) (hkM : kk < M) (hi : i < K) (hK : K ≤ 150) (hM5 : M ≤ 5) (hw1 : 1 ≤ wd) (h20 : wd ≤ 20)
    (hp : L.getD kk dftP = p) (hT : Touches W p.ao p.l) (hP : w.heap[bp]? = some (.cells #[p.v, .int .i64 (dn kk), .int .u64 (g kk)] 42 (0, 0))) (cbp : col bp = .main) (hbn : Rm w bn cn s.ws) (cbn : col bn = .main) (n1 : bp ≠ bv) (n2 : bn ≠ ba) (n3 : bn ≠ bv)
    (hlike : ∀ j, j ≠ kk → dn j = dw j ∧ g j = lw j) (hq25 : (is = false ∧ th = false) ∨ (is = true ∧ ∃ tc, p.l[dw kk]? = some tc ∧ th = decide (0 ≤ tc.2.1 ∧ tc.2.1 < wd))) (hq28 : is = false → th = false ∧ p.l.length ≤ dn kk) (hf : f = if is then 0 else 6) (ht : (s.t : Int) = if th then t + 1 else t) (ht0 : 0 ≤ t ∧ t ≤ 4000)
    (H : ∀ w' (x' : Nat → Value), ApT Post W pA rA bl bn cn M wd L ag dn dn g s.ws (.slice (some ⟨ba, 0, none⟩) M ca) (.slice (some ⟨bv, 0, none⟩) M cv) pl F col w' g s → HasY x' [(0, .int .u8 wd), (1, .slice ao M cl), (2, .slice bo K co), (7, .pointer (some ⟨pA, 0, none⟩)), (9, .slice (some ⟨ba, 0, none⟩) M ca), (10, .slice (some ⟨bv, 0, none⟩) M cv), (11, .slice (some ⟨bl, 0, none⟩) M M), (12, .slice (some ⟨bn, 0, none⟩) wd cn), (13, .bool true), (17, .int .i64 ((i + 1 : Nat) : Int))] →
      Win Try.prog Post pl N 0 (gor ((Frame.enter Try.prog 3 args .normal).at ⟨T287 x', []⟩ (apK2 Try.f3)) []) w') :
    Win Try.prog Post pl N 0 (gor ((Frame.enter Try.prog 3 args .normal).at ⟨T287 x, []⟩ (.code (codeR (codeR (codeR (codeR (apB2 Try.f3))))) :: .inBlock 3 :: .code (apQ20 Try.f3) :: apK2 Try.f3)) []) w := by
  have e25 : codeR (codeR (codeR (codeR (apB2 Try.f3)))) = .seq (apQ25 Try.f3) (codeR (codeR (codeR (codeR (codeR (apB2 Try.f3)))))) := by kernel_rfl
  have e26 : codeR (codeR (codeR (codeR (codeR (apB2 Try.f3))))) = .seq (apQ26 Try.f3) (codeR (codeR (codeR (codeR (codeR (codeR (apB2 Try.f3))))))) := by kernel_rfl
  have e27 : codeR (codeR (codeR (codeR (codeR (codeR (apB2 Try.f3)))))) = .seq (apQ27 Try.f3) (codeR (codeR (codeR (codeR (codeR (codeR (codeR (apB2 Try.f3)))))))) := by kernel_rfl
  have e28 : codeR (codeR (codeR (codeR (codeR (codeR (codeR (apB2 Try.f3))))))) = .seq (apQ28 Try.f3) (codeR (codeR (codeR (codeR (codeR (codeR (codeR (codeR (apB2 Try.f3))))))))) := by kernel_rfl
  have e29 : codeR (codeR (codeR (codeR (codeR (codeR (codeR (codeR (apB2 Try.f3)))))))) = .seq (apQ29 Try.f3) (apQ30 Try.f3) := by kernel_rfl
  have hlp : lsP L kk = p.l := by unfold lsP; rw [hp]
  have r0 := A.row rfl hkM 0 (by decide)
  have r1 := A.row rfl hkM 1 (by decide)
  rw [hp] at r0 r1
  have hPp := Priv.row bp #[p.v, .int .i64 (dn kk), .int .u64 (g kk)] 42 (0, 0)
  rw [e25]
  refine Win.seq ?_
  have hq : ∀ (H2 : ∀ (x' : Nat → Value) w', HasY x' [(0, .int .u8 wd), (1, .slice ao M cl), (2, .slice bo K co), (7, .pointer (some ⟨pA, 0, none⟩)), (9, .slice (some ⟨ba, 0, none⟩) M ca), (10, .slice (some ⟨bv, 0, none⟩) M cv), (11, .slice (some ⟨bl, 0, none⟩) M M), (12, .slice (some ⟨bm, 0, none⟩) wd cm), (13, .bool true), (17, .int .i64 i), (18, .int .i64 kk), (19, .pointer (some ⟨bp, 0, none⟩)), (20, .slice (some ⟨bn, 0, none⟩) wd cn), (21, .bool is), (22, .int .u64 t), (23, .int .i64 f), (24, .bool th)] → Ks (fun _ => False) w w' → Desk (apSB W bl) pA rA pl F col w' → Win Try.prog Post pl N 0 (gor ((Frame.enter Try.prog 3 args .normal).at ⟨T287 x', []⟩ (.code (codeR (codeR (codeR (codeR (codeR (apB2 Try.f3)))))) :: .inBlock 3 :: .code (apQ20 Try.f3) :: apK2 Try.f3)) []) w'), Win Try.prog Post pl N 0 (gor ((Frame.enter Try.prog 3 args .normal).at ⟨T287 x, []⟩ (.code (apQ25 Try.f3) :: .code (codeR (codeR (codeR (codeR (codeR (apB2 Try.f3)))))) :: .inBlock 3 :: .code (apQ20 Try.f3) :: apK2 Try.f3)) []) w := by
    intro H2
    rcases hq25 with ⟨e1, e2⟩ | ⟨e1, tc, htc, hth⟩
    · subst e1 e2
      subst hf
      obtain ⟨hx0, hx1, hx2, hx7, hx9, hx10, hx11, hx12, hx13, hx17, hx18, hx19, hx20, hx21, hx22, hx23, -⟩ := hx
      exact desk_allY A.crew.desk A.ar (stok_at rfl rfl (by simp) (by kernel_rfl)) (fun wt Q har hcell hQ => ap_q25_no hx0 hx1 hx2 hx7 hx9 hx10 hx11 hx12 hx13 hx17 hx18 hx19 hx20 hx21 hx22 hx23 hQ) H2
    · subst e1
      subst hf
      obtain ⟨hx0, hx1, hx2, hx7, hx9, hx10, hx11, hx12, hx13, hx17, hx18, hx19, hx20, hx21, hx22, hx23, -⟩ := hx
      obtain ⟨_, b, o, hao, _, c2, _⟩ := (hT.inw A.crew.sh.2) (dw kk) tc htc
      have hdN := (List.getElem?_eq_some_iff.1 htc).1
      have r0' : w.cell? ⟨bv, kk * 3, none⟩ = some (.slice (some ⟨b, o, none⟩) p.l.length p.cap) := by
        have := r0
        unfold Pr.v at this
        rw [hao] at this
        exact this
      rw [Nat.mul_comm 3 (dw kk)] at c2
      by_cases k0 : 0 ≤ tc.2.1
      · by_cases k1 : tc.2.1 < wd
        · have e2 : th = true := by rw [hth]; simp [k0, k1]
          subst e2
          exact desk_allY A.crew.desk A.ar (stok_at rfl rfl (by simp) (by kernel_rfl)) (fun wt Q har hcell hQ => ap_q25_in hx0 hx1 hx2 hx7 hx9 hx10 hx11 hx12 hx13 hx17 hx18 hx19 hx20 hx21 hx22 hx23 hkM ((hcell _).trans r0') ((hcell _).trans r1) hdN ((hcell _).trans c2) k0 k1 h20 hQ) H2
        · have e2 : th = false := by rw [hth]; simp [k1]
          subst e2
          exact desk_allY A.crew.desk A.ar (stok_at rfl rfl (by simp) (by kernel_rfl)) (fun wt Q har hcell hQ => ap_q25_big hx0 hx1 hx2 hx7 hx9 hx10 hx11 hx12 hx13 hx17 hx18 hx19 hx20 hx21 hx22 hx23 hkM ((hcell _).trans r0') ((hcell _).trans r1) hdN ((hcell _).trans c2) k0 k1 h20 hQ) H2
      · have e2 : th = false := by rw [hth]; simp [k0]
        subst e2
        exact desk_allY A.crew.desk A.ar (stok_at rfl rfl (by simp) (by kernel_rfl)) (fun wt Q har hcell hQ => ap_q25_neg hx0 hx1 hx2 hx7 hx9 hx10 hx11 hx12 hx13 hx17 hx18 hx19 hx20 hx21 hx22 hx23 hkM ((hcell _).trans r0') ((hcell _).trans r1) hdN ((hcell _).trans c2) k0 hQ) H2
  refine hq fun x1 w1 hx k1 D1 => ?_
  clear hq hq25 r0 r1
  have A1 := A.made D1 k1
  have hP1 := k1.row (fun z => z) hP
  have hbn1 : Rm w1 bn cn s.ws := (priv_rm _ _ _).st _ _ hbn fun b hb => k1.block b ((priv_rm _ _ _).lt _ _ hbn hb) fun z => z
  obtain ⟨hx0, hx1, hx2, hx7, hx9, hx10, hx11, hx12, hx13, hx17, hx18, hx19, hx20, hx21, hx22, hx23, hx24, -⟩ := hx
  rw [e26]
  refine Win.seq ?_
  refine A1.crew.desk.pieceY (own := fun b => b ∈ blk (.slice (some ⟨bv, 0, none⟩) M cv)) (S := fun b => b ∈ blk (.slice (some ⟨bv, 0, none⟩) M cv)) (A := fun w => Rw 42 3 W.heap.size w (.slice (some ⟨bv, 0, none⟩) M cv) M (pcells L dw lw M)) (priv_rwY _ _ _ _ _ _) A1.ws (fun b hb => by rw [A1.wsc b hb]; rfl) (ι := Unit) (own' := fun _ b => b ∈ blk (.slice (some ⟨bv, 0, none⟩) M cv)) (A' := fun _ w => Rw 42 3 W.heap.size w (.slice (some ⟨bv, 0, none⟩) M cv) M (pcells L dn g M)) (fun _ => priv_rwY _ _ _ _ _ _) (K' := fun _ => [(0, .int .u8 wd), (1, .slice ao M cl), (2, .slice bo K co), (7, .pointer (some ⟨pA, 0, none⟩)), (9, .slice (some ⟨ba, 0, none⟩) M ca), (10, .slice (some ⟨bv, 0, none⟩) M cv), (11, .slice (some ⟨bl, 0, none⟩) M M), (12, .slice (some ⟨bm, 0, none⟩) wd cm), (13, .bool true), (17, .int .i64 i), (18, .int .i64 kk), (19, .pointer (some ⟨bp, 0, none⟩)), (20, .slice (some ⟨bn, 0, none⟩) wd cn), (21, .bool is), (22, .int .u64 t), (23, .int .i64 f), (24, .bool th)]) (stok_at rfl rfl (by simp) (by kernel_rfl)) (fun wt Q h1 h2 h3 hQ => ?_) fun x2 _ w2 _ hx hw2 k2 D2 => ?_
  · obtain ⟨b', c', e1, _, hat⟩ := h1.at (by omega) (by decide)
    cases e1
    have g0 : wt.cell? ⟨bv, kk * 3, none⟩ = some p.v := by
      have := hat (kk * 3 + 0) (by omega)
      rw [pcells_get L dw lw hkM 0 (by decide), hp] at this
      exact this
    have g1 : wt.cell? ⟨bv, kk * 3 + 1, none⟩ = some (.int .i64 (dw kk)) := by
      have := hat (kk * 3 + 1) (by omega)
      rw [pcells_get L dw lw hkM 1 (by decide)] at this
      exact this
    have g2 : wt.cell? ⟨bv, kk * 3 + 2, none⟩ = some (.int .u64 (lw kk)) := by
      have := hat (kk * 3 + 2) (by omega)
      rw [pcells_get L dw lw hkM 2 (by decide)] at this
      exact this
    refine ap_q26 hx0 hx1 hx2 hx7 hx9 hx10 hx11 hx12 hx13 hx17 hx18 hx19 hx20 hx21 hx22 hx23 hx24 hkM g0 g1 g2 (rw_free h1) ((h3 _).trans ((cell_of_row hP1 0).trans rfl)) ((h3 _).trans ((cell_of_row hP1 1).trans rfl)) ((h3 _).trans ((cell_of_row hP1 2).trans rfl)) fun a' hf' => hQ a' () _ (fun y hy => .inl hy) hf' ?_ ?_
    · have h5 := rw_set (v := .int .u64 (g kk)) (i := kk * 3 + 2) (rw_set (v := .int .i64 (dn kk)) (i := kk * 3 + 1) (rw_set (v := p.v) (i := kk * 3) h1 (by omega)) (by omega)) (by omega)
      have e5 := pcells_set L (dn := dw) (dn' := dn) (la := lw) (la' := g) hkM (fun j hj => ⟨(hlike j hj).1.symm, (hlike j hj).2.symm⟩)
      rw [hp] at e5
      rw [e5] at h5
      exact h5
    · have hm : ∀ (u : World) (q : Nat) (v : Value), Ks (fun b => b ∈ blk (.slice (some ⟨bv, 0, none⟩) M cv)) u (u.setCell ⟨bv, q, none⟩ v) := fun u q v => (ks_setCell u ⟨bv, q, none⟩ v).mono fun b _ hb => by
        have hb' : b = bv := hb
        rw [hb', blk_some]; simp
      exact ((hm _ _ _).trans (hm _ _ _)).trans (hm _ _ _)
  have A2 := A1.wrote D2 k2 hw2
  have hbv : ∀ {y : Nat}, y ≠ bv → y ∉ blk (.slice (some ⟨bv, 0, none⟩) M cv) := fun h z => by
    rw [blk_some, List.mem_singleton] at z; exact h z
  have hba : ∀ {y : Nat}, y ≠ ba → y ∉ blk (.slice (some ⟨ba, 0, none⟩) M ca) := fun h z => by
    rw [blk_some, List.mem_singleton] at z; exact h z
  have hP2 := k2.row (hbv n1) hP1
  have hbn2 : Rm w2 bn cn s.ws := (priv_rm _ _ _).st _ _ hbn1 fun b hb => by
    have hb' : b = bn := hb
    rw [hb']; exact k2.block bn hbn1.lt (hbv n3)
  clear hx0 hx1 hx2 hx7 hx9 hx10 hx11 hx12 hx13 hx17 hx18 hx19 hx20 hx21 hx22 hx23 hx24
  obtain ⟨hx0, hx1, hx2, hx7, hx9, hx10, hx11, hx12, hx13, hx17, hx18, hx19, hx20, hx21, hx22, hx23, hx24, -⟩ := hx
  rw [e27]
  refine Win.seq ?_
  refine desk_stillY A2.crew.desk (stok_at rfl rfl (by simp) (by kernel_rfl)) (fun wt Q hQ => ap_q27 hx0 hx1 hx2 hx7 hx9 hx10 hx11 hx12 hx13 hx17 hx18 hx19 hx20 hx21 hx22 hx23 hx24 hQ) fun x3 w3 hx k3 D3 => ?_
  have hP3 := k3.row (fun z => z) hP2
  have hbn3 : Rm w3 bn cn s.ws := (priv_rm _ _ _).st _ _ hbn2 fun b hb => k3.block b ((priv_rm _ _ _).lt _ _ hbn2 hb) fun z => z
  have A3 := (A2.made D3 k3).mem hbn3 cbn (hba n2) (hbv n3)
  clear hx0 hx1 hx2 hx7 hx9 hx10 hx11 hx12 hx13 hx17 hx18 hx19 hx20 hx21 hx22 hx23 hx24
  rw [e28]
  refine Win.seq ?_
  have hl := (last_cell A3.crew.sh hkM).1
  have hag := A3.agent rfl hkM
  have hov := A3.over hkM
  rw [hlp] at hov
  have q0 : w3.cell? ⟨bp, 0, none⟩ = some (.slice p.ao p.l.length p.cap) := (cell_of_row hP3 0).trans rfl
  have q1 : w3.cell? ⟨bp, 1, none⟩ = some (.int .i64 (dn kk)) := (cell_of_row hP3 1).trans rfl
  have q2 : w3.cell? ⟨bp, 2, none⟩ = some (.int .u64 (g kk)) := (cell_of_row hP3 2).trans rfl
  have hq : ∀ (H2 : ∀ (x' : Nat → Value) w', HasY x' [(0, .int .u8 wd), (1, .slice ao M cl), (2, .slice bo K co), (7, .pointer (some ⟨pA, 0, none⟩)), (9, .slice (some ⟨ba, 0, none⟩) M ca), (10, .slice (some ⟨bv, 0, none⟩) M cv), (11, .slice (some ⟨bl, 0, none⟩) M M), (12, .slice (some ⟨bn, 0, none⟩) wd cn), (13, .bool true), (17, .int .i64 i), (18, .int .i64 kk)] → Ks (fun _ => False) w3 w' → Desk (apSB W bl) pA rA pl F col w' → Win Try.prog Post pl N 0 (gor ((Frame.enter Try.prog 3 args .normal).at ⟨T287 x', []⟩ (.code (codeR (codeR (codeR (codeR (codeR (codeR (codeR (codeR (apB2 Try.f3))))))))) :: .inBlock 3 :: .code (apQ20 Try.f3) :: apK2 Try.f3)) []) w'), Win Try.prog Post pl N 0 (gor ((Frame.enter Try.prog 3 args .normal).at ⟨T287 x3, []⟩ (.code (apQ28 Try.f3) :: .code (codeR (codeR (codeR (codeR (codeR (codeR (codeR (codeR (apB2 Try.f3))))))))) :: .inBlock 3 :: .code (apQ20 Try.f3) :: apK2 Try.f3)) []) w3 := by
    intro H2
    cases is with
    | false =>
      obtain ⟨e2, e3⟩ := hq28 rfl
      subst e2
      have e4 : decide (p.l.length ≤ dn kk) = true := by simpa using e3
      rw [e4] at hov
      subst hf
      obtain ⟨hx0, hx1, hx2, hx7, hx9, hx10, hx11, hx12, hx13, hx17, hx18, hx19, hx20, hx21, hx22, hx23, hx24, -⟩ := hx
      exact desk_allY A3.crew.desk A3.ar (stok_at rfl rfl (by simp) (by kernel_rfl)) (fun wt Q har hcell hQ => ap_q28_fft hx0 hx1 hx2 hx7 hx9 hx10 hx11 hx12 hx13 hx17 hx18 hx19 hx20 hx21 hx22 hx23 hx24 har ht0 ht hkM ((hcell _).trans hl) ((hcell _).trans q0) ((hcell _).trans q1) ((hcell _).trans q2) ((hcell _).trans hag) ((hcell _).trans hov) e3 hQ) H2
    | true =>
      subst hf
      obtain ⟨hx0, hx1, hx2, hx7, hx9, hx10, hx11, hx12, hx13, hx17, hx18, hx19, hx20, hx21, hx22, hx23, hx24, -⟩ := hx
      by_cases e3 : p.l.length ≤ dn kk
      · have e4 : decide (p.l.length ≤ dn kk) = true := by simpa using e3
        rw [e4] at hov
        cases th with
        | false => exact desk_allY A3.crew.desk A3.ar (stok_at rfl rfl (by simp) (by kernel_rfl)) (fun wt Q har hcell hQ => ap_q28_tft hx0 hx1 hx2 hx7 hx9 hx10 hx11 hx12 hx13 hx17 hx18 hx19 hx20 hx21 hx22 hx23 hx24 har ht0 ht hkM ((hcell _).trans hl) ((hcell _).trans q0) ((hcell _).trans q1) ((hcell _).trans q2) ((hcell _).trans hag) ((hcell _).trans hov) e3 hQ) H2
        | true => exact desk_allY A3.crew.desk A3.ar (stok_at rfl rfl (by simp) (by kernel_rfl)) (fun wt Q har hcell hQ => ap_q28_ttt hx0 hx1 hx2 hx7 hx9 hx10 hx11 hx12 hx13 hx17 hx18 hx19 hx20 hx21 hx22 hx23 hx24 har ht0 ht hkM ((hcell _).trans hl) ((hcell _).trans q0) ((hcell _).trans q1) ((hcell _).trans q2) ((hcell _).trans hag) ((hcell _).trans hov) e3 hQ) H2
      · have e4 : decide (p.l.length ≤ dn kk) = false := by simpa using e3
        rw [e4] at hov
        cases th with
        | false => exact desk_allY A3.crew.desk A3.ar (stok_at rfl rfl (by simp) (by kernel_rfl)) (fun wt Q har hcell hQ => ap_q28_tff hx0 hx1 hx2 hx7 hx9 hx10 hx11 hx12 hx13 hx17 hx18 hx19 hx20 hx21 hx22 hx23 hx24 har ht0 ht hkM ((hcell _).trans hl) ((hcell _).trans q0) ((hcell _).trans q1) ((hcell _).trans q2) ((hcell _).trans hag) ((hcell _).trans hov) e3 hQ) H2
        | true => exact desk_allY A3.crew.desk A3.ar (stok_at rfl rfl (by simp) (by kernel_rfl)) (fun wt Q har hcell hQ => ap_q28_ttf hx0 hx1 hx2 hx7 hx9 hx10 hx11 hx12 hx13 hx17 hx18 hx19 hx20 hx21 hx22 hx23 hx24 har ht0 ht hkM ((hcell _).trans hl) ((hcell _).trans q0) ((hcell _).trans q1) ((hcell _).trans q2) ((hcell _).trans hag) ((hcell _).trans hov) e3 hQ) H2
  clear hx
  refine hq fun x4 w4 hx k4 D4 => ?_
  clear hq
  have A4 := A3.made D4 k4
  obtain ⟨hx0, hx1, hx2, hx7, hx9, hx10, hx11, hx12, hx13, hx17, hx18, -⟩ := hx
  rw [e29]
  refine Win.seq ?_
  refine A4.crew.desk.pieceY (own := fun b => b = pA ∨ b = rA) (S := fun _ => False) (A := fun w => Ar w pA rA s) (priv_arY pA rA s) A4.ar (fun b hb => hb.elim (fun e => by rw [e, A4.crew.desk.lay.ar.1]; rfl) (fun e => by rw [e, A4.crew.desk.lay.ar.2]; rfl)) (ι := Unit) (own' := fun _ => (· = w4.heap.size)) (A' := fun _ w' => w'.heap[w4.heap.size]? = some (.cells (u64s s.ws) 40 (0, 0))) (fun _ => Priv.row _ _ _ _) (K' := fun _ => [(0, .int .u8 wd), (1, .slice ao M cl), (2, .slice bo K co), (7, .pointer (some ⟨pA, 0, none⟩)), (9, .slice (some ⟨ba, 0, none⟩) M ca), (10, .slice (some ⟨bv, 0, none⟩) M cv), (11, .slice (some ⟨bl, 0, none⟩) M M), (12, .slice (some ⟨bn, 0, none⟩) wd cn), (13, .bool true), (17, .int .i64 i), (18, .int .i64 kk), (25, .slice (some ⟨w4.heap.size, 0, none⟩) wd wd)]) (stok_at rfl rfl (by simp) (by kernel_rfl)) (fun wt Q h1 h2 _ hQ => ap_q29 hx0 hx1 hx2 hx7 hx9 hx10 hx11 hx12 hx13 hx17 hx18 h1 A4.len hw1 (by omega) fun a' w' hf hr hk => ?_) fun x5 _ w5 _ hx r5 k5 D5 => ?_
  · rw [h2] at hf hr
    exact hQ a' () w' (fun y hy => .inr (by have hy' : y = w4.heap.size := hy; have := lt_of_block hr; omega)) hf hr ((ks_of_kp hk).mono fun _ _ z => by simp at z)
  have A5 := A4.made D5 k5
  obtain ⟨bz, hbz⟩ : ∃ bz, bz = w4.heap.size := ⟨_, rfl⟩
  rw [← hbz] at hx r5
  clear hx0 hx1 hx2 hx7 hx9 hx10 hx11 hx12 hx13 hx17 hx18
  obtain ⟨hx0, hx1, hx2, hx7, hx9, hx10, hx11, hx12, hx13, hx17, hx18, hx25, -⟩ := hx
  have hlen := A5.len
  refine desk_allY A5.crew.desk A5.ar (stok_at rfl rfl (by simp) (by kernel_rfl)) (fun wt Q har hcell hQ => ap_q30 hx0 hx1 hx2 hx7 hx9 hx10 hx11 hx12 hx13 hx17 hx18 hx25 (ws := s.ws) (fun j hj => (hcell _).trans (by rw [cell_of_row r5, u64s_get _ _ (by omega)])) (fun j hj => (hcell _).trans (A5.rm.cell (by omega))) (by omega) hQ) fun x6 w6 hx k6 D6 => ?_
  have A6 := A5.made D6 k6
  clear hx0 hx1 hx2 hx7 hx9 hx10 hx11 hx12 hx13 hx17 hx18 hx25
  obtain ⟨hx0, hx1, hx2, hx7, hx9, hx10, hx11, hx12, hx13, hx17, -⟩ := hx
  refine Win.inBlock ?_
  exact desk_stillY A6.crew.desk (stok_at rfl rfl (by simp) (by kernel_rfl)) (fun wt Q hQ => ap_q20 hx0 hx1 hx2 hx7 hx9 hx10 hx11 hx12 hx13 hx17 hi hK hQ) fun x7 w7 hx k7 D7 => H w7 x7 (A6.made D7 k7) hx
end
end Go.Proofs.Ytnbibpmhmffmpaa
