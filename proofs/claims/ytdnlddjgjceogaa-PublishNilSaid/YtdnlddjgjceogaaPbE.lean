/- Package publish: what its laws build, on: Made, Same. Conditions: as each theorem states them. -/
import Derived.Test.YtdnlddjgjceogaaPbD
namespace Go.Proofs.Ytdnlddjgjceogaa
set_option linter.unusedVariables false
set_option linter.unusedSimpArgs false
set_option maxRecDepth 100000
open Go.RowKit

/-- Words lie where a slice leads. -/
structure Wd (w : World) (b o cap : Nat) (ws : List Int) : Prop where
  lt : b < w.heap.size
  at_ : ∀ i, i < ws.length → w.cell? ⟨b, o + i, none⟩ = some (.int .u64 (ws.getD i 0))
theorem Wd.keep {w w' : World} {b o cap : Nat} {ws : List Int} (h : Wd w b o cap ws) {S : List Nat} (k : Kp S w w') (hb : b ∉ S) : Wd w' b o cap ws :=
  ⟨Nat.lt_of_lt_of_le h.lt k.size, fun i hi => by rw [World.cell?_of_block (k.block b h.lt hb)]; exact h.at_ i hi⟩
theorem Wd.of_rw {w : World} {base : Nat} {v : Value} {n : Nat} {ws : List Int} (h : Rw 30 1 base w v n (u64l ws)) (hn : 0 < n) : ∃ b cap, v = .slice (some ⟨b, 0, none⟩) n cap ∧ base ≤ b ∧ n = ws.length ∧ Wd w b 0 cap ws := by
  have hl := h.len
  simp only [u64l, List.length_map, Nat.mul_one] at hl
  obtain ⟨b, c, rfl, h1, h2⟩ := h.at hn (by decide)
  obtain ⟨h3, cur, h4⟩ := h.block b (by simp [blk_some])
  refine ⟨b, c, rfl, h3, hl.symm, lt_of_block h4, fun i hi => ?_⟩
  rw [Nat.zero_add, h2 i (by omega)]
  simp [u64l, List.getD, hi]

theorem eq_nilptr (a : Addr) (w : World) : (binOp .eql 27 (.pointer (some a)) (.pointer none)).run Try.prog w = .ok (.bool false) w := by kernel_rfl

set_option maxHeartbeats 1000000 in
theorem made_any (w : World) (b o cap N : Nat) (ws : List Int) (hN : ws.length = N) (h1 : 1 ≤ N) (h2 : N ≤ 4096) (hW : Wd w b o cap ws) :
    Calls Try.prog 7 #[.slice (some ⟨b, o, none⟩) N cap] w fun e w' => ∃ p r s, e = .returned (.pointer (some ⟨p, 0, none⟩)) ∧ Ar w' p r s ∧ s.ws = ws ∧ s.t ≤ 4096 ∧ w.heap.size ≤ p ∧ w.heap.size ≤ r ∧ Kp [] w w' := by
  have HNW := Lib.hid (new_good w N h1 h2)
  have HW := Lib.hid hW
  clear hW
  go_enter Try.func7, Try.ntmps7
  go_wp2_with fail
  refine HNW.out.mono ?_
  rintro e w1 ⟨rfl, ha, hk⟩
  have HA := Lib.hid ha
  have HK := Lib.hid hk
  clear ha hk HNW
  obtain ⟨p, hp⟩ : ∃ p, p = w.heap.size + 1 := ⟨_, rfl⟩
  rw [← hp] at HA ⊢
  have HP := Lib.hid (show w.heap.size ≤ p by omega)
  clear hp
  have hnil := eq_nilptr
  go_wp2_with fail
  go_loopg [5] N (fun g v wr => ∃ i : Nat, i + g = N ∧ v = .int .i64 i ∧ Hid (∃ s, Ar wr p w.heap.size s ∧ s.ws.length = N ∧ s.t = i ∧ (∀ j, j < i → s.ws.getD j 0 = ws.getD j 0) ∧ Kp [] w wr))
  case atStart => exact ⟨0, by omega, rfl, Lib.hid ⟨_, HA.out, by simp [fresh], rfl, fun j hj => by omega, HK.out⟩⟩
  case round =>
    obtain ⟨i, hi, rfl, HR⟩ := hrel
    by_cases hlt : i < N
    · obtain ⟨s, r1, r2, r3, r4, r5⟩ := HR.out
      have hc := (HW.out.keep r5 (by simp)).at_ i (by omega)
      obtain ⟨y, hy⟩ : ∃ y, ws.getD i 0 = y := ⟨_, rfl⟩
      rw [hy] at hc
      have HWr := Lib.hid (write_any wr p w.heap.size s (i : Int) y r1 (by omega) (by omega))
      have HS := Lib.hid (And.intro r2 (And.intro r3 (And.intro r4 r5)))
      have HY := Lib.hid hy
      clear r1 r2 r3 r4 r5 HR hy
      go_wp2_with fail
      refine HWr.out.mono ?_
      rintro e w3 ⟨rfl, ha, hk⟩
      have F : Hid (∃ s, Ar w3 p w.heap.size s ∧ s.ws.length = N ∧ s.t = i + 1 ∧ (∀ j, j < i + 1 → s.ws.getD j 0 = ws.getD j 0) ∧ Kp [] w w3) := by
        obtain ⟨r2, r3, r4, r5⟩ := HS.out
        have hin : inB s (i : Int) = true := inB_iff.2 (by omega)
        refine Lib.hid ⟨_, ha, by rw [upd_len]; exact r2, by rw [upd_in hin]; simp [r3], fun j hj => ?_, Kp.trans_two r5 hk HP.out (Nat.le_refl _)⟩
        rw [upd_in hin]
        simp only [Int.toNat_natCast, List.getD]
        by_cases hj2 : j = i
        · subst hj2
          rw [List.getElem?_set_self (by omega), ← HY.out]
          simp [List.getD]
        · rw [List.getElem?_set_ne (by omega)]
          exact r4 j (by omega)
      clear ha hk HWr hc
      go_wp2_with fail
      go_roundg (N - (i + 1))
      exact ⟨i + 1, by omega, rfl, F⟩
      omega
    · obtain rfl : i = N := by omega
      obtain ⟨s, r1, r2, r3, r4, r5⟩ := HR.out
      have F : Hid (∃ r s, Ar wr p r s ∧ s.ws = ws ∧ s.t ≤ 4096 ∧ w.heap.size ≤ p ∧ w.heap.size ≤ r ∧ Kp [] w wr) := by
        refine Lib.hid ⟨_, s, r1, List.ext_getElem (by omega) (fun j g1 g2 => ?_), by omega, HP.out, Nat.le_refl _, r5⟩
        have := r4 j (by omega)
        simpa [List.getD, g1, g2] using this
      clear r1 r2 r3 r4 r5 HR
      go_wp2_with fail
      go_ret
      obtain ⟨r, s, F⟩ := F.out
      exact ⟨p, r, s, rfl, F⟩

set_option maxHeartbeats 1000000 in
theorem same_true (w : World) (p r b o cap N : Nat) (s : St) (ws : List Int) (hN : ws.length = N) (h1 : 1 ≤ N) (h2 : N ≤ 4096) (ha : Ar w p r s) (hs : s.ws = ws) (hW : Wd w b o cap ws) :
    Calls Try.prog 12 #[.pointer (some ⟨p, 0, none⟩), .slice (some ⟨b, o, none⟩) N cap] w fun e w' => e = .returned (.bool true) ∧ Kp [] w w' := by
  subst hs
  have HA := Lib.hid (all_any w p r s ha (by omega) (by omega))
  rw [hN] at HA
  have HW := Lib.hid hW
  clear hW ha
  go_enter Try.func12, Try.ntmps12
  go_wp2_with fail
  refine HA.out.mono ?_
  rintro e w1 ⟨rfl, hb1, hk⟩
  have HB := Lib.hid hb1
  have HK := Lib.hid hk
  clear hb1 hk HA
  go_wp2_with fail
  go_loopg [6] N (fun g v wr => ∃ i : Nat, i + g = N ∧ v = .int .i64 i ∧ Hid (Kp [] w1 wr))
  case atStart => exact ⟨0, by omega, rfl, Lib.hid (Kp.refl _ _)⟩
  case round =>
    obtain ⟨i, hi, rfl, HR⟩ := hrel
    by_cases hlt : i < N
    · have c1 := (HW.out.keep (HK.out.trans HR.out) (by simp)).at_ i (by omega)
      have c2 : wr.cell? ⟨w.heap.size, i, none⟩ = some (.int .u64 (s.ws.getD i 0)) := by rw [cell_of_row (HR.out.row (by simp) HB.out), u64s_get _ _ (by omega)]
      obtain ⟨y, hy⟩ : ∃ y, s.ws.getD i 0 = y := ⟨_, rfl⟩
      rw [hy] at c1 c2
      have hne : (y != y) = false := by simp
      clear hy
      go_wp2_with fail
      go_region
      all_goals go_wp2_with fail
      all_goals go_roundg (N - (i + 1))
      all_goals first | omega | exact ⟨i + 1, by omega, rfl, Lib.hid (HR.out.drew)⟩ | exact ⟨i + 1, by omega, rfl, HR⟩
    · obtain rfl : i = N := by omega
      have F := Lib.hid (HK.out.trans HR.out)
      clear HR
      go_wp2_with fail
      go_ret
      exact ⟨rfl, F.out⟩

end Go.Proofs.Ytdnlddjgjceogaa
