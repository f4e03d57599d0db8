/- What Decode answers, by its bytes; two entries compared; the walk of 'wakes'. Conditions: as each theorem states them. -/
import Derived.Test.YtclegfpgmhajmaaScG
import Derived.Test.YtclegfpgmhajmaaScH
import Derived.Deep.RegionHeld3
import Derived.Laws.StructEq
namespace Go.Proofs.Ytclegfpgmhajmaa
set_option linter.unusedVariables false
set_option linter.unusedSimpArgs false
open Go.RowKit

theorem DecP.got {T : TypeId} {w w' : World} {s : List UInt8} {e : Ending} {L : List Ent} (h : DecP T w s e w') (hi : Is s L) (h4 : s.length ≤ 4000) : ∃ (n : Nat) (ao : Option Addr) (c : Nat), e = .returned (.tuple #[.slice ao n c, .int .i64 0]) ∧ Er T w.heap.size w' (.slice ao n c) n L ∧ Kp [] w w' := by
  obtain ⟨k, h | h | h⟩ := h
  · omega
  · exact absurd hi (h.2.1 L)
  · obtain ⟨_, M, n, ao, c, hM, he, hE⟩ := h
    obtain rfl := hi.uniq hM
    exact ⟨n, ao, c, he, hE, k⟩
theorem DecP.not {T : TypeId} {w w' : World} {s : List UInt8} {e : Ending} (h : DecP T w s e w') (hb : ∀ M, ¬ Is s M) (h4 : s.length ≤ 4000) : e = .returned (.tuple #[.slice none 0 0, .int .i64 3]) ∧ Kp [] w w' := by
  obtain ⟨k, h | h | h⟩ := h
  · omega
  · exact ⟨h.2.2, k⟩
  · obtain ⟨_, M, n, ao, c, hM, he, hE⟩ := h
    exact absurd hM (hb M)
theorem DecP.far {T : TypeId} {w w' : World} {s : List UInt8} {e : Ending} (h : DecP T w s e w') (h4 : 4000 < s.length) : e = .returned (.tuple #[.slice none 0 0, .int .i64 8]) ∧ Kp [] w w' := by
  obtain ⟨k, h | h | h⟩ := h
  · exact ⟨h.2, k⟩
  · omega
  · omega

/-- An entry compared with itself. -/
theorem eql_self (x0 x1 x2 x3 x4 : Int) (W : World) : (binOp .eql 28 (.agg #[.int .u8 x0, .int .u8 x1, .int .u8 x2, .int .u8 x3, .int .u8 x4]) (.agg #[.int .u8 x0, .int .u8 x1, .int .u8 x2, .int .u8 x3, .int .u8 x4])).run Try.prog W = .ok (.bool true) W := by
  simp [go_sem]
theorem neq_self (x0 x1 x2 x3 x4 : Int) (W : World) : (binOp .neq 28 (.agg #[.int .u8 x0, .int .u8 x1, .int .u8 x2, .int .u8 x3, .int .u8 x4]) (.agg #[.int .u8 x0, .int .u8 x1, .int .u8 x2, .int .u8 x3, .int .u8 x4])).run Try.prog W = .ok (.bool false) W := by
  simp [go_sem]

/-- The script that 'wakes' knows. -/
def known : List Ent := [⟨0, 1, 2, 1, 3⟩, ⟨0, 0, 0, 0, 0⟩, ⟨255, 13, 0, 0, 0⟩]
theorem known_is : Is (ByteArray.mk #[0, 1, 2, 1, 3, 0, 0, 255, 13]).data.toList known := ⟨by unfold allMay known; decide, by decide⟩

set_option maxRecDepth 100000 in
set_option maxHeartbeats 4000000 in
theorem wakes_any (w : World) : Calls Try.prog 6 #[] w fun e w' => e = .returned (.bool true) ∧ Kp [] w w' := by
  have hd : Calls Try.prog 14 #[.string { data := #[0, 1, 2, 1, 3, 0, 0, 255, 13] }] w fun e w1 => ∃ (b c : Nat), e = .returned (.tuple #[.slice (some ⟨b, 0, none⟩) 3 c, .int .i64 0]) ∧ Er 28 w.heap.size w1 (.slice (some ⟨b, 0, none⟩) 3 c) 3 known ∧ Kp [] w w1 :=
    (dec_any w _).mono fun e w1 h => by
      obtain ⟨n, ao, c, rfl, hE, k⟩ := h.got known_is (by decide)
      obtain rfl : n = 3 := hE.1
      obtain ⟨b, c2, hv, _⟩ := hE.at (by decide)
      simp only [Value.slice.injEq, true_and] at hv
      obtain ⟨rfl, rfl⟩ := hv
      exact ⟨b, c, rfl, hE, k⟩
  obtain ⟨S, hS⟩ : ∃ S, S = str (script known) := ⟨_, rfl⟩
  have hs9 : S.size = 9 := by rw [hS, str_size]; decide
  have HV : Hid (encV known = .tuple #[.string S, .int .i64 0]) := Lib.hid (by rw [hS]; exact encV_yes known_is.1)
  have hsz : ((S.size : Int) == 9) = true := by rw [hs9]; rfl
  clear hS
  go_enter Try.func6, Try.ntmps6
  go_wp2_with fail
  refine hd.mono ?_
  rintro e w1 ⟨b, c, rfl, hE, hk⟩
  have K1 := Lib.hid hk
  have HE := Lib.hid hE
  clear hk hE hd
  go_wp2_with fail
  refine (enc_any w1 w.heap.size _ 3 known HE.out (by omega)).mono ?_
  rintro e w2 ⟨he, hk⟩
  rw [HV.out] at he
  obtain rfl := he
  have hE2 := HE.out.keep0 hk
  have K2 := Lib.hid (K1.out.trans hk)
  have a0 := hE2.cell (i := 0) (e := ⟨0, 1, 2, 1, 3⟩) rfl (j := 0) (by decide)
  have a1 := hE2.cell (i := 0) (e := ⟨0, 1, 2, 1, 3⟩) rfl (j := 1) (by decide)
  have a2 := hE2.cell (i := 0) (e := ⟨0, 1, 2, 1, 3⟩) rfl (j := 2) (by decide)
  have a3 := hE2.cell (i := 0) (e := ⟨0, 1, 2, 1, 3⟩) rfl (j := 3) (by decide)
  have a4 := hE2.cell (i := 0) (e := ⟨0, 1, 2, 1, 3⟩) rfl (j := 4) (by decide)
  have a5 := hE2.cell (i := 1) (e := ⟨0, 0, 0, 0, 0⟩) rfl (j := 0) (by decide)
  have a6 := hE2.cell (i := 1) (e := ⟨0, 0, 0, 0, 0⟩) rfl (j := 1) (by decide)
  have a7 := hE2.cell (i := 1) (e := ⟨0, 0, 0, 0, 0⟩) rfl (j := 2) (by decide)
  have a8 := hE2.cell (i := 1) (e := ⟨0, 0, 0, 0, 0⟩) rfl (j := 3) (by decide)
  have a9 := hE2.cell (i := 1) (e := ⟨0, 0, 0, 0, 0⟩) rfl (j := 4) (by decide)
  have a10 := hE2.cell (i := 2) (e := ⟨255, 13, 0, 0, 0⟩) rfl (j := 0) (by decide)
  have a11 := hE2.cell (i := 2) (e := ⟨255, 13, 0, 0, 0⟩) rfl (j := 1) (by decide)
  have a12 := hE2.cell (i := 2) (e := ⟨255, 13, 0, 0, 0⟩) rfl (j := 2) (by decide)
  have a13 := hE2.cell (i := 2) (e := ⟨255, 13, 0, 0, 0⟩) rfl (j := 3) (by decide)
  have a14 := hE2.cell (i := 2) (e := ⟨255, 13, 0, 0, 0⟩) rfl (j := 4) (by decide)
  simp [Ent.cells, u] at a0 a1 a2 a3 a4 a5 a6 a7 a8 a9 a10 a11 a12 a13 a14
  clear hk hE2 HE K1
  go_wp2_with fail
  go_ret
  exact ⟨rfl, K2.out⟩

end Go.Proofs.Ytclegfpgmhajmaa
