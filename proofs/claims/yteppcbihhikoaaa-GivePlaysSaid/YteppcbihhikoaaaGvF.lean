/- The walks of package give, on: Back, walked. Conditions: as each theorem states them. -/
import Derived.Test.YteppcbihhikoaaaGvE
import Derived.Deep.RegionHeld3
import Derived.IntWalk
namespace Go.Proofs.Yteppcbihhikoaaa
set_option linter.unusedVariables false
set_option linter.unusedSimpArgs false
open Go.RowKit

section
variable {n p r t : Nat} {g : Gv} {w w' : World}
set_option maxRecDepth 100000 in
set_option maxHeartbeats 8000000 in
theorem g_back_in (h : Gw n p r g t w) (ht : t ≤ 800000) (b r' : Nat) (h1 : 1 ≤ r') (h3 : r' ≤ 3) (hbn : b + r' ≤ n) :
    Calls Try.prog 11 #[.iface 24 (.pointer (some ⟨p, 0, none⟩)), .agg #[.int .i64 1, .int .i64 1, .int .i64 n], .int .i64 b, .int .i64 r'] w fun e w' => e = .returned (.tuple #[]) ∧ Gw n p r ⟨giveM g.M b r', zer g.E b r'⟩ (t + r' + 1) w' ∧ Kp [p, r] w w' := by
  have hh := Lib.hid (fun w => g_has n b r' w h.hn)
  rw [runG_iff.2 (by omega)] at hh
  have hn := h.hn
  have hpl := h.lt
  have HBK := Lib.hid (Bk.new w n b r')
  have HK := Lib.hid (bw_kp w n b r')
  have hen := Lib.hid (fun (k : Nat) (w : World) (hk : k < n) => Ly.entry_is 1 1 n k (5 + k) w (by rw [Ly.rowP_in (by omega) (by omega)]; omega) (by omega) (by omega) (by omega) (by omega) (by omega) (by omega))
  have HL : Hid (∀ i, i ≤ r' → Gv.Ok n ⟨g.M, zer g.E (b + r' - i) i⟩) := Lib.hid fun i hi => h.ok.zer _ _
  have HWR : Hid (∀ (i : Nat) (w' : World), i < r' → Gw n p r ⟨g.M, zer g.E (b + r' - i) i⟩ (t + i) w' → Calls Try.prog 81 #[.pointer (some ⟨p, 0, none⟩), .int .i64 (5 + (b + r' - 1 - i : Nat)), .int .u64 0] w' fun e w2 => e = .returned (.tuple #[]) ∧ Gw n p r ⟨g.M, zer g.E (b + r' - (i + 1)) (i + 1)⟩ (t + (i + 1)) w2 ∧ Kp [p, r] w' w2) := by
    refine Lib.hid fun i w' hi hg => ?_
    have := wr_ent hg (by omega) (b + r' - 1 - i) (by omega) (5 + (b + r' - 1 - i : Nat)) 0 rfl (by decide) (by decide)
    have hz := zer_down g.E (b + r' - (i + 1)) i
    rw [show b + r' - (i + 1) + 1 = b + r' - i from by omega] at hz
    rw [show b + r' - 1 - i = b + r' - (i + 1) from by omega] at this ⊢
    simp only [hz] at this
    exact this
  have HUP : Hid (∀ (w' : World), Gw n p r ⟨g.M, zer g.E b r'⟩ (t + r') w' → Bk w.heap.size n b r' w' → Calls Try.prog 44 #[.pointer (some ⟨p, 0, none⟩), .int .i64 0, .func (.func 36) #[] #[.pointer (some ⟨w.heap.size + 1, 0, none⟩), .pointer (some ⟨w.heap.size + 1 + 1, 0, none⟩)]] w' fun e w2 => e = .returned (.int .u64 g.M) ∧ Gw n p r ⟨giveM g.M b r', zer g.E b r'⟩ (t + r' + 1) w2 ∧ Kp [p, r] w' w2 ∧ True) :=
    Lib.hid fun w' hg hb => up_map hg (by omega) 36 #[.pointer (some ⟨w.heap.size + 1, 0, none⟩), .pointer (some ⟨w.heap.size + 1 + 1, 0, none⟩)] (giveM g.M b r') [] (fun _ => True) (giveM_lt h.ok.map) (by simp) (by simp) (fun _ _ _ _ => trivial) (fun _ _ => rfl)
      (fun w1 k => cl_back h.ok.map _ _ w1 (kp_cell k (by simp; omega) hb.cb) (kp_cell k (by simp; omega) hb.cr))
  have HG0 : Hid (∀ w1, Kp [] (bw w n b r') w1 → Gw n p r ⟨g.M, zer g.E (b + r' - 0) 0⟩ (t + 0) w1 ∧ Kp [p, r] w w1 ∧ Bk w.heap.size n b r' w1) :=
    Lib.hid fun w1 k => ⟨by rw [zer_none]; exact h.on ((bw_kp w n b r').trans k), ((bw_kp w n b r').trans k).mono (by simp), (Bk.new w n b r').keep k (by simp)⟩
  obtain ⟨⟨x0, x1, x2⟩, x3, x4⟩ := HBK.out
  have hna := na_write
  unfold bw at HK x0 x1 x2 x3 x4 HG0
  clear HBK
  go_enter Try.func11, Try.ntmps11
  go_wp2_with fail
  refine (hh.out _).mono ?_
  rintro e w1 ⟨rfl, hk⟩
  have G1 := HG0.out w1 hk
  have HG1 := Lib.hid G1
  obtain ⟨⟨a0, a1, a2⟩, a3, a4⟩ := G1.2.2
  clear hk G1 x0 x1 x2 x3 x4
  go_wp2_with fail
  go_loopg [19] r' (fun gg v19 wr => ∃ i : Nat, i + gg = r' ∧ v19 = .int .i64 i ∧ Hid (Gw n p r ⟨g.M, zer g.E (b + r' - i) i⟩ (t + i) wr ∧ Kp [p, r] w wr ∧ Bk w.heap.size n b r' wr))
  case atStart => exact ⟨0, by omega, rfl, HG1⟩
  case round =>
    obtain ⟨i, hi, rfl, HR⟩ := hrel
    obtain ⟨⟨b0, b1, b2⟩, b3, b4⟩ := HR.out.2.2
    by_cases hlt : i < r'
    · have e1 := IntWalk.i64_in ((b : Int) + r') (by omega)
      have e2 := IntWalk.i64_in ((b : Int) + r' - 1) (by omega)
      have e3 := IntWalk.i64_in ((b : Int) + r' - 1 - i) (by omega)
      have e4 : (b : Int) + r' - 1 - i = ((b + r' - 1 - i : Nat) : Int) := by omega
      obtain ⟨k, hk⟩ : ∃ k, k = b + r' - 1 - i := ⟨_, rfl⟩
      have hkn : k < n := by omega
      have e5 := IntWalk.i64_in (k : Int) (by omega)
      have HWRi := Lib.hid (fun w' => HWR.out i w' hlt)
      rw [← hk] at e4 HWRi
      have henk := Lib.hid (fun w => hen.out k w hkn)
      clear hk
      go_wp2_with fail
      have HS := Lib.hid (bs_of HR.out.2.2 (Kp.refl [p, r] wr))
      have HP := Lib.hid hpl
      go_region_held3? (fun wx => wx.cell? ⟨w.heap.size, 0, none⟩ = some (.int .i64 1) ∧ wx.cell? ⟨w.heap.size, 1, none⟩ = some (.int .i64 1) ∧ wx.cell? ⟨w.heap.size, 2, none⟩ = some (.int .i64 n) ∧ wx.cell? ⟨w.heap.size + 1, 0, none⟩ = some (.int .i64 b) ∧ wx.cell? ⟨w.heap.size + 1 + 1, 0, none⟩ = some (.int .i64 r') ∧ Kp [p, r] wr wx)
        (first
          | assumption
          | exact bs_drew HS.out
          | exact bs_step ‹Bs w.heap.size n b r' p r wr _› hk9
          | exact bs_write ‹Bs w.heap.size n b r' p r wr _› HP.out hk8)
        (first
        | (go_at_call 22; refine (henk.out _).mono ?_; rintro e w3 ⟨rfl, hk9⟩
           have K3 : Hid (Kp [] wr w3) := Lib.hid (by refine Kp.trans ?_ hk9; exact ⟨rfl, rfl, rfl, Nat.le_refl _, fun _ _ _ => rfl⟩))
        | (go_at_call 81
           refine (HWRi.out _ (HR.out.1.on (K3.out.trans ?_))).mono ?_
           · exact ⟨rfl, rfl, rfl, Nat.le_refl _, fun _ _ _ => rfl⟩
           rintro e w4 ⟨rfl, hg, hk8⟩
           have G4 := Lib.hid hg
           have K4 : Hid (Kp [p, r] wr w4) := Lib.hid (by refine (K3.out.mono (by simp)).trans (Kp.trans ?_ hk8); exact ⟨rfl, rfl, rfl, Nat.le_refl _, fun _ _ _ => rfl⟩)
           clear hg))
      all_goals
        rename_i hHeld
        clear hHeld
        go_wp2_with fail
        go_roundg (r' - (i + 1))
        case rel => exact ⟨i + 1, by omega, by go_num, Lib.hid ⟨G4.out, HR.out.2.1.trans K4.out, HR.out.2.2.keep K4.out (by simp; omega)⟩⟩
        case measure => omega
    · obtain rfl : i = r' := by omega
      have HU := Lib.hid (HUP.out wr (by have := HR.out.1; rwa [show b + i - i = b from by omega] at this) HR.out.2.2)
      go_wp2_with fail
      refine HU.out.mono ?_
      rintro e w5 ⟨rfl, hg, hk, -⟩
      have G5 := Lib.hid hg
      have K5 := Lib.hid (HR.out.2.1.trans hk)
      clear hg hk
      go_wp2_with fail
      go_end0
      exact ⟨rfl, G5.out, K5.out⟩

/-- Back, whatever the block and the run. -/
theorem g_back (h : Gw n p r g t w) (ht : t ≤ 800000) (b r' : Int) (d : Nat) (hd : (if runG n b r' then r'.toNat + 1 else 0) = d) :
    Calls Try.prog 11 #[.iface 24 (.pointer (some ⟨p, 0, none⟩)), .agg #[.int .i64 1, .int .i64 1, .int .i64 n], .int .i64 b, .int .i64 r'] w fun e w' => e = .returned (.tuple #[]) ∧ Gw n p r (backG n g b r') (t + d) w' ∧ Kp [p, r] w w' := by
  cases hr : runG n b r'
  · rw [hr] at hd
    obtain rfl : d = 0 := by rw [← hd]; rfl
    rw [backG_out hr]
    exact (g_back_no w n h.hn b r' _ hr).mono fun e w' ⟨h1, h2⟩ => ⟨h1, h.on h2, h2.mono (by simp)⟩
  · have hr' := runG_iff.1 hr
    obtain ⟨b', rfl⟩ := Int.eq_ofNat_of_zero_le (show 0 ≤ b by omega)
    obtain ⟨r2, rfl⟩ := Int.eq_ofNat_of_zero_le (show 0 ≤ r' by omega)
    obtain rfl : d = r2 + 1 := by rw [← hd, hr]; simp
    rw [backG_in (by omega) (by omega) (by omega)]
    exact g_back_in h ht b' r2 (by omega) (by omega) (by omega)
end
end Go.Proofs.Yteppcbihhikoaaa
