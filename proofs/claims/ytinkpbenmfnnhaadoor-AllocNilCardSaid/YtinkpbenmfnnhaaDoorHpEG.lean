/- The walks of package give, on: Back. The walks of package give, on: Back, walked. The walks of package give, on: Waiting. Conditions: as each theorem states them. -/
import Derived.Test.YtinkpbenmfnnhaaDoorHpD
import Derived.Deep.RegionHeld3
import Derived.IntWalk
import Derived.Test.YtinkpbenmfnnhaaDoorHpC
namespace Go.Proofs.YtinkpbenmfnnhaaDoor
set_option linter.unusedVariables false
set_option linter.unusedSimpArgs false
open Go.RowKit

section
variable {T G n p r t : Nat} {H : List Int} {w w' : World}
/-- What giving a run in the map does. -/
theorem cl_back {M b r' : Nat} (hM : M < 18446744073709551616) (b1 b2 : Nat) (w : World) (c1 : w.cell? ⟨b1, 0, none⟩ = some (.int .i64 b)) (c2 : w.cell? ⟨b2, 0, none⟩ = some (.int .i64 r')) :
    Calls Tryd.prog 81 #[.int .u64 M, .pointer (some ⟨b1, 0, none⟩), .pointer (some ⟨b2, 0, none⟩)] w fun e w' => e = .returned (.int .u64 (giveM M b r')) ∧ Kp [] w w' ∧ True := by
  have hg := Lib.hid (fun w => Bm.give_is M b r' (giveM M b r') _ w hM rfl (by simp [giveM]))
  generalize Bm.isR M b r' false = q at hg
  generalize giveM M b r' = M' at hg ⊢
  go_enter Tryd.func81, Tryd.ntmps81
  go_wp2_with fail
  refine (hg.out _).mono ?_
  rintro e w1 ⟨rfl, rfl⟩
  go_wp2
  go_ret
  exact ⟨rfl, Kp.refl _ _, trivial⟩

/-- The boxes of Back: the layout's, the block's, the run's. -/
def bw (w : World) (T G n : Nat) (b r' : Int) : World := ((w.alloc (.cells #[.int .i64 T, .int .i64 G, .int .i64 n] 29)).alloc (.cells #[.int .i64 b] 3)).alloc (.cells #[.int .i64 r'] 3)
theorem bw_kp (w : World) (T G n : Nat) (b r' : Int) : Kp [] w (bw w T G n b r') := (((Kp.refl [] w).alloc _).alloc _).alloc _
/-- What Back finds in its boxes. -/
structure Bk (a T G n : Nat) (b r' : Int) (w : World) : Prop where
  lx : Lx a T G n w
  cb : w.cell? ⟨a + 1, 0, none⟩ = some (.int .i64 b)
  cr : w.cell? ⟨a + 1 + 1, 0, none⟩ = some (.int .i64 r')
theorem Bk.new (w : World) (T G n : Nat) (b r' : Int) : Bk w.heap.size T G n b r' (bw w T G n b r') := by
  have z1 := World.size_alloc w (.cells #[.int .i64 T, .int .i64 G, .int .i64 n] 29)
  have z2 := World.size_alloc (w.alloc (.cells #[.int .i64 T, .int .i64 G, .int .i64 n] 29)) (.cells #[.int .i64 b] 3)
  have r1 : (bw w T G n b r').heap[w.heap.size + 1]? = some (.cells #[.int .i64 b] 3 (0, 0)) := ((Kp.refl [] _).alloc _).row (by simp) (by rw [← z1]; exact heap_alloc_new _ _)
  have r2 : (bw w T G n b r').heap[w.heap.size + 1 + 1]? = some (.cells #[.int .i64 r'] 3 (0, 0)) := by rw [← z1, ← z2]; exact heap_alloc_new _ _
  exact ⟨(Lx.new w T G n).keep (((Kp.refl [] _).alloc _).alloc _) (by simp), cell_of_row r1 0, cell_of_row r2 0⟩
theorem Bk.keep {S : List Nat} {a : Nat} {b r' : Int} (h : Bk a T G n b r' w) (k : Kp S w w') (hS : ∀ x ∈ S, x < a) : Bk a T G n b r' w' :=
  ⟨h.lx.keep k (fun e => by have := hS _ e; omega), kp_cell k (fun e => by have := hS _ e; omega) h.cb, kp_cell k (fun e => by have := hS _ e; omega) h.cr⟩

theorem g_back_no (w : World) (T G n : Nat) (hn : n ≤ 64) (b r' : Int) (p : Addr) (h : runG n b r' = false) :
    Calls Tryd.prog 70 #[.iface 27 (.pointer (some p)), .agg #[.int .i64 T, .int .i64 G, .int .i64 n], .int .i64 b, .int .i64 r'] w fun e w' => e = .returned (.tuple #[]) ∧ Kp [] w w' := by
  have hh := Lib.hid (fun w => g_has T G n b r' w hn)
  rw [h] at hh
  have HK := Lib.hid (bw_kp w T G n b r')
  unfold bw at HK
  clear h
  go_enter Tryd.func70, Tryd.ntmps70
  go_wp2_with fail
  refine (hh.out _).mono ?_
  rintro e w1 ⟨rfl, hk⟩
  have K1 := Lib.hid (HK.out.trans hk)
  clear hk
  go_wp2
  exact bodyPost_ret (results_none Tryd.results70 _ _ _) rfl ⟨rfl, K1.out⟩

/-- What Back's region holds on to. -/
def Bs (a T G n : Nat) (b r' : Int) (p r : Nat) (w0 wx : World) : Prop :=
  wx.cell? ⟨a, 0, none⟩ = some (.int .i64 T) ∧ wx.cell? ⟨a, 1, none⟩ = some (.int .i64 G) ∧ wx.cell? ⟨a, 2, none⟩ = some (.int .i64 n) ∧ wx.cell? ⟨a + 1, 0, none⟩ = some (.int .i64 b) ∧ wx.cell? ⟨a + 1 + 1, 0, none⟩ = some (.int .i64 r') ∧ Kp [p, r] w0 wx
theorem bs_of {a : Nat} {b r' : Int} {w0 wx : World} (h : Bk a T G n b r' wx) (k : Kp [p, r] w0 wx) : Bs a T G n b r' p r w0 wx := ⟨h.lx.c0, h.lx.c1, h.lx.c2, h.cb, h.cr, k⟩
theorem bs_bk {a : Nat} {b r' : Int} {w0 wx : World} (h : Bs a T G n b r' p r w0 wx) : Bk a T G n b r' wx := ⟨⟨h.1, h.2.1, h.2.2.1⟩, h.2.2.2.1, h.2.2.2.2.1⟩
theorem bs_drew {a : Nat} {b r' : Int} {w0 wx : World} (h : Bs a T G n b r' p r w0 wx) : Bs a T G n b r' p r w0 wx.drew := bs_of ((bs_bk h).keep ((Kp.refl [] wx).drew) (by simp)) h.2.2.2.2.2.drew
theorem bs_step {a : Nat} {b r' : Int} {w0 wx wy : World} (h : Bs a T G n b r' p r w0 wx) (k : Kp [] wx wy) : Bs a T G n b r' p r w0 wy := bs_of ((bs_bk h).keep k (by simp)) (h.2.2.2.2.2.trans (k.mono (by simp)))
theorem bs_write {a : Nat} {b r' : Int} {w0 wx wy : World} (h : Bs a T G n b r' p r w0 wx) (hp : p < a ∧ r < a) (k : Kp [p, r] wx wy) : Bs a T G n b r' p r w0 wy := bs_of ((bs_bk h).keep k (by simp; omega)) (h.2.2.2.2.2.trans k)
end
end Go.Proofs.YtinkpbenmfnnhaaDoor

namespace Go.Proofs.YtinkpbenmfnnhaaDoor
set_option linter.unusedVariables false
set_option linter.unusedSimpArgs false
open Go.RowKit

section
variable {T G n p r t : Nat} {H : List Int} {w w' : World}
set_option maxRecDepth 100000 in
set_option maxHeartbeats 8000000 in
theorem g_back_in {M : Nat} (hM0 : H.getD 0 0 = M) (h : Hw T G n p r H t w) (ht : t ≤ 800000) (b r' : Nat) (h1 : 1 ≤ r') (h3 : r' ≤ 3) (hbn : b + r' ≤ n) :
    Calls Tryd.prog 70 #[.iface 27 (.pointer (some ⟨p, 0, none⟩)), .agg #[.int .i64 T, .int .i64 G, .int .i64 n], .int .i64 b, .int .i64 r'] w fun e w' => e = .returned (.tuple #[]) ∧ Hw T G n p r ((zer H (3 + T + G + b) r').set 0 (giveM M b r' : Int)) (t + r' + 1) w' ∧ Kp [p, r] w w' := by
  have hh := Lib.hid (fun w => g_has T G n b r' w h.hn)
  rw [runG_iff.2 (by omega)] at hh
  have hn := h.hn
  have hpl := h.lt
  have HML : Hid (M < 18446744073709551616) := Lib.hid (by
    have := (h.ok 0).2
    rw [hM0] at this
    exact Int.ofNat_lt.1 this)
  have HBK := Lib.hid (Bk.new w T G n b r')
  have HK := Lib.hid (bw_kp w T G n b r')
  have hen := Lib.hid (fun (k : Nat) (w : World) (hk : k < n) => entry_at (T := T) (G := G) (n := n) k w h.hT h.hG h.hn hk)
  have HWR : Hid (∀ (i : Nat) (w' : World), i < r' → Hw T G n p r (zer H (3 + T + G + (b + r' - i)) i) (t + i) w' → Calls Tryd.prog 108 #[.pointer (some ⟨p, 0, none⟩), .int .i64 ((3 + T + G + (b + r' - 1 - i) : Nat) : Int), .int .u64 0] w' fun e w2 => e = .returned (.tuple #[]) ∧ Hw T G n p r (zer H (3 + T + G + (b + r' - (i + 1))) (i + 1)) (t + (i + 1)) w2 ∧ Kp [p, r] w' w2) := by
    refine Lib.hid fun i w' hi hg => ?_
    have hl := hg.len
    have := wr_word hg (by omega) (3 + T + G + (b + r' - 1 - i)) (by omega) ((3 + T + G + (b + r' - 1 - i) : Nat) : Int) 0 rfl (by decide) (by decide)
    have hz := zer_down H (3 + T + G + (b + r' - (i + 1))) i
    rw [show 3 + T + G + (b + r' - (i + 1)) + 1 = 3 + T + G + (b + r' - i) from by omega] at hz
    rw [show b + r' - 1 - i = b + r' - (i + 1) from by omega] at this ⊢
    simp only [hz] at this
    exact this
  have HUP : Hid (∀ (w' : World), Hw T G n p r (zer H (3 + T + G + b) r') (t + r') w' → Bk w.heap.size T G n b r' w' → Calls Tryd.prog 107 #[.pointer (some ⟨p, 0, none⟩), .int .i64 0, .func (.func 81) #[] #[.pointer (some ⟨w.heap.size + 1, 0, none⟩), .pointer (some ⟨w.heap.size + 1 + 1, 0, none⟩)]] w' fun e w2 => e = .returned (.int .u64 M) ∧ Hw T G n p r ((zer H (3 + T + G + b) r').set 0 (giveM M b r' : Int)) (t + r' + 1) w2 ∧ Kp [p, r] w' w2 ∧ True) :=
    Lib.hid fun w' hg hb => up_map hg (by omega) 81 #[.pointer (some ⟨w.heap.size + 1, 0, none⟩), .pointer (some ⟨w.heap.size + 1 + 1, 0, none⟩)] M (giveM M b r') [] (fun _ => True) (by rw [zer_get, if_neg (by omega)]; exact hM0) (giveM_lt HML.out) (by simp) (by simp) (fun _ _ _ _ => trivial) (fun _ _ => rfl)
      (fun w1 k => cl_back HML.out _ _ w1 (kp_cell k (by simp; omega) hb.cb) (kp_cell k (by simp; omega) hb.cr))
  have HG0 : Hid (∀ w1, Kp [] (bw w T G n b r') w1 → Hw T G n p r (zer H (3 + T + G + (b + r' - 0)) 0) (t + 0) w1 ∧ Kp [p, r] w w1 ∧ Bk w.heap.size T G n b r' w1) :=
    Lib.hid fun w1 k => ⟨by rw [zer_none]; exact h.on ((bw_kp w T G n b r').trans k), ((bw_kp w T G n b r').trans k).mono (by simp), (Bk.new w T G n b r').keep k (by simp)⟩
  obtain ⟨⟨x0, x1, x2⟩, x3, x4⟩ := HBK.out
  have hna := na_write
  unfold bw at HK x0 x1 x2 x3 x4 HG0
  clear HBK
  go_enter Tryd.func70, Tryd.ntmps70
  go_wp2_with fail
  refine (hh.out _).mono ?_
  rintro e w1 ⟨rfl, hk⟩
  have G1 := HG0.out w1 hk
  have HG1 := Lib.hid G1
  obtain ⟨⟨a0, a1, a2⟩, a3, a4⟩ := G1.2.2
  clear hk G1 x0 x1 x2 x3 x4
  go_wp2_with fail
  go_loopg [19] r' (fun gg v19 wr => ∃ i : Nat, i + gg = r' ∧ v19 = .int .i64 i ∧ Hid (Hw T G n p r (zer H (3 + T + G + (b + r' - i)) i) (t + i) wr ∧ Kp [p, r] w wr ∧ Bk w.heap.size T G n b r' wr))
  case atStart => exact ⟨0, by omega, rfl, HG1⟩
  case round =>
    obtain ⟨i, hi, rfl, HR⟩ := hrel
    obtain ⟨⟨b0, b1, b2⟩, b3, b4⟩ := HR.out.2.2
    by_cases hlt : i < r'
    · have e1 := IntWalk.i64_in ((b : Int) + r') (by omega)
      have e2 := IntWalk.i64_in ((b : Int) + r' - 1) (by omega)
      have e3 := IntWalk.i64_in ((b : Int) + r' - 1 - i) (by omega)
      have e4 : (b : Int) + r' - 1 - i = ((b + r' - 1 - i : Nat) : Int) := by omega
      obtain ⟨k, hk⟩ : ∃ k, k = b + r' - 1 - i := ⟨_, rfl⟩
      have hkn : k < n := by omega
      have e5 := IntWalk.i64_in (k : Int) (by omega)
      have HWRi := Lib.hid (fun w' => HWR.out i w' hlt)
      rw [← hk] at e4 HWRi
      have henk := Lib.hid (fun w => hen.out k w hkn)
      clear hk
      go_wp2_with fail
      have HS := Lib.hid (bs_of HR.out.2.2 (Kp.refl [p, r] wr))
      have HP := Lib.hid hpl
      go_region_held3? (fun wx => wx.cell? ⟨w.heap.size, 0, none⟩ = some (.int .i64 T) ∧ wx.cell? ⟨w.heap.size, 1, none⟩ = some (.int .i64 G) ∧ wx.cell? ⟨w.heap.size, 2, none⟩ = some (.int .i64 n) ∧ wx.cell? ⟨w.heap.size + 1, 0, none⟩ = some (.int .i64 b) ∧ wx.cell? ⟨w.heap.size + 1 + 1, 0, none⟩ = some (.int .i64 r') ∧ Kp [p, r] wr wx)
        (first
          | assumption
          | exact bs_drew HS.out
          | exact bs_step ‹Bs w.heap.size T G n b r' p r wr _› hk9
          | exact bs_write ‹Bs w.heap.size T G n b r' p r wr _› HP.out hk8)
        (first
        | (go_at_call 41; refine (henk.out _).mono ?_; rintro e w3 ⟨rfl, hk9⟩
           have K3 : Hid (Kp [] wr w3) := Lib.hid (by refine Kp.trans ?_ hk9; exact ⟨rfl, rfl, rfl, Nat.le_refl _, fun _ _ _ => rfl⟩))
        | (go_at_call 108
           refine (HWRi.out _ (HR.out.1.on (K3.out.trans ?_))).mono ?_
           · exact ⟨rfl, rfl, rfl, Nat.le_refl _, fun _ _ _ => rfl⟩
           rintro e w4 ⟨rfl, hg, hk8⟩
           have G4 := Lib.hid hg
           have K4 : Hid (Kp [p, r] wr w4) := Lib.hid (by refine (K3.out.mono (by simp)).trans (Kp.trans ?_ hk8); exact ⟨rfl, rfl, rfl, Nat.le_refl _, fun _ _ _ => rfl⟩)
           clear hg))
      all_goals
        rename_i hHeld
        clear hHeld
        go_wp2_with fail
        go_roundg (r' - (i + 1))
        case rel => exact ⟨i + 1, by omega, by go_num, Lib.hid ⟨G4.out, HR.out.2.1.trans K4.out, HR.out.2.2.keep K4.out (by simp; omega)⟩⟩
        case measure => omega
    · obtain rfl : i = r' := by omega
      have HU := Lib.hid (HUP.out wr (by have := HR.out.1; rwa [show b + i - i = b from by omega] at this) HR.out.2.2)
      go_wp2_with fail
      refine HU.out.mono ?_
      rintro e w5 ⟨rfl, hg, hk, -⟩
      have G5 := Lib.hid hg
      have K5 := Lib.hid (HR.out.2.1.trans hk)
      clear hg hk
      go_wp2_with fail
      go_end0
      exact ⟨rfl, G5.out, K5.out⟩

end
end Go.Proofs.YtinkpbenmfnnhaaDoor

namespace Go.Proofs.YtinkpbenmfnnhaaDoor
set_option linter.unusedVariables false
set_option linter.unusedSimpArgs false
set_option maxRecDepth 100000
open Go.RowKit

/-- Blocks are given back; one block's turn, of an owner's that wait; all of them. -/
def backH (T G n : Nat) (H : List Int) (b r : Int) : List Int := if runG n b r then (zer H (3 + T + G + b.toNat) r.toNat).set 0 (giveM (H.getD 0 0).toNat b.toNat r.toNat : Int) else H
def turnH (T G n : Nat) (o : Int) (H : List Int) (i : Nat) : List Int := if waitsE (H.getD (3 + T + G + i) 0) o then backH T G n H i (Tb.blkE (H.getD (3 + T + G + i) 0 % 8) (H.getD (3 + T + G + i) 0 / 32 % 4)) else H
def waitH (T G n : Nat) (o : Int) (H : List Int) : Nat → List Int
  | 0 => H
  | i + 1 => turnH T G n o (waitH T G n o H i) i

/-- Back, whatever the block and the run. -/
theorem g_back {T G n p r t : Nat} {H : List Int} {w : World} (h : Hw T G n p r H t w) (ht : t ≤ 800000) (b r' : Int) (d : Nat) (hd : (if runG n b r' then r'.toNat + 1 else 0) = d) :
    Calls Tryd.prog 70 #[.iface 27 (.pointer (some ⟨p, 0, none⟩)), .agg #[.int .i64 T, .int .i64 G, .int .i64 n], .int .i64 b, .int .i64 r'] w fun e w' => e = .returned (.tuple #[]) ∧ Hw T G n p r (backH T G n H b r') (t + d) w' ∧ Kp [p, r] w w' := by
  cases hr : runG n b r'
  · rw [hr] at hd
    obtain rfl : d = 0 := by rw [← hd]; rfl
    unfold backH
    rw [if_neg (by rw [hr]; simp)]
    exact (g_back_no w T G n h.hn b r' _ hr).mono fun e w' ⟨h1, h2⟩ => ⟨h1, h.on h2, h2.mono (by simp)⟩
  · have hr' := runG_iff.1 hr
    obtain ⟨b', rfl⟩ := Int.eq_ofNat_of_zero_le (show 0 ≤ b by omega)
    obtain ⟨r2, rfl⟩ := Int.eq_ofNat_of_zero_le (show 0 ≤ r' by omega)
    obtain rfl : d = r2 + 1 := by rw [← hd, hr]; simp
    unfold backH
    rw [if_pos hr]
    exact g_back_in (by have := (h.ok 0).1; omega) h ht b' r2 (by omega) (by omega) (by omega)

theorem turn_no {T G n : Nat} {o : Int} {H : List Int} {i : Nat} {x : Int} (hx : H.getD (3 + T + G + i) 0 = x) (h : decide (ek x = 4 ∨ ek x = 5) = false) : turnH T G n o H i = H := by
  unfold turnH waitsE
  rw [hx]
  unfold ek at h
  cases ht : Tb.takeE x
  · rfl
  · rw [ht] at h
    simp only [if_true, decide_eq_false_iff_not] at h
    rw [if_neg]
    simp only [Bool.true_and, decide_eq_true_eq]
    exact fun hh => h hh.2
theorem turn_other {T G n : Nat} {o : Int} {H : List Int} {i : Nat} {x : Int} (hx : H.getD (3 + T + G + i) 0 = x) (h : decide (ek x = 4 ∨ ek x = 5) = true) (ho : (eo x == o) = false) : turnH T G n o H i = H := by
  unfold turnH waitsE
  rw [hx]
  unfold eo at ho
  cases ht : Tb.takeE x
  · rfl
  · rw [ht] at ho
    simp only [if_true, beq_eq_false_iff_ne, ne_eq] at ho
    rw [if_neg]
    simp only [Bool.true_and, decide_eq_true_eq]
    exact fun hh => ho hh.1
theorem turn_back {T G n : Nat} {o : Int} {H : List Int} {i : Nat} {x : Int} (hx : H.getD (3 + T + G + i) 0 = x) (h : decide (ek x = 4 ∨ ek x = 5) = true) (ho : (eo x == o) = true) : turnH T G n o H i = backH T G n H i (Tb.blkE (ek x) (er x)) := by
  unfold turnH waitsE
  rw [hx]
  unfold ek at h
  unfold eo at ho
  unfold ek er
  cases ht : Tb.takeE x
  · rw [ht] at h; simp at h
  · rw [ht] at ho h
    simp only [if_true, beq_iff_eq, decide_eq_true_eq] at ho h ⊢
    rw [if_pos (by simp only [Bool.true_and, decide_eq_true_eq]; exact ⟨ho, h⟩)]
theorem er_in {x : Int} (h0 : 0 ≤ x) : 0 ≤ er x ∧ er x ≤ 255 := by
  unfold er; split <;> omega

section
variable {T G n p r t : Nat} {H : List Int} {w w' : World}
/-- What Waiting's region holds on to. -/
def Ws (a T G n b : Nat) (k c r' o : Int) (p r : Nat) (w0 wx : World) : Prop :=
  wx.cell? ⟨a, 0, none⟩ = some (.int .i64 T) ∧ wx.cell? ⟨a, 1, none⟩ = some (.int .i64 G) ∧ wx.cell? ⟨a, 2, none⟩ = some (.int .i64 n) ∧ wx.cell? ⟨b, 0, none⟩ = some (.int .u8 k) ∧ wx.cell? ⟨b, 1, none⟩ = some (.int .u8 c) ∧ wx.cell? ⟨b, 2, none⟩ = some (.int .u8 r') ∧ wx.cell? ⟨b, 3, none⟩ = some (.int .u8 o) ∧ Kp [p, r] w0 wx
theorem ws_of {a b : Nat} {k c r' o : Int} {w0 wx : World} (h : Lx a T G n wx) (hb : wx.heap[b]? = some (.cells (cs4 k c r' o) 84 (0, 0))) (kk : Kp [p, r] w0 wx) : Ws a T G n b k c r' o p r w0 wx :=
  ⟨h.c0, h.c1, h.c2, cell_of_row hb 0, cell_of_row hb 1, cell_of_row hb 2, cell_of_row hb 3, kk⟩
theorem ws_keep {a b : Nat} {k c r' o : Int} {w0 wx wy : World} {S : List Nat} (h : Ws a T G n b k c r' o p r w0 wx) (kk : Kp S wx wy) (hS : ∀ x ∈ S, x = p ∨ x = r) (ha : p ≠ a ∧ r ≠ a ∧ p ≠ b ∧ r ≠ b) : Ws a T G n b k c r' o p r w0 wy := by
  obtain ⟨h0, h1, h2, h3, h4, h5, h6, h7⟩ := h
  have na : a ∉ S := fun e => by rcases hS _ e with e | e <;> omega
  have nb : b ∉ S := fun e => by rcases hS _ e with e | e <;> omega
  exact ⟨kp_cell kk na h0, kp_cell kk na h1, kp_cell kk na h2, kp_cell kk nb h3, kp_cell kk nb h4, kp_cell kk nb h5, kp_cell kk nb h6, h7.trans (kk.mono fun x hx _ => by rcases hS _ hx with e | e <;> simp [e])⟩

set_option maxHeartbeats 4000000 in
theorem g_waiting (h : Hw T G n p r H t w) (ht : t ≤ 700000) (o : Int) (f : FuncId) (cap : Array Value)
    (hen : ∀ (x : Value) (w : World), (callFunc f (#[x] ++ cap)).run Tryd.prog w = .ok (.enter f (#[x] ++ cap)) w)
    (hIs : ∀ (o' : Int) (w' : World), Kp [p, r] w w' → Calls Tryd.prog f (#[.int .u8 o'] ++ cap) w' fun e w2 => e = .returned (.bool (o' == o)) ∧ Kp [] w' w2) :
    Calls Tryd.prog 54 #[.iface 27 (.pointer (some ⟨p, 0, none⟩)), .agg #[.int .i64 T, .int .i64 G, .int .i64 n], .func (.func f) #[] cap] w fun e w' => ∃ t', t ≤ t' ∧ t' ≤ t + 5 * n ∧ e = .returned (.tuple #[]) ∧ Hw T G n p r (waitH T G n o H n) t' w' ∧ Kp [p, r] w w' := by
  have hB := Lib.hid (fun w => Ly.blocks_is T G n w)
  have hfn : ∀ (g : FuncId) (first cap : Array Value) (w : World), (binOp .eql 101 (.func (.func g) first cap) .nilFunc).run Tryd.prog w = .ok (.bool false) w := fun _ _ _ _ => rfl
  have hn := h.hn
  have hpl := h.lt
  have HG := Lib.hid h
  have HI := Lib.hid hIs
  have HT := Lib.hid ht
  have HX : Hid (∀ w1, Kp [] (w.alloc (.cells #[.int .i64 T, .int .i64 G, .int .i64 n] 29)) w1 → Lx w.heap.size T G n w1 ∧ Kp [] w w1) := Lib.hid fun w1 k => ⟨(Lx.new w T G n).keep k (by simp), ((Kp.refl [] w).alloc _).trans k⟩
  clear hIs h
  go_enter Tryd.func54, Tryd.ntmps54
  go_wp2_with fail
  refine (hB.out _).mono ?_
  rintro e w1 ⟨rfl, hk⟩
  have H1 := Lib.hid (HX.out w1 hk)
  clear hk
  go_wp2_with fail
  go_loopg [12] n (fun gg v12 wr => ∃ i : Nat, i + gg = n ∧ v12 = .int .i64 i ∧ Hid (∃ t', t ≤ t' ∧ t' ≤ t + 5 * i ∧ Hw T G n p r (waitH T G n o H i) t' wr ∧ Kp [p, r] w wr ∧ Lx w.heap.size T G n wr))
  case atStart => exact ⟨0, by omega, rfl, Lib.hid ⟨t, by omega, by omega, HG.out.on H1.out.2, H1.out.2.mono (by simp), H1.out.1⟩⟩
  case round =>
    obtain ⟨i, hi, rfl, HR⟩ := hrel
    obtain ⟨t', t0, t1, hg, hkw, hlx⟩ := HR.out
    by_cases hlt : i < n
    · obtain ⟨x, hx⟩ : ∃ x, (waitH T G n o H i).getD (3 + T + G + i) 0 = x := ⟨_, rfl⟩
      have hx0 := hg.ok (3 + T + G + i)
      rw [hx] at hx0
      have h6 := er_in hx0.1
      have HE := Lib.hid (g_entry hg (by have := HT.out; omega) i hlt x hx)
      have HL : Hid (Lx w.heap.size T G n wr) := Lib.hid hlx
      obtain ⟨b0, b1, b2⟩ := HL.out
      have HK := Lib.hid hkw
      obtain ⟨q, hq⟩ : ∃ q, decide (ek x = 4 ∨ ek x = 5) = q := ⟨_, rfl⟩
      obtain ⟨s, hs⟩ : ∃ s, (eo x == o) = s := ⟨_, rfl⟩
      have H7 : Hid (∀ w', Hw T G n p r (waitH T G n o H i) (t' + 1) w' → q = true → s = true → ∃ d, d ≤ 4 ∧ Calls Tryd.prog 70 #[.iface 27 (.pointer (some ⟨p, 0, none⟩)), .agg #[.int .i64 T, .int .i64 G, .int .i64 n], .int .i64 i, .int .i64 (Tb.blkE (ek x) (er x))] w' fun e w2 => e = .returned (.tuple #[]) ∧ Hw T G n p r (waitH T G n o H (i + 1)) (t' + 1 + d) w2 ∧ Kp [p, r] w' w2) := by
        refine Lib.hid fun w' hg' hq' hs' => ?_
        have := g_back hg' (by have := HT.out; omega) i (Tb.blkE (ek x) (er x)) _ rfl
        rw [← turn_back (o := o) hx (hq.trans hq') (hs.trans hs')] at this
        refine ⟨_, ?_, this⟩
        split
        · rename_i hh
          have := runG_iff.1 hh
          omega
        · omega
      have HN1 : Hid (q = false → waitH T G n o H (i + 1) = waitH T G n o H i) := Lib.hid fun hq' => turn_no hx (hq.trans hq')
      have HN2 : Hid (q = true → s = false → waitH T G n o H (i + 1) = waitH T G n o H i) := Lib.hid fun hq' hs' => turn_other hx (hq.trans hq') (hs.trans hs')
      have HWt := Lib.hid (fun w => g_waits (ek x) (ec x) (er x) (eo x) q w hq)
      have HBl := Lib.hid (fun w => Tb.blocks_is (ek x) (ec x) (er x) (eo x) w h6.1 h6.2)
      have HIx := Lib.hid (fun w' hw' => (HI.out (eo x) w' hw'))
      simp only [hs] at HIx
      have HTT := Lib.hid (And.intro t0 t1)
      clear hx0 hq hs hg hkw hlx t0 t1 HR h6 hx
      generalize Tb.blkE (ek x) (er x) = bl at H7 HBl
      generalize ek x = xk at HE HWt HBl
      generalize ec x = xc at HE HWt HBl
      generalize er x = xr at HE HWt HBl
      generalize eo x = xo at HE HWt HBl HIx
      go_wp2_with fail
      refine HE.out.mono ?_
      rintro e w2 ⟨rfl, hg2, hk2⟩
      have G2 := Lib.hid hg2
      have K2 := Lib.hid (HK.out.trans hk2)
      have z0 : w.heap.size < wr.heap.size := World.block_lt_of_cell? _ _ b0
      have z2 := hk2.size
      have kA : Kp [] w2 (w2.alloc (.cells (cs4 xk xc xr xo) 84)) := (Kp.refl _ _).alloc _
      have L3 := Lib.hid ((HL.out.keep hk2 (by simp; omega)).keep kA (by simp))
      have R3 := Lib.hid (heap_alloc_new w2 (.cells (cs4 xk xc xr xo) 84))
      have G3 := Lib.hid (hg2.on kA)
      have K3 := Lib.hid (K2.out.trans (kA.mono (by simp)))
      clear hg2 hk2 kA b0 b1 b2 HL HE
      unfold cs4 at L3 R3 G3 K3
      go_wp2_with fail
      refine (HWt.out _).mono ?_
      rintro e w4 ⟨rfl, hk4⟩
      have hr4 := hk4.row (by simp) R3.out
      have G4 := Lib.hid (G3.out.on hk4)
      have K4 := Lib.hid (K3.out.trans (hk4.mono (by simp)))
      have L4 := Lib.hid (L3.out.keep hk4 (by simp))
      have R4 := Lib.hid hr4
      have c3 : w4.cell? ⟨w2.heap.size, 3, none⟩ = some (.int .u8 xo) := cell_of_row hr4 3
      clear hk4 hr4 L3 R3 G3 K3
      cases q
      · go_wp2_with fail
        go_roundg (n - (i + 1))
        case rel => exact ⟨i + 1, by omega, by go_num, Lib.hid ⟨t' + 1, by have := HTT.out; omega, by have := HTT.out; omega, by rw [HN1.out (by simp)]; exact G4.out, K4.out, L4.out⟩⟩
        case measure => omega
      · go_wp2_with fail
        refine (HIx.out _ K4.out).mono ?_
        rintro e w5 ⟨rfl, hk5⟩
        have hr5 := hk5.row (by simp) R4.out
        have G5 := Lib.hid (G4.out.on hk5)
        have K5 := Lib.hid (K4.out.trans (hk5.mono (by simp)))
        have L5 := Lib.hid (L4.out.keep hk5 (by simp))
        have R5 := Lib.hid hr5
        clear hk5 hr5 c3 L4 R4 G4 K4
        cases s
        · go_wp2_with fail
          go_roundg (n - (i + 1))
          case rel => exact ⟨i + 1, by omega, by go_num, Lib.hid ⟨t' + 1, by have := HTT.out; omega, by have := HTT.out; omega, by rw [HN2.out (by simp) (by simp)]; exact G5.out, K5.out, L5.out⟩⟩
          case measure => omega
        · have HS := Lib.hid (ws_of L5.out R5.out (Kp.refl [p, r] w5))
          have HP : Hid (p ≠ w.heap.size ∧ r ≠ w.heap.size ∧ p ≠ w2.heap.size ∧ r ≠ w2.heap.size) := Lib.hid (by omega)
          go_wp2_with fail
          go_region_held3 (fun wx => wx.cell? ⟨w.heap.size, 0, none⟩ = some (.int .i64 T) ∧ wx.cell? ⟨w.heap.size, 1, none⟩ = some (.int .i64 G) ∧ wx.cell? ⟨w.heap.size, 2, none⟩ = some (.int .i64 n) ∧ wx.cell? ⟨w2.heap.size, 0, none⟩ = some (.int .u8 xk) ∧ wx.cell? ⟨w2.heap.size, 1, none⟩ = some (.int .u8 xc) ∧ wx.cell? ⟨w2.heap.size, 2, none⟩ = some (.int .u8 xr) ∧ wx.cell? ⟨w2.heap.size, 3, none⟩ = some (.int .u8 xo) ∧ Kp [p, r] w5 wx)
            (first
              | assumption
              | exact ws_keep HS.out ((Kp.refl [] _).drew) (by simp) HP.out
              | exact ws_keep ‹Ws w.heap.size T G n w2.heap.size xk xc xr xo p r w5 _› hk9 (by simp) HP.out
              | exact ws_keep ‹Ws w.heap.size T G n w2.heap.size xk xc xr xo p r w5 _› hk8 (by simp) HP.out)
            (first
            | (go_at_call 71; refine (HBl.out _).mono ?_; rintro e w6 ⟨rfl, hk9⟩
               have K6 : Hid (Kp [] w5 w6) := Lib.hid (by refine Kp.trans ?_ hk9; exact ⟨rfl, rfl, rfl, Nat.le_refl _, fun _ _ _ => rfl⟩))
            | (go_at_call 70
               obtain ⟨d, hd, hbk⟩ := H7.out w6 (G5.out.on K6.out) (by simp) (by simp)
               refine hbk.mono ?_
               rintro e w7 ⟨rfl, hg, hk8⟩
               have G7 := Lib.hid hg
               have K7 : Hid (Kp [p, r] w5 w7) := Lib.hid ((K6.out.mono (by simp)).trans hk8)
               clear hg hbk))
          all_goals
            rename_i hHeld
            clear hHeld
            go_wp2_with fail
            go_roundg (n - (i + 1))
            case rel => exact ⟨i + 1, by omega, by go_num, Lib.hid ⟨t' + 1 + d, by have := HTT.out; omega, by have := HTT.out; omega, G7.out, K5.out.trans K7.out, L5.out.keep K7.out (by have := HP.out; simp; omega)⟩⟩
            case measure => omega
    · obtain rfl : i = n := by omega
      have HF := Lib.hid (show ∃ t', t ≤ t' ∧ t' ≤ t + 5 * i ∧ Hw T G i p r (waitH T G i o H i) t' wr ∧ Kp [p, r] w wr from ⟨t', t0, t1, hg, hkw⟩)
      go_wp2_with fail
      obtain ⟨t2, e1, e2, e3, e4⟩ := HF.out
      go_end0
      exact ⟨t2, e1, e2, rfl, e3, e4⟩
end
end Go.Proofs.YtinkpbenmfnnhaaDoor
