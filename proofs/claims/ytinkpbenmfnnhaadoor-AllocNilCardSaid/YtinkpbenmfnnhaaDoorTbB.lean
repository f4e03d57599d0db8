/- The walks of layer table, on: an entry's word and back (Put, Take). Conditions: as each theorem states them (the numbers are those of a uint8, of a uint64). -/
import Derived.Test.YtinkpbenmfnnhaaDoorTb
namespace Go.Proofs.YtinkpbenmfnnhaaDoor.Tb
set_option linter.unusedVariables false
set_option linter.unusedSimpArgs false
open Go.RowKit

theorem put_yes (k c r o : Int) (w : World) (hk : 0 ≤ k) (hc : 0 ≤ c) (hr : 0 ≤ r) (ho : 0 ≤ o) (h : mayE k c r o = true) :
    Calls Tryd.prog 39 #[.agg #[.int .u8 k, .int .u8 c, .int .u8 r, .int .u8 o]] w fun e w' => e = .returned (.tuple #[.int .u64 (wordE k c r o), .int .i64 0]) ∧ Kp [] w w' := by
  have hm := mayE_iff.1 h
  have o1 := or_mul k c 8 3 (by omega) (by decide) hk (by omega) hc (by omega)
  have o2 := or_mul (k + c * 8) r 32 5 (by omega) (by decide) (by omega) (by omega) hr (by omega)
  have o3 := or_mul (k + c * 8 + r * 32) o 128 7 (by omega) (by decide) (by omega) (by omega) ho (by omega)
  have hw : k + c * 8 + r * 32 + o * 128 = wordE k c r o := rfl
  rw [hw] at o3
  have hmay := Lib.hid (fun w => may_is k c r o true w hk hc hr ho h)
  have hm1 : k ≤ 5 ∧ c ≤ 3 ∧ o ≤ 63 ∧ r ≤ 3 := ⟨hm.1, hm.2.1, hm.2.2.1, hm.2.2.2.1⟩
  obtain ⟨m1, m2, m3, m4⟩ := hm1
  clear hm h hw
  go_enter Tryd.func39, Tryd.ntmps39
  go_wp2_with fail
  refine (hmay.out _).mono ?_; rintro e w1 ⟨rfl, hkp⟩
  have hb := hkp.to_below
  obtain ⟨hc1, hf1⟩ := bcell hb
  have kp := Lib.hid (((Kp.refl [] w).alloc _).trans hkp)
  clear hb hkp
  go_wp2
  go_ret2
  exact ⟨rfl, kp.out⟩

theorem put_no (k c r o : Int) (w : World) (hk : 0 ≤ k) (hc : 0 ≤ c) (hr : 0 ≤ r) (ho : 0 ≤ o) (h : mayE k c r o = false) :
    Calls Tryd.prog 39 #[.agg #[.int .u8 k, .int .u8 c, .int .u8 r, .int .u8 o]] w fun e w' => e = .returned (.tuple #[.int .u64 0, .int .i64 2]) ∧ Kp [] w w' := by
  have hmay := Lib.hid (fun w => may_is k c r o false w hk hc hr ho h)
  clear h
  go_enter Tryd.func39, Tryd.ntmps39
  go_wp2_with fail
  refine (hmay.out _).mono ?_; rintro e w1 ⟨rfl, hkp⟩
  have kp := Lib.hid (((Kp.refl [] w).alloc _).trans hkp)
  clear hkp
  go_wp2
  go_ret2
  exact ⟨rfl, kp.out⟩

theorem part_any (f t x q d : Int) (b : Nat) (w : World) (h0 : 0 ≤ f) (h1 : f < t) (h2 : t - f ≤ 8) (ht2 : t ≤ 25) (hq : q = 2 ^ (t - f).toNat) (hd : d = 2 ^ f.toNat) (hx : 0 ≤ x) (hx2 : x < 18446744073709551616) (hc : w.cell? ⟨b, 0, none⟩ = some (.int .u64 x)) :
    Calls Tryd.prog 84 #[.int .i64 f, .int .i64 t, .pointer (some ⟨b, 0, none⟩)] w fun e w' => e = .returned (.int .u8 (x / d % q)) ∧ w.drew = w' := by
  have hh := and_part x q d f.toNat (t - f).toNat (by omega) hq hd hx hx2
  have hm := part_u8 (x / d) q (t - f).toNat (by omega) hq
  clear hq hd hx2
  go_enter Tryd.func84, Tryd.ntmps84
  go_wp2
  go_region
  go_wp2
  go_ret
  exact ⟨rfl, rfl⟩

theorem unpack_is (x : Int) (w : World) (h0 : 0 ≤ x) (h1 : x < 18446744073709551616) :
    Calls Tryd.prog 73 #[.int .u64 x] w fun e w' => e = .returned (.agg #[.int .u8 (x % 8), .int .u8 (x / 8 % 4), .int .u8 (x / 32 % 4), .int .u8 (x / 128 % 64)]) ∧ Kp [] w w' := by
  have H1 := Lib.hid h1
  clear h1
  go_enter Tryd.func73, Tryd.ntmps73
  go_wp2_with fail
  refine (part_any 0 3 x 8 1 w.heap.size _ (by omega) (by omega) (by omega) (by omega) (by decide) (by decide) h0 H1.out (by simp)).mono ?_; rintro e w' ⟨rfl, rfl⟩
  go_wp2_with fail
  refine (part_any 3 5 x 4 8 w.heap.size _ (by omega) (by omega) (by omega) (by omega) (by decide) (by decide) h0 H1.out (by simp)).mono ?_; rintro e w' ⟨rfl, rfl⟩
  go_wp2_with fail
  refine (part_any 5 7 x 4 32 w.heap.size _ (by omega) (by omega) (by omega) (by omega) (by decide) (by decide) h0 H1.out (by simp)).mono ?_; rintro e w' ⟨rfl, rfl⟩
  go_wp2_with fail
  refine (part_any 7 13 x 64 128 w.heap.size _ (by omega) (by omega) (by omega) (by omega) (by decide) (by decide) h0 H1.out (by simp)).mono ?_; rintro e w' ⟨rfl, rfl⟩
  go_wp2
  go_returns
  exact ⟨rfl, kp_of_below (by go_grown)⟩

theorem take_high (x : Int) (w : World) (h0 : 0 ≤ x) (h1 : x < 18446744073709551616) (h : 8192 ≤ x) :
    Calls Tryd.prog 59 #[.int .u64 x] w fun e w' => e = .returned (.tuple #[.agg #[.int .u8 0, .int .u8 0, .int .u8 0, .int .u8 0], .int .i64 3]) ∧ Kp [] w w' := by
  have H1 := Lib.hid h1
  clear h1
  have hne : (x / 8192 != 0) = true := by simp; omega
  clear h
  go_enter Tryd.func59, Tryd.ntmps59
  go_wp2_with fail
  refine (unpack_is x _ h0 H1.out).mono ?_; rintro e w1 ⟨rfl, hk⟩
  have blk := Lib.hid (hk.row (by simp) (heap_alloc_new w _))
  have kp := Lib.hid (((Kp.refl [] w).alloc _).trans hk)
  have hz : w.heap.size < w1.heap.size := by have := hk.size; simp at this; omega
  clear hk
  go_wp2_with (refine wpList_store_row rfl 84 _ _ rfl w.heap.size _ rfl rfl 84 _ ((Below.heap_alloc _ _ _ hz).trans blk.out) (by kernel_rfl) rfl (by simp [Value.oneCell']) ?_)
  exact bodyPost_row_tmp rfl w.heap.size 84 _ (0, 0) _ (.int .i64 3) rfl rfl rfl (setRow_heap _ _ _ _ _ _ ((Below.heap_alloc _ _ _ hz).trans blk.out)) Tryd.underlying84 rfl (by kernel_rfl)
    ⟨rfl, (kp.out.alloc _).setRow (.inr (Nat.le_refl _)) _⟩

theorem take_low (x n k c r o : Int) (b : Bool) (w : World) (h0 : 0 ≤ x) (h : x < 8192) (hm : mayE (x % 8) (x / 8 % 4) (x / 32 % 4) (x / 128 % 64) = b)
    (hb : (b = true ∧ n = 0 ∧ k = x % 8 ∧ c = x / 8 % 4 ∧ r = x / 32 % 4 ∧ o = x / 128 % 64) ∨ (b = false ∧ n = 3 ∧ k = 0 ∧ c = 0 ∧ r = 0 ∧ o = 0)) :
    Calls Tryd.prog 59 #[.int .u64 x] w fun e w' => e = .returned (.tuple #[.agg #[.int .u8 k, .int .u8 c, .int .u8 r, .int .u8 o], .int .i64 n]) ∧ Kp [] w w' := by
  have hne : (x / 8192 != 0) = false := by simp; omega
  have hx : x < 18446744073709551616 := by omega
  have H1 := Lib.hid hx
  have hmay := Lib.hid (fun w => may_is _ _ _ _ b w (by omega) (by omega) (by omega) (by omega) hm)
  clear hx h hm
  rcases hb with ⟨rfl, rfl, rfl, rfl, rfl, rfl⟩ | ⟨rfl, rfl, rfl, rfl, rfl, rfl⟩
  · go_enter Tryd.func59, Tryd.ntmps59
    go_wp2_with fail
    refine (unpack_is x _ h0 H1.out).mono ?_; rintro e w1 ⟨rfl, hk⟩
    have blk := Lib.hid (hk.row (by simp) (heap_alloc_new w _))
    have kp := Lib.hid (((Kp.refl [] w).alloc _).trans hk)
    have hz : w.heap.size < w1.heap.size := by have := hk.size; simp at this; omega
    clear hk
    go_wp2_with fail
    refine (hmay.out _).mono ?_; rintro e w2 ⟨rfl, hk⟩
    have hb := hk.to_below
    obtain ⟨hc1, hf1⟩ := bcell hb
    have blk2 := Lib.hid (hk.row (by simp) ((Below.heap_alloc _ _ _ hz).trans blk.out))
    have kp2 := Lib.hid ((kp.out.alloc _).trans hk)
    clear hk hb
    go_wp2_with (refine wpList_store_row rfl 84 _ _ rfl w.heap.size _ rfl rfl 84 _ blk2.out (by kernel_rfl) rfl (by simp [Value.oneCell']) ?_)
    exact bodyPost_row_tmp rfl w.heap.size 84 _ (0, 0) _ (.int .i64 0) rfl rfl rfl (setRow_heap _ _ _ _ _ _ blk2.out) Tryd.underlying84 rfl (by kernel_rfl)
      ⟨rfl, kp2.out.setRow (.inr (Nat.le_refl _)) _⟩
  · go_enter Tryd.func59, Tryd.ntmps59
    go_wp2_with fail
    refine (unpack_is x _ h0 H1.out).mono ?_; rintro e w1 ⟨rfl, hk⟩
    have blk := Lib.hid (hk.row (by simp) (heap_alloc_new w _))
    have kp := Lib.hid (((Kp.refl [] w).alloc _).trans hk)
    have hz : w.heap.size < w1.heap.size := by have := hk.size; simp at this; omega
    clear hk
    go_wp2_with fail
    refine (hmay.out _).mono ?_; rintro e w2 ⟨rfl, hk⟩
    have blk2 := Lib.hid (hk.row (by simp) ((Below.heap_alloc _ _ _ hz).trans blk.out))
    have kp2 := Lib.hid ((kp.out.alloc _).trans hk)
    clear hk
    go_wp2_with (refine wpList_store_row rfl 84 _ _ rfl w.heap.size _ rfl rfl 84 _ blk2.out (by kernel_rfl) rfl (by simp [Value.oneCell']) ?_)
    exact bodyPost_row_tmp rfl w.heap.size 84 _ (0, 0) _ (.int .i64 3) rfl rfl rfl (setRow_heap _ _ _ _ _ _ blk2.out) Tryd.underlying84 rfl (by kernel_rfl)
      ⟨rfl, kp2.out.setRow (.inr (Nat.le_refl _)) _⟩

theorem take_some (x : Int) (w : World) (h0 : 0 ≤ x) (h : takeE x = true) :
    Calls Tryd.prog 59 #[.int .u64 x] w fun e w' => e = .returned (.tuple #[.agg #[.int .u8 (x % 8), .int .u8 (x / 8 % 4), .int .u8 (x / 32 % 4), .int .u8 (x / 128 % 64)], .int .i64 0]) ∧ Kp [] w w' := by
  have h' := h
  simp only [takeE, Bool.and_eq_true, decide_eq_true_eq] at h'
  exact take_low x 0 _ _ _ _ true w h0 h'.1 h'.2 (.inl ⟨rfl, rfl, rfl, rfl, rfl, rfl⟩)
theorem take_none (x : Int) (w : World) (h0 : 0 ≤ x) (h1 : x < 18446744073709551616) (h : takeE x = false) :
    Calls Tryd.prog 59 #[.int .u64 x] w fun e w' => e = .returned (.tuple #[.agg #[.int .u8 0, .int .u8 0, .int .u8 0, .int .u8 0], .int .i64 3]) ∧ Kp [] w w' := by
  by_cases hx : x < 8192
  · refine take_low x 3 _ _ _ _ false w h0 hx ?_ (.inr ⟨rfl, rfl, rfl, rfl, rfl, rfl⟩)
    simpa [takeE, hx] using h
  · exact take_high x w h0 h1 (by omega)

end Go.Proofs.YtinkpbenmfnnhaaDoor.Tb
