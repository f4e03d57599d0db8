/- The walks of package shade, on: dye, the closures, Shade and Blacken over an arena; and the document's own. Conditions: as each theorem states them (the numbers are those of a uint8, of a uint64). -/
import Derived.Test.YtjdihjndcpkndaaShA
import Derived.Test.YtjdihjndcpkndaaArnK
import Derived.Deep.RegionWith
namespace Go.Proofs.Ytjdihjndcpkndaa
set_option linter.unusedVariables false
set_option linter.unusedSimpArgs false
open Go.RowKit

theorem sput_yes (k c o r s y : Int) (g m : Bool) (w : World) (hk : 0 ≤ k) (hc : 0 ≤ c) (ho : 0 ≤ o) (hr : 0 ≤ r) (hs : 0 ≤ s) (h : mayB k c o r s g m = true) (hy : wordI k c o r s g m = y) :
    Calls Try.prog 27 #[.agg #[.int .u8 k, .int .u8 c, .bool g, .bool m, .int .u8 o, .int .u8 r, .int .u8 s]] w fun e w' => e = .returned (.tuple #[.int .u64 y, .int .i64 0]) ∧ Kp [] w w' :=
  (put_yes k c o r s g m w hk hc ho hr hs h).mono fun e w' ⟨he, hb⟩ => ⟨by rw [he, hy], kp_of_below hb⟩

abbrev hcells (k c : Int) (g m : Bool) (o r s : Int) : Array Value := #[.int .u8 k, .int .u8 c, .bool g, .bool m, .int .u8 o, .int .u8 r, .int .u8 s]

/-- 'dye' of a Global object's header, by a closure that changes colour and grey alone. -/
theorem dye_core (f : FuncId) (cap : Array Value) (x k c o r s c2 y : Int) (g g2 m : Bool) (w : World)
    (hen : ∀ (v : Value) (w : World), (callFunc f (#[v] ++ cap)).run Try.prog w = .ok (.enter f (#[v] ++ cap)) w)
    (hT : Hid (∀ w, Calls Try.prog 16 #[.int .u64 x] w fun e w' => e = .returned (.tuple #[.agg (hcells k c g m o r s), .bool true]) ∧ Kp [] w w'))
    (hf : Hid (∀ w' b, Kp [] w w' → w'.heap[b]? = some (.cells (hcells k c g m o r s) 40 (0, 0)) → Calls Try.prog f (#[.pointer (some ⟨b, 0, none⟩)] ++ cap) w' fun e w2 => e = .returned (.tuple #[]) ∧ Kp [b] w' w2 ∧ w2.heap[b]? = some (.cells (hcells k c2 g2 m o r s) 40 (0, 0))))
    (hP : Hid (∀ w, Calls Try.prog 27 #[.agg (hcells k c2 g2 m o r s)] w fun e w' => e = .returned (.tuple #[.int .u64 y, .int .i64 0]) ∧ Kp [] w w')) :
    Calls Try.prog 21 #[.int .u64 x, .func (.func f) #[] cap] w fun e w' => e = .returned (.int .u64 y) ∧ Kp [] w w' := by
  go_enter Try.func21, Try.ntmps21
  go_wp2_with fail
  refine (hT.out _).mono ?_; rintro e w1 ⟨rfl, hk⟩
  have HK := Lib.hid (hk.alloc (.cells (hcells k c g m o r s) 40))
  have hz := hk.size
  clear hk
  go_wp2_with fail
  refine (hf.out _ w1.heap.size HK.out (heap_alloc_new w1 _)).mono ?_; rintro e w2 ⟨rfl, k2, hb⟩
  have K2 := Lib.hid (HK.out.trans_new k2 hz)
  have c0 := cell_of_row hb 0
  have c1 := cell_of_row hb 1
  have c2' := cell_of_row hb 2
  have c3 := cell_of_row hb 3
  have c4 := cell_of_row hb 4
  have c5 := cell_of_row hb 5
  have c6 := cell_of_row hb 6
  simp only [hcells, List.getElem?_toArray, List.getElem?_cons_zero, List.getElem?_cons_succ] at c0 c1 c2' c3 c4 c5 c6
  clear hb k2 HK hz
  go_wp2_with fail
  refine (hP.out _).mono ?_; rintro e w3 ⟨rfl, k3⟩
  have K3 := Lib.hid (K2.out.trans k3)
  clear k3 K2 c0 c1 c2' c3 c4 c5 c6
  go_wp2
  go_ret
  exact ⟨rfl, K3.out⟩

/-- 'dye' of what is no Global object's. -/
theorem dye_not (fv : Value) (x : Int) (w : World) (h0 : 0 ≤ x) (h1 : x < 18446744073709551616) (h : glob x = false) :
    Calls Try.prog 21 #[.int .u64 x, fv] w fun e w' => e = .returned (.int .u64 x) ∧ Kp [] w w' := by
  obtain ⟨k, c, o, r, s, g, m, hT⟩ := stake_not x w h0 h1 h
  clear h1
  go_enter Try.func21, Try.ntmps21
  go_wp2_with fail
  refine (hT.out _).mono ?_; rintro e w1 ⟨rfl, hk⟩
  have HK := Lib.hid (hk.alloc (.cells (hcells k c g m o r s) 40))
  clear hk
  go_wp2
  go_ret
  exact ⟨rfl, HK.out⟩

/-- The closures that change a header. -/
theorem ch_shade (w : World) (b d : Nat) (k c o r s cc : Int) (g m : Bool) (hb : w.heap[b]? = some (.cells (hcells k c g m o r s) 40 (0, 0))) (hc : w.cell? ⟨d, 0, none⟩ = some (.int .u8 cc)) :
    Calls Try.prog 22 #[.pointer (some ⟨b, 0, none⟩), .pointer (some ⟨d, 0, none⟩)] w fun e w2 => e = .returned (.tuple #[]) ∧ Kp [b] w w2 ∧ w2.heap[b]? = some (.cells (hcells k cc true m o r s) 40 (0, 0)) := by
  have c1 := cell_of_row hb 1
  have c2 := cell_of_row hb 2
  have f := free_of_row hb
  simp only [hcells, List.getElem?_toArray, List.getElem?_cons_zero, List.getElem?_cons_succ] at c1 c2
  have e1 := heap_setCell_same w b 1 _ _ (.int .u8 cc) hb
  have e2 := heap_setCell_same _ b 2 _ _ (.bool true) e1
  have E2 := Lib.hid e2
  have KK := Lib.hid (((Kp.refl [b] w).setCell (p := ⟨b, 1, none⟩) (.inl (by simp)) (.int .u8 cc)).setCell (p := ⟨b, 2, none⟩) (.inl (by simp)) (.bool true))
  clear e1 e2 hb
  go_enter Try.func22, Try.ntmps22
  go_wp2
  go_end0
  exact ⟨rfl, KK.out, by simpa using E2.out⟩

theorem ch_black (w : World) (b : Nat) (k c o r s : Int) (g m : Bool) (hb : w.heap[b]? = some (.cells (hcells k c g m o r s) 40 (0, 0))) :
    Calls Try.prog 26 #[.pointer (some ⟨b, 0, none⟩)] w fun e w2 => e = .returned (.tuple #[]) ∧ Kp [b] w w2 ∧ w2.heap[b]? = some (.cells (hcells k c false m o r s) 40 (0, 0)) := by
  have c2 := cell_of_row hb 2
  have f := free_of_row hb
  simp only [hcells, List.getElem?_toArray, List.getElem?_cons_zero, List.getElem?_cons_succ] at c2
  have e2 := heap_setCell_same w b 2 _ _ (.bool false) hb
  have E2 := Lib.hid e2
  have KK := Lib.hid ((Kp.refl [b] w).setCell (p := ⟨b, 2, none⟩) (.inl (by simp)) (.bool false))
  clear e2 hb
  go_enter Try.func26, Try.ntmps26
  go_wp2
  go_end0
  exact ⟨rfl, KK.out, by simpa using E2.out⟩

theorem gparts (x : Int) (h : glob x = true) : (Value.agg #[.int .u8 (x % 4), .int .u8 (x / 4 % 2), .bool (x / 8 % 2 == 1), .bool (x / 16 % 2 == 1), .int .u8 (x / 32 % 64), .int .u8 (x / 2048 % 128), .int .u8 (x / 262144 % 128)]) = .agg (hcells 3 (x / 4 % 2) (x / 8 % 2 == 1) false (x / 32 % 64) (x / 2048 % 128) (x / 262144 % 128)) := by
  rw [glob_marked h, (glob_take h).2]

theorem dye_shade (x cc : Int) (d : Nat) (w : World) (h0 : 0 ≤ x) (h1 : x < 18446744073709551616) (hc0 : 0 ≤ cc) (hc1 : cc ≤ 1) (hg : glob x = true) (hc : w.cell? ⟨d, 0, none⟩ = some (.int .u8 cc)) :
    Calls Try.prog 21 #[.int .u64 x, .func (.func 22) #[] #[.pointer (some ⟨d, 0, none⟩)]] w fun e w' => e = .returned (.int .u64 (dyed x cc true)) ∧ Kp [] w w' := by
  have hlt := World.block_lt_of_cell? _ _ hc
  refine dye_core 22 #[.pointer (some ⟨d, 0, none⟩)] x 3 (x / 4 % 2) (x / 32 % 64) (x / 2048 % 128) (x / 262144 % 128) cc (dyed x cc true) (x / 8 % 2 == 1) true false w (fun _ _ => rfl)
    (Lib.hid fun w => by have := stake_glob x w h0 hg; rw [gparts x hg] at this; exact this) (Lib.hid fun w' b k hb => ch_shade w' b d _ _ _ _ _ cc _ _ hb ?_) (Lib.hid fun w => sput_yes _ _ _ _ _ _ _ _ w (by omega) hc0 (by omega) (by omega) (by omega) (glob_may hg hc0 hc1) rfl)
  rw [World.cell?_of_block (k.block d hlt (by simp))]
  exact hc

theorem dye_black (x : Int) (w : World) (h0 : 0 ≤ x) (h1 : x < 18446744073709551616) :
    Calls Try.prog 21 #[.int .u64 x, .func (.func 26) #[] #[]] w fun e w' => e = .returned (.int .u64 (blackI x)) ∧ Kp [] w w' := by
  by_cases hg : glob x = true
  · rw [blackI, if_pos hg]
    exact dye_core 26 #[] x 3 (x / 4 % 2) (x / 32 % 64) (x / 2048 % 128) (x / 262144 % 128) (x / 4 % 2) (dyed x (x / 4 % 2) false) (x / 8 % 2 == 1) false false w (fun _ _ => rfl)
      (Lib.hid fun w => by have := stake_glob x w h0 hg; rw [gparts x hg] at this; exact this) (Lib.hid fun w' b k hb => ch_black w' b _ _ _ _ _ _ _ hb) (Lib.hid fun w => sput_yes _ _ _ _ _ _ _ _ w (by omega) (by omega) (by omega) (by omega) (by omega) (glob_may hg (by omega) (by omega)) rfl)
  · rw [blackI, if_neg hg]
    exact dye_not _ x w h0 h1 (by simpa using hg)

/-- The touches' closures. -/
theorem cl_shade (x cc : Int) (d : Nat) (w : World) (h0 : 0 ≤ x) (h1 : x < 18446744073709551616) (hc0 : 0 ≤ cc) (hc : w.cell? ⟨d, 0, none⟩ = some (.int .u8 cc)) :
    Calls Try.prog 20 #[.int .u64 x, .pointer (some ⟨d, 0, none⟩)] w fun e w' => e = .returned (.int .u64 (shadeI x cc)) ∧ Kp [] w w' := by
  have hmf : ∀ (fn : Fn) (first cap : Array Value) (w : World), (Instr.makeFunc fn first cap).run Try.prog w = .ok (.func fn first cap) w := fun _ _ _ _ => rfl
  have hlt := World.block_lt_of_cell? _ _ hc
  have HX := Lib.hid h1
  clear h1
  by_cases ht : tellI x cc = 1
  · obtain ⟨hg, hc1⟩ := tell_pos (x := x) (c := cc) (by omega)
    rw [shadeI, if_pos ht]
    go_enter Try.func20, Try.ntmps20
    go_wp2_with fail
    refine (tell_is x cc 1 _ h0 HX.out ht).mono ?_; rintro e w1 ⟨rfl, k1⟩
    have hc' : w1.cell? ⟨d, 0, none⟩ = some (.int .u8 cc) := by rw [World.cell?_of_block (k1.block d hlt (by simp))]; exact hc
    have K1 := Lib.hid k1
    clear k1
    go_wp2_with fail
    refine (dye_shade x cc d _ h0 HX.out hc0 hc1 hg hc').mono ?_; rintro e w2 ⟨rfl, k2⟩
    have K2 := Lib.hid (K1.out.trans k2)
    clear k2 K1 hc'
    go_wp2
    go_ret
    exact ⟨rfl, K2.out⟩
  · rw [shadeI, if_neg ht]
    obtain ⟨t, htt⟩ : ∃ t, tellI x cc = t := ⟨_, rfl⟩
    have hb : (t != 1) = true := by rw [← htt]; simpa using ht
    clear ht
    have HT := Lib.hid htt
    clear htt
    go_enter Try.func20, Try.ntmps20
    go_wp2_with fail
    refine (tell_is x cc t _ h0 HX.out HT.out).mono ?_; rintro e w1 ⟨rfl, k1⟩
    have K1 := Lib.hid k1
    clear k1
    go_wp2
    go_ret
    exact ⟨rfl, K1.out⟩

theorem cl_black (x : Int) (w : World) (h0 : 0 ≤ x) (h1 : x < 18446744073709551616) :
    Calls Try.prog 25 #[.int .u64 x] w fun e w' => e = .returned (.int .u64 (blackI x)) ∧ Kp [] w w' := by
  have HX := Lib.hid h1
  clear h1
  go_enter Try.func25, Try.ntmps25
  go_wp2_with fail
  refine (dye_black x _ h0 HX.out).mono ?_; rintro e w1 ⟨rfl, k1⟩
  have K1 := Lib.hid k1
  clear k1
  go_wp2
  go_ret
  exact ⟨rfl, K1.out⟩

end Go.Proofs.Ytjdihjndcpkndaa
