/- The walks of package alloc: Make, of what there is not, and of what goes into a cell. Conditions: as each theorem states them. -/
import Derived.Test.YtinkpbenmfnnhaaDoorAlDI
namespace Go.Proofs.YtinkpbenmfnnhaaDoor
set_option linter.unusedVariables false
set_option linter.unusedSimpArgs false
set_option maxRecDepth 100000
open Go.RowKit

section
variable {T G n p r q t o a : Nat} {wk : Bool} {hd : Value} {vs vs' vs'' : Nat → Value} {H : List Int} {R : Nat → List Int} {w w0 w1 w2 wx wy : World} {Sh : List Nat} {P : Nat → World → Prop}

/-- No memory; no list. -/
theorem make_nil1 (T G n : Int) (o : Int) (f hd wk : Value) (rf sz : Int) (w : World) :
    Calls Tryd.prog 5 #[.agg #[.nilIface, .int .i64 T, .int .i64 G, .int .i64 n, .int .u8 o, f, wk, hd], .int .i64 rf, .int .i64 sz] w fun e w' => e = .returned (.tuple #[.int .i64 0, .int .i64 1]) ∧ Kp [] w w' := by
  have KB : Kp [] w (w.alloc (.cells #[.nilIface, .int .i64 T, .int .i64 G, .int .i64 n, .int .u8 o, f, wk, hd] 46)) := (Kp.refl _ _).alloc _
  have KB := Lib.hid KB
  go_enter Tryd.func5, Tryd.ntmps5
  go_wp2_with fail
  go_ret2
  exact ⟨rfl, KB.out⟩
theorem make_nil2 (T G n : Int) (o : Int) (p : Addr) (hd wk : Value) (rf sz : Int) (w : World) :
    Calls Tryd.prog 5 #[.agg #[.iface 27 (.pointer (some p)), .int .i64 T, .int .i64 G, .int .i64 n, .int .u8 o, .pointer none, wk, hd], .int .i64 rf, .int .i64 sz] w fun e w' => e = .returned (.tuple #[.int .i64 0, .int .i64 1]) ∧ Kp [] w w' := by
  have KB : Kp [] w (w.alloc (.cells #[.iface 27 (.pointer (some p)), .int .i64 T, .int .i64 G, .int .i64 n, .int .u8 o, .pointer none, wk, hd] 46)) := (Kp.refl _ _).alloc _
  have KB := Lib.hid KB
  go_enter Tryd.func5, Tryd.ntmps5
  go_wp2_with fail
  go_ret2
  exact ⟨rfl, KB.out⟩

/-- An owner that there is not. -/
theorem make_owner (rf sz : Int) (hoB : o ≤ 255) (hb : T ≤ o) (w : World) :
    Calls Tryd.prog 5 #[mkV T G n p q o wk hd, .int .i64 rf, .int .i64 sz] w fun e w' => e = .returned (.tuple #[.int .i64 0, .int .i64 2]) ∧ Kp [] w w' := by
  have hT := Lib.hid (fun w => Ly.threads_is T G n w)
  have KB : Hid (∀ w', Kp [] (mkW w T G n p q o wk hd) w' → Kp [] w w') := Lib.hid fun w' k => (mkW_kp w T G n p q o wk hd).trans k
  have HS0 : Hid ((mkW w T G n p q o wk hd).drew.cell? ⟨w.heap.size, 1, none⟩ = some (.int .i64 T) ∧ (mkW w T G n p q o wk hd).drew.cell? ⟨w.heap.size, 2, none⟩ = some (.int .i64 G) ∧ (mkW w T G n p q o wk hd).drew.cell? ⟨w.heap.size, 3, none⟩ = some (.int .i64 n) ∧ (mkW w T G n p q o wk hd).drew.cell? ⟨w.heap.size, 4, none⟩ = some (.int .u8 o)) :=
    have hr := mkW_row w T G n p q o wk hd
    Lib.hid ⟨cell_of_row hr 1, cell_of_row hr 2, cell_of_row hr 3, cell_of_row hr 4⟩
  have ew := IntWalk.i64_in (o : Int) (by omega)
  have hd1 : decide (T ≤ o) = true := by simpa using hb
  unfold mkW mkC at KB HS0
  clear hb hoB
  go_enter Tryd.func5, Tryd.ntmps5
  go_wp2_with fail
  refine wp_region_held_drew (S := (fun w' => w'.cell? ⟨w.heap.size, 1, none⟩ = some (.int .i64 T) ∧ w'.cell? ⟨w.heap.size, 2, none⟩ = some (.int .i64 G) ∧ w'.cell? ⟨w.heap.size, 3, none⟩ = some (.int .i64 n) ∧ w'.cell? ⟨w.heap.size, 4, none⟩ = some (.int .u8 o))) (by kernel_rfl) ?_ (fun hHeld => ?_)
  · exact HS0.out
  refine wpAnyH_take (i := 0) (v := ?_) rfl (by kernel_rfl) (by kernel_rfl) (by kernel_rfl) (fun _ _ _ h => h) (Or.inl ⟨by rfl, ?hy⟩) (by assumption) ?_
  case hy => (intro w hSw; (try dsimp only at hSw); go_simp; try with_reducible rfl)
  try simp only [Act.put, List.setIfInBounds_toArray, List.set_cons_zero, List.set_cons_succ]
  refine wpAnyH_take (i := 1) (v := ?_) rfl (by kernel_rfl) (by kernel_rfl) (by kernel_rfl) (fun _ _ _ h => h) (Or.inl ⟨by rfl, ?hy⟩) (by assumption) ?_
  case hy => (intro w hSw; (try dsimp only at hSw); go_simp; try with_reducible rfl)
  try simp only [Act.put, List.setIfInBounds_toArray, List.set_cons_zero, List.set_cons_succ]
  refine wpAnyH_take (i := 2) (v := ?_) rfl (by kernel_rfl) (by kernel_rfl) (by kernel_rfl) (fun _ _ _ h => h) (Or.inl ⟨by rfl, ?hy⟩) (by assumption) ?_
  case hy => (intro w hSw; (try dsimp only at hSw); go_simp; try with_reducible rfl)
  try simp only [Act.put, List.setIfInBounds_toArray, List.set_cons_zero, List.set_cons_succ]
  refine wpAnyH_take (i := 3) (v := ?_) rfl (by kernel_rfl) (by kernel_rfl) (by kernel_rfl) (fun _ _ _ h => h) (Or.inl ⟨by rfl, ?hy⟩) (by assumption) ?_
  case hy => (intro w hSw; (try dsimp only at hSw); go_simp; try with_reducible rfl)
  try simp only [Act.put, List.setIfInBounds_toArray, List.set_cons_zero, List.set_cons_succ]
  refine wpAnyH_take (i := 4) (v := ?_) rfl (by kernel_rfl) (by kernel_rfl) (by kernel_rfl) (fun _ _ _ h => h) (Or.inl ⟨by rfl, ?hy⟩) (by assumption) ?_
  case hy => (intro w hSw; (try dsimp only at hSw); go_simp; try with_reducible rfl)
  try simp only [Act.put, List.setIfInBounds_toArray, List.set_cons_zero, List.set_cons_succ]
  refine wpAnyH_ready (rs := [5]) (by kernel_rfl) (by simp) ?_
  refine AllReadyH.cons rfl (fun K hK => ?_) AllReadyH.nil
  go_simp
  refine (hT.out _).mono ?_
  rintro e w4 ⟨rfl, hk9⟩
  have K4 : Hid (Kp [] w w4) := Lib.hid (KB.out _ (by refine Kp.trans ?_ hk9; exact ⟨rfl, rfl, rfl, Nat.le_refl _, fun _ _ _ => rfl⟩))
  refine hK.out _ _ ?_ (fun hHeld2 => ?_)
  · exact ⟨kp_cell hk9 (by simp) hHeld.1, kp_cell hk9 (by simp) hHeld.2.1, kp_cell hk9 (by simp) hHeld.2.2.1, kp_cell hk9 (by simp) hHeld.2.2.2⟩
  clear hK K hHeld
  have hHeld := hHeld2
  clear hHeld2
  try simp only [Act.put, List.setIfInBounds_toArray, List.set_cons_zero, List.set_cons_succ]
  clear hk9
  refine wpAnyH_take (i := 6) (v := ?_) rfl (by kernel_rfl) (by kernel_rfl) (by kernel_rfl) (fun _ _ _ h => h) (Or.inl ⟨by rfl, ?hy⟩) (by assumption) ?_
  case hy => (intro w hSw; (try dsimp only at hSw); go_simp; try with_reducible rfl)
  try simp only [Act.put, List.setIfInBounds_toArray, List.set_cons_zero, List.set_cons_succ]
  refine wpAnyH_take (i := 7) (v := ?_) rfl (by kernel_rfl) (by kernel_rfl) (by kernel_rfl) (fun _ _ _ h => h) (Or.inl ⟨by rfl, ?hy⟩) (by assumption) ?_
  case hy => (intro w hSw; (try dsimp only at hSw); go_simp; try with_reducible rfl)
  try simp only [Act.put, List.setIfInBounds_toArray, List.set_cons_zero, List.set_cons_succ]
  refine wpAnyH_ready (rs := [8]) (by kernel_rfl) (by simp) ?_
  refine AllReadyH.cons rfl (fun K hK => ?_) AllReadyH.nil
  go_simp
  refine hK.out _ _ ?_ (fun hHeld2 => ?_)
  · exact hHeld
  clear hK K hHeld
  have hHeld := hHeld2
  clear hHeld2
  try simp only [Act.put, List.setIfInBounds_toArray, List.set_cons_zero, List.set_cons_succ]
  refine wpAnyH_ready (rs := [9]) (by kernel_rfl) (by simp) ?_
  refine AllReadyH.cons rfl (fun K hK => ?_) AllReadyH.nil
  go_simp
  refine hK.out _ _ ?_ (fun hHeld2 => ?_)
  · exact hHeld
  clear hK K hHeld
  have hHeld := hHeld2
  clear hHeld2
  try simp only [Act.put, List.setIfInBounds_toArray, List.set_cons_zero, List.set_cons_succ]
  refine wpAnyH_take (i := 10) (v := ?_) rfl (by kernel_rfl) (by kernel_rfl) (by kernel_rfl) (fun _ _ _ h => h) (Or.inl ⟨by rfl, ?hy⟩) (by assumption) ?_
  case hy => (intro w hSw; (try dsimp only at hSw); go_simp; try with_reducible rfl)
  try simp only [Act.put, List.setIfInBounds_toArray, List.set_cons_zero, List.set_cons_succ]
  refine wpAnyH_take (i := 11) (v := ?_) rfl (by kernel_rfl) (by kernel_rfl) (by kernel_rfl) (fun _ _ _ h => h) (Or.inl ⟨by rfl, ?hy⟩) (by assumption) ?_
  case hy => (intro w hSw; (try dsimp only at hSw); go_simp; try with_reducible rfl)
  try simp only [Act.put, List.setIfInBounds_toArray, List.set_cons_zero, List.set_cons_succ]
  refine wpAnyH_ready (rs := [12, 13]) (by kernel_rfl) (by simp) ?_
  refine AllReadyH.cons rfl (fun K hK => ?_) (AllReadyH.cons rfl (fun K hK => ?_) AllReadyH.nil)
  ·   go_simp
      refine hK.out _ _ ?_ (fun hHeld2 => ?_)
      · exact hHeld
      clear hK K hHeld
      have hHeld := hHeld2
      clear hHeld2
      try simp only [Act.put, List.setIfInBounds_toArray, List.set_cons_zero, List.set_cons_succ]
      refine wpAnyH_ready (rs := [13]) (by kernel_rfl) (by simp) ?_
      refine AllReadyH.cons rfl (fun K hK => ?_) AllReadyH.nil
      go_simp
      refine hK.out _ _ ?_ (fun hHeld2 => ?_)
      · exact hHeld
      clear hK K hHeld
      have hHeld := hHeld2
      clear hHeld2
      try simp only [Act.put, List.setIfInBounds_toArray, List.set_cons_zero, List.set_cons_succ]
      refine wpAnyH_ready (rs := [14]) (by kernel_rfl) (by simp) ?_
      refine AllReadyH.cons rfl (fun K hK => ?_) AllReadyH.nil
      go_simp
      refine hK.out _ _ ?_ (fun hHeld2 => ?_)
      · exact hHeld
      clear hK K hHeld
      have hHeld := hHeld2
      clear hHeld2
      try simp only [Act.put, List.setIfInBounds_toArray, List.set_cons_zero, List.set_cons_succ]
      refine wpAnyH_take (i := 15) (v := ?_) rfl (by kernel_rfl) (by kernel_rfl) (by kernel_rfl) (fun _ _ _ h => h) (Or.inl ⟨by rfl, ?hy⟩) (by assumption) ?_
      case hy => (intro w hSw; (try dsimp only at hSw); go_simp; try with_reducible rfl)
      try simp only [Act.put, List.setIfInBounds_toArray, List.set_cons_zero, List.set_cons_succ]
      refine wpAnyH_take (i := 16) (v := ?_) rfl (by kernel_rfl) (by kernel_rfl) (by kernel_rfl) (fun _ _ _ h => h) (Or.inl ⟨by rfl, ?hy⟩) (by assumption) ?_
      case hy => (intro w hSw; (try dsimp only at hSw); go_simp; try with_reducible rfl)
      try simp only [Act.put, List.setIfInBounds_toArray, List.set_cons_zero, List.set_cons_succ]
      refine wpAnyH_ready (rs := [17]) (by kernel_rfl) (by simp) ?_
      refine AllReadyH.cons rfl (fun K hK => ?_) AllReadyH.nil
      go_simp
      refine hK.out _ _ ?_ (fun hHeld2 => ?_)
      · exact hHeld
      clear hK K hHeld
      have hHeld := hHeld2
      clear hHeld2
      try simp only [Act.put, List.setIfInBounds_toArray, List.set_cons_zero, List.set_cons_succ]
      refine wpAnyH_ready (rs := [18]) (by kernel_rfl) (by simp) ?_
      refine AllReadyH.cons rfl (fun K hK => ?_) AllReadyH.nil
      go_simp
      refine hK.out _ _ ?_ (fun hHeld2 => ?_)
      · exact hHeld
      clear hK K hHeld
      have hHeld := hHeld2
      clear hHeld2
      try simp only [Act.put, List.setIfInBounds_toArray, List.set_cons_zero, List.set_cons_succ]
      refine wpAnyH_take (i := 19) (v := ?_) rfl (by kernel_rfl) (by kernel_rfl) (by kernel_rfl) (fun _ _ _ h => h) (Or.inl ⟨by rfl, ?hy⟩) (by assumption) ?_
      case hy => (intro w hSw; (try dsimp only at hSw); go_simp; try with_reducible rfl)
      try simp only [Act.put, List.setIfInBounds_toArray, List.set_cons_zero, List.set_cons_succ]
      refine wpAnyH_done (by kernel_rfl) ?_ _
      go_wp2_with fail
      go_ret2
      exact ⟨rfl, K4.out⟩
  ·   go_simp
      refine hK.out _ _ ?_ (fun hHeld2 => ?_)
      · exact hHeld
      clear hK K hHeld
      have hHeld := hHeld2
      clear hHeld2
      try simp only [Act.put, List.setIfInBounds_toArray, List.set_cons_zero, List.set_cons_succ]
      refine wpAnyH_ready (rs := [12]) (by kernel_rfl) (by simp) ?_
      refine AllReadyH.cons rfl (fun K hK => ?_) AllReadyH.nil
      go_simp
      refine hK.out _ _ ?_ (fun hHeld2 => ?_)
      · exact hHeld
      clear hK K hHeld
      have hHeld := hHeld2
      clear hHeld2
      try simp only [Act.put, List.setIfInBounds_toArray, List.set_cons_zero, List.set_cons_succ]
      refine wpAnyH_ready (rs := [14]) (by kernel_rfl) (by simp) ?_
      refine AllReadyH.cons rfl (fun K hK => ?_) AllReadyH.nil
      go_simp
      refine hK.out _ _ ?_ (fun hHeld2 => ?_)
      · exact hHeld
      clear hK K hHeld
      have hHeld := hHeld2
      clear hHeld2
      try simp only [Act.put, List.setIfInBounds_toArray, List.set_cons_zero, List.set_cons_succ]
      refine wpAnyH_take (i := 15) (v := ?_) rfl (by kernel_rfl) (by kernel_rfl) (by kernel_rfl) (fun _ _ _ h => h) (Or.inl ⟨by rfl, ?hy⟩) (by assumption) ?_
      case hy => (intro w hSw; (try dsimp only at hSw); go_simp; try with_reducible rfl)
      try simp only [Act.put, List.setIfInBounds_toArray, List.set_cons_zero, List.set_cons_succ]
      refine wpAnyH_take (i := 16) (v := ?_) rfl (by kernel_rfl) (by kernel_rfl) (by kernel_rfl) (fun _ _ _ h => h) (Or.inl ⟨by rfl, ?hy⟩) (by assumption) ?_
      case hy => (intro w hSw; (try dsimp only at hSw); go_simp; try with_reducible rfl)
      try simp only [Act.put, List.setIfInBounds_toArray, List.set_cons_zero, List.set_cons_succ]
      refine wpAnyH_ready (rs := [17]) (by kernel_rfl) (by simp) ?_
      refine AllReadyH.cons rfl (fun K hK => ?_) AllReadyH.nil
      go_simp
      refine hK.out _ _ ?_ (fun hHeld2 => ?_)
      · exact hHeld
      clear hK K hHeld
      have hHeld := hHeld2
      clear hHeld2
      try simp only [Act.put, List.setIfInBounds_toArray, List.set_cons_zero, List.set_cons_succ]
      refine wpAnyH_ready (rs := [18]) (by kernel_rfl) (by simp) ?_
      refine AllReadyH.cons rfl (fun K hK => ?_) AllReadyH.nil
      go_simp
      refine hK.out _ _ ?_ (fun hHeld2 => ?_)
      · exact hHeld
      clear hK K hHeld
      have hHeld := hHeld2
      clear hHeld2
      try simp only [Act.put, List.setIfInBounds_toArray, List.set_cons_zero, List.set_cons_succ]
      refine wpAnyH_take (i := 19) (v := ?_) rfl (by kernel_rfl) (by kernel_rfl) (by kernel_rfl) (fun _ _ _ h => h) (Or.inl ⟨by rfl, ?hy⟩) (by assumption) ?_
      case hy => (intro w hSw; (try dsimp only at hSw); go_simp; try with_reducible rfl)
      try simp only [Act.put, List.setIfInBounds_toArray, List.set_cons_zero, List.set_cons_succ]
      refine wpAnyH_done (by kernel_rfl) ?_ _
      go_wp2_with fail
      go_ret2
      exact ⟨rfl, K4.out⟩

set_option maxHeartbeats 16000000 in
theorem make_small (h : Mw T G n p r q vs H R t w) (ht : t ≤ 300000) (hoT : o < T) (c rf sz : Nat) (hc : Cl.ofC sz = c) (hr : rf ≤ sz) (hs : sz ≤ 8) (ho2 : HoldOk T G n p r q o wk hd vs w Sh P) :
    Calls Tryd.prog 5 #[mkV T G n p q o wk hd, .int .i64 rf, .int .i64 sz] w fun e w' => e = .returned (.tuple #[.int .i64 ((smallS T G n o wk c rf sz (H, R)).2.getD 0), .int .i64 (erM (smallS T G n o wk c rf sz (H, R)).2)]) ∧ ∃ vs', Mw T G n p r q vs' (smallS T G n o wk c rf sz (H, R)).1.1 (smallS T G n o wk c rf sz (H, R)).1.2 (t + 38 * n + 120) w' ∧ Mh Sh p r q vs vs' w w' ∧ ∀ x, (smallS T G n o wk c rf sz (H, R)).2 = some x → P x.toNat w' := by
  have hT := Lib.hid (fun w => Ly.threads_is T G n w)
  have hf := h.fit
  have HOf := Lib.hid (fun w (tb : Cl.Tab w) => Cl.of_yes w tb sz c (by omega) hc (by omega))
  have hw : c < 4 ∧ (sz : Int) + 1 ≤ Cl.wdC c := by
    rcases Cl.of_ofs (sz : Int) with h | h | h | h | h | h
    · omega
    · obtain rfl : c = 0 := by omega
      exact ⟨by decide, by rw [show Cl.wdC ((0 : Nat) : Int) = 2 from by decide]; omega⟩
    · obtain rfl : c = 1 := by omega
      exact ⟨by decide, by rw [show Cl.wdC ((1 : Nat) : Int) = 3 from by decide]; omega⟩
    · obtain rfl : c = 2 := by omega
      exact ⟨by decide, by rw [show Cl.wdC ((2 : Nat) : Int) = 5 from by decide]; omega⟩
    · obtain rfl : c = 3 := by omega
      exact ⟨by decide, by rw [show Cl.wdC ((3 : Nat) : Int) = 9 from by decide]; omega⟩
    · omega
  have HSm : Hid (∀ w1, Kp [] w w1 → Calls Tryd.prog 17 #[mkV T G n p q o wk hd, .int .i64 c, .agg #[.int .u8 2, .int .u8 0, .bool false, .bool false, .int .u8 o, .int .u8 rf, .int .u8 sz]] w1 fun e w' => e = .returned (.tuple #[.int .i64 ((smallS T G n o wk c rf sz (H, R)).2.getD 0), .int .i64 (erM (smallS T G n o wk c rf sz (H, R)).2)]) ∧ ∃ vs', Mw T G n p r q vs' (smallS T G n o wk c rf sz (H, R)).1.1 (smallS T G n o wk c rf sz (H, R)).1.2 (t + 38 * n + 120) w' ∧ Mh Sh p r q vs vs' w w' ∧ ∀ x, (smallS T G n o wk c rf sz (H, R)).2 = some x → P x.toNat w') := by
    refine Lib.hid fun w1 k => (a_small (h.on k) ht (by omega) c rf sz hw.1 hr (by omega) hw.2 (ho2.on (Mk.of_kp k (by simp)))).mono ?_
    rintro e w' ⟨h1, v, h2, h3, h4⟩
    exact ⟨h1, v, h2, (Mh.of_mk (Mk.of_kp k (by simp))).trans h3, h4⟩
  have HTb : Hid (∀ w1, Kp [] w w1 → Cl.Tab w1) := Lib.hid fun w1 k => (h.on k).tab
  have KB : Hid (∀ w', Kp [] (mkW w T G n p q o wk hd) w' → Kp [] w w') := Lib.hid fun w' k => (mkW_kp w T G n p q o wk hd).trans k
  have HS0 := Lib.hid (ms_of (F := Kp [] (mkW w T G n p q o wk hd)) (mkW_row w T G n p q o wk hd) (Kp.refl _ _))
  have hc1 : ¬ ((T : Int) ≤ o) := by omega
  have hc2 : ¬ ((rf : Int) < 0) := by omega
  have hc3 : ¬ ((sz : Int) < rf) := by omega
  have hc4 : ¬ (95 < (sz : Int)) := by omega
  have ew := IntWalk.i64_in (o : Int) (by omega)
  have hd1 : decide (T ≤ o) = false := by simp; omega
  have hd2 : decide ((rf : Int) < 0) = false := by simp
  have hd3 : decide (sz < rf) = false := by simp; omega
  have hd4 : decide (95 < (sz : Int)) = false := by simp; omega
  clear hc1 hc2 hc3 hc4
  have hc5 : ((rf : Int) % 256) = rf := by omega
  have hc6 : ((sz : Int) % 256) = sz := by omega
  unfold mkW mkC at KB HS0
  generalize smallS T G n o wk c rf sz (H, R) = fin at HSm ⊢
  clear h ht hoT hc hr hs ho2 hw hf
  go_enter Tryd.func5, Tryd.ntmps5
  go_wp2_with fail
  go_region_held3 (fun wx => wx.cell? ⟨w.heap.size, 0, none⟩ = some (.iface 27 (.pointer (some ⟨p, 0, none⟩))) ∧ wx.cell? ⟨w.heap.size, 1, none⟩ = some (.int .i64 T) ∧ wx.cell? ⟨w.heap.size, 2, none⟩ = some (.int .i64 G) ∧ wx.cell? ⟨w.heap.size, 3, none⟩ = some (.int .i64 n) ∧ wx.cell? ⟨w.heap.size, 4, none⟩ = some (.int .u8 o) ∧ wx.cell? ⟨w.heap.size, 5, none⟩ = some (.pointer (some ⟨q, 0, none⟩)) ∧ wx.cell? ⟨w.heap.size, 6, none⟩ = some (.bool wk) ∧ wx.cell? ⟨w.heap.size, 7, none⟩ = some hd ∧ Kp [] (mkW w T G n p q o wk hd) wx)
    (first
      | assumption
      | exact ms_keep HS0.out ((Kp.refl [] _).drew) (by simp) (fun k => k.trans ((Kp.refl [] _).drew))
      | exact ms_keep ‹Ms w.heap.size T G n p q o wk hd (Kp [] (mkW w T G n p q o wk hd)) _› hk9 (by simp) (fun k => k.trans hk9))
    (first
    | (go_at_call 15
       refine (hT.out _).mono ?_
       rintro e w4 ⟨rfl, hk9⟩))
  all_goals
    rename_i hHeld
    obtain ⟨r0, r1, r2, r3, r4, r5, r6, r7, hk4⟩ := hHeld
    have hrow4 := hk4.row (by simp) (mkW_row w T G n p q o wk hd)
    have K4 := Lib.hid (KB.out _ hk4)
    have kA : Kp [] w4 (w4.alloc (.cells #[.int .u8 2, .int .u8 0, .bool false, .bool false, .int .u8 o, .int .u8 rf, .int .u8 sz] 67)) := (Kp.refl _ _).alloc _
    have K5 := Lib.hid (K4.out.trans kA)
    have hrow5 := kA.row (by simp) hrow4
    obtain ⟨s0, s1, s2, s3, s4, s5, s6, s7, -⟩ := ms_of (F := fun _ => True) hrow5 trivial
    have HOf5 := Lib.hid (HOf.out _ (HTb.out _ K5.out))
    have HSm5 := Lib.hid (HSm.out _ K5.out)
    clear hk4 hrow4 kA hrow5 HOf HSm hk9
    go_wp2_with fail
    refine HOf5.out.mono ?_
    rintro e w6 ⟨rfl, rfl⟩
    go_wp2_with fail
    refine HSm5.out.mono ?_
    rintro e w7 ⟨rfl, h7⟩
    have H7 := Lib.hid h7
    clear h7
    go_wp2_with fail
    go_ret2
    exact ⟨rfl, H7.out⟩
end

end Go.Proofs.YtinkpbenmfnnhaaDoor
