/- The walks of the document's own heap (demesneref15), on: Make. Law 18: Made for whatever heap, all contracts joined. Package sweep: its map of ways, made and asked. Package sweep, its walks: a header is read, is it the owner's, a header is written, unmarked, blocks are given back. Conditions: as each theorem states them. -/
import Derived.Carry
import Derived.Test.YticbnckikkdknaaGreatDoorPn11
import Derived.Test.YticbnckikkdknaaGreatDoorPn17
import Derived.Test.YticbnckikkdknaaGreatDoorPn18
import Derived.Test.YticbnckikkdknaaGreatDoorPn19
import Derived.Test.YticbnckikkdknaaGreatDoorPn20
namespace Go.Proofs.YticbnckikkdknaaGreatDoor
set_option linter.unusedVariables false
set_option linter.unusedSimpArgs false
set_option maxRecDepth 100000
open Go.RowKit
variable {Bz : Nat}

/-- How all stands where what is made is put. -/
def Mk1 (Bz : Nat) (w0 : World) (vs : Nat → Value) (T G n N o rf sz run : Nat) (wk : Bool) (H : List Int) (R : Nat → List Int) (a b : Nat) (w : World) : Prop :=
  ∃ db dc us H1 R1, Mo Bz w0 vs T G n N db dc us H1 R1 w ∧ dmakeS T G n o wk rf sz (H, R) = ((fitH T G n o rf sz H1 a b run, R1), (a : Int)) ∧ a + sz < N ∧ (run ≠ 0 → b + run ≤ n)
section
variable {w : World} {T G n db dc o : Nat} {us : Nat → Value} {H : List Int} {R : Nat → List Int} {wk : Bool}
set_option maxHeartbeats 60000000 in
theorem d_make (h : Dh Bz T G n db dc H w) (hr : Li.Rows4 w us R) (hlt : Li.Lt4 us w.heap.size) (hl : Lok H.length R) (hsm : H.length ≤ 1000) (hi : Ivn T G n H) (ho : o < 64) (rf sz : Nat) (hrf : rf ≤ sz) (hsz : sz ≤ 95) :
    Calls Tryz.prog 60 #[hV db dc H.length T G n, .agg #[us 0, us 1, us 2, us 3], .int .u8 o, .bool wk, .int .i64 rf, .int .i64 sz] w fun e w' => ∃ db' dc' us', e = .returned (.tuple #[hV db' dc' H.length T G n, .agg #[us' 0, us' 1, us' 2, us' 3], .int .i64 (dmakeS T G n o wk rf sz (H, R)).2]) ∧ Dh Bz T G n db' dc' (dmakeS T G n o wk rf sz (H, R)).1.1 w' ∧ Li.Rows4 w' us' (dmakeS T G n o wk rf sz (H, R)).1.2 ∧ Kp [] w w' ∧ Li.Bl4 us us' w.heap.size w'.heap.size := by
  have hn64 := h.hn
  have hT64 := h.hT
  have hG8 := h.hG
  obtain ⟨run, hrun⟩ : ∃ run : Nat, Cl.runC sz = run := by
    rcases Cl.run_ofs (sz : Int) with z | z | z | z | z
    · exact ⟨0, z.2⟩
    · exact ⟨1, z.2.2⟩
    · exact ⟨2, z.2.2⟩
    · exact ⟨3, z.2.2⟩
    · omega
  have hr3 : run ≤ 3 := by rcases Cl.run_ofs (sz : Int) with z | z | z | z | z <;> omega
  have hsr : run = 0 ∨ sz + 1 ≤ 32 * run := by rcases Cl.run_ofs (sz : Int) with z | z | z | z | z <;> omega
  have HRn := Lib.hid (fun w => Cl.rrun_is w sz run hrun)
  have HSr := Lib.hid (fun (i : Nat) (w : World) (hi : i < n) => Ly.rstart_is T G n i ((3 + T + G + n + 32 * i : Nat) : Int) w (by rw [Ly.rowP_in (by omega) (by omega)]; omega) (by omega) (by omega) (by omega) (by omega) (by omega) (by omega))
  have HB0 := Lib.hid (mo_new h hr hlt)
  have hdm : dmakeS T G n o wk rf sz (H, R) = dmakeS T G n o wk rf sz (H, R) := rfl
  conv at hdm => rhs; unfold dmakeS
  simp only [hrun, Int.toNat_natCast] at hdm
  have HDm := Lib.hid hdm
  obtain ⟨N, hN⟩ : ∃ N, N = H.length := ⟨_, rfl⟩
  rw [← hN] at HB0 hsm
  obtain ⟨W0, hW0⟩ : ∃ W0, W0 = mow w db dc N T G n us := ⟨_, rfl⟩
  rw [← hN]
  rw [← hW0] at HB0
  unfold mow zH zL at hW0
  have HW0 := Lib.hid hW0
  have HNn := Lib.hid hN
  have HIv := Lib.hid hi
  have HLk := Lib.hid hl
  have HRun := Lib.hid hrun
  clear hW0 hr hlt hl hN hi h hdm hrun
  go_enter Tryz.func60, Tryz.ntmps60
  go_upto_region 1 with (fail)
  rw [← HW0.out]
  clear HW0
  go_wp2_with fail
  refine (HRn.out _).mono ?_
  rintro e w1 ⟨rfl, rfl⟩
  go_upto_if 27 with (fail)
  go_cut [16, 17] (fun v16 v17 wc => ∃ a b : Nat, v16 = .int .i64 a ∧ v17 = .int .i64 (if run = 0 then -1 else (b : Int)) ∧ Hid (Mk1 Bz w us T G n N o rf sz run wk H R a b wc))
  case first =>
    by_cases hrp : 0 < (run : Int)
    ·
      --{{
      have HDl : Hid (dmakeS T G n o wk rf sz (H, R) = match (dblocksH T G n o wk H run).2 with
        | none => (((dblocksH T G n o wk H run).1, R), 0)
        | some b => ((fitH T G n o rf sz (dblocksH T G n o wk H run).1 (3 + T + G + n + 32 * b) b run, R), ((3 + T + G + n + 32 * b : Nat) : Int))) := Lib.hid (by rw [HDm.out, if_neg (by omega)]; rfl)
      have M0 := HB0.out
      have hcl := d_claim M0.dh run (by omega)
      rw [M0.len] at hcl
      have HCl := Lib.hid hcl
      have a0 := (cell_of_row M0.r5 0).trans (show _ = some (.slice (some ⟨db, 0, none⟩) N dc) from rfl)
      have a1 := (cell_of_row M0.r5 1).trans (show _ = some (.int .i64 T) from rfl)
      have a2 := (cell_of_row M0.r5 2).trans (show _ = some (.int .i64 G) from rfl)
      have a3 := (cell_of_row M0.r5 3).trans (show _ = some (.int .i64 n) from rfl)
      clear M0 hcl
      go_wp2_with fail
      refine HCl.out.mono ?_
      rintro e w7 ⟨b3, c3, rfl, hd7, hk7⟩
      have hr7 := hk7.row (by simp) HB0.out.r5
      have q0 := (cell_of_row hr7 0).trans (show _ = some (.slice (some ⟨db, 0, none⟩) N dc) from rfl)
      have q1 := (cell_of_row hr7 1).trans (show _ = some (.int .i64 T) from rfl)
      have q2 := (cell_of_row hr7 2).trans (show _ = some (.int .i64 G) from rfl)
      have q3 := (cell_of_row hr7 3).trans (show _ = some (.int .i64 n) from rfl)
      have g0 := free_of_row hr7 0
      have g1 := free_of_row hr7 1
      have g2 := free_of_row hr7 2
      have g3 := free_of_row hr7 3
      obtain ⟨W8, hW8⟩ : ∃ W8, W8 = put4v w7 w.heap.size (.slice (some ⟨b3, 0, none⟩) N c3) (.int .i64 T) (.int .i64 G) (.int .i64 n) := ⟨_, rfl⟩
      have M8 : Hid (Mo Bz w us T G n N b3 c3 us (claimD H run).1 R W8) := Lib.hid (by
        rw [hW8]
        exact HB0.out.heap hk7 hd7 (by rw [claimD_len]; exact HNn.out.symm))
      unfold put4v at hW8
      have HW8 := Lib.hid hW8
      clear hW8 hr7 hd7 hk7 HCl HB0 a0 a1 a2 a3
      go_upto_region 5 with (fail)
      rw [← HW8.out]
      clear HW8 q0 q1 q2 q3 g0 g1 g2 g3
      have hbe := dblocksH_eq (T := T) (G := G) (n := n) (o := o) (wk := wk) (H := H) run
      cases hcr : (claimD H run).2 with
      | some k =>
        have hkn : k + run ≤ n := claim_fit HIv.out (by omega) hcr
        have hk0 : ¬ (k : Int) < 0 := by omega
        rw [hcr] at hbe
        simp only [Option.isSome_some, if_true] at hbe
        have HD2 : Hid (dmakeS T G n o wk rf sz (H, R) = ((fitH T G n o rf sz (claimD H run).1 (3 + T + G + n + 32 * k) k run, R), ((3 + T + G + n + 32 * k : Nat) : Int))) := Lib.hid (by rw [HDl.out, hbe, hcr])
        clear hbe hcr
        simp only [bI]
        have hst := HSr.out k
        have a0 := (cell_of_row M8.out.r5 0).trans (show _ = some (.slice (some ⟨b3, 0, none⟩) N c3) from rfl)
        have a1 := (cell_of_row M8.out.r5 1).trans (show _ = some (.int .i64 T) from rfl)
        have a2 := (cell_of_row M8.out.r5 2).trans (show _ = some (.int .i64 G) from rfl)
        have a3 := (cell_of_row M8.out.r5 3).trans (show _ = some (.int .i64 n) from rfl)
        have HSk := Lib.hid (fun w => hst w (by omega))
        clear hst
        go_wp2_with fail
        refine (HSk.out _).mono ?_
        rintro e w9 ⟨rfl, hk9⟩
        have HFi : Hid (Mk1 Bz w us T G n N o rf sz run wk H R (3 + T + G + n + 32 * k) k w9) := Lib.hid (by
          refine ⟨_, _, _, (claimD H run).1, R, M8.out.on hk9, HD2.out, ?_, fun _ => by omega⟩
          have := HNn.out; have := HIv.out.len; omega)
        clear hk9 M8
        go_wp2_with fail
        go_meet
        exact ⟨3 + T + G + n + 32 * k, k, rfl, by rw [if_neg (by omega)], HFi⟩
      | none =>
        have hcl1 : (claimD H run).1 = H := by
          unfold claimD at hcr ⊢
          cases hf : frst (H.getD 0 0).toNat run with
          | none => rfl
          | some k => rw [hf] at hcr; cases hcr
        rw [hcr] at hbe
        simp only [Option.isSome_none, if_false, Bool.false_eq_true] at hbe
        rw [hcl1] at M8
        simp only [bI]
        cases wk with
        | true =>
          simp only [if_true] at hbe
          have HD2 : Hid (dmakeS T G n o true rf sz (H, R) = ((H, R), 0)) := Lib.hid (by rw [HDl.out, hbe, hcr, hcl1])
          clear hbe hcr hcl1
          obtain ⟨A0, A1, A2, A3, l0, k0, l1, k1, l2, k2, l3, k3, hsM9⟩ := M8.out.slices
          have M9 := Lib.hid hsM9
          clear hsM9
          have a0 := (cell_of_row M9.out.r5 0).trans (show _ = some (.slice (some ⟨b3, 0, none⟩) N c3) from rfl)
          have a1 := (cell_of_row M9.out.r5 1).trans (show _ = some (.int .i64 T) from rfl)
          have a2 := (cell_of_row M9.out.r5 2).trans (show _ = some (.int .i64 G) from rfl)
          have a3 := (cell_of_row M9.out.r5 3).trans (show _ = some (.int .i64 n) from rfl)
          have x0 := (cell_of_row M9.out.r6 0).trans (show _ = some (.slice A0 l0 k0) from rfl)
          have x1 := (cell_of_row M9.out.r6 1).trans (show _ = some (.slice A1 l1 k1) from rfl)
          have x2 := (cell_of_row M9.out.r6 2).trans (show _ = some (.slice A2 l2 k2) from rfl)
          have x3 := (cell_of_row M9.out.r6 3).trans (show _ = some (.slice A3 l3 k3) from rfl)
          have z0 := (cell_of_row M9.out.r10 0).trans (show _ = some (.slice none 0 0) from rfl)
          have z1 := (cell_of_row M9.out.r10 1).trans (show _ = some (.int .i64 0) from rfl)
          have z2 := (cell_of_row M9.out.r10 2).trans (show _ = some (.int .i64 0) from rfl)
          have z3 := (cell_of_row M9.out.r10 3).trans (show _ = some (.int .i64 0) from rfl)
          have y0 := free_of_row M9.out.r10 0
          have y1 := free_of_row M9.out.r10 1
          have y2 := free_of_row M9.out.r10 2
          have y3 := free_of_row M9.out.r10 3
          have v0 := (cell_of_row M9.out.r11 0).trans (show _ = some (.slice none 0 0) from rfl)
          have v1 := (cell_of_row M9.out.r11 1).trans (show _ = some (.slice none 0 0) from rfl)
          have v2 := (cell_of_row M9.out.r11 2).trans (show _ = some (.slice none 0 0) from rfl)
          have v3 := (cell_of_row M9.out.r11 3).trans (show _ = some (.slice none 0 0) from rfl)
          have q0 := free_of_row M9.out.r11 0
          have q1 := free_of_row M9.out.r11 1
          have q2 := free_of_row M9.out.r11 2
          have q3 := free_of_row M9.out.r11 3
          go_upto_region 8 with (fail)
          go_region
          all_goals
            go_wp2_with fail
            have F := M9.out.fin (Kp.refl [] W8) M9.out.dh rfl
            refine bodyPost_cell2_tmp rfl ⟨w.heap.size + 2, 0, none⟩ ⟨w.heap.size + 3, 0, none⟩ _ _ (.int .i64 0) rfl rfl rfl (load_row F.1 Tryz.underlying40 rfl (by kernel_rfl)) (load_row F.2.1 Tryz.underlying72 rfl (by kernel_rfl)) rfl ?_
            rw [HD2.out]
            exact ⟨b3, c3, _, rfl, F.2.2.1, F.2.2.2.1, F.2.2.2.2.1, F.2.2.2.2.2⟩
        | false =>
          simp only [if_false, Bool.false_eq_true] at hbe
          have hivw := HIv.out.wait (o := o) hn64 n
          have HDb := Lib.hid hbe
          have HIw := Lib.hid hivw
          have hwt := d_waiting M8.out.dh o (by omega) (fun i hi h5 => absurd h5 ((HIv.out.wait hn64 i).ent i hi))
          rw [← HNn.out] at hwt
          have HWt := Lib.hid hwt
          have a0 := (cell_of_row M8.out.r5 0).trans (show _ = some (.slice (some ⟨b3, 0, none⟩) N c3) from rfl)
          have a1 := (cell_of_row M8.out.r5 1).trans (show _ = some (.int .i64 T) from rfl)
          have a2 := (cell_of_row M8.out.r5 2).trans (show _ = some (.int .i64 G) from rfl)
          have a3 := (cell_of_row M8.out.r5 3).trans (show _ = some (.int .i64 n) from rfl)
          clear hbe hcr hcl1 hivw hwt
          go_wp2_with fail
          refine HWt.out.mono ?_
          rintro e w10 ⟨b4, c4, rfl, hd10, hk10⟩
          have HWl : Hid ((waitH T G n o H n).length = N) := Lib.hid (by rw [waitH_len]; exact HNn.out.symm)
          have hcl := d_claim hd10 run (by omega)
          rw [HWl.out] at hcl
          have HCl2 := Lib.hid hcl
          have K10 := Lib.hid hk10
          clear hcl hd10 hk10 HWt
          go_wp2_with fail
          refine HCl2.out.mono ?_
          rintro e w11 ⟨b5, c5, rfl, hd11, hk11⟩
          have hr7 := (K10.out.trans hk11).row (by simp) M8.out.r5
          have q0 := (cell_of_row hr7 0).trans (show _ = some (.slice (some ⟨b3, 0, none⟩) N c3) from rfl)
          have q1 := (cell_of_row hr7 1).trans (show _ = some (.int .i64 T) from rfl)
          have q2 := (cell_of_row hr7 2).trans (show _ = some (.int .i64 G) from rfl)
          have q3 := (cell_of_row hr7 3).trans (show _ = some (.int .i64 n) from rfl)
          have g0 := free_of_row hr7 0
          have g1 := free_of_row hr7 1
          have g2 := free_of_row hr7 2
          have g3 := free_of_row hr7 3
          obtain ⟨W9, hW9⟩ : ∃ W9, W9 = put4v w11 w.heap.size (.slice (some ⟨b5, 0, none⟩) N c5) (.int .i64 T) (.int .i64 G) (.int .i64 n) := ⟨_, rfl⟩
          have M9 : Hid (Mo Bz w us T G n N b5 c5 us (claimD (waitH T G n o H n) run).1 R W9) := Lib.hid (by
            rw [hW9]
            exact M8.out.heap (K10.out.trans hk11) hd11 (by rw [claimD_len]; exact HWl.out))
          unfold put4v at hW9
          have HW9 := Lib.hid hW9
          clear hW9 hr7 hd11 hk11 HCl2 K10 M8 a0 a1 a2 a3
          go_upto_region 7 with (fail)
          rw [← HW9.out]
          clear HW9 q0 q1 q2 q3 g0 g1 g2 g3
          cases hcr : (claimD (waitH T G n o H n) run).2 with
          | some k =>
            have hkn : k + run ≤ n := claim_fit HIw.out (by omega) hcr
            have hk0 : ¬ (k : Int) < 0 := by omega
            have HD2 : Hid (dmakeS T G n o false rf sz (H, R) = ((fitH T G n o rf sz (claimD (waitH T G n o H n) run).1 (3 + T + G + n + 32 * k) k run, R), ((3 + T + G + n + 32 * k : Nat) : Int))) := Lib.hid (by rw [HDl.out, HDb.out, hcr])
            clear hcr
            simp only [bI]
            have hst := HSr.out k
            have a0 := (cell_of_row M9.out.r5 0).trans (show _ = some (.slice (some ⟨b5, 0, none⟩) N c5) from rfl)
            have a1 := (cell_of_row M9.out.r5 1).trans (show _ = some (.int .i64 T) from rfl)
            have a2 := (cell_of_row M9.out.r5 2).trans (show _ = some (.int .i64 G) from rfl)
            have a3 := (cell_of_row M9.out.r5 3).trans (show _ = some (.int .i64 n) from rfl)
            have HSk := Lib.hid (fun w => hst w (by omega))
            clear hst
            go_wp2_with fail
            refine (HSk.out _).mono ?_
            rintro e w9 ⟨rfl, hk9⟩
            have HFi : Hid (Mk1 Bz w us T G n N o rf sz run false H R (3 + T + G + n + 32 * k) k w9) := Lib.hid (by
              refine ⟨_, _, _, (claimD (waitH T G n o H n) run).1, R, M9.out.on hk9, HD2.out, ?_, fun _ => by omega⟩
              have := HNn.out; have := HIv.out.len; omega)
            clear hk9 M9
            go_wp2_with fail
            go_meet
            exact ⟨3 + T + G + n + 32 * k, k, rfl, by rw [if_neg (by omega)], HFi⟩
          | none =>
            have HD2 : Hid (dmakeS T G n o false rf sz (H, R) = (((claimD (waitH T G n o H n) run).1, R), 0)) := Lib.hid (by rw [HDl.out, HDb.out, hcr])
            clear hcr
            simp only [bI]
            obtain ⟨A0, A1, A2, A3, l0, k0, l1, k1, l2, k2, l3, k3, hsM10⟩ := M9.out.slices
            have M10 := Lib.hid hsM10
            clear hsM10
            have a0 := (cell_of_row M10.out.r5 0).trans (show _ = some (.slice (some ⟨b5, 0, none⟩) N c5) from rfl)
            have a1 := (cell_of_row M10.out.r5 1).trans (show _ = some (.int .i64 T) from rfl)
            have a2 := (cell_of_row M10.out.r5 2).trans (show _ = some (.int .i64 G) from rfl)
            have a3 := (cell_of_row M10.out.r5 3).trans (show _ = some (.int .i64 n) from rfl)
            have x0 := (cell_of_row M10.out.r6 0).trans (show _ = some (.slice A0 l0 k0) from rfl)
            have x1 := (cell_of_row M10.out.r6 1).trans (show _ = some (.slice A1 l1 k1) from rfl)
            have x2 := (cell_of_row M10.out.r6 2).trans (show _ = some (.slice A2 l2 k2) from rfl)
            have x3 := (cell_of_row M10.out.r6 3).trans (show _ = some (.slice A3 l3 k3) from rfl)
            have z0 := (cell_of_row M10.out.r10 0).trans (show _ = some (.slice none 0 0) from rfl)
            have z1 := (cell_of_row M10.out.r10 1).trans (show _ = some (.int .i64 0) from rfl)
            have z2 := (cell_of_row M10.out.r10 2).trans (show _ = some (.int .i64 0) from rfl)
            have z3 := (cell_of_row M10.out.r10 3).trans (show _ = some (.int .i64 0) from rfl)
            have y0 := free_of_row M10.out.r10 0
            have y1 := free_of_row M10.out.r10 1
            have y2 := free_of_row M10.out.r10 2
            have y3 := free_of_row M10.out.r10 3
            have v0 := (cell_of_row M10.out.r11 0).trans (show _ = some (.slice none 0 0) from rfl)
            have v1 := (cell_of_row M10.out.r11 1).trans (show _ = some (.slice none 0 0) from rfl)
            have v2 := (cell_of_row M10.out.r11 2).trans (show _ = some (.slice none 0 0) from rfl)
            have v3 := (cell_of_row M10.out.r11 3).trans (show _ = some (.slice none 0 0) from rfl)
            have q0 := free_of_row M10.out.r11 0
            have q1 := free_of_row M10.out.r11 1
            have q2 := free_of_row M10.out.r11 2
            have q3 := free_of_row M10.out.r11 3
            go_upto_region 8 with (fail)
            go_region
            all_goals
              go_wp2_with fail
              have F := M10.out.fin (Kp.refl [] W9) M10.out.dh rfl
              refine bodyPost_cell2_tmp rfl ⟨w.heap.size + 2, 0, none⟩ ⟨w.heap.size + 3, 0, none⟩ _ _ (.int .i64 0) rfl rfl rfl (load_row F.1 Tryz.underlying40 rfl (by kernel_rfl)) (load_row F.2.1 Tryz.underlying72 rfl (by kernel_rfl)) rfl ?_
              rw [HD2.out]
              exact ⟨b5, c5, _, rfl, F.2.2.1, F.2.2.2.1, F.2.2.2.2.1, F.2.2.2.2.2⟩
      --}}
    · obtain rfl : run = 0 := by omega
      obtain ⟨c, hcc, hc, hwd⟩ : ∃ c : Nat, Cl.ofC sz = c ∧ c < 4 ∧ (sz : Int) + 1 ≤ Cl.wdC c := by
        have h9 : sz < 9 := by
          have := HRun.out
          rcases Cl.run_ofs (sz : Int) with z | z | z | z | z <;> omega
        rcases Cl.of_ofs (sz : Int) with z | z | z | z | z | z
        · omega
        · exact ⟨0, z.2.2, by omega, by have : Cl.wdC (0 : Nat) = 2 := by decide
                                        omega⟩
        · exact ⟨1, z.2, by omega, by have : Cl.wdC (1 : Nat) = 3 := by decide
                                      omega⟩
        · exact ⟨2, z.2.2, by omega, by have : Cl.wdC (2 : Nat) = 5 := by decide
                                        omega⟩
        · exact ⟨3, z.2.2, by omega, by have : Cl.wdC (3 : Nat) = 9 := by decide
                                        omega⟩
        · omega
      have HOf := Lib.hid (fun w => Cl.rof_is w sz c (by omega) hcc)
      obtain ⟨s1, hs1⟩ : ∃ s1 : Hs, s1 = if R c = [] then moreS T G n o c wk (H, R) else (H, R) := ⟨_, rfl⟩
      have HDs : Hid (dmakeS T G n o wk rf sz (H, R) = match (popS s1 c).2 with
        | none => ((popS s1 c).1, 0)
        | some x => ((fitH T G n o rf sz (popS s1 c).1.1 x.toNat 0 0, (popS s1 c).1.2), x)) := Lib.hid (by
        have e : dcellS T G n o wk c (H, R) = popS s1 c := by
          unfold dcellS
          rw [hs1]
          split <;> rfl
        rw [HDm.out, if_pos (by rfl), hcc, Int.toNat_natCast, e]
        rfl)
      have HLs : Hid (Lok N s1.2) := Lib.hid (by
        rw [hs1]
        split
        · exact more_ok hc ho hn64 HIv.out HNn.out.symm (by have := HLk.out; rwa [← HNn.out] at this)
        · have := HLk.out; rwa [← HNn.out] at this)
      have HS1 := Lib.hid hs1
      have HWd := Lib.hid hwd
      obtain ⟨A0, A1, A2, A3, l0, k0, l1, k1, l2, k2, l3, k3, hM0⟩ := HB0.out.slices
      obtain ⟨ao, cap, hlc⟩ := hM0.len4 hc
      obtain ⟨L, hL⟩ : ∃ L, L = (R c).length := ⟨_, rfl⟩
      rw [← hL] at hlc
      have HL := Lib.hid hL
      have hlkH : Lok H.length R := HLk.out
      have hmo := d_more (wk := wk) hM0.dh hM0.rd hM0.lt4 hlkH (by rw [← HNn.out]; exact hsm) HIv.out ho hc
      rw [← HNn.out] at hmo
      have HMo := Lib.hid hmo
      have a0 := (cell_of_row hM0.r5 0).trans (show _ = some (.slice (some ⟨db, 0, none⟩) N dc) from rfl)
      have a1 := (cell_of_row hM0.r5 1).trans (show _ = some (.int .i64 T) from rfl)
      have a2 := (cell_of_row hM0.r5 2).trans (show _ = some (.int .i64 G) from rfl)
      have a3 := (cell_of_row hM0.r5 3).trans (show _ = some (.int .i64 n) from rfl)
      have x0 := (cell_of_row hM0.r6 0).trans (show _ = some (.slice A0 l0 k0) from rfl)
      have x1 := (cell_of_row hM0.r6 1).trans (show _ = some (.slice A1 l1 k1) from rfl)
      have x2 := (cell_of_row hM0.r6 2).trans (show _ = some (.slice A2 l2 k2) from rfl)
      have x3 := (cell_of_row hM0.r6 3).trans (show _ = some (.slice A3 l3 k3) from rfl)
      have M0 := Lib.hid hM0
      clear hs1 hwd hM0 hL hlkH hmo hcc HB0 HDm HLk
      go_wp2_with fail
      refine (HOf.out _).mono ?_
      rintro e w2 ⟨rfl, rfl⟩
      go_upto_if 63 with (fail)
      go_cut [] (fun wc => Hid (∃ b c vs, Mo Bz w us T G n N b c vs s1.1 s1.2 wc))
      case first =>
        --{{
        by_cases hl0 : L = 0
        · subst hl0
          have hs0 : R c = [] := List.eq_nil_of_length_eq_zero HL.out.symm
          have hs1 := HS1.out
          rw [if_pos hs0] at hs1
          have HS2 := Lib.hid hs1
          clear hs1 hs0
          go_wp2_with fail
          refine HMo.out.mono ?_
          rintro e w7 ⟨b3, c3, us3, rfl, hd7, hr7', hk7, hb7⟩
          have hr7 := hk7.row (by simp) M0.out.r5
          have q0 := (cell_of_row hr7 0).trans (show _ = some (.slice (some ⟨db, 0, none⟩) N dc) from rfl)
          have q1 := (cell_of_row hr7 1).trans (show _ = some (.int .i64 T) from rfl)
          have q2 := (cell_of_row hr7 2).trans (show _ = some (.int .i64 G) from rfl)
          have q3 := (cell_of_row hr7 3).trans (show _ = some (.int .i64 n) from rfl)
          have g0 := free_of_row hr7 0
          have g1 := free_of_row hr7 1
          have g2 := free_of_row hr7 2
          have g3 := free_of_row hr7 3
          have k2 := put4v_kp w7 w.heap.size (.slice (some ⟨b3, 0, none⟩) N c3) (.int .i64 T) (.int .i64 G) (.int .i64 n)
          have K6 := Lib.hid (k2.row (by simp) (hk7.row (by simp) M0.out.r6))
          have hon : ∀ d, d < 4 → (us3 d).oneCell' = true := fun d hd => (hr7' d hd).one
          have HON : Hid ((#[us3 0, us3 1, us3 2, us3 3] : Array Value).all (·.oneCell') = true) := Lib.hid (Li.ones_of (hon 0 (by omega)) (hon 1 (by omega)) (hon 2 (by omega)) (hon 3 (by omega)))
          have M9 := Lib.hid (M0.out.both hk7 hd7 (by rw [more_len]; exact HNn.out.symm) hr7' hb7)
          clear hr7 hd7 hr7' hk7 hb7 k2 hon HMo
          go_wp2_with (refine wpList_store_row rfl 72 _ _ rfl (w.heap.size + 1) _ rfl rfl 72 _ K6.out (by kernel_rfl) rfl HON.out ?_)
          go_meet
          exact Lib.hid ⟨b3, c3, us3, by rw [HS2.out]; exact M9.out⟩
        · have hs0 : R c ≠ [] := fun e => hl0 (by rw [HL.out, e]; rfl)
          have hs1 := HS1.out
          rw [if_neg hs0] at hs1
          have HS2 := Lib.hid hs1
          have hb1 : ((L : Int) == 0) = false := by simpa using hl0
          clear hs1 hs0
          go_wp2_with fail
          go_meet
          exact Lib.hid ⟨_, _, _, by rw [HS2.out]; exact M0.out⟩
        --}}
      case rest =>
        obtain ⟨b4, c4, vs4, hM4⟩ := hcut.out
        obtain ⟨B0, B1, B2, B3, e0, f0, e1, f1, e2, f2, e3, f3, hM5⟩ := hM4.slices
        have HPo := Lib.hid (Li.rpop_is wc _ s1.2 c hM5.rd (HLs.out.len hsm) hM5.lt4)
        have M5 := Lib.hid hM5
        have x0 := (cell_of_row hM5.r6 0).trans (show _ = some (.slice B0 e0 f0) from rfl)
        have x1 := (cell_of_row hM5.r6 1).trans (show _ = some (.slice B1 e1 f1) from rfl)
        have x2 := (cell_of_row hM5.r6 2).trans (show _ = some (.slice B2 e2 f2) from rfl)
        have x3 := (cell_of_row hM5.r6 3).trans (show _ = some (.slice B3 e3 f3) from rfl)
        clear hcut hM4 hM5 M0 HMo hlc a0 a1 a2 a3
        go_wp2_with fail
        refine HPo.out.mono ?_
        rintro e w7 ⟨us3, rfl, hk7, hr7, hb7⟩
        obtain ⟨C0, C1, C2, C3, g0, h0, g1, h1, g2, h2, g3, h3, hE⟩ := rows_slices hr7
        have E0 : us3 0 = .slice C0 g0 h0 := hE 0 (by omega)
        have E1 : us3 1 = .slice C1 g1 h1 := hE 1 (by omega)
        have E2 : us3 2 = .slice C2 g2 h2 := hE 2 (by omega)
        have E3 : us3 3 = .slice C3 g3 h3 := hE 3 (by omega)
        have hpe := popE_at (R := s1.2) hc
        have hpp : popS s1 c = ((s1.1, Li.popR s1.2 c), if Li.popE s1.2 c = 0 then some (Li.popX s1.2 c) else none) := rfl
        rw [E0, E1, E2, E3]
        have hrs : Li.Rows4 w7 (sl C0 C1 C2 C3 g0 h0 g1 h1 g2 h2 g3 h3) (Li.popR s1.2 c) := fun d hd => by rw [← hE d hd]; exact hr7 d hd
        have hbs : Li.Bl4 (sl B0 B1 B2 B3 e0 f0 e1 f1 e2 f2 e3 f3) (sl C0 C1 C2 C3 g0 h0 g1 h1 g2 h2 g3 h3) wc.heap.size w7.heap.size := fun d hd => by rw [← hE d hd]; exact hb7 d hd
        have kA : Kp [] w7 (w7.alloc (.cells #[.slice C0 g0 h0, .slice C1 g1 h1, .slice C2 g2 h2, .slice C3 g3 h3] 72)) := (Kp.refl _ _).alloc _
        have heb := heap_alloc_new w7 (.cells #[.slice C0 g0 h0, .slice C1 g1 h1, .slice C2 g2 h2, .slice C3 g3 h3] 72)
        have K7 := Lib.hid (hk7.trans kA)
        have KA := Lib.hid kA
        have HEb := Lib.hid heb
        have HRs := Lib.hid hrs
        have HBs := Lib.hid hbs
        have HPp := Lib.hid hpp
        clear hr7 hb7 hE E0 E1 E2 E3 hrs hbs hk7 kA heb hpp HPo x0 x1 x2 x3
        by_cases h0' : s1.2 c = []
        · rw [if_pos h0'] at hpe
          rw [hpe]
          have HD2 : Hid (dmakeS T G n o wk rf sz (H, R) = (s1, 0)) := Lib.hid (by rw [HDs.out, popS_none hc h0'])
          have M7 := Lib.hid (M5.out.on K7.out)
          clear hpe h0' HRs HBs HEb HDs HPp KA
          have a0 := (cell_of_row M7.out.r5 0).trans (show _ = some (.slice (some ⟨b4, 0, none⟩) N c4) from rfl)
          have a1 := (cell_of_row M7.out.r5 1).trans (show _ = some (.int .i64 T) from rfl)
          have a2 := (cell_of_row M7.out.r5 2).trans (show _ = some (.int .i64 G) from rfl)
          have a3 := (cell_of_row M7.out.r5 3).trans (show _ = some (.int .i64 n) from rfl)
          have x0 := (cell_of_row M7.out.r6 0).trans (show _ = some (.slice B0 e0 f0) from rfl)
          have x1 := (cell_of_row M7.out.r6 1).trans (show _ = some (.slice B1 e1 f1) from rfl)
          have x2 := (cell_of_row M7.out.r6 2).trans (show _ = some (.slice B2 e2 f2) from rfl)
          have x3 := (cell_of_row M7.out.r6 3).trans (show _ = some (.slice B3 e3 f3) from rfl)
          have z0 := (cell_of_row M7.out.r10 0).trans (show _ = some (.slice none 0 0) from rfl)
          have z1 := (cell_of_row M7.out.r10 1).trans (show _ = some (.int .i64 0) from rfl)
          have z2 := (cell_of_row M7.out.r10 2).trans (show _ = some (.int .i64 0) from rfl)
          have z3 := (cell_of_row M7.out.r10 3).trans (show _ = some (.int .i64 0) from rfl)
          have y0 := free_of_row M7.out.r10 0
          have y1 := free_of_row M7.out.r10 1
          have y2 := free_of_row M7.out.r10 2
          have y3 := free_of_row M7.out.r10 3
          have v0 := (cell_of_row M7.out.r11 0).trans (show _ = some (.slice none 0 0) from rfl)
          have v1 := (cell_of_row M7.out.r11 1).trans (show _ = some (.slice none 0 0) from rfl)
          have v2 := (cell_of_row M7.out.r11 2).trans (show _ = some (.slice none 0 0) from rfl)
          have v3 := (cell_of_row M7.out.r11 3).trans (show _ = some (.slice none 0 0) from rfl)
          have q0 := free_of_row M7.out.r11 0
          have q1 := free_of_row M7.out.r11 1
          have q2 := free_of_row M7.out.r11 2
          have q3 := free_of_row M7.out.r11 3
          go_upto_region 15 with (fail)
          go_region
          all_goals
            go_wp2_with fail
            have F := M7.out.fin (Kp.refl [] _) M7.out.dh rfl
            refine bodyPost_cell2_tmp rfl ⟨w.heap.size + 2, 0, none⟩ ⟨w.heap.size + 3, 0, none⟩ _ _ (.int .i64 0) rfl rfl rfl (load_row F.1 Tryz.underlying40 rfl (by kernel_rfl)) (load_row F.2.1 Tryz.underlying72 rfl (by kernel_rfl)) rfl ?_
            rw [HD2.out]
            exact ⟨b4, c4, _, rfl, F.2.2.1, F.2.2.2.1, F.2.2.2.2.1, F.2.2.2.2.2⟩
        · rw [if_neg h0'] at hpe
          rw [hpe]
          obtain ⟨a, ha, ha0, haN⟩ : ∃ a : Nat, Li.popX s1.2 c = (a : Int) ∧ 1 ≤ a ∧ a + sz < N := by
            have hx : Li.popX s1.2 c = (s1.2 c).getLastD 0 := by
              unfold Li.popX
              rw [if_pos hpe, Int.toNat_natCast]
            have hm : (s1.2 c).getLastD 0 ∈ s1.2 c := by
              rw [List.getLastD_eq_getLast?, List.getLast?_eq_some_getLast h0']
              exact List.getLast_mem h0'
            have hl2 := (HLs.out c hc).2 _ hm
            have hwd := HWd.out
            refine ⟨((s1.2 c).getLastD 0).toNat, ?_, ?_, ?_⟩
            · rw [hx]; omega
            · omega
            · omega
          rw [ha]
          have HD2 : Hid (dmakeS T G n o wk rf sz (H, R) = ((fitH T G n o rf sz s1.1 a 0 0, Li.popR s1.2 c), (a : Int))) := Lib.hid (by
            rw [HDs.out, HPp.out, if_pos hpe]
            simp only [ha, Int.toNat_natCast])
          have M7 := Lib.hid (M5.out.on K7.out)
          have t0 := (cell_of_row HEb.out 0).trans (show _ = some (.slice C0 g0 h0) from rfl)
          have t1 := (cell_of_row HEb.out 1).trans (show _ = some (.slice C1 g1 h1) from rfl)
          have t2 := (cell_of_row HEb.out 2).trans (show _ = some (.slice C2 g2 h2) from rfl)
          have t3 := (cell_of_row HEb.out 3).trans (show _ = some (.slice C3 g3 h3) from rfl)
          have x0 := (cell_of_row M7.out.r6 0).trans (show _ = some (.slice B0 e0 f0) from rfl)
          have x1 := (cell_of_row M7.out.r6 1).trans (show _ = some (.slice B1 e1 f1) from rfl)
          have x2 := (cell_of_row M7.out.r6 2).trans (show _ = some (.slice B2 e2 f2) from rfl)
          have x3 := (cell_of_row M7.out.r6 3).trans (show _ = some (.slice B3 e3 f3) from rfl)
          have q0 := free_of_row M7.out.r6 0
          have q1 := free_of_row M7.out.r6 1
          have q2 := free_of_row M7.out.r6 2
          have q3 := free_of_row M7.out.r6 3
          have hz5 := M5.out.z
          have M9 : Hid (Mo Bz w us T G n N b4 c4 (sl C0 C1 C2 C3 g0 h0 g1 h1 g2 h2 g3 h3) s1.1 (Li.popR s1.2 c) (put4v (w7.alloc (.cells #[.slice C0 g0 h0, .slice C1 g1 h1, .slice C2 g2 h2, .slice C3 g3 h3] 72)) (w.heap.size + 1) (.slice C0 g0 h0) (.slice C1 g1 h1) (.slice C2 g2 h2) (.slice C3 g3 h3))) := Lib.hid
            (M5.out.list2 K7.out (put4v_kp _ _ _ _ _ _) (put4v_row _ _ _ _ M7.out.r6) (fun d hd => (HRs.out d hd).keep0 KA.out) (bl_up HBs.out KA.out.size) hz5)
          have HFi : Hid (Mk1 Bz w us T G n N o rf sz 0 wk H R a 0 (put4v (w7.alloc (.cells #[.slice C0 g0 h0, .slice C1 g1 h1, .slice C2 g2 h2, .slice C3 g3 h3] 72)) (w.heap.size + 1) (.slice C0 g0 h0) (.slice C1 g1 h1) (.slice C2 g2 h2) (.slice C3 g3 h3))) := Lib.hid ⟨_, _, _, s1.1, Li.popR s1.2 c, M9.out, HD2.out, haN, fun h => absurd rfl h⟩
          clear hpe h0' HRs HBs HEb HDs HPp KA M9 M7 M5 K7 HD2 hz5 ha
          go_wp2_with fail
          go_meet
          exact ⟨a, 0, rfl, rfl, HFi⟩
  case rest =>
    --{{
    obtain ⟨a, b, rfl, rfl, HFi⟩ := hcut
    obtain ⟨b1, c1, us1, H1, R1, hM, hdm, haN, hbn⟩ := HFi.out
    have HD1 := Lib.hid hdm
    have M1 := Lib.hid hM
    have hvb : run ≠ 0 → (if run = 0 then -1 else (b : Int)) = (b : Int) := fun h => if_neg h
    generalize (if run = 0 then -1 else (b : Int)) = vb at hvb
    have HVb := Lib.hid hvb
    have HBn := Lib.hid hbn
    have HCk : Hid (∀ i, clearH H1 a (i + 1) = (clearH H1 a i).set (a + 1 + i) 0) := Lib.hid fun i => rfl
    have HCl : Hid (∀ i, (clearH H1 a i).length = N) := Lib.hid fun i => by rw [clearH_all, setAll_len]; exact hM.len
    have hw1 := IntWalk.i64_in ((a : Int) + 1) (by omega)
    obtain ⟨y, hy⟩ : ∃ y, y = Wd.wordI 2 0 o rf sz false false := ⟨_, rfl⟩
    have hyb : 0 ≤ y ∧ y < 18446744073709551616 := by
      rw [hy]
      unfold Wd.wordI Wd.bitI
      simp only [if_false, Bool.false_eq_true]
      omega
    have HYb := Lib.hid hyb
    have HY := Lib.hid hy
    have HWd := Lib.hid (fun w => Wd.rword_any 2 0 o rf sz false false w (by decide) (by decide) (by omega) (by omega) (by omega) (by decide) (by decide) (by omega) (by omega) (by omega))
    rw [← hy] at HWd
    have hwr := IntWalk.u8_in (rf : Int) (by omega)
    have hws := IntWalk.u8_in (sz : Int) (by omega)
    clear HFi hM hdm hvb hbn HB0 HDm HRun hyb hy
    go_wp2_with fail
    go_loopg [22] sz (fun gg v wr => ∃ i : Nat, i + gg = sz ∧ v = .int .i64 i ∧ Hid (∃ b c, Mo Bz w us T G n N b c us1 (clearH H1 a i) R1 wr))
    case atStart => exact ⟨0, by omega, rfl, Lib.hid ⟨b1, c1, M1.out⟩⟩
    case round =>
      obtain ⟨i, hi, rfl, HR⟩ := hrel
      obtain ⟨b2, c2, hM⟩ := HR.out
      have M2 := Lib.hid hM
      by_cases hlt : i < sz
      · have hwt := hM.dh.with (k := a + 1 + i) (by rw [HCl.out]; omega) (x := 0) (by decide) (by decide)
        rw [HCl.out, ← HCk.out] at hwt
        have HWt := Lib.hid hwt
        have hw2 : IntKind.i64.wrap ((a : Int) + 1 + (i : Int)) = ((a + 1 + i : Nat) : Int) := by rw [IntWalk.i64_in _ (by omega)]; omega
        have hw3 := IntWalk.i64_in ((i : Int) + 1) (by omega)
        have a0 := (cell_of_row hM.r5 0).trans (show _ = some (.slice (some ⟨b2, 0, none⟩) N c2) from rfl)
        have a1 := (cell_of_row hM.r5 1).trans (show _ = some (.int .i64 T) from rfl)
        have a2 := (cell_of_row hM.r5 2).trans (show _ = some (.int .i64 G) from rfl)
        have a3 := (cell_of_row hM.r5 3).trans (show _ = some (.int .i64 n) from rfl)
        clear hM hwt HR
        go_wp2_with fail
        refine HWt.out.mono ?_
        rintro e w7 ⟨b3, c3, rfl, hd7, hk7⟩
        have hr7 := hk7.row (by simp) M2.out.r5
        have q0 := (cell_of_row hr7 0).trans (show _ = some (.slice (some ⟨b2, 0, none⟩) N c2) from rfl)
        have q1 := (cell_of_row hr7 1).trans (show _ = some (.int .i64 T) from rfl)
        have q2 := (cell_of_row hr7 2).trans (show _ = some (.int .i64 G) from rfl)
        have q3 := (cell_of_row hr7 3).trans (show _ = some (.int .i64 n) from rfl)
        have g0 := free_of_row hr7 0
        have g1 := free_of_row hr7 1
        have g2 := free_of_row hr7 2
        have g3 := free_of_row hr7 3
        have hfin : Hid (∃ b c, Mo Bz w us T G n N b c us1 (clearH H1 a (i + 1)) R1 (put4v w7 w.heap.size (.slice (some ⟨b3, 0, none⟩) N c3) (.int .i64 T) (.int .i64 G) (.int .i64 n))) := Lib.hid ⟨b3, c3, M2.out.heap hk7 hd7 (HCl.out _)⟩
        clear hr7 hd7 hk7 HWt a0 a1 a2 a3 M2
        go_wp2_with fail
        go_roundg (sz - (i + 1))
        all_goals first
          | omega
          | exact ⟨i + 1, by omega, rfl, hfin⟩
      · obtain rfl : sz = i := by omega
        clear hM HR hi hlt HCk
        go_upto_region 22 with (fail)
        go_cut [] (fun wc => Hid (∃ b c, Mo Bz w us T G n N b c us1 ((clearH H1 a sz).set a y) R1 wc))
        case first =>
          have hwt : ∀ w', Kp [] wr w' → Calls Tryz.prog 49 #[hV b2 c2 N T G n, .int .i64 a, .int .u64 y] w' fun e w'' => ∃ b' c', e = .returned (hV b' c' N T G n) ∧ Dh Bz T G n b' c' ((clearH H1 a sz).set a y) w'' ∧ Kp [] w' w'' := fun w' kk => by
            have := (M2.out.dh.on kk).with (k := a) (by rw [HCl.out]; omega) HYb.out.1 HYb.out.2
            rw [HCl.out] at this
            exact this
          have HWt := Lib.hid hwt
          clear hwt
          have a0 := (cell_of_row M2.out.r5 0).trans (show _ = some (.slice (some ⟨b2, 0, none⟩) N c2) from rfl)
          have a1 := (cell_of_row M2.out.r5 1).trans (show _ = some (.int .i64 T) from rfl)
          have a2 := (cell_of_row M2.out.r5 2).trans (show _ = some (.int .i64 G) from rfl)
          have a3 := (cell_of_row M2.out.r5 3).trans (show _ = some (.int .i64 n) from rfl)
          go_region_with (first
            | (go_at_call 30
               refine (HWd.out _).mono ?_
               rintro e w6 ⟨rfl, hk9⟩
               have K6 : Hid (Kp [] wr w6) := Lib.hid (by refine Kp.trans ?_ (kp_of_below hk9); exact ⟨rfl, rfl, rfl, Nat.le_refl _, fun _ _ _ => rfl⟩)
               have hr6 := K6.out.row (by simp) M2.out.r5
               have q0 := (cell_of_row hr6 0).trans (show _ = some (.slice (some ⟨b2, 0, none⟩) N c2) from rfl)
               have q1 := (cell_of_row hr6 1).trans (show _ = some (.int .i64 T) from rfl)
               have q2 := (cell_of_row hr6 2).trans (show _ = some (.int .i64 G) from rfl)
               have q3 := (cell_of_row hr6 3).trans (show _ = some (.int .i64 n) from rfl)
               clear hk9 hr6)
            | (go_at_call 49
               refine (HWt.out _ ?_).mono ?_
               · exact K6.out.trans ⟨rfl, rfl, rfl, Nat.le_refl _, fun _ _ _ => rfl⟩
               rintro e w7 ⟨b3, c3, rfl, hd7, hk9⟩
               have K7 : Hid (Kp [] wr w7) := Lib.hid (K6.out.trans (by refine Kp.trans ?_ hk9; exact ⟨rfl, rfl, rfl, Nat.le_refl _, fun _ _ _ => rfl⟩))
               have hr7 := K7.out.row (by simp) M2.out.r5
               have s0 := (cell_of_row hr7 0).trans (show _ = some (.slice (some ⟨b2, 0, none⟩) N c2) from rfl)
               have s1 := (cell_of_row hr7 1).trans (show _ = some (.int .i64 T) from rfl)
               have s2 := (cell_of_row hr7 2).trans (show _ = some (.int .i64 G) from rfl)
               have s3 := (cell_of_row hr7 3).trans (show _ = some (.int .i64 n) from rfl)
               have g0 := free_of_row hr7 0
               have g1 := free_of_row hr7 1
               have g2 := free_of_row hr7 2
               have g3 := free_of_row hr7 3
               have HR7 := Lib.hid hr7
               have HD7 := Lib.hid hd7
               clear hk9 hr7 hd7))
          all_goals
            go_wp2_with fail
            go_meet
            exact Lib.hid ⟨b3, c3, M2.out.heap K7.out HD7.out (by rw [List.length_set]; exact HCl.out _)⟩
        case rest =>
          obtain ⟨b4, c4, hM4⟩ := hcut.out
          have M4 := Lib.hid hM4
          have HTl : Hid (∀ i, (tailD T G b ((clearH H1 a sz).set a y) i).length = N) := Lib.hid fun i => by rw [tailD_len, List.length_set]; exact HCl.out _
          have HTk : Hid (∀ i, tailD T G b ((clearH H1 a sz).set a y) (i + 1) = (tailD T G b ((clearH H1 a sz).set a y) i).set (3 + T + G + (b + i)) 3) := Lib.hid fun i => rfl
          clear hM4 hcut M2
          go_wp2_with fail
          go_loopg [23] run (fun gg v wr => ∃ i : Nat, i + gg = run ∧ v = .int .i64 i ∧ Hid (∃ b' c, Mo Bz w us T G n N b' c us1 (tailD T G b ((clearH H1 a sz).set a y) i) R1 wr))
          case atStart => exact ⟨0, by omega, rfl, Lib.hid ⟨b4, c4, M4.out⟩⟩
          case round =>
            obtain ⟨i, hi, rfl, HR⟩ := hrel
            obtain ⟨b5, c5, hM⟩ := HR.out
            have M5 := Lib.hid hM
            by_cases hlt : i < run
            · have hbr := HBn.out (by omega)
              have hve := HVb.out (by omega)
              have hse := d_setEntry hM.dh (b + i) (by omega) 3 0 0 0 (by decide) (by decide) (by decide) (by decide) (Tb.mayE_iff.2 (by omega))
              rw [show Tb.wordE 3 0 0 0 = 3 from by decide, HTl.out, ← HTk.out] at hse
              have HSe := Lib.hid hse
              have hw2 : IntKind.i64.wrap (vb + (i : Int)) = ((b + i : Nat) : Int) := by rw [hve, IntWalk.i64_in _ (by omega)]; omega
              have hw3 := IntWalk.i64_in ((i : Int) + 1) (by omega)
              have a0 := (cell_of_row hM.r5 0).trans (show _ = some (.slice (some ⟨b5, 0, none⟩) N c5) from rfl)
              have a1 := (cell_of_row hM.r5 1).trans (show _ = some (.int .i64 T) from rfl)
              have a2 := (cell_of_row hM.r5 2).trans (show _ = some (.int .i64 G) from rfl)
              have a3 := (cell_of_row hM.r5 3).trans (show _ = some (.int .i64 n) from rfl)
              clear hM hse HR hve hbr
              go_wp2_with fail
              refine HSe.out.mono ?_
              rintro e w7 ⟨b3, c3, rfl, hd7, hk7⟩
              have hr7 := hk7.row (by simp) M5.out.r5
              have q0 := (cell_of_row hr7 0).trans (show _ = some (.slice (some ⟨b5, 0, none⟩) N c5) from rfl)
              have q1 := (cell_of_row hr7 1).trans (show _ = some (.int .i64 T) from rfl)
              have q2 := (cell_of_row hr7 2).trans (show _ = some (.int .i64 G) from rfl)
              have q3 := (cell_of_row hr7 3).trans (show _ = some (.int .i64 n) from rfl)
              have g0 := free_of_row hr7 0
              have g1 := free_of_row hr7 1
              have g2 := free_of_row hr7 2
              have g3 := free_of_row hr7 3
              have hfin : Hid (∃ b' c, Mo Bz w us T G n N b' c us1 (tailD T G b ((clearH H1 a sz).set a y) (i + 1)) R1 (put4v w7 w.heap.size (.slice (some ⟨b3, 0, none⟩) N c3) (.int .i64 T) (.int .i64 G) (.int .i64 n))) := Lib.hid ⟨b3, c3, M5.out.heap hk7 hd7 (HTl.out _)⟩
              clear hr7 hd7 hk7 HSe a0 a1 a2 a3 M5
              go_wp2_with fail
              go_roundg (run - (i + 1))
              all_goals first
                | omega
                | exact ⟨i + 1, by omega, rfl, hfin⟩
            · obtain rfl : run = i := by omega
              clear hM HR hi hlt HTk
              by_cases hrp : 0 < (run : Int)
              · have hbr := HBn.out (by omega)
                have hve := HVb.out (by omega)
                subst hve
                have hd1 : Hid (dmakeS T G n o wk rf sz (H, R) = (((tailD T G b ((clearH H1 a sz).set a y) run).set (3 + T + G + b) (Tb.wordE 2 0 run o), R1), (a : Int))) := Lib.hid (by rw [HD1.out, fitH, if_neg (by omega), ← HY.out])
                have hse := d_setEntry M5.out.dh b (by omega) 2 0 run o (by decide) (by decide) (by omega) (by omega) (Tb.mayE_iff.2 (by omega))
                rw [HTl.out] at hse
                have HSe := Lib.hid hse
                have hwn := IntWalk.u8_in (run : Int) (by omega)
                have a0 := (cell_of_row M5.out.r5 0).trans (show _ = some (.slice (some ⟨b5, 0, none⟩) N c5) from rfl)
                have a1 := (cell_of_row M5.out.r5 1).trans (show _ = some (.int .i64 T) from rfl)
                have a2 := (cell_of_row M5.out.r5 2).trans (show _ = some (.int .i64 G) from rfl)
                have a3 := (cell_of_row M5.out.r5 3).trans (show _ = some (.int .i64 n) from rfl)
                clear hse hbr
                go_wp2_with fail
                refine HSe.out.mono ?_
                rintro e w7 ⟨b3, c3, rfl, hd7, hk7⟩
                have hr7 := hk7.row (by simp) M5.out.r5
                have q0 := (cell_of_row hr7 0).trans (show _ = some (.slice (some ⟨b5, 0, none⟩) N c5) from rfl)
                have q1 := (cell_of_row hr7 1).trans (show _ = some (.int .i64 T) from rfl)
                have q2 := (cell_of_row hr7 2).trans (show _ = some (.int .i64 G) from rfl)
                have q3 := (cell_of_row hr7 3).trans (show _ = some (.int .i64 n) from rfl)
                have g0 := free_of_row hr7 0
                have g1 := free_of_row hr7 1
                have g2 := free_of_row hr7 2
                have g3 := free_of_row hr7 3
                obtain ⟨W9, hW9⟩ : ∃ W9, W9 = put4v w7 w.heap.size (.slice (some ⟨b3, 0, none⟩) N c3) (.int .i64 T) (.int .i64 G) (.int .i64 n) := ⟨_, rfl⟩
                have M9 : Hid (Mo Bz w us T G n N b3 c3 us1 ((tailD T G b ((clearH H1 a sz).set a y) run).set (3 + T + G + b) (Tb.wordE 2 0 run o)) R1 W9) := Lib.hid (by
                  rw [hW9]
                  exact M5.out.heap hk7 hd7 (by rw [List.length_set]; exact HTl.out _))
                unfold put4v at hW9
                have HW9 := Lib.hid hW9
                clear hW9 hr7 hd7 hk7 HSe M5 a0 a1 a2 a3
                go_upto_region 29 with (fail)
                rw [← HW9.out]
                clear HW9 q0 q1 q2 q3 g0 g1 g2 g3
                obtain ⟨A0, A1, A2, A3, l0, k0, l1, k1, l2, k2, l3, k3, hsM⟩ := M9.out.slices
                have M10 := Lib.hid hsM
                clear hsM M9
                have a0 := (cell_of_row M10.out.r5 0).trans (show _ = some (.slice (some ⟨b3, 0, none⟩) N c3) from rfl)
                have a1 := (cell_of_row M10.out.r5 1).trans (show _ = some (.int .i64 T) from rfl)
                have a2 := (cell_of_row M10.out.r5 2).trans (show _ = some (.int .i64 G) from rfl)
                have a3 := (cell_of_row M10.out.r5 3).trans (show _ = some (.int .i64 n) from rfl)
                have x0 := (cell_of_row M10.out.r6 0).trans (show _ = some (.slice A0 l0 k0) from rfl)
                have x1 := (cell_of_row M10.out.r6 1).trans (show _ = some (.slice A1 l1 k1) from rfl)
                have x2 := (cell_of_row M10.out.r6 2).trans (show _ = some (.slice A2 l2 k2) from rfl)
                have x3 := (cell_of_row M10.out.r6 3).trans (show _ = some (.slice A3 l3 k3) from rfl)
                have z0 := (cell_of_row M10.out.r10 0).trans (show _ = some (.slice none 0 0) from rfl)
                have z1 := (cell_of_row M10.out.r10 1).trans (show _ = some (.int .i64 0) from rfl)
                have z2 := (cell_of_row M10.out.r10 2).trans (show _ = some (.int .i64 0) from rfl)
                have z3 := (cell_of_row M10.out.r10 3).trans (show _ = some (.int .i64 0) from rfl)
                have y0 := free_of_row M10.out.r10 0
                have y1 := free_of_row M10.out.r10 1
                have y2 := free_of_row M10.out.r10 2
                have y3 := free_of_row M10.out.r10 3
                have v0 := (cell_of_row M10.out.r11 0).trans (show _ = some (.slice none 0 0) from rfl)
                have v1 := (cell_of_row M10.out.r11 1).trans (show _ = some (.slice none 0 0) from rfl)
                have v2 := (cell_of_row M10.out.r11 2).trans (show _ = some (.slice none 0 0) from rfl)
                have v3 := (cell_of_row M10.out.r11 3).trans (show _ = some (.slice none 0 0) from rfl)
                have q0 := free_of_row M10.out.r11 0
                have q1 := free_of_row M10.out.r11 1
                have q2 := free_of_row M10.out.r11 2
                have q3 := free_of_row M10.out.r11 3
                go_region
                all_goals
                  go_wp2_with fail
                  have F := M10.out.fin (Kp.refl [] W9) M10.out.dh rfl
                  refine bodyPost_cell2_tmp rfl ⟨w.heap.size + 2, 0, none⟩ ⟨w.heap.size + 3, 0, none⟩ _ _ (.int .i64 a) rfl rfl rfl (load_row F.1 Tryz.underlying40 rfl (by kernel_rfl)) (load_row F.2.1 Tryz.underlying72 rfl (by kernel_rfl)) rfl ?_
                  rw [hd1.out]
                  exact ⟨b3, c3, _, rfl, F.2.2.1, F.2.2.2.1, F.2.2.2.2.1, F.2.2.2.2.2⟩
              · obtain rfl : run = 0 := by omega
                have hd1 : Hid (dmakeS T G n o wk rf sz (H, R) = ((tailD T G b ((clearH H1 a sz).set a y) 0, R1), (a : Int))) := Lib.hid (by rw [HD1.out, fitH, if_pos rfl, ← HY.out]; rfl)
                obtain ⟨A0, A1, A2, A3, l0, k0, l1, k1, l2, k2, l3, k3, hsM⟩ := M5.out.slices
                have M10 := Lib.hid hsM
                clear hsM M5
                have a0 := (cell_of_row M10.out.r5 0).trans (show _ = some (.slice (some ⟨b5, 0, none⟩) N c5) from rfl)
                have a1 := (cell_of_row M10.out.r5 1).trans (show _ = some (.int .i64 T) from rfl)
                have a2 := (cell_of_row M10.out.r5 2).trans (show _ = some (.int .i64 G) from rfl)
                have a3 := (cell_of_row M10.out.r5 3).trans (show _ = some (.int .i64 n) from rfl)
                have x0 := (cell_of_row M10.out.r6 0).trans (show _ = some (.slice A0 l0 k0) from rfl)
                have x1 := (cell_of_row M10.out.r6 1).trans (show _ = some (.slice A1 l1 k1) from rfl)
                have x2 := (cell_of_row M10.out.r6 2).trans (show _ = some (.slice A2 l2 k2) from rfl)
                have x3 := (cell_of_row M10.out.r6 3).trans (show _ = some (.slice A3 l3 k3) from rfl)
                have z0 := (cell_of_row M10.out.r10 0).trans (show _ = some (.slice none 0 0) from rfl)
                have z1 := (cell_of_row M10.out.r10 1).trans (show _ = some (.int .i64 0) from rfl)
                have z2 := (cell_of_row M10.out.r10 2).trans (show _ = some (.int .i64 0) from rfl)
                have z3 := (cell_of_row M10.out.r10 3).trans (show _ = some (.int .i64 0) from rfl)
                have y0 := free_of_row M10.out.r10 0
                have y1 := free_of_row M10.out.r10 1
                have y2 := free_of_row M10.out.r10 2
                have y3 := free_of_row M10.out.r10 3
                have v0 := (cell_of_row M10.out.r11 0).trans (show _ = some (.slice none 0 0) from rfl)
                have v1 := (cell_of_row M10.out.r11 1).trans (show _ = some (.slice none 0 0) from rfl)
                have v2 := (cell_of_row M10.out.r11 2).trans (show _ = some (.slice none 0 0) from rfl)
                have v3 := (cell_of_row M10.out.r11 3).trans (show _ = some (.slice none 0 0) from rfl)
                have q0 := free_of_row M10.out.r11 0
                have q1 := free_of_row M10.out.r11 1
                have q2 := free_of_row M10.out.r11 2
                have q3 := free_of_row M10.out.r11 3
                go_upto_region 29 with (fail)
                go_region
                all_goals
                  go_wp2_with fail
                  have F := M10.out.fin (Kp.refl [] wr) M10.out.dh rfl
                  refine bodyPost_cell2_tmp rfl ⟨w.heap.size + 2, 0, none⟩ ⟨w.heap.size + 3, 0, none⟩ _ _ (.int .i64 a) rfl rfl rfl (load_row F.1 Tryz.underlying40 rfl (by kernel_rfl)) (load_row F.2.1 Tryz.underlying72 rfl (by kernel_rfl)) rfl ?_
                  rw [hd1.out]
                  exact ⟨b5, c5, _, rfl, F.2.2.1, F.2.2.2.1, F.2.2.2.2.1, F.2.2.2.2.2⟩
    --}}
end
end Go.Proofs.YticbnckikkdknaaGreatDoor

namespace Go.Proofs.YticbnckikkdknaaGreatDoor
set_option linter.unusedVariables false
set_option linter.unusedSimpArgs false
open Go.RowKit

theorem d_makes18 (Bz T n : Nat) : DMake Bz T n := fun db dc o us H R wk w rf sz h hr hlt hl hsm hi ho hrf hsz => d_make h hr hlt hl hsm hi ho rf sz hrf hsz
theorem made_all : CMade := fun w T n T0 hn1 hn2 hT1 hT4 ao cap l hl hA =>
  made_any w T0 (Lib.hid fun sp qs => fun v s t col w' i rf sz h ht hi hl1 hl2 hL hB hrf hsz => aw_make (Lib.hid (d_makes18 _ T n)) h hT4 hn2 ht hi hl1 hl2 hL hB rf sz hrf hsz) hn1 hn2 hT1 hT4 ao cap l hl hA
end Go.Proofs.YticbnckikkdknaaGreatDoor

namespace Go.Proofs.YticbnckikkdknaaGreatDoor
set_option linter.unusedVariables false
set_option linter.unusedSimpArgs false
set_option maxRecDepth 100000
open Go.RowKit Go.Maps

/-- How a function that is an element reads. -/
def fnElem (v : Value) : Option (DataW Unit × List MemPlace) :=
  match v with
  | .func (.func f) a b => if a = #[] ∧ b = #[] then some (.lit (.int .i64 f), []) else none
  | .nilFunc => some (.nil, [])
  | _ => none
theorem fn_some (f : Nat) : fnElem (.func (.func f) #[] #[]) = some (.lit (.int .i64 f), []) := by simp [fnElem]
theorem fn_inv {v : Value} {f : Nat} {p : List MemPlace} (h : fnElem v = some (.lit (.int .i64 (f : Int)), p)) : v = .func (.func f) #[] #[] := by
  unfold fnElem at h
  split at h
  · split at h
    · rename_i g a b hab
      simp only [Option.some.injEq, Prod.mk.injEq, DataW.lit.injEq, Lit.int.injEq, true_and] at h
      obtain ⟨rfl, rfl⟩ := hab
      have : g = f := by exact_mod_cast h.1
      rw [this]
    · cases h
  · simp at h
  · cases h
theorem fn_nil {v : Value} {p : List MemPlace} (h : fnElem v = some (.nil, p)) : v = .nilFunc := by
  unfold fnElem at h
  split at h
  · split at h
    · simp at h
    · cases h
  · rfl
  · cases h
/-- What is done with a block, by its entry's kind. -/
def wayF (k : Nat) : Option Nat := if k = 5 then some 78 else if k = 4 then some 78 else if k = 2 then some 77 else if k = 1 then some 76 else none
def wayD (k : Nat) : DataW Unit := match wayF k with | some f => .lit (.int .i64 (f : Int)) | none => .nil
def Wy (b : Nat) (w : World) : Prop := ∃ D : DataW Unit, w.ownsMap Tryz.prog 5 fnElem b 4 D ∧ ∀ k : Nat, k ≤ 255 → D.atKey (.int .u8 k) .nil = wayD k ∧ has D (.int .u8 k) = (wayF k).isSome
theorem Wy.keep {b : Nat} {S : List Nat} {w w' : World} (h : Wy b w) (k : Kp S w w') (hb : b ∉ S) : Wy b w' := by
  obtain ⟨D, ⟨es, clock, hm, r⟩, h2⟩ := h
  exact ⟨D, ⟨es, clock, k.row hb hm, r⟩, h2⟩
theorem wkey : Keyed Tryz.prog 5 := int_keyed Tryz.underlying5
theorem wwf {n : Nat} (h : n ≤ 255) : (Lit.int .u8 (n : Int)).wf = true := by
  simp [Lit.wf, IntKind.min, IntKind.max, IntKind.bits, IntKind.signed]
  omega
theorem wzero (w : World) : (zeroValue 112).run Tryz.prog w = .ok .nilFunc w := by kernel_rfl
/-- It is asked. -/
theorem Wy.look {b : Nat} {w : World} (h : Wy b w) {k : Nat} (hk : k ≤ 255) : (Instr.lookup 107 (.map (some b)) (.int .u8 k) true).run Tryz.prog w = .ok (.tuple #[match wayF k with | some f => .func (.func f) #[] #[] | none => .nilFunc, .bool (wayF k).isSome]) w := by
  obtain ⟨D, ho, hD⟩ := h
  obtain ⟨h1, h2⟩ := hD k hk
  obtain ⟨v, ps, hrun, hv⟩ := ho.look_ok wkey Tryz.underlying107 (wzero w) (zd := .nil) (zp := []) rfl (keyOf_int_mk Tryz.underlying5 (wwf hk))
  rw [h2] at hrun
  rw [h1] at hv
  rw [hrun]
  unfold wayD at hv
  cases hw : wayF k with
  | none => rw [hw] at hv; rw [fn_nil hv]
  | some f => rw [hw] at hv; rw [fn_inv hv]
/-- It is made. -/
theorem ways_is (w : World) : Calls Tryz.prog 42 #[] w fun e w' => (∃ b, e = .returned (.map (some b)) ∧ Wy b w' ∧ w.heap.size ≤ b) ∧ Kp [] w w' := by
  have h0 := World.ownsMap_made w Tryz.prog 5 fnElem
  have k0 : Kp [] w (w.alloc (.map #[] 0)) := (Kp.refl _ _).alloc _
  have hmk := @run_makeMap Tryz.prog
  obtain ⟨w1, r1, o1, g1⟩ := h0.update wkey Tryz.underlying107 (by decide) (keyOf_int_mk Tryz.underlying5 (wwf (n := 1) (by decide))) (fn_some 76)
  obtain ⟨w2, r2, o2, g2⟩ := o1.update wkey Tryz.underlying107 (by decide) (keyOf_int_mk Tryz.underlying5 (wwf (n := 2) (by decide))) (fn_some 77)
  obtain ⟨w3, r3, o3, g3⟩ := o2.update wkey Tryz.underlying107 (by decide) (keyOf_int_mk Tryz.underlying5 (wwf (n := 4) (by decide))) (fn_some 78)
  obtain ⟨w4, r4, o4, g4⟩ := o3.update wkey Tryz.underlying107 (by decide) (keyOf_int_mk Tryz.underlying5 (wwf (n := 5) (by decide))) (fn_some 78)
  have r1 : (Instr.mapUpdate 107 (.map (some w.heap.size)) (.int .u8 1) (.func (.func 76) #[] #[])).run Tryz.prog (w.alloc (.map #[] 0)) = .ok () w1 := r1
  have r2 : (Instr.mapUpdate 107 (.map (some w.heap.size)) (.int .u8 2) (.func (.func 77) #[] #[])).run Tryz.prog w1 = .ok () w2 := r2
  have r3 : (Instr.mapUpdate 107 (.map (some w.heap.size)) (.int .u8 4) (.func (.func 78) #[] #[])).run Tryz.prog w2 = .ok () w3 := r3
  have r4 : (Instr.mapUpdate 107 (.map (some w.heap.size)) (.int .u8 5) (.func (.func 78) #[] #[])).run Tryz.prog w3 = .ok () w4 := r4
  have kk : Kp [w.heap.size] (w.alloc (.map #[] 0)) w4 := ((((Kp.refl _ _).grown g1 (fun j hj => by cases hj; simp)).grown g2 (fun j hj => by cases hj; simp)).grown g3 (fun j hj => by cases hj; simp)).grown g4 (fun j hj => by cases hj; simp)
  have K : Kp [] w w4 := kp_new_set k0 kk (Nat.le_refl _)
  have hl : ∀ n : Nat, WideAt.IsKeyLit (.int .u8 (n : Int)) := fun _ => trivial
  have HF : Hid (Wy w.heap.size w4) := Lib.hid (by
    refine ⟨_, o4, fun k hk => ?_⟩
    have ne : ∀ {a b : Nat}, a ≠ b → Lit.int .u8 (a : Int) ≠ Lit.int .u8 (b : Int) := fun h e => by
      injection e with _ e
      omega
    by_cases e5 : k = 5
    · subst e5
      rw [Maps.atKey_put_same o3.isMap (hl 5), Maps.has_put_same o3.isMap (hl 5)]
      exact ⟨rfl, rfl⟩
    · by_cases e4 : k = 4
      · subst e4
        rw [Maps.atKey_put_other (ne (by decide)), Maps.has_put_other (ne (by decide)), Maps.atKey_put_same o2.isMap (hl 4), Maps.has_put_same o2.isMap (hl 4)]
        exact ⟨rfl, rfl⟩
      · by_cases e2 : k = 2
        · subst e2
          rw [Maps.atKey_put_other (ne (by decide)), Maps.has_put_other (ne (by decide)), Maps.atKey_put_other (ne (by decide)), Maps.has_put_other (ne (by decide)), Maps.atKey_put_same o1.isMap (hl 2), Maps.has_put_same o1.isMap (hl 2)]
          exact ⟨rfl, rfl⟩
        · by_cases e1 : k = 1
          · subst e1
            rw [Maps.atKey_put_other (ne (by decide)), Maps.has_put_other (ne (by decide)), Maps.atKey_put_other (ne (by decide)), Maps.has_put_other (ne (by decide)), Maps.atKey_put_other (ne (by decide)), Maps.has_put_other (ne (by decide)), Maps.atKey_put_same h0.isMap (hl 1), Maps.has_put_same h0.isMap (hl 1)]
            exact ⟨rfl, rfl⟩
          · rw [Maps.atKey_put_other (ne e5), Maps.has_put_other (ne e5), Maps.atKey_put_other (ne e4), Maps.has_put_other (ne e4), Maps.atKey_put_other (ne e2), Maps.has_put_other (ne e2), Maps.atKey_put_other (ne e1), Maps.has_put_other (ne e1)]
            have : wayF k = none := by unfold wayF; rw [if_neg e5, if_neg e4, if_neg e2, if_neg e1]
            unfold wayD
            rw [this]
            exact ⟨rfl, rfl⟩)
  have HK := Lib.hid K
  clear h0 k0 o1 o2 o3 o4 g1 g2 g3 g4 kk K hl
  go_enter Tryz.func42, Tryz.ntmps42
  go_wp2
  go_ret
  exact ⟨⟨_, rfl, HF.out, Nat.le_refl _⟩, HK.out⟩
end Go.Proofs.YticbnckikkdknaaGreatDoor

namespace Go.Proofs.YticbnckikkdknaaGreatDoor
set_option linter.unusedVariables false
set_option linter.unusedSimpArgs false
set_option maxRecDepth 100000
open Go.RowKit

/-- A sweeper, as cells and as a value. -/
def swC (T n p q o : Nat) (wk : Bool) : Array Value := #[.iface 31 (.pointer (some ⟨p, 0, none⟩)), .int .i64 T, .int .i64 0, .int .i64 n, .int .u8 o, .pointer (some ⟨q, 0, none⟩), .bool wk]
abbrev swV (T n p q o : Nat) (wk : Bool) : Value := .agg #[.iface 31 (.pointer (some ⟨p, 0, none⟩)), .int .i64 T, .int .i64 0, .int .i64 n, .int .u8 o, .pointer (some ⟨q, 0, none⟩), .bool wk]
def swW (w : World) (T n p q o : Nat) (wk : Bool) : World := w.alloc (.cells (swC T n p q o wk) 106)
theorem swW_kp (w : World) (T n p q o : Nat) (wk : Bool) : Kp [] w (swW w T n p q o wk) := (Kp.refl _ _).alloc _
theorem swW_row (w : World) (T n p q o : Nat) (wk : Bool) : (swW w T n p q o wk).heap[w.heap.size]? = some (.cells (swC T n p q o wk) 106 (0, 0)) := heap_alloc_new _ _
section
variable {T n p r q t o : Nat} {wk : Bool} {vs : Nat → Value} {H : List Int} {R : Nat → List Int} {w : World}
/-- A header is written. -/
theorem sw_write (h : Mw T 0 n p r q vs H R t w) (ht : t ≤ 800000) (k : Nat) (hk : k < H.length) (j : Int) (hj : j = k) (kd c ow rf sz : Int) (g m : Bool) (h0 : 0 ≤ kd) (h1 : 0 ≤ c) (h2 : 0 ≤ ow) (h3 : 0 ≤ rf) (h4 : 0 ≤ sz) (hm : Wd.mayB kd c ow rf sz g m = true) (x : Int) (hx : Wd.wordI kd c ow rf sz g m = x) :
    Calls Tryz.prog 118 #[swV T n p q o wk, .int .i64 j, .agg #[.int .u8 kd, .int .u8 c, .bool g, .bool m, .int .u8 ow, .int .u8 rf, .int .u8 sz]] w fun e w' => e = .returned (.tuple #[]) ∧ Mw T 0 n p r q vs (H.set k x) R (t + 1) w' ∧ Kp [p, r] w w' := by
  have hp := Lib.hid (fun w => (Wd.put_yes kd c ow rf sz g m w h0 h1 h2 h3 h4 hm).mono fun e w' ⟨q1, q2⟩ => And.intro q1 (kp_of_below q2))
  have hb := Wd.word_lt kd c ow rf sz g m h0 h1 h2 h3 h4 hm
  rw [hx] at hp hb
  obtain ⟨t0, ht0, hh⟩ := h.hw
  have HWR := Lib.hid (fun (w' : World) (hw : Kp [] w w') => wr_word (hh.on hw) (by omega) k hk j x hj hb.1 (by omega))
  have HT : Hid (∀ w', Hw T 0 n p r (H.set k x) (t0 + 1) w' → Kp [p, r] w w' → Mw T 0 n p r q vs (H.set k x) R (t + 1) w') := Lib.hid fun w' a k' => h.turn k' ⟨t0 + 1, by omega, a⟩ (by simp)
  clear hm hx hb h0 h1 h2 h3 h4 h hh hj hk ht0 ht
  have hna := na_write
  have KB : Hid (∀ w1, Kp [] ((swW w T n p q o wk).alloc (.cells #[.int .u8 kd, .int .u8 c, .bool g, .bool m, .int .u8 ow, .int .u8 rf, .int .u8 sz] 59)) w1 → Kp [] w w1 ∧ w1.heap[w.heap.size]? = some (.cells (swC T n p q o wk) 106 (0, 0))) :=
    Lib.hid fun w1 k1 => ⟨((swW_kp w T n p q o wk).alloc _).trans k1, (((Kp.refl [] _).alloc _).trans k1).row (by simp) (swW_row w T n p q o wk)⟩
  unfold swW swC at KB
  go_enter Tryz.func118, Tryz.ntmps118
  go_wp2_with fail
  refine (hp.out _).mono ?_
  rintro e w1 ⟨rfl, hk1⟩
  obtain ⟨k1, r1⟩ := KB.out w1 hk1
  have c0 : w1.cell? ⟨w.heap.size, 0, none⟩ = some (.iface 31 (.pointer (some ⟨p, 0, none⟩))) := cell_of_row r1 0
  have K1 := Lib.hid k1
  clear hk1 k1 r1
  go_wp2_with fail
  refine (HWR.out _ K1.out).mono ?_
  rintro e w2 ⟨rfl, hg, hk2⟩
  have F := Lib.hid (And.intro (HT.out _ hg ((K1.out.mono (by simp)).trans hk2)) ((K1.out.mono (by simp)).trans hk2))
  clear hg hk2
  go_wp2_with fail
  go_end0
  exact ⟨rfl, F.out.1, F.out.2⟩
/-- Is it the owner's? -/
theorem sw_own (k c o' rf sz : Int) (g m : Bool) (w : World) (res : Bool) (hr : (decide (k = 2) && decide (o' = o)) = res) :
    Calls Tryz.prog 116 #[swV T n p q o wk, .agg #[.int .u8 k, .int .u8 c, .bool g, .bool m, .int .u8 o', .int .u8 rf, .int .u8 sz]] w fun e w' => e = .returned (.bool res) ∧ Kp [] w w' := by
  by_cases h1 : k = 2
  · have e1 : (k == 2) = true := by simp [h1]
    by_cases h2 : o' = (o : Int)
    · have e2 : (o' == (o : Int)) = true := by simp [h2]
      have hres : res = true := by rw [← hr]; simp [h1, h2]
      subst hres
      clear hr h1 h2
      go_enter Tryz.func116, Tryz.ntmps116
      go_wp2
      go_ret
      exact ⟨by simp [*], ((Kp.refl _ _).alloc _).alloc _⟩
    · have e2 : (o' == (o : Int)) = false := by simp [h2]
      have hres : res = false := by rw [← hr]; simp [h1, h2]
      subst hres
      clear hr h1 h2
      go_enter Tryz.func116, Tryz.ntmps116
      go_wp2
      go_ret
      exact ⟨by simp [*], ((Kp.refl _ _).alloc _).alloc _⟩
  · have e1 : (k == 2) = false := by simp [h1]
    have hres : res = false := by rw [← hr]; simp [h1]
    subst hres
    clear hr h1
    go_enter Tryz.func116, Tryz.ntmps116
    go_wp2
    go_ret
    exact ⟨by simp [*], ((Kp.refl _ _).alloc _).alloc _⟩
end
end Go.Proofs.YticbnckikkdknaaGreatDoor
