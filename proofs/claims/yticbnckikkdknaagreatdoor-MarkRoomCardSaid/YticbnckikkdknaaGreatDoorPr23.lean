/- The walks of the document's own heap (demesneref15), on: Make. Law 18: Made for whatever heap, all contracts joined. A slice of things that comes in (law 18), opened to what it says; a slice of numbers. Conditions: none. Law 18: the heap, its words turned on both sides. Conditions: as each theorem states them. -/
import Derived.Test.YticbnckikkdknaaGreatDoorRows
import Derived.ProofKit
import Derived.Deep.Slices
import Derived.Deep.Fields
import Derived.ChangeSame
import Derived.Test.YticbnckikkdknaaGreatDoorPr01
import Derived.Test.YticbnckikkdknaaGreatDoorPr10
import Derived.Test.YticbnckikkdknaaGreatDoorPr18
import Derived.Test.YticbnckikkdknaaGreatDoorPr19
import Derived.Test.YticbnckikkdknaaGreatDoorPr21
import Derived.Test.YticbnckikkdknaaGreatDoorPr22
namespace Go.Proofs.YticbnckikkdknaaGreatDoor
set_option linter.unusedVariables false
set_option linter.unusedSimpArgs false
set_option maxRecDepth 100000
open Go.RowKit
variable {Bz : Nat}

/-- How all stands where what is made is put. -/
def Mk1 (Bz : Nat) (w0 : World) (vs : Nat → Value) (T G n N o rf sz run : Nat) (wk : Bool) (H : List Int) (R : Nat → List Int) (a b : Nat) (w : World) : Prop :=
  ∃ db dc us H1 R1, Mo Bz w0 vs T G n N db dc us H1 R1 w ∧ dmakeS T G n o wk rf sz (H, R) = ((fitH T G n o rf sz H1 a b run, R1), (a : Int)) ∧ a + sz < N ∧ (run ≠ 0 → b + run ≤ n)
section
variable {w : World} {T G n db dc o : Nat} {us : Nat → Value} {H : List Int} {R : Nat → List Int} {wk : Bool}
set_option maxHeartbeats 60000000 in
theorem d_make (h : Dh Bz T G n db dc H w) (hr : Li.Rows4 w us R) (hlt : Li.Lt4 us w.heap.size) (hl : Lok H.length R) (hsm : H.length ≤ 1000) (hi : Ivn T G n H) (ho : o < 64) (rf sz : Nat) (hrf : rf ≤ sz) (hsz : sz ≤ 95) :
    Calls Tryz.prog 60 #[hV db dc H.length T G n, .agg #[us 0, us 1, us 2, us 3], .int .u8 o, .bool wk, .int .i64 rf, .int .i64 sz] w fun e w' => ∃ db' dc' us', e = .returned (.tuple #[hV db' dc' H.length T G n, .agg #[us' 0, us' 1, us' 2, us' 3], .int .i64 (dmakeS T G n o wk rf sz (H, R)).2]) ∧ Dh Bz T G n db' dc' (dmakeS T G n o wk rf sz (H, R)).1.1 w' ∧ Li.Rows4 w' us' (dmakeS T G n o wk rf sz (H, R)).1.2 ∧ Kp [] w w' ∧ Li.Bl4 us us' w.heap.size w'.heap.size := by
  have hn64 := h.hn
  have hT64 := h.hT
  have hG8 := h.hG
  obtain ⟨run, hrun⟩ : ∃ run : Nat, Cl.runC sz = run := by
    rcases Cl.run_ofs (sz : Int) with z | z | z | z | z
    · exact ⟨0, z.2⟩
    · exact ⟨1, z.2.2⟩
    · exact ⟨2, z.2.2⟩
    · exact ⟨3, z.2.2⟩
    · omega
  have hr3 : run ≤ 3 := by rcases Cl.run_ofs (sz : Int) with z | z | z | z | z <;> omega
  have hsr : run = 0 ∨ sz + 1 ≤ 32 * run := by rcases Cl.run_ofs (sz : Int) with z | z | z | z | z <;> omega
  have HRn := Lib.hid (fun w => Cl.rrun_is w sz run hrun)
  have HSr := Lib.hid (fun (i : Nat) (w : World) (hi : i < n) => Ly.rstart_is T G n i ((3 + T + G + n + 32 * i : Nat) : Int) w (by rw [Ly.rowP_in (by omega) (by omega)]; omega) (by omega) (by omega) (by omega) (by omega) (by omega) (by omega))
  have HB0 := Lib.hid (mo_new h hr hlt)
  have hdm : dmakeS T G n o wk rf sz (H, R) = dmakeS T G n o wk rf sz (H, R) := rfl
  conv at hdm => rhs; unfold dmakeS
  simp only [hrun, Int.toNat_natCast] at hdm
  have HDm := Lib.hid hdm
  obtain ⟨N, hN⟩ : ∃ N, N = H.length := ⟨_, rfl⟩
  rw [← hN] at HB0 hsm
  obtain ⟨W0, hW0⟩ : ∃ W0, W0 = mow w db dc N T G n us := ⟨_, rfl⟩
  rw [← hN]
  rw [← hW0] at HB0
  unfold mow zH zL at hW0
  have HW0 := Lib.hid hW0
  have HNn := Lib.hid hN
  have HIv := Lib.hid hi
  have HLk := Lib.hid hl
  have HRun := Lib.hid hrun
  clear hW0 hr hlt hl hN hi h hdm hrun
  go_enter Tryz.func60, Tryz.ntmps60
  go_upto_region 1 with (fail)
  rw [← HW0.out]
  clear HW0
  go_wp2_with fail
  refine (HRn.out _).mono ?_
  rintro e w1 ⟨rfl, rfl⟩
  go_upto_if 27 with (fail)
  go_cut [16, 17] (fun v16 v17 wc => ∃ a b : Nat, v16 = .int .i64 a ∧ v17 = .int .i64 (if run = 0 then -1 else (b : Int)) ∧ Hid (Mk1 Bz w us T G n N o rf sz run wk H R a b wc))
  case first =>
    by_cases hrp : 0 < (run : Int)
    ·
      --{{
      have HDl : Hid (dmakeS T G n o wk rf sz (H, R) = match (dblocksH T G n o wk H run).2 with
        | none => (((dblocksH T G n o wk H run).1, R), 0)
        | some b => ((fitH T G n o rf sz (dblocksH T G n o wk H run).1 (3 + T + G + n + 32 * b) b run, R), ((3 + T + G + n + 32 * b : Nat) : Int))) := Lib.hid (by rw [HDm.out, if_neg (by omega)]; rfl)
      have M0 := HB0.out
      have hcl := d_claim M0.dh run (by omega)
      rw [M0.len] at hcl
      have HCl := Lib.hid hcl
      have a0 := (cell_of_row M0.r5 0).trans (show _ = some (.slice (some ⟨db, 0, none⟩) N dc) from rfl)
      have a1 := (cell_of_row M0.r5 1).trans (show _ = some (.int .i64 T) from rfl)
      have a2 := (cell_of_row M0.r5 2).trans (show _ = some (.int .i64 G) from rfl)
      have a3 := (cell_of_row M0.r5 3).trans (show _ = some (.int .i64 n) from rfl)
      clear M0 hcl
      go_wp2_with fail
      refine HCl.out.mono ?_
      rintro e w7 ⟨b3, c3, rfl, hd7, hk7⟩
      have hr7 := hk7.row (by simp) HB0.out.r5
      have q0 := (cell_of_row hr7 0).trans (show _ = some (.slice (some ⟨db, 0, none⟩) N dc) from rfl)
      have q1 := (cell_of_row hr7 1).trans (show _ = some (.int .i64 T) from rfl)
      have q2 := (cell_of_row hr7 2).trans (show _ = some (.int .i64 G) from rfl)
      have q3 := (cell_of_row hr7 3).trans (show _ = some (.int .i64 n) from rfl)
      have g0 := free_of_row hr7 0
      have g1 := free_of_row hr7 1
      have g2 := free_of_row hr7 2
      have g3 := free_of_row hr7 3
      obtain ⟨W8, hW8⟩ : ∃ W8, W8 = put4v w7 w.heap.size (.slice (some ⟨b3, 0, none⟩) N c3) (.int .i64 T) (.int .i64 G) (.int .i64 n) := ⟨_, rfl⟩
      have M8 : Hid (Mo Bz w us T G n N b3 c3 us (claimD H run).1 R W8) := Lib.hid (by
        rw [hW8]
        exact HB0.out.heap hk7 hd7 (by rw [claimD_len]; exact HNn.out.symm))
      unfold put4v at hW8
      have HW8 := Lib.hid hW8
      clear hW8 hr7 hd7 hk7 HCl HB0 a0 a1 a2 a3
      go_upto_region 5 with (fail)
      rw [← HW8.out]
      clear HW8 q0 q1 q2 q3 g0 g1 g2 g3
      have hbe := dblocksH_eq (T := T) (G := G) (n := n) (o := o) (wk := wk) (H := H) run
      cases hcr : (claimD H run).2 with
      | some k =>
        have hkn : k + run ≤ n := claim_fit HIv.out (by omega) hcr
        have hk0 : ¬ (k : Int) < 0 := by omega
        rw [hcr] at hbe
        simp only [Option.isSome_some, if_true] at hbe
        have HD2 : Hid (dmakeS T G n o wk rf sz (H, R) = ((fitH T G n o rf sz (claimD H run).1 (3 + T + G + n + 32 * k) k run, R), ((3 + T + G + n + 32 * k : Nat) : Int))) := Lib.hid (by rw [HDl.out, hbe, hcr])
        clear hbe hcr
        simp only [bI]
        have hst := HSr.out k
        have a0 := (cell_of_row M8.out.r5 0).trans (show _ = some (.slice (some ⟨b3, 0, none⟩) N c3) from rfl)
        have a1 := (cell_of_row M8.out.r5 1).trans (show _ = some (.int .i64 T) from rfl)
        have a2 := (cell_of_row M8.out.r5 2).trans (show _ = some (.int .i64 G) from rfl)
        have a3 := (cell_of_row M8.out.r5 3).trans (show _ = some (.int .i64 n) from rfl)
        have HSk := Lib.hid (fun w => hst w (by omega))
        clear hst
        go_wp2_with fail
        refine (HSk.out _).mono ?_
        rintro e w9 ⟨rfl, hk9⟩
        have HFi : Hid (Mk1 Bz w us T G n N o rf sz run wk H R (3 + T + G + n + 32 * k) k w9) := Lib.hid (by
          refine ⟨_, _, _, (claimD H run).1, R, M8.out.on hk9, HD2.out, ?_, fun _ => by omega⟩
          have := HNn.out; have := HIv.out.len; omega)
        clear hk9 M8
        go_wp2_with fail
        go_meet
        exact ⟨3 + T + G + n + 32 * k, k, rfl, by rw [if_neg (by omega)], HFi⟩
      | none =>
        have hcl1 : (claimD H run).1 = H := by
          unfold claimD at hcr ⊢
          cases hf : frst (H.getD 0 0).toNat run with
          | none => rfl
          | some k => rw [hf] at hcr; cases hcr
        rw [hcr] at hbe
        simp only [Option.isSome_none, if_false, Bool.false_eq_true] at hbe
        rw [hcl1] at M8
        simp only [bI]
        cases wk with
        | true =>
          simp only [if_true] at hbe
          have HD2 : Hid (dmakeS T G n o true rf sz (H, R) = ((H, R), 0)) := Lib.hid (by rw [HDl.out, hbe, hcr, hcl1])
          clear hbe hcr hcl1
          obtain ⟨A0, A1, A2, A3, l0, k0, l1, k1, l2, k2, l3, k3, hsM9⟩ := M8.out.slices
          have M9 := Lib.hid hsM9
          clear hsM9
          have a0 := (cell_of_row M9.out.r5 0).trans (show _ = some (.slice (some ⟨b3, 0, none⟩) N c3) from rfl)
          have a1 := (cell_of_row M9.out.r5 1).trans (show _ = some (.int .i64 T) from rfl)
          have a2 := (cell_of_row M9.out.r5 2).trans (show _ = some (.int .i64 G) from rfl)
          have a3 := (cell_of_row M9.out.r5 3).trans (show _ = some (.int .i64 n) from rfl)
          have x0 := (cell_of_row M9.out.r6 0).trans (show _ = some (.slice A0 l0 k0) from rfl)
          have x1 := (cell_of_row M9.out.r6 1).trans (show _ = some (.slice A1 l1 k1) from rfl)
          have x2 := (cell_of_row M9.out.r6 2).trans (show _ = some (.slice A2 l2 k2) from rfl)
          have x3 := (cell_of_row M9.out.r6 3).trans (show _ = some (.slice A3 l3 k3) from rfl)
          have z0 := (cell_of_row M9.out.r10 0).trans (show _ = some (.slice none 0 0) from rfl)
          have z1 := (cell_of_row M9.out.r10 1).trans (show _ = some (.int .i64 0) from rfl)
          have z2 := (cell_of_row M9.out.r10 2).trans (show _ = some (.int .i64 0) from rfl)
          have z3 := (cell_of_row M9.out.r10 3).trans (show _ = some (.int .i64 0) from rfl)
          have y0 := free_of_row M9.out.r10 0
          have y1 := free_of_row M9.out.r10 1
          have y2 := free_of_row M9.out.r10 2
          have y3 := free_of_row M9.out.r10 3
          have v0 := (cell_of_row M9.out.r11 0).trans (show _ = some (.slice none 0 0) from rfl)
          have v1 := (cell_of_row M9.out.r11 1).trans (show _ = some (.slice none 0 0) from rfl)
          have v2 := (cell_of_row M9.out.r11 2).trans (show _ = some (.slice none 0 0) from rfl)
          have v3 := (cell_of_row M9.out.r11 3).trans (show _ = some (.slice none 0 0) from rfl)
          have q0 := free_of_row M9.out.r11 0
          have q1 := free_of_row M9.out.r11 1
          have q2 := free_of_row M9.out.r11 2
          have q3 := free_of_row M9.out.r11 3
          go_upto_region 8 with (fail)
          go_region
          all_goals
            go_wp2_with fail
            have F := M9.out.fin (Kp.refl [] W8) M9.out.dh rfl
            refine bodyPost_cell2_tmp rfl ⟨w.heap.size + 2, 0, none⟩ ⟨w.heap.size + 3, 0, none⟩ _ _ (.int .i64 0) rfl rfl rfl (load_row F.1 Tryz.underlying40 rfl (by kernel_rfl)) (load_row F.2.1 Tryz.underlying72 rfl (by kernel_rfl)) rfl ?_
            rw [HD2.out]
            exact ⟨b3, c3, _, rfl, F.2.2.1, F.2.2.2.1, F.2.2.2.2.1, F.2.2.2.2.2⟩
        | false =>
          simp only [if_false, Bool.false_eq_true] at hbe
          have hivw := HIv.out.wait (o := o) hn64 n
          have HDb := Lib.hid hbe
          have HIw := Lib.hid hivw
          have hwt := d_waiting M8.out.dh o (by omega) (fun i hi h5 => absurd h5 ((HIv.out.wait hn64 i).ent i hi))
          rw [← HNn.out] at hwt
          have HWt := Lib.hid hwt
          have a0 := (cell_of_row M8.out.r5 0).trans (show _ = some (.slice (some ⟨b3, 0, none⟩) N c3) from rfl)
          have a1 := (cell_of_row M8.out.r5 1).trans (show _ = some (.int .i64 T) from rfl)
          have a2 := (cell_of_row M8.out.r5 2).trans (show _ = some (.int .i64 G) from rfl)
          have a3 := (cell_of_row M8.out.r5 3).trans (show _ = some (.int .i64 n) from rfl)
          clear hbe hcr hcl1 hivw hwt
          go_wp2_with fail
          refine HWt.out.mono ?_
          rintro e w10 ⟨b4, c4, rfl, hd10, hk10⟩
          have HWl : Hid ((waitH T G n o H n).length = N) := Lib.hid (by rw [waitH_len]; exact HNn.out.symm)
          have hcl := d_claim hd10 run (by omega)
          rw [HWl.out] at hcl
          have HCl2 := Lib.hid hcl
          have K10 := Lib.hid hk10
          clear hcl hd10 hk10 HWt
          go_wp2_with fail
          refine HCl2.out.mono ?_
          rintro e w11 ⟨b5, c5, rfl, hd11, hk11⟩
          have hr7 := (K10.out.trans hk11).row (by simp) M8.out.r5
          have q0 := (cell_of_row hr7 0).trans (show _ = some (.slice (some ⟨b3, 0, none⟩) N c3) from rfl)
          have q1 := (cell_of_row hr7 1).trans (show _ = some (.int .i64 T) from rfl)
          have q2 := (cell_of_row hr7 2).trans (show _ = some (.int .i64 G) from rfl)
          have q3 := (cell_of_row hr7 3).trans (show _ = some (.int .i64 n) from rfl)
          have g0 := free_of_row hr7 0
          have g1 := free_of_row hr7 1
          have g2 := free_of_row hr7 2
          have g3 := free_of_row hr7 3
          obtain ⟨W9, hW9⟩ : ∃ W9, W9 = put4v w11 w.heap.size (.slice (some ⟨b5, 0, none⟩) N c5) (.int .i64 T) (.int .i64 G) (.int .i64 n) := ⟨_, rfl⟩
          have M9 : Hid (Mo Bz w us T G n N b5 c5 us (claimD (waitH T G n o H n) run).1 R W9) := Lib.hid (by
            rw [hW9]
            exact M8.out.heap (K10.out.trans hk11) hd11 (by rw [claimD_len]; exact HWl.out))
          unfold put4v at hW9
          have HW9 := Lib.hid hW9
          clear hW9 hr7 hd11 hk11 HCl2 K10 M8 a0 a1 a2 a3
          go_upto_region 7 with (fail)
          rw [← HW9.out]
          clear HW9 q0 q1 q2 q3 g0 g1 g2 g3
          cases hcr : (claimD (waitH T G n o H n) run).2 with
          | some k =>
            have hkn : k + run ≤ n := claim_fit HIw.out (by omega) hcr
            have hk0 : ¬ (k : Int) < 0 := by omega
            have HD2 : Hid (dmakeS T G n o false rf sz (H, R) = ((fitH T G n o rf sz (claimD (waitH T G n o H n) run).1 (3 + T + G + n + 32 * k) k run, R), ((3 + T + G + n + 32 * k : Nat) : Int))) := Lib.hid (by rw [HDl.out, HDb.out, hcr])
            clear hcr
            simp only [bI]
            have hst := HSr.out k
            have a0 := (cell_of_row M9.out.r5 0).trans (show _ = some (.slice (some ⟨b5, 0, none⟩) N c5) from rfl)
            have a1 := (cell_of_row M9.out.r5 1).trans (show _ = some (.int .i64 T) from rfl)
            have a2 := (cell_of_row M9.out.r5 2).trans (show _ = some (.int .i64 G) from rfl)
            have a3 := (cell_of_row M9.out.r5 3).trans (show _ = some (.int .i64 n) from rfl)
            have HSk := Lib.hid (fun w => hst w (by omega))
            clear hst
            go_wp2_with fail
            refine (HSk.out _).mono ?_
            rintro e w9 ⟨rfl, hk9⟩
            have HFi : Hid (Mk1 Bz w us T G n N o rf sz run false H R (3 + T + G + n + 32 * k) k w9) := Lib.hid (by
              refine ⟨_, _, _, (claimD (waitH T G n o H n) run).1, R, M9.out.on hk9, HD2.out, ?_, fun _ => by omega⟩
              have := HNn.out; have := HIv.out.len; omega)
            clear hk9 M9
            go_wp2_with fail
            go_meet
            exact ⟨3 + T + G + n + 32 * k, k, rfl, by rw [if_neg (by omega)], HFi⟩
          | none =>
            have HD2 : Hid (dmakeS T G n o false rf sz (H, R) = (((claimD (waitH T G n o H n) run).1, R), 0)) := Lib.hid (by rw [HDl.out, HDb.out, hcr])
            clear hcr
            simp only [bI]
            obtain ⟨A0, A1, A2, A3, l0, k0, l1, k1, l2, k2, l3, k3, hsM10⟩ := M9.out.slices
            have M10 := Lib.hid hsM10
            clear hsM10
            have a0 := (cell_of_row M10.out.r5 0).trans (show _ = some (.slice (some ⟨b5, 0, none⟩) N c5) from rfl)
            have a1 := (cell_of_row M10.out.r5 1).trans (show _ = some (.int .i64 T) from rfl)
            have a2 := (cell_of_row M10.out.r5 2).trans (show _ = some (.int .i64 G) from rfl)
            have a3 := (cell_of_row M10.out.r5 3).trans (show _ = some (.int .i64 n) from rfl)
            have x0 := (cell_of_row M10.out.r6 0).trans (show _ = some (.slice A0 l0 k0) from rfl)
            have x1 := (cell_of_row M10.out.r6 1).trans (show _ = some (.slice A1 l1 k1) from rfl)
            have x2 := (cell_of_row M10.out.r6 2).trans (show _ = some (.slice A2 l2 k2) from rfl)
            have x3 := (cell_of_row M10.out.r6 3).trans (show _ = some (.slice A3 l3 k3) from rfl)
            have z0 := (cell_of_row M10.out.r10 0).trans (show _ = some (.slice none 0 0) from rfl)
            have z1 := (cell_of_row M10.out.r10 1).trans (show _ = some (.int .i64 0) from rfl)
            have z2 := (cell_of_row M10.out.r10 2).trans (show _ = some (.int .i64 0) from rfl)
            have z3 := (cell_of_row M10.out.r10 3).trans (show _ = some (.int .i64 0) from rfl)
            have y0 := free_of_row M10.out.r10 0
            have y1 := free_of_row M10.out.r10 1
            have y2 := free_of_row M10.out.r10 2
            have y3 := free_of_row M10.out.r10 3
            have v0 := (cell_of_row M10.out.r11 0).trans (show _ = some (.slice none 0 0) from rfl)
            have v1 := (cell_of_row M10.out.r11 1).trans (show _ = some (.slice none 0 0) from rfl)
            have v2 := (cell_of_row M10.out.r11 2).trans (show _ = some (.slice none 0 0) from rfl)
            have v3 := (cell_of_row M10.out.r11 3).trans (show _ = some (.slice none 0 0) from rfl)
            have q0 := free_of_row M10.out.r11 0
            have q1 := free_of_row M10.out.r11 1
            have q2 := free_of_row M10.out.r11 2
            have q3 := free_of_row M10.out.r11 3
            go_upto_region 8 with (fail)
            go_region
            all_goals
              go_wp2_with fail
              have F := M10.out.fin (Kp.refl [] W9) M10.out.dh rfl
              refine bodyPost_cell2_tmp rfl ⟨w.heap.size + 2, 0, none⟩ ⟨w.heap.size + 3, 0, none⟩ _ _ (.int .i64 0) rfl rfl rfl (load_row F.1 Tryz.underlying40 rfl (by kernel_rfl)) (load_row F.2.1 Tryz.underlying72 rfl (by kernel_rfl)) rfl ?_
              rw [HD2.out]
              exact ⟨b5, c5, _, rfl, F.2.2.1, F.2.2.2.1, F.2.2.2.2.1, F.2.2.2.2.2⟩
      --}}
    · obtain rfl : run = 0 := by omega
      obtain ⟨c, hcc, hc, hwd⟩ : ∃ c : Nat, Cl.ofC sz = c ∧ c < 4 ∧ (sz : Int) + 1 ≤ Cl.wdC c := by
        have h9 : sz < 9 := by
          have := HRun.out
          rcases Cl.run_ofs (sz : Int) with z | z | z | z | z <;> omega
        rcases Cl.of_ofs (sz : Int) with z | z | z | z | z | z
        · omega
        · exact ⟨0, z.2.2, by omega, by have : Cl.wdC (0 : Nat) = 2 := by decide
                                        omega⟩
        · exact ⟨1, z.2, by omega, by have : Cl.wdC (1 : Nat) = 3 := by decide
                                      omega⟩
        · exact ⟨2, z.2.2, by omega, by have : Cl.wdC (2 : Nat) = 5 := by decide
                                        omega⟩
        · exact ⟨3, z.2.2, by omega, by have : Cl.wdC (3 : Nat) = 9 := by decide
                                        omega⟩
        · omega
      have HOf := Lib.hid (fun w => Cl.rof_is w sz c (by omega) hcc)
      obtain ⟨s1, hs1⟩ : ∃ s1 : Hs, s1 = if R c = [] then moreS T G n o c wk (H, R) else (H, R) := ⟨_, rfl⟩
      have HDs : Hid (dmakeS T G n o wk rf sz (H, R) = match (popS s1 c).2 with
        | none => ((popS s1 c).1, 0)
        | some x => ((fitH T G n o rf sz (popS s1 c).1.1 x.toNat 0 0, (popS s1 c).1.2), x)) := Lib.hid (by
        have e : dcellS T G n o wk c (H, R) = popS s1 c := by
          unfold dcellS
          rw [hs1]
          split <;> rfl
        rw [HDm.out, if_pos (by rfl), hcc, Int.toNat_natCast, e]
        rfl)
      have HLs : Hid (Lok N s1.2) := Lib.hid (by
        rw [hs1]
        split
        · exact more_ok hc ho hn64 HIv.out HNn.out.symm (by have := HLk.out; rwa [← HNn.out] at this)
        · have := HLk.out; rwa [← HNn.out] at this)
      have HS1 := Lib.hid hs1
      have HWd := Lib.hid hwd
      obtain ⟨A0, A1, A2, A3, l0, k0, l1, k1, l2, k2, l3, k3, hM0⟩ := HB0.out.slices
      obtain ⟨ao, cap, hlc⟩ := hM0.len4 hc
      obtain ⟨L, hL⟩ : ∃ L, L = (R c).length := ⟨_, rfl⟩
      rw [← hL] at hlc
      have HL := Lib.hid hL
      have hlkH : Lok H.length R := HLk.out
      have hmo := d_more (wk := wk) hM0.dh hM0.rd hM0.lt4 hlkH (by rw [← HNn.out]; exact hsm) HIv.out ho hc
      rw [← HNn.out] at hmo
      have HMo := Lib.hid hmo
      have a0 := (cell_of_row hM0.r5 0).trans (show _ = some (.slice (some ⟨db, 0, none⟩) N dc) from rfl)
      have a1 := (cell_of_row hM0.r5 1).trans (show _ = some (.int .i64 T) from rfl)
      have a2 := (cell_of_row hM0.r5 2).trans (show _ = some (.int .i64 G) from rfl)
      have a3 := (cell_of_row hM0.r5 3).trans (show _ = some (.int .i64 n) from rfl)
      have x0 := (cell_of_row hM0.r6 0).trans (show _ = some (.slice A0 l0 k0) from rfl)
      have x1 := (cell_of_row hM0.r6 1).trans (show _ = some (.slice A1 l1 k1) from rfl)
      have x2 := (cell_of_row hM0.r6 2).trans (show _ = some (.slice A2 l2 k2) from rfl)
      have x3 := (cell_of_row hM0.r6 3).trans (show _ = some (.slice A3 l3 k3) from rfl)
      have M0 := Lib.hid hM0
      clear hs1 hwd hM0 hL hlkH hmo hcc HB0 HDm HLk
      go_wp2_with fail
      refine (HOf.out _).mono ?_
      rintro e w2 ⟨rfl, rfl⟩
      go_upto_if 63 with (fail)
      go_cut [] (fun wc => Hid (∃ b c vs, Mo Bz w us T G n N b c vs s1.1 s1.2 wc))
      case first =>
        --{{
        by_cases hl0 : L = 0
        · subst hl0
          have hs0 : R c = [] := List.eq_nil_of_length_eq_zero HL.out.symm
          have hs1 := HS1.out
          rw [if_pos hs0] at hs1
          have HS2 := Lib.hid hs1
          clear hs1 hs0
          go_wp2_with fail
          refine HMo.out.mono ?_
          rintro e w7 ⟨b3, c3, us3, rfl, hd7, hr7', hk7, hb7⟩
          have hr7 := hk7.row (by simp) M0.out.r5
          have q0 := (cell_of_row hr7 0).trans (show _ = some (.slice (some ⟨db, 0, none⟩) N dc) from rfl)
          have q1 := (cell_of_row hr7 1).trans (show _ = some (.int .i64 T) from rfl)
          have q2 := (cell_of_row hr7 2).trans (show _ = some (.int .i64 G) from rfl)
          have q3 := (cell_of_row hr7 3).trans (show _ = some (.int .i64 n) from rfl)
          have g0 := free_of_row hr7 0
          have g1 := free_of_row hr7 1
          have g2 := free_of_row hr7 2
          have g3 := free_of_row hr7 3
          have k2 := put4v_kp w7 w.heap.size (.slice (some ⟨b3, 0, none⟩) N c3) (.int .i64 T) (.int .i64 G) (.int .i64 n)
          have K6 := Lib.hid (k2.row (by simp) (hk7.row (by simp) M0.out.r6))
          have hon : ∀ d, d < 4 → (us3 d).oneCell' = true := fun d hd => (hr7' d hd).one
          have HON : Hid ((#[us3 0, us3 1, us3 2, us3 3] : Array Value).all (·.oneCell') = true) := Lib.hid (Li.ones_of (hon 0 (by omega)) (hon 1 (by omega)) (hon 2 (by omega)) (hon 3 (by omega)))
          have M9 := Lib.hid (M0.out.both hk7 hd7 (by rw [more_len]; exact HNn.out.symm) hr7' hb7)
          clear hr7 hd7 hr7' hk7 hb7 k2 hon HMo
          go_wp2_with (refine wpList_store_row rfl 72 _ _ rfl (w.heap.size + 1) _ rfl rfl 72 _ K6.out (by kernel_rfl) rfl HON.out ?_)
          go_meet
          exact Lib.hid ⟨b3, c3, us3, by rw [HS2.out]; exact M9.out⟩
        · have hs0 : R c ≠ [] := fun e => hl0 (by rw [HL.out, e]; rfl)
          have hs1 := HS1.out
          rw [if_neg hs0] at hs1
          have HS2 := Lib.hid hs1
          have hb1 : ((L : Int) == 0) = false := by simpa using hl0
          clear hs1 hs0
          go_wp2_with fail
          go_meet
          exact Lib.hid ⟨_, _, _, by rw [HS2.out]; exact M0.out⟩
        --}}
      case rest =>
        obtain ⟨b4, c4, vs4, hM4⟩ := hcut.out
        obtain ⟨B0, B1, B2, B3, e0, f0, e1, f1, e2, f2, e3, f3, hM5⟩ := hM4.slices
        have HPo := Lib.hid (Li.rpop_is wc _ s1.2 c hM5.rd (HLs.out.len hsm) hM5.lt4)
        have M5 := Lib.hid hM5
        have x0 := (cell_of_row hM5.r6 0).trans (show _ = some (.slice B0 e0 f0) from rfl)
        have x1 := (cell_of_row hM5.r6 1).trans (show _ = some (.slice B1 e1 f1) from rfl)
        have x2 := (cell_of_row hM5.r6 2).trans (show _ = some (.slice B2 e2 f2) from rfl)
        have x3 := (cell_of_row hM5.r6 3).trans (show _ = some (.slice B3 e3 f3) from rfl)
        clear hcut hM4 hM5 M0 HMo hlc a0 a1 a2 a3
        go_wp2_with fail
        refine HPo.out.mono ?_
        rintro e w7 ⟨us3, rfl, hk7, hr7, hb7⟩
        obtain ⟨C0, C1, C2, C3, g0, h0, g1, h1, g2, h2, g3, h3, hE⟩ := rows_slices hr7
        have E0 : us3 0 = .slice C0 g0 h0 := hE 0 (by omega)
        have E1 : us3 1 = .slice C1 g1 h1 := hE 1 (by omega)
        have E2 : us3 2 = .slice C2 g2 h2 := hE 2 (by omega)
        have E3 : us3 3 = .slice C3 g3 h3 := hE 3 (by omega)
        have hpe := popE_at (R := s1.2) hc
        have hpp : popS s1 c = ((s1.1, Li.popR s1.2 c), if Li.popE s1.2 c = 0 then some (Li.popX s1.2 c) else none) := rfl
        rw [E0, E1, E2, E3]
        have hrs : Li.Rows4 w7 (sl C0 C1 C2 C3 g0 h0 g1 h1 g2 h2 g3 h3) (Li.popR s1.2 c) := fun d hd => by rw [← hE d hd]; exact hr7 d hd
        have hbs : Li.Bl4 (sl B0 B1 B2 B3 e0 f0 e1 f1 e2 f2 e3 f3) (sl C0 C1 C2 C3 g0 h0 g1 h1 g2 h2 g3 h3) wc.heap.size w7.heap.size := fun d hd => by rw [← hE d hd]; exact hb7 d hd
        have kA : Kp [] w7 (w7.alloc (.cells #[.slice C0 g0 h0, .slice C1 g1 h1, .slice C2 g2 h2, .slice C3 g3 h3] 72)) := (Kp.refl _ _).alloc _
        have heb := heap_alloc_new w7 (.cells #[.slice C0 g0 h0, .slice C1 g1 h1, .slice C2 g2 h2, .slice C3 g3 h3] 72)
        have K7 := Lib.hid (hk7.trans kA)
        have KA := Lib.hid kA
        have HEb := Lib.hid heb
        have HRs := Lib.hid hrs
        have HBs := Lib.hid hbs
        have HPp := Lib.hid hpp
        clear hr7 hb7 hE E0 E1 E2 E3 hrs hbs hk7 kA heb hpp HPo x0 x1 x2 x3
        by_cases h0' : s1.2 c = []
        · rw [if_pos h0'] at hpe
          rw [hpe]
          have HD2 : Hid (dmakeS T G n o wk rf sz (H, R) = (s1, 0)) := Lib.hid (by rw [HDs.out, popS_none hc h0'])
          have M7 := Lib.hid (M5.out.on K7.out)
          clear hpe h0' HRs HBs HEb HDs HPp KA
          have a0 := (cell_of_row M7.out.r5 0).trans (show _ = some (.slice (some ⟨b4, 0, none⟩) N c4) from rfl)
          have a1 := (cell_of_row M7.out.r5 1).trans (show _ = some (.int .i64 T) from rfl)
          have a2 := (cell_of_row M7.out.r5 2).trans (show _ = some (.int .i64 G) from rfl)
          have a3 := (cell_of_row M7.out.r5 3).trans (show _ = some (.int .i64 n) from rfl)
          have x0 := (cell_of_row M7.out.r6 0).trans (show _ = some (.slice B0 e0 f0) from rfl)
          have x1 := (cell_of_row M7.out.r6 1).trans (show _ = some (.slice B1 e1 f1) from rfl)
          have x2 := (cell_of_row M7.out.r6 2).trans (show _ = some (.slice B2 e2 f2) from rfl)
          have x3 := (cell_of_row M7.out.r6 3).trans (show _ = some (.slice B3 e3 f3) from rfl)
          have z0 := (cell_of_row M7.out.r10 0).trans (show _ = some (.slice none 0 0) from rfl)
          have z1 := (cell_of_row M7.out.r10 1).trans (show _ = some (.int .i64 0) from rfl)
          have z2 := (cell_of_row M7.out.r10 2).trans (show _ = some (.int .i64 0) from rfl)
          have z3 := (cell_of_row M7.out.r10 3).trans (show _ = some (.int .i64 0) from rfl)
          have y0 := free_of_row M7.out.r10 0
          have y1 := free_of_row M7.out.r10 1
          have y2 := free_of_row M7.out.r10 2
          have y3 := free_of_row M7.out.r10 3
          have v0 := (cell_of_row M7.out.r11 0).trans (show _ = some (.slice none 0 0) from rfl)
          have v1 := (cell_of_row M7.out.r11 1).trans (show _ = some (.slice none 0 0) from rfl)
          have v2 := (cell_of_row M7.out.r11 2).trans (show _ = some (.slice none 0 0) from rfl)
          have v3 := (cell_of_row M7.out.r11 3).trans (show _ = some (.slice none 0 0) from rfl)
          have q0 := free_of_row M7.out.r11 0
          have q1 := free_of_row M7.out.r11 1
          have q2 := free_of_row M7.out.r11 2
          have q3 := free_of_row M7.out.r11 3
          go_upto_region 15 with (fail)
          go_region
          all_goals
            go_wp2_with fail
            have F := M7.out.fin (Kp.refl [] _) M7.out.dh rfl
            refine bodyPost_cell2_tmp rfl ⟨w.heap.size + 2, 0, none⟩ ⟨w.heap.size + 3, 0, none⟩ _ _ (.int .i64 0) rfl rfl rfl (load_row F.1 Tryz.underlying40 rfl (by kernel_rfl)) (load_row F.2.1 Tryz.underlying72 rfl (by kernel_rfl)) rfl ?_
            rw [HD2.out]
            exact ⟨b4, c4, _, rfl, F.2.2.1, F.2.2.2.1, F.2.2.2.2.1, F.2.2.2.2.2⟩
        · rw [if_neg h0'] at hpe
          rw [hpe]
          obtain ⟨a, ha, ha0, haN⟩ : ∃ a : Nat, Li.popX s1.2 c = (a : Int) ∧ 1 ≤ a ∧ a + sz < N := by
            have hx : Li.popX s1.2 c = (s1.2 c).getLastD 0 := by
              unfold Li.popX
              rw [if_pos hpe, Int.toNat_natCast]
            have hm : (s1.2 c).getLastD 0 ∈ s1.2 c := by
              rw [List.getLastD_eq_getLast?, List.getLast?_eq_some_getLast h0']
              exact List.getLast_mem h0'
            have hl2 := (HLs.out c hc).2 _ hm
            have hwd := HWd.out
            refine ⟨((s1.2 c).getLastD 0).toNat, ?_, ?_, ?_⟩
            · rw [hx]; omega
            · omega
            · omega
          rw [ha]
          have HD2 : Hid (dmakeS T G n o wk rf sz (H, R) = ((fitH T G n o rf sz s1.1 a 0 0, Li.popR s1.2 c), (a : Int))) := Lib.hid (by
            rw [HDs.out, HPp.out, if_pos hpe]
            simp only [ha, Int.toNat_natCast])
          have M7 := Lib.hid (M5.out.on K7.out)
          have t0 := (cell_of_row HEb.out 0).trans (show _ = some (.slice C0 g0 h0) from rfl)
          have t1 := (cell_of_row HEb.out 1).trans (show _ = some (.slice C1 g1 h1) from rfl)
          have t2 := (cell_of_row HEb.out 2).trans (show _ = some (.slice C2 g2 h2) from rfl)
          have t3 := (cell_of_row HEb.out 3).trans (show _ = some (.slice C3 g3 h3) from rfl)
          have x0 := (cell_of_row M7.out.r6 0).trans (show _ = some (.slice B0 e0 f0) from rfl)
          have x1 := (cell_of_row M7.out.r6 1).trans (show _ = some (.slice B1 e1 f1) from rfl)
          have x2 := (cell_of_row M7.out.r6 2).trans (show _ = some (.slice B2 e2 f2) from rfl)
          have x3 := (cell_of_row M7.out.r6 3).trans (show _ = some (.slice B3 e3 f3) from rfl)
          have q0 := free_of_row M7.out.r6 0
          have q1 := free_of_row M7.out.r6 1
          have q2 := free_of_row M7.out.r6 2
          have q3 := free_of_row M7.out.r6 3
          have hz5 := M5.out.z
          have M9 : Hid (Mo Bz w us T G n N b4 c4 (sl C0 C1 C2 C3 g0 h0 g1 h1 g2 h2 g3 h3) s1.1 (Li.popR s1.2 c) (put4v (w7.alloc (.cells #[.slice C0 g0 h0, .slice C1 g1 h1, .slice C2 g2 h2, .slice C3 g3 h3] 72)) (w.heap.size + 1) (.slice C0 g0 h0) (.slice C1 g1 h1) (.slice C2 g2 h2) (.slice C3 g3 h3))) := Lib.hid
            (M5.out.list2 K7.out (put4v_kp _ _ _ _ _ _) (put4v_row _ _ _ _ M7.out.r6) (fun d hd => (HRs.out d hd).keep0 KA.out) (bl_up HBs.out KA.out.size) hz5)
          have HFi : Hid (Mk1 Bz w us T G n N o rf sz 0 wk H R a 0 (put4v (w7.alloc (.cells #[.slice C0 g0 h0, .slice C1 g1 h1, .slice C2 g2 h2, .slice C3 g3 h3] 72)) (w.heap.size + 1) (.slice C0 g0 h0) (.slice C1 g1 h1) (.slice C2 g2 h2) (.slice C3 g3 h3))) := Lib.hid ⟨_, _, _, s1.1, Li.popR s1.2 c, M9.out, HD2.out, haN, fun h => absurd rfl h⟩
          clear hpe h0' HRs HBs HEb HDs HPp KA M9 M7 M5 K7 HD2 hz5 ha
          go_wp2_with fail
          go_meet
          exact ⟨a, 0, rfl, rfl, HFi⟩
  case rest =>
    --{{
    obtain ⟨a, b, rfl, rfl, HFi⟩ := hcut
    obtain ⟨b1, c1, us1, H1, R1, hM, hdm, haN, hbn⟩ := HFi.out
    have HD1 := Lib.hid hdm
    have M1 := Lib.hid hM
    have hvb : run ≠ 0 → (if run = 0 then -1 else (b : Int)) = (b : Int) := fun h => if_neg h
    generalize (if run = 0 then -1 else (b : Int)) = vb at hvb
    have HVb := Lib.hid hvb
    have HBn := Lib.hid hbn
    have HCk : Hid (∀ i, clearH H1 a (i + 1) = (clearH H1 a i).set (a + 1 + i) 0) := Lib.hid fun i => rfl
    have HCl : Hid (∀ i, (clearH H1 a i).length = N) := Lib.hid fun i => by rw [clearH_all, setAll_len]; exact hM.len
    have hw1 := IntWalk.i64_in ((a : Int) + 1) (by omega)
    obtain ⟨y, hy⟩ : ∃ y, y = Wd.wordI 2 0 o rf sz false false := ⟨_, rfl⟩
    have hyb : 0 ≤ y ∧ y < 18446744073709551616 := by
      rw [hy]
      unfold Wd.wordI Wd.bitI
      simp only [if_false, Bool.false_eq_true]
      omega
    have HYb := Lib.hid hyb
    have HY := Lib.hid hy
    have HWd := Lib.hid (fun w => Wd.rword_any 2 0 o rf sz false false w (by decide) (by decide) (by omega) (by omega) (by omega) (by decide) (by decide) (by omega) (by omega) (by omega))
    rw [← hy] at HWd
    have hwr := IntWalk.u8_in (rf : Int) (by omega)
    have hws := IntWalk.u8_in (sz : Int) (by omega)
    clear HFi hM hdm hvb hbn HB0 HDm HRun hyb hy
    go_wp2_with fail
    go_loopg [22] sz (fun gg v wr => ∃ i : Nat, i + gg = sz ∧ v = .int .i64 i ∧ Hid (∃ b c, Mo Bz w us T G n N b c us1 (clearH H1 a i) R1 wr))
    case atStart => exact ⟨0, by omega, rfl, Lib.hid ⟨b1, c1, M1.out⟩⟩
    case round =>
      obtain ⟨i, hi, rfl, HR⟩ := hrel
      obtain ⟨b2, c2, hM⟩ := HR.out
      have M2 := Lib.hid hM
      by_cases hlt : i < sz
      · have hwt := hM.dh.with (k := a + 1 + i) (by rw [HCl.out]; omega) (x := 0) (by decide) (by decide)
        rw [HCl.out, ← HCk.out] at hwt
        have HWt := Lib.hid hwt
        have hw2 : IntKind.i64.wrap ((a : Int) + 1 + (i : Int)) = ((a + 1 + i : Nat) : Int) := by rw [IntWalk.i64_in _ (by omega)]; omega
        have hw3 := IntWalk.i64_in ((i : Int) + 1) (by omega)
        have a0 := (cell_of_row hM.r5 0).trans (show _ = some (.slice (some ⟨b2, 0, none⟩) N c2) from rfl)
        have a1 := (cell_of_row hM.r5 1).trans (show _ = some (.int .i64 T) from rfl)
        have a2 := (cell_of_row hM.r5 2).trans (show _ = some (.int .i64 G) from rfl)
        have a3 := (cell_of_row hM.r5 3).trans (show _ = some (.int .i64 n) from rfl)
        clear hM hwt HR
        go_wp2_with fail
        refine HWt.out.mono ?_
        rintro e w7 ⟨b3, c3, rfl, hd7, hk7⟩
        have hr7 := hk7.row (by simp) M2.out.r5
        have q0 := (cell_of_row hr7 0).trans (show _ = some (.slice (some ⟨b2, 0, none⟩) N c2) from rfl)
        have q1 := (cell_of_row hr7 1).trans (show _ = some (.int .i64 T) from rfl)
        have q2 := (cell_of_row hr7 2).trans (show _ = some (.int .i64 G) from rfl)
        have q3 := (cell_of_row hr7 3).trans (show _ = some (.int .i64 n) from rfl)
        have g0 := free_of_row hr7 0
        have g1 := free_of_row hr7 1
        have g2 := free_of_row hr7 2
        have g3 := free_of_row hr7 3
        have hfin : Hid (∃ b c, Mo Bz w us T G n N b c us1 (clearH H1 a (i + 1)) R1 (put4v w7 w.heap.size (.slice (some ⟨b3, 0, none⟩) N c3) (.int .i64 T) (.int .i64 G) (.int .i64 n))) := Lib.hid ⟨b3, c3, M2.out.heap hk7 hd7 (HCl.out _)⟩
        clear hr7 hd7 hk7 HWt a0 a1 a2 a3 M2
        go_wp2_with fail
        go_roundg (sz - (i + 1))
        all_goals first
          | omega
          | exact ⟨i + 1, by omega, rfl, hfin⟩
      · obtain rfl : sz = i := by omega
        clear hM HR hi hlt HCk
        go_upto_region 22 with (fail)
        go_cut [] (fun wc => Hid (∃ b c, Mo Bz w us T G n N b c us1 ((clearH H1 a sz).set a y) R1 wc))
        case first =>
          have hwt : ∀ w', Kp [] wr w' → Calls Tryz.prog 49 #[hV b2 c2 N T G n, .int .i64 a, .int .u64 y] w' fun e w'' => ∃ b' c', e = .returned (hV b' c' N T G n) ∧ Dh Bz T G n b' c' ((clearH H1 a sz).set a y) w'' ∧ Kp [] w' w'' := fun w' kk => by
            have := (M2.out.dh.on kk).with (k := a) (by rw [HCl.out]; omega) HYb.out.1 HYb.out.2
            rw [HCl.out] at this
            exact this
          have HWt := Lib.hid hwt
          clear hwt
          have a0 := (cell_of_row M2.out.r5 0).trans (show _ = some (.slice (some ⟨b2, 0, none⟩) N c2) from rfl)
          have a1 := (cell_of_row M2.out.r5 1).trans (show _ = some (.int .i64 T) from rfl)
          have a2 := (cell_of_row M2.out.r5 2).trans (show _ = some (.int .i64 G) from rfl)
          have a3 := (cell_of_row M2.out.r5 3).trans (show _ = some (.int .i64 n) from rfl)
          go_region_with (first
            | (go_at_call 30
               refine (HWd.out _).mono ?_
               rintro e w6 ⟨rfl, hk9⟩
               have K6 : Hid (Kp [] wr w6) := Lib.hid (by refine Kp.trans ?_ (kp_of_below hk9); exact ⟨rfl, rfl, rfl, Nat.le_refl _, fun _ _ _ => rfl⟩)
               have hr6 := K6.out.row (by simp) M2.out.r5
               have q0 := (cell_of_row hr6 0).trans (show _ = some (.slice (some ⟨b2, 0, none⟩) N c2) from rfl)
               have q1 := (cell_of_row hr6 1).trans (show _ = some (.int .i64 T) from rfl)
               have q2 := (cell_of_row hr6 2).trans (show _ = some (.int .i64 G) from rfl)
               have q3 := (cell_of_row hr6 3).trans (show _ = some (.int .i64 n) from rfl)
               clear hk9 hr6)
            | (go_at_call 49
               refine (HWt.out _ ?_).mono ?_
               · exact K6.out.trans ⟨rfl, rfl, rfl, Nat.le_refl _, fun _ _ _ => rfl⟩
               rintro e w7 ⟨b3, c3, rfl, hd7, hk9⟩
               have K7 : Hid (Kp [] wr w7) := Lib.hid (K6.out.trans (by refine Kp.trans ?_ hk9; exact ⟨rfl, rfl, rfl, Nat.le_refl _, fun _ _ _ => rfl⟩))
               have hr7 := K7.out.row (by simp) M2.out.r5
               have s0 := (cell_of_row hr7 0).trans (show _ = some (.slice (some ⟨b2, 0, none⟩) N c2) from rfl)
               have s1 := (cell_of_row hr7 1).trans (show _ = some (.int .i64 T) from rfl)
               have s2 := (cell_of_row hr7 2).trans (show _ = some (.int .i64 G) from rfl)
               have s3 := (cell_of_row hr7 3).trans (show _ = some (.int .i64 n) from rfl)
               have g0 := free_of_row hr7 0
               have g1 := free_of_row hr7 1
               have g2 := free_of_row hr7 2
               have g3 := free_of_row hr7 3
               have HR7 := Lib.hid hr7
               have HD7 := Lib.hid hd7
               clear hk9 hr7 hd7))
          all_goals
            go_wp2_with fail
            go_meet
            exact Lib.hid ⟨b3, c3, M2.out.heap K7.out HD7.out (by rw [List.length_set]; exact HCl.out _)⟩
        case rest =>
          obtain ⟨b4, c4, hM4⟩ := hcut.out
          have M4 := Lib.hid hM4
          have HTl : Hid (∀ i, (tailD T G b ((clearH H1 a sz).set a y) i).length = N) := Lib.hid fun i => by rw [tailD_len, List.length_set]; exact HCl.out _
          have HTk : Hid (∀ i, tailD T G b ((clearH H1 a sz).set a y) (i + 1) = (tailD T G b ((clearH H1 a sz).set a y) i).set (3 + T + G + (b + i)) 3) := Lib.hid fun i => rfl
          clear hM4 hcut M2
          go_wp2_with fail
          go_loopg [23] run (fun gg v wr => ∃ i : Nat, i + gg = run ∧ v = .int .i64 i ∧ Hid (∃ b' c, Mo Bz w us T G n N b' c us1 (tailD T G b ((clearH H1 a sz).set a y) i) R1 wr))
          case atStart => exact ⟨0, by omega, rfl, Lib.hid ⟨b4, c4, M4.out⟩⟩
          case round =>
            obtain ⟨i, hi, rfl, HR⟩ := hrel
            obtain ⟨b5, c5, hM⟩ := HR.out
            have M5 := Lib.hid hM
            by_cases hlt : i < run
            · have hbr := HBn.out (by omega)
              have hve := HVb.out (by omega)
              have hse := d_setEntry hM.dh (b + i) (by omega) 3 0 0 0 (by decide) (by decide) (by decide) (by decide) (Tb.mayE_iff.2 (by omega))
              rw [show Tb.wordE 3 0 0 0 = 3 from by decide, HTl.out, ← HTk.out] at hse
              have HSe := Lib.hid hse
              have hw2 : IntKind.i64.wrap (vb + (i : Int)) = ((b + i : Nat) : Int) := by rw [hve, IntWalk.i64_in _ (by omega)]; omega
              have hw3 := IntWalk.i64_in ((i : Int) + 1) (by omega)
              have a0 := (cell_of_row hM.r5 0).trans (show _ = some (.slice (some ⟨b5, 0, none⟩) N c5) from rfl)
              have a1 := (cell_of_row hM.r5 1).trans (show _ = some (.int .i64 T) from rfl)
              have a2 := (cell_of_row hM.r5 2).trans (show _ = some (.int .i64 G) from rfl)
              have a3 := (cell_of_row hM.r5 3).trans (show _ = some (.int .i64 n) from rfl)
              clear hM hse HR hve hbr
              go_wp2_with fail
              refine HSe.out.mono ?_
              rintro e w7 ⟨b3, c3, rfl, hd7, hk7⟩
              have hr7 := hk7.row (by simp) M5.out.r5
              have q0 := (cell_of_row hr7 0).trans (show _ = some (.slice (some ⟨b5, 0, none⟩) N c5) from rfl)
              have q1 := (cell_of_row hr7 1).trans (show _ = some (.int .i64 T) from rfl)
              have q2 := (cell_of_row hr7 2).trans (show _ = some (.int .i64 G) from rfl)
              have q3 := (cell_of_row hr7 3).trans (show _ = some (.int .i64 n) from rfl)
              have g0 := free_of_row hr7 0
              have g1 := free_of_row hr7 1
              have g2 := free_of_row hr7 2
              have g3 := free_of_row hr7 3
              have hfin : Hid (∃ b' c, Mo Bz w us T G n N b' c us1 (tailD T G b ((clearH H1 a sz).set a y) (i + 1)) R1 (put4v w7 w.heap.size (.slice (some ⟨b3, 0, none⟩) N c3) (.int .i64 T) (.int .i64 G) (.int .i64 n))) := Lib.hid ⟨b3, c3, M5.out.heap hk7 hd7 (HTl.out _)⟩
              clear hr7 hd7 hk7 HSe a0 a1 a2 a3 M5
              go_wp2_with fail
              go_roundg (run - (i + 1))
              all_goals first
                | omega
                | exact ⟨i + 1, by omega, rfl, hfin⟩
            · obtain rfl : run = i := by omega
              clear hM HR hi hlt HTk
              by_cases hrp : 0 < (run : Int)
              · have hbr := HBn.out (by omega)
                have hve := HVb.out (by omega)
                subst hve
                have hd1 : Hid (dmakeS T G n o wk rf sz (H, R) = (((tailD T G b ((clearH H1 a sz).set a y) run).set (3 + T + G + b) (Tb.wordE 2 0 run o), R1), (a : Int))) := Lib.hid (by rw [HD1.out, fitH, if_neg (by omega), ← HY.out])
                have hse := d_setEntry M5.out.dh b (by omega) 2 0 run o (by decide) (by decide) (by omega) (by omega) (Tb.mayE_iff.2 (by omega))
                rw [HTl.out] at hse
                have HSe := Lib.hid hse
                have hwn := IntWalk.u8_in (run : Int) (by omega)
                have a0 := (cell_of_row M5.out.r5 0).trans (show _ = some (.slice (some ⟨b5, 0, none⟩) N c5) from rfl)
                have a1 := (cell_of_row M5.out.r5 1).trans (show _ = some (.int .i64 T) from rfl)
                have a2 := (cell_of_row M5.out.r5 2).trans (show _ = some (.int .i64 G) from rfl)
                have a3 := (cell_of_row M5.out.r5 3).trans (show _ = some (.int .i64 n) from rfl)
                clear hse hbr
                go_wp2_with fail
                refine HSe.out.mono ?_
                rintro e w7 ⟨b3, c3, rfl, hd7, hk7⟩
                have hr7 := hk7.row (by simp) M5.out.r5
                have q0 := (cell_of_row hr7 0).trans (show _ = some (.slice (some ⟨b5, 0, none⟩) N c5) from rfl)
                have q1 := (cell_of_row hr7 1).trans (show _ = some (.int .i64 T) from rfl)
                have q2 := (cell_of_row hr7 2).trans (show _ = some (.int .i64 G) from rfl)
                have q3 := (cell_of_row hr7 3).trans (show _ = some (.int .i64 n) from rfl)
                have g0 := free_of_row hr7 0
                have g1 := free_of_row hr7 1
                have g2 := free_of_row hr7 2
                have g3 := free_of_row hr7 3
                obtain ⟨W9, hW9⟩ : ∃ W9, W9 = put4v w7 w.heap.size (.slice (some ⟨b3, 0, none⟩) N c3) (.int .i64 T) (.int .i64 G) (.int .i64 n) := ⟨_, rfl⟩
                have M9 : Hid (Mo Bz w us T G n N b3 c3 us1 ((tailD T G b ((clearH H1 a sz).set a y) run).set (3 + T + G + b) (Tb.wordE 2 0 run o)) R1 W9) := Lib.hid (by
                  rw [hW9]
                  exact M5.out.heap hk7 hd7 (by rw [List.length_set]; exact HTl.out _))
                unfold put4v at hW9
                have HW9 := Lib.hid hW9
                clear hW9 hr7 hd7 hk7 HSe M5 a0 a1 a2 a3
                go_upto_region 29 with (fail)
                rw [← HW9.out]
                clear HW9 q0 q1 q2 q3 g0 g1 g2 g3
                obtain ⟨A0, A1, A2, A3, l0, k0, l1, k1, l2, k2, l3, k3, hsM⟩ := M9.out.slices
                have M10 := Lib.hid hsM
                clear hsM M9
                have a0 := (cell_of_row M10.out.r5 0).trans (show _ = some (.slice (some ⟨b3, 0, none⟩) N c3) from rfl)
                have a1 := (cell_of_row M10.out.r5 1).trans (show _ = some (.int .i64 T) from rfl)
                have a2 := (cell_of_row M10.out.r5 2).trans (show _ = some (.int .i64 G) from rfl)
                have a3 := (cell_of_row M10.out.r5 3).trans (show _ = some (.int .i64 n) from rfl)
                have x0 := (cell_of_row M10.out.r6 0).trans (show _ = some (.slice A0 l0 k0) from rfl)
                have x1 := (cell_of_row M10.out.r6 1).trans (show _ = some (.slice A1 l1 k1) from rfl)
                have x2 := (cell_of_row M10.out.r6 2).trans (show _ = some (.slice A2 l2 k2) from rfl)
                have x3 := (cell_of_row M10.out.r6 3).trans (show _ = some (.slice A3 l3 k3) from rfl)
                have z0 := (cell_of_row M10.out.r10 0).trans (show _ = some (.slice none 0 0) from rfl)
                have z1 := (cell_of_row M10.out.r10 1).trans (show _ = some (.int .i64 0) from rfl)
                have z2 := (cell_of_row M10.out.r10 2).trans (show _ = some (.int .i64 0) from rfl)
                have z3 := (cell_of_row M10.out.r10 3).trans (show _ = some (.int .i64 0) from rfl)
                have y0 := free_of_row M10.out.r10 0
                have y1 := free_of_row M10.out.r10 1
                have y2 := free_of_row M10.out.r10 2
                have y3 := free_of_row M10.out.r10 3
                have v0 := (cell_of_row M10.out.r11 0).trans (show _ = some (.slice none 0 0) from rfl)
                have v1 := (cell_of_row M10.out.r11 1).trans (show _ = some (.slice none 0 0) from rfl)
                have v2 := (cell_of_row M10.out.r11 2).trans (show _ = some (.slice none 0 0) from rfl)
                have v3 := (cell_of_row M10.out.r11 3).trans (show _ = some (.slice none 0 0) from rfl)
                have q0 := free_of_row M10.out.r11 0
                have q1 := free_of_row M10.out.r11 1
                have q2 := free_of_row M10.out.r11 2
                have q3 := free_of_row M10.out.r11 3
                go_region
                all_goals
                  go_wp2_with fail
                  have F := M10.out.fin (Kp.refl [] W9) M10.out.dh rfl
                  refine bodyPost_cell2_tmp rfl ⟨w.heap.size + 2, 0, none⟩ ⟨w.heap.size + 3, 0, none⟩ _ _ (.int .i64 a) rfl rfl rfl (load_row F.1 Tryz.underlying40 rfl (by kernel_rfl)) (load_row F.2.1 Tryz.underlying72 rfl (by kernel_rfl)) rfl ?_
                  rw [hd1.out]
                  exact ⟨b3, c3, _, rfl, F.2.2.1, F.2.2.2.1, F.2.2.2.2.1, F.2.2.2.2.2⟩
              · obtain rfl : run = 0 := by omega
                have hd1 : Hid (dmakeS T G n o wk rf sz (H, R) = ((tailD T G b ((clearH H1 a sz).set a y) 0, R1), (a : Int))) := Lib.hid (by rw [HD1.out, fitH, if_pos rfl, ← HY.out]; rfl)
                obtain ⟨A0, A1, A2, A3, l0, k0, l1, k1, l2, k2, l3, k3, hsM⟩ := M5.out.slices
                have M10 := Lib.hid hsM
                clear hsM M5
                have a0 := (cell_of_row M10.out.r5 0).trans (show _ = some (.slice (some ⟨b5, 0, none⟩) N c5) from rfl)
                have a1 := (cell_of_row M10.out.r5 1).trans (show _ = some (.int .i64 T) from rfl)
                have a2 := (cell_of_row M10.out.r5 2).trans (show _ = some (.int .i64 G) from rfl)
                have a3 := (cell_of_row M10.out.r5 3).trans (show _ = some (.int .i64 n) from rfl)
                have x0 := (cell_of_row M10.out.r6 0).trans (show _ = some (.slice A0 l0 k0) from rfl)
                have x1 := (cell_of_row M10.out.r6 1).trans (show _ = some (.slice A1 l1 k1) from rfl)
                have x2 := (cell_of_row M10.out.r6 2).trans (show _ = some (.slice A2 l2 k2) from rfl)
                have x3 := (cell_of_row M10.out.r6 3).trans (show _ = some (.slice A3 l3 k3) from rfl)
                have z0 := (cell_of_row M10.out.r10 0).trans (show _ = some (.slice none 0 0) from rfl)
                have z1 := (cell_of_row M10.out.r10 1).trans (show _ = some (.int .i64 0) from rfl)
                have z2 := (cell_of_row M10.out.r10 2).trans (show _ = some (.int .i64 0) from rfl)
                have z3 := (cell_of_row M10.out.r10 3).trans (show _ = some (.int .i64 0) from rfl)
                have y0 := free_of_row M10.out.r10 0
                have y1 := free_of_row M10.out.r10 1
                have y2 := free_of_row M10.out.r10 2
                have y3 := free_of_row M10.out.r10 3
                have v0 := (cell_of_row M10.out.r11 0).trans (show _ = some (.slice none 0 0) from rfl)
                have v1 := (cell_of_row M10.out.r11 1).trans (show _ = some (.slice none 0 0) from rfl)
                have v2 := (cell_of_row M10.out.r11 2).trans (show _ = some (.slice none 0 0) from rfl)
                have v3 := (cell_of_row M10.out.r11 3).trans (show _ = some (.slice none 0 0) from rfl)
                have q0 := free_of_row M10.out.r11 0
                have q1 := free_of_row M10.out.r11 1
                have q2 := free_of_row M10.out.r11 2
                have q3 := free_of_row M10.out.r11 3
                go_upto_region 29 with (fail)
                go_region
                all_goals
                  go_wp2_with fail
                  have F := M10.out.fin (Kp.refl [] wr) M10.out.dh rfl
                  refine bodyPost_cell2_tmp rfl ⟨w.heap.size + 2, 0, none⟩ ⟨w.heap.size + 3, 0, none⟩ _ _ (.int .i64 a) rfl rfl rfl (load_row F.1 Tryz.underlying40 rfl (by kernel_rfl)) (load_row F.2.1 Tryz.underlying72 rfl (by kernel_rfl)) rfl ?_
                  rw [hd1.out]
                  exact ⟨b5, c5, _, rfl, F.2.2.1, F.2.2.2.1, F.2.2.2.2.1, F.2.2.2.2.2⟩
    --}}
end
end Go.Proofs.YticbnckikkdknaaGreatDoor

namespace Go.Proofs.YticbnckikkdknaaGreatDoor
set_option linter.unusedVariables false
set_option linter.unusedSimpArgs false
open Go.RowKit

theorem d_makes18 (Bz T n : Nat) : DMake Bz T n := fun db dc o us H R wk w rf sz h hr hlt hl hsm hi ho hrf hsz => d_make h hr hlt hl hsm hi ho rf sz hrf hsz
theorem made_all : CMade := fun w T n T0 hn1 hn2 hT1 hT4 ao cap l hl hA =>
  made_any w T0 (Lib.hid fun sp qs => fun v s t col w' i rf sz h ht hi hl1 hl2 hL hB hrf hsz => aw_make (Lib.hid (d_makes18 _ T n)) h hT4 hn2 ht hi hl1 hl2 hL hB rf sz hrf hsz) hn1 hn2 hT1 hT4 ao cap l hl hA
end Go.Proofs.YticbnckikkdknaaGreatDoor

namespace Go.Proofs.YticbnckikkdknaaGreatDoor
set_option linter.unusedVariables false
set_option linter.unusedSimpArgs false
open Go.ChangeShapes Go.WideShapes Go.ChangeAt Go.RowKit Go.Deep

theorem mspot_none {w : World} {a : Addr} {v : Value} (h : w.cell? a = some v) : a.spot = none := by
  unfold World.cell? at h
  split at h
  · split at h
    · cases h
    · rename_i hs
      simpa using hs
  · cases h
theorem mlist6 {α : Type} {l : List α} (h : l.length = 6) : ∃ a b c d e f, l = [a, b, c, d, e, f] := by
  match l, h with
  | [a, b, c, d, e, f], _ => exact ⟨a, b, c, d, e, f, rfl⟩

section
variable {H : Type} {enc : TypeId × Value → H} {W : World} {base : Nat} {spare : Nat → Bool} {held : Bool}
/-- Cells that read as a slice of bytes. -/
theorem open_row8 {n : Nat} {v : Value} {y : DataW H × List MemPlace} (h : DataW.trod enc Tryz.prog W 0 spare held n 23 [v] = some y) :
    ∃ (ao : Option Addr) (cap : Nat) (l : List Nat), v = .slice ao l.length cap ∧ l.length ≤ maxLen ∧ Nms W ao l := by
  rcases open_slice Tryz.underlying23 h with ⟨hc, _⟩ | ⟨a, len, cap, m, n', D, Pl, hcs, hb, hl, hm, hmm, hx, hi⟩
  · have e : v = .slice none 0 0 := by simpa [Value.cells] using hc
    exact ⟨none, 0, [], by rw [e]; rfl, by unfold maxLen; simp, fun j hj => absurd hj (Nat.not_lt_zero _)⟩
  · have e : v = .slice (some a) len cap := by simpa [Value.cells] using hcs
    rw [e]
    have hlm : len ≤ m := by rw [hmm]; split <;> omega
    have hC : Tryz.prog.cellsOf 5 = 1 := by kernel_rfl
    rw [hC] at hi
    have key : ∀ i, ∃ x : Nat, i < len → ∃ b o, a = ⟨b, o, none⟩ ∧ W.cell? ⟨b, o + i, none⟩ = some (.int .u8 x) ∧ x ≤ 255 := by
      intro i
      by_cases hil : i < len
      · obtain ⟨cs', hc', ht'⟩ := hi i (by omega)
        obtain ⟨_, hcl, hat⟩ := World.cells?_some hc'
        obtain ⟨q0, rfl⟩ : ∃ q0, cs' = [q0] := by
          match cs', hcl with
          | [q], _ => exact ⟨q, rfl⟩
        have hsp : a.spot = none := by
          obtain ⟨cs0, hc0, _⟩ := hi 0 (by omega)
          obtain ⟨_, hl0, hat0⟩ := World.cells?_some hc0
          obtain ⟨p0, rfl⟩ : ∃ q0, cs0 = [q0] := by
            match cs0, hl0 with
            | [q], _ => exact ⟨q, rfl⟩
          have := hat0 0 (by omega)
          simp only [Nat.zero_mul, Addr.add, if_true] at this
          exact mspot_none this
        obtain ⟨b, o, sp⟩ := a
        simp only at hsp
        subst hsp
        obtain ⟨x0, e0, _, w0⟩ := DataW.trod_int Tryz.underlying5 ht'
        obtain rfl : q0 = .int .u8 x0 := by simpa using e0
        have hb8 := bounds_u8 w0
        have h0 := hat 0 (by omega)
        simp only [Addr.add_lit, Nat.add_zero, Nat.mul_one] at h0
        refine ⟨x0.toNat, fun _ => ⟨b, o, rfl, ?_, by omega⟩⟩
        rw [show ((x0.toNat : Nat) : Int) = x0 by omega]
        exact h0
      · exact ⟨0, fun h => absurd h hil⟩
    obtain ⟨f, hf'⟩ := Classical.skolem.1 key
    refine ⟨some a, cap, (List.range len).map f, by simp, by simp; omega, ?_⟩
    intro i hi'
    have hil : i < len := by simpa using hi'
    obtain ⟨b, o, rfl, r1, r2⟩ := hf' i hil
    have e1 : ((List.range len).map f).getD i 0 = f i := by simp [List.getD, hil]
    rw [e1]
    exact ⟨b, o, rfl, r1, r2⟩
set_option maxRecDepth 100000 in
theorem open_nums {v : Value} {d : DataW H} {p : List MemPlace} (hv : Value.okWide Tryz.prog W .any base 23 v) (h : DataW.Trod enc Tryz.prog W 0 spare held 23 v d p) :
    ∃ (ao : Option Addr) (cap : Nat) (l : List Nat), v = .slice ao l.length cap ∧ l.length ≤ maxLen ∧ Nms W ao l := by
  obtain ⟨fuel, hf⟩ := h
  obtain ⟨ao, l0, c0, rfl⟩ := okWide_slice Tryz.underlying23 hv
  exact open_row8 hf
set_option maxRecDepth 100000 in
theorem open_things18 {v : Value} {d : DataW H} {p : List MemPlace} (hv : Value.okWide Tryz.prog W .any base 22 v) (h : DataW.Trod enc Tryz.prog W 0 spare held 22 v d p) :
    ∃ (ao : Option Addr) (cap : Nat) (L : List Th), v = .slice ao L.length cap ∧ L.length ≤ maxLen ∧ Tgs W ao L := by
  obtain ⟨fuel, hf⟩ := h
  obtain ⟨ao, l0, c0, rfl⟩ := okWide_slice Tryz.underlying22 hv
  rcases open_slice Tryz.underlying22 hf with ⟨hc, _⟩ | ⟨a, len, cap, m, n, D, Pl, hcs, hb, hl, hm, hmm, hx, hi⟩
  · have e : Value.slice ao l0 c0 = .slice none 0 0 := by simpa [Value.cells] using hc
    exact ⟨none, 0, [], by rw [e]; rfl, by unfold maxLen; simp, fun j hj => absurd hj (Nat.not_lt_zero _)⟩
  · have e : Value.slice ao l0 c0 = .slice (some a) len cap := by simpa [Value.cells] using hcs
    rw [e]
    have hlm : len ≤ m := by rw [hmm]; split <;> omega
    have hC : Tryz.prog.cellsOf 77 = 6 := by kernel_rfl
    rw [hC] at hi
    have key : ∀ i, ∃ x : Th, i < len → ∃ b o, a = ⟨b, o, none⟩ ∧ TgAt W b (o + i * 6) x ∧ ThB x := by
      intro i
      by_cases hil : i < len
      · obtain ⟨cs', hc', ht'⟩ := hi i (by omega)
        obtain ⟨_, hcl, hat⟩ := World.cells?_some hc'
        obtain ⟨ys, n', _, hy, hlen, hyl, hfs⟩ := DataW.trod_struct Tryz.underlying77 ht'
        obtain ⟨q0, q1, q2, q3, q4, q5, rfl⟩ := mlist6 hcl
        obtain ⟨y0, y1, y2, y3, y4, y5, rfl⟩ := mlist6 (hyl.trans rfl)
        have hsp : a.spot = none := by
          obtain ⟨cs0, hc0, _⟩ := hi 0 (by omega)
          obtain ⟨_, hl0, hat0⟩ := World.cells?_some hc0
          obtain ⟨p0, p1, p2, p3, p4, p5, rfl⟩ := mlist6 hl0
          have := hat0 0 (by omega)
          simp only [Nat.zero_mul, Addr.add, if_true] at this
          exact mspot_none this
        obtain ⟨b, o, sp⟩ := a
        simp only at hsp
        subst hsp
        have k0 : DataW.trod enc Tryz.prog W 0 spare held n' 5 (([q0, q1, q2, q3, q4, q5].drop 0).take (Tryz.prog.cellsOf 5)) = some y0 := hfs 0 _ rfl
        rw [show Tryz.prog.cellsOf 5 = 1 from by kernel_rfl] at k0
        have k1 : DataW.trod enc Tryz.prog W 0 spare held n' 5 (([q0, q1, q2, q3, q4, q5].drop 1).take (Tryz.prog.cellsOf 5)) = some y1 := hfs 1 _ rfl
        rw [show Tryz.prog.cellsOf 5 = 1 from by kernel_rfl] at k1
        have k2 : DataW.trod enc Tryz.prog W 0 spare held n' 5 (([q0, q1, q2, q3, q4, q5].drop 2).take (Tryz.prog.cellsOf 5)) = some y2 := hfs 2 _ rfl
        rw [show Tryz.prog.cellsOf 5 = 1 from by kernel_rfl] at k2
        have k3 : DataW.trod enc Tryz.prog W 0 spare held n' 4 (([q0, q1, q2, q3, q4, q5].drop 3).take (Tryz.prog.cellsOf 4)) = some y3 := hfs 3 _ rfl
        rw [show Tryz.prog.cellsOf 4 = 1 from by kernel_rfl] at k3
        have k4 : DataW.trod enc Tryz.prog W 0 spare held n' 5 (([q0, q1, q2, q3, q4, q5].drop 4).take (Tryz.prog.cellsOf 5)) = some y4 := hfs 4 _ rfl
        rw [show Tryz.prog.cellsOf 5 = 1 from by kernel_rfl] at k4
        have k5 : DataW.trod enc Tryz.prog W 0 spare held n' 23 (([q0, q1, q2, q3, q4, q5].drop 5).take (Tryz.prog.cellsOf 23)) = some y5 := hfs 5 _ rfl
        rw [show Tryz.prog.cellsOf 23 = 1 from by kernel_rfl] at k5
        obtain ⟨x0, e0, _, w0⟩ := DataW.trod_int Tryz.underlying5 k0
        obtain rfl : q0 = .int .u8 x0 := by simpa using e0
        obtain ⟨x1, e1, _, w1⟩ := DataW.trod_int Tryz.underlying5 k1
        obtain rfl : q1 = .int .u8 x1 := by simpa using e1
        obtain ⟨x2, e2, _, w2⟩ := DataW.trod_int Tryz.underlying5 k2
        obtain rfl : q2 = .int .u8 x2 := by simpa using e2
        obtain ⟨x3, e3, _⟩ := DataW.trod_bool Tryz.underlying4 k3
        obtain rfl : q3 = .bool x3 := by simpa using e3
        obtain ⟨x4, e4, _, w4⟩ := DataW.trod_int Tryz.underlying5 k4
        obtain rfl : q4 = .int .u8 x4 := by simpa using e4
        obtain ⟨ao5, cap5, l5, rfl, hl5, hn5⟩ := open_row8 (n := n') (v := q5) k5
        have b0 := bounds_u8 w0
        have b1 := bounds_u8 w1
        have b2 := bounds_u8 w2
        have b4 := bounds_u8 w4
        have h0 := hat 0 (by omega)
        have h1 := hat 1 (by omega)
        have h2 := hat 2 (by omega)
        have h3 := hat 3 (by omega)
        have h4 := hat 4 (by omega)
        have h5 := hat 5 (by omega)
        simp only [Addr.add_lit, Nat.add_zero] at h0 h1 h2 h3 h4 h5
        refine ⟨⟨x0.toNat, x1.toNat, x2.toNat, x3, x4.toNat, l5⟩, fun _ => ⟨b, o, rfl, ⟨?_, ?_, ?_, ?_, ?_, ao5, cap5, ?_, fun k hk => ?_⟩, ?_⟩⟩
        · simp only; rw [show ((x0.toNat : Nat) : Int) = x0 by omega]; exact h0
        · simp only; rw [show ((x1.toNat : Nat) : Int) = x1 by omega]; exact h1
        · simp only; rw [show ((x2.toNat : Nat) : Int) = x2 by omega]; exact h2
        · exact h3
        · simp only; rw [show ((x4.toNat : Nat) : Int) = x4 by omega]; exact h4
        · exact h5
        · obtain ⟨g, q, e, hc, _⟩ := hn5 k hk
          exact ⟨g, q, e, hc⟩
        · refine ⟨by simp only; omega, by simp only; omega, by simp only; omega, by simp only; omega, fun k => ?_⟩
          by_cases hk : k < l5.length
          · obtain ⟨g, q, e, hc, hb⟩ := hn5 k hk
            exact hb
          · simp only
            rw [List.getD_eq_getElem?_getD, List.getElem?_eq_none (by omega)]
            exact Nat.zero_le _
      · exact ⟨Th0, fun h => absurd h hil⟩
    obtain ⟨f, hf'⟩ := Classical.skolem.1 key
    refine ⟨some a, cap, (List.range len).map f, by simp, by simp; omega, ?_⟩
    intro i hi'
    have hil : i < len := by simpa using hi'
    obtain ⟨b, o, rfl, r1, r2⟩ := hf' i hil
    have e1 : ((List.range len).map f).getD i Th0 = f i := by simp [List.getD, hil]
    rw [e1]
    exact ⟨b, o, rfl, r1, r2⟩
end
section
variable {H : Type} {enc : TypeId × Value → H} {P : Program} {w : World} {base : Nat} {spare : Nat → Bool} {held : Bool}
theorem trodAll_seven {t0 t1 t2 t3 t4 t5 t6 : TypeId} {args : Array Value} {ds : List (DataW H)} {ps : List MemPlace} (h : DataW.TrodAll enc P w base spare held [t0, t1, t2, t3, t4, t5, t6] args.toList ds ps) :
    ∃ v0 v1 v2 v3 v4 v5 v6 d0 d1 d2 d3 d4 d5 d6 p0 p1 p2 p3 p4 p5 p6, args = #[v0, v1, v2, v3, v4, v5, v6] ∧ ds = [d0, d1, d2, d3, d4, d5, d6] ∧ ps = p0 ++ p1 ++ p2 ++ p3 ++ p4 ++ p5 ++ p6 ∧ DataW.Trod enc P w base spare held t0 v0 d0 p0 ∧ DataW.Trod enc P w base spare held t1 v1 d1 p1 ∧ DataW.Trod enc P w base spare held t2 v2 d2 p2 ∧ DataW.Trod enc P w base spare held t3 v3 d3 p3 ∧ DataW.Trod enc P w base spare held t4 v4 d4 p4 ∧ DataW.Trod enc P w base spare held t5 v5 d5 p5 ∧ DataW.Trod enc P w base spare held t6 v6 d6 p6 := by
  obtain ⟨v0, vs0, d0, ds0, p0, q0, hargs, rfl, rfl, hd0, r0⟩ := trodAll_cons h
  obtain ⟨v1, vs1, d1, ds1, p1, q1, rfl, rfl, rfl, hd1, r1⟩ := trodAll_cons r0
  obtain ⟨v2, vs2, d2, ds2, p2, q2, rfl, rfl, rfl, hd2, r2⟩ := trodAll_cons r1
  obtain ⟨v3, vs3, d3, ds3, p3, q3, rfl, rfl, rfl, hd3, r3⟩ := trodAll_cons r2
  obtain ⟨v4, vs4, d4, ds4, p4, q4, rfl, rfl, rfl, hd4, r4⟩ := trodAll_cons r3
  obtain ⟨v5, vs5, d5, ds5, p5, q5, rfl, rfl, rfl, hd5, r5⟩ := trodAll_cons r4
  obtain ⟨v6, vs6, d6, ds6, p6, q6, rfl, rfl, rfl, hd6, r6⟩ := trodAll_cons r5
  obtain ⟨rfl, rfl, rfl⟩ := trodAll_nil r6
  exact ⟨v0, v1, v2, v3, v4, v5, v6, d0, d1, d2, d3, d4, d5, d6, p0, p1, p2, p3, p4, p5, p6, by cases args; simp_all, rfl, by simp, hd0, hd1, hd2, hd3, hd4, hd5, hd6⟩
end
end Go.Proofs.YticbnckikkdknaaGreatDoor

namespace Go.Proofs.YticbnckikkdknaaGreatDoor
set_option linter.unusedVariables false
set_option linter.unusedSimpArgs false
set_option maxRecDepth 100000
open Go.RowKit
section
variable {B T n sp hb t t' : Nat} {qs : Nat → Nat} {S : As} {P : List Int} {w w1 w6 w7 : World} {Sx : List Nat} {H' : List Int}
theorem Hm.pr (h : Hm B T n sp hb qs S P t w w1) (k16 : Kp Sx w1 w6) (hSx : ∀ g ∈ Sx, g = B + 1 ∨ g = B ∨ w1.heap.size ≤ g) : Kp [B + 1, B] w1 w6 :=
  k16.mono fun g hg hl => by
    rcases hSx g hg with e | e | e
    · simp [e]
    · simp [e]
    · omega
/-- The document's words. -/
theorem Hm.docs (h : Hm B T n sp hb qs S P t w w1) (hT : 0 < T) (k16 : Kp Sx w1 w6) (hSx : ∀ g ∈ Sx, g = B + 1 ∨ g = B ∨ w1.heap.size ≤ g) : ∃ db dc, Dh (B + 1) T 0 n db dc S.H w6 ∧ ∀ wq, Kp [] w6 wq → wq.cell? ⟨sp, 6, none⟩ = some (.slice (some ⟨db, 0, none⟩) S.H.length dc) ∧ wq.frozen? ⟨sp, 6, none⟩ = false := by
  obtain ⟨v, col, pv, hA, hLo, hbx, hpv, hpc, hcb⟩ := h.ex
  have k := h.pr k16 hSx
  have hdb := hA.dbp hT
  have hsp := hA.spp hT
  refine ⟨v.db, v.dc, hA.dh.keepS k (by simp; omega), fun wq kq => ?_⟩
  have hst : S13 wq sp v.f := (hA.st.keep k (by simp; omega)).keep kq (by simp)
  refine ⟨(hst.cell (by decide)).trans (by rw [hA.f6, hA.fit.len]), hst.free 6⟩
theorem Hm.same (h : Hm B T n sp hb qs S P t w w1) (hT : 0 < T) (hT4 : T ≤ 64) (hn : n ≤ 12) : Calls Tryz.prog 20 #[.pointer (some ⟨sp, 0, none⟩)] w1 fun e w' => e = .returned (.bool true) ∧ Kp [] w1 w' := by
  obtain ⟨v, col, pv, hA, hLo, hbx, hpv, hpc, hcb⟩ := h.ex
  exact aw_same hA hT hT4 hn
end
section
variable {T n : Nat} {H : List Int} {Rs : Nat → Nat → List Int} {O : Obs} {V : Nat → Int} {F : Nat → Nat → Int} {o : Nat} {tel : Bool} {M : Nat → Bool}
end
end Go.Proofs.YticbnckikkdknaaGreatDoor
