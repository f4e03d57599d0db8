/- GraphGone, walked: what is not reached never is again. Conditions: the acts lie where the slice leads. -/
import Derived.Test.YtmbhhadghiojeaaGdB
import Derived.Test.YtmbhhadghiojeaaGdL
import Derived.Deep.LoopGhost
import Derived.Deep.CutRange
import Derived.Deep.CutBlock
import Derived.Deep.DeepCutAuto
import Derived.Deep.RegionHeld3
import Derived.Carry
import Derived.BigQuiet
namespace Go.Proofs.Ytmbhhadghiojeaa
set_option linter.unusedVariables false
set_option linter.unusedSimpArgs false
open Go.RowKit

set_option maxRecDepth 100000 in
theorem gone_skip (w : World) (N : Int) (ao : Option Addr) (n cap : Nat) (h : 150 < n ∨ N < 1 ∨ 8 < N) :
    Calls Try.prog 4 #[.int .u8 N, .slice ao n cap] w fun e w' => e = .returned (.bool true) ∧ Kp [] w w' := by
  have hwk := wakes_any w
  by_cases h1 : 150 < n
  · go_enter Try.func4, Try.ntmps4
    go_wp2_with ((with_reducible refine hwk.mono ?_); rintro e w1 ⟨rfl, hb⟩; have H := Lib.hid hb; clear hb)
    go_ret
    exact ⟨rfl, H.out⟩
  · have h1' : n ≤ 150 := by omega
    by_cases h2 : N < 1
    · go_enter Try.func4, Try.ntmps4
      go_wp2_with ((with_reducible refine hwk.mono ?_); rintro e w1 ⟨rfl, hb⟩; have H := Lib.hid hb; clear hb)
      go_ret
      exact ⟨rfl, H.out⟩
    · have h2' : 1 ≤ N := by omega
      have h3 : 8 < N := by omega
      go_enter Try.func4, Try.ntmps4
      go_wp2_with ((with_reducible refine hwk.mono ?_); rintro e w1 ⟨rfl, hb⟩; have H := Lib.hid hb; clear hb)
      go_ret
      exact ⟨rfl, H.out⟩

/-- Before an act: the graph s, the map of what is gone. -/
structure Gz (w : World) (p B k : Nat) (s : Gs) (f : Nat → Bool) (mc : Nat) (wr : World) : Prop where
  wf : Wf s k
  gq : Gq s f
  hc : mc ≤ 200 * k
  gn : Gn w p s B mc f wr
/-- What is reached goes into its map: j of the list are there. -/
structure Iz (w5 w6 : World) (Bi : Nat) (v : Value) (xs : List Int) (j : Nat) (wr : World) : Prop where
  row : Rw w5 v xs wr
  im : ∃ mi, mi ≤ j ∧ Mg wr Bi mi (fun n => decide ((n : Int) ∈ xs.take j))
  kp : Kp [] w6 wr
theorem Iz.on {w5 w6 : World} {Bi : Nat} {v : Value} {xs : List Int} {j : Nat} {wr w2 : World} (h : Iz w5 w6 Bi v xs j wr) (k : Kp [] wr w2) : Iz w5 w6 Bi v xs j w2 := by
  obtain ⟨mi, h1, h2⟩ := h.im
  exact ⟨h.row.keep0 k, ⟨mi, h1, h2.keep k (by simp)⟩, h.kp.trans k⟩
theorem Iz.put {w5 w6 : World} {Bi : Nat} {v : Value} {xs : List Int} {j n : Nat} {wr : World} (h : Iz w5 w6 Bi v xs j wr) (hge : w6.heap.size ≤ Bi) (hj : j < xs.length) (hn : xs.getD j 0 = n) (hb : n ≤ 100000) (hx : xs.length ≤ 100000) :
    ∃ w2, (Instr.mapUpdate 37 (.map (some Bi)) (.int .i64 n) (.bool true)).run Try.prog wr = .ok () w2 ∧ Iz w5 w6 Bi v xs (j + 1) w2 := by
  obtain ⟨mi, h1, h2⟩ := h.im
  obtain ⟨w2, hrun, h3, k2⟩ := h2.put hb (by omega) true
  refine ⟨w2, hrun, h.row.keep_mg k2 h2, ⟨mi + 1, by omega, ?_⟩, (kp_then h.kp k2).mono fun x hx hlt => by
    rw [List.mem_singleton] at hx
    omega⟩
  have e : (fun n : Nat => decide ((n : Int) ∈ xs.take (j + 1))) = up (fun n : Nat => decide ((n : Int) ∈ xs.take j)) n true := by
    have hg : xs[j] = n := by rw [← hn]; simp [List.getD, hj]
    funext z
    rw [List.take_succ_eq_append_getElem hj, hg]
    unfold up
    split
    · rename_i e; subst e; simp
    · rename_i e
      have : (z : Int) ≠ n := by omega
      simp [this]
  rw [e]
  exact h3
theorem Iz.start {w5 w6 : World} {v : Value} {xs : List Int} (h : Rw w5 v xs w6) : Iz w5 w6 w6.heap.size v xs 0 (w6.alloc (.map #[] 0)) := by
  have ka : Kp [] w6 (w6.alloc (.map #[] 0)) := (Kp.refl _ _).alloc _
  refine ⟨h.keep0 ka, ⟨0, Nat.le_refl _, ?_⟩, ka⟩
  have e : (fun n : Nat => decide ((n : Int) ∈ xs.take 0)) = fun _ => false := by funext z; simp
  rw [e]
  exact Mg.made w6
theorem rise_len : ∀ (xs : List Int) (a m : Int), xs.Pairwise (· < ·) → (∀ x ∈ xs, a < x ∧ x ≤ m) → a ≤ m → (xs.length : Int) ≤ m - a
  | [], a, m, _, _, h => by simp; omega
  | x :: r, a, m, hp, hx, h => by
    have hp' := List.pairwise_cons.1 hp
    have hh := hx x (by simp)
    have := rise_len r x m hp'.2 (fun y hy => ⟨hp'.1 y hy, (hx y (by simp [hy])).2⟩) hh.2
    rw [List.length_cons]
    omega
theorem rise_at {xs : List Int} (hp : xs.Pairwise (· < ·)) {j : Nat} (hj : j + 1 < xs.length) : xs.getD j 0 < xs.getD (j + 1) 0 := by
  have h1 : j < xs.length := by omega
  have := List.pairwise_iff_getElem.1 hp j (j + 1) h1 hj (by omega)
  simpa [List.getD, hj, h1] using this
/-- Those of the first n that are not reached are gone. -/
structure Jz (w : World) (p B Bi k n : Nat) (s : Gs) (xs : List Int) (wr : World) : Prop where
  gn : ∃ f mc, Gq s f ∧ mc + 1 ≤ 200 * k + n ∧ Gn w p s B mc f wr
  im : ∃ mi, Mg wr Bi mi (fun n => decide ((n : Int) ∈ xs))
theorem Jz.put {w : World} {p B Bi k n : Nat} {s : Gs} {xs : List Int} {wr : World} (h : Jz w p B Bi k n s xs wr) (hne : Bi ≠ B) (hr : RchL s xs) (h1 : 1 ≤ n) (hn : n ≤ s.m) (hb : n ≤ 1000) (hk : k ≤ 200) :
    ∃ w2, (Instr.lookup 37 (.map (some Bi)) (.int .i64 n) false).run Try.prog wr = .ok (.bool (decide ((n : Int) ∈ xs))) wr ∧
      (Instr.mapUpdate 37 (.map (some B)) (.int .i64 n) (.bool (!decide ((n : Int) ∈ xs)))).run Try.prog wr = .ok () w2 ∧ Jz w p B Bi k (n + 1) s xs w2 := by
  obtain ⟨f, mc, hq, hmc, hg⟩ := h.gn
  obtain ⟨mi, hi⟩ := h.im
  obtain ⟨w2, hrun, h3, k2⟩ := hg.put (n := n) (by omega) (by omega) (!decide ((n : Int) ∈ xs))
  exact ⟨w2, hi.at (by omega), hrun, ⟨_, _, hq.put h1 hn (fun e hr2 => by
    have := (hr.2 n).2 hr2
    simp [this] at e), by omega, h3⟩, ⟨mi, hi.keep k2 (by simpa using hne)⟩⟩

set_option maxRecDepth 100000 in
set_option maxHeartbeats 8000000 in
theorem gone_main (w : World) (N : Nat) (ao : Option Addr) (cap : Nat) (T : List (Int × Int × Int × Int × Int × Int)) (hN1 : 1 ≤ N) (hN2 : N ≤ 8) (hm : T.length ≤ 150) (hT : Acts w ao T) :
    Calls Try.prog 4 #[.int .u8 N, .slice ao T.length cap] w fun e w' => e = .returned (.bool true) ∧ Kp [] w w' := by
  have hnew : Calls Try.prog 9 #[.int .i64 N, .int .i64 4, .int .i64 2] w (NewIs w N 4 2) := g_New w N 4 2 hN1 (by omega) (by omega) (by omega) (by omega)
  obtain ⟨m, hmm⟩ : ∃ m, m = T.length := ⟨_, rfl⟩
  have HM := Lib.hid hmm
  have HT := Lib.hid hT
  rw [← hmm] at hm ⊢
  clear hmm hT
  go_enter Try.func4, Try.ntmps4
  go_wp2_with fail
  refine hnew.mono ?_
  intro e w1 hn
  obtain ⟨p, rfl, o0⟩ := OwnG.new hn
  have H1 : Hid ((fresh N 4 2).m = 0 ∧ Gz w p w1.heap.size 0 (fresh N 4 2) (fun _ => false) 0 (w1.alloc (.map #[] 0))) := Lib.hid ⟨rfl, wf_fresh hN1 (by omega) (by omega), fun n hn => by (cases hn), by omega, Gn.start o0⟩
  clear hnew hn o0
  have hmk := @run_makeMap Try.prog
  go_wp2
  clear hmk
  generalize w1.heap.size = B at H1 ⊢
  generalize w1.alloc (.map #[] 0) = w2 at H1 ⊢
  go_loopg [7, 9] m (fun gg v7 v9 wr => ∃ (k : Nat) (s : Gs) (f : Nat → Bool) (mc sm : Nat), k + gg = m ∧ v7 = .int .i64 (sm : Int) ∧ v9 = .int .i64 (k : Int) ∧ Hid (s.m = sm ∧ Gz w p B k s f mc wr))
  case atStart => exact ⟨0, _, _, 0, 0, by omega, rfl, rfl, H1⟩
  case round =>
    clear H1
    obtain ⟨k, s, f, mc, sm, hkg, rfl, rfl, H⟩ := hrel
    by_cases hkm : k < m
    · have hkl : k < T.length := HM.out ▸ hkm
      obtain ⟨ab, i, hao, hbw, q0, q1, q2, q3, q4, q5, f0, f1, f2, f3, f4, f5⟩ := HT.out k _ (List.getElem?_eq_getElem hkl)
      subst hao
      generalize T[k].1 = d at q0 f0
      generalize T[k].2.1 = t at q1 f1
      generalize T[k].2.2.1 = a at q2 f2
      generalize T[k].2.2.2.1 = b at q3 f3
      generalize T[k].2.2.2.2.1 = c at q4 f4
      generalize T[k].2.2.2.2.2 = v at q5 f5
      have Q0 := Lib.hid q0
      replace q0 := H.out.2.gn.kp.cell (by simp) q0
      replace q1 := H.out.2.gn.kp.cell (by simp) q1
      replace q2 := H.out.2.gn.kp.cell (by simp) q2
      replace q3 := H.out.2.gn.kp.cell (by simp) q3
      replace q4 := H.out.2.gn.kp.cell (by simp) q4
      replace q5 := H.out.2.gn.kp.cell (by simp) q5
      obtain ⟨x, hx⟩ : ∃ x : Ac, x = ⟨d, t, a, b, c, v⟩ := ⟨_, rfl⟩
      have hdo : Calls Try.prog 5 #[.pointer (some ⟨p, 0, none⟩), .agg #[.int .u8 d, .int .i64 t, .int .i64 a, .int .i64 b, .int .i64 c, .int .u64 v]] wr fun e w2 => e = .returned (.tuple #[.int .u64 (doV s x), .int .i64 (doE s x)]) ∧ Gn w p (doS s x) B mc f w2 := by
        subst hx
        exact H.out.2.gn.act fun F hxx => does_any hxx H.out.2.wf (by omega) ⟨d, t, a, b, c, v⟩ (bounds_u8 f0).1
      have hxd : x.d = d := by rw [hx]
      obtain ⟨s2, hs2⟩ : ∃ s2, s2 = doS s x := ⟨_, rfl⟩
      obtain ⟨dv, hdv⟩ : ∃ dv, dv = doV s x := ⟨_, rfl⟩
      obtain ⟨de, hde⟩ : ∃ de, de = doE s x := ⟨_, rfl⟩
      obtain ⟨sm2, hsm2⟩ : ∃ sm2, s2.m = sm2 := ⟨_, rfl⟩
      have hsm := H.out.1
      have F1 : Hid (s2.m = sm2 ∧ Wf s2 (k + 1) ∧ Gq s2 f) := Lib.hid ⟨hsm2, hs2 ▸ wf_do H.out.2.wf x, hs2 ▸ H.out.2.gq.act H.out.2.wf x⟩
      have FA : Hid (d = 0 → de = 0 → sm2 = sm + 1 ∧ dv = (sm : Int) + 1) := Lib.hid fun h0 he => by
        have h1 := do_m s x
        rw [if_pos ⟨by rw [hxd]; exact h0, hde ▸ he⟩, ← hs2] at h1
        have h2 := v_made (s := s) x (by rw [hxd]; exact h0) (hde ▸ he)
        rw [← hdv] at h2
        omega
      have FB : Hid (¬ (d = 0 ∧ de = 0) → sm2 = sm) := Lib.hid fun h0 => by
        have h1 := do_m s x
        rw [if_neg (by rw [hxd, ← hde]; exact h0), ← hs2] at h1
        omega
      have hle2 : sm ≤ sm2 := by
        have h1 := do_m s x
        rw [← hs2] at h1
        split at h1 <;> omega
      have FC : Hid ((d = 1 ∨ d = 5) → de = 0 → ∃ n : Nat, dv = n ∧ n ≤ sm ∧ f n = false) := Lib.hid fun h0 he => by
        have h1 := ok_loaded H.out.2.wf x (by rw [hxd]; exact h0) (hde ▸ he)
        rw [← hdv] at h1
        obtain ⟨n, hn, hle⟩ : ∃ n : Nat, dv = n ∧ n ≤ sm := by
          rcases h1 with h1 | h1
          · exact ⟨0, h1, by omega⟩
          · have := h1.lt H.out.2.wf
            exact ⟨dv.toNat, by omega, by omega⟩
        exact ⟨n, hn, hle, H.out.2.gq.off (hn ▸ h1)⟩
      have hsmk : sm2 ≤ k + 1 := by have := F1.out.2.1.m; omega
      have hmc := H.out.2.hc
      rw [← hs2, ← hdv, ← hde] at hdo
      clear hs2 hdv hde hsm2 hxd hx f0 f1 f2 f3 f4 f5 hkl hbw H hsm
      go_wp2_with fail
      refine hdo.mono ?_
      rintro e w5 ⟨rfl, h5⟩
      have H5 := Lib.hid h5
      replace q0 := H5.out.kp.cell (by simp) Q0.out
      clear hdo h5 q1 q2 q3 q4 q5
      go_upto_region 12 with (fail)
      go_cut [66] from 42 to 165 (fun v66 w' => v66 = .bool (decide (d = 0 ∧ de = 0)) ∧ w5 = w')
      case first =>
        by_cases h0 : d = 0
        · have b0 : (d == 0) = true := by simp [h0]
          by_cases he : de = 0
          · have b1 : (de == 0) = true := by simp [he]
            have b2 : Hid (decide (d = 0 ∧ de = 0) = true) := Lib.hid (by simp [h0, he])
            go_wp2
            go_meet
            case rel => exact ⟨by rw [b2.out], rfl⟩
          · have b1 : (de == 0) = false := by simp [he]
            have b2 : Hid (decide (d = 0 ∧ de = 0) = false) := Lib.hid (by simp [h0, he])
            go_wp2
            go_meet
            case rel => exact ⟨by rw [b2.out], rfl⟩
        · have b0 : (d == 0) = false := by simp [h0]
          have b2 : Hid (decide (d = 0 ∧ de = 0) = false) := Lib.hid (by simp [h0])
          go_wp2
          go_meet
          case rel => exact ⟨by rw [b2.out], rfl⟩
      case rest =>
        obtain ⟨rfl, rfl⟩ := hcut
        go_upto_if 66 with (fail)
        go_cut [7] from 42 to 165 (fun v7 w' => v7 = .int .i64 (sm2 : Int) ∧ w5 = w')
        case first =>
          by_cases h0 : d = 0 ∧ de = 0
          · have b2 : decide (d = 0 ∧ de = 0) = true := by simp [h0]
            obtain ⟨e1, e2⟩ := FA.out h0.1 h0.2
            rw [b2]
            subst e1 e2
            clear b2 h0
            go_wp2
            go_meet
            case rel => exact ⟨by go_num, rfl⟩
          · have b2 : decide (d = 0 ∧ de = 0) = false := by simp [h0]
            have e1 := FB.out h0
            rw [b2]
            subst e1
            clear b2 h0
            go_wp2
            go_meet
            case rel => exact ⟨rfl, rfl⟩
        case rest =>
          obtain ⟨rfl, rfl⟩ := hcut
          clear FA FB
          go_upto_region 16 with (fail)
          go_cut [12] from 42 to 165 (fun v12 w' => v12 = .bool (decide (d = 1 ∨ d = 5)) ∧ w5 = w')
          case first =>
            by_cases h0 : d = 1
            · have b0 : (d == 1) = true := by simp [h0]
              have b2 : Hid (decide (d = 1 ∨ d = 5) = true) := Lib.hid (by simp [h0])
              go_wp2
              go_meet
              case rel => exact ⟨by rw [b2.out], rfl⟩
            · have b0 : (d == 1) = false := by simp [h0]
              by_cases h1 : d = 5
              · have b1 : (d == 5) = true := by simp [h1]
                have b2 : Hid (decide (d = 1 ∨ d = 5) = true) := Lib.hid (by simp [h1])
                go_wp2
                go_meet
                case rel => exact ⟨by rw [b2.out], rfl⟩
              · have b1 : (d == 5) = false := by simp [h1]
                have b2 : Hid (decide (d = 1 ∨ d = 5) = false) := Lib.hid (by simp [h0, h1])
                go_wp2
                go_meet
                case rel => exact ⟨by rw [b2.out], rfl⟩
          case rest =>
            obtain ⟨rfl, rfl⟩ := hcut
            clear q0
            go_upto_region 17 with (fail)
            go_cut [12, 103] from 42 to 165 (fun _ v103 w' => v103 = .bool false ∧ w5 = w')
            case first =>
              by_cases h0 : d = 1 ∨ d = 5
              · have b2 : decide (d = 1 ∨ d = 5) = true := by simp [h0]
                by_cases he : de = 0
                · have b1 : (de == 0) = true := by simp [he]
                  obtain ⟨n, e1, hn, hf⟩ := FC.out h0 he
                  have hlk := H5.out.mg.at (n := n) (by omega)
                  rw [hf] at hlk
                  have hle : n ≤ sm2 := by omega
                  have b3 : ¬ ((sm2 : Int) < (n : Int)) := by omega
                  rw [b2]
                  subst e1
                  clear b2 h0 he
                  go_wp2
                  go_meet
                  case rel => exact ⟨rfl, rfl⟩
                · have b1 : (de == 0) = false := by simp [he]
                  rw [b2]
                  clear b2 h0 he
                  go_wp2
                  go_meet
                  case rel => exact ⟨rfl, rfl⟩
              · have b2 : decide (d = 1 ∨ d = 5) = false := by simp [h0]
                rw [b2]
                clear b2 h0
                go_wp2
                go_meet
                case rel => exact ⟨rfl, rfl⟩
            case rest =>
              obtain ⟨rfl, rfl⟩ := hcut
              clear FC
              have hre : Calls Try.prog 6 #[.pointer (some ⟨p, 0, none⟩)] w5 (ReachIs s2 w5) := by
                obtain ⟨F, hx, _⟩ := H5.out
                exact reach_any F w5 p s2 (k + 1) hx F1.out.2.1 (by omega)
              go_wp2_with fail
              refine hre.mono ?_
              rintro e w6 ⟨v6, xs, rfl, hrl, hrw, hk6⟩
              obtain ⟨ao6, cp6, rfl⟩ := hrw.form
              obtain ⟨xl, hxl⟩ : ∃ xl, xl = xs.length := ⟨_, rfl⟩
              have hxm : xl ≤ 200 := by
                have := rise_len xs 0 sm2 hrl.1 (fun y hy => by
                  have := ((hrl.2 y).1 hy).lt F1.out.2.1
                  have := F1.out.1
                  omega) (by omega)
                omega
              have HXL := Lib.hid hxl
              have HRL := Lib.hid hrl
              have H6 := Lib.hid (H5.out.on hk6)
              have HI := Lib.hid (Iz.start hrw)
              obtain ⟨Bi, hBi⟩ : ∃ Bi, Bi = w6.heap.size := ⟨_, rfl⟩
              have HGE : Hid (w6.heap.size ≤ Bi) := Lib.hid (by omega)
              rw [← hxl, ← hBi] at HI
              rw [← hxl]
              have hmk := @run_makeMap Try.prog
              clear hre hrl hrw hk6 hxl
              go_wp2
              rw [← hBi]
              clear hmk hBi
              generalize w6.alloc (.map #[] 0) = w7 at HI ⊢
              go_loopg [15] xl (fun gg jv wi => ∃ j : Nat, j + gg = xl ∧ jv = .int .i64 (j : Int) ∧ Hid (Iz w5 w6 Bi (.slice ao6 xl cp6) xs j wi))
              case atStart => exact ⟨0, by omega, rfl, HI⟩
              case round =>
                clear HI
                obtain ⟨j, hjg, rfl, HI⟩ := hrel
                by_cases hjx : j < xl
                · have hjl : j < xs.length := by rw [← HXL.out]; exact hjx
                  have hr := (HRL.out.2 _).1 (getD_mem hjl)
                  have hb := hr.lt F1.out.2.1
                  obtain ⟨n, hn⟩ : ∃ n : Nat, xs.getD j 0 = n := ⟨(xs.getD j 0).toNat, by omega⟩
                  have hsm := F1.out.1
                  have hn1 : 1 ≤ n := by omega
                  have hn2 : n ≤ sm2 := by omega
                  have hf := F1.out.2.2.off (n := n) (.inr (hn ▸ hr))
                  have hlk : ∀ q, (Instr.lookup 37 (.map (some B)) (.int .i64 (n : Int)) false).run Try.prog (wr.drewN q) = .ok (.bool false) (wr.drewN q) := fun q => by
                    have := ((H6.out.on HI.out.kp).on (kp_drewN wr q)).mg.at (n := n) (by omega)
                    rw [hf] at this
                    exact this
                  have HN := Lib.hid hn
                  have HJL := Lib.hid hjl
                  obtain ⟨g, o, rfl, hc⟩ := HI.out.row.rd.cellAt hjl
                  rw [hn] at hc
                  have c1 : decide ((n : Int) < 1) = false := by simp; omega
                  have c2 : decide (sm2 < n) = false := by simp; omega
                  have c3 : decide ((sm2 : Int) < (n : Int)) = false := by simp; omega
                  rcases Nat.eq_zero_or_pos j with hj0 | hj0
                  · have b0 : decide ((0 : Int) < (j : Int)) = false := by simp; omega
                    have b1 : decide (0 < j) = false := by simp; omega
                    clear hn hjl hr hb hf hj0 hsm
                    go_wp2_with fail
                    go_quiet (fail)
                    obtain ⟨w8, hup, hI4⟩ := (HI.out.on (kp_drewN wr nq)).put HGE.out HJL.out HN.out (by omega) (by have := HXL.out; omega)
                    have HI4 := Lib.hid hI4
                    have hc2 := (kp_drewN (S := []) wr nq).cell (by simp) hc
                    clear hlk hc hI4 HI
                    go_wp2
                    go_roundg (xl - (j + 1))
                    case measure => omega
                    case rel => exact ⟨j + 1, by omega, by go_num, HI4⟩
                  · obtain ⟨z, hz⟩ : ∃ z, xs.getD (j - 1) 0 = z := ⟨_, rfl⟩
                    have hzn : z < (n : Int) := by
                      have := rise_at HRL.out.1 (j := j - 1) (by omega)
                      rw [show j - 1 + 1 = j from by omega, hn] at this
                      omega
                    obtain ⟨g', o', e', hcz⟩ := HI.out.row.rd.cellAt (i := j - 1) (by omega)
                    injection e' with e'
                    injection e' with e1 e2 _
                    subst e1 e2
                    rw [hz] at hcz
                    obtain ⟨j', rfl⟩ : ∃ j', j = j' + 1 := ⟨j - 1, by omega⟩
                    have hcz2 : wr.cell? ⟨g, o + j', none⟩ = some (.int .i64 z) := hcz
                    have b0 : decide ((0 : Int) < ((j' + 1 : Nat) : Int)) = true := decide_eq_true (by omega)
                    have b1 : decide (0 < j' + 1) = true := by simp
                    have b2 : decide ((n : Int) ≤ z) = false := by simp; omega
                    clear hcz hz hzn hn hjl hr hb hf hj0 hsm
                    go_wp2_with fail
                    go_quiet (fail)
                    obtain ⟨w8, hup, hI4⟩ := (HI.out.on (kp_drewN wr nq)).put HGE.out HJL.out HN.out (by omega) (by have := HXL.out; omega)
                    have HI4 := Lib.hid hI4
                    have hc2 := (kp_drewN (S := []) wr nq).cell (by simp) hc
                    clear hlk hc hI4 HI hcz2
                    go_wp2
                    go_roundg (xl - (j' + 1 + 1))
                    case measure => omega
                    case rel => exact ⟨j' + 1 + 1, by omega, by go_num, HI4⟩
                · obtain rfl : j = xl := by omega
                  have HJ : Hid (Jz w p B Bi k 1 s2 xs wr) := Lib.hid ⟨⟨f, mc, F1.out.2.2, by omega, H6.out.on HI.out.kp⟩, by
                    obtain ⟨mi, _, h⟩ := HI.out.im
                    rw [HXL.out, List.take_length] at h
                    exact ⟨mi, h⟩⟩
                  have HNE : Hid (Bi ≠ B) := Lib.hid (by have h1 := H6.out.mg.lt; have h2 := HGE.out; omega)
                  have hnn : ¬ ((j : Int) < (j : Int)) := by omega
                  clear hjg HI hjx
                  go_wp2_with fail
                  go_loopg [16] sm2 (fun gg nv wi => ∃ n : Nat, 1 ≤ n ∧ n + gg = sm2 + 1 ∧ nv = .int .i64 (n : Int) ∧ Hid (Jz w p B Bi k n s2 xs wi))
                  case atStart => exact ⟨1, by omega, by omega, rfl, HJ⟩
                  case round =>
                    clear HJ
                    obtain ⟨n, hn1, hng, rfl, HJ⟩ := hrel
                    by_cases hns : n ≤ sm2
                    · obtain ⟨w8, hlk, hup, hJ⟩ := HJ.out.put HNE.out HRL.out hn1 (by rw [F1.out.1]; exact hns) (by omega) (by omega)
                      have HJ2 := Lib.hid hJ
                      clear HJ hJ
                      generalize decide ((n : Int) ∈ xs) = bb at hlk hup
                      go_wp2
                      go_roundg (sm2 - n)
                      case measure => omega
                      case rel => exact ⟨n + 1, by omega, by omega, by go_num, HJ2⟩
                    · have hnn2 : ¬ ((n : Int) ≤ (sm2 : Int)) := by omega
                      obtain ⟨f2, mc2, hq2, hm2, hg2⟩ := HJ.out.gn
                      have HF : Hid (s2.m = sm2 ∧ Gz w p B (k + 1) s2 f2 mc2 wr) := Lib.hid ⟨F1.out.1, F1.out.2.1, hq2, by omega, hg2⟩
                      clear HJ hq2 hg2 hng
                      go_wp2_with fail
                      go_roundg (m - (k + 1))
                      case measure => omega
                      case rel => exact ⟨k + 1, s2, f2, mc2, sm2, by omega, rfl, by go_num, HF⟩
    · have hnn : ¬ ((k : Int) < (m : Int)) := by omega
      have hwk := wakes_any wr
      go_wp2_with fail
      refine hwk.mono ?_
      rintro e w3 ⟨rfl, hb⟩
      have H3 := Lib.hid (H.out.2.gn.kp.trans hb)
      clear hb hwk H
      go_wp2_with fail
      go_ret
      exact ⟨rfl, H3.out⟩

end Go.Proofs.Ytmbhhadghiojeaa
