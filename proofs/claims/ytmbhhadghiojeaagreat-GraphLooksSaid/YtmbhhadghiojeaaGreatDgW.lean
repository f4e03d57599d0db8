/- GraphPlays: the code's graph and the document's beside each other; what is asked ahead of the acts. GraphPlays, walked: for every graph and every row of acts it returns true. Conditions: the acts lie where the slice leads. Conditions: as each theorem states them. -/
import Derived.Test.YtmbhhadghiojeaaGreatDgP
import Derived.Test.YtmbhhadghiojeaaGreatDgO
import Derived.Test.YtmbhhadghiojeaaGreatGdW
import Derived.Test.YtmbhhadghiojeaaGreatGdL
import Derived.Deep.LoopGhost
import Derived.Deep.CutRange
import Derived.Deep.CutBlock
import Derived.Deep.DeepCutAuto
import Derived.Deep.RegionHeld3
import Derived.Carry
import Derived.BigQuiet
namespace Go.Proofs.YtmbhhadghiojeaaGreat
set_option linter.unusedVariables false
set_option linter.unusedSimpArgs false
open Go.RowKit

open Classical in
theorem Fr.kp {F : Nat → Prop} {w w' : World} (h : Fr F w w') : ∃ S, Kp S w w' ∧ ∀ x ∈ S, F x :=
  ⟨(List.range w.heap.size).filter fun b => decide (F b), ⟨h.os, h.tape, h.output, h.size, fun k hk hn => h.block k hk fun hf => hn (by simp [hk, hf])⟩, fun x hx => by simp at hx; exact hx.2⟩

/-- The two graphs, apart. -/
structure PG (w : World) (p : Nat) (s1 : Gs) (q : Nat) (s2 : Gs) (F FD : Nat → Prop) (wr : World) : Prop where
  g : Gx F wr p s1
  d : Dx FD wr q s2
  n1 : ∀ b, F b → w.heap.size ≤ b ∧ b < wr.heap.size
  n2 : ∀ b, FD b → w.heap.size ≤ b ∧ b < wr.heap.size
  ap : ∀ b, F b → ¬ FD b
  kp : Kp [] w wr
theorem PG.on {w : World} {p q : Nat} {s1 s2 : Gs} {F FD : Nat → Prop} {wr w2 : World} (h : PG w p s1 q s2 F FD wr) (k : Kp [] wr w2) : PG w p s1 q s2 F FD w2 :=
  ⟨h.g.on k, h.d.on k, fun b hb => ⟨(h.n1 b hb).1, Nat.lt_of_lt_of_le (h.n1 b hb).2 k.size⟩, fun b hb => ⟨(h.n2 b hb).1, Nat.lt_of_lt_of_le (h.n2 b hb).2 k.size⟩, h.ap, h.kp.trans k⟩
theorem PG.act1 {w : World} {p q : Nat} {s1 s1' s2 : Gs} {F FD : Nat → Prop} {wr w2 : World} {r : Value} {e : Ending} (h : PG w p s1 q s2 F FD wr) (hc : Ended F wr p r s1' e w2) : e = .returned r ∧ PG w p s1' q s2 (nw F wr w2) FD w2 := by
  obtain ⟨he, hx, hf⟩ := hc
  obtain ⟨S, hk, hS⟩ := hf.kp
  obtain ⟨y, hy, hyf⟩ := h.d
  refine ⟨he, hx, ⟨y, hy.keep hk fun b hb ft => h.ap b (hS b hb) (hyf b ft), hyf⟩, fun b hb => ?_, fun b hb => ⟨(h.n2 b hb).1, Nat.lt_of_lt_of_le (h.n2 b hb).2 hf.size⟩, fun b hb hd => ?_, (kp_then h.kp hk).mono fun x hx hlt => ?_⟩
  · rcases hb with hb | ⟨b1, b2⟩
    · exact ⟨(h.n1 b hb).1, Nat.lt_of_lt_of_le (h.n1 b hb).2 hf.size⟩
    · exact ⟨Nat.le_trans h.kp.size b1, b2⟩
  · rcases hb with hb | ⟨b1, b2⟩
    · exact h.ap b hb hd
    · have := (h.n2 b hd).2; omega
  · have := (h.n1 x (hS x hx)).1; omega
theorem PG.act2 {w : World} {p q : Nat} {s1 s2 s2' : Gs} {F FD : Nat → Prop} {wr w2 : World} (h : PG w p s1 q s2 F FD wr) (hc : Left FD wr q s2' w2) : PG w p s1 q s2' F (nw FD wr w2) w2 := by
  obtain ⟨hx, hf⟩ := hc
  obtain ⟨S, hk, hS⟩ := hf.kp
  obtain ⟨y, hy, hyf⟩ := h.g
  refine ⟨⟨y, hy.keep hk fun b hb ft => h.ap b (hyf b ft) (hS b hb), hyf⟩, hx, fun b hb => ⟨(h.n1 b hb).1, Nat.lt_of_lt_of_le (h.n1 b hb).2 hf.size⟩, fun b hb => ?_, fun b hb hd => ?_, (kp_then h.kp hk).mono fun x hx hlt => ?_⟩
  · rcases hb with hb | ⟨b1, b2⟩
    · exact ⟨(h.n2 b hb).1, Nat.lt_of_lt_of_le (h.n2 b hb).2 hf.size⟩
    · exact ⟨Nat.le_trans h.kp.size b1, b2⟩
  · rcases hd with hd | ⟨b1, b2⟩
    · exact h.ap b hb hd
    · have := (h.n1 b hb).2; omega
  · have := (h.n2 x (hS x hx)).1; omega
theorem PG.start {w w1 w2 : World} {p q : Nat} {s1 s2 : Gs} (h1 : Gx (fun b => w.heap.size ≤ b ∧ b < w1.heap.size) w1 p s1) (k1 : Kp [] w w1) (h2 : Dx (fun b => w1.heap.size ≤ b ∧ b < w2.heap.size) w2 q s2) (k2 : Kp [] w1 w2) :
    PG w p s1 q s2 (fun b => w.heap.size ≤ b ∧ b < w1.heap.size) (fun b => w1.heap.size ≤ b ∧ b < w2.heap.size) w2 :=
  ⟨h1.on k2, h2, fun b hb => ⟨hb.1, Nat.lt_of_lt_of_le hb.2 k2.size⟩, fun b hb => ⟨Nat.le_trans k1.size hb.1, hb.2⟩, fun b h h' => by have := h.2; have := h'.1; omega, k1.trans k2⟩

set_option maxRecDepth 100000 in
theorem plays_skip (w : World) (h k l : Int) (ao : Option Addr) (n cap : Nat) (hn : 150 < n ∨ mayB h k l = false) :
    Calls Tryz.prog 3 #[.int .i64 h, .int .i64 k, .int .i64 l, .slice ao n cap] w fun e w' => e = .returned (.bool true) ∧ Kp [] w w' := by
  have hwk := wakes_any w
  by_cases h1 : 150 < n
  · go_enter Tryz.func3, Tryz.ntmps3
    go_wp2_with ((with_reducible refine hwk.mono ?_); rintro e w1 ⟨rfl, hb⟩; have H := Lib.hid hb; clear hb)
    go_ret
    exact ⟨rfl, H.out⟩
  · have h1' : n ≤ 150 := by omega
    have hm := hn.resolve_left h1
    have hnew := g_New_no w h k l (by
      unfold newBad
      unfold mayB at hm
      simp only [Bool.and_eq_false_iff, decide_eq_false_iff_not] at hm
      omega)
    clear hn
    go_enter Tryz.func3, Tryz.ntmps3
    go_wp2_with fail
    refine hnew.mono ?_
    rintro e w1 ⟨rfl, hk⟩
    have H1 := Lib.hid hk
    have hmay := may_any w1 h k l
    rw [hm] at hmay
    have hwk := wakes_any w1
    clear hk hnew hm
    go_wp2_with fail
    refine hmay.mono ?_
    rintro e w2 ⟨rfl, rfl⟩
    go_wp2_with ((with_reducible refine hwk.mono ?_); rintro e w3 ⟨rfl, hb⟩; have H := Lib.hid (H1.out.trans hb); clear hb)
    go_ret
    exact ⟨rfl, H.out⟩

end Go.Proofs.YtmbhhadghiojeaaGreat

namespace Go.Proofs.YtmbhhadghiojeaaGreat
set_option linter.unusedVariables false
set_option linter.unusedSimpArgs false
open Go.RowKit

/-- k of the list are below n. -/
def Upto (xs : List Int) (k n : Nat) : Prop := k ≤ xs.length ∧ (∀ j, j < k → xs.getD j 0 < n) ∧ ∀ j, k ≤ j → j < xs.length → (n : Int) ≤ xs.getD j 0
theorem pw_at {xs : List Int} (hp : xs.Pairwise (· < ·)) {i j : Nat} (hij : i < j) (hj : j < xs.length) : xs.getD i 0 < xs.getD j 0 := by
  have h1 : i < xs.length := by omega
  have := List.pairwise_iff_getElem.1 hp i j h1 hj hij
  simpa [List.getD, hj, h1] using this
theorem Upto.yes {xs : List Int} {k n : Nat} (h : Upto xs k n) (hp : xs.Pairwise (· < ·)) (hn : (n : Int) ∈ xs) : k < xs.length ∧ xs.getD k 0 = n ∧ Upto xs (k + 1) (n + 1) := by
  obtain ⟨j, hj, e⟩ := List.getElem_of_mem hn
  have e' : xs.getD j 0 = n := by simp [List.getD, hj, e]
  have hkj : k ≤ j := by
    rcases Nat.lt_or_ge j k with q | q
    · have := h.2.1 j q; omega
    · exact q
  have hk : k < xs.length := by omega
  have hkn := h.2.2 k (Nat.le_refl _) hk
  have ekj : k = j := by
    rcases Nat.eq_or_lt_of_le hkj with q | q
    · exact q
    · have := pw_at hp q hj; omega
  subst ekj
  refine ⟨hk, e', by omega, fun i hi => ?_, fun i hi hil => ?_⟩
  · rcases Nat.eq_or_lt_of_le (Nat.le_of_lt_succ hi) with q | q
    · rw [q, e']; omega
    · have := h.2.1 i q; omega
  · have := pw_at hp (show k < i by omega) hil
    omega
theorem Upto.no {xs : List Int} {k n : Nat} (h : Upto xs k n) (hn : (n : Int) ∉ xs) : Upto xs k (n + 1) :=
  ⟨h.1, fun j hj => by have := h.2.1 j hj; omega, fun j hj hjl => by
    have h1 := h.2.2 j hj hjl
    have h2 : xs.getD j 0 ≠ n := fun e => hn (e ▸ getD_mem hjl)
    omega⟩

set_option maxRecDepth 100000 in
set_option maxHeartbeats 8000000 in
theorem plays_main (w : World) (nt ns nl : Nat) (ao : Option Addr) (cap : Nat) (T : List (Int × Int × Int × Int × Int × Int)) (h1 : 1 ≤ nt) (h2 : nt ≤ 64) (h3 : 1 ≤ ns) (h4 : ns ≤ 8) (h5 : nl ≤ 8) (hm : T.length ≤ 150) (hT : Acts w ao T) :
    Calls Tryz.prog 3 #[.int .i64 nt, .int .i64 ns, .int .i64 nl, .slice ao T.length cap] w fun e w' => e = .returned (.bool true) ∧ Kp [] w w' := by
  have hnew := g_New w nt ns nl h1 h2 h5 h3 h4
  have hmb : mayB nt ns nl = true := by unfold mayB; simp; omega
  have HD : Hid (∀ w', Calls Tryz.prog 8 #[.int .i64 nt, .int .i64 ns, .int .i64 nl] w' fun e w2 => ∃ q, e = .returned (.pointer (some ⟨q, 0, none⟩)) ∧ Dx (fun b => w'.heap.size ≤ b ∧ b < w2.heap.size) w2 q (fresh nt ns nl) ∧ Kp [] w' w2) := Lib.hid fun w' => d_New w' nt ns nl h1 h2 h3 h4 h5
  have HW0 : Hid (Wf (fresh nt ns nl) 0) := Lib.hid (wf_fresh h1 h2 h5)
  obtain ⟨m, hmm⟩ : ∃ m, m = T.length := ⟨_, rfl⟩
  have HM := Lib.hid hmm
  have HT := Lib.hid hT
  rw [← hmm] at hm ⊢
  clear hmm hT h1 h2 h3 h4 h5
  go_enter Tryz.func3, Tryz.ntmps3
  go_wp2_with fail
  refine hnew.mono ?_
  rintro e w1 ⟨p, rfl, hg1, hk1⟩
  have H1 := Lib.hid (And.intro hg1 hk1)
  have hmay := may_any w1 nt ns nl
  rw [hmb] at hmay
  clear hnew hg1 hk1 hmb
  go_wp2_with fail
  refine hmay.mono ?_
  rintro e w1' ⟨rfl, rfl⟩
  clear hmay
  have hd := HD.out w1
  go_wp2_with fail
  refine hd.mono ?_
  rintro e w2 ⟨q, rfl, hd2, hk2⟩
  have H2 : Hid (Wf (fresh nt ns nl) 0 ∧ ∃ F FD, PG w p (fresh nt ns nl) q (fresh nt ns nl) F FD w2) := Lib.hid ⟨HW0.out, _, _, PG.start H1.out.1 H1.out.2 hd2 hk2⟩
  clear hd hd2 hk2 H1 HD HW0
  generalize fresh nt ns nl = s0 at H2
  go_wp2_with fail
  go_loopg [12] m (fun gg v wr => ∃ (k : Nat) (s : Gs), k + gg = m ∧ v = .int .i64 (k : Int) ∧ Hid (Wf s k ∧ ∃ F FD, PG w p s q s F FD wr))
  case atStart => exact ⟨0, s0, by omega, rfl, H2⟩
  case round =>
    clear H2
    obtain ⟨k, s, hkg, rfl, H⟩ := hrel
    by_cases hkm : k < m
    · have hkl : k < T.length := HM.out ▸ hkm
      obtain ⟨ab, i, hao, hbw, q0, q1, q2, q3, q4, q5, f0, f1, f2, f3, f4, f5⟩ := HT.out k _ (List.getElem?_eq_getElem hkl)
      subst hao
      generalize T[k].1 = d at q0 f0
      generalize T[k].2.1 = t at q1 f1
      generalize T[k].2.2.1 = a at q2 f2
      generalize T[k].2.2.2.1 = b at q3 f3
      generalize T[k].2.2.2.2.1 = c at q4 f4
      generalize T[k].2.2.2.2.2 = v at q5 f5
      have QQ := Lib.hid (And.intro q0 (And.intro q1 (And.intro q2 (And.intro q3 (And.intro q4 q5)))))
      obtain ⟨hwf, F, FD, hpg⟩ := H.out
      have kw := hpg.kp
      replace q0 := kw.cell (by simp) q0
      replace q1 := kw.cell (by simp) q1
      replace q2 := kw.cell (by simp) q2
      replace q3 := kw.cell (by simp) q3
      replace q4 := kw.cell (by simp) q4
      replace q5 := kw.cell (by simp) q5
      have hd0 := (bounds_u8 f0).1
      have hdo : Calls Tryz.prog 9 #[.pointer (some ⟨p, 0, none⟩), .agg #[.int .u8 d, .int .i64 t, .int .i64 a, .int .i64 b, .int .i64 c, .int .u64 v]] wr (Ended F wr p (.tuple #[.int .u64 (doV s ⟨d, t, a, b, c, v⟩), .int .i64 (doE s ⟨d, t, a, b, c, v⟩)]) (doS s ⟨d, t, a, b, c, v⟩)) := does_any hpg.g hwf (by omega) ⟨d, t, a, b, c, v⟩ hd0
      have HS : Hid (∀ w5, Dx FD w5 q s → Calls Tryz.prog 10 #[.pointer (some ⟨q, 0, none⟩), .agg #[.int .u8 d, .int .i64 t, .int .i64 a, .int .i64 b, .int .i64 c, .int .u64 v]] w5 fun e w' => e = .returned (.tuple #[.int .u64 (doV s ⟨d, t, a, b, c, v⟩), .int .i64 (doE s ⟨d, t, a, b, c, v⟩)]) ∧ Left FD w5 q (doS s ⟨d, t, a, b, c, v⟩) w') := Lib.hid fun w5 hx => says_any hx hwf (by omega) ⟨d, t, a, b, c, v⟩ hd0
      have HW2 := Lib.hid (wf_do hwf ⟨d, t, a, b, c, v⟩)
      have HP := Lib.hid hpg
      generalize doV s ⟨d, t, a, b, c, v⟩ = dv at hdo HS
      generalize doE s ⟨d, t, a, b, c, v⟩ = de at hdo HS
      generalize doS s ⟨d, t, a, b, c, v⟩ = s2 at hdo HS HW2
      clear f0 f1 f2 f3 f4 f5 hkl hbw H hpg hwf kw hd0
      go_wp2_with fail
      refine hdo.mono ?_
      intro e w5 hE
      obtain ⟨rfl, hp5⟩ := HP.out.act1 hE
      have H5 := Lib.hid hp5
      clear hdo hE hp5 q0 q1 q2 q3 q4 q5 HP
      have q0 := H5.out.kp.cell (by simp) QQ.out.1
      have q1 := H5.out.kp.cell (by simp) QQ.out.2.1
      have q2 := H5.out.kp.cell (by simp) QQ.out.2.2.1
      have q3 := H5.out.kp.cell (by simp) QQ.out.2.2.2.1
      have q4 := H5.out.kp.cell (by simp) QQ.out.2.2.2.2.1
      have q5 := H5.out.kp.cell (by simp) QQ.out.2.2.2.2.2
      have hsay := HS.out w5 H5.out.d
      go_wp2_with fail
      refine hsay.mono ?_
      rintro e w6 ⟨rfl, hl⟩
      have H6 : Hid (Wf s2 (k + 1) ∧ ∃ F FD, PG w p s2 q s2 F FD w6) := Lib.hid ⟨HW2.out, _, _, H5.out.act2 hl⟩
      clear hsay hl q0 q1 q2 q3 q4 q5 H5 HS HW2
      go_wp2_with fail
      go_roundg (m - (k + 1))
      case measure => omega
      case rel => exact ⟨k + 1, s2, by omega, by go_num, H6⟩
    · have hnn : ¬ ((k : Int) < (m : Int)) := by omega
      obtain ⟨hwf, F, FD, hpg⟩ := H.out
      have hre := reach_any F wr p s k hpg.g hwf (by omega)
      have HP := Lib.hid hpg
      have HW := Lib.hid hwf
      clear hpg hwf H
      go_wp2_with fail
      refine hre.mono ?_
      rintro e w5 ⟨v5, xs, rfl, hrl, hrw, hk5⟩
      obtain ⟨ao5, cp5, rfl⟩ := hrw.form
      have hdr := d_Reach (HP.out.on hk5).d HW.out (by omega)
      have H5 := Lib.hid (And.intro (HP.out.on hk5) (And.intro hrl hrw))
      obtain ⟨xl, hxl⟩ : ∃ xl, xl = xs.length := ⟨_, rfl⟩
      have HXL := Lib.hid hxl
      obtain ⟨sm, hsm⟩ : ∃ sm, sm = s.m := ⟨_, rfl⟩
      have HSM := Lib.hid hsm
      have hsmk : sm ≤ 150 := by have := HW.out.m; omega
      rw [← hxl]
      rw [← hsm] at hdr
      clear hre hrl hrw hk5 HP hxl hsm
      go_wp2_with fail
      refine hdr.mono ?_
      rintro e w6 ⟨g, f, rfl, hbl, hfr, hk6⟩
      have H6 : Hid (Kp [] w w6 ∧ RchL s xs ∧ Rd w6 (.slice ao5 xl cp5) xs ∧ Bl w6 g (sm + 1) f ∧ (∀ n : Nat, n ≤ sm → (f n = true ↔ Rch s n)) ∧ Upto xs 0 1) := Lib.hid ⟨(H5.out.1.on hk6).kp, H5.out.2.1, by rw [HXL.out]; exact (H5.out.2.2.keep0 hk6).rd, hbl, hfr, Nat.zero_le _, fun j hj => by omega, fun j _ hj => by
        have := (((H5.out.2.1.2 _).1 (getD_mem hj)).lt HW.out).1
        omega⟩
      clear hdr hbl hfr hk6 H5
      go_wp2_with fail
      go_loopg [19, 20] sm (fun gg v19 v20 wi => ∃ kk n : Nat, n + gg = sm + 1 ∧ 1 ≤ n ∧ v19 = .int .i64 (kk : Int) ∧ v20 = .int .i64 (n : Int) ∧ kk ≤ 200 ∧ Hid (Kp [] w wi ∧ RchL s xs ∧ Rd wi (.slice ao5 xl cp5) xs ∧ Bl wi g (sm + 1) f ∧ (∀ n : Nat, n ≤ sm → (f n = true ↔ Rch s n)) ∧ Upto xs kk n ∧ kk + 1 ≤ n))
      case atStart => exact ⟨0, 1, by omega, by omega, rfl, rfl, by omega, Lib.hid ⟨H6.out.1, H6.out.2.1, H6.out.2.2.1, H6.out.2.2.2.1, H6.out.2.2.2.2.1, H6.out.2.2.2.2.2, by omega⟩⟩
      case round =>
        clear H6
        obtain ⟨kk, n, hng, hn1, rfl, rfl, hkk, H⟩ := hrel
        by_cases hns : n ≤ sm
        · obtain ⟨z1, z2, z3, z4, z5, z6, z7⟩ := H.out
          have cb := z4.cell (i := n) (by omega)
          have hlt : (n : Int) < (sm : Int) + 1 := by omega
          cases hfn : f n
          · rw [hfn] at cb
            have hnx : (n : Int) ∉ xs := fun hin => by
              have := (z5 n hns).2 ((z2.2 _).1 hin)
              rw [hfn] at this; cases this
            have HN := Lib.hid (show Kp [] w wr ∧ RchL s xs ∧ Rd wr (.slice ao5 xl cp5) xs ∧ Bl wr g (sm + 1) f ∧ (∀ n : Nat, n ≤ sm → (f n = true ↔ Rch s n)) ∧ Upto xs kk (n + 1) ∧ kk + 1 ≤ n + 1 from ⟨z1, z2, z3, z4, z5, z6.no hnx, by omega⟩)
            clear z1 z2 z3 z4 z5 z6 z7 H hnx hfn
            go_wp2_with fail
            go_roundg (sm - n)
            case measure => omega
            case rel => exact ⟨kk, n + 1, by omega, by omega, rfl, by go_num, hkk, HN⟩
          · rw [hfn] at cb
            obtain ⟨hkl, hkn, hup⟩ := z6.yes z2.1 ((z2.2 _).2 ((z5 n hns).1 hfn))
            obtain ⟨g5, o5, rfl, cx⟩ := z3.cellAt hkl
            rw [hkn] at cx
            rw [← HXL.out] at hkl
            have hkb : ¬ ((xl : Int) ≤ (kk : Int)) := by omega
            have HN := Lib.hid (show Kp [] w wr ∧ RchL s xs ∧ Rd wr (.slice (some ⟨g5, o5, none⟩) xl cp5) xs ∧ Bl wr g (sm + 1) f ∧ (∀ n : Nat, n ≤ sm → (f n = true ↔ Rch s n)) ∧ Upto xs (kk + 1) (n + 1) ∧ kk + 1 + 1 ≤ n + 1 from ⟨z1, z2, z3, z4, z5, hup, by omega⟩)
            have hkk2 : kk + 1 ≤ 200 := by omega
            clear z1 z2 z3 z4 z5 z6 z7 H hfn hkn hup
            go_wp2_with fail
            go_roundg (sm - n)
            case measure => omega
            case rel => exact ⟨kk + 1, n + 1, by omega, by omega, by go_num, by go_num, hkk2, HN⟩
        · obtain ⟨z1, z2, z3, z4, z5, z6, z7⟩ := H.out
          have hnn2 : ¬ ((n : Int) < (sm : Int) + 1) := by omega
          have hend : kk = xl := by
            rw [HXL.out]
            rcases Nat.eq_or_lt_of_le z6.1 with e | hlt
            · exact e
            · have h1 := z6.2.2 kk (Nat.le_refl _) hlt
              have h2 := (((z2.2 _).1 (getD_mem hlt)).lt HW.out).2
              have := HSM.out
              omega
          subst hend
          have hwk := wakes_any wr
          have HK := Lib.hid z1
          clear z1 z2 z3 z4 z5 z6 z7 H
          go_wp2_with ((with_reducible refine hwk.mono ?_); rintro e w7 ⟨rfl, hb⟩; have H7 := Lib.hid (HK.out.trans hb); clear hb)
          go_ret
          exact ⟨rfl, H7.out⟩

end Go.Proofs.YtmbhhadghiojeaaGreat
