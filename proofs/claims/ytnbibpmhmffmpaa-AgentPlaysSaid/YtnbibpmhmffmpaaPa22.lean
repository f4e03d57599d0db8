/- AgentPlays: a turn; its second loop. Written by gen/ap_n.py. AgentPlays: its last loop, its end. Written by gen/ap_o.py. AgentPlays: the walk as a whole. Written by gen/ap_p.py. Two closed facts on the program, that each law's frame names. Conditions: none. Conditions: as each theorem states them. -/
import Derived.Test.YtnbibpmhmffmpaaRows
import Derived.ProofKit
import Derived.ChangeOld
import Derived.OpenShut
import Derived.Carry
import Derived.Test.YtnbibpmhmffmpaaPa21
namespace Go.Proofs.Ytnbibpmhmffmpaa
open List renaming getElem_toArray → gtA, getElem_cons_zero → gtZ, getElem_cons_succ → gtS, setIfInBounds_toArray → siA, set_cons_succ → scS, set_cons_zero → scZ, getElem?_toArray → gqA, getElem?_cons_zero → gqZ, getElem?_cons_succ → gqS
set_option linter.unusedVariables false
set_option linter.unusedSimpArgs false
set_option maxRecDepth 100000
open Go.RowKit
open Go.Conc
open Go.ConcN (upd_ne upd_same)

section
variable {Post : Value → World → Prop} {W : World} {pA rA bl M wd N : Nat} {L : List Pr} {ag : Nat → Ag}

set_option maxHeartbeats 8000000 in
/-- A TURN. -/
theorem ap_turn {args : Array Value} {x : Nat → Value} {ao : Option Addr} {cl K co ba ca bv cv bm cm bO oo i : Nat} {d : Int} {dn : Nat → Nat} {pl : Nat → Option Place} {F : Nat → Option (Nat × Nat)} {col : Nat → Col} {w : World} {g : Nat → Int} {s : St} (A : ApT Post W pA rA bl bm cm M wd L ag dn dn g s.ws (.slice (some ⟨ba, 0, none⟩) M ca) (.slice (some ⟨bv, 0, none⟩) M cv) pl F col w g s) (hx : HasY x [(0, .int .u8 wd), (1, .slice ao M cl), (2, .slice (some ⟨bO, oo, none⟩) K co), (7, .pointer (some ⟨pA, 0, none⟩)), (9, .slice (some ⟨ba, 0, none⟩) M ca), (10, .slice (some ⟨bv, 0, none⟩) M cv), (11, .slice (some ⟨bl, 0, none⟩) M M), (12, .slice (some ⟨bm, 0, none⟩) wd cm), (13, .bool true), (17, .int .i64 i)]) (hi : i < K) (hK : K ≤ 150) (hM1 : 1 ≤ M) (hM5 : M ≤ 5) (hw1 : 1 ≤ wd) (h20 : wd ≤ 20) (hL : Progs W ao L) (hLM : M = L.length) (hl20 : ∀ p ∈ L, p.l.length ≤ 20) (hd : 0 ≤ d ∧ d ≤ 255) (hcl : w.cell? ⟨bO, oo + i, none⟩ = some (.int .u8 d)) (ht : s.t ≤ 3000)
    (H : ∀ bm' cm' dn' g' s' pl' F' col' w' (x' : Nat → Value), ApT Post W pA rA bl bm' cm' M wd L ag dn' dn' g' s'.ws (.slice (some ⟨ba, 0, none⟩) M ca) (.slice (some ⟨bv, 0, none⟩) M cv) pl' F' col' w' g' s' → s'.t ≤ s.t + 1 → HasY x' [(0, .int .u8 wd), (1, .slice ao M cl), (2, .slice (some ⟨bO, oo, none⟩) K co), (7, .pointer (some ⟨pA, 0, none⟩)), (9, .slice (some ⟨ba, 0, none⟩) M ca), (10, .slice (some ⟨bv, 0, none⟩) M cv), (11, .slice (some ⟨bl, 0, none⟩) M M), (12, .slice (some ⟨bm', 0, none⟩) wd cm'), (13, .bool true), (17, .int .i64 ((i + 1 : Nat) : Int))] →
      Win Try.prog Post pl' N 0 (gor ((Frame.enter Try.prog 3 args .normal).at ⟨T287 x', []⟩ (apK2 Try.f3)) []) w') :
    Win Try.prog Post pl N 0 (gor ((Frame.enter Try.prog 3 args .normal).at ⟨T287 x, []⟩ (.code (apX2 Try.f3) :: apK2 Try.f3)) []) w := by
  have hb : (Frame.enter Try.prog 3 args .normal).kind = .normal := rfl
  have e19 : apX2 Try.f3 = .seq (apQ19 Try.f3) (.seq (.block 3 (apB2 Try.f3)) (apQ20 Try.f3)) := by kernel_rfl
  have e21 : apB2 Try.f3 = .seq (apQ21 Try.f3) (codeR (apB2 Try.f3)) := by kernel_rfl
  have e22 : codeR (apB2 Try.f3) = .seq (apQ22 Try.f3) (codeR (codeR (apB2 Try.f3))) := by kernel_rfl
  have e23 : codeR (codeR (apB2 Try.f3)) = .seq (apQ23 Try.f3) (codeR (codeR (codeR (apB2 Try.f3)))) := by kernel_rfl
  have e24 : codeR (codeR (codeR (apB2 Try.f3))) = .seq (apQ24 Try.f3) (codeR (codeR (codeR (codeR (apB2 Try.f3))))) := by kernel_rfl
  obtain ⟨hx0, hx1, hx2, hx7, hx9, hx10, hx11, hx12, hx13, hx17, -⟩ := hx
  rw [show (Item.code (apX2 Try.f3) :: apK2 Try.f3) = .code (.seq (apQ19 Try.f3) (.seq (.block 3 (apB2 Try.f3)) (apQ20 Try.f3))) :: apK2 Try.f3 by rw [← e19]]
  refine Win.seq ?_
  refine desk_stillY A.crew.desk (stok_at rfl rfl (by simp) (by kernel_rfl)) (fun wt Q hQ => ap_q19 hx0 hx1 hx2 hx7 hx9 hx10 hx11 hx12 hx13 hx17 hi hK hM1 hM5 hQ) fun x1 w1 hx k1 D1 => ?_
  have A1 := A.made D1 k1
  have hcl1 : w1.cell? ⟨bO, oo + i, none⟩ = some (.int .u8 d) := (World.cell?_of_block (k1.block _ (World.block_lt_of_cell? _ _ hcl) fun z => z)).trans hcl
  clear hx0 hx1 hx2 hx7 hx9 hx10 hx11 hx12 hx13 hx17
  obtain ⟨hx0, hx1, hx2, hx7, hx9, hx10, hx11, hx12, hx13, hx17, -⟩ := hx
  refine Win.seq ?_
  refine Win.block ?_
  rw [e21]
  refine Win.seq ?_
  have hm0 := Int.emod_nonneg d (show (M : Int) ≠ 0 by omega)
  have hm1 := Int.emod_lt_of_pos d (show (0 : Int) < M by omega)
  obtain ⟨kk, hkk⟩ : ∃ kk : Nat, (kk : Int) = d % M := ⟨(d % M).toNat, by omega⟩
  have hkM : kk < M := by omega
  refine desk_lookY D1 (stok_at rfl rfl (by simp) (by kernel_rfl)) (fun wt Q hcell hQ => ap_q21 hx0 hx1 hx2 hx7 hx9 hx10 hx11 hx12 hx13 hx17 rfl hi hK hM1 hM5 hd hkk ((hcell _).trans hcl1) hQ) fun x2 w2 hx k2 D2 => ?_
  have A2 := A1.made D2 k2
  clear hx0 hx1 hx2 hx7 hx9 hx10 hx11 hx12 hx13 hx17
  obtain ⟨p, hp⟩ : ∃ p, L[kk]? = some p := ⟨L[kk]'(by omega), List.getElem?_eq_getElem (by omega)⟩
  have hgp : L.getD kk dftP = p := by simp only [List.getD, hp, Option.getD_some]
  have hlp : lsP L kk = p.l := by unfold lsP; rw [hgp]
  obtain ⟨hT, -⟩ := hL kk p hp
  have hl := hl20 p (List.mem_of_getElem? hp)
  have r0 := A2.row rfl hkM 0 (by decide)
  have r1 := A2.row rfl hkM 1 (by decide)
  have r2 := A2.row rfl hkM 2 (by decide)
  rw [hgp] at r0 r1 r2
  have hdle := A2.dle kk
  rw [hlp] at hdle
  obtain ⟨hx0, hx1, hx2, hx7, hx9, hx10, hx11, hx12, hx13, hx17, hx18, -⟩ := hx
  rw [e22]
  refine Win.seq ?_
  rcases Nat.lt_or_ge (dn kk) p.l.length with hlt | hge
  · obtain ⟨tc, htc⟩ : ∃ tc, p.l[dn kk]? = some tc := ⟨p.l[dn kk], List.getElem?_eq_getElem hlt⟩
    refine A2.crew.desk.pieceY (own := (· = bm)) (S := fun _ => False) (A := fun w => Rm w bm cm s.ws) (priv_rm _ _ _) A2.rm (fun b hb => by rw [show b = bm from hb, A2.rmc]; rfl) (ι := Nat × Nat × Nat) (own' := fun v b => (b = v.1 ∨ b = v.2.1) ∧ w2.heap.size ≤ b) (A' := fun v w' => w'.heap[v.1]? = some (.cells #[p.v, .int .i64 ((dn kk + 1 : Nat) : Int), .int .u64 (stepL tc (g kk) s.ws)] 42 (0, 0)) ∧ Rm w' v.2.1 v.2.2 (stepW tc (g kk) s.ws) ∧ w2.heap.size ≤ v.1 ∧ w2.heap.size ≤ v.2.1 ∧ v.1 ≠ v.2.1) (fun v => ?_) (K' := fun v => [(0, .int .u8 wd), (1, .slice ao M cl), (2, .slice (some ⟨bO, oo, none⟩) K co), (7, .pointer (some ⟨pA, 0, none⟩)), (9, .slice (some ⟨ba, 0, none⟩) M ca), (10, .slice (some ⟨bv, 0, none⟩) M cv), (11, .slice (some ⟨bl, 0, none⟩) M M), (12, .slice (some ⟨bm, 0, none⟩) wd cm), (13, .bool true), (17, .int .i64 i), (18, .int .i64 kk), (19, .pointer (some ⟨v.1, 0, none⟩)), (20, .slice (some ⟨v.2.1, 0, none⟩) wd v.2.2), (21, .bool true)]) (stok_at rfl rfl (by simp) (by kernel_rfl)) (fun wt Q h1 h2 h3 hQ => ap_q22 hx0 hx1 hx2 hx7 hx9 hx10 hx11 hx12 hx13 hx17 hx18 hkM ((h3 _).trans r0) ((h3 _).trans r1) ((h3 _).trans r2) ((hT.inw A2.crew.sh.2).cells h3) htc (by omega) h1 A2.len hw1 (by omega) fun a' w' bp g' cap' hf hr hrm z1 z2 z3 hk => hQ a' (bp, g', cap') w' (fun y hy => .inr ⟨by have z := hy.2; omega, by
        rcases hy.1 with e | e
        · rw [e]; exact lt_of_block hr
        · rw [e]; exact hrm.lt⟩) hf ⟨hr, hrm, (show w2.heap.size ≤ bp by omega), (show w2.heap.size ≤ g' by omega), z3⟩ ((ks_of_kp hk).mono fun _ _ z => by simp at z)) ?_
    · refine ⟨fun u u' hh hbb => ?_, fun u b hh hbb => ?_, fun u b hh hbb => ?_⟩
      · obtain ⟨a1, a2, a3, a4, a5⟩ := hh
        exact ⟨(hbb _ ⟨.inl rfl, a3⟩).trans a1, (priv_rm _ _ _).st _ _ a2 fun b hb => by rw [show b = v.2.1 from hb]; exact hbb _ ⟨.inr rfl, a4⟩, a3, a4, a5⟩
      · rcases hbb.1 with e | e
        · rw [e, hh.1]; rfl
        · exact (priv_rm _ _ _).np _ _ hh.2.1 e
      · rcases hbb.1 with e | e
        · rw [e]; exact lt_of_block hh.1
        · rw [e]; exact hh.2.1.lt
    rintro x3 ⟨bp, bn, cn⟩ w3 _ hx ⟨hP3, hbn3, zp, zn, zne⟩ k3 D3
    simp only at hP3 hbn3 zp zn zne
    have A3 := A2.made D3 k3
    clear hx0 hx1 hx2 hx7 hx9 hx10 hx11 hx12 hx13 hx17 hx18
    have cbp : col bp = .main := A2.crew.desk.lay.above bp zp
    have cbn : col bn = .main := A2.crew.desk.lay.above bn zn
    have n1 : bp ≠ bv := fun e => by
      have := (priv_rwY _ _ _ _ _ _).lt _ _ A2.ws (show bv ∈ blk (.slice (some ⟨bv, 0, none⟩) M cv) by rw [blk_some]; simp)
      omega
    have n2 : bn ≠ ba := fun e => by
      have := (priv_rwY _ _ _ _ _ _).lt _ _ A2.all (show ba ∈ blk (.slice (some ⟨ba, 0, none⟩) M ca) by rw [blk_some]; simp)
      omega
    have n3 : bn ≠ bv := fun e => by
      have := (priv_rwY _ _ _ _ _ _).lt _ _ A2.ws (show bv ∈ blk (.slice (some ⟨bv, 0, none⟩) M cv) by rw [blk_some]; simp)
      omega
    obtain ⟨hx0, hx1, hx2, hx7, hx9, hx10, hx11, hx12, hx13, hx17, hx18, hx19, hx20, hx21, -⟩ := hx
    rw [e23]
    refine Win.seq ?_
    refine desk_allY A3.crew.desk A3.ar (stok_at rfl rfl (by simp) (by kernel_rfl)) (fun wt Q har hcell hQ => ap_q23 hx0 hx1 hx2 hx7 hx9 hx10 hx11 hx12 hx13 hx17 hx18 hx19 hx20 hx21 har fun a' hf => hQ a' wt hf (Kp.refl _ _)) fun x4 w4 hx k4 D4 => ?_
    have A4 := A3.made D4 k4
    have hP4 := k4.row (fun z => z) hP3
    have hbn4 : Rm w4 bn cn (stepW tc (g kk) s.ws) := (priv_rm _ _ _).st _ _ hbn3 fun b hb => k4.block b ((priv_rm _ _ _).lt _ _ hbn3 hb) fun z => z
    clear hx0 hx1 hx2 hx7 hx9 hx10 hx11 hx12 hx13 hx17 hx18 hx19 hx20 hx21
    obtain ⟨hx0, hx1, hx2, hx7, hx9, hx10, hx11, hx12, hx13, hx17, hx18, hx19, hx20, hx21, hx22, -⟩ := hx
    rw [e24]
    refine Win.seq ?_
    generalize hC4 : codeR (codeR (codeR (codeR (apB2 Try.f3)))) = C4
    generalize hK2 : apK2 Try.f3 = KK2
    generalize hQ20 : apQ20 Try.f3 = Q20
    simp only [apQ24, apB2, apX2, apS2, apR10, bodyOf, Try.f3, codeL, codeR, blockOf, loopOf, Option.getD_some, T287]
    simp only [hx0, hx1, hx2, hx7, hx9, hx10, hx11, hx12, hx13, hx17, hx18, hx19, hx20, hx21, hx22]
    refine Win.region ?_
    simp only [List.size_toArray, List.length_cons, List.length_nil, Nat.reduceAdd, List.range, List.range.loop]
    refine Win.pureOp (v := .slice (some ⟨ba, 0, none⟩) M ca) (.inl hb) rfl rfl (fun w => by rw [Sem.runT_eq]; simp [go_sem, execOp, Act.eval]; try (first | omega | rfl | exact ⟨rfl, rfl⟩ | kernel_rfl)) ?_
    simp only [Act.put, Act.eval, gqA, gqZ, gqS, Option.bind_some, gtA, gtZ, gtS, siA, scS, scZ]
    refine Win.pureOp (v := .int .i64 kk) (.inl hb) rfl rfl (fun w => by rw [Sem.runT_eq]; simp [go_sem, execOp, Act.eval]; try (first | omega | rfl | exact ⟨rfl, rfl⟩ | kernel_rfl)) ?_
    simp only [Act.put, Act.eval, gqA, gqZ, gqS, Option.bind_some, gtA, gtZ, gtS, siA, scS, scZ]
    refine Win.pureOp (v := .pointer (some ⟨ba, kk, none⟩)) (.inl hb) rfl rfl (fun w => op_index_agY ba kk M ca hkM rfl rfl rfl) ?_
    simp only [Act.put, Act.eval, gqA, gqZ, gqS, Option.bind_some, gtA, gtZ, gtS, siA, scS, scZ]
    refine Win.lookOp (v := .pointer (some ⟨(ag kk).p, 0, none⟩)) (ad := ⟨ba, kk, none⟩) (x := .pointer (some ⟨(ag kk).p, 0, none⟩)) (.inl hb) rfl rfl (A4.agent rfl hkM) (fun w hc => by rw [Sem.runT_eq]; simp [go_sem, execOp, Act.eval, hc]) ?_
    simp only [Act.put, Act.eval, gqA, gqZ, gqS, Option.bind_some, gtA, gtZ, gtS, siA, scS, scZ]
    refine Win.enter (f := 15) (args := #[.pointer (some ⟨(ag kk).p, 0, none⟩)]) (.inl hb) rfl rfl (fun d => ⟨#[], call_enter mild.toMild Try.func15 rfl rfl rfl rfl _ _ (by simp [Act.eval]), fun e he => by simp at he⟩) ?_
    refine ap_step A4.crew hkM (x := tc) (by rw [hlp]; exact htc) A4.ar (by rw [A4.len]; omega) (by omega) A4.bnd fun pl5 F5 col5 w5 s5 C5 ar5 hs5 ht5 ks5 sm5 => ?_
    have A5 := A4.stepped hkM (by rw [hlp]; exact htc) C5 ar5 hs5 ks5 sm5
    have hP5 := ks5.row (main_notY cbp) hP4
    have hbn5 : Rm w5 bn cn s5.ws := by
      rw [hs5]
      exact (priv_rm _ _ _).st _ _ hbn4 fun b hb => by
        rw [show b = bn from hb]; exact ks5.block bn hbn4.lt (main_notY cbn)
    have cbp5 : col5 bp = .main := (sm5.co bp (lt_of_block hP4)).trans cbp
    have cbn5 : col5 bn = .main := (sm5.co bn hbn4.lt).trans cbn
    have hlen := A.len
    rw [hlen] at ht5
    rw [Frame.finish_at]
    simp only [Act.put, Act.eval, gqA, gqZ, gqS, Option.bind_some, gtA, gtZ, gtS, siA, scS, scZ]
    refine Win.pureOp (v := .int .i64 0) (.inl hb) rfl rfl (fun w => by rw [Sem.runT_eq]; simp [go_sem, execOp, Act.eval]; try (first | omega | rfl | exact ⟨rfl, rfl⟩ | kernel_rfl)) ?_
    simp only [Act.put, Act.eval, gqA, gqZ, gqS, Option.bind_some, gtA, gtZ, gtS, siA, scS, scZ]
    refine Win.opsEnd ?_
    refine win_slotsY (K := [(0, .int .u8 wd), (1, .slice ao M cl), (2, .slice (some ⟨bO, oo, none⟩) K co), (7, .pointer (some ⟨pA, 0, none⟩)), (9, .slice (some ⟨ba, 0, none⟩) M ca), (10, .slice (some ⟨bv, 0, none⟩) M cv), (11, .slice (some ⟨bl, 0, none⟩) M M), (12, .slice (some ⟨bm, 0, none⟩) wd cm), (13, .bool true), (17, .int .i64 i), (18, .int .i64 kk), (19, .pointer (some ⟨bp, 0, none⟩)), (20, .slice (some ⟨bn, 0, none⟩) wd cn), (21, .bool true), (22, .int .u64 s.t), (23, .int .i64 0)]) rfl ⟨rfl, rfl, rfl, rfl, rfl, rfl, rfl, rfl, rfl, rfl, rfl, rfl, rfl, rfl, rfl, rfl, trivial⟩ fun x6 hx => ?_
    subst hC4 hK2 hQ20
    refine ap_after (bp := bp) (bn := bn) (cn := cn) (is := true) (th := decide (0 ≤ tc.2.1 ∧ tc.2.1 < wd)) (t := s.t) (f := 0) (p := p) A5 hx hkM hi hK hM5 hw1 h20 hgp hT ?_ cbp5 hbn5 cbn5 n1 n2 n3 (fun j hj => ⟨by simp [hj], setF_ne _ _ hj⟩) (.inr ⟨rfl, tc, htc, rfl⟩) (fun z => by cases z) rfl ?_ ⟨by omega, by omega⟩ fun w' x' A' hx' => H bn cn _ _ s5 pl5 F5 col5 w' x' A' (by rw [ht5]; split <;> omega) hx'
    · simp only [if_true]
      rw [setF_at]
      exact hP5
    · rw [ht5]
      by_cases hin : 0 ≤ tc.2.1 ∧ tc.2.1 < (wd : Int)
      · rw [if_pos hin, decide_eq_true hin]; simp
      · rw [if_neg hin, decide_eq_false hin]; simp
  · have hend : dn kk = p.l.length := by omega
    refine A2.crew.desk.pieceY (own := fun _ => False) (S := fun _ => False) (A := fun _ => True) (Priv.const True) trivial (fun _ h => h.elim) (ι := Nat) (own' := fun v b => b = v ∧ w2.heap.size ≤ b) (A' := fun v w' => w'.heap[v]? = some (.cells #[p.v, .int .i64 (dn kk), .int .u64 (g kk)] 42 (0, 0)) ∧ w2.heap.size ≤ v) (fun v => ?_) (K' := fun v => [(0, .int .u8 wd), (1, .slice ao M cl), (2, .slice (some ⟨bO, oo, none⟩) K co), (7, .pointer (some ⟨pA, 0, none⟩)), (9, .slice (some ⟨ba, 0, none⟩) M ca), (10, .slice (some ⟨bv, 0, none⟩) M cv), (11, .slice (some ⟨bl, 0, none⟩) M M), (12, .slice (some ⟨bm, 0, none⟩) wd cm), (13, .bool true), (17, .int .i64 i), (18, .int .i64 kk), (19, .pointer (some ⟨v, 0, none⟩)), (20, .slice (some ⟨bm, 0, none⟩) wd cm), (21, .bool false)]) (stok_at rfl rfl (by simp) (by kernel_rfl)) (fun wt Q h1 h2 h3 hQ => ap_q22_end hx0 hx1 hx2 hx7 hx9 hx10 hx11 hx12 hx13 hx17 hx18 hkM ((h3 _).trans r0) ((h3 _).trans r1) ((h3 _).trans r2) hend (by omega) fun a' w' bp hf hr z1 hk => hQ a' bp w' (fun y hy => .inr ⟨by have z := hy.2; omega, by rw [hy.1]; exact lt_of_block hr⟩) hf ⟨hr, (show w2.heap.size ≤ bp by omega)⟩ ((ks_of_kp hk).mono fun _ _ z => by simp at z)) ?_
    · refine ⟨fun u u' hh hbb => ⟨(hbb _ ⟨rfl, hh.2⟩).trans hh.1, hh.2⟩, fun u b hh hbb => ?_, fun u b hh hbb => ?_⟩
      · rw [hbb.1, hh.1]; rfl
      · rw [hbb.1]; exact lt_of_block hh.1
    rintro x3 bp w3 _ hx ⟨hP3, zp⟩ k3 D3
    have A3 := A2.made D3 k3
    clear hx0 hx1 hx2 hx7 hx9 hx10 hx11 hx12 hx13 hx17 hx18
    have cbp : col bp = .main := A2.crew.desk.lay.above bp zp
    have n1 : bp ≠ bv := fun e => by
      have := (priv_rwY _ _ _ _ _ _).lt _ _ A2.ws (show bv ∈ blk (.slice (some ⟨bv, 0, none⟩) M cv) by rw [blk_some]; simp)
      omega
    have n2 : bm ≠ ba := fun e => A2.ma (by rw [e, blk_some]; simp)
    have n3 : bm ≠ bv := fun e => A2.mw (by rw [e, blk_some]; simp)
    obtain ⟨hx0, hx1, hx2, hx7, hx9, hx10, hx11, hx12, hx13, hx17, hx18, hx19, hx20, hx21, -⟩ := hx
    rw [e23]
    refine Win.seq ?_
    refine desk_allY A3.crew.desk A3.ar (stok_at rfl rfl (by simp) (by kernel_rfl)) (fun wt Q har hcell hQ => ap_q23 hx0 hx1 hx2 hx7 hx9 hx10 hx11 hx12 hx13 hx17 hx18 hx19 hx20 hx21 har fun a' hf => hQ a' wt hf (Kp.refl _ _)) fun x4 w4 hx k4 D4 => ?_
    have A4 := A3.made D4 k4
    have hP4 := k4.row (fun z => z) hP3
    clear hx0 hx1 hx2 hx7 hx9 hx10 hx11 hx12 hx13 hx17 hx18 hx19 hx20 hx21
    obtain ⟨hx0, hx1, hx2, hx7, hx9, hx10, hx11, hx12, hx13, hx17, hx18, hx19, hx20, hx21, hx22, -⟩ := hx
    rw [e24]
    refine Win.seq ?_
    generalize hC4 : codeR (codeR (codeR (codeR (apB2 Try.f3)))) = C4
    generalize hK2 : apK2 Try.f3 = KK2
    generalize hQ20 : apQ20 Try.f3 = Q20
    simp only [apQ24, apB2, apX2, apS2, apR10, bodyOf, Try.f3, codeL, codeR, blockOf, loopOf, Option.getD_some, T287]
    simp only [hx0, hx1, hx2, hx7, hx9, hx10, hx11, hx12, hx13, hx17, hx18, hx19, hx20, hx21, hx22]
    refine Win.region ?_
    simp only [List.size_toArray, List.length_cons, List.length_nil, Nat.reduceAdd, List.range, List.range.loop]
    refine Win.pureOp (v := .slice (some ⟨ba, 0, none⟩) M ca) (.inl hb) rfl rfl (fun w => by rw [Sem.runT_eq]; simp [go_sem, execOp, Act.eval]; try (first | omega | rfl | exact ⟨rfl, rfl⟩ | kernel_rfl)) ?_
    simp only [Act.put, Act.eval, gqA, gqZ, gqS, Option.bind_some, gtA, gtZ, gtS, siA, scS, scZ]
    refine Win.pureOp (v := .int .i64 kk) (.inl hb) rfl rfl (fun w => by rw [Sem.runT_eq]; simp [go_sem, execOp, Act.eval]; try (first | omega | rfl | exact ⟨rfl, rfl⟩ | kernel_rfl)) ?_
    simp only [Act.put, Act.eval, gqA, gqZ, gqS, Option.bind_some, gtA, gtZ, gtS, siA, scS, scZ]
    refine Win.pureOp (v := .pointer (some ⟨ba, kk, none⟩)) (.inl hb) rfl rfl (fun w => op_index_agY ba kk M ca hkM rfl rfl rfl) ?_
    simp only [Act.put, Act.eval, gqA, gqZ, gqS, Option.bind_some, gtA, gtZ, gtS, siA, scS, scZ]
    refine Win.lookOp (v := .pointer (some ⟨(ag kk).p, 0, none⟩)) (ad := ⟨ba, kk, none⟩) (x := .pointer (some ⟨(ag kk).p, 0, none⟩)) (.inl hb) rfl rfl (A4.agent rfl hkM) (fun w hc => by rw [Sem.runT_eq]; simp [go_sem, execOp, Act.eval, hc]) ?_
    simp only [Act.put, Act.eval, gqA, gqZ, gqS, Option.bind_some, gtA, gtZ, gtS, siA, scS, scZ]
    refine Win.enter (f := 15) (args := #[.pointer (some ⟨(ag kk).p, 0, none⟩)]) (.inl hb) rfl rfl (fun d => ⟨#[], call_enter mild.toMild Try.func15 rfl rfl rfl rfl _ _ (by simp [Act.eval]), fun e he => by simp at he⟩) ?_
    have h6 := A4.over hkM
    rw [hlp, decide_eq_true (show p.l.length ≤ dn kk by omega)] at h6
    refine Win.calls mild D4.lies (stok_at rfl rfl (by simp) (by kernel_rfl)) (R := fun e w' => e = .returned (.int .i64 6) ∧ Ks (fun _ => False) (D4.lies.veil.world (fun _ _ => 0) 0 w4) w') (fun τ => (step_over _ (ag kk).p (by rw [veil_cell]; exact h6)).mono (by rintro e w' ⟨h1, h2⟩; exact ⟨h1, ks_twin0 h2.ks0⟩)) (fun e w' h => ⟨_, h.1⟩) ?_
    intro v' w5 τ Dd hok' hVOK hVK hR
    obtain ⟨hv, hku⟩ := hR
    obtain rfl : v' = .int .i64 6 := by simpa using hv
    have ks5 := ks_of_twin D4.lies hVOK hVK hku
    have D5 := D4.turned (D4.lies.keeps hVK hVOK) ks5.size
    have A5 := A4.made D5 ks5
    have hP5 := ks5.row (fun z => z) hP4
    clear hv hku hok' hVOK hVK
    rw [Frame.finish_at]
    simp only [Act.put, Act.eval, gqA, gqZ, gqS, Option.bind_some, gtA, gtZ, gtS, siA, scS, scZ]
    refine Win.pureOp (v := .int .i64 6) (.inl hb) rfl rfl (fun w => by rw [Sem.runT_eq]; simp [go_sem, execOp, Act.eval]; try (first | omega | rfl | exact ⟨rfl, rfl⟩ | kernel_rfl)) ?_
    simp only [Act.put, Act.eval, gqA, gqZ, gqS, Option.bind_some, gtA, gtZ, gtS, siA, scS, scZ]
    refine Win.opsEnd ?_
    refine win_slotsY (K := [(0, .int .u8 wd), (1, .slice ao M cl), (2, .slice (some ⟨bO, oo, none⟩) K co), (7, .pointer (some ⟨pA, 0, none⟩)), (9, .slice (some ⟨ba, 0, none⟩) M ca), (10, .slice (some ⟨bv, 0, none⟩) M cv), (11, .slice (some ⟨bl, 0, none⟩) M M), (12, .slice (some ⟨bm, 0, none⟩) wd cm), (13, .bool true), (17, .int .i64 i), (18, .int .i64 kk), (19, .pointer (some ⟨bp, 0, none⟩)), (20, .slice (some ⟨bm, 0, none⟩) wd cm), (21, .bool false), (22, .int .u64 s.t), (23, .int .i64 6)]) rfl ⟨rfl, rfl, rfl, rfl, rfl, rfl, rfl, rfl, rfl, rfl, rfl, rfl, rfl, rfl, rfl, rfl, trivial⟩ fun x6 hx => ?_
    subst hC4 hK2 hQ20
    exact ap_after (bp := bp) (bn := bm) (cn := cm) (is := false) (th := false) (t := s.t) (f := 6) (p := p) A5 hx hkM hi hK hM5 hw1 h20 hgp hT hP5 cbp A5.rm A5.rmc n1 n2 n3 (fun j hj => ⟨rfl, rfl⟩) (.inl ⟨rfl, rfl⟩) (fun _ => ⟨rfl, by omega⟩) rfl (by simp) ⟨by omega, by omega⟩ fun w' x' A' hx' => H bm cm _ _ s pl F col w' x' A' (by omega) hx'

/-- THE SECOND LOOP: the agents step in whatever order. -/
theorem ap_loop2 {args : Array Value} {ao bo : Option Addr} {cl K co ba ca bv cv : Nat} (hK : K ≤ 150) (hM1 : 1 ≤ M) (hM5 : M ≤ 5) (hw1 : 1 ≤ wd) (h20 : wd ≤ 20) (hL : Progs W ao L) (hLM : M = L.length) (hl20 : ∀ p ∈ L, p.l.length ≤ 20)
    (hor : ∀ i, i < K → ∃ bO oo d, bo = some ⟨bO, oo, none⟩ ∧ W.cell? ⟨bO, oo + i, none⟩ = some (.int .u8 d) ∧ 0 ≤ d ∧ d ≤ 255)
    (H : ∀ bm cm dn pl F col w g s (x : Nat → Value), ApT Post W pA rA bl bm cm M wd L ag dn dn g s.ws (.slice (some ⟨ba, 0, none⟩) M ca) (.slice (some ⟨bv, 0, none⟩) M cv) pl F col w g s → s.t ≤ 3000 → HasY x [(7, .pointer (some ⟨pA, 0, none⟩)), (9, .slice (some ⟨ba, 0, none⟩) M ca), (13, .bool true)] → Win Try.prog Post pl N 0 (gor ((Frame.enter Try.prog 3 args .normal).at ⟨T287 x, []⟩ [.code (apR11 Try.f3)]) []) w) :
    ∀ e i, i + e = K → ∀ bm cm dn pl F col w g s (x : Nat → Value), ApT Post W pA rA bl bm cm M wd L ag dn dn g s.ws (.slice (some ⟨ba, 0, none⟩) M ca) (.slice (some ⟨bv, 0, none⟩) M cv) pl F col w g s → s.t ≤ i → HasY x [(0, .int .u8 wd), (1, .slice ao M cl), (2, .slice bo K co), (7, .pointer (some ⟨pA, 0, none⟩)), (9, .slice (some ⟨ba, 0, none⟩) M ca), (10, .slice (some ⟨bv, 0, none⟩) M cv), (11, .slice (some ⟨bl, 0, none⟩) M M), (12, .slice (some ⟨bm, 0, none⟩) wd cm), (13, .bool true), (17, .int .i64 i)] →
      Win Try.prog Post pl N 0 (gor ((Frame.enter Try.prog 3 args .normal).at ⟨T287 x, []⟩ (.code (apX2 Try.f3) :: apK2 Try.f3)) []) w := by
  intro e
  induction e with
  | zero =>
    intro i hi bm cm dn pl F col w g s x A ht hx
    obtain rfl : i = K := by omega
    have e19 : apX2 Try.f3 = .seq (apQ19 Try.f3) (.seq (.block 3 (apB2 Try.f3)) (apQ20 Try.f3)) := by kernel_rfl
    obtain ⟨hx0, hx1, hx2, hx7, hx9, hx10, hx11, hx12, hx13, hx17, -⟩ := hx
    rw [show (Item.code (apX2 Try.f3) :: apK2 Try.f3) = .code (.seq (apQ19 Try.f3) (.seq (.block 3 (apB2 Try.f3)) (apQ20 Try.f3))) :: apK2 Try.f3 by rw [← e19]]
    refine Win.seq ?_
    have he : ∀ X : Code, exitTo 2 (.code X :: apK2 Try.f3) = some [.code (apR11 Try.f3)] := fun X => rfl
    refine desk_exitY A.crew.desk (he _) (stok_at rfl rfl (by simp) (by kernel_rfl)) (fun wt Q hQ => ap_q19_end hx0 hx1 hx2 hx7 hx9 hx10 hx11 hx12 hx13 hx17 rfl hK hM1 hM5 hQ) fun x1 w1 hx k1 D1 => ?_
    obtain ⟨-, -, -, y7, y9, -, -, -, y13, -⟩ := hx
    exact H bm cm dn pl F col w1 g s x1 (A.made D1 k1) (by omega) ⟨y7, y9, y13, trivial⟩
  | succ e ih =>
    intro i hi bm cm dn pl F col w g s x A ht hx
    obtain ⟨bO, oo, d, hbo, hcl, hd⟩ := hor i (by omega)
    subst hbo
    refine ap_turn A hx (by omega) hK hM1 hM5 hw1 h20 hL hLM hl20 hd (in_cell A.crew.sh.2 hcl) (by omega) fun bm' cm' dn' g' s' pl' F' col' w' x' A' ht' hx' => ?_
    exact Win.inLoop (ih (i + 1) (by omega) bm' cm' dn' pl' F' col' w' g' s' x' A' (by omega) hx')
end
end Go.Proofs.Ytnbibpmhmffmpaa

namespace Go.Proofs.Ytnbibpmhmffmpaa
open List renaming getElem_toArray → gtA, getElem_cons_zero → gtZ, getElem_cons_succ → gtS, setIfInBounds_toArray → siA, set_cons_succ → scS, set_cons_zero → scZ, getElem?_toArray → gqA, getElem?_cons_zero → gqZ, getElem?_cons_succ → gqS
set_option linter.unusedVariables false
set_option linter.unusedSimpArgs false
set_option maxRecDepth 100000
open Go.RowKit
open Go.Conc
open Go.ConcN (upd_ne upd_same)

theorem stop_overY (w : World) (p : Nat) (h6 : w.cell? ⟨p, 6, none⟩ = some (.bool true)) : Calls Try.prog 18 #[.pointer (some ⟨p, 0, none⟩)] w fun e w' => e = .returned (.tuple #[]) ∧ w' = w := by
  go_enter Try.func18, Try.ntmps18
  go_wp2_with (go_at_call 16; refine (done_at _ p true h6).mono ?_; rintro e w1 ⟨rfl, rfl⟩)
  simp [bodyPost, results, Try.results18]
theorem ks_inw {W w : World} (h : Ks (poorless W) W w) (hi : InW W w) : Ks (fun _ => False) W w := ⟨h.os, h.output, h.size, fun k hk _ => by
  by_cases hp : poorless W k
  · exact hi k hp
  · exact h.block k hk hp⟩

def apS3 (f : Func) : Code := codeL (apR12 f)
def apX3 (f : Func) : Code := loopOf (blockOf (codeR (apS3 f)))
def apB3 (f : Func) : Code := blockOf (codeL (codeR (apX3 f)))
def apK3 (f : Func) : List Item := [.inLoop (apX3 f), .inBlock 6, .code (apR13 f)]
def apQ34 (f : Func) : Code := codeL (apR11 f)
def apQ35 (f : Func) : Code := codeL (apS3 f)
def apQ36 (f : Func) : Code := codeL (apX3 f)
def apQ37 (f : Func) : Code := codeR (codeR (apX3 f))
def apQ38 (f : Func) : Code := codeL (apB3 f)
def apQ39 (f : Func) : Code := codeR (apB3 f)
section
variable {x : Nat → Value} {wt : World} {Q : Exit → Act → World → Prop} {pA rA ba M ca i p : Nat} {t : Int} {va : Value}
theorem ap_q34 (hx7 : x 7 = .pointer (some ⟨pA, 0, none⟩)) (hx9 : x 9 = va) (hx13 : x 13 = .bool true) {s : St} (ha : Ar wt pA rA s) (hQ : ∀ a', FrY [(7, .pointer (some ⟨pA, 0, none⟩)), (9, va), (13, .bool true), (27, .int .u64 s.t)] a' → Q (.normal) a' wt) : (apQ34 Try.f3).wp Try.prog Q ⟨T287 x, []⟩ wt := by
  have HQ := Lib.hid hQ
  have HN := Lib.hid (touched_any wt pA rA s ha)
  clear ha
  clear hQ
  simp only [apQ34, apB3, apX3, apS3, apR13, apR12, apR11, bodyOf, Try.f3, codeL, codeR, blockOf, loopOf, Option.getD_some, T287]
  simp only [hx7, hx9, hx13]
  go_wp2_with fail
  refine HN.out.mono ?_
  rintro e w1 ⟨rfl, rfl⟩
  go_wp2
  exact HQ.out _ ⟨rfl, rfl, ⟨rfl, rfl, rfl, rfl, trivial⟩⟩

theorem ap_q35 (hx7 : x 7 = .pointer (some ⟨pA, 0, none⟩)) (hx9 : x 9 = va) (hx13 : x 13 = .bool true) (hx27 : x 27 = .int .u64 t)  (hQ : ∀ a', FrY [(7, .pointer (some ⟨pA, 0, none⟩)), (9, va), (13, .bool true), (27, .int .u64 t), (28, .int .i64 0)] a' → Q (.normal) a' wt) : (apQ35 Try.f3).wp Try.prog Q ⟨T287 x, []⟩ wt := by
  have HQ := Lib.hid hQ
  clear hQ
  simp only [apQ35, apB3, apX3, apS3, apR13, apR12, apR11, bodyOf, Try.f3, codeL, codeR, blockOf, loopOf, Option.getD_some, T287]
  simp only [hx7, hx9, hx13, hx27]
  go_wp2
  exact HQ.out _ ⟨rfl, rfl, ⟨rfl, rfl, rfl, rfl, rfl, trivial⟩⟩

theorem ap_q36 (hx7 : x 7 = .pointer (some ⟨pA, 0, none⟩)) (hx9 : x 9 = .slice (some ⟨ba, 0, none⟩) M ca) (hx13 : x 13 = .bool true) (hx27 : x 27 = .int .u64 t) (hx28 : x 28 = .int .i64 i) (hi : i < M) (hM5 : M ≤ 5) (hQ : ∀ a', FrY [(7, .pointer (some ⟨pA, 0, none⟩)), (9, .slice (some ⟨ba, 0, none⟩) M ca), (13, .bool true), (27, .int .u64 t), (28, .int .i64 i)] a' → Q (.normal) a' wt) : (apQ36 Try.f3).wp Try.prog Q ⟨T287 x, []⟩ wt := by
  have HQ := Lib.hid hQ
  clear hQ
  simp only [apQ36, apB3, apX3, apS3, apR13, apR12, apR11, bodyOf, Try.f3, codeL, codeR, blockOf, loopOf, Option.getD_some, T287]
  simp only [hx7, hx9, hx13, hx27, hx28]
  go_wp2
  exact HQ.out _ ⟨rfl, rfl, ⟨rfl, rfl, rfl, rfl, rfl, trivial⟩⟩

theorem ap_q36_end (hx7 : x 7 = .pointer (some ⟨pA, 0, none⟩)) (hx9 : x 9 = va) (hx13 : x 13 = .bool true) (hx27 : x 27 = .int .u64 t) (hx28 : x 28 = .int .i64 i) {q : Option Addr} {cc : Nat} (hva : va = .slice q M cc) (hi : i = M) (hM5 : M ≤ 5) (hQ : ∀ a', FrY [(7, .pointer (some ⟨pA, 0, none⟩)), (9, va), (13, .bool true), (27, .int .u64 t)] a' → Q (.exit 6) a' wt) : (apQ36 Try.f3).wp Try.prog Q ⟨T287 x, []⟩ wt := by
  have HQ := Lib.hid hQ
  subst hva
  clear hQ
  simp only [apQ36, apB3, apX3, apS3, apR13, apR12, apR11, bodyOf, Try.f3, codeL, codeR, blockOf, loopOf, Option.getD_some, T287]
  simp only [hx7, hx9, hx13, hx27, hx28]
  go_wp2
  exact HQ.out _ ⟨rfl, rfl, ⟨rfl, rfl, rfl, rfl, trivial⟩⟩

theorem ap_q37 (hx7 : x 7 = .pointer (some ⟨pA, 0, none⟩)) (hx9 : x 9 = .slice (some ⟨ba, 0, none⟩) M ca) (hx13 : x 13 = .bool true) (hx27 : x 27 = .int .u64 t) (hx28 : x 28 = .int .i64 i) (hi : i < M) (hM5 : M ≤ 5) (hQ : ∀ a', FrY [(7, .pointer (some ⟨pA, 0, none⟩)), (9, .slice (some ⟨ba, 0, none⟩) M ca), (13, .bool true), (27, .int .u64 t), (28, .int .i64 ((i + 1 : Nat) : Int))] a' → Q (.normal) a' wt) : (apQ37 Try.f3).wp Try.prog Q ⟨T287 x, []⟩ wt := by
  have HQ := Lib.hid hQ
  have hw := wrap_small (i := i) (by omega)
  clear hQ
  simp only [apQ37, apB3, apX3, apS3, apR13, apR12, apR11, bodyOf, Try.f3, codeL, codeR, blockOf, loopOf, Option.getD_some, T287]
  simp only [hx7, hx9, hx13, hx27, hx28]
  go_wp2
  exact HQ.out _ ⟨rfl, rfl, ⟨rfl, rfl, rfl, rfl, rfl, trivial⟩⟩

theorem ap_q39 (hx7 : x 7 = .pointer (some ⟨pA, 0, none⟩)) (hx9 : x 9 = .slice (some ⟨ba, 0, none⟩) M ca) (hx13 : x 13 = .bool true) (hx27 : x 27 = .int .u64 t) (hx28 : x 28 = .int .i64 i) (hi : i < M) (hag : wt.cell? ⟨ba, i, none⟩ = some (.pointer (some ⟨p, 0, none⟩))) (hov : wt.cell? ⟨p, 6, none⟩ = some (.bool true)) (hQ : ∀ a' w', FrY [(7, .pointer (some ⟨pA, 0, none⟩)), (9, .slice (some ⟨ba, 0, none⟩) M ca), (13, .bool true), (27, .int .u64 t), (28, .int .i64 i)] a' → Kp [] wt w' → Q .normal a' w') : (apQ39 Try.f3).wp Try.prog Q ⟨T287 x, []⟩ wt := by
  have HQ := Lib.hid hQ
  have HD := Lib.hid (done_at wt p true hov)
  have HS := Lib.hid (step_over wt p hov)
  clear hQ hov
  simp only [apQ39, apB3, apX3, apS3, apR13, apR12, apR11, bodyOf, Try.f3, codeL, codeR, blockOf, loopOf, Option.getD_some, T287]
  simp only [hx7, hx9, hx13, hx27, hx28]
  go_wp2_with fail
  refine HD.out.mono ?_
  rintro e w1 ⟨rfl, rfl⟩
  go_wp2_with fail
  refine HS.out.mono ?_
  rintro e w2 ⟨rfl, hk⟩
  have HK := Lib.hid hk
  clear hk HS HD
  go_wp2
  exact HQ.out _ _ ⟨rfl, rfl, ⟨rfl, rfl, rfl, rfl, rfl, trivial⟩⟩ HK.out
end

section
variable {Post : Value → World → Prop} {W : World} {pA rA bl bm cm M wd N : Nat} {L : List Pr} {ag : Nat → Ag} {dn dw : Nat → Nat} {lw : Nat → Int} {mws : List Int} {va vw : Value} {pl : Nat → Option Place} {F : Nat → Option (Nat × Nat)} {col : Nat → Col} {w w' : World} {g : Nat → Int} {s : St} {t : Int}

theorem ptree_ret {j : Nat} {l : List Tch} {q : Nat} {v : Int} (h : l.length ≤ q) : ptree (fun g : Nat → Int => g j) (setF j) (l.drop q) v = .ret := by
  rw [List.drop_eq_nil_iff.2 h]; rfl
/-- One was stopped. -/
theorem ApT.stopped {i : Nat} (A : ApT Post W pA rA bl bm cm M wd L ag dn dw lw mws va vw pl F col w g s) {pl' : Nat → Option Place} {F' : Nat → Option (Nat × Nat)} {col' : Nat → Col}
    (C : Crew Post (lastSh W bl M) (apSB W bl) pA rA (memV pA) 1 M ag (fun j => if j = i then .ret else ptree (fun g => g j) (setF j) ((lsP L j).drop (dn j)) (g j)) pl' F' col' w' g) (ks : Ks (fun b => col b = .ag (ag i).j ∨ col b = .sys (ag i).j ∨ col b = .shared) w w') (sm : Same F col w F' col') :
    ApT Post W pA rA bl bm cm M wd L ag (fun j => if j = i then (lsP L j).length else dn j) dw lw mws va vw pl' F' col' w' g s := by
  have e : (fun j => if j = i then (.ret : Tree (Nat → Int)) else ptree (fun g => g j) (setF j) ((lsP L j).drop (dn j)) (g j)) = fun j => ptree (fun g => g j) (setF j) ((lsP L j).drop (if j = i then (lsP L j).length else dn j)) (g j) := by
    funext j
    by_cases e : j = i
    · simp only [if_pos e]; rw [ptree_ret (Nat.le_refl _)]
    · simp only [if_neg e]
  rw [e] at C
  have hnm : ∀ b, col b = .main → ¬ (col b = .ag (ag i).j ∨ col b = .sys (ag i).j ∨ col b = .shared) := fun b hb z => by rw [hb] at z; rcases z with z | z | z <;> cases z
  have hna : ∀ b, col b = .arena → ¬ (col b = .ag (ag i).j ∨ col b = .sys (ag i).j ∨ col b = .shared) := fun b hb z => by rw [hb] at z; rcases z with z | z | z <;> cases z
  have hcM : ∀ b, col b = .main → b < w.heap.size → col' b = .main := fun b hb hlt => (sm.co b hlt).trans hb
  have hzW := A.ks.size
  have lva : ∀ b ∈ blk va, b < w.heap.size := fun b hb => (priv_rwY _ _ _ _ _ _).lt _ _ A.all hb
  have lvw : ∀ b ∈ blk vw, b < w.heap.size := fun b hb => (priv_rwY _ _ _ _ _ _).lt _ _ A.ws hb
  refine ⟨C, ⟨ks.row (hna _ A.crew.desk.lay.ar.1) A.ar.hp, ks.row (hna _ A.crew.desk.lay.ar.2) A.ar.hr⟩, (priv_rm _ _ _).st _ _ A.rm fun b hb => ?_, hcM _ A.rmc A.rm.lt, (priv_rwY _ _ _ _ _ _).st _ _ A.all fun b hb => ks.block b (lva b hb) (hnm b (A.allc b hb)), fun b hb => hcM b (A.allc b hb) (lva b hb), (priv_rwY _ _ _ _ _ _).st _ _ A.ws fun b hb => ks.block b (lvw b hb) (hnm b (A.wsc b hb)), fun b hb => hcM b (A.wsc b hb) (lvw b hb), A.dis, A.ma, A.mw, fun b hb => ?_, A.ks.then ks fun b hb z => ?_, A.len, A.bnd, fun j => ?_⟩
  · have hb' : b = bm := hb
    rw [hb']; exact ks.block bm A.rm.lt (hnm _ A.rmc)
  · rcases A.old b hb with h | ⟨h, h2⟩
    · exact .inl ((sm.co b (by omega)).trans h)
    · exact .inr ⟨(sm.co b (by omega)).trans h, h2⟩
  · rcases A.old b hb with h | ⟨h, h2⟩
    · exact absurd z (hnm b h)
    · exact h2
  · by_cases e : j = i
    · simp only [if_pos e]; exact Nat.le_refl _
    · simp only [if_neg e]; exact A.dle j

/-- A Stop, whatever the agent is. -/
theorem ap_stop {i : Nat} (A : ApT Post W pA rA bl bm cm M wd L ag dn dw lw mws va vw pl F col w g s) (hi : i < M) {c₀ : Frame} {cs : List Frame} (hok : StOK Try.prog c₀ [])
    (H : ∀ pl' F' col' w', ApT Post W pA rA bl bm cm M wd L ag (fun j => if j = i then (lsP L j).length else dn j) dw lw mws va vw pl' F' col' w' g s → Win Try.prog Post pl' N 0 (gor (c₀.finish (.tuple #[])) cs) w') :
    Win Try.prog Post pl N 0 (gor (Frame.enter Try.prog 18 #[.pointer (some ⟨(ag i).p, 0, none⟩)] .normal) (c₀ :: cs)) w := by
  rcases Nat.lt_or_ge (dn i) (lsP L i).length with z | z
  · have hnode : ∃ kk φ c nx, ptree (fun g : Nat → Int => g i) (setF i) ((lsP L i).drop (dn i)) (g i) = .node kk φ c nx (fun g => g) := by
      rw [List.drop_eq_getElem_cons z]
      obtain ⟨d, k, v⟩ := (lsP L i)[dn i]
      simp only [ptree]
      split
      · exact ⟨_, _, _, _, rfl⟩
      · split
        · exact ⟨_, _, _, _, rfl⟩
        · exact ⟨_, _, _, _, rfl⟩
    obtain ⟨kk, φ, c, nx, hT⟩ := hnode
    exact A.crew.stops (priv_last W bl M) hi hT fun pl' F' col' w' C' ks sm => H pl' F' col' w' (A.stopped C' ks sm)
  · have hst := A.crew.st i hi
    simp only [ptree_ret z] at hst
    obtain ⟨hpk, hSk⟩ := hst
    have D := A.crew.desk
    refine Win.calls mild D.lies hok (R := fun e w' => e = .returned (.tuple #[]) ∧ Ks (fun _ => False) (D.lies.veil.world (fun _ _ => 0) 0 w) w') (fun τ => (stop_overY _ (ag i).p (by rw [veil_cell]; exact cell_of_row hSk 6)).mono (by rintro e w' ⟨h1, rfl⟩; exact ⟨h1, ks_twin0 (Ks.refl _ _)⟩)) (fun e w' h => ⟨_, h.1⟩) ?_
    intro v' w2 τ Dd hok' hVOK hVK hR
    obtain ⟨hv, hku⟩ := hR
    obtain rfl : v' = .tuple #[] := by simpa using hv
    have ks2 := ks_of_twin D.lies hVOK hVK hku
    have A2 := A.made (D.turned (D.lies.keeps hVK hVOK) ks2.size) ks2
    refine H pl F col w2 { A2 with crew := ?_, dle := fun j => ?_ }
    · have e : (fun j => ptree (fun g : Nat → Int => g j) (setF j) ((lsP L j).drop (dn j)) (g j)) = fun j => ptree (fun g => g j) (setF j) ((lsP L j).drop (if j = i then (lsP L j).length else dn j)) (g j) := by
        funext j
        by_cases e : j = i
        · subst e; simp only [if_true]; rw [ptree_ret z, ptree_ret (Nat.le_refl _)]
        · simp only [if_neg e]
      have C2 := A2.crew
      rw [e] at C2
      exact C2
    · by_cases e : j = i
      · simp only [if_pos e]; exact Nat.le_refl _
      · simp only [if_neg e]; exact A.dle j

set_option maxHeartbeats 4000000 in
/-- A round of the last loop. -/
theorem ap_body3 {args : Array Value} {x : Nat → Value} {ba ca i : Nat} (A : ApT Post W pA rA bl bm cm M wd L ag dn dw lw mws (.slice (some ⟨ba, 0, none⟩) M ca) vw pl F col w g s) (hx : HasY x [(7, .pointer (some ⟨pA, 0, none⟩)), (9, .slice (some ⟨ba, 0, none⟩) M ca), (13, .bool true), (27, .int .u64 t), (28, .int .i64 i)]) (hi : i < M) (hM5 : M ≤ 5)
    (H : ∀ pl' F' col' w' (x' : Nat → Value), ApT Post W pA rA bl bm cm M wd L ag (fun j => if j = i then (lsP L j).length else dn j) dw lw mws (.slice (some ⟨ba, 0, none⟩) M ca) vw pl' F' col' w' g s → HasY x' [(7, .pointer (some ⟨pA, 0, none⟩)), (9, .slice (some ⟨ba, 0, none⟩) M ca), (13, .bool true), (27, .int .u64 t), (28, .int .i64 ((i + 1 : Nat) : Int))] → Win Try.prog Post pl' N 0 (gor ((Frame.enter Try.prog 3 args .normal).at ⟨T287 x', []⟩ (apK3 Try.f3)) []) w') :
    Win Try.prog Post pl N 0 (gor ((Frame.enter Try.prog 3 args .normal).at ⟨T287 x, []⟩ (.code (apX3 Try.f3) :: apK3 Try.f3)) []) w := by
  have hb : (Frame.enter Try.prog 3 args .normal).kind = .normal := rfl
  have e36 : apX3 Try.f3 = .seq (apQ36 Try.f3) (.seq (.block 7 (apB3 Try.f3)) (apQ37 Try.f3)) := by kernel_rfl
  have e38 : apB3 Try.f3 = .seq (apQ38 Try.f3) (apQ39 Try.f3) := by kernel_rfl
  obtain ⟨hx7, hx9, hx13, hx27, hx28, -⟩ := hx
  rw [show (Item.code (apX3 Try.f3) :: apK3 Try.f3) = .code (.seq (apQ36 Try.f3) (.seq (.block 7 (apB3 Try.f3)) (apQ37 Try.f3))) :: apK3 Try.f3 by rw [← e36]]
  refine Win.seq ?_
  refine desk_stillY A.crew.desk (stok_at rfl rfl (by simp) (by kernel_rfl)) (fun wt Q hQ => ap_q36 hx7 hx9 hx13 hx27 hx28 hi hM5 hQ) fun x1 w1 hx k1 D1 => ?_
  have A1 := A.made D1 k1
  clear hx7 hx9 hx13 hx27 hx28
  obtain ⟨hx7, hx9, hx13, hx27, hx28, -⟩ := hx
  refine Win.seq ?_
  refine Win.block ?_
  rw [e38]
  refine Win.seq ?_
  generalize hC4 : apQ39 Try.f3 = C4
  generalize hK3 : apK3 Try.f3 = KK3
  generalize hQ37 : apQ37 Try.f3 = Q37
  simp only [apQ38, apB3, apX3, apS3, apR12, bodyOf, Try.f3, codeL, codeR, blockOf, loopOf, Option.getD_some, T287]
  simp only [hx7, hx9, hx13, hx27, hx28]
  refine Win.region ?_
  simp only [List.size_toArray, List.length_cons, List.length_nil, Nat.reduceAdd, List.range, List.range.loop]
  refine Win.pureOp (v := .slice (some ⟨ba, 0, none⟩) M ca) (.inl hb) rfl rfl (fun w => by rw [Sem.runT_eq]; simp [go_sem, execOp, Act.eval]; try (first | omega | rfl | exact ⟨rfl, rfl⟩ | kernel_rfl)) ?_
  simp only [Act.put, Act.eval, gqA, gqZ, gqS, Option.bind_some, gtA, gtZ, gtS, siA, scS, scZ]
  refine Win.pureOp (v := .int .i64 i) (.inl hb) rfl rfl (fun w => by rw [Sem.runT_eq]; simp [go_sem, execOp, Act.eval]; try (first | omega | rfl | exact ⟨rfl, rfl⟩ | kernel_rfl)) ?_
  simp only [Act.put, Act.eval, gqA, gqZ, gqS, Option.bind_some, gtA, gtZ, gtS, siA, scS, scZ]
  refine Win.pureOp (v := .pointer (some ⟨ba, i, none⟩)) (.inl hb) rfl rfl (fun w => op_index_agY ba i M ca hi rfl rfl rfl) ?_
  simp only [Act.put, Act.eval, gqA, gqZ, gqS, Option.bind_some, gtA, gtZ, gtS, siA, scS, scZ]
  refine Win.lookOp (v := .pointer (some ⟨(ag i).p, 0, none⟩)) (ad := ⟨ba, i, none⟩) (x := .pointer (some ⟨(ag i).p, 0, none⟩)) (.inl hb) rfl rfl (A1.agent rfl hi) (fun w hc => by rw [Sem.runT_eq]; simp [go_sem, execOp, Act.eval, hc]) ?_
  simp only [Act.put, Act.eval, gqA, gqZ, gqS, Option.bind_some, gtA, gtZ, gtS, siA, scS, scZ]
  refine Win.enter (f := 18) (args := #[.pointer (some ⟨(ag i).p, 0, none⟩)]) (.inl hb) rfl rfl (fun d => ⟨#[], call_enter mild.toMild Try.func18 rfl rfl rfl rfl _ _ (by simp [Act.eval]), fun e he => by simp at he⟩) ?_
  refine ap_stop A1 hi (stok_at rfl rfl (by simp) (by kernel_rfl)) fun pl2 F2 col2 w2 A2 => ?_
  rw [Frame.finish_at]
  simp only [Act.put, Act.eval, gqA, gqZ, gqS, Option.bind_some, gtA, gtZ, gtS, siA, scS, scZ]
  refine Win.opsEnd ?_
  refine win_slotsY (K := [(7, .pointer (some ⟨pA, 0, none⟩)), (9, .slice (some ⟨ba, 0, none⟩) M ca), (13, .bool true), (27, .int .u64 t), (28, .int .i64 i)]) rfl ⟨rfl, rfl, rfl, rfl, rfl, trivial⟩ fun x5 hx => ?_
  subst hC4 hK3 hQ37
  have hov := A2.over hi
  simp only [if_true] at hov
  rw [decide_eq_true (Nat.le_refl _)] at hov
  have hag := A2.agent rfl hi
  obtain ⟨y7, y9, y13, y27, y28, -⟩ := hx
  refine desk_allY A2.crew.desk A2.ar (stok_at rfl rfl (by simp) (by kernel_rfl)) (fun wt Q har hcell hQ => ap_q39 y7 y9 y13 y27 y28 hi ((hcell _).trans hag) ((hcell _).trans hov) hQ) fun x6 w6 hx k6 D6 => ?_
  have A6 := A2.made D6 k6
  obtain ⟨hx7, hx9, hx13, hx27, hx28, -⟩ := hx
  refine Win.inBlock ?_
  exact desk_stillY A6.crew.desk (stok_at rfl rfl (by simp) (by kernel_rfl)) (fun wt Q hQ => ap_q37 hx7 hx9 hx13 hx27 hx28 hi hM5 hQ) fun x7 w7 hx k7 D7 => H pl2 F2 col2 w7 x7 (A6.made D7 k7) hx

/-- THE LAST LOOP: all are stopped. -/
theorem ap_loop3 {args : Array Value} (hM5 : M ≤ 5)
    (H : ∀ dn pl F col w (x : Nat → Value), ApT Post W pA rA bl bm cm M wd L ag dn dw lw mws va vw pl F col w g s → (∀ j, j < M → (lsP L j).length ≤ dn j) → HasY x [(7, .pointer (some ⟨pA, 0, none⟩)), (9, va), (13, .bool true), (27, .int .u64 t)] → Win Try.prog Post pl N 0 (gor ((Frame.enter Try.prog 3 args .normal).at ⟨T287 x, []⟩ [.code (apR13 Try.f3)]) []) w) :
    ∀ e i, i + e = M → ∀ dn pl F col w (x : Nat → Value), ApT Post W pA rA bl bm cm M wd L ag dn dw lw mws va vw pl F col w g s → (∀ j, j < i → (lsP L j).length ≤ dn j) → HasY x [(7, .pointer (some ⟨pA, 0, none⟩)), (9, va), (13, .bool true), (27, .int .u64 t), (28, .int .i64 i)] →
      Win Try.prog Post pl N 0 (gor ((Frame.enter Try.prog 3 args .normal).at ⟨T287 x, []⟩ (.code (apX3 Try.f3) :: apK3 Try.f3)) []) w := by
  intro e
  induction e with
  | zero =>
    intro i hi dn pl F col w x A h0 hx
    obtain rfl : i = M := by omega
    have e36 : apX3 Try.f3 = .seq (apQ36 Try.f3) (.seq (.block 7 (apB3 Try.f3)) (apQ37 Try.f3)) := by kernel_rfl
    obtain ⟨q, cc, hva⟩ := A.all.form
    obtain ⟨hx7, hx9, hx13, hx27, hx28, -⟩ := hx
    rw [show (Item.code (apX3 Try.f3) :: apK3 Try.f3) = .code (.seq (apQ36 Try.f3) (.seq (.block 7 (apB3 Try.f3)) (apQ37 Try.f3))) :: apK3 Try.f3 by rw [← e36]]
    refine Win.seq ?_
    have he : ∀ X : Code, exitTo 6 (.code X :: apK3 Try.f3) = some [.code (apR13 Try.f3)] := fun X => rfl
    exact desk_exitY A.crew.desk (he _) (stok_at rfl rfl (by simp) (by kernel_rfl)) (fun wt Q hQ => ap_q36_end hx7 hx9 hx13 hx27 hx28 hva rfl hM5 hQ) fun x1 w1 hx k1 D1 => H dn pl F col w1 x1 (A.made D1 k1) h0 hx
  | succ e ih =>
    intro i hi dn pl F col w x A h0 hx
    obtain ⟨ba, ca, hva, hca, _⟩ := A.all.at (show 0 < M by omega) (by decide)
    subst hva
    refine ap_body3 A hx (by omega) hM5 fun pl' F' col' w' x' A' hx' => ?_
    refine Win.inLoop (ih (i + 1) (by omega) _ pl' F' col' w' x' A' (fun j hj => ?_) hx')
    show (lsP L j).length ≤ (if j = i then (lsP L j).length else dn j)
    split
    · exact Nat.le_refl _
    · exact h0 j (by omega)

set_option maxHeartbeats 4000000 in
/-- THE END. -/
theorem ap_end {args : Array Value} {x : Nat → Value} (A : ApT Post W pA rA bl bm cm M wd L ag dn dw lw mws va vw pl F col w g s) (h0 : ∀ j, j < M → (lsP L j).length ≤ dn j) (hx : HasY x [(7, .pointer (some ⟨pA, 0, none⟩)), (9, va), (13, .bool true), (27, .int .u64 s.t)]) (hn : 0 < N) (hPost : ∀ w', Ks (fun _ => False) W w' → Post (.bool true) w') :
    Win Try.prog Post pl N 0 (gor ((Frame.enter Try.prog 3 args .normal).at ⟨T287 x, []⟩ [.code (apR13 Try.f3)]) []) w := by
  have hb : (Frame.enter Try.prog 3 args .normal).kind = .normal := rfl
  have hpl : ∀ i, pl i = none := fun i => by
    rcases Nat.lt_or_ge i 1 with z | z
    · obtain rfl : i = 0 := by omega
      exact A.crew.desk.pl0
    · rcases Nat.lt_or_ge i (1 + M) with z2 | z2
      · have hst := A.crew.st (i - 1) (by omega)
        simp only [ptree_ret (h0 (i - 1) (by omega))] at hst
        have hj := A.crew.num (i - 1) (by omega)
        have := hst.1
        rw [hj, show 1 + (i - 1) = i from by omega] at this
        exact this
      · exact A.crew.out i z2
  have D := A.crew.desk
  have hA := A.ar
  obtain ⟨hx7, hx9, hx13, hx27, -⟩ := hx
  simp only [apR13, bodyOf, Try.f3, codeR, Option.getD_some, T287]
  simp only [hx7, hx9, hx13, hx27]
  refine Win.seq ?_
  refine Win.region ?_
  simp only [List.size_toArray, List.length_cons, List.length_nil, Nat.reduceAdd, List.range, List.range.loop]
  refine Win.pureOp (v := .bool true) (.inl hb) rfl rfl (fun w => by rw [Sem.runT_eq]; simp [go_sem, execOp, Act.eval]; try (first | omega | rfl | exact ⟨rfl, rfl⟩ | kernel_rfl)) ?_
  simp only [Act.put, Act.eval, gqA, gqZ, gqS, Option.bind_some, gtA, gtZ, gtS, siA, scS, scZ]
  refine Win.pureOp (v := .bool true) (.inl hb) rfl rfl (fun w => by rw [Sem.runT_eq]; simp [go_sem, execOp, Act.eval]; try (first | omega | rfl | exact ⟨rfl, rfl⟩ | kernel_rfl)) ?_
  simp only [Act.put, Act.eval, gqA, gqZ, gqS, Option.bind_some, gtA, gtZ, gtS, siA, scS, scZ]
  refine Win.pureOp (v := .pointer (some ⟨pA, 0, none⟩)) (.inl hb) rfl rfl (fun w => by rw [Sem.runT_eq]; simp [go_sem, execOp, Act.eval]; try (first | omega | rfl | exact ⟨rfl, rfl⟩ | kernel_rfl)) ?_
  simp only [Act.put, Act.eval, gqA, gqZ, gqS, Option.bind_some, gtA, gtZ, gtS, siA, scS, scZ]
  refine Win.enter (f := 14) (args := #[.pointer (some ⟨pA, 0, none⟩)]) (.inl hb) rfl rfl (fun d => ⟨#[], call_enter mild.toMild Try.func14 rfl rfl rfl rfl _ _ (by simp [Act.eval]), fun e he => by simp at he⟩) ?_
  refine Win.calls mild D.lies (stok_at rfl rfl (by simp) (by kernel_rfl)) (R := fun e w' => e = .returned (.int .u64 s.t) ∧ Ks (fun _ => False) (D.lies.veil.world (fun _ _ => 0) 0 w) w') (fun τ => ?_) (fun e w' h => ⟨_, h.1⟩) ?_
  · have ha : Ar (D.lies.veil.world τ 0 w) pA rA s := ⟨(D.lies.block (D.lay.free pA (by rw [D.lay.ar.1]; rfl))).2 hA.hp, (D.lies.block (D.lay.free rA (by rw [D.lay.ar.2]; rfl))).2 hA.hr⟩
    refine (touched_any _ pA rA s ha).mono ?_
    rintro e w' ⟨h1, rfl⟩
    exact ⟨h1, ks_twin0 (Ks.refl _ _)⟩
  intro v' w2 τ Dd hok' hVOK hVK hR
  obtain ⟨hv, hku⟩ := hR
  obtain rfl : v' = .int .u64 s.t := by simpa using hv
  have ks2 := ks_of_twin D.lies hVOK hVK hku
  have kW : Ks (fun _ => False) W w2 := (ks_inw A.ks A.crew.sh.2).trans ks2
  clear hv hku hok' hVOK hVK
  rw [Frame.finish_at]
  simp only [Act.put, Act.eval, gqA, gqZ, gqS, Option.bind_some, gtA, gtZ, gtS, siA, scS, scZ]
  refine Win.pureOp (v := .int .u64 s.t) (.inl hb) rfl rfl (fun w => by rw [Sem.runT_eq]; simp [go_sem, execOp, Act.eval]; try (first | omega | rfl | exact ⟨rfl, rfl⟩ | kernel_rfl)) ?_
  simp only [Act.put, Act.eval, gqA, gqZ, gqS, Option.bind_some, gtA, gtZ, gtS, siA, scS, scZ]
  refine Win.pureOp (v := .bool true) (.inl hb) rfl rfl (fun w => by rw [Sem.runT_eq]; simp [go_sem, execOp, Act.eval]; try (first | omega | rfl | exact ⟨rfl, rfl⟩ | kernel_rfl)) ?_
  simp only [Act.put, Act.eval, gqA, gqZ, gqS, Option.bind_some, gtA, gtZ, gtS, siA, scS, scZ]
  refine Win.pureOp (v := .bool true) (.inl hb) rfl rfl (fun w => by rw [Sem.runT_eq]; simp [go_sem, execOp, Act.eval]; try (first | omega | rfl | exact ⟨rfl, rfl⟩ | kernel_rfl)) ?_
  simp only [Act.put, Act.eval, gqA, gqZ, gqS, Option.bind_some, gtA, gtZ, gtS, siA, scS, scZ]
  refine Win.pureOp (v := .bool true) (.inl hb) rfl rfl (fun w => by rw [Sem.runT_eq]; simp [go_sem, execOp, Act.eval]; try (first | omega | rfl | exact ⟨rfl, rfl⟩ | kernel_rfl)) ?_
  simp only [Act.put, Act.eval, gqA, gqZ, gqS, Option.bind_some, gtA, gtZ, gtS, siA, scS, scZ]
  refine Win.enter (f := 9) (args := #[]) (.inl hb) rfl rfl (fun d => ⟨#[], call_enter mild.toMild Try.func9 rfl rfl rfl rfl _ _ (by simp [Act.eval]), fun e he => by simp at he⟩) ?_
  refine wakes_goes hpl hn fun pl' n' w9 hpl' hn' k9 => ?_
  rw [Frame.finish_at]
  simp only [Act.put, Act.eval, gqA, gqZ, gqS, Option.bind_some, gtA, gtZ, gtS, siA, scS, scZ]
  refine Win.pureOp (v := .bool true) (.inl hb) rfl rfl (fun w => by rw [Sem.runT_eq]; simp [go_sem, execOp, Act.eval]; try (first | omega | rfl | exact ⟨rfl, rfl⟩ | kernel_rfl)) ?_
  simp only [Act.put, Act.eval, gqA, gqZ, gqS, Option.bind_some, gtA, gtZ, gtS, siA, scS, scZ]
  refine Win.pureOp (v := .bool true) (.inl hb) rfl rfl (fun w => by rw [Sem.runT_eq]; simp [go_sem, execOp, Act.eval]; try (first | omega | rfl | exact ⟨rfl, rfl⟩ | kernel_rfl)) ?_
  simp only [Act.put, Act.eval, gqA, gqZ, gqS, Option.bind_some, gtA, gtZ, gtS, siA, scS, scZ]
  refine Win.opsEnd ?_
  refine Win.ret ?_
  refine Win.done hpl' rfl fun d => ?_
  refine ⟨.bool true, #[], ?_, fun e he => by simp at he, hPost _ ((kW.trans k9).at d)⟩
  exact stepG_done rfl rfl rfl Try.func3 (by kernel_rfl) (fun w => by rw [Sem.runT_eq]; simp [go_sem, results, Try.f3, Frame.at]) _
end
end Go.Proofs.Ytnbibpmhmffmpaa

namespace Go.Proofs.Ytnbibpmhmffmpaa
set_option linter.unusedVariables false
set_option linter.unusedSimpArgs false
set_option maxRecDepth 100000
open Go.RowKit
open Go.Conc
open Go.ConcN (upd_ne upd_same)

/-- Bytes that lie where a slice leads. -/
def UsY (w : World) (ao : Option Addr) (L : List Int) : Prop := ∀ i x, L[i]? = some x → ∃ b o, ao = some ⟨b, o, none⟩ ∧ w.cell? ⟨b, o + i, none⟩ = some (.int .u8 x) ∧ 0 ≤ x ∧ x ≤ 255
theorem great_no {L : List Pr} {K : Nat} (h : greatB L K = false) : L.length ≤ 5 ∧ K ≤ 150 ∧ ∀ p ∈ L, p.l.length ≤ 20 := by
  simp only [greatB, Bool.or_eq_false_iff, decide_eq_false_iff_not, List.any_eq_false, decide_eq_true_eq] at h
  exact ⟨by omega, by omega, fun p hp => by have := h.2 p hp; omega⟩
section
variable {x : Nat → Value} {wt : World} {Q : Exit → Act → World → Prop} {ao bo : Option Addr} {wd M K cl co pA bl bm : Nat}
theorem ap_z18 (hx0 : x 0 = .int .u8 wd) (hx1 : x 1 = .slice ao 0 cl) (hx2 : x 2 = .slice bo K co) (hx7 : x 7 = .pointer (some ⟨pA, 0, none⟩)) (hx9 : x 9 = .slice none 0 0) (hx10 : x 10 = .slice none 0 0) (hx11 : x 11 = .slice (some ⟨bl, 0, none⟩) 0 0) (hx12 : x 12 = .slice (some ⟨bm, 0, none⟩) wd wd) (hx13 : x 13 = .bool true)  (hQ : ∀ a', FrY [(0, .int .u8 wd), (1, .slice ao 0 cl), (2, .slice bo K co), (7, .pointer (some ⟨pA, 0, none⟩)), (9, .slice none 0 0), (10, .slice none 0 0), (11, .slice (some ⟨bl, 0, none⟩) 0 0), (12, .slice (some ⟨bm, 0, none⟩) wd wd), (13, .bool true), (17, .int .i64 0)] a' → Q (.normal) a' wt) : (apQ18 Try.f3).wp Try.prog Q ⟨T287 x, []⟩ wt := by
  have HQ := Lib.hid hQ
  clear hQ
  simp only [apQ18, apB2, apX2, apS2, apR10, bodyOf, Try.f3, codeL, codeR, blockOf, loopOf, Option.getD_some, T287]
  simp only [hx0, hx1, hx2, hx7, hx9, hx10, hx11, hx12, hx13]
  go_wp2
  exact HQ.out _ ⟨rfl, rfl, ⟨rfl, rfl, rfl, rfl, rfl, rfl, rfl, rfl, rfl, rfl, trivial⟩⟩

theorem ap_z19_a (hx0 : x 0 = .int .u8 wd) (hx1 : x 1 = .slice ao 0 cl) (hx2 : x 2 = .slice bo K co) (hx7 : x 7 = .pointer (some ⟨pA, 0, none⟩)) (hx9 : x 9 = .slice none 0 0) (hx10 : x 10 = .slice none 0 0) (hx11 : x 11 = .slice (some ⟨bl, 0, none⟩) 0 0) (hx12 : x 12 = .slice (some ⟨bm, 0, none⟩) wd wd) (hx13 : x 13 = .bool true) (hx17 : x 17 = .int .i64 0) (hK : K = 0) (hQ : ∀ a', FrY [(7, .pointer (some ⟨pA, 0, none⟩)), (9, .slice none 0 0), (13, .bool true)] a' → Q (.exit 2) a' wt) : (apQ19 Try.f3).wp Try.prog Q ⟨T287 x, []⟩ wt := by
  have HQ := Lib.hid hQ
  subst hK
  clear hQ
  simp only [apQ19, apB2, apX2, apS2, apR10, bodyOf, Try.f3, codeL, codeR, blockOf, loopOf, Option.getD_some, T287]
  simp only [hx0, hx1, hx2, hx7, hx9, hx10, hx11, hx12, hx13, hx17]
  go_wp2
  exact HQ.out _ ⟨rfl, rfl, ⟨rfl, rfl, rfl, trivial⟩⟩

theorem ap_z19_b (hx0 : x 0 = .int .u8 wd) (hx1 : x 1 = .slice ao 0 cl) (hx2 : x 2 = .slice bo K co) (hx7 : x 7 = .pointer (some ⟨pA, 0, none⟩)) (hx9 : x 9 = .slice none 0 0) (hx10 : x 10 = .slice none 0 0) (hx11 : x 11 = .slice (some ⟨bl, 0, none⟩) 0 0) (hx12 : x 12 = .slice (some ⟨bm, 0, none⟩) wd wd) (hx13 : x 13 = .bool true) (hx17 : x 17 = .int .i64 0) (hK : 0 < K) (hK2 : K ≤ 150) (hQ : ∀ a', FrY [(7, .pointer (some ⟨pA, 0, none⟩)), (9, .slice none 0 0), (13, .bool true)] a' → Q (.exit 2) a' wt) : (apQ19 Try.f3).wp Try.prog Q ⟨T287 x, []⟩ wt := by
  have HQ := Lib.hid hQ
  clear hQ
  simp only [apQ19, apB2, apX2, apS2, apR10, bodyOf, Try.f3, codeL, codeR, blockOf, loopOf, Option.getD_some, T287]
  simp only [hx0, hx1, hx2, hx7, hx9, hx10, hx11, hx12, hx13, hx17]
  go_wp2
  exact HQ.out _ ⟨rfl, rfl, ⟨rfl, rfl, rfl, trivial⟩⟩

end
section
variable {Post : Value → World → Prop} {W : World} {pA rA bl bm cm M wd N : Nat} {L : List Pr} {ag : Nat → Ag} {dn dw : Nat → Nat} {lw : Nat → Int} {mws : List Int} {va vw : Value} {pl : Nat → Option Place} {F : Nat → Option (Nat × Nat)} {col : Nat → Col} {w : World} {g : Nat → Int} {s : St}
/-- From the second loop's end to the law's. -/
theorem ap_fin {args : Array Value} {x : Nat → Value} (A : ApT Post W pA rA bl bm cm M wd L ag dn dw lw mws va vw pl F col w g s) (hx : HasY x [(7, .pointer (some ⟨pA, 0, none⟩)), (9, va), (13, .bool true)]) (hM5 : M ≤ 5) (hn : 0 < N) (hPost : ∀ w', Ks (fun _ => False) W w' → Post (.bool true) w') :
    Win Try.prog Post pl N 0 (gor ((Frame.enter Try.prog 3 args .normal).at ⟨T287 x, []⟩ [.code (apR11 Try.f3)]) []) w := by
  have e34 : apR11 Try.f3 = .seq (apQ34 Try.f3) (apR12 Try.f3) := by kernel_rfl
  have e35 : apR12 Try.f3 = .seq (.seq (apQ35 Try.f3) (.block 6 (.loop (apX3 Try.f3)))) (apR13 Try.f3) := by kernel_rfl
  obtain ⟨hx7, hx9, hx13, -⟩ := hx
  rw [e34]
  refine Win.seq ?_
  refine desk_allY A.crew.desk A.ar (stok_at rfl rfl (by simp) (by kernel_rfl)) (fun wt Q har hcell hQ => ap_q34 hx7 hx9 hx13 har fun a' hf => hQ a' wt hf (Kp.refl _ _)) fun x1 w1 hx k1 D1 => ?_
  have A1 := A.made D1 k1
  clear hx7 hx9 hx13
  obtain ⟨hx7, hx9, hx13, hx27, -⟩ := hx
  rw [e35]
  refine Win.seq ?_
  refine Win.seq ?_
  refine desk_stillY A1.crew.desk (stok_at rfl rfl (by simp) (by kernel_rfl)) (fun wt Q hQ => ap_q35 hx7 hx9 hx13 hx27 hQ) fun x2 w2 hx k2 D2 => ?_
  refine Win.block ?_
  refine Win.loop ?_
  exact ap_loop3 hM5 (fun dn pl F col w x A h0 hx => ap_end A h0 hx hn hPost) M 0 (by omega) dn pl F col w2 x2 (A1.made D2 k2) (fun j hj => by omega) hx
/-- The agents being made, nobody has stepped yet. -/
theorem ApW.turns (A : ApW Post W pA rA bl bm M wd L M ag va vw pl F col w (fresh wd)) : ApT Post W pA rA bl bm wd M wd L ag (fun _ => 0) (fun _ => 0) (fun _ => 0) (fresh wd).ws va vw pl F col w (fun _ => 0) (fresh wd) :=
  { crew := A.crew
    ar := A.ar
    rm := A.rm
    rmc := A.rmc
    all := A.all
    allc := A.allc
    ws := A.ws
    wsc := A.wsc
    dis := A.dis
    ma := A.ma
    mw := A.mw
    old := A.old
    ks := A.ks
    len := by simp [fresh]
    bnd := fun z hz => by
      have : z = 0 := by
        have h2 : z ∈ List.replicate wd (0 : Int) := hz
        exact (List.mem_replicate.1 h2).2
      rw [this]; decide
    dle := fun j => Nat.zero_le _ }
end

section
variable {Post : Value → World → Prop} {W : World} {L : List Pr} {O : List Int} {ao bo : Option Addr} {wd cl co : Nat}
set_option maxHeartbeats 2000000 in
/-- THE WALK OF THE LAW. -/
theorem ap_walk (hL : Progs W ao L) (hO : UsY W bo O) (hPost : ∀ w', Ks (fun _ => False) W w' → Post (.bool true) w') :
    Win Try.prog Post (fun _ => none) 1 0 (gor (Frame.enter Try.prog 3 #[.int .u8 wd, .slice ao L.length cl, .slice bo O.length co] .normal) []) W := by
  cases hg : greatB L O.length with
  | true => exact ap_bad_great (fun _ => rfl) (by decide) hL rfl hg hPost
  | false =>
    by_cases hw1 : wd < 1
    · exact ap_bad_low (fun _ => rfl) (by decide) hL rfl hg hw1 hPost
    by_cases hw20 : 20 < wd
    · exact ap_bad_high (fun _ => rfl) (by decide) hL rfl hg hw1 hw20 hPost
    obtain ⟨hM5, hK, hl20⟩ := great_no hg
    obtain ⟨M, hM⟩ : ∃ M, M = L.length := ⟨_, rfl⟩
    obtain ⟨K, hKK⟩ : ∃ K, K = O.length := ⟨_, rfl⟩
    rw [← hM] at hM5
    rw [← hKK] at hg hK
    rw [← hM, ← hKK]
    refine ap_in (fun _ => rfl) hL hM hg (by omega) (by omega) hM5 fun x pA rA bl bm w hx hin ar rl rm l1 l2 l3 l4 l5 ks => ?_
    have lbm := lt_of_block rm
    have lbl := lt_of_block rl
    have hWs := ks.size
    obtain ⟨col, cB, cA, cM⟩ : ∃ col : Nat → Col, (∀ b, apSB W bl b → col b = .shared) ∧ (∀ b, b = pA ∨ b = rA → col b = .arena) ∧ (∀ b, ¬ apSB W bl b → ¬ (b = pA ∨ b = rA) → col b = .main) := by
      classical
      refine ⟨fun b => if apSB W bl b then .shared else if b = pA ∨ b = rA then .arena else .main, fun b h => if_pos h, fun b h => ?_, fun b h1 h2 => (if_neg h1).trans (if_neg h2)⟩
      have h1 : ¬ apSB W bl b := fun z => by
        rcases z with z | z
        · omega
        · have := z.1; omega
      exact (if_neg h1).trans (if_pos h)
    have nSB : ∀ b, W.heap.size ≤ b → b ≠ bl → ¬ apSB W bl b := fun b h1 h2 z => by
      rcases z with z | z
      · exact h2 z
      · have := z.1; omega
    have D : Desk (apSB W bl) pA rA (fun _ => none) (fun _ => none) col w :=
      ⟨rfl, lies_none (fun _ => rfl) w, ⟨fun _ _ => rfl, fun b hb => cM b (nSB b (by omega) (by omega)) (by have := ar.lt; omega), cB, ⟨cA _ (.inl rfl), cA _ (.inr rfl)⟩⟩, fun i s c hi => by cases hi⟩
    have C : Crew Post (lastSh W bl M) (apSB W bl) pA rA (memV pA) 1 0 (fun _ => ⟨0, 0, 0, 0, 0, 0⟩) (fun j => ptree (fun g => g j) (setF j) (lsP L j) 0) (fun _ => none) (fun _ => none) col w (fun _ => 0) :=
      ⟨by decide, D, fun _ _ => rfl, fun i hi => by omega, fun i hi => by omega, fun i hi => by omega, ⟨by rw [rl]; congr 3; exact (List.eq_replicate_iff.2 ⟨by rw [List.length_map, List.length_range], fun b hb => by obtain ⟨_, _, rfl⟩ := List.mem_map.1 hb; rfl⟩).symm, hin⟩⟩
    have hrm : Rm w bm wd (List.replicate wd 0) := by
      have := rm_of_u64s rm
      rw [List.length_replicate] at this
      exact this
    have A0 : ApW Post W pA rA bl bm M wd L 0 (fun _ => ⟨0, 0, 0, 0, 0, 0⟩) (.slice none 0 0) (.slice none 0 0) (fun _ => none) (fun _ => none) col w (fresh wd) :=
      { crew := C
        ar := ar
        rm := hrm
        rmc := cM bm (nSB bm (by omega) (by omega)) (by omega)
        all := Rw.nil _ _ _ _
        allc := fun b hb => by (rw [blk_nil] at hb; cases hb)
        ws := Rw.nil _ _ _ _
        wsc := fun b hb => by (rw [blk_nil] at hb; cases hb)
        dis := fun b hb => by (rw [blk_nil] at hb; cases hb)
        ma := fun z => by (rw [blk_nil] at z; cases z)
        mw := fun z => by (rw [blk_nil] at z; cases z)
        old := fun b hb => by
          by_cases hp : poorless W b
          · exact .inr ⟨cB b (.inr hp), hp⟩
          · exact .inl (cM b (fun z => by
              rcases z with z | z
              · omega
              · exact hp z) (by omega))
        ks := ks.mono fun _ _ z => z.elim }
    have e9 : apR9 Try.f3 = .seq (.seq (apQ11 Try.f3) (.block 0 (.loop (apX1 Try.f3)))) (apR10 Try.f3) := by kernel_rfl
    have e10 : apR10 Try.f3 = .seq (.seq (apQ18 Try.f3) (.block 2 (.loop (apX2 Try.f3)))) (apR11 Try.f3) := by kernel_rfl
    obtain ⟨hx0, hx1, hx2, hx7, hx9, hx10, hx11, hx12, hx13, -⟩ := hx
    rw [e9]
    refine Win.seq ?_
    refine Win.seq ?_
    refine desk_stillY D (stok_at rfl rfl (by simp) (by kernel_rfl)) (fun wt Q hQ => ap_q11 hx0 hx1 hx2 hx7 hx9 hx10 hx11 hx12 hx13 hQ) fun x1 w1 hx k1 D1 => ?_
    have A1 := A0.made D1 k1
    clear hx0 hx1 hx2 hx7 hx9 hx10 hx11 hx12 hx13
    refine Win.block ?_
    refine Win.loop ?_
    rcases Nat.eq_zero_or_pos M with hM0 | hM1
    · subst hM0
      have e12 : apX1 Try.f3 = .seq (apQ12 Try.f3) (.seq (.block 1 (apB1 Try.f3)) (apQ13 Try.f3)) := by kernel_rfl
      have e19 : apX2 Try.f3 = .seq (apQ19 Try.f3) (.seq (.block 3 (apB2 Try.f3)) (apQ20 Try.f3)) := by kernel_rfl
      obtain ⟨hx0, hx1, hx2, hx7, hx9, hx10, hx11, hx12, hx13, hx14, -⟩ := hx
      show Win Try.prog Post _ 1 0 (gor (_) []) w1
      change Win Try.prog Post (fun _ => none) 1 0 (gor ((Frame.enter Try.prog 3 #[.int .u8 wd, .slice ao 0 cl, .slice bo K co] .normal).at ⟨T287 x1, []⟩ (.code (apX1 Try.f3) :: apK1 Try.f3)) []) w1
      rw [show (Item.code (apX1 Try.f3) :: apK1 Try.f3) = .code (.seq (apQ12 Try.f3) (.seq (.block 1 (apB1 Try.f3)) (apQ13 Try.f3))) :: apK1 Try.f3 by rw [← e12]]
      refine Win.seq ?_
      have he : ∀ X : Code, exitTo 0 (.code X :: apK1 Try.f3) = some [.code (apR10 Try.f3)] := fun X => rfl
      refine desk_exitY A1.crew.desk (he _) (stok_at rfl rfl (by simp) (by kernel_rfl)) (fun wt Q hQ => ap_q12_end hx0 hx1 hx2 hx7 hx9 hx10 hx11 hx12 hx13 hx14 rfl hM5 hQ) fun x2 w2 hx k2 D2 => ?_
      have A2 := A1.made D2 k2
      clear hx0 hx1 hx2 hx7 hx9 hx10 hx11 hx12 hx13 hx14
      obtain ⟨hx0, hx1, hx2, hx7, hx9, hx10, hx11, hx12, hx13, hx14, -⟩ := hx
      rw [e10]
      refine Win.seq ?_
      refine Win.seq ?_
      refine desk_stillY A2.crew.desk (stok_at rfl rfl (by simp) (by kernel_rfl)) (fun wt Q hQ => ap_z18 hx0 hx1 hx2 hx7 hx9 hx10 hx11 hx12 hx13 hQ) fun x3 w3 hx k3 D3 => ?_
      have A3 := A2.made D3 k3
      clear hx0 hx1 hx2 hx7 hx9 hx10 hx11 hx12 hx13 hx14
      obtain ⟨hx0, hx1, hx2, hx7, hx9, hx10, hx11, hx12, hx13, hx17, -⟩ := hx
      refine Win.block ?_
      refine Win.loop ?_
      change Win Try.prog Post (fun _ => none) 1 0 (gor ((Frame.enter Try.prog 3 #[.int .u8 wd, .slice ao 0 cl, .slice bo K co] .normal).at ⟨T287 x3, []⟩ (.code (apX2 Try.f3) :: apK2 Try.f3)) []) w3
      rw [show (Item.code (apX2 Try.f3) :: apK2 Try.f3) = .code (.seq (apQ19 Try.f3) (.seq (.block 3 (apB2 Try.f3)) (apQ20 Try.f3))) :: apK2 Try.f3 by rw [← e19]]
      refine Win.seq ?_
      have he2 : ∀ X : Code, exitTo 2 (.code X :: apK2 Try.f3) = some [.code (apR11 Try.f3)] := fun X => rfl
      rcases Nat.eq_zero_or_pos K with hK0 | hK1
      · exact desk_exitY A3.crew.desk (he2 _) (stok_at rfl rfl (by simp) (by kernel_rfl)) (fun wt Q hQ => ap_z19_a hx0 hx1 hx2 hx7 hx9 hx10 hx11 hx12 hx13 hx17 hK0 hQ) fun x4 w4 hx k4 D4 => ap_fin (A3.made D4 k4).turns hx hM5 (by decide) hPost
      · exact desk_exitY A3.crew.desk (he2 _) (stok_at rfl rfl (by simp) (by kernel_rfl)) (fun wt Q hQ => ap_z19_b hx0 hx1 hx2 hx7 hx9 hx10 hx11 hx12 hx13 hx17 hK1 hK hQ) fun x4 w4 hx k4 D4 => ap_fin (A3.made D4 k4).turns hx hM5 (by decide) hPost
    · obtain ⟨_, b, o, hao, _⟩ := hL 0 (L[0]'(by omega)) (List.getElem?_eq_getElem (by omega))
      subst hao
      refine ap_loop1 hL hM hM5 hl20 (by omega) (fun ag va vw pl F col w x A hx => ?_) M 0 (by omega) _ _ _ _ _ _ _ x1 A1 hx
      have A2 := A.turns
      obtain ⟨ba, ca, hva, _, _⟩ := A2.all.at hM1 (by decide)
      obtain ⟨bv, cv, hvw, _, _⟩ := A2.ws.at hM1 (by decide)
      subst hva hvw
      obtain ⟨hx0, hx1, hx2, hx7, hx9, hx10, hx11, hx12, hx13, -⟩ := hx
      rw [e10]
      refine Win.seq ?_
      refine Win.seq ?_
      refine desk_stillY A2.crew.desk (stok_at rfl rfl (by simp) (by kernel_rfl)) (fun wt Q hQ => ap_q18 hx0 hx1 hx2 hx7 hx9 hx10 hx11 hx12 hx13 hQ) fun x3 w3 hx k3 D3 => ?_
      refine Win.block ?_
      refine Win.loop ?_
      refine ap_loop2 hK hM1 hM5 (by omega) (by omega) hL hM hl20 (fun i hi => ?_) (fun bm cm dn pl F col w g s x A ht hx => ap_fin A hx hM5 (by omega) hPost) K 0 (by omega) bm wd _ pl F col w3 _ _ x3 (A2.made D3 k3) (by simp [fresh]) hx
      obtain ⟨b', o', h1, h2⟩ := hO i (O[i]'(by omega)) (List.getElem?_eq_getElem (by omega))
      exact ⟨b', o', _, h1, h2⟩
end
end Go.Proofs.Ytnbibpmhmffmpaa

namespace Go.Proofs.Ytnbibpmhmffmpaa

theorem Try.own : ownKnob Try.prog.godebug = none := by kernel_rfl
theorem Try.laidOut : laidOutB Try.prog = true := by kernel_rfl

end Go.Proofs.Ytnbibpmhmffmpaa
