/- Law 14's program: a hand is given back. Written by gen/gw_p.py. Law 14's program: its loop. Written by gen/gw_q.py. Law 14's program from its begin. Written by gen/gw_r.py. Law 14, plainly: each block is free, in one hand, or on its way back. Law 14, plainly: where each agent stands; its next touch; what apart and the end ask. Law 14: the driver's frame; pieces of who steps, at frames of whatever size. The walks of package give, on: Set, Claim. Conditions: as each theorem states them. -/
import Derived.Deep.CutBlock
import Derived.Deep.CutRange
import Derived.Deep.DeepCutAuto
import Derived.Test.YtnbaiinhalplcaaPg16
import Derived.Test.YtnbaiinhalplcaaPg18
namespace Go.Proofs.Ytnbaiinhalplcaa
open List renaming getElem_toArray → gtA, getElem_cons_zero → gtZ, getElem_cons_succ → gtS, setIfInBounds_toArray → siA, set_cons_succ → scS, set_cons_zero → scZ, getElem?_toArray → gqA, getElem?_cons_zero → gqZ, getElem?_cons_succ → gqS
set_option linter.unusedVariables false
set_option linter.unusedSimpArgs false
set_option maxRecDepth 100000
open Go.RowKit
open Go.Conc
open Go.ConcN (upd_ne upd_same)

section
variable {Post : Value → World → Prop} {W : World} {pA rA bh bl M TT GG nn ix b1 b2 q1 q2 ba ob K cp k s : Nat} {a : Ag} {mv : Value} {home : Goroutine → Prop} {n : Nat} {T : Tree Hands} {gf : FuncId} {cap args : Array Value}
variable {pl : Nat → Option Place} {F : Nat → Option (Nat × Nat)} {col : Nat → Col} {w : World} {g g' : Hands} {x : Nat → Value}

set_option maxHeartbeats 4000000 in
theorem gv_give (hmv : mv = memV pA) (hT : TT ≤ 64) (hG : GG ≤ 8) (hnn : nn ≤ 64) {h : Int × Int} {st : Hands → Hands} {tr : Hands → Tree Hands} (hx : HasN x [(0, .iface 107 (.pointer (some ⟨a.m, 0, none⟩))), (1, .pointer (some ⟨q1, 0, none⟩)), (2, .pointer (some ⟨q2, 0, none⟩)), (3, .pointer (some ⟨bl, 0, none⟩)), (5, .int .i64 k), (9, .pointer (some ⟨s, 0, none⟩))])
    (hA : Acts (gvSB W bh bl) pA rA a mv home true false pl F col w) (hown : ∀ b, onHown b1 b2 q1 q2 s b → col b = .ag a.j) (hAw : OnH a b1 b2 q1 q2 ba ob K cp bh ix s h w) (hs : gvSh W bh bl M TT GG nn col w g)
    (K0 : Kont Post (gvSh W bh bl M TT GG nn) (gvSB W bh bl) pA rA a mv home n (if runG nn h.1 h.2 then bkT (3 + TT + GG + h.1.toNat) (giveI h.1.toNat h.2.toNat) st tr (fun g => g) h.2.toNat else tr g) pl F col w (if runG nn h.1 h.2 then g else st g))
    (H : ∀ (x : Nat → Value) home n pl F col w g, HasN x [(0, .iface 107 (.pointer (some ⟨a.m, 0, none⟩))), (1, .pointer (some ⟨q1, 0, none⟩)), (2, .pointer (some ⟨q2, 0, none⟩)), (3, .pointer (some ⟨bl, 0, none⟩)), (5, .int .i64 k)] → Acts (gvSB W bh bl) pA rA a mv home true false pl F col w → (∀ b, onGown b1 b2 q1 q2 b → col b = .ag a.j) → OnG a b1 b2 q1 q2 ba ob K cp bh ix w → gvSh W bh bl M TT GG nn col w g → Kont Post (gvSh W bh bl M TT GG nn) (gvSB W bh bl) pA rA a mv home n (tr g) pl F col w (st g) → Win Try.prog Post pl n a.j (gor ((Frame.enter Try.prog 9 args .normal).at ⟨T73 x, []⟩ [.code (gvC2 Try.f9), .inLoop (gvX Try.f9), .inBlock 0]) [runFr Try.prog Try.f31 a.p a.m b1 b2 gf cap, rootFr Try.prog]) w) :
    Win Try.prog Post pl n a.j (gor ((Frame.enter Try.prog 9 args .normal).at ⟨T73 x, []⟩ [.code (gvC10 Try.f9), .inBlock 1, .code (gvC2 Try.f9), .inLoop (gvX Try.f9), .inBlock 0]) [runFr Try.prog Try.f31 a.p a.m b1 b2 gf cap, rootFr Try.prog]) w := by
  have hSh := gv_shar W bh bl M TT GG nn
  have hb : (Frame.enter Try.prog 9 args .normal).kind = .normal := rfl
  obtain ⟨y0, y1, y2, y3, y5, y9, _⟩ := hx
  simp only at y0 y1 y2 y3 y5 y9
  have z0 := cell_of_row hs.lay 0
  have z1 := cell_of_row hs.lay 1
  have z2 := cell_of_row hs.lay 2
  have s0 := cell_of_row hAw.2 0
  have s1 := cell_of_row hAw.2 1
  simp only [gvC10, gvA, gvB, gvX, condA, bodyOf, Try.f9, codeL, codeR, blockOf, loopOf, Option.getD_some, T73]
  simp only [y0, y1, y2, y3, y5, y9]
  refine Win.region ?_
  simp only [List.size_toArray, List.length_cons, List.length_nil, Nat.reduceAdd, List.range, List.range.loop]
  refine Win.pureOp (v := .iface 107 (.pointer (some ⟨a.m, 0, none⟩))) (.inl hb) rfl rfl (fun w => rfl) ?_
  simp only [Act.put, Act.eval, gqA, gqZ, gqS, Option.bind_some, gtA, gtZ, gtS, siA, scS, scZ]
  refine Win.op (v := .agg #[.int .i64 TT, .int .i64 GG, .int .i64 nn]) (.inl hb) rfl rfl (fun d => ⟨#[⟨.cell ⟨bl, 0, none⟩, false, false⟩, ⟨.cell ⟨bl, 1, none⟩, false, false⟩, ⟨.cell ⟨bl, 2, none⟩, false, false⟩], by rw [Sem.runT_eq]; have hc0 : (World.at w d).cell? ⟨bl, 0, none⟩ = _ := z0; have hc1 : (World.at w d).cell? ⟨bl, 1, none⟩ = _ := z1; have hc2 : (World.at w d).cell? ⟨bl, 2, none⟩ = _ := z2; generalize World.at w d = W' at hc0 hc1 hc2 ⊢; simp [go_sem, execOp, Act.eval, hc0, hc1, hc2], fun e he => by simp at he; rcases he with rfl | rfl | rfl <;> exact ⟨rfl, fun m => by simp⟩⟩) ?_
  simp only [Act.put, Act.eval, gqA, gqZ, gqS, Option.bind_some, gtA, gtZ, gtS, siA, scS, scZ]
  refine Win.pureOp (v := .pointer (some ⟨s, 0, none⟩)) (.inl hb) rfl rfl (fun w => by rw [Sem.runT_eq]; simp [go_sem, execOp, Act.eval]; try (first | omega | rfl | exact ⟨rfl, rfl⟩ | kernel_rfl)) ?_
  simp only [Act.put, Act.eval, gqA, gqZ, gqS, Option.bind_some, gtA, gtZ, gtS, siA, scS, scZ]
  refine Win.lookOp (v := .int .i64 h.1) (ad := ⟨s, 0, none⟩) (x := .int .i64 h.1) (.inl hb) rfl rfl (s0) (fun w hc => by rw [Sem.runT_eq]; simp [go_sem, execOp, Act.eval, hc]) ?_
  simp only [Act.put, Act.eval, gqA, gqZ, gqS, Option.bind_some, gtA, gtZ, gtS, siA, scS, scZ]
  refine Win.pureOp (v := .pointer (some ⟨s, 1, none⟩)) (.inl hb) rfl rfl (fun w => by rw [Sem.runT_eq]; simp [go_sem, execOp, Act.eval]; try (first | omega | rfl | exact ⟨rfl, rfl⟩ | kernel_rfl)) ?_
  simp only [Act.put, Act.eval, gqA, gqZ, gqS, Option.bind_some, gtA, gtZ, gtS, siA, scS, scZ]
  refine Win.lookOp (v := .int .i64 h.2) (ad := ⟨s, 1, none⟩) (x := .int .i64 h.2) (.inl hb) rfl rfl (s1) (fun w hc => by rw [Sem.runT_eq]; simp [go_sem, execOp, Act.eval, hc]) ?_
  simp only [Act.put, Act.eval, gqA, gqZ, gqS, Option.bind_some, gtA, gtZ, gtS, siA, scS, scZ]
  refine Win.enter (f := 11) (args := #[.iface 107 (.pointer (some ⟨a.m, 0, none⟩)), .agg #[.int .i64 TT, .int .i64 GG, .int .i64 nn], .int .i64 h.1, .int .i64 h.2]) (.inl hb) rfl rfl (fun d => ⟨#[], call_enter mild.toMild Try.func11 rfl rfl rfl rfl _ _ (by simp [Act.eval]), fun e he => by simp at he⟩) ?_
  by_cases hr : runG nn h.1 h.2 = true
  · rw [if_pos hr, if_pos hr] at K0
    obtain ⟨e1, e2, e3, e4⟩ := runG_iff.1 hr
    obtain ⟨h1, h2⟩ := h
    obtain ⟨bN, rfl⟩ := Int.eq_ofNat_of_zero_le e3
    obtain ⟨rN, rfl⟩ := Int.eq_ofNat_of_zero_le (show (0 : Int) ≤ h2 by simp only at e1; omega)
    simp only [Int.toNat_natCast] at K0
    refine back_in (b := bN) (r := rN) (T := tr) (cc := st) (hl := fun g => g) (own := onHown b1 b2 q1 q2 s) (A := OnH a b1 b2 q1 q2 ba ob K cp bh ix s _) hSh hmv hT hG hnn (priv_oh _ _ _ _ _ _ _ _ _ _ _ _ _) (fun home n pl' F' col' w' g hA' hown' hB' hs' K' => ?_) (fun home n pl' F' col' w' g hE hown' hB' hs' K' => halt_out hE hB'.1.2 hs' hSh rfl (by kernel_rfl) K') (by simp only at e1; omega) (by simp only at e2; omega) (by simp only at e4; omega) hA hown hAw hs K0
    rw [Frame.finish_at]
    simp only [Act.put, Act.eval, gqA, gqZ, gqS, Option.bind_some, gtA, gtZ, gtS, siA, scS, scZ]
    refine Win.opsEnd ?_
    refine Win.inBlock ?_
    refine win_slotsN T73_shape (K := [(0, .iface 107 (.pointer (some ⟨a.m, 0, none⟩))), (1, .pointer (some ⟨q1, 0, none⟩)), (2, .pointer (some ⟨q2, 0, none⟩)), (3, .pointer (some ⟨bl, 0, none⟩)), (5, .int .i64 k)]) rfl ⟨rfl, rfl, rfl, rfl, rfl, trivial⟩ fun x3 hx3 => ?_
    exact H x3 home n pl' F' col' w' g hx3 hA' (fun b hb => hown' b (.inl hb)) hB'.1 hs' K'
  · rw [if_neg hr, if_neg hr] at K0
    refine back_no (own := onHown b1 b2 q1 q2 s) (A := OnH a b1 b2 q1 q2 ba ob K cp bh ix s h) hSh hnn (priv_oh _ _ _ _ _ _ _ _ _ _ _ _ _) (by simpa using hr) (fun pl' F' col' w' hA' hown' hB' hs' K' => ?_) hA hown hAw hs K0
    rw [Frame.finish_at]
    simp only [Act.put, Act.eval, gqA, gqZ, gqS, Option.bind_some, gtA, gtZ, gtS, siA, scS, scZ]
    refine Win.opsEnd ?_
    refine Win.inBlock ?_
    refine win_slotsN T73_shape (K := [(0, .iface 107 (.pointer (some ⟨a.m, 0, none⟩))), (1, .pointer (some ⟨q1, 0, none⟩)), (2, .pointer (some ⟨q2, 0, none⟩)), (3, .pointer (some ⟨bl, 0, none⟩)), (5, .int .i64 k)]) rfl ⟨rfl, rfl, rfl, rfl, rfl, trivial⟩ fun x3 hx3 => ?_
    exact H x3 home n pl' F' col' w' g hx3 hA' (fun b hb => hown' b (.inl hb)) hB'.1 hs' K'
end
end Go.Proofs.Ytnbaiinhalplcaa

namespace Go.Proofs.Ytnbaiinhalplcaa
set_option linter.unusedVariables false
set_option linter.unusedSimpArgs false
set_option maxRecDepth 100000
open Go.RowKit
open Go.Conc
open Go.ConcN (upd_ne upd_same)

section
variable {Post : Value → World → Prop} {W : World} {pA rA bh bl M TT GG nn ix b1 b2 q1 q2 ba ob cp : Nat} {a : Ag} {mv : Value} {gf : FuncId} {cap args : Array Value} {l0 : List Int}

set_option maxHeartbeats 4000000 in
theorem gv_loop (hmv : mv = memV pA) (hT : TT ≤ 64) (hG : GG ≤ 8) (hnn : nn ≤ 64) (hin : ActsIn W ba ob l0) (h64 : l0.length < 64) (hix : ix < M) (hWb : W.heap.size ≤ bh) :
    ∀ l k, l0.drop k = l → k ≤ l0.length → ∀ (x : Nat → Value) home n pl F col w g, HasN x [(0, .iface 107 (.pointer (some ⟨a.m, 0, none⟩))), (1, .pointer (some ⟨q1, 0, none⟩)), (2, .pointer (some ⟨q2, 0, none⟩)), (3, .pointer (some ⟨bl, 0, none⟩)), (5, .int .i64 k)] → Acts (gvSB W bh bl) pA rA a mv home true false pl F col w → (∀ b, onGown b1 b2 q1 q2 b → col b = .ag a.j) → OnG a b1 b2 q1 q2 ba ob l0.length cp bh ix w → gvSh W bh bl M TT GG nn col w g → Kont Post (gvSh W bh bl M TT GG nn) (gvSB W bh bl) pA rA a mv home n (gvN TT GG nn ix l g).1 pl F col w (gvN TT GG nn ix l g).2 →
      Win Try.prog Post pl n a.j (gor ((Frame.enter Try.prog 9 args .normal).at ⟨T73 x, []⟩ [.code (gvX Try.f9), .inLoop (gvX Try.f9), .inBlock 0]) [runFr Try.prog Try.f31 a.p a.m b1 b2 gf cap, rootFr Try.prog]) w := by
  have hSh := gv_shar W bh bl M TT GG nn
  intro l
  induction l with
  | nil =>
    intro k hd hk x home n pl F col w g hx hA hown hAw hs K0
    have : l0.length ≤ k := by
      have := congrArg List.length hd
      simp at this; omega
    exact gv_done (K := l0.length) (by omega) hx hA hown hAw hs K0
  | cons y l ih =>
    intro k hd hk x home n pl F col w g hx hA hown hAw hs K0
    have hkl : k < l0.length := by
      have := congrArg List.length hd
      simp at this; omega
    have hy : l0.getD k 0 = y := by
      have := congrArg (fun z => z[0]?) hd
      simp at this
      simp [List.getD, this]
    have hd' : l0.drop (k + 1) = l := by
      have := congrArg List.tail hd
      simpa using this
    obtain ⟨_, h0, h255⟩ := hin.2 k hkl
    have hnext := fun (x : Nat → Value) home n pl F col w g hx hA hown hAw hs K => gv_next (Post := Post) (W := W) (pA := pA) (rA := rA) (bh := bh) (bl := bl) (M := M) (TT := TT) (GG := GG) (nn := nn) (ix := ix) (b1 := b1) (b2 := b2) (q1 := q1) (q2 := q2) (ba := ba) (ob := ob) (K := l0.length) (cp := cp) (k := k) (a := a) (mv := mv) (home := home) (n := n) (T := (gvN TT GG nn ix l g).1) (gf := gf) (cap := cap) (args := args) (pl := pl) (F := F) (col := col) (w := w) (g := g) (g' := (gvN TT GG nn ix l g).2) (x := x) (by omega) hx hA hown hAw hs K fun x col w hx hA hown hAw hs K => ih (k + 1) hd' (by omega) x home n pl F col w g hx hA hown hAw hs K
    obtain ⟨vs, r1, r2, r3⟩ := hs.rows
    obtain ⟨hq, hqb⟩ := r2 ix hix
    obtain ⟨oo, oc, hv⟩ := hq.form
    have hco : w.cell? ⟨bh, ix, none⟩ = some (.slice oo (g ix).length oc) := (cell_of_row r1 ix).trans (by simp [hix, hv])
    have hcb := hin.at hs.inw hkl
    rw [gv_e1]
    refine Win.seq ?_
    refine Win.seq ?_
    refine hA.still T73_shape hSh hown (priv_og _ _ _ _ _ _ _ _ _ _ _) hAw hs K0 (stok_at rfl rfl (by simp) (by kernel_rfl)) (fun wt Q hAt hcell hQ => gv_p1 (by exact cell_of_row hAt.1.1 0) hx.1 hx.2.1 hx.2.2.1 hx.2.2.2.1 hx.2.2.2.2.1 hQ) fun x1 col1 w1 hx1 hA1 hown1 hB1 hs1 K1 => ?_
    have h13 : x1 13 = .bool true := hx1.2.2.2.2.2.1.trans (by rw [decide_eq_true hkl])
    refine Win.cond (t := true) (by simp only [Act.eval, T73]; exact h13) ?_
    simp only [if_true]
    refine Win.skip ?_
    refine Win.seq ?_
    refine Win.block ?_
    rw [gv_e2]
    refine Win.seq ?_
    refine Win.seq ?_
    obtain ⟨vs1, r11, r21, _⟩ := hs1.rows
    obtain ⟨hq1, _⟩ := r21 ix hix
    obtain ⟨oo1, oc1, hv1⟩ := hq1.form
    have hco1 : w1.cell? ⟨bh, ix, none⟩ = some (.slice oo1 (g ix).length oc1) := (cell_of_row r11 ix).trans (by simp [hix, hv1])
    have hcb1 := hin.at hs1.inw hkl
    by_cases hc : y % 2 = 0 ∨ (g ix).length = 0
    · rw [gvN, if_pos hc] at K1
      simp only at K1
      refine hA1.still (KL := [(0, .iface 107 (.pointer (some ⟨a.m, 0, none⟩))), (1, .pointer (some ⟨q1, 0, none⟩)), (2, .pointer (some ⟨q2, 0, none⟩)), (3, .pointer (some ⟨bl, 0, none⟩)), (5, .int .i64 k), (28, .bool true)]) T73_shape hSh hown1 (priv_og _ _ _ _ _ _ _ _ _ _ _) hB1 hs1 K1 (stok_at rfl rfl (by simp) (by kernel_rfl)) (fun wt Q hAt hcell hQ => ?_) fun x2 col2 w2 hx2 hA2 hown2 hB2 hs2 K2 => ?_
      · by_cases he : y % 2 = 0
        · exact gv_p3_even (by exact cell_of_row hAt.1.1 0) hkl ((hcell _).trans hcb1) h0 h255 (by rw [hy]; exact he) hx1.1 hx1.2.1 hx1.2.2.1 hx1.2.2.2.1 hx1.2.2.2.2.1 hQ
        · exact gv_p3_odd (by exact cell_of_row hAt.1.1 0) hkl ((hcell _).trans hcb1) h0 h255 (by exact cell_of_row hAt.1.2 0) ((hcell _).trans hco1) (by rw [hy]; exact he) hx1.1 hx1.2.1 hx1.2.2.1 hx1.2.2.2.1 hx1.2.2.2.2.1 fun a' hf => hQ a' (by rw [decide_eq_true (hc.resolve_left he)] at hf; exact hf)
      · refine Win.cond (t := true) (by simp only [Act.eval, T73]; exact hx2.2.2.2.2.2.1) ?_
        simp only [if_true]
        rw [← hy] at K2
        exact gv_claim (st := fun g => (gvN TT GG nn ix l g).2) (tr := fun g => (gvN TT GG nn ix l g).1) hmv hin hkl hix hWb ⟨hx2.1, hx2.2.1, hx2.2.2.1, hx2.2.2.2.1, hx2.2.2.2.2.1, trivial⟩ hA2 hown2 hB2 hs2 K2 hnext
    · rw [gvN, if_neg hc] at K1
      have he : ¬ y % 2 = 0 := fun z => hc (.inl z)
      have hl0 : ¬ (g ix).length = 0 := fun z => hc (.inr z)
      refine hA1.still (KL := [(0, .iface 107 (.pointer (some ⟨a.m, 0, none⟩))), (1, .pointer (some ⟨q1, 0, none⟩)), (2, .pointer (some ⟨q2, 0, none⟩)), (3, .pointer (some ⟨bl, 0, none⟩)), (5, .int .i64 k), (28, .bool false)]) T73_shape hSh hown1 (priv_og _ _ _ _ _ _ _ _ _ _ _) hB1 hs1 K1 (stok_at rfl rfl (by simp) (by kernel_rfl)) (fun wt Q hAt hcell hQ => gv_p3_odd (by exact cell_of_row hAt.1.1 0) hkl ((hcell _).trans hcb1) h0 h255 (by exact cell_of_row hAt.1.2 0) ((hcell _).trans hco1) (by rw [hy]; exact he) hx1.1 hx1.2.1 hx1.2.2.1 hx1.2.2.2.1 hx1.2.2.2.2.1 fun a' hf => hQ a' (by rw [decide_eq_false hl0] at hf; exact hf)) fun x2 col2 w2 hx2 hA2 hown2 hB2 hs2 K2 => ?_
      refine Win.cond (t := false) (by simp only [Act.eval, T73]; exact hx2.2.2.2.2.2.1) ?_
      simp only [if_false, Bool.false_eq_true]
      refine Win.skip ?_
      obtain ⟨h, t, hg⟩ : ∃ h t, g ix = h :: t := by
        cases e : g ix with
        | nil => rw [e] at hl0; exact absurd rfl hl0
        | cons h t => exact ⟨h, t, rfl⟩
      simp only [hg, List.headD_cons, List.tail_cons] at K2
      refine gv_cut hg hix hWb (by kernel_rfl) ⟨hx2.1, hx2.2.1, hx2.2.2.1, hx2.2.2.2.1, hx2.2.2.2.2.1, trivial⟩ hA2 hown2 hB2 hs2 K2 fun s x3 col3 w3 hx3 hA3 hown3 hB3 hs3 K3 => ?_
      refine gv_give (h := h) (st := fun g => (gvN TT GG nn ix l g).2) (tr := fun g => (gvN TT GG nn ix l g).1) hmv hT hG hnn hx3 hA3 hown3 hB3 hs3 ?_ hnext
      by_cases hr : runG nn h.1 h.2 = true
      · simp only [if_pos hr] at K3 ⊢; exact K3
      · simp only [if_neg hr] at K3 ⊢; exact K3
end
end Go.Proofs.Ytnbaiinhalplcaa

namespace Go.Proofs.Ytnbaiinhalplcaa
set_option linter.unusedVariables false
set_option linter.unusedSimpArgs false
set_option maxRecDepth 100000
open Go.RowKit
open Go.Conc
open Go.ConcN (upd_ne upd_same)

section
variable {Post : Value → World → Prop} {W : World} {pA rA bh bl M TT GG nn ix b1 b2 q1 q2 ba ob cp : Nat} {a : Ag} {mv : Value} {gf : FuncId} {cap : Array Value} {l0 : List Int} {home : Goroutine → Prop} {n : Nat} {pl : Nat → Option Place} {F : Nat → Option (Nat × Nat)} {col : Nat → Col} {w : World} {g : Hands}

/-- THE PROGRAM, from its begin. -/
theorem gv_runs (hmv : mv = memV pA) (hT : TT ≤ 64) (hG : GG ≤ 8) (hnn : nn ≤ 64) (hin : ActsIn W ba ob l0) (h64 : l0.length < 64) (hix : ix < M) (hWb : W.heap.size ≤ bh)
    (hA : Acts (gvSB W bh bl) pA rA a mv home true false pl F col w) (hown : ∀ b, onGown b1 b2 q1 q2 b → col b = .ag a.j) (hAw : OnG a b1 b2 q1 q2 ba ob l0.length cp bh ix w) (hs : gvSh W bh bl M TT GG nn col w g)
    (K0 : Kont Post (gvSh W bh bl M TT GG nn) (gvSB W bh bl) pA rA a mv home n (gvN TT GG nn ix l0 g).1 pl F col w (gvN TT GG nn ix l0 g).2) :
    Win Try.prog Post pl n a.j (gor (Frame.enter Try.prog 9 (#[.iface 107 (.pointer (some ⟨a.m, 0, none⟩))] ++ #[.pointer (some ⟨q1, 0, none⟩), .pointer (some ⟨q2, 0, none⟩), .pointer (some ⟨bl, 0, none⟩)]) .normal) [runFr Try.prog Try.f31 a.p a.m b1 b2 gf cap, rootFr Try.prog]) w := by
  have hSh := gv_shar W bh bl M TT GG nn
  rw [enter_at (c := bodyOf Try.f9) Try.func9 rfl]
  refine win_slotsN T73_shape (K := [(0, .iface 107 (.pointer (some ⟨a.m, 0, none⟩))), (1, .pointer (some ⟨q1, 0, none⟩)), (2, .pointer (some ⟨q2, 0, none⟩)), (3, .pointer (some ⟨bl, 0, none⟩))]) (by kernel_rfl) ⟨by kernel_rfl, by kernel_rfl, by kernel_rfl, by kernel_rfl, trivial⟩ fun x hx => ?_
  rw [gv_e0]
  refine Win.seq ?_
  refine hA.still T73_shape hSh hown (priv_og _ _ _ _ _ _ _ _ _ _ _) hAw hs K0 (stok_at rfl rfl (by simp) (by kernel_rfl)) (fun wt Q hAt hcell hQ => gv_p0 hx.1 hx.2.1 hx.2.2.1 hx.2.2.2.1 hQ) fun x1 col1 w1 hx1 hA1 hown1 hB1 hs1 K1 => ?_
  refine Win.block ?_
  refine Win.loop ?_
  exact gv_loop hmv hT hG hnn hin h64 hix hWb l0 0 rfl (Nat.zero_le _) x1 home n pl F col1 w1 g hx1 hA1 hown1 hB1 hs1 K1
end
end Go.Proofs.Ytnbaiinhalplcaa

namespace Go.Proofs.Ytnbaiinhalplcaa
set_option linter.unusedVariables false
set_option linter.unusedSimpArgs false
set_option maxRecDepth 100000

/-- Whether a run covers a block. -/
def cov (h : Int × Int) (b : Nat) : Nat := if h.1 ≤ b ∧ (b : Int) < h.1 + h.2 then 1 else 0
/-- How many of the runs do. -/
def load : List (Int × Int) → Nat → Nat
  | [], _ => 0
  | h :: t, b => cov h b + load t b
theorem load_snoc (l : List (Int × Int)) (h : Int × Int) (b : Nat) : load (l ++ [h]) b = load l b + cov h b := by
  induction l with
  | nil => simp [load]
  | cons a t ih => simp only [List.cons_append, load, ih]; omega
/-- The sum over the first m agents. -/
def sumTo (f : Nat → Nat) : Nat → Nat
  | 0 => 0
  | m + 1 => sumTo f m + f m
theorem sumTo_add (f : Nat → Nat) (i d m : Nat) (h : i < m) : sumTo (fun j => if j = i then f j + d else f j) m = sumTo f m + d := by
  induction m with
  | zero => omega
  | succ m ih =>
    simp only [sumTo]
    by_cases e : i = m
    · subst e
      have : sumTo (fun j => if j = i then f j + d else f j) i = sumTo f i := by
        have key : ∀ k, k ≤ i → sumTo (fun j => if j = i then f j + d else f j) k = sumTo f k := fun k => by
          induction k with
          | zero => intro _; rfl
          | succ k ih2 =>
            intro hk
            simp only [sumTo]
            rw [ih2 (by omega), if_neg (by omega)]
        exact key i (Nat.le_refl _)
      rw [this, if_pos rfl]; omega
    · rw [ih (by omega), if_neg (fun z => e z.symm)]; omega
theorem le_sumTo (f : Nat → Nat) (i m : Nat) (h : i < m) : f i ≤ sumTo f m := by
  induction m with
  | zero => omega
  | succ m ih =>
    simp only [sumTo]
    by_cases e : i = m
    · subst e; omega
    · have := ih (by omega); omega
/-- Each block of n is free, or in one hand, or on one way back; no other is. 'fl i': the run that i gives back. -/
def Whole (n M : Nat) (v : Nat) (g : Hands) (fl : Nat → List (Int × Int)) : Prop :=
  ∀ b, (v.testBit b).toNat + sumTo (fun i => load (g i) b + load (fl i) b) M = if b < n then 1 else 0
theorem setN_bit' {x a r : Nat} {b : Bool} (i : Nat) (hx : x < 2 ^ 64) (ha : a + r ≤ 64) : (Bm.setN x a r b).testBit i = if a ≤ i ∧ i < a + r then b else x.testBit i := by
  by_cases hi : i < 64
  · exact Bm.setN_bit x a r b i hi
  · have h1 : (Bm.setN x a r b).testBit i = false := Nat.testBit_lt_two_pow (Nat.lt_of_lt_of_le (Bm.setN_lt x a r b) (Nat.pow_le_pow_right (by decide) (by omega)))
    have h2 : x.testBit i = false := Nat.testBit_lt_two_pow (Nat.lt_of_lt_of_le hx (Nat.pow_le_pow_right (by decide) (by omega)))
    rw [if_neg (by omega)]
    exact h1.trans h2.symm
/-- A Claim's touch. -/
theorem Whole.claim {n M v M' i : Nat} {g : Hands} {fl : Nat → List (Int × Int)} {r a : Int} {ok : Bool} (h : Whole n M v g fl) (hv : v < 2 ^ 64) (hi : i < M) (h1 : 1 ≤ r) (h3 : r ≤ 3) (hc : Claims v r a ok M') :
    Whole n M M' (if ok then setHs i (g i ++ [(a, r)]) g else g) fl := by
  rcases hc with ⟨k, hk, hf, ha, hok, hM⟩ | ⟨_, _, hok, hM⟩
  · rw [hok, if_pos rfl, ha, hM]
    have hr := hf.1
    simp only [Bm.isR, Bool.and_eq_true, decide_eq_true_eq] at hr
    have hall := Bm.allN_iff.1 hr.2
    intro b
    have hb := h b
    have e : ∀ m, sumTo (fun j => load (setHs i (g i ++ [((k : Int), r)]) g j) b + load (fl j) b) m = sumTo (fun j => if j = i then (load (g j) b + load (fl j) b) + cov ((k : Int), r) b else load (g j) b + load (fl j) b) m := fun m => by
      congr 1
      funext j
      by_cases ej : j = i
      · subst ej; simp only [setHs, if_true, load_snoc]; omega
      · simp only [setHs, if_neg ej]
    rw [e, sumTo_add _ i _ M hi, setN_bit' b hv (by omega)]
    by_cases hin : k ≤ b ∧ b < k + r.toNat
    · rw [if_pos hin]
      rw [hall b hin.1 hin.2] at hb
      have hcv : cov ((k : Int), r) b = 1 := by unfold cov; rw [if_pos (by omega)]
      rw [hcv]
      simp only [Bool.toNat_true, Bool.toNat_false] at hb ⊢
      omega
    · rw [if_neg hin]
      have hcv : cov ((k : Int), r) b = 0 := by unfold cov; rw [if_neg (by omega)]
      rw [hcv]
      omega
  · rw [hok, hM, if_neg (by simp)]
    exact h
/-- A Back's last touch. -/
theorem Whole.back {n M v i : Nat} {g : Hands} {fl : Nat → List (Int × Int)} {b r : Nat} (h : Whole n M v g fl) (hv : v < 2 ^ 64) (hi : i < M) (h1 : 1 ≤ r) (h3 : r ≤ 3) (hbr : b + r ≤ n) (hn : n ≤ 64) (hfl : fl i = [((b : Int), (r : Int))]) :
    Whole n M (giveM v b r) g (fun j => if j = i then [] else fl j) := by
  have e : ∀ c, sumTo (fun j => load (g j) c + load (fl j) c) M = sumTo (fun j => load (g j) c + load (if j = i then [] else fl j) c) M + cov ((b : Int), (r : Int)) c := fun c => by
    rw [← sumTo_add _ i _ M hi]
    congr 1
    funext j
    by_cases ej : j = i
    · subst ej; simp only [if_true, hfl, load]; omega
    · simp only [if_neg ej]
  have hclear : ∀ c, b ≤ c → c < b + r → v.testBit c = false := fun c hc1 hc2 => by
    have hb := h c
    rw [e c, if_pos (by omega)] at hb
    have hcv : cov ((b : Int), (r : Int)) c = 1 := by unfold cov; rw [if_pos (by omega)]
    rw [hcv] at hb
    cases hx : v.testBit c with
    | false => rfl
    | true => rw [hx] at hb; simp only [Bool.toNat_true] at hb; omega
  have hR : Bm.isR v b r false = true := by
    simp only [Bm.isR, Bool.and_eq_true, decide_eq_true_eq]
    exact ⟨by omega, Bm.allN_iff.2 fun c hc1 hc2 => hclear c (by simpa using hc1) (by simpa using hc2)⟩
  intro c
  have hb := h c
  rw [e c] at hb
  unfold giveM
  rw [if_pos hR, setN_bit' c hv (by omega)]
  by_cases hin : b ≤ c ∧ c < b + r
  · rw [if_pos hin]
    rw [hclear c hin.1 hin.2] at hb
    have hcv : cov ((b : Int), (r : Int)) c = 1 := by unfold cov; rw [if_pos (by omega)]
    rw [hcv] at hb
    simp only [Bool.toNat_true, Bool.toNat_false] at hb ⊢
    omega
  · rw [if_neg hin]
    have hcv : cov ((b : Int), (r : Int)) c = 0 := by unfold cov; rw [if_neg (by omega)]
    rw [hcv] at hb
    omega
/-- The first hand is cut off: it is on its way back. -/
theorem Whole.cut {n M v i : Nat} {g : Hands} {fl : Nat → List (Int × Int)} {x : Int × Int} {t : List (Int × Int)} (h : Whole n M v g fl) (hg : g i = x :: t) (hfl : fl i = []) : Whole n M v (setHs i t g) (fun j => if j = i then [x] else fl j) := by
  intro b
  have hb := h b
  have e : ∀ m, sumTo (fun j => load (setHs i t g j) b + load (if j = i then [x] else fl j) b) m = sumTo (fun j => load (g j) b + load (fl j) b) m := fun m => by
    congr 1
    funext j
    by_cases ej : j = i
    · subst ej; simp only [setHs, if_true, hg, hfl, load]; omega
    · simp only [setHs, if_neg ej]
  rw [e]; exact hb
end Go.Proofs.Ytnbaiinhalplcaa

namespace Go.Proofs.Ytnbaiinhalplcaa
open List renaming getElem_cons_succ → gtS, set_cons_succ → scS
set_option linter.unusedVariables false
set_option linter.unusedSimpArgs false
set_option maxRecDepth 100000

def Byts (l : List Int) : Prop := ∀ x ∈ l, 0 ≤ x
/-- All hands are runs of the blocks. -/
def Valid (n M : Nat) (g : Hands) : Prop := ∀ i, i < M → ∀ h ∈ g i, 1 ≤ h.2 ∧ h.2 ≤ 3 ∧ 0 ≤ h.1 ∧ h.1 + h.2 ≤ n
/-- It waits ahead of a Claim's touch. -/
noncomputable def clN (n i : Nat) (x : Int) (l : List Int) : Tree Hands := .node 0 (fun v => (mapN (runOf x) v : Nat)) (fun v g => (gvN 1 1 n i l (clmG i (runOf x) v g)).2) (fun v g => (gvN 1 1 n i l (clmG i (runOf x) v g)).1) (fun g => g) (fun g => (g i).length ≤ 20)
/-- It waits ahead of a touch of a Back. -/
noncomputable def bkN (n i b r : Nat) (l : List Int) (j : Nat) : Tree Hands := bkT (3 + 1 + 1 + b) (giveI b r) (fun g => (gvN 1 1 n i l g).2) (fun g => (gvN 1 1 n i l g).1) (fun g => g) j
/-- How an agent stands, and what it is giving back. -/
inductive Ph (n i : Nat) : List (Int × Int) → Tree Hands → Prop
  | over : Ph n i [] .ret
  | claim (x : Int) (l : List Int) (h0 : 0 ≤ x) (hl : Byts l) : Ph n i [] (clN n i x l)
  | back (b r j : Nat) (l : List Int) (h1 : 1 ≤ r) (h3 : r ≤ 3) (hb : b + r ≤ n) (hj : j ≤ r) (hl : Byts l) : Ph n i [((b : Int), (r : Int))] (bkN n i b r l j)

theorem setHs_self (i : Nat) (l : List (Int × Int)) (g : Hands) : setHs i l g i = l := by simp [setHs]
theorem setHs_other {i j : Nat} (l : List (Int × Int)) (g : Hands) (h : j ≠ i) : setHs i l g j = g j := by simp [setHs, h]
theorem Valid.set {n M i : Nat} {g : Hands} {l : List (Int × Int)} (h : Valid n M g) (hl : ∀ h ∈ l, 1 ≤ h.2 ∧ h.2 ≤ 3 ∧ 0 ≤ h.1 ∧ h.1 + h.2 ≤ n) : Valid n M (setHs i l g) := fun j hj x hx => by
  by_cases e : j = i
  · subst e; rw [setHs_self] at hx; exact hl x hx
  · rw [setHs_other l g e] at hx; exact h j hj x hx
theorem fl_same {fl : Nat → List (Int × Int)} {i : Nat} (h : fl i = []) : (fun j => if j = i then [] else fl j) = fl := by
  funext j
  by_cases e : j = i
  · subst e; simp [h]
  · simp [e]

/-- To its next touch. -/
theorem ph_next {n M v i : Nat} {g : Hands} {fl : Nat → List (Int × Int)} {l : List Int} (hW : Whole n M v g fl) (hV : Valid n M g) (hi : i < M) (hf : fl i = []) (hl : Byts l) :
    ∃ f, Whole n M v (gvN 1 1 n i l g).2 (fun j => if j = i then f else fl j) ∧ Valid n M (gvN 1 1 n i l g).2 ∧ Ph n i f (gvN 1 1 n i l g).1 := by
  cases l with
  | nil =>
    refine ⟨[], ?_, hV, .over⟩
    rw [fl_same hf]; exact hW
  | cons x l =>
    have hx : 0 ≤ x := hl x (by simp)
    have hl' : Byts l := fun y hy => hl y (by simp [hy])
    unfold gvN
    by_cases hc : x % 2 = 0 ∨ (g i).length = 0
    · rw [if_pos hc]
      refine ⟨[], ?_, hV, .claim x l hx hl'⟩
      rw [fl_same hf]; exact hW
    · rw [if_neg hc]
      obtain ⟨h, t, hg⟩ : ∃ h t, g i = h :: t := by
        cases hh : g i with
        | nil => exact absurd (by simp [hh]) hc
        | cons h t => exact ⟨h, t, rfl⟩
      have hv := hV i hi h (by rw [hg]; simp)
      have hr : runG n ((g i).headD (0, 0)).1 ((g i).headD (0, 0)).2 = true := by
        rw [hg]; exact runG_iff.2 ⟨hv.1, hv.2.1, hv.2.2.1, hv.2.2.2⟩
      rw [if_pos hr]
      have hb : h = ((h.1.toNat : Int), (h.2.toNat : Int)) := by
        ext <;> simp only <;> omega
      refine ⟨[h], ?_, hV.set fun y hy => hV i hi y (by rw [hg] at hy ⊢; exact List.mem_cons_of_mem _ hy), ?_⟩
      · have := hW.cut hg hf
        rw [hg]; exact this
      · rw [hg]
        have := Ph.back (n := n) (i := i) h.1.toNat h.2.toNat h.2.toNat l (by omega) (by omega) (by omega) (Nat.le_refl _) hl'
        rw [← hb] at this
        exact this

/-! Sums -/
theorem sumTo_plus (f g : Nat → Nat) (m : Nat) : sumTo (fun b => f b + g b) m = sumTo f m + sumTo g m := by
  induction m with
  | zero => rfl
  | succ m ih => simp only [sumTo, ih]; omega
theorem sumTo_zero (m : Nat) : sumTo (fun _ => 0) m = 0 := by
  induction m with
  | zero => rfl
  | succ m ih => simp only [sumTo, ih]
theorem sumTo_congr {f g : Nat → Nat} {m : Nat} (h : ∀ b, b < m → f b = g b) : sumTo f m = sumTo g m := by
  induction m with
  | zero => rfl
  | succ m ih => simp only [sumTo]; rw [ih fun b hb => h b (by omega), h m (by omega)]
theorem sumTo_le {f : Nat → Nat} {m : Nat} (h : ∀ b, b < m → f b ≤ 1) : sumTo f m ≤ m := by
  induction m with
  | zero => simp [sumTo]
  | succ m ih => simp only [sumTo]; have := ih fun b hb => h b (by omega); have := h m (by omega); omega
theorem sumTo_swap (f : Nat → Nat → Nat) (n M : Nat) : sumTo (fun b => sumTo (fun i => f i b) M) n = sumTo (fun i => sumTo (fun b => f i b) n) M := by
  induction M with
  | zero => simp only [sumTo]; exact sumTo_zero n
  | succ M ih => simp only [sumTo]; rw [sumTo_plus, ih]
theorem sumTo_cov (a r m : Nat) : sumTo (fun b => cov ((a : Int), (r : Int)) b) m = min (m - a) r := by
  induction m with
  | zero => simp [sumTo]
  | succ m ih =>
    simp only [sumTo, ih]
    unfold cov
    split <;> omega
/-- How many blocks hands have. -/
def runs : List (Int × Int) → Nat
  | [] => 0
  | h :: t => h.2.toNat + runs t
theorem runs_snoc (l : List (Int × Int)) (h : Int × Int) : runs (l ++ [h]) = runs l + h.2.toNat := by
  induction l with
  | nil => simp [runs]
  | cons a t ih => simp only [List.cons_append, runs, ih]; omega
theorem sum_load {n : Nat} {l : List (Int × Int)} (h : ∀ h ∈ l, 1 ≤ h.2 ∧ h.2 ≤ 3 ∧ 0 ≤ h.1 ∧ h.1 + h.2 ≤ n) : sumTo (fun b => load l b) n = runs l := by
  induction l with
  | nil => simp only [load, runs]; exact sumTo_zero n
  | cons x t ih =>
    simp only [load, runs]
    rw [sumTo_plus, ih fun y hy => h y (List.mem_cons_of_mem _ hy)]
    have hx := h x (by simp)
    have e : x = ((x.1.toNat : Int), (x.2.toNat : Int)) := by ext <;> simp only <;> omega
    have := sumTo_cov x.1.toNat x.2.toNat n
    rw [← e] at this
    rw [this]; omega
theorem len_runs {n : Nat} {l : List (Int × Int)} (h : ∀ h ∈ l, 1 ≤ h.2 ∧ h.2 ≤ 3 ∧ 0 ≤ h.1 ∧ h.1 + h.2 ≤ n) : l.length ≤ runs l := by
  induction l with
  | nil => simp
  | cons x t ih =>
    have := ih fun y hy => h y (List.mem_cons_of_mem _ hy)
    have hx := h x (by simp)
    simp only [List.length_cons, runs]; omega
theorem Whole.len {n M v i : Nat} {g : Hands} {fl : Nat → List (Int × Int)} (hW : Whole n M v g fl) (hV : Valid n M g) (hi : i < M) : (g i).length ≤ n := by
  refine Nat.le_trans (len_runs (hV i hi)) ?_
  rw [← sum_load (hV i hi)]
  refine sumTo_le fun b hb => ?_
  have h := hW b
  rw [if_pos hb] at h
  have := le_sumTo (fun i => load (g i) b + load (fl i) b) i M hi
  omega
/-- At the end. -/
theorem Whole.ends {n M v : Nat} {g : Hands} {fl : Nat → List (Int × Int)} (hW : Whole n M v g fl) (hV : Valid n M g) (hf : ∀ i, i < M → fl i = []) : sumTo (fun i => runs (g i)) M + sumTo (fun b => (v.testBit b).toNat) n = n := by
  have h1 : sumTo (fun b => (v.testBit b).toNat + sumTo (fun i => load (g i) b) M) n = sumTo (fun _ => 1) n := sumTo_congr fun b hb => by
    have h := hW b
    rw [if_pos hb] at h
    rw [← h]
    congr 1
    exact sumTo_congr fun i hi => by rw [hf i hi]; simp [load]
  rw [sumTo_plus, sumTo_swap] at h1
  have h2 : sumTo (fun _ => 1) n = n := by
    clear hW hV h1
    induction n with
    | zero => rfl
    | succ n ih => simp only [sumTo, ih]
  rw [h2] at h1
  have h3 : sumTo (fun i => sumTo (fun b => load (g i) b) n) M = sumTo (fun i => runs (g i)) M := sumTo_congr fun i hi => sum_load (hV i hi)
  rw [h3] at h1
  omega
theorem sumTo_mono {f : Nat → Nat} {i m : Nat} (h : i ≤ m) : sumTo f i ≤ sumTo f m := by
  induction m with
  | zero => obtain rfl : i = 0 := by omega
            exact Nat.le_refl _
  | succ m ih =>
    by_cases e : i = m + 1
    · subst e; exact Nat.le_refl _
    · simp only [sumTo]; have := ih (by omega); omega
theorem load_take (l : List (Int × Int)) (k : Nat) (h : k < l.length) (b : Nat) : load (l.take k) b + cov l[k] b ≤ load l b := by
  induction l generalizing k with
  | nil => simp at h
  | cons x t ih =>
    cases k with
    | zero => simp [load]
    | succ k =>
      have := ih k (by simpa using h)
      simp only [List.take_succ_cons, load, gtS]; omega
/-- What apart asks at a block of a hand. -/
theorem Whole.apart {n M v i k j : Nat} {g : Hands} {fl : Nat → List (Int × Int)} (hW : Whole n M v g fl) (hV : Valid n M g) (hi : i < M) (hk : k < (g i).length) (h1 : (g i)[k].1 ≤ j) (h2 : (j : Int) < (g i)[k].1 + (g i)[k].2) :
    j < n ∧ v.testBit j = false ∧ sumTo (fun i => load (g i) j) i = 0 ∧ load ((g i).take k) j = 0 := by
  have hv := hV i hi _ (List.getElem_mem hk)
  have hj : j < n := by omega
  have h := hW j
  rw [if_pos hj, sumTo_plus] at h
  have hc : cov (g i)[k] j = 1 := by unfold cov; rw [if_pos ⟨h1, h2⟩]
  have h3 := load_take (g i) k hk j
  have h4 : sumTo (fun i => load (g i) j) (i + 1) ≤ sumTo (fun i => load (g i) j) M := sumTo_mono hi
  simp only [sumTo] at h4
  refine ⟨hj, ?_, by omega, by omega⟩
  cases hx : v.testBit j with
  | false => rfl
  | true => rw [hx] at h; simp only [Bool.toNat_true] at h; omega

/-! What the law knows between two turns -/
def wordsW (n v : Nat) : List Int := (v : Int) :: List.replicate (4 + 33 * n) 0
theorem wordsW_len (n v : Nat) : (wordsW n v).length = 5 + 33 * n := by simp [wordsW]; omega
theorem wordsW_set0 (n v u : Nat) : (wordsW n v).set 0 (u : Int) = wordsW n u := rfl
theorem wordsW_zero (n v k : Nat) (hk : 0 < k) : (wordsW n v).set k 0 = wordsW n v := by
  obtain ⟨k, rfl⟩ : ∃ j, k = j + 1 := ⟨k - 1, by omega⟩
  simp only [wordsW, scS]
  congr 1
  apply List.ext_getElem (by simp)
  intro i h1 h2
  simp only [List.getElem_set, List.getElem_replicate]
  split <;> rfl
def GS (n M : Nat) (T : Nat → Tree Hands) (ws : List Int) (g : Hands) : Prop :=
  ∃ v fl, v < 2 ^ 64 ∧ ws = wordsW n v ∧ Whole n M v g fl ∧ Valid n M g ∧ ∀ i, i < M → Ph n i (fl i) (T i)

theorem GS.step {n M i : Nat} {T : Nat → Tree Hands} {s : St} {g : Hands} (h : GS n M T s.ws g) (hi : i < M) (hn : n ≤ 20) :
    T i = .ret ∨ ∃ kk φ c nx hl pre, T i = .node kk φ c nx hl pre ∧ pre g ∧ (∀ g, hl g = g) ∧ GS n M (fun j => if j = i then nx (was s kk) g else T j) (upd s kk (φ (was s kk))).ws (c (was s kk) g) := by
  obtain ⟨v, fl, hv, hws, hW, hV, hP⟩ := h
  have hPi := hP i hi
  have h0 : inB s 0 = true := inB_iff.2 ⟨by omega, by rw [hws, wordsW_len]; omega⟩
  have hw0 : was s 0 = v := by rw [was_in h0, hws]; rfl
  generalize hfi : fl i = fi at hPi
  generalize hTi : T i = Ti at hPi
  cases hPi with
  | over => exact .inl rfl
  | claim x l hx hl =>
    right
    have hr := runOf_in hx
    refine ⟨_, _, _, _, _, _, rfl, Nat.le_trans (hW.len hV hi) hn, fun _ => rfl, ?_⟩
    rw [hw0]
    have hc := claims_is (runOf x) v
    simp only [Int.toNat_natCast] at hc
    have hW2 := hW.claim hv hi hr.1 hr.2 hc
    have hV2 : Valid n M (clmG i (runOf x) v g) := by
      unfold clmG
      split
      · rename_i ho
        refine hV.set fun y hy => ?_
        rcases List.mem_append.1 hy with hy | hy
        · exact hV i hi y hy
        · rw [List.mem_singleton] at hy
          subst hy
          rcases hc with ⟨k, hk, hf, ha, hok, hM⟩ | ⟨_, _, hok, _⟩
          · have hf1 := hf.1
            simp only [Bm.isR, Bool.and_eq_true, decide_eq_true_eq] at hf1
            have hall := Bm.allN_iff.1 hf1.2
            have hb := hall (k + (runOf x).toNat - 1) (by simp only [Int.toNat_natCast]; omega) (by simp only [Int.toNat_natCast]; omega)
            have hwb := hW (k + (runOf x).toNat - 1)
            rw [hb] at hwb
            by_cases hlt : k + (runOf x).toNat - 1 < n
            · simp only [ha]
              omega
            · rw [if_neg hlt] at hwb
              simp only [Bool.toNat_true] at hwb
              omega
          · rw [hok] at ho; cases ho
      · exact hV
    have hm : mapN (runOf x) v < 2 ^ 64 := claims_lt hc hv
    have hW3 : Whole n M (mapN (runOf x) v) (clmG i (runOf x) v g) fl := hW2
    obtain ⟨f, hW4, hV4, hP4⟩ := ph_next hW3 hV2 hi hfi hl
    refine ⟨mapN (runOf x) v, _, hm, ?_, hW4, hV4, fun j hj => ?_⟩
    · rw [upd_in h0, hws]; exact wordsW_set0 n v _
    · by_cases e : j = i
      · subst e; simp only [if_true]; exact hP4
      · simp only [if_neg e]; exact hP j hj
  | back b r j l h1 h3 hb hj hl =>
    right
    cases j with
    | zero =>
      refine ⟨_, _, _, _, _, _, rfl, trivial, fun _ => rfl, ?_⟩
      rw [hw0]
      have hW2 := hW.back hv hi h1 h3 hb (by omega) hfi
      obtain ⟨f, hW4, hV4, hP4⟩ := ph_next hW2 hV hi (by simp) hl
      have e4 : (fun j => if j = i then f else (fun j => if j = i then [] else fl j) j) = fun j => if j = i then f else fl j := by
        funext j
        by_cases e : j = i <;> simp [e]
      rw [e4] at hW4
      refine ⟨giveM v b r, _, giveM_lt hv, ?_, hW4, hV4, fun j hj => ?_⟩
      · rw [upd_in h0, hws]
        simp only [giveI, Int.toNat_natCast]
        exact wordsW_set0 n v _
      · by_cases e : j = i
        · subst e; simp only [if_true]; exact hP4
        · simp only [if_neg e]; exact hP j hj
    | succ j =>
      refine ⟨_, _, _, _, _, _, rfl, trivial, fun _ => rfl, ?_⟩
      refine ⟨v, fl, hv, ?_, hW, hV, fun k hk => ?_⟩
      · have hin : inB s ((3 + 1 + 1 + b + j : Nat) : Int) = true := inB_iff.2 ⟨by omega, by rw [hws, wordsW_len]; omega⟩
        rw [upd_in hin, hws]
        simp only [Int.toNat_natCast]
        exact wordsW_zero _ _ _ (by omega)
      · by_cases e : k = i
        · subst e
          simp only [if_true]
          rw [hfi]
          exact .back b r j l h1 h3 hb (by omega) hl
        · simp only [if_neg e]; exact hP k hk
end Go.Proofs.Ytnbaiinhalplcaa

namespace Go.Proofs.Ytnbaiinhalplcaa
set_option linter.unusedVariables false
set_option linter.unusedSimpArgs false
set_option maxRecDepth 100000
open Go.RowKit
open Go.Conc
open Go.ConcN (upd_ne upd_same)

def T219 (x : Nat → Value) : Array Value := #[x 0, x 1, x 2, x 3, x 4, x 5, x 6, x 7, x 8, x 9, x 10, x 11, x 12, x 13, x 14, x 15, x 16, x 17, x 18, x 19, x 20, x 21, x 22, x 23, x 24, x 25, x 26, x 27, x 28, x 29, x 30, x 31, x 32, x 33, x 34, x 35, x 36, x 37, x 38, x 39, x 40, x 41, x 42, x 43, x 44, x 45, x 46, x 47, x 48, x 49, x 50, x 51, x 52, x 53, x 54, x 55, x 56, x 57, x 58, x 59, x 60, x 61, x 62, x 63, x 64, x 65, x 66, x 67, x 68, x 69, x 70, x 71, x 72, x 73, x 74, x 75, x 76, x 77, x 78, x 79, x 80, x 81, x 82, x 83, x 84, x 85, x 86, x 87, x 88, x 89, x 90, x 91, x 92, x 93, x 94, x 95, x 96, x 97, x 98, x 99, x 100, x 101, x 102, x 103, x 104, x 105, x 106, x 107, x 108, x 109, x 110, x 111, x 112, x 113, x 114, x 115, x 116, x 117, x 118, x 119, x 120, x 121, x 122, x 123, x 124, x 125, x 126, x 127, x 128, x 129, x 130, x 131, x 132, x 133, x 134, x 135, x 136, x 137, x 138, x 139, x 140, x 141, x 142, x 143, x 144, x 145, x 146, x 147, x 148, x 149, x 150, x 151, x 152, x 153, x 154, x 155, x 156, x 157, x 158, x 159, x 160, x 161, x 162, x 163, x 164, x 165, x 166, x 167, x 168, x 169, x 170, x 171, x 172, x 173, x 174, x 175, x 176, x 177, x 178, x 179, x 180, x 181, x 182, x 183, x 184, x 185, x 186, x 187, x 188, x 189, x 190, x 191, x 192, x 193, x 194, x 195, x 196, x 197, x 198, x 199, x 200, x 201, x 202, x 203, x 204, x 205, x 206, x 207, x 208, x 209, x 210, x 211, x 212, x 213, x 214, x 215, x 216, x 217, x 218]
theorem T219_shape : ShapeN 219 T219 := fun _ => by kernel_rfl
theorem lies_none {pl : Nat → Option Place} (h : ∀ i, pl i = none) (w : World) : Lies pl (fun _ => none) w :=
  ⟨fun i r z => (by cases z), fun i s c hi => (by rw [h i] at hi; cases hi), fun i s a v hi => (by rw [h i] at hi; cases hi)⟩
theorem Kp.ks0 {w w' : World} (h : Kp [] w w') : Ks (fun _ => False) w w' := (ks_of_kp h).mono fun b _ z => by cases z

theorem step_over (w : World) (p : Nat) (h6 : w.cell? ⟨p, 6, none⟩ = some (.bool true)) : Calls Try.prog 12 #[.pointer (some ⟨p, 0, none⟩)] w fun e w' => e = .returned (.int .i64 6) ∧ Kp [] w w' := by
  have hlt : p < w.heap.size := World.block_lt_of_cell? _ _ h6
  have h6' := alloc_cell w (.cells #[.pointer (some ⟨p, 0, none⟩)] 35) h6
  go_enter Try.func12, Try.ntmps12
  go_wp2
  simp [bodyPost, results, Try.results12]
  exact (Kp.refl [] w).alloc _
theorem stop_over (w : World) (p : Nat) (h6 : w.cell? ⟨p, 6, none⟩ = some (.bool true)) : Calls Try.prog 16 #[.pointer (some ⟨p, 0, none⟩)] w fun e w' => e = .returned (.tuple #[]) ∧ w' = w := by
  go_enter Try.func16, Try.ntmps16
  go_wp2_with (go_at_call 15; refine (done_at _ p true h6).mono ?_; rintro e w1 ⟨rfl, rfl⟩)
  simp [bodyPost, results, Try.results16]

theorem size_agent : Try.t35.size = 1 := rfl
section
variable {W : World} {ρ : Operand → Value} {o : Oper}
theorem op_index_ag (ba i n cp : Nat) {x y : Nat} (hi : i < n) (ho : o.op = .indexAddr 32 (.tmp x) (.tmp y)) (hρ : ρ (.tmp x) = .slice (some ⟨ba, 0, none⟩) n cp) (hρ' : ρ (.tmp y) = .int .i64 i) :
    (execOp ρ o).runT Try.prog W #[] = (.ok (.value (.pointer (some ⟨ba, i, none⟩))) W, #[]) := by
  have s48 := size_agent
  rw [Sem.runT_eq]
  simp [go_sem, execOp, ho, hρ, hρ', hi]
  try (first | done | (simp [Addr.add, s48]; done) | (simp [Addr.add, s48]; omega) | rfl)
end
def ptrs (ag : Nat → Ag) (k : Nat) : List Value := (List.range k).map fun j => .pointer (some ⟨(ag j).p, 0, none⟩)
theorem ptrs_succ (ag : Nat → Ag) (k : Nat) (a : Ag) : ptrs (fun j => if j = k then a else ag j) (k + 1) = ptrs ag k ++ [.pointer (some ⟨a.p, 0, none⟩)] := by
  simp only [ptrs, List.range_succ, List.map_append, List.map_cons, List.map_nil, if_true]
  congr 1
  apply List.map_congr_left
  intro j hj
  rw [if_neg (by have := List.mem_range.1 hj; omega)]
theorem priv_rw (T : TypeId) (sz base : Nat) (v : Value) (n : Nat) (xs : List Value) : Priv (fun b => b ∈ blk v) (fun w => Rw T sz base w v n xs) := by
  refine ⟨fun w w' h hb => ⟨h.own.1, ?_⟩, fun w b h hb => ?_, fun w b h hb => ?_⟩
  · rcases h.own.2 with h0 | ⟨b, c, cur, rfl, hge, hbk, r⟩
    · exact .inl h0
    · exact .inr ⟨b, c, cur, rfl, hge, (hb b (by simp [blk_some])).trans hbk, r⟩
  · obtain ⟨_, cur, hc⟩ := h.block b hb
    rw [hc]; rfl
  · obtain ⟨_, cur, hc⟩ := h.block b hb
    exact lt_of_block hc
theorem stepG_done {P : Program} {fr : Frame} {v : Value} (hm : fr.mode = .returning) (hd : fr.defers = []) (hk : fr.kind = .normal) {fn : Func} (hf : P.funcs[fr.fn]? = some fn) (hi : P.inits.idxOf? fr.fn = none) (hr : ∀ w, (results fn fr.tmps).runT P w #[] = (.ok v w, #[])) (w : World) :
    stepG P true (gor fr []) w = .ended (.done v) w := by
  rw [stepG_not_run (by rw [hm]; simp)]
  unfold unwind
  simp only [hd, hm, hf, hr w, doReturn, hk, GStep.after, gor, hi, Bool.not_true, if_false, Bool.false_eq_true]
  simp [seen]

section
variable {N : Nat} {TT : (Nat → Value) → Array Value} {pl : Nat → Option Place} {F : Nat → Option (Nat × Nat)} {col : Nat → Col} {SB : Nat → Prop} {pA rA : Nat} {w : World} {n h : Nat} {Post : Value → World → Prop} {own : Nat → Prop} {A : World → Prop} {b : Frame} {x : Nat → Value} {k : List Item} {cs : List Frame} {c : Code}

/-- Nobody waits: a piece that turns nothing. -/
theorem none_still (HT : ShapeN N TT) (hpl : ∀ i, pl i = none) (hP : Priv own A) (hA : A w) {K' : List (Nat × Value)} (hok : StOK Try.prog (b.at ⟨TT x, []⟩ (.code c :: k)) [])
    (hc : ∀ (wt : World) (Q : Exit → Act → World → Prop), A wt → (∀ a', FrN N K' a' → Q .normal a' wt) → c.wp Try.prog Q ⟨TT x, []⟩ wt)
    (H : ∀ (x' : Nat → Value) w', HasN x' K' → A w' → Ks (fun _ => False) w w' → Win Try.prog Post pl n h (gor (b.at ⟨TT x', []⟩ k) []) w') :
    Win Try.prog Post pl n h (gor (b.at ⟨TT x, []⟩ (.code c :: k)) []) w := by
  refine (lies_none hpl w).pieceN HT (fun _ _ => rfl) (ι := Unit) (S := fun _ => False) hP hA (fun _ _ => rfl) (own' := fun _ => own) (A' := fun _ => A) (fun _ => hP) (K' := fun _ => K') hok (fun wt Q h1 _ _ hQ => hc wt Q h1 fun a' hf => hQ a' () wt (fun y hy => .inl hy) hf h1 (Ks.refl _ _)) fun x' i w' _ hx ha hk _ => H x' w' hx ha hk
/-- Nobody waits: a piece that makes blocks. -/
theorem none_new (HT : ShapeN N TT) (hpl : ∀ i, pl i = none) (hP : Priv own A) (hA : A w) {ι : Type} {own' : ι → Nat → Prop} {A' : ι → World → Prop} (hP' : ∀ i, Priv (own' i) (A' i)) (hfr : ∀ i y, own' i y → w.heap.size ≤ y) {K' : ι → List (Nat × Value)} (hok : StOK Try.prog (b.at ⟨TT x, []⟩ (.code c :: k)) [])
    (hc : ∀ (wt : World) (Q : Exit → Act → World → Prop), A wt → wt.heap.size = w.heap.size → (∀ ad, wt.cell? ad = w.cell? ad) → (∀ a' i w', FrN N (K' i) a' → A' i w' → Kp [] wt w' → Q .normal a' w') → c.wp Try.prog Q ⟨TT x, []⟩ wt)
    (H : ∀ (x' : Nat → Value) i w', HasN x' (K' i) → A w' → A' i w' → Ks (fun _ => False) w w' → Win Try.prog Post pl n h (gor (b.at ⟨TT x', []⟩ k) []) w') :
    Win Try.prog Post pl n h (gor (b.at ⟨TT x, []⟩ (.code c :: k)) []) w := by
  refine (lies_none hpl w).pieceN HT (fun _ _ => rfl) (ι := ι) (S := fun _ => False) hP hA (fun _ _ => rfl) (own' := fun i y => own y ∨ own' i y) (A' := fun i w => A w ∧ A' i w) (fun i => hP.and (hP' i)) (K' := K') hok (fun wt Q h1 h2 h3 hQ => hc wt Q h1 h2 h3 fun a' i w' hf ha hk => hQ a' i w' (fun y hy => hy.imp id fun z => ⟨by have := hfr i y z; omega, (hP' i).lt _ _ ha z⟩) hf ⟨hP.st _ _ h1 fun y hy => hk.block y (hP.lt _ _ h1 hy) (by simp), ha⟩ ((ks_of_kp hk).mono fun _ _ z => by simp at z)) fun x' i w' _ hx ha hk _ => H x' i w' hx ha.1 ha.2 hk

/-- Who steps makes one block. -/
theorem deskN_new (HT : ShapeN N TT) (D : Desk SB pA rA pl F col w) {cs0 : Nat → Array Value} {t : TypeId} {K' : Nat → List (Nat × Value)}
    (hok : StOK Try.prog (b.at ⟨TT x, []⟩ (.code c :: k)) [])
    (hc : ∀ (wt : World) (Q : Exit → Act → World → Prop), wt.heap.size = w.heap.size → (∀ ad, wt.cell? ad = w.cell? ad) → (∀ a' w', FrN N (K' wt.heap.size) a' → w'.heap[wt.heap.size]? = some (.cells (cs0 wt.heap.size) t (0, 0)) → Kp [] wt w' → Q .normal a' w') → c.wp Try.prog Q ⟨TT x, []⟩ wt)
    (H : ∀ (x' : Nat → Value) w', HasN x' (K' w.heap.size) → w'.heap[w.heap.size]? = some (.cells (cs0 w.heap.size) t (0, 0)) → Ks (fun _ => False) w w' → Desk SB pA rA pl F col w' → Win Try.prog Post pl n 0 (gor (b.at ⟨TT x', []⟩ k) cs) w') :
    Win Try.prog Post pl n 0 (gor (b.at ⟨TT x, []⟩ (.code c :: k)) cs) w := by
  refine D.pieceN HT (own := fun _ => False) (S := fun _ => False) (A := fun _ => True) (Priv.const True) trivial (fun _ h => h.elim) (ι := Unit) (own' := fun _ => (· = w.heap.size)) (A' := fun _ w' => w'.heap[w.heap.size]? = some (.cells (cs0 w.heap.size) t (0, 0))) (fun _ => Priv.row _ _ _ _) (K' := fun _ => K' w.heap.size) hok (fun wt Q _ h2 h3 hQ => hc wt Q h2 h3 fun a' w' hf hr hk => ?_) fun x' _ w' _ hx hr hk D => H x' w' hx hr hk D
  rw [h2] at hf hr
  exact hQ a' () w' (fun y hy => .inr (by have hy' : y = w.heap.size := hy; have := lt_of_block hr; omega)) hf hr ((ks_of_kp hk).mono fun _ _ z => by simp at z)
/-- Who steps looks. -/
theorem deskN_look (HT : ShapeN N TT) (D : Desk SB pA rA pl F col w) {K' : List (Nat × Value)}
    (hok : StOK Try.prog (b.at ⟨TT x, []⟩ (.code c :: k)) [])
    (hc : ∀ (wt : World) (Q : Exit → Act → World → Prop), (∀ ad, wt.cell? ad = w.cell? ad) → (∀ a', FrN N K' a' → Q .normal a' wt) → c.wp Try.prog Q ⟨TT x, []⟩ wt)
    (H : ∀ (x' : Nat → Value) w', HasN x' K' → Ks (fun _ => False) w w' → Desk SB pA rA pl F col w' → Win Try.prog Post pl n 0 (gor (b.at ⟨TT x', []⟩ k) cs) w') :
    Win Try.prog Post pl n 0 (gor (b.at ⟨TT x, []⟩ (.code c :: k)) cs) w :=
  D.pieceN HT (own := fun _ => False) (S := fun _ => False) (A := fun _ => True) (Priv.const True) trivial (fun _ h => h.elim) (ι := Unit) (own' := fun _ _ => False) (A' := fun _ _ => True) (fun _ => Priv.const True) (K' := fun _ => K') hok (fun wt Q _ _ h3 hQ => hc wt Q h3 fun a' hf => hQ a' () wt (fun y hy => hy.elim) hf trivial (Ks.refl _ _)) fun x' _ w' _ hx _ hk D => H x' w' hx hk D
/-- The way out of a loop. -/
theorem deskN_exit (HT : ShapeN N TT) (D : Desk SB pA rA pl F col w) {K' : List (Nat × Value)} {k' : List Item} {id : Nat} (he : exitTo id k = some k')
    (hok : StOK Try.prog (b.at ⟨TT x, []⟩ (.code c :: k)) [])
    (hc : ∀ (wt : World) (Q : Exit → Act → World → Prop), (∀ a', FrN N K' a' → Q (.exit id) a' wt) → c.wp Try.prog Q ⟨TT x, []⟩ wt)
    (H : ∀ (x' : Nat → Value) w', HasN x' K' → Ks (fun _ => False) w w' → Desk SB pA rA pl F col w' → Win Try.prog Post pl n 0 (gor (b.at ⟨TT x', []⟩ k') cs) w') :
    Win Try.prog Post pl n 0 (gor (b.at ⟨TT x, []⟩ (.code c :: k)) cs) w := by
  have L := D.lies
  refine Win.code mild L (Q := fun e a' u => e = .exit id ∧ FrN N K' a' ∧ Ks (fun _ => False) (L.veil.world (fun _ _ => 0) 0 w) u) hok (fun τ => ?_) ?_ ?_ ?_ ?_
  · exact hc _ _ fun a' hf => ⟨rfl, hf, ks_twin0 (Ks.refl _ _)⟩
  · intro a u h; cases h.1
  · intro id' a u h
    have h1 : Exit.exit id' = Exit.exit id := h.1
    cases h1
    rw [he]; simp
  · intro l a u h; cases h.1
  · intro e a' w' τ' D' fr' hst hVOK hVK hq hl
    obtain ⟨rfl, hf, hk⟩ := hq
    obtain ⟨k2, hk2, rfl⟩ := hl
    rw [he] at hk2
    cases hk2
    have hK := ks_of_twin L hVOK hVK hk
    have e := hf.at HT
    have := H (fun j => a'.tmps.getD j undef) w' hf.2.2 hK (D.turned (L.keeps hVK hVOK) hK.size)
    rw [e]
    exact this
/-- Nobody waits: the law's end. -/
theorem none_ret (hpl : ∀ i, pl i = none) (hP : Priv own A) (hA : A w) {args : Array Value} {S : Nat → Prop} (hok : StOK Try.prog ((Frame.enter Try.prog 3 args .normal).at ⟨T219 x, []⟩ (.code c :: k)) [])
    (hc : ∀ (wt : World) (Q : Exit → Act → World → Prop), A wt → (∀ a' w', a'.defers = [] → a'.tmps.size = 219 → a'.tmps.getD 6 undef = .bool true → Ks S wt w' → Q .ret a' w') → c.wp Try.prog Q ⟨T219 x, []⟩ wt)
    (H : ∀ w', Ks S w w' → Post (.bool true) w') :
    Win Try.prog Post pl n 0 (gor ((Frame.enter Try.prog 3 args .normal).at ⟨T219 x, []⟩ (.code c :: k)) []) w := by
  have L := lies_none hpl w
  refine Win.code mild L (Q := fun e a' u => e = .ret ∧ (a'.defers = [] ∧ a'.tmps.size = 219 ∧ a'.tmps.getD 6 undef = .bool true) ∧ Ks S (L.veil.world (fun _ _ => 0) 0 w) u) hok (fun τ => ?_) ?_ ?_ ?_ ?_
  · exact hc _ _ (hP.st _ _ hA fun b hb => L.same w rfl (hP.np _ _ hA hb)) fun a' w' h1 h2 h3 hk => ⟨rfl, ⟨h1, h2, h3⟩, ks_twin0 hk⟩
  · intro a u h; cases h.1
  · intro id a u h; cases h.1
  · intro l a u h; cases h.1
  · intro e a' w' τ' D' fr' hst hVOK hVK hq hl
    obtain ⟨rfl, ⟨h1, h2, h3⟩, hk⟩ := hq
    obtain ⟨todo, rfl⟩ := hl
    have hK := ks_of_twin L hVOK hVK hk
    obtain ⟨t, df⟩ := a'
    simp only at h1 h2 h3
    subst h1
    have h4 : t[6]? = some (.bool true) := by
      rw [Array.getElem?_eq_getElem (by omega)]
      rw [Array.getD, dif_pos (by omega)] at h3
      exact congrArg some h3
    refine Win.done hpl rfl fun d => ?_
    refine ⟨.bool true, #[], ?_, fun e he => by simp at he, H _ (hK.at d)⟩
    exact stepG_done rfl rfl rfl Try.func3 (by kernel_rfl) (fun w => by rw [Sem.runT_eq]; simp [go_sem, results, Try.f3, Frame.at, h4]) _
end
end Go.Proofs.Ytnbaiinhalplcaa

namespace Go.Proofs.Ytnbaiinhalplcaa.Gv
set_option linter.unusedVariables false
set_option linter.unusedSimpArgs false
open Go.RowKit

section
variable {T G n p r t : Nat} {H : List Int} {w w' : World}
theorem kp_new_set {S : List Nat} {w w1 w2 : World} {b : Nat} (h : Kp S w w1) (k : Kp [b] w1 w2) (hb : w.heap.size ≤ b) : Kp S w w2 :=
  ⟨k.os.trans h.os, k.tape.trans h.tape, k.output.trans h.output, Nat.le_trans h.size k.size, fun i hi hn => (k.block i (Nat.lt_of_lt_of_le hi h.size) (by simp; omega)).trans (h.block i hi hn)⟩
/-- What Find and Take answer. -/
theorem find_claims {M M' : Nat} {r' a : Int} {q : Bool} (hc : Claims M r' a q M') (hM : M < 18446744073709551616) (h1 : 1 ≤ r') (h3 : r' ≤ 3) (w : World) :
    Calls Try.prog 35 #[.int .u64 M, .int .i64 r'] w fun e w' => e = .returned (.tuple #[.int .i64 a, .bool q]) ∧ Kp [] w w' := by
  obtain ⟨m, rfl⟩ := Int.eq_ofNat_of_zero_le (show 0 ≤ r' by omega)
  refine Bm.find_walk M m w hM (by omega) (by omega) a q ?_ ?_
  · rintro k ⟨hk1, hk2, hk3⟩
    have hkr : Bm.isR M k m true = true := by simp only [Bm.isR, Bool.and_eq_true, decide_eq_true_eq]; exact ⟨by omega, by simpa using hk2⟩
    rcases hc with ⟨k', _, hf, ha, hq, _⟩ | ⟨hno, _⟩
    · have hk' := hf.1
      simp only [Bm.isR, Bool.and_eq_true, decide_eq_true_eq, Int.toNat_natCast] at hk'
      rcases Nat.lt_trichotomy k k' with hl | hl | hl
      · rw [hf.2 k hl] at hkr; simp at hkr
      · subst hl; exact ⟨ha, hq⟩
      · have := hk3 k' hl
        rw [hk'.2] at this; simp at this
    · rw [hno k] at hkr; simp at hkr
  · intro hno
    rcases hc with ⟨k', _, hf, ha, hq, _⟩ | ⟨_, ha, hq, _⟩
    · have hk' := hf.1
      simp only [Bm.isR, Bool.and_eq_true, decide_eq_true_eq, Int.toNat_natCast] at hk'
      have := hno k' (by omega)
      rw [hk'.2] at this; simp at this
    · exact ⟨ha, hq⟩
theorem take_claims {M M' : Nat} {r' a : Int} {q : Bool} (hc : Claims M r' a q M') (hM : M < 18446744073709551616) (w : World) :
    Calls Try.prog 36 #[.int .u64 M, .int .i64 a, .int .i64 r'] w fun e w' => e = .returned (.tuple #[.int .u64 M', .bool q]) ∧ w = w' := by
  rcases hc with ⟨k', _, hf, ha, hq, hM'⟩ | ⟨hno, ha, hq, hM'⟩
  · rw [ha, hq]
    exact Bm.take_is M k' r' M' true w hM hf.1 (by rw [hM']; simp)
  · rw [ha, hq]
    exact Bm.take_is M 0 r' M' false w hM (hno 0) (by rw [hM']; simp)

/-- What a claim's closure does. -/
theorem cl_claim {M M' : Nat} {r' a : Int} {q : Bool} (hc : Claims M r' a q M') (hM : M < 18446744073709551616) (h1 : 1 ≤ r') (h3 : r' ≤ 3) (b1 b2 b3 : Nat) (x : Int) (y : Bool) (w : World)
    (c1 : w.heap[b1]? = some (.cells #[.int .i64 r'] 3 (0, 0))) (c2 : w.heap[b2]? = some (.cells #[.int .i64 x] 3 (0, 0))) (c3 : w.heap[b3]? = some (.cells #[.bool y] 4 (0, 0))) (n12 : b1 ≠ b2) (n13 : b1 ≠ b3) (n23 : b2 ≠ b3) :
    Calls Try.prog 34 #[.int .u64 M, .pointer (some ⟨b1, 0, none⟩), .pointer (some ⟨b2, 0, none⟩), .pointer (some ⟨b3, 0, none⟩)] w fun e w' => e = .returned (.int .u64 M') ∧ Kp [b2, b3] w w' ∧ w'.heap[b2]? = some (.cells #[.int .i64 a] 3 (0, 0)) ∧ w'.heap[b3]? = some (.cells #[.bool q] 4 (0, 0)) := by
  have hf := Lib.hid (find_claims hc hM h1 h3)
  have hta := Lib.hid (take_claims hc hM)
  clear hc
  have e1 : w.cell? ⟨b1, 0, none⟩ = some (.int .i64 r') := cell_of_row c1 0
  have C := Lib.hid (And.intro c1 (And.intro c2 c3))
  have NE := Lib.hid (And.intro n12 (And.intro n13 n23))
  clear c1 c2 c3
  go_enter Try.func34, Try.ntmps34
  go_wp2_with fail
  refine (hf.out _).mono ?_
  rintro e w1 ⟨rfl, hk⟩
  have d1 := hk.row (by simp) C.out.1
  have d2 := hk.row (by simp) C.out.2.1
  have d3 := hk.row (by simp) C.out.2.2
  have K1 := Lib.hid hk
  clear hk
  have e2 : w1.cell? ⟨b2, 0, none⟩ = some (.int .i64 x) := cell_of_row d2 0
  have f2 := free_of_row d2 0
  have k2 : Kp [b2, b3] w1 (w1.setCell ⟨b2, 0, none⟩ (.int .i64 a)) := (Kp.refl _ _).setCell (.inl (by simp)) _
  have D2 : (w1.setCell ⟨b2, 0, none⟩ (.int .i64 a)).heap[b2]? = some (.cells #[.int .i64 a] 3 (0, 0)) := by rw [heap_setCell_same _ _ _ _ _ _ d2]; rfl
  have D1 : (w1.setCell ⟨b2, 0, none⟩ (.int .i64 a)).heap[b1]? = some (.cells #[.int .i64 r'] 3 (0, 0)) := by rw [heap_setCell_other _ _ _ _ (by exact n12), d1]
  have D3 : (w1.setCell ⟨b2, 0, none⟩ (.int .i64 a)).heap[b3]? = some (.cells #[.bool y] 4 (0, 0)) := by rw [heap_setCell_other _ _ _ _ (by exact n23.symm), d3]
  have HD := Lib.hid (And.intro D1 (And.intro D2 D3))
  have K2 := Lib.hid ((K1.out.mono (by simp)).trans k2)
  clear d1 d2 d3 D1 D2 D3 k2
  go_upto_region 2 with (fail)
  obtain ⟨w2, hw2⟩ : ∃ w2, w2 = w1.setCell ⟨b2, 0, none⟩ (.int .i64 a) := ⟨_, rfl⟩
  rw [← hw2] at HD K2 ⊢
  clear hw2 e2 f2
  have g1 : w2.cell? ⟨b1, 0, none⟩ = some (.int .i64 r') := cell_of_row HD.out.1 0
  have g2 : w2.cell? ⟨b2, 0, none⟩ = some (.int .i64 a) := cell_of_row HD.out.2.1 0
  have g3 : w2.cell? ⟨b3, 0, none⟩ = some (.bool y) := cell_of_row HD.out.2.2 0
  have f3 := free_of_row HD.out.2.2 0
  go_wp2_with fail
  refine (hta.out _).mono ?_
  rintro e w3 ⟨rfl, rfl⟩
  go_wp2
  go_ret
  refine ⟨rfl, K2.out.trans ((Kp.refl _ _).setCell (.inl (by simp)) _), ?_, ?_⟩
  · rw [heap_setCell_other _ _ _ _ (by exact NE.out.2.2), HD.out.2.1]
  · rw [heap_setCell_same _ _ _ _ _ _ HD.out.2.2]; rfl
theorem results_cell2 {fn : Func} {p u : Tmp} {ty tz : TypeId} (h : fn.results = #[.cell p ty, .cell u tz]) (tmps : Array Value) (P : Program) (w : World) (a b : Addr) (x y : Value) (hp : tmps.getD p undef = .pointer (some a)) (hu : tmps.getD u undef = .pointer (some b)) (hx : (loadVar ty a).run P w = .ok x w) (hy : (loadVar tz b).run P w = .ok y w) :
    (results fn tmps).run P w = .ok (.tuple #[x, y]) w := by
  rw [Array.getD_eq_getD_getElem?] at hp hu
  simp only [results, h]
  simp [Sem.run_bind, Result.andThen, hp, hu, asAddr, hx, hy]
theorem bodyPost_cell2 {P : Program} {fn : Func} {R : Ending → World → Prop} {a : Act} {w : World} {p u : Tmp} {ty tz : TypeId} (h : fn.results = #[.cell p ty, .cell u tz]) (b c : Addr) (x y : Value) (hp : a.tmps.getD p undef = .pointer (some b)) (hu : a.tmps.getD u undef = .pointer (some c)) (hx : (loadVar ty b).run P w = .ok x w) (hy : (loadVar tz c).run P w = .ok y w) (hdef : a.defers = []) (hR : R (.returned (.tuple #[x, y])) w) : bodyPost P fn R .ret a w :=
  bodyPost_ret (results_cell2 h a.tmps P w b c x y hp hu hx hy) hdef hR
theorem load_int {w : World} {b : Nat} {x : Int} (h : w.heap[b]? = some (.cells #[.int .i64 x] 3 (0, 0))) : (loadVar 3 ⟨b, 0, none⟩).run Try.prog w = .ok (.int .i64 x) w := by
  have e : w.cell? ⟨b, 0, none⟩ = some (.int .i64 x) := cell_of_row h 0
  simp [go_sem, e]
theorem load_bool {w : World} {b : Nat} {x : Bool} (h : w.heap[b]? = some (.cells #[.bool x] 4 (0, 0))) : (loadVar 4 ⟨b, 0, none⟩).run Try.prog w = .ok (.bool x) w := by
  have e : w.cell? ⟨b, 0, none⟩ = some (.bool x) := cell_of_row h 0
  simp [go_sem, e]

/-- The boxes of Claim: the layout's, the run's, the answers'. -/
def cw (w : World) (T G n : Nat) (r' : Int) : World := (((w.alloc (.cells #[.int .i64 T, .int .i64 G, .int .i64 n] 27)).alloc (.cells #[.int .i64 r'] 3)).alloc (.cells #[.int .i64 0] 3)).alloc (.cells #[.bool false] 4)
theorem cw_kp (w : World) (T G n : Nat) (r' : Int) : Kp [] w (cw w T G n r') := ((((Kp.refl [] w).alloc _).alloc _).alloc _).alloc _
theorem cw_rows (w : World) (T G n : Nat) (r' : Int) : (cw w T G n r').heap[w.heap.size + 1]? = some (.cells #[.int .i64 r'] 3 (0, 0)) ∧ (cw w T G n r').heap[w.heap.size + 2]? = some (.cells #[.int .i64 0] 3 (0, 0)) ∧ (cw w T G n r').heap[w.heap.size + 3]? = some (.cells #[.bool false] 4 (0, 0)) := by
  have z1 := World.size_alloc w (.cells #[.int .i64 T, .int .i64 G, .int .i64 n] 27)
  have z2 := World.size_alloc (w.alloc (.cells #[.int .i64 T, .int .i64 G, .int .i64 n] 27)) (.cells #[.int .i64 r'] 3)
  have z3 := World.size_alloc ((w.alloc (.cells #[.int .i64 T, .int .i64 G, .int .i64 n] 27)).alloc (.cells #[.int .i64 r'] 3)) (.cells #[.int .i64 0] 3)
  refine ⟨?_, ?_, ?_⟩
  · exact (((Kp.refl [] _).alloc _).alloc _).row (by simp) (by rw [← z1]; exact heap_alloc_new _ _)
  · exact ((Kp.refl [] _).alloc _).row (by simp) (by rw [show w.heap.size + 2 = w.heap.size + 1 + 1 from rfl, ← z1, ← z2]; exact heap_alloc_new _ _)
  · rw [show w.heap.size + 3 = w.heap.size + 1 + 1 + 1 from rfl, ← z1, ← z2, ← z3]; exact heap_alloc_new _ _

set_option maxRecDepth 100000 in
set_option maxHeartbeats 1000000 in
theorem g_claim_in (h : Hw T G n p r H t w) (ht : t ≤ 900000) {M M' : Nat} {r' a : Int} {q : Bool} (hM0 : H.getD 0 0 = M) (hc : Claims M r' a q M') (h1 : 1 ≤ r') (h3 : r' ≤ 3) :
    Calls Try.prog 10 #[.iface 25 (.pointer (some ⟨p, 0, none⟩)), .agg #[.int .i64 T, .int .i64 G, .int .i64 n], .int .i64 r'] w fun e w' => e = .returned (.tuple #[.int .i64 a, .bool q]) ∧ Hw T G n p r (H.set 0 (M' : Int)) (t + 1) w' ∧ Kp [p, r] w w' := by
  have hm := fun w => g_mayRun r' true w (by simp; omega)
  have hlt := h.lt
  have hM : M < 18446744073709551616 := by
    have := (h.ok 0).2
    rw [hM0] at this
    exact Int.ofNat_lt.1 this
  have HU := Lib.hid (up_map (h.on (cw_kp w T G n r')) ht 34 #[.pointer (some ⟨w.heap.size + 1, 0, none⟩), .pointer (some ⟨w.heap.size + 2, 0, none⟩), .pointer (some ⟨w.heap.size + 3, 0, none⟩)] M M' [w.heap.size + 2, w.heap.size + 3]
    (fun w' => w'.heap[w.heap.size + 2]? = some (.cells #[.int .i64 a] 3 (0, 0)) ∧ w'.heap[w.heap.size + 3]? = some (.cells #[.bool q] 4 (0, 0))) hM0 (claims_lt hc hM) (by simp; omega) (by simp; omega)
    (fun w2 w3 hR k => ⟨k.row (by simp; omega) hR.1, k.row (by simp; omega) hR.2⟩) (fun _ _ => rfl)
    (fun w1 k => cl_claim hc hM h1 h3 _ _ _ 0 false w1 (k.row (by simp; omega) (cw_rows w T G n r').1) (k.row (by simp; omega) (cw_rows w T G n r').2.1) (k.row (by simp; omega) (cw_rows w T G n r').2.2) (by omega) (by omega) (by omega)))
  have HK := Lib.hid (cw_kp w T G n r')
  unfold cw at HU HK
  clear hc hM
  go_enter Try.func10, Try.ntmps10
  go_wp2_with fail
  refine (hm _).mono ?_
  rintro e w1 ⟨rfl, rfl⟩
  go_wp2_with fail
  refine HU.out.mono ?_
  rintro e w2 ⟨rfl, hg, hk, r2, r3⟩
  have e2 : w2.cell? ⟨w.heap.size + 1 + 1, 0, none⟩ = some (.int .i64 a) := cell_of_row r2 0
  have e3 : w2.cell? ⟨w.heap.size + 1 + 1 + 1, 0, none⟩ = some (.bool q) := cell_of_row r3 0
  have f2 : w2.frozen? ⟨w.heap.size + 1 + 1, 0, none⟩ = false := free_of_row r2 0
  have f3 : w2.frozen? ⟨w.heap.size + 1 + 1 + 1, 0, none⟩ = false := free_of_row r3 0
  have HR := Lib.hid (And.intro r2 r3)
  have HG := Lib.hid hg
  have KK : Hid (Kp [p, r] w w2) := Lib.hid (((HK.out.mono (T := [p, r, w.heap.size + 2, w.heap.size + 3]) (by simp)).trans hk).mono fun x hx hlt' => by
    simp only [List.mem_cons, List.not_mem_nil, or_false] at hx ⊢
    omega)
  clear hg hk r2 r3
  go_wp2_with fail
  go_region
  all_goals
    go_wp2
    refine bodyPost_cell2 rfl ⟨w.heap.size + 2, 0, none⟩ ⟨w.heap.size + 3, 0, none⟩ (.int .i64 a) (.bool q) rfl rfl (load_int (b := w.heap.size + 2) ?_) (load_bool (b := w.heap.size + 3) ?_) rfl ⟨rfl, ?_⟩
  · exact (show Kp [w.heap.size + 3] _ _ from (Kp.refl _ _).setCell (.inl (by simp)) _).row (by simp) (by rw [heap_setCell_same _ _ _ _ _ _ HR.out.1]; rfl)
  · exact (heap_setCell_same _ _ _ _ _ _ ((show Kp [w.heap.size + 2] w2 (w2.setCell ⟨w.heap.size + 1 + 1, 0, none⟩ (.int .i64 a)) from (Kp.refl _ _).setCell (.inl (by simp)) _).row (by simp) HR.out.2)).trans rfl
  · have q1 : Kp [w.heap.size + 2] w2 (w2.setCell ⟨w.heap.size + 1 + 1, 0, none⟩ (.int .i64 a)) := (Kp.refl _ _).setCell (.inl (by simp)) _
    have q2 : Kp [w.heap.size + 3] (w2.setCell ⟨w.heap.size + 1 + 1, 0, none⟩ (.int .i64 a)) ((w2.setCell ⟨w.heap.size + 1 + 1, 0, none⟩ (.int .i64 a)).setCell ⟨w.heap.size + 1 + 1 + 1, 0, none⟩ (.bool q)).drew := ((Kp.refl _ _).setCell (.inl (by simp)) _).drew
    exact ⟨(HG.out.keep q1 (by simp; omega) (by simp; omega)).keep q2 (by simp; omega) (by simp; omega), kp_new_set (kp_new_set KK.out q1 (by omega)) q2 (by omega)⟩

end
end Go.Proofs.Ytnbaiinhalplcaa.Gv
