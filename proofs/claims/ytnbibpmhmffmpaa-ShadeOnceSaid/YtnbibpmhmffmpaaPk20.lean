/- ShadeOnce: from its entry to all its agents made. Written by gen/so_n.py. ShadeOnce: its third loop's code by name; what is asked of the words behind a turn. Written by gen/so_e.py. ShadeOnce: between its second and its third loop. Written by gen/so_o.py. ShadeOnce: pieces of its third and of its last loop, each done alone. Written by gen/so_p.py. ShadeOnce: what stands between its turns; a step of an agent, whatever it has still to do. Written by gen/so_r.py. Conditions: as each theorem states them. -/
import Derived.Test.YtnbibpmhmffmpaaPk18
import Derived.Test.YtnbibpmhmffmpaaPk19
namespace Go.Proofs.Ytnbibpmhmffmpaa
set_option linter.unusedVariables false
set_option linter.unusedSimpArgs false
set_option maxRecDepth 100000
open Go.RowKit
open Go.Conc
open Go.ConcN (upd_ne upd_same)
section
variable {Post : Value → World → Prop} {W : World} {own : Nat → Prop} {A : World → Prop} {bh oh n ch bd od M cd K co : Nat} {bo : Option Addr} {cc : Int} {d0 : Nat → Int}
theorem so_made {L : List Hd} (hP : Priv own A) (hA : A W) (hAh : ∀ w, A w → HeadsAt w bh oh L) (hbh : own bh) (hn1 : 1 ≤ n) (hn4 : n ≤ 4) (hM1 : 1 ≤ M) (hM4 : M ≤ 4) (hK : K ≤ 100) (h0c : 0 ≤ cc) (hc1 : cc ≤ 1) (hL : L.length = n) (hm : L.all Hd.may = true)
    (hds : ∀ i, i < M → W.cell? ⟨bd, od + i, none⟩ = some (.int .u8 (d0 i)) ∧ 0 ≤ d0 i ∧ d0 i ≤ 255)
    (H : ∀ bc pA rA bf be s ag va pl F col w (x : Nat → Value), SoW Post W pA rA be bc bf M n cc (L.map Hd.w) M ag d0 va pl F col w (gofS d0 M M) s → s.ws = L.map Hd.w → s.t = n → W.heap.size ≤ bc → bc < pA → bc < rA → pA < bf → rA < bf → bf < be → HasX x [(0, .slice (some ⟨bh, oh, none⟩) n ch), (1, .slice (some ⟨bd, od, none⟩) M cd), (2, .slice bo K co), (7, .pointer (some ⟨bc, 0, none⟩)), (9, .int .i64 n), (10, .pointer (some ⟨pA, 0, none⟩)), (15, .slice (some ⟨bf, 0, none⟩) n n), (16, .slice (some ⟨be, 0, none⟩) M M), (17, va), (18, .bool true), (19, .int .i64 M)] →
      Win Try.prog Post pl (1 + M) 0 (gor ((Frame.enter Try.prog 5 #[.slice (some ⟨bh, oh, none⟩) n ch, .slice (some ⟨bd, od, none⟩) M cd, .slice bo K co, .int .u8 cc] .normal).at ⟨T318 x, []⟩ [.code (codeR (soR10 Try.f5))]) []) w) :
    Win Try.prog Post (fun _ => none) 1 0 (gor (Frame.enter Try.prog 5 #[.slice (some ⟨bh, oh, none⟩) n ch, .slice (some ⟨bd, od, none⟩) M cd, .slice bo K co, .int .u8 cc] .normal) []) W := by
  refine so_in (fun _ => rfl) hP hA hAh hbh hn1 hn4 hM1 hM4 hK hc1 hL hm fun x bc pA rA bf be s w hx hA1 rc ar hs ht rf re gc l1 l2 l3 l4 l5 ks => ?_
  obtain ⟨col, hcol⟩ : ∃ col : Nat → Col, col = fun b => if b = be ∨ b = bc then .shared else if b = pA ∨ b = rA then .arena else .main := ⟨_, rfl⟩
  have cB : ∀ b, b = be ∨ b = bc → col b = .shared := fun b h => by rw [hcol]; simp [h]
  have cA : ∀ b, b = pA ∨ b = rA → col b = .arena := fun b h => by
    have h1 : ¬ (b = be ∨ b = bc) := by omega
    rw [hcol]; simp [h, h1]
  have cM : ∀ b, ¬ (b = be ∨ b = bc) → ¬ (b = pA ∨ b = rA) → col b = .main := fun b h1 h2 => by rw [hcol]; simp [h1, h2]
  have le := lt_of_block re
  have D : Desk (fun b => b = be ∨ b = bc) pA rA (fun _ => none) (fun _ => none) col w :=
    ⟨rfl, lies_none (fun _ => rfl) w, ⟨fun _ _ => rfl, fun b hb => cM b (by omega) (by omega), cB, ⟨cA _ (.inl rfl), cA _ (.inr rfl)⟩⟩, fun i s c hi => by cases hi⟩
  have C : Crew Post (onceSh be bc M cc) (fun b => b = be ∨ b = bc) pA rA (memV pA) 1 0 (fun _ => ⟨0, 0, 0, 0, 0, 0⟩) (fun j => otree (d0 j % n) cc j (d0 j)) (fun _ => none) (fun _ => none) col w (gofS d0 M 0) :=
    ⟨by decide, D, fun _ _ => rfl, fun i hi => by omega, fun i hi => by omega, fun i hi => by omega, ⟨⟨re, by simp [gofS]⟩, rc⟩⟩
  have Aw : SoW Post W pA rA be bc bf M n cc (L.map Hd.w) 0 (fun _ => ⟨0, 0, 0, 0, 0, 0⟩) d0 (.slice none 0 0) (fun _ => none) (fun _ => none) col w (gofS d0 M 0) s :=
    ⟨C, ar, by rw [← hs]; exact rf, cM bf (by omega) (by omega), Rw.nil _ _ _ _, fun b hb => by (rw [blk_nil] at hb; cases hb), fun z => by (rw [blk_nil] at z; cases z), fun b hb => cM b (by omega) (by omega), ks⟩
  have e10 : soR10 Try.f5 = .seq (.seq (soQ18 Try.f5) (.block 2 (.loop (soX2 Try.f5)))) (codeR (soR10 Try.f5)) := by kernel_rfl
  obtain ⟨hx0, hx1, hx2, hx7, hx9, hx10, hx15, hx16, hx17, hx18, -⟩ := hx
  rw [show ([.code (soR10 Try.f5)] : List Item) = [.code (.seq (.seq (soQ18 Try.f5) (.block 2 (.loop (soX2 Try.f5)))) (codeR (soR10 Try.f5)))] by rw [← e10]]
  refine Win.seq ?_
  refine Win.seq ?_
  refine desk_still D (stok_at rfl rfl (by simp) (by kernel_rfl)) (fun wt Q hQ => so_q18 hx0 hx1 hx2 hx7 hx9 hx10 hx15 hx16 hx17 hx18 hQ) fun x1 w1 hx k1 D1 => ?_
  refine Win.block ?_
  refine Win.loop ?_
  exact so_loop2 hds hM4 hn1 hn4 h0c hc1 (by omega) (fun ag va pl F col w x A hx => H bc pA rA bf be s ag va pl F col w x A hs ht gc l1 l2 l3 l4 l5 hx) M 0 (by omega) x1 _ _ _ _ _ _ (Aw.made D1 k1) hx
end
end Go.Proofs.Ytnbibpmhmffmpaa

namespace Go.Proofs.Ytnbibpmhmffmpaa
set_option linter.unusedVariables false
set_option linter.unusedSimpArgs false
set_option maxRecDepth 100000
open Go.RowKit

def soS (f : Func) : Code := codeL (codeR (codeR (codeR (codeR (codeR (codeR (codeR (codeR (codeR (codeR (codeR (codeR (bodyOf f)))))))))))))
def soX3 (f : Func) : Code := loopOf (blockOf (codeR (soS f)))
def soB3 (f : Func) : Code := blockOf (codeL (codeR (soX3 f)))
def soRest (f : Func) : Code := codeR (codeR (codeR (soB3 f)))

/-- Words of a row. -/
def RowC (w : World) (b n : Nat) (V : List Int) : Prop := V.length = n ∧ ∀ j, j < n → w.cell? ⟨b, j, none⟩ = some (.int .u64 (V.getD j 0))
theorem RowC.keep {S : List Nat} {w w' : World} {b n : Nat} {V : List Int} (h : RowC w b n V) (k : Kp S w w') (hb : b ∉ S) : RowC w' b n V :=
  ⟨h.1, fun j hj => by rw [World.cell?_of_block (k.block b (World.block_lt_of_cell? _ _ (h.2 j hj)) hb)]; exact h.2 j hj⟩
theorem tell_ways {tu tv : Int} (h0 : 0 ≤ tu ∧ tu ≤ 3) (h1 : 0 ≤ tv ∧ tv ≤ 3) (h : ((tu = 0) ↔ (tv = 0)) ∧ (tu ≠ 1 ∨ tv ≠ 3) ∧ (tu = 1 ∨ tv ≠ 1)) :
    (tu = 0 ∧ tv = 0) ∨ (tu = 1 ∧ tv = 1) ∨ (tu = 1 ∧ tv = 2) ∨ (tu = 2 ∧ tv = 2) ∨ (tu = 2 ∧ tv = 3) ∨ (tu = 3 ∧ tv = 2) ∨ (tu = 3 ∧ tv = 3) := by omega

/-- What is asked of the words behind a turn. -/
structure Asked (cc : Int) (n a : Nat) (V Y Z : List Int) : Prop where
  v0 : ∀ j, 0 ≤ V.getD j 0 ∧ V.getD j 0 < 18446744073709551616
  y0 : ∀ j, 0 ≤ Y.getD j 0 ∧ Y.getD j 0 < 18446744073709551616
  z0 : ∀ j, 0 ≤ Z.getD j 0 ∧ Z.getD j 0 < 18446744073709551616
  other : ∀ j, j ≠ a → Y.getD j 0 = V.getD j 0
  t : ∀ j, ((tellI (V.getD j 0) cc = 0) ↔ (tellI (Y.getD j 0) cc = 0)) ∧ (tellI (V.getD j 0) cc ≠ 1 ∨ tellI (Y.getD j 0) cc ≠ 3) ∧ (tellI (V.getD j 0) cc = 1 ∨ tellI (Y.getD j 0) cc ≠ 1)
  pl : ∀ j, plnI (Y.getD j 0) = plnI (Z.getD j 0)
end Go.Proofs.Ytnbibpmhmffmpaa

namespace Go.Proofs.Ytnbibpmhmffmpaa
set_option linter.unusedVariables false
set_option linter.unusedSimpArgs false
set_option maxRecDepth 100000
open Go.RowKit
open Go.Conc
open Go.ConcN (upd_ne upd_same)
def soK3 (f : Func) : List Item := [.inLoop (soX3 f), .inBlock 4, .code (codeR (codeR (codeR (soR10 f))))]
def soQ27 (f : Func) : Code := codeL (codeR (soR10 f))
def soQ28 (f : Func) : Code := codeL (soS f)
section
variable {x : Nat → Value} {wt : World} {Q : Exit → Act → World → Prop} {bh oh n ch bd od M cd K co bc pA rA bf be bw : Nat} {bo : Option Addr} {va : Value} {s : St}
theorem so_q27 (hx0 : x 0 = .slice (some ⟨bh, oh, none⟩) n ch) (hx1 : x 1 = .slice (some ⟨bd, od, none⟩) M cd) (hx2 : x 2 = .slice bo K co) (hx7 : x 7 = .pointer (some ⟨bc, 0, none⟩)) (hx9 : x 9 = .int .i64 n) (hx10 : x 10 = .pointer (some ⟨pA, 0, none⟩)) (hx15 : x 15 = .slice (some ⟨bf, 0, none⟩) n n) (hx16 : x 16 = .slice (some ⟨be, 0, none⟩) M M) (hx17 : x 17 = va) (hx18 : x 18 = .bool true) (hn1 : 1 ≤ n) (hn4 : n ≤ 4) (ha : Ar wt pA rA s) (hs : s.ws.length = n) (hQ : ∀ a' w', FrX [(0, .slice (some ⟨bh, oh, none⟩) n ch), (1, .slice (some ⟨bd, od, none⟩) M cd), (2, .slice bo K co), (7, .pointer (some ⟨bc, 0, none⟩)), (9, .int .i64 n), (10, .pointer (some ⟨pA, 0, none⟩)), (15, .slice (some ⟨bf, 0, none⟩) n n), (16, .slice (some ⟨be, 0, none⟩) M M), (17, va), (18, .bool true), (25, .slice (some ⟨wt.heap.size, 0, none⟩) n n)] a' → w'.heap[wt.heap.size]? = some (.cells (u64s s.ws) 40 (0, 0)) → Kp [] wt w' → Q .normal a' w') : (soQ27 Try.f5).wp Try.prog Q ⟨T318 x, []⟩ wt := by
  have HQ := Lib.hid hQ
  have HN := Lib.hid (all_any wt pA rA s ha (by omega) (by omega))
  rw [hs] at HN
  clear hQ ha
  simp only [soQ27, soR10, bodyOf, Try.f5, codeL, codeR, blockOf, loopOf, Option.getD_some, T318]
  simp only [hx0, hx1, hx2, hx7, hx9, hx10, hx15, hx16, hx17, hx18]
  go_wp2_with fail
  refine HN.out.mono ?_
  rintro e w1 ⟨rfl, ha, hk⟩
  have HA := Lib.hid (And.intro ha hk)
  clear ha hk HN
  go_wp2
  exact HQ.out _ _ ⟨rfl, rfl, ⟨rfl, rfl, rfl, rfl, rfl, rfl, rfl, rfl, rfl, rfl, rfl, trivial⟩⟩ HA.out.1 HA.out.2
theorem so_q28 (hx0 : x 0 = .slice (some ⟨bh, oh, none⟩) n ch) (hx1 : x 1 = .slice (some ⟨bd, od, none⟩) M cd) (hx2 : x 2 = .slice bo K co) (hx7 : x 7 = .pointer (some ⟨bc, 0, none⟩)) (hx9 : x 9 = .int .i64 n) (hx10 : x 10 = .pointer (some ⟨pA, 0, none⟩)) (hx15 : x 15 = .slice (some ⟨bf, 0, none⟩) n n) (hx16 : x 16 = .slice (some ⟨be, 0, none⟩) M M) (hx17 : x 17 = va) (hx18 : x 18 = .bool true) (hx25 : x 25 = .slice (some ⟨bw, 0, none⟩) n n) (hQ : ∀ a', FrX [(0, .slice (some ⟨bh, oh, none⟩) n ch), (1, .slice (some ⟨bd, od, none⟩) M cd), (2, .slice bo K co), (7, .pointer (some ⟨bc, 0, none⟩)), (9, .int .i64 n), (10, .pointer (some ⟨pA, 0, none⟩)), (15, .slice (some ⟨bf, 0, none⟩) n n), (16, .slice (some ⟨be, 0, none⟩) M M), (17, va), (18, .bool true), (25, .slice (some ⟨bw, 0, none⟩) n n), (26, .int .i64 0)] a' → Q .normal a' wt) : (soQ28 Try.f5).wp Try.prog Q ⟨T318 x, []⟩ wt := by
  have HQ := Lib.hid hQ
  clear hQ
  simp only [soQ28, soS, bodyOf, Try.f5, codeL, codeR, blockOf, loopOf, Option.getD_some, T318]
  simp only [hx0, hx1, hx2, hx7, hx9, hx10, hx15, hx16, hx17, hx18, hx25]
  go_wp2
  exact HQ.out _ ⟨rfl, rfl, ⟨rfl, rfl, rfl, rfl, rfl, rfl, rfl, rfl, rfl, rfl, rfl, rfl, trivial⟩⟩
end
section
variable {Post : Value → World → Prop} {W : World} {pA rA be bc bf M n : Nat} {cc : Int} {ws0 : List Int} {ag : Nat → Ag} {dl : Nat → Int} {va : Value} {pl : Nat → Option Place} {F : Nat → Option (Nat × Nat)} {col : Nat → Col} {w : World} {g : List Int} {s : St} {N : Nat}
theorem so_mid {args : Array Value} {x : Nat → Value} {bh oh ch bd od cd K co : Nat} {bo : Option Addr} (A : SoW Post W pA rA be bc bf M n cc ws0 M ag dl va pl F col w g s) (hx : HasX x [(0, .slice (some ⟨bh, oh, none⟩) n ch), (1, .slice (some ⟨bd, od, none⟩) M cd), (2, .slice bo K co), (7, .pointer (some ⟨bc, 0, none⟩)), (9, .int .i64 n), (10, .pointer (some ⟨pA, 0, none⟩)), (15, .slice (some ⟨bf, 0, none⟩) n n), (16, .slice (some ⟨be, 0, none⟩) M M), (17, va), (18, .bool true), (19, .int .i64 M)]) (hn1 : 1 ≤ n) (hn4 : n ≤ 4) (hs : s.ws.length = n)
    (H : ∀ bw w' (x' : Nat → Value), SoW Post W pA rA be bc bf M n cc ws0 M ag dl va pl F col w' g s → w'.heap[bw]? = some (.cells (u64s s.ws) 40 (0, 0)) → w.heap.size ≤ bw → col bw = .main → HasX x' [(0, .slice (some ⟨bh, oh, none⟩) n ch), (1, .slice (some ⟨bd, od, none⟩) M cd), (2, .slice bo K co), (7, .pointer (some ⟨bc, 0, none⟩)), (9, .int .i64 n), (10, .pointer (some ⟨pA, 0, none⟩)), (15, .slice (some ⟨bf, 0, none⟩) n n), (16, .slice (some ⟨be, 0, none⟩) M M), (17, va), (18, .bool true), (25, .slice (some ⟨bw, 0, none⟩) n n), (26, .int .i64 0)] →
      Win Try.prog Post pl N 0 (gor ((Frame.enter Try.prog 5 args .normal).at ⟨T318 x', []⟩ (.code (soX3 Try.f5) :: soK3 Try.f5)) []) w') :
    Win Try.prog Post pl N 0 (gor ((Frame.enter Try.prog 5 args .normal).at ⟨T318 x, []⟩ [.code (codeR (soR10 Try.f5))]) []) w := by
  have e11 : codeR (soR10 Try.f5) = .seq (soQ27 Try.f5) (codeR (codeR (soR10 Try.f5))) := by kernel_rfl
  have e12 : codeR (codeR (soR10 Try.f5)) = .seq (.seq (soQ28 Try.f5) (.block 4 (.loop (soX3 Try.f5)))) (codeR (codeR (codeR (soR10 Try.f5)))) := by kernel_rfl
  obtain ⟨hx0, hx1, hx2, hx7, hx9, hx10, hx15, hx16, hx17, hx18, hx19, -⟩ := hx
  rw [e11]
  refine Win.seq ?_
  refine A.crew.desk.piece (own := fun b => b = pA ∨ b = rA) (S := fun _ => False) (A := fun w => Ar w pA rA s) (priv_ar pA rA s) A.ar (fun b hb => hb.elim (fun e => by rw [e, A.crew.desk.lay.ar.1]; rfl) (fun e => by rw [e, A.crew.desk.lay.ar.2]; rfl)) (ι := Unit) (own' := fun _ => (· = w.heap.size)) (A' := fun _ w' => w'.heap[w.heap.size]? = some (.cells (u64s s.ws) 40 (0, 0))) (fun _ => Priv.row _ _ _ _) (K' := fun _ => [(0, .slice (some ⟨bh, oh, none⟩) n ch), (1, .slice (some ⟨bd, od, none⟩) M cd), (2, .slice bo K co), (7, .pointer (some ⟨bc, 0, none⟩)), (9, .int .i64 n), (10, .pointer (some ⟨pA, 0, none⟩)), (15, .slice (some ⟨bf, 0, none⟩) n n), (16, .slice (some ⟨be, 0, none⟩) M M), (17, va), (18, .bool true), (25, .slice (some ⟨w.heap.size, 0, none⟩) n n)]) (stok_at rfl rfl (by simp) (by kernel_rfl)) (fun wt Q h1 h2 _ hQ => so_q27 hx0 hx1 hx2 hx7 hx9 hx10 hx15 hx16 hx17 hx18 hn1 hn4 h1 hs fun a' w' hf hr hk => ?_) fun x1 _ w1 _ hx r1 k1 D1 => ?_
  · rw [h2] at hf hr
    exact hQ a' () w' (fun y hy => .inr (by have hy' : y = w.heap.size := hy; have := lt_of_block hr; omega)) hf hr ((ks_of_kp hk).mono fun _ _ z => by simp at z)
  have A1 := A.made D1 k1
  obtain ⟨bw, hbw⟩ : ∃ bw, bw = w.heap.size := ⟨_, rfl⟩
  rw [← hbw] at hx r1
  clear hx0 hx1 hx2 hx7 hx9 hx10 hx15 hx16 hx17 hx18 hx19
  obtain ⟨hx0, hx1, hx2, hx7, hx9, hx10, hx15, hx16, hx17, hx18, hx25, -⟩ := hx
  rw [e12]
  refine Win.seq ?_
  refine Win.seq ?_
  refine desk_still D1 (stok_at rfl rfl (by simp) (by kernel_rfl)) (fun wt Q hQ => so_q28 hx0 hx1 hx2 hx7 hx9 hx10 hx15 hx16 hx17 hx18 hx25 hQ) fun x2 w2 hx k2 D2 => ?_
  refine Win.block ?_
  refine Win.loop ?_
  exact H bw w2 x2 (A1.made D2 k2) (k2.row (fun z => z) r1) (by omega) (A.crew.desk.lay.above bw (by omega)) hx
end
end Go.Proofs.Ytnbibpmhmffmpaa

namespace Go.Proofs.Ytnbibpmhmffmpaa
set_option linter.unusedVariables false
set_option linter.unusedSimpArgs false
set_option maxRecDepth 100000
open Go.RowKit

def soR13 (f : Func) : Code := codeR (codeR (codeR (soR10 f)))
def soS5 (f : Func) : Code := codeL (soR13 f)
def soX5 (f : Func) : Code := loopOf (blockOf (codeR (soS5 f)))
def soB5 (f : Func) : Code := blockOf (codeL (codeR (soX5 f)))
def soK5 (f : Func) : List Item := [.inLoop (soX5 f), .inBlock 8, .code (codeR (soR13 f))]
def soQ29 (f : Func) : Code := codeL (soX3 f)
def soQ30 (f : Func) : Code := codeR (codeR (soX3 f))
def soQ31 (f : Func) : Code := codeL (soB3 f)
def soQ48 (f : Func) : Code := codeL (soS5 f)
def soQ49 (f : Func) : Code := codeL (soX5 f)
def soQ50 (f : Func) : Code := codeR (codeR (soX5 f))

section
variable {x : Nat → Value} {wt : World} {Q : Exit → Act → World → Prop} {bh oh n ch bd od M cd K co bc pA bf be ba ca bw i j bO oo : Nat} {bo : Option Addr} {d : Int}

theorem so_q29 (hx0 : x 0 = .slice (some ⟨bh, oh, none⟩) n ch) (hx1 : x 1 = .slice (some ⟨bd, od, none⟩) M cd) (hx2 : x 2 = .slice bo K co) (hx7 : x 7 = .pointer (some ⟨bc, 0, none⟩)) (hx9 : x 9 = .int .i64 n) (hx10 : x 10 = .pointer (some ⟨pA, 0, none⟩)) (hx15 : x 15 = .slice (some ⟨bf, 0, none⟩) n n) (hx16 : x 16 = .slice (some ⟨be, 0, none⟩) M M) (hx17 : x 17 = .slice (some ⟨ba, 0, none⟩) M ca) (hx18 : x 18 = .bool true) (hx25 : x 25 = .slice (some ⟨bw, 0, none⟩) n n) (hx26 : x 26 = .int .i64 i) (hi : i < K) (hK : K ≤ 100) (hQ : ∀ a', FrX [(0, .slice (some ⟨bh, oh, none⟩) n ch), (1, .slice (some ⟨bd, od, none⟩) M cd), (2, .slice bo K co), (7, .pointer (some ⟨bc, 0, none⟩)), (9, .int .i64 n), (10, .pointer (some ⟨pA, 0, none⟩)), (15, .slice (some ⟨bf, 0, none⟩) n n), (16, .slice (some ⟨be, 0, none⟩) M M), (17, .slice (some ⟨ba, 0, none⟩) M ca), (18, .bool true), (25, .slice (some ⟨bw, 0, none⟩) n n), (26, .int .i64 i)] a' → Q (.normal) a' wt) : (soQ29 Try.f5).wp Try.prog Q ⟨T318 x, []⟩ wt := by
  have HQ := Lib.hid hQ
  clear hQ
  simp only [soQ29, soB3, soX3, soS, soX5, soS5, soR13, soR10, bodyOf, Try.f5, codeL, codeR, blockOf, loopOf, Option.getD_some, T318]
  simp only [hx0, hx1, hx2, hx7, hx9, hx10, hx15, hx16, hx17, hx18, hx25, hx26]
  go_wp2
  exact HQ.out _ ⟨rfl, rfl, ⟨rfl, rfl, rfl, rfl, rfl, rfl, rfl, rfl, rfl, rfl, rfl, rfl, trivial⟩⟩

theorem so_q29_end (hx0 : x 0 = .slice (some ⟨bh, oh, none⟩) n ch) (hx1 : x 1 = .slice (some ⟨bd, od, none⟩) M cd) (hx2 : x 2 = .slice bo K co) (hx7 : x 7 = .pointer (some ⟨bc, 0, none⟩)) (hx9 : x 9 = .int .i64 n) (hx10 : x 10 = .pointer (some ⟨pA, 0, none⟩)) (hx15 : x 15 = .slice (some ⟨bf, 0, none⟩) n n) (hx16 : x 16 = .slice (some ⟨be, 0, none⟩) M M) (hx17 : x 17 = .slice (some ⟨ba, 0, none⟩) M ca) (hx18 : x 18 = .bool true) (hx25 : x 25 = .slice (some ⟨bw, 0, none⟩) n n) (hx26 : x 26 = .int .i64 i) (hi : i = K) (hK : K ≤ 100) (hQ : ∀ a', FrX [(0, .slice (some ⟨bh, oh, none⟩) n ch), (1, .slice (some ⟨bd, od, none⟩) M cd), (2, .slice bo K co), (7, .pointer (some ⟨bc, 0, none⟩)), (9, .int .i64 n), (10, .pointer (some ⟨pA, 0, none⟩)), (15, .slice (some ⟨bf, 0, none⟩) n n), (16, .slice (some ⟨be, 0, none⟩) M M), (17, .slice (some ⟨ba, 0, none⟩) M ca), (18, .bool true), (25, .slice (some ⟨bw, 0, none⟩) n n), (26, .int .i64 i)] a' → Q (.exit 4) a' wt) : (soQ29 Try.f5).wp Try.prog Q ⟨T318 x, []⟩ wt := by
  have HQ := Lib.hid hQ
  clear hQ
  simp only [soQ29, soB3, soX3, soS, soX5, soS5, soR13, soR10, bodyOf, Try.f5, codeL, codeR, blockOf, loopOf, Option.getD_some, T318]
  simp only [hx0, hx1, hx2, hx7, hx9, hx10, hx15, hx16, hx17, hx18, hx25, hx26]
  go_wp2
  exact HQ.out _ ⟨rfl, rfl, ⟨rfl, rfl, rfl, rfl, rfl, rfl, rfl, rfl, rfl, rfl, rfl, rfl, trivial⟩⟩

theorem so_q30 (hx0 : x 0 = .slice (some ⟨bh, oh, none⟩) n ch) (hx1 : x 1 = .slice (some ⟨bd, od, none⟩) M cd) (hx2 : x 2 = .slice bo K co) (hx7 : x 7 = .pointer (some ⟨bc, 0, none⟩)) (hx9 : x 9 = .int .i64 n) (hx10 : x 10 = .pointer (some ⟨pA, 0, none⟩)) (hx15 : x 15 = .slice (some ⟨bf, 0, none⟩) n n) (hx16 : x 16 = .slice (some ⟨be, 0, none⟩) M M) (hx17 : x 17 = .slice (some ⟨ba, 0, none⟩) M ca) (hx18 : x 18 = .bool true) (hx25 : x 25 = .slice (some ⟨bw, 0, none⟩) n n) (hx26 : x 26 = .int .i64 i) (hi : i < K) (hK : K ≤ 100) (hQ : ∀ a', FrX [(0, .slice (some ⟨bh, oh, none⟩) n ch), (1, .slice (some ⟨bd, od, none⟩) M cd), (2, .slice bo K co), (7, .pointer (some ⟨bc, 0, none⟩)), (9, .int .i64 n), (10, .pointer (some ⟨pA, 0, none⟩)), (15, .slice (some ⟨bf, 0, none⟩) n n), (16, .slice (some ⟨be, 0, none⟩) M M), (17, .slice (some ⟨ba, 0, none⟩) M ca), (18, .bool true), (25, .slice (some ⟨bw, 0, none⟩) n n), (26, .int .i64 ((i + 1 : Nat) : Int))] a' → Q (.normal) a' wt) : (soQ30 Try.f5).wp Try.prog Q ⟨T318 x, []⟩ wt := by
  have HQ := Lib.hid hQ
  clear hQ
  have hw := wrap_small (i := i) (by omega)
  simp only [soQ30, soB3, soX3, soS, soX5, soS5, soR13, soR10, bodyOf, Try.f5, codeL, codeR, blockOf, loopOf, Option.getD_some, T318]
  simp only [hx0, hx1, hx2, hx7, hx9, hx10, hx15, hx16, hx17, hx18, hx25, hx26]
  go_wp2
  exact HQ.out _ ⟨rfl, rfl, ⟨rfl, rfl, rfl, rfl, rfl, rfl, rfl, rfl, rfl, rfl, rfl, rfl, trivial⟩⟩

theorem so_q31 (hx0 : x 0 = .slice (some ⟨bh, oh, none⟩) n ch) (hx1 : x 1 = .slice (some ⟨bd, od, none⟩) M cd) (hx2 : x 2 = .slice (some ⟨bO, oo, none⟩) K co) (hx7 : x 7 = .pointer (some ⟨bc, 0, none⟩)) (hx9 : x 9 = .int .i64 n) (hx10 : x 10 = .pointer (some ⟨pA, 0, none⟩)) (hx15 : x 15 = .slice (some ⟨bf, 0, none⟩) n n) (hx16 : x 16 = .slice (some ⟨be, 0, none⟩) M M) (hx17 : x 17 = .slice (some ⟨ba, 0, none⟩) M ca) (hx18 : x 18 = .bool true) (hx25 : x 25 = .slice (some ⟨bw, 0, none⟩) n n) (hx26 : x 26 = .int .i64 i) (hi : i < K) (hK : K ≤ 100) (hM1 : 1 ≤ M) (hM4 : M ≤ 4) (hd : 0 ≤ d ∧ d ≤ 255) (hc : wt.cell? ⟨bO, oo + i, none⟩ = some (.int .u8 d)) (hQ : ∀ a', FrX [(0, .slice (some ⟨bh, oh, none⟩) n ch), (1, .slice (some ⟨bd, od, none⟩) M cd), (2, .slice (some ⟨bO, oo, none⟩) K co), (7, .pointer (some ⟨bc, 0, none⟩)), (9, .int .i64 n), (10, .pointer (some ⟨pA, 0, none⟩)), (15, .slice (some ⟨bf, 0, none⟩) n n), (16, .slice (some ⟨be, 0, none⟩) M M), (17, .slice (some ⟨ba, 0, none⟩) M ca), (18, .bool true), (25, .slice (some ⟨bw, 0, none⟩) n n), (26, .int .i64 i), (27, .int .i64 (d % M))] a' → Q (.normal) a' wt) : (soQ31 Try.f5).wp Try.prog Q ⟨T318 x, []⟩ wt := by
  have HQ := Lib.hid hQ
  clear hQ
  simp only [soQ31, soB3, soX3, soS, soX5, soS5, soR13, soR10, bodyOf, Try.f5, codeL, codeR, blockOf, loopOf, Option.getD_some, T318]
  simp only [hx0, hx1, hx2, hx7, hx9, hx10, hx15, hx16, hx17, hx18, hx25, hx26]
  go_wp2
  exact HQ.out _ ⟨rfl, rfl, ⟨rfl, rfl, rfl, rfl, rfl, rfl, rfl, rfl, rfl, rfl, rfl, rfl, rfl, trivial⟩⟩

theorem so_q48 (hx10 : x 10 = .pointer (some ⟨pA, 0, none⟩)) (hx17 : x 17 = .slice (some ⟨ba, 0, none⟩) M ca) (hx18 : x 18 = .bool true)  (hQ : ∀ a', FrX [(10, .pointer (some ⟨pA, 0, none⟩)), (17, .slice (some ⟨ba, 0, none⟩) M ca), (18, .bool true), (35, .int .i64 0)] a' → Q (.normal) a' wt) : (soQ48 Try.f5).wp Try.prog Q ⟨T318 x, []⟩ wt := by
  have HQ := Lib.hid hQ
  clear hQ
  simp only [soQ48, soB3, soX3, soS, soX5, soS5, soR13, soR10, bodyOf, Try.f5, codeL, codeR, blockOf, loopOf, Option.getD_some, T318]
  simp only [hx10, hx17, hx18]
  go_wp2
  exact HQ.out _ ⟨rfl, rfl, ⟨rfl, rfl, rfl, rfl, trivial⟩⟩

theorem so_q49 (hx10 : x 10 = .pointer (some ⟨pA, 0, none⟩)) (hx17 : x 17 = .slice (some ⟨ba, 0, none⟩) M ca) (hx18 : x 18 = .bool true) (hx35 : x 35 = .int .i64 i) (hi : i < M) (hM4 : M ≤ 4) (hQ : ∀ a', FrX [(10, .pointer (some ⟨pA, 0, none⟩)), (17, .slice (some ⟨ba, 0, none⟩) M ca), (18, .bool true), (35, .int .i64 i)] a' → Q (.normal) a' wt) : (soQ49 Try.f5).wp Try.prog Q ⟨T318 x, []⟩ wt := by
  have HQ := Lib.hid hQ
  clear hQ
  simp only [soQ49, soB3, soX3, soS, soX5, soS5, soR13, soR10, bodyOf, Try.f5, codeL, codeR, blockOf, loopOf, Option.getD_some, T318]
  simp only [hx10, hx17, hx18, hx35]
  go_wp2
  exact HQ.out _ ⟨rfl, rfl, ⟨rfl, rfl, rfl, rfl, trivial⟩⟩

theorem so_q49_end (hx10 : x 10 = .pointer (some ⟨pA, 0, none⟩)) (hx17 : x 17 = .slice (some ⟨ba, 0, none⟩) M ca) (hx18 : x 18 = .bool true) (hx35 : x 35 = .int .i64 i) (hi : i = M) (hM4 : M ≤ 4) (hQ : ∀ a', FrX [(10, .pointer (some ⟨pA, 0, none⟩)), (17, .slice (some ⟨ba, 0, none⟩) M ca), (18, .bool true), (35, .int .i64 i)] a' → Q (.exit 8) a' wt) : (soQ49 Try.f5).wp Try.prog Q ⟨T318 x, []⟩ wt := by
  have HQ := Lib.hid hQ
  clear hQ
  simp only [soQ49, soB3, soX3, soS, soX5, soS5, soR13, soR10, bodyOf, Try.f5, codeL, codeR, blockOf, loopOf, Option.getD_some, T318]
  simp only [hx10, hx17, hx18, hx35]
  go_wp2
  exact HQ.out _ ⟨rfl, rfl, ⟨rfl, rfl, rfl, rfl, trivial⟩⟩

theorem so_q50 (hx10 : x 10 = .pointer (some ⟨pA, 0, none⟩)) (hx17 : x 17 = .slice (some ⟨ba, 0, none⟩) M ca) (hx18 : x 18 = .bool true) (hx35 : x 35 = .int .i64 i) (hi : i < M) (hM4 : M ≤ 4) (hQ : ∀ a', FrX [(10, .pointer (some ⟨pA, 0, none⟩)), (17, .slice (some ⟨ba, 0, none⟩) M ca), (18, .bool true), (35, .int .i64 ((i + 1 : Nat) : Int))] a' → Q (.normal) a' wt) : (soQ50 Try.f5).wp Try.prog Q ⟨T318 x, []⟩ wt := by
  have HQ := Lib.hid hQ
  clear hQ
  have hw := wrap_small (i := i) (by omega)
  simp only [soQ50, soB3, soX3, soS, soX5, soS5, soR13, soR10, bodyOf, Try.f5, codeL, codeR, blockOf, loopOf, Option.getD_some, T318]
  simp only [hx10, hx17, hx18, hx35]
  go_wp2
  exact HQ.out _ ⟨rfl, rfl, ⟨rfl, rfl, rfl, rfl, trivial⟩⟩

end

end Go.Proofs.Ytnbibpmhmffmpaa

namespace Go.Proofs.Ytnbibpmhmffmpaa
set_option linter.unusedVariables false
set_option linter.unusedSimpArgs false
set_option maxRecDepth 100000
open Go.RowKit
open Go.Conc
open Go.ConcN (upd_ne upd_same)

/-- What an agent has still to do: 0 all, 1 its second touch, others nothing. -/
def trS (n : Nat) (cc : Int) (ix : Nat) (d : Int) : Nat → Tree (List Int)
  | 0 => otree (d % n) cc ix d
  | 1 => .node (d % n) (fun x => shadeI x cc) (fun u g => if metI u cc then g.set ix 2 else g) (fun _ _ => .ret) (fun g => g)
  | _ => .ret
theorem otree_node (k cc : Int) (ix : Nat) (d : Int) : ∃ kk φ c nx hl, otree k cc ix d = .node kk φ c nx hl := by
  unfold otree
  split
  · exact ⟨_, _, _, _, _, rfl⟩
  · exact ⟨_, _, _, _, _, rfl⟩
def nxS (cc d v : Int) (st : Nat) : Nat := if ¬ 127 < d ∧ st = 0 ∧ tellI v cc = 1 then 1 else 2
def phS (cc d v : Int) (st : Nat) : Int := if 127 < d then blackI v else if st = 0 then v else shadeI v cc
def gS (cc d v : Int) (ix st : Nat) (g : List Int) : List Int := if ¬ 127 < d ∧ ¬ (st = 0 ∧ tellI v cc = 1) ∧ metI v cc = true then g.set ix 2 else g

theorem gS_other {cc d v : Int} {ix st j : Nat} {g : List Int} (h : j ≠ ix) : (gS cc d v ix st g).getD j 0 = g.getD j 0 := by
  unfold gS
  split
  · simp [List.getD, List.getElem?_set, Ne.symm h]
  · rfl
theorem gS_self {cc d v : Int} {ix st : Nat} {g : List Int} (hix : ix < g.length) (hd : ¬ 127 < d) (h1 : g.getD ix 0 = 1) (hn : nxS cc d v st = 2) : (gS cc d v ix st g).getD ix 0 = 2 ↔ (tellI v cc = 1 ∨ tellI v cc = 2) := by
  unfold gS
  unfold nxS at hn
  split at hn
  · cases hn
  · rename_i hno
    have hno2 : ¬ (st = 0 ∧ tellI v cc = 1) := fun z => hno ⟨hd, z⟩
    by_cases hm : metI v cc = true
    · rw [if_pos ⟨hd, hno2, hm⟩]
      have : tellI v cc = 1 ∨ tellI v cc = 2 := by simpa [metI] using hm
      simp [List.getD, hix, this]
    · rw [if_neg (fun z => hm z.2.2), h1]
      have : ¬ (tellI v cc = 1 ∨ tellI v cc = 2) := by simpa [metI] using hm
      simp [this]
theorem gS_still {cc d v : Int} {ix st : Nat} {g : List Int} (hn : nxS cc d v st = 1) : gS cc d v ix st g = g := by
  unfold nxS at hn
  split at hn
  · rename_i h
    unfold gS
    rw [if_neg (fun z => z.2.1 h.2)]
  · cases hn

theorem phS_may {cc d v : Int} {st : Nat} : mayTouch cc v (phS cc d v st) := by
  unfold phS mayTouch
  split
  · exact .inr (.inr rfl)
  · split
    · exact .inl rfl
    · exact .inr (.inl rfl)
theorem phS_bnd {cc d v : Int} {st : Nat} (hc0 : 0 ≤ cc) (hc1 : cc ≤ 1) (hv : 0 ≤ v ∧ v < 18446744073709551616) : 0 ≤ phS cc d v st ∧ phS cc d v st < 18446744073709551616 := by
  unfold phS
  split
  · unfold blackI
    split
    · rename_i h
      have := dyed_bounds (g := false) h (show 0 ≤ v / 4 % 2 by omega) (show v / 4 % 2 ≤ 1 by omega)
      omega
    · exact hv
  · split
    · exact hv
    · unfold shadeI
      split
      · rename_i ht
        obtain ⟨hg, _⟩ := tell_pos (x := v) (c := cc) (by rw [ht]; decide)
        have := dyed_bounds (g := true) hg hc0 hc1
        omega
      · exact hv
/-- The end of one that shades. -/
theorem phS_end {cc d v : Int} {st : Nat} (hc0 : 0 ≤ cc) (hc1 : cc ≤ 1) (hd : ¬ 127 < d) (hst : st = 0 ∨ st = 1) (hn : nxS cc d v st = 2) : tellI (phS cc d v st) cc ≠ 1 := by
  unfold phS
  rw [if_neg hd]
  rcases hst with rfl | rfl
  · rw [if_pos rfl]
    intro h
    unfold nxS at hn
    rw [if_pos ⟨hd, rfl, h⟩] at hn
    cases hn
  · rw [if_neg (by decide)]
    exact shade_end hc0 hc1

/-- The words behind a turn. -/
theorem asked_turn {cc : Int} {n a : Nat} {V Z : List Int} {y : Int} (hc0 : 0 ≤ cc) (hc1 : cc ≤ 1) (hV : ∀ x ∈ V, 0 ≤ x ∧ x < 18446744073709551616) (hZ : ∀ x ∈ Z, 0 ≤ x ∧ x < 18446744073709551616) (hp : ∀ j, plnI (V.getD j 0) = plnI (Z.getD j 0)) (ha : a < V.length) (hy : mayTouch cc (V.getD a 0) y) (hyb : 0 ≤ y ∧ y < 18446744073709551616) :
    Asked cc n a V (V.set a y) Z := by
  have gb : ∀ (L : List Int), (∀ x ∈ L, 0 ≤ x ∧ x < 18446744073709551616) → ∀ j, 0 ≤ L.getD j 0 ∧ L.getD j 0 < 18446744073709551616 := fun L h j => by
    rcases Nat.lt_or_ge j L.length with z | z
    · have e : L.getD j 0 = L[j] := by simp [List.getD, z]
      rw [e]; exact h _ (List.getElem_mem z)
    · have e : L.getD j 0 = 0 := by simp [List.getD, z]
      rw [e]; decide
  have ho : ∀ j, j ≠ a → (V.set a y).getD j 0 = V.getD j 0 := fun j hj => by simp [List.getD, List.getElem?_set, Ne.symm hj]
  have hs : (V.set a y).getD a 0 = y := by simp [List.getD, ha]
  obtain ⟨t1, t2⟩ := touch_ok (gb V hV a).1 hc0 hc1 hy
  refine ⟨gb V hV, fun j => ?_, gb Z hZ, ho, fun j => ?_, fun j => ?_⟩
  · by_cases e : j = a
    · subst e; rw [hs]; exact hyb
    · rw [ho j e]; exact gb V hV j
  · by_cases e : j = a
    · subst e; rw [hs]; exact t2
    · rw [ho j e]; exact ⟨Iff.rfl, by omega, by omega⟩
  · by_cases e : j = a
    · subst e; rw [hs, t1]; exact hp j
    · rw [ho j e]; exact hp j
theorem asked_same {cc : Int} {n a : Nat} {V Z : List Int} (hV : ∀ x ∈ V, 0 ≤ x ∧ x < 18446744073709551616) (hZ : ∀ x ∈ Z, 0 ≤ x ∧ x < 18446744073709551616) (hp : ∀ j, plnI (V.getD j 0) = plnI (Z.getD j 0)) : Asked cc n a V V Z := by
  have gb : ∀ (L : List Int), (∀ x ∈ L, 0 ≤ x ∧ x < 18446744073709551616) → ∀ j, 0 ≤ L.getD j 0 ∧ L.getD j 0 < 18446744073709551616 := fun L h j => by
    rcases Nat.lt_or_ge j L.length with z | z
    · have e : L.getD j 0 = L[j] := by simp [List.getD, z]
      rw [e]; exact h _ (List.getElem_mem z)
    · have e : L.getD j 0 = 0 := by simp [List.getD, z]
      rw [e]; decide
  exact ⟨gb V hV, gb V hV, gb Z hZ, fun _ _ => rfl, fun j => ⟨Iff.rfl, by omega, by omega⟩, hp⟩

theorem priv_rowc (b n : Nat) (V : List Int) : Priv (· = b) (fun w => 1 ≤ n ∧ RowC w b n V) := by
  have hcell : ∀ (w : World) b', (1 ≤ n ∧ RowC w b n V) → b' = b → w.cell? ⟨b', 0, none⟩ = some (.int .u64 (V.getD 0 0)) := fun w b' h e => by subst e; exact h.2.2 0 (by omega)
  refine ⟨fun w w' h hb => ⟨h.1, h.2.1, fun j hj => by rw [World.cell?_of_block (hb b rfl)]; exact h.2.2 j hj⟩, fun w b' h e => ?_, fun w b' h e => World.block_lt_of_cell? _ _ (hcell w b' h e)⟩
  have hc := hcell w b' h e
  cases ho : w.heap[b']? with
  | none => rfl
  | some ob =>
    cases ob <;> first | rfl | (exfalso; simp [World.cell?, ho] at hc)

section
variable {Post : Value → World → Prop} {W : World} {pA rA be bc bf bw M n k N : Nat} {cc : Int} {ws0 : List Int} {ag : Nat → Ag} {dl : Nat → Int} {σ : Nat → Nat} {V : List Int} {va : Value} {pl : Nat → Option Place} {F : Nat → Option (Nat × Nat)} {col : Nat → Col} {w w' : World} {g : List Int} {s : St}

/-- A step, whatever there is still to do. -/
theorem so_step {i : Nat} (C : Crew Post (onceSh be bc M cc) (fun b => b = be ∨ b = bc) pA rA (memV pA) 1 M ag (fun j => trS n cc j (dl j) (σ j)) pl F col w g) (hi : i < M) (hσ : σ i = 0 ∨ (σ i = 1 ∧ ¬ 127 < dl i)) (har : Ar w pA rA s) (hlen : s.ws.length ≤ 4096) (ht : s.t ≤ 4095) (hbn : Bnd s) {c₀ : Frame} {cs : List Frame}
    (H : ∀ pl' F' col' w', Crew Post (onceSh be bc M cc) (fun b => b = be ∨ b = bc) pA rA (memV pA) 1 M ag (fun j => trS n cc j (dl j) (if j = i then nxS cc (dl i) (Go.Proofs.Ytnbibpmhmffmpaa.was s (dl i % n)) (σ i) else σ j)) pl' F' col' w' (gS cc (dl i) (Go.Proofs.Ytnbibpmhmffmpaa.was s (dl i % n)) i (σ i) g) → Ar w' pA rA (Go.Proofs.Ytnbibpmhmffmpaa.upd s (dl i % n) (phS cc (dl i) (Go.Proofs.Ytnbibpmhmffmpaa.was s (dl i % n)) (σ i))) → Ks (stepped (ag i) col) w w' → Same F col w F' col' → Win Try.prog Post pl' N 0 (gor (c₀.finish (.int .i64 0)) cs) w') :
    Win Try.prog Post pl N 0 (gor (Frame.enter Try.prog 15 #[.pointer (some ⟨(ag i).p, 0, none⟩)] .normal) (c₀ :: cs)) w := by
  have key : ∀ (kk : Int) (φ : Int → Int) (c : Int → List Int → List Int) (nx : Int → List Int → Tree (List Int)) (hl : List Int → List Int), trS n cc i (dl i) (σ i) = .node kk φ c nx hl → kk = dl i % n → (∀ v, φ v = phS cc (dl i) v (σ i)) → (∀ v, c v g = gS cc (dl i) v i (σ i) g) → (∀ v, nx v g = trS n cc i (dl i) (nxS cc (dl i) v (σ i))) →
      Win Try.prog Post pl N 0 (gor (Frame.enter Try.prog 15 #[.pointer (some ⟨(ag i).p, 0, none⟩)] .normal) (c₀ :: cs)) w := by
    intro kk φ c nx hl hT hk hφ hc hn
    subst hk
    refine C.steps (priv_once be bc M cc) hi hT har hlen ht hbn fun pl' F' col' w' C' har' ks sm => ?_
    rw [hφ] at har'
    rw [hc] at C'
    have e : (fun j => if j = i then nx (Go.Proofs.Ytnbibpmhmffmpaa.was s (dl i % n)) g else trS n cc j (dl j) (σ j)) = fun j => trS n cc j (dl j) (if j = i then nxS cc (dl i) (Go.Proofs.Ytnbibpmhmffmpaa.was s (dl i % n)) (σ i) else σ j) := by
      funext j
      by_cases e : j = i
      · subst e; simp [hn]
      · simp [e]
    rw [e] at C'
    exact H pl' F' col' w' C' har' ks sm
  rcases hσ with h0 | ⟨h1, hd⟩
  · by_cases hd : 127 < dl i
    · exact key (dl i % n) blackI (fun _ g => g) (fun _ _ => .ret) (fun g => g) (by rw [h0]; simp [trS, otree, hd]) rfl (fun v => by simp [phS, hd]) (fun v => by simp [gS, hd]) (fun v => by simp [nxS, hd, trS])
    · refine key (dl i % n) (fun x => x) (fun v g => if tellI v cc = 1 then g else (if metI v cc then g.set i 2 else g)) (fun v _ => if tellI v cc = 1 then .node (dl i % n) (fun x => shadeI x cc) (fun u g => if metI u cc then g.set i 2 else g) (fun u _ => .ret) (fun g => g) else .ret) (fun g => g) (by rw [h0]; simp [trS, otree, hd, stree]) rfl (fun v => by simp [phS, hd, h0]) (fun v => ?_) (fun v => ?_)
      · by_cases ht : tellI v cc = 1
        · simp [gS, ht, h0]
        · by_cases hm : metI v cc = true
          · simp [gS, ht, hm, hd]
          · simp [gS, ht, hm]
      · by_cases ht : tellI v cc = 1
        · simp [nxS, ht, h0, hd, trS]
        · simp [nxS, ht, trS]
  · exact key (dl i % n) (fun x => shadeI x cc) (fun u g => if metI u cc then g.set i 2 else g) (fun _ _ => .ret) (fun g => g) (by rw [h1]; rfl) rfl (fun v => by simp [phS, hd, h1]) (fun v => by simp [gS, hd, h1]) (fun v => by simp [nxS, h1, trS])

/-- WHAT STANDS BETWEEN TURNS. -/
structure Turns (Post : Value → World → Prop) (W : World) (pA rA be bc bf bw M n : Nat) (cc : Int) (ws0 : List Int) (ag : Nat → Ag) (dl : Nat → Int) (σ : Nat → Nat) (V : List Int) (va : Value) (pl : Nat → Option Place) (F : Nat → Option (Nat × Nat)) (col : Nat → Col) (w : World) (g : List Int) (s : St) : Prop where
  crew : Crew Post (onceSh be bc M cc) (fun b => b = be ∨ b = bc) pA rA (memV pA) 1 M ag (fun j => trS n cc j (dl j) (σ j)) pl F col w g
  ar : Ar w pA rA s
  row : w.heap[bf]? = some (.cells (u64s ws0) 40 (0, 0))
  rowc : col bf = .main
  was : 1 ≤ n ∧ RowC w bw n V
  wasc : col bw = .main
  all : Rw 33 1 W.heap.size w va M (ptrs ag M)
  allc : ∀ b ∈ blk va, col b = .main
  old : ∀ b, b < W.heap.size → col b = .main
  ks : Ks (fun _ => False) W w
  one : ∀ j, j < M → ¬ 127 < dl j → σ j < 2 → g.getD j 0 = 1
  st1 : ∀ j, σ j = 1 → ¬ 127 < dl j
  pln : ∀ j, plnI (s.ws.getD j 0) = plnI (ws0.getD j 0)
  bnd : Bnd s
  bnd0 : ∀ x ∈ ws0, 0 ≤ x ∧ x < 18446744073709551616
  len : s.ws.length = n
  len0 : ws0.length = n

/-- Who steps has done something alone. -/
theorem Turns.made (A : Turns Post W pA rA be bc bf bw M n cc ws0 ag dl σ V va pl F col w g s) (D : Desk (fun b => b = be ∨ b = bc) pA rA pl F col w') (ks : Ks (fun _ => False) w w') : Turns Post W pA rA be bc bf bw M n cc ws0 ag dl σ V va pl F col w' g s :=
  { A with
    crew := A.crew.keep D ks (fun _ _ z => z.elim) ((priv_once be bc M cc g).st _ _ A.crew.sh fun b hb => ks.block b ((priv_once be bc M cc g).lt _ _ A.crew.sh hb) fun z => z)
    ar := ⟨ks.row (fun z => z) A.ar.hp, ks.row (fun z => z) A.ar.hr⟩
    row := ks.row (fun z => z) A.row
    was := (priv_rowc _ _ _).st _ _ A.was fun b hb => ks.block b ((priv_rowc _ _ _).lt _ _ A.was hb) fun z => z
    all := (priv_rw _ _ _ _ _ _).st _ _ A.all fun b hb => ks.block b ((priv_rw _ _ _ _ _ _).lt _ _ A.all hb) fun z => z
    ks := A.ks.trans ks }
/-- The words of the last turn's end are kept in another row. -/
theorem Turns.row2 {b2 : Nat} (A : Turns Post W pA rA be bc bf bw M n cc ws0 ag dl σ V va pl F col w g s) (h : 1 ≤ n ∧ RowC w b2 n s.ws) (hc : col b2 = .main) : Turns Post W pA rA be bc bf b2 M n cc ws0 ag dl σ s.ws va pl F col w g s :=
  { A with was := h, wasc := hc }
/-- Whether an agent is over. -/
theorem Turns.over (A : Turns Post W pA rA be bc bf bw M n cc ws0 ag dl σ V va pl F col w g s) {i : Nat} (hi : i < M) : w.cell? ⟨(ag i).p, 6, none⟩ = some (.bool (decide (2 ≤ σ i))) := by
  have hst := A.crew.st i hi
  rcases Nat.lt_or_ge (σ i) 2 with z | z
  · have hd : decide (2 ≤ σ i) = false := by simp; omega
    rw [hd]
    have hno : ∀ (T : Tree (List Int)), (∃ kk φ c nx hl, T = .node kk φ c nx hl) → Stands Post (onceSh be bc M cc) (fun b => b = be ∨ b = bc) pA rA (ag i) (memV pA) T pl F col w → w.cell? ⟨(ag i).p, 6, none⟩ = some (.bool false) := by
      rintro T ⟨kk, φ, c, nx, hl, rfl⟩ ⟨t, h1, _⟩
      exact cell_of_row h1 6
    refine hno _ ?_ hst
    rcases (by omega : σ i = 0 ∨ σ i = 1) with e | e
    · rw [e]
      exact otree_node _ _ _ _
    · rw [e]; exact ⟨_, _, _, _, _, rfl⟩
  · have hd : decide (2 ≤ σ i) = true := by simp; omega
    rw [hd]
    have e : trS n cc i (dl i) (σ i) = .ret := by
      obtain ⟨q, hq⟩ : ∃ q, σ i = q + 2 := ⟨σ i - 2, by omega⟩
      rw [hq]; rfl
    simp only [e] at hst
    exact cell_of_row hst.2 6
theorem trS_ret {n : Nat} {cc : Int} {ix : Nat} {d : Int} {q : Nat} (h : 2 ≤ q) : trS n cc ix d q = .ret := by
  obtain ⟨r, rfl⟩ : ∃ r, q = r + 2 := ⟨q - 2, by omega⟩
  rfl

/-- Who steps looks at cells, and turns nothing. -/
theorem desk_look {SB : Nat → Prop} (D : Desk SB pA rA pl F col w) {K' : List (Nat × Value)} {b : Frame} {x : Nat → Value} {k : List Item} {cs : List Frame} {c : Code}
    (hok : StOK Try.prog (b.at ⟨T318 x, []⟩ (.code c :: k)) [])
    (hc : ∀ (wt : World) (Q : Exit → Act → World → Prop), (∀ ad, wt.cell? ad = w.cell? ad) → (∀ a', FrX K' a' → Q .normal a' wt) → c.wp Try.prog Q ⟨T318 x, []⟩ wt)
    (H : ∀ (x' : Nat → Value) w', HasX x' K' → Ks (fun _ => False) w w' → Desk SB pA rA pl F col w' → Win Try.prog Post pl N 0 (gor (b.at ⟨T318 x', []⟩ k) cs) w') :
    Win Try.prog Post pl N 0 (gor (b.at ⟨T318 x, []⟩ (.code c :: k)) cs) w :=
  D.piece (own := fun _ => False) (S := fun _ => False) (A := fun _ => True) (Priv.const True) trivial (fun _ h => h.elim) (ι := Unit) (own' := fun _ _ => False) (A' := fun _ _ => True) (fun _ => Priv.const True) (K' := fun _ => K') hok (fun wt Q _ _ h3 hQ => hc wt Q h3 fun a' hf => hQ a' () wt (fun y hy => hy.elim) hf trivial (Ks.refl _ _)) fun x' _ w' _ hx _ hk D => H x' w' hx hk D

/-- The agents being made, nobody has stepped yet. -/
theorem gofS_len (d0 : Nat → Int) (M k : Nat) : (gofS d0 M k).length = M := by
  induction k with
  | zero => simp [gofS]
  | succ k ih => unfold gofS; split <;> simp [ih]
theorem gofS_get {d0 : Nat → Int} {M k j : Nat} (hj : j < k) (hk : k ≤ M) (hd : ¬ 127 < d0 j) : (gofS d0 M k).getD j 0 = 1 := by
  induction k with
  | zero => omega
  | succ k ih =>
    unfold gofS
    by_cases e : j = k
    · subst e
      rw [if_neg hd]
      have hl := gofS_len d0 M j
      simp [List.getD, hl, show j < M by omega]
    · split
      · exact ih (by omega) (by omega)
      · have h := ih (by omega) (by omega)
        simp only [List.getD, List.getElem?_set, Ne.symm e, if_false] at h ⊢
        exact h
theorem SoW.turns (A : SoW Post W pA rA be bc bf M n cc ws0 M ag dl va pl F col w (gofS dl M M) s) (hws : s.ws = ws0) (hn1 : 1 ≤ n) (hlen : s.ws.length = n) (hb : ∀ x ∈ ws0, 0 ≤ x ∧ x < 18446744073709551616) (hbw : w.heap[bw]? = some (.cells (u64s s.ws) 40 (0, 0))) (hbc : col bw = .main) :
    Turns Post W pA rA be bc bf bw M n cc ws0 ag dl (fun _ => 0) s.ws va pl F col w (gofS dl M M) s :=
  ⟨A.crew, A.ar, A.row, A.rowc, ⟨hn1, hlen, fun j hj => by rw [cell_of_row hbw, u64s_get _ _ (by omega)]⟩, hbc, A.all, A.allc, A.old, A.ks, fun j hj hd _ => gofS_get hj (Nat.le_refl _) hd, fun j h => (by cases h), fun j => (by rw [hws]), fun x hx => hb x (by rw [← hws]; exact hx), hb, hlen, by rw [← hws]; exact hlen⟩
theorem main_not {b : Nat} {a : Ag} (h : col b = .main) : ¬ stepped a col b := fun z => by
  unfold stepped at z
  rw [h] at z
  rcases z with z | z | z | z <;> cases z
/-- One has stepped. -/
theorem Turns.stepped {i : Nat} (A : Turns Post W pA rA be bc bf bw M n cc ws0 ag dl σ V va pl F col w g s) (hi : i < M) (hc0 : 0 ≤ cc) (hc1 : cc ≤ 1) (hd0 : 0 ≤ dl i) (hσ : σ i = 0 ∨ (σ i = 1 ∧ ¬ 127 < dl i)) {a : Nat} (ha : (a : Int) = dl i % n) {v y : Int} (hv : v = s.ws.getD a 0) (hy : y = phS cc (dl i) v (σ i)) {pl' : Nat → Option Place} {F' : Nat → Option (Nat × Nat)} {col' : Nat → Col}
    (C : Crew Post (onceSh be bc M cc) (fun b => b = be ∨ b = bc) pA rA (memV pA) 1 M ag (fun j => trS n cc j (dl j) (if j = i then nxS cc (dl i) (Go.Proofs.Ytnbibpmhmffmpaa.was s (dl i % n)) (σ i) else σ j)) pl' F' col' w' (gS cc (dl i) (Go.Proofs.Ytnbibpmhmffmpaa.was s (dl i % n)) i (σ i) g)) (ar : Ar w' pA rA (Go.Proofs.Ytnbibpmhmffmpaa.upd s (dl i % n) (phS cc (dl i) (Go.Proofs.Ytnbibpmhmffmpaa.was s (dl i % n)) (σ i)))) (ks : Ks (stepped (ag i) col) w w') (sm : Same F col w F' col') :
    Turns Post W pA rA be bc bf bw M n cc ws0 ag dl (fun j => if j = i then nxS cc (dl i) v (σ i) else σ j) V va pl' F' col' w' (gS cc (dl i) v i (σ i) g) ⟨s.ws.set a y, s.t + 1, a⟩ := by
  have hn1 := A.was.1
  have ha1 : a < n := by
    have := Int.emod_lt_of_pos (dl i) (show (0 : Int) < n by omega)
    omega
  have hin : inB s (dl i % n) = true := inB_iff.2 ⟨by omega, by rw [A.len]; omega⟩
  have hwas : Go.Proofs.Ytnbibpmhmffmpaa.was s (dl i % n) = v := by rw [was_in hin, ← ha, hv]; rfl
  rw [hwas] at C ar
  rw [← hy, upd_in hin, ← ha] at ar
  have ar' : Ar w' pA rA ⟨s.ws.set a y, s.t + 1, a⟩ := ar
  have hvb : 0 ≤ v ∧ v < 18446744073709551616 := by
    have e : v = s.ws[a]'(by rw [A.len]; exact ha1) := by rw [hv]; simp [List.getD, A.len, ha1]
    rw [e]; exact A.bnd _ (List.getElem_mem _)
  have hyb := phS_bnd (cc := cc) (d := dl i) (st := σ i) hc0 hc1 hvb
  have hmay := phS_may (cc := cc) (d := dl i) (v := v) (st := σ i)
  rw [← hy] at hyb hmay
  have hnm : ∀ b, col b = .main → ¬ Go.Proofs.Ytnbibpmhmffmpaa.stepped (ag i) col b := fun b h => main_not h
  have hmain : ∀ b, col b = .main → b < w.heap.size → w'.heap[b]? = w.heap[b]? := fun b hb hlt => ks.block b hlt (hnm b hb)
  have hcM : ∀ b, col b = .main → b < w.heap.size → col' b = .main := fun b hb hlt => (sm.co b hlt).trans hb
  have hzW := A.ks.size
  have hlbf := lt_of_block A.row
  have hlbw := (priv_rowc _ _ _).lt _ _ A.was (show bw = bw from rfl)
  have hlva : ∀ b ∈ blk va, b < w.heap.size := fun b hb => (priv_rw _ _ _ _ _ _).lt _ _ A.all hb
  refine ⟨C, ar', ks.row (hnm _ A.rowc) A.row, hcM _ A.rowc hlbf, (priv_rowc _ _ _).st _ _ A.was fun b hb => ?_, hcM _ A.wasc hlbw, (priv_rw _ _ _ _ _ _).st _ _ A.all fun b hb => hmain b (A.allc b hb) (hlva b hb), fun b hb => hcM b (A.allc b hb) (hlva b hb), fun b hb => hcM b (A.old b hb) (by omega), A.ks.then ks fun b hb z => (hnm b (A.old b hb) z).elim, fun j hj hd hlt => ?_, fun j hj => ?_, fun j => ?_, fun z hz => ?_, A.bnd0, by show (s.ws.set a y).length = n; rw [List.length_set]; exact A.len, A.len0⟩
  · have hb' : b = bw := hb
    rw [hb']; exact hmain _ A.wasc hlbw
  · by_cases e : j = i
    · subst e
      simp only [if_true] at hlt
      have hn : nxS cc (dl j) v (σ j) = 1 := by
        unfold nxS at hlt ⊢
        split
        · rfl
        · rename_i h; rw [if_neg h] at hlt; omega
      rw [gS_still hn]
      exact A.one j hj hd (by rcases hσ with h | h <;> omega)
    · simp only [if_neg e] at hlt
      rw [gS_other e]; exact A.one j hj hd hlt
  · by_cases e : j = i
    · subst e
      simp only [if_true] at hj
      unfold nxS at hj
      split at hj
      · rename_i h; exact h.1
      · cases hj
    · simp only [if_neg e] at hj
      exact A.st1 j hj
  · by_cases e : j = a
    · subst e
      have h1 : (s.ws.set j y).getD j 0 = y := by simp [List.getD, A.len, ha1]
      show plnI ((s.ws.set j y).getD j 0) = _
      rw [h1, (touch_ok hvb.1 hc0 hc1 hmay).1, hv]
      exact A.pln j
    · show plnI ((s.ws.set a y).getD j 0) = _
      have h1 : (s.ws.set a y).getD j 0 = s.ws.getD j 0 := by simp [List.getD, List.getElem?_set, Ne.symm e]
      rw [h1]; exact A.pln j
  · rcases List.mem_or_eq_of_mem_set hz with h | h
    · exact A.bnd z h
    · rw [h]; exact hyb
/-- The way out of a loop. -/
theorem desk_exit {SB : Nat → Prop} (D : Desk SB pA rA pl F col w) {K' : List (Nat × Value)} {b : Frame} {x : Nat → Value} {k k' : List Item} {id : Nat} {cs : List Frame} {c : Code} (he : exitTo id k = some k')
    (hok : StOK Try.prog (b.at ⟨T318 x, []⟩ (.code c :: k)) [])
    (hc : ∀ (wt : World) (Q : Exit → Act → World → Prop), (∀ a', FrX K' a' → Q (.exit id) a' wt) → c.wp Try.prog Q ⟨T318 x, []⟩ wt)
    (H : ∀ (x' : Nat → Value) w', HasX x' K' → Ks (fun _ => False) w w' → Desk SB pA rA pl F col w' → Win Try.prog Post pl N 0 (gor (b.at ⟨T318 x', []⟩ k') cs) w') :
    Win Try.prog Post pl N 0 (gor (b.at ⟨T318 x, []⟩ (.code c :: k)) cs) w := by
  have L := D.lies
  refine Win.code mild L (Q := fun e a' u => e = .exit id ∧ FrX K' a' ∧ Ks (fun _ => False) (L.veil.world (fun _ _ => 0) 0 w) u) hok (fun τ => ?_) ?_ ?_ ?_ ?_
  · exact hc _ _ fun a' hf => ⟨rfl, hf, ks_twin0 (Ks.refl _ _)⟩
  · intro a u h; cases h.1
  · intro id' a u h
    have h1 : Exit.exit id' = Exit.exit id := h.1
    cases h1
    rw [he]; simp
  · intro l a u h; cases h.1
  · intro e a' w' τ' D' fr' hst hVOK hVK hq hl
    obtain ⟨rfl, hf, hk⟩ := hq
    obtain ⟨k2, hk2, rfl⟩ := hl
    rw [he] at hk2
    cases hk2
    have hK := ks_of_twin L hVOK hVK hk
    have e := hf.at
    have := H (fun j => a'.tmps.getD j undef) w' hf.2.2 hK (D.turned (L.keeps hVK hVOK) hK.size)
    rw [e]
    exact this
end
end Go.Proofs.Ytnbibpmhmffmpaa
