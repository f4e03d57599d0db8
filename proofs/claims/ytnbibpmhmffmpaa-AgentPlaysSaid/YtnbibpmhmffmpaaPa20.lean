/- AgentPlays: an agent is made, in a region that draws its order, in company. Written by gen/ap_g.py. AgentPlays: its first loop: the agents are made. Written by gen/ap_h.py. AgentPlays: pieces of its second loop, each done alone. Written by gen/ap_i.py. Conditions: as each theorem states them. -/
import Derived.Deep.RegionHeld3
import Derived.Deep.CutRange
import Derived.Deep.CutBlock
import Derived.Deep.DeepCutAuto
import Derived.BigQuiet
import Derived.Test.YtnbibpmhmffmpaaPa19
namespace Go.Proofs.Ytnbibpmhmffmpaa
open List renaming setIfInBounds_toArray → siA, set_cons_succ → scS, set_cons_zero → scZ, getElem?_toArray → gqA, getElem?_cons_zero → gqZ, getElem?_cons_succ → gqS
set_option linter.unusedVariables false
set_option linter.unusedSimpArgs false
set_option maxRecDepth 100000
open Go.RowKit
open Go.Conc
open Go.ConcN (upd_ne upd_same)

section
variable {SB : Nat → Prop} {pA rA : Nat} {pl : Nat → Option Place} {F : Nat → Option (Nat × Nat)} {col : Nat → Col} {w : World} {n : Nat} {Post : Value → World → Prop}
/-- A call that who steps makes, and that makes blocks. -/
theorem Desk.callsY (D : Desk SB pA rA pl F col w) {own' : Nat → Prop} {A' : World → Prop} (hP' : Priv own' A') (hnew : ∀ y, own' y → w.heap.size ≤ y) {f : FuncId} {args : Array Value} {v : Value} {b : Frame} {cs : List Frame} (hok : StOK Try.prog b [])
    (hc : ∀ wt : World, wt.heap.size = w.heap.size → Calls Try.prog f args wt fun e w' => e = .returned v ∧ A' w' ∧ Kp [] wt w')
    (H : ∀ w', A' w' → Ks (fun _ => False) w w' → Desk SB pA rA pl F col w' → Win Try.prog Post pl n 0 (gor (b.finish v) cs) w') :
    Win Try.prog Post pl n 0 (gor (Frame.enter Try.prog f args .normal) (b :: cs)) w := by
  refine Win.calls mild D.lies hok (R := fun e u => e = .returned v ∧ A' u ∧ Ks (fun _ => False) (D.lies.veil.world (fun _ _ => 0) 0 w) u) (fun τ => (hc _ veil_size).mono (by rintro e w' ⟨h1, h2, h3⟩; exact ⟨h1, h2, ks_twin0 ((ks_of_kp h3).mono fun _ _ z => by simp at z)⟩)) (fun e w' h => ⟨_, h.1⟩) ?_
  intro v' w2 τ Dd hok' hVOK hVK hR
  obtain ⟨hv, hA, hku⟩ := hR
  obtain rfl : v' = v := by simpa using hv
  have ks2 := ks_of_twin D.lies hVOK hVK hku
  refine H w2 (hP'.st _ _ hA fun y hy => ?_) ks2 (D.turned (D.lies.keeps hVK hVOK) ks2.size)
  have z := hnew y hy
  refine (D.lies.same w2 (D.lay.free y (by rw [D.lay.above y z]; rfl)) ?_).symm
  rw [Array.getElem?_eq_none z]; rfl
end
theorem size_word : Try.t40.size = 1 := rfl
theorem size_progs : Try.t38.size = 1 := rfl
section
variable {W : World} {ρ : Operand → Value} {o : Oper}
theorem op_index_word (ba i n cp : Nat) {x y : Nat} (hi : i < n) (ho : o.op = .indexAddr 32 (.tmp x) (.tmp y)) (hρ : ρ (.tmp x) = .slice (some ⟨ba, 0, none⟩) n cp) (hρ' : ρ (.tmp y) = .int .i64 i) :
    (execOp ρ o).runT Try.prog W #[] = (.ok (.value (.pointer (some ⟨ba, i, none⟩))) W, #[]) := by
  have s48 := size_word
  rw [Sem.runT_eq]
  simp [go_sem, execOp, ho, hρ, hρ', hi]
  try (first | done | (simp [Addr.add, s48]; done) | (simp [Addr.add, s48]; omega) | rfl)
theorem op_index_progs (ba oo i n cp : Nat) {x y : Nat} (hi : i < n) (ho : o.op = .indexAddr 22 (.tmp x) (.tmp y)) (hρ : ρ (.tmp x) = .slice (some ⟨ba, oo, none⟩) n cp) (hρ' : ρ (.tmp y) = .int .i64 i) :
    (execOp ρ o).runT Try.prog W #[] = (.ok (.value (.pointer (some ⟨ba, oo + i, none⟩))) W, #[]) := by
  have s48 := size_progs
  rw [Sem.runT_eq]
  simp [go_sem, execOp, ho, hρ, hρ', hi]
  try (first | done | (simp [Addr.add, s48]; done) | (simp [Addr.add, s48]; omega) | rfl)
end

/-- How all stands within the region. -/
structure PnC where
  n : Nat
  pl : Nat → Option Place
  F : Nat → Option (Nat × Nat)
  col : Nat → Col
  w : World
  a : Ag
  q : Nat

section
variable {Post : Value → World → Prop} {W : World} {pA rA bl bm M wd k b o cl K co : Nat} {bo : Option Addr} {ag : Nat → Ag} {T : Nat → Tree (Nat → Int)} {va vw : Value} {pl : Nat → Option Place} {F : Nat → Option (Nat × Nat)} {col : Nat → Col} {w : World} {g : Nat → Int} {p : Pr}

set_option maxHeartbeats 8000000 in
theorem ap_q14 {args : Array Value} {x : Nat → Value} {KK : List Item} (C : Crew Post (lastSh W bl M) (apSB W bl) pA rA (memV pA) 1 k ag T pl F col w g) (hx : HasY x [(0, .int .u8 wd), (1, .slice (some ⟨b, o, none⟩) M cl), (2, .slice bo K co), (7, .pointer (some ⟨pA, 0, none⟩)), (9, va), (10, vw), (11, .slice (some ⟨bl, 0, none⟩) M M), (12, .slice (some ⟨bm, 0, none⟩) wd wd), (13, .bool true), (14, .int .i64 k)]) (hk : k < M) (hM5 : M ≤ 5) (hp : W.cell? ⟨b, o + k, none⟩ = some p.v) (hT : Touches W p.ao p.l) (hl : p.l.length ≤ 20) (hbl : W.heap.size ≤ bl) (hKK : KK.all (itemOK Try.prog) = true)
    (H : ∀ a pl' F' col' w' (x' : Nat → Value), Crew Post (lastSh W bl M) (apSB W bl) pA rA (memV pA) 1 (k + 1) (fun j => if j = k then a else ag j) (fun j => if j = k then ptree (fun g => g k) (setF k) p.l (g k) else T j) pl' F' col' w' g → Ks (fun b => col b = .shared) w w' → (∀ b, b < w.heap.size → Plain (col b) → col' b = col b) → HasY x' [(0, .int .u8 wd), (1, .slice (some ⟨b, o, none⟩) M cl), (2, .slice bo K co), (7, .pointer (some ⟨pA, 0, none⟩)), (9, va), (10, vw), (11, .slice (some ⟨bl, 0, none⟩) M M), (12, .slice (some ⟨bm, 0, none⟩) wd wd), (13, .bool true), (14, .int .i64 k), (15, .pointer (some ⟨a.p, 0, none⟩)), (16, .int .i64 0)] →
      Win Try.prog Post pl' (1 + k + 1) 0 (gor ((Frame.enter Try.prog 3 args .normal).at ⟨T287 x', []⟩ KK) []) w') :
    Win Try.prog Post pl (1 + k) 0 (gor ((Frame.enter Try.prog 3 args .normal).at ⟨T287 x, []⟩ (.code (apQ14 Try.f3) :: KK)) []) w := by
  have hb : (Frame.enter Try.prog 3 args .normal).kind = .normal := rfl
  have hSh := priv_last W bl M
  obtain ⟨hx0, hx1, hx2, hx7, hx9, hx10, hx11, hx12, hx13, hx14, -⟩ := hx
  simp only [apQ14, apB1, apX1, apR9, bodyOf, Try.f3, codeL, codeR, blockOf, loopOf, Option.getD_some]
  refine Win.anyFill (C := PnC) (Goal := fun c fr => Win Try.prog Post c.pl c.n 0 (gor fr []) c.w) mixed (by kernel_rfl) (fun c i => match i with | 0 => .pointer (some ⟨pA, 0, none⟩) | 1 => .iface 26 (.pointer (some ⟨pA, 0, none⟩)) | 2 => .slice (some ⟨b, o, none⟩) M cl | 3 => .int .i64 k | 4 => .pointer (some ⟨b, o + k, none⟩) | 5 => p.v | 6 => .slice (some ⟨bl, 0, none⟩) M M | 7 => .int .i64 k | 8 => .pointer (some ⟨bl, k, none⟩) | 9 => .func (.func 47) #[] #[.pointer (some ⟨c.q, 0, none⟩), .pointer (some ⟨c.q + 1, 0, none⟩)] | 10 => .tuple #[.pointer (some ⟨c.a.p, 0, none⟩), .int .i64 0] | 11 => .tuple #[.pointer (some ⟨c.a.p, 0, none⟩), .int .i64 0] | 12 => .pointer (some ⟨c.a.p, 0, none⟩) | 13 => .int .i64 0 | 14 => .pointer (some ⟨c.a.p, 0, none⟩) | 15 => .int .i64 0 | _ => undef) (fun c => (⟨#[x 0, x 1, x 2, x 3, x 4, x 5, x 6, x 7, x 8, x 9, x 10, x 11, x 12, x 13, x 14, .pointer (some ⟨c.a.p, 0, none⟩), .int .i64 0, x 17, x 18, x 19, x 20, x 21, x 22, x 23, x 24, x 25, x 26, x 27, x 28, x 29, x 30, x 31, x 32, x 33, x 34, x 35, x 36, x 37, x 38, x 39, x 40, x 41, x 42, x 43, x 44, x 45, x 46, x 47, x 48, x 49, x 50, x 51, x 52, x 53, x 54, x 55, x 56, x 57, x 58, x 59, x 60, x 61, x 62, x 63, x 64, .tuple #[.pointer (some ⟨c.a.p, 0, none⟩), .int .i64 0], .pointer (some ⟨pA, 0, none⟩), .iface 26 (.pointer (some ⟨pA, 0, none⟩)), .slice (some ⟨b, o, none⟩) M cl, .int .i64 k, .pointer (some ⟨b, o + k, none⟩), p.v, .slice (some ⟨bl, 0, none⟩) M M, .int .i64 k, .pointer (some ⟨bl, k, none⟩), .func (.func 47) #[] #[.pointer (some ⟨c.q, 0, none⟩), .pointer (some ⟨c.q + 1, 0, none⟩)], .tuple #[.pointer (some ⟨c.a.p, 0, none⟩), .int .i64 0], .pointer (some ⟨c.a.p, 0, none⟩), .int .i64 0, x 79, x 80, x 81, x 82, x 83, x 84, x 85, x 86, x 87, x 88, x 89, x 90, x 91, x 92, x 93, x 94, x 95, x 96, x 97, x 98, x 99, x 100, x 101, x 102, x 103, x 104, x 105, x 106, x 107, x 108, x 109, x 110, x 111, x 112, x 113, x 114, x 115, x 116, x 117, x 118, x 119, x 120, x 121, x 122, x 123, x 124, x 125, x 126, x 127, x 128, x 129, x 130, x 131, x 132, x 133, x 134, x 135, x 136, x 137, x 138, x 139, x 140, x 141, x 142, x 143, x 144, x 145, x 146, x 147, x 148, x 149, x 150, x 151, x 152, x 153, x 154, x 155, x 156, x 157, x 158, x 159, x 160, x 161, x 162, x 163, x 164, x 165, x 166, x 167, x 168, x 169, x 170, x 171, x 172, x 173, x 174, x 175, x 176, x 177, x 178, x 179, x 180, x 181, x 182, x 183, x 184, x 185, x 186, x 187, x 188, x 189, x 190, x 191, x 192, x 193, x 194, x 195, x 196, x 197, x 198, x 199, x 200, x 201, x 202, x 203, x 204, x 205, x 206, x 207, x 208, x 209, x 210, x 211, x 212, x 213, x 214, x 215, x 216, x 217, x 218, x 219, x 220, x 221, x 222, x 223, x 224, x 225, x 226, x 227, x 228, x 229, x 230, x 231, x 232, x 233, x 234, x 235, x 236, x 237, x 238, x 239, x 240, x 241, x 242, x 243, x 244, x 245, x 246, x 247, x 248, x 249, x 250, x 251, x 252, x 253, x 254, x 255, x 256, x 257, x 258, x 259, x 260, x 261, x 262, x 263, x 264, x 265, x 266, x 267, x 268, x 269, x 270, x 271, x 272, x 273, x 274, x 275, x 276, x 277, x 278, x 279, x 280, x 281, x 282, x 283, x 284, x 285, x 286], []⟩ : Act)) (fun c => by simp only [T287, fillAll, List.size_toArray, List.length_cons, List.length_nil, Nat.reduceAdd, List.range, List.range.loop, List.foldl_cons, List.foldl_nil, gqA, gqZ, gqS, Option.bind_some, Option.bind_none, Act.put, siA, scS, scZ])
    (fun X c => (X.getD 9 false = false → c.n = 1 + k ∧ c.pl = pl ∧ c.F = F ∧ c.col = col ∧ c.w = w) ∧ (X.getD 9 false = true → X.getD 10 false = false → c.n = 1 + k ∧ c.pl = pl ∧ c.F = F ∧ c.col = col ∧ Desk (apSB W bl) pA rA pl F col c.w ∧ Ks (fun _ => False) w c.w ∧ c.w.heap[c.q]? = some (.cells #[p.v] 38 (0, 0)) ∧ c.w.heap[c.q + 1]? = some (.cells #[.pointer (some ⟨bl, k, none⟩)] 39 (0, 0)) ∧ w.heap.size ≤ c.q)
      ∧ (X.getD 10 false = true → c.n = 1 + k + 1 ∧ Crew Post (lastSh W bl M) (apSB W bl) pA rA (memV pA) 1 (k + 1) (fun j => if j = k then c.a else ag j) (fun j => if j = k then ptree (fun g => g k) (setF k) p.l (g k) else T j) c.pl c.F c.col c.w g ∧ Ks (fun b => col b = .shared) w c.w ∧ (∀ b, b < w.heap.size → Plain (col b) → c.col b = col b)))
    ⟨1 + k, pl, F, col, w, ⟨0, 0, 0, 0, 0, 0⟩, 0⟩ (fun fr hh => hh) ?_ ?_ ⟨fun _ => ⟨rfl, rfl, rfl, rfl, rfl⟩, fun z => by simp at z, fun z => by simp at z⟩
  · intro X i oo hX ho hx hr c a' L' hJ hcl hL'' hfl e1 e2 hd hn
    have hcell : c.w.cell? ⟨b, o + k, none⟩ = some p.v := by
      cases h9 : X.getD 9 false with
      | false => rw [(hJ.1 h9).2.2.2.2]; exact in_cell C.sh.2 hp
      | true =>
        cases h10 : X.getD 10 false with
        | false =>
          obtain ⟨_, _, _, _, _, ks, _⟩ := hJ.2.1 h9 h10
          exact (World.cell?_of_block (ks.block _ (World.block_lt_of_cell? _ _ (in_cell C.sh.2 hp)) fun z => z)).trans (in_cell C.sh.2 hp)
        | true => exact in_cell (hJ.2.2 h10).2.1.sh.2 hp
    rcases i with _ | _ | _ | _ | _ | _ | _ | _ | _ | _ | _ | _ | _ | _ | _ | _ | i
    · obtain rfl := Option.some.inj ho
      exact Win.pureOp (v := .pointer (some ⟨pA, 0, none⟩)) (.inl hb) rfl rfl (fun w => by rw [e1, Sem.runT_eq]; simp [go_sem, execOp, Act.eval, hx0, hx1, hx2, hx7, hx9, hx10, hx11, hx12, hx13, hx14]; try (first | rfl | exact ⟨rfl, rfl⟩ | kernel_rfl)) (hn c (fun _ _ => rfl) ⟨fun z => hJ.1 (by rw [getD_set_ne false (by decide)] at z; exact z), fun z z2 => hJ.2.1 (by rw [getD_set_ne false (by decide)] at z; exact z) (by rw [getD_set_ne false (by decide)] at z2; exact z2), fun z => hJ.2.2 (by rw [getD_set_ne false (by decide)] at z; exact z)⟩)
    · obtain rfl := Option.some.inj ho
      exact Win.pureOp (v := .iface 26 (.pointer (some ⟨pA, 0, none⟩))) (.inl hb) rfl rfl (fun w => by rw [e1, Sem.runT_eq]; simp [go_sem, execOp, Act.eval, hx0, hx1, hx2, hx7, hx9, hx10, hx11, hx12, hx13, hx14]; try (first | rfl | exact ⟨rfl, rfl⟩ | kernel_rfl)) (hn c (fun _ _ => rfl) ⟨fun z => hJ.1 (by rw [getD_set_ne false (by decide)] at z; exact z), fun z z2 => hJ.2.1 (by rw [getD_set_ne false (by decide)] at z; exact z) (by rw [getD_set_ne false (by decide)] at z2; exact z2), fun z => hJ.2.2 (by rw [getD_set_ne false (by decide)] at z; exact z)⟩)
    · obtain rfl := Option.some.inj ho
      exact Win.pureOp (v := .slice (some ⟨b, o, none⟩) M cl) (.inl hb) rfl rfl (fun w => by rw [e1, Sem.runT_eq]; simp [go_sem, execOp, Act.eval, hx0, hx1, hx2, hx7, hx9, hx10, hx11, hx12, hx13, hx14]; try (first | rfl | exact ⟨rfl, rfl⟩ | kernel_rfl)) (hn c (fun _ _ => rfl) ⟨fun z => hJ.1 (by rw [getD_set_ne false (by decide)] at z; exact z), fun z z2 => hJ.2.1 (by rw [getD_set_ne false (by decide)] at z; exact z) (by rw [getD_set_ne false (by decide)] at z2; exact z2), fun z => hJ.2.2 (by rw [getD_set_ne false (by decide)] at z; exact z)⟩)
    · obtain rfl := Option.some.inj ho
      exact Win.pureOp (v := .int .i64 k) (.inl hb) rfl rfl (fun w => by rw [e1, Sem.runT_eq]; simp [go_sem, execOp, Act.eval, hx0, hx1, hx2, hx7, hx9, hx10, hx11, hx12, hx13, hx14]; try (first | rfl | exact ⟨rfl, rfl⟩ | kernel_rfl)) (hn c (fun _ _ => rfl) ⟨fun z => hJ.1 (by rw [getD_set_ne false (by decide)] at z; exact z), fun z z2 => hJ.2.1 (by rw [getD_set_ne false (by decide)] at z; exact z) (by rw [getD_set_ne false (by decide)] at z2; exact z2), fun z => hJ.2.2 (by rw [getD_set_ne false (by decide)] at z; exact z)⟩)
    · obtain rfl := Option.some.inj ho
      exact Win.pureOp (v := .pointer (some ⟨b, o + k, none⟩)) (.inl hb) rfl rfl (fun w => by rw [e1]; exact op_index_progs b o k M cl hk rfl rfl rfl) (hn c (fun _ _ => rfl) ⟨fun z => hJ.1 (by rw [getD_set_ne false (by decide)] at z; exact z), fun z z2 => hJ.2.1 (by rw [getD_set_ne false (by decide)] at z; exact z) (by rw [getD_set_ne false (by decide)] at z2; exact z2), fun z => hJ.2.2 (by rw [getD_set_ne false (by decide)] at z; exact z)⟩)
    · obtain rfl := Option.some.inj ho
      exact Win.lookOp (v := p.v) (ad := ⟨b, o + k, none⟩) (x := p.v) (.inl hb) rfl rfl hcell (fun w hc => by rw [e1, Sem.runT_eq]; simp [go_sem, execOp, Act.eval, hc]) (hn c (fun _ _ => rfl) ⟨fun z => hJ.1 (by rw [getD_set_ne false (by decide)] at z; exact z), fun z z2 => hJ.2.1 (by rw [getD_set_ne false (by decide)] at z; exact z) (by rw [getD_set_ne false (by decide)] at z2; exact z2), fun z => hJ.2.2 (by rw [getD_set_ne false (by decide)] at z; exact z)⟩)
    · obtain rfl := Option.some.inj ho
      exact Win.pureOp (v := .slice (some ⟨bl, 0, none⟩) M M) (.inl hb) rfl rfl (fun w => by rw [e1, Sem.runT_eq]; simp [go_sem, execOp, Act.eval, hx0, hx1, hx2, hx7, hx9, hx10, hx11, hx12, hx13, hx14]; try (first | rfl | exact ⟨rfl, rfl⟩ | kernel_rfl)) (hn c (fun _ _ => rfl) ⟨fun z => hJ.1 (by rw [getD_set_ne false (by decide)] at z; exact z), fun z z2 => hJ.2.1 (by rw [getD_set_ne false (by decide)] at z; exact z) (by rw [getD_set_ne false (by decide)] at z2; exact z2), fun z => hJ.2.2 (by rw [getD_set_ne false (by decide)] at z; exact z)⟩)
    · obtain rfl := Option.some.inj ho
      exact Win.pureOp (v := .int .i64 k) (.inl hb) rfl rfl (fun w => by rw [e1, Sem.runT_eq]; simp [go_sem, execOp, Act.eval, hx0, hx1, hx2, hx7, hx9, hx10, hx11, hx12, hx13, hx14]; try (first | rfl | exact ⟨rfl, rfl⟩ | kernel_rfl)) (hn c (fun _ _ => rfl) ⟨fun z => hJ.1 (by rw [getD_set_ne false (by decide)] at z; exact z), fun z z2 => hJ.2.1 (by rw [getD_set_ne false (by decide)] at z; exact z) (by rw [getD_set_ne false (by decide)] at z2; exact z2), fun z => hJ.2.2 (by rw [getD_set_ne false (by decide)] at z; exact z)⟩)
    · obtain rfl := Option.some.inj ho
      exact Win.pureOp (v := .pointer (some ⟨bl, k, none⟩)) (.inl hb) rfl rfl (fun w => by rw [e1]; exact op_index_word bl k M M hk rfl rfl rfl) (hn c (fun _ _ => rfl) ⟨fun z => hJ.1 (by rw [getD_set_ne false (by decide)] at z; exact z), fun z z2 => hJ.2.1 (by rw [getD_set_ne false (by decide)] at z; exact z) (by rw [getD_set_ne false (by decide)] at z2; exact z2), fun z => hJ.2.2 (by rw [getD_set_ne false (by decide)] at z; exact z)⟩)
    · obtain rfl := Option.some.inj ho
      have h9 : X.getD 9 false = false := by
        have hlt : 9 < X.size := by rw [hX]; decide
        simpa [hlt] using hx
      have h10 : X.getD 10 false = false := by
        cases h : X.getD 10 false with
        | false => rfl
        | true => have := hcl 10 _ rfl h { on := 9, ground := Ground.data } (by simp) rfl; rw [h9] at this; cases this
      obtain ⟨n', pl', F', col', w', aa, q'⟩ := c
      obtain ⟨hj1, hj2, hj3, hj4, hj5⟩ := hJ.1 h9
      simp only at hj1 hj2 hj3 hj4 hj5
      subst hj1 hj2 hj3 hj4 hj5
      refine Win.enter (f := 12) (args := #[p.v, .pointer (some ⟨bl, k, none⟩)]) (.inl hb) rfl rfl (fun d => ⟨#[], by rw [e1]; exact call_enter mild.toMild Try.func12 rfl rfl rfl rfl _ _ (by simp [Act.eval]), fun e he => by simp at he⟩) ?_
      refine C.desk.callsY (own' := fun y => y = w'.heap.size ∨ y = w'.heap.size + 1) (A' := fun u => u.heap[w'.heap.size]? = some (.cells #[p.v] 38 (0, 0)) ∧ u.heap[w'.heap.size + 1]? = some (.cells #[.pointer (some ⟨bl, k, none⟩)] 39 (0, 0))) ((Priv.row _ _ _ _).and (Priv.row _ _ _ _)) (fun y hy => by rcases hy with h | h <;> omega) (v := .func (.func 47) #[] #[.pointer (some ⟨w'.heap.size, 0, none⟩), .pointer (some ⟨w'.heap.size + 1, 0, none⟩)]) (stok_at rfl rfl (by rw [hd]; simp) (by rw [List.all_cons, hKK, Bool.and_true]; kernel_rfl)) (fun wt hz => (program_makesY wt p.ao ⟨bl, k, none⟩ p.l.length p.cap).mono ?_) fun w2 h2 ks2 D2 => ?_
      · rintro e w'' ⟨rfl, rfl⟩
        rw [hz]
        refine ⟨rfl, ⟨?_, ?_⟩, ((Kp.refl _ _).alloc _).alloc _⟩
        · rw [← hz]; exact heap_alloc2_old wt _ _
        · have hz2 := heap_alloc_new (wt.alloc (.cells #[p.v] 38)) (.cells #[.pointer (some ⟨bl, k, none⟩)] 39)
          rw [World.size_alloc, hz] at hz2
          exact hz2
      rw [Frame.finish_at]
      refine hn ⟨1 + k, pl', F', col', w2, aa, w'.heap.size⟩ (fun j hj => ?_) ⟨fun z => (by rw [getD_set_self (by rw [hX]; decide)] at z; cases z), fun _ _ => ⟨rfl, rfl, rfl, rfl, D2, ks2, h2.1, h2.2, Nat.le_refl _⟩, fun z => by rw [getD_set_ne false (by decide), h10] at z; cases z⟩
      rcases j with _ | _ | _ | _ | _ | _ | _ | _ | _ | _ | _ | _ | _ | _ | _ | _ | j <;> first | rfl | (rw [h9] at hj; cases hj)
    · obtain rfl := Option.some.inj ho
      have h10 : X.getD 10 false = false := by
        have hlt : 10 < X.size := by rw [hX]; decide
        simpa [hlt] using hx
      have h9 := hr { on := 9, ground := Ground.data } (by simp) rfl
      have h11 : X.getD 11 false = false := by
        cases h : X.getD 11 false with
        | false => rfl
        | true => have := hcl 11 _ rfl h { on := 10, ground := Ground.data } (by simp) rfl; rw [h10] at this; cases this
      have h12 : X.getD 12 false = false := by
        cases h : X.getD 12 false with
        | false => rfl
        | true => have := hcl 12 _ rfl h { on := 11, ground := Ground.data } (by simp) rfl; rw [h11] at this; cases this
      have h14 : X.getD 14 false = false := by
        cases h : X.getD 14 false with
        | false => rfl
        | true => have := hcl 14 _ rfl h { on := 12, ground := Ground.data } (by simp) rfl; rw [h12] at this; cases this
      obtain ⟨n', pl', F', col', w', aa, q'⟩ := c
      obtain ⟨hj1, hj2, hj3, hj4, D2, ks2, r1, r2, hq⟩ := hJ.2.1 h9 h10
      simp only at hj1 hj2 hj3 hj4 D2 ks2 r1 r2 hq
      subst hj1 hj2 hj3 hj4
      have C2 := C.keep D2 ks2 (fun _ _ z => z.elim) ((hSh g).st _ _ C.sh fun y hy => ks2.block y ((hSh g).lt _ _ C.sh hy) fun z => z)
      refine Win.enter (f := 11) (args := #[.iface 26 (.pointer (some ⟨pA, 0, none⟩)), .func (.func 47) #[] #[.pointer (some ⟨q', 0, none⟩), .pointer (some ⟨q' + 1, 0, none⟩)]]) (.inl hb) rfl rfl (fun d => ⟨#[], by rw [e1]; exact call_enter mild.toMild Try.func11 rfl rfl rfl rfl _ _ (by simp [Act.eval]), fun e he => by simp at he⟩) ?_
      refine C2.news (own0 := fun y => y = q' ∨ y = q' + 1) (A0 := fun u => u.heap[q']? = some (.cells #[p.v] 38 (0, 0)) ∧ u.heap[q' + 1]? = some (.cells #[.pointer (some ⟨bl, k, none⟩)] 39 (0, 0))) hSh ((Priv.row _ _ _ _).and (Priv.row _ _ _ _)) (fun y hy => C.desk.lay.above y (by rcases hy with h | h <;> omega)) ⟨r1, r2⟩ (mt := 26) (mval := .pointer (some ⟨pA, 0, none⟩)) rfl Try.func47 rfl (T0 := ptree (fun g => g k) (setF k) p.l (g k)) (g1 := g) (fun a home pl5 F5 col5 w5 b1 b2 hj hAc hBx hc1 hc2 ho5 hA0 hs K' => ?_) (fun a pl5 F5 col5 w5 C5 ks5 sm5 hap => ?_)
      · refine ap_runs (b1 := b1) (b2 := b2) (q := q') (q1 := q' + 1) hbl hk hT hl rfl hAc (fun y hy => ?_) ⟨hA0, hBx⟩ hs K'
        rw [hj]
        rcases hy with hy | (rfl | rfl)
        · exact ho5 y hy
        · exact hc1
        · exact hc2
      rw [Frame.finish_at]
      have hs2 := ks2.size
      refine hn ⟨1 + k + 1, pl5, F5, col5, w5, a, q'⟩ (fun j hj => ?_) ⟨fun z => (by rw [getD_set_ne false (by decide), h9] at z; cases z), fun _ z => (by rw [getD_set_self (by rw [hX]; decide)] at z; cases z), fun _ => ⟨rfl, C5, (ks2.mono fun _ _ z => z.elim).then ks5 fun y hy z => ?_, fun y hy hpl => sm5 y (by omega) (fun z => by rcases z with z | z <;> omega) hpl⟩⟩
      · rcases j with _ | _ | _ | _ | _ | _ | _ | _ | _ | _ | _ | _ | _ | _ | _ | _ | j <;> first | rfl | (rw [h10] at hj; cases hj) | (rw [h11] at hj; cases hj) | (rw [h12] at hj; cases hj) | (rw [h14] at hj; cases hj)
      · rcases z with (z | z) | z
        · omega
        · omega
        · exact z
    · obtain rfl := Option.some.inj ho
      exact Win.pureOp (v := .tuple #[.pointer (some ⟨c.a.p, 0, none⟩), .int .i64 0]) (.inl hb) rfl rfl (fun w => by rw [e1, Sem.runT_eq]; simp [go_sem, execOp, Act.eval, hx0, hx1, hx2, hx7, hx9, hx10, hx11, hx12, hx13, hx14]; try (first | rfl | exact ⟨rfl, rfl⟩ | kernel_rfl)) (hn c (fun _ _ => rfl) ⟨fun z => hJ.1 (by rw [getD_set_ne false (by decide)] at z; exact z), fun z z2 => hJ.2.1 (by rw [getD_set_ne false (by decide)] at z; exact z) (by rw [getD_set_ne false (by decide)] at z2; exact z2), fun z => hJ.2.2 (by rw [getD_set_ne false (by decide)] at z; exact z)⟩)
    · obtain rfl := Option.some.inj ho
      exact Win.pureOp (v := .pointer (some ⟨c.a.p, 0, none⟩)) (.inl hb) rfl rfl (fun w => by rw [e1, Sem.runT_eq]; simp [go_sem, execOp, Act.eval, hx0, hx1, hx2, hx7, hx9, hx10, hx11, hx12, hx13, hx14]; try (first | rfl | exact ⟨rfl, rfl⟩ | kernel_rfl)) (hn c (fun _ _ => rfl) ⟨fun z => hJ.1 (by rw [getD_set_ne false (by decide)] at z; exact z), fun z z2 => hJ.2.1 (by rw [getD_set_ne false (by decide)] at z; exact z) (by rw [getD_set_ne false (by decide)] at z2; exact z2), fun z => hJ.2.2 (by rw [getD_set_ne false (by decide)] at z; exact z)⟩)
    · obtain rfl := Option.some.inj ho
      exact Win.pureOp (v := .int .i64 0) (.inl hb) rfl rfl (fun w => by rw [e1, Sem.runT_eq]; simp [go_sem, execOp, Act.eval, hx0, hx1, hx2, hx7, hx9, hx10, hx11, hx12, hx13, hx14]; try (first | rfl | exact ⟨rfl, rfl⟩ | kernel_rfl)) (hn c (fun _ _ => rfl) ⟨fun z => hJ.1 (by rw [getD_set_ne false (by decide)] at z; exact z), fun z z2 => hJ.2.1 (by rw [getD_set_ne false (by decide)] at z; exact z) (by rw [getD_set_ne false (by decide)] at z2; exact z2), fun z => hJ.2.2 (by rw [getD_set_ne false (by decide)] at z; exact z)⟩)
    · obtain rfl := Option.some.inj ho
      exact Win.pureOp (v := .pointer (some ⟨c.a.p, 0, none⟩)) (.inl hb) rfl rfl (fun w => by rw [e1, Sem.runT_eq]; simp [go_sem, execOp, Act.eval, hx0, hx1, hx2, hx7, hx9, hx10, hx11, hx12, hx13, hx14]; try (first | rfl | exact ⟨rfl, rfl⟩ | kernel_rfl)) (hn c (fun _ _ => rfl) ⟨fun z => hJ.1 (by rw [getD_set_ne false (by decide)] at z; exact z), fun z z2 => hJ.2.1 (by rw [getD_set_ne false (by decide)] at z; exact z) (by rw [getD_set_ne false (by decide)] at z2; exact z2), fun z => hJ.2.2 (by rw [getD_set_ne false (by decide)] at z; exact z)⟩)
    · obtain rfl := Option.some.inj ho
      exact Win.pureOp (v := .int .i64 0) (.inl hb) rfl rfl (fun w => by rw [e1, Sem.runT_eq]; simp [go_sem, execOp, Act.eval, hx0, hx1, hx2, hx7, hx9, hx10, hx11, hx12, hx13, hx14]; try (first | rfl | exact ⟨rfl, rfl⟩ | kernel_rfl)) (hn c (fun _ _ => rfl) ⟨fun z => hJ.1 (by rw [getD_set_ne false (by decide)] at z; exact z), fun z z2 => hJ.2.1 (by rw [getD_set_ne false (by decide)] at z; exact z) (by rw [getD_set_ne false (by decide)] at z2; exact z2), fun z => hJ.2.2 (by rw [getD_set_ne false (by decide)] at z; exact z)⟩)
    · simp at ho
  · intro X c hall hJ
    obtain ⟨n', pl', F', col', w', a', q'⟩ := c
    obtain ⟨hn', C', ks', sm'⟩ := hJ.2.2 (hall 10 (by simp))
    simp only at hn' C' ks' sm'
    subst hn'
    refine Win.opsEnd ?_
    exact win_slotsY (K := [(0, .int .u8 wd), (1, .slice (some ⟨b, o, none⟩) M cl), (2, .slice bo K co), (7, .pointer (some ⟨pA, 0, none⟩)), (9, va), (10, vw), (11, .slice (some ⟨bl, 0, none⟩) M M), (12, .slice (some ⟨bm, 0, none⟩) wd wd), (13, .bool true), (14, .int .i64 k), (15, .pointer (some ⟨a'.p, 0, none⟩)), (16, .int .i64 0)]) rfl ⟨hx0, hx1, hx2, hx7, hx9, hx10, hx11, hx12, hx13, hx14, rfl, rfl, trivial⟩ fun x' hx' => H a' pl' F' col' w' x' C' ks' sm' hx'
end
end Go.Proofs.Ytnbibpmhmffmpaa

namespace Go.Proofs.Ytnbibpmhmffmpaa
set_option linter.unusedVariables false
set_option linter.unusedSimpArgs false
set_option maxRecDepth 100000
open Go.RowKit
open Go.Conc
open Go.ConcN (upd_ne upd_same)

def dftP : Pr := ⟨none, 0, []⟩
def lsP (L : List Pr) (j : Nat) : List Tch := (L.getD j dftP).l
/-- The rows of what is to be done: programs, how much is done, what was read last. -/
def pcells (L : List Pr) (dn : Nat → Nat) (la : Nat → Int) (k : Nat) : List Value := (List.range k).flatMap fun j => [(L.getD j dftP).v, .int .i64 (dn j), .int .u64 (la j)]
theorem pcells_succ (L : List Pr) (dn : Nat → Nat) (la : Nat → Int) (k : Nat) : pcells L dn la (k + 1) = pcells L dn la k ++ [(L.getD k dftP).v, .int .i64 (dn k), .int .u64 (la k)] := by
  simp [pcells, List.range_succ]
def ptrsY (ag : Nat → Ag) (k : Nat) : List Value := (List.range k).map fun j => .pointer (some ⟨(ag j).p, 0, none⟩)
theorem ptrsY_succ (ag : Nat → Ag) (k : Nat) (a : Ag) : ptrsY (fun j => if j = k then a else ag j) (k + 1) = ptrsY ag k ++ [.pointer (some ⟨a.p, 0, none⟩)] := by
  simp only [ptrsY, List.range_succ, List.map_append, List.map_cons, List.map_nil, if_true]
  congr 1
  apply List.map_congr_left
  intro j hj
  rw [if_neg (by have := List.mem_range.1 hj; omega)]
theorem priv_rm (g cap : Nat) (ws : List Int) : Priv (· = g) (fun w => Rm w g cap ws) := by
  refine ⟨fun w w' h hb => ?_, fun w b h e => ?_, fun w b h e => ?_⟩
  · obtain ⟨⟨cur, h1, h2⟩, h3⟩ := h
    exact ⟨⟨cur, (hb g rfl).trans h1, h2⟩, h3⟩
  · have e' : b = g := e
    obtain ⟨⟨cur, h1, h2⟩, h3⟩ := h
    rw [e', h1]; rfl
  · have e' : b = g := e
    rw [e']; exact h.lt

/-- What stands while the agents are made. -/
structure ApW (Post : Value → World → Prop) (W : World) (pA rA bl bm M wd : Nat) (L : List Pr) (k : Nat) (ag : Nat → Ag) (va vw : Value) (pl : Nat → Option Place) (F : Nat → Option (Nat × Nat)) (col : Nat → Col) (w : World) (s : St) : Prop where
  crew : Crew Post (lastSh W bl M) (apSB W bl) pA rA (memV pA) 1 k ag (fun j => ptree (fun g => g j) (setF j) (lsP L j) 0) pl F col w (fun _ => 0)
  ar : Ar w pA rA s
  rm : Rm w bm wd (List.replicate wd 0)
  rmc : col bm = .main
  all : Rw 33 1 W.heap.size w va k (ptrsY ag k)
  allc : ∀ b ∈ blk va, col b = .main
  ws : Rw 42 3 W.heap.size w vw k (pcells L (fun _ => 0) (fun _ => 0) k)
  wsc : ∀ b ∈ blk vw, col b = .main
  dis : ∀ b ∈ blk va, b ∉ blk vw
  ma : bm ∉ blk va
  mw : bm ∉ blk vw
  old : ∀ b, b < W.heap.size → col b = .main ∨ (col b = .shared ∧ poorless W b)
  ks : Ks (poorless W) W w

section
variable {Post : Value → World → Prop} {W : World} {pA rA bl bm M wd k b o cl K co : Nat} {bo : Option Addr} {L : List Pr} {ag : Nat → Ag} {va vw : Value} {pl : Nat → Option Place} {F : Nat → Option (Nat × Nat)} {col : Nat → Col} {w w' : World} {s : St}
theorem ApW.made (A : ApW Post W pA rA bl bm M wd L k ag va vw pl F col w s) (D : Desk (apSB W bl) pA rA pl F col w') (ks : Ks (fun _ => False) w w') : ApW Post W pA rA bl bm M wd L k ag va vw pl F col w' s :=
  { A with
    crew := A.crew.keep D ks (fun _ _ z => z.elim) ((priv_last W bl M _).st _ _ A.crew.sh fun b hb => ks.block b ((priv_last W bl M _).lt _ _ A.crew.sh hb) fun z => z)
    ar := ⟨ks.row (fun z => z) A.ar.hp, ks.row (fun z => z) A.ar.hr⟩
    rm := (priv_rm _ _ _).st _ _ A.rm fun b hb => ks.block b ((priv_rm _ _ _).lt _ _ A.rm hb) fun z => z
    all := (priv_rwY _ _ _ _ _ _).st _ _ A.all fun b hb => ks.block b ((priv_rwY _ _ _ _ _ _).lt _ _ A.all hb) fun z => z
    ws := (priv_rwY _ _ _ _ _ _).st _ _ A.ws fun b hb => ks.block b ((priv_rwY _ _ _ _ _ _).lt _ _ A.ws hb) fun z => z
    ks := A.ks.then ks fun _ _ z => z.elim }

set_option maxHeartbeats 4000000 in
/-- A round: an agent more. -/
theorem ap_body1 {args : Array Value} {x : Nat → Value} (A : ApW Post W pA rA bl bm M wd L k ag va vw pl F col w s) (hx : HasY x [(0, .int .u8 wd), (1, .slice (some ⟨b, o, none⟩) M cl), (2, .slice bo K co), (7, .pointer (some ⟨pA, 0, none⟩)), (9, va), (10, vw), (11, .slice (some ⟨bl, 0, none⟩) M M), (12, .slice (some ⟨bm, 0, none⟩) wd wd), (13, .bool true), (14, .int .i64 k)]) (hL : Progs W (some ⟨b, o, none⟩) L) (hM : M = L.length) (hk : k < M) (hM5 : M ≤ 5) (h20 : ∀ p ∈ L, p.l.length ≤ 20) (hbl : W.heap.size ≤ bl)
    (H : ∀ a va' vw' pl' F' col' w' (x' : Nat → Value), ApW Post W pA rA bl bm M wd L (k + 1) (fun j => if j = k then a else ag j) va' vw' pl' F' col' w' s → HasY x' [(0, .int .u8 wd), (1, .slice (some ⟨b, o, none⟩) M cl), (2, .slice bo K co), (7, .pointer (some ⟨pA, 0, none⟩)), (9, va'), (10, vw'), (11, .slice (some ⟨bl, 0, none⟩) M M), (12, .slice (some ⟨bm, 0, none⟩) wd wd), (13, .bool true), (14, .int .i64 ((k + 1 : Nat) : Int))] →
      Win Try.prog Post pl' (1 + k + 1) 0 (gor ((Frame.enter Try.prog 3 args .normal).at ⟨T287 x', []⟩ (apK1 Try.f3)) []) w') :
    Win Try.prog Post pl (1 + k) 0 (gor ((Frame.enter Try.prog 3 args .normal).at ⟨T287 x, []⟩ (.code (apX1 Try.f3) :: apK1 Try.f3)) []) w := by
  have e12 : apX1 Try.f3 = .seq (apQ12 Try.f3) (.seq (.block 1 (apB1 Try.f3)) (apQ13 Try.f3)) := by kernel_rfl
  have e14 : apB1 Try.f3 = .seq (apQ14 Try.f3) (codeR (apB1 Try.f3)) := by kernel_rfl
  have e15 : codeR (apB1 Try.f3) = .seq (apQ15 Try.f3) (codeR (codeR (apB1 Try.f3))) := by kernel_rfl
  have e16 : codeR (codeR (apB1 Try.f3)) = .seq (apQ16 Try.f3) (apQ17 Try.f3) := by kernel_rfl
  obtain ⟨p, hp⟩ : ∃ p, L[k]? = some p := ⟨L[k]'(by omega), List.getElem?_eq_getElem (by omega)⟩
  have hgp : L.getD k dftP = p := by simp [List.getD, hp]
  obtain ⟨hT, b', o', hbo', hpc⟩ := hL k p hp
  cases hbo'
  have hl := h20 p (List.mem_of_getElem? hp)
  obtain ⟨hx0, hx1, hx2, hx7, hx9, hx10, hx11, hx12, hx13, hx14, -⟩ := hx
  rw [show (Item.code (apX1 Try.f3) :: apK1 Try.f3) = .code (.seq (apQ12 Try.f3) (.seq (.block 1 (apB1 Try.f3)) (apQ13 Try.f3))) :: apK1 Try.f3 by rw [← e12]]
  refine Win.seq ?_
  refine desk_stillY A.crew.desk (stok_at rfl rfl (by simp) (by kernel_rfl)) (fun wt Q hQ => ap_q12 hx0 hx1 hx2 hx7 hx9 hx10 hx11 hx12 hx13 hx14 hk hM5 hQ) fun x1 w1 hx k1 D1 => ?_
  have A1 := A.made D1 k1
  clear hx0 hx1 hx2 hx7 hx9 hx10 hx11 hx12 hx13 hx14
  refine Win.seq ?_
  refine Win.block ?_
  rw [e14]
  refine Win.seq ?_
  refine ap_q14 A1.crew hx hk hM5 hpc hT hl hbl (by kernel_rfl) fun a pl5 F5 col5 w5 x5 C5 ks5 sm5 hx => ?_
  obtain ⟨hx0, hx1, hx2, hx7, hx9, hx10, hx11, hx12, hx13, hx14, hx15, hx16, -⟩ := hx
  have hcr : (fun j => if j = k then ptree (fun g => g k) (setF k) p.l ((fun _ => 0 : Nat → Int) k) else ptree (fun g => g j) (setF j) (lsP L j) 0) = fun j => ptree (fun g => g j) (setF j) (lsP L j) 0 := by
    funext j
    by_cases e : j = k
    · subst e
      simp only [if_true]
      unfold lsP
      rw [hgp]
    · simp [e]
  rw [hcr] at C5
  have hmn : ∀ y, col y = .main → ¬ col y = .shared := fun y h z => by rw [h] at z; cases z
  have lva : ∀ y ∈ blk va, y < w1.heap.size := fun y hy => (priv_rwY _ _ _ _ _ _).lt _ _ A1.all hy
  have lvw : ∀ y ∈ blk vw, y < w1.heap.size := fun y hy => (priv_rwY _ _ _ _ _ _).lt _ _ A1.ws hy
  have hW1 := A1.ks.size
  have ar5 : Ar w5 pA rA s := ⟨ks5.row (by rw [A.crew.desk.lay.ar.1]; simp) A1.ar.hp, ks5.row (by rw [A.crew.desk.lay.ar.2]; simp) A1.ar.hr⟩
  have rm5 : Rm w5 bm wd (List.replicate wd 0) := (priv_rm _ _ _).st _ _ A1.rm fun y hy => by
    have hy' : y = bm := hy
    rw [hy']; exact ks5.block bm A1.rm.lt (hmn _ A.rmc)
  have all5 : Rw 33 1 W.heap.size w5 va k (ptrsY ag k) := (priv_rwY _ _ _ _ _ _).st _ _ A1.all fun y hy => ks5.block y (lva y hy) (hmn _ (A.allc y hy))
  have ws5 : Rw 42 3 W.heap.size w5 vw k (pcells L (fun _ => 0) (fun _ => 0) k) := (priv_rwY _ _ _ _ _ _).st _ _ A1.ws fun y hy => ks5.block y (lvw y hy) (hmn _ (A.wsc y hy))
  have rmc5 : col5 bm = .main := (sm5 bm A1.rm.lt (.inl A.rmc)).trans A.rmc
  have allc5 : ∀ y ∈ blk va, col5 y = .main := fun y hy => (sm5 y (lva y hy) (.inl (A.allc y hy))).trans (A.allc y hy)
  have wsc5 : ∀ y ∈ blk vw, col5 y = .main := fun y hy => (sm5 y (lvw y hy) (.inl (A.wsc y hy))).trans (A.wsc y hy)
  have old5 : ∀ y, y < W.heap.size → col5 y = .main ∨ (col5 y = .shared ∧ poorless W y) := fun y hy => by
    rcases A.old y hy with h | ⟨h, h2⟩
    · exact .inl ((sm5 y (by omega) (.inl h)).trans h)
    · exact .inr ⟨(sm5 y (by omega) (.inr (.inr h))).trans h, h2⟩
  have ksW5 : Ks (poorless W) W w5 := A1.ks.then ks5 fun y hy z => by
    rcases A.old y hy with h | ⟨h, h2⟩
    · rw [h] at z; cases z
    · exact h2
  rw [e15]
  refine Win.seq ?_
  refine desk_stillY C5.desk (stok_at rfl rfl (by simp) (by kernel_rfl)) (fun wt Q hQ => ap_q15 hx0 hx1 hx2 hx7 hx9 hx10 hx11 hx12 hx13 hx14 hx15 hx16 hQ) fun x6 w6 hx k6 D6 => ?_
  clear hx0 hx1 hx2 hx7 hx9 hx10 hx11 hx12 hx13 hx14 hx15 hx16
  obtain ⟨hx0, hx1, hx2, hx7, hx9, hx10, hx11, hx12, hx13, hx14, hx15, hx16, -⟩ := hx
  have C6 := C5.keep D6 k6 (fun _ _ z => z.elim) ((priv_last W bl M _).st _ _ C5.sh fun y hy => k6.block y ((priv_last W bl M _).lt _ _ C5.sh hy) fun z => z)
  have ar6 : Ar w6 pA rA s := ⟨k6.row (fun z => z) ar5.hp, k6.row (fun z => z) ar5.hr⟩
  have rm6 : Rm w6 bm wd (List.replicate wd 0) := (priv_rm _ _ _).st _ _ rm5 fun y hy => k6.block y ((priv_rm _ _ _).lt _ _ rm5 hy) fun z => z
  have all6 : Rw 33 1 W.heap.size w6 va k (ptrsY ag k) := (priv_rwY _ _ _ _ _ _).st _ _ all5 fun y hy => k6.block y ((priv_rwY _ _ _ _ _ _).lt _ _ all5 hy) fun z => z
  have ws6 : Rw 42 3 W.heap.size w6 vw k (pcells L (fun _ => 0) (fun _ => 0) k) := (priv_rwY _ _ _ _ _ _).st _ _ ws5 fun y hy => k6.block y ((priv_rwY _ _ _ _ _ _).lt _ _ ws5 hy) fun z => z
  have ksW6 : Ks (poorless W) W w6 := ksW5.then k6 fun _ _ z => z.elim
  have hW6 := ksW6.size
  rw [e16]
  refine Win.seq ?_
  refine C6.desk.pieceY (own := fun y => y ∈ blk va) (S := fun y => y ∈ blk va) (A := fun w => Rw 33 1 W.heap.size w va k (ptrsY ag k)) (priv_rwY _ _ _ _ _ _) all6 (fun y hy => by rw [allc5 y hy]; rfl) (ι := {v : Value // ∀ y ∈ blk v, y ∈ blk va ∨ w6.heap.size ≤ y}) (own' := fun v y => y ∈ blk v.1) (A' := fun v w => Rw 33 1 W.heap.size w v.1 (k + 1) (ptrsY ag k ++ [.pointer (some ⟨a.p, 0, none⟩)])) (fun v => priv_rwY _ _ _ _ _ _) (K' := fun v => [(0, .int .u8 wd), (1, .slice (some ⟨b, o, none⟩) M cl), (2, .slice bo K co), (7, .pointer (some ⟨pA, 0, none⟩)), (9, v.1), (10, vw), (11, .slice (some ⟨bl, 0, none⟩) M M), (12, .slice (some ⟨bm, 0, none⟩) wd wd), (13, .bool true), (14, .int .i64 k), (15, .pointer (some ⟨a.p, 0, none⟩)), (16, .int .i64 0)]) (stok_at rfl rfl (by simp) (by kernel_rfl)) (fun wt Q h1 h2 _ hQ => ap_q16 hx0 hx1 hx2 hx7 hx9 hx10 hx11 hx12 hx13 hx14 hx15 hx16 h1 (by omega) (by omega) fun a' w' va' hf hr hv hk' => hQ a' ⟨va', by rw [← h2]; exact hv⟩ w' (fun y hy => (hv y hy).imp id fun z => ⟨z, (priv_rwY _ _ _ _ _ _).lt _ _ hr hy⟩) hf hr hk') ?_
  rintro x7 ⟨vn, hvn⟩ w7 _ hx hrw ks7 D7
  simp only at hrw
  clear hx0 hx1 hx2 hx7 hx9 hx10 hx11 hx12 hx13 hx14 hx15 hx16
  obtain ⟨hx0, hx1, hx2, hx7, hx9, hx10, hx11, hx12, hx13, hx14, hx15, hx16, -⟩ := hx
  have nsh : ∀ y, apSB W bl y → y ∉ blk va := fun y hy z => by
    have h1 := allc5 y z
    rw [C6.desk.lay.sb y hy] at h1; cases h1
  have C7 := C6.keep D7 ks7 (fun y _ hy => .inl (allc5 y hy)) ((priv_last W bl M _).st _ _ C6.sh fun y hy => ks7.block y ((priv_last W bl M _).lt _ _ C6.sh hy) (nsh y hy))
  have har : ∀ y, col5 y = .arena → y ∉ blk va := fun y hy z => by rw [allc5 y z] at hy; cases hy
  have ar7 : Ar w7 pA rA s := ⟨ks7.row (har _ C6.desk.lay.ar.1) ar6.hp, ks7.row (har _ C6.desk.lay.ar.2) ar6.hr⟩
  have rm7 : Rm w7 bm wd (List.replicate wd 0) := (priv_rm _ _ _).st _ _ rm6 fun y hy => by
    have hy' : y = bm := hy
    rw [hy']; exact ks7.block bm rm6.lt A.ma
  have ws7 : Rw 42 3 W.heap.size w7 vw k (pcells L (fun _ => 0) (fun _ => 0) k) := (priv_rwY _ _ _ _ _ _).st _ _ ws6 fun y hy => ks7.block y ((priv_rwY _ _ _ _ _ _).lt _ _ ws6 hy) (fun z => A.dis y z hy)
  have ksW7 : Ks (poorless W) W w7 := ksW6.then ks7 fun y hy z => by have := (all6.block y z).1; omega
  have hW7 := ksW7.size
  have hz7 := ks7.size
  have hpc7 : w7.cell? ⟨b, o + k, none⟩ = some p.v := in_cell C7.sh.2 hpc
  refine C7.desk.pieceY (own := fun y => y ∈ blk vw) (S := fun y => y ∈ blk vw) (A := fun w => Rw 42 3 W.heap.size w vw k (pcells L (fun _ => 0) (fun _ => 0) k)) (priv_rwY _ _ _ _ _ _) ws7 (fun y hy => by rw [wsc5 y hy]; rfl) (ι := {v : Value // ∀ y ∈ blk v, y ∈ blk vw ∨ w7.heap.size ≤ y}) (own' := fun v y => y ∈ blk v.1) (A' := fun v w => Rw 42 3 W.heap.size w v.1 (k + 1) (pcells L (fun _ => 0) (fun _ => 0) k ++ [p.v, .int .i64 0, .int .u64 0])) (fun v => priv_rwY _ _ _ _ _ _) (K' := fun v => [(0, .int .u8 wd), (1, .slice (some ⟨b, o, none⟩) M cl), (2, .slice bo K co), (7, .pointer (some ⟨pA, 0, none⟩)), (9, vn), (10, v.1), (11, .slice (some ⟨bl, 0, none⟩) M M), (12, .slice (some ⟨bm, 0, none⟩) wd wd), (13, .bool true), (14, .int .i64 k), (15, .pointer (some ⟨a.p, 0, none⟩)), (16, .int .i64 0)]) (stok_at rfl rfl (by simp) (by kernel_rfl)) (fun wt Q h1 h2 h3 hQ => ap_q17 hx0 hx1 hx2 hx7 hx9 hx10 hx11 hx12 hx13 hx14 hx15 hx16 rfl ((h3 _).trans hpc7) hk hM5 h1 (by omega) (by omega) fun a' w' vw' hf hr hv hk' => hQ a' ⟨vw', by rw [← h2]; exact hv⟩ w' (fun y hy => (hv y hy).imp id fun z => ⟨z, (priv_rwY _ _ _ _ _ _).lt _ _ hr hy⟩) hf hr hk') ?_
  rintro x8 ⟨vm, hvm⟩ w8 _ hx hrw8 ks8 D8
  simp only at hrw8
  clear hx0 hx1 hx2 hx7 hx9 hx10 hx11 hx12 hx13 hx14 hx15 hx16
  obtain ⟨hx0, hx1, hx2, hx7, hx9, hx10, hx11, hx12, hx13, hx14, hx15, hx16, -⟩ := hx
  have nsh8 : ∀ y, apSB W bl y → y ∉ blk vw := fun y hy z => by
    have h1 := wsc5 y z
    rw [C6.desk.lay.sb y hy] at h1; cases h1
  have C8 := C7.keep D8 ks8 (fun y _ hy => .inl (wsc5 y hy)) ((priv_last W bl M _).st _ _ C7.sh fun y hy => ks8.block y ((priv_last W bl M _).lt _ _ C7.sh hy) (nsh8 y hy))
  have har8 : ∀ y, col5 y = .arena → y ∉ blk vw := fun y hy z => by rw [wsc5 y z] at hy; cases hy
  have lvn : ∀ y ∈ blk vn, y < w7.heap.size := fun y hy => (priv_rwY _ _ _ _ _ _).lt _ _ hrw hy
  have dvn : ∀ y ∈ blk vn, y ∉ blk vw := fun y hy z => by
    rcases hvn y hy with h | h
    · exact A.dis y h z
    · have := (priv_rwY _ _ _ _ _ _).lt _ _ ws6 z; omega
  have A8 : ApW Post W pA rA bl bm M wd L (k + 1) (fun j => if j = k then a else ag j) vn vm pl5 F5 col5 w8 s :=
    { crew := C8
      ar := ⟨ks8.row (har8 _ C6.desk.lay.ar.1) ar7.hp, ks8.row (har8 _ C6.desk.lay.ar.2) ar7.hr⟩
      rm := (priv_rm _ _ _).st _ _ rm7 fun y hy => by
        have hy' : y = bm := hy
        rw [hy']; exact ks8.block bm rm7.lt A.mw
      rmc := rmc5
      all := by
        rw [ptrsY_succ]
        exact (priv_rwY _ _ _ _ _ _).st _ _ hrw fun y hy => ks8.block y (lvn y hy) (dvn y hy)
      allc := fun y hy => by
        rcases hvn y hy with h | h
        · exact allc5 y h
        · exact C6.desk.lay.above y h
      ws := by rw [pcells_succ, hgp]; exact hrw8
      wsc := fun y hy => by
        rcases hvm y hy with h | h
        · exact wsc5 y h
        · exact C7.desk.lay.above y h
      dis := fun y hy z => by
        rcases hvm y z with h | h
        · exact dvn y hy h
        · have := lvn y hy; omega
      ma := fun z => by
        rcases hvn bm z with h | h
        · exact A.ma h
        · have := rm6.lt; omega
      mw := fun z => by
        rcases hvm bm z with h | h
        · exact A.mw h
        · have := rm7.lt; omega
      old := old5
      ks := ksW7.then ks8 fun y hy z => by have := (ws7.block y z).1; omega }
  refine Win.inBlock ?_
  exact desk_stillY A8.crew.desk (stok_at rfl rfl (by simp) (by kernel_rfl)) (fun wt Q hQ => ap_q13 hx0 hx1 hx2 hx7 hx9 hx10 hx11 hx12 hx13 hx14 hk hM5 hQ) fun x9 w9 hx k9 D9 => H a vn vm pl5 F5 col5 w9 x9 (A8.made D9 k9) hx

/-- THE FIRST LOOP: the agents are made. -/
theorem ap_loop1 {args : Array Value} (hL : Progs W (some ⟨b, o, none⟩) L) (hM : M = L.length) (hM5 : M ≤ 5) (h20 : ∀ p ∈ L, p.l.length ≤ 20) (hbl : W.heap.size ≤ bl)
    (H : ∀ ag va vw pl F col w (x : Nat → Value), ApW Post W pA rA bl bm M wd L M ag va vw pl F col w s → HasY x [(0, .int .u8 wd), (1, .slice (some ⟨b, o, none⟩) M cl), (2, .slice bo K co), (7, .pointer (some ⟨pA, 0, none⟩)), (9, va), (10, vw), (11, .slice (some ⟨bl, 0, none⟩) M M), (12, .slice (some ⟨bm, 0, none⟩) wd wd), (13, .bool true)] → Win Try.prog Post pl (1 + M) 0 (gor ((Frame.enter Try.prog 3 args .normal).at ⟨T287 x, []⟩ [.code (apR10 Try.f3)]) []) w) :
    ∀ e k, k + e = M → ∀ ag va vw pl F col w (x : Nat → Value), ApW Post W pA rA bl bm M wd L k ag va vw pl F col w s → HasY x [(0, .int .u8 wd), (1, .slice (some ⟨b, o, none⟩) M cl), (2, .slice bo K co), (7, .pointer (some ⟨pA, 0, none⟩)), (9, va), (10, vw), (11, .slice (some ⟨bl, 0, none⟩) M M), (12, .slice (some ⟨bm, 0, none⟩) wd wd), (13, .bool true), (14, .int .i64 k)] →
      Win Try.prog Post pl (1 + k) 0 (gor ((Frame.enter Try.prog 3 args .normal).at ⟨T287 x, []⟩ (.code (apX1 Try.f3) :: apK1 Try.f3)) []) w := by
  intro e
  induction e with
  | zero =>
    intro k hk ag va vw pl F col w x A hx
    obtain rfl : k = M := by omega
    have e12 : apX1 Try.f3 = .seq (apQ12 Try.f3) (.seq (.block 1 (apB1 Try.f3)) (apQ13 Try.f3)) := by kernel_rfl
    obtain ⟨hx0, hx1, hx2, hx7, hx9, hx10, hx11, hx12, hx13, hx14, -⟩ := hx
    rw [show (Item.code (apX1 Try.f3) :: apK1 Try.f3) = .code (.seq (apQ12 Try.f3) (.seq (.block 1 (apB1 Try.f3)) (apQ13 Try.f3))) :: apK1 Try.f3 by rw [← e12]]
    refine Win.seq ?_
    have he : ∀ X : Code, exitTo 0 (.code X :: apK1 Try.f3) = some [.code (apR10 Try.f3)] := fun X => rfl
    refine desk_exitY A.crew.desk (he _) (stok_at rfl rfl (by simp) (by kernel_rfl)) (fun wt Q hQ => ap_q12_end hx0 hx1 hx2 hx7 hx9 hx10 hx11 hx12 hx13 hx14 rfl hM5 hQ) fun x1 w1 hx k1 D1 => ?_
    obtain ⟨y0, y1, y2, y7, y9, y10, y11, y12, y13, -⟩ := hx
    exact H ag va vw pl F col w1 x1 (A.made D1 k1) ⟨y0, y1, y2, y7, y9, y10, y11, y12, y13, trivial⟩
  | succ e ih =>
    intro k hk ag va vw pl F col w x A hx
    refine ap_body1 A hx hL hM (by omega) hM5 h20 hbl fun a va' vw' pl' F' col' w' x' A' hx' => ?_
    exact Win.inLoop (ih (k + 1) (by omega) _ va' vw' pl' F' col' w' x' A' hx')
end
end Go.Proofs.Ytnbibpmhmffmpaa

namespace Go.Proofs.Ytnbibpmhmffmpaa
set_option linter.unusedVariables false
set_option linter.unusedSimpArgs false
set_option maxRecDepth 100000
open Go.RowKit

def apS2 (f : Func) : Code := codeL (apR10 f)
def apX2 (f : Func) : Code := loopOf (blockOf (codeR (apS2 f)))
def apB2 (f : Func) : Code := blockOf (codeL (codeR (apX2 f)))
def apK2 (f : Func) : List Item := [.inLoop (apX2 f), .inBlock 2, .code (apR11 f)]
def apQ18 (f : Func) : Code := codeL (apS2 f)
def apQ19 (f : Func) : Code := codeL (apX2 f)
def apQ20 (f : Func) : Code := codeR (codeR (apX2 f))
def apQ21 (f : Func) : Code := codeL (apB2 f)
def apQ22 (f : Func) : Code := codeL (codeR (apB2 f))
def apQ23 (f : Func) : Code := codeL (codeR (codeR (apB2 f)))
def apQ24 (f : Func) : Code := codeL (codeR (codeR (codeR (apB2 f))))
def apQ25 (f : Func) : Code := codeL (codeR (codeR (codeR (codeR (apB2 f)))))
def apQ26 (f : Func) : Code := codeL (codeR (codeR (codeR (codeR (codeR (apB2 f))))))
def apQ27 (f : Func) : Code := codeL (codeR (codeR (codeR (codeR (codeR (codeR (apB2 f)))))))
def apQ28 (f : Func) : Code := codeL (codeR (codeR (codeR (codeR (codeR (codeR (codeR (apB2 f))))))))
def apQ29 (f : Func) : Code := codeL (codeR (codeR (codeR (codeR (codeR (codeR (codeR (codeR (apB2 f)))))))))
def apQ30 (f : Func) : Code := codeR (codeR (codeR (codeR (codeR (codeR (codeR (codeR (codeR (apB2 f)))))))))

section
variable {x : Nat → Value} {wt : World} {Q : Exit → Act → World → Prop} {ao bo : Option Addr} {wd M K cl co pA rA bl bm cm i kk ba ca bv cv bp bn cn bz : Nat} {is th : Bool} {t f : Int}
theorem ap_q18 (hx0 : x 0 = .int .u8 wd) (hx1 : x 1 = .slice ao M cl) (hx2 : x 2 = .slice bo K co) (hx7 : x 7 = .pointer (some ⟨pA, 0, none⟩)) (hx9 : x 9 = .slice (some ⟨ba, 0, none⟩) M ca) (hx10 : x 10 = .slice (some ⟨bv, 0, none⟩) M cv) (hx11 : x 11 = .slice (some ⟨bl, 0, none⟩) M M) (hx12 : x 12 = .slice (some ⟨bm, 0, none⟩) wd cm) (hx13 : x 13 = .bool true)  (hQ : ∀ a', FrY [(0, .int .u8 wd), (1, .slice ao M cl), (2, .slice bo K co), (7, .pointer (some ⟨pA, 0, none⟩)), (9, .slice (some ⟨ba, 0, none⟩) M ca), (10, .slice (some ⟨bv, 0, none⟩) M cv), (11, .slice (some ⟨bl, 0, none⟩) M M), (12, .slice (some ⟨bm, 0, none⟩) wd cm), (13, .bool true), (17, .int .i64 0)] a' → Q (.normal) a' wt) : (apQ18 Try.f3).wp Try.prog Q ⟨T287 x, []⟩ wt := by
  have HQ := Lib.hid hQ
  clear hQ
  simp only [apQ18, apB2, apX2, apS2, apR10, bodyOf, Try.f3, codeL, codeR, blockOf, loopOf, Option.getD_some, T287]
  simp only [hx0, hx1, hx2, hx7, hx9, hx10, hx11, hx12, hx13]
  go_wp2
  exact HQ.out _ ⟨rfl, rfl, ⟨rfl, rfl, rfl, rfl, rfl, rfl, rfl, rfl, rfl, rfl, trivial⟩⟩

theorem ap_q19 (hx0 : x 0 = .int .u8 wd) (hx1 : x 1 = .slice ao M cl) (hx2 : x 2 = .slice bo K co) (hx7 : x 7 = .pointer (some ⟨pA, 0, none⟩)) (hx9 : x 9 = .slice (some ⟨ba, 0, none⟩) M ca) (hx10 : x 10 = .slice (some ⟨bv, 0, none⟩) M cv) (hx11 : x 11 = .slice (some ⟨bl, 0, none⟩) M M) (hx12 : x 12 = .slice (some ⟨bm, 0, none⟩) wd cm) (hx13 : x 13 = .bool true) (hx17 : x 17 = .int .i64 i) (hi : i < K) (hK : K ≤ 150) (hM1 : 1 ≤ M) (hM5 : M ≤ 5) (hQ : ∀ a', FrY [(0, .int .u8 wd), (1, .slice ao M cl), (2, .slice bo K co), (7, .pointer (some ⟨pA, 0, none⟩)), (9, .slice (some ⟨ba, 0, none⟩) M ca), (10, .slice (some ⟨bv, 0, none⟩) M cv), (11, .slice (some ⟨bl, 0, none⟩) M M), (12, .slice (some ⟨bm, 0, none⟩) wd cm), (13, .bool true), (17, .int .i64 i)] a' → Q (.normal) a' wt) : (apQ19 Try.f3).wp Try.prog Q ⟨T287 x, []⟩ wt := by
  have HQ := Lib.hid hQ
  have hM0 : 0 < M := by omega
  clear hQ
  simp only [apQ19, apB2, apX2, apS2, apR10, bodyOf, Try.f3, codeL, codeR, blockOf, loopOf, Option.getD_some, T287]
  simp only [hx0, hx1, hx2, hx7, hx9, hx10, hx11, hx12, hx13, hx17]
  go_wp2
  exact HQ.out _ ⟨rfl, rfl, ⟨rfl, rfl, rfl, rfl, rfl, rfl, rfl, rfl, rfl, rfl, trivial⟩⟩

theorem ap_q19_end (hx0 : x 0 = .int .u8 wd) (hx1 : x 1 = .slice ao M cl) (hx2 : x 2 = .slice bo K co) (hx7 : x 7 = .pointer (some ⟨pA, 0, none⟩)) (hx9 : x 9 = .slice (some ⟨ba, 0, none⟩) M ca) (hx10 : x 10 = .slice (some ⟨bv, 0, none⟩) M cv) (hx11 : x 11 = .slice (some ⟨bl, 0, none⟩) M M) (hx12 : x 12 = .slice (some ⟨bm, 0, none⟩) wd cm) (hx13 : x 13 = .bool true) (hx17 : x 17 = .int .i64 i) (hi : i = K) (hK : K ≤ 150) (hM1 : 1 ≤ M) (hM5 : M ≤ 5) (hQ : ∀ a', FrY [(0, .int .u8 wd), (1, .slice ao M cl), (2, .slice bo K co), (7, .pointer (some ⟨pA, 0, none⟩)), (9, .slice (some ⟨ba, 0, none⟩) M ca), (10, .slice (some ⟨bv, 0, none⟩) M cv), (11, .slice (some ⟨bl, 0, none⟩) M M), (12, .slice (some ⟨bm, 0, none⟩) wd cm), (13, .bool true), (17, .int .i64 i)] a' → Q (.exit 2) a' wt) : (apQ19 Try.f3).wp Try.prog Q ⟨T287 x, []⟩ wt := by
  have HQ := Lib.hid hQ
  clear hQ
  simp only [apQ19, apB2, apX2, apS2, apR10, bodyOf, Try.f3, codeL, codeR, blockOf, loopOf, Option.getD_some, T287]
  simp only [hx0, hx1, hx2, hx7, hx9, hx10, hx11, hx12, hx13, hx17]
  go_wp2
  exact HQ.out _ ⟨rfl, rfl, ⟨rfl, rfl, rfl, rfl, rfl, rfl, rfl, rfl, rfl, rfl, trivial⟩⟩

theorem ap_q20 (hx0 : x 0 = .int .u8 wd) (hx1 : x 1 = .slice ao M cl) (hx2 : x 2 = .slice bo K co) (hx7 : x 7 = .pointer (some ⟨pA, 0, none⟩)) (hx9 : x 9 = .slice (some ⟨ba, 0, none⟩) M ca) (hx10 : x 10 = .slice (some ⟨bv, 0, none⟩) M cv) (hx11 : x 11 = .slice (some ⟨bl, 0, none⟩) M M) (hx12 : x 12 = .slice (some ⟨bm, 0, none⟩) wd cm) (hx13 : x 13 = .bool true) (hx17 : x 17 = .int .i64 i) (hi : i < K) (hK : K ≤ 150) (hQ : ∀ a', FrY [(0, .int .u8 wd), (1, .slice ao M cl), (2, .slice bo K co), (7, .pointer (some ⟨pA, 0, none⟩)), (9, .slice (some ⟨ba, 0, none⟩) M ca), (10, .slice (some ⟨bv, 0, none⟩) M cv), (11, .slice (some ⟨bl, 0, none⟩) M M), (12, .slice (some ⟨bm, 0, none⟩) wd cm), (13, .bool true), (17, .int .i64 ((i + 1 : Nat) : Int))] a' → Q (.normal) a' wt) : (apQ20 Try.f3).wp Try.prog Q ⟨T287 x, []⟩ wt := by
  have HQ := Lib.hid hQ
  have hw := wrap_small (i := i) (by omega)
  clear hQ
  simp only [apQ20, apB2, apX2, apS2, apR10, bodyOf, Try.f3, codeL, codeR, blockOf, loopOf, Option.getD_some, T287]
  simp only [hx0, hx1, hx2, hx7, hx9, hx10, hx11, hx12, hx13, hx17]
  go_wp2
  exact HQ.out _ ⟨rfl, rfl, ⟨rfl, rfl, rfl, rfl, rfl, rfl, rfl, rfl, rfl, rfl, trivial⟩⟩

theorem ap_q21 (hx0 : x 0 = .int .u8 wd) (hx1 : x 1 = .slice ao M cl) (hx2 : x 2 = .slice bo K co) (hx7 : x 7 = .pointer (some ⟨pA, 0, none⟩)) (hx9 : x 9 = .slice (some ⟨ba, 0, none⟩) M ca) (hx10 : x 10 = .slice (some ⟨bv, 0, none⟩) M cv) (hx11 : x 11 = .slice (some ⟨bl, 0, none⟩) M M) (hx12 : x 12 = .slice (some ⟨bm, 0, none⟩) wd cm) (hx13 : x 13 = .bool true) (hx17 : x 17 = .int .i64 i) {bO oo : Nat} {d : Int} (hbo : bo = some ⟨bO, oo, none⟩) (hi : i < K) (hK : K ≤ 150) (hM1 : 1 ≤ M) (hM5 : M ≤ 5) (hd : 0 ≤ d ∧ d ≤ 255) (hkk : (kk : Int) = d % M) (hc : wt.cell? ⟨bO, oo + i, none⟩ = some (.int .u8 d)) (hQ : ∀ a', FrY [(0, .int .u8 wd), (1, .slice ao M cl), (2, .slice bo K co), (7, .pointer (some ⟨pA, 0, none⟩)), (9, .slice (some ⟨ba, 0, none⟩) M ca), (10, .slice (some ⟨bv, 0, none⟩) M cv), (11, .slice (some ⟨bl, 0, none⟩) M M), (12, .slice (some ⟨bm, 0, none⟩) wd cm), (13, .bool true), (17, .int .i64 i), (18, .int .i64 kk)] a' → Q (.normal) a' wt) : (apQ21 Try.f3).wp Try.prog Q ⟨T287 x, []⟩ wt := by
  have HQ := Lib.hid hQ
  subst hbo
  have htm : d.tmod (M : Int) = (kk : Int) := by rw [Int.tmod_eq_emod_of_nonneg (by omega)]; exact hkk.symm
  have hkk2 := hkk.symm
  have e0 := IntWalk.i64_in d (by omega)
  have hmb := Int.emod_lt_of_pos d (show (0 : Int) < M by omega)
  have e1 := IntWalk.i64_in (kk : Int) (by omega)
  clear hmb hkk
  clear hQ
  simp only [apQ21, apB2, apX2, apS2, apR10, bodyOf, Try.f3, codeL, codeR, blockOf, loopOf, Option.getD_some, T287]
  simp only [hx0, hx1, hx2, hx7, hx9, hx10, hx11, hx12, hx13, hx17]
  go_wp2
  exact HQ.out _ ⟨rfl, rfl, ⟨rfl, rfl, rfl, rfl, rfl, rfl, rfl, rfl, rfl, rfl, rfl, trivial⟩⟩

theorem ap_q23 (hx0 : x 0 = .int .u8 wd) (hx1 : x 1 = .slice ao M cl) (hx2 : x 2 = .slice bo K co) (hx7 : x 7 = .pointer (some ⟨pA, 0, none⟩)) (hx9 : x 9 = .slice (some ⟨ba, 0, none⟩) M ca) (hx10 : x 10 = .slice (some ⟨bv, 0, none⟩) M cv) (hx11 : x 11 = .slice (some ⟨bl, 0, none⟩) M M) (hx12 : x 12 = .slice (some ⟨bm, 0, none⟩) wd cm) (hx13 : x 13 = .bool true) (hx17 : x 17 = .int .i64 i) (hx18 : x 18 = .int .i64 kk) (hx19 : x 19 = .pointer (some ⟨bp, 0, none⟩)) (hx20 : x 20 = .slice (some ⟨bn, 0, none⟩) wd cn) (hx21 : x 21 = .bool is) {s : St} (ha : Ar wt pA rA s) (hQ : ∀ a', FrY [(0, .int .u8 wd), (1, .slice ao M cl), (2, .slice bo K co), (7, .pointer (some ⟨pA, 0, none⟩)), (9, .slice (some ⟨ba, 0, none⟩) M ca), (10, .slice (some ⟨bv, 0, none⟩) M cv), (11, .slice (some ⟨bl, 0, none⟩) M M), (12, .slice (some ⟨bm, 0, none⟩) wd cm), (13, .bool true), (17, .int .i64 i), (18, .int .i64 kk), (19, .pointer (some ⟨bp, 0, none⟩)), (20, .slice (some ⟨bn, 0, none⟩) wd cn), (21, .bool is), (22, .int .u64 s.t)] a' → Q (.normal) a' wt) : (apQ23 Try.f3).wp Try.prog Q ⟨T287 x, []⟩ wt := by
  have HQ := Lib.hid hQ
  have HN := Lib.hid (touched_any wt pA rA s ha)
  clear ha
  clear hQ
  simp only [apQ23, apB2, apX2, apS2, apR10, bodyOf, Try.f3, codeL, codeR, blockOf, loopOf, Option.getD_some, T287]
  simp only [hx0, hx1, hx2, hx7, hx9, hx10, hx11, hx12, hx13, hx17, hx18, hx19, hx20, hx21]
  go_wp2_with fail
  refine HN.out.mono ?_
  rintro e w1 ⟨rfl, rfl⟩
  go_wp2
  exact HQ.out _ ⟨rfl, rfl, ⟨rfl, rfl, rfl, rfl, rfl, rfl, rfl, rfl, rfl, rfl, rfl, rfl, rfl, rfl, rfl, trivial⟩⟩

theorem ap_q25_no (hx0 : x 0 = .int .u8 wd) (hx1 : x 1 = .slice ao M cl) (hx2 : x 2 = .slice bo K co) (hx7 : x 7 = .pointer (some ⟨pA, 0, none⟩)) (hx9 : x 9 = .slice (some ⟨ba, 0, none⟩) M ca) (hx10 : x 10 = .slice (some ⟨bv, 0, none⟩) M cv) (hx11 : x 11 = .slice (some ⟨bl, 0, none⟩) M M) (hx12 : x 12 = .slice (some ⟨bm, 0, none⟩) wd cm) (hx13 : x 13 = .bool true) (hx17 : x 17 = .int .i64 i) (hx18 : x 18 = .int .i64 kk) (hx19 : x 19 = .pointer (some ⟨bp, 0, none⟩)) (hx20 : x 20 = .slice (some ⟨bn, 0, none⟩) wd cn) (hx21 : x 21 = .bool false) (hx22 : x 22 = .int .u64 t) (hx23 : x 23 = .int .i64 6)  (hQ : ∀ a' w', FrY [(0, .int .u8 wd), (1, .slice ao M cl), (2, .slice bo K co), (7, .pointer (some ⟨pA, 0, none⟩)), (9, .slice (some ⟨ba, 0, none⟩) M ca), (10, .slice (some ⟨bv, 0, none⟩) M cv), (11, .slice (some ⟨bl, 0, none⟩) M M), (12, .slice (some ⟨bm, 0, none⟩) wd cm), (13, .bool true), (17, .int .i64 i), (18, .int .i64 kk), (19, .pointer (some ⟨bp, 0, none⟩)), (20, .slice (some ⟨bn, 0, none⟩) wd cn), (21, .bool false), (22, .int .u64 t), (23, .int .i64 6), (24, .bool false)] a' → Kp [] wt w' → Q (.normal) a' w') : (apQ25 Try.f3).wp Try.prog Q ⟨T287 x, []⟩ wt := by
  have HQ := Lib.hid hQ
  clear hQ
  simp only [apQ25, apB2, apX2, apS2, apR10, bodyOf, Try.f3, codeL, codeR, blockOf, loopOf, Option.getD_some, T287]
  simp only [hx0, hx1, hx2, hx7, hx9, hx10, hx11, hx12, hx13, hx17, hx18, hx19, hx20, hx21, hx22, hx23]
  go_quiet (fail)
  go_wp2_with fail
  first | exact HQ.out _ _ ⟨rfl, rfl, ⟨rfl, rfl, rfl, rfl, rfl, rfl, rfl, rfl, rfl, rfl, rfl, rfl, rfl, rfl, rfl, rfl, rfl, trivial⟩⟩ (Kp.refl _ _) | exact HQ.out _ _ ⟨rfl, rfl, ⟨rfl, rfl, rfl, rfl, rfl, rfl, rfl, rfl, rfl, rfl, rfl, rfl, rfl, rfl, rfl, rfl, rfl, trivial⟩⟩ (kp_drewN _ _)

theorem ap_q25_neg (hx0 : x 0 = .int .u8 wd) (hx1 : x 1 = .slice ao M cl) (hx2 : x 2 = .slice bo K co) (hx7 : x 7 = .pointer (some ⟨pA, 0, none⟩)) (hx9 : x 9 = .slice (some ⟨ba, 0, none⟩) M ca) (hx10 : x 10 = .slice (some ⟨bv, 0, none⟩) M cv) (hx11 : x 11 = .slice (some ⟨bl, 0, none⟩) M M) (hx12 : x 12 = .slice (some ⟨bm, 0, none⟩) wd cm) (hx13 : x 13 = .bool true) (hx17 : x 17 = .int .i64 i) (hx18 : x 18 = .int .i64 kk) (hx19 : x 19 = .pointer (some ⟨bp, 0, none⟩)) (hx20 : x 20 = .slice (some ⟨bn, 0, none⟩) wd cn) (hx21 : x 21 = .bool true) (hx22 : x 22 = .int .u64 t) (hx23 : x 23 = .int .i64 0) {b o cp done N : Nat} {v : Int} (hkk : kk < M) (h0 : wt.cell? ⟨bv, kk * 3, none⟩ = some (.slice (some ⟨b, o, none⟩) N cp)) (h1 : wt.cell? ⟨bv, kk * 3 + 1, none⟩ = some (.int .i64 done)) (hdN : done < N) (hv : wt.cell? ⟨b, o + done * 3 + 1, none⟩ = some (.int .i64 v)) (hlt : ¬ 0 ≤ v) (hQ : ∀ a' w', FrY [(0, .int .u8 wd), (1, .slice ao M cl), (2, .slice bo K co), (7, .pointer (some ⟨pA, 0, none⟩)), (9, .slice (some ⟨ba, 0, none⟩) M ca), (10, .slice (some ⟨bv, 0, none⟩) M cv), (11, .slice (some ⟨bl, 0, none⟩) M M), (12, .slice (some ⟨bm, 0, none⟩) wd cm), (13, .bool true), (17, .int .i64 i), (18, .int .i64 kk), (19, .pointer (some ⟨bp, 0, none⟩)), (20, .slice (some ⟨bn, 0, none⟩) wd cn), (21, .bool true), (22, .int .u64 t), (23, .int .i64 0), (24, .bool false)] a' → Kp [] wt w' → Q (.normal) a' w') : (apQ25 Try.f3).wp Try.prog Q ⟨T287 x, []⟩ wt := by
  have HQ := Lib.hid hQ
  clear hQ
  simp only [apQ25, apB2, apX2, apS2, apR10, bodyOf, Try.f3, codeL, codeR, blockOf, loopOf, Option.getD_some, T287]
  simp only [hx0, hx1, hx2, hx7, hx9, hx10, hx11, hx12, hx13, hx17, hx18, hx19, hx20, hx21, hx22, hx23]
  go_quiet (fail)
  go_wp2_with fail
  first | exact HQ.out _ _ ⟨rfl, rfl, ⟨rfl, rfl, rfl, rfl, rfl, rfl, rfl, rfl, rfl, rfl, rfl, rfl, rfl, rfl, rfl, rfl, rfl, trivial⟩⟩ (Kp.refl _ _) | exact HQ.out _ _ ⟨rfl, rfl, ⟨rfl, rfl, rfl, rfl, rfl, rfl, rfl, rfl, rfl, rfl, rfl, rfl, rfl, rfl, rfl, rfl, rfl, trivial⟩⟩ (kp_drewN _ _)

theorem ap_q25_big (hx0 : x 0 = .int .u8 wd) (hx1 : x 1 = .slice ao M cl) (hx2 : x 2 = .slice bo K co) (hx7 : x 7 = .pointer (some ⟨pA, 0, none⟩)) (hx9 : x 9 = .slice (some ⟨ba, 0, none⟩) M ca) (hx10 : x 10 = .slice (some ⟨bv, 0, none⟩) M cv) (hx11 : x 11 = .slice (some ⟨bl, 0, none⟩) M M) (hx12 : x 12 = .slice (some ⟨bm, 0, none⟩) wd cm) (hx13 : x 13 = .bool true) (hx17 : x 17 = .int .i64 i) (hx18 : x 18 = .int .i64 kk) (hx19 : x 19 = .pointer (some ⟨bp, 0, none⟩)) (hx20 : x 20 = .slice (some ⟨bn, 0, none⟩) wd cn) (hx21 : x 21 = .bool true) (hx22 : x 22 = .int .u64 t) (hx23 : x 23 = .int .i64 0) {b o cp done N : Nat} {v : Int} (hkk : kk < M) (h0 : wt.cell? ⟨bv, kk * 3, none⟩ = some (.slice (some ⟨b, o, none⟩) N cp)) (h1 : wt.cell? ⟨bv, kk * 3 + 1, none⟩ = some (.int .i64 done)) (hdN : done < N) (hv : wt.cell? ⟨b, o + done * 3 + 1, none⟩ = some (.int .i64 v)) (hge : 0 ≤ v) (hlt : ¬ v < (wd : Int)) (h20 : wd ≤ 20) (hQ : ∀ a' w', FrY [(0, .int .u8 wd), (1, .slice ao M cl), (2, .slice bo K co), (7, .pointer (some ⟨pA, 0, none⟩)), (9, .slice (some ⟨ba, 0, none⟩) M ca), (10, .slice (some ⟨bv, 0, none⟩) M cv), (11, .slice (some ⟨bl, 0, none⟩) M M), (12, .slice (some ⟨bm, 0, none⟩) wd cm), (13, .bool true), (17, .int .i64 i), (18, .int .i64 kk), (19, .pointer (some ⟨bp, 0, none⟩)), (20, .slice (some ⟨bn, 0, none⟩) wd cn), (21, .bool true), (22, .int .u64 t), (23, .int .i64 0), (24, .bool false)] a' → Kp [] wt w' → Q (.normal) a' w') : (apQ25 Try.f3).wp Try.prog Q ⟨T287 x, []⟩ wt := by
  have HQ := Lib.hid hQ
  have i0 := IntWalk.i64_in (wd : Int) (by omega)
  clear h20
  clear hQ
  simp only [apQ25, apB2, apX2, apS2, apR10, bodyOf, Try.f3, codeL, codeR, blockOf, loopOf, Option.getD_some, T287]
  simp only [hx0, hx1, hx2, hx7, hx9, hx10, hx11, hx12, hx13, hx17, hx18, hx19, hx20, hx21, hx22, hx23]
  go_quiet (fail)
  go_wp2_with fail
  first | exact HQ.out _ _ ⟨rfl, rfl, ⟨rfl, rfl, rfl, rfl, rfl, rfl, rfl, rfl, rfl, rfl, rfl, rfl, rfl, rfl, rfl, rfl, rfl, trivial⟩⟩ (Kp.refl _ _) | exact HQ.out _ _ ⟨rfl, rfl, ⟨rfl, rfl, rfl, rfl, rfl, rfl, rfl, rfl, rfl, rfl, rfl, rfl, rfl, rfl, rfl, rfl, rfl, trivial⟩⟩ (kp_drewN _ _)

theorem ap_q25_in (hx0 : x 0 = .int .u8 wd) (hx1 : x 1 = .slice ao M cl) (hx2 : x 2 = .slice bo K co) (hx7 : x 7 = .pointer (some ⟨pA, 0, none⟩)) (hx9 : x 9 = .slice (some ⟨ba, 0, none⟩) M ca) (hx10 : x 10 = .slice (some ⟨bv, 0, none⟩) M cv) (hx11 : x 11 = .slice (some ⟨bl, 0, none⟩) M M) (hx12 : x 12 = .slice (some ⟨bm, 0, none⟩) wd cm) (hx13 : x 13 = .bool true) (hx17 : x 17 = .int .i64 i) (hx18 : x 18 = .int .i64 kk) (hx19 : x 19 = .pointer (some ⟨bp, 0, none⟩)) (hx20 : x 20 = .slice (some ⟨bn, 0, none⟩) wd cn) (hx21 : x 21 = .bool true) (hx22 : x 22 = .int .u64 t) (hx23 : x 23 = .int .i64 0) {b o cp done N : Nat} {v : Int} (hkk : kk < M) (h0 : wt.cell? ⟨bv, kk * 3, none⟩ = some (.slice (some ⟨b, o, none⟩) N cp)) (h1 : wt.cell? ⟨bv, kk * 3 + 1, none⟩ = some (.int .i64 done)) (hdN : done < N) (hv : wt.cell? ⟨b, o + done * 3 + 1, none⟩ = some (.int .i64 v)) (hge : 0 ≤ v) (hlt : v < (wd : Int)) (h20 : wd ≤ 20) (hQ : ∀ a' w', FrY [(0, .int .u8 wd), (1, .slice ao M cl), (2, .slice bo K co), (7, .pointer (some ⟨pA, 0, none⟩)), (9, .slice (some ⟨ba, 0, none⟩) M ca), (10, .slice (some ⟨bv, 0, none⟩) M cv), (11, .slice (some ⟨bl, 0, none⟩) M M), (12, .slice (some ⟨bm, 0, none⟩) wd cm), (13, .bool true), (17, .int .i64 i), (18, .int .i64 kk), (19, .pointer (some ⟨bp, 0, none⟩)), (20, .slice (some ⟨bn, 0, none⟩) wd cn), (21, .bool true), (22, .int .u64 t), (23, .int .i64 0), (24, .bool true)] a' → Kp [] wt w' → Q (.normal) a' w') : (apQ25 Try.f3).wp Try.prog Q ⟨T287 x, []⟩ wt := by
  have HQ := Lib.hid hQ
  have i0 := IntWalk.i64_in (wd : Int) (by omega)
  clear h20
  clear hQ
  simp only [apQ25, apB2, apX2, apS2, apR10, bodyOf, Try.f3, codeL, codeR, blockOf, loopOf, Option.getD_some, T287]
  simp only [hx0, hx1, hx2, hx7, hx9, hx10, hx11, hx12, hx13, hx17, hx18, hx19, hx20, hx21, hx22, hx23]
  go_quiet (fail)
  go_wp2_with fail
  first | exact HQ.out _ _ ⟨rfl, rfl, ⟨rfl, rfl, rfl, rfl, rfl, rfl, rfl, rfl, rfl, rfl, rfl, rfl, rfl, rfl, rfl, rfl, rfl, trivial⟩⟩ (Kp.refl _ _) | exact HQ.out _ _ ⟨rfl, rfl, ⟨rfl, rfl, rfl, rfl, rfl, rfl, rfl, rfl, rfl, rfl, rfl, rfl, rfl, rfl, rfl, rfl, rfl, trivial⟩⟩ (kp_drewN _ _)

theorem ap_q27 (hx0 : x 0 = .int .u8 wd) (hx1 : x 1 = .slice ao M cl) (hx2 : x 2 = .slice bo K co) (hx7 : x 7 = .pointer (some ⟨pA, 0, none⟩)) (hx9 : x 9 = .slice (some ⟨ba, 0, none⟩) M ca) (hx10 : x 10 = .slice (some ⟨bv, 0, none⟩) M cv) (hx11 : x 11 = .slice (some ⟨bl, 0, none⟩) M M) (hx12 : x 12 = .slice (some ⟨bm, 0, none⟩) wd cm) (hx13 : x 13 = .bool true) (hx17 : x 17 = .int .i64 i) (hx18 : x 18 = .int .i64 kk) (hx19 : x 19 = .pointer (some ⟨bp, 0, none⟩)) (hx20 : x 20 = .slice (some ⟨bn, 0, none⟩) wd cn) (hx21 : x 21 = .bool is) (hx22 : x 22 = .int .u64 t) (hx23 : x 23 = .int .i64 f) (hx24 : x 24 = .bool th)  (hQ : ∀ a', FrY [(0, .int .u8 wd), (1, .slice ao M cl), (2, .slice bo K co), (7, .pointer (some ⟨pA, 0, none⟩)), (9, .slice (some ⟨ba, 0, none⟩) M ca), (10, .slice (some ⟨bv, 0, none⟩) M cv), (11, .slice (some ⟨bl, 0, none⟩) M M), (12, .slice (some ⟨bn, 0, none⟩) wd cn), (13, .bool true), (17, .int .i64 i), (18, .int .i64 kk), (19, .pointer (some ⟨bp, 0, none⟩)), (20, .slice (some ⟨bn, 0, none⟩) wd cn), (21, .bool is), (22, .int .u64 t), (23, .int .i64 f), (24, .bool th)] a' → Q (.normal) a' wt) : (apQ27 Try.f3).wp Try.prog Q ⟨T287 x, []⟩ wt := by
  have HQ := Lib.hid hQ
  clear hQ
  simp only [apQ27, apB2, apX2, apS2, apR10, bodyOf, Try.f3, codeL, codeR, blockOf, loopOf, Option.getD_some, T287]
  simp only [hx0, hx1, hx2, hx7, hx9, hx10, hx11, hx12, hx13, hx17, hx18, hx19, hx20, hx21, hx22, hx23, hx24]
  go_wp2
  exact HQ.out _ ⟨rfl, rfl, ⟨rfl, rfl, rfl, rfl, rfl, rfl, rfl, rfl, rfl, rfl, rfl, rfl, rfl, rfl, rfl, rfl, rfl, trivial⟩⟩

end
end Go.Proofs.Ytnbibpmhmffmpaa
