/- Law 14's program over an agent's memory: what it shares, what it does, its pieces. Written by gen/gw_h.py. Law 14's program: the pieces that turn hands. Written by gen/gw_i.py. Law 14: what the agents share, what an agent holds, what it does to its hands. A piece of an agent's that turns nothing; law 14's program: its end, its rounds' end. Law 14's program: a Claim's round. Written by gen/gw_l.py. Law 14's program: what a Claim has answered is kept. Written by gen/gw_m.py. Law 14's program: a round with a Claim. Written by gen/gw_n.py. Law 14's program: the first hand is cut off. Written by gen/gw_o.py. Conditions: as each theorem states them. -/
import Derived.Deep.RegionLaw
import Derived.Test.YtnbaiinhalplcaaPg17
namespace Go.Proofs.Ytnbaiinhalplcaa
set_option linter.unusedVariables false
set_option linter.unusedSimpArgs false
set_option maxRecDepth 100000
open Go.RowKit

def T73 (x : Nat → Value) : Array Value := #[x 0, x 1, x 2, x 3, x 4, x 5, x 6, x 7, x 8, x 9, x 10, x 11, x 12, x 13, x 14, x 15, x 16, x 17, x 18, x 19, x 20, x 21, x 22, x 23, x 24, x 25, x 26, x 27, x 28, x 29, x 30, x 31, x 32, x 33, x 34, x 35, x 36, x 37, x 38, x 39, x 40, x 41, x 42, x 43, x 44, x 45, x 46, x 47, x 48, x 49, x 50, x 51, x 52, x 53, x 54, x 55, x 56, x 57, x 58, x 59, x 60, x 61, x 62, x 63, x 64, x 65, x 66, x 67, x 68, x 69, x 70, x 71, x 72]
theorem T73_shape : ShapeN 73 T73 := fun _ => by kernel_rfl

abbrev Hands := Nat → List (Int × Int)
def setHs (i : Nat) (l : List (Int × Int)) (g : Hands) : Hands := fun j => if j = i then l else g j
/-- How many blocks an act claims. -/
def runOf (x : Int) : Int := 1 + x / 2 % 3
theorem runOf_in {x : Int} (h : 0 ≤ x) : 1 ≤ runOf x ∧ runOf x ≤ 3 := by unfold runOf; omega
noncomputable def clmG (i : Nat) (r v : Int) (g : Hands) : Hands := if okI r v then setHs i (g i ++ [(atI r v, r)]) g else g
/-- What the program does, and what stands once it waits: acts that are left; hands. -/
noncomputable def gvN (TT GG nn i : Nat) : List Int → Hands → Tree Hands × Hands
  | [], g => (.ret, g)
  | x :: l, g =>
    if x % 2 = 0 ∨ (g i).length = 0 then (.node 0 (fun v => (mapN (runOf x) v : Nat)) (fun v g => (gvN TT GG nn i l (clmG i (runOf x) v g)).2) (fun v g => (gvN TT GG nn i l (clmG i (runOf x) v g)).1) (fun g => g) (fun g => (g i).length ≤ 20), g)
    else if runG nn ((g i).headD (0, 0)).1 ((g i).headD (0, 0)).2 then
      (bkT (3 + TT + GG + ((g i).headD (0, 0)).1.toNat) (giveI ((g i).headD (0, 0)).1.toNat ((g i).headD (0, 0)).2.toNat) (fun g => (gvN TT GG nn i l g).2) (fun g => (gvN TT GG nn i l g).1) (fun g => g) ((g i).headD (0, 0)).2.toNat, setHs i (g i).tail g)
    else gvN TT GG nn i l (setHs i (g i).tail g)

def gvX (f : Func) : Code := loopOf (blockOf (codeR (bodyOf f)))
def gvC0 (f : Func) : Code := codeL (bodyOf f)
def gvC1 (f : Func) : Code := codeL (codeL (gvX f))
def gvB (f : Func) : Code := blockOf (codeL (codeR (gvX f)))
def gvC2 (f : Func) : Code := codeR (codeR (gvX f))
def gvC3 (f : Func) : Code := codeL (codeL (gvB f))
def condA : Code → Code
  | .cond _ a _ => a
  | c => c
def gvA (f : Func) : Code := condA (codeR (codeL (gvB f)))
def gvC4 (f : Func) : Code := codeL (gvA f)
def gvC5 (f : Func) : Code := codeL (codeR (gvA f))
def gvC6 (f : Func) : Code := codeL (codeL (codeR (codeR (gvA f))))
def gvC7 (f : Func) : Code := condA (codeR (codeL (codeR (codeR (gvA f)))))
def gvC8 (f : Func) : Code := codeL (codeR (gvB f))
def gvC9 (f : Func) : Code := codeL (codeR (codeR (gvB f)))
def gvC10 (f : Func) : Code := codeR (codeR (codeR (gvB f)))
theorem gv_e0 : bodyOf Try.f9 = .seq (gvC0 Try.f9) (.block 0 (.loop (gvX Try.f9))) := by kernel_rfl
theorem gv_e1 : gvX Try.f9 = .seq (.seq (gvC1 Try.f9) (.cond (.tmp 13) .skip (.exit 0))) (.seq (.block 1 (gvB Try.f9)) (gvC2 Try.f9)) := by kernel_rfl
theorem gv_e2 : gvB Try.f9 = .seq (.seq (gvC3 Try.f9) (.cond (.tmp 28) (gvA Try.f9) .skip)) (.seq (gvC8 Try.f9) (.seq (gvC9 Try.f9) (gvC10 Try.f9))) := by kernel_rfl
theorem gv_e3 : gvA Try.f9 = .seq (gvC4 Try.f9) (.seq (gvC5 Try.f9) (.seq (.seq (gvC6 Try.f9) (.cond (.tmp 44) (gvC7 Try.f9) .skip)) (.exit 1))) := by kernel_rfl

section
variable {x : Nat → Value} {wt : World} {Q : Exit → Act → World → Prop} {m q1 q2 bl bh ix K k L oc cp ba ob : Nat} {ao oo : Option Addr} {xk v6 v7 : Int} {y : Bool}
theorem gv_p0  (hx0 : x 0 = .iface 107 (.pointer (some ⟨m, 0, none⟩))) (hx1 : x 1 = .pointer (some ⟨q1, 0, none⟩)) (hx2 : x 2 = .pointer (some ⟨q2, 0, none⟩)) (hx3 : x 3 = .pointer (some ⟨bl, 0, none⟩))
    (hQ : ∀ a', FrN 73 [(0, .iface 107 (.pointer (some ⟨m, 0, none⟩))), (1, .pointer (some ⟨q1, 0, none⟩)), (2, .pointer (some ⟨q2, 0, none⟩)), (3, .pointer (some ⟨bl, 0, none⟩)), (5, .int .i64 0)] a' → Q .normal a' wt) : (gvC0 Try.f9).wp Try.prog Q ⟨T73 x, []⟩ wt := by
  have HQ := Lib.hid hQ
  clear hQ
  simp only [gvC0, gvA, gvB, gvX, condA, bodyOf, Try.f9, codeL, codeR, blockOf, loopOf, Option.getD_some, T73]
  simp only [hx0, hx1, hx2, hx3]
  go_wp2
  exact HQ.out _ ⟨rfl, rfl, ⟨rfl, rfl, rfl, rfl, rfl, trivial⟩⟩
theorem gv_p1 (c1 : wt.cell? ⟨q1, 0, none⟩ = some (.slice ao K cp)) (hx0 : x 0 = .iface 107 (.pointer (some ⟨m, 0, none⟩))) (hx1 : x 1 = .pointer (some ⟨q1, 0, none⟩)) (hx2 : x 2 = .pointer (some ⟨q2, 0, none⟩)) (hx3 : x 3 = .pointer (some ⟨bl, 0, none⟩)) (hx5 : x 5 = .int .i64 k)
    (hQ : ∀ a', FrN 73 [(0, .iface 107 (.pointer (some ⟨m, 0, none⟩))), (1, .pointer (some ⟨q1, 0, none⟩)), (2, .pointer (some ⟨q2, 0, none⟩)), (3, .pointer (some ⟨bl, 0, none⟩)), (5, .int .i64 k), (13, .bool (decide (k < K)))] a' → Q .normal a' wt) : (gvC1 Try.f9).wp Try.prog Q ⟨T73 x, []⟩ wt := by
  have HQ := Lib.hid hQ
  clear hQ
  simp only [gvC1, gvA, gvB, gvX, condA, bodyOf, Try.f9, codeL, codeR, blockOf, loopOf, Option.getD_some, T73]
  simp only [hx0, hx1, hx2, hx3, hx5]
  go_wp2
  exact HQ.out _ ⟨rfl, rfl, ⟨rfl, rfl, rfl, rfl, rfl, rfl, trivial⟩⟩
theorem gv_p3_even (c1 : wt.cell? ⟨q1, 0, none⟩ = some (.slice (some ⟨ba, ob, none⟩) K cp)) (hk : k < K) (cb : wt.cell? ⟨ba, ob + k, none⟩ = some (.int .u8 xk)) (h0 : 0 ≤ xk) (h255 : xk < 256) (he : xk % 2 = 0) (hx0 : x 0 = .iface 107 (.pointer (some ⟨m, 0, none⟩))) (hx1 : x 1 = .pointer (some ⟨q1, 0, none⟩)) (hx2 : x 2 = .pointer (some ⟨q2, 0, none⟩)) (hx3 : x 3 = .pointer (some ⟨bl, 0, none⟩)) (hx5 : x 5 = .int .i64 k)
    (hQ : ∀ a', FrN 73 [(0, .iface 107 (.pointer (some ⟨m, 0, none⟩))), (1, .pointer (some ⟨q1, 0, none⟩)), (2, .pointer (some ⟨q2, 0, none⟩)), (3, .pointer (some ⟨bl, 0, none⟩)), (5, .int .i64 k), (28, .bool true)] a' → Q .normal a' wt) : (gvC3 Try.f9).wp Try.prog Q ⟨T73 x, []⟩ wt := by
  have HQ := Lib.hid hQ
  clear hQ
  have hm : xk.tmod 2 = 0 := by rw [Int.tmod_eq_emod_of_nonneg h0]; exact he
  simp only [gvC3, gvA, gvB, gvX, condA, bodyOf, Try.f9, codeL, codeR, blockOf, loopOf, Option.getD_some, T73]
  simp only [hx0, hx1, hx2, hx3, hx5]
  go_wp2
  exact HQ.out _ ⟨rfl, rfl, ⟨rfl, rfl, rfl, rfl, rfl, rfl, trivial⟩⟩
theorem gv_p3_odd (c1 : wt.cell? ⟨q1, 0, none⟩ = some (.slice (some ⟨ba, ob, none⟩) K cp)) (hk : k < K) (cb : wt.cell? ⟨ba, ob + k, none⟩ = some (.int .u8 xk)) (h0 : 0 ≤ xk) (h255 : xk < 256) (c2 : wt.cell? ⟨q2, 0, none⟩ = some (.pointer (some ⟨bh, ix, none⟩))) (co : wt.cell? ⟨bh, ix, none⟩ = some (.slice oo L oc)) (he : xk % 2 ≠ 0) (hx0 : x 0 = .iface 107 (.pointer (some ⟨m, 0, none⟩))) (hx1 : x 1 = .pointer (some ⟨q1, 0, none⟩)) (hx2 : x 2 = .pointer (some ⟨q2, 0, none⟩)) (hx3 : x 3 = .pointer (some ⟨bl, 0, none⟩)) (hx5 : x 5 = .int .i64 k)
    (hQ : ∀ a', FrN 73 [(0, .iface 107 (.pointer (some ⟨m, 0, none⟩))), (1, .pointer (some ⟨q1, 0, none⟩)), (2, .pointer (some ⟨q2, 0, none⟩)), (3, .pointer (some ⟨bl, 0, none⟩)), (5, .int .i64 k), (28, .bool (decide (L = 0)))] a' → Q .normal a' wt) : (gvC3 Try.f9).wp Try.prog Q ⟨T73 x, []⟩ wt := by
  have HQ := Lib.hid hQ
  clear hQ
  have hm : ¬ xk.tmod 2 = 0 := by rw [Int.tmod_eq_emod_of_nonneg h0]; exact he
  simp only [gvC3, gvA, gvB, gvX, condA, bodyOf, Try.f9, codeL, codeR, blockOf, loopOf, Option.getD_some, T73]
  simp only [hx0, hx1, hx2, hx3, hx5]
  go_wp2
  exact HQ.out _ ⟨rfl, rfl, ⟨rfl, rfl, rfl, rfl, rfl, congrArg Value.bool (show (xk % 2 == 0 || ((L : Int)) == 0) = decide (L = 0) by rw [Bool.eq_iff_iff]; simp [he]), trivial⟩⟩
theorem gv_p4 (c1 : wt.cell? ⟨q1, 0, none⟩ = some (.slice (some ⟨ba, ob, none⟩) K cp)) (hk : k < K) (cb : wt.cell? ⟨ba, ob + k, none⟩ = some (.int .u8 xk)) (h0 : 0 ≤ xk) (h255 : xk < 256) (hx0 : x 0 = .iface 107 (.pointer (some ⟨m, 0, none⟩))) (hx1 : x 1 = .pointer (some ⟨q1, 0, none⟩)) (hx2 : x 2 = .pointer (some ⟨q2, 0, none⟩)) (hx3 : x 3 = .pointer (some ⟨bl, 0, none⟩)) (hx5 : x 5 = .int .i64 k)
    (hQ : ∀ a', FrN 73 [(0, .iface 107 (.pointer (some ⟨m, 0, none⟩))), (1, .pointer (some ⟨q1, 0, none⟩)), (2, .pointer (some ⟨q2, 0, none⟩)), (3, .pointer (some ⟨bl, 0, none⟩)), (5, .int .i64 k), (6, .int .i64 (runOf xk))] a' → Q .normal a' wt) : (gvC4 Try.f9).wp Try.prog Q ⟨T73 x, []⟩ wt := by
  have HQ := Lib.hid hQ
  clear hQ
  have hr := runOf_in h0
  simp only [gvC4, gvA, gvB, gvX, condA, bodyOf, Try.f9, codeL, codeR, blockOf, loopOf, Option.getD_some, T73]
  simp only [hx0, hx1, hx2, hx3, hx5]
  go_wp2
  exact HQ.out _ ⟨rfl, rfl, ⟨rfl, rfl, rfl, rfl, rfl, rfl, trivial⟩⟩
theorem gv_p6  (hx0 : x 0 = .iface 107 (.pointer (some ⟨m, 0, none⟩))) (hx1 : x 1 = .pointer (some ⟨q1, 0, none⟩)) (hx2 : x 2 = .pointer (some ⟨q2, 0, none⟩)) (hx3 : x 3 = .pointer (some ⟨bl, 0, none⟩)) (hx5 : x 5 = .int .i64 k) (hx6 : x 6 = .int .i64 v6) (hx7 : x 7 = .int .i64 v7) (hx8 : x 8 = .bool y)
    (hQ : ∀ a', FrN 73 [(0, .iface 107 (.pointer (some ⟨m, 0, none⟩))), (1, .pointer (some ⟨q1, 0, none⟩)), (2, .pointer (some ⟨q2, 0, none⟩)), (3, .pointer (some ⟨bl, 0, none⟩)), (5, .int .i64 k), (6, .int .i64 v6), (7, .int .i64 v7), (44, .bool y)] a' → Q .normal a' wt) : (gvC6 Try.f9).wp Try.prog Q ⟨T73 x, []⟩ wt := by
  have HQ := Lib.hid hQ
  clear hQ
  simp only [gvC6, gvA, gvB, gvX, condA, bodyOf, Try.f9, codeL, codeR, blockOf, loopOf, Option.getD_some, T73]
  simp only [hx0, hx1, hx2, hx3, hx5, hx6, hx7, hx8]
  go_wp2
  exact HQ.out _ ⟨rfl, rfl, ⟨rfl, rfl, rfl, rfl, rfl, rfl, rfl, rfl, trivial⟩⟩
theorem gv_p2 (hk : k < 64) (hx0 : x 0 = .iface 107 (.pointer (some ⟨m, 0, none⟩))) (hx1 : x 1 = .pointer (some ⟨q1, 0, none⟩)) (hx2 : x 2 = .pointer (some ⟨q2, 0, none⟩)) (hx3 : x 3 = .pointer (some ⟨bl, 0, none⟩)) (hx5 : x 5 = .int .i64 k)
    (hQ : ∀ a', FrN 73 [(0, .iface 107 (.pointer (some ⟨m, 0, none⟩))), (1, .pointer (some ⟨q1, 0, none⟩)), (2, .pointer (some ⟨q2, 0, none⟩)), (3, .pointer (some ⟨bl, 0, none⟩)), (5, .int .i64 ((k + 1 : Nat) : Int))] a' → Q .normal a' wt) : (gvC2 Try.f9).wp Try.prog Q ⟨T73 x, []⟩ wt := by
  have HQ := Lib.hid hQ
  clear hQ
  have hw := IntWalk.i64_in ((k : Int) + 1) (by omega)
  simp only [gvC2, gvA, gvB, gvX, condA, bodyOf, Try.f9, codeL, codeR, blockOf, loopOf, Option.getD_some, T73]
  simp only [hx0, hx1, hx2, hx3, hx5]
  go_wp2
  exact HQ.out _ ⟨rfl, rfl, ⟨rfl, rfl, rfl, rfl, rfl, trivial⟩⟩
end
end Go.Proofs.Ytnbaiinhalplcaa

namespace Go.Proofs.Ytnbaiinhalplcaa
open List renaming getElem?_toArray → gqA, getElem?_cons_zero → gqZ, getElem?_cons_succ → gqS
set_option linter.unusedVariables false
set_option linter.unusedSimpArgs false
set_option maxRecDepth 100000
open Go.RowKit

section
variable {ops : Array Oper} {o : Oper} {a : Act} {K : Act → World → Prop} {Q : Exit → Act → World → Prop} {E : Prop} {w : World}
theorem pstep_append_eq {P : Program} {w2 : World} (hgd : o.guard = none) (s x : Operand) (t : TypeId) (ho : o.op = .call { callee := .builtin .append, args := #[s, x], argTypes := #[t, t] }) (sv xv v : Value) (hs : a.eval s = sv) (hx : a.eval x = xv)
    (hrun : (Builtin.append_ #[t, t] o.type #[sv, xv]).run P w = .ok v w2) (hK : K (a.put o.dst v) w2) : if Region.wanted o (yielded ops a.tmps) = true then Oper.wp P o a w K Q else E := by
  have hw : Region.wanted o (yielded ops a.tmps) = true := by simp [Region.wanted, hgd]
  rw [if_pos hw]
  unfold Oper.wp
  simp [execOp, ho, resolve, invoke, builtin, hs, hx, hrun, Result.andThen]
  exact hK
theorem step_pushH {v : Value} {xs : List (Int × Int)} {x : Int × Int} {ad : Addr} (hgd : o.guard = none) (s y : Operand) (ho : o.op = .call { callee := .builtin .append, args := #[s, y], argTypes := #[34, 34] }) (hs : a.eval s = v) (hx : a.eval y = .slice (some ad) 1 1)
    (hq : Qh w v xs) (hn : xs.length ≤ 100000) (hl : w.cell? ad = some (.int .i64 x.1)) (hl' : w.cell? (ad.add 1) = some (.int .i64 x.2))
    (hK : ∀ v' w', Qh w' v' (xs ++ [x]) → Kp (blk v) w w' → (∀ b ∈ blk v', b ∈ blk v ∨ w.heap.size ≤ b) → K (a.put o.dst v') w') : if Region.wanted o (yielded ops a.tmps) = true then Oper.wp Try.prog o a w K Q else E := by
  obtain ⟨v', w', hrun, h1, h2, h3⟩ := hq.push x ad hl hl' hn o.type
  exact pstep_append_eq hgd s y 34 ho _ _ _ hs hx hrun (hK v' w' h1 h2 h3)
end

section
variable {x : Nat → Value} {wt : World} {Q : Exit → Act → World → Prop} {m q1 q2 bl bh ix k h9 L oc off rb : Nat} {oo : Option Addr} {v6 v7 h1 h2 : Int} {cur : Array Value} {xs : List (Int × Int)}
/-- What is asked of normal ends alone. -/
def normQ (R : Act → World → Prop) : Exit → Act → World → Prop
  | .normal, a, w => R a w
  | _, _, _ => False
theorem wp_norm {c : Code} {a : Act} {w : World} {Q : Exit → Act → World → Prop} (h : c.wp Try.prog (normQ (Q .normal)) a w) : c.wp Try.prog Q a w :=
  Code.wp_mono (fun e a w hh => by cases e <;> first | exact hh | exact hh.elim) h
theorem gv_p8 (c2 : wt.cell? ⟨q2, 0, none⟩ = some (.pointer (some ⟨bh, ix, none⟩))) (co : wt.cell? ⟨bh, ix, none⟩ = some (.slice (some ⟨rb, off, none⟩) L oc)) (hL : 0 < L) (ch1 : wt.cell? ⟨rb, off, none⟩ = some (.int .i64 h1)) (ch2 : wt.cell? ⟨rb, off + 1, none⟩ = some (.int .i64 h2)) (hx0 : x 0 = .iface 107 (.pointer (some ⟨m, 0, none⟩))) (hx1 : x 1 = .pointer (some ⟨q1, 0, none⟩)) (hx2 : x 2 = .pointer (some ⟨q2, 0, none⟩)) (hx3 : x 3 = .pointer (some ⟨bl, 0, none⟩)) (hx5 : x 5 = .int .i64 k)
    (hQ : ∀ a' w', FrN 73 [(0, .iface 107 (.pointer (some ⟨m, 0, none⟩))), (1, .pointer (some ⟨q1, 0, none⟩)), (2, .pointer (some ⟨q2, 0, none⟩)), (3, .pointer (some ⟨bl, 0, none⟩)), (5, .int .i64 k), (9, .pointer (some ⟨wt.heap.size, 0, none⟩))] a' → w'.heap[wt.heap.size]? = some (.cells #[.int .i64 h1, .int .i64 h2] 44 (0, 0)) → Kp [] wt w' → Q .normal a' w') : (gvC8 Try.f9).wp Try.prog Q ⟨T73 x, []⟩ wt := by
  have HQ := Lib.hid hQ
  clear hQ
  simp only [gvC8, gvA, gvB, gvX, condA, bodyOf, Try.f9, codeL, codeR, blockOf, loopOf, Option.getD_some, T73]
  simp only [hx0, hx1, hx2, hx3, hx5]
  go_wp2
  refine HQ.out _ _ ⟨rfl, rfl, ⟨rfl, rfl, rfl, rfl, rfl, rfl, trivial⟩⟩ ?_ ?_
  · exact heap_alloc_new _ _
  · exact (Kp.refl _ _).alloc _
theorem gv_p9 (r2 : wt.heap[q2]? = some (.cells #[.pointer (some ⟨bh, ix, none⟩)] 33 (0, 0))) (rh : wt.heap[bh]? = some (.cells cur 34 (0, 0))) (co : cur[ix]? = some (.slice (some ⟨rb, off, none⟩) L oc)) (hL : 0 < L) (hoc : L ≤ oc) (hx0 : x 0 = .iface 107 (.pointer (some ⟨m, 0, none⟩))) (hx1 : x 1 = .pointer (some ⟨q1, 0, none⟩)) (hx2 : x 2 = .pointer (some ⟨q2, 0, none⟩)) (hx3 : x 3 = .pointer (some ⟨bl, 0, none⟩)) (hx5 : x 5 = .int .i64 k) (hx9 : x 9 = .pointer (some ⟨h9, 0, none⟩))
    (hQ : ∀ a' w' v', FrN 73 [(0, .iface 107 (.pointer (some ⟨m, 0, none⟩))), (1, .pointer (some ⟨q1, 0, none⟩)), (2, .pointer (some ⟨q2, 0, none⟩)), (3, .pointer (some ⟨bl, 0, none⟩)), (5, .int .i64 k), (9, .pointer (some ⟨h9, 0, none⟩))] a' → (v' = .slice (some ⟨rb, off + 2, none⟩) (L - 1) (oc - 1) ∨ (oc = 1 ∧ v' = .slice (some ⟨rb, off, none⟩) (L - 1) 0)) → w'.heap[bh]? = some (.cells (cur.setIfInBounds ix v') 34 (0, 0)) → Kp [bh] wt w' → Q .normal a' w') : (gvC9 Try.f9).wp Try.prog Q ⟨T73 x, []⟩ wt := by
  have HQ := Lib.hid hQ
  have c2 := cell_of_row r2 0
  have ch : wt.cell? ⟨bh, ix, none⟩ = some (.slice (some ⟨rb, off, none⟩) L oc) := (cell_of_row rh ix).trans co
  have fh := free_of_row rh ix
  simp only [gqA, gqZ] at c2
  have RH := Lib.hid rh
  clear hQ r2 rh co
  simp only [gvC9, gvA, gvB, gvX, condA, bodyOf, Try.f9, codeL, codeR, blockOf, loopOf, Option.getD_some, T73]
  simp only [hx0, hx1, hx2, hx3, hx5, hx9]
  go_region
  all_goals
    go_wp2
    all_goals first
      | exact HQ.out _ _ _ ⟨rfl, rfl, ⟨rfl, rfl, rfl, rfl, rfl, rfl, trivial⟩⟩ (.inl rfl) (heap_setCell_same _ _ _ _ _ _ RH.out) ((Kp.refl [bh] _).setCell (p := ⟨bh, ix, none⟩) (.inl (by simp)) _).drew
      | exact HQ.out _ _ _ ⟨rfl, rfl, ⟨rfl, rfl, rfl, rfl, rfl, rfl, trivial⟩⟩ (.inr ⟨by omega, rfl⟩) (heap_setCell_same _ _ _ _ _ _ RH.out) ((Kp.refl [bh] _).setCell (p := ⟨bh, ix, none⟩) (.inl (by simp)) _).drew
set_option maxHeartbeats 4000000 in
theorem gv_p7' {R : Act → World → Prop} {v : Value} (r2 : wt.heap[q2]? = some (.cells #[.pointer (some ⟨bh, ix, none⟩)] 33 (0, 0))) (rh : wt.heap[bh]? = some (.cells cur 34 (0, 0))) (co : cur[ix]? = some v) (hq : Qh wt v xs) (hn : xs.length ≤ 100000) (hx0 : x 0 = .iface 107 (.pointer (some ⟨m, 0, none⟩))) (hx1 : x 1 = .pointer (some ⟨q1, 0, none⟩)) (hx2 : x 2 = .pointer (some ⟨q2, 0, none⟩)) (hx3 : x 3 = .pointer (some ⟨bl, 0, none⟩)) (hx5 : x 5 = .int .i64 k) (hx6 : x 6 = .int .i64 v6) (hx7 : x 7 = .int .i64 v7)
    (hQ : ∀ a' w' v', FrN 73 [(0, .iface 107 (.pointer (some ⟨m, 0, none⟩))), (1, .pointer (some ⟨q1, 0, none⟩)), (2, .pointer (some ⟨q2, 0, none⟩)), (3, .pointer (some ⟨bl, 0, none⟩)), (5, .int .i64 k)] a' → w'.heap[bh]? = some (.cells (cur.setIfInBounds ix v') 34 (0, 0)) → Qh w' v' (xs ++ [(v7, v6)]) → Kp (bh :: blk v) wt w' → (∀ b ∈ blk v', b ∈ blk v ∨ wt.heap.size ≤ b) → R a' w') : (gvC7 Try.f9).wp Try.prog (normQ R) ⟨T73 x, []⟩ wt := by
  have HQ := Lib.hid hQ
  obtain ⟨oo, oc, rfl⟩ := hq.form
  have c2 := cell_of_row r2 0
  have ch : wt.cell? ⟨bh, ix, none⟩ = some (.slice oo xs.length oc) := (cell_of_row rh ix).trans co
  have fh := free_of_row rh ix
  simp only [gqA, gqZ] at c2
  have RH := Lib.hid rh
  have R2 := Lib.hid r2
  have HQH := Lib.hid hq
  have HN := Lib.hid hn
  have nq2 : Hid (q2 ∉ blk (.slice oo xs.length oc)) := Lib.hid (hq.nin r2 (by decide))
  have nqh : Hid (bh ∉ blk (.slice oo xs.length oc)) := Lib.hid (hq.nin rh (by decide))
  have n2h : Hid (q2 ≠ bh) := Lib.hid (ne_types r2 rh (by decide))
  have ka : Kp [] wt (wt.alloc (.cells #[.int .i64 v7, .int .i64 v6] 44)) := (Kp.refl _ _).alloc _
  have c2a := cell_of_row (ka.row (by simp) r2) 0
  have cha := (cell_of_row (ka.row (by simp) rh) ix).trans co
  have la := heap_alloc_new wt (.cells #[.int .i64 v7, .int .i64 v6] 44)
  have la0 := cell_of_row la 0
  have la1 := cell_of_row la 1
  simp only [gqA, gqZ, gqS] at c2a la0 la1
  clear ka la
  clear hQ r2 rh co hq hn
  simp only [gvC7, gvA, gvB, gvX, condA, bodyOf, Try.f9, codeL, codeR, blockOf, loopOf, Option.getD_some, T73]
  simp only [hx0, hx1, hx2, hx3, hx5, hx6, hx7]
  go_region_law (
    (refine step_pushH (x := (v7, v6)) (xs := xs) rfl (.tmp 48) (.tmp 52) rfl rfl rfl (HQH.out.keep (S := []) (by first | exact (Kp.refl _ _).alloc _ | exact ((Kp.refl _ _).drew).alloc _ | exact ((Kp.refl _ _).alloc _).drew) (by simp)) HN.out (by simp) (by simp [Addr.add]) ?_
     intro v' w4 hq4 hk4 hn4
     obtain ⟨ao4, cp4, rfl⟩ := hq4.form
     simp only [List.length_append, List.length_singleton] at hq4 hn4 ⊢
     have kk : Kp (blk (.slice oo xs.length oc)) wt w4 := Kp.trans (Kp.mono (S := []) (by first | exact (Kp.refl _ _).alloc _ | exact ((Kp.refl _ _).drew).alloc _ | exact ((Kp.refl _ _).alloc _).drew) (by simp)) hk4
     have rh4 := kk.row nqh.out RH.out
     have ch4 := (cell_of_row rh4 ix).trans ((cell_of_row RH.out ix).symm.trans ch)
     have fh4 := free_of_row rh4 ix
     have c24 := cell_of_row (kk.row nq2.out R2.out) 0
     simp only [gqA, gqZ] at c24
     have HQ4 := Lib.hid hq4
     have K4 := Lib.hid kk
     have RH4 := Lib.hid rh4
     have HN4 : Hid (∀ b ∈ blk (.slice ao4 (xs.length + 1) cp4), b ∈ blk (.slice oo xs.length oc) ∨ wt.heap.size ≤ b) := Lib.hid fun b hb => (hn4 b hb).imp id (fun h => Nat.le_trans (Kp.size (S := []) (by first | exact (Kp.refl _ _).alloc _ | exact ((Kp.refl _ _).drew).alloc _ | exact ((Kp.refl _ _).alloc _).drew)) h)
     clear hq4 hk4 hn4 kk rh4))
  all_goals
    go_wp2
    have rh5 := heap_setCell_same _ bh ix _ _ (.slice ao4 (xs.length + 1) cp4) RH4.out
    have k5 : Kp [bh] w4 (w4.setCell ⟨bh, ix, none⟩ (.slice ao4 (xs.length + 1) cp4)) := (Kp.refl _ _).setCell (.inl (by simp)) _
    have hq5 := HQ4.out.keep k5 (fun b hb hb' => HQ4.out.nin RH4.out (by decide) (by simp at hb'; exact hb' ▸ hb))
    have k6 : Kp (bh :: blk (.slice oo xs.length oc)) wt (w4.setCell ⟨bh, ix, none⟩ (.slice ao4 (xs.length + 1) cp4)) := (K4.out.mono (fun b hb _ => by simp [hb])).trans (k5.mono (by simp))
    have kd : ∀ W : World, Kp [] W W.drew := fun W => (Kp.refl _ _).drew
    first
      | exact HQ.out _ _ _ ⟨rfl, rfl, ⟨rfl, rfl, rfl, rfl, rfl, trivial⟩⟩ rh5 hq5 k6 HN4.out
      | exact HQ.out _ _ _ ⟨rfl, rfl, ⟨rfl, rfl, rfl, rfl, rfl, trivial⟩⟩ rh5 (hq5.keep (kd _) (by simp)) (k6.trans ((kd _).mono (by simp))) HN4.out
end
end Go.Proofs.Ytnbaiinhalplcaa

namespace Go.Proofs.Ytnbaiinhalplcaa
set_option linter.unusedVariables false
set_option linter.unusedSimpArgs false
set_option maxRecDepth 100000
open Go.RowKit
open Go.Conc
open Go.ConcN (upd_ne upd_same)

/-- What came in is as it was. -/
def poorlessW (W : World) (b : Nat) : Prop := b < W.heap.size ∧ poor W.heap[b]? = false
def InW (W w : World) : Prop := ∀ b, poorlessW W b → w.heap[b]? = W.heap[b]?
def gvSB (W : World) (bh bl b : Nat) : Prop := b = bh ∨ b = bl ∨ poorlessW W b
/-- What all share. -/
structure gvSh (W : World) (bh bl M TT GG nn : Nat) (col : Nat → Col) (w : World) (g : Hands) : Prop where
  sb : ∀ b, gvSB W bh bl b → col b = .shared
  lay : w.heap[bl]? = some (.cells #[.int .i64 TT, .int .i64 GG, .int .i64 nn] 27 (0, 0))
  inw : InW W w
  rows : ∃ vs : Nat → Value, w.heap[bh]? = some (.cells ((List.range M).map vs).toArray 34 (0, 0)) ∧ (∀ i, i < M → Qh w (vs i) (g i) ∧ ∀ b ∈ blk (vs i), col b = .shared ∧ W.heap.size ≤ b) ∧ ∀ i j, i < M → j < M → i ≠ j → ∀ b ∈ blk (vs i), b ∉ blk (vs j)
theorem gv_shar (W : World) (bh bl M TT GG nn : Nat) : Shar (gvSh W bh bl M TT GG nn) where
  st := by
    intro g col col' w w' h hb hc
    obtain ⟨vs, h1, h2, h3⟩ := h.rows
    refine ⟨fun b hs => hc b (h.sb b hs), (hb bl (h.sb bl (.inr (.inl rfl)))).trans h.lay, fun b hp => (hb b (h.sb b (.inr (.inr hp)))).trans (h.inw b hp), vs, (hb bh (h.sb bh (.inl rfl))).trans h1, fun i hi => ⟨(h2 i hi).1.same fun b hb' => hb b ((h2 i hi).2 b hb').1, fun b hb' => ⟨hc b ((h2 i hi).2 b hb').1, ((h2 i hi).2 b hb').2⟩⟩, h3⟩
theorem row_set (M : Nat) (vs : Nat → Value) (i : Nat) (v : Value) : ((List.range M).map vs).toArray.setIfInBounds i v = ((List.range M).map fun j => if j = i then v else vs j).toArray := by
  apply Array.ext'
  apply List.ext_getElem (by simp)
  intro j h1 h2
  simp only [Array.toList_setIfInBounds, List.getElem_set, List.getElem_map, List.getElem_range]
  by_cases e : i = j
  · subst e; simp
  · rw [if_neg e, if_neg (fun z => e z.symm)]
/-- One agent's hands have become others: its row of hands, and the blocks that it has made. -/
theorem gvSh.turn {W : World} {bh bl M TT GG nn ix : Nat} {col col' : Nat → Col} {w w' : World} {g : Hands} {vs : Nat → Value} {v' : Value} {l : List (Int × Int)}
    (h : gvSh W bh bl M TT GG nn col w g) (hix : ix < M) (r1 : w.heap[bh]? = some (.cells ((List.range M).map vs).toArray 34 (0, 0))) (r2 : ∀ i, i < M → Qh w (vs i) (g i) ∧ ∀ b ∈ blk (vs i), col b = .shared ∧ W.heap.size ≤ b) (hWw : W.heap.size ≤ w.heap.size) (r3 : ∀ i j, i < M → j < M → i ≠ j → ∀ b ∈ blk (vs i), b ∉ blk (vs j))
    (k : Ks (fun b => b = bh ∨ b ∈ blk (vs ix)) w w') (hbl : bl ≠ bh) (hW : ¬ poorlessW W bh) (hvW : ∀ b ∈ blk (vs ix), ¬ poorlessW W b ∧ b ≠ bl ∧ b ≠ bh) (hlt : ∀ b, col b = .shared → b < w.heap.size)
    (hr : w'.heap[bh]? = some (.cells (((List.range M).map vs).toArray.setIfInBounds ix v') 34 (0, 0))) (hq : Qh w' v' l) (hb : ∀ b ∈ blk v', b ∈ blk (vs ix) ∨ w.heap.size ≤ b) (hc : ∀ b, col b = .shared → col' b = .shared) (hn : ∀ b ∈ blk v', w.heap.size ≤ b → col' b = .shared) :
    gvSh W bh bl M TT GG nn col' w' (setHs ix l g) := by
  refine ⟨fun b hs => hc b (h.sb b hs), k.row (fun z => ?_) h.lay, fun b hp => ?_, fun j => if j = ix then v' else vs j, by rw [← row_set]; exact hr, fun i hi => ?_, fun i j hi hj hij b hbi hbj => ?_⟩
  · rcases z with z | z
    · exact hbl z
    · exact (hvW _ z).2.1 rfl
  · refine (k.block b (hlt b (h.sb b (.inr (.inr hp)))) fun z => ?_).trans (h.inw b hp)
    rcases z with z | z
    · exact hW (z ▸ hp)
    · exact (hvW _ z).1 hp
  · by_cases e : i = ix
    · subst e
      simp only [if_true, setHs]
      refine ⟨hq, fun b hb' => ?_⟩
      rcases hb b hb' with z | z
      · exact ⟨hc b ((r2 i hi).2 b z).1, ((r2 i hi).2 b z).2⟩
      · exact ⟨hn b hb' z, Nat.le_trans hWw z⟩
    · simp only [if_neg e, setHs]
      refine ⟨(r2 i hi).1.same fun b hb' => k.block b (hlt b ((r2 i hi).2 b hb').1) fun z => ?_, fun b hb' => ⟨hc b ((r2 i hi).2 b hb').1, ((r2 i hi).2 b hb').2⟩⟩
      rcases z with z | z
      · subst z
        obtain ⟨cur, hcur⟩ := (r2 i hi).1.block _ hb'
        rw [r1] at hcur
        simp at hcur
      · exact r3 i ix hi hix e b hb' z
  · simp only at hbi hbj
    by_cases e : i = ix
    · subst e
      simp only [if_true] at hbi
      rw [if_neg (fun z => hij z.symm)] at hbj
      rcases hb b hbi with z | z
      · exact r3 i j hi hj hij b z hbj
      · have := hlt b ((r2 j hj).2 b hbj).1; omega
    · rw [if_neg e] at hbi
      by_cases e2 : j = ix
      · subst e2
        simp only [if_true] at hbj
        rcases hb b hbj with z | z
        · exact r3 i j hi hj hij b hbi z
        · have := hlt b ((r2 i hi).2 b hbi).1; omega
      · rw [if_neg e2] at hbj
        exact r3 i j hi hj hij b hbi hbj

theorem priv_qh (v : Value) (xs : List (Int × Int)) : Priv (fun b => b ∈ blk v) (fun w => Qh w v xs) := by
  refine ⟨fun w w' h hb => h.same hb, fun w b h hb => ?_, fun w b h hb => ?_⟩
  · obtain ⟨cur, hc⟩ := h.block b hb
    exact rich_cells hc
  · obtain ⟨cur, hc⟩ := h.block b hb
    exact lt_of_block hc
/-- What an agent of law 14 holds. -/
def OnG (a : Ag) (b1 b2 q1 q2 ba ob K cp bh ix : Nat) (w : World) : Prop := (w.heap[q1]? = some (.cells #[.slice (some ⟨ba, ob, none⟩) K cp] 23 (0, 0)) ∧ w.heap[q2]? = some (.cells #[.pointer (some ⟨bh, ix, none⟩)] 33 (0, 0))) ∧ Boxed a b1 b2 w
def onGown (b1 b2 q1 q2 : Nat) (b : Nat) : Prop := (b = q1 ∨ b = q2) ∨ (b = b1 ∨ b = b2)
theorem priv_og (a : Ag) (b1 b2 q1 q2 ba ob K cp bh ix : Nat) : Priv (onGown b1 b2 q1 q2) (OnG a b1 b2 q1 q2 ba ob K cp bh ix) := ((Priv.row _ _ _ _).and (Priv.row _ _ _ _)).and (priv_boxed a b1 b2)
/-- The acts that came in. -/
def ActsIn (W : World) (ba ob : Nat) (l : List Int) : Prop := poorlessW W ba ∧ ∀ k, k < l.length → W.cell? ⟨ba, ob + k, none⟩ = some (.int .u8 (l.getD k 0)) ∧ 0 ≤ l.getD k 0 ∧ l.getD k 0 < 256
theorem ActsIn.at {W w : World} {ba ob k : Nat} {l : List Int} (h : ActsIn W ba ob l) (hw : InW W w) (hk : k < l.length) : w.cell? ⟨ba, ob + k, none⟩ = some (.int .u8 (l.getD k 0)) := by
  have := (h.2 k hk).1
  have e := hw ba h.1
  simp only [World.cell?] at this ⊢
  rw [e]; exact this
end Go.Proofs.Ytnbaiinhalplcaa

namespace Go.Proofs.Ytnbaiinhalplcaa
set_option linter.unusedVariables false
set_option linter.unusedSimpArgs false
set_option maxRecDepth 100000
open Go.RowKit
open Go.Conc
open Go.ConcN (upd_ne upd_same)

section
variable {N : Nat} {TT' : (Nat → Value) → Array Value} {G : Type} {Post : Value → World → Prop} {Sh : (Nat → Col) → World → G → Prop} {SB : Nat → Prop} {pA rA : Nat} {a : Ag} {mv : Value} {home : Goroutine → Prop} {n : Nat} {T : Tree G} {runs ov : Bool}
variable {pl : Nat → Option Place} {F : Nat → Option (Nat × Nat)} {col : Nat → Col} {w : World} {g g' : G}
/-- A piece of an agent's that turns nothing. -/
theorem Acts.still (HT : ShapeN N TT') (hSh : Shar Sh) (hA : Acts SB pA rA a mv home runs ov pl F col w) {own : Nat → Prop} {A : World → Prop} (hown : ∀ b, own b → col b = .ag a.j) (hP : Priv own A) (hAw : A w) (hs : Sh col w g) (K : Kont Post Sh SB pA rA a mv home n T pl F col w g') {KL : List (Nat × Value)}
    {b : Frame} {x : Nat → Value} {k : List Item} {cs : List Frame} {c : Code} (hok : StOK Try.prog (b.at ⟨TT' x, []⟩ (.code c :: k)) [])
    (hc : ∀ (wt : World) (Q : Exit → Act → World → Prop), A wt → (∀ ad, wt.cell? ad = w.cell? ad) → (∀ a', FrN N KL a' → Q .normal a' wt) → c.wp Try.prog Q ⟨TT' x, []⟩ wt)
    (H : ∀ (x1 : Nat → Value) col1 w1, HasN x1 KL → Acts SB pA rA a mv home runs ov pl F col1 w1 → (∀ b, own b → col1 b = .ag a.j) → A w1 → Sh col1 w1 g → Kont Post Sh SB pA rA a mv home n T pl F col1 w1 g' → Win Try.prog Post pl n a.j (gor (b.at ⟨TT' x1, []⟩ k) cs) w1) :
    Win Try.prog Post pl n a.j (gor (b.at ⟨TT' x, []⟩ (.code c :: k)) cs) w :=
  hA.pieceN HT (own := own) (S := fun _ => False) hP hAw (fun b hb => .inl (hown b hb)) (fun b hb => hb.elim) (ι := Unit) (own' := fun _ => own) (A' := fun _ => A) (fun _ => hP) (K' := fun _ => KL) (fun _ _ => False) hok (fun wt Q hAt hz hcell hQ => hc wt Q hAt hcell fun a' hf => hQ a' () _ (fun y hy => .inl hy) hf hAt (Ks.refl _ _))
    fun x1 _ w1 _ hx1 hB1 k1 hA1 hM1 => H x1 _ w1 hx1 hA1 (fun b hb => (grownS_keep hA.lay (by rw [hown b hb]; simp)).trans (hown b hb)) hB1 (hSh.plainS hA.lay hs k1 (fun b hb => hb.elim)) (K.moves hM1)
end

section
variable {Post : Value → World → Prop} {W : World} {pA rA bh bl M TT GG nn ix b1 b2 q1 q2 ba ob K cp k : Nat} {a : Ag} {mv : Value} {home : Goroutine → Prop} {n : Nat} {T : Tree Hands} {gf : FuncId} {cap args : Array Value}
variable {pl : Nat → Option Place} {F : Nat → Option (Nat × Nat)} {col : Nat → Col} {w : World} {g g' : Hands} {x : Nat → Value}

/-- The program's end: no act is left. -/
theorem gv_done (hk : k = K) (hx : HasN x [(0, .iface 107 (.pointer (some ⟨a.m, 0, none⟩))), (1, .pointer (some ⟨q1, 0, none⟩)), (2, .pointer (some ⟨q2, 0, none⟩)), (3, .pointer (some ⟨bl, 0, none⟩)), (5, .int .i64 k)])
    (hA : Acts (gvSB W bh bl) pA rA a mv home true false pl F col w) (hown : ∀ b, onGown b1 b2 q1 q2 b → col b = .ag a.j) (hAw : OnG a b1 b2 q1 q2 ba ob K cp bh ix w) (hs : gvSh W bh bl M TT GG nn col w g)
    (K0 : Kont Post (gvSh W bh bl M TT GG nn) (gvSB W bh bl) pA rA a mv home n .ret pl F col w g) :
    Win Try.prog Post pl n a.j (gor ((Frame.enter Try.prog 9 args .normal).at ⟨T73 x, []⟩ [.code (gvX Try.f9), .inLoop (gvX Try.f9), .inBlock 0]) [runFr Try.prog Try.f31 a.p a.m b1 b2 gf cap, rootFr Try.prog]) w := by
  have hSh := gv_shar W bh bl M TT GG nn
  rw [gv_e1]
  refine Win.seq ?_
  refine Win.seq ?_
  refine hA.still T73_shape hSh hown (priv_og _ _ _ _ _ _ _ _ _ _ _) hAw hs K0 (stok_at rfl rfl (by simp) (by kernel_rfl)) (fun wt Q hAt hcell hQ => gv_p1 (by exact cell_of_row hAt.1.1 0) hx.1 hx.2.1 hx.2.2.1 hx.2.2.2.1 hx.2.2.2.2.1 hQ) fun x1 col1 w1 hx1 hA1 hown1 hB1 hs1 K1 => ?_
  have h13 : x1 13 = .bool false := hx1.2.2.2.2.2.1.trans (by rw [decide_eq_false (by omega)])
  refine Win.cond (t := false) (by simp only [Act.eval, T73]; exact h13) ?_
  simp only [if_false, Bool.false_eq_true]
  refine Win.exit (k' := []) rfl ?_
  refine Win.falls ?_
  refine Win.leave (v := .tuple #[]) rfl rfl rfl Try.func9 (fun d => ⟨#[], by rw [Sem.runT_eq]; simp [go_sem, results, Try.f9], fun e he => by simp at he⟩) ?_
  exact ret_out hA1.ends hB1.2 hs1 hSh K1

/-- A round's end: one act less is left. -/
theorem gv_next (hk : k < 64) (hx : HasN x [(0, .iface 107 (.pointer (some ⟨a.m, 0, none⟩))), (1, .pointer (some ⟨q1, 0, none⟩)), (2, .pointer (some ⟨q2, 0, none⟩)), (3, .pointer (some ⟨bl, 0, none⟩)), (5, .int .i64 k)])
    (hA : Acts (gvSB W bh bl) pA rA a mv home true false pl F col w) (hown : ∀ b, onGown b1 b2 q1 q2 b → col b = .ag a.j) (hAw : OnG a b1 b2 q1 q2 ba ob K cp bh ix w) (hs : gvSh W bh bl M TT GG nn col w g)
    (K0 : Kont Post (gvSh W bh bl M TT GG nn) (gvSB W bh bl) pA rA a mv home n T pl F col w g')
    (H : ∀ x col w, HasN x [(0, .iface 107 (.pointer (some ⟨a.m, 0, none⟩))), (1, .pointer (some ⟨q1, 0, none⟩)), (2, .pointer (some ⟨q2, 0, none⟩)), (3, .pointer (some ⟨bl, 0, none⟩)), (5, .int .i64 ((k + 1 : Nat) : Int))] → Acts (gvSB W bh bl) pA rA a mv home true false pl F col w → (∀ b, onGown b1 b2 q1 q2 b → col b = .ag a.j) → OnG a b1 b2 q1 q2 ba ob K cp bh ix w → gvSh W bh bl M TT GG nn col w g → Kont Post (gvSh W bh bl M TT GG nn) (gvSB W bh bl) pA rA a mv home n T pl F col w g' →
      Win Try.prog Post pl n a.j (gor ((Frame.enter Try.prog 9 args .normal).at ⟨T73 x, []⟩ [.code (gvX Try.f9), .inLoop (gvX Try.f9), .inBlock 0]) [runFr Try.prog Try.f31 a.p a.m b1 b2 gf cap, rootFr Try.prog]) w) :
    Win Try.prog Post pl n a.j (gor ((Frame.enter Try.prog 9 args .normal).at ⟨T73 x, []⟩ [.code (gvC2 Try.f9), .inLoop (gvX Try.f9), .inBlock 0]) [runFr Try.prog Try.f31 a.p a.m b1 b2 gf cap, rootFr Try.prog]) w := by
  have hSh := gv_shar W bh bl M TT GG nn
  refine hA.still T73_shape hSh hown (priv_og _ _ _ _ _ _ _ _ _ _ _) hAw hs K0 (stok_at rfl rfl (by simp) (by kernel_rfl)) (fun wt Q hAt hcell hQ => gv_p2 hk hx.1 hx.2.1 hx.2.2.1 hx.2.2.2.1 hx.2.2.2.2.1 hQ) fun x1 col1 w1 hx1 hA1 hown1 hB1 hs1 K1 => ?_
  refine Win.inLoop ?_
  exact H x1 col1 w1 hx1 hA1 hown1 hB1 hs1 K1
end
end Go.Proofs.Ytnbaiinhalplcaa

namespace Go.Proofs.Ytnbaiinhalplcaa
open List renaming getElem_toArray → gtA, getElem_cons_zero → gtZ, getElem_cons_succ → gtS, setIfInBounds_toArray → siA, set_cons_succ → scS, set_cons_zero → scZ, getElem?_toArray → gqA, getElem?_cons_zero → gqZ, getElem?_cons_succ → gqS
set_option linter.unusedVariables false
set_option linter.unusedSimpArgs false
set_option maxRecDepth 100000
open Go.RowKit
open Go.Conc
open Go.ConcN (upd_ne upd_same)

section
variable {Post : Value → World → Prop} {W : World} {pA rA bh bl M TT GG nn ix b1 b2 q1 q2 ba ob K cp k : Nat} {a : Ag} {mv : Value} {home : Goroutine → Prop} {n : Nat} {T : Tree Hands} {gf : FuncId} {cap args : Array Value}
variable {pl : Nat → Option Place} {F : Nat → Option (Nat × Nat)} {col : Nat → Col} {w : World} {g g' : Hands} {x : Nat → Value}

set_option maxHeartbeats 4000000 in
/-- From the Claim's call to what is done with its answer. -/
theorem gv_ask (hmv : mv = memV pA) {r' : Int} (h1 : 1 ≤ r') (h3 : r' ≤ 3) {st : Hands → Hands} {tr : Hands → Tree Hands} (hx : HasN x [(0, .iface 107 (.pointer (some ⟨a.m, 0, none⟩))), (1, .pointer (some ⟨q1, 0, none⟩)), (2, .pointer (some ⟨q2, 0, none⟩)), (3, .pointer (some ⟨bl, 0, none⟩)), (5, .int .i64 k), (6, .int .i64 r')])
    (hA : Acts (gvSB W bh bl) pA rA a mv home true false pl F col w) (hown : ∀ b, onGown b1 b2 q1 q2 b → col b = .ag a.j) (hAw : OnG a b1 b2 q1 q2 ba ob K cp bh ix w) (hs : gvSh W bh bl M TT GG nn col w g)
    (K0 : Kont Post (gvSh W bh bl M TT GG nn) (gvSB W bh bl) pA rA a mv home n (.node 0 (fun v => (mapN r' v : Nat)) (fun v g => st (clmG ix r' v g)) (fun v g => tr (clmG ix r' v g)) (fun g => g) (fun g => (g ix).length ≤ 20)) pl F col w g) {KI : List Item}
    (H : ∀ v (x : Nat → Value) home n pl F col w g, HasN x [(0, .iface 107 (.pointer (some ⟨a.m, 0, none⟩))), (1, .pointer (some ⟨q1, 0, none⟩)), (2, .pointer (some ⟨q2, 0, none⟩)), (3, .pointer (some ⟨bl, 0, none⟩)), (5, .int .i64 k), (6, .int .i64 r'), (7, .int .i64 (atI r' v)), (8, .bool (okI r' v))] → (g ix).length ≤ 20 → Acts (gvSB W bh bl) pA rA a mv home true false pl F col w → (∀ b, onGown b1 b2 q1 q2 b → col b = .ag a.j) → OnG a b1 b2 q1 q2 ba ob K cp bh ix w → gvSh W bh bl M TT GG nn col w g → Kont Post (gvSh W bh bl M TT GG nn) (gvSB W bh bl) pA rA a mv home n (tr (clmG ix r' v g)) pl F col w (st (clmG ix r' v g)) → Win Try.prog Post pl n a.j (gor ((Frame.enter Try.prog 9 args .normal).at ⟨T73 x, []⟩ KI) [runFr Try.prog Try.f31 a.p a.m b1 b2 gf cap, rootFr Try.prog]) w) :
    Win Try.prog Post pl n a.j (gor ((Frame.enter Try.prog 9 args .normal).at ⟨T73 x, []⟩ (.code (gvC5 Try.f9) :: KI)) [runFr Try.prog Try.f31 a.p a.m b1 b2 gf cap, rootFr Try.prog]) w := by
  have hSh := gv_shar W bh bl M TT GG nn
  have hb : (Frame.enter Try.prog 9 args .normal).kind = .normal := rfl
  obtain ⟨y0, y1, y2, y3, y5, y6, _⟩ := hx
  simp only at y0 y1 y2 y3 y5 y6
  have z0 := cell_of_row hs.lay 0
  have z1 := cell_of_row hs.lay 1
  have z2 := cell_of_row hs.lay 2
  simp only [gvC5, gvA, gvB, gvX, condA, bodyOf, Try.f9, codeL, codeR, blockOf, loopOf, Option.getD_some, T73]
  simp only [y0, y1, y2, y3, y5, y6]
  refine Win.region ?_
  simp only [List.size_toArray, List.length_cons, List.length_nil, Nat.reduceAdd, List.range, List.range.loop]
  refine Win.pureOp (v := .iface 107 (.pointer (some ⟨a.m, 0, none⟩))) (.inl hb) rfl rfl (fun w => rfl) ?_
  simp only [Act.put, Act.eval, gqA, gqZ, gqS, Option.bind_some, gtA, gtZ, gtS, siA, scS, scZ]
  refine Win.op (v := .agg #[.int .i64 TT, .int .i64 GG, .int .i64 nn]) (.inl hb) rfl rfl (fun d => ⟨#[⟨.cell ⟨bl, 0, none⟩, false, false⟩, ⟨.cell ⟨bl, 1, none⟩, false, false⟩, ⟨.cell ⟨bl, 2, none⟩, false, false⟩], by rw [Sem.runT_eq]; have hc0 : (World.at w d).cell? ⟨bl, 0, none⟩ = _ := z0; have hc1 : (World.at w d).cell? ⟨bl, 1, none⟩ = _ := z1; have hc2 : (World.at w d).cell? ⟨bl, 2, none⟩ = _ := z2; generalize World.at w d = W' at hc0 hc1 hc2 ⊢; simp [go_sem, execOp, Act.eval, hc0, hc1, hc2], fun e he => by simp at he; rcases he with rfl | rfl | rfl <;> exact ⟨rfl, fun m => by simp⟩⟩) ?_
  simp only [Act.put, Act.eval, gqA, gqZ, gqS, Option.bind_some, gtA, gtZ, gtS, siA, scS, scZ]
  refine Win.pureOp (v := .int .i64 r') (.inl hb) rfl rfl (fun w => rfl) ?_
  simp only [Act.put, Act.eval, gqA, gqZ, gqS, Option.bind_some, gtA, gtZ, gtS, siA, scS, scZ]
  refine Win.enter (f := 10) (args := #[.iface 107 (.pointer (some ⟨a.m, 0, none⟩)), .agg #[.int .i64 TT, .int .i64 GG, .int .i64 nn], .int .i64 r']) (.inl hb) rfl rfl (fun d => ⟨#[], call_enter mild.toMild Try.func10 rfl rfl rfl rfl _ _ (by simp [Act.eval]), fun e he => by simp at he⟩) ?_
  refine claim_in (own := onGown b1 b2 q1 q2) (A := OnG a b1 b2 q1 q2 ba ob K cp bh ix) hSh hmv h1 h3 hA hown (priv_og _ _ _ _ _ _ _ _ _ _ _) hAw hs (fun v h0 hv home n pl' F' col' w' g hA' hown' hB' hs' hp' K' => ?_) (fun home n pl' F' col' w' g hE hown' hB' hs' hp' K' => ?_) K0
  · rw [Frame.finish_at]
    simp only [Act.put, Act.eval, gqA, gqZ, gqS, Option.bind_some, gtA, gtZ, gtS, siA, scS, scZ]
    refine Win.pureOp (v := .tuple #[.int .i64 (atI r' v), .bool (okI r' v)]) (.inl hb) rfl rfl (fun w => rfl) ?_
    simp only [Act.put, Act.eval, gqA, gqZ, gqS, Option.bind_some, gtA, gtZ, gtS, siA, scS, scZ]
    refine Win.pureOp (v := .int .i64 (atI r' v)) (.inl hb) rfl rfl (fun w => by rw [Sem.runT_eq]; simp [go_sem, execOp, Act.eval]; try (first | omega | rfl | exact ⟨rfl, rfl⟩ | kernel_rfl)) ?_
    simp only [Act.put, Act.eval, gqA, gqZ, gqS, Option.bind_some, gtA, gtZ, gtS, siA, scS, scZ]
    refine Win.pureOp (v := .bool (okI r' v)) (.inl hb) rfl rfl (fun w => by rw [Sem.runT_eq]; simp [go_sem, execOp, Act.eval]; try (first | omega | rfl | exact ⟨rfl, rfl⟩ | kernel_rfl)) ?_
    simp only [Act.put, Act.eval, gqA, gqZ, gqS, Option.bind_some, gtA, gtZ, gtS, siA, scS, scZ]
    refine Win.pureOp (v := .int .i64 (atI r' v)) (.inl hb) rfl rfl (fun w => rfl) ?_
    simp only [Act.put, Act.eval, gqA, gqZ, gqS, Option.bind_some, gtA, gtZ, gtS, siA, scS, scZ]
    refine Win.pureOp (v := .bool (okI r' v)) (.inl hb) rfl rfl (fun w => rfl) ?_
    simp only [Act.put, Act.eval, gqA, gqZ, gqS, Option.bind_some, gtA, gtZ, gtS, siA, scS, scZ]
    refine Win.opsEnd ?_
    exact win_slotsN T73_shape (K := [(0, .iface 107 (.pointer (some ⟨a.m, 0, none⟩))), (1, .pointer (some ⟨q1, 0, none⟩)), (2, .pointer (some ⟨q2, 0, none⟩)), (3, .pointer (some ⟨bl, 0, none⟩)), (5, .int .i64 k), (6, .int .i64 r'), (7, .int .i64 (atI r' v)), (8, .bool (okI r' v))]) rfl ⟨rfl, rfl, rfl, rfl, rfl, rfl, rfl, rfl, trivial⟩ fun x3 hx3 => H v x3 home n pl' F' col' w' g hx3 hp' hA' hown' hB' hs' K'
  · exact halt_out hE hB'.2 hs' hSh rfl (by kernel_rfl) K'
end
end Go.Proofs.Ytnbaiinhalplcaa

namespace Go.Proofs.Ytnbaiinhalplcaa
set_option linter.unusedVariables false
set_option linter.unusedSimpArgs false
set_option maxRecDepth 100000
open Go.RowKit
open Go.Conc
open Go.ConcN (upd_ne upd_same)

section
variable {Post : Value → World → Prop} {W : World} {pA rA bh bl M TT GG nn ix b1 b2 q1 q2 ba ob K cp k : Nat} {a : Ag} {mv : Value} {home : Goroutine → Prop} {n : Nat} {T : Tree Hands} {gf : FuncId} {cap args : Array Value}
variable {pl : Nat → Option Place} {F : Nat → Option (Nat × Nat)} {col : Nat → Col} {w : World} {g g' : Hands} {x : Nat → Value}

set_option maxHeartbeats 4000000 in
theorem gv_told {v r' : Int} (hix : ix < M) (hWb : W.heap.size ≤ bh) (hWw : W.heap.size ≤ w.heap.size) {st : Hands → Hands} {tr : Hands → Tree Hands} (hx : HasN x [(0, .iface 107 (.pointer (some ⟨a.m, 0, none⟩))), (1, .pointer (some ⟨q1, 0, none⟩)), (2, .pointer (some ⟨q2, 0, none⟩)), (3, .pointer (some ⟨bl, 0, none⟩)), (5, .int .i64 k), (6, .int .i64 r'), (7, .int .i64 (atI r' v)), (8, .bool (okI r' v))]) (hlen : (g ix).length ≤ 20)
    (hA : Acts (gvSB W bh bl) pA rA a mv home true false pl F col w) (hown : ∀ b, onGown b1 b2 q1 q2 b → col b = .ag a.j) (hAw : OnG a b1 b2 q1 q2 ba ob K cp bh ix w) (hs : gvSh W bh bl M TT GG nn col w g)
    (K0 : Kont Post (gvSh W bh bl M TT GG nn) (gvSB W bh bl) pA rA a mv home n (tr (clmG ix r' v g)) pl F col w (st (clmG ix r' v g)))
    (H : ∀ (x : Nat → Value) col w g, HasN x [(0, .iface 107 (.pointer (some ⟨a.m, 0, none⟩))), (1, .pointer (some ⟨q1, 0, none⟩)), (2, .pointer (some ⟨q2, 0, none⟩)), (3, .pointer (some ⟨bl, 0, none⟩)), (5, .int .i64 k)] → Acts (gvSB W bh bl) pA rA a mv home true false pl F col w → (∀ b, onGown b1 b2 q1 q2 b → col b = .ag a.j) → OnG a b1 b2 q1 q2 ba ob K cp bh ix w → gvSh W bh bl M TT GG nn col w g → Kont Post (gvSh W bh bl M TT GG nn) (gvSB W bh bl) pA rA a mv home n (tr g) pl F col w (st g) → Win Try.prog Post pl n a.j (gor ((Frame.enter Try.prog 9 args .normal).at ⟨T73 x, []⟩ [.code (gvC2 Try.f9), .inLoop (gvX Try.f9), .inBlock 0]) [runFr Try.prog Try.f31 a.p a.m b1 b2 gf cap, rootFr Try.prog]) w) :
    Win Try.prog Post pl n a.j (gor ((Frame.enter Try.prog 9 args .normal).at ⟨T73 x, []⟩ [.code (.seq (.seq (gvC6 Try.f9) (.cond (.tmp 44) (gvC7 Try.f9) .skip)) (.exit 1)), .code (.seq (gvC8 Try.f9) (.seq (gvC9 Try.f9) (gvC10 Try.f9))), .inBlock 1, .code (gvC2 Try.f9), .inLoop (gvX Try.f9), .inBlock 0]) [runFr Try.prog Try.f31 a.p a.m b1 b2 gf cap, rootFr Try.prog]) w := by
  have hSh := gv_shar W bh bl M TT GG nn
  refine Win.seq ?_
  refine Win.seq ?_
  refine hA.still T73_shape hSh hown (priv_og _ _ _ _ _ _ _ _ _ _ _) hAw hs K0 (stok_at rfl rfl (by simp) (by kernel_rfl)) (fun wt Q hAt hcell hQ => gv_p6 (v6 := r') (v7 := atI r' v) (y := okI r' v) hx.1 hx.2.1 hx.2.2.1 hx.2.2.2.1 hx.2.2.2.2.1 hx.2.2.2.2.2.1 hx.2.2.2.2.2.2.1 hx.2.2.2.2.2.2.2.1 hQ) fun x1 col1 w1 hx1 hA1 hown1 hB1 hs1 K1 => ?_
  cases hy : okI r' v with
  | false =>
    have h44 : x1 44 = .bool false := hx1.2.2.2.2.2.2.2.1.trans (by rw [hy])
    refine Win.cond (t := false) (by simp only [Act.eval, T73]; exact h44) ?_
    simp only [if_false, Bool.false_eq_true]
    refine Win.skip ?_
    refine Win.exit (k' := [.code (gvC2 Try.f9), .inLoop (gvX Try.f9), .inBlock 0]) rfl ?_
    have e : clmG ix r' v g = g := by unfold clmG; rw [hy]; rfl
    rw [e] at K1
    exact H x1 col1 w1 g ⟨hx1.1, hx1.2.1, hx1.2.2.1, hx1.2.2.2.1, hx1.2.2.2.2.1, trivial⟩ hA1 hown1 hB1 hs1 K1
  | true =>
    have h44 : x1 44 = .bool true := hx1.2.2.2.2.2.2.2.1.trans (by rw [hy])
    refine Win.cond (t := true) (by simp only [Act.eval, T73]; exact h44) ?_
    simp only [if_true]
    have e : clmG ix r' v g = setHs ix (g ix ++ [(atI r' v, r')]) g := by unfold clmG; rw [hy]; rfl
    rw [e] at K1
    obtain ⟨vs, r1, r2, r3⟩ := hs1.rows
    obtain ⟨hq, hqb⟩ := r2 ix hix
    have hWw1 : W.heap.size ≤ w1.heap.size := Nat.le_trans (Nat.le_trans hWb (Nat.le_succ _)) (lt_of_block r1)
    have hcur : ((List.range M).map vs).toArray[ix]? = some (vs ix) := by simp [hix]
    have hlt : ∀ b, col1 b = .shared → b < w1.heap.size := fun b hb => hA1.lay.ltS hb
    refine hA1.pieceN T73_shape (own := fun b => onGown b1 b2 q1 q2 b ∨ (b = bh ∨ b ∈ blk (vs ix))) (S := fun b => b = bh ∨ b ∈ blk (vs ix)) ((priv_og a b1 b2 q1 q2 ba ob K cp bh ix).and ((Priv.row bh _ _ _).and (priv_qh (vs ix) (g ix)))) ⟨hB1, r1, hq⟩ (fun b hb => hb.elim (fun z => .inl (hown1 b z)) fun z => .inr (z.elim (fun z => z ▸ hs1.sb _ (.inl rfl)) fun z => (hqb b z).1)) (fun b z => .inr (z.elim (fun z => z ▸ hs1.sb _ (.inl rfl)) fun z => (hqb b z).1))
      (ι := Value) (own' := fun v' b => onGown b1 b2 q1 q2 b ∨ (b = bh ∨ b ∈ blk v')) (A' := fun v' w' => (OnG a b1 b2 q1 q2 ba ob K cp bh ix w' ∧ (w'.heap[bh]? = some (.cells (((List.range M).map vs).toArray.setIfInBounds ix v') 34 (0, 0)) ∧ Qh w' v' (g ix ++ [(atI r' v, r')])))) (fun v' => (priv_og a b1 b2 q1 q2 ba ob K cp bh ix).and ((Priv.row bh _ _ _).and (priv_qh v' _)))
      (K' := fun _ => [(0, .iface 107 (.pointer (some ⟨a.m, 0, none⟩))), (1, .pointer (some ⟨q1, 0, none⟩)), (2, .pointer (some ⟨q2, 0, none⟩)), (3, .pointer (some ⟨bl, 0, none⟩)), (5, .int .i64 k)]) (fun _ _ => True) (stok_at rfl rfl (by simp) (by kernel_rfl)) (fun wt Q hAt hz hcell hQ => wp_norm (gv_p7' (v6 := r') (v7 := atI r' v) hAt.1.1.2 hAt.2.1 hcur hAt.2.2 (by omega) hx1.1 hx1.2.1 hx1.2.2.1 hx1.2.2.2.1 hx1.2.2.2.2.1 hx1.2.2.2.2.2.1 hx1.2.2.2.2.2.2.1 fun a' w' v' hf hr hq' hk hb => ?_)) fun x2 v' w2 ho hx2 hB2 k2 hA2 hM2 => ?_
    · refine hQ a' v' w' (fun y hy => ?_) hf ⟨(priv_og a b1 b2 q1 q2 ba ob K cp bh ix).st _ _ hAt.1 fun b hb => hk.block b ((priv_og a b1 b2 q1 q2 ba ob K cp bh ix).lt _ _ hAt.1 hb) ?_, hr, hq'⟩ ((ks_of_kp hk).mono fun _ _ z => by simpa using z)
      · rcases hy with z | z | z
        · exact .inl (.inl z)
        · exact .inl (.inr (.inl z))
        · rcases hb y z with z' | z'
          · exact .inl (.inr (.inr z'))
          · obtain ⟨cur, hc⟩ := hq'.block y z
            exact .inr ⟨z', lt_of_block hc⟩
      · have hc := hown1 b hb
        simp only [List.mem_cons, not_or]
        refine ⟨fun z => ?_, fun z => ?_⟩
        · rw [z, hs1.sb _ (.inl rfl)] at hc; cases hc
        · rw [(hqb b z).1] at hc; cases hc
    · have hbl : bl ≠ bh := ne_types hs1.lay r1 (by decide)
      have hs2 := hs1.turn (col' := grownS a.j (fun _ => True) col1 w1 w2) (v' := v') (l := g ix ++ [(atI r' v, r')]) hix r1 r2 hWw1 r3 k2 hbl (fun z => by have := z.1; omega) (fun b hb => ⟨fun z => by have := z.1; have := (hqb b hb).2; omega, fun z => hq.nin hs1.lay (by decide) (z ▸ hb), fun z => hq.nin r1 (by decide) (z ▸ hb)⟩) hlt hB2.2.1 hB2.2.2 (fun b hb => by
          rcases ho b (.inr (.inr hb)) with z | z
          · rcases z with z | z | z
            · have hc := hown1 b z
              exact .inr (by
                obtain ⟨cur, hcc⟩ := hB2.2.2.block b hb
                rcases Nat.lt_or_ge b w1.heap.size with zz | zz
                · exfalso
                  rcases z with (z | z) | (z | z)
                  · subst z; have := hB2.1.1.1; rw [hcc] at this; simp at this
                  · subst z; have := hB2.1.1.2; rw [hcc] at this; simp at this
                  · subst z; have := hB2.1.2.1; rw [hcc] at this; simp at this
                  · subst z; have := hB2.1.2.2; rw [hcc] at this; simp at this
                · exact zz)
            · obtain ⟨cur, hcc⟩ := hB2.2.2.block b hb
              subst z; have := hB2.2.1; rw [hcc] at this; simp at this
            · exact .inl z
          · exact .inr z.1) (fun b hb => (grownS_keep hA1.lay (by rw [hb]; simp)).trans hb) (fun b hb hz => by
            obtain ⟨cur, hcc⟩ := hB2.2.2.block b hb
            exact grownS_sh hz (lt_of_block hcc) trivial)
      refine Win.exit (k' := [.code (gvC2 Try.f9), .inLoop (gvX Try.f9), .inBlock 0]) rfl ?_
      exact H x2 _ w2 _ hx2 hA2 (fun b hb => (grownS_keep hA1.lay (by rw [hown1 b hb]; simp)).trans (hown1 b hb)) hB2.1 hs2 (K1.moves hM2)
end
end Go.Proofs.Ytnbaiinhalplcaa

namespace Go.Proofs.Ytnbaiinhalplcaa
set_option linter.unusedVariables false
set_option linter.unusedSimpArgs false
set_option maxRecDepth 100000
open Go.RowKit
open Go.Conc
open Go.ConcN (upd_ne upd_same)

section
variable {Post : Value → World → Prop} {W : World} {pA rA bh bl M TT GG nn ix b1 b2 q1 q2 ba ob cp k : Nat} {a : Ag} {mv : Value} {home : Goroutine → Prop} {n : Nat} {T : Tree Hands} {gf : FuncId} {cap args : Array Value}
variable {pl : Nat → Option Place} {F : Nat → Option (Nat × Nat)} {col : Nat → Col} {w : World} {g g' : Hands} {x : Nat → Value} {l0 : List Int}
theorem gvSh.size (h : gvSh W bh bl M TT GG nn col w g) (hWb : W.heap.size ≤ bh) : W.heap.size ≤ w.heap.size := by
  obtain ⟨vs, r1, _⟩ := h.rows
  have := lt_of_block r1
  omega

set_option maxHeartbeats 4000000 in
theorem gv_claim (hmv : mv = memV pA) (hin : ActsIn W ba ob l0) (hk : k < l0.length) (hix : ix < M) (hWb : W.heap.size ≤ bh) {st : Hands → Hands} {tr : Hands → Tree Hands} (hx : HasN x [(0, .iface 107 (.pointer (some ⟨a.m, 0, none⟩))), (1, .pointer (some ⟨q1, 0, none⟩)), (2, .pointer (some ⟨q2, 0, none⟩)), (3, .pointer (some ⟨bl, 0, none⟩)), (5, .int .i64 k)])
    (hA : Acts (gvSB W bh bl) pA rA a mv home true false pl F col w) (hown : ∀ b, onGown b1 b2 q1 q2 b → col b = .ag a.j) (hAw : OnG a b1 b2 q1 q2 ba ob l0.length cp bh ix w) (hs : gvSh W bh bl M TT GG nn col w g)
    (K0 : Kont Post (gvSh W bh bl M TT GG nn) (gvSB W bh bl) pA rA a mv home n (.node 0 (fun v => (mapN (runOf (l0.getD k 0)) v : Nat)) (fun v g => st (clmG ix (runOf (l0.getD k 0)) v g)) (fun v g => tr (clmG ix (runOf (l0.getD k 0)) v g)) (fun g => g) (fun g => (g ix).length ≤ 20)) pl F col w g)
    (H : ∀ (x : Nat → Value) home n pl F col w g, HasN x [(0, .iface 107 (.pointer (some ⟨a.m, 0, none⟩))), (1, .pointer (some ⟨q1, 0, none⟩)), (2, .pointer (some ⟨q2, 0, none⟩)), (3, .pointer (some ⟨bl, 0, none⟩)), (5, .int .i64 k)] → Acts (gvSB W bh bl) pA rA a mv home true false pl F col w → (∀ b, onGown b1 b2 q1 q2 b → col b = .ag a.j) → OnG a b1 b2 q1 q2 ba ob l0.length cp bh ix w → gvSh W bh bl M TT GG nn col w g → Kont Post (gvSh W bh bl M TT GG nn) (gvSB W bh bl) pA rA a mv home n (tr g) pl F col w (st g) → Win Try.prog Post pl n a.j (gor ((Frame.enter Try.prog 9 args .normal).at ⟨T73 x, []⟩ [.code (gvC2 Try.f9), .inLoop (gvX Try.f9), .inBlock 0]) [runFr Try.prog Try.f31 a.p a.m b1 b2 gf cap, rootFr Try.prog]) w) :
    Win Try.prog Post pl n a.j (gor ((Frame.enter Try.prog 9 args .normal).at ⟨T73 x, []⟩ [.code (gvA Try.f9), .code (.seq (gvC8 Try.f9) (.seq (gvC9 Try.f9) (gvC10 Try.f9))), .inBlock 1, .code (gvC2 Try.f9), .inLoop (gvX Try.f9), .inBlock 0]) [runFr Try.prog Try.f31 a.p a.m b1 b2 gf cap, rootFr Try.prog]) w := by
  have hSh := gv_shar W bh bl M TT GG nn
  obtain ⟨_, h0, h255⟩ := hin.2 k hk
  have hcb := hin.at hs.inw hk
  have hr := runOf_in h0
  rw [gv_e3]
  refine Win.seq ?_
  refine hA.still T73_shape hSh hown (priv_og _ _ _ _ _ _ _ _ _ _ _) hAw hs K0 (stok_at rfl rfl (by simp) (by kernel_rfl)) (fun wt Q hAt hcell hQ => gv_p4 (by exact cell_of_row hAt.1.1 0) hk ((hcell _).trans hcb) h0 h255 hx.1 hx.2.1 hx.2.2.1 hx.2.2.2.1 hx.2.2.2.2.1 hQ) fun x1 col1 w1 hx1 hA1 hown1 hB1 hs1 K1 => ?_
  refine Win.seq ?_
  refine gv_ask hmv hr.1 hr.2 hx1 hA1 hown1 hB1 hs1 K1 fun v x home n pl F col w g hx2 hlen hA2 hown2 hB2 hs2 K2 => ?_
  exact gv_told hix hWb (hs2.size hWb) hx2 hlen hA2 hown2 hB2 hs2 K2 fun x col w g => H x home n pl F col w g
end
end Go.Proofs.Ytnbaiinhalplcaa

namespace Go.Proofs.Ytnbaiinhalplcaa
set_option linter.unusedVariables false
set_option linter.unusedSimpArgs false
set_option maxRecDepth 100000
open Go.RowKit
open Go.Conc
open Go.ConcN (upd_ne upd_same)

section
variable {Post : Value → World → Prop} {W : World} {pA rA bh bl M TT GG nn ix b1 b2 q1 q2 ba ob K cp k : Nat} {a : Ag} {mv : Value} {home : Goroutine → Prop} {n : Nat} {T : Tree Hands} {gf : FuncId} {cap args : Array Value}
variable {pl : Nat → Option Place} {F : Nat → Option (Nat × Nat)} {col : Nat → Col} {w : World} {g g' : Hands} {x : Nat → Value}
/-- With the hand that goes. -/
def OnH (a : Ag) (b1 b2 q1 q2 ba ob K cp bh ix s : Nat) (h : Int × Int) (w : World) : Prop := OnG a b1 b2 q1 q2 ba ob K cp bh ix w ∧ w.heap[s]? = some (.cells #[.int .i64 h.1, .int .i64 h.2] 44 (0, 0))
def onHown (b1 b2 q1 q2 s : Nat) (b : Nat) : Prop := onGown b1 b2 q1 q2 b ∨ b = s
theorem priv_oh (a : Ag) (b1 b2 q1 q2 ba ob K cp bh ix s : Nat) (h : Int × Int) : Priv (onHown b1 b2 q1 q2 s) (OnH a b1 b2 q1 q2 ba ob K cp bh ix s h) := (priv_og _ _ _ _ _ _ _ _ _ _ _).and (Priv.row _ _ _ _)

set_option maxHeartbeats 4000000 in
theorem gv_cut {h : Int × Int} {t : List (Int × Int)} (hg : g ix = h :: t) (hix : ix < M) (hWb : W.heap.size ≤ bh) {KI : List Item} (hKI : KI.all (itemOK Try.prog) = true) (hx : HasN x [(0, .iface 107 (.pointer (some ⟨a.m, 0, none⟩))), (1, .pointer (some ⟨q1, 0, none⟩)), (2, .pointer (some ⟨q2, 0, none⟩)), (3, .pointer (some ⟨bl, 0, none⟩)), (5, .int .i64 k)])
    (hA : Acts (gvSB W bh bl) pA rA a mv home true false pl F col w) (hown : ∀ b, onGown b1 b2 q1 q2 b → col b = .ag a.j) (hAw : OnG a b1 b2 q1 q2 ba ob K cp bh ix w) (hs : gvSh W bh bl M TT GG nn col w g)
    (K0 : Kont Post (gvSh W bh bl M TT GG nn) (gvSB W bh bl) pA rA a mv home n T pl F col w g')
    (H : ∀ s (x : Nat → Value) col w, HasN x [(0, .iface 107 (.pointer (some ⟨a.m, 0, none⟩))), (1, .pointer (some ⟨q1, 0, none⟩)), (2, .pointer (some ⟨q2, 0, none⟩)), (3, .pointer (some ⟨bl, 0, none⟩)), (5, .int .i64 k), (9, .pointer (some ⟨s, 0, none⟩))] → Acts (gvSB W bh bl) pA rA a mv home true false pl F col w → (∀ b, onHown b1 b2 q1 q2 s b → col b = .ag a.j) → OnH a b1 b2 q1 q2 ba ob K cp bh ix s h w → gvSh W bh bl M TT GG nn col w (setHs ix t g) → Kont Post (gvSh W bh bl M TT GG nn) (gvSB W bh bl) pA rA a mv home n T pl F col w g' → Win Try.prog Post pl n a.j (gor ((Frame.enter Try.prog 9 args .normal).at ⟨T73 x, []⟩ (.code (gvC10 Try.f9) :: KI)) [runFr Try.prog Try.f31 a.p a.m b1 b2 gf cap, rootFr Try.prog]) w) :
    Win Try.prog Post pl n a.j (gor ((Frame.enter Try.prog 9 args .normal).at ⟨T73 x, []⟩ (.code (.seq (gvC8 Try.f9) (.seq (gvC9 Try.f9) (gvC10 Try.f9))) :: KI)) [runFr Try.prog Try.f31 a.p a.m b1 b2 gf cap, rootFr Try.prog]) w := by
  have hSh := gv_shar W bh bl M TT GG nn
  have hokI : ∀ (x : Nat → Value) (c : Code), itemOK Try.prog (.code c) = true → ∀ c2, itemOK Try.prog (.code c2) = true → StOK Try.prog ((Frame.enter Try.prog 9 args .normal).at ⟨T73 x, []⟩ (.code c :: .code c2 :: KI)) [] := fun x c hc c2 hc2 => stok_at rfl rfl (by simp) (by rw [List.all_cons, List.all_cons, hc, hc2, hKI]; rfl)
  obtain ⟨vs, r1, r2, r3⟩ := hs.rows
  obtain ⟨hq, hqb⟩ := r2 ix hix
  rw [hg] at hq
  obtain ⟨rb, off, nq, cq, hv⟩ : ∃ rb off nq cq, vs ix = .slice (some ⟨rb, off, none⟩) nq cq := by
    rcases hq.q with ⟨_, e⟩ | ⟨b, off, cap, cur, e, _⟩
    · cases e
    · exact ⟨b, off, _, cap, e⟩
  rw [hv] at hq
  obtain ⟨hn1, hn2, hc1, hc2, hp1, hp2⟩ := hq.pop
  have hcur : ((List.range M).map vs).toArray[ix]? = some (.slice (some ⟨rb, off, none⟩) nq cq) := by simp [hix, hv]
  have hco : w.cell? ⟨bh, ix, none⟩ = some (.slice (some ⟨rb, off, none⟩) nq cq) := (cell_of_row r1 ix).trans hcur
  refine Win.seq ?_
  refine hA.pieceN T73_shape (own := onGown b1 b2 q1 q2) (S := fun _ => False) (priv_og a b1 b2 q1 q2 ba ob K cp bh ix) hAw (fun b hb => .inl (hown b hb)) (fun b hb => hb.elim) (ι := Unit) (own' := fun _ => onHown b1 b2 q1 q2 w.heap.size) (A' := fun _ => OnH a b1 b2 q1 q2 ba ob K cp bh ix w.heap.size h) (fun _ => priv_oh _ _ _ _ _ _ _ _ _ _ _ _ _)
    (K' := fun _ => [(0, .iface 107 (.pointer (some ⟨a.m, 0, none⟩))), (1, .pointer (some ⟨q1, 0, none⟩)), (2, .pointer (some ⟨q2, 0, none⟩)), (3, .pointer (some ⟨bl, 0, none⟩)), (5, .int .i64 k), (9, .pointer (some ⟨w.heap.size, 0, none⟩))]) (fun _ _ => False) (hokI x _ (by kernel_rfl) _ (by kernel_rfl)) (fun wt Q hAt hz hcell hQ => gv_p8 (h1 := h.1) (h2 := h.2) (by exact cell_of_row hAt.1.2 0) ((hcell _).trans hco) (by omega) ((hcell _).trans hc1) ((hcell _).trans hc2) hx.1 hx.2.1 hx.2.2.1 hx.2.2.2.1 hx.2.2.2.2.1 fun a' w' hf hr hk => ?_) fun x1 _ w1 _ hx1 hB1 k1 hA1 hM1 => ?_
  · rw [hz] at hf hr
    refine hQ a' () w' (fun y hy => hy.elim (fun z => .inl z) fun z => .inr (by have := lt_of_block hr; omega)) hf ⟨(priv_og a b1 b2 q1 q2 ba ob K cp bh ix).st _ _ hAt fun b hb => hk.block b ((priv_og a b1 b2 q1 q2 ba ob K cp bh ix).lt _ _ hAt hb) (by simp), hr⟩ ((ks_of_kp hk).mono fun _ _ z => by simp at z)
  have hs1 := hSh.plainS (j := a.j) (sh := fun _ => False) hA.lay hs k1 (fun b hb => hb.elim)
  have K1 := K0.moves hM1
  have hown1 : ∀ b, onHown b1 b2 q1 q2 w.heap.size b → grownS a.j (fun _ => False) col w w1 b = .ag a.j := fun b hb => by
    rcases hb with hb | hb
    · exact (grownS_keep hA.lay (by rw [hown b hb]; simp)).trans (hown b hb)
    · exact grownS_new (by omega) (by have := lt_of_block hB1.2; omega) (fun z => z)
  have hr1 : ∀ b, col b = .shared → w1.heap[b]? = w.heap[b]? := fun b hb => k1.block b (hA.lay.ltS hb) fun z => z
  have r1' := (hr1 bh (hs.sb _ (.inl rfl))).trans r1
  have r2' : ∀ i, i < M → Qh w1 (vs i) (g i) ∧ ∀ b ∈ blk (vs i), grownS a.j (fun _ => False) col w w1 b = .shared ∧ W.heap.size ≤ b := fun i hi => ⟨(r2 i hi).1.same fun b hb => hr1 b ((r2 i hi).2 b hb).1, fun b hb => ⟨(grownS_keep hA.lay (by rw [((r2 i hi).2 b hb).1]; simp)).trans ((r2 i hi).2 b hb).1, ((r2 i hi).2 b hb).2⟩⟩
  have hbb : ∀ b ∈ blk (Value.slice (some ⟨rb, off, none⟩) nq cq), w1.heap[b]? = w.heap[b]? := fun b hb => hr1 b (hqb b (hv ▸ hb)).1
  have hp1' : Qh w1 (.slice (some ⟨rb, off + 2, none⟩) t.length (cq - 1)) t := hp1.same fun b hb => hbb b (by simpa [blk_some] using hb)
  have hp2' : cq = 1 → Qh w1 (.slice (some ⟨rb, off, none⟩) 0 0) t := fun e => (hp2 e).same fun b hb => hbb b (by simpa [blk_some] using hb)
  clear hM1 k1 K0 hs r2 r1 hr1 hbb
  generalize grownS a.j (fun _ => False) col w w1 = col1 at hA1 hs1 K1 hown1 r2'
  generalize w.heap.size = s at *
  have hlt : ∀ b, col1 b = .shared → b < w1.heap.size := fun b hb => hA1.lay.ltS hb
  have hrbq : rb ∈ blk (vs ix) := by rw [hv, blk_some]; simp
  have hnbh : rb ≠ bh := fun z => (r2' ix hix).1.nin r1' (by decide) (z ▸ hrbq)
  refine Win.seq ?_
  refine hA1.pieceN T73_shape (own := fun b => onHown b1 b2 q1 q2 s b ∨ b = bh) (S := fun b => b = bh) ((priv_oh a b1 b2 q1 q2 ba ob K cp bh ix s h).and (Priv.row bh _ _ _)) ⟨hB1, r1'⟩ (fun b hb => hb.elim (fun z => .inl (hown1 b z)) fun z => .inr (z ▸ hs1.sb _ (.inl rfl))) (fun b z => .inr (z ▸ hs1.sb _ (.inl rfl)))
    (ι := {v' : Value // v' = .slice (some ⟨rb, off + 2, none⟩) (nq - 1) (cq - 1) ∨ (cq = 1 ∧ v' = .slice (some ⟨rb, off, none⟩) (nq - 1) 0)}) (own' := fun _ b => onHown b1 b2 q1 q2 s b ∨ b = bh) (A' := fun v' w' => OnH a b1 b2 q1 q2 ba ob K cp bh ix s h w' ∧ w'.heap[bh]? = some (.cells (((List.range M).map vs).toArray.setIfInBounds ix v'.1) 34 (0, 0))) (fun v' => (priv_oh a b1 b2 q1 q2 ba ob K cp bh ix s h).and (Priv.row bh _ _ _))
    (K' := fun _ => [(0, .iface 107 (.pointer (some ⟨a.m, 0, none⟩))), (1, .pointer (some ⟨q1, 0, none⟩)), (2, .pointer (some ⟨q2, 0, none⟩)), (3, .pointer (some ⟨bl, 0, none⟩)), (5, .int .i64 k), (9, .pointer (some ⟨s, 0, none⟩))]) (fun _ _ => False) (hokI x1 _ (by kernel_rfl) _ (by kernel_rfl)) (fun wt Q hAt hz hcell hQ => wp_norm (gv_p9 hAt.1.1.1.2 hAt.2 hcur (by omega) (by omega) hx1.1 hx1.2.1 hx1.2.2.1 hx1.2.2.2.1 hx1.2.2.2.2.1 hx1.2.2.2.2.2.1 fun a' w' v' hf hv' hr hk => ?_)) fun x2 v' w2 _ hx2 hB2 k2 hA2 hM2 => ?_
  · refine hQ a' ⟨v', hv'⟩ w' (fun y hy => .inl hy) hf ⟨(priv_oh a b1 b2 q1 q2 ba ob K cp bh ix s h).st _ _ hAt.1 fun b hb => hk.block b ((priv_oh a b1 b2 q1 q2 ba ob K cp bh ix s h).lt _ _ hAt.1 hb) ?_, hr⟩ ((ks_of_kp hk).mono fun _ _ z => by simpa using z)
    have hc := hown1 b hb
    simp only [List.mem_singleton]
    exact fun z => by rw [z, hs1.sb _ (.inl rfl)] at hc; cases hc
  obtain ⟨v', hv'⟩ := v'
  have hqv : Qh w1 v' t ∧ blk v' = [rb] := by
    rcases hv' with rfl | ⟨e, rfl⟩
    · rw [show nq - 1 = t.length by omega]; exact ⟨hp1', rfl⟩
    · rw [show nq - 1 = 0 by omega]; exact ⟨hp2' e, rfl⟩
  have hs2 := hs1.turn (col' := grownS a.j (fun _ => False) col1 w1 w2) (v' := v') (l := t) hix r1' r2' (hs1.size hWb) r3 (k2.mono fun b _ z => .inl z) (ne_types hs1.lay r1' (by decide)) (fun z => by have := z.1; omega) (fun b hb => ⟨fun z => by have := z.1; have := ((r2' ix hix).2 b hb).2; omega, fun z => (r2' ix hix).1.nin hs1.lay (by decide) (z ▸ hb), fun z => (r2' ix hix).1.nin r1' (by decide) (z ▸ hb)⟩) hlt hB2.2 (hqv.1.same fun b hb => by
      rw [hqv.2, List.mem_singleton] at hb
      subst hb
      exact k2.block _ (hlt _ ((r2' ix hix).2 _ hrbq).1) hnbh) (fun b hb => by
      rw [hqv.2, List.mem_singleton] at hb
      exact .inl (hb ▸ hrbq)) (fun b hb => (grownS_keep hA1.lay (by rw [hb]; simp)).trans hb) (fun b hb hz => by
      rw [hqv.2, List.mem_singleton] at hb
      subst hb
      have := hlt _ ((r2' ix hix).2 _ hrbq).1
      omega)
  exact H s x2 _ w2 hx2 hA2 (fun b hb => (grownS_keep hA1.lay (by rw [hown1 b hb]; simp)).trans (hown1 b hb)) hB2.1 hs2 (K1.moves hM2)
end
end Go.Proofs.Ytnbaiinhalplcaa
