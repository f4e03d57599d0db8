/- Law 14: the pieces of its second loop but New, each done alone. Written by gen/go_d.py. Law 14: an agent more; the second loop. Written by gen/go_e.py. Law 14: from its entry to all agents made; its early ends. Written by gen/go_f.py. Conditions: as each theorem states them. -/
import Derived.Test.YtnbaiinhalplcaaPg20
namespace Go.Proofs.Ytnbaiinhalplcaa
set_option linter.unusedVariables false
set_option linter.unusedSimpArgs false
set_option maxRecDepth 100000
open Go.RowKit

def goX2 (f : Func) : Code := loopOf (blockOf (codeR (codeL (goR10 f))))
def goB2 (f : Func) : Code := blockOf (codeL (codeR (goX2 f)))
def goK2 (f : Func) : List Item := [.inLoop (goX2 f), .inBlock 2, .code (goR11 f)]
def goQ16 (f : Func) : Code := codeL (codeL (goR10 f))
def goQ17 (f : Func) : Code := codeL (goX2 f)
def goQ18 (f : Func) : Code := codeR (codeR (goX2 f))
def goQ19 (f : Func) : Code := codeL (goB2 f)
def goQ20 (f : Func) : Code := codeL (codeR (goB2 f))
def goQ21 (f : Func) : Code := codeL (codeR (codeR (goB2 f)))
def goQ22 (f : Func) : Code := codeL (codeR (codeR (codeR (goB2 f))))
def goQ23 (f : Func) : Code := codeR (codeR (codeR (codeR (goB2 f))))

section
variable {x : Nat → Value} {wt : World} {Q : Exit → Act → World → Prop} {bd od n M cd K co pA rA bl bh i li ci q16 q17 pg : Nat} {bo ai : Option Addr} {va : Value}
theorem go_q16 (hx1 : x 1 = .slice (some ⟨bd, od, none⟩) M cd) (hx2 : x 2 = .slice bo K co) (hx7 : x 7 = .int .i64 n) (hx9 : x 9 = .pointer (some ⟨pA, 0, none⟩)) (hx10 : x 10 = .pointer (some ⟨bl, 0, none⟩)) (hx12 : x 12 = .slice (some ⟨bh, 0, none⟩) M M) (hx13 : x 13 = va) (hx14 : x 14 = .bool true) 
    (hQ : ∀ a', FrN 219 [(1, .slice (some ⟨bd, od, none⟩) M cd), (2, .slice bo K co), (7, .int .i64 n), (9, .pointer (some ⟨pA, 0, none⟩)), (10, .pointer (some ⟨bl, 0, none⟩)), (12, .slice (some ⟨bh, 0, none⟩) M M), (13, va), (14, .bool true), (15, .int .i64 0)] a' → Q (.normal) a' wt) : (goQ16 Try.f3).wp Try.prog Q ⟨T219 x, []⟩ wt := by
  have HQ := Lib.hid hQ
  clear hQ
  simp only [goQ16, goX2, goB2, goR14, goR13, goR12, goR11, goR10, goR9, goR8, goR7, goR6, goR5, goR4, goR3, goR2, goR1, goR0, bodyOf, Try.f3, codeL, codeR, blockOf, loopOf, Option.getD_some, T219]
  simp only [hx1, hx2, hx7, hx9, hx10, hx12, hx13, hx14]
  go_wp2
  exact HQ.out _ ⟨rfl, rfl, ⟨rfl, rfl, rfl, rfl, rfl, rfl, rfl, rfl, rfl, trivial⟩⟩

theorem go_q17 (hx1 : x 1 = .slice (some ⟨bd, od, none⟩) M cd) (hx2 : x 2 = .slice bo K co) (hx7 : x 7 = .int .i64 n) (hx9 : x 9 = .pointer (some ⟨pA, 0, none⟩)) (hx10 : x 10 = .pointer (some ⟨bl, 0, none⟩)) (hx12 : x 12 = .slice (some ⟨bh, 0, none⟩) M M) (hx13 : x 13 = va) (hx14 : x 14 = .bool true) (hx15 : x 15 = .int .i64 i) (hi : i < M) (hM5 : M ≤ 5)
    (hQ : ∀ a', FrN 219 [(1, .slice (some ⟨bd, od, none⟩) M cd), (2, .slice bo K co), (7, .int .i64 n), (9, .pointer (some ⟨pA, 0, none⟩)), (10, .pointer (some ⟨bl, 0, none⟩)), (12, .slice (some ⟨bh, 0, none⟩) M M), (13, va), (14, .bool true), (15, .int .i64 i)] a' → Q (.normal) a' wt) : (goQ17 Try.f3).wp Try.prog Q ⟨T219 x, []⟩ wt := by
  have HQ := Lib.hid hQ
  clear hQ
  simp only [goQ17, goX2, goB2, goR14, goR13, goR12, goR11, goR10, goR9, goR8, goR7, goR6, goR5, goR4, goR3, goR2, goR1, goR0, bodyOf, Try.f3, codeL, codeR, blockOf, loopOf, Option.getD_some, T219]
  simp only [hx1, hx2, hx7, hx9, hx10, hx12, hx13, hx14, hx15]
  go_wp2
  exact HQ.out _ ⟨rfl, rfl, ⟨rfl, rfl, rfl, rfl, rfl, rfl, rfl, rfl, rfl, trivial⟩⟩

theorem go_q17_end (hx1 : x 1 = .slice (some ⟨bd, od, none⟩) M cd) (hx2 : x 2 = .slice bo K co) (hx7 : x 7 = .int .i64 n) (hx9 : x 9 = .pointer (some ⟨pA, 0, none⟩)) (hx10 : x 10 = .pointer (some ⟨bl, 0, none⟩)) (hx12 : x 12 = .slice (some ⟨bh, 0, none⟩) M M) (hx13 : x 13 = va) (hx14 : x 14 = .bool true) (hx15 : x 15 = .int .i64 i) (hi : i = M) (hM5 : M ≤ 5)
    (hQ : ∀ a', FrN 219 [(1, .slice (some ⟨bd, od, none⟩) M cd), (2, .slice bo K co), (7, .int .i64 n), (9, .pointer (some ⟨pA, 0, none⟩)), (10, .pointer (some ⟨bl, 0, none⟩)), (12, .slice (some ⟨bh, 0, none⟩) M M), (13, va), (14, .bool true), (15, .int .i64 i)] a' → Q (.exit 2) a' wt) : (goQ17 Try.f3).wp Try.prog Q ⟨T219 x, []⟩ wt := by
  have HQ := Lib.hid hQ
  clear hQ
  simp only [goQ17, goX2, goB2, goR14, goR13, goR12, goR11, goR10, goR9, goR8, goR7, goR6, goR5, goR4, goR3, goR2, goR1, goR0, bodyOf, Try.f3, codeL, codeR, blockOf, loopOf, Option.getD_some, T219]
  simp only [hx1, hx2, hx7, hx9, hx10, hx12, hx13, hx14, hx15]
  go_wp2
  exact HQ.out _ ⟨rfl, rfl, ⟨rfl, rfl, rfl, rfl, rfl, rfl, rfl, rfl, rfl, trivial⟩⟩

theorem go_q19 (hx1 : x 1 = .slice (some ⟨bd, od, none⟩) M cd) (hx2 : x 2 = .slice bo K co) (hx7 : x 7 = .int .i64 n) (hx9 : x 9 = .pointer (some ⟨pA, 0, none⟩)) (hx10 : x 10 = .pointer (some ⟨bl, 0, none⟩)) (hx12 : x 12 = .slice (some ⟨bh, 0, none⟩) M M) (hx13 : x 13 = va) (hx14 : x 14 = .bool true) (hx15 : x 15 = .int .i64 i) (hi : i < M) (hM5 : M ≤ 5) (hc : wt.cell? ⟨bd, od + i, none⟩ = some (.slice ai li ci))
    (hQ : ∀ a' w', FrN 219 [(1, .slice (some ⟨bd, od, none⟩) M cd), (2, .slice bo K co), (7, .int .i64 n), (9, .pointer (some ⟨pA, 0, none⟩)), (10, .pointer (some ⟨bl, 0, none⟩)), (12, .slice (some ⟨bh, 0, none⟩) M M), (13, va), (14, .bool true), (15, .int .i64 i), (16, .pointer (some ⟨wt.heap.size, 0, none⟩))] a' → w'.heap[wt.heap.size]? = some (.cells #[.slice ai li ci] 23 (0, 0)) → Kp [] wt w' → Q .normal a' w') : (goQ19 Try.f3).wp Try.prog Q ⟨T219 x, []⟩ wt := by
  have HQ := Lib.hid hQ
  clear hQ
  simp only [goQ19, goX2, goB2, goR14, goR13, goR12, goR11, goR10, goR9, goR8, goR7, goR6, goR5, goR4, goR3, goR2, goR1, goR0, bodyOf, Try.f3, codeL, codeR, blockOf, loopOf, Option.getD_some, T219]
  simp only [hx1, hx2, hx7, hx9, hx10, hx12, hx13, hx14, hx15]
  go_wp2
  exact HQ.out _ _ ⟨rfl, rfl, ⟨rfl, rfl, rfl, rfl, rfl, rfl, rfl, rfl, rfl, rfl, trivial⟩⟩ (heap_alloc_new wt _) ((Kp.refl _ _).alloc _)

theorem go_q20 (hx1 : x 1 = .slice (some ⟨bd, od, none⟩) M cd) (hx2 : x 2 = .slice bo K co) (hx7 : x 7 = .int .i64 n) (hx9 : x 9 = .pointer (some ⟨pA, 0, none⟩)) (hx10 : x 10 = .pointer (some ⟨bl, 0, none⟩)) (hx12 : x 12 = .slice (some ⟨bh, 0, none⟩) M M) (hx13 : x 13 = va) (hx14 : x 14 = .bool true) (hx15 : x 15 = .int .i64 i) (hx16 : x 16 = .pointer (some ⟨q16, 0, none⟩)) (hi : i < M) (hM5 : M ≤ 5)
    (hQ : ∀ a' w', FrN 219 [(1, .slice (some ⟨bd, od, none⟩) M cd), (2, .slice bo K co), (7, .int .i64 n), (9, .pointer (some ⟨pA, 0, none⟩)), (10, .pointer (some ⟨bl, 0, none⟩)), (12, .slice (some ⟨bh, 0, none⟩) M M), (13, va), (14, .bool true), (15, .int .i64 i), (16, .pointer (some ⟨q16, 0, none⟩)), (17, .pointer (some ⟨wt.heap.size, 0, none⟩))] a' → w'.heap[wt.heap.size]? = some (.cells #[.pointer (some ⟨bh, i, none⟩)] 33 (0, 0)) → Kp [] wt w' → Q .normal a' w') : (goQ20 Try.f3).wp Try.prog Q ⟨T219 x, []⟩ wt := by
  have HQ := Lib.hid hQ
  clear hQ
  simp only [goQ20, goX2, goB2, goR14, goR13, goR12, goR11, goR10, goR9, goR8, goR7, goR6, goR5, goR4, goR3, goR2, goR1, goR0, bodyOf, Try.f3, codeL, codeR, blockOf, loopOf, Option.getD_some, T219]
  simp only [hx1, hx2, hx7, hx9, hx10, hx12, hx13, hx14, hx15, hx16]
  go_wp2
  exact HQ.out _ _ ⟨rfl, rfl, ⟨rfl, rfl, rfl, rfl, rfl, rfl, rfl, rfl, rfl, rfl, rfl, trivial⟩⟩ (heap_alloc_new wt _) ((Kp.refl _ _).alloc _)

theorem go_q22 (hx1 : x 1 = .slice (some ⟨bd, od, none⟩) M cd) (hx2 : x 2 = .slice bo K co) (hx7 : x 7 = .int .i64 n) (hx9 : x 9 = .pointer (some ⟨pA, 0, none⟩)) (hx10 : x 10 = .pointer (some ⟨bl, 0, none⟩)) (hx12 : x 12 = .slice (some ⟨bh, 0, none⟩) M M) (hx13 : x 13 = va) (hx14 : x 14 = .bool true) (hx15 : x 15 = .int .i64 i) (hx16 : x 16 = .pointer (some ⟨q16, 0, none⟩)) (hx17 : x 17 = .pointer (some ⟨q17, 0, none⟩)) (hx18 : x 18 = .pointer (some ⟨pg, 0, none⟩)) (hx19 : x 19 = .int .i64 0) 
    (hQ : ∀ a', FrN 219 [(1, .slice (some ⟨bd, od, none⟩) M cd), (2, .slice bo K co), (7, .int .i64 n), (9, .pointer (some ⟨pA, 0, none⟩)), (10, .pointer (some ⟨bl, 0, none⟩)), (12, .slice (some ⟨bh, 0, none⟩) M M), (13, va), (14, .bool true), (15, .int .i64 i), (16, .pointer (some ⟨q16, 0, none⟩)), (17, .pointer (some ⟨q17, 0, none⟩)), (18, .pointer (some ⟨pg, 0, none⟩)), (19, .int .i64 0)] a' → Q (.normal) a' wt) : (goQ22 Try.f3).wp Try.prog Q ⟨T219 x, []⟩ wt := by
  have HQ := Lib.hid hQ
  clear hQ
  have hnil : ∀ (a : Addr) (w : World), (binOp .neq 35 (.pointer (some a)) (.pointer none)).run Try.prog w = .ok (.bool true) w := fun a w => by kernel_rfl
  simp only [goQ22, goX2, goB2, goR14, goR13, goR12, goR11, goR10, goR9, goR8, goR7, goR6, goR5, goR4, goR3, goR2, goR1, goR0, bodyOf, Try.f3, codeL, codeR, blockOf, loopOf, Option.getD_some, T219]
  simp only [hx1, hx2, hx7, hx9, hx10, hx12, hx13, hx14, hx15, hx16, hx17, hx18, hx19]
  go_wp2
  exact HQ.out _ ⟨rfl, rfl, ⟨rfl, rfl, rfl, rfl, rfl, rfl, rfl, rfl, rfl, rfl, rfl, rfl, rfl, trivial⟩⟩

theorem go_q18 (hx1 : x 1 = .slice (some ⟨bd, od, none⟩) M cd) (hx2 : x 2 = .slice bo K co) (hx7 : x 7 = .int .i64 n) (hx9 : x 9 = .pointer (some ⟨pA, 0, none⟩)) (hx10 : x 10 = .pointer (some ⟨bl, 0, none⟩)) (hx12 : x 12 = .slice (some ⟨bh, 0, none⟩) M M) (hx13 : x 13 = va) (hx14 : x 14 = .bool true) (hx15 : x 15 = .int .i64 i) (hi : i < M) (hM5 : M ≤ 5)
    (hQ : ∀ a', FrN 219 [(1, .slice (some ⟨bd, od, none⟩) M cd), (2, .slice bo K co), (7, .int .i64 n), (9, .pointer (some ⟨pA, 0, none⟩)), (10, .pointer (some ⟨bl, 0, none⟩)), (12, .slice (some ⟨bh, 0, none⟩) M M), (13, va), (14, .bool true), (15, .int .i64 ((i + 1 : Nat) : Int))] a' → Q (.normal) a' wt) : (goQ18 Try.f3).wp Try.prog Q ⟨T219 x, []⟩ wt := by
  have HQ := Lib.hid hQ
  clear hQ
  have hw := IntWalk.i64_in ((i : Int) + 1) (by omega)
  simp only [goQ18, goX2, goB2, goR14, goR13, goR12, goR11, goR10, goR9, goR8, goR7, goR6, goR5, goR4, goR3, goR2, goR1, goR0, bodyOf, Try.f3, codeL, codeR, blockOf, loopOf, Option.getD_some, T219]
  simp only [hx1, hx2, hx7, hx9, hx10, hx12, hx13, hx14, hx15]
  go_wp2
  exact HQ.out _ ⟨rfl, rfl, ⟨rfl, rfl, rfl, rfl, rfl, rfl, rfl, rfl, rfl, trivial⟩⟩

theorem info_agent : ∃ i z, Try.prog.info? 35 = some i ∧ i.zero = some z ∧ i.size = 1 ∧ i.bytes = 8 ∧ z.cells.size = 1 := by
  obtain ⟨i, hi, hz0, hz1, hz2⟩ := info_parts (show (Try.prog.info? 35).map (fun i => (i.zero, i.size, i.bytes)) = some (some (.pointer none), 1, 8) by kernel_rfl)
  exact ⟨i, _, hi, hz0, hz1, hz2, rfl⟩

theorem go_q23 (hx1 : x 1 = .slice (some ⟨bd, od, none⟩) M cd) (hx2 : x 2 = .slice bo K co) (hx7 : x 7 = .int .i64 n) (hx9 : x 9 = .pointer (some ⟨pA, 0, none⟩)) (hx10 : x 10 = .pointer (some ⟨bl, 0, none⟩)) (hx12 : x 12 = .slice (some ⟨bh, 0, none⟩) M M) (hx13 : x 13 = va) (hx14 : x 14 = .bool true) (hx15 : x 15 = .int .i64 i) (hx16 : x 16 = .pointer (some ⟨q16, 0, none⟩)) (hx17 : x 17 = .pointer (some ⟨q17, 0, none⟩)) (hx18 : x 18 = .pointer (some ⟨pg, 0, none⟩)) (hx19 : x 19 = .int .i64 0) {base k : Nat} {xs : List Value} (hr : Rw 35 1 base wt va k xs) (hb : base ≤ wt.heap.size) (hk : k < 10)
    (hQ : ∀ a' w' va', FrN 219 [(1, .slice (some ⟨bd, od, none⟩) M cd), (2, .slice bo K co), (7, .int .i64 n), (9, .pointer (some ⟨pA, 0, none⟩)), (10, .pointer (some ⟨bl, 0, none⟩)), (12, .slice (some ⟨bh, 0, none⟩) M M), (13, va'), (14, .bool true), (15, .int .i64 i), (16, .pointer (some ⟨q16, 0, none⟩)), (17, .pointer (some ⟨q17, 0, none⟩)), (18, .pointer (some ⟨pg, 0, none⟩)), (19, .int .i64 0)] a' → Rw 35 1 base w' va' (k + 1) (xs ++ [.pointer (some ⟨pg, 0, none⟩)]) → (∀ b ∈ blk va', b ∈ blk va ∨ wt.heap.size ≤ b) → Ks (fun b => b ∈ blk va) wt w' → Q .normal a' w') : (goQ23 Try.f3).wp Try.prog Q ⟨T219 x, []⟩ wt := by
  obtain ⟨gb, cap, w6, hrun, hrw, hkp, hgb2⟩ := run_app (t := 32) (ty := 32) (bytes := 8) (w := wt.alloc (.cells #[.pointer (some ⟨pg, 0, none⟩)] 35)) Try.underlying32 info_agent (by decide) (hr.keep0 ((Kp.refl [] wt).alloc _)) (by rw [World.size_alloc]; omega) ⟨wt.heap.size, 0, none⟩ 1 1 [.pointer (some ⟨pg, 0, none⟩)] rfl (fun j u hj => by
      rcases j with _ | j
      · obtain rfl := Option.some.inj hj
        exact cell_of_row (heap_alloc_new wt _) 0
      · simp at hj) (by simp [Value.oneCell']) (by decide) (by omega) (by decide)
  have HRun := Lib.hid hrun
  have HRw := Lib.hid hrw
  have HKp := Lib.hid hkp
  have HQ := Lib.hid hQ
  clear hrun hrw hkp hQ hr
  simp only [goQ23, goX2, goB2, goR14, goR13, goR12, goR11, goR10, goR9, goR8, goR7, goR6, goR5, goR4, goR3, goR2, goR1, goR0, bodyOf, Try.f3, codeL, codeR, blockOf, loopOf, Option.getD_some, T219]
  simp only [hx1, hx2, hx7, hx9, hx10, hx12, hx13, hx14, hx15, hx16, hx17, hx18, hx19]
  go_wp2_with (at_builtin; refine wpList_append_eq rfl (.tmp 110) (.tmp 112) 32 rfl _ _ _ rfl rfl HRun.out ?_)
  refine HQ.out _ _ (.slice (some ⟨gb, 0, none⟩) (k + 1) cap) ⟨rfl, rfl, ⟨rfl, rfl, rfl, rfl, rfl, rfl, rfl, rfl, rfl, rfl, rfl, rfl, rfl, trivial⟩⟩ HRw.out (fun b hb => ?_) ((ks_alloc (fun b => b ∈ blk va) wt _).trans (ks_of_kp HKp.out))
  rw [blk_some, List.mem_singleton] at hb
  rw [hb]
  rcases hgb2 with z | z
  · exact .inl z
  · exact .inr (by rw [z, World.size_alloc]; omega)
end
end Go.Proofs.Ytnbaiinhalplcaa

namespace Go.Proofs.Ytnbaiinhalplcaa
open List renaming getElem_toArray → gtA, getElem_cons_zero → gtZ, getElem_cons_succ → gtS, setIfInBounds_toArray → siA, set_cons_succ → scS, set_cons_zero → scZ, getElem?_toArray → gqA, getElem?_cons_zero → gqZ, getElem?_cons_succ → gqS
set_option linter.unusedVariables false
set_option linter.unusedSimpArgs false
set_option maxRecDepth 100000
open Go.RowKit
open Go.Conc
open Go.ConcN (upd_ne upd_same)

/-- An agent without acts. -/
def OnZ (a : Ag) (b1 b2 q1 q2 : Nat) (ao : Option Addr) (cp bh ix : Nat) (w : World) : Prop := (w.heap[q1]? = some (.cells #[.slice ao 0 cp] 23 (0, 0)) ∧ w.heap[q2]? = some (.cells #[.pointer (some ⟨bh, ix, none⟩)] 33 (0, 0))) ∧ Boxed a b1 b2 w
theorem priv_oz (a : Ag) (b1 b2 q1 q2 : Nat) (ao : Option Addr) (cp bh ix : Nat) : Priv (onGown b1 b2 q1 q2) (OnZ a b1 b2 q1 q2 ao cp bh ix) := ((Priv.row _ _ _ _).and (Priv.row _ _ _ _)).and (priv_boxed a b1 b2)
section
variable {Post : Value → World → Prop} {W : World} {pA rA bh bl M TT GG nn ix b1 b2 q1 q2 cp : Nat} {ao : Option Addr} {a : Ag} {mv : Value} {gf : FuncId} {cap : Array Value} {home : Goroutine → Prop} {n : Nat} {pl : Nat → Option Place} {F : Nat → Option (Nat × Nat)} {col : Nat → Col} {w : World} {g : Hands}
theorem gv_runs_nil (hA : Acts (gvSB W bh bl) pA rA a mv home true false pl F col w) (hown : ∀ b, onGown b1 b2 q1 q2 b → col b = .ag a.j) (hAw : OnZ a b1 b2 q1 q2 ao cp bh ix w) (hs : gvSh W bh bl M TT GG nn col w g)
    (K0 : Kont Post (gvSh W bh bl M TT GG nn) (gvSB W bh bl) pA rA a mv home n .ret pl F col w g) :
    Win Try.prog Post pl n a.j (gor (Frame.enter Try.prog 9 (#[.iface 107 (.pointer (some ⟨a.m, 0, none⟩))] ++ #[.pointer (some ⟨q1, 0, none⟩), .pointer (some ⟨q2, 0, none⟩), .pointer (some ⟨bl, 0, none⟩)]) .normal) [runFr Try.prog Try.f31 a.p a.m b1 b2 gf cap, rootFr Try.prog]) w := by
  have hSh := gv_shar W bh bl M TT GG nn
  rw [enter_at (c := bodyOf Try.f9) Try.func9 rfl]
  refine win_slotsN T73_shape (K := [(0, .iface 107 (.pointer (some ⟨a.m, 0, none⟩))), (1, .pointer (some ⟨q1, 0, none⟩)), (2, .pointer (some ⟨q2, 0, none⟩)), (3, .pointer (some ⟨bl, 0, none⟩))]) (by kernel_rfl) ⟨by kernel_rfl, by kernel_rfl, by kernel_rfl, by kernel_rfl, trivial⟩ fun x hx => ?_
  rw [gv_e0]
  refine Win.seq ?_
  refine hA.still T73_shape hSh hown (priv_oz _ _ _ _ _ _ _ _ _) hAw hs K0 (stok_at rfl rfl (by simp) (by kernel_rfl)) (fun wt Q hAt hcell hQ => gv_p0 hx.1 hx.2.1 hx.2.2.1 hx.2.2.2.1 hQ) fun x1 col1 w1 hx1 hA1 hown1 hB1 hs1 K1 => ?_
  refine Win.block ?_
  refine Win.loop ?_
  rw [gv_e1]
  refine Win.seq ?_
  refine Win.seq ?_
  refine hA1.still T73_shape hSh hown1 (priv_oz _ _ _ _ _ _ _ _ _) hB1 hs1 K1 (stok_at rfl rfl (by simp) (by kernel_rfl)) (fun wt Q hAt hcell hQ => gv_p1 (k := 0) (K := 0) (by exact cell_of_row hAt.1.1 0) hx1.1 hx1.2.1 hx1.2.2.1 hx1.2.2.2.1 hx1.2.2.2.2.1 hQ) fun x2 col2 w2 hx2 hA2 hown2 hB2 hs2 K2 => ?_
  have h13 : x2 13 = .bool false := hx2.2.2.2.2.2.1.trans (by rw [decide_eq_false (by omega)])
  refine Win.cond (t := false) (by simp only [Act.eval, T73]; exact h13) ?_
  simp only [if_false, Bool.false_eq_true]
  refine Win.exit (k' := []) rfl ?_
  refine Win.falls ?_
  refine Win.leave (v := .tuple #[]) rfl rfl rfl Try.func9 (fun d => ⟨#[], by rw [Sem.runT_eq]; simp [go_sem, results, Try.f9], fun e he => by simp at he⟩) ?_
  exact ret_out hA2.ends hB2.2 hs2 hSh K2
end

theorem gvN_start (TT GG n i : Nat) (l : List Int) : (gvN TT GG n i l (fun _ => [])).2 = fun _ => [] := by
  cases l with
  | nil => rfl
  | cons x l => unfold gvN; rw [if_pos (by simp)]
/-- The acts of one. -/
structure Acs where
  ao : Option Addr
  cp : Nat
  l : List Int
def Acs.v (a : Acs) : Value := .slice a.ao a.l.length a.cp
/-- They came in. -/
def Acs.ok (W : World) (a : Acs) : Prop := a.l.length ≤ 20 ∧ (a.l = [] ∨ ∃ ba ob, a.ao = some ⟨ba, ob, none⟩ ∧ ActsIn W ba ob a.l)

/-- What stands while the agents are made. -/
structure GoW (Post : Value → World → Prop) (W : World) (pA rA bh bl M n : Nat) (ls : Nat → Acs) (k : Nat) (ag : Nat → Ag) (va : Value) (pl : Nat → Option Place) (F : Nat → Option (Nat × Nat)) (col : Nat → Col) (w : World) (s : St) : Prop where
  crew : Crew Post (gvSh W bh bl M 1 1 n) (gvSB W bh bl) pA rA (memV pA) 1 k ag (fun j => (gvN 1 1 n j (ls j).l (fun _ => [])).1) pl F col w (fun _ => [])
  ar : Ar w pA rA s
  all : Rw 35 1 W.heap.size w va k (ptrs ag k)
  allc : ∀ b ∈ blk va, col b = .main
  old : ∀ b, b < W.heap.size → ¬ poorlessW W b → col b = .main
  ks : Ks (fun _ => False) W w
theorem ksW {W w w' : World} {S : Nat → Prop} (h : Ks (fun _ => False) W w) (k : Ks S w w') (hin : InW W w') (hS : ∀ b, b < W.heap.size → ¬ poorlessW W b → ¬ S b) : Ks (fun _ => False) W w' :=
  ⟨k.os.trans h.os, k.output.trans h.output, Nat.le_trans h.size k.size, fun b hb hn => by
    by_cases hp : poorlessW W b
    · exact hin b hp
    · exact (k.block b (Nat.lt_of_lt_of_le hb h.size) (hS b hb hp)).trans (h.block b hb hn)⟩
section
variable {Post : Value → World → Prop} {W : World} {pA rA bh bl M n k : Nat} {ls : Nat → Acs} {ag : Nat → Ag} {va : Value} {pl : Nat → Option Place} {F : Nat → Option (Nat × Nat)} {col : Nat → Col} {w w' : World} {s : St}
theorem sh_made {SB : Nat → Prop} {g : Hands} (D : Desk SB pA rA pl F col w) (h : gvSh W bh bl M 1 1 n col w g) {S : Nat → Prop} (ks : Ks S w w') (hS : ∀ b, S b → col b ≠ .shared) : gvSh W bh bl M 1 1 n col w' g :=
  (gv_shar W bh bl M 1 1 n).st _ _ _ _ _ h (fun b hb => ks.block b (D.lay.ltS hb) fun z => hS b z hb) fun _ hb => hb
theorem GoW.made (A : GoW Post W pA rA bh bl M n ls k ag va pl F col w s) (D : Desk (gvSB W bh bl) pA rA pl F col w') (ks : Ks (fun _ => False) w w') : GoW Post W pA rA bh bl M n ls k ag va pl F col w' s :=
  ⟨A.crew.keep D ks (fun _ _ z => z.elim) (sh_made A.crew.desk A.crew.sh ks fun _ z => z.elim), ⟨ks.row (fun z => z) A.ar.hp, ks.row (fun z => z) A.ar.hr⟩, (priv_rw _ _ _ _ _ _).st _ _ A.all fun b hb => ks.block b ((priv_rw _ _ _ _ _ _).lt _ _ A.all hb) fun z => z, A.allc, A.old, A.ks.trans ks⟩

set_option maxHeartbeats 4000000 in
theorem go_body2 {args : Array Value} {x : Nat → Value} {bd od cd K co : Nat} {bo : Option Addr} (A : GoW Post W pA rA bh bl M n ls k ag va pl F col w s) (hx : HasN x [(1, .slice (some ⟨bd, od, none⟩) M cd), (2, .slice bo K co), (7, .int .i64 n), (9, .pointer (some ⟨pA, 0, none⟩)), (10, .pointer (some ⟨bl, 0, none⟩)), (12, .slice (some ⟨bh, 0, none⟩) M M), (13, va), (14, .bool true), (15, .int .i64 k)]) (hk : k < M) (hM5 : M ≤ 5) (hn : n ≤ 64) (hok : (ls k).ok W) (hWb : W.heap.size ≤ bh) (hcl : w.cell? ⟨bd, od + k, none⟩ = some (ls k).v)
    (H : ∀ a va' pl' F' col' w' (x' : Nat → Value), GoW Post W pA rA bh bl M n ls (k + 1) (fun j => if j = k then a else ag j) va' pl' F' col' w' s → HasN x' [(1, .slice (some ⟨bd, od, none⟩) M cd), (2, .slice bo K co), (7, .int .i64 n), (9, .pointer (some ⟨pA, 0, none⟩)), (10, .pointer (some ⟨bl, 0, none⟩)), (12, .slice (some ⟨bh, 0, none⟩) M M), (13, va'), (14, .bool true), (15, .int .i64 ((k + 1 : Nat) : Int))] →
      Win Try.prog Post pl' (1 + k + 1) 0 (gor ((Frame.enter Try.prog 3 args .normal).at ⟨T219 x', []⟩ (goK2 Try.f3)) []) w') :
    Win Try.prog Post pl (1 + k) 0 (gor ((Frame.enter Try.prog 3 args .normal).at ⟨T219 x, []⟩ (.code (goX2 Try.f3) :: goK2 Try.f3)) []) w := by
  have hb : (Frame.enter Try.prog 3 args .normal).kind = .normal := rfl
  have hSh := gv_shar W bh bl M 1 1 n
  have e17 : goX2 Try.f3 = .seq (goQ17 Try.f3) (.seq (.block 3 (goB2 Try.f3)) (goQ18 Try.f3)) := by kernel_rfl
  have e19 : goB2 Try.f3 = .seq (goQ19 Try.f3) (codeR (goB2 Try.f3)) := by kernel_rfl
  have e20 : codeR (goB2 Try.f3) = .seq (goQ20 Try.f3) (codeR (codeR (goB2 Try.f3))) := by kernel_rfl
  have e21 : codeR (codeR (goB2 Try.f3)) = .seq (goQ21 Try.f3) (codeR (codeR (codeR (goB2 Try.f3)))) := by kernel_rfl
  have e22 : codeR (codeR (codeR (goB2 Try.f3))) = .seq (goQ22 Try.f3) (goQ23 Try.f3) := by kernel_rfl
  obtain ⟨hx1, hx2, hx7, hx9, hx10, hx12, hx13, hx14, hx15, -⟩ := hx
  rw [show (Item.code (goX2 Try.f3) :: goK2 Try.f3) = .code (.seq (goQ17 Try.f3) (.seq (.block 3 (goB2 Try.f3)) (goQ18 Try.f3))) :: goK2 Try.f3 by rw [← e17]]
  refine Win.seq ?_
  refine deskN_look T219_shape A.crew.desk (stok_at rfl rfl (by simp) (by kernel_rfl)) (fun wt Q hcell hQ => go_q17 hx1 hx2 hx7 hx9 hx10 hx12 hx13 hx14 hx15 hk hM5 hQ) fun x1 w1 hx k1 D1 => ?_
  have A1 := A.made D1 k1
  clear hx1 hx2 hx7 hx9 hx10 hx12 hx13 hx14 hx15
  obtain ⟨hx1, hx2, hx7, hx9, hx10, hx12, hx13, hx14, hx15, -⟩ := hx
  refine Win.seq ?_
  refine Win.block ?_
  rw [e19]
  refine Win.seq ?_
  have hcl1 : w1.cell? ⟨bd, od + k, none⟩ = some (ls k).v := (World.cell?_of_block (k1.block _ (World.block_lt_of_cell? _ _ hcl) fun z => z)).trans hcl
  refine deskN_new T219_shape D1 (cs0 := fun _ => #[(ls k).v]) (t := 23) (K' := fun q16 => [(1, .slice (some ⟨bd, od, none⟩) M cd), (2, .slice bo K co), (7, .int .i64 n), (9, .pointer (some ⟨pA, 0, none⟩)), (10, .pointer (some ⟨bl, 0, none⟩)), (12, .slice (some ⟨bh, 0, none⟩) M M), (13, va), (14, .bool true), (15, .int .i64 k), (16, .pointer (some ⟨q16, 0, none⟩))]) (stok_at rfl rfl (by simp) (by kernel_rfl)) (fun wt Q hz hcell hQ => go_q19 hx1 hx2 hx7 hx9 hx10 hx12 hx13 hx14 hx15 hk hM5 ((hcell _).trans hcl1) hQ) fun x2 w2 hx r16 k2 D2 => ?_
  have A2 := A1.made D2 k2
  obtain ⟨q16, hq16⟩ : ∃ q16, q16 = w1.heap.size := ⟨_, rfl⟩
  rw [← hq16] at hx r16
  clear hx1 hx2 hx7 hx9 hx10 hx12 hx13 hx14 hx15
  obtain ⟨hx1, hx2, hx7, hx9, hx10, hx12, hx13, hx14, hx15, hx16, -⟩ := hx
  rw [e20]
  refine Win.seq ?_
  refine deskN_new T219_shape D2 (cs0 := fun _ => #[.pointer (some ⟨bh, k, none⟩)]) (t := 33) (K' := fun q17 => [(1, .slice (some ⟨bd, od, none⟩) M cd), (2, .slice bo K co), (7, .int .i64 n), (9, .pointer (some ⟨pA, 0, none⟩)), (10, .pointer (some ⟨bl, 0, none⟩)), (12, .slice (some ⟨bh, 0, none⟩) M M), (13, va), (14, .bool true), (15, .int .i64 k), (16, .pointer (some ⟨q16, 0, none⟩)), (17, .pointer (some ⟨q17, 0, none⟩))]) (stok_at rfl rfl (by simp) (by kernel_rfl)) (fun wt Q hz hcell hQ => go_q20 hx1 hx2 hx7 hx9 hx10 hx12 hx13 hx14 hx15 hx16 hk hM5 hQ) fun x3 w3 hx r17 k3 D3 => ?_
  have A3 := A2.made D3 k3
  obtain ⟨q17, hq17⟩ : ∃ q17, q17 = w2.heap.size := ⟨_, rfl⟩
  rw [← hq17] at hx r17
  clear hx1 hx2 hx7 hx9 hx10 hx12 hx13 hx14 hx15 hx16
  obtain ⟨hx1, hx2, hx7, hx9, hx10, hx12, hx13, hx14, hx15, hx16, hx17, -⟩ := hx
  have r16 := k3.row (fun z => z) r16
  have z1 := k1.size
  have z2 := k2.size
  have z3 := k3.size
  have hL := A.crew.desk.lay
  have c16 : col q16 = .main := hL.above q16 (by omega)
  have c17 : col q17 = .main := hL.above q17 (by omega)
  rw [e21]
  refine Win.seq ?_
  rw [e22]
  generalize hC : Code.seq (goQ22 Try.f3) (goQ23 Try.f3) = C4
  generalize hK : goK2 Try.f3 = KK
  generalize hQ18 : goQ18 Try.f3 = Q18
  have hlt : ∀ b ∈ blk va, b < w.heap.size := fun b hb => (priv_rw _ _ _ _ _ _).lt _ _ A.all hb
  simp only [goQ21, goX2, goB2, goR14, goR13, goR12, goR11, goR10, goR9, goR8, goR7, goR6, goR5, goR4, goR3, goR2, goR1, goR0, bodyOf, Try.f3, codeL, codeR, blockOf, loopOf, Option.getD_some, T219]
  simp only [hx1, hx2, hx7, hx9, hx10, hx12, hx13, hx14, hx15, hx16, hx17]
  refine Win.region ?_
  simp only [List.size_toArray, List.length_cons, List.length_nil, Nat.reduceAdd, List.range, List.range.loop]
  refine Win.pureOp (v := .pointer (some ⟨pA, 0, none⟩)) (.inl hb) rfl rfl (fun w => by rw [Sem.runT_eq]; simp [go_sem, execOp, Act.eval]; try (first | omega | rfl | exact ⟨rfl, rfl⟩ | kernel_rfl)) ?_
  simp only [Act.put, Act.eval, gqA, gqZ, gqS, Option.bind_some, gtA, gtZ, gtS, siA, scS, scZ]
  refine Win.pureOp (v := .iface 25 (.pointer (some ⟨pA, 0, none⟩))) (.inl hb) rfl rfl (fun w => by rw [Sem.runT_eq]; simp [go_sem, execOp, Act.eval]; try (first | omega | rfl | exact ⟨rfl, rfl⟩ | kernel_rfl)) ?_
  simp only [Act.put, Act.eval, gqA, gqZ, gqS, Option.bind_some, gtA, gtZ, gtS, siA, scS, scZ]
  refine Win.pureOp (v := .func (.func 9) #[] #[.pointer (some ⟨q16, 0, none⟩), .pointer (some ⟨q17, 0, none⟩), .pointer (some ⟨bl, 0, none⟩)]) (.inl hb) rfl rfl (fun w => by rw [Sem.runT_eq]; simp [go_sem, execOp, Act.eval]; try (first | omega | rfl | exact ⟨rfl, rfl⟩ | kernel_rfl)) ?_
  simp only [Act.put, Act.eval, gqA, gqZ, gqS, Option.bind_some, gtA, gtZ, gtS, siA, scS, scZ]
  refine Win.enter (f := 8) (args := #[.iface 25 (.pointer (some ⟨pA, 0, none⟩)), .func (.func 9) #[] #[.pointer (some ⟨q16, 0, none⟩), .pointer (some ⟨q17, 0, none⟩), .pointer (some ⟨bl, 0, none⟩)]]) (.inl hb) rfl rfl (fun d => ⟨#[], call_enter mild.toMild Try.func8 rfl rfl rfl rfl _ _ (by simp [Act.eval]), fun e he => by simp at he⟩) ?_
  refine A3.crew.news hSh (own0 := fun b => b = q16 ∨ b = q17) (A0 := fun w => w.heap[q16]? = some (.cells #[(ls k).v] 23 (0, 0)) ∧ w.heap[q17]? = some (.cells #[.pointer (some ⟨bh, k, none⟩)] 33 (0, 0))) ((Priv.row q16 _ _ _).and (Priv.row q17 _ _ _)) (fun b hb => by rcases hb with rfl | rfl <;> assumption) ⟨r16, r17⟩ (mt := 25) (mval := .pointer (some ⟨pA, 0, none⟩)) rfl Try.func9 rfl (T0 := (gvN 1 1 n k (ls k).l (fun _ => [])).1) (g1 := fun _ => []) (fun a home pl' F' col' w' b1 b2 hj hAc hBx hc1' hc2' ho hA0 hs K' => ?_) (fun a pl5 F5 col5 w5 C5 ks5 sm5 hap => ?_)
  · have hown : ∀ b, onGown b1 b2 q16 q17 b → col' b = .ag a.j := fun b hb => by
      rw [hj]
      rcases hb with (rfl | rfl) | (rfl | rfl)
      · exact ho _ (.inl rfl)
      · exact ho _ (.inr rfl)
      · exact hc1'
      · exact hc2'
    obtain ⟨h20, hl⟩ := hok
    rcases hl with hl | ⟨ba, ob, hao, hin⟩
    · rw [hl] at K'
      refine gv_runs_nil hAc hown (ao := (ls k).ao) (cp := (ls k).cp) (ix := k) ⟨⟨?_, hA0.2⟩, hBx⟩ hs K'
      have := hA0.1
      unfold Acs.v at this
      rw [hl] at this
      exact this
    · refine gv_runs (l0 := (ls k).l) (cp := (ls k).cp) rfl (by decide) (by decide) hn hin (by omega) hk hWb hAc hown ⟨⟨?_, hA0.2⟩, hBx⟩ hs ?_
      · have := hA0.1
        unfold Acs.v at this
        rw [hao] at this
        exact this
      · rw [gvN_start]; exact K'
  rw [Frame.finish_at]
  simp only [Act.put, Act.eval, gqA, gqZ, gqS, Option.bind_some, gtA, gtZ, gtS, siA, scS, scZ]
  refine Win.pureOp (v := .tuple #[.pointer (some ⟨a.p, 0, none⟩), .int .i64 0]) (.inl hb) rfl rfl (fun w => by rw [Sem.runT_eq]; simp [go_sem, execOp, Act.eval]; try (first | omega | rfl | exact ⟨rfl, rfl⟩ | kernel_rfl)) ?_
  simp only [Act.put, Act.eval, gqA, gqZ, gqS, Option.bind_some, gtA, gtZ, gtS, siA, scS, scZ]
  refine Win.pureOp (v := .pointer (some ⟨a.p, 0, none⟩)) (.inl hb) rfl rfl (fun w => by rw [Sem.runT_eq]; simp [go_sem, execOp, Act.eval]; try (first | omega | rfl | exact ⟨rfl, rfl⟩ | kernel_rfl)) ?_
  simp only [Act.put, Act.eval, gqA, gqZ, gqS, Option.bind_some, gtA, gtZ, gtS, siA, scS, scZ]
  refine Win.pureOp (v := .int .i64 0) (.inl hb) rfl rfl (fun w => by rw [Sem.runT_eq]; simp [go_sem, execOp, Act.eval]; try (first | omega | rfl | exact ⟨rfl, rfl⟩ | kernel_rfl)) ?_
  simp only [Act.put, Act.eval, gqA, gqZ, gqS, Option.bind_some, gtA, gtZ, gtS, siA, scS, scZ]
  refine Win.pureOp (v := .pointer (some ⟨a.p, 0, none⟩)) (.inl hb) rfl rfl (fun w => by rw [Sem.runT_eq]; simp [go_sem, execOp, Act.eval]; try (first | omega | rfl | exact ⟨rfl, rfl⟩ | kernel_rfl)) ?_
  simp only [Act.put, Act.eval, gqA, gqZ, gqS, Option.bind_some, gtA, gtZ, gtS, siA, scS, scZ]
  refine Win.pureOp (v := .int .i64 0) (.inl hb) rfl rfl (fun w => by rw [Sem.runT_eq]; simp [go_sem, execOp, Act.eval]; try (first | omega | rfl | exact ⟨rfl, rfl⟩ | kernel_rfl)) ?_
  simp only [Act.put, Act.eval, gqA, gqZ, gqS, Option.bind_some, gtA, gtZ, gtS, siA, scS, scZ]
  refine Win.opsEnd ?_
  refine win_slotsN T219_shape (K := [(1, .slice (some ⟨bd, od, none⟩) M cd), (2, .slice bo K co), (7, .int .i64 n), (9, .pointer (some ⟨pA, 0, none⟩)), (10, .pointer (some ⟨bl, 0, none⟩)), (12, .slice (some ⟨bh, 0, none⟩) M M), (13, va), (14, .bool true), (15, .int .i64 k), (16, .pointer (some ⟨q16, 0, none⟩)), (17, .pointer (some ⟨q17, 0, none⟩)), (18, .pointer (some ⟨a.p, 0, none⟩)), (19, .int .i64 0)]) rfl ⟨rfl, rfl, rfl, rfl, rfl, rfl, rfl, rfl, rfl, rfl, rfl, rfl, rfl, trivial⟩ fun x5 hx => ?_
  subst hC hK hQ18
  clear hx1 hx2 hx7 hx9 hx10 hx12 hx13 hx14 hx15 hx16 hx17
  obtain ⟨hx1, hx2, hx7, hx9, hx10, hx12, hx13, hx14, hx15, hx16, hx17, hx18, hx19, -⟩ := hx
  have hno : ∀ b, b < w.heap.size → ¬ (b = q16 ∨ b = q17) := fun b hb z => by omega
  have hcr : (fun j => if j = k then (gvN 1 1 n k (ls k).l (fun _ => [])).1 else (gvN 1 1 n j (ls j).l (fun _ => [])).1) = fun j => (gvN 1 1 n j (ls j).l (fun _ => [])).1 := by
    funext j
    by_cases e : j = k
    · subst e; simp
    · simp [e]
  rw [hcr] at C5
  have nsh : ∀ b, b < w.heap.size → (col b = .main ∨ col b = .arena) → ¬ ((b = q16 ∨ b = q17) ∨ col b = .shared) := fun b hb h z => by
    rcases z with z | z
    · exact hno b hb z
    · rcases h with h | h <;> rw [h] at z <;> cases z
  have lar := A.ar.lt
  have ar5 : Ar w5 pA rA s := ⟨ks5.row (nsh pA lar.1 (.inr hL.ar.1)) A3.ar.hp, ks5.row (nsh rA lar.2 (.inr hL.ar.2)) A3.ar.hr⟩
  have hzw : w.heap.size ≤ w3.heap.size := by omega
  have all5 : Rw 35 1 W.heap.size w5 va k (ptrs ag k) := (priv_rw _ _ _ _ _ _).st _ _ A3.all fun b hb => ks5.block b (by have := hlt b hb; omega) (nsh b (hlt b hb) (.inl (A.allc b hb)))
  have allc5 : ∀ b ∈ blk va, col5 b = .main := fun b hb => (sm5 b (by have := hlt b hb; omega) (hno b (hlt b hb)) (.inl (A.allc b hb))).trans (A.allc b hb)
  have hWw := A.ks.size
  have old5 : ∀ b, b < W.heap.size → ¬ poorlessW W b → col5 b = .main := fun b hb hp => (sm5 b (by omega) (hno b (by omega)) (.inl (A.old b hb hp))).trans (A.old b hb hp)
  have ksW5 : Ks (fun _ => False) W w5 := ksW A3.ks ks5 C5.sh.inw fun b hb hp z => nsh b (by omega) (.inl (A.old b hb hp)) z
  refine Win.seq ?_
  refine deskN_look T219_shape C5.desk (stok_at rfl rfl (by simp) (by kernel_rfl)) (fun wt Q hcell hQ => go_q22 hx1 hx2 hx7 hx9 hx10 hx12 hx13 hx14 hx15 hx16 hx17 hx18 hx19 hQ) fun x6 w6 hx k6 D6 => ?_
  clear hx1 hx2 hx7 hx9 hx10 hx12 hx13 hx14 hx15 hx16 hx17 hx18 hx19
  obtain ⟨hx1, hx2, hx7, hx9, hx10, hx12, hx13, hx14, hx15, hx16, hx17, hx18, hx19, -⟩ := hx
  have C6 := C5.keep D6 k6 (fun _ _ z => z.elim) (sh_made C5.desk C5.sh k6 fun _ z => z.elim)
  have ar6 : Ar w6 pA rA s := ⟨k6.row (fun z => z) ar5.hp, k6.row (fun z => z) ar5.hr⟩
  have all6 : Rw 35 1 W.heap.size w6 va k (ptrs ag k) := (priv_rw _ _ _ _ _ _).st _ _ all5 fun b hb => k6.block b ((priv_rw _ _ _ _ _ _).lt _ _ all5 hb) fun z => z
  have ksW6 := ksW5.trans k6
  have hW6 := ksW6.size
  refine C6.desk.pieceN T219_shape (own := fun b => b ∈ blk va) (S := fun b => b ∈ blk va) (A := fun w => Rw 35 1 W.heap.size w va k (ptrs ag k)) (priv_rw _ _ _ _ _ _) all6 (fun b hb => by rw [allc5 b hb]; rfl) (ι := {v : Value // ∀ b ∈ blk v, b ∈ blk va ∨ w6.heap.size ≤ b}) (own' := fun v b => b ∈ blk v.1) (A' := fun v w => Rw 35 1 W.heap.size w v.1 (k + 1) (ptrs ag k ++ [.pointer (some ⟨a.p, 0, none⟩)])) (fun v => priv_rw _ _ _ _ _ _) (K' := fun v => [(1, .slice (some ⟨bd, od, none⟩) M cd), (2, .slice bo K co), (7, .int .i64 n), (9, .pointer (some ⟨pA, 0, none⟩)), (10, .pointer (some ⟨bl, 0, none⟩)), (12, .slice (some ⟨bh, 0, none⟩) M M), (13, v.1), (14, .bool true), (15, .int .i64 k), (16, .pointer (some ⟨q16, 0, none⟩)), (17, .pointer (some ⟨q17, 0, none⟩)), (18, .pointer (some ⟨a.p, 0, none⟩)), (19, .int .i64 0)]) (stok_at rfl rfl (by simp) (by kernel_rfl)) (fun wt Q h1 h2 _ hQ => go_q23 hx1 hx2 hx7 hx9 hx10 hx12 hx13 hx14 hx15 hx16 hx17 hx18 hx19 h1 (by omega) (by omega) fun a' w' va' hf hr hv hk' => hQ a' ⟨va', by rw [← h2]; exact hv⟩ w' (fun y hy => (hv y hy).imp id fun z => ⟨z, (priv_rw _ _ _ _ _ _).lt _ _ hr hy⟩) hf hr hk') ?_
  rintro x7 ⟨vn, hvn⟩ w7 _ hx hrw ks7 D7
  clear hx1 hx2 hx7 hx9 hx10 hx12 hx13 hx14 hx15 hx16 hx17 hx18 hx19
  obtain ⟨hx1, hx2, hx7, hx9, hx10, hx12, hx13, hx14, hx15, hx16, hx17, hx18, hx19, -⟩ := hx
  simp only at hrw
  have C7 := C6.keep D7 ks7 (fun b _ hb => .inl (allc5 b hb)) (sh_made C6.desk C6.sh ks7 fun b z hc => by
    have := allc5 b z
    rw [this] at hc; cases hc)
  have ar7 : Ar w7 pA rA s := ⟨ks7.row (fun z => by have := allc5 _ z; rw [C6.desk.lay.ar.1] at this; cases this) ar6.hp, ks7.row (fun z => by have := allc5 _ z; rw [C6.desk.lay.ar.2] at this; cases this) ar6.hr⟩
  have ksW7 : Ks (fun _ => False) W w7 := ksW6.then ks7 fun b hb z => by have := (all6.block b z).1; omega
  have A7 : GoW Post W pA rA bh bl M n ls (k + 1) (fun j => if j = k then a else ag j) vn pl5 F5 col5 w7 s :=
    ⟨C7, ar7, by rw [ptrs_succ]; exact hrw, fun b hb => by
      rcases hvn b hb with z | z
      · exact allc5 b z
      · exact C6.desk.lay.above b z, old5, ksW7⟩
  refine Win.inBlock ?_
  refine deskN_look T219_shape A7.crew.desk (stok_at rfl rfl (by simp) (by kernel_rfl)) (fun wt Q hcell hQ => go_q18 hx1 hx2 hx7 hx9 hx10 hx12 hx13 hx14 hx15 hk hM5 hQ) fun x8 w8 hx k8 D8 => ?_
  exact H a vn pl5 F5 col5 w8 x8 (A7.made D8 k8) hx

theorem go_loop2 {args : Array Value} {bd od cd K co : Nat} {bo : Option Addr} (hds : ∀ i, i < M → W.cell? ⟨bd, od + i, none⟩ = some (ls i).v ∧ (ls i).ok W) (hM5 : M ≤ 5) (hn : n ≤ 64) (hWb : W.heap.size ≤ bh)
    (H : ∀ ag va pl F col w (x : Nat → Value), GoW Post W pA rA bh bl M n ls M ag va pl F col w s → HasN x [(1, .slice (some ⟨bd, od, none⟩) M cd), (2, .slice bo K co), (7, .int .i64 n), (9, .pointer (some ⟨pA, 0, none⟩)), (10, .pointer (some ⟨bl, 0, none⟩)), (12, .slice (some ⟨bh, 0, none⟩) M M), (13, va), (14, .bool true)] → Win Try.prog Post pl (1 + M) 0 (gor ((Frame.enter Try.prog 3 args .normal).at ⟨T219 x, []⟩ [.code (goR11 Try.f3)]) []) w) :
    ∀ e k, k + e = M → ∀ (x : Nat → Value) ag va pl F col w, GoW Post W pA rA bh bl M n ls k ag va pl F col w s → HasN x [(1, .slice (some ⟨bd, od, none⟩) M cd), (2, .slice bo K co), (7, .int .i64 n), (9, .pointer (some ⟨pA, 0, none⟩)), (10, .pointer (some ⟨bl, 0, none⟩)), (12, .slice (some ⟨bh, 0, none⟩) M M), (13, va), (14, .bool true), (15, .int .i64 k)] →
      Win Try.prog Post pl (1 + k) 0 (gor ((Frame.enter Try.prog 3 args .normal).at ⟨T219 x, []⟩ (.code (goX2 Try.f3) :: goK2 Try.f3)) []) w := by
  intro e
  induction e with
  | zero =>
    intro k hk x ag va pl F col w A hx
    obtain rfl : k = M := by omega
    have e17 : goX2 Try.f3 = .seq (goQ17 Try.f3) (.seq (.block 3 (goB2 Try.f3)) (goQ18 Try.f3)) := by kernel_rfl
    obtain ⟨hx1, hx2, hx7, hx9, hx10, hx12, hx13, hx14, hx15, -⟩ := hx
    rw [show (Item.code (goX2 Try.f3) :: goK2 Try.f3) = .code (.seq (goQ17 Try.f3) (.seq (.block 3 (goB2 Try.f3)) (goQ18 Try.f3))) :: goK2 Try.f3 by rw [← e17]]
    refine Win.seq ?_
    have he : ∀ X : Code, exitTo 2 (.code X :: goK2 Try.f3) = some [.code (goR11 Try.f3)] := fun X => rfl
    refine deskN_exit T219_shape A.crew.desk (he _) (stok_at rfl rfl (by simp) (by kernel_rfl)) (fun wt Q hQ => go_q17_end hx1 hx2 hx7 hx9 hx10 hx12 hx13 hx14 hx15 rfl hM5 hQ) fun x1 w1 hx k1 D1 => ?_
    obtain ⟨hx1, hx2, hx7, hx9, hx10, hx12, hx13, hx14, hx15, -⟩ := hx
    exact H ag va pl F col w1 x1 (A.made D1 k1) ⟨hx1, hx2, hx7, hx9, hx10, hx12, hx13, hx14, trivial⟩
  | succ e ih =>
    intro k hk x ag va pl F col w A hx
    have hkM : k < M := by omega
    obtain ⟨h1, h2⟩ := hds k hkM
    refine go_body2 A hx hkM hM5 hn h2 hWb ((World.cell?_of_block (A.ks.block _ (World.block_lt_of_cell? _ _ h1) fun z => z)).trans h1) fun a va' pl' F' col' w' x' A' hx' => ?_
    exact Win.inLoop (ih (k + 1) (by omega) x' _ va' pl' F' col' w' A' hx')
end
end Go.Proofs.Ytnbaiinhalplcaa

namespace Go.Proofs.Ytnbaiinhalplcaa
set_option linter.unusedVariables false
set_option linter.unusedSimpArgs false
set_option maxRecDepth 100000
open Go.RowKit
open Go.Conc
open Go.ConcN (upd_ne upd_same)

theorem priv_hw (T G n p r : Nat) (H : List Int) (t : Nat) : Priv (fun b => b = p ∨ b = r) (fun w => Hw T G n p r H t w) := by
  refine ⟨fun w w' h hb => ?_, fun w b h hb => ?_, fun w b h hb => ?_⟩
  · obtain ⟨l, a⟩ := h.ar
    exact ⟨⟨l, (hb _ (.inl rfl)).trans a.hp, (hb _ (.inr rfl)).trans a.hr⟩, h.len, h.top, h.ok, h.hT, h.hG, h.hn⟩
  · obtain ⟨l, a⟩ := h.ar
    rcases hb with rfl | rfl
    · rw [a.hp]; rfl
    · rw [a.hr]; rfl
  · obtain ⟨l, a⟩ := h.ar
    rcases hb with rfl | rfl
    · exact a.lt.1
    · exact a.lt.2
/-- The acts came in. -/
def DoesAt (w : World) (bd od M : Nat) (ls : Nat → Acs) : Prop := 1 ≤ M ∧ ∀ i, i < M → w.cell? ⟨bd, od + i, none⟩ = some (ls i).v
theorem priv_does (bd od M : Nat) (ls : Nat → Acs) : Priv (· = bd) (fun w => DoesAt w bd od M ls) := by
  refine ⟨fun w w' h hb => ⟨h.1, fun i hi => ?_⟩, fun w b h e => ?_, fun w b h e => ?_⟩
  · rw [World.cell?_of_block (hb bd rfl)]; exact h.2 i hi
  · have e' : b = bd := e
    subst e'
    have hc := h.2 0 (by have := h.1; omega)
    cases ho : w.heap[b]? with
    | none => rfl
    | some ob =>
      cases ob <;> first | rfl | (exfalso; simp [World.cell?, ho] at hc)
  · have e' : b = bd := e
    subst e'
    exact World.block_lt_of_cell? _ _ (h.2 0 (by have := h.1; omega))

section
variable {Post : Value → World → Prop} {W : World} {n bd od M cd K co : Nat} {ad bo : Option Addr} {pl : Nat → Option Place} {N : Nat}
theorem go_enter (H : ∀ x, HasN x [(0, .int .u8 n), (1, .slice ad M cd), (2, .slice bo K co)] → Win Try.prog Post pl N 0 (gor ((Frame.enter Try.prog 3 #[.int .u8 n, .slice ad M cd, .slice bo K co] .normal).at ⟨T219 x, []⟩ [.code (goR0 Try.f3)]) []) W) :
    Win Try.prog Post pl N 0 (gor (Frame.enter Try.prog 3 #[.int .u8 n, .slice ad M cd, .slice bo K co] .normal) []) W := by
  rw [enter_at (c := bodyOf Try.f3) Try.func3 (by kernel_rfl)]
  exact win_slotsN T219_shape (K := [(0, .int .u8 n), (1, .slice ad M cd), (2, .slice bo K co)]) (by kernel_rfl) ⟨by kernel_rfl, by kernel_rfl, by kernel_rfl, trivial⟩ fun x hx => H x hx

/-- Out of bounds. -/
theorem go_bad (hpl : ∀ i, pl i = none) (hn : n ≤ 255) (hbad : n < 1 ∨ 20 < n ∨ M < 1 ∨ 5 < M ∨ 200 < K) (hPost : ∀ w', Ks (fun _ => False) W w' → Post (.bool true) w') :
    Win Try.prog Post pl N 0 (gor (Frame.enter Try.prog 3 #[.int .u8 n, .slice ad M cd, .slice bo K co] .normal) []) W := by
  have e0 : goR0 Try.f3 = .seq (goP0 Try.f3) (goR1 Try.f3) := by kernel_rfl
  have e1 : goR1 Try.f3 = .seq (goP1 Try.f3) (goR2 Try.f3) := by kernel_rfl
  have e2 : goR2 Try.f3 = .seq (goP2 Try.f3) (goR3 Try.f3) := by kernel_rfl
  refine go_enter fun x hx => ?_
  obtain ⟨hx0, hx1, hx2, -⟩ := hx
  rw [e0]
  refine Win.seq ?_
  refine none_still T219_shape hpl (Priv.const True) trivial (stok_at rfl rfl (by simp) (by kernel_rfl)) (fun wt Q h1 hQ => go_p0 hx0 hx1 hx2 hQ) ?_
  rintro x1 w1 hx - k1
  clear hx0 hx1 hx2
  obtain ⟨hx0, hx1, hx2, -⟩ := hx
  rw [e1]
  refine Win.seq ?_
  refine none_still T219_shape hpl (Priv.const True) trivial (stok_at rfl rfl (by simp) (by kernel_rfl)) (fun wt Q h1 hQ => go_p1 hx0 hx1 hx2 hn hQ) ?_
  rintro x2 w2 hx - k2
  clear hx0 hx1 hx2
  obtain ⟨hx1, hx2, hx7, -⟩ := hx
  rw [e2]
  refine Win.seq ?_
  exact none_ret hpl (S := fun _ => False) (Priv.const True) trivial (stok_at rfl rfl (by simp) (by kernel_rfl)) (fun wt Q _ hQ => go_p2_bad hx1 hx2 hx7 hbad fun a' w' h1 h2 h3 hk => hQ a' w' h1 h2 h3 ((ks_of_kp hk).mono fun _ _ z => by simp at z)) fun w' k => hPost w' ((k1.trans k2).trans k)
/-- One has too many acts. -/
theorem go_long {ls : Nat → Acs} {i0 : Nat} (hpl : ∀ i, pl i = none) (h1 : 1 ≤ n) (h20 : n ≤ 20) (hM5 : M ≤ 5) (hK : K ≤ 200) (hd : DoesAt W bd od M ls) (hi0 : i0 < M) (hL0 : 20 < (ls i0).l.length) (hL : ∀ i, i < i0 → (ls i).l.length ≤ 20) (hPost : ∀ w', Ks (fun _ => False) W w' → Post (.bool true) w') :
    Win Try.prog Post pl N 0 (gor (Frame.enter Try.prog 3 #[.int .u8 n, .slice (some ⟨bd, od, none⟩) M cd, .slice bo K co] .normal) []) W := by
  have e0 : goR0 Try.f3 = .seq (goP0 Try.f3) (goR1 Try.f3) := by kernel_rfl
  have e1 : goR1 Try.f3 = .seq (goP1 Try.f3) (goR2 Try.f3) := by kernel_rfl
  have e2 : goR2 Try.f3 = .seq (goP2 Try.f3) (goR3 Try.f3) := by kernel_rfl
  have e3 : goR3 Try.f3 = .seq (goP3 Try.f3) (goR4 Try.f3) := by kernel_rfl
  have hP := priv_does bd od M ls
  refine go_enter fun x hx => ?_
  obtain ⟨hx0, hx1, hx2, -⟩ := hx
  rw [e0]
  refine Win.seq ?_
  refine none_still T219_shape hpl hP hd (stok_at rfl rfl (by simp) (by kernel_rfl)) (fun wt Q h1 hQ => go_p0 hx0 hx1 hx2 hQ) ?_
  rintro x1 w1 hx hA1 k1
  clear hx0 hx1 hx2
  obtain ⟨hx0, hx1, hx2, -⟩ := hx
  rw [e1]
  refine Win.seq ?_
  refine none_still T219_shape hpl hP hA1 (stok_at rfl rfl (by simp) (by kernel_rfl)) (fun wt Q h1 hQ => go_p1 hx0 hx1 hx2 (by omega) hQ) ?_
  rintro x2 w2 hx hA2 k2
  clear hx0 hx1 hx2
  obtain ⟨hx1, hx2, hx7, -⟩ := hx
  rw [e2]
  refine Win.seq ?_
  refine none_still T219_shape hpl hP hA2 (stok_at rfl rfl (by simp) (by kernel_rfl)) (fun wt Q hw hQ => go_p2 hx1 hx2 hx7 h1 h20 hd.1 hM5 hK hQ) ?_
  rintro x3 w3 hx hA3 k3
  clear hx1 hx2 hx7
  obtain ⟨hx1, hx2, hx7, -⟩ := hx
  rw [e3]
  refine Win.seq ?_
  exact none_ret hpl (S := fun _ => False) hP hA3 (stok_at rfl rfl (by simp) (by kernel_rfl)) (fun wt Q hw hQ => go_p3_bad hx1 hx2 hx7 hM5 (ai := fun i => (ls i).ao) (Li := fun i => (ls i).l.length) (ci := fun i => (ls i).cp) hw.2 hi0 hL0 hL fun a' w' h1 h2 h3 hk => hQ a' w' h1 h2 h3 ((ks_of_kp hk).mono fun _ _ z => by simp at z)) fun w' k => hPost w' (((k1.trans k2).trans k3).trans k)

set_option maxHeartbeats 1000000 in
/-- From the entry to its second loop. -/
theorem go_in {ls : Nat → Acs} (hpl : ∀ i, pl i = none) (h1 : 1 ≤ n) (h20 : n ≤ 20) (hM5 : M ≤ 5) (hK : K ≤ 200) (hd : DoesAt W bd od M ls) (hL : ∀ i, i < M → (ls i).l.length ≤ 20)
    (H : ∀ (x : Nat → Value) pA rA bl bh l w', HasN x [(1, .slice (some ⟨bd, od, none⟩) M cd), (2, .slice bo K co), (7, .int .i64 n), (9, .pointer (some ⟨pA, 0, none⟩)), (10, .pointer (some ⟨bl, 0, none⟩)), (12, .slice (some ⟨bh, 0, none⟩) M M), (13, .slice none 0 0), (14, .bool true)] → DoesAt w' bd od M ls → Ar w' pA rA ⟨wordsW n (2 ^ n - 1), 1, l⟩ → w'.heap[bl]? = some (.cells #[.int .i64 1, .int .i64 1, .int .i64 n] 27 (0, 0)) → w'.heap[bh]? = some (.cells ((List.range M).map fun _ => Value.slice none 0 0).toArray 34 (0, 0)) →
      W.heap.size ≤ rA → rA < pA → pA < bl → bl < bh → Ks (fun _ => False) W w' → Win Try.prog Post pl N 0 (gor ((Frame.enter Try.prog 3 #[.int .u8 n, .slice (some ⟨bd, od, none⟩) M cd, .slice bo K co] .normal).at ⟨T219 x, []⟩ [.code (goR10 Try.f3)]) []) w') :
    Win Try.prog Post pl N 0 (gor (Frame.enter Try.prog 3 #[.int .u8 n, .slice (some ⟨bd, od, none⟩) M cd, .slice bo K co] .normal) []) W := by
  have e0 : goR0 Try.f3 = .seq (goP0 Try.f3) (goR1 Try.f3) := by kernel_rfl
  have e1 : goR1 Try.f3 = .seq (goP1 Try.f3) (goR2 Try.f3) := by kernel_rfl
  have e2 : goR2 Try.f3 = .seq (goP2 Try.f3) (goR3 Try.f3) := by kernel_rfl
  have e3 : goR3 Try.f3 = .seq (goP3 Try.f3) (goR4 Try.f3) := by kernel_rfl
  have e4 : goR4 Try.f3 = .seq (goP4 Try.f3) (goR5 Try.f3) := by kernel_rfl
  have e5 : goR5 Try.f3 = .seq (goP5 Try.f3) (goR6 Try.f3) := by kernel_rfl
  have e6 : goR6 Try.f3 = .seq (goP6 Try.f3) (goR7 Try.f3) := by kernel_rfl
  have e7 : goR7 Try.f3 = .seq (goP7 Try.f3) (goR8 Try.f3) := by kernel_rfl
  have e8 : goR8 Try.f3 = .seq (goP8 Try.f3) (goR9 Try.f3) := by kernel_rfl
  have e9 : goR9 Try.f3 = .seq (goP9 Try.f3) (goR10 Try.f3) := by kernel_rfl
  have hP := priv_does bd od M ls
  refine go_enter fun x hx => ?_
  obtain ⟨hx0, hx1, hx2, -⟩ := hx
  rw [e0]
  refine Win.seq ?_
  refine none_still T219_shape hpl hP hd (stok_at rfl rfl (by simp) (by kernel_rfl)) (fun wt Q h1 hQ => go_p0 hx0 hx1 hx2 hQ) ?_
  rintro x1 w1 hx hA1 k1
  clear hx0 hx1 hx2
  obtain ⟨hx0, hx1, hx2, -⟩ := hx
  rw [e1]
  refine Win.seq ?_
  refine none_still T219_shape hpl hP hA1 (stok_at rfl rfl (by simp) (by kernel_rfl)) (fun wt Q h1 hQ => go_p1 hx0 hx1 hx2 (by omega) hQ) ?_
  rintro x2 w2 hx hA2 k2
  clear hx0 hx1 hx2
  obtain ⟨hx1, hx2, hx7, -⟩ := hx
  rw [e2]
  refine Win.seq ?_
  refine none_still T219_shape hpl hP hA2 (stok_at rfl rfl (by simp) (by kernel_rfl)) (fun wt Q hw hQ => go_p2 hx1 hx2 hx7 h1 h20 hd.1 hM5 hK hQ) ?_
  rintro x3 w3 hx hA3 k3
  clear hx1 hx2 hx7
  obtain ⟨hx1, hx2, hx7, -⟩ := hx
  have k3 := (k1.trans k2).trans k3
  rw [e3]
  refine Win.seq ?_
  refine none_new T219_shape hpl hP hA3 (ι := Unit) (own' := fun _ _ => False) (A' := fun _ _ => True) (fun _ => Priv.const True) (fun _ _ z => z.elim) (K' := fun _ => [(1, .slice (some ⟨bd, od, none⟩) M cd), (2, .slice bo K co), (7, .int .i64 n)]) (stok_at rfl rfl (by simp) (by kernel_rfl)) (fun wt Q hw hz hc hQ => go_p3 hx1 hx2 hx7 hM5 (ai := fun i => (ls i).ao) (Li := fun i => (ls i).l.length) (ci := fun i => (ls i).cp) hw.2 hL fun a' w' hf _ hk => hQ a' () w' hf trivial hk) ?_
  rintro x4 - w4 hx hA4 - k4
  clear hx1 hx2 hx7
  obtain ⟨hx1, hx2, hx7, -⟩ := hx
  have k4 := k3.trans k4
  clear k1 k2 k3
  rw [e4]
  refine Win.seq ?_
  refine none_new T219_shape hpl hP hA4 (ι := {p : Nat × Nat × Nat // w4.heap.size ≤ p.2.1 ∧ p.2.1 < p.1 ∧ p.1 < p.2.2}) (own' := fun p b => (b = p.1.1 ∨ b = p.1.2.1) ∨ b = p.1.2.2) (A' := fun p w => Hw 1 1 n p.1.1 p.1.2.1 (wordsW n 0) 0 w ∧ w.heap[p.1.2.2]? = some (.cells #[.int .i64 1, .int .i64 1, .int .i64 n] 27 (0, 0))) (fun p => (priv_hw _ _ _ _ _ _ _).and (Priv.row _ _ _ _)) (fun p y hy => by
      have := p.2
      rcases hy with (e | e) | e <;> omega) (K' := fun p => [(1, .slice (some ⟨bd, od, none⟩) M cd), (2, .slice bo K co), (7, .int .i64 n), (9, .pointer (some ⟨p.1.1, 0, none⟩)), (10, .pointer (some ⟨p.1.2.2, 0, none⟩)), (11, .bool true)]) (stok_at rfl rfl (by simp) (by kernel_rfl)) (fun wt Q hw hz hc hQ => go_p4 hx1 hx2 hx7 h1 h20 fun a' w' pA rA bl hf ha hr l1 l2 l3 hk => hQ a' ⟨(pA, rA, bl), by simp only; omega⟩ w' hf ⟨ha, hr⟩ hk) ?_
  rintro x5 ⟨⟨pA, rA, bl⟩, g1, g2, g3⟩ w5 hx hA5 ⟨hw5, hl5⟩ k5
  simp only at g1 g2 g3 hw5 hl5 hx
  clear hx1 hx2 hx7
  obtain ⟨hx1, hx2, hx7, hx9, hx10, hx11, -⟩ := hx
  have k5 := k4.trans k5
  have PB := hP.and ((priv_hw 1 1 n pA rA (wordsW n 0) 0).and (Priv.row bl #[.int .i64 1, .int .i64 1, .int .i64 n] 27 (0, 0)))
  rw [e5]
  refine Win.seq ?_
  refine none_still T219_shape hpl PB ⟨hA5, hw5, hl5⟩ (stok_at rfl rfl (by simp) (by kernel_rfl)) (fun wt Q h1 hQ => go_p5 hx1 hx2 hx7 hx9 hx10 hx11 hQ) ?_
  rintro x6 w6 hx hA6 k6
  clear hx1 hx2 hx7 hx9 hx10 hx11
  obtain ⟨hx1, hx2, hx7, hx9, hx10, -⟩ := hx
  have k6 := k5.trans k6
  have lbd : bd < W.heap.size := hP.lt _ _ hd rfl
  have hzW := k4.size
  rw [e6]
  refine Win.seq ?_
  refine (lies_none hpl w6).pieceN T219_shape (fun _ _ => rfl) (ι := Unit) (S := fun b => b = pA ∨ b = rA) PB hA6 (fun _ _ => rfl) (own' := fun _ y => y = bd ∨ ((y = pA ∨ y = rA) ∨ y = bl)) (A' := fun _ w => DoesAt w bd od M ls ∧ (Hw 1 1 n pA rA (wordsW n (2 ^ n - 1)) 1 w ∧ w.heap[bl]? = some (.cells #[.int .i64 1, .int .i64 1, .int .i64 n] 27 (0, 0)))) (fun _ => hP.and ((priv_hw 1 1 n pA rA (wordsW n (2 ^ n - 1)) 1).and (Priv.row bl _ _ _))) (K' := fun _ => [(1, .slice (some ⟨bd, od, none⟩) M cd), (2, .slice bo K co), (7, .int .i64 n), (9, .pointer (some ⟨pA, 0, none⟩)), (10, .pointer (some ⟨bl, 0, none⟩))]) (stok_at rfl rfl (by simp) (by kernel_rfl)) (fun wt Q hw hz hc hQ => go_p6 hx1 hx2 hx7 hx9 hx10 h20 hw.2.1 hw.2.2 fun a' w' hf ha hk => hQ a' () w' (fun y hy => .inl hy) hf ⟨hP.st _ _ hw.1 fun y hy => hk.block y (hP.lt _ _ hw.1 hy) (fun z => by have hy' : y = bd := hy; omega), ha, hk.row (fun z => by omega) hw.2.2⟩ hk) ?_
  rintro x7 - w7 - hx ⟨hA7, hw7, hl7⟩ k7 -
  clear hx1 hx2 hx7 hx9 hx10
  obtain ⟨hx1, hx2, hx7, hx9, hx10, -⟩ := hx
  have k7 : Ks (fun _ => False) W w7 := k6.then k7 fun y hy z => by rcases z with z | z <;> omega
  have PC := hP.and ((priv_hw 1 1 n pA rA (wordsW n (2 ^ n - 1)) 1).and (Priv.row bl #[.int .i64 1, .int .i64 1, .int .i64 n] 27 (0, 0)))
  rw [e7]
  refine Win.seq ?_
  have lbl := lt_of_block hl7
  refine none_new T219_shape hpl PC ⟨hA7, hw7, hl7⟩ (ι := {bh : Nat // w7.heap.size ≤ bh}) (own' := fun bh => (· = bh.1)) (A' := fun bh w => w.heap[bh.1]? = some (.cells ((List.range M).map fun _ => Value.slice none 0 0).toArray 34 (0, 0))) (fun bh => Priv.row _ _ _ _) (fun bh y hy => hy ▸ bh.2) (K' := fun bh => [(1, .slice (some ⟨bd, od, none⟩) M cd), (2, .slice bo K co), (7, .int .i64 n), (9, .pointer (some ⟨pA, 0, none⟩)), (10, .pointer (some ⟨bl, 0, none⟩)), (12, .slice (some ⟨bh.1, 0, none⟩) M M)]) (stok_at rfl rfl (by simp) (by kernel_rfl)) (fun wt Q hw hz hc hQ => go_p7 hx1 hx2 hx7 hx9 hx10 hM5 fun a' w' bh hf hr hg hk => hQ a' ⟨bh, by omega⟩ w' hf hr hk) ?_
  rintro x8 ⟨bh, gbh⟩ w8 hx hA8 hr8 k8
  simp only at hr8 hx
  clear hx1 hx2 hx7 hx9 hx10
  obtain ⟨hx1, hx2, hx7, hx9, hx10, hx12, -⟩ := hx
  have k8 := k7.trans k8
  have PD := PC.and (Priv.row bh ((List.range M).map fun _ => Value.slice none 0 0).toArray 34 (0, 0))
  rw [e8]
  refine Win.seq ?_
  refine none_still T219_shape hpl PD ⟨hA8, hr8⟩ (stok_at rfl rfl (by simp) (by kernel_rfl)) (fun wt Q h1 hQ => go_p8 hx1 hx2 hx7 hx9 hx10 hx12 hQ) ?_
  rintro x9 w9 hx hA9 k9
  clear hx1 hx2 hx7 hx9 hx10 hx12
  obtain ⟨hx1, hx2, hx7, hx9, hx10, hx12, hx13, -⟩ := hx
  have k9 := k8.trans k9
  rw [e9]
  refine Win.seq ?_
  refine none_still T219_shape hpl PD hA9 (stok_at rfl rfl (by simp) (by kernel_rfl)) (fun wt Q h1 hQ => go_p9 hx1 hx2 hx7 hx9 hx10 hx12 hx13 hQ) ?_
  rintro x10 w10 hx hA10 k10
  obtain ⟨l, har⟩ := hA10.1.2.1.ar
  exact H x10 pA rA bl bh l w10 hx hA10.1.1 har hA10.1.2.2 hA10.2 (by omega) g2 g3 (by omega) (k9.trans k10)

/-- From the entry to all agents made. -/
theorem go_made {ls : Nat → Acs} (h1 : 1 ≤ n) (h20 : n ≤ 20) (hM5 : M ≤ 5) (hK : K ≤ 200) (hd : DoesAt W bd od M ls) (hL : ∀ i, i < M → (ls i).l.length ≤ 20) (hok : ∀ i, i < M → (ls i).ok W)
    (H : ∀ pA rA bl bh l ag va pl F col w (x : Nat → Value), GoW Post W pA rA bh bl M n ls M ag va pl F col w ⟨wordsW n (2 ^ n - 1), 1, l⟩ → W.heap.size ≤ bh → (W.heap.size ≤ pA ∧ W.heap.size ≤ rA) → HasN x [(1, .slice (some ⟨bd, od, none⟩) M cd), (2, .slice bo K co), (7, .int .i64 n), (9, .pointer (some ⟨pA, 0, none⟩)), (10, .pointer (some ⟨bl, 0, none⟩)), (12, .slice (some ⟨bh, 0, none⟩) M M), (13, va), (14, .bool true)] → Win Try.prog Post pl (1 + M) 0 (gor ((Frame.enter Try.prog 3 #[.int .u8 n, .slice (some ⟨bd, od, none⟩) M cd, .slice bo K co] .normal).at ⟨T219 x, []⟩ [.code (goR11 Try.f3)]) []) w) :
    Win Try.prog Post (fun _ => none) 1 0 (gor (Frame.enter Try.prog 3 #[.int .u8 n, .slice (some ⟨bd, od, none⟩) M cd, .slice bo K co] .normal) []) W := by
  refine go_in (fun _ => rfl) h1 h20 hM5 hK hd hL fun x pA rA bl bh l w hx hA1 ar rl rh g1 g2 g3 g4 ks => ?_
  open Classical in
  obtain ⟨col, hcol⟩ : ∃ col : Nat → Col, col = fun b => if gvSB W bh bl b then .shared else if b = pA ∨ b = rA then .arena else .main := ⟨_, rfl⟩
  have cB : ∀ b, gvSB W bh bl b → col b = .shared := fun b h => by rw [hcol]; simp [h]
  have cA : ∀ b, b = pA ∨ b = rA → col b = .arena := fun b h => by
    have h1 : ¬ gvSB W bh bl b := fun z => by
      rcases z with z | z | z
      · omega
      · omega
      · have := z.1; omega
    rw [hcol]; simp [h, h1]
  have cM : ∀ b, ¬ gvSB W bh bl b → ¬ (b = pA ∨ b = rA) → col b = .main := fun b h1 h2 => by rw [hcol]; simp [h1, h2]
  have lh := lt_of_block rh
  have hzW := ks.size
  have D : Desk (gvSB W bh bl) pA rA (fun _ => none) (fun _ => none) col w :=
    ⟨rfl, lies_none (fun _ => rfl) w, ⟨fun _ _ => rfl, fun b hb => cM b (fun z => by
      rcases z with z | z | z
      · omega
      · omega
      · have := z.1; omega) (by omega), cB, ⟨cA _ (.inl rfl), cA _ (.inr rfl)⟩⟩, fun i s c hi => by cases hi⟩
  have hsh : gvSh W bh bl M 1 1 n col w (fun _ => []) := ⟨cB, rl, fun b hp => ks.block b hp.1 fun z => z, fun _ => .slice none 0 0, rh, fun i hi => ⟨Qh.nil _, fun b hb => by (rw [blk_nil] at hb; cases hb)⟩, fun i j _ _ _ b hb => by (rw [blk_nil] at hb; cases hb)⟩
  have C : Crew Post (gvSh W bh bl M 1 1 n) (gvSB W bh bl) pA rA (memV pA) 1 0 (fun _ => ⟨0, 0, 0, 0, 0, 0⟩) (fun j => (gvN 1 1 n j (ls j).l (fun _ => [])).1) (fun _ => none) (fun _ => none) col w (fun _ => []) :=
    ⟨by decide, D, fun _ _ => rfl, fun i hi => by omega, fun i hi => by omega, fun i hi => by omega, hsh⟩
  have Aw : GoW Post W pA rA bh bl M n ls 0 (fun _ => ⟨0, 0, 0, 0, 0, 0⟩) (.slice none 0 0) (fun _ => none) (fun _ => none) col w ⟨wordsW n (2 ^ n - 1), 1, l⟩ :=
    ⟨C, ar, Rw.nil _ _ _ _, fun b hb => by (rw [blk_nil] at hb; cases hb), fun b hb hp => cM b (fun z => by
      rcases z with z | z | z
      · omega
      · omega
      · exact hp z) (by omega), ks⟩
  have e10 : goR10 Try.f3 = .seq (.seq (goQ16 Try.f3) (.block 2 (.loop (goX2 Try.f3)))) (goR11 Try.f3) := by kernel_rfl
  obtain ⟨hx1, hx2, hx7, hx9, hx10, hx12, hx13, hx14, -⟩ := hx
  rw [show ([.code (goR10 Try.f3)] : List Item) = [.code (.seq (.seq (goQ16 Try.f3) (.block 2 (.loop (goX2 Try.f3)))) (goR11 Try.f3))] by rw [← e10]]
  refine Win.seq ?_
  refine Win.seq ?_
  refine deskN_look T219_shape D (stok_at rfl rfl (by simp) (by kernel_rfl)) (fun wt Q hcell hQ => go_q16 hx1 hx2 hx7 hx9 hx10 hx12 hx13 hx14 hQ) fun x1 w1 hx k1 D1 => ?_
  refine Win.block ?_
  refine Win.loop ?_
  exact go_loop2 (fun i hi => ⟨hd.2 i hi, hok i hi⟩) hM5 (by omega) (by omega) (fun ag va pl F col w x A hx => H pA rA bl bh l ag va pl F col w x A (by omega) (by omega) hx) M 0 (by omega) x1 _ _ _ _ _ _ (Aw.made D1 k1) hx
end
end Go.Proofs.Ytnbaiinhalplcaa
