/- The law's own program, as a whole. Written by gen/ah_f.py. Conditions: as each theorem states them. -/
import Derived.Test.YtdingbkgkofanaaAhE
namespace Go.Proofs.Ytdingbkgkofanaa
set_option linter.unusedVariables false
set_option linter.unusedSimpArgs false
set_option maxRecDepth 100000
open Go.Conc
open Go.ConcN (upd_ne upd_same)

/-- What the program does. -/
def ptree {G : Type} (lst : G → Int) (setL : Int → G → G) : List (Int × Int × Int) → Int → Tree G
  | [], _ => .ret
  | (d, k, v) :: rest, last => if d = 0 then .node k (fun z => z) (fun u g => setL u g) (fun u _ => ptree lst setL rest u) (fun g => g)
    else if d = 1 then .node k (fun _ => IntKind.wrap .u64 (last + v)) (fun _ g => g) (fun _ g => ptree lst setL rest (lst g)) (fun g => g)
    else .node k (fun z => IntKind.wrap .u64 (z + v)) (fun u g => setL u g) (fun u _ => ptree lst setL rest u) (fun g => g)

theorem size_touch : Try.t48.size = 3 := rfl
theorem wrap_small {i : Nat} (h : i < 1073741824) : IntKind.wrap .i64 ((i : Int) + 1) = (i : Int) + 1 := by
  simp [IntKind.wrap, IntKind.min, IntKind.max, IntKind.signed, IntKind.bits]; omega

section
variable {W : World} {ρ : Operand → Value} {o : Oper}
theorem op_load (ba k : Nat) {x0 x1 x2 : Value} {i : Nat} (h0 : W.cell? ⟨ba, k, none⟩ = some x0) (h1 : W.cell? ⟨ba, k + 1, none⟩ = some x1) (h2 : W.cell? ⟨ba, k + 2, none⟩ = some x2) (ho : o.op = .load 48 (.tmp i)) (hρ : ρ (.tmp i) = .pointer (some ⟨ba, k, none⟩)) :
    (execOp ρ o).runT Try.prog W #[] = (.ok (.value (.agg #[x0, x1, x2])) W, #[⟨.cell ⟨ba, k, none⟩, false, false⟩, ⟨.cell ⟨ba, k + 1, none⟩, false, false⟩, ⟨.cell ⟨ba, k + 2, none⟩, false, false⟩]) := by
  have s48 := size_touch
  rw [Sem.runT_eq]
  simp [go_sem, execOp, ho, hρ, h0, h1, h2, isAgg, loadCells, loadCellsFrom, sizeOf, s48]
theorem op_store (b : Nat) {y0 y1 y2 : Value} {i j : Nat} (h0 : W.cell? ⟨b, 0, none⟩ = some y0) (h1 : W.cell? ⟨b, 1, none⟩ = some y1) (h2 : W.cell? ⟨b, 2, none⟩ = some y2) (hf : ∀ i, W.frozen? ⟨b, i, none⟩ = false) (ho : o.op = .store 48 (.tmp i) (.tmp j)) (hρ : ρ (.tmp i) = .pointer (some ⟨b, 0, none⟩)) {x0 x1 x2 : Int} (hρ' : ρ (.tmp j) = .agg #[.int .u8 x0, .int .i64 x1, .int .u64 x2]) :
    (execOp ρ o).runT Try.prog W #[] = (.ok .skip (((W.setCell ⟨b, 0, none⟩ (.int .u8 x0)).setCell ⟨b, 1, none⟩ (.int .i64 x1)).setCell ⟨b, 2, none⟩ (.int .u64 x2)), #[⟨.cell ⟨b, 0, none⟩, true, false⟩, ⟨.cell ⟨b, 1, none⟩, true, false⟩, ⟨.cell ⟨b, 2, none⟩, true, false⟩]) := by
  have hm : (Mode.plain == Mode.atomic) = false := by decide
  have s48 := size_touch
  rw [Sem.runT_eq]
  simp [go_sem, execOp, ho, hρ, hρ', h0, h1, h2, isAgg, storeCells, sizeOf, s48, hf, hm]
theorem op_index (ba oa i n cp : Nat) {x y : Nat} (hi : i < n) (ho : o.op = .indexAddr 38 (.tmp x) (.tmp y)) (hρ : ρ (.tmp x) = .slice (some ⟨ba, oa, none⟩) n cp) (hρ' : ρ (.tmp y) = .int .i64 i) :
    (execOp ρ o).runT Try.prog W #[] = (.ok (.value (.pointer (some ⟨ba, oa + 3 * i, none⟩))) W, #[]) := by
  have s48 := size_touch
  rw [Sem.runT_eq]
  simp [go_sem, execOp, ho, hρ, hρ', hi]
  try (first | done | (simp [Addr.add, s48]; done) | (simp [Addr.add, s48]; omega) | rfl)
theorem op_alloc (ho : o.op = .alloc 48) : (execOp ρ o).runT Try.prog W #[] = (.ok (.value (.pointer (some ⟨W.heap.size, 0, none⟩))) (W.alloc (.cells #[.int .u8 0, .int .i64 0, .int .u64 0] 48)), #[]) := by
  rw [Sem.runT_eq]
  simp [go_sem, execOp, ho]
  try rfl
end

/-- What an update asks. -/
theorem prog_adds {w : World} {bx : Nat} {v x : Int} (h : w.cell? ⟨bx, 2, none⟩ = some (.int .u64 v)) :
    Calls Try.prog 39 (#[.int .u64 x] ++ #[.pointer (some ⟨bx, 0, none⟩)]) w fun e w2 => e = .returned (.int .u64 (IntKind.wrap .u64 (x + v))) ∧ Kp [] w w2 := by
  refine calls_of_wp Try.func39 rfl ?_
  simp only [Try.ntmps39]
  go_wp2
  simp_all [bodyPost, results, Try.f39]
  try exact Kp.refl _ _

section
variable {G : Type} {Post : Value → World → Prop} {Sh : World → G → Prop} {SB : Nat → Prop} {pA rA : Nat} {a : Ag} {mv : Value} {home : Goroutine → Prop} {n : Nat} {T : Tree G} {runs ov : Bool}
variable {pl pl' : Nat → Option Place} {F F' : Nat → Option (Nat × Nat)} {col col' : Nat → Col} {w w' : World} {g : G}

/-- On to the next touch. -/
theorem prog_tail {b : Frame} (hb : b.kind = .normal) {cs : List Frame} {X : Code} {k : List Item} {ops : Array Oper} {y : Nat → Value} {i h : Nat} (h4 : y 4 = .int .i64 i) (hi : i < 1073741824)
    (H : ∀ z, z 0 = y 0 → z 1 = y 1 → z 2 = y 2 → z 4 = .int .i64 ((i + 1 : Nat) : Int) → Win Try.prog Post pl n h (gor (b.at ⟨T48 z, []⟩ (.inLoop X :: k)) cs) w) :
    Win Try.prog Post pl n h (gor (b.at ⟨T48 y, []⟩ (.inRegion ops [] :: .inBlock 2 :: .inBlock 1 :: .code (codeR (codeR (progX Try.f38))) :: .inLoop X :: k)) cs) w := by
  have hw := wrap_small hi
  simp only [bodyOf, Try.f38, codeL, codeR, regOps, blockOf, loopOf, condT, condE, progX, Option.getD_some, T48]
  refine Win.opsEnd ?_
  refine Win.inBlock ?_
  refine Win.inBlock ?_
  refine Win.region ?_
  simp only [List.size_toArray, List.length_cons, List.length_nil, Nat.reduceAdd, List.range, List.range.loop]
  refine Win.pureOp (v := .int .i64 i) (.inl hb) rfl rfl (fun w => by rw [Sem.runT_eq]; simp [go_sem, execOp, Act.eval, h4]; try rfl) ?_
  simp only [Act.put, Act.eval, List.getElem_toArray, List.getElem_cons_zero, List.getElem_cons_succ, List.setIfInBounds_toArray, List.set_cons_succ, List.set_cons_zero]
  refine Win.pureOp (v := .int .i64 ((i + 1 : Nat) : Int)) (.inl hb) rfl rfl (fun w => by rw [Sem.runT_eq]; simp [go_sem, execOp, Act.eval, h4, hw]; try rfl) ?_
  simp only [Act.put, Act.eval, List.getElem_toArray, List.getElem_cons_zero, List.getElem_cons_succ, List.setIfInBounds_toArray, List.set_cons_succ, List.set_cons_zero]
  refine Win.pureOp (v := .int .i64 ((i + 1 : Nat) : Int)) (.inl hb) rfl rfl (fun w => by rw [Sem.runT_eq]; simp [go_sem, execOp, Act.eval]; try rfl) ?_
  simp only [Act.put, Act.eval, List.getElem_toArray, List.getElem_cons_zero, List.getElem_cons_succ, List.setIfInBounds_toArray, List.set_cons_succ, List.set_cons_zero]
  refine Win.opsEnd ?_
  exact H (fun j => match j with | 4 => .int .i64 ((i + 1 : Nat) : Int) | 10 => .int .i64 i | 11 => .int .i64 ((i + 1 : Nat) : Int) | j => y j) rfl rfl rfl rfl
end
end Go.Proofs.Ytdingbkgkofanaa
