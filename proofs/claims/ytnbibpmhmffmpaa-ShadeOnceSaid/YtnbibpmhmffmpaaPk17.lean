/- Package shade over an agent's memory, in company: Shade. Written by gen/so_b.py. ShadeOnce's program, in company. Written by gen/so_c.py. Conditions: as each theorem states them. -/
import Derived.Test.YtnbibpmhmffmpaaPk16
namespace Go.Proofs.Ytnbibpmhmffmpaa
set_option linter.unusedVariables false
set_option linter.unusedSimpArgs false
set_option maxRecDepth 100000
open Go.Conc
open Go.ConcN (upd_ne upd_same)

def T35 (x : Nat → Value) : Array Value := #[x 0, x 1, x 2, x 3, x 4, x 5, x 6, x 7, x 8, x 9, x 10, x 11, x 12, x 13, x 14, x 15, x 16, x 17, x 18, x 19, x 20, x 21, x 22, x 23, x 24, x 25, x 26, x 27, x 28, x 29, x 30, x 31, x 32, x 33, x 34]
def shE (f : Func) : Code := codeR (codeR (codeR (codeR (bodyOf f))))
def shD (f : Func) : Code := codeR (codeR (codeR (bodyOf f)))
/-- What Shade does. -/
def stree {G : Type} (k cc : Int) (up : Bool → G → G) (T : Bool → Tree G) (hl : G → G) : Tree G :=
  .node k (fun x => x) (fun v g => if tellI v cc = 1 then g else up (metI v cc) g) (fun v _ => if tellI v cc = 1 then .node k (fun x => shadeI x cc) (fun u g => up (metI u cc) g) (fun u _ => T (metI u cc)) hl else T (metI v cc)) hl

section
variable {G : Type} {Post : Value → World → Prop} {Sh : World → G → Prop} {SB : Nat → Prop} {pA rA : Nat} {a : Ag} {mv : Value} {home : Goroutine → Prop} {n : Nat} {runs ov : Bool}
variable {pl pl' : Nat → Option Place} {F F' F1 : Nat → Option (Nat × Nat)} {col col' col1 : Nat → Col} {w w' w1 : World} {g : G} {S : Nat → Prop} {k cc : Int} {c₀ : Frame} {cs : List Frame}

/-- Its end. -/
theorem shade_fin {h : Nat} {y : Nat → Value} {u : Int} (hy7 : y 7 = .int .u8 (tellI u cc)) (H : Win Try.prog Post pl n h (gor (c₀.finish (.bool (metI u cc))) cs) w) :
    Win Try.prog Post pl n h (gor ((Frame.enter Try.prog 25 #[.iface 136 (.pointer (some ⟨a.m, 0, none⟩)), .int .i64 k, .int .u8 cc] .normal).at ⟨T35 y, []⟩ [.code (shE Try.f25)]) (c₀ :: cs)) w := by
  have hb : (Frame.enter Try.prog 25 #[.iface 136 (.pointer (some ⟨a.m, 0, none⟩)), .int .i64 k, .int .u8 cc] .normal).kind = .normal := rfl
  simp only [shE, bodyOf, Try.f25, codeR, Option.getD_some, T35]
  simp only [hy7]
  unfold metI at H
  generalize tellI u cc = t at H ⊢
  by_cases h1 : t = 1
  · subst h1
    rw [show decide ((1 : Int) = 1 ∨ (1 : Int) = 2) = true from rfl] at H
    refine Win.seq ?_
    refine Win.region ?_
    simp only [List.size_toArray, List.length_cons, List.length_nil, Nat.reduceAdd, List.range, List.range.loop]
    refine Win.pureOp (v := .int .u8 1) (.inl hb) rfl rfl (fun w => rfl) ?_
    simp only [Act.put, Act.eval, List.getElem?_toArray, List.getElem?_cons_zero, List.getElem?_cons_succ, Option.bind_some, List.getElem_toArray, List.getElem_cons_zero, List.getElem_cons_succ, List.setIfInBounds_toArray, List.set_cons_succ, List.set_cons_zero]
    refine Win.pureOp (v := .bool true) (.inl hb) rfl rfl (fun w => by rw [Sem.runT_eq]; simp [go_sem, execOp, Act.eval]; try (first | omega | rfl | exact ⟨rfl, rfl⟩ | kernel_rfl)) ?_
    simp only [Act.put, Act.eval, List.getElem?_toArray, List.getElem?_cons_zero, List.getElem?_cons_succ, Option.bind_some, List.getElem_toArray, List.getElem_cons_zero, List.getElem_cons_succ, List.setIfInBounds_toArray, List.set_cons_succ, List.set_cons_zero]
    refine Win.pureOp (v := .bool true) (.inl hb) rfl rfl (fun w => rfl) ?_
    simp only [Act.put, Act.eval, List.getElem?_toArray, List.getElem?_cons_zero, List.getElem?_cons_succ, Option.bind_some, List.getElem_toArray, List.getElem_cons_zero, List.getElem_cons_succ, List.setIfInBounds_toArray, List.set_cons_succ, List.set_cons_zero]
    refine Win.opSkip rfl rfl ?_
    simp only [Act.put, Act.eval, List.getElem?_toArray, List.getElem?_cons_zero, List.getElem?_cons_succ, Option.bind_some, List.getElem_toArray, List.getElem_cons_zero, List.getElem_cons_succ, List.setIfInBounds_toArray, List.set_cons_succ, List.set_cons_zero]
    refine Win.opSkip rfl rfl ?_
    simp only [Act.put, Act.eval, List.getElem?_toArray, List.getElem?_cons_zero, List.getElem?_cons_succ, Option.bind_some, List.getElem_toArray, List.getElem_cons_zero, List.getElem_cons_succ, List.setIfInBounds_toArray, List.set_cons_succ, List.set_cons_zero]
    refine Win.pureOp (v := .bool true) (.inl hb) rfl rfl (fun w => by rw [Sem.runT_eq]; simp [go_sem, execOp, Act.eval]; try (first | omega | rfl | exact ⟨rfl, rfl⟩ | kernel_rfl)) ?_
    simp only [Act.put, Act.eval, List.getElem?_toArray, List.getElem?_cons_zero, List.getElem?_cons_succ, Option.bind_some, List.getElem_toArray, List.getElem_cons_zero, List.getElem_cons_succ, List.setIfInBounds_toArray, List.set_cons_succ, List.set_cons_zero]
    refine Win.pureOp (v := .bool true) (.inl hb) rfl rfl (fun w => rfl) ?_
    simp only [Act.put, Act.eval, List.getElem?_toArray, List.getElem?_cons_zero, List.getElem?_cons_succ, Option.bind_some, List.getElem_toArray, List.getElem_cons_zero, List.getElem_cons_succ, List.setIfInBounds_toArray, List.set_cons_succ, List.set_cons_zero]
    refine Win.opsEnd ?_
    refine Win.ret ?_
    exact Win.leave (v := .bool true) rfl rfl rfl Try.func25 (fun d => ⟨#[], by rw [Sem.runT_eq]; simp [go_sem, results, Try.f25, Frame.at], fun e he => by simp at he⟩) H
  by_cases h2 : t = 2
  · subst h2
    rw [show decide ((2 : Int) = 1 ∨ (2 : Int) = 2) = true from rfl] at H
    refine Win.seq ?_
    refine Win.region ?_
    simp only [List.size_toArray, List.length_cons, List.length_nil, Nat.reduceAdd, List.range, List.range.loop]
    refine Win.pureOp (v := .int .u8 2) (.inl hb) rfl rfl (fun w => rfl) ?_
    simp only [Act.put, Act.eval, List.getElem?_toArray, List.getElem?_cons_zero, List.getElem?_cons_succ, Option.bind_some, List.getElem_toArray, List.getElem_cons_zero, List.getElem_cons_succ, List.setIfInBounds_toArray, List.set_cons_succ, List.set_cons_zero]
    refine Win.pureOp (v := .bool false) (.inl hb) rfl rfl (fun w => by rw [Sem.runT_eq]; simp [go_sem, execOp, Act.eval, h1]; try (first | omega | rfl | exact ⟨rfl, rfl⟩ | kernel_rfl)) ?_
    simp only [Act.put, Act.eval, List.getElem?_toArray, List.getElem?_cons_zero, List.getElem?_cons_succ, Option.bind_some, List.getElem_toArray, List.getElem_cons_zero, List.getElem_cons_succ, List.setIfInBounds_toArray, List.set_cons_succ, List.set_cons_zero]
    refine Win.pureOp (v := .bool false) (.inl hb) rfl rfl (fun w => rfl) ?_
    simp only [Act.put, Act.eval, List.getElem?_toArray, List.getElem?_cons_zero, List.getElem?_cons_succ, Option.bind_some, List.getElem_toArray, List.getElem_cons_zero, List.getElem_cons_succ, List.setIfInBounds_toArray, List.set_cons_succ, List.set_cons_zero]
    refine Win.pureOp (v := .int .u8 2) (.inl hb) rfl rfl (fun w => rfl) ?_
    simp only [Act.put, Act.eval, List.getElem?_toArray, List.getElem?_cons_zero, List.getElem?_cons_succ, Option.bind_some, List.getElem_toArray, List.getElem_cons_zero, List.getElem_cons_succ, List.setIfInBounds_toArray, List.set_cons_succ, List.set_cons_zero]
    refine Win.pureOp (v := .bool true) (.inl hb) rfl rfl (fun w => by rw [Sem.runT_eq]; simp [go_sem, execOp, Act.eval]; try (first | omega | rfl | exact ⟨rfl, rfl⟩ | kernel_rfl)) ?_
    simp only [Act.put, Act.eval, List.getElem?_toArray, List.getElem?_cons_zero, List.getElem?_cons_succ, Option.bind_some, List.getElem_toArray, List.getElem_cons_zero, List.getElem_cons_succ, List.setIfInBounds_toArray, List.set_cons_succ, List.set_cons_zero]
    refine Win.pureOp (v := .bool true) (.inl hb) rfl rfl (fun w => by rw [Sem.runT_eq]; simp [go_sem, execOp, Act.eval]; try (first | omega | rfl | exact ⟨rfl, rfl⟩ | kernel_rfl)) ?_
    simp only [Act.put, Act.eval, List.getElem?_toArray, List.getElem?_cons_zero, List.getElem?_cons_succ, Option.bind_some, List.getElem_toArray, List.getElem_cons_zero, List.getElem_cons_succ, List.setIfInBounds_toArray, List.set_cons_succ, List.set_cons_zero]
    refine Win.pureOp (v := .bool true) (.inl hb) rfl rfl (fun w => rfl) ?_
    simp only [Act.put, Act.eval, List.getElem?_toArray, List.getElem?_cons_zero, List.getElem?_cons_succ, Option.bind_some, List.getElem_toArray, List.getElem_cons_zero, List.getElem_cons_succ, List.setIfInBounds_toArray, List.set_cons_succ, List.set_cons_zero]
    refine Win.opsEnd ?_
    refine Win.ret ?_
    exact Win.leave (v := .bool true) rfl rfl rfl Try.func25 (fun d => ⟨#[], by rw [Sem.runT_eq]; simp [go_sem, results, Try.f25, Frame.at], fun e he => by simp at he⟩) H
  rw [show decide (t = 1 ∨ t = 2) = false from by simp [h1, h2]] at H
  refine Win.seq ?_
  refine Win.region ?_
  simp only [List.size_toArray, List.length_cons, List.length_nil, Nat.reduceAdd, List.range, List.range.loop]
  refine Win.pureOp (v := .int .u8 t) (.inl hb) rfl rfl (fun w => rfl) ?_
  simp only [Act.put, Act.eval, List.getElem?_toArray, List.getElem?_cons_zero, List.getElem?_cons_succ, Option.bind_some, List.getElem_toArray, List.getElem_cons_zero, List.getElem_cons_succ, List.setIfInBounds_toArray, List.set_cons_succ, List.set_cons_zero]
  refine Win.pureOp (v := .bool false) (.inl hb) rfl rfl (fun w => by rw [Sem.runT_eq]; simp [go_sem, execOp, Act.eval, h1]; try (first | omega | rfl | exact ⟨rfl, rfl⟩ | kernel_rfl)) ?_
  simp only [Act.put, Act.eval, List.getElem?_toArray, List.getElem?_cons_zero, List.getElem?_cons_succ, Option.bind_some, List.getElem_toArray, List.getElem_cons_zero, List.getElem_cons_succ, List.setIfInBounds_toArray, List.set_cons_succ, List.set_cons_zero]
  refine Win.pureOp (v := .bool false) (.inl hb) rfl rfl (fun w => rfl) ?_
  simp only [Act.put, Act.eval, List.getElem?_toArray, List.getElem?_cons_zero, List.getElem?_cons_succ, Option.bind_some, List.getElem_toArray, List.getElem_cons_zero, List.getElem_cons_succ, List.setIfInBounds_toArray, List.set_cons_succ, List.set_cons_zero]
  refine Win.pureOp (v := .int .u8 t) (.inl hb) rfl rfl (fun w => rfl) ?_
  simp only [Act.put, Act.eval, List.getElem?_toArray, List.getElem?_cons_zero, List.getElem?_cons_succ, Option.bind_some, List.getElem_toArray, List.getElem_cons_zero, List.getElem_cons_succ, List.setIfInBounds_toArray, List.set_cons_succ, List.set_cons_zero]
  refine Win.pureOp (v := .bool false) (.inl hb) rfl rfl (fun w => by rw [Sem.runT_eq]; simp [go_sem, execOp, Act.eval, h2]; try (first | omega | rfl | exact ⟨rfl, rfl⟩ | kernel_rfl)) ?_
  simp only [Act.put, Act.eval, List.getElem?_toArray, List.getElem?_cons_zero, List.getElem?_cons_succ, Option.bind_some, List.getElem_toArray, List.getElem_cons_zero, List.getElem_cons_succ, List.setIfInBounds_toArray, List.set_cons_succ, List.set_cons_zero]
  refine Win.pureOp (v := .bool false) (.inl hb) rfl rfl (fun w => by rw [Sem.runT_eq]; simp [go_sem, execOp, Act.eval]; try (first | omega | rfl | exact ⟨rfl, rfl⟩ | kernel_rfl)) ?_
  simp only [Act.put, Act.eval, List.getElem?_toArray, List.getElem?_cons_zero, List.getElem?_cons_succ, Option.bind_some, List.getElem_toArray, List.getElem_cons_zero, List.getElem_cons_succ, List.setIfInBounds_toArray, List.set_cons_succ, List.set_cons_zero]
  refine Win.pureOp (v := .bool false) (.inl hb) rfl rfl (fun w => rfl) ?_
  simp only [Act.put, Act.eval, List.getElem?_toArray, List.getElem?_cons_zero, List.getElem?_cons_succ, Option.bind_some, List.getElem_toArray, List.getElem_cons_zero, List.getElem_cons_succ, List.setIfInBounds_toArray, List.set_cons_succ, List.set_cons_zero]
  refine Win.opsEnd ?_
  refine Win.ret ?_
  exact Win.leave (v := .bool false) rfl rfl rfl Try.func25 (fun d => ⟨#[], by rw [Sem.runT_eq]; simp [go_sem, results, Try.f25, Frame.at], fun e he => by simp at he⟩) H
set_option maxHeartbeats 4000000 in
/-- Behind its read. -/
theorem shade_turn (hSh : ∀ g, Priv SB (fun w => Sh w g)) (hmv : mv = memV pA) (h0c : 0 ≤ cc) (hcc : cc ≤ 1) {up : Bool → G → G} {T : Bool → Tree G} {hl : G → G} {own : Nat → Prop} {A : World → Prop}
    (hA : Acts SB pA rA a mv home true false pl F col w) (hown : ∀ b, own b → col b = .ag a.j) (hP : Priv own A) (hAw : A w) (hs : Sh w g)
    (hres : ∀ b home n pl' F' col' w' g, Acts SB pA rA a mv home true false pl' F' col' w' → (∀ b, own b → col' b = .ag a.j) → A w' → Sh w' g → Kont Post Sh SB pA rA a mv home n (T b) pl' F' col' w' (up b g) → Win Try.prog Post pl' n a.j (gor (c₀.finish (.bool b)) cs) w')
    (hstop : ∀ home n pl' F' col' w' g, Ends SB pA rA a mv home pl' F' col' w' → (∀ b, own b → col' b = .ag a.j) → A w' → Sh w' g → Kont Post Sh SB pA rA a mv home n .ret pl' F' col' w' (hl g) → Win Try.prog Post pl' n a.j (gor (c₀.raise [haltE]) cs) w') {bn : Nat} (hcl : ∀ w, A w → w.heap[bn]? = some (.cells #[.int .u8 cc] 5 (0, 0))) {y : Nat → Value} {v : Int} (hy0 : y 0 = .iface 136 (.pointer (some ⟨a.m, 0, none⟩))) (hy1 : y 1 = .int .i64 k) (hy5 : y 5 = .pointer (some ⟨bn, 0, none⟩)) (hy7 : y 7 = .int .u8 (tellI v cc))
    (K : Kont Post Sh SB pA rA a mv home n (if tellI v cc = 1 then .node k (fun x => shadeI x cc) (fun u g => up (metI u cc) g) (fun u _ => T (metI u cc)) hl else T (metI v cc)) pl F col w (if tellI v cc = 1 then g else up (metI v cc) g)) :
    Win Try.prog Post pl n a.j (gor ((Frame.enter Try.prog 25 #[.iface 136 (.pointer (some ⟨a.m, 0, none⟩)), .int .i64 k, .int .u8 cc] .normal).at ⟨T35 y, []⟩ [.code (shD Try.f25)]) (c₀ :: cs)) w := by
  have hb : (Frame.enter Try.prog 25 #[.iface 136 (.pointer (some ⟨a.m, 0, none⟩)), .int .i64 k, .int .u8 cc] .normal).kind = .normal := rfl
  by_cases ht : tellI v cc = 1
  · rw [if_pos ht, if_pos ht] at K
    have hfin := fun (y : Nat → Value) (u : Int) (h : Nat) (pl : Nat → Option Place) (n : Nat) (w : World) => shade_fin (Post := Post) (pl := pl) (n := n) (w := w) (a := a) (k := k) (cc := cc) (c₀ := c₀) (cs := cs) (h := h) (y := y) (u := u)
    simp only [bodyOf, Try.f25, codeR, shD, shE, Option.getD_some, T35] at hfin ⊢
    simp only [hy0, hy1, hy5, hy7, ht]
    refine Win.seq ?_
    refine Win.seq ?_
    refine Win.region ?_
    simp only [List.size_toArray, List.length_cons, List.length_nil, Nat.reduceAdd, List.range, List.range.loop]
    refine Win.pureOp (v := .int .u8 1) (.inl hb) rfl rfl (fun w => rfl) ?_
    simp only [Act.put, Act.eval, List.getElem?_toArray, List.getElem?_cons_zero, List.getElem?_cons_succ, Option.bind_some, List.getElem_toArray, List.getElem_cons_zero, List.getElem_cons_succ, List.setIfInBounds_toArray, List.set_cons_succ, List.set_cons_zero]
    refine Win.pureOp (v := .bool true) (.inl hb) rfl rfl (fun w => by rw [Sem.runT_eq]; simp [go_sem, execOp, Act.eval]; try (first | omega | rfl | exact ⟨rfl, rfl⟩ | kernel_rfl)) ?_
    simp only [Act.put, Act.eval, List.getElem?_toArray, List.getElem?_cons_zero, List.getElem?_cons_succ, Option.bind_some, List.getElem_toArray, List.getElem_cons_zero, List.getElem_cons_succ, List.setIfInBounds_toArray, List.set_cons_succ, List.set_cons_zero]
    refine Win.opsEnd ?_
    refine Win.cond (t := true) rfl ?_
    simp only [if_true, if_false, Bool.false_eq_true]
    refine Win.seq ?_
    refine Win.region ?_
    simp only [List.size_toArray, List.length_cons, List.length_nil, Nat.reduceAdd, List.range, List.range.loop]
    refine Win.pureOp (v := .iface 136 (.pointer (some ⟨a.m, 0, none⟩))) (.inl hb) rfl rfl (fun w => rfl) ?_
    simp only [Act.put, Act.eval, List.getElem?_toArray, List.getElem?_cons_zero, List.getElem?_cons_succ, Option.bind_some, List.getElem_toArray, List.getElem_cons_zero, List.getElem_cons_succ, List.setIfInBounds_toArray, List.set_cons_succ, List.set_cons_zero]
    refine Win.pureOp (v := .int .i64 k) (.inl hb) rfl rfl (fun w => rfl) ?_
    simp only [Act.put, Act.eval, List.getElem?_toArray, List.getElem?_cons_zero, List.getElem?_cons_succ, Option.bind_some, List.getElem_toArray, List.getElem_cons_zero, List.getElem_cons_succ, List.setIfInBounds_toArray, List.set_cons_succ, List.set_cons_zero]
    refine Win.pureOp (v := .func (.func 58) #[] #[.pointer (some ⟨bn, 0, none⟩)]) (.inl hb) rfl rfl (fun w => by rw [Sem.runT_eq]; simp [go_sem, execOp, Act.eval]; try (first | omega | rfl | exact ⟨rfl, rfl⟩ | kernel_rfl)) ?_
    simp only [Act.put, Act.eval, List.getElem?_toArray, List.getElem?_cons_zero, List.getElem?_cons_succ, Option.bind_some, List.getElem_toArray, List.getElem_cons_zero, List.getElem_cons_succ, List.setIfInBounds_toArray, List.set_cons_succ, List.set_cons_zero]
    refine Win.enter (f := 121) (args := #[.pointer (some ⟨a.m, 0, none⟩), .int .i64 k, .func (.func 58) #[] #[.pointer (some ⟨bn, 0, none⟩)]]) (.inl hb) rfl rfl (fun d => ⟨#[], by kernel_rfl, fun e he => by simp at he⟩) ?_
    refine bupdate2 (own := own) (A := A) (φ := fun x => shadeI x cc) hSh hmv hA hown hP hAw hs (fun _ _ => rfl) (fun w' x hA' h0 h1 => cl_shade x cc bn w' h0 h1 h0c (cell_of_row (hcl _ hA') 0)) (fun u h0 h1 home n pl' F' col' w' g hA' hown' hA2 hs' K' => ?_) (fun home n pl' F' col' w' g hE hown' hA2 hs' K' => ?_) K
    · rw [Frame.finish_at]
      simp only [Act.put, Act.eval, List.getElem?_toArray, List.getElem?_cons_zero, List.getElem?_cons_succ, Option.bind_some, List.getElem_toArray, List.getElem_cons_zero, List.getElem_cons_succ, List.setIfInBounds_toArray, List.set_cons_succ, List.set_cons_zero]
      refine Win.pureOp (v := .int .u64 u) (.inl hb) rfl rfl (fun w => rfl) ?_
      simp only [Act.put, Act.eval, List.getElem?_toArray, List.getElem?_cons_zero, List.getElem?_cons_succ, Option.bind_some, List.getElem_toArray, List.getElem_cons_zero, List.getElem_cons_succ, List.setIfInBounds_toArray, List.set_cons_succ, List.set_cons_zero]
      refine Win.opsEnd ?_
      refine Win.region ?_
      simp only [List.size_toArray, List.length_cons, List.length_nil, Nat.reduceAdd, List.range, List.range.loop]
      refine Win.pureOp (v := .int .u64 u) (.inl hb) rfl rfl (fun w => rfl) ?_
      simp only [Act.put, Act.eval, List.getElem?_toArray, List.getElem?_cons_zero, List.getElem?_cons_succ, Option.bind_some, List.getElem_toArray, List.getElem_cons_zero, List.getElem_cons_succ, List.setIfInBounds_toArray, List.set_cons_succ, List.set_cons_zero]
      refine Win.lookOp (v := .int .u8 cc) (ad := ⟨bn, 0, none⟩) (x := .int .u8 cc) (.inl hb) rfl rfl (cell_of_row (hcl _ hA2) 0) (fun w hc => by rw [Sem.runT_eq]; simp [go_sem, execOp, Act.eval, hc]) ?_
      simp only [Act.put, Act.eval, List.getElem?_toArray, List.getElem?_cons_zero, List.getElem?_cons_succ, Option.bind_some, List.getElem_toArray, List.getElem_cons_zero, List.getElem_cons_succ, List.setIfInBounds_toArray, List.set_cons_succ, List.set_cons_zero]
      refine Win.enter (f := 26) (args := #[.int .u64 u, .int .u8 cc]) (.inl hb) rfl rfl (fun d => ⟨#[], call_enter mild.toMild Try.func26 rfl rfl rfl rfl _ _ (by simp [Act.eval]), fun e he => by simp at he⟩) ?_
      refine Win.calls mild hA'.lies (stok_at rfl rfl (by simp) (by kernel_rfl)) (R := fun e wz => e = .returned (.int .u8 (tellI u cc)) ∧ Ks (fun _ => False) (hA'.lies.veil.world (fun _ _ => 0) 0 w') wz) (fun τ => (tell_is u cc _ _ h0 h1 rfl).mono (by rintro e wz ⟨h1, h2⟩; exact ⟨h1, ks_twin0 ((ks_of_kp h2).mono fun b _ z => by cases z)⟩)) (fun e w' h => ⟨_, h.1⟩) ?_
      intro v' w2 τ Dd hok' hVOK hVK hR
      obtain ⟨hv, h3⟩ := hR
      obtain rfl : v' = .int .u8 (tellI u cc) := by simpa using hv
      have k2 := ks_of_twin hA'.lies hVOK hVK h3
      have L2 := hA'.lies.keeps hVK hVOK
      obtain ⟨A3, hM⟩ := hA'.grow k2 L2
      have hA3 := hP.grow hA2 k2
      have hs3 := (hSh g).grow hs' k2
      have K3 := K'.moves hM
      have ho3 : ∀ b, own b → grown a.j col' w' w2 b = .ag a.j := fun b hb => grown_ag hA'.lay (hown' b hb)
      rw [Frame.finish_at]
      simp only [Act.put, Act.eval, List.getElem?_toArray, List.getElem?_cons_zero, List.getElem?_cons_succ, Option.bind_some, List.getElem_toArray, List.getElem_cons_zero, List.getElem_cons_succ, List.setIfInBounds_toArray, List.set_cons_succ, List.set_cons_zero]
      refine Win.pureOp (v := .int .u8 (tellI u cc)) (.inl hb) rfl rfl (fun w => rfl) ?_
      simp only [Act.put, Act.eval, List.getElem?_toArray, List.getElem?_cons_zero, List.getElem?_cons_succ, Option.bind_some, List.getElem_toArray, List.getElem_cons_zero, List.getElem_cons_succ, List.setIfInBounds_toArray, List.set_cons_succ, List.set_cons_zero]
      refine Win.opsEnd ?_
      exact hfin (fun j => match j with | 0 => .iface 136 (.pointer (some ⟨a.m, 0, none⟩)) | 1 => .int .i64 k | 5 => .pointer (some ⟨bn, 0, none⟩) | 7 => .int .u8 (tellI u cc) | 8 => .int .u64 u | 20 => .int .u8 1 | 21 => .bool true | 22 => .iface 136 (.pointer (some ⟨a.m, 0, none⟩)) | 23 => .int .i64 k | 24 => .func (.func 58) #[] #[.pointer (some ⟨bn, 0, none⟩)] | 25 => .int .u64 u | 26 => .int .u64 u | 27 => .int .u8 cc | 28 => .int .u8 (tellI u cc) | j => y j) u a.j pl' n w2 rfl (hres _ home n pl' F' _ w2 g A3 ho3 hA3 hs3 K3)
    · refine Win.unwinds (chain := [haltE]) rfl rfl (by kernel_rfl) ?_
      exact hstop home n pl' F' col' w' g hE hown' hA2 hs' K'
  · rw [if_neg ht, if_neg ht] at K
    have hfin := fun (y : Nat → Value) (u : Int) (h : Nat) (pl : Nat → Option Place) (n : Nat) (w : World) => shade_fin (Post := Post) (pl := pl) (n := n) (w := w) (a := a) (k := k) (cc := cc) (c₀ := c₀) (cs := cs) (h := h) (y := y) (u := u)
    simp only [bodyOf, Try.f25, codeR, shD, shE, Option.getD_some, T35] at hfin ⊢
    simp only [hy0, hy1, hy5, hy7]
    refine Win.seq ?_
    refine Win.seq ?_
    refine Win.region ?_
    simp only [List.size_toArray, List.length_cons, List.length_nil, Nat.reduceAdd, List.range, List.range.loop]
    refine Win.pureOp (v := .int .u8 (tellI v cc)) (.inl hb) rfl rfl (fun w => rfl) ?_
    simp only [Act.put, Act.eval, List.getElem?_toArray, List.getElem?_cons_zero, List.getElem?_cons_succ, Option.bind_some, List.getElem_toArray, List.getElem_cons_zero, List.getElem_cons_succ, List.setIfInBounds_toArray, List.set_cons_succ, List.set_cons_zero]
    refine Win.pureOp (v := .bool false) (.inl hb) rfl rfl (fun w => by rw [Sem.runT_eq]; simp [go_sem, execOp, Act.eval, ht]; try (first | omega | rfl | exact ⟨rfl, rfl⟩ | kernel_rfl)) ?_
    simp only [Act.put, Act.eval, List.getElem?_toArray, List.getElem?_cons_zero, List.getElem?_cons_succ, Option.bind_some, List.getElem_toArray, List.getElem_cons_zero, List.getElem_cons_succ, List.setIfInBounds_toArray, List.set_cons_succ, List.set_cons_zero]
    refine Win.opsEnd ?_
    refine Win.cond (t := false) rfl ?_
    simp only [if_true, if_false, Bool.false_eq_true]
    refine Win.skip ?_
    exact hfin (fun j => match j with | 0 => .iface 136 (.pointer (some ⟨a.m, 0, none⟩)) | 1 => .int .i64 k | 5 => .pointer (some ⟨bn, 0, none⟩) | 7 => .int .u8 (tellI v cc) | 20 => .int .u8 (tellI v cc) | 21 => .bool false | j => y j) v a.j pl n w rfl (hres _ home n pl F col w g hA hown hAw hs K)
structure SC (G : Type) where
  home : Goroutine → Prop
  n : Nat
  pl : Nat → Option Place
  F : Nat → Option (Nat × Nat)
  col : Nat → Col
  w : World
  g : G
  v : Int

set_option maxHeartbeats 4000000 in
/-- SHADE, over an agent's memory. -/
theorem shade_in (hSh : ∀ g, Priv SB (fun w => Sh w g)) (hmv : mv = memV pA) (h0c : 0 ≤ cc) (hcc : cc ≤ 1) {up : Bool → G → G} {T : Bool → Tree G} {hl : G → G} {own : Nat → Prop} {A : World → Prop}
    (hA : Acts SB pA rA a mv home true false pl F col w) (hown : ∀ b, own b → col b = .ag a.j) (hP : Priv own A) (hAw : A w) (hs : Sh w g)
    (hres : ∀ b home n pl' F' col' w' g, Acts SB pA rA a mv home true false pl' F' col' w' → (∀ b, own b → col' b = .ag a.j) → A w' → Sh w' g → Kont Post Sh SB pA rA a mv home n (T b) pl' F' col' w' (up b g) → Win Try.prog Post pl' n a.j (gor (c₀.finish (.bool b)) cs) w')
    (hstop : ∀ home n pl' F' col' w' g, Ends SB pA rA a mv home pl' F' col' w' → (∀ b, own b → col' b = .ag a.j) → A w' → Sh w' g → Kont Post Sh SB pA rA a mv home n .ret pl' F' col' w' (hl g) → Win Try.prog Post pl' n a.j (gor (c₀.raise [haltE]) cs) w')
    (K : Kont Post Sh SB pA rA a mv home n (stree k cc up T hl) pl F col w g) :
    Win Try.prog Post pl n a.j (gor (Frame.enter Try.prog 25 #[.iface 136 (.pointer (some ⟨a.m, 0, none⟩)), .int .i64 k, .int .u8 cc] .normal) (c₀ :: cs)) w := by
  have hb : (Frame.enter Try.prog 25 #[.iface 136 (.pointer (some ⟨a.m, 0, none⟩)), .int .i64 k, .int .u8 cc] .normal).kind = .normal := rfl
  have hcg : ¬ 1 < cc := by omega
  have hturn := fun (bn : Nat) (hcl : ∀ w, (A w ∧ w.heap[bn]? = some (.cells #[.int .u8 cc] 5 (0, 0))) → w.heap[bn]? = some (.cells #[.int .u8 cc] 5 (0, 0))) (y : Nat → Value) (v : Int) (pl : Nat → Option Place) (F : Nat → Option (Nat × Nat)) (col : Nat → Col) (home : Goroutine → Prop) (n : Nat) (w : World) (g : G) (hP' : Priv (fun b => own b ∨ b = bn) (fun w => A w ∧ w.heap[bn]? = some (.cells #[.int .u8 cc] 5 (0, 0)))) (hA : Acts SB pA rA a mv home true false pl F col w) (hown : ∀ b, (own b ∨ b = bn) → col b = .ag a.j) (hAw : A w ∧ w.heap[bn]? = some (.cells #[.int .u8 cc] 5 (0, 0))) (hs : Sh w g) => shade_turn (Post := Post) (n := n) (a := a) (k := k) (cc := cc) (c₀ := c₀) (cs := cs) (up := up) (T := T) (hl := hl) (own := fun b => own b ∨ b = bn) (A := fun w => A w ∧ w.heap[bn]? = some (.cells #[.int .u8 cc] 5 (0, 0))) (y := y) (v := v) (bn := bn) hSh hmv h0c hcc hA hown hP' hAw hs (fun b home n pl' F' col' w' g h1 h2 h3 h4 h5 => hres b home n pl' F' col' w' g h1 (fun b hb => h2 b (.inl hb)) h3.1 h4 h5) (fun home n pl' F' col' w' g h1 h2 h3 h4 h5 => hstop home n pl' F' col' w' g h1 (fun b hb => h2 b (.inl hb)) h3.1 h4 h5) hcl
  rw [enter_at Try.func25 rfl]
  simp only [Try.ntmps25, List.size_toArray, List.length_cons, List.length_nil, Nat.reduceAdd, Nat.reduceSub, Array.replicate_succ, Array.replicate_zero, List.push_toArray, List.append_toArray, List.nil_append, List.cons_append] at hb ⊢
  simp only [bodyOf, Try.f25, codeR, shD, shE, Option.getD_some, T35] at hturn
  obtain ⟨bn, hbn⟩ : ∃ bn, bn = w.heap.size := ⟨_, rfl⟩
  have kb := ks_alloc (fun _ => False) w (.cells #[.int .u8 cc] 5)
  have rb := alloc_new w (.cells #[.int .u8 cc] 5)
  obtain ⟨A1, M1⟩ := hA.grow kb (hA.lies.alloc _)
  have hA1 := hP.grow hAw kb
  have hs1 := (hSh g).grow hs kb
  have K1 := K.moves M1
  have hP1 : Priv (fun b => own b ∨ b = bn) (fun w => A w ∧ w.heap[bn]? = some (.cells #[.int .u8 cc] 5 (0, 0))) := hP.and (Priv.row bn _ _ _)
  have ho1 : ∀ b, (own b ∨ b = bn) → grown a.j col w (w.alloc (.cells #[.int .u8 cc] 5)) b = .ag a.j := fun b hb => by
    rcases hb with hb | hb
    · exact grown_ag hA.lay (hown b hb)
    · exact grown_new (by omega) (by rw [hb, hbn, World.size_alloc]; omega)
  refine Win.seq ?_
  refine Win.region ?_
  simp only [List.size_toArray, List.length_cons, List.length_nil, Nat.reduceAdd, List.range, List.range.loop]
  refine Win.makeOp (v := .pointer (some ⟨w.heap.size, 0, none⟩)) (ob := .cells #[.int .u8 cc] 5) (es := #[]) hA.lies (.inl hb) rfl rfl (fun d => by rw [Sem.runT_eq]; simp [go_sem, execOp, Act.eval]; try rfl) (fun e he => by simp at he) ?_
  simp only [Act.put, Act.eval, List.getElem?_toArray, List.getElem?_cons_zero, List.getElem?_cons_succ, Option.bind_some, List.getElem_toArray, List.getElem_cons_zero, List.getElem_cons_succ, List.setIfInBounds_toArray, List.set_cons_succ, List.set_cons_zero]
  rw [← hbn] at rb ⊢
  generalize hgc : grown a.j col w (w.alloc (.cells #[.int .u8 cc] 5)) = col1 at A1 K1 ho1 M1
  generalize w.alloc (.cells #[.int .u8 cc] 5) = w1 at A1 K1 hA1 hs1 rb kb M1 hgc ⊢
  refine Win.pureOp (v := .bool false) (.inl hb) rfl rfl (fun w => rfl) ?_
  simp only [Act.put, Act.eval, List.getElem?_toArray, List.getElem?_cons_zero, List.getElem?_cons_succ, Option.bind_some, List.getElem_toArray, List.getElem_cons_zero, List.getElem_cons_succ, List.setIfInBounds_toArray, List.set_cons_succ, List.set_cons_zero]
  refine Win.opsEnd ?_
  refine Win.seq ?_
  refine Win.seq ?_
  refine Win.region ?_
  simp only [List.size_toArray, List.length_cons, List.length_nil, Nat.reduceAdd, List.range, List.range.loop]
  refine Win.pureOp (v := .iface 136 (.pointer (some ⟨a.m, 0, none⟩))) (.inl hb) rfl rfl (fun w => rfl) ?_
  simp only [Act.put, Act.eval, List.getElem?_toArray, List.getElem?_cons_zero, List.getElem?_cons_succ, Option.bind_some, List.getElem_toArray, List.getElem_cons_zero, List.getElem_cons_succ, List.setIfInBounds_toArray, List.set_cons_succ, List.set_cons_zero]
  refine Win.pureOp (v := .bool false) (.inl hb) rfl rfl (fun w => by rw [Sem.runT_eq]; simp [go_sem, execOp, Act.eval]; try (first | omega | rfl | exact ⟨rfl, rfl⟩ | kernel_rfl)) ?_
  simp only [Act.put, Act.eval, List.getElem?_toArray, List.getElem?_cons_zero, List.getElem?_cons_succ, Option.bind_some, List.getElem_toArray, List.getElem_cons_zero, List.getElem_cons_succ, List.setIfInBounds_toArray, List.set_cons_succ, List.set_cons_zero]
  refine Win.pureOp (v := .bool false) (.inl hb) rfl rfl (fun w => rfl) ?_
  simp only [Act.put, Act.eval, List.getElem?_toArray, List.getElem?_cons_zero, List.getElem?_cons_succ, Option.bind_some, List.getElem_toArray, List.getElem_cons_zero, List.getElem_cons_succ, List.setIfInBounds_toArray, List.set_cons_succ, List.set_cons_zero]
  refine Win.lookOp (v := .int .u8 cc) (ad := ⟨bn, 0, none⟩) (x := .int .u8 cc) (.inl hb) rfl rfl (cell_of_row rb 0) (fun w hc => by rw [Sem.runT_eq]; simp [go_sem, execOp, Act.eval, hc]) ?_
  simp only [Act.put, Act.eval, List.getElem?_toArray, List.getElem?_cons_zero, List.getElem?_cons_succ, Option.bind_some, List.getElem_toArray, List.getElem_cons_zero, List.getElem_cons_succ, List.setIfInBounds_toArray, List.set_cons_succ, List.set_cons_zero]
  refine Win.pureOp (v := .bool false) (.inl hb) rfl rfl (fun w => by rw [Sem.runT_eq]; simp [go_sem, execOp, Act.eval, hcg]; try (first | omega | rfl | exact ⟨rfl, rfl⟩ | kernel_rfl)) ?_
  simp only [Act.put, Act.eval, List.getElem?_toArray, List.getElem?_cons_zero, List.getElem?_cons_succ, Option.bind_some, List.getElem_toArray, List.getElem_cons_zero, List.getElem_cons_succ, List.setIfInBounds_toArray, List.set_cons_succ, List.set_cons_zero]
  refine Win.pureOp (v := .bool false) (.inl hb) rfl rfl (fun w => by rw [Sem.runT_eq]; simp [go_sem, execOp, Act.eval]; try (first | omega | rfl | exact ⟨rfl, rfl⟩ | kernel_rfl)) ?_
  simp only [Act.put, Act.eval, List.getElem?_toArray, List.getElem?_cons_zero, List.getElem?_cons_succ, Option.bind_some, List.getElem_toArray, List.getElem_cons_zero, List.getElem_cons_succ, List.setIfInBounds_toArray, List.set_cons_succ, List.set_cons_zero]
  refine Win.opsEnd ?_
  refine Win.cond (t := false) rfl ?_
  simp only [if_true, if_false, Bool.false_eq_true]
  refine Win.skip ?_
  refine Win.seq ?_
  refine Win.anyFill (C := SC G) (Goal := fun c fr => Win Try.prog Post c.pl c.n a.j (gor fr (c₀ :: cs)) c.w) mixed (by kernel_rfl) (fun c i => match i with | 0 => .iface 136 (.pointer (some ⟨a.m, 0, none⟩)) | 1 => .int .i64 k | 2 => .int .u64 c.v | 3 => .int .u8 cc | 4 => .int .u8 (tellI c.v cc) | 5 => .int .u8 (tellI c.v cc) | _ => undef) (fun c => (⟨#[.iface 136 (.pointer (some ⟨a.m, 0, none⟩)), .int .i64 k, .int .u8 cc, undef, undef, .pointer (some ⟨bn, 0, none⟩), .bool false, .int .u8 (tellI c.v cc), undef, .iface 136 (.pointer (some ⟨a.m, 0, none⟩)), .bool false, .bool false, .int .u8 cc, .bool false, .bool false, .iface 136 (.pointer (some ⟨a.m, 0, none⟩)), .int .i64 k, .int .u64 c.v, .int .u8 cc, .int .u8 (tellI c.v cc), undef, undef, undef, undef, undef, undef, undef, undef, undef, undef, undef, undef, undef, undef, undef], []⟩ : Act)) (fun c => by simp only [fillAll, List.size_toArray, List.length_cons, List.length_nil, Nat.reduceAdd, List.range, List.range.loop, List.foldl_cons, List.foldl_nil, List.getElem?_toArray, List.getElem?_cons_zero, List.getElem?_cons_succ, Option.bind_some, Option.bind_none, Act.put, List.setIfInBounds_toArray, List.set_cons_succ, List.set_cons_zero]) (fun X c => Acts SB pA rA a mv c.home true false c.pl c.F c.col c.w ∧ (∀ b, (own b ∨ b = bn) → c.col b = .ag a.j) ∧ A c.w ∧ c.w.heap[bn]? = some (.cells #[.int .u8 cc] 5 (0, 0)) ∧ (X.getD 2 false = false → Sh c.w c.g ∧ Kont Post Sh SB pA rA a mv c.home c.n (stree k cc up T hl) c.pl c.F c.col c.w c.g) ∧ (X.getD 2 false = true → (0 ≤ c.v ∧ c.v < 18446744073709551616) ∧ Sh c.w c.g ∧ Kont Post Sh SB pA rA a mv c.home c.n (if tellI c.v cc = 1 then .node k (fun x => shadeI x cc) (fun u g => up (metI u cc) g) (fun u _ => T (metI u cc)) hl else T (metI c.v cc)) c.pl c.F c.col c.w (if tellI c.v cc = 1 then c.g else up (metI c.v cc) c.g))) ⟨home, n, pl, F, col1, w1, g, 0⟩ (fun fr h => h) ?_ ?_ ⟨A1, ho1, hA1, rb, fun _ => ⟨hs1, K1⟩, fun z => by simp at z⟩
  · intro X i o hX ho hx hr c a' L' hJ hcl hL'' hfl e1 e2 hd hn
    rcases i with _ | _ | _ | _ | _ | _ | i
    · obtain rfl := Option.some.inj ho
      refine Win.op (v := .iface 136 (.pointer (some ⟨a.m, 0, none⟩))) (.inl hb) rfl rfl (fun d => ⟨#[], by rw [e1, Sem.runT_eq]; simp [go_sem, execOp, Act.eval]; try (first | rfl | exact ⟨rfl, rfl⟩ | kernel_rfl), fun e he => by simp at he⟩) (hn c (fun _ _ => rfl) ⟨hJ.1, hJ.2.1, hJ.2.2.1, hJ.2.2.2.1, fun z => hJ.2.2.2.2.1 (by rw [getD_set_ne false (by decide)] at z; exact z), fun z => hJ.2.2.2.2.2 (by rw [getD_set_ne false (by decide)] at z; exact z)⟩)
    · obtain rfl := Option.some.inj ho
      refine Win.op (v := .int .i64 k) (.inl hb) rfl rfl (fun d => ⟨#[], by rw [e1, Sem.runT_eq]; simp [go_sem, execOp, Act.eval]; try (first | rfl | exact ⟨rfl, rfl⟩ | kernel_rfl), fun e he => by simp at he⟩) (hn c (fun _ _ => rfl) ⟨hJ.1, hJ.2.1, hJ.2.2.1, hJ.2.2.2.1, fun z => hJ.2.2.2.2.1 (by rw [getD_set_ne false (by decide)] at z; exact z), fun z => hJ.2.2.2.2.2 (by rw [getD_set_ne false (by decide)] at z; exact z)⟩)
    · obtain rfl := Option.some.inj ho
      have hx' : X.getD 2 false = false := by
        have hlt : 2 < X.size := by rw [hX]; decide
        simpa [hlt] using hx
      obtain ⟨hsc, hK⟩ := hJ.2.2.2.2.1 hx'
      refine Win.enter (f := 120) (args := #[.pointer (some ⟨a.m, 0, none⟩), .int .i64 k]) (.inl hb) rfl rfl (fun d => ⟨#[], by rw [e1]; kernel_rfl, fun e he => by simp at he⟩) ?_
      refine bread2 hSh hmv hJ.1 hJ.2.1 hP1 ⟨hJ.2.2.1, hJ.2.2.2.1⟩ hsc ?_ ?_ hK
      · intro v v0 v1 home' n' pl' F' col' w' g2 hA2 ho2 hA2' hs2 K2
        rw [Frame.finish_at]
        have no4 : X.getD 4 false = false := by
          cases h : X.getD 4 false with
          | false => rfl
          | true => have := hcl 4 _ rfl h { on := 2, ground := Ground.data } (by simp) rfl; rw [hx'] at this; cases this
        have no5 : X.getD 5 false = false := by
          cases h : X.getD 5 false with
          | false => rfl
          | true => have := hcl 5 _ rfl h { on := 4, ground := Ground.data } (by simp) rfl; rw [no4] at this; cases this
        refine hn ⟨home', n', pl', F', col', w', g2, v⟩ (fun j hj => ?_) ⟨hA2, ho2, hA2'.1, hA2'.2, fun z => (by rw [getD_set_self (by rw [hX]; decide)] at z; cases z), fun _ => ⟨⟨v0, v1⟩, hs2, K2⟩⟩
        rcases j with _ | _ | _ | _ | _ | _ | j
        · rfl
        · rfl
        · rw [hx'] at hj; cases hj
        · rfl
        · rw [no4] at hj; cases hj
        · rw [no5] at hj; cases hj
        · rfl
      · intro home' n' pl' F' col' w' g2 hE ho2 hA2' hs2 K2
        refine Win.unwinds (chain := [haltE]) rfl hd (by kernel_rfl) ?_
        exact hstop home' n' pl' F' col' w' g2 hE (fun b hb => ho2 b (.inl hb)) hA2'.1 hs2 K2
    · obtain rfl := Option.some.inj ho
      have r1 := cell_of_row hJ.2.2.2.1 0
      refine Win.op (v := .int .u8 cc) (.inl hb) rfl rfl (fun d => ⟨#[⟨.cell ⟨bn, 0, none⟩, false, false⟩], by rw [e1, Sem.runT_eq]; have hc : (World.at c.w d).cell? ⟨bn, 0, none⟩ = some (.int .u8 cc) := r1; generalize World.at c.w d = W at hc ⊢; simp [go_sem, execOp, Act.eval, hc], fun e he => by obtain rfl : e = ⟨.cell ⟨bn, 0, none⟩, false, false⟩ := (by simpa using he); exact ⟨rfl, fun m => by simp⟩⟩) (hn c (fun _ _ => rfl) ⟨hJ.1, hJ.2.1, hJ.2.2.1, hJ.2.2.2.1, fun z => hJ.2.2.2.2.1 (by rw [getD_set_ne false (by decide)] at z; exact z), fun z => hJ.2.2.2.2.2 (by rw [getD_set_ne false (by decide)] at z; exact z)⟩)
    · obtain rfl := Option.some.inj ho
      have g2 := hr { on := 2, ground := Ground.data } (by simp) rfl
      obtain ⟨⟨h0, h1⟩, hsc, hK⟩ := hJ.2.2.2.2.2 g2
      refine Win.enter (f := 26) (args := #[.int .u64 c.v, .int .u8 cc]) (.inl hb) rfl rfl (fun d => ⟨#[], by rw [e1]; exact call_enter mild.toMild Try.func26 rfl rfl rfl rfl _ _ (by simp [Act.eval]), fun e he => by simp at he⟩) ?_
      refine Win.calls mild hJ.1.lies (stok_at rfl rfl (fun x hx => by rw [hd] at hx; simp at hx) (by kernel_rfl)) (R := fun e wz => e = .returned (.int .u8 (tellI c.v cc)) ∧ Ks (fun _ => False) (hJ.1.lies.veil.world (fun _ _ => 0) 0 c.w) wz) (fun τ => (tell_is c.v cc _ _ h0 h1 rfl).mono (by rintro e wz ⟨h1, h2⟩; exact ⟨h1, ks_twin0 ((ks_of_kp h2).mono fun b _ z => by cases z)⟩)) (fun e w' h => ⟨_, h.1⟩) ?_
      intro v' w2 τ Dd hok' hVOK hVK hR
      obtain ⟨hv, h3⟩ := hR
      obtain rfl : v' = .int .u8 (tellI c.v cc) := by simpa using hv
      have k2 := ks_of_twin hJ.1.lies hVOK hVK h3
      have L2 := hJ.1.lies.keeps hVK hVOK
      obtain ⟨A3, hM⟩ := hJ.1.grow k2 L2
      rw [Frame.finish_at]
      refine hn ⟨c.home, c.n, c.pl, c.F, grown a.j c.col c.w w2, w2, c.g, c.v⟩ (fun j hj => rfl) ⟨A3, fun b hb => grown_ag hJ.1.lay (hJ.2.1 b hb), hP.grow hJ.2.2.1 k2, k2.row (fun z => z) hJ.2.2.2.1, fun z => (by rw [getD_set_ne false (by decide), g2] at z; cases z), fun _ => ⟨⟨h0, h1⟩, (hSh c.g).grow hsc k2, hK.moves hM⟩⟩
    · obtain rfl := Option.some.inj ho
      refine Win.op (v := .int .u8 (tellI c.v cc)) (.inl hb) rfl rfl (fun d => ⟨#[], by rw [e1, Sem.runT_eq]; simp [go_sem, execOp, Act.eval]; try (first | rfl | exact ⟨rfl, rfl⟩ | kernel_rfl), fun e he => by simp at he⟩) (hn c (fun _ _ => rfl) ⟨hJ.1, hJ.2.1, hJ.2.2.1, hJ.2.2.2.1, fun z => hJ.2.2.2.2.1 (by rw [getD_set_ne false (by decide)] at z; exact z), fun z => hJ.2.2.2.2.2 (by rw [getD_set_ne false (by decide)] at z; exact z)⟩)
    · simp at ho
  · intro X c hall hJ
    obtain ⟨_, z1, z2⟩ := hJ.2.2.2.2.2 (hall 2 (by simp))
    refine Win.opsEnd ?_
    exact hturn bn (fun w h => h.2) (fun j => match j with | 0 => .iface 136 (.pointer (some ⟨a.m, 0, none⟩)) | 1 => .int .i64 k | 2 => .int .u8 cc | 5 => .pointer (some ⟨bn, 0, none⟩) | 6 => .bool false | 7 => .int .u8 (tellI c.v cc) | 9 => .iface 136 (.pointer (some ⟨a.m, 0, none⟩)) | 10 => .bool false | 11 => .bool false | 12 => .int .u8 cc | 13 => .bool false | 14 => .bool false | 15 => .iface 136 (.pointer (some ⟨a.m, 0, none⟩)) | 16 => .int .i64 k | 17 => .int .u64 c.v | 18 => .int .u8 cc | 19 => .int .u8 (tellI c.v cc) | j => undef) c.v c.pl c.F c.col c.home c.n c.w c.g hP1 hJ.1 hJ.2.1 ⟨hJ.2.2.1, hJ.2.2.2.1⟩ z1 rfl rfl rfl rfl z2
end
end Go.Proofs.Ytnbibpmhmffmpaa

namespace Go.Proofs.Ytnbibpmhmffmpaa
set_option linter.unusedVariables false
set_option linter.unusedSimpArgs false
set_option maxRecDepth 100000
open Go.Conc
open Go.ConcN (upd_ne upd_same)

/-- What all share: what each was told, and the colour. -/
def onceSh (be bc M : Nat) (cc : Int) (w : World) (g : List Int) : Prop := endsSh be M w g ∧ w.heap[bc]? = some (.cells #[.int .u8 cc] 5 (0, 0))
theorem priv_once (be bc M : Nat) (cc : Int) (g : List Int) : Priv (fun b => b = be ∨ b = bc) (fun w => onceSh be bc M cc w g) := (priv_ends be M g).and (Priv.row bc _ _ _)
/-- What an agent does. -/
def otree (k cc : Int) (ix : Nat) (d : Int) : Tree (List Int) :=
  if 127 < d then .node k blackI (fun _ g => g) (fun _ _ => .ret) (fun g => g) else stree k cc (fun b g => if b then g.set ix 2 else g) (fun _ => .ret) (fun g => g)
/-- What the program holds. -/
def OnA (a : Ag) (b1 b2 bd bk bt be ix : Nat) (d k : Int) (w : World) : Prop := (w.heap[bd]? = some (.cells #[.int .u8 d] 5 (0, 0)) ∧ w.heap[bk]? = some (.cells #[.int .i64 k] 3 (0, 0))) ∧ w.heap[bt]? = some (.cells #[.pointer (some ⟨be, ix, none⟩)] 62 (0, 0)) ∧ Boxed a b1 b2 w
def onOwn (b1 b2 bd bk bt : Nat) (b : Nat) : Prop := (b = bd ∨ b = bk) ∨ b = bt ∨ (b = b1 ∨ b = b2)
theorem priv_on (a : Ag) (b1 b2 bd bk bt be ix : Nat) (d k : Int) : Priv (onOwn b1 b2 bd bk bt) (OnA a b1 b2 bd bk bt be ix d k) := ((Priv.row _ _ _ _).and (Priv.row _ _ _ _)).and ((Priv.row _ _ _ _).and (priv_boxed a b1 b2))

section
variable {Post : Value → World → Prop} {SB : Nat → Prop} {pA rA : Nat} {a : Ag} {mv : Value} {home : Goroutine → Prop} {n : Nat}
variable {pl pl' : Nat → Option Place} {F F' : Nat → Option (Nat × Nat)} {col col' : Nat → Col} {w w' : World} {g : List Int} {b1 b2 bd bk bt be bc ix M : Nat} {d k cc : Int} {gf : FuncId} {cap : Array Value}

/-- A number is told. -/
theorem once_told (hSe : SB be) (hbc : bc ≠ be) (hix : ix < M) (hA : Acts SB pA rA a mv home true false pl F col w) (hown : ∀ b, onOwn b1 b2 bd bk bt b → col b = .ag a.j) (hAw : OnA a b1 b2 bd bk bt be ix d k w) (hs : onceSh be bc M cc w g) (v : Int) :
    Acts SB pA rA a mv home true false pl F (grown a.j col w (w.setCell ⟨be, ix, none⟩ (.int .i64 v))) (w.setCell ⟨be, ix, none⟩ (.int .i64 v)) ∧ Moves (mine a col) a.j F col w F (grown a.j col w (w.setCell ⟨be, ix, none⟩ (.int .i64 v))) (w.setCell ⟨be, ix, none⟩ (.int .i64 v)) ∧
      (∀ b, onOwn b1 b2 bd bk bt b → grown a.j col w (w.setCell ⟨be, ix, none⟩ (.int .i64 v)) b = .ag a.j) ∧ OnA a b1 b2 bd bk bt be ix d k (w.setCell ⟨be, ix, none⟩ (.int .i64 v)) ∧ onceSh be bc M cc (w.setCell ⟨be, ix, none⟩ (.int .i64 v)) (g.set ix v) := by
  have kk := ks_setCell w ⟨be, ix, none⟩ (.int .i64 v)
  obtain ⟨A1, M1⟩ := hA.turn kk (hA.lies.setCell _ _) (fun b hb => .inr (by
    have e : b = be := hb
    rw [e]; exact hA.lay.sb _ hSe))
  refine ⟨A1, M1, fun b hb => grown_ag hA.lay (hown b hb), (priv_on _ _ _ _ _ _ _ _ _ _).st _ _ hAw fun b hb => kk.block b ((priv_on _ _ _ _ _ _ _ _ _ _).lt _ _ hAw hb) fun e => ?_, ends_set hs.1 _ _, kk.row (fun e => hbc e) hs.2⟩
  have e' : b = be := e
  have := hown b hb
  rw [e', hA.lay.sb _ hSe] at this; cases this

set_option maxHeartbeats 4000000 in
/-- THE PROGRAM, from its begin. -/
theorem once_runs (hSe : SB be) (hbc : bc ≠ be) (hix : ix < M) (hmv : mv = memV pA) (h0c : 0 ≤ cc) (hcc : cc ≤ 1) (hSh : ∀ g, Priv SB (fun w => onceSh be bc M cc w g))
    (hA : Acts SB pA rA a mv home true false pl F col w) (hown : ∀ b, onOwn b1 b2 bd bk bt b → col b = .ag a.j) (hAw : OnA a b1 b2 bd bk bt be ix d k w) (hs : onceSh be bc M cc w g)
    (K0 : Kont Post (onceSh be bc M cc) SB pA rA a mv home n (otree k cc ix d) pl F col w (if 127 < d then g else g.set ix 1)) :
    Win Try.prog Post pl n a.j (gor (Frame.enter Try.prog 23 (#[.iface 136 (.pointer (some ⟨a.m, 0, none⟩))] ++ #[.pointer (some ⟨bd, 0, none⟩), .pointer (some ⟨bk, 0, none⟩), .pointer (some ⟨bt, 0, none⟩), .pointer (some ⟨bc, 0, none⟩)]) .normal) [runFr Try.prog Try.f45 a.p a.m b1 b2 gf cap, rootFr Try.prog]) w := by
  have hb : (Frame.enter Try.prog 23 (#[.iface 136 (.pointer (some ⟨a.m, 0, none⟩))] ++ #[.pointer (some ⟨bd, 0, none⟩), .pointer (some ⟨bk, 0, none⟩), .pointer (some ⟨bt, 0, none⟩), .pointer (some ⟨bc, 0, none⟩)]) CallKind.normal).kind = .normal := rfl
  have hout : ∀ (ac : Act) (kk : List Item) home n pl F col w g, ac.defers = [] → Acts SB pA rA a mv home true false pl F col w → OnA a b1 b2 bd bk bt be ix d k w → onceSh be bc M cc w g → Kont Post (onceSh be bc M cc) SB pA rA a mv home n .ret pl F col w g → Win Try.prog Post pl n a.j (gor { (Frame.enter Try.prog 23 (#[.iface 136 (.pointer (some ⟨a.m, 0, none⟩))] ++ #[.pointer (some ⟨bd, 0, none⟩), .pointer (some ⟨bk, 0, none⟩), .pointer (some ⟨bt, 0, none⟩), .pointer (some ⟨bc, 0, none⟩)]) .normal).at ac kk with mode := .returning } [runFr Try.prog Try.f45 a.p a.m b1 b2 gf cap, rootFr Try.prog]) w :=
    fun ac kk home n pl F col w g hd hA hAw hs K => by
      refine Win.leave (v := .tuple #[]) rfl hd rfl Try.func23 (fun d => ⟨#[], by rw [Sem.runT_eq]; simp [go_sem, results, Try.f23], fun e he => by simp at he⟩) ?_
      exact ret_out hA.ends hAw.2.2 hs hSh K
  have hstop : ∀ (ac : Act) (kk : List Item), ac.defers = [] → ∀ home n pl F col w g, Ends SB pA rA a mv home pl F col w → (∀ b, onOwn b1 b2 bd bk bt b → col b = .ag a.j) → OnA a b1 b2 bd bk bt be ix d k w → onceSh be bc M cc w g → Kont Post (onceSh be bc M cc) SB pA rA a mv home n .ret pl F col w g → Win Try.prog Post pl n a.j (gor (((Frame.enter Try.prog 23 (#[.iface 136 (.pointer (some ⟨a.m, 0, none⟩))] ++ #[.pointer (some ⟨bd, 0, none⟩), .pointer (some ⟨bk, 0, none⟩), .pointer (some ⟨bt, 0, none⟩), .pointer (some ⟨bc, 0, none⟩)]) .normal).at ac kk).raise [haltE]) [runFr Try.prog Try.f45 a.p a.m b1 b2 gf cap, rootFr Try.prog]) w :=
    fun ac kk hd home n pl F col w g hE _ hAw hs K => halt_out hE hAw.2.2 hs hSh hd (by kernel_rfl) K
  rw [enter_at Try.func23 rfl]
  simp only [Try.ntmps23, List.size_toArray, List.length_cons, List.length_nil, Nat.reduceAdd, Nat.reduceSub, Array.replicate_succ, Array.replicate_zero, List.push_toArray, List.append_toArray, List.nil_append, List.cons_append] at hb hout hstop ⊢
  unfold otree at K0
  by_cases hd : 127 < d
  · rw [if_pos hd, if_pos hd] at K0
    refine Win.seq ?_
    refine Win.seq ?_
    refine Win.region ?_
    simp only [List.size_toArray, List.length_cons, List.length_nil, Nat.reduceAdd, List.range, List.range.loop]
    refine Win.lookOp (v := .int .u8 d) (ad := ⟨bd, 0, none⟩) (x := .int .u8 d) (.inl hb) rfl rfl (cell_of_row hAw.1.1 0) (fun w hc => by rw [Sem.runT_eq]; simp [go_sem, execOp, Act.eval, hc]) ?_
    simp only [Act.put, Act.eval, List.getElem?_toArray, List.getElem?_cons_zero, List.getElem?_cons_succ, Option.bind_some, List.getElem_toArray, List.getElem_cons_zero, List.getElem_cons_succ, List.setIfInBounds_toArray, List.set_cons_succ, List.set_cons_zero]
    refine Win.pureOp (v := .bool true) (.inl hb) rfl rfl (fun w => by rw [Sem.runT_eq]; simp [go_sem, execOp, Act.eval, hd]; try (first | omega | rfl | exact ⟨rfl, rfl⟩ | kernel_rfl)) ?_
    simp only [Act.put, Act.eval, List.getElem?_toArray, List.getElem?_cons_zero, List.getElem?_cons_succ, Option.bind_some, List.getElem_toArray, List.getElem_cons_zero, List.getElem_cons_succ, List.setIfInBounds_toArray, List.set_cons_succ, List.set_cons_zero]
    refine Win.opsEnd ?_
    refine Win.cond (t := true) rfl ?_
    simp only [if_true, if_false, Bool.false_eq_true]
    refine Win.seq ?_
    refine Win.region ?_
    simp only [List.size_toArray, List.length_cons, List.length_nil, Nat.reduceAdd, List.range, List.range.loop]
    refine Win.pureOp (v := .iface 136 (.pointer (some ⟨a.m, 0, none⟩))) (.inl hb) rfl rfl (fun w => rfl) ?_
    simp only [Act.put, Act.eval, List.getElem?_toArray, List.getElem?_cons_zero, List.getElem?_cons_succ, Option.bind_some, List.getElem_toArray, List.getElem_cons_zero, List.getElem_cons_succ, List.setIfInBounds_toArray, List.set_cons_succ, List.set_cons_zero]
    refine Win.lookOp (v := .int .i64 k) (ad := ⟨bk, 0, none⟩) (x := .int .i64 k) (.inl hb) rfl rfl (cell_of_row hAw.1.2 0) (fun w hc => by rw [Sem.runT_eq]; simp [go_sem, execOp, Act.eval, hc]) ?_
    simp only [Act.put, Act.eval, List.getElem?_toArray, List.getElem?_cons_zero, List.getElem?_cons_succ, Option.bind_some, List.getElem_toArray, List.getElem_cons_zero, List.getElem_cons_succ, List.setIfInBounds_toArray, List.set_cons_succ, List.set_cons_zero]
    refine Win.enter (f := 24) (args := #[.iface 136 (.pointer (some ⟨a.m, 0, none⟩)), .int .i64 k]) (.inl hb) rfl rfl (fun d => ⟨#[], call_enter mild.toMild Try.func24 rfl rfl rfl rfl _ _ (by simp [Act.eval]), fun e he => by simp at he⟩) ?_
    refine black_in (own := onOwn b1 b2 bd bk bt) (A := OnA a b1 b2 bd bk bt be ix d k) hSh hmv hA hown (priv_on _ _ _ _ _ _ _ _ _ _) hAw hs (fun v h0 h1 home n pl' F' col' w' g hA' hown' hA2 hs' K' => ?_) (fun home n pl' F' col' w' g hE hown' hA2 hs' K' => hstop _ _ rfl home n pl' F' col' w' g hE hown' hA2 hs' K') K0
    rw [Frame.finish_at]
    simp only [Act.put, Act.eval, List.getElem?_toArray, List.getElem?_cons_zero, List.getElem?_cons_succ, Option.bind_some, List.getElem_toArray, List.getElem_cons_zero, List.getElem_cons_succ, List.setIfInBounds_toArray, List.set_cons_succ, List.set_cons_zero]
    refine Win.opsEnd ?_
    refine Win.ret ?_
    exact hout _ _ home n pl' F' col' w' g rfl hA' hA2 hs' K'
  · rw [if_neg hd, if_neg hd] at K0
    obtain ⟨hc1, hf1⟩ := ends_cell hs.1 hix
    obtain ⟨A1, M1, ho1, hA1, hs1⟩ := once_told hSe hbc hix hA hown hAw hs 1
    have K1 := Kont.moves M1 K0
    have FR1 := hA.free_shared (q := ⟨be, ix, none⟩) hSe hc1
    refine Win.seq ?_
    refine Win.seq ?_
    refine Win.region ?_
    simp only [List.size_toArray, List.length_cons, List.length_nil, Nat.reduceAdd, List.range, List.range.loop]
    refine Win.lookOp (v := .int .u8 d) (ad := ⟨bd, 0, none⟩) (x := .int .u8 d) (.inl hb) rfl rfl (cell_of_row hAw.1.1 0) (fun w hc => by rw [Sem.runT_eq]; simp [go_sem, execOp, Act.eval, hc]) ?_
    simp only [Act.put, Act.eval, List.getElem?_toArray, List.getElem?_cons_zero, List.getElem?_cons_succ, Option.bind_some, List.getElem_toArray, List.getElem_cons_zero, List.getElem_cons_succ, List.setIfInBounds_toArray, List.set_cons_succ, List.set_cons_zero]
    refine Win.pureOp (v := .bool false) (.inl hb) rfl rfl (fun w => by rw [Sem.runT_eq]; simp [go_sem, execOp, Act.eval, hd]; try (first | omega | rfl | exact ⟨rfl, rfl⟩ | kernel_rfl)) ?_
    simp only [Act.put, Act.eval, List.getElem?_toArray, List.getElem?_cons_zero, List.getElem?_cons_succ, Option.bind_some, List.getElem_toArray, List.getElem_cons_zero, List.getElem_cons_succ, List.setIfInBounds_toArray, List.set_cons_succ, List.set_cons_zero]
    refine Win.opsEnd ?_
    refine Win.cond (t := false) rfl ?_
    simp only [if_true, if_false, Bool.false_eq_true]
    refine Win.skip ?_
    refine Win.seq ?_
    refine Win.region ?_
    simp only [List.size_toArray, List.length_cons, List.length_nil, Nat.reduceAdd, List.range, List.range.loop]
    refine Win.lookOp (v := .pointer (some ⟨be, ix, none⟩)) (ad := ⟨bt, 0, none⟩) (x := .pointer (some ⟨be, ix, none⟩)) (.inl hb) rfl rfl (cell_of_row hAw.2.1 0) (fun w hc => by rw [Sem.runT_eq]; simp [go_sem, execOp, Act.eval, hc]) ?_
    simp only [Act.put, Act.eval, List.getElem?_toArray, List.getElem?_cons_zero, List.getElem?_cons_succ, Option.bind_some, List.getElem_toArray, List.getElem_cons_zero, List.getElem_cons_succ, List.setIfInBounds_toArray, List.set_cons_succ, List.set_cons_zero]
    refine Win.pureOp (v := .pointer (some ⟨be, ix, none⟩)) (.inl hb) rfl rfl (fun w => by rw [Sem.runT_eq]; simp [go_sem, execOp, Act.eval]; try (first | omega | rfl | exact ⟨rfl, rfl⟩ | kernel_rfl)) ?_
    simp only [Act.put, Act.eval, List.getElem?_toArray, List.getElem?_cons_zero, List.getElem?_cons_succ, Option.bind_some, List.getElem_toArray, List.getElem_cons_zero, List.getElem_cons_succ, List.setIfInBounds_toArray, List.set_cons_succ, List.set_cons_zero]
    refine Win.storeOp (ad := ⟨be, ix, none⟩) (x := .int .i64 1) (.inl hb) rfl rfl FR1 (fun dd => by
      rw [Sem.runT_eq]
      have c1 : (World.at w dd).cell? ⟨be, ix, none⟩ = _ := hc1
      have c2 : (World.at w dd).frozen? ⟨be, ix, none⟩ = false := hf1
      generalize World.at w dd = W at c1 c2 ⊢
      obtain ⟨s1, s2⟩ := store_ok (P := Try.prog) (x := .int .i64 1) (w := W) (m := .plain) (by simp) (by simp) c1 c2
      simp [go_sem, execOp, Act.eval, s1, s2, c1, c2]) ?_
    simp only [Act.put, Act.eval, List.getElem?_toArray, List.getElem?_cons_zero, List.getElem?_cons_succ, Option.bind_some, List.getElem_toArray, List.getElem_cons_zero, List.getElem_cons_succ, List.setIfInBounds_toArray, List.set_cons_succ, List.set_cons_zero]
    refine Win.opsEnd ?_
    refine Win.seq ?_
    refine Win.region ?_
    simp only [List.size_toArray, List.length_cons, List.length_nil, Nat.reduceAdd, List.range, List.range.loop]
    refine Win.pureOp (v := .iface 136 (.pointer (some ⟨a.m, 0, none⟩))) (.inl hb) rfl rfl (fun w => rfl) ?_
    simp only [Act.put, Act.eval, List.getElem?_toArray, List.getElem?_cons_zero, List.getElem?_cons_succ, Option.bind_some, List.getElem_toArray, List.getElem_cons_zero, List.getElem_cons_succ, List.setIfInBounds_toArray, List.set_cons_succ, List.set_cons_zero]
    refine Win.lookOp (v := .int .i64 k) (ad := ⟨bk, 0, none⟩) (x := .int .i64 k) (.inl hb) rfl rfl (cell_of_row hA1.1.2 0) (fun w hc => by rw [Sem.runT_eq]; simp [go_sem, execOp, Act.eval, hc]) ?_
    simp only [Act.put, Act.eval, List.getElem?_toArray, List.getElem?_cons_zero, List.getElem?_cons_succ, Option.bind_some, List.getElem_toArray, List.getElem_cons_zero, List.getElem_cons_succ, List.setIfInBounds_toArray, List.set_cons_succ, List.set_cons_zero]
    refine Win.lookOp (v := .int .u8 cc) (ad := ⟨bc, 0, none⟩) (x := .int .u8 cc) (.inl hb) rfl rfl (cell_of_row hs1.2 0) (fun w hc => by rw [Sem.runT_eq]; simp [go_sem, execOp, Act.eval, hc]) ?_
    simp only [Act.put, Act.eval, List.getElem?_toArray, List.getElem?_cons_zero, List.getElem?_cons_succ, Option.bind_some, List.getElem_toArray, List.getElem_cons_zero, List.getElem_cons_succ, List.setIfInBounds_toArray, List.set_cons_succ, List.set_cons_zero]
    refine Win.enter (f := 25) (args := #[.iface 136 (.pointer (some ⟨a.m, 0, none⟩)), .int .i64 k, .int .u8 cc]) (.inl hb) rfl rfl (fun d => ⟨#[], call_enter mild.toMild Try.func25 rfl rfl rfl rfl _ _ (by simp [Act.eval]), fun e he => by simp at he⟩) ?_
    refine shade_in (own := onOwn b1 b2 bd bk bt) (A := OnA a b1 b2 bd bk bt be ix d k) hSh hmv h0c hcc A1 ho1 (priv_on _ _ _ _ _ _ _ _ _ _) hA1 hs1 (fun t home n pl' F' col' w' g hA' hown' hA2 hs' K' => ?_) (fun home n pl' F' col' w' g hE hown' hA2 hs' K' => hstop _ _ rfl home n pl' F' col' w' g hE hown' hA2 hs' K') K1
    rw [Frame.finish_at]
    simp only [Act.put, Act.eval, List.getElem?_toArray, List.getElem?_cons_zero, List.getElem?_cons_succ, Option.bind_some, List.getElem_toArray, List.getElem_cons_zero, List.getElem_cons_succ, List.setIfInBounds_toArray, List.set_cons_succ, List.set_cons_zero]
    refine Win.opsEnd ?_
    cases t with
    | false =>
      refine Win.cond (t := false) rfl ?_
      simp only [if_true, if_false, Bool.false_eq_true]
      refine Win.skip ?_
      refine Win.falls ?_
      rw [if_neg (by decide)] at K'
      exact hout _ _ home n pl' F' col' w' g rfl hA' hA2 hs' K'
    | true =>
      rw [if_pos rfl] at K'
      obtain ⟨hc2, hf2⟩ := ends_cell hs'.1 hix
      obtain ⟨A3, M3, ho3, hA3, hs3⟩ := once_told hSe hbc hix hA' hown' hA2 hs' 2
      have K3 := Kont.moves M3 K'
      have FR2 := hA'.free_shared (q := ⟨be, ix, none⟩) hSe hc2
      refine Win.cond (t := true) rfl ?_
      simp only [if_true, if_false, Bool.false_eq_true]
      refine Win.region ?_
      simp only [List.size_toArray, List.length_cons, List.length_nil, Nat.reduceAdd, List.range, List.range.loop]
      refine Win.lookOp (v := .pointer (some ⟨be, ix, none⟩)) (ad := ⟨bt, 0, none⟩) (x := .pointer (some ⟨be, ix, none⟩)) (.inl hb) rfl rfl (cell_of_row hA2.2.1 0) (fun w hc => by rw [Sem.runT_eq]; simp [go_sem, execOp, Act.eval, hc]) ?_
      simp only [Act.put, Act.eval, List.getElem?_toArray, List.getElem?_cons_zero, List.getElem?_cons_succ, Option.bind_some, List.getElem_toArray, List.getElem_cons_zero, List.getElem_cons_succ, List.setIfInBounds_toArray, List.set_cons_succ, List.set_cons_zero]
      refine Win.pureOp (v := .pointer (some ⟨be, ix, none⟩)) (.inl hb) rfl rfl (fun w => by rw [Sem.runT_eq]; simp [go_sem, execOp, Act.eval]; try (first | omega | rfl | exact ⟨rfl, rfl⟩ | kernel_rfl)) ?_
      simp only [Act.put, Act.eval, List.getElem?_toArray, List.getElem?_cons_zero, List.getElem?_cons_succ, Option.bind_some, List.getElem_toArray, List.getElem_cons_zero, List.getElem_cons_succ, List.setIfInBounds_toArray, List.set_cons_succ, List.set_cons_zero]
      refine Win.storeOp (ad := ⟨be, ix, none⟩) (x := .int .i64 2) (.inl hb) rfl rfl FR2 (fun dd => by
        rw [Sem.runT_eq]
        have c1 : (World.at w' dd).cell? ⟨be, ix, none⟩ = _ := hc2
        have c2 : (World.at w' dd).frozen? ⟨be, ix, none⟩ = false := hf2
        generalize World.at w' dd = W at c1 c2 ⊢
        obtain ⟨s1, s2⟩ := store_ok (P := Try.prog) (x := .int .i64 2) (w := W) (m := .plain) (by simp) (by simp) c1 c2
        simp [go_sem, execOp, Act.eval, s1, s2, c1, c2]) ?_
      simp only [Act.put, Act.eval, List.getElem?_toArray, List.getElem?_cons_zero, List.getElem?_cons_succ, Option.bind_some, List.getElem_toArray, List.getElem_cons_zero, List.getElem_cons_succ, List.setIfInBounds_toArray, List.set_cons_succ, List.set_cons_zero]
      refine Win.opsEnd ?_
      refine Win.falls ?_
      exact hout _ _ home n pl' F' _ _ _ rfl A3 hA3 hs3 K3
end
end Go.Proofs.Ytnbibpmhmffmpaa
