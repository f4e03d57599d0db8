/- Package give over an agent's memory, in company: Back's Write. Written by gen/gw_d.py. Package give over an agent's memory, in company: Back as a whole. Written by gen/gw_e.py. Package give over an agent's memory, in company: Back from its entry. Written by gen/gw_f.py. Rows of the call's own, of elements of whatever type; 'append', its run and its law; such a row as what is held of blocks. Conditions: as each lemma states them. Law 14's hands: a queue of hands behind a slice that is cut at its front and grows at its end. Conditions: as each theorem states them. -/
import Derived.Test.YtnbaiinhalplcaaRows
import Derived.OneCell
import Derived.Deep.Draws
import Derived.ProofKit
import Derived.OwnWalk
import Derived.ArgAppend
import Derived.Deep.AppendLies
import Derived.Maps.AppendAt
import Derived.Laws.BytesArg
import Derived.Deep.RegionLaw
import Derived.Test.YtnbaiinhalplcaaPg10
import Derived.Test.YtnbaiinhalplcaaPg16
namespace Go.Proofs.Ytnbaiinhalplcaa
open List renaming setIfInBounds_toArray → siA, set_cons_succ → scS, set_cons_zero → scZ, getElem?_toArray → gqA, getElem?_cons_zero → gqZ, getElem?_cons_succ → gqS
set_option linter.unusedVariables false
set_option linter.unusedSimpArgs false
set_option maxRecDepth 100000
open Go.RowKit
open Go.Conc
open Go.ConcN (upd_ne upd_same)

section
variable {G : Type} {Post : Value → World → Prop} {Sh : (Nat → Col) → World → G → Prop} {SB : Nat → Prop} {pA rA : Nat} {a : Ag} {mv : Value} {home : Goroutine → Prop} {n : Nat} {T : Tree G} {runs ov : Bool}
variable {pl pl' : Nat → Option Place} {F F' F1 : Nat → Option (Nat × Nat)} {col col' col1 : Nat → Col} {w w' w1 : World} {g : G} {S : Nat → Prop} {c₀ : Frame} {cs : List Frame}

/-- A call of the agent's that makes blocks at most. -/
theorem Acts.calls (hA : Acts SB pA rA a mv home runs ov pl F col w) {f : FuncId} {args : Array Value} {v : Value} {b : Frame} {cs : List Frame} (hok : StOK Try.prog b [])
    (hc : ∀ wt : World, wt.heap.size = w.heap.size → Calls Try.prog f args wt fun e w' => e = .returned v ∧ Kp [] wt w')
    (H : ∀ w', Ks (fun _ => False) w w' → Acts SB pA rA a mv home runs ov pl F (grown a.j col w w') w' → Moves (mine a col) a.j F col w F (grown a.j col w w') w' → Win Try.prog Post pl n a.j (gor (b.finish v) cs) w') :
    Win Try.prog Post pl n a.j (gor (Frame.enter Try.prog f args .normal) (b :: cs)) w := by
  refine Win.calls mild hA.lies hok (R := fun e u => e = .returned v ∧ Ks (fun _ => False) (hA.lies.veil.world (fun _ _ => 0) 0 w) u) (fun τ => (hc _ veil_size).mono (by rintro e w' ⟨h1, h3⟩; exact ⟨h1, ks_twin0 ((ks_of_kp h3).mono fun _ _ z => by simp at z)⟩)) (fun e w' h => ⟨_, h.1⟩) ?_
  intro v' w2 τ Dd hok' hVOK hVK hR
  obtain ⟨hv, hku⟩ := hR
  obtain rfl : v' = v := by simpa using hv
  have ks2 := ks_of_twin hA.lies hVOK hVK hku
  obtain ⟨h1, h2⟩ := hA.grow ks2 (hA.lies.keeps hVK hVOK)
  exact H w2 ks2 h1 h2

/-- What Back holds. -/
def BkA (A : World → Prop) (b5 b6 b7 TT GG nn : Nat) (bI rI : Int) (w : World) : Prop := A w ∧ w.heap[b5]? = some (.cells #[.int .i64 TT, .int .i64 GG, .int .i64 nn] 27 (0, 0)) ∧ w.heap[b6]? = some (.cells #[.int .i64 bI] 3 (0, 0)) ∧ w.heap[b7]? = some (.cells #[.int .i64 rI] 3 (0, 0))
theorem priv_bk {own : Nat → Prop} {A : World → Prop} (hP : Priv own A) (b5 b6 b7 TT GG nn : Nat) (bI rI : Int) : Priv (clOwn own b5 b6 b7) (BkA A b5 b6 b7 TT GG nn bI rI) := hP.and ((Priv.row _ _ _ _).and ((Priv.row _ _ _ _).and (Priv.row _ _ _ _)))
structure BC (G : Type) where
  home : Goroutine → Prop
  n : Nat
  pl : Nat → Option Place
  F : Nat → Option (Nat × Nat)
  col : Nat → Col
  w : World
  g : G

set_option maxHeartbeats 8000000 in
/-- A WRITE of Back's. -/
theorem bk_write (hSh : Shar Sh) (hmv : mv = memV pA) {b : Frame} (hb : b.kind = .normal) {k : List Item} (hKK : k.all (itemOK Try.prog) = true) {x : Nat → Value} {b5 b6 b7 TT GG nn q : Nat} {bI rI z4 z5 z7 z8 : Int} {T' : G → Tree G} {cc : G → G} {hl : G → G} {own : Nat → Prop} {A : World → Prop}
    (hx0 : x 0 = .iface 107 (.pointer (some ⟨a.m, 0, none⟩))) (hx5 : x 5 = .pointer (some ⟨b5, 0, none⟩)) (hx6 : x 6 = .pointer (some ⟨b6, 0, none⟩)) (hx7 : x 7 = .pointer (some ⟨b7, 0, none⟩)) (hx8 : x 8 = .int .i64 q)
    (h4 : IntKind.wrap .i64 (bI + rI) = z4) (h5 : IntKind.wrap .i64 (z4 - 1) = z5) (h7 : IntKind.wrap .i64 (z5 - q) = z7) (hen : ∀ w, Calls Try.prog 38 #[.agg #[.int .i64 TT, .int .i64 GG, .int .i64 nn], .int .i64 z7] w fun e w' => e = .returned (.int .i64 z8) ∧ Kp [] w w')
    (hP : Priv own A)
    (hstop : ∀ home n pl F col w g ac k, ac.defers = [] → Ends SB pA rA a mv home pl F col w → (∀ b, clOwn own b5 b6 b7 b → col b = .ag a.j) → BkA A b5 b6 b7 TT GG nn bI rI w → Sh col w g → Kont Post Sh SB pA rA a mv home n .ret pl F col w (hl g) → Win Try.prog Post pl n a.j (gor ((b.at ac k).raise [haltE]) cs) w)
    (cont : ∀ y home n pl F col w g, y 0 = .iface 107 (.pointer (some ⟨a.m, 0, none⟩)) → y 5 = .pointer (some ⟨b5, 0, none⟩) → y 6 = .pointer (some ⟨b6, 0, none⟩) → y 7 = .pointer (some ⟨b7, 0, none⟩) → y 18 = x 18 → y 19 = x 19 → Acts SB pA rA a mv home true false pl F col w → (∀ b, clOwn own b5 b6 b7 b → col b = .ag a.j) → BkA A b5 b6 b7 TT GG nn bI rI w → Sh col w g → Kont Post Sh SB pA rA a mv home n (T' g) pl F col w g → Win Try.prog Post pl n a.j (gor (b.at ⟨T39 y, []⟩ k) cs) w)
    (hA : Acts SB pA rA a mv home true false pl F col w) (hown : ∀ b, clOwn own b5 b6 b7 b → col b = .ag a.j) (hAw : BkA A b5 b6 b7 TT GG nn bI rI w) (hs : Sh col w g) (K : Kont Post Sh SB pA rA a mv home n (.node z8 (fun _ => 0) (fun _ g => g) (fun _ g => T' g) hl (fun _ => True)) pl F col w g) :
    Win Try.prog Post pl n a.j (gor (b.at ⟨T39 x, []⟩ (.code (bkC5 Try.f11) :: k)) cs) w := by
  have hP2 := priv_bk hP b5 b6 b7 TT GG nn bI rI
  simp only [bkC5, bkB, bkX, bkL, bkR2, bodyOf, Try.f11, codeL, codeR, blockOf, loopOf, Option.getD_some, T39] at cont ⊢
  refine Win.anyFill (C := BC G) (Goal := fun c fr => Win Try.prog Post c.pl c.n a.j (gor fr cs) c.w) mixed (by kernel_rfl) (fun c i => match i with | 0 => .iface 107 (.pointer (some ⟨a.m, 0, none⟩)) | 1 => .agg #[.int .i64 TT, .int .i64 GG, .int .i64 nn] | 2 => .int .i64 bI | 3 => .int .i64 rI | 4 => .int .i64 z4 | 5 => .int .i64 z5 | 6 => .int .i64 q | 7 => .int .i64 z7 | 8 => .int .i64 z8 | 9 => .func (.method "Write") #[.iface 107 (.pointer (some ⟨a.m, 0, none⟩))] #[] | 10 => .func (.method "Write") #[.iface 107 (.pointer (some ⟨a.m, 0, none⟩))] #[] | 11 => .iface 107 (.pointer (some ⟨a.m, 0, none⟩)) | 12 => .tuple #[] | _ => undef) (fun c => (⟨#[x 0, x 1, x 2, x 3, x 4, x 5, x 6, x 7, x 8, x 9, x 10, x 11, x 12, x 13, x 14, x 15, x 16, x 17, x 18, x 19, x 20, x 21, .iface 107 (.pointer (some ⟨a.m, 0, none⟩)), .agg #[.int .i64 TT, .int .i64 GG, .int .i64 nn], .int .i64 bI, .int .i64 rI, .int .i64 z4, .int .i64 z5, .int .i64 q, .int .i64 z7, .int .i64 z8, .func (.method "Write") #[.iface 107 (.pointer (some ⟨a.m, 0, none⟩))] #[], .func (.method "Write") #[.iface 107 (.pointer (some ⟨a.m, 0, none⟩))] #[], .iface 107 (.pointer (some ⟨a.m, 0, none⟩)), .tuple #[], x 35, x 36, x 37, x 38], []⟩ : Act)) (fun c => by simp only [fillAll, List.size_toArray, List.length_cons, List.length_nil, Nat.reduceAdd, List.range, List.range.loop, List.foldl_cons, List.foldl_nil, gqA, gqZ, gqS, Option.bind_some, Option.bind_none, Act.put, siA, scS, scZ]) (fun X c => Acts SB pA rA a mv c.home true false c.pl c.F c.col c.w ∧ (∀ b, clOwn own b5 b6 b7 b → c.col b = .ag a.j) ∧ BkA A b5 b6 b7 TT GG nn bI rI c.w ∧ (X.getD 12 false = false → Sh c.col c.w c.g ∧ Kont Post Sh SB pA rA a mv c.home c.n (.node z8 (fun _ => 0) (fun _ g => g) (fun _ g => T' g) hl (fun _ => True)) c.pl c.F c.col c.w c.g) ∧ (X.getD 12 false = true → Sh c.col c.w c.g ∧ Kont Post Sh SB pA rA a mv c.home c.n (T' c.g) c.pl c.F c.col c.w c.g)) ⟨home, n, pl, F, col, w, g⟩ (fun fr h => h) ?_ ?_ ⟨hA, hown, hAw, fun _ => ⟨hs, K⟩, fun z => by simp [Array.getD_eq_getD_getElem?] at z⟩
  · intro X i' o hX ho hx hr c a' L' hJ hcl hL'' hfl e1 e2 hd hn
    rcases i' with _ | _ | _ | _ | _ | _ | _ | _ | _ | _ | _ | _ | _ | i'
    · obtain rfl := Option.some.inj ho
      refine Win.op (v := .iface 107 (.pointer (some ⟨a.m, 0, none⟩))) (.inl hb) rfl rfl (fun d => ⟨#[], by rw [e1, Sem.runT_eq]; simp [go_sem, execOp, Act.eval, hx0]; try (first | rfl | exact ⟨rfl, rfl⟩ | kernel_rfl), fun e he => by simp at he⟩) (hn c (fun _ _ => rfl) ⟨hJ.1, hJ.2.1, hJ.2.2.1, fun z => hJ.2.2.2.1 (by rw [getD_set_ne false (by decide)] at z; exact z), fun z => hJ.2.2.2.2 (by rw [getD_set_ne false (by decide)] at z; exact z)⟩)
    · obtain rfl := Option.some.inj ho
      refine Win.op (v := .agg #[.int .i64 TT, .int .i64 GG, .int .i64 nn]) (.inl hb) rfl rfl (fun d => ⟨#[⟨.cell ⟨b5, 0, none⟩, false, false⟩, ⟨.cell ⟨b5, 1, none⟩, false, false⟩, ⟨.cell ⟨b5, 2, none⟩, false, false⟩], by rw [e1, Sem.runT_eq]; have hc0 : (World.at c.w d).cell? ⟨b5, 0, none⟩ = _ := cell_of_row hJ.2.2.1.2.1 0; have hc1 : (World.at c.w d).cell? ⟨b5, 1, none⟩ = _ := cell_of_row hJ.2.2.1.2.1 1; have hc2 : (World.at c.w d).cell? ⟨b5, 2, none⟩ = _ := cell_of_row hJ.2.2.1.2.1 2; generalize World.at c.w d = W at hc0 hc1 hc2 ⊢; simp [go_sem, execOp, Act.eval, hc0, hc1, hc2, hx0, hx5, hx6, hx7, hx8], fun e he => by simp at he; rcases he with rfl | rfl | rfl <;> exact ⟨rfl, fun m => by simp⟩⟩) (hn c (fun _ _ => rfl) ⟨hJ.1, hJ.2.1, hJ.2.2.1, fun z => hJ.2.2.2.1 (by rw [getD_set_ne false (by decide)] at z; exact z), fun z => hJ.2.2.2.2 (by rw [getD_set_ne false (by decide)] at z; exact z)⟩)
    · obtain rfl := Option.some.inj ho
      refine Win.op (v := .int .i64 bI) (.inl hb) rfl rfl (fun d => ⟨#[⟨.cell ⟨b6, 0, none⟩, false, false⟩], by rw [e1, Sem.runT_eq]; have hc : (World.at c.w d).cell? ⟨b6, 0, none⟩ = _ := cell_of_row hJ.2.2.1.2.2.1 0; generalize World.at c.w d = W at hc ⊢; simp [go_sem, execOp, Act.eval, hc, hx0, hx5, hx6, hx7, hx8], fun e he => by obtain rfl : e = ⟨.cell ⟨b6, 0, none⟩, false, false⟩ := (by simpa using he); exact ⟨rfl, fun m => by simp⟩⟩) (hn c (fun _ _ => rfl) ⟨hJ.1, hJ.2.1, hJ.2.2.1, fun z => hJ.2.2.2.1 (by rw [getD_set_ne false (by decide)] at z; exact z), fun z => hJ.2.2.2.2 (by rw [getD_set_ne false (by decide)] at z; exact z)⟩)
    · obtain rfl := Option.some.inj ho
      refine Win.op (v := .int .i64 rI) (.inl hb) rfl rfl (fun d => ⟨#[⟨.cell ⟨b7, 0, none⟩, false, false⟩], by rw [e1, Sem.runT_eq]; have hc : (World.at c.w d).cell? ⟨b7, 0, none⟩ = _ := cell_of_row hJ.2.2.1.2.2.2 0; generalize World.at c.w d = W at hc ⊢; simp [go_sem, execOp, Act.eval, hc, hx0, hx5, hx6, hx7, hx8], fun e he => by obtain rfl : e = ⟨.cell ⟨b7, 0, none⟩, false, false⟩ := (by simpa using he); exact ⟨rfl, fun m => by simp⟩⟩) (hn c (fun _ _ => rfl) ⟨hJ.1, hJ.2.1, hJ.2.2.1, fun z => hJ.2.2.2.1 (by rw [getD_set_ne false (by decide)] at z; exact z), fun z => hJ.2.2.2.2 (by rw [getD_set_ne false (by decide)] at z; exact z)⟩)
    · obtain rfl := Option.some.inj ho
      refine Win.op (v := .int .i64 z4) (.inl hb) rfl rfl (fun d => ⟨#[], by rw [e1, Sem.runT_eq]; simp [go_sem, execOp, Act.eval, h4]; try (first | rfl | exact ⟨rfl, rfl⟩ | kernel_rfl), fun e he => by simp at he⟩) (hn c (fun _ _ => rfl) ⟨hJ.1, hJ.2.1, hJ.2.2.1, fun z => hJ.2.2.2.1 (by rw [getD_set_ne false (by decide)] at z; exact z), fun z => hJ.2.2.2.2 (by rw [getD_set_ne false (by decide)] at z; exact z)⟩)
    · obtain rfl := Option.some.inj ho
      refine Win.op (v := .int .i64 z5) (.inl hb) rfl rfl (fun d => ⟨#[], by rw [e1, Sem.runT_eq]; simp [go_sem, execOp, Act.eval, h5]; try (first | rfl | exact ⟨rfl, rfl⟩ | kernel_rfl), fun e he => by simp at he⟩) (hn c (fun _ _ => rfl) ⟨hJ.1, hJ.2.1, hJ.2.2.1, fun z => hJ.2.2.2.1 (by rw [getD_set_ne false (by decide)] at z; exact z), fun z => hJ.2.2.2.2 (by rw [getD_set_ne false (by decide)] at z; exact z)⟩)
    · obtain rfl := Option.some.inj ho
      refine Win.op (v := .int .i64 q) (.inl hb) rfl rfl (fun d => ⟨#[], by rw [e1, Sem.runT_eq]; simp [go_sem, execOp, Act.eval, hx8]; try (first | rfl | exact ⟨rfl, rfl⟩ | kernel_rfl), fun e he => by simp at he⟩) (hn c (fun _ _ => rfl) ⟨hJ.1, hJ.2.1, hJ.2.2.1, fun z => hJ.2.2.2.1 (by rw [getD_set_ne false (by decide)] at z; exact z), fun z => hJ.2.2.2.2 (by rw [getD_set_ne false (by decide)] at z; exact z)⟩)
    · obtain rfl := Option.some.inj ho
      refine Win.op (v := .int .i64 z7) (.inl hb) rfl rfl (fun d => ⟨#[], by rw [e1, Sem.runT_eq]; simp [go_sem, execOp, Act.eval, h7]; try (first | rfl | exact ⟨rfl, rfl⟩ | kernel_rfl), fun e he => by simp at he⟩) (hn c (fun _ _ => rfl) ⟨hJ.1, hJ.2.1, hJ.2.2.1, fun z => hJ.2.2.2.1 (by rw [getD_set_ne false (by decide)] at z; exact z), fun z => hJ.2.2.2.2 (by rw [getD_set_ne false (by decide)] at z; exact z)⟩)
    · obtain rfl := Option.some.inj ho
      refine Win.enter (f := 38) (args := #[.agg #[.int .i64 TT, .int .i64 GG, .int .i64 nn], .int .i64 z7]) (.inl hb) rfl rfl (fun d => ⟨#[], by rw [e1]; exact call_enter mild.toMild Try.func38 rfl rfl rfl rfl _ _ (by simp [Act.eval]), fun e he => by simp at he⟩) ?_
      refine hJ.1.calls (stok_at hb rfl (fun x hx => by rw [hd] at hx; simp at hx) (by rw [List.all_cons, hKK, Bool.and_true]; kernel_rfl)) (fun wt _ => hen wt) fun w2 k2 A3 hM => ?_
      rw [Frame.finish_at]
      refine hn ⟨c.home, c.n, c.pl, c.F, grown a.j c.col c.w w2, w2, c.g⟩ (fun j hj => rfl) ⟨A3, fun b hb => grown_ag hJ.1.lay (hJ.2.1 b hb), hP2.grow hJ.2.2.1 k2, fun z => ?_, fun z => ?_⟩
      · obtain ⟨s1, s2⟩ := hJ.2.2.2.1 (by rw [getD_set_ne false (by decide)] at z; exact z)
        exact ⟨hSh.grow (j := a.j) hJ.1.lay s1 k2, s2.moves hM⟩
      · obtain ⟨s1, s2⟩ := hJ.2.2.2.2 (by rw [getD_set_ne false (by decide)] at z; exact z)
        exact ⟨hSh.grow (j := a.j) hJ.1.lay s1 k2, s2.moves hM⟩
    · obtain rfl := Option.some.inj ho
      refine Win.op (v := .func (.method "Write") #[.iface 107 (.pointer (some ⟨a.m, 0, none⟩))] #[]) (.inl hb) rfl rfl (fun d => ⟨#[], by rw [e1, Sem.runT_eq]; simp [go_sem, execOp, Act.eval, hx0]; try (first | rfl | exact ⟨rfl, rfl⟩ | kernel_rfl), fun e he => by simp at he⟩) (hn c (fun _ _ => rfl) ⟨hJ.1, hJ.2.1, hJ.2.2.1, fun z => hJ.2.2.2.1 (by rw [getD_set_ne false (by decide)] at z; exact z), fun z => hJ.2.2.2.2 (by rw [getD_set_ne false (by decide)] at z; exact z)⟩)
    · obtain rfl := Option.some.inj ho
      refine Win.op (v := .func (.method "Write") #[.iface 107 (.pointer (some ⟨a.m, 0, none⟩))] #[]) (.inl hb) rfl rfl (fun d => ⟨#[], by rw [e1]; kernel_rfl, fun e he => by simp at he⟩) (hn c (fun _ _ => rfl) ⟨hJ.1, hJ.2.1, hJ.2.2.1, fun z => hJ.2.2.2.1 (by rw [getD_set_ne false (by decide)] at z; exact z), fun z => hJ.2.2.2.2 (by rw [getD_set_ne false (by decide)] at z; exact z)⟩)
    · obtain rfl := Option.some.inj ho
      refine Win.op (v := .iface 107 (.pointer (some ⟨a.m, 0, none⟩))) (.inl hb) rfl rfl (fun d => ⟨#[], by rw [e1, Sem.runT_eq]; simp [go_sem, execOp, Act.eval, hx0]; try (first | rfl | exact ⟨rfl, rfl⟩ | kernel_rfl), fun e he => by simp at he⟩) (hn c (fun _ _ => rfl) ⟨hJ.1, hJ.2.1, hJ.2.2.1, fun z => hJ.2.2.2.1 (by rw [getD_set_ne false (by decide)] at z; exact z), fun z => hJ.2.2.2.2 (by rw [getD_set_ne false (by decide)] at z; exact z)⟩)
    · obtain rfl := Option.some.inj ho
      have hx' : X.getD 12 false = false := by
        have hlt : 12 < X.size := by rw [hX]; decide
        simpa [hlt] using hx
      obtain ⟨hsc, hK⟩ := hJ.2.2.2.1 hx'
      refine Win.enter (f := 99) (args := #[.pointer (some ⟨a.m, 0, none⟩), .int .i64 z8, .int .u64 0]) (.inl hb) rfl rfl (fun d => ⟨#[], by rw [e1]; kernel_rfl, fun e he => by simp at he⟩) ?_
      refine bwrite hSh hmv hJ.1 hJ.2.1 hP2 hJ.2.2.1 hsc ?_ ?_ hK
      · intro v home' n' pl' F' col' w' g2 hA2 ho2 hA2' hs2 _ K2
        rw [Frame.finish_at]
        exact hn ⟨home', n', pl', F', col', w', g2⟩ (fun j hj => rfl) ⟨hA2, ho2, hA2', fun z => (by rw [getD_set_self (by rw [hX]; decide)] at z; cases z), fun _ => ⟨hs2, K2⟩⟩
      · intro home' n' pl' F' col' w' g2 hE ho2 hA2' hs2 _ K2
        exact hstop home' n' pl' F' col' w' g2 _ _ hd hE ho2 hA2' hs2 K2
    · simp at ho
  · intro X c hall hJ
    obtain ⟨z1, z2⟩ := hJ.2.2.2.2 (hall 12 (by simp))
    refine Win.opsEnd ?_
    exact cont (fun j => match j with | 22 => .iface 107 (.pointer (some ⟨a.m, 0, none⟩)) | 23 => .agg #[.int .i64 TT, .int .i64 GG, .int .i64 nn] | 24 => .int .i64 bI | 25 => .int .i64 rI | 26 => .int .i64 z4 | 27 => .int .i64 z5 | 28 => .int .i64 q | 29 => .int .i64 z7 | 30 => .int .i64 z8 | 31 => .func (.method "Write") #[.iface 107 (.pointer (some ⟨a.m, 0, none⟩))] #[] | 32 => .func (.method "Write") #[.iface 107 (.pointer (some ⟨a.m, 0, none⟩))] #[] | 33 => .iface 107 (.pointer (some ⟨a.m, 0, none⟩)) | 34 => .tuple #[] | j => x j) c.home c.n c.pl c.F c.col c.w c.g hx0 hx5 hx6 hx7 rfl rfl hJ.1 hJ.2.1 hJ.2.2.1 z1 z2
end
end Go.Proofs.Ytnbaiinhalplcaa

namespace Go.Proofs.Ytnbaiinhalplcaa
open List renaming getElem_toArray → gtA, getElem_cons_zero → gtZ, getElem_cons_succ → gtS, setIfInBounds_toArray → siA, set_cons_succ → scS, set_cons_zero → scZ, getElem?_toArray → gqA, getElem?_cons_zero → gqZ, getElem?_cons_succ → gqS
set_option linter.unusedVariables false
set_option linter.unusedSimpArgs false
set_option maxRecDepth 100000
open Go.RowKit
open Go.Conc
open Go.ConcN (upd_ne upd_same)

/-- What Back does: it clears entries, the last one first, then gives the run. -/
def bkT {G : Type} (e0 : Nat) (φ : Int → Int) (cc : G → G) (T : G → Tree G) (hl : G → G) : Nat → Tree G
  | 0 => .node 0 φ (fun _ g => cc g) (fun _ g => T g) hl (fun _ => True)
  | j + 1 => .node ((e0 + j : Nat) : Int) (fun _ => 0) (fun _ g => g) (fun _ _ => bkT e0 φ cc T hl j) hl (fun _ => True)
def giveI (b r : Nat) (v : Int) : Int := (giveM v.toNat b r : Nat)

section
variable {G : Type} {Post : Value → World → Prop} {Sh : (Nat → Col) → World → G → Prop} {SB : Nat → Prop} {pA rA : Nat} {a : Ag} {mv : Value} {home : Goroutine → Prop} {n : Nat} {runs ov : Bool} {TT GG nn b5 b6 b7 : Nat} {bI rI : Int} {b r : Nat}
variable {pl pl' : Nat → Option Place} {F F' F1 : Nat → Option (Nat × Nat)} {col col' col1 : Nat → Col} {w w' w1 : World} {g : G} {S : Nat → Prop} {c₀ : Frame} {cs : List Frame}

set_option maxHeartbeats 4000000 in
/-- Back's end: it gives the run. -/
theorem bk_end (hSh : Shar Sh) (hmv : mv = memV pA) (hT : TT ≤ 64) (hG : GG ≤ 8) (hnn : nn ≤ 64) {cc : G → G} {T : G → Tree G} {hl : G → G} {own : Nat → Prop} {A : World → Prop} (hP : Priv own A)
    (hres : ∀ home n pl' F' col' w' g, Acts SB pA rA a mv home true false pl' F' col' w' → (∀ b, own b → col' b = .ag a.j) → A w' → Sh col' w' g → Kont Post Sh SB pA rA a mv home n (T g) pl' F' col' w' (cc g) → Win Try.prog Post pl' n a.j (gor (c₀.finish (.tuple #[])) cs) w')
    (hstop : ∀ home n pl' F' col' w' g, Ends SB pA rA a mv home pl' F' col' w' → (∀ b, own b → col' b = .ag a.j) → A w' → Sh col' w' g → Kont Post Sh SB pA rA a mv home n .ret pl' F' col' w' (hl g) → Win Try.prog Post pl' n a.j (gor (c₀.raise [haltE]) cs) w')
    {x : Nat → Value} (hx0 : x 0 = .iface 107 (.pointer (some ⟨a.m, 0, none⟩))) (hx6 : x 6 = .pointer (some ⟨b6, 0, none⟩)) (hx7 : x 7 = .pointer (some ⟨b7, 0, none⟩))
    (hA : Acts SB pA rA a mv home true false pl F col w) (hown : ∀ b, clOwn own b5 b6 b7 b → col b = .ag a.j) (hAw : BkA A b5 b6 b7 TT GG nn b r w) (hs : Sh col w g) (K : Kont Post Sh SB pA rA a mv home n (bkT (3 + TT + GG + b) (giveI b r) cc T hl 0) pl F col w g) :
    Win Try.prog Post pl n a.j (gor ((Frame.enter Try.prog 11 #[.iface 107 (.pointer (some ⟨a.m, 0, none⟩)), .agg #[.int .i64 TT, .int .i64 GG, .int .i64 nn], .int .i64 b, .int .i64 r] .normal).at ⟨T39 x, []⟩ [.code (bkC7 Try.f11)]) (c₀ :: cs)) w := by
  have hb : (Frame.enter Try.prog 11 #[.iface 107 (.pointer (some ⟨a.m, 0, none⟩)), .agg #[.int .i64 TT, .int .i64 GG, .int .i64 nn], .int .i64 b, .int .i64 r] .normal).kind = .normal := rfl
  simp only [bkC7, bkR2, bodyOf, Try.f11, codeL, codeR, Option.getD_some, T39]
  simp only [hx0, hx6, hx7]
  refine Win.region ?_
  simp only [List.size_toArray, List.length_cons, List.length_nil, Nat.reduceAdd, List.range, List.range.loop]
  refine Win.pureOp (v := .iface 107 (.pointer (some ⟨a.m, 0, none⟩))) (.inl hb) rfl rfl (fun w => rfl) ?_
  simp only [Act.put, Act.eval, gqA, gqZ, gqS, Option.bind_some, gtA, gtZ, gtS, siA, scS, scZ]
  refine Win.pureOp (v := .func (.func 39) #[] #[.pointer (some ⟨b6, 0, none⟩), .pointer (some ⟨b7, 0, none⟩)]) (.inl hb) rfl rfl (fun w => by rw [Sem.runT_eq]; simp [go_sem, execOp, Act.eval]; try (first | omega | rfl | exact ⟨rfl, rfl⟩ | kernel_rfl)) ?_
  simp only [Act.put, Act.eval, gqA, gqZ, gqS, Option.bind_some, gtA, gtZ, gtS, siA, scS, scZ]
  refine Win.enter (f := 98) (args := #[.pointer (some ⟨a.m, 0, none⟩), .int .i64 0, .func (.func 39) #[] #[.pointer (some ⟨b6, 0, none⟩), .pointer (some ⟨b7, 0, none⟩)]]) (.inl hb) rfl rfl (fun d => ⟨#[], by kernel_rfl, fun e he => by simp at he⟩) ?_
  refine bupdate3 (own := clOwn own b5 b6 b7) (A := BkA A b5 b6 b7 TT GG nn b r) (DD := []) (A' := fun _ => BkA A b5 b6 b7 TT GG nn b r) (φ := giveI b r) hSh hmv hA hown (priv_bk hP _ _ _ _ _ _ _ _) hAw hs (fun b hb => by simp at hb) (fun v => priv_bk hP _ _ _ _ _ _ _ _) (fun u hu => hu) (fun _ _ => rfl) (fun u v hu h0 hv => ?_) (fun v h0 hv home n pl' F' col' w' g hA' hown' hB' hs' _ K' => ?_) (fun home n pl' F' col' w' g hE hown' hB' hs' _ K' => ?_) K
  · obtain ⟨V, rfl⟩ := Int.eq_ofNat_of_zero_le h0
    refine (cl_back (M := V) (b := b) (r' := r) (by omega) b6 b7 u (cell_of_row hu.2.2.1 0) (cell_of_row hu.2.2.2 0)).mono ?_
    rintro e u' ⟨he, hk, _⟩
    exact ⟨by rw [he]; simp [giveI], hk, (priv_bk hP _ _ _ _ _ _ _ _).st _ _ hu fun b hb => hk.block b ((priv_bk hP _ _ _ _ _ _ _ _).lt _ _ hu hb) (by simp)⟩
  · rw [Frame.finish_at]
    simp only [Act.put, Act.eval, gqA, gqZ, gqS, Option.bind_some, gtA, gtZ, gtS, siA, scS, scZ]
    refine Win.opsEnd ?_
    refine Win.falls ?_
    refine Win.leave (v := .tuple #[]) rfl rfl rfl Try.func11 (fun d => ⟨#[], by rw [Sem.runT_eq]; simp [go_sem, results, Try.f11], fun e he => by simp at he⟩) ?_
    exact hres home n pl' F' col' w' g hA' (fun b hb => hown' b (.inl hb)) hB'.1 hs' K'
  · refine Win.unwinds (chain := [haltE]) rfl rfl (by kernel_rfl) ?_
    exact hstop home n pl' F' col' w' g hE (fun b hb => hown' b (.inl hb)) hB'.1 hs' K'

set_option maxHeartbeats 4000000 in
/-- Back's loop. -/
theorem bk_loop (hSh : Shar Sh) (hmv : mv = memV pA) (hT : TT ≤ 64) (hG : GG ≤ 8) (hnn : nn ≤ 64) {cc : G → G} {T : G → Tree G} {hl : G → G} {own : Nat → Prop} {A : World → Prop} (hP : Priv own A)
    (hres : ∀ home n pl' F' col' w' g, Acts SB pA rA a mv home true false pl' F' col' w' → (∀ b, own b → col' b = .ag a.j) → A w' → Sh col' w' g → Kont Post Sh SB pA rA a mv home n (T g) pl' F' col' w' (cc g) → Win Try.prog Post pl' n a.j (gor (c₀.finish (.tuple #[])) cs) w')
    (hstop : ∀ home n pl' F' col' w' g, Ends SB pA rA a mv home pl' F' col' w' → (∀ b, own b → col' b = .ag a.j) → A w' → Sh col' w' g → Kont Post Sh SB pA rA a mv home n .ret pl' F' col' w' (hl g) → Win Try.prog Post pl' n a.j (gor (c₀.raise [haltE]) cs) w') (h1 : 1 ≤ r) (h3 : r ≤ 3) (hbr : b + r ≤ nn) :
    ∀ j i, i + j = r → ∀ (x : Nat → Value) home n pl F col w g, HasN x [(0, .iface 107 (.pointer (some ⟨a.m, 0, none⟩))), (5, .pointer (some ⟨b5, 0, none⟩)), (6, .pointer (some ⟨b6, 0, none⟩)), (7, .pointer (some ⟨b7, 0, none⟩)), (18, .int .i64 r), (19, .int .i64 i)] → Acts SB pA rA a mv home true false pl F col w → (∀ b, clOwn own b5 b6 b7 b → col b = .ag a.j) → BkA A b5 b6 b7 TT GG nn b r w → Sh col w g → Kont Post Sh SB pA rA a mv home n (bkT (3 + TT + GG + b) (giveI b r) cc T hl j) pl F col w g →
      Win Try.prog Post pl n a.j (gor ((Frame.enter Try.prog 11 #[.iface 107 (.pointer (some ⟨a.m, 0, none⟩)), .agg #[.int .i64 TT, .int .i64 GG, .int .i64 nn], .int .i64 b, .int .i64 r] .normal).at ⟨T39 x, []⟩ [.code (bkX Try.f11), .inLoop (bkX Try.f11), .inBlock 0, .code (bkC7 Try.f11)]) (c₀ :: cs)) w := by
  intro j
  induction j with
  | zero =>
    intro i hi x home n pl F col w g hx hA hown hAw hs K
    rw [bk_e3]
    refine Win.seq ?_
    refine hA.pieceN T39_shape (own := clOwn own b5 b6 b7) (S := fun _ => False) (priv_bk hP _ _ _ _ _ _ _ _) hAw (fun b hb => .inl (hown b hb)) (fun b hb => hb.elim) (ι := Unit) (own' := fun _ => clOwn own b5 b6 b7) (A' := fun _ => BkA A b5 b6 b7 TT GG nn b r) (fun _ => priv_bk hP _ _ _ _ _ _ _ _)
      (K' := fun _ => [(0, .iface 107 (.pointer (some ⟨a.m, 0, none⟩))), (5, .pointer (some ⟨b5, 0, none⟩)), (6, .pointer (some ⟨b6, 0, none⟩)), (7, .pointer (some ⟨b7, 0, none⟩)), (18, .int .i64 r), (19, .int .i64 i), (20, .bool (decide ((i : Int) < (r : Int))))]) (fun _ _ => False) (stok_at rfl rfl (by simp) (by kernel_rfl)) (fun wt Q hAt hz hcell hQ => bk_p3 hx.1 hx.2.1 hx.2.2.1 hx.2.2.2.1 hx.2.2.2.2.1 hx.2.2.2.2.2.1 fun a' hf => hQ a' () _ (fun y hy => .inl hy) hf hAt (Ks.refl _ _)) fun x1 _ w1 _ hx1 hB1 k1 hA1 hM1 => ?_
    have hx20 : x1 20 = .bool false := hx1.2.2.2.2.2.2.1.trans (by rw [decide_eq_false (by omega)])
    refine Win.seq ?_
    refine Win.cond (t := false) (by simp only [Act.eval, T39]; exact hx20) ?_
    simp only [if_false, Bool.false_eq_true]
    refine Win.exit (k' := [.code (bkC7 Try.f11)]) rfl ?_
    exact bk_end hSh hmv hT hG hnn hP hres hstop hx1.1 hx1.2.2.1 hx1.2.2.2.1 hA1 (fun b hb => (grownS_keep hA.lay (by rw [hown b hb]; simp)).trans (hown b hb)) hB1 (hSh.plainS hA.lay hs k1 (fun b hb => hb.elim)) (K.moves hM1)
  | succ j ih =>
    intro i hi x home n pl F col w g hx hA hown hAw hs K
    rw [bk_e3]
    refine Win.seq ?_
    refine hA.pieceN T39_shape (own := clOwn own b5 b6 b7) (S := fun _ => False) (priv_bk hP _ _ _ _ _ _ _ _) hAw (fun b hb => .inl (hown b hb)) (fun b hb => hb.elim) (ι := Unit) (own' := fun _ => clOwn own b5 b6 b7) (A' := fun _ => BkA A b5 b6 b7 TT GG nn b r) (fun _ => priv_bk hP _ _ _ _ _ _ _ _)
      (K' := fun _ => [(0, .iface 107 (.pointer (some ⟨a.m, 0, none⟩))), (5, .pointer (some ⟨b5, 0, none⟩)), (6, .pointer (some ⟨b6, 0, none⟩)), (7, .pointer (some ⟨b7, 0, none⟩)), (18, .int .i64 r), (19, .int .i64 i), (20, .bool (decide ((i : Int) < (r : Int))))]) (fun _ _ => False) (stok_at rfl rfl (by simp) (by kernel_rfl)) (fun wt Q hAt hz hcell hQ => bk_p3 hx.1 hx.2.1 hx.2.2.1 hx.2.2.2.1 hx.2.2.2.2.1 hx.2.2.2.2.2.1 fun a' hf => hQ a' () _ (fun y hy => .inl hy) hf hAt (Ks.refl _ _)) fun x1 _ w1 _ hx1 hB1 k1 hA1 hM1 => ?_
    have hx20 : x1 20 = .bool true := hx1.2.2.2.2.2.2.1.trans (by rw [decide_eq_true (by omega)])
    have hown1 : ∀ b, clOwn own b5 b6 b7 b → grownS a.j (fun _ => False) col w w1 b = .ag a.j := fun b hb => (grownS_keep hA.lay (by rw [hown b hb]; simp)).trans (hown b hb)
    have hs1 := hSh.plainS (j := a.j) (sh := fun _ => False) hA.lay hs k1 (fun b hb => hb.elim)
    have K1 := K.moves hM1
    clear hA hown hAw hs K hM1 k1 hx
    generalize grownS a.j (fun _ => False) col w w1 = col1 at hA1 hown1 hs1 K1
    refine Win.seq ?_
    refine Win.cond (t := true) (by simp only [Act.eval, T39]; exact hx20) ?_
    simp only [if_true]
    refine Win.skip ?_
    refine Win.seq ?_
    refine Win.block ?_
    refine Win.seq ?_
    refine hA1.pieceN T39_shape (own := clOwn own b5 b6 b7) (S := fun _ => False) (priv_bk hP _ _ _ _ _ _ _ _) hB1 (fun b hb => .inl (hown1 b hb)) (fun b hb => hb.elim) (ι := Unit) (own' := fun _ => clOwn own b5 b6 b7) (A' := fun _ => BkA A b5 b6 b7 TT GG nn b r) (fun _ => priv_bk hP _ _ _ _ _ _ _ _)
      (K' := fun _ => [(0, .iface 107 (.pointer (some ⟨a.m, 0, none⟩))), (5, .pointer (some ⟨b5, 0, none⟩)), (6, .pointer (some ⟨b6, 0, none⟩)), (7, .pointer (some ⟨b7, 0, none⟩)), (8, .int .i64 i), (18, .int .i64 r), (19, .int .i64 i)]) (fun _ _ => False) (stok_at rfl rfl (by simp) (by kernel_rfl)) (fun wt Q hAt hz hcell hQ => bk_p4 hx1.1 hx1.2.1 hx1.2.2.1 hx1.2.2.2.1 hx1.2.2.2.2.1 hx1.2.2.2.2.2.1 fun a' hf => hQ a' () _ (fun y hy => .inl hy) hf hAt (Ks.refl _ _)) fun x2 _ w2 _ hx2 hB2 k2 hA2 hM2 => ?_
    have hown2 : ∀ b, clOwn own b5 b6 b7 b → grownS a.j (fun _ => False) col1 w1 w2 b = .ag a.j := fun b hb => (grownS_keep hA1.lay (by rw [hown1 b hb]; simp)).trans (hown1 b hb)
    have hs2 := hSh.plainS (j := a.j) (sh := fun _ => False) hA1.lay hs1 k2 (fun b hb => hb.elim)
    have K2 := K1.moves hM2
    clear hA1 hown1 hB1 hs1 K1 hM2 k2 hx1
    generalize grownS a.j (fun _ => False) col1 w1 w2 = col2 at hA2 hown2 hs2 K2
    have hw1 := IntWalk.i64_in ((b : Int) + r) (by omega)
    have hw2 := IntWalk.i64_in (((b + r : Nat) : Int) - 1) (by omega)
    have hw3 := IntWalk.i64_in (((b + r - 1 : Nat) : Int) - i) (by omega)
    refine bk_write (z4 := ((b + r : Nat) : Int)) (z5 := ((b + r - 1 : Nat) : Int)) (z7 := ((b + j : Nat) : Int)) (z8 := ((3 + TT + GG + b + j : Nat) : Int)) (q := i) (cc := cc) hSh hmv rfl (by kernel_rfl) hx2.1 hx2.2.1 hx2.2.2.1 hx2.2.2.2.1 hx2.2.2.2.2.1 (by rw [hw1]; omega) (by rw [hw2]; omega) (by rw [hw3]; omega) (fun w => by
        have := entry_at (T := TT) (G := GG) (n := nn) (b + j) w hT hG hnn (by omega)
        rw [show 3 + TT + GG + b + j = 3 + TT + GG + (b + j) by omega]
        exact this) hP (fun home n pl F col w g ac k hd hE ho ha hs' K' => ?_) (fun y home n pl F col w g y0 y5 y6 y7 y18 y19 hA' ho ha hs' K' => ?_) hA2 hown2 hB2 hs2 K2
    · refine Win.unwinds (chain := [haltE]) rfl hd (by kernel_rfl) ?_
      exact hstop home n pl F col w g hE (fun b hb => ho b (.inl hb)) ha.1 hs' K'
    · refine Win.inBlock ?_
      refine hA'.pieceN T39_shape (own := clOwn own b5 b6 b7) (S := fun _ => False) (priv_bk hP _ _ _ _ _ _ _ _) ha (fun b hb => .inl (ho b hb)) (fun b hb => hb.elim) (ι := Unit) (own' := fun _ => clOwn own b5 b6 b7) (A' := fun _ => BkA A b5 b6 b7 TT GG nn b r) (fun _ => priv_bk hP _ _ _ _ _ _ _ _)
        (K' := fun _ => [(0, .iface 107 (.pointer (some ⟨a.m, 0, none⟩))), (5, .pointer (some ⟨b5, 0, none⟩)), (6, .pointer (some ⟨b6, 0, none⟩)), (7, .pointer (some ⟨b7, 0, none⟩)), (18, .int .i64 r), (19, .int .i64 ((i + 1 : Nat) : Int))]) (fun _ _ => False) (stok_at rfl rfl (by simp) (by kernel_rfl)) (fun wt Q hAt hz hcell hQ => bk_p6 (i := i) (by omega) y0 y5 y6 y7 (y18.trans hx2.2.2.2.2.2.1) (y19.trans hx2.2.2.2.2.2.2.1) fun a' hf => hQ a' () _ (fun y hy => .inl hy) hf hAt (Ks.refl _ _)) fun x3 _ w3 _ hx3 hB3 k3 hA3 hM3 => ?_
      refine Win.inLoop ?_
      rw [← bk_e3]
      exact ih (i + 1) (by omega) x3 home n pl F _ w3 g hx3 hA3 (fun b hb => (grownS_keep hA'.lay (by rw [ho b hb]; simp)).trans (ho b hb)) hB3 (hSh.plainS hA'.lay hs' k3 (fun b hb => hb.elim)) (K'.moves hM3)
end
end Go.Proofs.Ytnbaiinhalplcaa

namespace Go.Proofs.Ytnbaiinhalplcaa
set_option linter.unusedVariables false
set_option linter.unusedSimpArgs false
set_option maxRecDepth 100000
open Go.RowKit
open Go.Conc
open Go.ConcN (upd_ne upd_same)

section
variable {G : Type} {Post : Value → World → Prop} {Sh : (Nat → Col) → World → G → Prop} {SB : Nat → Prop} {pA rA : Nat} {a : Ag} {mv : Value} {home : Goroutine → Prop} {n : Nat} {runs ov : Bool} {TT GG nn : Nat} {bI rI : Int} {b r : Nat}
variable {pl pl' : Nat → Option Place} {F F' F1 : Nat → Option (Nat × Nat)} {col col' col1 : Nat → Col} {w w' w1 : World} {g : G} {S : Nat → Prop} {c₀ : Frame} {cs : List Frame}

set_option maxHeartbeats 4000000 in
/-- BACK of what is a run. -/
theorem back_in (hSh : Shar Sh) (hmv : mv = memV pA) (hT : TT ≤ 64) (hG : GG ≤ 8) (hnn : nn ≤ 64) {cc : G → G} {T : G → Tree G} {hl : G → G} {own : Nat → Prop} {A : World → Prop} (hP : Priv own A)
    (hres : ∀ home n pl' F' col' w' g, Acts SB pA rA a mv home true false pl' F' col' w' → (∀ b, own b → col' b = .ag a.j) → A w' → Sh col' w' g → Kont Post Sh SB pA rA a mv home n (T g) pl' F' col' w' (cc g) → Win Try.prog Post pl' n a.j (gor (c₀.finish (.tuple #[])) cs) w')
    (hstop : ∀ home n pl' F' col' w' g, Ends SB pA rA a mv home pl' F' col' w' → (∀ b, own b → col' b = .ag a.j) → A w' → Sh col' w' g → Kont Post Sh SB pA rA a mv home n .ret pl' F' col' w' (hl g) → Win Try.prog Post pl' n a.j (gor (c₀.raise [haltE]) cs) w') (h1 : 1 ≤ r) (h3 : r ≤ 3) (hbr : b + r ≤ nn) (hA : Acts SB pA rA a mv home true false pl F col w) (hown : ∀ b, own b → col b = .ag a.j) (hAw : A w) (hs : Sh col w g) (K : Kont Post Sh SB pA rA a mv home n (bkT (3 + TT + GG + b) (giveI b r) cc T hl r) pl F col w g) :
    Win Try.prog Post pl n a.j (gor (Frame.enter Try.prog 11 #[.iface 107 (.pointer (some ⟨a.m, 0, none⟩)), .agg #[.int .i64 TT, .int .i64 GG, .int .i64 nn], .int .i64 b, .int .i64 r] .normal) (c₀ :: cs)) w := by
  have hrun : runG nn b r = true := runG_iff.2 (by omega)
  have hb : (Frame.enter Try.prog 11 #[.iface 107 (.pointer (some ⟨a.m, 0, none⟩)), .agg #[.int .i64 TT, .int .i64 GG, .int .i64 nn], .int .i64 b, .int .i64 r] .normal).kind = .normal := rfl
  rw [enter_at (c := bodyOf Try.f11) Try.func11 rfl]
  refine win_slotsN T39_shape (K := [(0, .iface 107 (.pointer (some ⟨a.m, 0, none⟩))), (1, .agg #[.int .i64 TT, .int .i64 GG, .int .i64 nn]), (2, .int .i64 b), (3, .int .i64 r)]) (by kernel_rfl) ⟨by kernel_rfl, by kernel_rfl, by kernel_rfl, by kernel_rfl, trivial⟩ fun x hx => ?_
  rw [bk_e0]
  refine Win.seq ?_
  refine hA.pieceN T39_shape (own := own) (S := fun _ => False) hP hAw (fun b hb => .inl (hown b hb)) (fun b hb => hb.elim) (ι := Unit) (own' := fun _ => clOwn own w.heap.size (w.heap.size + 1) (w.heap.size + 2)) (A' := fun _ => BkA A w.heap.size (w.heap.size + 1) (w.heap.size + 2) TT GG nn b r) (fun _ => priv_bk hP _ _ _ _ _ _ _ _)
    (K' := fun _ => [(0, .iface 107 (.pointer (some ⟨a.m, 0, none⟩))), (5, .pointer (some ⟨w.heap.size, 0, none⟩)), (6, .pointer (some ⟨w.heap.size + 1, 0, none⟩)), (7, .pointer (some ⟨w.heap.size + 2, 0, none⟩))]) (fun _ _ => False) (stok_at rfl rfl (by simp) (by kernel_rfl)) (fun wt Q hAt hz hcell hQ => bk_p0 hx.1 hx.2.1 hx.2.2.1 hx.2.2.2.1 fun a' w' hf hw => ?_) fun x1 _ w1 _ hx1 hB1 k1 hA1 hM1 => ?_
  · subst hw
    have hk := bw3_kp wt TT GG nn b r
    have hr := bw3_rows wt TT GG nn b r
    have hz' : (bw3 wt TT GG nn b r).heap.size = wt.heap.size + 3 := by simp [bw3]
    rw [hz] at hf hr
    refine hQ a' () _ (fun y hy => ?_) hf ⟨hP.st _ _ hAt fun b hb => hk.block b (hP.lt _ _ hAt hb) (by simp), hr⟩ ((ks_of_kp hk).mono fun _ _ z => by simp at z)
    rcases hy with hy | hy | hy | hy
    · exact .inl hy
    all_goals (right; omega)
  have hz1 : w.heap.size + 3 ≤ w1.heap.size := by have := lt_of_block hB1.2.2.2; omega
  have K1 := K.moves hM1
  have hs1 := hSh.plainS (j := a.j) (sh := fun _ => False) hA.lay hs k1 (fun b hb => hb.elim)
  have hown1 : ∀ b, clOwn own w.heap.size (w.heap.size + 1) (w.heap.size + 2) b → grownS a.j (fun _ => False) col w w1 b = .ag a.j := fun b hb => by
    rcases hb with hb | hb | hb | hb
    · exact (grownS_keep hA.lay (by rw [hown b hb]; simp)).trans (hown b hb)
    all_goals exact grownS_new (by omega) (by omega) (fun z => z)
  clear hAw hs K k1 hM1
  generalize grownS a.j (fun _ => False) col w w1 = col1 at hA1 K1 hs1 hown1
  generalize w.heap.size + 1 = b6 at *
  generalize w.heap.size + 2 = b7 at *
  generalize w.heap.size = b5 at *
  clear hA
  rw [bk_e1]
  refine Win.seq ?_
  refine Win.seq ?_
  refine hA1.pieceN T39_shape (own := clOwn own b5 b6 b7) (S := fun _ => False) (priv_bk hP _ _ _ _ _ _ _ _) hB1 (fun b hb => .inl (hown1 b hb)) (fun b hb => hb.elim) (ι := Unit) (own' := fun _ => clOwn own b5 b6 b7) (A' := fun _ => BkA A b5 b6 b7 TT GG nn b r) (fun _ => priv_bk hP _ _ _ _ _ _ _ _)
    (K' := fun _ => [(0, .iface 107 (.pointer (some ⟨a.m, 0, none⟩))), (5, .pointer (some ⟨b5, 0, none⟩)), (6, .pointer (some ⟨b6, 0, none⟩)), (7, .pointer (some ⟨b7, 0, none⟩)), (17, .bool (!runG nn b r))]) (fun _ _ => False) (stok_at rfl rfl (by simp) (by kernel_rfl)) (fun wt Q hAt hz hcell hQ => bk_p1 hnn hx1.1 hx1.2.1 hx1.2.2.1 hx1.2.2.2.1 hAt.2.1 hAt.2.2.1 hAt.2.2.2 fun a' w' hf hk => hQ a' () _ (fun y hy => .inl hy) hf ((priv_bk hP _ _ _ _ _ _ _ _).grow hAt ((ks_of_kp hk).mono fun _ _ z => by simp at z)) ((ks_of_kp hk).mono fun _ _ z => by simp at z)) fun x2 _ w2 _ hx2 hB2 k2 hA2 hM2 => ?_
  have hx17 : x2 17 = .bool false := hx2.2.2.2.2.1.trans (by rw [hrun]; rfl)
  have K2 := K1.moves hM2
  have hs2 := hSh.plainS (j := a.j) (sh := fun _ => False) hA1.lay hs1 k2 (fun b hb => hb.elim)
  have hown2 : ∀ b, clOwn own b5 b6 b7 b → grownS a.j (fun _ => False) col1 w1 w2 b = .ag a.j := fun b hb => (grownS_keep hA1.lay (by rw [hown1 b hb]; simp)).trans (hown1 b hb)
  generalize grownS a.j (fun _ => False) col1 w1 w2 = col2 at hA2 K2 hs2 hown2
  clear hA1 K1 hs1 hown1 hB1 k2 hM2
  refine Win.cond (t := false) (by simp only [Act.eval, T39]; exact hx17) ?_
  simp only [if_false, Bool.false_eq_true]
  refine Win.skip ?_
  rw [bk_e2]
  refine Win.seq ?_
  refine Win.seq ?_
  refine hA2.pieceN T39_shape (own := clOwn own b5 b6 b7) (S := fun _ => False) (priv_bk hP _ _ _ _ _ _ _ _) hB2 (fun b hb => .inl (hown2 b hb)) (fun b hb => hb.elim) (ι := Unit) (own' := fun _ => clOwn own b5 b6 b7) (A' := fun _ => BkA A b5 b6 b7 TT GG nn b r) (fun _ => priv_bk hP _ _ _ _ _ _ _ _)
    (K' := fun _ => [(0, .iface 107 (.pointer (some ⟨a.m, 0, none⟩))), (5, .pointer (some ⟨b5, 0, none⟩)), (6, .pointer (some ⟨b6, 0, none⟩)), (7, .pointer (some ⟨b7, 0, none⟩)), (18, .int .i64 r), (19, .int .i64 0)]) (fun _ _ => False) (stok_at rfl rfl (by simp) (by kernel_rfl)) (fun wt Q hAt hz hcell hQ => bk_p2 hx2.1 hx2.2.1 hx2.2.2.1 hx2.2.2.2.1 (by exact cell_of_row hAt.2.2.2 0) fun a' hf => hQ a' () _ (fun y hy => .inl hy) hf hAt (Ks.refl _ _)) fun x3 _ w3 _ hx3 hB3 k3 hA3 hM3 => ?_
  refine Win.block ?_
  refine Win.loop ?_
  exact bk_loop hSh hmv hT hG hnn hP hres hstop h1 h3 hbr r 0 (by omega) x3 home n pl F _ w3 g hx3 hA3 (fun b hb => (grownS_keep hA2.lay (by rw [hown2 b hb]; simp)).trans (hown2 b hb)) hB3 (hSh.plainS hA2.lay hs2 k3 (fun b hb => hb.elim)) (K2.moves hM3)

set_option maxHeartbeats 4000000 in
/-- BACK of what is none. -/
theorem back_no (hSh : Shar Sh) (hnn : nn ≤ 64) {T : Tree G} {g' : G} {own : Nat → Prop} {A : World → Prop} (hP : Priv own A) (hrun : runG nn bI rI = false)
    (hres : ∀ pl' F' col' w', Acts SB pA rA a mv home true false pl' F' col' w' → (∀ b, own b → col' b = .ag a.j) → A w' → Sh col' w' g → Kont Post Sh SB pA rA a mv home n T pl' F' col' w' g' → Win Try.prog Post pl' n a.j (gor (c₀.finish (.tuple #[])) cs) w')
    (hA : Acts SB pA rA a mv home true false pl F col w) (hown : ∀ b, own b → col b = .ag a.j) (hAw : A w) (hs : Sh col w g) (K : Kont Post Sh SB pA rA a mv home n T pl F col w g') :
    Win Try.prog Post pl n a.j (gor (Frame.enter Try.prog 11 #[.iface 107 (.pointer (some ⟨a.m, 0, none⟩)), .agg #[.int .i64 TT, .int .i64 GG, .int .i64 nn], .int .i64 bI, .int .i64 rI] .normal) (c₀ :: cs)) w := by
  have hb : (Frame.enter Try.prog 11 #[.iface 107 (.pointer (some ⟨a.m, 0, none⟩)), .agg #[.int .i64 TT, .int .i64 GG, .int .i64 nn], .int .i64 bI, .int .i64 rI] .normal).kind = .normal := rfl
  rw [enter_at (c := bodyOf Try.f11) Try.func11 rfl]
  refine win_slotsN T39_shape (K := [(0, .iface 107 (.pointer (some ⟨a.m, 0, none⟩))), (1, .agg #[.int .i64 TT, .int .i64 GG, .int .i64 nn]), (2, .int .i64 bI), (3, .int .i64 rI)]) (by kernel_rfl) ⟨by kernel_rfl, by kernel_rfl, by kernel_rfl, by kernel_rfl, trivial⟩ fun x hx => ?_
  rw [bk_e0]
  refine Win.seq ?_
  refine hA.pieceN T39_shape (own := own) (S := fun _ => False) hP hAw (fun b hb => .inl (hown b hb)) (fun b hb => hb.elim) (ι := Unit) (own' := fun _ => clOwn own w.heap.size (w.heap.size + 1) (w.heap.size + 2)) (A' := fun _ => BkA A w.heap.size (w.heap.size + 1) (w.heap.size + 2) TT GG nn bI rI) (fun _ => priv_bk hP _ _ _ _ _ _ _ _)
    (K' := fun _ => [(0, .iface 107 (.pointer (some ⟨a.m, 0, none⟩))), (5, .pointer (some ⟨w.heap.size, 0, none⟩)), (6, .pointer (some ⟨w.heap.size + 1, 0, none⟩)), (7, .pointer (some ⟨w.heap.size + 2, 0, none⟩))]) (fun _ _ => False) (stok_at rfl rfl (by simp) (by kernel_rfl)) (fun wt Q hAt hz hcell hQ => bk_p0 hx.1 hx.2.1 hx.2.2.1 hx.2.2.2.1 fun a' w' hf hw => ?_) fun x1 _ w1 _ hx1 hB1 k1 hA1 hM1 => ?_
  · subst hw
    have hk := bw3_kp wt TT GG nn bI rI
    have hr := bw3_rows wt TT GG nn bI rI
    have hz' : (bw3 wt TT GG nn bI rI).heap.size = wt.heap.size + 3 := by simp [bw3]
    rw [hz] at hf hr
    refine hQ a' () _ (fun y hy => ?_) hf ⟨hP.st _ _ hAt fun b hb => hk.block b (hP.lt _ _ hAt hb) (by simp), hr⟩ ((ks_of_kp hk).mono fun _ _ z => by simp at z)
    rcases hy with hy | hy | hy | hy
    · exact .inl hy
    all_goals (right; omega)
  have hz1 : w.heap.size + 3 ≤ w1.heap.size := by have := lt_of_block hB1.2.2.2; omega
  have K1 := K.moves hM1
  have hs1 := hSh.plainS (j := a.j) (sh := fun _ => False) hA.lay hs k1 (fun b hb => hb.elim)
  have hown1 : ∀ b, clOwn own w.heap.size (w.heap.size + 1) (w.heap.size + 2) b → grownS a.j (fun _ => False) col w w1 b = .ag a.j := fun b hb => by
    rcases hb with hb | hb | hb | hb
    · exact (grownS_keep hA.lay (by rw [hown b hb]; simp)).trans (hown b hb)
    all_goals exact grownS_new (by omega) (by omega) (fun z => z)
  clear hAw hs K k1 hM1
  generalize grownS a.j (fun _ => False) col w w1 = col1 at hA1 K1 hs1 hown1
  generalize w.heap.size + 1 = b6 at *
  generalize w.heap.size + 2 = b7 at *
  generalize w.heap.size = b5 at *
  clear hA
  rw [bk_e1]
  refine Win.seq ?_
  refine Win.seq ?_
  refine hA1.pieceN T39_shape (own := clOwn own b5 b6 b7) (S := fun _ => False) (priv_bk hP _ _ _ _ _ _ _ _) hB1 (fun b hb => .inl (hown1 b hb)) (fun b hb => hb.elim) (ι := Unit) (own' := fun _ => clOwn own b5 b6 b7) (A' := fun _ => BkA A b5 b6 b7 TT GG nn bI rI) (fun _ => priv_bk hP _ _ _ _ _ _ _ _)
    (K' := fun _ => [(0, .iface 107 (.pointer (some ⟨a.m, 0, none⟩))), (5, .pointer (some ⟨b5, 0, none⟩)), (6, .pointer (some ⟨b6, 0, none⟩)), (7, .pointer (some ⟨b7, 0, none⟩)), (17, .bool (!runG nn bI rI))]) (fun _ _ => False) (stok_at rfl rfl (by simp) (by kernel_rfl)) (fun wt Q hAt hz hcell hQ => bk_p1 hnn hx1.1 hx1.2.1 hx1.2.2.1 hx1.2.2.2.1 hAt.2.1 hAt.2.2.1 hAt.2.2.2 fun a' w' hf hk => hQ a' () _ (fun y hy => .inl hy) hf ((priv_bk hP _ _ _ _ _ _ _ _).grow hAt ((ks_of_kp hk).mono fun _ _ z => by simp at z)) ((ks_of_kp hk).mono fun _ _ z => by simp at z)) fun x2 _ w2 _ hx2 hB2 k2 hA2 hM2 => ?_
  have hx17 : x2 17 = .bool true := hx2.2.2.2.2.1.trans (by rw [hrun]; rfl)
  have K2 := K1.moves hM2
  have hs2 := hSh.plainS (j := a.j) (sh := fun _ => False) hA1.lay hs1 k2 (fun b hb => hb.elim)
  have hown2 : ∀ b, clOwn own b5 b6 b7 b → grownS a.j (fun _ => False) col1 w1 w2 b = .ag a.j := fun b hb => (grownS_keep hA1.lay (by rw [hown1 b hb]; simp)).trans (hown1 b hb)
  generalize grownS a.j (fun _ => False) col1 w1 w2 = col2 at hA2 K2 hs2 hown2
  clear hA1 K1 hs1 hown1 hB1 k2 hM2
  refine Win.cond (t := true) (by simp only [Act.eval, T39]; exact hx17) ?_
  simp only [if_true]
  refine Win.ret ?_
  refine Win.leave (v := .tuple #[]) rfl rfl rfl Try.func11 (fun d => ⟨#[], by rw [Sem.runT_eq]; simp [go_sem, results, Try.f11], fun e he => by simp at he⟩) ?_
  exact hres pl F _ w2 hA2 (fun b hb => hown2 b (.inl hb)) hB2.1 hs2 K2
end
end Go.Proofs.Ytnbaiinhalplcaa

namespace Go.Proofs.Ytnbaiinhalplcaa
set_option linter.unusedVariables false
set_option linter.unusedSimpArgs false
open Go.RowKit
/-- The block that a slice leads to, as a list. -/
def blk (v : Value) : List Nat := v.ownBlock.toList
theorem blk_nil : blk (.slice none 0 0) = [] := rfl
theorem blk_some (g o n c : Nat) : blk (.slice (some ⟨g, o, none⟩) n c) = [g] := rfl
theorem kp_of_row {w w' : World} {v : Value} (h : w.grownBy w' v.ownBlock) : Kp (blk v) w w' := ⟨h.os, h.tape, h.output, h.size, fun k hk hn => h.block k hk (by
  intro e
  apply hn
  unfold blk
  rw [Option.mem_toList]
  exact e.symm)⟩
theorem ne_types {w : World} {a b : Nat} {x y : Array Value} {t u : TypeId} (h : w.heap[a]? = some (.cells x t (0, 0))) (k : w.heap[b]? = some (.cells y u (0, 0))) (htu : t ≠ u) : a ≠ b := by
  intro e; subst e
  have := h.symm.trans k
  simp at this
  exact htu this.2
theorem Kp.cell {S : List Nat} {w w' : World} (k : Kp S w w') {g o : Nat} (hg : g ∉ S) {v : Value} (h : w.cell? ⟨g, o, none⟩ = some v) : w'.cell? ⟨g, o, none⟩ = some v :=
  (World.cell?_of_block (a := ⟨g, o, none⟩) (k.block g (block_lt_of_cell h) hg)).trans h


/-- A row of the call's own, made since base: n elements of type T, sz cells each. -/
structure Rw (T : TypeId) (sz : Nat) (base : Nat) (w : World) (v : Value) (n : Nat) (xs : List Value) : Prop where
  own : w.ownsRow base T sz v n xs
section
variable {T : TypeId} {sz base : Nat} {w w' : World} {v : Value} {n : Nat} {xs : List Value}
theorem Rw.nil (T : TypeId) (sz base : Nat) (w : World) : Rw T sz base w (.slice none 0 0) 0 [] := ⟨World.ownsRow_nil _ _ _ _⟩
theorem Rw.keep {S : List Nat} (h : Rw T sz base w v n xs) (k : Kp S w w') (hS : ∀ b ∈ blk v, b ∉ S) : Rw T sz base w' v n xs := by
  refine ⟨h.own.1, ?_⟩
  rcases h.own.2 with h0 | ⟨b, c, cur, rfl, hge, hb, r⟩
  · exact .inl h0
  · exact .inr ⟨b, c, cur, rfl, hge, k.row (hS b (by simp [blk_some])) hb, r⟩
theorem Rw.keep0 (h : Rw T sz base w v n xs) (k : Kp [] w w') : Rw T sz base w' v n xs := h.keep k (by simp)
theorem Rw.block (h : Rw T sz base w v n xs) : ∀ b ∈ blk v, base ≤ b ∧ ∃ cur, w.heap[b]? = some (.cells cur T (0, 0)) := by
  intro b hb
  rcases h.own.2 with ⟨rfl, _⟩ | ⟨b', c, cur, rfl, hge, hb', _⟩
  · simp [blk_nil] at hb
  · rw [blk_some, List.mem_singleton] at hb
    exact ⟨hb ▸ hge, cur, hb ▸ hb'⟩
theorem Rw.nin {b : Nat} {x : Array Value} {t : TypeId} (h : Rw T sz base w v n xs) (hb : w.heap[b]? = some (.cells x t (0, 0))) (ht : T ≠ t) : b ∉ blk v := fun hm => by
  obtain ⟨_, c, hc⟩ := h.block b hm
  exact ne_types hc hb ht rfl
theorem Rw.form (h : Rw T sz base w v n xs) : ∃ ao c, v = .slice ao n c := by
  rcases h.own.2 with ⟨rfl, h0⟩ | ⟨b, c, cur, rfl, _⟩
  · exact ⟨none, 0, by rw [h0]⟩
  · exact ⟨_, c, rfl⟩
theorem Rw.at (h : Rw T sz base w v n xs) (hn : 0 < n) (hsz : 0 < sz) : ∃ b c, v = .slice (some ⟨b, 0, none⟩) n c ∧ n ≤ c ∧ ∀ i, i < n * sz → w.cell? ⟨b, i, none⟩ = xs[i]? := by
  rcases h.own.2 with ⟨_, h0⟩ | ⟨b, c, cur, rfl, _, hb, h1, h2, h3, h4⟩
  · omega
  · refine ⟨b, c, rfl, h1, fun i hi => ?_⟩
    rw [cell_of_row hb, ← h4, List.getElem?_take_of_lt hi]
    simp
/-- Nothing older than the base turns where such a row does. -/
theorem Rw.old (h : Rw T sz base w v n xs) {w0 : World} (hb : base = w0.heap.size) (k0 : Kp [] w0 w) (k : Kp (blk v) w w') : Kp [] w0 w' :=
  ((k0.mono (by simp)).trans k).mono fun y hy hlt => by have := (h.block y hy).1; omega
theorem Rw.len (h : Rw T sz base w v n xs) : xs.length = n * sz := h.own.1
end

/-- 'append(v, news...)', its run. -/
theorem run_app {T t ty : TypeId} {sz base bytes : Nat} {w : World} {v : Value} {n : Nat} {xs : List Value} (ht : Try.prog.underlying t = some (.slice T)) (hi : ∃ i z, Try.prog.info? T = some i ∧ i.zero = some z ∧ i.size = sz ∧ i.bytes = bytes ∧ z.cells.size = sz) (hsz : 0 < sz)
    (h : Rw T sz base w v n xs) (hbase : base ≤ w.heap.size) (ad : Addr) (m c : Nat) (news : List Value) (hl : news.length = m * sz) (hnews : ∀ j u, news[j]? = some u → w.cell? (ad.add j) = some u) (h1 : ∀ u ∈ news, u.oneCell' = true) (hm : 0 < m)
    (hn : n + m ≤ 1000000) (hb : bytes ≤ 100) :
    ∃ g cap w', (Builtin.append_ #[t, t] ty #[v, .slice (some ad) m c]).run Try.prog w = .ok (.slice (some ⟨g, 0, none⟩) (n + m) cap) w' ∧ Rw T sz base w' (.slice (some ⟨g, 0, none⟩) (n + m) cap) (n + m) (xs ++ news) ∧ Kp (blk v) w w' ∧ (g ∈ blk v ∨ g = w.heap.size) := by
  obtain ⟨i, z, e1, e2, e3, e4, e5⟩ := hi
  have h63 : n + m ≤ maxLen := by unfold maxLen; omega
  have hby : (n + m) * bytes ≤ 140737488355328 := by
    have : (n + m) * bytes ≤ 1000000 * 100 := Nat.mul_le_mul hn hb
    omega
  obtain ⟨g, cap, w', hr, h2, h3, h4, _⟩ := run_append_lies (P := Try.prog) w t ty base T i z sz bytes ht e1 e2 e3 e4 e5 hsz v n xs h.own ad m c news hl hnews h1 hm h63 hby hbase _ rfl
  exact ⟨g, cap, w', hr, ⟨h2⟩, kp_of_row h3, h4.imp (fun e => by unfold blk; rw [e]; simp) id⟩


/-- An 'append' whose run is known. -/
theorem wpList_append_eq {P : Program} {w w2 : World} {ops : Array Oper} {rest : List Oper} {o : Oper} {a : Act} {Q : Exit → Act → World → Prop} (hgd : o.guard = none) (s x : Operand) (t : TypeId)
    (ho : o.op = .call { callee := .builtin .append, args := #[s, x], argTypes := #[t, t] }) (sv xv v : Value) (hs : a.eval s = sv) (hx : a.eval x = xv)
    (hrun : (Builtin.append_ #[t, t] o.type #[sv, xv]).run P w = .ok v w2) (hK : wpList P ops Q rest (a.put o.dst v) w2) : wpList P ops Q (o :: rest) a w := by
  refine wpList_plain hgd fun K hK' => ?_
  unfold Oper.wp
  simp [execOp, ho, resolve, invoke, builtin, hs, hx, hrun, Result.andThen]
  exact hK' _ _ hK


end Go.Proofs.Ytnbaiinhalplcaa

namespace Go.Proofs.Ytnbaiinhalplcaa
set_option linter.unusedVariables false
set_option linter.unusedSimpArgs false
set_option maxRecDepth 100000
open Go.RowKit

/-- A cell of hands. -/
def cellH (xs : List (Int × Int)) (k : Nat) : Value := .int .i64 (if k % 2 = 0 then (xs.getD (k / 2) (0, 0)).1 else (xs.getD (k / 2) (0, 0)).2)
def cellsH (xs : List (Int × Int)) : List Value := (List.range (2 * xs.length)).map (cellH xs)
theorem cellsH_len (xs : List (Int × Int)) : (cellsH xs).length = 2 * xs.length := by simp [cellsH]
theorem cellsH_get (xs : List (Int × Int)) {k : Nat} (h : k < 2 * xs.length) : (cellsH xs)[k]? = some (cellH xs k) := by simp [cellsH, h]
theorem cellH_old (xs ys : List (Int × Int)) {k : Nat} (h : k < 2 * xs.length) : cellH (xs ++ ys) k = cellH xs k := by
  unfold cellH
  have : k / 2 < xs.length := by omega
  simp [List.getD, List.getElem?_append_left this]
theorem cellH_new (xs : List (Int × Int)) (h : Int × Int) : cellH (xs ++ [h]) (2 * xs.length) = .int .i64 h.1 ∧ cellH (xs ++ [h]) (2 * xs.length + 1) = .int .i64 h.2 := by
  unfold cellH
  refine ⟨?_, ?_⟩
  · rw [if_pos (by omega), show 2 * xs.length / 2 = xs.length by omega]; simp [List.getD]
  · rw [if_neg (by omega), show (2 * xs.length + 1) / 2 = xs.length by omega]; simp [List.getD]
theorem cellH_tail (h : Int × Int) (xs : List (Int × Int)) (k : Nat) : cellH (h :: xs) (k + 2) = cellH xs k := by
  unfold cellH
  rw [show (k + 2) % 2 = k % 2 by omega, show (k + 2) / 2 = k / 2 + 1 by omega]
  simp [List.getD]
theorem cellsH_snoc (xs : List (Int × Int)) (h : Int × Int) : cellsH (xs ++ [h]) = cellsH xs ++ [.int .i64 h.1, .int .i64 h.2] := by
  apply List.ext_getElem?
  intro k
  by_cases h1 : k < 2 * xs.length
  · rw [List.getElem?_append_left (by rw [cellsH_len]; exact h1), cellsH_get _ h1, cellsH_get _ (by simp; omega), cellH_old _ _ h1]
  · rw [List.getElem?_append_right (by rw [cellsH_len]; omega), cellsH_len]
    rcases (by omega : k = 2 * xs.length ∨ k = 2 * xs.length + 1 ∨ 2 * xs.length + 2 ≤ k) with e | e | e
    · subst e; rw [cellsH_get _ (by simp), (cellH_new xs h).1]; simp
    · subst e; rw [cellsH_get _ (by simp; omega), (cellH_new xs h).2]; simp
    · rw [List.getElem?_eq_none (by rw [cellsH_len]; simp; omega), List.getElem?_eq_none (by simp; omega)]

/-- A queue of hands. -/
structure Qh (w : World) (v : Value) (xs : List (Int × Int)) : Prop where
  q : (v = .slice none 0 0 ∧ xs = []) ∨ ∃ b off cap cur, v = .slice (some ⟨b, off, none⟩) xs.length cap ∧ w.heap[b]? = some (.cells cur 44 (0, 0)) ∧ xs.length ≤ cap ∧ off + 2 * cap ≤ cur.size ∧ ∀ k, k < 2 * xs.length → cur[off + k]? = some (cellH xs k)
section
variable {w w' : World} {v : Value} {xs : List (Int × Int)}
theorem Qh.nil (w : World) : Qh w (.slice none 0 0) [] := ⟨.inl ⟨rfl, rfl⟩⟩
theorem Qh.same (h : Qh w v xs) (hS : ∀ b ∈ blk v, w'.heap[b]? = w.heap[b]?) : Qh w' v xs := by
  rcases h.q with h | ⟨b, off, cap, cur, rfl, h2, h3⟩
  · exact ⟨.inl h⟩
  · exact ⟨.inr ⟨b, off, cap, cur, rfl, (hS b (by simp [blk_some])).trans h2, h3⟩⟩
theorem Qh.keep {S : List Nat} (h : Qh w v xs) (k : Kp S w w') (hS : ∀ b ∈ blk v, b ∉ S) : Qh w' v xs := by
  rcases h.q with h | ⟨b, off, cap, cur, rfl, h2, h3⟩
  · exact ⟨.inl h⟩
  · exact ⟨.inr ⟨b, off, cap, cur, rfl, k.row (hS b (by simp [blk_some])) h2, h3⟩⟩
theorem Qh.block (h : Qh w v xs) : ∀ b ∈ blk v, ∃ cur, w.heap[b]? = some (.cells cur 44 (0, 0)) := by
  intro b hb
  rcases h.q with ⟨rfl, _⟩ | ⟨b', off, cap, cur, rfl, h2, _⟩
  · simp [blk_nil] at hb
  · rw [blk_some, List.mem_singleton] at hb
    exact ⟨cur, hb ▸ h2⟩
theorem Qh.nin {b : Nat} {x : Array Value} {t : TypeId} (h : Qh w v xs) (hb : w.heap[b]? = some (.cells x t (0, 0))) (ht : 44 ≠ t) : b ∉ blk v := fun hm => by
  obtain ⟨c, hc⟩ := h.block b hm
  exact ne_types hc hb ht rfl
theorem Qh.form (h : Qh w v xs) : ∃ ao c, v = .slice ao xs.length c := by
  rcases h.q with ⟨rfl, rfl⟩ | ⟨b, off, cap, cur, rfl, _⟩
  · exact ⟨none, 0, rfl⟩
  · exact ⟨_, cap, rfl⟩
theorem Qh.of_row {n base : Nat} (h : Rw 44 2 base w v n (cellsH xs)) : Qh w v xs := by
  have hl := h.len
  rw [cellsH_len] at hl
  rcases h.own.2 with ⟨rfl, h0⟩ | ⟨b, c, cur, rfl, hge, hb, h1, h2, h3, h4⟩
  · refine ⟨.inl ⟨rfl, ?_⟩⟩
    cases xs with
    | nil => rfl
    | cons a t => simp at hl; omega
  · obtain rfl : n = xs.length := by omega
    refine ⟨.inr ⟨b, 0, c, cur, rfl, hb, h1, by omega, fun k hk => ?_⟩⟩
    have e : cur[0 + k]? = (cur.toList.take (xs.length * 2))[k]? := by rw [List.getElem?_take_of_lt (by omega)]; simp
    rw [e, h4, cellsH_get _ hk]
theorem qh_info : (Try.prog.info? 44).map (fun i => (i.zero, i.size, i.bytes)) = some (some (.agg #[.int .i64 0, .int .i64 0]), 2, 16) := by kernel_rfl
/-- The first hand goes. -/
theorem Qh.pop {h : Int × Int} {b off cap n : Nat} (hq : Qh w (.slice (some ⟨b, off, none⟩) n cap) (h :: xs)) : n = xs.length + 1 ∧ n ≤ cap ∧ w.cell? ⟨b, off, none⟩ = some (.int .i64 h.1) ∧ w.cell? ⟨b, off + 1, none⟩ = some (.int .i64 h.2) ∧ Qh w (.slice (some ⟨b, off + 2, none⟩) xs.length (cap - 1)) xs ∧ (cap = 1 → Qh w (.slice (some ⟨b, off, none⟩) 0 0) xs) := by
  rcases hq.q with ⟨e, _⟩ | ⟨b', off', cap', cur, e, h2, h3, h4, h5⟩
  · cases e
  · simp only [Value.slice.injEq, Option.some.injEq, Addr.mk.injEq, List.length_cons] at e
    obtain ⟨⟨rfl, rfl, _⟩, rfl, rfl⟩ := e
    simp only [List.length_cons] at h3 h5
    refine ⟨rfl, by omega, ?_, ?_, ⟨.inr ⟨b, off + 2, cap - 1, cur, rfl, h2, by omega, by omega, fun k hk => ?_⟩⟩, fun hc => ⟨.inr ⟨b, off, 0, cur, ?_, h2, by omega, by omega, fun k hk => by omega⟩⟩⟩
    · rw [cell_of_row h2]; exact h5 0 (by omega)
    · rw [cell_of_row h2]; exact h5 1 (by omega)
    · rw [show off + 2 + k = off + (k + 2) by omega, h5 (k + 2) (by omega), cellH_tail]
    · rw [show xs.length = 0 by omega]
/-- One hand more, behind all others. -/
theorem Qh.push (h : Qh w v xs) (x : Int × Int) (ad : Addr) (hx : w.cell? ad = some (.int .i64 x.1)) (hx' : w.cell? (ad.add 1) = some (.int .i64 x.2)) (hn : xs.length ≤ 100000) (ty : TypeId) :
    ∃ v' w', (Builtin.append_ #[34, 34] ty #[v, .slice (some ad) 1 1]).run Try.prog w = .ok v' w' ∧ Qh w' v' (xs ++ [x]) ∧ Kp (blk v) w w' ∧ ∀ b ∈ blk v', b ∈ blk v ∨ w.heap.size ≤ b := by
  obtain ⟨i0, hi, hz0, hz1, hz2⟩ := info_parts qh_info
  have hnews : ∀ (j : Nat) (u : Value), [Value.int .i64 x.1, Value.int .i64 x.2][j]? = some u → w.cell? (ad.add j) = some u := by
    intro j u hu
    rcases j with _ | _ | j
    · simp at hu; subst hu; simpa [Addr.add] using hx
    · simp at hu; subst hu; exact hx'
    · simp at hu
  have hone : ∀ u ∈ [Value.int .i64 x.1, Value.int .i64 x.2], u.oneCell' = true := by simp [Value.oneCell']
  rcases h.q with ⟨rfl, rfl⟩ | ⟨b, off, cap, cur, rfl, h2, h3, h4, h5⟩
  · obtain ⟨g, cap, w', r1, r2, r3, r4⟩ := run_app (T := 44) (t := 34) (ty := ty) (sz := 2) (base := 0) (bytes := 16) Try.underlying34 ⟨i0, _, hi, hz0, hz1, hz2, rfl⟩ (by decide) (Rw.nil _ _ _ _) (Nat.zero_le _) ad 1 1 [.int .i64 x.1, .int .i64 x.2] rfl hnews hone (by decide) (by decide) (by decide)
    refine ⟨_, w', r1, Qh.of_row (base := 0) (n := 0 + 1) (by rw [cellsH_snoc]; exact r2), r3, fun y hy => ?_⟩
    rw [blk_some, List.mem_singleton] at hy
    subst hy
    exact r4.imp id (fun e => by omega)
  · by_cases hr : xs.length + 1 ≤ cap
    · have hc : ∀ j, j < 2 → (w.cell? ⟨b, off + xs.length * 2 + j, none⟩).isSome = true := fun j hj => by
        rw [cell_of_row h2, Array.getElem?_eq_getElem (by omega)]
        rfl
      have := run_append_room_cells (P := Try.prog) w 34 ty 44 i0 Try.underlying34 hi b off xs.length cap ad 1 1 [.int .i64 x.1, .int .i64 x.2] (by rw [hz1]; rfl) hnews hone hr
        (fun j hj => by rw [hz1]; exact hc j (by simpa using hj)) (fun j hj => by rw [hz1]; exact free_of_row h2 _)
      rw [hz1] at this
      simp only [World.setCells] at this
      have d1 : (w.setCell ⟨b, off + xs.length * 2, none⟩ (.int .i64 x.1)).heap[b]? = _ := heap_setCell_same _ _ _ _ _ _ h2
      refine ⟨_, _, this, ⟨.inr ⟨b, off, cap, _, by simp, heap_setCell_same _ _ _ _ _ _ d1, by simpa using hr, by simpa using h4, fun j hj => ?_⟩⟩, ((Kp.refl _ _).setCell (.inl (by simp [blk_some])) _).setCell (.inl (by simp [blk_some])) _, fun y hy => .inl hy⟩
      simp only [List.length_append, List.length_singleton] at hj
      rw [Array.getElem?_setIfInBounds, Array.getElem?_setIfInBounds]
      simp only [Array.size_setIfInBounds]
      rcases (by omega : j < 2 * xs.length ∨ j = 2 * xs.length ∨ j = 2 * xs.length + 1) with e | e | e
      · rw [if_neg (by omega), if_neg (by omega), h5 j e, cellH_old _ _ e]
      · subst e
        rw [if_neg (by omega), if_pos (by omega), if_pos (by omega), (cellH_new xs x).1]
      · subst e
        rw [if_pos (by omega), if_pos (by omega), (cellH_new xs x).2]
    · obtain ⟨v', w', r1, r2, r3⟩ := run_append_arg_grows (P := Try.prog) w 34 ty 44 i0 (.agg #[.int .i64 0, .int .i64 0]) 2 16 Try.underlying34 hi hz0 hz1 hz2 rfl (by decide) ⟨b, off, none⟩ xs.length cap (cellsH xs) (by rw [cellsH_len]; omega)
        (fun j u hu => by
          have hj : j < 2 * xs.length := by
            have := (List.getElem?_eq_some_iff.1 hu).1
            rwa [cellsH_len] at this
          rw [Addr.add_lit, cell_of_row h2, h5 j hj, ← hu, cellsH_get _ hj]) ad 1 1 [.int .i64 x.1, .int .i64 x.2] rfl hnews (by omega) (by unfold maxLen; omega) (by omega)
      have hrw : Rw 44 2 w.heap.size w' v' (xs.length + 1) (cellsH (xs ++ [x])) := ⟨by rw [cellsH_snoc]; exact r2⟩
      refine ⟨v', w', r1, Qh.of_row hrw, ?_, fun y hy => .inr (hrw.block y hy).1⟩
      exact ⟨r3.os, r3.tape, r3.output, r3.size, fun k hk _ => r3.block k hk (by simp)⟩
end
end Go.Proofs.Ytnbaiinhalplcaa
