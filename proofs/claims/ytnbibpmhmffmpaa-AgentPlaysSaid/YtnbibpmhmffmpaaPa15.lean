/- The law's own program: a list of touches, one by one: a read, a write, an update, each in its region, which draws its order. Written by gen/ah_e.py. The law's own program, as a whole. Written by gen/ah_f.py. The law's own program, as a whole: its loop. Written by gen/ah_g.py. The law's own program, from its begin; who steps: Done; Step, Stop and New where there is none to step. Written by gen/ah_h.py. Conditions: as each theorem states them. -/
import Derived.Test.YtnbibpmhmffmpaaPa14
namespace Go.Proofs.Ytnbibpmhmffmpaa
open List renaming getElem_toArray → gtA, getElem_cons_zero → gtZ, getElem_cons_succ → gtS, setIfInBounds_toArray → siA, set_cons_succ → scS, set_cons_zero → scZ, getElem?_toArray → gqA, getElem?_cons_zero → gqZ, getElem?_cons_succ → gqS
set_option linter.unusedVariables false
set_option linter.unusedSimpArgs false
set_option maxRecDepth 100000
open Go.Conc
open Go.ConcN (upd_ne upd_same)

def T48 (x : Nat → Value) : Array Value := #[x 0, x 1, x 2, x 3, x 4, x 5, x 6, x 7, x 8, x 9, x 10, x 11, x 12, x 13, x 14, x 15, x 16, x 17, x 18, x 19, x 20, x 21, x 22, x 23, x 24, x 25, x 26, x 27, x 28, x 29, x 30, x 31, x 32, x 33, x 34, x 35, x 36, x 37, x 38, x 39, x 40, x 41, x 42, x 43, x 44, x 45, x 46, x 47]
def blockOf : Code → Code
  | .block _ c => c
  | c => c
def loopOf : Code → Code
  | .loop c => c
  | c => c
def condE : Code → Code
  | .cond _ _ c => c
  | c => c
def progX (f : Func) : Code := loopOf (blockOf (codeR (bodyOf f)))
def progC (f : Func) : Code := blockOf (codeR (codeR (blockOf (codeL (codeR (loopOf (blockOf (codeR (bodyOf f)))))))))
def progD (f : Func) : Code := condE (codeR (progC f))
def progR (f : Func) : Code := condT (codeR (progC f))
def progW (f : Func) : Code := condT (codeR (progD f))
def progU (f : Func) : Code := condE (codeR (progD f))

/-- How all stands within a region. -/
structure PC (G : Type) where
  home : Goroutine → Prop
  n : Nat
  pl : Nat → Option Place
  F : Nat → Option (Nat × Nat)
  col : Nat → Col
  w : World
  g : G
  v : Int

section
variable {G : Type} {Post : Value → World → Prop} {Sh : World → G → Prop} {SB : Nat → Prop} {pA rA : Nat} {a : Ag} {mv : Value} {home : Goroutine → Prop} {n : Nat} {T : Tree G} {runs ov : Bool}
variable {pl pl' : Nat → Option Place} {F F' : Nat → Option (Nat × Nat)} {col col' : Nat → Col} {w w' : World} {g : G}

theorem Acts.free_shared (h : Acts SB pA rA a mv home runs ov pl F col w) {q : Addr} {x : Value} (hq : SB q.block) (hc : w.cell? q = some x) : Free pl q := by
  have hF : F q.block = none := h.lay.free _ (by rw [h.lay.sb _ hq]; rfl)
  refine ⟨fun i s v hi hs => ?_, fun i s c hi hs e => ?_⟩
  · obtain ⟨lo, hi', z, _, _⟩ := h.lies.still i s _ v hi hs
    rw [hF] at z; cases z
  · obtain ⟨_, _, _, _, _, _, hh⟩ := h.lies.chans i s c hi hs
    rw [e] at hh
    unfold World.cell? at hc
    rw [hh] at hc; cases hc

set_option maxHeartbeats 2000000 in
/-- A READ of the program. -/
theorem prog_read (hSh : ∀ g, Priv SB (fun w => Sh w g)) (hmv : mv = memV pA) {b : Frame} (hb : b.kind = .normal) {k : List Item} {cs : List Frame} {x : Nat → Value} {bp bq oq bx : Nat} {at' : Int} {setL : Int → G → G} {nx : Int → Tree G} {hl : G → G} {own : Nat → Prop} {A : World → Prop}
    (hx0 : x 0 = .iface 136 (.pointer (some ⟨a.m, 0, none⟩))) (hx2 : x 2 = .pointer (some ⟨bp, 0, none⟩)) (hx5 : x 5 = .pointer (some ⟨bx, 0, none⟩))
    (hP : Priv own A) (hrd : ∀ w g, A w → Sh w g → w.cell? ⟨bp, 0, none⟩ = some (.pointer (some ⟨bq, oq, none⟩)) ∧ w.cell? ⟨bx, 1, none⟩ = some (.int .i64 at') )
    (hq : ∀ w g, A w → Sh w g → ∃ u, w.cell? ⟨bq, oq, none⟩ = some (.int .u64 u) ∧ w.frozen? ⟨bq, oq, none⟩ = false) (hwr : ∀ w g v, A w → Sh w g → A (w.setCell ⟨bq, oq, none⟩ (.int .u64 v)) ∧ Sh (w.setCell ⟨bq, oq, none⟩ (.int .u64 v)) (setL v g)) (hsq : SB bq)
    (hstop : ∀ home n pl F col w g ac k, ac.defers = [] → Ends SB pA rA a mv home pl F col w → (∀ b, own b → col b = .ag a.j) → A w → Sh w g → Kont Post Sh SB pA rA a mv home n .ret pl F col w (hl g) → Win Try.prog Post pl n a.j (gor ((b.at ac k).raise [haltE]) cs) w)
    (cont : ∀ y v home n pl F col w g, y 0 = x 0 → y 1 = x 1 → y 2 = x 2 → y 4 = x 4 → Acts SB pA rA a mv home true false pl F col w → (∀ b, own b → col b = .ag a.j) → A w → Sh w (setL v g) → Kont Post Sh SB pA rA a mv home n (nx v) pl F col w (setL v g) → Win Try.prog Post pl n a.j (gor (b.at ⟨T48 y, []⟩ (.inRegion (regOps (progR Try.f47)) [] :: k)) cs) w)
    (hA : Acts SB pA rA a mv home true false pl F col w) (hown : ∀ b, own b → col b = .ag a.j) (hAw : A w) (hs : Sh w g) (K : Kont Post Sh SB pA rA a mv home n (.node at' (fun z => z) (fun v g => setL v g) (fun v _ => nx v) hl) pl F col w g) :
    Win Try.prog Post pl n a.j (gor (b.at ⟨T48 x, []⟩ (.code (progR Try.f47) :: k)) cs) w := by
  simp only [bodyOf, Try.f47, codeL, codeR, regOps, blockOf, loopOf, condT, condE, progR, progW, progU, progC, progD, Option.getD_some]
  refine Win.anyFill (C := PC G) (Goal := fun c fr => Win Try.prog Post c.pl c.n a.j (gor fr cs) c.w) mixed (by kernel_rfl) (fun c i => match i with | 0 => .pointer (some ⟨bq, oq, none⟩) | 1 => x 0 | 2 => .pointer (some ⟨bx, 1, none⟩) | 3 => .int .i64 at' | 4 => .int .u64 c.v | 5 => .pointer (some ⟨bq, oq, none⟩) | _ => undef) (fun c => (⟨#[x 0, x 1, x 2, x 3, x 4, x 5, x 6, x 7, x 8, x 9, x 10, x 11, x 12, x 13, x 14, x 15, x 16, x 17, x 18, x 19, x 20, x 21, x 22, x 23, x 24, x 25, x 26, .pointer (some ⟨bq, oq, none⟩), x 0, .pointer (some ⟨bx, 1, none⟩), .int .i64 at', .int .u64 c.v, .pointer (some ⟨bq, oq, none⟩), x 33, x 34, x 35, x 36, x 37, x 38, x 39, x 40, x 41, x 42, x 43, x 44, x 45, x 46, x 47], []⟩ : Act)) (fun c => by simp only [T48, fillAll, List.size_toArray, List.length_cons, List.length_nil, Nat.reduceAdd, List.range, List.range.loop, List.foldl_cons, List.foldl_nil, gqA, gqZ, gqS, Option.bind_some, Option.bind_none, Act.put, siA, scS, scZ]) (fun X c => Acts SB pA rA a mv c.home true false c.pl c.F c.col c.w ∧ (∀ b, own b → c.col b = .ag a.j) ∧ A c.w ∧ (X.getD 4 false = false → X.getD 6 false = false → Sh c.w c.g ∧ Kont Post Sh SB pA rA a mv c.home c.n (.node at' (fun z => z) (fun v g => setL v g) (fun v _ => nx v) hl) c.pl c.F c.col c.w c.g) ∧ (X.getD 4 false = true → X.getD 6 false = false → Sh c.w c.g ∧ Kont Post Sh SB pA rA a mv c.home c.n (nx c.v) c.pl c.F c.col c.w (setL c.v c.g)) ∧ (X.getD 6 false = true → Sh c.w (setL c.v c.g) ∧ Kont Post Sh SB pA rA a mv c.home c.n (nx c.v) c.pl c.F c.col c.w (setL c.v c.g))) ⟨home, n, pl, F, col, w, g, 0⟩ (fun fr hh => hh) ?_ ?_ ⟨hA, hown, hAw, fun _ _ => ⟨hs, K⟩, fun z => by simp at z, fun z => by simp at z⟩
  · intro X i o hX ho hx hr c a' L' hJ hcl hL'' hfl e1 e2 hd hn
    have hsome : ∃ g', Sh c.w g' ∧ True := by
      cases h4 : X.getD 4 false
      · cases h6 : X.getD 6 false
        · exact ⟨_, (hJ.2.2.2.1 h4 h6).1, trivial⟩
        · exact ⟨_, (hJ.2.2.2.2.2 h6).1, trivial⟩
      · cases h6 : X.getD 6 false
        · exact ⟨_, (hJ.2.2.2.2.1 h4 h6).1, trivial⟩
        · exact ⟨_, (hJ.2.2.2.2.2 h6).1, trivial⟩
    obtain ⟨g', hg', hgg⟩ := hsome
    obtain ⟨r1, r2⟩ := hrd _ _ hJ.2.2.1 hg'
    rcases i with _ | _ | _ | _ | _ | _ | _ | i
    · obtain rfl := Option.some.inj ho
      refine Win.op (v := .pointer (some ⟨bq, oq, none⟩)) (.inl hb) rfl rfl (fun d => ⟨#[⟨.cell ⟨bp, 0, none⟩, false, false⟩], by rw [e1, Sem.runT_eq]; have hc : (World.at c.w d).cell? ⟨bp, 0, none⟩ = _ := r1; generalize World.at c.w d = W at hc ⊢; simp [go_sem, execOp, Act.eval, hc, hx2, hx5], fun e he => by obtain rfl : e = ⟨.cell ⟨bp, 0, none⟩, false, false⟩ := (by simpa using he); exact ⟨rfl, fun m => by simp⟩⟩) (hn c (fun _ _ => rfl) ⟨hJ.1, hJ.2.1, hJ.2.2.1, fun z z' => hJ.2.2.2.1 (by rw [getD_set_ne false (by decide)] at z; exact z) (by rw [getD_set_ne false (by decide)] at z'; exact z'), fun z z' => hJ.2.2.2.2.1 (by rw [getD_set_ne false (by decide)] at z; exact z) (by rw [getD_set_ne false (by decide)] at z'; exact z'), fun z => hJ.2.2.2.2.2 (by rw [getD_set_ne false (by decide)] at z; exact z)⟩)
    · obtain rfl := Option.some.inj ho
      refine Win.op (v := x 0) (.inl hb) rfl rfl (fun d => ⟨#[], by rw [e1, Sem.runT_eq]; simp [go_sem, execOp, Act.eval]; try (first | rfl | exact ⟨rfl, rfl⟩ | kernel_rfl), fun e he => by simp at he⟩) (hn c (fun _ _ => rfl) ⟨hJ.1, hJ.2.1, hJ.2.2.1, fun z z' => hJ.2.2.2.1 (by rw [getD_set_ne false (by decide)] at z; exact z) (by rw [getD_set_ne false (by decide)] at z'; exact z'), fun z z' => hJ.2.2.2.2.1 (by rw [getD_set_ne false (by decide)] at z; exact z) (by rw [getD_set_ne false (by decide)] at z'; exact z'), fun z => hJ.2.2.2.2.2 (by rw [getD_set_ne false (by decide)] at z; exact z)⟩)
    · obtain rfl := Option.some.inj ho
      refine Win.op (v := .pointer (some ⟨bx, 1, none⟩)) (.inl hb) rfl rfl (fun d => ⟨#[], by rw [e1, Sem.runT_eq]; simp [go_sem, execOp, Act.eval, hx5]; try (first | rfl | exact ⟨rfl, rfl⟩ | kernel_rfl), fun e he => by simp at he⟩) (hn c (fun _ _ => rfl) ⟨hJ.1, hJ.2.1, hJ.2.2.1, fun z z' => hJ.2.2.2.1 (by rw [getD_set_ne false (by decide)] at z; exact z) (by rw [getD_set_ne false (by decide)] at z'; exact z'), fun z z' => hJ.2.2.2.2.1 (by rw [getD_set_ne false (by decide)] at z; exact z) (by rw [getD_set_ne false (by decide)] at z'; exact z'), fun z => hJ.2.2.2.2.2 (by rw [getD_set_ne false (by decide)] at z; exact z)⟩)
    · obtain rfl := Option.some.inj ho
      refine Win.op (v := .int .i64 at') (.inl hb) rfl rfl (fun d => ⟨#[⟨.cell ⟨bx, 1, none⟩, false, false⟩], by rw [e1, Sem.runT_eq]; have hc : (World.at c.w d).cell? ⟨bx, 1, none⟩ = _ := r2; generalize World.at c.w d = W at hc ⊢; simp [go_sem, execOp, Act.eval, hc, hx2, hx5], fun e he => by obtain rfl : e = ⟨.cell ⟨bx, 1, none⟩, false, false⟩ := (by simpa using he); exact ⟨rfl, fun m => by simp⟩⟩) (hn c (fun _ _ => rfl) ⟨hJ.1, hJ.2.1, hJ.2.2.1, fun z z' => hJ.2.2.2.1 (by rw [getD_set_ne false (by decide)] at z; exact z) (by rw [getD_set_ne false (by decide)] at z'; exact z'), fun z z' => hJ.2.2.2.2.1 (by rw [getD_set_ne false (by decide)] at z; exact z) (by rw [getD_set_ne false (by decide)] at z'; exact z'), fun z => hJ.2.2.2.2.2 (by rw [getD_set_ne false (by decide)] at z; exact z)⟩)
    · obtain rfl := Option.some.inj ho
      have hx' : X.getD 4 false = false := by
        have hlt : 4 < X.size := by rw [hX]; decide
        simpa [hlt] using hx
      have h6 : X.getD 6 false = false := by
        cases h : X.getD 6 false with
        | false => rfl
        | true => have := hcl 6 _ rfl h { on := 4, ground := Ground.data } (by simp) rfl; rw [hx'] at this; cases this
      obtain ⟨hsc, hK⟩ := hJ.2.2.2.1 hx' h6
      refine Win.enter (f := 120) (args := #[.pointer (some ⟨a.m, 0, none⟩), .int .i64 at']) (.inl hb) rfl rfl (fun d => ⟨#[], by rw [e1]; simp only [hx0]; kernel_rfl, fun e he => by simp at he⟩) ?_
      refine bread hSh hmv hJ.1 hJ.2.1 hP hJ.2.2.1 hsc ?_ ?_ hK
      · intro v home' n' pl' F' col' w' g2 hA2 ho2 hA2' hs2 K2
        rw [Frame.finish_at]
        refine hn ⟨home', n', pl', F', col', w', g2, v⟩ (fun j hj => ?_) ⟨hA2, ho2, hA2', fun z => (by rw [getD_set_self (by rw [hX]; decide)] at z; cases z), fun _ _ => ⟨hs2, K2⟩, fun z => by rw [getD_set_ne false (by decide), h6] at z; cases z⟩
        rcases j with _ | _ | _ | _ | _ | _ | j
        · rfl
        · rfl
        · rfl
        · rfl
        · rw [hx'] at hj; cases hj
        · rfl
        · rfl
      · intro home' n' pl' F' col' w' g2 hE ho2 hA2' hs2 K2
        exact hstop home' n' pl' F' col' w' g2 _ _ hd hE ho2 hA2' hs2 K2
    · obtain rfl := Option.some.inj ho
      refine Win.op (v := .pointer (some ⟨bq, oq, none⟩)) (.inl hb) rfl rfl (fun d => ⟨#[], by rw [e1, Sem.runT_eq]; simp [go_sem, execOp, Act.eval]; try (first | rfl | exact ⟨rfl, rfl⟩ | kernel_rfl), fun e he => by simp at he⟩) (hn c (fun _ _ => rfl) ⟨hJ.1, hJ.2.1, hJ.2.2.1, fun z z' => hJ.2.2.2.1 (by rw [getD_set_ne false (by decide)] at z; exact z) (by rw [getD_set_ne false (by decide)] at z'; exact z'), fun z z' => hJ.2.2.2.2.1 (by rw [getD_set_ne false (by decide)] at z; exact z) (by rw [getD_set_ne false (by decide)] at z'; exact z'), fun z => hJ.2.2.2.2.2 (by rw [getD_set_ne false (by decide)] at z; exact z)⟩)
    · obtain rfl := Option.some.inj ho
      have hx' : X.getD 6 false = false := by
        have hlt : 6 < X.size := by rw [hX]; decide
        simpa [hlt] using hx
      have g4 := hr { on := 4, ground := Ground.data } (by simp) rfl
      obtain ⟨hsc, hK⟩ := hJ.2.2.2.2.1 g4 hx'
      obtain ⟨u, hu, hf⟩ := hq _ _ hJ.2.2.1 hsc
      obtain ⟨hA3, hM3⟩ := hJ.1.turn (ks_setCell c.w ⟨bq, oq, none⟩ (.int .u64 c.v)) (hJ.1.lies.setCell _ _) (fun b hb' => .inr (by
        have e : b = bq := hb'
        rw [e]; exact hJ.1.lay.sb _ hsq))
      refine Win.storeOp (ad := ⟨bq, oq, none⟩) (x := .int .u64 c.v) (.inl hb) rfl rfl (hJ.1.free_shared hsq hu) (fun d => ?_) ?_
      · rw [e1, Sem.runT_eq]
        have c1 : (c.w.at d).cell? ⟨bq, oq, none⟩ = some (.int .u64 u) := hu
        have c2 : (c.w.at d).frozen? ⟨bq, oq, none⟩ = false := hf
        generalize c.w.at d = W at c1 c2 ⊢
        obtain ⟨s1, s2⟩ := store_ok (P := Try.prog) (x := .int .u64 c.v) (w := W) (m := .plain) (by simp) (by simp) c1 c2
        simp [go_sem, execOp, Act.eval, s1, s2, c1, c2]
      · obtain ⟨w1, w2⟩ := hwr _ _ c.v hJ.2.2.1 hsc
        refine hn ⟨c.home, c.n, c.pl, c.F, grown a.j c.col c.w (c.w.setCell ⟨bq, oq, none⟩ (.int .u64 c.v)), c.w.setCell ⟨bq, oq, none⟩ (.int .u64 c.v), c.g, c.v⟩ (fun j hj => rfl) ⟨hA3, fun b hb' => grown_ag hJ.1.lay (hJ.2.1 b hb'), w1, fun _ z => (by rw [getD_set_self (by rw [hX]; decide)] at z; cases z), fun _ z => (by rw [getD_set_self (by rw [hX]; decide)] at z; cases z), fun _ => ⟨w2, Kont.moves hM3 hK⟩⟩
    · simp at ho
  · intro X c hall hJ
    obtain ⟨z1, z2⟩ := hJ.2.2.2.2.2 (hall 6 (by simp))
    exact cont (fun i => match i with | 27 => .pointer (some ⟨bq, oq, none⟩) | 28 => x 0 | 29 => .pointer (some ⟨bx, 1, none⟩) | 30 => .int .i64 at' | 31 => .int .u64 c.v | 32 => .pointer (some ⟨bq, oq, none⟩) | i => x i) c.v c.home c.n c.pl c.F c.col c.w c.g rfl rfl rfl rfl hJ.1 hJ.2.1 hJ.2.2.1 z1 z2
set_option maxHeartbeats 2000000 in
/-- A WRITE of the program. -/
theorem prog_write (hSh : ∀ g, Priv SB (fun w => Sh w g)) (hmv : mv = memV pA) {b : Frame} (hb : b.kind = .normal) {k : List Item} {cs : List Frame} {x : Nat → Value} {bp bq oq bx : Nat} {at' : Int} {u v' : Int} {T' : G → Tree G} {hl : G → G} {own : Nat → Prop} {A : World → Prop}
    (hx0 : x 0 = .iface 136 (.pointer (some ⟨a.m, 0, none⟩))) (hx2 : x 2 = .pointer (some ⟨bp, 0, none⟩)) (hx5 : x 5 = .pointer (some ⟨bx, 0, none⟩))
    (hP : Priv own A) (hrd : ∀ w g, A w → Sh w g → w.cell? ⟨bp, 0, none⟩ = some (.pointer (some ⟨bq, oq, none⟩)) ∧ w.cell? ⟨bx, 1, none⟩ = some (.int .i64 at') ∧ w.cell? ⟨bx, 2, none⟩ = some (.int .u64 v'))
    (hlst : ∀ w, A w → Sh w g → w.cell? ⟨bq, oq, none⟩ = some (.int .u64 u))
    (hstop : ∀ home n pl F col w g ac k, ac.defers = [] → Ends SB pA rA a mv home pl F col w → (∀ b, own b → col b = .ag a.j) → A w → Sh w g → Kont Post Sh SB pA rA a mv home n .ret pl F col w (hl g) → Win Try.prog Post pl n a.j (gor ((b.at ac k).raise [haltE]) cs) w)
    (cont : ∀ y home n pl F col w g, y 0 = x 0 → y 1 = x 1 → y 2 = x 2 → y 4 = x 4 → Acts SB pA rA a mv home true false pl F col w → (∀ b, own b → col b = .ag a.j) → A w → Sh w g → Kont Post Sh SB pA rA a mv home n (T' g) pl F col w g → Win Try.prog Post pl n a.j (gor (b.at ⟨T48 y, []⟩ (.inRegion (regOps (progW Try.f47)) [] :: k)) cs) w)
    (hA : Acts SB pA rA a mv home true false pl F col w) (hown : ∀ b, own b → col b = .ag a.j) (hAw : A w) (hs : Sh w g) (K : Kont Post Sh SB pA rA a mv home n (.node at' (fun _ => IntKind.wrap .u64 (u + v')) (fun _ g => g) (fun _ g => T' g) hl) pl F col w g) :
    Win Try.prog Post pl n a.j (gor (b.at ⟨T48 x, []⟩ (.code (progW Try.f47) :: k)) cs) w := by
  simp only [bodyOf, Try.f47, codeL, codeR, regOps, blockOf, loopOf, condT, condE, progR, progW, progU, progC, progD, Option.getD_some]
  refine Win.anyFill (C := PC G) (Goal := fun c fr => Win Try.prog Post c.pl c.n a.j (gor fr cs) c.w) mixed (by kernel_rfl) (fun c i => match i with | 0 => x 0 | 1 => .pointer (some ⟨bx, 1, none⟩) | 2 => .int .i64 at' | 3 => .pointer (some ⟨bq, oq, none⟩) | 4 => .pointer (some ⟨bq, oq, none⟩) | 5 => .int .u64 u | 6 => .pointer (some ⟨bx, 2, none⟩) | 7 => .int .u64 v' | 8 => .int .u64 (IntKind.wrap .u64 (u + v')) | 9 => .func (.method "Write") #[x 0] #[] | 10 => .func (.method "Write") #[x 0] #[] | 11 => x 0 | 12 => .tuple #[] | _ => undef) (fun c => (⟨#[x 0, x 1, x 2, x 3, x 4, x 5, x 6, x 7, x 8, x 9, x 10, x 11, x 12, x 13, x 14, x 15, x 16, x 17, x 18, x 19, x 20, x 21, x 22, x 23, x 24, x 25, x 26, x 27, x 28, x 29, x 30, x 31, x 32, x 33, x 34, x 0, .pointer (some ⟨bx, 1, none⟩), .int .i64 at', .pointer (some ⟨bq, oq, none⟩), .pointer (some ⟨bq, oq, none⟩), .int .u64 u, .pointer (some ⟨bx, 2, none⟩), .int .u64 v', .int .u64 (IntKind.wrap .u64 (u + v')), .func (.method "Write") #[x 0] #[], .func (.method "Write") #[x 0] #[], x 0, .tuple #[]], []⟩ : Act)) (fun c => by simp only [T48, fillAll, List.size_toArray, List.length_cons, List.length_nil, Nat.reduceAdd, List.range, List.range.loop, List.foldl_cons, List.foldl_nil, gqA, gqZ, gqS, Option.bind_some, Option.bind_none, Act.put, siA, scS, scZ]) (fun X c => Acts SB pA rA a mv c.home true false c.pl c.F c.col c.w ∧ (∀ b, own b → c.col b = .ag a.j) ∧ A c.w ∧ (X.getD 12 false = false → c.g = g ∧ Sh c.w c.g ∧ Kont Post Sh SB pA rA a mv c.home c.n (.node at' (fun _ => IntKind.wrap .u64 (u + v')) (fun _ g => g) (fun _ g => T' g) hl) c.pl c.F c.col c.w c.g) ∧ (X.getD 12 false = true → Sh c.w c.g ∧ Kont Post Sh SB pA rA a mv c.home c.n (T' c.g) c.pl c.F c.col c.w c.g)) ⟨home, n, pl, F, col, w, g, 0⟩ (fun fr hh => hh) ?_ ?_ ⟨hA, hown, hAw, fun _ => ⟨rfl, hs, K⟩, fun z => by simp at z⟩
  · intro X i o hX ho hx hr c a' L' hJ hcl hL'' hfl e1 e2 hd hn
    have hsome : ∃ g', Sh c.w g' ∧ (X.getD 12 false = false → g' = c.g) := by
      cases h4 : X.getD 12 false
      · exact ⟨_, (hJ.2.2.2.1 h4).2.1, fun _ => rfl⟩
      · exact ⟨_, (hJ.2.2.2.2 h4).1, fun z => by cases z⟩
    obtain ⟨g', hg', hgg⟩ := hsome
    obtain ⟨r1, r2, r3⟩ := hrd _ _ hJ.2.2.1 hg'
    rcases i with _ | _ | _ | _ | _ | _ | _ | _ | _ | _ | _ | _ | _ | i
    · obtain rfl := Option.some.inj ho
      refine Win.op (v := x 0) (.inl hb) rfl rfl (fun d => ⟨#[], by rw [e1, Sem.runT_eq]; simp [go_sem, execOp, Act.eval]; try (first | rfl | exact ⟨rfl, rfl⟩ | kernel_rfl), fun e he => by simp at he⟩) (hn c (fun _ _ => rfl) ⟨hJ.1, hJ.2.1, hJ.2.2.1, fun z => hJ.2.2.2.1 (by rw [getD_set_ne false (by decide)] at z; exact z), fun z => hJ.2.2.2.2 (by rw [getD_set_ne false (by decide)] at z; exact z)⟩)
    · obtain rfl := Option.some.inj ho
      refine Win.op (v := .pointer (some ⟨bx, 1, none⟩)) (.inl hb) rfl rfl (fun d => ⟨#[], by rw [e1, Sem.runT_eq]; simp [go_sem, execOp, Act.eval, hx5]; try (first | rfl | exact ⟨rfl, rfl⟩ | kernel_rfl), fun e he => by simp at he⟩) (hn c (fun _ _ => rfl) ⟨hJ.1, hJ.2.1, hJ.2.2.1, fun z => hJ.2.2.2.1 (by rw [getD_set_ne false (by decide)] at z; exact z), fun z => hJ.2.2.2.2 (by rw [getD_set_ne false (by decide)] at z; exact z)⟩)
    · obtain rfl := Option.some.inj ho
      refine Win.op (v := .int .i64 at') (.inl hb) rfl rfl (fun d => ⟨#[⟨.cell ⟨bx, 1, none⟩, false, false⟩], by rw [e1, Sem.runT_eq]; have hc : (World.at c.w d).cell? ⟨bx, 1, none⟩ = _ := r2; generalize World.at c.w d = W at hc ⊢; simp [go_sem, execOp, Act.eval, hc, hx2, hx5], fun e he => by obtain rfl : e = ⟨.cell ⟨bx, 1, none⟩, false, false⟩ := (by simpa using he); exact ⟨rfl, fun m => by simp⟩⟩) (hn c (fun _ _ => rfl) ⟨hJ.1, hJ.2.1, hJ.2.2.1, fun z => hJ.2.2.2.1 (by rw [getD_set_ne false (by decide)] at z; exact z), fun z => hJ.2.2.2.2 (by rw [getD_set_ne false (by decide)] at z; exact z)⟩)
    · obtain rfl := Option.some.inj ho
      refine Win.op (v := .pointer (some ⟨bq, oq, none⟩)) (.inl hb) rfl rfl (fun d => ⟨#[⟨.cell ⟨bp, 0, none⟩, false, false⟩], by rw [e1, Sem.runT_eq]; have hc : (World.at c.w d).cell? ⟨bp, 0, none⟩ = _ := r1; generalize World.at c.w d = W at hc ⊢; simp [go_sem, execOp, Act.eval, hc, hx2, hx5], fun e he => by obtain rfl : e = ⟨.cell ⟨bp, 0, none⟩, false, false⟩ := (by simpa using he); exact ⟨rfl, fun m => by simp⟩⟩) (hn c (fun _ _ => rfl) ⟨hJ.1, hJ.2.1, hJ.2.2.1, fun z => hJ.2.2.2.1 (by rw [getD_set_ne false (by decide)] at z; exact z), fun z => hJ.2.2.2.2 (by rw [getD_set_ne false (by decide)] at z; exact z)⟩)
    · obtain rfl := Option.some.inj ho
      refine Win.op (v := .pointer (some ⟨bq, oq, none⟩)) (.inl hb) rfl rfl (fun d => ⟨#[], by rw [e1, Sem.runT_eq]; simp [go_sem, execOp, Act.eval]; try (first | rfl | exact ⟨rfl, rfl⟩ | kernel_rfl), fun e he => by simp at he⟩) (hn c (fun _ _ => rfl) ⟨hJ.1, hJ.2.1, hJ.2.2.1, fun z => hJ.2.2.2.1 (by rw [getD_set_ne false (by decide)] at z; exact z), fun z => hJ.2.2.2.2 (by rw [getD_set_ne false (by decide)] at z; exact z)⟩)
    · have h12 : X.getD 12 false = false := by
        cases h : X.getD 12 false with
        | false => rfl
        | true =>
          have h8 := hcl 12 _ rfl h { on := 8, ground := Ground.data } (by simp) rfl
          have h5 := hcl 8 _ rfl h8 { on := 5, ground := Ground.data } (by simp) rfl
          have hx' : X.getD 5 false = false := by
            have hlt : 5 < X.size := by rw [hX]; decide
            simpa [hlt] using hx
          rw [hx'] at h5; cases h5
      have r4 : c.w.cell? ⟨bq, oq, none⟩ = some (.int .u64 u) := hlst _ hJ.2.2.1 (by have z := hJ.2.2.2.1 h12; rw [← z.1]; exact z.2.1)
      obtain rfl := Option.some.inj ho
      refine Win.op (v := .int .u64 u) (.inl hb) rfl rfl (fun d => ⟨#[⟨.cell ⟨bq, oq, none⟩, false, false⟩], by rw [e1, Sem.runT_eq]; have hc : (World.at c.w d).cell? ⟨bq, oq, none⟩ = _ := r4; generalize World.at c.w d = W at hc ⊢; simp [go_sem, execOp, Act.eval, hc, hx2, hx5], fun e he => by obtain rfl : e = ⟨.cell ⟨bq, oq, none⟩, false, false⟩ := (by simpa using he); exact ⟨rfl, fun m => by simp⟩⟩) (hn c (fun _ _ => rfl) ⟨hJ.1, hJ.2.1, hJ.2.2.1, fun z => hJ.2.2.2.1 (by rw [getD_set_ne false (by decide)] at z; exact z), fun z => hJ.2.2.2.2 (by rw [getD_set_ne false (by decide)] at z; exact z)⟩)
    · obtain rfl := Option.some.inj ho
      refine Win.op (v := .pointer (some ⟨bx, 2, none⟩)) (.inl hb) rfl rfl (fun d => ⟨#[], by rw [e1, Sem.runT_eq]; simp [go_sem, execOp, Act.eval, hx5]; try (first | rfl | exact ⟨rfl, rfl⟩ | kernel_rfl), fun e he => by simp at he⟩) (hn c (fun _ _ => rfl) ⟨hJ.1, hJ.2.1, hJ.2.2.1, fun z => hJ.2.2.2.1 (by rw [getD_set_ne false (by decide)] at z; exact z), fun z => hJ.2.2.2.2 (by rw [getD_set_ne false (by decide)] at z; exact z)⟩)
    · obtain rfl := Option.some.inj ho
      refine Win.op (v := .int .u64 v') (.inl hb) rfl rfl (fun d => ⟨#[⟨.cell ⟨bx, 2, none⟩, false, false⟩], by rw [e1, Sem.runT_eq]; have hc : (World.at c.w d).cell? ⟨bx, 2, none⟩ = _ := r3; generalize World.at c.w d = W at hc ⊢; simp [go_sem, execOp, Act.eval, hc, hx2, hx5], fun e he => by obtain rfl : e = ⟨.cell ⟨bx, 2, none⟩, false, false⟩ := (by simpa using he); exact ⟨rfl, fun m => by simp⟩⟩) (hn c (fun _ _ => rfl) ⟨hJ.1, hJ.2.1, hJ.2.2.1, fun z => hJ.2.2.2.1 (by rw [getD_set_ne false (by decide)] at z; exact z), fun z => hJ.2.2.2.2 (by rw [getD_set_ne false (by decide)] at z; exact z)⟩)
    · obtain rfl := Option.some.inj ho
      refine Win.op (v := .int .u64 (IntKind.wrap .u64 (u + v'))) (.inl hb) rfl rfl (fun d => ⟨#[], by rw [e1, Sem.runT_eq]; simp [go_sem, execOp, Act.eval]; try (first | rfl | exact ⟨rfl, rfl⟩ | kernel_rfl), fun e he => by simp at he⟩) (hn c (fun _ _ => rfl) ⟨hJ.1, hJ.2.1, hJ.2.2.1, fun z => hJ.2.2.2.1 (by rw [getD_set_ne false (by decide)] at z; exact z), fun z => hJ.2.2.2.2 (by rw [getD_set_ne false (by decide)] at z; exact z)⟩)
    · obtain rfl := Option.some.inj ho
      refine Win.op (v := .func (.method "Write") #[x 0] #[]) (.inl hb) rfl rfl (fun d => ⟨#[], by rw [e1, Sem.runT_eq]; simp [go_sem, execOp, Act.eval, hx0]; try (first | rfl | exact ⟨rfl, rfl⟩ | kernel_rfl), fun e he => by simp at he⟩) (hn c (fun _ _ => rfl) ⟨hJ.1, hJ.2.1, hJ.2.2.1, fun z => hJ.2.2.2.1 (by rw [getD_set_ne false (by decide)] at z; exact z), fun z => hJ.2.2.2.2 (by rw [getD_set_ne false (by decide)] at z; exact z)⟩)
    · obtain rfl := Option.some.inj ho
      refine Win.op (v := .func (.method "Write") #[x 0] #[]) (.inl hb) rfl rfl (fun d => ⟨#[], by rw [e1]; simp only [hx0]; kernel_rfl, fun e he => by simp at he⟩) (hn c (fun _ _ => rfl) ⟨hJ.1, hJ.2.1, hJ.2.2.1, fun z => hJ.2.2.2.1 (by rw [getD_set_ne false (by decide)] at z; exact z), fun z => hJ.2.2.2.2 (by rw [getD_set_ne false (by decide)] at z; exact z)⟩)
    · obtain rfl := Option.some.inj ho
      refine Win.op (v := x 0) (.inl hb) rfl rfl (fun d => ⟨#[], by rw [e1, Sem.runT_eq]; simp [go_sem, execOp, Act.eval]; try (first | rfl | exact ⟨rfl, rfl⟩ | kernel_rfl), fun e he => by simp at he⟩) (hn c (fun _ _ => rfl) ⟨hJ.1, hJ.2.1, hJ.2.2.1, fun z => hJ.2.2.2.1 (by rw [getD_set_ne false (by decide)] at z; exact z), fun z => hJ.2.2.2.2 (by rw [getD_set_ne false (by decide)] at z; exact z)⟩)
    · obtain rfl := Option.some.inj ho
      have hx' : X.getD 12 false = false := by
        have hlt : 12 < X.size := by rw [hX]; decide
        simpa [hlt] using hx
      obtain ⟨hgc, hsc, hK⟩ := hJ.2.2.2.1 hx'
      refine Win.enter (f := 122) (args := #[.pointer (some ⟨a.m, 0, none⟩), .int .i64 at', .int .u64 (IntKind.wrap .u64 (u + v'))]) (.inl hb) rfl rfl (fun d => ⟨#[], by rw [e1]; simp only [hx0]; kernel_rfl, fun e he => by simp at he⟩) ?_
      refine bwrite hSh hmv hJ.1 hJ.2.1 hP hJ.2.2.1 hsc ?_ ?_ hK
      · intro v home' n' pl' F' col' w' g2 hA2 ho2 hA2' hs2 K2
        rw [Frame.finish_at]
        exact hn ⟨home', n', pl', F', col', w', g2, c.v⟩ (fun j hj => rfl) ⟨hA2, ho2, hA2', fun z => (by rw [getD_set_self (by rw [hX]; decide)] at z; cases z), fun _ => ⟨hs2, K2⟩⟩
      · intro home' n' pl' F' col' w' g2 hE ho2 hA2' hs2 K2
        exact hstop home' n' pl' F' col' w' g2 _ _ hd hE ho2 hA2' hs2 K2
    · simp at ho
  · intro X c hall hJ
    obtain ⟨z1, z2⟩ := hJ.2.2.2.2 (hall 12 (by simp))
    exact cont (fun i => match i with | 35 => x 0 | 36 => .pointer (some ⟨bx, 1, none⟩) | 37 => .int .i64 at' | 38 => .pointer (some ⟨bq, oq, none⟩) | 39 => .pointer (some ⟨bq, oq, none⟩) | 40 => .int .u64 u | 41 => .pointer (some ⟨bx, 2, none⟩) | 42 => .int .u64 v' | 43 => .int .u64 (IntKind.wrap .u64 (u + v')) | 44 => .func (.method "Write") #[x 0] #[] | 45 => .func (.method "Write") #[x 0] #[] | 46 => x 0 | 47 => .tuple #[] | i => x i) c.home c.n c.pl c.F c.col c.w c.g rfl rfl rfl rfl hJ.1 hJ.2.1 hJ.2.2.1 z1 z2
set_option maxHeartbeats 2000000 in
/-- AN UPDATE of the program. -/
theorem prog_update (hSh : ∀ g, Priv SB (fun w => Sh w g)) (hmv : mv = memV pA) {b : Frame} (hb : b.kind = .normal) {k : List Item} {cs : List Frame} {x : Nat → Value} {bp bq oq bx : Nat} {at' : Int} {setL : Int → G → G} {nx : Int → Tree G} {φ : Int → Int} {hl : G → G} {own : Nat → Prop} {A : World → Prop}
    (hx0 : x 0 = .iface 136 (.pointer (some ⟨a.m, 0, none⟩))) (hx2 : x 2 = .pointer (some ⟨bp, 0, none⟩)) (hx5 : x 5 = .pointer (some ⟨bx, 0, none⟩))
    (hP : Priv own A) (hrd : ∀ w g, A w → Sh w g → w.cell? ⟨bp, 0, none⟩ = some (.pointer (some ⟨bq, oq, none⟩)) ∧ w.cell? ⟨bx, 1, none⟩ = some (.int .i64 at') )
    (hq : ∀ w g, A w → Sh w g → ∃ u, w.cell? ⟨bq, oq, none⟩ = some (.int .u64 u) ∧ w.frozen? ⟨bq, oq, none⟩ = false) (hwr : ∀ w g v, A w → Sh w g → A (w.setCell ⟨bq, oq, none⟩ (.int .u64 v)) ∧ Sh (w.setCell ⟨bq, oq, none⟩ (.int .u64 v)) (setL v g)) (hsq : SB bq)
    (hupd : ∀ w' x, A w' → 0 ≤ x → x < 18446744073709551616 → Calls Try.prog 48 (#[.int .u64 x] ++ #[.pointer (some ⟨bx, 0, none⟩)]) w' fun e w2 => e = .returned (.int .u64 (φ x)) ∧ Kp [] w' w2)
    (hstop : ∀ home n pl F col w g ac k, ac.defers = [] → Ends SB pA rA a mv home pl F col w → (∀ b, own b → col b = .ag a.j) → A w → Sh w g → Kont Post Sh SB pA rA a mv home n .ret pl F col w (hl g) → Win Try.prog Post pl n a.j (gor ((b.at ac k).raise [haltE]) cs) w)
    (cont : ∀ y v home n pl F col w g, y 0 = x 0 → y 1 = x 1 → y 2 = x 2 → y 4 = x 4 → Acts SB pA rA a mv home true false pl F col w → (∀ b, own b → col b = .ag a.j) → A w → Sh w (setL v g) → Kont Post Sh SB pA rA a mv home n (nx v) pl F col w (setL v g) → Win Try.prog Post pl n a.j (gor (b.at ⟨T48 y, []⟩ (.inRegion (regOps (progU Try.f47)) [] :: k)) cs) w)
    (hA : Acts SB pA rA a mv home true false pl F col w) (hown : ∀ b, own b → col b = .ag a.j) (hAw : A w) (hs : Sh w g) (K : Kont Post Sh SB pA rA a mv home n (.node at' φ (fun v g => setL v g) (fun v _ => nx v) hl) pl F col w g) :
    Win Try.prog Post pl n a.j (gor (b.at ⟨T48 x, []⟩ (.code (progU Try.f47) :: k)) cs) w := by
  simp only [bodyOf, Try.f47, codeL, codeR, regOps, blockOf, loopOf, condT, condE, progR, progW, progU, progC, progD, Option.getD_some]
  refine Win.anyFill (C := PC G) (Goal := fun c fr => Win Try.prog Post c.pl c.n a.j (gor fr cs) c.w) mixed (by kernel_rfl) (fun c i => match i with | 0 => .pointer (some ⟨bq, oq, none⟩) | 1 => x 0 | 2 => .pointer (some ⟨bx, 1, none⟩) | 3 => .int .i64 at' | 4 => .func (.func 48) #[] #[.pointer (some ⟨bx, 0, none⟩)] | 5 => .int .u64 c.v | 6 => .pointer (some ⟨bq, oq, none⟩) | _ => undef) (fun c => (⟨#[x 0, x 1, x 2, x 3, x 4, x 5, x 6, x 7, x 8, x 9, x 10, x 11, x 12, x 13, x 14, x 15, x 16, x 17, .pointer (some ⟨bq, oq, none⟩), x 0, .pointer (some ⟨bx, 1, none⟩), .int .i64 at', .func (.func 48) #[] #[.pointer (some ⟨bx, 0, none⟩)], .int .u64 c.v, .pointer (some ⟨bq, oq, none⟩), x 25, x 26, x 27, x 28, x 29, x 30, x 31, x 32, x 33, x 34, x 35, x 36, x 37, x 38, x 39, x 40, x 41, x 42, x 43, x 44, x 45, x 46, x 47], []⟩ : Act)) (fun c => by simp only [T48, fillAll, List.size_toArray, List.length_cons, List.length_nil, Nat.reduceAdd, List.range, List.range.loop, List.foldl_cons, List.foldl_nil, gqA, gqZ, gqS, Option.bind_some, Option.bind_none, Act.put, siA, scS, scZ]) (fun X c => Acts SB pA rA a mv c.home true false c.pl c.F c.col c.w ∧ (∀ b, own b → c.col b = .ag a.j) ∧ A c.w ∧ (X.getD 5 false = false → X.getD 7 false = false → Sh c.w c.g ∧ Kont Post Sh SB pA rA a mv c.home c.n (.node at' φ (fun v g => setL v g) (fun v _ => nx v) hl) c.pl c.F c.col c.w c.g) ∧ (X.getD 5 false = true → X.getD 7 false = false → Sh c.w c.g ∧ Kont Post Sh SB pA rA a mv c.home c.n (nx c.v) c.pl c.F c.col c.w (setL c.v c.g)) ∧ (X.getD 7 false = true → Sh c.w (setL c.v c.g) ∧ Kont Post Sh SB pA rA a mv c.home c.n (nx c.v) c.pl c.F c.col c.w (setL c.v c.g))) ⟨home, n, pl, F, col, w, g, 0⟩ (fun fr hh => hh) ?_ ?_ ⟨hA, hown, hAw, fun _ _ => ⟨hs, K⟩, fun z => by simp at z, fun z => by simp at z⟩
  · intro X i o hX ho hx hr c a' L' hJ hcl hL'' hfl e1 e2 hd hn
    have hsome : ∃ g', Sh c.w g' ∧ True := by
      cases h4 : X.getD 5 false
      · cases h6 : X.getD 7 false
        · exact ⟨_, (hJ.2.2.2.1 h4 h6).1, trivial⟩
        · exact ⟨_, (hJ.2.2.2.2.2 h6).1, trivial⟩
      · cases h6 : X.getD 7 false
        · exact ⟨_, (hJ.2.2.2.2.1 h4 h6).1, trivial⟩
        · exact ⟨_, (hJ.2.2.2.2.2 h6).1, trivial⟩
    obtain ⟨g', hg', hgg⟩ := hsome
    obtain ⟨r1, r2⟩ := hrd _ _ hJ.2.2.1 hg'
    rcases i with _ | _ | _ | _ | _ | _ | _ | _ | i
    · obtain rfl := Option.some.inj ho
      refine Win.op (v := .pointer (some ⟨bq, oq, none⟩)) (.inl hb) rfl rfl (fun d => ⟨#[⟨.cell ⟨bp, 0, none⟩, false, false⟩], by rw [e1, Sem.runT_eq]; have hc : (World.at c.w d).cell? ⟨bp, 0, none⟩ = _ := r1; generalize World.at c.w d = W at hc ⊢; simp [go_sem, execOp, Act.eval, hc, hx2, hx5], fun e he => by obtain rfl : e = ⟨.cell ⟨bp, 0, none⟩, false, false⟩ := (by simpa using he); exact ⟨rfl, fun m => by simp⟩⟩) (hn c (fun _ _ => rfl) ⟨hJ.1, hJ.2.1, hJ.2.2.1, fun z z' => hJ.2.2.2.1 (by rw [getD_set_ne false (by decide)] at z; exact z) (by rw [getD_set_ne false (by decide)] at z'; exact z'), fun z z' => hJ.2.2.2.2.1 (by rw [getD_set_ne false (by decide)] at z; exact z) (by rw [getD_set_ne false (by decide)] at z'; exact z'), fun z => hJ.2.2.2.2.2 (by rw [getD_set_ne false (by decide)] at z; exact z)⟩)
    · obtain rfl := Option.some.inj ho
      refine Win.op (v := x 0) (.inl hb) rfl rfl (fun d => ⟨#[], by rw [e1, Sem.runT_eq]; simp [go_sem, execOp, Act.eval]; try (first | rfl | exact ⟨rfl, rfl⟩ | kernel_rfl), fun e he => by simp at he⟩) (hn c (fun _ _ => rfl) ⟨hJ.1, hJ.2.1, hJ.2.2.1, fun z z' => hJ.2.2.2.1 (by rw [getD_set_ne false (by decide)] at z; exact z) (by rw [getD_set_ne false (by decide)] at z'; exact z'), fun z z' => hJ.2.2.2.2.1 (by rw [getD_set_ne false (by decide)] at z; exact z) (by rw [getD_set_ne false (by decide)] at z'; exact z'), fun z => hJ.2.2.2.2.2 (by rw [getD_set_ne false (by decide)] at z; exact z)⟩)
    · obtain rfl := Option.some.inj ho
      refine Win.op (v := .pointer (some ⟨bx, 1, none⟩)) (.inl hb) rfl rfl (fun d => ⟨#[], by rw [e1, Sem.runT_eq]; simp [go_sem, execOp, Act.eval, hx5]; try (first | rfl | exact ⟨rfl, rfl⟩ | kernel_rfl), fun e he => by simp at he⟩) (hn c (fun _ _ => rfl) ⟨hJ.1, hJ.2.1, hJ.2.2.1, fun z z' => hJ.2.2.2.1 (by rw [getD_set_ne false (by decide)] at z; exact z) (by rw [getD_set_ne false (by decide)] at z'; exact z'), fun z z' => hJ.2.2.2.2.1 (by rw [getD_set_ne false (by decide)] at z; exact z) (by rw [getD_set_ne false (by decide)] at z'; exact z'), fun z => hJ.2.2.2.2.2 (by rw [getD_set_ne false (by decide)] at z; exact z)⟩)
    · obtain rfl := Option.some.inj ho
      refine Win.op (v := .int .i64 at') (.inl hb) rfl rfl (fun d => ⟨#[⟨.cell ⟨bx, 1, none⟩, false, false⟩], by rw [e1, Sem.runT_eq]; have hc : (World.at c.w d).cell? ⟨bx, 1, none⟩ = _ := r2; generalize World.at c.w d = W at hc ⊢; simp [go_sem, execOp, Act.eval, hc, hx2, hx5], fun e he => by obtain rfl : e = ⟨.cell ⟨bx, 1, none⟩, false, false⟩ := (by simpa using he); exact ⟨rfl, fun m => by simp⟩⟩) (hn c (fun _ _ => rfl) ⟨hJ.1, hJ.2.1, hJ.2.2.1, fun z z' => hJ.2.2.2.1 (by rw [getD_set_ne false (by decide)] at z; exact z) (by rw [getD_set_ne false (by decide)] at z'; exact z'), fun z z' => hJ.2.2.2.2.1 (by rw [getD_set_ne false (by decide)] at z; exact z) (by rw [getD_set_ne false (by decide)] at z'; exact z'), fun z => hJ.2.2.2.2.2 (by rw [getD_set_ne false (by decide)] at z; exact z)⟩)
    · obtain rfl := Option.some.inj ho
      refine Win.op (v := .func (.func 48) #[] #[.pointer (some ⟨bx, 0, none⟩)]) (.inl hb) rfl rfl (fun d => ⟨#[], by rw [e1, Sem.runT_eq]; simp [go_sem, execOp, Act.eval, hx5]; try (first | rfl | exact ⟨rfl, rfl⟩ | kernel_rfl), fun e he => by simp at he⟩) (hn c (fun _ _ => rfl) ⟨hJ.1, hJ.2.1, hJ.2.2.1, fun z z' => hJ.2.2.2.1 (by rw [getD_set_ne false (by decide)] at z; exact z) (by rw [getD_set_ne false (by decide)] at z'; exact z'), fun z z' => hJ.2.2.2.2.1 (by rw [getD_set_ne false (by decide)] at z; exact z) (by rw [getD_set_ne false (by decide)] at z'; exact z'), fun z => hJ.2.2.2.2.2 (by rw [getD_set_ne false (by decide)] at z; exact z)⟩)
    · obtain rfl := Option.some.inj ho
      have hx' : X.getD 5 false = false := by
        have hlt : 5 < X.size := by rw [hX]; decide
        simpa [hlt] using hx
      have h7 : X.getD 7 false = false := by
        cases h : X.getD 7 false with
        | false => rfl
        | true => have := hcl 7 _ rfl h { on := 5, ground := Ground.data } (by simp) rfl; rw [hx'] at this; cases this
      obtain ⟨hsc, hK⟩ := hJ.2.2.2.1 hx' h7
      refine Win.enter (f := 121) (args := #[.pointer (some ⟨a.m, 0, none⟩), .int .i64 at', .func (.func 48) #[] #[.pointer (some ⟨bx, 0, none⟩)]]) (.inl hb) rfl rfl (fun d => ⟨#[], by rw [e1]; simp only [hx0, hx5]; kernel_rfl, fun e he => by simp at he⟩) ?_
      refine bupdate hSh hmv hJ.1 hJ.2.1 hP hJ.2.2.1 hsc (fun y w => by kernel_rfl) hupd ?_ ?_ hK
      · intro v home' n' pl' F' col' w' g2 hA2 ho2 hA2' hs2 K2
        rw [Frame.finish_at]
        refine hn ⟨home', n', pl', F', col', w', g2, v⟩ (fun j hj => ?_) ⟨hA2, ho2, hA2', fun z => (by rw [getD_set_self (by rw [hX]; decide)] at z; cases z), fun _ _ => ⟨hs2, K2⟩, fun z => by rw [getD_set_ne false (by decide), h7] at z; cases z⟩
        rcases j with _ | _ | _ | _ | _ | _ | _ | j
        · rfl
        · rfl
        · rfl
        · rfl
        · rfl
        · rw [hx'] at hj; cases hj
        · rfl
        · rfl
      · intro home' n' pl' F' col' w' g2 hE ho2 hA2' hs2 K2
        exact hstop home' n' pl' F' col' w' g2 _ _ hd hE ho2 hA2' hs2 K2
    · obtain rfl := Option.some.inj ho
      refine Win.op (v := .pointer (some ⟨bq, oq, none⟩)) (.inl hb) rfl rfl (fun d => ⟨#[], by rw [e1, Sem.runT_eq]; simp [go_sem, execOp, Act.eval]; try (first | rfl | exact ⟨rfl, rfl⟩ | kernel_rfl), fun e he => by simp at he⟩) (hn c (fun _ _ => rfl) ⟨hJ.1, hJ.2.1, hJ.2.2.1, fun z z' => hJ.2.2.2.1 (by rw [getD_set_ne false (by decide)] at z; exact z) (by rw [getD_set_ne false (by decide)] at z'; exact z'), fun z z' => hJ.2.2.2.2.1 (by rw [getD_set_ne false (by decide)] at z; exact z) (by rw [getD_set_ne false (by decide)] at z'; exact z'), fun z => hJ.2.2.2.2.2 (by rw [getD_set_ne false (by decide)] at z; exact z)⟩)
    · obtain rfl := Option.some.inj ho
      have hx' : X.getD 7 false = false := by
        have hlt : 7 < X.size := by rw [hX]; decide
        simpa [hlt] using hx
      have g4 := hr { on := 5, ground := Ground.data } (by simp) rfl
      obtain ⟨hsc, hK⟩ := hJ.2.2.2.2.1 g4 hx'
      obtain ⟨u, hu, hf⟩ := hq _ _ hJ.2.2.1 hsc
      obtain ⟨hA3, hM3⟩ := hJ.1.turn (ks_setCell c.w ⟨bq, oq, none⟩ (.int .u64 c.v)) (hJ.1.lies.setCell _ _) (fun b hb' => .inr (by
        have e : b = bq := hb'
        rw [e]; exact hJ.1.lay.sb _ hsq))
      refine Win.storeOp (ad := ⟨bq, oq, none⟩) (x := .int .u64 c.v) (.inl hb) rfl rfl (hJ.1.free_shared hsq hu) (fun d => ?_) ?_
      · rw [e1, Sem.runT_eq]
        have c1 : (c.w.at d).cell? ⟨bq, oq, none⟩ = some (.int .u64 u) := hu
        have c2 : (c.w.at d).frozen? ⟨bq, oq, none⟩ = false := hf
        generalize c.w.at d = W at c1 c2 ⊢
        obtain ⟨s1, s2⟩ := store_ok (P := Try.prog) (x := .int .u64 c.v) (w := W) (m := .plain) (by simp) (by simp) c1 c2
        simp [go_sem, execOp, Act.eval, s1, s2, c1, c2]
      · obtain ⟨w1, w2⟩ := hwr _ _ c.v hJ.2.2.1 hsc
        refine hn ⟨c.home, c.n, c.pl, c.F, grown a.j c.col c.w (c.w.setCell ⟨bq, oq, none⟩ (.int .u64 c.v)), c.w.setCell ⟨bq, oq, none⟩ (.int .u64 c.v), c.g, c.v⟩ (fun j hj => rfl) ⟨hA3, fun b hb' => grown_ag hJ.1.lay (hJ.2.1 b hb'), w1, fun _ z => (by rw [getD_set_self (by rw [hX]; decide)] at z; cases z), fun _ z => (by rw [getD_set_self (by rw [hX]; decide)] at z; cases z), fun _ => ⟨w2, Kont.moves hM3 hK⟩⟩
    · simp at ho
  · intro X c hall hJ
    obtain ⟨z1, z2⟩ := hJ.2.2.2.2.2 (hall 7 (by simp))
    exact cont (fun i => match i with | 18 => .pointer (some ⟨bq, oq, none⟩) | 19 => x 0 | 20 => .pointer (some ⟨bx, 1, none⟩) | 21 => .int .i64 at' | 22 => .func (.func 48) #[] #[.pointer (some ⟨bx, 0, none⟩)] | 23 => .int .u64 c.v | 24 => .pointer (some ⟨bq, oq, none⟩) | i => x i) c.v c.home c.n c.pl c.F c.col c.w c.g rfl rfl rfl rfl hJ.1 hJ.2.1 hJ.2.2.1 z1 z2
end
end Go.Proofs.Ytnbibpmhmffmpaa

namespace Go.Proofs.Ytnbibpmhmffmpaa
open List renaming getElem_toArray → gtA, getElem_cons_zero → gtZ, getElem_cons_succ → gtS, setIfInBounds_toArray → siA, set_cons_succ → scS, set_cons_zero → scZ, getElem?_toArray → gqA, getElem?_cons_zero → gqZ, getElem?_cons_succ → gqS
set_option linter.unusedVariables false
set_option linter.unusedSimpArgs false
set_option maxRecDepth 100000
open Go.Conc
open Go.ConcN (upd_ne upd_same)

/-- What the program does. -/
def ptree {G : Type} (lst : G → Int) (setL : Int → G → G) : List (Int × Int × Int) → Int → Tree G
  | [], _ => .ret
  | (d, k, v) :: rest, last => if d = 0 then .node k (fun z => z) (fun u g => setL u g) (fun u _ => ptree lst setL rest u) (fun g => g)
    else if d = 1 then .node k (fun _ => IntKind.wrap .u64 (last + v)) (fun _ g => g) (fun _ g => ptree lst setL rest (lst g)) (fun g => g)
    else .node k (fun z => IntKind.wrap .u64 (z + v)) (fun u g => setL u g) (fun u _ => ptree lst setL rest u) (fun g => g)

theorem size_touch : Try.t48.size = 3 := rfl
theorem wrap_small {i : Nat} (h : i < 1073741824) : IntKind.wrap .i64 ((i : Int) + 1) = (i : Int) + 1 := by
  simp [IntKind.wrap, IntKind.min, IntKind.max, IntKind.signed, IntKind.bits]; omega

section
variable {W : World} {ρ : Operand → Value} {o : Oper}
theorem op_load (ba k : Nat) {x0 x1 x2 : Value} {i : Nat} (h0 : W.cell? ⟨ba, k, none⟩ = some x0) (h1 : W.cell? ⟨ba, k + 1, none⟩ = some x1) (h2 : W.cell? ⟨ba, k + 2, none⟩ = some x2) (ho : o.op = .load 48 (.tmp i)) (hρ : ρ (.tmp i) = .pointer (some ⟨ba, k, none⟩)) :
    (execOp ρ o).runT Try.prog W #[] = (.ok (.value (.agg #[x0, x1, x2])) W, #[⟨.cell ⟨ba, k, none⟩, false, false⟩, ⟨.cell ⟨ba, k + 1, none⟩, false, false⟩, ⟨.cell ⟨ba, k + 2, none⟩, false, false⟩]) := by
  have s48 := size_touch
  rw [Sem.runT_eq]
  simp [go_sem, execOp, ho, hρ, h0, h1, h2, isAgg, loadCells, loadCellsFrom, sizeOf, s48]
theorem op_store (b : Nat) {y0 y1 y2 : Value} {i j : Nat} (h0 : W.cell? ⟨b, 0, none⟩ = some y0) (h1 : W.cell? ⟨b, 1, none⟩ = some y1) (h2 : W.cell? ⟨b, 2, none⟩ = some y2) (hf : ∀ i, W.frozen? ⟨b, i, none⟩ = false) (ho : o.op = .store 48 (.tmp i) (.tmp j)) (hρ : ρ (.tmp i) = .pointer (some ⟨b, 0, none⟩)) {x0 x1 x2 : Int} (hρ' : ρ (.tmp j) = .agg #[.int .u8 x0, .int .i64 x1, .int .u64 x2]) :
    (execOp ρ o).runT Try.prog W #[] = (.ok .skip (((W.setCell ⟨b, 0, none⟩ (.int .u8 x0)).setCell ⟨b, 1, none⟩ (.int .i64 x1)).setCell ⟨b, 2, none⟩ (.int .u64 x2)), #[⟨.cell ⟨b, 0, none⟩, true, false⟩, ⟨.cell ⟨b, 1, none⟩, true, false⟩, ⟨.cell ⟨b, 2, none⟩, true, false⟩]) := by
  have hm : (Mode.plain == Mode.atomic) = false := by decide
  have s48 := size_touch
  rw [Sem.runT_eq]
  simp [go_sem, execOp, ho, hρ, hρ', h0, h1, h2, isAgg, storeCells, sizeOf, s48, hf, hm]
theorem op_index (ba oa i n cp : Nat) {x y : Nat} (hi : i < n) (ho : o.op = .indexAddr 38 (.tmp x) (.tmp y)) (hρ : ρ (.tmp x) = .slice (some ⟨ba, oa, none⟩) n cp) (hρ' : ρ (.tmp y) = .int .i64 i) :
    (execOp ρ o).runT Try.prog W #[] = (.ok (.value (.pointer (some ⟨ba, oa + 3 * i, none⟩))) W, #[]) := by
  have s48 := size_touch
  rw [Sem.runT_eq]
  simp [go_sem, execOp, ho, hρ, hρ', hi]
  try (first | done | (simp [Addr.add, s48]; done) | (simp [Addr.add, s48]; omega) | rfl)
theorem op_alloc (ho : o.op = .alloc 48) : (execOp ρ o).runT Try.prog W #[] = (.ok (.value (.pointer (some ⟨W.heap.size, 0, none⟩))) (W.alloc (.cells #[.int .u8 0, .int .i64 0, .int .u64 0] 48)), #[]) := by
  rw [Sem.runT_eq]
  simp [go_sem, execOp, ho]
  try rfl
end

/-- What an update asks. -/
theorem prog_adds {w : World} {bx : Nat} {v x : Int} (h : w.cell? ⟨bx, 2, none⟩ = some (.int .u64 v)) :
    Calls Try.prog 48 (#[.int .u64 x] ++ #[.pointer (some ⟨bx, 0, none⟩)]) w fun e w2 => e = .returned (.int .u64 (IntKind.wrap .u64 (x + v))) ∧ Kp [] w w2 := by
  refine calls_of_wp Try.func48 rfl ?_
  simp only [Try.ntmps48]
  go_wp2
  simp_all [bodyPost, results, Try.f48]
  try exact Kp.refl _ _

section
variable {G : Type} {Post : Value → World → Prop} {Sh : World → G → Prop} {SB : Nat → Prop} {pA rA : Nat} {a : Ag} {mv : Value} {home : Goroutine → Prop} {n : Nat} {T : Tree G} {runs ov : Bool}
variable {pl pl' : Nat → Option Place} {F F' : Nat → Option (Nat × Nat)} {col col' : Nat → Col} {w w' : World} {g : G}

/-- On to the next touch. -/
theorem prog_tail {b : Frame} (hb : b.kind = .normal) {cs : List Frame} {X : Code} {k : List Item} {ops : Array Oper} {y : Nat → Value} {i h : Nat} (h4 : y 4 = .int .i64 i) (hi : i < 1073741824)
    (H : ∀ z, z 0 = y 0 → z 1 = y 1 → z 2 = y 2 → z 4 = .int .i64 ((i + 1 : Nat) : Int) → Win Try.prog Post pl n h (gor (b.at ⟨T48 z, []⟩ (.inLoop X :: k)) cs) w) :
    Win Try.prog Post pl n h (gor (b.at ⟨T48 y, []⟩ (.inRegion ops [] :: .inBlock 2 :: .inBlock 1 :: .code (codeR (codeR (progX Try.f47))) :: .inLoop X :: k)) cs) w := by
  have hw := wrap_small hi
  simp only [bodyOf, Try.f47, codeL, codeR, regOps, blockOf, loopOf, condT, condE, progX, Option.getD_some, T48]
  refine Win.opsEnd ?_
  refine Win.inBlock ?_
  refine Win.inBlock ?_
  refine Win.region ?_
  simp only [List.size_toArray, List.length_cons, List.length_nil, Nat.reduceAdd, List.range, List.range.loop]
  refine Win.pureOp (v := .int .i64 i) (.inl hb) rfl rfl (fun w => by rw [Sem.runT_eq]; simp [go_sem, execOp, Act.eval, h4]; try rfl) ?_
  simp only [Act.put, Act.eval, gtA, gtZ, gtS, siA, scS, scZ]
  refine Win.pureOp (v := .int .i64 ((i + 1 : Nat) : Int)) (.inl hb) rfl rfl (fun w => by rw [Sem.runT_eq]; simp [go_sem, execOp, Act.eval, h4, hw]; try rfl) ?_
  simp only [Act.put, Act.eval, gtA, gtZ, gtS, siA, scS, scZ]
  refine Win.pureOp (v := .int .i64 ((i + 1 : Nat) : Int)) (.inl hb) rfl rfl (fun w => by rw [Sem.runT_eq]; simp [go_sem, execOp, Act.eval]; try rfl) ?_
  simp only [Act.put, Act.eval, gtA, gtZ, gtS, siA, scS, scZ]
  refine Win.opsEnd ?_
  exact H (fun j => match j with | 4 => .int .i64 ((i + 1 : Nat) : Int) | 10 => .int .i64 i | 11 => .int .i64 ((i + 1 : Nat) : Int) | j => y j) rfl rfl rfl rfl
end
end Go.Proofs.Ytnbibpmhmffmpaa

namespace Go.Proofs.Ytnbibpmhmffmpaa
open List renaming getElem_toArray → gtA, getElem_cons_zero → gtZ, getElem_cons_succ → gtS, setIfInBounds_toArray → siA, set_cons_succ → scS, set_cons_zero → scZ, getElem?_toArray → gqA, getElem?_cons_zero → gqZ, getElem?_cons_succ → gqS
set_option linter.unusedVariables false
set_option linter.unusedSimpArgs false
set_option maxRecDepth 100000
open Go.Conc
open Go.ConcN (upd_ne upd_same)

section
variable {P : Program} {Post : Value → World → Prop} {pl : Nat → Option Place} {n h : Nat} {cs : List Frame} {w w' : World}
variable {b : Frame} {a : Act} {k : List Item} {ops : Array Oper} {i : Nat} {rest : List Nat} {o : Oper}
/-- A store of three cells. -/
theorem Win.store3 {m : Nat} {x0 x1 x2 : Value} (hb : b.kind = .normal ∨ b.kind = .deferred) (ho : ops[i]? = some o) (hwt : Region.wanted o (yielded ops a.tmps) = true) (F : ∀ j, Free pl ⟨m, j, none⟩)
    (hr : ∀ d, (execOp a.eval o).runT P (w.at d) #[] = (.ok .skip ((((w.at d).setCell ⟨m, 0, none⟩ x0).setCell ⟨m, 1, none⟩ x1).setCell ⟨m, 2, none⟩ x2), #[⟨.cell ⟨m, 0, none⟩, true, false⟩, ⟨.cell ⟨m, 1, none⟩, true, false⟩, ⟨.cell ⟨m, 2, none⟩, true, false⟩]))
    (H : Win P Post pl n h (gor (b.at (a.put o.dst undef) (.inRegion ops rest :: k)) cs) (((w.setCell ⟨m, 0, none⟩ x0).setCell ⟨m, 1, none⟩ x1).setCell ⟨m, 2, none⟩ x2)) : Win P Post pl n h (gor (b.at a (.inRegion ops (i :: rest) :: k)) cs) w :=
  Win.opS hb ho hwt fun d => by
    have k0 := (F 0).kept (x := x0) (w.at d)
    have k1 := (F 1).kept (x := x1) ((w.at d).setCell ⟨m, 0, none⟩ x0)
    have k2 := (F 2).kept (x := x2) (((w.at d).setCell ⟨m, 0, none⟩ x0).setCell ⟨m, 1, none⟩ x1)
    refine ⟨_, _, hr d, ⟨fun i s c hi hc => ((k2.1 i s c hi hc).trans (k1.1 i s c hi hc)).trans (k0.1 i s c hi hc), fun i s hi hs => k2.2 i s hi (k1.2 i s hi (k0.2 i s hi hs))⟩, fun e he => ?_, H.at d⟩
    simp only [List.mem_toArray, List.mem_cons, List.not_mem_nil, or_false] at he
    rcases he with rfl | rfl | rfl
    all_goals
      refine ⟨fun y hy _ g c hl hp => ?_, by simp, by simp⟩
      simp [MemAct.ofEvent, MemAct.touch?] at hy
      subst hy
      obtain ⟨s, v, hs, hv⟩ := hp
      cases hl
      exact (F _).cell g s v hs hv
end

theorem row3 (W : World) (x0 x1 x2 y0 y1 y2 : Value) (t : TypeId) : (((((W.alloc (.cells #[y0, y1, y2] t)).setCell ⟨W.heap.size, 0, none⟩ x0).setCell ⟨W.heap.size, 1, none⟩ x1).setCell ⟨W.heap.size, 2, none⟩ x2).heap[W.heap.size]? = some (.cells #[x0, x1, x2] t (0, 0))) := by
  have h0 := alloc_new W (.cells #[y0, y1, y2] t)
  have h1 := heap_setCell_same _ W.heap.size 0 _ _ x0 h0
  have h2 := heap_setCell_same _ W.heap.size 1 _ _ x1 h1
  have h3 := heap_setCell_same _ W.heap.size 2 _ _ x2 h2
  rw [h3]
  simp
theorem ks3 (W : World) (x0 x1 x2 : Value) (ob : Obj) : Ks (fun _ => False) W (((((W.alloc ob).setCell ⟨W.heap.size, 0, none⟩ x0).setCell ⟨W.heap.size, 1, none⟩ x1).setCell ⟨W.heap.size, 2, none⟩ x2)) := by
  refine (((ks_alloc _ W ob).then (ks_setCell _ ⟨W.heap.size, 0, none⟩ x0) fun b hb e => ?_).then (ks_setCell _ ⟨W.heap.size, 1, none⟩ x1) fun b hb e => ?_).then (ks_setCell _ ⟨W.heap.size, 2, none⟩ x2) fun b hb e => ?_
  all_goals
    have e' : b = W.heap.size := e
    omega

section
variable {G : Type} {Post : Value → World → Prop} {Sh : World → G → Prop} {SB : Nat → Prop} {pA rA : Nat} {a : Ag} {mv : Value} {home : Goroutine → Prop} {n : Nat} {T : Tree G} {runs ov : Bool}

set_option maxHeartbeats 4000000 in
/-- THE PROGRAM'S LOOP. -/
theorem prog_loop (hSh : ∀ g, Priv SB (fun w => Sh w g)) (hmv : mv = memV pA) {args : Array Value} {bl bp ba oa cp bq oq b1 b2 : Nat} {l : List (Int × Int × Int)} {lst : G → Int} {setL : Int → G → G} {own : Nat → Prop} {A : World → Prop} {gf : FuncId} {cap : Array Value}
    (hP : Priv own A) (hrd : ∀ w g, A w → Sh w g → w.cell? ⟨bl, 0, none⟩ = some (.slice (some ⟨ba, oa, none⟩) l.length cp) ∧ w.cell? ⟨bp, 0, none⟩ = some (.pointer (some ⟨bq, oq, none⟩)) ∧ w.cell? ⟨bq, oq, none⟩ = some (.int .u64 (lst g)) ∧ w.frozen? ⟨bq, oq, none⟩ = false ∧
      ∀ i d k v, l[i]? = some (d, k, v) → w.cell? ⟨ba, oa + 3 * i, none⟩ = some (.int .u8 d) ∧ w.cell? ⟨ba, oa + 3 * i + 1, none⟩ = some (.int .i64 k) ∧ w.cell? ⟨ba, oa + 3 * i + 2, none⟩ = some (.int .u64 v))
    (hwr : ∀ w g v, A w → Sh w g → A (w.setCell ⟨bq, oq, none⟩ (.int .u64 v)) ∧ Sh (w.setCell ⟨bq, oq, none⟩ (.int .u64 v)) (setL v g)) (hlst : ∀ v g, lst (setL v g) = v) (hsq : SB bq) (hbox : ∀ w, A w → Boxed a b1 b2 w) (hlen : l.length < 1073741824) (X : Code) (hX : X = progX Try.f47) :
    ∀ rest i, l.drop i = rest → i ≤ l.length → ∀ (x : Nat → Value) home n pl F col w g, x 0 = .iface 136 (.pointer (some ⟨a.m, 0, none⟩)) → x 1 = .pointer (some ⟨bl, 0, none⟩) → x 2 = .pointer (some ⟨bp, 0, none⟩) → x 4 = .int .i64 i →
      Acts SB pA rA a mv home true false pl F col w → (∀ b, own b → col b = .ag a.j) → A w → Sh w g → Kont Post Sh SB pA rA a mv home n (ptree lst setL rest (lst g)) pl F col w g →
      Win Try.prog Post pl n a.j (gor ((Frame.enter Try.prog 47 args .normal).at ⟨T48 x, []⟩ [.code (progX Try.f47), .inLoop X, .inBlock 0]) [runFr Try.prog Try.f45 a.p a.m b1 b2 gf cap, rootFr Try.prog]) w := by
  intro rest
  induction rest with
  | nil =>
    intro i hi hil x home n pl F col w g hx0 hx1 hx2 hx4 hA hown hAw hs K0
    have hb : (Frame.enter Try.prog 47 args .normal).kind = .normal := rfl
    have hil' : i = l.length := by have := List.drop_eq_nil_iff.1 hi; omega
    obtain ⟨r1, r2, r3, r4, r5⟩ := hrd _ _ hAw hs
    simp only [bodyOf, Try.f47, codeL, codeR, regOps, blockOf, loopOf, condT, condE, progX, Option.getD_some, T48]
    refine Win.seq ?_
    refine Win.seq ?_
    refine Win.region ?_
    simp only [List.size_toArray, List.length_cons, List.length_nil, Nat.reduceAdd, List.range, List.range.loop]
    refine Win.pureOp (v := .int .i64 i) (.inl hb) rfl rfl (fun w => by rw [Sem.runT_eq]; simp [go_sem, execOp, Act.eval, hx4]; try rfl) ?_
    simp only [Act.put, Act.eval, gtA, gtZ, gtS, siA, scS, scZ]
    refine Win.lookOp (v := .slice (some ⟨ba, oa, none⟩) l.length cp) (ad := ⟨bl, 0, none⟩) (x := .slice (some ⟨ba, oa, none⟩) l.length cp) (.inl hb) rfl rfl (r1) (fun w hc => by rw [Sem.runT_eq]; simp [go_sem, execOp, Act.eval, hc, hx1]) ?_
    simp only [Act.put, Act.eval, gtA, gtZ, gtS, siA, scS, scZ]
    refine Win.pureOp (v := .int .i64 (l.length : Int)) (.inl hb) rfl rfl (fun w => by rw [Sem.runT_eq]; simp [go_sem, execOp, Act.eval]; try rfl) ?_
    simp only [Act.put, Act.eval, gtA, gtZ, gtS, siA, scS, scZ]
    refine Win.pureOp (v := .bool false) (.inl hb) rfl rfl (fun w => by rw [Sem.runT_eq]; simp [go_sem, execOp, Act.eval, hil']; try rfl) ?_
    simp only [Act.put, Act.eval, gtA, gtZ, gtS, siA, scS, scZ]
    refine Win.opsEnd ?_
    refine Win.cond (t := false) rfl ?_
    simp only [if_false, Bool.false_eq_true]
    refine Win.exit (k' := []) rfl ?_
    refine Win.falls ?_
    refine Win.leave (v := .tuple #[]) rfl rfl hb Try.func47 (fun d => ⟨#[], by rw [Sem.runT_eq]; simp [go_sem, results, Try.f47], fun e he => by simp at he⟩) ?_
    exact ret_out hA.ends (hbox _ hAw) hs hSh K0
  | cons p rest ih =>
    obtain ⟨d, k, v⟩ := p
    intro i hi hil x home n pl F col w g hx0 hx1 hx2 hx4 hA hown hAw hs K0
    have hb : (Frame.enter Try.prog 47 args .normal).kind = .normal := rfl
    have hlt : i < l.length := by
      rcases Nat.lt_or_ge i l.length with z | z
      · exact z
      · rw [List.drop_eq_nil_iff.2 z] at hi; cases hi
    have hget : l[i]? = some (d, k, v) := by rw [← List.head?_drop, hi]; rfl
    have hrest : l.drop (i + 1) = rest := by rw [← List.tail_drop, hi]; rfl
    obtain ⟨r1, r2, r3, r4, r5⟩ := hrd _ _ hAw hs
    obtain ⟨c0, c1, c2⟩ := r5 i d k v hget
    have hstop : ∀ (own' : Nat → Prop) (A' : World → Prop), (∀ b, own b → own' b) → (∀ w, A' w → A w) → ∀ home n pl F col w g ac kk, ac.defers = [] → Ends SB pA rA a mv home pl F col w → (∀ b, own' b → col b = .ag a.j) → A' w → Sh w g → Kont Post Sh SB pA rA a mv home n .ret pl F col w ((fun g => g) g) → Win Try.prog Post pl n a.j (gor (((Frame.enter Try.prog 47 args .normal).at ac kk).raise [haltE]) [runFr Try.prog Try.f45 a.p a.m b1 b2 gf cap, rootFr Try.prog]) w :=
      fun own' A' ho hAA home n pl F col w g ac kk hd hE hown' hA' hs' K' => halt_out hE (hbox _ (hAA _ hA')) hs' hSh hd (by kernel_rfl) K'
    have hcont : ∀ y home n pl F col w g (ops : Array Oper), y 0 = x 0 → y 1 = x 1 → y 2 = x 2 → y 4 = x 4 → Acts SB pA rA a mv home true false pl F col w → (∀ b, own b → col b = .ag a.j) → A w → Sh w g → Kont Post Sh SB pA rA a mv home n (ptree lst setL rest (lst g)) pl F col w g → Win Try.prog Post pl n a.j (gor ((Frame.enter Try.prog 47 args .normal).at ⟨T48 y, []⟩ (.inRegion ops [] :: .inBlock 2 :: .inBlock 1 :: .code (codeR (codeR (progX Try.f47))) :: .inLoop X :: [.inBlock 0])) [runFr Try.prog Try.f45 a.p a.m b1 b2 gf cap, rootFr Try.prog]) w := by
      intro y home n pl F col w g ops y0 y1 y2 y4 hA hown hAw hs K1
      refine prog_tail rfl (y4.trans hx4) (by omega) fun z z0 z1 z2 z4 => ?_
      refine Win.inLoop ?_
      have := ih (i + 1) hrest hlt z home n pl F col w g (z0.trans (y0.trans hx0)) (z1.trans (y1.trans hx1)) (z2.trans (y2.trans hx2)) z4 hA hown hAw hs K1
      rw [← hX] at this
      exact this
    have hR : ∀ (b : Frame) (x' : Nat → Value), progR Try.f47 = progR Try.f47 := fun _ _ => rfl
    have hL := hA.lies
    have f3 : ∀ j, Free pl ⟨w.heap.size, j, none⟩ := fun j => hL.freeNew (Nat.le_refl _)
    have hrow := row3 w (.int .u8 d) (.int .i64 k) (.int .u64 v) (.int .u8 0) (.int .i64 0) (.int .u64 0) 48
    have hk3 := ks3 w (.int .u8 d) (.int .i64 k) (.int .u64 v) (.cells #[.int .u8 0, .int .i64 0, .int .u64 0] 48)
    have hL3 : Lies pl F (((((w.alloc (.cells #[.int .u8 0, .int .i64 0, .int .u64 0] 48)).setCell ⟨w.heap.size, 0, none⟩ (.int .u8 d)).setCell ⟨w.heap.size, 1, none⟩ (.int .i64 k)).setCell ⟨w.heap.size, 2, none⟩ (.int .u64 v))) := ((((hL.alloc _).setCell _ _).setCell _ _).setCell _ _)
    have hnew := alloc_new w (.cells #[.int .u8 0, .int .i64 0, .int .u64 0] 48)
    obtain ⟨bx, hbx⟩ : ∃ bx, bx = w.heap.size := ⟨_, rfl⟩
    simp only [bodyOf, Try.f47, codeL, codeR, regOps, blockOf, loopOf, condT, condE, progX, Option.getD_some, T48]
    refine Win.seq ?_
    refine Win.seq ?_
    refine Win.region ?_
    simp only [List.size_toArray, List.length_cons, List.length_nil, Nat.reduceAdd, List.range, List.range.loop]
    refine Win.pureOp (v := .int .i64 i) (.inl hb) rfl rfl (fun w => by rw [Sem.runT_eq]; simp [go_sem, execOp, Act.eval, hx4]; try rfl) ?_
    simp only [Act.put, Act.eval, gtA, gtZ, gtS, siA, scS, scZ]
    refine Win.lookOp (v := .slice (some ⟨ba, oa, none⟩) l.length cp) (ad := ⟨bl, 0, none⟩) (x := .slice (some ⟨ba, oa, none⟩) l.length cp) (.inl hb) rfl rfl (r1) (fun w hc => by rw [Sem.runT_eq]; simp [go_sem, execOp, Act.eval, hc, hx1]) ?_
    simp only [Act.put, Act.eval, gtA, gtZ, gtS, siA, scS, scZ]
    refine Win.pureOp (v := .int .i64 (l.length : Int)) (.inl hb) rfl rfl (fun w => by rw [Sem.runT_eq]; simp [go_sem, execOp, Act.eval]; try rfl) ?_
    simp only [Act.put, Act.eval, gtA, gtZ, gtS, siA, scS, scZ]
    refine Win.pureOp (v := .bool true) (.inl hb) rfl rfl (fun w => by rw [Sem.runT_eq]; simp [go_sem, execOp, Act.eval, hlt]; try rfl) ?_
    simp only [Act.put, Act.eval, gtA, gtZ, gtS, siA, scS, scZ]
    refine Win.opsEnd ?_
    refine Win.cond (t := true) rfl ?_
    simp only [if_true]
    refine Win.skip ?_
    refine Win.seq ?_
    refine Win.block ?_
    refine Win.seq ?_
    refine Win.region ?_
    simp only [List.size_toArray, List.length_cons, List.length_nil, Nat.reduceAdd, List.range, List.range.loop]
    refine Win.lookOp (v := .slice (some ⟨ba, oa, none⟩) l.length cp) (ad := ⟨bl, 0, none⟩) (x := .slice (some ⟨ba, oa, none⟩) l.length cp) (.inl hb) rfl rfl (r1) (fun w hc => by rw [Sem.runT_eq]; simp [go_sem, execOp, Act.eval, hc, hx1]) ?_
    simp only [Act.put, Act.eval, gtA, gtZ, gtS, siA, scS, scZ]
    refine Win.pureOp (v := .int .i64 i) (.inl hb) rfl rfl (fun w => by rw [Sem.runT_eq]; simp [go_sem, execOp, Act.eval, hx4]; try rfl) ?_
    simp only [Act.put, Act.eval, gtA, gtZ, gtS, siA, scS, scZ]
    refine Win.op (v := .pointer (some ⟨ba, oa + 3 * i, none⟩)) (.inl hb) rfl rfl (fun d' => ⟨#[], op_index ba oa i l.length cp hlt rfl rfl rfl, fun e he => by simp at he⟩) ?_
    simp only [Act.put, Act.eval, gtA, gtZ, gtS, siA, scS, scZ]
    refine Win.op (v := .agg #[.int .u8 d, .int .i64 k, .int .u64 v]) (.inl hb) rfl rfl (fun d' => ⟨_, op_load (W := w.at d') ba (oa + 3 * i) c0 c1 c2 rfl rfl, fun e he => by
      simp only [List.mem_toArray, List.mem_cons, List.not_mem_nil, or_false] at he
      rcases he with rfl | rfl | rfl <;> exact ⟨rfl, fun m => by simp⟩⟩) ?_
    simp only [Act.put, Act.eval, gtA, gtZ, gtS, siA, scS, scZ]
    refine Win.makeOp (v := .pointer (some ⟨w.heap.size, 0, none⟩)) (ob := .cells #[.int .u8 0, .int .i64 0, .int .u64 0] 48) (es := #[]) hL (.inl hb) rfl rfl (fun d' => op_alloc rfl) (fun e he => by simp at he) ?_
    simp only [Act.put, Act.eval, gtA, gtZ, gtS, siA, scS, scZ]
    refine Win.store3 (m := w.heap.size) (x0 := .int .u8 d) (x1 := .int .i64 k) (x2 := .int .u64 v) (.inl hb) rfl rfl f3 (fun d' => op_store (W := (w.alloc (.cells #[.int .u8 0, .int .i64 0, .int .u64 0] 48)).at d') w.heap.size (cell_of_row hnew 0) (cell_of_row hnew 1) (cell_of_row hnew 2) (fun j => free_of_row hnew j) rfl rfl rfl) ?_
    simp only [Act.put, Act.eval, gtA, gtZ, gtS, siA, scS, scZ]
    rw [← hbx] at hrow hk3 hL3 ⊢
    generalize ((((w.alloc (.cells #[.int .u8 0, .int .i64 0, .int .u64 0] 48)).setCell ⟨bx, 0, none⟩ (.int .u8 d)).setCell ⟨bx, 1, none⟩ (.int .i64 k)).setCell ⟨bx, 2, none⟩ (.int .u64 v)) = w2 at hrow hk3 hL3 ⊢
    refine Win.opsEnd ?_
    refine Win.seq ?_
    refine Win.region ?_
    simp only [List.size_toArray, List.length_cons, List.length_nil, Nat.reduceAdd, List.range, List.range.loop]
    refine Win.pureOp (v := .pointer (some ⟨bx, 0, none⟩)) (.inl hb) rfl rfl (fun w => by rw [Sem.runT_eq]; simp [go_sem, execOp, Act.eval]; try rfl) ?_
    simp only [Act.put, Act.eval, gtA, gtZ, gtS, siA, scS, scZ]
    refine Win.lookOp (v := .int .u8 d) (ad := ⟨bx, 0, none⟩) (x := .int .u8 d) (.inl hb) rfl rfl (cell_of_row hrow 0) (fun w hc => by rw [Sem.runT_eq]; simp [go_sem, execOp, Act.eval, hc]) ?_
    simp only [Act.put, Act.eval, gtA, gtZ, gtS, siA, scS, scZ]
    refine Win.opsEnd ?_
    refine Win.block ?_
    refine Win.seq ?_
    refine Win.region ?_
    simp only [List.size_toArray, List.length_cons, List.length_nil, Nat.reduceAdd, List.range, List.range.loop]
    refine Win.pureOp (v := .bool (decide (d = 0))) (.inl hb) rfl rfl (fun w => by rw [Sem.runT_eq]; simp [go_sem, execOp, Act.eval]; try rfl) ?_
    simp only [Act.put, Act.eval, gtA, gtZ, gtS, siA, scS, scZ]
    refine Win.pureOp (v := .bool (decide (d = 0))) (.inl hb) rfl rfl (fun w => by rw [Sem.runT_eq]; simp [go_sem, execOp, Act.eval]; try rfl) ?_
    simp only [Act.put, Act.eval, gtA, gtZ, gtS, siA, scS, scZ]
    refine Win.opsEnd ?_
    refine Win.cond (t := decide (d = 0)) rfl ?_
    obtain ⟨hA2, hM2⟩ := hA.grow hk3 hL3
    have hAw2 := hP.grow hAw hk3
    have hs2 := (hSh g).grow hs hk3
    have K2 := Kont.moves hM2 K0
    have hbq : ¬ bx = (⟨bq, oq, none⟩ : Addr).block := fun e => by
      have h := World.block_lt_of_cell? _ _ r3
      have e' : bx = bq := e
      have h' : bq < w.heap.size := h
      omega
    have hown2 : ∀ b, (own b ∨ b = bx) → grown a.j col w w2 b = .ag a.j := fun b hb' => by
      rcases hb' with hb' | rfl
      · exact grown_ag hA.lay (hown b hb')
      · exact grown_new (by omega) (lt_of_block hrow)
    have hP' : Priv (fun b => own b ∨ b = bx) (fun w => A w ∧ w.heap[bx]? = some (.cells #[.int .u8 d, .int .i64 k, .int .u64 v] 48 (0, 0))) := by
      refine ⟨fun u u' h he => ⟨hP.st _ _ h.1 fun b hb' => he b (.inl hb'), (he _ (.inr rfl)).trans h.2⟩, fun u b h hb' => ?_, fun u b h hb' => ?_⟩
      · rcases hb' with hb' | rfl
        · exact hP.np _ _ h.1 hb'
        · exact rich_cells h.2
      · rcases hb' with hb' | rfl
        · exact hP.lt _ _ h.1 hb'
        · exact lt_of_block h.2
    by_cases hd0 : d = 0
    · rw [ptree, if_pos hd0] at K2
      simp only [hd0, decide_true, if_true]
      rw [hd0] at hrow hP'
      refine prog_read (x := (fun j => match j with | 5 => .pointer (some ⟨bx, 0, none⟩) | 6 => .int .i64 i | 7 => .slice (some ⟨ba, oa, none⟩) l.length cp | 8 => .int .i64 l.length | 9 => .bool true | 12 => .slice (some ⟨ba, oa, none⟩) l.length cp | 13 => .int .i64 i | 14 => .pointer (some ⟨ba, oa + 3 * i, none⟩) | 15 => .agg #[.int .u8 0, .int .i64 k, .int .u64 v] | 16 => .pointer (some ⟨bx, 0, none⟩) | 17 => .int .u8 0 | 25 => .bool true | 26 => .bool true | j => x j)) (at' := k) (nx := fun u => ptree lst setL rest u) (setL := setL) hSh hmv rfl hx0 hx2 rfl hP' (fun w g h hs => ⟨(hrd w g h.1 hs).2.1, cell_of_row h.2 1⟩) (fun w g h hs => ⟨_, (hrd w g h.1 hs).2.2.1, (hrd w g h.1 hs).2.2.2.1⟩) (fun w g v' h hs => ⟨⟨(hwr w g v' h.1 hs).1, (ks_setCell w ⟨bq, oq, none⟩ (.int .u64 v')).row hbq h.2⟩, (hwr w g v' h.1 hs).2⟩) hsq (hstop _ _ (fun b hb => .inl hb) fun w h => h.1) ?_ hA2 hown2 ⟨hAw2, hrow⟩ hs2 K2
      intro y v' home n pl F col w g y0 y1 y2 y4 hA3 hown3 hA3' hs3 K3
      refine hcont y home n pl F col w (setL v' g) _ y0 y1 y2 y4 hA3 (fun b hb => hown3 b (.inl hb)) hA3'.1 hs3 ?_
      rw [hlst]; exact K3
    · simp only [hd0, decide_false, if_false, Bool.false_eq_true]
      refine Win.seq ?_
      refine Win.region ?_
      simp only [List.size_toArray, List.length_cons, List.length_nil, Nat.reduceAdd, List.range, List.range.loop]
      refine Win.pureOp (v := .bool (decide (d = 1))) (.inl hb) rfl rfl (fun w => by rw [Sem.runT_eq]; simp [go_sem, execOp, Act.eval]; try rfl) ?_
      simp only [Act.put, Act.eval, gtA, gtZ, gtS, siA, scS, scZ]
      refine Win.pureOp (v := .bool (decide (d = 1))) (.inl hb) rfl rfl (fun w => by rw [Sem.runT_eq]; simp [go_sem, execOp, Act.eval]; try rfl) ?_
      simp only [Act.put, Act.eval, gtA, gtZ, gtS, siA, scS, scZ]
      refine Win.opsEnd ?_
      refine Win.cond (t := decide (d = 1)) rfl ?_
      by_cases hd1 : d = 1
      · rw [ptree, if_neg hd0, if_pos hd1] at K2
        simp only [hd1, decide_true, if_true]
        rw [hd1] at hrow hP'
        refine prog_write (x := (fun j => match j with | 5 => .pointer (some ⟨bx, 0, none⟩) | 6 => .int .i64 i | 7 => .slice (some ⟨ba, oa, none⟩) l.length cp | 8 => .int .i64 l.length | 9 => .bool true | 12 => .slice (some ⟨ba, oa, none⟩) l.length cp | 13 => .int .i64 i | 14 => .pointer (some ⟨ba, oa + 3 * i, none⟩) | 15 => .agg #[.int .u8 1, .int .i64 k, .int .u64 v] | 16 => .pointer (some ⟨bx, 0, none⟩) | 17 => .int .u8 1 | 25 => .bool false | 26 => .bool false | 33 => .bool true | 34 => .bool true | j => x j)) (at' := k) (u := lst g) (v' := v) (T' := fun g => ptree lst setL rest (lst g)) hSh hmv rfl hx0 hx2 rfl hP' (fun w g h hs => ⟨(hrd w g h.1 hs).2.1, cell_of_row h.2 1, cell_of_row h.2 2⟩) (fun w h hs => (hrd w g h.1 hs).2.2.1) (hstop _ _ (fun b hb => .inl hb) fun w h => h.1) ?_ hA2 hown2 ⟨hAw2, hrow⟩ hs2 K2
        intro y home n pl F col w g y0 y1 y2 y4 hA3 hown3 hA3' hs3 K3
        exact hcont y home n pl F col w g _ y0 y1 y2 y4 hA3 (fun b hb => hown3 b (.inl hb)) hA3'.1 hs3 K3
      · rw [ptree, if_neg hd0, if_neg hd1] at K2
        simp only [hd1, decide_false, if_false, Bool.false_eq_true]
        refine prog_update (x := (fun j => match j with | 5 => .pointer (some ⟨bx, 0, none⟩) | 6 => .int .i64 i | 7 => .slice (some ⟨ba, oa, none⟩) l.length cp | 8 => .int .i64 l.length | 9 => .bool true | 12 => .slice (some ⟨ba, oa, none⟩) l.length cp | 13 => .int .i64 i | 14 => .pointer (some ⟨ba, oa + 3 * i, none⟩) | 15 => .agg #[.int .u8 d, .int .i64 k, .int .u64 v] | 16 => .pointer (some ⟨bx, 0, none⟩) | 17 => .int .u8 d | 25 => .bool false | 26 => .bool false | 33 => .bool false | 34 => .bool false | j => x j)) (at' := k) (φ := fun z => IntKind.wrap .u64 (z + v)) (nx := fun u => ptree lst setL rest u) (setL := setL) hSh hmv rfl hx0 hx2 rfl hP' (fun w g h hs => ⟨(hrd w g h.1 hs).2.1, cell_of_row h.2 1⟩) (fun w g h hs => ⟨_, (hrd w g h.1 hs).2.2.1, (hrd w g h.1 hs).2.2.2.1⟩) (fun w g v' h hs => ⟨⟨(hwr w g v' h.1 hs).1, (ks_setCell w ⟨bq, oq, none⟩ (.int .u64 v')).row hbq h.2⟩, (hwr w g v' h.1 hs).2⟩) hsq (fun w' z h _ _ => prog_adds (cell_of_row h.2 2)) (hstop _ _ (fun b hb => .inl hb) fun w h => h.1) ?_ hA2 hown2 ⟨hAw2, hrow⟩ hs2 K2
        intro y v' home n pl F col w g y0 y1 y2 y4 hA3 hown3 hA3' hs3 K3
        refine hcont y home n pl F col w (setL v' g) _ y0 y1 y2 y4 hA3 (fun b hb => hown3 b (.inl hb)) hA3'.1 hs3 ?_
        rw [hlst]; exact K3
end
end Go.Proofs.Ytnbibpmhmffmpaa

namespace Go.Proofs.Ytnbibpmhmffmpaa
open List renaming getElem_toArray → gtA, getElem_cons_zero → gtZ, getElem_cons_succ → gtS, setIfInBounds_toArray → siA, set_cons_succ → scS, set_cons_zero → scZ, getElem?_toArray → gqA, getElem?_cons_zero → gqZ, getElem?_cons_succ → gqS
set_option linter.unusedVariables false
set_option linter.unusedSimpArgs false
set_option maxRecDepth 100000
open Go.Conc Go.RowKit
open Go.ConcN (upd_ne upd_same)

section
variable {G : Type} {Post : Value → World → Prop} {Sh : World → G → Prop} {SB : Nat → Prop} {pA rA : Nat} {a : Ag} {mv : Value} {home : Goroutine → Prop} {n : Nat} {T : Tree G} {runs ov : Bool}
variable {pl : Nat → Option Place} {F : Nat → Option (Nat × Nat)} {col : Nat → Col} {w : World} {g : G}

/-- THE PROGRAM. -/
theorem prog_runs (hSh : ∀ g, Priv SB (fun w => Sh w g)) (hmv : mv = memV pA) {bl bp ba oa cp bq oq b1 b2 : Nat} {l : List (Int × Int × Int)} {lst : G → Int} {setL : Int → G → G} {own : Nat → Prop} {A : World → Prop} {gf : FuncId} {cap : Array Value}
    (hP : Priv own A) (hrd : ∀ w g, A w → Sh w g → w.cell? ⟨bl, 0, none⟩ = some (.slice (some ⟨ba, oa, none⟩) l.length cp) ∧ w.cell? ⟨bp, 0, none⟩ = some (.pointer (some ⟨bq, oq, none⟩)) ∧ w.cell? ⟨bq, oq, none⟩ = some (.int .u64 (lst g)) ∧ w.frozen? ⟨bq, oq, none⟩ = false ∧
      ∀ i d k v, l[i]? = some (d, k, v) → w.cell? ⟨ba, oa + 3 * i, none⟩ = some (.int .u8 d) ∧ w.cell? ⟨ba, oa + 3 * i + 1, none⟩ = some (.int .i64 k) ∧ w.cell? ⟨ba, oa + 3 * i + 2, none⟩ = some (.int .u64 v))
    (hwr : ∀ w g v, A w → Sh w g → A (w.setCell ⟨bq, oq, none⟩ (.int .u64 v)) ∧ Sh (w.setCell ⟨bq, oq, none⟩ (.int .u64 v)) (setL v g)) (hlst : ∀ v g, lst (setL v g) = v) (hsq : SB bq) (hbox : ∀ w, A w → Boxed a b1 b2 w) (hlen : l.length < 1073741824)
    (hA : Acts SB pA rA a mv home true false pl F col w) (hown : ∀ b, own b → col b = .ag a.j) (hAw : A w) (hs : Sh w g) (K0 : Kont Post Sh SB pA rA a mv home n (ptree lst setL l (lst g)) pl F col w g) :
    Win Try.prog Post pl n a.j (gor (Frame.enter Try.prog 47 (#[.iface 136 (.pointer (some ⟨a.m, 0, none⟩))] ++ #[.pointer (some ⟨bl, 0, none⟩), .pointer (some ⟨bp, 0, none⟩)]) .normal) [runFr Try.prog Try.f45 a.p a.m b1 b2 gf cap, rootFr Try.prog]) w := by
  have hb : (Frame.enter Try.prog 47 (#[.iface 136 (.pointer (some ⟨a.m, 0, none⟩))] ++ #[.pointer (some ⟨bl, 0, none⟩), .pointer (some ⟨bp, 0, none⟩)]) .normal).kind = .normal := rfl
  have hloop := prog_loop (Post := Post) (args := #[.iface 136 (.pointer (some ⟨a.m, 0, none⟩))] ++ #[.pointer (some ⟨bl, 0, none⟩), .pointer (some ⟨bp, 0, none⟩)]) (gf := gf) (cap := cap) hSh hmv hP hrd hwr hlst hsq hbox hlen _ rfl l 0 rfl (Nat.zero_le _) (fun j => match j with | 0 => .iface 136 (.pointer (some ⟨a.m, 0, none⟩)) | 1 => .pointer (some ⟨bl, 0, none⟩) | 2 => .pointer (some ⟨bp, 0, none⟩) | 4 => .int .i64 0 | _ => undef) home n pl F col w g rfl rfl rfl rfl hA hown hAw hs K0
  rw [enter_at Try.func47 rfl]
  simp only [Try.ntmps47, List.size_toArray, List.length_cons, List.length_nil, Nat.reduceAdd, Nat.reduceSub, Array.replicate_succ, Array.replicate_zero, List.push_toArray, List.append_toArray, List.nil_append, List.cons_append] at hb ⊢
  refine Win.seq ?_
  refine Win.region ?_
  simp only [List.size_toArray, List.length_cons, List.length_nil, Nat.reduceAdd, List.range, List.range.loop]
  refine Win.pureOp (v := .int .i64 0) (.inl hb) rfl rfl (fun w => rfl) ?_
  simp only [Act.put, Act.eval, gtA, gtZ, gtS, siA, scS, scZ]
  refine Win.opsEnd ?_
  refine Win.block ?_
  refine Win.loop ?_
  exact hloop
end

theorem done_at (w : World) (p : Nat) (o : Bool) (h : w.cell? ⟨p, 6, none⟩ = some (.bool o)) : Calls Try.prog 16 #[.pointer (some ⟨p, 0, none⟩)] w fun e w' => e = .returned (.bool o) ∧ w' = w := by
  go_enter Try.func16, Try.ntmps16
  go_wp2
  simp [bodyPost, results, Try.results16]
theorem step_over (w : World) (p : Nat) (h6 : w.cell? ⟨p, 6, none⟩ = some (.bool true)) : Calls Try.prog 15 #[.pointer (some ⟨p, 0, none⟩)] w fun e w' => e = .returned (.int .i64 6) ∧ Kp [] w w' := by
  have hlt : p < w.heap.size := World.block_lt_of_cell? _ _ h6
  have h6' := alloc_cell w (.cells #[.pointer (some ⟨p, 0, none⟩)] 33) h6
  go_enter Try.func15, Try.ntmps15
  go_wp2
  simp [bodyPost, results, Try.results15]
  exact (Kp.refl [] w).alloc _
theorem program_makes (w : World) (la qa : Addr) (n c : Nat) : Calls Try.prog 12 #[.slice (some la) n c, .pointer (some qa)] w fun e w' => e = .returned (.func (.func 47) #[] #[.pointer (some ⟨w.heap.size, 0, none⟩), .pointer (some ⟨w.heap.size + 1, 0, none⟩)]) ∧ w' = (w.alloc (.cells #[.slice (some la) n c] 38)).alloc (.cells #[.pointer (some qa)] 39) := by
  go_enter Try.func12, Try.ntmps12
  go_wp2
  simp [bodyPost, results, Try.results12]
end Go.Proofs.Ytnbibpmhmffmpaa
