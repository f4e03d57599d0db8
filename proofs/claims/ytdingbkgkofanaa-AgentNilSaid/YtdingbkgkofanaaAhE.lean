/- The law's own program: a list of touches, one by one: a read, a write, an update, each in its region, which draws its order. Written by gen/ah_e.py. Conditions: as each theorem states them. -/
import Derived.Test.YtdingbkgkofanaaAhD
namespace Go.Proofs.Ytdingbkgkofanaa
set_option linter.unusedVariables false
set_option linter.unusedSimpArgs false
set_option maxRecDepth 100000
open Go.Conc
open Go.ConcN (upd_ne upd_same)

def T48 (x : Nat → Value) : Array Value := #[x 0, x 1, x 2, x 3, x 4, x 5, x 6, x 7, x 8, x 9, x 10, x 11, x 12, x 13, x 14, x 15, x 16, x 17, x 18, x 19, x 20, x 21, x 22, x 23, x 24, x 25, x 26, x 27, x 28, x 29, x 30, x 31, x 32, x 33, x 34, x 35, x 36, x 37, x 38, x 39, x 40, x 41, x 42, x 43, x 44, x 45, x 46, x 47]
def blockOf : Code → Code
  | .block _ c => c
  | c => c
def loopOf : Code → Code
  | .loop c => c
  | c => c
def condE : Code → Code
  | .cond _ _ c => c
  | c => c
def progX (f : Func) : Code := loopOf (blockOf (codeR (bodyOf f)))
def progC (f : Func) : Code := blockOf (codeR (codeR (blockOf (codeL (codeR (loopOf (blockOf (codeR (bodyOf f)))))))))
def progD (f : Func) : Code := condE (codeR (progC f))
def progR (f : Func) : Code := condT (codeR (progC f))
def progW (f : Func) : Code := condT (codeR (progD f))
def progU (f : Func) : Code := condE (codeR (progD f))

/-- How all stands within a region. -/
structure PC (G : Type) where
  home : Goroutine → Prop
  n : Nat
  pl : Nat → Option Place
  F : Nat → Option (Nat × Nat)
  col : Nat → Col
  w : World
  g : G
  v : Int

section
variable {G : Type} {Post : Value → World → Prop} {Sh : World → G → Prop} {SB : Nat → Prop} {pA rA : Nat} {a : Ag} {mv : Value} {home : Goroutine → Prop} {n : Nat} {T : Tree G} {runs ov : Bool}
variable {pl pl' : Nat → Option Place} {F F' : Nat → Option (Nat × Nat)} {col col' : Nat → Col} {w w' : World} {g : G}

theorem Acts.free_shared (h : Acts SB pA rA a mv home runs ov pl F col w) {q : Addr} {x : Value} (hq : SB q.block) (hc : w.cell? q = some x) : Free pl q := by
  have hF : F q.block = none := h.lay.free _ (by rw [h.lay.sb _ hq]; rfl)
  refine ⟨fun i s v hi hs => ?_, fun i s c hi hs e => ?_⟩
  · obtain ⟨lo, hi', z, _, _⟩ := h.lies.still i s _ v hi hs
    rw [hF] at z; cases z
  · obtain ⟨_, _, _, _, _, _, hh⟩ := h.lies.chans i s c hi hs
    rw [e] at hh
    unfold World.cell? at hc
    rw [hh] at hc; cases hc

set_option maxHeartbeats 2000000 in
/-- A READ of the program. -/
theorem prog_read (hSh : ∀ g, Priv SB (fun w => Sh w g)) (hmv : mv = memV pA) {b : Frame} (hb : b.kind = .normal) {k : List Item} {cs : List Frame} {x : Nat → Value} {bp bq oq bx : Nat} {at' : Int} {setL : Int → G → G} {nx : Int → Tree G} {hl : G → G} {own : Nat → Prop} {A : World → Prop}
    (hx0 : x 0 = .iface 97 (.pointer (some ⟨a.m, 0, none⟩))) (hx2 : x 2 = .pointer (some ⟨bp, 0, none⟩)) (hx5 : x 5 = .pointer (some ⟨bx, 0, none⟩))
    (hP : Priv own A) (hrd : ∀ w g, A w → Sh w g → w.cell? ⟨bp, 0, none⟩ = some (.pointer (some ⟨bq, oq, none⟩)) ∧ w.cell? ⟨bx, 1, none⟩ = some (.int .i64 at') )
    (hq : ∀ w g, A w → Sh w g → ∃ u, w.cell? ⟨bq, oq, none⟩ = some (.int .u64 u) ∧ w.frozen? ⟨bq, oq, none⟩ = false) (hwr : ∀ w g v, A w → Sh w g → A (w.setCell ⟨bq, oq, none⟩ (.int .u64 v)) ∧ Sh (w.setCell ⟨bq, oq, none⟩ (.int .u64 v)) (setL v g)) (hsq : SB bq)
    (hstop : ∀ home n pl F col w g ac k, ac.defers = [] → Ends SB pA rA a mv home pl F col w → (∀ b, own b → col b = .ag a.j) → A w → Sh w g → Kont Post Sh SB pA rA a mv home n .ret pl F col w (hl g) → Win Try.prog Post pl n a.j (gor ((b.at ac k).raise [haltE]) cs) w)
    (cont : ∀ y v home n pl F col w g, y 0 = x 0 → y 1 = x 1 → y 2 = x 2 → y 4 = x 4 → Acts SB pA rA a mv home true false pl F col w → (∀ b, own b → col b = .ag a.j) → A w → Sh w (setL v g) → Kont Post Sh SB pA rA a mv home n (nx v) pl F col w (setL v g) → Win Try.prog Post pl n a.j (gor (b.at ⟨T48 y, []⟩ (.inRegion (regOps (progR Try.f38)) [] :: k)) cs) w)
    (hA : Acts SB pA rA a mv home true false pl F col w) (hown : ∀ b, own b → col b = .ag a.j) (hAw : A w) (hs : Sh w g) (K : Kont Post Sh SB pA rA a mv home n (.node at' (fun z => z) (fun v g => setL v g) (fun v _ => nx v) hl) pl F col w g) :
    Win Try.prog Post pl n a.j (gor (b.at ⟨T48 x, []⟩ (.code (progR Try.f38) :: k)) cs) w := by
  simp only [bodyOf, Try.f38, codeL, codeR, regOps, blockOf, loopOf, condT, condE, progR, progW, progU, progC, progD, Option.getD_some]
  refine Win.anyFill (C := PC G) (Goal := fun c fr => Win Try.prog Post c.pl c.n a.j (gor fr cs) c.w) mixed (by kernel_rfl) (fun c i => match i with | 0 => .pointer (some ⟨bq, oq, none⟩) | 1 => x 0 | 2 => .pointer (some ⟨bx, 1, none⟩) | 3 => .int .i64 at' | 4 => .int .u64 c.v | 5 => .pointer (some ⟨bq, oq, none⟩) | _ => undef) (fun c => (⟨#[x 0, x 1, x 2, x 3, x 4, x 5, x 6, x 7, x 8, x 9, x 10, x 11, x 12, x 13, x 14, x 15, x 16, x 17, x 18, x 19, x 20, x 21, x 22, x 23, x 24, x 25, x 26, .pointer (some ⟨bq, oq, none⟩), x 0, .pointer (some ⟨bx, 1, none⟩), .int .i64 at', .int .u64 c.v, .pointer (some ⟨bq, oq, none⟩), x 33, x 34, x 35, x 36, x 37, x 38, x 39, x 40, x 41, x 42, x 43, x 44, x 45, x 46, x 47], []⟩ : Act)) (fun c => by simp only [T48, fillAll, List.size_toArray, List.length_cons, List.length_nil, Nat.reduceAdd, List.range, List.range.loop, List.foldl_cons, List.foldl_nil, List.getElem?_toArray, List.getElem?_cons_zero, List.getElem?_cons_succ, Option.bind_some, Option.bind_none, Act.put, List.setIfInBounds_toArray, List.set_cons_succ, List.set_cons_zero]) (fun X c => Acts SB pA rA a mv c.home true false c.pl c.F c.col c.w ∧ (∀ b, own b → c.col b = .ag a.j) ∧ A c.w ∧ (X.getD 4 false = false → X.getD 6 false = false → Sh c.w c.g ∧ Kont Post Sh SB pA rA a mv c.home c.n (.node at' (fun z => z) (fun v g => setL v g) (fun v _ => nx v) hl) c.pl c.F c.col c.w c.g) ∧ (X.getD 4 false = true → X.getD 6 false = false → Sh c.w c.g ∧ Kont Post Sh SB pA rA a mv c.home c.n (nx c.v) c.pl c.F c.col c.w (setL c.v c.g)) ∧ (X.getD 6 false = true → Sh c.w (setL c.v c.g) ∧ Kont Post Sh SB pA rA a mv c.home c.n (nx c.v) c.pl c.F c.col c.w (setL c.v c.g))) ⟨home, n, pl, F, col, w, g, 0⟩ (fun fr hh => hh) ?_ ?_ ⟨hA, hown, hAw, fun _ _ => ⟨hs, K⟩, fun z => by simp at z, fun z => by simp at z⟩
  · intro X i o hX ho hx hr c a' L' hJ hcl hL'' hfl e1 e2 hd hn
    have hsome : ∃ g', Sh c.w g' ∧ True := by
      cases h4 : X.getD 4 false
      · cases h6 : X.getD 6 false
        · exact ⟨_, (hJ.2.2.2.1 h4 h6).1, trivial⟩
        · exact ⟨_, (hJ.2.2.2.2.2 h6).1, trivial⟩
      · cases h6 : X.getD 6 false
        · exact ⟨_, (hJ.2.2.2.2.1 h4 h6).1, trivial⟩
        · exact ⟨_, (hJ.2.2.2.2.2 h6).1, trivial⟩
    obtain ⟨g', hg', hgg⟩ := hsome
    obtain ⟨r1, r2⟩ := hrd _ _ hJ.2.2.1 hg'
    rcases i with _ | _ | _ | _ | _ | _ | _ | i
    · obtain rfl := Option.some.inj ho
      refine Win.op (v := .pointer (some ⟨bq, oq, none⟩)) (.inl hb) rfl rfl (fun d => ⟨#[⟨.cell ⟨bp, 0, none⟩, false, false⟩], by rw [e1, Sem.runT_eq]; have hc : (World.at c.w d).cell? ⟨bp, 0, none⟩ = _ := r1; generalize World.at c.w d = W at hc ⊢; simp [go_sem, execOp, Act.eval, hc, hx2, hx5], fun e he => by obtain rfl : e = ⟨.cell ⟨bp, 0, none⟩, false, false⟩ := (by simpa using he); exact ⟨rfl, fun m => by simp⟩⟩) (hn c (fun _ _ => rfl) ⟨hJ.1, hJ.2.1, hJ.2.2.1, fun z z' => hJ.2.2.2.1 (by rw [getD_set_ne false (by decide)] at z; exact z) (by rw [getD_set_ne false (by decide)] at z'; exact z'), fun z z' => hJ.2.2.2.2.1 (by rw [getD_set_ne false (by decide)] at z; exact z) (by rw [getD_set_ne false (by decide)] at z'; exact z'), fun z => hJ.2.2.2.2.2 (by rw [getD_set_ne false (by decide)] at z; exact z)⟩)
    · obtain rfl := Option.some.inj ho
      refine Win.op (v := x 0) (.inl hb) rfl rfl (fun d => ⟨#[], by rw [e1, Sem.runT_eq]; simp [go_sem, execOp, Act.eval]; try (first | rfl | exact ⟨rfl, rfl⟩ | kernel_rfl), fun e he => by simp at he⟩) (hn c (fun _ _ => rfl) ⟨hJ.1, hJ.2.1, hJ.2.2.1, fun z z' => hJ.2.2.2.1 (by rw [getD_set_ne false (by decide)] at z; exact z) (by rw [getD_set_ne false (by decide)] at z'; exact z'), fun z z' => hJ.2.2.2.2.1 (by rw [getD_set_ne false (by decide)] at z; exact z) (by rw [getD_set_ne false (by decide)] at z'; exact z'), fun z => hJ.2.2.2.2.2 (by rw [getD_set_ne false (by decide)] at z; exact z)⟩)
    · obtain rfl := Option.some.inj ho
      refine Win.op (v := .pointer (some ⟨bx, 1, none⟩)) (.inl hb) rfl rfl (fun d => ⟨#[], by rw [e1, Sem.runT_eq]; simp [go_sem, execOp, Act.eval, hx5]; try (first | rfl | exact ⟨rfl, rfl⟩ | kernel_rfl), fun e he => by simp at he⟩) (hn c (fun _ _ => rfl) ⟨hJ.1, hJ.2.1, hJ.2.2.1, fun z z' => hJ.2.2.2.1 (by rw [getD_set_ne false (by decide)] at z; exact z) (by rw [getD_set_ne false (by decide)] at z'; exact z'), fun z z' => hJ.2.2.2.2.1 (by rw [getD_set_ne false (by decide)] at z; exact z) (by rw [getD_set_ne false (by decide)] at z'; exact z'), fun z => hJ.2.2.2.2.2 (by rw [getD_set_ne false (by decide)] at z; exact z)⟩)
    · obtain rfl := Option.some.inj ho
      refine Win.op (v := .int .i64 at') (.inl hb) rfl rfl (fun d => ⟨#[⟨.cell ⟨bx, 1, none⟩, false, false⟩], by rw [e1, Sem.runT_eq]; have hc : (World.at c.w d).cell? ⟨bx, 1, none⟩ = _ := r2; generalize World.at c.w d = W at hc ⊢; simp [go_sem, execOp, Act.eval, hc, hx2, hx5], fun e he => by obtain rfl : e = ⟨.cell ⟨bx, 1, none⟩, false, false⟩ := (by simpa using he); exact ⟨rfl, fun m => by simp⟩⟩) (hn c (fun _ _ => rfl) ⟨hJ.1, hJ.2.1, hJ.2.2.1, fun z z' => hJ.2.2.2.1 (by rw [getD_set_ne false (by decide)] at z; exact z) (by rw [getD_set_ne false (by decide)] at z'; exact z'), fun z z' => hJ.2.2.2.2.1 (by rw [getD_set_ne false (by decide)] at z; exact z) (by rw [getD_set_ne false (by decide)] at z'; exact z'), fun z => hJ.2.2.2.2.2 (by rw [getD_set_ne false (by decide)] at z; exact z)⟩)
    · obtain rfl := Option.some.inj ho
      have hx' : X.getD 4 false = false := by
        have hlt : 4 < X.size := by rw [hX]; decide
        simpa [hlt] using hx
      have h6 : X.getD 6 false = false := by
        cases h : X.getD 6 false with
        | false => rfl
        | true => have := hcl 6 _ rfl h { on := 4, ground := Ground.data } (by simp) rfl; rw [hx'] at this; cases this
      obtain ⟨hsc, hK⟩ := hJ.2.2.2.1 hx' h6
      refine Win.enter (f := 83) (args := #[.pointer (some ⟨a.m, 0, none⟩), .int .i64 at']) (.inl hb) rfl rfl (fun d => ⟨#[], by rw [e1]; simp only [hx0]; kernel_rfl, fun e he => by simp at he⟩) ?_
      refine bread hSh hmv hJ.1 hJ.2.1 hP hJ.2.2.1 hsc ?_ ?_ hK
      · intro v home' n' pl' F' col' w' g2 hA2 ho2 hA2' hs2 K2
        rw [Frame.finish_at]
        refine hn ⟨home', n', pl', F', col', w', g2, v⟩ (fun j hj => ?_) ⟨hA2, ho2, hA2', fun z => (by rw [getD_set_self (by rw [hX]; decide)] at z; cases z), fun _ _ => ⟨hs2, K2⟩, fun z => by rw [getD_set_ne false (by decide), h6] at z; cases z⟩
        rcases j with _ | _ | _ | _ | _ | _ | j
        · rfl
        · rfl
        · rfl
        · rfl
        · rw [hx'] at hj; cases hj
        · rfl
        · rfl
      · intro home' n' pl' F' col' w' g2 hE ho2 hA2' hs2 K2
        exact hstop home' n' pl' F' col' w' g2 _ _ hd hE ho2 hA2' hs2 K2
    · obtain rfl := Option.some.inj ho
      refine Win.op (v := .pointer (some ⟨bq, oq, none⟩)) (.inl hb) rfl rfl (fun d => ⟨#[], by rw [e1, Sem.runT_eq]; simp [go_sem, execOp, Act.eval]; try (first | rfl | exact ⟨rfl, rfl⟩ | kernel_rfl), fun e he => by simp at he⟩) (hn c (fun _ _ => rfl) ⟨hJ.1, hJ.2.1, hJ.2.2.1, fun z z' => hJ.2.2.2.1 (by rw [getD_set_ne false (by decide)] at z; exact z) (by rw [getD_set_ne false (by decide)] at z'; exact z'), fun z z' => hJ.2.2.2.2.1 (by rw [getD_set_ne false (by decide)] at z; exact z) (by rw [getD_set_ne false (by decide)] at z'; exact z'), fun z => hJ.2.2.2.2.2 (by rw [getD_set_ne false (by decide)] at z; exact z)⟩)
    · obtain rfl := Option.some.inj ho
      have hx' : X.getD 6 false = false := by
        have hlt : 6 < X.size := by rw [hX]; decide
        simpa [hlt] using hx
      have g4 := hr { on := 4, ground := Ground.data } (by simp) rfl
      obtain ⟨hsc, hK⟩ := hJ.2.2.2.2.1 g4 hx'
      obtain ⟨u, hu, hf⟩ := hq _ _ hJ.2.2.1 hsc
      obtain ⟨hA3, hM3⟩ := hJ.1.turn (ks_setCell c.w ⟨bq, oq, none⟩ (.int .u64 c.v)) (hJ.1.lies.setCell _ _) (fun b hb' => .inr (by
        have e : b = bq := hb'
        rw [e]; exact hJ.1.lay.sb _ hsq))
      refine Win.storeOp (ad := ⟨bq, oq, none⟩) (x := .int .u64 c.v) (.inl hb) rfl rfl (hJ.1.free_shared hsq hu) (fun d => ?_) ?_
      · rw [e1, Sem.runT_eq]
        have c1 : (c.w.at d).cell? ⟨bq, oq, none⟩ = some (.int .u64 u) := hu
        have c2 : (c.w.at d).frozen? ⟨bq, oq, none⟩ = false := hf
        generalize c.w.at d = W at c1 c2 ⊢
        obtain ⟨s1, s2⟩ := store_ok (P := Try.prog) (x := .int .u64 c.v) (w := W) (m := .plain) (by simp) (by simp) c1 c2
        simp [go_sem, execOp, Act.eval, s1, s2, c1, c2]
      · obtain ⟨w1, w2⟩ := hwr _ _ c.v hJ.2.2.1 hsc
        refine hn ⟨c.home, c.n, c.pl, c.F, grown a.j c.col c.w (c.w.setCell ⟨bq, oq, none⟩ (.int .u64 c.v)), c.w.setCell ⟨bq, oq, none⟩ (.int .u64 c.v), c.g, c.v⟩ (fun j hj => rfl) ⟨hA3, fun b hb' => grown_ag hJ.1.lay (hJ.2.1 b hb'), w1, fun _ z => (by rw [getD_set_self (by rw [hX]; decide)] at z; cases z), fun _ z => (by rw [getD_set_self (by rw [hX]; decide)] at z; cases z), fun _ => ⟨w2, Kont.moves hM3 hK⟩⟩
    · simp at ho
  · intro X c hall hJ
    obtain ⟨z1, z2⟩ := hJ.2.2.2.2.2 (hall 6 (by simp))
    exact cont (fun i => match i with | 27 => .pointer (some ⟨bq, oq, none⟩) | 28 => x 0 | 29 => .pointer (some ⟨bx, 1, none⟩) | 30 => .int .i64 at' | 31 => .int .u64 c.v | 32 => .pointer (some ⟨bq, oq, none⟩) | i => x i) c.v c.home c.n c.pl c.F c.col c.w c.g rfl rfl rfl rfl hJ.1 hJ.2.1 hJ.2.2.1 z1 z2
set_option maxHeartbeats 2000000 in
/-- A WRITE of the program. -/
theorem prog_write (hSh : ∀ g, Priv SB (fun w => Sh w g)) (hmv : mv = memV pA) {b : Frame} (hb : b.kind = .normal) {k : List Item} {cs : List Frame} {x : Nat → Value} {bp bq oq bx : Nat} {at' : Int} {u v' : Int} {T' : G → Tree G} {hl : G → G} {own : Nat → Prop} {A : World → Prop}
    (hx0 : x 0 = .iface 97 (.pointer (some ⟨a.m, 0, none⟩))) (hx2 : x 2 = .pointer (some ⟨bp, 0, none⟩)) (hx5 : x 5 = .pointer (some ⟨bx, 0, none⟩))
    (hP : Priv own A) (hrd : ∀ w g, A w → Sh w g → w.cell? ⟨bp, 0, none⟩ = some (.pointer (some ⟨bq, oq, none⟩)) ∧ w.cell? ⟨bx, 1, none⟩ = some (.int .i64 at') ∧ w.cell? ⟨bx, 2, none⟩ = some (.int .u64 v'))
    (hlst : ∀ w, A w → Sh w g → w.cell? ⟨bq, oq, none⟩ = some (.int .u64 u))
    (hstop : ∀ home n pl F col w g ac k, ac.defers = [] → Ends SB pA rA a mv home pl F col w → (∀ b, own b → col b = .ag a.j) → A w → Sh w g → Kont Post Sh SB pA rA a mv home n .ret pl F col w (hl g) → Win Try.prog Post pl n a.j (gor ((b.at ac k).raise [haltE]) cs) w)
    (cont : ∀ y home n pl F col w g, y 0 = x 0 → y 1 = x 1 → y 2 = x 2 → y 4 = x 4 → Acts SB pA rA a mv home true false pl F col w → (∀ b, own b → col b = .ag a.j) → A w → Sh w g → Kont Post Sh SB pA rA a mv home n (T' g) pl F col w g → Win Try.prog Post pl n a.j (gor (b.at ⟨T48 y, []⟩ (.inRegion (regOps (progW Try.f38)) [] :: k)) cs) w)
    (hA : Acts SB pA rA a mv home true false pl F col w) (hown : ∀ b, own b → col b = .ag a.j) (hAw : A w) (hs : Sh w g) (K : Kont Post Sh SB pA rA a mv home n (.node at' (fun _ => IntKind.wrap .u64 (u + v')) (fun _ g => g) (fun _ g => T' g) hl) pl F col w g) :
    Win Try.prog Post pl n a.j (gor (b.at ⟨T48 x, []⟩ (.code (progW Try.f38) :: k)) cs) w := by
  simp only [bodyOf, Try.f38, codeL, codeR, regOps, blockOf, loopOf, condT, condE, progR, progW, progU, progC, progD, Option.getD_some]
  refine Win.anyFill (C := PC G) (Goal := fun c fr => Win Try.prog Post c.pl c.n a.j (gor fr cs) c.w) mixed (by kernel_rfl) (fun c i => match i with | 0 => x 0 | 1 => .pointer (some ⟨bx, 1, none⟩) | 2 => .int .i64 at' | 3 => .pointer (some ⟨bq, oq, none⟩) | 4 => .pointer (some ⟨bq, oq, none⟩) | 5 => .int .u64 u | 6 => .pointer (some ⟨bx, 2, none⟩) | 7 => .int .u64 v' | 8 => .int .u64 (IntKind.wrap .u64 (u + v')) | 9 => .func (.method "Write") #[x 0] #[] | 10 => .func (.method "Write") #[x 0] #[] | 11 => x 0 | 12 => .tuple #[] | _ => undef) (fun c => (⟨#[x 0, x 1, x 2, x 3, x 4, x 5, x 6, x 7, x 8, x 9, x 10, x 11, x 12, x 13, x 14, x 15, x 16, x 17, x 18, x 19, x 20, x 21, x 22, x 23, x 24, x 25, x 26, x 27, x 28, x 29, x 30, x 31, x 32, x 33, x 34, x 0, .pointer (some ⟨bx, 1, none⟩), .int .i64 at', .pointer (some ⟨bq, oq, none⟩), .pointer (some ⟨bq, oq, none⟩), .int .u64 u, .pointer (some ⟨bx, 2, none⟩), .int .u64 v', .int .u64 (IntKind.wrap .u64 (u + v')), .func (.method "Write") #[x 0] #[], .func (.method "Write") #[x 0] #[], x 0, .tuple #[]], []⟩ : Act)) (fun c => by simp only [T48, fillAll, List.size_toArray, List.length_cons, List.length_nil, Nat.reduceAdd, List.range, List.range.loop, List.foldl_cons, List.foldl_nil, List.getElem?_toArray, List.getElem?_cons_zero, List.getElem?_cons_succ, Option.bind_some, Option.bind_none, Act.put, List.setIfInBounds_toArray, List.set_cons_succ, List.set_cons_zero]) (fun X c => Acts SB pA rA a mv c.home true false c.pl c.F c.col c.w ∧ (∀ b, own b → c.col b = .ag a.j) ∧ A c.w ∧ (X.getD 12 false = false → c.g = g ∧ Sh c.w c.g ∧ Kont Post Sh SB pA rA a mv c.home c.n (.node at' (fun _ => IntKind.wrap .u64 (u + v')) (fun _ g => g) (fun _ g => T' g) hl) c.pl c.F c.col c.w c.g) ∧ (X.getD 12 false = true → Sh c.w c.g ∧ Kont Post Sh SB pA rA a mv c.home c.n (T' c.g) c.pl c.F c.col c.w c.g)) ⟨home, n, pl, F, col, w, g, 0⟩ (fun fr hh => hh) ?_ ?_ ⟨hA, hown, hAw, fun _ => ⟨rfl, hs, K⟩, fun z => by simp at z⟩
  · intro X i o hX ho hx hr c a' L' hJ hcl hL'' hfl e1 e2 hd hn
    have hsome : ∃ g', Sh c.w g' ∧ (X.getD 12 false = false → g' = c.g) := by
      cases h4 : X.getD 12 false
      · exact ⟨_, (hJ.2.2.2.1 h4).2.1, fun _ => rfl⟩
      · exact ⟨_, (hJ.2.2.2.2 h4).1, fun z => by cases z⟩
    obtain ⟨g', hg', hgg⟩ := hsome
    obtain ⟨r1, r2, r3⟩ := hrd _ _ hJ.2.2.1 hg'
    rcases i with _ | _ | _ | _ | _ | _ | _ | _ | _ | _ | _ | _ | _ | i
    · obtain rfl := Option.some.inj ho
      refine Win.op (v := x 0) (.inl hb) rfl rfl (fun d => ⟨#[], by rw [e1, Sem.runT_eq]; simp [go_sem, execOp, Act.eval]; try (first | rfl | exact ⟨rfl, rfl⟩ | kernel_rfl), fun e he => by simp at he⟩) (hn c (fun _ _ => rfl) ⟨hJ.1, hJ.2.1, hJ.2.2.1, fun z => hJ.2.2.2.1 (by rw [getD_set_ne false (by decide)] at z; exact z), fun z => hJ.2.2.2.2 (by rw [getD_set_ne false (by decide)] at z; exact z)⟩)
    · obtain rfl := Option.some.inj ho
      refine Win.op (v := .pointer (some ⟨bx, 1, none⟩)) (.inl hb) rfl rfl (fun d => ⟨#[], by rw [e1, Sem.runT_eq]; simp [go_sem, execOp, Act.eval, hx5]; try (first | rfl | exact ⟨rfl, rfl⟩ | kernel_rfl), fun e he => by simp at he⟩) (hn c (fun _ _ => rfl) ⟨hJ.1, hJ.2.1, hJ.2.2.1, fun z => hJ.2.2.2.1 (by rw [getD_set_ne false (by decide)] at z; exact z), fun z => hJ.2.2.2.2 (by rw [getD_set_ne false (by decide)] at z; exact z)⟩)
    · obtain rfl := Option.some.inj ho
      refine Win.op (v := .int .i64 at') (.inl hb) rfl rfl (fun d => ⟨#[⟨.cell ⟨bx, 1, none⟩, false, false⟩], by rw [e1, Sem.runT_eq]; have hc : (World.at c.w d).cell? ⟨bx, 1, none⟩ = _ := r2; generalize World.at c.w d = W at hc ⊢; simp [go_sem, execOp, Act.eval, hc, hx2, hx5], fun e he => by obtain rfl : e = ⟨.cell ⟨bx, 1, none⟩, false, false⟩ := (by simpa using he); exact ⟨rfl, fun m => by simp⟩⟩) (hn c (fun _ _ => rfl) ⟨hJ.1, hJ.2.1, hJ.2.2.1, fun z => hJ.2.2.2.1 (by rw [getD_set_ne false (by decide)] at z; exact z), fun z => hJ.2.2.2.2 (by rw [getD_set_ne false (by decide)] at z; exact z)⟩)
    · obtain rfl := Option.some.inj ho
      refine Win.op (v := .pointer (some ⟨bq, oq, none⟩)) (.inl hb) rfl rfl (fun d => ⟨#[⟨.cell ⟨bp, 0, none⟩, false, false⟩], by rw [e1, Sem.runT_eq]; have hc : (World.at c.w d).cell? ⟨bp, 0, none⟩ = _ := r1; generalize World.at c.w d = W at hc ⊢; simp [go_sem, execOp, Act.eval, hc, hx2, hx5], fun e he => by obtain rfl : e = ⟨.cell ⟨bp, 0, none⟩, false, false⟩ := (by simpa using he); exact ⟨rfl, fun m => by simp⟩⟩) (hn c (fun _ _ => rfl) ⟨hJ.1, hJ.2.1, hJ.2.2.1, fun z => hJ.2.2.2.1 (by rw [getD_set_ne false (by decide)] at z; exact z), fun z => hJ.2.2.2.2 (by rw [getD_set_ne false (by decide)] at z; exact z)⟩)
    · obtain rfl := Option.some.inj ho
      refine Win.op (v := .pointer (some ⟨bq, oq, none⟩)) (.inl hb) rfl rfl (fun d => ⟨#[], by rw [e1, Sem.runT_eq]; simp [go_sem, execOp, Act.eval]; try (first | rfl | exact ⟨rfl, rfl⟩ | kernel_rfl), fun e he => by simp at he⟩) (hn c (fun _ _ => rfl) ⟨hJ.1, hJ.2.1, hJ.2.2.1, fun z => hJ.2.2.2.1 (by rw [getD_set_ne false (by decide)] at z; exact z), fun z => hJ.2.2.2.2 (by rw [getD_set_ne false (by decide)] at z; exact z)⟩)
    · have h12 : X.getD 12 false = false := by
        cases h : X.getD 12 false with
        | false => rfl
        | true =>
          have h8 := hcl 12 _ rfl h { on := 8, ground := Ground.data } (by simp) rfl
          have h5 := hcl 8 _ rfl h8 { on := 5, ground := Ground.data } (by simp) rfl
          have hx' : X.getD 5 false = false := by
            have hlt : 5 < X.size := by rw [hX]; decide
            simpa [hlt] using hx
          rw [hx'] at h5; cases h5
      have r4 : c.w.cell? ⟨bq, oq, none⟩ = some (.int .u64 u) := hlst _ hJ.2.2.1 (by have z := hJ.2.2.2.1 h12; rw [← z.1]; exact z.2.1)
      obtain rfl := Option.some.inj ho
      refine Win.op (v := .int .u64 u) (.inl hb) rfl rfl (fun d => ⟨#[⟨.cell ⟨bq, oq, none⟩, false, false⟩], by rw [e1, Sem.runT_eq]; have hc : (World.at c.w d).cell? ⟨bq, oq, none⟩ = _ := r4; generalize World.at c.w d = W at hc ⊢; simp [go_sem, execOp, Act.eval, hc, hx2, hx5], fun e he => by obtain rfl : e = ⟨.cell ⟨bq, oq, none⟩, false, false⟩ := (by simpa using he); exact ⟨rfl, fun m => by simp⟩⟩) (hn c (fun _ _ => rfl) ⟨hJ.1, hJ.2.1, hJ.2.2.1, fun z => hJ.2.2.2.1 (by rw [getD_set_ne false (by decide)] at z; exact z), fun z => hJ.2.2.2.2 (by rw [getD_set_ne false (by decide)] at z; exact z)⟩)
    · obtain rfl := Option.some.inj ho
      refine Win.op (v := .pointer (some ⟨bx, 2, none⟩)) (.inl hb) rfl rfl (fun d => ⟨#[], by rw [e1, Sem.runT_eq]; simp [go_sem, execOp, Act.eval, hx5]; try (first | rfl | exact ⟨rfl, rfl⟩ | kernel_rfl), fun e he => by simp at he⟩) (hn c (fun _ _ => rfl) ⟨hJ.1, hJ.2.1, hJ.2.2.1, fun z => hJ.2.2.2.1 (by rw [getD_set_ne false (by decide)] at z; exact z), fun z => hJ.2.2.2.2 (by rw [getD_set_ne false (by decide)] at z; exact z)⟩)
    · obtain rfl := Option.some.inj ho
      refine Win.op (v := .int .u64 v') (.inl hb) rfl rfl (fun d => ⟨#[⟨.cell ⟨bx, 2, none⟩, false, false⟩], by rw [e1, Sem.runT_eq]; have hc : (World.at c.w d).cell? ⟨bx, 2, none⟩ = _ := r3; generalize World.at c.w d = W at hc ⊢; simp [go_sem, execOp, Act.eval, hc, hx2, hx5], fun e he => by obtain rfl : e = ⟨.cell ⟨bx, 2, none⟩, false, false⟩ := (by simpa using he); exact ⟨rfl, fun m => by simp⟩⟩) (hn c (fun _ _ => rfl) ⟨hJ.1, hJ.2.1, hJ.2.2.1, fun z => hJ.2.2.2.1 (by rw [getD_set_ne false (by decide)] at z; exact z), fun z => hJ.2.2.2.2 (by rw [getD_set_ne false (by decide)] at z; exact z)⟩)
    · obtain rfl := Option.some.inj ho
      refine Win.op (v := .int .u64 (IntKind.wrap .u64 (u + v'))) (.inl hb) rfl rfl (fun d => ⟨#[], by rw [e1, Sem.runT_eq]; simp [go_sem, execOp, Act.eval]; try (first | rfl | exact ⟨rfl, rfl⟩ | kernel_rfl), fun e he => by simp at he⟩) (hn c (fun _ _ => rfl) ⟨hJ.1, hJ.2.1, hJ.2.2.1, fun z => hJ.2.2.2.1 (by rw [getD_set_ne false (by decide)] at z; exact z), fun z => hJ.2.2.2.2 (by rw [getD_set_ne false (by decide)] at z; exact z)⟩)
    · obtain rfl := Option.some.inj ho
      refine Win.op (v := .func (.method "Write") #[x 0] #[]) (.inl hb) rfl rfl (fun d => ⟨#[], by rw [e1, Sem.runT_eq]; simp [go_sem, execOp, Act.eval, hx0]; try (first | rfl | exact ⟨rfl, rfl⟩ | kernel_rfl), fun e he => by simp at he⟩) (hn c (fun _ _ => rfl) ⟨hJ.1, hJ.2.1, hJ.2.2.1, fun z => hJ.2.2.2.1 (by rw [getD_set_ne false (by decide)] at z; exact z), fun z => hJ.2.2.2.2 (by rw [getD_set_ne false (by decide)] at z; exact z)⟩)
    · obtain rfl := Option.some.inj ho
      refine Win.op (v := .func (.method "Write") #[x 0] #[]) (.inl hb) rfl rfl (fun d => ⟨#[], by rw [e1]; simp only [hx0]; kernel_rfl, fun e he => by simp at he⟩) (hn c (fun _ _ => rfl) ⟨hJ.1, hJ.2.1, hJ.2.2.1, fun z => hJ.2.2.2.1 (by rw [getD_set_ne false (by decide)] at z; exact z), fun z => hJ.2.2.2.2 (by rw [getD_set_ne false (by decide)] at z; exact z)⟩)
    · obtain rfl := Option.some.inj ho
      refine Win.op (v := x 0) (.inl hb) rfl rfl (fun d => ⟨#[], by rw [e1, Sem.runT_eq]; simp [go_sem, execOp, Act.eval]; try (first | rfl | exact ⟨rfl, rfl⟩ | kernel_rfl), fun e he => by simp at he⟩) (hn c (fun _ _ => rfl) ⟨hJ.1, hJ.2.1, hJ.2.2.1, fun z => hJ.2.2.2.1 (by rw [getD_set_ne false (by decide)] at z; exact z), fun z => hJ.2.2.2.2 (by rw [getD_set_ne false (by decide)] at z; exact z)⟩)
    · obtain rfl := Option.some.inj ho
      have hx' : X.getD 12 false = false := by
        have hlt : 12 < X.size := by rw [hX]; decide
        simpa [hlt] using hx
      obtain ⟨hgc, hsc, hK⟩ := hJ.2.2.2.1 hx'
      refine Win.enter (f := 85) (args := #[.pointer (some ⟨a.m, 0, none⟩), .int .i64 at', .int .u64 (IntKind.wrap .u64 (u + v'))]) (.inl hb) rfl rfl (fun d => ⟨#[], by rw [e1]; simp only [hx0]; kernel_rfl, fun e he => by simp at he⟩) ?_
      refine bwrite hSh hmv hJ.1 hJ.2.1 hP hJ.2.2.1 hsc ?_ ?_ hK
      · intro v home' n' pl' F' col' w' g2 hA2 ho2 hA2' hs2 K2
        rw [Frame.finish_at]
        exact hn ⟨home', n', pl', F', col', w', g2, c.v⟩ (fun j hj => rfl) ⟨hA2, ho2, hA2', fun z => (by rw [getD_set_self (by rw [hX]; decide)] at z; cases z), fun _ => ⟨hs2, K2⟩⟩
      · intro home' n' pl' F' col' w' g2 hE ho2 hA2' hs2 K2
        exact hstop home' n' pl' F' col' w' g2 _ _ hd hE ho2 hA2' hs2 K2
    · simp at ho
  · intro X c hall hJ
    obtain ⟨z1, z2⟩ := hJ.2.2.2.2 (hall 12 (by simp))
    exact cont (fun i => match i with | 35 => x 0 | 36 => .pointer (some ⟨bx, 1, none⟩) | 37 => .int .i64 at' | 38 => .pointer (some ⟨bq, oq, none⟩) | 39 => .pointer (some ⟨bq, oq, none⟩) | 40 => .int .u64 u | 41 => .pointer (some ⟨bx, 2, none⟩) | 42 => .int .u64 v' | 43 => .int .u64 (IntKind.wrap .u64 (u + v')) | 44 => .func (.method "Write") #[x 0] #[] | 45 => .func (.method "Write") #[x 0] #[] | 46 => x 0 | 47 => .tuple #[] | i => x i) c.home c.n c.pl c.F c.col c.w c.g rfl rfl rfl rfl hJ.1 hJ.2.1 hJ.2.2.1 z1 z2
set_option maxHeartbeats 2000000 in
/-- AN UPDATE of the program. -/
theorem prog_update (hSh : ∀ g, Priv SB (fun w => Sh w g)) (hmv : mv = memV pA) {b : Frame} (hb : b.kind = .normal) {k : List Item} {cs : List Frame} {x : Nat → Value} {bp bq oq bx : Nat} {at' : Int} {setL : Int → G → G} {nx : Int → Tree G} {φ : Int → Int} {hl : G → G} {own : Nat → Prop} {A : World → Prop}
    (hx0 : x 0 = .iface 97 (.pointer (some ⟨a.m, 0, none⟩))) (hx2 : x 2 = .pointer (some ⟨bp, 0, none⟩)) (hx5 : x 5 = .pointer (some ⟨bx, 0, none⟩))
    (hP : Priv own A) (hrd : ∀ w g, A w → Sh w g → w.cell? ⟨bp, 0, none⟩ = some (.pointer (some ⟨bq, oq, none⟩)) ∧ w.cell? ⟨bx, 1, none⟩ = some (.int .i64 at') )
    (hq : ∀ w g, A w → Sh w g → ∃ u, w.cell? ⟨bq, oq, none⟩ = some (.int .u64 u) ∧ w.frozen? ⟨bq, oq, none⟩ = false) (hwr : ∀ w g v, A w → Sh w g → A (w.setCell ⟨bq, oq, none⟩ (.int .u64 v)) ∧ Sh (w.setCell ⟨bq, oq, none⟩ (.int .u64 v)) (setL v g)) (hsq : SB bq)
    (hupd : ∀ w' x, A w' → 0 ≤ x → x < 18446744073709551616 → Calls Try.prog 39 (#[.int .u64 x] ++ #[.pointer (some ⟨bx, 0, none⟩)]) w' fun e w2 => e = .returned (.int .u64 (φ x)) ∧ Kp [] w' w2)
    (hstop : ∀ home n pl F col w g ac k, ac.defers = [] → Ends SB pA rA a mv home pl F col w → (∀ b, own b → col b = .ag a.j) → A w → Sh w g → Kont Post Sh SB pA rA a mv home n .ret pl F col w (hl g) → Win Try.prog Post pl n a.j (gor ((b.at ac k).raise [haltE]) cs) w)
    (cont : ∀ y v home n pl F col w g, y 0 = x 0 → y 1 = x 1 → y 2 = x 2 → y 4 = x 4 → Acts SB pA rA a mv home true false pl F col w → (∀ b, own b → col b = .ag a.j) → A w → Sh w (setL v g) → Kont Post Sh SB pA rA a mv home n (nx v) pl F col w (setL v g) → Win Try.prog Post pl n a.j (gor (b.at ⟨T48 y, []⟩ (.inRegion (regOps (progU Try.f38)) [] :: k)) cs) w)
    (hA : Acts SB pA rA a mv home true false pl F col w) (hown : ∀ b, own b → col b = .ag a.j) (hAw : A w) (hs : Sh w g) (K : Kont Post Sh SB pA rA a mv home n (.node at' φ (fun v g => setL v g) (fun v _ => nx v) hl) pl F col w g) :
    Win Try.prog Post pl n a.j (gor (b.at ⟨T48 x, []⟩ (.code (progU Try.f38) :: k)) cs) w := by
  simp only [bodyOf, Try.f38, codeL, codeR, regOps, blockOf, loopOf, condT, condE, progR, progW, progU, progC, progD, Option.getD_some]
  refine Win.anyFill (C := PC G) (Goal := fun c fr => Win Try.prog Post c.pl c.n a.j (gor fr cs) c.w) mixed (by kernel_rfl) (fun c i => match i with | 0 => .pointer (some ⟨bq, oq, none⟩) | 1 => x 0 | 2 => .pointer (some ⟨bx, 1, none⟩) | 3 => .int .i64 at' | 4 => .func (.func 39) #[] #[.pointer (some ⟨bx, 0, none⟩)] | 5 => .int .u64 c.v | 6 => .pointer (some ⟨bq, oq, none⟩) | _ => undef) (fun c => (⟨#[x 0, x 1, x 2, x 3, x 4, x 5, x 6, x 7, x 8, x 9, x 10, x 11, x 12, x 13, x 14, x 15, x 16, x 17, .pointer (some ⟨bq, oq, none⟩), x 0, .pointer (some ⟨bx, 1, none⟩), .int .i64 at', .func (.func 39) #[] #[.pointer (some ⟨bx, 0, none⟩)], .int .u64 c.v, .pointer (some ⟨bq, oq, none⟩), x 25, x 26, x 27, x 28, x 29, x 30, x 31, x 32, x 33, x 34, x 35, x 36, x 37, x 38, x 39, x 40, x 41, x 42, x 43, x 44, x 45, x 46, x 47], []⟩ : Act)) (fun c => by simp only [T48, fillAll, List.size_toArray, List.length_cons, List.length_nil, Nat.reduceAdd, List.range, List.range.loop, List.foldl_cons, List.foldl_nil, List.getElem?_toArray, List.getElem?_cons_zero, List.getElem?_cons_succ, Option.bind_some, Option.bind_none, Act.put, List.setIfInBounds_toArray, List.set_cons_succ, List.set_cons_zero]) (fun X c => Acts SB pA rA a mv c.home true false c.pl c.F c.col c.w ∧ (∀ b, own b → c.col b = .ag a.j) ∧ A c.w ∧ (X.getD 5 false = false → X.getD 7 false = false → Sh c.w c.g ∧ Kont Post Sh SB pA rA a mv c.home c.n (.node at' φ (fun v g => setL v g) (fun v _ => nx v) hl) c.pl c.F c.col c.w c.g) ∧ (X.getD 5 false = true → X.getD 7 false = false → Sh c.w c.g ∧ Kont Post Sh SB pA rA a mv c.home c.n (nx c.v) c.pl c.F c.col c.w (setL c.v c.g)) ∧ (X.getD 7 false = true → Sh c.w (setL c.v c.g) ∧ Kont Post Sh SB pA rA a mv c.home c.n (nx c.v) c.pl c.F c.col c.w (setL c.v c.g))) ⟨home, n, pl, F, col, w, g, 0⟩ (fun fr hh => hh) ?_ ?_ ⟨hA, hown, hAw, fun _ _ => ⟨hs, K⟩, fun z => by simp at z, fun z => by simp at z⟩
  · intro X i o hX ho hx hr c a' L' hJ hcl hL'' hfl e1 e2 hd hn
    have hsome : ∃ g', Sh c.w g' ∧ True := by
      cases h4 : X.getD 5 false
      · cases h6 : X.getD 7 false
        · exact ⟨_, (hJ.2.2.2.1 h4 h6).1, trivial⟩
        · exact ⟨_, (hJ.2.2.2.2.2 h6).1, trivial⟩
      · cases h6 : X.getD 7 false
        · exact ⟨_, (hJ.2.2.2.2.1 h4 h6).1, trivial⟩
        · exact ⟨_, (hJ.2.2.2.2.2 h6).1, trivial⟩
    obtain ⟨g', hg', hgg⟩ := hsome
    obtain ⟨r1, r2⟩ := hrd _ _ hJ.2.2.1 hg'
    rcases i with _ | _ | _ | _ | _ | _ | _ | _ | i
    · obtain rfl := Option.some.inj ho
      refine Win.op (v := .pointer (some ⟨bq, oq, none⟩)) (.inl hb) rfl rfl (fun d => ⟨#[⟨.cell ⟨bp, 0, none⟩, false, false⟩], by rw [e1, Sem.runT_eq]; have hc : (World.at c.w d).cell? ⟨bp, 0, none⟩ = _ := r1; generalize World.at c.w d = W at hc ⊢; simp [go_sem, execOp, Act.eval, hc, hx2, hx5], fun e he => by obtain rfl : e = ⟨.cell ⟨bp, 0, none⟩, false, false⟩ := (by simpa using he); exact ⟨rfl, fun m => by simp⟩⟩) (hn c (fun _ _ => rfl) ⟨hJ.1, hJ.2.1, hJ.2.2.1, fun z z' => hJ.2.2.2.1 (by rw [getD_set_ne false (by decide)] at z; exact z) (by rw [getD_set_ne false (by decide)] at z'; exact z'), fun z z' => hJ.2.2.2.2.1 (by rw [getD_set_ne false (by decide)] at z; exact z) (by rw [getD_set_ne false (by decide)] at z'; exact z'), fun z => hJ.2.2.2.2.2 (by rw [getD_set_ne false (by decide)] at z; exact z)⟩)
    · obtain rfl := Option.some.inj ho
      refine Win.op (v := x 0) (.inl hb) rfl rfl (fun d => ⟨#[], by rw [e1, Sem.runT_eq]; simp [go_sem, execOp, Act.eval]; try (first | rfl | exact ⟨rfl, rfl⟩ | kernel_rfl), fun e he => by simp at he⟩) (hn c (fun _ _ => rfl) ⟨hJ.1, hJ.2.1, hJ.2.2.1, fun z z' => hJ.2.2.2.1 (by rw [getD_set_ne false (by decide)] at z; exact z) (by rw [getD_set_ne false (by decide)] at z'; exact z'), fun z z' => hJ.2.2.2.2.1 (by rw [getD_set_ne false (by decide)] at z; exact z) (by rw [getD_set_ne false (by decide)] at z'; exact z'), fun z => hJ.2.2.2.2.2 (by rw [getD_set_ne false (by decide)] at z; exact z)⟩)
    · obtain rfl := Option.some.inj ho
      refine Win.op (v := .pointer (some ⟨bx, 1, none⟩)) (.inl hb) rfl rfl (fun d => ⟨#[], by rw [e1, Sem.runT_eq]; simp [go_sem, execOp, Act.eval, hx5]; try (first | rfl | exact ⟨rfl, rfl⟩ | kernel_rfl), fun e he => by simp at he⟩) (hn c (fun _ _ => rfl) ⟨hJ.1, hJ.2.1, hJ.2.2.1, fun z z' => hJ.2.2.2.1 (by rw [getD_set_ne false (by decide)] at z; exact z) (by rw [getD_set_ne false (by decide)] at z'; exact z'), fun z z' => hJ.2.2.2.2.1 (by rw [getD_set_ne false (by decide)] at z; exact z) (by rw [getD_set_ne false (by decide)] at z'; exact z'), fun z => hJ.2.2.2.2.2 (by rw [getD_set_ne false (by decide)] at z; exact z)⟩)
    · obtain rfl := Option.some.inj ho
      refine Win.op (v := .int .i64 at') (.inl hb) rfl rfl (fun d => ⟨#[⟨.cell ⟨bx, 1, none⟩, false, false⟩], by rw [e1, Sem.runT_eq]; have hc : (World.at c.w d).cell? ⟨bx, 1, none⟩ = _ := r2; generalize World.at c.w d = W at hc ⊢; simp [go_sem, execOp, Act.eval, hc, hx2, hx5], fun e he => by obtain rfl : e = ⟨.cell ⟨bx, 1, none⟩, false, false⟩ := (by simpa using he); exact ⟨rfl, fun m => by simp⟩⟩) (hn c (fun _ _ => rfl) ⟨hJ.1, hJ.2.1, hJ.2.2.1, fun z z' => hJ.2.2.2.1 (by rw [getD_set_ne false (by decide)] at z; exact z) (by rw [getD_set_ne false (by decide)] at z'; exact z'), fun z z' => hJ.2.2.2.2.1 (by rw [getD_set_ne false (by decide)] at z; exact z) (by rw [getD_set_ne false (by decide)] at z'; exact z'), fun z => hJ.2.2.2.2.2 (by rw [getD_set_ne false (by decide)] at z; exact z)⟩)
    · obtain rfl := Option.some.inj ho
      refine Win.op (v := .func (.func 39) #[] #[.pointer (some ⟨bx, 0, none⟩)]) (.inl hb) rfl rfl (fun d => ⟨#[], by rw [e1, Sem.runT_eq]; simp [go_sem, execOp, Act.eval, hx5]; try (first | rfl | exact ⟨rfl, rfl⟩ | kernel_rfl), fun e he => by simp at he⟩) (hn c (fun _ _ => rfl) ⟨hJ.1, hJ.2.1, hJ.2.2.1, fun z z' => hJ.2.2.2.1 (by rw [getD_set_ne false (by decide)] at z; exact z) (by rw [getD_set_ne false (by decide)] at z'; exact z'), fun z z' => hJ.2.2.2.2.1 (by rw [getD_set_ne false (by decide)] at z; exact z) (by rw [getD_set_ne false (by decide)] at z'; exact z'), fun z => hJ.2.2.2.2.2 (by rw [getD_set_ne false (by decide)] at z; exact z)⟩)
    · obtain rfl := Option.some.inj ho
      have hx' : X.getD 5 false = false := by
        have hlt : 5 < X.size := by rw [hX]; decide
        simpa [hlt] using hx
      have h7 : X.getD 7 false = false := by
        cases h : X.getD 7 false with
        | false => rfl
        | true => have := hcl 7 _ rfl h { on := 5, ground := Ground.data } (by simp) rfl; rw [hx'] at this; cases this
      obtain ⟨hsc, hK⟩ := hJ.2.2.2.1 hx' h7
      refine Win.enter (f := 84) (args := #[.pointer (some ⟨a.m, 0, none⟩), .int .i64 at', .func (.func 39) #[] #[.pointer (some ⟨bx, 0, none⟩)]]) (.inl hb) rfl rfl (fun d => ⟨#[], by rw [e1]; simp only [hx0, hx5]; kernel_rfl, fun e he => by simp at he⟩) ?_
      refine bupdate hSh hmv hJ.1 hJ.2.1 hP hJ.2.2.1 hsc (fun y w => by kernel_rfl) hupd ?_ ?_ hK
      · intro v home' n' pl' F' col' w' g2 hA2 ho2 hA2' hs2 K2
        rw [Frame.finish_at]
        refine hn ⟨home', n', pl', F', col', w', g2, v⟩ (fun j hj => ?_) ⟨hA2, ho2, hA2', fun z => (by rw [getD_set_self (by rw [hX]; decide)] at z; cases z), fun _ _ => ⟨hs2, K2⟩, fun z => by rw [getD_set_ne false (by decide), h7] at z; cases z⟩
        rcases j with _ | _ | _ | _ | _ | _ | _ | j
        · rfl
        · rfl
        · rfl
        · rfl
        · rfl
        · rw [hx'] at hj; cases hj
        · rfl
        · rfl
      · intro home' n' pl' F' col' w' g2 hE ho2 hA2' hs2 K2
        exact hstop home' n' pl' F' col' w' g2 _ _ hd hE ho2 hA2' hs2 K2
    · obtain rfl := Option.some.inj ho
      refine Win.op (v := .pointer (some ⟨bq, oq, none⟩)) (.inl hb) rfl rfl (fun d => ⟨#[], by rw [e1, Sem.runT_eq]; simp [go_sem, execOp, Act.eval]; try (first | rfl | exact ⟨rfl, rfl⟩ | kernel_rfl), fun e he => by simp at he⟩) (hn c (fun _ _ => rfl) ⟨hJ.1, hJ.2.1, hJ.2.2.1, fun z z' => hJ.2.2.2.1 (by rw [getD_set_ne false (by decide)] at z; exact z) (by rw [getD_set_ne false (by decide)] at z'; exact z'), fun z z' => hJ.2.2.2.2.1 (by rw [getD_set_ne false (by decide)] at z; exact z) (by rw [getD_set_ne false (by decide)] at z'; exact z'), fun z => hJ.2.2.2.2.2 (by rw [getD_set_ne false (by decide)] at z; exact z)⟩)
    · obtain rfl := Option.some.inj ho
      have hx' : X.getD 7 false = false := by
        have hlt : 7 < X.size := by rw [hX]; decide
        simpa [hlt] using hx
      have g4 := hr { on := 5, ground := Ground.data } (by simp) rfl
      obtain ⟨hsc, hK⟩ := hJ.2.2.2.2.1 g4 hx'
      obtain ⟨u, hu, hf⟩ := hq _ _ hJ.2.2.1 hsc
      obtain ⟨hA3, hM3⟩ := hJ.1.turn (ks_setCell c.w ⟨bq, oq, none⟩ (.int .u64 c.v)) (hJ.1.lies.setCell _ _) (fun b hb' => .inr (by
        have e : b = bq := hb'
        rw [e]; exact hJ.1.lay.sb _ hsq))
      refine Win.storeOp (ad := ⟨bq, oq, none⟩) (x := .int .u64 c.v) (.inl hb) rfl rfl (hJ.1.free_shared hsq hu) (fun d => ?_) ?_
      · rw [e1, Sem.runT_eq]
        have c1 : (c.w.at d).cell? ⟨bq, oq, none⟩ = some (.int .u64 u) := hu
        have c2 : (c.w.at d).frozen? ⟨bq, oq, none⟩ = false := hf
        generalize c.w.at d = W at c1 c2 ⊢
        obtain ⟨s1, s2⟩ := store_ok (P := Try.prog) (x := .int .u64 c.v) (w := W) (m := .plain) (by simp) (by simp) c1 c2
        simp [go_sem, execOp, Act.eval, s1, s2, c1, c2]
      · obtain ⟨w1, w2⟩ := hwr _ _ c.v hJ.2.2.1 hsc
        refine hn ⟨c.home, c.n, c.pl, c.F, grown a.j c.col c.w (c.w.setCell ⟨bq, oq, none⟩ (.int .u64 c.v)), c.w.setCell ⟨bq, oq, none⟩ (.int .u64 c.v), c.g, c.v⟩ (fun j hj => rfl) ⟨hA3, fun b hb' => grown_ag hJ.1.lay (hJ.2.1 b hb'), w1, fun _ z => (by rw [getD_set_self (by rw [hX]; decide)] at z; cases z), fun _ z => (by rw [getD_set_self (by rw [hX]; decide)] at z; cases z), fun _ => ⟨w2, Kont.moves hM3 hK⟩⟩
    · simp at ho
  · intro X c hall hJ
    obtain ⟨z1, z2⟩ := hJ.2.2.2.2.2 (hall 7 (by simp))
    exact cont (fun i => match i with | 18 => .pointer (some ⟨bq, oq, none⟩) | 19 => x 0 | 20 => .pointer (some ⟨bx, 1, none⟩) | 21 => .int .i64 at' | 22 => .func (.func 39) #[] #[.pointer (some ⟨bx, 0, none⟩)] | 23 => .int .u64 c.v | 24 => .pointer (some ⟨bq, oq, none⟩) | i => x i) c.v c.home c.n c.pl c.F c.col c.w c.g rfl rfl rfl rfl hJ.1 hJ.2.1 hJ.2.2.1 z1 z2
end
end Go.Proofs.Ytdingbkgkofanaa
