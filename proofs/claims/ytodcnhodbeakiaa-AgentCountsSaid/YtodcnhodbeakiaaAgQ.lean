/- Agents by trees, on: Read, Write and Update, as the program calls them; and its end. Conditions: as each theorem states them. -/
import Derived.Test.YtodcnhodbeakiaaAgP
import Derived.Test.YtodcnhodbeakiaaAgT
namespace Go.Proofs.Ytodcnhodbeakiaa
set_option linter.unusedVariables false
set_option linter.unusedSimpArgs false
set_option maxRecDepth 100000
open Go.Conc

section
variable {G : Type} {Post : Value → World → Prop} {Sh : World → G → Prop} {SB : Nat → Prop} {pA rA : Nat} {a : Ag} {mv : Value} {home : Goroutine → Prop} {n : Nat} {T : Tree G} {runs ov : Bool}
variable {pl pl' : Nat → Option Place} {F F' F1 : Nat → Option (Nat × Nat)} {col col' col1 : Nat → Col} {w w' w1 : World} {g : G} {S : Nat → Prop}

/-- Whose the blocks are behind memory that the agent has made. -/
def grown (j : Nat) (col : Nat → Col) (w w1 : World) (b : Nat) : Col := if w.heap.size ≤ b ∧ b < w1.heap.size then .ag j else col b
theorem grown_new {j b : Nat} (h1 : w.heap.size ≤ b) (h2 : b < w1.heap.size) : grown j col w w1 b = .ag j := if_pos ⟨h1, h2⟩
theorem grown_old {j b : Nat} (h1 : b < w.heap.size) : grown j col w w1 b = col b := if_neg (by omega)
theorem grown_ag {j b : Nat} {i : Nat} (L : Lay SB pA rA col F w) (h : col b = .ag i) : grown j col w w1 b = .ag i := by
  rw [grown_old, h]
  rcases Nat.lt_or_ge b w.heap.size with z | z
  · exact z
  · rw [L.above b z] at h; cases h

theorem Acts.grow (h : Acts SB pA rA a mv home runs ov pl F col w) (k : Ks (fun _ => False) w w1) (hL : Lies pl F w1) : Acts SB pA rA a mv home runs ov pl F (grown a.j col w w1) w1 ∧ Moves (mine a col) a.j F col w F (grown a.j col w w1) w1 :=
  ⟨h.plain k hL (fun b hb => hb.elim), (moves_plain k (fun b _ hb => hb.elim)).mono fun b _ hb => hb.elim⟩
theorem Priv.grow {own : Nat → Prop} {A : World → Prop} (hP : Priv own A) (h : A w) (k : Ks (fun _ => False) w w1) : A w1 := hP.st _ _ h fun b hb => k.block b (hP.lt _ _ h hb) fun z => z

/-- The agent's own move: it turns its own, and what is shared; and makes memory. -/
theorem Acts.turn (h : Acts SB pA rA a mv home runs ov pl F col w) (k : Ks S w w1) (hL : Lies pl F w1) (hS : ∀ b, S b → col b = .ag a.j ∨ col b = .shared) : Acts SB pA rA a mv home runs ov pl F (grown a.j col w w1) w1 ∧ Moves (mine a col) a.j F col w F (grown a.j col w w1) w1 :=
  ⟨h.plain k hL hS, (moves_plain k (fun b _ hb => by rcases hS b hb with z | z <;> rw [z] <;> rfl)).mono fun b _ hb => (hS b hb).imp id fun z => .inr z⟩

theorem rich_cells {w : World} {b : Nat} {c : Array Value} {t : TypeId} {f : Nat × Nat} (h : w.heap[b]? = some (.cells c t f)) : poor w.heap[b]? = false := by rw [h]; rfl

set_option maxHeartbeats 1000000 in
/-- A READ. -/
theorem bread (hSh : ∀ g, Priv SB (fun w => Sh w g)) (hmv : mv = memV pA) {k : Int} {c : Int → G → G} {nx : Int → G → Tree G} {hl : G → G} {c₀ : Frame} {cs : List Frame} {own : Nat → Prop} {A : World → Prop}
    (hA : Acts SB pA rA a mv home true false pl F col w) (hown : ∀ b, own b → col b = .ag a.j) (hP : Priv own A) (hAw : A w) (hs : Sh w g)
    (hres : ∀ v home n pl' F' col' w' g, Acts SB pA rA a mv home true false pl' F' col' w' → (∀ b, own b → col' b = .ag a.j) → A w' → Sh w' g → Kont Post Sh SB pA rA a mv home n (nx v g) pl' F' col' w' (c v g) → Win Try.prog Post pl' n a.j (gor (c₀.finish (.int .u64 v)) cs) w')
    (hstop : ∀ home n pl' F' col' w' g, Ends SB pA rA a mv home pl' F' col' w' → (∀ b, own b → col' b = .ag a.j) → A w' → Sh w' g → Kont Post Sh SB pA rA a mv home n .ret pl' F' col' w' (hl g) → Win Try.prog Post pl' n a.j (gor (c₀.raise [haltE]) cs) w')
    (K : Kont Post Sh SB pA rA a mv home n (.node k (fun x => x) c nx hl) pl F col w g) :
    Win Try.prog Post pl n a.j (gor (Frame.enter Try.prog 111 #[.pointer (some ⟨a.m, 0, none⟩), .int .i64 k] .normal) (c₀ :: cs)) w := by
  have hL2 := (hA.lies.alloc (.cells #[.int .i64 k] 3)).alloc (.cells #[.int .u64 0] 40)
  have k2 : Ks (fun _ => False) w ((w.alloc (.cells #[.int .i64 k] 3)).alloc (.cells #[.int .u64 0] 40)) := (ks_alloc _ w _).trans (ks_alloc _ _ _)
  have hbA : ((w.alloc (.cells #[.int .i64 k] 3)).alloc (.cells #[.int .u64 0] 40)).heap[w.heap.size]? = some (.cells #[.int .i64 k] 3 (0, 0)) := (alloc_heap _ _ _ (by show _ < (w.heap.push _).size; simp)).trans (alloc_new w _)
  have hbV : ((w.alloc (.cells #[.int .i64 k] 3)).alloc (.cells #[.int .u64 0] 40)).heap[w.heap.size + 1]? = some (.cells #[.int .u64 0] 40 (0, 0)) := by
    have := alloc_new (w.alloc (.cells #[.int .i64 k] 3)) (.cells #[.int .u64 0] 40)
    rw [show (w.alloc (.cells #[.int .i64 k] 3)).heap.size = w.heap.size + 1 from Array.size_push _] at this
    exact this
  have hz : ((w.alloc (.cells #[.int .i64 k] 3)).alloc (.cells #[.int .u64 0] 40)).heap.size = w.heap.size + 2 := by
    show (Array.push (Array.push _ _) _).size = _
    simp
  refine read_in hA.lies ?_
  obtain ⟨hA2, hM⟩ := hA.grow k2 hL2
  have hAw2 := hP.grow hAw k2
  have hs2 := (hSh g).grow hs k2
  have hcA : pA < w.heap.size := by
    rcases Nat.lt_or_ge pA w.heap.size with z | z
    · exact z
    · have := hA.lay.ar.1; rw [hA.lay.above _ z] at this; cases this
  have hcR : rA < w.heap.size := by
    rcases Nat.lt_or_ge rA w.heap.size with z | z
    · exact z
    · have := hA.lay.ar.2; rw [hA.lay.above _ z] at this; cases this
  generalize (w.alloc (.cells #[.int .i64 k] 3)).alloc (.cells #[.int .u64 0] 40) = w2 at *
  have holt : ∀ b, own b → b < w.heap.size := fun b hb => hP.lt _ _ hAw hb
  refine btouch hSh (own := fun b => own b ∨ b = w.heap.size ∨ b = w.heap.size + 1) (A := fun w' => A w' ∧ w'.heap[w.heap.size]? = some (.cells #[.int .i64 k] 3 (0, 0)) ∧ w'.heap[w.heap.size + 1]? = some (.cells #[.int .u64 0] 40 (0, 0)))
    (B := fun v o w' => (∀ b, own b ∨ b = w.heap.size + 1 ↔ o b) ∧ A w' ∧ w'.heap[w.heap.size + 1]? = some (.cells #[.int .u64 v] 40 (0, 0))) hA2 ?_ ?_ ?_ ⟨hAw2, hbA, hbV⟩ hs2 ⟨_, Try.func116, rfl⟩ ?_ ?_ ?_ (Kont.moves hM K)
  · rintro b (hb | rfl | rfl)
    · exact grown_ag hA.lay (hown b hb)
    · exact grown_new (Nat.le_refl _) (by omega)
    · exact grown_new (by omega) (by omega)
  · refine ⟨fun u u' ⟨h1, h2, h3⟩ he => ⟨hP.st _ _ h1 fun b hb => he b (.inl hb), (he _ (.inr (.inl rfl))).trans h2, (he _ (.inr (.inr rfl))).trans h3⟩, fun u b ⟨h1, h2, h3⟩ hb => ?_, fun u b ⟨h1, h2, h3⟩ hb => ?_⟩
    · rcases hb with hb | rfl | rfl
      · exact hP.np _ _ h1 hb
      · exact rich_cells h2
      · exact rich_cells h3
    · rcases hb with hb | rfl | rfl
      · exact hP.lt _ _ h1 hb
      · exact lt_of_block h2
      · exact lt_of_block h3
  · intro v o
    refine ⟨fun u u' ⟨h0, h1, h3⟩ he => ⟨h0, hP.st _ _ h1 fun b hb => he b ((h0 b).1 (.inl hb)), (he _ ((h0 _).1 (.inr rfl))).trans h3⟩, fun u b ⟨h0, h1, h3⟩ hb => ?_, fun u b ⟨h0, h1, h3⟩ hb => ?_⟩
    · rcases (h0 b).2 hb with hb | rfl
      · exact hP.np _ _ h1 hb
      · exact rich_cells h3
    · rcases (h0 b).2 hb with hb | rfl
      · exact hP.lt _ _ h1 hb
      · exact lt_of_block h3
  · intro u s ⟨h1, h2, h3⟩ har hn ht hbn
    subst hmv
    refine (tch_read har hn ht h2 h3 (by omega) (by omega)).mono ?_
    rintro e u2 ⟨he, ha, hv, hk⟩
    have hk' := ks_of_kp hk
    refine ⟨he, ha, ⟨fun b => own b ∨ b = w.heap.size + 1, fun b hb => ?_, fun b => Iff.rfl, hP.st _ _ h1 fun b hb => hk'.block b (hP.lt _ _ h1 hb) ?_, hv⟩, hk'.mono fun b _ hb => ?_⟩
    · rcases hb with hb | rfl
      · exact .inl (.inl hb)
      · exact .inl (.inr (.inr rfl))
    · have hol := holt b hb
      have hc := hown b hb
      intro hx
      simp only [List.mem_cons, List.not_mem_nil, or_false] at hx
      rcases hx with rfl | rfl | rfl
      · rw [hA.lay.ar.1] at hc; cases hc
      · rw [hA.lay.ar.2] at hc; cases hc
      · omega
    · simp only [List.mem_cons, List.not_mem_nil, or_false] at hb
      rcases hb with rfl | rfl | rfl
      · exact .inl rfl
      · exact .inr (.inl rfl)
      · exact .inr (.inr (.inr (.inr rfl)))
  · intro v o home' n' pl' F' col' w' g' hA' ho hb hs' K'
    obtain ⟨h0, h1, h3⟩ := hb
    have hc : col' (w.heap.size + 1) = .ag a.j := ho _ ((h0 _).1 (.inr rfl))
    have hFn : F' (w.heap.size + 1) = none := hA'.lay.free _ (by rw [hc]; rfl)
    have kk := ks_setCell w' ⟨w.heap.size + 1, 0, none⟩ (.int .u64 v)
    obtain ⟨hA3, hM3⟩ := hA'.turn kk (hA'.lies.setCell _ _) (fun b hb => by
      have e : b = w.heap.size + 1 := hb
      subst e; exact .inl hc)
    refine read_out (cell_of_row h3 0) (free_of_row h3 0) ⟨fun i s' x hi hx => ?_, fun i s' x hi hx e => ?_⟩ (hres v home' n' pl' F' _ _ g' hA3 (fun b hb => ?_) (hP.st _ _ h1 fun b hb => kk.block b (hP.lt _ _ h1 hb) ?_) ((hSh g').st _ _ hs' fun b hb => kk.block b ((hSh g').lt _ _ hs' hb) ?_) (Kont.moves hM3 K'))
    · obtain ⟨lo, hi', z, _, _⟩ := hA'.lies.still i s' _ x hi hx
      rw [hFn] at z; cases z
    · obtain ⟨_, _, _, _, _, _, hh⟩ := hA'.lies.chans i s' x hi hx
      rw [e] at hh
      simp only at hh
      rw [h3] at hh; cases hh
    · exact grown_ag hA'.lay (ho b ((h0 b).1 (.inl hb)))
    · intro e
      have e' : b = w.heap.size + 1 := e
      have := holt b hb
      omega
    · intro e
      have e' : b = w.heap.size + 1 := e
      have := hA'.lay.sb b hb
      rw [e', hc] at this; cases this
  · intro home' n' pl' F' col' w' g' hE ho ha hs' K'
    have hne : (Frame.enter Try.prog 111 #[.pointer (some ⟨a.m, 0, none⟩), .int .i64 k] CallKind.normal).kind = .normal := rfl
    refine Win.unwinds (chain := [haltE]) rfl rfl rfl ?_
    exact hstop home' n' pl' F' col' w' g' hE (fun b hb => ho b (.inl hb)) ha.1 hs' K'
set_option maxHeartbeats 1000000 in
/-- A WRITE. -/
theorem bwrite (hSh : ∀ g, Priv SB (fun w => Sh w g)) (hmv : mv = memV pA) {k y : Int} {c : Int → G → G} {nx : Int → G → Tree G} {hl : G → G} {c₀ : Frame} {cs : List Frame} {own : Nat → Prop} {A : World → Prop}
    (hA : Acts SB pA rA a mv home true false pl F col w) (hown : ∀ b, own b → col b = .ag a.j) (hP : Priv own A) (hAw : A w) (hs : Sh w g)
    (hres : ∀ v home n pl' F' col' w' g, Acts SB pA rA a mv home true false pl' F' col' w' → (∀ b, own b → col' b = .ag a.j) → A w' → Sh w' g → Kont Post Sh SB pA rA a mv home n (nx v g) pl' F' col' w' (c v g) → Win Try.prog Post pl' n a.j (gor (c₀.finish (.tuple #[])) cs) w')
    (hstop : ∀ home n pl' F' col' w' g, Ends SB pA rA a mv home pl' F' col' w' → (∀ b, own b → col' b = .ag a.j) → A w' → Sh w' g → Kont Post Sh SB pA rA a mv home n .ret pl' F' col' w' (hl g) → Win Try.prog Post pl' n a.j (gor (c₀.raise [haltE]) cs) w')
    (K : Kont Post Sh SB pA rA a mv home n (.node k (fun _ => y) c nx hl) pl F col w g) :
    Win Try.prog Post pl n a.j (gor (Frame.enter Try.prog 113 #[.pointer (some ⟨a.m, 0, none⟩), .int .i64 k, .int .u64 y] .normal) (c₀ :: cs)) w := by
  have hL2 := (hA.lies.alloc (.cells #[.int .i64 k] 3)).alloc (.cells #[.int .u64 y] 40)
  have k2 : Ks (fun _ => False) w ((w.alloc (.cells #[.int .i64 k] 3)).alloc (.cells #[.int .u64 y] 40)) := (ks_alloc _ w _).trans (ks_alloc _ _ _)
  have hbA : ((w.alloc (.cells #[.int .i64 k] 3)).alloc (.cells #[.int .u64 y] 40)).heap[w.heap.size]? = some (.cells #[.int .i64 k] 3 (0, 0)) := (alloc_heap _ _ _ (by show _ < (w.heap.push _).size; simp)).trans (alloc_new w _)
  have hbV : ((w.alloc (.cells #[.int .i64 k] 3)).alloc (.cells #[.int .u64 y] 40)).heap[w.heap.size + 1]? = some (.cells #[.int .u64 y] 40 (0, 0)) := by
    have := alloc_new (w.alloc (.cells #[.int .i64 k] 3)) (.cells #[.int .u64 y] 40)
    rw [show (w.alloc (.cells #[.int .i64 k] 3)).heap.size = w.heap.size + 1 from Array.size_push _] at this
    exact this
  have hz : ((w.alloc (.cells #[.int .i64 k] 3)).alloc (.cells #[.int .u64 y] 40)).heap.size = w.heap.size + 2 := by
    show (Array.push (Array.push _ _) _).size = _
    simp
  refine write_in hA.lies ?_
  obtain ⟨hA2, hM⟩ := hA.grow k2 hL2
  have hAw2 := hP.grow hAw k2
  have hs2 := (hSh g).grow hs k2
  have hcA : pA < w.heap.size := by
    rcases Nat.lt_or_ge pA w.heap.size with z | z
    · exact z
    · have := hA.lay.ar.1; rw [hA.lay.above _ z] at this; cases this
  have hcR : rA < w.heap.size := by
    rcases Nat.lt_or_ge rA w.heap.size with z | z
    · exact z
    · have := hA.lay.ar.2; rw [hA.lay.above _ z] at this; cases this
  generalize (w.alloc (.cells #[.int .i64 k] 3)).alloc (.cells #[.int .u64 y] 40) = w2 at *
  have holt : ∀ b, own b → b < w.heap.size := fun b hb => hP.lt _ _ hAw hb
  refine btouch hSh (own := fun b => own b ∨ b = w.heap.size ∨ b = w.heap.size + 1) (A := fun w' => A w' ∧ w'.heap[w.heap.size]? = some (.cells #[.int .i64 k] 3 (0, 0)) ∧ w'.heap[w.heap.size + 1]? = some (.cells #[.int .u64 y] 40 (0, 0)))
    (B := fun v o w' => (∀ b, own b ↔ o b) ∧ A w') hA2 ?_ ?_ ?_ ⟨hAw2, hbA, hbV⟩ hs2 ⟨_, Try.func118, rfl⟩ ?_ ?_ ?_ (Kont.moves hM K)
  · rintro b (hb | rfl | rfl)
    · exact grown_ag hA.lay (hown b hb)
    · exact grown_new (Nat.le_refl _) (by omega)
    · exact grown_new (by omega) (by omega)
  · refine ⟨fun u u' ⟨h1, h2, h3⟩ he => ⟨hP.st _ _ h1 fun b hb => he b (.inl hb), (he _ (.inr (.inl rfl))).trans h2, (he _ (.inr (.inr rfl))).trans h3⟩, fun u b ⟨h1, h2, h3⟩ hb => ?_, fun u b ⟨h1, h2, h3⟩ hb => ?_⟩
    · rcases hb with hb | rfl | rfl
      · exact hP.np _ _ h1 hb
      · exact rich_cells h2
      · exact rich_cells h3
    · rcases hb with hb | rfl | rfl
      · exact hP.lt _ _ h1 hb
      · exact lt_of_block h2
      · exact lt_of_block h3
  · intro v o
    exact ⟨fun u u' ⟨h0, h1⟩ he => ⟨h0, hP.st _ _ h1 fun b hb => he b ((h0 b).1 hb)⟩, fun u b ⟨h0, h1⟩ hb => hP.np _ _ h1 ((h0 b).2 hb), fun u b ⟨h0, h1⟩ hb => hP.lt _ _ h1 ((h0 b).2 hb)⟩
  · intro u s ⟨h1, h2, h3⟩ har hn ht hbn
    subst hmv
    refine (tch_write har hn ht h2 h3).mono ?_
    rintro e u2 ⟨he, ha, hk⟩
    have hk' := ks_of_kp hk
    refine ⟨he, ha, ⟨own, fun b hb => .inl (.inl hb), fun b => Iff.rfl, hP.st _ _ h1 fun b hb => hk'.block b (hP.lt _ _ h1 hb) ?_⟩, hk'.mono fun b _ hb => ?_⟩
    · have hc := hown b hb
      intro hx
      simp only [List.mem_cons, List.not_mem_nil, or_false] at hx
      rcases hx with rfl | rfl
      · rw [hA.lay.ar.1] at hc; cases hc
      · rw [hA.lay.ar.2] at hc; cases hc
    · simp only [List.mem_cons, List.not_mem_nil, or_false] at hb
      rcases hb with rfl | rfl
      · exact .inl rfl
      · exact .inr (.inl rfl)
  · intro v o home' n' pl' F' col' w' g' hA' ho hb hs' K'
    obtain ⟨h0, h1⟩ := hb
    exact write_out (hres v home' n' pl' F' _ _ g' hA' (fun b hb => ho b ((h0 b).1 hb)) h1 hs' K')
  · intro home' n' pl' F' col' w' g' hE ho ha hs' K'
    have hne : (Frame.enter Try.prog 113 #[.pointer (some ⟨a.m, 0, none⟩), .int .i64 k, .int .u64 y] CallKind.normal).kind = .normal := rfl
    refine Win.unwinds (chain := [haltE]) rfl rfl rfl ?_
    exact hstop home' n' pl' F' col' w' g' hE (fun b hb => ho b (.inl hb)) ha.1 hs' K'
set_option maxHeartbeats 1000000 in
/-- AN UPDATE, by a closure that makes memory at most. -/
theorem bupdate (hSh : ∀ g, Priv SB (fun w => Sh w g)) (hmv : mv = memV pA) {k : Int} {φ : Int → Int} {f : FuncId} {cap : Array Value} {c : Int → G → G} {nx : Int → G → Tree G} {hl : G → G} {c₀ : Frame} {cs : List Frame} {own : Nat → Prop} {A : World → Prop}
    (hA : Acts SB pA rA a mv home true false pl F col w) (hown : ∀ b, own b → col b = .ag a.j) (hP : Priv own A) (hAw : A w) (hs : Sh w g)
    (hen : ∀ (x : Value) (w : World), (callFunc f (#[x] ++ cap)).run Try.prog w = .ok (.enter f (#[x] ++ cap)) w)
    (hcl : ∀ w' x, A w' → 0 ≤ x → x < 18446744073709551616 → Calls Try.prog f (#[.int .u64 x] ++ cap) w' fun e w2 => e = .returned (.int .u64 (φ x)) ∧ Kp [] w' w2)
    (hres : ∀ v home n pl' F' col' w' g, Acts SB pA rA a mv home true false pl' F' col' w' → (∀ b, own b → col' b = .ag a.j) → A w' → Sh w' g → Kont Post Sh SB pA rA a mv home n (nx v g) pl' F' col' w' (c v g) → Win Try.prog Post pl' n a.j (gor (c₀.finish (.int .u64 v)) cs) w')
    (hstop : ∀ home n pl' F' col' w' g, Ends SB pA rA a mv home pl' F' col' w' → (∀ b, own b → col' b = .ag a.j) → A w' → Sh w' g → Kont Post Sh SB pA rA a mv home n .ret pl' F' col' w' (hl g) → Win Try.prog Post pl' n a.j (gor (c₀.raise [haltE]) cs) w')
    (K : Kont Post Sh SB pA rA a mv home n (.node k φ c nx hl) pl F col w g) :
    Win Try.prog Post pl n a.j (gor (Frame.enter Try.prog 112 #[.pointer (some ⟨a.m, 0, none⟩), .int .i64 k, .func (.func f) #[] cap] .normal) (c₀ :: cs)) w := by
  have hL2 := ((hA.lies.alloc (.cells #[.int .i64 k] 3)).alloc (.cells #[.func (.func f) #[] cap] 58)).alloc (.cells #[.int .u64 0] 40)
  have k2 : Ks (fun _ => False) w (((w.alloc (.cells #[.int .i64 k] 3)).alloc (.cells #[.func (.func f) #[] cap] 58)).alloc (.cells #[.int .u64 0] 40)) := ((ks_alloc _ w _).trans (ks_alloc _ _ _)).trans (ks_alloc _ _ _)
  have z1 : (w.alloc (.cells #[.int .i64 k] 3)).heap.size = w.heap.size + 1 := Array.size_push _
  have z2 : ((w.alloc (.cells #[.int .i64 k] 3)).alloc (.cells #[.func (.func f) #[] cap] 58)).heap.size = w.heap.size + 2 := by
    show (Array.push (Array.push _ _) _).size = _
    simp
  have hbA : (((w.alloc (.cells #[.int .i64 k] 3)).alloc (.cells #[.func (.func f) #[] cap] 58)).alloc (.cells #[.int .u64 0] 40)).heap[w.heap.size]? = some (.cells #[.int .i64 k] 3 (0, 0)) := (alloc_heap _ _ _ (by omega)).trans ((alloc_heap _ _ _ (by omega)).trans (alloc_new w _))
  have hbX : (((w.alloc (.cells #[.int .i64 k] 3)).alloc (.cells #[.func (.func f) #[] cap] 58)).alloc (.cells #[.int .u64 0] 40)).heap[w.heap.size + 1]? = some (.cells #[.func (.func f) #[] cap] 58 (0, 0)) := (alloc_heap _ _ _ (by omega)).trans (by
    have := alloc_new (w.alloc (.cells #[.int .i64 k] 3)) (.cells #[.func (.func f) #[] cap] 58)
    rw [z1] at this
    exact this)
  have hbV : (((w.alloc (.cells #[.int .i64 k] 3)).alloc (.cells #[.func (.func f) #[] cap] 58)).alloc (.cells #[.int .u64 0] 40)).heap[w.heap.size + 2]? = some (.cells #[.int .u64 0] 40 (0, 0)) := by
    have := alloc_new ((w.alloc (.cells #[.int .i64 k] 3)).alloc (.cells #[.func (.func f) #[] cap] 58)) (.cells #[.int .u64 0] 40)
    rw [z2] at this
    exact this
  have hz : (((w.alloc (.cells #[.int .i64 k] 3)).alloc (.cells #[.func (.func f) #[] cap] 58)).alloc (.cells #[.int .u64 0] 40)).heap.size = w.heap.size + 3 := by
    show (Array.push (Array.push (Array.push _ _) _) _).size = _
    simp
  refine update_in hA.lies ?_
  obtain ⟨hA2, hM⟩ := hA.grow k2 hL2
  have hAw2 := hP.grow hAw k2
  have hs2 := (hSh g).grow hs k2
  have hcA : pA < w.heap.size := by
    rcases Nat.lt_or_ge pA w.heap.size with z | z
    · exact z
    · have := hA.lay.ar.1; rw [hA.lay.above _ z] at this; cases this
  have hcR : rA < w.heap.size := by
    rcases Nat.lt_or_ge rA w.heap.size with z | z
    · exact z
    · have := hA.lay.ar.2; rw [hA.lay.above _ z] at this; cases this
  clear z1 z2
  generalize ((w.alloc (.cells #[.int .i64 k] 3)).alloc (.cells #[.func (.func f) #[] cap] 58)).alloc (.cells #[.int .u64 0] 40) = w2 at *
  have holt : ∀ b, own b → b < w.heap.size := fun b hb => hP.lt _ _ hAw hb
  refine btouch hSh (own := fun b => own b ∨ b = w.heap.size ∨ b = w.heap.size + 1 ∨ b = w.heap.size + 2) (A := fun w' => A w' ∧ w'.heap[w.heap.size]? = some (.cells #[.int .i64 k] 3 (0, 0)) ∧ w'.heap[w.heap.size + 1]? = some (.cells #[.func (.func f) #[] cap] 58 (0, 0)) ∧ w'.heap[w.heap.size + 2]? = some (.cells #[.int .u64 0] 40 (0, 0)))
    (B := fun v o w' => (∀ b, own b ∨ b = w.heap.size + 2 ↔ o b) ∧ A w' ∧ w'.heap[w.heap.size + 2]? = some (.cells #[.int .u64 v] 40 (0, 0))) hA2 ?_ ?_ ?_ ⟨hAw2, hbA, hbX, hbV⟩ hs2 ⟨_, Try.func117, rfl⟩ ?_ ?_ ?_ (Kont.moves hM K)
  · rintro b (hb | rfl | rfl | rfl)
    · exact grown_ag hA.lay (hown b hb)
    · exact grown_new (Nat.le_refl _) (by omega)
    · exact grown_new (by omega) (by omega)
    · exact grown_new (by omega) (by omega)
  · refine ⟨fun u u' ⟨h1, h2, h4, h3⟩ he => ⟨hP.st _ _ h1 fun b hb => he b (.inl hb), (he _ (.inr (.inl rfl))).trans h2, (he _ (.inr (.inr (.inl rfl)))).trans h4, (he _ (.inr (.inr (.inr rfl)))).trans h3⟩, fun u b ⟨h1, h2, h4, h3⟩ hb => ?_, fun u b ⟨h1, h2, h4, h3⟩ hb => ?_⟩
    · rcases hb with hb | rfl | rfl | rfl
      · exact hP.np _ _ h1 hb
      · exact rich_cells h2
      · exact rich_cells h4
      · exact rich_cells h3
    · rcases hb with hb | rfl | rfl | rfl
      · exact hP.lt _ _ h1 hb
      · exact lt_of_block h2
      · exact lt_of_block h4
      · exact lt_of_block h3
  · intro v o
    refine ⟨fun u u' ⟨h0, h1, h3⟩ he => ⟨h0, hP.st _ _ h1 fun b hb => he b ((h0 b).1 (.inl hb)), (he _ ((h0 _).1 (.inr rfl))).trans h3⟩, fun u b ⟨h0, h1, h3⟩ hb => ?_, fun u b ⟨h0, h1, h3⟩ hb => ?_⟩
    · rcases (h0 b).2 hb with hb | rfl
      · exact hP.np _ _ h1 hb
      · exact rich_cells h3
    · rcases (h0 b).2 hb with hb | rfl
      · exact hP.lt _ _ h1 hb
      · exact lt_of_block h3
  · intro u s ⟨h1, h2, h4, h3⟩ har hn ht hbn
    subst hmv
    have hnA : ∀ b, own b → b ≠ pA := fun b hb e => by have hc := hown b hb; rw [e, hA.lay.ar.1] at hc; cases hc
    refine (tch_update har hn ht h2 h4 h3 (by omega) (by omega) hen (fun u' hk => hcl u' _ (hP.st _ _ h1 fun b hb => hk.block b (hP.lt _ _ h1 hb) (by simpa using hnA b hb)) (hbn.was k).1 (hbn.was k).2)).mono ?_
    rintro e u2 ⟨he, ha, hv, hk⟩
    have hk' := ks_of_kp hk
    refine ⟨he, ha, ⟨fun b => own b ∨ b = w.heap.size + 2, fun b hb => ?_, fun b => Iff.rfl, hP.st _ _ h1 fun b hb => hk'.block b (hP.lt _ _ h1 hb) ?_, hv⟩, hk'.mono fun b _ hb => ?_⟩
    · rcases hb with hb | rfl
      · exact .inl (.inl hb)
      · exact .inl (.inr (.inr (.inr rfl)))
    · have hol := holt b hb
      have hc := hown b hb
      intro hx
      simp only [List.mem_cons, List.not_mem_nil, or_false] at hx
      rcases hx with rfl | rfl | rfl
      · rw [hA.lay.ar.1] at hc; cases hc
      · rw [hA.lay.ar.2] at hc; cases hc
      · omega
    · simp only [List.mem_cons, List.not_mem_nil, or_false] at hb
      rcases hb with rfl | rfl | rfl
      · exact .inl rfl
      · exact .inr (.inl rfl)
      · exact .inr (.inr (.inr (.inr (.inr rfl))))
  · intro v o home' n' pl' F' col' w' g' hA' ho hb hs' K'
    obtain ⟨h0, h1, h3⟩ := hb
    have hc : col' (w.heap.size + 2) = .ag a.j := ho _ ((h0 _).1 (.inr rfl))
    have hFn : F' (w.heap.size + 2) = none := hA'.lay.free _ (by rw [hc]; rfl)
    have kk := ks_setCell w' ⟨w.heap.size + 2, 0, none⟩ (.int .u64 v)
    obtain ⟨hA3, hM3⟩ := hA'.turn kk (hA'.lies.setCell _ _) (fun b hb => by
      have e : b = w.heap.size + 2 := hb
      subst e; exact .inl hc)
    refine update_out (cell_of_row h3 0) (free_of_row h3 0) ⟨fun i s' x hi hx => ?_, fun i s' x hi hx e => ?_⟩ (hres v home' n' pl' F' _ _ g' hA3 (fun b hb => ?_) (hP.st _ _ h1 fun b hb => kk.block b (hP.lt _ _ h1 hb) ?_) ((hSh g').st _ _ hs' fun b hb => kk.block b ((hSh g').lt _ _ hs' hb) ?_) (Kont.moves hM3 K'))
    · obtain ⟨lo, hi', z, _, _⟩ := hA'.lies.still i s' _ x hi hx
      rw [hFn] at z; cases z
    · obtain ⟨_, _, _, _, _, _, hh⟩ := hA'.lies.chans i s' x hi hx
      rw [e] at hh
      simp only at hh
      rw [h3] at hh; cases hh
    · exact grown_ag hA'.lay (ho b ((h0 b).1 (.inl hb)))
    · intro e
      have e' : b = w.heap.size + 2 := e
      have := holt b hb
      omega
    · intro e
      have e' : b = w.heap.size + 2 := e
      have := hA'.lay.sb b hb
      rw [e', hc] at this; cases this
  · intro home' n' pl' F' col' w' g' hE ho ha hs' K'
    have hne : (Frame.enter Try.prog 112 #[.pointer (some ⟨a.m, 0, none⟩), .int .i64 k, .func (.func f) #[] cap] CallKind.normal).kind = .normal := rfl
    refine Win.unwinds (chain := [haltE]) rfl rfl rfl ?_
    exact hstop home' n' pl' F' col' w' g' hE (fun b hb => ho b (.inl hb)) ha.1 hs' K'
end
end Go.Proofs.Ytodcnhodbeakiaa
