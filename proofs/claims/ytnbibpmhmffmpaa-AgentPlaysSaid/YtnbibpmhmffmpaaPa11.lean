/- Agents by trees, on: how what is held is carried over what an agent does by itself. Conditions: none. Agents by trees, on: a touch, as the program sees it: it is handed to who steps; behind the turn the program goes on. Package agent, the side of the program: a touch that comes back from a stop throws; and a touch as a whole, by the tree that the program follows. Written by gen/ag_p.py. Package agent: what a touch does, alone: a Read, a Write, an Update of an arena's word. Agents by trees, on: Read, Write and Update, as the program calls them; and its end. Conditions: as each theorem states them. -/
import Derived.Test.YtnbibpmhmffmpaaPa10
namespace Go.Proofs.Ytnbibpmhmffmpaa
set_option linter.unusedVariables false
set_option linter.unusedSimpArgs false
set_option maxRecDepth 100000
open Go.Conc
open Go.ConcN (upd upd_ne upd_same)

section
variable {G : Type} {Post : Value → World → Prop} {Sh : World → G → Prop} {SB : Nat → Prop} {pA rA : Nat} {a : Ag} {mv : Value} {home : Goroutine → Prop} {n : Nat} {T : Tree G} {runs ov : Bool}
variable {pl pl' : Nat → Option Place} {F F' F1 : Nat → Option (Nat × Nat)} {col col' col1 : Nat → Col} {w w' w1 : World} {g : G} {S : Nat → Prop}

theorem Moves.pre (h : Moves (mine a col) a.j F col w F1 col1 w1) (k : Moves (mine a col1) a.j F1 col1 w1 F' col' w') : Moves (mine a col) a.j F col w F' col' w' := by
  refine ⟨h.ks.then k.ks fun i hi hm => ?_, fun b hb => (k.colo b (Nat.lt_of_lt_of_le hb h.ks.size)).trans (h.colo b hb), fun b h1 h2 => ?_, fun b hb => (k.fo b (Nat.lt_of_lt_of_le hb h.ks.size)).trans (h.fo b hb)⟩
  · unfold mine at hm ⊢
    rw [h.colo i hi] at hm; exact hm
  · by_cases hb : b < w1.heap.size
    · rw [k.colo b hb]; exact h.coln b h1 hb
    · exact k.coln b (by omega) h2
theorem Moves.mono {T : Nat → Prop} {j : Nat} (h : Moves S j F col w F1 col1 w1) (hs : ∀ k, k < w.heap.size → S k → T k) : Moves T j F col w F1 col1 w1 := ⟨h.ks.mono hs, h.colo, h.coln, h.fo⟩

theorem Kont.moves (h : Moves (mine a col) a.j F col w F1 col1 w1) (K : Kont Post Sh SB pA rA a mv home n T pl F col w g) : Kont Post Sh SB pA rA a mv home n T pl F1 col1 w1 g := by
  unfold Kont KontW at *
  cases T with
  | ret => exact fun pl' F' col' w' gm hg hA => K pl' F' col' w' gm hg ⟨h.pre hA.mv, hA.pls, hA.pl0, hA.lies, hA.lay⟩
  | node k φ c nx hl => exact fun pl' F' col' w' gm t hg hA => K pl' F' col' w' gm t hg ⟨h.pre hA.mv, hA.pls, hA.pl0, hA.lies, hA.lay⟩

/-- A move that makes no system's block and turns none. -/
theorem moves_plain {j : Nat} (h : Ks S w w1) (hS : ∀ b, b < w.heap.size → S b → (col b).isSys = false) : Moves S j F col w F (fun b => if w.heap.size ≤ b ∧ b < w1.heap.size then .ag j else col b) w1 := by
  refine ⟨h, fun b hb => ?_, fun b h1 h2 => ?_, fun _ _ => rfl⟩
  · rw [if_neg (by omega)]
  · rw [if_pos ⟨h1, h2⟩]; exact .inl rfl
theorem Lay.plain {j : Nat} (h : Lay SB pA rA col F w) (k : Ks S w w1) : Lay SB pA rA (fun b => if w.heap.size ≤ b ∧ b < w1.heap.size then .ag j else col b) F w1 := by
  have hz := k.size
  have hlow : ∀ b, col b ≠ .main → ¬ (w.heap.size ≤ b ∧ b < w1.heap.size) := fun b hb hx => hb (h.above b hx.1)
  refine ⟨fun b hb => ?_, fun b hb => ?_, fun b hb => ?_, ?_, ?_⟩
  · by_cases hc : w.heap.size ≤ b ∧ b < w1.heap.size
    · exact h.free b (by rw [h.above b hc.1]; rfl)
    · rw [if_neg hc] at hb; exact h.free b hb
  · rw [if_neg (by omega)]; exact h.above b (by omega)
  · rw [if_neg (hlow b (by rw [h.sb b hb]; simp))]; exact h.sb b hb
  · rw [if_neg (hlow _ (by rw [h.ar.1]; simp))]; exact h.ar.1
  · rw [if_neg (hlow _ (by rw [h.ar.2]; simp))]; exact h.ar.2
theorem Open.keep {c : Nat} (h : Open c w) (k : Ks S w w1) (hn : ¬ S c) : Open c w1 := by
  obtain ⟨x, hx⟩ := h
  exact ⟨x, k.row hn hx⟩
/-- What the agent does by itself to blocks of its own, to shared ones, or by making new ones. -/
theorem Acts.plain (h : Acts SB pA rA a mv home runs ov pl F col w) (k : Ks S w w1) (hL : Lies pl F w1) (hS : ∀ b, S b → col b = .ag a.j ∨ col b = .shared) :
    Acts SB pA rA a mv home runs ov pl F (fun b => if w.heap.size ≤ b ∧ b < w1.heap.size then .ag a.j else col b) w1 := by
  have hsys : ∀ b, col b = .sys a.j → ¬ S b := fun b hb hx => by rcases hS b hx with z | z <;> rw [hb] at z <;> cases z
  have hlow : ∀ b, col b = .sys a.j → ¬ (w.heap.size ≤ b ∧ b < w1.heap.size) := fun b hb hx => by rw [h.lay.above b hx.1] at hb; cases hb
  obtain ⟨nx, bz, hst⟩ := h.st
  exact ⟨h.jpos, hL, h.lay.plain k, h.seat, h.absent, h.alone, ⟨nx, bz, k.row (hsys _ h.cp) hst⟩, k.row (hsys _ h.cm) h.me, h.fm, h.fp, by show (if _ then _ else _) = _; rw [if_neg (hlow _ h.cm)]; exact h.cm, by show (if _ then _ else _) = _; rw [if_neg (hlow _ h.cp)]; exact h.cp, by show (if _ then _ else _) = _; rw [if_neg (hlow _ h.ccT)]; exact h.ccT, by show (if _ then _ else _) = _; rw [if_neg (hlow _ h.ccU)]; exact h.ccU, by show (if _ then _ else _) = _; rw [if_neg (hlow _ h.ccS)]; exact h.ccS, h.dis,
    h.oT.keep k (hsys _ h.ccT), h.oU.keep k (hsys _ h.ccU), fun z => (h.oS z).keep k (hsys _ h.ccS)⟩
end
end Go.Proofs.Ytnbibpmhmffmpaa

namespace Go.Proofs.Ytnbibpmhmffmpaa
set_option linter.unusedVariables false
set_option linter.unusedSimpArgs false
set_option maxRecDepth 100000
open Go.Conc
open Go.ConcN (upd upd_ne upd_same)

section
variable {G : Type} {Post : Value → World → Prop} {Sh : World → G → Prop} {SB : Nat → Prop} {pA rA : Nat} {a : Ag} {mv : Value} {home : Goroutine → Prop} {n : Nat} {T : Tree G} {runs ov : Bool}
variable {pl pl' : Nat → Option Place} {F F' F1 : Nat → Option (Nat × Nat)} {col col' col1 : Nat → Col} {w w' w1 : World} {g : G} {S : Nat → Prop}

/-- What one that waits at its turn can be told of its memory. -/
theorem Acts.free1 (h : Acts SB pA rA a mv home runs ov pl F col w) (o : Nat) (ho : 0 < o) : Free pl ⟨a.m, o, none⟩ := by
  refine ⟨fun i s v hi hs => ?_, fun i s c hi hc e => ?_⟩
  · obtain ⟨lo, hi', h1, h2, h3⟩ := h.lies.still i s _ v hi hs
    simp only at h1 h2 h3
    rw [h.fm] at h1
    cases h1
    omega
  · obtain ⟨_, _, _, _, _, _, hh⟩ := h.lies.chans i s c hi hc
    have hm := h.me
    unfold MeAt at hm
    simp only at e
    rw [← e, hh] at hm
    cases hm
theorem Acts.pm (h : Acts SB pA rA a mv home runs ov pl F col w) : a.p ≠ a.m := by
  intro e
  obtain ⟨nx, bz, hst⟩ := h.st
  have hm := h.me
  unfold MeAt at hm
  unfold StAt at hst
  rw [← e, hst] at hm
  simp at hm
theorem Acts.pT (h : Acts SB pA rA a mv home runs ov pl F col w) : a.cT ≠ a.p ∧ a.cT ≠ a.m := by
  obtain ⟨nx, bz, hst⟩ := h.st
  obtain ⟨k, hk⟩ := h.oT
  have hm := h.me
  unfold MeAt at hm
  unfold StAt at hst
  exact ⟨fun e => (by rw [← e, hk] at hst; cases hst), fun e => (by rw [← e, hk] at hm; cases hm)⟩

/-- The memory runs, or does not. -/
theorem Acts.run {r : Bool} (h : Acts SB pA rA a mv home runs ov pl F col w) : Acts SB pA rA a mv home r ov pl F col (w.setCell ⟨a.m, 1, none⟩ (.bool r)) ∧ Moves (mine a col) a.j F col w F col (w.setCell ⟨a.m, 1, none⟩ (.bool r)) := by
  have k := ks_setCell w ⟨a.m, 1, none⟩ (.bool r)
  have hne : ∀ {b : Nat}, b ≠ a.m → ¬ (b = (⟨a.m, 1, none⟩ : Addr).block) := fun hb => hb
  have hz : (w.setCell ⟨a.m, 1, none⟩ (.bool r)).heap.size = w.heap.size := by simp [World.setCell]
  obtain ⟨nx, bz, hst⟩ := h.st
  have hmU : a.cU ≠ a.m := fun e => by obtain ⟨k, hk⟩ := h.oU; have hm := h.me; unfold MeAt at hm; rw [← e, hk] at hm; cases hm
  have hmS : ov = false → a.cS ≠ a.m := fun z e => by obtain ⟨k, hk⟩ := h.oS z; have hm := h.me; unfold MeAt at hm; rw [← e, hk] at hm; cases hm
  refine ⟨⟨h.jpos, h.lies.setCell _ _, ⟨h.lay.free, fun b hb => h.lay.above b (by rw [hz] at hb; exact hb), h.lay.sb, h.lay.ar⟩, h.seat, h.absent, h.alone, ⟨nx, bz, k.row (hne h.pm) hst⟩, ?_, h.fm, h.fp, h.cm, h.cp, h.ccT, h.ccU, h.ccS, h.dis, h.oT.keep k (hne h.pT.2), h.oU.keep k (hne hmU), fun z => (h.oS z).keep k (hne (hmS z))⟩, ⟨k.mono fun b hb e => ?_, fun _ _ => rfl, fun b h1 h2 => by omega, fun _ _ => rfl⟩⟩
  · have := heap_setCell_same w a.m 1 _ _ (.bool r) h.me
    unfold MeAt
    rw [this]
    simp
  · right; left
    have e' : b = a.m := e
    subst e'
    exact ⟨h.cm, h.pm.symm⟩

theorem turnSeat_has {p m b3 cU cS c : Nat} {home : Goroutine → Prop} (h : (turnSeat p m b3 cU cS home).has c) : c = cU ∨ c = cS := by
  obtain ⟨k, z, hk⟩ := h
  simp only [turnSeat] at hk
  rcases k with _ | _ | k
  · simp [rcase] at hk; exact .inl hk.1.symm
  · simp [rcase] at hk; exact .inr hk.1.symm
  · simp at hk
theorem turnSeat_wf {p m b3 cU cS : Nat} {home : Goroutine → Prop} (h : cU ≠ cS) : (turnSeat p m b3 cU cS home).Wf := by
  refine ⟨fun cc hcc => ?_, fun k k' c z z' h1 h2 => ?_⟩
  · simp only [turnSeat, List.mem_toArray, List.mem_cons, List.not_mem_nil, or_false] at hcc
    rcases hcc with rfl | rfl <;> exact ⟨_, _, rfl⟩
  · simp only [turnSeat] at h1 h2
    rcases k with _ | _ | k <;> rcases k' with _ | _ | k' <;> simp [rcase] at h1 h2
    · rfl
    · exact absurd (h1.1.trans h2.1.symm) h
    · exact absurd (h2.1.trans h1.1.symm) h
    · rfl

theorem handed_heap (w : World) (m b : Nat) (hb : b < w.heap.size) (hm : b ≠ m) : (handed w m).heap[b]? = w.heap[b]? := by
  unfold handed
  rw [(ks_setCell _ _ _).block b (by show _ < (w.heap.push _).size; simp; omega) hm]
  exact alloc_heap w _ b hb

set_option maxHeartbeats 1000000 in
/-- THE TOUCH IS HANDED OVER. -/
theorem park (hSh : ∀ g, Priv SB (fun w => Sh w g)) {k : Int} {φ : Int → Int} {c : Int → G → G} {nx : Int → G → Tree G} {hl : G → G} {c₀ : Frame} {cs : List Frame} {f : FuncId} {cap : Array Value} {own : Nat → Prop} {A : World → Prop} {B : Int → (Nat → Prop) → World → Prop}
    (hA : Acts SB pA rA a mv home true false pl F col w) (hown : ∀ b, own b → col b = .ag a.j) (hP : Priv own A) (hB : ∀ v o, Priv o (B v o)) (hAw : A w) (hs : Sh w g)
    (hfnn : ∃ fn : Func, Try.prog.funcs[f]? = some fn ∧ fn.body.isNone = false) (htouch : ∀ w' s, A w' → Ar w' pA rA s → s.ws.length ≤ 4096 → s.t ≤ 4095 → Bnd s → Calls Try.prog f (#[mv] ++ cap) w' fun e w2 => e = .returned (.tuple #[]) ∧ Ar w2 pA rA (Go.Proofs.Ytnbibpmhmffmpaa.upd s k (φ (was s k))) ∧
        (∃ o, (∀ b, o b → own b ∨ (w'.heap.size ≤ b ∧ b < w2.heap.size)) ∧ B (was s k) o w2) ∧ Ks (fun b => b = pA ∨ b = rA ∨ own b) w' w2)
    (hres : ∀ v o home n pl' F' col' w' g, Acts SB pA rA a mv home true false pl' F' col' w' → (∀ b, o b → col' b = .ag a.j) → B v o w' → Sh w' g → Kont Post Sh SB pA rA a mv home n (nx v g) pl' F' col' w' (c v g) → Win Try.prog Post pl' n a.j (gor (c₀.finish (.tuple #[])) cs) w')
    (hstop : ∀ home n pl' F' col' w' g, Acts SB pA rA a mv home true true pl' F' col' w' → (∀ b, own b → col' b = .ag a.j) → A w' → Sh w' g → Kont Post Sh SB pA rA a mv home n .ret pl' F' col' w' (hl g) → Win Try.prog Post pl' n a.j (gor (c₀.finish (.tuple #[])) cs) w')
    (K : Kont Post Sh SB pA rA a mv home n (.node k φ c nx hl) pl F col w g) :
    Win Try.prog Post pl n a.j (gor (Frame.enter Try.prog 128 #[.pointer (some ⟨a.m, 0, none⟩), .func (.func f) #[] cap] .normal) (c₀ :: cs)) w := by
  obtain ⟨more, hseat⟩ := hA.seat
  obtain ⟨nxv, bz, hst⟩ := hA.st
  have hme := hA.me
  unfold MeAt at hme
  unfold StAt at hst
  have hpm := hA.pm
  have hpT := hA.pT
  have hmlt := lt_of_block hme
  have hplt := lt_of_block hst
  obtain ⟨kT, hT⟩ := hA.oT
  obtain ⟨kU, hU⟩ := hA.oU
  obtain ⟨kS, hS⟩ := hA.oS rfl
  have hmU : a.cU ≠ a.m := fun e => by rw [← e, hU] at hme; cases hme
  have hmS : a.cS ≠ a.m := fun e => by rw [← e, hS] at hme; cases hme
  have hU' : (handed w a.m).heap[a.cU]? = some (.chan 0 #[] false kU kU false) := (handed_heap w a.m _ (lt_of_block hU) hmU).trans hU
  have hS' : (handed w a.m).heap[a.cS]? = some (.chan 0 #[] false kS kS false) := (handed_heap w a.m _ (lt_of_block hS) hmS).trans hS
  have hp' : (handed w a.m).heap[a.p]? = _ := (handed_heap w a.m _ hplt hpm).trans hst
  have hm' : (handed w a.m).heap[a.m]? = some (.cells #[.pointer (some ⟨a.p, 0, none⟩), .bool false, .int .i64 0] 138 (0, 0)) := by
    have := heap_setCell_same (w.alloc (.cells #[.pointer (some ⟨a.m, 0, none⟩)] 136)) a.m 1 _ _ (.bool false) ((alloc_heap w _ a.m hmlt).trans hme)
    unfold handed
    rw [this]
    simp
  have hb3 : (handed w a.m).heap[w.heap.size]? = some (.cells #[.pointer (some ⟨a.m, 0, none⟩)] 136 (0, 0)) := by
    unfold handed
    rw [(ks_setCell _ _ _).block w.heap.size (by show _ < (w.heap.push _).size; simp) (by show ¬ w.heap.size = a.m; omega)]
    exact alloc_new w _
  have hz3 : (handed w a.m).heap.size = w.heap.size + 1 := by
    unfold handed
    rw [show ∀ (W : World) ad x, (W.setCell ad x).heap.size = W.heap.size from fun W ad x => by simp [World.setCell]]
    exact Array.size_push _
  have hcol3 : col w.heap.size = .main := hA.lay.above _ (Nat.le_refl _)
  refine wait_hands hA.lies (cell_of_row hme 0) (cell_of_row hme 1) (free_of_row hme 1) (cell_of_row hst 1) (cell_of_row hst 2) (cell_of_row hst 3) (hA.free1 1 (by omega)) hpm hseat ?_ ?_
  · refine ⟨turnSeat_wf hA.dis.2.2, fun c hc => ?_, fun i s' c hi hc hc' => ?_, fun ad v hv => ?_, 60, way_turn _ _ _ _ _ _ _ _ _⟩
    · rcases turnSeat_has hc with rfl | rfl
      · exact ⟨kU, hU'⟩
      · exact ⟨kS, hS'⟩
    · rcases turnSeat_has hc' with rfl | rfl
      · exact (hA.alone i s' hi).1 hc
      · exact (hA.alone i s' hi).2 hc
    · rcases hv with ⟨rfl, rfl⟩ | ⟨rfl, rfl⟩ | ⟨rfl, rfl⟩ | ⟨rfl, rfl⟩
      · rw [cell_of_row hp']; rfl
      · rw [cell_of_row hp']; rfl
      · rw [cell_of_row hm']; rfl
      · rw [cell_of_row hb3]; rfl
  · intro g₂ d x hg₂ hTx
    have hcT : ((handed w a.m).at d).heap[a.cT]? = some (.chan 0 #[] false x x false) := hTx
    have hks : Ks (fun b => b = a.m ∨ b = a.cT) w (((handed w a.m).at d).setChan a.cT 0 #[] false (x + 1) (x + 1) false) :=
      ((((ks_alloc (fun b => b = a.m ∨ b = a.cT) w _).then (ks_setCell _ ⟨a.m, 1, none⟩ _) (fun i _ e => .inl e)).at d).then (ks_setChan _ a.cT 0 #[] false (x + 1) (x + 1) false) (fun i _ e => .inr e))
    have hW : (((handed w a.m).at d).setChan a.cT 0 #[] false (x + 1) (x + 1) false).heap.size = w.heap.size + 1 := by
      rw [← hz3]; simp [World.setChan, World.at]
    have hL : Lies pl (Go.ConcN.upd F w.heap.size (some (0, 1))) (((handed w a.m).at d).setChan a.cT 0 #[] false (x + 1) (x + 1) false) := by
      refine Lies.setChan ?_ hcT _ _ _ _ _ _
      refine Lies.at ?_ d
      refine Lies.more ((hA.lies.alloc _).setCell _ _) (fun i lo hi hi' => ?_) (fun i r hr => ?_)
      · have hlt : i ≠ w.heap.size := fun e => by
          rw [e, hA.lay.free _ (by rw [hcol3]; rfl)] at hi'; cases hi'
        exact ⟨lo, hi, by rw [upd_ne _ _ hlt]; exact hi', Nat.le_refl _, Nat.le_refl _⟩
      · by_cases e : i = w.heap.size
        · subst e; exact ⟨_, _, hb3⟩
        · rw [upd_ne _ _ e] at hr
          exact ((hA.lies.alloc _).setCell _ _).lies i r hr
    have hoth : ∀ {b : Nat} {o : Obj}, (handed w a.m).heap[b]? = some o → b ≠ a.cT → (((handed w a.m).at d).setChan a.cT 0 #[] false (x + 1) (x + 1) false).heap[b]? = some o := fun ho hne => by
      rw [heap_setChan_ne _ _ _ _ _ _ _ (Ne.symm hne)]; exact ho
    have hb3T : w.heap.size ≠ a.cT := fun e => by have := lt_of_block hT; omega
    have hUW := hoth hU' hA.dis.1.symm
    have hSW := hoth hS' hA.dis.2.1.symm
    have hmW := hoth hm' (Ne.symm hpT.2)
    have hbW := hoth hb3 hb3T
    have hF3 : (Go.ConcN.upd F w.heap.size (some (0, 1)) : Nat → Option (Nat × Nat)) w.heap.size = some (0, 1) := upd_same _ _ _
    have hFm : (Go.ConcN.upd F w.heap.size (some (0, 1)) : Nat → Option (Nat × Nat)) a.m = some (0, 1) := by rw [upd_ne _ _ (by omega)]; exact hA.fm
    have hFp : (Go.ConcN.upd F w.heap.size (some (0, 1)) : Nat → Option (Nat × Nat)) a.p = some (1, 4) := by rw [upd_ne _ _ (by omega)]; exact hA.fp
    have hlow : ∀ b, col b ≠ .main → b ≠ w.heap.size := fun b hb e => hb (by rw [e]; exact hcol3)
    have KK := K
    unfold Kont KontW at KK
    refine KK _ (Go.ConcN.upd F w.heap.size (some (0, 1))) (Go.ConcN.upd col w.heap.size (.sys a.j)) _ g₂ (.func (.func f) #[] cap) hg₂ ⟨⟨?_, ?_, ?_, ?_⟩, ?_, ?_, ?_, ?_⟩ ?_ ?_ ?_ ?_ ?_
    · refine hks.mono fun b _ e => ?_
      rcases e with rfl | rfl
      · exact .inr (.inl ⟨hA.cm, hpm.symm⟩)
      · exact .inr (.inl ⟨hA.ccT, hpT.1⟩)
    · exact fun b hb => upd_ne _ _ (by omega)
    · intro b h1 h2
      rw [hW] at h2
      obtain rfl : b = w.heap.size := by omega
      rw [upd_same]; exact .inr rfl
    · exact fun b hb => upd_ne _ _ (by omega)
    · exact fun i h0 hj => moved_ne pl _ hj h0
    · exact moved_j pl _ (by have := hA.jpos; omega)
    · refine (hL.drop 0).put a.j (fun c hc => ?_) (fun ad v hv => ?_)
      · rcases turnSeat_has hc with rfl | rfl
        · exact ⟨_, _, _, _, _, _, hUW⟩
        · exact ⟨_, _, _, _, _, _, hSW⟩
      · rcases hv with ⟨rfl, _⟩ | ⟨rfl, _⟩ | ⟨rfl, _⟩ | ⟨rfl, _⟩
        · exact ⟨1, 4, hFp, by simp, by simp⟩
        · exact ⟨1, 4, hFp, by simp, by simp⟩
        · exact ⟨0, 1, hFm, by simp, by simp⟩
        · exact ⟨0, 1, hF3, by simp, by simp⟩
    · refine ⟨fun b hb => ?_, fun b hb => ?_, fun b hb => ?_, ?_, ?_⟩
      · by_cases e : b = w.heap.size
        · subst e; rw [upd_same] at hb; cases hb
        · rw [upd_ne _ _ e] at hb ⊢; exact hA.lay.free b hb
      · rw [hW] at hb
        rw [upd_ne _ _ (by omega)]; exact hA.lay.above b (by omega)
      · rw [upd_ne _ _ (hlow b (by rw [hA.lay.sb b hb]; simp))]; exact hA.lay.sb b hb
      · rw [upd_ne _ _ (hlow _ (by rw [hA.lay.ar.1]; simp))]; exact hA.lay.ar.1
      · rw [upd_ne _ _ (hlow _ (by rw [hA.lay.ar.2]; simp))]; exact hA.lay.ar.2
    · exact ⟨_, heap_setChan_self _ hcT _ _ _ _ _ _⟩
    · exact ⟨kU, hUW⟩
    · exact ⟨kS, hSW⟩
    · have hsame : ∀ b, own b → (((handed w a.m).at d).setChan a.cT 0 #[] false (x + 1) (x + 1) false).heap[b]? = w.heap[b]? := fun b hb => hks.block b (hP.lt w b hAw hb) fun e => by
        have := hown b hb
        rcases e with rfl | rfl
        · rw [hA.cm] at this; cases this
        · rw [hA.ccT] at this; cases this
      refine ⟨w.heap.size, _, own, A, B, f, cap, moved_h pl a.j 0 _, fun b hb => ?_, hP, hB, hP.st _ _ hAw hsame, hmW, hbW, upd_same _ _ _, hFm, hF3, ⟨rfl, hfnn⟩, htouch, ?_, ?_⟩
      · rw [upd_ne _ _ (hlow b (by rw [hown b hb]; simp))]; exact hown b hb
      · intro v o home' n' pl' F' col' w' g' gj hgj hA' ho hBo hb3' hs' K'
        subst hgj
        obtain ⟨hA'', hM⟩ := hA'.run (r := true)
        refine turn_back (cell_of_row hb3' 0) (cell_of_row hA'.me 1) (free_of_row hA'.me 1) (hA'.free1 1 (by omega)) ?_
        refine hres v o home' n' pl' F' col' _ g' hA'' ho ((hB v o).st _ _ hBo fun b hb => ?_) ((hSh g').st _ _ hs' fun b hb => ?_) (Kont.moves hM K')
        · exact (ks_setCell w' ⟨a.m, 1, none⟩ (.bool true)).block b ((hB v o).lt _ _ hBo hb) fun e => by
            have e' : b = a.m := e
            have := ho b hb
            rw [e', hA'.cm] at this; cases this
        · exact (ks_setCell w' ⟨a.m, 1, none⟩ (.bool true)).block b ((hSh g').lt _ _ hs' hb) fun e => by
            have e' : b = a.m := e
            have := hA'.lay.sb b hb
            rw [e', hA'.cm] at this; cases this
      · intro home' n' pl' F' col' w' g' gj hgj hA' ho hAo hb3' hs' K'
        subst hgj
        obtain ⟨hA'', hM⟩ := hA'.run (r := true)
        refine stop_back (cell_of_row hb3' 0) (cell_of_row hA'.me 1) (free_of_row hA'.me 1) (hA'.free1 1 (by omega)) ?_
        refine hstop home' n' pl' F' col' _ g' hA'' ho (hP.st _ _ hAo fun b hb => ?_) ((hSh g').st _ _ hs' fun b hb => ?_) (Kont.moves (mv := mv) (Post := Post) (pA := pA) (rA := rA) (T := (.ret : Tree G)) hM K')
        · exact (ks_setCell w' ⟨a.m, 1, none⟩ (.bool true)).block b (hP.lt _ _ hAo hb) fun e => by
            have e' : b = a.m := e
            have := ho b hb
            rw [e', hA'.cm] at this; cases this
        · exact (ks_setCell w' ⟨a.m, 1, none⟩ (.bool true)).block b ((hSh g').lt _ _ hs' hb) fun e => by
            have e' : b = a.m := e
            have := hA'.lay.sb b hb
            rw [e', hA'.cm] at this; cases this
    · exact (hSh g).st _ _ hs fun b hb => hks.block b ((hSh g).lt _ _ hs hb) fun e => by
        have := hA.lay.sb b hb
        rcases e with rfl | rfl
        · rw [hA.cm] at this; cases this
        · rw [hA.ccT] at this; cases this
end
end Go.Proofs.Ytnbibpmhmffmpaa

namespace Go.Proofs.Ytnbibpmhmffmpaa
open List renaming getElem_toArray → gtA, getElem_cons_zero → gtZ, getElem_cons_succ → gtS, setIfInBounds_toArray → siA, set_cons_succ → scS, set_cons_zero → scZ, getElem?_toArray → gqA, getElem?_cons_zero → gqZ, getElem?_cons_succ → gqS
set_option linter.unusedVariables false
set_option linter.unusedSimpArgs false
set_option maxRecDepth 100000
open Go.Conc

/-- What a stopped program is unwound by. -/
def haltE : PanicEntry := { v := .iface 141 (.agg #[]), recovered := false }

section
variable {pl : Nat → Option Place} {n h : Nat} {Post : Value → World → Prop} {w : World}

/-- Behind a stop: the touch throws. -/
theorem mtouch_late {c : Frame} {cs : List Frame} {p m : Nat} {t : Value} (hm0 : w.cell? ⟨m, 0, none⟩ = some (.pointer (some ⟨p, 0, none⟩))) (hm1 : w.cell? ⟨m, 1, none⟩ = some (.bool true)) (hp6 : w.cell? ⟨p, 6, none⟩ = some (.bool true)) (hm2 : w.cell? ⟨m, 2, none⟩ = some (.int .i64 0)) (hf2 : w.frozen? ⟨m, 2, none⟩ = false) (F2 : Free pl ⟨m, 2, none⟩)
    (H : Win Try.prog Post pl n h (gor (c.raise [haltE]) cs) (w.setCell ⟨m, 2, none⟩ (.int .i64 4096))) : Win Try.prog Post pl n h (gor ((touchFr Try.prog Try.f124 p m t).finish (.tuple #[])) (c :: cs)) w := by
  unfold touchFr
  rw [Frame.finish_at]
  have hne : (Frame.enter Try.prog 124 #[.pointer (some ⟨m, 0, none⟩), t] CallKind.normal).kind = .normal := rfl
  simp only [bodyOf, Try.f124, codeL, codeR, condT, regOps, Option.getD_some]
  simp only [Act.put, Act.eval, gqA, gqZ, gqS, Option.bind_some, gtA, gtZ, gtS, siA, scS, scZ]
  refine Win.opsEnd ?_
  refine Win.seq ?_
  refine Win.region ?_
  simp only [List.size_toArray, List.length_cons, List.length_nil, Nat.reduceAdd, List.range, List.range.loop]
  refine Win.pureOp (v := .pointer (some ⟨m, 0, none⟩)) (.inl hne) rfl rfl (fun w => rfl) ?_
  simp only [Act.put, Act.eval, gtA, gtZ, gtS, siA, scS, scZ]
  refine Win.pureOp (v := .pointer (some ⟨m, 0, none⟩)) (.inl hne) rfl rfl (fun w => by rw [Sem.runT_eq]; simp [go_sem, execOp, Act.eval]) ?_
  simp only [Act.put, Act.eval, gtA, gtZ, gtS, siA, scS, scZ]
  refine Win.pureOp (v := .pointer (some ⟨m, 1, none⟩)) (.inl hne) rfl rfl (fun w => by rw [Sem.runT_eq]; simp [go_sem, execOp, Act.eval]) ?_
  simp only [Act.put, Act.eval, gtA, gtZ, gtS, siA, scS, scZ]
  refine Win.lookOp (v := .bool true) (ad := ⟨m, 1, none⟩) (x := .bool true) (.inl hne) rfl rfl (hm1) (fun w hc => by rw [Sem.runT_eq]; simp [go_sem, execOp, Act.eval, hc]) ?_
  simp only [Act.put, Act.eval, gtA, gtZ, gtS, siA, scS, scZ]
  refine Win.pureOp (v := .bool true) (.inl hne) rfl rfl (fun w => rfl) ?_
  simp only [Act.put, Act.eval, gtA, gtZ, gtS, siA, scS, scZ]
  refine Win.pureOp (v := .pointer (some ⟨m, 0, none⟩)) (.inl hne) rfl rfl (fun w => rfl) ?_
  simp only [Act.put, Act.eval, gtA, gtZ, gtS, siA, scS, scZ]
  refine Win.pureOp (v := .pointer (some ⟨m, 0, none⟩)) (.inl hne) rfl rfl (fun w => by rw [Sem.runT_eq]; simp [go_sem, execOp, Act.eval]) ?_
  simp only [Act.put, Act.eval, gtA, gtZ, gtS, siA, scS, scZ]
  refine Win.pureOp (v := .pointer (some ⟨m, 0, none⟩)) (.inl hne) rfl rfl (fun w => by rw [Sem.runT_eq]; simp [go_sem, execOp, Act.eval]) ?_
  simp only [Act.put, Act.eval, gtA, gtZ, gtS, siA, scS, scZ]
  refine Win.lookOp (v := .pointer (some ⟨p, 0, none⟩)) (ad := ⟨m, 0, none⟩) (x := .pointer (some ⟨p, 0, none⟩)) (.inl hne) rfl rfl (hm0) (fun w hc => by rw [Sem.runT_eq]; simp [go_sem, execOp, Act.eval, hc]) ?_
  simp only [Act.put, Act.eval, gtA, gtZ, gtS, siA, scS, scZ]
  refine Win.pureOp (v := .pointer (some ⟨p, 0, none⟩)) (.inl hne) rfl rfl (fun w => by rw [Sem.runT_eq]; simp [go_sem, execOp, Act.eval]) ?_
  simp only [Act.put, Act.eval, gtA, gtZ, gtS, siA, scS, scZ]
  refine Win.pureOp (v := .pointer (some ⟨p, 6, none⟩)) (.inl hne) rfl rfl (fun w => by rw [Sem.runT_eq]; simp [go_sem, execOp, Act.eval]) ?_
  simp only [Act.put, Act.eval, gtA, gtZ, gtS, siA, scS, scZ]
  refine Win.lookOp (v := .bool true) (ad := ⟨p, 6, none⟩) (x := .bool true) (.inl hne) rfl rfl (hp6) (fun w hc => by rw [Sem.runT_eq]; simp [go_sem, execOp, Act.eval, hc]) ?_
  simp only [Act.put, Act.eval, gtA, gtZ, gtS, siA, scS, scZ]
  refine Win.pureOp (v := .bool true) (.inl hne) rfl rfl (fun w => rfl) ?_
  simp only [Act.put, Act.eval, gtA, gtZ, gtS, siA, scS, scZ]
  refine Win.opsEnd ?_
  refine Win.cond (t := true) rfl ?_
  simp only [if_true]
  refine Win.region ?_
  simp only [List.size_toArray, List.length_cons, List.length_nil, Nat.reduceAdd, List.range, List.range.loop]
  refine Win.pureOp (v := .pointer (some ⟨m, 0, none⟩)) (.inl hne) rfl rfl (fun w => rfl) ?_
  simp only [Act.put, Act.eval, gtA, gtZ, gtS, siA, scS, scZ]
  refine Win.enter (f := 123) (args := #[.pointer (some ⟨m, 0, none⟩)]) (.inl hne) rfl rfl (fun d => ⟨#[], call_enter mild.toMild Try.func123 rfl rfl rfl rfl _ _ (by simp [Act.eval]), fun e he => by simp at he⟩) ?_
  have hne2 : (Frame.enter Try.prog 123 #[.pointer (some ⟨m, 0, none⟩)] CallKind.normal).kind = .normal := rfl
  rw [enter_at Try.func123 rfl]
  simp only [Try.ntmps123, List.size_toArray, List.length_cons, List.length_nil, Nat.reduceAdd, Nat.reduceSub, Array.replicate_succ, Array.replicate_zero, List.push_toArray, List.append_toArray, List.nil_append, List.cons_append]
  refine Win.seq ?_
  refine Win.seq ?_
  refine Win.region ?_
  simp only [List.size_toArray, List.length_cons, List.length_nil, Nat.reduceAdd, List.range, List.range.loop]
  refine Win.pureOp (v := .pointer (some ⟨m, 0, none⟩)) (.inl hne2) rfl rfl (fun w => rfl) ?_
  simp only [Act.put, Act.eval, gtA, gtZ, gtS, siA, scS, scZ]
  refine Win.pureOp (v := .pointer (some ⟨m, 0, none⟩)) (.inl hne2) rfl rfl (fun w => by rw [Sem.runT_eq]; simp [go_sem, execOp, Act.eval]) ?_
  simp only [Act.put, Act.eval, gtA, gtZ, gtS, siA, scS, scZ]
  refine Win.pureOp (v := .pointer (some ⟨m, 2, none⟩)) (.inl hne2) rfl rfl (fun w => by rw [Sem.runT_eq]; simp [go_sem, execOp, Act.eval]) ?_
  simp only [Act.put, Act.eval, gtA, gtZ, gtS, siA, scS, scZ]
  refine Win.lookOp (v := .int .i64 0) (ad := ⟨m, 2, none⟩) (x := .int .i64 0) (.inl hne2) rfl rfl (hm2) (fun w hc => by rw [Sem.runT_eq]; simp [go_sem, execOp, Act.eval, hc]) ?_
  simp only [Act.put, Act.eval, gtA, gtZ, gtS, siA, scS, scZ]
  refine Win.pureOp (v := .bool true) (.inl hne2) rfl rfl (fun w => by rw [Sem.runT_eq]; simp [go_sem, execOp, Act.eval]) ?_
  simp only [Act.put, Act.eval, gtA, gtZ, gtS, siA, scS, scZ]
  refine Win.opsEnd ?_
  refine Win.cond (t := true) rfl ?_
  simp only [if_true]
  refine Win.seq ?_
  refine Win.region ?_
  simp only [List.size_toArray, List.length_cons, List.length_nil, Nat.reduceAdd, List.range, List.range.loop]
  refine Win.pureOp (v := .pointer (some ⟨m, 0, none⟩)) (.inl hne2) rfl rfl (fun w => rfl) ?_
  simp only [Act.put, Act.eval, gtA, gtZ, gtS, siA, scS, scZ]
  refine Win.pureOp (v := .pointer (some ⟨m, 0, none⟩)) (.inl hne2) rfl rfl (fun w => by rw [Sem.runT_eq]; simp [go_sem, execOp, Act.eval]) ?_
  simp only [Act.put, Act.eval, gtA, gtZ, gtS, siA, scS, scZ]
  refine Win.pureOp (v := .pointer (some ⟨m, 2, none⟩)) (.inl hne2) rfl rfl (fun w => by rw [Sem.runT_eq]; simp [go_sem, execOp, Act.eval]) ?_
  simp only [Act.put, Act.eval, gtA, gtZ, gtS, siA, scS, scZ]
  refine Win.storeOp (ad := ⟨m, 2, none⟩) (x := .int .i64 4096) (.inl hne2) rfl rfl F2 (fun d => by
    rw [Sem.runT_eq]
    obtain ⟨s1, s2⟩ := store_ok (P := Try.prog) (x := .int .i64 4096) (w := w.at d) (m := .plain) (by simp) (by simp) (show (w.at d).cell? ⟨m, 2, none⟩ = some (.int .i64 0) from hm2) (show (w.at d).frozen? ⟨m, 2, none⟩ = false from hf2)
    have c1 : (w.at d).cell? ⟨m, 2, none⟩ = some (.int .i64 0) := hm2
    have c2 : (w.at d).frozen? ⟨m, 2, none⟩ = false := hf2
    generalize w.at d = W at s1 s2 c1 c2 ⊢
    simp [go_sem, execOp, Act.eval, s1, s2, c1, c2]) ?_
  simp only [Act.put, Act.eval, gtA, gtZ, gtS, siA, scS, scZ]
  refine Win.opsEnd ?_
  refine Win.region ?_
  simp only [List.size_toArray, List.length_cons, List.length_nil, Nat.reduceAdd, List.range, List.range.loop]
  refine Win.pureOp (v := .agg #[]) (.inl hne2) rfl rfl (fun w => by rw [Sem.runT_eq]; simp [go_sem, execOp, Act.eval]; try rfl) ?_
  simp only [Act.put, Act.eval, gtA, gtZ, gtS, siA, scS, scZ]
  refine Win.pureOp (v := .iface 141 (.agg #[])) (.inl hne2) rfl rfl (fun w => by rw [Sem.runT_eq]; simp [go_sem, execOp, Act.eval]; try rfl) ?_
  simp only [Act.put, Act.eval, gtA, gtZ, gtS, siA, scS, scZ]
  refine Win.panics (x := .iface 141 (.agg #[])) (.inl hne2) rfl rfl (fun d => ⟨#[], by rw [Sem.runT_eq]; simp [go_sem, execOp, Act.eval]; try rfl, fun e he => by simp at he⟩) ?_
  refine Win.unwinds (chain := [haltE]) rfl rfl rfl ?_
  refine Win.unwinds (chain := [haltE]) rfl rfl rfl ?_
  exact H
end

section
variable {G : Type} {Post : Value → World → Prop} {Sh : World → G → Prop} {SB : Nat → Prop} {pA rA : Nat} {a : Ag} {mv : Value} {home : Goroutine → Prop} {n : Nat}
variable {pl : Nat → Option Place} {F : Nat → Option (Nat × Nat)} {col : Nat → Col} {w : World} {g : G}

theorem Acts.left (h : Acts SB pA rA a mv home true true pl F col w) : Kont Post Sh SB pA rA a mv home n (.ret : Tree G) pl F col w g → Kont Post Sh SB pA rA a mv home n (.ret : Tree G) pl F col (w.setCell ⟨a.m, 2, none⟩ (.int .i64 4096)) g := by
  refine Kont.moves ⟨(ks_setCell w ⟨a.m, 2, none⟩ (.int .i64 4096)).mono fun b hb e => ?_, fun _ _ => rfl, fun b h1 h2 => ?_, fun _ _ => rfl⟩
  · right; left
    have e' : b = a.m := e
    subst e'
    exact ⟨h.cm, h.pm.symm⟩
  · have : (w.setCell ⟨a.m, 2, none⟩ (.int .i64 4096)).heap.size = w.heap.size := by simp [World.setCell]
    omega

/-- The agent is being stopped: it has thrown, and is on its way to its end. -/
structure Ends (SB : Nat → Prop) (pA rA : Nat) (a : Ag) (mv : Value) (home : Goroutine → Prop) (pl : Nat → Option Place) (F : Nat → Option (Nat × Nat)) (col : Nat → Col) (w : World) : Prop where
  jpos : 0 < a.j
  lies : Lies pl F w
  lay : Lay SB pA rA col F w
  seat : ∃ more, pl 0 = some (waitSeat a.p a.cT more home)
  absent : pl a.j = none
  st : ∃ nx bz ov, StAt a mv nx bz ov w
  me : ∃ r l, MeAt a r l w
  fm : F a.m = some (0, 1)
  cm : col a.m = .sys a.j
  cp : col a.p = .sys a.j
  ccT : col a.cT = .sys a.j
  oT : Open a.cT w
theorem Acts.ends {runs ov : Bool} (h : Acts SB pA rA a mv home runs ov pl F col w) : Ends SB pA rA a mv home pl F col w :=
  ⟨h.jpos, h.lies, h.lay, h.seat, h.absent, h.st.elim fun nx h => h.elim fun bz h => ⟨nx, bz, _, h⟩, ⟨_, _, h.me⟩, h.fm, h.cm, h.cp, h.ccT, h.oT⟩

/-- A TOUCH, by the tree. -/
theorem btouch (hSh : ∀ g, Priv SB (fun w => Sh w g)) {k : Int} {φ : Int → Int} {c : Int → G → G} {nx : Int → G → Tree G} {hl : G → G} {c₀ : Frame} {cs : List Frame} {f : FuncId} {cap : Array Value} {own : Nat → Prop} {A : World → Prop} {B : Int → (Nat → Prop) → World → Prop}
    (hA : Acts SB pA rA a mv home true false pl F col w) (hown : ∀ b, own b → col b = .ag a.j) (hP : Priv own A) (hB : ∀ v o, Priv o (B v o)) (hAw : A w) (hs : Sh w g)
    (hfnn : ∃ fn : Func, Try.prog.funcs[f]? = some fn ∧ fn.body.isNone = false) (htouch : ∀ w' s, A w' → Ar w' pA rA s → s.ws.length ≤ 4096 → s.t ≤ 4095 → Bnd s → Calls Try.prog f (#[mv] ++ cap) w' fun e w2 => e = .returned (.tuple #[]) ∧ Ar w2 pA rA (upd s k (φ (was s k))) ∧
        (∃ o, (∀ b, o b → own b ∨ (w'.heap.size ≤ b ∧ b < w2.heap.size)) ∧ B (was s k) o w2) ∧ Ks (fun b => b = pA ∨ b = rA ∨ own b) w' w2)
    (hres : ∀ v o home n pl' F' col' w' g, Acts SB pA rA a mv home true false pl' F' col' w' → (∀ b, o b → col' b = .ag a.j) → B v o w' → Sh w' g → Kont Post Sh SB pA rA a mv home n (nx v g) pl' F' col' w' (c v g) → Win Try.prog Post pl' n a.j (gor (c₀.finish (.tuple #[])) cs) w')
    (hstop : ∀ home n pl' F' col' w' g, Ends SB pA rA a mv home pl' F' col' w' → (∀ b, own b → col' b = .ag a.j) → A w' → Sh w' g → Kont Post Sh SB pA rA a mv home n .ret pl' F' col' w' (hl g) → Win Try.prog Post pl' n a.j (gor (c₀.raise [haltE]) cs) w')
    (K : Kont Post Sh SB pA rA a mv home n (.node k φ c nx hl) pl F col w g) :
    Win Try.prog Post pl n a.j (gor (Frame.enter Try.prog 124 #[.pointer (some ⟨a.m, 0, none⟩), .func (.func f) #[] cap] .normal) (c₀ :: cs)) w := by
  obtain ⟨nxv, bz, hst⟩ := hA.st
  have hme := hA.me
  refine mtouch_in (cell_of_row hme 0) (cell_of_row hme 1) (cell_of_row hst 6) ?_
  refine park hSh hA hown hP hB hAw hs hfnn htouch ?_ ?_ K
  · intro v o home' n' pl' F' col' w' g' hA' ho hb hs' K'
    obtain ⟨nxv', bz', hst'⟩ := hA'.st
    exact mtouch_out (cell_of_row hA'.me 0) (cell_of_row hA'.me 1) (cell_of_row hst' 6) (hres v o home' n' pl' F' col' w' g' hA' ho hb hs' K')
  · intro home' n' pl' F' col' w' g' hA' ho ha hs' K'
    obtain ⟨nxv', bz', hst'⟩ := hA'.st
    refine mtouch_late (cell_of_row hA'.me 0) (cell_of_row hA'.me 1) (cell_of_row hst' 6) (cell_of_row hA'.me 2) (free_of_row hA'.me 2) (hA'.free1 2 (by omega)) ?_
    have kk := ks_setCell w' ⟨a.m, 2, none⟩ (.int .i64 4096)
    have hz : (w'.setCell ⟨a.m, 2, none⟩ (.int .i64 4096)).heap.size = w'.heap.size := by simp [World.setCell]
    refine hstop home' n' pl' F' col' _ g' ⟨hA'.jpos, hA'.lies.setCell _ _, ⟨hA'.lay.free, fun b hb => hA'.lay.above b (by rw [hz] at hb; exact hb), hA'.lay.sb, hA'.lay.ar⟩, hA'.seat, hA'.absent, ⟨nxv', bz', true, kk.row hA'.pm hst'⟩, ⟨true, 4096, ?_⟩, hA'.fm, hA'.cm, hA'.cp, hA'.ccT, hA'.oT.keep kk hA'.pT.2⟩ ho (hP.st _ _ ha fun b hb => ?_) ((hSh g').st _ _ hs' fun b hb => ?_) (hA'.left K')
    · have := heap_setCell_same w' a.m 2 _ _ (.int .i64 4096) hA'.me
      unfold MeAt
      rw [this]
      simp
    · exact kk.block b (hP.lt _ _ ha hb) fun e => by
        have e' : b = a.m := e
        have := ho b hb
        rw [e', hA'.cm] at this; cases this
    · exact kk.block b ((hSh g').lt _ _ hs' hb) fun e => by
        have e' : b = a.m := e
        have := hA'.lay.sb b hb
        rw [e', hA'.cm] at this; cases this
end
end Go.Proofs.Ytnbibpmhmffmpaa

namespace Go.Proofs.Ytnbibpmhmffmpaa
open List renaming getElem?_toArray → gqA, getElem?_cons_zero → gqZ
set_option linter.unusedVariables false
set_option linter.unusedSimpArgs false
open Go.RowKit

abbrev memV (pA : Nat) : Value := .iface 26 (.pointer (some ⟨pA, 0, none⟩))

theorem tch_read {w : World} {pA rA bA bV : Nat} {s : St} {k y : Int} (h : Ar w pA rA s) (hn : s.ws.length ≤ 4096) (ht : s.t ≤ 4095) (hA : w.heap[bA]? = some (.cells #[.int .i64 k] 3 (0, 0))) (hV : w.heap[bV]? = some (.cells #[.int .u64 y] 40 (0, 0))) (h1 : bV ≠ pA) (h2 : bV ≠ rA) :
    Calls Try.prog 125 #[memV pA, .pointer (some ⟨bA, 0, none⟩), .pointer (some ⟨bV, 0, none⟩)] w fun e w2 => e = .returned (.tuple #[]) ∧ Ar w2 pA rA (upd s k (was s k)) ∧ w2.heap[bV]? = some (.cells #[.int .u64 (was s k)] 40 (0, 0)) ∧ Kp [pA, rA, bV] w w2 := by
  have hr := Lib.hid (read_any w pA rA s k h hn (by omega))
  have cA := cell_of_row hA 0
  simp only [gqA, gqZ] at cA
  have HV := Lib.hid hV
  clear hV hA h
  go_enter Try.func125, Try.ntmps125
  go_wp2_with fail
  refine hr.out.mono ?_
  rintro e w1 ⟨rfl, ha, hk⟩
  have hv := hk.row (by simp [h1, h2]) HV.out
  have HA := Lib.hid ha
  have HK := Lib.hid hk
  have HV1 := Lib.hid hv
  have cV := cell_of_row hv 0
  have fV := free_of_row hv 0
  simp only [gqA, gqZ] at cV
  clear ha hk hv hr
  go_wp2
  go_end0
  have hs := heap_setCell_same w1 bV 0 _ _ (.int .u64 (was s k)) HV1.out
  refine ⟨rfl, HA.out.keep ((Kp.refl [bV] _).setCell (.inl (by simp)) _) (by simp [h1.symm]) (by simp [h2.symm]), by rw [hs]; simp, (HK.out.mono (T := [pA, rA, bV]) (by simp)).setCell (.inl (by simp)) _⟩

theorem tch_write {w : World} {pA rA bA bX : Nat} {s : St} {k y : Int} (h : Ar w pA rA s) (hn : s.ws.length ≤ 4096) (ht : s.t ≤ 4095) (hA : w.heap[bA]? = some (.cells #[.int .i64 k] 3 (0, 0))) (hX : w.heap[bX]? = some (.cells #[.int .u64 y] 40 (0, 0))) :
    Calls Try.prog 127 #[memV pA, .pointer (some ⟨bA, 0, none⟩), .pointer (some ⟨bX, 0, none⟩)] w fun e w2 => e = .returned (.tuple #[]) ∧ Ar w2 pA rA (upd s k y) ∧ Kp [pA, rA] w w2 := by
  have hr := Lib.hid (write_any w pA rA s k y h hn (by omega))
  have cA := cell_of_row hA 0
  have cX := cell_of_row hX 0
  simp only [gqA, gqZ] at cA cX
  clear hX hA h
  go_enter Try.func127, Try.ntmps127
  go_wp2_with fail
  refine hr.out.mono ?_
  rintro e w1 ⟨rfl, ha, hk⟩
  have HA := Lib.hid ha
  have HK := Lib.hid hk
  clear ha hk hr
  go_wp2
  go_end0
  exact ⟨rfl, HA.out, HK.out⟩

theorem tch_update {w : World} {pA rA bA bX bV : Nat} {s : St} {k y z : Int} {f : FuncId} {cap : Array Value} (h : Ar w pA rA s) (hn : s.ws.length ≤ 4096) (ht : s.t ≤ 4095) (hA : w.heap[bA]? = some (.cells #[.int .i64 k] 3 (0, 0))) (hX : w.heap[bX]? = some (.cells #[.func (.func f) #[] cap] 66 (0, 0))) (hV : w.heap[bV]? = some (.cells #[.int .u64 y] 40 (0, 0)))
    (h1 : bV ≠ pA) (h2 : bV ≠ rA) (hen : ∀ (x : Value) (w : World), (callFunc f (#[x] ++ cap)).run Try.prog w = .ok (.enter f (#[x] ++ cap)) w)
    (hcall : ∀ w', Kp [pA] w w' → Calls Try.prog f (#[.int .u64 (was s k)] ++ cap) w' fun e w2 => e = .returned (.int .u64 z) ∧ Kp [] w' w2) :
    Calls Try.prog 126 #[memV pA, .pointer (some ⟨bA, 0, none⟩), .pointer (some ⟨bX, 0, none⟩), .pointer (some ⟨bV, 0, none⟩)] w fun e w2 => e = .returned (.tuple #[]) ∧ Ar w2 pA rA (upd s k z) ∧ w2.heap[bV]? = some (.cells #[.int .u64 (was s k)] 40 (0, 0)) ∧ Kp [pA, rA, bV] w w2 := by
  have hr := Lib.hid (upd_kp w pA rA s k f cap z h hn (by omega) hen (fun _ w' hk => hcall w' hk))
  have cA := cell_of_row hA 0
  have cX := cell_of_row hX 0
  simp only [gqA, gqZ] at cA cX
  have HV := Lib.hid hV
  clear hV hA hX h hen hcall
  go_enter Try.func126, Try.ntmps126
  go_wp2_with fail
  refine hr.out.mono ?_
  rintro e w1 ⟨rfl, ha, hk⟩
  have hv := hk.row (by simp [h1, h2]) HV.out
  have HA := Lib.hid ha
  have HK := Lib.hid hk
  have HV1 := Lib.hid hv
  have cV := cell_of_row hv 0
  have fV := free_of_row hv 0
  simp only [gqA, gqZ] at cV
  clear ha hk hv hr
  go_wp2
  go_end0
  have hs := heap_setCell_same w1 bV 0 _ _ (.int .u64 (was s k)) HV1.out
  refine ⟨rfl, HA.out.keep ((Kp.refl [bV] _).setCell (.inl (by simp)) _) (by simp [h1.symm]) (by simp [h2.symm]), by rw [hs]; simp, (HK.out.mono (T := [pA, rA, bV]) (by simp)).setCell (.inl (by simp)) _⟩

end Go.Proofs.Ytnbibpmhmffmpaa

namespace Go.Proofs.Ytnbibpmhmffmpaa
set_option linter.unusedVariables false
set_option linter.unusedSimpArgs false
set_option maxRecDepth 100000
open Go.Conc

section
variable {G : Type} {Post : Value → World → Prop} {Sh : World → G → Prop} {SB : Nat → Prop} {pA rA : Nat} {a : Ag} {mv : Value} {home : Goroutine → Prop} {n : Nat} {T : Tree G} {runs ov : Bool}
variable {pl pl' : Nat → Option Place} {F F' F1 : Nat → Option (Nat × Nat)} {col col' col1 : Nat → Col} {w w' w1 : World} {g : G} {S : Nat → Prop}

/-- Whose the blocks are behind memory that the agent has made. -/
def grown (j : Nat) (col : Nat → Col) (w w1 : World) (b : Nat) : Col := if w.heap.size ≤ b ∧ b < w1.heap.size then .ag j else col b
theorem grown_new {j b : Nat} (h1 : w.heap.size ≤ b) (h2 : b < w1.heap.size) : grown j col w w1 b = .ag j := if_pos ⟨h1, h2⟩
theorem grown_old {j b : Nat} (h1 : b < w.heap.size) : grown j col w w1 b = col b := if_neg (by omega)
theorem grown_ag {j b : Nat} {i : Nat} (L : Lay SB pA rA col F w) (h : col b = .ag i) : grown j col w w1 b = .ag i := by
  rw [grown_old, h]
  rcases Nat.lt_or_ge b w.heap.size with z | z
  · exact z
  · rw [L.above b z] at h; cases h

theorem Acts.grow (h : Acts SB pA rA a mv home runs ov pl F col w) (k : Ks (fun _ => False) w w1) (hL : Lies pl F w1) : Acts SB pA rA a mv home runs ov pl F (grown a.j col w w1) w1 ∧ Moves (mine a col) a.j F col w F (grown a.j col w w1) w1 :=
  ⟨h.plain k hL (fun b hb => hb.elim), (moves_plain k (fun b _ hb => hb.elim)).mono fun b _ hb => hb.elim⟩
theorem Priv.grow {own : Nat → Prop} {A : World → Prop} (hP : Priv own A) (h : A w) (k : Ks (fun _ => False) w w1) : A w1 := hP.st _ _ h fun b hb => k.block b (hP.lt _ _ h hb) fun z => z

/-- The agent's own move: it turns its own, and what is shared; and makes memory. -/
theorem Acts.turn (h : Acts SB pA rA a mv home runs ov pl F col w) (k : Ks S w w1) (hL : Lies pl F w1) (hS : ∀ b, S b → col b = .ag a.j ∨ col b = .shared) : Acts SB pA rA a mv home runs ov pl F (grown a.j col w w1) w1 ∧ Moves (mine a col) a.j F col w F (grown a.j col w w1) w1 :=
  ⟨h.plain k hL hS, (moves_plain k (fun b _ hb => by rcases hS b hb with z | z <;> rw [z] <;> rfl)).mono fun b _ hb => (hS b hb).imp id fun z => .inr z⟩

theorem rich_cells {w : World} {b : Nat} {c : Array Value} {t : TypeId} {f : Nat × Nat} (h : w.heap[b]? = some (.cells c t f)) : poor w.heap[b]? = false := by rw [h]; rfl

set_option maxHeartbeats 1000000 in
/-- A READ. -/
theorem bread (hSh : ∀ g, Priv SB (fun w => Sh w g)) (hmv : mv = memV pA) {k : Int} {c : Int → G → G} {nx : Int → G → Tree G} {hl : G → G} {c₀ : Frame} {cs : List Frame} {own : Nat → Prop} {A : World → Prop}
    (hA : Acts SB pA rA a mv home true false pl F col w) (hown : ∀ b, own b → col b = .ag a.j) (hP : Priv own A) (hAw : A w) (hs : Sh w g)
    (hres : ∀ v home n pl' F' col' w' g, Acts SB pA rA a mv home true false pl' F' col' w' → (∀ b, own b → col' b = .ag a.j) → A w' → Sh w' g → Kont Post Sh SB pA rA a mv home n (nx v g) pl' F' col' w' (c v g) → Win Try.prog Post pl' n a.j (gor (c₀.finish (.int .u64 v)) cs) w')
    (hstop : ∀ home n pl' F' col' w' g, Ends SB pA rA a mv home pl' F' col' w' → (∀ b, own b → col' b = .ag a.j) → A w' → Sh w' g → Kont Post Sh SB pA rA a mv home n .ret pl' F' col' w' (hl g) → Win Try.prog Post pl' n a.j (gor (c₀.raise [haltE]) cs) w')
    (K : Kont Post Sh SB pA rA a mv home n (.node k (fun x => x) c nx hl) pl F col w g) :
    Win Try.prog Post pl n a.j (gor (Frame.enter Try.prog 120 #[.pointer (some ⟨a.m, 0, none⟩), .int .i64 k] .normal) (c₀ :: cs)) w := by
  have hL2 := (hA.lies.alloc (.cells #[.int .i64 k] 3)).alloc (.cells #[.int .u64 0] 40)
  have k2 : Ks (fun _ => False) w ((w.alloc (.cells #[.int .i64 k] 3)).alloc (.cells #[.int .u64 0] 40)) := (ks_alloc _ w _).trans (ks_alloc _ _ _)
  have hbA : ((w.alloc (.cells #[.int .i64 k] 3)).alloc (.cells #[.int .u64 0] 40)).heap[w.heap.size]? = some (.cells #[.int .i64 k] 3 (0, 0)) := (alloc_heap _ _ _ (by show _ < (w.heap.push _).size; simp)).trans (alloc_new w _)
  have hbV : ((w.alloc (.cells #[.int .i64 k] 3)).alloc (.cells #[.int .u64 0] 40)).heap[w.heap.size + 1]? = some (.cells #[.int .u64 0] 40 (0, 0)) := by
    have := alloc_new (w.alloc (.cells #[.int .i64 k] 3)) (.cells #[.int .u64 0] 40)
    rw [show (w.alloc (.cells #[.int .i64 k] 3)).heap.size = w.heap.size + 1 from Array.size_push _] at this
    exact this
  have hz : ((w.alloc (.cells #[.int .i64 k] 3)).alloc (.cells #[.int .u64 0] 40)).heap.size = w.heap.size + 2 := by
    show (Array.push (Array.push _ _) _).size = _
    simp
  refine read_in hA.lies ?_
  obtain ⟨hA2, hM⟩ := hA.grow k2 hL2
  have hAw2 := hP.grow hAw k2
  have hs2 := (hSh g).grow hs k2
  have hcA : pA < w.heap.size := by
    rcases Nat.lt_or_ge pA w.heap.size with z | z
    · exact z
    · have := hA.lay.ar.1; rw [hA.lay.above _ z] at this; cases this
  have hcR : rA < w.heap.size := by
    rcases Nat.lt_or_ge rA w.heap.size with z | z
    · exact z
    · have := hA.lay.ar.2; rw [hA.lay.above _ z] at this; cases this
  generalize (w.alloc (.cells #[.int .i64 k] 3)).alloc (.cells #[.int .u64 0] 40) = w2 at *
  have holt : ∀ b, own b → b < w.heap.size := fun b hb => hP.lt _ _ hAw hb
  refine btouch hSh (own := fun b => own b ∨ b = w.heap.size ∨ b = w.heap.size + 1) (A := fun w' => A w' ∧ w'.heap[w.heap.size]? = some (.cells #[.int .i64 k] 3 (0, 0)) ∧ w'.heap[w.heap.size + 1]? = some (.cells #[.int .u64 0] 40 (0, 0)))
    (B := fun v o w' => (∀ b, own b ∨ b = w.heap.size + 1 ↔ o b) ∧ A w' ∧ w'.heap[w.heap.size + 1]? = some (.cells #[.int .u64 v] 40 (0, 0))) hA2 ?_ ?_ ?_ ⟨hAw2, hbA, hbV⟩ hs2 ⟨_, Try.func125, rfl⟩ ?_ ?_ ?_ (Kont.moves hM K)
  · rintro b (hb | rfl | rfl)
    · exact grown_ag hA.lay (hown b hb)
    · exact grown_new (Nat.le_refl _) (by omega)
    · exact grown_new (by omega) (by omega)
  · refine ⟨fun u u' ⟨h1, h2, h3⟩ he => ⟨hP.st _ _ h1 fun b hb => he b (.inl hb), (he _ (.inr (.inl rfl))).trans h2, (he _ (.inr (.inr rfl))).trans h3⟩, fun u b ⟨h1, h2, h3⟩ hb => ?_, fun u b ⟨h1, h2, h3⟩ hb => ?_⟩
    · rcases hb with hb | rfl | rfl
      · exact hP.np _ _ h1 hb
      · exact rich_cells h2
      · exact rich_cells h3
    · rcases hb with hb | rfl | rfl
      · exact hP.lt _ _ h1 hb
      · exact lt_of_block h2
      · exact lt_of_block h3
  · intro v o
    refine ⟨fun u u' ⟨h0, h1, h3⟩ he => ⟨h0, hP.st _ _ h1 fun b hb => he b ((h0 b).1 (.inl hb)), (he _ ((h0 _).1 (.inr rfl))).trans h3⟩, fun u b ⟨h0, h1, h3⟩ hb => ?_, fun u b ⟨h0, h1, h3⟩ hb => ?_⟩
    · rcases (h0 b).2 hb with hb | rfl
      · exact hP.np _ _ h1 hb
      · exact rich_cells h3
    · rcases (h0 b).2 hb with hb | rfl
      · exact hP.lt _ _ h1 hb
      · exact lt_of_block h3
  · intro u s ⟨h1, h2, h3⟩ har hn ht hbn
    subst hmv
    refine (tch_read har hn ht h2 h3 (by omega) (by omega)).mono ?_
    rintro e u2 ⟨he, ha, hv, hk⟩
    have hk' := ks_of_kp hk
    refine ⟨he, ha, ⟨fun b => own b ∨ b = w.heap.size + 1, fun b hb => ?_, fun b => Iff.rfl, hP.st _ _ h1 fun b hb => hk'.block b (hP.lt _ _ h1 hb) ?_, hv⟩, hk'.mono fun b _ hb => ?_⟩
    · rcases hb with hb | rfl
      · exact .inl (.inl hb)
      · exact .inl (.inr (.inr rfl))
    · have hol := holt b hb
      have hc := hown b hb
      intro hx
      simp only [List.mem_cons, List.not_mem_nil, or_false] at hx
      rcases hx with rfl | rfl | rfl
      · rw [hA.lay.ar.1] at hc; cases hc
      · rw [hA.lay.ar.2] at hc; cases hc
      · omega
    · simp only [List.mem_cons, List.not_mem_nil, or_false] at hb
      rcases hb with rfl | rfl | rfl
      · exact .inl rfl
      · exact .inr (.inl rfl)
      · exact .inr (.inr (.inr (.inr rfl)))
  · intro v o home' n' pl' F' col' w' g' hA' ho hb hs' K'
    obtain ⟨h0, h1, h3⟩ := hb
    have hc : col' (w.heap.size + 1) = .ag a.j := ho _ ((h0 _).1 (.inr rfl))
    have hFn : F' (w.heap.size + 1) = none := hA'.lay.free _ (by rw [hc]; rfl)
    have kk := ks_setCell w' ⟨w.heap.size + 1, 0, none⟩ (.int .u64 v)
    obtain ⟨hA3, hM3⟩ := hA'.turn kk (hA'.lies.setCell _ _) (fun b hb => by
      have e : b = w.heap.size + 1 := hb
      subst e; exact .inl hc)
    refine read_out (cell_of_row h3 0) (free_of_row h3 0) ⟨fun i s' x hi hx => ?_, fun i s' x hi hx e => ?_⟩ (hres v home' n' pl' F' _ _ g' hA3 (fun b hb => ?_) (hP.st _ _ h1 fun b hb => kk.block b (hP.lt _ _ h1 hb) ?_) ((hSh g').st _ _ hs' fun b hb => kk.block b ((hSh g').lt _ _ hs' hb) ?_) (Kont.moves hM3 K'))
    · obtain ⟨lo, hi', z, _, _⟩ := hA'.lies.still i s' _ x hi hx
      rw [hFn] at z; cases z
    · obtain ⟨_, _, _, _, _, _, hh⟩ := hA'.lies.chans i s' x hi hx
      rw [e] at hh
      simp only at hh
      rw [h3] at hh; cases hh
    · exact grown_ag hA'.lay (ho b ((h0 b).1 (.inl hb)))
    · intro e
      have e' : b = w.heap.size + 1 := e
      have := holt b hb
      omega
    · intro e
      have e' : b = w.heap.size + 1 := e
      have := hA'.lay.sb b hb
      rw [e', hc] at this; cases this
  · intro home' n' pl' F' col' w' g' hE ho ha hs' K'
    have hne : (Frame.enter Try.prog 120 #[.pointer (some ⟨a.m, 0, none⟩), .int .i64 k] CallKind.normal).kind = .normal := rfl
    refine Win.unwinds (chain := [haltE]) rfl rfl rfl ?_
    exact hstop home' n' pl' F' col' w' g' hE (fun b hb => ho b (.inl hb)) ha.1 hs' K'
set_option maxHeartbeats 1000000 in
/-- A WRITE. -/
theorem bwrite (hSh : ∀ g, Priv SB (fun w => Sh w g)) (hmv : mv = memV pA) {k y : Int} {c : Int → G → G} {nx : Int → G → Tree G} {hl : G → G} {c₀ : Frame} {cs : List Frame} {own : Nat → Prop} {A : World → Prop}
    (hA : Acts SB pA rA a mv home true false pl F col w) (hown : ∀ b, own b → col b = .ag a.j) (hP : Priv own A) (hAw : A w) (hs : Sh w g)
    (hres : ∀ v home n pl' F' col' w' g, Acts SB pA rA a mv home true false pl' F' col' w' → (∀ b, own b → col' b = .ag a.j) → A w' → Sh w' g → Kont Post Sh SB pA rA a mv home n (nx v g) pl' F' col' w' (c v g) → Win Try.prog Post pl' n a.j (gor (c₀.finish (.tuple #[])) cs) w')
    (hstop : ∀ home n pl' F' col' w' g, Ends SB pA rA a mv home pl' F' col' w' → (∀ b, own b → col' b = .ag a.j) → A w' → Sh w' g → Kont Post Sh SB pA rA a mv home n .ret pl' F' col' w' (hl g) → Win Try.prog Post pl' n a.j (gor (c₀.raise [haltE]) cs) w')
    (K : Kont Post Sh SB pA rA a mv home n (.node k (fun _ => y) c nx hl) pl F col w g) :
    Win Try.prog Post pl n a.j (gor (Frame.enter Try.prog 122 #[.pointer (some ⟨a.m, 0, none⟩), .int .i64 k, .int .u64 y] .normal) (c₀ :: cs)) w := by
  have hL2 := (hA.lies.alloc (.cells #[.int .i64 k] 3)).alloc (.cells #[.int .u64 y] 40)
  have k2 : Ks (fun _ => False) w ((w.alloc (.cells #[.int .i64 k] 3)).alloc (.cells #[.int .u64 y] 40)) := (ks_alloc _ w _).trans (ks_alloc _ _ _)
  have hbA : ((w.alloc (.cells #[.int .i64 k] 3)).alloc (.cells #[.int .u64 y] 40)).heap[w.heap.size]? = some (.cells #[.int .i64 k] 3 (0, 0)) := (alloc_heap _ _ _ (by show _ < (w.heap.push _).size; simp)).trans (alloc_new w _)
  have hbV : ((w.alloc (.cells #[.int .i64 k] 3)).alloc (.cells #[.int .u64 y] 40)).heap[w.heap.size + 1]? = some (.cells #[.int .u64 y] 40 (0, 0)) := by
    have := alloc_new (w.alloc (.cells #[.int .i64 k] 3)) (.cells #[.int .u64 y] 40)
    rw [show (w.alloc (.cells #[.int .i64 k] 3)).heap.size = w.heap.size + 1 from Array.size_push _] at this
    exact this
  have hz : ((w.alloc (.cells #[.int .i64 k] 3)).alloc (.cells #[.int .u64 y] 40)).heap.size = w.heap.size + 2 := by
    show (Array.push (Array.push _ _) _).size = _
    simp
  refine write_in hA.lies ?_
  obtain ⟨hA2, hM⟩ := hA.grow k2 hL2
  have hAw2 := hP.grow hAw k2
  have hs2 := (hSh g).grow hs k2
  have hcA : pA < w.heap.size := by
    rcases Nat.lt_or_ge pA w.heap.size with z | z
    · exact z
    · have := hA.lay.ar.1; rw [hA.lay.above _ z] at this; cases this
  have hcR : rA < w.heap.size := by
    rcases Nat.lt_or_ge rA w.heap.size with z | z
    · exact z
    · have := hA.lay.ar.2; rw [hA.lay.above _ z] at this; cases this
  generalize (w.alloc (.cells #[.int .i64 k] 3)).alloc (.cells #[.int .u64 y] 40) = w2 at *
  have holt : ∀ b, own b → b < w.heap.size := fun b hb => hP.lt _ _ hAw hb
  refine btouch hSh (own := fun b => own b ∨ b = w.heap.size ∨ b = w.heap.size + 1) (A := fun w' => A w' ∧ w'.heap[w.heap.size]? = some (.cells #[.int .i64 k] 3 (0, 0)) ∧ w'.heap[w.heap.size + 1]? = some (.cells #[.int .u64 y] 40 (0, 0)))
    (B := fun v o w' => (∀ b, own b ↔ o b) ∧ A w') hA2 ?_ ?_ ?_ ⟨hAw2, hbA, hbV⟩ hs2 ⟨_, Try.func127, rfl⟩ ?_ ?_ ?_ (Kont.moves hM K)
  · rintro b (hb | rfl | rfl)
    · exact grown_ag hA.lay (hown b hb)
    · exact grown_new (Nat.le_refl _) (by omega)
    · exact grown_new (by omega) (by omega)
  · refine ⟨fun u u' ⟨h1, h2, h3⟩ he => ⟨hP.st _ _ h1 fun b hb => he b (.inl hb), (he _ (.inr (.inl rfl))).trans h2, (he _ (.inr (.inr rfl))).trans h3⟩, fun u b ⟨h1, h2, h3⟩ hb => ?_, fun u b ⟨h1, h2, h3⟩ hb => ?_⟩
    · rcases hb with hb | rfl | rfl
      · exact hP.np _ _ h1 hb
      · exact rich_cells h2
      · exact rich_cells h3
    · rcases hb with hb | rfl | rfl
      · exact hP.lt _ _ h1 hb
      · exact lt_of_block h2
      · exact lt_of_block h3
  · intro v o
    exact ⟨fun u u' ⟨h0, h1⟩ he => ⟨h0, hP.st _ _ h1 fun b hb => he b ((h0 b).1 hb)⟩, fun u b ⟨h0, h1⟩ hb => hP.np _ _ h1 ((h0 b).2 hb), fun u b ⟨h0, h1⟩ hb => hP.lt _ _ h1 ((h0 b).2 hb)⟩
  · intro u s ⟨h1, h2, h3⟩ har hn ht hbn
    subst hmv
    refine (tch_write har hn ht h2 h3).mono ?_
    rintro e u2 ⟨he, ha, hk⟩
    have hk' := ks_of_kp hk
    refine ⟨he, ha, ⟨own, fun b hb => .inl (.inl hb), fun b => Iff.rfl, hP.st _ _ h1 fun b hb => hk'.block b (hP.lt _ _ h1 hb) ?_⟩, hk'.mono fun b _ hb => ?_⟩
    · have hc := hown b hb
      intro hx
      simp only [List.mem_cons, List.not_mem_nil, or_false] at hx
      rcases hx with rfl | rfl
      · rw [hA.lay.ar.1] at hc; cases hc
      · rw [hA.lay.ar.2] at hc; cases hc
    · simp only [List.mem_cons, List.not_mem_nil, or_false] at hb
      rcases hb with rfl | rfl
      · exact .inl rfl
      · exact .inr (.inl rfl)
  · intro v o home' n' pl' F' col' w' g' hA' ho hb hs' K'
    obtain ⟨h0, h1⟩ := hb
    exact write_out (hres v home' n' pl' F' _ _ g' hA' (fun b hb => ho b ((h0 b).1 hb)) h1 hs' K')
  · intro home' n' pl' F' col' w' g' hE ho ha hs' K'
    have hne : (Frame.enter Try.prog 122 #[.pointer (some ⟨a.m, 0, none⟩), .int .i64 k, .int .u64 y] CallKind.normal).kind = .normal := rfl
    refine Win.unwinds (chain := [haltE]) rfl rfl rfl ?_
    exact hstop home' n' pl' F' col' w' g' hE (fun b hb => ho b (.inl hb)) ha.1 hs' K'
set_option maxHeartbeats 1000000 in
/-- AN UPDATE, by a closure that makes memory at most. -/
theorem bupdate (hSh : ∀ g, Priv SB (fun w => Sh w g)) (hmv : mv = memV pA) {k : Int} {φ : Int → Int} {f : FuncId} {cap : Array Value} {c : Int → G → G} {nx : Int → G → Tree G} {hl : G → G} {c₀ : Frame} {cs : List Frame} {own : Nat → Prop} {A : World → Prop}
    (hA : Acts SB pA rA a mv home true false pl F col w) (hown : ∀ b, own b → col b = .ag a.j) (hP : Priv own A) (hAw : A w) (hs : Sh w g)
    (hen : ∀ (x : Value) (w : World), (callFunc f (#[x] ++ cap)).run Try.prog w = .ok (.enter f (#[x] ++ cap)) w)
    (hcl : ∀ w' x, A w' → 0 ≤ x → x < 18446744073709551616 → Calls Try.prog f (#[.int .u64 x] ++ cap) w' fun e w2 => e = .returned (.int .u64 (φ x)) ∧ Kp [] w' w2)
    (hres : ∀ v home n pl' F' col' w' g, Acts SB pA rA a mv home true false pl' F' col' w' → (∀ b, own b → col' b = .ag a.j) → A w' → Sh w' g → Kont Post Sh SB pA rA a mv home n (nx v g) pl' F' col' w' (c v g) → Win Try.prog Post pl' n a.j (gor (c₀.finish (.int .u64 v)) cs) w')
    (hstop : ∀ home n pl' F' col' w' g, Ends SB pA rA a mv home pl' F' col' w' → (∀ b, own b → col' b = .ag a.j) → A w' → Sh w' g → Kont Post Sh SB pA rA a mv home n .ret pl' F' col' w' (hl g) → Win Try.prog Post pl' n a.j (gor (c₀.raise [haltE]) cs) w')
    (K : Kont Post Sh SB pA rA a mv home n (.node k φ c nx hl) pl F col w g) :
    Win Try.prog Post pl n a.j (gor (Frame.enter Try.prog 121 #[.pointer (some ⟨a.m, 0, none⟩), .int .i64 k, .func (.func f) #[] cap] .normal) (c₀ :: cs)) w := by
  have hL2 := ((hA.lies.alloc (.cells #[.int .i64 k] 3)).alloc (.cells #[.func (.func f) #[] cap] 66)).alloc (.cells #[.int .u64 0] 40)
  have k2 : Ks (fun _ => False) w (((w.alloc (.cells #[.int .i64 k] 3)).alloc (.cells #[.func (.func f) #[] cap] 66)).alloc (.cells #[.int .u64 0] 40)) := ((ks_alloc _ w _).trans (ks_alloc _ _ _)).trans (ks_alloc _ _ _)
  have z1 : (w.alloc (.cells #[.int .i64 k] 3)).heap.size = w.heap.size + 1 := Array.size_push _
  have z2 : ((w.alloc (.cells #[.int .i64 k] 3)).alloc (.cells #[.func (.func f) #[] cap] 66)).heap.size = w.heap.size + 2 := by
    show (Array.push (Array.push _ _) _).size = _
    simp
  have hbA : (((w.alloc (.cells #[.int .i64 k] 3)).alloc (.cells #[.func (.func f) #[] cap] 66)).alloc (.cells #[.int .u64 0] 40)).heap[w.heap.size]? = some (.cells #[.int .i64 k] 3 (0, 0)) := (alloc_heap _ _ _ (by omega)).trans ((alloc_heap _ _ _ (by omega)).trans (alloc_new w _))
  have hbX : (((w.alloc (.cells #[.int .i64 k] 3)).alloc (.cells #[.func (.func f) #[] cap] 66)).alloc (.cells #[.int .u64 0] 40)).heap[w.heap.size + 1]? = some (.cells #[.func (.func f) #[] cap] 66 (0, 0)) := (alloc_heap _ _ _ (by omega)).trans (by
    have := alloc_new (w.alloc (.cells #[.int .i64 k] 3)) (.cells #[.func (.func f) #[] cap] 66)
    rw [z1] at this
    exact this)
  have hbV : (((w.alloc (.cells #[.int .i64 k] 3)).alloc (.cells #[.func (.func f) #[] cap] 66)).alloc (.cells #[.int .u64 0] 40)).heap[w.heap.size + 2]? = some (.cells #[.int .u64 0] 40 (0, 0)) := by
    have := alloc_new ((w.alloc (.cells #[.int .i64 k] 3)).alloc (.cells #[.func (.func f) #[] cap] 66)) (.cells #[.int .u64 0] 40)
    rw [z2] at this
    exact this
  have hz : (((w.alloc (.cells #[.int .i64 k] 3)).alloc (.cells #[.func (.func f) #[] cap] 66)).alloc (.cells #[.int .u64 0] 40)).heap.size = w.heap.size + 3 := by
    show (Array.push (Array.push (Array.push _ _) _) _).size = _
    simp
  refine update_in hA.lies ?_
  obtain ⟨hA2, hM⟩ := hA.grow k2 hL2
  have hAw2 := hP.grow hAw k2
  have hs2 := (hSh g).grow hs k2
  have hcA : pA < w.heap.size := by
    rcases Nat.lt_or_ge pA w.heap.size with z | z
    · exact z
    · have := hA.lay.ar.1; rw [hA.lay.above _ z] at this; cases this
  have hcR : rA < w.heap.size := by
    rcases Nat.lt_or_ge rA w.heap.size with z | z
    · exact z
    · have := hA.lay.ar.2; rw [hA.lay.above _ z] at this; cases this
  clear z1 z2
  generalize ((w.alloc (.cells #[.int .i64 k] 3)).alloc (.cells #[.func (.func f) #[] cap] 66)).alloc (.cells #[.int .u64 0] 40) = w2 at *
  have holt : ∀ b, own b → b < w.heap.size := fun b hb => hP.lt _ _ hAw hb
  refine btouch hSh (own := fun b => own b ∨ b = w.heap.size ∨ b = w.heap.size + 1 ∨ b = w.heap.size + 2) (A := fun w' => A w' ∧ w'.heap[w.heap.size]? = some (.cells #[.int .i64 k] 3 (0, 0)) ∧ w'.heap[w.heap.size + 1]? = some (.cells #[.func (.func f) #[] cap] 66 (0, 0)) ∧ w'.heap[w.heap.size + 2]? = some (.cells #[.int .u64 0] 40 (0, 0)))
    (B := fun v o w' => (∀ b, own b ∨ b = w.heap.size + 2 ↔ o b) ∧ A w' ∧ w'.heap[w.heap.size + 2]? = some (.cells #[.int .u64 v] 40 (0, 0))) hA2 ?_ ?_ ?_ ⟨hAw2, hbA, hbX, hbV⟩ hs2 ⟨_, Try.func126, rfl⟩ ?_ ?_ ?_ (Kont.moves hM K)
  · rintro b (hb | rfl | rfl | rfl)
    · exact grown_ag hA.lay (hown b hb)
    · exact grown_new (Nat.le_refl _) (by omega)
    · exact grown_new (by omega) (by omega)
    · exact grown_new (by omega) (by omega)
  · refine ⟨fun u u' ⟨h1, h2, h4, h3⟩ he => ⟨hP.st _ _ h1 fun b hb => he b (.inl hb), (he _ (.inr (.inl rfl))).trans h2, (he _ (.inr (.inr (.inl rfl)))).trans h4, (he _ (.inr (.inr (.inr rfl)))).trans h3⟩, fun u b ⟨h1, h2, h4, h3⟩ hb => ?_, fun u b ⟨h1, h2, h4, h3⟩ hb => ?_⟩
    · rcases hb with hb | rfl | rfl | rfl
      · exact hP.np _ _ h1 hb
      · exact rich_cells h2
      · exact rich_cells h4
      · exact rich_cells h3
    · rcases hb with hb | rfl | rfl | rfl
      · exact hP.lt _ _ h1 hb
      · exact lt_of_block h2
      · exact lt_of_block h4
      · exact lt_of_block h3
  · intro v o
    refine ⟨fun u u' ⟨h0, h1, h3⟩ he => ⟨h0, hP.st _ _ h1 fun b hb => he b ((h0 b).1 (.inl hb)), (he _ ((h0 _).1 (.inr rfl))).trans h3⟩, fun u b ⟨h0, h1, h3⟩ hb => ?_, fun u b ⟨h0, h1, h3⟩ hb => ?_⟩
    · rcases (h0 b).2 hb with hb | rfl
      · exact hP.np _ _ h1 hb
      · exact rich_cells h3
    · rcases (h0 b).2 hb with hb | rfl
      · exact hP.lt _ _ h1 hb
      · exact lt_of_block h3
  · intro u s ⟨h1, h2, h4, h3⟩ har hn ht hbn
    subst hmv
    have hnA : ∀ b, own b → b ≠ pA := fun b hb e => by have hc := hown b hb; rw [e, hA.lay.ar.1] at hc; cases hc
    refine (tch_update har hn ht h2 h4 h3 (by omega) (by omega) hen (fun u' hk => hcl u' _ (hP.st _ _ h1 fun b hb => hk.block b (hP.lt _ _ h1 hb) (by simpa using hnA b hb)) (hbn.was k).1 (hbn.was k).2)).mono ?_
    rintro e u2 ⟨he, ha, hv, hk⟩
    have hk' := ks_of_kp hk
    refine ⟨he, ha, ⟨fun b => own b ∨ b = w.heap.size + 2, fun b hb => ?_, fun b => Iff.rfl, hP.st _ _ h1 fun b hb => hk'.block b (hP.lt _ _ h1 hb) ?_, hv⟩, hk'.mono fun b _ hb => ?_⟩
    · rcases hb with hb | rfl
      · exact .inl (.inl hb)
      · exact .inl (.inr (.inr (.inr rfl)))
    · have hol := holt b hb
      have hc := hown b hb
      intro hx
      simp only [List.mem_cons, List.not_mem_nil, or_false] at hx
      rcases hx with rfl | rfl | rfl
      · rw [hA.lay.ar.1] at hc; cases hc
      · rw [hA.lay.ar.2] at hc; cases hc
      · omega
    · simp only [List.mem_cons, List.not_mem_nil, or_false] at hb
      rcases hb with rfl | rfl | rfl
      · exact .inl rfl
      · exact .inr (.inl rfl)
      · exact .inr (.inr (.inr (.inr (.inr rfl))))
  · intro v o home' n' pl' F' col' w' g' hA' ho hb hs' K'
    obtain ⟨h0, h1, h3⟩ := hb
    have hc : col' (w.heap.size + 2) = .ag a.j := ho _ ((h0 _).1 (.inr rfl))
    have hFn : F' (w.heap.size + 2) = none := hA'.lay.free _ (by rw [hc]; rfl)
    have kk := ks_setCell w' ⟨w.heap.size + 2, 0, none⟩ (.int .u64 v)
    obtain ⟨hA3, hM3⟩ := hA'.turn kk (hA'.lies.setCell _ _) (fun b hb => by
      have e : b = w.heap.size + 2 := hb
      subst e; exact .inl hc)
    refine update_out (cell_of_row h3 0) (free_of_row h3 0) ⟨fun i s' x hi hx => ?_, fun i s' x hi hx e => ?_⟩ (hres v home' n' pl' F' _ _ g' hA3 (fun b hb => ?_) (hP.st _ _ h1 fun b hb => kk.block b (hP.lt _ _ h1 hb) ?_) ((hSh g').st _ _ hs' fun b hb => kk.block b ((hSh g').lt _ _ hs' hb) ?_) (Kont.moves hM3 K'))
    · obtain ⟨lo, hi', z, _, _⟩ := hA'.lies.still i s' _ x hi hx
      rw [hFn] at z; cases z
    · obtain ⟨_, _, _, _, _, _, hh⟩ := hA'.lies.chans i s' x hi hx
      rw [e] at hh
      simp only at hh
      rw [h3] at hh; cases hh
    · exact grown_ag hA'.lay (ho b ((h0 b).1 (.inl hb)))
    · intro e
      have e' : b = w.heap.size + 2 := e
      have := holt b hb
      omega
    · intro e
      have e' : b = w.heap.size + 2 := e
      have := hA'.lay.sb b hb
      rw [e', hc] at this; cases this
  · intro home' n' pl' F' col' w' g' hE ho ha hs' K'
    have hne : (Frame.enter Try.prog 121 #[.pointer (some ⟨a.m, 0, none⟩), .int .i64 k, .func (.func f) #[] cap] CallKind.normal).kind = .normal := rfl
    refine Win.unwinds (chain := [haltE]) rfl rfl rfl ?_
    exact hstop home' n' pl' F' col' w' g' hE (fun b hb => ho b (.inl hb)) ha.1 hs' K'
end
end Go.Proofs.Ytnbibpmhmffmpaa
