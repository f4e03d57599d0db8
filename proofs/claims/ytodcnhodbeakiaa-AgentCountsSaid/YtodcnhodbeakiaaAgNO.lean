/- Agents by trees, on: how what is held is carried over what an agent does by itself. Conditions: none. Agents by trees, on: a touch, as the program sees it: it is handed to who steps; behind the turn the program goes on. Conditions: as each theorem states them. -/
import Derived.Test.YtodcnhodbeakiaaAgK
namespace Go.Proofs.Ytodcnhodbeakiaa
set_option linter.unusedVariables false
set_option linter.unusedSimpArgs false
set_option maxRecDepth 100000
open Go.Conc
open Go.ConcN (upd upd_ne upd_same)

section
variable {G : Type} {Post : Value → World → Prop} {Sh : World → G → Prop} {SB : Nat → Prop} {pA rA : Nat} {a : Ag} {mv : Value} {home : Goroutine → Prop} {n : Nat} {T : Tree G} {runs ov : Bool}
variable {pl pl' : Nat → Option Place} {F F' F1 : Nat → Option (Nat × Nat)} {col col' col1 : Nat → Col} {w w' w1 : World} {g : G} {S : Nat → Prop}

theorem Moves.pre (h : Moves (mine a col) a.j F col w F1 col1 w1) (k : Moves (mine a col1) a.j F1 col1 w1 F' col' w') : Moves (mine a col) a.j F col w F' col' w' := by
  refine ⟨h.ks.then k.ks fun i hi hm => ?_, fun b hb => (k.colo b (Nat.lt_of_lt_of_le hb h.ks.size)).trans (h.colo b hb), fun b h1 h2 => ?_, fun b hb => (k.fo b (Nat.lt_of_lt_of_le hb h.ks.size)).trans (h.fo b hb)⟩
  · unfold mine at hm ⊢
    rw [h.colo i hi] at hm; exact hm
  · by_cases hb : b < w1.heap.size
    · rw [k.colo b hb]; exact h.coln b h1 hb
    · exact k.coln b (by omega) h2
theorem Moves.mono {T : Nat → Prop} {j : Nat} (h : Moves S j F col w F1 col1 w1) (hs : ∀ k, k < w.heap.size → S k → T k) : Moves T j F col w F1 col1 w1 := ⟨h.ks.mono hs, h.colo, h.coln, h.fo⟩

theorem Kont.moves (h : Moves (mine a col) a.j F col w F1 col1 w1) (K : Kont Post Sh SB pA rA a mv home n T pl F col w g) : Kont Post Sh SB pA rA a mv home n T pl F1 col1 w1 g := by
  unfold Kont KontW at *
  cases T with
  | ret => exact fun pl' F' col' w' gm hg hA => K pl' F' col' w' gm hg ⟨h.pre hA.mv, hA.pls, hA.pl0, hA.lies, hA.lay⟩
  | node k φ c nx hl => exact fun pl' F' col' w' gm t hg hA => K pl' F' col' w' gm t hg ⟨h.pre hA.mv, hA.pls, hA.pl0, hA.lies, hA.lay⟩

/-- A move that makes no system's block and turns none. -/
theorem moves_plain {j : Nat} (h : Ks S w w1) (hS : ∀ b, b < w.heap.size → S b → (col b).isSys = false) : Moves S j F col w F (fun b => if w.heap.size ≤ b ∧ b < w1.heap.size then .ag j else col b) w1 := by
  refine ⟨h, fun b hb => ?_, fun b h1 h2 => ?_, fun _ _ => rfl⟩
  · rw [if_neg (by omega)]
  · rw [if_pos ⟨h1, h2⟩]; exact .inl rfl
theorem Lay.plain {j : Nat} (h : Lay SB pA rA col F w) (k : Ks S w w1) : Lay SB pA rA (fun b => if w.heap.size ≤ b ∧ b < w1.heap.size then .ag j else col b) F w1 := by
  have hz := k.size
  have hlow : ∀ b, col b ≠ .main → ¬ (w.heap.size ≤ b ∧ b < w1.heap.size) := fun b hb hx => hb (h.above b hx.1)
  refine ⟨fun b hb => ?_, fun b hb => ?_, fun b hb => ?_, ?_, ?_⟩
  · by_cases hc : w.heap.size ≤ b ∧ b < w1.heap.size
    · exact h.free b (by rw [h.above b hc.1]; rfl)
    · rw [if_neg hc] at hb; exact h.free b hb
  · rw [if_neg (by omega)]; exact h.above b (by omega)
  · rw [if_neg (hlow b (by rw [h.sb b hb]; simp))]; exact h.sb b hb
  · rw [if_neg (hlow _ (by rw [h.ar.1]; simp))]; exact h.ar.1
  · rw [if_neg (hlow _ (by rw [h.ar.2]; simp))]; exact h.ar.2
theorem Lies.keepKs {F : Nat → Option (Nat × Nat)} (L : Lies pl F w) (k : Ks S w w1) (hF : ∀ b, S b → F b = none) (hc : ∀ i s c, pl i = some s → s.has c → ¬ S c) : Lies pl F w1 := by
  refine ⟨fun i r hr => ?_, fun i s c hi hs => ?_, L.still⟩
  · obtain ⟨c, t, h⟩ := L.lies i r hr
    exact ⟨c, t, k.row (fun z => by rw [hF i z] at hr; cases hr) h⟩
  · obtain ⟨cap, buf, cl, sn, rc, tm, h⟩ := L.chans i s c hi hs
    exact ⟨cap, buf, cl, sn, rc, tm, k.row (hc i s c hi hs) h⟩
theorem Open.keep {c : Nat} (h : Open c w) (k : Ks S w w1) (hn : ¬ S c) : Open c w1 := by
  obtain ⟨x, hx⟩ := h
  exact ⟨x, k.row hn hx⟩
/-- What the agent does by itself to blocks of its own, to shared ones, or by making new ones. -/
theorem Acts.plain (h : Acts SB pA rA a mv home runs ov pl F col w) (k : Ks S w w1) (hL : Lies pl F w1) (hS : ∀ b, S b → col b = .ag a.j ∨ col b = .shared) :
    Acts SB pA rA a mv home runs ov pl F (fun b => if w.heap.size ≤ b ∧ b < w1.heap.size then .ag a.j else col b) w1 := by
  have hsys : ∀ b, col b = .sys a.j → ¬ S b := fun b hb hx => by rcases hS b hx with z | z <;> rw [hb] at z <;> cases z
  have hlow : ∀ b, col b = .sys a.j → ¬ (w.heap.size ≤ b ∧ b < w1.heap.size) := fun b hb hx => by rw [h.lay.above b hx.1] at hb; cases hb
  obtain ⟨nx, bz, hst⟩ := h.st
  exact ⟨h.jpos, hL, h.lay.plain k, h.seat, h.absent, h.alone, ⟨nx, bz, k.row (hsys _ h.cp) hst⟩, k.row (hsys _ h.cm) h.me, h.fm, h.fp, by show (if _ then _ else _) = _; rw [if_neg (hlow _ h.cm)]; exact h.cm, by show (if _ then _ else _) = _; rw [if_neg (hlow _ h.cp)]; exact h.cp, by show (if _ then _ else _) = _; rw [if_neg (hlow _ h.ccT)]; exact h.ccT, by show (if _ then _ else _) = _; rw [if_neg (hlow _ h.ccU)]; exact h.ccU, by show (if _ then _ else _) = _; rw [if_neg (hlow _ h.ccS)]; exact h.ccS, h.dis,
    h.oT.keep k (hsys _ h.ccT), h.oU.keep k (hsys _ h.ccU), fun z => (h.oS z).keep k (hsys _ h.ccS)⟩
end
end Go.Proofs.Ytodcnhodbeakiaa

namespace Go.Proofs.Ytodcnhodbeakiaa
set_option linter.unusedVariables false
set_option linter.unusedSimpArgs false
set_option maxRecDepth 100000
open Go.Conc
open Go.ConcN (upd upd_ne upd_same)

section
variable {G : Type} {Post : Value → World → Prop} {Sh : World → G → Prop} {SB : Nat → Prop} {pA rA : Nat} {a : Ag} {mv : Value} {home : Goroutine → Prop} {n : Nat} {T : Tree G} {runs ov : Bool}
variable {pl pl' : Nat → Option Place} {F F' F1 : Nat → Option (Nat × Nat)} {col col' col1 : Nat → Col} {w w' w1 : World} {g : G} {S : Nat → Prop}

/-- What one that waits at its turn can be told of its memory. -/
theorem Acts.free1 (h : Acts SB pA rA a mv home runs ov pl F col w) (o : Nat) (ho : 0 < o) : Free pl ⟨a.m, o, none⟩ := by
  refine ⟨fun i s v hi hs => ?_, fun i s c hi hc e => ?_⟩
  · obtain ⟨lo, hi', h1, h2, h3⟩ := h.lies.still i s _ v hi hs
    simp only at h1 h2 h3
    rw [h.fm] at h1
    cases h1
    omega
  · obtain ⟨_, _, _, _, _, _, hh⟩ := h.lies.chans i s c hi hc
    have hm := h.me
    unfold MeAt at hm
    simp only at e
    rw [← e, hh] at hm
    cases hm
theorem Acts.pm (h : Acts SB pA rA a mv home runs ov pl F col w) : a.p ≠ a.m := by
  intro e
  obtain ⟨nx, bz, hst⟩ := h.st
  have hm := h.me
  unfold MeAt at hm
  unfold StAt at hst
  rw [← e, hst] at hm
  simp at hm
theorem Acts.pT (h : Acts SB pA rA a mv home runs ov pl F col w) : a.cT ≠ a.p ∧ a.cT ≠ a.m := by
  obtain ⟨nx, bz, hst⟩ := h.st
  obtain ⟨k, hk⟩ := h.oT
  have hm := h.me
  unfold MeAt at hm
  unfold StAt at hst
  exact ⟨fun e => (by rw [← e, hk] at hst; cases hst), fun e => (by rw [← e, hk] at hm; cases hm)⟩

/-- The memory runs, or does not. -/
theorem Acts.run {r : Bool} (h : Acts SB pA rA a mv home runs ov pl F col w) : Acts SB pA rA a mv home r ov pl F col (w.setCell ⟨a.m, 1, none⟩ (.bool r)) ∧ Moves (mine a col) a.j F col w F col (w.setCell ⟨a.m, 1, none⟩ (.bool r)) := by
  have k := ks_setCell w ⟨a.m, 1, none⟩ (.bool r)
  have hne : ∀ {b : Nat}, b ≠ a.m → ¬ (b = (⟨a.m, 1, none⟩ : Addr).block) := fun hb => hb
  have hz : (w.setCell ⟨a.m, 1, none⟩ (.bool r)).heap.size = w.heap.size := by simp [World.setCell]
  obtain ⟨nx, bz, hst⟩ := h.st
  have hmU : a.cU ≠ a.m := fun e => by obtain ⟨k, hk⟩ := h.oU; have hm := h.me; unfold MeAt at hm; rw [← e, hk] at hm; cases hm
  have hmS : ov = false → a.cS ≠ a.m := fun z e => by obtain ⟨k, hk⟩ := h.oS z; have hm := h.me; unfold MeAt at hm; rw [← e, hk] at hm; cases hm
  refine ⟨⟨h.jpos, h.lies.setCell _ _, ⟨h.lay.free, fun b hb => h.lay.above b (by rw [hz] at hb; exact hb), h.lay.sb, h.lay.ar⟩, h.seat, h.absent, h.alone, ⟨nx, bz, k.row (hne h.pm) hst⟩, ?_, h.fm, h.fp, h.cm, h.cp, h.ccT, h.ccU, h.ccS, h.dis, h.oT.keep k (hne h.pT.2), h.oU.keep k (hne hmU), fun z => (h.oS z).keep k (hne (hmS z))⟩, ⟨k.mono fun b hb e => ?_, fun _ _ => rfl, fun b h1 h2 => by omega, fun _ _ => rfl⟩⟩
  · have := heap_setCell_same w a.m 1 _ _ (.bool r) h.me
    unfold MeAt
    rw [this]
    simp
  · right; left
    have e' : b = a.m := e
    subst e'
    exact ⟨h.cm, h.pm.symm⟩

theorem turnSeat_has {p m b3 cU cS c : Nat} {home : Goroutine → Prop} (h : (turnSeat p m b3 cU cS home).has c) : c = cU ∨ c = cS := by
  obtain ⟨k, z, hk⟩ := h
  simp only [turnSeat] at hk
  rcases k with _ | _ | k
  · simp [rcase] at hk; exact .inl hk.1.symm
  · simp [rcase] at hk; exact .inr hk.1.symm
  · simp at hk
theorem turnSeat_wf {p m b3 cU cS : Nat} {home : Goroutine → Prop} (h : cU ≠ cS) : (turnSeat p m b3 cU cS home).Wf := by
  refine ⟨fun cc hcc => ?_, fun k k' c z z' h1 h2 => ?_⟩
  · simp only [turnSeat, List.mem_toArray, List.mem_cons, List.not_mem_nil, or_false] at hcc
    rcases hcc with rfl | rfl <;> exact ⟨_, _, rfl⟩
  · simp only [turnSeat] at h1 h2
    rcases k with _ | _ | k <;> rcases k' with _ | _ | k' <;> simp [rcase] at h1 h2
    · rfl
    · exact absurd (h1.1.trans h2.1.symm) h
    · exact absurd (h2.1.trans h1.1.symm) h
    · rfl

theorem handed_heap (w : World) (m b : Nat) (hb : b < w.heap.size) (hm : b ≠ m) : (handed w m).heap[b]? = w.heap[b]? := by
  unfold handed
  rw [(ks_setCell _ _ _).block b (by show _ < (w.heap.push _).size; simp; omega) hm]
  exact alloc_heap w _ b hb

set_option maxHeartbeats 1000000 in
/-- THE TOUCH IS HANDED OVER. -/
theorem park (hSh : ∀ g, Priv SB (fun w => Sh w g)) {k : Int} {φ : Int → Int} {c : Int → G → G} {nx : Int → G → Tree G} {hl : G → G} {c₀ : Frame} {cs : List Frame} {f : FuncId} {cap : Array Value} {own : Nat → Prop} {A : World → Prop} {B : Int → (Nat → Prop) → World → Prop}
    (hA : Acts SB pA rA a mv home true false pl F col w) (hown : ∀ b, own b → col b = .ag a.j) (hP : Priv own A) (hB : ∀ v o, Priv o (B v o)) (hAw : A w) (hs : Sh w g)
    (hfnn : ∃ fn : Func, Try.prog.funcs[f]? = some fn ∧ fn.body.isNone = false) (htouch : ∀ w' s, A w' → Ar w' pA rA s → s.ws.length ≤ 4096 → s.t ≤ 4095 → Bnd s → Calls Try.prog f (#[mv] ++ cap) w' fun e w2 => e = .returned (.tuple #[]) ∧ Ar w2 pA rA (Go.Proofs.Ytodcnhodbeakiaa.upd s k (φ (was s k))) ∧
        (∃ o, (∀ b, o b → own b ∨ (w'.heap.size ≤ b ∧ b < w2.heap.size)) ∧ B (was s k) o w2) ∧ Ks (fun b => b = pA ∨ b = rA ∨ own b) w' w2)
    (hres : ∀ v o home n pl' F' col' w' g, Acts SB pA rA a mv home true false pl' F' col' w' → (∀ b, o b → col' b = .ag a.j) → B v o w' → Sh w' g → Kont Post Sh SB pA rA a mv home n (nx v g) pl' F' col' w' (c v g) → Win Try.prog Post pl' n a.j (gor (c₀.finish (.tuple #[])) cs) w')
    (hstop : ∀ home n pl' F' col' w' g, Acts SB pA rA a mv home true true pl' F' col' w' → (∀ b, own b → col' b = .ag a.j) → A w' → Sh w' g → Kont Post Sh SB pA rA a mv home n .ret pl' F' col' w' (hl g) → Win Try.prog Post pl' n a.j (gor (c₀.finish (.tuple #[])) cs) w')
    (K : Kont Post Sh SB pA rA a mv home n (.node k φ c nx hl) pl F col w g) :
    Win Try.prog Post pl n a.j (gor (Frame.enter Try.prog 119 #[.pointer (some ⟨a.m, 0, none⟩), .func (.func f) #[] cap] .normal) (c₀ :: cs)) w := by
  obtain ⟨more, hseat⟩ := hA.seat
  obtain ⟨nxv, bz, hst⟩ := hA.st
  have hme := hA.me
  unfold MeAt at hme
  unfold StAt at hst
  have hpm := hA.pm
  have hpT := hA.pT
  have hmlt := lt_of_block hme
  have hplt := lt_of_block hst
  obtain ⟨kT, hT⟩ := hA.oT
  obtain ⟨kU, hU⟩ := hA.oU
  obtain ⟨kS, hS⟩ := hA.oS rfl
  have hmU : a.cU ≠ a.m := fun e => by rw [← e, hU] at hme; cases hme
  have hmS : a.cS ≠ a.m := fun e => by rw [← e, hS] at hme; cases hme
  have hU' : (handed w a.m).heap[a.cU]? = some (.chan 0 #[] false kU kU false) := (handed_heap w a.m _ (lt_of_block hU) hmU).trans hU
  have hS' : (handed w a.m).heap[a.cS]? = some (.chan 0 #[] false kS kS false) := (handed_heap w a.m _ (lt_of_block hS) hmS).trans hS
  have hp' : (handed w a.m).heap[a.p]? = _ := (handed_heap w a.m _ hplt hpm).trans hst
  have hm' : (handed w a.m).heap[a.m]? = some (.cells #[.pointer (some ⟨a.p, 0, none⟩), .bool false, .int .i64 0] 123 (0, 0)) := by
    have := heap_setCell_same (w.alloc (.cells #[.pointer (some ⟨a.m, 0, none⟩)] 121)) a.m 1 _ _ (.bool false) ((alloc_heap w _ a.m hmlt).trans hme)
    unfold handed
    rw [this]
    simp
  have hb3 : (handed w a.m).heap[w.heap.size]? = some (.cells #[.pointer (some ⟨a.m, 0, none⟩)] 121 (0, 0)) := by
    unfold handed
    rw [(ks_setCell _ _ _).block w.heap.size (by show _ < (w.heap.push _).size; simp) (by show ¬ w.heap.size = a.m; omega)]
    exact alloc_new w _
  have hz3 : (handed w a.m).heap.size = w.heap.size + 1 := by
    unfold handed
    rw [show ∀ (W : World) ad x, (W.setCell ad x).heap.size = W.heap.size from fun W ad x => by simp [World.setCell]]
    exact Array.size_push _
  have hcol3 : col w.heap.size = .main := hA.lay.above _ (Nat.le_refl _)
  refine wait_hands hA.lies (cell_of_row hme 0) (cell_of_row hme 1) (free_of_row hme 1) (cell_of_row hst 1) (cell_of_row hst 2) (cell_of_row hst 3) (hA.free1 1 (by omega)) hpm hseat ?_ ?_
  · refine ⟨turnSeat_wf hA.dis.2.2, fun c hc => ?_, fun i s' c hi hc hc' => ?_, fun ad v hv => ?_, 60, way_turn _ _ _ _ _ _ _ _ _⟩
    · rcases turnSeat_has hc with rfl | rfl
      · exact ⟨kU, hU'⟩
      · exact ⟨kS, hS'⟩
    · rcases turnSeat_has hc' with rfl | rfl
      · exact (hA.alone i s' hi).1 hc
      · exact (hA.alone i s' hi).2 hc
    · rcases hv with ⟨rfl, rfl⟩ | ⟨rfl, rfl⟩ | ⟨rfl, rfl⟩ | ⟨rfl, rfl⟩
      · rw [cell_of_row hp']; rfl
      · rw [cell_of_row hp']; rfl
      · rw [cell_of_row hm']; rfl
      · rw [cell_of_row hb3]; rfl
  · intro g₂ d x hg₂ hTx
    have hcT : ((handed w a.m).at d).heap[a.cT]? = some (.chan 0 #[] false x x false) := hTx
    have hks : Ks (fun b => b = a.m ∨ b = a.cT) w (((handed w a.m).at d).setChan a.cT 0 #[] false (x + 1) (x + 1) false) :=
      ((((ks_alloc (fun b => b = a.m ∨ b = a.cT) w _).then (ks_setCell _ ⟨a.m, 1, none⟩ _) (fun i _ e => .inl e)).at d).then (ks_setChan _ a.cT 0 #[] false (x + 1) (x + 1) false) (fun i _ e => .inr e))
    have hW : (((handed w a.m).at d).setChan a.cT 0 #[] false (x + 1) (x + 1) false).heap.size = w.heap.size + 1 := by
      rw [← hz3]; simp [World.setChan, World.at]
    have hL : Lies pl (Go.ConcN.upd F w.heap.size (some (0, 1))) (((handed w a.m).at d).setChan a.cT 0 #[] false (x + 1) (x + 1) false) := by
      refine Lies.setChan ?_ hcT _ _ _ _ _ _
      refine Lies.at ?_ d
      refine Lies.more ((hA.lies.alloc _).setCell _ _) (fun i lo hi hi' => ?_) (fun i r hr => ?_)
      · have hlt : i ≠ w.heap.size := fun e => by
          rw [e, hA.lay.free _ (by rw [hcol3]; rfl)] at hi'; cases hi'
        exact ⟨lo, hi, by rw [upd_ne _ _ hlt]; exact hi', Nat.le_refl _, Nat.le_refl _⟩
      · by_cases e : i = w.heap.size
        · subst e; exact ⟨_, _, hb3⟩
        · rw [upd_ne _ _ e] at hr
          exact ((hA.lies.alloc _).setCell _ _).lies i r hr
    have hoth : ∀ {b : Nat} {o : Obj}, (handed w a.m).heap[b]? = some o → b ≠ a.cT → (((handed w a.m).at d).setChan a.cT 0 #[] false (x + 1) (x + 1) false).heap[b]? = some o := fun ho hne => by
      rw [heap_setChan_ne _ _ _ _ _ _ _ (Ne.symm hne)]; exact ho
    have hb3T : w.heap.size ≠ a.cT := fun e => by have := lt_of_block hT; omega
    have hUW := hoth hU' hA.dis.1.symm
    have hSW := hoth hS' hA.dis.2.1.symm
    have hmW := hoth hm' (Ne.symm hpT.2)
    have hbW := hoth hb3 hb3T
    have hF3 : (Go.ConcN.upd F w.heap.size (some (0, 1)) : Nat → Option (Nat × Nat)) w.heap.size = some (0, 1) := upd_same _ _ _
    have hFm : (Go.ConcN.upd F w.heap.size (some (0, 1)) : Nat → Option (Nat × Nat)) a.m = some (0, 1) := by rw [upd_ne _ _ (by omega)]; exact hA.fm
    have hFp : (Go.ConcN.upd F w.heap.size (some (0, 1)) : Nat → Option (Nat × Nat)) a.p = some (1, 4) := by rw [upd_ne _ _ (by omega)]; exact hA.fp
    have hlow : ∀ b, col b ≠ .main → b ≠ w.heap.size := fun b hb e => hb (by rw [e]; exact hcol3)
    have KK := K
    unfold Kont KontW at KK
    refine KK _ (Go.ConcN.upd F w.heap.size (some (0, 1))) (Go.ConcN.upd col w.heap.size (.sys a.j)) _ g₂ (.func (.func f) #[] cap) hg₂ ⟨⟨?_, ?_, ?_, ?_⟩, ?_, ?_, ?_, ?_⟩ ?_ ?_ ?_ ?_ ?_
    · refine hks.mono fun b _ e => ?_
      rcases e with rfl | rfl
      · exact .inr (.inl ⟨hA.cm, hpm.symm⟩)
      · exact .inr (.inl ⟨hA.ccT, hpT.1⟩)
    · exact fun b hb => upd_ne _ _ (by omega)
    · intro b h1 h2
      rw [hW] at h2
      obtain rfl : b = w.heap.size := by omega
      rw [upd_same]; exact .inr rfl
    · exact fun b hb => upd_ne _ _ (by omega)
    · exact fun i h0 hj => moved_ne pl _ hj h0
    · exact moved_j pl _ (by have := hA.jpos; omega)
    · refine (hL.drop 0).put a.j (fun c hc => ?_) (fun ad v hv => ?_)
      · rcases turnSeat_has hc with rfl | rfl
        · exact ⟨_, _, _, _, _, _, hUW⟩
        · exact ⟨_, _, _, _, _, _, hSW⟩
      · rcases hv with ⟨rfl, _⟩ | ⟨rfl, _⟩ | ⟨rfl, _⟩ | ⟨rfl, _⟩
        · exact ⟨1, 4, hFp, by simp, by simp⟩
        · exact ⟨1, 4, hFp, by simp, by simp⟩
        · exact ⟨0, 1, hFm, by simp, by simp⟩
        · exact ⟨0, 1, hF3, by simp, by simp⟩
    · refine ⟨fun b hb => ?_, fun b hb => ?_, fun b hb => ?_, ?_, ?_⟩
      · by_cases e : b = w.heap.size
        · subst e; rw [upd_same] at hb; cases hb
        · rw [upd_ne _ _ e] at hb ⊢; exact hA.lay.free b hb
      · rw [hW] at hb
        rw [upd_ne _ _ (by omega)]; exact hA.lay.above b (by omega)
      · rw [upd_ne _ _ (hlow b (by rw [hA.lay.sb b hb]; simp))]; exact hA.lay.sb b hb
      · rw [upd_ne _ _ (hlow _ (by rw [hA.lay.ar.1]; simp))]; exact hA.lay.ar.1
      · rw [upd_ne _ _ (hlow _ (by rw [hA.lay.ar.2]; simp))]; exact hA.lay.ar.2
    · exact ⟨_, heap_setChan_self _ hcT _ _ _ _ _ _⟩
    · exact ⟨kU, hUW⟩
    · exact ⟨kS, hSW⟩
    · have hsame : ∀ b, own b → (((handed w a.m).at d).setChan a.cT 0 #[] false (x + 1) (x + 1) false).heap[b]? = w.heap[b]? := fun b hb => hks.block b (hP.lt w b hAw hb) fun e => by
        have := hown b hb
        rcases e with rfl | rfl
        · rw [hA.cm] at this; cases this
        · rw [hA.ccT] at this; cases this
      refine ⟨w.heap.size, _, own, A, B, f, cap, moved_h pl a.j 0 _, fun b hb => ?_, hP, hB, hP.st _ _ hAw hsame, hmW, hbW, upd_same _ _ _, hFm, hF3, ⟨rfl, hfnn⟩, htouch, ?_, ?_⟩
      · rw [upd_ne _ _ (hlow b (by rw [hown b hb]; simp))]; exact hown b hb
      · intro v o home' n' pl' F' col' w' g' gj hgj hA' ho hBo hb3' hs' K'
        subst hgj
        obtain ⟨hA'', hM⟩ := hA'.run (r := true)
        refine turn_back (cell_of_row hb3' 0) (cell_of_row hA'.me 1) (free_of_row hA'.me 1) (hA'.free1 1 (by omega)) ?_
        refine hres v o home' n' pl' F' col' _ g' hA'' ho ((hB v o).st _ _ hBo fun b hb => ?_) ((hSh g').st _ _ hs' fun b hb => ?_) (Kont.moves hM K')
        · exact (ks_setCell w' ⟨a.m, 1, none⟩ (.bool true)).block b ((hB v o).lt _ _ hBo hb) fun e => by
            have e' : b = a.m := e
            have := ho b hb
            rw [e', hA'.cm] at this; cases this
        · exact (ks_setCell w' ⟨a.m, 1, none⟩ (.bool true)).block b ((hSh g').lt _ _ hs' hb) fun e => by
            have e' : b = a.m := e
            have := hA'.lay.sb b hb
            rw [e', hA'.cm] at this; cases this
      · intro home' n' pl' F' col' w' g' gj hgj hA' ho hAo hb3' hs' K'
        subst hgj
        obtain ⟨hA'', hM⟩ := hA'.run (r := true)
        refine stop_back (cell_of_row hb3' 0) (cell_of_row hA'.me 1) (free_of_row hA'.me 1) (hA'.free1 1 (by omega)) ?_
        refine hstop home' n' pl' F' col' _ g' hA'' ho (hP.st _ _ hAo fun b hb => ?_) ((hSh g').st _ _ hs' fun b hb => ?_) (Kont.moves (mv := mv) (Post := Post) (pA := pA) (rA := rA) (T := (.ret : Tree G)) hM K')
        · exact (ks_setCell w' ⟨a.m, 1, none⟩ (.bool true)).block b (hP.lt _ _ hAo hb) fun e => by
            have e' : b = a.m := e
            have := ho b hb
            rw [e', hA'.cm] at this; cases this
        · exact (ks_setCell w' ⟨a.m, 1, none⟩ (.bool true)).block b ((hSh g').lt _ _ hs' hb) fun e => by
            have e' : b = a.m := e
            have := hA'.lay.sb b hb
            rw [e', hA'.cm] at this; cases this
    · exact (hSh g).st _ _ hs fun b hb => hks.block b ((hSh g).lt _ _ hs hb) fun e => by
        have := hA.lay.sb b hb
        rcases e with rfl | rfl
        · rw [hA.cm] at this; cases this
        · rw [hA.ccT] at this; cases this
end
end Go.Proofs.Ytodcnhodbeakiaa
