/- A machine in which one goroutine acts at a time, and every other one waits at a place of its own or only leaves: what is held of its trace. 'Peek g c': goroutine g, which does not act now, may still read the cell c on the way to its place. Of whatever program. Conditions: none. The frame of a machine in which one goroutine acts at a time: every other one has a place (receives over channels of its own, where it waits or to which it is on its way, reading only cells that stand still for it) or only leaves. A bystander's step keeps it. Of whatever program. Conditions: none. The one who acts: its own step, its send to one who has a place, its close of such a one's channel, its go statement: whatever the scheduler draws, the machine comes behind it. Of whatever program. Conditions: none. The one who acts sends to one who has a place: on whatever tape the machine comes behind the meeting, and the other one acts. Of whatever program. Conditions: none. The one who acts closes a channel of one who has a place: on whatever tape the machine comes behind the receive that finds it closed, and the other one acts. Of whatever program. Conditions: none. A go statement; the return; and what it wants that a run comes to a good end on whatever tape: 'Win'. Of whatever program. Conditions: none. Conditions: as each theorem states them. -/
import Derived.Conc.Token
namespace Go.Proofs.Ytnbaiinhalplcaa
set_option linter.unusedVariables false
open Go.Conc

structure Tidy (Peek : Nat → Addr → Prop) (M : Nat → Prop) (K : Nat → Prop) (t : Trace) : Prop where
  clean : ∀ said, ¬ Race said t
  known : ∀ i a, touchAt t i = some a → a.loc.isMemory = true → K i ∨ (a.write = false ∧ ∃ g c, t.g? i = some g ∧ a.loc = .cell c ∧ Peek g c)
  wrote : ∀ i a g c, touchAt t i = some a → a.write = true → a.loc = .cell c → Peek g c → Knows t g i
  hears : ∀ g, M g → Deaf t g = 0

section
variable {Peek Peek' : Nat → Addr → Prop} {M M' : Nat → Prop} {K K' : Nat → Prop} {t u : Trace} {h g j : Nat}

theorem touch_cases {i : Nat} {a : Touch} (ha : touchAt (t ++ u) i = some a) : (i < t.size ∧ touchAt t i = some a) ∨ ∃ op, op ∈ u ∧ (t ++ u)[i]? = some op ∧ op.act.touch? = some a := by
  obtain ⟨x, hx, hxa⟩ := touch_of ha
  rcases getElem?_append_cases hx with ⟨hi, hx'⟩ | ⟨_, hxu⟩
  · exact .inl ⟨hi, by rw [touchAt_of hx']; exact hxa⟩
  · exact .inr ⟨x, hxu, hx, hxa⟩

/-- What stays accounted for where the trace grows. -/
theorem Tidy.old_known (H : Tidy Peek M K t) (hK : ∀ i, K i → K' i) {i : Nat} {a : Touch} (hi : i < t.size) (ha : touchAt t i = some a) (hm : a.loc.isMemory = true) :
    K' i ∨ (a.write = false ∧ ∃ g c, (t ++ u).g? i = some g ∧ a.loc = .cell c ∧ Peek g c) :=
  (H.known i a ha hm).imp (hK i) fun ⟨p, g, c, hg, hl, hp⟩ => ⟨p, g, c, by rw [g?_old hi]; exact hg, hl, hp⟩

theorem Tidy.old_hears (H : Tidy Peek M K t) (hu : ∀ op ∈ u, op.g = g) (hd : M g → Deaf (t ++ u) g = Deaf t g) : ∀ x, M x → Deaf (t ++ u) x = 0 := fun x hx => by
  by_cases e : x = g
  · subst e; exact (hd hx).trans (H.hears x hx)
  · exact (Deaf_other t (fun z => e z.symm) u hu).trans (H.hears x hx)

/-- What the one who acts does: anything, but no write of what another may still read. -/
theorem Tidy.own (H : Tidy Peek M (Knows t h) t) (hu : ∀ op ∈ u, op.g = h) (hs : ∀ op ∈ u, ∀ b, op.act.touch? = some b → b.write = true → ∀ g c, b.loc = .cell c → ¬ Peek g c) (hd : Deaf (t ++ u) h = Deaf t h) :
    Tidy Peek M (Knows (t ++ u) h) (t ++ u) := by
  refine ⟨fun said => noRace_append (H.clean said) hu fun i a ha op hop b hb hc => ?_, fun i a ha hm => ?_, fun i a g c ha hw hl hp => ?_, H.old_hears hu (fun _ => hd)⟩
  · rcases H.known i a ha hc.2.1 with hk | ⟨hw, g, c, _, hl, hp⟩
    · exact hk
    · rcases hc.2.2.1 with x | x
      · rw [hw] at x; cases x
      · exact absurd hp (hs op hop b hb x g c (hc.1 ▸ hl))
  · rcases touch_cases ha with ⟨hi, ha'⟩ | ⟨op, hop, hx, hxa⟩
    · exact H.old_known (fun i => Knows.app u) hi ha' hm
    · have := knows_own hx
      rw [hu op hop] at this
      exact .inl this
  · rcases touch_cases ha with ⟨hi, ha'⟩ | ⟨op, hop, hx, hxa⟩
    · exact (H.wrote i a g c ha' hw hl hp).app u
    · exact absurd hp (hs op hop a hxa hw g c hl)

/-- Operations of one goroutine that touch nothing. -/
theorem Tidy.mute (H : Tidy Peek M K t) (hK : ∀ i, K i → K' i) (hu : ∀ op ∈ u, op.g = g) (hn : ∀ op ∈ u, op.act.touch? = none) (hd : M g → Deaf (t ++ u) g = Deaf t g) : Tidy Peek M K' (t ++ u) := by
  refine ⟨fun said => noRace_appendMute (H.clean said) hn, fun i a ha hm => ?_, fun i a g c ha hw hl hp => ?_, H.old_hears hu hd⟩
  · rcases touch_cases ha with ⟨hi, ha'⟩ | ⟨op, hop, hx, hxa⟩
    · exact H.old_known hK hi ha' hm
    · rw [hn op hop] at hxa; cases hxa
  · rcases touch_cases ha with ⟨hi, ha'⟩ | ⟨op, hop, hx, hxa⟩
    · exact (H.wrote i a g c ha' hw hl hp).app u
    · rw [hn op hop] at hxa; cases hxa

/-- One that does not act reads what it may. -/
theorem Tidy.peek (H : Tidy Peek M K t) (hK : ∀ i, K i → K' i) (hu : ∀ op ∈ u, op.g = g) (hr : ∀ op ∈ u, ∀ b, op.act.touch? = some b → b.write = false ∧ ∃ c, b.loc = .cell c ∧ Peek g c) (hd : Deaf (t ++ u) g = Deaf t g) :
    Tidy Peek M K' (t ++ u) := by
  refine ⟨fun said => noRace_append (H.clean said) hu fun i a ha op hop b hb hc => ?_, fun i a ha hm => ?_, fun i a g' c ha hw hl hp => ?_, H.old_hears hu (fun _ => hd)⟩
  · obtain ⟨hb0, c, hbl, hp⟩ := hr op hop b hb
    rcases hc.2.2.1 with x | x
    · exact H.wrote i a g c ha x (hc.1.trans hbl) hp
    · rw [hb0] at x; cases x
  · rcases touch_cases ha with ⟨hi, ha'⟩ | ⟨op, hop, hx, hxa⟩
    · exact H.old_known hK hi ha' hm
    · obtain ⟨hb0, c, hbl, hp⟩ := hr op hop a hxa
      exact .inr ⟨hb0, g, c, by rw [g?_of hx, hu op hop], hbl, hp⟩
  · rcases touch_cases ha with ⟨hi, ha'⟩ | ⟨op, hop, hx, hxa⟩
    · exact (H.wrote i a g' c ha' hw hl hp).app u
    · rw [(hr op hop a hxa).1] at hw; cases hw

/-- What goes on from h to j by an edge from 'p' to 'q' of the new operations: j knows all that h knew. 'New': what h may read from now on. -/
theorem Tidy.hand (H : Tidy Peek M (Knows t h) t) {p q : Nat} {x y : MemOp} (hn : ∀ op ∈ u, op.act.touch? = none) (hq : ∀ g, ∀ op ∈ u, ∀ d, deafStep g d op = d)
    (hx : (t ++ u)[p]? = some x) (hxg : x.g = h) (hp : t.size ≤ p) (hy : (t ++ u)[q]? = some y) (hyg : y.g = j) (edge : HappensBefore (t ++ u) p q) (hM : ∀ g, M' g → Deaf t g = 0)
    (hPj : ∀ g c, Peek g c → g ≠ j → Peek' g c) (hPh : ∀ g c, Peek' g c → Peek g c ∨ g = h ∨ g = j) : Tidy Peek' M' (Knows (t ++ u) j) (t ++ u) := by
  have pass : ∀ i, Knows t h i → Knows (t ++ u) j i := fun i hk => ⟨q, y, hy, hyg, .inr ((hk.hb_new hp hx hxg).trans edge)⟩
  refine ⟨fun said => noRace_appendMute (H.clean said) hn, fun i a ha hm => ?_, fun i a g c ha hw hl hpk => ?_, fun g hg => (Deaf_quiet (hq g)).trans (hM g hg)⟩
  · rcases touch_cases ha with ⟨hi, ha'⟩ | ⟨op, hop, hx, hxa⟩
    · rcases H.known i a ha' hm with hk | ⟨hw, g, c, hg, hl, hpk⟩
      · exact .inl (pass i hk)
      · by_cases e : g = j
        · subst e
          obtain ⟨z, hz, _⟩ := touch_of ha'
          have hzg : z.g = g := by have := g?_of hz; rw [hg] at this; exact (Option.some.inj this).symm
          have := (knows_own hz).app u
          rw [hzg] at this
          exact .inl this
        · exact .inr ⟨hw, g, c, by rw [g?_old hi]; exact hg, hl, hPj g c hpk e⟩
    · rw [hn op hop] at hxa; cases hxa
  · rcases touch_cases ha with ⟨hi, ha'⟩ | ⟨op, hop, hx, hxa⟩
    · rcases hPh g c hpk with z | rfl | rfl
      · exact (H.wrote i a g c ha' hw hl z).app u
      · rcases H.known i a ha' (by rw [hl]; rfl) with hk | ⟨hw', _⟩
        · exact hk.app u
        · rw [hw] at hw'; cases hw'
      · rcases H.known i a ha' (by rw [hl]; rfl) with hk | ⟨hw', _⟩
        · exact pass i hk
        · rw [hw] at hw'; cases hw'
    · rw [hn op hop] at hxa; cases hxa

/-- A send that is met. -/
theorem Tidy.give (H : Tidy Peek M (Knows t h) t) (hh : M h) (hj : M j) (fh : FuncId) (ph : String) (fj : FuncId) (pj : String) (c k cap : Nat) (hM : ∀ g, M' g → M g)
    (hPj : ∀ g c, Peek g c → g ≠ j → Peek' g c) (hPh : ∀ g c, Peek' g c → Peek g c ∨ g = h ∨ g = j) : Tidy Peek' M' (Knows (t ++ met h j fh ph fj pj c k cap) j) (t ++ met h j fh ph fj pj c k cap) := by
  have hq := fun g => met_quiet h j fh ph fj pj c k cap g
  have e0 : (t ++ met h j fh ph fj pj c k cap)[t.size]? = some { g := h, fn := fh, pos := ph, act := .send c k } := by simp [met]
  have e3 : (t ++ met h j fh ph fj pj c k cap)[t.size + 3]? = some { g := j, fn := fj, pos := pj, act := .recvDone c k } := by simp [met]
  have edge : HappensBefore (t ++ met h j fh ph fj pj c k cap) t.size (t.size + 3) :=
    Relation.TransGen.single (.inr ⟨.handOver (act?_of e0) (act?_of e3), ⟨h, g?_of e0, by rw [deaf_old (Nat.le_refl _)]; exact H.hears h hh⟩, ⟨j, g?_of e3, by rw [deaf_quiet (hq j) 3 (by simp [met])]; exact H.hears j hj⟩⟩)
  exact H.hand (met_mute h j fh ph fj pj c k cap) hq e0 rfl (Nat.le_refl _) e3 rfl edge (fun g hg => H.hears g (hM g hg)) hPj hPh

/-- The two operations of a go statement. -/
def started (h j : Nat) (fh : FuncId) (ph : String) (fj : FuncId) : Trace := #[{ g := h, fn := fh, pos := ph, act := .go j }, { g := j, fn := fj, pos := ph, act := .start }]
theorem started_mute (h j : Nat) (fh : FuncId) (ph : String) (fj : FuncId) : ∀ op ∈ started h j fh ph fj, op.act.touch? = none := by
  intro op hop
  simp only [started, List.mem_toArray, List.mem_cons, List.not_mem_nil, or_false] at hop
  rcases hop with rfl | rfl <;> rfl
theorem started_quiet (h j : Nat) (fh : FuncId) (ph : String) (fj : FuncId) (g : Nat) : ∀ op ∈ started h j fh ph fj, ∀ d, deafStep g d op = d := by
  intro op hop d
  simp only [started, List.mem_toArray, List.mem_cons, List.not_mem_nil, or_false] at hop
  rcases hop with rfl | rfl <;> rfl

/-- A go statement by which the child acts from its birth on. -/
theorem Tidy.spawn (H : Tidy Peek M (Knows t h) t) (hh : M h) (hj : Deaf t j = 0) (fh : FuncId) (ph : String) (fj : FuncId) (hM : ∀ g, M' g → M g ∨ g = j)
    (hPj : ∀ g c, Peek g c → g ≠ j → Peek' g c) (hPh : ∀ g c, Peek' g c → Peek g c ∨ g = h ∨ g = j) : Tidy Peek' M' (Knows (t ++ started h j fh ph fj) j) (t ++ started h j fh ph fj) := by
  have hq := fun g => started_quiet h j fh ph fj g
  have e0 : (t ++ started h j fh ph fj)[t.size]? = some { g := h, fn := fh, pos := ph, act := .go j } := by simp [started]
  have e1 : (t ++ started h j fh ph fj)[t.size + 1]? = some { g := j, fn := fj, pos := ph, act := .start } := by simp [started]
  have edge : HappensBefore (t ++ started h j fh ph fj) t.size (t.size + 1) :=
    Relation.TransGen.single (.inr ⟨.spawn (act?_of e0) (act?_of e1) (g?_of e1), ⟨h, g?_of e0, by rw [deaf_old (Nat.le_refl _)]; exact H.hears h hh⟩, ⟨j, g?_of e1, by rw [deaf_quiet (hq j) 1 (by simp [started])]; exact hj⟩⟩)
  exact H.hand (started_mute h j fh ph fj) hq e0 rfl (Nat.le_refl _) e1 rfl edge (fun g hg => (hM g hg).elim (H.hears g) fun e => e ▸ hj) hPj hPh

/-- Behind a close, the operation m, by h: nobody acts till it is found. -/
theorem Tidy.closed (H : Tidy Peek M (Knows t h) t) {m : Nat} {x : MemOp} (hx : t[m]? = some x) (hxg : x.g = h) (hl : ∀ i a, touchAt t i = some a → a.loc.isMemory = true → Knows t h i → Before t i m)
    (hM : ∀ g, M' g → M g) (hPj : ∀ g c, Peek g c → Peek' g c) (hPh : ∀ g c, Peek' g c → Peek g c ∨ g = h) : Tidy Peek' M' (fun i => Before t i m) t := by
  refine ⟨H.clean, fun i a ha hm => ?_, fun i a g c ha hw hl' hp => ?_, fun g hg => H.hears g (hM g hg)⟩
  · rcases H.known i a ha hm with hk | ⟨hw, g, c, hg, hl', hp⟩
    · exact .inl (hl i a ha hm hk)
    · exact .inr ⟨hw, g, c, hg, hl', hPj g c hp⟩
  · rcases hPh g c hp with z | rfl
    · exact H.wrote i a g c ha hw hl' z
    · rcases H.known i a ha (by rw [hl']; rfl) with hk | ⟨hw', _⟩
      · exact hk
      · rw [hw] at hw'; cases hw'

/-- j finds the channel closed. -/
theorem Tidy.found {m c : Nat} (H : Tidy Peek M (fun i => Before t i m) t) (hc : t.act? m = some (.close c)) (hh : t.heard m) (hj : M j) (fj : FuncId) (pj : String) (hM : ∀ g, M' g → M g)
    (hPj : ∀ g c, Peek g c → g ≠ j → Peek' g c) (hPh : ∀ g c, Peek' g c → Peek g c) :
    Tidy Peek' M' (Knows (t ++ #[{ g := j, fn := fj, pos := pj, act := .recvClosed c }]) j) (t ++ #[{ g := j, fn := fj, pos := pj, act := .recvClosed c }]) := by
  generalize hu : (#[{ g := j, fn := fj, pos := pj, act := .recvClosed c }] : Trace) = u
  have hn : ∀ op ∈ u, op.act.touch? = none := by
    intro op hop; subst hu
    simp only [List.mem_toArray, List.mem_cons, List.not_mem_nil, or_false] at hop
    subst hop; rfl
  have hq : ∀ g, ∀ op ∈ u, ∀ d, deafStep g d op = d := by
    intro g op hop d; subst hu
    simp only [List.mem_toArray, List.mem_cons, List.not_mem_nil, or_false] at hop
    subst hop; rfl
  have e0 : (t ++ u)[t.size]? = some { g := j, fn := fj, pos := pj, act := .recvClosed c } := by subst hu; simp
  have hmt : m < t.size := lt_of_act? hc
  have edge : HappensBefore (t ++ u) m t.size :=
    Relation.TransGen.single (.inr ⟨.closed (by rw [act?_old hmt]; exact hc) (act?_of e0), (heard_old hmt).2 hh, ⟨j, g?_of e0, by rw [deaf_old (Nat.le_refl _)]; exact H.hears j hj⟩⟩)
  have pass : ∀ i, Before t i m → Knows (t ++ u) j i := fun i hb => ⟨t.size, _, e0, rfl, .inr ((hb.app u).hb edge)⟩
  refine ⟨fun said => noRace_appendMute (H.clean said) hn, fun i a ha hm => ?_, fun i a g c' ha hw hl hp => ?_, fun g hg => (Deaf_quiet (hq g)).trans (H.hears g (hM g hg))⟩
  · rcases touch_cases ha with ⟨hi, ha'⟩ | ⟨op, hop, hx, hxa⟩
    · rcases H.known i a ha' hm with hk | ⟨hw, g, c', hg, hl, hp⟩
      · exact .inl (pass i hk)
      · by_cases e : g = j
        · subst e
          obtain ⟨z, hz, _⟩ := touch_of ha'
          have hzg : z.g = g := by have := g?_of hz; rw [hg] at this; exact (Option.some.inj this).symm
          have := (knows_own hz).app u
          rw [hzg] at this
          exact .inl this
        · exact .inr ⟨hw, g, c', by rw [g?_old hi]; exact hg, hl, hPj g c' hp e⟩
    · rw [hn op hop] at hxa; cases hxa
  · rcases touch_cases ha with ⟨hi, ha'⟩ | ⟨op, hop, hx, hxa⟩
    · exact (H.wrote i a g c' ha' hw hl (hPh g c' hp)).app u
    · rw [hn op hop] at hxa; cases hxa

/-- At the end, where nobody may read on his way any more, all is handed over. -/
theorem Tidy.handed (H : Tidy Peek M (Knows t 0) t) (hP : ∀ g c, ¬ Peek g c) : t.HandedOver := by
  intro i g hg hne ⟨x, hx, hm, _⟩
  rcases H.known i x hx hm with ⟨q, z, hz, hzg, hb⟩ | ⟨_, g', c, _, _, hp⟩
  · rcases hb with rfl | hb
    · exact absurd (by have := g?_of hz; rw [hg] at this; rw [← hzg]; exact (Option.some.inj this)) hne
    · exact ⟨q, by rw [g?_of hz, hzg], hb⟩
  · exact absurd hp (hP g' c)
end
end Go.Proofs.Ytnbaiinhalplcaa

namespace Go.Proofs.Ytnbaiinhalplcaa
set_option linter.unusedVariables false
set_option linter.unusedSimpArgs false
open Go.Conc
open Go.ConcN (sumTo upd sumTo_upd upd_ne upd_same)

/-- A place: the receives at which one waits; the communication's shape; what is known of the record that stands there; the cells that one reads on the way, and what they hold. -/
structure Place where
  cases : Array CommCase
  shape : CommShape
  home : Goroutine → Prop
  still : Addr → Value → Prop

def Place.has (s : Place) (c : Nat) : Prop := ∃ (k : Nat) (z : Value), s.cases[k]? = some (rcase c z)
structure Place.Wf (s : Place) : Prop where
  recvs : ∀ cc ∈ s.cases, ∃ c z, cc = rcase c z
  apart : ∀ (k m c : Nat) (z z' : Value), s.cases[k]? = some (rcase c z) → s.cases[m]? = some (rcase c z') → k = m
theorem Place.has_of_mem {s : Place} {c : Nat} {z : Value} (h : rcase c z ∈ s.cases) : s.has c := by
  obtain ⟨k, hk, e⟩ := Array.mem_iff_getElem.1 h
  exact ⟨k, z, by rw [← e]; exact Array.getElem?_eq_getElem hk⟩
def Place.sees (s : Place) (w : World) : Prop := ∀ c v, s.still c v → w.cell? c = some v
def Place.reads (s : Place) (es : Array Event) : Prop := ∀ e ∈ es, ∃ c v, e = ⟨.cell c, false, false⟩ ∧ s.still c v

/-- It stands at its receives. -/
def There (P : Program) (main : Bool) (s : Place) (g g₂ : Goroutine) : Prop :=
  g.status = .running ∧ g.frame = g₂.frame ∧ g.callers = g₂.callers ∧ g.dying = g₂.dying ∧ s.home g₂ ∧ ∃ es, s.reads es ∧ ∀ w, s.sees w → stepG P main g w = .comm g₂ s.cases true s.shape w es
/-- It is on its way: at most n steps. -/
def Way (P : Program) (main : Bool) (s : Place) : Nat → Goroutine → Prop
  | 0, g => ∃ g₂, There P main s g g₂
  | n + 1, g => (∃ g₂, There P main s g g₂) ∨ (g.status = .running ∧ ∃ g' es, s.reads es ∧ (∀ w, s.sees w → stepG P main g w = .go g' w es) ∧ Way P main s n g')
theorem Way.running {P : Program} {main : Bool} {s : Place} : ∀ {n : Nat} {g : Goroutine}, Way P main s n g → g.status = .running
  | 0, _, h => h.choose_spec.1
  | _ + 1, _, h => h.elim (fun h => h.choose_spec.1) (·.1)
theorem Way.more {P : Program} {main : Bool} {s : Place} : ∀ {n : Nat} {g : Goroutine}, Way P main s n g → Way P main s (n + 1) g
  | 0, _, h => .inl h
  | _ + 1, _, h => h.imp id fun ⟨r, g', es, a, b, c⟩ => ⟨r, g', es, a, b, c.more⟩
/-- It waits at its place (0), or is on its way there. -/
def Sits' (P : Program) (main : Bool) (s : Place) (n : Nat) (g : Goroutine) : Prop :=
  (∃ k, n = k + 1 ∧ Way P main s k g) ∨ (n = 0 ∧ ∃ g₀ g₂, g = parked g₂ s.cases s.shape ∧ There P main s g₀ g₂)
/-- One that does not act. -/
def Idle' (P : Program) (T : Trace) (i n : Nat) (g : Goroutine) : Option Place → Prop
  | none => 0 < i ∧ QuitsD P n (Deaf T i) g
  | some s => Sits' P (i == 0) s n g
def Peek (pl : Nat → Option Place) (g : Nat) (c : Addr) : Prop := ∃ s v, pl g = some s ∧ s.still c v

theorem Sits'.cases {P : Program} {main : Bool} {s : Place} {n : Nat} {g : Goroutine} (h : Sits' P main s n g) : (g.status = .running ∧ 0 < n) ∨ (g.status = .blocked ∧ n = 0) := by
  rcases h with ⟨k, rfl, hg⟩ | ⟨rfl, _, g₂, rfl, _⟩
  · exact .inl ⟨hg.running, by omega⟩
  · exact .inr ⟨rfl, rfl⟩
theorem Sits'.again {P : Program} {main : Bool} {s : Place} {n : Nat} {g : Goroutine} {w : World} (h : Sits' P main s n g) (hwf : s.Wf) (hc : ∀ c, s.has c → ∃ k, w.heap[c]? = some (.chan 0 #[] false k k false)) : g.again w = g := by
  rcases h with ⟨k, rfl, hg⟩ | ⟨rfl, _, g₂, rfl, _⟩
  · exact again_of_running (.inl hg.running) w
  · refine again_all_open fun cc hcc => ?_
    obtain ⟨c, z, rfl⟩ := hwf.recvs cc hcc
    obtain ⟨k, h⟩ := hc c (Place.has_of_mem hcc)
    exact ⟨c, z, 0, #[], k, k, false, rfl, h⟩
theorem There.tries {P : Program} {main : Bool} {s : Place} {g₀ g₂ : Goroutine} (h : There P main s g₀ g₂) (cs : Array CommCase) (sh : CommShape) : There P main s { parked g₂ cs sh with status := .running } g₂ := by
  obtain ⟨_, h1, h2, h3, hh, es, hes, hst⟩ := h
  exact ⟨rfl, rfl, rfl, rfl, hh, es, hes, fun w hw => by rw [← hst w hw]; exact stepG_same h1.symm h2.symm h3.symm w⟩

theorem reads_ops {pl : Nat → Option Place} {s : Place} {i : Nat} (hs : pl i = some s) {fn : FuncId} {pos : String} {es : Array Event} (h : s.reads es) :
    (∀ op ∈ MemOp.ofEvents i fn pos es, op.g = i) ∧ (∀ op ∈ MemOp.ofEvents i fn pos es, ∀ b, op.act.touch? = some b → b.write = false ∧ ∃ c, b.loc = .cell c ∧ Peek pl i c) ∧ ∀ t : Trace, Deaf (t ++ MemOp.ofEvents i fn pos es) i = Deaf t i := by
  refine ⟨fun op hop => by obtain ⟨e, _, rfl⟩ := Go.Conc.mem_ofEvents hop; rfl, fun op hop b hb => ?_, fun t => ?_⟩
  · obtain ⟨e, he, rfl⟩ := Go.Conc.mem_ofEvents hop
    obtain ⟨c, v, rfl, hS⟩ := h e he
    simp only [ofEvent_cell0, MemAct.touch?, Option.some.injEq] at hb
    subst hb
    exact ⟨rfl, c, rfl, s, v, hs, hS⟩
  · rw [Deaf_own]
    exact deafBehind_still (fun e he => by obtain ⟨a, v, rfl, _⟩ := h e he; exact ⟨by simp, by simp⟩) _

/-- THE FRAME but for those of whom the mode at hand speaks itself ('Sp'). 'Dead': whose channel has been closed. -/
structure Core (P : Program) (Kf : Trace → Nat → Prop) (pl : Nat → Option Place) (Sp Dead : Nat → Prop) (T : Trace) (gs : Array Goroutine) (w : World) (q : Nat → Nat) : Prop where
  idle : ∀ i g, ¬ Sp i → gs[i]? = some g → Idle' P T i (q i) g (pl i)
  chans : ∀ i s c, ¬ Dead i → pl i = some s → s.has c → ∃ k, w.heap[c]? = some (.chan 0 #[] false k k false)
  wf : ∀ i s, pl i = some s → s.Wf
  live : ∀ i g, Dead i → gs[i]? = some g → g.status = .running
  inj : ∀ i i' s s' c, pl i = some s → pl i' = some s' → s.has c → s'.has c → i = i'
  above : ∀ j, gs.size ≤ j → Deaf T j = 0
  low : ∀ i s, pl i = some s → i < gs.size
  nosp : ∀ i, Sp i → pl i = none
  past : Tidy (Peek pl) (fun g => Sp g ∨ (pl g).isSome = true) (Kf T) T
  sees : ∀ i s, pl i = some s → s.sees w

section
variable {P : Program} {Kf : Trace → Nat → Prop} {pl : Nat → Option Place} {Sp Dead : Nat → Prop} {T : Trace} {gs : Array Goroutine} {w : World} {q : Nat → Nat}

theorem Core.fixed (C : Core P Kf pl Sp Dead T gs w q) {x : Nat} {y : Goroutine} (hx : ¬ Sp x) (hy : gs[x]? = some y) : y.again w = y := by
  have h := C.idle x y hx hy
  cases e : pl x with
  | none => rw [e] at h; exact again_of_running h.2.status w
  | some s =>
    rw [e] at h
    by_cases hD : Dead x
    · exact again_of_running (.inl (C.live x y hD hy)) w
    · exact Sits'.again h (C.wf x s e) fun c hc => C.chans x s c hD e hc

theorem Core.noSend (C : Core P Kf pl Sp Dead T gs w q) {x : Nat} {y : Goroutine} (hx : ¬ Sp x) (hy : gs[x]? = some y) (c : Nat) : offersAt y c true = [] := by
  have h := C.idle x y hx hy
  cases e : pl x with
  | none =>
    rw [e] at h
    exact offersAt_of_not_blocked (fun hb => by rcases h.2.status with z | z <;> rw [z] at hb <;> cases hb) c true
  | some s =>
    rw [e] at h
    rcases h with ⟨k, hq, hg⟩ | ⟨_, _, g₂, rfl, _⟩
    · exact offersAt_of_not_blocked (fun hb => by rw [hg.running] at hb; cases hb) c true
    · exact offersAt_parked_sends (fun cc hcc => by obtain ⟨c', z', rfl⟩ := (C.wf x s e).recvs cc hcc; rfl) _

theorem Core.noRecv (C : Core P Kf pl Sp Dead T gs w q) {x : Nat} {y : Goroutine} (hx : ¬ Sp x) (hy : gs[x]? = some y) {c : Nat} (hc : ∀ s, pl x = some s → ¬ s.has c) : offersAt y c false = [] := by
  have h := C.idle x y hx hy
  cases e : pl x with
  | none =>
    rw [e] at h
    exact offersAt_of_not_blocked (fun hb => by rcases h.2.status with z | z <;> rw [z] at hb <;> cases hb) c false
  | some s =>
    rw [e] at h
    rcases h with ⟨k, hq, hg⟩ | ⟨_, _, g₂, rfl, _⟩
    · exact offersAt_of_not_blocked (fun hb => by rw [hg.running] at hb; cases hb) c false
    · refine offersAt_parked_off (fun cc hcc ec => ?_) _
      obtain ⟨c', z', rfl⟩ := (C.wf x s e).recvs cc hcc
      simp only [rcase, Value.chan.injEq, Option.some.injEq] at ec
      subst ec
      exact hc s e (Place.has_of_mem hcc)

theorem Core.at (C : Core P Kf pl Sp Dead T gs w q) (d : Nat) : Core P Kf pl Sp Dead T gs (w.at d) q :=
  ⟨C.idle, C.chans, C.wf, C.live, C.inj, C.above, C.low, C.nosp, C.past, C.sees⟩

/-- One bystander's record is laid anew. -/
theorem Core.put (C : Core P Kf pl Sp Dead T gs w q) {i n' : Nat} {g' : Goroutine} {ops : Array MemOp} {gs' : Array Goroutine} (hlt : i < gs.size) (hsz : gs'.size = gs.size) (hother : ∀ x, x ≠ i → gs'[x]? = gs[x]?) (hself : gs'[i]? = some g')
    (hops : ∀ op ∈ ops, op.g = i) (hlive : Dead i → g'.status = .running) (hidle : Idle' P (T ++ ops) i n' g' (pl i)) (hpast : Tidy (Peek pl) (fun g => Sp g ∨ (pl g).isSome = true) (Kf (T ++ ops)) (T ++ ops)) :
    Core P Kf pl Sp Dead (T ++ ops) gs' w (upd q i n') := by
  refine ⟨fun x y hx hy => ?_, C.chans, C.wf, fun x y hx hy => ?_, C.inj, fun j hj => ?_, fun x s e => hsz ▸ C.low x s e, C.nosp, hpast, C.sees⟩
  · by_cases e : x = i
    · subst e
      rw [hself] at hy
      obtain rfl := Option.some.inj hy
      rw [upd_same]; exact hidle
    · rw [hother x e] at hy
      rw [upd_ne q n' e]
      have h := C.idle x y hx hy
      cases es : pl x with
      | none => rw [es] at h; exact ⟨h.1, by rw [Deaf_other T (fun z => e z.symm) ops hops]; exact h.2⟩
      | some s => rw [es] at h; exact h
  · by_cases e : x = i
    · subst e
      rw [hself] at hy
      obtain rfl := Option.some.inj hy
      exact hlive hx
    · rw [hother x e] at hy
      exact C.live x y hx hy
  · rw [Deaf_other T (g' := i) (by omega) ops hops]
    exact C.above j (by omega)

theorem lay_other {gs : Array Goroutine} {i : Nat} {f : Goroutine → Goroutine} {g' : Goroutine} (hf : ∀ x y, x ≠ i → gs[x]? = some y → f y = y) : ∀ x, x ≠ i → ((gs.map f).setIfInBounds i g')[x]? = gs[x]? := by
  intro x hx
  rw [Array.getElem?_setIfInBounds_ne (fun e => hx e.symm), Array.getElem?_map]
  cases e : gs[x]? with
  | none => rfl
  | some y => simp [hf x y hx e]

theorem sum_less {q : Nat → Nat} {i n : Nat} (hlt : i < n) {k m : Nat} (h : q i = m) (hk : k < m) : sumTo n (upd q i k) < sumTo n q := by
  have h2 : sumTo n (upd q i k) + m = sumTo n q + k := by
    have := sumTo_upd q k id hlt
    simpa [h] using this
  omega

/-- A BYSTANDER's STEP: one that leaves takes a step; one that has a place goes a step on its way, or comes there and waits. The frame stands, the world stands, the measure falls. -/
theorem Core.step (hKf : ∀ t u i, Kf t i → Kf (t ++ u) i) (C : Core P Kf pl Sp Dead T gs w q) {i : Nat} {g : Goroutine} {sl : Option (Nat × Nat)} (hi : gs[i]? = some g) (hsp : ¬ Sp i) (hrun : g.status = .running)
    (hsA : ∀ x gx, Sp x → gs[x]? = some gx → gx.again w = gx) (hDs : Dead i → pl i ≠ none)
    (hsO : ∀ s g₂, pl i = some s → There P (i == 0) s g g₂ → ¬ Dead i ∧ ∀ x gx c, Sp x → gs[x]? = some gx → s.has c → offersAt gx c true = []) :
    ∃ (gs' : Array Goroutine) (ops : Array MemOp) (q' : Nat → Nat), runT P (crowd gs w sl) i = (.next (crowd gs' w sl), ops) ∧ gs'.size = gs.size ∧ (∀ x, Sp x → gs'[x]? = gs[x]?) ∧ (∀ x, x ≠ i → q' x = q x) ∧
      (∀ s, pl i = some s → q' i = 0 → ∃ g₂, There P (i == 0) s g g₂) ∧ Core P Kf pl Sp Dead (T ++ ops) gs' w q' ∧ sumTo gs.size q' < sumTo gs.size q := by
  have hlt : i < gs.size := (Array.getElem?_eq_some_iff.1 hi).1
  have hne : ∀ x, Sp x → x ≠ i := fun x hx e => hsp (e ▸ hx)
  have hfix : ∀ (a a' : Goroutine) (x : Nat) (y : Goroutine), gs[x]? = some y → woken P a a' w y = y := fun a a' x y hy => woken_of_again (by
    by_cases hx : Sp x
    · exact hsA x y hx hy
    · exact C.fixed hx hy)
  have harr : ∀ (a' g' : Goroutine) (x : Nat), x ≠ i → ((gs.map (woken P g a' w)).setIfInBounds i g')[x]? = gs[x]? := fun a' g' => lay_other fun x y _ hy => hfix g a' x y hy
  have hself : ∀ (a' g' : Goroutine), ((gs.map (woken P g a' w)).setIfInBounds i g')[i]? = some g' := fun a' g' => Array.getElem?_setIfInBounds_self_of_lt (by simpa using hlt)
  have hid := C.idle i g hsp hi
  cases e : pl i with
  | none =>
    rw [e] at hid
    obtain ⟨hpos, hq⟩ := hid
    have hi0 : (i == 0) = false := by simp; omega
    cases hqi : q i with
    | zero => rw [hqi] at hq; rw [hq.1] at hrun; cases hrun
    | succ k =>
      rw [hqi] at hq
      rcases hq with ⟨hf, _⟩ | ⟨_, g', es, hm, hstp, hq'⟩
      · rw [hf] at hrun; cases hrun
      have hops : ∀ op ∈ MemOp.ofEvents i g.frame.fn g.frame.place es, op.g = i := fun op hop => by obtain ⟨e, _, rfl⟩ := Go.Conc.mem_ofEvents hop; rfl
      refine ⟨_, _, upd q i k, runT_crowd_go (sl := sl) hi (by rw [hi0]; exact hstp w), by simp, fun x hx => harr _ _ x (hne x hx), fun x hx => upd_ne q k hx, fun s hs _ => (by cases hs), ?_, sum_less hlt hqi (by omega)⟩
      refine C.put hlt (by simp) (harr _ _) (hself _ _) hops (fun hD => absurd e (hDs hD)) (by rw [e]; exact ⟨hpos, by rw [Deaf_own]; exact hq'⟩) ?_
      exact C.past.mute (hKf T _) hops (fun op hop => by obtain ⟨e, he, rfl⟩ := Go.Conc.mem_ofEvents hop; exact touch_mute (hm e he)) (fun hM => hM.elim (fun z => absurd z hsp) (fun z => by rw [e] at z; cases z))
  | some s =>
    rw [e] at hid
    obtain ⟨k, hqi, hg⟩ : ∃ k, q i = k + 1 ∧ Way P (i == 0) s k g := by
      rcases hid with h | ⟨_, _, g₂, rfl, _⟩
      · exact h
      · cases hrun
    have hsee := C.sees i s e
    have hcase : (∃ g₂, There P (i == 0) s g g₂) ∨ ∃ k' g' es, k = k' + 1 ∧ s.reads es ∧ stepG P (i == 0) g w = .go g' w es ∧ Way P (i == 0) s k' g' := by
      cases k with
      | zero => exact .inl hg
      | succ k' =>
        rcases hg with hstop | ⟨_, g', es, hr, hs, hw⟩
        · exact .inl hstop
        · exact .inr ⟨k', g', es, rfl, hr, hs w hsee, hw⟩
    rcases hcase with ⟨g₂, hat⟩ | ⟨k', g', es, rfl, hes, hgo, hG'⟩
    · obtain ⟨hnD, hsO'⟩ := hsO s g₂ e hat
      obtain ⟨_, _, _, _, _, es, hes, hstp⟩ := id hat
      obtain ⟨hops, hr, hd⟩ := reads_ops (i := i) (fn := g.frame.fn) (pos := g.frame.place) e hes
      have hw : ∀ cc ∈ s.cases, NoWays w (gs.setIfInBounds i ph) cc := by
        intro cc hcc
        obtain ⟨c, z, rfl⟩ := (C.wf i s e).recvs cc hcc
        have hsc := Place.has_of_mem hcc
        obtain ⟨kk, hc⟩ := C.chans i s c hnD e hsc
        refine ways_recv_none hc (partners_nil fun x y hy => ?_)
        rcases getElem?_stand gs i x y hy with ⟨_, rfl⟩ | ⟨hx, hy'⟩
        · exact offersAt_ph _ _
        · by_cases hS : Sp x
          · exact hsO' x y c hS hy' hsc
          · exact C.noSend hS hy' _
      refine ⟨_, _, upd q i 0, crowd_waits (sl := sl) hi (hstp w hsee) hw, by simp, fun x hx => Array.getElem?_setIfInBounds_ne (fun z => hne x hx z.symm), fun x hx => upd_ne q 0 hx, fun s' hs' _ => (by obtain rfl := Option.some.inj hs'; exact ⟨g₂, hat⟩), ?_, sum_less hlt hqi (by omega)⟩
      refine C.put hlt (by simp) (fun x hx => Array.getElem?_setIfInBounds_ne (fun z => hx z.symm)) (Array.getElem?_setIfInBounds_self_of_lt hlt) hops (fun hD => absurd hD hnD) (by rw [e]; exact .inr ⟨rfl, g, g₂, rfl, hat⟩) ?_
      exact C.past.peek (hKf T _) hops hr (hd T)
    · obtain ⟨hops, hr, hd⟩ := reads_ops (i := i) (fn := g.frame.fn) (pos := g.frame.place) e hes
      refine ⟨_, _, upd q i (k' + 1), runT_crowd_go (sl := sl) hi hgo, by simp, fun x hx => harr _ _ x (hne x hx), fun x hx => upd_ne q _ hx, fun s' _ h0 => (by rw [upd_same] at h0; omega), ?_, sum_less hlt hqi (by omega)⟩
      refine C.put hlt (by simp) (harr _ _) (hself _ _) hops (fun _ => hG'.running) (by rw [e]; exact .inl ⟨k', rfl, hG'⟩) ?_
      exact C.past.peek (hKf T _) hops hr (hd T)

theorem Core.awake (C : Core P Kf pl Sp Dead T gs w q) (hS : ∀ x gx, Sp x → gs[x]? = some gx → gx.status = .running ∨ gx.status = .blocked) : ∀ g ∈ gs, awake g := by
  intro g hg
  obtain ⟨i, hi, rfl⟩ := Array.mem_iff_getElem.1 hg
  by_cases e : Sp i
  · exact awake_of ((hS i _ e (Array.getElem?_eq_getElem hi)).elim .inl fun x => .inr (.inl x))
  · have hid := C.idle i _ e (Array.getElem?_eq_getElem hi)
    cases es : pl i with
    | none => rw [es] at hid; exact awake_of (hid.2.status.elim .inl fun x => .inr (.inr x))
    | some s => rw [es] at hid; exact awake_of (hid.cases.elim (fun x => .inl x.1) fun x => .inr (.inl x.1))
end
end Go.Proofs.Ytnbaiinhalplcaa

namespace Go.Proofs.Ytnbaiinhalplcaa
set_option linter.unusedVariables false
set_option linter.unusedSimpArgs false
open Go.Conc
open Go.ConcN (sumTo upd sumTo_upd upd_ne upd_same)

def Held (P : Program) (pl : Nat → Option Place) (h : Nat) (T : Trace) (gs : Array Goroutine) (w : World) (q : Nat → Nat) : Prop :=
  Core P (fun t => Knows t h) pl (· = h) (fun _ => False) T gs w q

/-- What a step of the one who acts may list. -/
def Calm (pl : Nat → Option Place) (e : Event) : Prop :=
  (∀ x, (MemAct.ofEvent e).touch? = some x → x.write = true → ∀ g c, x.loc = .cell c → ¬ Peek pl g c) ∧ e.loc ≠ .mark .disable ∧ e.loc ≠ .mark .enable
def Kept (pl : Nat → Option Place) (w w' : World) : Prop :=
  (∀ i s c, pl i = some s → s.has c → w'.heap[c]? = w.heap[c]?) ∧ ∀ i s, pl i = some s → s.sees w → s.sees w'
/-- Where one stays that acts no more: it leaves, or has a place. -/
def Rests (P : Program) (pl : Nat → Option Place) (h : Nat) (w : World) (a' : Goroutine) : Option Place → Prop
  | none => 0 < h ∧ ∃ n, QuitsD P n 0 a'
  | some s => s.Wf ∧ (∀ c, s.has c → ∃ k, w.heap[c]? = some (.chan 0 #[] false k k false)) ∧ (∀ i s' c, pl i = some s' → s'.has c → ¬ s.has c) ∧ s.sees w ∧ ∃ n, Way P (h == 0) s n a'

theorem calm_ops {pl : Nat → Option Place} {h : Nat} {fn : FuncId} {pos : String} {es : Array Event} (he : ∀ e ∈ es, Calm pl e) :
    (∀ op ∈ MemOp.ofEvents h fn pos es, op.g = h) ∧ (∀ op ∈ MemOp.ofEvents h fn pos es, ∀ b, op.act.touch? = some b → b.write = true → ∀ g c, b.loc = .cell c → ¬ Peek pl g c) ∧ ∀ t : Trace, Deaf (t ++ MemOp.ofEvents h fn pos es) h = Deaf t h :=
  ⟨fun op hop => by obtain ⟨e, _, rfl⟩ := Go.Conc.mem_ofEvents hop; rfl, fun op hop b hb => by obtain ⟨e, h, rfl⟩ := Go.Conc.mem_ofEvents hop; exact (he e h).1 b hb,
    fun t => by rw [Deaf_own]; exact deafBehind_still (fun e h => ⟨(he e h).2.1, (he e h).2.2⟩) _⟩
theorem calm_deaf {pl : Nat → Option Place} {h : Nat} {fn : FuncId} {pos : String} {es : Array Event} (he : ∀ e ∈ es, Calm pl e) (t : Trace) (x : Nat) : Deaf (t ++ MemOp.ofEvents h fn pos es) x = Deaf t x := by
  obtain ⟨hops, _, hdf⟩ := calm_ops (h := h) (fn := fn) (pos := pos) he
  by_cases ex : x = h
  · subst ex; exact hdf t
  · exact Deaf_other t (fun z => ex z.symm) _ hops

theorem sees_setChan {s : Place} {w : World} {c cap sn rc : Nat} {buf : Array Value} {cl tm : Bool} (hc : w.heap[c]? = some (.chan cap buf cl sn rc tm)) (h : s.sees w) (cap' : Nat) (buf' : Array Value) (cl' : Bool) (a b : Nat) (tm' : Bool) : s.sees (w.setChan c cap' buf' cl' a b tm') := by
  intro x v hx
  have hv := h x v hx
  by_cases e : x.block = c
  · rw [World.cell?, e, hc] at hv; cases hv
  · rw [← hv]
    unfold World.cell?
    rw [heap_setChan_ne _ _ _ _ _ _ _ (fun z => e z.symm)]

section
variable {P : Program} {pl : Nat → Option Place} {h : Nat} {T : Trace} {gs : Array Goroutine} {w : World} {q : Nat → Nat}

theorem Held.awake (C : Held P pl h T gs w q) {a : Goroutine} (ha : gs[h]? = some a) (hs : a.status = .running ∨ a.status = .blocked) : ∀ g ∈ gs, awake g :=
  Core.awake C fun x gx hx hgx => by subst hx; rw [ha] at hgx; exact Option.some.inj hgx ▸ hs

/-- The one who acts is picked in the end. -/
theorem Held.picked {a : Goroutine} {sl : Option (Nat × Nat)} (ha : gs[h]? = some a) (hrun : a.status = .running) (C : Held P pl h T gs w q) :
    ∃ (N : Nat) (gs' : Array Goroutine) (d d' : Nat) (sl' sl'' : Option (Nat × Nat)) (T' : Trace) (q' : Nat → Nat), runNT P N (crowd gs w sl) T = (.next (crowd gs' (w.at d) sl'), T') ∧
      stepT P (crowd gs' (w.at d) sl') = runT P (crowd gs' (w.at d') sl'') h ∧ gs'.size = gs.size ∧ gs'[h]? = some a ∧ Held P pl h T' gs' (w.at d') q' := by
  obtain ⟨N, m', T', hr, gs', d, d', sl', sl'', q', rfl, hst, hsz, ha', C'⟩ := runs_until (P := P)
    (Inv := fun μ m t => ∃ gs₁ d sl₁ q₁, m = crowd gs₁ (w.at d) sl₁ ∧ gs₁.size = gs.size ∧ gs₁[h]? = some a ∧ Held P pl h t gs₁ (w.at d) q₁ ∧ μ = sumTo gs₁.size q₁)
    (Done := fun m t => ∃ gs₁ d d' sl₁ sl₂ q₁, m = crowd gs₁ (w.at d) sl₁ ∧ stepT P (crowd gs₁ (w.at d) sl₁) = runT P (crowd gs₁ (w.at d') sl₂) h ∧ gs₁.size = gs.size ∧ gs₁[h]? = some a ∧ Held P pl h t gs₁ (w.at d') q₁)
    (fun μ m t ⟨gs₁, d, sl₁, q₁, hm, hsz, ha₁, C₁, hμ⟩ => by
      subst hm
      obtain ⟨i, g, d', sl', hi, hg, hst⟩ := crowd_pick (P := P) (w := w.at d) (sl := sl₁) (C₁.awake ha₁ (.inl hrun)) ⟨h, a, ha₁, hrun⟩
      rw [at_at'] at hst
      have Cd : Held P pl h t gs₁ (w.at d') q₁ := Core.at C₁ d'
      by_cases e : i = h
      · subst e
        exact .inl ⟨gs₁, d, d', sl₁, sl', q₁, rfl, hst, hsz, ha₁, Cd⟩
      · obtain ⟨gs', ops, q', hrt, hsz', hsp, _, _, C', hlt⟩ := Core.step (sl := sl') (fun t u i => Knows.app u) Cd hi e hg
          (fun x gx hx hgx => by subst hx; rw [ha₁] at hgx; obtain rfl := Option.some.inj hgx; exact again_of_running (.inl hrun) _) (fun hD => hD.elim)
          (fun s g₂ _ _ => ⟨fun hD => hD, fun x gx c hx hgx _ => by subst hx; rw [ha₁] at hgx; obtain rfl := Option.some.inj hgx; exact offersAt_of_not_blocked (by rw [hrun]; simp) _ _⟩)
        exact .inr ⟨_, _, sumTo gs'.size q', by rw [hst]; exact hrt, by rw [hsz']; omega, gs', d', sl', q', rfl, hsz'.trans hsz, by rw [hsp h rfl]; exact ha₁, C', rfl⟩)
    _ _ T ⟨gs, w.drawn, sl, q, rfl, rfl, ha, C, rfl⟩
  exact ⟨N, gs', d, d', sl', sl'', T', q', hr, hst, hsz, ha', C'⟩

/-- Its own step. -/
theorem Held.own (C : Held P pl h T gs w q) {a a' : Goroutine} {w' : World} {es : Array Event} (ha : gs[h]? = some a) (hk : Kept pl w w') (he : ∀ e ∈ es, Calm pl e) :
    Held P pl h (T ++ MemOp.ofEvents h a.frame.fn a.frame.place es) ((gs.map (woken P a a' w')).setIfInBounds h a') w' q ∧ ((gs.map (woken P a a' w')).setIfInBounds h a')[h]? = some a' := by
  have hlt : h < gs.size := (Array.getElem?_eq_some_iff.1 ha).1
  obtain ⟨hops, hs, hdf⟩ := calm_ops (h := h) (fn := a.frame.fn) (pos := a.frame.place) he
  have C' : Held P pl h T gs w' q :=
    ⟨C.idle, fun i s c hi e hc => by obtain ⟨k, hk'⟩ := C.chans i s c hi e hc; exact ⟨k, by rw [hk.1 i s c e hc]; exact hk'⟩, C.wf, C.live, C.inj, C.above, C.low, C.nosp, C.past, fun i s e => hk.2 i s e (C.sees i s e)⟩
  have hoth : ∀ x, x ≠ h → ((gs.map (woken P a a' w')).setIfInBounds h a')[x]? = gs[x]? := lay_other fun x y hx hy => woken_of_again (C'.fixed hx hy)
  refine ⟨⟨fun x y hx hy => ?_, C'.chans, C.wf, fun _ _ hx => hx.elim, C.inj, fun j hj => ?_, fun i s e => by simpa using C.low i s e, C.nosp, Tidy.own C.past hops hs (hdf T), C'.sees⟩, Array.getElem?_setIfInBounds_self_of_lt (by simpa using hlt)⟩
  · rw [hoth x hx] at hy
    have hi := C.idle x y hx hy
    cases es' : pl x with
    | none => rw [es'] at hi; exact ⟨hi.1, by rw [Deaf_other T (fun z => hx z.symm) _ hops]; exact hi.2⟩
    | some s => rw [es'] at hi; exact hi
  · simp only [Array.size_setIfInBounds, Array.size_map] at hj
    rw [Deaf_other T (g' := h) (by omega) _ hops]
    exact C.above j hj

/-- Its record is laid anew, the world stands. -/
theorem Held.lay (C : Held P pl h T gs w q) (x : Goroutine) {fn : FuncId} {pos : String} {es : Array Event} (he : ∀ e ∈ es, Calm pl e) : Held P pl h (T ++ MemOp.ofEvents h fn pos es) (gs.setIfInBounds h x) w q := by
  obtain ⟨hops, hs, hdf⟩ := calm_ops (h := h) (fn := fn) (pos := pos) he
  refine ⟨fun y g hy hg => ?_, C.chans, C.wf, fun _ _ z => z.elim, C.inj, fun j hj => ?_, fun i s e => by simpa using C.low i s e, C.nosp, Tidy.own C.past hops hs (hdf T), C.sees⟩
  · rw [Array.getElem?_setIfInBounds_ne (fun e => hy e.symm)] at hg
    have hi := C.idle y g hy hg
    cases e : pl y with
    | none => rw [e] at hi; exact ⟨hi.1, by rw [Deaf_other T (fun z => hy z.symm) _ hops]; exact hi.2⟩
    | some s => rw [e] at hi; exact hi
  · simp only [Array.size_setIfInBounds] at hj
    rw [calm_deaf he]; exact C.above j hj

/-- The places behind a hand-over from h to j: j has none, h has 'o'. -/
def moved (pl : Nat → Option Place) (h j : Nat) (o : Option Place) : Nat → Option Place := upd (upd pl j none) h o
theorem moved_h (pl : Nat → Option Place) (h j : Nat) (o : Option Place) : moved pl h j o h = o := upd_same _ _ _
theorem moved_j (pl : Nat → Option Place) {h j : Nat} (o : Option Place) (hne : j ≠ h) : moved pl h j o j = none := by rw [moved, upd_ne _ _ hne, upd_same]
theorem moved_ne (pl : Nat → Option Place) {h j x : Nat} (o : Option Place) (hh : x ≠ h) (hj : x ≠ j) : moved pl h j o x = pl x := by rw [moved, upd_ne _ _ hh, upd_ne _ _ hj]
theorem moved_old {pl : Nat → Option Place} {h j x : Nat} {o : Option Place} {s : Place} (hne : j ≠ h) (hh : x ≠ h) (e : moved pl h j o x = some s) : x ≠ j ∧ pl x = some s := by
  by_cases ex : x = j
  · subst ex; rw [moved_j pl o hne] at e; cases e
  · exact ⟨ex, by rw [moved_ne pl o hh ex] at e; exact e⟩
theorem peek_to {pl : Nat → Option Place} {h j : Nat} {o : Option Place} (hh : pl h = none) : ∀ g c, Peek pl g c → g ≠ j → Peek (moved pl h j o) g c := by
  rintro g c ⟨s, v, e, hs⟩ hj
  have hgh : g ≠ h := fun z => by rw [z, hh] at e; cases e
  exact ⟨s, v, by rw [moved_ne pl o hgh hj]; exact e, hs⟩
theorem peek_from {pl : Nat → Option Place} {h j : Nat} {o : Option Place} (hne : j ≠ h) : ∀ g c, Peek (moved pl h j o) g c → Peek pl g c ∨ g = h := by
  rintro g c ⟨s, v, e, hs⟩
  by_cases hg : g = h
  · exact .inr hg
  · exact .inl ⟨s, v, (moved_old hne hg e).2, hs⟩

/-- What is held of the others' places once h rests and nothing else has turned but the channel 'c' of j's. -/
theorem rests_places {o : Option Place} {j : Nat} {w₁ : World} {a' : Goroutine} (hne : j ≠ h) (hR : Rests P pl h w₁ a' o) (wf : ∀ i s, pl i = some s → s.Wf) (inj : ∀ i i' s s' c, pl i = some s → pl i' = some s' → s.has c → s'.has c → i = i') :
    (∀ i s, moved pl h j o i = some s → s.Wf) ∧ (∀ i i' s s' c, moved pl h j o i = some s → moved pl h j o i' = some s' → s.has c → s'.has c → i = i') := by
  refine ⟨fun i s e => ?_, fun i i' s s' c e e' hs hs' => ?_⟩
  · by_cases ei : i = h
    · subst ei; rw [moved_h] at e; subst e; exact hR.1
    · exact wf i s (moved_old hne ei e).2
  · by_cases ei : i = h <;> by_cases ei' : i' = h
    · rw [ei, ei']
    · subst ei; rw [moved_h] at e; subst e
      exact absurd hs (hR.2.2.1 i' s' c (moved_old hne ei' e').2 hs')
    · subst ei'; rw [moved_h] at e'; subst e'
      exact absurd hs' (hR.2.2.1 i s c (moved_old hne ei e).2 hs)
    · exact inj i i' s s' c (moved_old hne ei e).2 (moved_old hne ei' e').2 hs hs'

theorem Rests.idle {o : Option Place} {w₁ : World} {a' : Goroutine} (hR : Rests P pl h w₁ a' o) {T' : Trace} (hD : Deaf T' h = 0) : ∃ n, Idle' P T' h n a' o := by
  cases o with
  | none => obtain ⟨hp, n, hq⟩ := hR; exact ⟨n, hp, by rw [hD]; exact hq⟩
  | some s => obtain ⟨_, _, _, _, n, hw⟩ := hR; exact ⟨n + 1, .inl ⟨n, rfl, hw⟩⟩

/-- THE FRAME BEHIND A MEETING. -/
theorem Held.pass (C : Held P pl h T gs w q) {j c : Nat} {s : Place} (hj : pl j = some s) (hsc : s.has c) {k : Nat} (hc : w.heap[c]? = some (.chan 0 #[] false k k false))
    {gs' : Array Goroutine} {T' : Trace} {H' : Goroutine} (hsz : gs'.size = gs.size) (hlt : h < gs.size) (hoth : ∀ x, x ≠ h → x ≠ j → gs'[x]? = gs[x]?) (hH : gs'[h]? = some H') (hDeaf : ∀ x, Deaf T' x = Deaf T x)
    {o : Option Place} (hR : Rests P pl h w H' o) (hpast : Tidy (Peek (moved pl h j o)) (fun g => g = j ∨ (moved pl h j o g).isSome = true) (Knows T' j) T') :
    ∃ q', Held P (moved pl h j o) j T' gs' (w.setChan c 0 #[] false (k + 1) (k + 1) false) q' := by
  have hjh : j ≠ h := fun e => by have := C.nosp h rfl; rw [← e, hj] at this; cases this
  have hm0 : Deaf T h = 0 := C.past.hears h (.inl rfl)
  obtain ⟨nh, hid⟩ := hR.idle (T' := T') (by rw [hDeaf]; exact hm0)
  obtain ⟨hwf, hinj⟩ := rests_places (j := j) hjh hR C.wf C.inj
  refine ⟨upd q h nh, fun x y hx hy => ?_, fun i s' c' _ e hc' => ?_, hwf, fun _ _ hx => hx.elim, hinj, fun x hx => by rw [hDeaf]; exact C.above x (by omega), fun i s' e => ?_, fun i hi => by subst hi; exact moved_j pl o hjh, hpast, fun i s' e => ?_⟩
  · by_cases e : x = h
    · subst e
      rw [hH] at hy
      obtain rfl := Option.some.inj hy
      rw [upd_same, moved_h]; exact hid
    · rw [hoth x e hx] at hy
      rw [upd_ne q nh e, moved_ne pl o e hx]
      have hi := C.idle x y e hy
      cases es : pl x with
      | none => rw [es] at hi; exact ⟨hi.1, by rw [hDeaf]; exact hi.2⟩
      | some s' => rw [es] at hi; exact hi
  · by_cases ec : c = c'
    · subst ec
      exact ⟨k + 1, heap_setChan_self w hc _ _ _ _ _ _⟩
    · rw [heap_setChan_ne w _ _ _ _ _ _ ec]
      by_cases ei : i = h
      · subst ei; rw [moved_h] at e; subst e; exact hR.2.1 c' hc'
      · exact C.chans i s' c' (fun z => z) (moved_old hjh ei e).2 hc'
  · by_cases ei : i = h
    · subst ei; omega
    · rw [hsz]; exact C.low i s' (moved_old hjh ei e).2
  · refine sees_setChan hc ?_ _ _ _ _ _ _
    by_cases ei : i = h
    · subst ei; rw [moved_h] at e; subst e; exact hR.2.2.2.1
    · exact C.sees i s' (moved_old hjh ei e).2
end
end Go.Proofs.Ytnbaiinhalplcaa

namespace Go.Proofs.Ytnbaiinhalplcaa
set_option linter.unusedVariables false
set_option linter.unusedSimpArgs false
open Go.Conc
open Go.ConcN (sumTo upd sumTo_upd upd_ne upd_same)

section
variable {P : Program} {pl : Nat → Option Place} {h : Nat} {T : Trace} {gs : Array Goroutine} {w : World} {q : Nat → Nat}

theorem member_moved {j : Nat} {o : Option Place} {s : Place} (hj : pl j = some s) (hjh : j ≠ h) : ∀ g, (g = j ∨ (moved pl h j o g).isSome = true) → g = h ∨ (pl g).isSome = true := by
  rintro g (rfl | hg)
  · exact .inr (by rw [hj]; rfl)
  · by_cases e : g = h
    · exact .inl e
    · obtain ⟨s', hs'⟩ := Option.isSome_iff_exists.1 hg
      exact .inr (by rw [(moved_old hjh e hs').2]; rfl)

theorem Held.met (C : Held P pl h T gs w q) {j c kk : Nat} {s : Place} {z : Value} (hj : pl j = some s) (hk : s.cases[kk]? = some (rcase c z)) {k : Nat} (hc : w.heap[c]? = some (.chan 0 #[] false k k false)) (hlt : h < gs.size)
    {gs' : Array Goroutine} {ops : Array MemOp} {a₂ g₂ : Goroutine} {o : Option Place} (hsz : gs'.size = gs.size) (hoth : ∀ x, x ≠ h → x ≠ j → gs'[x]? = gs[x]?) (hH : gs'[h]? = some (Go.Conc.served a₂ undef)) (hR : Rests P pl h w (Go.Conc.served a₂ undef) o)
    (p1 : Tidy (Peek pl) (fun g => g = h ∨ (pl g).isSome = true) (Knows (T ++ ops) h) (T ++ ops)) (hD : ∀ x, Deaf (T ++ ops) x = Deaf T x) :
    ∃ q', Held P (moved pl h j o) j (T ++ (ops ++ Go.Conc.met h j a₂.frame.fn a₂.frame.place g₂.frame.fn g₂.frame.place c k 0)) gs' (w.setChan c 0 #[] false (k + 1) (k + 1) false) q' := by
  have hjh : j ≠ h := fun e => by have := C.nosp h rfl; rw [← e, hj] at this; cases this
  have hDeaf : ∀ x, Deaf (T ++ (ops ++ Go.Conc.met h j a₂.frame.fn a₂.frame.place g₂.frame.fn g₂.frame.place c k 0)) x = Deaf T x := fun x => by rw [← Array.append_assoc, Deaf_quiet (met_quiet _ _ _ _ _ _ _ _ _ x), hD]
  have p2 := p1.give (.inl rfl) (.inr (by rw [hj]; rfl)) a₂.frame.fn a₂.frame.place g₂.frame.fn g₂.frame.place c k 0 (member_moved (o := o) hj hjh) (peek_to (o := o) (C.nosp h rfl)) (fun g c hp => (peek_from hjh g c hp).elim .inl fun e => .inr (.inl e))
  rw [Array.append_assoc] at p2
  exact C.pass hj ⟨kk, z, hk⟩ hc hsz hlt hoth hH hDeaf hR p2

/-- h waits at its send; j is on its way. -/
theorem offered_run {j c kk : Nat} {s : Place} {v z z' : Value} {a₂ : Goroutine} {o : Option Place} (hj : pl j = some s) (hk : s.cases[kk]? = some (rcase c z)) {k : Nat} (hc : w.heap[c]? = some (.chan 0 #[] false k k false)) (hR : Rests P pl h w (Go.Conc.served a₂ undef) o)
    (ha : gs[h]? = some (parked a₂ #[scase c v z'] .send)) (hqj : 0 < q j) (C : Held P pl h T gs w q) {sl : Option (Nat × Nat)} :
    ∃ (N : Nat) (gs' : Array Goroutine) (g₂ : Goroutine) (d : Nat) (sl' : Option (Nat × Nat)) (T' : Trace) (q' : Nat → Nat), runNT P N (crowd gs w sl) T = (.next (crowd gs' ((w.at d).setChan c 0 #[] false (k + 1) (k + 1) false) sl'), T') ∧ gs'.size = gs.size ∧
      gs'[j]? = some (Go.Conc.served g₂ (commResult s.cases s.shape kk v true)) ∧ s.home g₂ ∧ Held P (moved pl h j o) j T' gs' ((w.at d).setChan c 0 #[] false (k + 1) (k + 1) false) q' := by
  have hjh : j ≠ h := fun e => by have := C.nosp h rfl; rw [← e, hj] at this; cases this
  have hwf := C.wf j s hj
  have hsc : s.has c := ⟨kk, z, hk⟩
  have hu : ∀ (m : Nat) (cc : CommCase), m ≠ kk → s.cases[m]? = some cc → cc.chan ≠ .chan (some c) := by
    intro m cc hm hcc ec
    obtain ⟨c₂, z₂, rfl⟩ := hwf.recvs cc (Array.mem_of_getElem? hcc)
    simp only [rcase, Value.chan.injEq, Option.some.injEq] at ec
    subst ec
    exact hm (hwf.apart m kk _ _ _ hcc hk)
  have hjlt := C.low j s hj
  obtain ⟨N, m', T', hr, gs', g₂, d, sl', q', rfl, h1, h2, h3, h4⟩ := runs_until (P := P)
    (Done := fun mm t => ∃ gs' g₂ d sl' q', mm = crowd gs' ((w.at d).setChan c 0 #[] false (k + 1) (k + 1) false) sl' ∧ gs'.size = gs.size ∧ gs'[j]? = some (Go.Conc.served g₂ (commResult s.cases s.shape kk v true)) ∧ s.home g₂ ∧ Held P (moved pl h j o) j t gs' ((w.at d).setChan c 0 #[] false (k + 1) (k + 1) false) q')
    (Inv := fun μ mm t => (∃ gs' g₂ d sl' q', mm = crowd gs' ((w.at d).setChan c 0 #[] false (k + 1) (k + 1) false) sl' ∧ gs'.size = gs.size ∧ gs'[j]? = some (Go.Conc.served g₂ (commResult s.cases s.shape kk v true)) ∧ s.home g₂ ∧ Held P (moved pl h j o) j t gs' ((w.at d).setChan c 0 #[] false (k + 1) (k + 1) false) q') ∨
      ∃ gs₁ d sl₁ q₁, mm = crowd gs₁ (w.at d) sl₁ ∧ gs₁.size = gs.size ∧ gs₁[h]? = some (parked a₂ #[scase c v z'] .send) ∧ 0 < q₁ j ∧ Held P pl h t gs₁ (w.at d) q₁ ∧ μ = sumTo gs₁.size q₁)
    (fun μ mm t hInv => by
      rcases hInv with hdone | ⟨gs₁, d, sl₁, q₁, rfl, hsz, ha₁, hq₁, C₁, hμ⟩
      · exact .inl hdone
      refine .inr ?_
      obtain ⟨gj, hgj⟩ : ∃ gj, gs₁[j]? = some gj := ⟨gs₁[j]'(by omega), Array.getElem?_eq_getElem (by omega)⟩
      have hlth : h < gs₁.size := (Array.getElem?_eq_some_iff.1 ha₁).1
      have hSj : Sits' P (j == 0) s (q₁ j) gj := by have := C₁.idle j gj hjh hgj; rwa [hj] at this
      have hjr : gj.status = .running := hSj.cases.elim (·.1) (fun x => by omega)
      obtain ⟨i, g, d', sl', hi, hg, hst⟩ := crowd_pick (P := P) (w := w.at d) (sl := sl₁) (C₁.awake ha₁ (.inr rfl)) ⟨j, gj, hgj, hjr⟩
      rw [at_at'] at hst
      have Cd : Held P pl h t gs₁ (w.at d') q₁ := Core.at C₁ d'
      have hcd : (w.at d').heap[c]? = some (.chan 0 #[] false k k false) := hc
      have e : i ≠ h := fun e => by subst e; rw [ha₁] at hi; obtain rfl := Option.some.inj hi; cases hg
      by_cases ej : i = j ∧ ∃ g₂, There P (i == 0) s g g₂
      · obtain ⟨rfl, g₂, hat⟩ := ej
        obtain ⟨_, _, _, _, hhome, esj, hesj, hstp⟩ := hat
        obtain ⟨hops, hrd, hd⟩ := reads_ops (i := i) (fn := g.frame.fn) (pos := g.frame.place) hj hesj
        have hp : partners (gs₁.setIfInBounds i ph) c true = [(h, 0)] := by
          rw [partners_one (stand_get (Ne.symm hjh) ha₁) fun x y hxh hy => by
            rcases getElem?_stand gs₁ i x y hy with ⟨_, rfl⟩ | ⟨_, hy'⟩
            · exact offersAt_ph _ _
            · exact Core.noSend Cd hxh hy' _]
          simp [offersAt_parked_send]
        have ho : ∀ (m : Nat) (c' : CommCase), m ≠ kk → s.cases[m]? = some c' → NoWays (w.at d') (gs₁.setIfInBounds i ph) c' := by
          intro m c' hm hc'
          obtain ⟨c₂, z₂, rfl⟩ := hwf.recvs c' (Array.mem_of_getElem? hc')
          have hne : c ≠ c₂ := fun ec => hu m _ hm hc' (by rw [ec]; rfl)
          obtain ⟨k₂, hc₂⟩ := Cd.chans i s c₂ (fun z => z) hj ⟨m, z₂, hc'⟩
          refine ways_recv_none hc₂ (partners_nil fun x y hy => ?_)
          rcases getElem?_stand gs₁ i x y hy with ⟨_, rfl⟩ | ⟨_, hy'⟩
          · exact offersAt_ph _ _
          · by_cases hxh : x = h
            · subst hxh
              rw [ha₁] at hy'
              obtain rfl := Option.some.inj hy'
              rw [offersAt_parked_send, if_neg hne]
            · exact Core.noSend Cd hxh hy' _
        have hpos : 0 < μ := by
          have h2 : q₁ i ≤ sumTo gs₁.size q₁ := Go.ConcN.le_sumTo (f := q₁) (by omega)
          omega
        have hRd : Rests P pl h (w.at d') (Go.Conc.served a₂ undef) o := by cases o <;> exact hR
        obtain ⟨q', hH⟩ := Cd.met (g₂ := g₂) (o := o) (ops := MemOp.ofEvents i g.frame.fn g.frame.place esj) hj hk hcd hlth (gs' := (gs₁.setIfInBounds h (Go.Conc.served a₂ undef)).setIfInBounds i (Go.Conc.served g₂ (commResult s.cases s.shape kk v true))) (by simp)
          (fun x hx hxj => by rw [Array.getElem?_setIfInBounds_ne (fun z => hxj z.symm), Array.getElem?_setIfInBounds_ne (fun z => hx z.symm)]) (by rw [Array.getElem?_setIfInBounds_ne hjh, Array.getElem?_setIfInBounds_self_of_lt hlth]) hRd
          (Tidy.peek C₁.past (fun i => Knows.app _) hops hrd (hd t))
          (fun x => by
            by_cases ex : x = i
            · subst ex; exact hd t
            · exact Deaf_other t (fun z => ex z.symm) _ hops)
        have hstep := crowd_sel_recv_meets (P := P) (sl := sl') hi (hstp (w.at d') (Cd.sees i s hj)) hk ho hcd (Ne.symm hjh) ha₁ hp
        rw [finishComm_send, finishComm_served] at hstep
        exact ⟨_, _, 0, hst.trans hstep, hpos, .inl ⟨_, g₂, d', sl', q', rfl, by simpa using hsz, Array.getElem?_setIfInBounds_self_of_lt (by simp; omega), hhome, hH⟩⟩
      · obtain ⟨gs', ops, q', hrt, hsz', hsp, hqo, hq0, C', hlt⟩ := Core.step (sl := sl') (fun t u i => Knows.app u) Cd hi e hg
          (fun x gx hx hgx => by subst hx; rw [ha₁] at hgx; obtain rfl := Option.some.inj hgx; exact again_send_open hcd) (fun hD => hD.elim)
          (fun s' g₂ hs' hat => ⟨fun hD => hD, fun x gx c' hx hgx hc' => by
            subst hx; rw [ha₁] at hgx; obtain rfl := Option.some.inj hgx
            rw [offersAt_parked_send, if_neg]
            intro ec
            have hij : i = j := C₁.inj i j s' s c hs' hj (ec ▸ hc') hsc
            subst hij
            rw [hj] at hs'
            obtain rfl := Option.some.inj hs'
            exact ej ⟨rfl, g₂, hat⟩⟩)
        refine ⟨_, _, sumTo gs'.size q', by rw [hst]; exact hrt, by rw [hsz']; omega, .inr ⟨gs', d', sl', q', rfl, hsz'.trans hsz, by rw [hsp h rfl]; exact ha₁, ?_, C', rfl⟩⟩
        by_cases hij : j = i
        · subst hij
          rcases Nat.eq_zero_or_pos (q' j) with h0 | h0
          · obtain ⟨g₂, hat⟩ := hq0 s hj h0
            exact absurd ⟨rfl, g₂, hat⟩ ej
          · exact h0
        · rw [hqo j hij]; exact hq₁)
    _ _ T (.inr ⟨gs, w.drawn, sl, q, rfl, rfl, ha, hqj, C, rfl⟩)
  exact ⟨N, gs', g₂, d, sl', T', q', hr, h1, h2, h3, h4⟩

/-- THE HAND-OVER BY A SEND. -/
theorem Held.give {a a₂ : Goroutine} {j c kk : Nat} {s : Place} {v z z' : Value} {es : Array Event} {o : Option Place} {sl : Option (Nat × Nat)} (hj : pl j = some s) (hk : s.cases[kk]? = some (rcase c z)) (ha : gs[h]? = some a) (hrun : a.status = .running)
    (hsend : ∀ d, stepG P (h == 0) a (w.at d) = .comm a₂ #[scase c v z'] true .send (w.at d) es) (hes : ∀ e ∈ es, Calm pl e) (hR : Rests P pl h w (Go.Conc.served a₂ undef) o) (C : Held P pl h T gs w q) :
    ∃ (N : Nat) (gs' : Array Goroutine) (g₂ : Goroutine) (d k : Nat) (sl' : Option (Nat × Nat)) (T' : Trace) (q' : Nat → Nat), w.heap[c]? = some (.chan 0 #[] false k k false) ∧ runNT P N (crowd gs w sl) T = (.next (crowd gs' ((w.at d).setChan c 0 #[] false (k + 1) (k + 1) false) sl'), T') ∧ gs'.size = gs.size ∧
      gs'[j]? = some (Go.Conc.served g₂ (commResult s.cases s.shape kk v true)) ∧ s.home g₂ ∧ Held P (moved pl h j o) j T' gs' ((w.at d).setChan c 0 #[] false (k + 1) (k + 1) false) q' := by
  have hjh : j ≠ h := fun e => by have := C.nosp h rfl; rw [← e, hj] at this; cases this
  have hsc : s.has c := ⟨kk, z, hk⟩
  have hwf := C.wf j s hj
  obtain ⟨k, hc⟩ := C.chans j s c (fun z => z) hj hsc
  have hu : ∀ (m : Nat) (cc : CommCase), m ≠ kk → s.cases[m]? = some cc → cc.chan ≠ .chan (some c) := by
    intro m cc hm hcc ec
    obtain ⟨c₂, z₂, rfl⟩ := hwf.recvs cc (Array.mem_of_getElem? hcc)
    simp only [rcase, Value.chan.injEq, Option.some.injEq] at ec
    subst ec
    exact hm (hwf.apart m kk _ _ _ hcc hk)
  obtain ⟨N, gs₁, d, d', sl₁, sl₂, T₁, q₁, hr, hst, hsz, ha₁, C₁⟩ := Held.picked (sl := sl) ha hrun C
  have hlth : h < gs₁.size := (Array.getElem?_eq_some_iff.1 ha₁).1
  have hcd : (w.at d').heap[c]? = some (.chan 0 #[] false k k false) := hc
  have hjlt := C₁.low j s hj
  obtain ⟨gj, hgj⟩ : ∃ gj, gs₁[j]? = some gj := ⟨gs₁[j], Array.getElem?_eq_getElem (by omega)⟩
  have hSj : Sits' P (j == 0) s (q₁ j) gj := by have := C₁.idle j gj hjh hgj; rwa [hj] at this
  obtain ⟨hops, hs, hdf⟩ := calm_ops (h := h) (fn := a.frame.fn) (pos := a.frame.place) hes
  have hRd : Rests P pl h (w.at d') (Go.Conc.served a₂ undef) o := by cases o <;> exact hR
  have hoff : ∀ (x : Nat) (y : Goroutine), x ≠ j → (gs₁.setIfInBounds h ph)[x]? = some y → offersAt y c false = [] := by
    intro x y hxj hy
    rcases getElem?_stand gs₁ h x y hy with ⟨_, rfl⟩ | ⟨hx, hy'⟩
    · exact offersAt_ph _ _
    · exact Core.noRecv C₁ hx hy' fun s' hs' hc' => hxj (C₁.inj x j s' s c hs' hj hc' hsc)
  rcases hSj with ⟨kk', hq, hG⟩ | ⟨hq0, g₀, g₂, rfl, hat⟩
  · have hjr : gj.status = .running := hG.running
    have hp : partners (gs₁.setIfInBounds h ph) c false = [] := partners_nil fun x y hy => by
      by_cases hxj : x = j
      · subst hxj
        rw [stand_get hjh hgj] at hy
        obtain rfl := Option.some.inj hy
        exact offersAt_of_not_blocked (by rw [hjr]; simp) _ _
      · exact hoff x y hxj hy
    have hw : ∀ cc ∈ #[scase c v z'], NoWays (w.at d') (gs₁.setIfInBounds h ph) cc := by
      intro cc hcc
      simp only [List.mem_toArray, List.mem_cons, List.not_mem_nil, or_false] at hcc
      subst hcc
      exact ways_send_none hcd (Nat.le_refl _) hp
    have hstep := crowd_waits (P := P) (sl := sl₂) ha₁ (hsend d') hw
    obtain ⟨N₂, gs', g₂, d₂, sl', T', q', hr₂, h1, h2, h3, h4⟩ := offered_run (sl := sl₂) (v := v) (z' := z') hj hk hcd hRd (gs := gs₁.setIfInBounds h (parked a₂ #[scase c v z'] .send)) (Array.getElem?_setIfInBounds_self_of_lt hlth) (by omega) (C₁.lay _ hes)
    exact ⟨N + 1 + N₂, gs', g₂, d₂, k, sl', T', q', hc, runNT_then (runNT_succ_of hr (hst.trans hstep)) hr₂, by simpa [hsz] using h1, h2, h3, h4⟩
  · have hp : partners (gs₁.setIfInBounds h ph) c false = [(j, kk)] := by
      rw [partners_one (stand_get hjh hgj) fun x y hxj hy => hoff x y hxj hy, offersAt_parked_at hk hu]
      rfl
    have hstep := crowd_send_meets_sel (P := P) (sl := sl₂) ha₁ (hsend d') hcd hjh hgj hk hp
    obtain ⟨q', hH⟩ := C₁.met (g₂ := g₂) (o := o) (ops := MemOp.ofEvents h a.frame.fn a.frame.place es) hj hk hcd hlth (gs' := (gs₁.setIfInBounds j (Go.Conc.served g₂ (commResult s.cases s.shape kk v true))).setIfInBounds h (Go.Conc.served a₂ undef)) (by simp)
      (fun x hx hxj => by rw [Array.getElem?_setIfInBounds_ne (fun z => hx z.symm), Array.getElem?_setIfInBounds_ne (fun z => hxj z.symm)]) (Array.getElem?_setIfInBounds_self_of_lt (by simpa using hlth)) hRd (Tidy.own C₁.past hops hs (hdf T₁)) (calm_deaf hes T₁)
    exact ⟨N + 1, _, g₂, d', k, sl₂, _, q', hc, runNT_succ_of hr (hst.trans hstep), by simpa using hsz, by rw [Array.getElem?_setIfInBounds_ne (fun z => hjh z.symm), Array.getElem?_setIfInBounds_self_of_lt (by omega), finishComm_served], hat.2.2.2.2.1, hH⟩
end
end Go.Proofs.Ytnbaiinhalplcaa

namespace Go.Proofs.Ytnbaiinhalplcaa
set_option linter.unusedVariables false
set_option linter.unusedSimpArgs false
open Go.Conc
open Go.ConcN (sumTo upd sumTo_upd upd_ne upd_same)

section
variable {P : Program} {pl : Nat → Option Place} {h : Nat} {T : Trace} {gs : Array Goroutine} {w : World} {q : Nat → Nat}

theorem moved_eq (pl : Nat → Option Place) {h j : Nat} (o : Option Place) (hne : j ≠ h) : moved pl h j o = upd (upd pl h o) j none := by
  funext x
  by_cases e : x = h
  · subst e; rw [moved_h, upd_ne _ _ (Ne.symm hne), upd_same]
  · by_cases ej : x = j
    · subst ej; rw [moved_j pl o hne, upd_same]
    · rw [moved_ne pl o e ej, upd_ne _ _ ej, upd_ne _ _ e]

def Shut (P : Program) (pl : Nat → Option Place) (j c m : Nat) (T : Trace) (gs : Array Goroutine) (w : World) (q : Nat → Nat) : Prop :=
  Core P (fun t i => Before t i m) pl (fun _ => False) (· = j) T gs w q ∧ T.act? m = some (.close c) ∧ T.heard m

theorem shut_run {j m k c kk : Nat} {z : Value} {s : Place} {sl : Option (Nat × Nat)} (hj : pl j = some s) (hk : s.cases[kk]? = some (rcase c z)) (hcl : w.heap[c]? = some (.chan 0 #[] true k k false))
    (hoth : ∀ c', s.has c' → c' ≠ c → ∃ k', w.heap[c']? = some (.chan 0 #[] false k' k' false)) (Cl : Shut P pl j c m T gs w q) :
    ∃ (N : Nat) (gs' : Array Goroutine) (g₂ : Goroutine) (d : Nat) (sl' : Option (Nat × Nat)) (T' : Trace) (q' : Nat → Nat), runNT P N (crowd gs w sl) T = (.next (crowd gs' (w.at d) sl'), T') ∧ gs'.size = gs.size ∧
      gs'[j]? = some (Go.Conc.served g₂ (commResult s.cases s.shape kk z false)) ∧ s.home g₂ ∧ Held P (upd pl j none) j T' gs' (w.at d) q' := by
  have hsc : s.has c := ⟨kk, z, hk⟩
  have hwf := Cl.1.wf j s hj
  have hjlt := Cl.1.low j s hj
  obtain ⟨N, m', T', hr, gs', g₂, d, sl', q', rfl, h1, h2, h3, h4⟩ := runs_until (P := P)
    (Done := fun mm t => ∃ gs' g₂ d sl' q', mm = crowd gs' (w.at d) sl' ∧ gs'.size = gs.size ∧ gs'[j]? = some (Go.Conc.served g₂ (commResult s.cases s.shape kk z false)) ∧ s.home g₂ ∧ Held P (upd pl j none) j t gs' (w.at d) q')
    (Inv := fun μ mm t => (∃ gs' g₂ d sl' q', mm = crowd gs' (w.at d) sl' ∧ gs'.size = gs.size ∧ gs'[j]? = some (Go.Conc.served g₂ (commResult s.cases s.shape kk z false)) ∧ s.home g₂ ∧ Held P (upd pl j none) j t gs' (w.at d) q') ∨
      ∃ gs₁ d sl₁ q₁, mm = crowd gs₁ (w.at d) sl₁ ∧ gs₁.size = gs.size ∧ Shut P pl j c m t gs₁ (w.at d) q₁ ∧ μ = sumTo gs₁.size q₁)
    (fun μ mm t hInv => by
      rcases hInv with hdone | ⟨gs₁, d, sl₁, q₁, rfl, hsz, ⟨C₁, ca, ch⟩, hμ⟩
      · exact .inl hdone
      refine .inr ?_
      obtain ⟨gj, hgj⟩ : ∃ gj, gs₁[j]? = some gj := ⟨gs₁[j]'(by omega), Array.getElem?_eq_getElem (by omega)⟩
      have hjr := C₁.live j gj rfl hgj
      obtain ⟨i, g, d', sl', hi, hg, hst⟩ := crowd_pick (P := P) (w := w.at d) (sl := sl₁) (C₁.awake fun _ _ x => x.elim) ⟨j, gj, hgj, hjr⟩
      rw [at_at'] at hst
      have Cd := Core.at C₁ d'
      rw [at_at'] at Cd
      by_cases ej : i = j ∧ ∃ g₂, There P (i == 0) s g g₂
      · obtain ⟨rfl, g₂, _, _, _, _, hhome, esj, hesj, hstp⟩ := ej
        obtain ⟨hops, hrd, hd⟩ := reads_ops (i := i) (fn := g.frame.fn) (pos := g.frame.place) hj hesj
        have hp : partners (gs₁.setIfInBounds i ph) c true = [] := partners_nil fun x y hy => by
          rcases getElem?_stand gs₁ i x y hy with ⟨_, rfl⟩ | ⟨_, hy'⟩
          · exact offersAt_ph _ _
          · exact Core.noSend Cd (fun z => z) hy' _
        have ho : ∀ (m' : Nat) (c' : CommCase), m' ≠ kk → s.cases[m']? = some c' → NoWays (w.at d') (gs₁.setIfInBounds i ph) c' := by
          intro m' c' hm hc'
          obtain ⟨c₂, z₂, rfl⟩ := hwf.recvs c' (Array.mem_of_getElem? hc')
          have hne : c₂ ≠ c := fun ec => hm (hwf.apart m' kk c z₂ z (ec ▸ hc') hk)
          obtain ⟨k₂, hc₂⟩ := hoth c₂ ⟨m', z₂, hc'⟩ hne
          refine ways_recv_none (w₁ := w.at d') hc₂ (partners_nil fun x y hy => ?_)
          rcases getElem?_stand gs₁ i x y hy with ⟨_, rfl⟩ | ⟨_, hy'⟩
          · exact offersAt_ph _ _
          · exact Core.noSend Cd (fun z => z) hy' _
        have hpos : 0 < μ := by
          have h1 : q₁ i ≤ sumTo gs₁.size q₁ := Go.ConcN.le_sumTo (f := q₁) (by omega)
          have h2 : 0 < q₁ i := by
            have := C₁.idle i g (fun z => z) hi
            rw [hj] at this
            exact (Sits'.cases this).elim (·.2) (fun z => by rw [z.1] at hg; cases hg)
          omega
        have hstep := crowd_sel_recv_closed (P := P) (sl := sl') hi (hstp (w.at d') (Cd.sees i s hj)) hk ho hcl hp
        rw [finishComm_served] at hstep
        have hall : ∀ op ∈ MemOp.ofEvents i g.frame.fn g.frame.place esj ++ #[{ g := i, fn := g₂.frame.fn, pos := g₂.frame.place, act := .recvClosed c }], op.g = i := by
          intro op hop
          rcases Array.mem_append.1 hop with z | z
          · exact hops op z
          · simp only [List.mem_toArray, List.mem_cons, List.not_mem_nil, or_false] at z; subst z; rfl
        have p1 := Tidy.peek (K' := fun x => Before (t ++ MemOp.ofEvents i g.frame.fn g.frame.place esj) x m) C₁.past (fun x => Before.app _) hops hrd (hd t)
        have hmt := lt_of_act? ca
        have p2 := p1.found (M' := fun x => x = i ∨ (upd pl i none x).isSome = true) (Peek' := Peek (upd pl i none)) (by rw [act?_old hmt]; exact ca) ((heard_old hmt).2 ch) (.inr (by rw [hj]; rfl)) g₂.frame.fn g₂.frame.place
          (fun x hx => by
            rcases hx with rfl | hx
            · exact .inr (by rw [hj]; rfl)
            · by_cases ex : x = i
              · subst ex; exact .inr (by rw [hj]; rfl)
              · rw [upd_ne _ _ ex] at hx; exact .inr hx)
          (fun x c ⟨s', v, e, hs⟩ hx => ⟨s', v, by rw [upd_ne _ _ hx]; exact e, hs⟩)
          (fun x c ⟨s', v, e, hs⟩ => by
            by_cases ex : x = i
            · subst ex; rw [upd_same] at e; cases e
            · rw [upd_ne _ _ ex] at e; exact ⟨s', v, e, hs⟩)
        rw [Array.append_assoc] at p2
        have hsub : ∀ x s', upd pl i none x = some s' → x ≠ i ∧ pl x = some s' := by
          intro x s' e
          by_cases ex : x = i
          · subst ex; rw [upd_same] at e; cases e
          · exact ⟨ex, by rw [upd_ne _ _ ex] at e; exact e⟩
        refine ⟨_, _, 0, hst.trans hstep, hpos, .inl ⟨_, g₂, d', sl', q₁, rfl, by simpa using hsz, Array.getElem?_setIfInBounds_self_of_lt (by omega), hhome, ?_⟩⟩
        refine ⟨fun x y hx hy => ?_, fun x s' c' _ e hc' => Cd.chans x s' c' (hsub x s' e).1 (hsub x s' e).2 hc', fun x s' e => Cd.wf x s' (hsub x s' e).2, fun _ _ z => z.elim, fun x x' s₁ s₂ c' e₁ e₂ => Cd.inj x x' s₁ s₂ c' (hsub _ _ e₁).2 (hsub _ _ e₂).2, fun x hx => ?_,
          fun x s' e => by simpa using Cd.low x s' (hsub x s' e).2, fun x hx => by subst hx; exact upd_same _ _ _, p2, fun x s' e => Cd.sees x s' (hsub x s' e).2⟩
        · rw [Array.getElem?_setIfInBounds_ne (fun z => hx z.symm)] at hy
          have hid := Cd.idle x y (fun z => z) hy
          rw [upd_ne _ _ hx]
          cases e : pl x with
          | none => rw [e] at hid; exact ⟨hid.1, by rw [Deaf_other t (fun z => hx z.symm) _ hall]; exact hid.2⟩
          | some s' => rw [e] at hid; exact hid
        · simp only [Array.size_setIfInBounds] at hx
          rw [Deaf_other t (g' := i) (by omega) _ hall]
          exact Cd.above x hx
      · obtain ⟨gs', ops, q', hrt, hsz', _, _, _, C', hlt⟩ := Core.step (sl := sl') (fun t u i => Before.app u) Cd hi (fun z => z) hg (fun _ _ z => z.elim) (fun hD => by subst hD; rw [hj]; simp)
          (fun s' g₂ hs' hat => ⟨fun hD => by subst hD; rw [hj] at hs'; obtain rfl := Option.some.inj hs'; exact ej ⟨rfl, g₂, hat⟩, fun _ _ _ z => z.elim⟩)
        have hmt := lt_of_act? ca
        exact ⟨_, _, sumTo gs'.size q', by rw [hst]; exact hrt, by rw [hsz']; omega, .inr ⟨gs', d', sl', q', rfl, hsz'.trans hsz, ⟨C', by rw [act?_old hmt]; exact ca, (heard_old hmt).2 ch⟩, rfl⟩⟩)
    _ _ T (.inr ⟨gs, w.drawn, sl, q, rfl, rfl, Cl, rfl⟩)
  exact ⟨N, gs', g₂, d, sl', T', q', hr, h1, h2, h3, h4⟩

theorem closeCalm (pl : Nat → Option Place) (c : Nat) : ∀ e ∈ closeEvents c, Calm pl e := by
  intro e he
  simp only [closeEvents, List.mem_toArray, List.mem_cons, List.not_mem_nil, or_false] at he
  rcases he with rfl | rfl
  · exact ⟨fun x hx hw => (by simp only [MemAct.ofEvent, MemAct.touch?, Option.some.injEq] at hx; subst hx; cases hw), by simp, by simp⟩
  · exact ⟨fun x hx _ => by simp [MemAct.ofEvent, MemAct.touch?] at hx, by simp, by simp⟩

/-- THE HAND-OVER BY A CLOSE. -/
theorem Held.shut {a a' : Goroutine} {j c kk k : Nat} {z : Value} {s : Place} {o : Option Place} {sl : Option (Nat × Nat)} (hj : pl j = some s) (hk : s.cases[kk]? = some (rcase c z)) (ha : gs[h]? = some a) (hrun : a.status = .running) (hwake : mayWake P a = true) (ha' : a'.status = .running)
    (hc : w.heap[c]? = some (.chan 0 #[] false k k false)) (hclose : ∀ d, stepG P (h == 0) a (w.at d) = .go a' ((w.at d).setChan c 0 #[] true k k false) (closeEvents c)) (hR : Rests P pl h w a' o) (C : Held P pl h T gs w q) :
    ∃ (N : Nat) (gs' : Array Goroutine) (g₂ : Goroutine) (d : Nat) (sl' : Option (Nat × Nat)) (T' : Trace) (q' : Nat → Nat), runNT P N (crowd gs w sl) T = (.next (crowd gs' ((w.at d).setChan c 0 #[] true k k false) sl'), T') ∧ gs'.size = gs.size ∧
      gs'[j]? = some (Go.Conc.served g₂ (commResult s.cases s.shape kk z false)) ∧ s.home g₂ ∧ Held P (moved pl h j o) j T' gs' ((w.at d).setChan c 0 #[] true k k false) q' := by
  have hjh : j ≠ h := fun e => by have := C.nosp h rfl; rw [← e, hj] at this; cases this
  have hsc : s.has c := ⟨kk, z, hk⟩
  have hwf := C.wf j s hj
  obtain ⟨N, gs₁, d, d', sl₁, sl₂, T₁, q₁, hr, hst, hsz, ha₁, C₁⟩ := Held.picked (sl := sl) ha hrun C
  have hlth : h < gs₁.size := (Array.getElem?_eq_some_iff.1 ha₁).1
  have hjlt := C₁.low j s hj
  generalize hW : (w.at d').setChan c 0 #[] true k k false = W
  have hrt := runT_crowd_go (P := P) (sl := sl₂) ha₁ (hclose d')
  rw [hW] at hrt
  have hcW : W.heap[c]? = some (.chan 0 #[] true k k false) := hW ▸ heap_setChan_self (w.at d') (o := .chan 0 #[] false k k false) hc _ _ _ _ _ _
  have hpl : ∀ x s', upd pl h o x = some s' → (x = h ∧ o = some s') ∨ (x ≠ h ∧ pl x = some s') := by
    intro x s' e
    by_cases ex : x = h
    · subst ex; rw [upd_same] at e; exact .inl ⟨rfl, e⟩
    · rw [upd_ne _ _ ex] at e; exact .inr ⟨ex, e⟩
  have hplj : upd pl h o j = some s := by rw [upd_ne _ _ hjh]; exact hj
  have hopen₁ : ∀ x s' c', c' ≠ c → pl x = some s' → s'.has c' → ∃ k', W.heap[c']? = some (.chan 0 #[] false k' k' false) := by
    intro x s' c' hne e hc'
    obtain ⟨k', hk'⟩ := C₁.chans x s' c' (fun z => z) e hc'
    exact ⟨k', by rw [← hW, heap_setChan_ne _ _ _ _ _ _ _ (fun ec => hne ec.symm)]; exact hk'⟩
  have hnot : ∀ x s' c', x ≠ j → upd pl h o x = some s' → s'.has c' → c' ≠ c := by
    intro x s' c' hx e hc' ec
    subst ec
    rcases hpl x s' e with ⟨rfl, rfl⟩ | ⟨hxh, e'⟩
    · exact hR.2.2.1 j s c' hj hsc hc'
    · exact hx (C₁.inj x j s' s c' e' hj hc' hsc)
  have hopen : ∀ x s' c', x ≠ j → upd pl h o x = some s' → s'.has c' → ∃ k', W.heap[c']? = some (.chan 0 #[] false k' k' false) := by
    intro x s' c' hx e hc'
    have hne := hnot x s' c' hx e hc'
    rcases hpl x s' e with ⟨rfl, rfl⟩ | ⟨hxh, e'⟩
    · obtain ⟨k', hk'⟩ := hR.2.1 c' hc'
      exact ⟨k', by rw [← hW, heap_setChan_ne _ _ _ _ _ _ _ (fun ec => hne ec.symm)]; exact hk'⟩
    · exact hopen₁ x s' c' hne e' hc'
  have hwk : ∀ y, woken P a a' W y = y.again W := by intro y; simp [woken, hwake, ha']
  obtain ⟨gj, hgj⟩ : ∃ gj, gs₁[j]? = some gj := ⟨gs₁[j], Array.getElem?_eq_getElem (by omega)⟩
  have hSj : Sits' P (j == 0) s (q₁ j) gj := by have := C₁.idle j gj hjh hgj; rwa [hj] at this
  obtain ⟨gj', nj, hgj', hSj', hjr⟩ : ∃ gj' nj, woken P a a' W gj = gj' ∧ Sits' P (j == 0) s nj gj' ∧ gj'.status = .running := by
    rcases hSj with ⟨k', hq, hG⟩ | ⟨_, g₀, g₂, rfl, hat⟩
    · exact ⟨gj, q₁ j, woken_run hG.running, .inl ⟨k', hq, hG⟩, hG.running⟩
    · exact ⟨_, 1, by rw [hwk, again_some_closed hk hcW], .inl ⟨0, rfl, g₂, hat.tries _ _⟩, rfl⟩
  have hes := closeCalm pl c
  obtain ⟨hops, hs, hdf⟩ := calm_ops (h := h) (fn := a.frame.fn) (pos := a.frame.place) hes
  have hDeaf := calm_deaf (h := h) (fn := a.frame.fn) (pos := a.frame.place) hes T₁
  have p1 := Tidy.own C₁.past hops hs (hdf T₁)
  have hm : (T₁ ++ MemOp.ofEvents h a.frame.fn a.frame.place (closeEvents c))[T₁.size + 1]? = some { g := h, fn := a.frame.fn, pos := a.frame.place, act := .close c } := by rw [at_new, closeOps]; rfl
  have hsize : (T₁ ++ MemOp.ofEvents h a.frame.fn a.frame.place (closeEvents c)).size = T₁.size + 2 := by rw [closeOps]; simp
  have pc := p1.closed (M' := fun x => False ∨ (upd pl h o x).isSome = true) (Peek' := Peek (upd pl h o)) hm rfl
    (fun i b _ _ ⟨x, y, hy, hyg, hb⟩ => by
      have hx := lt_size_of_getElem? hy
      by_cases e : x = T₁.size + 1
      · subst e; exact hb
      · exact .inr (hb.hb (hb_po (by omega) hy hm hyg)))
    (fun x hx => by
      rcases hx with hx | hx
      · exact hx.elim
      · by_cases e : x = h
        · exact .inl e
        · rw [upd_ne _ _ e] at hx; exact .inr hx)
    (fun x c ⟨s', v, e, hs'⟩ => ⟨s', v, by rw [upd_ne _ _ (fun z => by rw [z, C₁.nosp h rfl] at e; cases e)]; exact e, hs'⟩)
    (fun x c ⟨s', v, e, hs'⟩ => by
      rcases hpl x s' e with ⟨hx, _⟩ | ⟨_, e'⟩
      · exact .inr hx
      · exact .inl ⟨s', v, e', hs'⟩)
  obtain ⟨nh, hid⟩ := hR.idle (T' := T₁ ++ MemOp.ofEvents h a.frame.fn a.frame.place (closeEvents c)) (by rw [hDeaf]; exact C₁.past.hears h (.inl rfl))
  have hoth : ∀ x, x ≠ h → x ≠ j → ((gs₁.map (woken P a a' W)).setIfInBounds h a')[x]? = gs₁[x]? := by
    intro x hxh hxj
    rw [Array.getElem?_setIfInBounds_ne (fun e => hxh e.symm), Array.getElem?_map]
    cases e : gs₁[x]? with
    | none => rfl
    | some y =>
      rw [Option.map_some, hwk]
      have hid := C₁.idle x y hxh e
      cases es : pl x with
      | none => rw [es] at hid; rw [again_of_running hid.2.status]
      | some s' =>
        rw [es] at hid
        rw [Sits'.again hid (C₁.wf x s' es) fun c' hc' => hopen x s' c' hxj (by rw [upd_ne _ _ hxh]; exact es) hc']
  have Cl : Shut P (upd pl h o) j c (T₁.size + 1) (T₁ ++ MemOp.ofEvents h a.frame.fn a.frame.place (closeEvents c)) ((gs₁.map (woken P a a' W)).setIfInBounds h a') W (upd (upd q₁ h nh) j nj) := by
    refine ⟨⟨fun x y _ hy => ?_, fun x s' c' hx e hc' => hopen x s' c' hx e hc', fun x s' e => ?_, fun x y hx hy => ?_, fun x x' s₁ s₂ c' e₁ e₂ h₁ h₂ => ?_, fun x hx => ?_, fun x s' e => ?_, fun x hx => hx.elim, pc, fun x s' e => ?_⟩, act?_of hm, ⟨h, g?_of hm, ?_⟩⟩
    · by_cases ex : x = h
      · subst ex
        rw [Array.getElem?_setIfInBounds_self_of_lt (by simpa using hlth)] at hy
        obtain rfl := Option.some.inj hy
        rw [upd_ne _ nj (Ne.symm hjh), upd_same, upd_same]
        exact hid
      · by_cases exj : x = j
        · subst exj
          rw [Array.getElem?_setIfInBounds_ne (fun z => ex z.symm), Array.getElem?_map, hgj] at hy
          obtain rfl := Option.some.inj hy
          rw [upd_same, hplj, hgj']
          exact hSj'
        · rw [hoth x ex exj] at hy
          rw [upd_ne _ nj exj, upd_ne q₁ nh ex, upd_ne _ _ ex]
          have hid := C₁.idle x y ex hy
          cases e : pl x with
          | none => rw [e] at hid; exact ⟨hid.1, by rw [hDeaf]; exact hid.2⟩
          | some s' => rw [e] at hid; exact hid
    · rcases hpl x s' e with ⟨rfl, rfl⟩ | ⟨_, e'⟩
      · exact hR.1
      · exact C₁.wf x s' e'
    · subst hx
      rw [Array.getElem?_setIfInBounds_ne (fun z => hjh z.symm), Array.getElem?_map, hgj] at hy
      obtain rfl := Option.some.inj hy
      rw [hgj']; exact hjr
    · rcases hpl x s₁ e₁ with ⟨rfl, rfl⟩ | ⟨hx, e₁'⟩ <;> rcases hpl x' s₂ e₂ with ⟨rfl, e₂'⟩ | ⟨hx', e₂'⟩
      · rfl
      · exact absurd h₁ (hR.2.2.1 x' s₂ c' e₂' h₂)
      · subst e₂'; exact absurd h₂ (hR.2.2.1 x s₁ c' e₁' h₁)
      · exact C₁.inj x x' s₁ s₂ c' e₁' e₂' h₁ h₂
    · simp only [Array.size_setIfInBounds, Array.size_map] at hx
      rw [hDeaf]; exact C₁.above x hx
    · simp only [Array.size_setIfInBounds, Array.size_map]
      rcases hpl x s' e with ⟨rfl, _⟩ | ⟨_, e'⟩
      · exact hlth
      · exact C₁.low x s' e'
    · rw [← hW]
      refine sees_setChan (w := w.at d') hc ?_ _ _ _ _ _ _
      rcases hpl x s' e with ⟨rfl, rfl⟩ | ⟨_, e'⟩
      · exact hR.2.2.2.1
      · exact C₁.sees x s' e'
    · rw [deaf_quiet (fun op hop dd => by
        rw [closeOps] at hop
        simp only [List.mem_toArray, List.mem_cons, List.not_mem_nil, or_false] at hop
        rcases hop with rfl | rfl <;> rfl) 1 (by rw [closeOps]; simp)]
      exact C₁.past.hears h (.inl rfl)
  obtain ⟨N₂, gs', g₂, d₂, sl', T', q', hr₂, hsz₂, hJ, hhome, R⟩ := shut_run (sl := sl₂) hplj hk hcW (fun c' hc' hne => hopen₁ j s c' hne hj hc') Cl
  have eW : W.at d₂ = (w.at d₂).setChan c 0 #[] true k k false := by rw [← hW]; rfl
  rw [eW] at hr₂ R
  rw [← moved_eq pl o hjh] at R
  exact ⟨N + 1 + N₂, gs', g₂, d₂, sl', T', q', runNT_then (runNT_succ_of hr (hst.trans hrt)) hr₂, by simpa [hsz] using hsz₂, hJ, hhome, R⟩
end
end Go.Proofs.Ytnbaiinhalplcaa

namespace Go.Proofs.Ytnbaiinhalplcaa
set_option linter.unusedVariables false
set_option linter.unusedSimpArgs false
open Go.Conc
open Go.ConcN (sumTo upd sumTo_upd upd_ne upd_same)

section
variable {P : Program} {pl : Nat → Option Place} {h : Nat} {T : Trace} {gs : Array Goroutine} {w : World} {q : Nat → Nat} {Post : Value → World → Prop}

theorem Held.hire {a a' child : Goroutine} {es : Array Event} {o : Option Place} {sl : Option (Nat × Nat)} (ha : gs[h]? = some a) (hrun : a.status = .running)
    (hgo : ∀ d, stepG P (h == 0) a (w.at d) = .spawn a' child (w.at d) es) (hes : ∀ e ∈ es, Calm pl e) (hR : Rests P pl h w a' o) (C : Held P pl h T gs w q) :
    ∃ (N : Nat) (gs' : Array Goroutine) (d : Nat) (sl' : Option (Nat × Nat)) (T' : Trace) (q' : Nat → Nat), runNT P N (crowd gs w sl) T = (.next (crowd gs' (w.at d) sl'), T') ∧ gs'.size = gs.size + 1 ∧ gs'[gs.size]? = some child ∧
      Held P (upd pl h o) gs.size T' gs' (w.at d) q' := by
  obtain ⟨N, gs₁, d, d', sl₁, sl₂, T₁, q₁, hr, hst, hsz, ha₁, C₁⟩ := Held.picked (sl := sl) ha hrun C
  have hlt : h < gs₁.size := (Array.getElem?_eq_some_iff.1 ha₁).1
  obtain ⟨hops, hs, hdf⟩ := calm_ops (h := h) (fn := a.frame.fn) (pos := a.frame.place) hes
  have hrt := runT_crowd_spawn (P := P) (sl := sl₂) ha₁ (hgo d')
  have hpush : ((MemOp.ofEvents h a.frame.fn a.frame.place es).push { g := h, fn := a.frame.fn, pos := a.frame.place, act := .go gs₁.size } |>.push { g := gs₁.size, fn := child.frame.fn, pos := a.frame.place, act := .start }) =
      MemOp.ofEvents h a.frame.fn a.frame.place es ++ Go.Proofs.Ytnbaiinhalplcaa.started h gs₁.size a.frame.fn a.frame.place child.frame.fn := by
    apply Array.ext'; simp [Go.Proofs.Ytnbaiinhalplcaa.started]
  rw [hpush] at hrt
  have hD1 := calm_deaf (h := h) (fn := a.frame.fn) (pos := a.frame.place) hes T₁
  have hD2 : ∀ x, Deaf (T₁ ++ (MemOp.ofEvents h a.frame.fn a.frame.place es ++ Go.Proofs.Ytnbaiinhalplcaa.started h gs₁.size a.frame.fn a.frame.place child.frame.fn)) x = Deaf T₁ x := fun x => by
    rw [← Array.append_assoc, Deaf_quiet (started_quiet _ _ _ _ _ x), hD1]
  have hnone : pl gs₁.size = none := by
    cases e : pl gs₁.size with
    | none => rfl
    | some s => exact absurd (C₁.low _ s e) (Nat.lt_irrefl _)
  have hhn : h ≠ gs₁.size := by omega
  have hpl : ∀ x s', upd pl h o x = some s' → (x = h ∧ o = some s') ∨ (x ≠ h ∧ x ≠ gs₁.size ∧ pl x = some s') := by
    intro x s' e
    by_cases ex : x = h
    · subst ex; rw [upd_same] at e; exact .inl ⟨rfl, e⟩
    · rw [upd_ne _ _ ex] at e; exact .inr ⟨ex, (fun z => by rw [z, hnone] at e; cases e), e⟩
  have p2 := (Tidy.own C₁.past hops hs (hdf T₁)).spawn (M' := fun x => x = gs₁.size ∨ (upd pl h o x).isSome = true) (Peek' := Peek (upd pl h o)) (.inl rfl) (by rw [hD1]; exact C₁.above _ (Nat.le_refl _)) a.frame.fn a.frame.place child.frame.fn
    (fun x hx => by
      rcases hx with hx | hx
      · exact .inr hx
      · obtain ⟨s', hs'⟩ := Option.isSome_iff_exists.1 hx
        rcases hpl x s' hs' with ⟨e, _⟩ | ⟨_, _, e⟩
        · exact .inl (.inl e)
        · exact .inl (.inr (by rw [e]; rfl)))
    (fun x c ⟨s', v, e, hs'⟩ _ => ⟨s', v, by rw [upd_ne _ _ (fun z => by rw [z, C₁.nosp h rfl] at e; cases e)]; exact e, hs'⟩)
    (fun x c ⟨s', v, e, hs'⟩ => by
      rcases hpl x s' e with ⟨hx, _⟩ | ⟨_, _, e'⟩
      · exact .inr (.inl hx)
      · exact .inl ⟨s', v, e', hs'⟩)
  rw [Array.append_assoc] at p2
  obtain ⟨nh, hid⟩ := hR.idle (T' := T₁ ++ (MemOp.ofEvents h a.frame.fn a.frame.place es ++ Go.Proofs.Ytnbaiinhalplcaa.started h gs₁.size a.frame.fn a.frame.place child.frame.fn)) (by rw [hD2]; exact C₁.past.hears h (.inl rfl))
  refine ⟨N + 1, _, d', sl₂, _, upd q₁ h nh, runNT_succ_of hr (hst.trans hrt), by simp [hsz], (by rw [← hsz, Array.getElem?_push, if_pos (by simp)]), ?_⟩
  rw [← hsz]
  refine ⟨fun x y hx hy => ?_, fun x s' c' _ e hc' => ?_, fun x s' e => ?_, fun _ _ z => z.elim, fun x x' s₁ s₂ c' e₁ e₂ h₁ h₂ => ?_, fun x hx => ?_, fun x s' e => ?_, fun x hx => ?_, p2, fun x s' e => ?_⟩
  · have hxl : x < gs₁.size := by
      have := (Array.getElem?_eq_some_iff.1 hy).1
      simp at this; omega
    rw [Array.getElem?_push, if_neg (by simp; omega)] at hy
    by_cases ex : x = h
    · subst ex
      rw [Array.getElem?_setIfInBounds_self_of_lt hlt] at hy
      obtain rfl := Option.some.inj hy
      rw [upd_same, upd_same]; exact hid
    · rw [Array.getElem?_setIfInBounds_ne (fun z => ex z.symm)] at hy
      rw [upd_ne q₁ nh ex, upd_ne _ _ ex]
      have hi := C₁.idle x y ex hy
      cases e : pl x with
      | none => rw [e] at hi; exact ⟨hi.1, by rw [hD2]; exact hi.2⟩
      | some s => rw [e] at hi; exact hi
  · rcases hpl x s' e with ⟨rfl, rfl⟩ | ⟨_, _, e'⟩
    · exact hR.2.1 c' hc'
    · exact C₁.chans x s' c' (fun z => z) e' hc'
  · rcases hpl x s' e with ⟨rfl, rfl⟩ | ⟨_, _, e'⟩
    · exact hR.1
    · exact C₁.wf x s' e'
  · rcases hpl x s₁ e₁ with ⟨rfl, rfl⟩ | ⟨hx, _, e₁'⟩ <;> rcases hpl x' s₂ e₂ with ⟨rfl, e₂'⟩ | ⟨hx', _, e₂'⟩
    · rfl
    · exact absurd h₁ (hR.2.2.1 x' s₂ c' e₂' h₂)
    · subst e₂'; exact absurd h₂ (hR.2.2.1 x s₁ c' e₁' h₁)
    · exact C₁.inj x x' s₁ s₂ c' e₁' e₂' h₁ h₂
  · rw [hD2]; exact C₁.above x (by simp at hx; omega)
  · rcases hpl x s' e with ⟨rfl, _⟩ | ⟨_, _, e'⟩
    · simp; omega
    · have := C₁.low x s' e'; simp; omega
  · subst hx
    rw [upd_ne _ _ (Ne.symm hhn)]; exact hnone
  · rcases hpl x s' e with ⟨rfl, rfl⟩ | ⟨_, _, e'⟩
    · exact hR.2.2.2.1
    · exact C₁.sees x s' e'

/-- THE RETURN. -/
theorem Held.ends {a : Goroutine} {sl : Option (Nat × Nat)} (ha : gs[0]? = some a) (hrun : a.status = .running) (hend : ∀ d, ∃ v es, stepG P true a (w.at d) = .ended (.done v) (w.at d) es ∧ (∀ e ∈ es, Calm pl e) ∧ Post v (w.at d))
    (hnone : ∀ i, pl i = none) (C : Held P pl 0 T gs w q) :
    ∃ N last o w' t', runNT P (N + 1) (crowd gs w sl) T = (.ended o w', t') ∧ runN P N (crowd gs w sl) = .next last ∧ step P last = .ended o w' ∧ Good P Post last o w' t' := by
  obtain ⟨N, gs₁, d, d', sl₁, sl₂, T₁, q₁, hr, hst, hsz, ha₁, C₁⟩ := Held.picked (sl := sl) ha hrun C
  obtain ⟨v, es, hstep, hes, hpost⟩ := hend d'
  obtain ⟨hops, hs, hdf⟩ := calm_ops (h := 0) (fn := a.frame.fn) (pos := a.frame.place) hes
  have hrunT := runT_many_ended (P := P) (sl := sl₂) (i := 0) ha₁ (show stepG P (0 == 0) a (w.at d') = _ from hstep)
  have p := Tidy.own C₁.past hops hs (hdf T₁)
  have hnp : ∀ g c, ¬ Peek pl g c := fun g c ⟨s, v, e, _⟩ => by rw [hnone g] at e; cases e
  refine ⟨N, crowd gs₁ (w.at d) sl₁, _, _, T₁ ++ MemOp.ofEvents 0 a.frame.fn a.frame.place es, ?_, ?_, ?_, v, rfl, hpost, p.clean, p.handed hnp, ⟨fun x hx => ?_, rfl⟩, fun j x hx hj => ?_⟩
  · rw [runNT_add, hr]; simp only [runNT, hst, hrunT]
  · rw [← runNT_fst P _ _ T, hr]
  · show (stepT P _).1 = _
    rw [hst, hrunT]
  · obtain ⟨j, hj⟩ := List.mem_iff_getElem?.1 hx
    rw [List.getElem?_drop] at hj
    have := C₁.idle (1 + j) x (by omega) (by simpa [crowd] using hj)
    rw [hnone] at this
    exact ⟨_, this.2.leaves⟩
  · have hq := C₁.idle j x hj hx
    rw [hnone] at hq
    refine ⟨q₁ j, ?_⟩
    have e : (T₁ ++ MemOp.ofEvents 0 a.frame.fn a.frame.place es).deaf j (T₁ ++ MemOp.ofEvents 0 a.frame.fn a.frame.place es).size = Deaf T₁ j := Deaf_other T₁ (fun z => hj z.symm) _ hops
    rw [e]
    exact hq.2.hears _
end

/-- The one who acts goes on by itself, from g to g', whatever the others are. -/
def Solo (P : Program) (pl : Nat → Option Place) (h : Nat) (g : Goroutine) (w : World) (g' : Goroutine) (w' : World) : Prop :=
  ∀ (gs : Array Goroutine) (sl : Option (Nat × Nat)) (T : Trace) (q : Nat → Nat), gs[h]? = some g → Held P pl h T gs w q →
    ∃ gs' ops q', runT P (crowd gs w sl) h = (.next (crowd gs' w' sl), ops) ∧ gs'.size = gs.size ∧ gs'[h]? = some g' ∧ Held P pl h (T ++ ops) gs' w' q'
theorem Solo.go {P : Program} {pl : Nat → Option Place} {h : Nat} {g g' : Goroutine} {w w' : World} {es : Array Event} (hs : stepG P (h == 0) g w = .go g' w' es) (hk : Kept pl w w') (hc : ∀ e ∈ es, Calm pl e) : Solo P pl h g w g' w' := by
  intro gs sl T q ha C
  obtain ⟨C', ha'⟩ := C.own (a' := g') ha hk hc
  exact ⟨_, _, q, runT_crowd_go ha hs, by simp, ha', C'⟩

/-- From here the run comes to a good end, whatever the scheduler draws. 'pl': the places of those that do not act; 'n': how many goroutines there are; 'h': who acts, 'g' its record. -/
inductive Win (P : Program) (Post : Value → World → Prop) : (Nat → Option Place) → Nat → Nat → Goroutine → World → Prop
  | done {pl : Nat → Option Place} {n : Nat} {g : Goroutine} {w : World} (hn : ∀ i, pl i = none) (hr : g.status = .running)
      (he : ∀ d, ∃ v es, stepG P true g (w.at d) = .ended (.done v) (w.at d) es ∧ (∀ e ∈ es, Calm pl e) ∧ Post v (w.at d)) : Win P Post pl n 0 g w
  | byself {pl : Nat → Option Place} {n h : Nat} {g : Goroutine} {w : World} (g' : Nat → Goroutine) (w' : Nat → World) (hr : g.status = .running)
      (hs : ∀ d, Solo P pl h g (w.at d) (g' d) (w' d)) (hw : ∀ d, Win P Post pl n h (g' d) (w' d)) : Win P Post pl n h g w
  | give {pl : Nat → Option Place} {n h j c kk : Nat} {g a₂ : Goroutine} {w : World} {s : Place} {v z z' : Value} {es : Array Event} {o : Option Place} (hr : g.status = .running) (hj : pl j = some s) (hk : s.cases[kk]? = some (rcase c z))
      (hs : ∀ d, stepG P (h == 0) g (w.at d) = .comm a₂ #[scase c v z'] true .send (w.at d) es) (hc : ∀ e ∈ es, Calm pl e) (hR : Rests P pl h w (Go.Conc.served a₂ undef) o)
      (hw : ∀ g₂ d k, s.home g₂ → w.heap[c]? = some (.chan 0 #[] false k k false) → Win P Post (moved pl h j o) n j (Go.Conc.served g₂ (commResult s.cases s.shape kk v true)) ((w.at d).setChan c 0 #[] false (k + 1) (k + 1) false)) : Win P Post pl n h g w
  | shut {pl : Nat → Option Place} {n h j c kk k : Nat} {g a' : Goroutine} {w : World} {s : Place} {z : Value} {o : Option Place} (hr : g.status = .running) (hj : pl j = some s) (hk : s.cases[kk]? = some (rcase c z)) (hwake : mayWake P g = true) (ha' : a'.status = .running)
      (hc : w.heap[c]? = some (.chan 0 #[] false k k false)) (hs : ∀ d, stepG P (h == 0) g (w.at d) = .go a' ((w.at d).setChan c 0 #[] true k k false) (closeEvents c)) (hR : Rests P pl h w a' o)
      (hw : ∀ g₂ d, s.home g₂ → Win P Post (moved pl h j o) n j (Go.Conc.served g₂ (commResult s.cases s.shape kk z false)) ((w.at d).setChan c 0 #[] true k k false)) : Win P Post pl n h g w
  | hire {pl : Nat → Option Place} {n h : Nat} {g a' child : Goroutine} {w : World} {es : Array Event} {o : Option Place} (hr : g.status = .running) (hs : ∀ d, stepG P (h == 0) g (w.at d) = .spawn a' child (w.at d) es) (hc : ∀ e ∈ es, Calm pl e)
      (hR : Rests P pl h w a' o) (hw : ∀ d, Win P Post (upd pl h o) (n + 1) n child (w.at d)) : Win P Post pl n h g w

section
variable {P : Program} {Post : Value → World → Prop}

/-- WHAT IS WON COMES TO A GOOD END. -/
theorem Win.adequate {pl : Nat → Option Place} {n h : Nat} {g : Goroutine} {w : World} (H : Win P Post pl n h g w) :
    ∀ (gs : Array Goroutine) (T : Trace) (sl : Option (Nat × Nat)) (q : Nat → Nat), gs.size = n → gs[h]? = some g → Held P pl h T gs w q →
      ∃ N last o w' t', runNT P (N + 1) (crowd gs w sl) T = (.ended o w', t') ∧ runN P N (crowd gs w sl) = .next last ∧ step P last = .ended o w' ∧ Good P Post last o w' t' := by
  have join : ∀ {gs : Array Goroutine} {w : World} {sl : Option (Nat × Nat)} {T : Trace} {N : Nat} {m : Machine} {T' : Trace}, runNT P N (crowd gs w sl) T = (.next m, T') →
      (∃ N last o w' t', runNT P (N + 1) m T' = (.ended o w', t') ∧ runN P N m = .next last ∧ step P last = .ended o w' ∧ Good P Post last o w' t') →
      ∃ N last o w' t', runNT P (N + 1) (crowd gs w sl) T = (.ended o w', t') ∧ runN P N (crowd gs w sl) = .next last ∧ step P last = .ended o w' ∧ Good P Post last o w' t' := by
    rintro gs w sl T N m T' hr ⟨N₂, last, o, w', t', e1, e2, e3, e4⟩
    refine ⟨N + N₂, last, o, w', t', ?_, ?_, e3, e4⟩
    · rw [Nat.add_assoc, runNT_add, hr]; exact e1
    · rw [runN_add, ← runNT_fst P _ _ T, hr]; exact e2
  induction H with
  | done hn hr he => exact fun gs T sl q _ ha C => Held.ends ha hr he hn C
  | byself g' w' hr hs hw ih =>
    intro gs T sl q hn ha C
    obtain ⟨N, gs₁, d, d', sl₁, sl₂, T₁, q₁, hrn, hst, hsz, ha₁, C₁⟩ := Held.picked (sl := sl) ha hr C
    obtain ⟨gs', ops, q', hrt, hsz', ha', C'⟩ := hs d' gs₁ sl₂ T₁ q₁ ha₁ C₁
    exact join (runNT_succ_of hrn (hst.trans hrt)) (ih d' _ _ sl₂ q' ((hsz'.trans hsz).trans hn) ha' C')
  | give hr hj hk hs hc hR hw ih =>
    intro gs T sl q hn ha C
    obtain ⟨N, gs', g₂, d, k, sl', T', q', hcx, hrn, hsz, hJ, hhome, C'⟩ := Held.give (sl := sl) hj hk ha hr hs hc hR C
    exact join hrn (ih g₂ d k hhome hcx _ _ sl' q' (hsz.trans hn) hJ C')
  | shut hr hj hk hwake ha' hc hs hR hw ih =>
    intro gs T sl q hn ha C
    obtain ⟨N, gs', g₂, d, sl', T', q', hrn, hsz, hJ, hhome, C'⟩ := Held.shut (sl := sl) hj hk ha hr hwake ha' hc hs hR C
    exact join hrn (ih g₂ d hhome _ _ sl' q' (hsz.trans hn) hJ C')
  | hire hr hs hc hR hw ih =>
    intro gs T sl q hn ha C
    obtain ⟨N, gs', d, sl', T', q', hrn, hsz, hJ, C'⟩ := Held.hire (sl := sl) ha hr hs hc hR C
    rw [hn] at hsz hJ C'
    exact join hrn (ih d _ _ sl' q' hsz hJ C')

theorem held_first {g : Goroutine} {w : World} : Held P (fun _ => none) 0 #[] #[g] w (fun _ => 0) := by
  refine ⟨fun i x hi hx => ?_, (fun _ _ _ _ e => by cases e), (fun _ _ e => by cases e), fun _ _ z => z.elim, (fun _ _ _ _ _ e => by cases e), fun _ _ => rfl, (fun _ _ e => by cases e), fun _ _ => rfl, ⟨(fun said ⟨i, j, _, ⟨a, b, ha, _⟩, _⟩ => by simp [Trace.act?] at ha), fun i a ha => ?_, fun i a _ _ ha => ?_, fun _ _ => rfl⟩, (fun _ _ e => by cases e)⟩
  · have := (Array.getElem?_eq_some_iff.1 hx).1
    simp at this; omega
  · simp [touchAt, Trace.act?] at ha
  · simp [touchAt, Trace.act?] at ha

theorem Win.runs {g : Goroutine} {w : World} (H : Win P Post (fun _ => none) 1 0 g w) :
    ∃ N last o w' t', runNT P (N + 1) (solo g w) #[] = (.ended o w', t') ∧ runN P N (solo g w) = .next last ∧ step P last = .ended o w' ∧ Good P Post last o w' t' := by
  rw [solo_eq_crowd]
  exact H.adequate #[g] #[] none (fun _ => 0) rfl rfl held_first

/-- A step of one's own, of whatever kind. -/
theorem Win.one {pl : Nat → Option Place} {n h : Nat} {g : Goroutine} {w : World} (hr : g.status = .running) (H : ∀ d, ∃ g' w', Solo P pl h g (w.at d) g' w' ∧ Win P Post pl n h g' w') : Win P Post pl n h g w :=
  .byself (fun d => (H d).choose) (fun d => (H d).choose_spec.choose) hr (fun d => (H d).choose_spec.choose_spec.1) (fun d => (H d).choose_spec.choose_spec.2)
/-- A step of one's own. -/
theorem Win.step {pl : Nat → Option Place} {n h : Nat} {g : Goroutine} {w : World} (hr : g.status = .running)
    (H : ∀ d, ∃ g' w' es, stepG P (h == 0) g (w.at d) = .go g' w' es ∧ Kept pl (w.at d) w' ∧ (∀ e ∈ es, Calm pl e) ∧ Win P Post pl n h g' w') : Win P Post pl n h g w :=
  Win.one hr fun d => by
    obtain ⟨g', w', es, h1, h2, h3, h4⟩ := H d
    exact ⟨g', w', Solo.go h1 h2 h3, h4⟩
end
end Go.Proofs.Ytnbaiinhalplcaa
