/- Makers: the words of an arena and an owner's list beside each other (Mw), what a call on both may turn (Mk), and plainly what makers do. Plainly what makers do to an arena's words and a list. Conditions: none. The walks of package alloc: a maker's single acts (write, writeListed, clear, entry, place, hold, listed). The walks of package alloc: who waits, what is claimed, what is found in a block. Conditions: as each theorem states them. -/
import Derived.Deep.RegionWith
import Derived.LoopTactic
import Derived.Deep.LoopGhost
import Derived.IntWalk
import Derived.Test.YticbnckikkdknaaGreatDoorPn03
import Derived.Test.YticbnckikkdknaaGreatDoorPn04
import Derived.Test.YticbnckikkdknaaGreatDoorPn05
namespace Go.Proofs.YticbnckikkdknaaGreatDoor
set_option linter.unusedVariables false
set_option linter.unusedSimpArgs false
open Go.RowKit

/-- Lists of places: each once, each with room for a cell of its class. -/
def Lok (N : Nat) (R : Nat → List Int) : Prop := ∀ c : Nat, c < 4 → (R c).Nodup ∧ ∀ x ∈ R c, 1 ≤ x ∧ x + Cl.wdC c ≤ N

theorem wd_pos {c : Nat} (h : c < 4) : 2 ≤ Cl.wdC c ∧ Cl.wdC c ≤ 9 := by
  rcases Li.four h with rfl | rfl | rfl | rfl <;> decide
theorem nodup_len : ∀ (N : Nat) (l : List Int), l.Nodup → (∀ x ∈ l, 1 ≤ x ∧ x ≤ N) → l.length ≤ N
  | 0, l, _, h => by
    cases l with
    | nil => simp
    | cons a l => have := h a (by simp); omega
  | N + 1, l, hn, h => by
    have h1 := nodup_len N (l.erase ((N + 1 : Nat) : Int)) (hn.erase _) (fun x hx => by
      have hx' := (List.Nodup.mem_erase_iff hn).1 hx
      have := h x hx'.2
      have hne := hx'.1
      omega)
    rw [List.length_erase] at h1
    split at h1 <;> omega
theorem Lok.len {N : Nat} {R : Nat → List Int} (h : Lok N R) (hN : N ≤ 1000) : Li.Len R 1000 := fun c hc => by
  have hw := wd_pos hc
  exact Nat.le_trans (nodup_len N (R c) (h c hc).1 (fun x hx => by have := (h c hc).2 x hx; omega)) hN
theorem Lok.put {N : Nat} {R : Nat → List Int} (h : Lok N R) {c : Nat} (hc : c < 4) {xs : List Int} (h1 : xs.Nodup) (h2 : ∀ x ∈ xs, 1 ≤ x ∧ x + Cl.wdC c ≤ N) : Lok N (Li.upd R c xs) := fun d hd => by
  by_cases e : d = c
  · subst e; rw [Li.upd_same]; exact ⟨h1, h2⟩
  · rw [Li.upd_ne _ _ _ _ e]; exact h d hd
theorem has_of_mem {R : Nat → List Int} {x : Int} {c : Nat} (hc : c < 4) (hx : x ∈ R c) : Li.hasB R x = true := by
  have hi : Li.inR x (R c) = true := by
    simp only [Li.inR, List.any_eq_true]
    exact ⟨x, hx, by simp⟩
  have key : ∀ k, c < k → Li.inK R x k = true := by
    intro k
    induction k with
    | zero => intro h; omega
    | succ k ih =>
      intro h
      by_cases e : k = c
      · subst e; simp only [Li.inK, hi]; simp
      · have := ih (by omega); simp only [Li.inK, this]; simp
  exact key 4 hc
theorem Lok.push {N : Nat} {R : Nat → List Int} (h : Lok N R) {c : Nat} (hc : c < 4) {x : Int} (h1 : 1 ≤ x) (h2 : x + Cl.wdC c ≤ N) : Lok N (Li.pushR R c x) := by
  unfold Li.pushR
  split
  · rename_i he
    have hh : Li.hasB R x = false := by
      unfold Li.pushE at he
      cases hb : Li.hasB R x with
      | false => rfl
      | true =>
        rw [hb] at he
        split at he
        · simp at he
        · split at he <;> simp at he
    rw [Int.toNat_natCast]
    refine h.put hc ?_ ?_
    · rw [List.nodup_append]
      refine ⟨(h c hc).1, by simp, fun a ha b hb => ?_⟩
      rw [List.mem_singleton] at hb
      subst hb
      intro e; subst e
      have := has_of_mem hc ha
      rw [hh] at this
      simp at this
    · intro y hy
      rw [List.mem_append, List.mem_singleton] at hy
      rcases hy with hy | rfl
      · exact (h c hc).2 y hy
      · exact ⟨h1, h2⟩
  · exact h
theorem Lok.pop {N : Nat} {R : Nat → List Int} (h : Lok N R) (c : Int) : Lok N (Li.popR R c) := by
  unfold Li.popR
  split
  · rename_i he
    have hc : c.toNat < 4 := by
      unfold Li.popE at he
      cases hb : Li.badC c with
      | false => obtain ⟨k, rfl, hk⟩ := Li.goodC hb; simpa using hk
      | true => rw [hb] at he; simp at he
    refine h.put hc ((List.dropLast_sublist _).nodup (h _ hc).1) fun x hx => (h _ hc).2 x (List.dropLast_subset _ hx)
  · exact h
/-- What was popped was there. -/
theorem pop_mem {R : Nat → List Int} {c : Nat} (hc : c < 4) (he : Li.popE R c = 0) : Li.popX R c ∈ R c := by
  unfold Li.popX
  rw [if_pos he]
  unfold Li.popE at he
  cases hb : Li.badC c with
  | true => rw [hb] at he; simp at he
  | false =>
    rw [hb] at he
    simp only [Int.toNat_natCast] at he ⊢
    by_cases hn : R c = []
    · rw [if_neg (by simp), if_pos hn] at he; simp at he
    · rw [List.getLastD_eq_getLast?, List.getLast?_eq_some_getLast hn]
      exact List.getLast_mem hn

/-- What makers turn: the arena, the list and its rows. -/
structure Mk (p r q : Nat) (vs vs' : Nat → Value) (w w' : World) : Prop where
  os : w'.os = w.os
  tape : w'.tape = w.tape
  output : w'.output = w.output
  size : w.heap.size ≤ w'.heap.size
  block : ∀ k, k < w.heap.size → k ≠ p → k ≠ r → k ≠ q → ¬ Li.Owns vs k → w'.heap[k]? = w.heap[k]?
  own : ∀ g, Li.Owns vs' g → Li.Owns vs g ∨ w.heap.size ≤ g

section
variable {p r q : Nat} {vs vs' vs'' : Nat → Value} {w w' w'' : World}
theorem Mk.of_kp {S : List Nat} (h : Kp S w w') (hS : ∀ x ∈ S, x = p ∨ x = r) : Mk p r q vs vs w w' :=
  ⟨h.os, h.tape, h.output, h.size, fun k hk h1 h2 _ _ => h.block k hk (fun e => by rcases hS k e with e | e <;> contradiction), fun g hg => .inl hg⟩
theorem Mk.refl (w : World) : Mk p r q vs vs w w := Mk.of_kp (S := []) (Kp.refl _ _) (by simp)
theorem Mk.of_lk (h : Li.Lk q vs vs' w w') : Mk p r q vs vs' w w' :=
  ⟨h.os, h.tape, h.output, h.size, fun k hk _ _ h3 h4 => h.block k hk h3 h4, h.own⟩
theorem Mk.trans (h : Mk p r q vs vs' w w') (k : Mk p r q vs' vs'' w' w'') : Mk p r q vs vs'' w w'' :=
  ⟨k.os.trans h.os, k.tape.trans h.tape, k.output.trans h.output, Nat.le_trans h.size k.size, fun i hi h1 h2 h3 h4 => (k.block i (Nat.lt_of_lt_of_le hi h.size) h1 h2 h3 (fun e => by
    rcases h.own i e with q | q
    · exact h4 q
    · omega)).trans (h.block i hi h1 h2 h3 h4), fun g hg => by
    rcases k.own g hg with q | q
    · exact h.own g q
    · exact .inr (Nat.le_trans h.size q)⟩
/-- A step that turns only what was made since. -/
theorem Mk.fresh {S : List Nat} (h : Mk p r q vs vs' w w') (k : Kp S w' w'') (hS : ∀ x ∈ S, w.heap.size ≤ x) : Mk p r q vs vs' w w'' :=
  ⟨k.os.trans h.os, k.tape.trans h.tape, k.output.trans h.output, Nat.le_trans h.size k.size, fun i hi h1 h2 h3 h4 => (k.block i (Nat.lt_of_lt_of_le hi h.size) (fun e => by have := hS i e; omega)).trans (h.block i hi h1 h2 h3 h4), h.own⟩
theorem Mk.row (h : Mk p r q vs vs' w w') {g : Nat} (h1 : g ≠ p) (h2 : g ≠ r) (h3 : g ≠ q) (h4 : ¬ Li.Owns vs g) {o : Obj} (ho : w.heap[g]? = some o) : w'.heap[g]? = some o := (h.block g (lt_of_block ho) h1 h2 h3 h4).trans ho
end

/-- The arena's words H, the list's rows R. -/
structure Mw (T G n p r q : Nat) (vs : Nat → Value) (H : List Int) (R : Nat → List Int) (t : Nat) (w : World) : Prop where
  hw : ∃ t0, t0 ≤ t ∧ Hw T G n p r H t0 w
  ls : Li.Ls w q vs R
  lk : Lok H.length R
  sm : H.length ≤ 1000
  tab : Cl.Tab w
  gn : 0 ≠ p ∧ 0 ≠ r ∧ 0 ≠ q ∧ ¬ Li.Owns vs 0

section
variable {T G n p r q t : Nat} {vs vs' : Nat → Value} {H H' : List Int} {R R' : Nat → List Int} {w w' : World}
theorem tab_keep {S : List Nat} (h : Cl.Tab w) (k : Kp S w w') (hg : 0 ∉ S) : Cl.Tab w' := ⟨kp_cell k hg h.c0, kp_cell k hg h.c1, kp_cell k hg h.c2, kp_cell k hg h.c3⟩
theorem Mw.types (h : Mw T G n p r q vs H R t w) : ∃ a b c, w.heap[p]? = some (.cells a 99 (0, 0)) ∧ w.heap[r]? = some (.cells b 57 (0, 0)) ∧ w.heap[q]? = some (.cells c 172 (0, 0)) := by
  obtain ⟨_, _, hh⟩ := h.hw
  obtain ⟨_, a⟩ := hh.ar
  exact ⟨_, _, _, a.hp, a.hr, h.ls.hp⟩
theorem owns_type (h : Li.Ls w q vs R) {g : Nat} (hg : Li.Owns vs g) : ∃ cs, w.heap[g]? = some (.cells cs 3 (0, 0)) := by
  obtain ⟨c, hc, hb⟩ := hg
  exact (h.rw c hc).block g hb
/-- A block of another type is none of these. -/
theorem Mw.apart (h : Mw T G n p r q vs H R t w) {b : Nat} {cs : Array Value} {U : TypeId} {fr : Nat × Nat} (hb : w.heap[b]? = some (.cells cs U fr)) (h1 : U ≠ 99) (h2 : U ≠ 57) (h3 : U ≠ 172) (h4 : U ≠ 3) : b ≠ p ∧ b ≠ r ∧ b ≠ q ∧ ¬ Li.Owns vs b := by
  obtain ⟨a1, a2, a3, e1, e2, e3⟩ := h.types
  refine ⟨?_, ?_, ?_, ?_⟩
  · rintro rfl; rw [hb] at e1; simp at e1; exact h1 e1.2.1
  · rintro rfl; rw [hb] at e2; simp at e2; exact h2 e2.2.1
  · rintro rfl; rw [hb] at e3; simp at e3; exact h3 e3.2.1
  · intro ho
    obtain ⟨c, e4⟩ := owns_type h.ls ho
    rw [hb] at e4; simp at e4; exact h4 e4.2.1
theorem Mw.row (h : Mw T G n p r q vs H R t w) (k : Mk p r q vs vs' w w') {b : Nat} {cs : Array Value} {U : TypeId} {fr : Nat × Nat} (hb : w.heap[b]? = some (.cells cs U fr)) (h1 : U ≠ 99) (h2 : U ≠ 57) (h3 : U ≠ 172) (h4 : U ≠ 3) : w'.heap[b]? = some (.cells cs U fr) := by
  obtain ⟨a1, a2, a3, a4⟩ := h.apart hb h1 h2 h3 h4
  exact k.row a1 a2 a3 a4 hb
theorem Mw.ne (h : Mw T G n p r q vs H R t w) : q ≠ p ∧ q ≠ r ∧ ¬ Li.Owns vs p ∧ ¬ Li.Owns vs r := by
  obtain ⟨a1, a2, a3, e1, e2, e3⟩ := h.types
  refine ⟨?_, ?_, ?_, ?_⟩
  · rintro rfl; rw [e1] at e3; simp at e3
  · rintro rfl; rw [e2] at e3; simp at e3
  · intro ho
    obtain ⟨c, e4⟩ := owns_type h.ls ho
    rw [e1] at e4; simp at e4
  · intro ho
    obtain ⟨c, e4⟩ := owns_type h.ls ho
    rw [e2] at e4; simp at e4
theorem Mw.lt (h : Mw T G n p r q vs H R t w) : p < w.heap.size ∧ r < w.heap.size ∧ q < w.heap.size := by
  obtain ⟨_, _, _, e1, e2, e3⟩ := h.types
  exact ⟨lt_of_block e1, lt_of_block e2, lt_of_block e3⟩
/-- The arena's words have turned. -/
theorem Mw.turn (h : Mw T G n p r q vs H R t w) (k : Kp [p, r] w w') {t' : Nat} (hh : ∃ t0, t0 ≤ t' ∧ Hw T G n p r H' t0 w') (hl : H'.length = H.length) : Mw T G n p r q vs H' R t' w' := by
  obtain ⟨n1, n2, n3, n4⟩ := h.ne
  obtain ⟨g1, g2, g3, g4⟩ := h.gn
  exact ⟨hh, h.ls.keep k (by simp; omega) (fun g hg e => by
    simp only [List.mem_cons, List.not_mem_nil, or_false] at e
    rcases e with rfl | rfl
    · exact n3 hg
    · exact n4 hg), hl ▸ h.lk, hl ▸ h.sm, tab_keep h.tab k (by simp; omega), ⟨g1, g2, g3, g4⟩⟩
/-- The list has turned. -/
theorem Mw.list (h : Mw T G n p r q vs H R t w) (L : Li.Ls w' q vs' R') (k : Li.Lk q vs vs' w w') (hl : Lok H.length R') : Mw T G n p r q vs' H R' t w' := by
  obtain ⟨t0, ht0, hh⟩ := h.hw
  obtain ⟨n1, n2, n3, n4⟩ := h.ne
  obtain ⟨g1, g2, g3, g4⟩ := h.gn
  obtain ⟨l, a⟩ := hh.ar
  have hlt : 0 < w.heap.size := World.block_lt_of_cell? _ _ h.tab.c0
  have hc : ∀ {i : Nat} {v : Value}, w.cell? ⟨0, i, none⟩ = some v → w'.cell? ⟨0, i, none⟩ = some v := fun {i v} hv => (World.cell?_of_block (a := ⟨0, i, none⟩) (k.block _ hlt g3 g4)).trans hv
  refine ⟨⟨t0, ht0, ⟨⟨l, ⟨k.row (Ne.symm n1) n3 a.hp, k.row (Ne.symm n2) n4 a.hr⟩⟩, hh.len, hh.top, hh.ok, hh.hT, hh.hG, hh.hn⟩⟩, L, hl, h.sm, ⟨hc h.tab.c0, hc h.tab.c1, hc h.tab.c2, hc h.tab.c3⟩, g1, g2, g3, fun e => ?_⟩
  rcases k.own _ e with q | q
  · exact g4 q
  · omega
theorem Mw.on (h : Mw T G n p r q vs H R t w) (k : Kp [] w w') : Mw T G n p r q vs H R t w' := by
  obtain ⟨t0, ht0, hh⟩ := h.hw
  exact h.turn (k.mono (by simp)) ⟨t0, ht0, hh.on k⟩ rfl
theorem Mw.more (h : Mw T G n p r q vs H R t w) {t' : Nat} (ht : t ≤ t') : Mw T G n p r q vs H R t' w := by
  obtain ⟨t0, ht0, hh⟩ := h.hw
  exact ⟨⟨t0, by omega, hh⟩, h.ls, h.lk, h.sm, h.tab, h.gn⟩
theorem Mw.fit (h : Mw T G n p r q vs H R t w) : 3 + T + G + 33 * n ≤ H.length ∧ T ≤ 64 ∧ G ≤ 8 ∧ n ≤ 64 := by
  obtain ⟨t0, ht0, hh⟩ := h.hw
  exact ⟨hh.len, hh.hT, hh.hG, hh.hn⟩
theorem Mw.word (h : Mw T G n p r q vs H R t w) (k : Nat) : 0 ≤ H.getD k 0 ∧ H.getD k 0 < 18446744073709551616 := by
  obtain ⟨t0, ht0, hh⟩ := h.hw
  exact hh.ok k
end

end Go.Proofs.YticbnckikkdknaaGreatDoor

namespace Go.Proofs.YticbnckikkdknaaGreatDoor
set_option linter.unusedVariables false
set_option linter.unusedSimpArgs false
open Go.RowKit

/-- Where a cell of a block of a class begins; what a Listed one's header is. -/
def pl (T G n c b i : Nat) : Nat := 3 + T + G + n + 32 * b + (Cl.wdC c).toNat * i
def lw (o : Nat) : Int := Wd.wordI 1 0 o 0 0 false false
/-- Is it a Free header? Is it the entry of an owner's blocks of a class? -/
def frB (x : Int) : Bool := Wd.takeB x && decide (x % 4 = 0)
def isE (c o : Nat) (x : Int) : Bool := Tb.eqE (ek x) (ec x) (er x) (eo x) 1 c 0 o

/-- An arena's words, and a list's rows. -/
abbrev Hs := List Int × (Nat → List Int)

def lookS (T G n o c b : Nat) (s : Hs) : Nat → Hs
  | 0 => s
  | i + 1 => if frB ((lookS T G n o c b s i).1.getD (pl T G n c b i) 0) then ((lookS T G n o c b s i).1.set (pl T G n c b i) (lw o), Li.pushR (lookS T G n o c b s i).2 c (pl T G n c b i)) else lookS T G n o c b s i
def foundS (T G n o c : Nat) (s : Hs) : Nat → Hs
  | 0 => s
  | b + 1 => if isE c o ((foundS T G n o c s b).1.getD (3 + T + G + b) 0) then lookS T G n o c b (foundS T G n o c s b) (Cl.clC c).toNat else foundS T G n o c s b
def markS (T G n o c b : Nat) (H : List Int) : Nat → List Int
  | 0 => H
  | i + 1 => (markS T G n o c b H i).set (pl T G n c b i) (lw o)
def pushS (T G n c b m : Nat) (R : Nat → List Int) : Nat → (Nat → List Int)
  | 0 => R
  | i + 1 => Li.pushR (pushS T G n c b m R i) c (pl T G n c b (m - 1 - i))
def clearH (H : List Int) (a : Nat) : Nat → List Int
  | 0 => H
  | i + 1 => (clearH H a i).set (a + 1 + i) 0

/-- The first run that is free, if there is one. -/
def frst (M : Nat) (run : Int) : Option Nat := (List.range 64).find? fun k => Bm.isR M k run true
def claimH (n : Nat) (H : List Int) (run : Nat) : List Int × Option Nat :=
  match frst (H.getD 0 0).toNat run with
  | none => (H, none)
  | some k => (H.set 0 (Bm.setN (H.getD 0 0).toNat k run false : Int), if k + run ≤ n then some k else none)
def tidyH (T G n o : Nat) (wk : Bool) (H : List Int) : List Int := if wk then H else waitH T G n o H n
def popS (s : Hs) (c : Nat) : Hs × Option Int := ((s.1, Li.popR s.2 c), if Li.popE s.2 c = 0 then some (Li.popX s.2 c) else none)
def cutS (T G n o c : Nat) (s : Hs) (b : Nat) : Hs :=
  ((markS T G n o c b s.1 (Cl.clC c).toNat).set (3 + T + G + b) (Tb.wordE 1 c 0 o), pushS T G n c b (Cl.clC c).toNat s.2 (Cl.clC c).toNat)
def carveS (T G n o : Nat) (wk : Bool) (c : Nat) (s : Hs) : Hs × Option Int :=
  match (claimH n (tidyH T G n o wk s.1) 1).2 with
  | none => (((claimH n (tidyH T G n o wk s.1) 1).1, s.2), none)
  | some b => popS (cutS T G n o c ((claimH n (tidyH T G n o wk s.1) 1).1, s.2) b) c
def foundP (T G n o c : Nat) (s : Hs) : Hs × Option Int := popS (foundS T G n o c s n) c
def cellS (T G n o : Nat) (wk : Bool) (c : Nat) (s : Hs) : Hs × Option Int :=
  if (popS s c).2.isSome then popS s c
  else if (foundP T G n o c (popS s c).1).2.isSome then foundP T G n o c (popS s c).1
  else carveS T G n o wk c (foundP T G n o c (popS s c).1).1

theorem frst_claims (M : Nat) (r : Nat) : ∃ a q M', Claims M r a q M' ∧ (a = ((frst M r).getD 0 : Nat)) ∧ q = (frst M r).isSome ∧ M' = (match frst M r with | none => M | some k => Bm.setN M k r false) := by
  rcases first_or_none M r with ⟨k, hk, hf⟩ | h
  · have hfr : frst M r = some k := by
      unfold frst
      rw [List.find?_range_eq_some]
      refine ⟨hf.1, by simpa using hk, fun j hj => by simp [hf.2 j hj]⟩
    exact ⟨k, true, _, .inl ⟨k, hk, hf, rfl, rfl, rfl⟩, by rw [hfr]; rfl, by rw [hfr]; rfl, by rw [hfr]; simp⟩
  · have hfr : frst M r = none := by
      unfold frst
      rw [List.find?_range_eq_none]
      intro j _
      simp [h j]
    exact ⟨0, false, M, .inr ⟨h, rfl, rfl, rfl⟩, by rw [hfr]; rfl, by rw [hfr]; rfl, by rw [hfr]⟩

section
variable {T G n o c b : Nat} {s : Hs} {H : List Int} {N : Nat}
theorem pl_fit (hc : c < 4) (hb : b < n) {i : Nat} (hi : i < (Cl.clC c).toNat) (hN : 3 + T + G + 33 * n ≤ N) : 1 ≤ pl T G n c b i ∧ pl T G n c b i + Cl.wdC c ≤ N ∧ pl T G n c b i < N := by
  unfold pl
  have hd : 32 * b + 32 ≤ 32 * n := by omega
  rcases Li.four hc with rfl | rfl | rfl | rfl
  · have h1 : Cl.wdC (0 : Nat) = 2 := by decide
    have h2 : Cl.clC (0 : Nat) = 16 := by decide
    rw [h1]; rw [h2] at hi; simp at hi ⊢; omega
  · have h1 : Cl.wdC (1 : Nat) = 3 := by decide
    have h2 : Cl.clC (1 : Nat) = 10 := by decide
    rw [h1]; rw [h2] at hi; simp at hi ⊢; omega
  · have h1 : Cl.wdC (2 : Nat) = 5 := by decide
    have h2 : Cl.clC (2 : Nat) = 6 := by decide
    rw [h1]; rw [h2] at hi; simp at hi ⊢; omega
  · have h1 : Cl.wdC (3 : Nat) = 9 := by decide
    have h2 : Cl.clC (3 : Nat) = 3 := by decide
    rw [h1]; rw [h2] at hi; simp at hi ⊢; omega
theorem lookS_len (i : Nat) : (lookS T G n o c b s i).1.length = s.1.length := by
  induction i with
  | zero => rfl
  | succ i ih => unfold lookS; split <;> simp [ih]
theorem foundS_len (i : Nat) : (foundS T G n o c s i).1.length = s.1.length := by
  induction i with
  | zero => rfl
  | succ i ih => unfold foundS; split <;> simp [ih, lookS_len]
theorem markS_len (i : Nat) : (markS T G n o c b H i).length = H.length := by
  induction i with
  | zero => rfl
  | succ i ih => simp [markS, ih]
theorem clearH_len (a i : Nat) : (clearH H a i).length = H.length := by
  induction i with
  | zero => rfl
  | succ i ih => simp [clearH, ih]
theorem claimH_len (run : Nat) : (claimH n H run).1.length = H.length := by
  unfold claimH; split <;> simp
theorem backH_len (b r : Int) : (backH T G n H b r).length = H.length := by
  unfold backH; split <;> simp [zer_len]
theorem waitH_len (o : Int) (i : Nat) : (waitH T G n o H i).length = H.length := by
  induction i with
  | zero => rfl
  | succ i ih => unfold waitH turnH; split <;> simp [ih, backH_len]
theorem tidyH_len (wk : Bool) : (tidyH T G n o wk H).length = H.length := by
  unfold tidyH; split <;> simp [waitH_len]
theorem lookS_ok (hc : c < 4) (hb : b < n) (hN : 3 + T + G + 33 * n ≤ N) (h : Lok N s.2) : ∀ i, i ≤ (Cl.clC c).toNat → Lok N (lookS T G n o c b s i).2
  | 0, _ => h
  | i + 1, hi => by
    have ih := lookS_ok hc hb hN h i (by omega)
    unfold lookS
    have hp := pl_fit (T := T) (G := G) hc hb (i := i) (by omega) hN
    split
    · exact ih.push hc (by omega) hp.2.1
    · exact ih
theorem foundS_ok (hc : c < 4) (hN : 3 + T + G + 33 * n ≤ N) (h : Lok N s.2) : ∀ i, i ≤ n → Lok N (foundS T G n o c s i).2
  | 0, _ => h
  | i + 1, hi => by
    have ih := foundS_ok hc hN h i (by omega)
    unfold foundS
    split
    · exact lookS_ok hc (by omega) hN ih _ (Nat.le_refl _)
    · exact ih
theorem pushS_ok {m : Nat} {R : Nat → List Int} (hc : c < 4) (hb : b < n) (hm : m = (Cl.clC c).toNat) (hN : 3 + T + G + 33 * n ≤ N) (h : Lok N R) : ∀ i, i ≤ m → Lok N (pushS T G n c b m R i)
  | 0, _ => h
  | i + 1, hi => by
    have ih := pushS_ok hc hb hm hN h i (by omega)
    have hp := pl_fit (T := T) (G := G) hc hb (i := m - 1 - i) (by omega) hN
    exact ih.push hc (by omega) hp.2.1
end

end Go.Proofs.YticbnckikkdknaaGreatDoor

namespace Go.Proofs.YticbnckikkdknaaGreatDoor
set_option linter.unusedVariables false
set_option linter.unusedSimpArgs false
set_option maxRecDepth 100000
open Go.RowKit

/-- A maker, and its box. -/
abbrev mkV (T G n p q o : Nat) (wk : Bool) (hd : Value) : Value := .agg #[.iface 31 (.pointer (some ⟨p, 0, none⟩)), .int .i64 T, .int .i64 G, .int .i64 n, .int .u8 o, .pointer (some ⟨q, 0, none⟩), .bool wk, hd]
def mkC (T G n p q o : Nat) (wk : Bool) (hd : Value) : Array Value := #[.iface 31 (.pointer (some ⟨p, 0, none⟩)), .int .i64 T, .int .i64 G, .int .i64 n, .int .u8 o, .pointer (some ⟨q, 0, none⟩), .bool wk, hd]
/-- A world that has just a maker's box more. -/
def mkW (w : World) (T G n p q o : Nat) (wk : Bool) (hd : Value) : World := w.alloc (.cells (mkC T G n p q o wk hd) 130)
theorem mkW_kp (w : World) (T G n p q o : Nat) (wk : Bool) (hd : Value) : Kp [] w (mkW w T G n p q o wk hd) := (Kp.refl _ _).alloc _
theorem mkW_row (w : World) (T G n p q o : Nat) (wk : Bool) (hd : Value) : (mkW w T G n p q o wk hd).heap[w.heap.size]? = some (.cells (mkC T G n p q o wk hd) 130 (0, 0)) := heap_alloc_new _ _

section
variable {T G n p r q t o : Nat} {wk : Bool} {hd : Value} {vs : Nat → Value} {H : List Int} {R : Nat → List Int} {w : World}
theorem a_write (h : Mw T G n p r q vs H R t w) (ht : t ≤ 800000) (k : Nat) (hk : k < H.length) (j : Int) (hj : j = k) (kd c ow rf sz : Int) (g m : Bool) (h0 : 0 ≤ kd) (h1 : 0 ≤ c) (h2 : 0 ≤ ow) (h3 : 0 ≤ rf) (h4 : 0 ≤ sz) (hm : Wd.mayB kd c ow rf sz g m = true) (x : Int) (hx : Wd.wordI kd c ow rf sz g m = x) :
    Calls Tryz.prog 135 #[mkV T G n p q o wk hd, .int .i64 j, .agg #[.int .u8 kd, .int .u8 c, .bool g, .bool m, .int .u8 ow, .int .u8 rf, .int .u8 sz]] w fun e w' => e = .returned (.tuple #[]) ∧ Mw T G n p r q vs (H.set k x) R (t + 1) w' ∧ Kp [p, r] w w' := by
  have hp := Lib.hid (fun w => (Wd.put_yes kd c ow rf sz g m w h0 h1 h2 h3 h4 hm).mono fun e w' ⟨q1, q2⟩ => And.intro q1 (kp_of_below q2))
  have hb := Wd.word_lt kd c ow rf sz g m h0 h1 h2 h3 h4 hm
  rw [hx] at hp hb
  obtain ⟨t0, ht0, hh⟩ := h.hw
  have HWR := Lib.hid (fun (w' : World) (hw : Kp [] w w') => wr_word (hh.on hw) (by omega) k hk j x hj hb.1 (by omega))
  have HT : Hid (∀ w', Hw T G n p r (H.set k x) (t0 + 1) w' → Kp [p, r] w w' → Mw T G n p r q vs (H.set k x) R (t + 1) w') := Lib.hid fun w' a k' => h.turn k' ⟨t0 + 1, by omega, a⟩ (by simp)
  clear hm hx hb h0 h1 h2 h3 h4 h hh hj hk ht0 ht
  have hna := na_write
  have KB : Hid (∀ w1, Kp [] ((mkW w T G n p q o wk hd).alloc (.cells #[.int .u8 kd, .int .u8 c, .bool g, .bool m, .int .u8 ow, .int .u8 rf, .int .u8 sz] 59)) w1 → Kp [] w w1 ∧ w1.heap[w.heap.size]? = some (.cells (mkC T G n p q o wk hd) 130 (0, 0))) :=
    Lib.hid fun w1 k1 => ⟨((mkW_kp w T G n p q o wk hd).alloc _).trans k1, (((Kp.refl [] _).alloc _).trans k1).row (by simp) (mkW_row w T G n p q o wk hd)⟩
  unfold mkW mkC at KB
  go_enter Tryz.func135, Tryz.ntmps135
  go_wp2_with fail
  refine (hp.out _).mono ?_
  rintro e w1 ⟨rfl, hk1⟩
  obtain ⟨k1, r1⟩ := KB.out w1 hk1
  have c0 : w1.cell? ⟨w.heap.size, 0, none⟩ = some (.iface 31 (.pointer (some ⟨p, 0, none⟩))) := cell_of_row r1 0
  have K1 := Lib.hid k1
  clear hk1 k1 r1
  go_wp2_with fail
  refine (HWR.out _ K1.out).mono ?_
  rintro e w2 ⟨rfl, hg, hk2⟩
  have F := Lib.hid (And.intro (HT.out _ hg ((K1.out.mono (by simp)).trans hk2)) ((K1.out.mono (by simp)).trans hk2))
  clear hg hk2
  go_wp2_with fail
  go_end0
  exact ⟨rfl, F.out.1, F.out.2⟩

theorem lw_may (o : Nat) (ho : o < 64) : Wd.mayB 1 0 o 0 0 false false = true := by
  rw [Wd.mayB_iff]; simp; omega
/-- A cell becomes one that the owner has on its list. -/
theorem a_writeListed (h : Mw T G n p r q vs H R t w) (ht : t ≤ 800000) (ho : o < 64) (k : Nat) (hk : k < H.length) (j : Int) (hj : j = k) :
    Calls Tryz.prog 167 #[mkV T G n p q o wk hd, .int .i64 j] w fun e w' => e = .returned (.tuple #[]) ∧ Mw T G n p r q vs (H.set k (lw o)) R (t + 1) w' ∧ Kp [p, r] w w' := by
  have HW := Lib.hid (a_write (o := o) (wk := wk) (hd := hd) (h.on (mkW_kp w T G n p q o wk hd)) ht k hk j hj 1 0 o 0 0 false false (by decide) (by decide) (by omega) (by decide) (by decide) (lw_may o ho) (lw o) rfl)
  have KB := Lib.hid (mkW_kp w T G n p q o wk hd)
  unfold mkW mkC at HW KB
  generalize lw o = x at HW ⊢
  clear h hj hk ht
  go_enter Tryz.func167, Tryz.ntmps167
  go_wp2_with fail
  refine HW.out.mono ?_
  rintro e w2 ⟨rfl, hg, hk2⟩
  have F := Lib.hid (And.intro hg ((KB.out.mono (by simp)).trans hk2))
  clear hg hk2
  go_wp2_with fail
  go_end0
  exact ⟨rfl, F.out.1, F.out.2⟩

/-- What an entry of the owner's blocks of a class is. -/
theorem a_entry (c : Nat) (hc : c < 4) (w : World) :
    Calls Tryz.prog 165 #[mkV T G n p q o wk hd, .int .i64 c] w fun e w' => e = .returned (.agg #[.int .u8 1, .int .u8 c, .int .u8 0, .int .u8 o]) ∧ Kp [] w w' := by
  have hcc : ((c : Int) % 256) = c := by omega
  have HR := Lib.hid (heap_alloc_new (mkW w T G n p q o wk hd) (.cells (cs4 1 c 0 o) 110))
  have KB := Lib.hid ((mkW_kp w T G n p q o wk hd).alloc (.cells (cs4 1 c 0 o) 110))
  unfold mkW mkC cs4 at HR KB
  rw [World.size_alloc] at HR
  go_enter Tryz.func165, Tryz.ntmps165
  go_wp2_with fail
  refine bodyPost_row rfl (w.heap.size + 1) 110 (cs4 1 c 0 o) (0, 0) _ rfl rfl HR.out Tryz.underlying110 rfl (by kernel_rfl) ⟨rfl, KB.out⟩

/-- Where a cell of a block begins. -/
theorem pl_is (c b i : Nat) (hc : c < 4) : ((3 + T + G + n + 32 * b : Nat) : Int) + (i : Int) * Cl.wdC c = (pl T G n c b i : Nat) := by
  unfold pl
  rcases Li.four hc with rfl | rfl | rfl | rfl
  · rw [show Cl.wdC ((0 : Nat) : Int) = 2 from by decide]; simp; omega
  · rw [show Cl.wdC ((1 : Nat) : Int) = 3 from by decide]; simp; omega
  · rw [show Cl.wdC ((2 : Nat) : Int) = 5 from by decide]; simp; omega
  · rw [show Cl.wdC ((3 : Nat) : Int) = 9 from by decide]; simp; omega
theorem wd_mul (c i : Nat) (hc : c < 4) (hi : i < (Cl.clC c).toNat) : 0 ≤ (i : Int) * Cl.wdC c ∧ (i : Int) * Cl.wdC c ≤ 32 := by
  rcases Li.four hc with rfl | rfl | rfl | rfl
  · rw [show Cl.clC ((0 : Nat) : Int) = 16 from by decide] at hi; rw [show Cl.wdC ((0 : Nat) : Int) = 2 from by decide]; simp at hi; omega
  · rw [show Cl.clC ((1 : Nat) : Int) = 10 from by decide] at hi; rw [show Cl.wdC ((1 : Nat) : Int) = 3 from by decide]; simp at hi; omega
  · rw [show Cl.clC ((2 : Nat) : Int) = 6 from by decide] at hi; rw [show Cl.wdC ((2 : Nat) : Int) = 5 from by decide]; simp at hi; omega
  · rw [show Cl.clC ((3 : Nat) : Int) = 3 from by decide] at hi; rw [show Cl.wdC ((3 : Nat) : Int) = 9 from by decide]; simp at hi; omega
theorem a_place (hT : T ≤ 64) (hG : G ≤ 8) (hn : n ≤ 64) (tb : Cl.Tab w) (c b i : Nat) (hc : c < 4) (hb : b < n) (hi : i < (Cl.clC c).toNat) :
    Calls Tryz.prog 168 #[mkV T G n p q o wk hd, .int .i64 b, .int .i64 c, .int .i64 i] w fun e w' => e = .returned (.int .i64 (pl T G n c b i)) ∧ Kp [] w w' := by
  have hs := Lib.hid (fun w => Ly.start_is T G n b ((3 + T + G + n + 32 * b : Nat) : Int) w (by rw [Ly.rowP_in (by omega) (by omega)]; omega) (by omega) (by omega) (by omega) (by omega) (by omega) (by omega))
  have KB := Lib.hid (mkW_kp w T G n p q o wk hd)
  have TB := Lib.hid (fun w1 (k : Kp [] w w1) => tab_keep tb k (by simp))
  have hE := pl_is (T := T) (G := G) (n := n) c b i hc
  have hm := wd_mul c i hc hi
  have hS : 3 + T + G + n + 32 * b ≤ 4000 := by omega
  have HWD := Lib.hid (fun w (tb : Cl.Tab w) => Cl.words_is w tb c _ rfl)
  generalize 3 + T + G + n + 32 * b = S at hs hE hS
  generalize pl T G n c b i = P at hE ⊢
  have e1 := IntWalk.i64_in ((i : Int) * Cl.wdC c) (by omega)
  have e2 := IntWalk.i64_in ((S : Int) + (i : Int) * Cl.wdC c) (by omega)
  unfold mkW mkC at KB
  clear tb hc hb hi hT hG hn hm hS
  generalize Cl.wdC c = d at HWD e1 e2 hE
  have HE := Lib.hid hE
  clear hE
  go_enter Tryz.func168, Tryz.ntmps168
  go_wp2_with fail
  refine (hs.out _).mono ?_
  rintro e w1 ⟨rfl, hk1⟩
  have K1 := Lib.hid (KB.out.trans hk1)
  clear hk1
  go_wp2_with fail
  refine (HWD.out _ (TB.out _ K1.out)).mono ?_
  rintro e w2 ⟨rfl, rfl⟩
  go_wp2_with fail
  go_ret
  exact ⟨by rw [← HE.out]; rfl, K1.out⟩

theorem a_listed (h : Mw T G n p r q vs H R t w) (c : Nat) (hc : c < 4) :
    Calls Tryz.prog 153 #[mkV T G n p q o wk hd, .int .i64 c] w fun e w' => e = .returned (.tuple #[.int .i64 (((popS (H, R) c).2).getD 0), .bool (popS (H, R) c).2.isSome]) ∧ ∃ vs', Mw T G n p r q vs' (popS (H, R) c).1.1 (popS (H, R) c).1.2 t w' ∧ Mk p r q vs vs' w w' := by
  have h1 := h.on (mkW_kp w T G n p q o wk hd)
  have HP : Hid (Calls Tryz.prog 164 #[.pointer (some ⟨q, 0, none⟩), .int .i64 c] (mkW w T G n p q o wk hd) fun e w' => e = .returned (.tuple #[.int .i64 (Li.popX R c), .int .i64 (Li.popE R c)]) ∧ ∃ vs', Mw T G n p r q vs' H (Li.popR R c) t w' ∧ Mk p r q vs vs' w w') := by
    refine Lib.hid ((Li.pop_is _ q vs R c h1.ls (h.lk.len h.sm)).mono ?_)
    rintro e w' ⟨rfl, vs', L, K⟩
    exact ⟨rfl, vs', h1.list L K (h.lk.pop c), (Mk.of_kp (mkW_kp w T G n p q o wk hd) (by simp)).trans (Mk.of_lk K)⟩
  have hX : ((popS (H, R) c).2).getD 0 = Li.popX R c := by
    unfold popS Li.popX
    by_cases e : Li.popE R c = 0
    · rw [if_pos e]; rfl
    · rw [if_neg e, if_neg e]; rfl
  have hB : (popS (H, R) c).2.isSome = (Li.popE R c == 0) := by
    unfold popS
    by_cases e : Li.popE R c = 0
    · rw [if_pos e, e]; rfl
    · rw [if_neg e]; simp [e]
  rw [hX, hB]
  show Calls _ _ _ _ fun e w' => _ ∧ ∃ vs', Mw T G n p r q vs' H (Li.popR R c) t w' ∧ Mk p r q vs vs' w w'
  unfold mkW mkC at HP
  clear h h1 hX hB
  generalize Li.popX R c = xx at HP ⊢
  generalize Li.popE R c = ee at HP ⊢
  generalize Li.popR R c = RR at HP ⊢
  go_enter Tryz.func153, Tryz.ntmps153
  go_wp2_with fail
  refine HP.out.mono ?_
  rintro e w1 ⟨rfl, h2⟩
  have H2 := Lib.hid h2
  clear h2
  go_wp2_with fail
  go_ret2
  exact ⟨rfl, H2.out⟩

set_option maxHeartbeats 4000000 in
theorem a_clear (h : Mw T G n p r q vs H R t w) (ht : t ≤ 700000) (a : Nat) (s : Nat) (hs : s ≤ 95) (ha : a + s < H.length) (kd c g' m' ow rf : Value) :
    Calls Tryz.prog 134 #[mkV T G n p q o wk hd, .int .i64 a, .agg #[kd, c, g', m', ow, rf, .int .u8 s]] w fun e w' => e = .returned (.tuple #[]) ∧ Mw T G n p r q vs (clearH H a s) R (t + s) w' ∧ Kp [p, r] w w' := by
  have hlt := h.lt
  have hsm := h.sm
  have HB : Hid (∀ w', Kp [] ((mkW w T G n p q o wk hd).alloc (.cells #[kd, c, g', m', ow, rf, .int .u8 s] 59)) w' → Mw T G n p r q vs (clearH H a 0) R (t + 0) w' ∧ Kp [p, r] w w' ∧ w'.heap[w.heap.size]? = some (.cells (mkC T G n p q o wk hd) 130 (0, 0))) :=
    Lib.hid fun w' k => ⟨h.on (((mkW_kp w T G n p q o wk hd).alloc _).trans k), (((mkW_kp w T G n p q o wk hd).alloc _).trans k).mono (by simp), (((Kp.refl [] _).alloc _).trans k).row (by simp) (mkW_row w T G n p q o wk hd)⟩
  have HWR : Hid (∀ (i : Nat) (w' : World), i < s → Mw T G n p r q vs (clearH H a i) R (t + i) w' → Calls Tryz.prog 62 #[.pointer (some ⟨p, 0, none⟩), .int .i64 ((a + 1 + i : Nat) : Int), .int .u64 0] w' fun e w2 => e = .returned (.tuple #[]) ∧ Mw T G n p r q vs (clearH H a (i + 1)) R (t + (i + 1)) w2 ∧ Kp [p, r] w' w2) := by
    refine Lib.hid fun i w' hi hg => ?_
    obtain ⟨t0, ht0, hh⟩ := hg.hw
    refine (wr_word hh (by omega) (a + 1 + i) (by rw [clearH_len]; omega) _ 0 rfl (by decide) (by decide)).mono ?_
    rintro e w2 ⟨rfl, h2, h3⟩
    exact ⟨rfl, hg.turn h3 ⟨t0 + 1, by omega, h2⟩ (by simp [clearH]), h3⟩
  have HN : Hid (a + s < 1000) := Lib.hid (by omega)
  unfold mkW at HB
  have hna := na_write
  clear h ha hsm ht
  go_enter Tryz.func134, Tryz.ntmps134
  go_wp2_with fail
  go_loopg [10] s (fun gg v10 wr => ∃ i : Nat, i + gg = s ∧ v10 = .int .i64 i ∧ Hid (Mw T G n p r q vs (clearH H a i) R (t + i) wr ∧ Kp [p, r] w wr ∧ wr.heap[w.heap.size]? = some (.cells (mkC T G n p q o wk hd) 130 (0, 0))))
  case atStart => exact ⟨0, by omega, rfl, Lib.hid (HB.out _ (Kp.refl _ _))⟩
  case round =>
    obtain ⟨i, hi, rfl, HR⟩ := hrel
    by_cases hlt2 : i < s
    · have c0 : wr.cell? ⟨w.heap.size, 0, none⟩ = some (.iface 31 (.pointer (some ⟨p, 0, none⟩))) := cell_of_row HR.out.2.2 0
      have hn1 := HN.out
      have e1 := IntWalk.i64_in ((a : Int) + 1) (by omega)
      obtain ⟨k, hk⟩ : ∃ k, k = a + 1 + i := ⟨_, rfl⟩
      have e3 : (a : Int) + 1 + i = (k : Int) := by omega
      have e5 := IntWalk.i64_in (k : Int) (by omega)
      have HWi := Lib.hid (HWR.out i wr hlt2 HR.out.1)
      rw [← hk] at HWi
      clear hk hn1
      go_wp2_with fail
      refine HWi.out.mono ?_
      rintro e w2 ⟨rfl, h2, hk2⟩
      have H2 := Lib.hid (And.intro h2 (And.intro (HR.out.2.1.trans hk2) (hk2.row (by simp; omega) HR.out.2.2)))
      clear h2 hk2
      go_wp2_with fail
      go_roundg (s - (i + 1))
      case rel => exact ⟨i + 1, by omega, by go_num, H2⟩
      case measure => omega
    · obtain rfl : i = s := by omega
      go_wp2_with fail
      go_end0
      exact ⟨rfl, HR.out.1, HR.out.2.1⟩
end

end Go.Proofs.YticbnckikkdknaaGreatDoor

namespace Go.Proofs.YticbnckikkdknaaGreatDoor
set_option linter.unusedVariables false
set_option linter.unusedSimpArgs false
set_option maxRecDepth 100000
open Go.RowKit

section
variable {T G n p r q t o : Nat} {wk : Bool} {hd : Value} {vs : Nat → Value} {H : List Int} {R : Nat → List Int} {w : World}
theorem a_owner (b : Nat) (o' : Int) (w : World) (hb : w.heap[b]? = some (.cells (mkC T G n p q o wk hd) 130 (0, 0))) :
    Calls Tryz.prog 171 #[.int .u8 o', .pointer (some ⟨b, 0, none⟩)] w fun e w' => e = .returned (.bool (o' == (o : Int))) ∧ Kp [] w w' := by
  have c0 : w.cell? ⟨b, 4, none⟩ = some (.int .u8 o) := cell_of_row hb 4
  clear hb
  go_enter Tryz.func171, Tryz.ntmps171
  go_wp2_with fail
  go_ret
  exact ⟨rfl, Kp.refl _ _⟩

theorem a_tidy (h : Mw T G n p r q vs H R t w) (ht : t ≤ 600000) :
    Calls Tryz.prog 157 #[mkV T G n p q o wk hd] w fun e w' => e = .returned (.tuple #[]) ∧ Mw T G n p r q vs (tidyH T G n o wk H) R (t + 5 * n) w' ∧ Kp [p, r] w w' := by
  have hlt := h.lt
  have KB := Lib.hid (mkW_kp w T G n p q o wk hd)
  cases wk
  · have HW : Hid (Calls Tryz.prog 170 #[.iface 31 (.pointer (some ⟨p, 0, none⟩)), .agg #[.int .i64 T, .int .i64 G, .int .i64 n], .func (.func 171) #[] #[.pointer (some ⟨w.heap.size, 0, none⟩)]] (mkW w T G n p q o false hd) fun e w' => e = .returned (.tuple #[]) ∧ Mw T G n p r q vs (waitH T G n o H n) R (t + 5 * n) w' ∧ Kp [p, r] w w') := by
      obtain ⟨t0, ht0, hh⟩ := h.hw
      refine Lib.hid ((g_waiting (hh.on (mkW_kp w T G n p q o false hd)) (by omega) o 171 #[.pointer (some ⟨w.heap.size, 0, none⟩)] (fun _ _ => rfl) (fun o' w' k => a_owner w.heap.size o' w' (k.row (by simp; omega) (mkW_row w T G n p q o false hd)))).mono ?_)
      rintro e w' ⟨t', h1, h2, rfl, h3, h4⟩
      have k : Kp [p, r] w w' := ((mkW_kp w T G n p q o false hd).mono (by simp)).trans h4
      exact ⟨rfl, h.turn k ⟨t', by omega, h3⟩ (waitH_len _ _), k⟩
    unfold mkW mkC at HW KB
    show Calls _ _ _ _ fun e w' => _ ∧ Mw T G n p r q vs (waitH T G n o H n) R (t + 5 * n) w' ∧ _
    generalize waitH T G n o H n = H2 at HW ⊢
    clear h ht hlt
    have hmf : ∀ (fn : Fn) (first cap : Array Value) (w : World), (Instr.makeFunc fn first cap).run Tryz.prog w = .ok (.func fn first cap) w := fun _ _ _ _ => rfl
    go_enter Tryz.func157, Tryz.ntmps157
    go_wp2_with fail
    refine HW.out.mono ?_
    rintro e w1 ⟨rfl, h1, h2⟩
    have F := Lib.hid (And.intro h1 h2)
    clear h1 h2
    go_wp2_with fail
    go_end0
    exact ⟨rfl, F.out.1, F.out.2⟩
  · have F := Lib.hid (And.intro ((h.on KB.out).more (show t ≤ t + 5 * n by omega)) KB.out)
    unfold mkW mkC at F KB
    show Calls _ _ _ _ fun e w' => _ ∧ Mw T G n p r q vs H R (t + 5 * n) w' ∧ _
    clear h ht hlt
    go_enter Tryz.func157, Tryz.ntmps157
    go_wp2_with fail
    exact bodyPost_ret (results_none Tryz.results157 _ _ _) rfl ⟨rfl, F.out.1, F.out.2.mono (by simp)⟩

theorem claim_is (H : List Int) (hM : H.getD 0 0 = ((H.getD 0 0).toNat : Nat)) (n run : Nat) (hr : 1 ≤ run ∧ run ≤ 3) : ∃ (a : Nat) (q : Bool) (M' : Nat), Claims (H.getD 0 0).toNat run a q M' ∧ H.set 0 (M' : Int) = (claimH n H run).1 ∧ a ≤ 64 ∧
    ((q = false ∧ (claimH n H run).2 = none) ∨ (q = true ∧ a + run ≤ n ∧ (claimH n H run).2 = some a) ∨ (q = true ∧ ¬ a + run ≤ n ∧ (claimH n H run).2 = none)) := by
  unfold claimH
  obtain ⟨M, hM'⟩ : ∃ M, M = (H.getD 0 0).toNat := ⟨_, rfl⟩
  rw [← hM'] at hM ⊢
  obtain ⟨a, q, M', hc, ha, hq, hm⟩ := frst_claims M run
  cases hf : frst M run with
  | none =>
    rw [hf] at ha hq hm
    have ha' : a = 0 := ha
    have hq' : q = false := hq
    have hm' : M' = M := hm
    rw [ha', hq', hm'] at hc
    refine ⟨0, false, M, by simpa using hc, ?_, by omega, .inl ⟨rfl, rfl⟩⟩
    show H.set 0 (M : Int) = H
    rw [← hM, set_same']
  | some k =>
    rw [hf] at ha hq hm
    have ha' : a = (k : Int) := ha
    have hq' : q = true := hq
    have hm' : M' = Bm.setN M k run false := hm
    rw [ha', hq', hm'] at hc
    refine ⟨k, true, Bm.setN M k run false, hc, rfl, ?_, ?_⟩
    · rcases hc with ⟨k', hk, _, he, _⟩ | ⟨_, _, he, _⟩
      · omega
      · simp at he
    · by_cases hk : k + run ≤ n
      · exact .inr (.inl ⟨rfl, hk, if_pos hk⟩)
      · exact .inr (.inr ⟨rfl, hk, if_neg hk⟩)

theorem a_claim (h : Mw T G n p r q vs H R t w) (ht : t ≤ 600000) (run : Nat) (hr : 1 ≤ run ∧ run ≤ 3) :
    Calls Tryz.prog 156 #[mkV T G n p q o wk hd, .int .i64 run] w fun e w' => e = .returned (.tuple #[.int .i64 (((claimH n H run).2.getD 0 : Nat)), .bool (claimH n H run).2.isSome]) ∧ Mw T G n p r q vs (claimH n H run).1 R (t + 1) w' ∧ Kp [p, r] w w' := by
  have hlt := h.lt
  have hM : H.getD 0 0 = ((H.getD 0 0).toNat : Nat) := by have := (h.word 0).1; omega
  obtain ⟨a, u, M', hc, hH, ha, hways⟩ := claim_is H hM n run hr
  have hfit := h.fit
  have HC : Hid (Calls Tryz.prog 169 #[.iface 31 (.pointer (some ⟨p, 0, none⟩)), .agg #[.int .i64 T, .int .i64 G, .int .i64 n], .int .i64 run] (mkW w T G n p q o wk hd) fun e w' => e = .returned (.tuple #[.int .i64 a, .bool u]) ∧ Mw T G n p r q vs (claimH n H run).1 R (t + 1) w' ∧ Kp [p, r] w w' ∧ w'.heap[w.heap.size]? = some (.cells (mkC T G n p q o wk hd) 130 (0, 0))) := by
    obtain ⟨t0, ht0, hh⟩ := h.hw
    refine Lib.hid ((g_claim_in (hh.on (mkW_kp w T G n p q o wk hd)) (by omega) hM hc (by omega) (by omega)).mono ?_)
    rintro e w' ⟨rfl, h3, h4⟩
    have k : Kp [p, r] w w' := ((mkW_kp w T G n p q o wk hd).mono (by simp)).trans h4
    rw [hH] at h3
    exact ⟨rfl, h.turn k ⟨t0 + 1, by omega, h3⟩ (claimH_len _), k, h4.row (by simp; omega) (mkW_row w T G n p q o wk hd)⟩
  have hB := Lib.hid (fun w => Ly.blocks_is T G n w)
  unfold mkW at HC
  clear h ht hlt hM hc hH
  generalize (claimH n H run).1 = H2 at HC ⊢
  generalize (claimH n H run).2 = res at hways ⊢
  rcases hways with ⟨rfl, rfl⟩ | ⟨rfl, hk, rfl⟩ | ⟨rfl, hk, rfl⟩
  · unfold mkC at HC
    go_enter Tryz.func156, Tryz.ntmps156
    go_wp2_with fail
    refine HC.out.mono ?_
    rintro e w1 ⟨rfl, h1, h2, h3⟩
    have F := Lib.hid (And.intro h1 h2)
    clear h1 h2 h3
    go_wp2_with fail
    go_ret2
    exact ⟨rfl, F.out.1, F.out.2⟩
  all_goals
    have e1 := IntWalk.i64_in ((a : Int) + run) (by omega)
    unfold mkC at HC
    go_enter Tryz.func156, Tryz.ntmps156
    go_wp2_with fail
    refine HC.out.mono ?_
    rintro e w1 ⟨rfl, h1, h2, h3⟩
    have F := Lib.hid (And.intro h1 h2)
    have c1 : w1.cell? ⟨w.heap.size, 1, none⟩ = some (.int .i64 T) := cell_of_row h3 1
    have c2 : w1.cell? ⟨w.heap.size, 2, none⟩ = some (.int .i64 G) := cell_of_row h3 2
    have c3 : w1.cell? ⟨w.heap.size, 3, none⟩ = some (.int .i64 n) := cell_of_row h3 3
    clear h1 h2 h3
    go_wp2_with fail
    refine (hB.out _).mono ?_
    rintro e w2 ⟨rfl, hk2⟩
    have F2 := Lib.hid (And.intro (F.out.1.on hk2) (F.out.2.trans (hk2.mono (by simp))))
    clear hk2 c1 c2 c3
    go_wp2_with fail
    go_ret2
    exact ⟨rfl, F2.out.1, F2.out.2⟩

/-- What Take says of a word, as far as looking for more asks. -/
theorem take_free (x : Int) (h0 : 0 ≤ x) (h1 : x < 18446744073709551616) : ∃ (k c o r s er : Int) (g m : Bool),
    Hid (∀ w, Calls Tryz.prog 14 #[.int .u64 x] w fun e w' => e = .returned (.tuple #[.agg #[.int .u8 k, .int .u8 c, .bool g, .bool m, .int .u8 o, .int .u8 r, .int .u8 s], .int .i64 er]) ∧ Kp [] w w') ∧
    ((er = 3 ∧ frB x = false) ∨ (er = 0 ∧ (k == 0) = false ∧ frB x = false) ∨ (er = 0 ∧ k = 0 ∧ frB x = true)) := by
  cases ht : Wd.takeB x
  · exact ⟨0, 0, 0, 0, 0, 3, false, false, Lib.hid fun w => (Wd.take_none x w h0 h1 ht).mono fun e w' ⟨a, b⟩ => ⟨a, kp_of_below b⟩, .inl ⟨rfl, by simp [frB, ht]⟩⟩
  · refine ⟨_, _, _, _, _, 0, _, _, Lib.hid fun w => (Wd.take_some x w h0 ht).mono fun e w' ⟨a, b⟩ => ⟨a, kp_of_below b⟩, ?_⟩
    by_cases hk : x % 4 = 0
    · exact .inr (.inr ⟨rfl, hk, by simp [frB, ht, hk]⟩)
    · exact .inr (.inl ⟨rfl, by simp [hk], by simp [frB, ht, hk]⟩)

set_option maxHeartbeats 8000000 in
theorem a_look (h : Mw T G n p r q vs H R t w) (ht : t ≤ 600000) (ho : o < 64) (b c : Nat) (hb : b < n) (hc : c < 4) :
    Calls Tryz.prog 166 #[mkV T G n p q o wk hd, .int .i64 b, .int .i64 c] w fun e w' => e = .returned (.tuple #[]) ∧ ∃ vs', Mw T G n p r q vs' (lookS T G n o c b (H, R) (Cl.clC c).toNat).1 (lookS T G n o c b (H, R) (Cl.clC c).toNat).2 (t + 32) w' ∧ Mk p r q vs vs' w w' := by
  have hm : (Cl.clC c).toNat ≤ 16 := by rcases Li.four hc with rfl | rfl | rfl | rfl <;> decide
  have hcl : Cl.clC c = ((Cl.clC c).toNat : Nat) := by rcases Li.four hc with rfl | rfl | rfl | rfl <;> decide
  have hf := h.fit
  have hsm := h.sm
  have HCl := Lib.hid (fun w (tb : Cl.Tab w) => Cl.cells_is w tb c _ rfl)
  have HPf : Hid (∀ i, i < (Cl.clC c).toNat → 1 ≤ pl T G n c b i ∧ (pl T G n c b i : Int) + Cl.wdC c ≤ H.length ∧ pl T G n c b i < H.length) := Lib.hid fun i hi => by
    have := pl_fit (T := T) (G := G) hc hb hi hf.1
    exact this
  have HPl : Hid (∀ (i : Nat) (w' : World), i < (Cl.clC c).toNat → Cl.Tab w' → Calls Tryz.prog 168 #[mkV T G n p q o wk hd, .int .i64 b, .int .i64 c, .int .i64 i] w' fun e w2 => e = .returned (.int .i64 (pl T G n c b i)) ∧ Kp [] w' w2) := Lib.hid fun i w' hi tb => a_place hf.2.1 hf.2.2.1 hf.2.2.2 tb c b i hc hb hi
  rw [hcl] at HCl
  generalize (Cl.clC c).toNat = m at hm HCl HPl HPf ⊢
  have HS : Hid (∀ i s, lookS T G n o c b s (i + 1) = if frB ((lookS T G n o c b s i).1.getD (pl T G n c b i) 0) then ((lookS T G n o c b s i).1.set (pl T G n c b i) (lw o), Li.pushR (lookS T G n o c b s i).2 c (pl T G n c b i)) else lookS T G n o c b s i) := Lib.hid fun i s => rfl
  have HB : Hid (∃ vs', Mw T G n p r q vs' (lookS T G n o c b (H, R) 0).1 (lookS T G n o c b (H, R) 0).2 (t + 2 * 0) (mkW w T G n p q o wk hd) ∧ Mk p r q vs vs' w (mkW w T G n p q o wk hd) ∧ (mkW w T G n p q o wk hd).heap[w.heap.size]? = some (.cells (mkC T G n p q o wk hd) 130 (0, 0))) :=
    Lib.hid ⟨vs, h.on (mkW_kp w T G n p q o wk hd), Mk.of_kp (mkW_kp w T G n p q o wk hd) (by simp), mkW_row w T G n p q o wk hd⟩
  have HL : Hid (∀ i, (lookS T G n o c b (H, R) i).1.length = H.length) := Lib.hid fun i => lookS_len i
  have HT : Hid (Cl.Tab (mkW w T G n p q o wk hd)) := Lib.hid (h.on (mkW_kp w T G n p q o wk hd)).tab
  have HTt := Lib.hid ht
  have hna := na_read
  unfold mkW at HB HT
  unfold mkC at HB HT
  clear h hf hsm hcl ht
  go_enter Tryz.func166, Tryz.ntmps166
  go_wp2_with fail
  refine (HCl.out _ HT.out).mono ?_
  rintro e w1 ⟨rfl, rfl⟩
  go_wp2_with fail
  go_loopg [12] m (fun gg v12 wr => ∃ i : Nat, i + gg = m ∧ v12 = .int .i64 i ∧ Hid (∃ vs', Mw T G n p r q vs' (lookS T G n o c b (H, R) i).1 (lookS T G n o c b (H, R) i).2 (t + 2 * i) wr ∧ Mk p r q vs vs' w wr ∧ wr.heap[w.heap.size]? = some (.cells (mkC T G n p q o wk hd) 130 (0, 0))))
  case atStart => exact ⟨0, by omega, rfl, HB⟩
  case round =>
    obtain ⟨i, hi, rfl, HR⟩ := hrel
    by_cases hlt2 : i < m
    · obtain ⟨vs1, hM, hK, hrow⟩ := HR.out
      have HPl := Lib.hid (fun w' => HPl.out i w' hlt2)
      have hpf := HPf.out i hlt2
      rw [← HL.out i] at hpf
      have hS1 := HS.out i (H, R)
      have HL1 := HL.out i
      generalize lookS T G n o c b (H, R) i = s at hM hpf hS1 HL1
      generalize pl T G n c b i = P at HPl hpf hS1
      obtain ⟨x, hx⟩ : ∃ x, s.1.getD P 0 = x := ⟨_, rfl⟩
      rw [hx] at hS1
      have hx0 := hM.word P
      rw [hx] at hx0
      obtain ⟨xk, xc, xo, xr, xs, er, xg, xm, HTk, hways⟩ := take_free x hx0.1 hx0.2
      have HT1 := Lib.hid hM.tab
      have HM := Lib.hid hM
      have HK := Lib.hid hK
      have HRow := Lib.hid hrow
      have HRd : Hid (∀ w', Kp [] wr w' → Calls Tryz.prog 41 #[.pointer (some ⟨p, 0, none⟩), .int .i64 P] w' fun e w2 => e = .returned (.int .u64 x) ∧ Mw T G n p r q vs1 s.1 s.2 (t + 2 * i + 1) w2 ∧ Kp [p, r] wr w2) := by
        refine Lib.hid fun w' k => ?_
        have h2 := HM.out.on k
        obtain ⟨t0, ht0, hh⟩ := h2.hw
        refine (rd_word hh (by have := HTt.out; omega) P hpf.2.2 P x rfl hx).mono ?_
        rintro e w2 ⟨rfl, h3, h4⟩
        exact ⟨rfl, h2.turn h4 ⟨t0 + 1, by omega, h3⟩ rfl, (k.mono (by simp)).trans h4⟩
      have hplt := hM.lt
      have hz : w.heap.size < wr.heap.size := lt_of_block hrow
      have HNe : Hid (w.heap.size ≠ p ∧ w.heap.size ≠ r) := Lib.hid (by have := hM.apart hrow (by decide) (by decide) (by decide) (by decide); exact ⟨this.1, this.2.1⟩)
      have cc : ∀ {j : Nat} {v : Value}, (mkC T G n p q o wk hd)[j]? = some v → wr.cell? ⟨w.heap.size, j, none⟩ = some v := fun hj => (cell_of_row hrow _).trans hj
      have r0 := cc (j := 0) rfl
      have r1 := cc (j := 1) rfl
      have r2 := cc (j := 2) rfl
      have r3 := cc (j := 3) rfl
      have r4 := cc (j := 4) rfl
      have r5 := cc (j := 5) rfl
      have r6 := cc (j := 6) rfl
      have r7 := cc (j := 7) rfl
      clear cc hx0 hM hK hrow hx hplt
      go_wp2_with fail
      refine (HPl.out _ HT1.out).mono ?_
      rintro e w2 ⟨rfl, hk2⟩
      have K2 := Lib.hid hk2
      have c0 : w2.cell? ⟨w.heap.size, 0, none⟩ = some (.iface 31 (.pointer (some ⟨p, 0, none⟩))) := cell_of_row (hk2.row (by simp) HRow.out) 0
      clear hk2 r0 r1 r2 r3 r4 r5 r6 r7
      go_wp2_with fail
      refine (HRd.out _ K2.out).mono ?_
      rintro e w3 ⟨rfl, h3, hk3⟩
      have M3 := Lib.hid h3
      have K3 := Lib.hid hk3
      clear h3 hk3 c0
      go_wp2_with fail
      refine (HTk.out _).mono ?_
      rintro e w4 ⟨rfl, hk4⟩
      have kA : Kp [] w4 (w4.alloc (.cells #[.int .u8 xk, .int .u8 xc, .bool xg, .bool xm, .int .u8 xo, .int .u8 xr, .int .u8 xs] 59)) := (Kp.refl _ _).alloc _
      have K5' := (K3.out.trans (hk4.mono (by simp))).trans (kA.mono (by simp))
      have row5 := K5'.row (by have := HNe.out; simp; omega) HRow.out
      have F5 := Lib.hid (And.intro ((M3.out.on hk4).on kA) (And.intro (HK.out.trans (Mk.of_kp (q := q) K5' (by simp))) row5))
      have cc : ∀ {j : Nat} {v : Value}, (mkC T G n p q o wk hd)[j]? = some v → (w4.alloc (.cells #[.int .u8 xk, .int .u8 xc, .bool xg, .bool xm, .int .u8 xo, .int .u8 xr, .int .u8 xs] 59)).cell? ⟨w.heap.size, j, none⟩ = some v := fun hj => (cell_of_row row5 _).trans hj
      have r0 := cc (j := 0) rfl
      have r1 := cc (j := 1) rfl
      have r2 := cc (j := 2) rfl
      have r3 := cc (j := 3) rfl
      have r4 := cc (j := 4) rfl
      have r5 := cc (j := 5) rfl
      have r6 := cc (j := 6) rfl
      have r7 := cc (j := 7) rfl
      clear kA K5' row5 cc hk4 M3 K3
      rcases hways with ⟨rfl, hfx⟩ | ⟨rfl, hk0, hfx⟩ | ⟨rfl, rfl, hfx⟩
      · have HE := Lib.hid (hS1.trans (if_neg (by rw [hfx]; simp)))
        clear hS1
        go_wp2_with fail
        go_roundg (m - (i + 1))
        case rel => exact ⟨i + 1, by omega, by go_num, Lib.hid ⟨vs1, by rw [HE.out]; exact F5.out.1.more (by omega), F5.out.2⟩⟩
        case measure => omega
      · have HE := Lib.hid (hS1.trans (if_neg (by rw [hfx]; simp)))
        clear hS1
        go_wp2_with fail
        go_roundg (m - (i + 1))
        case rel => exact ⟨i + 1, by omega, by go_num, Lib.hid ⟨vs1, by rw [HE.out]; exact F5.out.1.more (by omega), F5.out.2⟩⟩
        case measure => omega
      · have HE := Lib.hid (hS1.trans (if_pos hfx))
        have HWl := Lib.hid (a_writeListed (o := o) (wk := wk) (hd := hd) F5.out.1 (by have := HTt.out; omega) ho P hpf.2.2 (P : Int) rfl)
        have HP1 := Lib.hid hpf
        have HCc := Lib.hid hc
        have HLn := Lib.hid HL1
        clear hS1 hpf HL1
        go_wp2_with fail
        refine HWl.out.mono ?_
        rintro e w6 ⟨rfl, h6, hk6⟩
        have row6 := hk6.row (by have := HNe.out; simp; omega) F5.out.2.2
        have F6 := Lib.hid (And.intro h6 (And.intro (F5.out.2.1.trans (Mk.of_kp (q := q) hk6 (by simp))) row6))
        have c5 : w6.cell? ⟨w.heap.size, 5, none⟩ = some (.pointer (some ⟨q, 0, none⟩)) := cell_of_row row6 5
        have HPu := Lib.hid (Li.push_is w6 q vs1 s.2 c P h6.ls (h6.lk.len h6.sm))
        clear h6 hk6 row6 r0 r1 r2 r3 r4 r5 r6 r7
        go_wp2_with fail
        refine HPu.out.mono ?_
        rintro e w7 ⟨rfl, vs2, L7, K7⟩
        have F7 : Hid (∃ vs', Mw T G n p r q vs' (s.1.set P (lw o)) (Li.pushR s.2 c P) (t + 2 * (i + 1)) w7 ∧ Mk p r q vs vs' w w7 ∧ w7.heap[w.heap.size]? = some (.cells (mkC T G n p q o wk hd) 130 (0, 0))) := by
          have hP1 := HP1.out
          refine Lib.hid ⟨vs2, (F6.out.1.list L7 K7 ?_).more (by omega), F6.out.2.1.trans (Mk.of_lk K7), ?_⟩
          · exact F6.out.1.lk.push HCc.out (by omega) (by simpa using hP1.2.1)
          · exact F6.out.1.row (Mk.of_lk (p := p) (r := r) K7) F6.out.2.2 (by decide) (by decide) (by decide) (by decide)
        clear L7 K7 c5
        go_wp2_with fail
        go_roundg (m - (i + 1))
        case rel => exact ⟨i + 1, by omega, by go_num, Lib.hid (by rw [HE.out]; exact F7.out)⟩
        case measure => omega
    · obtain rfl : i = m := by omega
      have HF := Lib.hid (show ∃ vs', Mw T G n p r q vs' (lookS T G n o c b (H, R) i).1 (lookS T G n o c b (H, R) i).2 (t + 32) wr ∧ Mk p r q vs vs' w wr from by
        obtain ⟨vs', h1, h2, _⟩ := HR.out
        exact ⟨vs', h1.more (by omega), h2⟩)
      go_wp2_with fail
      go_end0
      exact ⟨rfl, HF.out⟩
end

end Go.Proofs.YticbnckikkdknaaGreatDoor
