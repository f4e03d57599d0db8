/- Makers: the words of an arena and an owner's list beside each other (Mw), what a call on both may turn (Mk), and plainly what makers do. Plainly what makers do to an arena's words and a list. Conditions: none. Conditions: as each theorem states them. -/
import Derived.Test.YtinkpbenmfnnhaaDoorHpEG
import Derived.Test.YtinkpbenmfnnhaaDoorWordTake
import Derived.Test.YtinkpbenmfnnhaaDoorClsB
import Derived.Test.YtinkpbenmfnnhaaDoorLsQ
namespace Go.Proofs.YtinkpbenmfnnhaaDoor
set_option linter.unusedVariables false
set_option linter.unusedSimpArgs false
open Go.RowKit

/-- Lists of places: each once, each with room for a cell of its class. -/
def Lok (N : Nat) (R : Nat → List Int) : Prop := ∀ c : Nat, c < 4 → (R c).Nodup ∧ ∀ x ∈ R c, 1 ≤ x ∧ x + Cl.wdC c ≤ N

theorem wd_pos {c : Nat} (h : c < 4) : 2 ≤ Cl.wdC c ∧ Cl.wdC c ≤ 9 := by
  rcases Li.four h with rfl | rfl | rfl | rfl <;> decide
theorem nodup_len : ∀ (N : Nat) (l : List Int), l.Nodup → (∀ x ∈ l, 1 ≤ x ∧ x ≤ N) → l.length ≤ N
  | 0, l, _, h => by
    cases l with
    | nil => simp
    | cons a l => have := h a (by simp); omega
  | N + 1, l, hn, h => by
    have h1 := nodup_len N (l.erase ((N + 1 : Nat) : Int)) (hn.erase _) (fun x hx => by
      have hx' := (List.Nodup.mem_erase_iff hn).1 hx
      have := h x hx'.2
      have hne := hx'.1
      omega)
    rw [List.length_erase] at h1
    split at h1 <;> omega
theorem Lok.len {N : Nat} {R : Nat → List Int} (h : Lok N R) (hN : N ≤ 1000) : Li.Len R 1000 := fun c hc => by
  have hw := wd_pos hc
  exact Nat.le_trans (nodup_len N (R c) (h c hc).1 (fun x hx => by have := (h c hc).2 x hx; omega)) hN
theorem Lok.put {N : Nat} {R : Nat → List Int} (h : Lok N R) {c : Nat} (hc : c < 4) {xs : List Int} (h1 : xs.Nodup) (h2 : ∀ x ∈ xs, 1 ≤ x ∧ x + Cl.wdC c ≤ N) : Lok N (Li.upd R c xs) := fun d hd => by
  by_cases e : d = c
  · subst e; rw [Li.upd_same]; exact ⟨h1, h2⟩
  · rw [Li.upd_ne _ _ _ _ e]; exact h d hd
theorem has_of_mem {R : Nat → List Int} {x : Int} {c : Nat} (hc : c < 4) (hx : x ∈ R c) : Li.hasB R x = true := by
  have hi : Li.inR x (R c) = true := by
    simp only [Li.inR, List.any_eq_true]
    exact ⟨x, hx, by simp⟩
  have key : ∀ k, c < k → Li.inK R x k = true := by
    intro k
    induction k with
    | zero => intro h; omega
    | succ k ih =>
      intro h
      by_cases e : k = c
      · subst e; simp only [Li.inK, hi]; simp
      · have := ih (by omega); simp only [Li.inK, this]; simp
  exact key 4 hc
theorem Lok.push {N : Nat} {R : Nat → List Int} (h : Lok N R) {c : Nat} (hc : c < 4) {x : Int} (h1 : 1 ≤ x) (h2 : x + Cl.wdC c ≤ N) : Lok N (Li.pushR R c x) := by
  unfold Li.pushR
  split
  · rename_i he
    have hh : Li.hasB R x = false := by
      unfold Li.pushE at he
      cases hb : Li.hasB R x with
      | false => rfl
      | true =>
        rw [hb] at he
        split at he
        · simp at he
        · split at he <;> simp at he
    rw [Int.toNat_natCast]
    refine h.put hc ?_ ?_
    · rw [List.nodup_append]
      refine ⟨(h c hc).1, by simp, fun a ha b hb => ?_⟩
      rw [List.mem_singleton] at hb
      subst hb
      intro e; subst e
      have := has_of_mem hc ha
      rw [hh] at this
      simp at this
    · intro y hy
      rw [List.mem_append, List.mem_singleton] at hy
      rcases hy with hy | rfl
      · exact (h c hc).2 y hy
      · exact ⟨h1, h2⟩
  · exact h
theorem Lok.pop {N : Nat} {R : Nat → List Int} (h : Lok N R) (c : Int) : Lok N (Li.popR R c) := by
  unfold Li.popR
  split
  · rename_i he
    have hc : c.toNat < 4 := by
      unfold Li.popE at he
      cases hb : Li.badC c with
      | false => obtain ⟨k, rfl, hk⟩ := Li.goodC hb; simpa using hk
      | true => rw [hb] at he; simp at he
    refine h.put hc ((List.dropLast_sublist _).nodup (h _ hc).1) fun x hx => (h _ hc).2 x (List.dropLast_subset _ hx)
  · exact h
/-- What was popped was there. -/
theorem pop_mem {R : Nat → List Int} {c : Nat} (hc : c < 4) (he : Li.popE R c = 0) : Li.popX R c ∈ R c := by
  unfold Li.popX
  rw [if_pos he]
  unfold Li.popE at he
  cases hb : Li.badC c with
  | true => rw [hb] at he; simp at he
  | false =>
    rw [hb] at he
    simp only [Int.toNat_natCast] at he ⊢
    by_cases hn : R c = []
    · rw [if_neg (by simp), if_pos hn] at he; simp at he
    · rw [List.getLastD_eq_getLast?, List.getLast?_eq_some_getLast hn]
      exact List.getLast_mem hn

/-- What makers turn: the arena, the list and its rows. -/
structure Mk (p r q : Nat) (vs vs' : Nat → Value) (w w' : World) : Prop where
  os : w'.os = w.os
  tape : w'.tape = w.tape
  output : w'.output = w.output
  size : w.heap.size ≤ w'.heap.size
  block : ∀ k, k < w.heap.size → k ≠ p → k ≠ r → k ≠ q → ¬ Li.Owns vs k → w'.heap[k]? = w.heap[k]?
  own : ∀ g, Li.Owns vs' g → Li.Owns vs g ∨ w.heap.size ≤ g

section
variable {p r q : Nat} {vs vs' vs'' : Nat → Value} {w w' w'' : World}
theorem Mk.of_kp {S : List Nat} (h : Kp S w w') (hS : ∀ x ∈ S, x = p ∨ x = r) : Mk p r q vs vs w w' :=
  ⟨h.os, h.tape, h.output, h.size, fun k hk h1 h2 _ _ => h.block k hk (fun e => by rcases hS k e with e | e <;> contradiction), fun g hg => .inl hg⟩
theorem Mk.refl (w : World) : Mk p r q vs vs w w := Mk.of_kp (S := []) (Kp.refl _ _) (by simp)
theorem Mk.of_lk (h : Li.Lk q vs vs' w w') : Mk p r q vs vs' w w' :=
  ⟨h.os, h.tape, h.output, h.size, fun k hk _ _ h3 h4 => h.block k hk h3 h4, h.own⟩
theorem Mk.trans (h : Mk p r q vs vs' w w') (k : Mk p r q vs' vs'' w' w'') : Mk p r q vs vs'' w w'' :=
  ⟨k.os.trans h.os, k.tape.trans h.tape, k.output.trans h.output, Nat.le_trans h.size k.size, fun i hi h1 h2 h3 h4 => (k.block i (Nat.lt_of_lt_of_le hi h.size) h1 h2 h3 (fun e => by
    rcases h.own i e with q | q
    · exact h4 q
    · omega)).trans (h.block i hi h1 h2 h3 h4), fun g hg => by
    rcases k.own g hg with q | q
    · exact h.own g q
    · exact .inr (Nat.le_trans h.size q)⟩
/-- A step that turns only what was made since. -/
theorem Mk.fresh {S : List Nat} (h : Mk p r q vs vs' w w') (k : Kp S w' w'') (hS : ∀ x ∈ S, w.heap.size ≤ x) : Mk p r q vs vs' w w'' :=
  ⟨k.os.trans h.os, k.tape.trans h.tape, k.output.trans h.output, Nat.le_trans h.size k.size, fun i hi h1 h2 h3 h4 => (k.block i (Nat.lt_of_lt_of_le hi h.size) (fun e => by have := hS i e; omega)).trans (h.block i hi h1 h2 h3 h4), h.own⟩
theorem Mk.row (h : Mk p r q vs vs' w w') {g : Nat} (h1 : g ≠ p) (h2 : g ≠ r) (h3 : g ≠ q) (h4 : ¬ Li.Owns vs g) {o : Obj} (ho : w.heap[g]? = some o) : w'.heap[g]? = some o := (h.block g (lt_of_block ho) h1 h2 h3 h4).trans ho
end

/-- The arena's words H, the list's rows R. -/
structure Mw (T G n p r q : Nat) (vs : Nat → Value) (H : List Int) (R : Nat → List Int) (t : Nat) (w : World) : Prop where
  hw : ∃ t0, t0 ≤ t ∧ Hw T G n p r H t0 w
  ls : Li.Ls w q vs R
  lk : Lok H.length R
  sm : H.length ≤ 1000
  tab : Cl.Tab w
  gn : 0 ≠ p ∧ 0 ≠ r ∧ 0 ≠ q ∧ ¬ Li.Owns vs 0

section
variable {T G n p r q t : Nat} {vs vs' : Nat → Value} {H H' : List Int} {R R' : Nat → List Int} {w w' : World}
theorem tab_keep {S : List Nat} (h : Cl.Tab w) (k : Kp S w w') (hg : 0 ∉ S) : Cl.Tab w' := ⟨kp_cell k hg h.c0, kp_cell k hg h.c1, kp_cell k hg h.c2, kp_cell k hg h.c3⟩
theorem Mw.types (h : Mw T G n p r q vs H R t w) : ∃ a b c, w.heap[p]? = some (.cells a 74 (0, 0)) ∧ w.heap[r]? = some (.cells b 59 (0, 0)) ∧ w.heap[q]? = some (.cells c 79 (0, 0)) := by
  obtain ⟨_, _, hh⟩ := h.hw
  obtain ⟨_, a⟩ := hh.ar
  exact ⟨_, _, _, a.hp, a.hr, h.ls.hp⟩
theorem owns_type (h : Li.Ls w q vs R) {g : Nat} (hg : Li.Owns vs g) : ∃ cs, w.heap[g]? = some (.cells cs 3 (0, 0)) := by
  obtain ⟨c, hc, hb⟩ := hg
  exact (h.rw c hc).block g hb
/-- A block of another type is none of these. -/
theorem Mw.apart (h : Mw T G n p r q vs H R t w) {b : Nat} {cs : Array Value} {U : TypeId} {fr : Nat × Nat} (hb : w.heap[b]? = some (.cells cs U fr)) (h1 : U ≠ 74) (h2 : U ≠ 59) (h3 : U ≠ 79) (h4 : U ≠ 3) : b ≠ p ∧ b ≠ r ∧ b ≠ q ∧ ¬ Li.Owns vs b := by
  obtain ⟨a1, a2, a3, e1, e2, e3⟩ := h.types
  refine ⟨?_, ?_, ?_, ?_⟩
  · rintro rfl; rw [hb] at e1; simp at e1; exact h1 e1.2.1
  · rintro rfl; rw [hb] at e2; simp at e2; exact h2 e2.2.1
  · rintro rfl; rw [hb] at e3; simp at e3; exact h3 e3.2.1
  · intro ho
    obtain ⟨c, e4⟩ := owns_type h.ls ho
    rw [hb] at e4; simp at e4; exact h4 e4.2.1
theorem Mw.row (h : Mw T G n p r q vs H R t w) (k : Mk p r q vs vs' w w') {b : Nat} {cs : Array Value} {U : TypeId} {fr : Nat × Nat} (hb : w.heap[b]? = some (.cells cs U fr)) (h1 : U ≠ 74) (h2 : U ≠ 59) (h3 : U ≠ 79) (h4 : U ≠ 3) : w'.heap[b]? = some (.cells cs U fr) := by
  obtain ⟨a1, a2, a3, a4⟩ := h.apart hb h1 h2 h3 h4
  exact k.row a1 a2 a3 a4 hb
theorem Mw.ne (h : Mw T G n p r q vs H R t w) : q ≠ p ∧ q ≠ r ∧ ¬ Li.Owns vs p ∧ ¬ Li.Owns vs r := by
  obtain ⟨a1, a2, a3, e1, e2, e3⟩ := h.types
  refine ⟨?_, ?_, ?_, ?_⟩
  · rintro rfl; rw [e1] at e3; simp at e3
  · rintro rfl; rw [e2] at e3; simp at e3
  · intro ho
    obtain ⟨c, e4⟩ := owns_type h.ls ho
    rw [e1] at e4; simp at e4
  · intro ho
    obtain ⟨c, e4⟩ := owns_type h.ls ho
    rw [e2] at e4; simp at e4
theorem Mw.lt (h : Mw T G n p r q vs H R t w) : p < w.heap.size ∧ r < w.heap.size ∧ q < w.heap.size := by
  obtain ⟨_, _, _, e1, e2, e3⟩ := h.types
  exact ⟨lt_of_block e1, lt_of_block e2, lt_of_block e3⟩
/-- The arena's words have turned. -/
theorem Mw.turn (h : Mw T G n p r q vs H R t w) (k : Kp [p, r] w w') {t' : Nat} (hh : ∃ t0, t0 ≤ t' ∧ Hw T G n p r H' t0 w') (hl : H'.length = H.length) : Mw T G n p r q vs H' R t' w' := by
  obtain ⟨n1, n2, n3, n4⟩ := h.ne
  obtain ⟨g1, g2, g3, g4⟩ := h.gn
  exact ⟨hh, h.ls.keep k (by simp; omega) (fun g hg e => by
    simp only [List.mem_cons, List.not_mem_nil, or_false] at e
    rcases e with rfl | rfl
    · exact n3 hg
    · exact n4 hg), hl ▸ h.lk, hl ▸ h.sm, tab_keep h.tab k (by simp; omega), ⟨g1, g2, g3, g4⟩⟩
/-- The list has turned. -/
theorem Mw.list (h : Mw T G n p r q vs H R t w) (L : Li.Ls w' q vs' R') (k : Li.Lk q vs vs' w w') (hl : Lok H.length R') : Mw T G n p r q vs' H R' t w' := by
  obtain ⟨t0, ht0, hh⟩ := h.hw
  obtain ⟨n1, n2, n3, n4⟩ := h.ne
  obtain ⟨g1, g2, g3, g4⟩ := h.gn
  obtain ⟨l, a⟩ := hh.ar
  have hlt : 0 < w.heap.size := World.block_lt_of_cell? _ _ h.tab.c0
  have hc : ∀ {i : Nat} {v : Value}, w.cell? ⟨0, i, none⟩ = some v → w'.cell? ⟨0, i, none⟩ = some v := fun {i v} hv => (World.cell?_of_block (a := ⟨0, i, none⟩) (k.block _ hlt g3 g4)).trans hv
  refine ⟨⟨t0, ht0, ⟨⟨l, ⟨k.row (Ne.symm n1) n3 a.hp, k.row (Ne.symm n2) n4 a.hr⟩⟩, hh.len, hh.top, hh.ok, hh.hT, hh.hG, hh.hn⟩⟩, L, hl, h.sm, ⟨hc h.tab.c0, hc h.tab.c1, hc h.tab.c2, hc h.tab.c3⟩, g1, g2, g3, fun e => ?_⟩
  rcases k.own _ e with q | q
  · exact g4 q
  · omega
theorem Mw.on (h : Mw T G n p r q vs H R t w) (k : Kp [] w w') : Mw T G n p r q vs H R t w' := by
  obtain ⟨t0, ht0, hh⟩ := h.hw
  exact h.turn (k.mono (by simp)) ⟨t0, ht0, hh.on k⟩ rfl
theorem Mw.more (h : Mw T G n p r q vs H R t w) {t' : Nat} (ht : t ≤ t') : Mw T G n p r q vs H R t' w := by
  obtain ⟨t0, ht0, hh⟩ := h.hw
  exact ⟨⟨t0, by omega, hh⟩, h.ls, h.lk, h.sm, h.tab, h.gn⟩
theorem Mw.fit (h : Mw T G n p r q vs H R t w) : 3 + T + G + 33 * n ≤ H.length ∧ T ≤ 64 ∧ G ≤ 8 ∧ n ≤ 64 := by
  obtain ⟨t0, ht0, hh⟩ := h.hw
  exact ⟨hh.len, hh.hT, hh.hG, hh.hn⟩
theorem Mw.word (h : Mw T G n p r q vs H R t w) (k : Nat) : 0 ≤ H.getD k 0 ∧ H.getD k 0 < 18446744073709551616 := by
  obtain ⟨t0, ht0, hh⟩ := h.hw
  exact hh.ok k
end

end Go.Proofs.YtinkpbenmfnnhaaDoor

namespace Go.Proofs.YtinkpbenmfnnhaaDoor
set_option linter.unusedVariables false
set_option linter.unusedSimpArgs false
open Go.RowKit

/-- Where a cell of a block of a class begins; what a Listed one's header is. -/
def pl (T G n c b i : Nat) : Nat := 3 + T + G + n + 32 * b + (Cl.wdC c).toNat * i
def lw (o : Nat) : Int := Wd.wordI 1 0 o 0 0 false false
/-- Is it a Free header? Is it the entry of an owner's blocks of a class? -/
def frB (x : Int) : Bool := Wd.takeB x && decide (x % 4 = 0)
def isE (c o : Nat) (x : Int) : Bool := Tb.eqE (ek x) (ec x) (er x) (eo x) 1 c 0 o

/-- An arena's words, and a list's rows. -/
abbrev Hs := List Int × (Nat → List Int)

def lookS (T G n o c b : Nat) (s : Hs) : Nat → Hs
  | 0 => s
  | i + 1 => if frB ((lookS T G n o c b s i).1.getD (pl T G n c b i) 0) then ((lookS T G n o c b s i).1.set (pl T G n c b i) (lw o), Li.pushR (lookS T G n o c b s i).2 c (pl T G n c b i)) else lookS T G n o c b s i
def foundS (T G n o c : Nat) (s : Hs) : Nat → Hs
  | 0 => s
  | b + 1 => if isE c o ((foundS T G n o c s b).1.getD (3 + T + G + b) 0) then lookS T G n o c b (foundS T G n o c s b) (Cl.clC c).toNat else foundS T G n o c s b
def markS (T G n o c b : Nat) (H : List Int) : Nat → List Int
  | 0 => H
  | i + 1 => (markS T G n o c b H i).set (pl T G n c b i) (lw o)
def pushS (T G n c b m : Nat) (R : Nat → List Int) : Nat → (Nat → List Int)
  | 0 => R
  | i + 1 => Li.pushR (pushS T G n c b m R i) c (pl T G n c b (m - 1 - i))
def clearH (H : List Int) (a : Nat) : Nat → List Int
  | 0 => H
  | i + 1 => (clearH H a i).set (a + 1 + i) 0

/-- The first run that is free, if there is one. -/
def frst (M : Nat) (run : Int) : Option Nat := (List.range 64).find? fun k => Bm.isR M k run true
def claimH (n : Nat) (H : List Int) (run : Nat) : List Int × Option Nat :=
  match frst (H.getD 0 0).toNat run with
  | none => (H, none)
  | some k => (H.set 0 (Bm.setN (H.getD 0 0).toNat k run false : Int), if k + run ≤ n then some k else none)
def tidyH (T G n o : Nat) (wk : Bool) (H : List Int) : List Int := if wk then H else waitH T G n o H n
def popS (s : Hs) (c : Nat) : Hs × Option Int := ((s.1, Li.popR s.2 c), if Li.popE s.2 c = 0 then some (Li.popX s.2 c) else none)
def cutS (T G n o c : Nat) (s : Hs) (b : Nat) : Hs :=
  ((markS T G n o c b s.1 (Cl.clC c).toNat).set (3 + T + G + b) (Tb.wordE 1 c 0 o), pushS T G n c b (Cl.clC c).toNat s.2 (Cl.clC c).toNat)
def carveS (T G n o : Nat) (wk : Bool) (c : Nat) (s : Hs) : Hs × Option Int :=
  match (claimH n (tidyH T G n o wk s.1) 1).2 with
  | none => (((claimH n (tidyH T G n o wk s.1) 1).1, s.2), none)
  | some b => popS (cutS T G n o c ((claimH n (tidyH T G n o wk s.1) 1).1, s.2) b) c
def foundP (T G n o c : Nat) (s : Hs) : Hs × Option Int := popS (foundS T G n o c s n) c
def cellS (T G n o : Nat) (wk : Bool) (c : Nat) (s : Hs) : Hs × Option Int :=
  if (popS s c).2.isSome then popS s c
  else if (foundP T G n o c (popS s c).1).2.isSome then foundP T G n o c (popS s c).1
  else carveS T G n o wk c (foundP T G n o c (popS s c).1).1

theorem frst_claims (M : Nat) (r : Nat) : ∃ a q M', Claims M r a q M' ∧ (a = ((frst M r).getD 0 : Nat)) ∧ q = (frst M r).isSome ∧ M' = (match frst M r with | none => M | some k => Bm.setN M k r false) := by
  rcases first_or_none M r with ⟨k, hk, hf⟩ | h
  · have hfr : frst M r = some k := by
      unfold frst
      rw [List.find?_range_eq_some]
      refine ⟨hf.1, by simpa using hk, fun j hj => by simp [hf.2 j hj]⟩
    exact ⟨k, true, _, .inl ⟨k, hk, hf, rfl, rfl, rfl⟩, by rw [hfr]; rfl, by rw [hfr]; rfl, by rw [hfr]; simp⟩
  · have hfr : frst M r = none := by
      unfold frst
      rw [List.find?_range_eq_none]
      intro j _
      simp [h j]
    exact ⟨0, false, M, .inr ⟨h, rfl, rfl, rfl⟩, by rw [hfr]; rfl, by rw [hfr]; rfl, by rw [hfr]⟩

section
variable {T G n o c b : Nat} {s : Hs} {H : List Int} {N : Nat}
theorem pl_fit (hc : c < 4) (hb : b < n) {i : Nat} (hi : i < (Cl.clC c).toNat) (hN : 3 + T + G + 33 * n ≤ N) : 1 ≤ pl T G n c b i ∧ pl T G n c b i + Cl.wdC c ≤ N ∧ pl T G n c b i < N := by
  unfold pl
  have hd : 32 * b + 32 ≤ 32 * n := by omega
  rcases Li.four hc with rfl | rfl | rfl | rfl
  · have h1 : Cl.wdC (0 : Nat) = 2 := by decide
    have h2 : Cl.clC (0 : Nat) = 16 := by decide
    rw [h1]; rw [h2] at hi; simp at hi ⊢; omega
  · have h1 : Cl.wdC (1 : Nat) = 3 := by decide
    have h2 : Cl.clC (1 : Nat) = 10 := by decide
    rw [h1]; rw [h2] at hi; simp at hi ⊢; omega
  · have h1 : Cl.wdC (2 : Nat) = 5 := by decide
    have h2 : Cl.clC (2 : Nat) = 6 := by decide
    rw [h1]; rw [h2] at hi; simp at hi ⊢; omega
  · have h1 : Cl.wdC (3 : Nat) = 9 := by decide
    have h2 : Cl.clC (3 : Nat) = 3 := by decide
    rw [h1]; rw [h2] at hi; simp at hi ⊢; omega
theorem lookS_len (i : Nat) : (lookS T G n o c b s i).1.length = s.1.length := by
  induction i with
  | zero => rfl
  | succ i ih => unfold lookS; split <;> simp [ih]
theorem foundS_len (i : Nat) : (foundS T G n o c s i).1.length = s.1.length := by
  induction i with
  | zero => rfl
  | succ i ih => unfold foundS; split <;> simp [ih, lookS_len]
theorem markS_len (i : Nat) : (markS T G n o c b H i).length = H.length := by
  induction i with
  | zero => rfl
  | succ i ih => simp [markS, ih]
theorem clearH_len (a i : Nat) : (clearH H a i).length = H.length := by
  induction i with
  | zero => rfl
  | succ i ih => simp [clearH, ih]
theorem claimH_len (run : Nat) : (claimH n H run).1.length = H.length := by
  unfold claimH; split <;> simp
theorem backH_len (b r : Int) : (backH T G n H b r).length = H.length := by
  unfold backH; split <;> simp [zer_len]
theorem waitH_len (o : Int) (i : Nat) : (waitH T G n o H i).length = H.length := by
  induction i with
  | zero => rfl
  | succ i ih => unfold waitH turnH; split <;> simp [ih, backH_len]
theorem tidyH_len (wk : Bool) : (tidyH T G n o wk H).length = H.length := by
  unfold tidyH; split <;> simp [waitH_len]
theorem lookS_ok (hc : c < 4) (hb : b < n) (hN : 3 + T + G + 33 * n ≤ N) (h : Lok N s.2) : ∀ i, i ≤ (Cl.clC c).toNat → Lok N (lookS T G n o c b s i).2
  | 0, _ => h
  | i + 1, hi => by
    have ih := lookS_ok hc hb hN h i (by omega)
    unfold lookS
    have hp := pl_fit (T := T) (G := G) hc hb (i := i) (by omega) hN
    split
    · exact ih.push hc (by omega) hp.2.1
    · exact ih
theorem foundS_ok (hc : c < 4) (hN : 3 + T + G + 33 * n ≤ N) (h : Lok N s.2) : ∀ i, i ≤ n → Lok N (foundS T G n o c s i).2
  | 0, _ => h
  | i + 1, hi => by
    have ih := foundS_ok hc hN h i (by omega)
    unfold foundS
    split
    · exact lookS_ok hc (by omega) hN ih _ (Nat.le_refl _)
    · exact ih
theorem pushS_ok {m : Nat} {R : Nat → List Int} (hc : c < 4) (hb : b < n) (hm : m = (Cl.clC c).toNat) (hN : 3 + T + G + 33 * n ≤ N) (h : Lok N R) : ∀ i, i ≤ m → Lok N (pushS T G n c b m R i)
  | 0, _ => h
  | i + 1, hi => by
    have ih := pushS_ok hc hb hm hN h i (by omega)
    have hp := pl_fit (T := T) (G := G) hc hb (i := m - 1 - i) (by omega) hN
    exact ih.push hc (by omega) hp.2.1
end

end Go.Proofs.YtinkpbenmfnnhaaDoor
