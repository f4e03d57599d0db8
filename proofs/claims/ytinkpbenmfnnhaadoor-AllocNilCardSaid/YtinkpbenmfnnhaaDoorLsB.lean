/- A row of numbers as the walks hold it, and a list of four such rows. Conditions: as each lemma states them. -/
import Derived.Test.YtinkpbenmfnnhaaDoorRows
import Derived.Test.YtinkpbenmfnnhaaDoorKeep
import Derived.Test.YtinkpbenmfnnhaaDoorLsP
import Derived.OneCell
import Derived.Deep.Draws
import Derived.Laws.IdiomCopy
namespace Go.Proofs.YtinkpbenmfnnhaaDoor.Li
set_option linter.unusedVariables false
set_option linter.unusedSimpArgs false
open Go.RowKit

def ints (xs : List Int) : List Value := xs.map (Value.int .i64)
theorem ints_len (xs : List Int) : (ints xs).length = xs.length := by simp [ints]
theorem ints_get (xs : List Int) (i : Nat) (h : i < xs.length) : (ints xs)[i]? = some (.int .i64 (xs.getD i 0)) := by simp [ints, List.getD, h]
theorem ints_snoc (xs : List Int) (z : Int) : ints (xs ++ [z]) = ints xs ++ [.int .i64 z] := by simp [ints]
theorem ints_take (xs : List Int) (i : Nat) : (ints xs).take i = ints (xs.take i) := by simp [ints, List.map_take]

/-- The block that a slice leads to, as a list. -/
def blk (v : Value) : List Nat := v.ownBlock.toList
theorem blk_nil : blk (.slice none 0 0) = [] := rfl
theorem blk_some (g o n c : Nat) : blk (.slice (some ⟨g, o, none⟩) n c) = [g] := rfl

/-- The numbers xs lie at the head of the row to which v leads. -/
def Rw (w : World) (v : Value) (xs : List Int) : Prop :=
  (v = .slice none 0 0 ∧ xs = []) ∨
  ∃ g cap cur, v = .slice (some ⟨g, 0, none⟩) xs.length cap ∧ w.heap[g]? = some (.cells cur 3 (0, 0)) ∧ xs.length ≤ cap ∧ cap ≤ maxLen ∧ cur.size = cap ∧ cur.toList.take xs.length = ints xs

theorem Rw.nil (w : World) : Rw w (.slice none 0 0) [] := .inl ⟨rfl, rfl⟩
theorem Rw.own {w : World} {v : Value} {xs : List Int} (h : Rw w v xs) : w.ownsRow 0 3 1 v xs.length (ints xs) := by
  rcases h with ⟨rfl, rfl⟩ | ⟨g, cap, cur, rfl, hg, h1, h2, h3, h4⟩
  · exact World.ownsRow_nil _ _ _ _
  · exact ⟨by simp [ints], .inr ⟨g, cap, cur, rfl, Nat.zero_le _, hg, h1, h2, by omega, by simpa using h4⟩⟩
theorem Rw.of_own {w : World} {base : Nat} {v : Value} {xs : List Int} (h : w.ownsRow base 3 1 v xs.length (ints xs)) : Rw w v xs := by
  rcases h.2 with ⟨rfl, h0⟩ | ⟨g, cap, cur, rfl, hge, hg, h1, h2, h3, h4⟩
  · exact .inl ⟨rfl, List.eq_nil_of_length_eq_zero h0⟩
  · exact .inr ⟨g, cap, cur, rfl, hg, h1, h2, by omega, by simpa using h4⟩
theorem Rw.keep {w w' : World} {v : Value} {xs : List Int} {S : List Nat} (h : Rw w v xs) (k : Kp S w w') (hS : ∀ g ∈ blk v, g ∉ S) : Rw w' v xs := by
  rcases h with h | ⟨g, cap, cur, rfl, hg, r⟩
  · exact .inl h
  · exact .inr ⟨g, cap, cur, rfl, k.row (hS g (by simp [blk_some])) hg, r⟩
theorem Rw.keep0 {w w' : World} {v : Value} {xs : List Int} (h : Rw w v xs) (k : Kp [] w w') : Rw w' v xs := h.keep k (by simp)
theorem Rw.lt {w : World} {v : Value} {xs : List Int} (h : Rw w v xs) : ∀ g ∈ blk v, g < w.heap.size := by
  rcases h with ⟨rfl, rfl⟩ | ⟨g, cap, cur, rfl, hg, r⟩
  · simp [blk_nil]
  · intro k hk
    rw [blk_some, List.mem_singleton] at hk
    subst hk
    exact lt_of_block hg
/-- What block it is. -/
theorem Rw.block {w : World} {v : Value} {xs : List Int} (h : Rw w v xs) : ∀ g ∈ blk v, ∃ cur, w.heap[g]? = some (.cells cur 3 (0, 0)) := by
  rcases h with ⟨rfl, rfl⟩ | ⟨g, cap, cur, rfl, hg, r⟩
  · simp [blk_nil]
  · intro k hk
    rw [blk_some, List.mem_singleton] at hk
    subst hk
    exact ⟨_, hg⟩
/-- The two forms of a row that has something: where its cells lie. -/
theorem row_cell {w : World} {g : Nat} {cur : Array Value} {xs : List Int} (hg : w.heap[g]? = some (.cells cur 3 (0, 0))) (h4 : cur.toList.take xs.length = ints xs) {i : Nat} (hi : i < xs.length) : w.cell? ⟨g, i, none⟩ = some (.int .i64 (xs.getD i 0)) := by
  rw [cell_of_row hg, ← ints_get xs i hi, ← h4, List.getElem?_take_of_lt hi]; simp
theorem row_set {cur : Array Value} {xs : List Int} (h4 : cur.toList.take xs.length = ints xs) (i : Nat) (z : Int) : (cur.setIfInBounds i (.int .i64 z)).toList.take (xs.set i z).length = ints (xs.set i z) := by
  rw [Array.toList_setIfInBounds, List.take_set, List.length_set, h4]
  simp [ints, List.map_set]

/-- A row cut to its first i. -/
theorem row_cut {cur : Array Value} {xs : List Int} (h4 : cur.toList.take xs.length = ints xs) {i : Nat} (hi : i ≤ xs.length) : cur.toList.take (xs.take i).length = ints (xs.take i) := by
  have : (cur.toList.take xs.length).take i = (ints xs).take i := by rw [h4]
  rw [List.take_take, ints_take, Nat.min_eq_left hi] at this
  rw [List.length_take, Nat.min_eq_left hi]; exact this

/-- Cells that are set from o on. -/
theorem setCells_block (b : Nat) : ∀ (vs : List Value) (o : Nat) (w : World) (cur : Array Value) (t : TypeId), w.heap[b]? = some (.cells cur t (0, 0)) →
    ∃ cur', (w.setCells b o vs).heap[b]? = some (.cells cur' t (0, 0)) ∧ cur'.size = cur.size ∧ ∀ i, i < o → cur'[i]? = cur[i]?
  | [], o, w, cur, t, h => ⟨cur, h, rfl, fun _ _ => rfl⟩
  | v :: r, o, w, cur, t, h => by
    obtain ⟨cur', h1, h2, h3⟩ := setCells_block b r (o + 1) (w.setCell ⟨b, o, none⟩ v) (cur.setIfInBounds o v) t (heap_setCell_same w b o _ _ _ h)
    refine ⟨cur', h1, by simpa using h2, fun i hi => ?_⟩
    rw [h3 i (by omega), Array.getElem?_setIfInBounds_ne (by omega)]
theorem setCells_kp (b : Nat) : ∀ (vs : List Value) (o : Nat) (w : World), Kp [b] w (w.setCells b o vs)
  | [], _, w => Kp.refl _ _
  | v :: r, o, w => ((Kp.refl [b] w).setCell (p := ⟨b, o, none⟩) (.inl (by simp)) v).trans (setCells_kp b r (o + 1) _)
theorem take_same {cur cur' : Array Value} {n o : Nat} (hn : n ≤ o) (h : ∀ i, i < o → cur'[i]? = cur[i]?) : cur'.toList.take n = cur.toList.take n := by
  apply List.ext_getElem?
  intro i
  by_cases hi : i < n
  · rw [List.getElem?_take_of_lt hi, List.getElem?_take_of_lt hi]
    simpa using h i (by omega)
  · rw [List.getElem?_take, List.getElem?_take, if_neg hi, if_neg hi]

theorem kp_row {w w' : World} {v : Value} (h : Kp (blk v) w w') : w.grownBy w' v.ownBlock := ⟨h.os, h.tape, h.output, h.size, fun k hk hn => h.block k hk (by
  intro e
  unfold blk at e
  rw [Option.mem_toList] at e
  exact hn e.symm)⟩
theorem kp_of_row {w w' : World} {v : Value} (h : w.grownBy w' v.ownBlock) : Kp (blk v) w w' := ⟨h.os, h.tape, h.output, h.size, fun k hk hn => h.block k hk (by
  intro e
  apply hn
  unfold blk
  rw [Option.mem_toList]
  exact e.symm)⟩
theorem kp_drewN {S : List Nat} (w : World) (j : Nat) : Kp S w (w.drewN j) := ⟨rfl, rfl, rfl, Nat.le_refl _, fun _ _ _ => rfl⟩

/-- A list at p: the four rows' slices, and what each row holds, the one put last at its end. -/
structure Ls (w : World) (p : Nat) (vs : Nat → Value) (R : Nat → List Int) : Prop where
  hp : w.heap[p]? = some (.cells #[vs 0, vs 1, vs 2, vs 3] 79 (0, 0))
  rw : ∀ c, c < 4 → Rw w (vs c) (R c)
  ap : ∀ c d, c < 4 → d < 4 → c ≠ d → ∀ g ∈ blk (vs c), g ∉ blk (vs d)

/-- The blocks of a list. -/
def Owns (vs : Nat → Value) (g : Nat) : Prop := ∃ c, c < 4 ∧ g ∈ blk (vs c)

def upd (R : Nat → List Int) (c : Nat) (xs : List Int) : Nat → List Int := fun d => if d = c then xs else R d
def updV (vs : Nat → Value) (c : Nat) (v : Value) : Nat → Value := fun d => if d = c then v else vs d
theorem upd_same (R : Nat → List Int) (c : Nat) (xs : List Int) : upd R c xs c = xs := by simp [upd]
theorem upd_ne (R : Nat → List Int) (c d : Nat) (xs : List Int) (h : d ≠ c) : upd R c xs d = R d := by simp [upd, h]
theorem updV_same (R : Nat → Value) (c : Nat) (xs : Value) : updV R c xs c = xs := by simp [updV]
theorem updV_ne (R : Nat → Value) (c d : Nat) (xs : Value) (h : d ≠ c) : updV R c xs d = R d := by simp [updV, h]

section
variable {w w' : World} {p : Nat} {vs : Nat → Value} {R : Nat → List Int}

theorem Ls.lt (h : Ls w p vs R) : p < w.heap.size := lt_of_block h.hp
theorem Ls.olt (h : Ls w p vs R) {g : Nat} (hg : Owns vs g) : g < w.heap.size := by
  obtain ⟨c, hc, hg⟩ := hg
  exact (h.rw c hc).lt g hg
theorem Ls.pne (h : Ls w p vs R) : ¬ Owns vs p := by
  rintro ⟨c, hc, hg⟩
  obtain ⟨cur, hcur⟩ := (h.rw c hc).block p hg
  have := h.hp.symm.trans hcur
  simp at this
theorem Ls.keep {S : List Nat} (h : Ls w p vs R) (k : Kp S w w') (hp : p ∉ S) (hS : ∀ g, Owns vs g → g ∉ S) : Ls w' p vs R :=
  ⟨k.row hp h.hp, fun c hc => (h.rw c hc).keep k fun g hg => hS g ⟨c, hc, hg⟩, h.ap⟩
theorem Ls.keep0 (h : Ls w p vs R) (k : Kp [] w w') : Ls w' p vs R := h.keep k (by simp) (by simp)
theorem four {c : Nat} (h : c < 4) : c = 0 ∨ c = 1 ∨ c = 2 ∨ c = 3 := by omega
theorem Ls.cell (h : Ls w p vs R) {c : Nat} (hc : c < 4) : w.cell? ⟨p, c, none⟩ = some (vs c) := by
  rw [cell_of_row h.hp]
  rcases four hc with rfl | rfl | rfl | rfl <;> rfl
theorem Ls.free (h : Ls w p vs R) (c : Nat) : w.frozen? ⟨p, c, none⟩ = false := free_of_row h.hp c

/-- A row's slice is stored: its own blocks are new, or the row's own; what else has turned is no row's. -/
theorem Ls.storeS (h : Ls w p vs R) {c : Nat} (hc : c < 4) {v : Value} {xs : List Int} {S : List Nat} (hr : Rw w' v xs) (k : Kp S w w') (hS : ∀ x ∈ S, x ≠ p ∧ ∀ d, d < 4 → d ≠ c → x ∉ blk (vs d)) (hb : ∀ g ∈ blk v, g ∈ blk (vs c) ∨ w.heap.size ≤ g) :
    Ls (w'.setCell ⟨p, c, none⟩ v) p (updV vs c v) (upd R c xs) := by
  have hp1 := k.row (fun e => (hS p e).1 rfl) h.hp
  have hpr : ∀ g, (∃ cur, w'.heap[g]? = some (.cells cur 3 (0, 0))) → g ≠ p := by
    rintro g ⟨cur, hg⟩ rfl
    have := hp1.symm.trans hg
    simp at this
  have ks : Kp [p] w' (w'.setCell ⟨p, c, none⟩ v) := (Kp.refl _ _).setCell (.inl (by simp)) _
  have hother : ∀ d, d < 4 → d ≠ c → Rw w' (vs d) (R d) := fun d hd hne => (h.rw d hd).keep k (fun g hg hg' => (hS g hg').2 d hd hne hg)
  refine ⟨?_, ?_, ?_⟩
  · rw [heap_setCell_same _ _ _ _ _ _ hp1]
    rcases four hc with rfl | rfl | rfl | rfl <;> simp [updV]
  · intro d hd
    by_cases e : d = c
    · subst e
      rw [updV_same, upd_same]
      exact hr.keep ks (fun g hg hg' => hpr g (hr.block g hg) (by simpa using hg'))
    · rw [updV_ne _ _ _ _ e, upd_ne _ _ _ _ e]
      exact (hother d hd e).keep ks (fun g hg hg' => hpr g ((hother d hd e).block g hg) (by simpa using hg'))
  · intro a b ha hb' hab g hg
    by_cases e1 : a = c
    · subst e1
      rw [updV_same] at hg
      rw [updV_ne _ _ _ _ (fun e => hab e.symm)]
      rcases hb g hg with q | q
      · exact h.ap a b ha hb' hab g q
      · intro e
        have := (h.rw b hb').lt g e
        omega
    · rw [updV_ne _ _ _ _ e1] at hg
      by_cases e2 : b = c
      · subst e2
        rw [updV_same]
        intro e
        rcases hb g e with q | q
        · exact h.ap a b ha hb' hab g hg q
        · have := (h.rw a ha).lt g hg
          omega
      · rw [updV_ne _ _ _ _ e2]
        exact h.ap a b ha hb' hab g hg
theorem Ls.rowS (h : Ls w p vs R) {c : Nat} (hc : c < 4) : ∀ x ∈ blk (vs c), x ≠ p ∧ ∀ d, d < 4 → d ≠ c → x ∉ blk (vs d) :=
  fun x hx => ⟨fun e => h.pne ⟨c, hc, e ▸ hx⟩, fun d hd hne => h.ap c d hc hd (fun e => hne e.symm) x hx⟩
theorem Ls.store (h : Ls w p vs R) {c : Nat} (hc : c < 4) {v : Value} {xs : List Int} (hr : Rw w' v xs) (k : Kp (blk (vs c)) w w') (hb : ∀ g ∈ blk v, g ∈ blk (vs c) ∨ w.heap.size ≤ g) :
    Ls (w'.setCell ⟨p, c, none⟩ v) p (updV vs c v) (upd R c xs) := h.storeS hc hr k (h.rowS hc) hb
end

/-- What a call on a list may turn: the list itself, and its rows. -/
structure Lk (p : Nat) (vs vs' : Nat → Value) (w w' : World) : Prop where
  os : w'.os = w.os
  tape : w'.tape = w.tape
  output : w'.output = w.output
  size : w.heap.size ≤ w'.heap.size
  block : ∀ k, k < w.heap.size → k ≠ p → ¬ Owns vs k → w'.heap[k]? = w.heap[k]?
  own : ∀ g, Owns vs' g → Owns vs g ∨ w.heap.size ≤ g

theorem Lk.of_kp {p : Nat} {vs : Nat → Value} {w w' : World} (h : Kp [] w w') : Lk p vs vs w w' := ⟨h.os, h.tape, h.output, h.size, fun k hk _ _ => h.block k hk (by simp), fun g hg => .inl hg⟩
theorem Lk.trans {p : Nat} {v1 v2 v3 : Nat → Value} {a b c : World} (h : Lk p v1 v2 a b) (k : Lk p v2 v3 b c) : Lk p v1 v3 a c :=
  ⟨k.os.trans h.os, k.tape.trans h.tape, k.output.trans h.output, Nat.le_trans h.size k.size, fun i hi hp hn => (k.block i (Nat.lt_of_lt_of_le hi h.size) hp (fun e => by
    rcases h.own i e with q | q
    · exact hn q
    · omega)).trans (h.block i hi hp hn), fun g hg => by
    rcases k.own g hg with q | q
    · exact h.own g q
    · exact .inr (Nat.le_trans h.size q)⟩
theorem Lk.row {p : Nat} {v1 v2 : Nat → Value} {w w' : World} (h : Lk p v1 v2 w w') {g : Nat} (hp : g ≠ p) (hn : ¬ Owns v1 g) {o : Obj} (ho : w.heap[g]? = some o) : w'.heap[g]? = some o := (h.block g (lt_of_block ho) hp hn).trans ho
theorem Lk.below {p : Nat} {v1 v2 : Nat → Value} {w w' : World} {B : Nat} (h : Lk p v1 v2 w w') (hB : B ≤ w.heap.size) (hp : B ≤ p) (hS : ∀ g, Owns v1 g → B ≤ g) : Below B w w' :=
  ⟨h.os, h.tape, h.output, h.size, fun k hk => h.block k (Nat.lt_of_lt_of_le hk hB) (by omega) (fun e => by have := hS k e; omega)⟩
/-- A row of the list's turned, and the slice stored. -/
theorem Lk.store {w w' : World} {p : Nat} {vs : Nat → Value} {c : Nat} (hc : c < 4) {v : Value} (k : Kp (blk (vs c)) w w') (hb : ∀ g ∈ blk v, g ∈ blk (vs c) ∨ w.heap.size ≤ g) : Lk p vs (updV vs c v) w (w'.setCell ⟨p, c, none⟩ v) := by
  refine ⟨k.os, k.tape, k.output, by simpa [World.setCell] using k.size, fun i hi hp hn => ?_, ?_⟩
  · rw [heap_setCell_other _ _ _ _ hp]
    exact k.block i hi (fun e => hn ⟨c, hc, e⟩)
  · rintro g ⟨d, hd, hg⟩
    by_cases e : d = c
    · subst e
      rw [updV_same] at hg
      rcases hb g hg with q | q
      · exact .inl ⟨d, hd, q⟩
      · exact .inr q
    · rw [updV_ne _ _ _ _ e] at hg
      exact .inl ⟨d, hd, hg⟩

theorem Lk.step {p : Nat} {vs vs' vs'' : Nat → Value} {w W W' : World} {S : List Nat} (h : Lk p vs vs' w W) (k : Kp S W W') (hS : ∀ x ∈ S, x < w.heap.size → x = p ∨ Owns vs' x) (ho : ∀ g, Owns vs'' g → Owns vs' g ∨ W.heap.size ≤ g) : Lk p vs vs'' w W' :=
  ⟨k.os.trans h.os, k.tape.trans h.tape, k.output.trans h.output, Nat.le_trans h.size k.size, fun i hi hp hn => (k.block i (Nat.lt_of_lt_of_le hi h.size) (fun e => by
    rcases hS i e hi with q | q
    · exact hp q
    · rcases h.own i q with r | r
      · exact hn r
      · omega)).trans (h.block i hi hp hn), fun g hg => by
    rcases ho g hg with q | q
    · exact h.own g q
    · exact .inr (Nat.le_trans h.size q)⟩
theorem owns_upd {vs : Nat → Value} {c : Nat} {v : Value} {g : Nat} (h : Owns (updV vs c v) g) : g ∈ blk v ∨ Owns vs g := by
  obtain ⟨d, hd, hg⟩ := h
  by_cases e : d = c
  · subst e
    rw [updV_same] at hg
    exact .inl hg
  · rw [updV_ne _ _ _ _ e] at hg
    exact .inr ⟨d, hd, hg⟩

end Go.Proofs.YtinkpbenmfnnhaaDoor.Li
