/- Makers, on: several owners' lists over one arena. Makers, on: the law's State of several owners. Makers, on: the walks of the law's State: Set. Makers, on: rows of the law's State, stored into. Makers, on: the law's State of several owners behind a step of one of them. Makers, on: the law's State where an owner's row of places, or of sizes, has turned; where it walks or not. Conditions: as each theorem states them. -/
import Derived.Test.YticbnckikkdknaaGreatDoorPn10
import Derived.Test.YticbnckikkdknaaGreatDoorPn11
namespace Go.Proofs.YticbnckikkdknaaGreatDoor
set_option linter.unusedVariables false
set_option linter.unusedSimpArgs false
set_option maxRecDepth 100000
open Go.RowKit

section
variable {T n p r t t' : Nat} {Sh : List Nat} {q : Nat} {vs vs' : Nat → Value} {H H' : List Int} {R R' : Nat → List Int} {w w' : World}
/-- What a maker may turn, as a list of blocks. -/
def mhS (Sh : List Nat) (p r q : Nat) (vs : Nat → Value) : List Nat := p :: r :: q :: (Sh ++ (Li.blk (vs 0) ++ (Li.blk (vs 1) ++ (Li.blk (vs 2) ++ Li.blk (vs 3)))))
theorem mem_mhS {k : Nat} : k ∈ mhS Sh p r q vs ↔ k = p ∨ k = r ∨ k = q ∨ k ∈ Sh ∨ Li.Owns vs k := by
  unfold mhS Li.Owns
  simp only [List.mem_cons, List.mem_append]
  constructor
  · rintro (h | h | h | h | h | h | h | h)
    · exact .inl h
    · exact .inr (.inl h)
    · exact .inr (.inr (.inl h))
    · exact .inr (.inr (.inr (.inl h)))
    · exact .inr (.inr (.inr (.inr ⟨0, by omega, h⟩)))
    · exact .inr (.inr (.inr (.inr ⟨1, by omega, h⟩)))
    · exact .inr (.inr (.inr (.inr ⟨2, by omega, h⟩)))
    · exact .inr (.inr (.inr (.inr ⟨3, by omega, h⟩)))
  · rintro (h | h | h | h | ⟨c, hc, h⟩)
    · exact .inl h
    · exact .inr (.inl h)
    · exact .inr (.inr (.inl h))
    · exact .inr (.inr (.inr (.inl h)))
    · rcases Li.four hc with rfl | rfl | rfl | rfl
      · exact .inr (.inr (.inr (.inr (.inl h))))
      · exact .inr (.inr (.inr (.inr (.inr (.inl h)))))
      · exact .inr (.inr (.inr (.inr (.inr (.inr (.inl h))))))
      · exact .inr (.inr (.inr (.inr (.inr (.inr (.inr h))))))
theorem Mh.kp (h : Mh Sh p r q vs vs' w w') : Kp (mhS Sh p r q vs) w w' :=
  ⟨h.os, h.tape, h.output, h.size, fun k hk hS => h.block k hk (fun e => hS (mem_mhS.2 (.inl e))) (fun e => hS (mem_mhS.2 (.inr (.inl e)))) (fun e => hS (mem_mhS.2 (.inr (.inr (.inl e))))) (fun e => hS (mem_mhS.2 (.inr (.inr (.inr (.inr e)))))) (fun e => hS (mem_mhS.2 (.inr (.inr (.inr (.inl e))))))⟩
end

/-- Several owners' lists over one arena: each list's blocks are its own. -/
structure Mws (T n p r : Nat) (qs : Nat → Nat) (vss : Nat → Nat → Value) (H : List Int) (Rs : Nat → Nat → List Int) (t : Nat) (w : World) : Prop where
  one : ∀ i, i < T → Mw T 0 n p r (qs i) (vss i) H (Rs i) t w
  qne : ∀ i j, i < T → j < T → i ≠ j → qs i ≠ qs j
  vne : ∀ i j, i < T → j < T → i ≠ j → ∀ g, Li.Owns (vss i) g → ¬ Li.Owns (vss j) g
def updV4 (vss : Nat → Nat → Value) (i : Nat) (vs : Nat → Value) : Nat → Nat → Value := fun j => if j = i then vs else vss j
section
variable {T n p r t t' : Nat} {Sh : List Nat} {qs : Nat → Nat} {vss : Nat → Nat → Value} {vs' : Nat → Value} {H H' : List Int} {Rs : Nat → Nat → List Int} {R' : Nat → List Int} {w w' : World}
theorem updV4_same (i : Nat) : updV4 vss i vs' i = vs' := if_pos rfl
theorem updV4_ne {i j : Nat} (h : j ≠ i) : updV4 vss i vs' j = vss j := if_neg h
theorem Mws.on (h : Mws T n p r qs vss H Rs t w) (k : Kp [] w w') : Mws T n p r qs vss H Rs t w' := ⟨fun i hi => (h.one i hi).on k, h.qne, h.vne⟩
theorem Mws.more (h : Mws T n p r qs vss H Rs t w) (ht : t ≤ t') : Mws T n p r qs vss H Rs t' w := ⟨fun i hi => (h.one i hi).more ht, h.qne, h.vne⟩
/-- Two lists: no block is of both. -/
theorem Mws.apart (h : Mws T n p r qs vss H Rs t w) {i j : Nat} (hi : i < T) (hj : j < T) (hne : j ≠ i) (hS : ∀ b ∈ Sh, Off p r (qs j) (vss j) w b) : qs j ∉ mhS Sh p r (qs i) (vss i) ∧ ∀ g, Li.Owns (vss j) g → g ∉ mhS Sh p r (qs i) (vss i) := by
  have hJ := h.one j hj
  obtain ⟨n1, n2, n3, n4⟩ := hJ.ne
  obtain ⟨a1, a2, a3, e1, e2, e3⟩ := hJ.types
  refine ⟨fun e => ?_, fun g hg e => ?_⟩
  · rcases mem_mhS.1 e with e | e | e | e | e
    · exact n1 e
    · exact n2 e
    · exact h.qne j i hj hi hne e
    · exact (hS _ e).2.2.2.1 rfl
    · obtain ⟨cs, hcs⟩ := owns_type (h.one i hi).ls e
      rw [e3] at hcs
      simp at hcs
  · rcases mem_mhS.1 e with e | e | e | e | e
    · exact n3 (e ▸ hg)
    · exact n4 (e ▸ hg)
    · obtain ⟨cs, hcs⟩ := owns_type hJ.ls hg
      obtain ⟨b1, b2, b3, f1, f2, f3⟩ := (h.one i hi).types
      rw [e, f3] at hcs
      simp at hcs
    · exact (hS _ e).2.2.2.2.1 hg
    · exact h.vne j i hj hi hne g hg e
/-- One of them has made something, or has dropped places. -/
theorem Mws.made (h : Mws T n p r qs vss H Rs t w) {i : Nat} (hi : i < T) (hm : Mw T 0 n p r (qs i) vs' H' R' t' w') (hl : H'.length = H.length) (k : Mh Sh p r (qs i) (vss i) vs' w w') (hS : ∀ j, j < T → ∀ b ∈ Sh, Off p r (qs j) (vss j) w b) :
    Mws T n p r qs (updV4 vss i vs') H' (updO Rs i R') t' w' := by
  refine ⟨fun j hj => ?_, h.qne, fun a b ha hb hab g h1 h2 => ?_⟩
  · by_cases e : j = i
    · subst e; rw [updV4_same, updO_same]; exact hm
    · rw [updV4_ne e, updO_ne e]
      have hJ := h.one j hj
      obtain ⟨h1, h2⟩ := h.apart hi hj e (hS j hj)
      exact ⟨hm.hw, hJ.ls.keep k.kp h1 h2, hl ▸ hJ.lk, hl ▸ hJ.sm, hm.tab, hJ.gn⟩
  · by_cases ea : a = i
    · subst ea
      rw [updV4_same] at h1
      rw [updV4_ne (fun e => hab e.symm)] at h2
      rcases k.own g h1 with z | z
      · exact h.vne a b ha hb hab g z h2
      · have := (h.one b hb).ls.olt h2
        omega
    · rw [updV4_ne ea] at h1
      by_cases eb : b = i
      · subst eb
        rw [updV4_same] at h2
        rcases k.own g h2 with z | z
        · exact h.vne a b ha hb hab g h1 z
        · have := (h.one a ha).ls.olt h1
          omega
      · rw [updV4_ne eb] at h2
        exact h.vne a b ha hb hab g h1 h2
end
end Go.Proofs.YticbnckikkdknaaGreatDoor

namespace Go.Proofs.YticbnckikkdknaaGreatDoor
set_option linter.unusedVariables false
set_option linter.unusedSimpArgs false
set_option maxRecDepth 100000
open Go.RowKit

/-- The values that a State holds: its cells, the lists' rows on both sides, what was made, and sizes. -/
structure Av where
  f : Nat → Value
  vss : Nat → Nat → Value
  us : Nat → Nat → Value
  ms : Nat → Value
  ss : Nat → Value
  db : Nat
  dc : Nat
/-- What a State says. -/
structure As where
  H : List Int
  Rs : Nat → Nat → List Int
  wk : Nat → Bool
  made : Nat → List Int
  size : Nat → List Int
/-- The law's State of T owners: a colour tells whose a block of numbers is: 1 the program's lists', 2 the document's, 3 + 2 i and 4 + 2 i what owner i has made, and its sizes. -/
structure Aw (T n p r sp : Nat) (qs : Nat → Nat) (v : Av) (s : As) (t : Nat) (col : Nat → Nat) (w : World) : Prop where
  st : S13 w sp v.f
  f0 : v.f 0 = .pointer (some ⟨p, 0, none⟩)
  f1 : v.f 1 = .int .i64 T
  f2 : v.f 2 = .int .i64 0
  f3 : v.f 3 = .int .i64 n
  f6 : v.f 6 = .slice (some ⟨v.db, 0, none⟩) (3 + T + 33 * n) v.dc
  f7 : v.f 7 = .int .i64 T
  f8 : v.f 8 = .int .i64 0
  f9 : v.f 9 = .int .i64 n
  fit : Fit T n s.H s.Rs
  mws : Mws T n p r qs v.vss s.H s.Rs t w
  dh : Dh (r + 1) T 0 n v.db v.dc s.H w
  free : Gx.Rw 69 1 0 w (v.f 4) T ((List.range T).map fun i => .pointer (some ⟨qs i, 0, none⟩))
  walks : Gx.Rw 4 1 0 w (v.f 5) T ((List.range T).map fun i => .bool (s.wk i))
  docs : Gx.Rw 72 4 0 w (v.f 10) T ((List.range (4 * T)).map fun k => v.us (k / 4) (k % 4))
  rd : ∀ i, i < T → Li.Rows4 w (v.us i) (s.Rs i)
  mades : Gx.Rw 46 1 0 w (v.f 11) T ((List.range T).map v.ms)
  sizes : Gx.Rw 46 1 0 w (v.f 12) T ((List.range T).map v.ss)
  mr : ∀ i, i < T → Li.Rw w (v.ms i) (s.made i)
  sr : ∀ i, i < T → Li.Rw w (v.ss i) (s.size i)
  two : ∀ g ∈ Gx.blk (v.f 11), g ∉ Gx.blk (v.f 12)
  c1 : ∀ i, i < T → ∀ g, Li.Owns (v.vss i) g → col g = 1
  c2 : ∀ i, i < T → ∀ d, d < 4 → ∀ g ∈ Li.blk (v.us i d), col g = 2
  c3 : ∀ i, i < T → ∀ g ∈ Li.blk (v.ms i), col g = 3 + 2 * i
  c4 : ∀ i, i < T → ∀ g ∈ Li.blk (v.ss i), col g = 4 + 2 * i
  lt : ∀ i, i < T → ∀ d, d < 4 → ∀ g ∈ Li.blk (v.us i d), g < w.heap.size
  spg : sp ≠ 0
  cq : ∀ i, i < T → col (qs i) = 0
  cg : col 0 = 2000
  c0 : ∀ g, g = p ∨ g = r ∨ g = sp ∨ g ∈ Gx.blk (v.f 4) ∨ g ∈ Gx.blk (v.f 5) ∨ g ∈ Gx.blk (v.f 10) ∨ g ∈ Gx.blk (v.f 11) ∨ g ∈ Gx.blk (v.f 12) → col g = 0

section
variable {T n p r sp t t' : Nat} {qs : Nat → Nat} {v : Av} {s : As} {col : Nat → Nat} {w w' : World}
theorem Aw.on (h : Aw T n p r sp qs v s t col w) (k : Kp [] w w') : Aw T n p r sp qs v s t col w' :=
  { h with
    st := h.st.keep k (by simp)
    mws := h.mws.on k
    dh := h.dh.on k
    free := h.free.keep0 k
    walks := h.walks.keep0 k
    docs := h.docs.keep0 k
    rd := fun i hi d hd => (h.rd i hi d hd).keep0 k
    mades := h.mades.keep0 k
    sizes := h.sizes.keep0 k
    mr := fun i hi => (h.mr i hi).keep0 k
    sr := fun i hi => (h.sr i hi).keep0 k
    lt := fun i hi d hd g hg => Nat.lt_of_lt_of_le (h.lt i hi d hd g hg) k.size }
theorem Aw.more (h : Aw T n p r sp qs v s t col w) (ht : t ≤ t') : Aw T n p r sp qs v s t' col w := { h with mws := h.mws.more ht }
theorem Aw.cell (h : Aw T n p r sp qs v s t col w) {i : Nat} (hi : i < 13) : w.cell? ⟨sp, i, none⟩ = some (v.f i) := h.st.cell hi
theorem Aw.lists (h : Aw T n p r sp qs v s t col w) {i : Nat} (hi : i < T) : Li.Lt4 (v.us i) w.heap.size := fun d hd g hg => h.lt i hi d hd g hg
theorem Dh.keepS {Bz T G n b c : Nat} {H : List Int} {S : List Nat} (h : Dh Bz T G n b c H w) (k : Kp S w w') (hb : b ∉ S) : Dh Bz T G n b c H w' :=
  ⟨Gx.Rw.keep h.ww k (fun g hg => by
    rw [Gx.blk_some, List.mem_singleton] at hg
    subst hg
    exact hb), h.len, h.top, h.ok, h.hT, h.hG, h.hn⟩
/-- The document's words lie in no block of the arena's. -/
theorem Aw.dbp (h : Aw T n p r sp qs v s t col w) (hT : 0 < T) : v.db ≠ p ∧ v.db ≠ r ∧ v.db < w.heap.size ∧ v.db ≠ sp := by
  obtain ⟨h1, cur, h2⟩ := Gx.Rw.block h.dh.ww v.db (by rw [Gx.blk_some]; simp)
  obtain ⟨a1, a2, a3, e1, e2, e3⟩ := (h.mws.one 0 hT).types
  refine ⟨fun e => ?_, by omega, lt_of_block h2, fun e => ?_⟩
  · rw [e, e1] at h2; simp at h2
  · have := h.st
    unfold S13 at this
    rw [e, this] at h2
    simp at h2
/-- The State's own block is none of the arena's. -/
theorem Aw.spp (h : Aw T n p r sp qs v s t col w) (hT : 0 < T) : sp ≠ p ∧ sp ≠ r ∧ sp < w.heap.size := by
  obtain ⟨a1, a2, a3, e1, e2, e3⟩ := (h.mws.one 0 hT).types
  have hs := h.st
  unfold S13 at hs
  refine ⟨fun e => ?_, fun e => ?_, lt_of_block hs⟩
  · rw [e, e1] at hs; simp at hs
  · rw [e, e2] at hs; simp at hs
theorem Aw.rowne (h : Aw T n p r sp qs v s t col w) (hT : 0 < T) {U : TypeId} {sz m : Nat} {x : Value} {xs : List Value} (hr : Gx.Rw U sz 0 w x m xs) (h1 : U ≠ 99) (h2 : U ≠ 57) (h3 : U ≠ 44) : ∀ g ∈ Gx.blk x, g ∉ [p, r, sp] := fun g hg e => by
  obtain ⟨_, cur, hc⟩ := Gx.Rw.block hr g hg
  obtain ⟨a1, a2, a3, e1, e2, e3⟩ := (h.mws.one 0 hT).types
  have hs := h.st
  unfold S13 at hs
  simp only [List.mem_cons, List.not_mem_nil, or_false] at e
  rcases e with e | e | e
  · rw [e, e1] at hc; simp at hc; exact h1 hc.2.symm
  · rw [e, e2] at hc; simp at hc; exact h2 hc.2.symm
  · rw [e, hs] at hc; simp at hc; exact h3 hc.2.symm
/-- The words have turned, on both sides, and the State tells where the document's lie. -/
theorem Aw.turned (h : Aw T n p r sp qs v s t col w) (hT : 0 < T) {w1 w2 w3 : World} {H' : List Int} {b' c' : Nat} {f' : Nat → Value} (k : Kp [p, r] w w1) (hh : ∃ t0, t0 ≤ t' ∧ Hw T 0 n p r H' t0 w1) (hl : H'.length = s.H.length) (k2 : Kp [] w1 w2) (hd : Dh (r + 1) T 0 n b' c' H' w2) (hf : Fit T n H' s.Rs) (k3 : Kp [sp] w2 w3) (hs : S13 w3 sp f') (hf' : ∀ j, j ≠ 6 → f' j = v.f j) (hf6 : f' 6 = .slice (some ⟨b', 0, none⟩) (3 + T + 33 * n) c') :
    Aw T n p r sp qs { v with f := f', db := b', dc := c' } { s with H := H' } t' col w3 := by
  have K : Kp [p, r, sp] w w3 := ((k.mono (by simp)).trans (k2.mono (by simp))).trans (k3.mono (by simp))
  have hsp := h.spp hT
  have hcol : ∀ g, col g ≠ 0 → g ∉ [p, r, sp] := fun g hg e => by
    simp only [List.mem_cons, List.not_mem_nil, or_false] at e
    exact hg (h.c0 g (by rcases e with e | e | e <;> simp [e]))
  have hst := h.st
  have hbs : b' ≠ sp := fun e => by
    obtain ⟨_, cur, hc⟩ := Gx.Rw.block hd.ww b' (by rw [Gx.blk_some]; simp)
    have h4 := (k.trans (k2.mono (by simp))).row (by simp; omega) (show w.heap[sp]? = _ from hst)
    rw [e, h4] at hc
    simp at hc
  refine { st := hs, f0 := ?_, f1 := ?_, f2 := ?_, f3 := ?_, f6 := hf6, f7 := ?_, f8 := ?_, f9 := ?_, fit := hf, mws := ⟨fun i hi => ?_, h.mws.qne, h.mws.vne⟩, dh := hd.keepS k3 (by simpa using hbs), free := ?_, walks := ?_, docs := ?_, rd := fun i hi d hd' => (h.rd i hi d hd').keep K fun g hg => hcol g (by rw [h.c2 i hi d hd' g hg]; decide), mades := ?_, sizes := ?_, mr := fun i hi => (h.mr i hi).keep K fun g hg => hcol g (by rw [h.c3 i hi g hg]; omega), sr := fun i hi => (h.sr i hi).keep K fun g hg => hcol g (by rw [h.c4 i hi g hg]; omega), two := ?_, c1 := h.c1, c2 := h.c2, c3 := h.c3, c4 := h.c4, lt := fun i hi d hd' g hg => Nat.lt_of_lt_of_le (h.lt i hi d hd' g hg) K.size, spg := h.spg, cq := h.cq, cg := h.cg, c0 := ?_ }
  · exact (hf' 0 (by decide)).trans h.f0
  · exact (hf' 1 (by decide)).trans h.f1
  · exact (hf' 2 (by decide)).trans h.f2
  · exact (hf' 3 (by decide)).trans h.f3
  · exact (hf' 7 (by decide)).trans h.f7
  · exact (hf' 8 (by decide)).trans h.f8
  · exact (hf' 9 (by decide)).trans h.f9
  · refine (((h.mws.one i hi).turn k hh hl).on k2).told k3 fun b hb => ?_
    simp only [List.mem_singleton] at hb
    subst hb
    have hi1 := h.mws.one i hi
    have h4 := (k.trans (k2.mono (by simp))).row (by simp; omega) (show w.heap[b]? = _ from hst)
    refine ⟨lt_of_block h4, hsp.1, hsp.2.1, fun e => ?_, fun e => ?_, h.spg⟩
    · obtain ⟨a1, a2, a3, e1, e2, e3⟩ := hi1.types
      have hx := hst
      unfold S13 at hx
      rw [e, e3] at hx
      simp at hx
    · have := h.c1 i hi b e
      rw [h.c0 b (by simp)] at this
      cases this
  · show Gx.Rw _ _ _ _ (f' 4) _ _
    rw [hf' 4 (by decide)]
    exact h.free.keep K (h.rowne hT h.free (by decide) (by decide) (by decide))
  · show Gx.Rw _ _ _ _ (f' 5) _ _
    rw [hf' 5 (by decide)]
    exact h.walks.keep K (h.rowne hT h.walks (by decide) (by decide) (by decide))
  · show Gx.Rw _ _ _ _ (f' 10) _ _
    rw [hf' 10 (by decide)]
    exact h.docs.keep K (h.rowne hT h.docs (by decide) (by decide) (by decide))
  · show Gx.Rw _ _ _ _ (f' 11) _ _
    rw [hf' 11 (by decide)]
    exact h.mades.keep K (h.rowne hT h.mades (by decide) (by decide) (by decide))
  · show Gx.Rw _ _ _ _ (f' 12) _ _
    rw [hf' 12 (by decide)]
    exact h.sizes.keep K (h.rowne hT h.sizes (by decide) (by decide) (by decide))
  · show ∀ g ∈ Gx.blk (f' 11), g ∉ Gx.blk (f' 12)
    rw [hf' 11 (by decide), hf' 12 (by decide)]
    exact h.two
  · show ∀ g, g = p ∨ g = r ∨ g = sp ∨ g ∈ Gx.blk (f' 4) ∨ g ∈ Gx.blk (f' 5) ∨ g ∈ Gx.blk (f' 10) ∨ g ∈ Gx.blk (f' 11) ∨ g ∈ Gx.blk (f' 12) → col g = 0
    rw [hf' 4 (by decide), hf' 5 (by decide), hf' 10 (by decide), hf' 11 (by decide), hf' 12 (by decide)]
    exact h.c0
end
end Go.Proofs.YticbnckikkdknaaGreatDoor

namespace Go.Proofs.YticbnckikkdknaaGreatDoor
set_option linter.unusedVariables false
set_option linter.unusedSimpArgs false
set_option maxRecDepth 100000
open Go.RowKit

section
variable {T n p r sp t : Nat} {qs : Nat → Nat} {v : Av} {s : As} {col : Nat → Nat} {w : World}
/-- The State's cells of the document's heap, stored anew. -/
def heapF (f : Nat → Value) (T n b c : Nat) : Nat → Value := fun j => if j = 9 then .int .i64 n else if j = 8 then .int .i64 0 else if j = 7 then .int .i64 T else if j = 6 then .slice (some ⟨b, 0, none⟩) (3 + T + 33 * n) c else f j
theorem Aw.heapF_ne (h : Aw T n p r sp qs v s t col w) (b c : Nat) (j : Nat) (hj : j ≠ 6) : heapF v.f T n b c j = v.f j := by
  unfold heapF
  split
  · rename_i e; rw [e, h.f9]
  · split
    · rename_i e; rw [e, h.f8]
    · split
      · rename_i e; rw [e, h.f7]
      · first
          | rfl
          | rw [if_neg hj]
theorem aw_set (h : Aw T n p r sp qs v s t col w) (hT : 0 < T) (ht : t ≤ 800000) (a : Nat) (ha : a < 3 + T + 33 * n) (x : Int) (h0 : 0 ≤ x) (h1 : x < 18446744073709551616) (hf : Fit T n (s.H.set a x) s.Rs) :
    Calls Tryz.prog 29 #[.pointer (some ⟨sp, 0, none⟩), .int .i64 a, .int .u64 x] w fun e w' => e = .returned (.tuple #[]) ∧ (∃ b c, Aw T n p r sp qs { v with f := heapF v.f T n b c, db := b, dc := c } { s with H := s.H.set a x } (t + 1) col w') ∧ Kp [p, r, sp] w w' := by
  obtain ⟨t0, ht0, hw⟩ := (h.mws.one 0 hT).hw
  have hlen := h.fit.len
  have HWr := Lib.hid (wr_word hw (by omega) a (by omega) a x rfl h0 h1)
  have a0 : w.cell? ⟨sp, 0, none⟩ = some (.pointer (some ⟨p, 0, none⟩)) := (h.cell (by decide)).trans (by rw [h.f0])
  have HA := Lib.hid h
  have HF := Lib.hid hf
  have HX := Lib.hid (And.intro h0 h1)
  have HL := Lib.hid hlen
  have HT := Lib.hid ht0
  clear h hw hlen hf h0 h1 ht0
  go_enter Tryz.func29, Tryz.ntmps29
  go_wp2_with fail
  refine HWr.out.mono ?_
  rintro e w1 ⟨rfl, hh, hk⟩
  have hsp := HA.out.spp hT
  have hdb := HA.out.dbp hT
  have hs1 : S13 w1 sp v.f := HA.out.st.keep hk (by simp; omega)
  have d1 := HA.out.dh.keepS hk (by simp; omega)
  have hwt := d1.with (k := a) (by rw [HL.out]; omega) HX.out.1 HX.out.2
  rw [HL.out] at hwt
  have HWt := Lib.hid hwt
  have b6 : w1.cell? ⟨sp, 6, none⟩ = some (.slice (some ⟨v.db, 0, none⟩) (3 + T + 33 * n) v.dc) := (hs1.cell (by decide)).trans (by rw [HA.out.f6])
  have b7 : w1.cell? ⟨sp, 7, none⟩ = some (.int .i64 T) := (hs1.cell (by decide)).trans (by rw [HA.out.f7])
  have b8 : w1.cell? ⟨sp, 8, none⟩ = some (.int .i64 ((0 : Nat) : Int)) := (hs1.cell (by decide)).trans (by rw [HA.out.f8]; rfl)
  have b9 : w1.cell? ⟨sp, 9, none⟩ = some (.int .i64 n) := (hs1.cell (by decide)).trans (by rw [HA.out.f9])
  have HH := Lib.hid (And.intro hh hk)
  have HS1 := Lib.hid hs1
  clear hh hk hs1 d1 hwt hsp hdb HWr
  go_wp2_with fail
  refine HWt.out.mono ?_
  rintro e w2 ⟨b', c', rfl, hd2, hk2⟩
  have hs2 : S13 w2 sp v.f := HS1.out.keep hk2 (by simp)
  have e6 : w2.cell? ⟨sp, 6, none⟩ = some (.slice (some ⟨v.db, 0, none⟩) (3 + T + 33 * n) v.dc) := (hs2.cell (by decide)).trans (by rw [HA.out.f6])
  have e7 : w2.cell? ⟨sp, 7, none⟩ = some (.int .i64 T) := (hs2.cell (by decide)).trans (by rw [HA.out.f7])
  have e8 : w2.cell? ⟨sp, 8, none⟩ = some (.int .i64 ((0 : Nat) : Int)) := (hs2.cell (by decide)).trans (by rw [HA.out.f8]; rfl)
  have e9 : w2.cell? ⟨sp, 9, none⟩ = some (.int .i64 n) := (hs2.cell (by decide)).trans (by rw [HA.out.f9])
  have g6 := hs2.free 6
  have g7 := hs2.free 7
  have g8 := hs2.free 8
  have g9 := hs2.free 9
  have HS2 := Lib.hid hs2
  have HD2 := Lib.hid (And.intro hd2 hk2)
  clear hs2 hd2 hk2 HWt b6 b7 b8 b9
  go_wp2_with fail
  go_end0
  have hs3 := (((HS2.out.set (i := 6) (by decide) (.slice (some ⟨b', 0, none⟩) (3 + T + 33 * n) c')).set (i := 7) (by decide) (.int .i64 T)).set (i := 8) (by decide) (.int .i64 ((0 : Nat) : Int))).set (i := 9) (by decide) (.int .i64 n)
  have k3 : Kp [sp] w2 ((((w2.setCell ⟨sp, 6, none⟩ (.slice (some ⟨b', 0, none⟩) (3 + T + 33 * n) c')).setCell ⟨sp, 7, none⟩ (.int .i64 T)).setCell ⟨sp, 8, none⟩ (.int .i64 ((0 : Nat) : Int))).setCell ⟨sp, 9, none⟩ (.int .i64 n)) := ((((Kp.refl [sp] w2).setCell (.inl (by simp)) _).setCell (.inl (by simp)) _).setCell (.inl (by simp)) _).setCell (.inl (by simp)) _
  obtain ⟨t1, ht1, hh1⟩ : ∃ t1, t1 ≤ t + 1 ∧ Hw T 0 n p r (s.H.set a x) t1 w1 := ⟨t0 + 1, by have := HT.out; omega, HH.out.1⟩
  exact ⟨rfl, ⟨b', c', HA.out.turned hT HH.out.2 ⟨t1, ht1, hh1⟩ (by simp) HD2.out.2 HD2.out.1 HF.out k3 hs3 (fun j hj => HA.out.heapF_ne b' c' j hj) rfl⟩, ((HH.out.2.mono (by simp)).trans (HD2.out.2.mono (by simp))).trans (k3.mono (by simp))⟩
end
end Go.Proofs.YticbnckikkdknaaGreatDoor

namespace Go.Proofs.YticbnckikkdknaaGreatDoor
set_option linter.unusedVariables false
set_option linter.unusedSimpArgs false
set_option maxRecDepth 100000
open Go.RowKit

theorem range_set {α : Type} (m k : Nat) (F : Nat → α) (x : α) : ((List.range m).map F).set k x = (List.range m).map fun j => if j = k then x else F j := by
  apply List.ext_getElem?
  intro i
  rw [List.getElem?_set]
  simp only [List.length_map, List.length_range, List.getElem?_map]
  by_cases hi : i < m
  · rw [List.getElem?_range hi]
    by_cases e : k = i
    · subst e; simp [hi]
    · rw [if_neg e]; simp [Ne.symm e]
  · have h0 : (List.range m)[i]? = none := List.getElem?_eq_none (by simpa using hi)
    rw [h0]
    by_cases e : k = i
    · subst e; simp [hi]
    · rw [if_neg e]; rfl
/-- A cell of a row is stored. -/
theorem rw_put {U : TypeId} {sz base n g c : Nat} {w : World} {xs : List Value} (h : Gx.Rw U sz base w (.slice (some ⟨g, 0, none⟩) n c) n xs) (k : Nat) (x : Value) : Gx.Rw U sz base (w.setCell ⟨g, k, none⟩ x) (.slice (some ⟨g, 0, none⟩) n c) n (xs.set k x) := by
  refine ⟨by rw [List.length_set]; exact h.own.1, ?_⟩
  rcases h.own.2 with ⟨h0, h1⟩ | ⟨g', c', cur, he, hge, hb, h1, h2, h3, h4⟩
  · simp at h0
  · simp only [Value.slice.injEq, Option.some.injEq, Addr.mk.injEq, and_true, true_and] at he
    obtain ⟨rfl, rfl⟩ := he
    refine .inr ⟨g, c, _, rfl, hge, heap_setCell_same _ _ _ _ _ _ hb, h1, h2, by simpa using h3, ?_⟩
    rw [← h4]
    simp [List.take_set]
theorem map_range_congr {α : Type} {m : Nat} {F G : Nat → α} (h : ∀ j, j < m → F j = G j) : (List.range m).map F = (List.range m).map G := List.map_congr_left fun j hj => h j (List.mem_range.1 hj)
/-- One owner's list, as the document has it, is stored. -/
theorem docs_put {T g c : Nat} {w : World} {us : Nat → Nat → Value} (h : Gx.Rw 72 4 0 w (.slice (some ⟨g, 0, none⟩) T c) T ((List.range (4 * T)).map fun k => us (k / 4) (k % 4))) (i : Nat) (u : Nat → Value) :
    Gx.Rw 72 4 0 ((((w.setCell ⟨g, i * 4, none⟩ (u 0)).setCell ⟨g, i * 4 + 1, none⟩ (u 1)).setCell ⟨g, i * 4 + 2, none⟩ (u 2)).setCell ⟨g, i * 4 + 3, none⟩ (u 3)) (.slice (some ⟨g, 0, none⟩) T c) T ((List.range (4 * T)).map fun k => updV4 us i u (k / 4) (k % 4)) := by
  have h4 := rw_put (rw_put (rw_put (rw_put h (i * 4) (u 0)) (i * 4 + 1) (u 1)) (i * 4 + 2) (u 2)) (i * 4 + 3) (u 3)
  rw [range_set, range_set, range_set, range_set] at h4
  have e : ((List.range (4 * T)).map fun k => updV4 us i u (k / 4) (k % 4)) = (List.range (4 * T)).map fun j => if j = i * 4 + 3 then u 3 else if j = i * 4 + 2 then u 2 else if j = i * 4 + 1 then u 1 else if j = i * 4 then u 0 else us (j / 4) (j % 4) := by
    refine map_range_congr fun j hj => ?_
    unfold updV4
    by_cases e : j / 4 = i
    · rw [if_pos e]
      have hm : j = i * 4 + j % 4 := by omega
      rcases Li.four (Nat.mod_lt j (show 0 < 4 by decide)) with z | z | z | z <;> rw [z] at hm ⊢ <;> (subst hm; simp)
    · rw [if_neg e, if_neg (by omega), if_neg (by omega), if_neg (by omega), if_neg (by omega)]
  rw [e]
  exact h4
end Go.Proofs.YticbnckikkdknaaGreatDoor

namespace Go.Proofs.YticbnckikkdknaaGreatDoor
set_option linter.unusedVariables false
set_option linter.unusedSimpArgs false
set_option maxRecDepth 100000
open Go.RowKit

/-- Colours behind a step: what the program has made, what the document has. -/
def col3 (col : Nat → Nat) (a b c : Nat) : Nat → Nat := fun g => if g < a then col g else if g < b then 1 else if g < c then 2 else 0
/-- The document's list of one owner, as a struct's four values. -/
theorem col3_old {col : Nat → Nat} {a b c g : Nat} (h : g < a) : col3 col a b c g = col g := if_pos h
theorem col3_one {col : Nat → Nat} {a b c g : Nat} (h : a ≤ g) (h2 : g < b) : col3 col a b c g = 1 := by unfold col3; rw [if_neg (by omega), if_pos h2]
theorem col3_two {col : Nat → Nat} {a b c g : Nat} (h0 : a ≤ b) (h : b ≤ g) (h2 : g < c) : col3 col a b c g = 2 := by unfold col3; rw [if_neg (by omega), if_neg (by omega), if_pos h2]

section
variable {T n p r sp t t' : Nat} {qs : Nat → Nat} {v : Av} {s : As} {col col' : Nat → Nat} {w w' w1 w2 w3 : World} {Sh : List Nat}
/-- Colours of blocks that there are. -/
theorem Aw.recol (h : Aw T n p r sp qs v s t col w) (hT : 0 < T) (hc : ∀ g, g < w.heap.size → col' g = col g) : Aw T n p r sp qs v s t col' w := by
  have hsp := h.spp hT
  have hl := (h.mws.one 0 hT).lt
  refine { h with c1 := fun i hi g hg => ?_, c2 := fun i hi d hd g hg => ?_, c3 := fun i hi g hg => ?_, c4 := fun i hi g hg => ?_, cq := fun i hi => ?_, cg := ?_, c0 := fun g hg => ?_ }
  · rw [hc g ((h.mws.one i hi).ls.olt hg)]; exact h.c1 i hi g hg
  · rw [hc g (h.lt i hi d hd g hg)]; exact h.c2 i hi d hd g hg
  · rw [hc g ((h.mr i hi).lt g hg)]; exact h.c3 i hi g hg
  · rw [hc g ((h.sr i hi).lt g hg)]; exact h.c4 i hi g hg
  · rw [hc _ ((h.mws.one i hi).lt.2.2)]; exact h.cq i hi
  · rw [hc _ (World.block_lt_of_cell? _ _ (h.mws.one 0 hT).tab.c0)]; exact h.cg
  · have hlt : g < w.heap.size := by
      rcases hg with e | e | e | e | e | e | e | e
      · subst e; exact hl.1
      · subst e; exact hl.2.1
      · subst e; exact hsp.2.2
      · obtain ⟨_, _, z⟩ := h.free.block g e; exact lt_of_block z
      · obtain ⟨_, _, z⟩ := h.walks.block g e; exact lt_of_block z
      · obtain ⟨_, _, z⟩ := h.docs.block g e; exact lt_of_block z
      · obtain ⟨_, _, z⟩ := h.mades.block g e; exact lt_of_block z
      · obtain ⟨_, _, z⟩ := h.sizes.block g e; exact lt_of_block z
    rw [hc g hlt]; exact h.c0 g hg
theorem Aw.col0_lt (h : Aw T n p r sp qs v s t col w) (hT : 0 < T) {g : Nat} (hg : g = p ∨ g = r ∨ g = sp ∨ g ∈ Gx.blk (v.f 4) ∨ g ∈ Gx.blk (v.f 5) ∨ g ∈ Gx.blk (v.f 10) ∨ g ∈ Gx.blk (v.f 11) ∨ g ∈ Gx.blk (v.f 12)) : g < w.heap.size := by
  have hsp := h.spp hT
  have hl := (h.mws.one 0 hT).lt
  rcases hg with e | e | e | e | e | e | e | e
  · subst e; exact hl.1
  · subst e; exact hl.2.1
  · subst e; exact hsp.2.2
  · obtain ⟨_, _, z⟩ := h.free.block g e; exact lt_of_block z
  · obtain ⟨_, _, z⟩ := h.walks.block g e; exact lt_of_block z
  · obtain ⟨_, _, z⟩ := h.docs.block g e; exact lt_of_block z
  · obtain ⟨_, _, z⟩ := h.mades.block g e; exact lt_of_block z
  · obtain ⟨_, _, z⟩ := h.sizes.block g e; exact lt_of_block z
/-- What a maker turns beside the State: its own box. -/
def Apart (col : Nat → Nat) (w : World) (Sh : List Nat) : Prop := ∀ b ∈ Sh, col b = 1000 ∧ ∃ cs, w.heap[b]? = some (.cells cs 3 (0, 0))
/-- A block of the State, by its colour and its type, is none that a maker turns. -/
theorem Aw.off (h : Aw T n p r sp qs v s t col w) {i : Nat} (hi : i < T) (hS : Apart col w Sh) {g : Nat} (h1 : col g ≠ 1) (h2 : col g ≠ 1000) (hp : g ≠ p) (hr : g ≠ r) (hq : g ≠ qs i) : g ∉ mhS Sh p r (qs i) (v.vss i) := fun e => by
  rcases mem_mhS.1 e with e | e | e | e | e
  · exact hp e
  · exact hr e
  · exact hq e
  · exact h2 (hS g e).1
  · exact h1 (h.c1 i hi g e)
theorem Aw.offK (h : Aw T n p r sp qs v s t col w) {i : Nat} (hi : i < T) (hS : Apart col w Sh) {g : Nat} (h0 : col g ≠ 0) (h1 : col g ≠ 1) (h2 : col g ≠ 1000) : g ∉ mhS Sh p r (qs i) (v.vss i) :=
  h.off hi hS h1 h2 (fun e => h0 (h.c0 g (.inl e))) (fun e => h0 (h.c0 g (.inr (.inl e)))) (fun e => h0 (e ▸ h.cq i hi))
theorem Aw.offT (h : Aw T n p r sp qs v s t col w) (hT : 0 < T) {i : Nat} (hi : i < T) (hS : Apart col w Sh) {U : TypeId} {sz m : Nat} {x : Value} {xs : List Value} (hr : Gx.Rw U sz 0 w x m xs) (h0 : ∀ g ∈ Gx.blk x, col g = 0) (h1 : U ≠ 99) (h2 : U ≠ 57) (h3 : U ≠ 44) (h4 : U ≠ 172) : ∀ g ∈ Gx.blk x, g ∉ mhS Sh p r (qs i) (v.vss i) ∧ g ≠ sp := fun g hg => by
  have ho := h.rowne hT hr h1 h2 h3 g hg
  simp only [List.mem_cons, List.not_mem_nil, or_false, not_or] at ho
  obtain ⟨_, cur, hc⟩ := Gx.Rw.block hr g hg
  obtain ⟨a1, a2, a3, e1, e2, e3⟩ := (h.mws.one i hi).types
  refine ⟨h.off hi hS (by rw [h0 g hg]; decide) (by rw [h0 g hg]; decide) ho.1 ho.2.1 (fun e => ?_), ho.2.2⟩
  rw [e, e3] at hc; simp at hc; exact h4 hc.2.symm
/-- One owner has done something, in the program and in the document. -/
theorem Aw.step (h : Aw T n p r sp qs v s t col w) {i : Nat} (hi : i < T) (hS : Apart col w Sh) {vs' us' : Nat → Value} {H' : List Int} {R' : Nat → List Int}
    (hm : Mw T 0 n p r (qs i) vs' H' R' t' w1) (hl : H'.length = s.H.length) (k1 : Mh Sh p r (qs i) (v.vss i) vs' w w1)
    {b' c' fb fc : Nat} (k2 : Kp [] w1 w2) (hd : Dh (r + 1) T 0 n b' c' H' w2) (hr : Li.Rows4 w2 us' R') (hb : Li.Bl4 (v.us i) us' w1.heap.size w2.heap.size)
    (hfit : Fit T n H' (updO s.Rs i R')) (hfb : v.f 10 = .slice (some ⟨fb, 0, none⟩) T fc) {f' : Nat → Value}
    (k3 : Kp [sp, fb] w2 w3) (hs : S13 w3 sp f') (hf' : ∀ j, j ≠ 6 → f' j = v.f j) (hf6 : f' 6 = .slice (some ⟨b', 0, none⟩) (3 + T + 33 * n) c')
    (hdocs : Gx.Rw 72 4 0 w3 (v.f 10) T ((List.range (4 * T)).map fun k => updV4 v.us i us' (k / 4) (k % 4))) :
    Aw T n p r sp qs { v with f := f', vss := updV4 v.vss i vs', us := updV4 v.us i us', db := b', dc := c' } { s with H := H', Rs := updO s.Rs i R' } t' (col3 col w.heap.size w1.heap.size w2.heap.size) w3 := by
  have hT : 0 < T := by omega
  have hT64 : T ≤ 64 := (h.mws.one i hi).fit.2.1
  have hsp := h.spp hT
  have hz1 := k1.size
  have hz2 := k2.size
  have hz3 := k3.size
  have hfbl : fb ∈ Gx.blk (v.f 10) := by rw [hfb, Gx.blk_some]; simp
  have hfbt : ∃ cur, w.heap[fb]? = some (.cells cur 72 (0, 0)) := (h.docs.block fb hfbl).2
  have hfblt : fb < w.heap.size := by obtain ⟨_, z⟩ := hfbt; exact lt_of_block z
  have hfb0 : col fb = 0 := h.c0 fb (by simp [hfbl])
  have hsp0 : col sp = 0 := h.c0 sp (by simp)
  -- from w to w3, all but what is turned
  have K : Kp (sp :: fb :: mhS Sh p r (qs i) (v.vss i)) w w3 := ((k1.kp.mono fun x hx _ => by simp [hx]).trans (k2.mono (by simp))).trans (k3.mono fun x hx _ => by
    simp only [List.mem_cons, List.not_mem_nil, or_false] at hx
    rcases hx with e | e <;> simp [e])
  have hoff3 : ∀ g, g ∉ mhS Sh p r (qs i) (v.vss i) → g ≠ sp → g ≠ fb → g ∉ sp :: fb :: mhS Sh p r (qs i) (v.vss i) := fun g h1 h2 h3 e => by
    simp only [List.mem_cons] at e
    rcases e with e | e | e
    · exact h2 e
    · exact h3 e
    · exact h1 e
  have hcol : ∀ g, 2 ≤ col g → col g < 1000 → g ∉ sp :: fb :: mhS Sh p r (qs i) (v.vss i) := fun g hg hg2 => hoff3 g (h.offK hi hS (by omega) (by omega) (by omega)) (fun e => by rw [e, hsp0] at hg; omega) (fun e => by rw [e, hfb0] at hg; omega)
  have hrow : ∀ {U : TypeId} {sz m : Nat} {x : Value} {xs : List Value}, Gx.Rw U sz 0 w x m xs → (∀ g ∈ Gx.blk x, col g = 0) → U ≠ 99 → U ≠ 57 → U ≠ 44 → U ≠ 172 → U ≠ 72 → Gx.Rw U sz 0 w3 x m xs := fun hr h0 t1 t2 t3 t4 t5 => hr.keep K fun g hg => by
    have := h.offT hT hi hS hr h0 t1 t2 t3 t4 g hg
    refine hoff3 g this.1 this.2 fun e => ?_
    obtain ⟨_, cur, hc⟩ := Gx.Rw.block hr g hg
    obtain ⟨cur2, hc2⟩ := hfbt
    rw [e, hc2] at hc; simp at hc; exact t5 hc.2.symm
  have hw2 : Mws T n p r qs (updV4 v.vss i vs') H' (updO s.Rs i R') t' w1 := h.mws.made hi hm hl k1 fun j hj b hb => by
    obtain ⟨hc, cs, hcs⟩ := hS b hb
    obtain ⟨a1, a2, a3, e1, e2, e3⟩ := (h.mws.one j hj).types
    refine ⟨lt_of_block hcs, fun e => ?_, fun e => ?_, fun e => ?_, fun e => ?_, fun e => ?_⟩
    · rw [e, e1] at hcs; simp at hcs
    · rw [e, e2] at hcs; simp at hcs
    · rw [e, e3] at hcs; simp at hcs
    · have := h.c1 j hj b e; omega
    · have := h.cg
      rw [← e] at this; omega
  have hlt : ∀ j, j < T → ∀ g, Li.Owns (v.vss j) g → g < w.heap.size := fun j hj g hg => (h.mws.one j hj).ls.olt hg
  refine { st := hs, f0 := ?_, f1 := ?_, f2 := ?_, f3 := ?_, f6 := hf6, f7 := ?_, f8 := ?_, f9 := ?_, fit := hfit, mws := ⟨fun j hj => ?_, hw2.qne, hw2.vne⟩, dh := hd.keepS k3 ?_, free := ?_, walks := ?_, docs := ?_, rd := fun j hj => ?_, mades := ?_, sizes := ?_, mr := fun j hj => (h.mr j hj).keep K fun g hg => hcol g (by rw [h.c3 j hj g hg]; omega) (by rw [h.c3 j hj g hg]; omega), sr := fun j hj => (h.sr j hj).keep K fun g hg => hcol g (by rw [h.c4 j hj g hg]; omega) (by rw [h.c4 j hj g hg]; omega), two := ?_, c1 := fun j hj g hg => ?_, c2 := fun j hj d hd g hg => ?_, c3 := fun j hj g hg => ?_, c4 := fun j hj g hg => ?_, lt := fun j hj d hd g hg => ?_, spg := h.spg, cq := fun j hj => ?_, cg := ?_, c0 := fun g hg => ?_ }
  · exact (hf' 0 (by decide)).trans h.f0
  · exact (hf' 1 (by decide)).trans h.f1
  · exact (hf' 2 (by decide)).trans h.f2
  · exact (hf' 3 (by decide)).trans h.f3
  · exact (hf' 7 (by decide)).trans h.f7
  · exact (hf' 8 (by decide)).trans h.f8
  · exact (hf' 9 (by decide)).trans h.f9
  · have hj1 := hw2.one j hj
    refine (hj1.on k2).told k3 fun b hb => ?_
    simp only [List.mem_cons, List.not_mem_nil, or_false] at hb
    have hbt : ∃ cur U, w.heap[b]? = some (.cells cur U (0, 0)) ∧ (U = 44 ∨ U = 72) := by
      rcases hb with e | e
      · subst e; exact ⟨_, _, h.st, .inl rfl⟩
      · subst e; obtain ⟨cur, z⟩ := hfbt; exact ⟨_, _, z, .inr rfl⟩
    obtain ⟨cur, U, hcu, hU⟩ := hbt
    have hblt := lt_of_block hcu
    have hb0 : col b = 0 := by rcases hb with e | e <;> (subst e; assumption)
    obtain ⟨a1, a2, a3, e1, e2, e3⟩ := (h.mws.one j hj).types
    refine ⟨by omega, fun e => ?_, fun e => ?_, fun e => ?_, fun e => ?_, fun e => ?_⟩
    · rw [e, e1] at hcu; simp at hcu; rcases hU with z | z <;> (rw [z] at hcu; exact absurd hcu.2 (by decide))
    · rw [e, e2] at hcu; simp at hcu; rcases hU with z | z <;> (rw [z] at hcu; exact absurd hcu.2 (by decide))
    · rw [e, e3] at hcu; simp at hcu; rcases hU with z | z <;> (rw [z] at hcu; exact absurd hcu.2 (by decide))
    · by_cases ej : j = i
      · subst ej
        rw [updV4_same] at e
        rcases k1.own b e with z | z
        · have := h.c1 j hj b z; omega
        · omega
      · rw [updV4_ne ej] at e
        have := h.c1 j hj b e; omega
    · have := h.cg
      rw [← e] at this; omega
  · intro e
    obtain ⟨_, cur, hc⟩ := Gx.Rw.block hd.ww b' (by rw [Gx.blk_some]; simp)
    have K2 : Kp (mhS Sh p r (qs i) (v.vss i)) w w2 := k1.kp.trans (k2.mono (by simp))
    simp only [List.mem_cons, List.not_mem_nil, or_false] at e
    rcases e with e | e
    · have hn := h.off hi hS (g := sp) (by omega) (by omega) hsp.1 hsp.2.1 (fun e => by
        have := h.st
        obtain ⟨a1, a2, a3, e1, e2, e3⟩ := (h.mws.one i hi).types
        unfold S13 at this
        rw [e, e3] at this; simp at this)
      have h4 := K2.row hn (show w.heap[sp]? = _ from h.st)
      rw [e, h4] at hc; simp at hc
    · obtain ⟨cur2, hc2⟩ := hfbt
      have hn := (h.offT hT hi hS h.docs (fun g hg => h.c0 g (by simp [hg])) (by decide) (by decide) (by decide) (by decide) fb hfbl).1
      have h4 := K2.row hn hc2
      rw [e, h4] at hc; simp at hc
  · show Gx.Rw _ _ _ _ (f' 4) _ _
    rw [hf' 4 (by decide)]
    exact hrow h.free (fun g hg => h.c0 g (by simp [hg])) (by decide) (by decide) (by decide) (by decide) (by decide)
  · show Gx.Rw _ _ _ _ (f' 5) _ _
    rw [hf' 5 (by decide)]
    exact hrow h.walks (fun g hg => h.c0 g (by simp [hg])) (by decide) (by decide) (by decide) (by decide) (by decide)
  · show Gx.Rw _ _ _ _ (f' 10) _ _
    rw [hf' 10 (by decide)]
    exact hdocs
  · show Li.Rows4 w3 (updV4 v.us i us' j) (updO s.Rs i R' j)
    by_cases ej : j = i
    · subst ej
      rw [updV4_same, updO_same]
      refine fun d hd' => (hr d hd').keep k3 fun g hg e => ?_
      simp only [List.mem_cons, List.not_mem_nil, or_false] at e
      rcases hb d hd' g hg with z | z
      · have := h.c2 j hj d hd' g z
        rcases e with e | e <;> (subst e; omega)
      · rcases e with e | e <;> (subst e; omega)
    · rw [updV4_ne ej, updO_ne ej]
      exact fun d hd' => (h.rd j hj d hd').keep K fun g hg => hcol g (by rw [h.c2 j hj d hd' g hg]; omega) (by rw [h.c2 j hj d hd' g hg]; omega)
  · show Gx.Rw _ _ _ _ (f' 11) _ _
    rw [hf' 11 (by decide)]
    exact hrow h.mades (fun g hg => h.c0 g (by simp [hg])) (by decide) (by decide) (by decide) (by decide) (by decide)
  · show Gx.Rw _ _ _ _ (f' 12) _ _
    rw [hf' 12 (by decide)]
    exact hrow h.sizes (fun g hg => h.c0 g (by simp [hg])) (by decide) (by decide) (by decide) (by decide) (by decide)
  · show ∀ g ∈ Gx.blk (f' 11), g ∉ Gx.blk (f' 12)
    rw [hf' 11 (by decide), hf' 12 (by decide)]
    exact h.two
  · by_cases ej : j = i
    · subst ej
      have hg' : Li.Owns vs' g := by simpa [updV4_same] using hg
      rcases k1.own g hg' with z | z
      · rw [col3_old (hlt j hj g z)]; exact h.c1 j hj g z
      · exact col3_one z (hm.ls.olt hg')
    · have hg' : Li.Owns (v.vss j) g := by simpa [updV4_ne ej] using hg
      rw [col3_old (hlt j hj g hg')]; exact h.c1 j hj g hg'
  · by_cases ej : j = i
    · subst ej
      have hg' : g ∈ Li.blk (us' d) := by simpa [updV4_same] using hg
      rcases hb d hd g hg' with z | z
      · rw [col3_old (h.lt j hj d hd g z)]; exact h.c2 j hj d hd g z
      · exact col3_two hz1 z.1 z.2
    · have hg' : g ∈ Li.blk (v.us j d) := by simpa [updV4_ne ej] using hg
      rw [col3_old (h.lt j hj d hd g hg')]; exact h.c2 j hj d hd g hg'
  · rw [col3_old ((h.mr j hj).lt g hg)]; exact h.c3 j hj g hg
  · rw [col3_old ((h.sr j hj).lt g hg)]; exact h.c4 j hj g hg
  · by_cases ej : j = i
    · subst ej
      have hg' : g ∈ Li.blk (us' d) := by simpa [updV4_same] using hg
      rcases hb d hd g hg' with z | z
      · have := h.lt j hj d hd g z; omega
      · omega
    · have hg' : g ∈ Li.blk (v.us j d) := by simpa [updV4_ne ej] using hg
      have := h.lt j hj d hd g hg'; omega
  · rw [col3_old ((h.mws.one j hj).lt.2.2)]; exact h.cq j hj
  · rw [col3_old (World.block_lt_of_cell? _ _ (h.mws.one 0 hT).tab.c0)]; exact h.cg
  · have hg' : g = p ∨ g = r ∨ g = sp ∨ g ∈ Gx.blk (v.f 4) ∨ g ∈ Gx.blk (v.f 5) ∨ g ∈ Gx.blk (v.f 10) ∨ g ∈ Gx.blk (v.f 11) ∨ g ∈ Gx.blk (v.f 12) := by
      have hg2 : g = p ∨ g = r ∨ g = sp ∨ g ∈ Gx.blk (f' 4) ∨ g ∈ Gx.blk (f' 5) ∨ g ∈ Gx.blk (f' 10) ∨ g ∈ Gx.blk (f' 11) ∨ g ∈ Gx.blk (f' 12) := hg
      rw [hf' 4 (by decide), hf' 5 (by decide), hf' 10 (by decide), hf' 11 (by decide), hf' 12 (by decide)] at hg2
      exact hg2
    rw [col3_old (h.col0_lt hT hg')]; exact h.c0 g hg'
end
end Go.Proofs.YticbnckikkdknaaGreatDoor

namespace Go.Proofs.YticbnckikkdknaaGreatDoor
set_option linter.unusedVariables false
set_option linter.unusedSimpArgs false
set_option maxRecDepth 100000
open Go.RowKit

def upd1 {α : Type} (f : Nat → α) (i : Nat) (x : α) : Nat → α := fun j => if j = i then x else f j
theorem upd1_same {α : Type} {f : Nat → α} {i : Nat} {x : α} : upd1 f i x i = x := if_pos rfl
theorem upd1_ne {α : Type} {f : Nat → α} {i j : Nat} {x : α} (h : j ≠ i) : upd1 f i x j = f j := if_neg h
section
variable {T n p r sp t t' : Nat} {qs : Nat → Nat} {v : Av} {s : As} {col col' : Nat → Nat} {w w' w1 w2 w3 : World} {Sh : List Nat}
/-- A block of the State, none of a list's, is off all makers' blocks. -/
theorem Aw.off_of (h : Aw T n p r sp qs v s t col w) {j : Nat} (hj : j < T) {g : Nat} {cur : Array Value} {U : TypeId} (hg : w.heap[g]? = some (.cells cur U (0, 0))) (h1 : U ≠ 99) (h2 : U ≠ 57) (h3 : U ≠ 172) (hc1 : col g ≠ 1) (hc2 : col g ≠ 2000) : Off p r (qs j) (v.vss j) w g := by
  obtain ⟨a1, a2, a3, e1, e2, e3⟩ := (h.mws.one j hj).types
  refine ⟨lt_of_block hg, fun e => ?_, fun e => ?_, fun e => ?_, fun e => hc1 (h.c1 j hj g e), fun e => hc2 (e ▸ h.cg)⟩
  · rw [e, e1] at hg; simp at hg; exact h1 hg.2.symm
  · rw [e, e2] at hg; simp at hg; exact h2 hg.2.symm
  · rw [e, e3] at hg; simp at hg; exact h3 hg.2.symm
/-- Some blocks of the State have turned, of other types and colours: what stands. -/
theorem Aw.still (h : Aw T n p r sp qs v s t col w) (hT : 0 < T) {S : List Nat} (k : Kp S w w1)
    (hS : ∀ g ∈ S, ∃ cur U, w.heap[g]? = some (.cells cur U (0, 0)) ∧ U ≠ 99 ∧ U ≠ 57 ∧ U ≠ 172 ∧ U ≠ 44 ∧ col g ≠ 1 ∧ col g ≠ 2 ∧ col g ≠ 2000) :
    S13 w1 sp v.f ∧ Mws T n p r qs v.vss s.H s.Rs t w1 ∧ Dh (r + 1) T 0 n v.db v.dc s.H w1 ∧ (∀ i, i < T → Li.Rows4 w1 (v.us i) (s.Rs i)) := by
  refine ⟨h.st.keep k fun e => ?_, ⟨fun j hj => (h.mws.one j hj).told k fun g hg => ?_, h.mws.qne, h.mws.vne⟩, h.dh.keepS k fun e => ?_, fun i hi d hd => (h.rd i hi d hd).keep k fun g hg e => ?_⟩
  · obtain ⟨cur, U, hc, _, _, _, h4, _⟩ := hS sp e
    have hst := h.st
    unfold S13 at hst
    rw [hst] at hc; simp at hc; exact h4 hc.2.symm
  · obtain ⟨cur, U, hc, h1, h2, h3, h4, h5, h6, h7⟩ := hS g hg
    exact h.off_of hj hc h1 h2 h3 h5 h7
  · obtain ⟨cur, U, hc, h1, h2, h3, h4, h5, h6, h7⟩ := hS v.db e
    obtain ⟨_, cur2, hc2⟩ := Gx.Rw.block h.dh.ww v.db (by rw [Gx.blk_some]; simp)
    rw [hc2] at hc; simp at hc; exact h2 hc.2.symm
  · obtain ⟨cur, U, hc, h1, h2, h3, h4, h5, h6, h7⟩ := hS g e
    exact h6 (h.c2 i hi d hd g hg)

/-- An owner's row of places has turned. -/
theorem Aw.made_up (h : Aw T n p r sp qs v s t col w) {i : Nat} (hi : i < T) {m' : Value} {xs' : List Int} {mb mc : Nat} (hmb : v.f 11 = .slice (some ⟨mb, 0, none⟩) T mc)
    (k : Kp (Li.blk (v.ms i)) w w1) (hr : Li.Rw w1 m' xs') (hb : ∀ g ∈ Li.blk m', g ∈ Li.blk (v.ms i) ∨ w.heap.size ≤ g) :
    Aw T n p r sp qs { v with ms := upd1 v.ms i m' } { s with made := upd1 s.made i xs' } t (fun g => if g < w.heap.size then col g else 3 + 2 * i) (w1.setCell ⟨mb, i, none⟩ m') := by
  have hT : 0 < T := by omega
  have hT64 : T ≤ 64 := (h.mws.one i hi).fit.2.1
  have hmbl : mb ∈ Gx.blk (v.f 11) := by rw [hmb, Gx.blk_some]; simp
  obtain ⟨_, mcur, hmc⟩ := h.mades.block mb hmbl
  have hmlt := lt_of_block hmc
  have hm0 : col mb = 0 := h.c0 mb (by simp [hmbl])
  have hz := k.size
  have k2 : Kp [mb] w1 (w1.setCell ⟨mb, i, none⟩ m') := (Kp.refl _ _).setCell (.inl (by simp)) _
  have K : Kp (mb :: Li.blk (v.ms i)) w (w1.setCell ⟨mb, i, none⟩ m') := (k.mono fun x hx _ => by simp [hx]).trans (k2.mono fun x hx _ => by simp at hx; simp [hx])
  have hS : ∀ g ∈ mb :: Li.blk (v.ms i), ∃ cur U, w.heap[g]? = some (.cells cur U (0, 0)) ∧ U ≠ 99 ∧ U ≠ 57 ∧ U ≠ 172 ∧ U ≠ 44 ∧ col g ≠ 1 ∧ col g ≠ 2 ∧ col g ≠ 2000 := fun g hg => by
    rw [List.mem_cons] at hg
    rcases hg with e | e
    · subst e; exact ⟨_, _, hmc, by decide, by decide, by decide, by decide, by omega, by omega, by omega⟩
    · obtain ⟨cur, hc⟩ := (h.mr i hi).block g e
      have := h.c3 i hi g e
      exact ⟨_, _, hc, by decide, by decide, by decide, by decide, by omega, by omega, by omega⟩
  have hrow : ∀ {U : TypeId} {sz m : Nat} {x : Value} {xs : List Value}, Gx.Rw U sz 0 w x m xs → (∀ g ∈ Gx.blk x, col g = 0) → (∀ g ∈ Gx.blk x, g ≠ mb) → Gx.Rw U sz 0 (w1.setCell ⟨mb, i, none⟩ m') x m xs := fun hr h0 h1 => hr.keep K fun g hg e => by
    rw [List.mem_cons] at e
    rcases e with e | e
    · exact h1 g hg e
    · have := h.c3 i hi g e; have := h0 g hg; omega
  have hty : ∀ {U : TypeId} {sz m : Nat} {x : Value} {xs : List Value}, Gx.Rw U sz 0 w x m xs → U ≠ 46 → ∀ g ∈ Gx.blk x, g ≠ mb := fun hr hU g hg e => by
    obtain ⟨_, cur, hc⟩ := Gx.Rw.block hr g hg
    rw [e, hmc] at hc; simp at hc; exact hU hc.2.symm
  have hcol : ∀ g, col g ≠ 0 → col g ≠ 3 + 2 * i → g ∉ mb :: Li.blk (v.ms i) := fun g h0 h1 e => by
    rw [List.mem_cons] at e
    rcases e with e | e
    · rw [e, hm0] at h0; exact h0 rfl
    · exact h1 (h.c3 i hi g e)
  obtain ⟨s1, s2, s3, s4⟩ := h.still hT K hS
  have ol : ∀ {g : Nat}, g < w.heap.size → (if g < w.heap.size then col g else 3 + 2 * i) = col g := fun h => if_pos h
  refine { h with st := s1, mws := s2, dh := s3, rd := s4, free := ?_, walks := ?_, docs := ?_, mades := ?_, sizes := ?_, mr := fun j hj => ?_, sr := fun j hj => ?_, c1 := fun j hj g hg => ?_, c2 := fun j hj d hd g hg => ?_, c3 := fun j hj g hg => ?_, c4 := fun j hj g hg => ?_, lt := fun j hj d hd g hg => Nat.lt_of_lt_of_le (h.lt j hj d hd g hg) K.size, cq := fun j hj => ?_, cg := ?_, c0 := fun g hg => ?_ }
  · exact hrow h.free (fun g hg => h.c0 g (by simp [hg])) (hty h.free (by decide))
  · exact hrow h.walks (fun g hg => h.c0 g (by simp [hg])) (hty h.walks (by decide))
  · exact hrow h.docs (fun g hg => h.c0 g (by simp [hg])) (hty h.docs (by decide))
  · show Gx.Rw _ _ _ _ _ _ ((List.range T).map (upd1 v.ms i m'))
    have h1 := h.mades.keep k fun g hg e => by
      have := h.c3 i hi g e; have := h.c0 g (by simp [hg]); omega
    rw [hmb] at h1 ⊢
    have h2 := rw_put h1 i m'
    rw [range_set] at h2
    exact h2
  · exact hrow h.sizes (fun g hg => h.c0 g (by simp [hg])) (fun g hg e => h.two mb hmbl (e ▸ hg))
  · show Li.Rw _ (upd1 v.ms i m' j) (upd1 s.made i xs' j)
    by_cases e : j = i
    · subst e
      rw [upd1_same, upd1_same]
      refine hr.keep k2 fun g hg e => ?_
      rw [List.mem_singleton] at e
      rcases hb g hg with z | z
      · have := h.c3 j hj g z; rw [e, hm0] at this; omega
      · omega
    · rw [upd1_ne e, upd1_ne e]
      exact (h.mr j hj).keep K fun g hg => hcol g (by rw [h.c3 j hj g hg]; omega) (by rw [h.c3 j hj g hg]; omega)
  · exact (h.sr j hj).keep K fun g hg => hcol g (by rw [h.c4 j hj g hg]; omega) (by rw [h.c4 j hj g hg]; omega)
  · exact (ol ((h.mws.one j hj).ls.olt hg)).trans (h.c1 j hj g hg)
  · exact (ol (h.lt j hj d hd g hg)).trans (h.c2 j hj d hd g hg)
  · by_cases e : j = i
    · subst e
      have hg' : g ∈ Li.blk m' := by simpa [upd1_same] using hg
      rcases hb g hg' with z | z
      · exact (ol ((h.mr j hj).lt g z)).trans (h.c3 j hj g z)
      · exact if_neg (by omega)
    · have hg' : g ∈ Li.blk (v.ms j) := by simpa [upd1_ne e] using hg
      exact (ol ((h.mr j hj).lt g hg')).trans (h.c3 j hj g hg')
  · exact (ol ((h.sr j hj).lt g hg)).trans (h.c4 j hj g hg)
  · exact (ol ((h.mws.one j hj).lt.2.2)).trans (h.cq j hj)
  · exact (ol (World.block_lt_of_cell? _ _ (h.mws.one 0 hT).tab.c0)).trans h.cg
  · exact (ol (h.col0_lt hT hg)).trans (h.c0 g hg)

/-- An owner's row of sizes has turned. -/
theorem Aw.size_up (h : Aw T n p r sp qs v s t col w) {i : Nat} (hi : i < T) {m' : Value} {xs' : List Int} {mb mc : Nat} (hmb : v.f 12 = .slice (some ⟨mb, 0, none⟩) T mc)
    (k : Kp (Li.blk (v.ss i)) w w1) (hr : Li.Rw w1 m' xs') (hb : ∀ g ∈ Li.blk m', g ∈ Li.blk (v.ss i) ∨ w.heap.size ≤ g) :
    Aw T n p r sp qs { v with ss := upd1 v.ss i m' } { s with size := upd1 s.size i xs' } t (fun g => if g < w.heap.size then col g else 4 + 2 * i) (w1.setCell ⟨mb, i, none⟩ m') := by
  have hT : 0 < T := by omega
  have hT64 : T ≤ 64 := (h.mws.one i hi).fit.2.1
  have hmbl : mb ∈ Gx.blk (v.f 12) := by rw [hmb, Gx.blk_some]; simp
  obtain ⟨_, mcur, hmc⟩ := h.sizes.block mb hmbl
  have hmlt := lt_of_block hmc
  have hm0 : col mb = 0 := h.c0 mb (by simp [hmbl])
  have hz := k.size
  have k2 : Kp [mb] w1 (w1.setCell ⟨mb, i, none⟩ m') := (Kp.refl _ _).setCell (.inl (by simp)) _
  have K : Kp (mb :: Li.blk (v.ss i)) w (w1.setCell ⟨mb, i, none⟩ m') := (k.mono fun x hx _ => by simp [hx]).trans (k2.mono fun x hx _ => by simp at hx; simp [hx])
  have hS : ∀ g ∈ mb :: Li.blk (v.ss i), ∃ cur U, w.heap[g]? = some (.cells cur U (0, 0)) ∧ U ≠ 99 ∧ U ≠ 57 ∧ U ≠ 172 ∧ U ≠ 44 ∧ col g ≠ 1 ∧ col g ≠ 2 ∧ col g ≠ 2000 := fun g hg => by
    rw [List.mem_cons] at hg
    rcases hg with e | e
    · subst e; exact ⟨_, _, hmc, by decide, by decide, by decide, by decide, by omega, by omega, by omega⟩
    · obtain ⟨cur, hc⟩ := (h.sr i hi).block g e
      have := h.c4 i hi g e
      exact ⟨_, _, hc, by decide, by decide, by decide, by decide, by omega, by omega, by omega⟩
  have hrow : ∀ {U : TypeId} {sz m : Nat} {x : Value} {xs : List Value}, Gx.Rw U sz 0 w x m xs → (∀ g ∈ Gx.blk x, col g = 0) → (∀ g ∈ Gx.blk x, g ≠ mb) → Gx.Rw U sz 0 (w1.setCell ⟨mb, i, none⟩ m') x m xs := fun hr h0 h1 => hr.keep K fun g hg e => by
    rw [List.mem_cons] at e
    rcases e with e | e
    · exact h1 g hg e
    · have := h.c4 i hi g e; have := h0 g hg; omega
  have hty : ∀ {U : TypeId} {sz m : Nat} {x : Value} {xs : List Value}, Gx.Rw U sz 0 w x m xs → U ≠ 46 → ∀ g ∈ Gx.blk x, g ≠ mb := fun hr hU g hg e => by
    obtain ⟨_, cur, hc⟩ := Gx.Rw.block hr g hg
    rw [e, hmc] at hc; simp at hc; exact hU hc.2.symm
  have hcol : ∀ g, col g ≠ 0 → col g ≠ 4 + 2 * i → g ∉ mb :: Li.blk (v.ss i) := fun g h0 h1 e => by
    rw [List.mem_cons] at e
    rcases e with e | e
    · rw [e, hm0] at h0; exact h0 rfl
    · exact h1 (h.c4 i hi g e)
  obtain ⟨s1, s2, s3, s4⟩ := h.still hT K hS
  have ol : ∀ {g : Nat}, g < w.heap.size → (if g < w.heap.size then col g else 4 + 2 * i) = col g := fun h => if_pos h
  refine { h with st := s1, mws := s2, dh := s3, rd := s4, free := ?_, walks := ?_, docs := ?_, mades := ?_, sizes := ?_, mr := fun j hj => ?_, sr := fun j hj => ?_, c1 := fun j hj g hg => ?_, c2 := fun j hj d hd g hg => ?_, c3 := fun j hj g hg => ?_, c4 := fun j hj g hg => ?_, lt := fun j hj d hd g hg => Nat.lt_of_lt_of_le (h.lt j hj d hd g hg) K.size, cq := fun j hj => ?_, cg := ?_, c0 := fun g hg => ?_ }
  · exact hrow h.free (fun g hg => h.c0 g (by simp [hg])) (hty h.free (by decide))
  · exact hrow h.walks (fun g hg => h.c0 g (by simp [hg])) (hty h.walks (by decide))
  · exact hrow h.docs (fun g hg => h.c0 g (by simp [hg])) (hty h.docs (by decide))
  · exact hrow h.mades (fun g hg => h.c0 g (by simp [hg])) (fun g hg e => h.two g hg (e ▸ hmbl))
  · show Gx.Rw _ _ _ _ _ _ ((List.range T).map (upd1 v.ss i m'))
    have h1 := h.sizes.keep k fun g hg e => by
      have := h.c4 i hi g e; have := h.c0 g (by simp [hg]); omega
    rw [hmb] at h1 ⊢
    have h2 := rw_put h1 i m'
    rw [range_set] at h2
    exact h2
  · exact (h.mr j hj).keep K fun g hg => hcol g (by rw [h.c3 j hj g hg]; omega) (by rw [h.c3 j hj g hg]; omega)
  · show Li.Rw _ (upd1 v.ss i m' j) (upd1 s.size i xs' j)
    by_cases e : j = i
    · subst e
      rw [upd1_same, upd1_same]
      refine hr.keep k2 fun g hg e => ?_
      rw [List.mem_singleton] at e
      rcases hb g hg with z | z
      · have := h.c4 j hj g z; rw [e, hm0] at this; omega
      · omega
    · rw [upd1_ne e, upd1_ne e]
      exact (h.sr j hj).keep K fun g hg => hcol g (by rw [h.c4 j hj g hg]; omega) (by rw [h.c4 j hj g hg]; omega)
  · exact (ol ((h.mws.one j hj).ls.olt hg)).trans (h.c1 j hj g hg)
  · exact (ol (h.lt j hj d hd g hg)).trans (h.c2 j hj d hd g hg)
  · exact (ol ((h.mr j hj).lt g hg)).trans (h.c3 j hj g hg)
  · by_cases e : j = i
    · subst e
      have hg' : g ∈ Li.blk m' := by simpa [upd1_same] using hg
      rcases hb g hg' with z | z
      · exact (ol ((h.sr j hj).lt g z)).trans (h.c4 j hj g z)
      · exact if_neg (by omega)
    · have hg' : g ∈ Li.blk (v.ss j) := by simpa [upd1_ne e] using hg
      exact (ol ((h.sr j hj).lt g hg')).trans (h.c4 j hj g hg')
  · exact (ol ((h.mws.one j hj).lt.2.2)).trans (h.cq j hj)
  · exact (ol (World.block_lt_of_cell? _ _ (h.mws.one 0 hT).tab.c0)).trans h.cg
  · exact (ol (h.col0_lt hT hg)).trans (h.c0 g hg)

end
end Go.Proofs.YticbnckikkdknaaGreatDoor
