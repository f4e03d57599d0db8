/- Makers, on: the walks of the law's State: Set. Makers, on: rows of the law's State, stored into. Makers, on: the law's State of several owners behind a step of one of them. Makers, on: the law's State where an owner's row of places, or of sizes, has turned; where it walks or not. The walks of law 15's own: the beginning of an arena of several owners. Conditions: as each theorem states them. -/
import Derived.Test.YtdbbkncjhnafdaaGreatDoorPt11
namespace Go.Proofs.YtdbbkncjhnafdaaGreatDoor
set_option linter.unusedVariables false
set_option linter.unusedSimpArgs false
set_option maxRecDepth 100000
open Go.RowKit

section
variable {T n p r sp t : Nat} {qs : Nat → Nat} {v : Av} {s : As} {col : Nat → Nat} {w : World}
/-- The State's cells of the document's heap, stored anew. -/
def heapF (f : Nat → Value) (T n b c : Nat) : Nat → Value := fun j => if j = 9 then .int .i64 n else if j = 8 then .int .i64 0 else if j = 7 then .int .i64 T else if j = 6 then .slice (some ⟨b, 0, none⟩) (3 + T + 33 * n) c else f j
theorem Aw.heapF_ne (h : Aw T n p r sp qs v s t col w) (b c : Nat) (j : Nat) (hj : j ≠ 6) : heapF v.f T n b c j = v.f j := by
  unfold heapF
  split
  · rename_i e; rw [e, h.f9]
  · split
    · rename_i e; rw [e, h.f8]
    · split
      · rename_i e; rw [e, h.f7]
      · first
          | rfl
          | rw [if_neg hj]
theorem aw_set (h : Aw T n p r sp qs v s t col w) (hT : 0 < T) (ht : t ≤ 800000) (a : Nat) (ha : a < 3 + T + 33 * n) (x : Int) (h0 : 0 ≤ x) (h1 : x < 18446744073709551616) (hf : Fit T n (s.H.set a x) s.Rs) :
    Calls Tryz.prog 34 #[.pointer (some ⟨sp, 0, none⟩), .int .i64 a, .int .u64 x] w fun e w' => e = .returned (.tuple #[]) ∧ (∃ b c, Aw T n p r sp qs { v with f := heapF v.f T n b c, db := b, dc := c } { s with H := s.H.set a x } (t + 1) col w') ∧ Kp [p, r, sp] w w' := by
  obtain ⟨t0, ht0, hw⟩ := (h.mws.one 0 hT).hw
  have hlen := h.fit.len
  have HWr := Lib.hid (wr_word hw (by omega) a (by omega) a x rfl h0 h1)
  have a0 : w.cell? ⟨sp, 0, none⟩ = some (.pointer (some ⟨p, 0, none⟩)) := (h.cell (by decide)).trans (by rw [h.f0])
  have HA := Lib.hid h
  have HF := Lib.hid hf
  have HX := Lib.hid (And.intro h0 h1)
  have HL := Lib.hid hlen
  have HT := Lib.hid ht0
  clear h hw hlen hf h0 h1 ht0
  go_enter Tryz.func34, Tryz.ntmps34
  go_wp2_with fail
  refine HWr.out.mono ?_
  rintro e w1 ⟨rfl, hh, hk⟩
  have hsp := HA.out.spp hT
  have hdb := HA.out.dbp hT
  have hs1 : S13 w1 sp v.f := HA.out.st.keep hk (by simp; omega)
  have d1 := HA.out.dh.keepS hk (by simp; omega)
  have hwt := d1.with (k := a) (by rw [HL.out]; omega) HX.out.1 HX.out.2
  rw [HL.out] at hwt
  have HWt := Lib.hid hwt
  have b6 : w1.cell? ⟨sp, 6, none⟩ = some (.slice (some ⟨v.db, 0, none⟩) (3 + T + 33 * n) v.dc) := (hs1.cell (by decide)).trans (by rw [HA.out.f6])
  have b7 : w1.cell? ⟨sp, 7, none⟩ = some (.int .i64 T) := (hs1.cell (by decide)).trans (by rw [HA.out.f7])
  have b8 : w1.cell? ⟨sp, 8, none⟩ = some (.int .i64 ((0 : Nat) : Int)) := (hs1.cell (by decide)).trans (by rw [HA.out.f8]; rfl)
  have b9 : w1.cell? ⟨sp, 9, none⟩ = some (.int .i64 n) := (hs1.cell (by decide)).trans (by rw [HA.out.f9])
  have HH := Lib.hid (And.intro hh hk)
  have HS1 := Lib.hid hs1
  clear hh hk hs1 d1 hwt hsp hdb HWr
  go_wp2_with fail
  refine HWt.out.mono ?_
  rintro e w2 ⟨b', c', rfl, hd2, hk2⟩
  have hs2 : S13 w2 sp v.f := HS1.out.keep hk2 (by simp)
  have e6 : w2.cell? ⟨sp, 6, none⟩ = some (.slice (some ⟨v.db, 0, none⟩) (3 + T + 33 * n) v.dc) := (hs2.cell (by decide)).trans (by rw [HA.out.f6])
  have e7 : w2.cell? ⟨sp, 7, none⟩ = some (.int .i64 T) := (hs2.cell (by decide)).trans (by rw [HA.out.f7])
  have e8 : w2.cell? ⟨sp, 8, none⟩ = some (.int .i64 ((0 : Nat) : Int)) := (hs2.cell (by decide)).trans (by rw [HA.out.f8]; rfl)
  have e9 : w2.cell? ⟨sp, 9, none⟩ = some (.int .i64 n) := (hs2.cell (by decide)).trans (by rw [HA.out.f9])
  have g6 := hs2.free 6
  have g7 := hs2.free 7
  have g8 := hs2.free 8
  have g9 := hs2.free 9
  have HS2 := Lib.hid hs2
  have HD2 := Lib.hid (And.intro hd2 hk2)
  clear hs2 hd2 hk2 HWt b6 b7 b8 b9
  go_wp2_with fail
  go_end0
  have hs3 := (((HS2.out.set (i := 6) (by decide) (.slice (some ⟨b', 0, none⟩) (3 + T + 33 * n) c')).set (i := 7) (by decide) (.int .i64 T)).set (i := 8) (by decide) (.int .i64 ((0 : Nat) : Int))).set (i := 9) (by decide) (.int .i64 n)
  have k3 : Kp [sp] w2 ((((w2.setCell ⟨sp, 6, none⟩ (.slice (some ⟨b', 0, none⟩) (3 + T + 33 * n) c')).setCell ⟨sp, 7, none⟩ (.int .i64 T)).setCell ⟨sp, 8, none⟩ (.int .i64 ((0 : Nat) : Int))).setCell ⟨sp, 9, none⟩ (.int .i64 n)) := ((((Kp.refl [sp] w2).setCell (.inl (by simp)) _).setCell (.inl (by simp)) _).setCell (.inl (by simp)) _).setCell (.inl (by simp)) _
  obtain ⟨t1, ht1, hh1⟩ : ∃ t1, t1 ≤ t + 1 ∧ Hw T 0 n p r (s.H.set a x) t1 w1 := ⟨t0 + 1, by have := HT.out; omega, HH.out.1⟩
  exact ⟨rfl, ⟨b', c', HA.out.turned hT HH.out.2 ⟨t1, ht1, hh1⟩ (by simp) HD2.out.2 HD2.out.1 HF.out k3 hs3 (fun j hj => HA.out.heapF_ne b' c' j hj) rfl⟩, ((HH.out.2.mono (by simp)).trans (HD2.out.2.mono (by simp))).trans (k3.mono (by simp))⟩
end
end Go.Proofs.YtdbbkncjhnafdaaGreatDoor

namespace Go.Proofs.YtdbbkncjhnafdaaGreatDoor
set_option linter.unusedVariables false
set_option linter.unusedSimpArgs false
set_option maxRecDepth 100000
open Go.RowKit

theorem range_set {α : Type} (m k : Nat) (F : Nat → α) (x : α) : ((List.range m).map F).set k x = (List.range m).map fun j => if j = k then x else F j := by
  apply List.ext_getElem?
  intro i
  rw [List.getElem?_set]
  simp only [List.length_map, List.length_range, List.getElem?_map]
  by_cases hi : i < m
  · rw [List.getElem?_range hi]
    by_cases e : k = i
    · subst e; simp [hi]
    · rw [if_neg e]; simp [Ne.symm e]
  · have h0 : (List.range m)[i]? = none := List.getElem?_eq_none (by simpa using hi)
    rw [h0]
    by_cases e : k = i
    · subst e; simp [hi]
    · rw [if_neg e]; rfl
/-- A cell of a row is stored. -/
theorem rw_put {U : TypeId} {sz base n g c : Nat} {w : World} {xs : List Value} (h : Gx.Rw U sz base w (.slice (some ⟨g, 0, none⟩) n c) n xs) (k : Nat) (x : Value) : Gx.Rw U sz base (w.setCell ⟨g, k, none⟩ x) (.slice (some ⟨g, 0, none⟩) n c) n (xs.set k x) := by
  refine ⟨by rw [List.length_set]; exact h.own.1, ?_⟩
  rcases h.own.2 with ⟨h0, h1⟩ | ⟨g', c', cur, he, hge, hb, h1, h2, h3, h4⟩
  · simp at h0
  · simp only [Value.slice.injEq, Option.some.injEq, Addr.mk.injEq, and_true, true_and] at he
    obtain ⟨rfl, rfl⟩ := he
    refine .inr ⟨g, c, _, rfl, hge, heap_setCell_same _ _ _ _ _ _ hb, h1, h2, by simpa using h3, ?_⟩
    rw [← h4]
    simp [List.take_set]
theorem map_range_congr {α : Type} {m : Nat} {F G : Nat → α} (h : ∀ j, j < m → F j = G j) : (List.range m).map F = (List.range m).map G := List.map_congr_left fun j hj => h j (List.mem_range.1 hj)
/-- One owner's list, as the document has it, is stored. -/
theorem docs_put {T g c : Nat} {w : World} {us : Nat → Nat → Value} (h : Gx.Rw 80 4 0 w (.slice (some ⟨g, 0, none⟩) T c) T ((List.range (4 * T)).map fun k => us (k / 4) (k % 4))) (i : Nat) (u : Nat → Value) :
    Gx.Rw 80 4 0 ((((w.setCell ⟨g, i * 4, none⟩ (u 0)).setCell ⟨g, i * 4 + 1, none⟩ (u 1)).setCell ⟨g, i * 4 + 2, none⟩ (u 2)).setCell ⟨g, i * 4 + 3, none⟩ (u 3)) (.slice (some ⟨g, 0, none⟩) T c) T ((List.range (4 * T)).map fun k => updV4 us i u (k / 4) (k % 4)) := by
  have h4 := rw_put (rw_put (rw_put (rw_put h (i * 4) (u 0)) (i * 4 + 1) (u 1)) (i * 4 + 2) (u 2)) (i * 4 + 3) (u 3)
  rw [range_set, range_set, range_set, range_set] at h4
  have e : ((List.range (4 * T)).map fun k => updV4 us i u (k / 4) (k % 4)) = (List.range (4 * T)).map fun j => if j = i * 4 + 3 then u 3 else if j = i * 4 + 2 then u 2 else if j = i * 4 + 1 then u 1 else if j = i * 4 then u 0 else us (j / 4) (j % 4) := by
    refine map_range_congr fun j hj => ?_
    unfold updV4
    by_cases e : j / 4 = i
    · rw [if_pos e]
      have hm : j = i * 4 + j % 4 := by omega
      rcases Li.four (Nat.mod_lt j (show 0 < 4 by decide)) with z | z | z | z <;> rw [z] at hm ⊢ <;> (subst hm; simp)
    · rw [if_neg e, if_neg (by omega), if_neg (by omega), if_neg (by omega), if_neg (by omega)]
  rw [e]
  exact h4
end Go.Proofs.YtdbbkncjhnafdaaGreatDoor

namespace Go.Proofs.YtdbbkncjhnafdaaGreatDoor
set_option linter.unusedVariables false
set_option linter.unusedSimpArgs false
set_option maxRecDepth 100000
open Go.RowKit

/-- Colours behind a step: what the program has made, what the document has. -/
def col3 (col : Nat → Nat) (a b c : Nat) : Nat → Nat := fun g => if g < a then col g else if g < b then 1 else if g < c then 2 else 0
/-- The document's list of one owner, as a struct's four values. -/
theorem col3_old {col : Nat → Nat} {a b c g : Nat} (h : g < a) : col3 col a b c g = col g := if_pos h
theorem col3_one {col : Nat → Nat} {a b c g : Nat} (h : a ≤ g) (h2 : g < b) : col3 col a b c g = 1 := by unfold col3; rw [if_neg (by omega), if_pos h2]
theorem col3_two {col : Nat → Nat} {a b c g : Nat} (h0 : a ≤ b) (h : b ≤ g) (h2 : g < c) : col3 col a b c g = 2 := by unfold col3; rw [if_neg (by omega), if_neg (by omega), if_pos h2]

section
variable {T n p r sp t t' : Nat} {qs : Nat → Nat} {v : Av} {s : As} {col col' : Nat → Nat} {w w' w1 w2 w3 : World} {Sh : List Nat}
/-- Colours of blocks that there are. -/
theorem Aw.recol (h : Aw T n p r sp qs v s t col w) (hT : 0 < T) (hc : ∀ g, g < w.heap.size → col' g = col g) : Aw T n p r sp qs v s t col' w := by
  have hsp := h.spp hT
  have hl := (h.mws.one 0 hT).lt
  refine { h with c1 := fun i hi g hg => ?_, c2 := fun i hi d hd g hg => ?_, c3 := fun i hi g hg => ?_, c4 := fun i hi g hg => ?_, cq := fun i hi => ?_, cg := ?_, c0 := fun g hg => ?_ }
  · rw [hc g ((h.mws.one i hi).ls.olt hg)]; exact h.c1 i hi g hg
  · rw [hc g (h.lt i hi d hd g hg)]; exact h.c2 i hi d hd g hg
  · rw [hc g ((h.mr i hi).lt g hg)]; exact h.c3 i hi g hg
  · rw [hc g ((h.sr i hi).lt g hg)]; exact h.c4 i hi g hg
  · rw [hc _ ((h.mws.one i hi).lt.2.2)]; exact h.cq i hi
  · rw [hc _ (World.block_lt_of_cell? _ _ (h.mws.one 0 hT).tab.c0)]; exact h.cg
  · have hlt : g < w.heap.size := by
      rcases hg with e | e | e | e | e | e | e | e
      · subst e; exact hl.1
      · subst e; exact hl.2.1
      · subst e; exact hsp.2.2
      · obtain ⟨_, _, z⟩ := h.free.block g e; exact lt_of_block z
      · obtain ⟨_, _, z⟩ := h.walks.block g e; exact lt_of_block z
      · obtain ⟨_, _, z⟩ := h.docs.block g e; exact lt_of_block z
      · obtain ⟨_, _, z⟩ := h.mades.block g e; exact lt_of_block z
      · obtain ⟨_, _, z⟩ := h.sizes.block g e; exact lt_of_block z
    rw [hc g hlt]; exact h.c0 g hg
theorem Aw.col0_lt (h : Aw T n p r sp qs v s t col w) (hT : 0 < T) {g : Nat} (hg : g = p ∨ g = r ∨ g = sp ∨ g ∈ Gx.blk (v.f 4) ∨ g ∈ Gx.blk (v.f 5) ∨ g ∈ Gx.blk (v.f 10) ∨ g ∈ Gx.blk (v.f 11) ∨ g ∈ Gx.blk (v.f 12)) : g < w.heap.size := by
  have hsp := h.spp hT
  have hl := (h.mws.one 0 hT).lt
  rcases hg with e | e | e | e | e | e | e | e
  · subst e; exact hl.1
  · subst e; exact hl.2.1
  · subst e; exact hsp.2.2
  · obtain ⟨_, _, z⟩ := h.free.block g e; exact lt_of_block z
  · obtain ⟨_, _, z⟩ := h.walks.block g e; exact lt_of_block z
  · obtain ⟨_, _, z⟩ := h.docs.block g e; exact lt_of_block z
  · obtain ⟨_, _, z⟩ := h.mades.block g e; exact lt_of_block z
  · obtain ⟨_, _, z⟩ := h.sizes.block g e; exact lt_of_block z
/-- What a maker turns beside the State: its own box. -/
def Apart (col : Nat → Nat) (w : World) (Sh : List Nat) : Prop := ∀ b ∈ Sh, col b = 1000 ∧ ∃ cs, w.heap[b]? = some (.cells cs 3 (0, 0))
/-- A block of the State, by its colour and its type, is none that a maker turns. -/
theorem Aw.off (h : Aw T n p r sp qs v s t col w) {i : Nat} (hi : i < T) (hS : Apart col w Sh) {g : Nat} (h1 : col g ≠ 1) (h2 : col g ≠ 1000) (hp : g ≠ p) (hr : g ≠ r) (hq : g ≠ qs i) : g ∉ mhS Sh p r (qs i) (v.vss i) := fun e => by
  rcases mem_mhS.1 e with e | e | e | e | e
  · exact hp e
  · exact hr e
  · exact hq e
  · exact h2 (hS g e).1
  · exact h1 (h.c1 i hi g e)
theorem Aw.offK (h : Aw T n p r sp qs v s t col w) {i : Nat} (hi : i < T) (hS : Apart col w Sh) {g : Nat} (h0 : col g ≠ 0) (h1 : col g ≠ 1) (h2 : col g ≠ 1000) : g ∉ mhS Sh p r (qs i) (v.vss i) :=
  h.off hi hS h1 h2 (fun e => h0 (h.c0 g (.inl e))) (fun e => h0 (h.c0 g (.inr (.inl e)))) (fun e => h0 (e ▸ h.cq i hi))
theorem Aw.offT (h : Aw T n p r sp qs v s t col w) (hT : 0 < T) {i : Nat} (hi : i < T) (hS : Apart col w Sh) {U : TypeId} {sz m : Nat} {x : Value} {xs : List Value} (hr : Gx.Rw U sz 0 w x m xs) (h0 : ∀ g ∈ Gx.blk x, col g = 0) (h1 : U ≠ 95) (h2 : U ≠ 53) (h3 : U ≠ 43) (h4 : U ≠ 177) : ∀ g ∈ Gx.blk x, g ∉ mhS Sh p r (qs i) (v.vss i) ∧ g ≠ sp := fun g hg => by
  have ho := h.rowne hT hr h1 h2 h3 g hg
  simp only [List.mem_cons, List.not_mem_nil, or_false, not_or] at ho
  obtain ⟨_, cur, hc⟩ := Gx.Rw.block hr g hg
  obtain ⟨a1, a2, a3, e1, e2, e3⟩ := (h.mws.one i hi).types
  refine ⟨h.off hi hS (by rw [h0 g hg]; decide) (by rw [h0 g hg]; decide) ho.1 ho.2.1 (fun e => ?_), ho.2.2⟩
  rw [e, e3] at hc; simp at hc; exact h4 hc.2.symm
/-- One owner has done something, in the program and in the document. -/
theorem Aw.step (h : Aw T n p r sp qs v s t col w) {i : Nat} (hi : i < T) (hS : Apart col w Sh) {vs' us' : Nat → Value} {H' : List Int} {R' : Nat → List Int}
    (hm : Mw T 0 n p r (qs i) vs' H' R' t' w1) (hl : H'.length = s.H.length) (k1 : Mh Sh p r (qs i) (v.vss i) vs' w w1)
    {b' c' fb fc : Nat} (k2 : Kp [] w1 w2) (hd : Dh (r + 1) T 0 n b' c' H' w2) (hr : Li.Rows4 w2 us' R') (hb : Li.Bl4 (v.us i) us' w1.heap.size w2.heap.size)
    (hfit : Fit T n H' (updO s.Rs i R')) (hfb : v.f 10 = .slice (some ⟨fb, 0, none⟩) T fc) {f' : Nat → Value}
    (k3 : Kp [sp, fb] w2 w3) (hs : S13 w3 sp f') (hf' : ∀ j, j ≠ 6 → f' j = v.f j) (hf6 : f' 6 = .slice (some ⟨b', 0, none⟩) (3 + T + 33 * n) c')
    (hdocs : Gx.Rw 80 4 0 w3 (v.f 10) T ((List.range (4 * T)).map fun k => updV4 v.us i us' (k / 4) (k % 4))) :
    Aw T n p r sp qs { v with f := f', vss := updV4 v.vss i vs', us := updV4 v.us i us', db := b', dc := c' } { s with H := H', Rs := updO s.Rs i R' } t' (col3 col w.heap.size w1.heap.size w2.heap.size) w3 := by
  have hT : 0 < T := by omega
  have hT64 : T ≤ 64 := (h.mws.one i hi).fit.2.1
  have hsp := h.spp hT
  have hz1 := k1.size
  have hz2 := k2.size
  have hz3 := k3.size
  have hfbl : fb ∈ Gx.blk (v.f 10) := by rw [hfb, Gx.blk_some]; simp
  have hfbt : ∃ cur, w.heap[fb]? = some (.cells cur 80 (0, 0)) := (h.docs.block fb hfbl).2
  have hfblt : fb < w.heap.size := by obtain ⟨_, z⟩ := hfbt; exact lt_of_block z
  have hfb0 : col fb = 0 := h.c0 fb (by simp [hfbl])
  have hsp0 : col sp = 0 := h.c0 sp (by simp)
  -- from w to w3, all but what is turned
  have K : Kp (sp :: fb :: mhS Sh p r (qs i) (v.vss i)) w w3 := ((k1.kp.mono fun x hx _ => by simp [hx]).trans (k2.mono (by simp))).trans (k3.mono fun x hx _ => by
    simp only [List.mem_cons, List.not_mem_nil, or_false] at hx
    rcases hx with e | e <;> simp [e])
  have hoff3 : ∀ g, g ∉ mhS Sh p r (qs i) (v.vss i) → g ≠ sp → g ≠ fb → g ∉ sp :: fb :: mhS Sh p r (qs i) (v.vss i) := fun g h1 h2 h3 e => by
    simp only [List.mem_cons] at e
    rcases e with e | e | e
    · exact h2 e
    · exact h3 e
    · exact h1 e
  have hcol : ∀ g, 2 ≤ col g → col g < 1000 → g ∉ sp :: fb :: mhS Sh p r (qs i) (v.vss i) := fun g hg hg2 => hoff3 g (h.offK hi hS (by omega) (by omega) (by omega)) (fun e => by rw [e, hsp0] at hg; omega) (fun e => by rw [e, hfb0] at hg; omega)
  have hrow : ∀ {U : TypeId} {sz m : Nat} {x : Value} {xs : List Value}, Gx.Rw U sz 0 w x m xs → (∀ g ∈ Gx.blk x, col g = 0) → U ≠ 95 → U ≠ 53 → U ≠ 43 → U ≠ 177 → U ≠ 80 → Gx.Rw U sz 0 w3 x m xs := fun hr h0 t1 t2 t3 t4 t5 => hr.keep K fun g hg => by
    have := h.offT hT hi hS hr h0 t1 t2 t3 t4 g hg
    refine hoff3 g this.1 this.2 fun e => ?_
    obtain ⟨_, cur, hc⟩ := Gx.Rw.block hr g hg
    obtain ⟨cur2, hc2⟩ := hfbt
    rw [e, hc2] at hc; simp at hc; exact t5 hc.2.symm
  have hw2 : Mws T n p r qs (updV4 v.vss i vs') H' (updO s.Rs i R') t' w1 := h.mws.made hi hm hl k1 fun j hj b hb => by
    obtain ⟨hc, cs, hcs⟩ := hS b hb
    obtain ⟨a1, a2, a3, e1, e2, e3⟩ := (h.mws.one j hj).types
    refine ⟨lt_of_block hcs, fun e => ?_, fun e => ?_, fun e => ?_, fun e => ?_, fun e => ?_⟩
    · rw [e, e1] at hcs; simp at hcs
    · rw [e, e2] at hcs; simp at hcs
    · rw [e, e3] at hcs; simp at hcs
    · have := h.c1 j hj b e; omega
    · have := h.cg
      rw [← e] at this; omega
  have hlt : ∀ j, j < T → ∀ g, Li.Owns (v.vss j) g → g < w.heap.size := fun j hj g hg => (h.mws.one j hj).ls.olt hg
  refine { st := hs, f0 := ?_, f1 := ?_, f2 := ?_, f3 := ?_, f6 := hf6, f7 := ?_, f8 := ?_, f9 := ?_, fit := hfit, mws := ⟨fun j hj => ?_, hw2.qne, hw2.vne⟩, dh := hd.keepS k3 ?_, free := ?_, walks := ?_, docs := ?_, rd := fun j hj => ?_, mades := ?_, sizes := ?_, mr := fun j hj => (h.mr j hj).keep K fun g hg => hcol g (by rw [h.c3 j hj g hg]; omega) (by rw [h.c3 j hj g hg]; omega), sr := fun j hj => (h.sr j hj).keep K fun g hg => hcol g (by rw [h.c4 j hj g hg]; omega) (by rw [h.c4 j hj g hg]; omega), two := ?_, c1 := fun j hj g hg => ?_, c2 := fun j hj d hd g hg => ?_, c3 := fun j hj g hg => ?_, c4 := fun j hj g hg => ?_, lt := fun j hj d hd g hg => ?_, spg := h.spg, cq := fun j hj => ?_, cg := ?_, c0 := fun g hg => ?_ }
  · exact (hf' 0 (by decide)).trans h.f0
  · exact (hf' 1 (by decide)).trans h.f1
  · exact (hf' 2 (by decide)).trans h.f2
  · exact (hf' 3 (by decide)).trans h.f3
  · exact (hf' 7 (by decide)).trans h.f7
  · exact (hf' 8 (by decide)).trans h.f8
  · exact (hf' 9 (by decide)).trans h.f9
  · have hj1 := hw2.one j hj
    refine (hj1.on k2).told k3 fun b hb => ?_
    simp only [List.mem_cons, List.not_mem_nil, or_false] at hb
    have hbt : ∃ cur U, w.heap[b]? = some (.cells cur U (0, 0)) ∧ (U = 43 ∨ U = 80) := by
      rcases hb with e | e
      · subst e; exact ⟨_, _, h.st, .inl rfl⟩
      · subst e; obtain ⟨cur, z⟩ := hfbt; exact ⟨_, _, z, .inr rfl⟩
    obtain ⟨cur, U, hcu, hU⟩ := hbt
    have hblt := lt_of_block hcu
    have hb0 : col b = 0 := by rcases hb with e | e <;> (subst e; assumption)
    obtain ⟨a1, a2, a3, e1, e2, e3⟩ := (h.mws.one j hj).types
    refine ⟨by omega, fun e => ?_, fun e => ?_, fun e => ?_, fun e => ?_, fun e => ?_⟩
    · rw [e, e1] at hcu; simp at hcu; rcases hU with z | z <;> (rw [z] at hcu; exact absurd hcu.2 (by decide))
    · rw [e, e2] at hcu; simp at hcu; rcases hU with z | z <;> (rw [z] at hcu; exact absurd hcu.2 (by decide))
    · rw [e, e3] at hcu; simp at hcu; rcases hU with z | z <;> (rw [z] at hcu; exact absurd hcu.2 (by decide))
    · by_cases ej : j = i
      · subst ej
        rw [updV4_same] at e
        rcases k1.own b e with z | z
        · have := h.c1 j hj b z; omega
        · omega
      · rw [updV4_ne ej] at e
        have := h.c1 j hj b e; omega
    · have := h.cg
      rw [← e] at this; omega
  · intro e
    obtain ⟨_, cur, hc⟩ := Gx.Rw.block hd.ww b' (by rw [Gx.blk_some]; simp)
    have K2 : Kp (mhS Sh p r (qs i) (v.vss i)) w w2 := k1.kp.trans (k2.mono (by simp))
    simp only [List.mem_cons, List.not_mem_nil, or_false] at e
    rcases e with e | e
    · have hn := h.off hi hS (g := sp) (by omega) (by omega) hsp.1 hsp.2.1 (fun e => by
        have := h.st
        obtain ⟨a1, a2, a3, e1, e2, e3⟩ := (h.mws.one i hi).types
        unfold S13 at this
        rw [e, e3] at this; simp at this)
      have h4 := K2.row hn (show w.heap[sp]? = _ from h.st)
      rw [e, h4] at hc; simp at hc
    · obtain ⟨cur2, hc2⟩ := hfbt
      have hn := (h.offT hT hi hS h.docs (fun g hg => h.c0 g (by simp [hg])) (by decide) (by decide) (by decide) (by decide) fb hfbl).1
      have h4 := K2.row hn hc2
      rw [e, h4] at hc; simp at hc
  · show Gx.Rw _ _ _ _ (f' 4) _ _
    rw [hf' 4 (by decide)]
    exact hrow h.free (fun g hg => h.c0 g (by simp [hg])) (by decide) (by decide) (by decide) (by decide) (by decide)
  · show Gx.Rw _ _ _ _ (f' 5) _ _
    rw [hf' 5 (by decide)]
    exact hrow h.walks (fun g hg => h.c0 g (by simp [hg])) (by decide) (by decide) (by decide) (by decide) (by decide)
  · show Gx.Rw _ _ _ _ (f' 10) _ _
    rw [hf' 10 (by decide)]
    exact hdocs
  · show Li.Rows4 w3 (updV4 v.us i us' j) (updO s.Rs i R' j)
    by_cases ej : j = i
    · subst ej
      rw [updV4_same, updO_same]
      refine fun d hd' => (hr d hd').keep k3 fun g hg e => ?_
      simp only [List.mem_cons, List.not_mem_nil, or_false] at e
      rcases hb d hd' g hg with z | z
      · have := h.c2 j hj d hd' g z
        rcases e with e | e <;> (subst e; omega)
      · rcases e with e | e <;> (subst e; omega)
    · rw [updV4_ne ej, updO_ne ej]
      exact fun d hd' => (h.rd j hj d hd').keep K fun g hg => hcol g (by rw [h.c2 j hj d hd' g hg]; omega) (by rw [h.c2 j hj d hd' g hg]; omega)
  · show Gx.Rw _ _ _ _ (f' 11) _ _
    rw [hf' 11 (by decide)]
    exact hrow h.mades (fun g hg => h.c0 g (by simp [hg])) (by decide) (by decide) (by decide) (by decide) (by decide)
  · show Gx.Rw _ _ _ _ (f' 12) _ _
    rw [hf' 12 (by decide)]
    exact hrow h.sizes (fun g hg => h.c0 g (by simp [hg])) (by decide) (by decide) (by decide) (by decide) (by decide)
  · show ∀ g ∈ Gx.blk (f' 11), g ∉ Gx.blk (f' 12)
    rw [hf' 11 (by decide), hf' 12 (by decide)]
    exact h.two
  · by_cases ej : j = i
    · subst ej
      have hg' : Li.Owns vs' g := by simpa [updV4_same] using hg
      rcases k1.own g hg' with z | z
      · rw [col3_old (hlt j hj g z)]; exact h.c1 j hj g z
      · exact col3_one z (hm.ls.olt hg')
    · have hg' : Li.Owns (v.vss j) g := by simpa [updV4_ne ej] using hg
      rw [col3_old (hlt j hj g hg')]; exact h.c1 j hj g hg'
  · by_cases ej : j = i
    · subst ej
      have hg' : g ∈ Li.blk (us' d) := by simpa [updV4_same] using hg
      rcases hb d hd g hg' with z | z
      · rw [col3_old (h.lt j hj d hd g z)]; exact h.c2 j hj d hd g z
      · exact col3_two hz1 z.1 z.2
    · have hg' : g ∈ Li.blk (v.us j d) := by simpa [updV4_ne ej] using hg
      rw [col3_old (h.lt j hj d hd g hg')]; exact h.c2 j hj d hd g hg'
  · rw [col3_old ((h.mr j hj).lt g hg)]; exact h.c3 j hj g hg
  · rw [col3_old ((h.sr j hj).lt g hg)]; exact h.c4 j hj g hg
  · by_cases ej : j = i
    · subst ej
      have hg' : g ∈ Li.blk (us' d) := by simpa [updV4_same] using hg
      rcases hb d hd g hg' with z | z
      · have := h.lt j hj d hd g z; omega
      · omega
    · have hg' : g ∈ Li.blk (v.us j d) := by simpa [updV4_ne ej] using hg
      have := h.lt j hj d hd g hg'; omega
  · rw [col3_old ((h.mws.one j hj).lt.2.2)]; exact h.cq j hj
  · rw [col3_old (World.block_lt_of_cell? _ _ (h.mws.one 0 hT).tab.c0)]; exact h.cg
  · have hg' : g = p ∨ g = r ∨ g = sp ∨ g ∈ Gx.blk (v.f 4) ∨ g ∈ Gx.blk (v.f 5) ∨ g ∈ Gx.blk (v.f 10) ∨ g ∈ Gx.blk (v.f 11) ∨ g ∈ Gx.blk (v.f 12) := by
      have hg2 : g = p ∨ g = r ∨ g = sp ∨ g ∈ Gx.blk (f' 4) ∨ g ∈ Gx.blk (f' 5) ∨ g ∈ Gx.blk (f' 10) ∨ g ∈ Gx.blk (f' 11) ∨ g ∈ Gx.blk (f' 12) := hg
      rw [hf' 4 (by decide), hf' 5 (by decide), hf' 10 (by decide), hf' 11 (by decide), hf' 12 (by decide)] at hg2
      exact hg2
    rw [col3_old (h.col0_lt hT hg')]; exact h.c0 g hg'
end
end Go.Proofs.YtdbbkncjhnafdaaGreatDoor

namespace Go.Proofs.YtdbbkncjhnafdaaGreatDoor
set_option linter.unusedVariables false
set_option linter.unusedSimpArgs false
set_option maxRecDepth 100000
open Go.RowKit

def upd1 {α : Type} (f : Nat → α) (i : Nat) (x : α) : Nat → α := fun j => if j = i then x else f j
theorem upd1_same {α : Type} {f : Nat → α} {i : Nat} {x : α} : upd1 f i x i = x := if_pos rfl
theorem upd1_ne {α : Type} {f : Nat → α} {i j : Nat} {x : α} (h : j ≠ i) : upd1 f i x j = f j := if_neg h
section
variable {T n p r sp t t' : Nat} {qs : Nat → Nat} {v : Av} {s : As} {col col' : Nat → Nat} {w w' w1 w2 w3 : World} {Sh : List Nat}
/-- A block of the State, none of a list's, is off all makers' blocks. -/
theorem Aw.off_of (h : Aw T n p r sp qs v s t col w) {j : Nat} (hj : j < T) {g : Nat} {cur : Array Value} {U : TypeId} (hg : w.heap[g]? = some (.cells cur U (0, 0))) (h1 : U ≠ 95) (h2 : U ≠ 53) (h3 : U ≠ 177) (hc1 : col g ≠ 1) (hc2 : col g ≠ 2000) : Off p r (qs j) (v.vss j) w g := by
  obtain ⟨a1, a2, a3, e1, e2, e3⟩ := (h.mws.one j hj).types
  refine ⟨lt_of_block hg, fun e => ?_, fun e => ?_, fun e => ?_, fun e => hc1 (h.c1 j hj g e), fun e => hc2 (e ▸ h.cg)⟩
  · rw [e, e1] at hg; simp at hg; exact h1 hg.2.symm
  · rw [e, e2] at hg; simp at hg; exact h2 hg.2.symm
  · rw [e, e3] at hg; simp at hg; exact h3 hg.2.symm
/-- Some blocks of the State have turned, of other types and colours: what stands. -/
theorem Aw.still (h : Aw T n p r sp qs v s t col w) (hT : 0 < T) {S : List Nat} (k : Kp S w w1)
    (hS : ∀ g ∈ S, ∃ cur U, w.heap[g]? = some (.cells cur U (0, 0)) ∧ U ≠ 95 ∧ U ≠ 53 ∧ U ≠ 177 ∧ U ≠ 43 ∧ col g ≠ 1 ∧ col g ≠ 2 ∧ col g ≠ 2000) :
    S13 w1 sp v.f ∧ Mws T n p r qs v.vss s.H s.Rs t w1 ∧ Dh (r + 1) T 0 n v.db v.dc s.H w1 ∧ (∀ i, i < T → Li.Rows4 w1 (v.us i) (s.Rs i)) := by
  refine ⟨h.st.keep k fun e => ?_, ⟨fun j hj => (h.mws.one j hj).told k fun g hg => ?_, h.mws.qne, h.mws.vne⟩, h.dh.keepS k fun e => ?_, fun i hi d hd => (h.rd i hi d hd).keep k fun g hg e => ?_⟩
  · obtain ⟨cur, U, hc, _, _, _, h4, _⟩ := hS sp e
    have hst := h.st
    unfold S13 at hst
    rw [hst] at hc; simp at hc; exact h4 hc.2.symm
  · obtain ⟨cur, U, hc, h1, h2, h3, h4, h5, h6, h7⟩ := hS g hg
    exact h.off_of hj hc h1 h2 h3 h5 h7
  · obtain ⟨cur, U, hc, h1, h2, h3, h4, h5, h6, h7⟩ := hS v.db e
    obtain ⟨_, cur2, hc2⟩ := Gx.Rw.block h.dh.ww v.db (by rw [Gx.blk_some]; simp)
    rw [hc2] at hc; simp at hc; exact h2 hc.2.symm
  · obtain ⟨cur, U, hc, h1, h2, h3, h4, h5, h6, h7⟩ := hS g e
    exact h6 (h.c2 i hi d hd g hg)

/-- An owner's row of places has turned. -/
theorem Aw.made_up (h : Aw T n p r sp qs v s t col w) {i : Nat} (hi : i < T) {m' : Value} {xs' : List Int} {mb mc : Nat} (hmb : v.f 11 = .slice (some ⟨mb, 0, none⟩) T mc)
    (k : Kp (Li.blk (v.ms i)) w w1) (hr : Li.Rw w1 m' xs') (hb : ∀ g ∈ Li.blk m', g ∈ Li.blk (v.ms i) ∨ w.heap.size ≤ g) :
    Aw T n p r sp qs { v with ms := upd1 v.ms i m' } { s with made := upd1 s.made i xs' } t (fun g => if g < w.heap.size then col g else 3 + 2 * i) (w1.setCell ⟨mb, i, none⟩ m') := by
  have hT : 0 < T := by omega
  have hT64 : T ≤ 64 := (h.mws.one i hi).fit.2.1
  have hmbl : mb ∈ Gx.blk (v.f 11) := by rw [hmb, Gx.blk_some]; simp
  obtain ⟨_, mcur, hmc⟩ := h.mades.block mb hmbl
  have hmlt := lt_of_block hmc
  have hm0 : col mb = 0 := h.c0 mb (by simp [hmbl])
  have hz := k.size
  have k2 : Kp [mb] w1 (w1.setCell ⟨mb, i, none⟩ m') := (Kp.refl _ _).setCell (.inl (by simp)) _
  have K : Kp (mb :: Li.blk (v.ms i)) w (w1.setCell ⟨mb, i, none⟩ m') := (k.mono fun x hx _ => by simp [hx]).trans (k2.mono fun x hx _ => by simp at hx; simp [hx])
  have hS : ∀ g ∈ mb :: Li.blk (v.ms i), ∃ cur U, w.heap[g]? = some (.cells cur U (0, 0)) ∧ U ≠ 95 ∧ U ≠ 53 ∧ U ≠ 177 ∧ U ≠ 43 ∧ col g ≠ 1 ∧ col g ≠ 2 ∧ col g ≠ 2000 := fun g hg => by
    rw [List.mem_cons] at hg
    rcases hg with e | e
    · subst e; exact ⟨_, _, hmc, by decide, by decide, by decide, by decide, by omega, by omega, by omega⟩
    · obtain ⟨cur, hc⟩ := (h.mr i hi).block g e
      have := h.c3 i hi g e
      exact ⟨_, _, hc, by decide, by decide, by decide, by decide, by omega, by omega, by omega⟩
  have hrow : ∀ {U : TypeId} {sz m : Nat} {x : Value} {xs : List Value}, Gx.Rw U sz 0 w x m xs → (∀ g ∈ Gx.blk x, col g = 0) → (∀ g ∈ Gx.blk x, g ≠ mb) → Gx.Rw U sz 0 (w1.setCell ⟨mb, i, none⟩ m') x m xs := fun hr h0 h1 => hr.keep K fun g hg e => by
    rw [List.mem_cons] at e
    rcases e with e | e
    · exact h1 g hg e
    · have := h.c3 i hi g e; have := h0 g hg; omega
  have hty : ∀ {U : TypeId} {sz m : Nat} {x : Value} {xs : List Value}, Gx.Rw U sz 0 w x m xs → U ≠ 45 → ∀ g ∈ Gx.blk x, g ≠ mb := fun hr hU g hg e => by
    obtain ⟨_, cur, hc⟩ := Gx.Rw.block hr g hg
    rw [e, hmc] at hc; simp at hc; exact hU hc.2.symm
  have hcol : ∀ g, col g ≠ 0 → col g ≠ 3 + 2 * i → g ∉ mb :: Li.blk (v.ms i) := fun g h0 h1 e => by
    rw [List.mem_cons] at e
    rcases e with e | e
    · rw [e, hm0] at h0; exact h0 rfl
    · exact h1 (h.c3 i hi g e)
  obtain ⟨s1, s2, s3, s4⟩ := h.still hT K hS
  have ol : ∀ {g : Nat}, g < w.heap.size → (if g < w.heap.size then col g else 3 + 2 * i) = col g := fun h => if_pos h
  refine { h with st := s1, mws := s2, dh := s3, rd := s4, free := ?_, walks := ?_, docs := ?_, mades := ?_, sizes := ?_, mr := fun j hj => ?_, sr := fun j hj => ?_, c1 := fun j hj g hg => ?_, c2 := fun j hj d hd g hg => ?_, c3 := fun j hj g hg => ?_, c4 := fun j hj g hg => ?_, lt := fun j hj d hd g hg => Nat.lt_of_lt_of_le (h.lt j hj d hd g hg) K.size, cq := fun j hj => ?_, cg := ?_, c0 := fun g hg => ?_ }
  · exact hrow h.free (fun g hg => h.c0 g (by simp [hg])) (hty h.free (by decide))
  · exact hrow h.walks (fun g hg => h.c0 g (by simp [hg])) (hty h.walks (by decide))
  · exact hrow h.docs (fun g hg => h.c0 g (by simp [hg])) (hty h.docs (by decide))
  · show Gx.Rw _ _ _ _ _ _ ((List.range T).map (upd1 v.ms i m'))
    have h1 := h.mades.keep k fun g hg e => by
      have := h.c3 i hi g e; have := h.c0 g (by simp [hg]); omega
    rw [hmb] at h1 ⊢
    have h2 := rw_put h1 i m'
    rw [range_set] at h2
    exact h2
  · exact hrow h.sizes (fun g hg => h.c0 g (by simp [hg])) (fun g hg e => h.two mb hmbl (e ▸ hg))
  · show Li.Rw _ (upd1 v.ms i m' j) (upd1 s.made i xs' j)
    by_cases e : j = i
    · subst e
      rw [upd1_same, upd1_same]
      refine hr.keep k2 fun g hg e => ?_
      rw [List.mem_singleton] at e
      rcases hb g hg with z | z
      · have := h.c3 j hj g z; rw [e, hm0] at this; omega
      · omega
    · rw [upd1_ne e, upd1_ne e]
      exact (h.mr j hj).keep K fun g hg => hcol g (by rw [h.c3 j hj g hg]; omega) (by rw [h.c3 j hj g hg]; omega)
  · exact (h.sr j hj).keep K fun g hg => hcol g (by rw [h.c4 j hj g hg]; omega) (by rw [h.c4 j hj g hg]; omega)
  · exact (ol ((h.mws.one j hj).ls.olt hg)).trans (h.c1 j hj g hg)
  · exact (ol (h.lt j hj d hd g hg)).trans (h.c2 j hj d hd g hg)
  · by_cases e : j = i
    · subst e
      have hg' : g ∈ Li.blk m' := by simpa [upd1_same] using hg
      rcases hb g hg' with z | z
      · exact (ol ((h.mr j hj).lt g z)).trans (h.c3 j hj g z)
      · exact if_neg (by omega)
    · have hg' : g ∈ Li.blk (v.ms j) := by simpa [upd1_ne e] using hg
      exact (ol ((h.mr j hj).lt g hg')).trans (h.c3 j hj g hg')
  · exact (ol ((h.sr j hj).lt g hg)).trans (h.c4 j hj g hg)
  · exact (ol ((h.mws.one j hj).lt.2.2)).trans (h.cq j hj)
  · exact (ol (World.block_lt_of_cell? _ _ (h.mws.one 0 hT).tab.c0)).trans h.cg
  · exact (ol (h.col0_lt hT hg)).trans (h.c0 g hg)

/-- An owner's row of sizes has turned. -/
theorem Aw.size_up (h : Aw T n p r sp qs v s t col w) {i : Nat} (hi : i < T) {m' : Value} {xs' : List Int} {mb mc : Nat} (hmb : v.f 12 = .slice (some ⟨mb, 0, none⟩) T mc)
    (k : Kp (Li.blk (v.ss i)) w w1) (hr : Li.Rw w1 m' xs') (hb : ∀ g ∈ Li.blk m', g ∈ Li.blk (v.ss i) ∨ w.heap.size ≤ g) :
    Aw T n p r sp qs { v with ss := upd1 v.ss i m' } { s with size := upd1 s.size i xs' } t (fun g => if g < w.heap.size then col g else 4 + 2 * i) (w1.setCell ⟨mb, i, none⟩ m') := by
  have hT : 0 < T := by omega
  have hT64 : T ≤ 64 := (h.mws.one i hi).fit.2.1
  have hmbl : mb ∈ Gx.blk (v.f 12) := by rw [hmb, Gx.blk_some]; simp
  obtain ⟨_, mcur, hmc⟩ := h.sizes.block mb hmbl
  have hmlt := lt_of_block hmc
  have hm0 : col mb = 0 := h.c0 mb (by simp [hmbl])
  have hz := k.size
  have k2 : Kp [mb] w1 (w1.setCell ⟨mb, i, none⟩ m') := (Kp.refl _ _).setCell (.inl (by simp)) _
  have K : Kp (mb :: Li.blk (v.ss i)) w (w1.setCell ⟨mb, i, none⟩ m') := (k.mono fun x hx _ => by simp [hx]).trans (k2.mono fun x hx _ => by simp at hx; simp [hx])
  have hS : ∀ g ∈ mb :: Li.blk (v.ss i), ∃ cur U, w.heap[g]? = some (.cells cur U (0, 0)) ∧ U ≠ 95 ∧ U ≠ 53 ∧ U ≠ 177 ∧ U ≠ 43 ∧ col g ≠ 1 ∧ col g ≠ 2 ∧ col g ≠ 2000 := fun g hg => by
    rw [List.mem_cons] at hg
    rcases hg with e | e
    · subst e; exact ⟨_, _, hmc, by decide, by decide, by decide, by decide, by omega, by omega, by omega⟩
    · obtain ⟨cur, hc⟩ := (h.sr i hi).block g e
      have := h.c4 i hi g e
      exact ⟨_, _, hc, by decide, by decide, by decide, by decide, by omega, by omega, by omega⟩
  have hrow : ∀ {U : TypeId} {sz m : Nat} {x : Value} {xs : List Value}, Gx.Rw U sz 0 w x m xs → (∀ g ∈ Gx.blk x, col g = 0) → (∀ g ∈ Gx.blk x, g ≠ mb) → Gx.Rw U sz 0 (w1.setCell ⟨mb, i, none⟩ m') x m xs := fun hr h0 h1 => hr.keep K fun g hg e => by
    rw [List.mem_cons] at e
    rcases e with e | e
    · exact h1 g hg e
    · have := h.c4 i hi g e; have := h0 g hg; omega
  have hty : ∀ {U : TypeId} {sz m : Nat} {x : Value} {xs : List Value}, Gx.Rw U sz 0 w x m xs → U ≠ 45 → ∀ g ∈ Gx.blk x, g ≠ mb := fun hr hU g hg e => by
    obtain ⟨_, cur, hc⟩ := Gx.Rw.block hr g hg
    rw [e, hmc] at hc; simp at hc; exact hU hc.2.symm
  have hcol : ∀ g, col g ≠ 0 → col g ≠ 4 + 2 * i → g ∉ mb :: Li.blk (v.ss i) := fun g h0 h1 e => by
    rw [List.mem_cons] at e
    rcases e with e | e
    · rw [e, hm0] at h0; exact h0 rfl
    · exact h1 (h.c4 i hi g e)
  obtain ⟨s1, s2, s3, s4⟩ := h.still hT K hS
  have ol : ∀ {g : Nat}, g < w.heap.size → (if g < w.heap.size then col g else 4 + 2 * i) = col g := fun h => if_pos h
  refine { h with st := s1, mws := s2, dh := s3, rd := s4, free := ?_, walks := ?_, docs := ?_, mades := ?_, sizes := ?_, mr := fun j hj => ?_, sr := fun j hj => ?_, c1 := fun j hj g hg => ?_, c2 := fun j hj d hd g hg => ?_, c3 := fun j hj g hg => ?_, c4 := fun j hj g hg => ?_, lt := fun j hj d hd g hg => Nat.lt_of_lt_of_le (h.lt j hj d hd g hg) K.size, cq := fun j hj => ?_, cg := ?_, c0 := fun g hg => ?_ }
  · exact hrow h.free (fun g hg => h.c0 g (by simp [hg])) (hty h.free (by decide))
  · exact hrow h.walks (fun g hg => h.c0 g (by simp [hg])) (hty h.walks (by decide))
  · exact hrow h.docs (fun g hg => h.c0 g (by simp [hg])) (hty h.docs (by decide))
  · exact hrow h.mades (fun g hg => h.c0 g (by simp [hg])) (fun g hg e => h.two g hg (e ▸ hmbl))
  · show Gx.Rw _ _ _ _ _ _ ((List.range T).map (upd1 v.ss i m'))
    have h1 := h.sizes.keep k fun g hg e => by
      have := h.c4 i hi g e; have := h.c0 g (by simp [hg]); omega
    rw [hmb] at h1 ⊢
    have h2 := rw_put h1 i m'
    rw [range_set] at h2
    exact h2
  · exact (h.mr j hj).keep K fun g hg => hcol g (by rw [h.c3 j hj g hg]; omega) (by rw [h.c3 j hj g hg]; omega)
  · show Li.Rw _ (upd1 v.ss i m' j) (upd1 s.size i xs' j)
    by_cases e : j = i
    · subst e
      rw [upd1_same, upd1_same]
      refine hr.keep k2 fun g hg e => ?_
      rw [List.mem_singleton] at e
      rcases hb g hg with z | z
      · have := h.c4 j hj g z; rw [e, hm0] at this; omega
      · omega
    · rw [upd1_ne e, upd1_ne e]
      exact (h.sr j hj).keep K fun g hg => hcol g (by rw [h.c4 j hj g hg]; omega) (by rw [h.c4 j hj g hg]; omega)
  · exact (ol ((h.mws.one j hj).ls.olt hg)).trans (h.c1 j hj g hg)
  · exact (ol (h.lt j hj d hd g hg)).trans (h.c2 j hj d hd g hg)
  · exact (ol ((h.mr j hj).lt g hg)).trans (h.c3 j hj g hg)
  · by_cases e : j = i
    · subst e
      have hg' : g ∈ Li.blk m' := by simpa [upd1_same] using hg
      rcases hb g hg' with z | z
      · exact (ol ((h.sr j hj).lt g z)).trans (h.c4 j hj g z)
      · exact if_neg (by omega)
    · have hg' : g ∈ Li.blk (v.ss j) := by simpa [upd1_ne e] using hg
      exact (ol ((h.sr j hj).lt g hg')).trans (h.c4 j hj g hg')
  · exact (ol ((h.mws.one j hj).lt.2.2)).trans (h.cq j hj)
  · exact (ol (World.block_lt_of_cell? _ _ (h.mws.one 0 hT).tab.c0)).trans h.cg
  · exact (ol (h.col0_lt hT hg)).trans (h.c0 g hg)

end
end Go.Proofs.YtdbbkncjhnafdaaGreatDoor

namespace Go.Proofs.YtdbbkncjhnafdaaGreatDoor
set_option linter.unusedVariables false
set_option linter.unusedSimpArgs false
set_option maxRecDepth 100000
open Go.RowKit

/-- The words as they begin. -/
def HB (T n : Nat) : List Int := (List.replicate (3 + T + 33 * n) (0 : Int)).set 0 ((2 ^ n - 1 : Nat) : Int)
/-- What is carried through the beginning's rows. -/
structure Pq (w : World) (T n sp db dc : Nat) (qs : Nat → Nat) (f : Nat → Value) (m4 m5 m10 m11 m12 : Nat) (W : World) : Prop where
  hs : S13 W sp f
  hh : Hw T 0 n (w.heap.size + 1) w.heap.size (HB T n) 1 W
  hd : Dh (w.heap.size + 1) T 0 n db dc (HB T n) W
  hk : Kp [] w W
  hl : ∀ j, j < m4 → Li.Ls W (qs j) (fun _ => .slice none 0 0) (fun _ => [])
  qge : ∀ j, j < m4 → w.heap.size + 2 ≤ qs j
  qne : ∀ i j, i < m4 → j < m4 → i ≠ j → qs i ≠ qs j
  r4 : Gx.Rw 77 1 w.heap.size W (f 4) m4 ((List.range m4).map fun i => .pointer (some ⟨qs i, 0, none⟩))
  r5 : Gx.Rw 4 1 w.heap.size W (f 5) m5 ((List.range m5).map fun _ => .bool false)
  r10 : Gx.Rw 80 4 w.heap.size W (f 10) m10 ((List.range (4 * m10)).map fun _ => .slice none 0 0)
  r11 : Gx.Rw 45 1 w.heap.size W (f 11) m11 ((List.range m11).map fun _ => .slice none 0 0)
  r12 : Gx.Rw 45 1 w.heap.size W (f 12) m12 ((List.range m12).map fun _ => .slice none 0 0)
  two : ∀ g ∈ Gx.blk (f 11), g ∉ Gx.blk (f 12)
  lo : w.heap.size + 2 ≤ sp
  f0 : f 0 = .pointer (some ⟨w.heap.size + 1, 0, none⟩)
  f1 : f 1 = .int .i64 T
  f2 : f 2 = .int .i64 0
  f3 : f 3 = .int .i64 n
  f6 : f 6 = .slice (some ⟨db, 0, none⟩) (3 + T + 33 * n) dc
  f7 : f 7 = .int .i64 T
  f8 : f 8 = .int .i64 0
  f9 : f 9 = .int .i64 n
def ifF (f : Nat → Value) (k : Nat) (x : Value) : Nat → Value := fun j => if j = k then x else f j
theorem ifF_same {f : Nat → Value} {k : Nat} {x : Value} : ifF f k x k = x := if_pos rfl
theorem ifF_ne {f : Nat → Value} {k j : Nat} {x : Value} (h : j ≠ k) : ifF f k x j = f j := if_neg h
section
variable {w W W' : World} {T n sp db dc m4 m5 m10 m11 m12 : Nat} {qs : Nat → Nat} {f : Nat → Value}
/-- What stands where blocks of other types turn, all of them new. -/
theorem Pq.still (h : Pq w T n sp db dc qs f m4 m5 m10 m11 m12 W) {S : List Nat} (k : Kp S W W') (hS : ∀ g ∈ S, g < W.heap.size → w.heap.size ≤ g ∧ ∃ cur U, W.heap[g]? = some (.cells cur U (0, 0)) ∧ U ≠ 95 ∧ U ≠ 53 ∧ U ≠ 177) :
    Hw T 0 n (w.heap.size + 1) w.heap.size (HB T n) 1 W' ∧ Dh (w.heap.size + 1) T 0 n db dc (HB T n) W' ∧ Kp [] w W' ∧ ∀ j, j < m4 → Li.Ls W' (qs j) (fun _ => .slice none 0 0) (fun _ => []) := by
  obtain ⟨l, a⟩ := h.hh.ar
  have hlt := h.hh.lt
  refine ⟨h.hh.keep k (fun e => ?_) (fun e => ?_), h.hd.keepS k (fun e => ?_), ⟨k.os.trans h.hk.os, k.tape.trans h.hk.tape, k.output.trans h.hk.output, Nat.le_trans h.hk.size k.size, fun i hi _ => (k.block i (Nat.lt_of_lt_of_le hi h.hk.size) fun e => ?_).trans (h.hk.block i hi (by simp))⟩, fun j hj => (h.hl j hj).keep k (fun e => ?_) (fun g hg => ?_)⟩
  · obtain ⟨_, cur, U, hc, h1, _⟩ := hS _ e hlt.1
    have := a.hp
    rw [this] at hc; simp at hc; exact h1 hc.2.symm
  · obtain ⟨_, cur, U, hc, _, h2, _⟩ := hS _ e hlt.2
    have := a.hr
    rw [this] at hc; simp at hc; exact h2 hc.2.symm
  · obtain ⟨_, cur2, hc2⟩ := Gx.Rw.block h.hd.ww db (by rw [Gx.blk_some]; simp)
    obtain ⟨_, cur, U, hc, _, h2, _⟩ := hS _ e (lt_of_block hc2)
    rw [hc2] at hc; simp at hc; exact h2 hc.2.symm
  · have := (hS i e (Nat.lt_of_lt_of_le hi h.hk.size)).1; omega
  · obtain ⟨_, cur, U, hc, _, _, h3⟩ := hS _ e (h.hl j hj).lt
    have := (h.hl j hj).hp
    rw [this] at hc; simp at hc; exact h3 hc.2.symm
  · obtain ⟨c, _, hb⟩ := hg
    simp [Li.blk_nil] at hb
theorem Pq.on (h : Pq w T n sp db dc qs f m4 m5 m10 m11 m12 W) (k : Kp [] W W') : Pq w T n sp db dc qs f m4 m5 m10 m11 m12 W' := by
  obtain ⟨a1, a2, a3, a4⟩ := h.still k (by simp)
  exact { h with hs := h.hs.keep k (by simp), hh := a1, hd := a2, hk := a3, hl := a4, r4 := h.r4.keep0 k, r5 := h.r5.keep0 k, r10 := h.r10.keep0 k, r11 := h.r11.keep0 k, r12 := h.r12.keep0 k }

/-- One element more of the 4-th. -/
theorem Pq.add4 (h : Pq w T n sp db dc qs f m4 m5 m10 m11 m12 W) (hm : m4 < 1000) {q5 : Nat} (hq5 : Li.Ls W q5 (fun _ => .slice none 0 0) (fun _ => [])) (hq2 : w.heap.size + 2 ≤ q5) (hq3 : ∀ j, j < m4 → qs j ≠ q5) :
    ∃ g cap W2, (Builtin.append_ #[33, 33] 33 #[f 4, .slice (some ⟨W.heap.size, 0, none⟩) 1 1]).run Tryz.prog (W.alloc (.cells #[.pointer (some ⟨q5, 0, none⟩)] 77)) = .ok (.slice (some ⟨g, 0, none⟩) (m4 + 1) cap) W2 ∧ S13 W2 sp f ∧ Pq w T n sp db dc (upd1 qs m4 q5) (ifF f 4 (.slice (some ⟨g, 0, none⟩) (m4 + 1) cap)) (m4 + 1) m5 m10 m11 m12 (W2.setCell ⟨sp, 4, none⟩ (.slice (some ⟨g, 0, none⟩) (m4 + 1) cap)) := by
  have ka : Kp [] W (W.alloc (.cells #[.pointer (some ⟨q5, 0, none⟩)] 77)) := (Kp.refl _ _).alloc _
  have hB : w.heap.size ≤ (W.alloc (.cells #[.pointer (some ⟨q5, 0, none⟩)] 77)).heap.size := Nat.le_trans h.hk.size ka.size
  obtain ⟨g, cap, W2, hrun, hrw, hkp, hg⟩ := Gx.run_app (T := 77) (t := 33) (ty := 33) (base := w.heap.size) Tryz.underlying33 info_lst (by decide) (h.r4.keep0 ka) hB ⟨W.heap.size, 0, none⟩ 1 1 [.pointer (some ⟨q5, 0, none⟩)] (by rfl) (by
    intro j u hu
    have e : (⟨W.heap.size, 0, none⟩ : Addr).add j = ⟨W.heap.size, j, none⟩ := by simp [Addr.add]; omega
    rw [e, cell_of_row (heap_alloc_new W _), ← hu]
    simp) (by simp [Value.oneCell']) (by omega) (by omega) (by decide)
  have hrb := h.r4.block
  have hspr : ∀ g ∈ Gx.blk (f 4), g ≠ sp := fun g hg e => by
    obtain ⟨_, cur, hc⟩ := hrb g hg
    have hst := h.hs
    unfold S13 at hst
    rw [e, hst] at hc; simp at hc
  have k1 : Kp (Gx.blk (f 4)) W W2 := (ka.mono (by simp)).trans hkp
  have s2 : S13 W2 sp f := h.hs.keep k1 fun e => hspr sp e rfl
  have k2 : Kp [sp] W2 (W2.setCell ⟨sp, 4, none⟩ (.slice (some ⟨g, 0, none⟩) (m4 + 1) cap)) := (Kp.refl _ _).setCell (.inl (by simp)) _
  have K : Kp (sp :: Gx.blk (f 4)) W (W2.setCell ⟨sp, 4, none⟩ (.slice (some ⟨g, 0, none⟩) (m4 + 1) cap)) := (k1.mono fun x hx _ => by simp [hx]).trans (k2.mono fun x hx _ => by simp at hx; simp [hx])
  have hS : ∀ g ∈ sp :: Gx.blk (f 4), w.heap.size ≤ g ∧ ∃ cur U, W.heap[g]? = some (.cells cur U (0, 0)) ∧ U ≠ 95 ∧ U ≠ 53 ∧ U ≠ 177 ∧ (U = 43 ∨ U = 77) := fun g hg => by
    rw [List.mem_cons] at hg
    rcases hg with e | e
    · subst e; exact ⟨by have := h.lo; omega, _, _, h.hs, by decide, by decide, by decide, .inl rfl⟩
    · obtain ⟨h1, cur, hc⟩ := hrb g e
      exact ⟨h1, _, _, hc, by decide, by decide, by decide, .inr rfl⟩
  have hty : ∀ {U : TypeId} {sz m : Nat} {x : Value} {xs : List Value}, Gx.Rw U sz w.heap.size W x m xs → U ≠ 43 → U ≠ 77 → Gx.Rw U sz w.heap.size (W2.setCell ⟨sp, 4, none⟩ (.slice (some ⟨g, 0, none⟩) (m4 + 1) cap)) x m xs := fun hr h1 h2 => hr.keep K fun g hg e => by
    obtain ⟨_, cur, hc⟩ := Gx.Rw.block hr g hg
    obtain ⟨_, cur2, U2, hc2, _, _, _, h4⟩ := hS g e
    rw [hc] at hc2; simp at hc2
    rcases h4 with z | z
    · exact h1 (hc2.2.trans z)
    · exact h2 (hc2.2.trans z)
  obtain ⟨a1, a2, a3, a4⟩ := h.still K fun g hg _ => by
    obtain ⟨b1, cur, U, hc, b2, b3, b4, _⟩ := hS g hg
    exact ⟨b1, cur, U, hc, b2, b3, b4⟩
  refine ⟨g, cap, W2, hrun, s2, { hs := s2.set (by decide) _, hh := a1, hd := a2, hk := a3, hl := fun j hj => ?_, qge := fun j hj => ?_, qne := fun a b ha hb hab => ?_, r4 := ?_, r5 := ?_, r10 := ?_, r11 := ?_, r12 := ?_, two := ?_, lo := h.lo, f0 := (ifF_ne (by decide)).trans h.f0, f1 := (ifF_ne (by decide)).trans h.f1, f2 := (ifF_ne (by decide)).trans h.f2, f3 := (ifF_ne (by decide)).trans h.f3, f6 := (ifF_ne (by decide)).trans h.f6, f7 := (ifF_ne (by decide)).trans h.f7, f8 := (ifF_ne (by decide)).trans h.f8, f9 := (ifF_ne (by decide)).trans h.f9 }⟩
  · by_cases e : j = m4
    · subst e
      rw [upd1_same]
      have hql := hq5.lt
      exact (hq5.keep K (fun e => by
        obtain ⟨_, cur, U, hc, _, _, b4, _⟩ := hS q5 e
        rw [hq5.hp] at hc; simp at hc; exact b4 hc.2.symm) fun g hg => by
          obtain ⟨c, _, hb⟩ := hg
          simp [Li.blk_nil] at hb)
    · rw [upd1_ne e]; exact a4 j (by omega)
  · by_cases e : j = m4
    · subst e; rw [upd1_same]; exact hq2
    · rw [upd1_ne e]; exact h.qge j (by omega)
  · by_cases ea : a = m4
    · subst ea
      rw [upd1_same, upd1_ne (fun e => hab e.symm)]
      exact fun e => hq3 b (by omega) e.symm
    · rw [upd1_ne ea]
      by_cases eb : b = m4
      · subst eb; rw [upd1_same]; exact hq3 a (by omega)
      · rw [upd1_ne eb]; exact h.qne a b (by omega) (by omega) hab
  · rw [ifF_same]
    have e : (List.range (m4 + 1)).map (fun i => Value.pointer (some ⟨upd1 qs m4 q5 i, 0, none⟩)) = (List.range m4).map (fun i => Value.pointer (some ⟨qs i, 0, none⟩)) ++ [.pointer (some ⟨q5, 0, none⟩)] := by
      rw [List.range_succ, List.map_append, List.map_singleton, upd1_same]
      congr 1
      exact map_range_congr fun j hj => by rw [upd1_ne (by omega)]
    rw [e]
    exact hrw.keep k2 fun b hb e => by
      rw [List.mem_singleton] at e
      rw [Gx.blk_some, List.mem_singleton] at hb
      rcases hg with z | z
      · exact hspr g z (hb.symm.trans e)
      · have := lt_of_block h.hs; have := ka.size; omega
  · rw [ifF_ne (by decide)]
    exact hty h.r5 (by decide) (by decide)
  · rw [ifF_ne (by decide)]
    exact hty h.r10 (by decide) (by decide)
  · rw [ifF_ne (by decide)]
    exact hty h.r11 (by decide) (by decide)
  · rw [ifF_ne (by decide)]
    exact hty h.r12 (by decide) (by decide)
  · rw [ifF_ne (by decide), ifF_ne (by decide)]
    exact h.two

/-- One element more of the 5-th. -/
theorem Pq.add5 (h : Pq w T n sp db dc qs f m4 m5 m10 m11 m12 W) (hm : m5 < 1000) :
    ∃ g cap W2, (Builtin.append_ #[34, 34] 34 #[f 5, .slice (some ⟨W.heap.size, 0, none⟩) 1 1]).run Tryz.prog (W.alloc (.cells #[.bool false] 4)) = .ok (.slice (some ⟨g, 0, none⟩) (m5 + 1) cap) W2 ∧ S13 W2 sp f ∧ Pq w T n sp db dc qs (ifF f 5 (.slice (some ⟨g, 0, none⟩) (m5 + 1) cap)) m4 (m5 + 1) m10 m11 m12 (W2.setCell ⟨sp, 5, none⟩ (.slice (some ⟨g, 0, none⟩) (m5 + 1) cap)) := by
  have ka : Kp [] W (W.alloc (.cells #[.bool false] 4)) := (Kp.refl _ _).alloc _
  have hB : w.heap.size ≤ (W.alloc (.cells #[.bool false] 4)).heap.size := Nat.le_trans h.hk.size ka.size
  obtain ⟨g, cap, W2, hrun, hrw, hkp, hg⟩ := Gx.run_app (T := 4) (t := 34) (ty := 34) (base := w.heap.size) Tryz.underlying34 info_bool (by decide) (h.r5.keep0 ka) hB ⟨W.heap.size, 0, none⟩ 1 1 [.bool false] (by rfl) (by
    intro j u hu
    have e : (⟨W.heap.size, 0, none⟩ : Addr).add j = ⟨W.heap.size, j, none⟩ := by simp [Addr.add]; omega
    rw [e, cell_of_row (heap_alloc_new W _), ← hu]
    simp) (by simp [Value.oneCell']) (by omega) (by omega) (by decide)
  have hrb := h.r5.block
  have hspr : ∀ g ∈ Gx.blk (f 5), g ≠ sp := fun g hg e => by
    obtain ⟨_, cur, hc⟩ := hrb g hg
    have hst := h.hs
    unfold S13 at hst
    rw [e, hst] at hc; simp at hc
  have k1 : Kp (Gx.blk (f 5)) W W2 := (ka.mono (by simp)).trans hkp
  have s2 : S13 W2 sp f := h.hs.keep k1 fun e => hspr sp e rfl
  have k2 : Kp [sp] W2 (W2.setCell ⟨sp, 5, none⟩ (.slice (some ⟨g, 0, none⟩) (m5 + 1) cap)) := (Kp.refl _ _).setCell (.inl (by simp)) _
  have K : Kp (sp :: Gx.blk (f 5)) W (W2.setCell ⟨sp, 5, none⟩ (.slice (some ⟨g, 0, none⟩) (m5 + 1) cap)) := (k1.mono fun x hx _ => by simp [hx]).trans (k2.mono fun x hx _ => by simp at hx; simp [hx])
  have hS : ∀ g ∈ sp :: Gx.blk (f 5), w.heap.size ≤ g ∧ ∃ cur U, W.heap[g]? = some (.cells cur U (0, 0)) ∧ U ≠ 95 ∧ U ≠ 53 ∧ U ≠ 177 ∧ (U = 43 ∨ U = 4) := fun g hg => by
    rw [List.mem_cons] at hg
    rcases hg with e | e
    · subst e; exact ⟨by have := h.lo; omega, _, _, h.hs, by decide, by decide, by decide, .inl rfl⟩
    · obtain ⟨h1, cur, hc⟩ := hrb g e
      exact ⟨h1, _, _, hc, by decide, by decide, by decide, .inr rfl⟩
  have hty : ∀ {U : TypeId} {sz m : Nat} {x : Value} {xs : List Value}, Gx.Rw U sz w.heap.size W x m xs → U ≠ 43 → U ≠ 4 → Gx.Rw U sz w.heap.size (W2.setCell ⟨sp, 5, none⟩ (.slice (some ⟨g, 0, none⟩) (m5 + 1) cap)) x m xs := fun hr h1 h2 => hr.keep K fun g hg e => by
    obtain ⟨_, cur, hc⟩ := Gx.Rw.block hr g hg
    obtain ⟨_, cur2, U2, hc2, _, _, _, h4⟩ := hS g e
    rw [hc] at hc2; simp at hc2
    rcases h4 with z | z
    · exact h1 (hc2.2.trans z)
    · exact h2 (hc2.2.trans z)
  obtain ⟨a1, a2, a3, a4⟩ := h.still K fun g hg _ => by
    obtain ⟨b1, cur, U, hc, b2, b3, b4, _⟩ := hS g hg
    exact ⟨b1, cur, U, hc, b2, b3, b4⟩
  refine ⟨g, cap, W2, hrun, s2, { hs := s2.set (by decide) _, hh := a1, hd := a2, hk := a3, hl := a4, qge := h.qge, qne := h.qne, r4 := ?_, r5 := ?_, r10 := ?_, r11 := ?_, r12 := ?_, two := ?_, lo := h.lo, f0 := (ifF_ne (by decide)).trans h.f0, f1 := (ifF_ne (by decide)).trans h.f1, f2 := (ifF_ne (by decide)).trans h.f2, f3 := (ifF_ne (by decide)).trans h.f3, f6 := (ifF_ne (by decide)).trans h.f6, f7 := (ifF_ne (by decide)).trans h.f7, f8 := (ifF_ne (by decide)).trans h.f8, f9 := (ifF_ne (by decide)).trans h.f9 }⟩
  · rw [ifF_ne (by decide)]
    exact hty h.r4 (by decide) (by decide)
  · rw [ifF_same]
    have e : (List.range (m5 + 1)).map (fun _ => Value.bool false) = (List.range m5).map (fun _ => Value.bool false) ++ [.bool false] := by
      rw [List.range_succ, List.map_append, List.map_singleton]
    rw [e]
    exact hrw.keep k2 fun b hb e => by
      rw [List.mem_singleton] at e
      rw [Gx.blk_some, List.mem_singleton] at hb
      rcases hg with z | z
      · exact hspr g z (hb.symm.trans e)
      · have := lt_of_block h.hs; have := ka.size; omega
  · rw [ifF_ne (by decide)]
    exact hty h.r10 (by decide) (by decide)
  · rw [ifF_ne (by decide)]
    exact hty h.r11 (by decide) (by decide)
  · rw [ifF_ne (by decide)]
    exact hty h.r12 (by decide) (by decide)
  · rw [ifF_ne (by decide), ifF_ne (by decide)]
    exact h.two

/-- One element more of the 10-th. -/
theorem Pq.add10 (h : Pq w T n sp db dc qs f m4 m5 m10 m11 m12 W) (hm : m10 < 1000) :
    ∃ g cap W2, (Builtin.append_ #[40, 40] 40 #[f 10, .slice (some ⟨W.heap.size, 0, none⟩) 1 1]).run Tryz.prog (W.alloc (.cells #[.slice none 0 0, .slice none 0 0, .slice none 0 0, .slice none 0 0] 80)) = .ok (.slice (some ⟨g, 0, none⟩) (m10 + 1) cap) W2 ∧ S13 W2 sp f ∧ Pq w T n sp db dc qs (ifF f 10 (.slice (some ⟨g, 0, none⟩) (m10 + 1) cap)) m4 m5 (m10 + 1) m11 m12 (W2.setCell ⟨sp, 10, none⟩ (.slice (some ⟨g, 0, none⟩) (m10 + 1) cap)) := by
  have ka : Kp [] W (W.alloc (.cells #[.slice none 0 0, .slice none 0 0, .slice none 0 0, .slice none 0 0] 80)) := (Kp.refl _ _).alloc _
  have hB : w.heap.size ≤ (W.alloc (.cells #[.slice none 0 0, .slice none 0 0, .slice none 0 0, .slice none 0 0] 80)).heap.size := Nat.le_trans h.hk.size ka.size
  obtain ⟨g, cap, W2, hrun, hrw, hkp, hg⟩ := Gx.run_app (T := 80) (t := 40) (ty := 40) (base := w.heap.size) Tryz.underlying40 info_rl (by decide) (h.r10.keep0 ka) hB ⟨W.heap.size, 0, none⟩ 1 1 [.slice none 0 0, .slice none 0 0, .slice none 0 0, .slice none 0 0] (by rfl) (by
    intro j u hu
    have e : (⟨W.heap.size, 0, none⟩ : Addr).add j = ⟨W.heap.size, j, none⟩ := by simp [Addr.add]; omega
    rw [e, cell_of_row (heap_alloc_new W _), ← hu]
    simp) (by simp [Value.oneCell']) (by omega) (by omega) (by decide)
  have hrb := h.r10.block
  have hspr : ∀ g ∈ Gx.blk (f 10), g ≠ sp := fun g hg e => by
    obtain ⟨_, cur, hc⟩ := hrb g hg
    have hst := h.hs
    unfold S13 at hst
    rw [e, hst] at hc; simp at hc
  have k1 : Kp (Gx.blk (f 10)) W W2 := (ka.mono (by simp)).trans hkp
  have s2 : S13 W2 sp f := h.hs.keep k1 fun e => hspr sp e rfl
  have k2 : Kp [sp] W2 (W2.setCell ⟨sp, 10, none⟩ (.slice (some ⟨g, 0, none⟩) (m10 + 1) cap)) := (Kp.refl _ _).setCell (.inl (by simp)) _
  have K : Kp (sp :: Gx.blk (f 10)) W (W2.setCell ⟨sp, 10, none⟩ (.slice (some ⟨g, 0, none⟩) (m10 + 1) cap)) := (k1.mono fun x hx _ => by simp [hx]).trans (k2.mono fun x hx _ => by simp at hx; simp [hx])
  have hS : ∀ g ∈ sp :: Gx.blk (f 10), w.heap.size ≤ g ∧ ∃ cur U, W.heap[g]? = some (.cells cur U (0, 0)) ∧ U ≠ 95 ∧ U ≠ 53 ∧ U ≠ 177 ∧ (U = 43 ∨ U = 80) := fun g hg => by
    rw [List.mem_cons] at hg
    rcases hg with e | e
    · subst e; exact ⟨by have := h.lo; omega, _, _, h.hs, by decide, by decide, by decide, .inl rfl⟩
    · obtain ⟨h1, cur, hc⟩ := hrb g e
      exact ⟨h1, _, _, hc, by decide, by decide, by decide, .inr rfl⟩
  have hty : ∀ {U : TypeId} {sz m : Nat} {x : Value} {xs : List Value}, Gx.Rw U sz w.heap.size W x m xs → U ≠ 43 → U ≠ 80 → Gx.Rw U sz w.heap.size (W2.setCell ⟨sp, 10, none⟩ (.slice (some ⟨g, 0, none⟩) (m10 + 1) cap)) x m xs := fun hr h1 h2 => hr.keep K fun g hg e => by
    obtain ⟨_, cur, hc⟩ := Gx.Rw.block hr g hg
    obtain ⟨_, cur2, U2, hc2, _, _, _, h4⟩ := hS g e
    rw [hc] at hc2; simp at hc2
    rcases h4 with z | z
    · exact h1 (hc2.2.trans z)
    · exact h2 (hc2.2.trans z)
  obtain ⟨a1, a2, a3, a4⟩ := h.still K fun g hg _ => by
    obtain ⟨b1, cur, U, hc, b2, b3, b4, _⟩ := hS g hg
    exact ⟨b1, cur, U, hc, b2, b3, b4⟩
  refine ⟨g, cap, W2, hrun, s2, { hs := s2.set (by decide) _, hh := a1, hd := a2, hk := a3, hl := a4, qge := h.qge, qne := h.qne, r4 := ?_, r5 := ?_, r10 := ?_, r11 := ?_, r12 := ?_, two := ?_, lo := h.lo, f0 := (ifF_ne (by decide)).trans h.f0, f1 := (ifF_ne (by decide)).trans h.f1, f2 := (ifF_ne (by decide)).trans h.f2, f3 := (ifF_ne (by decide)).trans h.f3, f6 := (ifF_ne (by decide)).trans h.f6, f7 := (ifF_ne (by decide)).trans h.f7, f8 := (ifF_ne (by decide)).trans h.f8, f9 := (ifF_ne (by decide)).trans h.f9 }⟩
  · rw [ifF_ne (by decide)]
    exact hty h.r4 (by decide) (by decide)
  · rw [ifF_ne (by decide)]
    exact hty h.r5 (by decide) (by decide)
  · rw [ifF_same]
    have e : (List.range (4 * (m10 + 1))).map (fun _ => Value.slice none 0 0) = (List.range (4 * m10)).map (fun _ => Value.slice none 0 0) ++ [.slice none 0 0, .slice none 0 0, .slice none 0 0, .slice none 0 0] := by
      rw [show 4 * (m10 + 1) = 4 * m10 + 1 + 1 + 1 + 1 from by omega, List.range_succ, List.range_succ, List.range_succ, List.range_succ]
      simp
    rw [e]
    exact hrw.keep k2 fun b hb e => by
      rw [List.mem_singleton] at e
      rw [Gx.blk_some, List.mem_singleton] at hb
      rcases hg with z | z
      · exact hspr g z (hb.symm.trans e)
      · have := lt_of_block h.hs; have := ka.size; omega
  · rw [ifF_ne (by decide)]
    exact hty h.r11 (by decide) (by decide)
  · rw [ifF_ne (by decide)]
    exact hty h.r12 (by decide) (by decide)
  · rw [ifF_ne (by decide), ifF_ne (by decide)]
    exact h.two

/-- One element more of the 11-th. -/
theorem Pq.add11 (h : Pq w T n sp db dc qs f m4 m5 m10 m11 m12 W) (hm : m11 < 1000) :
    ∃ g cap W2, (Builtin.append_ #[41, 41] 41 #[f 11, .slice (some ⟨W.heap.size, 0, none⟩) 1 1]).run Tryz.prog (W.alloc (.cells #[.slice none 0 0] 45)) = .ok (.slice (some ⟨g, 0, none⟩) (m11 + 1) cap) W2 ∧ S13 W2 sp f ∧ Pq w T n sp db dc qs (ifF f 11 (.slice (some ⟨g, 0, none⟩) (m11 + 1) cap)) m4 m5 m10 (m11 + 1) m12 (W2.setCell ⟨sp, 11, none⟩ (.slice (some ⟨g, 0, none⟩) (m11 + 1) cap)) := by
  have ka : Kp [] W (W.alloc (.cells #[.slice none 0 0] 45)) := (Kp.refl _ _).alloc _
  have hB : w.heap.size ≤ (W.alloc (.cells #[.slice none 0 0] 45)).heap.size := Nat.le_trans h.hk.size ka.size
  obtain ⟨g, cap, W2, hrun, hrw, hkp, hg⟩ := Gx.run_app (T := 45) (t := 41) (ty := 41) (base := w.heap.size) Tryz.underlying41 info_row (by decide) (h.r11.keep0 ka) hB ⟨W.heap.size, 0, none⟩ 1 1 [.slice none 0 0] (by rfl) (by
    intro j u hu
    have e : (⟨W.heap.size, 0, none⟩ : Addr).add j = ⟨W.heap.size, j, none⟩ := by simp [Addr.add]; omega
    rw [e, cell_of_row (heap_alloc_new W _), ← hu]
    simp) (by simp [Value.oneCell']) (by omega) (by omega) (by decide)
  have hrb := h.r11.block
  have hspr : ∀ g ∈ Gx.blk (f 11), g ≠ sp := fun g hg e => by
    obtain ⟨_, cur, hc⟩ := hrb g hg
    have hst := h.hs
    unfold S13 at hst
    rw [e, hst] at hc; simp at hc
  have k1 : Kp (Gx.blk (f 11)) W W2 := (ka.mono (by simp)).trans hkp
  have s2 : S13 W2 sp f := h.hs.keep k1 fun e => hspr sp e rfl
  have k2 : Kp [sp] W2 (W2.setCell ⟨sp, 11, none⟩ (.slice (some ⟨g, 0, none⟩) (m11 + 1) cap)) := (Kp.refl _ _).setCell (.inl (by simp)) _
  have K : Kp (sp :: Gx.blk (f 11)) W (W2.setCell ⟨sp, 11, none⟩ (.slice (some ⟨g, 0, none⟩) (m11 + 1) cap)) := (k1.mono fun x hx _ => by simp [hx]).trans (k2.mono fun x hx _ => by simp at hx; simp [hx])
  have hS : ∀ g ∈ sp :: Gx.blk (f 11), w.heap.size ≤ g ∧ ∃ cur U, W.heap[g]? = some (.cells cur U (0, 0)) ∧ U ≠ 95 ∧ U ≠ 53 ∧ U ≠ 177 ∧ (U = 43 ∨ U = 45) := fun g hg => by
    rw [List.mem_cons] at hg
    rcases hg with e | e
    · subst e; exact ⟨by have := h.lo; omega, _, _, h.hs, by decide, by decide, by decide, .inl rfl⟩
    · obtain ⟨h1, cur, hc⟩ := hrb g e
      exact ⟨h1, _, _, hc, by decide, by decide, by decide, .inr rfl⟩
  have hty : ∀ {U : TypeId} {sz m : Nat} {x : Value} {xs : List Value}, Gx.Rw U sz w.heap.size W x m xs → U ≠ 43 → U ≠ 45 → Gx.Rw U sz w.heap.size (W2.setCell ⟨sp, 11, none⟩ (.slice (some ⟨g, 0, none⟩) (m11 + 1) cap)) x m xs := fun hr h1 h2 => hr.keep K fun g hg e => by
    obtain ⟨_, cur, hc⟩ := Gx.Rw.block hr g hg
    obtain ⟨_, cur2, U2, hc2, _, _, _, h4⟩ := hS g e
    rw [hc] at hc2; simp at hc2
    rcases h4 with z | z
    · exact h1 (hc2.2.trans z)
    · exact h2 (hc2.2.trans z)
  obtain ⟨a1, a2, a3, a4⟩ := h.still K fun g hg _ => by
    obtain ⟨b1, cur, U, hc, b2, b3, b4, _⟩ := hS g hg
    exact ⟨b1, cur, U, hc, b2, b3, b4⟩
  refine ⟨g, cap, W2, hrun, s2, { hs := s2.set (by decide) _, hh := a1, hd := a2, hk := a3, hl := a4, qge := h.qge, qne := h.qne, r4 := ?_, r5 := ?_, r10 := ?_, r11 := ?_, r12 := ?_, two := ?_, lo := h.lo, f0 := (ifF_ne (by decide)).trans h.f0, f1 := (ifF_ne (by decide)).trans h.f1, f2 := (ifF_ne (by decide)).trans h.f2, f3 := (ifF_ne (by decide)).trans h.f3, f6 := (ifF_ne (by decide)).trans h.f6, f7 := (ifF_ne (by decide)).trans h.f7, f8 := (ifF_ne (by decide)).trans h.f8, f9 := (ifF_ne (by decide)).trans h.f9 }⟩
  · rw [ifF_ne (by decide)]
    exact hty h.r4 (by decide) (by decide)
  · rw [ifF_ne (by decide)]
    exact hty h.r5 (by decide) (by decide)
  · rw [ifF_ne (by decide)]
    exact hty h.r10 (by decide) (by decide)
  · rw [ifF_same]
    have e : (List.range (m11 + 1)).map (fun _ => Value.slice none 0 0) = (List.range m11).map (fun _ => Value.slice none 0 0) ++ [.slice none 0 0] := by
      rw [List.range_succ, List.map_append, List.map_singleton]
    rw [e]
    exact hrw.keep k2 fun b hb e => by
      rw [List.mem_singleton] at e
      rw [Gx.blk_some, List.mem_singleton] at hb
      rcases hg with z | z
      · exact hspr g z (hb.symm.trans e)
      · have := lt_of_block h.hs; have := ka.size; omega
  · rw [ifF_ne (by decide)]
    refine h.r12.keep K fun g hg e => ?_
    rw [List.mem_cons] at e
    rcases e with e | e
    · obtain ⟨_, cur, hc⟩ := h.r12.block g hg
      have hst := h.hs
      unfold S13 at hst
      rw [e, hst] at hc; simp at hc
    · exact h.two g e hg
  · intro b hb hb2
    rw [ifF_same] at hb
    rw [ifF_ne (by decide)] at hb2
    rw [Gx.blk_some, List.mem_singleton] at hb
    rcases hg with z | z
    · exact h.two b (hb ▸ z) hb2
    · obtain ⟨_, cur, hc⟩ := h.r12.block b hb2
      have := lt_of_block hc; have := ka.size; omega

/-- One element more of the 12-th. -/
theorem Pq.add12 (h : Pq w T n sp db dc qs f m4 m5 m10 m11 m12 W) (hm : m12 < 1000) :
    ∃ g cap W2, (Builtin.append_ #[41, 41] 41 #[f 12, .slice (some ⟨W.heap.size, 0, none⟩) 1 1]).run Tryz.prog (W.alloc (.cells #[.slice none 0 0] 45)) = .ok (.slice (some ⟨g, 0, none⟩) (m12 + 1) cap) W2 ∧ S13 W2 sp f ∧ Pq w T n sp db dc qs (ifF f 12 (.slice (some ⟨g, 0, none⟩) (m12 + 1) cap)) m4 m5 m10 m11 (m12 + 1) (W2.setCell ⟨sp, 12, none⟩ (.slice (some ⟨g, 0, none⟩) (m12 + 1) cap)) := by
  have ka : Kp [] W (W.alloc (.cells #[.slice none 0 0] 45)) := (Kp.refl _ _).alloc _
  have hB : w.heap.size ≤ (W.alloc (.cells #[.slice none 0 0] 45)).heap.size := Nat.le_trans h.hk.size ka.size
  obtain ⟨g, cap, W2, hrun, hrw, hkp, hg⟩ := Gx.run_app (T := 45) (t := 41) (ty := 41) (base := w.heap.size) Tryz.underlying41 info_row (by decide) (h.r12.keep0 ka) hB ⟨W.heap.size, 0, none⟩ 1 1 [.slice none 0 0] (by rfl) (by
    intro j u hu
    have e : (⟨W.heap.size, 0, none⟩ : Addr).add j = ⟨W.heap.size, j, none⟩ := by simp [Addr.add]; omega
    rw [e, cell_of_row (heap_alloc_new W _), ← hu]
    simp) (by simp [Value.oneCell']) (by omega) (by omega) (by decide)
  have hrb := h.r12.block
  have hspr : ∀ g ∈ Gx.blk (f 12), g ≠ sp := fun g hg e => by
    obtain ⟨_, cur, hc⟩ := hrb g hg
    have hst := h.hs
    unfold S13 at hst
    rw [e, hst] at hc; simp at hc
  have k1 : Kp (Gx.blk (f 12)) W W2 := (ka.mono (by simp)).trans hkp
  have s2 : S13 W2 sp f := h.hs.keep k1 fun e => hspr sp e rfl
  have k2 : Kp [sp] W2 (W2.setCell ⟨sp, 12, none⟩ (.slice (some ⟨g, 0, none⟩) (m12 + 1) cap)) := (Kp.refl _ _).setCell (.inl (by simp)) _
  have K : Kp (sp :: Gx.blk (f 12)) W (W2.setCell ⟨sp, 12, none⟩ (.slice (some ⟨g, 0, none⟩) (m12 + 1) cap)) := (k1.mono fun x hx _ => by simp [hx]).trans (k2.mono fun x hx _ => by simp at hx; simp [hx])
  have hS : ∀ g ∈ sp :: Gx.blk (f 12), w.heap.size ≤ g ∧ ∃ cur U, W.heap[g]? = some (.cells cur U (0, 0)) ∧ U ≠ 95 ∧ U ≠ 53 ∧ U ≠ 177 ∧ (U = 43 ∨ U = 45) := fun g hg => by
    rw [List.mem_cons] at hg
    rcases hg with e | e
    · subst e; exact ⟨by have := h.lo; omega, _, _, h.hs, by decide, by decide, by decide, .inl rfl⟩
    · obtain ⟨h1, cur, hc⟩ := hrb g e
      exact ⟨h1, _, _, hc, by decide, by decide, by decide, .inr rfl⟩
  have hty : ∀ {U : TypeId} {sz m : Nat} {x : Value} {xs : List Value}, Gx.Rw U sz w.heap.size W x m xs → U ≠ 43 → U ≠ 45 → Gx.Rw U sz w.heap.size (W2.setCell ⟨sp, 12, none⟩ (.slice (some ⟨g, 0, none⟩) (m12 + 1) cap)) x m xs := fun hr h1 h2 => hr.keep K fun g hg e => by
    obtain ⟨_, cur, hc⟩ := Gx.Rw.block hr g hg
    obtain ⟨_, cur2, U2, hc2, _, _, _, h4⟩ := hS g e
    rw [hc] at hc2; simp at hc2
    rcases h4 with z | z
    · exact h1 (hc2.2.trans z)
    · exact h2 (hc2.2.trans z)
  obtain ⟨a1, a2, a3, a4⟩ := h.still K fun g hg _ => by
    obtain ⟨b1, cur, U, hc, b2, b3, b4, _⟩ := hS g hg
    exact ⟨b1, cur, U, hc, b2, b3, b4⟩
  refine ⟨g, cap, W2, hrun, s2, { hs := s2.set (by decide) _, hh := a1, hd := a2, hk := a3, hl := a4, qge := h.qge, qne := h.qne, r4 := ?_, r5 := ?_, r10 := ?_, r11 := ?_, r12 := ?_, two := ?_, lo := h.lo, f0 := (ifF_ne (by decide)).trans h.f0, f1 := (ifF_ne (by decide)).trans h.f1, f2 := (ifF_ne (by decide)).trans h.f2, f3 := (ifF_ne (by decide)).trans h.f3, f6 := (ifF_ne (by decide)).trans h.f6, f7 := (ifF_ne (by decide)).trans h.f7, f8 := (ifF_ne (by decide)).trans h.f8, f9 := (ifF_ne (by decide)).trans h.f9 }⟩
  · rw [ifF_ne (by decide)]
    exact hty h.r4 (by decide) (by decide)
  · rw [ifF_ne (by decide)]
    exact hty h.r5 (by decide) (by decide)
  · rw [ifF_ne (by decide)]
    exact hty h.r10 (by decide) (by decide)
  · rw [ifF_ne (by decide)]
    refine h.r11.keep K fun g hg e => ?_
    rw [List.mem_cons] at e
    rcases e with e | e
    · obtain ⟨_, cur, hc⟩ := h.r11.block g hg
      have hst := h.hs
      unfold S13 at hst
      rw [e, hst] at hc; simp at hc
    · exact h.two g hg e
  · rw [ifF_same]
    have e : (List.range (m12 + 1)).map (fun _ => Value.slice none 0 0) = (List.range m12).map (fun _ => Value.slice none 0 0) ++ [.slice none 0 0] := by
      rw [List.range_succ, List.map_append, List.map_singleton]
    rw [e]
    exact hrw.keep k2 fun b hb e => by
      rw [List.mem_singleton] at e
      rw [Gx.blk_some, List.mem_singleton] at hb
      rcases hg with z | z
      · exact hspr g z (hb.symm.trans e)
      · have := lt_of_block h.hs; have := ka.size; omega
  · intro b hb hb2
    rw [ifF_ne (by decide)] at hb
    rw [ifF_same] at hb2
    rw [Gx.blk_some, List.mem_singleton] at hb2
    rcases hg with z | z
    · exact h.two b hb (hb2 ▸ z)
    · obtain ⟨_, cur, hc⟩ := h.r11.block b hb
      have := lt_of_block hc; have := ka.size; omega

/-- The beginning, as the law's State. -/
theorem Pq.aw (h : Pq w T n sp db dc qs f T T T T T W) (hT : 0 < T) (hT4 : T ≤ 4) (hn : n ≤ 12) (T0 : Cl.Tab w) :
    Aw T n (w.heap.size + 1) w.heap.size sp qs ⟨f, fun _ _ => .slice none 0 0, fun _ _ => .slice none 0 0, fun _ => .slice none 0 0, fun _ => .slice none 0 0, db, dc⟩ ⟨HB T n, fun _ _ => [], fun _ => false, fun _ => [], fun _ => []⟩ 1 (fun g => if g = 0 then 2000 else 0) W := by
  have hlt : 0 < w.heap.size := World.block_lt_of_cell? _ _ T0.c0
  have low : ∀ {U : TypeId} {sz base m : Nat} {x : Value} {xs : List Value}, Gx.Rw U sz base W x m xs → Gx.Rw U sz 0 W x m xs := fun hr => by
    refine ⟨hr.own.1, ?_⟩
    rcases hr.own.2 with h0 | ⟨b, c, cur, rfl, hge, hb, r⟩
    · exact .inl h0
    · exact .inr ⟨b, c, cur, rfl, Nat.zero_le _, hb, r⟩
  have hlen : (HB T n).length = 3 + T + 33 * n := by simp [HB]
  refine { st := h.hs, f0 := h.f0, f1 := h.f1, f2 := h.f2, f3 := h.f3, f6 := h.f6, f7 := h.f7, f8 := h.f8, f9 := h.f9, fit := fit_begin T n hn, mws := ⟨fun i hi => ⟨⟨1, Nat.le_refl _, h.hh⟩, h.hl i hi, fun c hc => ⟨by simp, by simp⟩, by show (HB T n).length ≤ 1000; omega, tab_keep T0 h.hk (by simp), ?_, ?_, ?_, ?_⟩, fun i j hi hj hij => h.qne i j hi hj hij, fun i j hi hj hij g hg => ?_⟩, dh := h.hd, free := low h.r4, walks := low h.r5, docs := low h.r10, rd := fun i hi d hd => Li.Rd.nil _, mades := low h.r11, sizes := low h.r12, mr := fun i hi => Li.Rw.nil _, sr := fun i hi => Li.Rw.nil _, two := h.two, c1 := fun i hi g hg => ?_, c2 := fun i hi d hd g hg => ?_, c3 := fun i hi g hg => ?_, c4 := fun i hi g hg => ?_, lt := fun i hi d hd g hg => ?_, spg := ?_, cq := fun i hi => ?_, cg := if_pos rfl, c0 := fun g hg => ?_ }
  · omega
  · omega
  · have := h.qge i hi; omega
  · rintro ⟨c, _, hb⟩; simp [Li.blk_nil] at hb
  · obtain ⟨c, _, hb⟩ := hg; simp [Li.blk_nil] at hb
  · obtain ⟨c, _, hb⟩ := hg; simp [Li.blk_nil] at hb
  · simp [Li.blk_nil] at hg
  · simp [Li.blk_nil] at hg
  · simp [Li.blk_nil] at hg
  · simp [Li.blk_nil] at hg
  · have := h.lo; omega
  · have := h.qge i hi
    exact if_neg (by omega)
  · have hge : w.heap.size ≤ g := by
      rcases hg with e | e | e | e | e | e | e | e
      · omega
      · omega
      · have := h.lo; omega
      · exact (h.r4.block g e).1
      · exact (h.r5.block g e).1
      · exact (h.r10.block g e).1
      · exact (h.r11.block g e).1
      · exact (h.r12.block g e).1
    exact if_neg (by omega)
end
end Go.Proofs.YtdbbkncjhnafdaaGreatDoor
