/- ArenaPlays, walked. Conditions: the acts lie where the slice leads. -/
import Derived.Test.YtpcoclbokpffaaaArnP
import Derived.Test.YtpcoclbokpffaaaArnOpen
import Derived.Deep.LoopGhost
import Derived.Deep.CutRange
import Derived.Deep.CutBlock
import Derived.Deep.DeepCutAuto
import Derived.Carry
import Derived.BigQuiet
namespace Go.Proofs.Ytpcoclbokpffaaa
set_option linter.unusedVariables false
set_option linter.unusedSimpArgs false
open Go.RowKit

/-- What is known ahead of a round: the arena, and the document's own, in one state. -/
structure PRel (w : World) (p r W n : Nat) (w' : World) (s : St) (g cap : Nat) : Prop where
  ar : Ar w' p r s
  wb : w'.heap[W]? = some (.cells (aggOf g cap s) 31 (0, 0))
  rw : Rw w' g cap s.ws
  rg : r ≠ g
  n : s.ws.length = n
  bel : Below w.heap.size w w'
  ge : w.heap.size ≤ p ∧ w.heap.size ≤ r ∧ w.heap.size ≤ W

theorem PRel.quiet {w w' w'' : World} {p r W n g cap : Nat} {s : St} (h : PRel w p r W n w' s g cap) (hk : Kp [] w' w'') : PRel w p r W n w'' s g cap :=
  ⟨h.ar.keep hk (by simp) (by simp), hk.row (by simp) h.wb, h.rw.keep hk (by simp), h.rg, h.n, h.bel.trans (hk.below h.bel.size (by simp)), h.ge⟩

theorem ne_types {w : World} {a b : Nat} {x y : Array Value} {t u : TypeId} (h : w.heap[a]? = some (.cells x t (0, 0))) (k : w.heap[b]? = some (.cells y u (0, 0))) (htu : t ≠ u) : a ≠ b := by
  intro e; subst e
  have := h.symm.trans k
  simp at this
  exact htu this.2

/-- What is known in a round: the arena in state sa; the document's own in state s; its next one, in state sv, in the box vb. -/
structure PE (w : World) (p r W x vb n : Nat) (d c v : Int) (w' : World) (s : St) (g cap : Nat) (sa sv : St) (gv capv : Nat) : Prop where
  ar : Ar w' p r sa
  wb : w'.heap[W]? = some (.cells (aggOf g cap s) 31 (0, 0))
  rw : Rw w' g cap s.ws
  rg : r ≠ g
  hn : s.ws.length = n
  bel : Below w.heap.size w w'
  ge : w.heap.size ≤ p ∧ w.heap.size ≤ r ∧ w.heap.size ≤ W
  hx : w'.heap[x]? = some (.cells #[.int .u8 d, .int .i64 c, .int .u64 v] 34 (0, 0))
  hv : w'.heap[vb]? = some (.cells (aggOf gv capv sv) 31 (0, 0))
  rv : Rw w' gv capv sv.ws
  rgv : r ≠ gv
  nv : sv.ws.length = n
  ne : W ≠ vb ∧ w.heap.size ≤ vb

section
variable {w w' w'' : World} {p r W x vb n g cap gv capv : Nat} {d c v : Int} {s sa sa' sv : St}
theorem PE.quiet (E : PE w p r W x vb n d c v w' s g cap sa sv gv capv) (hk : Kp [] w' w'') : PE w p r W x vb n d c v w'' s g cap sa sv gv capv :=
  ⟨E.ar.keep hk (by simp) (by simp), hk.row (by simp) E.wb, E.rw.keep hk (by simp), E.rg, E.hn, E.bel.trans (hk.below E.bel.size (by simp)), E.ge, hk.row (by simp) E.hx, hk.row (by simp) E.hv, E.rv.keep hk (by simp), E.rgv, E.nv, E.ne⟩
theorem PE.arena (E : PE w p r W x vb n d c v w' s g cap sa sv gv capv) (ha : Ar w'' p r sa') (hk : Kp [p, r] w' w'') : PE w p r W x vb n d c v w'' s g cap sa' sv gv capv :=
  have a1 := ne_types E.wb E.ar.hp (by decide)
  have a2 := ne_types E.wb E.ar.hr (by decide)
  have a3 := ne_types E.hx E.ar.hp (by decide)
  have a4 := ne_types E.hx E.ar.hr (by decide)
  have a5 := ne_types E.hv E.ar.hp (by decide)
  have a6 := ne_types E.hv E.ar.hr (by decide)
  have a7 := E.rw.ne E.ar.hp (by decide)
  have a8 := E.rv.ne E.ar.hp (by decide)
  ⟨ha, hk.row (by simp [a1, a2]) E.wb, E.rw.keep hk (by simp [a7, Ne.symm E.rg]), E.rg, E.hn, E.bel.trans (hk.below E.bel.size (by have := E.ge; simp; omega)), E.ge, hk.row (by simp [a3, a4]) E.hx, hk.row (by simp [a5, a6]) E.hv,
    E.rv.keep hk (by simp [a8, Ne.symm E.rgv]), E.rgv, E.nv, E.ne⟩
theorem PE.ask (E : PE w p r W x vb n d c v w' s g cap sa sv gv capv) {ab : Nat} {q : Value} (hab : w'.heap[ab]? = some (.cells #[q] 3 (0, 0))) (hge : w.heap.size ≤ ab) (ha : Ar w'' p r sa') (hk : Kp [p, r, ab] w' w'') : PE w p r W x vb n d c v w'' s g cap sa' sv gv capv :=
  have a1 := ne_types E.wb E.ar.hp (by decide)
  have a2 := ne_types E.wb E.ar.hr (by decide)
  have a3 := ne_types E.hx E.ar.hp (by decide)
  have a4 := ne_types E.hx E.ar.hr (by decide)
  have a5 := ne_types E.hv E.ar.hp (by decide)
  have a6 := ne_types E.hv E.ar.hr (by decide)
  have a7 := E.rw.ne E.ar.hp (by decide)
  have a8 := E.rv.ne E.ar.hp (by decide)
  have b1 := ne_types E.wb hab (by decide)
  have b2 := ne_types E.hx hab (by decide)
  have b3 := ne_types E.hv hab (by decide)
  have b4 := E.rw.ne hab (by decide)
  have b5 := E.rv.ne hab (by decide)
  ⟨ha, hk.row (by simp [a1, a2, b1]) E.wb, E.rw.keep hk (by simp [a7, Ne.symm E.rg, b4]), E.rg, E.hn, E.bel.trans (hk.below E.bel.size (by have := E.ge; simp; omega)), E.ge, hk.row (by simp [a3, a4, b2]) E.hx, hk.row (by simp [a5, a6, b3]) E.hv,
    E.rv.keep hk (by simp [a8, Ne.symm E.rgv, b5]), E.rgv, E.nv, E.ne⟩
theorem PE.setv (E : PE w p r W x vb n d c v w' s g cap sa sv gv capv) {g7 cap7 : Nat} {s7 : St} (hr : Rw w' g7 cap7 s7.ws) (hrg : r ≠ g7) (hn7 : s7.ws.length = n) :
    PE w p r W x vb n d c v (w'.setRow vb #[.slice (some ⟨g7, 0, none⟩) n cap7, .int .u64 s7.t, .int .i64 (lastOf s7)]) s g cap sa s7 g7 cap7 := by
  have hk : Kp [vb] w' (w'.setRow vb #[.slice (some ⟨g7, 0, none⟩) n cap7, .int .u64 s7.t, .int .i64 (lastOf s7)]) := (Kp.refl _ _).setRow (.inl (by simp)) _
  have a5 := ne_types E.hv E.ar.hp (by decide)
  have a6 := ne_types E.hv E.ar.hr (by decide)
  have a7 := ne_types E.hx E.hv (by decide)
  have b4 := E.rw.ne E.hv (by decide)
  have b5 := hr.ne E.hv (by decide)
  refine ⟨E.ar.keep hk (by simp [Ne.symm a5]) (by simp [Ne.symm a6]), hk.row (by simp [E.ne.1]) E.wb, E.rw.keep hk (by simp [b4]), E.rg, E.hn, E.bel.trans (hk.below E.bel.size (by simp; exact E.ne.2)), E.ge, hk.row (by simp [a7]) E.hx, ?_, hr.keep hk (by simp [b5]), hrg, hn7, E.ne⟩
  rw [setRow_heap _ _ _ _ _ _ E.hv, aggOf, hn7]
theorem PE.make {w4 w5 : World} {g' cap' : Nat} (Ra : PRel w p r W n w4 s g cap) (hxa : w4.heap[x]? = some (.cells #[.int .u8 d, .int .i64 c, .int .u64 v] 34 (0, 0))) (hr5 : Rw w5 g' cap' sv.ws) (hg5 : g' = g ∨ w4.heap.size ≤ g') (hk5 : Kp [] w4 w5) (hnv : sv.ws.length = n) :
    PE w p r W x w5.heap.size n d c v (w5.alloc (.cells #[.slice (some ⟨g', 0, none⟩) n cap', .int .u64 sv.t, .int .i64 (lastOf sv)] 31)) s g cap s sv g' cap' := by
  have ha := (Kp.refl [] w5).alloc (.cells #[.slice (some ⟨g', 0, none⟩) n cap', .int .u64 sv.t, .int .i64 (lastOf sv)] 31)
  have R := (Ra.quiet hk5).quiet ha
  have hb := heap_alloc_new w5 (.cells #[.slice (some ⟨g', 0, none⟩) n cap', .int .u64 sv.t, .int .i64 (lastOf sv)] 31)
  refine ⟨R.ar, R.wb, R.rw, R.rg, R.n, R.bel, R.ge, ha.row (by simp) (hk5.row (by simp) hxa), ?_, hr5.keep ha (by simp), ?_, hnv, ?_⟩
  · rw [hb, aggOf, hnv]
  · have := Ra.ar.lt
    have := Ra.rg
    omega
  · have := lt_of_block (Ra.quiet hk5).wb
    exact ⟨by omega, (Ra.quiet hk5).bel.size⟩

/-- 'w = v': the document's own arena is its next one. -/
theorem PE.next (E : PE w p r W x vb n d c v w' s g cap sv sv gv capv) :
    PRel w p r W n (w'.setRow W #[.slice (some ⟨gv, 0, none⟩) n capv, .int .u64 sv.t, .int .i64 (lastOf sv)]) sv gv capv := by
  have hk : Kp [W] w' (w'.setRow W #[.slice (some ⟨gv, 0, none⟩) n capv, .int .u64 sv.t, .int .i64 (lastOf sv)]) := (Kp.refl _ _).setRow (.inl (by simp)) _
  have a5 := ne_types E.wb E.ar.hp (by decide)
  have a6 := ne_types E.wb E.ar.hr (by decide)
  have b5 := E.rv.ne E.wb (by decide)
  refine ⟨E.ar.keep hk (by simp [Ne.symm a5]) (by simp [Ne.symm a6]), ?_, E.rv.keep hk (by simp [b5]), E.rgv, E.nv, E.bel.trans (hk.below E.bel.size (by have := E.ge; simp; omega)), E.ge⟩
  rw [setRow_heap _ _ _ _ _ _ E.wb, aggOf, E.nv]
theorem kp_drewN (w : World) (j : Nat) : Kp [] w (w.drewN j) := ⟨rfl, rfl, rfl, Nat.le_refl _, fun _ _ _ => rfl⟩

theorem PE.w0 (E : PE w p r W x vb n d c v w' s g cap sa sv gv capv) : w'.cell? ⟨W, 0, none⟩ = some (.slice (some ⟨g, 0, none⟩) n cap) ∧ w'.cell? ⟨W, 1, none⟩ = some (.int .u64 s.t) ∧ w'.cell? ⟨W, 2, none⟩ = some (.int .i64 (lastOf s)) := by
  refine ⟨?_, ?_, ?_⟩ <;> rw [cell_of_row E.wb] <;> simp [aggOf, E.hn]
theorem PE.v0 (E : PE w p r W x vb n d c v w' s g cap sa sv gv capv) : w'.cell? ⟨vb, 0, none⟩ = some (.slice (some ⟨gv, 0, none⟩) n capv) ∧ w'.cell? ⟨vb, 1, none⟩ = some (.int .u64 sv.t) ∧ w'.cell? ⟨vb, 2, none⟩ = some (.int .i64 (lastOf sv)) := by
  refine ⟨?_, ?_, ?_⟩ <;> rw [cell_of_row E.hv] <;> simp [aggOf, E.nv]
theorem PE.x0 (E : PE w p r W x vb n d c v w' s g cap sa sv gv capv) : w'.cell? ⟨x, 0, none⟩ = some (.int .u8 d) ∧ w'.cell? ⟨x, 1, none⟩ = some (.int .i64 c) ∧ w'.cell? ⟨x, 2, none⟩ = some (.int .u64 v) := by
  refine ⟨?_, ?_, ?_⟩ <;> rw [cell_of_row E.hx] <;> rfl
end

set_option maxRecDepth 100000 in
set_option maxHeartbeats 20000000 in
theorem plays_main (w : World) (n : Nat) (ao : Option Addr) (L : List (Int × Int × Int)) (cap : Nat) (hn1 : 1 ≤ n) (hn : n ≤ 300) (hL : L.length ≤ 100) (hA : Acts w ao L) :
    Calls Try.prog 3 #[.int .i64 n, .slice ao L.length cap] w fun e w' => e = .returned (.bool true) ∧ Below w.heap.size w w' := by
  have hnew := new_good w n hn1 (by omega)
  obtain ⟨m, hm⟩ : ∃ m, m = L.length := ⟨_, rfl⟩
  rw [← hm]
  have hm100 : m ≤ 100 := by omega
  have HM : Hid (m = L.length) := hm
  clear hm hL
  go_enter Try.func3, Try.ntmps3
  go_wp2_with fail
  refine hnew.mono ?_
  rintro e w1 ⟨rfl, ha1, hk1⟩
  obtain ⟨p, hp⟩ : ∃ p, p = w.heap.size + 1 := ⟨_, rfl⟩
  obtain ⟨r, hr⟩ : ∃ r, r = w.heap.size := ⟨_, rfl⟩
  have hpw : w.heap.size ≤ p := by omega
  have hrw : w.heap.size ≤ r := by omega
  have ha1' : Ar w1 p r (fresh n) := hp ▸ hr ▸ ha1
  rw [← hp]
  clear hp hr ha1 hnew
  have hrn := rnew_good w1 n hn1 (by omega)
  go_wp2_with fail
  refine hrn.mono ?_
  rintro e w2 ⟨rfl, hr2, hk2⟩
  obtain ⟨g, hg⟩ : ∃ g, g = w1.heap.size + 1 := ⟨_, rfl⟩
  rw [← hg] at hr2 ⊢
  have hgr : r ≠ g := by have := ha1'.lt; omega
  have hl1 := ha1'.lt
  clear hg hrn
  obtain ⟨W, hW⟩ : ∃ W, W = w2.heap.size := ⟨_, rfl⟩
  have R0 : PRel w p r W n (w2.alloc (Obj.cells #[Value.slice (some { block := g, off := 0 }) n n, Value.int IntKind.u64 0, Value.int IntKind.i64 (-1)] 31)) (fresh n) g n := by
    have ha := (Kp.refl [] w2).alloc (Obj.cells #[Value.slice (some { block := g, off := 0 }) n n, Value.int IntKind.u64 0, Value.int IntKind.i64 (-1)] 31)
    refine ⟨(ha1'.keep hk2 (by simp) (by simp)).keep ha (by simp) (by simp), ?_, hr2.keep ha (by simp), hgr, by simp [fresh], ((hk1.trans hk2).trans ha).to_below, hpw, hrw, ?_⟩
    · rw [hW]
      have := heap_alloc_new w2 (Obj.cells #[Value.slice (some { block := g, off := 0 }) n n, Value.int IntKind.u64 0, Value.int IntKind.i64 (-1)] 31)
      simpa [aggOf, fresh, lastOf] using this
    · rw [hW]; exact Nat.le_trans hk1.size hk2.size
  clear hk1 hk2 ha1' hr2 hgr hl1
  go_wp2_with fail
  rw [← hW]
  clear hW
  generalize w2.alloc (Obj.cells #[Value.slice (some { block := g, off := 0 }) n n, Value.int IntKind.u64 0, Value.int IntKind.i64 (-1)] 31) = w3 at R0 ⊢
  clear w2 w1
  go_loopg [8] m (fun gg i wr => ∃ k s g cap, k + gg = m ∧ i = .int .i64 (k : Int) ∧ s.t ≤ k ∧ PRel w p r W n wr s g cap)
  case atStart => exact ⟨0, fresh n, g, n, by omega, rfl, by simp [fresh], R0⟩
  case round =>
    clear R0
    obtain ⟨k, s, g, cap, hkg, rfl, hst, R⟩ := hrel
    have hRn := R.n
    have hbelr := R.bel
    by_cases hkl : k < m
    · have hLk : k < L.length := HM.out ▸ hkl
      obtain ⟨b, o, hao, hbw, q0, q1, q2, f0, f1, f2⟩ := hA k _ (List.getElem?_eq_getElem hLk)
      subst hao
      generalize L[k].1 = d at q0 f0
      generalize L[k].2.1 = c at q1 f1
      generalize L[k].2.2 = v at q2 f2
      have g0 := (hbelr.cell (p := ⟨b, o + k * 3, none⟩) hbw).trans q0
      have g1 := (hbelr.cell (p := ⟨b, o + k * 3 + 1, none⟩) hbw).trans q1
      have g2 := (hbelr.cell (p := ⟨b, o + k * 3 + 2, none⟩) hbw).trans q2
      clear q0 q1 q2
      have hka := (Kp.refl [] wr).alloc (.cells #[.int .u8 d, .int .i64 c, .int .u64 v] 34)
      have hxa := heap_alloc_new wr (.cells #[.int .u8 d, .int .i64 c, .int .u64 v] 34)
      have Ra := R.quiet hka
      obtain ⟨x, hx⟩ : ∃ x, x = wr.heap.size := ⟨_, rfl⟩
      rw [← hx] at hxa
      clear R hbelr hka
      go_upto_region 13 with (fail)
      rw [← hx]
      clear hx g0 g1 g2
      generalize wr.alloc (.cells #[.int .u8 d, .int .i64 c, .int .u64 v] 34) = w4 at Ra hxa ⊢
      clear wr
      go_cut [10, 11] from 56 to 141 (fun t10 t11 w' => ∃ vb gv capv, t10 = .pointer (some ⟨vb, 0, none⟩) ∧ t11 = .int .u64 (was s c) ∧ PE w p r W x vb n d c v w' s g cap s (upd s c (if d = 0 then was s c else v)) gv capv)
      case first =>
        have hx0 : w4.cell? ⟨x, 0, none⟩ = some (.int .u8 d) := by rw [cell_of_row hxa]; rfl
        have hx1 : w4.cell? ⟨x, 1, none⟩ = some (.int .i64 c) := by rw [cell_of_row hxa]; rfl
        have hx2 : w4.cell? ⟨x, 2, none⟩ = some (.int .u64 v) := by rw [cell_of_row hxa]; rfl
        have hc0 : w4.cell? ⟨W, 0, none⟩ = some (.slice (some ⟨g, 0, none⟩) n cap) := by rw [cell_of_row Ra.wb]; simp [aggOf, hRn]
        have hc1 : w4.cell? ⟨W, 1, none⟩ = some (.int .u64 s.t) := by rw [cell_of_row Ra.wb]; rfl
        have hc2 : w4.cell? ⟨W, 2, none⟩ = some (.int .i64 (lastOf s)) := by rw [cell_of_row Ra.wb]; rfl
        have hto := fun bb => rtouch_any w4 g cap s c v bb Ra.rw (by omega) (by omega) (by omega)
        rw [hRn] at hto
        by_cases hd : d = 0
        · go_wp2_with fail
          refine (hto false).mono ?_
          rintro e w5 ⟨g', cap', rfl, hr5, hg5, hk5⟩
          have E := PE.make Ra hxa hr5 hg5 hk5 (by rw [upd_len, hRn])
          have HE := Lib.hid E
          have HD := Lib.hid hd
          clear hto Ra hxa hr5 hg5 hk5 hx0 hx1 hx2 hc0 hc1 hc2 E hd
          go_wp2_with fail
          go_meet
          case rel => exact ⟨_, g', cap', rfl, rfl, by rw [if_pos HD.out]; exact HE.out⟩
        · go_wp2_with fail
          rw [show (d != 0) = true from by simp [hd]]
          refine (hto true).mono ?_
          rintro e w5 ⟨g', cap', rfl, hr5, hg5, hk5⟩
          have E := PE.make Ra hxa hr5 hg5 hk5 (by rw [upd_len, hRn])
          have HE := Lib.hid E
          have HD := Lib.hid hd
          clear hto Ra hxa hr5 hg5 hk5 hx0 hx1 hx2 hc0 hc1 hc2 E hd
          go_wp2_with fail
          go_meet
          case rel => exact ⟨_, g', cap', rfl, rfl, by rw [if_neg HD.out]; exact HE.out⟩
      case rest =>
        obtain ⟨vb, gv, capv, rfl, rfl, E⟩ := hcut
        clear Ra hxa
        have hx0 := E.x0.1
        go_upto_block 2 with (fail)
        go_cut [] from 56 to 141 (fun w' => ∃ yv gv capv, PE w p r W x vb n d c v w' s g cap (upd s c yv) (upd s c yv) gv capv)
        case first =>
          obtain ⟨_, hx1, hx2⟩ := E.x0
          have hs1 : s.ws.length ≤ 4096 := by omega
          have hs2 : s.t ≤ 4096 := by omega
          -- FIRST
          by_cases hd : d = 0
          · rw [if_pos hd] at E
            go_wp2_with fail
            refine (read_any _ p r s c E.ar hs1 hs2).mono ?_
            rintro e w6 ⟨rfl, ha6, hk6⟩
            have E6 := Lib.hid (E.arena ha6 hk6)
            clear E ha6 hk6 hx0 hx1 hx2 hd
            go_wp2_with fail
            go_meet
            case rel => exact ⟨_, _, _, E6.out⟩
          · rw [if_neg hd] at E
            by_cases hd1 : d = 1
            · go_wp2_with fail
              refine (write_any _ p r s c v E.ar hs1 hs2).mono ?_
              rintro e w6 ⟨rfl, ha6, hk6⟩
              have E6 := Lib.hid (E.arena ha6 hk6)
              clear E ha6 hk6 hx0 hx1 hx2 hd
              go_wp2_with fail
              go_meet
              case rel => exact ⟨_, _, _, E6.out⟩
            · have hmf : ∀ (fn : Fn) (first cap : Array Value) (w : World), (Instr.makeFunc fn first cap).run Try.prog w = .ok (.func fn first cap) w := fun _ _ _ _ => rfl
              have hq := (Kp.refl [] wc).alloc (.cells #[.int .i64 0] 3)
              have hbb := heap_alloc_new wc (.cells #[.int .i64 0] 3)
              have E1 := E.quiet hq
              have hge : w.heap.size ≤ wc.heap.size := E.bel.size
              obtain ⟨_, y1, y2⟩ := E1.x0
              have hu := upd_ask _ p r s c d v wc.heap.size x E1.ar hs1 hs2 (ne_types hbb E1.ar.hp (by decide)) (ne_types hbb E1.ar.hr (by decide)) (ne_types E1.hx E1.ar.hp (by decide)) hbb E1.hx
              clear E hx0 hx1 hx2 hq
              go_wp2_with fail
              refine hu.mono ?_
              rintro e w6 ⟨rfl, ha6, hb6, hk6⟩
              have E6 := E1.ask hbb hge ha6 hk6
              clear E1 hu hbb ha6 hk6 y1 y2
              generalize wc.heap.size = ab at *
              have hto := rtouch_any w6 g cap s c (IntKind.u64.wrap (was s c + v)) true E6.rw (by omega) hs1 hs2
              rw [hRn] at hto
              simp only [if_true] at hto
              obtain ⟨z0, z1, z2⟩ := E6.w0
              obtain ⟨_, y1, y2⟩ := E6.x0
              go_wp2_with fail
              refine hto.mono ?_
              rintro e w7 ⟨g7, cap7, rfl, hr7, hg7, hk7⟩
              have hrg7 : r ≠ g7 := by
                have := E6.ar.lt.2
                have := E6.rg
                omega
              have E7 := E6.quiet hk7
              have E8 := E7.setv hr7 hrg7 (by rw [upd_len, hRn])
              have hvb := Lib.hid E7.hv
              have hb8 := (setRow_other w7 vb ab #[.slice (some ⟨g7, 0, none⟩) n cap7, .int .u64 (upd s c (IntKind.u64.wrap (was s c + v))).t, .int .i64 (lastOf (upd s c (IntKind.u64.wrap (was s c + v))))] (ne_types (hk7.row (by simp) hb6) E7.hv (by decide))).trans (hk7.row (by simp) hb6)
              have a8 := cell_of_one hb8
              have x8 := E8.x0.2.1
              have HE := Lib.hid E8
              clear E6 E7 E8 hto hr7 hg7 hk7 hb6 z0 z1 z2 y1 y2 hb8
              by_cases hin : inB s c = true
              · obtain ⟨hc0, hc1⟩ := inB_iff.1 hin
                rw [hRn] at hc1
                rw [if_pos hin] at a8
                clear hin
                go_wp2_with (refine wpList_store_row rfl 31 _ _ rfl vb _ rfl rfl 31 _ hvb.out (by kernel_rfl) rfl (by simp [Value.oneCell']) ?_)
                go_meet
                case rel => exact ⟨_, _, _, HE.out⟩
              · rw [if_neg hin] at a8
                have hout : c < 0 ∨ (0 ≤ c ∧ (n : Int) ≤ c) := by
                  rw [← hRn]
                  by_cases q : 0 ≤ c
                  · exact .inr ⟨q, Int.not_lt.1 fun h1 => hin (inB_iff.2 ⟨q, h1⟩)⟩
                  · exact .inl (by omega)
                clear hin
                rcases hout with hout | ⟨hout0, hout1⟩
                · go_wp2_with (refine wpList_store_row rfl 31 _ _ rfl vb _ rfl rfl 31 _ hvb.out (by kernel_rfl) rfl (by simp [Value.oneCell']) ?_)
                  go_meet
                  case rel => exact ⟨_, _, _, HE.out⟩
                · go_wp2_with (refine wpList_store_row rfl 31 _ _ rfl vb _ rfl rfl 31 _ hvb.out (by kernel_rfl) rfl (by simp [Value.oneCell']) ?_)
                  go_meet
                  case rel => exact ⟨_, _, _, HE.out⟩
          -- ENDFIRST
        case rest =>
          obtain ⟨yv, gv, capv, E⟩ := hcut
          have ht1 := upd_t s c yv
          obtain ⟨z0, z1, z2⟩ := E.v0
          have hwb := Lib.hid E.wb
          have R := E.next
          have hAr := fun j => (R.quiet (kp_drewN _ j)).ar
          have c1 := cell_of_row R.wb 1
          have c2 := cell_of_row R.wb 2
          have HR := Lib.hid R
          clear E R
          generalize upd s c yv = s1 at *
          go_wp2_with (refine wpList_store_row rfl 31 _ _ rfl W _ rfl rfl 31 _ hwb.out (by kernel_rfl) rfl (by simp [Value.oneCell']) ?_)
          rw [show ∀ a : Act, a.put none undef = a from fun _ => rfl]
          generalize wc.setRow W #[.slice (some ⟨gv, 0, none⟩) n capv, .int .u64 s1.t, .int .i64 (lastOf s1)] = w8 at hAr c1 c2 HR ⊢
          go_quiet (first
            | exact Calls.quiet_of_same (touched_any _ p r s1 (hAr _))
            | exact Calls.quiet_of_same (last_any _ p r s1 (hAr _)))
          have HR9 := Lib.hid (HR.out.quiet (kp_drewN w8 nq))
          clear hAr c1 c2 HR hwb z0 z1 z2
          go_wp2_with fail
          go_roundg (m - (k + 1))
          case measure => omega
          case rel => exact ⟨k + 1, s1, gv, capv, by omega, by go_num, by omega, HR9.out⟩
    · have hkm : ¬ ((k : Int) < (m : Int)) := by omega
      have hs1 : s.ws.length ≤ 4096 := by omega
      have hall := all_any wr p r s R.ar (by omega) hs1
      rw [hRn] at hall
      obtain ⟨z, hz⟩ : ∃ z, z = wr.heap.size := ⟨_, rfl⟩
      rw [← hz] at hall
      clear hz
      go_wp2_with fail
      refine hall.mono ?_
      rintro e w4 ⟨rfl, hrow, hk4⟩
      have R4 := R.quiet hk4
      have c0 := cell_of_row R4.wb 0
      clear hall hk4 R hbelr
      have hlen := len_any w4 p r s R4.ar hs1
      rw [hRn] at hlen
      go_wp2_with fail
      refine hlen.mono ?_
      rintro e w5 ⟨rfl, rfl⟩
      have HRR := Lib.hid (And.intro R4 hrow)
      clear hlen R4 hrow hkg hst
      go_wp2_with fail
      go_loopg [15] n (fun gg i wi => ∃ j : Nat, j + gg = n ∧ i = .int .i64 (j : Int) ∧ PRel w p r W n wi s g cap ∧ wi.heap[z]? = some (.cells (u64s s.ws) 29 (0, 0)))
      case atStart => exact ⟨0, by omega, rfl, HRR.out.1, HRR.out.2⟩
      case round =>
        clear HRR c0
        obtain ⟨j, hjg, rfl, R5, hz5⟩ := hrel
        by_cases hjn : j < n
        · have hjs : j < s.ws.length := by omega
          have c0 := cell_of_row R5.wb 0
          have c1 : wr.cell? ⟨z, j, none⟩ = _ := (cell_of_row hz5 j).trans (u64s_get _ _ hjs)
          have c2 := R5.rw.cell hjs
          have HRR := Lib.hid (And.intro R5 hz5)
          have hjg' := Lib.hid hjg
          generalize s.ws.getD j 0 = a at c1 c2
          clear R5 hz5 hjg hjs
          go_wp2_with fail
          go_quiet (fail)
          have HR9 := Lib.hid (And.intro (HRR.out.1.quiet (kp_drewN wr nq)) HRR.out.2)
          clear c0 c1 c2 HRR
          go_wp2_with fail
          go_roundg (n - (j + 1))
          case measure => have := hjg'.out; omega
          case rel => exact ⟨j + 1, by have := hjg'.out; omega, by go_num, HR9.out.1, HR9.out.2⟩
        · have hnn : ¬ ((j : Int) < (n : Int)) := by omega
          have hbel := Lib.hid R5.bel
          clear R5 hz5 hjg
          go_wp2_with fail
          refine (wakes_any _).mono ?_
          rintro e w6 ⟨rfl, hb6⟩
          have hb7 := Lib.hid (hbel.out.trans (hb6.mono hbel.out.size))
          clear hb6 hbel
          go_wp2
          go_ret
          exact ⟨rfl, hb7.out⟩

end Go.Proofs.Ytpcoclbokpffaaa
