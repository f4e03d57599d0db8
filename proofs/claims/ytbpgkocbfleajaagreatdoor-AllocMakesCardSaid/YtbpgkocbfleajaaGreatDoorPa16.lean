/- The walks of law 15's own: Same. The walks of law 15's own: who is told of a place, what is made of whatever size. The walks of law 15's own: what was made lies in blocks; Does, as the law takes it. A slice of acts that comes in, opened to its numbers. Conditions: none. The walks of law 15's own: the arena that is known (wakes). Conditions: the package's table holds its four numbers. The walk of AllocNil: for whatever owner, references and size it returns true, and no block that was there has turned. Conditions: the package's table holds its four numbers; the owner is a uint8's. The walk of AllocMakes: for whatever number of blocks, of threads, and whatever acts it returns true, and no block that was there has turned. Conditions: the package's table holds its four numbers; the contract of Does. Conditions: as each theorem states them. -/
import Derived.BigQuiet
import Derived.Test.YtbpgkocbfleajaaGreatDoorRows
import Derived.ProofKit
import Derived.Deep.Slices
import Derived.Deep.Fields
import Derived.ChangeSame
import Derived.Test.YtbpgkocbfleajaaGreatDoorPa01
import Derived.Test.YtbpgkocbfleajaaGreatDoorPa07
import Derived.Test.YtbpgkocbfleajaaGreatDoorPa10
import Derived.Test.YtbpgkocbfleajaaGreatDoorPa11
import Derived.Test.YtbpgkocbfleajaaGreatDoorPa13
import Derived.Test.YtbpgkocbfleajaaGreatDoorPa15
namespace Go.Proofs.YtbpgkocbfleajaaGreatDoor
set_option linter.unusedVariables false
set_option linter.unusedSimpArgs false
set_option maxRecDepth 100000
open Go.RowKit

section
variable {T n p r sp t t' : Nat} {qs : Nat → Nat} {v : Av} {s : As} {col col' : Nat → Nat} {w w' w1 w2 w3 : World}
theorem rowF_at {U : TypeId} {m : Nat} {x : Value} {F : Nat → Value} (h : Gx.Rw U 1 0 w x m ((List.range m).map F)) (hm : 0 < m) : ∃ b c, x = .slice (some ⟨b, 0, none⟩) m c ∧ m ≤ c ∧ (∃ cur, w.heap[b]? = some (.cells cur U (0, 0))) ∧ ∀ i, i < m → w.cell? ⟨b, i, none⟩ = some (F i) := by
  obtain ⟨b, c, e, hc, hcell⟩ := Gx.Rw.at h hm (by decide)
  refine ⟨b, c, e, hc, ?_, fun i hi => ?_⟩
  · exact (Gx.Rw.block h b (by rw [e, Gx.blk_some]; simp)).2
  · rw [hcell i (by omega), List.getElem?_map, List.getElem?_range hi]; rfl
theorem row4_at {U : TypeId} {m : Nat} {x : Value} {us : Nat → Nat → Value} (h : Gx.Rw U 4 0 w x m ((List.range (4 * m)).map fun k => us (k / 4) (k % 4))) (hm : 0 < m) : ∃ b c, x = .slice (some ⟨b, 0, none⟩) m c ∧ m ≤ c ∧ (∃ cur, w.heap[b]? = some (.cells cur U (0, 0))) ∧ ∀ i d, i < m → d < 4 → w.cell? ⟨b, i * 4 + d, none⟩ = some (us i d) := by
  obtain ⟨b, c, e, hc, hcell⟩ := Gx.Rw.at h hm (by decide)
  refine ⟨b, c, e, hc, ?_, fun i d hi hd => ?_⟩
  · exact (Gx.Rw.block h b (by rw [e, Gx.blk_some]; simp)).2
  · rw [hcell _ (by omega), List.getElem?_map, List.getElem?_range (by omega)]
    simp only [Option.map_some]
    rw [show (i * 4 + d) / 4 = i from by omega, show (i * 4 + d) % 4 = d from by omega]
/-- All of the arena's words, as a row of its own. -/
theorem Aw.all (h : Aw T n p r sp qs v s t col w) (hT : 0 < T) (hn : n ≤ 12) : Calls Tryz.prog 23 #[.pointer (some ⟨p, 0, none⟩)] w fun e w' => e = .returned (.slice (some ⟨w.heap.size, 0, none⟩) (3 + T + 33 * n) (3 + T + 33 * n)) ∧ w'.heap[w.heap.size]? = some (.cells (u64s s.H) 60 (0, 0)) ∧ Kp [] w w' := by
  obtain ⟨t0, ht0, hw⟩ := (h.mws.one 0 hT).hw
  obtain ⟨l, a⟩ := hw.ar
  have hl := h.fit.len
  have := all_any w p r _ a (by show 1 ≤ s.H.length; omega) (hw.top)
  rw [show (St.mk s.H t0 l).ws.length = 3 + T + 33 * n from hl] at this
  exact this
theorem Li.Rd.get {u : Value} {xs : List Int} (h : Li.Rd w u xs) : ∃ g o c, (∃ ao, u = .slice ao xs.length c ∧ (xs ≠ [] → ao = some ⟨g, o, none⟩)) ∧ xs.length ≤ c ∧ ∀ i, i < xs.length → w.cell? ⟨g, o + i, none⟩ = some (.int .i64 (xs.getD i 0)) := by
  obtain ⟨ao, c, e, hc, hz, hx⟩ := h.form
  by_cases hne : xs = []
  · exact ⟨0, 0, c, ⟨ao, e, fun h => absurd hne h⟩, hc, fun i hi => by rw [hne] at hi; simp at hi⟩
  · obtain ⟨g, o, rfl, hcell⟩ := hx hne
    exact ⟨g, o, c, ⟨_, e, fun _ => rfl⟩, hc, hcell⟩

set_option maxHeartbeats 4000000 in
theorem aw_same (h : Aw T n p r sp qs v s t col w) (hT : 0 < T) (hT4 : T ≤ 64) (hn : n ≤ 12) :
    Calls Tryz.prog 10 #[.pointer (some ⟨sp, 0, none⟩)] w fun e w' => e = .returned (.bool true) ∧ Kp [] w w' := by
  have HAll := Lib.hid (h.all hT hn)
  have HA := Lib.hid h
  have a0 : w.cell? ⟨sp, 0, none⟩ = some (.pointer (some ⟨p, 0, none⟩)) := (h.cell (by decide)).trans (by rw [h.f0])
  obtain ⟨N, hN⟩ : ∃ N, N = 3 + T + 33 * n := ⟨_, rfl⟩
  have HN := Lib.hid (And.intro hN h.fit.len)
  rw [← hN] at HAll
  have hN1 : N ≤ 4096 := by omega
  clear hN h
  go_enter Tryz.func10, Tryz.ntmps10
  go_wp2_with fail
  refine HAll.out.mono ?_
  rintro e w1 ⟨rfl, hb1, hk1⟩
  have HA1 := Lib.hid (HA.out.on hk1)
  have HB := Lib.hid hb1
  have HK := Lib.hid hk1
  have b6 : w1.cell? ⟨sp, 6, none⟩ = some (.slice (some ⟨v.db, 0, none⟩) N v.dc) := (HA1.out.cell (by decide)).trans (by rw [HA1.out.f6, HN.out.1])
  have hneq : ((N : Int) != (N : Int)) = false := by simp
  clear hb1 hk1 HAll a0
  go_wp2_with fail
  go_loopg [4] N (fun g v4 wr => ∃ i : Nat, i + g = N ∧ v4 = .int .i64 i ∧ Hid (Kp [] w1 wr))
  case atStart => exact ⟨0, by omega, rfl, Lib.hid (Kp.refl _ _)⟩
  case round =>
    obtain ⟨i, hi, rfl, HR⟩ := hrel
    by_cases hlt : i < N
    · have hA2 := HA1.out.on HR.out
      have c1 : wr.cell? ⟨sp, 6, none⟩ = some (.slice (some ⟨v.db, 0, none⟩) N v.dc) := (hA2.cell (by decide)).trans (by rw [hA2.f6, HN.out.1])
      have c2 := hA2.dh.cell (k := i) (by rw [HN.out.2, ← HN.out.1]; exact hlt)
      have c3 : wr.cell? ⟨w.heap.size, i, none⟩ = some (.int .u64 (s.H.getD i 0)) := by rw [cell_of_row (HR.out.row (by simp) HB.out), u64s_get _ _ (by rw [HN.out.2, ← HN.out.1]; exact hlt)]
      have hdc : N ≤ v.dc := by
        obtain ⟨_, cur, _, _, _, hz, _⟩ := hA2.dh.ww.heap (by rw [HN.out.2, ← HN.out.1]; omega)
        rw [HN.out.2, ← HN.out.1] at hz; exact hz
      obtain ⟨y, hy⟩ : ∃ y, s.H.getD i 0 = y := ⟨_, rfl⟩
      rw [hy] at c2 c3
      have hne : (y != y) = false := by simp
      clear hy hA2 b6
      go_wp2_with fail
      go_region
      all_goals go_wp2_with fail
      all_goals go_roundg (N - (i + 1))
      all_goals first | omega | exact ⟨i + 1, by omega, rfl, Lib.hid (HR.out.drew)⟩ | exact ⟨i + 1, by omega, rfl, HR⟩
    · obtain rfl : i = N := by omega
      have HK2 := Lib.hid (HK.out.trans HR.out)
      obtain ⟨b10, c10, e10, hc10, -, hcell10⟩ := row4_at HA.out.docs hT
      obtain ⟨b4, c4, e4, hc4, -, hcell4⟩ := rowF_at HA.out.free hT
      have z10 : w.cell? ⟨sp, 10, none⟩ = some (.slice (some ⟨b10, 0, none⟩) T c10) := (HA.out.cell (by decide)).trans (by rw [e10])
      have z4 : w.cell? ⟨sp, 4, none⟩ = some (.slice (some ⟨b4, 0, none⟩) T c4) := (HA.out.cell (by decide)).trans (by rw [e4])
      have HX := Lib.hid (And.intro z10 (And.intro z4 (And.intro hcell10 hcell4)))
      clear e10 e4 hcell10 hcell4 z10 z4 HR HA1 b6 HB hlt
      have d10 := kp_cell HK2.out (by simp) HX.out.1
      go_wp2_with fail
      go_loopg [5] T (fun g v5 wr => ∃ k : Nat, k + g = T ∧ v5 = .int .i64 k ∧ Hid (Kp [] w wr))
      case atStart => exact ⟨0, by omega, rfl, HK2⟩
      case round =>
        obtain ⟨k, hk, rfl, HR⟩ := hrel
        clear d10 HK2
        have d10 := kp_cell HR.out (by simp) HX.out.1
        by_cases hkT : k < T
        · go_wp2_with fail
          go_loopg [6] 4 (fun g v6 wr => ∃ c : Nat, c + g = 4 ∧ v6 = .int .i64 c ∧ Hid (Kp [] w wr))
          case atStart => exact ⟨0, by omega, rfl, HR⟩
          case round =>
            obtain ⟨c, hc, rfl, HQ⟩ := hrel
            clear d10 HR
            by_cases hc4' : c < 4
            · have HA4 := Lib.hid (HA.out.on HQ.out)
              have x4 := kp_cell HQ.out (by simp) HX.out.2.1
              have y4 := kp_cell HQ.out (by simp) (HX.out.2.2.2 k hkT)
              have hlen : (s.Rs k c).length ≤ 1000 := (HA4.out.mws.one k hkT).lk.len (HA4.out.mws.one k hkT).sm c hc4'
              have HAl := Lib.hid (Li.all_good _ (qs k) c (v.vss k) (s.Rs k) (HA4.out.mws.one k hkT).ls hc4' hlen)
              obtain ⟨m, hm⟩ : ∃ m, m = (s.Rs k c).length := ⟨_, rfl⟩
              obtain ⟨B0, hB0⟩ : ∃ B0, B0 = wr.heap.size := ⟨_, rfl⟩
              rw [← hm, ← hB0] at HAl
              rw [← hm] at hlen
              clear hB0
              have HM := Lib.hid hm
              clear hm
              go_wp2_with fail
              refine HAl.out.mono ?_
              rintro e w5 ⟨rfl, hr5, hk5⟩
              have HK5 := Lib.hid (HQ.out.trans hk5)
              have HR5 := Lib.hid hr5
              have hrd := (HA.out.on HK5.out).rd k hkT c hc4'
              obtain ⟨g, o, cu, ⟨ao, eu, hao⟩, hcu, hcell⟩ := Li.Rd.get hrd
              have hml : (Li.rev (s.Rs k) c).length = m := by rw [HM.out]; simp [Li.rev]
              rw [hml] at eu hcu hcell
              have HC := Lib.hid (And.intro eu (And.intro hao hcell))
              clear hr5 hk5 hrd eu hao hcell HAl x4 y4
              have x10 := kp_cell HK5.out (by simp) HX.out.1
              have y10 := (kp_cell HK5.out (by simp) (HX.out.2.2.1 k c hkT hc4')).trans (congrArg some HC.out.1)
              have hneq : ((m : Int) != (m : Int)) = false := by simp
              go_wp2_with fail
              go_loopg [8] m (fun g v8 wr => ∃ j : Nat, j + g = m ∧ v8 = .int .i64 j ∧ Hid (Kp [] w5 wr))
              case atStart => exact ⟨0, by omega, rfl, Lib.hid (Kp.refl _ _)⟩
              case round =>
                obtain ⟨j, hj, rfl, HJ⟩ := hrel
                clear x10 y10
                by_cases hjm : j < m
                · have hne : Li.rev (s.Rs k) c ≠ [] := by
                    intro e0
                    rw [HM.out, ← List.length_reverse, show (s.Rs k c).reverse = Li.rev (s.Rs k) c from rfl, e0] at hjm
                    simp at hjm
                  obtain rfl := HC.out.2.1 hne
                  have c1 := kp_cell (HK5.out.trans HJ.out) (by simp) HX.out.1
                  have c2 := (kp_cell (HK5.out.trans HJ.out) (by simp) (HX.out.2.2.1 k c hkT hc4')).trans (congrArg some HC.out.1)
                  have c3 := kp_cell HJ.out (by simp) (HC.out.2.2 j hjm)
                  have c4' : wr.cell? ⟨B0, j, none⟩ = some (.int .i64 ((Li.rev (s.Rs k) c).getD j 0)) := by
                    have hl : (Li.rev (s.Rs k) c).length = m := by rw [HM.out]; simp [Li.rev]
                    have hr : Li.Rw wr (.slice (some ⟨B0, 0, none⟩) (Li.rev (s.Rs k) c).length m) (Li.rev (s.Rs k) c) := by rw [hl]; exact HR5.out.keep0 HJ.out
                    have := Src.of_row hr j _ (Li.ints_get _ j (by omega))
                    rwa [Addr.add_lit, Nat.zero_add] at this
                  obtain ⟨y, hy⟩ : ∃ y, (Li.rev (s.Rs k) c).getD j 0 = y := ⟨_, rfl⟩
                  rw [hy] at c3 c4'
                  have hne : (y != y) = false := by simp
                  clear hy hneq
                  go_wp2_with fail
                  go_region
                  all_goals go_wp2_with fail
                  all_goals go_roundg (m - (j + 1))
                  all_goals first | omega | exact ⟨j + 1, by omega, rfl, Lib.hid (HJ.out.drew)⟩ | exact ⟨j + 1, by omega, rfl, HJ⟩
                · have HK6 := Lib.hid (HK5.out.trans HJ.out)
                  go_wp2_with fail
                  go_roundg (4 - (c + 1))
                  case rel => exact ⟨c + 1, by omega, by go_num, HK6⟩
                  case measure => omega
            · go_wp2_with fail
              go_roundg (T - (k + 1))
              case rel => exact ⟨k + 1, by omega, by go_num, HQ⟩
              case measure => omega
        · go_wp2_with fail
          go_ret
          exact ⟨rfl, HR.out⟩
end
end Go.Proofs.YtbpgkocbfleajaaGreatDoor

namespace Go.Proofs.YtbpgkocbfleajaaGreatDoor
set_option linter.unusedVariables false
set_option linter.unusedSimpArgs false
set_option maxRecDepth 100000
open Go.RowKit

/-- The law's own closure: what it is told goes into a box. -/
abbrev hdV (b9 : Nat) : Value := .func (.func 73) #[] #[.pointer (some ⟨b9, 0, none⟩)]
def BoxP (b9 : Nat) (a : Nat) (w : World) : Prop := w.cell? ⟨b9, 0, none⟩ = some (.int .i64 a)
theorem cl_hold (a b9 : Nat) (u : Value) (w : World) (hb : w.heap[b9]? = some (.cells #[u] 3 (0, 0))) :
    Calls Tryz.prog 73 #[.int .i64 a, .pointer (some ⟨b9, 0, none⟩)] w fun e w' => e = .returned (.tuple #[]) ∧ Kp [b9] w w' ∧ BoxP b9 a w' := by
  have c0 : w.cell? ⟨b9, 0, none⟩ = some u := cell_of_row hb 0
  have g0 := free_of_row hb 0
  have K : Kp [b9] w (w.setCell ⟨b9, 0, none⟩ (.int .i64 a)) := (Kp.refl _ _).setCell (.inl (by simp)) _
  have hP : BoxP b9 a (w.setCell ⟨b9, 0, none⟩ (.int .i64 a)) := by
    unfold BoxP
    rw [cell_of_row (heap_setCell_same _ _ _ _ _ _ hb)]
    rfl
  have HK := Lib.hid (And.intro K hP)
  clear K hP hb
  go_enter Tryz.func73, Tryz.ntmps73
  go_wp2_with fail
  go_end0
  exact ⟨rfl, HK.out⟩
theorem hold_box (T G n p r q o : Nat) (wk : Bool) (vs : Nat → Value) (w : World) (b9 : Nat) (u : Value) (hb : w.heap[b9]? = some (.cells #[u] 3 (0, 0))) (ho : Off p r q vs w b9) : HoldOk T G n p r q o wk (hdV b9) vs w [b9] (BoxP b9) := by
  refine ⟨fun a vs' w1 k _ => ?_, by simpa using ho, fun a w1 w2 hp k => kp_cell k (by have := ho.2; simp; omega) hp⟩
  have hb1 : w1.heap[b9]? = some (.cells #[u] 3 (0, 0)) := k.row ho.2.1 ho.2.2.1 ho.2.2.2.1 ho.2.2.2.2.1 hb
  have KB := Lib.hid (mkW_kp w1 T G n p q o wk (hdV b9))
  have HC := Lib.hid (fun (w2 : World) (k2 : Kp [] w1 w2) => cl_hold a b9 u w2 (k2.row (by simp) hb1))
  unfold mkW mkC at KB
  have hfn : ∀ w, (binOp .neq 55 (hdV b9) .nilFunc).run Tryz.prog w = .ok (.bool true) w := fun _ => rfl
  clear hb hb1 ho k
  go_enter Tryz.func88, Tryz.ntmps88
  go_wp2_with fail
  refine (HC.out _ KB.out).mono ?_
  rintro e w2 ⟨rfl, hk2, hp2⟩
  have H2 := Lib.hid (And.intro ((KB.out.mono (by simp)).trans hk2) hp2)
  clear hk2 hp2
  go_wp2_with fail
  go_end0
  exact ⟨rfl, H2.out⟩

section
variable {T n p r sp t t' : Nat} {qs : Nat → Nat} {v : Av} {s : As} {col col' : Nat → Nat} {w w' w1 w2 w3 : World}
theorem Aw.db_off (h : Aw T n p r sp qs v s t col w) {i : Nat} (hi : i < T) {Sh : List Nat} (hS : Apart col w Sh) : v.db ∉ mhS Sh p r (qs i) (v.vss i) := fun e => by
  obtain ⟨_, cur, hc⟩ := Gx.Rw.block h.dh.ww v.db (by rw [Gx.blk_some]; simp)
  have hd := h.dbp (by omega)
  obtain ⟨a1, a2, a3, e1, e2, e3⟩ := (h.mws.one i hi).types
  rcases mem_mhS.1 e with e | e | e | e | e
  · exact hd.1 e
  · exact hd.2.1 e
  · rw [e, e3] at hc; simp at hc
  · obtain ⟨_, cs, hcs⟩ := hS _ e
    rw [hcs] at hc; simp at hc
  · obtain ⟨cs, hcs⟩ := owns_type (h.mws.one i hi).ls e
    rw [hcs] at hc; simp at hc
theorem Lo.mhs {B : Nat} (hL : Lo B T p r sp qs v) {i : Nat} (hi : i < T) {Sh : List Nat} (hS : ∀ x ∈ Sh, B ≤ x) : ∀ x ∈ mhS Sh p r (qs i) (v.vss i), B ≤ x := fun x hx => by
  rcases mem_mhS.1 hx with e | e | e | e | e
  · rw [e]; exact hL.p0
  · rw [e]; exact hL.r0
  · rw [e]; exact hL.q0 i hi
  · exact hS x e
  · exact hL.o0 i hi x e
/-- Behind a step of an owner. -/
theorem Lo.step {B : Nat} (hL : Lo B T p r sp qs v) {i : Nat} (hi : i < T) {vs' us' : Nat → Value} {Sh : List Nat} (k : Mh Sh p r (qs i) (v.vss i) vs' w w1) (hB : B ≤ w.heap.size) {f' : Nat → Value} (hf : ∀ j, j ≠ 6 → f' j = v.f j) {b c : Nat} : Lo B T p r sp qs { v with f := f', vss := updV4 v.vss i vs', us := updV4 v.us i us', db := b, dc := c } where
  p0 := hL.p0
  r0 := hL.r0
  s0 := hL.s0
  q0 := hL.q0
  o0 := fun j hj g hg => by
    by_cases e : j = i
    · subst e
      have hg' : Li.Owns vs' g := by simpa [updV4_same] using hg
      rcases k.own g hg' with z | z
      · exact hL.o0 j hj g z
      · omega
    · have hg' : Li.Owns (v.vss j) g := by simpa [updV4_ne e] using hg
      exact hL.o0 j hj g hg'
  w0 := fun g hg => hL.w0 g (by have hg2 : g ∈ Gx.blk (f' 5) := hg; rwa [hf 5 (by decide)] at hg2)
  d0 := fun g hg => hL.d0 g (by have hg2 : g ∈ Gx.blk (f' 10) := hg; rwa [hf 10 (by decide)] at hg2)
  m0 := fun g hg => hL.m0 g (by have hg2 : g ∈ Gx.blk (f' 11) := hg; rwa [hf 11 (by decide)] at hg2)
  z0 := fun g hg => hL.z0 g (by have hg2 : g ∈ Gx.blk (f' 12) := hg; rwa [hf 12 (by decide)] at hg2)
  a0 := hL.a0
  b0 := hL.b0
theorem Lo.made {B : Nat} (hL : Lo B T p r sp qs v) {i : Nat} {m' : Value} (hb : ∀ g ∈ Li.blk m', B ≤ g) : Lo B T p r sp qs { v with ms := upd1 v.ms i m' } := by
  have h : ∀ j, j < T → ∀ g ∈ Li.blk (upd1 v.ms i m' j), B ≤ g := fun j hj g hg => by
    by_cases e : j = i
    · subst e
      exact hb g (by simpa [upd1_same] using hg)
    · exact hL.a0 j hj g (by simpa [upd1_ne e] using hg)
  exact { hL with a0 := h }
theorem Lo.size {B : Nat} (hL : Lo B T p r sp qs v) {i : Nat} {m' : Value} (hb : ∀ g ∈ Li.blk m', B ≤ g) : Lo B T p r sp qs { v with ss := upd1 v.ss i m' } := by
  have h : ∀ j, j < T → ∀ g ∈ Li.blk (upd1 v.ss i m' j), B ≤ g := fun j hj g hg => by
    by_cases e : j = i
    · subst e
      exact hb g (by simpa [upd1_same] using hg)
    · exact hL.b0 j hj g (by simpa [upd1_ne e] using hg)
  exact { hL with b0 := h }
theorem Aw.mh_col (h : Aw T n p r sp qs v s t col w) {i : Nat} (hi : i < T) {Sh : List Nat} (hS : ∀ x ∈ Sh, w.heap.size ≤ x) : ∀ x ∈ mhS Sh p r (qs i) (v.vss i), x < w.heap.size → col x ≠ 1000 := fun x hx hl => by
  rcases mem_mhS.1 hx with e | e | e | e | e
  · rw [h.c0 x (.inl e)]; decide
  · rw [h.c0 x (.inr (.inl e))]; decide
  · rw [e, h.cq i hi]; decide
  · have := hS x e; omega
  · rw [h.c1 i hi x e]; decide
/-- The document's list of an owner, as slices. -/
theorem Aw.us_slices (h : Aw T n p r sp qs v s t col w) {i : Nat} (hi : i < T) : ∃ a0 a1 a2 a3 l0 k0 l1 k1 l2 k2 l3 k3, ∀ d, d < 4 → v.us i d = sl a0 a1 a2 a3 l0 k0 l1 k1 l2 k2 l3 k3 d := rows_slices (h.rd i hi)
theorem rows4_eq {us us' : Nat → Value} {R : Nat → List Int} (h : Li.Rows4 w us R) (e : ∀ d, d < 4 → us d = us' d) : Li.Rows4 w us' R := fun d hd => by rw [← e d hd]; exact h d hd
theorem bl4_eq {us us' vs vs' : Nat → Value} {a b : Nat} (h : Li.Bl4 us vs a b) (e : ∀ d, d < 4 → us d = us' d) (e' : ∀ d, d < 4 → vs d = vs' d) : Li.Bl4 us' vs' a b := fun d hd => by rw [← e d hd, ← e' d hd]; exact h d hd
end
/-- What the law's State says behind an object that may be. -/
def madeS (T n : Nat) (s : As) (i rf sz : Nat) : As :=
  { H := (pmakeS T 0 n i (s.wk i) rf sz (s.H, s.Rs i)).1.1, Rs := updO s.Rs i (pmakeS T 0 n i (s.wk i) rf sz (s.H, s.Rs i)).1.2, wk := s.wk,
    made := match (pmakeS T 0 n i (s.wk i) rf sz (s.H, s.Rs i)).2 with | none => s.made | some x => upd1 s.made i (s.made i ++ [x]),
    size := match (pmakeS T 0 n i (s.wk i) rf sz (s.H, s.Rs i)).2 with | none => s.size | some _ => upd1 s.size i (s.size i ++ [(sz : Int)]) }

/-- The contract of the document's Make (d_make). -/
def DMake (Bz T n : Nat) : Prop := ∀ (db dc o : Nat) (us : Nat → Value) (H : List Int) (R : Nat → List Int) (wk : Bool) (w : World) (rf sz : Nat), Dh Bz T 0 n db dc H w → Li.Rows4 w us R → Li.Lt4 us w.heap.size → Lok H.length R → H.length ≤ 1000 → Ivn T 0 n H → o < 64 → rf ≤ sz → sz ≤ 95 →
    Calls Tryz.prog 74 #[hV db dc H.length T 0 n, .agg #[us 0, us 1, us 2, us 3], .int .u8 o, .bool wk, .int .i64 rf, .int .i64 sz] w fun e w' => ∃ db' dc' us', e = .returned (.tuple #[hV db' dc' H.length T 0 n, .agg #[us' 0, us' 1, us' 2, us' 3], .int .i64 (dmakeS T 0 n o wk rf sz (H, R)).2]) ∧ Dh Bz T 0 n db' dc' (dmakeS T 0 n o wk rf sz (H, R)).1.1 w' ∧ Li.Rows4 w' us' (dmakeS T 0 n o wk rf sz (H, R)).1.2 ∧ Kp [] w w' ∧ Li.Bl4 us us' w.heap.size w'.heap.size
theorem eo_bd (x : Int) : 0 ≤ eo x ∧ eo x < 64 := by
  unfold eo
  split <;> omega
/-- A place of a block, told apart. -/
theorem blk_of {T n a : Nat} (ha : 3 + T + n ≤ a) (ha2 : a < 3 + T + 33 * n) : ∃ b m : Nat, b < n ∧ ((a : Int) - (3 + T + ((0 : Nat) : Int) + n)) / 32 = b ∧ ((a : Int) - (3 + T + ((0 : Nat) : Int) + n)) % 32 = m := by
  refine ⟨(a - (3 + T + n)) / 32, (a - (3 + T + n)) % 32, by omega, by omega, by omega⟩
/-- What is older than B stands, and what is coloured 1000; colours stay. -/
structure BK (B : Nat) (col col' : Nat → Nat) (w w' : World) : Prop where
  bel : Below B w w'
  agr : ∀ g, g < w.heap.size → col' g = col g
  st : ∀ g, g < w.heap.size → col g = 1000 → w'.heap[g]? = w.heap[g]?
theorem BK.of {S : List Nat} {B : Nat} {col : Nat → Nat} {w w' : World} (k : Kp S w w') (hB : B ≤ w.heap.size) (hS : ∀ x ∈ S, B ≤ x) (hc : ∀ x ∈ S, x < w.heap.size → col x ≠ 1000) : BK B col col w w' :=
  ⟨k.below hB hS, fun _ _ => rfl, fun g hg h1 => k.block g hg fun e => hc g e hg h1⟩
theorem BK.of0 {B : Nat} {col : Nat → Nat} {w w' : World} (k : Kp [] w w') (hB : B ≤ w.heap.size) : BK B col col w w' := BK.of k hB (by simp) (by simp)
theorem BK.recol {B : Nat} {c1 c2 c3 : Nat → Nat} {w w' : World} (h : BK B c1 c2 w w') (hc : ∀ g, g < w.heap.size → c3 g = c2 g) : BK B c1 c3 w w' := ⟨h.bel, fun g hg => (hc g hg).trans (h.agr g hg), h.st⟩
theorem BK.trans {B : Nat} {c1 c2 c3 : Nat → Nat} {w w1 w2 : World} (h : BK B c1 c2 w w1) (k : BK B c2 c3 w1 w2) : BK B c1 c3 w w2 :=
  ⟨h.bel.trans k.bel, fun g hg => (k.agr g (Nat.lt_of_lt_of_le hg h.bel.size)).trans (h.agr g hg), fun g hg h1 => (k.st g (Nat.lt_of_lt_of_le hg h.bel.size) ((h.agr g hg).trans h1)).trans (h.st g hg h1)⟩
theorem BK.size {B : Nat} {c1 c2 : Nat → Nat} {w w1 : World} (h : BK B c1 c2 w w1) : w.heap.size ≤ w1.heap.size := h.bel.size
/-- What stands behind a waiting. -/
def Nw (B T n p r sp t : Nat) (qs : Nat → Nat) (s : As) (col : Nat → Nat) (w w' : World) : Prop :=
  ∃ v' s' col', Aw T n p r sp qs v' s' t col' w' ∧ Lo B T p r sp qs v' ∧ BK B col col' w w' ∧ s'.made = s.made ∧ s'.size = s.size ∧ s'.wk = s.wk
/-- The contracts of Make and of waits, as Does takes them. -/
def CMake (B T n p r sp : Nat) (qs : Nat → Nat) : Prop := ∀ (v : Av) (s : As) (t : Nat) (col : Nat → Nat) (w : World) (i rf sz : Nat), Aw T n p r sp qs v s t col w → t ≤ 250000 → i < T → (s.made i).length ≤ 1000 → (s.size i).length ≤ 1000 → Lo B T p r sp qs v → B ≤ w.heap.size → rf ≤ sz → sz ≤ 95 →
    Calls Tryz.prog 42 #[.pointer (some ⟨sp, 0, none⟩), .int .i64 i, .int .i64 rf, .int .i64 sz] w fun e w' => e = .returned (.bool true) ∧ ∃ v' col', Aw T n p r sp qs v' (madeS T n s i rf sz) (t + 600) col' w' ∧ Lo B T p r sp qs v' ∧ BK B col col' w w'
def CBad (B T n p r sp : Nat) (qs : Nat → Nat) : Prop := ∀ (v : Av) (s : As) (t : Nat) (col : Nat → Nat) (w : World) (i : Nat) (rf sz : Int), Aw T n p r sp qs v s t col w → i < T → (rf < 0 ∨ sz < rf ∨ 95 < sz) →
    Calls Tryz.prog 42 #[.pointer (some ⟨sp, 0, none⟩), .int .i64 i, .int .i64 rf, .int .i64 sz] w fun e w' => e = .returned (.bool true) ∧ Kp [] w w'
def CWaits (B T n p r sp : Nat) (qs : Nat → Nat) : Prop := ∀ (v : Av) (s : As) (t : Nat) (col : Nat → Nat) (w : World) (i a : Nat), Aw T n p r sp qs v s t col w → t ≤ 700000 → i < T → Lo B T p r sp qs v → B ≤ w.heap.size → 3 + T + n ≤ a → a < 3 + T + 33 * n →
    Calls Tryz.prog 38 #[.pointer (some ⟨sp, 0, none⟩), .int .i64 i, .int .i64 a] w fun e w' => e = .returned (.tuple #[]) ∧ Nw B T n p r sp (t + 1) qs s col w w'
section
variable {T n p r q t o : Nat} {wk : Bool} {hd : Value} {vs : Nat → Value} {H : List Int} {R : Nat → List Int} {w : World} {Sh : List Nat} {P : Nat → World → Prop}
/-- An object of whatever size that may be. -/
theorem make_good (h : Mw T 0 n p r q vs H R t w) (ht : t ≤ 300000) (hn : n ≤ 12) (hoT : o < T) (rf sz : Nat) (hr : rf ≤ sz) (h95 : sz ≤ 95) (ho2 : HoldOk T 0 n p r q o wk hd vs w Sh P) :
    Calls Tryz.prog 27 #[mkV T 0 n p q o wk hd, .int .i64 rf, .int .i64 sz] w fun e w' => e = .returned (.tuple #[.int .i64 ((pmakeS T 0 n o wk rf sz (H, R)).2.getD 0), .int .i64 (erM (pmakeS T 0 n o wk rf sz (H, R)).2)]) ∧ ∃ vs', Mw T 0 n p r q vs' (pmakeS T 0 n o wk rf sz (H, R)).1.1 (pmakeS T 0 n o wk rf sz (H, R)).1.2 (t + 600) w' ∧ Mh Sh p r q vs vs' w w' ∧ Tp Sh P (pmakeS T 0 n o wk rf sz (H, R)).2 w w' := by
  unfold pmakeS
  rcases size_ways sz h95 with ⟨h0, c, hc, hcc, hw⟩ | ⟨run, h1, h3, hrn, hw⟩
  · have h8 : sz ≤ 8 := by
      rcases Cl.run_ofs (sz : Int) with z | z | z | z | z <;> omega
    rw [if_pos h0, hcc, Int.toNat_natCast]
    refine (make_small h ht hoT c rf sz hcc hr h8 ho2).mono ?_
    rintro e w' ⟨h1, v, h2, h3, h4⟩
    exact ⟨h1, v, h2.more (by omega), h3, h4⟩
  · have h9 : 9 ≤ sz := by
      rcases Cl.run_ofs (sz : Int) with z | z | z | z | z <;> omega
    rw [if_neg (by omega), hrn, Int.toNat_natCast]
    refine (make_large h ht hoT run rf sz hrn hr h9 h95 ho2).mono ?_
    rintro e w' ⟨h1, v, h2, h3, h4⟩
    exact ⟨h1, v, h2.more (by omega), h3, h4⟩
end
/-- What a drawn region that builds a maker holds on to. -/
def B9 (T n sp b4 c4 b5 c5 i p qi : Nat) (wk : Bool) (F : World → Prop) (wx : World) : Prop :=
  wx.cell? ⟨sp, 0, none⟩ = some (.pointer (some ⟨p, 0, none⟩)) ∧ wx.cell? ⟨sp, 1, none⟩ = some (.int .i64 T) ∧ wx.cell? ⟨sp, 2, none⟩ = some (.int .i64 0) ∧ wx.cell? ⟨sp, 3, none⟩ = some (.int .i64 n) ∧ wx.cell? ⟨sp, 4, none⟩ = some (.slice (some ⟨b4, 0, none⟩) T c4) ∧ wx.cell? ⟨sp, 5, none⟩ = some (.slice (some ⟨b5, 0, none⟩) T c5) ∧ wx.cell? ⟨b4, i, none⟩ = some (.pointer (some ⟨qi, 0, none⟩)) ∧ wx.cell? ⟨b5, i, none⟩ = some (.bool wk) ∧ F wx
theorem B9.keep {T n sp b4 c4 b5 c5 i p qi : Nat} {wk : Bool} {F : World → Prop} {wx wy : World} {S : List Nat} (h : B9 T n sp b4 c4 b5 c5 i p qi wk F wx) (k : Kp S wx wy) (h1 : sp ∉ S) (h2 : b4 ∉ S) (h3 : b5 ∉ S) (hF : F wx → F wy) : B9 T n sp b4 c4 b5 c5 i p qi wk F wy := by
  obtain ⟨a0, a1, a2, a3, a4, a5, a6, a7, a8⟩ := h
  exact ⟨kp_cell k h1 a0, kp_cell k h1 a1, kp_cell k h1 a2, kp_cell k h1 a3, kp_cell k h1 a4, kp_cell k h1 a5, kp_cell k h2 a6, kp_cell k h3 a7, hF a8⟩
section
variable {T n p r sp t t' : Nat} {qs : Nat → Nat} {v : Av} {s : As} {col col' : Nat → Nat} {w w' w1 w2 w3 : World}
theorem Aw.b9 (h : Aw T n p r sp qs v s t col w) {i : Nat} (hi : i < T) : ∃ b4 c4 b5 c5, T ≤ c4 ∧ T ≤ c5 ∧ b4 < w.heap.size ∧ b5 < w.heap.size ∧ v.f 4 = .slice (some ⟨b4, 0, none⟩) T c4 ∧ v.f 5 = .slice (some ⟨b5, 0, none⟩) T c5 ∧ B9 T n sp b4 c4 b5 c5 i p (qs i) (s.wk i) (fun _ => True) w := by
  obtain ⟨b4, c4, e4, hc4, ⟨_, z4⟩, hcell4⟩ := rowF_at h.free (by omega)
  obtain ⟨b5, c5, e5, hc5, ⟨_, z5⟩, hcell5⟩ := rowF_at h.walks (by omega)
  exact ⟨b4, c4, b5, c5, hc4, hc5, lt_of_block z4, lt_of_block z5, e4, e5, (h.cell (by decide)).trans (by rw [h.f0]), (h.cell (by decide)).trans (by rw [h.f1]), (h.cell (by decide)).trans (by rw [h.f2]), (h.cell (by decide)).trans (by rw [h.f3]), (h.cell (by decide)).trans (by rw [e4]), (h.cell (by decide)).trans (by rw [e5]), hcell4 i hi, hcell5 i hi, trivial⟩
end
end Go.Proofs.YtbpgkocbfleajaaGreatDoor

namespace Go.Proofs.YtbpgkocbfleajaaGreatDoor
set_option linter.unusedVariables false
set_option linter.unusedSimpArgs false
set_option maxRecDepth 100000
open Go.RowKit

/-- What was made lies in blocks; there are as many sizes. -/
structure Mok (T n k : Nat) (s : As) : Prop where
  pl : ∀ i, i < T → ∀ x ∈ s.made i, ((3 + T + n : Nat) : Int) ≤ x ∧ x < (3 + T + 33 * n : Nat)
  ln : ∀ i, i < T → (s.made i).length ≤ k ∧ (s.size i).length = (s.made i).length
theorem Mok.more {T n k k' : Nat} {s : As} (h : Mok T n k s) (hk : k ≤ k') : Mok T n k' s := ⟨h.pl, fun i hi => ⟨Nat.le_trans (h.ln i hi).1 hk, (h.ln i hi).2⟩⟩
theorem Mok.same {T n k : Nat} {s s' : As} (h : Mok T n k s) (h1 : s'.made = s.made) (h2 : s'.size = s.size) : Mok T n k s' := ⟨by rw [h1]; exact h.pl, by rw [h1, h2]; exact h.ln⟩
theorem Mok.made {T n k : Nat} {s : As} (h : Mok T n k s) (hf : Fit T n s.H s.Rs) {i rf sz : Nat} (hi : i < T) (hT : T ≤ 64) (hn : n ≤ 64) (hs : sz ≤ 95) : Mok T n (k + 1) (madeS T n s i rf sz) := by
  have hb := (pmake_fit (wk := s.wk i) (rf := rf) hf hi hT hn hs).2.2
  unfold madeS
  cases hres : (pmakeS T 0 n i (s.wk i) rf sz (s.H, s.Rs i)).2 with
  | none => exact ⟨h.pl, fun j hj => ⟨Nat.le_succ_of_le (h.ln j hj).1, (h.ln j hj).2⟩⟩
  | some x =>
    have hx := hb x hres
    refine ⟨fun j hj y hy => ?_, fun j hj => ?_⟩
    · by_cases e : j = i
      · subst e
        have hy' : y ∈ s.made j ++ [x] := by simpa [upd1_same] using hy
        rw [List.mem_append, List.mem_singleton] at hy'
        rcases hy' with z | z
        · exact h.pl j hj y z
        · omega
      · exact h.pl j hj y (by simpa [upd1_ne e] using hy)
    · by_cases e : j = i
      · subst e
        have := h.ln j hj
        simp only [upd1_same, List.length_append, List.length_cons, List.length_nil]
        omega
      · have := h.ln j hj
        simp only [upd1_ne e]
        omega
/-- One that was made is taken out. -/
def cutL (xs : List Int) (k : Nat) : List Int := xs.take k ++ xs.drop (k + 1)
theorem cutL_len {xs : List Int} {k : Nat} (h : k < xs.length) : (cutL xs k).length + 1 = xs.length := by
  unfold cutL
  rw [List.length_append, List.length_take, List.length_drop]
  omega
theorem Mok.cut {T n k m : Nat} {s : As} (h : Mok T n k s) {i : Nat} (hi : i < T) (hm : m < (s.made i).length) : Mok T n k { s with made := upd1 s.made i (cutL (s.made i) m), size := upd1 s.size i (cutL (s.size i) m) } := by
  refine ⟨fun j hj y hy => ?_, fun j hj => ?_⟩
  · by_cases e : j = i
    · subst e
      have hy' : y ∈ cutL (s.made j) m := by simpa [upd1_same] using hy
      unfold cutL at hy'
      rw [List.mem_append] at hy'
      rcases hy' with z | z
      · exact h.pl j hj y (List.mem_of_mem_take z)
      · exact h.pl j hj y (List.mem_of_mem_drop z)
    · exact h.pl j hj y (by simpa [upd1_ne e] using hy)
  · by_cases e : j = i
    · subst e
      have h1 := h.ln j hj
      have h2 := cutL_len hm
      have h3 := cutL_len (xs := s.size j) (k := m) (by omega)
      simp only [upd1_same]
      omega
    · simpa [upd1_ne e] using h.ln j hj
/-- What a region that cuts a row holds on to. -/
def D2 (T idx sp bb cc kb : Nat) (kk : Int) (wx : World) : Prop := wx.cell? ⟨sp, idx, none⟩ = some (.slice (some ⟨bb, 0, none⟩) T cc) ∧ wx.cell? ⟨kb, 2, none⟩ = some (.int .u8 kk)
theorem D2.keep {T idx sp bb cc kb : Nat} {kk : Int} {wx wy : World} {S : List Nat} (h : D2 T idx sp bb cc kb kk wx) (k : Kp S wx wy) (h1 : sp ∉ S) (h2 : kb ∉ S) : D2 T idx sp bb cc kb kk wy := ⟨kp_cell k h1 h.1, kp_cell k h2 h.2⟩
/-- What stands behind an act. -/
def Nd (B T n p r sp t k : Nat) (qs : Nat → Nat) (w w' : World) : Prop :=
  ∃ v' s' col', Aw T n p r sp qs v' s' t col' w' ∧ Mok T n k s' ∧ Lo B T p r sp qs v' ∧ Below B w w'

/-- The contract of Does, as the law takes it. -/
def CDoes (B T n p r sp : Nat) (qs : Nat → Nat) : Prop := ∀ (v : Av) (s : As) (t : Nat) (col : Nat → Nat) (w : World) (k : Nat) (d ow kk rf sz : Int), Aw T n p r sp qs v s t col w → t ≤ 240000 → k ≤ 900 → Mok T n k s → Lo B T p r sp qs v → B ≤ w.heap.size → 0 ≤ d → d ≤ 255 → 0 ≤ ow → ow ≤ 255 → 0 ≤ kk → kk ≤ 255 →
    Calls Tryz.prog 9 #[.pointer (some ⟨sp, 0, none⟩), .agg #[.int .u8 d, .int .u8 ow, .int .u8 kk, .int .i64 rf, .int .i64 sz]] w fun e w' => e = .returned (.bool true) ∧ Nd B T n p r sp (t + 600) (k + 1) qs w w'
end Go.Proofs.YtbpgkocbfleajaaGreatDoor

namespace Go.Proofs.YtbpgkocbfleajaaGreatDoor
set_option linter.unusedVariables false
set_option linter.unusedSimpArgs false
open Go.ChangeShapes Go.WideShapes Go.ChangeAt Go.RowKit Go.Deep

/-- The acts that lie where a slice leads: each one's numbers. -/
def Acts (w : World) (ao : Option Addr) (L : List (Int × Int × Int × Int × Int)) : Prop :=
  ∀ i x, L[i]? = some x → ∃ b o, ao = some ⟨b, o, none⟩ ∧ b < w.heap.size ∧ w.cell? ⟨b, o + i * 5, none⟩ = some (.int .u8 x.1) ∧ w.cell? ⟨b, o + i * 5 + 1, none⟩ = some (.int .u8 x.2.1) ∧ w.cell? ⟨b, o + i * 5 + 2, none⟩ = some (.int .u8 x.2.2.1) ∧ w.cell? ⟨b, o + i * 5 + 3, none⟩ = some (.int .i64 x.2.2.2.1) ∧ w.cell? ⟨b, o + i * 5 + 4, none⟩ = some (.int .i64 x.2.2.2.2) ∧
    (Lit.int .u8 x.1).wf = true ∧ (Lit.int .u8 x.2.1).wf = true ∧ (Lit.int .u8 x.2.2.1).wf = true ∧ (Lit.int .i64 x.2.2.2.1).wf = true ∧ (Lit.int .i64 x.2.2.2.2).wf = true

theorem spot_none {w : World} {a : Addr} {v : Value} (h : w.cell? a = some v) : a.spot = none := by
  unfold World.cell? at h
  split at h
  · split at h
    · cases h
    · rename_i hs
      simpa using hs
  · cases h

theorem list5 {α : Type} {l : List α} (h : l.length = 5) : ∃ a b c d e, l = [a, b, c, d, e] := by
  match l, h with
  | [a, b, c, d, e], _ => exact ⟨a, b, c, d, e, rfl⟩

section
variable {H : Type} {enc : TypeId × Value → H} {W : World} {base : Nat} {spare : Nat → Bool} {held : Bool}
set_option maxRecDepth 100000 in
theorem open_acts {v : Value} {d : DataW H} {p : List MemPlace} (hv : Value.okWide Tryz.prog W .any base 22 v) (h : DataW.Trod enc Tryz.prog W 0 spare held 22 v d p) :
    ∃ (ao : Option Addr) (cap : Nat) (L : List (Int × Int × Int × Int × Int)), v = .slice ao L.length cap ∧ L.length ≤ maxLen ∧ Acts W ao L := by
  obtain ⟨fuel, hf⟩ := h
  obtain ⟨ao, l0, c0, rfl⟩ := okWide_slice Tryz.underlying22 hv
  rcases open_slice Tryz.underlying22 hf with ⟨hc, _⟩ | ⟨a, len, cap, m, n, D, Pl, hcs, hb, hl, hm, hmm, hx, hi⟩
  · have e : Value.slice ao l0 c0 = .slice none 0 0 := by simpa [Value.cells] using hc
    exact ⟨none, 0, [], by rw [e]; rfl, by unfold maxLen; simp, fun i x hx => by simp at hx⟩
  · have e : Value.slice ao l0 c0 = .slice (some a) len cap := by simpa [Value.cells] using hcs
    rw [e]
    have hlm : len ≤ m := by rw [hmm]; split <;> omega
    have hC : Tryz.prog.cellsOf 29 = 5 := by kernel_rfl
    rw [hC] at hi
    have key : ∀ i, ∃ x : Int × Int × Int × Int × Int, i < len → ∃ b o, a = ⟨b, o, none⟩ ∧ b < W.heap.size ∧ W.cell? ⟨b, o + i * 5, none⟩ = some (.int .u8 x.1) ∧ W.cell? ⟨b, o + i * 5 + 1, none⟩ = some (.int .u8 x.2.1) ∧ W.cell? ⟨b, o + i * 5 + 2, none⟩ = some (.int .u8 x.2.2.1) ∧ W.cell? ⟨b, o + i * 5 + 3, none⟩ = some (.int .i64 x.2.2.2.1) ∧ W.cell? ⟨b, o + i * 5 + 4, none⟩ = some (.int .i64 x.2.2.2.2) ∧
    (Lit.int .u8 x.1).wf = true ∧ (Lit.int .u8 x.2.1).wf = true ∧ (Lit.int .u8 x.2.2.1).wf = true ∧ (Lit.int .i64 x.2.2.2.1).wf = true ∧ (Lit.int .i64 x.2.2.2.2).wf = true := by
      intro i
      by_cases hil : i < len
      · obtain ⟨cs', hc', ht'⟩ := hi i (by omega)
        obtain ⟨_, hcl, hat⟩ := World.cells?_some hc'
        obtain ⟨ys, n', _, hy, hlen, hyl, hfs⟩ := DataW.trod_struct Tryz.underlying29 ht'
        obtain ⟨q0, q1, q2, q3, q4, rfl⟩ := list5 hcl
        obtain ⟨y0, y1, y2, y3, y4, rfl⟩ := list5 (hyl.trans rfl)
        have hsp : a.spot = none := by
          obtain ⟨cs0, hc0, _⟩ := hi 0 (by omega)
          obtain ⟨_, hl0, hat0⟩ := World.cells?_some hc0
          obtain ⟨p0, p1, p2, p3, p4, rfl⟩ := list5 hl0
          have := hat0 0 (by omega)
          simp only [Nat.zero_mul, Addr.add, if_true] at this
          exact spot_none this
        obtain ⟨b, o, sp⟩ := a
        simp only at hsp
        subst hsp
        have k0 : DataW.trod enc Tryz.prog W 0 spare held n' 5 (([q0, q1, q2, q3, q4].drop 0).take (Tryz.prog.cellsOf 5)) = some y0 := hfs 0 _ rfl
        have k1 : DataW.trod enc Tryz.prog W 0 spare held n' 5 (([q0, q1, q2, q3, q4].drop 1).take (Tryz.prog.cellsOf 5)) = some y1 := hfs 1 _ rfl
        have k2 : DataW.trod enc Tryz.prog W 0 spare held n' 5 (([q0, q1, q2, q3, q4].drop 2).take (Tryz.prog.cellsOf 5)) = some y2 := hfs 2 _ rfl
        have k3 : DataW.trod enc Tryz.prog W 0 spare held n' 3 (([q0, q1, q2, q3, q4].drop 3).take (Tryz.prog.cellsOf 3)) = some y3 := hfs 3 _ rfl
        have k4 : DataW.trod enc Tryz.prog W 0 spare held n' 3 (([q0, q1, q2, q3, q4].drop 4).take (Tryz.prog.cellsOf 3)) = some y4 := hfs 4 _ rfl
        rw [show Tryz.prog.cellsOf 5 = 1 from by kernel_rfl] at k0
        rw [show Tryz.prog.cellsOf 5 = 1 from by kernel_rfl] at k1
        rw [show Tryz.prog.cellsOf 5 = 1 from by kernel_rfl] at k2
        rw [show Tryz.prog.cellsOf 3 = 1 from by kernel_rfl] at k3
        rw [show Tryz.prog.cellsOf 3 = 1 from by kernel_rfl] at k4
        obtain ⟨x0, e0, _, w0⟩ := DataW.trod_int Tryz.underlying5 k0
        obtain ⟨x1, e1, _, w1⟩ := DataW.trod_int Tryz.underlying5 k1
        obtain ⟨x2, e2, _, w2⟩ := DataW.trod_int Tryz.underlying5 k2
        obtain ⟨x3, e3, _, w3⟩ := DataW.trod_int Tryz.underlying3 k3
        obtain ⟨x4, e4, _, w4⟩ := DataW.trod_int Tryz.underlying3 k4
        obtain rfl : q0 = .int .u8 x0 := by simpa using e0
        obtain rfl : q1 = .int .u8 x1 := by simpa using e1
        obtain rfl : q2 = .int .u8 x2 := by simpa using e2
        obtain rfl : q3 = .int .i64 x3 := by simpa using e3
        obtain rfl : q4 = .int .i64 x4 := by simpa using e4
        have h0 := hat 0 (by omega)
        have h1 := hat 1 (by omega)
        have h2 := hat 2 (by omega)
        have h3 := hat 3 (by omega)
        have h4 := hat 4 (by omega)
        simp only [Addr.add_lit, Nat.add_zero] at h0 h1 h2 h3 h4
        exact ⟨(x0, x1, x2, x3, x4), fun _ => ⟨b, o, rfl, block_lt_of_cell h0, h0, h1, h2, h3, h4, w0, w1, w2, w3, w4⟩⟩
      · exact ⟨(0, 0, 0, 0, 0), fun h => absurd h hil⟩
    obtain ⟨f, hf'⟩ := Classical.skolem.1 key
    refine ⟨some a, cap, (List.range len).map f, by simp, by simp; omega, ?_⟩
    intro i x hx'
    have hil : i < len := by
      have := (List.getElem?_eq_some_iff.1 hx').1
      simpa using this
    obtain rfl : f i = x := by simpa [hil] using hx'
    obtain ⟨b, o, rfl, r⟩ := hf' i hil
    exact ⟨b, o, rfl, r⟩
end

end Go.Proofs.YtbpgkocbfleajaaGreatDoor

namespace Go.Proofs.YtbpgkocbfleajaaGreatDoor
set_option linter.unusedVariables false
set_option linter.unusedSimpArgs false
set_option maxRecDepth 100000
open Go.RowKit

/-- What a drawn region holds on to: the state's first cells, the owner's list. -/
def B7 (sp fb p q n fc : Nat) (F : World → Prop) (wx : World) : Prop :=
  wx.cell? ⟨sp, 0, none⟩ = some (.pointer (some ⟨p, 0, none⟩)) ∧ wx.cell? ⟨sp, 1, none⟩ = some (.int .i64 1) ∧ wx.cell? ⟨sp, 2, none⟩ = some (.int .i64 0) ∧ wx.cell? ⟨sp, 3, none⟩ = some (.int .i64 n) ∧ wx.cell? ⟨sp, 4, none⟩ = some (.slice (some ⟨fb, 0, none⟩) 1 fc) ∧ wx.cell? ⟨fb, 0, none⟩ = some (.pointer (some ⟨q, 0, none⟩)) ∧ F wx
theorem B7.keep {sp fb p q n fc : Nat} {F : World → Prop} {wx wy : World} {S : List Nat} (h : B7 sp fb p q n fc F wx) (k : Kp S wx wy) (ha : sp ∉ S) (hb : fb ∉ S) (hF : F wx → F wy) : B7 sp fb p q n fc F wy := by
  obtain ⟨h0, h1, h2, h3, h4, h5, h6⟩ := h
  exact ⟨kp_cell k ha h0, kp_cell k ha h1, kp_cell k ha h2, kp_cell k ha h3, kp_cell k ha h4, kp_cell k hb h5, hF h6⟩

/-- The beginning as a maker's. -/
theorem bg_mw {w0 : World} (T0 : Cl.Tab w0) {sp p r q fb : Nat} {w : World} (h : Bg w0 1 sp p r q fb w) : Mw 1 0 1 p r q (fun _ => .slice none 0 0) H0 (fun _ => []) 1 w := by
  have hlt : 0 < w0.heap.size := World.block_lt_of_cell? _ _ T0.c0
  refine ⟨⟨1, Nat.le_refl _, h.hw⟩, h.ls, fun c hc => ⟨by simp, by simp⟩, by decide, tab_keep T0 h.kp (by simp), ?_, ?_, ?_, ?_⟩
  · have := h.lo; omega
  · have := h.lo; omega
  · have := h.lo; omega
  · rintro ⟨c, _, hb⟩; simp [Li.blk_nil] at hb

/-- An object of one word, of the arena of one block. -/
theorem make_one {p r q : Nat} {vs : Nat → Value} {H : List Int} {R : Nat → List Int} {t : Nat} {w : World} (h : Mw 1 0 1 p r q vs H R t w) (ht : t ≤ 300000) :
    Calls Tryz.prog 27 #[.agg #[.iface 38 (.pointer (some ⟨p, 0, none⟩)), .int .i64 1, .int .i64 0, .int .i64 1, .int .u8 0, .pointer (some ⟨q, 0, none⟩), .bool false, .nilFunc], .int .i64 1, .int .i64 1] w fun e w' => e = .returned (.tuple #[.int .i64 ((smallS 1 0 1 0 false 0 1 1 (H, R)).2.getD 0), .int .i64 (erM (smallS 1 0 1 0 false 0 1 1 (H, R)).2)]) ∧ ∃ vs', Mw 1 0 1 p r q vs' (smallS 1 0 1 0 false 0 1 1 (H, R)).1.1 (smallS 1 0 1 0 false 0 1 1 (H, R)).1.2 (t + 200) w' ∧ Mh [] p r q vs vs' w w' := by
  refine (make_small h ht (by decide) 0 1 1 (by decide) (by decide) (by decide) (hold_nil 1 0 1 p q 0 false vs w (r := r))).mono ?_
  rintro e w' ⟨h1, v, h2, h3, _⟩
  exact ⟨h1, v, h2.more (by omega), h3⟩

/-- The state's blocks, and the maker's box, behind objects that were made. -/
structure Wk (w0 : World) (j sp p r q fb kb : Nat) (w : World) : Prop where
  mw : ∃ vs H R, Mw 1 0 1 p r q vs H R (1 + 200 * j) w ∧ Mst j H R ∧ ∀ g, Li.Owns vs g → w0.heap.size ≤ g
  kp : Kp [] w0 w
  st : ∃ f fc, S13 w sp f ∧ f 0 = .pointer (some ⟨p, 0, none⟩) ∧ f 1 = .int .i64 1 ∧ f 2 = .int .i64 0 ∧ f 3 = .int .i64 1 ∧ f 4 = .slice (some ⟨fb, 0, none⟩) 1 fc
  bx : w.heap[kb]? = some (.cells (mkC 1 0 1 p q 0 false .nilFunc) 81 (0, 0))
  lo : w0.heap.size ≤ p ∧ w0.heap.size ≤ r ∧ w0.heap.size ≤ q

theorem Wk.step {w0 : World} {j sp p r q fb kb : Nat} {w w' : World} {vs vs' : Nat → Value} {H H' : List Int} {R R' : Nat → List Int} (h : Wk w0 j sp p r q fb kb w) (hm : Mw 1 0 1 p r q vs H R (1 + 200 * j) w) (ho : ∀ g, Li.Owns vs g → w0.heap.size ≤ g) (hm' : Mw 1 0 1 p r q vs' H' R' (1 + 200 * (j + 1)) w') (hs : Mst (j + 1) H' R') (k : Mh [] p r q vs vs' w w') : Wk w0 (j + 1) sp p r q fb kb w' := by
  have kk : Mk p r q vs vs' w w' := ⟨k.os, k.tape, k.output, k.size, fun i h1 h2 h3 h4 h5 => k.block i h1 h2 h3 h4 h5 (by simp), k.own⟩
  obtain ⟨f, fc, hst, hf⟩ := h.st
  refine ⟨⟨vs', H', R', hm', hs, fun g hg => ?_⟩, ?_, ⟨f, fc, hm.row kk hst (by decide) (by decide) (by decide) (by decide), hf⟩, hm.row kk h.bx (by decide) (by decide) (by decide) (by decide), h.lo⟩
  · rcases k.own g hg with q | q
    · exact ho g q
    · exact Nat.le_trans h.kp.size q
  · exact ⟨k.os.trans h.kp.os, k.tape.trans h.kp.tape, k.output.trans h.kp.output, Nat.le_trans h.kp.size k.size, fun i hi _ => (kk.block i (Nat.lt_of_lt_of_le hi h.kp.size) (by have := h.lo; omega) (by have := h.lo; omega) (by have := h.lo; omega) (fun e => by have := ho i e; omega)).trans (h.kp.block i hi (by simp))⟩

theorem Wk.old {w0 : World} {j sp p r q fb kb : Nat} {w w' : World} {vs vs' : Nat → Value} (h : Wk w0 j sp p r q fb kb w) (ho : ∀ g, Li.Owns vs g → w0.heap.size ≤ g) (k : Mh [] p r q vs vs' w w') : Kp [] w0 w' :=
  ⟨k.os.trans h.kp.os, k.tape.trans h.kp.tape, k.output.trans h.kp.output, Nat.le_trans h.kp.size k.size, fun i hi _ => (k.block i (Nat.lt_of_lt_of_le hi h.kp.size) (by have := h.lo; omega) (by have := h.lo; omega) (by have := h.lo; omega) (fun e => by have := ho i e; omega) (by simp)).trans (h.kp.block i hi (by simp))⟩
theorem Wk.on {w0 : World} {j sp p r q fb kb : Nat} {w w' : World} (h : Wk w0 j sp p r q fb kb w) (k : Kp [] w w') : Wk w0 j sp p r q fb kb w' := by
  obtain ⟨vs, H, R, hm, hs, ho⟩ := h.mw
  obtain ⟨f, fc, hst, hf⟩ := h.st
  exact ⟨⟨vs, H, R, hm.on k, hs, ho⟩, h.kp.trans k, ⟨f, fc, hst.keep k (by simp), hf⟩, k.row (by simp) h.bx, h.lo⟩

set_option maxHeartbeats 4000000 in
theorem wakes_any (w : World) (T0 : Cl.Tab w) : Calls Tryz.prog 7 #[] w fun e w' => e = .returned (.bool true) ∧ Kp [] w w' := by
  have HBg : Hid (Calls Tryz.prog 8 #[.int .i64 1, .int .i64 1] w fun e w' => ∃ sp p r q fb, e = .returned (.tuple #[.pointer (some ⟨sp, 0, none⟩), .bool true]) ∧ Bg w 1 sp p r q fb w') := Lib.hid (begins_one w 1 (by decide) (by decide))
  have HT := Lib.hid T0
  clear T0
  go_enter Tryz.func7, Tryz.ntmps7
  go_wp2_with fail
  refine HBg.out.mono ?_
  rintro e w1 ⟨sp, p, r, q, fb, rfl, hB⟩
  have HB := Lib.hid hB
  obtain ⟨f, fc, hst, f0, f1, f2, f3, f4⟩ := hB.st
  obtain ⟨cur, hcur, hcur0⟩ := hB.fr
  have hS0 : B7 sp fb p q 1 fc (Kp [] w1) w1 := ⟨(hst.cell (i := 0) (by decide)).trans (congrArg some f0), (hst.cell (i := 1) (by decide)).trans (congrArg some f1), (hst.cell (i := 2) (by decide)).trans (congrArg some f2), (hst.cell (i := 3) (by decide)).trans (congrArg some f3), (hst.cell (i := 4) (by decide)).trans (congrArg some f4), (cell_of_row hcur 0).trans hcur0, Kp.refl _ _⟩
  have HS0 := Lib.hid hS0
  clear hB hst f0 f1 f2 f3 f4 hcur hcur0 hS0 HBg
  go_upto_region 4 with (fail)
  go_cut [3] (fun v3 wc => v3 = .pointer (some ⟨w1.heap.size, 0, none⟩) ∧ Hid (Kp [] w1 wc ∧ wc.heap[w1.heap.size]? = some (.cells (mkC 1 0 1 p q 0 false .nilFunc) 81 (0, 0))))
  case first =>
    obtain ⟨d0, d1, d2, d3, d4, d5, -⟩ := HS0.out
    have hrow : ((w1.alloc (.cells #[.iface 38 (.pointer (some ⟨p, 0, none⟩)), .int .i64 1, .int .i64 0, .int .i64 1, .int .u8 0, .pointer (some ⟨q, 0, none⟩), .bool false, .nilFunc] 81)).drew).heap[w1.heap.size]? = some (.cells (mkC 1 0 1 p q 0 false .nilFunc) 81 (0, 0)) := heap_alloc_new w1 _
    have hkb : Kp [] w1 ((w1.alloc (.cells #[.iface 38 (.pointer (some ⟨p, 0, none⟩)), .int .i64 1, .int .i64 0, .int .i64 1, .int .u8 0, .pointer (some ⟨q, 0, none⟩), .bool false, .nilFunc] 81)).drew) := ((Kp.refl _ _).alloc _).drew
    have hsf : (store ⟨w1.heap.size, 7, none⟩ .nilFunc).run Tryz.prog ((w1.alloc (.cells #[.iface 38 (.pointer (some ⟨p, 0, none⟩)), .int .i64 1, .int .i64 0, .int .i64 1, .int .u8 0, .pointer (some ⟨q, 0, none⟩), .bool false, .nilFunc] 81)).drew) = .ok () (((w1.alloc (.cells #[.iface 38 (.pointer (some ⟨p, 0, none⟩)), .int .i64 1, .int .i64 0, .int .i64 1, .int .u8 0, .pointer (some ⟨q, 0, none⟩), .bool false, .nilFunc] 81)).drew).setCell ⟨w1.heap.size, 7, none⟩ .nilFunc) := Li.store_one ((cell_of_row hrow 7).trans (show _ = some .nilFunc from rfl)) (free_of_row hrow 7) rfl
    have hk9 : Kp [] w1 (((w1.alloc (.cells #[.iface 38 (.pointer (some ⟨p, 0, none⟩)), .int .i64 1, .int .i64 0, .int .i64 1, .int .u8 0, .pointer (some ⟨q, 0, none⟩), .bool false, .nilFunc] 81)).drew).setCell ⟨w1.heap.size, 7, none⟩ .nilFunc) := kp_new_set hkb (b := w1.heap.size) ((Kp.refl _ _).setCell (.inl (by simp)) _) (Nat.le_refl _)
    have hr9 : (((w1.alloc (.cells #[.iface 38 (.pointer (some ⟨p, 0, none⟩)), .int .i64 1, .int .i64 0, .int .i64 1, .int .u8 0, .pointer (some ⟨q, 0, none⟩), .bool false, .nilFunc] 81)).drew).setCell ⟨w1.heap.size, 7, none⟩ .nilFunc).heap[w1.heap.size]? = some (.cells (mkC 1 0 1 p q 0 false .nilFunc) 81 (0, 0)) := by rw [heap_setCell_same _ _ _ _ _ _ hrow]; rfl
    have HS9 := Lib.hid (B7.keep HS0.out hk9 (by simp) (by simp) (fun k => k.trans hk9))
    have HS8 := Lib.hid (B7.keep HS0.out hkb (by simp) (by simp) (fun k => k.trans hkb))
    have HR9 := Lib.hid (And.intro hk9 hr9)
    have HR8 := Lib.hid (And.intro hkb hrow)
    clear hrow hkb hk9 hr9
    go_region_held3? (fun wx => wx.cell? ⟨sp, 0, none⟩ = some (.pointer (some ⟨p, 0, none⟩)) ∧ wx.cell? ⟨sp, 1, none⟩ = some (.int .i64 1) ∧ wx.cell? ⟨sp, 2, none⟩ = some (.int .i64 0) ∧ wx.cell? ⟨sp, 3, none⟩ = some (.int .i64 1) ∧ wx.cell? ⟨sp, 4, none⟩ = some (.slice (some ⟨fb, 0, none⟩) 1 fc) ∧ wx.cell? ⟨fb, 0, none⟩ = some (.pointer (some ⟨q, 0, none⟩)) ∧ Kp [] w1 wx)
      (first
        | assumption
        | exact B7.keep HS0.out ((Kp.refl [] _).drew) (by simp) (by simp) (fun k => k.trans ((Kp.refl [] _).drew))
        | exact B7.keep ‹B7 sp fb p q 1 fc (Kp [] w1) _› ((Kp.refl [] _).alloc _) (by simp) (by simp) (fun k => k.trans ((Kp.refl [] _).alloc _))
        | exact HS9.out
        | exact HS8.out)
      (fail)
    all_goals
      rename_i hHeld
      clear hHeld
      go_wp2_with fail
      go_meet
      first
        | exact ⟨rfl, Lib.hid HR8.out⟩
        | exact ⟨rfl, Lib.hid HR9.out⟩
  case rest =>
    obtain ⟨rfl, HC⟩ := hcut
    have HW0 : Hid (Wk w 0 sp p r q fb w1.heap.size wc) := by
      have hB := HB.out
      obtain ⟨f, fc, hst, hf⟩ := hB.st
      exact Lib.hid ⟨⟨_, _, _, (bg_mw HT.out hB).on HC.out.1, .inl ⟨rfl, rfl, rfl⟩, fun g hg => by obtain ⟨c, _, hb⟩ := hg; simp [Li.blk_nil] at hb⟩, hB.kp.trans HC.out.1, ⟨f, fc, hst.keep HC.out.1 (by simp), hf⟩, HC.out.2, by have := hB.lo; omega⟩
    have hSt := Lib.hid (fun w => Ly.start_is 1 0 1 0 5 w (by decide) (by decide) (by decide) (by decide) (by decide) (by decide) (by decide))
    clear HC HS0 HB
    go_wp2_with fail
    go_loopg [4, 5] 16 (fun gg v4 v5 wr => ∃ j l : Nat, j + gg = 16 ∧ v5 = .int .i64 j ∧ v4 = .int .i64 l ∧ Hid ((j = 0 ∧ l = 0) ∨ (1 ≤ j ∧ l = 3 + 2 * j)) ∧ Hid (Wk w j sp p r q fb w1.heap.size wr))
    case atStart => exact ⟨0, 0, by decide, rfl, rfl, Lib.hid (.inl ⟨rfl, rfl⟩), HW0⟩
    case round =>
      obtain ⟨j, l, hj, rfl, rfl, HL, HR⟩ := hrel
      obtain ⟨vs, H, R, hm, hs, ho⟩ := HR.out.mw
      have hbx := HR.out.bx
      obtain ⟨r0, r1, r2, r3, r4, r5, r6, r7, -⟩ := ms_of (F := fun _ => True) hbx trivial
      by_cases hlt : j < 16
      · obtain ⟨H', R', he, hs'⟩ := st_step hs hlt
        have hmk := make_one hm (by omega)
        rw [he] at hmk
        have HMk : Hid (Calls Tryz.prog 27 #[.agg #[.iface 38 (.pointer (some ⟨p, 0, none⟩)), .int .i64 1, .int .i64 0, .int .i64 1, .int .u8 0, .pointer (some ⟨q, 0, none⟩), .bool false, .nilFunc], .int .i64 1, .int .i64 1] wr fun e w' => e = .returned (.tuple #[.int .i64 ((5 + 2 * j : Nat) : Int), .int .i64 0]) ∧ Wk w (j + 1) sp p r q fb w1.heap.size w') := by
          refine Lib.hid (hmk.mono ?_)
          rintro e w' ⟨rfl, vs', h2, h3⟩
          exact ⟨rfl, HR.out.step hm ho (h2.more (by omega)) hs' h3⟩
        clear hmk he hs' hm hs ho hbx
        obtain ⟨k, hk⟩ : ∃ k, k = 5 + 2 * j := ⟨_, rfl⟩
        rw [← hk] at HMk
        have HKk := Lib.hid hk
        clear hk
        rcases HL.out with ⟨rfl, rfl⟩ | ⟨h1, hl⟩
        · have hk5 : k = 5 := HKk.out
          subst hk5
          clear HKk
          go_wp2_with fail
          refine HMk.out.mono ?_
          rintro e w2 ⟨rfl, hW2⟩
          have HW2 := Lib.hid hW2
          obtain ⟨f, fc2, hst, f0, f1, f2, f3, f4⟩ := hW2.st
          have c1 := (hst.cell (i := 1) (by decide)).trans (congrArg some f1)
          have c2 := (hst.cell (i := 2) (by decide)).trans (congrArg some f2)
          have c3 := (hst.cell (i := 3) (by decide)).trans (congrArg some f3)
          clear hW2 hst f0 f1 f2 f3 f4 r0 r1 r2 r3 r4 r5 r6 r7
          go_wp2_with fail
          refine (hSt.out _).mono ?_
          rintro e w3 ⟨rfl, hk3⟩
          have HW3 : Hid (Wk w (0 + 1) sp p r q fb w1.heap.size w3) := Lib.hid (HW2.out.on hk3)
          clear hk3 c1 c2 c3
          go_wp2_with fail
          go_roundg 15
          case rel => exact ⟨1, 5, by decide, by go_num, by go_num, Lib.hid (.inr ⟨by decide, by decide⟩), HW3⟩
          case measure => omega
        · have hj0 : ((j : Int) == 0) = false := by simp; omega
          have hjp : (0 : Int) < j := by omega
          have hjp2 : decide (0 < j) = true := by simp; omega
          have e1 : (l : Int) + 2 = k := by have := HKk.out; omega
          have e2 := IntWalk.i64_in (k : Int) (by have := HKk.out; omega)
          clear hl
          go_wp2_with fail
          refine HMk.out.mono ?_
          rintro e w2 ⟨rfl, hW2⟩
          have HW2 := Lib.hid hW2
          clear hW2 r0 r1 r2 r3 r4 r5 r6 r7
          go_wp2_with fail
          go_roundg (16 - (j + 1))
          case rel => exact ⟨j + 1, k, by omega, by go_num, by go_num, Lib.hid (.inr ⟨by omega, by have := HKk.out; omega⟩), HW2⟩
          case measure => omega
      · obtain rfl : j = 16 := by omega
        have hno := st_last hs
        have hmk := make_one hm (by decide)
        rw [hno] at hmk
        have HMk : Hid (Calls Tryz.prog 27 #[.agg #[.iface 38 (.pointer (some ⟨p, 0, none⟩)), .int .i64 1, .int .i64 0, .int .i64 1, .int .u8 0, .pointer (some ⟨q, 0, none⟩), .bool false, .nilFunc], .int .i64 1, .int .i64 1] wr fun e w' => e = .returned (.tuple #[.int .i64 0, .int .i64 7]) ∧ Kp [] w w') := by
          refine Lib.hid (hmk.mono ?_)
          rintro e w' ⟨rfl, vs', h2, h3⟩
          exact ⟨rfl, HR.out.old ho h3⟩
        clear hmk hno hm hs ho hbx
        go_wp2_with fail
        refine HMk.out.mono ?_
        rintro e w2 ⟨rfl, hk2⟩
        have HK2 := Lib.hid hk2
        clear hk2 r0 r1 r2 r3 r4 r5 r6 r7
        go_wp2_with fail
        go_ret
        exact ⟨rfl, HK2.out⟩

end Go.Proofs.YtbpgkocbfleajaaGreatDoor

namespace Go.Proofs.YtbpgkocbfleajaaGreatDoor
set_option linter.unusedVariables false
set_option linter.unusedSimpArgs false
set_option maxRecDepth 100000
open Go.RowKit

end Go.Proofs.YtbpgkocbfleajaaGreatDoor

namespace Go.Proofs.YtbpgkocbfleajaaGreatDoor
set_option linter.unusedVariables false
set_option linter.unusedSimpArgs false
set_option maxRecDepth 100000
open Go.RowKit

set_option maxHeartbeats 4000000 in
theorem makes_skip (w : World) (T0 : Cl.Tab w) (x y : Int) (x0 : 0 ≤ x) (x1 : x ≤ 255) (y0 : 0 ≤ y) (y1 : y ≤ 255) (ao : Option Addr) (n cap : Nat) (hs : x < 1 ∨ 12 < x ∨ y < 1 ∨ 4 < y ∨ 60 < n) :
    Calls Tryz.prog 3 #[.int .u8 x, .int .u8 y, .slice ao n cap] w fun e w' => e = .returned (.bool true) ∧ Kp [] w w' := by
  have HWk := Lib.hid (wakes_any w T0)
  by_cases h1 : x < 1
  · have d1 : decide (x < 1) = true := by simp [h1]
    clear hs
    go_enter Tryz.func3, Tryz.ntmps3
    go_wp2_with fail
    refine HWk.out.mono ?_
    rintro e w1 ⟨rfl, hk⟩
    have HK := Lib.hid hk
    clear hk
    go_wp2_with fail
    go_ret
    exact ⟨rfl, HK.out⟩
  have d1 : decide (x < 1) = false := by simp [h1]
  by_cases h2 : 12 < x
  · have d2 : decide (12 < x) = true := by simp [h2]
    clear hs
    go_enter Tryz.func3, Tryz.ntmps3
    go_wp2_with fail
    refine HWk.out.mono ?_
    rintro e w1 ⟨rfl, hk⟩
    have HK := Lib.hid hk
    clear hk
    go_wp2_with fail
    go_ret
    exact ⟨rfl, HK.out⟩
  have d2 : decide (12 < x) = false := by simp [h2]
  by_cases h3 : y < 1
  · have d3 : decide (y < 1) = true := by simp [h3]
    clear hs
    go_enter Tryz.func3, Tryz.ntmps3
    go_wp2_with fail
    refine HWk.out.mono ?_
    rintro e w1 ⟨rfl, hk⟩
    have HK := Lib.hid hk
    clear hk
    go_wp2_with fail
    go_ret
    exact ⟨rfl, HK.out⟩
  have d3 : decide (y < 1) = false := by simp [h3]
  by_cases h4 : 4 < y
  · have d4 : decide (4 < y) = true := by simp [h4]
    clear hs
    go_enter Tryz.func3, Tryz.ntmps3
    go_wp2_with fail
    refine HWk.out.mono ?_
    rintro e w1 ⟨rfl, hk⟩
    have HK := Lib.hid hk
    clear hk
    go_wp2_with fail
    go_ret
    exact ⟨rfl, HK.out⟩
  have d4 : decide (4 < y) = false := by simp [h4]
  have h5 : 60 < n := by omega
  have d5 : decide (60 < n) = true := by simp [h5]
  have d5' : decide ((60 : Int) < (n : Int)) = true := by simp; omega
  clear hs
  go_enter Tryz.func3, Tryz.ntmps3
  go_wp2_with fail
  refine HWk.out.mono ?_
  rintro e w1 ⟨rfl, hk⟩
  have HK := Lib.hid hk
  clear hk
  go_wp2_with fail
  go_ret
  exact ⟨rfl, HK.out⟩

set_option maxHeartbeats 4000000 in
theorem makes_main (w : World) (T0 : Cl.Tab w) (HDs : Hid (∀ (sp : Nat) (qs : Nat → Nat) (T n : Nat), 1 ≤ T → T ≤ 4 → n ≤ 12 → CDoes w.heap.size T n (w.heap.size + 1) w.heap.size sp qs)) (n T : Nat) (hn1 : 1 ≤ n) (hn2 : n ≤ 12) (hT1 : 1 ≤ T) (hT4 : T ≤ 4) (ao : Option Addr) (cap : Nat) (L : List (Int × Int × Int × Int × Int)) (hL : L.length ≤ 60) (hA : Acts w ao L) :
    Calls Tryz.prog 3 #[.int .u8 n, .int .u8 T, .slice ao L.length cap] w fun e w' => e = .returned (.bool true) ∧ Kp [] w w' := by
  have HBg := Lib.hid (begins_many w T0 T n hT1 hT4 hn1 hn2)
  have HAc := Lib.hid hA
  obtain ⟨M, hM⟩ : ∃ M, M = L.length := ⟨_, rfl⟩
  have HM := Lib.hid hM
  rw [← hM] at hL ⊢
  have d1 : decide ((n : Int) < 1) = false := by simp; omega
  have d2 : decide ((12 : Int) < n) = false := by simp; omega
  have d3 : decide ((T : Int) < 1) = false := by simp; omega
  have d4 : decide ((4 : Int) < T) = false := by simp; omega
  have d5 : decide (60 < M) = false := by simp; omega
  have d5' : decide ((60 : Int) < (M : Int)) = false := by simp; omega
  have c1 : IntKind.i64.wrap (n : Int) = n := IntWalk.i64_in n (by omega)
  have c2 : IntKind.i64.wrap (T : Int) = T := IntWalk.i64_in T (by omega)
  clear hA hM T0
  go_enter Tryz.func3, Tryz.ntmps3
  go_wp2_with fail
  refine HBg.out.mono ?_
  rintro e w1 ⟨sp, f, db, dc, qs, rfl, hA1, hk1, hlo⟩
  have HDs' := Lib.hid (HDs.out sp qs T n hT1 hT4 hn2)
  have H1 := Lib.hid (show ∃ v s t col, t ≤ 1 + 600 * 0 ∧ Aw T n (w.heap.size + 1) w.heap.size sp qs v s t col w1 ∧ Mok T n 0 s ∧ Lo w.heap.size T (w.heap.size + 1) w.heap.size sp qs v ∧ Below w.heap.size w w1 from ⟨_, _, 1, colB, by omega, hA1, ⟨fun i hi x hx => by simp at hx, fun i hi => ⟨by simp, rfl⟩⟩, hlo, hk1.to_below⟩)
  clear hA1 hk1 hlo HBg HDs d1 d2 d3 d4 d5 d5' c1 c2
  go_wp2_with fail
  go_loopg [9] M (fun g v9 wr => ∃ k : Nat, k + g = M ∧ v9 = .int .i64 k ∧ Hid (∃ v s t col, t ≤ 1 + 600 * k ∧ Aw T n (w.heap.size + 1) w.heap.size sp qs v s t col wr ∧ Mok T n k s ∧ Lo w.heap.size T (w.heap.size + 1) w.heap.size sp qs v ∧ Below w.heap.size w wr))
  case atStart => exact ⟨0, by omega, rfl, H1⟩
  case round =>
    obtain ⟨k, hk, rfl, HR⟩ := hrel
    clear H1
    obtain ⟨v, s, t, col, ht, hA, hMo, hLo, hB⟩ := HR.out
    by_cases hkM : k < M
    · obtain ⟨y, hy⟩ : ∃ y, L[k]? = some y := ⟨_, List.getElem?_eq_getElem (by rw [← HM.out]; exact hkM)⟩
      obtain ⟨b, o, rfl, hbl, q0, q1, q2, q3, q4, u0, u1, u2, u3, u4⟩ := HAc.out k y hy
      have kB := kp_of_below hB
      have q0 := kp_cell kB (by simp) q0
      have q1 := kp_cell kB (by simp) q1
      have q2 := kp_cell kB (by simp) q2
      have q3 := kp_cell kB (by simp) q3
      have q4 := kp_cell kB (by simp) q4
      have v0 := bounds_u8 u0
      have v1 := bounds_u8 u1
      have v2 := bounds_u8 u2
      have HDo := Lib.hid (HDs'.out v s t col wr k y.1 y.2.1 y.2.2.1 y.2.2.2.1 y.2.2.2.2 hA (by omega) (by omega) hMo hLo hB.size v0.1 v0.2 v1.1 v1.2 v2.1 v2.2)
      have HBel := Lib.hid (And.intro ht hB)
      clear hA hMo hLo hB HR kB hbl u0 u1 u2 u3 u4 v0 v1 v2 ht
      generalize y.1 = y0 at *
      generalize y.2.1 = y1 at *
      generalize y.2.2.1 = y2 at *
      generalize y.2.2.2.1 = y3 at *
      generalize y.2.2.2.2 = y4 at *
      clear hy
      go_wp2_with fail
      refine HDo.out.mono ?_
      rintro e w2 ⟨rfl, v', s', col', hA2, hM2, hL2, hB2⟩
      have HSm := Lib.hid (aw_same hA2 (by omega) (by omega) hn2)
      have HN := Lib.hid (And.intro hA2 (And.intro hM2 (And.intro hL2 (HBel.out.2.trans hB2))))
      clear hA2 hM2 hL2 hB2 q0 q1 q2 q3 q4
      go_wp2_with fail
      refine HSm.out.mono ?_
      rintro e w3 ⟨rfl, hk3⟩
      have HN3 := Lib.hid (show ∃ v s t' col, t' ≤ 1 + 600 * (k + 1) ∧ Aw T n (w.heap.size + 1) w.heap.size sp qs v s t' col w3 ∧ Mok T n (k + 1) s ∧ Lo w.heap.size T (w.heap.size + 1) w.heap.size sp qs v ∧ Below w.heap.size w w3 from ⟨v', s', t + 600, col', by have := HBel.out.1; omega, HN.out.1.on hk3, HN.out.2.1, HN.out.2.2.1, HN.out.2.2.2.trans (hk3.below HN.out.2.2.2.size (by simp))⟩)
      clear hk3 HN HSm HDo
      go_wp2_with fail
      go_roundg (M - (k + 1))
      case rel => exact ⟨k + 1, by omega, by go_num, HN3⟩
      case measure => omega
    · have HWk := Lib.hid (wakes_any wr (hA.mws.one 0 (by omega)).tab)
      have HB := Lib.hid hB
      clear hA hMo hLo hB HR
      go_wp2_with fail
      refine HWk.out.mono ?_
      rintro e w4 ⟨rfl, hk4⟩
      have HK4 := Lib.hid ((kp_of_below HB.out).trans hk4)
      clear hk4
      go_wp2_with fail
      go_ret
      exact ⟨rfl, HK4.out⟩
end Go.Proofs.YtbpgkocbfleajaaGreatDoor
