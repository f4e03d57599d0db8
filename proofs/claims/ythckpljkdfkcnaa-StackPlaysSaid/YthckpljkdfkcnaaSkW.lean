/- StackPlays, walked: for every room and every row of acts it returns true. Conditions: the acts lie where the slice leads. -/
import Derived.Test.YthckpljkdfkcnaaSkQ
import Derived.Test.YthckpljkdfkcnaaSkO
import Derived.Deep.LoopGhost
import Derived.Deep.CutRange
import Derived.Deep.CutBlock
import Derived.Deep.DeepCutAuto
import Derived.Deep.RegionHeld3
import Derived.Carry
import Derived.BigQuiet
namespace Go.Proofs.Ythckpljkdfkcnaa
set_option linter.unusedVariables false
set_option linter.unusedSimpArgs false
open Go.RowKit

/-- What is known ahead of a round, and in it: the stack at p has L, and whether it overflowed; the document's own at b has M. -/
structure PL (w : World) (p r b N : Nat) (L : List Int) (o : Bool) (M : List Int) (o2 : Bool) (u : Value) (w' : World) : Prop where
  st : Own w p r N L o w'
  hb : w'.heap[b]? = some (.cells #[.int .i64 N, u, .bool o2] 30 (0, 0))
  rd : Rd w' u M
  ge : w.heap.size ≤ b

section
variable {w w' w'' : World} {p r b N : Nat} {L L' M M' : List Int} {o o' o2 o3 : Bool} {u u' : Value}
theorem PL.on (h : PL w p r b N L o M o2 u w') (k : Kp [] w' w'') : PL w p r b N L o M o2 u w'' := ⟨h.st.on k, k.row (by simp) h.hb, h.rd.keep0 k, h.ge⟩
theorem PL.ne (h : PL w p r b N L o M o2 u w') : b ≠ p ∧ b ≠ r ∧ (∀ g ∈ blk u, g ≠ p ∧ g ≠ r ∧ g ≠ b) := by
  obtain ⟨cur, hr, _⟩ := h.st.sk.row
  exact ⟨ne_types h.hb h.st.sk.hp (by decide), ne_types h.hb hr (by decide), fun g hg => ⟨h.rd.nin h.st.sk.hp (by decide) g hg, h.rd.nin hr (by decide) g hg, h.rd.nin h.hb (by decide) g hg⟩⟩
theorem PL.stack (h : PL w p r b N L o M o2 u w') (s : Sk w'' p r N L' o') (k : Kp [p, r] w' w'') : PL w p r b N L' o' M o2 u w'' := by
  obtain ⟨n1, n2, n3⟩ := h.ne
  exact ⟨h.st.turn s k, k.row (by simp [n1, n2]) h.hb, h.rd.keep k (fun g hg => by have := n3 g hg; simp [this.1, this.2.1]), h.ge⟩
theorem PL.cells (h : PL w p r b N L o M o2 u w') : w'.cell? ⟨b, 0, none⟩ = some (.int .i64 N) ∧ w'.cell? ⟨b, 1, none⟩ = some u ∧ w'.cell? ⟨b, 2, none⟩ = some (.bool o2) ∧ w'.frozen? ⟨b, 2, none⟩ = false := by
  rw [cell_of_row h.hb, cell_of_row h.hb, cell_of_row h.hb]; exact ⟨rfl, rfl, rfl, free_of_row h.hb 2⟩
/-- The document's own is asked whether it overflowed. -/
theorem PL.asked (h : PL w p r b N L o M o2 u w') (o3 : Bool) : PL w p r b N L o M o3 u (w'.setCell ⟨b, 2, none⟩ (.bool o3)) := by
  obtain ⟨n1, n2, n3⟩ := h.ne
  have k : Kp [b] w' (w'.setCell ⟨b, 2, none⟩ (.bool o3)) := (Kp.refl _ _).setCell (.inl (by simp)) _
  refine ⟨⟨h.st.sk.keep k (by simpa using fun e => n1 e.symm) (by simpa using fun e => n2 e.symm), h.st.bel.trans (k.below h.st.bel.size (by simpa using h.ge)), h.st.hp, h.st.hr⟩, ?_, h.rd.keep k (fun g hg => by have := n3 g hg; simp [this.2.2]), h.ge⟩
  rw [heap_setCell_same _ _ _ _ _ _ h.hb]
  simp
/-- The document's own is replaced, by way of a box of its own. -/
structure Sw (w6 : World) (b N : Nat) (u u' : Value) (o2 o3 : Bool) : Prop where
  nw : (w6.alloc (.cells #[.int .i64 0, .slice none 0 0, .bool false] 30)).heap[w6.heap.size]? = some (.cells #[.int .i64 0, .slice none 0 0, .bool false] 30 (0, 0))
  one : (#[.int .i64 N, u', .bool o3] : Array Value).all (·.oneCell') = true
  h8 : ((w6.alloc (.cells #[.int .i64 0, .slice none 0 0, .bool false] 30)).setRow w6.heap.size #[.int .i64 N, u', .bool o3]).heap[w6.heap.size]? = some (.cells #[.int .i64 N, u', .bool o3] 30 (0, 0))
  b8 : ((w6.alloc (.cells #[.int .i64 0, .slice none 0 0, .bool false] 30)).setRow w6.heap.size #[.int .i64 N, u', .bool o3]).heap[b]? = some (.cells #[.int .i64 N, u, .bool o2] 30 (0, 0))
theorem PL.swap {w6 : World} (h : PL w p r b N L o M o2 u w') (k : Kp [] w' w6) (hr : Rd w6 u' M') (o3 : Bool) :
    Sw w6 b N u u' o2 o3 ∧ PL w p r b N L o M' o3 u' (((w6.alloc (.cells #[.int .i64 0, .slice none 0 0, .bool false] 30)).setRow w6.heap.size #[.int .i64 N, u', .bool o3]).setRow b #[.int .i64 N, u', .bool o3]) := by
  have h6 := h.on k
  have hbl := lt_of_block h6.hb
  have k7 : Kp [] w6 (w6.alloc (.cells #[.int .i64 0, .slice none 0 0, .bool false] 30)) := (Kp.refl _ _).alloc _
  have k8 : Kp [] w6 ((w6.alloc (.cells #[.int .i64 0, .slice none 0 0, .bool false] 30)).setRow w6.heap.size #[.int .i64 N, u', .bool o3]) := k7.setRow (.inr (Nat.le_refl _)) _
  have n7 := heap_alloc_new w6 (.cells #[.int .i64 0, .slice none 0 0, .bool false] 30)
  have b8 := k8.row (by simp) h6.hb
  have k9 : Kp [b] w6 (((w6.alloc (.cells #[.int .i64 0, .slice none 0 0, .bool false] 30)).setRow w6.heap.size #[.int .i64 N, u', .bool o3]).setRow b #[.int .i64 N, u', .bool o3]) := (k8.mono (by simp)).setRow (.inl (by simp)) _
  obtain ⟨n1, n2, n3⟩ := h6.ne
  refine ⟨⟨n7, by obtain ⟨ao', c', rfl, _⟩ := hr.form; simp [Value.oneCell'], setRow_heap _ _ _ _ _ _ n7, b8⟩, ⟨h6.st.sk.keep k9 (by simpa using fun e => n1 e.symm) (by simpa using fun e => n2 e.symm), h6.st.bel.trans (k9.below h6.st.bel.size (by simpa using h.ge)), h.st.hp, h.st.hr⟩, setRow_heap _ _ _ _ _ _ b8, hr.keep k9 (fun g hg => by
    have := hr.nin h6.hb (by decide) g hg
    simpa using this), h.ge⟩
end

theorem ov_of {w w' : World} {p r b N : Nat} {L M : List Int} {o o2 : Bool} {u : Value} (h : PL w p r b N L o M o2 u w') : w'.cell? ⟨b, 2, none⟩ = some (.bool o2) ∧ w'.frozen? ⟨b, 2, none⟩ = false := ⟨h.cells.2.2.1, h.cells.2.2.2⟩

/-- What is known behind the document's own Push: the two, and the next one in a box of its own. -/
structure PB (w : World) (p r b N : Nat) (L : List Int) (o : Bool) (u : Value) (y : Nat) (M : List Int) (o6 : Bool) (u6 : Value) (w' : World) : Prop where
  pl : PL w p r b N L o L o u w'
  hy : w'.heap[y]? = some (.cells #[.int .i64 N, u6, .bool o6] 30 (0, 0))
  rd : Rd w' u6 M
theorem PB.one {w w' : World} {p r b N y : Nat} {L M : List Int} {o o6 : Bool} {u u6 : Value} (h : PB w p r b N L o u y M o6 u6 w') : (#[.int .i64 N, u6, .bool o6] : Array Value).all (·.oneCell') = true := by
  obtain ⟨ao', c', rfl, _⟩ := h.rd.form; simp [Value.oneCell']
theorem PB.next {w w' : World} {p r b N y : Nat} {L M : List Int} {o o6 : Bool} {u u6 : Value} (h : PB w p r b N L o u y M o6 u6 w') : PL w p r b N L o M o6 u6 (w'.setRow b #[.int .i64 N, u6, .bool o6]) := by
  have k : Kp [b] w' (w'.setRow b #[.int .i64 N, u6, .bool o6]) := (Kp.refl _ _).setRow (.inl (by simp)) _
  obtain ⟨n1, n2, n3⟩ := h.pl.ne
  exact ⟨⟨h.pl.st.sk.keep k (by simpa using fun e => n1 e.symm) (by simpa using fun e => n2 e.symm), h.pl.st.bel.trans (k.below h.pl.st.bel.size (by simpa using h.pl.ge)), h.pl.st.hp, h.pl.st.hr⟩, setRow_heap _ _ _ _ _ _ h.pl.hb, h.rd.keep k (fun g hg => by
    have := h.rd.nin h.pl.hb (by decide) g hg
    simpa using this), h.pl.ge⟩
section
variable {w wr w6 : World} {p r b N : Nat} {L M : List Int} {o o6 : Bool} {u u6 : Value}
/-- The next one is laid into a box that is made behind the call. -/
theorem PB.make1 (h : PL w p r b N L o L o u wr) (k : Kp [] wr w6) (hr : Rd w6 u6 M) : PB w p r b N L o u w6.heap.size M o6 u6 (w6.alloc (.cells #[.int .i64 N, u6, .bool o6] 30)) :=
  have ka := (Kp.refl [] w6).alloc (.cells #[.int .i64 N, u6, .bool o6] 30)
  ⟨(h.on k).on ka, heap_alloc_new _ _, hr.keep0 ka⟩
/-- The next one is stored into a box that was made ahead of the call. -/
theorem PB.make2 (h : PL w p r b N L o L o u wr) (k : Kp [] wr w6) (hr : Rd w6 u6 M) (hy : w6.heap[wr.heap.size]? = some (.cells #[.int .i64 0, .slice none 0 0, .bool false] 30 (0, 0))) :
    PB w p r b N L o u wr.heap.size M o6 u6 (((w6.setCell ⟨wr.heap.size, 0, none⟩ (.int .i64 N)).setCell ⟨wr.heap.size, 1, none⟩ u6).setCell ⟨wr.heap.size, 2, none⟩ (.bool o6)) := by
  have k3 : Kp [wr.heap.size] w6 (((w6.setCell ⟨wr.heap.size, 0, none⟩ (.int .i64 N)).setCell ⟨wr.heap.size, 1, none⟩ u6).setCell ⟨wr.heap.size, 2, none⟩ (.bool o6)) := (((Kp.refl _ _).setCell (.inl (by simp)) _).setCell (.inl (by simp)) _).setCell (.inl (by simp)) _
  have k4 : Kp [] wr (((w6.setCell ⟨wr.heap.size, 0, none⟩ (.int .i64 N)).setCell ⟨wr.heap.size, 1, none⟩ u6).setCell ⟨wr.heap.size, 2, none⟩ (.bool o6)) := ((k.mono (by simp)).trans k3).mono (fun x hx hlt => by simp at hx; omega)
  refine ⟨h.on k4, ?_, hr.keep k3 fun g hg => by
    have := hr.nin hy (by decide) g hg
    simpa using this⟩
  rw [heap_setCell_same _ _ _ _ _ _ (heap_setCell_same _ _ _ _ _ _ (heap_setCell_same _ _ _ _ _ _ hy))]
  simp
end
/-- What holds in each world that the document's own Push passes through. -/
def Look (wc : World) (b N ab j : Nat) (u : Value) (o : Bool) (a : Int) (w' : World) : Prop :=
  w'.cell? ⟨b, 0, none⟩ = some (.int .i64 N) ∧ w'.cell? ⟨b, 1, none⟩ = some u ∧ w'.cell? ⟨b, 2, none⟩ = some (.bool o) ∧ w'.cell? ⟨ab, j, none⟩ = some (.int .i64 a) ∧ Kp [] wc w'
section
variable {wc w' w2 : World} {b N ab j : Nat} {u : Value} {o : Bool} {a : Int}
theorem look_kp (h : Look wc b N ab j u o a w') : Kp [] wc w' := h.2.2.2.2
theorem look_to (h : Look wc b N ab j u o a wc) (k : Kp [] wc w2) : Look wc b N ab j u o a w2 := by
  obtain ⟨h1, h2, h3, h4, _⟩ := h
  exact ⟨k.cell (by simp) h1, k.cell (by simp) h2, k.cell (by simp) h3, k.cell (by simp) h4, k⟩
theorem look_on (h : Look wc b N ab j u o a w') (k : Kp [] w' w2) : Look wc b N ab j u o a w2 := by
  obtain ⟨h1, h2, h3, h4, h5⟩ := h
  exact ⟨k.cell (by simp) h1, k.cell (by simp) h2, k.cell (by simp) h3, k.cell (by simp) h4, h5.trans k⟩
theorem look_drew (h : Look wc b N ab j u o a w') : Look wc b N ab j u o a w'.drew := look_on h (Kp.refl _ _).drew
theorem look_alloc (h : Look wc b N ab j u o a w') (x : Obj) : Look wc b N ab j u o a (w'.alloc x) := look_on h ((Kp.refl _ _).alloc _)
/-- A box made since wc is stored. -/
theorem look_set3 (h : Look wc b N ab j u o a wc) (k : Kp [] wc w') {y : Nat} (hy : wc.heap.size ≤ y) (x0 x1 x2 : Value) : Look wc b N ab j u o a (((w'.setCell ⟨y, 0, none⟩ x0).setCell ⟨y, 1, none⟩ x1).setCell ⟨y, 2, none⟩ x2) :=
  look_to h (((k.setCell (.inr hy) _).setCell (.inr hy) _).setCell (.inr hy) _)
end

theorem plays_skip (w : World) (N : Int) (ao : Option Addr) (n cap : Nat) (h : 200 < n ∨ N < 1 ∨ 64 < N) :
    Calls Try.prog 3 #[.int .i64 N, .slice ao n cap] w fun e w' => e = .returned (.bool true) ∧ Below w.heap.size w w' := by
  by_cases h1 : 200 < n
  · go_enter Try.func3, Try.ntmps3
    go_wp2_with ((with_reducible refine (wakes_any _).mono ?_); rintro e w1 ⟨rfl, hb⟩; have H := Lib.hid hb; clear hb)
    go_ret
    exact ⟨rfl, H.out⟩
  · have h1' : n ≤ 200 := by omega
    have hnew := new_bad w N (by omega)
    by_cases h2 : N < 1
    · go_enter Try.func3, Try.ntmps3
      go_wp2_with fail
      refine hnew.mono ?_
      rintro e w1 ⟨rfl, rfl⟩
      go_wp2_with ((with_reducible refine (wakes_any _).mono ?_); rintro e w1 ⟨rfl, hb⟩; have H := Lib.hid hb; clear hb)
      go_ret
      exact ⟨rfl, H.out⟩
    · have h2' : 1 ≤ N := by omega
      have h3 : 64 < N := by omega
      go_enter Try.func3, Try.ntmps3
      go_wp2_with fail
      refine hnew.mono ?_
      rintro e w1 ⟨rfl, rfl⟩
      go_wp2_with ((with_reducible refine (wakes_any _).mono ?_); rintro e w1 ⟨rfl, hb⟩; have H := Lib.hid hb; clear hb)
      go_ret
      exact ⟨rfl, H.out⟩

theorem new_own (w : World) (p r n : Nat) (hp : p = w.heap.size + 1) (hr : r = w.heap.size) (h1 : 1 ≤ n) (h2 : n ≤ 64) :
    Calls Try.prog 7 #[.int .i64 n] w fun e w' => e = .returned (.tuple #[.pointer (some ⟨p, 0, none⟩), .int .i64 0]) ∧ Own w p r n [] false w' :=
  (new_good w n h1 h2).mono (by rintro e w' ⟨rfl, hs, hk⟩; exact ⟨by rw [hp], Own.made (hp ▸ hr ▸ hs) hk hp hr⟩)

set_option maxRecDepth 100000 in
set_option maxHeartbeats 8000000 in
theorem plays_main (w : World) (N : Nat) (ao : Option Addr) (cap : Nat) (A : List (Int × Int)) (hN1 : 1 ≤ N) (hN2 : N ≤ 64) (hm : A.length ≤ 200) (hA : Acts w ao A) :
    Calls Try.prog 3 #[.int .i64 N, .slice ao A.length cap] w fun e w' => e = .returned (.bool true) ∧ Below w.heap.size w w' := by
  obtain ⟨p, hp⟩ : ∃ p, p = w.heap.size + 1 := ⟨_, rfl⟩
  obtain ⟨r, hr⟩ : ∃ r, r = w.heap.size := ⟨_, rfl⟩
  have hnew := new_own w p r N hp hr hN1 hN2
  clear hp hr
  obtain ⟨m, hmm⟩ : ∃ m, m = A.length := ⟨_, rfl⟩
  have HM := Lib.hid hmm
  rw [← hmm] at hm ⊢
  clear hmm
  go_enter Try.func3, Try.ntmps3
  go_wp2_with fail
  refine hnew.mono ?_
  rintro e w1 ⟨rfl, hs1⟩
  obtain ⟨b, hb⟩ : ∃ b, b = w1.heap.size := ⟨_, rfl⟩
  have H1 : Hid (PL w p r b N [] false [] false (.slice none 0 0) (w1.alloc (.cells #[.int .i64 N, .slice none 0 0, .bool false] 30))) :=
    Lib.hid ⟨hs1.on ((Kp.refl _ _).alloc _), by rw [hb]; exact heap_alloc_new w1 _, Rd.nil _, by rw [hb]; exact hs1.bel.size⟩
  clear hs1 hnew
  go_wp2_with fail
  rw [← hb]
  clear hb
  generalize w1.alloc (.cells #[.int .i64 N, .slice none 0 0, .bool false] 30) = w2 at H1 ⊢
  clear w1
  go_loopg [8] m (fun gg vk wr => ∃ (k : Nat) (L : List Int) (o : Bool) (u : Value), k + gg = m ∧ vk = .int .i64 (k : Int) ∧ Hid (PL w p r b N L o L o u wr))
  case atStart => exact ⟨0, [], false, _, by omega, rfl, H1⟩
  case round =>
    clear H1
    obtain ⟨k, L, o, u, hkg, rfl, H⟩ := hrel
    by_cases hkm : k < m
    · have hkl : k < A.length := HM.out ▸ hkm
      obtain ⟨ab, i, hao, hbw, q0, q1, f0, f1⟩ := hA k _ (List.getElem?_eq_getElem hkl)
      subst hao
      generalize A[k].1 = d at q0 f0
      generalize A[k].2 = a at q1 f1
      have g0 := (H.out.st.bel.cell (p := ⟨ab, i + k * 2, none⟩) hbw).trans q0
      have g1 := (H.out.st.bel.cell (p := ⟨ab, i + k * 2 + 1, none⟩) hbw).trans q1
      clear q0
      have hle : L.length ≤ N := H.out.st.sk.le
      clear f1
      go_upto_block 2 with (fail)
      go_cut [9, 10, 11, 12, 13, 14, 15] from 50 to 141 (fun _ _ _ _ _ _ _ w' => ∃ (L' : List Int) (o' : Bool) (u' : Value), Hid (PL w p r b N L' o' L' o' u' w'))
      case first =>
        by_cases hd : d = 0
        · -- [PART POP
          have hdb : (d == 0) = true := by simp [hd]
          clear hd f0
          have h1 := pop_any wr p r N L o H.out.st.sk
          have h2 : ∀ w5, PL w p r b N L.dropLast o L o u w5 → Calls Try.prog 9 #[.agg #[.int .i64 N, u, .bool o]] w5 _ := fun w5 h5 => rpop_any w5 N u L o h5.rd (by omega)
          generalize popX L = xx at h1 h2
          generalize popB L = bb at h1 h2
          go_wp2_with fail
          refine h1.mono ?_
          rintro e w5 ⟨rfl, s5, k5⟩
          have H5 := Lib.hid (H.out.stack s5 k5)
          clear H s5 k5 h1 g0 g1
          obtain ⟨z0, z1, z2, _⟩ := H5.out.cells
          go_wp2_with fail
          refine (h2 w5 H5.out).mono ?_
          rintro e w6 ⟨u6, rfl, r6, k6⟩
          have F := Lib.hid (H5.out.swap k6 r6 o)
          clear k6 r6 h2 z0 z1 z2 H5
          go_wp2_with (first
            | (refine wpList_store_row rfl 30 _ _ rfl w6.heap.size _ rfl rfl 30 _ F.out.1.nw (by kernel_rfl) rfl F.out.1.one ?_)
            | (refine wpList_load_row rfl 30 _ rfl w6.heap.size rfl 30 _ _ _ F.out.1.h8 Try.underlying30 rfl (by kernel_rfl) ?_)
            | (refine wpList_store_row rfl 30 _ _ rfl b _ rfl rfl 30 _ F.out.1.b8 (by kernel_rfl) rfl F.out.1.one ?_))
          go_meet
          case rel => exact ⟨_, _, _, Lib.hid F.out.2⟩
          -- ]PART
        · have hdb : (d == 0) = false := by simp [hd]
          by_cases hd1 : d = 1
          · -- [PART OVER
            have hdb1 : (d == 1) = true := by simp [hd1]
            clear hd hd1 f0 g1
            have HD : Hid (PL w p r b N L o L o u wr.drew) := Lib.hid (H.out.on (Kp.refl _ _).drew)
            clear H
            go_upto_region 24 with (fail)
            go_region_held3 (fun w' => w'.cell? ⟨b, 2, none⟩ = some (.bool o) ∧ w'.frozen? ⟨b, 2, none⟩ = false)
              (first
                | exact ov_of H5.out
                | exact ov_of HD.out)
              (first
                | (go_at_call 10
                   refine (over_any _ p r N L o HD.out.st.sk).mono ?_
                   rintro e w5 ⟨rfl, s5, k5⟩
                   have H5 := Lib.hid (HD.out.stack s5 k5)
                   clear s5 k5))
            have H6 := Lib.hid (H5.out.asked false)
            obtain ⟨_, _, z2, z3⟩ := H5.out.cells
            go_wp2_with fail
            go_meet
            case rel => exact ⟨_, _, _, H6⟩
            -- ]PART
          · -- [PART PUSH
            have hdb1 : (d == 1) = false := by simp [hd1]
            clear hd hd1 f0
            go_upto_region 13 with (fail)
            go_cut [14, 15] from 50 to 141 (fun v14 v15 w' => ∃ (y : Nat) (u6 : Value), v14 = .pointer (some ⟨y, 0, none⟩) ∧ v15 = .bool (decide (L.length < N)) ∧ Hid (PB w p r b N L o u y (pushL N L a) (o || !decide (L.length < N)) u6 w'))
            case first =>
              obtain ⟨z0, z1, z2, _⟩ := H.out.cells
              have B : Hid (Look wr b N ab (i + k * 2 + 1) u o a wr) := Lib.hid ⟨z0, z1, z2, g1, Kp.refl _ _⟩
              have hbl := lt_of_block H.out.hb
              clear z0 z1 z2 g0 g1
              go_region_held3 (fun w' => w'.cell? ⟨b, 0, none⟩ = some (.int .i64 N) ∧ w'.cell? ⟨b, 1, none⟩ = some u ∧ w'.cell? ⟨b, 2, none⟩ = some (.bool o) ∧ w'.cell? ⟨ab, i + k * 2 + 1, none⟩ = some (.int .i64 a) ∧ Kp [] wr w')
                (first
                  | exact look_drew B.out
                  | exact look_alloc ‹Look wr b N ab (i + k * 2 + 1) u o a _› _
                  | exact look_to B.out k6
                  | exact look_to B.out (k6.alloc _)
                  | exact look_set3 B.out k6 (Nat.le_refl _) _ _ _)
                (first
                  | (go_at_call 11
                     refine (rpush_any _ N u L a o (H.out.rd.keep0 (look_kp ‹Look wr b N ab (i + k * 2 + 1) u o a _›)) (by omega) (by omega)).mono ?_
                     rintro e w6 ⟨u6, rfl, r6, hk⟩
                     have k6 : Kp [] wr w6 := (look_kp ‹Look wr b N ab (i + k * 2 + 1) u o a _›).trans hk
                     have R6 := Lib.hid r6
                     obtain ⟨ao6, c6, hu6, _⟩ := r6.form
                     obtain ⟨n6, hn6⟩ : ∃ n6, n6 = (pushL N L a).length := ⟨_, rfl⟩
                     rw [← hn6] at hu6
                     clear hn6
                     subst hu6
                     have hy := hk.drew_l.row (by simp) (heap_alloc_new _ _)
                     have e0 := cell_of_row hy 0
                     have e1 := cell_of_row hy 1
                     have e2 := cell_of_row hy 2
                     have f0 := free_of_row hy 0
                     have f1 := free_of_row hy 1
                     have f2 := free_of_row hy 2
                     clear r6)
                  | (go_at_call 11
                     refine (rpush_any _ N u L a o (H.out.rd.keep0 (look_kp ‹Look wr b N ab (i + k * 2 + 1) u o a _›)) (by omega) (by omega)).mono ?_
                     rintro e w6 ⟨u6, rfl, r6, hk⟩
                     have k6 : Kp [] wr w6 := (look_kp ‹Look wr b N ab (i + k * 2 + 1) u o a _›).trans hk
                     have R6 := Lib.hid r6
                     obtain ⟨ao6, c6, hu6, _⟩ := r6.form
                     obtain ⟨n6, hn6⟩ : ∃ n6, n6 = (pushL N L a).length := ⟨_, rfl⟩
                     rw [← hn6] at hu6
                     clear hn6
                     subst hu6
                     clear r6))
              all_goals
                go_wp2_with fail
                go_meet
                first
                  | exact ⟨_, _, rfl, rfl, Lib.hid (PB.make1 H.out k6 R6.out)⟩
                  | exact ⟨_, _, rfl, rfl, Lib.hid (PB.make2 H.out k6 R6.out hy)⟩
            case rest =>
              obtain ⟨y, u6, rfl, rfl, HB⟩ := hcut
              clear H g0 g1
              go_wp2_with (first
                | (refine wpList_load_row rfl 30 _ rfl y rfl 30 _ _ _ HB.out.hy Try.underlying30 rfl (by kernel_rfl) ?_)
                | (refine wpList_store_row rfl 30 _ _ rfl b _ rfl rfl 30 _ HB.out.pl.hb (by kernel_rfl) rfl HB.out.one ?_
                   have H7 := Lib.hid HB.out.next
                   have g1 := (H7.out.st.bel.cell (p := ⟨ab, i + k * 2 + 1, none⟩) hbw).trans q1
                   have h1 := push_any _ p r N L a o H7.out.st.sk
                   generalize wc.setRow b #[.int .i64 N, u6, .bool (o || !decide (L.length < N))] = w7 at H7 g1 h1 ⊢
                   clear HB))
              refine h1.mono ?_
              rintro e w8 ⟨rfl, s8, k8⟩
              have H8 := Lib.hid (H7.out.stack s8 k8)
              clear H7 s8 k8 h1 g1
              generalize decide (L.length < N) = ok at H8 ⊢
              go_wp2_with fail
              go_meet
              case rel => exact ⟨_, _, _, H8⟩
            -- ]PART
      case rest =>
        -- [PART REST
        clear H g0 g1 hle q1 f0
        obtain ⟨L', o', u', HX⟩ := hcut
        have hall := all_any wc p r N L' o' HX.out.st.sk
        obtain ⟨z, hz⟩ : ∃ z, z = wc.heap.size := ⟨_, rfl⟩
        rw [← hz] at hall
        clear hz
        have hle' : L'.length ≤ N := HX.out.st.sk.le
        obtain ⟨n, hn⟩ : ∃ n, n = L'.length := ⟨_, rfl⟩
        have HN := Lib.hid hn
        rw [← hn] at hall hle'
        go_wp2_with fail
        refine hall.mono ?_
        rintro e w5 ⟨rfl, hrow, hk⟩
        have H5 := Lib.hid (HX.out.on hk)
        have HZ := Lib.hid hrow
        clear HX hall hrow hk
        have hlen := len_any w5 p r N L' o' H5.out.st.sk
        obtain ⟨uo, c, hu, hcap, _⟩ := H5.out.rd.form
        rw [← hn] at hlen hu hcap
        have z1 := H5.out.cells.2.1
        have HU := Lib.hid hu
        rw [hu] at z1
        clear hn hu
        go_wp2_with ((with_reducible refine hlen.mono ?_); rintro e w6 ⟨rfl, rfl⟩)
        clear hlen z1
        go_loopg [17] n (fun gg jv wi => ∃ j : Nat, j + gg = n ∧ jv = .int .i64 (j : Int) ∧ Hid (PL w p r b N L' o' L' o' u' wi) ∧ Hid (wi.heap[z]? = some (.cells (ints L').toArray 3 (0, 0))))
        case atStart => exact ⟨0, by omega, rfl, H5, HZ⟩
        case round =>
          clear H5 HZ
          obtain ⟨j, hjg, rfl, H6, HZ⟩ := hrel
          have z1 := H6.out.cells.2.1
          rw [HU.out] at z1
          by_cases hjn : j < n
          · have hjl : j < L'.length := by rw [← HN.out]; exact hjn
            have hr := H6.out.rd
            rw [HU.out] at hr
            obtain ⟨g, i', rfl, hcu⟩ := hr.cellAt hjl
            have hcz : wr.cell? ⟨z, j, none⟩ = some (.int .i64 (L'.getD j 0)) := by rw [cell_of_row HZ.out, ← ints_get L' j hjl]; simp
            generalize L'.getD j 0 = y at hcu hcz
            clear hr hjl
            go_wp2_with fail
            go_quiet (fail)
            have H7 := Lib.hid (H6.out.on (kp_drewN wr nq))
            have HZ2 : Hid ((wr.drewN nq).heap[z]? = some (.cells (ints L').toArray 3 (0, 0))) := Lib.hid ((kp_drewN (S := []) wr nq).row (by simp) HZ.out)
            clear hcu hcz z1 H6 HZ
            go_wp2_with fail
            go_roundg (n - (j + 1))
            case measure => omega
            case rel => exact ⟨j + 1, by omega, by go_num, H7, HZ2⟩
          · have hnn : ¬ ((j : Int) < (n : Int)) := by omega
            clear HZ hjg z1
            go_wp2_with fail
            go_roundg (m - (k + 1))
            case measure => omega
            case rel => exact ⟨k + 1, L', o', u', by omega, by go_num, H6⟩
        -- ]PART
    · have hkm' : ¬ ((k : Int) < (m : Int)) := by omega
      have HB := Lib.hid H.out.st.bel
      clear H hkg
      go_wp2_with fail
      refine (wakes_any _).mono ?_
      rintro e w7 ⟨rfl, hb7⟩
      have hb8 := Lib.hid (HB.out.trans (hb7.mono HB.out.size))
      clear hb7 HB
      go_wp2_with fail
      go_ret
      exact ⟨rfl, hb8.out⟩

end Go.Proofs.Ythckpljkdfkcnaa
