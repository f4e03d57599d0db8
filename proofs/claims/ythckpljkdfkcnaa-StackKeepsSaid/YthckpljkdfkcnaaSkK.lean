/- StackKeeps, walked: for every room and every row of acts it returns true. Conditions: the acts lie where the slice leads. -/
import Derived.Test.YthckpljkdfkcnaaSkN
import Derived.Test.YthckpljkdfkcnaaSkO
import Derived.Deep.AppendLies
import Derived.Deep.LoopGhost
import Derived.Deep.CutRange
import Derived.Deep.CutBlock
import Derived.Deep.DeepCutAuto
import Derived.Carry
import Derived.BigQuiet
namespace Go.Proofs.Ythckpljkdfkcnaa
set_option linter.unusedVariables false
set_option linter.unusedSimpArgs false
open Go.RowKit

/-- A row of the law's own, made since w: the numbers xs. -/
structure Rw (w : World) (v : Value) (xs : List Int) (w' : World) : Prop where
  own : w'.ownsRow w.heap.size 3 1 v xs.length (ints xs)

section
variable {w w' w'' : World} {v : Value} {xs : List Int}
theorem Rw.nil (w w' : World) : Rw w (.slice none 0 0) [] w' := ⟨World.ownsRow_nil _ _ _ _⟩
theorem Rw.block (h : Rw w v xs w') : ∀ g ∈ blk v, w.heap.size ≤ g ∧ ∃ cur, w'.heap[g]? = some (.cells cur 3 (0, 0)) := by
  intro y hy
  rcases h.own.2 with ⟨rfl, _⟩ | ⟨g, c, cur, rfl, hge, hg, _⟩
  · simp [blk_nil] at hy
  · rw [blk_some, List.mem_singleton] at hy
    subst hy
    exact ⟨hge, cur, hg⟩
theorem Rw.keep {S : List Nat} (h : Rw w v xs w') (k : Kp S w' w'') (hS : ∀ g ∈ S, ∃ cs t, w'.heap[g]? = some (.cells cs t (0, 0)) ∧ 3 ≠ t) : Rw w v xs w'' := by
  refine ⟨h.own.1, ?_⟩
  rcases h.own.2 with h0 | ⟨g, c, cur, rfl, hge, hg, r⟩
  · exact .inl h0
  · refine .inr ⟨g, c, cur, rfl, hge, k.row (fun e => ?_) hg, r⟩
    obtain ⟨cs, t, hc, ht⟩ := hS g e
    exact ne_types hg hc ht rfl
theorem Rw.keep0 (h : Rw w v xs w') (k : Kp [] w' w'') : Rw w v xs w'' := h.keep k (by simp)
theorem Rw.form (h : Rw w v xs w') : ∃ ao cap, v = .slice ao xs.length cap := by
  rcases h.own.2 with ⟨rfl, h0⟩ | ⟨g, c, cur, rfl, _⟩
  · exact ⟨none, 0, by rw [h0]⟩
  · exact ⟨_, c, rfl⟩
/-- Its last one. -/
theorem Rw.last {x : Int} (h : Rw w v (xs ++ [x]) w') : ∃ g cap, v = .slice (some ⟨g, 0, none⟩) (xs.length + 1) cap ∧ xs.length + 1 ≤ cap ∧ w'.cell? ⟨g, xs.length, none⟩ = some (.int .i64 x) ∧ Rw w (.slice (some ⟨g, 0, none⟩) xs.length cap) xs w' := by
  have e : (xs ++ [x]).length = xs.length + 1 := by simp
  rcases h.own.2 with ⟨rfl, h0⟩ | ⟨g, c, cur, rfl, hge, hg, h1, h2, h3, h4⟩
  · rw [e] at h0; omega
  · rw [e] at h1 h4 ⊢
    rw [Nat.mul_one] at h4
    refine ⟨g, c, rfl, h1, ?_, ⟨by simp [ints], .inr ⟨g, c, cur, rfl, hge, hg, by omega, h2, h3, ?_⟩⟩⟩
    · rw [cell_of_row hg]
      have : (cur.toList.take (xs.length + 1))[xs.length]? = some (.int .i64 x) := by rw [h4]; simp [ints]
      rw [List.getElem?_take_of_lt (by omega)] at this
      simpa using this
    · rw [Nat.mul_one]
      have : (cur.toList.take (xs.length + 1)).take xs.length = (ints (xs ++ [x])).take xs.length := by rw [h4]
      rw [List.take_take, Nat.min_eq_left (by omega)] at this
      rw [this]
      simp [ints]
end

/-- What is known in a round: the stack has L, the law's own row has M. -/
structure KX (w : World) (p r n : Nat) (L : List Int) (o : Bool) (M : List Int) (v : Value) (w' : World) : Prop where
  st : Own w p r n L o w'
  row : Rw w v M w'

section
variable {w w' w'' : World} {p r n : Nat} {L L' M : List Int} {o o' : Bool} {v : Value}
theorem KX.on (h : KX w p r n L o M v w') (k : Kp [] w' w'') : KX w p r n L o M v w'' := ⟨h.st.on k, h.row.keep0 k⟩
theorem KX.stack (h : KX w p r n L o M v w') (s : Sk w'' p r n L' o') (k : Kp [p, r] w' w'') : KX w p r n L' o' M v w'' := by
  refine ⟨h.st.turn s k, h.row.keep k fun g hg => ?_⟩
  obtain ⟨cur, hr, _⟩ := h.st.sk.row
  simp only [List.mem_cons, List.not_mem_nil, or_false] at hg
  rcases hg with rfl | rfl
  · exact ⟨_, _, h.st.sk.hp, by decide⟩
  · exact ⟨_, _, hr, by decide⟩
/-- A number is appended to the row. -/
theorem KX.app (h : KX w p r n L o M v w') {x : Int} {g cap : Nat} (hown : w''.ownsRow w.heap.size 3 1 (.slice (some ⟨g, 0, none⟩) (M.length + 1) cap) (M.length + 1) (ints M ++ [.int .i64 x])) (hg : (w'.alloc (.cells #[.int .i64 x] 3)).grownBy w'' v.ownBlock) :
    KX w p r n L o (M ++ [x]) (.slice (some ⟨g, 0, none⟩) (M.length + 1) cap) w'' := by
  have k1 : Kp [] w' (w'.alloc (.cells #[.int .i64 x] 3)) := (Kp.refl _ _).alloc _
  have k2 := kp_of_row hg
  have h1 := h.on k1
  have hb := h1.row.block
  obtain ⟨cur, hr, _⟩ := h1.st.sk.row
  have np : p ∉ blk v := fun e => by
    obtain ⟨_, c, hc⟩ := hb p e
    exact ne_types hc h1.st.sk.hp (by decide) rfl
  have nr : r ∉ blk v := fun e => by
    obtain ⟨_, c, hc⟩ := hb r e
    exact ne_types hc hr (by decide) rfl
  refine ⟨⟨h1.st.sk.keep k2 np nr, h1.st.bel.trans (k2.below h1.st.bel.size fun x hx => (hb x hx).1), h.st.hp, h.st.hr⟩, ⟨?_⟩⟩
  rw [ints_snoc, show (M ++ [x]).length = M.length + 1 from by simp]
  exact hown
end

theorem keeps_skip (w : World) (N : Int) (ao : Option Addr) (n cap : Nat) (h : 200 < n ∨ N < 1 ∨ 64 < N) :
    Calls Try.prog 5 #[.int .u8 N, .slice ao n cap] w fun e w' => e = .returned (.bool true) ∧ Below w.heap.size w w' := by
  by_cases h1 : 200 < n
  · go_enter Try.func5, Try.ntmps5
    go_wp2_with ((with_reducible refine (wakes_any _).mono ?_); rintro e w1 ⟨rfl, hb⟩; have H := Lib.hid hb; clear hb)
    go_ret
    exact ⟨rfl, H.out⟩
  · have h1' : n ≤ 200 := by omega
    by_cases h2 : N < 1
    · go_enter Try.func5, Try.ntmps5
      go_wp2_with ((with_reducible refine (wakes_any _).mono ?_); rintro e w1 ⟨rfl, hb⟩; have H := Lib.hid hb; clear hb)
      go_ret
      exact ⟨rfl, H.out⟩
    · have h2' : 1 ≤ N := by omega
      have h3 : 64 < N := by omega
      go_enter Try.func5, Try.ntmps5
      go_wp2_with ((with_reducible refine (wakes_any _).mono ?_); rintro e w1 ⟨rfl, hb⟩; have H := Lib.hid hb; clear hb)
      go_ret
      exact ⟨rfl, H.out⟩

theorem new_own (w : World) (p r n : Nat) (hp : p = w.heap.size + 1) (hr : r = w.heap.size) (h1 : 1 ≤ n) (h2 : n ≤ 64) :
    Calls Try.prog 7 #[.int .i64 n] w fun e w' => e = .returned (.tuple #[.pointer (some ⟨p, 0, none⟩), .int .i64 0]) ∧ Own w p r n [] false w' :=
  (new_good w n h1 h2).mono (by rintro e w' ⟨rfl, hs, hk⟩; exact ⟨by rw [hp], Own.made (hp ▸ hr ▸ hs) hk hp hr⟩)

set_option maxRecDepth 100000 in
set_option maxHeartbeats 4000000 in
theorem keeps_main (w : World) (N : Nat) (ao : Option Addr) (cap : Nat) (A : List (Int × Int)) (hN1 : 1 ≤ N) (hN2 : N ≤ 64) (hm : A.length ≤ 200) (hA : Acts w ao A) :
    Calls Try.prog 5 #[.int .u8 N, .slice ao A.length cap] w fun e w' => e = .returned (.bool true) ∧ Below w.heap.size w w' := by
  obtain ⟨p, hp⟩ : ∃ p, p = w.heap.size + 1 := ⟨_, rfl⟩
  obtain ⟨r, hr⟩ : ∃ r, r = w.heap.size := ⟨_, rfl⟩
  have hnew := new_own w p r N hp hr hN1 hN2
  clear hp hr
  obtain ⟨m, hmm⟩ : ∃ m, m = A.length := ⟨_, rfl⟩
  have HM := Lib.hid hmm
  rw [← hmm] at hm ⊢
  clear hmm
  go_enter Try.func5, Try.ntmps5
  go_wp2_with fail
  refine hnew.mono ?_
  rintro e w1 ⟨rfl, hs1⟩
  have H1 : Hid (KX w p r N [] false [] (.slice none 0 0) w1) := Lib.hid ⟨hs1, Rw.nil _ _⟩
  clear hs1 hnew
  go_wp2_with fail
  go_loopg [7, 8, 9] m (fun gg vi vo vk wr => ∃ (k : Nat) (L : List Int) (o : Bool) (bo : Option Addr) (n c : Nat), k + gg = m ∧ vk = .int .i64 (k : Int) ∧ vo = .bool o ∧ vi = .slice bo n c ∧ Hid (n = L.length) ∧ Hid (KX w p r N L o L (.slice bo n c) wr))
  case atStart => exact ⟨0, [], false, none, 0, 0, by omega, rfl, rfl, rfl, Lib.hid rfl, H1⟩
  case round =>
    clear H1
    obtain ⟨k, L, o, bo, n, c, hkg, rfl, rfl, rfl, HN, H⟩ := hrel
    by_cases hkm : k < m
    · have hkl : k < A.length := HM.out ▸ hkm
      obtain ⟨ab, i, hao, hbw, q0, q1, f0, f1⟩ := hA k _ (List.getElem?_eq_getElem hkl)
      subst hao
      generalize A[k].1 = d at q0 f0
      have g0 := (H.out.st.bel.cell (p := ⟨ab, i + k * 2, none⟩) hbw).trans q0
      clear q0 q1 f1
      have hle : L.length ≤ N := H.out.st.sk.le
      rw [← HN.out] at hle
      by_cases hd : d = 0
      · have hdb : (d == 0) = true := by simp [hd]
        clear hd f0
        rcases List.eq_nil_or_concat L with hL | ⟨M, x, hL⟩
        · -- [PART emptypop
          subst hL
          obtain rfl : n = 0 := HN.out
          have h1 := pop_empty wr p r N o H.out.st.sk
          have h2 : Calls Try.prog 14 #[.pointer (some ⟨p, 0, none⟩)] wr fun e w' => e = .returned (.int .i64 0) ∧ wr = w' := len_any wr p r N [] o H.out.st.sk
          go_wp2_with (first
            | ((with_reducible refine h1.mono ?_); rintro e w5 ⟨rfl, rfl⟩)
            | ((with_reducible refine h2.mono ?_); rintro e w5 ⟨rfl, rfl⟩))
          go_roundg (m - (k + 1))
          case measure => omega
          case rel => exact ⟨k + 1, [], o, bo, 0, c, by omega, by go_num, rfl, rfl, Lib.hid rfl, H⟩
          -- ]PART
        · -- [PART somepop
          rw [List.concat_eq_append] at hL
          subst hL
          have h1 := pop_some wr p r N M x o H.out.st.sk
          go_wp2_with fail
          refine h1.mono ?_
          rintro e w5 ⟨rfl, s5, k5⟩
          have H5 := H.out.stack s5 k5
          obtain ⟨g, c', hv, hc, hcell, hrow⟩ := H5.row.last
          simp only [Value.slice.injEq] at hv
          obtain ⟨rfl, rfl, rfl⟩ := hv
          have h2 := len_any w5 p r N M o s5
          have H6 : Hid (KX w p r N M o M (.slice (some ⟨g, 0, none⟩) M.length c) w5) := Lib.hid ⟨H5.st, hrow⟩
          obtain ⟨q, hq⟩ : ∃ q, q = M.length := ⟨_, rfl⟩
          have HQ := Lib.hid hq
          rw [← hq] at h2 H6 hcell hc hle
          clear H H5 s5 k5 hrow h1 HN g0
          rw [← hq]
          clear hq
          go_wp2_with ((with_reducible refine h2.mono ?_); rintro e w6 ⟨rfl, rfl⟩)
          go_roundg (m - (k + 1))
          case measure => omega
          case rel => exact ⟨k + 1, M, o, some ⟨g, 0, none⟩, q, c, by omega, by go_num, rfl, rfl, HQ, H6⟩
          -- ]PART
      · have hdb : (d == 0) = false := by simp [hd]
        by_cases hd1 : d = 1
        · -- [PART over
          have hdb1 : (d == 1) = true := by simp [hd1]
          clear hd hd1 f0
          have h1 := over_any wr p r N L o H.out.st.sk
          go_wp2_with fail
          refine h1.mono ?_
          rintro e w5 ⟨rfl, s5, k5⟩
          have h2 := len_any w5 p r N L false s5
          rw [← HN.out] at h2
          have H5 := Lib.hid (H.out.stack s5 k5)
          clear H s5 k5 h1 g0
          go_wp2_with ((with_reducible refine h2.mono ?_); rintro e w6 ⟨rfl, rfl⟩)
          go_roundg (m - (k + 1))
          case measure => omega
          case rel => exact ⟨k + 1, L, false, bo, n, c, by omega, by go_num, rfl, rfl, HN, H5⟩
          -- ]PART
        · have hdb1 : (d == 1) = false := by simp [hd1]
          clear hd hd1 f0
          by_cases hnN : n < N
          · -- [PART push
            have h1 := push_room wr p r N L k o H.out.st.sk (HN.out ▸ hnN)
            go_wp2_with fail
            refine h1.mono ?_
            rintro e w5 ⟨rfl, s5, k5⟩
            have H5 := Lib.hid (H.out.stack s5 k5)
            have hown := H5.out.row.own
            rw [← HN.out] at hown
            obtain ⟨i0, hi, hz0, hz1, hz2⟩ := info_parts int_info
            have hbs := H5.out.st.bel.size
            clear H s5 k5 h1 g0
            cases o
            all_goals
              go_wp2_with (first
                | (at_builtin; refine wpList_append_lies _ rfl _ _ 28 rfl w.heap.size 3 i0 (.int .i64 0) 1 8 Try.underlying28 hi hz0 hz1 hz2 rfl (by decide) _ _ _ rfl (hown.alloc _) ⟨w5.heap.size, 0, none⟩ 1 1 [.int .i64 (k : Int)] rfl rfl (news_one w5 k _ _ rfl) (one_cell _) (by decide) (by unfold maxLen; omega) (by omega) (by simp; omega) _ rfl ?_
                   intro g6 c6 w6 hown6 hg6 hat6 hlt6
                   have H6 := Lib.hid (H5.out.app (x := k) (g := g6) (cap := c6) (by rw [← HN.out]; exact hown6) hg6)
                   have h2 := len_any w6 p r N (L ++ [(k : Int)]) _ H6.out.st.sk
                   rw [show (L ++ [(k : Int)]).length = n + 1 from by rw [HN.out]; simp] at h2
                   rw [← HN.out] at H6
                   clear hown6 hg6 hat6 hlt6 hown)
                | ((with_reducible refine h2.mono ?_); rintro e w7 ⟨rfl, rfl⟩))
              go_roundg (m - (k + 1))
              case measure => omega
              case rel => exact ⟨k + 1, L ++ [(k : Int)], _, some ⟨g6, 0, none⟩, n + 1, c6, by omega, by go_num, rfl, rfl, Lib.hid (by rw [HN.out]; simp), H6⟩
            -- ]PART
          · -- [PART full
            have h1 := push_full wr p r N L k o H.out.st.sk (by rw [← HN.out]; omega)
            go_wp2_with fail
            refine h1.mono ?_
            rintro e w5 ⟨rfl, s5, k5⟩
            have h2 := len_any w5 p r N L true s5
            rw [← HN.out] at h2
            have H5 := Lib.hid (H.out.stack s5 k5)
            clear H s5 k5 h1 g0
            cases o
            all_goals
              go_wp2_with ((with_reducible refine h2.mono ?_); rintro e w6 ⟨rfl, rfl⟩)
              go_roundg (m - (k + 1))
              case measure => omega
              case rel => exact ⟨k + 1, L, true, bo, n, c, by omega, by go_num, rfl, rfl, HN, H5⟩
            -- ]PART
    · have hkm' : ¬ ((k : Int) < (m : Int)) := by omega
      have HB := Lib.hid H.out.st.bel
      clear H hkg
      go_wp2_with fail
      refine (wakes_any _).mono ?_
      rintro e w7 ⟨rfl, hb7⟩
      have hb8 := Lib.hid (HB.out.trans (hb7.mono HB.out.size))
      clear hb7 HB
      go_wp2_with fail
      go_ret
      exact ⟨rfl, hb8.out⟩

end Go.Proofs.Ythckpljkdfkcnaa
