/- The document's own roots (demesneref09): All. Conditions: as each theorem states them. -/
import Derived.Test.YtmbhhadghiojeaaGreatDrR
import Derived.Deep.LoopGhost
import Derived.Deep.CutRange
import Derived.Deep.CutBlock
import Derived.Deep.DeepCutAuto
import Derived.Carry
namespace Go.Proofs.YtmbhhadghiojeaaGreat
set_option linter.unusedVariables false
set_option linter.unusedSimpArgs false
open Go.RowKit

/-- What is so between two rounds: the struct's box, and what is gathered. -/
structure RA (w : World) (u v : Value) (xs : List Int) (z : Value) (w' : World) : Prop where
  hb : w'.heap[w.heap.size]? = some (.cells #[u, v] 64 (0, 0))
  row : Rw w z xs w'
  kp : Kp [] w w'
section
variable {w w' w'' : World} {u v z z' : Value} {xs : List Int} {x : Int}
theorem RA.c0 (h : RA w u v xs z w') : w'.cell? ⟨w.heap.size, 0, none⟩ = some u := cell_of_row h.hb 0
theorem RA.c1 (h : RA w u v xs z w') : w'.cell? ⟨w.heap.size, 1, none⟩ = some v := cell_of_row h.hb 1
theorem RA.app (h : RA w u v xs z w') (hr : Rw w z' (xs ++ [x]) w'') (k : Kp (blk z) (w'.alloc (.cells #[.int .i64 x] 3)) w'') : RA w u v (xs ++ [x]) z' w'' := by
  have ka : Kp [] w' (w'.alloc (.cells #[.int .i64 x] 3)) := (Kp.refl _ _).alloc _
  have hn : w.heap.size ∉ blk z := fun e => by
    obtain ⟨_, cur, hc⟩ := h.row.block _ e
    exact ne_types hc h.hb (by decide) rfl
  exact ⟨k.row hn (ka.row (by simp) h.hb), hr, (((h.kp.trans ka).mono (by simp)).trans k).mono fun y hy hlt => by have := (h.row.block y hy).1; omega⟩
end

set_option maxRecDepth 100000 in
theorem rall_any (w : World) (u v : Value) (A L : List Int) (hA : Rd w u A) (hL : Rd w v L) (h8 : A.length ≤ 8) (h16 : L.length ≤ 16) :
    Calls Tryz.prog 49 #[.agg #[u, v]] w (Ans w (nz (A ++ L))) := by
  obtain ⟨uo, cap, hu, -⟩ := hA.form
  obtain ⟨vo, lcap, hv, -⟩ := hL.form
  have HA := Lib.hid (And.intro hA hL)
  obtain ⟨na, hna⟩ : ∃ na, na = A.length := ⟨_, rfl⟩
  obtain ⟨nl, hnl⟩ : ∃ nl, nl = L.length := ⟨_, rfl⟩
  have HNA := Lib.hid hna
  have HNL := Lib.hid hnl
  obtain ⟨X, hX⟩ : ∃ X, X = A ++ L := ⟨_, rfl⟩
  have HX := Lib.hid hX
  have H0 : Hid (RA w u v (nz (X.take 0)) (.slice none 0 0) (w.alloc (.cells #[u, v] 64))) := Lib.hid ⟨heap_alloc_new _ _, Rw.nil _ _, (Kp.refl _ _).alloc _⟩
  rw [← hX]
  rw [← hna] at h8 hu
  rw [← hnl] at h16 hv
  subst hu hv
  clear hA hL hna hnl hX
  go_enter Tryz.func49, Tryz.ntmps49
  go_wp2_with fail
  go_loopg [3, 4, 5] (na + nl) (fun gg v3 v4 v5 wr => ∃ (i : Nat) (ao : Option Addr) (n c : Nat), i + gg = na + nl ∧ v4 = .int .i64 (i : Int) ∧ v3 = .slice ao n c ∧ Hid (n = (nz (X.take i)).length) ∧ Hid (RA w (.slice uo na cap) (.slice vo nl lcap) (nz (X.take i)) (.slice ao n c) wr))
  case atStart => exact ⟨0, none, 0, 0, by omega, rfl, rfl, Lib.hid rfl, H0⟩
  case round =>
    clear H0
    obtain ⟨i, ao, n, c, hig, rfl, rfl, HN, H⟩ := hrel
    have c0 := H.out.c0
    have c1 := H.out.c1
    by_cases hi : i < na + nl
    · have hiX : i < X.length := by rw [HX.out, List.length_append, ← HNA.out, ← HNL.out]; exact hi
      have hn24 : n ≤ 100 := by have := HN.out; have := nz_le (X.take i); have : (X.take i).length ≤ i := List.length_take_le _ _; omega
      by_cases hia : i < na
      · -- [PART A
        obtain ⟨g, o, rfl, hc⟩ := (HA.out.1.keep0 H.out.kp).cellAt (i := i) (by rw [← HNA.out]; exact hia)
        have hx' : X.getD i 0 = A.getD i 0 := by rw [HX.out]; exact getD_left (by rw [← HNA.out]; exact hia)
        generalize A.getD i 0 = x at hc hx'
        have HX' := Lib.hid hx'
        have HI := Lib.hid hiX
        clear hx' hiX
        by_cases hx0 : x = 0
        · have hb1 : (x == 0) = true := by simpa using hx0
          have hb2 : (x != 0) = false := by simp [hx0]
          have e := nz_zero HI.out (HX'.out.trans hx0)
          rw [← e] at HN H
          clear hx0 e
          go_wp2_with fail
          go_roundg (na + nl - (i + 1))
          case measure => omega
          case rel => exact ⟨(i + 1), _, n, c, by omega, by go_num, rfl, HN, H⟩
        · have hb1 : (x == 0) = false := by simpa using hx0
          have hb2 : (x != 0) = true := by simp [hx0]
          have HE := Lib.hid (nz_some HI.out HX'.out hb1)
          clear hx0
          go_wp2_with (
            at_builtin
            refine wpList_append_snoc (w0 := w) rfl (.tmp 38) (.tmp 40) rfl _ (nz (X.take i)) n HN.out x ⟨wr.heap.size, 0, none⟩ rfl rfl (H.out.row.keep0 ((Kp.refl _ _).alloc _)) (by omega) (Nat.le_trans H.out.kp.size (by simp)) (news_one wr x _ _ rfl) ?_
            intro g6 c6 w6 hr6 hk6 _
            have H6 := Lib.hid (H.out.app hr6 hk6)
            rw [← HE.out] at H6
            clear hr6 hk6 c0 c1 hc)
          go_roundg (na + nl - (i + 1))
          case measure => omega
          case rel => exact ⟨(i + 1), _, n + 1, c6, by omega, by go_num, rfl, Lib.hid (by rw [HE.out, HN.out]; simp), H6⟩
        -- ]PART
      · -- [PART L
        obtain ⟨j, rfl⟩ : ∃ j, i = na + j := ⟨i - na, by omega⟩
        have hjl : j < nl := by omega
        obtain ⟨g, o, rfl, hc⟩ := (HA.out.2.keep0 H.out.kp).cellAt (i := j) (by rw [← HNL.out]; exact hjl)
        have hx' : X.getD (na + j) 0 = L.getD j 0 := by rw [HX.out, HNA.out]; exact getD_right _ _ _
        generalize L.getD j 0 = x at hc hx'
        have hi2 : (na : Int) + (j : Int) < (na : Int) + (nl : Int) := by omega
        have hi3 : ¬ ((na : Int) + (j : Int) < (na : Int)) := by omega
        have HX' := Lib.hid hx'
        have HI := Lib.hid hiX
        clear hx' hiX
        by_cases hx0 : x = 0
        · have hb1 : (x == 0) = true := by simpa using hx0
          have hb2 : (x != 0) = false := by simp [hx0]
          have e := nz_zero HI.out (HX'.out.trans hx0)
          rw [← e] at HN H
          clear hx0 e
          go_wp2_with fail
          go_roundg (na + nl - (na + j + 1))
          case measure => omega
          case rel => exact ⟨(na + j + 1), _, n, c, by omega, by go_num, rfl, HN, H⟩
        · have hb1 : (x == 0) = false := by simpa using hx0
          have hb2 : (x != 0) = true := by simp [hx0]
          have HE := Lib.hid (nz_some HI.out HX'.out hb1)
          clear hx0
          go_wp2_with (
            at_builtin
            refine wpList_append_snoc (w0 := w) rfl (.tmp 38) (.tmp 40) rfl _ (nz (X.take (na + j))) n HN.out x ⟨wr.heap.size, 0, none⟩ rfl rfl (H.out.row.keep0 ((Kp.refl _ _).alloc _)) (by omega) (Nat.le_trans H.out.kp.size (by simp)) (news_one wr x _ _ rfl) ?_
            intro g6 c6 w6 hr6 hk6 _
            have H6 := Lib.hid (H.out.app hr6 hk6)
            rw [← HE.out] at H6
            clear hr6 hk6 c0 c1 hc)
          go_roundg (na + nl - (na + j + 1))
          case measure => omega
          case rel => exact ⟨(na + j + 1), _, n + 1, c6, by omega, by go_num, rfl, Lib.hid (by rw [HE.out, HN.out]; simp), H6⟩
        -- ]PART
    · obtain rfl : i = na + nl := by omega
      have e : X.take (na + nl) = X := List.take_of_length_le (by rw [HX.out, List.length_append, ← HNA.out, ← HNL.out]; exact Nat.le_refl _)
      rw [e] at HN H
      have HK := Lib.hid (And.intro H.out.row H.out.kp)
      have hi2 : ¬ ((na : Int) + (nl : Int) < (na : Int) + (nl : Int)) := by omega
      clear e H hig
      go_wp2_with fail
      go_ret
      have h1 := HK.out
      have hn := HN.out
      subst hn
      exact ⟨_, _, rfl, h1.1, h1.2⟩

end Go.Proofs.YtmbhhadghiojeaaGreat
