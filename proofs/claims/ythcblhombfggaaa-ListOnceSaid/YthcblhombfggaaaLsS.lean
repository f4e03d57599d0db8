/- The library's own functions over a row of numbers: Index, Contains, IndexFunc, DeleteFunc, Reverse. Conditions: as each theorem states them. -/
import Derived.Test.YthcblhombfggaaaLsB
import Derived.WalkKit
import Derived.WalkSpells
import Derived.WalkLawsBesides
import Derived.BigQuiet
import Derived.RegionTactic
import Derived.ChangeAlike
import Derived.Handy
import Derived.Lib.Hide
import Derived.Lib.SliceRun
import Derived.Deep.LoopGhost
import Derived.Deep.WholeRow
namespace Go.Proofs.Ythcblhombfggaaa
set_option linter.unusedVariables false
set_option linter.unusedSimpArgs false
open Go.RowKit

theorem index_any (w : World) (v : Value) (xs : List Int) (x : Int) (h : Rw w v xs) (hn : xs.length ≤ 1000) :
    Calls Try.prog 25 #[v, .int .i64 x] w fun e w' => e = .returned (.int .i64 (idxI (fun y => x == y) xs)) ∧ w' = w := by
  rcases h with ⟨rfl, rfl⟩ | ⟨g, cap, cur, rfl, hg, h1, h2, h3, h4⟩
  · go_enter Try.func25, Try.ntmps25
    go_wp2
    go_loopg [5, 8] 1 (fun g _ i wr => i = .int .i64 0 ∧ wr = w)
    case atStart => exact ⟨rfl, rfl⟩
    case round =>
      obtain ⟨rfl, rfl⟩ := hrel
      go_wp2
      go_ret
      exact ⟨rfl, rfl⟩
  · obtain ⟨n, hnn⟩ : ∃ n, n = xs.length := ⟨_, rfl⟩
    have HN := Lib.hid hnn
    have hr := fun i (hi : i < xs.length) => row_cell hg h4 hi
    rw [← hnn] at hn h1 ⊢
    clear hnn h4 hg
    obtain ⟨r, hrr⟩ : ∃ r, r = idxI (fun y => x == y) xs := ⟨_, rfl⟩
    have HR := Lib.hid hrr
    rw [← hrr]
    clear hrr
    go_enter Try.func25, Try.ntmps25
    go_wp2
    go_loopg [5, 8] n (fun g _ i wr => ∃ k : Nat, k + g = n ∧ i = .int .i64 (k : Int) ∧ Hid (∀ j, j < k → (x == xs.getD j 0) = false) ∧ wr = w)
    case atStart => exact ⟨0, by omega, rfl, Lib.hid (fun j hj => by omega), rfl⟩
    case round =>
      obtain ⟨k, hkg, rfl, hp, rfl⟩ := hrel
      by_cases hk : k < n
      · have hc := hr k (by have := HN.out; omega)
        have hkl : k < xs.length := by have := HN.out; omega
        obtain ⟨y, hy⟩ : ∃ y, y = xs.getD k 0 := ⟨_, rfl⟩
        have HY := Lib.hid hy
        rw [← hy] at hc
        clear hy hr
        go_wp2
        · have hxy : (x == y) = true := by assumption
          go_ret
          refine ⟨?_, rfl⟩
          rw [HR.out, idx_hit hkl (by rw [← HY.out]; exact hxy) hp.out]
          rfl
        · have hxy : (x == y) = false := by assumption
          go_roundg (n - (k + 1))
          case measure => omega
          case rel => exact ⟨k + 1, by omega, by go_num, Lib.hid (fun j hj => by
            by_cases e : j = k
            · subst e; rw [← HY.out]; exact hxy
            · exact hp.out j (by omega)), rfl⟩
      · clear hr
        go_wp2
        go_ret
        refine ⟨?_, rfl⟩
        rw [HR.out, idx_miss (fun j hj => hp.out j (by have := HN.out; omega))]
        rfl

theorem contains_any (w : World) (v : Value) (xs : List Int) (x : Int) (h : Rw w v xs) (hn : xs.length ≤ 1000) :
    Calls Try.prog 22 #[v, .int .i64 x] w fun e w' => e = .returned (.bool (xs.any fun y => x == y)) ∧ w' = w := by
  have hi := index_any w v xs x h hn
  rw [← idx_ge]
  generalize idxI (fun y => x == y) xs = r at hi
  go_enter Try.func22, Try.ntmps22
  go_wp2_with ((with_reducible refine hi.mono ?_); rintro e w1 ⟨rfl, rfl⟩)
  go_ret
  exact ⟨rfl, rfl⟩

/-- IndexFunc, whatever closure: it is asked in one world, and leaves it. -/
theorem indexFunc_any (w : World) (v : Value) (xs : List Int) (g0 : FuncId) (cap0 : Array Value) (q : Int → Bool) (h : Rw w v xs) (hn : xs.length ≤ 1000)
    (hen : ∀ (x : Value) (w : World), (callFunc g0 (#[x] ++ cap0)).run Try.prog w = .ok (.enter g0 (#[x] ++ cap0)) w)
    (hcall : ∀ x, Calls Try.prog g0 (#[.int .i64 x] ++ cap0) w fun e w2 => e = .returned (.bool (q x)) ∧ w2 = w) :
    Calls Try.prog 24 #[v, .func (.func g0) #[] cap0] w fun e w' => e = .returned (.int .i64 (idxI q xs)) ∧ w' = w := by
  rcases h with ⟨rfl, rfl⟩ | ⟨g, cap, cur, rfl, hg, h1, h2, h3, h4⟩
  · go_enter Try.func24, Try.ntmps24
    go_wp2
    go_loopg [5, 8] 1 (fun g _ i wr => i = .int .i64 0 ∧ wr = w)
    case atStart => exact ⟨rfl, rfl⟩
    case round =>
      obtain ⟨rfl, rfl⟩ := hrel
      go_wp2
      go_ret
      exact ⟨rfl, rfl⟩
  · obtain ⟨n, hnn⟩ : ∃ n, n = xs.length := ⟨_, rfl⟩
    have HN := Lib.hid hnn
    have hr := fun i (hi : i < xs.length) => row_cell hg h4 hi
    rw [← hnn] at hn h1 ⊢
    clear hnn h4 hg
    obtain ⟨r, hrr⟩ : ∃ r, r = idxI q xs := ⟨_, rfl⟩
    have HR := Lib.hid hrr
    rw [← hrr]
    clear hrr
    go_enter Try.func24, Try.ntmps24
    go_wp2
    go_loopg [5, 8] n (fun g _ i wr => ∃ k : Nat, k + g = n ∧ i = .int .i64 (k : Int) ∧ Hid (∀ j, j < k → q (xs.getD j 0) = false) ∧ wr = w)
    case atStart => exact ⟨0, by omega, rfl, Lib.hid (fun j hj => by omega), rfl⟩
    case round =>
      obtain ⟨k, hkg, rfl, hp, rfl⟩ := hrel
      by_cases hk : k < n
      · have hc := hr k (by have := HN.out; omega)
        have hkl : k < xs.length := by have := HN.out; omega
        obtain ⟨y, hy⟩ : ∃ y, y = xs.getD k 0 := ⟨_, rfl⟩
        have HY := Lib.hid hy
        rw [← hy] at hc
        have hcy := hcall y
        obtain ⟨b, hb⟩ : ∃ b, b = q y := ⟨_, rfl⟩
        have HB := Lib.hid hb
        rw [← hb] at hcy
        clear hy hr hb hcall
        cases b with
        | true =>
          go_wp2_with fail
          refine hcy.mono ?_
          rintro e w2 ⟨rfl, rfl⟩
          go_wp2
          go_ret
          refine ⟨?_, rfl⟩
          rw [HR.out, idx_hit hkl (by rw [← HY.out]; exact HB.out.symm) hp.out]
          rfl
        | false =>
          go_wp2_with fail
          refine hcy.mono ?_
          rintro e w2 ⟨rfl, rfl⟩
          go_wp2
          go_roundg (n - (k + 1))
          case measure => omega
          case rel => exact ⟨k + 1, by omega, by go_num, Lib.hid (fun j hj => by
            by_cases e : j = k
            · subst e; rw [← HY.out]; exact HB.out.symm
            · exact hp.out j (by omega)), rfl⟩
      · clear hr
        go_wp2
        go_ret
        refine ⟨?_, rfl⟩
        rw [HR.out, idx_miss (fun j hj => hp.out j (by have := HN.out; omega))]
        rfl

/-- A row's slice and its numbers, in a world that may have turned in that row alone. -/
structure Dl (w0 wr : World) (g cap : Nat) (d : List Int) : Prop where
  row : ∃ cur, wr.heap[g]? = some (.cells cur 3 (0, 0)) ∧ cur.size = cap ∧ cur.toList.take d.length = ints d
  kp : Kp [g] w0 wr
theorem Dl.cell {w0 wr : World} {g cap : Nat} {d : List Int} (h : Dl w0 wr g cap d) {i : Nat} (hi : i < d.length) : wr.cell? ⟨g, i, none⟩ = some (.int .i64 (d.getD i 0)) := by
  obtain ⟨⟨cur, h1, h2, h3⟩, _⟩ := h
  exact row_cell h1 h3 hi
theorem Dl.free {w0 wr : World} {g cap : Nat} {d : List Int} (h : Dl w0 wr g cap d) (i : Nat) : wr.frozen? ⟨g, i, none⟩ = false := by
  obtain ⟨⟨cur, h1, h2, h3⟩, _⟩ := h
  exact free_of_row h1 i
theorem Dl.set {w0 wr : World} {g cap : Nat} {d : List Int} (h : Dl w0 wr g cap d) (i : Nat) (z : Int) : Dl w0 (wr.setCell ⟨g, i, none⟩ (.int .i64 z)) g cap (d.set i z) := by
  obtain ⟨⟨cur, h1, h2, h3⟩, k⟩ := h
  exact ⟨⟨_, heap_setCell_same _ _ _ _ _ _ h1, by simpa using h2, row_set h3 i z⟩, k.setCell (.inl (by simp)) _⟩
theorem Dl.rw {w0 wr : World} {g cap : Nat} {d : List Int} (h : Dl w0 wr g cap d) (h1 : d.length ≤ cap) (h2 : cap ≤ maxLen) : Rw wr (.slice (some ⟨g, 0, none⟩) d.length cap) d := by
  obtain ⟨⟨cur, r1, r2, r3⟩, _⟩ := h
  exact .inr ⟨g, cap, cur, rfl, r1, h1, h2, r2, r3⟩
/-- The rest of the row is cleared, and the row is cut. -/
theorem Dl.cleared {w0 wr : World} {g cap : Nat} {d : List Int} (h : Dl w0 wr g cap d) {i : Nat} (hi : i ≤ d.length) (zs : List Value) : Dl w0 (wr.setCells g i zs) g cap (d.take i) := by
  obtain ⟨⟨cur, h1, h2, h3⟩, k⟩ := h
  obtain ⟨cur', e1, e2, e3⟩ := setCells_block g zs i wr cur _ h1
  refine ⟨⟨cur', e1, by omega, ?_⟩, k.trans (setCells_kp g zs i wr)⟩
  rw [← row_cut h3 hi]
  exact take_same (by simp; omega) e3

theorem zero_int (w : World) : (zeroValue 3).run Try.prog w = .ok (.int .i64 0) w := (zero_of_info (show (Try.prog.info? 3).map (fun i => (i.zero, i.size)) = some (some (.int .i64 0), 1) from by kernel_rfl)).1 w

/-- DeleteFunc, whatever closure: in each world in which the row alone has turned it says the same, and leaves it. -/
theorem deleteFunc_any (w : World) (v : Value) (xs : List Int) (g0 : FuncId) (cap0 : Array Value) (q : Int → Bool) (h : Rw w v xs) (hn : xs.length ≤ 1000)
    (hen : ∀ (x : Value) (w : World), (callFunc g0 (#[x] ++ cap0)).run Try.prog w = .ok (.enter g0 (#[x] ++ cap0)) w)
    (hcall : ∀ x w1, Kp (blk v) w w1 → Calls Try.prog g0 (#[.int .i64 x] ++ cap0) w1 fun e w2 => e = .returned (.bool (q x)) ∧ w2 = w1) :
    Calls Try.prog 21 #[v, .func (.func g0) #[] cap0] w fun e w' =>
      ∃ v', e = .returned v' ∧ Rw w' v' (xs.filter fun x => !q x) ∧ blk v' = blk v ∧ Kp (blk v) w w' ∧ ∃ ao cap, v' = .slice ao (xs.filter fun x => !q x).length cap := by
  have hif := indexFunc_any w v xs g0 cap0 q h hn hen (fun x => hcall x w (Kp.refl _ _))
  by_cases hno : idxI q xs = -1
  · rw [hno] at hif
    have hf := Lib.hid (idx_none hno)
    have hv : ∃ ao cap, v = .slice ao xs.length cap := by
      rcases h with ⟨rfl, rfl⟩ | ⟨g, cap, cur, rfl, _⟩
      · exact ⟨none, 0, rfl⟩
      · exact ⟨_, _, rfl⟩
    clear hno hcall
    go_enter Try.func21, Try.ntmps21
    go_wp2_with ((with_reducible refine hif.mono ?_); rintro e w1 ⟨rfl, rfl⟩)
    go_ret
    refine ⟨v, rfl, ?_, rfl, Kp.refl _ _, ?_⟩
    · rw [hf.out]; exact h
    · rw [hf.out]; exact hv
  · obtain ⟨k, hk, hkl, hkq, hkn⟩ := idx_some hno
    rw [hk] at hif
    have F0 := Lib.hid (Far.start hkl hkq hkn)
    clear hk hkq hkn hno
    rcases h with ⟨rfl, rfl⟩ | ⟨g, cap, cur, rfl, hg, h1, h2, h3, h4⟩
    · simp at hkl
    · have D0 : Hid (Dl w w g cap xs) := Lib.hid ⟨⟨cur, hg, h3, h4⟩, Kp.refl _ _⟩
      obtain ⟨n, hnn⟩ : ∃ n, n = xs.length := ⟨_, rfl⟩
      have HN := Lib.hid hnn
      rw [← hnn] at hn h1 hkl hcall ⊢
      rw [← hnn] at hif
      clear hnn h4 hg h3
      have HC := Lib.hid hcall
      clear hcall
      go_enter Try.func21, Try.ntmps21
      go_wp2_with ((with_reducible refine hif.mono ?_); rintro e w1 ⟨rfl, rfl⟩)
      go_loopg [5, 6, 7] (n - (k + 1)) (fun gg iv jv _ wr => ∃ (i j : Nat) (d : List Int), j + gg = n ∧ iv = .int .i64 (i : Int) ∧ jv = .int .i64 (j : Int) ∧ i < j ∧ Hid (Far q xs d i j) ∧ Hid (Dl w1 wr g cap d))
      case atStart => exact ⟨k, k + 1, xs, by omega, rfl, rfl, by omega, F0, D0⟩
      case round =>
        obtain ⟨i, j, d, hjg, rfl, rfl, hij, F, D⟩ := hrel
        have hdn : d.length = n := F.out.len.trans HN.out.symm
        by_cases hjn : j < n
        · have hc := D.out.cell (i := j) (by omega)
          rw [F.out.hr j (Nat.le_refl _)] at hc
          have hjl : j < xs.length := by have := HN.out; omega
          have hci := D.out.cell (i := i) (by omega)
          have hfi := D.out.free i
          obtain ⟨y, hy⟩ : ∃ y, y = xs.getD j 0 := ⟨_, rfl⟩
          have HY := Lib.hid hy
          rw [← hy] at hc
          obtain ⟨y0, hy0⟩ : ∃ y0, y0 = d.getD i 0 := ⟨_, rfl⟩
          rw [← hy0] at hci
          have hcy := HC.out y wr D.out.kp
          obtain ⟨b, hb⟩ : ∃ b, b = q y := ⟨_, rfl⟩
          have HB := Lib.hid hb
          rw [← hb] at hcy
          clear hy hb hy0 hdn
          cases b with
          | true =>
            go_wp2_with fail
            refine hcy.mono ?_
            rintro e w2 ⟨rfl, rfl⟩
            go_wp2
            go_roundg (n - (j + 1))
            case measure => omega
            case rel => exact ⟨i, j + 1, d, by omega, rfl, by go_num, by omega, Lib.hid (F.out.no hjl (by rw [← HY.out]; exact HB.out.symm)), D⟩
          | false =>
            go_wp2_with fail
            refine hcy.mono ?_
            rintro e w2 ⟨rfl, rfl⟩
            go_wp2
            go_roundg (n - (j + 1))
            case measure => omega
            case rel => exact ⟨i + 1, j + 1, d.set i y, by omega, by go_num, by go_num, by omega, Lib.hid (by have := F.out.yes hjl (by rw [← HY.out]; exact HB.out.symm); rw [← HY.out] at this; exact this), Lib.hid (D.out.set i y)⟩
        · obtain rfl : j = n := by omega
          have F1 := F.out
          rw [HN.out] at F1
          obtain ⟨f1, f2, f3⟩ := F1.fin
          have hin : i < j := by have := HN.out; omega
          have hcl : ∀ ty, (Builtin.clear_ #[26] ty #[.slice (some ⟨g, i, none⟩) (j - i) (cap - i)]).run Try.prog wr = .ok (.tuple #[]) (wr.setCells g i (List.replicate (j - i) (.int .i64 0))) :=
            fun ty => Lib.run_clear_slice wr 26 3 ty (.int .i64 0) Try.underlying26 zero_int rfl rfl g i (j - i) (cap - i) (by omega)
              (fun k hk => by rw [D.out.cell (i := i + k) (by omega)]; rfl) (fun k hk => D.out.free _)
          have D2 := Lib.hid (D.out.cleared (i := i) (by omega) (List.replicate (j - i) (.int .i64 0)))
          have hil : (d.take i).length = i := by rw [List.length_take]; omega
          have HF := Lib.hid (And.intro f1 (And.intro f2 (And.intro hil (And.intro h1 h2))))
          clear F F1 f1 f2 f3 hdn D HC hif hil
          generalize wr.setCells g i (List.replicate (j - i) (.int .i64 0)) = w3 at hcl D2
          go_wp2
          go_ret
          obtain ⟨e1, e2, e3, e4, e5⟩ := HF.out
          have hR := D2.out.rw (by omega) e5
          rw [e3, e1] at hR
          rw [← e2]
          exact ⟨_, rfl, hR, rfl, D2.out.kp, _, _, rfl⟩

/-- Reverse: a row turned round. -/
theorem reverse_any (w : World) (v : Value) (xs : List Int) (h : Rw w v xs) (hn : xs.length ≤ 1000) :
    Calls Try.prog 23 #[v] w fun e w' => (∃ u, e = .returned u) ∧ Rw w' v xs.reverse ∧ Kp (blk v) w w' := by
  rcases h with ⟨rfl, rfl⟩ | ⟨g, cap, cur, rfl, hg, h1, h2, h3, h4⟩
  · go_enter Try.func23, Try.ntmps23
    go_wp2
    go_loopg [2, 3] 1 (fun g iv jv wr => iv = .int .i64 0 ∧ jv = .int .i64 (-1) ∧ wr = w)
    case atStart => exact ⟨rfl, rfl, rfl⟩
    case round =>
      obtain ⟨rfl, rfl, rfl⟩ := hrel
      go_wp2
      go_end0
      exact ⟨⟨_, rfl⟩, Rw.nil _, Kp.refl _ _⟩
  · have D0 : Hid (Dl w w g cap xs) := Lib.hid ⟨⟨cur, hg, h3, h4⟩, Kp.refl _ _⟩
    have V0 := Lib.hid (Rvd.start xs)
    have HH := Lib.hid (And.intro h1 h2)
    obtain ⟨n, hnn⟩ : ∃ n, n = xs.length := ⟨_, rfl⟩
    have HN := Lib.hid hnn
    rw [← hnn] at hn h1 V0 ⊢
    clear hnn h4 hg h3
    go_enter Try.func23, Try.ntmps23
    go_wp2
    go_loopg [2, 3] n (fun gg iv jv wr => ∃ (i : Nat) (j : Int) (d : List Int), i + gg = n ∧ iv = .int .i64 (i : Int) ∧ jv = .int .i64 j ∧ (i : Int) + j + 1 = n ∧ Hid (Rvd xs d i j) ∧ Hid (Dl w wr g cap d))
    case atStart => exact ⟨0, _, xs, by omega, rfl, rfl, by omega, V0, D0⟩
    case round =>
      obtain ⟨i, j, d, hig, rfl, rfl, hij, V, D⟩ := hrel
      have hdn : d.length = n := V.out.len.trans HN.out.symm
      by_cases hlt : (i : Int) < j
      · obtain ⟨k, rfl⟩ : ∃ k : Nat, j = k := ⟨j.toNat, by omega⟩
        have ci := D.out.cell (i := i) (by omega)
        have ck := D.out.cell (i := k) (by omega)
        have fi := D.out.free i
        have fk := D.out.free k
        have hkn : k < n := by omega
        have hin : i < n := by omega
        have hik : i ≠ k := by omega
        have D2 := Lib.hid ((D.out.set i (d.getD k 0)).set k (d.getD i 0))
        have V2 := Lib.hid (V.out.step hlt)
        simp only [Int.toNat_natCast] at V2
        generalize d.getD k 0 = a at *
        generalize d.getD i 0 = b at *
        clear V D
        go_wp2_with fail
        go_region
        go_wp2
        go_roundg (n - (i + 1))
        case measure => omega
        case rel => exact ⟨i + 1, (k : Int) - 1, _, by omega, by go_num, by go_num, by omega, V2, Lib.hid ⟨D2.out.row, D2.out.kp.drew⟩⟩
      · have HV := Lib.hid (V.out.fin hlt)
        have HD := D
        clear V D hdn
        go_wp2
        go_end0
        obtain ⟨h1, h2⟩ := HH.out
        have hl : d.length = xs.length := by rw [HV.out]; simp
        have hR := HD.out.rw (by omega) h2
        rw [hl, ← HN.out, HV.out] at hR
        exact ⟨⟨_, rfl⟩, hR, HD.out.kp⟩

end Go.Proofs.Ythcblhombfggaaa
