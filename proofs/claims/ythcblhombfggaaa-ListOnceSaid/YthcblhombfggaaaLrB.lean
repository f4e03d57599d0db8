/- The document's own list (demesneref07): its rows as the walks hold them; Has. Conditions: as each theorem states them. -/
import Derived.Test.YthcblhombfggaaaLsQ
namespace Go.Proofs.Ythcblhombfggaaa
set_option linter.unusedVariables false
set_option linter.unusedSimpArgs false
open Go.RowKit

/-- The numbers xs lie where the slice u leads. -/
structure Rd (w : World) (u : Value) (xs : List Int) : Prop where
  form : ∃ ao cap, u = .slice ao xs.length cap ∧ xs.length ≤ cap ∧ (ao = none → cap = 0) ∧ (xs ≠ [] → ∃ g o, ao = some ⟨g, o, none⟩ ∧ ∀ i, i < xs.length → w.cell? ⟨g, o + i, none⟩ = some (.int .i64 (xs.getD i 0)))

theorem Rd.nil (w : World) : Rd w (.slice none 0 0) [] := ⟨none, 0, rfl, Nat.le_refl _, fun _ => rfl, fun h => absurd rfl h⟩
theorem Rd.keep {w w' : World} {u : Value} {xs : List Int} {S : List Nat} (h : Rd w u xs) (k : Kp S w w') (hS : ∀ g ∈ blk u, g ∉ S) : Rd w' u xs := by
  obtain ⟨ao, cap, rfl, hc, hz, hx⟩ := h.form
  refine ⟨ao, cap, rfl, hc, hz, fun hne => ?_⟩
  obtain ⟨g, o, rfl, hcell⟩ := hx hne
  refine ⟨g, o, rfl, fun i hi => ?_⟩
  have := hcell i hi
  exact (World.cell?_of_block (a := ⟨g, o + i, none⟩) (k.block g (block_lt_of_cell this) (hS g (by simp [blk_some])))).trans this
theorem Rd.keep0 {w w' : World} {u : Value} {xs : List Int} (h : Rd w u xs) (k : Kp [] w w') : Rd w' u xs := h.keep k (by simp)
theorem Rd.of_rw {w : World} {v : Value} {xs : List Int} (h : Rw w v xs) : Rd w v xs := by
  rcases h with ⟨rfl, rfl⟩ | ⟨g, cap, cur, rfl, hg, h1, h2, h3, h4⟩
  · exact Rd.nil w
  · exact ⟨_, cap, rfl, h1, fun e => (by cases e), fun _ => ⟨g, 0, rfl, fun i hi => by rw [Nat.zero_add]; exact row_cell hg h4 hi⟩⟩

def four4 (us : Nat → Value) : Array Value := #[us 0, us 1, us 2, us 3]

/-- A struct of the document's own list at b, and its four rows. -/
structure Rs (w : World) (b : Nat) (us : Nat → Value) (Q : Nat → List Int) : Prop where
  hb : w.heap[b]? = some (.cells #[us 0, us 1, us 2, us 3] 29 (0, 0))
  rd : ∀ c, c < 4 → Rd w (us c) (Q c)
theorem Rs.cell {w : World} {b : Nat} {us : Nat → Value} {Q : Nat → List Int} (h : Rs w b us Q) {c : Nat} (hc : c < 4) : w.cell? ⟨b, c, none⟩ = some (us c) := by
  rw [cell_of_row h.hb]
  rcases four hc with rfl | rfl | rfl | rfl <;> rfl
theorem Rs.keep0 {w w' : World} {b : Nat} {us : Nat → Value} {Q : Nat → List Int} (h : Rs w b us Q) (k : Kp [] w w') : Rs w' b us Q := ⟨k.row (by simp) h.hb, fun c hc => (h.rd c hc).keep0 k⟩

theorem inR_hit {x : Int} {xs : List Int} {i : Nat} (hi : i < xs.length) (h : (xs.getD i 0 == x) = true) : inR x xs = true := by
  rw [getD_lt _ _ hi] at h
  exact List.any_eq_true.2 ⟨_, List.getElem_mem hi, by rw [beq_iff_eq] at h ⊢; exact h.symm⟩
theorem inR_miss {x : Int} {xs : List Int} (h : ∀ j, j < xs.length → (xs.getD j 0 == x) = false) : inR x xs = false := by
  cases hc : inR x xs with
  | false => rfl
  | true =>
    obtain ⟨y, hy, he⟩ := List.any_eq_true.1 hc
    obtain ⟨j, hj, rfl⟩ := List.getElem_of_mem hy
    have := h j hj
    rw [getD_lt _ _ hj] at this
    rw [beq_iff_eq] at he
    rw [he] at this
    simp at this

set_option maxRecDepth 100000 in
theorem rhas_any (w : World) (us : Nat → Value) (Q : Nat → List Int) (x : Int) (hq : ∀ c, c < 4 → Rd w (us c) (Q c)) (hn : Len Q 1000) :
    Calls Try.prog 15 #[.agg #[us 0, us 1, us 2, us 3], .int .i64 x] w fun e w' => e = .returned (.bool (hasB Q x)) ∧ Kp [] w w' := by
  obtain ⟨w1, hw1⟩ : ∃ w1, w.alloc (.cells #[us 0, us 1, us 2, us 3] 29) = w1 := ⟨_, rfl⟩
  have hk1 : Kp [] w w1 := by rw [← hw1]; exact (Kp.refl _ _).alloc _
  have S1 : Rs w1 w.heap.size us Q := ⟨by rw [← hw1]; exact heap_alloc_new w _, fun c hc => (hq c hc).keep0 hk1⟩
  have HS := Lib.hid S1
  have HK := Lib.hid hk1
  obtain ⟨b, hbb⟩ : ∃ b, b = w.heap.size := ⟨_, rfl⟩
  obtain ⟨r, hrr⟩ : ∃ r, r = hasB Q x := ⟨_, rfl⟩
  have HR := Lib.hid hrr
  rw [← hrr]
  rw [← hbb] at HS
  clear S1 hk1 hq hrr
  go_enter Try.func15, Try.ntmps15
  go_wp2
  try rw [hw1]
  rw [← hbb]
  clear hw1 hbb
  go_loopg [5, 6] 4 (fun g cv _ wr => ∃ c : Nat, c + g = 4 ∧ cv = .int .i64 (c : Int) ∧ Hid (inK Q x c = false) ∧ wr = w1)
  case atStart => exact ⟨0, by omega, rfl, Lib.hid rfl, rfl⟩
  case round =>
    obtain ⟨c, hcg, rfl, hno, rfl⟩ := hrel
    by_cases hc4 : c < 4
    · have hcell := HS.out.cell hc4
      obtain ⟨ao, cap, hu, hcap, _, hcs⟩ := (HS.out.rd c hc4).form
      have hl := hn c hc4
      rw [hu] at hcell
      obtain ⟨n, hnn⟩ : ∃ n, n = (Q c).length := ⟨_, rfl⟩
      have HN := Lib.hid hnn
      rw [← hnn] at hcell hl hcap
      have HC := Lib.hid hcs
      clear hcs hu hnn hn
      obtain ⟨G, hG⟩ : ∃ G, G + 1 = gk := ⟨gk - 1, by omega⟩
      go_wp2
      go_loopg [6] n (fun g iv wq => ∃ i : Nat, i + g = n ∧ iv = .int .i64 (i : Int) ∧ Hid (∀ j, j < i → ((Q c).getD j 0 == x) = false) ∧ wq = wr)
      case atStart => exact ⟨0, by omega, rfl, Lib.hid (fun j hj => by omega), rfl⟩
      case round =>
        obtain ⟨i, hig, rfl, hp, rfl⟩ := hrel
        by_cases hin : i < n
        · obtain ⟨g, o, rfl, hcs⟩ := HC.out (fun e => by have := HN.out; rw [e] at this; simp at this; omega)
          have hci := hcs i (by have := HN.out; omega)
          clear hcs
          obtain ⟨y, hy⟩ : ∃ y, y = (Q c).getD i 0 := ⟨_, rfl⟩
          have HY := Lib.hid hy
          rw [← hy] at hci
          clear hy
          go_wp2
          · have hyx : (y == x) = true := by assumption
            go_ret
            refine ⟨?_, HK.out⟩
            have e1 : inR x (Q c) = true := inR_hit (i := i) (by have := HN.out; omega) (by rw [← HY.out]; exact hyx)
            have e2 : hasB Q x = true := inK_mono (k := c + 1) (by rw [inK, e1]; simp) 4 (by omega)
            rw [HR.out, e2]
            rfl
          · have hyx : (y == x) = false := by assumption
            go_roundg (n - (i + 1))
            case measure => omega
            case rel => exact ⟨i + 1, by omega, by go_num, Lib.hid (fun j hj => by
              by_cases e : j = i
              · subst e; rw [← HY.out]; exact hyx
              · exact hp.out j (by omega)), rfl⟩
        · have hin' : i = n := by omega
          have hno' := Lib.hid (show inK Q x (c + 1) = false from by
            rw [inK, hno.out, inR_miss (fun j hj => hp.out j (by have := HN.out; omega))]; rfl)
          clear HC
          go_wp2
          go_roundg G
          case measure => omega
          case rel => exact ⟨c + 1, by omega, by go_num, hno', rfl⟩
    · have : c = 4 := by omega
      subst this
      clear hn
      go_wp2
      go_ret
      refine ⟨?_, HK.out⟩
      have e := hno.out
      rw [HR.out, hasB, e]
      rfl

end Go.Proofs.Ythcblhombfggaaa
