/- The world of BitmapApart: the owners' block, the two rows that grow, the runs that came in. Conditions: as each lemma states them. -/
import Derived.Test.YtdpgefagdpoobaaBmL
import Derived.Test.YtdpgefagdpoobaaBmA
import Derived.Deep.AppendLies
import Derived.ChangeSlices
import Derived.ChangeOld
import Derived.Deep.Slices
import Derived.OpenShut
namespace Go.Proofs.Ytdpgefagdpoobaa
set_option linter.unusedVariables false
set_option linter.unusedSimpArgs false
open Go.ChangeShapes Go.WideShapes Go.ChangeAt Go.RowKit

/-- An array of 64 ints. -/
def iv (g : Nat → Int) : Array Value := ((List.range 64).map fun i => Value.int .i64 (g i)).toArray
theorem iv_size (g : Nat → Int) : (iv g).size = 64 := by simp [iv]
theorem iv_get (g : Nat → Int) (i : Nat) (h : i < 64) : (iv g)[i]? = some (.int .i64 (g i)) := by simp [iv, h]
theorem iv_set (f : Nat → Int) (i : Nat) (z : Int) : (iv f).setIfInBounds i (.int .i64 z) = iv fun j => if j = i then z else f j := by
  apply Array.ext_getElem?
  intro j
  by_cases hj : j < 64
  · rw [iv_get _ j hj]
    by_cases e : i = j
    · subst e
      rw [Array.getElem?_setIfInBounds_self_of_lt (by rw [iv_size]; exact hj)]; simp
    · rw [Array.getElem?_setIfInBounds_ne e, iv_get f j hj, if_neg (fun q => e q.symm)]
  · rw [Array.getElem?_eq_none (by rw [Array.size_setIfInBounds, iv_size]; omega), Array.getElem?_eq_none (by rw [iv_size]; omega)]
theorem iv_zero (w : World) : (zeroValue 40).run Try.prog w = .ok (.agg (iv fun _ => 0)) w :=
  (zero_of_info (show (Try.prog.info? 40).map (fun i => (i.zero, i.size)) = some (some (.agg (iv fun _ => 0)), 64) from by kernel_rfl)).1 w

/-- The cells of a row of ints. -/
def zs (L : List Int) : List Value := L.map (.int .i64)
theorem zs_len (L : List Int) : (zs L).length = L.length := by simp [zs]
theorem zs_get (L : List Int) (i : Nat) (h : i < L.length) : (zs L)[i]? = some (.int .i64 (L.getD i 0)) := by simp [zs, h, List.getD]
theorem zs_snoc (L : List Int) (z : Int) : zs (L ++ [z]) = zs L ++ [.int .i64 z] := by simp [zs]

theorem kp_grown {w w' : World} (h : Kp [] w w') : w.grownBy w' none := ⟨h.os, h.tape, h.output, h.size, fun k hk _ => h.block k hk (by simp)⟩
theorem kp1_grown {w w' : World} {b : Nat} (h : Kp [b] w w') : w.grownBy w' (some b) := ⟨h.os, h.tape, h.output, h.size, fun k hk hn => h.block k hk (by intro e; rw [List.mem_singleton] at e; exact hn (by rw [e]))⟩

/-- The owners' block B, and the two rows behind it. -/
structure Two (B : Nat) (va vn : Value) (La Ln : List Int) (g : Nat → Int) (w : World) : Prop where
  own : w.heap[B]? = some (.cells (iv g) 40 (0, 0))
  ra : w.ownsRow (B + 1) 3 1 va La.length (zs La)
  rn : w.ownsRow (B + 1) 3 1 vn Ln.length (zs Ln)
  ap : ∀ k, va.ownBlock = some k → vn.ownBlock ≠ some k

section
variable {B : Nat} {va vn : Value} {La Ln : List Int} {g : Nat → Int} {w w' : World}

theorem Two.lt (h : Two B va vn La Ln g w) : B < w.heap.size := lt_of_block h.own
theorem Two.on (h : Two B va vn La Ln g w) (k : Kp [] w w') : Two B va vn La Ln g w' :=
  ⟨k.row (by simp) h.own, h.ra.kept (kp_grown k) (by cases va.ownBlock <;> simp), h.rn.kept (kp_grown k) (by cases vn.ownBlock <;> simp), h.ap⟩
theorem own_ne {w : World} {b : Nat} {v : Value} {n : Nat} {xs : List Value} (h : w.ownsRow (b + 1) 3 1 v n xs) : v.ownBlock = none ∨ v.ownBlock ≠ some b := by
  refine .inr fun e => ?_
  have := (h.lt b e).1
  omega
theorem Two.turn (h : Two B va vn La Ln g w) (k : Kp [B] w w') {g' : Nat → Int} (ho : w'.heap[B]? = some (.cells (iv g') 40 (0, 0))) : Two B va vn La Ln g' w' :=
  ⟨ho, h.ra.kept (kp1_grown k) (own_ne h.ra), h.rn.kept (kp1_grown k) (own_ne h.rn), h.ap⟩
theorem Two.cell (h : Two B va vn La Ln g w) {j : Nat} (hj : j < 64) : w.cell? ⟨B, j, none⟩ = some (.int .i64 (g j)) := by rw [cell_of_row h.own, iv_get g j hj]
theorem Two.free (h : Two B va vn La Ln g w) (j : Nat) : w.frozen? ⟨B, j, none⟩ = false := free_of_row h.own j
theorem Two.store (h : Two B va vn La Ln g w) {j : Nat} (z : Int) : Two B va vn La Ln (fun i => if i = j then z else g i) (w.setCell ⟨B, j, none⟩ (.int .i64 z)) := by
  refine h.turn ((Kp.refl [B] w).setCell (.inl (by simp)) _) ?_
  rw [heap_setCell_same w B j _ _ _ h.own, iv_set]

theorem Two.pushA (h : Two B va vn La Ln g w) {o : Obj} {z : Int} {b cap : Nat} {H : Nat} (hH : H = (w.alloc o).heap.size) (hown : w'.ownsRow (B + 1) 3 1 (.slice (some ⟨b, 0, none⟩) (La.length + 1) cap) (La.length + 1) (zs La ++ [.int .i64 z])) (hg : (w.alloc o).grownBy w' va.ownBlock) (hat : va.ownBlock = some b ∨ b = H) :
    Two B (.slice (some ⟨b, 0, none⟩) (La.length + 1) cap) vn (La ++ [z]) Ln g w' := by
  have hrn : vn.ownBlock = none ∨ vn.ownBlock ≠ va.ownBlock := by
    cases hv : va.ownBlock with
    | none => cases vn.ownBlock <;> simp
    | some k => exact .inr (h.ap k hv)
  refine ⟨?_, ?_, (h.rn.alloc o).kept hg hrn, ?_⟩
  · rw [hg.block B (Nat.lt_of_lt_of_le h.lt (by simp)) (by rcases own_ne h.ra with q | q; · rw [q]; simp
                                                           · exact fun e => q e.symm)]
    rw [Below.heap_alloc _ _ _ h.lt]; exact h.own
  · have e : (La ++ [z]).length = La.length + 1 := by simp
    rw [e, zs_snoc]; exact hown
  · intro k hk
    have hk' : b = k := by simpa [Value.ownBlock] using hk
    subst hk'
    rcases hat with q | q
    · exact h.ap b q
    · intro e
      have := (h.rn.lt b e).2
      rw [hH] at q; simp at q; omega

theorem Two.pushN (h : Two B va vn La Ln g w) {o : Obj} {z : Int} {b cap : Nat} {H : Nat} (hH : H = (w.alloc o).heap.size) (hown : w'.ownsRow (B + 1) 3 1 (.slice (some ⟨b, 0, none⟩) (Ln.length + 1) cap) (Ln.length + 1) (zs Ln ++ [.int .i64 z])) (hg : (w.alloc o).grownBy w' vn.ownBlock) (hat : vn.ownBlock = some b ∨ b = H) :
    Two B va (.slice (some ⟨b, 0, none⟩) (Ln.length + 1) cap) La (Ln ++ [z]) g w' := by
  have hrn : va.ownBlock = none ∨ va.ownBlock ≠ vn.ownBlock := by
    cases hv : va.ownBlock with
    | none => exact .inl rfl
    | some k => exact .inr fun e => h.ap k hv e.symm
  refine ⟨?_, (h.ra.alloc o).kept hg hrn, ?_, ?_⟩
  · rw [hg.block B (Nat.lt_of_lt_of_le h.lt (by simp)) (by rcases own_ne h.rn with q | q; · rw [q]; simp
                                                           · exact fun e => q e.symm)]
    rw [Below.heap_alloc _ _ _ h.lt]; exact h.own
  · have e : (Ln ++ [z]).length = Ln.length + 1 := by simp
    rw [e, zs_snoc]; exact hown
  · intro k hk
    rcases hat with q | q
    · intro e
      have e' : b = k := by simpa [Value.ownBlock] using e
      subst e'
      exact h.ap b hk q
    · intro e
      have e' : b = k := by simpa [Value.ownBlock] using e
      subst e'
      have := (h.ra.lt b hk).2
      rw [hH] at q; simp at q; omega
/-- The one cell that is appended. -/
theorem news_one (w : World) (z : Int) (H : Nat) (hH : H = w.heap.size) : ∀ j u, [Value.int .i64 z][j]? = some u → (w.alloc (.cells #[.int .i64 z] 3)).cell? ((⟨H, 0, none⟩ : Addr).add j) = some u := by
  subst hH
  intro j u hj
  match j, hj with
  | 0, hj => simp at hj; subst hj; simp [Addr.add]
theorem one_cell (z : Int) : ∀ u ∈ [Value.int .i64 z], u.oneCell' = true := by
  intro u hu; simp at hu; subst hu; rfl
/-- A row's value, and its cells. -/
theorem Two.formA (h : Two B va vn La Ln g w) : ∃ ao cap, va = .slice ao La.length cap ∧ ∀ t, t < La.length → ∃ b, ao = some ⟨b, 0, none⟩ ∧ ∀ w', Kp [] w w' → w'.cell? ⟨b, t, none⟩ = some (.int .i64 (La.getD t 0)) := by
  rcases h.ra.2 with ⟨e, h0⟩ | ⟨b, cap, cur, e, _, hb, hn, _, hs, ht⟩
  · exact ⟨none, 0, by rw [e, h0], fun t ht => by omega⟩
  · refine ⟨some ⟨b, 0, none⟩, cap, e, fun t htl => ⟨b, rfl, fun w' k => ?_⟩⟩
    rw [cell_of_row (k.row (by simp) hb)]
    have e2 := zs_get La t htl
    rw [← ht, List.getElem?_take_of_lt (by omega)] at e2
    simpa using e2
theorem Two.formN (h : Two B va vn La Ln g w) : ∃ ao cap, vn = .slice ao Ln.length cap ∧ ∀ t, t < Ln.length → ∃ b, ao = some ⟨b, 0, none⟩ ∧ ∀ w', Kp [] w w' → w'.cell? ⟨b, t, none⟩ = some (.int .i64 (Ln.getD t 0)) := by
  rcases h.rn.2 with ⟨e, h0⟩ | ⟨b, cap, cur, e, _, hb, hn, _, hs, ht⟩
  · exact ⟨none, 0, by rw [e, h0], fun t ht => by omega⟩
  · refine ⟨some ⟨b, 0, none⟩, cap, e, fun t htl => ⟨b, rfl, fun w' k => ?_⟩⟩
    rw [cell_of_row (k.row (by simp) hb)]
    have e2 := zs_get Ln t htl
    rw [← ht, List.getElem?_take_of_lt (by omega)] at e2
    simpa using e2
theorem kp_drewN (w : World) (j : Nat) : Kp [] w (w.drewN j) := ⟨rfl, rfl, rfl, Nat.le_refl _, fun _ _ _ => rfl⟩
/-- Below the first world nothing turns where a row of two grows. -/
theorem kp_push {W : World} {v : Value} {n : Nat} {xs : List Value} {o : Obj} (hW : Kp [] W w) (hB : W.heap.size ≤ B) (hr : w.ownsRow (B + 1) 3 1 v n xs) (hg : (w.alloc o).grownBy w' v.ownBlock) : Kp [] W w' :=
  (hW.alloc o).grown hg fun k hk => .inr (by have := (hr.lt k hk).1; omega)
end

/-- The runs that lie where a slice leads. -/
def Runs (w : World) (ao : Option Addr) (R : List Int) : Prop :=
  ∀ i, i < R.length → ∃ b o, ao = some ⟨b, o, none⟩ ∧ b < w.heap.size ∧ w.cell? ⟨b, o + i, none⟩ = some (.int .u8 (R.getD i 0)) ∧ 0 ≤ R.getD i 0 ∧ R.getD i 0 ≤ 255

theorem spot_none {w : World} {a : Addr} {v : Value} (h : w.cell? a = some v) : a.spot = none := by
  unfold World.cell? at h
  split at h
  · split at h
    · cases h
    · rename_i hs
      simpa using hs
  · cases h

theorem open_runs {H : Type} {enc : TypeId × Value → H} {W : World} {base : Nat} {spare : Nat → Bool} {held : Bool} {v : Value} {d : DataW H} {p : List MemPlace} (hv : Value.okWide Try.prog W .any base 38 v) (h : DataW.Trod enc Try.prog W 0 spare held 38 v d p) :
    ∃ (ao : Option Addr) (cap : Nat) (R : List Int), v = .slice ao R.length cap ∧ R.length ≤ maxLen ∧ Runs W ao R := by
  obtain ⟨fuel, hf⟩ := h
  obtain ⟨ao, l0, c0, rfl⟩ := okWide_slice Try.underlying38 hv
  rcases open_ints Try.underlying38 Try.underlying5 (by kernel_rfl) hf with ⟨hc, _⟩ | ⟨a, len, cap, ns, hcs, _, hl, hm, hlen, _, hcell, hwf⟩
  · have e : Value.slice ao l0 c0 = .slice none 0 0 := by simpa [Value.cells] using hc
    exact ⟨none, 0, [], by rw [e]; rfl, by unfold maxLen; simp, fun i hi => by simp at hi⟩
  · have e : Value.slice ao l0 c0 = .slice (some a) len cap := by simpa [Value.cells] using hcs
    rw [e]
    have hlz : len ≤ ns.length := by rw [hlen]; split <;> omega
    refine ⟨some a, cap, ns.take len, by rw [List.length_take, Nat.min_eq_left hlz], by rw [List.length_take]; omega, ?_⟩
    intro i hi
    rw [List.length_take, Nat.min_eq_left hlz] at hi
    have h0 := hcell 0 (by omega)
    simp only [Addr.add, if_true] at h0
    have hsp := spot_none h0
    obtain ⟨b, o, sp⟩ := a
    simp only at hsp
    subst hsp
    have hi' := hcell i (by omega)
    rw [Addr.add_lit] at hi'
    have eg : (ns.take len).getD i 0 = ns.getD i 0 := by simp [List.getD, hi]
    have hmem : ns.getD i 0 ∈ ns := by
      have : i < ns.length := by omega
      simp [List.getD, this]
    have hb := bounds_u8 (hwf _ hmem)
    exact ⟨b, o, rfl, block_lt_of_cell hi', by rw [eg]; exact hi', by rw [eg]; exact hb.1, by rw [eg]; exact hb.2⟩

end Go.Proofs.Ytdpgefagdpoobaa
