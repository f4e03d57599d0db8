/- The walks of the document's own blocks (demesneref14): Begin, set, Claim, Set. Conditions: as each theorem states them. -/
import Derived.Test.YteppcbihhikoaaaGvP
import Derived.Test.YteppcbihhikoaaaArnRef
import Derived.Test.YteppcbihhikoaaaBmR
import Derived.Test.YteppcbihhikoaaaTbR
import Derived.Deep.RegionWith
import Derived.LoopTactic
import Derived.Deep.LoopGhost
namespace Go.Proofs.Yteppcbihhikoaaa
set_option linter.unusedVariables false
set_option linter.unusedSimpArgs false
open Go.RowKit

/-- The document's own blocks: their number, the map, where the entries' words lie. -/
def sv (n : Nat) (M : Nat) (q cap : Nat) : Value := .agg #[.int .i64 n, .int .u64 M, .slice (some ⟨q, 0, none⟩) n cap]
/-- It stands at g. -/
structure Dv (n : Nat) (g : Gv) (v : Value) (base : Nat) (w : World) : Prop where
  ex : ∃ q cap, v = sv n g.M q cap ∧ Rw w q cap g.E ∧ base ≤ q
  len : g.E.length = n
  hn : 1 ≤ n ∧ n ≤ 64

section
variable {n : Nat} {g : Gv} {v : Value} {base : Nat} {w w' : World}
theorem Dv.keep {S : List Nat} (h : Dv n g v base w) (k : Kp S w w') (hS : ∀ x ∈ S, x < base) : Dv n g v base w' := by
  obtain ⟨q, cap, e, hr, hb⟩ := h.ex
  exact ⟨⟨q, cap, e, hr.keep k (fun e => by have := hS _ e; omega), hb⟩, h.len, h.hn⟩
theorem Dv.on (h : Dv n g v base w) (k : Kp [] w w') : Dv n g v base w' := h.keep k (by simp)
theorem Dv.low {b2 : Nat} (h : Dv n g v base w) (hb : b2 ≤ base) : Dv n g v b2 w := by
  obtain ⟨q, cap, e, hr, h2⟩ := h.ex
  exact ⟨⟨q, cap, e, hr, by omega⟩, h.len, h.hn⟩

set_option maxHeartbeats 1000000 in
/-- An entry's word is another one. -/
theorem r_set (q cap : Nat) (E : List Int) (M : Int) (hr : Rw w q cap E) (hE : E.length = n) (h1 : 1 ≤ n) (h64 : n ≤ 64) (k : Nat) (hk : k < n) (j x : Int) (hj : j = k) :
    Calls Try.prog 38 #[.agg #[.int .i64 n, .int .u64 M, .slice (some ⟨q, 0, none⟩) n cap], .int .i64 j, .int .u64 x] w fun e w' =>
      ∃ q' cap', e = .returned (.agg #[.int .i64 n, .int .u64 M, .slice (some ⟨q', 0, none⟩) n cap']) ∧ Rw w' q' cap' (E.set k x) ∧ w.heap.size ≤ q' ∧ Kp [] w w' := by
  subst hj
  have HN := Lib.hid hE.symm
  have hka := ((Kp.refl [] w).alloc (Obj.cells #[.int .i64 n, .int .u64 M, .slice (some ⟨q, 0, none⟩) n cap] 33)).alloc (Obj.cells #[.int .i64 0, .int .u64 0, .slice none 0 0] 33)
  have hr2 := hr.keep hka (by simp)
  have hb1 := heap_alloc2_old w (Obj.cells #[.int .i64 n, .int .u64 M, .slice (some ⟨q, 0, none⟩) n cap] 33) (Obj.cells #[.int .i64 0, .int .u64 0, .slice none 0 0] 33)
  have hb2 := heap_alloc_new (w.alloc (Obj.cells #[.int .i64 n, .int .u64 M, .slice (some ⟨q, 0, none⟩) n cap] 33)) (Obj.cells #[.int .i64 0, .int .u64 0, .slice none 0 0] 33)
  rw [World.size_alloc] at hb2
  have hkE : k < E.length := by omega
  have h4 : n ≤ 4096 := by omega
  clear hE hr
  go_enter Try.func38, Try.ntmps38
  go_wp2_with (first
    | (at_builtin; refine wpList_append_copy rfl _ _ rfl q cap n E HN.out rfl rfl hr2 h1 h4 ?_; intro g3 cap3 w3 hr3 hge3 hk3
       have hg3 : w.heap.size + 2 ≤ g3 := by simpa using hge3
       have hne : ¬ g3 = w.heap.size := by omega
       have hne1 : ¬ w.heap.size = g3 := by omega
       have hc1 := hk3.row (by simp) hb1
       have d0 : w3.cell? ⟨w.heap.size, 0, none⟩ = some (.int .i64 n) := cell_of_row hc1 0
       have d1 : w3.cell? ⟨w.heap.size, 1, none⟩ = some (.int .u64 M) := cell_of_row hc1 1
       have d2 : w3.cell? ⟨w.heap.size, 2, none⟩ = some (.slice (some ⟨q, 0, none⟩) n cap) := cell_of_row hc1 2
       have f2 := free_of_row hc1 2
       have c3 := hr3.cell hkE
       have f3 := hr3.free k
       have W4 : Hid (((w3.setCell ⟨w.heap.size, 2, none⟩ (.slice (some ⟨g3, 0, none⟩) n cap3)).setCell ⟨g3, k, none⟩ (.int .u64 x)).heap[w.heap.size + 1]? = some (.cells #[.int .i64 0, .int .u64 0, .slice none 0 0] 33 (0, 0))) :=
         Lib.hid (by rw [heap_setCell_other _ _ _ _ (by show w.heap.size + 1 ≠ g3; omega), heap_setCell_other _ _ _ _ (by show w.heap.size + 1 ≠ w.heap.size; omega)]; exact hk3.row (by simp) hb2)
       have HR : Hid (Rw ((w3.setCell ⟨w.heap.size, 2, none⟩ (.slice (some ⟨g3, 0, none⟩) n cap3)).setCell ⟨g3, k, none⟩ (.int .u64 x)) g3 cap3 (E.set k x)) := Lib.hid ((hr3.keep ((Kp.refl [w.heap.size] w3).setCell (.inl (by simp)) _) (by simp; omega)).store hkE x)
       have HK := Lib.hid (((hka.trans hk3).setCell (p := ⟨w.heap.size, 2, none⟩) (.inr (Nat.le_refl _)) (.slice (some ⟨g3, 0, none⟩) n cap3)).setCell (p := ⟨g3, k, none⟩) (.inr (show w.heap.size ≤ g3 from by omega)) (.int .u64 x))
       clear hr3 hge3 hk3 hc1)
    | (refine wpList_store_row rfl 33 _ _ rfl (w.heap.size + 1) _ rfl rfl 33 _ W4.out (by kernel_rfl) rfl (by simp [Value.oneCell']) ?_))
  exact bodyPost_row rfl (w.heap.size + 1) 33 _ (0, 0) _ rfl rfl (setRow_heap _ _ _ _ _ _ W4.out) Try.underlying33 rfl (by kernel_rfl)
      ⟨g3, cap3, rfl, HR.out.keep ((Kp.refl [w.heap.size + 1] _).setRow (.inl (by simp)) _) (by simp; omega), by omega, HK.out.setRow (.inr (by omega)) _⟩
end
end Go.Proofs.Yteppcbihhikoaaa
