/- maps.Keys and slices.Sorted of it, at a map of ints: a row of the call's own that has the keys, rising. Conditions: as each theorem states them. -/
import Derived.Test.YtmbhhadghiojeaaGrK
import Derived.Test.YtmbhhadghiojeaaRow
import Derived.Shelf.Abstract
namespace Go.Proofs.Ytmbhhadghiojeaa
set_option linter.unusedVariables false
set_option linter.unusedSimpArgs false
open Go.RowKit Go.Maps Go.Sort Go.Shelf

theorem sorts_in (m : Nat) : AnyZI.SortsIn Try.prog sortedA_ren Fence.wide m :=
  ⟨fun blk off cap ss W hH hblk hsz => callsIn_wide.2 (AnyM.slices_Sort_int sortA blk off cap ss W hH hblk hsz),
   fun p cap W => callsIn_wide.2 (AnyM.slices_Sort_int_none sortA p cap W)⟩

theorem keys_any (mb : Option Nat) (W : World) : Calls Try.prog 25 #[.map mb] W fun e w' => e = .returned (.func (.func 58) #[] #[.pointer (some ⟨W.heap.size, 0, none⟩)]) ∧ w' = W.alloc (.cells #[.map mb] 37) :=
  (callsIn_wide (n := 5)).1 (AnyZI.keys_in keysA Fence.wide 5 trivial rfl mb W)

/-- What Sorted answers. -/
def SortedIs {H : Type} (D0 : DataW H) (w : World) (e : Ending) (w' : World) : Prop :=
  ∃ (v : Value) (ss : List Int), e = .returned v ∧ ss.Perm (intKeys D0) ∧ Rw w v (ss.mergeSort fun x y => decide (x ≤ y)) w' ∧ Kp [] w w'

set_option maxHeartbeats 1000000 in
theorem sorted_any {H : Type} (b nn K : Nat) (D0 : DataW H) (R : Value → Option (DataW H × List MemPlace)) (w : World) (hb : w.cell? ⟨K, 0, none⟩ = some (.map (some b))) (hown : w.ownsMap Try.prog 3 R b nn D0) (hmax : Maps.size D0 ≤ 100000) :
    Calls Try.prog 24 #[.func (.func 58) #[] #[.pointer (some ⟨K, 0, none⟩)]] w (SortedIs D0 w) := by
  have hseq : SeqGives Fence.wide 2 Try.prog 58 #[.pointer (some ⟨K, 0, none⟩)] encZ (fun ss => ss.Perm (intKeys D0)) (Maps.size D0) w :=
    AnyZI.keys_gives (ρ := keysA_ren) { keysA with } Fence.wide _ trivial rfl (by omega) K b nn D0 _ (block_lt_of_cell hb) hb hown
  have cS := AnyZI.sorted_in sortedA Fence.wide 5 trivial trivial trivial trivial rfl (by omega) (sorts_in _) (enters_of Try.func57 (by kernel_rfl) rfl) 58 #[.pointer (some ⟨K, 0, none⟩)] trivial (enters_of Try.func58 (by kernel_rfl) rfl) _ _ (by unfold maxLen; omega) (by omega) _ hseq
  change CallsIn _ _ Try.prog 24 _ _ _ at cS
  refine ((callsIn_wide (n := 5)).1 cS).mono ?_
  rintro e w' ⟨v, ss, rfl, hS, hrow, hnil, hb⟩
  refine ⟨v, ss, rfl, hS, ⟨?_⟩, kp_of_below hb⟩
  have e1 : (ss.mergeSort fun x y => decide (x ≤ y)).length = ss.length := List.length_mergeSort ..
  rw [e1]
  exact hrow

end Go.Proofs.Ytmbhhadghiojeaa
