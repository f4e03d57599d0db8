/- The walks of entry (an entry of its bytes) and of the document's own Bytes. Conditions: as each theorem states them. -/
import Derived.Test.YtclegfpgmhajmaaScD
import Derived.Lib.BufferWrite
import Derived.Lib.SlBytesRow
import Derived.Deep.RegionHeld3
import Derived.Deep.RegionWith
import Derived.RegionTactic
import Derived.Deep.WholeRow
import Derived.Laws.NewBlocks
namespace Go.Proofs.Ytclegfpgmhajmaa
set_option linter.unusedVariables false
set_option linter.unusedSimpArgs false
open Go.RowKit

/-- The entry of all its bytes. -/
def entOf (l : List UInt8) : Ent := ⟨l.getD 0 0, l.getD 1 0, l.getD 2 0, l.getD 3 0, l.getD 4 0⟩
theorem entOf_take (r : List UInt8) (h : 2 ≤ r.length) : entOf (r.take (2 + (entAt r).n)) = entAt r := by
  have hn := (entAt r).n_le
  match r, h with
  | g :: d :: t, h =>
    have e1 : (entAt (g :: d :: t)).n = argsN (u d) := rfl
    rw [e1] at hn ⊢
    unfold entAt entOf
    simp only [List.getD_cons_zero, List.getD_cons_succ]
    generalize argsN (u d) = n at *
    have hc : n = 0 ∨ n = 1 ∨ n = 2 ∨ n = 3 := by omega
    rcases hc with rfl | rfl | rfl | rfl
    · simp
    · cases t <;> simp
    · rcases t with _ | ⟨a, _ | ⟨b, t⟩⟩ <;> simp
    · rcases t with _ | ⟨a, _ | ⟨b, _ | ⟨c, t⟩⟩⟩ <;> simp

theorem byteD (s : ByteArray) (i : Nat) (h : i < s.size) : s.data.toList.getD i 0 = s[i] := by
  have h' : i < s.data.toList.length := by simpa using h
  rw [List.getD, List.getElem?_eq_getElem h']
  simp
  rfl
def val (l : List UInt8) (i : Nat) : Value := .int .u8 (u (l.getD i 0))
/-- What 'copy' leaves of three zeros. -/
theorem copied (s : ByteArray) (h2 : 2 ≤ s.size) (h5 : s.size ≤ 5) :
    ([Value.int .u8 0, .int .u8 0, .int .u8 0].take 0 ++ Lib.byteCells (s.extract 2 s.size).data.toList ++ [Value.int .u8 0, .int .u8 0, .int .u8 0].drop (0 + (s.extract 2 s.size).size)).toArray = #[val s.data.toList 2, val s.data.toList 3, val s.data.toList 4] := by
  rw [Lib.size_eq (s.extract 2 s.size), Lib.extract_data]
  rw [Lib.size_eq] at h2 h5 ⊢
  generalize s.data.toList = l at *
  match l, h2, h5 with
  | [a, b], _, _ => simp [Lib.byteCells, val, u]
  | [a, b, c], _, _ => simp [Lib.byteCells, val, u]
  | [a, b, c, d], _, _ => simp [Lib.byteCells, val, u]
  | [a, b, c, d, e], _, _ => simp [Lib.byteCells, val, u]

theorem byte_size : (Try.prog.info? 5).map (·.size) = some 1 := by kernel_rfl
theorem run_copied (W : World) (g : Nat) (s : ByteArray) (h2 : 2 ≤ s.size) (h5 : s.size ≤ 5) (hg : W.heap[g]? = some (.cells #[.int .u8 0, .int .u8 0, .int .u8 0] 48 (0, 0))) :
    (Builtin.copy_ #[46, 9] 3 #[.slice (some ⟨g, 0, none⟩) 3 3, .string (s.extract 2 s.size)]).run Try.prog W = .ok (goInt (s.extract 2 s.size).size) (W.setRow g #[val s.data.toList 2, val s.data.toList 3, val s.data.toList 4]) := by
  have hx : (s.extract 2 s.size).size ≤ 3 := by rw [Lib.size_eq, Lib.extract_data, List.length_take]; omega
  rw [Lib.run_copy_row_string W 46 9 3 5 g 0 3 3 (s.extract 2 s.size) _ 48 Try.underlying46 byte_size hg hx (by simpa using hx)]
  rw [copied s h2 h5]

theorem entry_any (w : World) (s : ByteArray) (h2 : 2 ≤ s.size) (h5 : s.size ≤ 5) :
    Calls Try.prog 20 #[.string s] w fun e w' => e = .returned (.agg (entOf s.data.toList).cells.toArray) ∧ Kp [] w w' := by
  obtain ⟨z0, hz0⟩ : ∃ z : World, z = w.alloc (.cells #[.int .u8 0, .int .u8 0, .int .u8 0, .int .u8 0, .int .u8 0] 28) := ⟨_, rfl⟩
  have hg : (z0.alloc (.cells #[.int .u8 0, .int .u8 0, .int .u8 0] 48)).heap[w.heap.size + 1]? = some (.cells #[.int .u8 0, .int .u8 0, .int .u8 0] 48 (0, 0)) := by
    have : z0.heap.size = w.heap.size + 1 := by rw [hz0]; simp
    rw [← this]; exact heap_alloc_new _ _
  have h1 := run_copied (z0.alloc (.cells #[.int .u8 0, .int .u8 0, .int .u8 0] 48)).drew (w.heap.size + 1) s h2 h5 hg
  have e1 : (z0.alloc (.cells #[.int .u8 0, .int .u8 0, .int .u8 0] 48)).drew.setRow (w.heap.size + 1) #[val s.data.toList 2, val s.data.toList 3, val s.data.toList 4] = (z0.alloc (.cells #[val s.data.toList 2, val s.data.toList 3, val s.data.toList 4] 48)).drew := by
    have : w.heap.size + 1 = z0.heap.size := by rw [hz0]; simp
    rw [this]
    exact congrArg World.drew (World.setRow_alloc_new z0 _ _ _)
  rw [e1, hz0] at h1
  clear hz0 hg e1
  generalize hr1 : goInt (s.extract 2 s.size).size = r1 at h1
  clear hr1
  have l0 : 0 < s.size := by omega
  have HE : Hid ((entOf s.data.toList).cells.toArray = #[.int .u8 (s[0].toNat : Int), .int .u8 (s[1].toNat : Int), val s.data.toList 2, val s.data.toList 3, val s.data.toList 4]) := Lib.hid (by
    have e0 := byteD s 0 (by omega)
    have e1 := byteD s 1 (by omega)
    unfold val u Ent.cells entOf
    rw [e0, e1]
    rfl)
  unfold val at h1 HE
  generalize u (s.data.toList.getD 2 0) = a at h1 HE
  generalize u (s.data.toList.getD 3 0) = b at h1 HE
  generalize u (s.data.toList.getD 4 0) = c at h1 HE
  have l1 : (1 : Int) < (s.size : Int) := by omega
  go_enter Try.func20, Try.ntmps20
  go_wp2_with fail
  go_region
  go_wp2_with fail
  go_region
  go_wp2_with fail
  go_returns
  exact ⟨by rw [HE.out], kp_of_below (by go_grown)⟩

end Go.Proofs.Ytclegfpgmhajmaa
