/- The package's table, as the rows of layer class list it: what it gives a walk, and a world that holds it. Conditions: none. -/
import Derived.Test.YtinkpbenmfnnhaaDoorCards
import Derived.Test.YtinkpbenmfnnhaaDoorTie
import Derived.Test.YtinkpbenmfnnhaaDoorLaw
import Derived.Test.YtinkpbenmfnnhaaDoorCls
import Derived.WalkKit
import Derived.ProofKit
import Derived.OpenShut
import Derived.Deep.DeepHandedRow
import Derived.Lib.LaidTab
namespace Go.Proofs.YtinkpbenmfnnhaaDoor
open Go.ChangeShapes Go.WideShapes Go.ChangeAt Go.RowKit

theorem Tryd.own : ownKnob Tryd.prog.godebug = none := by kernel_rfl
theorem Tryd.laidOut : laidOutB Tryd.prog = true := by kernel_rfl
theorem gTab : Tryd.prog.globalNamed "demesne/class.rooms" = some 0 := by kernel_rfl
theorem gTabType : (Tryd.prog.globals[0]?).map (·.type) = some 80 := by kernel_rfl
theorem gTabCells : Tryd.prog.cellsOf 80 = 4 := by kernel_rfl
theorem gIntCells : Tryd.prog.cellsOf 3 = 1 := by kernel_rfl

/-- What the rows' list gives: the table's cells hold its four numbers. -/
theorem tab_of {W : World} (h : laidMetH Tryd.prog [("demesne/class.rooms", Rows.laid_demesne_class_rooms)] W) : Cl.Tab W := by
  have t : Lib.TabIs Tryd.prog W "demesne/class.rooms" .i64 [1, 2, 4, 8] := Lib.tabIs_of_head (rest := []) gTab gTabType Tryd.underlying80 Tryd.underlying3 gIntCells gTabCells h
  exact ⟨t.cell gTab 0 (by decide), t.cell gTab 1 (by decide), t.cell gTab 2 (by decide), t.cell gTab 3 (by decide)⟩

/-- The settled world, the table laid into it. -/
noncomputable def laidWorld (os : Os) : World :=
  { World.holding Tryd.prog os ⟨#[], #[], []⟩ with heap := (World.holding Tryd.prog os ⟨#[], #[], []⟩).heap.modify 0 fun
      | .cells _ t frozen => .cells #[.int .i64 1, .int .i64 2, .int .i64 4, .int .i64 8] t frozen
      | o => o }

end Go.Proofs.YtinkpbenmfnnhaaDoor
