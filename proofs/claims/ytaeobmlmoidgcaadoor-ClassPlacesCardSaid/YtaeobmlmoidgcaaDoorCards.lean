/-
  DERIVED. GIVEN WITH THE SEED: THE CARDS: each row of YtaeobmlmoidgcaaDoorRows.lean that lists a variable, with what it lists TIED to the program's text (the seventh form; the later family's looks); each row that meets fmt, with fmt's text TOLD by the authors' own Lean function (tested against real Go, not proved from fmt's source: count such statements apart). THE CARD IS WHAT COUNTS. Prove the row's statement (the work); the ties are given (YtaeobmlmoidgcaaDoorTie.lean); close each card by the builder's one call (the guide's Derived/Test/ToyasCard.lean, 'card_holds'). Laid BY PROGRAM, IN A SANDBOX (cutbox-door.mjs). By AI agents, Wed Nov 11 2026. No macro, syntax, notation, axiom, sorry.
-/
import Derived.Test.YtaeobmlmoidgcaaDoorRows
import GoSem.ClaimSeven
namespace Go.Proofs.YtaeobmlmoidgcaaDoor
namespace Rows

/-- THE TIED CARD OF 'demesnelaw03.ClassTells'. -/
def classTellsCard : Claim7 := { stood := { row := classTellsRow, standIns := [], harness := (true, "10a1476ecf02de877a9fa5b29a0fa19d781b298346478c9f3bc3b2c91788141a"), looks := false }, kinds := [], alts := [], laidByText := true, laidKinds := [.data], laidTests := true, laidLooks := .later }
def ClassTellsCardSaid : Prop := Claim7.holds Tryd.pinned (.plain (OpenSpec.ofChange classTellsSpec)) classTellsCard

/-- THE TIED CARD OF 'demesnelaw03.ClassPlaces'. -/
def classPlacesCard : Claim7 := { stood := { row := classPlacesRow, standIns := [], harness := (true, "10a1476ecf02de877a9fa5b29a0fa19d781b298346478c9f3bc3b2c91788141a"), looks := false }, kinds := [], alts := [], laidByText := true, laidKinds := [.data], laidTests := true, laidLooks := .later }
def ClassPlacesCardSaid : Prop := Claim7.holds Tryd.pinned (.plain (OpenSpec.ofChange classPlacesSpec)) classPlacesCard

/-- THE TIED CARD OF 'demesnelaw03.ClassParts'. -/
def classPartsCard : Claim7 := { stood := { row := classPartsRow, standIns := [], harness := (true, "10a1476ecf02de877a9fa5b29a0fa19d781b298346478c9f3bc3b2c91788141a"), looks := false }, kinds := [], alts := [], laidByText := true, laidKinds := [.data], laidTests := true, laidLooks := .later }
def ClassPartsCardSaid : Prop := Claim7.holds Tryd.pinned (.plain (OpenSpec.ofChange classPartsSpec)) classPartsCard

/-- THE SECOND FORM's CARD OF 'demesnelaw03.ClassTells'. -/
def classTellsUptoCard : Claim7 := { stood := { row := classTellsUptoRow, standIns := [], harness := (true, "10a1476ecf02de877a9fa5b29a0fa19d781b298346478c9f3bc3b2c91788141a"), looks := false }, kinds := [], alts := [], laidByText := true, laidKinds := [.data], laidTests := true, laidLooks := .later }
def ClassTellsUptoCardSaid : Prop := Claim7.holds Tryd.pinned (.plain (OpenSpec.upto classTellsSpec)) classTellsUptoCard

/-- THE SECOND FORM's CARD OF 'demesnelaw03.ClassPlaces'. -/
def classPlacesUptoCard : Claim7 := { stood := { row := classPlacesUptoRow, standIns := [], harness := (true, "10a1476ecf02de877a9fa5b29a0fa19d781b298346478c9f3bc3b2c91788141a"), looks := false }, kinds := [], alts := [], laidByText := true, laidKinds := [.data], laidTests := true, laidLooks := .later }
def ClassPlacesUptoCardSaid : Prop := Claim7.holds Tryd.pinned (.plain (OpenSpec.upto classPlacesSpec)) classPlacesUptoCard

/-- THE SECOND FORM's CARD OF 'demesnelaw03.ClassParts'. -/
def classPartsUptoCard : Claim7 := { stood := { row := classPartsUptoRow, standIns := [], harness := (true, "10a1476ecf02de877a9fa5b29a0fa19d781b298346478c9f3bc3b2c91788141a"), looks := false }, kinds := [], alts := [], laidByText := true, laidKinds := [.data], laidTests := true, laidLooks := .later }
def ClassPartsUptoCardSaid : Prop := Claim7.holds Tryd.pinned (.plain (OpenSpec.upto classPartsSpec)) classPartsUptoCard
end Rows
end Go.Proofs.YtaeobmlmoidgcaaDoor
