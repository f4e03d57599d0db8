/-
  DERIVED. GIVEN WITH THE SEED: THE CARDS: each row of YtbpgkocbfleajaaGreatDoorRows.lean that lists a variable, with what it lists TIED to the program's text (the seventh form; the later family's looks); each row that meets fmt, with fmt's text TOLD by the authors' own Lean function (tested against real Go, not proved from fmt's source: count such statements apart). THE CARD IS WHAT COUNTS. Prove the row's statement (the work); the ties are given (YtbpgkocbfleajaaGreatDoorTie.lean); close each card by the builder's one call (the guide's Derived/Test/ToyasCard.lean, 'card_holds'). Laid BY PROGRAM, IN A SANDBOX (cutbox-door.mjs). By AI agents, Wed Nov 11 2026. No macro, syntax, notation, axiom, sorry.
-/
import Derived.Test.YtbpgkocbfleajaaGreatDoorRows
import GoSem.ClaimSeven
namespace Go.Proofs.YtbpgkocbfleajaaGreatDoor
namespace Rows

/-- THE TIED CARD OF 'demesnelaw15.AllocMakes'. -/
def allocMakesCard : Claim7 := { stood := { row := allocMakesRow, standIns := [], harness := (true, "137c2b02f7f97681706eded5cda39c5d21128bf94b1d0406ea35b5b4d4b0676a"), looks := false }, kinds := [], alts := [], laidByText := true, laidKinds := [.data], laidTests := true, laidLooks := .later }
def AllocMakesCardSaid : Prop := Claim7.holds Tryz.pinned (.plain (OpenSpec.ofChange allocMakesSpec)) allocMakesCard

/-- THE TIED CARD OF 'demesnelaw18.MarkTells'. -/
def markTellsCard : Claim7 := { stood := { row := markTellsRow, standIns := [], harness := (true, "137c2b02f7f97681706eded5cda39c5d21128bf94b1d0406ea35b5b4d4b0676a"), looks := false }, kinds := [], alts := [], laidByText := true, laidKinds := [.data], laidTests := true, laidLooks := .later }
def MarkTellsCardSaid : Prop := Claim7.holds Tryz.pinned (.plain (OpenSpec.ofChange markTellsSpec)) markTellsCard

/-- THE TIED CARD OF 'demesnelaw18.MarkNil'. -/
def markNilCard : Claim7 := { stood := { row := markNilRow, standIns := [], harness := (true, "137c2b02f7f97681706eded5cda39c5d21128bf94b1d0406ea35b5b4d4b0676a"), looks := false }, kinds := [], alts := [], laidByText := true, laidKinds := [.data], laidTests := true, laidLooks := .later }
def MarkNilCardSaid : Prop := Claim7.holds Tryz.pinned (.plain (OpenSpec.ofChange markNilSpec)) markNilCard

/-- THE TIED CARD OF 'demesnelaw18.MarkRoom'. -/
def markRoomCard : Claim7 := { stood := { row := markRoomRow, standIns := [], harness := (true, "137c2b02f7f97681706eded5cda39c5d21128bf94b1d0406ea35b5b4d4b0676a"), looks := false }, kinds := [], alts := [], laidByText := true, laidKinds := [.data], laidTests := true, laidLooks := .later }
def MarkRoomCardSaid : Prop := Claim7.holds Tryz.pinned (.plain (OpenSpec.ofChange markRoomSpec)) markRoomCard

/-- THE SECOND FORM's CARD OF 'demesnelaw15.AllocMakes'. -/
def allocMakesUptoCard : Claim7 := { stood := { row := allocMakesUptoRow, standIns := [], harness := (true, "137c2b02f7f97681706eded5cda39c5d21128bf94b1d0406ea35b5b4d4b0676a"), looks := false }, kinds := [], alts := [], laidByText := true, laidKinds := [.data], laidTests := true, laidLooks := .later }
def AllocMakesUptoCardSaid : Prop := Claim7.holds Tryz.pinned (.plain (OpenSpec.upto allocMakesSpec)) allocMakesUptoCard

/-- THE SECOND FORM's CARD OF 'demesnelaw18.MarkTells'. -/
def markTellsUptoCard : Claim7 := { stood := { row := markTellsUptoRow, standIns := [], harness := (true, "137c2b02f7f97681706eded5cda39c5d21128bf94b1d0406ea35b5b4d4b0676a"), looks := false }, kinds := [], alts := [], laidByText := true, laidKinds := [.data], laidTests := true, laidLooks := .later }
def MarkTellsUptoCardSaid : Prop := Claim7.holds Tryz.pinned (.plain (OpenSpec.upto markTellsSpec)) markTellsUptoCard

/-- THE SECOND FORM's CARD OF 'demesnelaw18.MarkNil'. -/
def markNilUptoCard : Claim7 := { stood := { row := markNilUptoRow, standIns := [], harness := (true, "137c2b02f7f97681706eded5cda39c5d21128bf94b1d0406ea35b5b4d4b0676a"), looks := false }, kinds := [], alts := [], laidByText := true, laidKinds := [.data], laidTests := true, laidLooks := .later }
def MarkNilUptoCardSaid : Prop := Claim7.holds Tryz.pinned (.plain (OpenSpec.upto markNilSpec)) markNilUptoCard

/-- THE SECOND FORM's CARD OF 'demesnelaw18.MarkRoom'. -/
def markRoomUptoCard : Claim7 := { stood := { row := markRoomUptoRow, standIns := [], harness := (true, "137c2b02f7f97681706eded5cda39c5d21128bf94b1d0406ea35b5b4d4b0676a"), looks := false }, kinds := [], alts := [], laidByText := true, laidKinds := [.data], laidTests := true, laidLooks := .later }
def MarkRoomUptoCardSaid : Prop := Claim7.holds Tryz.pinned (.plain (OpenSpec.upto markRoomSpec)) markRoomUptoCard
end Rows
end Go.Proofs.YtbpgkocbfleajaaGreatDoor
