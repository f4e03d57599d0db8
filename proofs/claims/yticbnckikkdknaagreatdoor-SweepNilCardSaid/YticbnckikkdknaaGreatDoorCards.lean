/-
  DERIVED. GIVEN WITH THE SEED: THE CARDS: each row of YticbnckikkdknaaGreatDoorRows.lean that lists a variable, with what it lists TIED to the program's text (the seventh form; the later family's looks); each row that meets fmt, with fmt's text TOLD by the authors' own Lean function (tested against real Go, not proved from fmt's source: count such statements apart). THE CARD IS WHAT COUNTS. Prove the row's statement (the work); the ties are given (YticbnckikkdknaaGreatDoorTie.lean); close each card by the builder's one call (the guide's Derived/Test/ToyasCard.lean, 'card_holds'). Laid BY PROGRAM, IN A SANDBOX (cutbox-door.mjs). By AI agents, Wed Nov 11 2026. No macro, syntax, notation, axiom, sorry.
-/
import Derived.Test.YticbnckikkdknaaGreatDoorRows
import GoSem.ClaimSeven
namespace Go.Proofs.YticbnckikkdknaaGreatDoor
namespace Rows

/-- THE TIED CARD OF 'demesnelaw18.MarkRoom'. -/
def markRoomCard : Claim7 := { stood := { row := markRoomRow, standIns := [], harness := (true, "cc3f5187463bb1e796f5366d999fd73808e02b4683ba6b94adfb85f8909df9c9"), looks := false }, kinds := [], alts := [], laidByText := true, laidKinds := [.data], laidTests := true, laidLooks := .later }
def MarkRoomCardSaid : Prop := Claim7.holds Tryz.pinned (.plain (OpenSpec.ofChange markRoomSpec)) markRoomCard

/-- THE TIED CARD OF 'demesnelaw19.SweepTells'. -/
def sweepTellsCard : Claim7 := { stood := { row := sweepTellsRow, standIns := [], harness := (true, "cc3f5187463bb1e796f5366d999fd73808e02b4683ba6b94adfb85f8909df9c9"), looks := false }, kinds := [], alts := [], laidByText := true, laidKinds := [.data], laidTests := true, laidLooks := .later }
def SweepTellsCardSaid : Prop := Claim7.holds Tryz.pinned (.plain (OpenSpec.ofChange sweepTellsSpec)) sweepTellsCard

/-- THE TIED CARD OF 'demesnelaw19.SweepNil'. -/
def sweepNilCard : Claim7 := { stood := { row := sweepNilRow, standIns := [], harness := (true, "cc3f5187463bb1e796f5366d999fd73808e02b4683ba6b94adfb85f8909df9c9"), looks := false }, kinds := [], alts := [], laidByText := true, laidKinds := [.data], laidTests := true, laidLooks := .later }
def SweepNilCardSaid : Prop := Claim7.holds Tryz.pinned (.plain (OpenSpec.ofChange sweepNilSpec)) sweepNilCard

/-- THE SECOND FORM's CARD OF 'demesnelaw18.MarkRoom'. -/
def markRoomUptoCard : Claim7 := { stood := { row := markRoomUptoRow, standIns := [], harness := (true, "cc3f5187463bb1e796f5366d999fd73808e02b4683ba6b94adfb85f8909df9c9"), looks := false }, kinds := [], alts := [], laidByText := true, laidKinds := [.data], laidTests := true, laidLooks := .later }
def MarkRoomUptoCardSaid : Prop := Claim7.holds Tryz.pinned (.plain (OpenSpec.upto markRoomSpec)) markRoomUptoCard

/-- THE SECOND FORM's CARD OF 'demesnelaw19.SweepTells'. -/
def sweepTellsUptoCard : Claim7 := { stood := { row := sweepTellsUptoRow, standIns := [], harness := (true, "cc3f5187463bb1e796f5366d999fd73808e02b4683ba6b94adfb85f8909df9c9"), looks := false }, kinds := [], alts := [], laidByText := true, laidKinds := [.data], laidTests := true, laidLooks := .later }
def SweepTellsUptoCardSaid : Prop := Claim7.holds Tryz.pinned (.plain (OpenSpec.upto sweepTellsSpec)) sweepTellsUptoCard

/-- THE SECOND FORM's CARD OF 'demesnelaw19.SweepNil'. -/
def sweepNilUptoCard : Claim7 := { stood := { row := sweepNilUptoRow, standIns := [], harness := (true, "cc3f5187463bb1e796f5366d999fd73808e02b4683ba6b94adfb85f8909df9c9"), looks := false }, kinds := [], alts := [], laidByText := true, laidKinds := [.data], laidTests := true, laidLooks := .later }
def SweepNilUptoCardSaid : Prop := Claim7.holds Tryz.pinned (.plain (OpenSpec.upto sweepNilSpec)) sweepNilUptoCard
end Rows
end Go.Proofs.YticbnckikkdknaaGreatDoor
