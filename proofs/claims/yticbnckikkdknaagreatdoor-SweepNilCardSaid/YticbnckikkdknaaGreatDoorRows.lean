/-
  NARROWER THAN 'FOR EVERY INPUT', by the rows' own cells (each row's printed sentence says how): MarkRoom: laid · SweepTells: laid · SweepNil: laid.
  DERIVED. THE GIVEN ROWS OF THIS SEAT. 3 by the template 'for every input the law returns true; each argument reads behind the call as it read before'; 0 by the template 'total and deterministic' (their statements: YticbnckikkdknaaGreatDoorTotals.lean).
  GIVEN WITH THE SEED: the statements are not yours to turn. If you find one false, say at which input.
  Laid BY PROGRAM, IN A SANDBOX (cutbox-rows.mjs): the forced cells as the released guide's own fill.sh prints them over the translation 76982b8b52f29e3b… (all of the seat's roots in one cut). By AI agents, Wed Nov 11 2026. No macro, syntax, notation, axiom, sorry.
-/
import Derived.Test.YticbnckikkdknaaGreatDoorChecked
import GoSem.Claim
import GoSem.ClaimJoined
import GoSem.ClaimMapViews
import Derived.JoinedTies
import Derived.KernelRfl
namespace Go.Proofs.YticbnckikkdknaaGreatDoor
/- THE CELL 'sum', in the pinned program and in every row, IS THE sha256 OF THE DUMP (.gsa) THAT YticbnckikkdknaaGreatDoorProg.lean LOADS. Nothing in Lean hashes anything: it is a label: what it is worth is what the hold of that sum in a sandbox is worth. -/
noncomputable def Tryz.pinned : Pinned := { name := "yticbnckikkdknaagreatdoor", sum := "76982b8b52f29e3b67a9ee93604f38259adc8aac664519a9cbc293a1257cdbe9", checked := Tryz.checked }
namespace Rows
def none {H : Type} : Left H := { results := [], args := [] }

/- WHAT THE LISTED PACKAGE-LEVEL VARIABLES READ AS WHEN THE CALL BEGINS. Each datum BY PROGRAM (the guide's laid-datum.mjs) off the statement by which the dump's own 'gosem.cut.vars' lays the variable. In a bare row this is a premise. The card (YticbnckikkdknaaGreatDoorCards.lean) ties it to the program's text. -/
def laid_demesne_class_rooms {H : Type} : DataW H := .agg [.lit (.int .i64 1), .lit (.int .i64 2), .lit (.int .i64 4), .lit (.int .i64 8)]

/-- 'demesnelaw18.MarkRoom': WHATEVER THE INPUT: true; the input reads as it did. -/
def markRoomSpec : ChangeSpec := { name := "markRoom", fn := fun _ => fun
  | [d1, d2, d3, d4, d5, d6, d7] => { results := [.lit (.bool true)], args := [d1, d2, d3, d4, d5, d6, d7] }
  | _ => none }
def markRoomRow : OpenClaim := { program := "yticbnckikkdknaagreatdoor", sum := "76982b8b52f29e3b67a9ee93604f38259adc8aac664519a9cbc293a1257cdbe9", func := "demesne/demesnelaw18.MarkRoom", spec := "markRoom", unfollowed := true, recurses := true, named := ["demesne/class.rooms"], apart := false, laid := [("demesne/class.rooms", laid_demesne_class_rooms)] }
def MarkRoomSaid : Prop := markRoomRow.holds Tryz.pinned (OpenSpec.ofChange markRoomSpec)

/-- ITS FALSE NEIGHBOUR: 'it returns false'. Refute it at one input. -/
def markRoomWrong : ChangeSpec := { name := "markRoom", fn := fun _ => fun
  | [d1, d2, d3, d4, d5, d6, d7] => { results := [.lit (.bool false)], args := [d1, d2, d3, d4, d5, d6, d7] }
  | _ => none }
def MarkRoomWrongFalsely : Prop := markRoomRow.holds Tryz.pinned (OpenSpec.ofChange markRoomWrong)

/-- 'demesnelaw19.SweepTells': WHATEVER THE INPUT: true; the input reads as it did. -/
def sweepTellsSpec : ChangeSpec := { name := "sweepTells", fn := fun _ => fun
  | [d1, d2, d3, d4, d5, d6, d7] => { results := [.lit (.bool true)], args := [d1, d2, d3, d4, d5, d6, d7] }
  | _ => none }
def sweepTellsRow : OpenClaim := { program := "yticbnckikkdknaagreatdoor", sum := "76982b8b52f29e3b67a9ee93604f38259adc8aac664519a9cbc293a1257cdbe9", func := "demesne/demesnelaw19.SweepTells", spec := "sweepTells", unfollowed := true, recurses := true, named := ["demesne/class.rooms"], apart := false, laid := [("demesne/class.rooms", laid_demesne_class_rooms)] }
def SweepTellsSaid : Prop := sweepTellsRow.holds Tryz.pinned (OpenSpec.ofChange sweepTellsSpec)

/-- ITS FALSE NEIGHBOUR: 'it returns false'. Refute it at one input. -/
def sweepTellsWrong : ChangeSpec := { name := "sweepTells", fn := fun _ => fun
  | [d1, d2, d3, d4, d5, d6, d7] => { results := [.lit (.bool false)], args := [d1, d2, d3, d4, d5, d6, d7] }
  | _ => none }
def SweepTellsWrongFalsely : Prop := sweepTellsRow.holds Tryz.pinned (OpenSpec.ofChange sweepTellsWrong)

/-- 'demesnelaw19.SweepNil': WHATEVER THE INPUT: true; the input reads as it did. -/
def sweepNilSpec : ChangeSpec := { name := "sweepNil", fn := fun _ => fun
  | [d1, d2] => { results := [.lit (.bool true)], args := [d1, d2] }
  | _ => none }
def sweepNilRow : OpenClaim := { program := "yticbnckikkdknaagreatdoor", sum := "76982b8b52f29e3b67a9ee93604f38259adc8aac664519a9cbc293a1257cdbe9", func := "demesne/demesnelaw19.SweepNil", spec := "sweepNil", unfollowed := true, recurses := true, named := ["demesne/class.rooms"], apart := false, laid := [("demesne/class.rooms", laid_demesne_class_rooms)] }
def SweepNilSaid : Prop := sweepNilRow.holds Tryz.pinned (OpenSpec.ofChange sweepNilSpec)

/-- ITS FALSE NEIGHBOUR: 'it returns false'. Refute it at one input. -/
def sweepNilWrong : ChangeSpec := { name := "sweepNil", fn := fun _ => fun
  | [d1, d2] => { results := [.lit (.bool false)], args := [d1, d2] }
  | _ => none }
def SweepNilWrongFalsely : Prop := sweepNilRow.holds Tryz.pinned (OpenSpec.ofChange sweepNilWrong)

/- THE SECOND FORM. 'bulk': how many values and letters a reading holds, each counted each time it is reached (what is shared counts as often as it is met; a slice's spare places count too). A statement '..UptoSaid' is the law's where the arguments, and the package variables that the reading takes, are together of bulk at most 1048576: NARROWER than '..Said'. Prove '..Said' where nothing that the law and all that it calls make is longer than what came in: it says more and counts as full. Else prove '..UptoSaid'. A law counts once. -/
mutual
def uptoBulk {H : Type} : DataW H → Nat
  | .lit (.string bytes) => bytes.length + 1
  | .lit _ => 1
  | .nil => 1
  | .ptr d => uptoBulk d + 1
  | .slice elems spare => uptoBulkAll elems + uptoBulkAll spare + 1
  | .agg parts => uptoBulkAll parts + 1
  | .iface _ d => uptoBulk d + 1
  | .map entries => uptoBulkEntries entries + 1
  | .held _ => 1
def uptoBulkAll {H : Type} : List (DataW H) → Nat
  | [] => 0
  | d :: r => uptoBulk d + uptoBulkAll r
def uptoBulkEntries {H : Type} : List (Lit × DataW H) → Nat
  | [] => 0
  | x :: r => uptoBulkEntry x + uptoBulkEntries r
def uptoBulkEntry {H : Type} : Lit × DataW H → Nat
  | (.string bytes, d) => bytes.length + uptoBulk d + 1
  | (_, d) => uptoBulk d + 1
 end
def uptoSmall : (H : Type) → List (DataW H) → Bool := fun _ ds => decide (uptoBulkAll ds ≤ 1048576)
def OpenSpec.upto (s : _root_.Go.ChangeSpec) : _root_.Go.OpenSpec := { _root_.Go.OpenSpec.ofChange s with cond := some uptoSmall }

/-- 'demesnelaw18.MarkRoom', WHERE WHAT IT READS IS OF BULK AT MOST 1048576: true; the input reads as it did. -/
def markRoomUptoRow : OpenClaim := { program := "yticbnckikkdknaagreatdoor", sum := "76982b8b52f29e3b67a9ee93604f38259adc8aac664519a9cbc293a1257cdbe9", func := "demesne/demesnelaw18.MarkRoom", spec := "markRoom", unfollowed := true, recurses := true, named := ["demesne/class.rooms"], apart := false, laid := [("demesne/class.rooms", laid_demesne_class_rooms)], narrowed := true }
def MarkRoomUptoSaid : Prop := markRoomUptoRow.holds Tryz.pinned (OpenSpec.upto markRoomSpec)

/-- 'demesnelaw19.SweepTells', WHERE WHAT IT READS IS OF BULK AT MOST 1048576: true; the input reads as it did. -/
def sweepTellsUptoRow : OpenClaim := { program := "yticbnckikkdknaagreatdoor", sum := "76982b8b52f29e3b67a9ee93604f38259adc8aac664519a9cbc293a1257cdbe9", func := "demesne/demesnelaw19.SweepTells", spec := "sweepTells", unfollowed := true, recurses := true, named := ["demesne/class.rooms"], apart := false, laid := [("demesne/class.rooms", laid_demesne_class_rooms)], narrowed := true }
def SweepTellsUptoSaid : Prop := sweepTellsUptoRow.holds Tryz.pinned (OpenSpec.upto sweepTellsSpec)

/-- 'demesnelaw19.SweepNil', WHERE WHAT IT READS IS OF BULK AT MOST 1048576: true; the input reads as it did. -/
def sweepNilUptoRow : OpenClaim := { program := "yticbnckikkdknaagreatdoor", sum := "76982b8b52f29e3b67a9ee93604f38259adc8aac664519a9cbc293a1257cdbe9", func := "demesne/demesnelaw19.SweepNil", spec := "sweepNil", unfollowed := true, recurses := true, named := ["demesne/class.rooms"], apart := false, laid := [("demesne/class.rooms", laid_demesne_class_rooms)], narrowed := true }
def SweepNilUptoSaid : Prop := sweepNilUptoRow.holds Tryz.pinned (OpenSpec.upto sweepNilSpec)

end Rows
end Go.Proofs.YticbnckikkdknaaGreatDoor
