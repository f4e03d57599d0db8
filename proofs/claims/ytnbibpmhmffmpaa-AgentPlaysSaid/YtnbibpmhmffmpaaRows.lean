/-
  No cell of these rows narrows 'for every input' (looked for: loops, veiled, ifaces, maps, wideKeys, modest, calm, conditions, laid).
  DERIVED. THE GIVEN ROWS OF THIS SEAT. 5 by the template 'for every input the law returns true; each argument reads behind the call as it read before'; 0 by the template 'total and deterministic' (their statements: YtnbibpmhmffmpaaTotals.lean).
  GIVEN WITH THE SEED: the statements are not yours to turn. If you find one false, say at which input.
  Laid BY PROGRAM, IN A SANDBOX (cutbox-rows.mjs): the forced cells as the released guide's own fill.sh prints them over the translation 4852d8501ea95e3f… (all of the seat's roots in one cut). By AI agents, Wed Nov 11 2026. No macro, syntax, notation, axiom, sorry.
-/
import Derived.Test.YtnbibpmhmffmpaaChecked
import GoSem.Claim
import GoSem.ClaimJoined
import GoSem.ClaimMapViews
import Derived.JoinedTies
import Derived.KernelRfl
namespace Go.Proofs.Ytnbibpmhmffmpaa
/- THE CELL 'sum', in the pinned program and in every row, IS THE sha256 OF THE DUMP (.gsa) THAT YtnbibpmhmffmpaaProg.lean LOADS. Nothing in Lean hashes anything: it is a label: what it is worth is what the hold of that sum in a sandbox is worth. -/
noncomputable def Try.pinned : Pinned := { name := "ytnbibpmhmffmpaa", sum := "4852d8501ea95e3fa1e0dafd77c41b8c315426e493760405b36e1b87cce83bad", checked := Try.checked }
namespace Rows
def none {H : Type} : Left H := { results := [], args := [] }

/-- 'demesnelaw12.AgentPlays': WHATEVER THE INPUT: true; the input reads as it did. -/
def agentPlaysSpec : ChangeSpec := { name := "agentPlays", fn := fun _ => fun
  | [d1, d2, d3] => { results := [.lit (.bool true)], args := [d1, d2, d3] }
  | _ => none }
def agentPlaysRow : OpenClaim := { program := "ytnbibpmhmffmpaa", sum := "4852d8501ea95e3fa1e0dafd77c41b8c315426e493760405b36e1b87cce83bad", func := "demesne/demesnelaw12.AgentPlays", spec := "agentPlays", unfollowed := true, recurses := true, leaving := true, apart := false }
def AgentPlaysSaid : Prop := agentPlaysRow.holds Try.pinned (OpenSpec.ofChange agentPlaysSpec)

/-- ITS FALSE NEIGHBOUR: 'it returns false'. Refute it at one input. -/
def agentPlaysWrong : ChangeSpec := { name := "agentPlays", fn := fun _ => fun
  | [d1, d2, d3] => { results := [.lit (.bool false)], args := [d1, d2, d3] }
  | _ => none }
def AgentPlaysWrongFalsely : Prop := agentPlaysRow.holds Try.pinned (OpenSpec.ofChange agentPlaysWrong)

/-- 'demesnelaw12.AgentNil': WHATEVER THE INPUT: true; the input reads as it did. -/
def agentNilSpec : ChangeSpec := { name := "agentNil", fn := fun _ => fun
  | [d] => { results := [.lit (.bool true)], args := [d] }
  | _ => none }
def agentNilRow : OpenClaim := { program := "ytnbibpmhmffmpaa", sum := "4852d8501ea95e3fa1e0dafd77c41b8c315426e493760405b36e1b87cce83bad", func := "demesne/demesnelaw12.AgentNil", spec := "agentNil", unfollowed := true, recurses := true, leaving := true, apart := false }
def AgentNilSaid : Prop := agentNilRow.holds Try.pinned (OpenSpec.ofChange agentNilSpec)

/-- ITS FALSE NEIGHBOUR: 'it returns false'. Refute it at one input. -/
def agentNilWrong : ChangeSpec := { name := "agentNil", fn := fun _ => fun
  | [d] => { results := [.lit (.bool false)], args := [d] }
  | _ => none }
def AgentNilWrongFalsely : Prop := agentNilRow.holds Try.pinned (OpenSpec.ofChange agentNilWrong)

/-- 'demesnelaw13.ShadeOnce': WHATEVER THE INPUT: true; the input reads as it did. -/
def shadeOnceSpec : ChangeSpec := { name := "shadeOnce", fn := fun _ => fun
  | [d1, d2, d3, d4] => { results := [.lit (.bool true)], args := [d1, d2, d3, d4] }
  | _ => none }
def shadeOnceRow : OpenClaim := { program := "ytnbibpmhmffmpaa", sum := "4852d8501ea95e3fa1e0dafd77c41b8c315426e493760405b36e1b87cce83bad", func := "demesne/demesnelaw13.ShadeOnce", spec := "shadeOnce", unfollowed := true, recurses := true, leaving := true, apart := false }
def ShadeOnceSaid : Prop := shadeOnceRow.holds Try.pinned (OpenSpec.ofChange shadeOnceSpec)

/-- ITS FALSE NEIGHBOUR: 'it returns false'. Refute it at one input. -/
def shadeOnceWrong : ChangeSpec := { name := "shadeOnce", fn := fun _ => fun
  | [d1, d2, d3, d4] => { results := [.lit (.bool false)], args := [d1, d2, d3, d4] }
  | _ => none }
def ShadeOnceWrongFalsely : Prop := shadeOnceRow.holds Try.pinned (OpenSpec.ofChange shadeOnceWrong)

/-- 'demesnelaw14.GiveOnce': WHATEVER THE INPUT: true; the input reads as it did. -/
def giveOnceSpec : ChangeSpec := { name := "giveOnce", fn := fun _ => fun
  | [d1, d2, d3] => { results := [.lit (.bool true)], args := [d1, d2, d3] }
  | _ => none }
def giveOnceRow : OpenClaim := { program := "ytnbibpmhmffmpaa", sum := "4852d8501ea95e3fa1e0dafd77c41b8c315426e493760405b36e1b87cce83bad", func := "demesne/demesnelaw14.GiveOnce", spec := "giveOnce", unfollowed := true, recurses := true, leaving := true, apart := false }
def GiveOnceSaid : Prop := giveOnceRow.holds Try.pinned (OpenSpec.ofChange giveOnceSpec)

/-- ITS FALSE NEIGHBOUR: 'it returns false'. Refute it at one input. -/
def giveOnceWrong : ChangeSpec := { name := "giveOnce", fn := fun _ => fun
  | [d1, d2, d3] => { results := [.lit (.bool false)], args := [d1, d2, d3] }
  | _ => none }
def GiveOnceWrongFalsely : Prop := giveOnceRow.holds Try.pinned (OpenSpec.ofChange giveOnceWrong)

/-- 'demesnelaw16.PublishPends': WHATEVER THE INPUT: true; the input reads as it did. -/
def publishPendsSpec : ChangeSpec := { name := "publishPends", fn := fun _ => fun
  | [d1, d2, d3] => { results := [.lit (.bool true)], args := [d1, d2, d3] }
  | _ => none }
def publishPendsRow : OpenClaim := { program := "ytnbibpmhmffmpaa", sum := "4852d8501ea95e3fa1e0dafd77c41b8c315426e493760405b36e1b87cce83bad", func := "demesne/demesnelaw16.PublishPends", spec := "publishPends", unfollowed := true, recurses := true, leaving := true, apart := false }
def PublishPendsSaid : Prop := publishPendsRow.holds Try.pinned (OpenSpec.ofChange publishPendsSpec)

/-- ITS FALSE NEIGHBOUR: 'it returns false'. Refute it at one input. -/
def publishPendsWrong : ChangeSpec := { name := "publishPends", fn := fun _ => fun
  | [d1, d2, d3] => { results := [.lit (.bool false)], args := [d1, d2, d3] }
  | _ => none }
def PublishPendsWrongFalsely : Prop := publishPendsRow.holds Try.pinned (OpenSpec.ofChange publishPendsWrong)

/- THE SECOND FORM. 'bulk': how many values and letters a reading holds, each counted each time it is reached (what is shared counts as often as it is met; a slice's spare places count too). A statement '..UptoSaid' is the law's where the arguments, and the package variables that the reading takes, are together of bulk at most 1048576: NARROWER than '..Said'. Prove '..Said' where nothing that the law and all that it calls make is longer than what came in: it says more and counts as full. Else prove '..UptoSaid'. A law counts once. -/
mutual
def uptoBulk {H : Type} : DataW H → Nat
  | .lit (.string bytes) => bytes.length + 1
  | .lit _ => 1
  | .nil => 1
  | .ptr d => uptoBulk d + 1
  | .slice elems spare => uptoBulkAll elems + uptoBulkAll spare + 1
  | .agg parts => uptoBulkAll parts + 1
  | .iface _ d => uptoBulk d + 1
  | .map entries => uptoBulkEntries entries + 1
  | .held _ => 1
def uptoBulkAll {H : Type} : List (DataW H) → Nat
  | [] => 0
  | d :: r => uptoBulk d + uptoBulkAll r
def uptoBulkEntries {H : Type} : List (Lit × DataW H) → Nat
  | [] => 0
  | x :: r => uptoBulkEntry x + uptoBulkEntries r
def uptoBulkEntry {H : Type} : Lit × DataW H → Nat
  | (.string bytes, d) => bytes.length + uptoBulk d + 1
  | (_, d) => uptoBulk d + 1
 end
def uptoSmall : (H : Type) → List (DataW H) → Bool := fun _ ds => decide (uptoBulkAll ds ≤ 1048576)
def OpenSpec.upto (s : _root_.Go.ChangeSpec) : _root_.Go.OpenSpec := { _root_.Go.OpenSpec.ofChange s with cond := some uptoSmall }

/-- 'demesnelaw12.AgentPlays', WHERE WHAT IT READS IS OF BULK AT MOST 1048576: true; the input reads as it did. -/
def agentPlaysUptoRow : OpenClaim := { program := "ytnbibpmhmffmpaa", sum := "4852d8501ea95e3fa1e0dafd77c41b8c315426e493760405b36e1b87cce83bad", func := "demesne/demesnelaw12.AgentPlays", spec := "agentPlays", unfollowed := true, recurses := true, leaving := true, apart := false, narrowed := true }
def AgentPlaysUptoSaid : Prop := agentPlaysUptoRow.holds Try.pinned (OpenSpec.upto agentPlaysSpec)

/-- 'demesnelaw12.AgentNil', WHERE WHAT IT READS IS OF BULK AT MOST 1048576: true; the input reads as it did. -/
def agentNilUptoRow : OpenClaim := { program := "ytnbibpmhmffmpaa", sum := "4852d8501ea95e3fa1e0dafd77c41b8c315426e493760405b36e1b87cce83bad", func := "demesne/demesnelaw12.AgentNil", spec := "agentNil", unfollowed := true, recurses := true, leaving := true, apart := false, narrowed := true }
def AgentNilUptoSaid : Prop := agentNilUptoRow.holds Try.pinned (OpenSpec.upto agentNilSpec)

/-- 'demesnelaw13.ShadeOnce', WHERE WHAT IT READS IS OF BULK AT MOST 1048576: true; the input reads as it did. -/
def shadeOnceUptoRow : OpenClaim := { program := "ytnbibpmhmffmpaa", sum := "4852d8501ea95e3fa1e0dafd77c41b8c315426e493760405b36e1b87cce83bad", func := "demesne/demesnelaw13.ShadeOnce", spec := "shadeOnce", unfollowed := true, recurses := true, leaving := true, apart := false, narrowed := true }
def ShadeOnceUptoSaid : Prop := shadeOnceUptoRow.holds Try.pinned (OpenSpec.upto shadeOnceSpec)

/-- 'demesnelaw14.GiveOnce', WHERE WHAT IT READS IS OF BULK AT MOST 1048576: true; the input reads as it did. -/
def giveOnceUptoRow : OpenClaim := { program := "ytnbibpmhmffmpaa", sum := "4852d8501ea95e3fa1e0dafd77c41b8c315426e493760405b36e1b87cce83bad", func := "demesne/demesnelaw14.GiveOnce", spec := "giveOnce", unfollowed := true, recurses := true, leaving := true, apart := false, narrowed := true }
def GiveOnceUptoSaid : Prop := giveOnceUptoRow.holds Try.pinned (OpenSpec.upto giveOnceSpec)

/-- 'demesnelaw16.PublishPends', WHERE WHAT IT READS IS OF BULK AT MOST 1048576: true; the input reads as it did. -/
def publishPendsUptoRow : OpenClaim := { program := "ytnbibpmhmffmpaa", sum := "4852d8501ea95e3fa1e0dafd77c41b8c315426e493760405b36e1b87cce83bad", func := "demesne/demesnelaw16.PublishPends", spec := "publishPends", unfollowed := true, recurses := true, leaving := true, apart := false, narrowed := true }
def PublishPendsUptoSaid : Prop := publishPendsUptoRow.holds Try.pinned (OpenSpec.upto publishPendsSpec)

end Rows
end Go.Proofs.Ytnbibpmhmffmpaa
