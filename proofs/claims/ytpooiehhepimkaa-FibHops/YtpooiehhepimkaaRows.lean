/-
  No cell of these rows narrows 'for every input' (looked for: loops, veiled, ifaces, maps, wideKeys, modest, calm, conditions, laid).
  DERIVED. THE GIVEN ROWS OF THIS SEAT. 4 by the template 'for every input the law returns true; each argument reads behind the call as it read before'; 0 by the template 'total and deterministic' (their statements: YtpooiehhepimkaaTotals.lean).
  GIVEN WITH THE SEED: the statements are not yours to turn. If you find one false, say at which input.
  Laid BY PROGRAM, IN A SANDBOX (cutbox-rows.mjs): the forced cells as the released guide's own fill.sh prints them over the translation c1672d8c3b9ed5ba… (all of the seat's roots in one cut). By AI agents, Wed Nov 11 2026. No macro, syntax, notation, axiom, sorry.
-/
import Derived.Test.YtpooiehhepimkaaChecked
import GoSem.Claim
import GoSem.ClaimJoined
import GoSem.ClaimMapViews
import Derived.JoinedTies
import Derived.KernelRfl
namespace Go.Proofs.Ytpooiehhepimkaa
/- THE CELL 'sum', in the pinned program and in every row, IS THE sha256 OF THE DUMP (.gsa) THAT YtpooiehhepimkaaProg.lean LOADS. Nothing in Lean hashes anything: it is a label: what it is worth is what the hold of that sum in a sandbox is worth. -/
noncomputable def Try.pinned : Pinned := { name := "ytpooiehhepimkaa", sum := "c1672d8c3b9ed5ba9570af9c74506dc4d8b8b54fdfed25bd1a2ff9667af25dbc", checked := Try.checked }
namespace Rows
def none {H : Type} : Left H := { results := [], args := [] }

/-- 'spoorlaw17.FibHops': WHATEVER THE INPUT: true; the input reads as it did. -/
def fibHopsSpec : ChangeSpec := { name := "fibHops", fn := fun _ => fun
  | [d1, d2, d3] => { results := [.lit (.bool true)], args := [d1, d2, d3] }
  | _ => none }
def fibHopsRow : OpenClaim := { program := "ytpooiehhepimkaa", sum := "c1672d8c3b9ed5ba9570af9c74506dc4d8b8b54fdfed25bd1a2ff9667af25dbc", func := "spoor/spoorlaw17.FibHops", spec := "fibHops", inPlace := ["slices.overlaps[spoor/api.Link]"], unfollowed := true, recurses := true, apart := false }
def FibHopsSaid : Prop := fibHopsRow.holds Try.pinned (OpenSpec.ofChange fibHopsSpec)

/-- ITS FALSE NEIGHBOUR: 'it returns false'. Refute it at one input. -/
def fibHopsWrong : ChangeSpec := { name := "fibHops", fn := fun _ => fun
  | [d1, d2, d3] => { results := [.lit (.bool false)], args := [d1, d2, d3] }
  | _ => none }
def FibHopsWrongFalsely : Prop := fibHopsRow.holds Try.pinned (OpenSpec.ofChange fibHopsWrong)

/-- 'spoorlaw17.FibRight': WHATEVER THE INPUT: true; the input reads as it did. -/
def fibRightSpec : ChangeSpec := { name := "fibRight", fn := fun _ => fun
  | [d1, d2] => { results := [.lit (.bool true)], args := [d1, d2] }
  | _ => none }
def fibRightRow : OpenClaim := { program := "ytpooiehhepimkaa", sum := "c1672d8c3b9ed5ba9570af9c74506dc4d8b8b54fdfed25bd1a2ff9667af25dbc", func := "spoor/spoorlaw17.FibRight", spec := "fibRight", inPlace := ["slices.overlaps[spoor/api.Link]"], unfollowed := true, recurses := true, apart := false }
def FibRightSaid : Prop := fibRightRow.holds Try.pinned (OpenSpec.ofChange fibRightSpec)

/-- ITS FALSE NEIGHBOUR: 'it returns false'. Refute it at one input. -/
def fibRightWrong : ChangeSpec := { name := "fibRight", fn := fun _ => fun
  | [d1, d2] => { results := [.lit (.bool false)], args := [d1, d2] }
  | _ => none }
def FibRightWrongFalsely : Prop := fibRightRow.holds Try.pinned (OpenSpec.ofChange fibRightWrong)

/-- 'spoorlaw17.FibEnded': WHATEVER THE INPUT: true; the input reads as it did. -/
def fibEndedSpec : ChangeSpec := { name := "fibEnded", fn := fun _ => fun
  | [d1, d2, d3] => { results := [.lit (.bool true)], args := [d1, d2, d3] }
  | _ => none }
def fibEndedRow : OpenClaim := { program := "ytpooiehhepimkaa", sum := "c1672d8c3b9ed5ba9570af9c74506dc4d8b8b54fdfed25bd1a2ff9667af25dbc", func := "spoor/spoorlaw17.FibEnded", spec := "fibEnded", inPlace := ["slices.overlaps[spoor/api.Link]"], unfollowed := true, recurses := true, apart := false }
def FibEndedSaid : Prop := fibEndedRow.holds Try.pinned (OpenSpec.ofChange fibEndedSpec)

/-- ITS FALSE NEIGHBOUR: 'it returns false'. Refute it at one input. -/
def fibEndedWrong : ChangeSpec := { name := "fibEnded", fn := fun _ => fun
  | [d1, d2, d3] => { results := [.lit (.bool false)], args := [d1, d2, d3] }
  | _ => none }
def FibEndedWrongFalsely : Prop := fibEndedRow.holds Try.pinned (OpenSpec.ofChange fibEndedWrong)

/-- 'spoorlaw17.FibBack': WHATEVER THE INPUT: true; the input reads as it did. -/
def fibBackSpec : ChangeSpec := { name := "fibBack", fn := fun _ => fun
  | [d1, d2, d3, d4] => { results := [.lit (.bool true)], args := [d1, d2, d3, d4] }
  | _ => none }
def fibBackRow : OpenClaim := { program := "ytpooiehhepimkaa", sum := "c1672d8c3b9ed5ba9570af9c74506dc4d8b8b54fdfed25bd1a2ff9667af25dbc", func := "spoor/spoorlaw17.FibBack", spec := "fibBack", inPlace := ["slices.overlaps[spoor/api.Link]"], unfollowed := true, recurses := true, apart := false }
def FibBackSaid : Prop := fibBackRow.holds Try.pinned (OpenSpec.ofChange fibBackSpec)

/-- ITS FALSE NEIGHBOUR: 'it returns false'. Refute it at one input. -/
def fibBackWrong : ChangeSpec := { name := "fibBack", fn := fun _ => fun
  | [d1, d2, d3, d4] => { results := [.lit (.bool false)], args := [d1, d2, d3, d4] }
  | _ => none }
def FibBackWrongFalsely : Prop := fibBackRow.holds Try.pinned (OpenSpec.ofChange fibBackWrong)

/- THE SECOND FORM. 'bulk': how many values and letters a reading holds, each counted each time it is reached (what is shared counts as often as it is met; a slice's spare places count too). A statement '..UptoSaid' is the law's where the arguments, and the package variables that the reading takes, are together of bulk at most 1048576: NARROWER than '..Said'. Prove '..Said' where nothing that the law and all that it calls make is longer than what came in: it says more and counts as full. Else prove '..UptoSaid'. A law counts once. -/
mutual
def uptoBulk {H : Type} : DataW H → Nat
  | .lit (.string bytes) => bytes.length + 1
  | .lit _ => 1
  | .nil => 1
  | .ptr d => uptoBulk d + 1
  | .slice elems spare => uptoBulkAll elems + uptoBulkAll spare + 1
  | .agg parts => uptoBulkAll parts + 1
  | .iface _ d => uptoBulk d + 1
  | .map entries => uptoBulkEntries entries + 1
  | .held _ => 1
def uptoBulkAll {H : Type} : List (DataW H) → Nat
  | [] => 0
  | d :: r => uptoBulk d + uptoBulkAll r
def uptoBulkEntries {H : Type} : List (Lit × DataW H) → Nat
  | [] => 0
  | x :: r => uptoBulkEntry x + uptoBulkEntries r
def uptoBulkEntry {H : Type} : Lit × DataW H → Nat
  | (.string bytes, d) => bytes.length + uptoBulk d + 1
  | (_, d) => uptoBulk d + 1
 end
def uptoSmall : (H : Type) → List (DataW H) → Bool := fun _ ds => decide (uptoBulkAll ds ≤ 1048576)
def OpenSpec.upto (s : _root_.Go.ChangeSpec) : _root_.Go.OpenSpec := { _root_.Go.OpenSpec.ofChange s with cond := some uptoSmall }

/-- 'spoorlaw17.FibHops', WHERE WHAT IT READS IS OF BULK AT MOST 1048576: true; the input reads as it did. -/
def fibHopsUptoRow : OpenClaim := { program := "ytpooiehhepimkaa", sum := "c1672d8c3b9ed5ba9570af9c74506dc4d8b8b54fdfed25bd1a2ff9667af25dbc", func := "spoor/spoorlaw17.FibHops", spec := "fibHops", inPlace := ["slices.overlaps[spoor/api.Link]"], unfollowed := true, recurses := true, apart := false, narrowed := true }
def FibHopsUptoSaid : Prop := fibHopsUptoRow.holds Try.pinned (OpenSpec.upto fibHopsSpec)

/-- 'spoorlaw17.FibRight', WHERE WHAT IT READS IS OF BULK AT MOST 1048576: true; the input reads as it did. -/
def fibRightUptoRow : OpenClaim := { program := "ytpooiehhepimkaa", sum := "c1672d8c3b9ed5ba9570af9c74506dc4d8b8b54fdfed25bd1a2ff9667af25dbc", func := "spoor/spoorlaw17.FibRight", spec := "fibRight", inPlace := ["slices.overlaps[spoor/api.Link]"], unfollowed := true, recurses := true, apart := false, narrowed := true }
def FibRightUptoSaid : Prop := fibRightUptoRow.holds Try.pinned (OpenSpec.upto fibRightSpec)

/-- 'spoorlaw17.FibEnded', WHERE WHAT IT READS IS OF BULK AT MOST 1048576: true; the input reads as it did. -/
def fibEndedUptoRow : OpenClaim := { program := "ytpooiehhepimkaa", sum := "c1672d8c3b9ed5ba9570af9c74506dc4d8b8b54fdfed25bd1a2ff9667af25dbc", func := "spoor/spoorlaw17.FibEnded", spec := "fibEnded", inPlace := ["slices.overlaps[spoor/api.Link]"], unfollowed := true, recurses := true, apart := false, narrowed := true }
def FibEndedUptoSaid : Prop := fibEndedUptoRow.holds Try.pinned (OpenSpec.upto fibEndedSpec)

/-- 'spoorlaw17.FibBack', WHERE WHAT IT READS IS OF BULK AT MOST 1048576: true; the input reads as it did. -/
def fibBackUptoRow : OpenClaim := { program := "ytpooiehhepimkaa", sum := "c1672d8c3b9ed5ba9570af9c74506dc4d8b8b54fdfed25bd1a2ff9667af25dbc", func := "spoor/spoorlaw17.FibBack", spec := "fibBack", inPlace := ["slices.overlaps[spoor/api.Link]"], unfollowed := true, recurses := true, apart := false, narrowed := true }
def FibBackUptoSaid : Prop := fibBackUptoRow.holds Try.pinned (OpenSpec.upto fibBackSpec)

end Rows
end Go.Proofs.Ytpooiehhepimkaa
