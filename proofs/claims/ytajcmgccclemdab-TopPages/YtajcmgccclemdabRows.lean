/-
  No cell of these rows narrows 'for every input' (looked for: loops, veiled, ifaces, maps, wideKeys, modest, calm, conditions, laid).
  DERIVED. THE GIVEN ROWS OF THIS SEAT. 4 by the template 'for every input the law returns true; each argument reads behind the call as it read before'; 0 by the template 'total and deterministic' (their statements: YtajcmgccclemdabTotals.lean).
  GIVEN WITH THE SEED: the statements are not yours to turn. If you find one false, say at which input.
  Laid BY PROGRAM, IN A SANDBOX (cutbox-rows.mjs): the forced cells as the released guide's own fill.sh prints them over the translation 76461843b1ce5434… (all of the seat's roots in one cut). By AI agents, Wed Nov 11 2026. No macro, syntax, notation, axiom, sorry.
-/
import Derived.Test.YtajcmgccclemdabChecked
import GoSem.Claim
import GoSem.ClaimJoined
import GoSem.ClaimMapViews
import Derived.JoinedTies
import Derived.KernelRfl
namespace Go.Proofs.Ytajcmgccclemdab
/- THE CELL 'sum', in the pinned program and in every row, IS THE sha256 OF THE DUMP (.gsa) THAT YtajcmgccclemdabProg.lean LOADS. Nothing in Lean hashes anything: it is a label: what it is worth is what the hold of that sum in a sandbox is worth. -/
noncomputable def Try.pinned : Pinned := { name := "ytajcmgccclemdab", sum := "76461843b1ce5434557bedb79879eeab36ecb1dfd3af2b6bab234befd6e524d9", checked := Try.checked }
namespace Rows
def none {H : Type} : Left H := { results := [], args := [] }

/-- 'spoorlaw07.SegmentAnew': WHATEVER THE INPUT: true; the input reads as it did. -/
def segmentAnewSpec : ChangeSpec := { name := "segmentAnew", fn := fun _ => fun
  | [d1, d2, d3, d4, d5, d6] => { results := [.lit (.bool true)], args := [d1, d2, d3, d4, d5, d6] }
  | _ => none }
def segmentAnewRow : OpenClaim := { program := "ytajcmgccclemdab", sum := "76461843b1ce5434557bedb79879eeab36ecb1dfd3af2b6bab234befd6e524d9", func := "spoor/spoorlaw07.SegmentAnew", spec := "segmentAnew", inPlace := ["internal/abi.NoEscape"], unfollowed := true, recurses := true, apart := false }
def SegmentAnewSaid : Prop := segmentAnewRow.holds Try.pinned (OpenSpec.ofChange segmentAnewSpec)

/-- ITS FALSE NEIGHBOUR: 'it returns false'. Refute it at one input. -/
def segmentAnewWrong : ChangeSpec := { name := "segmentAnew", fn := fun _ => fun
  | [d1, d2, d3, d4, d5, d6] => { results := [.lit (.bool false)], args := [d1, d2, d3, d4, d5, d6] }
  | _ => none }
def SegmentAnewWrongFalsely : Prop := segmentAnewRow.holds Try.pinned (OpenSpec.ofChange segmentAnewWrong)

/-- 'spoorlaw07.SegmentApart': WHATEVER THE INPUT: true; the input reads as it did. -/
def segmentApartSpec : ChangeSpec := { name := "segmentApart", fn := fun _ => fun
  | [d1, d2, d3, d4, d5] => { results := [.lit (.bool true)], args := [d1, d2, d3, d4, d5] }
  | _ => none }
def segmentApartRow : OpenClaim := { program := "ytajcmgccclemdab", sum := "76461843b1ce5434557bedb79879eeab36ecb1dfd3af2b6bab234befd6e524d9", func := "spoor/spoorlaw07.SegmentApart", spec := "segmentApart", inPlace := ["internal/abi.NoEscape"], unfollowed := true, recurses := true, apart := false }
def SegmentApartSaid : Prop := segmentApartRow.holds Try.pinned (OpenSpec.ofChange segmentApartSpec)

/-- ITS FALSE NEIGHBOUR: 'it returns false'. Refute it at one input. -/
def segmentApartWrong : ChangeSpec := { name := "segmentApart", fn := fun _ => fun
  | [d1, d2, d3, d4, d5] => { results := [.lit (.bool false)], args := [d1, d2, d3, d4, d5] }
  | _ => none }
def SegmentApartWrongFalsely : Prop := segmentApartRow.holds Try.pinned (OpenSpec.ofChange segmentApartWrong)

/-- 'spoortop.TopFrames': WHATEVER THE INPUT: true; the input reads as it did. -/
def topFramesSpec : ChangeSpec := { name := "topFrames", fn := fun _ => fun
  | [d1, d2, d3, d4, d5] => { results := [.lit (.bool true)], args := [d1, d2, d3, d4, d5] }
  | _ => none }
def topFramesRow : OpenClaim := { program := "ytajcmgccclemdab", sum := "76461843b1ce5434557bedb79879eeab36ecb1dfd3af2b6bab234befd6e524d9", func := "spoor/spoortop.TopFrames", spec := "topFrames", unfollowed := true, recurses := true, apart := false }
def TopFramesSaid : Prop := topFramesRow.holds Try.pinned (OpenSpec.ofChange topFramesSpec)

/-- ITS FALSE NEIGHBOUR: 'it returns false'. Refute it at one input. -/
def topFramesWrong : ChangeSpec := { name := "topFrames", fn := fun _ => fun
  | [d1, d2, d3, d4, d5] => { results := [.lit (.bool false)], args := [d1, d2, d3, d4, d5] }
  | _ => none }
def TopFramesWrongFalsely : Prop := topFramesRow.holds Try.pinned (OpenSpec.ofChange topFramesWrong)

/-- 'spoortop.TopPages': WHATEVER THE INPUT: true; the input reads as it did. -/
def topPagesSpec : ChangeSpec := { name := "topPages", fn := fun _ => fun
  | [d1, d2, d3, d4, d5, d6] => { results := [.lit (.bool true)], args := [d1, d2, d3, d4, d5, d6] }
  | _ => none }
def topPagesRow : OpenClaim := { program := "ytajcmgccclemdab", sum := "76461843b1ce5434557bedb79879eeab36ecb1dfd3af2b6bab234befd6e524d9", func := "spoor/spoortop.TopPages", spec := "topPages", inPlace := ["internal/abi.NoEscape"], unfollowed := true, recurses := true, apart := false }
def TopPagesSaid : Prop := topPagesRow.holds Try.pinned (OpenSpec.ofChange topPagesSpec)

/-- ITS FALSE NEIGHBOUR: 'it returns false'. Refute it at one input. -/
def topPagesWrong : ChangeSpec := { name := "topPages", fn := fun _ => fun
  | [d1, d2, d3, d4, d5, d6] => { results := [.lit (.bool false)], args := [d1, d2, d3, d4, d5, d6] }
  | _ => none }
def TopPagesWrongFalsely : Prop := topPagesRow.holds Try.pinned (OpenSpec.ofChange topPagesWrong)

/- THE SECOND FORM. 'bulk': how many values and letters a reading holds, each counted each time it is reached (what is shared counts as often as it is met; a slice's spare places count too). A statement '..UptoSaid' is the law's where the arguments, and the package variables that the reading takes, are together of bulk at most 1048576: NARROWER than '..Said'. Prove '..Said' where nothing that the law and all that it calls make is longer than what came in: it says more and counts as full. Else prove '..UptoSaid'. A law counts once. -/
mutual
def uptoBulk {H : Type} : DataW H → Nat
  | .lit (.string bytes) => bytes.length + 1
  | .lit _ => 1
  | .nil => 1
  | .ptr d => uptoBulk d + 1
  | .slice elems spare => uptoBulkAll elems + uptoBulkAll spare + 1
  | .agg parts => uptoBulkAll parts + 1
  | .iface _ d => uptoBulk d + 1
  | .map entries => uptoBulkEntries entries + 1
  | .held _ => 1
def uptoBulkAll {H : Type} : List (DataW H) → Nat
  | [] => 0
  | d :: r => uptoBulk d + uptoBulkAll r
def uptoBulkEntries {H : Type} : List (Lit × DataW H) → Nat
  | [] => 0
  | x :: r => uptoBulkEntry x + uptoBulkEntries r
def uptoBulkEntry {H : Type} : Lit × DataW H → Nat
  | (.string bytes, d) => bytes.length + uptoBulk d + 1
  | (_, d) => uptoBulk d + 1
 end
def uptoSmall : (H : Type) → List (DataW H) → Bool := fun _ ds => decide (uptoBulkAll ds ≤ 1048576)
def OpenSpec.upto (s : _root_.Go.ChangeSpec) : _root_.Go.OpenSpec := { _root_.Go.OpenSpec.ofChange s with cond := some uptoSmall }

/-- 'spoorlaw07.SegmentAnew', WHERE WHAT IT READS IS OF BULK AT MOST 1048576: true; the input reads as it did. -/
def segmentAnewUptoRow : OpenClaim := { program := "ytajcmgccclemdab", sum := "76461843b1ce5434557bedb79879eeab36ecb1dfd3af2b6bab234befd6e524d9", func := "spoor/spoorlaw07.SegmentAnew", spec := "segmentAnew", inPlace := ["internal/abi.NoEscape"], unfollowed := true, recurses := true, apart := false, narrowed := true }
def SegmentAnewUptoSaid : Prop := segmentAnewUptoRow.holds Try.pinned (OpenSpec.upto segmentAnewSpec)

/-- 'spoorlaw07.SegmentApart', WHERE WHAT IT READS IS OF BULK AT MOST 1048576: true; the input reads as it did. -/
def segmentApartUptoRow : OpenClaim := { program := "ytajcmgccclemdab", sum := "76461843b1ce5434557bedb79879eeab36ecb1dfd3af2b6bab234befd6e524d9", func := "spoor/spoorlaw07.SegmentApart", spec := "segmentApart", inPlace := ["internal/abi.NoEscape"], unfollowed := true, recurses := true, apart := false, narrowed := true }
def SegmentApartUptoSaid : Prop := segmentApartUptoRow.holds Try.pinned (OpenSpec.upto segmentApartSpec)

/-- 'spoortop.TopFrames', WHERE WHAT IT READS IS OF BULK AT MOST 1048576: true; the input reads as it did. -/
def topFramesUptoRow : OpenClaim := { program := "ytajcmgccclemdab", sum := "76461843b1ce5434557bedb79879eeab36ecb1dfd3af2b6bab234befd6e524d9", func := "spoor/spoortop.TopFrames", spec := "topFrames", unfollowed := true, recurses := true, apart := false, narrowed := true }
def TopFramesUptoSaid : Prop := topFramesUptoRow.holds Try.pinned (OpenSpec.upto topFramesSpec)

/-- 'spoortop.TopPages', WHERE WHAT IT READS IS OF BULK AT MOST 1048576: true; the input reads as it did. -/
def topPagesUptoRow : OpenClaim := { program := "ytajcmgccclemdab", sum := "76461843b1ce5434557bedb79879eeab36ecb1dfd3af2b6bab234befd6e524d9", func := "spoor/spoortop.TopPages", spec := "topPages", inPlace := ["internal/abi.NoEscape"], unfollowed := true, recurses := true, apart := false, narrowed := true }
def TopPagesUptoSaid : Prop := topPagesUptoRow.holds Try.pinned (OpenSpec.upto topPagesSpec)

end Rows
end Go.Proofs.Ytajcmgccclemdab
