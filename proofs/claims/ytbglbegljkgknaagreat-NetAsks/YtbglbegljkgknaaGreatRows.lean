/-
  No cell of these rows narrows 'for every input' (looked for: loops, veiled, ifaces, maps, wideKeys, modest, calm, conditions, laid).
  DERIVED. THE GIVEN ROWS OF THIS SEAT. 5 by the template 'for every input the law returns true; each argument reads behind the call as it read before'; 0 by the template 'total and deterministic' (their statements: YtbglbegljkgknaaGreatTotals.lean).
  GIVEN WITH THE SEED: the statements are not yours to turn. If you find one false, say at which input.
  Laid BY PROGRAM, IN A SANDBOX (cutbox-rows.mjs): the forced cells as the released guide's own fill.sh prints them over the translation 976feb1abd660553… (all of the seat's roots in one cut). By AI agents, Wed Nov 11 2026. No macro, syntax, notation, axiom, sorry.
-/
import Derived.Test.YtbglbegljkgknaaGreatChecked
import GoSem.Claim
import GoSem.ClaimJoined
import GoSem.ClaimMapViews
import Derived.JoinedTies
import Derived.KernelRfl
namespace Go.Proofs.YtbglbegljkgknaaGreat
/- THE CELL 'sum', in the pinned program and in every row, IS THE sha256 OF THE DUMP (.gsa) THAT YtbglbegljkgknaaGreatProg.lean LOADS. Nothing in Lean hashes anything: it is a label: what it is worth is what the hold of that sum in a sandbox is worth. -/
noncomputable def Tryz.pinned : Pinned := { name := "ytbglbegljkgknaagreat", sum := "976feb1abd660553a6716af5175956ddc8077a999341dcf665bddb5b0eb5eb17", checked := Tryz.checked }
namespace Rows
def none {H : Type} : Left H := { results := [], args := [] }

/-- 'spoorlaw18.NetApplies': WHATEVER THE INPUT: true; the input reads as it did. -/
def netAppliesSpec : ChangeSpec := { name := "netApplies", fn := fun _ => fun
  | [d1, d2, d3] => { results := [.lit (.bool true)], args := [d1, d2, d3] }
  | _ => none }
def netAppliesRow : OpenClaim := { program := "ytbglbegljkgknaagreat", sum := "976feb1abd660553a6716af5175956ddc8077a999341dcf665bddb5b0eb5eb17", func := "spoor/spoorlaw18.NetApplies", spec := "netApplies", inPlace := ["slices.overlaps[spoor/api.Link]"], unfollowed := true, recurses := true, apart := false }
def NetAppliesSaid : Prop := netAppliesRow.holds Tryz.pinned (OpenSpec.ofChange netAppliesSpec)

/-- ITS FALSE NEIGHBOUR: 'it returns false'. Refute it at one input. -/
def netAppliesWrong : ChangeSpec := { name := "netApplies", fn := fun _ => fun
  | [d1, d2, d3] => { results := [.lit (.bool false)], args := [d1, d2, d3] }
  | _ => none }
def NetAppliesWrongFalsely : Prop := netAppliesRow.holds Tryz.pinned (OpenSpec.ofChange netAppliesWrong)

/-- 'spoorlaw18.NetAsks': WHATEVER THE INPUT: true; the input reads as it did. -/
def netAsksSpec : ChangeSpec := { name := "netAsks", fn := fun _ => fun
  | [d1, d2, d3, d4] => { results := [.lit (.bool true)], args := [d1, d2, d3, d4] }
  | _ => none }
def netAsksRow : OpenClaim := { program := "ytbglbegljkgknaagreat", sum := "976feb1abd660553a6716af5175956ddc8077a999341dcf665bddb5b0eb5eb17", func := "spoor/spoorlaw18.NetAsks", spec := "netAsks", inPlace := ["slices.overlaps[spoor/api.Link]"], unfollowed := true, recurses := true, apart := false }
def NetAsksSaid : Prop := netAsksRow.holds Tryz.pinned (OpenSpec.ofChange netAsksSpec)

/-- ITS FALSE NEIGHBOUR: 'it returns false'. Refute it at one input. -/
def netAsksWrong : ChangeSpec := { name := "netAsks", fn := fun _ => fun
  | [d1, d2, d3, d4] => { results := [.lit (.bool false)], args := [d1, d2, d3, d4] }
  | _ => none }
def NetAsksWrongFalsely : Prop := netAsksRow.holds Tryz.pinned (OpenSpec.ofChange netAsksWrong)

/-- 'spoorlaw18.NetRight': WHATEVER THE INPUT: true; the input reads as it did. -/
def netRightSpec : ChangeSpec := { name := "netRight", fn := fun _ => fun
  | [d1, d2, d3] => { results := [.lit (.bool true)], args := [d1, d2, d3] }
  | _ => none }
def netRightRow : OpenClaim := { program := "ytbglbegljkgknaagreat", sum := "976feb1abd660553a6716af5175956ddc8077a999341dcf665bddb5b0eb5eb17", func := "spoor/spoorlaw18.NetRight", spec := "netRight", inPlace := ["slices.overlaps[spoor/api.Link]"], unfollowed := true, recurses := true, apart := false }
def NetRightSaid : Prop := netRightRow.holds Tryz.pinned (OpenSpec.ofChange netRightSpec)

/-- ITS FALSE NEIGHBOUR: 'it returns false'. Refute it at one input. -/
def netRightWrong : ChangeSpec := { name := "netRight", fn := fun _ => fun
  | [d1, d2, d3] => { results := [.lit (.bool false)], args := [d1, d2, d3] }
  | _ => none }
def NetRightWrongFalsely : Prop := netRightRow.holds Tryz.pinned (OpenSpec.ofChange netRightWrong)

/-- 'spoorlaw18.NetApart': WHATEVER THE INPUT: true; the input reads as it did. -/
def netApartSpec : ChangeSpec := { name := "netApart", fn := fun _ => fun
  | [d1, d2, d3, d4] => { results := [.lit (.bool true)], args := [d1, d2, d3, d4] }
  | _ => none }
def netApartRow : OpenClaim := { program := "ytbglbegljkgknaagreat", sum := "976feb1abd660553a6716af5175956ddc8077a999341dcf665bddb5b0eb5eb17", func := "spoor/spoorlaw18.NetApart", spec := "netApart", inPlace := ["slices.overlaps[spoor/api.Link]"], unfollowed := true, recurses := true, apart := false }
def NetApartSaid : Prop := netApartRow.holds Tryz.pinned (OpenSpec.ofChange netApartSpec)

/-- ITS FALSE NEIGHBOUR: 'it returns false'. Refute it at one input. -/
def netApartWrong : ChangeSpec := { name := "netApart", fn := fun _ => fun
  | [d1, d2, d3, d4] => { results := [.lit (.bool false)], args := [d1, d2, d3, d4] }
  | _ => none }
def NetApartWrongFalsely : Prop := netApartRow.holds Tryz.pinned (OpenSpec.ofChange netApartWrong)

/-- 'spoorlaw18.NetOnce': WHATEVER THE INPUT: true; the input reads as it did. -/
def netOnceSpec : ChangeSpec := { name := "netOnce", fn := fun _ => fun
  | [d1, d2] => { results := [.lit (.bool true)], args := [d1, d2] }
  | _ => none }
def netOnceRow : OpenClaim := { program := "ytbglbegljkgknaagreat", sum := "976feb1abd660553a6716af5175956ddc8077a999341dcf665bddb5b0eb5eb17", func := "spoor/spoorlaw18.NetOnce", spec := "netOnce", inPlace := ["slices.overlaps[spoor/api.Link]"], unfollowed := true, recurses := true, apart := false }
def NetOnceSaid : Prop := netOnceRow.holds Tryz.pinned (OpenSpec.ofChange netOnceSpec)

/-- ITS FALSE NEIGHBOUR: 'it returns false'. Refute it at one input. -/
def netOnceWrong : ChangeSpec := { name := "netOnce", fn := fun _ => fun
  | [d1, d2] => { results := [.lit (.bool false)], args := [d1, d2] }
  | _ => none }
def NetOnceWrongFalsely : Prop := netOnceRow.holds Tryz.pinned (OpenSpec.ofChange netOnceWrong)

/- THE SECOND FORM. 'bulk': how many values and letters a reading holds, each counted each time it is reached (what is shared counts as often as it is met; a slice's spare places count too). A statement '..UptoSaid' is the law's where the arguments, and the package variables that the reading takes, are together of bulk at most 1048576: NARROWER than '..Said'. Prove '..Said' where nothing that the law and all that it calls make is longer than what came in: it says more and counts as full. Else prove '..UptoSaid'. A law counts once. -/
mutual
def uptoBulk {H : Type} : DataW H → Nat
  | .lit (.string bytes) => bytes.length + 1
  | .lit _ => 1
  | .nil => 1
  | .ptr d => uptoBulk d + 1
  | .slice elems spare => uptoBulkAll elems + uptoBulkAll spare + 1
  | .agg parts => uptoBulkAll parts + 1
  | .iface _ d => uptoBulk d + 1
  | .map entries => uptoBulkEntries entries + 1
  | .held _ => 1
def uptoBulkAll {H : Type} : List (DataW H) → Nat
  | [] => 0
  | d :: r => uptoBulk d + uptoBulkAll r
def uptoBulkEntries {H : Type} : List (Lit × DataW H) → Nat
  | [] => 0
  | x :: r => uptoBulkEntry x + uptoBulkEntries r
def uptoBulkEntry {H : Type} : Lit × DataW H → Nat
  | (.string bytes, d) => bytes.length + uptoBulk d + 1
  | (_, d) => uptoBulk d + 1
 end
def uptoSmall : (H : Type) → List (DataW H) → Bool := fun _ ds => decide (uptoBulkAll ds ≤ 1048576)
def OpenSpec.upto (s : _root_.Go.ChangeSpec) : _root_.Go.OpenSpec := { _root_.Go.OpenSpec.ofChange s with cond := some uptoSmall }

/-- 'spoorlaw18.NetApplies', WHERE WHAT IT READS IS OF BULK AT MOST 1048576: true; the input reads as it did. -/
def netAppliesUptoRow : OpenClaim := { program := "ytbglbegljkgknaagreat", sum := "976feb1abd660553a6716af5175956ddc8077a999341dcf665bddb5b0eb5eb17", func := "spoor/spoorlaw18.NetApplies", spec := "netApplies", inPlace := ["slices.overlaps[spoor/api.Link]"], unfollowed := true, recurses := true, apart := false, narrowed := true }
def NetAppliesUptoSaid : Prop := netAppliesUptoRow.holds Tryz.pinned (OpenSpec.upto netAppliesSpec)

/-- 'spoorlaw18.NetAsks', WHERE WHAT IT READS IS OF BULK AT MOST 1048576: true; the input reads as it did. -/
def netAsksUptoRow : OpenClaim := { program := "ytbglbegljkgknaagreat", sum := "976feb1abd660553a6716af5175956ddc8077a999341dcf665bddb5b0eb5eb17", func := "spoor/spoorlaw18.NetAsks", spec := "netAsks", inPlace := ["slices.overlaps[spoor/api.Link]"], unfollowed := true, recurses := true, apart := false, narrowed := true }
def NetAsksUptoSaid : Prop := netAsksUptoRow.holds Tryz.pinned (OpenSpec.upto netAsksSpec)

/-- 'spoorlaw18.NetRight', WHERE WHAT IT READS IS OF BULK AT MOST 1048576: true; the input reads as it did. -/
def netRightUptoRow : OpenClaim := { program := "ytbglbegljkgknaagreat", sum := "976feb1abd660553a6716af5175956ddc8077a999341dcf665bddb5b0eb5eb17", func := "spoor/spoorlaw18.NetRight", spec := "netRight", inPlace := ["slices.overlaps[spoor/api.Link]"], unfollowed := true, recurses := true, apart := false, narrowed := true }
def NetRightUptoSaid : Prop := netRightUptoRow.holds Tryz.pinned (OpenSpec.upto netRightSpec)

/-- 'spoorlaw18.NetApart', WHERE WHAT IT READS IS OF BULK AT MOST 1048576: true; the input reads as it did. -/
def netApartUptoRow : OpenClaim := { program := "ytbglbegljkgknaagreat", sum := "976feb1abd660553a6716af5175956ddc8077a999341dcf665bddb5b0eb5eb17", func := "spoor/spoorlaw18.NetApart", spec := "netApart", inPlace := ["slices.overlaps[spoor/api.Link]"], unfollowed := true, recurses := true, apart := false, narrowed := true }
def NetApartUptoSaid : Prop := netApartUptoRow.holds Tryz.pinned (OpenSpec.upto netApartSpec)

/-- 'spoorlaw18.NetOnce', WHERE WHAT IT READS IS OF BULK AT MOST 1048576: true; the input reads as it did. -/
def netOnceUptoRow : OpenClaim := { program := "ytbglbegljkgknaagreat", sum := "976feb1abd660553a6716af5175956ddc8077a999341dcf665bddb5b0eb5eb17", func := "spoor/spoorlaw18.NetOnce", spec := "netOnce", inPlace := ["slices.overlaps[spoor/api.Link]"], unfollowed := true, recurses := true, apart := false, narrowed := true }
def NetOnceUptoSaid : Prop := netOnceUptoRow.holds Tryz.pinned (OpenSpec.upto netOnceSpec)

end Rows
end Go.Proofs.YtbglbegljkgknaaGreat
