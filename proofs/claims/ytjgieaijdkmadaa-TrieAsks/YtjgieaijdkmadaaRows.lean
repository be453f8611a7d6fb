/-
  No cell of these rows narrows 'for every input' (looked for: loops, veiled, ifaces, maps, wideKeys, modest, calm, conditions, laid).
  DERIVED. THE GIVEN ROWS OF THIS SEAT. 6 by the template 'for every input the law returns true; each argument reads behind the call as it read before'; 0 by the template 'total and deterministic' (their statements: YtjgieaijdkmadaaTotals.lean).
  GIVEN WITH THE SEED: the statements are not yours to turn. If you find one false, say at which input.
  Laid BY PROGRAM, IN A SANDBOX (cutbox-rows.mjs): the forced cells as the released guide's own fill.sh prints them over the translation e3823fc80c405906… (all of the seat's roots in one cut). By AI agents, Wed Nov 11 2026. No macro, syntax, notation, axiom, sorry.
-/
import Derived.Test.YtjgieaijdkmadaaChecked
import GoSem.Claim
import GoSem.ClaimJoined
import GoSem.ClaimMapViews
import Derived.JoinedTies
import Derived.KernelRfl
namespace Go.Proofs.Ytjgieaijdkmadaa
/- THE CELL 'sum', in the pinned program and in every row, IS THE sha256 OF THE DUMP (.gsa) THAT YtjgieaijdkmadaaProg.lean LOADS. Nothing in Lean hashes anything: it is a label: what it is worth is what the hold of that sum in a sandbox is worth. -/
noncomputable def Try.pinned : Pinned := { name := "ytjgieaijdkmadaa", sum := "e3823fc80c405906b71ebc5f6caa14ffbdfd776ef676693054c60ea4224ad0f6", checked := Try.checked }
namespace Rows
def none {H : Type} : Left H := { results := [], args := [] }

/-- 'spoorlaw15.TrieChanges': WHATEVER THE INPUT: true; the input reads as it did. -/
def trieChangesSpec : ChangeSpec := { name := "trieChanges", fn := fun _ => fun
  | [d1, d2, d3] => { results := [.lit (.bool true)], args := [d1, d2, d3] }
  | _ => none }
def trieChangesRow : OpenClaim := { program := "ytjgieaijdkmadaa", sum := "e3823fc80c405906b71ebc5f6caa14ffbdfd776ef676693054c60ea4224ad0f6", func := "spoor/spoorlaw15.TrieChanges", spec := "trieChanges", inPlace := ["math/bits.Add64"], unfollowed := true, recurses := true, apart := false }
def TrieChangesSaid : Prop := trieChangesRow.holds Try.pinned (OpenSpec.ofChange trieChangesSpec)

/-- ITS FALSE NEIGHBOUR: 'it returns false'. Refute it at one input. -/
def trieChangesWrong : ChangeSpec := { name := "trieChanges", fn := fun _ => fun
  | [d1, d2, d3] => { results := [.lit (.bool false)], args := [d1, d2, d3] }
  | _ => none }
def TrieChangesWrongFalsely : Prop := trieChangesRow.holds Try.pinned (OpenSpec.ofChange trieChangesWrong)

/-- 'spoorlaw15.TrieAsks': WHATEVER THE INPUT: true; the input reads as it did. -/
def trieAsksSpec : ChangeSpec := { name := "trieAsks", fn := fun _ => fun
  | [d1, d2, d3] => { results := [.lit (.bool true)], args := [d1, d2, d3] }
  | _ => none }
def trieAsksRow : OpenClaim := { program := "ytjgieaijdkmadaa", sum := "e3823fc80c405906b71ebc5f6caa14ffbdfd776ef676693054c60ea4224ad0f6", func := "spoor/spoorlaw15.TrieAsks", spec := "trieAsks", inPlace := ["math/bits.Add64"], unfollowed := true, recurses := true, apart := false }
def TrieAsksSaid : Prop := trieAsksRow.holds Try.pinned (OpenSpec.ofChange trieAsksSpec)

/-- ITS FALSE NEIGHBOUR: 'it returns false'. Refute it at one input. -/
def trieAsksWrong : ChangeSpec := { name := "trieAsks", fn := fun _ => fun
  | [d1, d2, d3] => { results := [.lit (.bool false)], args := [d1, d2, d3] }
  | _ => none }
def TrieAsksWrongFalsely : Prop := trieAsksRow.holds Try.pinned (OpenSpec.ofChange trieAsksWrong)

/-- 'spoorlaw15.TrieFound': WHATEVER THE INPUT: true; the input reads as it did. -/
def trieFoundSpec : ChangeSpec := { name := "trieFound", fn := fun _ => fun
  | [d1, d2, d3, d4] => { results := [.lit (.bool true)], args := [d1, d2, d3, d4] }
  | _ => none }
def trieFoundRow : OpenClaim := { program := "ytjgieaijdkmadaa", sum := "e3823fc80c405906b71ebc5f6caa14ffbdfd776ef676693054c60ea4224ad0f6", func := "spoor/spoorlaw15.TrieFound", spec := "trieFound", inPlace := ["math/bits.Add64"], unfollowed := true, recurses := true, apart := false }
def TrieFoundSaid : Prop := trieFoundRow.holds Try.pinned (OpenSpec.ofChange trieFoundSpec)

/-- ITS FALSE NEIGHBOUR: 'it returns false'. Refute it at one input. -/
def trieFoundWrong : ChangeSpec := { name := "trieFound", fn := fun _ => fun
  | [d1, d2, d3, d4] => { results := [.lit (.bool false)], args := [d1, d2, d3, d4] }
  | _ => none }
def TrieFoundWrongFalsely : Prop := trieFoundRow.holds Try.pinned (OpenSpec.ofChange trieFoundWrong)

/-- 'spoorlaw15.TrieLongest': WHATEVER THE INPUT: true; the input reads as it did. -/
def trieLongestSpec : ChangeSpec := { name := "trieLongest", fn := fun _ => fun
  | [d1, d2, d3] => { results := [.lit (.bool true)], args := [d1, d2, d3] }
  | _ => none }
def trieLongestRow : OpenClaim := { program := "ytjgieaijdkmadaa", sum := "e3823fc80c405906b71ebc5f6caa14ffbdfd776ef676693054c60ea4224ad0f6", func := "spoor/spoorlaw15.TrieLongest", spec := "trieLongest", inPlace := ["math/bits.Add64"], unfollowed := true, recurses := true, apart := false }
def TrieLongestSaid : Prop := trieLongestRow.holds Try.pinned (OpenSpec.ofChange trieLongestSpec)

/-- ITS FALSE NEIGHBOUR: 'it returns false'. Refute it at one input. -/
def trieLongestWrong : ChangeSpec := { name := "trieLongest", fn := fun _ => fun
  | [d1, d2, d3] => { results := [.lit (.bool false)], args := [d1, d2, d3] }
  | _ => none }
def TrieLongestWrongFalsely : Prop := trieLongestRow.holds Try.pinned (OpenSpec.ofChange trieLongestWrong)

/-- 'spoorlaw15.TrieCuts': WHATEVER THE INPUT: true; the input reads as it did. -/
def trieCutsSpec : ChangeSpec := { name := "trieCuts", fn := fun _ => fun
  | [d1, d2, d3] => { results := [.lit (.bool true)], args := [d1, d2, d3] }
  | _ => none }
def trieCutsRow : OpenClaim := { program := "ytjgieaijdkmadaa", sum := "e3823fc80c405906b71ebc5f6caa14ffbdfd776ef676693054c60ea4224ad0f6", func := "spoor/spoorlaw15.TrieCuts", spec := "trieCuts", inPlace := ["math/bits.Add64"], unfollowed := true, recurses := true, apart := false }
def TrieCutsSaid : Prop := trieCutsRow.holds Try.pinned (OpenSpec.ofChange trieCutsSpec)

/-- ITS FALSE NEIGHBOUR: 'it returns false'. Refute it at one input. -/
def trieCutsWrong : ChangeSpec := { name := "trieCuts", fn := fun _ => fun
  | [d1, d2, d3] => { results := [.lit (.bool false)], args := [d1, d2, d3] }
  | _ => none }
def TrieCutsWrongFalsely : Prop := trieCutsRow.holds Try.pinned (OpenSpec.ofChange trieCutsWrong)

/-- 'spoorlaw15.TrieSlim': WHATEVER THE INPUT: true; the input reads as it did. -/
def trieSlimSpec : ChangeSpec := { name := "trieSlim", fn := fun _ => fun
  | [d1, d2, d3] => { results := [.lit (.bool true)], args := [d1, d2, d3] }
  | _ => none }
def trieSlimRow : OpenClaim := { program := "ytjgieaijdkmadaa", sum := "e3823fc80c405906b71ebc5f6caa14ffbdfd776ef676693054c60ea4224ad0f6", func := "spoor/spoorlaw15.TrieSlim", spec := "trieSlim", inPlace := ["math/bits.Add64"], unfollowed := true, recurses := true, apart := false }
def TrieSlimSaid : Prop := trieSlimRow.holds Try.pinned (OpenSpec.ofChange trieSlimSpec)

/-- ITS FALSE NEIGHBOUR: 'it returns false'. Refute it at one input. -/
def trieSlimWrong : ChangeSpec := { name := "trieSlim", fn := fun _ => fun
  | [d1, d2, d3] => { results := [.lit (.bool false)], args := [d1, d2, d3] }
  | _ => none }
def TrieSlimWrongFalsely : Prop := trieSlimRow.holds Try.pinned (OpenSpec.ofChange trieSlimWrong)

/- THE SECOND FORM. 'bulk': how many values and letters a reading holds, each counted each time it is reached (what is shared counts as often as it is met; a slice's spare places count too). A statement '..UptoSaid' is the law's where the arguments, and the package variables that the reading takes, are together of bulk at most 1048576: NARROWER than '..Said'. Prove '..Said' where nothing that the law and all that it calls make is longer than what came in: it says more and counts as full. Else prove '..UptoSaid'. A law counts once. -/
mutual
def uptoBulk {H : Type} : DataW H → Nat
  | .lit (.string bytes) => bytes.length + 1
  | .lit _ => 1
  | .nil => 1
  | .ptr d => uptoBulk d + 1
  | .slice elems spare => uptoBulkAll elems + uptoBulkAll spare + 1
  | .agg parts => uptoBulkAll parts + 1
  | .iface _ d => uptoBulk d + 1
  | .map entries => uptoBulkEntries entries + 1
  | .held _ => 1
def uptoBulkAll {H : Type} : List (DataW H) → Nat
  | [] => 0
  | d :: r => uptoBulk d + uptoBulkAll r
def uptoBulkEntries {H : Type} : List (Lit × DataW H) → Nat
  | [] => 0
  | x :: r => uptoBulkEntry x + uptoBulkEntries r
def uptoBulkEntry {H : Type} : Lit × DataW H → Nat
  | (.string bytes, d) => bytes.length + uptoBulk d + 1
  | (_, d) => uptoBulk d + 1
 end
def uptoSmall : (H : Type) → List (DataW H) → Bool := fun _ ds => decide (uptoBulkAll ds ≤ 1048576)
def OpenSpec.upto (s : _root_.Go.ChangeSpec) : _root_.Go.OpenSpec := { _root_.Go.OpenSpec.ofChange s with cond := some uptoSmall }

/-- 'spoorlaw15.TrieChanges', WHERE WHAT IT READS IS OF BULK AT MOST 1048576: true; the input reads as it did. -/
def trieChangesUptoRow : OpenClaim := { program := "ytjgieaijdkmadaa", sum := "e3823fc80c405906b71ebc5f6caa14ffbdfd776ef676693054c60ea4224ad0f6", func := "spoor/spoorlaw15.TrieChanges", spec := "trieChanges", inPlace := ["math/bits.Add64"], unfollowed := true, recurses := true, apart := false, narrowed := true }
def TrieChangesUptoSaid : Prop := trieChangesUptoRow.holds Try.pinned (OpenSpec.upto trieChangesSpec)

/-- 'spoorlaw15.TrieAsks', WHERE WHAT IT READS IS OF BULK AT MOST 1048576: true; the input reads as it did. -/
def trieAsksUptoRow : OpenClaim := { program := "ytjgieaijdkmadaa", sum := "e3823fc80c405906b71ebc5f6caa14ffbdfd776ef676693054c60ea4224ad0f6", func := "spoor/spoorlaw15.TrieAsks", spec := "trieAsks", inPlace := ["math/bits.Add64"], unfollowed := true, recurses := true, apart := false, narrowed := true }
def TrieAsksUptoSaid : Prop := trieAsksUptoRow.holds Try.pinned (OpenSpec.upto trieAsksSpec)

/-- 'spoorlaw15.TrieFound', WHERE WHAT IT READS IS OF BULK AT MOST 1048576: true; the input reads as it did. -/
def trieFoundUptoRow : OpenClaim := { program := "ytjgieaijdkmadaa", sum := "e3823fc80c405906b71ebc5f6caa14ffbdfd776ef676693054c60ea4224ad0f6", func := "spoor/spoorlaw15.TrieFound", spec := "trieFound", inPlace := ["math/bits.Add64"], unfollowed := true, recurses := true, apart := false, narrowed := true }
def TrieFoundUptoSaid : Prop := trieFoundUptoRow.holds Try.pinned (OpenSpec.upto trieFoundSpec)

/-- 'spoorlaw15.TrieLongest', WHERE WHAT IT READS IS OF BULK AT MOST 1048576: true; the input reads as it did. -/
def trieLongestUptoRow : OpenClaim := { program := "ytjgieaijdkmadaa", sum := "e3823fc80c405906b71ebc5f6caa14ffbdfd776ef676693054c60ea4224ad0f6", func := "spoor/spoorlaw15.TrieLongest", spec := "trieLongest", inPlace := ["math/bits.Add64"], unfollowed := true, recurses := true, apart := false, narrowed := true }
def TrieLongestUptoSaid : Prop := trieLongestUptoRow.holds Try.pinned (OpenSpec.upto trieLongestSpec)

/-- 'spoorlaw15.TrieCuts', WHERE WHAT IT READS IS OF BULK AT MOST 1048576: true; the input reads as it did. -/
def trieCutsUptoRow : OpenClaim := { program := "ytjgieaijdkmadaa", sum := "e3823fc80c405906b71ebc5f6caa14ffbdfd776ef676693054c60ea4224ad0f6", func := "spoor/spoorlaw15.TrieCuts", spec := "trieCuts", inPlace := ["math/bits.Add64"], unfollowed := true, recurses := true, apart := false, narrowed := true }
def TrieCutsUptoSaid : Prop := trieCutsUptoRow.holds Try.pinned (OpenSpec.upto trieCutsSpec)

/-- 'spoorlaw15.TrieSlim', WHERE WHAT IT READS IS OF BULK AT MOST 1048576: true; the input reads as it did. -/
def trieSlimUptoRow : OpenClaim := { program := "ytjgieaijdkmadaa", sum := "e3823fc80c405906b71ebc5f6caa14ffbdfd776ef676693054c60ea4224ad0f6", func := "spoor/spoorlaw15.TrieSlim", spec := "trieSlim", inPlace := ["math/bits.Add64"], unfollowed := true, recurses := true, apart := false, narrowed := true }
def TrieSlimUptoSaid : Prop := trieSlimUptoRow.holds Try.pinned (OpenSpec.upto trieSlimSpec)

end Rows
end Go.Proofs.Ytjgieaijdkmadaa
