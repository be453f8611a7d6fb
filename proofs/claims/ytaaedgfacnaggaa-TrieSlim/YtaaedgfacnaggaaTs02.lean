/- Bytes that are read off a tape, plain: numbers, prefixes, actions, events. -/
import Derived.Test.YtaaedgfacnaggaaShelf
import Derived.WalkKit
import Derived.WalkSmall
import Derived.Laws.BitsLemmas
import Derived.Lib.BitFns
import Derived.Laws.IdiomStrings
import Derived.RegionTactic
import Derived.Deep.RegionWith
import Derived.BigRegion
import Derived.ChangeAlike
import Derived.Lib.EndianBits
import Derived.BigQuiet
import Derived.Deep.QuietTactic
import Derived.Shelf.Strings.Builder1
import Derived.Test.YtaaedgfacnaggaaTs01
set_option linter.unusedVariables false
namespace Go.Proofs.Ytaaedgfacnaggaa
open Go.RowKit
theorem addr_add (b o j : Nat) : (⟨b, o, none⟩ : Addr).add j = ⟨b, o + j, none⟩ := by unfold Addr.add; split <;> simp_all
end Go.Proofs.Ytaaedgfacnaggaa
namespace Go.Proofs.Ytaaedgfacnaggaa
open Go.RowKit

theorem below2 {a b c : World} (h1 : Below a.heap.size a b) (h2 : Below b.heap.size b c) : Below a.heap.size a c := h1.trans (h2.mono h1.size)
end Go.Proofs.Ytaaedgfacnaggaa
namespace Go.Proofs.Ytaaedgfacnaggaa
open Go.Shelf Go.RowKit

/- ### what was there stays a builder, and stays owned, where only new memory came -/
theorem grown_of {w w' : World} (h : Below w.heap.size w w') : w.grownBy w' none := ⟨h.os, h.tape, h.output, h.size, fun k hk _ => h.block k hk⟩
theorem own_below {w w' : World} {B e size n : Nat} {v : Value} {xs : List Value} (h : w.ownsRow B e size v n xs) (hb : Below w.heap.size w w') : w'.ownsRow B e size v n xs := by
  refine h.kept (grown_of hb) ?_
  cases v.ownBlock with
  | none => exact .inl rfl
  | some k => exact .inr (by simp)
end Go.Proofs.Ytaaedgfacnaggaa
namespace Go.Proofs.Ytaaedgfacnaggaa.Msg
def f1 : List UInt8 → Option (Nat × List UInt8)
  | [] => none
  | b :: t => some (b.toNat, t)
def nb (acc : Nat) : List UInt8 → Nat
  | [] => acc
  | b :: t => nb (acc * 256 + b.toNat) t
end Go.Proofs.Ytaaedgfacnaggaa.Msg
