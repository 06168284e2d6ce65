/- Plain mathematics for the proofs over package index: a number from 0 on is the m-th node of the level k, 2^k (2 m + 1) - 1. Nothing of the program is in this text. -/
import Derived.WalkKit
import Derived.WalkSpells
import Derived.WalkLawsBesides
import Derived.WalkSmall
import Derived.Laws.Bits128
import Derived.Laws.DeepNot64
import Derived.Laws.BitsAllLaws
import Derived.Shelf.Spec.TrailingZeros
namespace Go.Proofs.Ytnimdnoemmodaaa
open Go.RowKit
theorem hide {p : Prop} (h : p) : Hid p := h
theorem unhide {p : Prop} (h : Hid p) : p := h
def lvl (x : Int) : Int := if x < 0 then -1 else (Lib.ctz 64 (18446744073709551615 - x.toNat) : Nat)
def hf (x : Int) : Int := if 0 < lvl x then ((2 ^ ((lvl x).toNat - 1) : Nat) : Int) else 0
end Go.Proofs.Ytnimdnoemmodaaa
