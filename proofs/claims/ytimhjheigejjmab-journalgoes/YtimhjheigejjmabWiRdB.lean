/- The contract of takeNumber. -/
import Derived.Test.YtimhjheigejjmabWiRdA
namespace Go.Proofs.Ytimhjheigejjmab.Wi
open Go.RowKit

/-- What taking something leaves: o says what stands there, and the place behind it. -/
def Took (w : World) (b : Nat) (s : ByteArray) (zero : Value) (o : Option (Value × Nat)) (e : Ending) (w' : World) : Prop :=
  Fr [b] w w' ∧ match o with
    | some (v, j) => e = .returned (.tuple #[v, .int .i64 0]) ∧ RD w' b s j
    | none => e = .returned (.tuple #[zero, .int .i64 4]) ∧ ∃ j, RD w' b s j
def numO (o : Option (Int × Nat)) : Option (Value × Nat) := o.map fun p => (.int .i64 p.1, p.2)

set_option maxRecDepth 100000 in
theorem took_none {w w' : World} {b : Nat} {s : ByteArray} {o : Option (Int × Nat)} {e : Ending} (ho : o = none) (hf : Fr [b] w w') {j : Nat} (hr : RD w' b s j) (he : e = .returned (.tuple #[.int .i64 0, .int .i64 4])) :
    Took w b s (.int .i64 0) (numO o) e w' := by
  subst ho; exact ⟨hf, he, j, hr⟩
set_option maxRecDepth 100000 in
theorem took_some {w w' : World} {b : Nat} {s : ByteArray} {o : Option (Int × Nat)} {e : Ending} {n : Int} {j : Nat} (ho : o = some (n, j)) (hf : Fr [b] w w') (hr : RD w' b s j) (he : e = .returned (.tuple #[.int .i64 n, .int .i64 0])) :
    Took w b s (.int .i64 0) (numO o) e w' := by
  subst ho; exact ⟨hf, he, hr⟩

end Go.Proofs.Ytimhjheigejjmab.Wi
