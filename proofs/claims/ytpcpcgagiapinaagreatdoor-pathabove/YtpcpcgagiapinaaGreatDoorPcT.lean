/- What PathSecrets keeps: both stores, and rows of numbers beside them. No walk is in this text. -/
import Derived.Test.YtpcpcgagiapinaaGreatDoorZ33
import Derived.Test.YtpcpcgagiapinaaGreatDoorZ22
namespace Go.Proofs.YtpcpcgagiapinaaGreatDoor.Tn.Pa
open Go.RowKit Go.Maps
structure S9 (w W : World) (b : Nat) (sv : Value) (mb rb : Nat) (rv : Value) (L R : List Tm) (rows : List (Value × List Nat)) : Prop where
  two : Two w W b sv mb rb rv L R
  rw : ∀ x ∈ rows, NRow 0 W x.1 x.2
section
variable {w W W' : World} {b : Nat} {sv sv' : Value} {mb rb : Nat} {rv rv' : Value} {L R L' R' : List Tm} {rows : List (Value × List Nat)}
theorem S9.new (h : S9 w W b sv mb rb rv L R rows) (hb : Below W.heap.size W W') : S9 w W' b sv mb rb rv L R rows :=
  ⟨h.two.new hb, fun x hx => (h.rw x hx).keep (fun k hk => hb.block k ((h.rw x hx).lt k hk).2)⟩
theorem S9.put (h : S9 w W b sv mb rb rv L R rows) {v : Value} {ks : List Nat} (hr : NRow 0 W v ks) : S9 w W b sv mb rb rv L R ((v, ks) :: rows) :=
  ⟨h.two, fun x hx => by rcases List.mem_cons.1 hx with rfl | hx; exact hr; exact h.rw x hx⟩
end
section
variable {w W : World} {b : Nat} {sv : Value} {mb rb : Nat} {rv : Value} {L R : List Tm} {rows : List (Value × List Nat)}
end
end Go.Proofs.YtpcpcgagiapinaaGreatDoor.Tn.Pa
