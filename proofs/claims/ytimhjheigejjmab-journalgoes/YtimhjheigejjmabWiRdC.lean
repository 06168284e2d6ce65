/- Contracts of takeFlag, takeCount, takeText. -/
import Derived.Test.YtimhjheigejjmabWiRdB
import Derived.Test.YtimhjheigejjmabWiClone
import Derived.Deep.RegionWith
namespace Go.Proofs.Ytimhjheigejjmab.Wi
open Go.RowKit

def tbyte (l : List UInt8) (k : Nat) : Option (Value × Nat) := (l[k]?).map fun c => (.int .i64 c.toNat, k + 1)
def tflag (l : List UInt8) (k : Nat) : Option (Bool × Nat) := match l[k]? with
  | some c => if 1 < c.toNat then none else some (decide (c.toNat = 1), k + 1)
  | none => none
def tcnt (l : List UInt8) (k : Nat) : Option (Int × Nat) := match tnum l k with
  | some (n, j) => if n < 0 ∨ 65536 < n then none else some (n, j)
  | none => none
def ttext (l : List UInt8) (k : Nat) : Option (List UInt8 × Nat) := match tcnt l k with
  | some (n, j) => if l.length < j + n.toNat then none else some ((l.drop j).take n.toNat, j + n.toNat)
  | none => none
def flagO (o : Option (Bool × Nat)) : Option (Value × Nat) := o.map fun p => (.bool p.1, p.2)
def textO (o : Option (List UInt8 × Nat)) : Option (Value × Nat) := o.map fun p => (.string (str p.1), p.2)

set_option maxRecDepth 100000 in
theorem takeByte_any (b k : Nat) (s : ByteArray) (w : World) (h : RD w b s k) (hs : s.size ≤ 140737488355328) :
    Calls Try.prog 88 #[.pointer (some ⟨b, 0, none⟩)] w (Took w b s (.int .i64 0) (tbyte s.data.toList k)) := by
  by_cases hk : k < s.size
  · refine (takeByte_some b k s w h hk hs).mono ?_
    rintro e w' ⟨rfl, hr, hf⟩
    unfold tbyte; rw [byte_at s k hk]; exact ⟨hf, rfl, hr⟩
  · refine (takeByte_none b k s w h (by omega)).mono ?_
    rintro e w' ⟨rfl, hr, hf⟩
    unfold tbyte; rw [byte_past s k (by omega)]; exact ⟨hf, rfl, k, hr⟩

set_option maxRecDepth 100000 in
theorem tcnt_place {l : List UInt8} {k : Nat} {n : Int} {j : Nat} (h : tcnt l k = some (n, j)) : k < j ∧ j ≤ k + 10 ∧ j ≤ l.length ∧ 0 ≤ n ∧ n ≤ 65536 := by
  unfold tcnt at h
  cases ho : tnum l k with
  | none => rw [ho] at h; cases h
  | some p =>
    obtain ⟨m, i⟩ := p
    rw [ho] at h
    have := tnum_place ho
    simp only at h
    split at h
    · cases h
    · simp at h; omega

set_option maxRecDepth 100000 in
theorem extract_str (s : ByteArray) (j m : Nat) : s.extract j (j + m) = str ((s.data.toList.drop j).take m) := by
  apply ByteArray.ext
  apply Array.ext'
  simp [str]

end Go.Proofs.Ytimhjheigejjmab.Wi
