/- Twins of cards as a row of one's own (out of PoTw). No walk is in this text. -/
import Derived.Test.YtihniafidgjlcaaGreatDoorLgTC
import Derived.Test.YtihniafidgjlcaaGreatDoorZ12
namespace Go.Proofs.YtihniafidgjlcaaGreatDoor
open Go.RowKit Go.Maps
theorem own_rawC {B : Nat} {e : TypeId} {c n cap g : Nat} {w : World} {A : Array Value} (h : w.heap[g]? = some (.cells A e (0, 0))) (hB : B ≤ g) (hs : A.size = cap * c) (hn : n ≤ cap) (hc : cap ≤ maxLen) : w.ownsRow B e c (.slice (some ⟨g, 0, none⟩) n cap) n (A.toList.take (n * c)) := by
  refine ⟨?_, Or.inr ⟨g, cap, A, rfl, hB, h, hn, hc, hs, rfl⟩⟩
  have := Nat.mul_le_mul_right c hn
  rw [List.length_take, Array.length_toList, hs]
  omega
theorem rwC_riC (l : List (List Int)) : rwC l = riC l := by
  unfold rwC riC
  rw [List.flatMap_def]
  rfl
theorem rwC_lenPC {c : Nat} : ∀ {l : List (List Int)}, (∀ q ∈ l, q.length = c) → (rwC l).length = l.length * c
  | [], _ => by simp [rwC]
  | a :: r, h => by
    have := rwC_lenPC (l := r) (fun q hq => h q (by simp [hq]))
    have ha := h a (by simp)
    simp only [rwC, List.flatMap_cons, List.length_append, List.length_cons] at this ⊢
    rw [this, Nat.add_mul, icC, List.length_map, ha]
    omega
theorem twR_ownC {B c g : Nat} {t : TypeId} {w : World} {l : List (List Int)} (h : TwR c t w g l) (hc : 0 < c) (hB : B ≤ g) (hl : l.length ≤ 1048576) (hf : ∀ q ∈ l, q.length = c) : w.ownsRow B t c (.slice (some ⟨g, 0, none⟩) l.length (l.length + 2)) l.length (riC l) := by
  have hz := rwC_lenPC hf
  have := own_rawC (B := B) (c := c) (n := l.length) (cap := l.length + 2) h hB (by
    unfold twR
    rw [List.size_toArray, List.length_append, List.length_append, hz, icC, icC, List.length_map, List.length_map, mkR_len hc, mkR_len hc, Nat.add_mul]
    omega) (by omega) (by unfold maxLen; omega)
  have e : (twR l (mkR c l.length) (mkR c (l.length + 1))).toList.take (l.length * c) = riC l := by
    unfold twR
    rw [List.take_append_of_le_length (by rw [hz]; exact Nat.le_refl _), List.take_of_length_le (by rw [hz]; exact Nat.le_refl _), rwC_riC]
  rw [e] at this
  exact this
end Go.Proofs.YtihniafidgjlcaaGreatDoor
