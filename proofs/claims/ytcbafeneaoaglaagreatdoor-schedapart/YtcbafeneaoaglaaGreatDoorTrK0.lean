/- The library's slices.Insert at []int: one number comes into a row of one's own. -/
import Derived.Shelf.Spec.SlicesInsert
import Derived.Shelf.Spec.SlicesInsertGrow
import Derived.Laws.AppendOwn
import Derived.Test.YtcbafeneaoaglaaGreatDoorBbM
namespace Go.Proofs.YtcbafeneaoaglaaGreatDoor
open Go.Shelf Go.RowKit Go.Maps
-- Lays2.n21: no function slices.Insert[[]int,int]

theorem setCells_blk {b : Nat} {t : TypeId} {z : Nat × Nat} : ∀ (vs : List Value) (o : Nat) (w : World) (cur : Array Value), w.heap[b]? = some (.cells cur t z) → ∃ cur', (w.setCells b o vs).heap[b]? = some (.cells cur' t z) ∧ cur'.size = cur.size
  | [], _, _, cur, h => ⟨cur, h, rfl⟩
  | v :: r, o, w, cur, h => by
    have h2 : (w.setCell ⟨b, o, none⟩ v).heap[b]? = some (.cells (cur.setIfInBounds o v) t z) := by simp [World.setCell, Array.getElem?_modify, h]
    obtain ⟨cur', h3, h4⟩ := setCells_blk r (o + 1) _ _ h2
    exact ⟨cur', h3, by rw [h4]; simp⟩
theorem fr_setCells {b : Nat} : ∀ (vs : List Value) (o : Nat) (w : World), Fr [b] w (w.setCells b o vs)
  | [], _, w => Fr.refl _ _
  | v :: r, o, w => ((Fr.refl [b] w).setCell (a := ⟨b, o, none⟩) (Or.inr (by simp)) v).tr (fr_setCells r (o + 1) _)
/-- A row is told by its block's cells. -/
theorem ints_of_cells {B : Nat} {w : World} {b c : Nat} {cur : Array Value} {l : List Int} (hb : w.heap[b]? = some (.cells cur 3 (0, 0))) (hB : B ≤ b) (hs : cur.size = c) (hl : l.length ≤ c) (hc : c ≤ maxLen) (hx : ∀ j z, l[j]? = some z → w.cell? ⟨b, j, none⟩ = some (.int .i64 z)) : Ints B w (.slice (some ⟨b, 0, none⟩) l.length c) l := by
  refine ⟨by simp, Or.inr ⟨b, c, cur, rfl, hB, hb, hl, hc, by omega, ?_⟩⟩
  apply List.ext_getElem?
  intro j
  rcases Nat.lt_or_ge j l.length with h | h
  · have h1 := hx j l[j] (List.getElem?_eq_getElem h)
    have h2 : cur[j]? = some (.int .i64 l[j]) := by simpa [World.cell?, hb] using h1
    rw [List.getElem?_take_of_lt (by omega), Array.getElem?_toList, h2]
    simp [I64, List.getElem?_eq_getElem h]
  · rw [List.getElem?_eq_none (by simp; omega), List.getElem?_eq_none (by simp; omega)]
theorem ins_get {l : List Int} {k : Nat} {x : Int} (hk : k ≤ l.length) {j : Nat} {z : Int} (h : (l.take k ++ x :: l.drop k)[j]? = some z) : (j < k ∧ l[j]? = some z) ∨ (j = k ∧ z = x) ∨ (k < j ∧ l[j - 1]? = some z) := by
  rcases Nat.lt_or_ge j k with c | c
  · rw [List.getElem?_append_left (by simp; omega), List.getElem?_take_of_lt c] at h
    exact Or.inl ⟨c, h⟩
  · rw [List.getElem?_append_right (by simp; omega)] at h
    simp only [List.length_take, Nat.min_eq_left hk] at h
    by_cases e : j = k
    · subst e; simp at h; exact Or.inr (Or.inl ⟨rfl, h.symm⟩)
    · obtain ⟨d, hd⟩ : ∃ d, j - k = d + 1 := ⟨j - k - 1, by omega⟩
      rw [hd, List.getElem?_cons_succ, List.getElem?_drop] at h
      exact Or.inr (Or.inr ⟨by omega, by rw [show j - 1 = k + d by omega]; exact h⟩)
theorem ins_len {l : List Int} {k : Nat} {x : Int} (hk : k ≤ l.length) : (l.take k ++ x :: l.drop k).length = l.length + 1 := by simp; omega
end Go.Proofs.YtcbafeneaoaglaaGreatDoor
