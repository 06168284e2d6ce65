/- An append, a load of a wide struct, a slice of one, in a region that draws; a row of one's own and one element more (out of PoH). mkQuO.py writes it. -/
import Derived.Test.YtndgdpefoidfbaaQuGm
import Derived.Great.BuildSlice
import Derived.Deep.RegionLaw
namespace Go.Proofs.Ytndgdpefoidfbaa
open Go.RowKit Go.Maps
theorem get_snocM {α : Type} {l : List α} {a b : α} {i : Nat} (h : (l ++ [a])[i]? = some b) : (i < l.length ∧ l[i]? = some b) ∨ (i = l.length ∧ b = a) := by
  rcases Nat.lt_or_ge i l.length with c | c
  · rw [List.getElem?_append_left c] at h; exact Or.inl ⟨c, h⟩
  · rw [List.getElem?_append_right c] at h
    rcases Nat.eq_zero_or_pos (i - l.length) with d | d
    · rw [d] at h; simp at h; exact Or.inr ⟨by omega, h.symm⟩
    · rw [List.getElem?_eq_none (by simp; omega)] at h; cases h
theorem cellK_snocM {α ξ : Type} {K : EK α ξ} {l : List α} {xs : List ξ} (hl : xs.length = l.length) (a : α) (x : ξ) : cellK K (l ++ [a]) (xs ++ [x]) = cellK K l xs ++ K.C a x := by
  unfold cellK rowsK
  rw [List.zipWith_append hl.symm]
  simp
theorem foldz (cs : List Value) : ∀ (A : Array Value) (i : Nat), (cs.zipIdx i).foldl (fun acc (p : Value × Nat) => acc.setIfInBounds (0 + p.2) p.1) A = pk A i cs := by
  induction cs with
  | nil => intro A i; rfl
  | cons v r ih => intro A i; rw [List.zipIdx_cons, List.foldl_cons, ih]; simp [pk]
theorem fill_one {n : Nat} {Z : Array Value} {cs : List Value} (hc : cs.length = n) (hz : Z.size = n) : Instr.fill (fun i => some (i * n, n)) Z [(0, .agg cs.toArray)] = some cs.toArray := by
  have e : (Value.agg cs.toArray).cells = cs.toArray := rfl
  have h1 : (cs.toArray.zipIdx.foldl (fun acc (p : Value × Nat) => acc.setIfInBounds (0 + p.2) p.1) Z) = cs.toArray := by
    rw [← Array.foldl_toList, Array.toList_zipIdx]
    have := foldz cs Z 0
    simp only at this ⊢
    rw [this, pk_all (by rw [hc, hz])]
  simp only [Instr.fill, e, Nat.zero_mul]
  rw [if_neg (by simp; omega)]
  exact congrArg some h1
theorem cells_newM (w : World) (cs : List Value) (t : TypeId) : ∀ j u, cs[j]? = some u → (w.alloc (.cells cs.toArray t)).cell? ((⟨w.heap.size, 0, none⟩ : Addr).add j) = some u := by
  intro j u hj
  have e : (⟨w.heap.size, 0, none⟩ : Addr).add j = ⟨w.heap.size, j, none⟩ := by unfold Addr.add; by_cases hz : j = 0 <;> simp [hz]
  rw [e]
  exact blk_c (heap_alloc_new _ _) (by simpa using hj)
end Go.Proofs.Ytndgdpefoidfbaa
