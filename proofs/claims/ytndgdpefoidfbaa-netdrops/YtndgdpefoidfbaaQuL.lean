/- An append, a load of a wide struct, a slice of one, in a region that draws; a row of one's own and one element more (out of PoH). mkQuO.py writes it. -/
import Derived.Test.YtndgdpefoidfbaaQuGm
import Derived.Great.BuildSlice
import Derived.Deep.RegionLaw
namespace Go.Proofs.Ytndgdpefoidfbaa
open Go.RowKit Go.Maps
theorem get_snocM {α : Type} {l : List α} {a b : α} {i : Nat} (h : (l ++ [a])[i]? = some b) : (i < l.length ∧ l[i]? = some b) ∨ (i = l.length ∧ b = a) := by
  rcases Nat.lt_or_ge i l.length with c | c
  · rw [List.getElem?_append_left c] at h; exact Or.inl ⟨c, h⟩
  · rw [List.getElem?_append_right c] at h
    rcases Nat.eq_zero_or_pos (i - l.length) with d | d
    · rw [d] at h; simp at h; exact Or.inr ⟨by omega, h.symm⟩
    · rw [List.getElem?_eq_none (by simp; omega)] at h; cases h
theorem cellK_snocM {α ξ : Type} {K : EK α ξ} {l : List α} {xs : List ξ} (hl : xs.length = l.length) (a : α) (x : ξ) : cellK K (l ++ [a]) (xs ++ [x]) = cellK K l xs ++ K.C a x := by
  unfold cellK rowsK
  rw [List.zipWith_append hl.symm]
  simp
theorem OwL.snocK {α ξ : Type} {K : EK α ξ} {B : Nat} {w1 w3 w4 : World} {v v' : Value} {l : List α} {xs : List ξ} {c : α} {x : ξ} (ho : OwL K B w1 v l xs) (hb : Below w1.heap.size w1 w3) (hB : B ≤ w1.heap.size) (hc : K.O w1.heap.size w3 c x)
    (hrow : w4.ownsRow B K.t K.c v' (l.length + 1) (cellK K l xs ++ K.C c x)) (hg : w3.grownBy w4 v.ownBlock) (hv : v'.ownBlock = v.ownBlock ∨ v'.ownBlock = some w3.heap.size) : OwL K B w4 v' (l ++ [c]) (xs ++ [x]) := by
  have hf := Fr.ofGrown hg
  have kp : ∀ (i : Nat) (a : α) (y : ξ), l[i]? = some a → xs[i]? = some y → K.O B w4 a y := fun i a y ha hy => K.keep _ _ _ _ _ (ho.el i a y ha hy) (fun z hz => by
    have h1 := (ho.lt z (zK_el hy hz)).2
    rw [hf.block z (Nat.lt_of_lt_of_le h1 hb.size) (fun q => ho.self z i y (by simpa using q) hy hz), hb.block z h1])
  have hcn : K.O w1.heap.size w4 c x := K.keep _ _ _ _ _ hc (fun z hz => by
    have h1 := K.lt _ _ _ _ hc z hz
    refine hf.block z h1.2 (fun q => ?_)
    have := (World.ownsRow.lt ho.row z (by simpa using q)).2
    omega)
  have hlt : ∀ (i : Nat) (y : ξ) (z : Nat), xs[i]? = some y → z ∈ K.Z y → z < w1.heap.size := fun i y z hy hz => (ho.lt z (zK_el hy hz)).2
  refine ⟨by simp [ho.xl], ?_, fun i a y ha hy => ?_, fun i j y y' z hy hy' hz hz' => ?_, fun z i y hz hy hzy => ?_⟩
  · rw [cellK_snocM ho.xl, List.length_append]; exact hrow
  · rcases get_snocM ha with ⟨h1, h2⟩ | ⟨h1, h2⟩
    · rcases get_snocM hy with ⟨h3, h4⟩ | ⟨h3, h4⟩
      · exact kp i a y h2 h4
      · rw [ho.xl] at h3; omega
    · rcases get_snocM hy with ⟨h3, h4⟩ | ⟨h3, h4⟩
      · rw [ho.xl] at h3; omega
      · subst h2 h4; exact K.mono _ _ _ _ _ hcn hB
  · rcases get_snocM hy with ⟨h1, h2⟩ | ⟨h1, h2⟩ <;> rcases get_snocM hy' with ⟨h3, h4⟩ | ⟨h3, h4⟩
    · exact ho.ap i j y y' z h2 h4 hz hz'
    · subst h4; have h5 := hlt i y z h2 hz; have h6 := (K.lt _ _ _ _ hc z hz').1; omega
    · subst h2; have h5 := hlt j y' z h4 hz'; have h6 := (K.lt _ _ _ _ hc z hz).1; omega
    · omega
  · rcases get_snocM hy with ⟨h1, h2⟩ | ⟨h1, h2⟩
    · rcases hv with q | q
      · exact ho.self z i y (by rw [← q]; exact hz) h2 hzy
      · rw [q] at hz; cases hz
        have := hlt i y _ h2 hzy
        have := hb.size
        omega
    · subst h2
      have h5 := K.lt _ _ _ _ hc z hzy
      rcases hv with q | q
      · have := (World.ownsRow.lt ho.row z (by rw [← q]; exact hz)).2; omega
      · rw [q] at hz; cases hz; omega
theorem foldz (cs : List Value) : ∀ (A : Array Value) (i : Nat), (cs.zipIdx i).foldl (fun acc (p : Value × Nat) => acc.setIfInBounds (0 + p.2) p.1) A = pk A i cs := by
  induction cs with
  | nil => intro A i; rfl
  | cons v r ih => intro A i; rw [List.zipIdx_cons, List.foldl_cons, ih]; simp [pk]
theorem fill_one {n : Nat} {Z : Array Value} {cs : List Value} (hc : cs.length = n) (hz : Z.size = n) : Instr.fill (fun i => some (i * n, n)) Z [(0, .agg cs.toArray)] = some cs.toArray := by
  have e : (Value.agg cs.toArray).cells = cs.toArray := rfl
  have h1 : (cs.toArray.zipIdx.foldl (fun acc (p : Value × Nat) => acc.setIfInBounds (0 + p.2) p.1) Z) = cs.toArray := by
    rw [← Array.foldl_toList, Array.toList_zipIdx]
    have := foldz cs Z 0
    simp only at this ⊢
    rw [this, pk_all (by rw [hc, hz])]
  simp only [Instr.fill, e, Nat.zero_mul]
  rw [if_neg (by simp; omega)]
  exact congrArg some h1
theorem cells_newM (w : World) (cs : List Value) (t : TypeId) : ∀ j u, cs[j]? = some u → (w.alloc (.cells cs.toArray t)).cell? ((⟨w.heap.size, 0, none⟩ : Addr).add j) = some u := by
  intro j u hj
  have e : (⟨w.heap.size, 0, none⟩ : Addr).add j = ⟨w.heap.size, j, none⟩ := by unfold Addr.add; by_cases hz : j = 0 <;> simp [hz]
  rw [e]
  exact blk_c (heap_alloc_new _ _) (by simpa using hj)
end Go.Proofs.Ytndgdpefoidfbaa
