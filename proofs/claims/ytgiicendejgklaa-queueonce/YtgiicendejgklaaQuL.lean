/- An append, a load of a wide struct, a slice of one, in a region that draws; a row of one's own and one element more (out of PoH). mkQuO.py writes it. -/
import Derived.Test.YtgiicendejgklaaQuGm
import Derived.Great.BuildSlice
import Derived.Deep.RegionLaw
namespace Go.Proofs.Ytgiicendejgklaa
open Go.RowKit Go.Maps
theorem fl_set1 {c : Nat} {j : Nat} {u : Value} (hj : j < c) : ∀ {R : List (List Value)} {k : Nat} {r : List Value}, (∀ r ∈ R, r.length = c) → R[k]? = some r → R.flatten.set (k * c + j) u = (R.set k (r.set j u)).flatten
  | [], k, r, _, h => by simp at h
  | a :: R, 0, r, hl, h => by
    simp at h; subst h
    have := hl a (by simp)
    rw [Nat.zero_mul, Nat.zero_add, List.flatten_cons, List.set_cons_zero, List.flatten_cons, List.set_append_left _ _ (by omega)]
  | a :: R, k + 1, r, hl, h => by
    have ha := hl a (by simp)
    rw [List.getElem?_cons_succ] at h
    rw [List.flatten_cons, List.set_cons_succ, List.flatten_cons, List.set_append_right _ _ (by rw [ha, Nat.add_mul]; omega), ← fl_set1 hj (fun r hr => hl r (by simp [hr])) h]
    congr 2
    rw [ha, Nat.add_mul]; omega
theorem cellK_put {α ξ : Type} {K : EK α ξ} {l : List α} {xs : List ξ} {k j : Nat} {a a' : α} {x x' : ξ} {u : Value} (ha : l[k]? = some a) (hx : xs[k]? = some x) (hj : j < K.c) (hC : (K.C a x).set j u = K.C a' x') : (cellK K l xs).set (k * K.c + j) u = cellK K (l.set k a') (xs.set k x') := by
  have hk : k < l.length := (List.getElem?_eq_some_iff.1 ha).1
  have hkx : k < xs.length := (List.getElem?_eq_some_iff.1 hx).1
  unfold cellK
  rw [fl_set1 hj rowsK_len (r := K.C a x) (by unfold rowsK; rw [List.getElem?_zipWith, ha, hx]), hC]
  congr 1
  unfold rowsK
  apply List.ext_getElem?
  intro i
  by_cases c : k = i
  · subst c
    rw [List.getElem?_set_self (by rw [List.length_zipWith]; omega), List.getElem?_zipWith, List.getElem?_set_self hk, List.getElem?_set_self hkx]
  · rw [List.getElem?_set_ne c, List.getElem?_zipWith, List.getElem?_zipWith, List.getElem?_set_ne c, List.getElem?_set_ne c]
theorem OwL.put {α ξ : Type} {K : EK α ξ} {B g : Nat} {w w' : World} {v : Value} {l : List α} {xs : List ξ} (ho : OwL K B w v l xs) (hg : v.ownBlock = some g) {k j : Nat} {a a' : α} {x x' : ξ} {u : Value} (ha : l[k]? = some a) (hx : xs[k]? = some x) (hj : j < K.c) (hC : (K.C a x).set j u = K.C a' x')
    (hO : K.O B (w'.setCell ⟨g, k * K.c + j, none⟩ u) a' x') (hZ : ∀ z ∈ K.Z x', z ∈ K.Z x ∨ w.heap.size ≤ z) (hkp : ∀ z, z < w.heap.size → z ∉ K.Z x → w'.heap[z]? = w.heap[z]?) :
    OwL K B (w'.setCell ⟨g, k * K.c + j, none⟩ u) v (l.set k a') (xs.set k x') := by
  have hk : k < l.length := (List.getElem?_eq_some_iff.1 ha).1
  have hkx : k < xs.length := (List.getElem?_eq_some_iff.1 hx).1
  have hgl := World.ownsRow.lt ho.row g hg
  have row1 : w'.ownsRow B K.t K.c v l.length (cellK K l xs) := own_keep ho.row (fun z hz => by rw [hg] at hz; cases hz; exact hkp g hgl.2 (ho.self g k x hg hx))
  have row2 := own_set row1 hg (j := k * K.c + j) u
  rw [cellK_put ha hx hj hC] at row2
  refine ⟨by simp [ho.xl], by rw [List.length_set]; exact row2, fun i b y hb hy => ?_, fun i i' y y' z hy hy' hz hz' => ?_, fun z i y hz hy hzy => ?_⟩
  · by_cases c : k = i
    · subst c
      rw [List.getElem?_set_self hk] at hb
      rw [List.getElem?_set_self hkx] at hy
      cases hb; cases hy
      exact hO
    · rw [List.getElem?_set_ne c] at hb
      rw [List.getElem?_set_ne c] at hy
      refine K.keep _ _ _ _ _ (ho.el i b y hb hy) (fun z hz => ?_)
      have h1 := (ho.lt z (zK_el hy hz)).2
      rw [other_c (fun q => ho.self z i y (by rw [q]; exact hg) hy hz)]
      exact hkp z h1 (fun q => c (ho.ap k i x y z hx hy q hz))
  · by_cases c : k = i <;> by_cases d : k = i'
    · omega
    · subst c
      rw [List.getElem?_set_self hkx] at hy
      rw [List.getElem?_set_ne d] at hy'
      cases hy
      rcases hZ z hz with q | q
      · exact ho.ap k i' x y' z hx hy' q hz'
      · have := (ho.lt z (zK_el hy' hz')).2; omega
    · subst d
      rw [List.getElem?_set_self hkx] at hy'
      rw [List.getElem?_set_ne c] at hy
      cases hy'
      rcases hZ z hz' with q | q
      · exact ho.ap i k y x z hy hx hz q
      · have := (ho.lt z (zK_el hy hz)).2; omega
    · rw [List.getElem?_set_ne c] at hy
      rw [List.getElem?_set_ne d] at hy'
      exact ho.ap i i' y y' z hy hy' hz hz'
  · rw [hg] at hz; cases hz
    by_cases c : k = i
    · subst c
      rw [List.getElem?_set_self hkx] at hy
      cases hy
      rcases hZ g hzy with q | q
      · exact ho.self g k x hg hx q
      · omega
    · rw [List.getElem?_set_ne c] at hy
      exact ho.self g i y hg hy hzy
theorem step_appM {P : Program} {ops : Array Oper} {o : Oper} {a : Act} {w : World} {K : Act → World → Prop} {Q : Exit → Act → World → Prop} {E : Prop}
    (hg : o.guard = none) (s x : Operand) (t : TypeId) (hop : o.op = Op.call { callee := Callee.builtin Builtin.append, args := #[s, x], argTypes := #[t, t] })
    (base : Nat) (e : TypeId) (i : TypeInfo) (z : Value) (size bytes : Nat) (ht : P.underlying t = some (.slice e)) (hi : P.info? e = some i) (hz : i.zero = some z)
    (hsize : i.size = size) (hby : i.bytes = bytes) (hzs : z.cells.size = size) (hsz : 0 < size)
    (v : Value) (n : Nat) (xs : List Value) (hs : a.eval s = v) (hown : w.ownsRow base e size v n xs)
    (ad : Addr) (m c : Nat) (news : List Value) (hx : a.eval x = .slice (some ad) m c) (hl : news.length = m * size) (hnews : ∀ j u, news[j]? = some u → w.cell? (ad.add j) = some u) (h1 : ∀ u ∈ news, u.oneCell' = true)
    (h63 : n + m ≤ maxLen) (hbytes : (n + m) * bytes ≤ 140737488355328) (hbase : base ≤ w.heap.size)
    (hK : ∀ v' w', w'.ownsRow base e size v' (n + m) (xs ++ news) → w.grownBy w' v.ownBlock → (v'.ownBlock = v.ownBlock ∨ v'.ownBlock = some w.heap.size) → K (a.put o.dst v') w') :
    if Region.wanted o (yielded ops a.tmps) = true then Oper.wp P o a w K Q else E := by
  have hw : Region.wanted o (yielded ops a.tmps) = true := by simp [Region.wanted, hg]
  rw [if_pos hw]
  obtain ⟨v', w', hr, h2, h3, _, h5⟩ := run_append_own_at (P := P) w base t o.type e i z size bytes ht hi hz hsize hby hzs hsz v n xs hown ad m c news hl hnews h1 h63 hbytes hbase
  unfold Oper.wp
  simp [execOp, hop, resolve, invoke, builtin, hs, hx, hr, Result.andThen]
  exact hK v' w' h2 h3 h5
theorem get_snocM {α : Type} {l : List α} {a b : α} {i : Nat} (h : (l ++ [a])[i]? = some b) : (i < l.length ∧ l[i]? = some b) ∨ (i = l.length ∧ b = a) := by
  rcases Nat.lt_or_ge i l.length with c | c
  · rw [List.getElem?_append_left c] at h; exact Or.inl ⟨c, h⟩
  · rw [List.getElem?_append_right c] at h
    rcases Nat.eq_zero_or_pos (i - l.length) with d | d
    · rw [d] at h; simp at h; exact Or.inr ⟨by omega, h.symm⟩
    · rw [List.getElem?_eq_none (by simp; omega)] at h; cases h
theorem cellK_snocM {α ξ : Type} {K : EK α ξ} {l : List α} {xs : List ξ} (hl : xs.length = l.length) (a : α) (x : ξ) : cellK K (l ++ [a]) (xs ++ [x]) = cellK K l xs ++ K.C a x := by
  unfold cellK rowsK
  rw [List.zipWith_append hl.symm]
  simp
theorem OwL.snocK {α ξ : Type} {K : EK α ξ} {B : Nat} {w1 w3 w4 : World} {v v' : Value} {l : List α} {xs : List ξ} {c : α} {x : ξ} (ho : OwL K B w1 v l xs) (hb : Below w1.heap.size w1 w3) (hB : B ≤ w1.heap.size) (hc : K.O w1.heap.size w3 c x)
    (hrow : w4.ownsRow B K.t K.c v' (l.length + 1) (cellK K l xs ++ K.C c x)) (hg : w3.grownBy w4 v.ownBlock) (hv : v'.ownBlock = v.ownBlock ∨ v'.ownBlock = some w3.heap.size) : OwL K B w4 v' (l ++ [c]) (xs ++ [x]) := by
  have hf := Fr.ofGrown hg
  have kp : ∀ (i : Nat) (a : α) (y : ξ), l[i]? = some a → xs[i]? = some y → K.O B w4 a y := fun i a y ha hy => K.keep _ _ _ _ _ (ho.el i a y ha hy) (fun z hz => by
    have h1 := (ho.lt z (zK_el hy hz)).2
    rw [hf.block z (Nat.lt_of_lt_of_le h1 hb.size) (fun q => ho.self z i y (by simpa using q) hy hz), hb.block z h1])
  have hcn : K.O w1.heap.size w4 c x := K.keep _ _ _ _ _ hc (fun z hz => by
    have h1 := K.lt _ _ _ _ hc z hz
    refine hf.block z h1.2 (fun q => ?_)
    have := (World.ownsRow.lt ho.row z (by simpa using q)).2
    omega)
  have hlt : ∀ (i : Nat) (y : ξ) (z : Nat), xs[i]? = some y → z ∈ K.Z y → z < w1.heap.size := fun i y z hy hz => (ho.lt z (zK_el hy hz)).2
  refine ⟨by simp [ho.xl], ?_, fun i a y ha hy => ?_, fun i j y y' z hy hy' hz hz' => ?_, fun z i y hz hy hzy => ?_⟩
  · rw [cellK_snocM ho.xl, List.length_append]; exact hrow
  · rcases get_snocM ha with ⟨h1, h2⟩ | ⟨h1, h2⟩
    · rcases get_snocM hy with ⟨h3, h4⟩ | ⟨h3, h4⟩
      · exact kp i a y h2 h4
      · rw [ho.xl] at h3; omega
    · rcases get_snocM hy with ⟨h3, h4⟩ | ⟨h3, h4⟩
      · rw [ho.xl] at h3; omega
      · subst h2 h4; exact K.mono _ _ _ _ _ hcn hB
  · rcases get_snocM hy with ⟨h1, h2⟩ | ⟨h1, h2⟩ <;> rcases get_snocM hy' with ⟨h3, h4⟩ | ⟨h3, h4⟩
    · exact ho.ap i j y y' z h2 h4 hz hz'
    · subst h4; have h5 := hlt i y z h2 hz; have h6 := (K.lt _ _ _ _ hc z hz').1; omega
    · subst h2; have h5 := hlt j y' z h4 hz'; have h6 := (K.lt _ _ _ _ hc z hz).1; omega
    · omega
  · rcases get_snocM hy with ⟨h1, h2⟩ | ⟨h1, h2⟩
    · rcases hv with q | q
      · exact ho.self z i y (by rw [← q]; exact hz) h2 hzy
      · rw [q] at hz; cases hz
        have := hlt i y _ h2 hzy
        have := hb.size
        omega
    · subst h2
      have h5 := K.lt _ _ _ _ hc z hzy
      rcases hv with q | q
      · have := (World.ownsRow.lt ho.row z (by rw [← q]; exact hz)).2; omega
      · rw [q] at hz; cases hz; omega
theorem foldz (cs : List Value) : ∀ (A : Array Value) (i : Nat), (cs.zipIdx i).foldl (fun acc (p : Value × Nat) => acc.setIfInBounds (0 + p.2) p.1) A = pk A i cs := by
  induction cs with
  | nil => intro A i; rfl
  | cons v r ih => intro A i; rw [List.zipIdx_cons, List.foldl_cons, ih]; simp [pk]
theorem fill_one {n : Nat} {Z : Array Value} {cs : List Value} (hc : cs.length = n) (hz : Z.size = n) : Instr.fill (fun i => some (i * n, n)) Z [(0, .agg cs.toArray)] = some cs.toArray := by
  have e : (Value.agg cs.toArray).cells = cs.toArray := rfl
  have h1 : (cs.toArray.zipIdx.foldl (fun acc (p : Value × Nat) => acc.setIfInBounds (0 + p.2) p.1) Z) = cs.toArray := by
    rw [← Array.foldl_toList, Array.toList_zipIdx]
    have := foldz cs Z 0
    simp only at this ⊢
    rw [this, pk_all (by rw [hc, hz])]
  simp only [Instr.fill, e, Nat.zero_mul]
  rw [if_neg (by simp; omega)]
  exact congrArg some h1
theorem step_buildM {P : Program} {ops : Array Oper} {o : Oper} {a : Act} {w : World} {K : Act → World → Prop} {Q : Exit → Act → World → Prop} {E : Prop} (hg : o.guard = none) (t e : TypeId) (x : Operand) (hop : o.op = .buildSlice t 1 #[(0, x)])
    (cs : List Value) (hx : a.eval x = .agg cs.toArray) (ie : TypeInfo) (z : Value) (hu : P.underlying t = some (.slice e)) (hie : P.info? e = some ie) (hz : ie.zero = some z) (hs : ie.size = cs.length) (hc : 0 < cs.length) (hm : cs.length ≤ 1000)
    (h : K (a.put o.dst (.slice (some ⟨w.heap.size, 0, none⟩) 1 1)) (w.alloc (.cells cs.toArray e))) : if Region.wanted o (yielded ops a.tmps) = true then Oper.wp P o a w K Q else E := by
  have hw : Region.wanted o (yielded ops a.tmps) = true := by simp [Region.wanted, hg]
  rw [if_pos hw]
  refine wp_buildSlice t e 1 #[(0, x)] hop cs.toArray ie z hu hie hz (by rw [hs]; omega) (by rw [hs]; omega) ?_ h
  rw [hs]
  have : (#[(0, x)].map fun (p : Nat × Operand) => (p.1, a.eval p.2)).toList = [(0, .agg cs.toArray)] := by simp [hx]
  rw [show (#[(0, x)].map fun (i, x) => (i, a.eval x)).toList = [(0, Value.agg cs.toArray)] from this]
  exact fill_one rfl (by simp)
theorem cells_newM (w : World) (cs : List Value) (t : TypeId) : ∀ j u, cs[j]? = some u → (w.alloc (.cells cs.toArray t)).cell? ((⟨w.heap.size, 0, none⟩ : Addr).add j) = some u := by
  intro j u hj
  have e : (⟨w.heap.size, 0, none⟩ : Addr).add j = ⟨w.heap.size, j, none⟩ := by unfold Addr.add; by_cases hz : j = 0 <;> simp [hz]
  rw [e]
  exact blk_c (heap_alloc_new _ _) (by simpa using hj)
end Go.Proofs.Ytgiicendejgklaa
