/- A log comes into a row of logs (slices.Insert at logs): plainly, and what a row of one's own is then. No walk is in this text. -/
import Derived.Test.YtnfhbmlmemifjaaGreatDoorZ20
import Derived.Laws.IdiomCopy
namespace Go.Proofs.YtnfhbmlmemifjaaGreatDoor
open Go.RowKit Go.Maps
def insAt {α : Type} (l : List α) (k : Nat) (a : α) : List α := l.take k ++ a :: l.drop k
theorem insAt_len {α : Type} (l : List α) (k : Nat) (a : α) : (insAt l k a).length = l.length + 1 := by
  unfold insAt; simp; omega
theorem insAt_lt {α : Type} {l : List α} {k j : Nat} (a : α) (hk : k ≤ l.length) (hj : j < k) : (insAt l k a)[j]? = l[j]? := by
  unfold insAt
  rw [List.getElem?_append_left (by simp; omega), List.getElem?_take_of_lt hj]
theorem insAt_eq {α : Type} {l : List α} {k : Nat} (a : α) (hk : k ≤ l.length) : (insAt l k a)[k]? = some a := by
  unfold insAt
  rw [List.getElem?_append_right (by simp; omega)]
  simp [Nat.min_eq_left hk]
theorem insAt_gt {α : Type} {l : List α} {k j : Nat} (a : α) (hk : k ≤ l.length) (hj : k < j) : (insAt l k a)[j]? = l[j - 1]? := by
  unfold insAt
  rw [List.getElem?_append_right (by simp; omega)]
  have e : j - (l.take k).length = (j - k - 1) + 1 := by simp [Nat.min_eq_left hk]; omega
  rw [e, List.getElem?_cons_succ, List.getElem?_drop]
  congr 1; omega
theorem fl_take {c : Nat} {R : List (List Value)} (h : ∀ r ∈ R, r.length = c) (k : Nat) : (R.take k).flatten = R.flatten.take (k * c) := by
  induction R generalizing k with
  | nil => simp
  | cons a r ih =>
    cases k with
    | zero => simp
    | succ k =>
      have ha := h a (by simp)
      rw [List.take_succ_cons, List.flatten_cons, List.flatten_cons, ih (fun x hx => h x (by simp [hx])), Nat.add_mul, Nat.one_mul, Nat.add_comm (k * c) c, List.take_append]
      rw [List.take_of_length_le (show a.length ≤ c + k * c by omega), ha, Nat.add_sub_cancel_left]
theorem fl_drop {c : Nat} {R : List (List Value)} (h : ∀ r ∈ R, r.length = c) (k : Nat) : (R.drop k).flatten = R.flatten.drop (k * c) := by
  induction R generalizing k with
  | nil => simp
  | cons a r ih =>
    cases k with
    | zero => simp
    | succ k =>
      have ha := h a (by simp)
      rw [List.drop_succ_cons, List.flatten_cons, ih (fun x hx => h x (by simp [hx])), Nat.add_mul, Nat.one_mul, Nat.add_comm (k * c) c, List.drop_append]
      rw [List.drop_eq_nil_of_le (show a.length ≤ c + k * c by omega), ha, Nat.add_sub_cancel_left, List.nil_append]
theorem cellK_ins {α ξ : Type} {K : EK α ξ} {l : List α} {xs : List ξ} (hl : xs.length = l.length) (k : Nat) (a : α) (x : ξ) : cellK K (insAt l k a) (insAt xs k x) = (cellK K l xs).take (k * K.c) ++ (K.C a x ++ (cellK K l xs).drop (k * K.c)) := by
  unfold cellK insAt
  have h1 : rowsK K (l.take k ++ a :: l.drop k) (xs.take k ++ x :: xs.drop k) = (rowsK K l xs).take k ++ K.C a x :: (rowsK K l xs).drop k := by
    unfold rowsK
    rw [List.zipWith_append (by simp [hl]), List.zipWith_cons_cons, List.take_zipWith, List.drop_zipWith]
  rw [h1, List.flatten_append, List.flatten_cons, fl_take rowsK_len, fl_drop rowsK_len]
def nilX : Value × List (Cv × List Value) := (.slice none 0 0, [])
theorem nilX_Z : kLg.Z nilX = [] := rfl
theorem OwL.ins {B : Nat} {w W w' : World} {v v' : Value} {l : List Lg} {xs : List (Value × List (Cv × List Value))} {k : Nat} {G : Int} (ho : OwL kLg B w v l xs) (hb : Below w.heap.size w W) (hf : Fr v.ownBlock.toList W w') (hk : k ≤ l.length)
    (hrow : w'.ownsRow B 95 2 v' (l.length + 1) ((cellK kLg l xs).take (k * 2) ++ ([.int .i64 G, .slice none 0 0] ++ (cellK kLg l xs).drop (k * 2)))) (hv : v'.ownBlock = v.ownBlock ∨ ∀ b, v'.ownBlock = some b → w.heap.size ≤ b) :
    OwL kLg B w' v' (insAt l k (G, [])) (insAt xs k nilX) := by
  have hkx : k ≤ xs.length := by rw [ho.xl]; exact hk
  have kp : ∀ (i : Nat) (a : Lg) (x : Value × List (Cv × List Value)), l[i]? = some a → xs[i]? = some x → kLg.O B w' a x := fun i a x ha hx => kLg.keep _ _ _ _ _ (ho.el i a x ha hx) (fun z hz => by
    have h1 := (ho.lt z (zK_el hx hz)).2
    rw [hf.block z (Nat.lt_of_lt_of_le h1 hb.size) (fun c => ho.self z i x (by simpa using c) hx hz), hb.block z h1])
  have hZ : ∀ (j : Nat) (x : Value × List (Cv × List Value)) (z : Nat), (insAt xs k nilX)[j]? = some x → z ∈ kLg.Z x → ∃ i, xs[i]? = some x ∧ j ≠ k ∧ (j < k ∧ i = j ∨ k < j ∧ i = j - 1) := fun j x z hx hz => by
    rcases Nat.lt_trichotomy j k with c | c | c
    · rw [insAt_lt _ hkx c] at hx; exact ⟨j, hx, by omega, Or.inl ⟨c, rfl⟩⟩
    · subst c; rw [insAt_eq _ hkx] at hx; cases hx; rw [nilX_Z] at hz; cases hz
    · rw [insAt_gt _ hkx c] at hx; exact ⟨j - 1, hx, by omega, Or.inr ⟨c, rfl⟩⟩
  refine ⟨by rw [insAt_len, insAt_len, ho.xl], ?_, fun i a x ha hx => ?_, fun i j x y z hx hy hzx hzy => ?_, fun z i x hz hx hzx => ?_⟩
  · rw [insAt_len, cellK_ins ho.xl k]; exact hrow
  · rcases Nat.lt_trichotomy i k with c | c | c
    · rw [insAt_lt _ hk c] at ha; rw [insAt_lt _ hkx c] at hx; exact kp i a x ha hx
    · subst c; rw [insAt_eq _ hk] at ha; rw [insAt_eq _ hkx] at hx; cases ha; cases hx; exact OwL.nil kCm B w'
    · rw [insAt_gt _ hk c] at ha; rw [insAt_gt _ hkx c] at hx; exact kp _ a x ha hx
  · obtain ⟨i', hi', _, hc⟩ := hZ i x z hx hzx
    obtain ⟨j', hj', _, hd⟩ := hZ j y z hy hzy
    have := ho.ap i' j' x y z hi' hj' hzx hzy
    omega
  · obtain ⟨i', hi', _, _⟩ := hZ i x z hx hzx
    rcases hv with c | c
    · exact ho.self z i' x (by rw [← c]; exact hz) hi' hzx
    · have h1 := c z hz
      have h2 := (ho.lt z (zK_el hi' hzx)).2
      omega
theorem setCells_pokes (b : Nat) : ∀ (vs : List Value) (o : Nat) (w : World), w.setCells b o vs = pokes w b o vs
  | [], _, _ => rfl
  | v :: r, o, w => by rw [World.setCells, pokes, setCells_pokes b r]
theorem run_copy_cellsK {P : Program} (w : World) (dT sT ty elem : TypeId) (z b o dLen dCap : Nat) (a : Addr) (sLen sCap : Nat) (cs : List Value)
    (hu : P.underlying dT = some (.slice elem)) (hs : (P.info? elem).map (·.size) = some z) (hn : cs.length = Nat.min sLen dLen * z)
    (hsrc : ∀ j v, cs[j]? = some v → w.cell? (a.add j) = some v) (hc : ∀ j, j < cs.length → (w.cell? ⟨b, o + j, none⟩).isSome = true) (hf : ∀ j, j < cs.length → w.frozen? ⟨b, o + j, none⟩ = false) (h1 : ∀ v ∈ cs, v.oneCell' = true) :
    (Builtin.copy_ #[dT, sT] ty #[.slice (some ⟨b, o, none⟩) dLen dCap, .slice (some a) sLen sCap]).run P w = .ok (goInt (Nat.min sLen dLen)) (w.setCells b o cs) := by
  have hl := run_loadCells_list (P := P) w a cs hsrc
  have hst := run_storeCells_cells (P := P) b o cs 0 w (by simpa using hc) (by simpa using hf) h1
  cases hq : P.info? elem with
  | none => simp [hq] at hs
  | some i =>
    have hi : i.size = z := by simpa [hq] using hs
    rw [hn] at hl
    simp at hst
    simp [Builtin.copy_, run_underlying hu, Builtin.lenOf, Builtin.firstCells, sizeOf, typeInfo, hq, hi, hl, hst]
theorem pk_size (vs : List Value) : ∀ (cs : Array Value) (i : Nat), (pk cs i vs).size = cs.size := by
  induction vs with
  | nil => intro cs i; rfl
  | cons v r ih => intro cs i; rw [pk, ih]; simp
theorem pk_ins {cur : Array Value} {cells nw : List Value} {p q m : Nat} (ht : cur.toList.take cells.length = cells) (hp : p ≤ cells.length) (hq : q = p + nw.length) (hm : m = cells.length + nw.length) (hfit : m ≤ cur.size) :
    ((pk (pk cur q (cells.drop p)) p nw).toList).take m = cells.take p ++ (nw ++ cells.drop p) := by
  have hsz1 : (pk cur q (cells.drop p)).size = cur.size := pk_size _ _ _
  apply List.ext_getElem?
  intro j
  have hc : ∀ j, j < cells.length → cur[j]? = cells[j]? := fun j hj => by
    conv => rhs; rw [← ht]
    rw [List.getElem?_take_of_lt hj, Array.getElem?_toList]
  by_cases hj : j < m
  · rw [List.getElem?_take_of_lt hj, Array.getElem?_toList, pk_get _ _ _ (by rw [hsz1]; omega)]
    by_cases c1 : p ≤ j ∧ j < p + nw.length
    · rw [if_pos c1, List.getElem?_append_right (by rw [List.length_take]; omega), List.getElem?_append_left (by rw [List.length_take]; omega)]
      congr 1
      rw [List.length_take]; omega
    · rw [if_neg c1, pk_get _ _ _ (by rw [List.length_drop]; omega)]
      by_cases c2 : j < p
      · rw [if_neg (by omega), List.getElem?_append_left (by rw [List.length_take]; omega), List.getElem?_take_of_lt c2]
        exact hc j (by omega)
      · rw [if_pos (by rw [List.length_drop]; omega), List.getElem?_append_right (by rw [List.length_take]; omega), List.getElem?_append_right (by rw [List.length_take]; omega)]
        congr 1
        rw [List.length_take]; omega
  · rw [List.getElem?_eq_none (by rw [List.length_take]; omega), List.getElem?_eq_none (by simp [List.length_take, List.length_drop]; omega)]
end Go.Proofs.YtnfhbmlmemifjaaGreatDoor
