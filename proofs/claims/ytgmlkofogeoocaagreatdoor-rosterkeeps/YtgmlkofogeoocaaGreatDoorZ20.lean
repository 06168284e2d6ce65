/- Texts joined: PoO PoJ PoJs PoJo. -/
import Derived.Test.YtgmlkofogeoocaaGreatDoorZ19
import Derived.Laws.IdiomCopy
import Derived.Lib.Overlaps
import Derived.Lib.AppendZerosOnto
import Derived.Laws.Externs
import Derived.Shelf.Spec.SlicesInsert
/- The library's slices.Insert at boxes: one box without mail comes into a row of one's own. -/
namespace Go.Proofs.YtgmlkofogeoocaaGreatDoor
open Go.RowKit Go.Maps
def insAt {α : Type} (l : List α) (k : Nat) (a : α) : List α := l.take k ++ a :: l.drop k
theorem insAt_len {α : Type} (l : List α) (k : Nat) (a : α) : (insAt l k a).length = l.length + 1 := by
  unfold insAt; simp; omega
theorem insAt_lt {α : Type} {l : List α} {k j : Nat} (a : α) (hk : k ≤ l.length) (hj : j < k) : (insAt l k a)[j]? = l[j]? := by
  unfold insAt
  rw [List.getElem?_append_left (by simp; omega), List.getElem?_take_of_lt hj]
theorem insAt_eq {α : Type} {l : List α} {k : Nat} (a : α) (hk : k ≤ l.length) : (insAt l k a)[k]? = some a := by
  unfold insAt
  rw [List.getElem?_append_right (by simp; omega)]
  simp [Nat.min_eq_left hk]
theorem insAt_gt {α : Type} {l : List α} {k j : Nat} (a : α) (hk : k ≤ l.length) (hj : k < j) : (insAt l k a)[j]? = l[j - 1]? := by
  unfold insAt
  rw [List.getElem?_append_right (by simp; omega)]
  have e : j - (l.take k).length = (j - k - 1) + 1 := by simp [Nat.min_eq_left hk]; omega
  rw [e, List.getElem?_cons_succ, List.getElem?_drop]
  congr 1; omega
theorem fl_take {c : Nat} {R : List (List Value)} (h : ∀ r ∈ R, r.length = c) (k : Nat) : (R.take k).flatten = R.flatten.take (k * c) := by
  induction R generalizing k with
  | nil => simp
  | cons a r ih =>
    cases k with
    | zero => simp
    | succ k =>
      have ha := h a (by simp)
      rw [List.take_succ_cons, List.flatten_cons, List.flatten_cons, ih (fun x hx => h x (by simp [hx])), Nat.add_mul, Nat.one_mul, Nat.add_comm (k * c) c, List.take_append]
      rw [List.take_of_length_le (show a.length ≤ c + k * c by omega), ha, Nat.add_sub_cancel_left]
theorem fl_drop {c : Nat} {R : List (List Value)} (h : ∀ r ∈ R, r.length = c) (k : Nat) : (R.drop k).flatten = R.flatten.drop (k * c) := by
  induction R generalizing k with
  | nil => simp
  | cons a r ih =>
    cases k with
    | zero => simp
    | succ k =>
      have ha := h a (by simp)
      rw [List.drop_succ_cons, List.flatten_cons, ih (fun x hx => h x (by simp [hx])), Nat.add_mul, Nat.one_mul, Nat.add_comm (k * c) c, List.drop_append]
      rw [List.drop_eq_nil_of_le (show a.length ≤ c + k * c by omega), ha, Nat.add_sub_cancel_left, List.nil_append]
theorem cellK_ins {α ξ : Type} {K : EK α ξ} {l : List α} {xs : List ξ} (hl : xs.length = l.length) (k : Nat) (a : α) (x : ξ) : cellK K (insAt l k a) (insAt xs k x) = (cellK K l xs).take (k * K.c) ++ (K.C a x ++ (cellK K l xs).drop (k * K.c)) := by
  unfold cellK insAt
  have h1 : rowsK K (l.take k ++ a :: l.drop k) (xs.take k ++ x :: xs.drop k) = (rowsK K l xs).take k ++ K.C a x :: (rowsK K l xs).drop k := by
    unfold rowsK
    rw [List.zipWith_append (by simp [hl]), List.zipWith_cons_cons, List.take_zipWith, List.drop_zipWith]
  rw [h1, List.flatten_append, List.flatten_cons, fl_take rowsK_len, fl_drop rowsK_len]
def nilXB : Value × List Mx := (.slice none 0 0, [])
theorem nilXB_Z : kBx.Z nilXB = [] := rfl
def nbx (G : Int) : Bx := ⟨G, false, [], 0⟩
theorem OwL.ins {B : Nat} {w W w' : World} {v v' : Value} {l : List Bx} {xs : List (Value × List Mx)} {k : Nat} {G : Int} (ho : OwL kBx B w v l xs) (hb : Below w.heap.size w W) (hf : Fr v.ownBlock.toList W w') (hk : k ≤ l.length)
    (hrow : w'.ownsRow B 69 4 v' (l.length + 1) ((cellK kBx l xs).take (k * 4) ++ ([.int .i64 G, .bool false, .slice none 0 0, .int .i64 0] ++ (cellK kBx l xs).drop (k * 4)))) (hv : v'.ownBlock = v.ownBlock ∨ ∀ b, v'.ownBlock = some b → w.heap.size ≤ b) :
    OwL kBx B w' v' (insAt l k (nbx G)) (insAt xs k nilXB) := by
  have hkx : k ≤ xs.length := by rw [ho.xl]; exact hk
  have kp : ∀ (i : Nat) (a : Bx) (x : Value × List Mx), l[i]? = some a → xs[i]? = some x → kBx.O B w' a x := fun i a x ha hx => kBx.keep _ _ _ _ _ (ho.el i a x ha hx) (fun z hz => by
    have h1 := (ho.lt z (zK_el hx hz)).2
    rw [hf.block z (Nat.lt_of_lt_of_le h1 hb.size) (fun c => ho.self z i x (by simpa using c) hx hz), hb.block z h1])
  have hZ : ∀ (j : Nat) (x : Value × List Mx) (z : Nat), (insAt xs k nilXB)[j]? = some x → z ∈ kBx.Z x → ∃ i, xs[i]? = some x ∧ j ≠ k ∧ (j < k ∧ i = j ∨ k < j ∧ i = j - 1) := fun j x z hx hz => by
    rcases Nat.lt_trichotomy j k with c | c | c
    · rw [insAt_lt _ hkx c] at hx; exact ⟨j, hx, by omega, Or.inl ⟨c, rfl⟩⟩
    · subst c; rw [insAt_eq _ hkx] at hx; cases hx; rw [nilXB_Z] at hz; cases hz
    · rw [insAt_gt _ hkx c] at hx; exact ⟨j - 1, hx, by omega, Or.inr ⟨c, rfl⟩⟩
  refine ⟨by rw [insAt_len, insAt_len, ho.xl], ?_, fun i a x ha hx => ?_, fun i j x y z hx hy hzx hzy => ?_, fun z i x hz hx hzx => ?_⟩
  · rw [insAt_len, cellK_ins ho.xl k]; exact hrow
  · rcases Nat.lt_trichotomy i k with c | c | c
    · rw [insAt_lt _ hk c] at ha; rw [insAt_lt _ hkx c] at hx; exact kp i a x ha hx
    · subst c; rw [insAt_eq _ hk] at ha; rw [insAt_eq _ hkx] at hx; cases ha; cases hx; exact OwL.nil kMl B w'
    · rw [insAt_gt _ hk c] at ha; rw [insAt_gt _ hkx c] at hx; exact kp _ a x ha hx
  · obtain ⟨i', hi', _, hc⟩ := hZ i x z hx hzx
    obtain ⟨j', hj', _, hd⟩ := hZ j y z hy hzy
    have := ho.ap i' j' x y z hi' hj' hzx hzy
    omega
  · obtain ⟨i', hi', _, _⟩ := hZ i x z hx hzx
    rcases hv with c | c
    · exact ho.self z i' x (by rw [← c]; exact hz) hi' hzx
    · have h1 := c z hz
      have h2 := (ho.lt z (zK_el hi' hzx)).2
      omega
theorem run_copy_cellsK {P : Program} (w : World) (dT sT ty elem : TypeId) (z b o dLen dCap : Nat) (a : Addr) (sLen sCap : Nat) (cs : List Value)
    (hu : P.underlying dT = some (.slice elem)) (hs : (P.info? elem).map (·.size) = some z) (hn : cs.length = Nat.min sLen dLen * z)
    (hsrc : ∀ j v, cs[j]? = some v → w.cell? (a.add j) = some v) (hc : ∀ j, j < cs.length → (w.cell? ⟨b, o + j, none⟩).isSome = true) (hf : ∀ j, j < cs.length → w.frozen? ⟨b, o + j, none⟩ = false) (h1 : ∀ v ∈ cs, v.oneCell' = true) :
    (Builtin.copy_ #[dT, sT] ty #[.slice (some ⟨b, o, none⟩) dLen dCap, .slice (some a) sLen sCap]).run P w = .ok (goInt (Nat.min sLen dLen)) (w.setCells b o cs) := by
  have hl := run_loadCells_list (P := P) w a cs hsrc
  have hst := run_storeCells_cells (P := P) b o cs 0 w (by simpa using hc) (by simpa using hf) h1
  cases hq : P.info? elem with
  | none => simp [hq] at hs
  | some i =>
    have hi : i.size = z := by simpa [hq] using hs
    rw [hn] at hl
    simp at hst
    simp [Builtin.copy_, run_underlying hu, Builtin.lenOf, Builtin.firstCells, sizeOf, typeInfo, hq, hi, hl, hst]
theorem pk_size (vs : List Value) : ∀ (cs : Array Value) (i : Nat), (pk cs i vs).size = cs.size := by
  induction vs with
  | nil => intro cs i; rfl
  | cons v r ih => intro cs i; rw [pk, ih]; simp
theorem pk_ins {cur : Array Value} {cells nw : List Value} {p q m : Nat} (ht : cur.toList.take cells.length = cells) (hp : p ≤ cells.length) (hq : q = p + nw.length) (hm : m = cells.length + nw.length) (hfit : m ≤ cur.size) :
    ((pk (pk cur q (cells.drop p)) p nw).toList).take m = cells.take p ++ (nw ++ cells.drop p) := by
  have hsz1 : (pk cur q (cells.drop p)).size = cur.size := pk_size _ _ _
  apply List.ext_getElem?
  intro j
  have hc : ∀ j, j < cells.length → cur[j]? = cells[j]? := fun j hj => by
    conv => rhs; rw [← ht]
    rw [List.getElem?_take_of_lt hj, Array.getElem?_toList]
  by_cases hj : j < m
  · rw [List.getElem?_take_of_lt hj, Array.getElem?_toList, pk_get _ _ _ (by rw [hsz1]; omega)]
    by_cases c1 : p ≤ j ∧ j < p + nw.length
    · rw [if_pos c1, List.getElem?_append_right (by rw [List.length_take]; omega), List.getElem?_append_left (by rw [List.length_take]; omega)]
      congr 1
      rw [List.length_take]; omega
    · rw [if_neg c1, pk_get _ _ _ (by rw [List.length_drop]; omega)]
      by_cases c2 : j < p
      · rw [if_neg (by omega), List.getElem?_append_left (by rw [List.length_take]; omega), List.getElem?_take_of_lt c2]
        exact hc j (by omega)
      · rw [if_pos (by rw [List.length_drop]; omega), List.getElem?_append_right (by rw [List.length_take]; omega), List.getElem?_append_right (by rw [List.length_take]; omega)]
        congr 1
        rw [List.length_take]; omega
  · rw [List.getElem?_eq_none (by rw [List.length_take]; omega), List.getElem?_eq_none (by simp [List.length_take, List.length_drop]; omega)]
theorem own_blkB {B : Nat} {w : World} {e : TypeId} {c n b cap : Nat} {xs : List Value} (h : w.ownsRow B e c (.slice (some ⟨b, 0, none⟩) n cap) n xs) : ∃ cur : Array Value, w.heap[b]? = some (.cells cur e (0, 0)) ∧ B ≤ b ∧ n ≤ cap ∧ cap ≤ maxLen ∧ cur.size = cap * c ∧ cur.toList.take (n * c) = xs := by
  rcases h.2 with ⟨q, _⟩ | ⟨g, cp, cur, q, h0, hg, q1, q2, q3, q4⟩
  · cases q
  · cases q; exact ⟨cur, hg, h0, q1, q2, q3, q4⟩
set_option maxRecDepth 100000 in
set_option maxHeartbeats 8000000 in
theorem insEnd_any {B : Nat} {w : World} {v : Value} {l : List Bx} {xs : List (Value × List Mx)} {G : Int} (ho : OwL kBx B w v l xs) (hB : B ≤ w.heap.size) (hl : l.length ≤ 1073741824) :
    Calls Tryz.prog 73 #[v, .int .i64 (l.length : Int), .slice (some ⟨w.heap.size, 0, none⟩) 1 1] (w.alloc (.cells #[.int .i64 G, .bool false, .slice none 0 0, .int .i64 0] 69)) fun e w' => ∃ v', e = .returned v' ∧ OwL kBx B w' v' (insAt l l.length (nbx G)) (insAt xs l.length nilXB) ∧ Fr v.ownBlock.toList w w' := by
  obtain ⟨j0, hj, hy0, hy1, hyb⟩ := info_parts infoKBox
  obtain ⟨W, hW⟩ : ∃ W, W = w.alloc (.cells #[.int .i64 G, .bool false, .slice none 0 0, .int .i64 0] 69) := ⟨_, rfl⟩
  have bW : Below w.heap.size w W := by rw [hW]; exact bwA _ _
  have hrow : W.ownsRow B 69 4 v l.length (cellK kBx l xs) := own_keep ho.row (fun k hk => bW.block k (World.ownsRow.lt ho.row k hk).2)
  have hnew := cells_newM w [.int .i64 G, .bool false, .slice none 0 0, .int .i64 0] 69
  rw [← hW] at hnew ⊢
  have hclen : (cellK kBx l xs).length = l.length * 4 := cellK_len ho.xl
  have HO := hide (And.intro ho (And.intro bW hclen))
  obtain ⟨a, c, hv⟩ := own_slice ho.row
  obtain ⟨N, hN⟩ : ∃ N, N = l.length := ⟨_, rfl⟩
  rw [← hN] at hv hrow hl ⊢
  have hNI : (N : Int) ≤ 1073741824 := by omega
  have h0 : (0 : Int) ≤ (N : Int) := by omega
  have hBW : B ≤ W.heap.size := Nat.le_trans hB bW.size
  have HH := hide (And.intro hrow (And.intro hnew (And.intro hl hBW)))
  have HN := hide hN
  have hAs : Hid (a = none ∨ ∃ b, a = some ⟨b, 0, none⟩) := by
    rcases hrow.2 with ⟨q, _⟩ | ⟨g, cp, cur, q, _⟩
    · rw [hv] at q; cases q; exact Or.inl rfl
    · rw [hv] at q; cases q; exact Or.inr ⟨g, rfl⟩
  have hN0 : Hid (a = none → N = 0 ∧ c = 0) := fun q => by
    rcases hrow.2 with ⟨q', q2⟩ | ⟨g, cp, cur, q', _⟩
    · rw [hv] at q'; cases q'; exact ⟨rfl, rfl⟩
    · rw [hv] at q'; cases q'; cases q
  subst hv
  clear ho bW hrow hnew hl hBW hN hclen hW
  have fin : Hid (∀ v' w', w'.ownsRow B 69 4 v' (N + 1) (cellK kBx l xs ++ [.int .i64 G, .bool false, .slice none 0 0, .int .i64 0]) → W.grownBy w' (Value.slice a N c).ownBlock → (v'.ownBlock = (Value.slice a N c).ownBlock ∨ v'.ownBlock = some W.heap.size) → OwL kBx B w' v' (insAt l N (nbx G)) (insAt xs N nilXB) ∧ Fr (Value.slice a N c).ownBlock.toList w w') := fun v' w' h1 h2 h3 => by
    obtain ⟨ho, bW, hclen⟩ := unhide HO
    have e := unhide HN
    refine ⟨?_, (Fr.ofBelow bW).trans (Fr.ofGrown h2) (fun _ _ q => by cases q) (fun _ _ q => q)⟩
    have := ho.ins (k := N) (G := G) bW (Fr.ofGrown h2) (by omega) (v' := v') (by
      rw [List.take_of_length_le (by rw [hclen]; omega), List.drop_eq_nil_of_le (by rw [hclen]; omega), List.append_nil, ← e]
      exact h1) (h3.imp (fun q => q) (fun q b hb => by rw [q] at hb; cases hb; exact bW.size))
    exact this
  by_cases hz : N = 0 ∧ a = none
  · obtain ⟨rfl, rfl⟩ := hz
    obtain ⟨-, rfl⟩ := unhide hN0 rfl
    go_enter Tryz.func73, Tryz.ntmps73
    go_wp2_with (at_builtin; refine wpList_append_own_at _ rfl (.tmp 23) (.tmp 24) 27 rfl B 69 j0 (.agg #[.int .i64 0, .bool false, .slice none 0 0, .int .i64 0]) 4 48 Tryz.underlying27 hj hy0 hy1 hyb rfl (by decide) _ 0 (cellK kBx l xs) rfl (unhide HH).1 ⟨w.heap.size, 0, none⟩ 1 1 [.int .i64 G, .bool false, .slice none 0 0, .int .i64 0] rfl rfl (unhide HH).2.1 (by intro u hu; simp at hu; rcases hu with rfl | rfl | rfl | rfl <;> rfl) ?c3a ?c4a ?c5a ?nxa)
    case c3a => unfold maxLen; omega
    case c5a => exact (unhide HH).2.2.2
    case nxa =>
      intro v' w3 hown' hgrow _ hat
      have HR := hide (unhide fin v' w3 hown' hgrow hat)
      obtain ⟨a', c', rfl⟩ := own_slice hown'
      clear hown' hgrow hat
      go_wp2_with fail
      go_ret
      exact ⟨_, rfl, (unhide HR).1, (unhide HR).2⟩
  · obtain ⟨b, rfl⟩ : ∃ b, a = some ⟨b, 0, none⟩ := by
      rcases unhide hAs with q | q
      · exact absurd ⟨(unhide hN0 q).1, q⟩ hz
      · exact q
    clear hz hAs hN0
    by_cases hcN : c = N
    · subst hcN
      go_enter Tryz.func73, Tryz.ntmps73
      go_wp2_with (at_builtin; refine wpList_append_own_at _ rfl (.tmp 23) (.tmp 24) 27 rfl B 69 j0 (.agg #[.int .i64 0, .bool false, .slice none 0 0, .int .i64 0]) 4 48 Tryz.underlying27 hj hy0 hy1 hyb rfl (by decide) _ c (cellK kBx l xs) rfl (unhide HH).1 ⟨w.heap.size, 0, none⟩ 1 1 [.int .i64 G, .bool false, .slice none 0 0, .int .i64 0] rfl rfl (unhide HH).2.1 (by intro u hu; simp at hu; rcases hu with rfl | rfl | rfl | rfl <;> rfl) ?c3b ?c4b ?c5b ?nxb)
      case c3b => have := (unhide HH).2.2.1; unfold maxLen; omega
      case c4b => have := (unhide HH).2.2.1; omega
      case c5b => exact (unhide HH).2.2.2
      case nxb =>
        intro v' w3 hown' hgrow _ hat
        have HR := hide (unhide fin v' w3 hown' hgrow hat)
        obtain ⟨a', c', rfl⟩ := own_slice hown'
        clear hown' hgrow hat
        go_wp2_with fail
        go_ret
        exact ⟨_, rfl, (unhide HR).1, (unhide HR).2⟩
    · go_enter Tryz.func73, Tryz.ntmps73
      go_wp2_with (at_builtin; refine wpList_append_own_at _ rfl (.tmp 23) (.tmp 24) 27 rfl B 69 j0 (.agg #[.int .i64 0, .bool false, .slice none 0 0, .int .i64 0]) 4 48 Tryz.underlying27 hj hy0 hy1 hyb rfl (by decide) _ N (cellK kBx l xs) rfl (unhide HH).1 ⟨w.heap.size, 0, none⟩ 1 1 [.int .i64 G, .bool false, .slice none 0 0, .int .i64 0] rfl rfl (unhide HH).2.1 (by intro u hu; simp at hu; rcases hu with rfl | rfl | rfl | rfl <;> rfl) ?c3c ?c4c ?c5c ?nxc)
      case c3c => have := (unhide HH).2.2.1; unfold maxLen; omega
      case c4c => have := (unhide HH).2.2.1; omega
      case c5c => exact (unhide HH).2.2.2
      case nxc =>
        intro v' w3 hown' hgrow _ hat
        have HR := hide (unhide fin v' w3 hown' hgrow hat)
        obtain ⟨a', c', rfl⟩ := own_slice hown'
        clear hown' hgrow hat
        go_wp2_with fail
        go_ret
        exact ⟨_, rfl, (unhide HR).1, (unhide HR).2⟩
theorem addr_lit (b o j : Nat) : (⟨b, o, none⟩ : Addr).add j = ⟨b, o + j, none⟩ := by unfold Addr.add; by_cases hz : j = 0 <;> simp [hz]
set_option maxRecDepth 100000 in
set_option maxHeartbeats 8000000 in
theorem insRoom_any {B : Nat} {w : World} {b c : Nat} {l : List Bx} {xs : List (Value × List Mx)} {k : Nat} {G : Int} (ho : OwL kBx B w (.slice (some ⟨b, 0, none⟩) l.length c) l xs) (h1c : ∀ u ∈ cellK kBx l xs, u.oneCell' = true) (hk : k < l.length) (hl : l.length ≤ 1073741824) (hroom : l.length + 1 ≤ c) :
    Calls Tryz.prog 73 #[.slice (some ⟨b, 0, none⟩) l.length c, .int .i64 (k : Int), .slice (some ⟨w.heap.size, 0, none⟩) 1 1] (w.alloc (.cells #[.int .i64 G, .bool false, .slice none 0 0, .int .i64 0] 69)) fun e w' => ∃ v', e = .returned v' ∧ OwL kBx B w' v' (insAt l k (nbx G)) (insAt xs k nilXB) ∧ Fr [b] w w' := by
  obtain ⟨j0, hj, hy0, hy1, hyb⟩ := info_parts infoKBox
  have hsz : (Tryz.prog.info? 69).map (·.size) = some 4 := by rw [hj]; simp [hy1]
  obtain ⟨W, hW⟩ : ∃ W, W = w.alloc (.cells #[.int .i64 G, .bool false, .slice none 0 0, .int .i64 0] 69) := ⟨_, rfl⟩
  have bW : Below w.heap.size w W := by rw [hW]; exact bwA _ _
  have hrow2 : w.ownsRow B 69 4 (.slice (some ⟨b, 0, none⟩) l.length c) l.length (cellK kBx l xs) := ho.row
  obtain ⟨cur, hb0, hBb, hnc, hcm, hcs, hct⟩ := own_blkB hrow2
  clear hrow2
  have hbw : b < w.heap.size := lt_of_blk hb0
  have hb : W.heap[b]? = some (.cells cur 69 (0, 0)) := by rw [bW.block b hbw]; exact hb0
  have hv : W.heap[w.heap.size]? = some (.cells #[.int .i64 G, .bool false, .slice none 0 0, .int .i64 0] 69 (0, 0)) := by rw [hW]; exact heap_alloc_new _ _
  have hclen : (cellK kBx l xs).length = l.length * 4 := cellK_len ho.xl
  rw [← hW]
  obtain ⟨cs, hcsd⟩ : ∃ z, z = cellK kBx l xs := ⟨_, rfl⟩
  obtain ⟨N, hN⟩ : ∃ N, N = l.length := ⟨_, rfl⟩
  rw [← hcsd, ← hN] at hclen hct
  rw [← hcsd] at h1c
  rw [← hN] at hk hl hroom hnc ⊢
  have hcell : ∀ j u, cs[j]? = some u → cur[j]? = some u := fun j u hu => by
    have hj' := (List.getElem?_eq_some_iff.1 hu).1
    rw [← hct] at hu
    rw [List.getElem?_take_of_lt (by omega), Array.getElem?_toList] at hu
    exact hu
  have hcm63 : c ≤ 9223372036854775807 := by unfold maxLen at hcm; omega
  have hsa : W.shape? w.heap.size = some (69, 4) := by unfold World.shape?; rw [hv]; rfl
  have hsb : W.shape? b = some (69, cur.size) := by unfold World.shape?; rw [hb]
  have hov : Hid (∀ lb cb, (callFunc 103 #[.slice (some ⟨w.heap.size, 0, none⟩) 1 1, .slice (some ⟨b, (k + 1) * 4, none⟩) lb cb]).run Tryz.prog W = .ok (.value (.bool false)) W) := fun lb cb => by
    rw [run_callFunc_extern Tryz.func103 (by kernel_rfl) (by kernel_rfl) (by kernel_rfl) (e := Extern.SlicesOverlaps.overlaps #[27, 27] #[4]) (by kernel_rfl),
      Lib.run_overlaps_apart W 27 4 69 Tryz.underlying27 4 (fun w => by kernel_rfl) ⟨w.heap.size, 0, none⟩ ⟨b, (k + 1) * 4, none⟩ 1 1 lb cb (by show w.heap.size ≠ b; omega) 69 69 4 cur.size hsa hsb (by omega) (froz_b' hv) (froz_b' hv)]
    rfl
  obtain ⟨D, hD⟩ : ∃ D, D = cs.drop (k * 4) := ⟨_, rfl⟩
  have hDl : D.length = (N - k) * 4 := by rw [hD, List.length_drop, hclen]; omega
  have hcp1 : Hid (∀ ty dc sc, (Builtin.copy_ #[27, 27] ty #[.slice (some ⟨b, (k + 1) * 4, none⟩) (N + 1 - (k + 1)) dc, .slice (some ⟨b, k * 4, none⟩) (N + 1 - k) sc]).run Tryz.prog W.drew = .ok (goInt (Nat.min (N + 1 - k) (N + 1 - (k + 1)))) (W.drew.setCells b ((k + 1) * 4) D)) := fun ty dc sc =>
    run_copy_cellsK W.drew 27 27 ty 69 4 b ((k + 1) * 4) (N + 1 - (k + 1)) dc ⟨b, k * 4, none⟩ (N + 1 - k) sc D Tryz.underlying27 hsz (by rw [hDl]; simp only [Nat.min_def]; split <;> omega)
      (fun j u hj => by
        rw [addr_lit]
        rw [hD, List.getElem?_drop] at hj
        exact blk_c (W := W.drew) hb (hcell _ u hj))
      (fun j hj => by
        have hlt : (k + 1) * 4 + j < cur.size := by omega
        have : cur[(k + 1) * 4 + j]? = some (cur[(k + 1) * 4 + j]) := Array.getElem?_eq_getElem hlt
        rw [blk_c (W := W.drew) hb this]; rfl)
      (fun j hj => froz_b' (W := W.drew) hb) (fun u hu => h1c u (by rw [hD] at hu; exact List.mem_of_mem_drop hu))
  obtain ⟨W1, hW1⟩ : ∃ W1, W1 = W.drew.setCells b ((k + 1) * 4) D := ⟨_, rfl⟩
  have hb1 : W1.heap[b]? = some (.cells (pk cur ((k + 1) * 4) D) 69 (0, 0)) := by rw [hW1, setCells_pokesM]; exact pokes_at D W.drew _ cur hb
  have hv1 : W1.heap[w.heap.size]? = some (.cells #[.int .i64 G, .bool false, .slice none 0 0, .int .i64 0] 69 (0, 0)) := by rw [hW1, setCells_pokesM, pokes_other (by omega)]; exact hv
  have hs1 : (pk cur ((k + 1) * 4) D).size = c * 4 := by rw [pk_size, hcs]
  have hcp2 : Hid (∀ ty dc, (Builtin.copy_ #[27, 27] ty #[.slice (some ⟨b, k * 4, none⟩) (N + 1 - k) dc, .slice (some ⟨w.heap.size, 0, none⟩) 1 1]).run Tryz.prog W1 = .ok (goInt (Nat.min 1 (N + 1 - k))) (W1.setCells b (k * 4) [.int .i64 G, .bool false, .slice none 0 0, .int .i64 0])) := fun ty dc =>
    run_copy_cellsK W1 27 27 ty 69 4 b (k * 4) (N + 1 - k) dc ⟨w.heap.size, 0, none⟩ 1 1 [.int .i64 G, .bool false, .slice none 0 0, .int .i64 0] Tryz.underlying27 hsz (by simp only [List.length_cons, List.length_nil, Nat.min_def]; split <;> omega)
      (fun j u hj => by
        rw [addr_lit, Nat.zero_add]
        exact blk_c hv1 (by simpa using hj))
      (fun j hj => by
        simp at hj
        have hlt : k * 4 + j < (pk cur ((k + 1) * 4) D).size := by omega
        have : (pk cur ((k + 1) * 4) D)[k * 4 + j]? = some ((pk cur ((k + 1) * 4) D)[k * 4 + j]) := Array.getElem?_eq_getElem hlt
        rw [blk_c hb1 this]; rfl)
      (fun j hj => froz_b' hb1) (by intro u hu; simp at hu; rcases hu with rfl | rfl | rfl | rfl <;> rfl)
  have HF : Hid (∀ w', w' = W1.setCells b (k * 4) [.int .i64 G, .bool false, .slice none 0 0, .int .i64 0] → OwL kBx B w' (.slice (some ⟨b, 0, none⟩) (N + 1) c) (insAt l k (nbx G)) (insAt xs k nilXB) ∧ Fr [b] w w') := fun w' hw' => by
    have hf : Fr [b] W w' := by
      rw [hw', setCells_pokesM, hW1, setCells_pokesM]
      exact pokes_fr _ _ _ (pokes_fr _ _ _ ((Fr.refl [b] W).drew))
    refine ⟨?_, (Fr.ofBelow bW).trans hf (fun _ _ q => by cases q) (fun _ _ q => q)⟩
    refine ho.ins bW (v' := .slice (some ⟨b, 0, none⟩) (N + 1) c) hf (by omega) ?_ (Or.inl rfl)
    rw [← hcsd, ← hN]
    refine ⟨by simp only [List.length_append, List.length_take, List.length_drop, List.length_cons, List.length_nil, hclen]; omega, Or.inr ⟨b, c, pk (pk cur ((k + 1) * 4) D) (k * 4) [.int .i64 G, .bool false, .slice none 0 0, .int .i64 0], rfl, hBb, ?_, hroom, hcm, by rw [pk_size, pk_size, hcs], ?_⟩⟩
    · rw [hw', setCells_pokesM]; exact pokes_at _ _ _ _ hb1
    · rw [hD]
      exact pk_ins (cells := cs) (by rw [hclen]; exact hct) (by omega) (by simp; omega) (by simp; omega) (by omega)
  have HWs := hide hW1
  have q1 : ¬ ((k : Int) = (N : Int)) := by omega
  have q2 : ¬ ((c : Int) < (N : Int) + 1) := by omega
  have q3 : (0 : Int) ≤ (k : Int) := by omega
  have q4 : (k : Int) ≤ (N : Int) := by omega
  have q5 : ¬ c = k := by omega
  have q6 : ¬ c = k + 1 := by omega
  have q7 : (k : Int) ≤ (N : Int) + 1 := by omega
  have q8 : (N : Int) + 1 ≤ (c : Int) := by omega
  have q9 : (k : Int) + 1 ≤ (N : Int) + 1 := by omega
  have q10 : (0 : Int) ≤ (k : Int) + 1 := by omega
  have hw1 : IntKind.i64.wrap ((k : Int) + 1) = (k : Int) + 1 := by rw [IntKind.wrap_i64]; omega
  have hw2 : IntKind.i64.wrap ((N : Int) + 1) = (N : Int) + 1 := by rw [IntKind.wrap_i64]; omega
  have ht1 : ((k : Int) + 1).toNat = k + 1 := by omega
  have ht2 : ((N : Int) + 1).toNat = N + 1 := by omega
  have hNI : (N : Int) ≤ 1073741824 := by omega
  have hcI : (c : Int) ≤ 9223372036854775807 := by omega
  clear hW bW hb0 hBb hnc hcm hcs hct hbw hb hv hclen hcsd h1c hk hl hroom hcell hsa hsb hD hDl hW1 hb1 hv1 hs1 ho hN hcm63
  go_enter Tryz.func73, Tryz.ntmps73
  go_wp2_with (simp only [unhide hov])
  go_region_law (refine step_copy_runI rfl _ _ 27 27 rfl (.slice (some ⟨b, (k + 1) * 4, none⟩) (N + 1 - (k + 1)) (c - (k + 1))) (.slice (some ⟨b, k * 4, none⟩) (N + 1 - k) (c - k)) (by simp [Act.eval, Act.put]) (by simp [Act.eval, Act.put]) (unhide hcp1 _ _ _) ?_)
  rw [← unhide HWs]
  go_wp2_with fail
  rw [unhide hcp2 _ _]
  go_wp2_with fail
  go_ret
  exact ⟨_, rfl, (unhide HF _ rfl).1, (unhide HF _ rfl).2⟩
theorem pk_ins2 {cur : Array Value} {pre nw D : List Value} {p q m : Nat} (ht : cur.toList.take p = pre) (hp : pre.length = p) (hq : q = p + nw.length) (hm : m = q + D.length) (hfit : m ≤ cur.size) :
    ((pk (pk cur p nw) q D).toList).take m = pre ++ (nw ++ D) := by
  have hsz1 : (pk cur p nw).size = cur.size := pk_size _ _ _
  apply List.ext_getElem?
  intro j
  by_cases hj : j < m
  · rw [List.getElem?_take_of_lt hj, Array.getElem?_toList, pk_get _ _ _ (by rw [hsz1]; omega)]
    by_cases c1 : q ≤ j ∧ j < q + D.length
    · rw [if_pos c1, List.getElem?_append_right (by omega), List.getElem?_append_right (by omega)]
      congr 1
      omega
    · rw [if_neg c1, pk_get _ _ _ (by omega)]
      by_cases c2 : p ≤ j
      · rw [if_pos (by omega), List.getElem?_append_right (by omega), List.getElem?_append_left (by omega), hp]
      · rw [if_neg (by omega), List.getElem?_append_left (by omega), ← ht, List.getElem?_take_of_lt (by omega), Array.getElem?_toList]
  · rw [List.getElem?_eq_none (by rw [List.length_take]; omega), List.getElem?_eq_none (by simp [List.length_append]; omega)]
theorem zc_size (z : Value) (n : Nat) (hz : z.cells.size = 4) : (Builtin.zeroCells z.cells n).size = n * 4 := by
  simp [Builtin.zeroCells, hz]
set_option maxRecDepth 100000 in
set_option maxHeartbeats 8000000 in
theorem insGrow_any {B : Nat} {w : World} {b c : Nat} {l : List Bx} {xs : List (Value × List Mx)} {k : Nat} {G : Int} (ho : OwL kBx B w (.slice (some ⟨b, 0, none⟩) l.length c) l xs) (hB : B ≤ w.heap.size) (h1c : ∀ u ∈ cellK kBx l xs, u.oneCell' = true) (hk : k < l.length) (hl : l.length ≤ 1073741824) (hroom : c < l.length + 1) :
    Calls Tryz.prog 73 #[.slice (some ⟨b, 0, none⟩) l.length c, .int .i64 (k : Int), .slice (some ⟨w.heap.size, 0, none⟩) 1 1] (w.alloc (.cells #[.int .i64 G, .bool false, .slice none 0 0, .int .i64 0] 69)) fun e w' => ∃ v', e = .returned v' ∧ OwL kBx B w' v' (insAt l k (nbx G)) (insAt xs k nilXB) ∧ Fr [b] w w' := by
  obtain ⟨j0, hj, hy0, hy1, hyb⟩ := info_parts infoKBox
  have hsz : (Tryz.prog.info? 69).map (·.size) = some 4 := by rw [hj]; simp [hy1]
  obtain ⟨W, hW⟩ : ∃ W, W = w.alloc (.cells #[.int .i64 G, .bool false, .slice none 0 0, .int .i64 0] 69) := ⟨_, rfl⟩
  have bW : Below w.heap.size w W := by rw [hW]; exact bwA _ _
  have hrow2 : w.ownsRow B 69 4 (.slice (some ⟨b, 0, none⟩) l.length c) l.length (cellK kBx l xs) := ho.row
  obtain ⟨cur, hb0, hBb, hnc, hcm, hcs, hct⟩ := own_blkB hrow2
  clear hrow2
  have hbw : b < w.heap.size := lt_of_blk hb0
  have hb : W.heap[b]? = some (.cells cur 69 (0, 0)) := by rw [bW.block b hbw]; exact hb0
  have hv : W.heap[w.heap.size]? = some (.cells #[.int .i64 G, .bool false, .slice none 0 0, .int .i64 0] 69 (0, 0)) := by rw [hW]; exact heap_alloc_new _ _
  have hvW := lt_of_blk hv
  have hclen : (cellK kBx l xs).length = l.length * 4 := cellK_len ho.xl
  rw [← hW]
  obtain ⟨cs, hcsd⟩ : ∃ z, z = cellK kBx l xs := ⟨_, rfl⟩
  obtain ⟨N, hN⟩ : ∃ N, N = l.length := ⟨_, rfl⟩
  rw [← hcsd, ← hN] at hclen hct
  rw [← hcsd] at h1c
  rw [← hN] at hk hl hroom hnc ⊢
  have hcell : ∀ j u, cs[j]? = some u → cur[j]? = some u := fun j u hu => by
    have hj' := (List.getElem?_eq_some_iff.1 hu).1
    rw [← hct] at hu
    rw [List.getElem?_take_of_lt (by omega), Array.getElem?_toList] at hu
    exact hu
  have hik : k + (N + 1 - k) = N + 1 := by omega
  have hkk : (N : Int) + 1 - (k : Int) = ((N + 1 - k : Nat) : Int) := by omega
  have hold : (Builtin.firstCells j0.size k (.slice (some ⟨b, 0, none⟩) k c)).run Tryz.prog W.drew = .ok (cs.take (k * 4)).toArray W.drew := by
    rw [hy1]
    exact run_firstCells_some W.drew 4 k ⟨b, 0, none⟩ k c (cs.take (k * 4)) (by rw [List.length_take]; omega) (fun j u hj => by
      rw [addr_lit, Nat.zero_add]
      rw [List.getElem?_take] at hj
      split at hj
      · exact blk_c (W := W.drew) hb (hcell j u hj)
      · cases hj)
  have hz2 : (Value.agg #[.int .i64 0, .bool false, .slice none 0 0, .int .i64 0]).cells.size = 4 := by rfl
  have hrz := fun ty => Lib.run_append_grow_zeros W 27 3 ty 69 j0 _ .i64 .i64 Tryz.underlying27 Tryz.underlying3 hj hy0 (some ⟨b, 0, none⟩) k c (cs.take (k * 4)) hold (N + 1 - k) (by omega) (by omega) (by omega) (by omega) (by rw [hyb]; omega) (by rw [hyb, hik]; exact growslice_fits hroom (by omega))
  rw [hik, ← hkk] at hrz
  obtain ⟨Gc, hGc⟩ : ∃ z, z = grownCap W (N + 1) c 69 := ⟨_, rfl⟩
  have hGn : N + 1 ≤ Gc := by rw [hGc]; exact grownCap_ge W _ _ _
  have hGm : Gc ≤ maxLen := by rw [hGc]; exact grownCap_le_maxLen W (N + 1) c 69 (by unfold maxLen; omega)
  rw [← hGc] at hrz
  obtain ⟨ROW, hROW⟩ : ∃ z : Array Value, z = (cs.take (k * 4)).toArray ++ Builtin.zeroCells (Value.agg #[.int .i64 0, .bool false, .slice none 0 0, .int .i64 0]).cells (N + 1 - k) ++ Builtin.zeroCells (Value.agg #[.int .i64 0, .bool false, .slice none 0 0, .int .i64 0]).cells (Gc - (N + 1)) := ⟨_, rfl⟩
  rw [← hROW] at hrz
  have hRs : ROW.size = Gc * 4 := by
    rw [hROW, Array.size_append, Array.size_append, zc_size _ _ hz2, zc_size _ _ hz2, List.size_toArray, List.length_take]; omega
  have hRt : ROW.toList.take (k * 4) = cs.take (k * 4) := by
    rw [hROW, Array.toList_append, Array.toList_append, List.append_assoc, List.take_append_of_le_length (by simp; omega)]
    rw [List.take_of_length_le (by simp; omega)]
  obtain ⟨nb, hnb⟩ : ∃ z, z = W.heap.size := ⟨_, rfl⟩
  rw [← hnb] at hrz
  obtain ⟨W1, hW1⟩ : ∃ z, z = W.drew.alloc (.cells ROW 69) := ⟨_, rfl⟩
  rw [← hW1] at hrz
  have hn1 : W1.heap[nb]? = some (.cells ROW 69 (0, 0)) := by rw [hW1, hnb]; exact heap_alloc_new _ _
  have bW1 : Below W.heap.size W W1 := by rw [hW1]; exact ((Below.refl _ _).drew).alloc (Nat.le_refl _) _
  have hb1 : W1.heap[b]? = some (.cells cur 69 (0, 0)) := by rw [bW1.block b (by omega)]; exact hb
  have hv1 : W1.heap[w.heap.size]? = some (.cells #[.int .i64 G, .bool false, .slice none 0 0, .int .i64 0] 69 (0, 0)) := by rw [bW1.block _ hvW]; exact hv
  obtain ⟨D, hD⟩ : ∃ D, D = cs.drop (k * 4) := ⟨_, rfl⟩
  have hDl : D.length = (N - k) * 4 := by rw [hD, List.length_drop, hclen]; omega
  have hcpA : Hid (∀ (X : World), X.heap = W1.heap → ∀ ty dc, (Builtin.copy_ #[27, 27] ty #[.slice (some ⟨nb, k * 4, none⟩) (N + 1 - k) dc, .slice (some ⟨w.heap.size, 0, none⟩) 1 1]).run Tryz.prog X = .ok (goInt (Nat.min 1 (N + 1 - k))) (X.setCells nb (k * 4) [.int .i64 G, .bool false, .slice none 0 0, .int .i64 0])) := fun X hX ty dc =>
    run_copy_cellsK X 27 27 ty 69 4 nb (k * 4) (N + 1 - k) dc ⟨w.heap.size, 0, none⟩ 1 1 [.int .i64 G, .bool false, .slice none 0 0, .int .i64 0] Tryz.underlying27 hsz (by simp only [List.length_cons, List.length_nil, Nat.min_def]; split <;> omega)
      (fun j u hj => by
        rw [addr_lit, Nat.zero_add]
        exact blk_c (by rw [hX]; exact hv1) (by simpa using hj))
      (fun j hj => by
        simp at hj
        have hlt : k * 4 + j < ROW.size := by omega
        have : ROW[k * 4 + j]? = some (ROW[k * 4 + j]) := Array.getElem?_eq_getElem hlt
        rw [blk_c (by rw [hX]; exact hn1) this]; rfl)
      (fun j hj => froz_b' (by rw [hX]; exact hn1)) (by intro u hu; simp at hu; rcases hu with rfl | rfl | rfl | rfl <;> rfl)
  have hcpB : Hid (∀ (X : World), X.heap = (W1.setCells nb (k * 4) [.int .i64 G, .bool false, .slice none 0 0, .int .i64 0]).heap → ∀ ty dc sc, (Builtin.copy_ #[27, 27] ty #[.slice (some ⟨nb, (k + 1) * 4, none⟩) (N + 1 - (k + 1)) dc, .slice (some ⟨b, k * 4, none⟩) (N - k) sc]).run Tryz.prog X = .ok (goInt (Nat.min (N - k) (N + 1 - (k + 1)))) (X.setCells nb ((k + 1) * 4) D)) := fun X hX ty dc sc => by
    rw [setCells_pokesM] at hX
    have hn2 : X.heap[nb]? = some (.cells (pk ROW (k * 4) [.int .i64 G, .bool false, .slice none 0 0, .int .i64 0]) 69 (0, 0)) := by rw [hX]; exact pokes_at _ _ _ _ hn1
    have hb2 : X.heap[b]? = some (.cells cur 69 (0, 0)) := by rw [hX, pokes_other (by omega)]; exact hb1
    have hs2 : (pk ROW (k * 4) [.int .i64 G, .bool false, .slice none 0 0, .int .i64 0]).size = Gc * 4 := by rw [pk_size, hRs]
    exact run_copy_cellsK X 27 27 ty 69 4 nb ((k + 1) * 4) (N + 1 - (k + 1)) dc ⟨b, k * 4, none⟩ (N - k) sc D Tryz.underlying27 hsz (by rw [hDl]; simp only [Nat.min_def]; split <;> omega)
      (fun j u hj => by
        rw [addr_lit]
        rw [hD, List.getElem?_drop] at hj
        exact blk_c hb2 (hcell _ u hj))
      (fun j hj => by
        have hlt : (k + 1) * 4 + j < (pk ROW (k * 4) [.int .i64 G, .bool false, .slice none 0 0, .int .i64 0]).size := by omega
        have : (pk ROW (k * 4) [.int .i64 G, .bool false, .slice none 0 0, .int .i64 0])[(k + 1) * 4 + j]? = some ((pk ROW (k * 4) [.int .i64 G, .bool false, .slice none 0 0, .int .i64 0])[(k + 1) * 4 + j]) := Array.getElem?_eq_getElem hlt
        rw [blk_c hn2 this]; rfl)
      (fun j hj => froz_b' hn2) (fun u hu => h1c u (by rw [hD] at hu; exact List.mem_of_mem_drop hu))
  have HF : Hid (∀ (X Y : World), Fr [b] W X → X.heap = (W1.setCells nb (k * 4) [.int .i64 G, .bool false, .slice none 0 0, .int .i64 0]).heap → Y = X.setCells nb ((k + 1) * 4) D → OwL kBx B Y (.slice (some ⟨nb, 0, none⟩) (N + 1) Gc) (insAt l k (nbx G)) (insAt xs k nilXB) ∧ Fr [b] w Y) := fun X Y hfX hX hY => by
    rw [setCells_pokesM] at hX hY
    have hn2 : X.heap[nb]? = some (.cells (pk ROW (k * 4) [.int .i64 G, .bool false, .slice none 0 0, .int .i64 0]) 69 (0, 0)) := by rw [hX]; exact pokes_at _ _ _ _ hn1
    have hf : Fr [b] W Y := by
      rw [hY]
      clear hY hX hn2
      have : ∀ (vs : List Value) (o : Nat) (Z : World), Fr [b] W Z → Fr [b] W (pokes Z nb o vs) := by
        intro vs
        induction vs with
        | nil => intro o Z h; exact h
        | cons v r ih => intro o Z h; exact ih _ _ (h.setCell (a := ⟨nb, o, none⟩) (Or.inl (by show W.heap.size ≤ nb; omega)) v)
      exact this _ _ _ hfX
    refine ⟨?_, (Fr.ofBelow bW).trans hf (fun _ _ q => by cases q) (fun _ _ q => q)⟩
    refine ho.ins bW (v' := .slice (some ⟨nb, 0, none⟩) (N + 1) Gc) hf (by omega) ?_ (Or.inr (fun b' hb' => by cases hb'; rw [hnb]; exact bW.size))
    rw [← hcsd, ← hN]
    refine ⟨by simp only [List.length_append, List.length_take, List.length_drop, List.length_cons, List.length_nil, hclen]; omega, Or.inr ⟨nb, Gc, pk (pk ROW (k * 4) [.int .i64 G, .bool false, .slice none 0 0, .int .i64 0]) ((k + 1) * 4) D, rfl, by rw [hnb]; exact Nat.le_trans hB bW.size, ?_, hGn, hGm, by rw [pk_size, pk_size, hRs], ?_⟩⟩
    · rw [hY]; exact pokes_at _ _ _ _ hn2
    · rw [← hD]
      exact pk_ins2 (pre := cs.take (k * 4)) hRt (by rw [List.length_take]; omega) (by simp; omega) (by rw [hDl]; omega) (by omega)
  have HFr : Hid (∀ X : World, Fr [b] W X → Fr [b] W (X.setCells nb (k * 4) [.int .i64 G, .bool false, .slice none 0 0, .int .i64 0]).drew) := fun X hX => by
    rw [setCells_pokesM]
    exact ((((hX.setCell (a := ⟨nb, k * 4, none⟩) (Or.inl (by show W.heap.size ≤ nb; omega)) _).setCell (a := ⟨nb, k * 4 + 1, none⟩) (Or.inl (by show W.heap.size ≤ nb; omega)) _).setCell (a := ⟨nb, k * 4 + 1 + 1, none⟩) (Or.inl (by show W.heap.size ≤ nb; omega)) _).setCell (a := ⟨nb, k * 4 + 1 + 1 + 1, none⟩) (Or.inl (by show W.heap.size ≤ nb; omega)) _).drew
  have HF1 : Hid (Fr [b] W W1) := (Fr.ofBelow bW1).mono (fun _ _ q => by cases q)
  have HRZ := hide hrz
  have HWs := hide hW1
  have hGI : (Gc : Int) ≤ 9223372036854775807 := by unfold maxLen at hGm; omega
  have hGNI : (N : Int) + 1 ≤ (Gc : Int) := by omega
  have g1 : ¬ Gc = k := by omega
  have g2 : ¬ Gc = k + 1 := by omega
  have q1 : ¬ ((k : Int) = (N : Int)) := by omega
  have q2 : (c : Int) < (N : Int) + 1 := by omega
  have q3 : (0 : Int) ≤ (k : Int) := by omega
  have q4 : (k : Int) ≤ (N : Int) := by omega
  have q5 : ¬ c = k := by omega
  have q7 : (k : Int) ≤ (N : Int) + 1 := by omega
  have q9 : (k : Int) + 1 ≤ (N : Int) + 1 := by omega
  have q10 : (0 : Int) ≤ (k : Int) + 1 := by omega
  have q11 : (k : Int) ≤ (c : Int) := by omega
  have hw1 : IntKind.i64.wrap ((k : Int) + 1) = (k : Int) + 1 := by rw [IntKind.wrap_i64]; omega
  have hw2 : IntKind.i64.wrap ((N : Int) + 1) = (N : Int) + 1 := by rw [IntKind.wrap_i64]; omega
  have hw3 : IntKind.i64.wrap ((N : Int) + 1 - (k : Int)) = (N : Int) + 1 - (k : Int) := by rw [IntKind.wrap_i64]; omega
  have ht1 : ((k : Int) + 1).toNat = k + 1 := by omega
  have hNI : (N : Int) ≤ 1073741824 := by omega
  clear hW bW hb0 hBb hnc hcm hcs hct hbw hb hv hclen hcsd h1c hk hl hroom hcell hD hDl hb1 hv1 ho hN hik hkk hold hz2 hGc hGn hGm hROW hRs hRt hn1 bW1 hvW hB hrz hW1 hnb
  go_enter Tryz.func73, Tryz.ntmps73
  go_wp2_with (at_builtin; refine Lib.wpList_append_run _ rfl _ _ _ _ rfl _ _ rfl rfl _ _ (unhide HRZ _) ?_)
  rw [unhide hcpA W1 rfl _ _]
  go_wp2_with fail
  go_region_law (refine step_copy_runI rfl _ _ 27 27 rfl (.slice (some ⟨nb, (k + 1) * 4, none⟩) (N + 1 - (k + 1)) (Gc - (k + 1))) (.slice (some ⟨b, k * 4, none⟩) (N - k) (c - k)) (by simp [Act.eval, Act.put]) (by simp [Act.eval, Act.put]) (unhide hcpB (W1.setCells nb (k * 4) [.int .i64 G, .bool false, .slice none 0 0, .int .i64 0]).drew rfl _ _ _) ?_)
  go_wp2_with fail
  go_ret
  exact ⟨_, rfl, (unhide HF _ _ (unhide HFr _ (unhide HF1)) rfl rfl).1, (unhide HF _ _ (unhide HFr _ (unhide HF1)) rfl rfl).2⟩
theorem ins_any {B : Nat} {w : World} {v : Value} {l : List Bx} {xs : List (Value × List Mx)} {k : Nat} {G : Int} (ho : OwL kBx B w v l xs) (hB : B ≤ w.heap.size) (h1c : ∀ u ∈ cellK kBx l xs, u.oneCell' = true) (hk : k ≤ l.length) (hl : l.length ≤ 1073741824) :
    Calls Tryz.prog 73 #[v, .int .i64 (k : Int), .slice (some ⟨w.heap.size, 0, none⟩) 1 1] (w.alloc (.cells #[.int .i64 G, .bool false, .slice none 0 0, .int .i64 0] 69)) fun e w' => ∃ v', e = .returned v' ∧ OwL kBx B w' v' (insAt l k (nbx G)) (insAt xs k nilXB) ∧ Fr v.ownBlock.toList w w' := by
  rcases Nat.lt_or_ge k l.length with c | c
  · obtain ⟨b, cap, hv, _, _, _⟩ := own_open ho.row (by omega)
    subst hv
    rcases Nat.lt_or_ge cap (l.length + 1) with d | d
    · exact insGrow_any ho hB h1c c hl d
    · exact insRoom_any ho h1c c hl d
  · obtain rfl : k = l.length := by omega
    exact insEnd_any ho hB hl
theorem OwL.oneB {B : Nat} {w : World} {v : Value} {l : List Bx} {xs : List (Value × List Mx)} (ho : OwL kBx B w v l xs) : ∀ u ∈ cellK kBx l xs, u.oneCell' = true := by
  intro u hu
  obtain ⟨k, hk⟩ := List.mem_iff_getElem?.1 hu
  obtain ⟨i, j, a, x, _, hj, h1, h2, h3⟩ := cellK_inv ho.xl hk
  obtain ⟨ad, cp, hx⟩ := own_slice (OwL.row (K := kMl) (ho.el i a x h1 h2))
  have : j < 4 := hj
  match j, this, h3 with
  | 0, _, h3 => cases h3; rfl
  | 1, _, h3 => cases h3; rfl
  | 2, _, h3 =>
    have e : x.1 = u := by simpa [kBx, bxC] using h3
    rw [← e, hx]; rfl
  | 3, _, h3 => cases h3; rfl
end Go.Proofs.YtgmlkofogeoocaaGreatDoor

/- Has of package post; a part of a row. -/
namespace Go.Proofs.YtgmlkofogeoocaaGreatDoor
open Go.RowKit Go.Maps
def capOk (v : Value) : Prop := ∀ a n c, v = .slice a n c → n ≤ c
def CapX (xs : List (Value × List Mx)) : Prop := ∀ x ∈ xs, capOk x.1
def HasX (l : List Bx) (d : Int) (th ou : Bool) : Prop :=
  (th = false ∧ ou = false ∧ (mayX l = false ∨ ∀ p ∈ l, p.dev ≠ d)) ∨ (th = true ∧ mayP l ∧ ∃ (k : Nat) (b : Bx), l[k]? = some b ∧ b.dev = d ∧ ou = b.out)
set_option maxRecDepth 100000 in
set_option maxHeartbeats 4000000 in
theorem poHas_any {w : World} {v : Value} {l : List Bx} {xs : List (Value × List Mx)} (d : Int) (h : RdL kBx w v l xs) (hs : SmX l) :
    Calls Tryz.prog 17 #[v, .int .i64 d] w fun e w' => ∃ th ou, e = .returned (.tuple #[.bool th, .bool ou]) ∧ Below w.heap.size w w' ∧ HasX l d th ou := by
  have K1 := hide (place_any h hs.n d)
  obtain ⟨a, cap, hv⟩ := rdl_slice h
  obtain ⟨N, hN⟩ : ∃ N, N = l.length := ⟨_, rfl⟩
  rw [← hN] at hv
  have hNI : (N : Int) ≤ 1073741824 := by have := hs.n; omega
  subst hv
  have HH := hide (And.intro h hN)
  clear h hs hN
  go_enter Tryz.func17, Tryz.ntmps17
  go_wp2_with fail
  refine (unhide K1).mono ?_
  rintro e w1 ⟨k, er, rfl, hp, b1⟩
  rcases hp with ⟨p1, rfl, rfl⟩ | ⟨p1, p2, rfl, rfl⟩ | ⟨p1, rfl, b, p2, p3⟩
  · have HP := hide p1
    clear p1
    go_wp2_with fail
    go_ret2
    exact ⟨false, false, rfl, b1, Or.inl ⟨rfl, rfl, Or.inl (unhide HP)⟩⟩
  · have HP := hide (And.intro p1 p2)
    clear p1 p2
    go_wp2_with fail
    go_ret2
    exact ⟨false, false, rfl, b1, Or.inl ⟨rfl, rfl, Or.inr (unhide HP).2⟩⟩
  · obtain ⟨h, hN⟩ := unhide HH
    have hkN : k < N := by rw [hN]; exact (List.getElem?_eq_some_iff.1 p2).1
    obtain ⟨gb, o, x0, rfl, hx0, hR0, hc0⟩ := h.get p2
    have d0 : w.cell? ⟨gb, o + k * 4 + 1, none⟩ = some (.bool b.out) := hc0 1 _ rfl
    obtain ⟨ou, hou⟩ : ∃ z, z = b.out := ⟨_, rfl⟩
    rw [← hou] at d0
    have f0 : w1.cell? ⟨gb, o + k * 4 + 1, none⟩ = some (.bool ou) := by rw [b1.cell (lt_of_cell d0)]; exact d0
    have HP : Hid (HasX l d true ou) := Or.inr ⟨rfl, p1, k, b, p2, p3, hou⟩
    have HB1 := hide b1
    clear p1 p2 p3 d0 hc0 hR0 hx0 h hN HH K1 hou b1
    have hkI : (k : Int) < (N : Int) := by omega
    have h0 : (0 : Int) ≤ (k : Int) := by omega
    go_wp2_with fail
    go_quiet (fail)
    go_wp2_with fail
    go_ret2
    exact ⟨true, ou, rfl, below_drewN (unhide HB1) _, unhide HP⟩
end Go.Proofs.YtgmlkofogeoocaaGreatDoor

/- Since of package post. -/
namespace Go.Proofs.YtgmlkofogeoocaaGreatDoor
open Go.RowKit Go.Maps
end Go.Proofs.YtgmlkofogeoocaaGreatDoor

/- Open of package post. -/
namespace Go.Proofs.YtgmlkofogeoocaaGreatDoor
open Go.RowKit Go.Maps
def OpnX (B : Nat) (w' : World) (v' : Value) (er : Int) (l : List Bx) (d : Int) : Prop :=
  (er = 1 ∧ (mayX l = false ∨ ¬ (0 ≤ d ∧ d < 512)) ∧ v' = .slice none 0 0) ∨ (er = 13 ∧ mayP l ∧ (∃ p ∈ l, p.dev = d) ∧ v' = .slice none 0 0) ∨
  (er = 0 ∧ mayP l ∧ (0 ≤ d ∧ d < 512) ∧ (∀ p ∈ l, p.dev ≠ d) ∧ ∃ (k : Nat) (xs' : List (Value × List Mx)), AtX l d k ∧ OwL kBx B w' v' (insAt l k (nbx d)) xs')
set_option maxRecDepth 100000 in
set_option maxHeartbeats 4000000 in
theorem poOpen_any {w : World} {v : Value} {l : List Bx} {xs : List (Value × List Mx)} (d : Int) (h : RdL kBx w v l xs) (hs : SmX l) :
    Calls Tryz.prog 50 #[v, .int .i64 d] w fun e w' => ∃ v' er, e = .returned (.tuple #[v', .int .i64 er]) ∧ Below w.heap.size w w' ∧ OpnX w.heap.size w' v' er l d := by
  have K1 := hide (mayBeX_any h hs.n)
  have K2 := hide (fun W => isDev_any (w := W) d)
  have K3 : Hid (mayP l → ∀ W, Below w.heap.size w W → Calls Tryz.prog 55 #[v, .int .i64 d] W fun e w' => ∃ (k : Nat) (th : Bool), e = .returned (.tuple #[.int .i64 (k : Int), .bool th]) ∧ Hid (FnX l d k th) ∧ Below W.heap.size W w') := fun hm W hW => findBx_any h hW hm hs.n d
  have K4 : Hid (∀ W, Below w.heap.size w W → Calls Tryz.prog 28 #[v, .func (.func 29) #[] #[]] W fun e w' => ∃ v' xs', e = .returned v' ∧ Hid (OwL kBx W.heap.size w' v' l xs') ∧ Below W.heap.size W w') := fun W hW => listBox_any (h.bw hW) hs.n
  have hl := hs.n
  obtain ⟨r, hr⟩ : ∃ r, r = mayX l := ⟨_, rfl⟩
  rw [← hr] at K1
  have HR := hide hr
  have HL := hide hl
  clear h hs hr hl
  cases r with
  | false =>
    go_enter Tryz.func50, Tryz.ntmps50
    go_wp2_with fail
    refine (unhide K1).mono ?_
    rintro e w1 ⟨rfl, b1⟩
    go_wp2_with fail
    go_ret2
    exact ⟨_, 1, rfl, b1, Or.inl ⟨rfl, Or.inl (unhide HR).symm, rfl⟩⟩
  | true =>
    have HM := hide (mayX_iff.1 (unhide HR).symm)
    have K5 := hide (unhide K3 (unhide HM))
    clear K3 HR
    by_cases hd : 0 ≤ d ∧ d < 512
    · have K6 : Hid (∀ W : World, Calls Tryz.prog 21 #[.int .i64 d] W fun e w' => e = .returned (.bool true) ∧ Below W.heap.size W w') := fun W => by have := unhide K2 W; rw [decide_eq_true hd] at this; exact this
      have HD := hide hd
      clear K2 hd
      go_enter Tryz.func50, Tryz.ntmps50
      go_wp2_with fail
      refine (unhide K1).mono ?_
      rintro e w1 ⟨rfl, b1⟩
      go_wp2_with fail
      refine (unhide K6 w1).mono ?_
      rintro e w2 ⟨rfl, b2⟩
      have c2 := bw_tr b1 b2
      clear b1 b2
      go_wp2_with fail
      refine (unhide K5 w2 c2).mono ?_
      rintro e w3 ⟨k, th, rfl, hf, b3⟩
      have c3 := hide (bw_tr c2 b3)
      clear c2 b3 K5
      cases th with
      | true =>
        have HF : Hid (∃ p ∈ l, p.dev = d) := by
          rcases (unhide hf).2 with q | ⟨_, p, q1, q2⟩
          · exact absurd q.1 (by simp)
          · exact ⟨p, List.mem_of_getElem? q1, q2⟩
        clear hf
        go_wp2_with fail
        go_ret2
        exact ⟨_, 13, rfl, unhide c3, Or.inr (Or.inl ⟨rfl, unhide HM, unhide HF, rfl⟩)⟩
      | false =>
        have HF : Hid (AtX l d k ∧ ∀ p ∈ l, p.dev ≠ d) := by
          rcases (unhide hf).2 with q | q
          · exact ⟨(unhide hf).1, q.2⟩
          · exact absurd q.1 (by simp)
        clear hf
        have K7 := hide (unhide K4 w3 (unhide c3))
        clear K4
        go_wp2_with fail
        refine (unhide K7).mono ?_
        rintro e w4 ⟨v4, ys, rfl, ho, b4⟩
        have KI := hide (ins_any (G := d) (unhide ho) b4.size (unhide ho).oneB (unhide HF).1.le (unhide HL))
        have HO : Hid (∀ x, v4.ownBlock = some x → w.heap.size ≤ x) := fun x hx => Nat.le_trans (unhide c3).size (World.ownsRow.lt (unhide ho).row x hx).1
        have c4 := hide (bw_tr (unhide c3) b4)
        clear b4 K7
        obtain ⟨a4, cp4, e4⟩ := own_slice (unhide ho).row
        obtain ⟨N4, hN4⟩ : ∃ z, z = l.length := ⟨_, rfl⟩
        rw [← hN4] at e4
        have HN4 := hide hN4
        clear hN4
        subst e4
        clear ho
        go_wp2_with fail
        refine (unhide KI).mono ?_
        rintro e w5 ⟨v5, rfl, ho5, hfr⟩
        have HX : Hid (OwL kBx w.heap.size w5 v5 (insAt l k (nbx d)) (insAt ys k nilXB) ∧ Below w.heap.size w w5) := ⟨ho5.mono (unhide c3).size, Fr.toBase (unhide c4) hfr (fun x hx => unhide HO x (by simpa using hx))⟩
        clear ho5 hfr KI
        go_wp2_with fail
        go_ret2
        exact ⟨_, 0, rfl, (unhide HX).2, Or.inr (Or.inr ⟨rfl, unhide HM, unhide HD, (unhide HF).2, k, _, (unhide HF).1, (unhide HX).1⟩)⟩
    · have K6 : Hid (∀ W : World, Calls Tryz.prog 21 #[.int .i64 d] W fun e w' => e = .returned (.bool false) ∧ Below W.heap.size W w') := fun W => by have := unhide K2 W; rw [decide_eq_false hd] at this; exact this
      have HD := hide hd
      clear K2 hd
      go_enter Tryz.func50, Tryz.ntmps50
      go_wp2_with fail
      refine (unhide K1).mono ?_
      rintro e w1 ⟨rfl, b1⟩
      go_wp2_with fail
      refine (unhide K6 w1).mono ?_
      rintro e w2 ⟨rfl, b2⟩
      have c2 := hide (bw_tr b1 b2)
      clear b1 b2
      go_wp2_with fail
      go_ret2
      exact ⟨_, 1, rfl, unhide c2, Or.inl ⟨rfl, Or.inr (unhide HD), rfl⟩⟩
end Go.Proofs.YtgmlkofogeoocaaGreatDoor
