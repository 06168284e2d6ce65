/- Texts joined: LgW LgX LgY. -/
import Derived.Test.YtnfhbmlmemifjaaGreatDoorLgV
import Derived.Lib.Overlaps
import Derived.Lib.AppendZerosOnto
import Derived.Laws.Externs
import Derived.Deep.RegionLaw
import Derived.Shelf.Spec.SlicesInsert
/- The library's slices.Insert at logs: one log without commits comes into a row of one's own. -/
namespace Go.Proofs.YtnfhbmlmemifjaaGreatDoor
open Go.RowKit Go.Maps
theorem own_blk {B : Nat} {w : World} {e : TypeId} {c n b cap : Nat} {xs : List Value} (h : w.ownsRow B e c (.slice (some ⟨b, 0, none⟩) n cap) n xs) : ∃ cur : Array Value, w.heap[b]? = some (.cells cur e (0, 0)) ∧ B ≤ b ∧ n ≤ cap ∧ cap ≤ maxLen ∧ cur.size = cap * c ∧ cur.toList.take (n * c) = xs := by
  rcases h.2 with ⟨q, _⟩ | ⟨g, cp, cur, q, h0, hg, q1, q2, q3, q4⟩
  · cases q
  · cases q; exact ⟨cur, hg, h0, q1, q2, q3, q4⟩
theorem cells_newV (w : World) (x y : Value) (t : TypeId) : ∀ j u, [x, y][j]? = some u → (w.alloc (.cells #[x, y] t)).cell? ((⟨w.heap.size, 0, none⟩ : Addr).add j) = some u := by
  intro j u hj
  have hk := heap_alloc_new w (.cells #[x, y] t)
  match j, hj with
  | 0, hj => cases hj; have := blk_c hk (i := 0) (v := x) rfl; simp only [Addr.add]; exact this
  | 1, hj => cases hj; have := blk_c hk (i := 1) (v := y) rfl; simp only [Addr.add]; exact this
  | (n + 2), hj => simp at hj
set_option maxRecDepth 100000 in
set_option maxHeartbeats 8000000 in
theorem insEnd_any {B : Nat} {w : World} {v : Value} {l : List Lg} {xs : List (Value × List (Cv × List Value))} {G : Int} (ho : OwL kLg B w v l xs) (hB : B ≤ w.heap.size) (hl : l.length ≤ 1073741824) :
    Calls Tryz.prog 169 #[v, .int .i64 (l.length : Int), .slice (some ⟨w.heap.size, 0, none⟩) 1 1] (w.alloc (.cells #[.int .i64 G, .slice none 0 0] 95)) fun e w' => ∃ v', e = .returned v' ∧ OwL kLg B w' v' (insAt l l.length (G, [])) (insAt xs l.length nilX) ∧ Fr v.ownBlock.toList w w' := by
  obtain ⟨j0, hj, hy0, hy1, hyb⟩ := info_parts infoKLog
  obtain ⟨W, hW⟩ : ∃ W, W = w.alloc (.cells #[.int .i64 G, .slice none 0 0] 95) := ⟨_, rfl⟩
  have bW : Below w.heap.size w W := by rw [hW]; exact bwA _ _
  have hrow : W.ownsRow B 95 2 v l.length (cellK kLg l xs) := own_keep ho.row (fun k hk => bW.block k (World.ownsRow.lt ho.row k hk).2)
  have hnew := cells_newV w (.int .i64 G) (.slice none 0 0) 95
  rw [← hW] at hnew ⊢
  have hclen : (cellK kLg l xs).length = l.length * 2 := cellK_len ho.xl
  have HO := hide (And.intro ho (And.intro bW hclen))
  obtain ⟨a, c, hv⟩ := own_slice ho.row
  obtain ⟨N, hN⟩ : ∃ N, N = l.length := ⟨_, rfl⟩
  rw [← hN] at hv hrow hl ⊢
  have hNI : (N : Int) ≤ 1073741824 := by omega
  have h0 : (0 : Int) ≤ (N : Int) := by omega
  have hBW : B ≤ W.heap.size := Nat.le_trans hB bW.size
  have HH := hide (And.intro hrow (And.intro hnew (And.intro hl hBW)))
  have HN := hide hN
  have hAs : Hid (a = none ∨ ∃ b, a = some ⟨b, 0, none⟩) := by
    rcases hrow.2 with ⟨q, _⟩ | ⟨g, cp, cur, q, _⟩
    · rw [hv] at q; cases q; exact Or.inl rfl
    · rw [hv] at q; cases q; exact Or.inr ⟨g, rfl⟩
  have hN0 : Hid (a = none → N = 0 ∧ c = 0) := fun q => by
    rcases hrow.2 with ⟨q', q2⟩ | ⟨g, cp, cur, q', _⟩
    · rw [hv] at q'; cases q'; exact ⟨rfl, rfl⟩
    · rw [hv] at q'; cases q'; cases q
  subst hv
  clear ho bW hrow hnew hl hBW hN hclen hW
  have fin : Hid (∀ v' w', w'.ownsRow B 95 2 v' (N + 1) (cellK kLg l xs ++ [.int .i64 G, .slice none 0 0]) → W.grownBy w' (Value.slice a N c).ownBlock → (v'.ownBlock = (Value.slice a N c).ownBlock ∨ v'.ownBlock = some W.heap.size) → OwL kLg B w' v' (insAt l N (G, [])) (insAt xs N nilX) ∧ Fr (Value.slice a N c).ownBlock.toList w w') := fun v' w' h1 h2 h3 => by
    obtain ⟨ho, bW, hclen⟩ := unhide HO
    have e := unhide HN
    refine ⟨?_, (Fr.ofBelow bW).trans (Fr.ofGrown h2) (fun _ _ q => by cases q) (fun _ _ q => q)⟩
    have := ho.ins (k := N) (G := G) bW (Fr.ofGrown h2) (by omega) (v' := v') (by
      rw [List.take_of_length_le (by rw [hclen]; omega), List.drop_eq_nil_of_le (by rw [hclen]; omega), List.append_nil, ← e]
      exact h1) (h3.imp (fun q => q) (fun q b hb => by rw [q] at hb; cases hb; exact bW.size))
    exact this
  by_cases hz : N = 0 ∧ a = none
  · obtain ⟨rfl, rfl⟩ := hz
    obtain ⟨-, rfl⟩ := unhide hN0 rfl
    go_enter Tryz.func169, Tryz.ntmps169
    go_wp2_with (at_builtin; refine wpList_append_own_at _ rfl (.tmp 23) (.tmp 24) 22 rfl B 95 j0 (.agg #[.int .i64 0, .slice none 0 0]) 2 32 Tryz.underlying22 hj hy0 hy1 hyb rfl (by decide) _ 0 (cellK kLg l xs) rfl (unhide HH).1 ⟨w.heap.size, 0, none⟩ 1 1 [.int .i64 G, .slice none 0 0] rfl rfl (unhide HH).2.1 (by intro u hu; simp at hu; rcases hu with rfl | rfl <;> rfl) ?c3a ?c4a ?c5a ?nxa)
    case c3a => unfold maxLen; omega
    case c5a => exact (unhide HH).2.2.2
    case nxa =>
      intro v' w3 hown' hgrow _ hat
      have HR := hide (unhide fin v' w3 hown' hgrow hat)
      obtain ⟨a', c', rfl⟩ := own_slice hown'
      clear hown' hgrow hat
      go_wp2_with fail
      go_ret
      exact ⟨_, rfl, (unhide HR).1, (unhide HR).2⟩
  · obtain ⟨b, rfl⟩ : ∃ b, a = some ⟨b, 0, none⟩ := by
      rcases unhide hAs with q | q
      · exact absurd ⟨(unhide hN0 q).1, q⟩ hz
      · exact q
    clear hz hAs hN0
    by_cases hcN : c = N
    · subst hcN
      go_enter Tryz.func169, Tryz.ntmps169
      go_wp2_with (at_builtin; refine wpList_append_own_at _ rfl (.tmp 23) (.tmp 24) 22 rfl B 95 j0 (.agg #[.int .i64 0, .slice none 0 0]) 2 32 Tryz.underlying22 hj hy0 hy1 hyb rfl (by decide) _ c (cellK kLg l xs) rfl (unhide HH).1 ⟨w.heap.size, 0, none⟩ 1 1 [.int .i64 G, .slice none 0 0] rfl rfl (unhide HH).2.1 (by intro u hu; simp at hu; rcases hu with rfl | rfl <;> rfl) ?c3b ?c4b ?c5b ?nxb)
      case c3b => have := (unhide HH).2.2.1; unfold maxLen; omega
      case c4b => have := (unhide HH).2.2.1; omega
      case c5b => exact (unhide HH).2.2.2
      case nxb =>
        intro v' w3 hown' hgrow _ hat
        have HR := hide (unhide fin v' w3 hown' hgrow hat)
        obtain ⟨a', c', rfl⟩ := own_slice hown'
        clear hown' hgrow hat
        go_wp2_with fail
        go_ret
        exact ⟨_, rfl, (unhide HR).1, (unhide HR).2⟩
    · go_enter Tryz.func169, Tryz.ntmps169
      go_wp2_with (at_builtin; refine wpList_append_own_at _ rfl (.tmp 23) (.tmp 24) 22 rfl B 95 j0 (.agg #[.int .i64 0, .slice none 0 0]) 2 32 Tryz.underlying22 hj hy0 hy1 hyb rfl (by decide) _ N (cellK kLg l xs) rfl (unhide HH).1 ⟨w.heap.size, 0, none⟩ 1 1 [.int .i64 G, .slice none 0 0] rfl rfl (unhide HH).2.1 (by intro u hu; simp at hu; rcases hu with rfl | rfl <;> rfl) ?c3c ?c4c ?c5c ?nxc)
      case c3c => have := (unhide HH).2.2.1; unfold maxLen; omega
      case c4c => have := (unhide HH).2.2.1; omega
      case c5c => exact (unhide HH).2.2.2
      case nxc =>
        intro v' w3 hown' hgrow _ hat
        have HR := hide (unhide fin v' w3 hown' hgrow hat)
        obtain ⟨a', c', rfl⟩ := own_slice hown'
        clear hown' hgrow hat
        go_wp2_with fail
        go_ret
        exact ⟨_, rfl, (unhide HR).1, (unhide HR).2⟩
end Go.Proofs.YtnfhbmlmemifjaaGreatDoor

/- The library's slices.Insert at logs, ahead of others: there is room, or there is none; whatever there is. -/
namespace Go.Proofs.YtnfhbmlmemifjaaGreatDoor
open Go.RowKit Go.Maps
theorem addr_lit (b o j : Nat) : (⟨b, o, none⟩ : Addr).add j = ⟨b, o + j, none⟩ := by unfold Addr.add; by_cases hz : j = 0 <;> simp [hz]
set_option maxRecDepth 100000 in
set_option maxHeartbeats 8000000 in
theorem insRoom_any {B : Nat} {w : World} {b c : Nat} {l : List Lg} {xs : List (Value × List (Cv × List Value))} {k : Nat} {G : Int} (ho : OwL kLg B w (.slice (some ⟨b, 0, none⟩) l.length c) l xs) (h1c : ∀ u ∈ cellK kLg l xs, u.oneCell' = true) (hk : k < l.length) (hl : l.length ≤ 1073741824) (hroom : l.length + 1 ≤ c) :
    Calls Tryz.prog 169 #[.slice (some ⟨b, 0, none⟩) l.length c, .int .i64 (k : Int), .slice (some ⟨w.heap.size, 0, none⟩) 1 1] (w.alloc (.cells #[.int .i64 G, .slice none 0 0] 95)) fun e w' => ∃ v', e = .returned v' ∧ OwL kLg B w' v' (insAt l k (G, [])) (insAt xs k nilX) ∧ Fr [b] w w' := by
  obtain ⟨j0, hj, hy0, hy1, hyb⟩ := info_parts infoKLog
  have hsz : (Tryz.prog.info? 95).map (·.size) = some 2 := by rw [hj]; simp [hy1]
  obtain ⟨W, hW⟩ : ∃ W, W = w.alloc (.cells #[.int .i64 G, .slice none 0 0] 95) := ⟨_, rfl⟩
  have bW : Below w.heap.size w W := by rw [hW]; exact bwA _ _
  have hrow2 : w.ownsRow B 95 2 (.slice (some ⟨b, 0, none⟩) l.length c) l.length (cellK kLg l xs) := ho.row
  obtain ⟨cur, hb0, hBb, hnc, hcm, hcs, hct⟩ := own_blk hrow2
  clear hrow2
  have hbw : b < w.heap.size := lt_of_blk hb0
  have hb : W.heap[b]? = some (.cells cur 95 (0, 0)) := by rw [bW.block b hbw]; exact hb0
  have hv : W.heap[w.heap.size]? = some (.cells #[.int .i64 G, .slice none 0 0] 95 (0, 0)) := by rw [hW]; exact heap_alloc_new _ _
  have hclen : (cellK kLg l xs).length = l.length * 2 := cellK_len ho.xl
  rw [← hW]
  obtain ⟨cs, hcsd⟩ : ∃ z, z = cellK kLg l xs := ⟨_, rfl⟩
  obtain ⟨N, hN⟩ : ∃ N, N = l.length := ⟨_, rfl⟩
  rw [← hcsd, ← hN] at hclen hct
  rw [← hcsd] at h1c
  rw [← hN] at hk hl hroom hnc ⊢
  have hcell : ∀ j u, cs[j]? = some u → cur[j]? = some u := fun j u hu => by
    have hj' := (List.getElem?_eq_some_iff.1 hu).1
    rw [← hct] at hu
    rw [List.getElem?_take_of_lt (by omega), Array.getElem?_toList] at hu
    exact hu
  have hcm63 : c ≤ 9223372036854775807 := by unfold maxLen at hcm; omega
  have hsa : W.shape? w.heap.size = some (95, 2) := by unfold World.shape?; rw [hv]; rfl
  have hsb : W.shape? b = some (95, cur.size) := by unfold World.shape?; rw [hb]
  have hov : Hid (∀ lb cb, (callFunc 266 #[.slice (some ⟨w.heap.size, 0, none⟩) 1 1, .slice (some ⟨b, (k + 1) * 2, none⟩) lb cb]).run Tryz.prog W = .ok (.value (.bool false)) W) := fun lb cb => by
    rw [run_callFunc_extern Tryz.func266 (by kernel_rfl) (by kernel_rfl) (by kernel_rfl) (e := Extern.SlicesOverlaps.overlaps #[22, 22] #[4]) (by kernel_rfl),
      Lib.run_overlaps_apart W 22 4 95 Tryz.underlying22 2 (fun w => by kernel_rfl) ⟨w.heap.size, 0, none⟩ ⟨b, (k + 1) * 2, none⟩ 1 1 lb cb (by show w.heap.size ≠ b; omega) 95 95 2 cur.size hsa hsb (by omega) (froz_b' hv) (froz_b' hv)]
    rfl
  obtain ⟨D, hD⟩ : ∃ D, D = cs.drop (k * 2) := ⟨_, rfl⟩
  have hDl : D.length = (N - k) * 2 := by rw [hD, List.length_drop, hclen]; omega
  have hcp1 : Hid (∀ ty dc sc, (Builtin.copy_ #[22, 22] ty #[.slice (some ⟨b, (k + 1) * 2, none⟩) (N + 1 - (k + 1)) dc, .slice (some ⟨b, k * 2, none⟩) (N + 1 - k) sc]).run Tryz.prog W.drew = .ok (goInt (Nat.min (N + 1 - k) (N + 1 - (k + 1)))) (W.drew.setCells b ((k + 1) * 2) D)) := fun ty dc sc =>
    run_copy_cellsK W.drew 22 22 ty 95 2 b ((k + 1) * 2) (N + 1 - (k + 1)) dc ⟨b, k * 2, none⟩ (N + 1 - k) sc D Tryz.underlying22 hsz (by rw [hDl]; simp only [Nat.min_def]; split <;> omega)
      (fun j u hj => by
        rw [addr_lit]
        rw [hD, List.getElem?_drop] at hj
        exact blk_c (W := W.drew) hb (hcell _ u hj))
      (fun j hj => by
        have hlt : (k + 1) * 2 + j < cur.size := by omega
        have : cur[(k + 1) * 2 + j]? = some (cur[(k + 1) * 2 + j]) := Array.getElem?_eq_getElem hlt
        rw [blk_c (W := W.drew) hb this]; rfl)
      (fun j hj => froz_b' (W := W.drew) hb) (fun u hu => h1c u (by rw [hD] at hu; exact List.mem_of_mem_drop hu))
  obtain ⟨W1, hW1⟩ : ∃ W1, W1 = W.drew.setCells b ((k + 1) * 2) D := ⟨_, rfl⟩
  have hb1 : W1.heap[b]? = some (.cells (pk cur ((k + 1) * 2) D) 95 (0, 0)) := by rw [hW1, setCells_pokes]; exact pokes_at D W.drew _ cur hb
  have hv1 : W1.heap[w.heap.size]? = some (.cells #[.int .i64 G, .slice none 0 0] 95 (0, 0)) := by rw [hW1, setCells_pokes, pokes_other (by omega)]; exact hv
  have hs1 : (pk cur ((k + 1) * 2) D).size = c * 2 := by rw [pk_size, hcs]
  have hcp2 : Hid (∀ ty dc, (Builtin.copy_ #[22, 22] ty #[.slice (some ⟨b, k * 2, none⟩) (N + 1 - k) dc, .slice (some ⟨w.heap.size, 0, none⟩) 1 1]).run Tryz.prog W1 = .ok (goInt (Nat.min 1 (N + 1 - k))) (W1.setCells b (k * 2) [.int .i64 G, .slice none 0 0])) := fun ty dc =>
    run_copy_cellsK W1 22 22 ty 95 2 b (k * 2) (N + 1 - k) dc ⟨w.heap.size, 0, none⟩ 1 1 [.int .i64 G, .slice none 0 0] Tryz.underlying22 hsz (by simp only [List.length_cons, List.length_nil, Nat.min_def]; split <;> omega)
      (fun j u hj => by
        rw [addr_lit, Nat.zero_add]
        exact blk_c hv1 (by simpa using hj))
      (fun j hj => by
        simp at hj
        have hlt : k * 2 + j < (pk cur ((k + 1) * 2) D).size := by omega
        have : (pk cur ((k + 1) * 2) D)[k * 2 + j]? = some ((pk cur ((k + 1) * 2) D)[k * 2 + j]) := Array.getElem?_eq_getElem hlt
        rw [blk_c hb1 this]; rfl)
      (fun j hj => froz_b' hb1) (by intro u hu; simp at hu; rcases hu with rfl | rfl <;> rfl)
  have HF : Hid (∀ w', w' = W1.setCells b (k * 2) [.int .i64 G, .slice none 0 0] → OwL kLg B w' (.slice (some ⟨b, 0, none⟩) (N + 1) c) (insAt l k (G, [])) (insAt xs k nilX) ∧ Fr [b] w w') := fun w' hw' => by
    have hf : Fr [b] W w' := by
      rw [hw', setCells_pokes, hW1, setCells_pokes]
      exact pokes_fr _ _ _ (pokes_fr _ _ _ ((Fr.refl [b] W).drew))
    refine ⟨?_, (Fr.ofBelow bW).trans hf (fun _ _ q => by cases q) (fun _ _ q => q)⟩
    refine ho.ins bW (v' := .slice (some ⟨b, 0, none⟩) (N + 1) c) hf (by omega) ?_ (Or.inl rfl)
    rw [← hcsd, ← hN]
    refine ⟨by simp only [List.length_append, List.length_take, List.length_drop, List.length_cons, List.length_nil, hclen]; omega, Or.inr ⟨b, c, pk (pk cur ((k + 1) * 2) D) (k * 2) [.int .i64 G, .slice none 0 0], rfl, hBb, ?_, hroom, hcm, by rw [pk_size, pk_size, hcs], ?_⟩⟩
    · rw [hw', setCells_pokes]; exact pokes_at _ _ _ _ hb1
    · rw [hD]
      exact pk_ins (cells := cs) (by rw [hclen]; exact hct) (by omega) (by simp; omega) (by simp; omega) (by omega)
  have HWs := hide hW1
  have q1 : ¬ ((k : Int) = (N : Int)) := by omega
  have q2 : ¬ ((c : Int) < (N : Int) + 1) := by omega
  have q3 : (0 : Int) ≤ (k : Int) := by omega
  have q4 : (k : Int) ≤ (N : Int) := by omega
  have q5 : ¬ c = k := by omega
  have q6 : ¬ c = k + 1 := by omega
  have q7 : (k : Int) ≤ (N : Int) + 1 := by omega
  have q8 : (N : Int) + 1 ≤ (c : Int) := by omega
  have q9 : (k : Int) + 1 ≤ (N : Int) + 1 := by omega
  have q10 : (0 : Int) ≤ (k : Int) + 1 := by omega
  have hw1 : IntKind.i64.wrap ((k : Int) + 1) = (k : Int) + 1 := by rw [IntKind.wrap_i64]; omega
  have hw2 : IntKind.i64.wrap ((N : Int) + 1) = (N : Int) + 1 := by rw [IntKind.wrap_i64]; omega
  have ht1 : ((k : Int) + 1).toNat = k + 1 := by omega
  have ht2 : ((N : Int) + 1).toNat = N + 1 := by omega
  have hNI : (N : Int) ≤ 1073741824 := by omega
  have hcI : (c : Int) ≤ 9223372036854775807 := by omega
  clear hW bW hb0 hBb hnc hcm hcs hct hbw hb hv hclen hcsd h1c hk hl hroom hcell hsa hsb hD hDl hW1 hb1 hv1 hs1 ho hN hcm63
  go_enter Tryz.func169, Tryz.ntmps169
  go_wp2_with (simp only [unhide hov])
  go_region_law (refine step_copy_runI rfl _ _ 22 22 rfl (.slice (some ⟨b, (k + 1) * 2, none⟩) (N + 1 - (k + 1)) (c - (k + 1))) (.slice (some ⟨b, k * 2, none⟩) (N + 1 - k) (c - k)) (by simp [Act.eval, Act.put]) (by simp [Act.eval, Act.put]) (unhide hcp1 _ _ _) ?_)
  rw [← unhide HWs]
  go_wp2_with fail
  rw [unhide hcp2 _ _]
  go_wp2_with fail
  go_ret
  exact ⟨_, rfl, (unhide HF _ rfl).1, (unhide HF _ rfl).2⟩
theorem pk_ins2 {cur : Array Value} {pre nw D : List Value} {p q m : Nat} (ht : cur.toList.take p = pre) (hp : pre.length = p) (hq : q = p + nw.length) (hm : m = q + D.length) (hfit : m ≤ cur.size) :
    ((pk (pk cur p nw) q D).toList).take m = pre ++ (nw ++ D) := by
  have hsz1 : (pk cur p nw).size = cur.size := pk_size _ _ _
  apply List.ext_getElem?
  intro j
  by_cases hj : j < m
  · rw [List.getElem?_take_of_lt hj, Array.getElem?_toList, pk_get _ _ _ (by rw [hsz1]; omega)]
    by_cases c1 : q ≤ j ∧ j < q + D.length
    · rw [if_pos c1, List.getElem?_append_right (by omega), List.getElem?_append_right (by omega)]
      congr 1
      omega
    · rw [if_neg c1, pk_get _ _ _ (by omega)]
      by_cases c2 : p ≤ j
      · rw [if_pos (by omega), List.getElem?_append_right (by omega), List.getElem?_append_left (by omega), hp]
      · rw [if_neg (by omega), List.getElem?_append_left (by omega), ← ht, List.getElem?_take_of_lt (by omega), Array.getElem?_toList]
  · rw [List.getElem?_eq_none (by rw [List.length_take]; omega), List.getElem?_eq_none (by simp [List.length_append]; omega)]
theorem zc_size (z : Value) (n : Nat) (hz : z.cells.size = 2) : (Builtin.zeroCells z.cells n).size = n * 2 := by
  simp [Builtin.zeroCells, hz]
set_option maxRecDepth 100000 in
set_option maxHeartbeats 8000000 in
theorem insGrow_any {B : Nat} {w : World} {b c : Nat} {l : List Lg} {xs : List (Value × List (Cv × List Value))} {k : Nat} {G : Int} (ho : OwL kLg B w (.slice (some ⟨b, 0, none⟩) l.length c) l xs) (hB : B ≤ w.heap.size) (h1c : ∀ u ∈ cellK kLg l xs, u.oneCell' = true) (hk : k < l.length) (hl : l.length ≤ 1073741824) (hroom : c < l.length + 1) :
    Calls Tryz.prog 169 #[.slice (some ⟨b, 0, none⟩) l.length c, .int .i64 (k : Int), .slice (some ⟨w.heap.size, 0, none⟩) 1 1] (w.alloc (.cells #[.int .i64 G, .slice none 0 0] 95)) fun e w' => ∃ v', e = .returned v' ∧ OwL kLg B w' v' (insAt l k (G, [])) (insAt xs k nilX) ∧ Fr [b] w w' := by
  obtain ⟨j0, hj, hy0, hy1, hyb⟩ := info_parts infoKLog
  have hsz : (Tryz.prog.info? 95).map (·.size) = some 2 := by rw [hj]; simp [hy1]
  obtain ⟨W, hW⟩ : ∃ W, W = w.alloc (.cells #[.int .i64 G, .slice none 0 0] 95) := ⟨_, rfl⟩
  have bW : Below w.heap.size w W := by rw [hW]; exact bwA _ _
  have hrow2 : w.ownsRow B 95 2 (.slice (some ⟨b, 0, none⟩) l.length c) l.length (cellK kLg l xs) := ho.row
  obtain ⟨cur, hb0, hBb, hnc, hcm, hcs, hct⟩ := own_blk hrow2
  clear hrow2
  have hbw : b < w.heap.size := lt_of_blk hb0
  have hb : W.heap[b]? = some (.cells cur 95 (0, 0)) := by rw [bW.block b hbw]; exact hb0
  have hv : W.heap[w.heap.size]? = some (.cells #[.int .i64 G, .slice none 0 0] 95 (0, 0)) := by rw [hW]; exact heap_alloc_new _ _
  have hvW := lt_of_blk hv
  have hclen : (cellK kLg l xs).length = l.length * 2 := cellK_len ho.xl
  rw [← hW]
  obtain ⟨cs, hcsd⟩ : ∃ z, z = cellK kLg l xs := ⟨_, rfl⟩
  obtain ⟨N, hN⟩ : ∃ N, N = l.length := ⟨_, rfl⟩
  rw [← hcsd, ← hN] at hclen hct
  rw [← hcsd] at h1c
  rw [← hN] at hk hl hroom hnc ⊢
  have hcell : ∀ j u, cs[j]? = some u → cur[j]? = some u := fun j u hu => by
    have hj' := (List.getElem?_eq_some_iff.1 hu).1
    rw [← hct] at hu
    rw [List.getElem?_take_of_lt (by omega), Array.getElem?_toList] at hu
    exact hu
  have hik : k + (N + 1 - k) = N + 1 := by omega
  have hkk : (N : Int) + 1 - (k : Int) = ((N + 1 - k : Nat) : Int) := by omega
  have hold : (Builtin.firstCells j0.size k (.slice (some ⟨b, 0, none⟩) k c)).run Tryz.prog W.drew = .ok (cs.take (k * 2)).toArray W.drew := by
    rw [hy1]
    exact run_firstCells_some W.drew 2 k ⟨b, 0, none⟩ k c (cs.take (k * 2)) (by rw [List.length_take]; omega) (fun j u hj => by
      rw [addr_lit, Nat.zero_add]
      rw [List.getElem?_take] at hj
      split at hj
      · exact blk_c (W := W.drew) hb (hcell j u hj)
      · cases hj)
  have hz2 : (Value.agg #[.int .i64 0, .slice none 0 0]).cells.size = 2 := by rfl
  have hrz := fun ty => Lib.run_append_grow_zeros W 22 3 ty 95 j0 _ .i64 .i64 Tryz.underlying22 Tryz.underlying3 hj hy0 (some ⟨b, 0, none⟩) k c (cs.take (k * 2)) hold (N + 1 - k) (by omega) (by omega) (by omega) (by omega) (by rw [hyb]; omega) (by rw [hyb, hik]; exact growslice_fits hroom (by omega))
  rw [hik, ← hkk] at hrz
  obtain ⟨Gc, hGc⟩ : ∃ z, z = grownCap W (N + 1) c 95 := ⟨_, rfl⟩
  have hGn : N + 1 ≤ Gc := by rw [hGc]; exact grownCap_ge W _ _ _
  have hGm : Gc ≤ maxLen := by rw [hGc]; exact grownCap_le_maxLen W (N + 1) c 95 (by unfold maxLen; omega)
  rw [← hGc] at hrz
  obtain ⟨ROW, hROW⟩ : ∃ z : Array Value, z = (cs.take (k * 2)).toArray ++ Builtin.zeroCells (Value.agg #[.int .i64 0, .slice none 0 0]).cells (N + 1 - k) ++ Builtin.zeroCells (Value.agg #[.int .i64 0, .slice none 0 0]).cells (Gc - (N + 1)) := ⟨_, rfl⟩
  rw [← hROW] at hrz
  have hRs : ROW.size = Gc * 2 := by
    rw [hROW, Array.size_append, Array.size_append, zc_size _ _ hz2, zc_size _ _ hz2, List.size_toArray, List.length_take]; omega
  have hRt : ROW.toList.take (k * 2) = cs.take (k * 2) := by
    rw [hROW, Array.toList_append, Array.toList_append, List.append_assoc, List.take_append_of_le_length (by simp; omega)]
    rw [List.take_of_length_le (by simp; omega)]
  obtain ⟨nb, hnb⟩ : ∃ z, z = W.heap.size := ⟨_, rfl⟩
  rw [← hnb] at hrz
  obtain ⟨W1, hW1⟩ : ∃ z, z = W.drew.alloc (.cells ROW 95) := ⟨_, rfl⟩
  rw [← hW1] at hrz
  have hn1 : W1.heap[nb]? = some (.cells ROW 95 (0, 0)) := by rw [hW1, hnb]; exact heap_alloc_new _ _
  have bW1 : Below W.heap.size W W1 := by rw [hW1]; exact ((Below.refl _ _).drew).alloc (Nat.le_refl _) _
  have hb1 : W1.heap[b]? = some (.cells cur 95 (0, 0)) := by rw [bW1.block b (by omega)]; exact hb
  have hv1 : W1.heap[w.heap.size]? = some (.cells #[.int .i64 G, .slice none 0 0] 95 (0, 0)) := by rw [bW1.block _ hvW]; exact hv
  obtain ⟨D, hD⟩ : ∃ D, D = cs.drop (k * 2) := ⟨_, rfl⟩
  have hDl : D.length = (N - k) * 2 := by rw [hD, List.length_drop, hclen]; omega
  have hcpA : Hid (∀ (X : World), X.heap = W1.heap → ∀ ty dc, (Builtin.copy_ #[22, 22] ty #[.slice (some ⟨nb, k * 2, none⟩) (N + 1 - k) dc, .slice (some ⟨w.heap.size, 0, none⟩) 1 1]).run Tryz.prog X = .ok (goInt (Nat.min 1 (N + 1 - k))) (X.setCells nb (k * 2) [.int .i64 G, .slice none 0 0])) := fun X hX ty dc =>
    run_copy_cellsK X 22 22 ty 95 2 nb (k * 2) (N + 1 - k) dc ⟨w.heap.size, 0, none⟩ 1 1 [.int .i64 G, .slice none 0 0] Tryz.underlying22 hsz (by simp only [List.length_cons, List.length_nil, Nat.min_def]; split <;> omega)
      (fun j u hj => by
        rw [addr_lit, Nat.zero_add]
        exact blk_c (by rw [hX]; exact hv1) (by simpa using hj))
      (fun j hj => by
        simp at hj
        have hlt : k * 2 + j < ROW.size := by omega
        have : ROW[k * 2 + j]? = some (ROW[k * 2 + j]) := Array.getElem?_eq_getElem hlt
        rw [blk_c (by rw [hX]; exact hn1) this]; rfl)
      (fun j hj => froz_b' (by rw [hX]; exact hn1)) (by intro u hu; simp at hu; rcases hu with rfl | rfl <;> rfl)
  have hcpB : Hid (∀ (X : World), X.heap = (W1.setCells nb (k * 2) [.int .i64 G, .slice none 0 0]).heap → ∀ ty dc sc, (Builtin.copy_ #[22, 22] ty #[.slice (some ⟨nb, (k + 1) * 2, none⟩) (N + 1 - (k + 1)) dc, .slice (some ⟨b, k * 2, none⟩) (N - k) sc]).run Tryz.prog X = .ok (goInt (Nat.min (N - k) (N + 1 - (k + 1)))) (X.setCells nb ((k + 1) * 2) D)) := fun X hX ty dc sc => by
    rw [setCells_pokes] at hX
    have hn2 : X.heap[nb]? = some (.cells (pk ROW (k * 2) [.int .i64 G, .slice none 0 0]) 95 (0, 0)) := by rw [hX]; exact pokes_at _ _ _ _ hn1
    have hb2 : X.heap[b]? = some (.cells cur 95 (0, 0)) := by rw [hX, pokes_other (by omega)]; exact hb1
    have hs2 : (pk ROW (k * 2) [.int .i64 G, .slice none 0 0]).size = Gc * 2 := by rw [pk_size, hRs]
    exact run_copy_cellsK X 22 22 ty 95 2 nb ((k + 1) * 2) (N + 1 - (k + 1)) dc ⟨b, k * 2, none⟩ (N - k) sc D Tryz.underlying22 hsz (by rw [hDl]; simp only [Nat.min_def]; split <;> omega)
      (fun j u hj => by
        rw [addr_lit]
        rw [hD, List.getElem?_drop] at hj
        exact blk_c hb2 (hcell _ u hj))
      (fun j hj => by
        have hlt : (k + 1) * 2 + j < (pk ROW (k * 2) [.int .i64 G, .slice none 0 0]).size := by omega
        have : (pk ROW (k * 2) [.int .i64 G, .slice none 0 0])[(k + 1) * 2 + j]? = some ((pk ROW (k * 2) [.int .i64 G, .slice none 0 0])[(k + 1) * 2 + j]) := Array.getElem?_eq_getElem hlt
        rw [blk_c hn2 this]; rfl)
      (fun j hj => froz_b' hn2) (fun u hu => h1c u (by rw [hD] at hu; exact List.mem_of_mem_drop hu))
  have HF : Hid (∀ (X Y : World), Fr [b] W X → X.heap = (W1.setCells nb (k * 2) [.int .i64 G, .slice none 0 0]).heap → Y = X.setCells nb ((k + 1) * 2) D → OwL kLg B Y (.slice (some ⟨nb, 0, none⟩) (N + 1) Gc) (insAt l k (G, [])) (insAt xs k nilX) ∧ Fr [b] w Y) := fun X Y hfX hX hY => by
    rw [setCells_pokes] at hX hY
    have hn2 : X.heap[nb]? = some (.cells (pk ROW (k * 2) [.int .i64 G, .slice none 0 0]) 95 (0, 0)) := by rw [hX]; exact pokes_at _ _ _ _ hn1
    have hf : Fr [b] W Y := by
      rw [hY]
      clear hY hX hn2
      have : ∀ (vs : List Value) (o : Nat) (Z : World), Fr [b] W Z → Fr [b] W (pokes Z nb o vs) := by
        intro vs
        induction vs with
        | nil => intro o Z h; exact h
        | cons v r ih => intro o Z h; exact ih _ _ (h.setCell (a := ⟨nb, o, none⟩) (Or.inl (by show W.heap.size ≤ nb; omega)) v)
      exact this _ _ _ hfX
    refine ⟨?_, (Fr.ofBelow bW).trans hf (fun _ _ q => by cases q) (fun _ _ q => q)⟩
    refine ho.ins bW (v' := .slice (some ⟨nb, 0, none⟩) (N + 1) Gc) hf (by omega) ?_ (Or.inr (fun b' hb' => by cases hb'; rw [hnb]; exact bW.size))
    rw [← hcsd, ← hN]
    refine ⟨by simp only [List.length_append, List.length_take, List.length_drop, List.length_cons, List.length_nil, hclen]; omega, Or.inr ⟨nb, Gc, pk (pk ROW (k * 2) [.int .i64 G, .slice none 0 0]) ((k + 1) * 2) D, rfl, by rw [hnb]; exact Nat.le_trans hB bW.size, ?_, hGn, hGm, by rw [pk_size, pk_size, hRs], ?_⟩⟩
    · rw [hY]; exact pokes_at _ _ _ _ hn2
    · rw [← hD]
      exact pk_ins2 (pre := cs.take (k * 2)) hRt (by rw [List.length_take]; omega) (by simp; omega) (by rw [hDl]; omega) (by omega)
  have HFr : Hid (∀ X : World, Fr [b] W X → Fr [b] W (X.setCells nb (k * 2) [.int .i64 G, .slice none 0 0]).drew) := fun X hX => by
    rw [setCells_pokes]
    exact ((hX.setCell (a := ⟨nb, k * 2, none⟩) (Or.inl (by show W.heap.size ≤ nb; omega)) _).setCell (a := ⟨nb, k * 2 + 1, none⟩) (Or.inl (by show W.heap.size ≤ nb; omega)) _).drew
  have HF1 : Hid (Fr [b] W W1) := (Fr.ofBelow bW1).mono (fun _ _ q => by cases q)
  have HRZ := hide hrz
  have HWs := hide hW1
  have hGI : (Gc : Int) ≤ 9223372036854775807 := by unfold maxLen at hGm; omega
  have hGNI : (N : Int) + 1 ≤ (Gc : Int) := by omega
  have g1 : ¬ Gc = k := by omega
  have g2 : ¬ Gc = k + 1 := by omega
  have q1 : ¬ ((k : Int) = (N : Int)) := by omega
  have q2 : (c : Int) < (N : Int) + 1 := by omega
  have q3 : (0 : Int) ≤ (k : Int) := by omega
  have q4 : (k : Int) ≤ (N : Int) := by omega
  have q5 : ¬ c = k := by omega
  have q7 : (k : Int) ≤ (N : Int) + 1 := by omega
  have q9 : (k : Int) + 1 ≤ (N : Int) + 1 := by omega
  have q10 : (0 : Int) ≤ (k : Int) + 1 := by omega
  have q11 : (k : Int) ≤ (c : Int) := by omega
  have hw1 : IntKind.i64.wrap ((k : Int) + 1) = (k : Int) + 1 := by rw [IntKind.wrap_i64]; omega
  have hw2 : IntKind.i64.wrap ((N : Int) + 1) = (N : Int) + 1 := by rw [IntKind.wrap_i64]; omega
  have hw3 : IntKind.i64.wrap ((N : Int) + 1 - (k : Int)) = (N : Int) + 1 - (k : Int) := by rw [IntKind.wrap_i64]; omega
  have ht1 : ((k : Int) + 1).toNat = k + 1 := by omega
  have hNI : (N : Int) ≤ 1073741824 := by omega
  clear hW bW hb0 hBb hnc hcm hcs hct hbw hb hv hclen hcsd h1c hk hl hroom hcell hD hDl hb1 hv1 ho hN hik hkk hold hz2 hGc hGn hGm hROW hRs hRt hn1 bW1 hvW hB hrz hW1 hnb
  go_enter Tryz.func169, Tryz.ntmps169
  go_wp2_with (at_builtin; refine Lib.wpList_append_run _ rfl _ _ _ _ rfl _ _ rfl rfl _ _ (unhide HRZ _) ?_)
  rw [unhide hcpA W1 rfl _ _]
  go_wp2_with fail
  go_region_law (refine step_copy_runI rfl _ _ 22 22 rfl (.slice (some ⟨nb, (k + 1) * 2, none⟩) (N + 1 - (k + 1)) (Gc - (k + 1))) (.slice (some ⟨b, k * 2, none⟩) (N - k) (c - k)) (by simp [Act.eval, Act.put]) (by simp [Act.eval, Act.put]) (unhide hcpB (W1.setCells nb (k * 2) [.int .i64 G, .slice none 0 0]).drew rfl _ _ _) ?_)
  go_wp2_with fail
  go_ret
  exact ⟨_, rfl, (unhide HF _ _ (unhide HFr _ (unhide HF1)) rfl rfl).1, (unhide HF _ _ (unhide HFr _ (unhide HF1)) rfl rfl).2⟩
end Go.Proofs.YtnfhbmlmemifjaaGreatDoor

/- One commit more in a log of one's own; slices.Insert at logs, whatever there is. -/
namespace Go.Proofs.YtnfhbmlmemifjaaGreatDoor
open Go.RowKit Go.Maps
theorem ins_any {B : Nat} {w : World} {v : Value} {l : List Lg} {xs : List (Value × List (Cv × List Value))} {k : Nat} {G : Int} (ho : OwL kLg B w v l xs) (hB : B ≤ w.heap.size) (h1c : ∀ u ∈ cellK kLg l xs, u.oneCell' = true) (hk : k ≤ l.length) (hl : l.length ≤ 1073741824) :
    Calls Tryz.prog 169 #[v, .int .i64 (k : Int), .slice (some ⟨w.heap.size, 0, none⟩) 1 1] (w.alloc (.cells #[.int .i64 G, .slice none 0 0] 95)) fun e w' => ∃ v', e = .returned v' ∧ OwL kLg B w' v' (insAt l k (G, [])) (insAt xs k nilX) ∧ Fr v.ownBlock.toList w w' := by
  rcases Nat.lt_or_ge k l.length with c | c
  · obtain ⟨b, cap, hv, _, _, _⟩ := own_open ho.row (by omega)
    subst hv
    rcases Nat.lt_or_ge cap (l.length + 1) with d | d
    · exact insGrow_any ho hB h1c c hl d
    · exact insRoom_any ho h1c c hl d
  · obtain rfl : k = l.length := by omega
    exact insEnd_any ho hB hl
theorem OwL.one {B : Nat} {w : World} {v : Value} {l : List Lg} {xs : List (Value × List (Cv × List Value))} (ho : OwL kLg B w v l xs) : ∀ u ∈ cellK kLg l xs, u.oneCell' = true := by
  intro u hu
  obtain ⟨k, hk⟩ := List.mem_iff_getElem?.1 hu
  obtain ⟨i, j, a, x, _, hj, h1, h2, h3⟩ := cellK_inv ho.xl hk
  obtain ⟨ad, cp, hx⟩ := own_slice (OwL.row (K := kCm) (ho.el i a x h1 h2))
  have : j < 2 := hj
  match j, this, h3 with
  | 0, _, h3 => cases h3; rfl
  | 1, _, h3 =>
    have e : x.1 = u := by simpa [kLg] using h3
    rw [← e, hx]; rfl
theorem step_appL {P : Program} {ops : Array Oper} {o : Oper} {a : Act} {w : World} {K : Act → World → Prop} {Q : Exit → Act → World → Prop} {E : Prop}
    (hg : o.guard = none) (s x : Operand) (t : TypeId) (hop : o.op = Op.call { callee := Callee.builtin Builtin.append, args := #[s, x], argTypes := #[t, t] })
    (base : Nat) (e : TypeId) (i : TypeInfo) (z : Value) (size bytes : Nat) (ht : P.underlying t = some (.slice e)) (hi : P.info? e = some i) (hz : i.zero = some z)
    (hsize : i.size = size) (hby : i.bytes = bytes) (hzs : z.cells.size = size) (hsz : 0 < size)
    (v : Value) (n : Nat) (xs : List Value) (hs : a.eval s = v) (hown : w.ownsRow base e size v n xs)
    (ad : Addr) (m c : Nat) (news : List Value) (hx : a.eval x = .slice (some ad) m c) (hl : news.length = m * size) (hnews : ∀ j u, news[j]? = some u → w.cell? (ad.add j) = some u) (h1 : ∀ u ∈ news, u.oneCell' = true)
    (h63 : n + m ≤ maxLen) (hbytes : (n + m) * bytes ≤ 140737488355328) (hbase : base ≤ w.heap.size)
    (hK : ∀ v' w', w'.ownsRow base e size v' (n + m) (xs ++ news) → w.grownBy w' v.ownBlock → (v'.ownBlock = v.ownBlock ∨ v'.ownBlock = some w.heap.size) → K (a.put o.dst v') w') :
    if Region.wanted o (yielded ops a.tmps) = true then Oper.wp P o a w K Q else E := by
  have hw : Region.wanted o (yielded ops a.tmps) = true := by simp [Region.wanted, hg]
  rw [if_pos hw]
  obtain ⟨v', w', hr, h2, h3, _, h5⟩ := run_append_own_at (P := P) w base t o.type e i z size bytes ht hi hz hsize hby hzs hsz v n xs hown ad m c news hl hnews h1 h63 hbytes hbase
  unfold Oper.wp
  simp [execOp, hop, resolve, invoke, builtin, hs, hx, hr, Result.andThen]
  exact hK v' w' h2 h3 h5
theorem get_snoc {α : Type} {l : List α} {a b : α} {i : Nat} (h : (l ++ [a])[i]? = some b) : (i < l.length ∧ l[i]? = some b) ∨ (i = l.length ∧ b = a) := by
  rcases Nat.lt_or_ge i l.length with c | c
  · rw [List.getElem?_append_left c] at h; exact Or.inl ⟨c, h⟩
  · rw [List.getElem?_append_right c] at h
    rcases Nat.eq_zero_or_pos (i - l.length) with d | d
    · rw [d] at h; simp at h; exact Or.inr ⟨by omega, h.symm⟩
    · rw [List.getElem?_eq_none (by simp; omega)] at h; cases h
theorem cellK_snoc {α ξ : Type} {K : EK α ξ} {l : List α} {xs : List ξ} (hl : xs.length = l.length) (a : α) (x : ξ) : cellK K (l ++ [a]) (xs ++ [x]) = cellK K l xs ++ K.C a x := by
  unfold cellK rowsK
  rw [List.zipWith_append hl.symm]
  simp
theorem OwL.snocC {B : Nat} {w1 w3 w4 : World} {v v' : Value} {l : List Cm} {xs : List (Cv × List Value)} {c : Cm} {x : Cv} {us : List Value} (ho : OwL kCm B w1 v l xs) (hb : Below w1.heap.size w1 w3) (hB : B ≤ w1.heap.size) (hc : OC w1.heap.size w3 c x us)
    (hrow : w4.ownsRow B 34 15 v' (l.length + 1) (cellK kCm l xs ++ cmC c x)) (hg : w3.grownBy w4 v.ownBlock) (hv : v'.ownBlock = v.ownBlock ∨ v'.ownBlock = some w3.heap.size) : OwL kCm B w4 v' (l ++ [c]) (xs ++ [(x, us)]) := by
  have hf := Fr.ofGrown hg
  have kp : ∀ (i : Nat) (a : Cm) (y : Cv × List Value), l[i]? = some a → xs[i]? = some y → kCm.O B w4 a y := fun i a y ha hy => kCm.keep _ _ _ _ _ (ho.el i a y ha hy) (fun z hz => by
    have h1 := (ho.lt z (zK_el hy hz)).2
    rw [hf.block z (Nat.lt_of_lt_of_le h1 hb.size) (fun q => ho.self z i y (by simpa using q) hy hz), hb.block z h1])
  have hcn : OC w1.heap.size w4 c x us := OC.keep hc (fun z hz => by
    have h1 := OC.lt hc z hz
    refine hf.block z h1.2 (fun q => ?_)
    have := (World.ownsRow.lt ho.row z (by simpa using q)).2
    omega)
  have hlt : ∀ (i : Nat) (y : Cv × List Value) (z : Nat), xs[i]? = some y → z ∈ kCm.Z y → z < w1.heap.size := fun i y z hy hz => (ho.lt z (zK_el hy hz)).2
  refine ⟨by simp [ho.xl], ?_, fun i a y ha hy => ?_, fun i j y y' z hy hy' hz hz' => ?_, fun z i y hz hy hzy => ?_⟩
  · rw [cellK_snoc ho.xl, List.length_append]; exact hrow
  · rcases get_snoc ha with ⟨h1, h2⟩ | ⟨h1, h2⟩
    · rcases get_snoc hy with ⟨h3, h4⟩ | ⟨h3, h4⟩
      · exact kp i a y h2 h4
      · rw [ho.xl] at h3; omega
    · rcases get_snoc hy with ⟨h3, h4⟩ | ⟨h3, h4⟩
      · rw [ho.xl] at h3; omega
      · subst h2 h4; exact OC.mono hcn hB
  · rcases get_snoc hy with ⟨h1, h2⟩ | ⟨h1, h2⟩ <;> rcases get_snoc hy' with ⟨h3, h4⟩ | ⟨h3, h4⟩
    · exact ho.ap i j y y' z h2 h4 hz hz'
    · subst h4; have h5 := hlt i y z h2 hz; have h6 := (OC.lt hc z hz').1; omega
    · subst h2; have h5 := hlt j y' z h4 hz'; have h6 := (OC.lt hc z hz).1; omega
    · omega
  · rcases get_snoc hy with ⟨h1, h2⟩ | ⟨h1, h2⟩
    · rcases hv with q | q
      · exact ho.self z i y (by rw [← q]; exact hz) h2 hzy
      · rw [q] at hz; cases hz
        have := hlt i y _ h2 hzy
        have := hb.size
        omega
    · subst h2
      have h5 := OC.lt hc z hzy
      rcases hv with q | q
      · have := (World.ownsRow.lt ho.row z (by rw [← q]; exact hz)).2; omega
      · rw [q] at hz; cases hz; omega
theorem zK_snoc {v' : Value} {xs : List (Cv × List Value)} {y : Cv × List Value} {z : Nat} (h : z ∈ zK kCm v' (xs ++ [y])) : v'.ownBlock = some z ∨ (∃ (i : Nat) (x : Cv × List Value), xs[i]? = some x ∧ z ∈ kCm.Z x) ∨ z ∈ kCm.Z y := by
  rcases zK_cases h with q | ⟨i, x, hx, hz⟩
  · exact Or.inl q
  · rcases get_snoc hx with ⟨_, h2⟩ | ⟨_, h2⟩
    · exact Or.inr (Or.inl ⟨i, x, h2, hz⟩)
    · subst h2; exact Or.inr (Or.inr hz)
theorem OwL.more {B : Nat} {w1 w3 w4 : World} {g n cap k : Nat} {l : List Lg} {xs : List (Value × List (Cv × List Value))} {p : Lg} {cv cv' : Value} {ys : List (Cv × List Value)} {c : Cm} {x : Cv} {us : List Value} (ho : OwL kLg B w1 (.slice (some ⟨g, 0, none⟩) n cap) l xs) (hp : l[k]? = some p) (hx : xs[k]? = some (cv, ys)) (hb : Below w1.heap.size w1 w3) (hB : B ≤ w1.heap.size) (hc : OC w1.heap.size w3 c x us)
    (hrow : w4.ownsRow B 34 15 cv' (p.2.length + 1) (cellK kCm p.2 ys ++ cmC c x)) (hg : w3.grownBy w4 cv.ownBlock) (hv : cv'.ownBlock = cv.ownBlock ∨ cv'.ownBlock = some w3.heap.size) :
    OwL kLg B (w4.setCell ⟨g, k * 2 + 1, none⟩ cv') (.slice (some ⟨g, 0, none⟩) n cap) (l.set k (p.1, p.2 ++ [c])) (xs.set k (cv', ys ++ [(x, us)])) := by
  have hf := Fr.ofGrown hg
  have hk : k < l.length := (List.getElem?_eq_some_iff.1 hp).1
  have hkx : k < xs.length := by rw [ho.xl]; exact hk
  have hck : OwL kCm B w1 cv p.2 ys := ho.el k p _ hp hx
  have hsn := hck.snocC hb hB hc hrow hg hv
  have hgo : (Value.slice (some ⟨g, 0, none⟩) n cap).ownBlock = some g := rfl
  have hgl := World.ownsRow.lt ho.row g hgo
  have hgcv : cv.ownBlock ≠ some g := fun q => ho.self g k _ hgo hx (zK_row (K := kCm) q)
  -- what was there ahead of the copy, but the row itself and the commits' block, is there
  have kp0 : ∀ z, z < w1.heap.size → cv.ownBlock ≠ some z → w4.heap[z]? = w1.heap[z]? := fun z hz hn => by
    rw [hf.block z (Nat.lt_of_lt_of_le hz hb.size) (fun q => hn (by simpa using q)), hb.block z hz]
  have row4 : w4.ownsRow B 95 2 (.slice (some ⟨g, 0, none⟩) n cap) l.length (cellK kLg l xs) := own_keep ho.row (fun z hz => by cases hz; exact kp0 g hgl.2 hgcv)
  have row5 := own_set row4 (g := g) rfl (j := k * 2 + 1) cv'
  have hcell : (cellK kLg l xs).set (k * 2 + 1) cv' = cellK kLg (l.set k (p.1, p.2 ++ [c])) (xs.set k (cv', ys ++ [(x, us)])) := by
    apply List.ext_getElem?
    intro j
    have hl1 := cellK_len (K := kLg) ho.xl
    have hl2 : (cellK kLg (l.set k (p.1, p.2 ++ [c])) (xs.set k (cv', ys ++ [(x, us)]))).length = l.length * 2 := by rw [cellK_len (by simp [ho.xl])]; simp; rfl
    have hl1' : (cellK kLg l xs).length = l.length * 2 := hl1
    by_cases hj : j < l.length * 2
    · obtain ⟨i, r, hr, rfl⟩ : ∃ i r, r < 2 ∧ j = i * 2 + r := ⟨j / 2, j % 2, Nat.mod_lt _ (by decide), by omega⟩
      have hi : i < l.length := by omega
      have hix : i < xs.length := by rw [ho.xl]; exact hi
      by_cases hik : i = k
      · subst hik
        have e1 : ∀ (j : Nat) (u : Value), ([Value.int .i64 p.1, cv'] : List Value)[j]? = some u → (cellK kLg (l.set i (p.1, p.2 ++ [c])) (xs.set i (cv', ys ++ [(x, us)])))[i * 2 + j]? = some u := fun j u hu => cellK_get (K := kLg) (List.getElem?_set_self hi) (List.getElem?_set_self hix) hu
        have e0 : ∀ (j : Nat) (u : Value), ([Value.int .i64 p.1, cv] : List Value)[j]? = some u → (cellK kLg l xs)[i * 2 + j]? = some u := fun j u hu => cellK_get (K := kLg) hp hx hu
        match r, hr with
        | 0, _ =>
          rw [List.getElem?_set_ne (by omega)]
          exact (e0 0 _ rfl).trans (e1 0 _ rfl).symm
        | 1, _ =>
          rw [List.getElem?_set_self (by rw [hl1']; exact hj)]
          exact (e1 1 _ rfl).symm
      · rw [List.getElem?_set_ne (by omega)]
        have e0 : ∀ (j : Nat) (u : Value), ([Value.int .i64 l[i].1, xs[i].1] : List Value)[j]? = some u → (cellK kLg l xs)[i * 2 + j]? = some u := fun j u hu => cellK_get (K := kLg) (List.getElem?_eq_getElem hi) (List.getElem?_eq_getElem hix) hu
        have e1 : ∀ (j : Nat) (u : Value), ([Value.int .i64 l[i].1, xs[i].1] : List Value)[j]? = some u → (cellK kLg (l.set k (p.1, p.2 ++ [c])) (xs.set k (cv', ys ++ [(x, us)])))[i * 2 + j]? = some u := fun j u hu => cellK_get (K := kLg) (by rw [List.getElem?_set_ne (Ne.symm hik)]; exact List.getElem?_eq_getElem hi) (by rw [List.getElem?_set_ne (Ne.symm hik)]; exact List.getElem?_eq_getElem hix) hu
        match r, hr with
        | 0, _ => exact (e0 0 _ rfl).trans (e1 0 _ rfl).symm
        | 1, _ => exact (e0 1 _ rfl).trans (e1 1 _ rfl).symm
    · rw [List.getElem?_eq_none (by rw [List.length_set, hl1']; omega), List.getElem?_eq_none (by rw [hl2]; omega)]
  have hZ : ∀ z, z ∈ zK kCm cv' (ys ++ [(x, us)]) → z ∈ zK kCm cv ys ∨ w1.heap.size ≤ z := fun z hz => by
    rcases zK_snoc hz with q | ⟨i, y, hy, q⟩ | q
    · rcases hv with r | r
      · rw [r] at q; exact Or.inl (zK_row q)
      · rw [r] at q; cases q; exact Or.inr hb.size
    · exact Or.inl (zK_el hy q)
    · exact Or.inr (OC.lt hc z q).1
  have hold : ∀ (j : Nat) (y : Value × List (Cv × List Value)) (z : Nat), j ≠ k → xs[j]? = some y → z ∈ kLg.Z y → z < w1.heap.size ∧ z ∉ zK kCm cv ys := fun j y z hjk hy hz => ⟨(ho.lt z (zK_el hy hz)).2, fun q => hjk (ho.ap j k y _ z hy hx hz q)⟩
  refine ⟨by simp [ho.xl], ?_, fun i a y ha hy => ?_, fun i j y y' z hy hy' hz hz' => ?_, fun z i y hz hy hzy => ?_⟩
  · rw [← hcell, List.length_set]; exact row5
  · by_cases hik : i = k
    · subst hik
      rw [List.getElem?_set_self hk] at ha
      rw [List.getElem?_set_self hkx] at hy
      cases ha; cases hy
      refine OwL.keep hsn (fun z hz => Below.heap_setCell _ _ _ _ (fun q => ?_))
      have q' : z = g := by simpa using q
      subst q'
      rcases hZ z hz with r | r
      · exact ho.self z i _ hgo hx r
      · omega
    · rw [List.getElem?_set_ne (Ne.symm hik)] at ha hy
      refine kLg.keep _ _ _ _ _ (ho.el i a y ha hy) (fun z hz => ?_)
      obtain ⟨h1, h2⟩ := hold i y z hik hy hz
      have hzg : z ≠ g := fun q => ho.self g i y hgo hy (by rw [← q]; exact hz)
      rw [Below.heap_setCell _ _ _ _ (by simpa using hzg)]
      exact kp0 z h1 (fun q => h2 (zK_row q))
  · by_cases hik : i = k <;> by_cases hjk : j = k
    · omega
    · subst hik
      rw [List.getElem?_set_self hkx] at hy; cases hy
      rw [List.getElem?_set_ne (Ne.symm hjk)] at hy'
      obtain ⟨h1, h2⟩ := hold j y' z hjk hy' hz'
      rcases hZ z hz with r | r
      · exact absurd r h2
      · omega
    · subst hjk
      rw [List.getElem?_set_self hkx] at hy'; cases hy'
      rw [List.getElem?_set_ne (Ne.symm hik)] at hy
      obtain ⟨h1, h2⟩ := hold i y z hik hy hz
      rcases hZ z hz' with r | r
      · exact absurd r h2
      · omega
    · rw [List.getElem?_set_ne (Ne.symm hik)] at hy
      rw [List.getElem?_set_ne (Ne.symm hjk)] at hy'
      exact ho.ap i j y y' z hy hy' hz hz'
  · cases hz
    by_cases hik : i = k
    · subst hik
      rw [List.getElem?_set_self hkx] at hy; cases hy
      rcases hZ g hzy with r | r
      · exact ho.self g i _ hgo hx r
      · omega
    · rw [List.getElem?_set_ne (Ne.symm hik)] at hy
      exact ho.self g i y hgo hy hzy
end Go.Proofs.YtnfhbmlmemifjaaGreatDoor
