/- Texts joined: TtB TtC TtD TtE. -/
import Derived.Test.YtnimdnoemmodaaaTtA
import Derived.Test.YtnimdnoemmodaaaZ08
/- Copies of rows of nodes with marks behind them: what they are in memory. TwinNode, markNode. -/
namespace Go.Proofs.Ytnimdnoemmodaaa
open Go.RowKit Go.Maps
theorem made_nodes (m : Nat) : (madeCells (Value.agg #[.int .i64 0, .int .i64 0, .int .i64 0, .slice none 0 0]).cells (m * 4)).toList = treeC (List.replicate m nd0) (List.replicate m (.slice none 0 0)) := by
  apply List.ext_getElem?
  intro i
  rcases Nat.lt_or_ge i (m * 4) with h | h
  · obtain ⟨q, r, hr, rfl⟩ : ∃ q r, r < 4 ∧ i = q * 4 + r := ⟨i / 4, i % 4, by omega, by omega⟩
    have hq : q < m := by omega
    have e : (madeCells (Value.agg #[.int .i64 0, .int .i64 0, .int .i64 0, .slice none 0 0]).cells (m * 4)).toList[q * 4 + r]? = some ((#[.int .i64 0, .int .i64 0, .int .i64 0, .slice none 0 0] : Array Value)[r]!) := by
      have e2 : (q * 4 + r) % 4 = r := by omega
      simp [madeCells, Value.cells, h, e2]
    rw [e]
    symm
    refine treeC_get (n := nd0) (u := .slice none 0 0) (by simp [hq]) (by simp [hq]) ?_
    match r, hr with
    | 0, _ => rfl
    | 1, _ => rfl
    | 2, _ => rfl
    | 3, _ => rfl
  · rw [List.getElem?_eq_none (by simp [madeCells]; exact h), List.getElem?_eq_none (by rw [treeC_len (by simp)]; simpa using h)]
def mkN (n : Nat) : Nd := ⟨mkI n, 0, 0, []⟩
set_option maxRecDepth 100000 in
set_option maxHeartbeats 2000000 in
theorem twinNode_any (w : World) (p m e : Int) (u : Value) (l : List Int) (hu : Nums w u l) (hl : l.length ≤ 1048576) :
    Calls Try.prog 76 #[.agg #[.int .i64 p, .int .i64 m, .int .i64 e, u]] w fun x w' => ∃ g, x = .returned (.agg #[.int .i64 p, .int .i64 m, .int .i64 e, .slice (some ⟨g, 0, none⟩) l.length (l.length + 2)]) ∧ w.heap.size ≤ g ∧ Twint w' g l ∧ Below w.heap.size w w' := by
  obtain ⟨a, c, rfl⟩ := nums_slice hu
  obtain ⟨W0, hW0⟩ : ∃ W0, W0 = (w.alloc (.cells #[.int .i64 p, .int .i64 m, .int .i64 e, .slice a l.length c] 87)).alloc (.cells #[.int .i64 0, .int .i64 0, .int .i64 0, .slice none 0 0] 87) := ⟨_, rfl⟩
  have hb0 : Below w.heap.size w W0 := by rw [hW0]; exact (bwA _ _).alloc (by simp) _
  have hs0 : W0.heap.size = w.heap.size + 2 := by rw [hW0]; simp
  have HB : Hid (∀ W, Below W0.heap.size W0 W → W.heap[w.heap.size]? = some (.cells #[.int .i64 p, .int .i64 m, .int .i64 e, .slice a l.length c] 87 (0, 0)) ∧ W.heap[w.heap.size + 1]? = some (.cells #[.int .i64 0, .int .i64 0, .int .i64 0, .slice none 0 0] 87 (0, 0)) ∧ Below w.heap.size w W) := fun W hW => by
    refine ⟨?_, ?_, bw_tr hb0 hW⟩
    · rw [hW.block _ (by omega), hW0, Below.heap_alloc _ _ _ (by simp)]; exact heap_alloc_new _ _
    · rw [hW.block _ (by omega), hW0]
      have := heap_alloc_new (w.alloc (.cells #[.int .i64 p, .int .i64 m, .int .i64 e, .slice a l.length c] 87)) (.cells #[.int .i64 0, .int .i64 0, .int .i64 0, .slice none 0 0] 87)
      simpa using this
  have KT := hide (twinint_any W0 _ l (hu.bw hb0) hl)
  have HW : Hid (W0 = (w.alloc (.cells #[.int .i64 p, .int .i64 m, .int .i64 e, .slice a l.length c] 87)).alloc (.cells #[.int .i64 0, .int .i64 0, .int .i64 0, .slice none 0 0] 87)) := hW0
  have HS := hide hs0
  clear hW0 hu hl hb0 hs0
  obtain ⟨L, hL⟩ : ∃ L, L = l.length := ⟨_, rfl⟩
  rw [← hL] at KT HW HB ⊢
  have HL := hide hL
  clear hL
  go_enter Try.func76, Try.ntmps76
  go_wp2_with fail
  rw [← unhide HW]
  refine (unhide KT).mono ?_
  rintro x w1 ⟨rfl, ht, b1⟩
  obtain ⟨k1, k2, b2⟩ := unhide HB _ b1
  have c0 := cell_of_blk k1 (o := 0) rfl; have c1 := cell_of_blk k1 (o := 1) rfl; have c2 := cell_of_blk k1 (o := 2) rfl; have c3 := cell_of_blk k1 (o := 3) rfl
  have d0 := cell_of_blk k2 (o := 0) rfl; have d1 := cell_of_blk k2 (o := 1) rfl; have d2 := cell_of_blk k2 (o := 2) rfl; have d3 := cell_of_blk k2 (o := 3) rfl
  have f3 := frozen_of_blk0 k1 3
  have e0 := frozen_of_blk0 k2 0; have e1 := frozen_of_blk0 k2 1; have e2 := frozen_of_blk0 k2 2; have e3 := frozen_of_blk0 k2 3
  have hs := unhide HS
  obtain ⟨sl, hsl⟩ : ∃ sl, sl = Value.slice (some ⟨W0.heap.size, 0, none⟩) L (L + 2) := ⟨_, rfl⟩
  obtain ⟨WZ, hWZ⟩ : ∃ WZ, WZ = ((((w1.setCell ⟨w.heap.size, 3, none⟩ (.slice (some ⟨W0.heap.size, 0, none⟩) L (L + 2))).setCell ⟨w.heap.size + 1, 0, none⟩ (.int .i64 p)).setCell ⟨w.heap.size + 1, 1, none⟩ (.int .i64 m)).setCell ⟨w.heap.size + 1, 2, none⟩ (.int .i64 e)).setCell ⟨w.heap.size + 1, 3, none⟩ (.slice (some ⟨W0.heap.size, 0, none⟩) L (L + 2)) := ⟨_, rfl⟩
  have z : WZ.heap[w.heap.size + 1]? = some (.cells #[.int .i64 p, .int .i64 m, .int .i64 e, .slice (some ⟨W0.heap.size, 0, none⟩) L (L + 2)] 87 (0, 0)) := by
    rw [hWZ]; simp [World.setCell, Array.getElem?_modify, k2]
  have z0 := cell_of_blk z (o := 0) rfl; have z1 := cell_of_blk z (o := 1) rfl; have z2 := cell_of_blk z (o := 2) rfl; have z3 := cell_of_blk z (o := 3) rfl
  have HF : Hid (Twint WZ W0.heap.size l ∧ Below w.heap.size w WZ) := by
    refine ⟨?_, ?_⟩
    · unfold Twint at ht ⊢
      rw [← ht, hWZ]
      have n1 : ¬ w.heap.size + 1 = W0.heap.size := by omega
      have n2 : ¬ w.heap.size = W0.heap.size := by omega
      simp [World.setCell, Array.getElem?_modify, n1, n2]
    · rw [hWZ]; exact ((((b2.setCell (by simp) _).setCell (by simp) _).setCell (by simp) _).setCell (by simp) _).setCell (by simp) _
  have HZ := hide hWZ
  clear hWZ z ht b1 b2 k1 k2 hsl hs
  go_wp2_with fail
  rw [← unhide HZ]
  exact bodyPost_ret (v := .agg #[.int .i64 p, .int .i64 m, .int .i64 e, .slice (some ⟨W0.heap.size, 0, none⟩) L (L + 2)]) (by simp [results, Try.results76, go_sem, z0, z1, z2, z3]) rfl ⟨W0.heap.size, rfl, by have := unhide HS; omega, (unhide HF).1, (unhide HF).2⟩
set_option maxHeartbeats 2000000 in
theorem markNode_any (n : Nat) (w : World) (h : (n : Int) ≤ 1125899906842624) :
    Calls Try.prog 77 #[.int .i64 (n : Int)] w fun e w' => e = .returned (.agg #[.int .i64 (mkI n), .int .i64 0, .int .i64 0, .slice none 0 0]) ∧ Below w.heap.size w w' := by
  have hm : -1000 - (n : Int) = mkI n := rfl
  go_enter Try.func77, Try.ntmps77
  go_wp2_with fail
  have z := heap_alloc_new w (.cells #[.int .i64 (mkI n), .int .i64 0, .int .i64 0, .slice none 0 0] 87)
  have hb := bwA w (.cells #[.int .i64 (mkI n), .int .i64 0, .int .i64 0, .slice none 0 0] 87)
  generalize w.alloc (.cells #[.int .i64 (mkI n), .int .i64 0, .int .i64 0, .slice none 0 0] 87) = WZ at *
  have z0 := cell_of_blk z (o := 0) rfl; have z1 := cell_of_blk z (o := 1) rfl; have z2 := cell_of_blk z (o := 2) rfl; have z3 := cell_of_blk z (o := 3) rfl
  exact bodyPost_ret (v := .agg #[.int .i64 (mkI n), .int .i64 0, .int .i64 0, .slice none 0 0]) (by simp [results, Try.results77, go_sem, z0, z1, z2, z3]) rfl ⟨rfl, hb⟩
end Go.Proofs.Ytnimdnoemmodaaa

/- TwinNodes and TwinTree: a copy of a tree, in memory of its own, with marks behind each list. -/
namespace Go.Proofs.Ytnimdnoemmodaaa
open Go.RowKit Go.Maps
structure TwS (w W : World) (G : Nat) (T F : List Nd) (us : List Value) (i : Nat) : Prop where
  bel : Below w.heap.size w W
  low : w.heap.size ≤ G
  own : W.ownsRow w.heap.size 87 4 (.slice (some ⟨G, 0, none⟩) (T.length + 2) (T.length + 2)) (T.length + 2) (treeC F us)
  fl : F.length = T.length + 2
  ul : us.length = T.length + 2
  done : ∀ j, j < i → F[j]? = T[j]?
  zero : ∀ j, i ≤ j → j < T.length + 2 → F[j]? = some nd0 ∧ us[j]? = some (.slice none 0 0)
  un : ∀ j n u, j < i → T[j]? = some n → us[j]? = some u → ∃ g, u = .slice (some ⟨g, 0, none⟩) n.un.length (n.un.length + 2) ∧ G < g ∧ Twint W g n.un
  apart : ∀ (j j' : Nat) (u u' : Value) (k : Nat), j < i → j' < i → us[j]? = some u → us[j']? = some u' → u.ownBlock = some k → u'.ownBlock = some k → j = j'
theorem Twint.keep {w w' : World} {g : Nat} {l : List Int} (h : Twint w g l) (hb : w'.heap[g]? = w.heap[g]?) : Twint w' g l := by
  unfold Twint at *; rw [hb]; exact h
theorem Twint.lt {w : World} {g : Nat} {l : List Int} (h : Twint w g l) : g < w.heap.size := lt_of_blk h
theorem TwS.start {w : World} {T : List Nd} {cur : Array Value} (hl : T.length ≤ 1048576) (hc : cur.toList = treeC (List.replicate (T.length + 2) nd0) (List.replicate (T.length + 2) (.slice none 0 0))) :
    TwS w (w.alloc (.cells cur 87)) w.heap.size T (List.replicate (T.length + 2) nd0) (List.replicate (T.length + 2) (.slice none 0 0)) 0 := by
  refine ⟨bwA _ _, Nat.le_refl _, ?_, by simp, by simp, fun j h => by omega, fun j _ h => by simp [h], fun j n u h => by omega, fun j j' u u' k h => by omega⟩
  have hg := heap_alloc_new w (.cells cur 87)
  have e : cur = (treeC (List.replicate (T.length + 2) nd0) (List.replicate (T.length + 2) (.slice none 0 0))).toArray := by rw [← hc]
  rw [e] at hg ⊢
  exact own_of_cur hg (by rw [treeC_len (by simp)]; simp) (Nat.le_refl _) (by unfold maxLen; omega)
theorem TwS.bw {w W W' : World} {G : Nat} {T F : List Nd} {us : List Value} {i : Nat} (h : TwS w W G T F us i) (hb : Below W.heap.size W W') : TwS w W' G T F us i :=
  ⟨bw_tr h.bel hb, h.low, own_keep h.own (fun k hk => hb.block k (World.ownsRow.lt h.own k hk).2), h.fl, h.ul, h.done, h.zero,
   fun j n u hj hn hu => by obtain ⟨g, h1, h2, h3⟩ := h.un j n u hj hn hu; exact ⟨g, h1, h2, h3.keep (hb.block g h3.lt)⟩, h.apart⟩
theorem TwS.step {w W : World} {G : Nat} {T F : List Nd} {us : List Value} {i g : Nat} {n : Nd} (h : TwS w W G T F us i) (hn : T[i]? = some n) (hG : G < g) (hT : Twint W g n.un) (hnew : ∀ j u, j < i → us[j]? = some u → u.ownBlock ≠ some g) :
    TwS w ((((W.setCell ⟨G, i * 4, none⟩ (.int .i64 n.pub)).setCell ⟨G, i * 4 + 1, none⟩ (.int .i64 n.mem)).setCell ⟨G, i * 4 + 2, none⟩ (.int .i64 n.ep)).setCell ⟨G, i * 4 + 3, none⟩ (.slice (some ⟨g, 0, none⟩) n.un.length (n.un.length + 2))) G T (F.set i n) (us.set i (.slice (some ⟨g, 0, none⟩) n.un.length (n.un.length + 2))) (i + 1) := by
  have hi : i < T.length := (List.getElem?_eq_some_iff.1 hn).1
  have r1 := own_set h.own (g := G) rfl (j := i * 4) (.int .i64 n.pub)
  have r2 := own_set r1 (g := G) rfl (j := i * 4 + 1) (.int .i64 n.mem)
  have r3 := own_set r2 (g := G) rfl (j := i * 4 + 2) (.int .i64 n.ep)
  have r4 := own_set r3 (g := G) rfl (j := i * 4 + 3) (.slice (some ⟨g, 0, none⟩) n.un.length (n.un.length + 2))
  rw [treeC_set n (.slice (some ⟨g, 0, none⟩) n.un.length (n.un.length + 2)) (by rw [h.fl, h.ul]) (by rw [h.fl]; omega)] at r4
  have hb : Below w.heap.size w ((((W.setCell ⟨G, i * 4, none⟩ (.int .i64 n.pub)).setCell ⟨G, i * 4 + 1, none⟩ (.int .i64 n.mem)).setCell ⟨G, i * 4 + 2, none⟩ (.int .i64 n.ep)).setCell ⟨G, i * 4 + 3, none⟩ (.slice (some ⟨g, 0, none⟩) n.un.length (n.un.length + 2))) :=
    (((h.bel.setCell h.low _).setCell h.low _).setCell h.low _).setCell h.low _
  have f : ∀ k, k ≠ G → ((((W.setCell ⟨G, i * 4, none⟩ (.int .i64 n.pub)).setCell ⟨G, i * 4 + 1, none⟩ (.int .i64 n.mem)).setCell ⟨G, i * 4 + 2, none⟩ (.int .i64 n.ep)).setCell ⟨G, i * 4 + 3, none⟩ (.slice (some ⟨g, 0, none⟩) n.un.length (n.un.length + 2))).heap[k]? = W.heap[k]? := fun k hk => by
    rw [Below.heap_setCell _ _ _ _ (by simpa using hk), Below.heap_setCell _ _ _ _ (by simpa using hk), Below.heap_setCell _ _ _ _ (by simpa using hk), Below.heap_setCell _ _ _ _ (by simpa using hk)]
  generalize ((((W.setCell ⟨G, i * 4, none⟩ (.int .i64 n.pub)).setCell ⟨G, i * 4 + 1, none⟩ (.int .i64 n.mem)).setCell ⟨G, i * 4 + 2, none⟩ (.int .i64 n.ep)).setCell ⟨G, i * 4 + 3, none⟩ (.slice (some ⟨g, 0, none⟩) n.un.length (n.un.length + 2))) = W' at *
  refine ⟨hb, h.low, r4, by simp [h.fl], by simp [h.ul], fun j hj => ?_, fun j hj hj2 => ?_, fun j m u hj hm hu => ?_, fun j j' u u' k hj hj' hu hu' hk hk' => ?_⟩
  · rcases Nat.lt_or_ge j i with c | c
    · rw [List.getElem?_set_ne (by omega)]; exact h.done j c
    · obtain rfl : j = i := by omega
      rw [List.getElem?_set_self (by rw [h.fl]; omega), hn]
  · rw [List.getElem?_set_ne (by omega), List.getElem?_set_ne (by omega)]; exact h.zero j (by omega) hj2
  · rcases Nat.lt_or_ge j i with c | c
    · rw [List.getElem?_set_ne (by omega)] at hu
      obtain ⟨g', h1, h2, h3⟩ := h.un j m u c hm hu
      exact ⟨g', h1, h2, h3.keep (f g' (by omega))⟩
    · obtain rfl : j = i := by omega
      rw [List.getElem?_set_self (by rw [h.ul]; omega)] at hu
      cases hu
      rw [hn] at hm
      cases hm
      exact ⟨g, rfl, hG, hT.keep (f g (by omega))⟩
  · rcases Nat.lt_or_ge j i with c | c
    · rw [List.getElem?_set_ne (by omega)] at hu
      rcases Nat.lt_or_ge j' i with c' | c'
      · rw [List.getElem?_set_ne (by omega)] at hu'
        exact h.apart j j' u u' k c c' hu hu' hk hk'
      · obtain rfl : j' = i := by omega
        rw [List.getElem?_set_self (by rw [h.ul]; omega)] at hu'
        cases hu'
        cases hk'
        exact absurd hk (hnew j u c hu)
    · obtain rfl : j = i := by omega
      rw [List.getElem?_set_self (by rw [h.ul]; omega)] at hu
      cases hu
      cases hk
      rcases Nat.lt_or_ge j' j with c' | c'
      · rw [List.getElem?_set_ne (by omega)] at hu'
        exact absurd hk' (hnew j' u' c' hu')
      · omega
structure TwT (B : Nat) (W : World) (G : Nat) (T : List Nd) (us : List Value) : Prop where
  low : B ≤ G
  ul : us.length = T.length
  own : W.ownsRow B 87 4 (.slice (some ⟨G, 0, none⟩) (T.length + 2) (T.length + 2)) (T.length + 2) (treeC (T ++ [mkN T.length, mkN (T.length + 1)]) (us ++ [.slice none 0 0, .slice none 0 0]))
  un : ∀ (j : Nat) (n : Nd) (u : Value), T[j]? = some n → us[j]? = some u → ∃ g, u = .slice (some ⟨g, 0, none⟩) n.un.length (n.un.length + 2) ∧ B ≤ g ∧ Twint W g n.un
  apart : ∀ (i j : Nat) (u u' : Value) (k : Nat), us[i]? = some u → us[j]? = some u' → u.ownBlock = some k → u'.ownBlock = some k → i = j
structure TwM (w W : World) (G : Nat) (T : List Nd) (us : List Value) (k : Nat) : Prop where
  bel : Below w.heap.size w W
  low : w.heap.size ≤ G
  ul : us.length = T.length
  own : W.ownsRow w.heap.size 87 4 (.slice (some ⟨G, 0, none⟩) (T.length + 2) (T.length + 2)) (T.length + 2) (treeC (T ++ [if 1 ≤ k then mkN T.length else nd0, if 2 ≤ k then mkN (T.length + 1) else nd0]) (us ++ [.slice none 0 0, .slice none 0 0]))
  un : ∀ (j : Nat) (n : Nd) (u : Value), T[j]? = some n → us[j]? = some u → ∃ g, u = .slice (some ⟨g, 0, none⟩) n.un.length (n.un.length + 2) ∧ G < g ∧ Twint W g n.un
  apart : ∀ (i j : Nat) (u u' : Value) (k : Nat), us[i]? = some u → us[j]? = some u' → u.ownBlock = some k → u'.ownBlock = some k → i = j
theorem TwS.all {w W : World} {G : Nat} {T F : List Nd} {us : List Value} (h : TwS w W G T F us T.length) : ∃ us', TwM w W G T us' 0 := by
  have hF : F = T ++ [nd0, nd0] := by
    apply List.ext_getElem?
    intro j
    rcases Nat.lt_or_ge j T.length with c | c
    · rw [h.done j c, List.getElem?_append_left c]
    · rcases Nat.lt_or_ge j (T.length + 2) with d | d
      · rw [(h.zero j c d).1, List.getElem?_append_right c]
        rcases Nat.eq_or_lt_of_le c with e | e
        · rw [← e]; simp
        · obtain rfl : j = T.length + 1 := by omega
          simp
      · rw [List.getElem?_eq_none (by rw [h.fl]; exact d), List.getElem?_eq_none (by simp; omega)]
  have hU : us = us.take T.length ++ [.slice none 0 0, .slice none 0 0] := by
    apply List.ext_getElem?
    intro j
    have hlt : (us.take T.length).length = T.length := by simp [h.ul]
    rcases Nat.lt_or_ge j T.length with c | c
    · rw [List.getElem?_append_left (by omega), List.getElem?_take_of_lt c]
    · rcases Nat.lt_or_ge j (T.length + 2) with d | d
      · rw [(h.zero j c d).2, List.getElem?_append_right (by omega), hlt]
        rcases Nat.eq_or_lt_of_le c with e | e
        · rw [← e]; simp
        · obtain rfl : j = T.length + 1 := by omega
          simp
      · rw [List.getElem?_eq_none (by rw [h.ul]; exact d), List.getElem?_eq_none (by simp; omega)]
  have hlt : (us.take T.length).length = T.length := by simp [h.ul]
  have hget : ∀ (j : Nat) u, (us.take T.length)[j]? = some u → j < T.length ∧ us[j]? = some u := fun j u hu => by
    have c : j < T.length := by have := (List.getElem?_eq_some_iff.1 hu).1; omega
    rw [List.getElem?_take_of_lt c] at hu
    exact ⟨c, hu⟩
  refine ⟨us.take T.length, h.bel, h.low, hlt, ?_, fun j n u hn hu => ?_, fun i j u u' k hu hu' hk hk' => ?_⟩
  · have := h.own
    rw [hF, hU] at this
    simpa using this
  · obtain ⟨c, hu2⟩ := hget j u hu
    exact h.un j n u c hn hu2
  · obtain ⟨c, hu2⟩ := hget i u hu
    obtain ⟨c', hu2'⟩ := hget j u' hu'
    exact h.apart i j u u' k c c' hu2 hu2' hk hk'
theorem TwM.bw {w W W' : World} {G : Nat} {T : List Nd} {us : List Value} {k : Nat} (h : TwM w W G T us k) (hb : Below W.heap.size W W') : TwM w W' G T us k :=
  ⟨bw_tr h.bel hb, h.low, h.ul, own_keep h.own (fun k hk => hb.block k (World.ownsRow.lt h.own k hk).2),
   fun j n u hn hu => by obtain ⟨g, h1, h2, h3⟩ := h.un j n u hn hu; exact ⟨g, h1, h2, h3.keep (hb.block g h3.lt)⟩, h.apart⟩
theorem set_two {k : Nat} (hk : k < 2) {a : Value} : [a, a].set k a = [a, a] := by
  match k, hk with
  | 0, _ => rfl
  | 1, _ => rfl
theorem set_marks {k N : Nat} (hk : k < 2) : [if 1 ≤ k then mkN N else nd0, if 2 ≤ k then mkN (N + 1) else nd0].set k ⟨mkI (N + k), 0, 0, []⟩ = [if 1 ≤ k + 1 then mkN N else nd0, if 2 ≤ k + 1 then mkN (N + 1) else nd0] := by
  match k, hk with
  | 0, _ => rfl
  | 1, _ => rfl
theorem TwM.step {w W : World} {G : Nat} {T : List Nd} {us : List Value} {k x : Nat} (hk : k < 2) (hx : x = T.length + k) (h : TwM w W G T us k) {m : Int} (hm : m = mkI x) :
    TwM w ((((W.setCell ⟨G, x * 4, none⟩ (.int .i64 m)).setCell ⟨G, x * 4 + 1, none⟩ (.int .i64 0)).setCell ⟨G, x * 4 + 2, none⟩ (.int .i64 0)).setCell ⟨G, x * 4 + 3, none⟩ (.slice none 0 0)) G T us (k + 1) := by
  have hul : (us ++ [Value.slice none 0 0, .slice none 0 0]).length = (T ++ [if 1 ≤ k then mkN T.length else nd0, if 2 ≤ k then mkN (T.length + 1) else nd0]).length := by simp [h.ul]
  have r1 := own_set h.own (g := G) rfl (j := x * 4) (.int .i64 m)
  have r2 := own_set r1 (g := G) rfl (j := x * 4 + 1) (.int .i64 0)
  have r3 := own_set r2 (g := G) rfl (j := x * 4 + 2) (.int .i64 0)
  have r4 := own_set r3 (g := G) rfl (j := x * 4 + 3) (.slice none 0 0)
  have ts := treeC_set (i := x) ⟨m, 0, 0, []⟩ (.slice none 0 0) hul (by simp; omega)
  rw [ts] at r4
  have hu2 : (us ++ [Value.slice none 0 0, .slice none 0 0]).set x (.slice none 0 0) = us ++ [.slice none 0 0, .slice none 0 0] := by
    rw [hx, List.set_append_right _ _ (by rw [h.ul]; omega), h.ul, Nat.add_sub_cancel_left, set_two hk]
  have hF2 : (T ++ [if 1 ≤ k then mkN T.length else nd0, if 2 ≤ k then mkN (T.length + 1) else nd0]).set x ⟨m, 0, 0, []⟩ = T ++ [if 1 ≤ k + 1 then mkN T.length else nd0, if 2 ≤ k + 1 then mkN (T.length + 1) else nd0] := by
    rw [hm, hx, List.set_append_right _ _ (by omega), Nat.add_sub_cancel_left, set_marks hk]
  rw [hu2, hF2] at r4
  have f1 : Fr [G] W ((((W.setCell ⟨G, x * 4, none⟩ (.int .i64 m)).setCell ⟨G, x * 4 + 1, none⟩ (.int .i64 0)).setCell ⟨G, x * 4 + 2, none⟩ (.int .i64 0)).setCell ⟨G, x * 4 + 3, none⟩ (.slice none 0 0)) :=
    (((((Fr.refl [G] W).setCell (a := ⟨G, x * 4, none⟩) (Or.inr (by simp)) _).setCell (a := ⟨G, x * 4 + 1, none⟩) (Or.inr (by simp)) _).setCell (a := ⟨G, x * 4 + 2, none⟩) (Or.inr (by simp)) _).setCell (a := ⟨G, x * 4 + 3, none⟩) (Or.inr (by simp)) _)
  generalize ((((W.setCell ⟨G, x * 4, none⟩ (.int .i64 m)).setCell ⟨G, x * 4 + 1, none⟩ (.int .i64 0)).setCell ⟨G, x * 4 + 2, none⟩ (.int .i64 0)).setCell ⟨G, x * 4 + 3, none⟩ (.slice none 0 0)) = W' at *
  exact ⟨Fr.toBase h.bel f1 (fun y hy => by simp at hy; subst hy; exact h.low), h.low, h.ul, r4, fun j n u hn hu => by obtain ⟨g, h1, h2, h3⟩ := h.un j n u hn hu; exact ⟨g, h1, h2, h3.keep (f1.block g h3.lt (by simp; omega))⟩, h.apart⟩
theorem TwM.fin {w W : World} {G : Nat} {T : List Nd} {us : List Value} (h : TwM w W G T us 2) : TwT w.heap.size W G T us :=
  ⟨h.low, h.ul, h.own, fun j n u hn hu => by obtain ⟨g, h1, h2, h3⟩ := h.un j n u hn hu; exact ⟨g, h1, by have := h.low; omega, h3⟩, h.apart⟩
end Go.Proofs.Ytnimdnoemmodaaa

/- The contracts of TwinNodes and TwinTree. -/
namespace Go.Proofs.Ytnimdnoemmodaaa
open Go.RowKit Go.Maps
theorem slice_roomNode (w : World) (g n cap i : Nat) (hi : i ≤ cap) : (Instr.slice 41 (.slice (some ⟨g, 0, none⟩) n cap) none (some (.int .i64 (i : Int))) none).run Try.prog w = .ok (.slice (some ⟨g, 0, none⟩) i cap) w := by
  have ht : Try.prog.underlying 41 = some (.slice (Try.prog.elem 41)) := by kernel_rfl
  have he : Try.prog.elem 41 = 87 := by kernel_rfl
  have hs : (Go.sizeOf 87).run Try.prog w = .ok 4 w := by kernel_rfl
  rw [run_slice_h (P := Try.prog) w 41 (some ⟨g, 0, none⟩) n cap ht .i64 i (by omega) (by omega), he, hs]
  simp [Result.andThen, sliced, Addr.add]
theorem TwS.at {w W : World} {G : Nat} {T F : List Nd} {us : List Value} {i : Nat} (h : TwS w W G T F us i) (hi : i < T.length) : NdC W G (i * 4) nd0 (.slice none 0 0) ∧ ∀ j, W.frozen? ⟨G, j, none⟩ = false := by
  obtain ⟨hn, hu⟩ := h.zero i (Nat.le_refl _) (by omega)
  refine ⟨⟨?_, ?_, ?_, ?_⟩, fun j => own_frozen h.own rfl j⟩
  · simpa using own_cell h.own rfl (treeC_get hn hu (j := 0) rfl)
  · exact own_cell h.own rfl (treeC_get hn hu (j := 1) rfl)
  · exact own_cell h.own rfl (treeC_get hn hu (j := 2) rfl)
  · exact own_cell h.own rfl (treeC_get hn hu (j := 3) rfl)
theorem TwM.at {w W : World} {G : Nat} {T : List Nd} {us : List Value} {k x : Nat} (hk : k < 2) (hx : x = T.length + k) (h : TwM w W G T us k) : NdC W G (x * 4) nd0 (.slice none 0 0) ∧ ∀ j, W.frozen? ⟨G, j, none⟩ = false := by
  have hn : (T ++ [if 1 ≤ k then mkN T.length else nd0, if 2 ≤ k then mkN (T.length + 1) else nd0])[x]? = some nd0 := by
    rw [hx, List.getElem?_append_right (by omega), Nat.add_sub_cancel_left]
    match k, hk with
    | 0, _ => rfl
    | 1, _ => rfl
  have hu : (us ++ [Value.slice none 0 0, .slice none 0 0])[x]? = some (.slice none 0 0) := by
    rw [hx, List.getElem?_append_right (by rw [h.ul]; omega), h.ul, Nat.add_sub_cancel_left]
    match k, hk with
    | 0, _ => rfl
    | 1, _ => rfl
  refine ⟨⟨?_, ?_, ?_, ?_⟩, fun j => own_frozen h.own rfl j⟩
  · simpa using own_cell h.own rfl (treeC_get hn hu (j := 0) rfl)
  · exact own_cell h.own rfl (treeC_get hn hu (j := 1) rfl)
  · exact own_cell h.own rfl (treeC_get hn hu (j := 2) rfl)
  · exact own_cell h.own rfl (treeC_get hn hu (j := 3) rfl)
set_option maxRecDepth 100000 in
set_option maxHeartbeats 4000000 in
theorem twinNodes_any (w : World) (v : Value) (T : List Nd) (h : Trd w v T) (hl : T.length ≤ 1048576) (hu : ∀ n ∈ T, n.un.length ≤ 1048576) :
    Calls Try.prog 68 #[v] w fun e w' => ∃ us, e = .returned (.slice (some ⟨w.heap.size, 0, none⟩) T.length (T.length + 2)) ∧ TwT w.heap.size w' w.heap.size T us ∧ Below w.heap.size w w' := by
  obtain ⟨a, c, rfl⟩ := h.slice
  obtain ⟨i0, hi, hz0, hz1, hz2⟩ := info_parts infoNode
  have hmk := run_makeSlice (P := Try.prog) w 41 87 i0 (.agg #[.int .i64 0, .int .i64 0, .int .i64 0, .slice none 0 0]) Try.underlying41 hi hz0 .i64 .i64 (T.length : Int) ((T.length : Int) + 2) (by omega) (by omega) (by rw [hz1]; omega) (by rw [hz2]; omega) (by omega)
  rw [hz1] at hmk
  have e1 : ((T.length : Int) + 2).toNat * 4 = (T.length + 2) * 4 := by omega
  have e2 : ((T.length : Int) + 2).toNat = T.length + 2 := by omega
  rw [e1, e2, Int.toNat_natCast] at hmk
  have hS0 := hide (TwS.start (w := w) hl (made_nodes (T.length + 2)))
  generalize madeCells (Value.agg #[.int .i64 0, .int .i64 0, .int .i64 0, .slice none 0 0]).cells ((T.length + 2) * 4) = mc at *
  obtain ⟨-, h2⟩ := h.at
  have HC : Hid (∀ i, i < T.length → ∃ b o p m e ua ul uc, a = some ⟨b, o, none⟩ ∧ T[i]? = some (ndAt T i) ∧ (ndAt T i).pub = p ∧ (ndAt T i).mem = m ∧ (ndAt T i).ep = e ∧ (ndAt T i).un.length = ul ∧ ∀ W, Below w.heap.size w W → (W.cell? ⟨b, o + i * 4, none⟩ = some (.int .i64 p) ∧ W.cell? ⟨b, o + i * 4 + 1, none⟩ = some (.int .i64 m) ∧ W.cell? ⟨b, o + i * 4 + 2, none⟩ = some (.int .i64 e) ∧ W.cell? ⟨b, o + i * 4 + 3, none⟩ = some (.slice ua ul uc)) ∧
      Calls Try.prog 76 #[.agg #[.int .i64 p, .int .i64 m, .int .i64 e, .slice ua ul uc]] W fun x w' => ∃ g, x = .returned (.agg #[.int .i64 p, .int .i64 m, .int .i64 e, .slice (some ⟨g, 0, none⟩) ul (ul + 2)]) ∧ W.heap.size ≤ g ∧ Twint w' g (ndAt T i).un ∧ Below W.heap.size W w') := fun i hi => by
    obtain ⟨b, o, e, h3⟩ := h2 (by omega)
    obtain ⟨u, k1, k2⟩ := h3 w (Below.refl _ _) i hi
    obtain ⟨ua, uc, rfl⟩ := nums_slice k2
    have hB : b < w.heap.size := lt_of_cell k1.c3
    exact ⟨b, o, _, _, _, ua, _, uc, e, ndAt_of hi, rfl, rfl, rfl, rfl, fun W hW => ⟨⟨(k1.bw hB hW).c0, (k1.bw hB hW).c1, (k1.bw hB hW).c2, (k1.bw hB hW).c3⟩, twinNode_any W _ _ _ _ _ (k2.bw hW) (hu _ (ndAt_mem hi))⟩⟩
  obtain ⟨N, hN⟩ : ∃ N, N = T.length := ⟨_, rfl⟩
  have HN := hide hN
  rw [← hN] at hmk HC hS0 ⊢
  have hNI : (N : Int) ≤ 1048576 := by omega
  have hsl : ∀ W, (Instr.slice 41 (.slice (some ⟨w.heap.size, 0, none⟩) N (N + 2)) none (some (.int .i64 ((N : Int) + 2))) none).run Try.prog W = .ok (.slice (some ⟨w.heap.size, 0, none⟩) (N + 2) (N + 2)) W := fun W => by
    have := slice_roomNode W w.heap.size N (N + 2) (N + 2) (Nat.le_refl _)
    exact this
  clear e1 e2 hi hz0 hz1 hz2 h h2 hl hu hN
  go_enter Try.func68, Try.ntmps68
  go_wp2_with fail
  go_loopw [15] (fun iv wr => ∃ (i : Nat) (F : List Nd) (us : List Value), iv = .int .i64 (i : Int) ∧ i ≤ N ∧ Hid (TwS w wr w.heap.size T F us i)) (fun iv _ => (N - (intOf iv)).toNat)
  case atStart => exact ⟨0, _, _, rfl, by omega, unhide hS0⟩
  case round =>
    clear hS0
    obtain ⟨i, F, us, rfl, hi, hS⟩ := hrel
    by_cases hin : i < N
    · obtain ⟨b, o, p, m, e, ua, ul, uc, rfl, t1, t2, t3, t4, t5, hc⟩ := unhide HC i hin
      obtain ⟨⟨c0, c1, c2, c3⟩, K⟩ := hc _ (unhide hS).bel
      have q1 : (i : Int) < (N : Int) := by omega
      have q0 : (0 : Int) ≤ (i : Int) := by omega
      have HT := hide (And.intro t1 (And.intro t2 (And.intro t3 (And.intro t4 t5))))
      clear t1 t2 t3 t4 t5 hc
      go_wp2_with fail
      refine K.mono ?_
      rintro x w2 ⟨g, rfl, hg, hTw, b2⟩
      have hS2 := hide ((unhide hS).bw b2)
      obtain ⟨⟨d0, d1, d2, d3⟩, hfz⟩ := (unhide hS2).at (by rw [← unhide HN]; exact hin)
      have f0 := hfz (i * 4); have f1 := hfz (i * 4 + 1); have f2 := hfz (i * 4 + 2); have f3 := hfz (i * 4 + 3)
      have HX : Hid (TwS w ((((w2.setCell ⟨w.heap.size, i * 4, none⟩ (.int .i64 p)).setCell ⟨w.heap.size, i * 4 + 1, none⟩ (.int .i64 m)).setCell ⟨w.heap.size, i * 4 + 2, none⟩ (.int .i64 e)).setCell ⟨w.heap.size, i * 4 + 3, none⟩ (.slice (some ⟨g, 0, none⟩) ul (ul + 2))) w.heap.size T (F.set i (ndAt T i)) (us.set i (.slice (some ⟨g, 0, none⟩) ul (ul + 2))) (i + 1)) := by
        obtain ⟨t1, t2, t3, t4, t5⟩ := unhide HT
        have hlt := (World.ownsRow.lt (unhide hS).own w.heap.size rfl).2
        have := (unhide hS2).step t1 (g := g) (by omega) hTw (fun j u hj hu2 hk => by
          obtain ⟨n, hn⟩ : ∃ n, T[j]? = some n := ⟨_, List.getElem?_eq_getElem (by have := unhide HN; omega)⟩
          obtain ⟨g', rfl, h2, h3⟩ := (unhide hS).un j n u hj hn hu2
          cases hk
          have := h3.lt
          have hg2 : wr.heap.size ≤ g' := hg
          omega)
        rw [t2, t3, t4, t5] at this
        exact this
      clear c0 c1 c2 c3 K hS hS2 hTw hg hfz
      go_wp2_with fail
      go_roundw
      case rel => exact ⟨i + 1, _, _, by go_num, by omega, HX⟩
      case measure => simp [intOf]; omega
    · obtain rfl : i = N := by omega
      have hS' := unhide hS
      rw [unhide HN] at hS'
      obtain ⟨us', hM⟩ := hS'.all
      have HM := hide hM
      clear hS hS' hM HC hmk
      go_wp2_with fail
      go_loopw [6] (fun iv wr => ∃ (k x : Nat), iv = .int .i64 (x : Int) ∧ k ≤ 2 ∧ x = i + k ∧ Hid (TwM w wr w.heap.size T us' k)) (fun iv _ => (i + 2 - (intOf iv)).toNat)
      case atStart => exact ⟨0, i, rfl, by omega, rfl, HM⟩
      case round =>
        clear HM
        obtain ⟨k, x, rfl, hk, hx, hM⟩ := hrel
        by_cases hk2 : k < 2
        · have hx' : x = T.length + k := by rw [hx, ← unhide HN]
          have K := markNode_any x wr (by omega)
          have q1 : (x : Int) < (i : Int) + 2 := by omega
          have q0 : (0 : Int) ≤ (x : Int) := by omega
          have q5 : decide (x < i + 2) = true := decide_eq_true (by omega)
          have HX := hide hx
          have HX' := hide hx'
          have xb : (x : Int) ≤ 1048580 := by omega
          clear hx hx'
          go_wp2_with fail
          refine K.mono ?_
          rintro y w2 ⟨rfl, b2⟩
          have hM2 := hide ((unhide hM).bw b2)
          obtain ⟨⟨d0, d1, d2, d3⟩, hfz⟩ := (unhide hM2).at hk2 (unhide HX')
          have f0 := hfz (x * 4); have f1 := hfz (x * 4 + 1); have f2 := hfz (x * 4 + 2); have f3 := hfz (x * 4 + 3)
          have HX2 := hide ((unhide hM2).step hk2 (unhide HX') rfl)
          have hxi : x + 1 = i + (k + 1) := by have := unhide HX; omega
          have HXI := hide hxi
          clear K hM hM2 hfz hxi
          generalize mkI x = mm at *
          go_wp2_with fail
          go_roundw
          case rel => exact ⟨k + 1, x + 1, by go_num, by omega, unhide HXI, HX2⟩
          case measure => simp [intOf]; omega
        · obtain rfl : k = 2 := by omega
          subst hx
          have q1 : decide ((((i + 2 : Nat)) : Int) < (i : Int) + 2) = false := decide_eq_false (by omega)
          go_wp2_with fail
          go_ret
          exact ⟨_, rfl, (unhide hM).fin, (unhide hM).bel⟩
set_option maxHeartbeats 2000000 in
theorem twinTree_any (w : World) (v : Value) (T : List Nd) (h : Trd w v T) (hl : T.length ≤ 1048576) (hu : ∀ n ∈ T, n.un.length ≤ 1048576) :
    Calls Try.prog 55 #[.agg #[v]] w fun e w' => ∃ g us, e = .returned (.agg #[.slice (some ⟨g, 0, none⟩) T.length (T.length + 2)]) ∧ TwT w.heap.size w' g T us ∧ Below w.heap.size w w' := by
  obtain ⟨a, c, rfl⟩ := h.slice
  obtain ⟨W0, hW0⟩ : ∃ W0, W0 = (w.alloc (.cells #[.slice a T.length c] 43)).alloc (.cells #[.slice none 0 0] 43) := ⟨_, rfl⟩
  have hb0 : Below w.heap.size w W0 := by rw [hW0]; exact (bwA _ _).alloc (by simp) _
  have hs0 : W0.heap.size = w.heap.size + 2 := by rw [hW0]; simp
  have HB : Hid (∀ W, Below W0.heap.size W0 W → W.heap[w.heap.size]? = some (.cells #[.slice a T.length c] 43 (0, 0)) ∧ W.heap[w.heap.size + 1]? = some (.cells #[.slice none 0 0] 43 (0, 0)) ∧ Below w.heap.size w W) := fun W hW => by
    refine ⟨?_, ?_, bw_tr hb0 hW⟩
    · rw [hW.block _ (by omega), hW0, Below.heap_alloc _ _ _ (by simp)]; exact heap_alloc_new _ _
    · rw [hW.block _ (by omega), hW0]
      have := heap_alloc_new (w.alloc (.cells #[.slice a T.length c] 43)) (.cells #[.slice none 0 0] 43)
      simpa using this
  have KT := hide (twinNodes_any W0 _ T (h.bw hb0) hl hu)
  have HW : Hid (W0 = (w.alloc (.cells #[.slice a T.length c] 43)).alloc (.cells #[.slice none 0 0] 43)) := hW0
  have HS := hide hs0
  clear hW0 h hl hu hb0 hs0
  obtain ⟨L, hL⟩ : ∃ L, L = T.length := ⟨_, rfl⟩
  rw [← hL] at KT HW HB ⊢
  clear hL
  go_enter Try.func55, Try.ntmps55
  go_wp2_with fail
  rw [← unhide HW]
  refine (unhide KT).mono ?_
  rintro x w1 ⟨us, rfl, ht, b1⟩
  obtain ⟨k1, k2, b2⟩ := unhide HB _ b1
  have c0 := cell_of_blk k1 (o := 0) rfl
  have d0 := cell_of_blk k2 (o := 0) rfl
  have f3 := frozen_of_blk0 k1 0
  have e0 := frozen_of_blk0 k2 0
  obtain ⟨WZ, hWZ⟩ : ∃ WZ, WZ = (w1.setCell ⟨w.heap.size, 0, none⟩ (.slice (some ⟨W0.heap.size, 0, none⟩) L (L + 2))).setCell ⟨w.heap.size + 1, 0, none⟩ (.slice (some ⟨W0.heap.size, 0, none⟩) L (L + 2)) := ⟨_, rfl⟩
  have z : WZ.heap[w.heap.size + 1]? = some (.cells #[.slice (some ⟨W0.heap.size, 0, none⟩) L (L + 2)] 43 (0, 0)) := by
    rw [hWZ]; simp [World.setCell, Array.getElem?_modify, k2]
  have z0 := cell_of_blk z (o := 0) rfl
  have HF : Hid (TwT w.heap.size WZ W0.heap.size T us ∧ Below w.heap.size w WZ) := by
    have hs := unhide HS
    have f : Fr [w.heap.size, w.heap.size + 1] w1 WZ := by
      rw [hWZ]; exact ((Fr.refl _ w1).setCell (a := ⟨w.heap.size, 0, none⟩) (Or.inr (by simp)) _).setCell (a := ⟨w.heap.size + 1, 0, none⟩) (Or.inr (by simp)) _
    refine ⟨⟨by omega, ht.ul, own_mono (own_keep ht.own (fun k hk => ?_)) (by omega), fun j n u hn hu => ?_, ht.apart⟩, Fr.toBase b2 f (fun y hy => by simp at hy; omega)⟩
    · have := World.ownsRow.lt ht.own k hk
      exact f.block k this.2 (by simp; omega)
    · obtain ⟨g, h1, h2, h3⟩ := ht.un j n u hn hu
      exact ⟨g, h1, by omega, h3.keep (f.block g h3.lt (by simp; omega))⟩
  have HZ := hide hWZ
  clear hWZ z ht b1 b2 k1 k2
  go_wp2_with fail
  rw [← unhide HZ]
  exact bodyPost_ret (v := .agg #[.slice (some ⟨W0.heap.size, 0, none⟩) L (L + 2)]) (by simp [results, Try.results55, go_sem, z0]) rfl ⟨W0.heap.size, us, rfl, (unhide HF).1, (unhide HF).2⟩
end Go.Proofs.Ytnimdnoemmodaaa

/- The contracts of LeftNode, LeftNodes and LeftTree: of a copy that is as it was made they answer true. -/
namespace Go.Proofs.Ytnimdnoemmodaaa
open Go.RowKit Go.Maps
end Go.Proofs.Ytnimdnoemmodaaa
