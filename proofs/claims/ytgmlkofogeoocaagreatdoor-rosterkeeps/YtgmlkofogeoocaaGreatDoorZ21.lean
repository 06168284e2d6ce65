/- Texts joined: RoA RoB. -/
import Derived.Test.YtgmlkofogeoocaaGreatDoorZ05
import Derived.Lib.AppendZerosOnto
import Derived.Lib.Walk
import Derived.Maps.AppendAt
/- slices.Grow of nothing, slices.Concat of two rows, at int. -/
namespace Go.Proofs.YtgmlkofogeoocaaGreatDoor
open Go.RowKit Go.Maps
theorem run_append_owned_noneI {P : Program} {w : World} (base : Nat) (t ty e : TypeId) (i : TypeInfo) (size : Nat) (ht : P.underlying t = some (.slice e)) (hi : P.info? e = some i)
    (v : Value) (n c : Nat) (xs : List Value) (hown : w.ownsRow base e size v n xs) : (Builtin.append_ #[t, t] ty #[v, .slice none 0 c]).run P w = .ok v w := by
  rcases hown.2 with ⟨rfl, rfl⟩ | ⟨g, cap, cur, rfl, _, _, hnc, _⟩
  · simp [Builtin.append_, run_underlying ht, Go.sizeOf, typeInfo, hi, Builtin.lenOf, Builtin.firstCells]
  · simp [Builtin.append_, run_underlying ht, Go.sizeOf, typeInfo, hi, Builtin.lenOf, Builtin.firstCells, hnc, storeCells]
theorem addr_addI (g o j : Nat) : (⟨g, o, none⟩ : Addr).add j = ⟨g, o + j, none⟩ := by unfold Addr.add; by_cases hz : j = 0 <;> simp [hz]
structure JnI (B : Nat) (w w' : World) (v v' : Value) (l l2 : List Int) : Prop where
  row : Ints B w' v' (l ++ l2)
  gr : w.grownBy w' v.ownBlock
  at_ : v'.ownBlock = v.ownBlock ∨ v'.ownBlock = some w.heap.size
theorem wpList_joinI {w : World} {ops : Array Oper} {rest : List Oper} {o : Oper} {a : Act} {Q : Exit → Act → World → Prop} (hgd : Region.wanted o (yielded ops a.tmps) = true) (s x : Operand)
    (ho : o.op = .call { callee := .builtin .append, args := #[s, x], argTypes := #[38, 38] })
    (B : Nat) (v v2 : Value) (l l2 : List Int) (hs : a.eval s = v) (hx : a.eval x = v2) (hown : Ints B w v l) (h2 : Nums w v2 l2) (hlen : l.length + l2.length ≤ 1073741824) (hB : B ≤ w.heap.size)
    (h : ∀ v' w', Hid (JnI B w w' v v' l l2) → wpList Tryz.prog ops Q rest (a.put o.dst v') w') : wpList Tryz.prog ops Q (o :: rest) a w := by
  obtain ⟨i0, hi, hz0, hz1, hz2⟩ := info_parts Tryz.infoInt
  refine wpList_step fun K hK => ?_
  rw [if_pos hgd]
  have key : ∀ (ad : Addr) (c : Nat), v2 = .slice (some ad) l2.length c → (∀ j u, (l2.map I64)[j]? = some u → w.cell? (ad.add j) = some u) → Oper.wp Tryz.prog o a w K Q := fun ad c hv hc => by
    subst hv
    obtain ⟨v', w', hr, h2', h3, _, h5⟩ := run_append_own_at (P := Tryz.prog) w B 38 o.type 3 i0 (.int .i64 0) 1 8 Tryz.underlying38 hi hz0 hz1 hz2 rfl (by decide) v l.length _ hown ad l2.length c (l2.map I64) (by simp) hc (fun u hu => by obtain ⟨z, _, rfl⟩ := List.mem_map.1 hu; rfl) (by unfold maxLen; omega) (by omega) hB
    unfold Oper.wp
    simp [execOp, ho, resolve, invoke, builtin, hs, hx, hr, Result.andThen]
    exact hK _ _ (h v' w' ⟨by unfold Ints; rw [List.length_append, List.map_append]; exact h2', h3, h5⟩)
  rcases h2 with ⟨rfl, ad, c, rfl, hn⟩ | ⟨g, of, cap, rfl, _, _, hc⟩
  · cases ad with
    | none =>
      obtain rfl := hn rfl
      have hrun := run_append_owned_noneI (P := Tryz.prog) (w := w) B 38 o.type 3 i0 1 Tryz.underlying38 hi v l.length 0 _ hown
      unfold Oper.wp
      simp [execOp, ho, resolve, invoke, builtin, hs, hx, hrun, Result.andThen]
      exact hK _ _ (h v w ⟨by simpa using hown, ⟨rfl, rfl, rfl, Nat.le_refl _, fun _ _ _ => rfl⟩, Or.inl rfl⟩)
    | some ad => exact key ad c rfl (fun j u hj => by simp at hj)
  · refine key _ cap rfl (fun j u hj => ?_)
    rw [List.getElem?_map, Option.map_eq_some_iff] at hj
    obtain ⟨z, hz, rfl⟩ := hj
    rw [addr_addI]
    exact hc j z hz
set_option maxRecDepth 100000 in
set_option maxHeartbeats 4000000 in
theorem growI_any (n : Nat) (hn : n ≤ 1000) (w : World) :
    Calls Tryz.prog 69 #[.slice none 0 0, .int .i64 (n : Int)] w fun e w' => ∃ v, e = .returned v ∧ Ints w.heap.size w' v [] ∧ Below w.heap.size w w' := by
  obtain ⟨i0, hi, hz0, hz1, hz2⟩ := info_parts Tryz.infoInt
  rcases Nat.eq_zero_or_pos n with h0 | h0
  · subst h0
    go_enter Tryz.func69, Tryz.ntmps69
    go_wp2
    go_ret
    exact ⟨_, rfl, World.ownsRow_nil _ _ _ _, Below.refl _ _⟩
  · have h1 : ¬ ((n : Int) < 0) := by omega
    have h4 : (n : Int) > 0 := by omega
    have hrz := fun ty => Lib.run_append_grow_zeros w 38 3 ty 3 i0 (.int .i64 0) .i64 .i64 Tryz.underlying38 Tryz.underlying3 hi hz0 none 0 0 [] (run_firstCells_none w.drew i0.size 0 0 0) n (by omega) (by rw [hz1]; omega) (by omega) (by omega) (by rw [hz2]; omega) (by rw [Nat.zero_add]; exact growslice_fits (by omega) (by rw [hz2]; omega))
    simp only [Nat.zero_add] at hrz
    have hG := grownCap_ge w n 0 3
    have hGm := grownCap_le_maxLen w n 0 3 (by unfold maxLen; omega)
    obtain ⟨G, hGe⟩ : ∃ G, G = grownCap w n 0 3 := ⟨_, rfl⟩
    rw [← hGe] at hrz hG hGm
    obtain ⟨AR, hAR⟩ : ∃ A : Array Value, A = (#[] ++ Builtin.zeroCells (Value.int .i64 0).cells n ++ Builtin.zeroCells (Value.int .i64 0).cells (G - n)) := ⟨_, rfl⟩
    have hsz : AR.size = G := by
      rw [hAR]
      simp only [Array.size_append, size_zeroCells]
      simp [Value.cells]
      omega
    have hrz2 : ∀ ty, (Builtin.append_ #[38, 3] ty #[.slice none 0 0, .int .i64 (n : Int)]).run Tryz.prog w = .ok (.slice (some ⟨w.heap.size, 0, none⟩) n G) (w.drew.alloc (.cells AR 3)) := fun ty => by
      rw [hAR]; exact hrz ty
    have HF : Hid (Ints w.heap.size (w.drew.alloc (.cells AR 3)) (.slice (some ⟨w.heap.size, 0, none⟩) 0 G) [] ∧ Below w.heap.size w (w.drew.alloc (.cells AR 3))) :=
      ⟨⟨rfl, Or.inr ⟨w.heap.size, G, AR, rfl, Nat.le_refl _, heap_alloc_new w.drew _, Nat.zero_le _, hGm, by rw [hsz]; omega, by simp⟩⟩, (Below.refl _ _).drew.alloc (by simp) _⟩
    have hGi : (G : Int) ≤ 9223372036854775807 := by unfold maxLen at hGm; omega
    clear hrz hG hGm hGe hAR hsz hz0 hz1 hz2 hi
    go_enter Tryz.func69, Tryz.ntmps69
    go_wp2_with (at_builtin; refine Lib.wpList_append_run _ rfl _ _ _ _ rfl _ _ rfl rfl _ _ (hrz2 _) ?_)
    go_ret
    exact ⟨_, rfl, (unhide HF).1, (unhide HF).2⟩
theorem Nums.bwR {w w' : World} {v : Value} {l : List Int} (h : Nums w v l) (hb : Below w.heap.size w w') : Nums w' v l := by
  rcases h with h | ⟨g, o, cap, h1, h2, h3, h4⟩
  · exact Or.inl h
  · exact Or.inr ⟨g, o, cap, h1, h2, h3, fun j z hz => by have := h4 j z hz; rw [hb.cell (lt_of_cell this)]; exact this⟩
set_option maxRecDepth 100000 in
set_option maxHeartbeats 4000000 in
theorem concat2_any {w : World} {b c : Nat} {v1 v2 : Value} {l1 l2 : List Int} (h0 : w.cell? ⟨b, 0, none⟩ = some v1) (h1 : w.cell? ⟨b, 1, none⟩ = some v2) (n1 : Nums w v1 l1) (n2 : Nums w v2 l2) (hl1 : l1.length ≤ 100) (hl2 : l2.length ≤ 100) :
    Calls Tryz.prog 46 #[.slice (some ⟨b, 0, none⟩) 2 c] w fun e w' => ∃ v, e = .returned v ∧ Ints w.heap.size w' v (l1 ++ l2) ∧ Below w.heap.size w w' := by
  obtain ⟨a1, k1, rfl⟩ := nums_slice n1
  obtain ⟨a2, k2, rfl⟩ := nums_slice n2
  obtain ⟨N1, hN1⟩ : ∃ N, N = l1.length := ⟨_, rfl⟩
  obtain ⟨N2, hN2⟩ : ∃ N, N = l2.length := ⟨_, rfl⟩
  have KG := hide (growI_any (N1 + N2) (by omega) w)
  have HC : Hid (∀ W, Below w.heap.size w W → W.cell? ⟨b, 0, none⟩ = some (.slice a1 N1 k1) ∧ W.cell? ⟨b, 1, none⟩ = some (.slice a2 N2 k2)) := fun W hW => by
    rw [hN1, hN2]
    exact ⟨by rw [hW.cell (lt_of_cell h0)]; exact h0, by rw [hW.cell (lt_of_cell h1)]; exact h1⟩
  have HL : Hid (N1 = l1.length ∧ N2 = l2.length ∧ N1 ≤ 100 ∧ N2 ≤ 100) := ⟨hN1, hN2, by omega, by omega⟩
  rw [← hN1] at n1
  rw [← hN2] at n2
  have HN := hide (And.intro n1 n2)
  have c0 := (unhide HC w (Below.refl _ _)).1
  have c1 := (unhide HC w (Below.refl _ _)).2
  have i1 : (N1 : Int) ≤ 100 := by omega
  have i2 : (N2 : Int) ≤ 100 := by omega
  have KG2 : Hid (Calls Tryz.prog 69 #[.slice none 0 0, .int .i64 ((N1 : Int) + (N2 : Int))] w fun e w' => ∃ v, e = .returned v ∧ Ints w.heap.size w' v [] ∧ Below w.heap.size w w') := by
    have := unhide KG
    rw [show ((N1 + N2 : Nat) : Int) = (N1 : Int) + (N2 : Int) by omega] at this
    exact this
  clear h0 h1 n1 n2 hl1 hl2 hN1 hN2 KG
  have q1 : ¬ ((N1 : Int) < 0) := by omega
  have q2 : ¬ ((N1 : Int) + (N2 : Int) < 0) := by omega
  go_enter Tryz.func46, Tryz.ntmps46
  go_wp2_with fail
  refine wp_loop_rounds 3 ?_
  rw [rounds_succ]
  go_wp2_with fail
  rw [rounds_succ]
  go_wp2_with fail
  rw [rounds_succ]
  go_wp2_with fail
  refine (unhide KG2).mono ?_
  rintro e w1 ⟨v, rfl, hv, b1⟩
  have c0 := (unhide HC w1 b1).1
  have c1 := (unhide HC w1 b1).2
  obtain ⟨a9, k9, hv9⟩ := own_slice hv
  simp only [List.length_nil] at hv9
  subst hv9
  have HV := hide (And.intro hv (And.intro b1 (And.intro ((unhide HN).1.bwR b1) b1.size)))
  have HL0 : Hid (([] : List Int).length + l1.length ≤ 1073741824) := by have := unhide HL; apply hide; simp; omega
  clear hv b1 KG2
  go_wp2_with fail
  refine wp_loop_rounds 3 ?_
  rw [rounds_succ]
  go_wp2_with (refine wpList_joinI (by first | rfl | simp [Region.wanted, yielded]) (.tmp 31) (.tmp 32) rfl w.heap.size (.slice a9 0 k9) (.slice a1 N1 k1) [] l1 rfl rfl (unhide HV).1 (unhide HV).2.2.1 (unhide HL0) (unhide HV).2.2.2 ?_)
  intro v1 w2 HJ
  obtain ⟨j1, j2, j3⟩ := unhide HJ
  have b2 : Below w.heap.size w w2 := Fr.toBase (unhide HV).2.1 (Fr.ofGrown j2) (fun z hz => (World.ownsRow.lt (unhide HV).1 z (by simpa using hz)).1)
  have c1 := (unhide HC w2 b2).2
  obtain ⟨a8, k8, hv8⟩ := own_slice j1
  have j1' : Ints w.heap.size w2 v1 l1 := by simpa using j1
  have hL1 : ([] ++ l1 : List Int).length = N1 := by have := (unhide HL).1; simp; omega
  rw [hL1] at hv8
  subst hv8
  have HV2 := hide (And.intro j1' (And.intro b2 (And.intro ((unhide HN).2.bwR b2) b2.size)))
  have HL2 : Hid (l1.length + l2.length ≤ 1073741824) := by have := unhide HL; apply hide; omega
  clear HJ j1 j2 j3 b2 j1' hL1 HV HL0
  go_wp2_with fail
  rw [rounds_succ]
  go_wp2_with (refine wpList_joinI (by first | rfl | simp [Region.wanted, yielded]) (.tmp 31) (.tmp 32) rfl w.heap.size (.slice a8 N1 k8) (.slice a2 N2 k2) l1 l2 rfl rfl (unhide HV2).1 (unhide HV2).2.2.1 (unhide HL2) (unhide HV2).2.2.2 ?_)
  intro v2 w3 HJ
  obtain ⟨j1, j2, j3⟩ := unhide HJ
  have b3 : Below w.heap.size w w3 := Fr.toBase (unhide HV2).2.1 (Fr.ofGrown j2) (fun z hz => (World.ownsRow.lt (unhide HV2).1 z (by simpa using hz)).1)
  have HV3 := hide (And.intro j1 b3)
  clear HJ j1 j2 j3 b3 HV2 HL2
  go_wp2_with fail
  rw [rounds_succ]
  go_wp2_with fail
  go_ret
  exact ⟨_, rfl, (unhide HV3).1, (unhide HV3).2⟩
end Go.Proofs.YtgmlkofogeoocaaGreatDoor

/- The members of either tree: rising, each once; slices.Sort and slices.Compact of a row of one's own. -/
namespace Go.Proofs.YtgmlkofogeoocaaGreatDoor
open Go.Shelf Go.RowKit Go.Maps Go.Sort
def srI (l : List Int) : List Int := l.mergeSort fun x y => decide (x ≤ y)
def uni (a b : List Int) : List Int := Lib.compact (srI (a ++ b))
theorem srI_len (l : List Int) : (srI l).length = l.length := by unfold srI; simp
theorem compact_upI {S : List Int} (hs : S.Pairwise (· ≤ ·)) : (Lib.compact S).Pairwise (· < ·) := by
  unfold Lib.compact Lib.compactUpTo
  rw [List.pairwise_map, List.pairwise_filter]
  rw [List.pairwise_iff_getElem]
  intro i j hi hj hij _ hkj
  simp only [List.length_range] at hi hj
  simp only [List.getElem_range] at hkj ⊢
  rw [getElem!_pos _ i (by simpa using hi), getElem!_pos _ j (by simpa using hj)]
  simp only [List.getElem_toArray]
  have h1 := (List.pairwise_iff_getElem.1 hs) i j hi hj hij
  rcases Int.lt_or_eq_of_le h1 with c | c
  · exact c
  · exfalso
    have h2 : S[j - 1]'(by omega) = S[j] := by
      have q1 : S[i] ≤ S[j - 1]'(by omega) := by
        rcases Nat.lt_or_ge i (j - 1) with d | d
        · exact (List.pairwise_iff_getElem.1 hs) i (j - 1) hi (by omega) d
        · have e : i = j - 1 := by omega
          subst e; exact Int.le_refl _
      have q2 := (List.pairwise_iff_getElem.1 hs) (j - 1) j (by omega) hj (by omega)
      omega
    have h3 : Lib.keeps S.toArray j = false := by
      refine Lib.keeps_neg (by omega) ?_
      rw [getElem!_pos _ j (by simpa using hj), getElem!_pos _ (j - 1) (by simp; omega)]
      simp [h2]
    rw [h3] at hkj; cases hkj
theorem compact_mem (S : List Int) (x : Int) : x ∈ Lib.compact S ↔ x ∈ S := by
  unfold Lib.compact Lib.compactUpTo
  constructor
  · intro h
    obtain ⟨j, hj, rfl⟩ := List.mem_map.1 h
    have hl : j < S.length := by simpa using (List.mem_filter.1 hj).1
    rw [getElem!_pos _ j (by simpa using hl)]
    simp
  · intro h
    obtain ⟨n, hn⟩ := List.getElem?_of_mem h
    have hl := (List.getElem?_eq_some_iff.1 hn).1
    induction n with
    | zero =>
      refine List.mem_map.2 ⟨0, List.mem_filter.2 ⟨List.mem_range.2 hl, Lib.keeps_lt_one _ 0 (by omega)⟩, ?_⟩
      rw [getElem!_pos _ 0 (by simpa using hl)]
      simpa using (List.getElem?_eq_some_iff.1 hn).2
    | succ n ih =>
      by_cases c : S[n + 1]'hl = S[n]'(by omega)
      · refine ih ?_ (by omega)
        rw [List.getElem?_eq_getElem (by omega), ← c]
        exact (List.getElem?_eq_getElem hl).symm.trans hn
      · refine List.mem_map.2 ⟨n + 1, List.mem_filter.2 ⟨List.mem_range.2 hl, Lib.keeps_pos ?_⟩, ?_⟩
        · rw [getElem!_pos _ (n + 1) (by simpa using hl), getElem!_pos _ (n + 1 - 1) (by simp; omega)]
          simpa using c
        · rw [getElem!_pos _ (n + 1) (by simpa using hl)]
          simpa using (List.getElem?_eq_some_iff.1 hn).2
theorem uni_mem (a b : List Int) (x : Int) : x ∈ uni a b ↔ x ∈ a ∨ x ∈ b := by
  unfold uni
  rw [compact_mem]
  unfold srI
  rw [List.mem_mergeSort, List.mem_append]
theorem uni_up (a b : List Int) : (uni a b).Pairwise (· < ·) := compact_upI (sorted_of _)
theorem uni_len (a b : List Int) : (uni a b).length ≤ a.length + b.length := by
  unfold uni
  refine Nat.le_trans (compact_le _) ?_
  rw [srI_len, List.length_append]
  exact Nat.le_refl _
theorem ints_holds {B : Nat} {w : World} {g N cap : Nat} {l : List Int} (h : Ints B w (.slice (some ⟨g, 0, none⟩) N cap) l) : Holds (Value.int .i64) w g 0 l.toArray := fun j hj => by
  have hj' : j < l.length := by simpa using hj
  refine ⟨?_, ?_⟩
  · have := own_cell h (g := g) rfl (j := j) (u := .int .i64 l[j]) (by simp [I64, List.getElem?_eq_getElem hj'])
    rw [getElem!_pos _ j hj]; simpa using this
  · have := own_frozen h (g := g) rfl j; simpa using this
theorem own_blkI {B : Nat} {w : World} {e : TypeId} {c n g cap : Nat} {xs : List Value} (h : w.ownsRow B e c (.slice (some ⟨g, 0, none⟩) n cap) n xs) : ∃ cur, B ≤ g ∧ w.heap[g]? = some (.cells cur e (0, 0)) ∧ n ≤ cap ∧ cap ≤ maxLen ∧ cur.size = cap * c := by
  rcases h.2 with ⟨q, _⟩ | ⟨g', cp, cur, q, h0, hg, q1, q2, q3, q4⟩
  · cases q
  · cases q; exact ⟨cur, h0, hg, q1, q2, q3⟩
theorem putRow_block {w : World} {g off q : Nat} {cur : Array Value} {t : TypeId} {f : Nat × Nat} {d : Array Int} (h : w.heap[g]? = some (.cells cur t f)) : ∃ cur2, (putRow (Value.int .i64) (Sort.ahead w q) g off d).heap[g]? = some (.cells cur2 t f) ∧ cur2.size = cur.size := by
  refine ⟨putCells (Value.int .i64) off d cur, ?_, by simp [putCells]⟩
  simp only [putRow, mapBlock, Sort.ahead, Array.getElem?_modify, if_true, h, Option.map_some]
  rfl
theorem cell_blkI {w : World} {g i : Nat} {cur : Array Value} {t : TypeId} {f : Nat × Nat} {u : Value} (h : w.heap[g]? = some (.cells cur t f)) (hc : w.cell? ⟨g, i, none⟩ = some u) : cur[i]? = some u := by
  simpa [World.cell?, h] using hc
theorem ints_put {B : Nat} {w : World} {g N cap n : Nat} {l m r : List Int} (h : Ints B w (.slice (some ⟨g, 0, none⟩) N cap) l) (hN : N = l.length) (hm : (m ++ r).length = l.length) (hn : n = m.length) (q : Nat) : Ints B (putRow (Value.int .i64) (Sort.ahead w q) g 0 (m ++ r).toArray) (.slice (some ⟨g, 0, none⟩) n cap) m := by
  subst hN hn
  obtain ⟨cur, h0, hg, q1, q2, q3⟩ := own_blkI h
  have hml : m.length ≤ l.length := by rw [← hm, List.length_append]; omega
  have hH := ints_holds h
  have hH2 : Holds (Value.int .i64) (putRow (Value.int .i64) (Sort.ahead w q) g 0 (m ++ r).toArray) g 0 (m ++ r).toArray := holds_putRow _ _ _ _ _ _ (holds_ahead _ _ _ _ _ _ hH) (by simpa using hm)
  have hb : ∃ cur2, (putRow (Value.int .i64) (Sort.ahead w q) g 0 (m ++ r).toArray).heap[g]? = some (.cells cur2 3 (0, 0)) ∧ cur2.size = cur.size := putRow_block hg
  obtain ⟨cur2, hg2, hs2⟩ := hb
  refine ⟨by simp, Or.inr ⟨g, cap, cur2, rfl, h0, hg2, by omega, q2, by rw [hs2]; exact q3, ?_⟩⟩
  apply List.ext_getElem?
  intro j
  by_cases hj : j < m.length
  · rw [List.getElem?_take_of_lt (by omega), Array.getElem?_toList]
    have hc := (hH2 j (by simp; omega)).1
    rw [getElem!_pos _ j (by simp; omega)] at hc
    have e1 := cell_blkI hg2 hc
    rw [Nat.zero_add] at e1
    rw [e1, List.getElem?_map, List.getElem?_eq_getElem hj]
    simp [I64, List.getElem_append_left hj]
  · rw [List.getElem?_eq_none (by rw [List.length_take]; omega), List.getElem?_eq_none (by simp; omega)]
theorem sortI_any {B : Nat} {w : World} {v : Value} {l : List Int} (h : Ints B w v l) (hl : l.length ≤ 1000) :
    Calls Tryz.prog 48 #[v] w fun e w' => e = .returned (.tuple #[]) ∧ Ints B w' v (srI l) ∧ Fr v.ownBlock.toList w w' := by
  rcases Nat.eq_zero_or_pos l.length with h0 | h0
  · obtain ⟨a, c, rfl⟩ := own_slice h
    obtain rfl := List.eq_nil_of_length_eq_zero h0
    refine Calls.mono (AnyM.slices_Sort_int_none laysSo a c w) ?_
    rintro e w1 ⟨rfl, rfl⟩
    exact ⟨rfl, by simpa [srI] using h, Fr.refl _ _⟩
  · obtain ⟨g, cap, rfl, hg, hcap, _⟩ := own_open h h0
    refine Calls.mono (AnyM.slices_Sort_int laysSo g 0 cap l w (ints_holds h) hg (by omega)) ?_
    rintro e w1 ⟨rfl, n, os, rfl⟩
    have h1 := ints_put (m := srI l) (r := []) (n := l.length) h rfl (by simp [srI_len]) (srI_len l).symm n
    rw [List.append_nil] at h1
    refine ⟨rfl, own_keep h1 (fun k hk => ?_), (fr_putRow w g 0 n _).tr (fr_grow _ _ _)⟩
    exact (fr_grow [] _ os).block k (World.ownsRow.lt h1 k hk).2 (by simp)
theorem compactI_any {B : Nat} {w : World} {v : Value} {l : List Int} (h : Ints B w v l) (hl : l.length ≤ 1000) :
    Calls Tryz.prog 49 #[v] w fun e w' => ∃ v', e = .returned v' ∧ Ints B w' v' (Lib.compact l) ∧ Fr v.ownBlock.toList w w' := by
  rcases Nat.eq_zero_or_pos l.length with h0 | h0
  · obtain ⟨a, c, rfl⟩ := own_slice h
    obtain rfl := List.eq_nil_of_length_eq_zero h0
    refine Calls.mono (Any.slices_Compact_int_empty laysCo a c w) ?_
    rintro e w1 ⟨rfl, rfl⟩
    exact ⟨_, rfl, by simpa [Lib.compact, Lib.compactUpTo] using h, Fr.refl _ _⟩
  · obtain ⟨g, cap, rfl, hg, hcap, _⟩ := own_open h h0
    refine Calls.mono (Any.slices_Compact_int laysCo g 0 cap l w (ints_holds h) (by omega) hcap) ?_
    rintro e w1 ⟨rfl, n, rfl⟩
    have hle := compact_le l
    exact ⟨_, rfl, ints_put (m := Lib.compact l) (r := List.replicate (l.length - (Lib.compact l).length) 0) (n := (Lib.compact l).length) h rfl (by rw [List.length_append, List.length_replicate]; omega) rfl n, fr_putRow w g 0 n _⟩
end Go.Proofs.YtgmlkofogeoocaaGreatDoor
