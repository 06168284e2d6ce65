/- The contract of memberTwice: the members sorted, equal neighbours struck. -/
import Derived.Test.YtjjkhjiiakamaaaDoorTrLib
namespace Go.Proofs.YtjjkhjiiakamaaaDoor
open Go.Shelf Go.RowKit Go.Maps Go.Sort

theorem fr_putRow (w : World) (blk off q : Nat) (d : Array Int) : Fr [blk] w (putRow (Value.int .i64) (Sort.ahead w q) blk off d) := by
  refine ⟨rfl, rfl, rfl, by simp, fun k hk hn => ?_⟩
  simp only [putRow, mapBlock, Sort.ahead, Array.getElem?_modify]
  have : blk ≠ k := fun c => hn (by simp [c])
  simp [this]
theorem fr_grow (S : List Nat) (w : World) (os : Array Obj) : Fr S w (grow w os) :=
  ⟨rfl, rfl, rfl, by simp, fun k hk _ => by simp [grow, Array.getElem?_append, hk]⟩
theorem compact_twice {l : List Int} (hs : l.Pairwise (· ≤ ·)) : decide ((Lib.compact l).length < l.length) = decide (¬ l.Nodup) := by
  by_cases hn : l.Nodup
  · rw [Lib.compact_all l (fun j hj => ?_)]
    · simp [hn]
    · by_cases h0 : j = 0
      · subst h0; exact Lib.keeps_lt_one _ 0 (by omega)
      · refine Lib.keeps_pos (fun c => ?_)
        rw [getElem!_pos _ j (by simpa using hj), getElem!_pos _ (j - 1) (by simp; omega)] at c
        simp only [List.getElem_toArray] at c
        have hp := List.pairwise_iff_getElem.1 (List.nodup_iff_pairwise_ne.1 hn) (j - 1) j (by omega) hj (by omega)
        exact hp c.symm
  · rw [decide_eq_true hn, decide_eq_true_eq]
    have : ∃ j, j < l.length ∧ Lib.keeps l.toArray j = false := by
      apply Decidable.byContradiction
      intro hc
      apply hn
      have hk : ∀ j, 0 < j → (hj : j < l.length) → l[j - 1]'(by omega) < l[j] := by
        intro j h0 hj
        have h1 := (List.pairwise_iff_getElem.1 hs) (j - 1) j (by omega) hj (by omega)
        rcases Int.lt_or_eq_of_le h1 with h2 | h2
        · exact h2
        · exfalso; apply hc
          refine ⟨j, hj, Lib.keeps_neg h0 ?_⟩
          rw [getElem!_pos _ j (by simpa using hj), getElem!_pos _ (j - 1) (by simp; omega)]
          simp [h2]
      have hlt : ∀ i j, (hij : i < j) → (hj : j < l.length) → l[i]'(by omega) < l[j] := by
        intro i j hij hj
        have h1 := hk j (by omega) hj
        rcases Nat.lt_or_ge i (j - 1) with c | c
        · have := (List.pairwise_iff_getElem.1 hs) i (j - 1) (by omega) (by omega) c
          omega
        · obtain rfl : i = j - 1 := by omega
          exact h1
      rw [List.nodup_iff_pairwise_ne, List.pairwise_iff_getElem]
      intro i j hi hj hij e
      have := hlt i j hij hj
      omega
    obtain ⟨j, hj, hkj⟩ := this
    unfold Lib.compact Lib.compactUpTo
    rw [List.length_map]
    have hlen : (List.range l.length).length = l.length := by simp
    rcases Nat.lt_or_ge ((List.range l.length).filter (Lib.keeps l.toArray)).length l.length with c | c
    · exact c
    · exfalso
      have := List.length_filter_eq_length_iff.1 (Nat.le_antisymm (List.length_filter_le _ _) (by rw [hlen]; exact c)) j (List.mem_range.2 hj)
      rw [hkj] at this; cases this
theorem compact_le (S : List Int) : (Lib.compact S).length ≤ S.length := by
  unfold Lib.compact Lib.compactUpTo
  rw [List.length_map]
  exact Nat.le_trans (List.length_filter_le _ _) (by simp)
theorem sorted_of (l : List Int) : (l.mergeSort fun x y => decide (x ≤ y)).Pairwise (· ≤ ·) := by
  have := List.pairwise_mergeSort (le := fun x y : Int => decide (x ≤ y)) (by intro a b c; simp; omega) (by intro a b; simp; omega) l
  exact this.imp (fun h => by simpa using h)
theorem nodup_sorted (l : List Int) : (l.mergeSort fun x y => decide (x ≤ y)).Nodup ↔ l.Nodup := (List.mergeSort_perm l _).nodup_iff
set_option maxRecDepth 100000 in
set_option maxHeartbeats 1000000 in
theorem twice_any {w : World} {v : Value} {T : List Nd} (h : Trd w v T) (hs : T.length ≤ 15) :
    Calls Tryd.prog 48 #[.agg #[v]] w fun e w' => e = .returned (.bool (decide (¬ (mems T).Nodup))) ∧ Below w.heap.size w w' := by
  obtain ⟨w0, hw0⟩ : ∃ w0, w0 = bxw w v := ⟨_, rfl⟩
  have b0 : Below w.heap.size w w0 := by rw [hw0]; exact bwA _ _
  have K := members_any (h.bw b0) hs
  have HW : Hid (w0 = w.alloc (.cells #[v] 24)) := hw0
  have hl : (mems T).length ≤ 8 := by
    have := memsOf_len (lvs T); rw [lvs_len] at this; unfold nlv at this; unfold mems; omega
  generalize mems T = l at *
  clear hw0 h hs
  go_enter Tryd.func48, Tryd.ntmps48
  go_wp2_with fail
  rw [← unhide HW]
  refine K.mono ?_
  rintro e w1 ⟨r, rfl, hr, b1⟩
  clear K HW
  rcases Nat.eq_zero_or_pos l.length with h0 | h0
  · obtain ⟨a, c, rfl⟩ := own_slice hr
    obtain rfl := List.eq_nil_of_length_eq_zero h0
    have K1 := AnyM.slices_Sort_int_none laysSo a c w1
    have K2 := Any.slices_Compact_int_empty laysCo a c w1
    clear hr
    go_wp2_with fail
    refine K1.mono ?_
    rintro e w1 ⟨rfl, rfl⟩
    go_wp2_with fail
    refine K2.mono ?_
    rintro e w1 ⟨rfl, rfl⟩
    go_wp2
    go_ret
    exact ⟨by simp, bw_tr b0 b1⟩
  · obtain ⟨g, cap, rfl, hg, hcap, _⟩ := own_open hr h0
    have hH : Holds (Value.int .i64) w1 g 0 l.toArray := fun j hj => by
      have hj' : j < l.length := by simpa using hj
      refine ⟨?_, ?_⟩
      · have := own_cell hr (g := g) rfl (j := j) (u := .int .i64 l[j]) (by simp [I64, List.getElem?_eq_getElem hj'])
        rw [getElem!_pos _ j hj]; simpa using this
      · have := own_frozen hr (g := g) rfl j; simpa using this
    have hge : w0.heap.size ≤ g := (World.ownsRow.lt hr g rfl).1
    have K1 := AnyM.slices_Sort_int laysSo g 0 cap l w1 hH hg (by omega)
    have hsl : (l.mergeSort fun x y => decide (x ≤ y)).length = l.length := by simp
    go_wp2_with fail
    refine K1.mono ?_
    rintro e w2 ⟨rfl, n, os, rfl⟩
    clear K1
    have hH2 : Holds (Value.int .i64) (grow (putRow (Value.int .i64) (Sort.ahead w1 n) g 0 (l.mergeSort fun x y => decide (x ≤ y)).toArray) os) g 0 (l.mergeSort fun x y => decide (x ≤ y)).toArray :=
      holds_grow _ _ _ _ _ _ (by simpa using hg) (holds_putRow _ _ _ _ _ _ (holds_ahead _ _ _ _ _ _ hH) (by simp))
    have f2 : Fr [g] w1 (grow (putRow (Value.int .i64) (Sort.ahead w1 n) g 0 (l.mergeSort fun x y => decide (x ≤ y)).toArray) os) := (fr_putRow w1 g 0 n _).tr (fr_grow _ _ _)
    generalize grow (putRow (Value.int .i64) (Sort.ahead w1 n) g 0 (l.mergeSort fun x y => decide (x ≤ y)).toArray) os = w2 at *
    have K2 := Any.slices_Compact_int laysCo g 0 cap _ w2 hH2 (by rw [hsl]; omega) (by rw [hsl]; omega)
    have HC := hide (compact_twice (sorted_of l))
    have HN := hide (nodup_sorted l)
    generalize (l.mergeSort fun x y => decide (x ≤ y)) = S at *
    rw [hsl] at K2 HC
    have hSn : (Lib.compact S).length ≤ 8 := by have := compact_le S; omega
    clear hH hH2 hr
    generalize l.length = N at *
    clear hsl
    generalize (Lib.compact S).length = M at *
    go_wp2_with fail
    refine K2.mono ?_
    rintro e w3 ⟨rfl, q, rfl⟩
    have f3 := fr_putRow w2 g 0 q (Lib.compact S ++ List.replicate (N - M) 0).toArray
    clear K2
    generalize putRow (Value.int .i64) (Sort.ahead w2 q) g 0 (Lib.compact S ++ List.replicate (N - M) 0).toArray = w3 at *
    go_wp2
    go_ret
    refine ⟨?_, bw_tr b0 (Fr.toBase b1 (f2.tr f3) (by simp; exact hge))⟩
    have := unhide HC
    simp only [this, unhide HN]
    rfl
end Go.Proofs.YtjjkhjiiakamaaaDoor
