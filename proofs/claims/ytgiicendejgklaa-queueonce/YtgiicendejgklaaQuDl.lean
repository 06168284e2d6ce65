/- slices.Delete at feeds, from the beginning on. -/
import Derived.Test.YtgiicendejgklaaQuZ
import Derived.Test.YtgiicendejgklaaQuO
import Derived.Shelf.RegionOpenPlain
import Derived.Deep.RegionLaw
import Derived.Lib.SliceRun
namespace Go.Proofs.Ytgiicendejgklaa
open Go.RowKit Go.Maps
theorem run_clear_rows {P : Program} (w : World) (t e ty : TypeId) (z : Array Value) (ht : P.underlying t = some (.slice e)) (hv : ∀ w, (zeroValue e).run P w = .ok (.agg z) w) (h1 : ∀ u ∈ z, u.oneCell' = true) (b o n c : Nat) (hn : 0 < n)
    (hc : ∀ j, j < n * z.size → (w.cell? ⟨b, o + j, none⟩).isSome = true) (hf : ∀ j, j < n * z.size → w.frozen? ⟨b, o + j, none⟩ = false) :
    ∃ zs : List Value, zs.length = n * z.size ∧ (Builtin.clear_ #[t] ty #[.slice (some ⟨b, o, none⟩) n c]).run P w = .ok (.tuple #[]) (w.setCells b o zs) := by
  obtain ⟨zs, hzs⟩ : ∃ zs, zs = (Builtin.zeroCells z n).toList := ⟨_, rfl⟩
  have hl : zs.length = n * z.size := by rw [hzs]; simp [Builtin.zeroCells]
  have hall : ∀ v ∈ zs, v.oneCell' = true := by
    intro v hv'
    rw [hzs] at hv'
    simp only [Builtin.zeroCells, Array.toList_map, List.mem_map] at hv'
    obtain ⟨i, hi, rfl⟩ := hv'
    have hi2 : i < n * z.size := by simpa using hi
    have hz : 0 < z.size := by
      rcases Nat.eq_zero_or_pos z.size with q | q
      · rw [q] at hi2; simp at hi2
      · exact q
    have hm : i % z.size < z.size := Nat.mod_lt _ hz
    rw [getElem!_pos z _ hm]
    exact h1 _ (Array.getElem_mem hm)
  refine ⟨zs, hl, ?_⟩
  have hst := run_storeCells_cells (P := P) b o zs 0 w (by rw [hl]; simpa using hc) (by rw [hl]; simpa using hf) hall
  simp only [Nat.add_zero] at hst
  obtain ⟨m, rfl⟩ : ∃ m, n = m + 1 := ⟨n - 1, by omega⟩
  have hcells : (Value.agg z).cells = z := rfl
  simp [Builtin.clear_, run_underlying ht, hv, hcells, ← hzs, hst]
theorem take_pk {cur : Array Value} {news zs : List Value} (h : news.length + zs.length ≤ cur.size) : (pk (pk cur 0 news) news.length zs).toList.take news.length = news := by
  apply List.ext_getElem?
  intro k
  rw [List.getElem?_take]
  split
  · rename_i hk
    rw [Array.getElem?_toList, pk_get _ _ _ (by rw [pk_size]; exact h), if_neg (by omega), pk_get _ _ _ (by omega), if_pos (by omega)]
    rfl
  · rename_i hk
    rw [List.getElem?_eq_none (by omega)]
theorem fd0_one : ∀ u ∈ fd0, u.oneCell' = true := by
  intro u hu
  have h : fd0.toList.all (fun u => u.oneCell') = true := by rfl
  exact List.all_eq_true.1 h u (by simpa using hu)
set_option maxRecDepth 100000 in
set_option maxHeartbeats 4000000 in
theorem del0_any {w : World} {a : Option Addr} {n c : Nat} (hn : n ≤ 1048576) (hc : n ≤ c) (hm : c ≤ maxLen) :
    Calls Try.prog 41 #[.slice a n c, .int .i64 0, .int .i64 0] w fun e w' => e = .returned (.slice a n c) ∧ w' = w := by
  have hm2 : c ≤ 9223372036854775807 := by unfold maxLen at hm; omega
  have hnI : (n : Int) ≤ 1048576 := by omega
  go_enter Try.func41, Try.ntmps41
  go_wp2_with fail
  all_goals (go_ret; exact ⟨rfl, rfl⟩)
set_option maxRecDepth 100000 in
set_option maxHeartbeats 8000000 in
theorem del_any {w : World} {B b n c j : Nat} {xs : List Value} (ho : w.ownsRow B 43 53 (.slice (some ⟨b, 0, none⟩) n c) n xs) (h1 : ∀ u ∈ xs, u.oneCell' = true) (hn : n ≤ 1048576) (hj : j ≤ n) (hj0 : 0 < j) :
    Calls Try.prog 41 #[.slice (some ⟨b, 0, none⟩) n c, .int .i64 0, .int .i64 (j : Int)] w fun e w' => e = .returned (.slice (some ⟨b, 0, none⟩) (n - j) c) ∧ w'.ownsRow B 43 53 (.slice (some ⟨b, 0, none⟩) (n - j) c) (n - j) (xs.drop (j * 53)) ∧ Fr [b] w w' := by
  obtain ⟨i0, hi0, _, _, _⟩ := info_parts infoKFeed
  obtain ⟨hxl, hrow⟩ := ho
  rcases hrow with ⟨q, _⟩ | ⟨g_, c_, cur, hv, hB, hblk, hnc, hcm, hsz, htk⟩
  · cases q
  simp only [Value.slice.injEq, Option.some.injEq, Addr.mk.injEq, and_true, true_and] at hv
  obtain ⟨rfl, rfl⟩ := hv
  obtain ⟨news, hnews⟩ : ∃ news, news = xs.drop (j * 53) := ⟨_, rfl⟩
  have hlen : news.length = (n - j) * 53 := by rw [hnews, List.length_drop, hxl, Nat.sub_mul]
  have hcur : ∀ (k : Nat) u, xs[k]? = some u → cur[k]? = some u := fun k u hk => by
    rw [← htk, List.getElem?_take] at hk
    split at hk
    · simpa using hk
    · cases hk
  have hbD : w.drew.heap[b]? = some (.cells cur 43 (0, 0)) := hblk
  obtain ⟨A, hA, hsrc⟩ : ∃ A : Addr, (if c = j then some (⟨b, 0, none⟩ : Addr) else some ⟨b, j * 53, none⟩) = some A ∧ Hid (∀ t u, news[t]? = some u → w.drew.cell? (A.add t) = some u) := by
    by_cases h : c = j
    · refine ⟨⟨b, 0, none⟩, by simp [h], fun t u hu => ?_⟩
      have hnj : n - j = 0 := by omega
      have h0 : news.length = 0 := by rw [hlen, hnj, Nat.zero_mul]
      rw [List.length_eq_zero_iff.1 h0] at hu
      cases hu
    · refine ⟨⟨b, j * 53, none⟩, by simp [h], fun t u hu => ?_⟩
      rw [hnews, List.getElem?_drop] at hu
      rw [Addr.add_lit]
      exact blk_c hbD (hcur _ _ hu)
  have s1 : Hid (news.length = (n - j) * 53) := hlen
  have s2 : Hid (∀ u ∈ news, u.oneCell' = true) := fun u hu => h1 u (by rw [hnews] at hu; exact List.mem_of_mem_drop hu)
  have hcl0 : ∀ t, t < n * 53 → ∃ u, cur[t]? = some u := fun t ht => ⟨_, Array.getElem?_eq_getElem (by rw [hsz]; exact Nat.lt_of_lt_of_le ht (Nat.mul_le_mul_right _ hnc))⟩
  have s3 : Hid (∀ t, t < news.length → (w.drew.cell? ⟨b, 0 + 0 * 53 + t, none⟩).isSome = true ∧ w.drew.frozen? ⟨b, 0 + 0 * 53 + t, none⟩ = false) := by
    intro t ht
    rw [hlen] at ht
    obtain ⟨u, hu⟩ := hcl0 t (Nat.lt_of_lt_of_le ht (Nat.mul_le_mul_right _ (Nat.sub_le _ _)))
    rw [show 0 + 0 * 53 + t = t by omega]
    exact ⟨by rw [blk_c hbD hu]; rfl, froz_b' hbD⟩
  obtain ⟨W1, hW1⟩ : ∃ W1, W1 = w.drew.setCells b (0 + 0 * 53) news := ⟨_, rfl⟩
  have hb1 : W1.heap[b]? = some (.cells (pk cur 0 news) 43 (0, 0)) := by
    rw [hW1, setCells_pokesQ]; exact pokes_at news w.drew _ cur hbD
  have hps : (pk cur 0 news).size = cur.size := pk_size _ _ _
  obtain ⟨zs, hz1, hz2⟩ := run_clear_rows (P := Try.prog) W1 52 43 0 fd0 Try.underlying52 Try.zeroValue43 fd0_one b ((n - j) * 53) (n - (n - j)) (c - (n - j)) (by omega)
    (fun t ht => by
      have hf53 : fd0.size = 53 := rfl
      have ht2 : (n - j) * 53 + t < n * 53 := by rw [hf53] at ht; omega
      have ht3 : (n - j) * 53 + t < (pk cur 0 news).size := by rw [hps, hsz]; exact Nat.lt_of_lt_of_le ht2 (Nat.mul_le_mul_right _ hnc)
      rw [blk_c hb1 (Array.getElem?_eq_getElem ht3)]; rfl) (fun t ht => froz_b' hb1)
  have hcl : Hid (∀ ty, (Builtin.clear_ #[52] ty #[.slice (some ⟨b, (n - j) * 53, none⟩) (n - (n - j)) (c - (n - j))]).run Try.prog W1 = .ok (.tuple #[]) (W1.setCells b ((n - j) * 53) zs)) := fun ty => hz2
  have HFIN : Hid (World.ownsRow (W1.setCells b ((n - j) * 53) zs) B 43 53 (.slice (some ⟨b, 0, none⟩) (n - j) c) (n - j) news ∧ Fr [b] w (W1.setCells b ((n - j) * 53) zs)) := by
    refine ⟨⟨hlen, Or.inr ⟨b, c, pk (pk cur 0 news) ((n - j) * 53) zs, rfl, hB, ?_, by omega, hcm, ?_, ?_⟩⟩, ?_⟩
    · rw [setCells_pokesQ]; exact pokes_at zs W1 _ _ hb1
    · rw [pk_size, hps, hsz]
    · rw [← hlen]; exact take_pk (by
        have hf53 : fd0.size = 53 := rfl
        rw [hlen, hz1, hf53, hsz, ← Nat.add_mul]
        exact Nat.mul_le_mul_right _ (by omega))
    · rw [setCells_pokesQ]
      refine pokes_fr zs _ _ ?_
      rw [hW1, setCells_pokesQ]
      exact pokes_fr news _ _ (Fr.refl _ w).drew
  have hW : Hid (W1 = w.drew.setCells b (0 + 0 * 53) news) := hW1
  rw [← hnews]
  have hjI : ((j : Nat) : Int) ≤ (n : Int) := by omega
  have hj0I : (0 : Int) < (j : Int) := by omega
  have hnI : (n : Int) ≤ 1048576 := by omega
  have hcm2 : c ≤ 9223372036854775807 := by unfold maxLen at hcm; omega
  have hjc : j ≤ c := by omega
  have hne : ¬ (0 : Int) = (j : Int) := by omega
  have hi : i0.size = 53 := by have := infoFdS3; rw [hi0] at this; simpa using this
  clear hW1 hb1 hps hz1 hz2 hnews hlen hcur hbD hcl0 hsz htk hblk hxl h1 hB
  have mixed : Try.prog.follows Departure.mixedOrders = true := by kernel_rfl
  go_enter Try.func41, Try.ntmps41
  go_wp2_with fail
  go_region_law_o (refine step_append_room rfl (.tmp 22) (.tmp 25) 52 rfl 43 i0 53 Try.underlying52 hi0 hi b 0 0 c (by simp [Act.eval, Act.put]) A (n - j) (c - j) news (by simp [Act.eval, Act.put]) s1.out hsrc.out s2.out (by omega) s3.out ?_; rw [← hW.out])
  have hcl2 := unhide hcl
  go_wp2_with fail
  go_ret
  exact ⟨rfl, (unhide HFIN).1, (unhide HFIN).2⟩
end Go.Proofs.Ytgiicendejgklaa
