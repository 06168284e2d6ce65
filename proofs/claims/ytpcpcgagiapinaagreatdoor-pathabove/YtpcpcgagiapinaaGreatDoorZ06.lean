/- Texts joined: TrLib TrD TrE TrF TrG0 TrG1 TrG TrH0 TrH TrI. -/
import Derived.Shelf.SortM.Plain
import Derived.Shelf.SortM.SortNone
import Derived.Shelf.Slices.CompactI
import Derived.Shelf.Slices.SearchI
import Derived.Shelf.Slices.Empties
import Derived.Test.YtpcpcgagiapinaaGreatDoorZ04
/- The library's slices.Sort, slices.Compact and slices.BinarySearch at []int, laid off the shelf. -/
namespace Go.Proofs.YtpcpcgagiapinaaGreatDoor
open Go.Shelf Go.RowKit Go.Maps Go.Sort
def renSo : Go.Shelf.Ren := ⟨fun | 0 => 0 | 1 => 1 | 2 => 2 | 5 => 151 | 7 => 180 | 8 => 133 | 10 => 191 | 11 => 192 | 12 => 193 | 13 => 194 | 14 => 195 | 15 => 196 | 16 => 197 | 17 => 198 | 18 => 199 | 19 => 167 | 20 => 168 | 30 => 201 | 31 => 183 | 32 => 184 | 33 => 202 | 34 => 203 | 35 => 134 | 40 => 204 | 42 => 205 | 43 => 206 | 44 => 207 | 45 => 208 | 46 => 209 | 47 => 210 | 48 => 211 | 49 => 212 | 50 => 213 | 51 => 214 | 52 => 215 | 53 => 216 | 54 => 217 | 55 => 218 | 56 => 219 | 57 => 222 | n => n, fun | 0 => 0 | 1 => 1 | 2 => 2 | 3 => 3 | 4 => 4 | 5 => 5 | 6 => 6 | 7 => 7 | 8 => 8 | 9 => 9 | 10 => 10 | 11 => 11 | 12 => 12 | 13 => 13 | 14 => 14 | 15 => 15 | 16 => 16 | 17 => 17 | 18 => 18 | 19 => 19 | 20 => 20 | 21 => 21 | 22 => 27 | 23 => 27 | 24 => 155 | 25 => 3 | 30 => 205 | 31 => 185 | 32 => 186 | 34 => 213 | 35 => 194 | 36 => 195 | 37 => 214 | 38 => 215 | 39 => 39 | 40 => 216 | 41 => 128 | 42 => 217 | 43 => 200 | 44 => 201 | 45 => 202 | 46 => 203 | 53 => 206 | 54 => 207 | 55 => 208 | 56 => 220 | 57 => 210 | 58 => 221 | 59 => 80 | 63 => 218 | 64 => 105 | 65 => 222 | 67 => 223 | 68 => 224 | 69 => 225 | 70 => 226 | 71 => 227 | 72 => 228 | 73 => 99 | 74 => 229 | 75 => 230 | 76 => 231 | 77 => 232 | 78 => 233 | 79 => 234 | 80 => 235 | 81 => 236 | 82 => 237 | n => n, fun | n => n⟩
set_option maxRecDepth 100000 in
theorem laysSo : Go.Proofs.SlLaysM.n5 Tryz.prog renSo := {
  mixed := by kernel_rfl
  f5 := ⟨Tryz.f151.name, by decide, Tryz.func151.trans (congrArg some (by kernel_rfl))⟩
  f7 := ⟨Tryz.f180.name, by decide, Tryz.func180.trans (congrArg some (by kernel_rfl))⟩
  f8 := Tryz.func133.trans (congrArg some (by kernel_rfl))
  f10 := ⟨Tryz.f191.name, by decide, Tryz.func191.trans (congrArg some (by kernel_rfl))⟩
  f11 := ⟨Tryz.f192.name, by decide, Tryz.func192.trans (congrArg some (by kernel_rfl))⟩
  f12 := ⟨Tryz.f193.name, by decide, Tryz.func193.trans (congrArg some (by kernel_rfl))⟩
  f13 := ⟨Tryz.f194.name, by decide, Tryz.func194.trans (congrArg some (by kernel_rfl))⟩
  f14 := ⟨Tryz.f195.name, by decide, Tryz.func195.trans (congrArg some (by kernel_rfl))⟩
  f15 := ⟨Tryz.f196.name, by decide, Tryz.func196.trans (congrArg some (by kernel_rfl))⟩
  f16 := ⟨Tryz.f197.name, by decide, Tryz.func197.trans (congrArg some (by kernel_rfl))⟩
  f17 := ⟨Tryz.f198.name, by decide, Tryz.func198.trans (congrArg some (by kernel_rfl))⟩
  f18 := ⟨Tryz.f199.name, by decide, Tryz.func199.trans (congrArg some (by kernel_rfl))⟩
  f19 := Tryz.func167.trans (congrArg some (by kernel_rfl))
  f20 := Tryz.func168.trans (congrArg some (by kernel_rfl))
  f30 := ⟨Tryz.f201.name, by decide, Tryz.func201.trans (congrArg some (by kernel_rfl))⟩
  f31 := Tryz.func183.trans (congrArg some (by kernel_rfl))
  f32 := Tryz.func184.trans (congrArg some (by kernel_rfl))
  f33 := ⟨Tryz.f202.name, by decide, Tryz.func202.trans (congrArg some (by kernel_rfl))⟩
  f34 := ⟨Tryz.f203.name, by decide, Tryz.func203.trans (congrArg some (by kernel_rfl))⟩
  f35 := ⟨Tryz.f134.name, by decide, Tryz.func134.trans (congrArg some (by kernel_rfl))⟩
  f40 := ⟨Tryz.f204.name, by decide, Tryz.func204.trans (congrArg some (by kernel_rfl))⟩
  t0 := Tryz.underlying0
  a0 := Tryz.isAgg0
  z0 := Tryz.sizeOf0
  v0 := Tryz.zeroValue0
  t3 := Tryz.underlying3
  a3 := Tryz.isAgg3
  z3 := Tryz.sizeOf3
  v3 := Tryz.zeroValue3
  t4 := Tryz.underlying4
  a4 := Tryz.isAgg4
  z4 := Tryz.sizeOf4
  v4 := Tryz.zeroValue4
  t5 := Tryz.underlying5
  a5 := Tryz.isAgg5
  z5 := Tryz.sizeOf5
  v5 := Tryz.zeroValue5
  t9 := Tryz.underlying9
  a9 := Tryz.isAgg9
  z9 := Tryz.sizeOf9
  v9 := Tryz.zeroValue9
  t22 := Tryz.underlying27
  a22 := Tryz.isAgg27
  z22 := Tryz.sizeOf27
  v22 := Tryz.zeroValue27
  t23 := Tryz.underlying27
  a23 := Tryz.isAgg27
  z23 := Tryz.sizeOf27
  v23 := Tryz.zeroValue27
  t25 := Tryz.underlying3
  a25 := Tryz.isAgg3
  z25 := Tryz.sizeOf3
  v25 := Tryz.zeroValue3
  t32 := Tryz.underlying186
  a32 := Tryz.isAgg186
  z32 := Tryz.sizeOf186
  v32 := Tryz.zeroValue186
  t35 := Tryz.underlying194
  a35 := Tryz.isAgg194
  z35 := Tryz.sizeOf194
  v35 := Tryz.zeroValue194
  t36 := Tryz.underlying195
  a36 := Tryz.isAgg195
  z36 := Tryz.sizeOf195
  v36 := Tryz.zeroValue195
  t41 := Tryz.underlying128
  a41 := Tryz.isAgg128
  z41 := Tryz.sizeOf128
  v41 := Tryz.zeroValue128
  t44 := Tryz.underlying201
  a44 := Tryz.isAgg201
  z44 := Tryz.sizeOf201
  v44 := Tryz.zeroValue201
  t46 := Tryz.underlying203
  a46 := Tryz.isAgg203
  z46 := Tryz.sizeOf203
  v46 := Tryz.zeroValue203
  t53 := Tryz.underlying206
  a53 := Tryz.isAgg206
  z53 := Tryz.sizeOf206
  v53 := Tryz.zeroValue206
  t57 := Tryz.underlying210
  a57 := Tryz.isAgg210
  z57 := Tryz.sizeOf210
  v57 := Tryz.zeroValue210
  t63 := Tryz.underlying218
  a63 := Tryz.isAgg218
  z63 := Tryz.sizeOf218
  v63 := Tryz.zeroValue218
  t64 := Tryz.underlying105
  a64 := Tryz.isAgg105
  z64 := Tryz.sizeOf105
  v64 := Tryz.zeroValue105 }
def renCo : Go.Shelf.Ren := ⟨fun | 0 => 0 | 1 => 1 | 2 => 2 | 15 => 82 | 20 => 174 | 31 => 197 | 37 => 134 | 40 => 205 | 41 => 206 | 42 => 207 | 43 => 208 | 44 => 209 | 45 => 210 | 46 => 211 | 47 => 212 | 48 => 213 | 49 => 214 | 50 => 215 | 51 => 216 | 52 => 217 | 53 => 218 | 54 => 219 | 55 => 222 | n => n, fun | 0 => 0 | 1 => 1 | 2 => 2 | 3 => 3 | 4 => 4 | 5 => 5 | 6 => 6 | 7 => 7 | 8 => 8 | 9 => 9 | 10 => 10 | 11 => 11 | 12 => 12 | 13 => 13 | 14 => 14 | 15 => 15 | 16 => 16 | 17 => 17 | 18 => 18 | 19 => 19 | 20 => 20 | 21 => 21 | 22 => 27 | 23 => 156 | 33 => 128 | 36 => 38 | 40 => 186 | 41 => 39 | 42 => 80 | 45 => 155 | 46 => 223 | 47 => 224 | 48 => 225 | 49 => 226 | 50 => 227 | 51 => 228 | 52 => 99 | 53 => 201 | 54 => 229 | 55 => 230 | 56 => 231 | 57 => 232 | 58 => 233 | 59 => 234 | 60 => 235 | 61 => 236 | 62 => 237 | n => n, fun | n => n⟩
set_option maxRecDepth 100000 in
theorem laysCo : Go.Proofs.Lays2.n20 Tryz.prog renCo := {
  mixed := by kernel_rfl
  f20 := Tryz.func174.trans (congrArg some (by kernel_rfl))
  t0 := Tryz.underlying0
  a0 := Tryz.isAgg0
  z0 := Tryz.sizeOf0
  v0 := Tryz.zeroValue0
  t3 := Tryz.underlying3
  a3 := Tryz.isAgg3
  z3 := Tryz.sizeOf3
  v3 := Tryz.zeroValue3
  t4 := Tryz.underlying4
  a4 := Tryz.isAgg4
  z4 := Tryz.sizeOf4
  v4 := Tryz.zeroValue4
  t22 := Tryz.underlying27
  a22 := Tryz.isAgg27
  z22 := Tryz.sizeOf27
  v22 := Tryz.zeroValue27
  i3 := by kernel_rfl }

-- Lays2.n25: no function slices.BinarySearch[[]int,int]
end Go.Proofs.YtpcpcgagiapinaaGreatDoor

/- The contract of memberTwice: the members sorted, equal neighbours struck. -/
namespace Go.Proofs.YtpcpcgagiapinaaGreatDoor
open Go.Shelf Go.RowKit Go.Maps Go.Sort
theorem fr_putRow (w : World) (blk off q : Nat) (d : Array Int) : Fr [blk] w (putRow (Value.int .i64) (Sort.ahead w q) blk off d) := by
  refine ⟨rfl, rfl, rfl, by simp, fun k hk hn => ?_⟩
  simp only [putRow, mapBlock, Sort.ahead, Array.getElem?_modify]
  have : blk ≠ k := fun c => hn (by simp [c])
  simp [this]
theorem fr_grow (S : List Nat) (w : World) (os : Array Obj) : Fr S w (grow w os) :=
  ⟨rfl, rfl, rfl, by simp, fun k hk _ => by simp [grow, Array.getElem?_append, hk]⟩
theorem compact_twice {l : List Int} (hs : l.Pairwise (· ≤ ·)) : decide ((Lib.compact l).length < l.length) = decide (¬ l.Nodup) := by
  by_cases hn : l.Nodup
  · rw [Lib.compact_all l (fun j hj => ?_)]
    · simp [hn]
    · by_cases h0 : j = 0
      · subst h0; exact Lib.keeps_lt_one _ 0 (by omega)
      · refine Lib.keeps_pos (fun c => ?_)
        rw [getElem!_pos _ j (by simpa using hj), getElem!_pos _ (j - 1) (by simp; omega)] at c
        simp only [List.getElem_toArray] at c
        have hp := List.pairwise_iff_getElem.1 (List.nodup_iff_pairwise_ne.1 hn) (j - 1) j (by omega) hj (by omega)
        exact hp c.symm
  · rw [decide_eq_true hn, decide_eq_true_eq]
    have : ∃ j, j < l.length ∧ Lib.keeps l.toArray j = false := by
      apply Decidable.byContradiction
      intro hc
      apply hn
      have hk : ∀ j, 0 < j → (hj : j < l.length) → l[j - 1]'(by omega) < l[j] := by
        intro j h0 hj
        have h1 := (List.pairwise_iff_getElem.1 hs) (j - 1) j (by omega) hj (by omega)
        rcases Int.lt_or_eq_of_le h1 with h2 | h2
        · exact h2
        · exfalso; apply hc
          refine ⟨j, hj, Lib.keeps_neg h0 ?_⟩
          rw [getElem!_pos _ j (by simpa using hj), getElem!_pos _ (j - 1) (by simp; omega)]
          simp [h2]
      have hlt : ∀ i j, (hij : i < j) → (hj : j < l.length) → l[i]'(by omega) < l[j] := by
        intro i j hij hj
        have h1 := hk j (by omega) hj
        rcases Nat.lt_or_ge i (j - 1) with c | c
        · have := (List.pairwise_iff_getElem.1 hs) i (j - 1) (by omega) (by omega) c
          omega
        · obtain rfl : i = j - 1 := by omega
          exact h1
      rw [List.nodup_iff_pairwise_ne, List.pairwise_iff_getElem]
      intro i j hi hj hij e
      have := hlt i j hij hj
      omega
    obtain ⟨j, hj, hkj⟩ := this
    unfold Lib.compact Lib.compactUpTo
    rw [List.length_map]
    have hlen : (List.range l.length).length = l.length := by simp
    rcases Nat.lt_or_ge ((List.range l.length).filter (Lib.keeps l.toArray)).length l.length with c | c
    · exact c
    · exfalso
      have := List.length_filter_eq_length_iff.1 (Nat.le_antisymm (List.length_filter_le _ _) (by rw [hlen]; exact c)) j (List.mem_range.2 hj)
      rw [hkj] at this; cases this
theorem compact_le (S : List Int) : (Lib.compact S).length ≤ S.length := by
  unfold Lib.compact Lib.compactUpTo
  rw [List.length_map]
  exact Nat.le_trans (List.length_filter_le _ _) (by simp)
theorem sorted_of (l : List Int) : (l.mergeSort fun x y => decide (x ≤ y)).Pairwise (· ≤ ·) := by
  have := List.pairwise_mergeSort (le := fun x y : Int => decide (x ≤ y)) (by intro a b c; simp; omega) (by intro a b; simp; omega) l
  exact this.imp (fun h => by simpa using h)
theorem nodup_sorted (l : List Int) : (l.mergeSort fun x y => decide (x ≤ y)).Nodup ↔ l.Nodup := (List.mergeSort_perm l _).nodup_iff
set_option maxRecDepth 100000 in
set_option maxHeartbeats 1000000 in
theorem twice_any {w : World} {v : Value} {T : List Nd} (h : Trd w v T) (hs : T.length ≤ 15) :
    Calls Tryz.prog 142 #[.agg #[v]] w fun e w' => e = .returned (.bool (decide (¬ (mems T).Nodup))) ∧ Below w.heap.size w w' := by
  obtain ⟨w0, hw0⟩ : ∃ w0, w0 = bxw w v := ⟨_, rfl⟩
  have b0 : Below w.heap.size w w0 := by rw [hw0]; exact bwA _ _
  have K := members_any (h.bw b0) hs
  have HW : Hid (w0 = w.alloc (.cells #[v] 44)) := hw0
  have hl : (mems T).length ≤ 8 := by
    have := memsOf_len (lvs T); rw [lvs_len] at this; unfold nlv at this; unfold mems; omega
  generalize mems T = l at *
  clear hw0 h hs
  go_enter Tryz.func142, Tryz.ntmps142
  go_wp2_with fail
  rw [← unhide HW]
  refine K.mono ?_
  rintro e w1 ⟨r, rfl, hr, b1⟩
  clear K HW
  rcases Nat.eq_zero_or_pos l.length with h0 | h0
  · obtain ⟨a, c, rfl⟩ := own_slice hr
    obtain rfl := List.eq_nil_of_length_eq_zero h0
    have K1 := AnyM.slices_Sort_int_none laysSo a c w1
    have K2 := Any.slices_Compact_int_empty laysCo a c w1
    clear hr
    go_wp2_with fail
    refine K1.mono ?_
    rintro e w1 ⟨rfl, rfl⟩
    go_wp2_with fail
    refine K2.mono ?_
    rintro e w1 ⟨rfl, rfl⟩
    go_wp2
    go_ret
    exact ⟨by simp, bw_tr b0 b1⟩
  · obtain ⟨g, cap, rfl, hg, hcap, _⟩ := own_open hr h0
    have hH : Holds (Value.int .i64) w1 g 0 l.toArray := fun j hj => by
      have hj' : j < l.length := by simpa using hj
      refine ⟨?_, ?_⟩
      · have := own_cell hr (g := g) rfl (j := j) (u := .int .i64 l[j]) (by simp [I64, List.getElem?_eq_getElem hj'])
        rw [getElem!_pos _ j hj]; simpa using this
      · have := own_frozen hr (g := g) rfl j; simpa using this
    have hge : w0.heap.size ≤ g := (World.ownsRow.lt hr g rfl).1
    have K1 := AnyM.slices_Sort_int laysSo g 0 cap l w1 hH hg (by omega)
    have hsl : (l.mergeSort fun x y => decide (x ≤ y)).length = l.length := by simp
    go_wp2_with fail
    refine K1.mono ?_
    rintro e w2 ⟨rfl, n, os, rfl⟩
    clear K1
    have hH2 : Holds (Value.int .i64) (grow (putRow (Value.int .i64) (Sort.ahead w1 n) g 0 (l.mergeSort fun x y => decide (x ≤ y)).toArray) os) g 0 (l.mergeSort fun x y => decide (x ≤ y)).toArray :=
      holds_grow _ _ _ _ _ _ (by simpa using hg) (holds_putRow _ _ _ _ _ _ (holds_ahead _ _ _ _ _ _ hH) (by simp))
    have f2 : Fr [g] w1 (grow (putRow (Value.int .i64) (Sort.ahead w1 n) g 0 (l.mergeSort fun x y => decide (x ≤ y)).toArray) os) := (fr_putRow w1 g 0 n _).tr (fr_grow _ _ _)
    generalize grow (putRow (Value.int .i64) (Sort.ahead w1 n) g 0 (l.mergeSort fun x y => decide (x ≤ y)).toArray) os = w2 at *
    have K2 := Any.slices_Compact_int laysCo g 0 cap _ w2 hH2 (by rw [hsl]; omega) (by rw [hsl]; omega)
    have HC := hide (compact_twice (sorted_of l))
    have HN := hide (nodup_sorted l)
    generalize (l.mergeSort fun x y => decide (x ≤ y)) = S at *
    rw [hsl] at K2 HC
    have hSn : (Lib.compact S).length ≤ 8 := by have := compact_le S; omega
    clear hH hH2 hr
    generalize l.length = N at *
    clear hsl
    generalize (Lib.compact S).length = M at *
    go_wp2_with fail
    refine K2.mono ?_
    rintro e w3 ⟨rfl, q, rfl⟩
    have f3 := fr_putRow w2 g 0 q (Lib.compact S ++ List.replicate (N - M) 0).toArray
    clear K2
    generalize putRow (Value.int .i64) (Sort.ahead w2 q) g 0 (Lib.compact S ++ List.replicate (N - M) 0).toArray = w3 at *
    go_wp2
    go_ret
    refine ⟨?_, bw_tr b0 (Fr.toBase b1 (f2.tr f3) (by simp; exact hge))⟩
    have := unhide HC
    simp only [this, unhide HN]
    rfl
end Go.Proofs.YtpcpcgagiapinaaGreatDoor

/- The contracts of mayBe, Check, Size, Members and Find. -/
namespace Go.Proofs.YtpcpcgagiapinaaGreatDoor
open Go.RowKit Go.Maps
theorem wid_small {n N : Nat} (h8 : n ≤ 8) (hN : 0 < N) (h : wid (n : Nat) = (N : Nat)) : n ∈ sizes ∧ N = 2 * n - 1 := by
  have hh : ∀ n ∈ List.range 9, (n ∈ sizes ∧ wid (n : Nat) = ((2 * n - 1 : Nat) : Int)) ∨ wid (n : Nat) = 0 := by decide +kernel
  rcases hh n (List.mem_range.2 (by omega)) with ⟨c1, c2⟩ | c
  · exact ⟨c1, by omega⟩
  · omega
theorem all_succ (p : Nat → Bool) (i : Nat) : (List.range (i + 1)).all p = ((List.range i).all p && p i) := by
  rw [List.range_succ, List.all_append]; simp
set_option maxRecDepth 100000 in
set_option maxHeartbeats 2000000 in
theorem mayBe_any {w : World} {v : Value} {T : List Nd} (h : Trd w v T) (hT : Tab w) :
    Calls Tryz.prog 109 #[.agg #[v]] w fun e w' => e = .returned (.bool (mayB T)) ∧ Below w.heap.size w w' := by
  obtain ⟨a, c, rfl⟩ := h.slice
  have hl := h.len
  obtain ⟨w0, hw0⟩ : ∃ w0, w0 = bxw w (.slice a T.length c) := ⟨_, rfl⟩
  have HB : Hid (∀ W, Below w0.heap.size w0 W → W.cell? ⟨w.heap.size, 0, none⟩ = some (.slice a T.length c) ∧ Below w.heap.size w W) := fun W hW => by subst hw0; exact ⟨bx_cell hW, bx_bel hW⟩
  have b0 : Below w.heap.size w w0 := by rw [hw0]; exact bwA _ _
  have KL := hide (leaves_any a T.length c w0 hl)
  have HW : Hid (w0 = w.alloc (.cells #[.slice a T.length c] 44)) := hw0
  obtain ⟨r, hr⟩ : ∃ r, r = mayB T := ⟨_, rfl⟩
  rw [← hr]
  have KW : Hid (∀ W, Calls Tryz.prog 140 #[.int .i64 (nlv T : Nat)] W fun e w' => e = .returned (.int .i64 (wid (nlv T : Nat))) ∧ w' = W) := fun W => width_any _ W
  have KN : Hid (Wd T → ∀ W (x : Nat), Below w.heap.size w W → x < T.length → Calls Tryz.prog 141 #[.agg #[.slice a T.length c], .int .i64 (x : Int)] W fun e w' => e = .returned (.bool (ndM T x)) ∧ Below W.heap.size W w') := fun hw W x hW hx => nodeMay_any (h.bw hW) hw (hT.bw hW) hx
  have KT : Hid (T.length ≤ 15 → ∀ W, Below w.heap.size w W → Calls Tryz.prog 142 #[.agg #[.slice a T.length c]] W fun e w' => e = .returned (.bool (decide (¬ (mems T).Nodup))) ∧ Below W.heap.size W w') := fun hs W hW => twice_any (h.bw hW) hs
  have KA : Hid (T.length ≤ 15 → ∀ W, Below w.heap.size w W → Calls Tryz.prog 143 #[.agg #[.slice a T.length c], .int .i64 ((nlv T / 2 : Nat) : Int), .int .i64 (nlv T : Nat)] W fun e w' => e = .returned (.bool (anyM T (nlv T / 2) (nlv T))) ∧ Below W.heap.size W w') := fun hs W hW => anyMember_any (h.bw hW) hs _ _ (by omega) (Nat.le_refl _)
  have hnl : nlv T = (T.length + 1) / 2 := rfl
  have hlI : (T.length : Int) ≤ 140737488355328 := by omega
  rw [← hnl] at KL
  have HD : Hid (r = mayB T) := hr
  by_cases e0 : T.length = 0
  · obtain rfl : r = true := by
      rw [hr]; obtain rfl := List.eq_nil_of_length_eq_zero e0; rfl
    rw [e0] at *
    have hz := bx_bel (w := w) (v := .slice a 0 c) (Below.refl _ _)
    clear h hl hw0 hnl hr KL KW KN KT KA HD HB
    go_enter Tryz.func109, Tryz.ntmps109
    go_wp2
    go_ret
    exact ⟨rfl, bwA _ _⟩
  · have e1 : ((T.length : Int) == 0) = false := beq_false_of_ne (by omega)
    have e2 : decide ((T.length : Int) = 0) = false := decide_eq_false (by omega)
    have HE : Hid (r = (decide (nlv T ≤ 8) && decide (wid (nlv T : Nat) = (T.length : Nat)) && (List.range T.length).all (ndM T) && decide (mems T).Nodup && anyM T (nlv T / 2) (nlv T))) := by
      unfold Hid; rw [hr]; unfold mayB
      have : T.isEmpty = false := by cases T <;> simp_all
      rw [this]; simp
    have HS : Hid (nlv T ≤ 8 → wid (nlv T : Nat) = (T.length : Nat) → Wd T ∧ T.length ≤ 15) := fun q1 q2 => by
      obtain ⟨s1, s2⟩ := wid_small q1 (by omega) q2
      exact ⟨⟨nlv T, s1, s2⟩, by omega⟩
    generalize hn : nlv T = n at *
    have hn1 : (n : Int) ≤ 140737488355328 := by omega
    generalize hN : T.length = N at *
    have hNn : 0 < N := by omega
    clear h hl hw0 hnl hr HD e0 hn hN
    go_enter Tryz.func109, Tryz.ntmps109
    go_wp2_with fail
    rw [← unhide HW]
    refine (unhide KL).mono ?_
    rintro e w1 ⟨rfl, b1⟩
    clear KL HW
    obtain ⟨c1, hbw⟩ := unhide HB _ b1
    by_cases g1 : n ≤ 8
    · have g2 : decide ((8 : Int) < (n : Int)) = false := decide_eq_false (by omega)
      have KW2 := fun m => unhide KW (w1.drewN m)
      have HS2 := hide (unhide HS g1)
      obtain ⟨wd, hwd⟩ : ∃ wd, wd = wid (n : Int) := ⟨_, rfl⟩
      rw [← hwd] at KW2 HE HS2
      clear hwd KW HS
      by_cases g3 : wd = (N : Int)
      · subst g3
        obtain ⟨hw, h15⟩ := unhide HS2 rfl
        have KN2 := hide (unhide KN hw)
        have KT2 := hide (unhide KT h15)
        have KA2 := hide (unhide KA h15)
        have HE2 : Hid (r = ((List.range N).all (ndM T) && (decide (mems T).Nodup && anyM T (n / 2) n))) := by
          unfold Hid; rw [unhide HE, decide_eq_true g1]; simp [Bool.and_assoc]
        have g4 : ((N : Int) != (N : Int)) = false := by simp
        clear KN KT KA HS2 HE hw
        go_wp2_with fail
        go_quiet (first | (go_at_call 140; exact Calls.quiet_of_same (KW2 _)))
        have b2 : Below w0.heap.size w0 (w1.drewN nq) := bw_tr b1 (below_drewN (Below.refl _ _) _)
        clear KW2
        generalize w1.drewN nq = w2 at *
        obtain ⟨c2, hbw2⟩ := unhide HB _ b2
        clear c1 hbw b1
        go_wp2_with fail
        go_loopw [24] (fun iv wr => ∃ i : Nat, iv = .int .i64 (i : Int) ∧ i ≤ N ∧ Hid ((List.range i).all (ndM T) = true) ∧ Below w0.heap.size w0 wr) (fun iv _ => (N - (intOf iv)).toNat)
        case atStart => exact ⟨0, rfl, by omega, rfl, b2⟩
        case round =>
          obtain ⟨i, rfl, hin, hall, hbel⟩ := hrel
          obtain ⟨c3, hbw3⟩ := unhide HB _ hbel
          clear c2 hbw2 b2
          by_cases hlt : i < N
          · have q1 : (i : Int) < (N : Int) := by omega
            have K := unhide KN2 wr i hbw3 hlt
            have HA : Hid ((List.range (i + 1)).all (ndM T) = ndM T i) := by unfold Hid; rw [all_succ, unhide hall]; rfl
            have HF : Hid (ndM T i = false → r = false) := fun q => by
              rw [unhide HE2]
              have : (List.range N).all (ndM T) = false := by
                rw [List.all_eq_false]; exact ⟨i, List.mem_range.2 hlt, by simp [q]⟩
              rw [this]; rfl
            generalize ndM T i = p at *
            go_wp2_with fail
            refine K.mono ?_
            rintro e w4 ⟨rfl, b4⟩
            have hbel4 := bw_tr hbel b4
            cases p
            · obtain rfl := unhide HF rfl
              clear HF
              go_wp2_with fail
              go_ret
              exact ⟨rfl, (unhide HB _ hbel4).2⟩
            · clear HF K
              go_wp2_with fail
              go_roundw
              case rel => exact ⟨i + 1, by go_num, by omega, HA, hbel4⟩
              case measure => simp [intOf]; omega
          · obtain rfl : i = N := by omega
            have HE3 : Hid (r = (decide (mems T).Nodup && anyM T (n / 2) n)) := by unfold Hid; rw [unhide HE2, unhide hall]; rfl
            have K := unhide KT2 wr hbw3
            have hn2 : (n : Int) / 2 = ((n / 2 : Nat) : Int) := by omega
            have hn8 : (n : Int) ≤ 8 := by omega
            have KA3 : Hid (∀ W, Below w0.heap.size w0 W → Calls Tryz.prog 143 #[.agg #[.slice a i c], .int .i64 ((n / 2 : Nat) : Int), .int .i64 (n : Nat)] W fun e w' => e = .returned (.bool (anyM T (n / 2) n)) ∧ Below W.heap.size W w') := fun W hW => unhide KA2 W (unhide HB _ hW).2
            obtain ⟨n2, hn3⟩ : ∃ n2, n2 = n / 2 := ⟨_, rfl⟩
            rw [← hn3] at KA3 HE3 hn2
            clear KA2 KT2 KN2 HE2 hn3
            by_cases hd : (mems T).Nodup
            · have e9 : decide (¬ (mems T).Nodup) = false := by simp [hd]
              rw [e9] at K
              obtain rfl : r = anyM T n2 n := by rw [unhide HE3, decide_eq_true hd]; rfl
              clear HE3 e9 hd
              go_wp2_with fail
              refine K.mono ?_
              rintro e w4 ⟨rfl, b4⟩
              have hbel4 := bw_tr hbel b4
              obtain ⟨c4, hbw4⟩ := unhide HB _ hbel4
              have K5 := unhide KA3 _ hbel4
              clear K KA3
              go_wp2_with fail
              refine K5.mono ?_
              rintro e w5 ⟨rfl, b5⟩
              go_wp2
              go_ret
              exact ⟨rfl, bw_tr hbw4 b5⟩
            · have e9 : decide (¬ (mems T).Nodup) = true := by simp [hd]
              rw [e9] at K
              obtain rfl : r = false := by rw [unhide HE3, decide_eq_false hd]; rfl
              clear HE3 e9 hd
              go_wp2_with fail
              refine K.mono ?_
              rintro e w4 ⟨rfl, b4⟩
              have hbel4 := bw_tr hbel b4
              obtain ⟨c4, hbw4⟩ := unhide HB _ hbel4
              go_wp2
              go_ret
              exact ⟨rfl, hbw4⟩
      · have g4 : (wd != (N : Int)) = true := by simp [g3]
        have g5 : decide (wd = (N : Int)) = false := decide_eq_false g3
        obtain rfl : r = false := by rw [unhide HE, g5]; simp
        clear HE HS2 KN KT KA g3
        go_wp2_with fail
        go_quiet (first | (go_at_call 140; exact Calls.quiet_of_same (KW2 _)))
        go_wp2
        go_ret
        exact ⟨rfl, bw_tr hbw (below_drewN (Below.refl _ _) _)⟩
    · have g2 : (8 : Int) < (n : Int) := by omega
      obtain rfl : r = false := by rw [unhide HE, decide_eq_false g1]; simp
      go_wp2_with fail
      go_quiet (fail)
      go_wp2
      go_ret
      exact ⟨rfl, bw_tr hbw (below_drewN (Below.refl _ _) _)⟩
end Go.Proofs.YtpcpcgagiapinaaGreatDoor

/- The contracts of Check, Size, Members and Find. -/
namespace Go.Proofs.YtpcpcgagiapinaaGreatDoor
open Go.RowKit Go.Maps
theorem mayB_wd {T : List Nd} (h : mayB T = true) : T = [] ∨ Wd T := by
  unfold mayB at h
  simp only [Bool.or_eq_true, Bool.and_eq_true, decide_eq_true_eq] at h
  rcases h with h | h
  · exact Or.inl (List.isEmpty_iff.1 h)
  · rcases Nat.eq_zero_or_pos T.length with h0 | h0
    · exact Or.inl (List.eq_nil_of_length_eq_zero h0)
    · obtain ⟨s1, s2⟩ := wid_small h.1.1.1.1 h0 h.1.1.1.2
      exact Or.inr ⟨nlv T, s1, s2⟩
theorem mayB_15 {T : List Nd} (h : mayB T = true) : T.length ≤ 15 ∧ nlv T ≤ 8 := by
  rcases mayB_wd h with rfl | h
  · exact ⟨by simp, by simp [nlv]⟩
  · exact ⟨h.facts.2.2.1, h.facts.2.2.2.1⟩
set_option maxHeartbeats 1000000 in
theorem check_any {w : World} {v : Value} {T : List Nd} (h : Trd w v T) (hT : Tab w) :
    Calls Tryz.prog 90 #[.agg #[v]] w fun e w' => e = .returned (.int .i64 (if mayB T = true then 0 else 1)) ∧ Below w.heap.size w w' := by
  have K := mayBe_any (h.bw (bwA w (.cells #[v] 44))) (hT.bw (bwA _ _))
  generalize mayB T = r at *
  clear h hT
  go_enter Tryz.func90, Tryz.ntmps90
  go_wp2_with fail
  refine K.mono ?_
  rintro e w1 ⟨rfl, b1⟩
  cases r
  · go_wp2
    go_ret
    exact ⟨rfl, bx_bel b1⟩
  · go_wp2
    go_ret
    exact ⟨rfl, bx_bel b1⟩
set_option maxHeartbeats 1000000 in
theorem size_any {w : World} {v : Value} {T : List Nd} (h : Trd w v T) (hT : Tab w) :
    Calls Tryz.prog 93 #[.agg #[v]] w fun e w' => e = .returned (.int .i64 (if mayB T = true then (nlv T : Nat) else 0)) ∧ Below w.heap.size w w' := by
  have K := mayBe_any (h.bw (bwA w (.cells #[v] 44))) (hT.bw (bwA _ _))
  obtain ⟨a, c, rfl⟩ := h.slice
  have KL : ∀ W, _ := fun W => leaves_any a T.length c W h.len
  have hnl : nlv T = (T.length + 1) / 2 := rfl
  rw [← hnl] at KL
  generalize mayB T = r at *
  clear h hT hnl
  generalize T.length = N at *
  go_enter Tryz.func93, Tryz.ntmps93
  go_wp2_with fail
  refine K.mono ?_
  rintro e w1 ⟨rfl, b1⟩
  have c1 := bx_cell b1
  cases r
  · go_wp2
    go_ret
    exact ⟨rfl, bx_bel b1⟩
  · go_wp2_with fail
    refine (KL _).mono ?_
    rintro e w2 ⟨rfl, b2⟩
    go_wp2
    go_ret
    exact ⟨rfl, bw_tr (bx_bel b1) b2⟩
end Go.Proofs.YtpcpcgagiapinaaGreatDoor

/- Plain facts of resolutions; the append of a row that reads as numbers, as a step of a region that draws. -/
namespace Go.Proofs.YtpcpcgagiapinaaGreatDoor
open Go.RowKit Go.Maps
def Sm (T : List Nd) : Prop := ∀ y, y < T.length → (ndAt T y).un.length ≤ 8 ∧ ∀ u ∈ (ndAt T y).un, 0 ≤ u ∧ u ≤ 7
theorem unM_bounds {T : List Nd} {L : Int} : ∀ {l : List Int} {f : Int}, unM T f L l = true → l.length ≤ (L + 1 - f).toNat ∧ ∀ u ∈ l, f ≤ u ∧ u ≤ L ∧ pos (ndAt T (2 * u.toNat)) = true
  | [], _, _ => ⟨by simp, by simp⟩
  | u :: us, f, h => by
    simp only [unM, Bool.and_eq_true, decide_eq_true_eq] at h
    obtain ⟨⟨⟨h1, h2⟩, h3⟩, h4⟩ := h
    obtain ⟨i1, i2⟩ := unM_bounds h4
    refine ⟨by simp only [List.length_cons]; omega, fun z hz => ?_⟩
    rcases List.mem_cons.1 hz with rfl | hz
    · exact ⟨h1, h2, h3⟩
    · have := i2 z hz; exact ⟨by omega, this.2.1, this.2.2⟩
theorem ndM_un {T : List Nd} {x : Nat} (h : ndM T x = true) : (ndAt T x).un = [] ∨ (x % 2 = 1 ∧ 0 < (ndAt T x).pub ∧ unM T (spF (x : Nat)) (spT (x : Nat)) (ndAt T x).un = true) := by
  unfold ndM at h
  split at h
  · simp only [Bool.and_eq_true] at h; exact Or.inl (List.isEmpty_iff.1 h.2)
  · split at h
    · cases h
    · split at h
      · simp only [Bool.and_eq_true] at h; exact Or.inl (List.isEmpty_iff.1 h.2)
      · simp only [Bool.and_eq_true] at h; exact Or.inr ⟨by omega, by omega, h.2⟩
structure Ok (T : List Nd) : Prop where
  wd : Wd T
  nd : ∀ x, x < T.length → ndM T x = true
  nodup : (mems T).Nodup
  right : anyM T (nlv T / 2) (nlv T) = true
theorem mayB_ok {T : List Nd} (h : mayB T = true) : T = [] ∨ Ok T := by
  rcases mayB_wd h with c | c
  · exact Or.inl c
  · unfold mayB at h
    simp only [Bool.or_eq_true, Bool.and_eq_true, decide_eq_true_eq] at h
    rcases h with h | h
    · exact Or.inl (List.isEmpty_iff.1 h)
    · exact Or.inr ⟨c, fun x hx => List.all_eq_true.1 h.1.1.2 x (List.mem_range.2 hx), h.1.2, h.2⟩
theorem Ok.mayB {T : List Nd} (h : Ok T) : mayB T = true := by
  obtain ⟨g1, g2, g3, g4, g5⟩ := h.wd.facts
  unfold Go.Proofs.YtpcpcgagiapinaaGreatDoor.mayB
  have hw : wid (nlv T : Nat) = (T.length : Nat) := by
    have hh : ∀ n ∈ sizes, wid (n : Nat) = ((2 * n - 1 : Nat) : Int) := by decide +kernel
    rw [hh _ g1, g2]
  rw [decide_eq_true g4, decide_eq_true hw, decide_eq_true h.nodup, h.right, (List.all_eq_true.2 fun x hx => h.nd x (List.mem_range.1 hx))]
  simp
theorem Ok.sm {T : List Nd} (h : Ok T) : Sm T := by
  intro y hy
  obtain ⟨g1, g2, g3, g4, g5⟩ := h.wd.facts
  rcases ndM_un (h.nd y hy) with e | ⟨_, _, e⟩
  · rw [e]; simp
  · obtain ⟨⟨s1, s2, s3, _⟩, _⟩ := span_of g1 (show y < 2 * nlv T - 1 by omega)
    obtain ⟨i1, i2⟩ := unM_bounds e
    exact ⟨by omega, fun u hu => by have := i2 u hu; omega⟩
theorem rsF_fuel {T : List Nd} {n : Nat} (hn : n ∈ sizes) : ∀ (f g x : Nat), x < 2 * n - 1 → lvl (x : Nat) < f → lvl (x : Nat) < g → rsF f T x = rsF g T x := by
  intro f
  induction f with
  | zero => intro g x hx h1 h2; have := (span_of hn hx).2.2.1; omega
  | succ f ih =>
    intro g x hx h1 h2
    cases g with
    | zero => have := (span_of hn hx).2.2.1; omega
    | succ g =>
      unfold rsF
      by_cases hp : pos (ndAt T x) = true
      · rw [if_pos hp, if_pos hp]
      · rw [if_neg hp, if_neg hp]
        by_cases ho : x % 2 = 0
        · rw [if_pos ho, if_pos ho]
        · rw [if_neg ho, if_neg ho]
          obtain ⟨a1, a2, a3, a4, a5, a6, a7, a8, _⟩ := (span_of hn hx).2.1 (by omega)
          rw [ih g (lN x) a5 (by omega) (by omega), ih g (rN x) a6 (by omega) (by omega)]
theorem rsl_pos {T : List Nd} {x : Nat} (hp : pos (ndAt T x) = true) : rsl T x = (x : Int) :: (ndAt T x).un.map (2 * ·) := by
  unfold rsl rsF; rw [if_pos hp]
theorem rsl_leaf {T : List Nd} {x : Nat} (hp : pos (ndAt T x) = false) (ho : x % 2 = 0) : rsl T x = [] := by
  unfold rsl rsF; rw [if_neg (by simp [hp]), if_pos ho]
theorem rsl_par {T : List Nd} {n x : Nat} (hn : n ∈ sizes) (hx : x < 2 * n - 1) (hp : pos (ndAt T x) = false) (ho : x % 2 = 1) : rsl T x = rsl T (lN x) ++ rsl T (rN x) := by
  obtain ⟨a1, a2, a3, a4, a5, a6, a7, a8, _⟩ := (span_of hn hx).2.1 ho
  have h3 := (span_of hn hx).2.2.2.1
  show rsF 5 T x = rsF 5 T (lN x) ++ rsF 5 T (rN x)
  rw [rsF_fuel hn 5 4 (lN x) a5 (by omega) (by omega), rsF_fuel hn 5 4 (rN x) a6 (by omega) (by omega)]
  conv => lhs; unfold rsF
  rw [if_neg (by simp [hp]), if_neg (by omega)]
theorem node_ind {n : Nat} (hn : n ∈ sizes) {P : Nat → Prop} (h0 : ∀ x, x < 2 * n - 1 → x % 2 = 0 → P x) (h1 : ∀ x, x < 2 * n - 1 → x % 2 = 1 → P (lN x) → P (rN x) → P x) : ∀ x, x < 2 * n - 1 → P x := by
  have key : ∀ (k x : Nat), x < 2 * n - 1 → lvl (x : Nat) ≤ (k : Nat) → P x := by
    intro k
    induction k with
    | zero =>
      intro x hx hl
      have s := (span_of hn hx).2.2
      exact h0 x hx (s.2.2.1.1 (by omega))
    | succ k ih =>
      intro x hx hl
      rcases Nat.mod_two_eq_zero_or_one x with c | c
      · exact h0 x hx c
      · obtain ⟨a1, a2, a3, a4, a5, a6, a7, a8, _⟩ := (span_of hn hx).2.1 c
        exact h1 x hx c (ih _ a5 (by omega)) (ih _ a6 (by omega))
  intro x hx
  exact key 3 x hx (span_of hn hx).2.2.2.1
theorem rsl_len {T : List Nd} (hw : Wd T) (hs : Sm T) : ∀ x, x < T.length → (rsl T x).length ≤ 9 * 2 ^ (lvl (x : Nat)).toNat := by
  obtain ⟨g1, g2, g3, g4, g5⟩ := hw.facts
  rw [g2]
  have hp1 : ∀ k : Nat, 1 ≤ 2 ^ k := fun k => Nat.one_le_two_pow
  refine node_ind g1 (fun x hx ho => ?_) (fun x hx ho i1 i2 => ?_)
  · have := hp1 (lvl (x : Nat)).toNat
    cases hp : pos (ndAt T x)
    · rw [rsl_leaf hp ho]; simp
    · rw [rsl_pos hp]; have := (hs x (by omega)).1; simp; omega
  · have h1 := hp1 (lvl (x : Nat)).toNat
    cases hp : pos (ndAt T x)
    · rw [rsl_par g1 hx hp ho, List.length_append]
      obtain ⟨a1, a2, a3, a4, a5, a6, a7, a8, _⟩ := (span_of g1 hx).2.1 ho
      have l0 := (span_of g1 a5).2.2.1
      have e1 : (lvl (lN x : Nat)).toNat = (lvl (rN x : Nat)).toNat := by omega
      have e2 : (lvl (x : Nat)).toNat = (lvl (rN x : Nat)).toNat + 1 := by omega
      rw [e1] at i1
      rw [e2, Nat.pow_succ]; omega
    · rw [rsl_pos hp]; have := (hs x (by omega)).1; simp; omega
theorem rsl_72 {T : List Nd} (hw : Wd T) (hs : Sm T) {x : Nat} (hx : x < T.length) : (rsl T x).length ≤ 72 := by
  have h := rsl_len hw hs x hx
  obtain ⟨g1, g2, g3, g4, g5⟩ := hw.facts
  have h3 := (span_of g1 (show x < 2 * nlv T - 1 by omega)).2.2.2.1
  have : (2 : Nat) ^ (lvl (x : Nat)).toNat ≤ 2 ^ 3 := Nat.pow_le_pow_right (by decide) (by omega)
  omega
theorem step_join {ops : Array Oper} {o : Oper} {a : Act} {w : World} {K : Act → World → Prop} {Q : Exit → Act → World → Prop} {E : Prop}
    (hg : o.guard = none) (s x : Operand) (hop : o.op = Op.call { callee := Callee.builtin Builtin.append, args := #[s, x], argTypes := #[27, 27] })
    (base : Nat) (v u : Value) (l l' : List Int) (hs : a.eval s = v) (hown : Ints base w v l) (hx : a.eval x = u) (hu : Nums w u l') (hlen : l.length + l'.length ≤ 100000) (hbase : base ≤ w.heap.size)
    (hK : ∀ v' w', Ints base w' v' (l ++ l') → w.grownBy w' v.ownBlock → (v'.ownBlock = v.ownBlock ∨ v'.ownBlock = some w.heap.size) → K (a.put o.dst v') w') :
    if Region.wanted o (yielded ops a.tmps) = true then Oper.wp Tryz.prog o a w K Q else E := by
  have hw : Region.wanted o (yielded ops a.tmps) = true := by simp [Region.wanted, hg]
  rw [if_pos hw]
  obtain ⟨i0, hi, hz0, hz1, hz2⟩ := info_parts Tryz.infoInt
  rcases hu with ⟨rfl, a', c', rfl, hac⟩ | ⟨g, off, cap, rfl, h1, h2, hc⟩
  · cases a' with
    | some ad =>
      obtain ⟨v', w', hr, r2, r3, _, r5⟩ := run_append_own_at (P := Tryz.prog) (w := w) base 27 o.type 3 i0 (.int .i64 0) 1 8 Tryz.underlying27 hi hz0 hz1 hz2 rfl (by decide) v l.length _ hown ad 0 c' [] (by simp) (by simp) (by simp) (by unfold maxLen; simp at hlen; omega) (by simp at hlen; omega) hbase
      unfold Oper.wp
      simp [execOp, hop, resolve, invoke, builtin, hs, hx, hr, Result.andThen]
      exact hK v' w' (by simpa [Ints] using r2) r3 r5
    | none =>
    obtain rfl := hac rfl
    have hrun := run_append_owned_none (P := Tryz.prog) (w := w) base 27 o.type 3 i0 1 Tryz.underlying27 hi v l.length _ hown
    unfold Oper.wp
    simp [execOp, hop, resolve, invoke, builtin, hs, hx, hrun, Result.andThen]
    exact hK v w (by simpa using hown) (World.grownBy.refl _ _) (Or.inl rfl)
  · have ea : ∀ j, (⟨g, off, none⟩ : Addr).add j = ⟨g, off + j, none⟩ := fun j => by
      unfold Addr.add; by_cases hj : j = 0 <;> simp [hj]
    obtain ⟨v', w', hr, r2, r3, _, r5⟩ := run_append_own_at (P := Tryz.prog) (w := w) base 27 o.type 3 i0 (.int .i64 0) 1 8 Tryz.underlying27 hi hz0 hz1 hz2 rfl (by decide) v l.length _ hown ⟨g, off, none⟩ l'.length cap (l'.map I64) (by simp)
      (fun j y hj => by
        rw [ea]
        simp only [List.getElem?_map, Option.map_eq_some_iff] at hj
        obtain ⟨z, hz, rfl⟩ := hj
        exact hc j z hz)
      (fun y hy => by obtain ⟨z, _, rfl⟩ := List.mem_map.1 hy; rfl) (by unfold maxLen; omega) (by omega) hbase
    unfold Oper.wp
    simp [execOp, hop, resolve, invoke, builtin, hs, hx, hr, Result.andThen]
    exact hK v' w' (by simpa [Ints] using r2) r3 r5
end Go.Proofs.YtpcpcgagiapinaaGreatDoor

/- The contract of resolution, of a node that is not blank. -/
namespace Go.Proofs.YtpcpcgagiapinaaGreatDoor
open Go.RowKit Go.Maps
set_option maxRecDepth 100000 in
set_option maxHeartbeats 4000000 in
theorem resolution_pos {T : List Nd} (hw : Wd T) (hs : Sm T) (x : Nat) (hx : x < 2 * nlv T - 1) (hp : pos (ndAt T x) = true) {w : World} {v : Value} (h : Trd w v T) :
    Calls Tryz.prog 146 #[.agg #[v], .int .i64 (x : Int)] w fun e w' => ∃ r, e = .returned r ∧ Ints w.heap.size w' r (rsl T x) ∧ Below w.heap.size w w' := by
  obtain ⟨g1, g2, g3, g4, g5⟩ := hw.facts
  obtain ⟨i0, hi, hz0, hz1, hz2⟩ := info_parts Tryz.infoInt
  rw [rsl_pos hp]
  have hxT : x < T.length := by omega
  clear g1 g2 g4 g5 hw
  obtain ⟨a, c, rfl⟩ := h.slice
  obtain ⟨w0, hw0⟩ : ∃ w0, w0 = bxw w (.slice a T.length c) := ⟨_, rfl⟩
  have HB : Hid (∀ W, Below w0.heap.size w0 W → W.cell? ⟨w.heap.size, 0, none⟩ = some (.slice a T.length c) ∧ Below w.heap.size w W) := fun W hW => by subst hw0; exact ⟨bx_cell hW, bx_bel hW⟩
  have b0 : Below w.heap.size w w0 := by rw [hw0]; exact bwA _ _
  have KB := blank_any (h.bw b0) hxT
  rw [hp] at KB
  obtain ⟨-, h2⟩ := h.at
  obtain ⟨b, o, rfl, h3⟩ := h2 (by omega)
  obtain ⟨u, k1, k2⟩ := h3 w (Below.refl _ _) x hxT
  have hB : b < w.heap.size := lt_of_cell k1.c3
  have HU : Hid (∀ W, Below w.heap.size w W → W.cell? ⟨b, o + x * 4 + 3, none⟩ = some u) := fun W hW => (k1.bw hB hW).c3
  obtain ⟨au, cu, rfl⟩ := nums_slice k2
  obtain ⟨s1, s2⟩ := hs x hxT
  generalize (ndAt T x).un = l at *
  have HL : Hid (∀ i z, l[i]? = some z → 0 ≤ z ∧ z ≤ 7 ∧ ∃ g o', au = some ⟨g, o', none⟩ ∧ ∀ W, Below w.heap.size w W → W.cell? ⟨g, o' + i, none⟩ = some (.int .i64 z)) := fun i z hz => by
    have hm := s2 z (List.mem_of_getElem? hz)
    refine ⟨hm.1, hm.2, ?_⟩
    obtain ⟨g, o', cap, e, hc⟩ := k2.open (by have := (List.getElem?_eq_some_iff.1 hz).1; omega)
    cases e
    refine ⟨g, o', rfl, fun W hW => ?_⟩
    have hcc := hc i z hz
    rw [hW.cell (p := ⟨g, o' + i, none⟩) (lt_of_cell (a := ⟨g, o' + i, none⟩) hcc)]; exact hcc
  have HW : Hid (w0 = w.alloc (.cells #[.slice (some ⟨b, o, none⟩) T.length c] 44)) := hw0
  have hx1 : (x : Int) < (T.length : Int) := by omega
  have hx2 : (0 : Int) ≤ (x : Int) := by omega
  have hx3 : (x : Int) ≤ 15 := by omega
  clear h h2 h3 k1 k2 hw0 hp hx s2
  obtain ⟨M, hM⟩ : ∃ M, M = l.length := ⟨_, rfl⟩
  rw [← hM] at HU s1
  have HM := hide hM
  clear hM
  have g3' : (T.length : Int) ≤ 15 := by omega
  generalize T.length = N at *
  go_enter Tryz.func146, Tryz.ntmps146
  go_wp2_with fail
  rw [← unhide HW]
  refine KB.mono ?_
  rintro e w1 ⟨rfl, b1⟩
  obtain ⟨c1, hbw⟩ := unhide HB _ b1
  have hbw2 : Below w.heap.size w (w1.alloc (.cells #[.int .i64 (x : Int)] 3)) := hbw.alloc hbw.size _
  have c2 := unhide HU _ hbw2
  have c3 := (unhide HB _ (b1.alloc b1.size (.cells #[.int .i64 (x : Int)] 3))).1
  clear KB
  go_wp2_with fail
  go_loopw [5, 25] (fun lv iv wr => ∃ i : Nat, iv = .int .i64 (i : Int) ∧ i ≤ M ∧ Ints w0.heap.size wr lv ((x : Int) :: (l.take i).map (2 * ·)) ∧ Below w0.heap.size w0 wr) (fun _ iv _ => (M - (intOf iv)).toNat)
  case atStart => exact ⟨0, rfl, by omega, (one_own w1 (x : Int)).mono b1.size, b1.alloc b1.size _⟩
  case round =>
    clear c1 c2 c3 hbw hbw2 b1
    obtain ⟨i, rfl, hin, hown, hbel⟩ := hrel
    obtain ⟨c1, hbw⟩ := unhide HB _ hbel
    by_cases hlt : i < M
    · obtain ⟨z, hz⟩ : ∃ z, l[i]? = some z := ⟨_, List.getElem?_eq_getElem (by have := unhide HM; omega)⟩
      obtain ⟨z0, z7, g, o', rfl, hc⟩ := unhide HL i z hz
      have c2 := hc _ hbw
      have q1 : (i : Int) < (M : Int) := by omega
      have q0 : (0 : Int) ≤ (i : Int) := by omega
      have hsn : Hid ((x : Int) :: (l.take (i + 1)).map (2 * ·) = ((x : Int) :: (l.take i).map (2 * ·)) ++ [2 * z]) := by
        unfold Hid; rw [List.take_add_one, hz]; simp
      have hlen : ((x : Int) :: (l.take i).map (2 * ·)).length ≤ 9 := by simp; omega
      generalize (x : Int) :: (l.take i).map (2 * ·) = cur at *
      have hsz := hbel.size
      clear hz hc
      go_wp2_with (at_builtin; refine wpList_append_own _ rfl (.tmp 29) (.tmp 32) 27 rfl w0.heap.size 3 i0 (.int .i64 0) 1 8 Tryz.underlying27 hi hz0 hz1 hz2 rfl (by decide) _ cur.length _ rfl (World.ownsRow.alloc hown _) ⟨wr.heap.size, 0, none⟩ 1 1 [_] rfl rfl (cell_one_new _ _ _) ?c2 ?c3 ?c4 ?c5 ?nx)
      case c2 => intro u hu; simp at hu; subst hu; rfl
      case c3 => unfold maxLen; omega
      case c4 => omega
      case c5 => simp; omega
      case nx =>
        intro v' w3 hown' hgrow _
        obtain ⟨R1, R2⟩ := ints_snoc (2 * z) hbel hown hown' hgrow
        clear hown' hgrow
        go_wp2_with fail
        go_roundw
        case rel => exact ⟨i + 1, by go_num, by omega, by rw [unhide hsn]; exact R1, R2⟩
        case measure => simp [intOf]; omega
    · have hie : i = M := by omega
      have e : l.take i = l := List.take_of_length_le (by have := unhide HM; omega)
      rw [e] at hown
      subst hie
      have hs0 := b0.size
      go_wp2_with fail
      go_ret
      exact ⟨_, rfl, hown.mono hs0, hbw⟩
end Go.Proofs.YtpcpcgagiapinaaGreatDoor

/- The contract of resolution: it calls itself. -/
namespace Go.Proofs.YtpcpcgagiapinaaGreatDoor
open Go.RowKit Go.Maps
set_option maxRecDepth 100000 in
set_option maxHeartbeats 4000000 in
theorem resolution_at {T : List Nd} (hw : Wd T) (hs : Sm T) : ∀ (x : Nat), x < 2 * nlv T - 1 → ∀ {w : World} {v : Value}, Trd w v T → Tab w →
    Calls Tryz.prog 146 #[.agg #[v], .int .i64 (x : Int)] w fun e w' => ∃ r, e = .returned r ∧ Ints w.heap.size w' r (rsl T x) ∧ Below w.heap.size w w' := by
  obtain ⟨g1, g2, g3, g4, g5⟩ := hw.facts
  refine node_ind g1 (fun x hx ho => ?_) (fun x hx ho i1 i2 => ?_)
  · cases hp : pos (ndAt T x)
    · intro w v h hT
      rw [rsl_leaf hp ho]
      obtain ⟨w0, hw0⟩ : ∃ w0, w0 = bxw w v := ⟨_, rfl⟩
      have b0 : Below w.heap.size w w0 := by rw [hw0]; exact bwA _ _
      have KB := blank_any (h.bw b0) (show x < T.length by omega)
      rw [hp] at KB
      have KL : ∀ W, Below w.heap.size w W → _ := fun W hW => left_any (x : Int) W (by omega) (hT.bw hW)
      have hlf : lfB (x : Nat) = false := by rw [(span_of g1 hx).2.2.2.2.2]; simp; omega
      rw [hlf] at KL
      have HW : Hid (w0 = w.alloc (.cells #[v] 44)) := hw0
      clear h hT hw0
      clear g1 g2 g3 g4 g5
      go_enter Tryz.func146, Tryz.ntmps146
      go_wp2_with fail
      rw [← unhide HW]
      refine KB.mono ?_
      rintro e w1 ⟨rfl, b1⟩
      have b2 := bw_tr b0 b1
      have KL2 := KL _ b2
      clear KL KB
      go_wp2_with fail
      refine KL2.mono ?_
      rintro e w1 ⟨rfl, rfl⟩
      go_wp2
      go_ret
      exact ⟨_, rfl, ints_nil _ _, b2⟩
    · intro w v h hT; exact resolution_pos hw hs x hx hp h
  · cases hp : pos (ndAt T x)
    · intro w v h hT
      rw [rsl_par g1 hx hp ho]
      obtain ⟨a1, a2, a3, a4, a5, a6, a7, a8, _⟩ := (span_of g1 hx).2.1 ho
      have hl1 := rsl_72 hw hs (show lN x < T.length by omega)
      have hl2 := rsl_72 hw hs (show rN x < T.length by omega)
      obtain ⟨w0, hw0⟩ : ∃ w0, w0 = bxw w v := ⟨_, rfl⟩
      have b0 : Below w.heap.size w w0 := by rw [hw0]; exact bwA _ _
      have KB := blank_any (h.bw b0) (show x < T.length by omega)
      rw [hp] at KB
      have KL : ∀ W, Below w.heap.size w W → _ := fun W hW => left_any (x : Int) W (by omega) (hT.bw hW)
      have KR : ∀ W, Below w.heap.size w W → _ := fun W hW => right_any (x : Int) W (by omega) (hT.bw hW)
      rw [a1, a3] at KL
      rw [a2, a4] at KR
      have HB : Hid (∀ W, Below w0.heap.size w0 W → W.cell? ⟨w.heap.size, 0, none⟩ = some v ∧ Below w.heap.size w W) := fun W hW => by subst hw0; exact ⟨bx_cell hW, bx_bel hW⟩
      have HC : Hid (∀ W, Below w.heap.size w W → Trd W v T ∧ Tab W) := fun W hW => ⟨h.bw hW, hT.bw hW⟩
      have HW : Hid (w0 = w.alloc (.cells #[v] 44)) := hw0
      clear h hT hw0
      clear g1 g2 g3 g4 g5
      have I1 : Hid (∀ W, Below w0.heap.size w0 W → Calls Tryz.prog 146 #[.agg #[v], .int .i64 (lN x : Nat)] W fun e w' => ∃ r, e = .returned r ∧ Ints W.heap.size w' r (rsl T (lN x)) ∧ Below W.heap.size W w') := fun W hW => i1 (unhide HC _ (unhide HB _ hW).2).1 (unhide HC _ (unhide HB _ hW).2).2
      have I2 : Hid (∀ W, Below w0.heap.size w0 W → Calls Tryz.prog 146 #[.agg #[v], .int .i64 (rN x : Nat)] W fun e w' => ∃ r, e = .returned r ∧ Ints W.heap.size w' r (rsl T (rN x)) ∧ Below W.heap.size W w') := fun W hW => i2 (unhide HC _ (unhide HB _ hW).2).1 (unhide HC _ (unhide HB _ hW).2).2
      generalize rsl T (lN x) = L1 at *
      generalize rsl T (rN x) = L2 at *
      generalize ((lN x : Nat) : Int) = y1 at *
      generalize ((rN x : Nat) : Int) = y2 at *
      clear i1 i2 a1 a2 a3 a4 a5 a6 a7 a8 HC hw hs
      go_enter Tryz.func146, Tryz.ntmps146
      go_wp2_with fail
      rw [← unhide HW]
      refine KB.mono ?_
      rintro e w1 ⟨rfl, b1⟩
      obtain ⟨c1, hbw⟩ := unhide HB _ b1
      have KL2 := KL _ hbw
      have KR2 := KR _ hbw
      clear KL KB KR
      go_wp2_with fail
      refine KL2.mono ?_
      rintro e w1 ⟨rfl, rfl⟩
      go_wp2_with fail
      refine KR2.mono ?_
      rintro e w1 ⟨rfl, rfl⟩
      clear KL2 KR2
      have HL12 : L1.length + L2.length ≤ 100000 := by omega
      clear hl1 hl2
      have bd : Below w0.heap.size w0 w1.drew := b1.drew
      have J1 := unhide I1 _ bd
      have S0 := (unhide HB _ bd).1
      have hs0 := b0.size
      go_wp2_with fail
      go_region_held3 (fun w' : World => w'.cell? ⟨w.heap.size, 0, none⟩ = some v) (first | with_reducible exact S0 | with_reducible exact S1 | with_reducible exact S2 | with_reducible exact S3) (first
        | (go_at_call_of 146 (Value.int IntKind.i64 y2); refine J2.mono ?_; rintro e z2 ⟨r2, rfl, R2', b3⟩; have b4 := bw_tr b2 b3; have S2 := (unhide HB _ b4).1; have R1 := R1'.bw b3; have R2 := R2'.nums; have hl12 := HL12; have hsz2 := b4.size)
        | (go_at_call_of 146 (Value.int IntKind.i64 y1); refine J1.mono ?_; rintro e z1 ⟨r1, rfl, R1'', b1'⟩; have b2 := bw_tr bd b1'; have R1' := R1''.mono bd.size; have S1 := (unhide HB _ b2).1; have J2 := unhide I2 _ b2)
        | (refine step_join rfl (.tmp 50) (.tmp 53) rfl w0.heap.size r1 r2 L1 L2 (by simp [Act.eval]) R1 (by simp [Act.eval]) R2 hl12 hsz2 ?_; intro r3 z3 R3 hg3 _; have b5 := (b4.grown hg3 (by exact b4.size) (fun k hk => (World.ownsRow.lt R1 k hk).1)); have S3 := (unhide HB _ b5).1))
      all_goals
        go_wp2_with fail
        go_ret
        exact ⟨_, rfl, R3.mono hs0, bw_tr b0 b5⟩
    · intro w v h hT; exact resolution_pos hw hs x hx hp h
end Go.Proofs.YtpcpcgagiapinaaGreatDoor

/- Rows of rows of numbers, of one's own; plain facts of ways up. No walk is in this text. -/
namespace Go.Proofs.YtpcpcgagiapinaaGreatDoor
open Go.RowKit Go.Maps
structure RR (B : Nat) (w : World) (v : Value) (ls : List (List Int)) (us : List Value) : Prop where
  ul : us.length = ls.length
  row : w.ownsRow B 27 1 v ls.length us
  un : ∀ (i : Nat) (l : List Int) (u : Value), ls[i]? = some l → us[i]? = some u → Ints B w u l
  apart : ∀ (i j : Nat) (u u' : Value) (k : Nat), us[i]? = some u → us[j]? = some u' → u.ownBlock = some k → u'.ownBlock = some k → i = j
def rrB (us : List Value) : List Nat := us.filterMap Value.ownBlock
theorem mem_rrB {us : List Value} {k : Nat} : k ∈ rrB us ↔ ∃ (i : Nat) (u : Value), us[i]? = some u ∧ u.ownBlock = some k := by
  unfold rrB
  rw [List.mem_filterMap]
  constructor
  · rintro ⟨u, hu, hk⟩
    obtain ⟨i, hi⟩ := List.mem_iff_getElem?.1 hu
    exact ⟨i, u, hi, hk⟩
  · rintro ⟨i, u, hu, hk⟩
    exact ⟨u, List.mem_of_getElem? hu, hk⟩
theorem RR.pick {B : Nat} {w : World} {v : Value} {ls : List (List Int)} {us : List Value} (h : RR B w v ls us) {i : Nat} {u : Value} (hu : us[i]? = some u) : ∃ l, ls[i]? = some l ∧ Ints B w u l := by
  have hlt : i < ls.length := by rw [← h.ul]; exact (List.getElem?_eq_some_iff.1 hu).1
  exact ⟨ls[i], List.getElem?_eq_getElem hlt, h.un i _ u (List.getElem?_eq_getElem hlt) hu⟩
theorem RR.lt {B : Nat} {w : World} {v : Value} {ls : List (List Int)} {us : List Value} (h : RR B w v ls us) {k : Nat} (hk : k ∈ rrB us) : B ≤ k ∧ k < w.heap.size := by
  obtain ⟨i, u, hu, hk⟩ := mem_rrB.1 hk
  obtain ⟨l, _, hl⟩ := h.pick hu
  exact World.ownsRow.lt hl k hk
theorem RR.keep {B : Nat} {w w' : World} {v : Value} {ls : List (List Int)} {us : List Value} (h : RR B w v ls us) {S : List Nat} (hf : Fr S w w') (h1 : ∀ k, v.ownBlock = some k → k ∉ S) (h2 : ∀ k ∈ rrB us, k ∉ S) : RR B w' v ls us :=
  ⟨h.ul, own_keep h.row (fun k hk => hf.block k (World.ownsRow.lt h.row k hk).2 (h1 k hk)), fun i l u hl hu => own_keep (h.un i l u hl hu) (fun k hk => hf.block k (World.ownsRow.lt (h.un i l u hl hu) k hk).2 (h2 k (mem_rrB.2 ⟨i, u, hu, hk⟩))), h.apart⟩
theorem RR.bw {B : Nat} {w w' : World} {v : Value} {ls : List (List Int)} {us : List Value} (h : RR B w v ls us) (hb : Below w.heap.size w w') : RR B w' v ls us := h.keep (Fr.ofBelow hb) (by simp) (by simp)
theorem rr_nil (B : Nat) (w : World) : RR B w (.slice none 0 0) [] [] := ⟨rfl, World.ownsRow_nil _ _ _ _, fun i n u h => by simp at h, fun i j u u' k h => by simp at h⟩
theorem infoInts : (Tryz.prog.info? 27).map (fun i => (i.zero, i.size, i.bytes)) = some (some (.slice none 0 0), 1, 24) := by kernel_rfl
theorem RR.push {B : Nat} {w w' : World} {v v' : Value} {ls : List (List Int)} {us : List Value} {u : Value} {l : List Int} (h : RR B w v ls us) (hu : Ints B w u l) (hn : ∀ k, u.ownBlock = some k → k ∉ rrB us)
    (hr : w'.ownsRow B 27 1 v' (ls.length + 1) (us ++ [u])) (hg : w.grownBy w' v.ownBlock) : RR B w' v' (ls ++ [l]) (us ++ [u]) := by
  have hf : Fr v.ownBlock.toList w w' := Fr.ofGrown hg
  have hne : ∀ (x : Value) (m : List Int), Ints B w x m → ∀ k, x.ownBlock = some k → k ∉ v.ownBlock.toList := fun x m hx k hk c => by
    have c : v.ownBlock = some k := by simpa using c
    exact own_apart hx h.row (show (3 : Nat) ≠ 27 by decide) hk c
  have kp : ∀ (x : Value) (m : List Int), Ints B w x m → Ints B w' x m := fun x m hx => own_keep hx (fun k hk => hf.block k (World.ownsRow.lt hx k hk).2 (hne x m hx k hk))
  refine ⟨by simp [h.ul], by simpa using hr, ?_, ?_⟩
  · intro i l' u' hl hu'
    rcases Nat.lt_or_ge i ls.length with c | c
    · rw [List.getElem?_append_left c] at hl
      rw [List.getElem?_append_left (by rw [h.ul]; exact c)] at hu'
      exact kp _ _ (h.un i l' u' hl hu')
    · rw [List.getElem?_append_right c] at hl
      rw [List.getElem?_append_right (by rw [h.ul]; exact c)] at hu'
      have e : i - ls.length = 0 := by
        have := (List.getElem?_eq_some_iff.1 hl).1; simpa using this
      rw [e] at hl
      rw [h.ul, e] at hu'
      simp at hl hu'
      subst hl hu'
      exact kp _ _ hu
  · intro i j u1 u2 k h1 h2 hk1 hk2
    have cs : ∀ i (x : Value), (us ++ [u])[i]? = some x → (us[i]? = some x) ∨ (i = us.length ∧ x = u) := fun i x hx => by
      rcases Nat.lt_or_ge i us.length with c | c
      · rw [List.getElem?_append_left c] at hx; exact Or.inl hx
      · rw [List.getElem?_append_right c] at hx
        have e : i - us.length = 0 := by have := (List.getElem?_eq_some_iff.1 hx).1; simpa using this
        rw [e] at hx; simp at hx; exact Or.inr ⟨by omega, hx.symm⟩
    rcases cs i u1 h1 with c1 | ⟨c1, rfl⟩ <;> rcases cs j u2 h2 with c2 | ⟨c2, rfl⟩
    · exact h.apart i j u1 u2 k c1 c2 hk1 hk2
    · exact absurd (mem_rrB.2 ⟨i, u1, c1, hk1⟩) (hn k hk2)
    · exact absurd (mem_rrB.2 ⟨j, u2, c2, hk2⟩) (hn k hk1)
    · omega
theorem up_of {n i : Nat} (hn : n ∈ sizes) (hi : i < n) : dir ((2 * i : Nat) : Int) (n : Nat) = (upN n i).map (fun (x : Nat) => (x : Int)) ∧ cop ((2 * i : Nat) : Int) (n : Nat) = (sdN n i).map (fun (x : Nat) => (x : Int)) ∧ (upN n i).length = (sdN n i).length ∧ (upN n i).Nodup ∧ (∀ x ∈ upN n i, x < 2 * n - 1 ∧ x % 2 = 1) ∧ (∀ x ∈ sdN n i, x < 2 * n - 1) := by
  have h := List.all_eq_true.1 fin_up n hn
  have h := List.all_eq_true.1 h i (List.mem_range.2 hi)
  simp only [Bool.and_eq_true, decide_eq_true_eq, List.all_eq_true] at h
  obtain ⟨⟨⟨⟨⟨h1, h2⟩, h3⟩, h4⟩, h5⟩, h6⟩ := h
  exact ⟨h1, h2, h3, h4, h5, h6⟩
theorem fin_len : (sizes.all fun n => (List.range n).all fun i => decide ((upN n i).length ≤ 3)) = true := by decide +kernel
theorem up_len {n i : Nat} (hn : n ∈ sizes) (hi : i < n) : (upN n i).length ≤ 3 := by
  have h := List.all_eq_true.1 fin_len n hn
  have h := List.all_eq_true.1 h i (List.mem_range.2 hi)
  simpa using h
def prsL (T : List Nd) (l : List (Nat × Nat)) : List (Nat × List Int) := (l.map fun p => (p.1, rsl T p.2)).filter fun p => !p.2.isEmpty
theorem prs_eq (T : List Nd) (i : Nat) : prs T i = prsL T ((upN (nlv T) i).zip (sdN (nlv T) i)) := rfl
theorem prsL_snoc (T : List Nd) (l : List (Nat × Nat)) (p : Nat × Nat) : prsL T (l ++ [p]) = prsL T l ++ if rsl T p.2 = [] then [] else [(p.1, rsl T p.2)] := by
  unfold prsL
  rw [List.map_append, List.filter_append]
  cases h : rsl T p.2 <;> simp [h]
theorem prsL_len (T : List Nd) (l : List (Nat × Nat)) : (prsL T l).length ≤ l.length := by
  unfold prsL; exact Nat.le_trans (List.length_filter_le _ _) (by simp)
end Go.Proofs.YtpcpcgagiapinaaGreatDoor

/- The contracts of above and path. -/
namespace Go.Proofs.YtpcpcgagiapinaaGreatDoor
open Go.RowKit Go.Maps
set_option maxHeartbeats 1000000 in
theorem above_tr {w : World} {v : Value} {T : List Nd} (h : Trd w v T) (hs : T.length ≤ 15) (hT : Tab w) {i : Nat} (hi : i < nlv T) :
    Calls Tryz.prog 119 #[.agg #[v], .int .i64 (i : Int)] w fun e w' => ∃ r, e = .returned r ∧ Ints w.heap.size w' r (dir ((2 * i : Nat) : Int) (nlv T : Nat)) ∧ Below w.heap.size w w' := by
  obtain ⟨a, c, rfl⟩ := h.slice
  have KL : ∀ W, _ := fun W => leaves_any a T.length c W h.len
  have hnl : nlv T = (T.length + 1) / 2 := rfl
  rw [← hnl] at KL
  obtain ⟨x, hx⟩ : ∃ x, x = 2 * i := ⟨_, rfl⟩
  have KD : ∀ W, Below w.heap.size w W → _ := fun W hW => direct_any (x : Int) (nlv T : Nat) W (hT.bw hW)
  rw [← hx]
  have q : 2 * (i : Int) = (x : Int) := by omega
  have hi8 : (i : Int) ≤ 8 := by omega
  clear h hT hnl hx hs
  generalize nlv T = n at *
  generalize dir (x : Int) (n : Int) = L at *
  generalize T.length = N at *
  go_enter Tryz.func119, Tryz.ntmps119
  go_wp2_with fail
  refine (KL _).mono ?_
  rintro e w1 ⟨rfl, b1⟩
  have b2 := bx_bel b1
  have K2 := KD _ b2
  have hsz := b2.size
  clear KL KD
  go_wp2_with fail
  refine K2.mono ?_
  rintro e w2 ⟨r, rfl, hr, b3⟩
  go_wp2
  go_ret
  exact ⟨_, rfl, hr.mono hsz, bw_tr b2 b3⟩
theorem own_mono {B B' : Nat} {w : World} {e : TypeId} {c : Nat} {v : Value} {n : Nat} {xs : List Value} (h : w.ownsRow B e c v n xs) (hb : B' ≤ B) : w.ownsRow B' e c v n xs := by
  refine ⟨h.1, ?_⟩
  rcases h.2 with h | ⟨g, cap, cur, hv, h0, r⟩
  · exact Or.inl h
  · exact Or.inr ⟨g, cap, cur, hv, Nat.le_trans hb h0, r⟩
theorem own_alloc' {B : Nat} {w : World} {e : TypeId} {c : Nat} {v : Value} {n : Nat} {xs : List Value} (h : w.ownsRow B e c v n xs) (o : Obj) : (w.alloc o).ownsRow B e c v n xs :=
  own_keep h (fun k hk => Below.heap_alloc _ _ _ (World.ownsRow.lt h k hk).2)
structure PI (B : Nat) (w : World) (nv ov : Value) (P : List (Nat × List Int)) (us : List Value) : Prop where
  ns : Ints B w nv (P.map fun p => (p.1 : Int))
  rr : RR B w ov (P.map (·.2)) us
  ap : ∀ k, nv.ownBlock = some k → k ∉ rrB us
theorem RR.mono {B B' : Nat} {w : World} {v : Value} {ls : List (List Int)} {us : List Value} (h : RR B w v ls us) (hb : B' ≤ B) : RR B' w v ls us :=
  ⟨h.ul, own_mono h.row hb, fun i l u hl hu => (h.un i l u hl hu).mono hb, h.apart⟩
theorem PI.mono {B B' : Nat} {w : World} {nv ov : Value} {P : List (Nat × List Int)} {us : List Value} (h : PI B w nv ov P us) (hb : B' ≤ B) : PI B' w nv ov P us := ⟨h.ns.mono hb, h.rr.mono hb, h.ap⟩
theorem PI.push {B : Nat} {w w1 w2 : World} {nv ov nv' ov' : Value} {P : List (Nat × List Int)} {us : List Value} {r : Value} {L : List Int} {y : Nat} (h : PI B w nv ov P us) (hr : Ints B w r L) (hrn : ∀ k, r.ownBlock = some k → k ∉ rrB us) (hrv : ∀ k, r.ownBlock = some k → nv.ownBlock ≠ some k) {o1 o2 : Obj}
    (hn : w1.ownsRow B 3 1 nv' (P.length + 1) (P.map (fun p => I64 (p.1 : Int)) ++ [.int .i64 (y : Int)])) (hg1 : (w.alloc o1).grownBy w1 nv.ownBlock) (hp1 : nv'.ownBlock = nv.ownBlock ∨ nv'.ownBlock = some (w.alloc o1).heap.size)
    (ho : w2.ownsRow B 27 1 ov' (P.length + 1) (us ++ [r])) (hg2 : (w1.alloc o2).grownBy w2 ov.ownBlock) : PI B w2 nv' ov' (P ++ [(y, L)]) (us ++ [r]) := by
  have f1 : Fr nv.ownBlock.toList w w1 := ((Fr.refl _ w).alloc _).tr (Fr.ofGrown hg1)
  have hne : ∀ k, nv.ownBlock = some k → ov.ownBlock ≠ some k := fun k hk => own_apart h.ns h.rr.row (show (3 : Nat) ≠ 27 by decide) hk
  have rr1 : RR B w1 ov (P.map (·.2)) us := h.rr.keep f1 (fun k hk c => hne k (by simpa using c) hk) (fun k hk c => h.ap k (by simpa using c) hk)
  have r1 : Ints B w1 r L := own_keep hr (fun k hk => f1.block k (World.ownsRow.lt hr k hk).2 (fun c => hrv k hk (by simpa using c)))
  have ho' : w2.ownsRow B 27 1 ov' ((P.map (·.2)).length + 1) (us ++ [r]) := by simpa using ho
  have rr2 : RR B w2 ov' (P.map (·.2) ++ [L]) (us ++ [r]) := (rr1.bw (bwA _ o2)).push (own_alloc' r1 o2) hrn ho' hg2
  have f2 : Fr ov.ownBlock.toList w1 w2 := ((Fr.refl _ w1).alloc _).tr (Fr.ofGrown hg2)
  have hnI : Ints B w1 nv' ((P ++ [(y, L)]).map fun p => (p.1 : Int)) := by
    unfold Ints; simpa [I64, Function.comp_def] using hn
  refine ⟨own_keep hnI (fun k hk => f2.block k (World.ownsRow.lt hnI k hk).2 (fun c => own_apart hnI rr1.row (show (3 : Nat) ≠ 27 by decide) hk (by simpa using c))), by simpa using rr2, ?_⟩
  intro k hk c
  have hlt : ∀ m, m ∈ rrB (us ++ [r]) → m < w.heap.size := fun m hm => by
    unfold rrB at hm; rw [List.filterMap_append, List.mem_append] at hm
    rcases hm with hm | hm
    · exact (h.rr.lt hm).2
    · simp at hm; exact (World.ownsRow.lt hr m hm).2
  rcases hp1 with e | e
  · rw [e] at hk
    unfold rrB at c; rw [List.filterMap_append, List.mem_append] at c
    rcases c with c | c
    · exact h.ap k hk c
    · simp at c; exact hrv k c hk
  · rw [e] at hk
    have hk : (w.alloc o1).heap.size = k := by simpa using hk
    have := hlt k c
    simp at hk; omega
theorem PI.bw {B : Nat} {w w' : World} {nv ov : Value} {P : List (Nat × List Int)} {us : List Value} (h : PI B w nv ov P us) (hb : Below w.heap.size w w') : PI B w' nv ov P us := ⟨h.ns.bw hb, h.rr.bw hb, h.ap⟩
set_option maxRecDepth 100000 in
set_option maxHeartbeats 4000000 in
theorem path_any {w : World} {v : Value} {T : List Nd} (h : Trd w v T) (hw : Wd T) (hs : Sm T) (hT : Tab w) {i : Nat} (hi : i < nlv T) :
    Calls Tryz.prog 111 #[.agg #[v], .int .i64 (i : Int)] w fun e w' => ∃ nv ov us, e = .returned (.tuple #[nv, ov]) ∧ PI w.heap.size w' nv ov (prs T i) us ∧ Below w.heap.size w w' := by
  obtain ⟨g1, g2, g3, g4, g5⟩ := hw.facts
  obtain ⟨d1, d2, d3, d4, d5, d6⟩ := up_of g1 hi
  have d7 := up_len g1 hi
  obtain ⟨i0, hi0, hz0, hz1, hz2⟩ := info_parts Tryz.infoInt
  obtain ⟨j0, hj0, hy0, hy1, hy2⟩ := info_parts infoInts
  obtain ⟨a, c, rfl⟩ := h.slice
  obtain ⟨w0, hw0⟩ : ∃ w0, w0 = bxw w (.slice a T.length c) := ⟨_, rfl⟩
  have b0 : Below w.heap.size w w0 := by rw [hw0]; exact bwA _ _
  have HB : Hid (∀ W, Below w0.heap.size w0 W → W.cell? ⟨w.heap.size, 0, none⟩ = some (.slice a T.length c) ∧ Below w.heap.size w W) := fun W hW => by subst hw0; exact ⟨bx_cell hW, bx_bel hW⟩
  have KL := hide (leaves_any a T.length c w0 h.len)
  have hnl : nlv T = (T.length + 1) / 2 := rfl
  rw [← hnl] at KL
  obtain ⟨x2, hx2⟩ : ∃ x2, x2 = 2 * i := ⟨_, rfl⟩
  have KC : Hid (∀ W, Below w.heap.size w W → Calls Tryz.prog 145 #[.int .i64 (x2 : Int), .int .i64 (nlv T : Nat)] W fun e w' => ∃ v, e = .returned v ∧ Ints W.heap.size w' v ((sdN (nlv T) i).map (fun (x : Nat) => (x : Int))) ∧ Below W.heap.size W w') := fun W hW => by
    have := copath_any (x2 : Int) (nlv T : Nat) W (hT.bw hW); rw [hx2, d2] at this; rw [hx2]; exact this
  have KA : Hid (∀ W, Below w.heap.size w W → Calls Tryz.prog 119 #[.agg #[.slice a T.length c], .int .i64 (i : Int)] W fun e w' => ∃ r, e = .returned r ∧ Ints W.heap.size w' r ((upN (nlv T) i).map (fun (x : Nat) => (x : Int))) ∧ Below W.heap.size W w') := fun W hW => by
    have := above_tr (h.bw hW) g3 (hT.bw hW) hi; rw [d1] at this; exact this
  have KR : Hid (∀ W (y : Nat), y ∈ sdN (nlv T) i → Below w.heap.size w W → Calls Tryz.prog 146 #[.agg #[.slice a T.length c], .int .i64 (y : Int)] W fun e w' => ∃ r, e = .returned r ∧ Ints W.heap.size w' r (rsl T y) ∧ Below W.heap.size W w') := fun W y hy hW => resolution_at hw hs y (d6 y hy) (h.bw hW) (hT.bw hW)
  have HP : Hid (prs T i = prsL T ((upN (nlv T) i).zip (sdN (nlv T) i))) := prs_eq T i
  have HL72 : Hid (∀ y ∈ sdN (nlv T) i, (rsl T y).length ≤ 72) := fun y hy => rsl_72 hw hs (by have := d6 y hy; omega)
  have q : 2 * (i : Int) = (x2 : Int) := by omega
  have hi8 : (i : Int) ≤ 8 := by omega
  have HW : Hid (w0 = w.alloc (.cells #[.slice a T.length c] 44)) := hw0
  clear h hT hnl hx2 hw0 hw hs g1 g2 g3 g5 d1 d2 d4 d5 d6 hi
  generalize nlv T = n at *
  generalize upN n i = U at *
  generalize sdN n i = D at *
  generalize T.length = N at *
  obtain ⟨M, hM⟩ : ∃ M, M = U.length := ⟨_, rfl⟩
  have hM3 : M ≤ 3 := by omega
  have HM : Hid (M = U.length ∧ M = D.length) := ⟨hM, by omega⟩
  clear hM d3 d7
  go_enter Tryz.func111, Tryz.ntmps111
  go_wp2_with fail
  rw [← unhide HW]
  refine (unhide KL).mono ?_
  rintro e w1 ⟨rfl, b1⟩
  obtain ⟨c1, hb1⟩ := unhide HB _ b1
  clear KL HW
  go_wp2_with fail
  refine (unhide KC _ hb1).mono ?_
  rintro e w2 ⟨sv, rfl, hsv, b2⟩
  have b3 := bw_tr b1 b2
  obtain ⟨c2, hb3⟩ := unhide HB _ b3
  clear KC c1
  go_wp2_with fail
  refine (unhide KA _ hb3).mono ?_
  rintro e w3 ⟨uv, rfl, huv, b4⟩
  have b5 := bw_tr b3 b4
  have HS := hide ((hsv.nums).bw b4)
  have HU := hide (huv.nums)
  obtain ⟨ua, uc, hue⟩ := own_slice huv
  rw [List.length_map, ← (unhide HM).1] at hue
  obtain ⟨sa, sc, hse⟩ := own_slice hsv
  rw [List.length_map, ← (unhide HM).2] at hse
  subst hue hse
  have s0 := b0.size
  clear KA hsv huv c2 hb1 hb3
  go_wp2_with fail
  go_loopw [4, 5, 19] (fun nv ov iv wr => ∃ (j : Nat) (us : List Value), iv = .int .i64 (j : Int) ∧ j ≤ M ∧ Hid (PI w3.heap.size wr nv ov (prsL T ((U.zip D).take j)) us) ∧ Below w3.heap.size w3 wr) (fun _ _ iv _ => (M - (intOf iv)).toNat)
  case atStart => exact ⟨0, [], rfl, by omega, ⟨ints_nil _ _, rr_nil _ _, fun k hk => by cases hk⟩, Below.refl _ _⟩
  case round =>
    obtain ⟨j, us, rfl, hjM, hPI, hbel⟩ := hrel
    have b6 := bw_tr b5 hbel
    obtain ⟨c1, hbw⟩ := unhide HB _ b6
    by_cases hlt : j < M
    · obtain ⟨y, hy⟩ : ∃ y, U[j]? = some y := ⟨_, List.getElem?_eq_getElem (by have := (unhide HM).1; omega)⟩
      obtain ⟨z, hz⟩ : ∃ z, D[j]? = some z := ⟨_, List.getElem?_eq_getElem (by have := (unhide HM).2; omega)⟩
      obtain ⟨gu, ou, cu, hue, hcu⟩ := (unhide HU).open (by simp; have := (unhide HM).1; omega)
      obtain ⟨gs, os', cs, hse, hcs⟩ := (unhide HS).open (by simp; have := (unhide HM).2; omega)
      rw [List.length_map, ← (unhide HM).1] at hue
      rw [List.length_map, ← (unhide HM).2] at hse
      cases hue
      cases hse
      have HUc : Hid (∀ W, Below w3.heap.size w3 W → W.cell? ⟨gu, ou + j, none⟩ = some (.int .i64 (y : Int)) ∧ W.cell? ⟨gs, os' + j, none⟩ = some (.int .i64 (z : Int))) := fun W hW => by
        have k1 := hcu j (y : Int) (by simp [hy])
        have k2 := hcs j (z : Int) (by simp [hz])
        refine ⟨?_, ?_⟩
        · rw [hW.cell (p := ⟨gu, ou + j, none⟩) (lt_of_cell (a := ⟨gu, ou + j, none⟩) k1)]; exact k1
        · rw [hW.cell (p := ⟨gs, os' + j, none⟩) (lt_of_cell (a := ⟨gs, os' + j, none⟩) k2)]; exact k2
      obtain ⟨cu1, cs1⟩ := unhide HUc _ hbel
      have hzm : z ∈ D := List.mem_of_getElem? hz
      have KR2 := hide (unhide KR · z hzm)
      have hl72 := unhide HL72 z hzm
      have hsn : Hid (prsL T ((U.zip D).take (j + 1)) = prsL T ((U.zip D).take j) ++ if rsl T z = [] then [] else [(y, rsl T z)]) := by
        unfold Hid
        have e : (U.zip D)[j]? = some (y, z) := by rw [List.getElem?_zip_eq_some]; exact ⟨hy, hz⟩
        rw [List.take_add_one, e]
        exact prsL_snoc T _ (y, z)
      have hpl : (prsL T ((U.zip D).take j)).length ≤ 3 := Nat.le_trans (prsL_len T _) (by simp; omega)
      generalize prsL T ((U.zip D).take j) = P at *
      generalize rsl T z = L at *
      have q1 : (j : Int) < (M : Int) := by omega
      have q0 : (0 : Int) ≤ (j : Int) := by omega
      have hM3' : (M : Int) ≤ 3 := by omega
      clear hy hz hcu hcs hzm KR HL72
      have HR : Hid (∀ W, Below w3.heap.size w3 W → W.cell? ⟨w.heap.size, 0, none⟩ = some (.slice a N c) ∧ W.cell? ⟨gs, os' + j, none⟩ = some (.int .i64 (z : Int))) := fun W hW => ⟨(unhide HB _ (bw_tr b5 hW)).1, (unhide HUc _ hW).2⟩
      have bd : Below w3.heap.size w3 wr.drew := hbel.drew
      have J1 := unhide KR2 wr.drew hbw.drew
      have S0 := unhide HR _ bd
      generalize ((z : Nat) : Int) = zi at *
      go_upto_region 5 with fail
      go_region_held3 (fun w' : World => w'.cell? ⟨w.heap.size, 0, none⟩ = some (.slice a N c) ∧ w'.cell? ⟨gs, os' + j, none⟩ = some (.int .i64 zi)) (first | with_reducible exact S0 | with_reducible exact S1) (first
        | (go_at_call 146; refine J1.mono ?_; rintro e z1 ⟨r1, rfl, R1, b7⟩; have b8 := bw_tr bd b7; have S1 := unhide HR _ b8))
      have hPI2 := hide ((unhide hPI).bw (bw_tr (Below.refl _ _).drew b7))
      have hnew : Hid (∀ k, r1.ownBlock = some k → wr.heap.size ≤ k ∧ k < z1.heap.size) := fun k hk => World.ownsRow.lt R1 k hk
      have HO : Hid (PI w3.heap.size wr u4 u5 P us) := hPI
      clear S0 S1 J1 HR cu1 cs1 HUc KR2 hPI
      obtain ⟨ra, rc, rfl⟩ := own_slice R1
      by_cases hL : L = []
      · subst hL
        clear R1
        go_wp2_with fail
        go_roundw
        case rel => exact ⟨j + 1, us, by go_num, by omega, by rw [unhide hsn]; simpa [Hid] using unhide hPI2, b8⟩
        case measure => simp [intOf]; omega
      · have hLne : L ≠ [] := hL
        have hLp : (0 : Int) < (L.length : Int) := by have := List.length_pos_iff.2 hL; omega
        have hl72' : (L.length : Int) ≤ 72 := by omega
        rw [if_neg hLne] at hsn
        have HR1 := hide R1
        clear hL hLne R1
        have N1 : z1.ownsRow w3.heap.size 3 1 u4 P.length (P.map fun p => I64 (p.1 : Int)) := by have := (unhide hPI2).ns; simpa [Ints, Function.comp_def] using this
        have N2 : Hid (z1.ownsRow w3.heap.size 27 1 u5 P.length us) := by have := (unhide hPI2).rr.row; simpa [Hid] using this
        have N3 : Hid (∀ k, u4.ownBlock = some k → u5.ownBlock ≠ some k) := fun k hk => own_apart (unhide hPI2).ns (unhide hPI2).rr.row (show (3 : Nat) ≠ 27 by decide) hk
        generalize hLL : L.length = LL at *
        have hsz := b8.size
        go_wp2_with (at_builtin; refine wpList_append_own_at _ rfl (.tmp 33) (.tmp 35) 27 rfl w3.heap.size 3 i0 (.int .i64 0) 1 8 Tryz.underlying27 hi0 hz0 hz1 hz2 rfl (by decide) u4 P.length _ rfl (own_alloc' N1 _) ⟨z1.heap.size, 0, none⟩ 1 1 [_] rfl rfl (cell_one_new _ _ _) ?c2 ?c3 ?c4 ?c5 ?nx)
        case c2 => intro u hu; simp at hu; subst hu; rfl
        case c3 => unfold maxLen; omega
        case c4 => omega
        case c5 => simp; omega
        case nx =>
          intro nv' w4 hown' hgrow _ hpl4
          have f1 : Fr u4.ownBlock.toList z1 w4 := ((Fr.refl _ z1).alloc _).tr (Fr.ofGrown hgrow)
          have N4 : w4.ownsRow w3.heap.size 27 1 u5 P.length us := own_keep (unhide N2) (fun k hk => f1.block k (World.ownsRow.lt (unhide N2) k hk).2 (fun c => unhide N3 k (by simpa using c) hk))
          have hs4 : w3.heap.size ≤ w4.heap.size := Nat.le_trans hsz f1.size
          have HF1 := hide f1
          have HG := hide (And.intro hown' (And.intro hgrow hpl4))
          clear hown' hgrow hpl4 f1 N1
          go_wp2_with (at_builtin; refine wpList_append_own_at _ rfl (.tmp 37) (.tmp 39) 133 rfl w3.heap.size 27 j0 (.slice none 0 0) 1 24 Tryz.underlying133 hj0 hy0 hy1 hy2 rfl (by decide) u5 P.length _ rfl (own_alloc' N4 _) ⟨w4.heap.size, 0, none⟩ 1 1 [_] rfl rfl (cell_one_new _ _ _) ?d2 ?d3 ?d4 ?d5 ?ny)
          case d2 => intro u hu; simp at hu; subst hu; rfl
          case d3 => unfold maxLen; omega
          case d4 => omega
          case d5 => simp; omega
          case ny =>
            intro ov' w5 hown2 hgrow2 _ hpl5
            obtain ⟨hown', hgrow, hpl4⟩ := unhide HG
            have R1w : Ints w3.heap.size z1 (.slice ra LL rc) L := by
              have := (unhide HR1).mono (show w3.heap.size ≤ wr.drew.heap.size from bd.size); exact this
            have hPI3 : PI w3.heap.size w5 nv' ov' (P ++ [(y, L)]) (us ++ [.slice ra LL rc]) :=
              (unhide hPI2).push R1w (fun k hk c => by have := unhide hnew k hk; have := ((unhide HO).rr.lt c).2; omega) (fun k hk c => by have := unhide hnew k hk; have := (World.ownsRow.lt (unhide HO).ns k c).2; omega) hown' hgrow (by simpa using hpl4) hown2 hgrow2
            have b9 : Below w3.heap.size w3 w5 := by
              have q1 : Below w3.heap.size w3 w4 := Fr.toBase b8 (unhide HF1) (fun k hk => (World.ownsRow.lt (unhide HO).ns k (by simpa using hk)).1)
              exact Fr.toBase q1 (((Fr.refl _ w4).alloc _).tr (Fr.ofGrown hgrow2)) (fun k hk => (World.ownsRow.lt N4 k (by simpa using hk)).1)
            have HPI3 := hide hPI3
            clear hPI3 hown2 hgrow2 hpl5 R1w hown' hgrow hpl4 HG N4 HR1 hPI2 HO
            go_wp2_with fail
            go_roundw
            case rel => exact ⟨j + 1, _, by go_num, by omega, by rw [unhide hsn]; exact HPI3, b9⟩
            case measure => simp [intOf]; omega
    · have hie : j = M := by omega
      subst hie
      have hE : Hid (PI w3.heap.size wr u4 u5 (prs T i) us) := by
        unfold Hid; rw [unhide HP]
        have e : (U.zip D).take j = U.zip D := List.take_of_length_le (by have := unhide HM; simp; omega)
        have := unhide hPI; rw [e] at this; exact this
      have hs3 := b5.size
      clear hPI
      go_wp2_with fail
      go_ret2
      exact ⟨_, _, _, rfl, (unhide hE).mono (by omega), hbw⟩
end Go.Proofs.YtpcpcgagiapinaaGreatDoor

/- The contracts of Resolution and Path. -/
namespace Go.Proofs.YtpcpcgagiapinaaGreatDoor
open Go.RowKit Go.Maps
theorem mayB_okn {T : List Nd} (h : mayB T = true) (h0 : 0 < T.length) : Ok T := by
  rcases mayB_ok h with rfl | h
  · simp at h0
  · exact h
theorem nlv_pos {T : List Nd} (h : 0 < nlv T) : 0 < T.length := by unfold nlv at h; omega
set_option maxRecDepth 100000 in
set_option maxHeartbeats 1000000 in
theorem pathX_any {w : World} {v : Value} {T : List Nd} (h : Trd w v T) (hT : Tab w) (i : Int) :
    Calls Tryz.prog 65 #[.agg #[v], .int .i64 i] w fun e w' => ∃ r, e = .returned (.tuple #[r, .int .i64 (askE T i)]) ∧ Ints w.heap.size w' r (if askE T i = 0 then pth T i.toNat else []) ∧ Below w.heap.size w w' := by
  have K := mayBe_any (h.bw (bwA w (.cells #[v] 44))) (hT.bw (bwA _ _))
  have KH : Hid (∀ W, mayB T = true → Below w.heap.size w W → Calls Tryz.prog 110 #[.agg #[v], .int .i64 i] W fun e w' => e = .returned (.bool (hasL T i)) ∧ Below W.heap.size W w') := fun W q hW => hasLeaf_any (h.bw hW) (mayB_15 q).1 i
  have KP : Hid (∀ W, mayB T = true → hasL T i = true → Below w.heap.size w W → Calls Tryz.prog 111 #[.agg #[v], .int .i64 i] W fun e w' => ∃ nv ov us, e = .returned (.tuple #[nv, ov]) ∧ PI W.heap.size w' nv ov (prs T i.toNat) us ∧ Below W.heap.size W w') := fun W q q2 hW => by
    have h0 : 0 ≤ i := by
      apply Decidable.byContradiction; intro c; unfold hasL at q2; rw [decide_eq_false c] at q2; simp at q2
    obtain ⟨n, rfl⟩ : ∃ n : Nat, i = n := ⟨i.toNat, by omega⟩
    obtain ⟨h1, h2⟩ := hasL_pos q2
    have ok := mayB_okn q (nlv_pos (by omega))
    exact path_any (h.bw hW) ok.wd ok.sm (hT.bw hW) h1
  obtain ⟨E, hE⟩ : ∃ E, E = askE T i := ⟨_, rfl⟩
  rw [← hE]
  unfold askE at hE
  have HE := hide hE
  have HPth : Hid (pth T i.toNat = (prs T i.toNat).map fun p => (p.1 : Int)) := rfl
  clear h hT hE
  generalize mayB T = p at *
  generalize hasL T i = q at *
  generalize pth T i.toNat = L at *
  generalize prs T i.toNat = PP at *
  go_enter Tryz.func65, Tryz.ntmps65
  go_wp2_with fail
  refine K.mono ?_
  rintro e w1 ⟨rfl, b1⟩
  have c1 := bx_cell b1
  have b2 := bx_bel b1
  cases p
  · obtain rfl : E = 1 := by rw [unhide HE]; simp
    clear KH KP HE
    go_wp2
    go_ret2
    exact ⟨_, rfl, ints_nil _ _, b2⟩
  · have KH2 := unhide KH w1 rfl b2
    have KP1 := hide (fun W => unhide KP W rfl)
    clear KH KP
    go_wp2_with fail
    refine KH2.mono ?_
    rintro e w2 ⟨rfl, b3⟩
    have b4 := bw_tr b1 b3
    have c2 := bx_cell b4
    have b5 := bx_bel b4
    cases q
    · obtain rfl : E = 7 := by rw [unhide HE]; simp
      clear KP1 HE KH2
      go_wp2
      go_ret2
      exact ⟨_, rfl, ints_nil _ _, b5⟩
    · obtain rfl : E = 0 := by rw [unhide HE]; simp
      have KP2 := unhide KP1 w2 rfl b5
      have hsz := b5.size
      clear KP1 HE KH2 c1
      go_wp2_with fail
      refine KP2.mono ?_
      rintro e w3 ⟨nv, ov, us, rfl, hPI, b6⟩
      have hr := hPI.ns
      rw [← unhide HPth] at hr
      clear hPI HPth
      go_wp2
      go_ret2
      exact ⟨_, rfl, by simpa using hr.mono hsz, bw_tr b5 b6⟩
end Go.Proofs.YtpcpcgagiapinaaGreatDoor
