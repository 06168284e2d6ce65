/- Texts joined: TrLib TrD TrE TrF TrG0 TrG1 TrG TrH0 TrH TrI. -/
import Derived.Shelf.SortM.Plain
import Derived.Shelf.SortM.SortNone
import Derived.Shelf.Slices.CompactI
import Derived.Shelf.Slices.SearchI
import Derived.Shelf.Slices.Empties
import Derived.Test.YtnfhbmlmemifjaaGreatDoorZ04
/- The library's slices.Sort, slices.Compact and slices.BinarySearch at []int, laid off the shelf. -/
namespace Go.Proofs.YtnfhbmlmemifjaaGreatDoor
open Go.Shelf Go.RowKit Go.Maps Go.Sort
def renSo : Go.Shelf.Ren := ⟨fun | 0 => 0 | 1 => 1 | 2 => 2 | 5 => 39 | 7 => 184 | 8 => 185 | 10 => 278 | 11 => 279 | 12 => 280 | 13 => 281 | 14 => 282 | 15 => 283 | 16 => 284 | 17 => 285 | 18 => 286 | 19 => 287 | 20 => 288 | 30 => 307 | 31 => 308 | 32 => 309 | 33 => 310 | 34 => 311 | 35 => 312 | 40 => 319 | 42 => 333 | 43 => 334 | 44 => 335 | 45 => 336 | 46 => 337 | 47 => 338 | 48 => 339 | 49 => 340 | 50 => 341 | 51 => 342 | 52 => 343 | 53 => 344 | 54 => 345 | 55 => 346 | 56 => 347 | 57 => 349 | n => n, fun | 0 => 0 | 1 => 1 | 2 => 2 | 3 => 3 | 4 => 4 | 5 => 5 | 6 => 6 | 7 => 7 | 8 => 8 | 9 => 9 | 10 => 10 | 11 => 11 | 12 => 12 | 13 => 13 | 14 => 14 | 15 => 15 | 16 => 16 | 17 => 17 | 18 => 18 | 19 => 19 | 20 => 20 | 21 => 21 | 22 => 27 | 23 => 27 | 24 => 84 | 25 => 3 | 30 => 137 | 31 => 138 | 32 => 117 | 34 => 393 | 35 => 394 | 36 => 395 | 37 => 396 | 38 => 397 | 39 => 353 | 40 => 398 | 41 => 399 | 42 => 400 | 43 => 401 | 44 => 402 | 45 => 403 | 46 => 404 | 53 => 408 | 54 => 409 | 55 => 410 | 56 => 411 | 57 => 412 | 58 => 413 | 59 => 387 | 63 => 416 | 64 => 414 | 65 => 417 | 67 => 429 | 68 => 430 | 69 => 431 | 70 => 432 | 71 => 433 | 72 => 434 | 73 => 435 | 74 => 436 | 75 => 437 | 76 => 438 | 77 => 439 | 78 => 440 | 79 => 441 | 80 => 442 | 81 => 443 | 82 => 444 | n => n, fun | n => n⟩
set_option maxRecDepth 100000 in
theorem laysSo : Go.Proofs.SlLaysM.n5 Tryz.prog renSo := {
  mixed := by kernel_rfl
  f5 := ⟨Tryz.f39.name, by decide, Tryz.func39.trans (congrArg some (by kernel_rfl))⟩
  f7 := ⟨Tryz.f184.name, by decide, Tryz.func184.trans (congrArg some (by kernel_rfl))⟩
  f8 := Tryz.func185.trans (congrArg some (by kernel_rfl))
  f10 := ⟨Tryz.f278.name, by decide, Tryz.func278.trans (congrArg some (by kernel_rfl))⟩
  f11 := ⟨Tryz.f279.name, by decide, Tryz.func279.trans (congrArg some (by kernel_rfl))⟩
  f12 := ⟨Tryz.f280.name, by decide, Tryz.func280.trans (congrArg some (by kernel_rfl))⟩
  f13 := ⟨Tryz.f281.name, by decide, Tryz.func281.trans (congrArg some (by kernel_rfl))⟩
  f14 := ⟨Tryz.f282.name, by decide, Tryz.func282.trans (congrArg some (by kernel_rfl))⟩
  f15 := ⟨Tryz.f283.name, by decide, Tryz.func283.trans (congrArg some (by kernel_rfl))⟩
  f16 := ⟨Tryz.f284.name, by decide, Tryz.func284.trans (congrArg some (by kernel_rfl))⟩
  f17 := ⟨Tryz.f285.name, by decide, Tryz.func285.trans (congrArg some (by kernel_rfl))⟩
  f18 := ⟨Tryz.f286.name, by decide, Tryz.func286.trans (congrArg some (by kernel_rfl))⟩
  f19 := Tryz.func287.trans (congrArg some (by kernel_rfl))
  f20 := Tryz.func288.trans (congrArg some (by kernel_rfl))
  f30 := ⟨Tryz.f307.name, by decide, Tryz.func307.trans (congrArg some (by kernel_rfl))⟩
  f31 := Tryz.func308.trans (congrArg some (by kernel_rfl))
  f32 := Tryz.func309.trans (congrArg some (by kernel_rfl))
  f33 := ⟨Tryz.f310.name, by decide, Tryz.func310.trans (congrArg some (by kernel_rfl))⟩
  f34 := ⟨Tryz.f311.name, by decide, Tryz.func311.trans (congrArg some (by kernel_rfl))⟩
  f35 := ⟨Tryz.f312.name, by decide, Tryz.func312.trans (congrArg some (by kernel_rfl))⟩
  f40 := ⟨Tryz.f319.name, by decide, Tryz.func319.trans (congrArg some (by kernel_rfl))⟩
  t0 := Tryz.underlying0
  a0 := Tryz.isAgg0
  z0 := Tryz.sizeOf0
  v0 := Tryz.zeroValue0
  t3 := Tryz.underlying3
  a3 := Tryz.isAgg3
  z3 := Tryz.sizeOf3
  v3 := Tryz.zeroValue3
  t4 := Tryz.underlying4
  a4 := Tryz.isAgg4
  z4 := Tryz.sizeOf4
  v4 := Tryz.zeroValue4
  t5 := Tryz.underlying5
  a5 := Tryz.isAgg5
  z5 := Tryz.sizeOf5
  v5 := Tryz.zeroValue5
  t9 := Tryz.underlying9
  a9 := Tryz.isAgg9
  z9 := Tryz.sizeOf9
  v9 := Tryz.zeroValue9
  t22 := Tryz.underlying27
  a22 := Tryz.isAgg27
  z22 := Tryz.sizeOf27
  v22 := Tryz.zeroValue27
  t23 := Tryz.underlying27
  a23 := Tryz.isAgg27
  z23 := Tryz.sizeOf27
  v23 := Tryz.zeroValue27
  t25 := Tryz.underlying3
  a25 := Tryz.isAgg3
  z25 := Tryz.sizeOf3
  v25 := Tryz.zeroValue3
  t32 := Tryz.underlying117
  a32 := Tryz.isAgg117
  z32 := Tryz.sizeOf117
  v32 := Tryz.zeroValue117
  t35 := Tryz.underlying394
  a35 := Tryz.isAgg394
  z35 := Tryz.sizeOf394
  v35 := Tryz.zeroValue394
  t36 := Tryz.underlying395
  a36 := Tryz.isAgg395
  z36 := Tryz.sizeOf395
  v36 := Tryz.zeroValue395
  t41 := Tryz.underlying399
  a41 := Tryz.isAgg399
  z41 := Tryz.sizeOf399
  v41 := Tryz.zeroValue399
  t44 := Tryz.underlying402
  a44 := Tryz.isAgg402
  z44 := Tryz.sizeOf402
  v44 := Tryz.zeroValue402
  t46 := Tryz.underlying404
  a46 := Tryz.isAgg404
  z46 := Tryz.sizeOf404
  v46 := Tryz.zeroValue404
  t53 := Tryz.underlying408
  a53 := Tryz.isAgg408
  z53 := Tryz.sizeOf408
  v53 := Tryz.zeroValue408
  t57 := Tryz.underlying412
  a57 := Tryz.isAgg412
  z57 := Tryz.sizeOf412
  v57 := Tryz.zeroValue412
  t63 := Tryz.underlying416
  a63 := Tryz.isAgg416
  z63 := Tryz.sizeOf416
  v63 := Tryz.zeroValue416
  t64 := Tryz.underlying414
  a64 := Tryz.isAgg414
  z64 := Tryz.sizeOf414
  v64 := Tryz.zeroValue414 }
def renCo : Go.Shelf.Ren := ⟨fun | 0 => 0 | 1 => 1 | 2 => 2 | 15 => 178 | 20 => 40 | 31 => 284 | 37 => 312 | 40 => 333 | 41 => 334 | 42 => 335 | 43 => 336 | 44 => 337 | 45 => 338 | 46 => 339 | 47 => 340 | 48 => 341 | 49 => 342 | 50 => 343 | 51 => 344 | 52 => 345 | 53 => 346 | 54 => 347 | 55 => 349 | n => n, fun | 0 => 0 | 1 => 1 | 2 => 2 | 3 => 3 | 4 => 4 | 5 => 5 | 6 => 6 | 7 => 7 | 8 => 8 | 9 => 9 | 10 => 10 | 11 => 11 | 12 => 12 | 13 => 13 | 14 => 14 | 15 => 15 | 16 => 16 | 17 => 17 | 18 => 18 | 19 => 19 | 20 => 20 | 21 => 21 | 22 => 27 | 23 => 101 | 24 => 157 | 33 => 399 | 36 => 44 | 40 => 117 | 41 => 353 | 42 => 387 | 45 => 84 | 46 => 429 | 47 => 430 | 48 => 431 | 49 => 432 | 50 => 433 | 51 => 434 | 52 => 435 | 53 => 402 | 54 => 436 | 55 => 437 | 56 => 438 | 57 => 439 | 58 => 440 | 59 => 441 | 60 => 442 | 61 => 443 | 62 => 444 | n => n, fun | n => n⟩
set_option maxRecDepth 100000 in
theorem laysCo : Go.Proofs.Lays2.n20 Tryz.prog renCo := {
  mixed := by kernel_rfl
  f20 := Tryz.func40.trans (congrArg some (by kernel_rfl))
  t0 := Tryz.underlying0
  a0 := Tryz.isAgg0
  z0 := Tryz.sizeOf0
  v0 := Tryz.zeroValue0
  t3 := Tryz.underlying3
  a3 := Tryz.isAgg3
  z3 := Tryz.sizeOf3
  v3 := Tryz.zeroValue3
  t4 := Tryz.underlying4
  a4 := Tryz.isAgg4
  z4 := Tryz.sizeOf4
  v4 := Tryz.zeroValue4
  t22 := Tryz.underlying27
  a22 := Tryz.isAgg27
  z22 := Tryz.sizeOf27
  v22 := Tryz.zeroValue27
  i3 := by kernel_rfl }

-- Lays2.n25: no function slices.BinarySearch[[]int,int]
end Go.Proofs.YtnfhbmlmemifjaaGreatDoor

/- The contract of memberTwice: the members sorted, equal neighbours struck. -/
namespace Go.Proofs.YtnfhbmlmemifjaaGreatDoor
open Go.Shelf Go.RowKit Go.Maps Go.Sort
theorem fr_putRow (w : World) (blk off q : Nat) (d : Array Int) : Fr [blk] w (putRow (Value.int .i64) (Sort.ahead w q) blk off d) := by
  refine ⟨rfl, rfl, rfl, by simp, fun k hk hn => ?_⟩
  simp only [putRow, mapBlock, Sort.ahead, Array.getElem?_modify]
  have : blk ≠ k := fun c => hn (by simp [c])
  simp [this]
theorem fr_grow (S : List Nat) (w : World) (os : Array Obj) : Fr S w (grow w os) :=
  ⟨rfl, rfl, rfl, by simp, fun k hk _ => by simp [grow, Array.getElem?_append, hk]⟩
theorem compact_twice {l : List Int} (hs : l.Pairwise (· ≤ ·)) : decide ((Lib.compact l).length < l.length) = decide (¬ l.Nodup) := by
  by_cases hn : l.Nodup
  · rw [Lib.compact_all l (fun j hj => ?_)]
    · simp [hn]
    · by_cases h0 : j = 0
      · subst h0; exact Lib.keeps_lt_one _ 0 (by omega)
      · refine Lib.keeps_pos (fun c => ?_)
        rw [getElem!_pos _ j (by simpa using hj), getElem!_pos _ (j - 1) (by simp; omega)] at c
        simp only [List.getElem_toArray] at c
        have hp := List.pairwise_iff_getElem.1 (List.nodup_iff_pairwise_ne.1 hn) (j - 1) j (by omega) hj (by omega)
        exact hp c.symm
  · rw [decide_eq_true hn, decide_eq_true_eq]
    have : ∃ j, j < l.length ∧ Lib.keeps l.toArray j = false := by
      apply Decidable.byContradiction
      intro hc
      apply hn
      have hk : ∀ j, 0 < j → (hj : j < l.length) → l[j - 1]'(by omega) < l[j] := by
        intro j h0 hj
        have h1 := (List.pairwise_iff_getElem.1 hs) (j - 1) j (by omega) hj (by omega)
        rcases Int.lt_or_eq_of_le h1 with h2 | h2
        · exact h2
        · exfalso; apply hc
          refine ⟨j, hj, Lib.keeps_neg h0 ?_⟩
          rw [getElem!_pos _ j (by simpa using hj), getElem!_pos _ (j - 1) (by simp; omega)]
          simp [h2]
      have hlt : ∀ i j, (hij : i < j) → (hj : j < l.length) → l[i]'(by omega) < l[j] := by
        intro i j hij hj
        have h1 := hk j (by omega) hj
        rcases Nat.lt_or_ge i (j - 1) with c | c
        · have := (List.pairwise_iff_getElem.1 hs) i (j - 1) (by omega) (by omega) c
          omega
        · obtain rfl : i = j - 1 := by omega
          exact h1
      rw [List.nodup_iff_pairwise_ne, List.pairwise_iff_getElem]
      intro i j hi hj hij e
      have := hlt i j hij hj
      omega
    obtain ⟨j, hj, hkj⟩ := this
    unfold Lib.compact Lib.compactUpTo
    rw [List.length_map]
    have hlen : (List.range l.length).length = l.length := by simp
    rcases Nat.lt_or_ge ((List.range l.length).filter (Lib.keeps l.toArray)).length l.length with c | c
    · exact c
    · exfalso
      have := List.length_filter_eq_length_iff.1 (Nat.le_antisymm (List.length_filter_le _ _) (by rw [hlen]; exact c)) j (List.mem_range.2 hj)
      rw [hkj] at this; cases this
theorem compact_le (S : List Int) : (Lib.compact S).length ≤ S.length := by
  unfold Lib.compact Lib.compactUpTo
  rw [List.length_map]
  exact Nat.le_trans (List.length_filter_le _ _) (by simp)
theorem sorted_of (l : List Int) : (l.mergeSort fun x y => decide (x ≤ y)).Pairwise (· ≤ ·) := by
  have := List.pairwise_mergeSort (le := fun x y : Int => decide (x ≤ y)) (by intro a b c; simp; omega) (by intro a b; simp; omega) l
  exact this.imp (fun h => by simpa using h)
theorem nodup_sorted (l : List Int) : (l.mergeSort fun x y => decide (x ≤ y)).Nodup ↔ l.Nodup := (List.mergeSort_perm l _).nodup_iff
set_option maxRecDepth 100000 in
set_option maxHeartbeats 1000000 in
theorem twice_any {w : World} {v : Value} {T : List Nd} (h : Trd w v T) (hs : T.length ≤ 15) :
    Calls Tryz.prog 275 #[.agg #[v]] w fun e w' => e = .returned (.bool (decide (¬ (mems T).Nodup))) ∧ Below w.heap.size w w' := by
  obtain ⟨w0, hw0⟩ : ∃ w0, w0 = bxw w v := ⟨_, rfl⟩
  have b0 : Below w.heap.size w w0 := by rw [hw0]; exact bwA _ _
  have K := members_any (h.bw b0) hs
  have HW : Hid (w0 = w.alloc (.cells #[v] 32)) := hw0
  have hl : (mems T).length ≤ 8 := by
    have := memsOf_len (lvs T); rw [lvs_len] at this; unfold nlv at this; unfold mems; omega
  generalize mems T = l at *
  clear hw0 h hs
  go_enter Tryz.func275, Tryz.ntmps275
  go_wp2_with fail
  rw [← unhide HW]
  refine K.mono ?_
  rintro e w1 ⟨r, rfl, hr, b1⟩
  clear K HW
  rcases Nat.eq_zero_or_pos l.length with h0 | h0
  · obtain ⟨a, c, rfl⟩ := own_slice hr
    obtain rfl := List.eq_nil_of_length_eq_zero h0
    have K1 := AnyM.slices_Sort_int_none laysSo a c w1
    have K2 := Any.slices_Compact_int_empty laysCo a c w1
    clear hr
    go_wp2_with fail
    refine K1.mono ?_
    rintro e w1 ⟨rfl, rfl⟩
    go_wp2_with fail
    refine K2.mono ?_
    rintro e w1 ⟨rfl, rfl⟩
    go_wp2
    go_ret
    exact ⟨by simp, bw_tr b0 b1⟩
  · obtain ⟨g, cap, rfl, hg, hcap, _⟩ := own_open hr h0
    have hH : Holds (Value.int .i64) w1 g 0 l.toArray := fun j hj => by
      have hj' : j < l.length := by simpa using hj
      refine ⟨?_, ?_⟩
      · have := own_cell hr (g := g) rfl (j := j) (u := .int .i64 l[j]) (by simp [I64, List.getElem?_eq_getElem hj'])
        rw [getElem!_pos _ j hj]; simpa using this
      · have := own_frozen hr (g := g) rfl j; simpa using this
    have hge : w0.heap.size ≤ g := (World.ownsRow.lt hr g rfl).1
    have K1 := AnyM.slices_Sort_int laysSo g 0 cap l w1 hH hg (by omega)
    have hsl : (l.mergeSort fun x y => decide (x ≤ y)).length = l.length := by simp
    go_wp2_with fail
    refine K1.mono ?_
    rintro e w2 ⟨rfl, n, os, rfl⟩
    clear K1
    have hH2 : Holds (Value.int .i64) (grow (putRow (Value.int .i64) (Sort.ahead w1 n) g 0 (l.mergeSort fun x y => decide (x ≤ y)).toArray) os) g 0 (l.mergeSort fun x y => decide (x ≤ y)).toArray :=
      holds_grow _ _ _ _ _ _ (by simpa using hg) (holds_putRow _ _ _ _ _ _ (holds_ahead _ _ _ _ _ _ hH) (by simp))
    have f2 : Fr [g] w1 (grow (putRow (Value.int .i64) (Sort.ahead w1 n) g 0 (l.mergeSort fun x y => decide (x ≤ y)).toArray) os) := (fr_putRow w1 g 0 n _).tr (fr_grow _ _ _)
    generalize grow (putRow (Value.int .i64) (Sort.ahead w1 n) g 0 (l.mergeSort fun x y => decide (x ≤ y)).toArray) os = w2 at *
    have K2 := Any.slices_Compact_int laysCo g 0 cap _ w2 hH2 (by rw [hsl]; omega) (by rw [hsl]; omega)
    have HC := hide (compact_twice (sorted_of l))
    have HN := hide (nodup_sorted l)
    generalize (l.mergeSort fun x y => decide (x ≤ y)) = S at *
    rw [hsl] at K2 HC
    have hSn : (Lib.compact S).length ≤ 8 := by have := compact_le S; omega
    clear hH hH2 hr
    generalize l.length = N at *
    clear hsl
    generalize (Lib.compact S).length = M at *
    go_wp2_with fail
    refine K2.mono ?_
    rintro e w3 ⟨rfl, q, rfl⟩
    have f3 := fr_putRow w2 g 0 q (Lib.compact S ++ List.replicate (N - M) 0).toArray
    clear K2
    generalize putRow (Value.int .i64) (Sort.ahead w2 q) g 0 (Lib.compact S ++ List.replicate (N - M) 0).toArray = w3 at *
    go_wp2
    go_ret
    refine ⟨?_, bw_tr b0 (Fr.toBase b1 (f2.tr f3) (by simp; exact hge))⟩
    have := unhide HC
    simp only [this, unhide HN]
    rfl
end Go.Proofs.YtnfhbmlmemifjaaGreatDoor

/- The contracts of mayBe, Check, Size, Members and Find. -/
namespace Go.Proofs.YtnfhbmlmemifjaaGreatDoor
open Go.RowKit Go.Maps
theorem wid_small {n N : Nat} (h8 : n ≤ 8) (hN : 0 < N) (h : wid (n : Nat) = (N : Nat)) : n ∈ sizes ∧ N = 2 * n - 1 := by
  have hh : ∀ n ∈ List.range 9, (n ∈ sizes ∧ wid (n : Nat) = ((2 * n - 1 : Nat) : Int)) ∨ wid (n : Nat) = 0 := by decide +kernel
  rcases hh n (List.mem_range.2 (by omega)) with ⟨c1, c2⟩ | c
  · exact ⟨c1, by omega⟩
  · omega
theorem all_succ (p : Nat → Bool) (i : Nat) : (List.range (i + 1)).all p = ((List.range i).all p && p i) := by
  rw [List.range_succ, List.all_append]; simp
set_option maxRecDepth 100000 in
set_option maxHeartbeats 2000000 in
theorem mayBe_any {w : World} {v : Value} {T : List Nd} (h : Trd w v T) (hT : Tab w) :
    Calls Tryz.prog 182 #[.agg #[v]] w fun e w' => e = .returned (.bool (mayB T)) ∧ Below w.heap.size w w' := by
  obtain ⟨a, c, rfl⟩ := h.slice
  have hl := h.len
  obtain ⟨w0, hw0⟩ : ∃ w0, w0 = bxw w (.slice a T.length c) := ⟨_, rfl⟩
  have HB : Hid (∀ W, Below w0.heap.size w0 W → W.cell? ⟨w.heap.size, 0, none⟩ = some (.slice a T.length c) ∧ Below w.heap.size w W) := fun W hW => by subst hw0; exact ⟨bx_cell hW, bx_bel hW⟩
  have b0 : Below w.heap.size w w0 := by rw [hw0]; exact bwA _ _
  have KL := hide (leaves_any a T.length c w0 hl)
  have HW : Hid (w0 = w.alloc (.cells #[.slice a T.length c] 32)) := hw0
  obtain ⟨r, hr⟩ : ∃ r, r = mayB T := ⟨_, rfl⟩
  rw [← hr]
  have KW : Hid (∀ W, Calls Tryz.prog 273 #[.int .i64 (nlv T : Nat)] W fun e w' => e = .returned (.int .i64 (wid (nlv T : Nat))) ∧ w' = W) := fun W => width_any _ W
  have KN : Hid (Wd T → ∀ W (x : Nat), Below w.heap.size w W → x < T.length → Calls Tryz.prog 274 #[.agg #[.slice a T.length c], .int .i64 (x : Int)] W fun e w' => e = .returned (.bool (ndM T x)) ∧ Below W.heap.size W w') := fun hw W x hW hx => nodeMay_any (h.bw hW) hw (hT.bw hW) hx
  have KT : Hid (T.length ≤ 15 → ∀ W, Below w.heap.size w W → Calls Tryz.prog 275 #[.agg #[.slice a T.length c]] W fun e w' => e = .returned (.bool (decide (¬ (mems T).Nodup))) ∧ Below W.heap.size W w') := fun hs W hW => twice_any (h.bw hW) hs
  have KA : Hid (T.length ≤ 15 → ∀ W, Below w.heap.size w W → Calls Tryz.prog 276 #[.agg #[.slice a T.length c], .int .i64 ((nlv T / 2 : Nat) : Int), .int .i64 (nlv T : Nat)] W fun e w' => e = .returned (.bool (anyM T (nlv T / 2) (nlv T))) ∧ Below W.heap.size W w') := fun hs W hW => anyMember_any (h.bw hW) hs _ _ (by omega) (Nat.le_refl _)
  have hnl : nlv T = (T.length + 1) / 2 := rfl
  have hlI : (T.length : Int) ≤ 140737488355328 := by omega
  rw [← hnl] at KL
  have HD : Hid (r = mayB T) := hr
  by_cases e0 : T.length = 0
  · obtain rfl : r = true := by
      rw [hr]; obtain rfl := List.eq_nil_of_length_eq_zero e0; rfl
    rw [e0] at *
    have hz := bx_bel (w := w) (v := .slice a 0 c) (Below.refl _ _)
    clear h hl hw0 hnl hr KL KW KN KT KA HD HB
    go_enter Tryz.func182, Tryz.ntmps182
    go_wp2
    go_ret
    exact ⟨rfl, bwA _ _⟩
  · have e1 : ((T.length : Int) == 0) = false := beq_false_of_ne (by omega)
    have e2 : decide ((T.length : Int) = 0) = false := decide_eq_false (by omega)
    have HE : Hid (r = (decide (nlv T ≤ 8) && decide (wid (nlv T : Nat) = (T.length : Nat)) && (List.range T.length).all (ndM T) && decide (mems T).Nodup && anyM T (nlv T / 2) (nlv T))) := by
      unfold Hid; rw [hr]; unfold mayB
      have : T.isEmpty = false := by cases T <;> simp_all
      rw [this]; simp
    have HS : Hid (nlv T ≤ 8 → wid (nlv T : Nat) = (T.length : Nat) → Wd T ∧ T.length ≤ 15) := fun q1 q2 => by
      obtain ⟨s1, s2⟩ := wid_small q1 (by omega) q2
      exact ⟨⟨nlv T, s1, s2⟩, by omega⟩
    generalize hn : nlv T = n at *
    have hn1 : (n : Int) ≤ 140737488355328 := by omega
    generalize hN : T.length = N at *
    have hNn : 0 < N := by omega
    clear h hl hw0 hnl hr HD e0 hn hN
    go_enter Tryz.func182, Tryz.ntmps182
    go_wp2_with fail
    rw [← unhide HW]
    refine (unhide KL).mono ?_
    rintro e w1 ⟨rfl, b1⟩
    clear KL HW
    obtain ⟨c1, hbw⟩ := unhide HB _ b1
    by_cases g1 : n ≤ 8
    · have g2 : decide ((8 : Int) < (n : Int)) = false := decide_eq_false (by omega)
      have KW2 := fun m => unhide KW (w1.drewN m)
      have HS2 := hide (unhide HS g1)
      obtain ⟨wd, hwd⟩ : ∃ wd, wd = wid (n : Int) := ⟨_, rfl⟩
      rw [← hwd] at KW2 HE HS2
      clear hwd KW HS
      by_cases g3 : wd = (N : Int)
      · subst g3
        obtain ⟨hw, h15⟩ := unhide HS2 rfl
        have KN2 := hide (unhide KN hw)
        have KT2 := hide (unhide KT h15)
        have KA2 := hide (unhide KA h15)
        have HE2 : Hid (r = ((List.range N).all (ndM T) && (decide (mems T).Nodup && anyM T (n / 2) n))) := by
          unfold Hid; rw [unhide HE, decide_eq_true g1]; simp [Bool.and_assoc]
        have g4 : ((N : Int) != (N : Int)) = false := by simp
        clear KN KT KA HS2 HE hw
        go_wp2_with fail
        go_quiet (first | (go_at_call 273; exact Calls.quiet_of_same (KW2 _)))
        have b2 : Below w0.heap.size w0 (w1.drewN nq) := bw_tr b1 (below_drewN (Below.refl _ _) _)
        clear KW2
        generalize w1.drewN nq = w2 at *
        obtain ⟨c2, hbw2⟩ := unhide HB _ b2
        clear c1 hbw b1
        go_wp2_with fail
        go_loopw [24] (fun iv wr => ∃ i : Nat, iv = .int .i64 (i : Int) ∧ i ≤ N ∧ Hid ((List.range i).all (ndM T) = true) ∧ Below w0.heap.size w0 wr) (fun iv _ => (N - (intOf iv)).toNat)
        case atStart => exact ⟨0, rfl, by omega, rfl, b2⟩
        case round =>
          obtain ⟨i, rfl, hin, hall, hbel⟩ := hrel
          obtain ⟨c3, hbw3⟩ := unhide HB _ hbel
          clear c2 hbw2 b2
          by_cases hlt : i < N
          · have q1 : (i : Int) < (N : Int) := by omega
            have K := unhide KN2 wr i hbw3 hlt
            have HA : Hid ((List.range (i + 1)).all (ndM T) = ndM T i) := by unfold Hid; rw [all_succ, unhide hall]; rfl
            have HF : Hid (ndM T i = false → r = false) := fun q => by
              rw [unhide HE2]
              have : (List.range N).all (ndM T) = false := by
                rw [List.all_eq_false]; exact ⟨i, List.mem_range.2 hlt, by simp [q]⟩
              rw [this]; rfl
            generalize ndM T i = p at *
            go_wp2_with fail
            refine K.mono ?_
            rintro e w4 ⟨rfl, b4⟩
            have hbel4 := bw_tr hbel b4
            cases p
            · obtain rfl := unhide HF rfl
              clear HF
              go_wp2_with fail
              go_ret
              exact ⟨rfl, (unhide HB _ hbel4).2⟩
            · clear HF K
              go_wp2_with fail
              go_roundw
              case rel => exact ⟨i + 1, by go_num, by omega, HA, hbel4⟩
              case measure => simp [intOf]; omega
          · obtain rfl : i = N := by omega
            have HE3 : Hid (r = (decide (mems T).Nodup && anyM T (n / 2) n)) := by unfold Hid; rw [unhide HE2, unhide hall]; rfl
            have K := unhide KT2 wr hbw3
            have hn2 : (n : Int) / 2 = ((n / 2 : Nat) : Int) := by omega
            have hn8 : (n : Int) ≤ 8 := by omega
            have KA3 : Hid (∀ W, Below w0.heap.size w0 W → Calls Tryz.prog 276 #[.agg #[.slice a i c], .int .i64 ((n / 2 : Nat) : Int), .int .i64 (n : Nat)] W fun e w' => e = .returned (.bool (anyM T (n / 2) n)) ∧ Below W.heap.size W w') := fun W hW => unhide KA2 W (unhide HB _ hW).2
            obtain ⟨n2, hn3⟩ : ∃ n2, n2 = n / 2 := ⟨_, rfl⟩
            rw [← hn3] at KA3 HE3 hn2
            clear KA2 KT2 KN2 HE2 hn3
            by_cases hd : (mems T).Nodup
            · have e9 : decide (¬ (mems T).Nodup) = false := by simp [hd]
              rw [e9] at K
              obtain rfl : r = anyM T n2 n := by rw [unhide HE3, decide_eq_true hd]; rfl
              clear HE3 e9 hd
              go_wp2_with fail
              refine K.mono ?_
              rintro e w4 ⟨rfl, b4⟩
              have hbel4 := bw_tr hbel b4
              obtain ⟨c4, hbw4⟩ := unhide HB _ hbel4
              have K5 := unhide KA3 _ hbel4
              clear K KA3
              go_wp2_with fail
              refine K5.mono ?_
              rintro e w5 ⟨rfl, b5⟩
              go_wp2
              go_ret
              exact ⟨rfl, bw_tr hbw4 b5⟩
            · have e9 : decide (¬ (mems T).Nodup) = true := by simp [hd]
              rw [e9] at K
              obtain rfl : r = false := by rw [unhide HE3, decide_eq_false hd]; rfl
              clear HE3 e9 hd
              go_wp2_with fail
              refine K.mono ?_
              rintro e w4 ⟨rfl, b4⟩
              have hbel4 := bw_tr hbel b4
              obtain ⟨c4, hbw4⟩ := unhide HB _ hbel4
              go_wp2
              go_ret
              exact ⟨rfl, hbw4⟩
      · have g4 : (wd != (N : Int)) = true := by simp [g3]
        have g5 : decide (wd = (N : Int)) = false := decide_eq_false g3
        obtain rfl : r = false := by rw [unhide HE, g5]; simp
        clear HE HS2 KN KT KA g3
        go_wp2_with fail
        go_quiet (first | (go_at_call 273; exact Calls.quiet_of_same (KW2 _)))
        go_wp2
        go_ret
        exact ⟨rfl, bw_tr hbw (below_drewN (Below.refl _ _) _)⟩
    · have g2 : (8 : Int) < (n : Int) := by omega
      obtain rfl : r = false := by rw [unhide HE, decide_eq_false g1]; simp
      go_wp2_with fail
      go_quiet (fail)
      go_wp2
      go_ret
      exact ⟨rfl, bw_tr hbw (below_drewN (Below.refl _ _) _)⟩
end Go.Proofs.YtnfhbmlmemifjaaGreatDoor

/- The contracts of Check, Size, Members and Find. -/
namespace Go.Proofs.YtnfhbmlmemifjaaGreatDoor
open Go.RowKit Go.Maps
theorem mayB_wd {T : List Nd} (h : mayB T = true) : T = [] ∨ Wd T := by
  unfold mayB at h
  simp only [Bool.or_eq_true, Bool.and_eq_true, decide_eq_true_eq] at h
  rcases h with h | h
  · exact Or.inl (List.isEmpty_iff.1 h)
  · rcases Nat.eq_zero_or_pos T.length with h0 | h0
    · exact Or.inl (List.eq_nil_of_length_eq_zero h0)
    · obtain ⟨s1, s2⟩ := wid_small h.1.1.1.1 h0 h.1.1.1.2
      exact Or.inr ⟨nlv T, s1, s2⟩
theorem mayB_15 {T : List Nd} (h : mayB T = true) : T.length ≤ 15 ∧ nlv T ≤ 8 := by
  rcases mayB_wd h with rfl | h
  · exact ⟨by simp, by simp [nlv]⟩
  · exact ⟨h.facts.2.2.1, h.facts.2.2.2.1⟩
set_option maxHeartbeats 1000000 in
theorem check_any {w : World} {v : Value} {T : List Nd} (h : Trd w v T) (hT : Tab w) :
    Calls Tryz.prog 261 #[.agg #[v]] w fun e w' => e = .returned (.int .i64 (if mayB T = true then 0 else 1)) ∧ Below w.heap.size w w' := by
  have K := mayBe_any (h.bw (bwA w (.cells #[v] 32))) (hT.bw (bwA _ _))
  generalize mayB T = r at *
  clear h hT
  go_enter Tryz.func261, Tryz.ntmps261
  go_wp2_with fail
  refine K.mono ?_
  rintro e w1 ⟨rfl, b1⟩
  cases r
  · go_wp2
    go_ret
    exact ⟨rfl, bx_bel b1⟩
  · go_wp2
    go_ret
    exact ⟨rfl, bx_bel b1⟩
set_option maxHeartbeats 1000000 in
theorem membersX_any {w : World} {v : Value} {T : List Nd} (h : Trd w v T) (hT : Tab w) :
    Calls Tryz.prog 38 #[.agg #[v]] w fun e w' => ∃ r, e = .returned r ∧ Ints w.heap.size w' r (if mayB T = true then mems T else []) ∧ Below w.heap.size w w' := by
  have K := mayBe_any (h.bw (bwA w (.cells #[v] 32))) (hT.bw (bwA _ _))
  have KL : mayB T = true → ∀ W, Below w.heap.size w W → _ := fun q W hW => members_any (h.bw hW) (mayB_15 q).1
  generalize mayB T = r at *
  clear h hT
  go_enter Tryz.func38, Tryz.ntmps38
  go_wp2_with fail
  refine K.mono ?_
  rintro e w1 ⟨rfl, b1⟩
  have c1 := bx_cell b1
  cases r
  · clear KL
    go_wp2
    go_ret
    exact ⟨_, rfl, ints_nil _ _, bx_bel b1⟩
  · have K2 := KL rfl w1 (bx_bel b1)
    clear KL
    go_wp2_with fail
    refine K2.mono ?_
    rintro e w2 ⟨u, rfl, hu, b2⟩
    have hsz := (bx_bel b1).size
    go_wp2
    go_ret
    exact ⟨_, rfl, hu.mono hsz, bw_tr (bx_bel b1) b2⟩
end Go.Proofs.YtnfhbmlmemifjaaGreatDoor

/- Plain facts of resolutions; the append of a row that reads as numbers, as a step of a region that draws. -/
namespace Go.Proofs.YtnfhbmlmemifjaaGreatDoor
open Go.RowKit Go.Maps
end Go.Proofs.YtnfhbmlmemifjaaGreatDoor

/- The contract of resolution, of a node that is not blank. -/
namespace Go.Proofs.YtnfhbmlmemifjaaGreatDoor
open Go.RowKit Go.Maps
end Go.Proofs.YtnfhbmlmemifjaaGreatDoor

/- The contract of resolution: it calls itself. -/
namespace Go.Proofs.YtnfhbmlmemifjaaGreatDoor
open Go.RowKit Go.Maps
end Go.Proofs.YtnfhbmlmemifjaaGreatDoor

/- Rows of rows of numbers, of one's own; plain facts of ways up. No walk is in this text. -/
namespace Go.Proofs.YtnfhbmlmemifjaaGreatDoor
open Go.RowKit Go.Maps
end Go.Proofs.YtnfhbmlmemifjaaGreatDoor

/- The contracts of above and path. -/
namespace Go.Proofs.YtnfhbmlmemifjaaGreatDoor
open Go.RowKit Go.Maps
theorem own_mono {B B' : Nat} {w : World} {e : TypeId} {c : Nat} {v : Value} {n : Nat} {xs : List Value} (h : w.ownsRow B e c v n xs) (hb : B' ≤ B) : w.ownsRow B' e c v n xs := by
  refine ⟨h.1, ?_⟩
  rcases h.2 with h | ⟨g, cap, cur, hv, h0, r⟩
  · exact Or.inl h
  · exact Or.inr ⟨g, cap, cur, hv, Nat.le_trans hb h0, r⟩
end Go.Proofs.YtnfhbmlmemifjaaGreatDoor

/- The contracts of Resolution and Path. -/
namespace Go.Proofs.YtnfhbmlmemifjaaGreatDoor
open Go.RowKit Go.Maps
end Go.Proofs.YtnfhbmlmemifjaaGreatDoor
