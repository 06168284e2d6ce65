/- The library's slices.Insert at []int: one number comes into a row of one's own. -/
import Derived.Shelf.Spec.SlicesInsert
import Derived.Shelf.Spec.SlicesInsertGrow
import Derived.Laws.AppendOwn
import Derived.Test.YtpgppnmobbgefaaGreatDoorBbM
namespace Go.Proofs.YtpgppnmobbgefaaGreatDoor
open Go.Shelf Go.RowKit Go.Maps
def renIn : Go.Shelf.Ren := ⟨fun | 0 => 0 | 1 => 1 | 2 => 2 | 20 => 274 | 21 => 257 | 25 => 256 | 27 => 280 | 28 => 281 | 31 => 278 | 32 => 279 | 35 => 296 | 37 => 295 | 39 => 309 | 40 => 326 | 41 => 327 | 42 => 328 | 43 => 329 | 44 => 330 | 45 => 331 | 46 => 332 | 47 => 333 | 48 => 334 | 49 => 335 | 50 => 336 | 51 => 337 | 52 => 338 | 53 => 339 | 54 => 340 | 55 => 342 | n => n, fun | 0 => 0 | 1 => 1 | 2 => 2 | 3 => 3 | 4 => 4 | 5 => 5 | 6 => 6 | 7 => 7 | 8 => 8 | 9 => 9 | 10 => 10 | 11 => 11 | 12 => 12 | 13 => 13 | 14 => 14 | 15 => 15 | 16 => 16 | 17 => 17 | 18 => 18 | 19 => 19 | 20 => 20 | 21 => 21 | 22 => 31 | 23 => 91 | 24 => 136 | 28 => 376 | 33 => 374 | 34 => 375 | 36 => 33 | 37 => 382 | 40 => 101 | 41 => 119 | 42 => 115 | 45 => 71 | 46 => 415 | 47 => 416 | 48 => 417 | 49 => 418 | 50 => 419 | 51 => 420 | 52 => 421 | 53 => 396 | 54 => 422 | 55 => 423 | 56 => 424 | 57 => 425 | 58 => 426 | 59 => 427 | 60 => 428 | 61 => 429 | 62 => 430 | n => n, fun | n => n⟩
set_option maxRecDepth 100000 in
theorem laysIn : Go.Proofs.Lays2.n21 Tryz.prog renIn := {
  mixed := by kernel_rfl
  f21 := Tryz.func257.trans (congrArg some (by kernel_rfl))
  f27 := Tryz.func280.trans (congrArg some (by kernel_rfl))
  f28 := Tryz.func281.trans (congrArg some (by kernel_rfl))
  f35 := Tryz.func296.trans (congrArg some (by kernel_rfl))
  f39 := Tryz.func309.trans (congrArg some (by kernel_rfl))
  t0 := Tryz.underlying0
  a0 := Tryz.isAgg0
  z0 := Tryz.sizeOf0
  v0 := Tryz.zeroValue0
  t3 := Tryz.underlying3
  a3 := Tryz.isAgg3
  z3 := Tryz.sizeOf3
  v3 := Tryz.zeroValue3
  t4 := Tryz.underlying4
  a4 := Tryz.isAgg4
  z4 := Tryz.sizeOf4
  v4 := Tryz.zeroValue4
  t22 := Tryz.underlying31
  a22 := Tryz.isAgg31
  z22 := Tryz.sizeOf31
  v22 := Tryz.zeroValue31
  i3 := by kernel_rfl }

theorem setCells_blk {b : Nat} {t : TypeId} {z : Nat × Nat} : ∀ (vs : List Value) (o : Nat) (w : World) (cur : Array Value), w.heap[b]? = some (.cells cur t z) → ∃ cur', (w.setCells b o vs).heap[b]? = some (.cells cur' t z) ∧ cur'.size = cur.size
  | [], _, _, cur, h => ⟨cur, h, rfl⟩
  | v :: r, o, w, cur, h => by
    have h2 : (w.setCell ⟨b, o, none⟩ v).heap[b]? = some (.cells (cur.setIfInBounds o v) t z) := by simp [World.setCell, Array.getElem?_modify, h]
    obtain ⟨cur', h3, h4⟩ := setCells_blk r (o + 1) _ _ h2
    exact ⟨cur', h3, by rw [h4]; simp⟩
theorem fr_setCells {b : Nat} : ∀ (vs : List Value) (o : Nat) (w : World), Fr [b] w (w.setCells b o vs)
  | [], _, w => Fr.refl _ _
  | v :: r, o, w => ((Fr.refl [b] w).setCell (a := ⟨b, o, none⟩) (Or.inr (by simp)) v).tr (fr_setCells r (o + 1) _)
/-- A row is told by its block's cells. -/
theorem ints_of_cells {B : Nat} {w : World} {b c : Nat} {cur : Array Value} {l : List Int} (hb : w.heap[b]? = some (.cells cur 3 (0, 0))) (hB : B ≤ b) (hs : cur.size = c) (hl : l.length ≤ c) (hc : c ≤ maxLen) (hx : ∀ j z, l[j]? = some z → w.cell? ⟨b, j, none⟩ = some (.int .i64 z)) : Ints B w (.slice (some ⟨b, 0, none⟩) l.length c) l := by
  refine ⟨by simp, Or.inr ⟨b, c, cur, rfl, hB, hb, hl, hc, by omega, ?_⟩⟩
  apply List.ext_getElem?
  intro j
  rcases Nat.lt_or_ge j l.length with h | h
  · have h1 := hx j l[j] (List.getElem?_eq_getElem h)
    have h2 : cur[j]? = some (.int .i64 l[j]) := by simpa [World.cell?, hb] using h1
    rw [List.getElem?_take_of_lt (by omega), Array.getElem?_toList, h2]
    simp [I64, List.getElem?_eq_getElem h]
  · rw [List.getElem?_eq_none (by simp; omega), List.getElem?_eq_none (by simp; omega)]
theorem ins_get {l : List Int} {k : Nat} {x : Int} (hk : k ≤ l.length) {j : Nat} {z : Int} (h : (l.take k ++ x :: l.drop k)[j]? = some z) : (j < k ∧ l[j]? = some z) ∨ (j = k ∧ z = x) ∨ (k < j ∧ l[j - 1]? = some z) := by
  rcases Nat.lt_or_ge j k with c | c
  · rw [List.getElem?_append_left (by simp; omega), List.getElem?_take_of_lt c] at h
    exact Or.inl ⟨c, h⟩
  · rw [List.getElem?_append_right (by simp; omega)] at h
    simp only [List.length_take, Nat.min_eq_left hk] at h
    by_cases e : j = k
    · subst e; simp at h; exact Or.inr (Or.inl ⟨rfl, h.symm⟩)
    · obtain ⟨d, hd⟩ : ∃ d, j - k = d + 1 := ⟨j - k - 1, by omega⟩
      rw [hd, List.getElem?_cons_succ, List.getElem?_drop] at h
      exact Or.inr (Or.inr ⟨by omega, by rw [show j - 1 = k + d by omega]; exact h⟩)
theorem ins_len {l : List Int} {k : Nat} {x : Int} (hk : k ≤ l.length) : (l.take k ++ x :: l.drop k).length = l.length + 1 := by simp; omega
set_option maxHeartbeats 2000000 in
theorem insert_any {B : Nat} {w : World} {u : Value} {l : List Int} (h : Ints B w u l) (x : Int) {k : Nat} (hk : k ≤ l.length) (hl : l.length ≤ 8) (hBw : B ≤ w.heap.size) :
    Calls Tryz.prog 257 #[u, .int .i64 (k : Int), .slice (some ⟨w.heap.size, 0, none⟩) 1 1] (w.alloc (.cells #[.int .i64 x] 3)) fun e w' => ∃ u', e = .returned u' ∧ Ints B w' u' (l.take k ++ x :: l.drop k) ∧ Fr u.ownBlock.toList w w' ∧ (u'.ownBlock = u.ownBlock ∨ ∃ q, u'.ownBlock = some q ∧ w.heap.size ≤ q) := by
  obtain ⟨W, hW⟩ : ∃ W, W = w.alloc (.cells #[.int .i64 x] 3) := ⟨_, rfl⟩
  have hWb : Below w.heap.size w W := by rw [hW]; exact bwA _ _
  have hWs : W.heap.size = w.heap.size + 1 := by rw [hW]; simp
  have hvb : W.heap[w.heap.size]? = some (.cells #[.int .i64 x] 3 (0, 0)) := by rw [hW]; exact heap_alloc_new _ _
  have hvs : ∀ j v, [Value.int .i64 x][j]? = some v → W.cell? ⟨w.heap.size, 0 + j, none⟩ = some v := fun j v hj => by
    cases j with
    | zero => simp at hj; subst hj; exact cell_of_blk hvb rfl
    | succ j => simp at hj
  have h1v : ∀ v ∈ [Value.int .i64 x], v.oneCell' = true := by intro v hv; simp at hv; subst hv; rfl
  have h1c : ∀ v ∈ l.map I64, v.oneCell' = true := by intro v hv; obtain ⟨z, _, rfl⟩ := List.mem_map.1 hv; rfl
  have hI : Ints B W u l := h.bw hWb
  rw [← hW]
  rcases hI.2 with ⟨rfl, h0⟩ | ⟨b, c, cur, rfl, hB, hb, hlc, hcm, hcs, hct⟩
  · have e : l = [] := List.eq_nil_of_length_eq_zero h0
    subst e
    obtain rfl : k = 0 := by simpa using hk
    refine (Any2.slices_Insert_int_end_grow laysIn none 0 0 w.heap.size 0 1 1 [] [.int .i64 x] W (by omega) (by omega) (by omega) (by omega) rfl rfl (fun _ => rfl) (fun a ha => by cases ha) hvs h1v).mono ?_
    rintro e w' ⟨rfl, rfl⟩
    have hc1 := grownCap_ge W (0 + 1) 0 (renIn.t 3)
    have hc2 := grownCap_le_maxLen W (0 + 1) 0 (renIn.t 3) (by unfold maxLen; omega)
    refine ⟨_, rfl, ?_, ?_, Or.inr ⟨W.heap.size, rfl, by omega⟩⟩
    · generalize grownCap W (0 + 1) 0 (renIn.t 3) = G at *
      have hz : (Builtin.zeroCells (Value.int .i64 0).cells (G - (0 + 1))).size = G - 1 := by simp [Builtin.zeroCells, Value.cells]
      refine ints_of_cells (l := [x]) (heap_alloc_new W.drew _) (by show B ≤ W.heap.size; omega) (by rw [Array.size_append, hz]; simp; omega) (by simpa using hc1) hc2 (fun j z hj => ?_)
      cases j with
      | zero =>
        simp at hj; subst hj
        refine cell_of_blk (heap_alloc_new W.drew _) ?_
        rw [Array.getElem?_append_left (by simp)]; rfl
      | succ j => simp at hj
    · exact ((Fr.ofBelow hWb).mono (by simp)).drew.alloc _
  · have hcell : ∀ j v, (l.map I64)[j]? = some v → W.cell? ⟨b, 0 + j, none⟩ = some v := fun j v hj => by
      rw [Nat.zero_add]; exact own_cell hI rfl hj
    have hcellz : ∀ j z, l[j]? = some z → W.cell? ⟨b, j, none⟩ = some (.int .i64 z) := fun j z hj => own_cell hI rfl (by simp [hj, I64])
    have hcs1 : cur.size = c := by omega
    have hspare : ∀ j, j < c → (W.cell? ⟨b, 0 + j, none⟩).isSome = true := fun j hj => by
      rw [Nat.zero_add, cell_of_blk (v := cur[j]'(by omega)) hb (by rw [Array.getElem?_eq_getElem])]; rfl
    have hfz : ∀ j, W.frozen? ⟨b, j, none⟩ = false := fun j => own_frozen hI rfl j
    have hne : w.heap.size ≠ b := by
      intro c; subst c
      have := (World.ownsRow.lt h w.heap.size rfl).2
      omega
    have hltb : b < W.heap.size := lt_of_blk hb
    have hfr0 : Fr [b] w W := (Fr.ofBelow hWb).mono (by simp)
    have hown : (Value.slice (some ⟨b, 0, none⟩) l.length c).ownBlock.toList = [b] := rfl
    rw [hown]
    rcases Nat.lt_or_ge l.length c with hroom | hroom
    · rcases Nat.lt_or_ge k l.length with hkn | hkn
      · have K := Any2.slices_Insert_int_shift laysIn b 0 l.length c k w.heap.size 0 1 1 (l.map I64) [.int .i64 x] W hkn (by omega) (by omega) (by unfold maxLen at hcm; omega) hne (by simp) rfl hcell (fun j hj => hspare j (by omega)) (fun j hj => hfz _) hvs h1c h1v 3 3 1 c
          (by simp [World.shape?, hvb]) (by simp [World.shape?, hb, hcs1]) (by omega) (by simp [World.frozen?, hvb]) (by simp [World.frozen?, hvb])
        refine K.mono ?_
        rintro e w' ⟨rfl, rfl⟩
        obtain ⟨c1, g1, z1⟩ := setCells_blk ((l.map I64).drop k) (0 + (k + 1)) W.drew cur hb
        obtain ⟨c2, g2, z2⟩ := setCells_blk [.int .i64 x] (0 + k) (W.drew.setCells b (0 + (k + 1)) ((l.map I64).drop k)) c1 g1
        refine ⟨_, rfl, ?_, (hfr0.drew.tr (fr_setCells _ _ _)).tr (fr_setCells _ _ _), Or.inl rfl⟩
        rw [← ins_len (x := x) hk]
        refine ints_of_cells g2 hB (by omega) (by rw [ins_len hk]; omega) hcm (fun j z hj => ?_)
        rcases ins_get hk hj with ⟨q1, q2⟩ | ⟨rfl, rfl⟩ | ⟨q1, q2⟩
        · rw [World.cell?_setCells_out _ _ _ _ _ (fun _ _ => Or.inl (by simp; omega)), World.cell?_setCells_out _ _ _ _ _ (fun _ _ => Or.inl (by simp; omega))]
          exact hcellz j z q2
        · have := World.cell?_setCells_in b [.int .i64 z] (0 + j) (W.drew.setCells b (0 + (j + 1)) ((l.map I64).drop j)) (fun i hi => by
            have : i = 0 := by simpa using hi
            subst this
            rw [World.cell?_setCells_out _ _ _ _ _ (fun _ _ => Or.inl (by simp))]
            exact hspare j (by omega)) 0 (by simp)
          simpa using this
        · rw [World.cell?_setCells_out _ _ _ _ _ (fun _ _ => Or.inr (by simp; omega))]
          have := World.cell?_setCells_in b ((l.map I64).drop k) (0 + (k + 1)) W.drew (fun i hi => by
            have hi : i < l.length - k := by simpa using hi
            exact (by have := hspare (k + 1 + i) (by omega); simpa [Nat.add_assoc] using this)) (j - (k + 1)) (by have := (List.getElem?_eq_some_iff.1 q2).1; simp; omega)
          rw [show 0 + (k + 1) + (j - (k + 1)) = j by omega] at this
          rw [this]
          have hlt := (List.getElem?_eq_some_iff.1 q2)
          simp only [List.getElem_drop, List.getElem_map, Option.some.injEq, I64, Value.int.injEq, true_and]
          have e3 : k + (j - (k + 1)) = j - 1 := by omega
          simp only [e3]; exact hlt.2
      · obtain rfl : k = l.length := by omega
        have K := Any2.slices_Insert_int_end_room laysIn b 0 l.length c w.heap.size 0 1 1 [.int .i64 x] W (by omega) (by omega) (by unfold maxLen at hcm; omega) rfl (fun j hj => by have := hspare (l.length + j) (by omega); simpa [Nat.add_assoc] using this) (fun j hj => hfz _) hvs h1v
        refine K.mono ?_
        rintro e w' ⟨rfl, rfl⟩
        obtain ⟨c1, g1, z1⟩ := setCells_blk [.int .i64 x] (0 + l.length) W cur hb
        refine ⟨_, rfl, ?_, hfr0.tr (fr_setCells _ _ _), Or.inl rfl⟩
        rw [← ins_len (x := x) hk]
        refine ints_of_cells g1 hB (by omega) (by rw [ins_len hk]; omega) hcm (fun j z hj => ?_)
        rcases ins_get hk hj with ⟨q1, q2⟩ | ⟨rfl, rfl⟩ | ⟨q1, q2⟩
        · rw [World.cell?_setCells_out _ _ _ _ _ (fun _ _ => Or.inl (by simp; omega))]
          exact hcellz j z q2
        · have := World.cell?_setCells_in b [.int .i64 z] (0 + l.length) W (fun i hi => by
            have : i = 0 := by simpa using hi
            subst this
            have := hspare l.length (by omega); simpa using this) 0 (by simp)
          simpa using this
        · have := (List.getElem?_eq_some_iff.1 q2).1; omega
    · have hc1 := grownCap_ge W (l.length + 1) c 3
      have hc2 := grownCap_le_maxLen W (l.length + 1) c 3 (by unfold maxLen; omega)
      rcases Nat.lt_or_ge k l.length with hkn | hkn
      · have K := Any2.slices_Insert_int_grow laysIn b 0 l.length c k w.heap.size 0 1 1 (l.map I64) [.int .i64 x] W hkn (by omega) hlc (by omega) (by omega) (by simp) rfl hcell hvs h1c h1v
        refine K.mono ?_
        rintro e w' ⟨rfl, rfl⟩
        obtain ⟨G, hG⟩ : ∃ G, G = grownCap W (l.length + 1) c 3 := ⟨_, rfl⟩
        have hG1 : l.length + 1 ≤ G := by rw [hG]; exact hc1
        have hG2 : G ≤ maxLen := by rw [hG]; exact hc2
        rw [show grownCap W (l.length + 1) c (renIn.t 3) = G from hG.symm]
        obtain ⟨C0, hC0⟩ : ∃ C0 : Array Value, C0 = ((l.map I64).take k).toArray ++ Builtin.zeroCells (Value.int .i64 0).cells (l.length + 1 - k) ++ Builtin.zeroCells (Value.int .i64 0).cells (G - (l.length + 1)) := ⟨_, rfl⟩
        have hC0s : C0.size = G := by rw [hC0]; simp [Builtin.zeroCells, Value.cells]; omega
        rw [← hC0]
        have hbn := heap_alloc_new W (.cells C0 (renIn.t 3))
        have hin : ∀ j, j < G → ((W.alloc (.cells C0 (renIn.t 3))).cell? ⟨W.heap.size, j, none⟩).isSome = true := fun j hj => by
          rw [cell_of_blk (v := C0[j]'(by omega)) hbn (by rw [Array.getElem?_eq_getElem])]; rfl
        have hpre : ∀ j z, j < k → l[j]? = some z → (W.alloc (.cells C0 (renIn.t 3))).cell? ⟨W.heap.size, j, none⟩ = some (.int .i64 z) := fun j z hj hz => by
          refine cell_of_blk hbn ?_
          rw [hC0, Array.append_assoc, Array.getElem?_append_left (by simp; omega)]
          simp [hj, hz, I64]
        obtain ⟨c1, g1, z1⟩ := setCells_blk [.int .i64 x] k (W.alloc (.cells C0 (renIn.t 3))).drew C0 hbn
        obtain ⟨c2, g2, z2⟩ := setCells_blk ((l.map I64).drop k) (k + 1) ((W.alloc (.cells C0 (renIn.t 3))).drew.setCells W.heap.size k [.int .i64 x]).drew c1 g1
        refine ⟨_, rfl, ?_, ?_, Or.inr ⟨W.heap.size, rfl, by omega⟩⟩
        · rw [← ins_len (x := x) hk]
          · refine ints_of_cells g2 (by omega) (by omega) (by rw [ins_len hk]; omega) hG2 (fun j z hj => ?_)
            rcases ins_get hk hj with ⟨q1, q2⟩ | ⟨rfl, rfl⟩ | ⟨q1, q2⟩
            · rw [World.cell?_setCells_out _ _ _ _ _ (fun _ _ => Or.inl (by simp; omega))]
              show ((W.alloc (.cells C0 (renIn.t 3))).drew.setCells W.heap.size k [.int .i64 x]).cell? _ = _
              rw [World.cell?_setCells_out _ _ _ _ _ (fun _ _ => Or.inl (by simp; omega))]
              exact hpre j z q1 q2
            · rw [World.cell?_setCells_out _ _ _ _ _ (fun _ _ => Or.inl (by simp))]
              show ((W.alloc (.cells C0 (renIn.t 3))).drew.setCells W.heap.size j [.int .i64 z]).cell? _ = _
              have := World.cell?_setCells_in W.heap.size [.int .i64 z] j (W.alloc (.cells C0 (renIn.t 3))).drew (fun i hi => by
                have : i = 0 := by simpa using hi
                subst this
                exact hin j (by omega)) 0 (by simp)
              simpa using this
            · have := World.cell?_setCells_in W.heap.size ((l.map I64).drop k) (k + 1) ((W.alloc (.cells C0 (renIn.t 3))).drew.setCells W.heap.size k [.int .i64 x]).drew (fun i hi => by
                have hi : i < l.length - k := by simpa using hi
                show (((W.alloc (.cells C0 (renIn.t 3))).drew.setCells W.heap.size k [.int .i64 x]).cell? _).isSome = true
                rw [World.cell?_setCells_out _ _ _ _ _ (fun _ _ => Or.inr (by simp <;> omega))]
                exact hin _ (by omega)) (j - (k + 1)) (by have := (List.getElem?_eq_some_iff.1 q2).1; simp; omega)
              rw [show (k + 1) + (j - (k + 1)) = j by omega] at this
              rw [this]
              have hlt := (List.getElem?_eq_some_iff.1 q2)
              simp only [List.getElem_drop, List.getElem_map, Option.some.injEq, I64, Value.int.injEq, true_and]
              have e3 : k + (j - (k + 1)) = j - 1 := by omega
              simp only [e3]; exact hlt.2
        · have hnx : ∀ y, y < w.heap.size → y ∈ [W.heap.size] → y ∈ ([] : List Nat) := fun y hy c => by
            have c : y = W.heap.size := by simpa using c
            omega
          have f1 : Fr [] w (W.alloc (.cells C0 (renIn.t 3))).drew := ((Fr.ofBelow hWb).alloc _).drew
          have f2 := f1.trans (T := []) (fr_setCells (b := W.heap.size) [.int .i64 x] k (W.alloc (.cells C0 (renIn.t 3))).drew) (fun _ _ c => c) (fun y hy c => hnx y hy c)
          exact ((f2.drew.trans (T := []) (fr_setCells (b := W.heap.size) ((l.map I64).drop k) (k + 1) _) (fun _ _ c => c) (fun y hy c => hnx y hy c))).mono (by simp)
      · obtain rfl : k = l.length := by omega
        have K := Any2.slices_Insert_int_end_grow laysIn (some ⟨b, 0, none⟩) l.length c w.heap.size 0 1 1 (l.map I64) [.int .i64 x] W (by omega) hlc (by omega) (by omega) (by simp) rfl (fun hh => by cases hh) (fun a ha j v hj => by cases ha; rw [show (⟨b, 0, none⟩ : Addr).add j = ⟨b, 0 + j, none⟩ by unfold Addr.add; by_cases q : j = 0 <;> simp [q]]; exact hcell j v hj) hvs h1v
        refine K.mono ?_
        rintro e w' ⟨rfl, rfl⟩
        refine ⟨_, rfl, ?_, (hfr0.drew.alloc _), Or.inr ⟨W.heap.size, rfl, by omega⟩⟩
        have e5 : l.take l.length ++ x :: l.drop l.length = l ++ [x] := by simp
        rw [e5]
        have hc1' : l.length + 1 ≤ grownCap W (l.length + 1) c (renIn.t 3) := hc1
        have hc2' : grownCap W (l.length + 1) c (renIn.t 3) ≤ maxLen := hc2
        have hx5 : (l ++ [x]).length = l.length + 1 := by simp
        generalize grownCap W (l.length + 1) c (renIn.t 3) = G at *
        have hz : (Builtin.zeroCells (Value.int .i64 0).cells (G - (l.length + 1))).size = G - (l.length + 1) := by simp [Builtin.zeroCells, Value.cells]
        rw [← hx5]
        refine ints_of_cells (heap_alloc_new W.drew _) (by show B ≤ W.heap.size; omega) (by rw [hx5, Array.size_append, hz]; simp <;> omega) (by omega) hc2' (fun j z hj => ?_)
        refine cell_of_blk (heap_alloc_new W.drew _) ?_
        rw [Array.getElem?_append_left (by have := (List.getElem?_eq_some_iff.1 hj).1; simpa using this)]
        have e6 : ((l.map I64) ++ [Value.int .i64 x]) = (l ++ [x]).map I64 := by simp [I64]
        simp only [List.getElem?_toArray]
        rw [e6, List.getElem?_map, hj]; rfl
end Go.Proofs.YtpgppnmobbgefaaGreatDoor
