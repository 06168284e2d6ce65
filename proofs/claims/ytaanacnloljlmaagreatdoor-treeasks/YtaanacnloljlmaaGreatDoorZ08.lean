/- Texts joined: TrK0 TrK TrL0 TrL1. -/
import Derived.Shelf.Spec.SlicesInsert
import Derived.Shelf.Spec.SlicesInsertGrow
import Derived.Laws.AppendOwn
import Derived.Test.YtaanacnloljlmaaGreatDoorZ07
/- The library's slices.Insert at []int: one number comes into a row of one's own. -/
namespace Go.Proofs.YtaanacnloljlmaaGreatDoor
open Go.Shelf Go.RowKit Go.Maps
def renIn : Go.Shelf.Ren := ⟨fun | 0 => 0 | 1 => 1 | 2 => 2 | 20 => 266 | 21 => 270 | 25 => 269 | 27 => 285 | 28 => 286 | 31 => 283 | 32 => 284 | 35 => 302 | 37 => 301 | 39 => 309 | 40 => 320 | 41 => 321 | 42 => 322 | 43 => 323 | 44 => 324 | 45 => 325 | 46 => 326 | 47 => 327 | 48 => 328 | 49 => 329 | 50 => 330 | 51 => 331 | 52 => 332 | 53 => 333 | 54 => 334 | 55 => 336 | n => n, fun | 0 => 0 | 1 => 1 | 2 => 2 | 3 => 3 | 4 => 4 | 5 => 5 | 6 => 6 | 7 => 7 | 8 => 8 | 9 => 9 | 10 => 10 | 11 => 11 | 12 => 12 | 13 => 13 | 14 => 14 | 15 => 15 | 16 => 16 | 17 => 17 | 18 => 18 | 19 => 19 | 20 => 20 | 21 => 21 | 22 => 31 | 23 => 83 | 24 => 133 | 28 => 379 | 33 => 372 | 34 => 378 | 36 => 33 | 37 => 384 | 40 => 94 | 41 => 116 | 42 => 107 | 45 => 71 | 46 => 413 | 47 => 414 | 48 => 415 | 49 => 416 | 50 => 417 | 51 => 418 | 52 => 419 | 53 => 394 | 54 => 420 | 55 => 421 | 56 => 422 | 57 => 423 | 58 => 424 | 59 => 425 | 60 => 426 | 61 => 427 | 62 => 428 | n => n, fun | n => n⟩
set_option maxRecDepth 100000 in
theorem laysIn : Go.Proofs.Lays2.n21 Tryz.prog renIn := {
  mixed := by kernel_rfl
  f21 := Tryz.func270.trans (congrArg some (by kernel_rfl))
  f27 := Tryz.func285.trans (congrArg some (by kernel_rfl))
  f28 := Tryz.func286.trans (congrArg some (by kernel_rfl))
  f35 := Tryz.func302.trans (congrArg some (by kernel_rfl))
  f39 := Tryz.func309.trans (congrArg some (by kernel_rfl))
  t0 := Tryz.underlying0
  a0 := Tryz.isAgg0
  z0 := Tryz.sizeOf0
  v0 := Tryz.zeroValue0
  t3 := Tryz.underlying3
  a3 := Tryz.isAgg3
  z3 := Tryz.sizeOf3
  v3 := Tryz.zeroValue3
  t4 := Tryz.underlying4
  a4 := Tryz.isAgg4
  z4 := Tryz.sizeOf4
  v4 := Tryz.zeroValue4
  t22 := Tryz.underlying31
  a22 := Tryz.isAgg31
  z22 := Tryz.sizeOf31
  v22 := Tryz.zeroValue31
  i3 := by kernel_rfl }

theorem setCells_blk {b : Nat} {t : TypeId} {z : Nat × Nat} : ∀ (vs : List Value) (o : Nat) (w : World) (cur : Array Value), w.heap[b]? = some (.cells cur t z) → ∃ cur', (w.setCells b o vs).heap[b]? = some (.cells cur' t z) ∧ cur'.size = cur.size
  | [], _, _, cur, h => ⟨cur, h, rfl⟩
  | v :: r, o, w, cur, h => by
    have h2 : (w.setCell ⟨b, o, none⟩ v).heap[b]? = some (.cells (cur.setIfInBounds o v) t z) := by simp [World.setCell, Array.getElem?_modify, h]
    obtain ⟨cur', h3, h4⟩ := setCells_blk r (o + 1) _ _ h2
    exact ⟨cur', h3, by rw [h4]; simp⟩
theorem fr_setCells {b : Nat} : ∀ (vs : List Value) (o : Nat) (w : World), Fr [b] w (w.setCells b o vs)
  | [], _, w => Fr.refl _ _
  | v :: r, o, w => ((Fr.refl [b] w).setCell (a := ⟨b, o, none⟩) (Or.inr (by simp)) v).tr (fr_setCells r (o + 1) _)
/-- A row is told by its block's cells. -/
theorem ints_of_cells {B : Nat} {w : World} {b c : Nat} {cur : Array Value} {l : List Int} (hb : w.heap[b]? = some (.cells cur 3 (0, 0))) (hB : B ≤ b) (hs : cur.size = c) (hl : l.length ≤ c) (hc : c ≤ maxLen) (hx : ∀ j z, l[j]? = some z → w.cell? ⟨b, j, none⟩ = some (.int .i64 z)) : Ints B w (.slice (some ⟨b, 0, none⟩) l.length c) l := by
  refine ⟨by simp, Or.inr ⟨b, c, cur, rfl, hB, hb, hl, hc, by omega, ?_⟩⟩
  apply List.ext_getElem?
  intro j
  rcases Nat.lt_or_ge j l.length with h | h
  · have h1 := hx j l[j] (List.getElem?_eq_getElem h)
    have h2 : cur[j]? = some (.int .i64 l[j]) := by simpa [World.cell?, hb] using h1
    rw [List.getElem?_take_of_lt (by omega), Array.getElem?_toList, h2]
    simp [I64, List.getElem?_eq_getElem h]
  · rw [List.getElem?_eq_none (by simp; omega), List.getElem?_eq_none (by simp; omega)]
theorem ins_get {l : List Int} {k : Nat} {x : Int} (hk : k ≤ l.length) {j : Nat} {z : Int} (h : (l.take k ++ x :: l.drop k)[j]? = some z) : (j < k ∧ l[j]? = some z) ∨ (j = k ∧ z = x) ∨ (k < j ∧ l[j - 1]? = some z) := by
  rcases Nat.lt_or_ge j k with c | c
  · rw [List.getElem?_append_left (by simp; omega), List.getElem?_take_of_lt c] at h
    exact Or.inl ⟨c, h⟩
  · rw [List.getElem?_append_right (by simp; omega)] at h
    simp only [List.length_take, Nat.min_eq_left hk] at h
    by_cases e : j = k
    · subst e; simp at h; exact Or.inr (Or.inl ⟨rfl, h.symm⟩)
    · obtain ⟨d, hd⟩ : ∃ d, j - k = d + 1 := ⟨j - k - 1, by omega⟩
      rw [hd, List.getElem?_cons_succ, List.getElem?_drop] at h
      exact Or.inr (Or.inr ⟨by omega, by rw [show j - 1 = k + d by omega]; exact h⟩)
theorem ins_len {l : List Int} {k : Nat} {x : Int} (hk : k ≤ l.length) : (l.take k ++ x :: l.drop k).length = l.length + 1 := by simp; omega
set_option maxHeartbeats 2000000 in
theorem insert_any {B : Nat} {w : World} {u : Value} {l : List Int} (h : Ints B w u l) (x : Int) {k : Nat} (hk : k ≤ l.length) (hl : l.length ≤ 8) (hBw : B ≤ w.heap.size) :
    Calls Tryz.prog 270 #[u, .int .i64 (k : Int), .slice (some ⟨w.heap.size, 0, none⟩) 1 1] (w.alloc (.cells #[.int .i64 x] 3)) fun e w' => ∃ u', e = .returned u' ∧ Ints B w' u' (l.take k ++ x :: l.drop k) ∧ Fr u.ownBlock.toList w w' ∧ (u'.ownBlock = u.ownBlock ∨ ∃ q, u'.ownBlock = some q ∧ w.heap.size ≤ q) := by
  obtain ⟨W, hW⟩ : ∃ W, W = w.alloc (.cells #[.int .i64 x] 3) := ⟨_, rfl⟩
  have hWb : Below w.heap.size w W := by rw [hW]; exact bwA _ _
  have hWs : W.heap.size = w.heap.size + 1 := by rw [hW]; simp
  have hvb : W.heap[w.heap.size]? = some (.cells #[.int .i64 x] 3 (0, 0)) := by rw [hW]; exact heap_alloc_new _ _
  have hvs : ∀ j v, [Value.int .i64 x][j]? = some v → W.cell? ⟨w.heap.size, 0 + j, none⟩ = some v := fun j v hj => by
    cases j with
    | zero => simp at hj; subst hj; exact cell_of_blk hvb rfl
    | succ j => simp at hj
  have h1v : ∀ v ∈ [Value.int .i64 x], v.oneCell' = true := by intro v hv; simp at hv; subst hv; rfl
  have h1c : ∀ v ∈ l.map I64, v.oneCell' = true := by intro v hv; obtain ⟨z, _, rfl⟩ := List.mem_map.1 hv; rfl
  have hI : Ints B W u l := h.bw hWb
  rw [← hW]
  rcases hI.2 with ⟨rfl, h0⟩ | ⟨b, c, cur, rfl, hB, hb, hlc, hcm, hcs, hct⟩
  · have e : l = [] := List.eq_nil_of_length_eq_zero h0
    subst e
    obtain rfl : k = 0 := by simpa using hk
    refine (Any2.slices_Insert_int_end_grow laysIn none 0 0 w.heap.size 0 1 1 [] [.int .i64 x] W (by omega) (by omega) (by omega) (by omega) rfl rfl (fun _ => rfl) (fun a ha => by cases ha) hvs h1v).mono ?_
    rintro e w' ⟨rfl, rfl⟩
    have hc1 := grownCap_ge W (0 + 1) 0 (renIn.t 3)
    have hc2 := grownCap_le_maxLen W (0 + 1) 0 (renIn.t 3) (by unfold maxLen; omega)
    refine ⟨_, rfl, ?_, ?_, Or.inr ⟨W.heap.size, rfl, by omega⟩⟩
    · generalize grownCap W (0 + 1) 0 (renIn.t 3) = G at *
      have hz : (Builtin.zeroCells (Value.int .i64 0).cells (G - (0 + 1))).size = G - 1 := by simp [Builtin.zeroCells, Value.cells]
      refine ints_of_cells (l := [x]) (heap_alloc_new W.drew _) (by show B ≤ W.heap.size; omega) (by rw [Array.size_append, hz]; simp; omega) (by simpa using hc1) hc2 (fun j z hj => ?_)
      cases j with
      | zero =>
        simp at hj; subst hj
        refine cell_of_blk (heap_alloc_new W.drew _) ?_
        rw [Array.getElem?_append_left (by simp)]; rfl
      | succ j => simp at hj
    · exact ((Fr.ofBelow hWb).mono (by simp)).drew.alloc _
  · have hcell : ∀ j v, (l.map I64)[j]? = some v → W.cell? ⟨b, 0 + j, none⟩ = some v := fun j v hj => by
      rw [Nat.zero_add]; exact own_cell hI rfl hj
    have hcellz : ∀ j z, l[j]? = some z → W.cell? ⟨b, j, none⟩ = some (.int .i64 z) := fun j z hj => own_cell hI rfl (by simp [hj, I64])
    have hcs1 : cur.size = c := by omega
    have hspare : ∀ j, j < c → (W.cell? ⟨b, 0 + j, none⟩).isSome = true := fun j hj => by
      rw [Nat.zero_add, cell_of_blk (v := cur[j]'(by omega)) hb (by rw [Array.getElem?_eq_getElem])]; rfl
    have hfz : ∀ j, W.frozen? ⟨b, j, none⟩ = false := fun j => own_frozen hI rfl j
    have hne : w.heap.size ≠ b := by
      intro c; subst c
      have := (World.ownsRow.lt h w.heap.size rfl).2
      omega
    have hltb : b < W.heap.size := lt_of_blk hb
    have hfr0 : Fr [b] w W := (Fr.ofBelow hWb).mono (by simp)
    have hown : (Value.slice (some ⟨b, 0, none⟩) l.length c).ownBlock.toList = [b] := rfl
    rw [hown]
    rcases Nat.lt_or_ge l.length c with hroom | hroom
    · rcases Nat.lt_or_ge k l.length with hkn | hkn
      · have K := Any2.slices_Insert_int_shift laysIn b 0 l.length c k w.heap.size 0 1 1 (l.map I64) [.int .i64 x] W hkn (by omega) (by omega) (by unfold maxLen at hcm; omega) hne (by simp) rfl hcell (fun j hj => hspare j (by omega)) (fun j hj => hfz _) hvs h1c h1v 3 3 1 c
          (by simp [World.shape?, hvb]) (by simp [World.shape?, hb, hcs1]) (by omega) (by simp [World.frozen?, hvb]) (by simp [World.frozen?, hvb])
        refine K.mono ?_
        rintro e w' ⟨rfl, rfl⟩
        obtain ⟨c1, g1, z1⟩ := setCells_blk ((l.map I64).drop k) (0 + (k + 1)) W.drew cur hb
        obtain ⟨c2, g2, z2⟩ := setCells_blk [.int .i64 x] (0 + k) (W.drew.setCells b (0 + (k + 1)) ((l.map I64).drop k)) c1 g1
        refine ⟨_, rfl, ?_, (hfr0.drew.tr (fr_setCells _ _ _)).tr (fr_setCells _ _ _), Or.inl rfl⟩
        rw [← ins_len (x := x) hk]
        refine ints_of_cells g2 hB (by omega) (by rw [ins_len hk]; omega) hcm (fun j z hj => ?_)
        rcases ins_get hk hj with ⟨q1, q2⟩ | ⟨rfl, rfl⟩ | ⟨q1, q2⟩
        · rw [World.cell?_setCells_out _ _ _ _ _ (fun _ _ => Or.inl (by simp; omega)), World.cell?_setCells_out _ _ _ _ _ (fun _ _ => Or.inl (by simp; omega))]
          exact hcellz j z q2
        · have := World.cell?_setCells_in b [.int .i64 z] (0 + j) (W.drew.setCells b (0 + (j + 1)) ((l.map I64).drop j)) (fun i hi => by
            have : i = 0 := by simpa using hi
            subst this
            rw [World.cell?_setCells_out _ _ _ _ _ (fun _ _ => Or.inl (by simp))]
            exact hspare j (by omega)) 0 (by simp)
          simpa using this
        · rw [World.cell?_setCells_out _ _ _ _ _ (fun _ _ => Or.inr (by simp; omega))]
          have := World.cell?_setCells_in b ((l.map I64).drop k) (0 + (k + 1)) W.drew (fun i hi => by
            have hi : i < l.length - k := by simpa using hi
            exact (by have := hspare (k + 1 + i) (by omega); simpa [Nat.add_assoc] using this)) (j - (k + 1)) (by have := (List.getElem?_eq_some_iff.1 q2).1; simp; omega)
          rw [show 0 + (k + 1) + (j - (k + 1)) = j by omega] at this
          rw [this]
          have hlt := (List.getElem?_eq_some_iff.1 q2)
          simp only [List.getElem_drop, List.getElem_map, Option.some.injEq, I64, Value.int.injEq, true_and]
          have e3 : k + (j - (k + 1)) = j - 1 := by omega
          simp only [e3]; exact hlt.2
      · obtain rfl : k = l.length := by omega
        have K := Any2.slices_Insert_int_end_room laysIn b 0 l.length c w.heap.size 0 1 1 [.int .i64 x] W (by omega) (by omega) (by unfold maxLen at hcm; omega) rfl (fun j hj => by have := hspare (l.length + j) (by omega); simpa [Nat.add_assoc] using this) (fun j hj => hfz _) hvs h1v
        refine K.mono ?_
        rintro e w' ⟨rfl, rfl⟩
        obtain ⟨c1, g1, z1⟩ := setCells_blk [.int .i64 x] (0 + l.length) W cur hb
        refine ⟨_, rfl, ?_, hfr0.tr (fr_setCells _ _ _), Or.inl rfl⟩
        rw [← ins_len (x := x) hk]
        refine ints_of_cells g1 hB (by omega) (by rw [ins_len hk]; omega) hcm (fun j z hj => ?_)
        rcases ins_get hk hj with ⟨q1, q2⟩ | ⟨rfl, rfl⟩ | ⟨q1, q2⟩
        · rw [World.cell?_setCells_out _ _ _ _ _ (fun _ _ => Or.inl (by simp; omega))]
          exact hcellz j z q2
        · have := World.cell?_setCells_in b [.int .i64 z] (0 + l.length) W (fun i hi => by
            have : i = 0 := by simpa using hi
            subst this
            have := hspare l.length (by omega); simpa using this) 0 (by simp)
          simpa using this
        · have := (List.getElem?_eq_some_iff.1 q2).1; omega
    · have hc1 := grownCap_ge W (l.length + 1) c 3
      have hc2 := grownCap_le_maxLen W (l.length + 1) c 3 (by unfold maxLen; omega)
      rcases Nat.lt_or_ge k l.length with hkn | hkn
      · have K := Any2.slices_Insert_int_grow laysIn b 0 l.length c k w.heap.size 0 1 1 (l.map I64) [.int .i64 x] W hkn (by omega) hlc (by omega) (by omega) (by simp) rfl hcell hvs h1c h1v
        refine K.mono ?_
        rintro e w' ⟨rfl, rfl⟩
        obtain ⟨G, hG⟩ : ∃ G, G = grownCap W (l.length + 1) c 3 := ⟨_, rfl⟩
        have hG1 : l.length + 1 ≤ G := by rw [hG]; exact hc1
        have hG2 : G ≤ maxLen := by rw [hG]; exact hc2
        rw [show grownCap W (l.length + 1) c (renIn.t 3) = G from hG.symm]
        obtain ⟨C0, hC0⟩ : ∃ C0 : Array Value, C0 = ((l.map I64).take k).toArray ++ Builtin.zeroCells (Value.int .i64 0).cells (l.length + 1 - k) ++ Builtin.zeroCells (Value.int .i64 0).cells (G - (l.length + 1)) := ⟨_, rfl⟩
        have hC0s : C0.size = G := by rw [hC0]; simp [Builtin.zeroCells, Value.cells]; omega
        rw [← hC0]
        have hbn := heap_alloc_new W (.cells C0 (renIn.t 3))
        have hin : ∀ j, j < G → ((W.alloc (.cells C0 (renIn.t 3))).cell? ⟨W.heap.size, j, none⟩).isSome = true := fun j hj => by
          rw [cell_of_blk (v := C0[j]'(by omega)) hbn (by rw [Array.getElem?_eq_getElem])]; rfl
        have hpre : ∀ j z, j < k → l[j]? = some z → (W.alloc (.cells C0 (renIn.t 3))).cell? ⟨W.heap.size, j, none⟩ = some (.int .i64 z) := fun j z hj hz => by
          refine cell_of_blk hbn ?_
          rw [hC0, Array.append_assoc, Array.getElem?_append_left (by simp; omega)]
          simp [hj, hz, I64]
        obtain ⟨c1, g1, z1⟩ := setCells_blk [.int .i64 x] k (W.alloc (.cells C0 (renIn.t 3))).drew C0 hbn
        obtain ⟨c2, g2, z2⟩ := setCells_blk ((l.map I64).drop k) (k + 1) ((W.alloc (.cells C0 (renIn.t 3))).drew.setCells W.heap.size k [.int .i64 x]).drew c1 g1
        refine ⟨_, rfl, ?_, ?_, Or.inr ⟨W.heap.size, rfl, by omega⟩⟩
        · rw [← ins_len (x := x) hk]
          · refine ints_of_cells g2 (by omega) (by omega) (by rw [ins_len hk]; omega) hG2 (fun j z hj => ?_)
            rcases ins_get hk hj with ⟨q1, q2⟩ | ⟨rfl, rfl⟩ | ⟨q1, q2⟩
            · rw [World.cell?_setCells_out _ _ _ _ _ (fun _ _ => Or.inl (by simp; omega))]
              show ((W.alloc (.cells C0 (renIn.t 3))).drew.setCells W.heap.size k [.int .i64 x]).cell? _ = _
              rw [World.cell?_setCells_out _ _ _ _ _ (fun _ _ => Or.inl (by simp; omega))]
              exact hpre j z q1 q2
            · rw [World.cell?_setCells_out _ _ _ _ _ (fun _ _ => Or.inl (by simp))]
              show ((W.alloc (.cells C0 (renIn.t 3))).drew.setCells W.heap.size j [.int .i64 z]).cell? _ = _
              have := World.cell?_setCells_in W.heap.size [.int .i64 z] j (W.alloc (.cells C0 (renIn.t 3))).drew (fun i hi => by
                have : i = 0 := by simpa using hi
                subst this
                exact hin j (by omega)) 0 (by simp)
              simpa using this
            · have := World.cell?_setCells_in W.heap.size ((l.map I64).drop k) (k + 1) ((W.alloc (.cells C0 (renIn.t 3))).drew.setCells W.heap.size k [.int .i64 x]).drew (fun i hi => by
                have hi : i < l.length - k := by simpa using hi
                show (((W.alloc (.cells C0 (renIn.t 3))).drew.setCells W.heap.size k [.int .i64 x]).cell? _).isSome = true
                rw [World.cell?_setCells_out _ _ _ _ _ (fun _ _ => Or.inr (by simp <;> omega))]
                exact hin _ (by omega)) (j - (k + 1)) (by have := (List.getElem?_eq_some_iff.1 q2).1; simp; omega)
              rw [show (k + 1) + (j - (k + 1)) = j by omega] at this
              rw [this]
              have hlt := (List.getElem?_eq_some_iff.1 q2)
              simp only [List.getElem_drop, List.getElem_map, Option.some.injEq, I64, Value.int.injEq, true_and]
              have e3 : k + (j - (k + 1)) = j - 1 := by omega
              simp only [e3]; exact hlt.2
        · have hnx : ∀ y, y < w.heap.size → y ∈ [W.heap.size] → y ∈ ([] : List Nat) := fun y hy c => by
            have c : y = W.heap.size := by simpa using c
            omega
          have f1 : Fr [] w (W.alloc (.cells C0 (renIn.t 3))).drew := ((Fr.ofBelow hWb).alloc _).drew
          have f2 := f1.trans (T := []) (fr_setCells (b := W.heap.size) [.int .i64 x] k (W.alloc (.cells C0 (renIn.t 3))).drew) (fun _ _ c => c) (fun y hy c => hnx y hy c)
          exact ((f2.drew.trans (T := []) (fr_setCells (b := W.heap.size) ((l.map I64).drop k) (k + 1) _) (fun _ _ c => c) (fun y hy c => hnx y hy c))).mono (by simp)
      · obtain rfl : k = l.length := by omega
        have K := Any2.slices_Insert_int_end_grow laysIn (some ⟨b, 0, none⟩) l.length c w.heap.size 0 1 1 (l.map I64) [.int .i64 x] W (by omega) hlc (by omega) (by omega) (by simp) rfl (fun hh => by cases hh) (fun a ha j v hj => by cases ha; rw [show (⟨b, 0, none⟩ : Addr).add j = ⟨b, 0 + j, none⟩ by unfold Addr.add; by_cases q : j = 0 <;> simp [q]]; exact hcell j v hj) hvs h1v
        refine K.mono ?_
        rintro e w' ⟨rfl, rfl⟩
        refine ⟨_, rfl, ?_, (hfr0.drew.alloc _), Or.inr ⟨W.heap.size, rfl, by omega⟩⟩
        have e5 : l.take l.length ++ x :: l.drop l.length = l ++ [x] := by simp
        rw [e5]
        have hc1' : l.length + 1 ≤ grownCap W (l.length + 1) c (renIn.t 3) := hc1
        have hc2' : grownCap W (l.length + 1) c (renIn.t 3) ≤ maxLen := hc2
        have hx5 : (l ++ [x]).length = l.length + 1 := by simp
        generalize grownCap W (l.length + 1) c (renIn.t 3) = G at *
        have hz : (Builtin.zeroCells (Value.int .i64 0).cells (G - (l.length + 1))).size = G - (l.length + 1) := by simp [Builtin.zeroCells, Value.cells]
        rw [← hx5]
        refine ints_of_cells (heap_alloc_new W.drew _) (by show B ≤ W.heap.size; omega) (by rw [hx5, Array.size_append, hz]; simp <;> omega) (by omega) hc2' (fun j z hj => ?_)
        refine cell_of_blk (heap_alloc_new W.drew _) ?_
        rw [Array.getElem?_append_left (by have := (List.getElem?_eq_some_iff.1 hj).1; simpa using this)]
        have e6 : ((l.map I64) ++ [Value.int .i64 x]) = (l ++ [x]).map I64 := by simp [I64]
        simp only [List.getElem?_toArray]
        rw [e6, List.getElem?_map, hj]; rfl
end Go.Proofs.YtaanacnloljlmaaGreatDoor

/- The contract of addUnmerged, on a node of a tree of one's own. -/
namespace Go.Proofs.YtaanacnloljlmaaGreatDoor
open Go.Shelf Go.RowKit Go.Maps

theorem take_count {u : Int} : ∀ {l : List Int}, l.Pairwise (· ≤ ·) → l.take (l.countP (· < u)) = l.takeWhile (fun z => decide (z < u)) ∧ l.drop (l.countP (· < u)) = l.dropWhile (fun z => decide (z < u))
  | [], _ => by simp
  | z :: l, h => by
    have hp := List.pairwise_cons.1 h
    by_cases c : z < u
    · obtain ⟨i1, i2⟩ := take_count hp.2 (u := u)
      rw [List.countP_cons_of_pos (by simpa using c), List.take_succ_cons, List.drop_succ_cons, List.takeWhile_cons_of_pos (by simpa using c), List.dropWhile_cons_of_pos (by simpa using c), i1, i2]
      exact ⟨rfl, rfl⟩
    · have h0 : (z :: l).countP (fun y => decide (y < u)) = 0 := by
        rw [List.countP_eq_zero]
        intro y hy
        rcases List.mem_cons.1 hy with rfl | hy
        · simpa using c
        · have := hp.1 y hy; simp; omega
      rw [h0, List.takeWhile_cons_of_neg (by simpa using c), List.dropWhile_cons_of_neg (by simpa using c)]
      exact ⟨rfl, rfl⟩
theorem insU_eq {u : Int} {l : List Int} (h : l.Pairwise (· ≤ ·)) : l.take (l.countP (· < u)) ++ u :: l.drop (l.countP (· < u)) = insU u l := by
  obtain ⟨h1, h2⟩ := take_count h (u := u)
  unfold insU; rw [h1, h2]
/-- A node of a tree of one's own is written anew, with another row. -/
theorem OTr.node {B : Nat} {w w' : World} {g m : Nat} {T : List Nd} {us : List Value} {x : Nat} {n n' : Nd} {u u' : Value} {S : List Nat} (h : OTr B w (.slice (some ⟨g, 0, none⟩) m m) T us) (hn : T[x]? = some n) (hu : us[x]? = some u) (hf : Fr S w w') (hS : ∀ k ∈ S, u.ownBlock = some k) (hr : Ints B w' u' n'.un) (hp : u'.ownBlock = u.ownBlock ∨ u'.ownBlock = none ∨ ∃ q, u'.ownBlock = some q ∧ w.heap.size ≤ q)
    {W : World} (hW : W.ownsRow B 88 4 (.slice (some ⟨g, 0, none⟩) m m) T.length (treeC (T.set x n') (us.set x u'))) (hfW : Fr [g] w' W) : OTr B W (.slice (some ⟨g, 0, none⟩) m m) (T.set x n') (us.set x u') := by
  have hx : x < T.length := (List.getElem?_eq_some_iff.1 hn).1
  have hg : ∀ (v : Value) (l : List Int), Ints B w' v l → ∀ k, v.ownBlock = some k → k ≠ g → Ints B W v l := fun v l hv k hk hne => own_keep hv (fun j hj => hfW.block j (World.ownsRow.lt hv j hj).2 (by rw [hk] at hj; cases hj; simpa using hne))
  have hgk : ∀ (v : Value) (l : List Int), Ints B w' v l → Ints B W v l := fun v l hv => own_keep hv (fun j hj => hfW.block j (World.ownsRow.lt hv j hj).2 (by
    intro c
    have c : j = g := by simpa using c
    subst c
    have row' : w'.heap[j]? = w.heap[j]? := hf.block j (World.ownsRow.lt h.row j rfl).2 (fun c => by
      have := hS j c
      exact own_apart (h.un x n u hn hu) h.row (show (3 : Nat) ≠ 88 by decide) this rfl)
    obtain ⟨cur, h1⟩ := own_kind hv hj
    obtain ⟨cur2, h2⟩ := own_kind h.row (k := j) rfl
    rw [row', h2] at h1
    simp at h1))
  have kp : ∀ (j : Nat) (m' : Nd) (v : Value), j ≠ x → T[j]? = some m' → us[j]? = some v → Ints B w' v m'.un := fun j m' v hj hm hv => own_keep (h.un j m' v hm hv) (fun k hk => hf.block k (World.ownsRow.lt (h.un j m' v hm hv) k hk).2 (fun c => hj (h.apart j x v u k hv hu hk (hS k c))))
  refine ⟨by simpa using h.ul, by simpa using hW, ?_, ?_⟩
  · intro j m' v hm hv
    by_cases c : j = x
    · subst c
      rw [List.getElem?_set_self hx] at hm
      rw [List.getElem?_set_self (by rw [h.ul]; exact hx)] at hv
      cases hm; cases hv
      exact hgk _ _ hr
    · rw [List.getElem?_set_ne (Ne.symm c)] at hm hv
      exact hgk _ _ (kp j m' v c hm hv)
  · intro i j v1 v2 k h1 h2 k1 k2
    have lt1 : ∀ (i : Nat) (v : Value), us[i]? = some v → v.ownBlock = some k → k < w.heap.size := fun i v hi hk => by
      obtain ⟨m1, hm1⟩ : ∃ m1, T[i]? = some m1 := ⟨_, List.getElem?_eq_getElem (by rw [← h.ul]; exact (List.getElem?_eq_some_iff.1 hi).1)⟩
      exact (World.ownsRow.lt (h.un i m1 v hm1 hi) k hk).2
    by_cases c1 : i = x <;> by_cases c2 : j = x
    · omega
    · subst c1
      rw [List.getElem?_set_self (by rw [h.ul]; exact hx)] at h1
      cases h1
      rw [List.getElem?_set_ne (Ne.symm c2)] at h2
      rcases hp with q | q | ⟨q, q1, q2⟩
      · rw [q] at k1; exact h.apart i j u v2 k hu h2 k1 k2
      · rw [q] at k1; cases k1
      · rw [q1] at k1; cases k1; have := lt1 j v2 h2 k2; omega
    · subst c2
      rw [List.getElem?_set_self (by rw [h.ul]; exact hx)] at h2
      cases h2
      rw [List.getElem?_set_ne (Ne.symm c1)] at h1
      rcases hp with q | q | ⟨q, q1, q2⟩
      · rw [q] at k2; exact h.apart i j v1 u k h1 hu k1 k2
      · rw [q] at k2; cases k2
      · rw [q1] at k2; cases k2; have := lt1 i v1 h1 k1; omega
    · rw [List.getElem?_set_ne (Ne.symm c1)] at h1
      rw [List.getElem?_set_ne (Ne.symm c2)] at h2
      exact h.apart i j v1 v2 k h1 h2 k1 k2
set_option maxRecDepth 100000 in
set_option maxHeartbeats 4000000 in
theorem addUnmerged_any {B : Nat} {w : World} {g m : Nat} {T : List Nd} {us : List Value} (h : OTr B w (.slice (some ⟨g, 0, none⟩) m m) T us) {x : Nat} {n : Nd} (hn : T[x]? = some n) (hs : n.un.Pairwise (· ≤ ·)) (hl : n.un.length ≤ 8) {i : Nat} (hB : B ≤ w.heap.size) :
    Calls Tryz.prog 247 #[.pointer (some ⟨g, x * 4, none⟩), .int .i64 (i : Int)] w fun e w' => e = .returned (.tuple #[]) ∧ ∃ us', OTr B w' (.slice (some ⟨g, 0, none⟩) m m) (T.set x (addU (i : Nat) n)) us' ∧ Mv w w' (g :: rrB us) (g :: rrB us') := by
  obtain ⟨u, hu⟩ : ∃ u, us[x]? = some u := ⟨_, List.getElem?_eq_getElem (by rw [h.ul]; exact (List.getElem?_eq_some_iff.1 hn).1)⟩
  have c0 : w.cell? ⟨g, x * 4, none⟩ = some (.int .i64 n.pub) := by simpa using own_cell h.row rfl (treeC_get hn hu (j := 0) rfl)
  have c3 : w.cell? ⟨g, x * 4 + 3, none⟩ = some u := own_cell h.row rfl (treeC_get hn hu (j := 3) rfl)
  have hfz : w.frozen? ⟨g, x * 4 + 3, none⟩ = false := own_frozen h.row rfl _
  by_cases hp : n.pub = 0
  · have e : addU (i : Nat) n = n := by unfold addU pos; simp [hp]
    rw [e, set_same hn]
    rw [hp] at c0
    have HH := hide h
    clear h hn hs hl
    go_enter Tryz.func247, Tryz.ntmps247
    go_wp2
    exact bodyPost_ret (v := .tuple #[]) (by simp [results, Tryz.results247, go_sem]) rfl ⟨rfl, us, unhide HH, Mv.refl _ _⟩
  · have e : addU (i : Nat) n = ⟨n.pub, n.mem, n.ep, insU (i : Nat) n.un⟩ := by unfold addU pos; simp [hp]
    rw [e]
    have hr := h.un x n u hn hu
    obtain ⟨a, c, rfl⟩ := own_slice hr
    obtain ⟨k, hk⟩ : ∃ k, k = n.un.countP (· < (i : Int)) := ⟨_, rfl⟩
    have hkl : k ≤ n.un.length := by rw [hk]; exact List.countP_le_length
    have KS : Hid (Calls Tryz.prog 269 #[.slice a n.un.length c, .int .i64 (i : Int)] w fun e w' => ∃ b, e = .returned (.tuple #[.int .i64 (k : Nat), .bool b]) ∧ ∃ q, w' = w.drewN q) := by
      unfold Hid
      rcases Nat.eq_zero_or_pos n.un.length with h0 | h0
      · have e0 : n.un = [] := List.eq_nil_of_length_eq_zero h0
        have : k = 0 := by rw [hk, e0]; rfl
        rw [this, h0]
        refine (Any.slices_BinarySearch_int_empty laysSe a c (i : Int) w).mono ?_
        rintro e w' ⟨rfl, rfl⟩
        exact ⟨_, rfl, 0, rfl⟩
      · obtain ⟨b, cap, hv, _⟩ := own_open hr h0
        cases hv
        refine (Any.slices_BinarySearch_int laysSe b 0 n.un.length c n.un (i : Int) w (Nat.le_refl _) (by omega) (fun j hj => ?_) (by rw [List.take_length]; exact hs)).mono ?_
        · have := own_cell hr rfl (j := j) (u := .int .i64 n.un[j]) (by simp [I64, List.getElem?_eq_getElem hj])
          simpa [List.getD, List.getElem?_eq_getElem hj] using this
        · rintro e w' ⟨rfl, q, rfl⟩
          rw [List.take_length, ← hk]
          exact ⟨_, rfl, q, rfl⟩
    have KI : Hid (∀ q, Calls Tryz.prog 270 #[.slice a n.un.length c, .int .i64 (k : Int), .slice (some ⟨w.heap.size, 0, none⟩) 1 1] ((w.drewN q).alloc (.cells #[.int .i64 (i : Int)] 3)) fun e w' => ∃ u', e = .returned u' ∧ Ints B w' u' (insU (i : Nat) n.un) ∧ Fr (Value.slice a n.un.length c).ownBlock.toList w w' ∧ (u'.ownBlock = (Value.slice a n.un.length c).ownBlock ∨ ∃ q, u'.ownBlock = some q ∧ w.heap.size ≤ q)) := fun q => by
      have hq : Below w.heap.size w (w.drewN q) := below_drewN (Below.refl _ _) q
      have hsq : (w.drewN q).heap.size = w.heap.size := by rw [World.heap_drewN]
      have := insert_any (hr.bw hq) (i : Int) hkl hl (by rw [hsq]; exact hB)
      rw [hk, insU_eq hs, ← hk, hsq] at this
      refine this.mono ?_
      rintro e w' ⟨u', h1, h2, h3, h4⟩
      exact ⟨u', h1, h2, ((Fr.ofBelow hq).mono (by simp)).tr h3, h4⟩
    have hp1 : (n.pub == 0) = false := by simp [hp]
    have hp2 : decide (n.pub = 0) = false := by simp [hp]
    have hk8 : (k : Int) ≤ 8 := by omega
    have HN := hide hn
    have HU := hide hu
    have HH := hide h
    have HRW := hide hr
    clear hs hkl hk hr e hp hn hu h
    generalize insU (i : Nat) n.un = L at *
    generalize n.un.length = N at *
    go_enter Tryz.func247, Tryz.ntmps247
    go_wp2_with fail
    refine (unhide KS).mono ?_
    rintro e w1 ⟨b, rfl, q, rfl⟩
    have KI2 := unhide KI q
    have bq : Below w.heap.size w (w.drewN q) := below_drewN (Below.refl _ _) q
    have hsq : (w.drewN q).heap.size = w.heap.size := by rw [World.heap_drewN]
    have c3q : (w.drewN q).cell? ⟨g, x * 4 + 3, none⟩ = some (.slice a N c) := cell_keep c3 (by rw [World.heap_drewN])
    have HSQ := hide hsq
    clear hsq
    generalize w.drewN q = w1 at *
    clear KS KI c0
    have HKI := hide KI2
    have hb1 : w1.heap.size = w.heap.size := unhide HSQ
    clear KI2
    go_wp2_with fail
    refine (unhide HKI).mono ?_
    rintro e w2 ⟨u', rfl, hu', hf, hpl⟩
    obtain ⟨a', c', rfl⟩ := own_slice hu'
    have hgn : g ∉ (Value.slice a N c).ownBlock.toList := fun q => by
      have q : (Value.slice a N c).ownBlock = some g := by simpa using q
      exact own_apart (unhide HRW) (unhide HH).row (show (3 : Nat) ≠ 88 by decide) q rfl
    have hgl : g < w.heap.size := lt_of_cell (a := ⟨g, x * 4 + 3, none⟩) c3
    have c32 : w2.cell? ⟨g, x * 4 + 3, none⟩ = some (.slice a N c) := cell_keep c3 (hf.block g hgl hgn)
    have hfz2 : w2.frozen? ⟨g, x * 4 + 3, none⟩ = false := by have := hfz; unfold World.frozen? at *; rw [hf.block g hgl hgn]; exact this
    have HF : Hid (OTr B (w2.setCell ⟨g, x * 4 + 3, none⟩ (.slice a' L.length c')) (.slice (some ⟨g, 0, none⟩) m m) (T.set x ⟨n.pub, n.mem, n.ep, L⟩) (us.set x (.slice a' L.length c')) ∧ Mv w (w2.setCell ⟨g, x * 4 + 3, none⟩ (.slice a' L.length c')) (g :: rrB us) (g :: rrB (us.set x (.slice a' L.length c')))) := by
      have row2 : w2.ownsRow B 88 4 (.slice (some ⟨g, 0, none⟩) m m) T.length (treeC T us) := own_keep (unhide HH).row (fun j hj => by cases hj; exact hf.block g hgl hgn)
      have row3 := own_set row2 (g := g) rfl (j := x * 4 + 3) (.slice a' L.length c')
      rw [treeC_setk (n' := ⟨n.pub, n.mem, n.ep, L⟩) (u' := .slice a' L.length c') (by decide) (unhide HN) (unhide HU) rfl] at row3
      have f3 : Fr [g] w2 (w2.setCell ⟨g, x * 4 + 3, none⟩ (.slice a' L.length c')) := (Fr.refl [g] w2).setCell (a := ⟨g, x * 4 + 3, none⟩) (Or.inr (by simp)) _
      refine ⟨(unhide HH).node (unhide HN) (unhide HU) hf (fun k hk => by simpa using hk) hu' (hpl.imp id Or.inr) row3 f3, ?_⟩
      refine ⟨hf.trans f3 (fun k _ hk => List.mem_cons_of_mem _ (mem_rrB.2 ⟨x, _, unhide HU, by simpa using hk⟩)) (fun k _ hk => by simp at hk; simp [hk]), fun k hk => ?_⟩
      rcases List.mem_cons.1 hk with rfl | hk
      · exact Or.inl (by simp)
      · obtain ⟨y, v, hy, hv⟩ := mem_rrB.1 hk
        by_cases cy : x = y
        · subst cy
          rw [List.getElem?_set_self (List.getElem?_eq_some_iff.1 (unhide HU)).1] at hy
          cases hy
          rcases hpl with q | ⟨q, q1, q2⟩
          · rw [q] at hv; exact Or.inl (List.mem_cons_of_mem _ (mem_rrB.2 ⟨x, _, unhide HU, hv⟩))
          · rw [q1] at hv; cases hv; exact Or.inr q2
        · rw [List.getElem?_set_ne cy] at hy
          exact Or.inl (List.mem_cons_of_mem _ (mem_rrB.2 ⟨y, v, hy, hv⟩))
    clear hu' hf hpl HKI
    go_wp2_with fail
    exact bodyPost_end (v := .tuple #[]) (by simp [results, Tryz.results247, go_sem]) rfl ⟨rfl, _, (unhide HF).1, (unhide HF).2⟩
end Go.Proofs.YtaanacnloljlmaaGreatDoor

/- A tree of one's own in a variable: what steps leave of it. Plain facts of trees that change. No walk is in this text. -/
namespace Go.Proofs.YtaanacnloljlmaaGreatDoor
open Go.RowKit Go.Maps

structure NX (W0 wr : World) (nb g m : Nat) (T : List Nd) (us : List Value) : Prop where
  bel : Below W0.heap.size W0 wr
  tr : OTr W0.heap.size wr (.slice (some ⟨g, 0, none⟩) m m) T us
  box : wr.heap[nb]? = some (.cells #[.slice (some ⟨g, 0, none⟩) m m] 24 (0, 0))
theorem OTr.len {B : Nat} {w : World} {g m c : Nat} {T : List Nd} {us : List Value} (h : OTr B w (.slice (some ⟨g, 0, none⟩) m c) T us) : m = T.length := by
  obtain ⟨a, c', e⟩ := own_slice h.row
  cases e; rfl
theorem NX.notin {W0 wr : World} {nb g m : Nat} {T : List Nd} {us : List Value} (h : NX W0 wr nb g m T us) : nb ∉ g :: rrB us := by
  intro c
  rcases List.mem_cons.1 c with rfl | c
  · obtain ⟨cur, e⟩ := own_kind h.tr.row (k := nb) rfl
    rw [h.box] at e
    simp at e
  · obtain ⟨i, u, hu, hk⟩ := mem_rrB.1 c
    obtain ⟨n, hn⟩ : ∃ n, T[i]? = some n := ⟨_, List.getElem?_eq_getElem (by rw [← h.tr.ul]; exact (List.getElem?_eq_some_iff.1 hu).1)⟩
    obtain ⟨cur, e⟩ := own_kind (h.tr.un i n u hn hu) hk
    rw [h.box] at e
    simp at e
theorem OTr.blocks {B : Nat} {w : World} {g m : Nat} {T : List Nd} {us : List Value} (h : OTr B w (.slice (some ⟨g, 0, none⟩) m m) T us) : ∀ k ∈ g :: rrB us, B ≤ k ∧ k < w.heap.size := by
  intro k c
  rcases List.mem_cons.1 c with rfl | c
  · exact World.ownsRow.lt h.row k rfl
  · obtain ⟨i, u, hu, hk⟩ := mem_rrB.1 c
    obtain ⟨n, hn⟩ : ∃ n, T[i]? = some n := ⟨_, List.getElem?_eq_getElem (by rw [← h.ul]; exact (List.getElem?_eq_some_iff.1 hu).1)⟩
    exact World.ownsRow.lt (h.un i n u hn hu) k hk
theorem NX.fr {W0 wr w' : World} {nb g m : Nat} {T T' : List Nd} {us us' : List Value} (h : NX W0 wr nb g m T us) (h' : OTr W0.heap.size w' (.slice (some ⟨g, 0, none⟩) m m) T' us') (hf : Fr (g :: rrB us) wr w') : NX W0 w' nb g m T' us' :=
  ⟨Fr.toBase h.bel hf (fun k hk => (h.tr.blocks k hk).1), h', by rw [hf.block nb (lt_of_blk h.box) h.notin]; exact h.box⟩
theorem NX.bw {W0 wr w' : World} {nb g m : Nat} {T : List Nd} {us : List Value} (h : NX W0 wr nb g m T us) (hb : Below wr.heap.size wr w') : NX W0 w' nb g m T us :=
  ⟨bw_tr h.bel hb, h.tr.bw hb, by rw [hb.block nb (lt_of_blk h.box)]; exact h.box⟩
theorem NX.cell {W0 wr : World} {nb g m : Nat} {T : List Nd} {us : List Value} (h : NX W0 wr nb g m T us) : wr.cell? ⟨nb, 0, none⟩ = some (.slice (some ⟨g, 0, none⟩) m m) := cell_of_blk h.box rfl
/-- The cells of a node. -/
theorem NX.at {W0 wr : World} {nb g m : Nat} {T : List Nd} {us : List Value} (h : NX W0 wr nb g m T us) {x : Nat} (hx : x < T.length) : ∃ u, us[x]? = some u ∧ NdC wr g (x * 4) (ndAt T x) u ∧ ∀ j, wr.frozen? ⟨g, j, none⟩ = false := by
  obtain ⟨u, hu⟩ : ∃ u, us[x]? = some u := ⟨_, List.getElem?_eq_getElem (by rw [h.tr.ul]; exact hx)⟩
  have hn := ndAt_of hx
  refine ⟨u, hu, ⟨?_, ?_, ?_, ?_⟩, fun j => own_frozen h.tr.row rfl j⟩
  · simpa using own_cell h.tr.row rfl (treeC_get hn hu (j := 0) rfl)
  · exact own_cell h.tr.row rfl (treeC_get hn hu (j := 1) rfl)
  · exact own_cell h.tr.row rfl (treeC_get hn hu (j := 2) rfl)
  · exact own_cell h.tr.row rfl (treeC_get hn hu (j := 3) rfl)
/-- A node that has no Unmerged is laid whole. -/
theorem NX.set4 {W0 wr : World} {nb g m : Nat} {T : List Nd} {us : List Value} (h : NX W0 wr nb g m T us) {x : Nat} (hx : x < T.length) (n : Nd) (hn : n.un = []) :
    NX W0 ((((wr.setCell ⟨g, x * 4, none⟩ (.int .i64 n.pub)).setCell ⟨g, x * 4 + 1, none⟩ (.int .i64 n.mem)).setCell ⟨g, x * 4 + 2, none⟩ (.int .i64 n.ep)).setCell ⟨g, x * 4 + 3, none⟩ (.slice none 0 0)) nb g m (T.set x n) (us.set x (.slice none 0 0)) := by
  obtain ⟨u, hu, _⟩ := h.at hx
  have r1 := own_set h.tr.row (g := g) rfl (j := x * 4) (.int .i64 n.pub)
  have r2 := own_set r1 (g := g) rfl (j := x * 4 + 1) (.int .i64 n.mem)
  have r3 := own_set r2 (g := g) rfl (j := x * 4 + 2) (.int .i64 n.ep)
  have r4 := own_set r3 (g := g) rfl (j := x * 4 + 3) (.slice none 0 0)
  rw [treeC_set n (.slice none 0 0) h.tr.ul hx] at r4
  have f : Fr [g] wr ((((wr.setCell ⟨g, x * 4, none⟩ (.int .i64 n.pub)).setCell ⟨g, x * 4 + 1, none⟩ (.int .i64 n.mem)).setCell ⟨g, x * 4 + 2, none⟩ (.int .i64 n.ep)).setCell ⟨g, x * 4 + 3, none⟩ (.slice none 0 0)) :=
    (((((Fr.refl [g] wr).setCell (a := ⟨g, x * 4, none⟩) (Or.inr (by simp)) _).setCell (a := ⟨g, x * 4 + 1, none⟩) (Or.inr (by simp)) _).setCell (a := ⟨g, x * 4 + 2, none⟩) (Or.inr (by simp)) _).setCell (a := ⟨g, x * 4 + 3, none⟩) (Or.inr (by simp)) _)
  generalize ((((wr.setCell ⟨g, x * 4, none⟩ (.int .i64 n.pub)).setCell ⟨g, x * 4 + 1, none⟩ (.int .i64 n.mem)).setCell ⟨g, x * 4 + 2, none⟩ (.int .i64 n.ep)).setCell ⟨g, x * 4 + 3, none⟩ (.slice none 0 0)) = W at *
  refine h.fr (OTr.node h.tr (ndAt_of hx) hu (Fr.refl [] wr) (by simp) (n' := n) (u' := .slice none 0 0) (by rw [hn]; exact ints_nil _ _) (Or.inr (Or.inl rfl)) r4 f) (f.mono (fun k _ hk => by simp at hk; simp [hk]))
/-- A field of a node. -/
theorem NX.set1 {W0 wr : World} {nb g m : Nat} {T : List Nd} {us : List Value} (h : NX W0 wr nb g m T us) {x k : Nat} (hk : k < 3) (hx : x < T.length) (n : Nd) (z : Int) (hun : n.un = (ndAt T x).un) (hz : ∀ u, (ndC (ndAt T x) u).set k (.int .i64 z) = ndC n u) :
    NX W0 (wr.setCell ⟨g, x * 4 + k, none⟩ (.int .i64 z)) nb g m (T.set x n) us := by
  obtain ⟨u, hu, _⟩ := h.at hx
  have r1 := own_set h.tr.row (g := g) rfl (j := x * 4 + k) (.int .i64 z)
  rw [treeC_setk (n' := n) (u' := u) (by omega) (ndAt_of hx) hu (hz u)] at r1
  have f : Fr [g] wr (wr.setCell ⟨g, x * 4 + k, none⟩ (.int .i64 z)) := (Fr.refl [g] wr).setCell (a := ⟨g, x * 4 + k, none⟩) (Or.inr (by simp)) _
  generalize wr.setCell ⟨g, x * 4 + k, none⟩ (.int .i64 z) = W at *
  have hO := OTr.node h.tr (ndAt_of hx) hu (Fr.refl [] wr) (by simp) (n' := n) (u' := u) (by rw [hun]; exact h.tr.un x _ u (ndAt_of hx) hu) (Or.inl rfl) r1 f
  rw [set_same hu] at hO
  exact h.fr hO (f.mono (fun k _ hk => by simp at hk; simp [hk]))
theorem frozen_of_blk {w : World} {b o : Nat} {cs : Array Value} {t : TypeId} (h : w.heap[b]? = some (.cells cs t (0, 0))) : w.frozen? ⟨b, o, none⟩ = false := by simp [World.frozen?, h]
theorem new1 {Y z : World} {o : Obj} (h : Below (Y.alloc o).heap.size (Y.alloc o) z) : z.heap[Y.heap.size]? = some o := by
  rw [h.block _ (by simp)]; exact heap_alloc_new _ _
theorem kept1 {z z' : World} {b : Nat} {o : Obj} (h : z.heap[b]? = some o) (hb : Below z.heap.size z z') : z'.heap[b]? = some o := by rw [hb.block b (lt_of_blk h)]; exact h
theorem nx_new {W0 z : World} {g m : Nat} {T : List Nd} {us : List Value} (x : Below W0.heap.size W0 z) (O : OTr W0.heap.size z (.slice (some ⟨g, 0, none⟩) m m) T us) : NX W0 (z.alloc (.cells #[.slice (some ⟨g, 0, none⟩) m m] 24)) z.heap.size g m T us :=
  ⟨x.alloc x.size _, O.bw (bwA _ _), heap_alloc_new _ _⟩
theorem nx_put {W0 z : World} {nb g m : Nat} {T : List Nd} {us : List Value} (x : Below W0.heap.size W0 z) (O : OTr W0.heap.size z (.slice (some ⟨g, 0, none⟩) m m) T us) (k : z.heap[nb]? = some (.cells #[.slice none 0 0] 24 (0, 0))) (hnb : W0.heap.size ≤ nb) : NX W0 (z.setCell ⟨nb, 0, none⟩ (.slice (some ⟨g, 0, none⟩) m m)) nb g m T us := by
  have hn : nb ∉ g :: rrB us := by
    intro c
    rcases List.mem_cons.1 c with rfl | c
    · obtain ⟨cur, e⟩ := own_kind O.row (k := nb) rfl
      rw [k] at e; simp at e
    · obtain ⟨i, u, hu, hk⟩ := mem_rrB.1 c
      obtain ⟨n, hn⟩ : ∃ n, T[i]? = some n := ⟨_, List.getElem?_eq_getElem (by rw [← O.ul]; exact (List.getElem?_eq_some_iff.1 hu).1)⟩
      obtain ⟨cur, e⟩ := own_kind (O.un i n u hn hu) hk
      rw [k] at e; simp at e
  refine ⟨x.setCell hnb _, ?_, by simp [World.setCell, Array.getElem?_modify, k]⟩
  exact ⟨O.ul, own_keep O.row (fun j hj => Below.heap_setCell _ _ _ _ (by simp; intro c; subst c; cases hj; simp at hn)), fun i n u h1 h2 => own_keep (O.un i n u h1 h2) (fun j hj => Below.heap_setCell _ _ _ _ (by simp; intro c; subst c; exact hn (List.mem_cons_of_mem _ (mem_rrB.2 ⟨i, u, h2, hj⟩)))), O.apart⟩
end Go.Proofs.YtaanacnloljlmaaGreatDoor

/- Plain facts of a tree to which someone comes. -/
namespace Go.Proofs.YtaanacnloljlmaaGreatDoor
open Go.RowKit Go.Maps

theorem unM_sorted {T : List Nd} {L : Int} : ∀ {l : List Int} {f : Int}, unM T f L l = true → l.Pairwise (· < ·) ∧ ∀ u ∈ l, f ≤ u
  | [], _, _ => ⟨List.Pairwise.nil, by simp⟩
  | u :: us, f, h => by
    simp only [unM, Bool.and_eq_true, decide_eq_true_eq] at h
    obtain ⟨⟨⟨h1, h2⟩, h3⟩, h4⟩ := h
    obtain ⟨i1, i2⟩ := unM_sorted h4
    refine ⟨List.Pairwise.cons (fun z hz => by have := i2 z hz; omega) i1, fun z hz => ?_⟩
    rcases List.mem_cons.1 hz with rfl | hz
    · exact h1
    · have := i2 z hz; omega
theorem un_ok {T : List Nd} (h : mayB T = true) (x : Nat) : (ndAt T x).un.Pairwise (· ≤ ·) ∧ (ndAt T x).un.length ≤ 8 := by
  rcases Nat.lt_or_ge x T.length with c | c
  · have ok := mayB_okn h (by omega)
    refine ⟨?_, (ok.sm x c).1⟩
    rcases ndM_un (ok.nd x c) with e | ⟨_, _, e⟩
    · rw [e]; exact List.Pairwise.nil
    · exact (unM_sorted e).1.imp (fun h => by omega)
  · rw [ndAt_ge c]; exact ⟨List.Pairwise.nil, by simp [nd0]⟩
theorem un_len {T : List Nd} (h : mayB T = true) : ∀ n ∈ T, n.un.length ≤ 8 := by
  intro n hn
  obtain ⟨i, hi⟩ := List.mem_iff_getElem?.1 hn
  have hlt := (List.getElem?_eq_some_iff.1 hi).1
  rw [ndAt_of hlt] at hi
  cases hi
  exact (un_ok h i).2
theorem fb_le (T : List Nd) : fb T ≤ nlv T := by
  unfold fb; rw [← lvs_len]; exact List.findIdx_le_length
theorem nlv_sizes {T : List Nd} (h : mayB T = true) : nlv T = 0 ∨ nlv T ∈ sizes := by
  rcases mayB_wd h with rfl | h
  · exact Or.inl rfl
  · exact Or.inr h.facts.1
theorem wRoom_sizes {T : List Nd} (h : mayB T = true) (h8 : fb T ≠ 8) : wRoom (nlv T) (fb T) ∈ sizes ∧ fb T < wRoom (nlv T) (fb T) ∧ nlv T ≤ 8 := by
  have hle := fb_le T
  have hn := nlv_sizes h
  unfold wRoom
  simp [sizes] at hn ⊢
  split
  · omega
  · split <;> omega
theorem onAll_nil (f : Nd → Nd) (T : List Nd) : onAll f [] T = T := rfl
theorem onAll_snoc (f : Nd → Nd) (l : List Nat) (x : Nat) (T : List Nd) : onAll f (l ++ [x]) T = (onAll f l T).set x (f (ndAt (onAll f l T) x)) := by
  unfold onAll; rw [List.foldl_append]; rfl
theorem onAll_len (f : Nd → Nd) (l : List Nat) (T : List Nd) : (onAll f l T).length = T.length := by
  unfold onAll
  induction l generalizing T with
  | nil => rfl
  | cons x l ih => rw [List.foldl_cons, ih]; simp
theorem ndAt_set (T : List Nd) (x y : Nat) (n : Nd) : ndAt (T.set x n) y = if x = y ∧ y < T.length then n else ndAt T y := by
  unfold ndAt
  rw [List.getD_eq_getElem?_getD, List.getD_eq_getElem?_getD, List.getElem?_set]
  by_cases c : x = y
  · subst c
    by_cases c2 : x < T.length
    · simp [c2]
    · simp [c2]
  · simp [c]
theorem onAll_cons (f : Nd → Nd) (x : Nat) (l : List Nat) (T : List Nd) : onAll f (x :: l) T = onAll f l (T.set x (f (ndAt T x))) := rfl
theorem ndAt_onAll (f : Nd → Nd) : ∀ (l : List Nat) (T : List Nd) (y : Nat), l.Nodup → ndAt (onAll f l T) y = if y ∈ l ∧ y < T.length then f (ndAt T y) else ndAt T y := by
  intro l
  induction l with
  | nil => intro T y _; simp [onAll_nil]
  | cons x l ih =>
    intro T y hd
    have hd := List.nodup_cons.1 hd
    rw [onAll_cons, ih _ _ hd.2, ndAt_set, List.length_set]
    by_cases c : y = x
    · subst c
      have : y ∉ l := hd.1
      by_cases c2 : y < T.length <;> simp [this, c2]
    · have c' : ¬ x = y := fun h => c h.symm
      simp [c, c']
end Go.Proofs.YtaanacnloljlmaaGreatDoor
