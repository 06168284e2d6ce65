/- markCard, isCard, TwinCards, LeftCards. -/
import Derived.Test.YtihniafidgjlcaaGreatDoorZ23
import Derived.Test.YtihniafidgjlcaaGreatDoorZ18
import Derived.Deep.RegionHeld3
namespace Go.Proofs.YtihniafidgjlcaaGreatDoor
open Go.RowKit Go.Maps
theorem Tryz.infoCards : (Tryz.prog.info? 44).map (fun i => (i.zero, i.size, i.bytes)) = some (some (.agg #[.int .i64 0, .int .i64 0, .int .i64 0]), 3, 24) := by kernel_rfl
theorem Tryz.sizeCards : (Tryz.prog.info? 44).map (·.size) = some 3 := by kernel_rfl
theorem slice_roomCards (w : World) (g n cap i : Nat) (hi : i ≤ cap) : (Instr.slice 56 (.slice (some ⟨g, 0, none⟩) n cap) none (some (.int .i64 (i : Int))) none).run Tryz.prog w = .ok (.slice (some ⟨g, 0, none⟩) i cap) w := by
  have ht : Tryz.prog.underlying 56 = some (.slice (Tryz.prog.elem 56)) := by kernel_rfl
  have he : Tryz.prog.elem 56 = 44 := by kernel_rfl
  have hs : (Go.sizeOf 44).run Tryz.prog w = .ok 3 w := by kernel_rfl
  rw [run_slice_h (P := Tryz.prog) w 56 (some ⟨g, 0, none⟩) n cap ht .i64 i (by omega) (by omega), he, hs]
  simp [Result.andThen, sliced, Addr.add]
set_option maxRecDepth 100000 in
theorem markCards_any (n : Nat) (w : World) (h : n ≤ 1200000) :
    Calls Tryz.prog 44 #[.int .i64 (n : Int)] w fun e w' => e = .returned (.agg #[.int .i64 (mk1 n), .int .i64 0, .int .i64 0]) ∧ Below w.heap.size w w' := by
  have hb : (n : Int) ≤ 1200000 := by omega
  clear h
  unfold mk1
  go_enter Tryz.func44, Tryz.ntmps44
  go_wp2
  exact bodyPost_ret (v := .agg #[.int .i64 (-1000 - (n : Int)), .int .i64 0, .int .i64 0]) (by simp [results, Tryz.results44, go_sem]) rfl ⟨rfl, bwA _ _⟩
set_option maxRecDepth 100000 in
set_option maxHeartbeats 2000000 in
theorem isCards_any (n : Nat) (w : World) (h : n ≤ 1200000) :
    Calls Tryz.prog 51 #[.agg #[.int .i64 (mk1 n), .int .i64 0, .int .i64 0], .int .i64 (n : Int)] w fun e w' => e = .returned (.bool true) ∧ Below w.heap.size w w' := by
  have HK : Hid (∀ W, Calls Tryz.prog 44 #[.int .i64 (n : Int)] W fun e w' => e = .returned (.agg #[.int .i64 (mk1 n), .int .i64 0, .int .i64 0]) ∧ Below W.heap.size W w') := fun W => markCards_any n W h
  have hb1 : -9223372036854775808 ≤ mk1 n ∧ mk1 n ≤ 9223372036854775807 := by unfold mk1; omega
  have he := fun W => equal_Cards W (mk1 n) 0 0 hb1 (by omega) (by omega)
  obtain ⟨w0, hw0⟩ : ∃ w0, w0 = w.alloc (.cells #[.int .i64 (mk1 n), .int .i64 0, .int .i64 0] 44) := ⟨_, rfl⟩
  have b0 : Below w.heap.size w w0 := by rw [hw0]; exact bwA _ _
  have k0 : w0.heap[w.heap.size]? = some (.cells #[.int .i64 (mk1 n), .int .i64 0, .int .i64 0] 44 (0, 0)) := by rw [hw0]; exact heap_alloc_new _ _
  have HS : Hid (∀ W, Below w0.heap.size w0 W → (W.cell? ⟨w.heap.size, 0, none⟩ = some (.int .i64 (mk1 n)) ∧ W.cell? ⟨w.heap.size, 1, none⟩ = some (.int .i64 0) ∧ W.cell? ⟨w.heap.size, 2, none⟩ = some (.int .i64 0)) ∧ Below w.heap.size w W) := fun W hW => ⟨⟨blk_c (kept_b k0 (lt_of_blk k0) hW) rfl, blk_c (kept_b k0 (lt_of_blk k0) hW) rfl, blk_c (kept_b k0 (lt_of_blk k0) hW) rfl⟩, bw_tr b0 hW⟩
  have S0 := (unhide HS w0 (Below.refl _ _)).1
  have S00 : (w0.drew.cell? ⟨w.heap.size, 0, none⟩ = some (.int .i64 (mk1 n)) ∧ w0.drew.cell? ⟨w.heap.size, 1, none⟩ = some (.int .i64 0) ∧ w0.drew.cell? ⟨w.heap.size, 2, none⟩ = some (.int .i64 0)) := S0
  have BD : Hid (Below w0.heap.size w0 w0.drew) := (Below.refl _ _).drew
  have HW := hide hw0
  clear h hw0 b0 k0 hb1
  generalize mk1 n = m at *
  go_enter Tryz.func51, Tryz.ntmps51
  go_upto_region 1 with fail
  rw [← unhide HW]
  clear HW
  go_region_held3 (fun w' : World => (w'.cell? ⟨w.heap.size, 0, none⟩ = some (.int .i64 m) ∧ w'.cell? ⟨w.heap.size, 1, none⟩ = some (.int .i64 0) ∧ w'.cell? ⟨w.heap.size, 2, none⟩ = some (.int .i64 0))) (first | with_reducible exact S0 | with_reducible exact S00 | with_reducible exact S1) (first
    | (go_at_call 44; refine (unhide HK _).mono ?_; rintro e z1 ⟨rfl, b1⟩; obtain ⟨S1, B1⟩ := unhide HS z1 (bw_tr (unhide BD) b1))
    | fail)
  all_goals
    go_wp2_with fail
    go_ret
    exact ⟨rfl, B1⟩
theorem copyCards (w : World) (v : Value) (l : List (List Int)) (hv : RI 3 w v l) : ∃ wc, (∀ ty, (Builtin.copy_ #[56, 56] ty #[.slice (some ⟨w.heap.size, 0, none⟩) l.length (l.length + 2), v]).run Tryz.prog (w.alloc (.cells (madeCells (Value.agg #[.int .i64 0, .int .i64 0, .int .i64 0]).cells ((l.length + 2) * 3)) 44)) = .ok (goInt l.length) wc) ∧
    wc.heap[w.heap.size]? = some (.cells (twR l (zrs 3) (zrs 3)) 44 (0, 0)) ∧ Below w.heap.size w wc := by
  obtain ⟨_, hfit, a, cap, rfl, hc⟩ := hv
  have hall : ∀ x ∈ l, x.length = 3 := fun x hx => (hfit x hx).1
  obtain ⟨cur, hcur⟩ : ∃ cur, cur = madeCells (Value.agg #[.int .i64 0, .int .i64 0, .int .i64 0]).cells ((l.length + 2) * 3) := ⟨_, rfl⟩
  have hcs : cur.toList = rwC (List.replicate (l.length + 2) (zrs 3)) := by rw [hcur]; exact made_rows 3 (l.length + 2) (by omega)
  have hrl : ∀ q ∈ List.replicate (l.length + 2) (zrs 3), q.length = 3 := fun q hq => by have := List.eq_of_mem_replicate hq; subst this; rfl
  have hcz : cur.toList.length = (l.length + 2) * 3 := by rw [hcs, rwC_len hrl]; simp
  rw [← hcur]
  have hG := heap_alloc_new w (.cells cur 44)
  have hb := bwA w (.cells cur 44)
  have hlen := rwC_len hall
  have hdrop : cur.toList.drop (l.length * 3) = icC (zrs 3) ++ icC (zrs 3) := by
    rw [hcs]
    have e : List.replicate (l.length + 2) (zrs 3) = List.replicate l.length (zrs 3) ++ [zrs 3, zrs 3] := by
      rw [← List.replicate_append_replicate]; rfl
    rw [e]
    unfold rwC
    rw [List.flatMap_append]
    have h2 : (List.flatMap icC (List.replicate l.length (zrs 3))).length = l.length * 3 := by
      have := rwC_len (c := 3) (l := List.replicate l.length (zrs 3)) (fun q hq => by have := List.eq_of_mem_replicate hq; subst this; rfl)
      simpa [rwC] using this
    rw [List.drop_left' h2]
    rfl
  rcases hc with hc | ⟨g, o, rfl, hc⟩
  · subst hc
    refine ⟨w.alloc (.cells cur 44), fun ty => copy_none _ _ _ _ 44 _ _ _ _ 3 Tryz.underlying56 Tryz.sizeCards, ?_, hb⟩
    rw [hG]
    have : cur = twR [] (zrs 3) (zrs 3) := by apply Array.toList_inj.1; simpa [twR, rwC] using hdrop
    rw [this]
  · have hr := fun ty => run_copy_rows (P := Tryz.prog) (w.alloc (.cells cur 44)) 56 56 ty 44 w.heap.size l.length (l.length + 2) ⟨g, o, none⟩ l.length cap 3 cur 44 (rwC l) Tryz.underlying56 Tryz.sizeCards hG (by rw [hlen]; simp) (fun j u hj => by
        have hjl : j < l.length * 3 := by rw [← hlen]; exact (List.getElem?_eq_some_iff.1 hj).1
        obtain ⟨q, r, hr, rfl⟩ : ∃ q r, r < 3 ∧ j = q * 3 + r := ⟨j / 3, j % 3, by omega, by omega⟩
        obtain ⟨x, hx⟩ : ∃ x, l[q]? = some x := ⟨_, List.getElem?_eq_getElem (by omega)⟩
        obtain ⟨z, hz⟩ : ∃ z, x[r]? = some z := ⟨_, List.getElem?_eq_getElem (by rw [hall x (List.mem_of_getElem? hx)]; exact hr)⟩
        have h1 := rwC_get hall hx hz
        rw [h1] at hj
        cases hj
        have h2 := hc q x hx r z hz
        have e : ∀ k, (⟨g, o, none⟩ : Addr).add k = ⟨g, o + k, none⟩ := fun k => by cases k <;> simp [Addr.add]
        rw [e, ← Nat.add_assoc, hb.cell (World.block_lt_of_cell? w _ h2)]
        exact h2) (by rw [hlen]; have := hcz; simp at this; omega) (fun u hu => by
        obtain ⟨z, _, hz⟩ := List.mem_flatMap.1 hu
        obtain ⟨y, _, rfl⟩ := List.mem_map.1 hz
        rfl)
    refine ⟨(w.alloc (.cells cur 44)).setRow w.heap.size (rwC l ++ cur.toList.drop (rwC l).length).toArray, fun ty => by rw [hr ty]; simp, ?_, ?_⟩
    · rw [setRow_heap _ _ cur _ 44 _ hG, hlen, hdrop]
      rfl
    · refine ⟨hb.os, hb.tape, hb.output, ?_, fun k hk => ?_⟩
      · simp
      · rw [setRow_other _ _ _ _ (by omega)]; exact hb.block k hk
theorem setCards1 {w : World} {l : List (List Int)} {x y : List Int} {W : World} (hall : ∀ q ∈ l, q.length = 3) (hx : x = zrs 3) (h : W.heap[w.heap.size]? = some (.cells (twR l x y) 44 (0, 0))) (n : Nat) : ((((W.setCell ⟨w.heap.size, l.length * 3, none⟩ (.int .i64 (mk1 n))).setCell ⟨w.heap.size, l.length * 3 + 1, none⟩ (.int .i64 0)).setCell ⟨w.heap.size, l.length * 3 + 2, none⟩ (.int .i64 0))).heap[w.heap.size]? = some (.cells (twR l (mkR 3 n) y) 44 (0, 0)) := by
  subst hx
  rw [poke_b (poke_b (poke_b h _) _) _]
  congr 2
  apply Array.toList_inj.1
  have hl := rwC_len hall
  simp [twR, List.set_append_right, hl, icC, zrs, mkR, mk1, List.replicate]
theorem setCards2 {w : World} {l : List (List Int)} {x y : List Int} {W : World} (hall : ∀ q ∈ l, q.length = 3) (hx : x.length = 3) (hy : y = zrs 3) (h : W.heap[w.heap.size]? = some (.cells (twR l x y) 44 (0, 0))) (n : Nat) : ((((W.setCell ⟨w.heap.size, (l.length + 1) * 3, none⟩ (.int .i64 (mk1 n))).setCell ⟨w.heap.size, (l.length + 1) * 3 + 1, none⟩ (.int .i64 0)).setCell ⟨w.heap.size, (l.length + 1) * 3 + 2, none⟩ (.int .i64 0))).heap[w.heap.size]? = some (.cells (twR l x (mkR 3 n)) 44 (0, 0)) := by
  subst hy
  rw [poke_b (poke_b (poke_b h _) _) _]
  congr 2
  apply Array.toList_inj.1
  have hl := rwC_len hall
  have hix : (icC x).length = 3 := by simp [icC, hx]
  have hw : (rwC l ++ icC x).length = (l.length + 1) * 3 := by rw [List.length_append, hl, hix]; omega
  simp only [twR, Array.toList_setIfInBounds]
  rw [← List.append_assoc]
  rw [List.set_append_right _ _ (by omega), List.set_append_right _ _ (by omega), List.set_append_right _ _ (by omega), hw]
  simp only [Nat.sub_self, Nat.add_sub_cancel_left]
  rw [List.append_assoc]
  rfl
theorem belCards {w W : World} (h : Below w.heap.size w W) (i : Nat) (v0 v1 v2 : Value) : Below w.heap.size w ((((W.setCell ⟨w.heap.size, i, none⟩ v0).setCell ⟨w.heap.size, i + 1, none⟩ v1).setCell ⟨w.heap.size, i + 2, none⟩ v2)) := by
  refine ⟨h.os, h.tape, h.output, ?_, fun k hk => ?_⟩
  · have := h.size; simp [World.setCell]; exact this
  · rw [other_c (by omega), other_c (by omega), other_c (by omega)]
    exact h.block k hk
set_option maxRecDepth 100000 in
set_option maxHeartbeats 4000000 in
theorem twinCards_any (w : World) (v : Value) (l : List (List Int)) (hv : RI 3 w v l) (hl : l.length ≤ 262144) :
    Calls Tryz.prog 20 #[v] w fun e w' => e = .returned (.slice (some ⟨w.heap.size, 0, none⟩) l.length (l.length + 2)) ∧ TwR 3 44 w' w.heap.size l ∧ Below w.heap.size w w' := by
  obtain ⟨wc, hcp, hcell, hbel⟩ := copyCards w v l hv
  have hall : ∀ x ∈ l, x.length = 3 := fun x hx => (hv.fit x hx).1
  obtain ⟨_, _, a, cap, rfl, _⟩ := hv
  obtain ⟨i0, hi, hz0, hz1, hz2⟩ := info_parts Tryz.infoCards
  have hmk := run_makeSlice (P := Tryz.prog) w 56 44 i0 (.agg #[.int .i64 0, .int .i64 0, .int .i64 0]) Tryz.underlying56 hi hz0 .i64 .i64 (l.length : Int) ((l.length : Int) + 2) (by omega) (by omega) (by rw [hz1]; omega) (by rw [hz2]; omega) (by omega)
  rw [hz1] at hmk
  have e2 : ((l.length : Int) + 2).toNat = l.length + 2 := by omega
  rw [e2, Int.toNat_natCast] at hmk
  obtain ⟨N, hN⟩ : ∃ N, N = l.length := ⟨_, rfl⟩
  have hsl : ∀ W, (Instr.slice 56 (.slice (some ⟨w.heap.size, 0, none⟩) N (N + 2)) none (some (.int .i64 ((N : Int) + 2))) none).run Tryz.prog W = .ok (.slice (some ⟨w.heap.size, 0, none⟩) (N + 2) (N + 2)) W := fun W => by
    have := slice_roomCards W w.heap.size N (N + 2) (N + 2) (Nat.le_refl _)
    exact this
  rw [← hN] at hmk hcp ⊢
  have hNb : (N : Int) ≤ 262144 := by omega
  have HC : Hid (wc.heap[w.heap.size]? = some (.cells (twR l (zrs 3) (zrs 3)) 44 (0, 0)) ∧ Below w.heap.size w wc) := ⟨hcell, hbel⟩
  have HN := hide (And.intro hN hall)
  generalize madeCells (Value.agg #[.int .i64 0, .int .i64 0, .int .i64 0]).cells ((N + 2) * 3) = mc at hmk hcp
  clear e2 hcell hbel hi hz0 hz1 hz2 hl hN hall
  go_enter Tryz.func20, Tryz.ntmps20
  go_wp2_with fail
  go_loopw [5] (fun iv wr => ∃ k : Nat, k ≤ 2 ∧ iv = .int .i64 ((N : Int) + (k : Int)) ∧ Hid (wr.heap[w.heap.size]? = some (.cells (twR l (if 1 ≤ k then mkR 3 N else zrs 3) (if 2 ≤ k then mkR 3 (N + 1) else zrs 3)) 44 (0, 0)) ∧ Below w.heap.size w wr)) (fun iv _ => (N + 2 - intOf iv).toNat)
  case atStart => exact ⟨0, by omega, by go_num, HC⟩
  case round =>
    clear HC
    obtain ⟨k, hk, rfl, HR⟩ := hrel
    match k, hk with
    | 0, _ =>
      have K := hide (markCards_any N wr (by omega))
      have HS : Hid (∀ W, Below wr.heap.size wr W → (W.cell? ⟨w.heap.size, N * 3, none⟩ = some (.int .i64 0) ∧ W.cell? ⟨w.heap.size, N * 3 + 1, none⟩ = some (.int .i64 0) ∧ W.cell? ⟨w.heap.size, N * 3 + 2, none⟩ = some (.int .i64 0)) ∧ (∀ j, W.frozen? ⟨w.heap.size, j, none⟩ = false) ∧ Hid (((((W.setCell ⟨w.heap.size, N * 3, none⟩ (.int .i64 (mk1 N))).setCell ⟨w.heap.size, N * 3 + 1, none⟩ (.int .i64 0)).setCell ⟨w.heap.size, N * 3 + 2, none⟩ (.int .i64 0))).heap[w.heap.size]? = some (.cells (twR l (if 1 ≤ 1 then mkR 3 N else zrs 3) (if 2 ≤ 1 then mkR 3 (N + 1) else zrs 3)) 44 (0, 0)) ∧ Below w.heap.size w ((((W.setCell ⟨w.heap.size, N * 3, none⟩ (.int .i64 (mk1 N))).setCell ⟨w.heap.size, N * 3 + 1, none⟩ (.int .i64 0)).setCell ⟨w.heap.size, N * 3 + 2, none⟩ (.int .i64 0))))) := fun W hW => by
        obtain ⟨hN, hall⟩ := unhide HN
        have hcl : W.heap[w.heap.size]? = some (.cells (twR l (zrs 3) (zrs 3)) 44 (0, 0)) := kept_b (unhide HR).1 (lt_of_blk (unhide HR).1) hW
        have hb := bw_tr (unhide HR).2 hW
        have hA := fun j (hj : j < 3) => twR_at (i := N) (j := j) (a := zrs 3) (z := 0) hall rfl rfl hcl (by rw [hN]; simp) (zrs_at hj)
        have h1 := setCards1 (w := w) hall rfl hcl N
        rw [← hN] at h1
        exact ⟨⟨hA 0 (by omega), hA 1 (by omega), hA 2 (by omega)⟩, fun j => froz_b hcl, h1, belCards hb _ _ _ _⟩
      clear HR
      generalize mk1 N = m0 at *
      go_wp2_with fail
      refine (unhide K).mono ?_
      rintro e w2 ⟨rfl, b2⟩
      obtain ⟨⟨c0, c1, c2⟩, fz, HR2⟩ := unhide HS w2 b2
      clear K HS b2
      go_wp2_with fail
      go_roundw
      case rel => exact ⟨1, by omega, by go_num, HR2⟩
      case measure => simp only [intOf]; omega
    | 1, _ =>
      have K : Hid (Calls Tryz.prog 44 #[.int .i64 ((N : Int) + 1)] wr fun e w' => e = .returned (.agg #[.int .i64 (mk1 (N + 1)), .int .i64 0, .int .i64 0]) ∧ Below wr.heap.size wr w') := markCards_any (N + 1) wr (by omega)
      have HS : Hid (∀ W, Below wr.heap.size wr W → (W.cell? ⟨w.heap.size, (N + 1) * 3, none⟩ = some (.int .i64 0) ∧ W.cell? ⟨w.heap.size, (N + 1) * 3 + 1, none⟩ = some (.int .i64 0) ∧ W.cell? ⟨w.heap.size, (N + 1) * 3 + 2, none⟩ = some (.int .i64 0)) ∧ (∀ j, W.frozen? ⟨w.heap.size, j, none⟩ = false) ∧ Hid (((((W.setCell ⟨w.heap.size, (N + 1) * 3, none⟩ (.int .i64 (mk1 (N + 1)))).setCell ⟨w.heap.size, (N + 1) * 3 + 1, none⟩ (.int .i64 0)).setCell ⟨w.heap.size, (N + 1) * 3 + 2, none⟩ (.int .i64 0))).heap[w.heap.size]? = some (.cells (twR l (if 1 ≤ 2 then mkR 3 N else zrs 3) (if 2 ≤ 2 then mkR 3 (N + 1) else zrs 3)) 44 (0, 0)) ∧ Below w.heap.size w ((((W.setCell ⟨w.heap.size, (N + 1) * 3, none⟩ (.int .i64 (mk1 (N + 1)))).setCell ⟨w.heap.size, (N + 1) * 3 + 1, none⟩ (.int .i64 0)).setCell ⟨w.heap.size, (N + 1) * 3 + 2, none⟩ (.int .i64 0))))) := fun W hW => by
        obtain ⟨hN, hall⟩ := unhide HN
        have hcl : W.heap[w.heap.size]? = some (.cells (twR l (mkR 3 N) (zrs 3)) 44 (0, 0)) := kept_b (unhide HR).1 (lt_of_blk (unhide HR).1) hW
        have hb := bw_tr (unhide HR).2 hW
        have hA := fun j (hj : j < 3) => twR_at (i := N + 1) (j := j) (a := zrs 3) (z := 0) hall (mkR_len (by omega) N) rfl hcl (by rw [hN]; simp) (zrs_at hj)
        have h1 := setCards2 (w := w) hall (mkR_len (by omega) N) rfl hcl (N + 1)
        rw [← hN] at h1
        exact ⟨⟨hA 0 (by omega), hA 1 (by omega), hA 2 (by omega)⟩, fun j => froz_b hcl, h1, belCards hb _ _ _ _⟩
      clear HR
      generalize mk1 (N + 1) = m1 at *
      go_wp2_with fail
      refine (unhide K).mono ?_
      rintro e w2 ⟨rfl, b2⟩
      obtain ⟨⟨c0, c1, c2⟩, fz, HR2⟩ := unhide HS w2 b2
      clear K HS b2
      go_wp2_with fail
      go_roundw
      case rel => exact ⟨2, by omega, by go_num, HR2⟩
      case measure => simp only [intOf]; omega
    | 2, _ =>
      go_wp2_with fail
      go_ret
      refine ⟨rfl, ?_, (unhide HR).2⟩
      have := (unhide HR).1
      unfold TwR
      rw [← (unhide HN).1]
      exact this
    | k + 3, h => exact absurd h (by omega)
set_option maxRecDepth 100000 in
set_option maxHeartbeats 4000000 in
theorem leftCards_any (w : World) (g : Nat) (v : Value) (l : List (List Int)) (ht : TwR 3 44 w g l) (hv : RI 3 w v l) (hl : l.length ≤ 262144) :
    Calls Tryz.prog 26 #[.slice (some ⟨g, 0, none⟩) l.length (l.length + 2), v] w fun e w' => e = .returned (.bool true) ∧ Below w.heap.size w w' := by
  have hn := ht.ri (by omega) hl hv.fit
  have hall : ∀ x ∈ l, x.length = 3 := fun x hx => (hv.fit x hx).1
  have HKS : Hid (∀ W, Below w.heap.size w W → Calls Tryz.prog 25 #[.slice (some ⟨g, 0, none⟩) l.length (l.length + 2), v] W fun e w' => e = .returned (.bool true) ∧ Below W.heap.size W w') := fun W hW => sameCards_any _ _ l W (hn.bw hW) (hv.bw hW)
  obtain ⟨_, _, a, cap, rfl, _⟩ := hv
  obtain ⟨N, hN⟩ : ∃ N, N = l.length := ⟨_, rfl⟩
  have hsl : ∀ W, (Instr.slice 56 (.slice (some ⟨g, 0, none⟩) N (N + 2)) none (some (.int .i64 ((N : Int) + 2))) none).run Tryz.prog W = .ok (.slice (some ⟨g, 0, none⟩) (N + 2) (N + 2)) W := fun W => by
    have := slice_roomCards W g N (N + 2) (N + 2) (Nat.le_refl _)
    exact this
  have HC : Hid (∀ W, Below w.heap.size w W → (W.cell? ⟨g, N * 3, none⟩ = some (.int .i64 (mk1 N)) ∧ W.cell? ⟨g, N * 3 + 1, none⟩ = some (.int .i64 0) ∧ W.cell? ⟨g, N * 3 + 2, none⟩ = some (.int .i64 0)) ∧ (W.cell? ⟨g, (N + 1) * 3, none⟩ = some (.int .i64 (mk1 (N + 1))) ∧ W.cell? ⟨g, (N + 1) * 3 + 1, none⟩ = some (.int .i64 0) ∧ W.cell? ⟨g, (N + 1) * 3 + 2, none⟩ = some (.int .i64 0))) := fun W hW => by
    have hcl := kept_b ht (lt_of_blk ht) hW
    rw [hN]
    exact ⟨⟨twR_at (i := l.length) (j := 0) (a := mkR 3 l.length) hall (mkR_len (by omega) _) (mkR_len (by omega) _) hcl (by simp) rfl, twR_at (i := l.length) (j := 1) (a := mkR 3 l.length) hall (mkR_len (by omega) _) (mkR_len (by omega) _) hcl (by simp) rfl, twR_at (i := l.length) (j := 2) (a := mkR 3 l.length) hall (mkR_len (by omega) _) (mkR_len (by omega) _) hcl (by simp) rfl⟩, ⟨twR_at (i := l.length + 1) (j := 0) (a := mkR 3 (l.length + 1)) hall (mkR_len (by omega) _) (mkR_len (by omega) _) hcl (by simp) rfl, twR_at (i := l.length + 1) (j := 1) (a := mkR 3 (l.length + 1)) hall (mkR_len (by omega) _) (mkR_len (by omega) _) hcl (by simp) rfl, twR_at (i := l.length + 1) (j := 2) (a := mkR 3 (l.length + 1)) hall (mkR_len (by omega) _) (mkR_len (by omega) _) hcl (by simp) rfl⟩⟩
  rw [← hN] at HKS ⊢
  have hNb : (N : Int) ≤ 262144 := by omega
  have K0 : Hid (∀ W, Calls Tryz.prog 51 #[.agg #[.int .i64 (mk1 N), .int .i64 0, .int .i64 0], .int .i64 (N : Int)] W fun e w' => e = .returned (.bool true) ∧ Below W.heap.size W w') := fun W => isCards_any N W (by omega)
  have K1 : Hid (∀ W, Calls Tryz.prog 51 #[.agg #[.int .i64 (mk1 (N + 1)), .int .i64 0, .int .i64 0], .int .i64 ((N : Int) + 1)] W fun e w' => e = .returned (.bool true) ∧ Below W.heap.size W w') := fun W => isCards_any (N + 1) W (by omega)
  clear hn ht hN hl hall
  generalize mk1 N = m0 at *
  generalize mk1 (N + 1) = m1 at *
  go_enter Tryz.func26, Tryz.ntmps26
  go_wp2_with fail
  go_loopw [6] (fun iv wr => ∃ k : Nat, k ≤ 2 ∧ iv = .int .i64 ((N : Int) + (k : Int)) ∧ Hid (Below w.heap.size w wr)) (fun iv _ => (N + 2 - intOf iv).toNat)
  case atStart => exact ⟨0, by omega, by go_num, Below.refl _ _⟩
  case round =>
    obtain ⟨k, hk, rfl, hwr⟩ := hrel
    obtain ⟨⟨c0, c1, c2⟩, ⟨d0, d1, d2⟩⟩ := unhide HC wr (unhide hwr)
    match k, hk with
    | 0, _ =>
      clear d0 d1 d2
      go_wp2_with fail
      refine (unhide K0 _).mono ?_
      rintro e w2 ⟨rfl, b2⟩
      have B2 : Hid (Below w.heap.size w w2) := bw_tr (unhide hwr) b2
      clear b2 c0 c1 c2
      go_wp2_with fail
      go_roundw
      case rel => exact ⟨1, by omega, by go_num, B2⟩
      case measure => simp only [intOf]; omega
    | 1, _ =>
      clear c0 c1 c2
      go_wp2_with fail
      refine (unhide K1 _).mono ?_
      rintro e w2 ⟨rfl, b2⟩
      have B2 : Hid (Below w.heap.size w w2) := bw_tr (unhide hwr) b2
      clear b2 d0 d1 d2
      go_wp2_with fail
      go_roundw
      case rel => exact ⟨2, by omega, by go_num, B2⟩
      case measure => simp only [intOf]; omega
    | 2, _ =>
      clear c0 d0 c1 d1 c2 d2
      have KS := hide (unhide HKS _ (unhide hwr))
      go_wp2_with fail
      refine (unhide KS).mono ?_
      rintro e w2 ⟨rfl, hb2⟩
      have B2 : Hid (Below w.heap.size w w2) := bw_tr (unhide hwr) hb2
      clear hb2
      go_wp2_with fail
      go_ret
      exact ⟨rfl, unhide B2⟩
    | k + 3, h => exact absurd h (by omega)
end Go.Proofs.YtihniafidgjlcaaGreatDoor
