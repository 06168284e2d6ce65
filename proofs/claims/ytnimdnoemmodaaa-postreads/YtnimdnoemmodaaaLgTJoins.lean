/- markJoin, isJoin, TwinJoins, LeftJoins. -/
import Derived.Test.YtnimdnoemmodaaaZ22
import Derived.Deep.RegionHeld3
namespace Go.Proofs.Ytnimdnoemmodaaa
open Go.RowKit Go.Maps
theorem Try.infoJoins : (Try.prog.info? 98).map (fun i => (i.zero, i.size, i.bytes)) = some (some (.agg #[.int .i64 0, .int .i64 0]), 2, 16) := by kernel_rfl
theorem Try.sizeJoins : (Try.prog.info? 98).map (·.size) = some 2 := by kernel_rfl
theorem slice_roomJoins (w : World) (g n cap i : Nat) (hi : i ≤ cap) : (Instr.slice 40 (.slice (some ⟨g, 0, none⟩) n cap) none (some (.int .i64 (i : Int))) none).run Try.prog w = .ok (.slice (some ⟨g, 0, none⟩) i cap) w := by
  have ht : Try.prog.underlying 40 = some (.slice (Try.prog.elem 40)) := by kernel_rfl
  have he : Try.prog.elem 40 = 98 := by kernel_rfl
  have hs : (Go.sizeOf 98).run Try.prog w = .ok 2 w := by kernel_rfl
  rw [run_slice_h (P := Try.prog) w 40 (some ⟨g, 0, none⟩) n cap ht .i64 i (by omega) (by omega), he, hs]
  simp [Result.andThen, sliced, Addr.add]
set_option maxRecDepth 100000 in
theorem markJoins_any (n : Nat) (w : World) (h : n ≤ 270000) :
    Calls Try.prog 72 #[.int .i64 (n : Int)] w fun e w' => e = .returned (.agg #[.int .i64 (mk1 n), .int .i64 0]) ∧ Below w.heap.size w w' := by
  have hb : (n : Int) ≤ 270000 := by omega
  clear h
  unfold mk1
  go_enter Try.func72, Try.ntmps72
  go_wp2
  exact bodyPost_ret (v := .agg #[.int .i64 (-1000 - (n : Int)), .int .i64 0]) (by simp [results, Try.results72, go_sem]) rfl ⟨rfl, bwA _ _⟩
theorem copyJoins (w : World) (v : Value) (l : List (List Int)) (hv : RI 2 w v l) : ∃ wc, (∀ ty, (Builtin.copy_ #[40, 40] ty #[.slice (some ⟨w.heap.size, 0, none⟩) l.length (l.length + 2), v]).run Try.prog (w.alloc (.cells (madeCells (Value.agg #[.int .i64 0, .int .i64 0]).cells ((l.length + 2) * 2)) 98)) = .ok (goInt l.length) wc) ∧
    wc.heap[w.heap.size]? = some (.cells (twR l (zrs 2) (zrs 2)) 98 (0, 0)) ∧ Below w.heap.size w wc := by
  obtain ⟨_, hfit, a, cap, rfl, hc⟩ := hv
  have hall : ∀ x ∈ l, x.length = 2 := fun x hx => (hfit x hx).1
  obtain ⟨cur, hcur⟩ : ∃ cur, cur = madeCells (Value.agg #[.int .i64 0, .int .i64 0]).cells ((l.length + 2) * 2) := ⟨_, rfl⟩
  have hcs : cur.toList = rwC (List.replicate (l.length + 2) (zrs 2)) := by rw [hcur]; exact made_rows 2 (l.length + 2) (by omega)
  have hrl : ∀ q ∈ List.replicate (l.length + 2) (zrs 2), q.length = 2 := fun q hq => by have := List.eq_of_mem_replicate hq; subst this; rfl
  have hcz : cur.toList.length = (l.length + 2) * 2 := by rw [hcs, rwC_len hrl]; simp
  rw [← hcur]
  have hG := heap_alloc_new w (.cells cur 98)
  have hb := bwA w (.cells cur 98)
  have hlen := rwC_len hall
  have hdrop : cur.toList.drop (l.length * 2) = icC (zrs 2) ++ icC (zrs 2) := by
    rw [hcs]
    have e : List.replicate (l.length + 2) (zrs 2) = List.replicate l.length (zrs 2) ++ [zrs 2, zrs 2] := by
      rw [← List.replicate_append_replicate]; rfl
    rw [e]
    unfold rwC
    rw [List.flatMap_append]
    have h2 : (List.flatMap icC (List.replicate l.length (zrs 2))).length = l.length * 2 := by
      have := rwC_len (c := 2) (l := List.replicate l.length (zrs 2)) (fun q hq => by have := List.eq_of_mem_replicate hq; subst this; rfl)
      simpa [rwC] using this
    rw [List.drop_left' h2]
    rfl
  rcases hc with hc | ⟨g, o, rfl, hc⟩
  · subst hc
    refine ⟨w.alloc (.cells cur 98), fun ty => copy_none _ _ _ _ 98 _ _ _ _ 2 Try.underlying40 Try.sizeJoins, ?_, hb⟩
    rw [hG]
    have : cur = twR [] (zrs 2) (zrs 2) := by apply Array.toList_inj.1; simpa [twR, rwC] using hdrop
    rw [this]
  · have hr := fun ty => run_copy_rows (P := Try.prog) (w.alloc (.cells cur 98)) 40 40 ty 98 w.heap.size l.length (l.length + 2) ⟨g, o, none⟩ l.length cap 2 cur 98 (rwC l) Try.underlying40 Try.sizeJoins hG (by rw [hlen]; simp) (fun j u hj => by
        have hjl : j < l.length * 2 := by rw [← hlen]; exact (List.getElem?_eq_some_iff.1 hj).1
        obtain ⟨q, r, hr, rfl⟩ : ∃ q r, r < 2 ∧ j = q * 2 + r := ⟨j / 2, j % 2, by omega, by omega⟩
        obtain ⟨x, hx⟩ : ∃ x, l[q]? = some x := ⟨_, List.getElem?_eq_getElem (by omega)⟩
        obtain ⟨z, hz⟩ : ∃ z, x[r]? = some z := ⟨_, List.getElem?_eq_getElem (by rw [hall x (List.mem_of_getElem? hx)]; exact hr)⟩
        have h1 := rwC_get hall hx hz
        rw [h1] at hj
        cases hj
        have h2 := hc q x hx r z hz
        have e : ∀ k, (⟨g, o, none⟩ : Addr).add k = ⟨g, o + k, none⟩ := fun k => by cases k <;> simp [Addr.add]
        rw [e, ← Nat.add_assoc, hb.cell (World.block_lt_of_cell? w _ h2)]
        exact h2) (by rw [hlen]; have := hcz; simp at this; omega) (fun u hu => by
        obtain ⟨z, _, hz⟩ := List.mem_flatMap.1 hu
        obtain ⟨y, _, rfl⟩ := List.mem_map.1 hz
        rfl)
    refine ⟨(w.alloc (.cells cur 98)).setRow w.heap.size (rwC l ++ cur.toList.drop (rwC l).length).toArray, fun ty => by rw [hr ty]; simp, ?_, ?_⟩
    · rw [setRow_heap _ _ cur _ 98 _ hG, hlen, hdrop]
      rfl
    · refine ⟨hb.os, hb.tape, hb.output, ?_, fun k hk => ?_⟩
      · simp
      · rw [setRow_other _ _ _ _ (by omega)]; exact hb.block k hk
theorem setJoins1 {w : World} {l : List (List Int)} {x y : List Int} {W : World} (hall : ∀ q ∈ l, q.length = 2) (hx : x = zrs 2) (h : W.heap[w.heap.size]? = some (.cells (twR l x y) 98 (0, 0))) (n : Nat) : (((W.setCell ⟨w.heap.size, l.length * 2, none⟩ (.int .i64 (mk1 n))).setCell ⟨w.heap.size, l.length * 2 + 1, none⟩ (.int .i64 0))).heap[w.heap.size]? = some (.cells (twR l (mkR 2 n) y) 98 (0, 0)) := by
  subst hx
  rw [poke_b (poke_b h _) _]
  congr 2
  apply Array.toList_inj.1
  have hl := rwC_len hall
  simp [twR, List.set_append_right, hl, icC, zrs, mkR, mk1, List.replicate]
theorem setJoins2 {w : World} {l : List (List Int)} {x y : List Int} {W : World} (hall : ∀ q ∈ l, q.length = 2) (hx : x.length = 2) (hy : y = zrs 2) (h : W.heap[w.heap.size]? = some (.cells (twR l x y) 98 (0, 0))) (n : Nat) : (((W.setCell ⟨w.heap.size, (l.length + 1) * 2, none⟩ (.int .i64 (mk1 n))).setCell ⟨w.heap.size, (l.length + 1) * 2 + 1, none⟩ (.int .i64 0))).heap[w.heap.size]? = some (.cells (twR l x (mkR 2 n)) 98 (0, 0)) := by
  subst hy
  rw [poke_b (poke_b h _) _]
  congr 2
  apply Array.toList_inj.1
  have hl := rwC_len hall
  have hix : (icC x).length = 2 := by simp [icC, hx]
  have hw : (rwC l ++ icC x).length = (l.length + 1) * 2 := by rw [List.length_append, hl, hix]; omega
  simp only [twR, Array.toList_setIfInBounds]
  rw [← List.append_assoc]
  rw [List.set_append_right _ _ (by omega), List.set_append_right _ _ (by omega), hw]
  simp only [Nat.sub_self, Nat.add_sub_cancel_left]
  rw [List.append_assoc]
  rfl
theorem belJoins {w W : World} (h : Below w.heap.size w W) (i : Nat) (v0 v1 : Value) : Below w.heap.size w (((W.setCell ⟨w.heap.size, i, none⟩ v0).setCell ⟨w.heap.size, i + 1, none⟩ v1)) := by
  refine ⟨h.os, h.tape, h.output, ?_, fun k hk => ?_⟩
  · have := h.size; simp [World.setCell]; exact this
  · rw [other_c (by omega), other_c (by omega)]
    exact h.block k hk
set_option maxRecDepth 100000 in
set_option maxHeartbeats 4000000 in
theorem twinJoins_any (w : World) (v : Value) (l : List (List Int)) (hv : RI 2 w v l) (hl : l.length ≤ 262144) :
    Calls Try.prog 59 #[v] w fun e w' => e = .returned (.slice (some ⟨w.heap.size, 0, none⟩) l.length (l.length + 2)) ∧ TwR 2 98 w' w.heap.size l ∧ Below w.heap.size w w' := by
  obtain ⟨wc, hcp, hcell, hbel⟩ := copyJoins w v l hv
  have hall : ∀ x ∈ l, x.length = 2 := fun x hx => (hv.fit x hx).1
  obtain ⟨_, _, a, cap, rfl, _⟩ := hv
  obtain ⟨i0, hi, hz0, hz1, hz2⟩ := info_parts Try.infoJoins
  have hmk := run_makeSlice (P := Try.prog) w 40 98 i0 (.agg #[.int .i64 0, .int .i64 0]) Try.underlying40 hi hz0 .i64 .i64 (l.length : Int) ((l.length : Int) + 2) (by omega) (by omega) (by rw [hz1]; omega) (by rw [hz2]; omega) (by omega)
  rw [hz1] at hmk
  have e2 : ((l.length : Int) + 2).toNat = l.length + 2 := by omega
  rw [e2, Int.toNat_natCast] at hmk
  obtain ⟨N, hN⟩ : ∃ N, N = l.length := ⟨_, rfl⟩
  have hsl : ∀ W, (Instr.slice 40 (.slice (some ⟨w.heap.size, 0, none⟩) N (N + 2)) none (some (.int .i64 ((N : Int) + 2))) none).run Try.prog W = .ok (.slice (some ⟨w.heap.size, 0, none⟩) (N + 2) (N + 2)) W := fun W => by
    have := slice_roomJoins W w.heap.size N (N + 2) (N + 2) (Nat.le_refl _)
    exact this
  rw [← hN] at hmk hcp ⊢
  have hNb : (N : Int) ≤ 262144 := by omega
  have HC : Hid (wc.heap[w.heap.size]? = some (.cells (twR l (zrs 2) (zrs 2)) 98 (0, 0)) ∧ Below w.heap.size w wc) := ⟨hcell, hbel⟩
  have HN := hide (And.intro hN hall)
  generalize madeCells (Value.agg #[.int .i64 0, .int .i64 0]).cells ((N + 2) * 2) = mc at hmk hcp
  clear e2 hcell hbel hi hz0 hz1 hz2 hl hN hall
  go_enter Try.func59, Try.ntmps59
  go_wp2_with fail
  go_loopw [5] (fun iv wr => ∃ k : Nat, k ≤ 2 ∧ iv = .int .i64 ((N : Int) + (k : Int)) ∧ Hid (wr.heap[w.heap.size]? = some (.cells (twR l (if 1 ≤ k then mkR 2 N else zrs 2) (if 2 ≤ k then mkR 2 (N + 1) else zrs 2)) 98 (0, 0)) ∧ Below w.heap.size w wr)) (fun iv _ => (N + 2 - intOf iv).toNat)
  case atStart => exact ⟨0, by omega, by go_num, HC⟩
  case round =>
    clear HC
    obtain ⟨k, hk, rfl, HR⟩ := hrel
    match k, hk with
    | 0, _ =>
      have K := hide (markJoins_any N wr (by omega))
      have HS : Hid (∀ W, Below wr.heap.size wr W → (W.cell? ⟨w.heap.size, N * 2, none⟩ = some (.int .i64 0) ∧ W.cell? ⟨w.heap.size, N * 2 + 1, none⟩ = some (.int .i64 0)) ∧ (∀ j, W.frozen? ⟨w.heap.size, j, none⟩ = false) ∧ Hid ((((W.setCell ⟨w.heap.size, N * 2, none⟩ (.int .i64 (mk1 N))).setCell ⟨w.heap.size, N * 2 + 1, none⟩ (.int .i64 0))).heap[w.heap.size]? = some (.cells (twR l (if 1 ≤ 1 then mkR 2 N else zrs 2) (if 2 ≤ 1 then mkR 2 (N + 1) else zrs 2)) 98 (0, 0)) ∧ Below w.heap.size w (((W.setCell ⟨w.heap.size, N * 2, none⟩ (.int .i64 (mk1 N))).setCell ⟨w.heap.size, N * 2 + 1, none⟩ (.int .i64 0))))) := fun W hW => by
        obtain ⟨hN, hall⟩ := unhide HN
        have hcl : W.heap[w.heap.size]? = some (.cells (twR l (zrs 2) (zrs 2)) 98 (0, 0)) := kept_b (unhide HR).1 (lt_of_blk (unhide HR).1) hW
        have hb := bw_tr (unhide HR).2 hW
        have hA := fun j (hj : j < 2) => twR_at (i := N) (j := j) (a := zrs 2) (z := 0) hall rfl rfl hcl (by rw [hN]; simp) (zrs_at hj)
        have h1 := setJoins1 (w := w) hall rfl hcl N
        rw [← hN] at h1
        exact ⟨⟨hA 0 (by omega), hA 1 (by omega)⟩, fun j => froz_b hcl, h1, belJoins hb _ _ _⟩
      clear HR
      generalize mk1 N = m0 at *
      go_wp2_with fail
      refine (unhide K).mono ?_
      rintro e w2 ⟨rfl, b2⟩
      obtain ⟨⟨c0, c1⟩, fz, HR2⟩ := unhide HS w2 b2
      clear K HS b2
      go_wp2_with fail
      go_roundw
      case rel => exact ⟨1, by omega, by go_num, HR2⟩
      case measure => simp only [intOf]; omega
    | 1, _ =>
      have K : Hid (Calls Try.prog 72 #[.int .i64 ((N : Int) + 1)] wr fun e w' => e = .returned (.agg #[.int .i64 (mk1 (N + 1)), .int .i64 0]) ∧ Below wr.heap.size wr w') := markJoins_any (N + 1) wr (by omega)
      have HS : Hid (∀ W, Below wr.heap.size wr W → (W.cell? ⟨w.heap.size, (N + 1) * 2, none⟩ = some (.int .i64 0) ∧ W.cell? ⟨w.heap.size, (N + 1) * 2 + 1, none⟩ = some (.int .i64 0)) ∧ (∀ j, W.frozen? ⟨w.heap.size, j, none⟩ = false) ∧ Hid ((((W.setCell ⟨w.heap.size, (N + 1) * 2, none⟩ (.int .i64 (mk1 (N + 1)))).setCell ⟨w.heap.size, (N + 1) * 2 + 1, none⟩ (.int .i64 0))).heap[w.heap.size]? = some (.cells (twR l (if 1 ≤ 2 then mkR 2 N else zrs 2) (if 2 ≤ 2 then mkR 2 (N + 1) else zrs 2)) 98 (0, 0)) ∧ Below w.heap.size w (((W.setCell ⟨w.heap.size, (N + 1) * 2, none⟩ (.int .i64 (mk1 (N + 1)))).setCell ⟨w.heap.size, (N + 1) * 2 + 1, none⟩ (.int .i64 0))))) := fun W hW => by
        obtain ⟨hN, hall⟩ := unhide HN
        have hcl : W.heap[w.heap.size]? = some (.cells (twR l (mkR 2 N) (zrs 2)) 98 (0, 0)) := kept_b (unhide HR).1 (lt_of_blk (unhide HR).1) hW
        have hb := bw_tr (unhide HR).2 hW
        have hA := fun j (hj : j < 2) => twR_at (i := N + 1) (j := j) (a := zrs 2) (z := 0) hall (mkR_len (by omega) N) rfl hcl (by rw [hN]; simp) (zrs_at hj)
        have h1 := setJoins2 (w := w) hall (mkR_len (by omega) N) rfl hcl (N + 1)
        rw [← hN] at h1
        exact ⟨⟨hA 0 (by omega), hA 1 (by omega)⟩, fun j => froz_b hcl, h1, belJoins hb _ _ _⟩
      clear HR
      generalize mk1 (N + 1) = m1 at *
      go_wp2_with fail
      refine (unhide K).mono ?_
      rintro e w2 ⟨rfl, b2⟩
      obtain ⟨⟨c0, c1⟩, fz, HR2⟩ := unhide HS w2 b2
      clear K HS b2
      go_wp2_with fail
      go_roundw
      case rel => exact ⟨2, by omega, by go_num, HR2⟩
      case measure => simp only [intOf]; omega
    | 2, _ =>
      go_wp2_with fail
      go_ret
      refine ⟨rfl, ?_, (unhide HR).2⟩
      have := (unhide HR).1
      unfold TwR
      rw [← (unhide HN).1]
      exact this
    | k + 3, h => exact absurd h (by omega)
end Go.Proofs.Ytnimdnoemmodaaa
