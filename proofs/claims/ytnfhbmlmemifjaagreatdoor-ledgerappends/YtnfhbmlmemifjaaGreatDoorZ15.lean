/- Texts joined: LgT0 LgTSeals LgTAdds LgTJoins. -/
import Derived.Test.YtnfhbmlmemifjaaGreatDoorZ14
import Derived.Test.YtnfhbmlmemifjaaGreatDoorZ12
import Derived.Test.YtnfhbmlmemifjaaGreatDoorTtA
import Derived.Laws.CopyRow
import Derived.Laws.IdiomCopy
import Derived.Deep.RegionHeld3
/- Rows of structs of numbers, with marks behind them: what they are in memory. No walk is in this text. -/
namespace Go.Proofs.YtnfhbmlmemifjaaGreatDoor
open Go.RowKit Go.Maps
def icC (x : List Int) : List Value := x.map fun z => Value.int .i64 z
def rwC (l : List (List Int)) : List Value := l.flatMap icC
def zrs (c : Nat) : List Int := List.replicate c 0
theorem zrs_at {c j : Nat} (h : j < c) : (zrs c)[j]? = some 0 := by simp [zrs, h]
def mk1 (n : Nat) : Int := -1000 - (n : Int)
def mkR (c n : Nat) : List Int := mk1 n :: List.replicate (c - 1) 0
theorem rwC_len {c : Nat} {l : List (List Int)} (h : ∀ x ∈ l, x.length = c) : (rwC l).length = l.length * c := by
  induction l with
  | nil => simp [rwC]
  | cons a r ih =>
    have h1 := h a (by simp)
    have h2 := ih (fun x hx => h x (by simp [hx]))
    unfold rwC at h2 ⊢
    rw [List.flatMap_cons, List.length_append, h2]
    simp only [icC, List.length_map, h1, List.length_cons, Nat.add_mul, Nat.one_mul]
    omega
theorem rwC_get {c : Nat} {l : List (List Int)} (h : ∀ x ∈ l, x.length = c) {i j : Nat} {x : List Int} {z : Int} (hi : l[i]? = some x) (hj : x[j]? = some z) : (rwC l)[i * c + j]? = some (.int .i64 z) := by
  induction l generalizing i with
  | nil => simp at hi
  | cons a r ih =>
    have h1 := h a (by simp)
    have hic : (icC a).length = c := by simp [icC, h1]
    have hjc : j < c := by
      have := h x (List.mem_of_getElem? hi)
      have := (List.getElem?_eq_some_iff.1 hj).1
      omega
    unfold rwC
    rw [List.flatMap_cons]
    cases i with
    | zero =>
      simp at hi; subst hi
      rw [Nat.zero_mul, Nat.zero_add, List.getElem?_append_left (by omega)]
      simp [icC, hj]
    | succ k =>
      rw [List.getElem?_cons_succ] at hi
      have e : (k + 1) * c + j = c + (k * c + j) := by rw [Nat.add_mul]; omega
      rw [e, List.getElem?_append_right (by omega), hic, Nat.add_sub_cancel_left]
      exact ih (fun x hx => h x (by simp [hx])) hi
def twR (l : List (List Int)) (x y : List Int) : Array Value := (rwC l ++ (icC x ++ icC y)).toArray
theorem twR_flat (l : List (List Int)) (x y : List Int) : twR l x y = (rwC (l ++ [x, y])).toArray := by simp [twR, rwC, List.flatMap_append, List.flatMap_cons]
theorem twR_at {c : Nat} {w : World} {g : Nat} {l : List (List Int)} {x y : List Int} {t : TypeId} (hl : ∀ q ∈ l, q.length = c) (hx : x.length = c) (hy : y.length = c) (h : w.heap[g]? = some (.cells (twR l x y) t (0, 0))) {i j : Nat} {a : List Int} {z : Int} (hi : (l ++ [x, y])[i]? = some a) (hj : a[j]? = some z) : w.cell? ⟨g, i * c + j, none⟩ = some (.int .i64 z) := by
  rw [twR_flat] at h
  refine blk_c h ?_
  have := rwC_get (c := c) (l := l ++ [x, y]) (fun q hq => by
    rcases List.mem_append.1 hq with d | d
    · exact hl q d
    · simp at d; rcases d with rfl | rfl
      · exact hx
      · exact hy) hi hj
  simpa using this
theorem made_rows (c m : Nat) (hc : 0 < c) : (madeCells (Value.agg (icC (zrs c)).toArray).cells (m * c)).toList = rwC (List.replicate m (zrs c)) := by
  have hall : ∀ q ∈ List.replicate m (zrs c), q.length = c := fun q hq => by have := List.eq_of_mem_replicate hq; subst this; simp [zrs]
  apply List.ext_getElem?
  intro i
  rcases Nat.lt_or_ge i (m * c) with h | h
  · obtain ⟨q, r, hr, rfl⟩ : ∃ q r, r < c ∧ i = q * c + r := ⟨i / c, i % c, Nat.mod_lt _ hc, by rw [Nat.mul_comm]; exact (Nat.div_add_mod i c).symm⟩
    have hq : q < m := by
      rcases Nat.lt_or_ge q m with k | k
      · exact k
      · have := Nat.mul_le_mul_right c k; omega
    have e2 : (q * c + r) % c = r := by rw [Nat.mul_comm, Nat.mul_add_mod]; exact Nat.mod_eq_of_lt hr
    rw [rwC_get (c := c) hall (i := q) (j := r) (x := zrs c) (z := 0) (by simp [hq]) (by simp [zrs, hr])]
    simp [madeCells, Value.cells, h, icC, zrs, e2, hr]
  · rw [List.getElem?_eq_none (by simp [madeCells]; exact h), List.getElem?_eq_none (by rw [rwC_len hall]; simpa using h)]
theorem run_copy_rows {P : Program} (w : World) (dT sT ty elem : TypeId) (g dLen dCap : Nat) (a : Addr) (sLen sCap z : Nat) (cur : Array Value) (t : TypeId) (cs : List Value)
    (hu : P.underlying dT = some (.slice elem)) (hs : (P.info? elem).map (·.size) = some z)
    (hg : w.heap[g]? = some (.cells cur t (0, 0))) (hn : cs.length = Nat.min sLen dLen * z)
    (hsrc : ∀ j v, cs[j]? = some v → w.cell? (a.add j) = some v) (hfit : cs.length ≤ cur.size) (h1 : ∀ v ∈ cs, v.oneCell' = true) :
    (Builtin.copy_ #[dT, sT] ty #[.slice (some ⟨g, 0, none⟩) dLen dCap, .slice (some a) sLen sCap]).run P w =
      .ok (goInt (Nat.min sLen dLen)) (w.setRow g (cs ++ cur.toList.drop cs.length).toArray) := by
  have hl := run_loadCells_list (P := P) w a cs hsrc
  have hst := run_storeCells_at P g 0 t cs 0 cur w hg (by simpa using hfit) h1
  cases hq : P.info? elem with
  | none => simp [hq] at hs
  | some i =>
    have hi : i.size = z := by simpa [hq] using hs
    simp at hst
    simp [Builtin.copy_, run_underlying hu, Builtin.lenOf, Builtin.firstCells, sizeOf, typeInfo, hq, hi, ← hn, hl, hst]
theorem copy_none {P : Program} (w : World) (dT sT ty elem : TypeId) (d a : Option Addr) (dCap sCap z : Nat) (hu : P.underlying dT = some (.slice elem)) (hs : (P.info? elem).map (·.size) = some z) :
    (Builtin.copy_ #[dT, sT] ty #[.slice d 0 dCap, .slice a 0 sCap]).run P w = .ok (goInt 0) w := by
  have hl0 : ∀ (x : Addr), (loadCells x 0).run P w = .ok #[] w := fun x => by simpa using run_loadCells_list (P := P) w x [] (by simp)
  cases hq : P.info? elem with
  | none => simp [hq] at hs
  | some i => cases d <;> cases a <;> simp [Builtin.copy_, run_underlying hu, Builtin.lenOf, Builtin.firstCells, sizeOf, typeInfo, hq, storeCells, hl0]
theorem froz_b {W : World} {k i : Nat} {cs : Array Value} {t : TypeId} (hk : W.heap[k]? = some (.cells cs t (0, 0))) : W.frozen? ⟨k, i, none⟩ = false := by simp [World.frozen?, hk]
def TwR (c : Nat) (t : TypeId) (w : World) (g : Nat) (l : List (List Int)) : Prop := w.heap[g]? = some (.cells (twR l (mkR c l.length) (mkR c (l.length + 1))) t (0, 0))
theorem mkR_len {c : Nat} (hc : 0 < c) (n : Nat) : (mkR c n).length = c := by simp [mkR]; omega
theorem TwR.ri {c : Nat} {t : TypeId} {w : World} {g : Nat} {l : List (List Int)} (h : TwR c t w g l) (hc : 0 < c) (hl : l.length ≤ 262144) (hz : ∀ x ∈ l, x.length = c ∧ ∀ z ∈ x, -9223372036854775808 ≤ z ∧ z ≤ 9223372036854775807) : RI c w (.slice (some ⟨g, 0, none⟩) l.length (l.length + 2)) l := by
  refine ⟨by omega, hz, _, _, rfl, Or.inr ⟨g, 0, rfl, fun i x hi j z hj => ?_⟩⟩
  rw [Nat.zero_add]
  exact twR_at (fun q hq => (hz q hq).1) (mkR_len hc _) (mkR_len hc _) h (by rw [List.getElem?_append_left (List.getElem?_eq_some_iff.1 hi).1]; exact hi) hj
end Go.Proofs.YtnfhbmlmemifjaaGreatDoor

/- markSeal, isSeal, TwinSeals, LeftSeals. -/
namespace Go.Proofs.YtnfhbmlmemifjaaGreatDoor
open Go.RowKit Go.Maps
theorem Tryz.infoSeals : (Tryz.prog.info? 133).map (fun i => (i.zero, i.size, i.bytes)) = some (some (.agg #[.int .i64 0, .int .i64 0, .int .i64 0]), 3, 24) := by kernel_rfl
theorem Tryz.sizeSeals : (Tryz.prog.info? 133).map (·.size) = some 3 := by kernel_rfl
theorem slice_roomSeals (w : World) (g n cap i : Nat) (hi : i ≤ cap) : (Instr.slice 28 (.slice (some ⟨g, 0, none⟩) n cap) none (some (.int .i64 (i : Int))) none).run Tryz.prog w = .ok (.slice (some ⟨g, 0, none⟩) i cap) w := by
  have ht : Tryz.prog.underlying 28 = some (.slice (Tryz.prog.elem 28)) := by kernel_rfl
  have he : Tryz.prog.elem 28 = 133 := by kernel_rfl
  have hs : (Go.sizeOf 133).run Tryz.prog w = .ok 3 w := by kernel_rfl
  rw [run_slice_h (P := Tryz.prog) w 28 (some ⟨g, 0, none⟩) n cap ht .i64 i (by omega) (by omega), he, hs]
  simp [Result.andThen, sliced, Addr.add]
set_option maxRecDepth 100000 in
theorem markSeals_any (n : Nat) (w : World) (h : n ≤ 1200000) :
    Calls Tryz.prog 200 #[.int .i64 (n : Int)] w fun e w' => e = .returned (.agg #[.int .i64 (mk1 n), .int .i64 0, .int .i64 0]) ∧ Below w.heap.size w w' := by
  have hb : (n : Int) ≤ 1200000 := by omega
  clear h
  unfold mk1
  go_enter Tryz.func200, Tryz.ntmps200
  go_wp2
  exact bodyPost_ret (v := .agg #[.int .i64 (-1000 - (n : Int)), .int .i64 0, .int .i64 0]) (by simp [results, Tryz.results200, go_sem]) rfl ⟨rfl, bwA _ _⟩
set_option maxRecDepth 100000 in
set_option maxHeartbeats 2000000 in
theorem isSeals_any (n : Nat) (w : World) (h : n ≤ 1200000) :
    Calls Tryz.prog 232 #[.agg #[.int .i64 (mk1 n), .int .i64 0, .int .i64 0], .int .i64 (n : Int)] w fun e w' => e = .returned (.bool true) ∧ Below w.heap.size w w' := by
  have HK : Hid (∀ W, Calls Tryz.prog 200 #[.int .i64 (n : Int)] W fun e w' => e = .returned (.agg #[.int .i64 (mk1 n), .int .i64 0, .int .i64 0]) ∧ Below W.heap.size W w') := fun W => markSeals_any n W h
  have hb1 : -9223372036854775808 ≤ mk1 n ∧ mk1 n ≤ 9223372036854775807 := by unfold mk1; omega
  have he := fun W => equal_Seals W (mk1 n) 0 0 hb1 (by omega) (by omega)
  obtain ⟨w0, hw0⟩ : ∃ w0, w0 = w.alloc (.cells #[.int .i64 (mk1 n), .int .i64 0, .int .i64 0] 133) := ⟨_, rfl⟩
  have b0 : Below w.heap.size w w0 := by rw [hw0]; exact bwA _ _
  have k0 : w0.heap[w.heap.size]? = some (.cells #[.int .i64 (mk1 n), .int .i64 0, .int .i64 0] 133 (0, 0)) := by rw [hw0]; exact heap_alloc_new _ _
  have HS : Hid (∀ W, Below w0.heap.size w0 W → (W.cell? ⟨w.heap.size, 0, none⟩ = some (.int .i64 (mk1 n)) ∧ W.cell? ⟨w.heap.size, 1, none⟩ = some (.int .i64 0) ∧ W.cell? ⟨w.heap.size, 2, none⟩ = some (.int .i64 0)) ∧ Below w.heap.size w W) := fun W hW => ⟨⟨blk_c (kept_b k0 (lt_of_blk k0) hW) rfl, blk_c (kept_b k0 (lt_of_blk k0) hW) rfl, blk_c (kept_b k0 (lt_of_blk k0) hW) rfl⟩, bw_tr b0 hW⟩
  have S0 := (unhide HS w0 (Below.refl _ _)).1
  have S00 : (w0.drew.cell? ⟨w.heap.size, 0, none⟩ = some (.int .i64 (mk1 n)) ∧ w0.drew.cell? ⟨w.heap.size, 1, none⟩ = some (.int .i64 0) ∧ w0.drew.cell? ⟨w.heap.size, 2, none⟩ = some (.int .i64 0)) := S0
  have BD : Hid (Below w0.heap.size w0 w0.drew) := (Below.refl _ _).drew
  have HW := hide hw0
  clear h hw0 b0 k0 hb1
  generalize mk1 n = m at *
  go_enter Tryz.func232, Tryz.ntmps232
  go_upto_region 1 with fail
  rw [← unhide HW]
  clear HW
  go_region_held3 (fun w' : World => (w'.cell? ⟨w.heap.size, 0, none⟩ = some (.int .i64 m) ∧ w'.cell? ⟨w.heap.size, 1, none⟩ = some (.int .i64 0) ∧ w'.cell? ⟨w.heap.size, 2, none⟩ = some (.int .i64 0))) (first | with_reducible exact S0 | with_reducible exact S00 | with_reducible exact S1) (first
    | (go_at_call 200; refine (unhide HK _).mono ?_; rintro e z1 ⟨rfl, b1⟩; obtain ⟨S1, B1⟩ := unhide HS z1 (bw_tr (unhide BD) b1))
    | fail)
  all_goals
    go_wp2_with fail
    go_ret
    exact ⟨rfl, B1⟩
theorem copySeals (w : World) (v : Value) (l : List (List Int)) (hv : RI 3 w v l) : ∃ wc, (∀ ty, (Builtin.copy_ #[28, 28] ty #[.slice (some ⟨w.heap.size, 0, none⟩) l.length (l.length + 2), v]).run Tryz.prog (w.alloc (.cells (madeCells (Value.agg #[.int .i64 0, .int .i64 0, .int .i64 0]).cells ((l.length + 2) * 3)) 133)) = .ok (goInt l.length) wc) ∧
    wc.heap[w.heap.size]? = some (.cells (twR l (zrs 3) (zrs 3)) 133 (0, 0)) ∧ Below w.heap.size w wc := by
  obtain ⟨_, hfit, a, cap, rfl, hc⟩ := hv
  have hall : ∀ x ∈ l, x.length = 3 := fun x hx => (hfit x hx).1
  obtain ⟨cur, hcur⟩ : ∃ cur, cur = madeCells (Value.agg #[.int .i64 0, .int .i64 0, .int .i64 0]).cells ((l.length + 2) * 3) := ⟨_, rfl⟩
  have hcs : cur.toList = rwC (List.replicate (l.length + 2) (zrs 3)) := by rw [hcur]; exact made_rows 3 (l.length + 2) (by omega)
  have hrl : ∀ q ∈ List.replicate (l.length + 2) (zrs 3), q.length = 3 := fun q hq => by have := List.eq_of_mem_replicate hq; subst this; rfl
  have hcz : cur.toList.length = (l.length + 2) * 3 := by rw [hcs, rwC_len hrl]; simp
  rw [← hcur]
  have hG := heap_alloc_new w (.cells cur 133)
  have hb := bwA w (.cells cur 133)
  have hlen := rwC_len hall
  have hdrop : cur.toList.drop (l.length * 3) = icC (zrs 3) ++ icC (zrs 3) := by
    rw [hcs]
    have e : List.replicate (l.length + 2) (zrs 3) = List.replicate l.length (zrs 3) ++ [zrs 3, zrs 3] := by
      rw [← List.replicate_append_replicate]; rfl
    rw [e]
    unfold rwC
    rw [List.flatMap_append]
    have h2 : (List.flatMap icC (List.replicate l.length (zrs 3))).length = l.length * 3 := by
      have := rwC_len (c := 3) (l := List.replicate l.length (zrs 3)) (fun q hq => by have := List.eq_of_mem_replicate hq; subst this; rfl)
      simpa [rwC] using this
    rw [List.drop_left' h2]
    rfl
  rcases hc with hc | ⟨g, o, rfl, hc⟩
  · subst hc
    refine ⟨w.alloc (.cells cur 133), fun ty => copy_none _ _ _ _ 133 _ _ _ _ 3 Tryz.underlying28 Tryz.sizeSeals, ?_, hb⟩
    rw [hG]
    have : cur = twR [] (zrs 3) (zrs 3) := by apply Array.toList_inj.1; simpa [twR, rwC] using hdrop
    rw [this]
  · have hr := fun ty => run_copy_rows (P := Tryz.prog) (w.alloc (.cells cur 133)) 28 28 ty 133 w.heap.size l.length (l.length + 2) ⟨g, o, none⟩ l.length cap 3 cur 133 (rwC l) Tryz.underlying28 Tryz.sizeSeals hG (by rw [hlen]; simp) (fun j u hj => by
        have hjl : j < l.length * 3 := by rw [← hlen]; exact (List.getElem?_eq_some_iff.1 hj).1
        obtain ⟨q, r, hr, rfl⟩ : ∃ q r, r < 3 ∧ j = q * 3 + r := ⟨j / 3, j % 3, by omega, by omega⟩
        obtain ⟨x, hx⟩ : ∃ x, l[q]? = some x := ⟨_, List.getElem?_eq_getElem (by omega)⟩
        obtain ⟨z, hz⟩ : ∃ z, x[r]? = some z := ⟨_, List.getElem?_eq_getElem (by rw [hall x (List.mem_of_getElem? hx)]; exact hr)⟩
        have h1 := rwC_get hall hx hz
        rw [h1] at hj
        cases hj
        have h2 := hc q x hx r z hz
        have e : ∀ k, (⟨g, o, none⟩ : Addr).add k = ⟨g, o + k, none⟩ := fun k => by cases k <;> simp [Addr.add]
        rw [e, ← Nat.add_assoc, hb.cell (World.block_lt_of_cell? w _ h2)]
        exact h2) (by rw [hlen]; have := hcz; simp at this; omega) (fun u hu => by
        obtain ⟨z, _, hz⟩ := List.mem_flatMap.1 hu
        obtain ⟨y, _, rfl⟩ := List.mem_map.1 hz
        rfl)
    refine ⟨(w.alloc (.cells cur 133)).setRow w.heap.size (rwC l ++ cur.toList.drop (rwC l).length).toArray, fun ty => by rw [hr ty]; simp, ?_, ?_⟩
    · rw [setRow_heap _ _ cur _ 133 _ hG, hlen, hdrop]
      rfl
    · refine ⟨hb.os, hb.tape, hb.output, ?_, fun k hk => ?_⟩
      · simp
      · rw [setRow_other _ _ _ _ (by omega)]; exact hb.block k hk
theorem setSeals1 {w : World} {l : List (List Int)} {x y : List Int} {W : World} (hall : ∀ q ∈ l, q.length = 3) (hx : x = zrs 3) (h : W.heap[w.heap.size]? = some (.cells (twR l x y) 133 (0, 0))) (n : Nat) : ((((W.setCell ⟨w.heap.size, l.length * 3, none⟩ (.int .i64 (mk1 n))).setCell ⟨w.heap.size, l.length * 3 + 1, none⟩ (.int .i64 0)).setCell ⟨w.heap.size, l.length * 3 + 2, none⟩ (.int .i64 0))).heap[w.heap.size]? = some (.cells (twR l (mkR 3 n) y) 133 (0, 0)) := by
  subst hx
  rw [poke_b (poke_b (poke_b h _) _) _]
  congr 2
  apply Array.toList_inj.1
  have hl := rwC_len hall
  simp [twR, List.set_append_right, hl, icC, zrs, mkR, mk1, List.replicate]
theorem setSeals2 {w : World} {l : List (List Int)} {x y : List Int} {W : World} (hall : ∀ q ∈ l, q.length = 3) (hx : x.length = 3) (hy : y = zrs 3) (h : W.heap[w.heap.size]? = some (.cells (twR l x y) 133 (0, 0))) (n : Nat) : ((((W.setCell ⟨w.heap.size, (l.length + 1) * 3, none⟩ (.int .i64 (mk1 n))).setCell ⟨w.heap.size, (l.length + 1) * 3 + 1, none⟩ (.int .i64 0)).setCell ⟨w.heap.size, (l.length + 1) * 3 + 2, none⟩ (.int .i64 0))).heap[w.heap.size]? = some (.cells (twR l x (mkR 3 n)) 133 (0, 0)) := by
  subst hy
  rw [poke_b (poke_b (poke_b h _) _) _]
  congr 2
  apply Array.toList_inj.1
  have hl := rwC_len hall
  have hix : (icC x).length = 3 := by simp [icC, hx]
  have hw : (rwC l ++ icC x).length = (l.length + 1) * 3 := by rw [List.length_append, hl, hix]; omega
  simp only [twR, Array.toList_setIfInBounds]
  rw [← List.append_assoc]
  rw [List.set_append_right _ _ (by omega), List.set_append_right _ _ (by omega), List.set_append_right _ _ (by omega), hw]
  simp only [Nat.sub_self, Nat.add_sub_cancel_left]
  rw [List.append_assoc]
  rfl
theorem belSeals {w W : World} (h : Below w.heap.size w W) (i : Nat) (v0 v1 v2 : Value) : Below w.heap.size w ((((W.setCell ⟨w.heap.size, i, none⟩ v0).setCell ⟨w.heap.size, i + 1, none⟩ v1).setCell ⟨w.heap.size, i + 2, none⟩ v2)) := by
  refine ⟨h.os, h.tape, h.output, ?_, fun k hk => ?_⟩
  · have := h.size; simp [World.setCell]; exact this
  · rw [other_c (by omega), other_c (by omega), other_c (by omega)]
    exact h.block k hk
set_option maxRecDepth 100000 in
set_option maxHeartbeats 4000000 in
theorem twinSeals_any (w : World) (v : Value) (l : List (List Int)) (hv : RI 3 w v l) (hl : l.length ≤ 262144) :
    Calls Tryz.prog 163 #[v] w fun e w' => e = .returned (.slice (some ⟨w.heap.size, 0, none⟩) l.length (l.length + 2)) ∧ TwR 3 133 w' w.heap.size l ∧ Below w.heap.size w w' := by
  obtain ⟨wc, hcp, hcell, hbel⟩ := copySeals w v l hv
  have hall : ∀ x ∈ l, x.length = 3 := fun x hx => (hv.fit x hx).1
  obtain ⟨_, _, a, cap, rfl, _⟩ := hv
  obtain ⟨i0, hi, hz0, hz1, hz2⟩ := info_parts Tryz.infoSeals
  have hmk := run_makeSlice (P := Tryz.prog) w 28 133 i0 (.agg #[.int .i64 0, .int .i64 0, .int .i64 0]) Tryz.underlying28 hi hz0 .i64 .i64 (l.length : Int) ((l.length : Int) + 2) (by omega) (by omega) (by rw [hz1]; omega) (by rw [hz2]; omega) (by omega)
  rw [hz1] at hmk
  have e2 : ((l.length : Int) + 2).toNat = l.length + 2 := by omega
  rw [e2, Int.toNat_natCast] at hmk
  obtain ⟨N, hN⟩ : ∃ N, N = l.length := ⟨_, rfl⟩
  have hsl : ∀ W, (Instr.slice 28 (.slice (some ⟨w.heap.size, 0, none⟩) N (N + 2)) none (some (.int .i64 ((N : Int) + 2))) none).run Tryz.prog W = .ok (.slice (some ⟨w.heap.size, 0, none⟩) (N + 2) (N + 2)) W := fun W => by
    have := slice_roomSeals W w.heap.size N (N + 2) (N + 2) (Nat.le_refl _)
    exact this
  rw [← hN] at hmk hcp ⊢
  have hNb : (N : Int) ≤ 262144 := by omega
  have HC : Hid (wc.heap[w.heap.size]? = some (.cells (twR l (zrs 3) (zrs 3)) 133 (0, 0)) ∧ Below w.heap.size w wc) := ⟨hcell, hbel⟩
  have HN := hide (And.intro hN hall)
  generalize madeCells (Value.agg #[.int .i64 0, .int .i64 0, .int .i64 0]).cells ((N + 2) * 3) = mc at hmk hcp
  clear e2 hcell hbel hi hz0 hz1 hz2 hl hN hall
  go_enter Tryz.func163, Tryz.ntmps163
  go_wp2_with fail
  go_loopw [5] (fun iv wr => ∃ k : Nat, k ≤ 2 ∧ iv = .int .i64 ((N : Int) + (k : Int)) ∧ Hid (wr.heap[w.heap.size]? = some (.cells (twR l (if 1 ≤ k then mkR 3 N else zrs 3) (if 2 ≤ k then mkR 3 (N + 1) else zrs 3)) 133 (0, 0)) ∧ Below w.heap.size w wr)) (fun iv _ => (N + 2 - intOf iv).toNat)
  case atStart => exact ⟨0, by omega, by go_num, HC⟩
  case round =>
    clear HC
    obtain ⟨k, hk, rfl, HR⟩ := hrel
    match k, hk with
    | 0, _ =>
      have K := hide (markSeals_any N wr (by omega))
      have HS : Hid (∀ W, Below wr.heap.size wr W → (W.cell? ⟨w.heap.size, N * 3, none⟩ = some (.int .i64 0) ∧ W.cell? ⟨w.heap.size, N * 3 + 1, none⟩ = some (.int .i64 0) ∧ W.cell? ⟨w.heap.size, N * 3 + 2, none⟩ = some (.int .i64 0)) ∧ (∀ j, W.frozen? ⟨w.heap.size, j, none⟩ = false) ∧ Hid (((((W.setCell ⟨w.heap.size, N * 3, none⟩ (.int .i64 (mk1 N))).setCell ⟨w.heap.size, N * 3 + 1, none⟩ (.int .i64 0)).setCell ⟨w.heap.size, N * 3 + 2, none⟩ (.int .i64 0))).heap[w.heap.size]? = some (.cells (twR l (if 1 ≤ 1 then mkR 3 N else zrs 3) (if 2 ≤ 1 then mkR 3 (N + 1) else zrs 3)) 133 (0, 0)) ∧ Below w.heap.size w ((((W.setCell ⟨w.heap.size, N * 3, none⟩ (.int .i64 (mk1 N))).setCell ⟨w.heap.size, N * 3 + 1, none⟩ (.int .i64 0)).setCell ⟨w.heap.size, N * 3 + 2, none⟩ (.int .i64 0))))) := fun W hW => by
        obtain ⟨hN, hall⟩ := unhide HN
        have hcl : W.heap[w.heap.size]? = some (.cells (twR l (zrs 3) (zrs 3)) 133 (0, 0)) := kept_b (unhide HR).1 (lt_of_blk (unhide HR).1) hW
        have hb := bw_tr (unhide HR).2 hW
        have hA := fun j (hj : j < 3) => twR_at (i := N) (j := j) (a := zrs 3) (z := 0) hall rfl rfl hcl (by rw [hN]; simp) (zrs_at hj)
        have h1 := setSeals1 (w := w) hall rfl hcl N
        rw [← hN] at h1
        exact ⟨⟨hA 0 (by omega), hA 1 (by omega), hA 2 (by omega)⟩, fun j => froz_b hcl, h1, belSeals hb _ _ _ _⟩
      clear HR
      generalize mk1 N = m0 at *
      go_wp2_with fail
      refine (unhide K).mono ?_
      rintro e w2 ⟨rfl, b2⟩
      obtain ⟨⟨c0, c1, c2⟩, fz, HR2⟩ := unhide HS w2 b2
      clear K HS b2
      go_wp2_with fail
      go_roundw
      case rel => exact ⟨1, by omega, by go_num, HR2⟩
      case measure => simp only [intOf]; omega
    | 1, _ =>
      have K : Hid (Calls Tryz.prog 200 #[.int .i64 ((N : Int) + 1)] wr fun e w' => e = .returned (.agg #[.int .i64 (mk1 (N + 1)), .int .i64 0, .int .i64 0]) ∧ Below wr.heap.size wr w') := markSeals_any (N + 1) wr (by omega)
      have HS : Hid (∀ W, Below wr.heap.size wr W → (W.cell? ⟨w.heap.size, (N + 1) * 3, none⟩ = some (.int .i64 0) ∧ W.cell? ⟨w.heap.size, (N + 1) * 3 + 1, none⟩ = some (.int .i64 0) ∧ W.cell? ⟨w.heap.size, (N + 1) * 3 + 2, none⟩ = some (.int .i64 0)) ∧ (∀ j, W.frozen? ⟨w.heap.size, j, none⟩ = false) ∧ Hid (((((W.setCell ⟨w.heap.size, (N + 1) * 3, none⟩ (.int .i64 (mk1 (N + 1)))).setCell ⟨w.heap.size, (N + 1) * 3 + 1, none⟩ (.int .i64 0)).setCell ⟨w.heap.size, (N + 1) * 3 + 2, none⟩ (.int .i64 0))).heap[w.heap.size]? = some (.cells (twR l (if 1 ≤ 2 then mkR 3 N else zrs 3) (if 2 ≤ 2 then mkR 3 (N + 1) else zrs 3)) 133 (0, 0)) ∧ Below w.heap.size w ((((W.setCell ⟨w.heap.size, (N + 1) * 3, none⟩ (.int .i64 (mk1 (N + 1)))).setCell ⟨w.heap.size, (N + 1) * 3 + 1, none⟩ (.int .i64 0)).setCell ⟨w.heap.size, (N + 1) * 3 + 2, none⟩ (.int .i64 0))))) := fun W hW => by
        obtain ⟨hN, hall⟩ := unhide HN
        have hcl : W.heap[w.heap.size]? = some (.cells (twR l (mkR 3 N) (zrs 3)) 133 (0, 0)) := kept_b (unhide HR).1 (lt_of_blk (unhide HR).1) hW
        have hb := bw_tr (unhide HR).2 hW
        have hA := fun j (hj : j < 3) => twR_at (i := N + 1) (j := j) (a := zrs 3) (z := 0) hall (mkR_len (by omega) N) rfl hcl (by rw [hN]; simp) (zrs_at hj)
        have h1 := setSeals2 (w := w) hall (mkR_len (by omega) N) rfl hcl (N + 1)
        rw [← hN] at h1
        exact ⟨⟨hA 0 (by omega), hA 1 (by omega), hA 2 (by omega)⟩, fun j => froz_b hcl, h1, belSeals hb _ _ _ _⟩
      clear HR
      generalize mk1 (N + 1) = m1 at *
      go_wp2_with fail
      refine (unhide K).mono ?_
      rintro e w2 ⟨rfl, b2⟩
      obtain ⟨⟨c0, c1, c2⟩, fz, HR2⟩ := unhide HS w2 b2
      clear K HS b2
      go_wp2_with fail
      go_roundw
      case rel => exact ⟨2, by omega, by go_num, HR2⟩
      case measure => simp only [intOf]; omega
    | 2, _ =>
      go_wp2_with fail
      go_ret
      refine ⟨rfl, ?_, (unhide HR).2⟩
      have := (unhide HR).1
      unfold TwR
      rw [← (unhide HN).1]
      exact this
    | k + 3, h => exact absurd h (by omega)
set_option maxRecDepth 100000 in
set_option maxHeartbeats 4000000 in
theorem leftSeals_any (w : World) (g : Nat) (v : Value) (l : List (List Int)) (ht : TwR 3 133 w g l) (hv : RI 3 w v l) (hl : l.length ≤ 262144) :
    Calls Tryz.prog 174 #[.slice (some ⟨g, 0, none⟩) l.length (l.length + 2), v] w fun e w' => e = .returned (.bool true) ∧ Below w.heap.size w w' := by
  have hn := ht.ri (by omega) hl hv.fit
  have hall : ∀ x ∈ l, x.length = 3 := fun x hx => (hv.fit x hx).1
  have HKS : Hid (∀ W, Below w.heap.size w W → Calls Tryz.prog 47 #[.slice (some ⟨g, 0, none⟩) l.length (l.length + 2), v] W fun e w' => e = .returned (.bool true) ∧ Below W.heap.size W w') := fun W hW => sameSeals_any _ _ l W (hn.bw hW) (hv.bw hW)
  obtain ⟨_, _, a, cap, rfl, _⟩ := hv
  obtain ⟨N, hN⟩ : ∃ N, N = l.length := ⟨_, rfl⟩
  have hsl : ∀ W, (Instr.slice 28 (.slice (some ⟨g, 0, none⟩) N (N + 2)) none (some (.int .i64 ((N : Int) + 2))) none).run Tryz.prog W = .ok (.slice (some ⟨g, 0, none⟩) (N + 2) (N + 2)) W := fun W => by
    have := slice_roomSeals W g N (N + 2) (N + 2) (Nat.le_refl _)
    exact this
  have HC : Hid (∀ W, Below w.heap.size w W → (W.cell? ⟨g, N * 3, none⟩ = some (.int .i64 (mk1 N)) ∧ W.cell? ⟨g, N * 3 + 1, none⟩ = some (.int .i64 0) ∧ W.cell? ⟨g, N * 3 + 2, none⟩ = some (.int .i64 0)) ∧ (W.cell? ⟨g, (N + 1) * 3, none⟩ = some (.int .i64 (mk1 (N + 1))) ∧ W.cell? ⟨g, (N + 1) * 3 + 1, none⟩ = some (.int .i64 0) ∧ W.cell? ⟨g, (N + 1) * 3 + 2, none⟩ = some (.int .i64 0))) := fun W hW => by
    have hcl := kept_b ht (lt_of_blk ht) hW
    rw [hN]
    exact ⟨⟨twR_at (i := l.length) (j := 0) (a := mkR 3 l.length) hall (mkR_len (by omega) _) (mkR_len (by omega) _) hcl (by simp) rfl, twR_at (i := l.length) (j := 1) (a := mkR 3 l.length) hall (mkR_len (by omega) _) (mkR_len (by omega) _) hcl (by simp) rfl, twR_at (i := l.length) (j := 2) (a := mkR 3 l.length) hall (mkR_len (by omega) _) (mkR_len (by omega) _) hcl (by simp) rfl⟩, ⟨twR_at (i := l.length + 1) (j := 0) (a := mkR 3 (l.length + 1)) hall (mkR_len (by omega) _) (mkR_len (by omega) _) hcl (by simp) rfl, twR_at (i := l.length + 1) (j := 1) (a := mkR 3 (l.length + 1)) hall (mkR_len (by omega) _) (mkR_len (by omega) _) hcl (by simp) rfl, twR_at (i := l.length + 1) (j := 2) (a := mkR 3 (l.length + 1)) hall (mkR_len (by omega) _) (mkR_len (by omega) _) hcl (by simp) rfl⟩⟩
  rw [← hN] at HKS ⊢
  have hNb : (N : Int) ≤ 262144 := by omega
  have K0 : Hid (∀ W, Calls Tryz.prog 232 #[.agg #[.int .i64 (mk1 N), .int .i64 0, .int .i64 0], .int .i64 (N : Int)] W fun e w' => e = .returned (.bool true) ∧ Below W.heap.size W w') := fun W => isSeals_any N W (by omega)
  have K1 : Hid (∀ W, Calls Tryz.prog 232 #[.agg #[.int .i64 (mk1 (N + 1)), .int .i64 0, .int .i64 0], .int .i64 ((N : Int) + 1)] W fun e w' => e = .returned (.bool true) ∧ Below W.heap.size W w') := fun W => isSeals_any (N + 1) W (by omega)
  clear hn ht hN hl hall
  generalize mk1 N = m0 at *
  generalize mk1 (N + 1) = m1 at *
  go_enter Tryz.func174, Tryz.ntmps174
  go_wp2_with fail
  go_loopw [6] (fun iv wr => ∃ k : Nat, k ≤ 2 ∧ iv = .int .i64 ((N : Int) + (k : Int)) ∧ Hid (Below w.heap.size w wr)) (fun iv _ => (N + 2 - intOf iv).toNat)
  case atStart => exact ⟨0, by omega, by go_num, Below.refl _ _⟩
  case round =>
    obtain ⟨k, hk, rfl, hwr⟩ := hrel
    obtain ⟨⟨c0, c1, c2⟩, ⟨d0, d1, d2⟩⟩ := unhide HC wr (unhide hwr)
    match k, hk with
    | 0, _ =>
      clear d0 d1 d2
      go_wp2_with fail
      refine (unhide K0 _).mono ?_
      rintro e w2 ⟨rfl, b2⟩
      have B2 : Hid (Below w.heap.size w w2) := bw_tr (unhide hwr) b2
      clear b2 c0 c1 c2
      go_wp2_with fail
      go_roundw
      case rel => exact ⟨1, by omega, by go_num, B2⟩
      case measure => simp only [intOf]; omega
    | 1, _ =>
      clear c0 c1 c2
      go_wp2_with fail
      refine (unhide K1 _).mono ?_
      rintro e w2 ⟨rfl, b2⟩
      have B2 : Hid (Below w.heap.size w w2) := bw_tr (unhide hwr) b2
      clear b2 d0 d1 d2
      go_wp2_with fail
      go_roundw
      case rel => exact ⟨2, by omega, by go_num, B2⟩
      case measure => simp only [intOf]; omega
    | 2, _ =>
      clear c0 d0 c1 d1 c2 d2
      have KS := hide (unhide HKS _ (unhide hwr))
      go_wp2_with fail
      refine (unhide KS).mono ?_
      rintro e w2 ⟨rfl, hb2⟩
      have B2 : Hid (Below w.heap.size w w2) := bw_tr (unhide hwr) hb2
      clear hb2
      go_wp2_with fail
      go_ret
      exact ⟨rfl, unhide B2⟩
    | k + 3, h => exact absurd h (by omega)
end Go.Proofs.YtnfhbmlmemifjaaGreatDoor

/- markAdd, isAdd, TwinAdds, LeftAdds. -/
namespace Go.Proofs.YtnfhbmlmemifjaaGreatDoor
open Go.RowKit Go.Maps
theorem Tryz.infoAdds : (Tryz.prog.info? 131).map (fun i => (i.zero, i.size, i.bytes)) = some (some (.agg #[.int .i64 0, .int .i64 0, .int .i64 0]), 3, 24) := by kernel_rfl
theorem Tryz.sizeAdds : (Tryz.prog.info? 131).map (·.size) = some 3 := by kernel_rfl
theorem slice_roomAdds (w : World) (g n cap i : Nat) (hi : i ≤ cap) : (Instr.slice 26 (.slice (some ⟨g, 0, none⟩) n cap) none (some (.int .i64 (i : Int))) none).run Tryz.prog w = .ok (.slice (some ⟨g, 0, none⟩) i cap) w := by
  have ht : Tryz.prog.underlying 26 = some (.slice (Tryz.prog.elem 26)) := by kernel_rfl
  have he : Tryz.prog.elem 26 = 131 := by kernel_rfl
  have hs : (Go.sizeOf 131).run Tryz.prog w = .ok 3 w := by kernel_rfl
  rw [run_slice_h (P := Tryz.prog) w 26 (some ⟨g, 0, none⟩) n cap ht .i64 i (by omega) (by omega), he, hs]
  simp [Result.andThen, sliced, Addr.add]
set_option maxRecDepth 100000 in
theorem markAdds_any (n : Nat) (w : World) (h : n ≤ 1200000) :
    Calls Tryz.prog 202 #[.int .i64 (n : Int)] w fun e w' => e = .returned (.agg #[.int .i64 (mk1 n), .int .i64 0, .int .i64 0]) ∧ Below w.heap.size w w' := by
  have hb : (n : Int) ≤ 1200000 := by omega
  clear h
  unfold mk1
  go_enter Tryz.func202, Tryz.ntmps202
  go_wp2
  exact bodyPost_ret (v := .agg #[.int .i64 (-1000 - (n : Int)), .int .i64 0, .int .i64 0]) (by simp [results, Tryz.results202, go_sem]) rfl ⟨rfl, bwA _ _⟩
set_option maxRecDepth 100000 in
set_option maxHeartbeats 2000000 in
theorem isAdds_any (n : Nat) (w : World) (h : n ≤ 1200000) :
    Calls Tryz.prog 234 #[.agg #[.int .i64 (mk1 n), .int .i64 0, .int .i64 0], .int .i64 (n : Int)] w fun e w' => e = .returned (.bool true) ∧ Below w.heap.size w w' := by
  have HK : Hid (∀ W, Calls Tryz.prog 202 #[.int .i64 (n : Int)] W fun e w' => e = .returned (.agg #[.int .i64 (mk1 n), .int .i64 0, .int .i64 0]) ∧ Below W.heap.size W w') := fun W => markAdds_any n W h
  have hb1 : -9223372036854775808 ≤ mk1 n ∧ mk1 n ≤ 9223372036854775807 := by unfold mk1; omega
  have he := fun W => equal_Adds W (mk1 n) 0 0 hb1 (by omega) (by omega)
  obtain ⟨w0, hw0⟩ : ∃ w0, w0 = w.alloc (.cells #[.int .i64 (mk1 n), .int .i64 0, .int .i64 0] 131) := ⟨_, rfl⟩
  have b0 : Below w.heap.size w w0 := by rw [hw0]; exact bwA _ _
  have k0 : w0.heap[w.heap.size]? = some (.cells #[.int .i64 (mk1 n), .int .i64 0, .int .i64 0] 131 (0, 0)) := by rw [hw0]; exact heap_alloc_new _ _
  have HS : Hid (∀ W, Below w0.heap.size w0 W → (W.cell? ⟨w.heap.size, 0, none⟩ = some (.int .i64 (mk1 n)) ∧ W.cell? ⟨w.heap.size, 1, none⟩ = some (.int .i64 0) ∧ W.cell? ⟨w.heap.size, 2, none⟩ = some (.int .i64 0)) ∧ Below w.heap.size w W) := fun W hW => ⟨⟨blk_c (kept_b k0 (lt_of_blk k0) hW) rfl, blk_c (kept_b k0 (lt_of_blk k0) hW) rfl, blk_c (kept_b k0 (lt_of_blk k0) hW) rfl⟩, bw_tr b0 hW⟩
  have S0 := (unhide HS w0 (Below.refl _ _)).1
  have S00 : (w0.drew.cell? ⟨w.heap.size, 0, none⟩ = some (.int .i64 (mk1 n)) ∧ w0.drew.cell? ⟨w.heap.size, 1, none⟩ = some (.int .i64 0) ∧ w0.drew.cell? ⟨w.heap.size, 2, none⟩ = some (.int .i64 0)) := S0
  have BD : Hid (Below w0.heap.size w0 w0.drew) := (Below.refl _ _).drew
  have HW := hide hw0
  clear h hw0 b0 k0 hb1
  generalize mk1 n = m at *
  go_enter Tryz.func234, Tryz.ntmps234
  go_upto_region 1 with fail
  rw [← unhide HW]
  clear HW
  go_region_held3 (fun w' : World => (w'.cell? ⟨w.heap.size, 0, none⟩ = some (.int .i64 m) ∧ w'.cell? ⟨w.heap.size, 1, none⟩ = some (.int .i64 0) ∧ w'.cell? ⟨w.heap.size, 2, none⟩ = some (.int .i64 0))) (first | with_reducible exact S0 | with_reducible exact S00 | with_reducible exact S1) (first
    | (go_at_call 202; refine (unhide HK _).mono ?_; rintro e z1 ⟨rfl, b1⟩; obtain ⟨S1, B1⟩ := unhide HS z1 (bw_tr (unhide BD) b1))
    | fail)
  all_goals
    go_wp2_with fail
    go_ret
    exact ⟨rfl, B1⟩
theorem copyAdds (w : World) (v : Value) (l : List (List Int)) (hv : RI 3 w v l) : ∃ wc, (∀ ty, (Builtin.copy_ #[26, 26] ty #[.slice (some ⟨w.heap.size, 0, none⟩) l.length (l.length + 2), v]).run Tryz.prog (w.alloc (.cells (madeCells (Value.agg #[.int .i64 0, .int .i64 0, .int .i64 0]).cells ((l.length + 2) * 3)) 131)) = .ok (goInt l.length) wc) ∧
    wc.heap[w.heap.size]? = some (.cells (twR l (zrs 3) (zrs 3)) 131 (0, 0)) ∧ Below w.heap.size w wc := by
  obtain ⟨_, hfit, a, cap, rfl, hc⟩ := hv
  have hall : ∀ x ∈ l, x.length = 3 := fun x hx => (hfit x hx).1
  obtain ⟨cur, hcur⟩ : ∃ cur, cur = madeCells (Value.agg #[.int .i64 0, .int .i64 0, .int .i64 0]).cells ((l.length + 2) * 3) := ⟨_, rfl⟩
  have hcs : cur.toList = rwC (List.replicate (l.length + 2) (zrs 3)) := by rw [hcur]; exact made_rows 3 (l.length + 2) (by omega)
  have hrl : ∀ q ∈ List.replicate (l.length + 2) (zrs 3), q.length = 3 := fun q hq => by have := List.eq_of_mem_replicate hq; subst this; rfl
  have hcz : cur.toList.length = (l.length + 2) * 3 := by rw [hcs, rwC_len hrl]; simp
  rw [← hcur]
  have hG := heap_alloc_new w (.cells cur 131)
  have hb := bwA w (.cells cur 131)
  have hlen := rwC_len hall
  have hdrop : cur.toList.drop (l.length * 3) = icC (zrs 3) ++ icC (zrs 3) := by
    rw [hcs]
    have e : List.replicate (l.length + 2) (zrs 3) = List.replicate l.length (zrs 3) ++ [zrs 3, zrs 3] := by
      rw [← List.replicate_append_replicate]; rfl
    rw [e]
    unfold rwC
    rw [List.flatMap_append]
    have h2 : (List.flatMap icC (List.replicate l.length (zrs 3))).length = l.length * 3 := by
      have := rwC_len (c := 3) (l := List.replicate l.length (zrs 3)) (fun q hq => by have := List.eq_of_mem_replicate hq; subst this; rfl)
      simpa [rwC] using this
    rw [List.drop_left' h2]
    rfl
  rcases hc with hc | ⟨g, o, rfl, hc⟩
  · subst hc
    refine ⟨w.alloc (.cells cur 131), fun ty => copy_none _ _ _ _ 131 _ _ _ _ 3 Tryz.underlying26 Tryz.sizeAdds, ?_, hb⟩
    rw [hG]
    have : cur = twR [] (zrs 3) (zrs 3) := by apply Array.toList_inj.1; simpa [twR, rwC] using hdrop
    rw [this]
  · have hr := fun ty => run_copy_rows (P := Tryz.prog) (w.alloc (.cells cur 131)) 26 26 ty 131 w.heap.size l.length (l.length + 2) ⟨g, o, none⟩ l.length cap 3 cur 131 (rwC l) Tryz.underlying26 Tryz.sizeAdds hG (by rw [hlen]; simp) (fun j u hj => by
        have hjl : j < l.length * 3 := by rw [← hlen]; exact (List.getElem?_eq_some_iff.1 hj).1
        obtain ⟨q, r, hr, rfl⟩ : ∃ q r, r < 3 ∧ j = q * 3 + r := ⟨j / 3, j % 3, by omega, by omega⟩
        obtain ⟨x, hx⟩ : ∃ x, l[q]? = some x := ⟨_, List.getElem?_eq_getElem (by omega)⟩
        obtain ⟨z, hz⟩ : ∃ z, x[r]? = some z := ⟨_, List.getElem?_eq_getElem (by rw [hall x (List.mem_of_getElem? hx)]; exact hr)⟩
        have h1 := rwC_get hall hx hz
        rw [h1] at hj
        cases hj
        have h2 := hc q x hx r z hz
        have e : ∀ k, (⟨g, o, none⟩ : Addr).add k = ⟨g, o + k, none⟩ := fun k => by cases k <;> simp [Addr.add]
        rw [e, ← Nat.add_assoc, hb.cell (World.block_lt_of_cell? w _ h2)]
        exact h2) (by rw [hlen]; have := hcz; simp at this; omega) (fun u hu => by
        obtain ⟨z, _, hz⟩ := List.mem_flatMap.1 hu
        obtain ⟨y, _, rfl⟩ := List.mem_map.1 hz
        rfl)
    refine ⟨(w.alloc (.cells cur 131)).setRow w.heap.size (rwC l ++ cur.toList.drop (rwC l).length).toArray, fun ty => by rw [hr ty]; simp, ?_, ?_⟩
    · rw [setRow_heap _ _ cur _ 131 _ hG, hlen, hdrop]
      rfl
    · refine ⟨hb.os, hb.tape, hb.output, ?_, fun k hk => ?_⟩
      · simp
      · rw [setRow_other _ _ _ _ (by omega)]; exact hb.block k hk
theorem setAdds1 {w : World} {l : List (List Int)} {x y : List Int} {W : World} (hall : ∀ q ∈ l, q.length = 3) (hx : x = zrs 3) (h : W.heap[w.heap.size]? = some (.cells (twR l x y) 131 (0, 0))) (n : Nat) : ((((W.setCell ⟨w.heap.size, l.length * 3, none⟩ (.int .i64 (mk1 n))).setCell ⟨w.heap.size, l.length * 3 + 1, none⟩ (.int .i64 0)).setCell ⟨w.heap.size, l.length * 3 + 2, none⟩ (.int .i64 0))).heap[w.heap.size]? = some (.cells (twR l (mkR 3 n) y) 131 (0, 0)) := by
  subst hx
  rw [poke_b (poke_b (poke_b h _) _) _]
  congr 2
  apply Array.toList_inj.1
  have hl := rwC_len hall
  simp [twR, List.set_append_right, hl, icC, zrs, mkR, mk1, List.replicate]
theorem setAdds2 {w : World} {l : List (List Int)} {x y : List Int} {W : World} (hall : ∀ q ∈ l, q.length = 3) (hx : x.length = 3) (hy : y = zrs 3) (h : W.heap[w.heap.size]? = some (.cells (twR l x y) 131 (0, 0))) (n : Nat) : ((((W.setCell ⟨w.heap.size, (l.length + 1) * 3, none⟩ (.int .i64 (mk1 n))).setCell ⟨w.heap.size, (l.length + 1) * 3 + 1, none⟩ (.int .i64 0)).setCell ⟨w.heap.size, (l.length + 1) * 3 + 2, none⟩ (.int .i64 0))).heap[w.heap.size]? = some (.cells (twR l x (mkR 3 n)) 131 (0, 0)) := by
  subst hy
  rw [poke_b (poke_b (poke_b h _) _) _]
  congr 2
  apply Array.toList_inj.1
  have hl := rwC_len hall
  have hix : (icC x).length = 3 := by simp [icC, hx]
  have hw : (rwC l ++ icC x).length = (l.length + 1) * 3 := by rw [List.length_append, hl, hix]; omega
  simp only [twR, Array.toList_setIfInBounds]
  rw [← List.append_assoc]
  rw [List.set_append_right _ _ (by omega), List.set_append_right _ _ (by omega), List.set_append_right _ _ (by omega), hw]
  simp only [Nat.sub_self, Nat.add_sub_cancel_left]
  rw [List.append_assoc]
  rfl
theorem belAdds {w W : World} (h : Below w.heap.size w W) (i : Nat) (v0 v1 v2 : Value) : Below w.heap.size w ((((W.setCell ⟨w.heap.size, i, none⟩ v0).setCell ⟨w.heap.size, i + 1, none⟩ v1).setCell ⟨w.heap.size, i + 2, none⟩ v2)) := by
  refine ⟨h.os, h.tape, h.output, ?_, fun k hk => ?_⟩
  · have := h.size; simp [World.setCell]; exact this
  · rw [other_c (by omega), other_c (by omega), other_c (by omega)]
    exact h.block k hk
set_option maxRecDepth 100000 in
set_option maxHeartbeats 4000000 in
theorem twinAdds_any (w : World) (v : Value) (l : List (List Int)) (hv : RI 3 w v l) (hl : l.length ≤ 262144) :
    Calls Tryz.prog 161 #[v] w fun e w' => e = .returned (.slice (some ⟨w.heap.size, 0, none⟩) l.length (l.length + 2)) ∧ TwR 3 131 w' w.heap.size l ∧ Below w.heap.size w w' := by
  obtain ⟨wc, hcp, hcell, hbel⟩ := copyAdds w v l hv
  have hall : ∀ x ∈ l, x.length = 3 := fun x hx => (hv.fit x hx).1
  obtain ⟨_, _, a, cap, rfl, _⟩ := hv
  obtain ⟨i0, hi, hz0, hz1, hz2⟩ := info_parts Tryz.infoAdds
  have hmk := run_makeSlice (P := Tryz.prog) w 26 131 i0 (.agg #[.int .i64 0, .int .i64 0, .int .i64 0]) Tryz.underlying26 hi hz0 .i64 .i64 (l.length : Int) ((l.length : Int) + 2) (by omega) (by omega) (by rw [hz1]; omega) (by rw [hz2]; omega) (by omega)
  rw [hz1] at hmk
  have e2 : ((l.length : Int) + 2).toNat = l.length + 2 := by omega
  rw [e2, Int.toNat_natCast] at hmk
  obtain ⟨N, hN⟩ : ∃ N, N = l.length := ⟨_, rfl⟩
  have hsl : ∀ W, (Instr.slice 26 (.slice (some ⟨w.heap.size, 0, none⟩) N (N + 2)) none (some (.int .i64 ((N : Int) + 2))) none).run Tryz.prog W = .ok (.slice (some ⟨w.heap.size, 0, none⟩) (N + 2) (N + 2)) W := fun W => by
    have := slice_roomAdds W w.heap.size N (N + 2) (N + 2) (Nat.le_refl _)
    exact this
  rw [← hN] at hmk hcp ⊢
  have hNb : (N : Int) ≤ 262144 := by omega
  have HC : Hid (wc.heap[w.heap.size]? = some (.cells (twR l (zrs 3) (zrs 3)) 131 (0, 0)) ∧ Below w.heap.size w wc) := ⟨hcell, hbel⟩
  have HN := hide (And.intro hN hall)
  generalize madeCells (Value.agg #[.int .i64 0, .int .i64 0, .int .i64 0]).cells ((N + 2) * 3) = mc at hmk hcp
  clear e2 hcell hbel hi hz0 hz1 hz2 hl hN hall
  go_enter Tryz.func161, Tryz.ntmps161
  go_wp2_with fail
  go_loopw [5] (fun iv wr => ∃ k : Nat, k ≤ 2 ∧ iv = .int .i64 ((N : Int) + (k : Int)) ∧ Hid (wr.heap[w.heap.size]? = some (.cells (twR l (if 1 ≤ k then mkR 3 N else zrs 3) (if 2 ≤ k then mkR 3 (N + 1) else zrs 3)) 131 (0, 0)) ∧ Below w.heap.size w wr)) (fun iv _ => (N + 2 - intOf iv).toNat)
  case atStart => exact ⟨0, by omega, by go_num, HC⟩
  case round =>
    clear HC
    obtain ⟨k, hk, rfl, HR⟩ := hrel
    match k, hk with
    | 0, _ =>
      have K := hide (markAdds_any N wr (by omega))
      have HS : Hid (∀ W, Below wr.heap.size wr W → (W.cell? ⟨w.heap.size, N * 3, none⟩ = some (.int .i64 0) ∧ W.cell? ⟨w.heap.size, N * 3 + 1, none⟩ = some (.int .i64 0) ∧ W.cell? ⟨w.heap.size, N * 3 + 2, none⟩ = some (.int .i64 0)) ∧ (∀ j, W.frozen? ⟨w.heap.size, j, none⟩ = false) ∧ Hid (((((W.setCell ⟨w.heap.size, N * 3, none⟩ (.int .i64 (mk1 N))).setCell ⟨w.heap.size, N * 3 + 1, none⟩ (.int .i64 0)).setCell ⟨w.heap.size, N * 3 + 2, none⟩ (.int .i64 0))).heap[w.heap.size]? = some (.cells (twR l (if 1 ≤ 1 then mkR 3 N else zrs 3) (if 2 ≤ 1 then mkR 3 (N + 1) else zrs 3)) 131 (0, 0)) ∧ Below w.heap.size w ((((W.setCell ⟨w.heap.size, N * 3, none⟩ (.int .i64 (mk1 N))).setCell ⟨w.heap.size, N * 3 + 1, none⟩ (.int .i64 0)).setCell ⟨w.heap.size, N * 3 + 2, none⟩ (.int .i64 0))))) := fun W hW => by
        obtain ⟨hN, hall⟩ := unhide HN
        have hcl : W.heap[w.heap.size]? = some (.cells (twR l (zrs 3) (zrs 3)) 131 (0, 0)) := kept_b (unhide HR).1 (lt_of_blk (unhide HR).1) hW
        have hb := bw_tr (unhide HR).2 hW
        have hA := fun j (hj : j < 3) => twR_at (i := N) (j := j) (a := zrs 3) (z := 0) hall rfl rfl hcl (by rw [hN]; simp) (zrs_at hj)
        have h1 := setAdds1 (w := w) hall rfl hcl N
        rw [← hN] at h1
        exact ⟨⟨hA 0 (by omega), hA 1 (by omega), hA 2 (by omega)⟩, fun j => froz_b hcl, h1, belAdds hb _ _ _ _⟩
      clear HR
      generalize mk1 N = m0 at *
      go_wp2_with fail
      refine (unhide K).mono ?_
      rintro e w2 ⟨rfl, b2⟩
      obtain ⟨⟨c0, c1, c2⟩, fz, HR2⟩ := unhide HS w2 b2
      clear K HS b2
      go_wp2_with fail
      go_roundw
      case rel => exact ⟨1, by omega, by go_num, HR2⟩
      case measure => simp only [intOf]; omega
    | 1, _ =>
      have K : Hid (Calls Tryz.prog 202 #[.int .i64 ((N : Int) + 1)] wr fun e w' => e = .returned (.agg #[.int .i64 (mk1 (N + 1)), .int .i64 0, .int .i64 0]) ∧ Below wr.heap.size wr w') := markAdds_any (N + 1) wr (by omega)
      have HS : Hid (∀ W, Below wr.heap.size wr W → (W.cell? ⟨w.heap.size, (N + 1) * 3, none⟩ = some (.int .i64 0) ∧ W.cell? ⟨w.heap.size, (N + 1) * 3 + 1, none⟩ = some (.int .i64 0) ∧ W.cell? ⟨w.heap.size, (N + 1) * 3 + 2, none⟩ = some (.int .i64 0)) ∧ (∀ j, W.frozen? ⟨w.heap.size, j, none⟩ = false) ∧ Hid (((((W.setCell ⟨w.heap.size, (N + 1) * 3, none⟩ (.int .i64 (mk1 (N + 1)))).setCell ⟨w.heap.size, (N + 1) * 3 + 1, none⟩ (.int .i64 0)).setCell ⟨w.heap.size, (N + 1) * 3 + 2, none⟩ (.int .i64 0))).heap[w.heap.size]? = some (.cells (twR l (if 1 ≤ 2 then mkR 3 N else zrs 3) (if 2 ≤ 2 then mkR 3 (N + 1) else zrs 3)) 131 (0, 0)) ∧ Below w.heap.size w ((((W.setCell ⟨w.heap.size, (N + 1) * 3, none⟩ (.int .i64 (mk1 (N + 1)))).setCell ⟨w.heap.size, (N + 1) * 3 + 1, none⟩ (.int .i64 0)).setCell ⟨w.heap.size, (N + 1) * 3 + 2, none⟩ (.int .i64 0))))) := fun W hW => by
        obtain ⟨hN, hall⟩ := unhide HN
        have hcl : W.heap[w.heap.size]? = some (.cells (twR l (mkR 3 N) (zrs 3)) 131 (0, 0)) := kept_b (unhide HR).1 (lt_of_blk (unhide HR).1) hW
        have hb := bw_tr (unhide HR).2 hW
        have hA := fun j (hj : j < 3) => twR_at (i := N + 1) (j := j) (a := zrs 3) (z := 0) hall (mkR_len (by omega) N) rfl hcl (by rw [hN]; simp) (zrs_at hj)
        have h1 := setAdds2 (w := w) hall (mkR_len (by omega) N) rfl hcl (N + 1)
        rw [← hN] at h1
        exact ⟨⟨hA 0 (by omega), hA 1 (by omega), hA 2 (by omega)⟩, fun j => froz_b hcl, h1, belAdds hb _ _ _ _⟩
      clear HR
      generalize mk1 (N + 1) = m1 at *
      go_wp2_with fail
      refine (unhide K).mono ?_
      rintro e w2 ⟨rfl, b2⟩
      obtain ⟨⟨c0, c1, c2⟩, fz, HR2⟩ := unhide HS w2 b2
      clear K HS b2
      go_wp2_with fail
      go_roundw
      case rel => exact ⟨2, by omega, by go_num, HR2⟩
      case measure => simp only [intOf]; omega
    | 2, _ =>
      go_wp2_with fail
      go_ret
      refine ⟨rfl, ?_, (unhide HR).2⟩
      have := (unhide HR).1
      unfold TwR
      rw [← (unhide HN).1]
      exact this
    | k + 3, h => exact absurd h (by omega)
set_option maxRecDepth 100000 in
set_option maxHeartbeats 4000000 in
theorem leftAdds_any (w : World) (g : Nat) (v : Value) (l : List (List Int)) (ht : TwR 3 131 w g l) (hv : RI 3 w v l) (hl : l.length ≤ 262144) :
    Calls Tryz.prog 172 #[.slice (some ⟨g, 0, none⟩) l.length (l.length + 2), v] w fun e w' => e = .returned (.bool true) ∧ Below w.heap.size w w' := by
  have hn := ht.ri (by omega) hl hv.fit
  have hall : ∀ x ∈ l, x.length = 3 := fun x hx => (hv.fit x hx).1
  have HKS : Hid (∀ W, Below w.heap.size w W → Calls Tryz.prog 46 #[.slice (some ⟨g, 0, none⟩) l.length (l.length + 2), v] W fun e w' => e = .returned (.bool true) ∧ Below W.heap.size W w') := fun W hW => sameAdds_any _ _ l W (hn.bw hW) (hv.bw hW)
  obtain ⟨_, _, a, cap, rfl, _⟩ := hv
  obtain ⟨N, hN⟩ : ∃ N, N = l.length := ⟨_, rfl⟩
  have hsl : ∀ W, (Instr.slice 26 (.slice (some ⟨g, 0, none⟩) N (N + 2)) none (some (.int .i64 ((N : Int) + 2))) none).run Tryz.prog W = .ok (.slice (some ⟨g, 0, none⟩) (N + 2) (N + 2)) W := fun W => by
    have := slice_roomAdds W g N (N + 2) (N + 2) (Nat.le_refl _)
    exact this
  have HC : Hid (∀ W, Below w.heap.size w W → (W.cell? ⟨g, N * 3, none⟩ = some (.int .i64 (mk1 N)) ∧ W.cell? ⟨g, N * 3 + 1, none⟩ = some (.int .i64 0) ∧ W.cell? ⟨g, N * 3 + 2, none⟩ = some (.int .i64 0)) ∧ (W.cell? ⟨g, (N + 1) * 3, none⟩ = some (.int .i64 (mk1 (N + 1))) ∧ W.cell? ⟨g, (N + 1) * 3 + 1, none⟩ = some (.int .i64 0) ∧ W.cell? ⟨g, (N + 1) * 3 + 2, none⟩ = some (.int .i64 0))) := fun W hW => by
    have hcl := kept_b ht (lt_of_blk ht) hW
    rw [hN]
    exact ⟨⟨twR_at (i := l.length) (j := 0) (a := mkR 3 l.length) hall (mkR_len (by omega) _) (mkR_len (by omega) _) hcl (by simp) rfl, twR_at (i := l.length) (j := 1) (a := mkR 3 l.length) hall (mkR_len (by omega) _) (mkR_len (by omega) _) hcl (by simp) rfl, twR_at (i := l.length) (j := 2) (a := mkR 3 l.length) hall (mkR_len (by omega) _) (mkR_len (by omega) _) hcl (by simp) rfl⟩, ⟨twR_at (i := l.length + 1) (j := 0) (a := mkR 3 (l.length + 1)) hall (mkR_len (by omega) _) (mkR_len (by omega) _) hcl (by simp) rfl, twR_at (i := l.length + 1) (j := 1) (a := mkR 3 (l.length + 1)) hall (mkR_len (by omega) _) (mkR_len (by omega) _) hcl (by simp) rfl, twR_at (i := l.length + 1) (j := 2) (a := mkR 3 (l.length + 1)) hall (mkR_len (by omega) _) (mkR_len (by omega) _) hcl (by simp) rfl⟩⟩
  rw [← hN] at HKS ⊢
  have hNb : (N : Int) ≤ 262144 := by omega
  have K0 : Hid (∀ W, Calls Tryz.prog 234 #[.agg #[.int .i64 (mk1 N), .int .i64 0, .int .i64 0], .int .i64 (N : Int)] W fun e w' => e = .returned (.bool true) ∧ Below W.heap.size W w') := fun W => isAdds_any N W (by omega)
  have K1 : Hid (∀ W, Calls Tryz.prog 234 #[.agg #[.int .i64 (mk1 (N + 1)), .int .i64 0, .int .i64 0], .int .i64 ((N : Int) + 1)] W fun e w' => e = .returned (.bool true) ∧ Below W.heap.size W w') := fun W => isAdds_any (N + 1) W (by omega)
  clear hn ht hN hl hall
  generalize mk1 N = m0 at *
  generalize mk1 (N + 1) = m1 at *
  go_enter Tryz.func172, Tryz.ntmps172
  go_wp2_with fail
  go_loopw [6] (fun iv wr => ∃ k : Nat, k ≤ 2 ∧ iv = .int .i64 ((N : Int) + (k : Int)) ∧ Hid (Below w.heap.size w wr)) (fun iv _ => (N + 2 - intOf iv).toNat)
  case atStart => exact ⟨0, by omega, by go_num, Below.refl _ _⟩
  case round =>
    obtain ⟨k, hk, rfl, hwr⟩ := hrel
    obtain ⟨⟨c0, c1, c2⟩, ⟨d0, d1, d2⟩⟩ := unhide HC wr (unhide hwr)
    match k, hk with
    | 0, _ =>
      clear d0 d1 d2
      go_wp2_with fail
      refine (unhide K0 _).mono ?_
      rintro e w2 ⟨rfl, b2⟩
      have B2 : Hid (Below w.heap.size w w2) := bw_tr (unhide hwr) b2
      clear b2 c0 c1 c2
      go_wp2_with fail
      go_roundw
      case rel => exact ⟨1, by omega, by go_num, B2⟩
      case measure => simp only [intOf]; omega
    | 1, _ =>
      clear c0 c1 c2
      go_wp2_with fail
      refine (unhide K1 _).mono ?_
      rintro e w2 ⟨rfl, b2⟩
      have B2 : Hid (Below w.heap.size w w2) := bw_tr (unhide hwr) b2
      clear b2 d0 d1 d2
      go_wp2_with fail
      go_roundw
      case rel => exact ⟨2, by omega, by go_num, B2⟩
      case measure => simp only [intOf]; omega
    | 2, _ =>
      clear c0 d0 c1 d1 c2 d2
      have KS := hide (unhide HKS _ (unhide hwr))
      go_wp2_with fail
      refine (unhide KS).mono ?_
      rintro e w2 ⟨rfl, hb2⟩
      have B2 : Hid (Below w.heap.size w w2) := bw_tr (unhide hwr) hb2
      clear hb2
      go_wp2_with fail
      go_ret
      exact ⟨rfl, unhide B2⟩
    | k + 3, h => exact absurd h (by omega)
end Go.Proofs.YtnfhbmlmemifjaaGreatDoor

/- markJoin, isJoin, TwinJoins, LeftJoins. -/
namespace Go.Proofs.YtnfhbmlmemifjaaGreatDoor
open Go.RowKit Go.Maps
theorem Tryz.infoJoins : (Tryz.prog.info? 135).map (fun i => (i.zero, i.size, i.bytes)) = some (some (.agg #[.int .i64 0, .int .i64 0]), 2, 16) := by kernel_rfl
theorem Tryz.sizeJoins : (Tryz.prog.info? 135).map (·.size) = some 2 := by kernel_rfl
theorem slice_roomJoins (w : World) (g n cap i : Nat) (hi : i ≤ cap) : (Instr.slice 29 (.slice (some ⟨g, 0, none⟩) n cap) none (some (.int .i64 (i : Int))) none).run Tryz.prog w = .ok (.slice (some ⟨g, 0, none⟩) i cap) w := by
  have ht : Tryz.prog.underlying 29 = some (.slice (Tryz.prog.elem 29)) := by kernel_rfl
  have he : Tryz.prog.elem 29 = 135 := by kernel_rfl
  have hs : (Go.sizeOf 135).run Tryz.prog w = .ok 2 w := by kernel_rfl
  rw [run_slice_h (P := Tryz.prog) w 29 (some ⟨g, 0, none⟩) n cap ht .i64 i (by omega) (by omega), he, hs]
  simp [Result.andThen, sliced, Addr.add]
set_option maxRecDepth 100000 in
theorem markJoins_any (n : Nat) (w : World) (h : n ≤ 1200000) :
    Calls Tryz.prog 203 #[.int .i64 (n : Int)] w fun e w' => e = .returned (.agg #[.int .i64 (mk1 n), .int .i64 0]) ∧ Below w.heap.size w w' := by
  have hb : (n : Int) ≤ 1200000 := by omega
  clear h
  unfold mk1
  go_enter Tryz.func203, Tryz.ntmps203
  go_wp2
  exact bodyPost_ret (v := .agg #[.int .i64 (-1000 - (n : Int)), .int .i64 0]) (by simp [results, Tryz.results203, go_sem]) rfl ⟨rfl, bwA _ _⟩
set_option maxRecDepth 100000 in
set_option maxHeartbeats 2000000 in
theorem isJoins_any (n : Nat) (w : World) (h : n ≤ 1200000) :
    Calls Tryz.prog 235 #[.agg #[.int .i64 (mk1 n), .int .i64 0], .int .i64 (n : Int)] w fun e w' => e = .returned (.bool true) ∧ Below w.heap.size w w' := by
  have HK : Hid (∀ W, Calls Tryz.prog 203 #[.int .i64 (n : Int)] W fun e w' => e = .returned (.agg #[.int .i64 (mk1 n), .int .i64 0]) ∧ Below W.heap.size W w') := fun W => markJoins_any n W h
  have hb1 : -9223372036854775808 ≤ mk1 n ∧ mk1 n ≤ 9223372036854775807 := by unfold mk1; omega
  have he := fun W => equal_Joins W (mk1 n) 0 hb1 (by omega)
  obtain ⟨w0, hw0⟩ : ∃ w0, w0 = w.alloc (.cells #[.int .i64 (mk1 n), .int .i64 0] 135) := ⟨_, rfl⟩
  have b0 : Below w.heap.size w w0 := by rw [hw0]; exact bwA _ _
  have k0 : w0.heap[w.heap.size]? = some (.cells #[.int .i64 (mk1 n), .int .i64 0] 135 (0, 0)) := by rw [hw0]; exact heap_alloc_new _ _
  have HS : Hid (∀ W, Below w0.heap.size w0 W → (W.cell? ⟨w.heap.size, 0, none⟩ = some (.int .i64 (mk1 n)) ∧ W.cell? ⟨w.heap.size, 1, none⟩ = some (.int .i64 0)) ∧ Below w.heap.size w W) := fun W hW => ⟨⟨blk_c (kept_b k0 (lt_of_blk k0) hW) rfl, blk_c (kept_b k0 (lt_of_blk k0) hW) rfl⟩, bw_tr b0 hW⟩
  have S0 := (unhide HS w0 (Below.refl _ _)).1
  have S00 : (w0.drew.cell? ⟨w.heap.size, 0, none⟩ = some (.int .i64 (mk1 n)) ∧ w0.drew.cell? ⟨w.heap.size, 1, none⟩ = some (.int .i64 0)) := S0
  have BD : Hid (Below w0.heap.size w0 w0.drew) := (Below.refl _ _).drew
  have HW := hide hw0
  clear h hw0 b0 k0 hb1
  generalize mk1 n = m at *
  go_enter Tryz.func235, Tryz.ntmps235
  go_upto_region 1 with fail
  rw [← unhide HW]
  clear HW
  go_region_held3 (fun w' : World => (w'.cell? ⟨w.heap.size, 0, none⟩ = some (.int .i64 m) ∧ w'.cell? ⟨w.heap.size, 1, none⟩ = some (.int .i64 0))) (first | with_reducible exact S0 | with_reducible exact S00 | with_reducible exact S1) (first
    | (go_at_call 203; refine (unhide HK _).mono ?_; rintro e z1 ⟨rfl, b1⟩; obtain ⟨S1, B1⟩ := unhide HS z1 (bw_tr (unhide BD) b1))
    | fail)
  all_goals
    go_wp2_with fail
    go_ret
    exact ⟨rfl, B1⟩
theorem copyJoins (w : World) (v : Value) (l : List (List Int)) (hv : RI 2 w v l) : ∃ wc, (∀ ty, (Builtin.copy_ #[29, 29] ty #[.slice (some ⟨w.heap.size, 0, none⟩) l.length (l.length + 2), v]).run Tryz.prog (w.alloc (.cells (madeCells (Value.agg #[.int .i64 0, .int .i64 0]).cells ((l.length + 2) * 2)) 135)) = .ok (goInt l.length) wc) ∧
    wc.heap[w.heap.size]? = some (.cells (twR l (zrs 2) (zrs 2)) 135 (0, 0)) ∧ Below w.heap.size w wc := by
  obtain ⟨_, hfit, a, cap, rfl, hc⟩ := hv
  have hall : ∀ x ∈ l, x.length = 2 := fun x hx => (hfit x hx).1
  obtain ⟨cur, hcur⟩ : ∃ cur, cur = madeCells (Value.agg #[.int .i64 0, .int .i64 0]).cells ((l.length + 2) * 2) := ⟨_, rfl⟩
  have hcs : cur.toList = rwC (List.replicate (l.length + 2) (zrs 2)) := by rw [hcur]; exact made_rows 2 (l.length + 2) (by omega)
  have hrl : ∀ q ∈ List.replicate (l.length + 2) (zrs 2), q.length = 2 := fun q hq => by have := List.eq_of_mem_replicate hq; subst this; rfl
  have hcz : cur.toList.length = (l.length + 2) * 2 := by rw [hcs, rwC_len hrl]; simp
  rw [← hcur]
  have hG := heap_alloc_new w (.cells cur 135)
  have hb := bwA w (.cells cur 135)
  have hlen := rwC_len hall
  have hdrop : cur.toList.drop (l.length * 2) = icC (zrs 2) ++ icC (zrs 2) := by
    rw [hcs]
    have e : List.replicate (l.length + 2) (zrs 2) = List.replicate l.length (zrs 2) ++ [zrs 2, zrs 2] := by
      rw [← List.replicate_append_replicate]; rfl
    rw [e]
    unfold rwC
    rw [List.flatMap_append]
    have h2 : (List.flatMap icC (List.replicate l.length (zrs 2))).length = l.length * 2 := by
      have := rwC_len (c := 2) (l := List.replicate l.length (zrs 2)) (fun q hq => by have := List.eq_of_mem_replicate hq; subst this; rfl)
      simpa [rwC] using this
    rw [List.drop_left' h2]
    rfl
  rcases hc with hc | ⟨g, o, rfl, hc⟩
  · subst hc
    refine ⟨w.alloc (.cells cur 135), fun ty => copy_none _ _ _ _ 135 _ _ _ _ 2 Tryz.underlying29 Tryz.sizeJoins, ?_, hb⟩
    rw [hG]
    have : cur = twR [] (zrs 2) (zrs 2) := by apply Array.toList_inj.1; simpa [twR, rwC] using hdrop
    rw [this]
  · have hr := fun ty => run_copy_rows (P := Tryz.prog) (w.alloc (.cells cur 135)) 29 29 ty 135 w.heap.size l.length (l.length + 2) ⟨g, o, none⟩ l.length cap 2 cur 135 (rwC l) Tryz.underlying29 Tryz.sizeJoins hG (by rw [hlen]; simp) (fun j u hj => by
        have hjl : j < l.length * 2 := by rw [← hlen]; exact (List.getElem?_eq_some_iff.1 hj).1
        obtain ⟨q, r, hr, rfl⟩ : ∃ q r, r < 2 ∧ j = q * 2 + r := ⟨j / 2, j % 2, by omega, by omega⟩
        obtain ⟨x, hx⟩ : ∃ x, l[q]? = some x := ⟨_, List.getElem?_eq_getElem (by omega)⟩
        obtain ⟨z, hz⟩ : ∃ z, x[r]? = some z := ⟨_, List.getElem?_eq_getElem (by rw [hall x (List.mem_of_getElem? hx)]; exact hr)⟩
        have h1 := rwC_get hall hx hz
        rw [h1] at hj
        cases hj
        have h2 := hc q x hx r z hz
        have e : ∀ k, (⟨g, o, none⟩ : Addr).add k = ⟨g, o + k, none⟩ := fun k => by cases k <;> simp [Addr.add]
        rw [e, ← Nat.add_assoc, hb.cell (World.block_lt_of_cell? w _ h2)]
        exact h2) (by rw [hlen]; have := hcz; simp at this; omega) (fun u hu => by
        obtain ⟨z, _, hz⟩ := List.mem_flatMap.1 hu
        obtain ⟨y, _, rfl⟩ := List.mem_map.1 hz
        rfl)
    refine ⟨(w.alloc (.cells cur 135)).setRow w.heap.size (rwC l ++ cur.toList.drop (rwC l).length).toArray, fun ty => by rw [hr ty]; simp, ?_, ?_⟩
    · rw [setRow_heap _ _ cur _ 135 _ hG, hlen, hdrop]
      rfl
    · refine ⟨hb.os, hb.tape, hb.output, ?_, fun k hk => ?_⟩
      · simp
      · rw [setRow_other _ _ _ _ (by omega)]; exact hb.block k hk
theorem setJoins1 {w : World} {l : List (List Int)} {x y : List Int} {W : World} (hall : ∀ q ∈ l, q.length = 2) (hx : x = zrs 2) (h : W.heap[w.heap.size]? = some (.cells (twR l x y) 135 (0, 0))) (n : Nat) : (((W.setCell ⟨w.heap.size, l.length * 2, none⟩ (.int .i64 (mk1 n))).setCell ⟨w.heap.size, l.length * 2 + 1, none⟩ (.int .i64 0))).heap[w.heap.size]? = some (.cells (twR l (mkR 2 n) y) 135 (0, 0)) := by
  subst hx
  rw [poke_b (poke_b h _) _]
  congr 2
  apply Array.toList_inj.1
  have hl := rwC_len hall
  simp [twR, List.set_append_right, hl, icC, zrs, mkR, mk1, List.replicate]
theorem setJoins2 {w : World} {l : List (List Int)} {x y : List Int} {W : World} (hall : ∀ q ∈ l, q.length = 2) (hx : x.length = 2) (hy : y = zrs 2) (h : W.heap[w.heap.size]? = some (.cells (twR l x y) 135 (0, 0))) (n : Nat) : (((W.setCell ⟨w.heap.size, (l.length + 1) * 2, none⟩ (.int .i64 (mk1 n))).setCell ⟨w.heap.size, (l.length + 1) * 2 + 1, none⟩ (.int .i64 0))).heap[w.heap.size]? = some (.cells (twR l x (mkR 2 n)) 135 (0, 0)) := by
  subst hy
  rw [poke_b (poke_b h _) _]
  congr 2
  apply Array.toList_inj.1
  have hl := rwC_len hall
  have hix : (icC x).length = 2 := by simp [icC, hx]
  have hw : (rwC l ++ icC x).length = (l.length + 1) * 2 := by rw [List.length_append, hl, hix]; omega
  simp only [twR, Array.toList_setIfInBounds]
  rw [← List.append_assoc]
  rw [List.set_append_right _ _ (by omega), List.set_append_right _ _ (by omega), hw]
  simp only [Nat.sub_self, Nat.add_sub_cancel_left]
  rw [List.append_assoc]
  rfl
theorem belJoins {w W : World} (h : Below w.heap.size w W) (i : Nat) (v0 v1 : Value) : Below w.heap.size w (((W.setCell ⟨w.heap.size, i, none⟩ v0).setCell ⟨w.heap.size, i + 1, none⟩ v1)) := by
  refine ⟨h.os, h.tape, h.output, ?_, fun k hk => ?_⟩
  · have := h.size; simp [World.setCell]; exact this
  · rw [other_c (by omega), other_c (by omega)]
    exact h.block k hk
set_option maxRecDepth 100000 in
set_option maxHeartbeats 4000000 in
theorem twinJoins_any (w : World) (v : Value) (l : List (List Int)) (hv : RI 2 w v l) (hl : l.length ≤ 262144) :
    Calls Tryz.prog 164 #[v] w fun e w' => e = .returned (.slice (some ⟨w.heap.size, 0, none⟩) l.length (l.length + 2)) ∧ TwR 2 135 w' w.heap.size l ∧ Below w.heap.size w w' := by
  obtain ⟨wc, hcp, hcell, hbel⟩ := copyJoins w v l hv
  have hall : ∀ x ∈ l, x.length = 2 := fun x hx => (hv.fit x hx).1
  obtain ⟨_, _, a, cap, rfl, _⟩ := hv
  obtain ⟨i0, hi, hz0, hz1, hz2⟩ := info_parts Tryz.infoJoins
  have hmk := run_makeSlice (P := Tryz.prog) w 29 135 i0 (.agg #[.int .i64 0, .int .i64 0]) Tryz.underlying29 hi hz0 .i64 .i64 (l.length : Int) ((l.length : Int) + 2) (by omega) (by omega) (by rw [hz1]; omega) (by rw [hz2]; omega) (by omega)
  rw [hz1] at hmk
  have e2 : ((l.length : Int) + 2).toNat = l.length + 2 := by omega
  rw [e2, Int.toNat_natCast] at hmk
  obtain ⟨N, hN⟩ : ∃ N, N = l.length := ⟨_, rfl⟩
  have hsl : ∀ W, (Instr.slice 29 (.slice (some ⟨w.heap.size, 0, none⟩) N (N + 2)) none (some (.int .i64 ((N : Int) + 2))) none).run Tryz.prog W = .ok (.slice (some ⟨w.heap.size, 0, none⟩) (N + 2) (N + 2)) W := fun W => by
    have := slice_roomJoins W w.heap.size N (N + 2) (N + 2) (Nat.le_refl _)
    exact this
  rw [← hN] at hmk hcp ⊢
  have hNb : (N : Int) ≤ 262144 := by omega
  have HC : Hid (wc.heap[w.heap.size]? = some (.cells (twR l (zrs 2) (zrs 2)) 135 (0, 0)) ∧ Below w.heap.size w wc) := ⟨hcell, hbel⟩
  have HN := hide (And.intro hN hall)
  generalize madeCells (Value.agg #[.int .i64 0, .int .i64 0]).cells ((N + 2) * 2) = mc at hmk hcp
  clear e2 hcell hbel hi hz0 hz1 hz2 hl hN hall
  go_enter Tryz.func164, Tryz.ntmps164
  go_wp2_with fail
  go_loopw [5] (fun iv wr => ∃ k : Nat, k ≤ 2 ∧ iv = .int .i64 ((N : Int) + (k : Int)) ∧ Hid (wr.heap[w.heap.size]? = some (.cells (twR l (if 1 ≤ k then mkR 2 N else zrs 2) (if 2 ≤ k then mkR 2 (N + 1) else zrs 2)) 135 (0, 0)) ∧ Below w.heap.size w wr)) (fun iv _ => (N + 2 - intOf iv).toNat)
  case atStart => exact ⟨0, by omega, by go_num, HC⟩
  case round =>
    clear HC
    obtain ⟨k, hk, rfl, HR⟩ := hrel
    match k, hk with
    | 0, _ =>
      have K := hide (markJoins_any N wr (by omega))
      have HS : Hid (∀ W, Below wr.heap.size wr W → (W.cell? ⟨w.heap.size, N * 2, none⟩ = some (.int .i64 0) ∧ W.cell? ⟨w.heap.size, N * 2 + 1, none⟩ = some (.int .i64 0)) ∧ (∀ j, W.frozen? ⟨w.heap.size, j, none⟩ = false) ∧ Hid ((((W.setCell ⟨w.heap.size, N * 2, none⟩ (.int .i64 (mk1 N))).setCell ⟨w.heap.size, N * 2 + 1, none⟩ (.int .i64 0))).heap[w.heap.size]? = some (.cells (twR l (if 1 ≤ 1 then mkR 2 N else zrs 2) (if 2 ≤ 1 then mkR 2 (N + 1) else zrs 2)) 135 (0, 0)) ∧ Below w.heap.size w (((W.setCell ⟨w.heap.size, N * 2, none⟩ (.int .i64 (mk1 N))).setCell ⟨w.heap.size, N * 2 + 1, none⟩ (.int .i64 0))))) := fun W hW => by
        obtain ⟨hN, hall⟩ := unhide HN
        have hcl : W.heap[w.heap.size]? = some (.cells (twR l (zrs 2) (zrs 2)) 135 (0, 0)) := kept_b (unhide HR).1 (lt_of_blk (unhide HR).1) hW
        have hb := bw_tr (unhide HR).2 hW
        have hA := fun j (hj : j < 2) => twR_at (i := N) (j := j) (a := zrs 2) (z := 0) hall rfl rfl hcl (by rw [hN]; simp) (zrs_at hj)
        have h1 := setJoins1 (w := w) hall rfl hcl N
        rw [← hN] at h1
        exact ⟨⟨hA 0 (by omega), hA 1 (by omega)⟩, fun j => froz_b hcl, h1, belJoins hb _ _ _⟩
      clear HR
      generalize mk1 N = m0 at *
      go_wp2_with fail
      refine (unhide K).mono ?_
      rintro e w2 ⟨rfl, b2⟩
      obtain ⟨⟨c0, c1⟩, fz, HR2⟩ := unhide HS w2 b2
      clear K HS b2
      go_wp2_with fail
      go_roundw
      case rel => exact ⟨1, by omega, by go_num, HR2⟩
      case measure => simp only [intOf]; omega
    | 1, _ =>
      have K : Hid (Calls Tryz.prog 203 #[.int .i64 ((N : Int) + 1)] wr fun e w' => e = .returned (.agg #[.int .i64 (mk1 (N + 1)), .int .i64 0]) ∧ Below wr.heap.size wr w') := markJoins_any (N + 1) wr (by omega)
      have HS : Hid (∀ W, Below wr.heap.size wr W → (W.cell? ⟨w.heap.size, (N + 1) * 2, none⟩ = some (.int .i64 0) ∧ W.cell? ⟨w.heap.size, (N + 1) * 2 + 1, none⟩ = some (.int .i64 0)) ∧ (∀ j, W.frozen? ⟨w.heap.size, j, none⟩ = false) ∧ Hid ((((W.setCell ⟨w.heap.size, (N + 1) * 2, none⟩ (.int .i64 (mk1 (N + 1)))).setCell ⟨w.heap.size, (N + 1) * 2 + 1, none⟩ (.int .i64 0))).heap[w.heap.size]? = some (.cells (twR l (if 1 ≤ 2 then mkR 2 N else zrs 2) (if 2 ≤ 2 then mkR 2 (N + 1) else zrs 2)) 135 (0, 0)) ∧ Below w.heap.size w (((W.setCell ⟨w.heap.size, (N + 1) * 2, none⟩ (.int .i64 (mk1 (N + 1)))).setCell ⟨w.heap.size, (N + 1) * 2 + 1, none⟩ (.int .i64 0))))) := fun W hW => by
        obtain ⟨hN, hall⟩ := unhide HN
        have hcl : W.heap[w.heap.size]? = some (.cells (twR l (mkR 2 N) (zrs 2)) 135 (0, 0)) := kept_b (unhide HR).1 (lt_of_blk (unhide HR).1) hW
        have hb := bw_tr (unhide HR).2 hW
        have hA := fun j (hj : j < 2) => twR_at (i := N + 1) (j := j) (a := zrs 2) (z := 0) hall (mkR_len (by omega) N) rfl hcl (by rw [hN]; simp) (zrs_at hj)
        have h1 := setJoins2 (w := w) hall (mkR_len (by omega) N) rfl hcl (N + 1)
        rw [← hN] at h1
        exact ⟨⟨hA 0 (by omega), hA 1 (by omega)⟩, fun j => froz_b hcl, h1, belJoins hb _ _ _⟩
      clear HR
      generalize mk1 (N + 1) = m1 at *
      go_wp2_with fail
      refine (unhide K).mono ?_
      rintro e w2 ⟨rfl, b2⟩
      obtain ⟨⟨c0, c1⟩, fz, HR2⟩ := unhide HS w2 b2
      clear K HS b2
      go_wp2_with fail
      go_roundw
      case rel => exact ⟨2, by omega, by go_num, HR2⟩
      case measure => simp only [intOf]; omega
    | 2, _ =>
      go_wp2_with fail
      go_ret
      refine ⟨rfl, ?_, (unhide HR).2⟩
      have := (unhide HR).1
      unfold TwR
      rw [← (unhide HN).1]
      exact this
    | k + 3, h => exact absurd h (by omega)
set_option maxRecDepth 100000 in
set_option maxHeartbeats 4000000 in
theorem leftJoins_any (w : World) (g : Nat) (v : Value) (l : List (List Int)) (ht : TwR 2 135 w g l) (hv : RI 2 w v l) (hl : l.length ≤ 262144) :
    Calls Tryz.prog 175 #[.slice (some ⟨g, 0, none⟩) l.length (l.length + 2), v] w fun e w' => e = .returned (.bool true) ∧ Below w.heap.size w w' := by
  have hn := ht.ri (by omega) hl hv.fit
  have hall : ∀ x ∈ l, x.length = 2 := fun x hx => (hv.fit x hx).1
  have HKS : Hid (∀ W, Below w.heap.size w W → Calls Tryz.prog 48 #[.slice (some ⟨g, 0, none⟩) l.length (l.length + 2), v] W fun e w' => e = .returned (.bool true) ∧ Below W.heap.size W w') := fun W hW => sameJoins_any _ _ l W (hn.bw hW) (hv.bw hW)
  obtain ⟨_, _, a, cap, rfl, _⟩ := hv
  obtain ⟨N, hN⟩ : ∃ N, N = l.length := ⟨_, rfl⟩
  have hsl : ∀ W, (Instr.slice 29 (.slice (some ⟨g, 0, none⟩) N (N + 2)) none (some (.int .i64 ((N : Int) + 2))) none).run Tryz.prog W = .ok (.slice (some ⟨g, 0, none⟩) (N + 2) (N + 2)) W := fun W => by
    have := slice_roomJoins W g N (N + 2) (N + 2) (Nat.le_refl _)
    exact this
  have HC : Hid (∀ W, Below w.heap.size w W → (W.cell? ⟨g, N * 2, none⟩ = some (.int .i64 (mk1 N)) ∧ W.cell? ⟨g, N * 2 + 1, none⟩ = some (.int .i64 0)) ∧ (W.cell? ⟨g, (N + 1) * 2, none⟩ = some (.int .i64 (mk1 (N + 1))) ∧ W.cell? ⟨g, (N + 1) * 2 + 1, none⟩ = some (.int .i64 0))) := fun W hW => by
    have hcl := kept_b ht (lt_of_blk ht) hW
    rw [hN]
    exact ⟨⟨twR_at (i := l.length) (j := 0) (a := mkR 2 l.length) hall (mkR_len (by omega) _) (mkR_len (by omega) _) hcl (by simp) rfl, twR_at (i := l.length) (j := 1) (a := mkR 2 l.length) hall (mkR_len (by omega) _) (mkR_len (by omega) _) hcl (by simp) rfl⟩, ⟨twR_at (i := l.length + 1) (j := 0) (a := mkR 2 (l.length + 1)) hall (mkR_len (by omega) _) (mkR_len (by omega) _) hcl (by simp) rfl, twR_at (i := l.length + 1) (j := 1) (a := mkR 2 (l.length + 1)) hall (mkR_len (by omega) _) (mkR_len (by omega) _) hcl (by simp) rfl⟩⟩
  rw [← hN] at HKS ⊢
  have hNb : (N : Int) ≤ 262144 := by omega
  have K0 : Hid (∀ W, Calls Tryz.prog 235 #[.agg #[.int .i64 (mk1 N), .int .i64 0], .int .i64 (N : Int)] W fun e w' => e = .returned (.bool true) ∧ Below W.heap.size W w') := fun W => isJoins_any N W (by omega)
  have K1 : Hid (∀ W, Calls Tryz.prog 235 #[.agg #[.int .i64 (mk1 (N + 1)), .int .i64 0], .int .i64 ((N : Int) + 1)] W fun e w' => e = .returned (.bool true) ∧ Below W.heap.size W w') := fun W => isJoins_any (N + 1) W (by omega)
  clear hn ht hN hl hall
  generalize mk1 N = m0 at *
  generalize mk1 (N + 1) = m1 at *
  go_enter Tryz.func175, Tryz.ntmps175
  go_wp2_with fail
  go_loopw [6] (fun iv wr => ∃ k : Nat, k ≤ 2 ∧ iv = .int .i64 ((N : Int) + (k : Int)) ∧ Hid (Below w.heap.size w wr)) (fun iv _ => (N + 2 - intOf iv).toNat)
  case atStart => exact ⟨0, by omega, by go_num, Below.refl _ _⟩
  case round =>
    obtain ⟨k, hk, rfl, hwr⟩ := hrel
    obtain ⟨⟨c0, c1⟩, ⟨d0, d1⟩⟩ := unhide HC wr (unhide hwr)
    match k, hk with
    | 0, _ =>
      clear d0 d1
      go_wp2_with fail
      refine (unhide K0 _).mono ?_
      rintro e w2 ⟨rfl, b2⟩
      have B2 : Hid (Below w.heap.size w w2) := bw_tr (unhide hwr) b2
      clear b2 c0 c1
      go_wp2_with fail
      go_roundw
      case rel => exact ⟨1, by omega, by go_num, B2⟩
      case measure => simp only [intOf]; omega
    | 1, _ =>
      clear c0 c1
      go_wp2_with fail
      refine (unhide K1 _).mono ?_
      rintro e w2 ⟨rfl, b2⟩
      have B2 : Hid (Below w.heap.size w w2) := bw_tr (unhide hwr) b2
      clear b2 d0 d1
      go_wp2_with fail
      go_roundw
      case rel => exact ⟨2, by omega, by go_num, B2⟩
      case measure => simp only [intOf]; omega
    | 2, _ =>
      clear c0 d0 c1 d1
      have KS := hide (unhide HKS _ (unhide hwr))
      go_wp2_with fail
      refine (unhide KS).mono ?_
      rintro e w2 ⟨rfl, hb2⟩
      have B2 : Hid (Below w.heap.size w w2) := bw_tr (unhide hwr) hb2
      clear hb2
      go_wp2_with fail
      go_ret
      exact ⟨rfl, unhide B2⟩
    | k + 3, h => exact absurd h (by omega)
end Go.Proofs.YtnfhbmlmemifjaaGreatDoor
