/- TwinAdds, LeftAdds. -/
import Derived.Test.YtokdflbajnecpaaAcW
namespace Go.Proofs.Ytokdflbajnecpaa.Tn.Ax
open Go.RowKit Go.Maps

/-- A copy with its marks behind it. -/
def TwA (w : World) (g : Nat) (l : List Ad) : Prop := w.heap[g]? = some (.cells (twA l (mkA l.length) (mkA (l.length + 1))) 65 (0, 0))
theorem TwA.ads {w : World} {g : Nat} {l : List Ad} (h : TwA w g l) (hl : l.length ≤ 262144) (hz : ∀ z ∈ l, z.ok) : Ads w (.slice (some ⟨g, 0, none⟩) l.length (l.length + 2)) l := by
  refine ⟨_, _, rfl, by omega, hz, Or.inr ⟨g, 0, rfl, fun i z hi => ?_⟩⟩
  have hlt := (List.getElem?_eq_some_iff.1 hi).1
  rw [Nat.zero_add]
  exact twA_at h (by rw [List.getElem?_append_left hlt]; exact hi)
theorem copyA (w : World) (v : Value) (l : List Ad) (hv : Ads w v l) : ∃ wc, (∀ ty, (Builtin.copy_ #[23, 23] ty #[.slice (some ⟨w.heap.size, 0, none⟩) l.length (l.length + 2), v]).run Try.prog (w.alloc (.cells (madeCells (Value.agg #[.int .i64 0, .int .i64 0, .int .i64 0]).cells ((l.length + 2) * 3)) 65)) = .ok (goInt l.length) wc) ∧
    wc.heap[w.heap.size]? = some (.cells (twA l ad0 ad0) 65 (0, 0)) ∧ Below w.heap.size w wc := by
  obtain ⟨a, cap, rfl, _, _, hc⟩ := hv
  obtain ⟨cur, hcur⟩ : ∃ cur, cur = madeCells (Value.agg #[.int .i64 0, .int .i64 0, .int .i64 0]).cells ((l.length + 2) * 3) := ⟨_, rfl⟩
  have hcs : cur.toList = (List.replicate (l.length + 2) ad0).flatMap adC := by rw [hcur]; exact made_adds _
  have hcz : cur.toList.length = (l.length + 2) * 3 := by rw [hcs, adC_len]; simp
  rw [← hcur]
  have hG := heap_alloc_new w (.cells cur 65)
  have hb := bwA' w (.cells cur 65)
  have hlen := adC_len l
  have hdrop : cur.toList.drop (l.length * 3) = adC ad0 ++ adC ad0 := by
    rw [hcs]
    have e : List.replicate (l.length + 2) ad0 = List.replicate l.length ad0 ++ [ad0, ad0] := by
      rw [← List.replicate_append_replicate]; rfl
    rw [e, List.flatMap_append]
    rw [List.drop_left' (by rw [adC_len]; simp)]
    rfl
  rcases hc with hc | ⟨g, o, rfl, hc⟩
  · subst hc
    refine ⟨w.alloc (.cells cur 65), fun ty => ?_, ?_, hb⟩
    · have hsz := Try.sizeAdd
      have hl0 : ∀ (x : Addr), (loadCells x 0).run Try.prog (w.alloc (.cells cur 65)) = .ok #[] (w.alloc (.cells cur 65)) := fun x => by simpa using run_loadCells_list (P := Try.prog) (w.alloc (.cells cur 65)) x [] (by simp)
      have hu := Try.underlying23
      generalize Try.prog = P at *
      cases hq : P.info? 65 with
      | none => simp [hq] at hsz
      | some i => cases a <;> simp [Builtin.copy_, run_underlying hu, Builtin.lenOf, Builtin.firstCells, sizeOf, typeInfo, hq, storeCells, hl0]
    · rw [hG]
      have : cur = twA [] ad0 ad0 := by apply Array.toList_inj.1; simpa [twA] using hdrop
      rw [this]
  · have hr := fun ty => run_copy_rows (P := Try.prog) (w.alloc (.cells cur 65)) 23 23 ty 65 w.heap.size l.length (l.length + 2) ⟨g, o, none⟩ l.length cap 3 cur 65 (l.flatMap adC) Try.underlying23 Try.sizeAdd hG (by rw [hlen]; simp) (fun j u hj => by
        have hjl : j < l.length * 3 := by rw [← hlen]; exact (List.getElem?_eq_some_iff.1 hj).1
        obtain ⟨q, r, hr, rfl⟩ : ∃ q r, r < 3 ∧ j = q * 3 + r := ⟨j / 3, j % 3, by omega, by omega⟩
        obtain ⟨z, hz⟩ : ∃ z, l[q]? = some z := ⟨_, List.getElem?_eq_getElem (by omega)⟩
        have hA := (hc q z hz).keep (w' := w.alloc (.cells cur 65)) (hb.block _ (hc q z hz).lt)
        obtain ⟨h1, h2, h3⟩ := adC_get l q z hz
        have e : ∀ k, (⟨g, o, none⟩ : Addr).add k = ⟨g, o + k, none⟩ := fun k => by cases k <;> simp [Addr.add]
        rw [e]
        match r, hr with
        | 0, _ => rw [Nat.add_zero] at hj; rw [h1] at hj; cases hj; exact hA.1
        | 1, _ => rw [h2] at hj; cases hj; rw [← Nat.add_assoc]; exact hA.2.1
        | 2, _ => rw [h3] at hj; cases hj; rw [← Nat.add_assoc]; exact hA.2.2) (by rw [hlen]; have := hcz; simp at this; omega) (fun u hu => by
        obtain ⟨z, _, hz⟩ := List.mem_flatMap.1 hu
        simp [adC] at hz
        rcases hz with rfl | rfl | rfl <;> rfl)
    refine ⟨(w.alloc (.cells cur 65)).setRow w.heap.size (l.flatMap adC ++ cur.toList.drop (l.flatMap adC).length).toArray, fun ty => by rw [hr ty]; simp, ?_, ?_⟩
    · rw [setRow_heap _ _ cur _ 65 _ hG, hlen, hdrop]
      rfl
    · refine ⟨hb.os, hb.tape, hb.output, ?_, fun k hk => ?_⟩
      · simp
      · rw [setRow_other _ _ _ _ (by omega)]; exact hb.block k hk
theorem poke_other' {W : World} {k j i : Nat} {v : Value} (h : k ≠ j) : (W.setCell ⟨j, i, none⟩ v).heap[k]? = W.heap[k]? := Below.heap_setCell _ _ _ _ (fun c => h (by simpa using c))
theorem bel_set3 {w W : World} {g : Nat} (h : Below w.heap.size w W) (hg : w.heap.size ≤ g) (i : Nat) (v0 v1 v2 : Value) : Below w.heap.size w (((W.setCell ⟨g, i, none⟩ v0).setCell ⟨g, i + 1, none⟩ v1).setCell ⟨g, i + 2, none⟩ v2) := by
  refine ⟨h.os, h.tape, h.output, ?_, fun k hk => ?_⟩
  · have := h.size; simp [World.setCell]; exact this
  · rw [poke_other' (by omega), poke_other' (by omega), poke_other' (by omega)]
    exact h.block k hk
set_option maxRecDepth 100000 in
set_option maxHeartbeats 4000000 in
theorem twinA_any (w : World) (v : Value) (l : List Ad) (hv : Ads w v l) (hl : l.length ≤ 262144) :
    Calls Try.prog 7 #[v] w fun e w' => e = .returned (.slice (some ⟨w.heap.size, 0, none⟩) l.length (l.length + 2)) ∧ TwA w' w.heap.size l ∧ Below w.heap.size w w' := by
  obtain ⟨wc, hcp, hcell, hbel⟩ := copyA w v l hv
  obtain ⟨a, cap, rfl, _, _, _⟩ := hv
  obtain ⟨i0, hi, hz0, hz1, hz2⟩ := info_parts Try.infoAdd
  have hmk := run_makeSlice (P := Try.prog) w 23 65 i0 (.agg #[.int .i64 0, .int .i64 0, .int .i64 0]) Try.underlying23 hi hz0 .i64 .i64 (l.length : Int) ((l.length : Int) + 2) (by omega) (by omega) (by rw [hz1]; omega) (by rw [hz2]; omega) (by omega)
  rw [hz1] at hmk
  have e2 : ((l.length : Int) + 2).toNat = l.length + 2 := by omega
  rw [e2, Int.toNat_natCast] at hmk
  obtain ⟨N, hN⟩ : ∃ N, N = l.length := ⟨_, rfl⟩
  have hsl : ∀ W, (Instr.slice 23 (.slice (some ⟨w.heap.size, 0, none⟩) N (N + 2)) none (some (.int .i64 ((N : Int) + 2))) none).run Try.prog W = .ok (.slice (some ⟨w.heap.size, 0, none⟩) (N + 2) (N + 2)) W := fun W => by
    have := slice_roomA W w.heap.size N (N + 2) (N + 2) (Nat.le_refl _)
    exact this
  rw [← hN] at hmk hcp ⊢
  have hNb : (N : Int) ≤ 262144 := by omega
  have HC : Hid (wc.heap[w.heap.size]? = some (.cells (twA l ad0 ad0) 65 (0, 0)) ∧ Below w.heap.size w wc) := ⟨hcell, hbel⟩
  have HN := hide hN
  generalize madeCells (Value.agg #[.int .i64 0, .int .i64 0, .int .i64 0]).cells ((N + 2) * 3) = mc at hmk hcp
  clear e2 hcell hbel hi hz0 hz1 hz2 hl hN
  go_enter Try.func7, Try.ntmps7
  go_wp2_with fail
  go_loopw [5] (fun iv wr => ∃ k : Nat, k ≤ 2 ∧ iv = .int .i64 ((N : Int) + (k : Int)) ∧ Hid (wr.heap[w.heap.size]? = some (.cells (twA l (if 1 ≤ k then mkA N else ad0) (if 2 ≤ k then mkA (N + 1) else ad0)) 65 (0, 0)) ∧ Below w.heap.size w wr)) (fun iv _ => (N + 2 - intOf iv).toNat)
  case atStart => exact ⟨0, by omega, by go_num, HC⟩
  case round =>
    clear HC
    obtain ⟨k, hk, rfl, HR⟩ := hrel
    match k, hk with
    | 0, _ =>
      have K := hide (markA_any N wr (by omega))
      have HS : Hid (∀ W, Below wr.heap.size wr W → (W.cell? ⟨w.heap.size, N * 3, none⟩ = some (.int .i64 0) ∧ W.cell? ⟨w.heap.size, N * 3 + 1, none⟩ = some (.int .i64 0) ∧ W.cell? ⟨w.heap.size, N * 3 + 2, none⟩ = some (.int .i64 0)) ∧ (∀ j, W.frozen? ⟨w.heap.size, j, none⟩ = false) ∧ Hid ((((W.setCell ⟨w.heap.size, N * 3, none⟩ (.int .i64 (mk N))).setCell ⟨w.heap.size, N * 3 + 1, none⟩ (.int .i64 0)).setCell ⟨w.heap.size, N * 3 + 2, none⟩ (.int .i64 0)).heap[w.heap.size]? = some (.cells (twA l (if 1 ≤ 1 then mkA N else ad0) (if 2 ≤ 1 then mkA (N + 1) else ad0)) 65 (0, 0)) ∧ Below w.heap.size w (((W.setCell ⟨w.heap.size, N * 3, none⟩ (.int .i64 (mk N))).setCell ⟨w.heap.size, N * 3 + 1, none⟩ (.int .i64 0)).setCell ⟨w.heap.size, N * 3 + 2, none⟩ (.int .i64 0)))) := fun W hW => by
        have hcl := kept_blk (unhide HR).1 hW
        have hb := bw_tr (unhide HR).2 hW
        have hA := twA_at hcl (i := N) (a := ad0) (by rw [unhide HN]; simp)
        have h1 := twA_set1 hcl (mkA N)
        rw [← unhide HN] at h1
        exact ⟨hA, fun j => blk_froz hcl, h1, bel_set3 hb (Nat.le_refl _) _ _ _ _⟩
      clear HR
      generalize mk N = m0 at *
      go_wp2_with fail
      refine (unhide K).mono ?_
      rintro e w2 ⟨rfl, b2⟩
      obtain ⟨⟨c0, c1, c2⟩, fz, HR2⟩ := unhide HS w2 b2
      clear K HS b2
      go_wp2_with fail
      go_roundw
      case rel => exact ⟨1, by omega, by go_num, HR2⟩
      case measure => simp only [intOf]; omega
    | 1, _ =>
      have K : Hid (Calls Try.prog 29 #[.int .i64 ((N : Int) + 1)] wr fun e w' => e = .returned (.agg #[.int .i64 (mk (N + 1)), .int .i64 0, .int .i64 0]) ∧ Below wr.heap.size wr w') := markA_any (N + 1) wr (by omega)
      have HS : Hid (∀ W, Below wr.heap.size wr W → (W.cell? ⟨w.heap.size, (N + 1) * 3, none⟩ = some (.int .i64 0) ∧ W.cell? ⟨w.heap.size, (N + 1) * 3 + 1, none⟩ = some (.int .i64 0) ∧ W.cell? ⟨w.heap.size, (N + 1) * 3 + 2, none⟩ = some (.int .i64 0)) ∧ (∀ j, W.frozen? ⟨w.heap.size, j, none⟩ = false) ∧ Hid ((((W.setCell ⟨w.heap.size, (N + 1) * 3, none⟩ (.int .i64 (mk (N + 1)))).setCell ⟨w.heap.size, (N + 1) * 3 + 1, none⟩ (.int .i64 0)).setCell ⟨w.heap.size, (N + 1) * 3 + 2, none⟩ (.int .i64 0)).heap[w.heap.size]? = some (.cells (twA l (if 1 ≤ 2 then mkA N else ad0) (if 2 ≤ 2 then mkA (N + 1) else ad0)) 65 (0, 0)) ∧ Below w.heap.size w (((W.setCell ⟨w.heap.size, (N + 1) * 3, none⟩ (.int .i64 (mk (N + 1)))).setCell ⟨w.heap.size, (N + 1) * 3 + 1, none⟩ (.int .i64 0)).setCell ⟨w.heap.size, (N + 1) * 3 + 2, none⟩ (.int .i64 0)))) := fun W hW => by
        have hcl := kept_blk (unhide HR).1 hW
        have hb := bw_tr (unhide HR).2 hW
        have hA := twA_at hcl (i := N + 1) (a := ad0) (by rw [unhide HN]; simp)
        have h1 := twA_set2 hcl (mkA (N + 1))
        rw [← unhide HN] at h1
        exact ⟨hA, fun j => blk_froz hcl, h1, bel_set3 hb (Nat.le_refl _) _ _ _ _⟩
      clear HR
      generalize mk (N + 1) = m1 at *
      go_wp2_with fail
      refine (unhide K).mono ?_
      rintro e w2 ⟨rfl, b2⟩
      obtain ⟨⟨c0, c1, c2⟩, fz, HR2⟩ := unhide HS w2 b2
      clear K HS b2
      go_wp2_with fail
      go_roundw
      case rel => exact ⟨2, by omega, by go_num, HR2⟩
      case measure => simp only [intOf]; omega
    | 2, _ =>
      go_wp2_with fail
      go_ret
      refine ⟨rfl, ?_, (unhide HR).2⟩
      have := (unhide HR).1
      unfold TwA
      rw [← unhide HN]
      exact this
    | k + 3, h => exact absurd h (by omega)
set_option maxRecDepth 100000 in
set_option maxHeartbeats 4000000 in
theorem leftA_any (w : World) (g : Nat) (v : Value) (l : List Ad) (ht : TwA w g l) (hv : Ads w v l) (hl : l.length ≤ 262144) :
    Calls Try.prog 19 #[.slice (some ⟨g, 0, none⟩) l.length (l.length + 2), v] w fun e w' => e = .returned (.bool true) ∧ Below w.heap.size w w' := by
  have hn := ht.ads hl (by obtain ⟨_, _, _, _, hz, _⟩ := hv; exact hz)
  have HKS : Hid (∀ W, Below w.heap.size w W → Calls Try.prog 53 #[.slice (some ⟨g, 0, none⟩) l.length (l.length + 2), v] W fun e w' => e = .returned (.bool true) ∧ Below W.heap.size W w') := fun W hW => sameA_any _ _ l W (hn.bw hW) (hv.bw hW)
  obtain ⟨a, cap, rfl, _, _, _⟩ := hv
  obtain ⟨N, hN⟩ : ∃ N, N = l.length := ⟨_, rfl⟩
  have hsl : ∀ W, (Instr.slice 23 (.slice (some ⟨g, 0, none⟩) N (N + 2)) none (some (.int .i64 ((N : Int) + 2))) none).run Try.prog W = .ok (.slice (some ⟨g, 0, none⟩) (N + 2) (N + 2)) W := fun W => by
    have := slice_roomA W g N (N + 2) (N + 2) (Nat.le_refl _)
    exact this
  have HC : Hid (∀ W, Below w.heap.size w W → (W.cell? ⟨g, N * 3, none⟩ = some (.int .i64 (mk N)) ∧ W.cell? ⟨g, N * 3 + 1, none⟩ = some (.int .i64 0) ∧ W.cell? ⟨g, N * 3 + 2, none⟩ = some (.int .i64 0)) ∧ (W.cell? ⟨g, (N + 1) * 3, none⟩ = some (.int .i64 (mk (N + 1))) ∧ W.cell? ⟨g, (N + 1) * 3 + 1, none⟩ = some (.int .i64 0) ∧ W.cell? ⟨g, (N + 1) * 3 + 2, none⟩ = some (.int .i64 0))) := fun W hW => by
    have hcl := kept_blk ht hW
    rw [hN]
    exact ⟨twA_at hcl (i := l.length) (a := mkA l.length) (by simp), twA_at hcl (i := l.length + 1) (a := mkA (l.length + 1)) (by simp)⟩
  rw [← hN] at HKS ⊢
  have hNb : (N : Int) ≤ 262144 := by omega
  have K0 : Hid (∀ W, Calls Try.prog 52 #[.agg #[.int .i64 (mk N), .int .i64 0, .int .i64 0], .int .i64 (N : Int)] W fun e w' => e = .returned (.bool true) ∧ Below W.heap.size W w') := fun W => isA_any N W (by omega)
  have K1 : Hid (∀ W, Calls Try.prog 52 #[.agg #[.int .i64 (mk (N + 1)), .int .i64 0, .int .i64 0], .int .i64 ((N : Int) + 1)] W fun e w' => e = .returned (.bool true) ∧ Below W.heap.size W w') := fun W => isA_any (N + 1) W (by omega)
  clear hn ht hN hl
  generalize mk N = m0 at *
  generalize mk (N + 1) = m1 at *
  go_enter Try.func19, Try.ntmps19
  go_wp2_with fail
  go_loopw [6] (fun iv wr => ∃ k : Nat, k ≤ 2 ∧ iv = .int .i64 ((N : Int) + (k : Int)) ∧ Hid (Below w.heap.size w wr)) (fun iv _ => (N + 2 - intOf iv).toNat)
  case atStart => exact ⟨0, by omega, by go_num, Below.refl _ _⟩
  case round =>
    obtain ⟨k, hk, rfl, hwr⟩ := hrel
    obtain ⟨⟨c0, c1, c2⟩, ⟨d0, d1, d2⟩⟩ := unhide HC wr (unhide hwr)
    match k, hk with
    | 0, _ =>
      clear d0 d1 d2
      go_wp2_with fail
      refine (unhide K0 _).mono ?_
      rintro e w2 ⟨rfl, b2⟩
      have B2 : Hid (Below w.heap.size w w2) := bw_tr (unhide hwr) b2
      clear b2 c0 c1 c2
      go_wp2_with fail
      go_roundw
      case rel => exact ⟨1, by omega, by go_num, B2⟩
      case measure => simp only [intOf]; omega
    | 1, _ =>
      clear c0 c1 c2
      go_wp2_with fail
      refine (unhide K1 _).mono ?_
      rintro e w2 ⟨rfl, b2⟩
      have B2 : Hid (Below w.heap.size w w2) := bw_tr (unhide hwr) b2
      clear b2 d0 d1 d2
      go_wp2_with fail
      go_roundw
      case rel => exact ⟨2, by omega, by go_num, B2⟩
      case measure => simp only [intOf]; omega
    | 2, _ =>
      clear c0 c1 c2 d0 d1 d2
      have KS := hide (unhide HKS _ (unhide hwr))
      go_wp2_with fail
      refine (unhide KS).mono ?_
      rintro e w2 ⟨rfl, hb2⟩
      have B2 : Hid (Below w.heap.size w w2) := bw_tr (unhide hwr) hb2
      clear hb2
      go_wp2_with fail
      go_ret
      exact ⟨rfl, unhide B2⟩
    | k + 3, h => exact absurd h (by omega)
end Go.Proofs.Ytokdflbajnecpaa.Tn.Ax
