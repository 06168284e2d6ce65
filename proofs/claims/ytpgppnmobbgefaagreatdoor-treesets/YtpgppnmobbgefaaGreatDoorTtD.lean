/- The contracts of TwinNodes and TwinTree. -/
import Derived.Test.YtpgppnmobbgefaaGreatDoorBaU
namespace Go.Proofs.YtpgppnmobbgefaaGreatDoor
open Go.RowKit Go.Maps

theorem slice_roomNode (w : World) (g n cap i : Nat) (hi : i ≤ cap) : (Instr.slice 22 (.slice (some ⟨g, 0, none⟩) n cap) none (some (.int .i64 (i : Int))) none).run Tryz.prog w = .ok (.slice (some ⟨g, 0, none⟩) i cap) w := by
  have ht : Tryz.prog.underlying 22 = some (.slice (Tryz.prog.elem 22)) := by kernel_rfl
  have he : Tryz.prog.elem 22 = 95 := by kernel_rfl
  have hs : (Go.sizeOf 95).run Tryz.prog w = .ok 4 w := by kernel_rfl
  rw [run_slice_h (P := Tryz.prog) w 22 (some ⟨g, 0, none⟩) n cap ht .i64 i (by omega) (by omega), he, hs]
  simp [Result.andThen, sliced, Addr.add]
/-- The cells of a node of the row that is made. -/
theorem TwS.at {w W : World} {G : Nat} {T F : List Nd} {us : List Value} {i : Nat} (h : TwS w W G T F us i) (hi : i < T.length) : NdC W G (i * 4) nd0 (.slice none 0 0) ∧ ∀ j, W.frozen? ⟨G, j, none⟩ = false := by
  obtain ⟨hn, hu⟩ := h.zero i (Nat.le_refl _) (by omega)
  refine ⟨⟨?_, ?_, ?_, ?_⟩, fun j => own_frozen h.own rfl j⟩
  · simpa using own_cell h.own rfl (treeC_get hn hu (j := 0) rfl)
  · exact own_cell h.own rfl (treeC_get hn hu (j := 1) rfl)
  · exact own_cell h.own rfl (treeC_get hn hu (j := 2) rfl)
  · exact own_cell h.own rfl (treeC_get hn hu (j := 3) rfl)
theorem TwM.at {w W : World} {G : Nat} {T : List Nd} {us : List Value} {k x : Nat} (hk : k < 2) (hx : x = T.length + k) (h : TwM w W G T us k) : NdC W G (x * 4) nd0 (.slice none 0 0) ∧ ∀ j, W.frozen? ⟨G, j, none⟩ = false := by
  have hn : (T ++ [if 1 ≤ k then mkN T.length else nd0, if 2 ≤ k then mkN (T.length + 1) else nd0])[x]? = some nd0 := by
    rw [hx, List.getElem?_append_right (by omega), Nat.add_sub_cancel_left]
    match k, hk with
    | 0, _ => rfl
    | 1, _ => rfl
  have hu : (us ++ [Value.slice none 0 0, .slice none 0 0])[x]? = some (.slice none 0 0) := by
    rw [hx, List.getElem?_append_right (by rw [h.ul]; omega), h.ul, Nat.add_sub_cancel_left]
    match k, hk with
    | 0, _ => rfl
    | 1, _ => rfl
  refine ⟨⟨?_, ?_, ?_, ?_⟩, fun j => own_frozen h.own rfl j⟩
  · simpa using own_cell h.own rfl (treeC_get hn hu (j := 0) rfl)
  · exact own_cell h.own rfl (treeC_get hn hu (j := 1) rfl)
  · exact own_cell h.own rfl (treeC_get hn hu (j := 2) rfl)
  · exact own_cell h.own rfl (treeC_get hn hu (j := 3) rfl)
set_option maxRecDepth 100000 in
set_option maxHeartbeats 4000000 in
theorem twinNodes_any (w : World) (v : Value) (T : List Nd) (h : Trd w v T) (hl : T.length ≤ 1048576) (hu : ∀ n ∈ T, n.un.length ≤ 1048576) :
    Calls Tryz.prog 43 #[v] w fun e w' => ∃ us, e = .returned (.slice (some ⟨w.heap.size, 0, none⟩) T.length (T.length + 2)) ∧ TwT w.heap.size w' w.heap.size T us ∧ Below w.heap.size w w' := by
  obtain ⟨a, c, rfl⟩ := h.slice
  obtain ⟨i0, hi, hz0, hz1, hz2⟩ := info_parts infoNode
  have hmk := run_makeSlice (P := Tryz.prog) w 22 95 i0 (.agg #[.int .i64 0, .int .i64 0, .int .i64 0, .slice none 0 0]) Tryz.underlying22 hi hz0 .i64 .i64 (T.length : Int) ((T.length : Int) + 2) (by omega) (by omega) (by rw [hz1]; omega) (by rw [hz2]; omega) (by omega)
  rw [hz1] at hmk
  have e1 : ((T.length : Int) + 2).toNat * 4 = (T.length + 2) * 4 := by omega
  have e2 : ((T.length : Int) + 2).toNat = T.length + 2 := by omega
  rw [e1, e2, Int.toNat_natCast] at hmk
  have hS0 := hide (TwS.start (w := w) hl (made_nodes (T.length + 2)))
  generalize madeCells (Value.agg #[.int .i64 0, .int .i64 0, .int .i64 0, .slice none 0 0]).cells ((T.length + 2) * 4) = mc at *
  obtain ⟨-, h2⟩ := h.at
  have HC : Hid (∀ i, i < T.length → ∃ b o p m e ua ul uc, a = some ⟨b, o, none⟩ ∧ T[i]? = some (ndAt T i) ∧ (ndAt T i).pub = p ∧ (ndAt T i).mem = m ∧ (ndAt T i).ep = e ∧ (ndAt T i).un.length = ul ∧ ∀ W, Below w.heap.size w W → (W.cell? ⟨b, o + i * 4, none⟩ = some (.int .i64 p) ∧ W.cell? ⟨b, o + i * 4 + 1, none⟩ = some (.int .i64 m) ∧ W.cell? ⟨b, o + i * 4 + 2, none⟩ = some (.int .i64 e) ∧ W.cell? ⟨b, o + i * 4 + 3, none⟩ = some (.slice ua ul uc)) ∧
      Calls Tryz.prog 182 #[.agg #[.int .i64 p, .int .i64 m, .int .i64 e, .slice ua ul uc]] W fun x w' => ∃ g, x = .returned (.agg #[.int .i64 p, .int .i64 m, .int .i64 e, .slice (some ⟨g, 0, none⟩) ul (ul + 2)]) ∧ W.heap.size ≤ g ∧ Twint w' g (ndAt T i).un ∧ Below W.heap.size W w') := fun i hi => by
    obtain ⟨b, o, e, h3⟩ := h2 (by omega)
    obtain ⟨u, k1, k2⟩ := h3 w (Below.refl _ _) i hi
    obtain ⟨ua, uc, rfl⟩ := nums_slice k2
    have hB : b < w.heap.size := lt_of_cell k1.c3
    exact ⟨b, o, _, _, _, ua, _, uc, e, ndAt_of hi, rfl, rfl, rfl, rfl, fun W hW => ⟨⟨(k1.bw hB hW).c0, (k1.bw hB hW).c1, (k1.bw hB hW).c2, (k1.bw hB hW).c3⟩, twinNode_any W _ _ _ _ _ (k2.bw hW) (hu _ (ndAt_mem hi))⟩⟩
  obtain ⟨N, hN⟩ : ∃ N, N = T.length := ⟨_, rfl⟩
  have HN := hide hN
  rw [← hN] at hmk HC hS0 ⊢
  have hNI : (N : Int) ≤ 1048576 := by omega
  have hsl : ∀ W, (Instr.slice 22 (.slice (some ⟨w.heap.size, 0, none⟩) N (N + 2)) none (some (.int .i64 ((N : Int) + 2))) none).run Tryz.prog W = .ok (.slice (some ⟨w.heap.size, 0, none⟩) (N + 2) (N + 2)) W := fun W => by
    have := slice_roomNode W w.heap.size N (N + 2) (N + 2) (Nat.le_refl _)
    exact this
  clear e1 e2 hi hz0 hz1 hz2 h h2 hl hu hN
  go_enter Tryz.func43, Tryz.ntmps43
  go_wp2_with fail
  go_loopw [15] (fun iv wr => ∃ (i : Nat) (F : List Nd) (us : List Value), iv = .int .i64 (i : Int) ∧ i ≤ N ∧ Hid (TwS w wr w.heap.size T F us i)) (fun iv _ => (N - (intOf iv)).toNat)
  case atStart => exact ⟨0, _, _, rfl, by omega, unhide hS0⟩
  case round =>
    clear hS0
    obtain ⟨i, F, us, rfl, hi, hS⟩ := hrel
    by_cases hin : i < N
    · obtain ⟨b, o, p, m, e, ua, ul, uc, rfl, t1, t2, t3, t4, t5, hc⟩ := unhide HC i hin
      obtain ⟨⟨c0, c1, c2, c3⟩, K⟩ := hc _ (unhide hS).bel
      have q1 : (i : Int) < (N : Int) := by omega
      have q0 : (0 : Int) ≤ (i : Int) := by omega
      have HT := hide (And.intro t1 (And.intro t2 (And.intro t3 (And.intro t4 t5))))
      clear t1 t2 t3 t4 t5 hc
      go_wp2_with fail
      refine K.mono ?_
      rintro x w2 ⟨g, rfl, hg, hTw, b2⟩
      have hS2 := hide ((unhide hS).bw b2)
      obtain ⟨⟨d0, d1, d2, d3⟩, hfz⟩ := (unhide hS2).at (by rw [← unhide HN]; exact hin)
      have f0 := hfz (i * 4); have f1 := hfz (i * 4 + 1); have f2 := hfz (i * 4 + 2); have f3 := hfz (i * 4 + 3)
      have HX : Hid (TwS w ((((w2.setCell ⟨w.heap.size, i * 4, none⟩ (.int .i64 p)).setCell ⟨w.heap.size, i * 4 + 1, none⟩ (.int .i64 m)).setCell ⟨w.heap.size, i * 4 + 2, none⟩ (.int .i64 e)).setCell ⟨w.heap.size, i * 4 + 3, none⟩ (.slice (some ⟨g, 0, none⟩) ul (ul + 2))) w.heap.size T (F.set i (ndAt T i)) (us.set i (.slice (some ⟨g, 0, none⟩) ul (ul + 2))) (i + 1)) := by
        obtain ⟨t1, t2, t3, t4, t5⟩ := unhide HT
        have hlt := (World.ownsRow.lt (unhide hS).own w.heap.size rfl).2
        have := (unhide hS2).step t1 (g := g) (by omega) hTw (fun j u hj hu2 hk => by
          obtain ⟨n, hn⟩ : ∃ n, T[j]? = some n := ⟨_, List.getElem?_eq_getElem (by have := unhide HN; omega)⟩
          obtain ⟨g', rfl, h2, h3⟩ := (unhide hS).un j n u hj hn hu2
          cases hk
          have := h3.lt
          have hg2 : wr.heap.size ≤ g' := hg
          omega)
        rw [t2, t3, t4, t5] at this
        exact this
      clear c0 c1 c2 c3 K hS hS2 hTw hg hfz
      go_wp2_with fail
      go_roundw
      case rel => exact ⟨i + 1, _, _, by go_num, by omega, HX⟩
      case measure => simp [intOf]; omega
    · obtain rfl : i = N := by omega
      have hS' := unhide hS
      rw [unhide HN] at hS'
      obtain ⟨us', hM⟩ := hS'.all
      have HM := hide hM
      clear hS hS' hM HC hmk
      go_wp2_with fail
      go_loopw [6] (fun iv wr => ∃ (k x : Nat), iv = .int .i64 (x : Int) ∧ k ≤ 2 ∧ x = i + k ∧ Hid (TwM w wr w.heap.size T us' k)) (fun iv _ => (i + 2 - (intOf iv)).toNat)
      case atStart => exact ⟨0, i, rfl, by omega, rfl, HM⟩
      case round =>
        clear HM
        obtain ⟨k, x, rfl, hk, hx, hM⟩ := hrel
        by_cases hk2 : k < 2
        · have hx' : x = T.length + k := by rw [hx, ← unhide HN]
          have K := markNode_any x wr (by omega)
          have q1 : (x : Int) < (i : Int) + 2 := by omega
          have q0 : (0 : Int) ≤ (x : Int) := by omega
          have q5 : decide (x < i + 2) = true := decide_eq_true (by omega)
          have HX := hide hx
          have HX' := hide hx'
          have xb : (x : Int) ≤ 1048580 := by omega
          clear hx hx'
          go_wp2_with fail
          refine K.mono ?_
          rintro y w2 ⟨rfl, b2⟩
          have hM2 := hide ((unhide hM).bw b2)
          obtain ⟨⟨d0, d1, d2, d3⟩, hfz⟩ := (unhide hM2).at hk2 (unhide HX')
          have f0 := hfz (x * 4); have f1 := hfz (x * 4 + 1); have f2 := hfz (x * 4 + 2); have f3 := hfz (x * 4 + 3)
          have HX2 := hide ((unhide hM2).step hk2 (unhide HX') rfl)
          have hxi : x + 1 = i + (k + 1) := by have := unhide HX; omega
          have HXI := hide hxi
          clear K hM hM2 hfz hxi
          generalize mkI x = mm at *
          go_wp2_with fail
          go_roundw
          case rel => exact ⟨k + 1, x + 1, by go_num, by omega, unhide HXI, HX2⟩
          case measure => simp [intOf]; omega
        · obtain rfl : k = 2 := by omega
          subst hx
          have q1 : decide ((((i + 2 : Nat)) : Int) < (i : Int) + 2) = false := decide_eq_false (by omega)
          go_wp2_with fail
          go_ret
          exact ⟨_, rfl, (unhide hM).fin, (unhide hM).bel⟩
set_option maxHeartbeats 2000000 in
theorem twinTree_any (w : World) (v : Value) (T : List Nd) (h : Trd w v T) (hl : T.length ≤ 1048576) (hu : ∀ n ∈ T, n.un.length ≤ 1048576) :
    Calls Tryz.prog 9 #[.agg #[v]] w fun e w' => ∃ g us, e = .returned (.agg #[.slice (some ⟨g, 0, none⟩) T.length (T.length + 2)]) ∧ TwT w.heap.size w' g T us ∧ Below w.heap.size w w' := by
  obtain ⟨a, c, rfl⟩ := h.slice
  obtain ⟨W0, hW0⟩ : ∃ W0, W0 = (w.alloc (.cells #[.slice a T.length c] 24)).alloc (.cells #[.slice none 0 0] 24) := ⟨_, rfl⟩
  have hb0 : Below w.heap.size w W0 := by rw [hW0]; exact (bwA _ _).alloc (by simp) _
  have hs0 : W0.heap.size = w.heap.size + 2 := by rw [hW0]; simp
  have HB : Hid (∀ W, Below W0.heap.size W0 W → W.heap[w.heap.size]? = some (.cells #[.slice a T.length c] 24 (0, 0)) ∧ W.heap[w.heap.size + 1]? = some (.cells #[.slice none 0 0] 24 (0, 0)) ∧ Below w.heap.size w W) := fun W hW => by
    refine ⟨?_, ?_, bw_tr hb0 hW⟩
    · rw [hW.block _ (by omega), hW0, Below.heap_alloc _ _ _ (by simp)]; exact heap_alloc_new _ _
    · rw [hW.block _ (by omega), hW0]
      have := heap_alloc_new (w.alloc (.cells #[.slice a T.length c] 24)) (.cells #[.slice none 0 0] 24)
      simpa using this
  have KT := hide (twinNodes_any W0 _ T (h.bw hb0) hl hu)
  have HW : Hid (W0 = (w.alloc (.cells #[.slice a T.length c] 24)).alloc (.cells #[.slice none 0 0] 24)) := hW0
  have HS := hide hs0
  clear hW0 h hl hu hb0 hs0
  obtain ⟨L, hL⟩ : ∃ L, L = T.length := ⟨_, rfl⟩
  rw [← hL] at KT HW HB ⊢
  clear hL
  go_enter Tryz.func9, Tryz.ntmps9
  go_wp2_with fail
  rw [← unhide HW]
  refine (unhide KT).mono ?_
  rintro x w1 ⟨us, rfl, ht, b1⟩
  obtain ⟨k1, k2, b2⟩ := unhide HB _ b1
  have c0 := cell_of_blk k1 (o := 0) rfl
  have d0 := cell_of_blk k2 (o := 0) rfl
  have f3 := frozen_of_blk0 k1 0
  have e0 := frozen_of_blk0 k2 0
  obtain ⟨WZ, hWZ⟩ : ∃ WZ, WZ = (w1.setCell ⟨w.heap.size, 0, none⟩ (.slice (some ⟨W0.heap.size, 0, none⟩) L (L + 2))).setCell ⟨w.heap.size + 1, 0, none⟩ (.slice (some ⟨W0.heap.size, 0, none⟩) L (L + 2)) := ⟨_, rfl⟩
  have z : WZ.heap[w.heap.size + 1]? = some (.cells #[.slice (some ⟨W0.heap.size, 0, none⟩) L (L + 2)] 24 (0, 0)) := by
    rw [hWZ]; simp [World.setCell, Array.getElem?_modify, k2]
  have z0 := cell_of_blk z (o := 0) rfl
  have HF : Hid (TwT w.heap.size WZ W0.heap.size T us ∧ Below w.heap.size w WZ) := by
    have hs := unhide HS
    have f : Fr [w.heap.size, w.heap.size + 1] w1 WZ := by
      rw [hWZ]; exact ((Fr.refl _ w1).setCell (a := ⟨w.heap.size, 0, none⟩) (Or.inr (by simp)) _).setCell (a := ⟨w.heap.size + 1, 0, none⟩) (Or.inr (by simp)) _
    refine ⟨⟨by omega, ht.ul, own_mono (own_keep ht.own (fun k hk => ?_)) (by omega), fun j n u hn hu => ?_, ht.apart⟩, Fr.toBase b2 f (fun y hy => by simp at hy; omega)⟩
    · have := World.ownsRow.lt ht.own k hk
      exact f.block k this.2 (by simp; omega)
    · obtain ⟨g, h1, h2, h3⟩ := ht.un j n u hn hu
      exact ⟨g, h1, by omega, h3.keep (f.block g h3.lt (by simp; omega))⟩
  have HZ := hide hWZ
  clear hWZ z ht b1 b2 k1 k2
  go_wp2_with fail
  rw [← unhide HZ]
  exact bodyPost_ret (v := .agg #[.slice (some ⟨W0.heap.size, 0, none⟩) L (L + 2)]) (by simp [results, Tryz.results9, go_sem, z0]) rfl ⟨W0.heap.size, us, rfl, (unhide HF).1, (unhide HF).2⟩
end Go.Proofs.YtpgppnmobbgefaaGreatDoor
