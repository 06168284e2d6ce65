/- The contracts of LeftNode, LeftNodes and LeftTree: of a copy that is as it was made they answer true. -/
import Derived.Test.YtaanacnloljlmaaGreatDoorZ13
namespace Go.Proofs.YtaanacnloljlmaaGreatDoor
open Go.RowKit Go.Maps

set_option maxHeartbeats 2000000 in
theorem leftNode_any (w : World) (g : Nat) (p m e : Int) (u : Value) (l : List Int) (ht : Twint w g l) (hu : Nums w u l) (hl : l.length ≤ 1048576) :
    Calls Tryz.prog 181 #[.agg #[.int .i64 p, .int .i64 m, .int .i64 e, .slice (some ⟨g, 0, none⟩) l.length (l.length + 2)], .agg #[.int .i64 p, .int .i64 m, .int .i64 e, u]] w fun x w' => x = .returned (.bool true) ∧ Below w.heap.size w w' := by
  obtain ⟨a, c, rfl⟩ := nums_slice hu
  obtain ⟨W0, hW0⟩ : ∃ W0, W0 = (w.alloc (.cells #[.int .i64 p, .int .i64 m, .int .i64 e, .slice (some ⟨g, 0, none⟩) l.length (l.length + 2)] 88)).alloc (.cells #[.int .i64 p, .int .i64 m, .int .i64 e, .slice a l.length c] 88) := ⟨_, rfl⟩
  have hb0 : Below w.heap.size w W0 := by rw [hW0]; exact (bwA _ _).alloc (by simp) _
  have K := hide (leftint_any W0 g _ l (ht.keep (hb0.block g ht.lt)) (hu.bw hb0) hl)
  have HW : Hid (W0 = (w.alloc (.cells #[.int .i64 p, .int .i64 m, .int .i64 e, .slice (some ⟨g, 0, none⟩) l.length (l.length + 2)] 88)).alloc (.cells #[.int .i64 p, .int .i64 m, .int .i64 e, .slice a l.length c] 88)) := hW0
  clear hW0 hu ht hl
  generalize l.length = L at *
  go_enter Tryz.func181, Tryz.ntmps181
  go_wp2_with fail
  rw [← unhide HW]
  refine (unhide K).mono ?_
  rintro x w1 ⟨rfl, b1⟩
  go_wp2
  go_ret
  exact ⟨rfl, bw_tr hb0 b1⟩
theorem isNode_any (n : Nat) (w : World) (h : (n : Int) ≤ 1125899906842624) :
    Calls Tryz.prog 182 #[.agg #[.int .i64 (mkI n), .int .i64 0, .int .i64 0, .slice none 0 0], .int .i64 (n : Int)] w fun e w' => e = .returned (.bool true) ∧ Below w.heap.size w w' := by
  have hm : -1000 - (n : Int) = mkI n := rfl
  go_enter Tryz.func182, Tryz.ntmps182
  go_wp2
  go_ret
  exact ⟨rfl, bwA _ _⟩
set_option maxRecDepth 100000 in
set_option maxHeartbeats 4000000 in
theorem leftNodes_any (w : World) (B G : Nat) (v : Value) (T : List Nd) (us : List Value) (ht : TwT B w G T us) (h : Trd w v T) (hl : T.length ≤ 1048576) (hu : ∀ n ∈ T, n.un.length ≤ 1048576) :
    Calls Tryz.prog 46 #[.slice (some ⟨G, 0, none⟩) T.length (T.length + 2), v] w fun e w' => e = .returned (.bool true) ∧ Below w.heap.size w w' := by
  obtain ⟨a, c, rfl⟩ := h.slice
  obtain ⟨-, h2⟩ := h.at
  have hot := (ht.otr hu).trd (by omega) (fun n hn => by have := hu n hn; omega)
  obtain ⟨-, h2'⟩ := hot.at
  have HC : Hid (∀ i, i < T.length → ∃ b o p m e ua ul uc g, a = some ⟨b, o, none⟩ ∧ ∀ W, Below w.heap.size w W → (W.cell? ⟨b, o + i * 4, none⟩ = some (.int .i64 p) ∧ W.cell? ⟨b, o + i * 4 + 1, none⟩ = some (.int .i64 m) ∧ W.cell? ⟨b, o + i * 4 + 2, none⟩ = some (.int .i64 e) ∧ W.cell? ⟨b, o + i * 4 + 3, none⟩ = some (.slice ua ul uc)) ∧
      (W.cell? ⟨G, i * 4, none⟩ = some (.int .i64 p) ∧ W.cell? ⟨G, i * 4 + 1, none⟩ = some (.int .i64 m) ∧ W.cell? ⟨G, i * 4 + 2, none⟩ = some (.int .i64 e) ∧ W.cell? ⟨G, i * 4 + 3, none⟩ = some (.slice (some ⟨g, 0, none⟩) ul (ul + 2))) ∧
      Calls Tryz.prog 181 #[.agg #[.int .i64 p, .int .i64 m, .int .i64 e, .slice (some ⟨g, 0, none⟩) ul (ul + 2)], .agg #[.int .i64 p, .int .i64 m, .int .i64 e, .slice ua ul uc]] W fun x w' => x = .returned (.bool true) ∧ Below W.heap.size W w') := fun i hi => by
    obtain ⟨b, o, e, h3⟩ := h2 (by omega)
    obtain ⟨u, k1, k2⟩ := h3 w (Below.refl _ _) i hi
    obtain ⟨ua, uc, rfl⟩ := nums_slice k2
    have hB : b < w.heap.size := lt_of_cell k1.c3
    obtain ⟨u', hu'⟩ : ∃ u', us[i]? = some u' := ⟨_, List.getElem?_eq_getElem (by rw [ht.ul]; exact hi)⟩
    obtain ⟨g, e', h4, h5⟩ := ht.un i _ u' (ndAt_of hi) hu'
    have hn1 : (T ++ [mkN T.length, mkN (T.length + 1)])[i]? = some (ndAt T i) := by rw [List.getElem?_append_left hi, ndAt_of hi]
    have hu1 : (us ++ [Value.slice none 0 0, .slice none 0 0])[i]? = some u' := by rw [List.getElem?_append_left (by rw [ht.ul]; exact hi), hu']
    refine ⟨b, o, (ndAt T i).pub, (ndAt T i).mem, (ndAt T i).ep, ua, (ndAt T i).un.length, uc, g, e, fun W hW => ?_⟩
    have ht' := ht.bw hW
    refine ⟨⟨(k1.bw hB hW).c0, (k1.bw hB hW).c1, (k1.bw hB hW).c2, (k1.bw hB hW).c3⟩, ⟨?_, ?_, ?_, ?_⟩, leftNode_any W g _ _ _ _ _ (h5.keep (hW.block g h5.lt)) (k2.bw hW) (hu _ (ndAt_mem hi))⟩
    · simpa using own_cell ht'.own rfl (treeC_get hn1 hu1 (j := 0) rfl)
    · exact own_cell ht'.own rfl (treeC_get hn1 hu1 (j := 1) rfl)
    · exact own_cell ht'.own rfl (treeC_get hn1 hu1 (j := 2) rfl)
    · rw [← e']; exact own_cell ht'.own rfl (treeC_get hn1 hu1 (j := 3) rfl)
  have HMK : Hid (∀ W, Below w.heap.size w W → ∀ k, k < 2 → NdC W G ((T.length + k) * 4) (mkN (T.length + k)) (.slice none 0 0)) := fun W hW k hk => by
    have := (ht.bw hW).marks
    match k, hk with
    | 0, _ => exact this.1
    | 1, _ => exact this.2
  obtain ⟨N, hN⟩ : ∃ N, N = T.length := ⟨_, rfl⟩
  rw [← hN] at HC HMK ⊢
  have hNI : (N : Int) ≤ 1048576 := by omega
  have hsl : ∀ W, (Instr.slice 22 (.slice (some ⟨G, 0, none⟩) N (N + 2)) none (some (.int .i64 ((N : Int) + 2))) none).run Tryz.prog W = .ok (.slice (some ⟨G, 0, none⟩) (N + 2) (N + 2)) W := fun W => by
    have := slice_roomNode W G N (N + 2) (N + 2) (Nat.le_refl _)
    exact this
  clear h h2 h2' hot hl hu hN ht
  go_enter Tryz.func46, Tryz.ntmps46
  go_wp2_with fail
  go_loopw [15] (fun iv wr => ∃ (i : Nat), iv = .int .i64 (i : Int) ∧ i ≤ N ∧ Below w.heap.size w wr) (fun iv _ => (N - (intOf iv)).toNat)
  case atStart => exact ⟨0, rfl, by omega, Below.refl _ _⟩
  case round =>
    obtain ⟨i, rfl, hi, hbel⟩ := hrel
    by_cases hin : i < N
    · obtain ⟨b, o, p, m, e, ua, ul, uc, g, rfl, hc⟩ := unhide HC i hin
      have q1 : (i : Int) < (N : Int) := by omega
      have q0 : (0 : Int) ≤ (i : Int) := by omega
      obtain ⟨x0, y0, -⟩ := hc _ hbel
      obtain ⟨x1, y1, K⟩ := hc _ hbel.drew
      have HC2 := hide hc
      have HK := hide K
      obtain ⟨c0, c1, c2, c3⟩ := x0
      obtain ⟨d0, d1, d2, d3⟩ := y0
      obtain ⟨e0, e1, e2, e3⟩ := x1
      obtain ⟨f0, f1, f2, f3⟩ := y1
      clear hc K
      go_wp2_with fail
      first
      | go_region_held3 (fun w' : World => w'.cell? ⟨b, o + i * 4, none⟩ = some (.int .i64 p) ∧ w'.cell? ⟨b, o + i * 4 + 1, none⟩ = some (.int .i64 m) ∧ w'.cell? ⟨b, o + i * 4 + 2, none⟩ = some (.int .i64 e) ∧ w'.cell? ⟨b, o + i * 4 + 3, none⟩ = some (.slice ua ul uc) ∧
          w'.cell? ⟨G, i * 4, none⟩ = some (.int .i64 p) ∧ w'.cell? ⟨G, i * 4 + 1, none⟩ = some (.int .i64 m) ∧ w'.cell? ⟨G, i * 4 + 2, none⟩ = some (.int .i64 e) ∧ w'.cell? ⟨G, i * 4 + 3, none⟩ = some (.slice (some ⟨g, 0, none⟩) ul (ul + 2)))
          (first | with_reducible exact ⟨c0, c1, c2, c3, d0, d1, d2, d3⟩ | with_reducible exact ⟨e0, e1, e2, e3, f0, f1, f2, f3⟩ | with_reducible exact ⟨g0, g1, g2, g3, h0, h1, h2, h3⟩) (first
          | (go_at_call 181; refine (unhide HK).mono ?_; rintro x w5 ⟨rfl, E5⟩; have b5 := bw_tr hbel.drew E5; obtain ⟨⟨g0, g1, g2, g3⟩, ⟨h0, h1, h2, h3⟩, -⟩ := unhide HC2 w5 b5) | fail)
      | fail
      all_goals
        clear E5 g0 g1 g2 g3 h0 h1 h2 h3
        go_wp2_with fail
        go_roundw
        case rel => exact ⟨i + 1, by go_num, by omega, b5⟩
        case measure => simp [intOf]; omega
    · obtain rfl : i = N := by omega
      clear HC
      have HB2 := hide hbel
      go_wp2_with fail
      go_loopw [7] (fun iv wq => ∃ (k x : Nat), iv = .int .i64 (x : Int) ∧ k ≤ 2 ∧ x = i + k ∧ Below w.heap.size w wq) (fun iv _ => (i + 2 - (intOf iv)).toNat)
      case atStart => exact ⟨0, i, rfl, by omega, rfl, hbel⟩
      case round =>
        obtain ⟨k, x, rfl, hk, hx, hbel2⟩ := hrel
        by_cases hk2 : k < 2
        · have NC := unhide HMK _ hbel2 k hk2
          rw [← hx] at NC
          obtain ⟨n0, n1, n2, n3⟩ := NC
          have n0' : wr.cell? ⟨G, x * 4, none⟩ = some (.int .i64 (mkI x)) := n0
          have n1' : wr.cell? ⟨G, x * 4 + 1, none⟩ = some (.int .i64 0) := n1
          have n2' : wr.cell? ⟨G, x * 4 + 2, none⟩ = some (.int .i64 0) := n2
          have K := isNode_any x wr (by omega)
          have q1 : (x : Int) < (i : Int) + 2 := by omega
          have q0 : (0 : Int) ≤ (x : Int) := by omega
          have q5 : decide (x < i + 2) = true := decide_eq_true (by omega)
          have xb : (x : Int) ≤ 1048580 := by omega
          have HX : Hid (x + 1 = i + (k + 1)) := by unfold Hid; omega
          clear hx n0 n1 n2
          generalize mkI x = mm at *
          go_wp2_with fail
          refine K.mono ?_
          rintro y w2 ⟨rfl, b2⟩
          have b3 := bw_tr hbel2 b2
          clear K n0' n1' n2' n3
          go_wp2_with fail
          go_roundw
          case rel => exact ⟨k + 1, x + 1, by go_num, by omega, unhide HX, b3⟩
          case measure => simp [intOf]; omega
        · obtain rfl : k = 2 := by omega
          subst hx
          have q1 : decide ((((i + 2 : Nat)) : Int) < (i : Int) + 2) = false := decide_eq_false (by omega)
          go_wp2_with fail
          go_ret
          exact ⟨rfl, hbel2⟩
set_option maxHeartbeats 1000000 in
theorem leftTree_any (w : World) (B G : Nat) (v : Value) (T : List Nd) (us : List Value) (ht : TwT B w G T us) (h : Trd w v T) (hl : T.length ≤ 1048576) (hu : ∀ n ∈ T, n.un.length ≤ 1048576) :
    Calls Tryz.prog 18 #[.agg #[.slice (some ⟨G, 0, none⟩) T.length (T.length + 2)], .agg #[v]] w fun e w' => e = .returned (.bool true) ∧ Below w.heap.size w w' := by
  obtain ⟨a, c, rfl⟩ := h.slice
  obtain ⟨W0, hW0⟩ : ∃ W0, W0 = (w.alloc (.cells #[.slice (some ⟨G, 0, none⟩) T.length (T.length + 2)] 24)).alloc (.cells #[.slice a T.length c] 24) := ⟨_, rfl⟩
  have hb0 : Below w.heap.size w W0 := by rw [hW0]; exact (bwA _ _).alloc (by simp) _
  have K := hide (leftNodes_any W0 B G _ T us (ht.bw hb0) (h.bw hb0) hl hu)
  have HW : Hid (W0 = (w.alloc (.cells #[.slice (some ⟨G, 0, none⟩) T.length (T.length + 2)] 24)).alloc (.cells #[.slice a T.length c] 24)) := hW0
  clear hW0 ht h hl hu
  generalize T.length = N at *
  go_enter Tryz.func18, Tryz.ntmps18
  go_wp2_with fail
  rw [← unhide HW]
  refine (unhide K).mono ?_
  rintro x w1 ⟨rfl, b1⟩
  go_wp2
  go_ret
  exact ⟨rfl, bw_tr hb0 b1⟩
end Go.Proofs.YtaanacnloljlmaaGreatDoor
