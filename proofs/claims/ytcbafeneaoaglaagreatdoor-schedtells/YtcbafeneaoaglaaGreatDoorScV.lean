/- The document's Context, the walk. -/
import Derived.Test.YtcbafeneaoaglaaGreatDoorZ22
namespace Go.Proofs.YtcbafeneaoaglaaGreatDoor.Tn
open Go.RowKit Go.Maps

theorem heldB_eq (L : List Tm) (T : List Nd) : heldB L T = (mayB T && pubsB L T) := rfl
theorem leaf_un {T : List Nd} (h : mayB T = true) {x : Nat} (hx : x % 2 = 0) : (ndAt T x).un = [] := by
  rcases ndM_un (ndM_all h x) with c | ⟨c, _⟩
  · exact c
  · omega

set_option maxRecDepth 100000 in
set_option maxHeartbeats 8000000 in
theorem rcontext_any {b : Nat} {sv : Value} {L : List Tm} {w : World} (h : Rs w b sv L) (g e : Int) (hg : -9223372036854775808 ≤ g ∧ g ≤ 9223372036854775807) (he : -9223372036854775808 ≤ e ∧ e ≤ 9223372036854775807) (v : Value) (T : List Nd) (ht : Tfix (fun W => Fr (rfoot b sv) w W) v T) (hd : Trd w v T) (hr : Trng T) (hl : L.length + 400 ≤ 1048576) :
    Calls Tryz.prog 10 #[.pointer (some ⟨b, 0, none⟩), .int .i64 g, .int .i64 e, .agg #[v]] w fun e_ w' => e_ = .returned (.tuple #[.int .i64 (cxN L g e T : Nat), .int .i64 (cxE L T)]) ∧ ∃ sv', RStep w w' b sv sv' (cxL L g e T) := by
  obtain ⟨a, c, rfl⟩ := ht.slice
  obtain ⟨w0, hw0⟩ : ∃ w0, w0 = w.alloc (.cells #[.slice a T.length c] 25) := ⟨_, rfl⟩
  have x0 : Below w.heap.size w w0 := by rw [hw0]; exact bwA' _ _
  have k0 : w0.heap[w.heap.size]? = some (.cells #[.slice a T.length c] 25 (0, 0)) := by rw [hw0]; exact heap_alloc_new _ _
  have S0 : Hid (RStep w w0 b sv sv L) := RStep.same h x0
  have KC := rcheck_any (hd.bw x0)
  have KHe : ∀ W, Below w0.heap.size w0 W → Calls Tryz.prog 34 #[.pointer (some ⟨b, 0, none⟩), .agg #[.slice a T.length c]] W fun e w' => e = .returned (.bool (pubsB L T)) ∧ Below W.heap.size W w' := fun W hW => q9held_any ((unhide S0).st.bw hW) _ T (hd.bw (bw_tr x0 hW))
  obtain ⟨N, hN⟩ : ∃ N, N = T.length := ⟨_, rfl⟩
  rw [← hN] at KC k0 hw0 KHe ⊢
  have HW := hide hw0
  have YY : Hid (∀ W, Below w0.heap.size w0 W → W.heap[w.heap.size]? = some (.cells #[.slice a N c] 25 (0, 0)) ∧ RStep w W b sv sv L) := fun W hW => ⟨kept_blk k0 hW, (unhide S0).after hW⟩
  unfold cxN cxL cxE
  rw [heldB_eq]
  cases hm : mayB T
  · rw [hm] at KC
    have HC := hide KC
    have c0 := blk_cell (i := 0) k0 rfl
    simp only [Bool.false_and, Bool.false_eq_true, if_false]
    clear h ht hd hr hl hw0 x0 k0 KC KHe hN hg he hm
    go_enter Tryz.func10, Tryz.ntmps10
    go_upto_region 1 with fail
    rw [← unhide HW]
    go_wp2_with fail
    refine (unhide HC).mono ?_
    rintro e_ z1 ⟨rfl, y⟩
    have S1 := hide (unhide YY _ y).2
    clear y HC HW
    go_wp2
    go_ret2
    exact ⟨rfl, sv, unhide S1⟩
  rw [hm] at KC
  have HC := hide KC
  have HHe := hide KHe
  cases hp : pubsB L T
  · rw [hp] at HHe
    have c0 := blk_cell (i := 0) k0 rfl
    simp only [Bool.true_and, Bool.false_eq_true, if_false]
    clear h ht hd hr hl hw0 x0 k0 KC KHe hN hg he hm hp
    go_enter Tryz.func10, Tryz.ntmps10
    go_upto_region 1 with fail
    rw [← unhide HW]
    go_wp2_with fail
    refine (unhide HC).mono ?_
    rintro e_ z1 ⟨rfl, y⟩
    have c1 := blk_cell (i := 0) (unhide YY _ y).1 rfl
    have KH := hide (unhide HHe _ y)
    have B1 := hide y
    clear y HC HW HHe c0
    go_wp2_with fail
    refine (unhide KH).mono ?_
    rintro e_ z2 ⟨rfl, y⟩
    have S1 := hide (unhide YY _ (bw_tr (unhide B1) y)).2
    clear y KH
    go_wp2
    go_ret2
    exact ⟨rfl, sv, unhide S1⟩
  rw [hp] at HHe
  have hheld : heldB L T = true := by rw [heldB_eq, hm, hp]; rfl
  obtain ⟨tb, hx⟩ := held_tb hheld hr
  obtain ⟨q1, q2, q3, q4⟩ := pub_ok (g := g) (e := e) tb hx hl
  simp only [Bool.true_and, if_true]
  obtain ⟨P0, hP0⟩ : ∃ P0, P0 = dats (L, []) [g, e] := ⟨_, rfl⟩
  have hP0l := dats_len [g, e] (L, [])
  rw [← hP0] at hP0l
  simp only [List.length_cons, List.length_nil] at hP0l
  have HPP : Hid (pubP L g e T = pubK T P0 T.length) := by unfold Hid pubP; rw [hP0]
  have KO : Hid (∀ W sv1 L1 z, RStep w W b sv sv1 L1 → (-9223372036854775808 ≤ z ∧ z ≤ 9223372036854775807) → L1.length < 1048576 → Calls Tryz.prog 35 #[.pointer (some ⟨b, 0, none⟩), .int .i64 z] W fun e w' => e = .returned (.int .i64 (mkN L1 ⟨2, z, 0, 0⟩ : Nat)) ∧ ∃ sv2, RStep W w' b sv1 sv2 (mkL L1 ⟨2, z, 0, 0⟩)) := fun W sv1 L1 z s hz hl => rone_any s.st z hz hl
  have HPc : Hid (P0.1 = mkL (mkL L ⟨2, g, 0, 0⟩) ⟨2, e, 0, 0⟩ ∧ P0.2 = [mkN L ⟨2, g, 0, 0⟩, mkN (mkL L ⟨2, g, 0, 0⟩) ⟨2, e, 0, 0⟩]) := by rw [hP0]; exact ⟨rfl, rfl⟩
  have HH := hide (And.intro ht (And.intro tb (And.intro hl (And.intro hP0l (And.intro hr hm)))))
  have HG := hide (And.intro hg he)
  have HQ := hide (And.intro q1 (And.intro q2 (And.intro q3 q4)))
  have HN := hide hN
  have hNb : N ≤ 15 := by have := tb.len; omega
  have c0 := blk_cell (i := 0) k0 rfl
  clear h ht hd hr hl hw0 x0 k0 KC KHe hN hg he hm hp hheld tb hx q1 q2 q3 q4 hP0 hP0l
  go_enter Tryz.func10, Tryz.ntmps10
  go_upto_region 1 with fail
  rw [← unhide HW]
  go_wp2_with fail
  refine (unhide HC).mono ?_
  rintro e_ z1 ⟨rfl, y⟩
  have c1 := blk_cell (i := 0) (unhide YY _ y).1 rfl
  have KH := hide (unhide HHe _ y)
  have B1 := hide y
  clear y HC HW HHe c0
  go_wp2_with fail
  refine (unhide KH).mono ?_
  rintro e_ z2 ⟨rfl, y⟩
  obtain ⟨k2, s2⟩ := unhide YY _ (bw_tr (unhide B1) y)
  have S2 := hide s2
  have K1 := hide (unhide KO z2 sv L g s2 (unhide HG).1 (by have := (unhide HH).2.2.1; omega))
  clear y KH s2 YY S0 c1 B1
  go_wp2_with fail
  refine (unhide K1).mono ?_
  rintro e_ z3 ⟨rfl, sv3, s3⟩
  have k3 := kept_rfr k2 (unhide S2).st s3.fr (by decide) (by decide)
  have S3 := hide ((unhide S2).trans s3)
  have K2 := hide (unhide KO z3 sv3 _ e (unhide S3) (unhide HG).2 (by have := (unhide HH).2.2.1; have := mkL_len L ⟨2, g, 0, 0⟩; omega))
  clear s3 k2 S2 K1
  obtain ⟨nn1, hnn1⟩ : ∃ n : Nat, n = mkN L ⟨2, g, 0, 0⟩ := ⟨_, rfl⟩
  rw [← hnn1]
  have HNN1 := hide hnn1
  clear hnn1
  go_wp2_with fail
  refine (unhide K2).mono ?_
  rintro e_ z4 ⟨rfl, sv4, s4⟩
  have k4 := kept_rfr k3 (unhide S3).st s4.fr (by decide) (by decide)
  have S4 := hide ((unhide S3).trans s4)
  clear s4 k3 S3 K2
  obtain ⟨nn2, hnn2⟩ : ∃ n : Nat, n = mkN (mkL L ⟨2, g, 0, 0⟩) ⟨2, e, 0, 0⟩ := ⟨_, rfl⟩
  rw [← hnn2]
  rw [← (unhide HPc).1] at S4
  have HP2 : Hid (P0.2 = [nn1, nn2]) := by unfold Hid; rw [(unhide HPc).2, unhide HNN1, hnn2]
  obtain ⟨W5, hW5⟩ : ∃ W5, W5 = z4.alloc (.cells #[.int .i64 (nn1 : Int), .int .i64 (nn2 : Int)] 3) := ⟨_, rfl⟩
  have R5 : Hid (RC w W5 b sv sv4 P0.1 (.slice (some ⟨z4.heap.size, 0, none⟩) 2 2) P0.2) := by
    rw [hW5, unhide HP2]
    exact ⟨(unhide S4).after (bwA' _ _), nrow_two z4 nn1 nn2 (unhide S4).fr.size⟩
  have k5 : W5.heap[w.heap.size]? = some (.cells #[.slice a N c] 25 (0, 0)) := by rw [hW5]; exact blk_before k4
  have HW5 := hide hW5
  clear HNN1 hnn2 hW5 S4 k4 HPc
  go_upto_region 4 with fail
  rw [← unhide HW5]
  obtain ⟨lv5, hlv5⟩ : ∃ lv5, lv5 = Value.slice (some ⟨z4.heap.size, 0, none⟩) 2 2 := ⟨_, rfl⟩
  rw [← hlv5] at R5 ⊢
  clear HW5 hlv5
  go_wp2_with fail
  obtain ⟨j0, hj, hy0, hy1, hy2⟩ := info_parts Tryz.infoInt
  go_loopw [10, 11] (fun lv iv wr => ∃ (k : Nat) (sv' : Value), k ≤ N ∧ iv = .int .i64 (k : Int) ∧ Hid (RC w wr b sv sv' (pubK T P0 k).1 lv (pubK T P0 k).2 ∧ wr.heap[w.heap.size]? = some (.cells #[.slice a N c] 25 (0, 0)))) (fun _ iv _ => (N - intOf iv).toNat)
  case atStart => exact ⟨0, sv4, Nat.zero_le _, rfl, ⟨unhide R5, k5⟩⟩
  case round =>
    obtain ⟨k, sv', hk, rfl, HR⟩ := hrel
    have cbx := blk_cell (i := 0) (unhide HR).2 rfl
    by_cases hlt : k < N
    · obtain ⟨ht, tb, hl, hP0l, hrg, hmay⟩ := unhide HH
      have hkT : k < T.length := by rw [← unhide HN]; exact hlt
      obtain ⟨gb, o, rfl, u, hC, hU⟩ : ∃ gb o, a = some ⟨gb, o, none⟩ ∧ ∃ u, NdC wr gb (o + k * 4) (ndAt T k) u ∧ ∀ W, Fr (rfoot b sv) w W → Nums W u (ndAt T k).un := by
        rcases ht with ⟨rfl, _⟩ | ⟨gb, o, c', us, e, hh⟩
        · simp at hkT
        · cases e
          exact ⟨gb, o, rfl, us k, (hh wr (unhide HR).1.s.fr k hkT).1, fun W hW => (hh W hW k hkT).2⟩
      have hm := ndAt_mem hkT
      have hbu := tb.un _ hm
      have hbp := tb.pub _ hm
      have hbr := tb.rng _ hm
      have hlen := pubK_len T tb.un P0 k (by omega)
      have hq := pubK_succ T P0 k
      have hlf : k % 2 = 0 → (ndAt T k).un = [] := fun hx => leaf_un hmay hx
      obtain ⟨Q, hQ⟩ : ∃ Q, Q = pubK T P0 k := ⟨_, rfl⟩
      rw [← hQ] at HR hlen hq
      obtain ⟨⟨pub, mem, ep, un⟩, hn⟩ : ∃ n, n = ndAt T k := ⟨_, rfl⟩
      rw [← hn] at hC hU hbu hbp hbr hq hlf
      obtain ⟨ua, uc, rfl⟩ := nums_slice (hU w (Fr.refl _ _))
      simp only at hC hU hbu hbp hbr hq hlf
      obtain ⟨cc0, cc1, cc2, cc3⟩ := hC
      simp only at cc0 cc1 cc2 cc3
      obtain ⟨UL, hUL⟩ : ∃ UL, UL = un.length := ⟨_, rfl⟩
      rw [← hUL] at cc3 hU hbu
      have hlQ : Q.1.length + 20 ≤ 1048576 ∧ Q.2.length ≤ 900 := by omega
      by_cases hp0 : pub = 0
      · subst hp0
        have D2' : Hid (∀ ob, RC w (wr.alloc ob) b sv sv' (pubK T P0 (k + 1)).1 u10 (pubK T P0 (k + 1)).2 ∧ (wr.alloc ob).heap[w.heap.size]? = some (.cells #[.slice (some ⟨gb, o, none⟩) N c] 25 (0, 0))) := fun ob => by
          rw [hq, if_pos rfl]
          exact ⟨(unhide HR).1.bw (bwA' _ _), blk_before (unhide HR).2⟩
        clear ht tb hl hP0l hrg hmay hm hbu hbp hbr hlen hq hQ hn hU hUL HR hkT hlf hlQ
        go_wp2_with fail
        go_roundw
        case rel => exact ⟨k + 1, sv', by omega, by go_num, unhide D2' _⟩
        case measure => simp only [intOf]; omega
      · have z1 : (pub == 0) = false := by simpa using hp0
        have z2 : decide (pub = 0) = false := by simpa using hp0
        obtain ⟨pn, rfl⟩ : ∃ pn : Nat, pub = (pn : Int) := ⟨pub.toNat, by omega⟩
        rw [if_neg hp0] at hq
        obtain ⟨W, hWe⟩ : ∃ W, W = wr.alloc (.cells #[.int .i64 (pn : Int), .int .i64 mem, .int .i64 ep, .slice ua UL uc] 62) := ⟨_, rfl⟩
        obtain ⟨nb, hnb⟩ : ∃ nb, nb = wr.heap.size := ⟨_, rfl⟩
        have hbN : W.heap[nb]? = some (.cells #[.int .i64 (pn : Int), .int .i64 mem, .int .i64 ep, .slice ua UL uc] 62 (0, 0)) := by rw [hWe, hnb]; exact heap_alloc_new _ _
        have hbT : W.heap[w.heap.size]? = some (.cells #[.slice (some ⟨gb, o, none⟩) N c] 25 (0, 0)) := by rw [hWe]; exact blk_before (unhide HR).2
        have R0 : Hid (RC w W b sv sv' Q.1 u10 Q.2) := by rw [hWe]; exact (unhide HR).1.bw (bwA' _ _)
        obtain ⟨P1, hP1⟩ : ∃ P1, P1 = nodP Q k pn := ⟨_, rfl⟩
        have hP1l : P1.1.length ≤ Q.1.length + 1 ∧ Q.1.length ≤ P1.1.length ∧ P1.2.length = Q.2.length + 2 := by
          have := dat_len Q (k : Int)
          rw [hP1]; unfold nodP
          simp only [List.length_append, List.length_cons, List.length_nil]
          omega
        have HNX : Hid (pubK T P0 (k + 1) = dats P1 (if k % 2 = 0 then [mem, ep] else un)) := by unfold Hid; rw [hq]; unfold nod; rw [hP1]; simp
        have HP1 : Hid (P1.1 = mkL Q.1 ⟨2, (k : Int), 0, 0⟩ ∧ P1.2 = Q.2 ++ [mkN Q.1 ⟨2, (k : Int), 0, 0⟩, pn]) := by rw [hP1]; unfold nodP dat; simp [Hid]
        have HB := hide (And.intro hbN hbT)
        have HWe := hide hWe
        have HNB := hide hnb
        have HU := hide (And.intro hU (And.intro hbr (And.intro hlf hUL)))
        have HL := hide (And.intro hlQ hP1l)
        have HUL8 : Hid (UL ≤ 8) := hbu
        clear ht tb hl hP0l hrg hmay hm hbu hbp hbr hlen hq hQ hn hU hUL HR hkT hlf hlQ hp0 hP1 hP1l hWe hnb hbN hbT
        go_upto_region 9 with fail
        rw [← unhide HWe, ← unhide HNB]
        clear HWe HNB cc0 cc1 cc2 cc3
        have bD : Below W.heap.size W W.drew := (Below.refl _ _).drew
        have RD := hide ((unhide R0).bw bD)
        have K1 := hide (unhide KO W.drew sv' Q.1 (k : Int) (unhide RD).s (by omega) (by have := (unhide HL).1.1; omega))
        obtain ⟨n', hn'⟩ : ∃ n' : Nat, n' = mkN Q.1 ⟨2, (k : Int), 0, 0⟩ := ⟨_, rfl⟩
        rw [← hn'] at K1 HP1
        obtain ⟨A2, hA2⟩ : ∃ A2, A2 = Q.2.length := ⟨_, rfl⟩
        have hal : A2 ≤ 900 := by have := (unhide HL).1.2; omega
        have HA := hide hA2
        have hmx : A2 + 2 ≤ maxLen ∧ (A2 + 2) * 8 ≤ 140737488355328 := by unfold maxLen; omega
        have HMX := hide hmx
        have d0 : W.drew.cell? ⟨nb, 0, none⟩ = some (.int .i64 (pn : Int)) := blk_cell (kept_blk (unhide HB).1 bD) rfl
        have HSt : Hid (∀ z sv2, RStep W.drew z b sv' sv2 (mkL Q.1 ⟨2, (k : Int), 0, 0⟩) → RC w z b sv sv2 P1.1 u10 Q.2 ∧ z.heap[nb]? = some (.cells #[.int .i64 (pn : Int), .int .i64 mem, .int .i64 ep, .slice ua UL uc] 62 (0, 0)) ∧ z.heap[w.heap.size]? = some (.cells #[.slice (some ⟨gb, o, none⟩) N c] 25 (0, 0))) := fun z sv2 s => by
          refine ⟨?_, kept_rfr (kept_blk (unhide HB).1 bD) (unhide RD).s.st s.fr (by decide) (by decide), kept_rfr (kept_blk (unhide HB).2 bD) (unhide RD).s.st s.fr (by decide) (by decide)⟩
          rw [(unhide HP1).1]
          exact (unhide RD).step s
        have one2 : ∀ u ∈ [Value.int .i64 (n' : Int), Value.int .i64 (pn : Int)], u.oneCell' = true := by intro u hu; simp at hu; rcases hu with rfl | rfl <;> rfl
        clear hn' hA2 hmx
        go_cut [10] from 47 to 54 (fun s10 wx => Hid (∃ sv2, RC w wx b sv sv2 P1.1 s10 P1.2 ∧ wx.heap[nb]? = some (.cells #[.int .i64 (pn : Int), .int .i64 mem, .int .i64 ep, .slice ua UL uc] 62 (0, 0)) ∧ wx.heap[w.heap.size]? = some (.cells #[.slice (some ⟨gb, o, none⟩) N c] 25 (0, 0))))
        case first =>
          go_region_law (first
            | (refine step_append_own rfl (.tmp 47) (.tmp 53) 55 rfl w.heap.size 3 j0 (.int .i64 0) 1 8 Tryz.underlying55 hj hy0 hy1 hy2 rfl (by decide) u10 A2 (Q.2.map (fun m => .int .i64 ((m : Nat) : Int))) (by simp [Act.eval]) (World.ownsRow.alloc hrow _) ⟨zz.heap.size, 0, none⟩ 2 2 [.int .i64 (n' : Int), .int .i64 (pn : Int)] (by simp [Act.eval]) rfl (cells_two _ _ _ _) one2 (unhide HMX).1 (unhide HMX).2 hbase ?_; intro v' w5 hown' hgrow hat)
            | (go_simp; go_wp2_with (first | (go_at_call 35; refine (unhide K1).mono ?_; rintro e_ zz ⟨rfl, sv2, s2⟩; have hst := unhide HSt zz sv2 s2; have d1 := blk_cell (i := 0) hst.2.1 rfl; have hrow : zz.ownsRow w.heap.size 3 1 u10 A2 (Q.2.map (fun m => .int .i64 ((m : Nat) : Int))) := (by rw [unhide HA]; exact hst.1.r); have hbase : w.heap.size ≤ (zz.alloc (.cells #[.int .i64 (n' : Int), .int .i64 (pn : Int)] 3)).heap.size := (by have := hst.1.s.fr.size; simp; omega))))
            | fail)
          all_goals
            go_wp2_with fail
            go_meet
            case rel =>
              refine ⟨sv2, ?_, hst.1.keepG hgrow hst.2.1 (by decide), hst.1.keepG hgrow hst.2.2 (by decide)⟩
              refine hst.1.grown ?_ hgrow
              rw [(unhide HP1).2]
              rw [unhide HA] at hown'
              unfold NRow; simpa using hown'
        case rest =>
        rename World => W6
        obtain ⟨sv6, r6, kn6, kt6⟩ := unhide hcut
        have R6 := hide r6
        have HB6 := hide (And.intro kn6 kt6)
        clear hcut r6 kn6 kt6 RD K1 HA HMX d0 HSt one2 bD R0 HB hal
        have f0 := blk_cell (i := 1) (unhide HB6).1 rfl
        by_cases hpar : k % 2 = 0
        · have r1 : Int.tmod (k : Int) 2 = 0 := by rw [Int.tmod_eq_emod_of_nonneg (by omega)]; omega
          have hun : un = [] := (unhide HU).2.2.1 hpar
          have hul0 : UL = 0 := by rw [(unhide HU).2.2.2, hun]; rfl
          subst hul0
          have HNX2 : Hid (pubK T P0 (k + 1) = dats P1 [mem, ep]) := by unfold Hid; rw [unhide HNX, if_pos hpar]
          clear hun hpar HNX f0
          go_upto_region 11 with fail
          have bD : Below W6.heap.size W6 W6.drew := (Below.refl _ _).drew
          have RD := hide ((unhide R6).bw bD)
          have K1 := hide (unhide KO W6.drew sv6 P1.1 mem (unhide RD).s (unhide HU).2.1.2.1 (by have := unhide HL; omega))
          obtain ⟨n1, hn1⟩ : ∃ n1 : Nat, n1 = mkN P1.1 ⟨2, mem, 0, 0⟩ := ⟨_, rfl⟩
          obtain ⟨M1, hM1⟩ : ∃ M1, M1 = mkL P1.1 ⟨2, mem, 0, 0⟩ := ⟨_, rfl⟩
          rw [← hn1, ← hM1] at K1
          have hM1l := mkL_len P1.1 ⟨2, mem, 0, 0⟩
          rw [← hM1] at hM1l
          obtain ⟨n2, hn2⟩ : ∃ n2 : Nat, n2 = mkN M1 ⟨2, ep, 0, 0⟩ := ⟨_, rfl⟩
          obtain ⟨P2, hP2⟩ : ∃ P2, P2 = dats P1 [mem, ep] := ⟨_, rfl⟩
          have HP2e : Hid (P2.1 = mkL M1 ⟨2, ep, 0, 0⟩ ∧ P2.2 = P1.2 ++ [n1, n2]) := by rw [hP2, hn2, hn1, hM1]; exact ⟨rfl, by simp [dats, dat]⟩
          rw [← hP2] at HNX2
          have HSt : Hid (∀ z sv2, RStep W6.drew z b sv6 sv2 M1 → RC w z b sv sv2 M1 u10 P1.2 ∧ z.heap[nb]? = some (.cells #[.int .i64 (pn : Int), .int .i64 mem, .int .i64 ep, .slice ua 0 uc] 62 (0, 0)) ∧ z.heap[w.heap.size]? = some (.cells #[.slice (some ⟨gb, o, none⟩) N c] 25 (0, 0)) ∧ Calls Tryz.prog 35 #[.pointer (some ⟨b, 0, none⟩), .int .i64 ep] z fun e w' => e = .returned (.int .i64 (n2 : Nat)) ∧ ∃ sv3, RStep z w' b sv2 sv3 P2.1) := fun z sv2 s => by
            have h1 := (unhide RD).step s
            refine ⟨h1, kept_rfr (kept_blk (unhide HB6).1 bD) (unhide RD).s.st s.fr (by decide) (by decide), kept_rfr (kept_blk (unhide HB6).2 bD) (unhide RD).s.st s.fr (by decide) (by decide), ?_⟩
            have := unhide KO z sv2 M1 ep h1.s (unhide HU).2.1.2.2 (by have := unhide HL; omega)
            rw [← hn2, ← (unhide HP2e).1] at this
            exact this
          obtain ⟨A2, hA2⟩ : ∃ A2, A2 = P1.2.length := ⟨_, rfl⟩
          have hal : A2 ≤ 902 := by have := unhide HL; omega
          have HA := hide hA2
          have hmx : A2 + 2 ≤ maxLen ∧ (A2 + 2) * 8 ≤ 140737488355328 := by unfold maxLen; omega
          have HMX := hide hmx
          have d1 : W6.drew.cell? ⟨nb, 1, none⟩ = some (.int .i64 mem) := blk_cell (kept_blk (unhide HB6).1 bD) rfl
          have d2 : W6.drew.cell? ⟨nb, 2, none⟩ = some (.int .i64 ep) := blk_cell (kept_blk (unhide HB6).1 bD) rfl
          have one2 : ∀ u ∈ [Value.int .i64 (n1 : Int), Value.int .i64 (n2 : Int)], u.oneCell' = true := by intro u hu; simp at hu; rcases hu with rfl | rfl <;> rfl
          clear hn1 hn2 hM1 hM1l hP2 hA2 hmx
          go_cut [10] from 58 to 68 (fun s10 wx => Hid (∃ sv2, RC w wx b sv sv2 P2.1 s10 P2.2 ∧ wx.heap[nb]? = some (.cells #[.int .i64 (pn : Int), .int .i64 mem, .int .i64 ep, .slice ua 0 uc] 62 (0, 0)) ∧ wx.heap[w.heap.size]? = some (.cells #[.slice (some ⟨gb, o, none⟩) N c] 25 (0, 0))))
          case first =>
            go_region_law (first
              | (refine step_append_own rfl (.tmp 58) (.tmp 67) 55 rfl w.heap.size 3 j0 (.int .i64 0) 1 8 Tryz.underlying55 hj hy0 hy1 hy2 rfl (by decide) u10 A2 (P1.2.map (fun m => .int .i64 ((m : Nat) : Int))) (by simp [Act.eval]) (World.ownsRow.alloc hrow _) ⟨zz.heap.size, 0, none⟩ 2 2 [.int .i64 (n1 : Int), .int .i64 (n2 : Int)] (by simp [Act.eval]) rfl (cells_two _ _ _ _) one2 (unhide HMX).1 (unhide HMX).2 hbase ?_; intro v' w5 hown' hgrow hat)
              | (go_simp; go_wp2_with (first
                  | (go_at_call 35; with_reducible refine (unhide K1).mono ?_; rintro e_ z9 ⟨rfl, sv9, s9⟩; have hs9 := unhide HSt z9 sv9 s9; have d3 := blk_cell (i := 2) hs9.2.1 rfl; have K2 := hide hs9.2.2.2)
                  | (go_at_call 35; refine (unhide K2).mono ?_; rintro e_ zz ⟨rfl, sv2, s2⟩; have hst := hs9.1.step s2; have kk1 := kept_rfr hs9.2.1 hs9.1.s.st s2.fr (by decide) (by decide); have kk2 := kept_rfr hs9.2.2.1 hs9.1.s.st s2.fr (by decide) (by decide); have hrow : zz.ownsRow w.heap.size 3 1 u10 A2 (P1.2.map (fun m => .int .i64 ((m : Nat) : Int))) := (by rw [unhide HA]; exact hst.r); have hbase : w.heap.size ≤ (zz.alloc (.cells #[.int .i64 (n1 : Int), .int .i64 (n2 : Int)] 3)).heap.size := (by have := hst.s.fr.size; simp; omega))))
              | fail)
            all_goals
              go_wp2_with fail
              go_meet
              case rel =>
                refine ⟨sv2, ?_, hst.keepG hgrow kk1 (by decide), hst.keepG hgrow kk2 (by decide)⟩
                refine hst.grown ?_ hgrow
                rw [(unhide HP2e).2]
                rw [unhide HA] at hown'
                unfold NRow; simpa using hown'
          case rest =>
          rename World => W7
          obtain ⟨sv7, r7, kn7, kt7⟩ := unhide hcut
          have R7 : Hid (RC w W7 b sv sv7 (pubK T P0 (k + 1)).1 u10 (pubK T P0 (k + 1)).2 ∧ W7.heap[w.heap.size]? = some (.cells #[.slice (some ⟨gb, o, none⟩) N c] 25 (0, 0))) := by unfold Hid; rw [unhide HNX2]; exact ⟨r7, kt7⟩
          have g3 := blk_cell (i := 3) kn7 rfl
          clear hcut r7 kn7 kt7 RD K1 HA HMX d1 d2 HSt one2 bD R6 HB6 hal HNX2 HP2e
          go_wp2_with fail
          refine wp_loop_rounds 1 ?_
          rw [rounds_succ]
          go_wp2_with fail
          go_roundw
          case rel => exact ⟨k + 1, sv7, by omega, by go_num, R7⟩
          case measure => simp only [intOf]; omega
        · have r1 : Int.tmod (k : Int) 2 = 1 := by rw [Int.tmod_eq_emod_of_nonneg (by omega)]; omega
          have HNX2 : Hid (pubK T P0 (k + 1) = dats P1 un) := by unfold Hid; rw [unhide HNX, if_neg hpar]
          clear hpar HNX f0
          have hulb : (UL : Int) ≤ 8 := by have := unhide HUL8; omega
          go_wp2_with fail
          go_loopw [10, 13] (fun lv iv wq => ∃ (j : Nat) (sv2 : Value), j ≤ UL ∧ iv = .int .i64 (j : Int) ∧ Hid (RC w wq b sv sv2 (dats P1 (un.take j)).1 lv (dats P1 (un.take j)).2 ∧ wq.heap[nb]? = some (.cells #[.int .i64 (pn : Int), .int .i64 mem, .int .i64 ep, .slice ua UL uc] 62 (0, 0)) ∧ wq.heap[w.heap.size]? = some (.cells #[.slice (some ⟨gb, o, none⟩) N c] 25 (0, 0)))) (fun _ iv _ => (UL - intOf iv).toNat)
          case atStart => exact ⟨0, sv6, Nat.zero_le _, rfl, ⟨unhide R6, unhide HB6⟩⟩
          case round =>
            obtain ⟨j, sv2, hj2, rfl, HR2⟩ := hrel
            obtain ⟨rc, kn, kt⟩ := unhide HR2
            have e3 := blk_cell (i := 3) kn rfl
            by_cases hlt2 : j < UL
            · obtain ⟨z, hzj⟩ : ∃ z, un[j]? = some z := ⟨_, List.getElem?_eq_getElem (by rw [← (unhide HU).2.2.2]; exact hlt2)⟩
              have hzb := (unhide HU).2.1.1 z (List.mem_of_getElem? hzj)
              obtain ⟨g2, o2, rfl, cz⟩ : ∃ g2 o2, ua = some ⟨g2, o2, none⟩ ∧ wr.cell? ⟨g2, o2 + j, none⟩ = some (.int .i64 z) := by
                have hnw := (unhide HU).1 wr rc.s.fr
                obtain ⟨g2, o2, cap', hv, hc⟩ := hnw.open (by have := (unhide HU).2.2.2; omega)
                cases hv
                exact ⟨g2, o2, rfl, hc j z hzj⟩
              have hd := dats_len (un.take j) P1
              rw [List.length_take] at hd
              obtain ⟨P, hP⟩ : ∃ P, P = dats P1 (un.take j) := ⟨_, rfl⟩
              have hP2 : dats P1 (un.take (j + 1)) = dat P z := by rw [hP]; exact dats_snoc _ _ _ _ hzj
              rw [← hP] at rc hd
              have hl1 : P.1.length < 1048576 := by have := unhide HL; have := unhide HUL8; omega
              have KM := hide (unhide KO wr sv2 P.1 z rc.s hzb hl1)
              obtain ⟨n', hn'⟩ : ∃ n' : Nat, n' = mkN P.1 ⟨2, z, 0, 0⟩ := ⟨_, rfl⟩
              rw [← hn'] at KM
              have hal : P.2.length ≤ 1100 := by have := unhide HL; have := unhide HUL8; omega
              have HD : Hid (∀ W' sv3, RStep wr W' b sv2 sv3 (mkL P.1 ⟨2, z, 0, 0⟩) → RC w W' b sv sv3 (dat P z).1 u10 P.2 ∧ W'.heap[nb]? = some (.cells #[.int .i64 (pn : Int), .int .i64 mem, .int .i64 ep, .slice (some ⟨g2, o2, none⟩) UL uc] 62 (0, 0)) ∧ W'.heap[w.heap.size]? = some (.cells #[.slice (some ⟨gb, o, none⟩) N c] 25 (0, 0))) := fun W' sv3 s => ⟨rc.step s, kept_rfr kn rc.s.st s.fr (by decide) (by decide), kept_rfr kt rc.s.st s.fr (by decide) (by decide)⟩
              have HX := hide (And.intro hn' hP2)
              clear hzb hzj hP hd hl1 hP2 hn' HR2 rc kn kt
              obtain ⟨A2, hA2⟩ : ∃ A2, A2 = P.2.length := ⟨_, rfl⟩
              rw [← hA2] at hal
              have HA := hide hA2
              clear hA2
              go_wp2_with fail
              refine (unhide KM).mono ?_
              rintro e_ w4 ⟨rfl, sv3, s3⟩
              have D4 := hide (unhide HD w4 sv3 s3)
              have h4 := (unhide D4).1.s.fr.size
              have hrow : w4.ownsRow w.heap.size 3 1 u10 A2 (P.2.map (fun m => .int .i64 ((m : Nat) : Int))) := by rw [unhide HA]; exact (unhide D4).1.r
              clear KM s3 HD
              go_wp2_with (at_builtin; refine wpList_append_own_at _ rfl (.tmp 76) (.tmp 84) 55 rfl w.heap.size 3 j0 (.int .i64 0) 1 8 Tryz.underlying55 hj hy0 hy1 hy2 rfl (by decide) _ A2 _ rfl (World.ownsRow.alloc hrow _) ⟨w4.heap.size, 0, none⟩ 1 1 [_] rfl rfl (cell_one_new _ _ _) ?c2 ?c3 ?c4 ?c5 ?nx)
              case c2 => intro u hu; simp at hu; subst hu; rfl
              case c3 => unfold maxLen; omega
              case c4 => omega
              case c5 => simp; omega
              case nx =>
                intro v' w5 hown' hgrow _ hpl
                have hn5 : NRow w.heap.size w5 v' (P.2 ++ [n']) := by
                  rw [unhide HA] at hown'
                  unfold NRow; simpa using hown'
                have D5 : Hid (RC w w5 b sv sv3 (dats P1 (un.take (j + 1))).1 v' (dats P1 (un.take (j + 1))).2 ∧ w5.heap[nb]? = some (.cells #[.int .i64 (pn : Int), .int .i64 mem, .int .i64 ep, .slice (some ⟨g2, o2, none⟩) UL uc] 62 (0, 0)) ∧ w5.heap[w.heap.size]? = some (.cells #[.slice (some ⟨gb, o, none⟩) N c] 25 (0, 0))) := by
                  have e9 : (dat P z).2 = P.2 ++ [n'] := by rw [(unhide HX).1]; rfl
                  unfold Hid; rw [(unhide HX).2, e9]
                  exact ⟨(unhide D4).1.grown hn5 hgrow, (unhide D4).1.keepG hgrow (unhide D4).2.1 (by decide), (unhide D4).1.keepG hgrow (unhide D4).2.2 (by decide)⟩
                clear hown' hgrow hn5 hpl D4 hrow
                go_wp2_with fail
                go_roundw
                case rel => exact ⟨j + 1, sv3, by omega, by go_num, D5⟩
                case measure => simp only [intOf]; omega
            · have e9 : j = UL := by omega
              subst e9
              have R7 : Hid (RC w wr b sv sv2 (pubK T P0 (k + 1)).1 u10 (pubK T P0 (k + 1)).2 ∧ wr.heap[w.heap.size]? = some (.cells #[.slice (some ⟨gb, o, none⟩) N c] 25 (0, 0))) := by
                unfold Hid; rw [unhide HNX2]
                rw [List.take_of_length_le (by rw [← (unhide HU).2.2.2]; exact Nat.le_refl _)] at rc
                exact ⟨rc, kt⟩
              clear hlt2 hj2 rc kn kt HR2
              go_wp2_with fail
              go_roundw
              case rel => exact ⟨k + 1, sv2, by omega, by go_num, R7⟩
              case measure => simp only [intOf]; omega
    · have e9 : k = N := by omega
      subst e9
      clear hlt hk
      have R9 : Hid (RC w wr b sv sv' (pubP L g e T).1 u10 (pubP L g e T).2) := by unfold Hid; rw [unhide HPP, ← unhide HN]; exact (unhide HR).1
      obtain ⟨q1, q2, q3, q4⟩ := unhide HQ
      obtain ⟨PP, hPP⟩ : ∃ PP, PP = pubP L g e T := ⟨_, rfl⟩
      have hcx : ctx L g e T = dig PP.1 PP.2 := by unfold ctx; rw [hPP]
      rw [← hPP] at R9 q1 q2 q3 q4
      have hni := NRow.nis (unhide R9).r (by omega) (fun m hm => by have := q2 m hm; omega)
      have KL := rlist_any b sv' PP.1 u10 (PP.2.map fun (m : Nat) => (m : Int)) wr (unhide R9).s.st hni (fun _ => (unhide R9).r.rfoot (unhide R9).s.st)
      rw [ls_dig q1 q2 q3] at KL
      have KL2 := hide KL
      have hdt := digP_ok q1 q2 q3
      have HDG : Hid (ctx L g e T = (mkL (digP PP.1 PP.2).1 ⟨7, 0, ((digP PP.1 PP.2).2 : Int), 0⟩, mkN (digP PP.1 PP.2).1 ⟨7, 0, ((digP PP.1 PP.2).2 : Int), 0⟩)) := by unfold Hid; rw [hcx]; rfl
      obtain ⟨DP, hDP⟩ : ∃ DP, DP = digP PP.1 PP.2 := ⟨_, rfl⟩
      rw [← hDP] at KL2 HDG hdt
      have KM : Hid (∀ W sv2, RStep wr W b sv' sv2 DP.1 → Calls Tryz.prog 25 #[.pointer (some ⟨b, 0, none⟩), .agg #[.int .u8 7, .int .i64 0, .int .i64 (DP.2 : Int), .int .i64 0]] W fun e w' => e = .returned (.tuple #[.int .i64 (mkN DP.1 ⟨7, 0, (DP.2 : Int), 0⟩ : Nat), .int .i64 0]) ∧ ∃ sv3, RStep wr w' b sv' sv3 (mkL DP.1 ⟨7, 0, (DP.2 : Int), 0⟩)) := fun W sv2 s => by
        refine (rmake_ok s.st 7 0 (DP.2 : Int) 0 (ok_hash (by omega)) (may_hash (thr_iff.2 (by omega))) (by omega)).mono ?_
        rintro e' w' ⟨h1, sv3, s3⟩
        exact ⟨h1, sv3, s.trans s3⟩
      have HR9 := hide (unhide R9).s
      clear R9 q1 q2 q3 q4 hPP hcx hni KL hdt hDP HR
      go_wp2_with fail
      refine (unhide KL2).mono ?_
      rintro e_ x1 ⟨rfl, sv8, s8⟩
      have K9 := hide (unhide KM x1 sv8 s8)
      clear s8 KM KL2
      go_wp2_with fail
      refine (unhide K9).mono ?_
      rintro e_ x2 ⟨rfl, sv9, s9⟩
      have S9 := hide ((unhide HR9).trans s9)
      clear s9 K9 HR9
      go_wp2
      go_ret2
      refine ⟨?_, sv9, ?_⟩
      · rw [unhide HDG]; rfl
      · rw [unhide HDG]; exact unhide S9
end Go.Proofs.YtcbafeneaoaglaaGreatDoor.Tn
