/- RosterCards, the walk. mkRoCards.py writes it. -/
import Derived.Test.YtihniafidgjlcaaGreatDoorRoLc
import Derived.Test.YtihniafidgjlcaaGreatDoorRoBa
import Derived.Test.YtihniafidgjlcaaGreatDoorZ26
import Derived.Test.YtihniafidgjlcaaGreatDoorZ11
import Derived.Test.YtihniafidgjlcaaGreatDoorRoTo
namespace Go.Proofs.YtihniafidgjlcaaGreatDoor.Cd
open Go.RowKit Go.Maps
theorem setRow_new16 (w : World) (cells : Array Value) (t : TypeId) (new : Array Value) : ((w.alloc (.cells cells t)).setRow w.heap.size new).heap[w.heap.size]? = some (.cells new t (0, 0)) := by
  have h := heap_alloc_new w (.cells cells t)
  simp only [World.setRow, Array.getElem?_modify, h]
  simp
theorem setRow_below16 (w : World) (cells : Array Value) (t : TypeId) (new : Array Value) : Below w.heap.size w ((w.alloc (.cells cells t)).setRow w.heap.size new) := by
  have hb : Below w.heap.size w (w.alloc (.cells cells t)) := (Below.refl _ _).alloc (Nat.le_refl _) _
  refine ⟨hb.os, hb.tape, hb.output, by simp [World.setRow], fun k hk => ?_⟩
  rw [← hb.block k hk]
  have hne : ¬ w.heap.size = k := by omega
  simp only [World.setRow, Array.getElem?_modify, if_neg hne]
theorem crd_bnd {l : List Cd} {u : Int} {c : Cd} {ok : Bool} (h : CrdX l u c ok) (hf : ∀ c ∈ l, ∀ z ∈ [c.us, c.ep, c.pb], -9223372036854775808 ≤ z ∧ z ≤ 9223372036854775807) : ∀ z ∈ [c.us, c.ep, c.pb], -9223372036854775808 ≤ z ∧ z ≤ 9223372036854775807 := by
  rcases h with ⟨_, _, rfl⟩ | ⟨_, _, k, hk, _⟩
  · intro z hz
    simp at hz
    subst hz
    omega
  · exact hf c (List.mem_of_getElem? hk)
theorem blk3 {W V : World} {b : Nat} {x y z : Int} {t : TypeId} (h : W.heap[b]? = some (.cells #[.int .i64 x, .int .i64 y, .int .i64 z] t (0, 0))) (hV : Below W.heap.size W V) : V.cell? ⟨b, 0, none⟩ = some (.int .i64 x) ∧ V.cell? ⟨b, 1, none⟩ = some (.int .i64 y) ∧ V.cell? ⟨b, 2, none⟩ = some (.int .i64 z) := by
  have k := kept_b h (lt_of_blk h) hV
  exact ⟨blk_c k rfl, blk_c k rfl, blk_c k rfl⟩
set_option maxRecDepth 100000 in
set_option maxHeartbeats 8000000 in
theorem RosterCards_walk (w : World) (v : Value) (l0 : List (List Int)) (h : RI 3 w v l0) (cu ce cp : Int) (hcb : ∀ z ∈ [cu, ce, cp], -9223372036854775808 ≤ z ∧ z ≤ 9223372036854775807) (user : Int) (hT : Tab w) :
    Calls Tryz.prog 5 #[v, .agg #[.int .i64 cu, .int .i64 ce, .int .i64 cp], .int .i64 user] w fun e w' => e = .returned (.bool true) ∧ Below w.heap.size w w' := by
  obtain ⟨l, rfl⟩ := cc_of (fun x hx => (h.fit x hx).1)
  have hfit : ∀ c ∈ l, ∀ z ∈ [c.us, c.ep, c.pb], -9223372036854775808 ≤ z ∧ z ≤ 9223372036854775807 := fun c hc => (h.fit _ (List.mem_map.2 ⟨c, hc, rfl⟩)).2
  have hlen : l.length ≤ 140737488355328 := by have := h.len; rw [ccR_len] at this; exact this
  obtain ⟨a, cap, rfl⟩ := h.slice
  rw [ccR_len] at h ⊢
  obtain ⟨N, hN⟩ : ∃ N, N = l.length := ⟨_, rfl⟩
  rw [← hN] at h hlen ⊢
  obtain ⟨w0, hw0⟩ : ∃ w0, w0 = w.alloc (.cells #[.int .i64 cu, .int .i64 ce, .int .i64 cp] 44) := ⟨_, rfl⟩
  have hb0 : Below w.heap.size w w0 := by rw [hw0]; exact bwA _ _
  have HC : Hid (∀ W, Below w0.heap.size w0 W → (W.cell? ⟨w.heap.size, 0, none⟩ = some (.int .i64 cu) ∧ W.cell? ⟨w.heap.size, 1, none⟩ = some (.int .i64 ce) ∧ W.cell? ⟨w.heap.size, 2, none⟩ = some (.int .i64 cp)) ∧ Below w.heap.size w W) := fun W hW =>
    ⟨by rw [hw0] at hW; exact blk3 (heap_alloc_new _ _) hW, bw_tr hb0 hW⟩
  have HH : Hid (∀ W, Below w.heap.size w W → RI 3 W (.slice a N cap) (ccR l) ∧ Tab W) := fun W hW => ⟨h.bw hW, hT.bw hW⟩
  have KE : Hid (∀ W, Below w.heap.size w W → Calls Tryz.prog 12 #[] W fun e w' => e = .returned (.bool true) ∧ Below w.heap.size w w') := fun W hW => (alive16_any (hT.bw hW)).mono fun e w' q => ⟨q.1, bw_tr hW q.2⟩
  have KBy := hide (beyond8 w0.heap.size N 1 (w0.alloc (.cells #[.int .i64 (N : Int)] 3)) (by omega) (cell_of_blk (heap_alloc_new w0 _) rfl))
  obtain ⟨w1, hw1⟩ : ∃ z, z = w0.alloc (.cells #[.int .i64 (N : Int)] 3) := ⟨_, rfl⟩
  have b01 : Below w0.heap.size w0 w1 := by rw [hw1]; exact bwA _ _
  rw [← hw1] at KBy
  have HW1 := hide hw1
  have HW : Hid (w0 = w.alloc (.cells #[.int .i64 cu, .int .i64 ce, .int .i64 cp] 44)) := hw0
  have HFT := hide hfit
  have HCB := hide hcb
  have HN := hide hN
  clear h hT hw0 hw1 hfit hcb hN hb0
  go_enter Tryz.func5, Tryz.ntmps5
  go_upto_region 1 with fail
  rw [← unhide HW]
  clear HW
  go_wp2_with fail
  rw [← unhide HW1]
  refine (unhide KBy).mono ?_
  rintro e w1 ⟨rfl, rfl⟩
  clear KBy HW1
  by_cases hbig : 262144 < N
  · rw [decide_eq_true hbig]
    have hbw := (unhide HC w1 b01).2
    clear HC HH KE HFT HCB
    go_wp2_with fail
    go_ret
    exact ⟨rfl, hbw⟩
  rw [decide_eq_false hbig]
  have hNI : (N : Int) ≤ 262144 := by omega
  have hNn : N ≤ 262144 := by omega
  have KTw : Hid (Calls Tryz.prog 20 #[.slice a N cap] w1 fun e w' => e = .returned (.slice (some ⟨w1.heap.size, 0, none⟩) N (N + 2)) ∧ TwR 3 44 w' w1.heap.size (ccR l) ∧ Below w1.heap.size w1 w') := by
    have := twinCards_any w1 _ (ccR l) (unhide HH _ (unhide HC _ b01).2).1 (by rw [ccR_len, ← unhide HN]; omega)
    rw [ccR_len, ← unhide HN] at this
    exact this
  obtain ⟨G, hG⟩ : ∃ G, G = w1.heap.size := ⟨_, rfl⟩
  rw [← hG] at KTw
  clear hbig hlen
  go_wp2_with fail
  refine (unhide KTw).mono ?_
  rintro e WX ⟨rfl, ht, b1X⟩
  rw [hG] at b1X
  have bX0 := bw_tr b01 b1X
  have hGX : G < WX.heap.size := TwR.lt ht
  have hGw : w.heap.size ≤ G := by rw [hG]; exact (unhide HC _ b01).2.size
  obtain ⟨ER, LB, hER, hP, hD, hCr, hLl, hLm⟩ := set_both l ⟨cu, ce, cp⟩
  have hLf : ∀ c ∈ LB, ∀ z ∈ [c.us, c.ep, c.pb], -9223372036854775808 ≤ z ∧ z ≤ 9223372036854775807 := fun c hc => by
    rcases hLm c hc with q | rfl
    · exact unhide HFT c q
    · exact unhide HCB
  have hLl2 : LB.length ≤ 262145 := by have := unhide HN; omega
  obtain ⟨M, hM⟩ : ∃ M, M = LB.length := ⟨_, rfl⟩
  have HTW := hide ht
  have HIN : Hid (∀ W, Below WX.heap.size WX W → RdL kCd W (.slice (some ⟨G, 0, none⟩) N (N + 2)) l (List.replicate l.length ()) ∧ RdL kCd W (.slice a N cap) l (List.replicate l.length ())) := fun W hW => by
    have q1 := (TwR.keep ht (hW.block G hGX)).ri (by decide) (by rw [ccR_len, ← unhide HN]; exact hNn) (unhide HH _ (unhide HC _ (bw_tr bX0 hW)).2).1.fit
    rw [ccR_len, ← unhide HN] at q1
    exact ⟨rdl_of_ri q1, rdl_of_ri (unhide HH _ (unhide HC _ (bw_tr bX0 hW)).2).1⟩
  have K1 : Hid (∀ W, Below WX.heap.size WX W → Calls Tryz.prog 21 #[.slice (some ⟨G, 0, none⟩) N (N + 2), .int .i64 user] W fun e w' => ∃ us ep pb ok, e = .returned (.tuple #[.agg #[.int .i64 us, .int .i64 ep, .int .i64 pb], .bool ok]) ∧ Hid (CrdX l user ⟨us, ep, pb⟩ ok) ∧ Below W.heap.size W w') := fun W hW => by
    refine (card_any (unhide HIN W hW).1 (by have := unhide HN; omega) user).mono ?_
    rintro e w' ⟨c, ok, rfl, h1, h2⟩
    exact ⟨c.us, c.ep, c.pb, ok, rfl, h1, h2⟩
  have K2 : Hid (∀ W, Below WX.heap.size WX W → Calls Tryz.prog 22 #[.slice (some ⟨G, 0, none⟩) N (N + 2), .agg #[.int .i64 cu, .int .i64 ce, .int .i64 cp]] W fun e w' => ∃ ab cb xb, e = .returned (.tuple #[.slice ab M cb, .int .i64 ER]) ∧ OwL kCd W.heap.size w' (.slice ab M cb) LB xb ∧ Below W.heap.size W w') := fun W hW => by
    refine (setcard_any (unhide HIN W hW).1 (by have := unhide HN; omega) cu ce cp).mono ?_
    rintro e w' ⟨v', er, rfl, h1, h2⟩
    obtain ⟨rfl, xb, ho⟩ := hP _ _ _ _ h1
    obtain ⟨ab, cb, rfl⟩ := own_slice ho.row
    rw [hM]
    exact ⟨ab, cb, xb, rfl, ho, h2⟩
  have K3 : Hid (∀ us ep pb ok, Hid (CrdX l user ⟨us, ep, pb⟩ ok) → ∀ W, Below WX.heap.size WX W → Calls Tryz.prog 23 #[.slice a N cap, .int .i64 user] W fun e w' => e = .returned (.tuple #[.agg #[.int .i64 us, .int .i64 ep, .int .i64 pb], .bool ok]) ∧ Below W.heap.size W w') := fun us ep pb ok hcr W hW => by
    refine (rcard_any (unhide HIN W hW).2 (by have := unhide HN; omega) user).mono ?_
    rintro e w' ⟨c, ok', rfl, h1, h2⟩
    obtain ⟨rfl, rfl⟩ := crdX_uniq h1 (unhide hcr)
    exact ⟨rfl, h2⟩
  have K4 : Hid (∀ W, Below WX.heap.size WX W → Calls Tryz.prog 24 #[.slice a N cap, .agg #[.int .i64 cu, .int .i64 ce, .int .i64 cp]] W fun e w' => ∃ ab cb xb, e = .returned (.tuple #[.slice ab M cb, .int .i64 ER]) ∧ OwL kCd W.heap.size w' (.slice ab M cb) LB xb ∧ Below W.heap.size W w') := fun W hW => by
    refine (rset_any (unhide HIN W hW).2 (by have := unhide HN; omega) cu ce cp).mono ?_
    rintro e w' ⟨v', er, rfl, h1, h2⟩
    obtain ⟨rfl, xb, ho⟩ := hD _ _ _ _ h1
    obtain ⟨ab, cb, rfl⟩ := own_slice ho.row
    rw [hM]
    exact ⟨ab, cb, xb, rfl, ho, h2⟩
  have K5 : Hid (∀ W B ab cb xb, ER = 0 → OwL kCd B W (.slice ab M cb) LB xb → Calls Tryz.prog 21 #[.slice ab M cb, .int .i64 cu] W fun e w' => e = .returned (.tuple #[.agg #[.int .i64 cu, .int .i64 ce, .int .i64 cp], .bool true]) ∧ Below W.heap.size W w') := fun W B ab cb xb hE ho => by
    refine (card_any (owl_rd ho) (by omega) cu).mono ?_
    rintro e w' ⟨c, ok', rfl, h1, h2⟩
    obtain ⟨rfl, rfl⟩ := crdX_uniq h1 (hCr hE)
    exact ⟨rfl, h2⟩
  have KS : Hid (∀ W B1 B2 a1 c1 x1 a2 c2 x2, OwL kCd B1 W (.slice a1 M c1) LB x1 → OwL kCd B2 W (.slice a2 M c2) LB x2 → Calls Tryz.prog 25 #[.slice a1 M c1, .slice a2 M c2] W fun e w' => e = .returned (.bool true) ∧ Below W.heap.size W w') := fun W B1 B2 a1 c1 x1 a2 c2 x2 h1 h2 =>
    sameCards_any _ _ (ccR LB) W (ri_of_owl h1 (by omega) hLf) (ri_of_owl h2 (by omega) hLf)
  have RL : Hid (∀ W, Below WX.heap.size WX W → Calls Tryz.prog 26 #[.slice (some ⟨G, 0, none⟩) N (N + 2), .slice a N cap] W fun e w' => e = .returned (.bool true) ∧ Below W.heap.size W w') := fun W hW => by
    have := leftCards_any W G _ (ccR l) (TwR.keep ht (hW.block G hGX)) (unhide HH _ (unhide HC _ (bw_tr bX0 hW)).2).1 (by rw [ccR_len, ← unhide HN]; exact hNn)
    rw [ccR_len, ← unhide HN] at this
    exact this
  have HTO : Hid (∀ W, Below WX.heap.size WX W → W.ownsRow w.heap.size 44 3 (.slice (some ⟨G, 0, none⟩) N (N + 2)) N (riC (ccR l))) := fun W hW => by
    have := twR_ownC (TwR.keep ht (hW.block G hGX)) (by decide) hGw (by rw [ccR_len, ← unhide HN]; omega) (fun q hq => ((unhide HH _ (unhide HC _ (bw_tr bX0 hW)).2).1.fit q hq).1)
    rw [ccR_len, ← unhide HN] at this
    exact this
  have HCX : Hid (∀ W, Below WX.heap.size WX W → (W.cell? ⟨w.heap.size, 0, none⟩ = some (.int .i64 cu) ∧ W.cell? ⟨w.heap.size, 1, none⟩ = some (.int .i64 ce) ∧ W.cell? ⟨w.heap.size, 2, none⟩ = some (.int .i64 cp)) ∧ Below w.heap.size w W) := fun W hW => unhide HC W (bw_tr bX0 hW)
  have HSZ : Hid (w.heap.size ≤ G ∧ G < WX.heap.size ∧ M ≤ 262145 ∧ N ≤ 262144) := ⟨hGw, hGX, by omega, hNn⟩
  have HER := hide hER
  have x0 : Below WX.heap.size WX WX := Below.refl _ _
  clear ht b01 b1X bX0 hGX hGw hP hD hCr hLl hLm hLf hLl2 hM hER HC HH HIN HTW KTw hG HN hNn
  go_wp2_with fail
  refine (unhide K1 WX x0).mono ?_
  rintro e Y1 ⟨us, ep, pb, ok, rfl, HCR, y1⟩
  have he1 := crd_bnd (unhide HCR) (unhide HFT)
  have he : ∀ W, (Op.equal 44 (.agg #[.int .i64 us, .int .i64 ep, .int .i64 pb]) (.agg #[.int .i64 us, .int .i64 ep, .int .i64 pb])).run Tryz.prog W = .ok true W := fun W => equal_Cards W us ep pb (he1 us (by simp)) (he1 ep (by simp)) (he1 pb (by simp))
  have hec : ∀ W, (Op.equal 44 (.agg #[.int .i64 cu, .int .i64 ce, .int .i64 cp]) (.agg #[.int .i64 cu, .int .i64 ce, .int .i64 cp])).run Tryz.prog W = .ok true W := fun W => equal_Cards W cu ce cp (unhide HCB cu (by simp)) (unhide HCB ce (by simp)) (unhide HCB cp (by simp))
  have HE := hide he
  have HEC := hide hec
  clear he1 he hec
  obtain ⟨YA, hYA⟩ : ∃ z, z = Y1.alloc (.cells #[.int .i64 us, .int .i64 ep, .int .i64 pb] 44) := ⟨_, rfl⟩
  have xA : Below WX.heap.size WX YA := by rw [hYA]; exact bw_tr y1 (bwA _ _)
  have HKA : Hid (∀ W, Below YA.heap.size YA W → W.cell? ⟨Y1.heap.size, 0, none⟩ = some (.int .i64 us) ∧ W.cell? ⟨Y1.heap.size, 1, none⟩ = some (.int .i64 ep) ∧ W.cell? ⟨Y1.heap.size, 2, none⟩ = some (.int .i64 pb)) := fun W hW => by rw [hYA] at hW; exact blk3 (heap_alloc_new _ _) hW
  have HYA := hide hYA
  obtain ⟨k0, k1, k2⟩ := (unhide HCX YA xA).1
  clear hYA y1 x0
  go_upto_region 5 with fail
  rw [← unhide HYA]
  clear HYA
  obtain ⟨bA, hbA⟩ : ∃ z, z = Y1.heap.size := ⟨_, rfl⟩
  rw [← hbA] at HKA ⊢
  clear hbA
  go_wp2_with fail
  refine (unhide K2 YA xA).mono ?_
  rintro e Y2 ⟨ab, cb, xb, rfl, oB, y2⟩
  have HOB := hide oB
  have HY2 := hide y2
  clear oB k0 k1 k2
  go_wp2_with fail
  refine (unhide K3 us ep pb ok HCR Y2 (bw_tr xA y2)).mono ?_
  rintro e Y3 ⟨rfl, y3⟩
  obtain ⟨YC, hYC⟩ : ∃ z, z = Y3.alloc (.cells #[.int .i64 us, .int .i64 ep, .int .i64 pb] 44) := ⟨_, rfl⟩
  have yC : Below Y2.heap.size Y2 YC := by rw [hYC]; exact bw_tr y3 (bwA _ _)
  have HKC : Hid (∀ W, Below YC.heap.size YC W → W.cell? ⟨Y3.heap.size, 0, none⟩ = some (.int .i64 us) ∧ W.cell? ⟨Y3.heap.size, 1, none⟩ = some (.int .i64 ep) ∧ W.cell? ⟨Y3.heap.size, 2, none⟩ = some (.int .i64 pb)) := fun W hW => by rw [hYC] at hW; exact blk3 (heap_alloc_new _ _) hW
  have HYC := hide hYC
  have xC : Below WX.heap.size WX YC := bw_tr xA (bw_tr y2 yC)
  obtain ⟨k0, k1, k2⟩ := (unhide HCX YC xC).1
  clear hYC y3
  go_upto_region 7 with fail
  rw [← unhide HYC]
  clear HYC
  obtain ⟨bC, hbC⟩ : ∃ z, z = Y3.heap.size := ⟨_, rfl⟩
  rw [← hbC] at HKC ⊢
  clear hbC
  go_wp2_with fail
  refine (unhide K4 YC xC).mono ?_
  rintro e Y4 ⟨ad, cd, xd, rfl, oD, y4⟩
  have yD : Below Y2.heap.size Y2 Y4 := bw_tr yC y4
  have x4 : Below WX.heap.size WX Y4 := bw_tr xC y4
  obtain ⟨a0, a1, a2⟩ := unhide HKA Y4 (bw_tr y2 yD)
  obtain ⟨c0, c1, c2⟩ := unhide HKC Y4 y4
  have KSS := hide (unhide KS Y4 _ _ _ _ _ _ _ _ ((unhide HOB).bw yD) oD)
  have he := unhide HE
  clear K1 K2 K3 K4 KS oD y4 k0 k1 k2 HKA HKC HCR HE
  go_upto_region 8 with fail
  go_wp2_with fail
  refine (unhide KSS).mono ?_
  rintro e Y5 ⟨rfl, y5⟩
  have x5 := bw_tr x4 y5
  clear KSS a0 a1 a2 c0 c1 c2 he
  go_wp2_with fail
  refine (unhide RL Y5 x5).mono ?_
  rintro e Y6 ⟨rfl, y6⟩
  have x6 := bw_tr x5 y6
  have yB : Below Y2.heap.size Y2 Y6 := bw_tr yD (bw_tr y5 y6)
  obtain ⟨⟨k0, k1, k2⟩, w6⟩ := unhide HCX Y6 x6
  have HOB6 := hide ((unhide HOB).bw yB)
  have HSA : Hid (WX.heap.size ≤ YA.heap.size) := xA.size
  have KL := hide (fun hE => unhide K5 Y6 _ ab cb xb hE (unhide HOB6))
  clear RL K5 y5 y6 x5 x4 yB yD yC xC xA y2 HOB
  rcases unhide HER with rfl | rfl
  · have KL2 := hide (unhide KL rfl)
    clear KL
    go_wp2_with fail
    refine (unhide KL2).mono ?_
    rintro e Y7 ⟨rfl, y7⟩
    obtain ⟨YE, hYE⟩ : ∃ z, z = Y7.alloc (.cells #[.int .i64 cu, .int .i64 ce, .int .i64 cp] 44) := ⟨_, rfl⟩
    have yE : Below Y6.heap.size Y6 YE := by rw [hYE]; exact bw_tr y7 (bwA _ _)
    obtain ⟨e0, e1, e2⟩ : YE.cell? ⟨Y7.heap.size, 0, none⟩ = some (.int .i64 cu) ∧ YE.cell? ⟨Y7.heap.size, 1, none⟩ = some (.int .i64 ce) ∧ YE.cell? ⟨Y7.heap.size, 2, none⟩ = some (.int .i64 cp) := by rw [hYE]; exact blk3 (heap_alloc_new _ _) (Below.refl _ _)
    have HYE := hide hYE
    have x7 := bw_tr x6 yE
    clear k0 k1 k2 w6
    obtain ⟨⟨k0, k1, k2⟩, w7⟩ := unhide HCX YE x7
    have HOB7 := hide ((unhide HOB6).bw yE)
    have hec := unhide HEC
    clear hYE y7 KL2 yE x6 HOB6
    go_upto_region 12 with fail
    rw [← unhide HYE]
    clear HYE
    obtain ⟨bE, hbE⟩ : ∃ z, z = Y7.heap.size := ⟨_, rfl⟩
    rw [← hbE] at e0 e1 e2 ⊢
    clear hbE
    go_wp2_with fail
    clear e0 e1 e2 k0 k1 k2 hec
    refine wp_build 98 #[] rfl (by kernel_rfl) ?_
    have hbuilt : (Tryz.prog.built 98 []).getD #[] = bookF 0 (fun _ => .slice none 0 0) := by kernel_rfl
    have hzero : ∀ w, (zeroValue 98).run Tryz.prog w = .ok (.agg (bookF 0 (fun _ => .slice none 0 0))) w := fun w => by kernel_rfl
    have hall : (bookF 0 (fun _ => .slice none 0 0)).all (·.oneCell') = true := by kernel_rfl
    have hsz62 : (Tryz.prog.info? 98).map (·.size) = some (bookF 0 (fun _ => .slice none 0 0)).size := by kernel_rfl
    simp only [List.map_toArray, List.map_nil, hbuilt]
    generalize hBF : bookF 0 (fun _ => .slice none 0 0) = BF at hbuilt hzero hall hsz62 ⊢
    go_upto_region 15 with (refine wpList_store_row rfl 98 (.tmp 18) (.tmp 90) rfl YE.heap.size BF rfl rfl 98 BF (heap_alloc_new _ _) hsz62 rfl hall ?_)
    obtain ⟨W, hW⟩ : ∃ W, W = (YE.alloc (.cells BF 98)).setRow YE.heap.size BF := ⟨_, rfl⟩
    have hblk : W.heap[YE.heap.size]? = some (.cells BF 98 (0, 0)) := by rw [hW]; exact setRow_new16 YE _ _ _
    have hWb : Below YE.heap.size YE W := by rw [hW]; exact setRow_below16 YE _ _ _
    rw [← hW]
    clear hW hbuilt hzero hall hsz62
    obtain ⟨b, hb⟩ : ∃ b, b = YE.heap.size := ⟨_, rfl⟩
    rw [← hb] at hblk ⊢
    have hbB : w.heap.size ≤ b := by rw [hb]; exact w7.size
    rw [← hBF] at hblk
    clear hBF hb
    have bW := bw_tr w7 hWb
    have xW := bw_tr x7 hWb
    have HOW := hide ((unhide HOB7).bw hWb)
    have KB := hide (bcards_b w.heap.size b 0 (G + 1) _ _ _ (some ⟨G, 0, none⟩) N (N + 2) _ W (BoC.start hblk hbB _) bW.size (by omega) (by have := (unhide HSZ).2.2.2; omega) (unhide HTO W xW) (fun k hk => by cases hk; exact Nat.lt_succ_self G) (by simp))
    clear hblk hWb hbB w7 x7 HOB7
    go_wp2_with fail
    refine (unhide KB).mono ?_
    rintro e B1 ⟨rfl, ⟨F1, X1, q1⟩, tf1⟩
    have oB1 : B1.ownsRow w.heap.size 44 3 (.slice ab M cb) M (cellK kCd LB xb) := by
      have e_ := (unhide HOW).row
      have e2_ := own_slice (unhide HOW).row
      obtain ⟨a_, c_, e3_⟩ := e2_
      simp only [Value.slice.injEq] at e3_
      rw [← e3_.2.1] at e_
      exact own_mono (tf1.own e_ (by decide)) (by have := unhide HSZ; have := unhide HSA; omega)
    have hlo : ∀ k, (Value.slice ab M cb).ownBlock = some k → G < k ∧ k < B1.heap.size := fun k hk => by
      have h1 := (World.ownsRow.lt (unhide HOW).row k hk)
      have h2 := tf1.size
      have := unhide HSZ
      have := unhide HSA
      omega
    have KB2 := hide (bcards_b w.heap.size b 1 B1.heap.size _ _ _ ab M cb _ B1 (q1.up (by have := unhide HSZ; have := xW.size; have := tf1.size; omega)) (Nat.le_trans bW.size tf1.size) (by omega) (by have := (unhide HSZ).2.2.1; omega) oB1 (fun k hk => (hlo k hk).2) (fun i y k hy hk hk2 => by
      have hy2 := List.mem_of_getElem? hy
      simp at hy2
      subst hy2
      have h1 := hlo k hk2
      simp [Value.ownBlock] at hk
      omega))
    have bW1 := bW.trans tf1.bel
    clear KB q1 tf1 oB1 hlo HOW
    go_wp2_with fail
    refine (unhide KB2).mono ?_
    rintro e B2 ⟨rfl, ⟨F2, X2, q2⟩, tf2⟩
    have bW2 := bW1.trans tf2.bel
    have A_ := hide (apartApC_b w.heap.size b _ F2 _ X2 B2 (q2.ap bW2.size (by omega)) (fun x hx => (q2.cn x hx).2.1))
    clear KB2 q2 tf2
    go_wp2_with fail
    refine (unhide A_).mono ?_
    rintro e wf ⟨rfl, bF⟩
    have bG := bW2.trans bF
    clear A_
    go_wp2_with fail
    refine (unhide KE wf bG).mono ?_
    rintro e w9 ⟨rfl, hb9⟩
    go_wp2
    go_ret
    exact ⟨rfl, hb9⟩
  · clear KL
    go_wp2_with fail
    clear k0 k1 k2
    refine wp_build 98 #[] rfl (by kernel_rfl) ?_
    have hbuilt : (Tryz.prog.built 98 []).getD #[] = bookF 0 (fun _ => .slice none 0 0) := by kernel_rfl
    have hzero : ∀ w, (zeroValue 98).run Tryz.prog w = .ok (.agg (bookF 0 (fun _ => .slice none 0 0))) w := fun w => by kernel_rfl
    have hall : (bookF 0 (fun _ => .slice none 0 0)).all (·.oneCell') = true := by kernel_rfl
    have hsz62 : (Tryz.prog.info? 98).map (·.size) = some (bookF 0 (fun _ => .slice none 0 0)).size := by kernel_rfl
    simp only [List.map_toArray, List.map_nil, hbuilt]
    generalize hBF : bookF 0 (fun _ => .slice none 0 0) = BF at hbuilt hzero hall hsz62 ⊢
    go_upto_region 15 with (refine wpList_store_row rfl 98 (.tmp 18) (.tmp 90) rfl Y6.heap.size BF rfl rfl 98 BF (heap_alloc_new _ _) hsz62 rfl hall ?_)
    obtain ⟨W, hW⟩ : ∃ W, W = (Y6.alloc (.cells BF 98)).setRow Y6.heap.size BF := ⟨_, rfl⟩
    have hblk : W.heap[Y6.heap.size]? = some (.cells BF 98 (0, 0)) := by rw [hW]; exact setRow_new16 Y6 _ _ _
    have hWb : Below Y6.heap.size Y6 W := by rw [hW]; exact setRow_below16 Y6 _ _ _
    rw [← hW]
    clear hW hbuilt hzero hall hsz62
    obtain ⟨b, hb⟩ : ∃ b, b = Y6.heap.size := ⟨_, rfl⟩
    rw [← hb] at hblk ⊢
    have hbB : w.heap.size ≤ b := by rw [hb]; exact w6.size
    rw [← hBF] at hblk
    clear hBF hb
    have bW := bw_tr w6 hWb
    have xW := bw_tr x6 hWb
    have HOW := hide ((unhide HOB6).bw hWb)
    have KB := hide (bcards_b w.heap.size b 0 (G + 1) _ _ _ (some ⟨G, 0, none⟩) N (N + 2) _ W (BoC.start hblk hbB _) bW.size (by omega) (by have := (unhide HSZ).2.2.2; omega) (unhide HTO W xW) (fun k hk => by cases hk; exact Nat.lt_succ_self G) (by simp))
    clear hblk hWb hbB w6 x6 HOB6
    go_wp2_with fail
    refine (unhide KB).mono ?_
    rintro e B1 ⟨rfl, ⟨F1, X1, q1⟩, tf1⟩
    have oB1 : B1.ownsRow w.heap.size 44 3 (.slice ab M cb) M (cellK kCd LB xb) := by
      have e_ := (unhide HOW).row
      have e2_ := own_slice (unhide HOW).row
      obtain ⟨a_, c_, e3_⟩ := e2_
      simp only [Value.slice.injEq] at e3_
      rw [← e3_.2.1] at e_
      exact own_mono (tf1.own e_ (by decide)) (by have := unhide HSZ; have := unhide HSA; omega)
    have hlo : ∀ k, (Value.slice ab M cb).ownBlock = some k → G < k ∧ k < B1.heap.size := fun k hk => by
      have h1 := (World.ownsRow.lt (unhide HOW).row k hk)
      have h2 := tf1.size
      have := unhide HSZ
      have := unhide HSA
      omega
    have KB2 := hide (bcards_b w.heap.size b 1 B1.heap.size _ _ _ ab M cb _ B1 (q1.up (by have := unhide HSZ; have := xW.size; have := tf1.size; omega)) (Nat.le_trans bW.size tf1.size) (by omega) (by have := (unhide HSZ).2.2.1; omega) oB1 (fun k hk => (hlo k hk).2) (fun i y k hy hk hk2 => by
      have hy2 := List.mem_of_getElem? hy
      simp at hy2
      subst hy2
      have h1 := hlo k hk2
      simp [Value.ownBlock] at hk
      omega))
    have bW1 := bW.trans tf1.bel
    clear KB q1 tf1 oB1 hlo HOW
    go_wp2_with fail
    refine (unhide KB2).mono ?_
    rintro e B2 ⟨rfl, ⟨F2, X2, q2⟩, tf2⟩
    have bW2 := bW1.trans tf2.bel
    have A_ := hide (apartApC_b w.heap.size b _ F2 _ X2 B2 (q2.ap bW2.size (by omega)) (fun x hx => (q2.cn x hx).2.1))
    clear KB2 q2 tf2
    go_wp2_with fail
    refine (unhide A_).mono ?_
    rintro e wf ⟨rfl, bF⟩
    have bG := bW2.trans bF
    clear A_
    go_wp2_with fail
    refine (unhide KE wf bG).mono ?_
    rintro e w9 ⟨rfl, hb9⟩
    go_wp2
    go_ret
    exact ⟨rfl, hb9⟩
end Go.Proofs.YtihniafidgjlcaaGreatDoor.Cd
