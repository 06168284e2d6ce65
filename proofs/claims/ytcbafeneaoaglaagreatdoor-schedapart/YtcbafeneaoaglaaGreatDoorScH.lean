/- The contracts of sched.digest and hold.Tree. -/
import Derived.Test.YtcbafeneaoaglaaGreatDoorScG
namespace Go.Proofs.YtcbafeneaoaglaaGreatDoor.Tn
open Go.RowKit Go.Maps

def digF : List Tm → List Nat → Nat → List Tm × Nat
  | L, [], n => (L, n)
  | L, a :: r, n => digF (mkL L ⟨3, 0, (a : Int), (n : Int)⟩) r (mkN L ⟨3, 0, (a : Int), (n : Int)⟩)
def digP (L : List Tm) (acc : List Nat) : List Tm × Nat := match acc.reverse with | [] => (L, 0) | n :: r => digF L r n
def dig (L : List Tm) (acc : List Nat) : List Tm × Nat := (mkL (digP L acc).1 ⟨7, 0, ((digP L acc).2 : Int), 0⟩, mkN (digP L acc).1 ⟨7, 0, ((digP L acc).2 : Int), 0⟩)
theorem may_hash {N : Nat} {a : Int} (ha : thr N a = true) : may N ⟨7, 0, a, 0⟩ = true := by
  unfold may
  simp [ha]
theorem ok_hash {a : Int} (h : 0 ≤ a ∧ a ≤ 1048577) : Tm.ok ⟨7, 0, a, 0⟩ := by
  constructor <;> simp <;> omega

set_option maxRecDepth 100000 in
set_option maxHeartbeats 4000000 in
theorem scdigest_any {b : Nat} {sv : Value} {mb : Nat} {L : List Tm} {w : World} (h : St w b sv mb L) (lv : Value) (acc : List Nat) (hr : NRow 0 w lv acc) (hne : acc ≠ []) (hrg : Rg L.length acc) (hl : L.length + acc.length ≤ 1048576) (hac : acc.length ≤ 1000) :
    Calls Tryz.prog 32 #[.func (.func 24) #[.pointer (some ⟨b, 0, none⟩)] #[], lv] w fun e w' => e = .returned (.tuple #[.int .i64 ((dig L acc).2 : Nat), .int .i64 0]) ∧ ∃ sv', SStep w w' b sv sv' mb (dig L acc).1 := by
  have hpos : 0 < acc.length := by cases acc with | nil => exact absurd rfl hne | cons _ _ => simp
  obtain ⟨g, cap, rfl⟩ : ∃ g cap, lv = .slice (some ⟨g, 0, none⟩) acc.length cap := by
    rcases hr.form with ⟨_, rfl⟩ | ⟨g, cap, hv, _⟩
    · simp at hpos
    · exact ⟨g, cap, hv⟩
  have hcell : ∀ W sv' L', SStep w W b sv sv' mb L' → ∀ (i m : Nat), acc[i]? = some m → W.cell? ⟨g, i, none⟩ = some (.int .i64 (m : Int)) := fun W sv' L' s i m hi => by
    have := hr.keep (w' := W) (fun k hk => s.fr.block k (hr.lt k hk).2 (hr.foot h k hk))
    exact this.at rfl hi
  obtain ⟨q, hq⟩ : ∃ q, acc.length = q + 1 := ⟨acc.length - 1, by omega⟩
  obtain ⟨n0, hn0⟩ : ∃ z, acc[q]? = some z := ⟨_, List.getElem?_eq_getElem (by omega)⟩
  have hstart : digF L (acc.take q).reverse n0 = digP L acc := by
    have e : acc = acc.take q ++ [n0] := by
      have e1 : acc.take (q + 1) = acc := List.take_of_length_le (by omega)
      rw [List.take_add_one, hn0] at e1
      exact e1.symm
    unfold digP
    conv => rhs; rw [e]
    rw [List.reverse_append]
    rfl
  rw [hq] at hl hac ⊢
  have hn1 := hrg n0 (List.mem_of_getElem? hn0)
  have cn := hcell w sv L (SStep.refl h) q n0 hn0
  have hqb : (q : Int) ≤ 1000 := by omega
  have HH := hide (And.intro h (And.intro hrg (And.intro hl (And.intro hq hcell))))
  have HS := hide hstart
  have HN1 := hide hn1
  clear h hr hne hrg hl hac hpos hcell hstart hn0 hn1
  obtain ⟨DP, hDP⟩ : ∃ DP, DP = digP L acc := ⟨_, rfl⟩
  have HDG : Hid (dig L acc = (mkL DP.1 ⟨7, 0, (DP.2 : Int), 0⟩, mkN DP.1 ⟨7, 0, (DP.2 : Int), 0⟩)) := by unfold Hid dig; rw [hDP]
  rw [← hDP] at HS
  clear hDP
  generalize dig L acc = DG at *
  go_enter Tryz.func32, Tryz.ntmps32
  go_wp2_with fail
  go_loopw [6, 7] (fun nv iv wq => ∃ (j : Nat) (L' : List Tm) (sv' : Value) (n : Nat), j ≤ q ∧ iv = .int .i64 ((j : Int) - 1) ∧ nv = .int .i64 (n : Int) ∧ Hid (digF L' (acc.take j).reverse n = DP ∧ SStep w wq b sv sv' mb L' ∧ L'.length + j ≤ L.length + q ∧ L.length ≤ L'.length ∧ 1 ≤ n ∧ n ≤ L'.length)) (fun _ iv _ => (intOf iv + 1).toNat)
  case atStart => exact ⟨q, L, sv, n0, Nat.le_refl _, by go_num, rfl, ⟨unhide HS, SStep.refl (unhide HH).1, Nat.le_refl _, Nat.le_refl _, unhide HN1⟩⟩
  case round =>
    obtain ⟨j, L', sv', n, hj, rfl, rfl, HR⟩ := hrel
    rcases Nat.eq_zero_or_pos j with hj0 | hj0
    · subst hj0
      obtain ⟨hF, hst, hl1, hl2, hn⟩ := unhide HR
      have e : DP = (L', n) := by rw [← hF]; rfl
      have tn : thr L'.length (n : Int) = true := thr_iff.2 (by omega)
      have hl := (unhide HH).2.2.1
      have KM := hide (make_ok hst.st 7 0 (n : Int) 0 (ok_hash (by omega)) (may_hash tn) (by omega))
      have HG : Hid (DG = (mkL L' ⟨7, 0, (n : Int), 0⟩, mkN L' ⟨7, 0, (n : Int), 0⟩)) := by unfold Hid; rw [unhide HDG, e]
      have HST := hide hst
      clear HR hF hst hl1 hl2 hn e tn hl HDG
      go_wp2_with fail
      refine (unhide KM).mono ?_
      rintro e w4 ⟨rfl, sv4, s4⟩
      have S4 := hide ((unhide HST).trans s4)
      clear KM s4
      go_wp2
      go_ret2
      refine ⟨?_, sv4, ?_⟩
      · rw [unhide HG]; rfl
      · rw [unhide HG]; exact unhide S4
    · obtain ⟨j', rfl⟩ : ∃ j', j = j' + 1 := ⟨j - 1, by omega⟩
      obtain ⟨hF, hst, hl1, hl2, hn⟩ := unhide HR
      obtain ⟨-, hrg, hl, hq, hcell⟩ := unhide HH
      obtain ⟨z, hzj⟩ : ∃ z, acc[j']? = some z := ⟨_, List.getElem?_eq_getElem (by omega)⟩
      have hz := hrg z (List.mem_of_getElem? hzj)
      have cz := hcell wr sv' L' hst j' z hzj
      have htk : (acc.take (j' + 1)).reverse = z :: (acc.take j').reverse := by rw [List.take_add_one, hzj]; simp
      rw [htk] at hF
      have hm : may L'.length ⟨3, 0, (z : Int), (n : Int)⟩ = true := may_pair (thr_iff.2 (by omega)) (thr_iff.2 (by omega))
      have KM := hide (make_ok hst.st 3 0 (z : Int) (n : Int) (ok_pair (by omega)) hm (by omega))
      have tn := thr_iff.1 (mkN_thr hm (by omega)).1
      have lm := mkL_len L' ⟨3, 0, (z : Int), (n : Int)⟩
      have lm2 := mkL_le L' ⟨3, 0, (z : Int), (n : Int)⟩
      obtain ⟨nn, hnn⟩ : ∃ nn : Nat, nn = mkN L' ⟨3, 0, (z : Int), (n : Int)⟩ := ⟨_, rfl⟩
      obtain ⟨LL, hLL⟩ : ∃ LL, LL = mkL L' ⟨3, 0, (z : Int), (n : Int)⟩ := ⟨_, rfl⟩
      have hF2 : digF LL (acc.take j').reverse nn = DP := by rw [hLL, hnn]; exact hF
      rw [← hnn, ← hLL] at KM
      rw [← hnn, ← hLL] at tn
      rw [← hLL] at lm lm2
      have HX : Hid (digF LL (acc.take j').reverse nn = DP ∧ LL.length + j' ≤ L.length + q ∧ L.length ≤ LL.length ∧ 1 ≤ nn ∧ nn ≤ LL.length) := ⟨hF2, by omega, by omega, by omega, by omega⟩
      have HST := hide hst
      have hjq : (j' : Int) < (q : Int) + 1 := by omega
      have hjb : (j' : Int) ≤ 1000 := by omega
      clear HR hF hst hl1 hl2 hn hrg hl hq hcell hzj hz htk hm tn lm lm2 hnn hLL hF2
      go_wp2_with fail
      refine (unhide KM).mono ?_
      rintro e w4 ⟨rfl, sv4, s4⟩
      have S4 := hide ((unhide HST).trans s4)
      clear KM s4
      go_wp2_with fail
      go_roundw
      case rel => exact ⟨j', LL, sv4, nn, by omega, by go_num, rfl, ⟨(unhide HX).1, unhide S4, (unhide HX).2⟩⟩
      case measure => simp only [intOf]; omega

/-- Is a tree held by a store? -/
def heldB (L : List Tm) (T : List Nd) : Bool := mayB T && T.all (fun n => decide (n.pub = 0) || thr L.length n.pub)
set_option maxRecDepth 100000 in
set_option maxHeartbeats 4000000 in
theorem htree_any {b : Nat} {sv : Value} {mb : Nat} {L : List Tm} {w : World} (h : St w b sv mb L) (v : Value) (T : List Nd) (ht : Trd w v T) (hT : Tab w) :
    Calls Tryz.prog 28 #[.pointer (some ⟨b, 0, none⟩), .agg #[v]] w fun e w' => e = .returned (.bool (heldB L T)) ∧ Below w.heap.size w w' := by
  obtain ⟨a, c, rfl⟩ := ht.slice
  obtain ⟨w0, hw0⟩ : ∃ w0, w0 = w.alloc (.cells #[.slice a T.length c] 25) := ⟨_, rfl⟩
  have x0 : Below w.heap.size w w0 := by rw [hw0]; exact bwA' _ _
  have k0 : w0.heap[w.heap.size]? = some (.cells #[.slice a T.length c] 25 (0, 0)) := by rw [hw0]; exact heap_alloc_new _ _
  have KC := check_any (ht.bw x0) (hT.bw x0)
  obtain ⟨-, hat⟩ := ht.at
  obtain ⟨N, hN⟩ : ∃ N, N = T.length := ⟨_, rfl⟩
  have hlen := ht.len
  rw [← hN] at KC k0 hw0 hlen ⊢
  have HW := hide hw0
  have HK0 := hide k0
  have HH := hide (And.intro h (And.intro hat hN))
  have X0 := hide x0
  have c0 := blk_cell (i := 0) k0 rfl
  cases hm : mayB T
  · have e : heldB L T = false := by simp [heldB, hm]
    rw [e]
    rw [hm] at KC
    have HC := hide KC
    clear e hm KC h ht hT hw0 x0 k0 hat hN
    go_enter Tryz.func28, Tryz.ntmps28
    go_upto_region 1 with fail
    rw [← unhide HW]
    go_wp2_with fail
    refine (unhide HC).mono ?_
    rintro e w1 ⟨rfl, y⟩
    go_wp2
    go_ret
    exact ⟨rfl, bw_tr (unhide X0) y⟩
  · rw [hm] at KC
    have HC := hide KC
    have HM := hide hm
    have hNI : (N : Int) ≤ 140737488355328 := by omega
    clear hm KC h ht hT hw0 x0 k0 hat hN
    go_enter Tryz.func28, Tryz.ntmps28
    go_upto_region 1 with fail
    rw [← unhide HW]
    go_wp2_with fail
    refine (unhide HC).mono ?_
    rintro e w1 ⟨rfl, y⟩
    have c1 := blk_cell (i := 0) (kept_blk (unhide HK0) y) rfl
    have B1 := hide (bw_tr (unhide X0) y)
    clear c0 HC y
    go_wp2_with fail
    go_loopw [13] (fun iv wr => ∃ k : Nat, k ≤ N ∧ iv = .int .i64 (k : Int) ∧ Hid (Below w.heap.size w wr ∧ (T.take k).all (fun n => decide (n.pub = 0) || thr L.length n.pub) = true)) (fun iv _ => (N - intOf iv).toNat)
    case atStart => exact ⟨0, Nat.zero_le _, rfl, ⟨unhide B1, by simp⟩⟩
    case round =>
      obtain ⟨k, hk, rfl, HR⟩ := hrel
      by_cases hlt : k < N
      · obtain ⟨h, hat, hN⟩ := unhide HH
        obtain ⟨hbw, hal⟩ := unhide HR
        have hkT : k < T.length := by omega
        obtain ⟨gb, o, rfl, hh⟩ := hat (by omega)
        obtain ⟨u, ⟨cc0, cc1, cc2, cc3⟩, hU⟩ := hh wr hbw k hkT
        have hnd := ndAt_of hkT
        obtain ⟨⟨pub, mem, ep, un⟩, hn⟩ : ∃ n, n = ndAt T k := ⟨_, rfl⟩
        rw [← hn] at cc0 cc1 cc2 hnd hU
        simp only at cc0 cc1 cc2 hU
        obtain ⟨ua, uc, rfl⟩ := nums_slice hU
        obtain ⟨UL, hUL⟩ : ∃ UL, UL = un.length := ⟨_, rfl⟩
        rw [← hUL] at cc3
        clear hU
        have htk : (T.take (k + 1)).all (fun n => decide (n.pub = 0) || thr L.length n.pub) = (decide (pub = 0) || thr L.length pub) := by
          rw [List.take_add_one, hnd]
          simp only [Option.toList_some, List.all_append, hal, List.all_cons, List.all_nil, Bool.true_and, Bool.and_true]
        by_cases hp0 : pub = 0
        · subst hp0
          have HX : Hid (∀ ob, Below w.heap.size w (wr.alloc ob) ∧ (T.take (k + 1)).all (fun n => decide (n.pub = 0) || thr L.length n.pub) = true) := fun ob => ⟨hbw.alloc hbw.size _, by rw [htk]; simp⟩
          clear h hat hN hbw hal hkT hh hnd hn htk HR hUL
          go_wp2_with fail
          go_roundw
          case rel => exact ⟨k + 1, by omega, by go_num, unhide HX _⟩
          case measure => simp only [intOf]; omega
        · have z1 : (pub == 0) = false := by simpa using hp0
          have z2 : decide (pub = 0) = false := by simpa using hp0
          have z3 : (pub != 0) = true := by simpa using hp0
          rw [z2, Bool.false_or] at htk
          obtain ⟨ob, hob⟩ : ∃ ob, ob = Obj.cells #[.int .i64 pub, .int .i64 mem, .int .i64 ep, .slice ua UL uc] 62 := ⟨_, rfl⟩
          have hb2 : Below w.heap.size w (wr.alloc ob) := hbw.alloc hbw.size _
          have KH := hhas_any (h.bw hb2) pub
          cases htp : thr L.length pub
          · have e : heldB L T = false := by
              unfold heldB
              rw [Bool.and_eq_false_iff]
              right
              rw [List.all_eq_false]
              exact ⟨_, List.mem_of_getElem? hnd, by simp [z2, htp]⟩
            rw [htp] at KH
            have HK := hide KH
            have HE := hide e
            have HB2 := hide hb2
            subst hob
            clear h hat hN hbw hal hkT hh hnd hn htk HR hUL KH e hb2 htp
            go_wp2_with fail
            refine (unhide HK).mono ?_
            rintro e w7 ⟨rfl, y⟩
            go_wp2
            go_ret
            rw [unhide HE]
            exact ⟨rfl, bw_tr (unhide HB2) y⟩
          · rw [htp] at KH htk
            have HK := hide KH
            have HX : Hid (∀ W, Below (wr.alloc ob).heap.size (wr.alloc ob) W → Below w.heap.size w W ∧ (T.take (k + 1)).all (fun n => decide (n.pub = 0) || thr L.length n.pub) = true) := fun W hW => ⟨bw_tr hb2 hW, htk⟩
            subst hob
            clear h hat hN hbw hal hkT hh hnd hn htk HR hUL KH hb2 htp
            go_wp2_with fail
            refine (unhide HK).mono ?_
            rintro e w7 ⟨rfl, y⟩
            have HX2 := hide (unhide HX _ y)
            clear y HX HK
            go_wp2_with fail
            go_roundw
            case rel => exact ⟨k + 1, by omega, by go_num, unhide HX2⟩
            case measure => simp only [intOf]; omega
      · have e : heldB L T = true := by
          have := (unhide HR).2
          rw [List.take_of_length_le (by have := (unhide HH).2.2; omega)] at this
          unfold heldB
          rw [unhide HM, this]; rfl
        have HE := hide e
        have HB := hide (unhide HR).1
        clear e HR
        go_wp2
        go_ret
        rw [unhide HE]
        exact ⟨rfl, unhide HB⟩
end Go.Proofs.YtcbafeneaoaglaaGreatDoor.Tn
