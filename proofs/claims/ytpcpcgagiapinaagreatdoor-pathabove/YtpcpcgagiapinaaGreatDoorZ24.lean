/- Texts joined: ScF ScG ScH PdH. -/
import Derived.Test.YtpcpcgagiapinaaGreatDoorScE
import Derived.Test.YtpcpcgagiapinaaGreatDoorZ06
import Derived.Test.YtpcpcgagiapinaaGreatDoorZ23
import Derived.Test.YtpcpcgagiapinaaGreatDoorZ12
/- The contract of sched.node: what a context has of a node. -/
namespace Go.Proofs.YtpcpcgagiapinaaGreatDoor.Tn
open Go.RowKit Go.Maps
end Go.Proofs.YtpcpcgagiapinaaGreatDoor.Tn

/- The contract of sched.public: the list of what a context is the digest of. -/
namespace Go.Proofs.YtpcpcgagiapinaaGreatDoor.Tn
open Go.RowKit Go.Maps
def Tfix (F : World → Prop) (v : Value) (T : List Nd) : Prop :=
  (T = [] ∧ ∃ a c, v = .slice a 0 c) ∨ ∃ g o c, ∃ us : Nat → Value, v = .slice (some ⟨g, o, none⟩) T.length c ∧ ∀ W, F W → ∀ i, i < T.length → NdC W g (o + i * 4) (ndAt T i) (us i) ∧ Nums W (us i) (ndAt T i).un
theorem Tfix.slice {F : World → Prop} {v : Value} {T : List Nd} (h : Tfix F v T) : ∃ a c, v = .slice a T.length c := by
  rcases h with ⟨rfl, a, c, rfl⟩ | ⟨g, o, c, us, rfl, _⟩
  · exact ⟨a, c, rfl⟩
  · exact ⟨_, c, rfl⟩
theorem Tfix.mono {F G : World → Prop} {v : Value} {T : List Nd} (h : Tfix F v T) (hG : ∀ W, G W → F W) : Tfix G v T := by
  rcases h with h | ⟨g, o, c, us, e, hh⟩
  · exact Or.inl h
  · exact Or.inr ⟨g, o, c, us, e, fun W hW => hh W (hG W hW)⟩
end Go.Proofs.YtpcpcgagiapinaaGreatDoor.Tn

/- The contracts of sched.digest and hold.Tree. -/
namespace Go.Proofs.YtpcpcgagiapinaaGreatDoor.Tn
open Go.RowKit Go.Maps
def heldB (L : List Tm) (T : List Nd) : Bool := mayB T && T.all (fun n => decide (n.pub = 0) || thr L.length n.pub)
set_option maxRecDepth 100000 in
set_option maxHeartbeats 4000000 in
theorem htree_any {b : Nat} {sv : Value} {mb : Nat} {L : List Tm} {w : World} (h : St w b sv mb L) (v : Value) (T : List Nd) (ht : Trd w v T) (hT : Tab w) :
    Calls Tryz.prog 47 #[.pointer (some ⟨b, 0, none⟩), .agg #[v]] w fun e w' => e = .returned (.bool (heldB L T)) ∧ Below w.heap.size w w' := by
  obtain ⟨a, c, rfl⟩ := ht.slice
  obtain ⟨w0, hw0⟩ : ∃ w0, w0 = w.alloc (.cells #[.slice a T.length c] 44) := ⟨_, rfl⟩
  have x0 : Below w.heap.size w w0 := by rw [hw0]; exact bwA' _ _
  have k0 : w0.heap[w.heap.size]? = some (.cells #[.slice a T.length c] 44 (0, 0)) := by rw [hw0]; exact heap_alloc_new _ _
  have KC := check_any (ht.bw x0) (hT.bw x0)
  obtain ⟨-, hat⟩ := ht.at
  obtain ⟨N, hN⟩ : ∃ N, N = T.length := ⟨_, rfl⟩
  have hlen := ht.len
  rw [← hN] at KC k0 hw0 hlen ⊢
  have HW := hide hw0
  have HK0 := hide k0
  have HH := hide (And.intro h (And.intro hat hN))
  have X0 := hide x0
  have c0 := blk_cell (i := 0) k0 rfl
  cases hm : mayB T
  · have e : heldB L T = false := by simp [heldB, hm]
    rw [e]
    rw [hm] at KC
    have HC := hide KC
    clear e hm KC h ht hT hw0 x0 k0 hat hN
    go_enter Tryz.func47, Tryz.ntmps47
    go_upto_region 1 with fail
    rw [← unhide HW]
    go_wp2_with fail
    refine (unhide HC).mono ?_
    rintro e w1 ⟨rfl, y⟩
    go_wp2
    go_ret
    exact ⟨rfl, bw_tr (unhide X0) y⟩
  · rw [hm] at KC
    have HC := hide KC
    have HM := hide hm
    have hNI : (N : Int) ≤ 140737488355328 := by omega
    clear hm KC h ht hT hw0 x0 k0 hat hN
    go_enter Tryz.func47, Tryz.ntmps47
    go_upto_region 1 with fail
    rw [← unhide HW]
    go_wp2_with fail
    refine (unhide HC).mono ?_
    rintro e w1 ⟨rfl, y⟩
    have c1 := blk_cell (i := 0) (kept_blk (unhide HK0) y) rfl
    have B1 := hide (bw_tr (unhide X0) y)
    clear c0 HC y
    go_wp2_with fail
    go_loopw [13] (fun iv wr => ∃ k : Nat, k ≤ N ∧ iv = .int .i64 (k : Int) ∧ Hid (Below w.heap.size w wr ∧ (T.take k).all (fun n => decide (n.pub = 0) || thr L.length n.pub) = true)) (fun iv _ => (N - intOf iv).toNat)
    case atStart => exact ⟨0, Nat.zero_le _, rfl, ⟨unhide B1, by simp⟩⟩
    case round =>
      obtain ⟨k, hk, rfl, HR⟩ := hrel
      by_cases hlt : k < N
      · obtain ⟨h, hat, hN⟩ := unhide HH
        obtain ⟨hbw, hal⟩ := unhide HR
        have hkT : k < T.length := by omega
        obtain ⟨gb, o, rfl, hh⟩ := hat (by omega)
        obtain ⟨u, ⟨cc0, cc1, cc2, cc3⟩, hU⟩ := hh wr hbw k hkT
        have hnd := ndAt_of hkT
        obtain ⟨⟨pub, mem, ep, un⟩, hn⟩ : ∃ n, n = ndAt T k := ⟨_, rfl⟩
        rw [← hn] at cc0 cc1 cc2 hnd hU
        simp only at cc0 cc1 cc2 hU
        obtain ⟨ua, uc, rfl⟩ := nums_slice hU
        obtain ⟨UL, hUL⟩ : ∃ UL, UL = un.length := ⟨_, rfl⟩
        rw [← hUL] at cc3
        clear hU
        have htk : (T.take (k + 1)).all (fun n => decide (n.pub = 0) || thr L.length n.pub) = (decide (pub = 0) || thr L.length pub) := by
          rw [List.take_add_one, hnd]
          simp only [Option.toList_some, List.all_append, hal, List.all_cons, List.all_nil, Bool.true_and, Bool.and_true]
        by_cases hp0 : pub = 0
        · subst hp0
          have HX : Hid (∀ ob, Below w.heap.size w (wr.alloc ob) ∧ (T.take (k + 1)).all (fun n => decide (n.pub = 0) || thr L.length n.pub) = true) := fun ob => ⟨hbw.alloc hbw.size _, by rw [htk]; simp⟩
          clear h hat hN hbw hal hkT hh hnd hn htk HR hUL
          go_wp2_with fail
          go_roundw
          case rel => exact ⟨k + 1, by omega, by go_num, unhide HX _⟩
          case measure => simp only [intOf]; omega
        · have z1 : (pub == 0) = false := by simpa using hp0
          have z2 : decide (pub = 0) = false := by simpa using hp0
          have z3 : (pub != 0) = true := by simpa using hp0
          rw [z2, Bool.false_or] at htk
          obtain ⟨ob, hob⟩ : ∃ ob, ob = Obj.cells #[.int .i64 pub, .int .i64 mem, .int .i64 ep, .slice ua UL uc] 59 := ⟨_, rfl⟩
          have hb2 : Below w.heap.size w (wr.alloc ob) := hbw.alloc hbw.size _
          have KH := hhas_any (h.bw hb2) pub
          cases htp : thr L.length pub
          · have e : heldB L T = false := by
              unfold heldB
              rw [Bool.and_eq_false_iff]
              right
              rw [List.all_eq_false]
              exact ⟨_, List.mem_of_getElem? hnd, by simp [z2, htp]⟩
            rw [htp] at KH
            have HK := hide KH
            have HE := hide e
            have HB2 := hide hb2
            subst hob
            clear h hat hN hbw hal hkT hh hnd hn htk HR hUL KH e hb2 htp
            go_wp2_with fail
            refine (unhide HK).mono ?_
            rintro e w7 ⟨rfl, y⟩
            go_wp2
            go_ret
            rw [unhide HE]
            exact ⟨rfl, bw_tr (unhide HB2) y⟩
          · rw [htp] at KH htk
            have HK := hide KH
            have HX : Hid (∀ W, Below (wr.alloc ob).heap.size (wr.alloc ob) W → Below w.heap.size w W ∧ (T.take (k + 1)).all (fun n => decide (n.pub = 0) || thr L.length n.pub) = true) := fun W hW => ⟨bw_tr hb2 hW, htk⟩
            subst hob
            clear h hat hN hbw hal hkT hh hnd hn htk HR hUL KH hb2 htp
            go_wp2_with fail
            refine (unhide HK).mono ?_
            rintro e w7 ⟨rfl, y⟩
            have HX2 := hide (unhide HX _ y)
            clear y HX HK
            go_wp2_with fail
            go_roundw
            case rel => exact ⟨k + 1, by omega, by go_num, unhide HX2⟩
            case measure => simp only [intOf]; omega
      · have e : heldB L T = true := by
          have := (unhide HR).2
          rw [List.take_of_length_le (by have := (unhide HH).2.2; omega)] at this
          unfold heldB
          rw [unhide HM, this]; rfl
        have HE := hide e
        have HB := hide (unhide HR).1
        clear e HR
        go_wp2
        go_ret
        rw [unhide HE]
        exact ⟨rfl, unhide HB⟩
end Go.Proofs.YtpcpcgagiapinaaGreatDoor.Tn

/- The document's Held. -/
namespace Go.Proofs.YtpcpcgagiapinaaGreatDoor.Tn.Pa
open Go.RowKit Go.Maps
def pubsB (L : List Tm) (T : List Nd) : Bool := T.all (fun n => decide (n.pub = 0) || thr L.length n.pub)
set_option maxRecDepth 100000 in
set_option maxHeartbeats 4000000 in
theorem q9held_any {b : Nat} {sv : Value} {L : List Tm} {w : World} (h : Rs w b sv L) (v : Value) (T : List Nd) (ht : Trd w v T) :
    Calls Tryz.prog 55 #[.pointer (some ⟨b, 0, none⟩), .agg #[v]] w fun e w' => e = .returned (.bool (pubsB L T)) ∧ Below w.heap.size w w' := by
  obtain ⟨a, c, rfl⟩ := ht.slice
  obtain ⟨w0, hw0⟩ : ∃ w0, w0 = w.alloc (.cells #[.slice a T.length c] 44) := ⟨_, rfl⟩
  have x0 : Below w.heap.size w w0 := by rw [hw0]; exact bwA' _ _
  have k0 : w0.heap[w.heap.size]? = some (.cells #[.slice a T.length c] 44 (0, 0)) := by rw [hw0]; exact heap_alloc_new _ _
  obtain ⟨-, hat⟩ := ht.at
  obtain ⟨N, hN⟩ : ∃ N, N = T.length := ⟨_, rfl⟩
  have hlen := ht.len
  rw [← hN] at k0 hw0 hlen ⊢
  have HW := hide hw0
  have HK0 : Hid (∀ W, Below w0.heap.size w0 W → W.cell? ⟨w.heap.size, 0, none⟩ = some (.slice a N c) ∧ Below w.heap.size w W) := fun W hW => ⟨blk_cell (kept_blk k0 hW) rfl, bw_tr x0 hW⟩
  have HH := hide (And.intro h (And.intro hat hN))
  have hNI : (N : Int) ≤ 140737488355328 := by omega
  clear h ht hw0 x0 k0 hat hN
  go_enter Tryz.func55, Tryz.ntmps55
  go_upto_region 1 with fail
  rw [← unhide HW]
  go_wp2_with fail
  go_loopw [5] (fun iv wr => ∃ k : Nat, k ≤ N ∧ iv = .int .i64 (k : Int) ∧ Hid (Below w0.heap.size w0 wr ∧ (T.take k).all (fun n => decide (n.pub = 0) || thr L.length n.pub) = true)) (fun iv _ => (N - intOf iv).toNat)
  case atStart => exact ⟨0, Nat.zero_le _, rfl, ⟨Below.refl _ _, by simp⟩⟩
  case round =>
    obtain ⟨k, hk, rfl, HR⟩ := hrel
    obtain ⟨hbw, hal⟩ := unhide HR
    obtain ⟨c0, hbw2⟩ := unhide HK0 _ hbw
    by_cases hlt : k < N
    · obtain ⟨h, hat, hN⟩ := unhide HH
      have hkT : k < T.length := by omega
      obtain ⟨gb, o, rfl, hh⟩ := hat (by omega)
      obtain ⟨u, ⟨cc0, cc1, cc2, cc3⟩, hU⟩ := hh wr hbw2 k hkT
      have hnd := ndAt_of hkT
      obtain ⟨⟨pub, mem, ep, un⟩, hn⟩ : ∃ n, n = ndAt T k := ⟨_, rfl⟩
      rw [← hn] at cc0 hnd
      simp only at cc0
      have htk : (T.take (k + 1)).all (fun n => decide (n.pub = 0) || thr L.length n.pub) = (decide (pub = 0) || thr L.length pub) := by
        rw [List.take_add_one, hnd]
        simp only [Option.toList_some, List.all_append, hal, List.all_cons, List.all_nil, Bool.true_and, Bool.and_true]
      by_cases hp0 : pub = 0
      · subst hp0
        have HX : Hid (Below w0.heap.size w0 wr ∧ (T.take (k + 1)).all (fun n => decide (n.pub = 0) || thr L.length n.pub) = true) := ⟨hbw, by rw [htk]; simp⟩
        clear h hat hN hbw hal hkT hh hnd hn htk HR hU cc1 cc2 cc3 hbw2
        go_wp2_with fail
        go_roundw
        case rel => exact ⟨k + 1, by omega, by go_num, unhide HX⟩
        case measure => simp only [intOf]; omega
      · have z1 : (pub == 0) = false := by simpa using hp0
        have z2 : decide (pub = 0) = false := by simpa using hp0
        have z3 : (pub != 0) = true := by simpa using hp0
        rw [z2, Bool.false_or] at htk
        have KH := ris (h.bw hbw2) pub
        cases htp : thr L.length pub
        · have e : pubsB L T = false := by
            unfold pubsB
            rw [List.all_eq_false]
            exact ⟨_, List.mem_of_getElem? hnd, by simp [z2, htp]⟩
          rw [htp] at KH
          have HK := hide KH
          have HE := hide e
          have HB2 := hide hbw2
          clear h hat hN hbw hal hkT hh hnd hn htk HR KH e hbw2 htp hU cc1 cc2 cc3
          go_wp2_with fail
          refine (unhide HK).mono ?_
          rintro e w7 ⟨rfl, y⟩
          go_wp2
          go_ret
          rw [unhide HE]
          exact ⟨rfl, bw_tr (unhide HB2) y⟩
        · rw [htp] at KH htk
          have HK := hide KH
          have HX : Hid (∀ W, Below wr.heap.size wr W → Below w0.heap.size w0 W ∧ (T.take (k + 1)).all (fun n => decide (n.pub = 0) || thr L.length n.pub) = true) := fun W hW => ⟨bw_tr hbw hW, htk⟩
          clear h hat hN hbw hal hkT hh hnd hn htk HR KH htp hU cc1 cc2 cc3 hbw2
          go_wp2_with fail
          refine (unhide HK).mono ?_
          rintro e w7 ⟨rfl, y⟩
          have HX2 := hide (unhide HX _ y)
          clear y HX HK
          go_wp2_with fail
          go_roundw
          case rel => exact ⟨k + 1, by omega, by go_num, unhide HX2⟩
          case measure => simp only [intOf]; omega
    · have e : pubsB L T = true := by
        have := hal
        rw [List.take_of_length_le (by have := (unhide HH).2.2; omega)] at this
        exact this
      have HE := hide e
      have HB := hide hbw2
      clear e HR hbw hal hbw2
      go_wp2
      go_ret
      rw [unhide HE]
      exact ⟨rfl, unhide HB⟩
end Go.Proofs.YtpcpcgagiapinaaGreatDoor.Tn.Pa
