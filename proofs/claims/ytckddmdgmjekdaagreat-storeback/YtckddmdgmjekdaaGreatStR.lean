/- The walk of StoreBack. -/
import Derived.Test.YtckddmdgmjekdaaGreatBaP
namespace Go.Proofs.YtckddmdgmjekdaaGreat
open Go.RowKit Go.Maps

theorem packS_size {l : List PP} (h : packX l = 0) : (packS l).size ≤ 100000000 := by
  obtain ⟨h1, h2⟩ := packX_ok h
  have hf := (packE_ok h2).1
  have h3 := body_len l (fun p hp => ⟨(hf p hp).1, (hf p hp).2.1⟩)
  have h4 := Wi.enc_length (l.length : Int)
  unfold packS
  rw [if_pos h, ← size_list, data_str, packB, List.length_append]
  have h5 := Nat.mul_le_mul_right 131100 h1
  omega
set_option maxRecDepth 100000 in
set_option maxHeartbeats 4000000 in
theorem StoreBack_walk (w : World) (a : Option Addr) (cap : Nat) (l : List PP) (hl : PrsAt w a l) (s : ByteArray) (hs : s.size ≤ 140737488355328) :
    Calls Tryz.prog 3 #[.slice a l.length cap, .string s] w fun e w' => e = .returned (.bool true) ∧ Below w.heap.size w w' := by
  have K1 := hide (size_any (cap := cap) hl)
  have HL := hide hl
  have HS := hide hs
  clear hl hs
  obtain ⟨L, hL⟩ : ∃ L, L = l.length := ⟨_, rfl⟩
  have HLe := hide hL
  rw [← hL] at K1 ⊢
  clear hL
  go_enter Tryz.func3, Tryz.ntmps3
  go_wp2_with fail
  refine (unhide K1).mono ?_
  rintro e W1 ⟨N, rfl, hN1, hN2, b1⟩
  obtain ⟨X1, hX1⟩ : ∃ X, X = W1.alloc (.cells #[.int .i64 (N : Int)] 3) := ⟨_, rfl⟩
  have q1 : X1.heap[W1.heap.size]? = some (.cells #[.int .i64 (N : Int)] 3 (0, 0)) := by rw [hX1]; exact heap_alloc_new _ _
  have KB := hide (beyond7_one W1.heap.size N 1 X1 hN2 (by simp [World.cell?, q1]))
  have HB1 : Hid (Below w.heap.size w X1) := bw_tr b1 (by rw [hX1]; exact bw_alloc _ _)
  have HX1 := hide hX1
  clear K1 b1 q1 hN1 hN2
  go_wp2_with fail
  rw [← unhide HX1]
  clear hX1
  refine (unhide KB).mono ?_
  rintro e w2 ⟨rfl, rfl⟩
  clear KB HX1
  by_cases hbig : 262144 < N
  · rw [decide_eq_true hbig]
    go_wp2_with fail
    go_ret
    exact ⟨rfl, unhide HB1⟩
  rw [decide_eq_false hbig]
  clear hbig
  have K2 := hide (pack_any (cap := cap) ((unhide HL).bw (unhide HB1)))
  rw [← unhide HLe] at K2
  go_wp2_with fail
  refine (unhide K2).mono ?_
  rintro e W3 ⟨rfl, b3⟩
  clear K2
  by_cases hx : packX l = 0
  · rw [hx]
    have hsz := packS_size hx
    have K3 := hide (unpack_any (packS l) W3 (by omega))
    have hu : unpackP (packS l) = some l := by unfold packS; rw [if_pos hx]; exact unpackP_pack hx
    have HU := hide hu
    have HB3 := hide (bw_tr (unhide HB1) b3)
    generalize packS l = ps at *
    clear b3 hsz hu hx
    go_wp2_with fail
    refine (unhide K3).mono ?_
    clear K3
    rintro e W4 ⟨b4, ⟨hu, rfl⟩ | ⟨l', v, hu, rfl, hP, hn⟩⟩
    · exact absurd (hu.symm.trans (unhide HU)) (by simp)
    obtain rfl : l = l' := by rw [unhide HU] at hu; simpa using hu
    obtain ⟨a', c', rfl, hA⟩ := hP.read (unhide HL).len (unhide HL).fit
    have bb := bw_tr (unhide HB3) b4
    have K4 := hide (same7_any (ca := c') (cb := cap) hA ((unhide HL).bw bb))
    rw [← unhide HLe] at K4 ⊢
    have HB4 := hide bb
    clear hu hP hn hA b4 bb HU
    go_wp2_with fail
    refine (unhide K4).mono ?_
    rintro e WQ ⟨z, rfl, hz, b5⟩
    obtain rfl : z = true := by simpa using hz
    have bQ := bw_tr (unhide HB4) b5
    clear K4 hz b5 HB4 HB3
    have K3 := hide (unpack_any s WQ (unhide HS))
    have HBQ := hide bQ
    clear bQ
    go_wp2_with fail
    refine (unhide K3).mono ?_
    clear K3
    rintro e WR ⟨bR, ⟨hu, rfl⟩ | ⟨l', v, hu, rfl, hP, hn⟩⟩
    · have KA := hide (alive7_any WR)
      have HB := hide (bw_tr (unhide HBQ) bR)
      clear hu bR
      go_wp2_with (first | (go_at_call 14; refine (unhide KA).mono ?_; rintro e w3 ⟨rfl, b3⟩))
      go_ret
      exact ⟨rfl, bw_tr (unhide HB) b3⟩
    · obtain ⟨x1, x2, x3⟩ := unpackP_some hu
      obtain ⟨q1, q2⟩ := unpackT_some x3
      obtain ⟨a', c', rfl, hA⟩ := hP.read (by omega) (fun x hx => by have := q2 x hx; omega)
      have K4 := hide (pack_any (cap := c') hA)
      rw [x1, show packS l' = s from by unfold packS; rw [if_pos x1, x2]] at K4
      have HB := hide (bw_tr (unhide HBQ) bR)
      clear hu bR hP hn hA x1 x2 x3 q1 q2
      go_wp2_with fail
      refine (unhide K4).mono ?_
      rintro e WS ⟨rfl, bS⟩
      have KA := hide (alive7_any WS)
      have HB2 := hide (bw_tr (unhide HB) bS)
      clear bS K4
      go_wp2_with (first | (go_at_call 14; refine (unhide KA).mono ?_; rintro e w3 ⟨rfl, b3⟩))
      go_ret
      exact ⟨rfl, bw_tr (unhide HB2) b3⟩
  · have hx2 : (packX l == 0) = false := by simp [hx]
    have hx3 : decide (packX l = 0) = false := decide_eq_false hx
    have bQ := bw_tr (unhide HB1) b3
    generalize packX l = y at *
    generalize packS l = ps at *
    obtain ⟨WQ, hWQ⟩ : ∃ WQ, WQ = W3 := ⟨_, rfl⟩
    subst hWQ
    clear b3
    have K3 := hide (unpack_any s WQ (unhide HS))
    have HBQ := hide bQ
    clear bQ
    go_wp2_with fail
    refine (unhide K3).mono ?_
    clear K3
    rintro e WR ⟨bR, ⟨hu, rfl⟩ | ⟨l', v, hu, rfl, hP, hn⟩⟩
    · have KA := hide (alive7_any WR)
      have HB := hide (bw_tr (unhide HBQ) bR)
      clear hu bR
      go_wp2_with (first | (go_at_call 14; refine (unhide KA).mono ?_; rintro e w3 ⟨rfl, b3⟩))
      go_ret
      exact ⟨rfl, bw_tr (unhide HB) b3⟩
    · obtain ⟨x1, x2, x3⟩ := unpackP_some hu
      obtain ⟨q1, q2⟩ := unpackT_some x3
      obtain ⟨a', c', rfl, hA⟩ := hP.read (by omega) (fun x hx => by have := q2 x hx; omega)
      have K4 := hide (pack_any (cap := c') hA)
      rw [x1, show packS l' = s from by unfold packS; rw [if_pos x1, x2]] at K4
      have HB := hide (bw_tr (unhide HBQ) bR)
      clear hu bR hP hn hA x1 x2 x3 q1 q2
      go_wp2_with fail
      refine (unhide K4).mono ?_
      rintro e WS ⟨rfl, bS⟩
      have KA := hide (alive7_any WS)
      have HB2 := hide (bw_tr (unhide HB) bS)
      clear bS K4
      go_wp2_with (first | (go_at_call 14; refine (unhide KA).mono ?_; rintro e w3 ⟨rfl, b3⟩))
      go_ret
      exact ⟨rfl, bw_tr (unhide HB2) b3⟩
end Go.Proofs.YtckddmdgmjekdaaGreat
