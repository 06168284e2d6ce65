/- SchedTells, the walk. -/
import Derived.Test.YtcbafeneaoaglaaGreatDoorZ25
namespace Go.Proofs.YtcbafeneaoaglaaGreatDoor.Tn
open Go.RowKit Go.Maps

set_option maxRecDepth 100000 in
set_option maxHeartbeats 8000000 in
theorem SchedTells_walk (w : World) (hT : Tab w) (la : Option Addr) (lc : Nat) (l : List Tm) (hl : Tms w (.slice la l.length lc) l) (hok : ∀ t ∈ l, t.ok) (gr ep : Int) (hg : -9223372036854775808 ≤ gr ∧ gr ≤ 9223372036854775807) (he : -9223372036854775808 ≤ ep ∧ ep ≤ 9223372036854775807) (v : Value) (T : List Nd) (h : Trd w v T) (hr : Trng T) (ii cc xx : Int) (hi : -9223372036854775808 ≤ ii ∧ ii ≤ 9223372036854775807) (hc : -9223372036854775808 ≤ cc ∧ cc ≤ 9223372036854775807) (hx : -9223372036854775808 ≤ xx ∧ xx ≤ 9223372036854775807) :
    Calls Tryz.prog 3 #[.slice la l.length lc, .int .i64 gr, .int .i64 ep, .agg #[v], .int .i64 ii, .int .i64 cc, .int .i64 xx] w fun e w' => e = .returned (.bool true) ∧ Below w.heap.size w w' := by
  obtain ⟨a, c, rfl⟩ := h.slice
  obtain ⟨W0, hW0⟩ : ∃ W0, W0 = w.alloc (.cells #[.slice a T.length c] 25) := ⟨_, rfl⟩
  have x0 : Below w.heap.size w W0 := by rw [hW0]; exact bwA' _ _
  have k0 : W0.heap[w.heap.size]? = some (.cells #[.slice a T.length c] 25 (0, 0)) := by rw [hW0]; exact heap_alloc_new _ _
  have KT := treeSize2_any (h.bw x0)
  obtain ⟨N, hN⟩ : ∃ N, N = T.length := ⟨_, rfl⟩
  obtain ⟨M, hM⟩ : ∃ M, M = l.length := ⟨_, rfl⟩
  have hlen := (hl.get).1
  rw [← hM] at hlen ⊢
  rw [← hN] at KT hW0 k0 ⊢
  have HW := hide hW0
  have HBX : Hid (∀ W, Below W0.heap.size W0 W → W.cell? ⟨w.heap.size, 0, none⟩ = some (.slice a N c) ∧ Below w.heap.size w W) := fun W hW => ⟨blk_cell (kept_blk k0 hW) rfl, bw_tr x0 hW⟩
  have HH := hide (And.intro hT (And.intro h (And.intro hr (And.intro hN (And.intro hl (And.intro hok hM))))))
  have HG := hide (And.intro hg (And.intro he (And.intro hi (And.intro hc hx))))
  have KT2 := hide KT
  have hMI : (M : Int) ≤ 140737488355328 := by omega
  have KE : Hid (∀ W, Below w.heap.size w W → Calls Tryz.prog 19 #[] W fun e w' => e = .returned (.bool true) ∧ Below w.heap.size w w') := fun W hW => lives10 hT hW
  have c0 := blk_cell (i := 0) k0 rfl
  clear hT h hr hN hl hok hM hg he hi hc hx KT hW0 x0 k0
  by_cases hbig : 2000 < M
  · have hbI : (2000 : Int) < (M : Int) := by omega
    clear hlen
    go_enter Tryz.func3, Tryz.ntmps3
    go_upto_region 1 with fail
    rw [← unhide HW]
    go_wp2
    go_ret
    exact ⟨rfl, (unhide HBX _ (Below.refl _ _)).2⟩
  have hsm : (M : Int) ≤ 2000 := by omega
  have hsmN : M ≤ 2000 := by omega
  have hsmH := hide hsmN
  clear hbig hlen hsmN
  go_enter Tryz.func3, Tryz.ntmps3
  go_upto_region 1 with fail
  rw [← unhide HW]
  go_wp2_with fail
  refine (unhide KT2).mono ?_
  rintro e W1 ⟨n, rfl, hn, hsum, b1⟩
  have b2 : Below W0.heap.size W0 (W1.alloc (.cells #[.int .i64 (n : Int)] 3)) := b1.alloc b1.size _
  have KBy := hide (beyond8 W1.heap.size n 1 (W1.alloc (.cells #[.int .i64 (n : Int)] 3)) hn (blk_cell (heap_alloc_new W1 _) rfl))
  obtain ⟨WB, hWB⟩ : ∃ WB, WB = W1.alloc (.cells #[.int .i64 (n : Int)] 3) := ⟨_, rfl⟩
  rw [← hWB] at KBy b2
  have HWB := hide hWB
  have HSZ : Hid (decide (262144 < n) = false → T.length ≤ 262144 ∧ ∀ x ∈ T, x.un.length ≤ 1048576) := fun q => by
    have hle : n ≤ 262144 := by simpa using q
    have hs := hsum hle
    have hNT := (unhide HH).2.2.2.1
    exact ⟨by omega, fun x hx => by have := usum_mem hx; omega⟩
  have B2 := hide b2
  clear hWB KT2 HW hn b1 hsum b2 c0
  generalize decide (262144 < n) = by_ at *
  obtain ⟨c0, hbw⟩ := unhide HBX _ (unhide B2)
  go_wp2_with fail
  rw [← unhide HWB]
  refine (unhide KBy).mono ?_
  rintro e WB ⟨rfl, rfl⟩
  clear KBy HWB
  cases by_
  rotate_left
  · go_wp2_with fail
    go_ret
    exact ⟨rfl, hbw⟩
  have HSZ2 := hide (unhide HSZ rfl)
  have hbwH := hide hbw
  clear HSZ hbw
  -- the stores
  have KB : Hid (Calls Tryz.prog 7 #[.slice la M lc] WB fun e w' => ∃ b sv mb rb rv, e = .returned (.tuple #[.pointer (some ⟨b, 0, none⟩), .pointer (some ⟨rb, 0, none⟩), .bool true]) ∧ Two WB w' b sv mb rb rv (fillL [] l) (fillL [] l)) := by
    obtain ⟨-, -, -, -, hl, hok, hM⟩ := unhide HH
    have := build_any WB la lc l (by have := hl.bw (unhide hbwH); exact this) hok (by have := unhide hsmH; omega)
    rw [← hM] at this
    exact this
  obtain ⟨L0, hL0⟩ : ∃ L0, L0 = fillL [] l := ⟨_, rfl⟩
  have hL0l : Hid (L0.length ≤ 2000) := by have := fillL_len l []; have := unhide hsmH; have := (unhide HH).2.2.2.2.2.2; unfold Hid; rw [hL0]; simp at *; omega
  rw [← hL0] at KB
  clear hL0
  go_wp2_with fail
  refine (unhide KB).mono ?_
  rintro e W3 ⟨b, sv, mb, rb, rv, rfl, tw⟩
  have TW := hide tw
  obtain ⟨cb, -⟩ := unhide HBX _ (bw_tr (unhide B2) tw.bel)
  have KTw : Hid (Calls Tryz.prog 8 #[.agg #[.slice a N c]] W3 fun e w' => ∃ g us, e = .returned (.agg #[.slice (some ⟨g, 0, none⟩) N (N + 2)]) ∧ TwT W3.heap.size w' g T us ∧ Below W3.heap.size W3 w') := by
    obtain ⟨-, h, -, hN, -⟩ := unhide HH
    have := twinTree_any W3 _ T (h.bw (bw_tr (unhide hbwH) (unhide TW).bel)) (by have := (unhide HSZ2).1; omega) (unhide HSZ2).2
    rw [← hN] at this
    exact this
  clear tw KB c0
  go_wp2_with fail
  refine (unhide KTw).mono ?_
  rintro e W4 ⟨G, us, rfl, ht, b4⟩
  obtain ⟨Q0, hQ0⟩ : ∃ Q, Q = W4.alloc (.cells #[.slice (some ⟨G, 0, none⟩) N (N + 2)] 25) := ⟨_, rfl⟩
  obtain ⟨qb, hqb⟩ : ∃ qb, qb = W4.heap.size := ⟨_, rfl⟩
  obtain ⟨BB, hBB⟩ : ∃ BB, BB = W3.heap.size := ⟨_, rfl⟩
  have S0 : Hid (ST WB Q0 b sv mb rb rv L0 L0 BB G T us [(qb, #[.slice (some ⟨G, 0, none⟩) N (N + 2)], 25)]) := by
    have h1 : ST WB W4 b sv mb rb rv L0 L0 BB G T us [] := ⟨(unhide TW).new b4, by rw [hBB]; exact ht, fun x hx => by cases hx⟩
    have := h1.put #[.slice (some ⟨G, 0, none⟩) N (N + 2)] 25 (Or.inl rfl)
    rw [← hQ0, ← hqb] at this
    exact this
  have HQ0 := hide (And.intro hQ0 hqb)
  clear hQ0 hqb hBB ht b4 KTw TW cb
  -- facts that all steps use
  have HTB : Hid (∀ W, Below WB.heap.size WB W → W.cell? ⟨w.heap.size, 0, none⟩ = some (.slice a N c) ∧ Below w.heap.size w W ∧ Tab W ∧ Trd W (.slice a N c) T) := fun W hW => by
    obtain ⟨q1, q2⟩ := unhide HBX _ (bw_tr (unhide B2) hW)
    obtain ⟨hT, h, -, hN, -⟩ := unhide HH
    refine ⟨q1, q2, hT.bw q2, ?_⟩
    have := h.bw q2
    rw [← hN] at this
    exact this
  have HQ : Hid (∀ (W : World) (sv rv : Value) (L R : List Tm) (bs : List (Nat × Array Value × TypeId)), ST WB W b sv mb rb rv L R BB G T us bs → OTr BB W (.slice (some ⟨G, 0, none⟩) N (N + 2)) T us ∧ Trd W (.slice (some ⟨G, 0, none⟩) N (N + 2)) T) := fun W sv rv L R bs st => by
    have h1 := st.tw.otr (unhide HSZ2).2
    have h2 := h1.trd (by have := (unhide HSZ2).1; omega) (fun x hx => by have := (unhide HSZ2).2 x hx; omega)
    obtain ⟨-, -, -, hN, -⟩ := unhide HH
    rw [← hN] at h1 h2
    exact ⟨h1, h2⟩
  have KC1 : Hid (∀ (W : World) (sv rv : Value) (L R : List Tm) (bs : List (Nat × Array Value × TypeId)), ST WB W b sv mb rb rv L R BB G T us bs → L.length + 400 ≤ 1048576 → Calls Tryz.prog 9 #[.pointer (some ⟨b, 0, none⟩), .int .i64 gr, .int .i64 ep, .agg #[.slice (some ⟨G, 0, none⟩) N (N + 2)]] W fun e_ w' => e_ = .returned (.tuple #[.int .i64 (cxN L gr ep T : Nat), .int .i64 (cxE L T)]) ∧ ∃ sv', ST WB w' b sv' mb rb rv (cxL L gr ep T) R BB G T us bs) := fun W sv rv L R bs st hl => by
    obtain ⟨o1, o2⟩ := unhide HQ _ _ _ _ _ _ st
    refine (context_any st.two.st gr ep (unhide HG).1 (unhide HG).2.1 _ T (otr_fix o1 st.two.st) o2 (unhide HTB W st.two.bel).2.2.1 (unhide HH).2.2.1 hl).mono ?_
    rintro e' w' ⟨h1, sv', s⟩
    exact ⟨h1, sv', st.stepS s⟩
  have KC2 : Hid (∀ (W : World) (sv rv : Value) (L R : List Tm) (bs : List (Nat × Array Value × TypeId)), ST WB W b sv mb rb rv L R BB G T us bs → R.length + 400 ≤ 1048576 → Calls Tryz.prog 10 #[.pointer (some ⟨rb, 0, none⟩), .int .i64 gr, .int .i64 ep, .agg #[.slice a N c]] W fun e_ w' => e_ = .returned (.tuple #[.int .i64 (cxN R gr ep T : Nat), .int .i64 (cxE R T)]) ∧ ∃ rv', ST WB w' b sv mb rb rv' L (cxL R gr ep T) BB G T us bs) := fun W sv rv L R bs st hl => by
    obtain ⟨-, q2, -, q4⟩ := unhide HTB W st.two.bel
    obtain ⟨-, h, hr, hN, -⟩ := unhide HH
    rw [← hN] at h
    refine (rcontext_any st.two.rs gr ep (unhide HG).1 (unhide HG).2.1 _ T (trd_rfix h q2 (fun x hx => Nat.le_trans (unhide hbwH).size (st.two.rlow x hx))) q4 hr hl).mono ?_
    rintro e' w' ⟨h1, rv', s⟩
    exact ⟨h1, rv', st.stepR s⟩
  have KN1 : Hid (∀ (W : World) (sv rv : Value) (L R : List Tm) (bs : List (Nat × Array Value × TypeId)), ST WB W b sv mb rb rv L R BB G T us bs → L.length + 160 ≤ 1048576 → Calls Tryz.prog 11 #[.pointer (some ⟨b, 0, none⟩), .int .i64 ii, .int .i64 cc, .int .i64 xx] W fun e_ w' => e_ = .returned (.tuple #[secA (nxtV L ii cc xx), .int .i64 (nxtE L ii cc xx)]) ∧ ∃ sv', ST WB w' b sv' mb rb rv (nxtL L ii cc xx) R BB G T us bs) := fun W sv rv L R bs st hl => by
    refine (next_any st.two.st ii cc xx hl).mono ?_
    rintro e' w' ⟨h1, sv', s⟩
    exact ⟨h1, sv', st.stepS s⟩
  have KN2 : Hid (∀ (W : World) (sv rv : Value) (L R : List Tm) (bs : List (Nat × Array Value × TypeId)), ST WB W b sv mb rb rv L R BB G T us bs → R.length + 160 ≤ 1048576 → Calls Tryz.prog 12 #[.pointer (some ⟨rb, 0, none⟩), .int .i64 ii, .int .i64 cc, .int .i64 xx] W fun e_ w' => e_ = .returned (.tuple #[secA (nxtV R ii cc xx), .int .i64 (nxtE R ii cc xx)]) ∧ ∃ rv', ST WB w' b sv mb rb rv' L (nxtL R ii cc xx) BB G T us bs) := fun W sv rv L R bs st hl => by
    refine (rnext_any st.two.rs ii cc xx (unhide HG).2.2.1 (unhide HG).2.2.2.1 (by omega)).mono ?_
    rintro e' w' ⟨h1, rv', s⟩
    exact ⟨h1, rv', st.stepR s⟩
  have KF1 : Hid (∀ (W : World) (sv rv : Value) (L R : List Tm) (bs : List (Nat × Array Value × TypeId)), ST WB W b sv mb rb rv L R BB G T us bs → L.length + 160 ≤ 1048576 → Calls Tryz.prog 13 #[.pointer (some ⟨b, 0, none⟩), .int .i64 ii, .int .i64 xx] W fun e_ w' => e_ = .returned (.tuple #[secA (frV L ii xx), .int .i64 (frE L ii xx)]) ∧ ∃ sv', ST WB w' b sv' mb rb rv (frL L ii xx) R BB G T us bs) := fun W sv rv L R bs st hl => by
    refine (from_any st.two.st ii xx hl).mono ?_
    rintro e' w' ⟨h1, sv', s⟩
    exact ⟨h1, sv', st.stepS s⟩
  have KF2 : Hid (∀ (W : World) (sv rv : Value) (L R : List Tm) (bs : List (Nat × Array Value × TypeId)), ST WB W b sv mb rb rv L R BB G T us bs → R.length + 160 ≤ 1048576 → Calls Tryz.prog 14 #[.pointer (some ⟨rb, 0, none⟩), .int .i64 ii, .int .i64 xx] W fun e_ w' => e_ = .returned (.tuple #[secA (frV R ii xx), .int .i64 (frE R ii xx)]) ∧ ∃ rv', ST WB w' b sv mb rb rv' L (frL R ii xx) BB G T us bs) := fun W sv rv L R bs st hl => by
    refine (rfrom_any st.two.rs ii xx (by omega)).mono ?_
    rintro e' w' ⟨h1, rv', s⟩
    exact ⟨h1, rv', st.stepR s⟩
  -- the plain answers
  obtain ⟨L1, hL1⟩ : ∃ L1, L1 = cxL L0 gr ep T := ⟨_, rfl⟩
  obtain ⟨X, hX⟩ : ∃ X : Nat, X = cxN L0 gr ep T := ⟨_, rfl⟩
  obtain ⟨EC, hEC⟩ : ∃ EC : Int, EC = cxE L0 T := ⟨_, rfl⟩
  obtain ⟨L2, hL2⟩ : ∃ L2, L2 = nxtL L1 ii cc xx := ⟨_, rfl⟩
  obtain ⟨EN, hEN⟩ : ∃ EN : Int, EN = nxtE L1 ii cc xx := ⟨_, rfl⟩
  obtain ⟨L3, hL3⟩ : ∃ L3, L3 = frL L2 ii xx := ⟨_, rfl⟩
  obtain ⟨EF, hEF⟩ : ∃ EF : Int, EF = frE L2 ii xx := ⟨_, rfl⟩
  have R1 := cx_rng (L := L0) gr ep (unhide HH).2.2.1 (by have := unhide hL0l; omega)
  rw [← hL1, ← hX] at R1
  have R2 := nxt_rng (L := L1) ii cc xx (by have := unhide hL0l; omega)
  rw [← hL2] at R2
  have R3 := fr_rng (L := L2) ii xx (by have := unhide hL0l; omega)
  rw [← hL3] at R3
  obtain ⟨p0, p1, p2, p3, p4, p5, hp⟩ : ∃ p0 p1 p2 p3 p4 p5, nxtV L1 ii cc xx = [p0, p1, p2, p3, p4, p5] := by unfold nxtV; split; exact ⟨_, _, _, _, _, _, rfl⟩; exact ⟨_, _, _, _, _, _, rfl⟩
  obtain ⟨q0, q1, q2, q3, q4, q5, hq⟩ : ∃ q0 q1 q2 q3 q4 q5, frV L2 ii xx = [q0, q1, q2, q3, q4, q5] := by unfold frV; split; exact ⟨_, _, _, _, _, _, rfl⟩; exact ⟨_, _, _, _, _, _, rfl⟩
  rw [hp] at R2
  rw [hq] at R3
  have HR : Hid (L0.length ≤ 2000 ∧ L1.length ≤ 2300 ∧ L2.length ≤ 2310 ∧ L3.length ≤ 2320 ∧ X ≤ L3.length ∧ (∀ z ∈ [p0, p1, p2, p3, p4, p5], 0 ≤ z ∧ z ≤ (L3.length : Int)) ∧ (∀ z ∈ [q0, q1, q2, q3, q4, q5], 0 ≤ z ∧ z ≤ (L3.length : Int))) := by
    have := unhide hL0l
    exact ⟨by omega, by omega, by omega, by omega, by omega, fun z hz => by have := R2.1 z hz; omega, R3.1⟩
  have K1 := hide (unhide KC1 Q0 sv rv L0 L0 _ (unhide S0) (by have := unhide HR; omega))
  rw [← hL1, ← hX, ← hEC] at K1
  clear R1 R2 R3
  go_upto_region 7 with fail
  rw [← (unhide HQ0).2, ← (unhide HQ0).1]
  clear HQ0
  have cq : Q0.cell? ⟨qb, 0, none⟩ = some (.slice (some ⟨G, 0, none⟩) N (N + 2)) := blk_cell ((unhide S0).bl (qb, #[.slice (some ⟨G, 0, none⟩) N (N + 2)], 25) (by simp)).1 rfl
  have HPL := hide (And.intro hL1 (And.intro hX (And.intro hEC (And.intro hL2 (And.intro hEN (And.intro hL3 (And.intro hEF (And.intro hp hq))))))))
  clear hL1 hX hEC hL2 hEN hL3 hEF hp hq
  go_wp2_with fail
  refine (unhide K1).mono ?_
  rintro e Q1 ⟨rfl, sv1, st1⟩
  have S1 := hide st1
  have K2 := hide (unhide KC2 Q1 sv1 rv L1 L0 _ st1 (by have := unhide HR; omega))
  rw [← (unhide HPL).1, ← (unhide HPL).2.1, ← (unhide HPL).2.2.1] at K2
  obtain ⟨ct, -⟩ := unhide HTB _ st1.two.bel
  clear st1 K1 cq S0 KC1
  go_wp2_with fail
  refine (unhide K2).mono ?_
  rintro e Q2 ⟨rfl, rv2, st2⟩
  have K3 := hide (unhide KN1 Q2 sv1 rv2 L1 L1 _ st2 (by have := unhide HR; omega))
  rw [← (unhide HPL).2.2.2.1, ← (unhide HPL).2.2.2.2.1, (unhide HPL).2.2.2.2.2.2.2.1, secA6] at K3
  clear st2 K2 ct S1 KC2
  go_wp2_with fail
  refine (unhide K3).mono ?_
  rintro e Q3' ⟨rfl, sv3, st3'⟩
  obtain ⟨Q3, hQ3⟩ : ∃ Q, Q = Q3'.alloc (.cells #[.int .i64 p0, .int .i64 p1, .int .i64 p2, .int .i64 p3, .int .i64 p4, .int .i64 p5] 38) := ⟨_, rfl⟩
  obtain ⟨pa, hpa⟩ : ∃ pa, pa = Q3'.heap.size := ⟨_, rfl⟩
  have st3 := st3'.put #[.int .i64 p0, .int .i64 p1, .int .i64 p2, .int .i64 p3, .int .i64 p4, .int .i64 p5] 38 (Or.inr rfl)
  rw [← hQ3, ← hpa] at st3
  have HQ3 := hide (And.intro hQ3 hpa)
  have K4 := hide (unhide KN2 Q3 sv3 rv2 L2 L1 _ st3 (by have := unhide HR; omega))
  rw [← (unhide HPL).2.2.2.1, ← (unhide HPL).2.2.2.2.1, (unhide HPL).2.2.2.2.2.2.2.1, secA6] at K4
  clear st3' st3 hQ3 hpa K3 KN1
  go_upto_region 10 with fail
  rw [← (unhide HQ3).2, ← (unhide HQ3).1]
  clear HQ3
  go_wp2_with fail
  refine (unhide K4).mono ?_
  rintro e Q4' ⟨rfl, rv4, st4'⟩
  obtain ⟨Q4, hQ4⟩ : ∃ Q, Q = Q4'.alloc (.cells #[.int .i64 p0, .int .i64 p1, .int .i64 p2, .int .i64 p3, .int .i64 p4, .int .i64 p5] 38) := ⟨_, rfl⟩
  obtain ⟨pb, hpb⟩ : ∃ pb, pb = Q4'.heap.size := ⟨_, rfl⟩
  have st4 := st4'.put #[.int .i64 p0, .int .i64 p1, .int .i64 p2, .int .i64 p3, .int .i64 p4, .int .i64 p5] 38 (Or.inr rfl)
  rw [← hQ4, ← hpb] at st4
  have HQ4 := hide (And.intro hQ4 hpb)
  have K5 := hide (unhide KF1 Q4 sv3 rv4 L2 L2 _ st4 (by have := unhide HR; omega))
  rw [← (unhide HPL).2.2.2.2.2.1, ← (unhide HPL).2.2.2.2.2.2.1, (unhide HPL).2.2.2.2.2.2.2.2, secA6] at K5
  clear st4' st4 hQ4 hpb K4 KN2
  go_upto_region 11 with fail
  rw [← (unhide HQ4).2, ← (unhide HQ4).1]
  clear HQ4
  go_wp2_with fail
  refine (unhide K5).mono ?_
  rintro e Q5' ⟨rfl, sv5, st5'⟩
  obtain ⟨Q5, hQ5⟩ : ∃ Q, Q = Q5'.alloc (.cells #[.int .i64 q0, .int .i64 q1, .int .i64 q2, .int .i64 q3, .int .i64 q4, .int .i64 q5] 38) := ⟨_, rfl⟩
  obtain ⟨pc, hpc⟩ : ∃ pc, pc = Q5'.heap.size := ⟨_, rfl⟩
  have st5 := st5'.put #[.int .i64 q0, .int .i64 q1, .int .i64 q2, .int .i64 q3, .int .i64 q4, .int .i64 q5] 38 (Or.inr rfl)
  rw [← hQ5, ← hpc] at st5
  have HQ5 := hide (And.intro hQ5 hpc)
  have K6 := hide (unhide KF2 Q5 sv5 rv4 L3 L2 _ st5 (by have := unhide HR; omega))
  rw [← (unhide HPL).2.2.2.2.2.1, ← (unhide HPL).2.2.2.2.2.2.1, (unhide HPL).2.2.2.2.2.2.2.2, secA6] at K6
  clear st5' st5 hQ5 hpc K5 KF1
  go_upto_region 12 with fail
  rw [← (unhide HQ5).2, ← (unhide HQ5).1]
  clear HQ5
  go_wp2_with fail
  refine (unhide K6).mono ?_
  rintro e Q6' ⟨rfl, rv6, st6'⟩
  obtain ⟨Q6, hQ6⟩ : ∃ Q, Q = Q6'.alloc (.cells #[.int .i64 q0, .int .i64 q1, .int .i64 q2, .int .i64 q3, .int .i64 q4, .int .i64 q5] 38) := ⟨_, rfl⟩
  obtain ⟨pd, hpd⟩ : ∃ pd, pd = Q6'.heap.size := ⟨_, rfl⟩
  have st6 := st6'.put #[.int .i64 q0, .int .i64 q1, .int .i64 q2, .int .i64 q3, .int .i64 q4, .int .i64 q5] 38 (Or.inr rfl)
  rw [← hQ6, ← hpd] at st6
  have HQ6 := hide (And.intro hQ6 hpd)
  -- across
  have KA : Hid (Calls Tryz.prog 15 #[.pointer (some ⟨b, 0, none⟩), .pointer (some ⟨rb, 0, none⟩)] Q6 fun e w' => ∃ mp, e = .returned (.tuple #[.pointer (some ⟨mp, 0, none⟩), .bool true]) ∧ Below WB.heap.size WB w' ∧ TwT BB w' G T us ∧ (w'.heap[qb]? = some (.cells #[.slice (some ⟨G, 0, none⟩) N (N + 2)] 25 (0, 0)) ∧ w'.heap[pa]? = some (.cells #[.int .i64 p0, .int .i64 p1, .int .i64 p2, .int .i64 p3, .int .i64 p4, .int .i64 p5] 38 (0, 0)) ∧ w'.heap[pb]? = some (.cells #[.int .i64 p0, .int .i64 p1, .int .i64 p2, .int .i64 p3, .int .i64 p4, .int .i64 p5] 38 (0, 0)) ∧ w'.heap[pc]? = some (.cells #[.int .i64 q0, .int .i64 q1, .int .i64 q2, .int .i64 q3, .int .i64 q4, .int .i64 q5] 38 (0, 0)) ∧ w'.heap[pd]? = some (.cells #[.int .i64 q0, .int .i64 q1, .int .i64 q2, .int .i64 q3, .int .i64 q4, .int .i64 q5] 38 (0, 0))) ∧ ∀ W, Below w'.heap.size w' W → ∀ k : Nat, k ≤ L3.length → Calls Tryz.prog 16 #[.pointer (some ⟨mp, 0, none⟩), .int .i64 (k : Int), .int .i64 (k : Int)] W fun e w' => e = .returned (.bool true) ∧ w' = W) := by
    refine (acrossx_any WB Q6 b sv5 mb rb rv6 L3 L3 st6.two (by have := unhide HR; omega) (by have := unhide HR; omega)).mono ?_
    rintro e w' ⟨mp, lv, rv', R', ph, h1, hAc, hAr, hpre, hfr⟩
    have hlen := hAr.len
    have hid := hAr.ident hAc.two.st.good hpre
    obtain ⟨g9, cp, rfl, _⟩ := hAc.form (by omega)
    have st7 : ∀ x ∈ [(pd, #[.int .i64 q0, .int .i64 q1, .int .i64 q2, .int .i64 q3, .int .i64 q4, .int .i64 q5], 38), (pc, #[.int .i64 q0, .int .i64 q1, .int .i64 q2, .int .i64 q3, .int .i64 q4, .int .i64 q5], 38), (pb, #[.int .i64 p0, .int .i64 p1, .int .i64 p2, .int .i64 p3, .int .i64 p4, .int .i64 p5], 38), (pa, #[.int .i64 p0, .int .i64 p1, .int .i64 p2, .int .i64 p3, .int .i64 p4, .int .i64 p5], 38), (qb, #[Value.slice (some ⟨G, 0, none⟩) N (N + 2)], 25)], w'.heap[x.1]? = some (.cells x.2.1 x.2.2 (0, 0)) := fun x hx =>
      kept_rfr (st6.bl x hx).1 st6.two.rs hfr (by rcases (st6.bl x hx).2 with q | q <;> rw [q] <;> decide) (by rcases (st6.bl x hx).2 with q | q <;> rw [q] <;> decide)
    refine ⟨mp, h1, hAc.two.bel, twt_keep st6.tw (fun k cs t e ht => hfr.block k (lt_of_blk e) (st6.two.rs.notin e (by rcases ht with rfl | rfl <;> decide) (by rcases ht with rfl | rfl <;> decide))), ⟨st7 (qb, _, _) (by simp), st7 (pa, _, _) (by simp), st7 (pb, _, _) (by simp), st7 (pc, _, _) (by simp), st7 (pd, _, _) (by simp)⟩, fun W hW k hk => ?_⟩
    have c1 := hAc.at (i := k) (by omega)
    rw [hid k hk] at c1
    refine msame_any mp g9 ph.length cp k W (by omega) (by have := unhide HR; omega) ?_ ?_
    · rw [hW.cell (lt_of_cell hAc.cells.1)]; exact hAc.cells.1
    · rw [hW.cell (lt_of_cell c1)]; exact c1
  clear st6' st6 hQ6 hpd K6 KF2
  go_upto_region 13 with fail
  rw [← (unhide HQ6).2, ← (unhide HQ6).1]
  clear HQ6
  go_wp2_with fail
  refine (unhide KA).mono ?_
  rintro e V0 ⟨mp, rfl, bV, tV, kV, sV⟩
  have HSm := hide sV
  have HTV := hide tV
  have BV := hide bV
  have HKV := hide kV
  have KX := hide (sV V0 (Below.refl _ _) X (unhide HR).2.2.2.2.1)
  have KSe : ∀ W, Below V0.heap.size V0 W → ∀ z0 z1 z2 z3 z4 z5 : Int, (∀ z ∈ [z0, z1, z2, z3, z4, z5], 0 ≤ z ∧ z ≤ (L3.length : Int)) → Calls Tryz.prog 17 #[.pointer (some ⟨mp, 0, none⟩), .agg #[.int .i64 z0, .int .i64 z1, .int .i64 z2, .int .i64 z3, .int .i64 z4, .int .i64 z5], .agg #[.int .i64 z0, .int .i64 z1, .int .i64 z2, .int .i64 z3, .int .i64 z4, .int .i64 z5]] W fun e w' => e = .returned (.bool true) ∧ Below W.heap.size W w' := fun W hW z0 z1 z2 z3 z4 z5 hz => by
    refine msecrets_any mp W z0 z1 z2 z3 z4 z5 (fun W' hW' z hz' => ?_)
    have hz2 := hz z hz'
    obtain ⟨k, rfl⟩ : ∃ k : Nat, z = k := ⟨z.toNat, by omega⟩
    exact sV W' (bw_tr hW hW') k (by omega)
  have KP := hide (KSe V0 (Below.refl _ _) p0 p1 p2 p3 p4 p5 (unhide HR).2.2.2.2.2.1)
  have KQ : Hid (∀ W, Below V0.heap.size V0 W → Calls Tryz.prog 17 #[.pointer (some ⟨mp, 0, none⟩), .agg #[.int .i64 q0, .int .i64 q1, .int .i64 q2, .int .i64 q3, .int .i64 q4, .int .i64 q5], .agg #[.int .i64 q0, .int .i64 q1, .int .i64 q2, .int .i64 q3, .int .i64 q4, .int .i64 q5]] W fun e w' => e = .returned (.bool true) ∧ Below W.heap.size W w') := fun W hW => KSe W hW q0 q1 q2 q3 q4 q5 (unhide HR).2.2.2.2.2.2
  have HCV : Hid (∀ W, Below V0.heap.size V0 W → (∀ i z, (#[.int .i64 p0, .int .i64 p1, .int .i64 p2, .int .i64 p3, .int .i64 p4, .int .i64 p5] : Array Value)[i]? = some z → W.cell? ⟨pa, i, none⟩ = some z ∧ W.cell? ⟨pb, i, none⟩ = some z) ∧ (∀ i z, (#[.int .i64 q0, .int .i64 q1, .int .i64 q2, .int .i64 q3, .int .i64 q4, .int .i64 q5] : Array Value)[i]? = some z → W.cell? ⟨pc, i, none⟩ = some z ∧ W.cell? ⟨pd, i, none⟩ = some z) ∧ W.cell? ⟨qb, 0, none⟩ = some (.slice (some ⟨G, 0, none⟩) N (N + 2))) := fun W hW => by
    obtain ⟨k1, k2, k3, k4, k5⟩ := unhide HKV
    exact ⟨fun i z hz => ⟨blk_cell (kept_blk k2 hW) hz, blk_cell (kept_blk k3 hW) hz⟩, fun i z hz => ⟨blk_cell (kept_blk k4 hW) hz, blk_cell (kept_blk k5 hW) hz⟩, blk_cell (kept_blk k1 hW) rfl⟩
  clear bV tV kV sV KA KSe
  obtain ⟨pa0, pb0⟩ := (unhide HCV V0 (Below.refl _ _)).1 0 _ rfl
  obtain ⟨pa1, pb1⟩ := (unhide HCV V0 (Below.refl _ _)).1 1 _ rfl
  obtain ⟨pa2, pb2⟩ := (unhide HCV V0 (Below.refl _ _)).1 2 _ rfl
  obtain ⟨pa3, pb3⟩ := (unhide HCV V0 (Below.refl _ _)).1 3 _ rfl
  obtain ⟨pa4, pb4⟩ := (unhide HCV V0 (Below.refl _ _)).1 4 _ rfl
  obtain ⟨pa5, pb5⟩ := (unhide HCV V0 (Below.refl _ _)).1 5 _ rfl
  go_wp2_with fail
  refine (unhide KX).mono ?_
  rintro e V0 ⟨rfl, rfl⟩
  go_wp2_with fail
  refine (unhide KP).mono ?_
  rintro e V1 ⟨rfl, y1⟩
  have B1 := hide y1
  have KQ1 := hide (unhide KQ V1 y1)
  obtain ⟨pc0, pd0⟩ := (unhide HCV V1 y1).2.1 0 _ rfl
  obtain ⟨pc1, pd1⟩ := (unhide HCV V1 y1).2.1 1 _ rfl
  obtain ⟨pc2, pd2⟩ := (unhide HCV V1 y1).2.1 2 _ rfl
  obtain ⟨pc3, pd3⟩ := (unhide HCV V1 y1).2.1 3 _ rfl
  obtain ⟨pc4, pd4⟩ := (unhide HCV V1 y1).2.1 4 _ rfl
  obtain ⟨pc5, pd5⟩ := (unhide HCV V1 y1).2.1 5 _ rfl
  clear y1 KP KX pa0 pa1 pa2 pa3 pa4 pa5 pb0 pb1 pb2 pb3 pb4 pb5 KQ
  go_wp2_with fail
  refine (unhide KQ1).mono ?_
  rintro e V2 ⟨rfl, y2⟩
  have y3 := bw_tr (unhide B1) y2
  have b5 := bw_tr (unhide BV) y3
  have cq := (unhide HCV V2 y3).2.2
  obtain ⟨ct, -, -, td⟩ := unhide HTB V2 b5
  have KL : Hid (Calls Tryz.prog 18 #[.agg #[.slice (some ⟨G, 0, none⟩) N (N + 2)], .agg #[.slice a N c]] V2 fun e w' => e = .returned (.bool true) ∧ Below V2.heap.size V2 w') := by
    obtain ⟨-, -, -, hN, -⟩ := unhide HH
    have := leftTree_any V2 BB G (.slice a N c) T us ((unhide HTV).bw y3) td (by have := (unhide HSZ2).1; omega) (unhide HSZ2).2
    rw [← hN] at this
    exact this
  have B5 := hide b5
  clear y2 y3 b5 td B1 KQ1 HCV pc0 pc1 pc2 pc3 pc4 pc5 pd0 pd1 pd2 pd3 pd4 pd5
  go_wp2_with fail
  refine (unhide KL).mono ?_
  rintro e V3 ⟨rfl, y⟩
  have b6 := bw_tr (unhide B5) y
  obtain ⟨ct3, bw3, -, -⟩ := unhide HTB V3 b6
  have B6 := hide b6
  have KN := hide (context_nil V3 gr ep (.slice a N c))
  clear y KL cq ct b6 B5 bw3
  go_wp2_with fail
  refine (unhide KN).mono ?_
  rintro e V4 ⟨rfl, y⟩
  have B7 := hide (bw_tr (unhide B6) y)
  have KN2 := hide (next_nil V4 ii cc xx)
  clear y KN ct3 B6
  go_wp2_with fail
  refine (unhide KN2).mono ?_
  rintro e V5 ⟨rfl, y⟩
  obtain ⟨V6, hV6⟩ : ∃ V6, V6 = V5.alloc (.cells #[.int .i64 0, .int .i64 0, .int .i64 0, .int .i64 0, .int .i64 0, .int .i64 0] 38) := ⟨_, rfl⟩
  have B8 : Hid (Below WB.heap.size WB V6) := by have := bw_tr (unhide B7) y; rw [hV6]; exact this.alloc this.size _
  have HV6 := hide hV6
  have KN3 := hide (from_nil V6 ii xx)
  clear y KN2 hV6 B7
  go_upto_region 18 with fail
  rw [← unhide HV6]
  clear HV6
  go_wp2_with fail
  refine (unhide KN3).mono ?_
  rintro e V7 ⟨rfl, y⟩
  obtain ⟨V8, hV8⟩ : ∃ V8, V8 = V7.alloc (.cells #[.int .i64 0, .int .i64 0, .int .i64 0, .int .i64 0, .int .i64 0, .int .i64 0] 38) := ⟨_, rfl⟩
  have B9 : Below WB.heap.size WB V8 := by have := bw_tr (unhide B8) y; rw [hV8]; exact this.alloc this.size _
  have HV8 := hide hV8
  have KL9 := hide (unhide KE V8 (unhide HTB V8 B9).2.1)
  clear y KN3 hV8 B8 B9
  go_upto_region 19 with fail
  rw [← unhide HV8]
  clear HV8
  go_wp2_with fail
  refine (unhide KL9).mono ?_
  rintro e V9 ⟨rfl, y⟩
  go_wp2
  go_ret
  exact ⟨rfl, y⟩
end Go.Proofs.YtcbafeneaoaglaaGreatDoor.Tn
