/- AccountTells, the walk. -/
import Derived.Test.YtokdflbajnecpaaAcY
namespace Go.Proofs.Ytokdflbajnecpaa.Tn.Ax
open Go.RowKit Go.Maps

theorem two_ads {w W : World} {b : Nat} {sv : Value} {mb rb : Nat} {rv : Value} {L R : List Tm} (h : Two w W b sv mb rb rv L R) {va : Value} {adds : List Ad} (hv : Ads w va adds) : ∀ V, Fr (rfoot rb rv) W V → Ads V va adds := fun _ hV => hv.bw (Fr.toBase h.bel hV h.rlow)
theorem two_nis {w W : World} {b : Nat} {sv : Value} {mb rb : Nat} {rv : Value} {L R : List Tm} (h : Two w W b sv mb rb rv L R) {va : Value} {rem : List Int} (hv : NIs w va rem) : ∀ V, Fr (rfoot rb rv) W V → NIs V va rem := fun _ hV => hv.bw (Fr.toBase h.bel hV h.rlow)
theorem TT.ads {w W : World} {b : Nat} {sv : Value} {mb rb : Nat} {rv : Value} {L R : List Tm} {g1 : Nat} {adds : List Ad} {g2 : Nat} {rem : List Int} (h : TT w W b sv mb rb rv L R g1 adds g2 rem) (hl : adds.length ≤ 262144) (hz : ∀ z ∈ adds, z.ok) : ∀ V, Fr (foot b sv mb) W V → Ads V (.slice (some ⟨g1, 0, none⟩) adds.length (adds.length + 2)) adds := fun V hV => TwA.ads (kept_fr h.ta h.two.st hV (by decide) (by decide)) hl hz
theorem TT.nis {w W : World} {b : Nat} {sv : Value} {mb rb : Nat} {rv : Value} {L R : List Tm} {g1 : Nat} {adds : List Ad} {g2 : Nat} {rem : List Int} (h : TT w W b sv mb rb rv L R g1 adds g2 rem) (hl : rem.length ≤ 262144) (hz : ∀ z ∈ rem, -9223372036854775808 ≤ z ∧ z ≤ 9223372036854775807) : ∀ V, Fr (foot b sv mb) W V → NIs V (.slice (some ⟨g2, 0, none⟩) rem.length (rem.length + 2)) rem := fun V hV => Twint.nis (kept_fr h.ti h.two.st hV (by decide) (by decide)) hl hz
theorem cells2 (w : World) (x y : Value) (t : TypeId) : (w.alloc (.cells #[x, y] t)).cell? ⟨w.heap.size, 0, none⟩ = some x ∧ (w.alloc (.cells #[x, y] t)).cell? ⟨w.heap.size, 1, none⟩ = some y := ⟨blk_cell (heap_alloc_new w _) rfl, blk_cell (heap_alloc_new w _) rfl⟩
set_option maxRecDepth 100000 in
set_option maxHeartbeats 16000000 in
theorem AccountTells_walk (w : World) (la : Option Addr) (lc : Nat) (l : List Tm) (hl : Tms w (.slice la l.length lc) l) (hok : ∀ t ∈ l, t.ok) (aa : Option Addr) (ac : Nat) (adds : List Ad) (hA : Ads w (.slice aa adds.length ac) adds) (ra : Option Addr) (rc : Nat) (rem : List Int) (hR : NIs w (.slice ra rem.length rc) rem) (s : Int) (_s1 : -9223372036854775808 ≤ s) (_s2 : s ≤ 9223372036854775807) (g : Int) (g1 : -9223372036854775808 ≤ g) (g2 : g ≤ 9223372036854775807) (e : Int) (e1 : -9223372036854775808 ≤ e) (e2 : e ≤ 9223372036854775807) (d : Int) (d1 : -9223372036854775808 ≤ d) (d2 : d ≤ 9223372036854775807) (dg : Int) (_q1 : -9223372036854775808 ≤ dg) (_q2 : dg ≤ 9223372036854775807) :
    Calls Try.prog 3 #[.slice la l.length lc, .slice aa adds.length ac, .slice ra rem.length rc, .int .i64 s, .int .i64 g, .int .i64 e, .int .i64 d, .int .i64 dg] w fun ee w' => ee = .returned (.bool true) ∧ Below w.heap.size w w' := by
  clear _s1 _s2 _q1 _q2
  have hlen := (hl.get).1
  have hlA : adds.length ≤ 140737488355328 := by obtain ⟨_, _, _, h, _⟩ := hA; exact h
  have hlR : rem.length ≤ 140737488355328 := by obtain ⟨_, _, _, h, _⟩ := hR; exact h
  have hzA : ∀ x ∈ adds, x.ok := by obtain ⟨_, _, _, _, h, _⟩ := hA; exact h
  have hzR : ∀ z ∈ rem, -9223372036854775808 ≤ z ∧ z ≤ 9223372036854775807 := by obtain ⟨_, _, _, _, h, _⟩ := hR; exact h
  obtain ⟨K, hK⟩ : ∃ K, K = l.length := ⟨_, rfl⟩
  obtain ⟨N, hN⟩ : ∃ N, N = adds.length := ⟨_, rfl⟩
  obtain ⟨M, hM⟩ : ∃ M, M = rem.length := ⟨_, rfl⟩
  rw [← hK] at hl hlen ⊢
  rw [← hN] at hA hlA ⊢
  rw [← hM] at hR hlR ⊢
  have hKI : (K : Int) ≤ 140737488355328 := by omega
  have hNI : (N : Int) ≤ 140737488355328 := by omega
  have hMI : (M : Int) ≤ 140737488355328 := by omega
  by_cases hbig : 2000 < K
  · have hbI : (2000 : Int) < (K : Int) := by omega
    clear hlen hl hok hK hA hR hN hM g1 g2 e1 e2 d1 d2 hlA hlR hzA hzR
    go_enter Try.func3, Try.ntmps3
    go_wp2
    go_ret
    exact ⟨rfl, Below.refl _ _⟩
  have hsm : (K : Int) ≤ 2000 := by omega
  obtain ⟨w0, hw0⟩ : ∃ w0, w0 = w.alloc (.cells #[.int .i64 (N : Int), .int .i64 (M : Int)] 3) := ⟨_, rfl⟩
  have b0 : Below w.heap.size w w0 := by rw [hw0]; exact bwA' _ _
  have KBy : Hid (Calls Try.prog 5 #[.slice (some ⟨w.heap.size, 0, none⟩) 2 2] w0 fun e w' => ∃ r, e = .returned (.bool r) ∧ (r = false → N ≤ 262144 ∧ M ≤ 262144) ∧ w' = w0) := by
    rw [hw0]
    exact beyond13 w.heap.size N M 2 _ hlA hlR (cells2 _ _ _ _).1 (cells2 _ _ _ _).2
  have KB : Hid (Calls Try.prog 6 #[.slice la K lc] w0 fun e w' => ∃ b sv mb rb rv, e = .returned (.tuple #[.pointer (some ⟨b, 0, none⟩), .pointer (some ⟨rb, 0, none⟩), .bool true]) ∧ Two w w' b sv mb rb rv (fillL [] l) (fillL [] l)) := by
    have := build_any w0 la lc l (by rw [hK] at hl; exact hl.bw b0) hok (by omega)
    rw [← hK] at this
    refine this.mono ?_
    rintro e w' ⟨b, sv, mb, rb, rv, h2, tw⟩
    exact ⟨b, sv, mb, rb, rv, h2, tw.st, tw.rs, fun x hq => Nat.le_trans b0.size (tw.low x hq), fun x hq => Nat.le_trans b0.size (tw.rlow x hq), tw.dis, bw_tr b0 tw.bel⟩
  obtain ⟨L0, hL0⟩ : ∃ L0, L0 = fillL [] l := ⟨_, rfl⟩
  have l0 : L0.length ≤ 2000 := by have := fillL_len l []; rw [hL0]; simp at *; omega
  rw [← hL0] at KB
  have r1 := digP_rng (L := L0) adds rem (by omega)
  obtain ⟨P1, hP1⟩ : ∃ P1, P1 = digP L0 adds rem := ⟨_, rfl⟩
  obtain ⟨E1, hE1⟩ : ∃ E1, E1 = digE L0 adds rem := ⟨_, rfl⟩
  rw [← hP1] at r1
  have r2 := seedP_rng (L := P1.1) s g e d dg (by omega)
  obtain ⟨P2, hP2⟩ : ∃ P2, P2 = seedP P1.1 s g e d dg := ⟨_, rfl⟩
  obtain ⟨E2, hE2⟩ : ∃ E2, E2 = seedE P1.1 s dg := ⟨_, rfl⟩
  rw [← hP2] at r2
  have r3 := card_rng P2.1 s
  obtain ⟨L3, hL3⟩ : ∃ L3, L3 = cardL P2.1 s := ⟨_, rfl⟩
  obtain ⟨XA, hXA⟩ : ∃ XA, XA = cardA P2.1 s := ⟨_, rfl⟩
  obtain ⟨XB, hXB⟩ : ∃ XB, XB = cardB P2.1 s := ⟨_, rfl⟩
  obtain ⟨E3, hE3⟩ : ∃ E3, E3 = argE P2.1 s := ⟨_, rfl⟩
  rw [← hL3, ← hXA, ← hXB] at r3
  have r4 := own_rng L3 s
  obtain ⟨L4, hL4⟩ : ∃ L4, L4 = ownL L3 s := ⟨_, rfl⟩
  obtain ⟨X4, hX4⟩ : ∃ X4, X4 = ownA L3 s := ⟨_, rfl⟩
  obtain ⟨E4, hE4⟩ : ∃ E4, E4 = argE L3 s := ⟨_, rfl⟩
  rw [← hL4, ← hX4] at r4
  have KT1 : Hid (N ≤ 262144 → ∀ W, Below w.heap.size w W → Calls Try.prog 7 #[.slice aa N ac] W fun e w' => e = .returned (.slice (some ⟨W.heap.size, 0, none⟩) N (N + 2)) ∧ TwA w' W.heap.size adds ∧ Below W.heap.size W w') := fun hh W hW => by
    have := twinA_any W _ adds (hA.bw hW) (by omega)
    rw [← hN] at this
    exact this
  have KT2 : Hid (M ≤ 262144 → ∀ W, Below w.heap.size w W → Calls Try.prog 8 #[.slice ra M rc] W fun e w' => e = .returned (.slice (some ⟨W.heap.size, 0, none⟩) M (M + 2)) ∧ Twint w' W.heap.size rem ∧ Below W.heap.size W w') := fun hh W hW => by
    have := twinint_any W _ rem (hR.bw hW) (by omega)
    rw [← hM] at this
    exact this
  have K1 : Hid (N ≤ 262144 ∧ M ≤ 262144 → ∀ W b sv mb rb rv ga gi, TT w W b sv mb rb rv L0 L0 ga adds gi rem → Calls Try.prog 9 #[.pointer (some ⟨b, 0, none⟩), .slice (some ⟨ga, 0, none⟩) N (N + 2), .slice (some ⟨gi, 0, none⟩) M (M + 2)] W fun e W' => e = .returned (.tuple #[.int .i64 (P1.2 : Nat), .int .i64 E1]) ∧ ∃ sv', TT w W' b sv' mb rb rv P1.1 L0 ga adds gi rem) := fun hh W b sv mb rb rv ga gi T => by
    have := digest_any T.two.st _ adds (T.ads (by omega) hzA) _ rem (T.nis (by omega) hzR) (by omega)
    rw [← hN, ← hM, ← hP1, ← hE1] at this
    refine Calls.mono this ?_
    rintro e W' ⟨h1, sv', s⟩
    exact ⟨h1, sv', T.stepS s⟩
  have K2 : Hid (∀ W b sv mb rb rv ga gi, TT w W b sv mb rb rv P1.1 L0 ga adds gi rem → Calls Try.prog 10 #[.pointer (some ⟨rb, 0, none⟩), .slice aa N ac, .slice ra M rc] W fun e W' => e = .returned (.tuple #[.int .i64 (P1.2 : Nat), .int .i64 E1]) ∧ ∃ rv', TT w W' b sv mb rb rv' P1.1 P1.1 ga adds gi rem) := fun W b sv mb rb rv ga gi T => by
    have := rdigest_any T.two.rs _ adds (two_ads T.two hA) _ rem (two_nis T.two hR) (by omega)
    rw [← hP1, ← hE1] at this
    refine Calls.mono this ?_
    rintro e W' ⟨h1, sv', s⟩
    exact ⟨h1, sv', T.stepR s⟩
  have K3 : Hid (∀ W b sv mb rb rv ga gi, TT w W b sv mb rb rv P1.1 P1.1 ga adds gi rem → Calls Try.prog 11 #[.pointer (some ⟨b, 0, none⟩), .int .i64 s, .int .i64 g, .int .i64 e, .int .i64 d, .int .i64 dg] W fun e W' => e = .returned (.tuple #[.int .i64 (P2.2 : Nat), .int .i64 E2]) ∧ ∃ sv', TT w W' b sv' mb rb rv P2.1 P1.1 ga adds gi rem) := fun W b sv mb rb rv ga gi T => by
    have := seed_any T.two.st s g e d dg ⟨g1, g2⟩ ⟨e1, e2⟩ ⟨d1, d2⟩ (by omega)
    rw [← hP2, ← hE2] at this
    refine Calls.mono this ?_
    rintro e W' ⟨h1, sv', s⟩
    exact ⟨h1, sv', T.stepS s⟩
  have K4 : Hid (∀ W b sv mb rb rv ga gi, TT w W b sv mb rb rv P2.1 P1.1 ga adds gi rem → Calls Try.prog 12 #[.pointer (some ⟨rb, 0, none⟩), .int .i64 s, .int .i64 g, .int .i64 e, .int .i64 d, .int .i64 dg] W fun e W' => e = .returned (.tuple #[.int .i64 (P2.2 : Nat), .int .i64 E2]) ∧ ∃ rv', TT w W' b sv mb rb rv' P2.1 P2.1 ga adds gi rem) := fun W b sv mb rb rv ga gi T => by
    have := rseed_any T.two.rs s g e d dg ⟨g1, g2⟩ ⟨e1, e2⟩ ⟨d1, d2⟩ (by omega)
    rw [← hP2, ← hE2] at this
    refine Calls.mono this ?_
    rintro e W' ⟨h1, sv', s⟩
    exact ⟨h1, sv', T.stepR s⟩
  have K5 : Hid (∀ W b sv mb rb rv ga gi, TT w W b sv mb rb rv P2.1 P2.1 ga adds gi rem → Calls Try.prog 13 #[.pointer (some ⟨b, 0, none⟩), .int .i64 s] W fun e W' => e = .returned (.tuple #[.int .i64 (XA : Nat), .int .i64 (XB : Nat), .int .i64 E3]) ∧ ∃ sv', TT w W' b sv' mb rb rv L3 P2.1 ga adds gi rem) := fun W b sv mb rb rv ga gi T => by
    have := ccard_any T.two.st s (by omega)
    rw [← hL3, ← hXA, ← hXB, ← hE3] at this
    refine Calls.mono this ?_
    rintro e W' ⟨h1, sv', s⟩
    exact ⟨h1, sv', T.stepS s⟩
  have K6 : Hid (∀ W b sv mb rb rv ga gi, TT w W b sv mb rb rv L3 P2.1 ga adds gi rem → Calls Try.prog 14 #[.pointer (some ⟨rb, 0, none⟩), .int .i64 s] W fun e W' => e = .returned (.tuple #[.int .i64 (XA : Nat), .int .i64 (XB : Nat), .int .i64 E3]) ∧ ∃ rv', TT w W' b sv mb rb rv' L3 L3 ga adds gi rem) := fun W b sv mb rb rv ga gi T => by
    have := rcard_any T.two.rs s (by omega)
    rw [← hL3, ← hXA, ← hXB, ← hE3] at this
    refine Calls.mono this ?_
    rintro e W' ⟨h1, sv', s⟩
    exact ⟨h1, sv', T.stepR s⟩
  have K7 : Hid (∀ W b sv mb rb rv ga gi, TT w W b sv mb rb rv L3 L3 ga adds gi rem → Calls Try.prog 15 #[.pointer (some ⟨b, 0, none⟩), .int .i64 s] W fun e W' => e = .returned (.tuple #[.int .i64 (X4 : Nat), .int .i64 E4]) ∧ ∃ sv', TT w W' b sv' mb rb rv L4 L3 ga adds gi rem) := fun W b sv mb rb rv ga gi T => by
    have := own_any T.two.st s (by omega)
    rw [← hL4, ← hX4, ← hE4] at this
    refine Calls.mono this ?_
    rintro e W' ⟨h1, sv', s⟩
    exact ⟨h1, sv', T.stepS s⟩
  have K8 : Hid (∀ W b sv mb rb rv ga gi, TT w W b sv mb rb rv L4 L3 ga adds gi rem → Calls Try.prog 16 #[.pointer (some ⟨rb, 0, none⟩), .int .i64 s] W fun e W' => e = .returned (.tuple #[.int .i64 (X4 : Nat), .int .i64 E4]) ∧ ∃ rv', TT w W' b sv mb rb rv' L4 L4 ga adds gi rem) := fun W b sv mb rb rv ga gi T => by
    have := rown_any T.two.rs s (by omega)
    rw [← hL4, ← hX4, ← hE4] at this
    refine Calls.mono this ?_
    rintro e W' ⟨h1, sv', s⟩
    exact ⟨h1, sv', T.stepR s⟩
  have K9 : Hid (∀ W b sv mb rb rv ga gi, TT w W b sv mb rb rv L4 L4 ga adds gi rem → Calls Try.prog 17 #[.pointer (some ⟨b, 0, none⟩), .pointer (some ⟨rb, 0, none⟩)] W fun e w' => ∃ mp, e = .returned (.tuple #[.pointer (some ⟨mp, 0, none⟩), .bool true]) ∧ Below w.heap.size w w' ∧ TwA w' ga adds ∧ Twint w' gi rem ∧ ∀ W, Below w'.heap.size w' W → ∀ k : Nat, k ≤ L4.length → Calls Try.prog 18 #[.pointer (some ⟨mp, 0, none⟩), .int .i64 (k : Int), .int .i64 (k : Int)] W fun e w' => e = .returned (.bool true) ∧ w' = W) := fun W b sv mb rb rv ga gi T => T.across (by omega)
  have KL1 : Hid (N ≤ 262144 → ∀ W ga, Below w.heap.size w W → TwA W ga adds → Calls Try.prog 19 #[.slice (some ⟨ga, 0, none⟩) N (N + 2), .slice aa N ac] W fun e w' => e = .returned (.bool true) ∧ Below W.heap.size W w') := fun hh W ga hW ht => by
    have := leftA_any W ga _ adds ht (hA.bw hW) (by omega)
    rw [← hN] at this
    exact this
  have KL2 : Hid (M ≤ 262144 → ∀ W gi, Below w.heap.size w W → Twint W gi rem → Calls Try.prog 20 #[.slice (some ⟨gi, 0, none⟩) M (M + 2), .slice ra M rc] W fun e w' => e = .returned (.bool true) ∧ Below W.heap.size W w') := fun hh W gi hW ht => by
    have := leftint_any W gi _ rem ht (hR.bw hW) (by omega)
    rw [← hM] at this
    exact this
  have KN1 : Hid (∀ W, Calls Try.prog 9 #[.pointer none, .slice aa N ac, .slice ra M rc] W fun e w' => e = .returned (.tuple #[.int .i64 0, .int .i64 2]) ∧ Below W.heap.size W w') := fun W => digest_nil W _ _ _ _ _ _
  have KN2 : Hid (∀ W, Calls Try.prog 11 #[.pointer none, .int .i64 s, .int .i64 g, .int .i64 e, .int .i64 d, .int .i64 dg] W fun e w' => e = .returned (.tuple #[.int .i64 0, .int .i64 2]) ∧ Below W.heap.size W w') := fun W => seed_nil W s g e d dg
  have KN3 : Hid (∀ W, Calls Try.prog 13 #[.pointer none, .int .i64 s] W fun e w' => e = .returned (.tuple #[.int .i64 0, .int .i64 0, .int .i64 2]) ∧ Below W.heap.size W w') := fun W => card_nil W s
  have KN4 : Hid (∀ W, Calls Try.prog 15 #[.pointer none, .int .i64 s] W fun e w' => e = .returned (.tuple #[.int .i64 0, .int .i64 2]) ∧ Below W.heap.size W w') := fun W => own_nil W s
  have KE : Hid (∀ W, Below w.heap.size w W → Calls Try.prog 21 #[] W fun e w' => e = .returned (.bool true) ∧ Below w.heap.size w w') := fun W hW => lives13 hW
  have HR5 : Hid (P1.2 ≤ L4.length ∧ P2.2 ≤ L4.length ∧ XA ≤ L4.length ∧ XB ≤ L4.length ∧ X4 ≤ L4.length) := by unfold Hid; omega
  have HW := hide hw0
  have B0 := hide b0
  clear hlen hl hok hK hA hR hN hM g1 g2 e1 e2 d1 d2 hlA hlR hzA hzR hbig hL0 l0 r1 r2 r3 r4 hP1 hE1 hP2 hE2 hL3 hXA hXB hE3 hL4 hX4 hE4 hw0 b0
  obtain ⟨X1, hX1⟩ : ∃ X1, X1 = P1.2 := ⟨_, rfl⟩
  obtain ⟨X2, hX2⟩ : ∃ X2, X2 = P2.2 := ⟨_, rfl⟩
  rw [← hX1] at K1 K2 HR5
  rw [← hX2] at K3 K4 HR5
  clear hX1 hX2
  generalize P1.1 = L1 at *
  generalize P2.1 = L2 at *
  go_enter Try.func3, Try.ntmps3
  go_wp2_with fail
  rw [← unhide HW]
  refine (unhide KBy).mono ?_
  rintro ee w1 ⟨r, rfl, hr, rfl⟩
  cases r
  case true =>
    clear KB KT1 KT2 K1 K2 K3 K4 K5 K6 K7 K8 K9 KL1 KL2 KN1 KN2 KN3 KN4 KE HR5 KBy hr HW
    go_wp2
    go_ret
    exact ⟨rfl, unhide B0⟩
  obtain ⟨h1, h2⟩ := hr rfl
  have J1 := hide (unhide K1 ⟨h1, h2⟩)
  have JT1 := hide (unhide KT1 h1)
  have JT2 := hide (unhide KT2 h2)
  have JL1 := hide (unhide KL1 h1)
  have JL2 := hide (unhide KL2 h2)
  clear K1 KT1 KT2 KL1 KL2 KBy hr h1 h2 HW
  go_wp2_with fail
  refine (unhide KB).mono ?_
  rintro ee w2 ⟨b, sv, mb, rb, rv, rfl, T2⟩
  have Q1 := hide (unhide JT1 _ T2.bel)
  have TT2 := hide T2
  clear KB JT1 T2 B0
  go_wp2_with fail
  refine (unhide Q1).mono ?_
  rintro ee w3 ⟨rfl, ta3, b3⟩
  have T3 := hide ((unhide TT2).new b3)
  have TA3 := hide ta3
  obtain ⟨ga, hga⟩ : ∃ ga, ga = w2.heap.size := ⟨_, rfl⟩
  rw [← hga] at TA3 ⊢
  have Q2 := hide (unhide JT2 _ (unhide T3).bel)
  clear Q1 TT2 ta3 b3 hga JT2
  go_wp2_with fail
  refine (unhide Q2).mono ?_
  rintro ee w4 ⟨rfl, ti4, b4⟩
  obtain ⟨gi, hgi⟩ : ∃ gi, gi = w3.heap.size := ⟨_, rfl⟩
  rw [← hgi] at ti4 ⊢
  have Q3 := hide (unhide J1 _ _ _ _ _ _ _ _ ⟨(unhide T3).new b4, kept_blk (unhide TA3) b4, ti4⟩)
  clear Q2 T3 TA3 ti4 b4 hgi J1
  go_wp2_with fail
  refine (unhide Q3).mono ?_
  rintro ee w5 ⟨rfl, sv5, t5⟩
  have Q4 := hide (unhide K2 _ _ _ _ _ _ _ _ t5)
  clear Q3 t5 K2
  go_wp2_with fail
  refine (unhide Q4).mono ?_
  rintro ee w6 ⟨rfl, rv6, t6⟩
  have Q5 := hide (unhide K3 _ _ _ _ _ _ _ _ t6)
  clear Q4 t6 K3
  go_wp2_with fail
  refine (unhide Q5).mono ?_
  rintro ee w7 ⟨rfl, sv7, t7⟩
  have Q6 := hide (unhide K4 _ _ _ _ _ _ _ _ t7)
  clear Q5 t7 K4
  go_wp2_with fail
  refine (unhide Q6).mono ?_
  rintro ee w8 ⟨rfl, rv8, t8⟩
  have Q7 := hide (unhide K5 _ _ _ _ _ _ _ _ t8)
  clear Q6 t8 K5
  go_wp2_with fail
  refine (unhide Q7).mono ?_
  rintro ee w9 ⟨rfl, sv9, t9⟩
  have Q8 := hide (unhide K6 _ _ _ _ _ _ _ _ t9)
  clear Q7 t9 K6
  go_wp2_with fail
  refine (unhide Q8).mono ?_
  rintro ee w10 ⟨rfl, rv10, t10⟩
  have Q9 := hide (unhide K7 _ _ _ _ _ _ _ _ t10)
  clear Q8 t10 K7
  go_wp2_with fail
  refine (unhide Q9).mono ?_
  rintro ee w11 ⟨rfl, sv11, t11⟩
  have Q10 := hide (unhide K8 _ _ _ _ _ _ _ _ t11)
  clear Q9 t11 K8
  go_wp2_with fail
  refine (unhide Q10).mono ?_
  rintro ee w12 ⟨rfl, rv12, t12⟩
  have Q11 := hide (unhide K9 _ _ _ _ _ _ _ _ t12)
  clear Q10 t12 K9
  go_wp2_with fail
  refine (unhide Q11).mono ?_
  rintro ee w13 ⟨mp, rfl, b13, ta, ti, sm⟩
  have S1 := hide (sm w13 (Below.refl _ _) X1 (unhide HR5).1)
  have S2 := hide (sm w13 (Below.refl _ _) X2 (unhide HR5).2.1)
  have S3 := hide (sm w13 (Below.refl _ _) XA (unhide HR5).2.2.1)
  have S4 := hide (sm w13 (Below.refl _ _) XB (unhide HR5).2.2.2.1)
  have S5 := hide (sm w13 (Below.refl _ _) X4 (unhide HR5).2.2.2.2)
  have QL := hide (unhide JL1 _ _ b13 ta)
  have JQ : Hid (∀ W, Below w13.heap.size w13 W → Calls Try.prog 20 #[.slice (some ⟨gi, 0, none⟩) M (M + 2), .slice ra M rc] W fun e w' => e = .returned (.bool true) ∧ Below W.heap.size W w') := fun W hW => unhide JL2 W gi (bw_tr b13 hW) (kept_blk ti hW)
  have B13 := hide b13
  clear Q11 sm ta ti JL1 JL2 HR5 b13
  go_wp2_with fail
  refine (unhide S1).mono ?_
  rintro ee w13 ⟨rfl, rfl⟩
  clear S1
  go_wp2_with fail
  refine (unhide S2).mono ?_
  rintro ee w13 ⟨rfl, rfl⟩
  clear S2
  go_wp2_with fail
  refine (unhide S3).mono ?_
  rintro ee w13 ⟨rfl, rfl⟩
  clear S3
  go_wp2_with fail
  refine (unhide S4).mono ?_
  rintro ee w13 ⟨rfl, rfl⟩
  clear S4
  go_wp2_with fail
  refine (unhide S5).mono ?_
  rintro ee w13 ⟨rfl, rfl⟩
  clear S5
  go_wp2_with fail
  refine (unhide QL).mono ?_
  rintro ee w14 ⟨rfl, b14⟩
  have Q12 := hide (unhide JQ _ b14)
  have B14 := hide (bw_tr (unhide B13) b14)
  clear QL JQ b14 B13
  go_wp2_with fail
  refine (unhide Q12).mono ?_
  rintro ee w15 ⟨rfl, b15⟩
  have B15 := hide (bw_tr (unhide B14) b15)
  clear Q12 b15 B14
  go_wp2_with fail
  refine (unhide KN1 _).mono ?_
  rintro ee w16 ⟨rfl, b16⟩
  have B16 := hide (bw_tr (unhide B15) b16)
  clear b16 B15 KN1
  go_wp2_with fail
  refine (unhide KN2 _).mono ?_
  rintro ee w17 ⟨rfl, b17⟩
  have B17 := hide (bw_tr (unhide B16) b17)
  clear b17 B16 KN2
  go_wp2_with fail
  refine (unhide KN3 _).mono ?_
  rintro ee w18 ⟨rfl, b18⟩
  have B18 := hide (bw_tr (unhide B17) b18)
  clear b18 B17 KN3
  go_wp2_with fail
  refine (unhide KN4 _).mono ?_
  rintro ee w19 ⟨rfl, b19⟩
  have Q13 := hide (unhide KE _ (bw_tr (unhide B18) b19))
  clear b19 B18 KN4 KE
  go_wp2_with fail
  refine (unhide Q13).mono ?_
  rintro ee w20 ⟨rfl, b20⟩
  go_wp2
  go_ret
  exact ⟨rfl, b20⟩
end Go.Proofs.Ytokdflbajnecpaa.Tn.Ax
