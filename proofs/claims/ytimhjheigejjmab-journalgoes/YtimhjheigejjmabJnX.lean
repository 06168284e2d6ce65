/- The walk of JournalGoes. -/
import Derived.Test.YtimhjheigejjmabJnW
namespace Go.Proofs.Ytimhjheigejjmab
open Go.RowKit Go.Maps

set_option maxHeartbeats 1600000 in
theorem beyond_three (b : Nat) (n m k : Nat) (c : Nat) (w : World) (hn : n ≤ 281474976710656) (hm : m ≤ 281474976710656) (hk : k ≤ 281474976710656) (h0 : w.cell? ⟨b, 0, none⟩ = some (.int .i64 n)) (h1 : w.cell? ⟨b, 1, none⟩ = some (.int .i64 m)) (h2 : w.cell? ⟨b, 2, none⟩ = some (.int .i64 k)) :
    Calls Try.prog 10 #[.slice (some ⟨b, 0, none⟩) 3 c] w fun e w' => ∃ z, e = .returned (.bool z) ∧ w' = w := by
  by_cases hb : 262144 < n
  · go_enter Try.func10, Try.ntmps10
    go_wp2
    refine wp_loop_rounds 1 ?_
    rw [rounds_succ]
    go_wp2
    go_ret
    exact ⟨_, rfl, rfl⟩
  by_cases hb2 : 262144 < m
  · go_enter Try.func10, Try.ntmps10
    go_wp2
    refine wp_loop_rounds 2 ?_
    rw [rounds_succ]
    go_wp2
    rw [rounds_succ]
    go_wp2
    go_ret
    exact ⟨_, rfl, rfl⟩
  by_cases hb3 : (262144 : Int) < (n : Int) + (m : Int)
  · go_enter Try.func10, Try.ntmps10
    go_wp2
    refine wp_loop_rounds 2 ?_
    rw [rounds_succ]
    go_wp2
    rw [rounds_succ]
    go_wp2
    go_ret
    exact ⟨_, rfl, rfl⟩
  by_cases hb4 : 262144 < k
  · go_enter Try.func10, Try.ntmps10
    go_wp2
    refine wp_loop_rounds 3 ?_
    rw [rounds_succ]
    go_wp2
    rw [rounds_succ]
    go_wp2
    rw [rounds_succ]
    go_wp2
    go_ret
    exact ⟨_, rfl, rfl⟩
  by_cases hb5 : (262144 : Int) < (n : Int) + (m : Int) + (k : Int)
  · go_enter Try.func10, Try.ntmps10
    go_wp2
    refine wp_loop_rounds 3 ?_
    rw [rounds_succ]
    go_wp2
    rw [rounds_succ]
    go_wp2
    rw [rounds_succ]
    go_wp2
    go_ret
    exact ⟨_, rfl, rfl⟩
  · go_enter Try.func10, Try.ntmps10
    go_wp2
    refine wp_loop_rounds 4 ?_
    rw [rounds_succ]
    go_wp2
    rw [rounds_succ]
    go_wp2
    rw [rounds_succ]
    go_wp2
    rw [rounds_succ]
    go_wp2
    go_ret
    exact ⟨_, rfl, rfl⟩

/-- A Put of any text where nothing is cut. -/
theorem good_put_any {w W : World} {d : Nat} {S : DS} {rs : List Res} {jb n : Nat} {t : ByteArray} (h : ED w W d S (jr jb d n t false :: rs)) (hsol : ∀ r ∈ rs, Solid r) (hg : Good S n t) (hc : S.cut = none) (hn : n < 1000) (s : ByteArray) (hN : S.N = 64) (hcnt : S.cnt ≤ 1000) :
    Calls Try.prog 22 #[.pointer (some ⟨jb, 0, none⟩), .string s] W fun e W' => ∃ S' n' t' x, e = .returned (.int .i64 x) ∧ Good S' n' t' ∧ n' ≤ n + 1 ∧ S'.cut = none ∧ S'.N = 64 ∧ S'.cnt ≤ S.cnt + 100 ∧ ED w W' d S' (jr jb d n' t' false :: rs) := by
  by_cases hs : 1984 < s.size
  · refine (Put_full h hg.up (by omega) s (by rw [hN]; omega)).mono ?_
    rintro e W' ⟨rfl, hE⟩
    exact ⟨S, n, t, 5, rfl, hg, by omega, hc, hN, by omega, hE⟩
  · refine (good_put h hsol hg hc (by omega) s (by unfold room6; rw [hN]; omega) (by omega)).mono ?_
    rintro e W' ⟨S', rfl, g1, g2, g3, g4, hE⟩
    exact ⟨S', n + 1, s, 0, rfl, g1, by omega, g2, g4.trans hN, by rw [g3, costN_rnds]; unfold rnds; omega, hE⟩
/-- A Put of any text where the disk is cut. -/
theorem good_put_cut {w W : World} {d : Nat} {S : DS} {rs : List Res} {jb n : Nat} {t : ByteArray} (h : ED w W d S (jr jb d n t false :: rs)) (hsol : ∀ r ∈ rs, Solid r) (hg : Good S n t) {c : Nat} {bits : Int} (hc : S.cut = some (c, bits)) (hn : n < 1000) (s : ByteArray) (hN : S.N = 64) (hcnt : S.cnt ≤ 1000) :
    Calls Try.prog 22 #[.pointer (some ⟨jb, 0, none⟩), .string s] W fun e W' => ∃ S' n' t' x, e = .returned (.int .i64 x) ∧ ((S'.up = true ∧ Good S' n' t') ∨ (S'.up = false ∧ Good S'.again n' t')) ∧ n' ≤ n + 1 ∧ S'.N = 64 ∧ S'.cnt ≤ S.cnt + 100 ∧ ED w W' d S' rs := by
  by_cases hs : 1984 < s.size
  · refine (Put_full h hg.up (by omega) s (by rw [hN]; omega)).mono ?_
    rintro e W' ⟨rfl, hE⟩
    exact ⟨S, n, t, 5, rfl, Or.inl ⟨hg.up, hg⟩, by omega, hN, by omega, hE.drop1⟩
  · have hsz : s.size ≤ room6 S := by unfold room6; rw [hN]; omega
    have hcost : costN s.size ≤ 100 := by rw [costN_rnds]; unfold rnds; omega
    refine (Put_go h hsol hg.up hg.N4 (by omega) s hsz (by omega) (by rw [hg.sn]; simp)).mono ?_
    rintro e W' ⟨S', x, rfl, hv, hE⟩
    rcases hg.putCut hc (by omega) hsz hv with ⟨p1, rfl, p3, p4, p5⟩ | ⟨p1, rfl, p3, p4, p5, p6, p7⟩
    · exact ⟨S', n + 1, s, 0, rfl, Or.inl ⟨p3.up, p3⟩, by omega, p4.trans hN, by omega, hE.drop1⟩
    · rcases p7 with q | ⟨_, q⟩
      · exact ⟨S', n, t, 6, rfl, Or.inr ⟨p3, q⟩, by omega, p4.trans hN, by omega, hE.drop1⟩
      · exact ⟨S', n + 1, s, 6, rfl, Or.inr ⟨p3, q⟩, by omega, p4.trans hN, by omega, hE.drop1⟩
set_option maxRecDepth 100000 in
set_option maxHeartbeats 4000000 in
theorem JournalGoes_walk (w : World) (old : ByteArray) (ho : old.size ≤ 140737488355328) (text : ByteArray) (ht : text.size ≤ 140737488355328) (next : ByteArray) (hx : next.size ≤ 140737488355328) (n : Int) (hn1 : -9223372036854775808 ≤ n) (hn2 : n ≤ 9223372036854775807) (bits : Int) (_hb1 : -9223372036854775808 ≤ bits) (_hb2 : bits ≤ 9223372036854775807) :
    Calls Try.prog 6 #[.string old, .string text, .string next, .int .i64 n, .int .i64 bits] w fun e w' => e = .returned (.bool true) ∧ Below w.heap.size w w' := by
  have K1 := hide (ED.start (Env.nil w) 64 (by omega) (by omega))
  have HOT := hide (And.intro ho (And.intro ht hx))
  clear ho ht hx
  go_enter Try.func6, Try.ntmps6
  go_wp2_with fail
  refine (unhide K1).mono ?_
  rintro e W1 ⟨d, rfl, E1⟩
  clear K1
  obtain ⟨X1, hX1⟩ : ∃ X, X = W1.alloc (.cells #[.int .i64 (old.size : Int), .int .i64 (text.size : Int), .int .i64 (next.size : Int)] 3) := ⟨_, rfl⟩
  have q1 : X1.heap[W1.heap.size]? = some (.cells #[.int .i64 (old.size : Int), .int .i64 (text.size : Int), .int .i64 (next.size : Int)] 3 (0, 0)) := by rw [hX1]; exact heap_alloc_new _ _
  have KB := hide (beyond_three W1.heap.size old.size text.size next.size 3 X1 (by have := (unhide HOT).1; omega) (by have := (unhide HOT).2.1; omega) (by have := (unhide HOT).2.2; omega) (by simp [World.cell?, q1]) (by simp [World.cell?, q1]) (by simp [World.cell?, q1]))
  have E1' := E1.new (show Below W1.heap.size W1 X1 by rw [hX1]; exact bw_alloc _ _)
  have HX1 := hide hX1
  have HB1 := hide E1'.bel
  have KA := hide (j6alive_any X1)
  have K2 := hide (good_open E1' (good_new (by omega)))
  clear E1 q1 E1'
  go_wp2_with fail
  rw [← unhide HX1]
  clear hX1
  refine (unhide KB).mono ?_
  rintro e w2 ⟨z, rfl, rfl⟩
  clear KB
  by_cases hal : z = true ∨ n < 0
  · rcases hal with rfl | hal
    · clear K2
      go_wp2_with (go_at_call 17; refine (unhide KA).mono ?_; rintro e w3 ⟨rfl, b3⟩)
      go_ret
      exact ⟨rfl, bw_tr (unhide HB1) b3⟩
    · clear K2
      cases z
      all_goals
        go_wp2_with (go_at_call 17; refine (unhide KA).mono ?_; rintro e w3 ⟨rfl, b3⟩)
        go_ret
        exact ⟨rfl, bw_tr (unhide HB1) b3⟩
  obtain rfl : z = false := by cases z; rfl; exact absurd (Or.inl rfl) hal
  have hneg : 0 ≤ n := by omega
  clear KA hal
  go_wp2_with fail
  refine (unhide K2).mono ?_
  rintro e W2 ⟨jb, rfl, E2⟩
  clear K2
  have K3 := hide (good_put_any E2 (by simp) (good_new (by omega)) rfl (by omega) old rfl (by decide))
  clear E2
  go_wp2_with fail
  refine (unhide K3).mono ?_
  rintro e W3 ⟨S1, n1, t1, x1, rfl, G1, gn, gc, gN, gm, E3⟩
  have hcutE : S1.doCut n bits = ({ S1 with cut := some (n.toNat, bits) }, 0) := by unfold DS.doCut; rw [if_neg (by simp [G1.up]), if_neg (by omega)]
  have K4 := hide (E3.cut n bits hn2)
  rw [hcutE] at K4
  have gm2 : S1.cnt ≤ 100 := Nat.le_trans gm (by show 0 + 100 ≤ 100; omega)
  clear K3 E3 hcutE gm
  go_wp2_with fail
  refine (unhide K4).mono ?_
  rintro e W4 ⟨rfl, E4⟩
  have K5 := hide (good_put_cut E4 (by simp) (G1.withCut (some (n.toNat, bits))) rfl (by omega) text gN (by show S1.cnt ≤ 1000; omega))
  clear K4 E4
  go_wp2_with fail
  refine (unhide K5).mono ?_
  rintro e W5 ⟨S2, n2, t2, x2, rfl, hGG, hn2', hN2, hm2, E5⟩
  have hm2' : S2.cnt ≤ 300 := Nat.le_trans hm2 (by show S1.cnt + 100 ≤ 300; omega)
  have hn22 : n2 ≤ 2 := by omega
  clear K5 G1 gn gc gN gm2 hm2 hn2'
  have K6 := hide E5.up
  rcases hGG with ⟨hup, G2⟩ | ⟨hup, G2⟩
  · rw [hup] at K6
    have K7 := hide (E5.crash bits)
    rw [DS.crash_plain hup] at K7
    clear E5
    go_wp2_with (go_at_call 30; refine (unhide K6).mono ?_; rintro e w1 ⟨rfl, rfl⟩)
    refine (unhide K7).mono ?_
    rintro e W6 ⟨rfl, E6⟩
    have K8 := hide E6.begin
    rw [DS.start_down (S := S2.fall bits) rfl] at K8
    have G8 := G2.crashed bits
    have hR : (S2.fall bits).again.cut = none ∧ (S2.fall bits).again.N = 64 ∧ (S2.fall bits).again.cnt ≤ 300 := ⟨rfl, hN2, hm2'⟩
    clear K7 E6 G2
    go_wp2_with fail
    refine (unhide K8).mono ?_
    rintro e W8 ⟨rfl, E8⟩
    obtain ⟨R, hRe⟩ : ∃ R : DS, R = (S2.fall bits).again := ⟨_, rfl⟩
    have E8' : ED w W8 d R [] := by rw [hRe]; exact E8
    rw [← hRe] at G8 hR
    have K9 := hide (good_open E8' G8)
    clear K8 E8 E8' hRe
    go_wp2_with fail
    refine (unhide K9).mono ?_
    rintro e W9 ⟨kb, rfl, E9⟩
    have KS := hide (jseq_any E9)
    clear K9
    by_cases hf : 1984 < next.size
    · have hfi : (1984 : Int) < (next.size : Int) := by omega
      have KP := hide (Put_full E9 G8.up (by rw [hR.2.1]; omega) next (by rw [hR.2.1]; omega))
      clear E9 hf
      go_wp2_with (go_at_call 29; refine (unhide KS).mono ?_; rintro e w4 ⟨rfl, rfl⟩)
      refine (unhide KP).mono ?_
      rintro e W10 ⟨rfl, E10⟩
      have KM := hide (jRoom_any E10 (by rw [hR.2.1]; omega))
      rw [hR.2.1] at KM
      have KA := hide (j6alive_any W10)
      have HB := hide E10.bel
      clear KP E10
      go_wp2_with (first | (go_at_call 23; refine (unhide KM).mono ?_; rintro e w5 ⟨rfl, rfl⟩) | (go_at_call 17; refine (unhide KA).mono ?_; rintro e w3 ⟨rfl, b3⟩))
      go_ret
      exact ⟨rfl, bw_tr (unhide HB) b3⟩
    · have KP := hide (good_put E9 (by simp) G8 hR.1 (by omega) next (by unfold room6; rw [hR.2.1]; omega) (by have := hR.2.2; omega))
      clear E9 G8 hR
      go_wp2_with (go_at_call 29; refine (unhide KS).mono ?_; rintro e w4 ⟨rfl, rfl⟩)
      refine (unhide KP).mono ?_
      rintro e W10 ⟨S9, rfl, G9, -, -, -, E10⟩
      have KG := hide (get_any E10)
      rw [if_neg (fun c => c.elim (fun c => by cases c) (fun c => absurd (G9.up.symm.trans c) (by decide))), if_neg (fun c => c.elim (fun c => by cases c) (fun c => absurd (G9.up.symm.trans c) (by decide)))] at KG
      have KO := hide (good_open E10 G9)
      have hup9 := G9.up
      clear KP E10 G9
      go_wp2_with fail
      refine (unhide KG).mono ?_
      rintro e w6 ⟨rfl, rfl⟩
      go_wp2_with fail
      refine (unhide KO).mono ?_
      rintro e W11 ⟨lb, rfl, E11⟩
      have KH := hide (get_any E11)
      rw [if_neg (fun c => c.elim (fun c => by cases c) (fun c => absurd (hup9.symm.trans c) (by decide))), if_neg (fun c => c.elim (fun c => by cases c) (fun c => absurd (hup9.symm.trans c) (by decide)))] at KH
      have KT := hide (jseq_any E11)
      have KA := hide (j6alive_any W11)
      have HB := hide E11.bel
      have hn2i : (n2 : Int) ≤ 2 := by omega
      have hs1 : ((n2 + 1 : Nat) : Int) = (n2 : Int) + 1 := by omega
      clear KO KG E11 KS
      go_wp2_with fail
      refine (unhide KH).mono ?_
      rintro e w7 ⟨rfl, rfl⟩
      go_wp2_with (first | (go_at_call 29; refine (unhide KT).mono ?_; rintro e w8 ⟨rfl, rfl⟩) | (go_at_call 17; refine (unhide KA).mono ?_; rintro e w3 ⟨rfl, b3⟩))
      go_ret
      exact ⟨rfl, bw_tr (unhide HB) b3⟩
  · rw [hup] at K6
    have K8 := hide E5.begin
    rw [DS.start_down (S := S2) hup] at K8
    have G8 := G2
    have hR : S2.again.cut = none ∧ S2.again.N = 64 ∧ S2.again.cnt ≤ 300 := ⟨rfl, hN2, hm2'⟩
    clear E5 G2
    go_wp2_with (go_at_call 30; refine (unhide K6).mono ?_; rintro e w1 ⟨rfl, rfl⟩)
    refine (unhide K8).mono ?_
    rintro e W8 ⟨rfl, E8⟩
    obtain ⟨R, hRe⟩ : ∃ R : DS, R = S2.again := ⟨_, rfl⟩
    have E8' : ED w W8 d R [] := by rw [hRe]; exact E8
    rw [← hRe] at G8 hR
    have K9 := hide (good_open E8' G8)
    clear K8 E8 E8' hRe
    go_wp2_with fail
    refine (unhide K9).mono ?_
    rintro e W9 ⟨kb, rfl, E9⟩
    have KS := hide (jseq_any E9)
    clear K9
    by_cases hf : 1984 < next.size
    · have hfi : (1984 : Int) < (next.size : Int) := by omega
      have KP := hide (Put_full E9 G8.up (by rw [hR.2.1]; omega) next (by rw [hR.2.1]; omega))
      clear E9 hf
      go_wp2_with (go_at_call 29; refine (unhide KS).mono ?_; rintro e w4 ⟨rfl, rfl⟩)
      refine (unhide KP).mono ?_
      rintro e W10 ⟨rfl, E10⟩
      have KM := hide (jRoom_any E10 (by rw [hR.2.1]; omega))
      rw [hR.2.1] at KM
      have KA := hide (j6alive_any W10)
      have HB := hide E10.bel
      clear KP E10
      go_wp2_with (first | (go_at_call 23; refine (unhide KM).mono ?_; rintro e w5 ⟨rfl, rfl⟩) | (go_at_call 17; refine (unhide KA).mono ?_; rintro e w3 ⟨rfl, b3⟩))
      go_ret
      exact ⟨rfl, bw_tr (unhide HB) b3⟩
    · have KP := hide (good_put E9 (by simp) G8 hR.1 (by omega) next (by unfold room6; rw [hR.2.1]; omega) (by have := hR.2.2; omega))
      clear E9 G8 hR
      go_wp2_with (go_at_call 29; refine (unhide KS).mono ?_; rintro e w4 ⟨rfl, rfl⟩)
      refine (unhide KP).mono ?_
      rintro e W10 ⟨S9, rfl, G9, -, -, -, E10⟩
      have KG := hide (get_any E10)
      rw [if_neg (fun c => c.elim (fun c => by cases c) (fun c => absurd (G9.up.symm.trans c) (by decide))), if_neg (fun c => c.elim (fun c => by cases c) (fun c => absurd (G9.up.symm.trans c) (by decide)))] at KG
      have KO := hide (good_open E10 G9)
      have hup9 := G9.up
      clear KP E10 G9
      go_wp2_with fail
      refine (unhide KG).mono ?_
      rintro e w6 ⟨rfl, rfl⟩
      go_wp2_with fail
      refine (unhide KO).mono ?_
      rintro e W11 ⟨lb, rfl, E11⟩
      have KH := hide (get_any E11)
      rw [if_neg (fun c => c.elim (fun c => by cases c) (fun c => absurd (hup9.symm.trans c) (by decide))), if_neg (fun c => c.elim (fun c => by cases c) (fun c => absurd (hup9.symm.trans c) (by decide)))] at KH
      have KT := hide (jseq_any E11)
      have KA := hide (j6alive_any W11)
      have HB := hide E11.bel
      have hn2i : (n2 : Int) ≤ 2 := by omega
      have hs1 : ((n2 + 1 : Nat) : Int) = (n2 : Int) + 1 := by omega
      clear KO KG E11 KS
      go_wp2_with fail
      refine (unhide KH).mono ?_
      rintro e w7 ⟨rfl, rfl⟩
      go_wp2_with (first | (go_at_call 29; refine (unhide KT).mono ?_; rintro e w8 ⟨rfl, rfl⟩) | (go_at_call 17; refine (unhide KA).mono ?_; rintro e w3 ⟨rfl, b3⟩))
      go_ret
      exact ⟨rfl, bw_tr (unhide HB) b3⟩
end Go.Proofs.Ytimhjheigejjmab
