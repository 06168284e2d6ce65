/- The walk of JournalWhole. -/
import Derived.Test.YtimhjheigejjmabJnU
import Derived.Test.YtimhjheigejjmabJnV
import Derived.Test.YtimhjheigejjmabDkFrame
namespace Go.Proofs.Ytimhjheigejjmab
open Go.RowKit Go.Maps

theorem Good.withCut {S : DS} {n : Nat} {t : ByteArray} (h : Good S n t) (c : Option (Nat × Int)) : Good { S with cut := c } n t := h.old h.up rfl h.sn (fun _ _ => rfl)
theorem Good.crashed {S : DS} {n : Nat} {t : ByteArray} (h : Good S n t) (bits : Int) : Good (S.fall bits).again n t := h.old rfl rfl rfl (fun k _ => by show fl bits 0 S.base (S.since.take 31) k = _; rw [h.sn]; rfl)
set_option maxRecDepth 100000 in
set_option maxHeartbeats 4000000 in
theorem JournalWhole_walk (w : World) (old : ByteArray) (ho : old.size ≤ 140737488355328) (text : ByteArray) (ht : text.size ≤ 140737488355328) (n : Int) (hn1 : -9223372036854775808 ≤ n) (hn2 : n ≤ 9223372036854775807) (bits : Int) (_hb1 : -9223372036854775808 ≤ bits) (_hb2 : bits ≤ 9223372036854775807) :
    Calls Try.prog 5 #[.string old, .string text, .int .i64 n, .int .i64 bits] w fun e w' => e = .returned (.bool true) ∧ Below w.heap.size w w' := by
  have K1 := hide (ED.start (Env.nil w) 64 (by omega) (by omega))
  have HOT := hide (And.intro ho ht)
  clear ho ht
  go_enter Try.func5, Try.ntmps5
  go_wp2_with fail
  refine (unhide K1).mono ?_
  rintro e W1 ⟨d, rfl, E1⟩
  clear K1
  obtain ⟨X1, hX1⟩ : ∃ X, X = W1.alloc (.cells #[.int .i64 (old.size : Int), .int .i64 (text.size : Int)] 3) := ⟨_, rfl⟩
  have q1 : X1.heap[W1.heap.size]? = some (.cells #[.int .i64 (old.size : Int), .int .i64 (text.size : Int)] 3 (0, 0)) := by rw [hX1]; exact heap_alloc_new _ _
  have KB := hide (beyond_two W1.heap.size old.size text.size 2 X1 (by have := (unhide HOT).1; omega) (by have := (unhide HOT).2; omega) (by simp [World.cell?, q1]) (by simp [World.cell?, q1]))
  have E1' := E1.new (show Below W1.heap.size W1 X1 by rw [hX1]; exact bw_alloc _ _)
  have HX1 := hide hX1
  have HB1 := hide E1'.bel
  clear E1 q1
  go_wp2_with fail
  rw [← unhide HX1]
  clear hX1
  by_cases hbig : 262144 < old.size + text.size
  · rw [decide_eq_true hbig] at KB
    have KA := hide (j6alive_any X1)
    clear E1' hbig
    refine (unhide KB).mono ?_
    rintro e w2 ⟨rfl, rfl⟩
    clear KB
    go_wp2_with (go_at_call 17; refine (unhide KA).mono ?_; rintro e w3 ⟨rfl, b3⟩)
    go_ret
    exact ⟨rfl, bw_tr (unhide HB1) b3⟩
  rw [decide_eq_false hbig] at KB
  by_cases hneg : n < 0
  · have KA := hide (j6alive_any X1)
    clear E1' hbig
    refine (unhide KB).mono ?_
    rintro e w2 ⟨rfl, rfl⟩
    clear KB
    go_wp2_with (go_at_call 17; refine (unhide KA).mono ?_; rintro e w3 ⟨rfl, b3⟩)
    go_ret
    exact ⟨rfl, bw_tr (unhide HB1) b3⟩
  have K2 := hide (good_open E1' (good_new (by omega)))
  clear E1'
  refine (unhide KB).mono ?_
  rintro e w2 ⟨rfl, rfl⟩
  clear KB
  go_wp2_with fail
  refine (unhide K2).mono ?_
  rintro e W2 ⟨jb, rfl, E2⟩
  clear K2
  have hr64 : room6 (DS.new 64) = 1984 := rfl
  by_cases hold : 1984 < old.size
  · have K3 := hide (Put_full E2 rfl (by decide) old (by show 1984 < _; exact hold))
    have holdi : (1984 : Int) < (old.size : Int) := by omega
    clear E2 hold hbig
    go_wp2_with fail
    refine (unhide K3).mono ?_
    rintro e W3 ⟨rfl, E3⟩
    have K4 := hide (jRoom_any E3 (by decide))
    rw [show (((DS.new 64).N - 2) / 2 * 64 : Nat) = 1984 from rfl] at K4
    have KA := hide (j6alive_any W3)
    have HB := hide E3.bel
    clear K3 E3
    go_wp2_with (first | (go_at_call 23; refine (unhide K4).mono ?_; rintro e w1 ⟨rfl, rfl⟩) | (go_at_call 17; refine (unhide KA).mono ?_; rintro e w3 ⟨rfl, b3⟩))
    go_ret
    exact ⟨rfl, bw_tr (unhide HB) b3⟩
  have K3 := hide (good_put E2 (by simp) (good_new (by omega)) rfl (by omega) old (by rw [hr64]; omega) (by decide))
  clear E2
  go_wp2_with fail
  refine (unhide K3).mono ?_
  rintro e W3 ⟨S1, rfl, G1, gc, gn, gN, E3⟩
  have gN2 : S1.N = 64 := gN
  have hcnt1 : S1.cnt ≤ 5000 := by rw [gn, costN_rnds]; show 0 + _ ≤ _; unfold rnds; omega
  have hcutE : S1.doCut n bits = ({ S1 with cut := some (n.toNat, bits) }, 0) := by unfold DS.doCut; rw [if_neg (by simp [G1.up]), if_neg (by omega)]
  have K4 := hide (E3.cut n bits hn2)
  rw [hcutE] at K4
  clear K3 E3 hcutE
  go_wp2_with fail
  refine (unhide K4).mono ?_
  rintro e W4 ⟨rfl, E4⟩
  have G2 := G1.withCut (some (n.toNat, bits))
  obtain ⟨S2, hS2⟩ : ∃ T : DS, T = { S1 with cut := some (n.toNat, bits) } := ⟨_, rfl⟩
  have E4' : ED w W4 d S2 [jr jb d (0 + 1) old false] := by rw [hS2]; exact E4
  rw [← hS2] at G2
  have hS2N : S2.N = 64 := by rw [hS2]; exact gN2
  have hS2c : S2.cut = some (n.toNat, bits) := by rw [hS2]
  have hS2n : S2.cnt ≤ 5000 := by rw [hS2]; exact hcnt1
  clear K4 E4 hS2 G1 gc gn gN gN2 hcnt1
  have hr2 : room6 S2 = 1984 := by unfold room6; rw [hS2N]
  by_cases htx : 1984 < text.size
  · have K5 := hide (Put_full E4' G2.up (by omega) text (by rw [hS2N]; omega))
    have htxi : (1984 : Int) < (text.size : Int) := by omega
    clear E4' htx hbig
    go_wp2_with fail
    refine (unhide K5).mono ?_
    rintro e W5 ⟨rfl, E5⟩
    have K6 := hide (jRoom_any E5 (by omega))
    rw [hS2N] at K6
    have KA := hide (j6alive_any W5)
    have HB := hide E5.bel
    clear K5 E5
    go_wp2_with (first | (go_at_call 23; refine (unhide K6).mono ?_; rintro e w1 ⟨rfl, rfl⟩) | (go_at_call 17; refine (unhide KA).mono ?_; rintro e w3 ⟨rfl, b3⟩))
    go_ret
    exact ⟨rfl, bw_tr (unhide HB) b3⟩
  have K5 := hide (Put_go E4' (by simp) G2.up G2.N4 (by omega) text (by rw [hS2N]; omega) (by omega) (by rw [G2.sn]; simp))
  clear E4'
  go_wp2_with fail
  refine (unhide K5).mono ?_
  rintro e W5 ⟨S3, x, rfl, hv, E5⟩
  have hPC := G2.putCut hS2c (by omega) (by rw [hr2]; omega) hv
  clear K5 hv
  rcases hPC with ⟨p1, rfl, p3, p4, p5⟩ | ⟨p1, rfl, p3, p4, p5, p6, p7⟩
  · have hNN : S3.N = 64 := by rw [p4]; exact hS2N
    have hcn : (costN text.size : Int) ≤ n := by omega

    have K6 := hide (jRoom_any E5 (by rw [hNN]; omega))
    rw [hNN] at K6
    have K7 := hide (cost_any text.size W5 (by omega))
    have hti : ¬ ((1984 : Int) < (text.size : Int)) := by omega
    obtain ⟨co, hco⟩ : ∃ co : Int, co = (costN text.size : Int) := ⟨_, rfl⟩
    rw [← hco] at K7 hcn
    have K8 := hide (E5.crash bits)
    rw [DS.crash_plain p3.up] at K8
    have HP := hide p3
    clear E5 p1 p3 p4 p5 hco htx hold hbig
    go_wp2_with (first | (go_at_call 23; refine (unhide K6).mono ?_; rintro e w1 ⟨rfl, rfl⟩) | (go_at_call 25; refine (unhide K7).mono ?_; rintro e w1 ⟨rfl, rfl⟩))
    refine (unhide K8).mono ?_
    rintro e W6 ⟨rfl, E6⟩
    have K9 := hide E6.begin
    rw [DS.start_down (S := S3.fall bits) rfl] at K9
    clear K8 E6
    go_wp2_with fail
    refine (unhide K9).mono ?_
    rintro e W8 ⟨rfl, E8⟩
    have G8 := (unhide HP).crashed bits
    clear K9 HP

    have K11 := hide (good_open E8 G8)
    have HG8 := hide (And.intro G8 G8.up)
    clear E8 G8
    go_wp2_with fail
    refine (unhide K11).mono ?_
    rintro e W9 ⟨ab, rfl, E9⟩
    have K12 := hide (good_open E9 (unhide HG8).1)
    clear K11 E9
    go_wp2_with fail
    refine (unhide K12).mono ?_
    rintro e W10 ⟨bb, rfl, E10⟩
    have KGb := hide (get_any E10)
    have KGa := hide (get_any E10.drop1)
    have hup := (unhide HG8).2
    rw [if_neg (fun c => c.elim (fun c => by cases c) (fun c => absurd (hup.symm.trans c) (by decide))), if_neg (fun c => c.elim (fun c => by cases c) (fun c => absurd (hup.symm.trans c) (by decide)))] at KGa KGb
    have KSb := hide (jseq_any E10)
    have KSa := hide (jseq_any E10.drop1)
    have KA := hide (j6alive_any W10)
    have HB := hide E10.bel
    clear K12 E10 HG8 hup
    go_wp2_with fail
    refine (unhide KGa).mono ?_
    rintro e w4 ⟨rfl, rfl⟩
    go_wp2_with fail
    refine (unhide KGb).mono ?_
    rintro e w5 ⟨rfl, rfl⟩
    go_wp2_with fail
    refine (unhide KSa).mono ?_
    rintro e w6 ⟨rfl, rfl⟩
    go_wp2_with fail
    refine (unhide KSb).mono ?_
    rintro e w7 ⟨rfl, rfl⟩
    go_wp2_with (first | (go_at_call 29; refine (unhide KSa).mono ?_; rintro e w8 ⟨rfl, rfl⟩) | (go_at_call 17; refine (unhide KA).mono ?_; rintro e w3 ⟨rfl, b3⟩))
    all_goals
      go_ret
      exact ⟨rfl, bw_tr (unhide HB) b3⟩
  · have hNN : S3.N = 64 := by rw [p4]; exact hS2N
    have hcn : n < (costN text.size : Int) := by omega

    have K6 := hide (jRoom_any E5 (by rw [hNN]; omega))
    rw [hNN] at K6
    have K7 := hide (cost_any text.size W5 (by omega))
    have hti : ¬ ((1984 : Int) < (text.size : Int)) := by omega
    obtain ⟨co, hco⟩ : ∃ co : Int, co = (costN text.size : Int) := ⟨_, rfl⟩
    rw [← hco] at K7 hcn
    have hcb : 3 ≤ co ∧ co ≤ 1000 := by rw [hco, costN_rnds]; unfold rnds; omega
    obtain ⟨hcb1, hcb2⟩ := hcb
    have K9 := hide E5.begin
    rw [DS.start_down (S := S3) p3] at K9
    have hlast : ¬ (n.toNat + 1 = costN text.size) ∨ ¬ (n < co - 1) := by omega
    have hsplit : Good S3.again (0 + 1) old ∨ (¬ (n < co - 1) ∧ Good S3.again (0 + 1 + 1) text) := by
      rcases p7 with q | ⟨q1, q2⟩
      · exact Or.inl q
      · exact Or.inr ⟨by omega, q2⟩
    clear E5 p1 p3 p4 p5 p6 p7 hco htx hold hbig hlast
    go_wp2_with (first | (go_at_call 23; refine (unhide K6).mono ?_; rintro e w1 ⟨rfl, rfl⟩) | (go_at_call 25; refine (unhide K7).mono ?_; rintro e w1 ⟨rfl, rfl⟩))
    refine (unhide K9).mono ?_
    rintro e W8 ⟨rfl, E8⟩
    clear K9
    rcases hsplit with G8 | ⟨hnl, G8⟩
    case inl =>

      have K11 := hide (good_open E8 G8)
      have HG8 := hide (And.intro G8 G8.up)
      clear E8 G8
      go_wp2_with fail
      refine (unhide K11).mono ?_
      rintro e W9 ⟨ab, rfl, E9⟩
      have K12 := hide (good_open E9 (unhide HG8).1)
      clear K11 E9
      go_wp2_with fail
      refine (unhide K12).mono ?_
      rintro e W10 ⟨bb, rfl, E10⟩
      have KGb := hide (get_any E10)
      have KGa := hide (get_any E10.drop1)
      have hup := (unhide HG8).2
      rw [if_neg (fun c => c.elim (fun c => by cases c) (fun c => absurd (hup.symm.trans c) (by decide))), if_neg (fun c => c.elim (fun c => by cases c) (fun c => absurd (hup.symm.trans c) (by decide)))] at KGa KGb
      have KSb := hide (jseq_any E10)
      have KSa := hide (jseq_any E10.drop1)
      have KA := hide (j6alive_any W10)
      have HB := hide E10.bel
      clear K12 E10 HG8 hup
      go_wp2_with fail
      refine (unhide KGa).mono ?_
      rintro e w4 ⟨rfl, rfl⟩
      go_wp2_with fail
      refine (unhide KGb).mono ?_
      rintro e w5 ⟨rfl, rfl⟩
      go_wp2_with fail
      refine (unhide KSa).mono ?_
      rintro e w6 ⟨rfl, rfl⟩
      go_wp2_with fail
      refine (unhide KSb).mono ?_
      rintro e w7 ⟨rfl, rfl⟩
      go_wp2_with (first | (go_at_call 29; refine (unhide KSa).mono ?_; rintro e w8 ⟨rfl, rfl⟩) | (go_at_call 17; refine (unhide KA).mono ?_; rintro e w3 ⟨rfl, b3⟩))
      all_goals
        go_ret
        exact ⟨rfl, bw_tr (unhide HB) b3⟩

    case inr =>

      have K11 := hide (good_open E8 G8)
      have HG8 := hide (And.intro G8 G8.up)
      clear E8 G8
      go_wp2_with fail
      refine (unhide K11).mono ?_
      rintro e W9 ⟨ab, rfl, E9⟩
      have K12 := hide (good_open E9 (unhide HG8).1)
      clear K11 E9
      go_wp2_with fail
      refine (unhide K12).mono ?_
      rintro e W10 ⟨bb, rfl, E10⟩
      have KGb := hide (get_any E10)
      have KGa := hide (get_any E10.drop1)
      have hup := (unhide HG8).2
      rw [if_neg (fun c => c.elim (fun c => by cases c) (fun c => absurd (hup.symm.trans c) (by decide))), if_neg (fun c => c.elim (fun c => by cases c) (fun c => absurd (hup.symm.trans c) (by decide)))] at KGa KGb
      have KSb := hide (jseq_any E10)
      have KSa := hide (jseq_any E10.drop1)
      have KA := hide (j6alive_any W10)
      have HB := hide E10.bel
      clear K12 E10 HG8 hup
      go_wp2_with fail
      refine (unhide KGa).mono ?_
      rintro e w4 ⟨rfl, rfl⟩
      go_wp2_with fail
      refine (unhide KGb).mono ?_
      rintro e w5 ⟨rfl, rfl⟩
      go_wp2_with fail
      refine (unhide KSa).mono ?_
      rintro e w6 ⟨rfl, rfl⟩
      go_wp2_with fail
      refine (unhide KSb).mono ?_
      rintro e w7 ⟨rfl, rfl⟩
      go_wp2_with (first | (go_at_call 29; refine (unhide KSa).mono ?_; rintro e w8 ⟨rfl, rfl⟩) | (go_at_call 17; refine (unhide KA).mono ?_; rintro e w3 ⟨rfl, b3⟩))
      all_goals
        go_ret
        exact ⟨rfl, bw_tr (unhide HB) b3⟩

end Go.Proofs.Ytimhjheigejjmab
