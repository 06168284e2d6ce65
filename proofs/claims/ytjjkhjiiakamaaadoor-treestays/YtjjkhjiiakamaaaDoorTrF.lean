/- The contracts of Check, Size, Members and Find. -/
import Derived.Test.YtjjkhjiiakamaaaDoorTrE
namespace Go.Proofs.YtjjkhjiiakamaaaDoor
open Go.RowKit Go.Maps

theorem mayB_wd {T : List Nd} (h : mayB T = true) : T = [] ∨ Wd T := by
  unfold mayB at h
  simp only [Bool.or_eq_true, Bool.and_eq_true, decide_eq_true_eq] at h
  rcases h with h | h
  · exact Or.inl (List.isEmpty_iff.1 h)
  · rcases Nat.eq_zero_or_pos T.length with h0 | h0
    · exact Or.inl (List.eq_nil_of_length_eq_zero h0)
    · obtain ⟨s1, s2⟩ := wid_small h.1.1.1.1 h0 h.1.1.1.2
      exact Or.inr ⟨nlv T, s1, s2⟩
theorem mayB_15 {T : List Nd} (h : mayB T = true) : T.length ≤ 15 ∧ nlv T ≤ 8 := by
  rcases mayB_wd h with rfl | h
  · exact ⟨by simp, by simp [nlv]⟩
  · exact ⟨h.facts.2.2.1, h.facts.2.2.2.1⟩
set_option maxHeartbeats 1000000 in
theorem check_any {w : World} {v : Value} {T : List Nd} (h : Trd w v T) (hT : Tab w) :
    Calls Tryd.prog 10 #[.agg #[v]] w fun e w' => e = .returned (.int .i64 (if mayB T = true then 0 else 1)) ∧ Below w.heap.size w w' := by
  have K := mayBe_any (h.bw (bwA w (.cells #[v] 24))) (hT.bw (bwA _ _))
  generalize mayB T = r at *
  clear h hT
  go_enter Tryd.func10, Tryd.ntmps10
  go_wp2_with fail
  refine K.mono ?_
  rintro e w1 ⟨rfl, b1⟩
  cases r
  · go_wp2
    go_ret
    exact ⟨rfl, bx_bel b1⟩
  · go_wp2
    go_ret
    exact ⟨rfl, bx_bel b1⟩
set_option maxHeartbeats 1000000 in
theorem size_any {w : World} {v : Value} {T : List Nd} (h : Trd w v T) (hT : Tab w) :
    Calls Tryd.prog 20 #[.agg #[v]] w fun e w' => e = .returned (.int .i64 (if mayB T = true then (nlv T : Nat) else 0)) ∧ Below w.heap.size w w' := by
  have K := mayBe_any (h.bw (bwA w (.cells #[v] 24))) (hT.bw (bwA _ _))
  obtain ⟨a, c, rfl⟩ := h.slice
  have KL : ∀ W, _ := fun W => leaves_any a T.length c W h.len
  have hnl : nlv T = (T.length + 1) / 2 := rfl
  rw [← hnl] at KL
  generalize mayB T = r at *
  clear h hT hnl
  generalize T.length = N at *
  go_enter Tryd.func20, Tryd.ntmps20
  go_wp2_with fail
  refine K.mono ?_
  rintro e w1 ⟨rfl, b1⟩
  have c1 := bx_cell b1
  cases r
  · go_wp2
    go_ret
    exact ⟨rfl, bx_bel b1⟩
  · go_wp2_with fail
    refine (KL _).mono ?_
    rintro e w2 ⟨rfl, b2⟩
    go_wp2
    go_ret
    exact ⟨rfl, bw_tr (bx_bel b1) b2⟩
set_option maxHeartbeats 1000000 in
theorem membersX_any {w : World} {v : Value} {T : List Nd} (h : Trd w v T) (hT : Tab w) :
    Calls Tryd.prog 12 #[.agg #[v]] w fun e w' => ∃ r, e = .returned r ∧ Ints w.heap.size w' r (if mayB T = true then mems T else []) ∧ Below w.heap.size w w' := by
  have K := mayBe_any (h.bw (bwA w (.cells #[v] 24))) (hT.bw (bwA _ _))
  have KL : mayB T = true → ∀ W, Below w.heap.size w W → _ := fun q W hW => members_any (h.bw hW) (mayB_15 q).1
  generalize mayB T = r at *
  clear h hT
  go_enter Tryd.func12, Tryd.ntmps12
  go_wp2_with fail
  refine K.mono ?_
  rintro e w1 ⟨rfl, b1⟩
  have c1 := bx_cell b1
  cases r
  · clear KL
    go_wp2
    go_ret
    exact ⟨_, rfl, ints_nil _ _, bx_bel b1⟩
  · have K2 := KL rfl w1 (bx_bel b1)
    clear KL
    go_wp2_with fail
    refine K2.mono ?_
    rintro e w2 ⟨u, rfl, hu, b2⟩
    have hsz := (bx_bel b1).size
    go_wp2
    go_ret
    exact ⟨_, rfl, hu.mono hsz, bw_tr (bx_bel b1) b2⟩
set_option maxHeartbeats 1000000 in
theorem findX_any {w : World} {v : Value} {T : List Nd} (h : Trd w v T) (hT : Tab w) (m : Int) :
    Calls Tryd.prog 15 #[.agg #[v], .int .i64 m] w fun e w' => e = .returned (.int .i64 (if mayB T = true then fnd T m else -1)) ∧ Below w.heap.size w w' := by
  have K := mayBe_any (h.bw (bwA w (.cells #[v] 24))) (hT.bw (bwA _ _))
  have KL : mayB T = true → ∀ W, Below w.heap.size w W → _ := fun q W hW => find_any (h.bw hW) (mayB_15 q).1 m
  generalize mayB T = r at *
  clear h hT
  go_enter Tryd.func15, Tryd.ntmps15
  go_wp2_with fail
  refine K.mono ?_
  rintro e w1 ⟨rfl, b1⟩
  have c1 := bx_cell b1
  cases r
  · clear KL
    go_wp2
    go_ret
    exact ⟨rfl, bx_bel b1⟩
  · have K2 := KL rfl w1 (bx_bel b1)
    clear KL
    go_wp2_with fail
    refine K2.mono ?_
    rintro e w2 ⟨rfl, b2⟩
    go_wp2
    go_ret
    exact ⟨rfl, bw_tr (bx_bel b1) b2⟩
set_option maxRecDepth 100000 in
set_option maxHeartbeats 1000000 in
theorem needed_any {w : World} {v : Value} {T : List Nd} (h : Trd w v T) (hw : Wd T) :
    Calls Tryd.prog 36 #[.agg #[v]] w fun e w' => e = .returned (.int .i64 (need T : Nat)) ∧ Below w.heap.size w w' := by
  obtain ⟨g1, g2, g3, g4, g5⟩ := hw.facts
  obtain ⟨a, c, rfl⟩ := h.slice
  obtain ⟨w0, hw0⟩ : ∃ w0, w0 = bxw w (.slice a T.length c) := ⟨_, rfl⟩
  have HB : Hid (∀ W, Below w0.heap.size w0 W → W.cell? ⟨w.heap.size, 0, none⟩ = some (.slice a T.length c) ∧ Below w.heap.size w W) := fun W hW => by subst hw0; exact ⟨bx_cell hW, bx_bel hW⟩
  have KL := hide (leaves_any a T.length c w0 h.len)
  have hnl : nlv T = (T.length + 1) / 2 := rfl
  rw [← hnl] at KL
  have HW : Hid (w0 = w.alloc (.cells #[.slice a T.length c] 24)) := hw0
  have KA : Hid (∀ W (i j : Nat), i ≤ j → j ≤ nlv T → Below w.heap.size w W → Calls Tryd.prog 49 #[.agg #[.slice a T.length c], .int .i64 (i : Int), .int .i64 (j : Int)] W fun e w' => e = .returned (.bool (anyM T i j)) ∧ Below W.heap.size W w') := fun W i j hij hj hW => anyMember_any (h.bw hW) g3 i j hij hj
  have HN : Hid (need T = needF 4 T (nlv T)) := rfl
  clear h hw0 hnl g1 g2 hw
  generalize T.length = N at *
  generalize nlv T = n at *
  go_enter Tryd.func36, Tryd.ntmps36
  go_wp2_with fail
  rw [← unhide HW]
  refine (unhide KL).mono ?_
  rintro e w1 ⟨rfl, b1⟩
  clear KL HW
  go_wp2_with fail
  go_loopw [3] (fun iv wr => ∃ i f : Nat, iv = .int .i64 (i : Int) ∧ 1 ≤ i ∧ i ≤ n ∧ i < 2 ^ f ∧ Hid (needF f T i = need T) ∧ Below w0.heap.size w0 wr) (fun iv _ => (intOf iv).toNat)
  case atStart => exact ⟨n, 4, rfl, g5, Nat.le_refl _, by omega, (unhide HN).symm, b1⟩
  case round =>
    clear b1
    obtain ⟨i, f, rfl, hi1, hin, hif, hrem, hbel⟩ := hrel
    obtain ⟨c1, hbw⟩ := unhide HB _ hbel
    by_cases k : 1 < i
    · obtain ⟨f', rfl⟩ : ∃ f', f = f' + 1 := ⟨f - 1, by cases f with | zero => simp at hif; omega | succ f => rfl⟩
      have k1 : (1 : Int) < (i : Int) := by omega
      have hi8 : (i : Int) ≤ 8 := by omega
      obtain ⟨i2, hi2⟩ : ∃ i2, i2 = i / 2 := ⟨_, rfl⟩
      have q2 : (i : Int) / 2 = (i2 : Int) := by omega
      have K := unhide KA wr i2 i (by omega) hin hbw
      have hr : Hid ((if anyM T i2 i = false then needF f' T i2 else i) = need T) := by
        have := unhide hrem
        unfold needF at this
        rw [← hi2] at this
        simpa [Hid, k] using this
      have hif2 : i2 < 2 ^ f' := by rw [Nat.pow_succ] at hif; omega
      have hlt : i2 < i := by omega
      have h12 : 1 ≤ i2 := by omega
      clear hi2 hif hrem
      generalize anyM T i2 i = p at *
      go_wp2_with fail
      refine K.mono ?_
      rintro e w2 ⟨rfl, b2⟩
      have hbel2 := bw_tr hbel b2
      cases p
      · have hr2 : Hid (needF f' T i2 = need T) := by simpa [Hid] using unhide hr
        clear hr K
        go_wp2_with fail
        go_roundw
        case rel => exact ⟨i2, f', by go_num, h12, by omega, hif2, hr2, hbel2⟩
        case measure => simp [intOf]; omega
      · have hr2 : Hid (i = need T) := by simpa [Hid] using unhide hr
        clear hr K
        go_wp2_with fail
        go_ret
        rw [← unhide hr2]
        exact ⟨rfl, (unhide HB _ hbel2).2⟩
    · have k1 : decide ((1 : Int) < (i : Int)) = false := decide_eq_false (by omega)
      have hr2 : Hid (i = need T) := by
        have := unhide hrem
        cases f with
        | zero => exact this
        | succ f => unfold needF at this; simpa [Hid, k] using this
      clear hrem
      go_wp2_with fail
      go_ret
      rw [← unhide hr2]
      exact ⟨rfl, hbw⟩
end Go.Proofs.YtjjkhjiiakamaaaDoor
