/- WireOnce: for every text and every kind, the law answers true: bytes that are taken as a number, a text, a list's head are just those that are written for it: no thing has two rows of bytes. No condition. (Here: flags, texts, and the row.) -/
import Derived.Test.YtjoiecphjapbaaaWireOnceA
namespace Go.Proofs.Ytjoiecphjapbaaa
open Go.ChangeShapes Go.WideShapes Go.ChangeAt Go.RowKit
open Go.ChangeMaps (open_string shut_string)

set_option maxRecDepth 100000 in
set_option maxHeartbeats 2000000 in
theorem WireOnce_walk2 (s : ByteArray) (w : World) (hs : s.size ≤ 140737488355328)  :
    Calls Try.prog 6 #[.string s, .int .i64 2] w fun e w' => e = .returned (.bool true) ∧ Below w.heap.size w w' := by
  have N0 := On.fresh w s 2
  have K1 := rFlag_any w.heap.size 0 s _ N0.rd hs
  cases ho : (tflag s.data.toList 0) with
  | some p =>
    obtain ⟨y, j⟩ := p
    cases y
    · have ho2 : flagO (tflag s.data.toList 0) = some (.bool false, j) := by rw [ho]; rfl
      rw [ho2] at K1
      obtain ⟨hE, hB⟩ := once2f _ _ ho
      have HB := hide hB
      have hJ : j ≤ s.size := flag_le ho
      clear hB ho ho2
      have Kw : ∀ (W : World), On w W s j 2 (0) ⟨#[]⟩ → Calls Try.prog 13 #[.pointer (some ⟨w.heap.size + 1, 0, none⟩), .agg #[.int .i64 2, .int .i64 (0), .string ⟨#[]⟩]] W fun e w' => e = .returned (.int .i64 0) ∧ ∃ sv, WStep W w' (w.heap.size + 1) (.slice none 0 0) sv (s.data.toList.take j) := by
        intro W hW
        have := write_any (w.heap.size + 1) ⟨2, 0, ⟨#[]⟩⟩ (.slice none 0 0) [] W (by simp only; omega) (by simp only; omega) hW.pw (by simp)
        rw [hE, unhide HB, List.nil_append] at this
        exact this
      have HKw := hide Kw
      have heq : ((str (s.data.toList.take j)).toList == (s.extract 0 j).toList) = true := by rw [beq_iff_eq, toList_str, extract_upto]
      clear Kw hE
      go_enter Try.func6, Try.ntmps6
      go_wp2_with (first | (go_at_call 16; refine (newReader_any _ _).mono ?_; rintro e w9 ⟨rfl, rfl⟩) | (go_at_call 11; refine (newWriter_any _).mono ?_; rintro e w9 ⟨rfl, rfl⟩))
      refine K1.mono ?_
      rintro e w1 ⟨hf1, rfl, hr1⟩
      have N1 := N0.read hf1 hr1
      clear N0 K1
      obtain ⟨c0, c1, c2, f1, f2⟩ := N1.cells
      have N2 := N1
      clear N1
      go_wp2_with fail
      refine (unhide HKw _ N2).mono ?_
      rintro e w3 ⟨rfl, sv, hst⟩
      obtain ⟨hr3, hw3, hb3⟩ := N2.write hst
      go_wp2_with fail
      refine (wBytes_any _ _ _ _ hw3).mono ?_
      rintro e w4 ⟨rfl, rfl⟩
      go_wp2_with fail
      refine (at_any _ _ _ _ hr3).mono ?_
      rintro e w4 ⟨rfl, rfl⟩
      go_wp2_with fail
      refine (alive_any _).mono ?_
      rintro e w5 ⟨rfl, hb5⟩
      go_wp2
      go_ret
      exact ⟨rfl, hb3.trans (hb5.mono hb3.size)⟩
    · have ho2 : flagO (tflag s.data.toList 0) = some (.bool true, j) := by rw [ho]; rfl
      rw [ho2] at K1
      obtain ⟨hE, hB⟩ := once2t _ _ ho
      have HB := hide hB
      have hJ : j ≤ s.size := flag_le ho
      clear hB ho ho2
      have Kw : ∀ (W : World), On w W s j 2 (1) ⟨#[]⟩ → Calls Try.prog 13 #[.pointer (some ⟨w.heap.size + 1, 0, none⟩), .agg #[.int .i64 2, .int .i64 (1), .string ⟨#[]⟩]] W fun e w' => e = .returned (.int .i64 0) ∧ ∃ sv, WStep W w' (w.heap.size + 1) (.slice none 0 0) sv (s.data.toList.take j) := by
        intro W hW
        have := write_any (w.heap.size + 1) ⟨2, 1, ⟨#[]⟩⟩ (.slice none 0 0) [] W (by simp only; omega) (by simp only; omega) hW.pw (by simp)
        rw [hE, unhide HB, List.nil_append] at this
        exact this
      have HKw := hide Kw
      have heq : ((str (s.data.toList.take j)).toList == (s.extract 0 j).toList) = true := by rw [beq_iff_eq, toList_str, extract_upto]
      clear Kw hE
      go_enter Try.func6, Try.ntmps6
      go_wp2_with (first | (go_at_call 16; refine (newReader_any _ _).mono ?_; rintro e w9 ⟨rfl, rfl⟩) | (go_at_call 11; refine (newWriter_any _).mono ?_; rintro e w9 ⟨rfl, rfl⟩))
      refine K1.mono ?_
      rintro e w1 ⟨hf1, rfl, hr1⟩
      have N1 := N0.read hf1 hr1
      clear N0 K1
      obtain ⟨c0, c1, c2, f1, f2⟩ := N1.cells
      have N2 := N1.setN 1
      clear N1
      go_wp2_with fail
      refine (unhide HKw _ N2).mono ?_
      rintro e w3 ⟨rfl, sv, hst⟩
      obtain ⟨hr3, hw3, hb3⟩ := N2.write hst
      go_wp2_with fail
      refine (wBytes_any _ _ _ _ hw3).mono ?_
      rintro e w4 ⟨rfl, rfl⟩
      go_wp2_with fail
      refine (at_any _ _ _ _ hr3).mono ?_
      rintro e w4 ⟨rfl, rfl⟩
      go_wp2_with fail
      refine (alive_any _).mono ?_
      rintro e w5 ⟨rfl, hb5⟩
      go_wp2
      go_ret
      exact ⟨rfl, hb3.trans (hb5.mono hb3.size)⟩
  | none =>
    have ho2 : flagO (tflag s.data.toList 0) = none := by rw [ho]; rfl
    rw [ho2] at K1
    clear ho ho2
    go_enter Try.func6, Try.ntmps6
    go_wp2_with (first | (go_at_call 16; refine (newReader_any _ _).mono ?_; rintro e w9 ⟨rfl, rfl⟩) | (go_at_call 11; refine (newWriter_any _).mono ?_; rintro e w9 ⟨rfl, rfl⟩))
    refine K1.mono ?_
    rintro e w1 ⟨hf1, rfl, hr1⟩
    have N1 := N0.read hf1 hr1
    clear N0 K1
    obtain ⟨c0, c1, c2, f1, f2⟩ := N1.cells
    have N2 := N1
    clear N1
    go_wp2_with fail
    refine (at_any _ _ _ _ N2.rd).mono ?_
    rintro e w4 ⟨rfl, rfl⟩
    go_wp2_with fail
    refine (alive_any _).mono ?_
    rintro e w5 ⟨rfl, hb5⟩
    go_wp2
    go_ret
    exact ⟨rfl, N2.bel.trans (hb5.mono N2.bel.size)⟩

set_option maxRecDepth 100000 in
set_option maxHeartbeats 2000000 in
theorem WireOnce_walk3 (s : ByteArray) (w : World) (hs : s.size ≤ 140737488355328)  :
    Calls Try.prog 6 #[.string s, .int .i64 3] w fun e w' => e = .returned (.bool true) ∧ Below w.heap.size w w' := by
  have N0 := On.fresh w s 3
  have K1 := rText_any w.heap.size 0 s _ N0.rd hs
  cases ho : (ttext s.data.toList 0) with
  | some p =>
    obtain ⟨t, j⟩ := p
    have ho2 : textO (ttext s.data.toList 0) = some (.string (str t), j) := by rw [ho]; rfl
    rw [ho2] at K1
    obtain ⟨hE, hB⟩ := once3 _ _ _ ho
    have HB := hide hB
    have hJ : j ≤ s.size := text_le ho
    clear hB ho ho2
    have Kw : ∀ (W : World), On w W s j 3 (0) (str t) → Calls Try.prog 13 #[.pointer (some ⟨w.heap.size + 1, 0, none⟩), .agg #[.int .i64 3, .int .i64 (0), .string (str t)]] W fun e w' => e = .returned (.int .i64 0) ∧ ∃ sv, WStep W w' (w.heap.size + 1) (.slice none 0 0) sv (s.data.toList.take j) := by
      intro W hW
      have := write_any (w.heap.size + 1) ⟨3, 0, (str t)⟩ (.slice none 0 0) [] W (by simp only; omega) (by simp only; omega) hW.pw (by simp)
      rw [hE, unhide HB, List.nil_append] at this
      exact this
    have HKw := hide Kw
    have heq : ((str (s.data.toList.take j)).toList == (s.extract 0 j).toList) = true := by rw [beq_iff_eq, toList_str, extract_upto]
    clear Kw hE
    go_enter Try.func6, Try.ntmps6
    go_wp2_with (first | (go_at_call 16; refine (newReader_any _ _).mono ?_; rintro e w9 ⟨rfl, rfl⟩) | (go_at_call 11; refine (newWriter_any _).mono ?_; rintro e w9 ⟨rfl, rfl⟩))
    refine K1.mono ?_
    rintro e w1 ⟨hf1, rfl, hr1⟩
    have N1 := N0.read hf1 hr1
    clear N0 K1
    obtain ⟨c0, c1, c2, f1, f2⟩ := N1.cells
    have N2 := N1.setS (str t)
    clear N1
    go_wp2_with fail
    refine (unhide HKw _ N2).mono ?_
    rintro e w3 ⟨rfl, sv, hst⟩
    obtain ⟨hr3, hw3, hb3⟩ := N2.write hst
    go_wp2_with fail
    refine (wBytes_any _ _ _ _ hw3).mono ?_
    rintro e w4 ⟨rfl, rfl⟩
    go_wp2_with fail
    refine (at_any _ _ _ _ hr3).mono ?_
    rintro e w4 ⟨rfl, rfl⟩
    go_wp2_with fail
    refine (alive_any _).mono ?_
    rintro e w5 ⟨rfl, hb5⟩
    go_wp2
    go_ret
    exact ⟨rfl, hb3.trans (hb5.mono hb3.size)⟩
  | none =>
    have ho2 : textO (ttext s.data.toList 0) = none := by rw [ho]; rfl
    rw [ho2] at K1
    clear ho ho2
    go_enter Try.func6, Try.ntmps6
    go_wp2_with (first | (go_at_call 16; refine (newReader_any _ _).mono ?_; rintro e w9 ⟨rfl, rfl⟩) | (go_at_call 11; refine (newWriter_any _).mono ?_; rintro e w9 ⟨rfl, rfl⟩))
    refine K1.mono ?_
    rintro e w1 ⟨hf1, rfl, hr1⟩
    have N1 := N0.read hf1 hr1
    clear N0 K1
    obtain ⟨c0, c1, c2, f1, f2⟩ := N1.cells
    have N2 := N1.setS ⟨#[]⟩
    clear N1
    go_wp2_with fail
    refine (at_any _ _ _ _ N2.rd).mono ?_
    rintro e w4 ⟨rfl, rfl⟩
    go_wp2_with fail
    refine (alive_any _).mono ?_
    rintro e w5 ⟨rfl, hb5⟩
    go_wp2
    go_ret
    exact ⟨rfl, N2.bel.trans (hb5.mono N2.bel.size)⟩

theorem WireOnce_walk (s : ByteArray) (kd : Int) (w : World) (hs : s.size ≤ 140737488355328) :
    Calls Try.prog 6 #[.string s, .int .i64 kd] w fun e w' => e = .returned (.bool true) ∧ Below w.heap.size w w' := by
  by_cases k0 : kd = 0
  · subst k0; exact WireOnce_walk0 s w hs
  by_cases k1 : kd = 1
  · subst k1; exact WireOnce_walk1 s w hs
  by_cases k2 : kd = 2
  · subst k2; exact WireOnce_walk2 s w hs
  by_cases k3 : kd = 3
  · subst k3; exact WireOnce_walk3 s w hs
  exact WireOnce_walk4 s w hs kd k0 k1 k2 k3

set_option maxRecDepth 100000 in
theorem WireOnce_lifted (os : Os) (started : os.Started) (H : Type) (enc : TypeId × Value → H) :
    ReturnsInHanded {} Try.checked os 6 .any (Rows.wireOnceSpec.pre6 enc Try.prog Try.f6 Rows.wireOnceRow.domain false) (Rows.wireOnceSpec.post enc Try.prog Try.f6 false true false false) := by
  refine returnsInHanded_of_change_sized (C := Try.checked) own started (by kernel_rfl) Try.func6
    (ChangeSpec.witness6 (enc := enc) (C := Try.checked) false ⟨#[], #[.string ByteArray.empty, .int .i64 0], []⟩ 8 (by kernel_rfl) (by kernel_rfl) (by kernel_rfl) (by kernel_rfl)) ?_
  intro W base args ds gs before hval0 hW hcnd hsz0 _
  have hval : ∀ (j : Nat) t v, Try.f6.params[j]? = some t → args[j]? = some v → Value.okWide Try.prog W .any base t v := hval0
  have hsz : (DataW.weightsEach Try.prog (Try.f6.params.toList ++ Rows.wireOnceSpec.plain.varTypes Try.prog) (ds ++ gs)).all (· ≤ reachBytes) = true := hsz0
  have hW' := hW
  obtain ⟨p, q, hA0, hV, rfl, hfz, hnd⟩ := hW
  have hA : DataW.TrodAll enc Try.prog W 0 (fun _ => true) true Try.f6.params.toList args.toList ds p := hA0
  rw [Try.params6] at hA hval hsz
  obtain ⟨v0, vs0, d0, ds0, p0, q0, hargs, rfl, rfl, h0, r0⟩ := trodAll_cons hA
  obtain ⟨v1, vs1, d1, ds1, p1, q1, rfl, rfl, rfl, h1, r1⟩ := trodAll_cons r0
  obtain ⟨rfl, rfl, rfl⟩ := trodAll_nil r1
  obtain rfl : args = #[v0, v1] := by cases args; simp_all
  obtain ⟨rfl, rfl⟩ := trodVars_none hV
  obtain ⟨s, rfl, rfl, rfl, w0⟩ := open_string Try.underlying9 (hval 0 9 v0 rfl rfl) h0
  have hs : s.size ≤ 140737488355328 := by
    have := sized_string hsz (j := 0) (t := 9) rfl rfl
    have hr := reachBytes_lt
    simp at this hr; omega
  obtain ⟨a1, rfl, rfl, rfl, w1⟩ := open_int Try.underlying3 (hval 1 3 v1 rfl rfl) h1
  clear hA0 hval0
  refine (WireOnce_walk s a1 W hs).mono fun e W' ⟨he, bel⟩ => ?_
  subst he
  exact ⟨_, rfl, _, _, _, [], _, [], hW', trodAll_mk1 (shut_bool Try.underlying4 _), (trodAll_cons_mk (shut_string Try.underlying9 w0) (trodAll_cons_mk (shut_int Try.underlying3 w1) trodAll_mk0)), rfl, bel.frame _, fun h => by cases h⟩

theorem WireOnce_over : Rows.wireOnceRow.holds Try.pinned (OpenSpec.ofChange Rows.wireOnceSpec) :=
  OpenClaim.holds_of_wide 6 Try.f6 rfl rfl rfl rfl rfl rfl rfl ⟨rfl, rfl, rfl, rfl, rfl⟩ rfl rfl rfl rfl rfl (by kernel_rfl) Try.func6 (by kernel_rfl)
    (of_decide_eq_true (by kernel_rfl)) (by unfold Func.isWrapper; first | (rw [if_pos (by decide +kernel)]; kernel_rfl) | (rw [if_neg (by decide +kernel)]; exact ⟨rfl, rfl⟩))
    (fun os started H enc _ => WireOnce_lifted os started H enc)

theorem WireOnce_holds : Rows.WireOnceSaid := WireOnce_over
#print axioms WireOnce_holds

end Go.Proofs.Ytjoiecphjapbaaa
