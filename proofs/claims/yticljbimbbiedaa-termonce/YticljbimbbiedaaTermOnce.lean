/- TermOnce: for every list of terms, the law answers true: a term that is made again gets the number that it has, and its parts have lesser ones. No condition (the law itself claims nothing of lists of more than 2000). -/
import Derived.Test.YticljbimbbiedaaTmFrame
import Derived.Test.YticljbimbbiedaaTmOnce
namespace Go.Proofs.Yticljbimbbiedaa
open Go.ChangeShapes Go.WideShapes Go.ChangeAt Go.RowKit Go.Joins Go.Maps

set_option maxRecDepth 100000 in
set_option maxHeartbeats 8000000 in
theorem TermOnce_walk (w : World) (a : Option Addr) (cap : Nat) (l : List Tm) (h : Tms w (.slice a l.length cap) l) (hok : ∀ t ∈ l, t.ok) :
    Calls Try.prog 5 #[.slice a l.length cap] w fun e w' => e = .returned (.bool true) ∧ Below w.heap.size w w' := by
  obtain ⟨hl, hget⟩ := h.get
  obtain ⟨N, hN⟩ : ∃ N, N = l.length := ⟨_, rfl⟩
  rw [← hN] at hl ⊢
  have HL := hide (And.intro hN (And.intro hget hok))
  have hlb : (N : Int) ≤ 140737488355328 := by omega
  clear hget hok h hl hN
  by_cases hbig : 2000 < N
  · have hb2 : (2000 : Int) < (N : Int) := by omega
    clear hbig
    go_enter Try.func5, Try.ntmps5
    go_wp2_with fail
    go_ret
    exact ⟨rfl, Below.refl _ _⟩
  · have hb2 : ¬ ((2000 : Int) < (N : Int)) := by omega
    have hb3 : (N : Int) ≤ 2000 := by omega
    clear hbig
    go_enter Try.func5, Try.ntmps5
    go_wp2_with fail
    refine (new_any w).mono ?_
    rintro e w1 ⟨b, mb, rfl, h1, hft, hb1⟩
    have HS : Hid (Law w w1 b (.slice none 0 0) mb [] 0) := ⟨h1, hft, hb1, by simp⟩
    clear h1 hft hb1
    go_wp2_with fail
    go_loopw [4] (fun iv wr => ∃ (i : Nat) (L : List Tm) (sv : Value), i ≤ N ∧ iv = .int .i64 (i : Int) ∧ Hid (Law w wr b sv mb L i)) (fun iv _ => (N - intOf iv).toNat)
    case atStart => exact ⟨0, [], _, by omega, rfl, HS⟩
    case round =>
      clear HS
      obtain ⟨i, L, sv, hi, rfl, HS⟩ := hrel
      by_cases hlt : i < N
      · obtain ⟨hN, hget, hok⟩ := unhide HL
        obtain ⟨t, ht⟩ : ∃ t, l[i]? = some t := ⟨_, List.getElem?_eq_getElem (by omega)⟩
        obtain ⟨g, o, rfl, hT⟩ := hget i t ht
        have hto := hok t (List.mem_of_getElem? ht)
        have hS := unhide HS
        have K1 := make_any b sv mb L t wr hS.st hto
        obtain ⟨m1, m2, m3, m4⟩ := mk_again hS.st.good t (by have := hS.len; omega)
        have hl1 : (mkL L t).length ≤ i + 1 := by have := mkL_len L t; have := hS.len; omega
        have HT := hide hT
        have HM := hide (And.intro m1 (And.intro m2 (And.intro m3 (And.intro hl1 hto))))
        have hi1 : (i : Int) < (N : Int) := by omega
        obtain ⟨t0, t1, t2, t3⟩ := hT wr hS.bel
        have hnb := mkN_bd hS.st.good t
        have hnp : 0 ≤ ((mkN L t : Nat) : Int) := by omega
        clear hget hok ht hto hS hT m1 m2 m3 hl1 hN
        obtain ⟨k, m, x, y⟩ := t
        simp only at t0 t1 t2 t3 K1 m4
        generalize hL1 : mkL L ⟨k, m, x, y⟩ = L1 at *
        generalize hn1 : mkN L ⟨k, m, x, y⟩ = n at *
        generalize he1 : mkE L ⟨k, m, x, y⟩ = e1 at *
        clear hL1 hn1 he1
        rcases m4 with ⟨_, rfl, q1, q2, q3, q4⟩ | ⟨rfl, rfl⟩
        · have HQ := hide (And.intro q1 q2)
          clear q1 q2
          have q5 : decide (((n : Nat) : Int) ≤ x) = false := decide_eq_false (by omega)
          have q6 : decide (((n : Nat) : Int) ≤ y) = false := decide_eq_false (by omega)
          clear q3 q4
          go_wp2_with fail
          refine K1.mono ?_
          rintro e w2 ⟨rfl, sv2, s2⟩
          have S2 := (unhide HS).step s2 (unhide HM).2.2.2.1
          have KL := len_any b sv2 mb L1 w2 S2.st
          have K2 := make_any b sv2 mb L1 ⟨k, m, x, y⟩ w2 S2.st (unhide HM).2.2.2.2
          rw [(unhide HM).1, (unhide HM).2.1, (unhide HM).2.2.1] at K2
          simp only at K2
          obtain ⟨u0, u1, u2, u3⟩ := unhide HT w2 S2.bel
          simp only at u0 u1 u2 u3
          clear K1 s2 t0 t1 t2 t3
          have HS2 := hide S2
          clear S2
          have hll : (L1.length : Int) ≤ 1048577 := by have := (unhide HS2).st.len; omega
          go_wp2_with fail
          refine KL.mono ?_
          rintro e w2 ⟨rfl, rfl⟩
          go_wp2_with fail
          refine K2.mono ?_
          rintro e w3 ⟨rfl, sv3, s3⟩
          have S3 := (unhide HS2).step s3 (unhide HM).2.2.2.1
          have KL3 := len_any b sv3 mb L1 w3 S3.st
          have KG := get_any b sv3 mb L1 ((n : Nat) : Int) w3 S3.st
          clear s3 KL K2 u0 u1 u2 u3 HS2
          have HS3 := hide S3
          clear S3
          rw [(unhide HQ).1, (unhide HQ).2] at KG
          simp only at KG
          go_wp2_with fail
          refine KL3.mono ?_
          rintro e w3 ⟨rfl, rfl⟩
          go_wp2_with fail
          refine KG.mono ?_
          rintro e w4 ⟨rfl, hb4⟩
          have S4 := (unhide HS3).new hb4
          have S5 := S4.new (bw_alloc w4 (.cells #[.int .u8 k, .int .i64 m, .int .i64 x, .int .i64 y] 47))
          obtain ⟨u0, u1, u2, u3⟩ := unhide HT _ S4.bel
          simp only at u0 u1 u2 u3
          have hgw := lt_of_cell u0
          have HS5 := hide S5
          clear S4 S5 KG KL3 hb4 HS3
          go_wp2_with fail
          go_quiet (fail)
          go_wp2_with fail
          go_roundw
          case rel => exact ⟨i + 1, L1, sv3, by omega, by go_num, (unhide HS5).new (below_drewN (Below.refl _ _) _)⟩
          case measure => simp only [intOf]; omega
        · have HQ : Hid (thr L1.length ((0 : Nat) : Int) = false) := thr_false.2 (by omega)
          go_wp2_with fail
          refine K1.mono ?_
          rintro e w2 ⟨rfl, sv2, s2⟩
          have S2 := (unhide HS).step s2 (unhide HM).2.2.2.1
          have KL := len_any b sv2 mb L1 w2 S2.st
          have K2 := make_any b sv2 mb L1 ⟨k, m, x, y⟩ w2 S2.st (unhide HM).2.2.2.2
          rw [(unhide HM).1, (unhide HM).2.1, (unhide HM).2.2.1] at K2
          simp only at K2
          obtain ⟨u0, u1, u2, u3⟩ := unhide HT w2 S2.bel
          simp only at u0 u1 u2 u3
          clear K1 s2 t0 t1 t2 t3
          have HS2 := hide S2
          clear S2
          have hll : (L1.length : Int) ≤ 1048577 := by have := (unhide HS2).st.len; omega
          go_wp2_with fail
          refine KL.mono ?_
          rintro e w2 ⟨rfl, rfl⟩
          go_wp2_with fail
          refine K2.mono ?_
          rintro e w3 ⟨rfl, sv3, s3⟩
          have S3 := (unhide HS2).step s3 (unhide HM).2.2.2.1
          have KL3 := len_any b sv3 mb L1 w3 S3.st
          have KG := get_any b sv3 mb L1 ((0 : Nat) : Int) w3 S3.st
          clear s3 KL K2 u0 u1 u2 u3 HS2
          have HS3 := hide S3
          clear S3
          rw [unhide HQ] at KG
          have eg : getT L1 ((0 : Nat) : Int) = ⟨0, 0, 0, 0⟩ := by simp only [getT, unhide HQ]; rfl
          rw [eg] at KG
          clear eg
          simp only at KG
          go_wp2_with fail
          refine KL3.mono ?_
          rintro e w3 ⟨rfl, rfl⟩
          go_wp2_with fail
          refine KG.mono ?_
          rintro e w4 ⟨rfl, hb4⟩
          have S4 := (unhide HS3).new hb4
          have S5 := S4.new (bw_alloc w4 (.cells #[.int .u8 0, .int .i64 0, .int .i64 0, .int .i64 0] 47))
          obtain ⟨u0, u1, u2, u3⟩ := unhide HT _ S4.bel
          simp only at u0 u1 u2 u3
          have hgw := lt_of_cell u0
          have HS5 := hide S5
          clear S4 S5 KG KL3 hb4 HS3
          go_wp2_with fail
          go_quiet (fail)
          go_wp2_with fail
          go_roundw
          case rel => exact ⟨i + 1, L1, sv3, by omega, by go_num, (unhide HS5).new (below_drewN (Below.refl _ _) _)⟩
          case measure => simp only [intOf]; omega
      · obtain rfl : i = N := by omega
        clear hlt
        go_wp2_with fail
        refine (lives_any _).mono ?_
        rintro e w9 ⟨rfl, hb9⟩
        have hb := bw_tr (unhide HS).bel hb9
        go_wp2_with fail
        go_ret
        exact ⟨rfl, hb⟩

set_option maxRecDepth 100000 in
theorem TermOnce_lifted (os : Os) (started : os.Started) (H : Type) (enc : TypeId × Value → H) :
    ReturnsInHanded {} Try.checked os 5 .any (Rows.termOnceSpec.pre6 enc Try.prog Try.f5 Rows.termOnceRow.domain false) (Rows.termOnceSpec.post enc Try.prog Try.f5 false true false false) := by
  refine returnsInHanded_of_change_sized (C := Try.checked) own started (by kernel_rfl) Try.func5
    (ChangeSpec.witness6 (enc := enc) (C := Try.checked) false ⟨#[], #[.slice none 0 0], []⟩ 8 (by kernel_rfl) (by kernel_rfl) (by kernel_rfl) (by kernel_rfl)) ?_
  intro W base args ds gs before hval0 hW hcnd hsz0 _
  have hval : ∀ (j : Nat) t v, Try.f5.params[j]? = some t → args[j]? = some v → Value.okWide Try.prog W .any base t v := hval0
  have hsz : (DataW.weightsEach Try.prog (Try.f5.params.toList ++ Rows.termOnceSpec.plain.varTypes Try.prog) (ds ++ gs)).all (· ≤ reachBytes) = true := hsz0
  have hW' := hW
  obtain ⟨p, q, hA0, hV, rfl, hfz, hnd⟩ := hW
  have hA : DataW.TrodAll enc Try.prog W 0 (fun _ => true) true Try.f5.params.toList args.toList ds p := hA0
  rw [Try.params5] at hA hval hsz
  obtain ⟨v0, vs0, d0, ds0, p0, q0, hargs, rfl, rfl, h0, r0⟩ := trodAll_cons hA
  obtain ⟨rfl, rfl, rfl⟩ := trodAll_nil r0
  obtain rfl : args = #[v0] := by cases args; simp_all
  obtain ⟨rfl, rfl⟩ := trodVars_none hV
  have k0 := h0
  have lt0 : ∀ x ∈ p0, x.block < W.heap.size := by obtain ⟨m, hm⟩ := k0; exact DataW.trod_lt m _ _ _ hm
  obtain ⟨a0, len0, cap0, rfl⟩ := okWide_slice Try.underlying22 (hval 0 22 v0 rfl rfl)
  obtain ⟨l0, rfl, i0, o0⟩ := open_terms h0 (fun n hn => by simpa using List.all_eq_true.1 hsz n (DataW.weights_mem_each (j := 0) (t := 22) rfl rfl n hn))
  clear hA0 hval0
  refine (TermOnce_walk W a0 cap0 l0 i0 o0).mono fun e W' ⟨he, bel⟩ => ?_
  subst he
  exact ⟨_, rfl, _, _, _, [], _, [], hW', trodAll_mk1 (shut_bool Try.underlying4 _), (trodAll_cons_mk (Below.trod laidOut (by kernel_rfl) (of_decide_eq_true (by kernel_rfl)) k0 bel lt0) trodAll_mk0), rfl, bel.frame _, fun h => by cases h⟩

theorem TermOnce_over : Rows.termOnceRow.holds Try.pinned (OpenSpec.ofChange Rows.termOnceSpec) :=
  OpenClaim.holds_of_wide 5 Try.f5 rfl rfl rfl rfl rfl rfl rfl ⟨rfl, rfl, rfl, rfl, rfl⟩ rfl rfl rfl rfl rfl (by kernel_rfl) Try.func5 (by kernel_rfl)
    (of_decide_eq_true (by kernel_rfl)) (by unfold Func.isWrapper; first | (rw [if_pos (by decide +kernel)]; kernel_rfl) | (rw [if_neg (by decide +kernel)]; exact ⟨rfl, rfl⟩))
    (fun os started H enc _ => TermOnce_lifted os started H enc)

theorem TermOnce_holds : Rows.TermOnceSaid := TermOnce_over
#print axioms TermOnce_holds

end Go.Proofs.Yticljbimbbiedaa
