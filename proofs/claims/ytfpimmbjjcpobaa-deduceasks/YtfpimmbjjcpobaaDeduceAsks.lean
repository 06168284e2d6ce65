/- DeduceAsks: for every list of terms, of known numbers, and every number, the law answers true: whether the term follows is told as the document says, with its errors. No condition (the law itself claims nothing of more than 600 terms or 1000 known ones). -/
import Derived.Test.YtfpimmbjjcpobaaTmFrameN
import Derived.Test.YtfpimmbjjcpobaaDdI
import Derived.Test.YtfpimmbjjcpobaaDdPureB
import Derived.Test.YtfpimmbjjcpobaaDqE
namespace Go.Proofs.Ytfpimmbjjcpobaa
open Go.ChangeShapes Go.WideShapes Go.ChangeAt Go.RowKit Go.Joins Go.Maps

set_option maxRecDepth 100000 in
set_option maxHeartbeats 20000000 in
theorem DeduceAsks_walk (w : World) (a1 : Option Addr) (cap1 : Nat) (l : List Tm) (h1 : Tms w (.slice a1 l.length cap1) l) (hok1 : ∀ t ∈ l, t.ok) (a2 : Option Addr) (cap2 : Nat) (lk : List Int) (h2 : NIs w (.slice a2 lk.length cap2) lk) (n : Int) (_m1 : -9223372036854775808 ≤ n) (_m2 : n ≤ 9223372036854775807) :
    Calls Try.prog 4 #[.slice a1 l.length cap1, .slice a2 lk.length cap2, .int .i64 n] w fun e w' => e = .returned (.bool true) ∧ Below w.heap.size w w' := by
  obtain ⟨hl1, _⟩ := h1.get
  have hl2 := h2.len
  have hcl := trivial
  by_cases big0 : 600 < l.length
  · have g0 : (600 : Int) < (l.length : Int) := by omega
    have t0 : (l.length : Int) ≤ 140737488355328 := by omega
    have t1 : (lk.length : Int) ≤ 140737488355328 := by omega
    generalize l.length = N0 at *
    generalize lk.length = N1 at *
    clear big0  hcl
    go_enter Try.func4, Try.ntmps4
    go_wp2_with fail
    go_ret
    exact ⟨rfl, Below.refl _ _⟩
  by_cases big1 : 1000 < lk.length
  · have g1 : (1000 : Int) < (lk.length : Int) := by omega
    have s0 : ¬ ((600 : Int) < (l.length : Int)) := by omega
    have t0 : (l.length : Int) ≤ 140737488355328 := by omega
    have t1 : (lk.length : Int) ≤ 140737488355328 := by omega
    generalize l.length = N0 at *
    generalize lk.length = N1 at *
    clear big1 big0 hcl
    go_enter Try.func4, Try.ntmps4
    go_wp2_with fail
    go_ret
    exact ⟨rfl, Below.refl _ _⟩
  have s0 : ¬ ((600 : Int) < (l.length : Int)) := by omega
  have s1 : ¬ ((1000 : Int) < (lk.length : Int)) := by omega
  have KB := build_any w a1 cap1 l h1 hok1 (by omega)
  have hfl := fillL_len l []
  simp only [List.length_nil, Nat.zero_add] at hfl
  have HI := hide (And.intro h2 (And.intro (Nat.le_trans hfl (Nat.le_of_not_lt big0)) (And.intro (fill_good l [] good_nil) big1)))
  have hLn : ((fillL [] l).length : Int) ≤ 600 := by omega
  clear h1 hok1 h2 hl1 hl2 hcl big0 big1 hfl _m1 _m2
  obtain ⟨N1, hN1⟩ : ∃ N1, N1 = l.length := ⟨_, rfl⟩
  obtain ⟨N2, hN2⟩ : ∃ N2, N2 = lk.length := ⟨_, rfl⟩
  rw [← hN1] at s0 KB ⊢
  rw [← hN2] at s1 ⊢
  have HN := hide hN2
  clear hN1 hN2
  generalize fillL [] l = L at *
  obtain ⟨M, hM⟩ : ∃ M, M = L.length := ⟨_, rfl⟩
  rw [← hM] at hLn
  have HM := hide hM
  clear hM
  go_enter Try.func4, Try.ntmps4
  go_wp2_with fail
  refine KB.mono ?_
  rintro e w1 ⟨b, sv, mb, rb, rv, rfl, two⟩
  have E1 := (Env.ofTwo two)
  clear KB two s0
  have KF := env_follows E1 a2 cap2 lk n ((unhide HI).1.bw E1.bel) (by have := (unhide HI).2.2.2; omega)
  rw [← (unhide HN)] at KF
  clear E1
  go_wp2_with fail
  refine KF.mono ?_
  rintro e w2 ⟨r, q, rfl, E2, hp⟩
  clear KF
  have KN := env_rnew E2.swap a2 cap2 lk ((unhide HI).1.bw E2.bel) (by have := (unhide HI).2.2.2; omega)
  rw [← (unhide HN)] at KN
  have HP := hide hp
  clear E2 hp
  go_wp2_with fail
  refine KN.mono ?_
  rintro e w3 ⟨p, rfl, hq⟩
  clear KN
  rcases hq with ⟨e1, rfl, E3⟩ | ⟨e1, qb, Z, rfl, E3⟩
  · obtain ⟨rfl, rfl⟩ : r = false ∧ q = 1 := by
      rcases unhide HP with ⟨_, c⟩ | ⟨c, _⟩ | ⟨c, _⟩
      · exact c
      · rw [e1] at c; cases c
      · rw [e1] at c; cases c
    rw [e1]
    have hb := E3.bel
    clear HP e1 E3
    go_wp2_with fail
    refine (dlives_any _).mono ?_
    rintro e w9 ⟨rfl, hb9⟩
    have hbb := bw_tr hb hb9
    go_wp2_with fail
    go_ret
    exact ⟨rfl, hbb⟩
  · rw [e1]
    have E4 : Env w w3 (resQ qb rb L (fun m => (m : Int) ∈ lk) Z :: resR rb rv L :: [resS b sv mb L]) := E3
    have KL := len_any b sv mb L w3 (E4.hold (resS b sv mb L) (by simp))
    rw [← unhide HM] at KL
    by_cases hth : thr L.length n = true
    · obtain ⟨t1, t2⟩ := thr_iff.1 hth
      rw [← unhide HM] at t2
      obtain ⟨hr, rfl⟩ : r = hasB L (fun m => (m : Int) ∈ lk) n ∧ q = 0 := by
        rcases unhide HP with ⟨c, _⟩ | ⟨_, c, _⟩ | ⟨_, _, c⟩
        · rw [e1] at c; cases c
        · rw [hth] at c; cases c
        · exact c
      have KH := env_rhas E4 n
      rw [← hr] at KH
      have b1 : ¬ (n < 1) := by omega
      have b2 : ¬ ((M : Int) < n) := by omega
      have b3 : decide (n < (1 : Int)) = false := by simp only [decide_eq_false_iff_not]; exact b1
      have b4 : decide ((M : Int) < n) = false := by simp only [decide_eq_false_iff_not]; exact b2
      clear E3 E4 hr HP hth e1
      go_wp2_with fail
      refine KL.mono ?_
      rintro e w3 ⟨rfl, rfl⟩
      clear KL
      go_wp2_with fail
      refine KH.mono ?_
      rintro e w5 ⟨rfl, Z5, E5⟩
      have hb := E5.bel
      have hbe : (r == r) = true := by simp
      clear KH E5
      go_wp2_with fail
      refine (dlives_any _).mono ?_
      rintro e w9 ⟨rfl, hb9⟩
      have hbb := bw_tr hb hb9
      go_wp2_with fail
      go_ret
      exact ⟨rfl, hbb⟩
    · have hth0 : thr L.length n = false := by cases c : thr L.length n; rfl; exact absurd c hth
      obtain ⟨rfl, rfl⟩ : r = false ∧ q = 1 := by
        rcases unhide HP with ⟨c, _⟩ | ⟨_, _, c⟩ | ⟨_, c, _⟩
        · rw [e1] at c; cases c
        · exact c
        · rw [hth0] at c; cases c
      have hno := thr_false.1 hth0
      rw [← unhide HM] at hno
      have hb := E4.bel
      clear E3 E4 HP hth hth0 e1
      by_cases c1 : n < 1
      · have b3 : decide (n < (1 : Int)) = true := by simp only [decide_eq_true_eq]; exact c1
        clear hno KL
        go_wp2_with fail
        refine (dlives_any _).mono ?_
        rintro e w9 ⟨rfl, hb9⟩
        have hbb := bw_tr hb hb9
        go_wp2_with fail
        go_ret
        exact ⟨rfl, hbb⟩
      · have c2 : (M : Int) < n := by omega
        have b3 : decide (n < (1 : Int)) = false := by simp only [decide_eq_false_iff_not]; exact c1
        have b4 : decide ((M : Int) < n) = true := by simp only [decide_eq_true_eq]; exact c2
        clear hno
        go_wp2_with fail
        refine KL.mono ?_
        rintro e w3 ⟨rfl, rfl⟩
        clear KL
        go_wp2_with fail
        refine (dlives_any _).mono ?_
        rintro e w9 ⟨rfl, hb9⟩
        have hbb := bw_tr hb hb9
        go_wp2_with fail
        go_ret
        exact ⟨rfl, hbb⟩

set_option maxRecDepth 100000 in
theorem DeduceAsks_lifted (os : Os) (started : os.Started) (H : Type) (enc : TypeId × Value → H) :
    ReturnsInHanded {} Try.checked os 4 .any (Rows.deduceAsksSpec.pre6 enc Try.prog Try.f4 Rows.deduceAsksRow.domain false) (Rows.deduceAsksSpec.post enc Try.prog Try.f4 false true false false) := by
  refine returnsInHanded_of_change_sized (C := Try.checked) own started (by kernel_rfl) Try.func4
    (ChangeSpec.witness6 (enc := enc) (C := Try.checked) false ⟨#[], #[.slice none 0 0, .slice none 0 0, .int .i64 0], []⟩ 8 (by kernel_rfl) (by kernel_rfl) (by kernel_rfl) (by kernel_rfl)) ?_
  intro W base args ds gs before hval0 hW hcnd hsz0 _
  have hval : ∀ (j : Nat) t v, Try.f4.params[j]? = some t → args[j]? = some v → Value.okWide Try.prog W .any base t v := hval0
  have hsz : (DataW.weightsEach Try.prog (Try.f4.params.toList ++ Rows.deduceAsksSpec.plain.varTypes Try.prog) (ds ++ gs)).all (· ≤ reachBytes) = true := hsz0
  have hW' := hW
  obtain ⟨p, q, hA0, hV, rfl, hfz, hnd⟩ := hW
  have hA : DataW.TrodAll enc Try.prog W 0 (fun _ => true) true Try.f4.params.toList args.toList ds p := hA0
  rw [Try.params4] at hA hval hsz
  obtain ⟨v0, vs0, d0, ds0, p0, q0, hargs, rfl, rfl, h0, r0⟩ := trodAll_cons hA
  obtain ⟨v1, vs1, d1, ds1, p1, q1, rfl, rfl, rfl, h1, r1⟩ := trodAll_cons r0
  obtain ⟨v2, vs2, d2, ds2, p2, q2, rfl, rfl, rfl, h2, r2⟩ := trodAll_cons r1
  obtain ⟨rfl, rfl, rfl⟩ := trodAll_nil r2
  obtain rfl : args = #[v0, v1, v2] := by cases args; simp_all
  obtain ⟨rfl, rfl⟩ := trodVars_none hV
  have k0 := h0
  have lt0 : ∀ x ∈ p0, x.block < W.heap.size := by obtain ⟨m, hm⟩ := k0; exact DataW.trod_lt m _ _ _ hm
  obtain ⟨a0, len0, cap0, rfl⟩ := okWide_slice Try.underlying22 (hval 0 22 v0 rfl rfl)
  obtain ⟨l0, rfl, i0, o0⟩ := open_terms h0 (fun n hn => by simpa using List.all_eq_true.1 hsz n (DataW.weights_mem_each (j := 0) (t := 22) rfl rfl n hn))
  have k1 := h1
  have lt1 : ∀ x ∈ p1, x.block < W.heap.size := by obtain ⟨m, hm⟩ := k1; exact DataW.trod_lt m _ _ _ hm
  obtain ⟨a1, len1, cap1, rfl⟩ := okWide_slice Try.underlying23 (hval 1 23 v1 rfl rfl)
  obtain ⟨l1, rfl, i1⟩ := open_nums h1 (fun n hn => by simpa using List.all_eq_true.1 hsz n (DataW.weights_mem_each (j := 1) (t := 23) rfl rfl n hn))
  obtain ⟨a2, rfl, rfl, rfl, w2⟩ := open_int Try.underlying3 (hval 2 3 v2 rfl rfl) h2
  clear hA0 hval0
  refine (DeduceAsks_walk W a0 cap0 l0 i0 o0 a1 cap1 l1 i1 a2 (bounds64 w2).1 (bounds64 w2).2).mono fun e W' ⟨he, bel⟩ => ?_
  subst he
  exact ⟨_, rfl, _, _, _, [], _, [], hW', trodAll_mk1 (shut_bool Try.underlying4 _), (trodAll_cons_mk (Below.trod laidOut (by kernel_rfl) (of_decide_eq_true (by kernel_rfl)) k0 bel lt0) (trodAll_cons_mk (Below.trod laidOut (by kernel_rfl) (of_decide_eq_true (by kernel_rfl)) k1 bel lt1) (trodAll_cons_mk (shut_int Try.underlying3 w2) trodAll_mk0))), rfl, bel.frame _, fun h => by cases h⟩

theorem DeduceAsks_over : Rows.deduceAsksRow.holds Try.pinned (OpenSpec.ofChange Rows.deduceAsksSpec) :=
  OpenClaim.holds_of_wide 4 Try.f4 rfl rfl rfl rfl rfl rfl rfl ⟨rfl, rfl, rfl, rfl, rfl⟩ rfl rfl rfl rfl rfl (by kernel_rfl) Try.func4 (by kernel_rfl)
    (of_decide_eq_true (by kernel_rfl)) (by unfold Func.isWrapper; first | (rw [if_pos (by decide +kernel)]; kernel_rfl) | (rw [if_neg (by decide +kernel)]; exact ⟨rfl, rfl⟩))
    (fun os started H enc _ => DeduceAsks_lifted os started H enc)

theorem DeduceAsks_holds : Rows.DeduceAsksSaid := DeduceAsks_over
#print axioms DeduceAsks_holds

end Go.Proofs.Ytfpimmbjjcpobaa
