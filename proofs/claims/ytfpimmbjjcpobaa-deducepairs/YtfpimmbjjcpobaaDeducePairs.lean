/- DeducePairs: for every list of terms, of known numbers, and of numbers, the law answers true: a list of terms follows just if all of them do. No condition (the law itself claims nothing of more than 500 terms, 500 known ones or a list of more than 50). -/
import Derived.Test.YtfpimmbjjcpobaaTmFrameN
import Derived.Test.YtfpimmbjjcpobaaDdI
import Derived.Test.YtfpimmbjjcpobaaDdPureB
namespace Go.Proofs.Ytfpimmbjjcpobaa
open Go.ChangeShapes Go.WideShapes Go.ChangeAt Go.RowKit Go.Joins Go.Maps

set_option maxRecDepth 100000 in
set_option maxHeartbeats 20000000 in
theorem DeducePairs_walk (w : World) (a1 : Option Addr) (cap1 : Nat) (l : List Tm) (h1 : Tms w (.slice a1 l.length cap1) l) (hok1 : ∀ t ∈ l, t.ok) (a2 : Option Addr) (cap2 : Nat) (lk : List Int) (h2 : NIs w (.slice a2 lk.length cap2) lk) (a3 : Option Addr) (cap3 : Nat) (ll : List Int) (h3 : NIs w (.slice a3 ll.length cap3) ll) :
    Calls Try.prog 7 #[.slice a1 l.length cap1, .slice a2 lk.length cap2, .slice a3 ll.length cap3] w fun e w' => e = .returned (.bool true) ∧ Below w.heap.size w w' := by
  obtain ⟨hl1, _⟩ := h1.get
  have hl2 := h2.len
  have hl3 := h3.len
  have hcl := trivial
  by_cases big0 : 500 < l.length
  · have g0 : (500 : Int) < (l.length : Int) := by omega
    have t0 : (l.length : Int) ≤ 140737488355328 := by omega
    have t1 : (lk.length : Int) ≤ 140737488355328 := by omega
    have t2 : (ll.length : Int) ≤ 140737488355328 := by omega
    generalize l.length = N0 at *
    generalize lk.length = N1 at *
    generalize ll.length = N2 at *
    clear big0  hcl
    go_enter Try.func7, Try.ntmps7
    go_wp2_with fail
    go_ret
    exact ⟨rfl, Below.refl _ _⟩
  by_cases big1 : 500 < lk.length
  · have g1 : (500 : Int) < (lk.length : Int) := by omega
    have s0 : ¬ ((500 : Int) < (l.length : Int)) := by omega
    have t0 : (l.length : Int) ≤ 140737488355328 := by omega
    have t1 : (lk.length : Int) ≤ 140737488355328 := by omega
    have t2 : (ll.length : Int) ≤ 140737488355328 := by omega
    generalize l.length = N0 at *
    generalize lk.length = N1 at *
    generalize ll.length = N2 at *
    clear big1 big0 hcl
    go_enter Try.func7, Try.ntmps7
    go_wp2_with fail
    go_ret
    exact ⟨rfl, Below.refl _ _⟩
  by_cases big2 : 50 < ll.length
  · have g2 : (50 : Int) < (ll.length : Int) := by omega
    have s0 : ¬ ((500 : Int) < (l.length : Int)) := by omega
    have t0 : (l.length : Int) ≤ 140737488355328 := by omega
    have s1 : ¬ ((500 : Int) < (lk.length : Int)) := by omega
    have t1 : (lk.length : Int) ≤ 140737488355328 := by omega
    have t2 : (ll.length : Int) ≤ 140737488355328 := by omega
    generalize l.length = N0 at *
    generalize lk.length = N1 at *
    generalize ll.length = N2 at *
    clear big2 big0 big1 hcl
    go_enter Try.func7, Try.ntmps7
    go_wp2_with fail
    go_ret
    exact ⟨rfl, Below.refl _ _⟩
  have s0 : ¬ ((500 : Int) < (l.length : Int)) := by omega
  have s1 : ¬ ((500 : Int) < (lk.length : Int)) := by omega
  have s2 : ¬ ((50 : Int) < (ll.length : Int)) := by omega
  have KB := build_any w a1 cap1 l h1 hok1 (by omega)
  have hfl := fillL_len l []
  simp only [List.length_nil, Nat.zero_add] at hfl
  have HI := hide (And.intro h2 (And.intro h3 (And.intro (Nat.le_trans hfl (Nat.le_of_not_lt big0)) (And.intro (fill_good l [] good_nil) (And.intro big1 big2)))))
  clear h1 hok1 h2 h3 hl1 hl2 hl3 hcl big0 big1 big2 hfl
  obtain ⟨N1, hN1⟩ : ∃ N1, N1 = l.length := ⟨_, rfl⟩
  obtain ⟨N2, hN2⟩ : ∃ N2, N2 = lk.length := ⟨_, rfl⟩
  obtain ⟨N3, hN3⟩ : ∃ N3, N3 = ll.length := ⟨_, rfl⟩
  rw [← hN1] at s0 KB ⊢
  rw [← hN2] at s1 ⊢
  rw [← hN3] at s2 ⊢
  have HN := hide (And.intro hN2 hN3)
  clear hN1 hN2 hN3
  generalize fillL [] l = L at *
  go_enter Try.func7, Try.ntmps7
  go_wp2_with fail
  refine KB.mono ?_
  rintro e w1 ⟨b, sv, mb, rb, rv, rfl, two⟩
  have E1 := (Env.ofTwo two)
  clear KB two s0
  have KN := env_new E1 a2 cap2 lk ((unhide HI).1.bw E1.bel) (by have := (unhide HI).2.2.2.2.1; omega)
  rw [← (unhide HN).1] at KN
  clear E1
  go_wp2_with fail
  refine KN.mono ?_
  rintro e w2 ⟨p, rfl, hp⟩
  clear KN
  rcases hp with ⟨e1, rfl, E2⟩ | ⟨e1, kb, Z, rfl, E2⟩
  · rw [e1]
    have KL := env_lista E2 (.slice a3 ll.length cap3) ll (unhide HI).2.1
    rw [← (unhide HN).2] at KL
    clear e1 E2
    go_wp2_with fail
    refine KL.mono ?_
    rintro e w3 ⟨rfl, sv3, E3⟩
    have hb := E3.bel
    clear KL E3
    generalize (ls L ll).2.1 = xn at *
    generalize (ls L ll).2.2 = xe at *
    go_wp2_with fail
    refine (dlives_any _).mono ?_
    rintro e w9 ⟨rfl, hb9⟩
    have hbb := bw_tr hb hb9
    go_wp2_with fail
    go_ret
    exact ⟨rfl, hbb⟩
  · rw [e1]
    have KL := env_lista E2.swap (.slice a3 ll.length cap3) ll (unhide HI).2.1
    rw [← (unhide HN).2] at KL
    clear e1 E2
    go_wp2_with fail
    refine KL.mono ?_
    rintro e w3 ⟨rfl, sv3, E3⟩
    clear KL
    obtain ⟨xL, xn, xe, hx⟩ : ∃ xL xn xe, ls L ll = (xL, xn, xe) := ⟨_, _, _, rfl⟩
    rw [hx] at E3 ⊢
    simp only at E3 ⊢
    by_cases hbad : xe ≠ 0 ∨ xn = 0
    · have hb := E3.bel
      have z1 : (xe ≠ 0) ∨ (xe = 0 ∧ xn = 0) := by omega
      clear E3 hbad
      rcases z1 with z1 | ⟨rfl, rfl⟩
      · have z2 : (xe != 0) = true := by simp [z1]
        have z3 : decide (xe = 0) = false := by simp [z1]
        have z4 : (xe == 0) = false := by simp [z1]
        clear hx
        go_wp2_with fail
        refine (dlives_any _).mono ?_
        rintro e w9 ⟨rfl, hb9⟩
        have hbb := bw_tr hb hb9
        go_wp2_with fail
        go_ret
        exact ⟨rfl, hbb⟩
      · clear hx
        go_wp2_with fail
        refine (dlives_any _).mono ?_
        rintro e w9 ⟨rfl, hb9⟩
        have hbb := bw_tr hb hb9
        go_wp2_with fail
        go_ret
        exact ⟨rfl, hbb⟩
    · obtain ⟨rfl, hn0⟩ : xe = 0 ∧ xn ≠ 0 := by omega
      obtain ⟨hext, hG', hin, hfol⟩ := ls_fol (unhide HI).2.2.2.1 (by have := unhide HI; omega) hx hn0
      have E4 := E3.grownK (unhide HI).2.2.2.1 hext
      have HF := hide hfol
      have hn1 : (xn == 0) = false := by simp [hn0]
      have hn2 : decide (xn = 0) = false := by simp [hn0]
      have HE : Hid (∃ Z, Env w w3 (resK kb b xL (fun m => (m : Int) ∈ lk) Z :: resS b sv3 mb xL :: [resR rb rv L])) := ⟨_, E4⟩
      clear E3 E4 hbad hx hext hG' hin hfol hn0
      obtain ⟨K, hK⟩ : ∃ K : Nat → Prop, K = (fun (m : Nat) => (m : Int) ∈ lk) := ⟨_, rfl⟩
      rw [← hK] at HE
      clear hK
      go_wp2_with fail
      go_loopw [14, 15] (fun av iv wr => ∃ i : Nat, i ≤ N3 ∧ iv = .int .i64 (i : Int) ∧ av = .bool ((ll.take i).all (hasB xL K)) ∧ Hid (∃ Z, Env w wr (resK kb b xL K Z :: resS b sv3 mb xL :: [resR rb rv L]))) (fun _ iv _ => (N3 - intOf iv).toNat)
      case atStart => exact ⟨0, by omega, rfl, by simp, HE⟩
      case round =>
        clear HE
        obtain ⟨i, hi, rfl, hav, HR⟩ := hrel
        by_cases hlt : i < N3
        · obtain ⟨z, hz⟩ : ∃ z, ll[i]? = some z := ⟨_, List.getElem?_eq_getElem (by have := unhide HN; omega)⟩
          obtain ⟨g, o, hg, hc⟩ := (unhide HI).2.1.get hz
          subst hg
          obtain ⟨Z4, E4⟩ := unhide HR
          have cz := hc wr E4.bel
          have KH := env_has E4 z
          have hi1 : (i : Int) < (N3 : Int) := by omega
          have hnx : (ll.take (i + 1)).all (hasB xL K) = ((ll.take i).all (hasB xL K) && hasB xL K z) := by rw [List.take_add_one, hz]; simp
          have HX := hide hnx
          clear hz hc E4 hnx
          generalize (ll.take i).all (hasB xL K) = al at *
          subst hav
          cases al
          · go_wp2_with fail
            go_roundw
            case rel => exact ⟨i + 1, by omega, by go_num, by rw [unhide HX]; simp, HR⟩
            case measure => simp only [intOf]; omega
          · go_wp2_with fail
            refine KH.mono ?_
            rintro e w5 ⟨rfl, Z5, E5⟩
            have HE5 := hide E5
            clear E5 KH cz
            go_wp2_with fail
            go_roundw
            case rel => exact ⟨i + 1, by omega, by go_num, by rw [unhide HX]; simp, Z5, unhide HE5⟩
            case measure => simp only [intOf]; omega
        · obtain rfl : i = N3 := by omega
          obtain ⟨Z4, E4⟩ := unhide HR
          have hal : (ll.take i).all (hasB xL K) = hasB xL K xn := by
            rw [List.take_of_length_le (by have := unhide HN; omega)]; exact (unhide HF K).symm
          rw [hal] at hav
          subst hav
          have KH := env_has E4 xn
          clear E4 hal HR HF
          generalize hasB xL K xn = rb' at *
          go_wp2_with fail
          refine KH.mono ?_
          rintro e w5 ⟨rfl, Z5, E5⟩
          have hb := E5.bel
          clear E5 KH
          have hbe : (rb' == rb') = true := by simp
          go_wp2_with fail
          refine (dlives_any _).mono ?_
          rintro e w9 ⟨rfl, hb9⟩
          have hbb := bw_tr hb hb9
          go_wp2_with fail
          go_ret
          exact ⟨rfl, hbb⟩

set_option maxRecDepth 100000 in
theorem DeducePairs_lifted (os : Os) (started : os.Started) (H : Type) (enc : TypeId × Value → H) :
    ReturnsInHanded {} Try.checked os 7 .any (Rows.deducePairsSpec.pre6 enc Try.prog Try.f7 Rows.deducePairsRow.domain false) (Rows.deducePairsSpec.post enc Try.prog Try.f7 false true false false) := by
  refine returnsInHanded_of_change_sized (C := Try.checked) own started (by kernel_rfl) Try.func7
    (ChangeSpec.witness6 (enc := enc) (C := Try.checked) false ⟨#[], #[.slice none 0 0, .slice none 0 0, .slice none 0 0], []⟩ 8 (by kernel_rfl) (by kernel_rfl) (by kernel_rfl) (by kernel_rfl)) ?_
  intro W base args ds gs before hval0 hW hcnd hsz0 _
  have hval : ∀ (j : Nat) t v, Try.f7.params[j]? = some t → args[j]? = some v → Value.okWide Try.prog W .any base t v := hval0
  have hsz : (DataW.weightsEach Try.prog (Try.f7.params.toList ++ Rows.deducePairsSpec.plain.varTypes Try.prog) (ds ++ gs)).all (· ≤ reachBytes) = true := hsz0
  have hW' := hW
  obtain ⟨p, q, hA0, hV, rfl, hfz, hnd⟩ := hW
  have hA : DataW.TrodAll enc Try.prog W 0 (fun _ => true) true Try.f7.params.toList args.toList ds p := hA0
  rw [Try.params7] at hA hval hsz
  obtain ⟨v0, vs0, d0, ds0, p0, q0, hargs, rfl, rfl, h0, r0⟩ := trodAll_cons hA
  obtain ⟨v1, vs1, d1, ds1, p1, q1, rfl, rfl, rfl, h1, r1⟩ := trodAll_cons r0
  obtain ⟨v2, vs2, d2, ds2, p2, q2, rfl, rfl, rfl, h2, r2⟩ := trodAll_cons r1
  obtain ⟨rfl, rfl, rfl⟩ := trodAll_nil r2
  obtain rfl : args = #[v0, v1, v2] := by cases args; simp_all
  obtain ⟨rfl, rfl⟩ := trodVars_none hV
  have k0 := h0
  have lt0 : ∀ x ∈ p0, x.block < W.heap.size := by obtain ⟨m, hm⟩ := k0; exact DataW.trod_lt m _ _ _ hm
  obtain ⟨a0, len0, cap0, rfl⟩ := okWide_slice Try.underlying22 (hval 0 22 v0 rfl rfl)
  obtain ⟨l0, rfl, i0, o0⟩ := open_terms h0 (fun n hn => by simpa using List.all_eq_true.1 hsz n (DataW.weights_mem_each (j := 0) (t := 22) rfl rfl n hn))
  have k1 := h1
  have lt1 : ∀ x ∈ p1, x.block < W.heap.size := by obtain ⟨m, hm⟩ := k1; exact DataW.trod_lt m _ _ _ hm
  obtain ⟨a1, len1, cap1, rfl⟩ := okWide_slice Try.underlying23 (hval 1 23 v1 rfl rfl)
  obtain ⟨l1, rfl, i1⟩ := open_nums h1 (fun n hn => by simpa using List.all_eq_true.1 hsz n (DataW.weights_mem_each (j := 1) (t := 23) rfl rfl n hn))
  have k2 := h2
  have lt2 : ∀ x ∈ p2, x.block < W.heap.size := by obtain ⟨m, hm⟩ := k2; exact DataW.trod_lt m _ _ _ hm
  obtain ⟨a2, len2, cap2, rfl⟩ := okWide_slice Try.underlying23 (hval 2 23 v2 rfl rfl)
  obtain ⟨l2, rfl, i2⟩ := open_nums h2 (fun n hn => by simpa using List.all_eq_true.1 hsz n (DataW.weights_mem_each (j := 2) (t := 23) rfl rfl n hn))
  clear hA0 hval0
  refine (DeducePairs_walk W a0 cap0 l0 i0 o0 a1 cap1 l1 i1 a2 cap2 l2 i2).mono fun e W' ⟨he, bel⟩ => ?_
  subst he
  exact ⟨_, rfl, _, _, _, [], _, [], hW', trodAll_mk1 (shut_bool Try.underlying4 _), (trodAll_cons_mk (Below.trod laidOut (by kernel_rfl) (of_decide_eq_true (by kernel_rfl)) k0 bel lt0) (trodAll_cons_mk (Below.trod laidOut (by kernel_rfl) (of_decide_eq_true (by kernel_rfl)) k1 bel lt1) (trodAll_cons_mk (Below.trod laidOut (by kernel_rfl) (of_decide_eq_true (by kernel_rfl)) k2 bel lt2) trodAll_mk0))), rfl, bel.frame _, fun h => by cases h⟩

theorem DeducePairs_over : Rows.deducePairsRow.holds Try.pinned (OpenSpec.ofChange Rows.deducePairsSpec) :=
  OpenClaim.holds_of_wide 7 Try.f7 rfl rfl rfl rfl rfl rfl rfl ⟨rfl, rfl, rfl, rfl, rfl⟩ rfl rfl rfl rfl rfl (by kernel_rfl) Try.func7 (by kernel_rfl)
    (of_decide_eq_true (by kernel_rfl)) (by unfold Func.isWrapper; first | (rw [if_pos (by decide +kernel)]; kernel_rfl) | (rw [if_neg (by decide +kernel)]; exact ⟨rfl, rfl⟩))
    (fun os started H enc _ => DeducePairs_lifted os started H enc)

theorem DeducePairs_holds : Rows.DeducePairsSaid := DeducePairs_over
#print axioms DeducePairs_holds

end Go.Proofs.Ytfpimmbjjcpobaa
