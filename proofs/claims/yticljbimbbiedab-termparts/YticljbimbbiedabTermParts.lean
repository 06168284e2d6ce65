/- TermParts: for every list of terms and every number, the law answers true: what a term is made of is told within the term, part by part, in the same order. No condition (the law itself claims nothing of lists of more than 500). -/
import Derived.Test.YticljbimbbiedabTmFrame
import Derived.Test.YticljbimbbiedabTmOnce
namespace Go.Proofs.Yticljbimbbiedab
open Go.ChangeShapes Go.WideShapes Go.ChangeAt Go.RowKit Go.Joins Go.Maps

theorem dag_nat {L : List Tm} {k : Nat} (h : k ≤ L.length) : dag L (k : Int) = outs L (ord L k) := by
  unfold dag
  split
  · rfl
  · rename_i c
    have : k = 0 := by
      have := thr_false.1 (by cases h : thr L.length (k : Int) <;> simp_all)
      omega
    subst this
    rfl
theorem slice_terms (w : World) (g n cap i : Nat) (hi : i ≤ n) (hc : n ≤ cap) : (Instr.slice 22 (.slice (some ⟨g, 0, none⟩) n cap) none (some (.int .i64 (i : Int))) none).run Try.prog w = .ok (.slice (some ⟨g, 0, none⟩) i cap) w := by
  have ht : Try.prog.underlying 22 = some (.slice (Try.prog.elem 22)) := by kernel_rfl
  have he : Try.prog.elem 22 = 30 := by kernel_rfl
  have hs : (Go.sizeOf 30).run Try.prog w = .ok 4 w := by kernel_rfl
  rw [run_slice_h (P := Try.prog) w 22 (some ⟨g, 0, none⟩) n cap ht .i64 i (by omega) (by omega), he, hs]
  simp [Result.andThen, sliced, Addr.add]
theorem TmRow.take {B : Nat} {w : World} {g cap n : Nat} {l : List Tm} (h : TmRow B w (.slice (some ⟨g, 0, none⟩) n cap) l) {i : Nat} (hi : i ≤ l.length) (hl : l.length ≤ 140737488355328) : Tms w (.slice (some ⟨g, 0, none⟩) i cap) (l.take i) := by
  refine ⟨_, cap, by rw [List.length_take, Nat.min_eq_left hi], by rw [List.length_take]; omega, Or.inr ⟨g, 0, rfl, fun j t hj => ?_⟩⟩
  rw [List.getElem?_take] at hj
  split at hj
  · rw [Nat.zero_add]; exact h.at rfl hj
  · cases hj
theorem TmRow.slice {B : Nat} {w : World} {v : Value} {l : List Tm} (h : TmRow B w v l) : ∃ a c, v = .slice a l.length c := by
  rcases h.form with ⟨rfl, rfl⟩ | ⟨g, cap, hv, _⟩
  · exact ⟨_, _, rfl⟩
  · exact ⟨_, _, hv⟩

set_option maxRecDepth 100000 in
set_option maxHeartbeats 8000000 in
theorem TermParts_walk (w : World) (a : Option Addr) (cap : Nat) (l : List Tm) (h : Tms w (.slice a l.length cap) l) (hok : ∀ t ∈ l, t.ok) (n : Int) (_n1 : -9223372036854775808 ≤ n) (_n2 : n ≤ 9223372036854775807) :
    Calls Try.prog 3 #[.slice a l.length cap, .int .i64 n] w fun e w' => e = .returned (.bool true) ∧ Below w.heap.size w w' := by
  obtain ⟨hl, hget⟩ := h.get
  obtain ⟨N, hN⟩ : ∃ N, N = l.length := ⟨_, rfl⟩
  rw [← hN] at hl ⊢
  have HL := hide (And.intro hN (And.intro hget hok))
  have hlb : (N : Int) ≤ 140737488355328 := by omega
  clear hget hok h hl hN _n1 _n2
  by_cases hbig : 500 < N
  · have hb2 : (500 : Int) < (N : Int) := by omega
    clear hbig
    go_enter Try.func3, Try.ntmps3
    go_wp2_with fail
    go_ret
    exact ⟨rfl, Below.refl _ _⟩
  · have hb2 : ¬ ((500 : Int) < (N : Int)) := by omega
    have hb3 : (N : Int) ≤ 500 := by omega
    clear hbig
    go_enter Try.func3, Try.ntmps3
    go_wp2_with fail
    refine (new_any w).mono ?_
    rintro e w1 ⟨b, mb, rfl, h1, hft, hb1⟩
    have HS : Hid (Law w w1 b (.slice none 0 0) mb [] 0) := ⟨h1, hft, hb1, by simp⟩
    clear h1 hft hb1
    go_wp2_with fail
    go_loopw [6] (fun iv wr => ∃ (i : Nat) (L : List Tm) (sv : Value), i ≤ N ∧ iv = .int .i64 (i : Int) ∧ Hid (Law w wr b sv mb L i)) (fun iv _ => (N - intOf iv).toNat)
    case atStart => exact ⟨0, [], _, by omega, rfl, HS⟩
    case round =>
      clear HS
      obtain ⟨i, L, sv, hi, rfl, HS⟩ := hrel
      by_cases hlt : i < N
      · obtain ⟨hN, hget, hok⟩ := unhide HL
        obtain ⟨t, ht⟩ : ∃ t, l[i]? = some t := ⟨_, List.getElem?_eq_getElem (by omega)⟩
        obtain ⟨g, o, rfl, hT⟩ := hget i t ht
        have hto := hok t (List.mem_of_getElem? ht)
        have hS := unhide HS
        have K1 := make_any b sv mb L t wr hS.st hto
        have hl1 : (mkL L t).length ≤ i + 1 := by have := mkL_len L t; have := hS.len; omega
        have HM := hide hl1
        have hi1 : (i : Int) < (N : Int) := by omega
        obtain ⟨t0, t1, t2, t3⟩ := hT wr hS.bel
        clear hget hok ht hto hS hT hl1 hN
        go_wp2_with fail
        refine K1.mono ?_
        rintro e w2 ⟨rfl, sv2, s2⟩
        have HS2 := hide ((unhide HS).step s2 (unhide HM))
        clear K1 s2 t0 t1 t2 t3 HM
        go_wp2_with fail
        go_roundw
        case rel => exact ⟨i + 1, _, sv2, by omega, by go_num, HS2⟩
        case measure => simp only [intOf]; omega
      · obtain rfl : i = N := by omega
        clear hlt HL
        have KG := get_any b sv mb L n wr (unhide HS).st
        have hLl := (unhide HS).len
        have hLb : (L.length : Int) ≤ 500 := by omega
        cases hth : thr L.length n
        · have eg : getT L n = ⟨0, 0, 0, 0⟩ := by simp [getT, hth]
          have ed : dag L n = [] := by simp [dag, hth]
          rw [hth, eg] at KG
          simp only at KG
          have HE := hide ed
          clear eg ed hth hLl
          go_wp2_with fail
          refine KG.mono ?_
          rintro e w2 ⟨rfl, hb2'⟩
          have S2 := ((unhide HS).new hb2').new (bw_alloc w2 (.cells #[.int .u8 0, .int .i64 0, .int .i64 0, .int .i64 0] 30))
          have KD := dag_any b sv mb L n _ S2.st
          rw [unhide HE] at KD
          have HS2 := hide S2.bel
          clear S2 KG hb2'
          go_wp2_with fail
          refine KD.mono ?_
          rintro e w3 ⟨v3, rfl, r3, hb3'⟩
          obtain ⟨va, vc, rfl⟩ := r3.slice
          have hb4 := bw_tr (unhide HS2) hb3'
          clear r3 hb3' KD
          go_wp2_with fail
          refine (lives_any _).mono ?_
          rintro e w9 ⟨rfl, hb9⟩
          have hb := bw_tr hb4 hb9
          go_wp2_with fail
          go_ret
          exact ⟨rfl, hb⟩
        · have hG := (unhide HS).st.good
          obtain ⟨m, rfl⟩ : ∃ m : Nat, n = m := ⟨n.toNat, by have := thr_iff.1 hth; omega⟩
          have hmr := thr_iff.1 hth
          have hm1 : 1 ≤ m := by omega
          have hm2 : m ≤ L.length := by omega
          obtain ⟨p1, p2⟩ := hG.parts hm1 hm2
          obtain ⟨ta, tb⟩ := hG.tmAt_parts hm1 hm2
          have eg : getT L (m : Int) = tmAt L m := by simp [getT, hth]
          obtain ⟨d1, d2, d3⟩ := dag_parts hG hm1 hm2
          have eD := dag_nat (L := L) (k := m) hm2
          have eA := dag_nat (L := L) (k := pA L m) (by omega)
          have eB := dag_nat (L := L) (k := pB L m) (by omega)
          rw [← eD, ← eA] at d1 d2 d3
          rw [← eB] at d3
          rw [hth, eg] at KG
          rw [ta, tb] at KG
          have hDl : (dag L (m : Int)).length ≤ 500 := by rw [eD, outs_len]; have := (ord_told hG hm2).len; omega
          have HD := hide (And.intro d1 (And.intro d2 (And.intro d3 hDl)))
          clear d1 d2 d3 hDl eD eA eB eg ta tb p1 p2 hm1 hm2 hmr hth hG hLl
          generalize (tmAt L m).kd = kd at *
          generalize (tmAt L m).n = nn at *
          generalize pA L m = A at *
          generalize pB L m = B at *
          go_wp2_with fail
          refine KG.mono ?_
          rintro e w2 ⟨rfl, hb2'⟩
          have S2 := ((unhide HS).new hb2').new (bw_alloc w2 (.cells #[.int .u8 kd, .int .i64 nn, .int .i64 (A : Int), .int .i64 (B : Int)] 30))
          have KD := dag_any b sv mb L m _ S2.st
          have hbx : TAt (w2.alloc (.cells #[.int .u8 kd, .int .i64 nn, .int .i64 (A : Int), .int .i64 (B : Int)] 30)) w2.heap.size 0 ⟨kd, nn, A, B⟩ := by
            unfold TAt World.cell?; simp only [heap_alloc_new]; exact ⟨rfl, rfl, rfl, rfl⟩
          have HS2 := hide (And.intro S2 hbx)
          clear S2 KG hb2' hbx
          go_wp2_with fail
          refine KD.mono ?_
          rintro e w3 ⟨v3, rfl, r3, hb3'⟩
          have S3 := (unhide HS2).1.new hb3'
          have x3 := (unhide HS2).2.keep (hb3'.block _ (by simp))
          obtain ⟨x30, x31, x32, x33⟩ := x3
          simp only [Nat.zero_add] at x31 x32 x33
          have KA := dag_any b sv mb L A _ S3.st
          have HS3 := hide (And.intro S3 r3)
          obtain ⟨g, cp, rfl, hcp⟩ : ∃ g cp, v3 = .slice (some ⟨g, 0, none⟩) (dag L (m : Int)).length cp ∧ (dag L (m : Int)).length ≤ cp := by
            rcases r3.form with ⟨_, c⟩ | ⟨g, cap, hv, _, _, hc, _⟩
            · exfalso; have := (unhide HD).2.1; rw [c] at this; simp at this
            · exact ⟨g, cap, hv, hc⟩
          have x40 := x30
          have hz2 : w2.heap.size < w3.heap.size := lt_of_cell x40
          clear S3 r3 hb3' KD HS2 x40
          go_wp2_with fail
          refine KA.mono ?_
          rintro e w4 ⟨v4, rfl, r4, hb4⟩
          obtain ⟨aa, ac, rfl⟩ := r4.slice
          obtain ⟨hd1, hd2, hd3, hdl⟩ := unhide HD
          have S4 := (unhide HS3).1.new hb4
          have rD := (unhide HS3).2.bw hb4
          have KS := same_any _ _ _ _ w4 (rD.take (Nat.le_of_lt hd2) (by omega)) (r4.tms (by omega))
          rw [decide_eq_true hd1] at KS
          have hsl : ∀ W, (Instr.slice 22 (.slice (some ⟨g, 0, none⟩) (dag L (m : Int)).length cp) none (some (.int .i64 ((dag L (A : Int)).length : Int))) none).run Try.prog W = .ok (.slice (some ⟨g, 0, none⟩) (dag L (A : Int)).length cp) W := fun W => slice_terms W g _ cp _ (Nat.le_of_lt hd2) hcp
          have HS4 := hide S4
          have x43 : w4.cell? ⟨w2.heap.size, 3, none⟩ = some (.int .i64 (B : Int)) := by rw [World.cell?_of_block (w := w3) (hb4.block _ hz2)]; exact x33
          have hz4 : w2.heap.size < w4.heap.size := lt_of_cell x43
          have bl1 : ((dag L (A : Int)).length : Int) < ((dag L (m : Int)).length : Int) := by omega
          have bl2 : ((dag L (m : Int)).length : Int) ≤ 500 := by omega
          have bl3 : ((dag L (m : Int)).length : Int) ≤ ((dag L (A : Int)).length : Int) + ((dag L (B : Int)).length : Int) + 1 := by omega
          have HDD := hide hd3
          clear hd1 hd2 hd3 hdl S4 rD r4 hb4 KA HS3 HD x30 x31 x32 x33 hcp
          have bl4 : ((dag L (B : Int)).length : Int) ≤ 1048577 := by
            have hG := (unhide HS4).st.good
            have hl := hG.len
            unfold dag
            split
            · rename_i c
              rw [outs_len]
              have := (ord_told hG (n := (B : Int).toNat) (by have := thr_iff.1 c; omega)).len
              omega
            · simp
          obtain ⟨dm, hdm⟩ : ∃ dm, dm = (dag L (m : Int)).length := ⟨_, rfl⟩
          obtain ⟨da, hda⟩ : ∃ da, da = (dag L (A : Int)).length := ⟨_, rfl⟩
          obtain ⟨db, hdb⟩ : ∃ db, db = (dag L (B : Int)).length := ⟨_, rfl⟩
          rw [← hdm, ← hda] at hsl bl1 ⊢
          rw [← hda] at KS
          rw [← hdm] at bl2 bl3
          rw [← hda, ← hdb] at bl3
          rw [← hdb] at bl4
          have HB := hide hdb
          clear hdm hda hdb HDD
          go_wp2_with fail
          refine KS.mono ?_
          rintro e w5 ⟨rfl, hb5⟩
          have S5 := (unhide HS4).new hb5
          have x53 : w5.cell? ⟨w2.heap.size, 3, none⟩ = some (.int .i64 (B : Int)) := by rw [World.cell?_of_block (w := w4) (hb5.block _ hz4)]; exact x43
          have KB := dag_any b sv mb L B _ S5.st
          have HS5 := hide S5
          clear S5 hb5 KS HS4 x43
          go_wp2_with fail
          refine KB.mono ?_
          rintro e w6 ⟨v6, rfl, r6, hb6⟩
          obtain ⟨ba, bc, rfl⟩ := r6.slice
          rw [← unhide HB]
          have S6 := ((unhide HS5).new hb6).bel
          clear r6 hb6 KB HS5
          go_wp2_with fail
          refine (lives_any _).mono ?_
          rintro e w9 ⟨rfl, hb9⟩
          have hb := bw_tr S6 hb9
          go_wp2_with fail
          go_ret
          exact ⟨rfl, hb⟩

set_option maxRecDepth 100000 in
theorem TermParts_lifted (os : Os) (started : os.Started) (H : Type) (enc : TypeId × Value → H) :
    ReturnsInHanded {} Try.checked os 3 .any (Rows.termPartsSpec.pre6 enc Try.prog Try.f3 Rows.termPartsRow.domain false) (Rows.termPartsSpec.post enc Try.prog Try.f3 false true false false) := by
  refine returnsInHanded_of_change_sized (C := Try.checked) own started (by kernel_rfl) Try.func3
    (ChangeSpec.witness6 (enc := enc) (C := Try.checked) false ⟨#[], #[.slice none 0 0, .int .i64 0], []⟩ 8 (by kernel_rfl) (by kernel_rfl) (by kernel_rfl) (by kernel_rfl)) ?_
  intro W base args ds gs before hval0 hW hcnd hsz0 _
  have hval : ∀ (j : Nat) t v, Try.f3.params[j]? = some t → args[j]? = some v → Value.okWide Try.prog W .any base t v := hval0
  have hsz : (DataW.weightsEach Try.prog (Try.f3.params.toList ++ Rows.termPartsSpec.plain.varTypes Try.prog) (ds ++ gs)).all (· ≤ reachBytes) = true := hsz0
  have hW' := hW
  obtain ⟨p, q, hA0, hV, rfl, hfz, hnd⟩ := hW
  have hA : DataW.TrodAll enc Try.prog W 0 (fun _ => true) true Try.f3.params.toList args.toList ds p := hA0
  rw [Try.params3] at hA hval hsz
  obtain ⟨v0, vs0, d0, ds0, p0, q0, hargs, rfl, rfl, h0, r0⟩ := trodAll_cons hA
  obtain ⟨v1, vs1, d1, ds1, p1, q1, rfl, rfl, rfl, h1, r1⟩ := trodAll_cons r0
  obtain ⟨rfl, rfl, rfl⟩ := trodAll_nil r1
  obtain rfl : args = #[v0, v1] := by cases args; simp_all
  obtain ⟨rfl, rfl⟩ := trodVars_none hV
  have k0 := h0
  have lt0 : ∀ x ∈ p0, x.block < W.heap.size := by obtain ⟨m, hm⟩ := k0; exact DataW.trod_lt m _ _ _ hm
  obtain ⟨a0, len0, cap0, rfl⟩ := okWide_slice Try.underlying22 (hval 0 22 v0 rfl rfl)
  obtain ⟨l0, rfl, i0, o0⟩ := open_terms h0 (fun n hn => by simpa using List.all_eq_true.1 hsz n (DataW.weights_mem_each (j := 0) (t := 22) rfl rfl n hn))
  obtain ⟨a1, rfl, rfl, rfl, w1⟩ := open_int Try.underlying3 (hval 1 3 v1 rfl rfl) h1
  clear hA0 hval0
  refine (TermParts_walk W a0 cap0 l0 i0 o0 a1 (bounds64 w1).1 (bounds64 w1).2).mono fun e W' ⟨he, bel⟩ => ?_
  subst he
  exact ⟨_, rfl, _, _, _, [], _, [], hW', trodAll_mk1 (shut_bool Try.underlying4 _), (trodAll_cons_mk (Below.trod laidOut (by kernel_rfl) (of_decide_eq_true (by kernel_rfl)) k0 bel lt0) (trodAll_cons_mk (shut_int Try.underlying3 w1) trodAll_mk0)), rfl, bel.frame _, fun h => by cases h⟩

theorem TermParts_over : Rows.termPartsRow.holds Try.pinned (OpenSpec.ofChange Rows.termPartsSpec) :=
  OpenClaim.holds_of_wide 3 Try.f3 rfl rfl rfl rfl rfl rfl rfl ⟨rfl, rfl, rfl, rfl, rfl⟩ rfl rfl rfl rfl rfl (by kernel_rfl) Try.func3 (by kernel_rfl)
    (of_decide_eq_true (by kernel_rfl)) (by unfold Func.isWrapper; first | (rw [if_pos (by decide +kernel)]; kernel_rfl) | (rw [if_neg (by decide +kernel)]; exact ⟨rfl, rfl⟩))
    (fun os started H enc _ => TermParts_lifted os started H enc)

theorem TermParts_holds : Rows.TermPartsSaid := TermParts_over
#print axioms TermParts_holds

end Go.Proofs.Yticljbimbbiedab
