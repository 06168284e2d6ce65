/- TermLists: for every list of terms, every list of numbers and every list of wide numbers, the law answers true: List and Data answer as the document's, and leave the lists that they were handed, and what lies behind them. No condition (the law itself claims nothing of more than 2000 terms or 200 numbers). -/
import Derived.Test.YticljbimbbiedaaTmFrame
import Derived.Test.YticljbimbbiedaaTmFrameN
import Derived.Test.YticljbimbbiedaaTmLt
namespace Go.Proofs.Yticljbimbbiedaa
open Go.ChangeShapes Go.WideShapes Go.ChangeAt Go.RowKit Go.Joins Go.Maps

theorem fillL_good (l L : List Tm) (h : Good L) : Good (fillL L l) := by
  induction l generalizing L with
  | nil => exact h
  | cons t l ih => exact ih _ (h.made t)

set_option maxRecDepth 100000 in
set_option maxHeartbeats 20000000 in
theorem TermLists_walk (w : World) (a1 : Option Addr) (cap1 : Nat) (l : List Tm) (h1 : Tms w (.slice a1 l.length cap1) l) (hok1 : ∀ t ∈ l, t.ok) (a2 : Option Addr) (cap2 : Nat) (la : List Int) (h2 : NIs w (.slice a2 la.length cap2) la) (a3 : Option Addr) (cap3 : Nat) (lb : List Int) (h3 : NIs w (.slice a3 lb.length cap3) lb) :
    Calls Try.prog 3 #[.slice a1 l.length cap1, .slice a2 la.length cap2, .slice a3 lb.length cap3] w fun e w' => e = .returned (.bool true) ∧ Below w.heap.size w w' := by
  obtain ⟨hl1, _⟩ := h1.get
  have hl2 : la.length ≤ 140737488355328 := by obtain ⟨_, _, _, h, _⟩ := h2; exact h
  have hl3 : lb.length ≤ 140737488355328 := by obtain ⟨_, _, _, h, _⟩ := h3; exact h
  by_cases hbig1 : 2000 < l.length
  · have b1 : (2000 : Int) < (l.length : Int) := by omega
    have b2 : (l.length : Int) ≤ 140737488355328 := by omega
    generalize l.length = N at *
    generalize la.length = N2 at *
    generalize lb.length = N3 at *
    clear hbig1 h1 h2 h3 hok1 hl1 hl2 hl3
    go_enter Try.func3, Try.ntmps3
    go_wp2_with fail
    go_ret
    exact ⟨rfl, Below.refl _ _⟩
  by_cases hbig2 : 200 < la.length
  · have b1 : (200 : Int) < (la.length : Int) := by omega
    have b2 : (la.length : Int) ≤ 140737488355328 := by omega
    have b3 : ¬ ((2000 : Int) < (l.length : Int)) := by omega
    generalize l.length = N at *
    generalize la.length = N2 at *
    generalize lb.length = N3 at *
    clear hbig1 hbig2 h1 h2 h3 hok1 hl1 hl2 hl3
    go_enter Try.func3, Try.ntmps3
    go_wp2_with fail
    go_ret
    exact ⟨rfl, Below.refl _ _⟩
  by_cases hbig3 : 200 < lb.length
  · have b1 : (200 : Int) < (lb.length : Int) := by omega
    have b2 : (lb.length : Int) ≤ 140737488355328 := by omega
    have b3 : ¬ ((2000 : Int) < (l.length : Int)) := by omega
    have b4 : ¬ ((200 : Int) < (la.length : Int)) := by omega
    generalize l.length = N at *
    generalize la.length = N2 at *
    generalize lb.length = N3 at *
    clear hbig1 hbig2 hbig3 h1 h2 h3 hok1 hl1 hl2 hl3
    go_enter Try.func3, Try.ntmps3
    go_wp2_with fail
    go_ret
    exact ⟨rfl, Below.refl _ _⟩
  have KB := build_any w a1 cap1 l h1 hok1 (by omega)
  have hfl := fillL_len l []
  have hG := fillL_good l [] good_nil
  obtain ⟨L, hLe⟩ : ∃ L, L = fillL [] l := ⟨_, rfl⟩
  rw [← hLe] at KB hfl hG
  have g1 := ls_gro hG la
  obtain ⟨L1, hL1⟩ : ∃ L1, L1 = (ls L la).1 := ⟨_, rfl⟩
  obtain ⟨E1, hE1⟩ : ∃ E1, E1 = (ls L la).2.2 := ⟨_, rfl⟩
  obtain ⟨k1, hk1⟩ : ∃ k1 : Nat, (k1 : Int) = (ls L la).2.1 := ⟨(ls L la).2.1.toNat, by have := g1.lo; omega⟩
  rw [← hL1, ← hk1] at g1
  have g2 := dt_gro g1.good lb
  obtain ⟨L2, hL2⟩ : ∃ L2, L2 = (dt L1 lb).1 := ⟨_, rfl⟩
  obtain ⟨E2, hE2⟩ : ∃ E2, E2 = (dt L1 lb).2.2 := ⟨_, rfl⟩
  obtain ⟨k2, hk2⟩ : ∃ k2 : Nat, (k2 : Int) = (dt L1 lb).2.1 := ⟨(dt L1 lb).2.1.toNat, by have := g2.lo; omega⟩
  rw [← hL2, ← hk2] at g2
  have hlen : L2.length ≤ 3000 := by
    have := g1.len; have := g2.len; simp at hfl; omega
  have q12 : L1.length ≤ L2.length := by obtain ⟨x, hx⟩ := g2.pre; rw [hx]; simp
  have q1 : k1 ≤ L2.length := by have := g1.hi; omega
  have q2 : k2 ≤ L2.length := by have := g2.hi; omega
  have kb1 : (k1 : Int) ≤ 3000 := by omega
  have kb2 : (k2 : Int) ≤ 3000 := by omega
  have KT1 : ∀ W, Below w.heap.size w W → Calls Try.prog 8 #[.slice a2 la.length cap2] W fun e w' => e = .returned (.slice (some ⟨W.heap.size, 0, none⟩) la.length (la.length + 2)) ∧ Twint w' W.heap.size la ∧ Below W.heap.size W w' := fun W hb => twinint_any W _ la (h2.bw hb) (by omega)
  have KT2 : ∀ W, Below w.heap.size w W → Calls Try.prog 9 #[.slice a3 lb.length cap3] W fun e w' => e = .returned (.slice (some ⟨W.heap.size, 0, none⟩) lb.length (lb.length + 2)) ∧ Twi64 w' W.heap.size lb ∧ Below W.heap.size W w' := fun W hb => twini64_any W _ lb (h3.bw hb) (by omega)
  obtain ⟨N1, hN1⟩ : ∃ N, N = l.length := ⟨_, rfl⟩
  obtain ⟨N2, hN2⟩ : ∃ N, N = la.length := ⟨_, rfl⟩
  obtain ⟨N3, hN3⟩ : ∃ N, N = lb.length := ⟨_, rfl⟩
  have hb1 : ¬ ((2000 : Int) < (N1 : Int)) := by omega
  have hb2 : ¬ ((200 : Int) < (N2 : Int)) := by omega
  have hb3 : ¬ ((200 : Int) < (N3 : Int)) := by omega
  have hb4 : (N1 : Int) ≤ 2000 := by omega
  have hb5 : (N2 : Int) ≤ 200 := by omega
  have hb6 : (N3 : Int) ≤ 200 := by omega
  have hla : la.length ≤ 200 := by omega
  have hlb : lb.length ≤ 200 := by omega
  have HS : ∀ (w1 w2 w3 : World) sb sv mb rb rv, Two w w1 sb sv mb rb rv L L → Below w1.heap.size w1 w2 → Twint w2 w1.heap.size la → Below w2.heap.size w2 w3 → Twi64 w3 w2.heap.size lb → Lt w w3 sb sv mb rb rv L L (.slice a2 la.length cap2) (.slice a3 lb.length cap3) la lb w1.heap.size w2.heap.size N2 N3 := fun w1 w2 w3 sb sv mb rb rv T b1 t1 b2 t2 => Lt.start T b1 t1 b2 t2 h2 h3 hN2 hN3 hla hlb
  have HK1 : ∀ W sb sv mb rb rv R ga gb, Lt w W sb sv mb rb rv L R (.slice a2 la.length cap2) (.slice a3 lb.length cap3) la lb ga gb N2 N3 → Calls Try.prog 10 #[.pointer (some ⟨sb, 0, none⟩), .slice (some ⟨ga, 0, none⟩) N2 (N2 + 2)] W fun e w' => e = .returned (.tuple #[.int .i64 (k1 : Int), .int .i64 E1]) ∧ ∃ sv', Lt w w' sb sv' mb rb rv L1 R (.slice a2 la.length cap2) (.slice a3 lb.length cap3) la lb ga gb N2 N3 := fun _ _ _ _ _ _ _ _ _ h => by rw [hk1, hE1, hL1]; exact h.list
  have HK2 : ∀ W sb sv mb rb rv X ga gb, Lt w W sb sv mb rb rv X L (.slice a2 la.length cap2) (.slice a3 lb.length cap3) la lb ga gb N2 N3 → Calls Try.prog 11 #[.pointer (some ⟨rb, 0, none⟩), .slice a2 la.length cap2] W fun e w' => e = .returned (.tuple #[.int .i64 (k1 : Int), .int .i64 E1]) ∧ ∃ rv', Lt w w' sb sv mb rb rv' X L1 (.slice a2 la.length cap2) (.slice a3 lb.length cap3) la lb ga gb N2 N3 := fun _ _ _ _ _ _ _ _ _ h => by rw [hk1, hE1, hL1]; exact h.rlist
  have HK3 : ∀ W sb sv mb rb rv R ga gb, Lt w W sb sv mb rb rv L1 R (.slice a2 la.length cap2) (.slice a3 lb.length cap3) la lb ga gb N2 N3 → Calls Try.prog 12 #[.pointer (some ⟨sb, 0, none⟩), .slice (some ⟨gb, 0, none⟩) N3 (N3 + 2)] W fun e w' => e = .returned (.tuple #[.int .i64 (k2 : Int), .int .i64 E2]) ∧ ∃ sv', Lt w w' sb sv' mb rb rv L2 R (.slice a2 la.length cap2) (.slice a3 lb.length cap3) la lb ga gb N2 N3 := fun _ _ _ _ _ _ _ _ _ h => by rw [hk2, hE2, hL2]; exact h.data
  have HK4 : ∀ W sb sv mb rb rv X ga gb, Lt w W sb sv mb rb rv X L1 (.slice a2 la.length cap2) (.slice a3 lb.length cap3) la lb ga gb N2 N3 → Calls Try.prog 13 #[.pointer (some ⟨rb, 0, none⟩), .slice a3 lb.length cap3] W fun e w' => e = .returned (.tuple #[.int .i64 (k2 : Int), .int .i64 E2]) ∧ ∃ rv', Lt w w' sb sv mb rb rv' X L2 (.slice a2 la.length cap2) (.slice a3 lb.length cap3) la lb ga gb N2 N3 := fun _ _ _ _ _ _ _ _ _ h => by rw [hk2, hE2, hL2]; exact h.rdata
  rw [← hN1] at KB
  rw [← hN2] at KT1 HK1 HK2 HK3 HK4 HS
  rw [← hN3] at KT2 HK1 HK2 HK3 HK4 HS
  rw [← hN1, ← hN2, ← hN3]
  have HH := hide (And.intro hlen (And.intro q1 q2))
  have H1 := hide HK1
  have H2 := hide HK2
  have H3 := hide HK3
  have H4 := hide HK4
  have HT1 := hide KT1
  have HT2 := hide KT2
  have HS' := hide HS
  clear hl1 hl2 hl3 hbig1 hbig2 hbig3 h1 h2 h3 hok1 hfl hG hLe g1 g2 hL1 hE1 hk1 hL2 hE2 hk2 hlen q12 q1 q2 KT1 KT2 hN1 hN2 hN3 hla hlb HS HK1 HK2 HK3 HK4
  go_enter Try.func3, Try.ntmps3
  go_wp2_with fail
  refine KB.mono ?_
  rintro e w1 ⟨sb, sv, mb, rb, rv, rfl, T1⟩
  clear KB
  go_wp2_with fail
  refine (unhide HT1 w1 T1.bel).mono ?_
  rintro e w2 ⟨rfl, t1, b1⟩
  go_wp2_with fail
  refine (unhide HT2 w2 (T1.new b1).bel).mono ?_
  rintro e w3 ⟨rfl, t2, b2⟩
  have S0 := unhide HS' _ _ _ _ _ _ _ _ T1 b1 t1 b2 t2
  clear HS' HT1 HT2 T1 t1 b1 t2 b2
  generalize w1.heap.size = ga at *
  generalize w2.heap.size = gb at *
  go_wp2_with fail
  refine (unhide H1 _ _ _ _ _ _ _ _ _ S0).mono ?_
  rintro e w4 ⟨rfl, sv1, S1⟩
  clear H1 S0
  go_wp2_with fail
  refine (unhide H2 _ _ _ _ _ _ _ _ _ S1).mono ?_
  rintro e w5 ⟨rfl, rv1, S2⟩
  clear H2 S1
  go_wp2_with fail
  refine (unhide H3 _ _ _ _ _ _ _ _ _ S2).mono ?_
  rintro e w6 ⟨rfl, sv2, S3⟩
  clear H3 S2
  go_wp2_with fail
  refine (unhide H4 _ _ _ _ _ _ _ _ _ S3).mono ?_
  rintro e w7 ⟨rfl, rv2, S4⟩
  clear H4 S3
  obtain ⟨hlen, q1, q2⟩ := unhide HH
  have KA := S4.across hlen q1 q2
  clear HH hlen q1 q2 S4
  go_wp2_with fail
  refine KA.mono ?_
  rintro e w8 ⟨mp, g, np, cp, rfl, Q⟩
  clear KA
  go_wp2_with fail
  refine Q.s1.mono ?_
  rintro e w9 ⟨rfl, rfl⟩
  go_wp2_with fail
  refine Q.s2.mono ?_
  rintro e w9 ⟨rfl, rfl⟩
  go_wp2_with fail
  refine Q.f1.mono ?_
  rintro e w9 ⟨rfl, Q1⟩
  go_wp2_with fail
  refine Q1.f2.mono ?_
  rintro e w10 ⟨rfl, Q2⟩
  go_wp2_with fail
  refine Q2.f3.mono ?_
  rintro e w11 ⟨rfl, hb⟩
  clear Q Q1 Q2
  go_wp2_with fail
  go_ret
  exact ⟨rfl, hb⟩

set_option maxRecDepth 100000 in
theorem TermLists_lifted (os : Os) (started : os.Started) (H : Type) (enc : TypeId × Value → H) :
    ReturnsInHanded {} Try.checked os 3 .any (Rows.termListsSpec.pre6 enc Try.prog Try.f3 Rows.termListsRow.domain false) (Rows.termListsSpec.post enc Try.prog Try.f3 false true false false) := by
  refine returnsInHanded_of_change_sized (C := Try.checked) own started (by kernel_rfl) Try.func3
    (ChangeSpec.witness6 (enc := enc) (C := Try.checked) false ⟨#[], #[.slice none 0 0, .slice none 0 0, .slice none 0 0], []⟩ 8 (by kernel_rfl) (by kernel_rfl) (by kernel_rfl) (by kernel_rfl)) ?_
  intro W base args ds gs before hval0 hW hcnd hsz0 _
  have hval : ∀ (j : Nat) t v, Try.f3.params[j]? = some t → args[j]? = some v → Value.okWide Try.prog W .any base t v := hval0
  have hsz : (DataW.weightsEach Try.prog (Try.f3.params.toList ++ Rows.termListsSpec.plain.varTypes Try.prog) (ds ++ gs)).all (· ≤ reachBytes) = true := hsz0
  have hW' := hW
  obtain ⟨p, q, hA0, hV, rfl, hfz, hnd⟩ := hW
  have hA : DataW.TrodAll enc Try.prog W 0 (fun _ => true) true Try.f3.params.toList args.toList ds p := hA0
  rw [Try.params3] at hA hval hsz
  obtain ⟨v0, vs0, d0, ds0, p0, q0, hargs, rfl, rfl, h0, r0⟩ := trodAll_cons hA
  obtain ⟨v1, vs1, d1, ds1, p1, q1, rfl, rfl, rfl, h1, r1⟩ := trodAll_cons r0
  obtain ⟨v2, vs2, d2, ds2, p2, q2, rfl, rfl, rfl, h2, r2⟩ := trodAll_cons r1
  obtain ⟨rfl, rfl, rfl⟩ := trodAll_nil r2
  obtain rfl : args = #[v0, v1, v2] := by cases args; simp_all
  obtain ⟨rfl, rfl⟩ := trodVars_none hV
  have k0 := h0
  have lt0 : ∀ x ∈ p0, x.block < W.heap.size := by obtain ⟨m, hm⟩ := k0; exact DataW.trod_lt m _ _ _ hm
  obtain ⟨a0, len0, cap0, rfl⟩ := okWide_slice Try.underlying22 (hval 0 22 v0 rfl rfl)
  obtain ⟨l0, rfl, i0, o0⟩ := open_terms h0 (fun n hn => by simpa using List.all_eq_true.1 hsz n (DataW.weights_mem_each (j := 0) (t := 22) rfl rfl n hn))
  have k1 := h1
  have lt1 : ∀ x ∈ p1, x.block < W.heap.size := by obtain ⟨m, hm⟩ := k1; exact DataW.trod_lt m _ _ _ hm
  obtain ⟨a1, len1, cap1, rfl⟩ := okWide_slice Try.underlying23 (hval 1 23 v1 rfl rfl)
  obtain ⟨l1, rfl, i1⟩ := open_nums h1 (fun n hn => by simpa using List.all_eq_true.1 hsz n (DataW.weights_mem_each (j := 1) (t := 23) rfl rfl n hn))
  have k2 := h2
  have lt2 : ∀ x ∈ p2, x.block < W.heap.size := by obtain ⟨m, hm⟩ := k2; exact DataW.trod_lt m _ _ _ hm
  obtain ⟨a2, len2, cap2, rfl⟩ := okWide_slice Try.underlying24 (hval 2 24 v2 rfl rfl)
  obtain ⟨l2, rfl, i2⟩ := open_wides h2 (fun n hn => by simpa using List.all_eq_true.1 hsz n (DataW.weights_mem_each (j := 2) (t := 24) rfl rfl n hn))
  clear hA0 hval0
  refine (TermLists_walk W a0 cap0 l0 i0 o0 a1 cap1 l1 i1 a2 cap2 l2 i2).mono fun e W' ⟨he, bel⟩ => ?_
  subst he
  exact ⟨_, rfl, _, _, _, [], _, [], hW', trodAll_mk1 (shut_bool Try.underlying4 _), (trodAll_cons_mk (Below.trod laidOut (by kernel_rfl) (of_decide_eq_true (by kernel_rfl)) k0 bel lt0) (trodAll_cons_mk (Below.trod laidOut (by kernel_rfl) (of_decide_eq_true (by kernel_rfl)) k1 bel lt1) (trodAll_cons_mk (Below.trod laidOut (by kernel_rfl) (of_decide_eq_true (by kernel_rfl)) k2 bel lt2) trodAll_mk0))), rfl, bel.frame _, fun h => by cases h⟩

theorem TermLists_over : Rows.termListsRow.holds Try.pinned (OpenSpec.ofChange Rows.termListsSpec) :=
  OpenClaim.holds_of_wide 3 Try.f3 rfl rfl rfl rfl rfl rfl rfl ⟨rfl, rfl, rfl, rfl, rfl⟩ rfl rfl rfl rfl rfl (by kernel_rfl) Try.func3 (by kernel_rfl)
    (of_decide_eq_true (by kernel_rfl)) (by unfold Func.isWrapper; first | (rw [if_pos (by decide +kernel)]; kernel_rfl) | (rw [if_neg (by decide +kernel)]; exact ⟨rfl, rfl⟩))
    (fun os started H enc _ => TermLists_lifted os started H enc)

theorem TermLists_holds : Rows.TermListsSaid := TermLists_over
#print axioms TermLists_holds

end Go.Proofs.Yticljbimbbiedaa
