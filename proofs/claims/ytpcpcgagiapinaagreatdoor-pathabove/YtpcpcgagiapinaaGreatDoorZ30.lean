/- Texts joined: PcH PdE. -/
import Derived.Test.YtpcpcgagiapinaaGreatDoorZ29
import Derived.Shelf.Abstract
import Derived.Shelf.RegionOpen
import Derived.Sort.CutIn
/- The contract of path.Above, where its arguments may be. -/
namespace Go.Proofs.YtpcpcgagiapinaaGreatDoor.Tn.Pa
open Go.RowKit Go.Maps
attribute [local go_sem] Oper.semAt_some
def abPost (b : Nat) (sv : Value) (mb : Nat) (L : List Tm) (w : World) (r : Option AbSt) (e : Ending) (w' : World) : Prop :=
  match r with
  | some st => ∃ lv, e = .returned (.tuple #[lv, .int .i64 (mkN L ⟨4, 1, st.2, 0⟩ : Nat), .int .i64 0]) ∧ ∃ sv', EF (foot b sv mb) w w' [resS b sv' mb (mkL L ⟨4, 1, st.2, 0⟩), resW 71 2 lv st.1.length (kysC (srt st.1))]
  | none => e = .returned (.tuple #[nilV, .int .i64 0, .int .i64 12]) ∧ EF (foot b sv mb) w w' [resS b sv mb L]
theorem EF.seven {F : List Nat} {w : World} {r : Res} (h : EF F w w [r]) (c1 c2 c3 c4 c5 c6 c7 : Array Value) (t1 t2 t3 t4 t5 t6 t7 : TypeId) :
    EF F w (((((((w.alloc (.cells c1 t1)).alloc (.cells c2 t2)).alloc (.cells c3 t3)).alloc (.cells c4 t4)).alloc (.cells c5 t5)).alloc (.cells c6 t6)).alloc (.cells c7 t7)) [resC (w.heap.size + 6) c7 t7, resC (w.heap.size + 5) c6 t6, resC (w.heap.size + 4) c5 t5, resC (w.heap.size + 3) c4 t4, resC (w.heap.size + 2) c3 t3, resC (w.heap.size + 1) c2 t2, resC w.heap.size c1 t1, r] := by
  have := ((((((h.newC c1 t1).newC c2 t2).newC c3 t3).newC c4 t4).newC c5 t5).newC c6 t6).newC c7 t7
  simp only [World.size_alloc] at this
  exact this
theorem above_leave {F : List Nat} {w X : World} {D A : Nat} {rs : List Res} {lv : Value} {cm er : Int} {Q : Ending → World → Prop} (hE : EF F w X (resC (A + 4) #[lv] 47 :: resC (A + 5) #[.int .i64 cm] 3 :: resC (A + 6) #[.int .i64 er] 28 :: rs)) (hs : ∀ r ∈ rs, Solid r) (hK : X.heap[D]? = some (.deferred (some []))) (hD : w.heap.size ≤ D)
    (hQ : ∀ V, EF F w V rs → Q (.returned (.tuple #[lv, .int .i64 cm, .int .i64 er])) V) {tmps : Array Value} (ht1 : tmps[8]?.getD undef = .pointer (some ⟨A + 4, 0, none⟩)) (ht2 : tmps[9]?.getD undef = .pointer (some ⟨A + 5, 0, none⟩)) (ht3 : tmps[10]?.getD undef = .pointer (some ⟨A + 6, 0, none⟩)) :
    LeavesInM Fence.wide 2 Tryz.prog Tryz.f18 tmps Q [{ target := .collected D, args := #[] }] .returning X := by
  have hE2 := hE.putL (b := D) (o' := .deferred none) (fun r hr => by
    simp only [List.mem_cons] at hr
    rcases hr with rfl | rfl | rfl | hr
    · exact solid_C _ _ _
    · exact solid_C _ _ _
    · exact solid_C _ _ _
    · exact hs r hr) hK rfl hD
  have h1 := blk_cell (i := 0) (show (X.putObj D (.deferred none)).heap[A + 4]? = some (.cells #[lv] 47 (0, 0)) from hE2.nth 0 rfl) rfl
  have h2 := blk_cell (i := 0) (show (X.putObj D (.deferred none)).heap[A + 5]? = some (.cells #[.int .i64 cm] 3 (0, 0)) from hE2.nth 1 rfl) rfl
  have h3 := blk_cell (i := 0) (show (X.putObj D (.deferred none)).heap[A + 6]? = some (.cells #[.int .i64 er] 28 (0, 0)) from hE2.nth 2 rfl) rfl
  refine ⟨by simp, .inl ⟨_, _, rfl, run_takeDeferred hK, ?_⟩⟩
  generalize X.putObj D (.deferred none) = Y at *
  refine ⟨.tuple #[lv, .int .i64 cm, .int .i64 er], ?_, hQ Y hE2.drop.drop.drop⟩
  simp [results, Tryz.results18, go_sem, ht1, ht2, ht3, h1, h2, h3]
set_option maxRecDepth 100000 in
set_option maxHeartbeats 8000000 in
theorem above_ok {b : Nat} {sv : Value} {mb : Nat} {L : List Tm} {w : World} (h : St w b sv mb L) {v : Value} {T : List Nd} (hT : Tfix (fun W => Fr (foot b sv mb) w W) v T) (hTb : ∀ W, Fr (foot b sv mb) w W → Tab W) (hh : heldB L T = true) (node : Nat) (hn : node < T.length) (secret : Int) (hs : thr L.length secret = true) (hl : L.length + 10 ≤ 1048576) :
    Calls Tryz.prog 18 #[.pointer (some ⟨b, 0, none⟩), .agg #[v], .int .i64 (node : Int), .int .i64 secret] w (abPost b sv mb L w (abR L T (node : Int) secret)) := by
  have hm := held_may hh
  have ok := mayB_okn hm (by omega)
  have h15 := (mayB_15 hm).1
  have hun : ∀ n ∈ T, n.un.length ≤ 140737488355328 := fun n hn => by
    obtain ⟨j, hj⟩ := List.mem_iff_getElem?.1 hn
    have hlt := (List.getElem?_eq_some_iff.1 hj).1
    have e1 : ndAt T j = n := by have := ndAt_of hlt; rw [hj] at this; simpa using this.symm
    have := (ok.sm j hlt).1
    rw [e1] at this
    omega
  have HTD : Hid (∀ W, Fr (foot b sv mb) w W → Trd W v T ∧ Tab W) := fun W hW => ⟨trd_of_fix hT hW (by omega) hun, hTb W hW⟩
  obtain ⟨va, c, rfl⟩ := hT.slice
  obtain ⟨g, o, us, rfl, hcell⟩ : ∃ g o, ∃ us : Nat → Value, va = some ⟨g, o, none⟩ ∧ ∀ W, Fr (foot b sv mb) w W → ∀ i, i < T.length → NdC W g (o + i * 4) (ndAt T i) (us i) ∧ Nums W (us i) (ndAt T i).un := by
    rcases hT with ⟨rfl, _⟩ | ⟨g, o, c', us, e, hh⟩
    · simp at hn
    · simp only [Value.slice.injEq] at e
      exact ⟨g, o, us, e.1, hh⟩
  obtain ⟨NT, hNT⟩ : ∃ NT, NT = T.length := ⟨_, rfl⟩
  obtain ⟨A, hA⟩ : ∃ A, A = w.heap.size := ⟨_, rfl⟩
  obtain ⟨w0, hw0⟩ : ∃ w0, w0 = ((((((w.alloc (.cells #[.pointer (some ⟨b, 0, none⟩)] 23)).alloc (.cells #[.slice (some ⟨g, o, none⟩) NT c] 44)).alloc (.cells #[.int .i64 (node : Int)] 3)).alloc (.cells #[.int .i64 secret] 3)).alloc (.cells #[nilV] 47)).alloc (.cells #[.int .i64 0] 3)).alloc (.cells #[.int .i64 0] 28) := ⟨_, rfl⟩
  have e0 := (EF.one w (resS b sv mb L) h).seven #[.pointer (some ⟨b, 0, none⟩)] #[.slice (some ⟨g, o, none⟩) NT c] #[.int .i64 (node : Int)] #[.int .i64 secret] #[nilV] #[.int .i64 0] #[.int .i64 0] 23 44 3 3 47 3 28
  rw [← hw0, ← hA] at e0
  rw [← hNT] at HTD ⊢
  have KM := hide (hmissing_any (show St w0 b sv mb L from e0.nth 7 rfl))
  have KTr := htree_any (show St w0 b sv mb L from e0.nth 7 rfl) _ T (unhide HTD w0 e0.fr).1 (unhide HTD w0 e0.fr).2
  rw [hh] at KTr
  have HKT := hide KTr
  have KH : Hid (∀ W, Below w0.heap.size w0 W → Calls Tryz.prog 34 #[.pointer (some ⟨b, 0, none⟩), .int .i64 secret] W fun e w' => e = .returned (.bool true) ∧ Below W.heap.size W w') := fun W hW => by
    have := hhas_any (show St W b sv mb L from (e0.new hW).nth 7 rfl) secret
    rw [hs] at this
    exact this
  obtain ⟨RES, hRES⟩ : ∃ RES, RES = abR L T (node : Int) secret := ⟨_, rfl⟩
  rw [← hRES]
  have HB0 : Hid (∀ W, Below w0.heap.size w0 W → (W.cell? ⟨A, 0, none⟩ = some (.pointer (some ⟨b, 0, none⟩)) ∧ W.cell? ⟨A + 1, 0, none⟩ = some (.slice (some ⟨g, o, none⟩) NT c) ∧ W.cell? ⟨A + 2, 0, none⟩ = some (.int .i64 (node : Int)) ∧ W.cell? ⟨A + 3, 0, none⟩ = some (.int .i64 secret))) := fun W hW => by
    have e1 := e0.new hW
    have r0 : W.heap[A]? = some (.cells #[.pointer (some ⟨b, 0, none⟩)] 23 (0, 0)) := e1.nth 6 rfl
    have r1 : W.heap[A + 1]? = some (.cells #[.slice (some ⟨g, o, none⟩) NT c] 44 (0, 0)) := e1.nth 5 rfl
    have r2 : W.heap[A + 2]? = some (.cells #[.int .i64 (node : Int)] 3 (0, 0)) := e1.nth 4 rfl
    have r3 : W.heap[A + 3]? = some (.cells #[.int .i64 secret] 3 (0, 0)) := e1.nth 3 rfl
    exact ⟨blk_cell r0 rfl, blk_cell r1 rfl, blk_cell r2 rfl, blk_cell r3 rfl⟩
  have HW := hide (And.intro hw0 hA)
  have HE0 := hide e0
  have q1 : (node : Int) < (NT : Int) := by omega
  have q2 : (NT : Int) ≤ 15 := by omega
  have q3 : decide ((node : Int) < 0) = false := decide_eq_false (by omega)
  have HF := hide (And.intro hNT (And.intro hm (And.intro hn (And.intro hs (And.intro hl (And.intro hRES hcell))))))
  obtain ⟨c0, c1, c2, c3⟩ := unhide HB0 w0 (Below.refl _ _)
  clear h hT hTb hh hn hs hl hm ok h15 hun hcell hNT hA hw0 e0 KTr hRES
  refine (callsIn_wide (n := 2)).1 (callsIn_of_wp_marks Tryz.func18 rfl trivial ?_ rfl)
  simp only [Tryz.ntmps18, List.size_toArray, List.length_cons, List.length_nil, Nat.reduceAdd, Nat.reduceSub, Array.replicate_succ, Array.replicate_zero, List.push_toArray, List.append_toArray, List.nil_append, List.cons_append]
  refine wpIn_wide.2 ?_
  go_upto_region 1 with fail
  rw [← (unhide HW).2, show A + 1 + 1 + 1 + 1 + 1 + 1 = A + 6 from rfl, show A + 1 + 1 + 1 + 1 + 1 = A + 5 from rfl, show A + 1 + 1 + 1 + 1 = A + 4 from rfl, show A + 1 + 1 + 1 = A + 3 from rfl, show A + 1 + 1 = A + 2 from rfl]
  rw [← (unhide HW).1]
  clear HW
  go_wp2_with fail
  refine (unhide KM).mono ?_
  rintro e w0 ⟨rfl, rfl⟩
  clear KM
  go_wp2_with fail
  refine (unhide HKT).mono ?_
  rintro e w1 ⟨rfl, b1⟩
  have K2 := hide (unhide KH w1 b1)
  clear c0 c1 c2 c3 HKT KH
  obtain ⟨c0, c1, c2, c3⟩ := unhide HB0 w1 b1
  have HB1 := hide b1
  clear b1
  go_wp2_with fail
  refine (unhide K2).mono ?_
  rintro e w2 ⟨rfl, b2⟩
  have b2' := bw_tr (unhide HB1) b2
  clear c0 c1 c2 c3 K2 HB1 b2
  obtain ⟨c0, c1, c2, c3⟩ := unhide HB0 w2 b2'
  have e2 := (unhide HE0).new b2'
  have e3 := (e2.newC #[.int .i64 secret] 3).newC #[.func (.func 48) #[] #[.pointer (some ⟨A, 0, none⟩), .pointer (some ⟨A + 1, 0, none⟩), .pointer (some ⟨A + 2, 0, none⟩), .pointer (some ⟨A + 3, 0, none⟩), .pointer (some ⟨w2.heap.size, 0, none⟩), .pointer (some ⟨A + 4, 0, none⟩)]] 108
  simp only [World.size_alloc] at e3
  obtain ⟨la, hla⟩ : ∃ la, la = w2.heap.size := ⟨_, rfl⟩
  rw [← hla] at e3
  obtain ⟨w3, hw3⟩ : ∃ w3, w3 = (w2.alloc (.cells #[.int .i64 secret] 3)).alloc (.cells #[.func (.func 48) #[] #[.pointer (some ⟨A, 0, none⟩), .pointer (some ⟨A + 1, 0, none⟩), .pointer (some ⟨A + 2, 0, none⟩), .pointer (some ⟨A + 3, 0, none⟩), .pointer (some ⟨la, 0, none⟩), .pointer (some ⟨A + 4, 0, none⟩)]] 108) := ⟨_, rfl⟩
  rw [← hw3] at e3
  have HW3 := hide (And.intro hw3 hla)
  have HE3 := hide e3
  clear e2 e3 hw3 hla HE0 b2'
  go_upto_region 7 with fail
  rw [← (unhide HW3).2, ← (unhide HW3).1]
  obtain ⟨hNT, hm, hn, hs, hl, hRES, hcell⟩ := unhide HF
  obtain ⟨fn, hfn⟩ : ∃ fn, fn = Value.func (.func 48) #[] #[.pointer (some ⟨A, 0, none⟩), .pointer (some ⟨A + 1, 0, none⟩), .pointer (some ⟨A + 2, 0, none⟩), .pointer (some ⟨A + 3, 0, none⟩), .pointer (some ⟨la, 0, none⟩), .pointer (some ⟨A + 4, 0, none⟩)] := ⟨_, rfl⟩
  have E3 : EF (foot b sv mb) w w3 (stpK (A + 4) la nilV [] secret (stpR b sv mb L A (A + 1) (A + 2) (A + 3) (.slice (some ⟨g, o, none⟩) NT c) (node : Int) secret ++ [resC (A + 5) #[.int .i64 0] 3, resC (A + 6) #[.int .i64 0] 28, resC (la + 1) #[fn] 108])) := by
    rw [hfn]
    have h := (unhide HE3).nilW 71 2
    exact (((((((((((h.up 1 rfl).up 3 rfl).up 4 rfl).up 6 rfl).up 7 rfl).up 8 rfl).up 9 rfl).up 10 rfl).up 9 rfl).up 9 rfl).up 10 rfl)
  have HST : Hid (∀ F' (X : World) (x : Nat) (lv : Value) (ks : List (Int × Int)) (last : Int) (rest : List Res), F' = foot b sv mb → x < T.length → i64b last → ks.length ≤ 100 → EF F' w X (stpK (A + 4) la lv ks last (stpR b sv mb L A (A + 1) (A + 2) (A + 3) (.slice (some ⟨g, o, none⟩) NT c) (node : Int) secret ++ rest)) → _) := fun F' X x lv ks last rest hF hx hl2 hk hE => step_any (T := T) x hE hNT (fun V hV y hy => (hcell V (hF ▸ hV) y hy).1.c0) hx hl2 hk (by have := (mayB_15 hm).1; omega)
  have hsb : i64b secret := by have := thr_iff.1 hs; exact ⟨by omega, by omega⟩
  have K7 := unhide HST _ w3 node nilV [] secret _ rfl hn hsb (by simp) E3
  have c4 := blk_cell (i := 0) (show w3.heap[la + 1]? = some (.cells #[fn] 108 (0, 0)) from E3.nth 10 rfl) rfl
  have c5 := blk_cell (i := 0) (show w3.heap[A + 2]? = some (.cells #[.int .i64 (node : Int)] 3 (0, 0)) from E3.nth 6 rfl) rfl
  rw [hfn] at c4
  have HFN := hide hfn
  have h1 : abF L T (node : Int) secret [(node : Int)] = if stpB L T (node : Int) secret secret (node : Int) = true then some ([((node : Int), orgK L (pubAt T (node : Int)))], orgS L (pubAt T (node : Int))) else none := by
    unfold abF ab1; simp
  by_cases hst : stpB L T (node : Int) secret secret (node : Int) = true
  case neg =>
    rw [if_neg hst] at h1
    have hR : RES = none := by rw [hRES]; exact abF_none _ _ _ _ [(node : Int)] _ h1
    subst hR
    simp only [if_neg hst] at K7
    have HK7 := hide K7
    clear HE3 HW3 K7 HST h1 hst hRES HF hNT hm hn hs hl hcell E3 hfn c0 c1 c2 c3 hsb HFN
    go_wp2_with fail
    refine (unhide HK7).mono ?_
    rintro e w4 ⟨rfl, E4⟩
    have B4 : w4.heap[A + 4]? = some (.cells #[nilV] 47 (0, 0)) := E4.nth 0 rfl
    have B5 : w4.heap[A + 5]? = some (.cells #[.int .i64 0] 3 (0, 0)) := E4.nth 8 rfl
    have B6 : w4.heap[A + 6]? = some (.cells #[.int .i64 0] 28 (0, 0)) := E4.nth 9 rfl
    have y4 := blk_cell (i := 0) B4 rfl
    have z4 := blk_froz (i := 0) B4
    have E5 := E4.poke (i := 0) nilV
    have B5' := show (w4.setCell ⟨A + 4, 0, none⟩ nilV).heap[A + 5]? = some (.cells #[.int .i64 0] 3 (0, 0)) from E5.nth 8 rfl
    have y5 := blk_cell (i := 0) B5' rfl
    have z5 := blk_froz (i := 0) B5'
    have E6 := (E5.up 8 rfl).poke (i := 0) (.int .i64 0)
    have B6' := show ((w4.setCell ⟨A + 4, 0, none⟩ nilV).setCell ⟨A + 5, 0, none⟩ (.int .i64 0)).heap[A + 6]? = some (.cells #[.int .i64 0] 28 (0, 0)) from E6.nth 9 rfl
    have y6 := blk_cell (i := 0) B6' rfl
    have z6 := blk_froz (i := 0) B6'
    have E7 := (E6.up 9 rfl).poke (i := 0) (.int .i64 12)
    obtain ⟨V, hV⟩ : ∃ V, V = ((w4.setCell ⟨A + 4, 0, none⟩ nilV).setCell ⟨A + 5, 0, none⟩ (.int .i64 0)).setCell ⟨A + 6, 0, none⟩ (.int .i64 12) := ⟨_, rfl⟩
    rw [← hV] at E7
    have r4 := blk_cell (i := 0) (show V.heap[A + 4]? = some (.cells #[nilV] 47 (0, 0)) from E7.nth 2 rfl) rfl
    have r5 := blk_cell (i := 0) (show V.heap[A + 5]? = some (.cells #[.int .i64 0] 3 (0, 0)) from E7.nth 1 rfl) rfl
    have r6 := blk_cell (i := 0) (show V.heap[A + 6]? = some (.cells #[.int .i64 12] 28 (0, 0)) from E7.nth 0 rfl) rfl
    have HE : Hid (EF (foot b sv mb) w V [resS b sv mb L]) := (E7.up 5 rfl).sub (.cons_cons _ (List.nil_sublist _))
    have HV := hide hV
    clear HK7 E4 E5 E6 E7 B4 B5 B6 B5' B6' hV
    go_wp2_with fail
    rw [← unhide HV]
    exact ⟨.tuple #[nilV, .int .i64 0, .int .i64 12], by simp [results, Tryz.results18, go_sem, r4, r5, r6], rfl, unhide HE⟩
  case pos =>
    rw [if_pos hst] at h1
    simp only [if_pos hst] at K7
    have HK7 := hide K7
    obtain ⟨k1, hk1⟩ : ∃ k1, k1 = orgK L (pubAt T (node : Int)) := ⟨_, rfl⟩
    obtain ⟨s1, hs1⟩ : ∃ s1, s1 = orgS L (pubAt T (node : Int)) := ⟨_, rfl⟩
    rw [← hk1, ← hs1] at HK7 h1
    have HH1 := hide h1
    clear HE3 HW3 K7 h1 hst hRES hNT hm hn hs hl hcell E3 hfn c0 c1 c2 c3 hsb hk1 hs1
    go_wp2_with fail
    refine (unhide HK7).mono ?_
    rintro e w4 ⟨rfl, lv4, E4⟩
    have c1 := blk_cell (i := 0) (show w4.heap[A + 1]? = some (.cells #[.slice (some ⟨g, o, none⟩) NT c] 44 (0, 0)) from E4.nth 5 rfl) rfl
    have c2 := blk_cell (i := 0) (show w4.heap[A + 2]? = some (.cells #[.int .i64 (node : Int)] 3 (0, 0)) from E4.nth 6 rfl) rfl
    have HE4 := hide E4
    clear c4 c5 HK7 E4
    go_wp2_with fail
    refine (above_any _ _ _).mono ?_
    rintro e w5 ⟨rfl, hw5⟩
    have HW5 := hide hw5
    clear hw5 c1 c2
    obtain ⟨hNT, hm, hn, hs, hl, hRES, hcell⟩ := unhide HF
    have ok := mayB_okn hm (by omega)
    have e5 := ((unhide HE4).newC #[.slice (some ⟨g, o, none⟩) NT c] 44).newC #[.int .i64 (node : Int)] 3
    simp only [World.size_alloc] at e5
    rw [← unhide HW5] at e5
    obtain ⟨tb, htb⟩ : ∃ tb, tb = w4.heap.size := ⟨_, rfl⟩
    rw [← htb] at e5
    have hA1 : w.heap.size ≤ w4.heap.size := (unhide HE4).fr.size
    have hs5 : w5.heap.size = tb + 2 := by rw [unhide HW5, htb]; simp
    obtain ⟨OV, hOV⟩ : ∃ OV, OV = ov T (node : Int) := ⟨_, rfl⟩
    have E5 : EF (foot b sv mb) w w5 (stpK (A + 4) la lv4 [((node : Int), k1)] s1 (stpR b sv mb L A (A + 1) (A + 2) (A + 3) (.slice (some ⟨g, o, none⟩) NT c) (node : Int) secret ++ [resC (A + 5) #[.int .i64 0] 3, resC (A + 6) #[.int .i64 0] 28, resC (la + 1) #[fn] 108, resC tb #[.slice (some ⟨g, o, none⟩) NT c] 44, resC (tb + 1) #[.int .i64 (node : Int)] 3])) := by
      exact (((((((((((e5.up 1 rfl).up 12 rfl).up 12 rfl).up 12 rfl).up 12 rfl).up 12 rfl).up 12 rfl).up 12 rfl).up 12 rfl).up 12 rfl).up 12 rfl).up 12 rfl
    have hK5 : KA (tb + 1) tb (node : Int) g o NT c T w5 := ⟨E5.nth 12 rfl, E5.nth 11 rfl, fun x hx => (hcell w5 E5.fr x hx).1.c0⟩
    have HSQ : Hid (SeqN Tryz.prog 91 #[.pointer (some ⟨tb + 1, 0, none⟩), .pointer (some ⟨tb, 0, none⟩)] OV.length (encA OV) (KA (tb + 1) tb (node : Int) g o NT c T) w5) := by
      obtain ⟨t1, t2⟩ := unhide HTD w5 E5.fr
      rw [hNT] at t1 hK5 ⊢
      rw [hOV]
      exact seqA_any node (tb + 1) tb t1 t2 hm hn hK5
    have hgl : g < w.heap.size := lt_of_cell (hcell w (Fr.refl _ _) 0 (by omega)).1.c0
    have hAt : A + 6 < tb ∧ la + 1 < tb := by
      have h1 := lt_of_blk (show w4.heap[A + 6]? = some (.cells #[.int .i64 0] 28 (0, 0)) from (unhide HE4).nth 9 rfl)
      have h2 := lt_of_blk (show w4.heap[la + 1]? = some (.cells #[fn] 108 (0, 0)) from (unhide HE4).nth 10 rfl)
      omega
    have hov : Hid (∀ k, k < OV.length → ∃ m : Nat, nthI OV k = (m : Int) ∧ m < T.length) := fun k hk => by
      rw [hOV] at hk ⊢
      refine ov_at ok hn _ ?_
      rw [nthI, List.getD_eq_getElem?_getD, List.getElem?_eq_getElem hk]
      exact List.getElem_mem hk
    have h3 : OV.length ≤ 3 := by rw [hOV]; exact ov_len ok hn
    have HND : Hid (((node : Int) :: OV).Nodup) := by rw [hOV]; exact ov_nodup ok hn
    obtain ⟨AK, hAK⟩ : ∃ AK : Nat → Option AbSt, AK = fun k => abF L T (node : Int) secret ((node : Int) :: OV.take k) := ⟨_, rfl⟩
    have HAK0 : Hid (AK 0 = some ([((node : Int), k1)], s1)) := by unfold Hid; rw [hAK]; simpa using unhide HH1
    have HAKs : Hid (∀ k, k < OV.length → AK (k + 1) = ab1 L T (node : Int) secret (AK k) (nthI OV k)) := fun k hk => by
      rw [hAK]
      simp only
      have : OV.take (k + 1) = OV.take k ++ [nthI OV k] := by
        rw [List.take_add_one, nthI, List.getD_eq_getElem?_getD, List.getElem?_eq_getElem hk]; rfl
      rw [this, ← List.cons_append, abF_snoc]
    have HAKe : Hid (AK OV.length = RES ∧ ∀ k, AK k = none → RES = none) := by
      rw [hRES, hAK]
      refine ⟨by simp only [List.take_length]; unfold abR; rw [hOV], fun k hk => ?_⟩
      unfold abR
      rw [← hOV, show (node : Int) :: OV = ((node : Int) :: OV.take k) ++ OV.drop k by rw [List.cons_append, List.take_append_drop]]
      exact abF_none _ _ _ _ _ _ hk
    have HAKf : Hid (∀ k st, AK k = some st → thr L.length st.2 = true ∧ st.1.map (·.1) = (node : Int) :: OV.take k ∧ st.1.length ≤ 4) := fun k st hk => by
      rw [hAK] at hk
      obtain ⟨r1, r2⟩ := ab_facts hs hk
      refine ⟨r1, r2, ?_⟩
      have := congrArg List.length r2
      rw [List.length_map, List.length_cons, List.length_take] at this
      omega
    obtain ⟨STL, hSTL⟩ : ∃ STL : Value → List (Int × Int) → Int → List Res, STL = fun lv ks last => stpK (A + 4) la lv ks last (stpR b sv mb L A (A + 1) (A + 2) (A + 3) (.slice (some ⟨g, o, none⟩) NT c) (node : Int) secret ++ [resC (A + 5) #[.int .i64 0] 3, resC (A + 6) #[.int .i64 0] 28, resC (la + 1) #[fn] 108, resC tb #[.slice (some ⟨g, o, none⟩) NT c] 44, resC (tb + 1) #[.int .i64 (node : Int)] 3]) := ⟨_, rfl⟩
    have hsol : ∀ lv ks last, ∀ r ∈ STL lv ks last, Solid r := fun lv ks last r hr => by
      rw [hSTL] at hr
      simp only [stpK, stpR, List.cons_append, List.nil_append, List.mem_cons, List.not_mem_nil, or_false] at hr
      rcases hr with rfl | rfl | rfl | rfl | rfl | rfl | rfl | rfl | rfl | rfl | rfl | rfl | rfl
      · exact solid_C _ _ _
      · exact solid_W _ _ _ _ _
      · exact solid_C _ _ _
      · exact solid_S _ _ _ _
      all_goals exact solid_C _ _ _
    have hsoI : ∀ qv ql lv ks last, ∀ r ∈ resI qv ql :: STL lv ks last, Solid r := fun qv ql lv ks last r hr => by
      rcases List.mem_cons.1 hr with rfl | hr
      · exact solid_W _ _ _ _ _
      · exact hsol _ _ _ r hr
    have hbD : ∀ D, w5.heap.size ≤ D → w.heap.size ≤ D := fun D hD => by omega
    have HKA : Hid (∀ X pre lv ks last, EF (foot b sv mb) w X (pre ++ STL lv ks last) → KA (tb + 1) tb (node : Int) g o NT c T X) := fun X pre lv ks last hE => by
      have h1 : X.heap[tb + 1]? = some (.cells #[.int .i64 (node : Int)] 3 (0, 0)) := hE.hold (resC (tb + 1) #[.int .i64 (node : Int)] 3) (List.mem_append_right _ (by rw [hSTL]; simp [stpK, stpR]))
      have h2 : X.heap[tb]? = some (.cells #[.slice (some ⟨g, o, none⟩) NT c] 44 (0, 0)) := hE.hold (resC tb #[.slice (some ⟨g, o, none⟩) NT c] 44) (List.mem_append_right _ (by rw [hSTL]; simp [stpK, stpR]))
      exact ⟨h1, h2, fun x hx => (hcell X hE.fr x hx).1.c0⟩
    have HK0 : Hid (∀ (A' : World) (b' : Nat) (o' : Obj), w5.heap.size ≤ b' → KA (tb + 1) tb (node : Int) g o NT c T A' → KA (tb + 1) tb (node : Int) g o NT c T (A'.putObj b' o')) := fun A' b' o' hb hk =>
      ⟨(World.putObj_heap_other (by omega)).trans hk.1, (World.putObj_heap_other (by omega)).trans hk.2.1, fun x hx => by rw [World.cell?_of_block (w := A') (World.putObj_heap_other (by simp only; omega))]; exact hk.2.2 x hx⟩
    have eI : EF (foot b sv mb) w w5 (resI nilV [] :: STL lv4 [((node : Int), k1)] s1) := by rw [hSTL]; exact E5.nilW 3 1
    have HI0 := hide (And.intro eI hK5)
    have HSTL := hide hSTL
    have HM := hide (And.intro hNT (And.intro hm (And.intro hn (And.intro hs (And.intro hl (And.intro hRES h3))))))
    have HS5 := hide (And.intro hs5 (And.intro htb (And.intro hAt hA1)))
    have HFRS : Hid (∀ k st lv x, AK k = some st → x < T.length → ∀ X rest, EF (foot b sv mb) w X (stpK (A + 4) la lv st.1 st.2 (stpR b sv mb L A (A + 1) (A + 2) (A + 3) (.slice (some ⟨g, o, none⟩) NT c) (node : Int) secret ++ rest)) → _) := fun k st lv x hk hx X rest hE => unhide HST _ X x lv st.1 st.2 rest rfl hx (by have := thr_iff.1 (unhide HAKf k st hk).1; exact ⟨by omega, by omega⟩) (by have := (unhide HAKf k st hk).2.2; omega) hE
    clear hNT hm hn hs hl hRES hcell ok e5 E5 hK5 hgl h3 hAK eI hA1 hOV hSTL
    go_wp2_with fail
    rw [← htb]
    clear htb hs5
    refine range_own (unhide HSQ) rfl (enters_of Tryz.func91 (by kernel_rfl) rfl) (fun _ => rfl)
      (fun k qv ql X => ∃ st lv, AK k = some st ∧ EF (foot b sv mb) w X (resI qv ql :: STL lv st.1 st.2))
      (fun k X => RES = none ∧ EF (foot b sv mb) w X [resC (A + 4) #[nilV] 47, resC (A + 5) #[.int .i64 0] 3, resC (A + 6) #[.int .i64 12] 28, resS b sv mb L])
      (fun k qv ql A B hi hb => by obtain ⟨st, lv, h1, h2⟩ := hi; exact ⟨st, lv, h1, h2.new hb⟩)
      (fun k qv ql A B hi hb hq => by obtain ⟨st, lv, h1, h2⟩ := hi; exact ⟨st, lv, h1, h2.swapI hb hq⟩)
      (fun k qv ql A hi => by obtain ⟨st, lv, h1, h2⟩ := hi; exact h2.hd)
      (fun k qv ql A b o o' hb hi hA ho => by obtain ⟨st, lv, h1, h2⟩ := hi; exact ⟨st, lv, h1, h2.putL (hsoI _ _ _ _ _) hA ho (hbD b hb)⟩)
      (fun k A' b' o o' hb hi hA ho => ⟨hi.1, hi.2.putL (fun r hr => by
        simp only [List.mem_cons, List.not_mem_nil, or_false] at hr
        rcases hr with rfl | rfl | rfl | rfl
        · exact solid_C _ _ _
        · exact solid_C _ _ _
        · exact solid_C _ _ _
        · exact solid_S _ _ _ _) hA ho (hbD b' hb)⟩)
      (fun A b o o' hb hi hA ho => unhide HK0 A b o' hb hi)
      ⟨_, lv4, unhide HAK0, (unhide HI0).1⟩
      (fun k => { tmps := #[.pointer (some ⟨b, 0, none⟩), .agg #[.slice (some ⟨g, o, none⟩) NT c], .int .i64 ((node : Nat) : Int), .int .i64 (secret), .pointer (some ⟨A, 0, none⟩), .pointer (some ⟨A + 1, 0, none⟩), .pointer (some ⟨A + 2, 0, none⟩), .pointer (some ⟨A + 3, 0, none⟩), .pointer (some ⟨A + 4, 0, none⟩), .pointer (some ⟨A + 5, 0, none⟩), .pointer (some ⟨A + 6, 0, none⟩), .pointer (some ⟨la, 0, none⟩), .pointer (some ⟨la + 1, 0, none⟩), .int .i64 (0), .int .i64 (nthI OV k), undef, .pointer (some ⟨b, 0, none⟩), .bool false, .pointer (some ⟨b, 0, none⟩), .agg #[.slice (some ⟨g, o, none⟩) NT c], .bool true, .bool false, .bool false, .int .i64 ((node : Nat) : Int), .bool false, .bool false, .bool false, .int .i64 ((node : Nat) : Int), .pointer (some ⟨A + 1, 0, none⟩), .slice (some ⟨g, o, none⟩) NT c, .int .i64 ((NT : Nat) : Int), .bool false, .bool false, .bool false, .pointer (some ⟨b, 0, none⟩), .int .i64 (secret), .bool true, .bool false, .bool false, .int .i64 (secret), .func (.func 48) #[] #[.pointer (some ⟨A, 0, none⟩), .pointer (some ⟨A + 1, 0, none⟩), .pointer (some ⟨A + 2, 0, none⟩), .pointer (some ⟨A + 3, 0, none⟩), .pointer (some ⟨la, 0, none⟩), .pointer (some ⟨A + 4, 0, none⟩)], .func (.func 48) #[] #[.pointer (some ⟨A, 0, none⟩), .pointer (some ⟨A + 1, 0, none⟩), .pointer (some ⟨A + 2, 0, none⟩), .pointer (some ⟨A + 3, 0, none⟩), .pointer (some ⟨la, 0, none⟩), .pointer (some ⟨A + 4, 0, none⟩)], .int .i64 ((node : Nat) : Int), .int .i64 (0), .int .i64 (0), .bool false, undef, .agg #[.slice (some ⟨g, o, none⟩) NT c], .int .i64 ((node : Nat) : Int), .func (.func 91) #[] #[.pointer (some ⟨tb + 1, 0, none⟩), .pointer (some ⟨tb, 0, none⟩)], .int .i64 (nthI OV k), undef, undef, undef, undef, undef, undef, undef, undef, undef, undef, undef, undef, undef, undef, undef, undef, undef, undef, undef], defers := [] })
      ?assign ?body ?done ?stop
    case assign =>
      intro l k X K hK
      unfold encA
      gi_wp2
      exact hK
    case body =>
      rintro D l k qv ql X r hD rfl hk ⟨st, lv, hst, hE⟩ hK hl hDd
      obtain ⟨m, hmx, hml⟩ := unhide hov k hk
      have EL := hE.addL (hsoI _ _ _ _ _) hDd hl rfl rfl (hbD _ hD) (by have := hbD _ hD; omega)
      have E1 : EF (foot b sv mb) w X (stpK (A + 4) la lv st.1 st.2 (stpR b sv mb L A (A + 1) (A + 2) (A + 3) (.slice (some ⟨g, o, none⟩) NT c) (node : Int) secret ++ ([resC (A + 5) #[.int .i64 0] 3, resC (A + 6) #[.int .i64 0] 28, resC (la + 1) #[fn] 108, resC tb #[.slice (some ⟨g, o, none⟩) NT c] 44, resC (tb + 1) #[.int .i64 (node : Int)] 3] ++ [resL D (D + 1) (.deferred (some [])) (.loop r), resI qv ql]))) := by
        have := EL.perm (List.perm_append_comm (l₁ := [resL D (D + 1) (.deferred (some [])) (.loop r), resI qv ql]) (l₂ := STL lv st.1 st.2))
        rw [unhide HSTL] at this
        exact this
      have KS := unhide HFRS k st lv m hst hml X _ E1
      have c4 := blk_cell (i := 0) (show X.heap[la + 1]? = some (.cells #[fn] 108 (0, 0)) from E1.nth 10 rfl) rfl
      rw [unhide HFN] at c4
      have hAKn := unhide HAKs k hk
      rw [hst, hmx] at hAKn
      unfold ab1 at hAKn
      simp only [Option.bind_some] at hAKn
      dsimp only
      rw [hmx]
      by_cases hstp : stpB L T (node : Int) secret st.2 (m : Int) = true
      · rw [if_pos hstp] at hAKn
        simp only [if_pos hstp] at KS
        have HKS := hide KS
        have HB := hide (And.intro hK (And.intro hl (And.intro hDd (And.intro hAKn hD))))
        clear hE EL E1 KS hAKn hstp hK hl hDd hst hml hmx hk
        gi_wp2
        refine ⟨trivial, rfl, ?_⟩
        refine (CallsIn.inRound _ (callsIn_wide.2 (unhide HKS))).mono ?_
        rintro e X1 ⟨rfl, lv', E2⟩
        obtain ⟨hK, hl, hDd, hAKn, hD⟩ := unhide HB
        have E3 : EF (foot b sv mb) w X1 ([resL D (D + 1) (.deferred (some [])) (.loop r), resI qv ql] ++ STL lv' (st.1 ++ [((m : Int), orgK L (pubAt T (m : Int)))]) (orgS L (pubAt T (m : Int)))) := by
          rw [unhide HSTL]
          exact E2.perm (List.perm_append_comm (l₁ := stpK (A + 4) la lv' (st.1 ++ [((m : Int), orgK L (pubAt T (m : Int)))]) (orgS L (pubAt T (m : Int))) (stpR b sv mb L A (A + 1) (A + 2) (A + 3) (.slice (some ⟨g, o, none⟩) NT c) (node : Int) secret ++ [resC (A + 5) #[.int .i64 0] 3, resC (A + 6) #[.int .i64 0] 28, resC (la + 1) #[fn] 108, resC tb #[.slice (some ⟨g, o, none⟩) NT c] 44, resC (tb + 1) #[.int .i64 (node : Int)] 3])) (l₂ := [resL D (D + 1) (.deferred (some [])) (.loop r), resI qv ql]))
        have L1 : X1.heap[D]? = some (.deferred (some [])) ∧ X1.heap[D + 1]? = some (.loop r) := E3.hd
        have HP : Hid (∀ a, postN (fun k qv ql X => ∃ st lv, AK k = some st ∧ EF (foot b sv mb) w X (resI qv ql :: STL lv st.1 st.2)) (fun k X => RES = none ∧ EF (foot b sv mb) w X [resC (A + 4) #[nilV] 47, resC (A + 5) #[.int .i64 0] 3, resC (A + 6) #[.int .i64 12] 28, resS b sv mb L]) (KA (tb + 1) tb (node : Int) g o NT c T) D (D + 1) k qv ql X .normal a X1) := fun a =>
          ⟨L1.2.trans hl.symm, L1.1.trans hDd.symm, unhide HKA X1 _ _ _ _ E3, _, lv', hAKn, E3.drop⟩
        clear hK hl hDd hAKn E2 E3 L1 HB HKS
        gi_wp2
        exact unhide HP _
      · rw [if_neg hstp] at hAKn
        simp only [if_neg hstp] at KS
        have HKS := hide KS
        have hRN : RES = none := (unhide HAKe).2 _ hAKn
        have HB := hide (And.intro hK (And.intro hl (And.intro hDd (And.intro hRN hD))))
        clear hE EL E1 KS hAKn hstp hK hl hDd hst hml hmx hk hRN
        gi_wp2
        refine ⟨trivial, rfl, ?_⟩
        refine (CallsIn.inRound _ (callsIn_wide.2 (unhide HKS))).mono ?_
        rintro e X1 ⟨rfl, E4⟩
        have B4 : X1.heap[A + 4]? = some (.cells #[lv] 47 (0, 0)) := E4.nth 0 rfl
        have y4 := blk_cell (i := 0) B4 rfl
        have z4 := blk_froz (i := 0) B4
        have E5 := E4.poke (i := 0) nilV
        have B5' := show (X1.setCell ⟨A + 4, 0, none⟩ nilV).heap[A + 5]? = some (.cells #[.int .i64 0] 3 (0, 0)) from E5.nth 8 rfl
        have y5 := blk_cell (i := 0) B5' rfl
        have z5 := blk_froz (i := 0) B5'
        have E6 := (E5.up 8 rfl).poke (i := 0) (.int .i64 0)
        have B6' := show ((X1.setCell ⟨A + 4, 0, none⟩ nilV).setCell ⟨A + 5, 0, none⟩ (.int .i64 0)).heap[A + 6]? = some (.cells #[.int .i64 0] 28 (0, 0)) from E6.nth 9 rfl
        have y6 := blk_cell (i := 0) B6' rfl
        have z6 := blk_froz (i := 0) B6'
        have E7 := (E6.up 9 rfl).poke (i := 0) (.int .i64 12)
        obtain ⟨V, hV⟩ : ∃ V, V = ((X1.setCell ⟨A + 4, 0, none⟩ nilV).setCell ⟨A + 5, 0, none⟩ (.int .i64 0)).setCell ⟨A + 6, 0, none⟩ (.int .i64 12) := ⟨_, rfl⟩
        rw [← hV] at E7
        have L1 : V.heap[D]? = some (.deferred (some [])) ∧ V.heap[D + 1]? = some (.loop r) := E7.nth 13 rfl
        have E9 : EF (foot b sv mb) w V [resC (A + 4) #[nilV] 47, resC (A + 5) #[.int .i64 0] 3, resC (A + 6) #[.int .i64 12] 28, resS b sv mb L] := by
          exact ((((E7.up 5 rfl).up 1 rfl).up 2 rfl).up 3 rfl).sub (.cons_cons _ (.cons_cons _ (.cons_cons _ (.cons_cons _ (List.nil_sublist _)))))
        obtain ⟨hK, hl, hDd, hRN, hD⟩ := unhide HB
        have HP : Hid (∀ a, postN (fun k qv ql X => ∃ st lv, AK k = some st ∧ EF (foot b sv mb) w X (resI qv ql :: STL lv st.1 st.2)) (fun k X => RES = none ∧ EF (foot b sv mb) w X [resC (A + 4) #[nilV] 47, resC (A + 5) #[.int .i64 0] 3, resC (A + 6) #[.int .i64 12] 28, resS b sv mb L]) (KA (tb + 1) tb (node : Int) g o NT c T) D (D + 1) k qv ql X .ret a V) := fun a =>
          ⟨L1.2.trans hl.symm, L1.1.trans hDd.symm, hRN, E9⟩
        have HV := hide hV
        clear hK hl hDd hRN E4 E5 E6 E7 E9 L1 HB HKS B4 B5' B6' hV
        gi_wp2
        rw [← unhide HV]
        exact unhide HP _
    case done =>
      rintro D qv ql X hD ⟨st, lv, hst, hE⟩ hK
      have hRS : RES = some st := by rw [← (unhide HAKe).1]; exact hst
      obtain ⟨f1, f2, f3⟩ := unhide HAKf _ st hst
      rw [List.take_length] at f2
      have hl := (unhide HM).2.2.2.2.1
      have E1 : EF (foot b sv mb) w X (STL lv st.1 st.2) := hE.drop
      rw [unhide HSTL] at E1
      have EL := E1.addL (by have := hsol lv st.1 st.2; rwa [unhide HSTL] at this) hK hK rfl rfl (hbD D hD) (hbD D hD)
      obtain ⟨ks, last⟩ := st
      simp only at f1 f2 f3 E1 EL
      have ft := thr_iff.1 f1
      have KAf := hide (fun W => afterPath_any W last)
      have KMk : Hid (∀ V rs, EF (foot b sv mb) w V (resS b sv mb L :: rs) → Calls Tryz.prog 22 #[.pointer (some ⟨b, 0, none⟩), .agg #[.int .u8 4, .int .i64 1, .int .i64 last, .int .i64 0]] V fun e V' => e = .returned (.tuple #[.int .i64 (mkN L ⟨4, 1, last, 0⟩ : Nat), .int .i64 0]) ∧ ∃ sv', EF (foot b sv mb) w V' (resS b sv' mb (mkL L ⟨4, 1, last, 0⟩) :: rs)) := fun V rs hV => by
        refine (make_ok (show St V b sv mb L from hV.hd) 4 1 last 0 (ok_kdf (by omega)) (may_kdf (by omega) f1 (Or.inl rfl)) (by omega)).mono ?_
        rintro e V' ⟨e1, sv', s'⟩
        exact ⟨e1, sv', hV.term s'⟩
      have KRi : Hid (∀ V, V.ownsRow 0 71 2 lv ks.length (kysC ks) → Calls Tryz.prog 53 #[lv] V fun e w' => e = .returned lv ∧ w'.ownsRow 0 71 2 lv ks.length (kysC (srt ks)) ∧ Fr lv.ownBlock.toList V w') := fun V hV => rising_any hV (by intro c; rw [c] at f2; simp at f2) (by omega) (by rw [f2]; exact unhide HND)
      obtain ⟨N, hN⟩ : ∃ N : Nat, N = mkN L ⟨4, 1, last, 0⟩ := ⟨_, rfl⟩
      rw [← hN] at KMk
      have HRS := hide (And.intro hRS hN)
      have E2 := EL.up 4 rfl
      have HEL := hide E2
      have S0 : X.cell? ⟨A, 0, none⟩ = some (.pointer (some ⟨b, 0, none⟩)) ∧ X.cell? ⟨la, 0, none⟩ = some (.int .i64 last) := ⟨blk_cell (i := 0) (show X.heap[A]? = some (.cells #[.pointer (some ⟨b, 0, none⟩)] 23 (0, 0)) from EL.nth 5 rfl) rfl, blk_cell (i := 0) (show X.heap[la]? = some (.cells #[.int .i64 last] 3 (0, 0)) from EL.nth 3 rfl) rfl⟩
      have S1 : X.drew.cell? ⟨A, 0, none⟩ = some (.pointer (some ⟨b, 0, none⟩)) ∧ X.drew.cell? ⟨la, 0, none⟩ = some (.int .i64 last) := S0
      have HDD := hide hD
      clear hE hK hst hRS f1 f2 f3 hl E1 EL E2 ft hN
      dsimp only
      go_upto_region 15 with fail
      go_region_held3 (fun w' : World => w'.cell? ⟨A, 0, none⟩ = some (.pointer (some ⟨b, 0, none⟩)) ∧ w'.cell? ⟨la, 0, none⟩ = some (.int .i64 last)) (first | with_reducible exact S0 | with_reducible exact S1 | with_reducible exact S2 | with_reducible exact S3 | with_reducible exact S4 | with_reducible exact S5 | go_keep) (first
        | (go_at_call 22; refine (unhide KMk _ _ E3).mono ?_; rintro e_ z2 ⟨rfl, sv9, E4⟩; have S3 : z2.cell? ⟨A, 0, none⟩ = some (.pointer (some ⟨b, 0, none⟩)) ∧ z2.cell? ⟨la, 0, none⟩ = some (.int .i64 last) := ⟨blk_cell (i := 0) (show z2.heap[A]? = some (.cells #[.pointer (some ⟨b, 0, none⟩)] 23 (0, 0)) from E4.nth 5 rfl) rfl, blk_cell (i := 0) (show z2.heap[la]? = some (.cells #[.int .i64 last] 3 (0, 0)) from E4.nth 4 rfl) rfl⟩; have E5 := (E4.up 9 rfl).poke (i := 0) (.int .i64 (N : Int)); have E6 := (E5.up 10 rfl).poke (i := 0) (.int .i64 0); have B5 : z2.heap[A + 5]? = some (.cells #[.int .i64 0] 3 (0, 0)) := E4.nth 9 rfl; have y5 := blk_cell (i := 0) B5 rfl; have z5 := blk_froz (i := 0) B5; have B6 : (z2.setCell ⟨A + 5, 0, none⟩ (.int .i64 (N : Int))).heap[A + 6]? = some (.cells #[.int .i64 0] 28 (0, 0)) := E5.nth 10 rfl; have y6 := blk_cell (i := 0) B6 rfl; have z6 := blk_froz (i := 0) B6; have S4 : (z2.setCell ⟨A + 5, 0, none⟩ (.int .i64 (N : Int))).cell? ⟨A, 0, none⟩ = some (.pointer (some ⟨b, 0, none⟩)) ∧ (z2.setCell ⟨A + 5, 0, none⟩ (.int .i64 (N : Int))).cell? ⟨la, 0, none⟩ = some (.int .i64 last) := ⟨blk_cell (i := 0) (show _ = some (Obj.cells #[.pointer (some ⟨b, 0, none⟩)] 23 (0, 0)) from E5.nth 6 rfl) rfl, blk_cell (i := 0) (show _ = some (Obj.cells #[.int .i64 last] 3 (0, 0)) from E5.nth 5 rfl) rfl⟩; have S5 : ((z2.setCell ⟨A + 5, 0, none⟩ (.int .i64 (N : Int))).setCell ⟨A + 6, 0, none⟩ (.int .i64 0)).cell? ⟨A, 0, none⟩ = some (.pointer (some ⟨b, 0, none⟩)) ∧ ((z2.setCell ⟨A + 5, 0, none⟩ (.int .i64 (N : Int))).setCell ⟨A + 6, 0, none⟩ (.int .i64 0)).cell? ⟨la, 0, none⟩ = some (.int .i64 last) := ⟨blk_cell (i := 0) (show _ = some (Obj.cells #[.pointer (some ⟨b, 0, none⟩)] 23 (0, 0)) from E6.nth 7 rfl) rfl, blk_cell (i := 0) (show _ = some (Obj.cells #[.int .i64 last] 3 (0, 0)) from E6.nth 6 rfl) rfl⟩)
        | (go_at_call 52; refine (unhide KAf _).mono ?_; rintro e_ z1 ⟨rfl, b1⟩; have E3 := ((unhide HEL).new (bw_drewA _)).new b1; have S2 : z1.cell? ⟨A, 0, none⟩ = some (.pointer (some ⟨b, 0, none⟩)) ∧ z1.cell? ⟨la, 0, none⟩ = some (.int .i64 last) := ⟨blk_cell (i := 0) (show z1.heap[A]? = some (.cells #[.pointer (some ⟨b, 0, none⟩)] 23 (0, 0)) from E3.nth 5 rfl) rfl, blk_cell (i := 0) (show z1.heap[la]? = some (.cells #[.int .i64 last] 3 (0, 0)) from E3.nth 4 rfl) rfl⟩)
        | fail)
      obtain ⟨V, hV⟩ : ∃ V, V = (z2.setCell ⟨A + 5, 0, none⟩ (.int .i64 (N : Int))).setCell ⟨A + 6, 0, none⟩ (.int .i64 0) := ⟨_, rfl⟩
      rw [← hV] at E6
      have c6 := blk_cell (i := 0) (show V.heap[A + 6]? = some (.cells #[.int .i64 0] 28 (0, 0)) from E6.hd) rfl
      have HE6 := hide E6
      have HV := hide hV
      clear E3 E4 E5 E6 S0 S1 S2 S3 S4 S5 B5 B6 y5 z5 y6 z6 b1 KMk KAf HEL hV
      go_upto_region 16 with fail
      rw [← unhide HV]
      clear HV
      have E7 := unhide HE6
      have HS6 : Hid (∀ Y rs, EF (foot b sv mb) w Y (resC (A + 4) #[lv] 47 :: resC (A + 5) #[.int .i64 (N : Int)] 3 :: rs) → Y.cell? ⟨A + 4, 0, none⟩ = some lv ∧ Y.cell? ⟨A + 5, 0, none⟩ = some (.int .i64 (N : Int))) := fun Y rs hY => ⟨blk_cell (i := 0) (show Y.heap[A + 4]? = some (.cells #[lv] 47 (0, 0)) from hY.hd) rfl, blk_cell (i := 0) (show Y.heap[A + 5]? = some (.cells #[.int .i64 (N : Int)] 3 (0, 0)) from hY.nth 1 rfl) rfl⟩
      have E8 := (E7.up 1 rfl).up 4 rfl
      have E9 := E8.new (bw_drewA V)
      have S0 := unhide HS6 V _ E8
      have S1 := unhide HS6 V.drew _ E9
      have hk9 : V.drew.ownsRow 0 71 2 lv ks.length (kysC ks) := E9.nth 5 rfl
      obtain ⟨ka, kc, hlv⟩ := own_slice hk9
      have KR := unhide KRi _ hk9
      obtain ⟨KN, hKN⟩ : ∃ KN, KN = ks.length := ⟨_, rfl⟩
      rw [← hKN] at hlv
      subst hlv
      have HKR := hide KR
      have HE9 := hide E9
      have HKN := hide hKN
      clear E7 E8 E9 hk9 KR KRi HE6 hKN
      go_upto_region 18 with fail
      go_region_held3 (fun w' : World => w'.cell? ⟨A + 4, 0, none⟩ = some (.slice ka KN kc) ∧ w'.cell? ⟨A + 5, 0, none⟩ = some (.int .i64 (N : Int))) (first | with_reducible exact S0 | with_reducible exact S1 | with_reducible exact S2 | with_reducible exact S3 | with_reducible exact S4 | with_reducible exact S5 | go_keep) (first
        | (go_at_call 53; refine (unhide HKR).mono ?_; rintro e_ z3 ⟨rfl, own3, fr3⟩; have E3 := (((unhide HE9).up 5 rfl).step (r' := resW 71 2 (.slice ka KN kc) ks.length (kysC (srt ks))) ⟨fr3, fun x hx => Or.inl hx⟩ own3); have E4 := (E3.up 2 rfl).up 2 rfl; have S2 := unhide HS6 z3 _ E4; have B4 : z3.heap[A + 4]? = some (.cells #[.slice ka KN kc] 47 (0, 0)) := E4.hd; have y4 := blk_froz (i := 0) B4; have E5 := E4.poke (i := 0) (.slice ka KN kc); have S3 := unhide HS6 _ _ E5; have B5 : (z3.setCell ⟨A + 4, 0, none⟩ (.slice ka KN kc)).heap[A + 5]? = some (.cells #[.int .i64 (N : Int)] 3 (0, 0)) := E5.nth 1 rfl; have y5 := blk_froz (i := 0) B5; have E6 := ((E5.up 1 rfl).poke (i := 0) (.int .i64 (N : Int))).up 1 rfl; have S4 := unhide HS6 _ _ E6; have B6 : ((z3.setCell ⟨A + 4, 0, none⟩ (.slice ka KN kc)).setCell ⟨A + 5, 0, none⟩ (.int .i64 (N : Int))).heap[A + 6]? = some (.cells #[.int .i64 0] 28 (0, 0)) := E6.nth 3 rfl; have y6 := blk_froz (i := 0) B6; have x6 := blk_cell (i := 0) B6 rfl; have E7 := (((E6.up 3 rfl).poke (i := 0) (.int .i64 0)).up 2 rfl).up 2 rfl; have S5 := unhide HS6 _ _ E7)
        | fail)
      obtain ⟨V2, hV2⟩ : ∃ V2, V2 = ((z3.setCell ⟨A + 4, 0, none⟩ (.slice ka KN kc)).setCell ⟨A + 5, 0, none⟩ (.int .i64 (N : Int))).setCell ⟨A + 6, 0, none⟩ (.int .i64 0) := ⟨_, rfl⟩
      rw [← hV2] at E7
      have hKD : V2.heap[D]? = some (.deferred (some [])) := (show V2.heap[D]? = some (.deferred (some [])) ∧ V2.heap[D]? = some (.deferred (some [])) from E7.nth 5 rfl).1
      have E8 : EF (foot b sv mb) w V2 [resC (A + 4) #[.slice ka KN kc] 47, resC (A + 5) #[.int .i64 (N : Int)] 3, resC (A + 6) #[.int .i64 0] 28, resW 71 2 (.slice ka KN kc) ks.length (kysC (srt ks)), resS b sv9 mb (mkL L ⟨4, 1, last, 0⟩)] := E7.sub (.cons_cons _ (.cons_cons _ (.cons_cons _ (.cons_cons _ (.cons_cons _ (List.nil_sublist _))))))
      have HL : Hid (∀ (tmps : Array Value), tmps[8]?.getD undef = .pointer (some ⟨A + 4, 0, none⟩) → tmps[9]?.getD undef = .pointer (some ⟨A + 5, 0, none⟩) → tmps[10]?.getD undef = .pointer (some ⟨A + 6, 0, none⟩) → LeavesInM Fence.wide 2 Tryz.prog Tryz.f18 tmps (abPost b sv mb L w RES) [{ target := .collected D, args := #[] }] .returning V2) := fun tmps h1 h2 h3 => by
        rw [(unhide HRS).1]
        refine above_leave E8 (fun r hr => by simp only [List.mem_cons, List.not_mem_nil, or_false] at hr; rcases hr with rfl | rfl; exact solid_W _ _ _ _ _; exact solid_S _ _ _ _) hKD (hbD D (unhide HDD)) (fun V hV => ?_) h1 h2 h3
        refine ⟨.slice ka KN kc, ?_, sv9, hV.up 1 rfl⟩
        rw [(unhide HRS).2]
      have HV2 := hide hV2
      clear E3 E4 E5 E6 E7 E8 S0 S1 S2 S3 S4 S5 B4 B5 B6 y4 y5 y6 x6 fr3 own3 HE9 HKR hKD hV2 c6
      go_wp2_with fail
      rw [← unhide HV2]
      exact unhide HL _ rfl rfl rfl
    case stop =>
      rintro D k X hD hk ⟨hRN, hE⟩ hK
      refine (wpIn_wide (n := 2)).2 ?_
      have HL : Hid (∀ (tmps : Array Value), tmps[8]?.getD undef = .pointer (some ⟨A + 4, 0, none⟩) → tmps[9]?.getD undef = .pointer (some ⟨A + 5, 0, none⟩) → tmps[10]?.getD undef = .pointer (some ⟨A + 6, 0, none⟩) → LeavesInM Fence.wide 2 Tryz.prog Tryz.f18 tmps (abPost b sv mb L w RES) [{ target := .collected D, args := #[] }] .returning X) := fun tmps h1 h2 h3 => by
        rw [hRN]
        exact above_leave hE (fun r hr => by simp only [List.mem_cons, List.not_mem_nil, or_false] at hr; subst hr; exact solid_S _ _ _ _) hK (hbD D hD) (fun V hV => ⟨rfl, hV⟩) h1 h2 h3
      clear hE hRN
      go_wp2_with fail
      exact unhide HL _ rfl rfl rfl
end Go.Proofs.YtpcpcgagiapinaaGreatDoor.Tn.Pa

/- What path.Above refuses. -/
namespace Go.Proofs.YtpcpcgagiapinaaGreatDoor.Tn.Pa
open Go.RowKit Go.Maps
attribute [local go_sem] Oper.semAt_some
set_option maxRecDepth 100000 in
set_option maxHeartbeats 8000000 in
theorem above_err {b : Nat} {sv : Value} {mb : Nat} {L : List Tm} {w : World} (h : St w b sv mb L) {v : Value} {T : List Nd} (ht : Trd w v T) (hTb : Tab w) (node secret : Int) (hbad : (heldB L T && decide (0 ≤ node) && decide (node < (T.length : Int)) && thr L.length secret) = false) :
    Calls Tryz.prog 18 #[.pointer (some ⟨b, 0, none⟩), .agg #[v], .int .i64 node, .int .i64 secret] w fun e w' => e = .returned (.tuple #[nilV, .int .i64 0, .int .i64 1]) ∧ Below w.heap.size w w' := by
  have hlen := ht.len
  obtain ⟨va, c, rfl⟩ := ht.slice
  obtain ⟨NT, hNT⟩ : ∃ NT, NT = T.length := ⟨_, rfl⟩
  obtain ⟨A, hA⟩ : ∃ A, A = w.heap.size := ⟨_, rfl⟩
  rw [← hNT] at hbad hlen ⊢
  obtain ⟨w0, hw0⟩ : ∃ w0, w0 = ((((((w.alloc (.cells #[.pointer (some ⟨b, 0, none⟩)] 23)).alloc (.cells #[.slice va NT c] 44)).alloc (.cells #[.int .i64 node] 3)).alloc (.cells #[.int .i64 secret] 3)).alloc (.cells #[nilV] 47)).alloc (.cells #[.int .i64 0] 3)).alloc (.cells #[.int .i64 0] 28) := ⟨_, rfl⟩
  have e0 : EF [] w w0 [resC (A + 6) #[.int .i64 0] 28, resC (A + 5) #[.int .i64 0] 3, resC (A + 4) #[nilV] 47, resC (A + 3) #[.int .i64 secret] 3, resC (A + 2) #[.int .i64 node] 3, resC (A + 1) #[.slice va NT c] 44, resC A #[.pointer (some ⟨b, 0, none⟩)] 23] := by
    have := (((((((EF.none w).newC #[.pointer (some ⟨b, 0, none⟩)] 23).newC #[.slice va NT c] 44).newC #[.int .i64 node] 3).newC #[.int .i64 secret] 3).newC #[nilV] 47).newC #[.int .i64 0] 3).newC #[.int .i64 0] 28
    simp only [World.size_alloc] at this
    rw [hw0, hA]
    exact this
  have HEW : Hid (∀ W, Below w0.heap.size w0 W → EF [] w W [resC (A + 6) #[.int .i64 0] 28, resC (A + 5) #[.int .i64 0] 3, resC (A + 4) #[nilV] 47, resC (A + 3) #[.int .i64 secret] 3, resC (A + 2) #[.int .i64 node] 3, resC (A + 1) #[.slice va NT c] 44, resC A #[.pointer (some ⟨b, 0, none⟩)] 23]) := fun W hW => e0.new hW
  have HB0 : Hid (∀ W, Below w0.heap.size w0 W → (W.cell? ⟨A, 0, none⟩ = some (.pointer (some ⟨b, 0, none⟩)) ∧ W.cell? ⟨A + 1, 0, none⟩ = some (.slice va NT c) ∧ W.cell? ⟨A + 2, 0, none⟩ = some (.int .i64 node) ∧ W.cell? ⟨A + 3, 0, none⟩ = some (.int .i64 secret))) := fun W hW => by
    have e1 := e0.new hW
    have r0 : W.heap[A]? = some (.cells #[.pointer (some ⟨b, 0, none⟩)] 23 (0, 0)) := e1.nth 6 rfl
    have r1 : W.heap[A + 1]? = some (.cells #[.slice va NT c] 44 (0, 0)) := e1.nth 5 rfl
    have r2 : W.heap[A + 2]? = some (.cells #[.int .i64 node] 3 (0, 0)) := e1.nth 4 rfl
    have r3 : W.heap[A + 3]? = some (.cells #[.int .i64 secret] 3 (0, 0)) := e1.nth 3 rfl
    exact ⟨blk_cell r0 rfl, blk_cell r1 rfl, blk_cell r2 rfl, blk_cell r3 rfl⟩
  have KM := hide (hmissing_any (h.bw e0.below))
  have KT := hide (htree_any (h.bw e0.below) (.slice va NT c) T (by have := ht.bw e0.below; rw [← hNT] at this; exact this) (hTb.bw e0.below))
  have KH : Hid (∀ W, Below w0.heap.size w0 W → Calls Tryz.prog 34 #[.pointer (some ⟨b, 0, none⟩), .int .i64 secret] W fun e w' => e = .returned (.bool (thr L.length secret)) ∧ Below W.heap.size W w') := fun W hW => hhas_any (h.bw (e0.new hW).below) secret
  have HW := hide (And.intro hw0 hA)
  have HBAD := hide hbad
  have hNb : (NT : Int) ≤ 140737488355328 := by omega
  obtain ⟨c0, c1, c2, c3⟩ := unhide HB0 w0 (Below.refl _ _)
  clear h ht hTb hbad hlen hNT hA hw0 e0
  generalize heldB L T = hb at *
  generalize thr L.length secret = tb at *
  refine (callsIn_wide (n := 2)).1 (callsIn_of_wp_marks Tryz.func18 rfl trivial ?_ rfl)
  simp only [Tryz.ntmps18, List.size_toArray, List.length_cons, List.length_nil, Nat.reduceAdd, Nat.reduceSub, Array.replicate_succ, Array.replicate_zero, List.push_toArray, List.append_toArray, List.nil_append, List.cons_append]
  refine wpIn_wide.2 ?_
  go_upto_region 1 with fail
  rw [← (unhide HW).2, show A + 1 + 1 + 1 + 1 + 1 + 1 = A + 6 from rfl, show A + 1 + 1 + 1 + 1 + 1 = A + 5 from rfl, show A + 1 + 1 + 1 + 1 = A + 4 from rfl, show A + 1 + 1 + 1 = A + 3 from rfl, show A + 1 + 1 = A + 2 from rfl]
  rw [← (unhide HW).1]
  clear HW
  go_wp2_with fail
  refine (unhide KM).mono ?_
  rintro e w0 ⟨rfl, rfl⟩
  clear KM
  go_wp2_with fail
  refine (unhide KT).mono ?_
  rintro e w1 ⟨rfl, b1⟩
  clear KT c0 c1 c2 c3
  obtain ⟨c0, c1, c2, c3⟩ := unhide HB0 w1 b1
  have HB1 := hide b1
  cases hb
  · clear HBAD KH HB0 b1
    have E4 := hide (unhide HEW w1 (unhide HB1))
    have E4 := unhide E4
    have B4 : w1.heap[A + 4]? = some (.cells #[nilV] 47 (0, 0)) := E4.nth 2 rfl
    have y4 := blk_cell (i := 0) B4 rfl
    have z4 := blk_froz (i := 0) B4
    have E5 := (E4.up 2 rfl).poke (i := 0) nilV
    have B5' := show (w1.setCell ⟨A + 4, 0, none⟩ nilV).heap[A + 5]? = some (.cells #[.int .i64 0] 3 (0, 0)) from E5.nth 2 rfl
    have y5 := blk_cell (i := 0) B5' rfl
    have z5 := blk_froz (i := 0) B5'
    have E6 := (E5.up 2 rfl).poke (i := 0) (.int .i64 0)
    have B6' := show ((w1.setCell ⟨A + 4, 0, none⟩ nilV).setCell ⟨A + 5, 0, none⟩ (.int .i64 0)).heap[A + 6]? = some (.cells #[.int .i64 0] 28 (0, 0)) from E6.nth 2 rfl
    have y6 := blk_cell (i := 0) B6' rfl
    have z6 := blk_froz (i := 0) B6'
    have E7 := (E6.up 2 rfl).poke (i := 0) (.int .i64 1)
    obtain ⟨V, hV⟩ : ∃ V, V = ((w1.setCell ⟨A + 4, 0, none⟩ nilV).setCell ⟨A + 5, 0, none⟩ (.int .i64 0)).setCell ⟨A + 6, 0, none⟩ (.int .i64 1) := ⟨_, rfl⟩
    rw [← hV] at E7
    have r4 := blk_cell (i := 0) (show V.heap[A + 4]? = some (.cells #[nilV] 47 (0, 0)) from E7.nth 2 rfl) rfl
    have r5 := blk_cell (i := 0) (show V.heap[A + 5]? = some (.cells #[.int .i64 0] 3 (0, 0)) from E7.nth 1 rfl) rfl
    have r6 := blk_cell (i := 0) (show V.heap[A + 6]? = some (.cells #[.int .i64 1] 28 (0, 0)) from E7.nth 0 rfl) rfl
    have HE : Hid (Below w.heap.size w V) := E7.below
    have HV := hide hV
    clear E4 E5 E6 E7 B4 B5' B6' hV HEW
    go_wp2_with fail
    rw [← unhide HV]
    exact ⟨.tuple #[nilV, .int .i64 0, .int .i64 1], by simp [results, Tryz.results18, go_sem, r4, r5, r6], rfl, unhide HE⟩
  by_cases n0 : 0 ≤ node
  case neg =>
    have g1 : decide (node < 0) = true := decide_eq_true (by omega)
    clear HBAD KH HB0 b1
    have E4 := hide (unhide HEW w1 (unhide HB1))
    have E4 := unhide E4
    have B4 : w1.heap[A + 4]? = some (.cells #[nilV] 47 (0, 0)) := E4.nth 2 rfl
    have y4 := blk_cell (i := 0) B4 rfl
    have z4 := blk_froz (i := 0) B4
    have E5 := (E4.up 2 rfl).poke (i := 0) nilV
    have B5' := show (w1.setCell ⟨A + 4, 0, none⟩ nilV).heap[A + 5]? = some (.cells #[.int .i64 0] 3 (0, 0)) from E5.nth 2 rfl
    have y5 := blk_cell (i := 0) B5' rfl
    have z5 := blk_froz (i := 0) B5'
    have E6 := (E5.up 2 rfl).poke (i := 0) (.int .i64 0)
    have B6' := show ((w1.setCell ⟨A + 4, 0, none⟩ nilV).setCell ⟨A + 5, 0, none⟩ (.int .i64 0)).heap[A + 6]? = some (.cells #[.int .i64 0] 28 (0, 0)) from E6.nth 2 rfl
    have y6 := blk_cell (i := 0) B6' rfl
    have z6 := blk_froz (i := 0) B6'
    have E7 := (E6.up 2 rfl).poke (i := 0) (.int .i64 1)
    obtain ⟨V, hV⟩ : ∃ V, V = ((w1.setCell ⟨A + 4, 0, none⟩ nilV).setCell ⟨A + 5, 0, none⟩ (.int .i64 0)).setCell ⟨A + 6, 0, none⟩ (.int .i64 1) := ⟨_, rfl⟩
    rw [← hV] at E7
    have r4 := blk_cell (i := 0) (show V.heap[A + 4]? = some (.cells #[nilV] 47 (0, 0)) from E7.nth 2 rfl) rfl
    have r5 := blk_cell (i := 0) (show V.heap[A + 5]? = some (.cells #[.int .i64 0] 3 (0, 0)) from E7.nth 1 rfl) rfl
    have r6 := blk_cell (i := 0) (show V.heap[A + 6]? = some (.cells #[.int .i64 1] 28 (0, 0)) from E7.nth 0 rfl) rfl
    have HE : Hid (Below w.heap.size w V) := E7.below
    have HV := hide hV
    clear E4 E5 E6 E7 B4 B5' B6' hV HEW
    go_wp2_with fail
    rw [← unhide HV]
    exact ⟨.tuple #[nilV, .int .i64 0, .int .i64 1], by simp [results, Tryz.results18, go_sem, r4, r5, r6], rfl, unhide HE⟩
  have g0 : decide (node < 0) = false := decide_eq_false (by omega)
  by_cases n1 : node < (NT : Int)
  case neg =>
    have g1 : decide ((NT : Int) ≤ node) = true := decide_eq_true (by omega)
    clear HBAD KH HB0 b1
    have E4 := hide (unhide HEW w1 (unhide HB1))
    have E4 := unhide E4
    have B4 : w1.heap[A + 4]? = some (.cells #[nilV] 47 (0, 0)) := E4.nth 2 rfl
    have y4 := blk_cell (i := 0) B4 rfl
    have z4 := blk_froz (i := 0) B4
    have E5 := (E4.up 2 rfl).poke (i := 0) nilV
    have B5' := show (w1.setCell ⟨A + 4, 0, none⟩ nilV).heap[A + 5]? = some (.cells #[.int .i64 0] 3 (0, 0)) from E5.nth 2 rfl
    have y5 := blk_cell (i := 0) B5' rfl
    have z5 := blk_froz (i := 0) B5'
    have E6 := (E5.up 2 rfl).poke (i := 0) (.int .i64 0)
    have B6' := show ((w1.setCell ⟨A + 4, 0, none⟩ nilV).setCell ⟨A + 5, 0, none⟩ (.int .i64 0)).heap[A + 6]? = some (.cells #[.int .i64 0] 28 (0, 0)) from E6.nth 2 rfl
    have y6 := blk_cell (i := 0) B6' rfl
    have z6 := blk_froz (i := 0) B6'
    have E7 := (E6.up 2 rfl).poke (i := 0) (.int .i64 1)
    obtain ⟨V, hV⟩ : ∃ V, V = ((w1.setCell ⟨A + 4, 0, none⟩ nilV).setCell ⟨A + 5, 0, none⟩ (.int .i64 0)).setCell ⟨A + 6, 0, none⟩ (.int .i64 1) := ⟨_, rfl⟩
    rw [← hV] at E7
    have r4 := blk_cell (i := 0) (show V.heap[A + 4]? = some (.cells #[nilV] 47 (0, 0)) from E7.nth 2 rfl) rfl
    have r5 := blk_cell (i := 0) (show V.heap[A + 5]? = some (.cells #[.int .i64 0] 3 (0, 0)) from E7.nth 1 rfl) rfl
    have r6 := blk_cell (i := 0) (show V.heap[A + 6]? = some (.cells #[.int .i64 1] 28 (0, 0)) from E7.nth 0 rfl) rfl
    have HE : Hid (Below w.heap.size w V) := E7.below
    have HV := hide hV
    clear E4 E5 E6 E7 B4 B5' B6' hV HEW
    go_wp2_with fail
    rw [← unhide HV]
    exact ⟨.tuple #[nilV, .int .i64 0, .int .i64 1], by simp [results, Tryz.results18, go_sem, r4, r5, r6], rfl, unhide HE⟩
  have g1 : decide ((NT : Int) ≤ node) = false := decide_eq_false (by omega)
  obtain rfl : tb = false := by
    have := unhide HBAD
    rw [decide_eq_true n0, decide_eq_true n1] at this
    simpa using this
  have K2 := hide (unhide KH w1 b1)
  clear HBAD KH HB0 b1
  go_wp2_with fail
  refine (unhide K2).mono ?_
  rintro e w2 ⟨rfl, b2⟩
  have HB2 := hide (bw_tr (unhide HB1) b2)
  clear K2 b2 c0 c1 c2 c3 HB1
  have E4 := hide (unhide HEW w2 (unhide HB2))
  have E4 := unhide E4
  have B4 : w2.heap[A + 4]? = some (.cells #[nilV] 47 (0, 0)) := E4.nth 2 rfl
  have y4 := blk_cell (i := 0) B4 rfl
  have z4 := blk_froz (i := 0) B4
  have E5 := (E4.up 2 rfl).poke (i := 0) nilV
  have B5' := show (w2.setCell ⟨A + 4, 0, none⟩ nilV).heap[A + 5]? = some (.cells #[.int .i64 0] 3 (0, 0)) from E5.nth 2 rfl
  have y5 := blk_cell (i := 0) B5' rfl
  have z5 := blk_froz (i := 0) B5'
  have E6 := (E5.up 2 rfl).poke (i := 0) (.int .i64 0)
  have B6' := show ((w2.setCell ⟨A + 4, 0, none⟩ nilV).setCell ⟨A + 5, 0, none⟩ (.int .i64 0)).heap[A + 6]? = some (.cells #[.int .i64 0] 28 (0, 0)) from E6.nth 2 rfl
  have y6 := blk_cell (i := 0) B6' rfl
  have z6 := blk_froz (i := 0) B6'
  have E7 := (E6.up 2 rfl).poke (i := 0) (.int .i64 1)
  obtain ⟨V, hV⟩ : ∃ V, V = ((w2.setCell ⟨A + 4, 0, none⟩ nilV).setCell ⟨A + 5, 0, none⟩ (.int .i64 0)).setCell ⟨A + 6, 0, none⟩ (.int .i64 1) := ⟨_, rfl⟩
  rw [← hV] at E7
  have r4 := blk_cell (i := 0) (show V.heap[A + 4]? = some (.cells #[nilV] 47 (0, 0)) from E7.nth 2 rfl) rfl
  have r5 := blk_cell (i := 0) (show V.heap[A + 5]? = some (.cells #[.int .i64 0] 3 (0, 0)) from E7.nth 1 rfl) rfl
  have r6 := blk_cell (i := 0) (show V.heap[A + 6]? = some (.cells #[.int .i64 1] 28 (0, 0)) from E7.nth 0 rfl) rfl
  have HE : Hid (Below w.heap.size w V) := E7.below
  have HV := hide hV
  clear E4 E5 E6 E7 B4 B5' B6' hV HEW
  go_wp2_with fail
  rw [← unhide HV]
  exact ⟨.tuple #[nilV, .int .i64 0, .int .i64 1], by simp [results, Tryz.results18, go_sem, r4, r5, r6], rfl, unhide HE⟩
end Go.Proofs.YtpcpcgagiapinaaGreatDoor.Tn.Pa
