/- ofDevices, whatever comes of it; Settle. mkRoH.py writes it (out of RoH.part). -/
import Derived.Test.YtgmlkofogeoocaaGreatDoorRoG
import Derived.Test.YtgmlkofogeoocaaGreatDoorRoR
namespace Go.Proofs.YtgmlkofogeoocaaGreatDoor
open Go.RowKit Go.Maps
attribute [local go_sem] Oper.semAt_some
set_option maxRecDepth 100000 in
set_option maxHeartbeats 2000000 in
theorem ofdev_no {w : World} {v1 v2 : Value} {T1 T2 : List Nd} (h1 : Trd w v1 T1) (h2 : Trd w v2 T2) (hT : Tab w) (hn : mayB T1 = false ∨ mayB T2 = false) :
    Calls Tryz.prog 27 #[.agg #[v1], .agg #[v2]] w fun e w' => e = .returned (.bool false) ∧ Below w.heap.size w w' := by
  obtain ⟨a1, c1, hv1⟩ := h1.slice
  obtain ⟨a2, c2, hv2⟩ := h2.slice
  obtain ⟨N1, hN1⟩ : ∃ N, N = T1.length := ⟨_, rfl⟩
  obtain ⟨N2, hN2⟩ : ∃ N, N = T2.length := ⟨_, rfl⟩
  rw [← hN1] at hv1
  rw [← hN2] at hv2
  subst hv1 hv2
  obtain ⟨A, hA⟩ : ∃ A, A = w.heap.size := ⟨_, rfl⟩
  obtain ⟨w0, hw0⟩ : ∃ w0, w0 = ((w.alloc (.cells #[.slice a1 N1 c1] 30)).alloc (.cells #[.slice a2 N2 c2] 30)).alloc (.cells #[.bool false] 4) := ⟨_, rfl⟩
  have e0 : Env w w0 [rsC (A + 2) #[.bool false] 4, rsC (A + 1) #[.slice a2 N2 c2] 30, rsC A #[.slice a1 N1 c1] 30] := by
    have := (((Env.nil w).newC #[.slice a1 N1 c1] 30).newC #[.slice a2 N2 c2] 30).newC #[.bool false] 4
    simp only [World.size_alloc] at this
    rw [hw0, hA]
    exact this
  have HW := hide (And.intro hw0 hA)
  have x0 := blk_c (i := 0) (show w0.heap[A]? = some (.cells #[.slice a1 N1 c1] 30 (0, 0)) from e0.nthR 2 rfl) rfl
  have HE0 := hide e0
  have KC1 := check_any (h1.bw e0.bel) (hT.bw e0.bel)
  have HK2 : Hid (∀ W, Below w.heap.size w W → Calls Tryz.prog 41 #[.agg #[.slice a2 N2 c2]] W fun e w' => e = .returned (.int .i64 (if mayB T2 = true then 0 else 1)) ∧ Below W.heap.size W w') := fun W hW => check_any (h2.bw hW) (hT.bw hW)
  cases q1 : mayB T1
  · rw [q1] at KC1
    have HK1 : Hid (Calls Tryz.prog 41 #[.agg #[.slice a1 N1 c1]] w0 fun e w' => e = .returned (.int .i64 1) ∧ Below w0.heap.size w0 w') := KC1
    clear h1 h2 hT hN1 hN2 hA hw0 e0 KC1 HK2 hn q1
    refine (callsIn_wide (n := 2)).1 (callsIn_of_wp_marks Tryz.func27 rfl trivial ?_ rfl)
    simp only [Tryz.ntmps27, List.size_toArray, List.length_cons, List.length_nil, Nat.reduceAdd, Nat.reduceSub, Array.replicate_succ, Array.replicate_zero, List.push_toArray, List.append_toArray, List.nil_append, List.cons_append]
    refine wpIn_wide.2 ?_
    go_upto_region 1 with fail
    rw [← (unhide HW).2, show A + 1 + 1 = A + 2 from rfl]
    rw [← (unhide HW).1]
    clear HW
    go_wp2_with fail
    refine (unhide HK1).mono ?_
    rintro e w1 ⟨rfl, b1⟩
    have e1 := (unhide HE0).new b1
    have b2 : w1.heap[A + 2]? = some (.cells #[.bool false] 4 (0, 0)) := e1.hd
    have k2 := blk_c (i := 0) b2 rfl
    have k3 := froz_b' (i := 0) b2
    have e2 := e1.pokeC (i := 0) (.bool false)
    obtain ⟨V, hV⟩ : ∃ V, V = w1.setCell ⟨A + 2, 0, none⟩ (.bool false) := ⟨_, rfl⟩
    rw [← hV] at e2
    have k4 := blk_c (i := 0) (show V.heap[A + 2]? = some (.cells #[.bool false] 4 (0, 0)) from e2.hd) rfl
    have HE := hide e2.bel
    have HV := hide hV
    clear HK1 HE0 b1 e1 x0 b2 e2 hV
    go_wp2_with fail
    rw [← unhide HV]
    exact ⟨.bool false, by simp [results, Tryz.results27, go_sem, k4], rfl, unhide HE⟩
  · have q2 : mayB T2 = false := by rcases hn with q | q; (rw [q1] at q; cases q); exact q
    rw [q1] at KC1
    rw [q2] at HK2
    have HK1 : Hid (Calls Tryz.prog 41 #[.agg #[.slice a1 N1 c1]] w0 fun e w' => e = .returned (.int .i64 0) ∧ Below w0.heap.size w0 w') := KC1
    have HK3 : Hid (∀ W, Below w.heap.size w W → Calls Tryz.prog 41 #[.agg #[.slice a2 N2 c2]] W fun e w' => e = .returned (.int .i64 1) ∧ Below W.heap.size W w') := HK2
    clear h1 h2 hT hN1 hN2 hA hw0 e0 KC1 HK2 hn q1 q2
    refine (callsIn_wide (n := 2)).1 (callsIn_of_wp_marks Tryz.func27 rfl trivial ?_ rfl)
    simp only [Tryz.ntmps27, List.size_toArray, List.length_cons, List.length_nil, Nat.reduceAdd, Nat.reduceSub, Array.replicate_succ, Array.replicate_zero, List.push_toArray, List.append_toArray, List.nil_append, List.cons_append]
    refine wpIn_wide.2 ?_
    go_upto_region 1 with fail
    rw [← (unhide HW).2, show A + 1 + 1 = A + 2 from rfl]
    rw [← (unhide HW).1]
    clear HW
    go_wp2_with fail
    refine (unhide HK1).mono ?_
    rintro e w1 ⟨rfl, b1⟩
    have e1 := (unhide HE0).new b1
    have y1 := blk_c (i := 0) (show w1.heap[A + 1]? = some (.cells #[.slice a2 N2 c2] 30 (0, 0)) from e1.nthR 1 rfl) rfl
    have HK4 := hide (unhide HK3 w1 e1.bel)
    have HE1 := hide e1
    clear HK1 HE0 b1 e1 x0 HK3
    go_wp2_with fail
    refine (unhide HK4).mono ?_
    rintro e w2 ⟨rfl, b2'⟩
    have e1 := (unhide HE1).new b2'
    have b2 : w2.heap[A + 2]? = some (.cells #[.bool false] 4 (0, 0)) := e1.hd
    have k2 := blk_c (i := 0) b2 rfl
    have k3 := froz_b' (i := 0) b2
    have e2 := e1.pokeC (i := 0) (.bool false)
    obtain ⟨V, hV⟩ : ∃ V, V = w2.setCell ⟨A + 2, 0, none⟩ (.bool false) := ⟨_, rfl⟩
    rw [← hV] at e2
    have k4 := blk_c (i := 0) (show V.heap[A + 2]? = some (.cells #[.bool false] 4 (0, 0)) from e2.hd) rfl
    have HE := hide e2.bel
    have HV := hide hV
    clear HK4 HE1 b2' e1 y1 b2 e2 hV
    go_wp2_with fail
    rw [← unhide HV]
    exact ⟨.bool false, by simp [results, Tryz.results27, go_sem, k4], rfl, unhide HE⟩
theorem ofdev_any {w : World} {v1 v2 : Value} {T1 T2 : List Nd} (h1 : Trd w v1 T1) (h2 : Trd w v2 T2) (hT : Tab w) :
    Calls Tryz.prog 27 #[.agg #[v1], .agg #[v2]] w fun e w' => e = .returned (.bool (dvB T1 T2)) ∧ Below w.heap.size w w' := by
  unfold dvB
  cases q1 : mayB T1
  · exact ofdev_no h1 h2 hT (Or.inl q1)
  · cases q2 : mayB T2
    · exact ofdev_no h1 h2 hT (Or.inr q2)
    · exact ofdev_ok h1 h2 hT q1 q2
def stls (l : List Bx) (m : Ml) (T2 : List Nd) (ds : List Int) : List Bx := ds.foldl (fun a d => stl a d m (decide (0 ≤ fnd T2 d))) l
theorem stls_snoc (l : List Bx) (m : Ml) (T2 : List Nd) (ds : List Int) (d : Int) : stls l m T2 (ds ++ [d]) = stl (stls l m T2 ds) d m (decide (0 ≤ fnd T2 d)) := by unfold stls; rw [List.foldl_append]; rfl
theorem stls_may {m : Ml} {T2 : List Nd} : ∀ (ds : List Int) (l : List Bx), mayP l → (∀ d ∈ ds, devOk d = true) → mayP (stls l m T2 ds)
  | [], l, h, _ => h
  | d :: ds, l, h, hd => by
    have hq := hd d (by simp)
    unfold devOk at hq
    exact stls_may ds (stl l d m (decide (0 ≤ fnd T2 d))) (mayP_stl h (by simpa using hq)) (fun x hx => hd x (List.mem_cons_of_mem _ hx))
theorem stls_sz {m : Ml} {T2 : List Nd} (hm : SmM m) : ∀ (ds : List Int) (l : List Bx) (n : Nat), SzX n l → SzX (n + ds.length) (stls l m T2 ds)
  | [], l, n, h => h
  | d :: ds, l, n, h => by
    have := stls_sz (T2 := T2) hm ds (stl l d m (decide (0 ≤ fnd T2 d))) (n + 1) (h.st d hm _)
    rw [List.length_cons, show n + (ds.length + 1) = n + 1 + ds.length by omega]
    exact this
theorem take_snocR {l : List Int} {k : Nat} {d : Int} (h : l[k]? = some d) : l.take (k + 1) = l.take k ++ [d] := by rw [List.take_add_one, h]; rfl
theorem settle_leave {w X : World} {D : Nat} {xv : Value} {L : List Bx} {xs : List (Value × List Mx)} {rs : List Res} (hE : Env w X (rsX xv L xs :: rs)) (hs : ∀ r ∈ rs, SolidR r) (hK : X.heap[D]? = some (.deferred (some []))) (hD : w.heap.size ≤ D) {tmps : Array Value} (h8 : tmps[8]?.getD undef = xv) (h9 : tmps[9]?.getD undef = .int .i64 0) :
    LeavesInM Fence.wide 2 Tryz.prog Tryz.f15 tmps (fun e W' => ∃ v' er, e = .returned (.tuple #[v', .int .i64 er]) ∧ Below w.heap.size w W' ∧ (er = 0 ∧ ∃ xs', OwL kBx 0 W' v' L xs' ∧ ∀ z ∈ zK kBx v' xs', w.heap.size ≤ z)) [{ target := .collected D, args := #[] }] .returning X := by
  have hE2 : Env w (X.putObj D (.deferred none)) (rsX xv L xs :: rs) := hE.putL (fun r hr => by
    rcases List.mem_cons.1 hr with rfl | hr
    · exact solidR_X _ _ _
    · exact hs r hr) hK rfl hD
  refine ⟨by simp, .inl ⟨_, _, rfl, run_takeDeferred hK, ?_⟩⟩
  generalize X.putObj D (.deferred none) = Y at *
  refine ⟨.tuple #[xv, .int .i64 0], ?_, ⟨xv, 0, rfl, hE2.bel, rfl, xs, hE2.hd, hE2.low (rsX xv L xs) (by simp)⟩⟩
  simp [results, Tryz.results15, go_sem, h8, h9]
set_option maxRecDepth 100000 in
set_option maxHeartbeats 2000000 in
theorem settle_ok {w : World} {v v1 v2 : Value} {l : List Bx} {xs : List (Value × List Mx)} {T1 T2 : List Nd} {m : Ml} {x : Mx} {n0 : Nat} (h : RdL kBx w v l xs) (hsz : SzX n0 l) (hn0 : n0 ≤ 900000) (h1 : Trd w v1 T1) (h2 : Trd w v2 T2) (hT : Tab w) (hm : MlR w m x) (hsm : SmM m) (hmy : mayP l) (hdv : dvB T1 T2 = true) :
    Calls Tryz.prog 15 #[v, .agg #[v1], .agg #[v2], .agg (mlC m x).toArray] w fun e W' => ∃ v' er, e = .returned (.tuple #[v', .int .i64 er]) ∧ Below w.heap.size w W' ∧ (er = 0 ∧ ∃ xs', OwL kBx 0 W' v' (stls l m T2 (uni (mems T1) (mems T2))) xs' ∧ ∀ z ∈ zK kBx v' xs', w.heap.size ≤ z) := by
  have hdv' := hdv
  unfold dvB at hdv'
  simp only [Bool.and_eq_true] at hdv'
  obtain ⟨m1, m2, hall⟩ := hdv'
  obtain ⟨a1, c1, hv1⟩ := h1.slice
  obtain ⟨a2, c2, hv2⟩ := h2.slice
  obtain ⟨av, cv, hvv⟩ := rdl_slice h
  obtain ⟨N, hN⟩ : ∃ N, N = l.length := ⟨_, rfl⟩
  obtain ⟨N1, hN1⟩ : ∃ N, N = T1.length := ⟨_, rfl⟩
  obtain ⟨N2, hN2⟩ : ∃ N, N = T2.length := ⟨_, rfl⟩
  rw [← hN] at hvv
  rw [← hN1] at hv1
  rw [← hN2] at hv2
  subst hv1 hv2 hvv
  obtain ⟨CS, hCS⟩ : ∃ z, z = mlC m x := ⟨_, rfl⟩
  obtain ⟨A, hA⟩ : ∃ A, A = w.heap.size := ⟨_, rfl⟩
  obtain ⟨w0, hw0⟩ : ∃ w0, w0 = ((w.alloc (.cells #[.slice a1 N1 c1] 30)).alloc (.cells #[.slice a2 N2 c2] 30)).alloc (.cells CS.toArray 50) := ⟨_, rfl⟩
  have e0 : Env w w0 [rsC (A + 2) CS.toArray 50, rsC (A + 1) #[.slice a2 N2 c2] 30, rsC A #[.slice a1 N1 c1] 30] := by
    have := (((Env.nil w).newC #[.slice a1 N1 c1] 30).newC #[.slice a2 N2 c2] 30).newC CS.toArray 50
    simp only [World.size_alloc] at this
    rw [hw0, hA]
    exact this
  have hsx := hsz.sm (by omega)
  have HKC : Hid (Calls Tryz.prog 16 #[.slice av N cv] w0 fun e w' => e = .returned (.int .i64 0) ∧ Below w0.heap.size w0 w') := by
    have := poCheck_any (h.bw e0.bel) hsx.n
    rw [mayX_iff.2 hmy] at this
    exact this
  have HKD : Hid (∀ W, Below w.heap.size w W → Calls Tryz.prog 27 #[.agg #[.slice a1 N1 c1], .agg #[.slice a2 N2 c2]] W fun e w' => e = .returned (.bool true) ∧ Below W.heap.size W w') := fun W hW => by
    have := ofdev_any (h1.bw hW) (h2.bw hW) (hT.bw hW)
    rw [hdv] at this
    exact this
  have HKL : Hid (∀ W, Below w.heap.size w W → Calls Tryz.prog 28 #[.slice av N cv, .func (.func 29) #[] #[]] W fun e w' => ∃ xa xc xs', e = .returned (.slice xa N xc) ∧ OwL kBx W.heap.size w' (.slice xa N xc) l xs' ∧ Below W.heap.size W w') := fun W hW => by
    refine Calls.mono (listBox_any (h.bw hW) hsx.n) ?_
    rintro e w' ⟨v', xs', rfl, ho, hb⟩
    obtain ⟨xa, xc, hxe⟩ := own_slice ho.row
    rw [← hN] at hxe
    subst hxe
    exact ⟨xa, xc, xs', rfl, ho, hb⟩
  obtain ⟨OV, hOV⟩ : ∃ OV, OV = uni (mems T1) (mems T2) := ⟨_, rfl⟩
  rw [← hOV] at hall ⊢
  have hOL : OV.length ≤ 16 := by
    have q0 := uni_len (mems T1) (mems T2)
    have q1 := mems_lenR m1
    have q2 := mems_lenR m2
    rw [hOV]
    omega
  have HI : Hid ((Tryz.prog.info? 50).map (·.size) = some CS.length) := by rw [hCS]; exact infoMlS
  have HW := hide (And.intro hw0 hA)
  have x0 := blk_c (i := 0) (show w0.heap[A]? = some (.cells #[.slice a1 N1 c1] 30 (0, 0)) from e0.nthR 2 rfl) rfl
  have x1 := blk_c (i := 0) (show w0.heap[A + 1]? = some (.cells #[.slice a2 N2 c2] 30 (0, 0)) from e0.nthR 1 rfl) rfl
  have HE0 := hide e0
  have HSQ : Hid (∀ (W : World) (tb : Nat), Below w.heap.size w W → W.heap[tb]? = some (.cells #[.slice a1 N1 c1] 30 (0, 0)) → W.heap[tb + 1]? = some (.cells #[.slice a2 N2 c2] 30 (0, 0)) → SeqR Tryz.prog 45 #[.pointer (some ⟨tb, 0, none⟩), .pointer (some ⟨tb + 1, 0, none⟩)] OV.length (encR OV) (fun _ => True) W) := fun W tb hW k1 k2 => by
    rw [hOV]
    exact seqM_any tb (tb + 1) (h1.bw hW) (h2.bw hW) (hT.bw hW) m1 m2 k1 k2
  have HFd : Hid (∀ (W : World) (d : Int), Below w.heap.size w W → Calls Tryz.prog 32 #[.agg #[.slice a2 N2 c2], .int .i64 d] W fun e w' => e = .returned (.int .i64 (fnd T2 d)) ∧ Below W.heap.size W w') := fun W d hW => by
    have := findX_any (h2.bw hW) (hT.bw hW) d
    rw [if_pos m2] at this
    exact this
  have HSt : Hid (∀ (W : World) (k : Nat) (d : Int) (xv : Value) (ys : List (Value × List Mx)), Below w.heap.size w W → k < OV.length → OV[k]? = some d → OwL kBx 0 W xv (stls l m T2 (OV.take k)) ys → Calls Tryz.prog 31 #[xv, .int .i64 d, .agg CS.toArray, .bool (decide (0 ≤ fnd T2 d))] W fun e w' => ∃ xa xn xc, e = .returned (.slice xa xn xc) ∧ ((.slice xa xn xc = xv ∧ stls l m T2 (OV.take (k + 1)) = stls l m T2 (OV.take k)) ∨ ∃ xs', OwL kBx W.heap.size w' (.slice xa xn xc) (stls l m T2 (OV.take (k + 1))) xs') ∧ Below W.heap.size W w') := fun W k d xv ys hW hk hd ho => by
    have hz := stls_sz (T2 := T2) hsm (OV.take k) l n0 hsz
    have hz2 : SzX (n0 + 16) (stls l m T2 (OV.take k)) := hz.mono (by rw [List.length_take]; omega)
    have hmk := stls_may (m := m) (T2 := T2) (OV.take k) l hmy (fun q hq => List.all_eq_true.1 hall q (List.mem_of_mem_take hq))
    have hdo : 0 ≤ d ∧ d < 512 := by have := List.all_eq_true.1 hall d (List.mem_of_getElem? hd); unfold devOk at this; simpa using this
    rw [hCS]
    refine Calls.mono (settled_any (ho.bxs (hz2.sm (by omega)).b) hz2 (by omega) hmk d hdo (hm.bw hW) hsm _) ?_
    rintro e w' ⟨v', rfl, hor, hb⟩
    rw [← stls_snoc, ← take_snocR hd] at hor
    have hsl : ∃ xa xn xc, v' = .slice xa xn xc := by
      rcases hor with ⟨q, _⟩ | ⟨xs', q⟩
      · obtain ⟨p1, p2, p3⟩ := own_slice ho.row
        exact ⟨p1, _, p2, by rw [q]; exact p3⟩
      · obtain ⟨p1, p2, p3⟩ := own_slice q.row
        exact ⟨p1, _, p2, p3⟩
    obtain ⟨xa, xn, xc, rfl⟩ := hsl
    exact ⟨xa, xn, xc, rfl, hor, hb⟩
  rw [← hCS]
  clear h hsz hn0 h1 h2 hT hm hsm hmy hdv hall m1 m2 hN hN1 hN2 hCS hA hw0 e0 hsx hOV
  refine (callsIn_wide (n := 2)).1 (callsIn_of_wp_marks Tryz.func15 rfl trivial ?_ rfl)
  simp only [Tryz.ntmps15, List.size_toArray, List.length_cons, List.length_nil, Nat.reduceAdd, Nat.reduceSub, Array.replicate_succ, Array.replicate_zero, List.push_toArray, List.append_toArray, List.nil_append, List.cons_append]
  refine wpIn_wide.2 ?_
  go_upto_region 1 with fail
  rw [← (unhide HW).2, show A + 1 + 1 = A + 2 from rfl]
  rw [← (unhide HW).1]
  clear HW
  go_wp2_with fail
  refine (unhide HKC).mono ?_
  rintro e w1 ⟨rfl, b1⟩
  have e1 := (unhide HE0).new b1
  have y0 := blk_c (i := 0) (show w1.heap[A]? = some (.cells #[.slice a1 N1 c1] 30 (0, 0)) from e1.nthR 2 rfl) rfl
  have y1 := blk_c (i := 0) (show w1.heap[A + 1]? = some (.cells #[.slice a2 N2 c2] 30 (0, 0)) from e1.nthR 1 rfl) rfl
  have HKD1 := hide (unhide HKD w1 e1.bel)
  have HE1 := hide e1
  clear HKC HKD HE0 b1 e1 x0 x1
  go_wp2_with fail
  refine (unhide HKD1).mono ?_
  rintro e w2 ⟨rfl, b2⟩
  have e2 := (unhide HE1).new b2
  have HKL2 := hide (unhide HKL w2 e2.bel)
  have HE2 := hide e2
  clear HKD1 HKL HE1 b2 e2 y0 y1
  go_wp2_with fail
  refine (unhide HKL2).mono ?_
  rintro e w3 ⟨xa, xc, xs3, rfl, ho3, b3⟩
  have e3 := ((unhide HE2).add (rsX (.slice xa N xc) l xs3) b3 (ho3.mono (Nat.zero_le _)) (fun z hz => (ho3.lt z hz).1)).newC #[.slice xa N xc] 27
  obtain ⟨nb, hnb⟩ : ∃ nb, nb = w3.heap.size := ⟨_, rfl⟩
  obtain ⟨w4, hw4⟩ : ∃ w4, w4 = w3.alloc (.cells #[.slice xa N xc] 27) := ⟨_, rfl⟩
  rw [← hnb, ← hw4] at e3
  have z0 := blk_c (i := 0) (show w4.heap[A]? = some (.cells #[.slice a1 N1 c1] 30 (0, 0)) from e3.nthR 4 rfl) rfl
  have z1 := blk_c (i := 0) (show w4.heap[A + 1]? = some (.cells #[.slice a2 N2 c2] 30 (0, 0)) from e3.nthR 3 rfl) rfl
  have HE3 := hide e3
  have HW4 := hide (And.intro hw4 hnb)
  clear HKL2 HE2 b3 e3 ho3 hw4 hnb
  go_upto_region 4 with fail
  rw [← (unhide HW4).1, ← (unhide HW4).2]
  clear HW4
  go_wp2_with fail
  refine (roMembers_any _ _ _).mono ?_
  rintro e w5 ⟨rfl, hw5⟩
  have e5 := ((unhide HE3).newC #[.slice a1 N1 c1] 30).newC #[.slice a2 N2 c2] 30
  simp only [World.size_alloc] at e5
  rw [← hw5] at e5
  obtain ⟨tb, htb⟩ : ∃ tb, tb = w4.heap.size := ⟨_, rfl⟩
  rw [← htb] at e5
  have hA1 : w.heap.size ≤ w4.heap.size := (unhide HE3).bel.size
  have hs5 : w5.heap.size = tb + 2 := by rw [hw5, htb]; simp
  have HSQ5 := hide (unhide HSQ w5 tb e5.bel (e5.nthR 1 rfl) (e5.nthR 0 rfl))
  obtain ⟨RS, hRS⟩ : ∃ RS : List Res, RS = [rsC (A + 2) CS.toArray 50, rsC (A + 1) #[.slice a2 N2 c2] 30, rsC A #[.slice a1 N1 c1] 30, rsC tb #[.slice a1 N1 c1] 30, rsC (tb + 1) #[.slice a2 N2 c2] 30] := ⟨_, rfl⟩
  have hsolR : ∀ r ∈ RS, SolidR r := fun r hr => by
    rw [hRS] at hr
    simp only [List.mem_cons, List.not_mem_nil, or_false] at hr
    rcases hr with rfl | rfl | rfl | rfl | rfl
    all_goals exact solidR_C _ _ _
  have hsol : ∀ qv ql xv L ys, ∀ r ∈ rsI qv ql :: rsX xv L ys :: rsC nb #[xv] 27 :: RS, SolidR r := fun qv ql xv L ys r hr => by
    simp only [List.mem_cons] at hr
    rcases hr with rfl | rfl | rfl | hr
    · exact solidR_I _ _
    · exact solidR_X _ _ _
    · exact solidR_C _ _ _
    · exact hsolR r hr
  have eI : Env w w5 (rsI (.slice none 0 0) [] :: rsX (.slice xa N xc) (stls l m T2 (OV.take 0)) xs3 :: rsC nb #[.slice xa N xc] 27 :: RS) := by
    rw [hRS]
    exact (((((((e5.upR 1 rfl).upR 6 rfl).upR 6 rfl).upR 6 rfl).upR 5 rfl).upR 6 rfl) |> fun q => q).nilI
  have hbD : ∀ D, w5.heap.size ≤ D → w.heap.size ≤ D := fun D hD => by omega
  have HI0 := hide eI
  have HSZ : Hid (nb < tb ∧ A + 2 < tb) := by
    have q1 := lt_of_blk (show w4.heap[nb]? = some _ from (unhide HE3).nthR 0 rfl)
    have q2 := lt_of_blk (show w4.heap[A + 2]? = some _ from (unhide HE3).nthR 2 rfl)
    exact ⟨by omega, by omega⟩
  clear HE3 e5 eI z0 z1 HSQ
  go_wp2_with fail
  rw [← hw5, ← htb]
  clear hw5 htb hs5 hA1
  refine range_ownR (unhide HSQ5) rfl (enters_of Tryz.func45 (by kernel_rfl) rfl) (fun _ => rfl)
    (fun k qv ql X => ∃ xa xn xc ys, Env w X (rsI qv ql :: rsX (.slice xa xn xc) (stls l m T2 (OV.take k)) ys :: rsC nb #[.slice xa xn xc] 27 :: RS))
    (fun k X => False)
    (fun k qv ql A B hi hb => by obtain ⟨xa, xn, xc, ys, hE⟩ := hi; exact ⟨xa, xn, xc, ys, hE.new hb⟩)
    (fun k qv ql A B hi hb hq => by obtain ⟨xa, xn, xc, ys, hE⟩ := hi; exact ⟨xa, xn, xc, ys, hE.swapI hb hq⟩)
    (fun k qv ql A hi => by obtain ⟨xa, xn, xc, ys, hE⟩ := hi; exact hE.hd)
    (fun k qv ql A b o o' hb hi hA ho => by obtain ⟨xa, xn, xc, ys, hE⟩ := hi; exact ⟨xa, xn, xc, ys, hE.putL (hsol _ _ _ _ _) hA ho (hbD b hb)⟩)
    (fun k A b o o' hb hi hA ho => hi)
    (fun A b o o' hb hi hA ho => trivial)
    ⟨xa, N, xc, xs3, unhide HI0⟩
    (fun k => { tmps := #[.slice av N cv, .agg #[.slice a1 N1 c1], .agg #[.slice a2 N2 c2], .agg CS.toArray, undef, .pointer (some ⟨A, 0, none⟩), .pointer (some ⟨A + 1, 0, none⟩), .pointer (some ⟨A + 2, 0, none⟩), .slice none 0 0, .int .i64 0, .pointer (some ⟨nb, 0, none⟩), .int .i64 (nthR OV k), .slice av N cv, .int .i64 0, .bool false, .bool false, .agg #[.slice a1 N1 c1], .agg #[.slice a2 N2 c2], .bool true, .bool false, .bool false, .slice av N cv, .slice xa N xc, .agg #[.slice a1 N1 c1], .agg #[.slice a2 N2 c2], .func (.func 45) #[] #[.pointer (some ⟨tb, 0, none⟩), .pointer (some ⟨tb + 1, 0, none⟩)], .int .i64 (nthR OV k), undef, undef, undef, undef, undef, undef, undef, undef, undef], defers := [] })
    ?assign ?body ?done ?stop
  case assign =>
    intro l k X K hK
    unfold encR
    gi_wp2
    exact hK
  case body =>
    rintro D ll k qv ql X r hD rfl hk ⟨xo, xp, xq, ys, hE⟩ - hl hDd
    have hdk : OV[k]? = some (nthR OV k) := by rw [nthR, List.getD_eq_getElem?_getD, List.getElem?_eq_getElem hk]; rfl
    have EL := hE.addL (hsol _ _ _ _ _) hDd hl rfl rfl (hbD _ hD) (by have := hbD _ hD; omega)
    obtain ⟨d, hd⟩ : ∃ d, d = nthR OV k := ⟨_, rfl⟩
    rw [← hd] at hdk ⊢
    obtain ⟨FD, hFD⟩ : ∃ f, f = fnd T2 d := ⟨_, rfl⟩
    have HZ : Hid (∀ z, Below X.heap.size X z → (z.rangeAt (A + 2) 0 CS ∧ z.cell? ⟨A + 1, 0, none⟩ = some (.slice a2 N2 c2)) ∧ z.cell? ⟨nb, 0, none⟩ = some (.slice xo xp xq) ∧ z.frozen? ⟨nb, 0, none⟩ = false) := fun z hz => by
      have E := EL.new hz
      have kn : z.heap[nb]? = some (.cells #[.slice xo xp xq] 27 (0, 0)) := E.nthR 3 rfl
      rw [hRS] at E
      exact ⟨⟨blk_rng (show z.heap[A + 2]? = some (.cells CS.toArray 50 (0, 0)) from E.nthR 4 rfl) (fun j u hu => by rw [Nat.zero_add]; exact hu), blk_c (i := 0) (show z.heap[A + 1]? = some (.cells #[.slice a2 N2 c2] 30 (0, 0)) from E.nthR 5 rfl) rfl⟩, blk_c (i := 0) kn rfl, froz_b' (i := 0) kn⟩
    have KFd : Hid (Calls Tryz.prog 32 #[.agg #[.slice a2 N2 c2], .int .i64 d] X.drew fun e w' => e = .returned (.int .i64 FD) ∧ Below X.drew.heap.size X.drew w') := by
      rw [hFD]; exact unhide HFd X.drew d (EL.new (bw_drewR X)).bel
    have KSt : Hid (∀ z, Below X.heap.size X z → Calls Tryz.prog 31 #[.slice xo xp xq, .int .i64 d, .agg CS.toArray, .bool (decide (0 ≤ FD))] z fun e w' => ∃ xa xn xc, e = .returned (.slice xa xn xc) ∧ ∃ xs', Env w w' (rsL D (D + 1) (.deferred (some [])) (.loop r) :: rsI qv ql :: rsX (.slice xa xn xc) (stls l m T2 (OV.take (k + 1))) xs' :: rsC nb #[.slice xo xp xq] 27 :: RS) ∧ Below z.heap.size z w') := fun z hz => by
      have E := EL.new hz
      rw [hFD]
      refine Calls.mono (unhide HSt z k d _ ys E.bel hk hdk (E.nthR 2 rfl)) ?_
      rintro e w' ⟨xa, xn, xc, rfl, hor, hb⟩
      refine ⟨xa, xn, xc, rfl, ?_⟩
      rcases hor with ⟨q1, q2⟩ | ⟨xs', q⟩
      · rw [q1, q2]
        exact ⟨ys, E.new hb, hb⟩
      · exact ⟨xs', (((E.upR 2 rfl).swapX hb q).upR 2 rfl).upR 2 rfl, hb⟩
    have HE3 : Hid (∀ (z : World) (xa : Option Addr) (xn xc : Nat) (xs' : List (Value × List Mx)), Env w z (rsL D (D + 1) (.deferred (some [])) (.loop r) :: rsI qv ql :: rsX (.slice xa xn xc) (stls l m T2 (OV.take (k + 1))) xs' :: rsC nb #[.slice xo xp xq] 27 :: RS) → Env w (z.setCell ⟨nb, 0, none⟩ (.slice xa xn xc)) (rsL D (D + 1) (.deferred (some [])) (.loop r) :: rsI qv ql :: rsX (.slice xa xn xc) (stls l m T2 (OV.take (k + 1))) xs' :: rsC nb #[.slice xa xn xc] 27 :: RS)) := fun z xa xn xc xs' E =>
      ((((E.upR 3 rfl).pokeC (i := 0) (.slice xa xn xc)).upR 3 rfl).upR 3 rfl).upR 3 rfl
    have HZ2 : Hid (∀ (z : World) (xa : Option Addr) (xn xc : Nat) (xs' : List (Value × List Mx)), Below X.heap.size X z → Env w z (rsL D (D + 1) (.deferred (some [])) (.loop r) :: rsI qv ql :: rsX (.slice xa xn xc) (stls l m T2 (OV.take (k + 1))) xs' :: rsC nb #[.slice xo xp xq] 27 :: RS) → (z.setCell ⟨nb, 0, none⟩ (.slice xa xn xc)).rangeAt (A + 2) 0 CS ∧ (z.setCell ⟨nb, 0, none⟩ (.slice xa xn xc)).cell? ⟨A + 1, 0, none⟩ = some (.slice a2 N2 c2)) := fun z xa xn xc xs' _ E0 => by
      have E := unhide HE3 z xa xn xc xs' E0
      rw [hRS] at E
      exact ⟨blk_rng (show (z.setCell ⟨nb, 0, none⟩ (.slice xa xn xc)).heap[A + 2]? = some (.cells CS.toArray 50 (0, 0)) from E.nthR 4 rfl) (fun j u hu => by rw [Nat.zero_add]; exact hu), blk_c (i := 0) (show (z.setCell ⟨nb, 0, none⟩ (.slice xa xn xc)).heap[A + 1]? = some (.cells #[.slice a2 N2 c2] 30 (0, 0)) from E.nthR 5 rfl) rfl⟩
    have HP : Hid (∀ (z : World) (xa : Option Addr) (xn xc : Nat) (xs' : List (Value × List Mx)), Below X.heap.size X z → Env w z (rsL D (D + 1) (.deferred (some [])) (.loop r) :: rsI qv ql :: rsX (.slice xa xn xc) (stls l m T2 (OV.take (k + 1))) xs' :: rsC nb #[.slice xo xp xq] 27 :: RS) → ∀ a, postR (fun k qv ql X => ∃ xa xn xc ys, Env w X (rsI qv ql :: rsX (.slice xa xn xc) (stls l m T2 (OV.take k)) ys :: rsC nb #[.slice xa xn xc] 27 :: RS)) (fun _ _ => False) (fun _ => True) D (D + 1) k qv ql X .normal a (z.setCell ⟨nb, 0, none⟩ (.slice xa xn xc))) := fun z xa xn xc xs' _ E0 a => by
      have E := unhide HE3 z xa xn xc xs' E0
      have L2 : (z.setCell ⟨nb, 0, none⟩ (.slice xa xn xc)).heap[D]? = some (.deferred (some [])) ∧ (z.setCell ⟨nb, 0, none⟩ (.slice xa xn xc)).heap[D + 1]? = some (.loop r) := E.hd
      exact ⟨L2.2.trans hl.symm, L2.1.trans hDd.symm, trivial, xa, xn, xc, xs', E.drop⟩
    obtain ⟨s0, n0, -⟩ := unhide HZ X.drew (bw_drewR X)
    clear hE EL hdk hd hFD hl hDd HE3 HFd HSt hk
    refine wpIn_block ?_
    refine region_round ?hm ?hd ?hl ?_
    case hm => kernel_rfl
    case hd => kernel_rfl
    case hl => (rintro ⟨_, _, h⟩; exact h)
    refine wpAny_of_held (S := fun w' : World => w'.rangeAt (A + 2) 0 CS ∧ w'.cell? ⟨A + 1, 0, none⟩ = some (.slice a2 N2 c2)) _ _ _ _ ?_
    refine wpAnyH_take (i := 1) (oi := { dst := some 28, op := Op.move (Operand.tmp 11), type := 3, pos := "roster.go:62", after := #[], guard := none }) (v := ?v1a) rfl (by kernel_rfl) (by kernel_rfl) (by kernel_rfl) (fun _ _ _ h => h) (Or.inl ⟨by rfl, ?hy1a⟩) (by exact s0) ?_
    case hy1a => (intro w hSw; obtain ⟨hs1, hs2⟩ := hSw; go_simp; try (with_reducible rfl))
    try simp only [Act.put, List.setIfInBounds_toArray, List.set_cons_zero, List.set_cons_succ]
    refine wpAnyH_take (i := 2) (oi := { dst := some 29, op := Op.load 50 (Operand.tmp 7), type := 50, pos := "roster.go:62", after := #[], guard := none }) (v := .agg CS.toArray) rfl (by kernel_rfl) (by kernel_rfl) (by kernel_rfl) (fun _ _ _ h => h) (yieldsIf_load_mid (by rfl) 50 (.tmp 7) rfl (A + 2) 0 (by rfl) CS _ (fun _ h => h.1) Tryz.underlying50 rfl (unhide HI)) (by exact s0) ?_
    try simp only [Act.put, List.setIfInBounds_toArray, List.set_cons_zero, List.set_cons_succ]
    refine wpAnyH_take (i := 3) (oi := { dst := some 30, op := Op.load 30 (Operand.tmp 6), type := 30, pos := "roster.go:62", after := #[], guard := none }) (v := ?v3a) rfl (by kernel_rfl) (by kernel_rfl) (by kernel_rfl) (fun _ _ _ h => h) (Or.inl ⟨by rfl, ?hy3a⟩) (by exact s0) ?_
    case hy3a => (intro w hSw; obtain ⟨hs1, hs2⟩ := hSw; go_simp; try (with_reducible rfl))
    try simp only [Act.put, List.setIfInBounds_toArray, List.set_cons_zero, List.set_cons_succ]
    refine wpAnyH_take (i := 4) (oi := { dst := some 31, op := Op.move (Operand.tmp 11), type := 3, pos := "roster.go:62", after := #[], guard := none }) (v := ?v4a) rfl (by kernel_rfl) (by kernel_rfl) (by kernel_rfl) (fun _ _ _ h => h) (Or.inl ⟨by rfl, ?hy4a⟩) (by exact s0) ?_
    case hy4a => (intro w hSw; obtain ⟨hs1, hs2⟩ := hSw; go_simp; try (with_reducible rfl))
    try simp only [Act.put, List.setIfInBounds_toArray, List.set_cons_zero, List.set_cons_succ]
    refine wpAnyH_ready (rs := [0, 5]) (by kernel_rfl) (by simp) ?_
    refine AllReadyH.cons (o := { dst := some 27, op := Op.load 27 (Operand.tmp 10), type := 27, pos := "roster.go:62", after := #[], guard := none }) rfl (fun K hK => ?_) (AllReadyH.cons (o := { dst := some 32, op := Op.call { callee := Callee.value (Operand.func 32), args := #[Operand.tmp 30, Operand.tmp 31], argTypes := #[30, 3] }, type := 3, pos := "roster.go:62", after := #[{ on := 3, ground := Ground.data }, { on := 4, ground := Ground.data }], guard := none }) rfl (fun K hK => ?_) AllReadyH.nil)
    · go_simp
      refine hK.out _ _ s0 (fun _ => ?_)
      clear hK K
      try simp only [Act.put, List.setIfInBounds_toArray, List.set_cons_zero, List.set_cons_succ]
      refine wpAnyH_ready (rs := [5]) (by kernel_rfl) (by simp) ?_
      refine AllReadyH.cons (o := { dst := some 32, op := Op.call { callee := Callee.value (Operand.func 32), args := #[Operand.tmp 30, Operand.tmp 31], argTypes := #[30, 3] }, type := 3, pos := "roster.go:62", after := #[{ on := 3, ground := Ground.data }, { on := 4, ground := Ground.data }], guard := none }) rfl (fun K hK => ?_) AllReadyH.nil
      go_simp
      refine (unhide KFd).mono ?_
      rintro e z1 ⟨rfl, b1⟩
      have bz1 := bw_tr (bw_drewR X) b1
      obtain ⟨s1, n1, -⟩ := unhide HZ z1 bz1
      go_wp2_with fail
      refine hK.out _ _ s1 (fun _ => ?_)
      clear hK K
      try simp only [Act.put, List.setIfInBounds_toArray, List.set_cons_zero, List.set_cons_succ]
      refine wpAnyH_take (i := 6) (oi := { dst := some 33, op := Op.binOp BinOp.geq 3 (Operand.tmp 32) (Operand.const (Value.int IntKind.i64 0)) 3, type := 4, pos := "roster.go:62", after := #[{ on := 5, ground := Ground.data }], guard := none }) (v := ?v6b) rfl (by kernel_rfl) (by kernel_rfl) (by kernel_rfl) (fun _ _ _ h => h) (Or.inl ⟨by rfl, ?hy6b⟩) (by exact s1) ?_
      case hy6b => (intro w hSw; obtain ⟨hs1, hs2⟩ := hSw; go_simp; try (with_reducible rfl))
      try simp only [Act.put, List.setIfInBounds_toArray, List.set_cons_zero, List.set_cons_succ]
      refine wpAnyH_ready (rs := [7]) (by kernel_rfl) (by simp) ?_
      refine AllReadyH.cons (o := { dst := some 34, op := Op.call { callee := Callee.value (Operand.func 31), args := #[Operand.tmp 27, Operand.tmp 28, Operand.tmp 29, Operand.tmp 33], argTypes := #[27, 3, 50, 4] }, type := 27, pos := "roster.go:62", after := #[{ on := 0, ground := Ground.data }, { on := 1, ground := Ground.data }, { on := 2, ground := Ground.data }, { on := 6, ground := Ground.data }, { on := 5, ground := Ground.chain }], guard := none }) rfl (fun K hK => ?_) AllReadyH.nil
      go_simp
      refine (unhide KSt z1 bz1).mono ?_
      rintro e z2 ⟨xa', xn', xc', rfl, xs', hE2, b2⟩
      have bz2 := bw_tr bz1 b2
      obtain ⟨s2, n2, f2⟩ := unhide HZ z2 bz2
      go_wp2_with fail
      refine hK.out _ _ s2 (fun _ => ?_)
      clear hK K
      try simp only [Act.put, List.setIfInBounds_toArray, List.set_cons_zero, List.set_cons_succ]
      refine wpAnyH_ready (rs := [8]) (by kernel_rfl) (by simp) ?_
      refine AllReadyH.cons (o := { dst := none, op := Op.store 27 (Operand.tmp 10) (Operand.tmp 34), type := 0, pos := "roster.go:62", after := #[{ on := 7, ground := Ground.data }, { on := 7, ground := Ground.chain }, { on := 0, ground := Ground.phase }, { on := 1, ground := Ground.phase }, { on := 2, ground := Ground.phase }, { on := 3, ground := Ground.phase }, { on := 4, ground := Ground.phase }, { on := 5, ground := Ground.phase }, { on := 6, ground := Ground.phase }, { on := 7, ground := Ground.phase }], guard := none }) rfl (fun K hK => ?_) AllReadyH.nil
      go_simp
      refine hK.out _ _ (unhide HZ2 z2 xa' xn' xc' xs' bz2 hE2) (fun _ => ?_)
      clear hK K
      try simp only [Act.put, List.setIfInBounds_toArray, List.set_cons_zero, List.set_cons_succ]
      refine wpAnyH_done (by kernel_rfl) ?_ _
      exact unhide HP z2 xa' xn' xc' xs' bz2 hE2 { tmps := #[], defers := [] }
    · go_simp
      refine (unhide KFd).mono ?_
      rintro e z1 ⟨rfl, b1⟩
      have bz1 := bw_tr (bw_drewR X) b1
      obtain ⟨s1, n1, -⟩ := unhide HZ z1 bz1
      go_wp2_with fail
      refine hK.out _ _ s1 (fun _ => ?_)
      clear hK K
      try simp only [Act.put, List.setIfInBounds_toArray, List.set_cons_zero, List.set_cons_succ]
      refine wpAnyH_take (i := 6) (oi := { dst := some 33, op := Op.binOp BinOp.geq 3 (Operand.tmp 32) (Operand.const (Value.int IntKind.i64 0)) 3, type := 4, pos := "roster.go:62", after := #[{ on := 5, ground := Ground.data }], guard := none }) (v := ?v6c) rfl (by kernel_rfl) (by kernel_rfl) (by kernel_rfl) (fun _ _ _ h => h) (Or.inl ⟨by rfl, ?hy6c⟩) (by exact s1) ?_
      case hy6c => (intro w hSw; obtain ⟨hs1, hs2⟩ := hSw; go_simp; try (with_reducible rfl))
      try simp only [Act.put, List.setIfInBounds_toArray, List.set_cons_zero, List.set_cons_succ]
      refine wpAnyH_ready (rs := [0]) (by kernel_rfl) (by simp) ?_
      refine AllReadyH.cons (o := { dst := some 27, op := Op.load 27 (Operand.tmp 10), type := 27, pos := "roster.go:62", after := #[], guard := none }) rfl (fun K hK => ?_) AllReadyH.nil
      go_simp
      refine hK.out _ _ s1 (fun _ => ?_)
      clear hK K
      try simp only [Act.put, List.setIfInBounds_toArray, List.set_cons_zero, List.set_cons_succ]
      refine wpAnyH_ready (rs := [7]) (by kernel_rfl) (by simp) ?_
      refine AllReadyH.cons (o := { dst := some 34, op := Op.call { callee := Callee.value (Operand.func 31), args := #[Operand.tmp 27, Operand.tmp 28, Operand.tmp 29, Operand.tmp 33], argTypes := #[27, 3, 50, 4] }, type := 27, pos := "roster.go:62", after := #[{ on := 0, ground := Ground.data }, { on := 1, ground := Ground.data }, { on := 2, ground := Ground.data }, { on := 6, ground := Ground.data }, { on := 5, ground := Ground.chain }], guard := none }) rfl (fun K hK => ?_) AllReadyH.nil
      go_simp
      refine (unhide KSt z1 bz1).mono ?_
      rintro e z2 ⟨xa', xn', xc', rfl, xs', hE2, b2⟩
      have bz2 := bw_tr bz1 b2
      obtain ⟨s2, n2, f2⟩ := unhide HZ z2 bz2
      go_wp2_with fail
      refine hK.out _ _ s2 (fun _ => ?_)
      clear hK K
      try simp only [Act.put, List.setIfInBounds_toArray, List.set_cons_zero, List.set_cons_succ]
      refine wpAnyH_ready (rs := [8]) (by kernel_rfl) (by simp) ?_
      refine AllReadyH.cons (o := { dst := none, op := Op.store 27 (Operand.tmp 10) (Operand.tmp 34), type := 0, pos := "roster.go:62", after := #[{ on := 7, ground := Ground.data }, { on := 7, ground := Ground.chain }, { on := 0, ground := Ground.phase }, { on := 1, ground := Ground.phase }, { on := 2, ground := Ground.phase }, { on := 3, ground := Ground.phase }, { on := 4, ground := Ground.phase }, { on := 5, ground := Ground.phase }, { on := 6, ground := Ground.phase }, { on := 7, ground := Ground.phase }], guard := none }) rfl (fun K hK => ?_) AllReadyH.nil
      go_simp
      refine hK.out _ _ (unhide HZ2 z2 xa' xn' xc' xs' bz2 hE2) (fun _ => ?_)
      clear hK K
      try simp only [Act.put, List.setIfInBounds_toArray, List.set_cons_zero, List.set_cons_succ]
      refine wpAnyH_done (by kernel_rfl) ?_ _
      exact unhide HP z2 xa' xn' xc' xs' bz2 hE2 { tmps := #[], defers := [] }
  case done =>
    rintro D qv ql X hD ⟨xa', xn', xc', ys, hE⟩ hK
    have b2 : X.heap[nb]? = some (.cells #[.slice xa' xn' xc'] 27 (0, 0)) := hE.nthR 2 rfl
    have cc := blk_c (i := 0) b2 rfl
    have E1 : Env w X (rsX (.slice xa' xn' xc') (stls l m T2 OV) ys :: rsC nb #[.slice xa' xn' xc'] 27 :: RS) := by
      have := hE.drop
      rw [List.take_length] at this
      exact this
    have HL : Hid (∀ (tmps : Array Value), tmps[8]?.getD undef = .slice xa' xn' xc' → tmps[9]?.getD undef = .int .i64 0 → LeavesInM Fence.wide 2 Tryz.prog Tryz.f15 tmps (fun e W' => ∃ v' er, e = .returned (.tuple #[v', .int .i64 er]) ∧ Below w.heap.size w W' ∧ (er = 0 ∧ ∃ xs', OwL kBx 0 W' v' (stls l m T2 OV) xs' ∧ ∀ z ∈ zK kBx v' xs', w.heap.size ≤ z)) [{ target := .collected D, args := #[] }] .returning X) := fun tmps h8 h9 =>
      settle_leave E1 (fun r hr => by
        rcases List.mem_cons.1 hr with rfl | hr
        · exact solidR_C _ _ _
        · exact hsolR r hr) hK (hbD D hD) h8 h9
    clear hE hK E1 b2
    go_wp2_with fail
    exact unhide HL _ rfl rfl
  case stop =>
    rintro D k X hD hk hf
    exact hf.elim
end Go.Proofs.YtgmlkofogeoocaaGreatDoor
