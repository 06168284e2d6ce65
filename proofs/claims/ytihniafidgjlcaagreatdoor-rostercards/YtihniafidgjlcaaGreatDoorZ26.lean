/- Texts joined: RoH RoK RoM. -/
import Derived.Test.YtihniafidgjlcaaGreatDoorRoG
import Derived.Test.YtihniafidgjlcaaGreatDoorRoR
import Derived.Test.YtihniafidgjlcaaGreatDoorZ21
import Derived.Test.YtihniafidgjlcaaGreatDoorZ22
import Derived.Test.YtihniafidgjlcaaGreatDoorZ02
/- ofDevices, whatever comes of it; Settle. mkRoH.py writes it (out of RoH.part). -/
namespace Go.Proofs.YtihniafidgjlcaaGreatDoor
open Go.RowKit Go.Maps
attribute [local go_sem] Oper.semAt_some
set_option maxRecDepth 100000 in
set_option maxHeartbeats 2000000 in
theorem ofdev_no {w : World} {v1 v2 : Value} {T1 T2 : List Nd} (h1 : Trd w v1 T1) (h2 : Trd w v2 T2) (hT : Tab w) (hn : mayB T1 = false ∨ mayB T2 = false) :
    Calls Tryz.prog 35 #[.agg #[v1], .agg #[v2]] w fun e w' => e = .returned (.bool false) ∧ Below w.heap.size w w' := by
  obtain ⟨a1, c1, hv1⟩ := h1.slice
  obtain ⟨a2, c2, hv2⟩ := h2.slice
  obtain ⟨N1, hN1⟩ : ∃ N, N = T1.length := ⟨_, rfl⟩
  obtain ⟨N2, hN2⟩ : ∃ N, N = T2.length := ⟨_, rfl⟩
  rw [← hN1] at hv1
  rw [← hN2] at hv2
  subst hv1 hv2
  obtain ⟨A, hA⟩ : ∃ A, A = w.heap.size := ⟨_, rfl⟩
  obtain ⟨w0, hw0⟩ : ∃ w0, w0 = ((w.alloc (.cells #[.slice a1 N1 c1] 30)).alloc (.cells #[.slice a2 N2 c2] 30)).alloc (.cells #[.bool false] 4) := ⟨_, rfl⟩
  have e0 : Env w w0 [rsC (A + 2) #[.bool false] 4, rsC (A + 1) #[.slice a2 N2 c2] 30, rsC A #[.slice a1 N1 c1] 30] := by
    have := (((Env.nil w).newC #[.slice a1 N1 c1] 30).newC #[.slice a2 N2 c2] 30).newC #[.bool false] 4
    simp only [World.size_alloc] at this
    rw [hw0, hA]
    exact this
  have HW := hide (And.intro hw0 hA)
  have x0 := blk_c (i := 0) (show w0.heap[A]? = some (.cells #[.slice a1 N1 c1] 30 (0, 0)) from e0.nthR 2 rfl) rfl
  have HE0 := hide e0
  have KC1 := check_any (h1.bw e0.bel) (hT.bw e0.bel)
  have HK2 : Hid (∀ W, Below w.heap.size w W → Calls Tryz.prog 154 #[.agg #[.slice a2 N2 c2]] W fun e w' => e = .returned (.int .i64 (if mayB T2 = true then 0 else 1)) ∧ Below W.heap.size W w') := fun W hW => check_any (h2.bw hW) (hT.bw hW)
  cases q1 : mayB T1
  · rw [q1] at KC1
    have HK1 : Hid (Calls Tryz.prog 154 #[.agg #[.slice a1 N1 c1]] w0 fun e w' => e = .returned (.int .i64 1) ∧ Below w0.heap.size w0 w') := KC1
    clear h1 h2 hT hN1 hN2 hA hw0 e0 KC1 HK2 hn q1
    refine (callsIn_wide (n := 2)).1 (callsIn_of_wp_marks Tryz.func35 rfl trivial ?_ rfl)
    simp only [Tryz.ntmps35, List.size_toArray, List.length_cons, List.length_nil, Nat.reduceAdd, Nat.reduceSub, Array.replicate_succ, Array.replicate_zero, List.push_toArray, List.append_toArray, List.nil_append, List.cons_append]
    refine wpIn_wide.2 ?_
    go_upto_region 1 with fail
    rw [← (unhide HW).2, show A + 1 + 1 = A + 2 from rfl]
    rw [← (unhide HW).1]
    clear HW
    go_wp2_with fail
    refine (unhide HK1).mono ?_
    rintro e w1 ⟨rfl, b1⟩
    have e1 := (unhide HE0).new b1
    have b2 : w1.heap[A + 2]? = some (.cells #[.bool false] 4 (0, 0)) := e1.hd
    have k2 := blk_c (i := 0) b2 rfl
    have k3 := froz_b' (i := 0) b2
    have e2 := e1.pokeC (i := 0) (.bool false)
    obtain ⟨V, hV⟩ : ∃ V, V = w1.setCell ⟨A + 2, 0, none⟩ (.bool false) := ⟨_, rfl⟩
    rw [← hV] at e2
    have k4 := blk_c (i := 0) (show V.heap[A + 2]? = some (.cells #[.bool false] 4 (0, 0)) from e2.hd) rfl
    have HE := hide e2.bel
    have HV := hide hV
    clear HK1 HE0 b1 e1 x0 b2 e2 hV
    go_wp2_with fail
    rw [← unhide HV]
    exact ⟨.bool false, by simp [results, Tryz.results35, go_sem, k4], rfl, unhide HE⟩
  · have q2 : mayB T2 = false := by rcases hn with q | q; (rw [q1] at q; cases q); exact q
    rw [q1] at KC1
    rw [q2] at HK2
    have HK1 : Hid (Calls Tryz.prog 154 #[.agg #[.slice a1 N1 c1]] w0 fun e w' => e = .returned (.int .i64 0) ∧ Below w0.heap.size w0 w') := KC1
    have HK3 : Hid (∀ W, Below w.heap.size w W → Calls Tryz.prog 154 #[.agg #[.slice a2 N2 c2]] W fun e w' => e = .returned (.int .i64 1) ∧ Below W.heap.size W w') := HK2
    clear h1 h2 hT hN1 hN2 hA hw0 e0 KC1 HK2 hn q1 q2
    refine (callsIn_wide (n := 2)).1 (callsIn_of_wp_marks Tryz.func35 rfl trivial ?_ rfl)
    simp only [Tryz.ntmps35, List.size_toArray, List.length_cons, List.length_nil, Nat.reduceAdd, Nat.reduceSub, Array.replicate_succ, Array.replicate_zero, List.push_toArray, List.append_toArray, List.nil_append, List.cons_append]
    refine wpIn_wide.2 ?_
    go_upto_region 1 with fail
    rw [← (unhide HW).2, show A + 1 + 1 = A + 2 from rfl]
    rw [← (unhide HW).1]
    clear HW
    go_wp2_with fail
    refine (unhide HK1).mono ?_
    rintro e w1 ⟨rfl, b1⟩
    have e1 := (unhide HE0).new b1
    have y1 := blk_c (i := 0) (show w1.heap[A + 1]? = some (.cells #[.slice a2 N2 c2] 30 (0, 0)) from e1.nthR 1 rfl) rfl
    have HK4 := hide (unhide HK3 w1 e1.bel)
    have HE1 := hide e1
    clear HK1 HE0 b1 e1 x0 HK3
    go_wp2_with fail
    refine (unhide HK4).mono ?_
    rintro e w2 ⟨rfl, b2'⟩
    have e1 := (unhide HE1).new b2'
    have b2 : w2.heap[A + 2]? = some (.cells #[.bool false] 4 (0, 0)) := e1.hd
    have k2 := blk_c (i := 0) b2 rfl
    have k3 := froz_b' (i := 0) b2
    have e2 := e1.pokeC (i := 0) (.bool false)
    obtain ⟨V, hV⟩ : ∃ V, V = w2.setCell ⟨A + 2, 0, none⟩ (.bool false) := ⟨_, rfl⟩
    rw [← hV] at e2
    have k4 := blk_c (i := 0) (show V.heap[A + 2]? = some (.cells #[.bool false] 4 (0, 0)) from e2.hd) rfl
    have HE := hide e2.bel
    have HV := hide hV
    clear HK4 HE1 b2' e1 y1 b2 e2 hV
    go_wp2_with fail
    rw [← unhide HV]
    exact ⟨.bool false, by simp [results, Tryz.results35, go_sem, k4], rfl, unhide HE⟩
theorem ofdev_any {w : World} {v1 v2 : Value} {T1 T2 : List Nd} (h1 : Trd w v1 T1) (h2 : Trd w v2 T2) (hT : Tab w) :
    Calls Tryz.prog 35 #[.agg #[v1], .agg #[v2]] w fun e w' => e = .returned (.bool (dvB T1 T2)) ∧ Below w.heap.size w w' := by
  unfold dvB
  cases q1 : mayB T1
  · exact ofdev_no h1 h2 hT (Or.inl q1)
  · cases q2 : mayB T2
    · exact ofdev_no h1 h2 hT (Or.inr q2)
    · exact ofdev_ok h1 h2 hT q1 q2
def stls (l : List Bx) (m : Ml) (T2 : List Nd) (ds : List Int) : List Bx := ds.foldl (fun a d => stl a d m (decide (0 ≤ fnd T2 d))) l
theorem stls_snoc (l : List Bx) (m : Ml) (T2 : List Nd) (ds : List Int) (d : Int) : stls l m T2 (ds ++ [d]) = stl (stls l m T2 ds) d m (decide (0 ≤ fnd T2 d)) := by unfold stls; rw [List.foldl_append]; rfl
theorem stls_may {m : Ml} {T2 : List Nd} : ∀ (ds : List Int) (l : List Bx), mayP l → (∀ d ∈ ds, devOk d = true) → mayP (stls l m T2 ds)
  | [], l, h, _ => h
  | d :: ds, l, h, hd => by
    have hq := hd d (by simp)
    unfold devOk at hq
    exact stls_may ds (stl l d m (decide (0 ≤ fnd T2 d))) (mayP_stl h (by simpa using hq)) (fun x hx => hd x (List.mem_cons_of_mem _ hx))
theorem stls_sz {m : Ml} {T2 : List Nd} (hm : SmM m) : ∀ (ds : List Int) (l : List Bx) (n : Nat), SzX n l → SzX (n + ds.length) (stls l m T2 ds)
  | [], l, n, h => h
  | d :: ds, l, n, h => by
    have := stls_sz (T2 := T2) hm ds (stl l d m (decide (0 ≤ fnd T2 d))) (n + 1) (h.st d hm _)
    rw [List.length_cons, show n + (ds.length + 1) = n + 1 + ds.length by omega]
    exact this
theorem take_snocR {l : List Int} {k : Nat} {d : Int} (h : l[k]? = some d) : l.take (k + 1) = l.take k ++ [d] := by rw [List.take_add_one, h]; rfl
theorem settle_leave {w X : World} {D : Nat} {xv : Value} {L : List Bx} {xs : List (Value × List Mx)} {rs : List Res} (hE : Env w X (rsX xv L xs :: rs)) (hs : ∀ r ∈ rs, SolidR r) (hK : X.heap[D]? = some (.deferred (some []))) (hD : w.heap.size ≤ D) {tmps : Array Value} (h8 : tmps[8]?.getD undef = xv) (h9 : tmps[9]?.getD undef = .int .i64 0) :
    LeavesInM Fence.wide 2 Tryz.prog Tryz.f16 tmps (fun e W' => ∃ v' er, e = .returned (.tuple #[v', .int .i64 er]) ∧ Below w.heap.size w W' ∧ (er = 0 ∧ ∃ xs', OwL kBx 0 W' v' L xs' ∧ ∀ z ∈ zK kBx v' xs', w.heap.size ≤ z)) [{ target := .collected D, args := #[] }] .returning X := by
  have hE2 : Env w (X.putObj D (.deferred none)) (rsX xv L xs :: rs) := hE.putL (fun r hr => by
    rcases List.mem_cons.1 hr with rfl | hr
    · exact solidR_X _ _ _
    · exact hs r hr) hK rfl hD
  refine ⟨by simp, .inl ⟨_, _, rfl, run_takeDeferred hK, ?_⟩⟩
  generalize X.putObj D (.deferred none) = Y at *
  refine ⟨.tuple #[xv, .int .i64 0], ?_, ⟨xv, 0, rfl, hE2.bel, rfl, xs, hE2.hd, hE2.low (rsX xv L xs) (by simp)⟩⟩
  simp [results, Tryz.results16, go_sem, h8, h9]
set_option maxRecDepth 100000 in
set_option maxHeartbeats 2000000 in
theorem settle_ok {w : World} {v v1 v2 : Value} {l : List Bx} {xs : List (Value × List Mx)} {T1 T2 : List Nd} {m : Ml} {x : Mx} {n0 : Nat} (h : RdL kBx w v l xs) (hsz : SzX n0 l) (hn0 : n0 ≤ 900000) (h1 : Trd w v1 T1) (h2 : Trd w v2 T2) (hT : Tab w) (hm : MlR w m x) (hsm : SmM m) (hmy : mayP l) (hdv : dvB T1 T2 = true) :
    Calls Tryz.prog 16 #[v, .agg #[v1], .agg #[v2], .agg (mlC m x).toArray] w fun e W' => ∃ v' er, e = .returned (.tuple #[v', .int .i64 er]) ∧ Below w.heap.size w W' ∧ (er = 0 ∧ ∃ xs', OwL kBx 0 W' v' (stls l m T2 (uni (mems T1) (mems T2))) xs' ∧ ∀ z ∈ zK kBx v' xs', w.heap.size ≤ z) := by
  have hdv' := hdv
  unfold dvB at hdv'
  simp only [Bool.and_eq_true] at hdv'
  obtain ⟨m1, m2, hall⟩ := hdv'
  obtain ⟨a1, c1, hv1⟩ := h1.slice
  obtain ⟨a2, c2, hv2⟩ := h2.slice
  obtain ⟨av, cv, hvv⟩ := rdl_slice h
  obtain ⟨N, hN⟩ : ∃ N, N = l.length := ⟨_, rfl⟩
  obtain ⟨N1, hN1⟩ : ∃ N, N = T1.length := ⟨_, rfl⟩
  obtain ⟨N2, hN2⟩ : ∃ N, N = T2.length := ⟨_, rfl⟩
  rw [← hN] at hvv
  rw [← hN1] at hv1
  rw [← hN2] at hv2
  subst hv1 hv2 hvv
  obtain ⟨CS, hCS⟩ : ∃ z, z = mlC m x := ⟨_, rfl⟩
  obtain ⟨A, hA⟩ : ∃ A, A = w.heap.size := ⟨_, rfl⟩
  obtain ⟨w0, hw0⟩ : ∃ w0, w0 = ((w.alloc (.cells #[.slice a1 N1 c1] 30)).alloc (.cells #[.slice a2 N2 c2] 30)).alloc (.cells CS.toArray 50) := ⟨_, rfl⟩
  have e0 : Env w w0 [rsC (A + 2) CS.toArray 50, rsC (A + 1) #[.slice a2 N2 c2] 30, rsC A #[.slice a1 N1 c1] 30] := by
    have := (((Env.nil w).newC #[.slice a1 N1 c1] 30).newC #[.slice a2 N2 c2] 30).newC CS.toArray 50
    simp only [World.size_alloc] at this
    rw [hw0, hA]
    exact this
  have hsx := hsz.sm (by omega)
  have HKC : Hid (Calls Tryz.prog 17 #[.slice av N cv] w0 fun e w' => e = .returned (.int .i64 0) ∧ Below w0.heap.size w0 w') := by
    have := poCheck_any (h.bw e0.bel) hsx.n
    rw [mayX_iff.2 hmy] at this
    exact this
  have HKD : Hid (∀ W, Below w.heap.size w W → Calls Tryz.prog 35 #[.agg #[.slice a1 N1 c1], .agg #[.slice a2 N2 c2]] W fun e w' => e = .returned (.bool true) ∧ Below W.heap.size W w') := fun W hW => by
    have := ofdev_any (h1.bw hW) (h2.bw hW) (hT.bw hW)
    rw [hdv] at this
    exact this
  have HKL : Hid (∀ W, Below w.heap.size w W → Calls Tryz.prog 36 #[.slice av N cv, .func (.func 37) #[] #[]] W fun e w' => ∃ xa xc xs', e = .returned (.slice xa N xc) ∧ OwL kBx W.heap.size w' (.slice xa N xc) l xs' ∧ Below W.heap.size W w') := fun W hW => by
    refine Calls.mono (listBox_any (h.bw hW) hsx.n) ?_
    rintro e w' ⟨v', xs', rfl, ho, hb⟩
    obtain ⟨xa, xc, hxe⟩ := own_slice ho.row
    rw [← hN] at hxe
    subst hxe
    exact ⟨xa, xc, xs', rfl, ho, hb⟩
  obtain ⟨OV, hOV⟩ : ∃ OV, OV = uni (mems T1) (mems T2) := ⟨_, rfl⟩
  rw [← hOV] at hall ⊢
  have hOL : OV.length ≤ 16 := by
    have q0 := uni_len (mems T1) (mems T2)
    have q1 := mems_lenR m1
    have q2 := mems_lenR m2
    rw [hOV]
    omega
  have HI : Hid ((Tryz.prog.info? 50).map (·.size) = some CS.length) := by rw [hCS]; exact infoMlS
  have HW := hide (And.intro hw0 hA)
  have x0 := blk_c (i := 0) (show w0.heap[A]? = some (.cells #[.slice a1 N1 c1] 30 (0, 0)) from e0.nthR 2 rfl) rfl
  have x1 := blk_c (i := 0) (show w0.heap[A + 1]? = some (.cells #[.slice a2 N2 c2] 30 (0, 0)) from e0.nthR 1 rfl) rfl
  have HE0 := hide e0
  have HSQ : Hid (∀ (W : World) (tb : Nat), Below w.heap.size w W → W.heap[tb]? = some (.cells #[.slice a1 N1 c1] 30 (0, 0)) → W.heap[tb + 1]? = some (.cells #[.slice a2 N2 c2] 30 (0, 0)) → SeqR Tryz.prog 158 #[.pointer (some ⟨tb, 0, none⟩), .pointer (some ⟨tb + 1, 0, none⟩)] OV.length (encR OV) (fun _ => True) W) := fun W tb hW k1 k2 => by
    rw [hOV]
    exact seqM_any tb (tb + 1) (h1.bw hW) (h2.bw hW) (hT.bw hW) m1 m2 k1 k2
  have HFd : Hid (∀ (W : World) (d : Int), Below w.heap.size w W → Calls Tryz.prog 40 #[.agg #[.slice a2 N2 c2], .int .i64 d] W fun e w' => e = .returned (.int .i64 (fnd T2 d)) ∧ Below W.heap.size W w') := fun W d hW => by
    have := findX_any (h2.bw hW) (hT.bw hW) d
    rw [if_pos m2] at this
    exact this
  have HSt : Hid (∀ (W : World) (k : Nat) (d : Int) (xv : Value) (ys : List (Value × List Mx)), Below w.heap.size w W → k < OV.length → OV[k]? = some d → OwL kBx 0 W xv (stls l m T2 (OV.take k)) ys → Calls Tryz.prog 39 #[xv, .int .i64 d, .agg CS.toArray, .bool (decide (0 ≤ fnd T2 d))] W fun e w' => ∃ xa xn xc, e = .returned (.slice xa xn xc) ∧ ((.slice xa xn xc = xv ∧ stls l m T2 (OV.take (k + 1)) = stls l m T2 (OV.take k)) ∨ ∃ xs', OwL kBx W.heap.size w' (.slice xa xn xc) (stls l m T2 (OV.take (k + 1))) xs') ∧ Below W.heap.size W w') := fun W k d xv ys hW hk hd ho => by
    have hz := stls_sz (T2 := T2) hsm (OV.take k) l n0 hsz
    have hz2 : SzX (n0 + 16) (stls l m T2 (OV.take k)) := hz.mono (by rw [List.length_take]; omega)
    have hmk := stls_may (m := m) (T2 := T2) (OV.take k) l hmy (fun q hq => List.all_eq_true.1 hall q (List.mem_of_mem_take hq))
    have hdo : 0 ≤ d ∧ d < 512 := by have := List.all_eq_true.1 hall d (List.mem_of_getElem? hd); unfold devOk at this; simpa using this
    rw [hCS]
    refine Calls.mono (settled_any (ho.bxs (hz2.sm (by omega)).b) hz2 (by omega) hmk d hdo (hm.bw hW) hsm _) ?_
    rintro e w' ⟨v', rfl, hor, hb⟩
    rw [← stls_snoc, ← take_snocR hd] at hor
    have hsl : ∃ xa xn xc, v' = .slice xa xn xc := by
      rcases hor with ⟨q, _⟩ | ⟨xs', q⟩
      · obtain ⟨p1, p2, p3⟩ := own_slice ho.row
        exact ⟨p1, _, p2, by rw [q]; exact p3⟩
      · obtain ⟨p1, p2, p3⟩ := own_slice q.row
        exact ⟨p1, _, p2, p3⟩
    obtain ⟨xa, xn, xc, rfl⟩ := hsl
    exact ⟨xa, xn, xc, rfl, hor, hb⟩
  rw [← hCS]
  clear h hsz hn0 h1 h2 hT hm hsm hmy hdv hall m1 m2 hN hN1 hN2 hCS hA hw0 e0 hsx hOV
  refine (callsIn_wide (n := 2)).1 (callsIn_of_wp_marks Tryz.func16 rfl trivial ?_ rfl)
  simp only [Tryz.ntmps16, List.size_toArray, List.length_cons, List.length_nil, Nat.reduceAdd, Nat.reduceSub, Array.replicate_succ, Array.replicate_zero, List.push_toArray, List.append_toArray, List.nil_append, List.cons_append]
  refine wpIn_wide.2 ?_
  go_upto_region 1 with fail
  rw [← (unhide HW).2, show A + 1 + 1 = A + 2 from rfl]
  rw [← (unhide HW).1]
  clear HW
  go_wp2_with fail
  refine (unhide HKC).mono ?_
  rintro e w1 ⟨rfl, b1⟩
  have e1 := (unhide HE0).new b1
  have y0 := blk_c (i := 0) (show w1.heap[A]? = some (.cells #[.slice a1 N1 c1] 30 (0, 0)) from e1.nthR 2 rfl) rfl
  have y1 := blk_c (i := 0) (show w1.heap[A + 1]? = some (.cells #[.slice a2 N2 c2] 30 (0, 0)) from e1.nthR 1 rfl) rfl
  have HKD1 := hide (unhide HKD w1 e1.bel)
  have HE1 := hide e1
  clear HKC HKD HE0 b1 e1 x0 x1
  go_wp2_with fail
  refine (unhide HKD1).mono ?_
  rintro e w2 ⟨rfl, b2⟩
  have e2 := (unhide HE1).new b2
  have HKL2 := hide (unhide HKL w2 e2.bel)
  have HE2 := hide e2
  clear HKD1 HKL HE1 b2 e2 y0 y1
  go_wp2_with fail
  refine (unhide HKL2).mono ?_
  rintro e w3 ⟨xa, xc, xs3, rfl, ho3, b3⟩
  have e3 := ((unhide HE2).add (rsX (.slice xa N xc) l xs3) b3 (ho3.mono (Nat.zero_le _)) (fun z hz => (ho3.lt z hz).1)).newC #[.slice xa N xc] 27
  obtain ⟨nb, hnb⟩ : ∃ nb, nb = w3.heap.size := ⟨_, rfl⟩
  obtain ⟨w4, hw4⟩ : ∃ w4, w4 = w3.alloc (.cells #[.slice xa N xc] 27) := ⟨_, rfl⟩
  rw [← hnb, ← hw4] at e3
  have z0 := blk_c (i := 0) (show w4.heap[A]? = some (.cells #[.slice a1 N1 c1] 30 (0, 0)) from e3.nthR 4 rfl) rfl
  have z1 := blk_c (i := 0) (show w4.heap[A + 1]? = some (.cells #[.slice a2 N2 c2] 30 (0, 0)) from e3.nthR 3 rfl) rfl
  have HE3 := hide e3
  have HW4 := hide (And.intro hw4 hnb)
  clear HKL2 HE2 b3 e3 ho3 hw4 hnb
  go_upto_region 4 with fail
  rw [← (unhide HW4).1, ← (unhide HW4).2]
  clear HW4
  go_wp2_with fail
  refine (roMembers_any _ _ _).mono ?_
  rintro e w5 ⟨rfl, hw5⟩
  have e5 := ((unhide HE3).newC #[.slice a1 N1 c1] 30).newC #[.slice a2 N2 c2] 30
  simp only [World.size_alloc] at e5
  rw [← hw5] at e5
  obtain ⟨tb, htb⟩ : ∃ tb, tb = w4.heap.size := ⟨_, rfl⟩
  rw [← htb] at e5
  have hA1 : w.heap.size ≤ w4.heap.size := (unhide HE3).bel.size
  have hs5 : w5.heap.size = tb + 2 := by rw [hw5, htb]; simp
  have HSQ5 := hide (unhide HSQ w5 tb e5.bel (e5.nthR 1 rfl) (e5.nthR 0 rfl))
  obtain ⟨RS, hRS⟩ : ∃ RS : List Res, RS = [rsC (A + 2) CS.toArray 50, rsC (A + 1) #[.slice a2 N2 c2] 30, rsC A #[.slice a1 N1 c1] 30, rsC tb #[.slice a1 N1 c1] 30, rsC (tb + 1) #[.slice a2 N2 c2] 30] := ⟨_, rfl⟩
  have hsolR : ∀ r ∈ RS, SolidR r := fun r hr => by
    rw [hRS] at hr
    simp only [List.mem_cons, List.not_mem_nil, or_false] at hr
    rcases hr with rfl | rfl | rfl | rfl | rfl
    all_goals exact solidR_C _ _ _
  have hsol : ∀ qv ql xv L ys, ∀ r ∈ rsI qv ql :: rsX xv L ys :: rsC nb #[xv] 27 :: RS, SolidR r := fun qv ql xv L ys r hr => by
    simp only [List.mem_cons] at hr
    rcases hr with rfl | rfl | rfl | hr
    · exact solidR_I _ _
    · exact solidR_X _ _ _
    · exact solidR_C _ _ _
    · exact hsolR r hr
  have eI : Env w w5 (rsI (.slice none 0 0) [] :: rsX (.slice xa N xc) (stls l m T2 (OV.take 0)) xs3 :: rsC nb #[.slice xa N xc] 27 :: RS) := by
    rw [hRS]
    exact (((((((e5.upR 1 rfl).upR 6 rfl).upR 6 rfl).upR 6 rfl).upR 5 rfl).upR 6 rfl) |> fun q => q).nilI
  have hbD : ∀ D, w5.heap.size ≤ D → w.heap.size ≤ D := fun D hD => by omega
  have HI0 := hide eI
  have HSZ : Hid (nb < tb ∧ A + 2 < tb) := by
    have q1 := lt_of_blk (show w4.heap[nb]? = some _ from (unhide HE3).nthR 0 rfl)
    have q2 := lt_of_blk (show w4.heap[A + 2]? = some _ from (unhide HE3).nthR 2 rfl)
    exact ⟨by omega, by omega⟩
  clear HE3 e5 eI z0 z1 HSQ
  go_wp2_with fail
  rw [← hw5, ← htb]
  clear hw5 htb hs5 hA1
  refine range_ownR (unhide HSQ5) rfl (enters_of Tryz.func158 (by kernel_rfl) rfl) (fun _ => rfl)
    (fun k qv ql X => ∃ xa xn xc ys, Env w X (rsI qv ql :: rsX (.slice xa xn xc) (stls l m T2 (OV.take k)) ys :: rsC nb #[.slice xa xn xc] 27 :: RS))
    (fun k X => False)
    (fun k qv ql A B hi hb => by obtain ⟨xa, xn, xc, ys, hE⟩ := hi; exact ⟨xa, xn, xc, ys, hE.new hb⟩)
    (fun k qv ql A B hi hb hq => by obtain ⟨xa, xn, xc, ys, hE⟩ := hi; exact ⟨xa, xn, xc, ys, hE.swapI hb hq⟩)
    (fun k qv ql A hi => by obtain ⟨xa, xn, xc, ys, hE⟩ := hi; exact hE.hd)
    (fun k qv ql A b o o' hb hi hA ho => by obtain ⟨xa, xn, xc, ys, hE⟩ := hi; exact ⟨xa, xn, xc, ys, hE.putL (hsol _ _ _ _ _) hA ho (hbD b hb)⟩)
    (fun k A b o o' hb hi hA ho => hi)
    (fun A b o o' hb hi hA ho => trivial)
    ⟨xa, N, xc, xs3, unhide HI0⟩
    (fun k => { tmps := #[.slice av N cv, .agg #[.slice a1 N1 c1], .agg #[.slice a2 N2 c2], .agg CS.toArray, undef, .pointer (some ⟨A, 0, none⟩), .pointer (some ⟨A + 1, 0, none⟩), .pointer (some ⟨A + 2, 0, none⟩), .slice none 0 0, .int .i64 0, .pointer (some ⟨nb, 0, none⟩), .int .i64 (nthR OV k), .slice av N cv, .int .i64 0, .bool false, .bool false, .agg #[.slice a1 N1 c1], .agg #[.slice a2 N2 c2], .bool true, .bool false, .bool false, .slice av N cv, .slice xa N xc, .agg #[.slice a1 N1 c1], .agg #[.slice a2 N2 c2], .func (.func 158) #[] #[.pointer (some ⟨tb, 0, none⟩), .pointer (some ⟨tb + 1, 0, none⟩)], .int .i64 (nthR OV k), undef, undef, undef, undef, undef, undef, undef, undef, undef], defers := [] })
    ?assign ?body ?done ?stop
  case assign =>
    intro l k X K hK
    unfold encR
    gi_wp2
    exact hK
  case body =>
    rintro D ll k qv ql X r hD rfl hk ⟨xo, xp, xq, ys, hE⟩ - hl hDd
    have hdk : OV[k]? = some (nthR OV k) := by rw [nthR, List.getD_eq_getElem?_getD, List.getElem?_eq_getElem hk]; rfl
    have EL := hE.addL (hsol _ _ _ _ _) hDd hl rfl rfl (hbD _ hD) (by have := hbD _ hD; omega)
    obtain ⟨d, hd⟩ : ∃ d, d = nthR OV k := ⟨_, rfl⟩
    rw [← hd] at hdk ⊢
    obtain ⟨FD, hFD⟩ : ∃ f, f = fnd T2 d := ⟨_, rfl⟩
    have HZ : Hid (∀ z, Below X.heap.size X z → (z.rangeAt (A + 2) 0 CS ∧ z.cell? ⟨A + 1, 0, none⟩ = some (.slice a2 N2 c2)) ∧ z.cell? ⟨nb, 0, none⟩ = some (.slice xo xp xq) ∧ z.frozen? ⟨nb, 0, none⟩ = false) := fun z hz => by
      have E := EL.new hz
      have kn : z.heap[nb]? = some (.cells #[.slice xo xp xq] 27 (0, 0)) := E.nthR 3 rfl
      rw [hRS] at E
      exact ⟨⟨blk_rng (show z.heap[A + 2]? = some (.cells CS.toArray 50 (0, 0)) from E.nthR 4 rfl) (fun j u hu => by rw [Nat.zero_add]; exact hu), blk_c (i := 0) (show z.heap[A + 1]? = some (.cells #[.slice a2 N2 c2] 30 (0, 0)) from E.nthR 5 rfl) rfl⟩, blk_c (i := 0) kn rfl, froz_b' (i := 0) kn⟩
    have KFd : Hid (Calls Tryz.prog 40 #[.agg #[.slice a2 N2 c2], .int .i64 d] X.drew fun e w' => e = .returned (.int .i64 FD) ∧ Below X.drew.heap.size X.drew w') := by
      rw [hFD]; exact unhide HFd X.drew d (EL.new (bw_drewR X)).bel
    have KSt : Hid (∀ z, Below X.heap.size X z → Calls Tryz.prog 39 #[.slice xo xp xq, .int .i64 d, .agg CS.toArray, .bool (decide (0 ≤ FD))] z fun e w' => ∃ xa xn xc, e = .returned (.slice xa xn xc) ∧ ∃ xs', Env w w' (rsL D (D + 1) (.deferred (some [])) (.loop r) :: rsI qv ql :: rsX (.slice xa xn xc) (stls l m T2 (OV.take (k + 1))) xs' :: rsC nb #[.slice xo xp xq] 27 :: RS) ∧ Below z.heap.size z w') := fun z hz => by
      have E := EL.new hz
      rw [hFD]
      refine Calls.mono (unhide HSt z k d _ ys E.bel hk hdk (E.nthR 2 rfl)) ?_
      rintro e w' ⟨xa, xn, xc, rfl, hor, hb⟩
      refine ⟨xa, xn, xc, rfl, ?_⟩
      rcases hor with ⟨q1, q2⟩ | ⟨xs', q⟩
      · rw [q1, q2]
        exact ⟨ys, E.new hb, hb⟩
      · exact ⟨xs', (((E.upR 2 rfl).swapX hb q).upR 2 rfl).upR 2 rfl, hb⟩
    have HE3 : Hid (∀ (z : World) (xa : Option Addr) (xn xc : Nat) (xs' : List (Value × List Mx)), Env w z (rsL D (D + 1) (.deferred (some [])) (.loop r) :: rsI qv ql :: rsX (.slice xa xn xc) (stls l m T2 (OV.take (k + 1))) xs' :: rsC nb #[.slice xo xp xq] 27 :: RS) → Env w (z.setCell ⟨nb, 0, none⟩ (.slice xa xn xc)) (rsL D (D + 1) (.deferred (some [])) (.loop r) :: rsI qv ql :: rsX (.slice xa xn xc) (stls l m T2 (OV.take (k + 1))) xs' :: rsC nb #[.slice xa xn xc] 27 :: RS)) := fun z xa xn xc xs' E =>
      ((((E.upR 3 rfl).pokeC (i := 0) (.slice xa xn xc)).upR 3 rfl).upR 3 rfl).upR 3 rfl
    have HZ2 : Hid (∀ (z : World) (xa : Option Addr) (xn xc : Nat) (xs' : List (Value × List Mx)), Below X.heap.size X z → Env w z (rsL D (D + 1) (.deferred (some [])) (.loop r) :: rsI qv ql :: rsX (.slice xa xn xc) (stls l m T2 (OV.take (k + 1))) xs' :: rsC nb #[.slice xo xp xq] 27 :: RS) → (z.setCell ⟨nb, 0, none⟩ (.slice xa xn xc)).rangeAt (A + 2) 0 CS ∧ (z.setCell ⟨nb, 0, none⟩ (.slice xa xn xc)).cell? ⟨A + 1, 0, none⟩ = some (.slice a2 N2 c2)) := fun z xa xn xc xs' _ E0 => by
      have E := unhide HE3 z xa xn xc xs' E0
      rw [hRS] at E
      exact ⟨blk_rng (show (z.setCell ⟨nb, 0, none⟩ (.slice xa xn xc)).heap[A + 2]? = some (.cells CS.toArray 50 (0, 0)) from E.nthR 4 rfl) (fun j u hu => by rw [Nat.zero_add]; exact hu), blk_c (i := 0) (show (z.setCell ⟨nb, 0, none⟩ (.slice xa xn xc)).heap[A + 1]? = some (.cells #[.slice a2 N2 c2] 30 (0, 0)) from E.nthR 5 rfl) rfl⟩
    have HP : Hid (∀ (z : World) (xa : Option Addr) (xn xc : Nat) (xs' : List (Value × List Mx)), Below X.heap.size X z → Env w z (rsL D (D + 1) (.deferred (some [])) (.loop r) :: rsI qv ql :: rsX (.slice xa xn xc) (stls l m T2 (OV.take (k + 1))) xs' :: rsC nb #[.slice xo xp xq] 27 :: RS) → ∀ a, postR (fun k qv ql X => ∃ xa xn xc ys, Env w X (rsI qv ql :: rsX (.slice xa xn xc) (stls l m T2 (OV.take k)) ys :: rsC nb #[.slice xa xn xc] 27 :: RS)) (fun _ _ => False) (fun _ => True) D (D + 1) k qv ql X .normal a (z.setCell ⟨nb, 0, none⟩ (.slice xa xn xc))) := fun z xa xn xc xs' _ E0 a => by
      have E := unhide HE3 z xa xn xc xs' E0
      have L2 : (z.setCell ⟨nb, 0, none⟩ (.slice xa xn xc)).heap[D]? = some (.deferred (some [])) ∧ (z.setCell ⟨nb, 0, none⟩ (.slice xa xn xc)).heap[D + 1]? = some (.loop r) := E.hd
      exact ⟨L2.2.trans hl.symm, L2.1.trans hDd.symm, trivial, xa, xn, xc, xs', E.drop⟩
    obtain ⟨s0, n0, -⟩ := unhide HZ X.drew (bw_drewR X)
    clear hE EL hdk hd hFD hl hDd HE3 HFd HSt hk
    refine wpIn_block ?_
    refine region_round ?hm ?hd ?hl ?_
    case hm => kernel_rfl
    case hd => kernel_rfl
    case hl => (rintro ⟨_, _, h⟩; exact h)
    refine wpAny_of_held (S := fun w' : World => w'.rangeAt (A + 2) 0 CS ∧ w'.cell? ⟨A + 1, 0, none⟩ = some (.slice a2 N2 c2)) _ _ _ _ ?_
    refine wpAnyH_take (i := 1) (oi := { dst := some 28, op := Op.move (Operand.tmp 11), type := 3, pos := "roster.go:62", after := #[], guard := none }) (v := ?v1a) rfl (by kernel_rfl) (by kernel_rfl) (by kernel_rfl) (fun _ _ _ h => h) (Or.inl ⟨by rfl, ?hy1a⟩) (by exact s0) ?_
    case hy1a => (intro w hSw; obtain ⟨hs1, hs2⟩ := hSw; go_simp; try (with_reducible rfl))
    try simp only [Act.put, List.setIfInBounds_toArray, List.set_cons_zero, List.set_cons_succ]
    refine wpAnyH_take (i := 2) (oi := { dst := some 29, op := Op.load 50 (Operand.tmp 7), type := 50, pos := "roster.go:62", after := #[], guard := none }) (v := .agg CS.toArray) rfl (by kernel_rfl) (by kernel_rfl) (by kernel_rfl) (fun _ _ _ h => h) (yieldsIf_load_mid (by rfl) 50 (.tmp 7) rfl (A + 2) 0 (by rfl) CS _ (fun _ h => h.1) Tryz.underlying50 rfl (unhide HI)) (by exact s0) ?_
    try simp only [Act.put, List.setIfInBounds_toArray, List.set_cons_zero, List.set_cons_succ]
    refine wpAnyH_take (i := 3) (oi := { dst := some 30, op := Op.load 30 (Operand.tmp 6), type := 30, pos := "roster.go:62", after := #[], guard := none }) (v := ?v3a) rfl (by kernel_rfl) (by kernel_rfl) (by kernel_rfl) (fun _ _ _ h => h) (Or.inl ⟨by rfl, ?hy3a⟩) (by exact s0) ?_
    case hy3a => (intro w hSw; obtain ⟨hs1, hs2⟩ := hSw; go_simp; try (with_reducible rfl))
    try simp only [Act.put, List.setIfInBounds_toArray, List.set_cons_zero, List.set_cons_succ]
    refine wpAnyH_take (i := 4) (oi := { dst := some 31, op := Op.move (Operand.tmp 11), type := 3, pos := "roster.go:62", after := #[], guard := none }) (v := ?v4a) rfl (by kernel_rfl) (by kernel_rfl) (by kernel_rfl) (fun _ _ _ h => h) (Or.inl ⟨by rfl, ?hy4a⟩) (by exact s0) ?_
    case hy4a => (intro w hSw; obtain ⟨hs1, hs2⟩ := hSw; go_simp; try (with_reducible rfl))
    try simp only [Act.put, List.setIfInBounds_toArray, List.set_cons_zero, List.set_cons_succ]
    refine wpAnyH_ready (rs := [0, 5]) (by kernel_rfl) (by simp) ?_
    refine AllReadyH.cons (o := { dst := some 27, op := Op.load 27 (Operand.tmp 10), type := 27, pos := "roster.go:62", after := #[], guard := none }) rfl (fun K hK => ?_) (AllReadyH.cons (o := { dst := some 32, op := Op.call { callee := Callee.value (Operand.func 40), args := #[Operand.tmp 30, Operand.tmp 31], argTypes := #[30, 3] }, type := 3, pos := "roster.go:62", after := #[{ on := 3, ground := Ground.data }, { on := 4, ground := Ground.data }], guard := none }) rfl (fun K hK => ?_) AllReadyH.nil)
    · go_simp
      refine hK.out _ _ s0 (fun _ => ?_)
      clear hK K
      try simp only [Act.put, List.setIfInBounds_toArray, List.set_cons_zero, List.set_cons_succ]
      refine wpAnyH_ready (rs := [5]) (by kernel_rfl) (by simp) ?_
      refine AllReadyH.cons (o := { dst := some 32, op := Op.call { callee := Callee.value (Operand.func 40), args := #[Operand.tmp 30, Operand.tmp 31], argTypes := #[30, 3] }, type := 3, pos := "roster.go:62", after := #[{ on := 3, ground := Ground.data }, { on := 4, ground := Ground.data }], guard := none }) rfl (fun K hK => ?_) AllReadyH.nil
      go_simp
      refine (unhide KFd).mono ?_
      rintro e z1 ⟨rfl, b1⟩
      have bz1 := bw_tr (bw_drewR X) b1
      obtain ⟨s1, n1, -⟩ := unhide HZ z1 bz1
      go_wp2_with fail
      refine hK.out _ _ s1 (fun _ => ?_)
      clear hK K
      try simp only [Act.put, List.setIfInBounds_toArray, List.set_cons_zero, List.set_cons_succ]
      refine wpAnyH_take (i := 6) (oi := { dst := some 33, op := Op.binOp BinOp.geq 3 (Operand.tmp 32) (Operand.const (Value.int IntKind.i64 0)) 3, type := 4, pos := "roster.go:62", after := #[{ on := 5, ground := Ground.data }], guard := none }) (v := ?v6b) rfl (by kernel_rfl) (by kernel_rfl) (by kernel_rfl) (fun _ _ _ h => h) (Or.inl ⟨by rfl, ?hy6b⟩) (by exact s1) ?_
      case hy6b => (intro w hSw; obtain ⟨hs1, hs2⟩ := hSw; go_simp; try (with_reducible rfl))
      try simp only [Act.put, List.setIfInBounds_toArray, List.set_cons_zero, List.set_cons_succ]
      refine wpAnyH_ready (rs := [7]) (by kernel_rfl) (by simp) ?_
      refine AllReadyH.cons (o := { dst := some 34, op := Op.call { callee := Callee.value (Operand.func 39), args := #[Operand.tmp 27, Operand.tmp 28, Operand.tmp 29, Operand.tmp 33], argTypes := #[27, 3, 50, 4] }, type := 27, pos := "roster.go:62", after := #[{ on := 0, ground := Ground.data }, { on := 1, ground := Ground.data }, { on := 2, ground := Ground.data }, { on := 6, ground := Ground.data }, { on := 5, ground := Ground.chain }], guard := none }) rfl (fun K hK => ?_) AllReadyH.nil
      go_simp
      refine (unhide KSt z1 bz1).mono ?_
      rintro e z2 ⟨xa', xn', xc', rfl, xs', hE2, b2⟩
      have bz2 := bw_tr bz1 b2
      obtain ⟨s2, n2, f2⟩ := unhide HZ z2 bz2
      go_wp2_with fail
      refine hK.out _ _ s2 (fun _ => ?_)
      clear hK K
      try simp only [Act.put, List.setIfInBounds_toArray, List.set_cons_zero, List.set_cons_succ]
      refine wpAnyH_ready (rs := [8]) (by kernel_rfl) (by simp) ?_
      refine AllReadyH.cons (o := { dst := none, op := Op.store 27 (Operand.tmp 10) (Operand.tmp 34), type := 0, pos := "roster.go:62", after := #[{ on := 7, ground := Ground.data }, { on := 7, ground := Ground.chain }, { on := 0, ground := Ground.phase }, { on := 1, ground := Ground.phase }, { on := 2, ground := Ground.phase }, { on := 3, ground := Ground.phase }, { on := 4, ground := Ground.phase }, { on := 5, ground := Ground.phase }, { on := 6, ground := Ground.phase }, { on := 7, ground := Ground.phase }], guard := none }) rfl (fun K hK => ?_) AllReadyH.nil
      go_simp
      refine hK.out _ _ (unhide HZ2 z2 xa' xn' xc' xs' bz2 hE2) (fun _ => ?_)
      clear hK K
      try simp only [Act.put, List.setIfInBounds_toArray, List.set_cons_zero, List.set_cons_succ]
      refine wpAnyH_done (by kernel_rfl) ?_ _
      exact unhide HP z2 xa' xn' xc' xs' bz2 hE2 { tmps := #[], defers := [] }
    · go_simp
      refine (unhide KFd).mono ?_
      rintro e z1 ⟨rfl, b1⟩
      have bz1 := bw_tr (bw_drewR X) b1
      obtain ⟨s1, n1, -⟩ := unhide HZ z1 bz1
      go_wp2_with fail
      refine hK.out _ _ s1 (fun _ => ?_)
      clear hK K
      try simp only [Act.put, List.setIfInBounds_toArray, List.set_cons_zero, List.set_cons_succ]
      refine wpAnyH_take (i := 6) (oi := { dst := some 33, op := Op.binOp BinOp.geq 3 (Operand.tmp 32) (Operand.const (Value.int IntKind.i64 0)) 3, type := 4, pos := "roster.go:62", after := #[{ on := 5, ground := Ground.data }], guard := none }) (v := ?v6c) rfl (by kernel_rfl) (by kernel_rfl) (by kernel_rfl) (fun _ _ _ h => h) (Or.inl ⟨by rfl, ?hy6c⟩) (by exact s1) ?_
      case hy6c => (intro w hSw; obtain ⟨hs1, hs2⟩ := hSw; go_simp; try (with_reducible rfl))
      try simp only [Act.put, List.setIfInBounds_toArray, List.set_cons_zero, List.set_cons_succ]
      refine wpAnyH_ready (rs := [0]) (by kernel_rfl) (by simp) ?_
      refine AllReadyH.cons (o := { dst := some 27, op := Op.load 27 (Operand.tmp 10), type := 27, pos := "roster.go:62", after := #[], guard := none }) rfl (fun K hK => ?_) AllReadyH.nil
      go_simp
      refine hK.out _ _ s1 (fun _ => ?_)
      clear hK K
      try simp only [Act.put, List.setIfInBounds_toArray, List.set_cons_zero, List.set_cons_succ]
      refine wpAnyH_ready (rs := [7]) (by kernel_rfl) (by simp) ?_
      refine AllReadyH.cons (o := { dst := some 34, op := Op.call { callee := Callee.value (Operand.func 39), args := #[Operand.tmp 27, Operand.tmp 28, Operand.tmp 29, Operand.tmp 33], argTypes := #[27, 3, 50, 4] }, type := 27, pos := "roster.go:62", after := #[{ on := 0, ground := Ground.data }, { on := 1, ground := Ground.data }, { on := 2, ground := Ground.data }, { on := 6, ground := Ground.data }, { on := 5, ground := Ground.chain }], guard := none }) rfl (fun K hK => ?_) AllReadyH.nil
      go_simp
      refine (unhide KSt z1 bz1).mono ?_
      rintro e z2 ⟨xa', xn', xc', rfl, xs', hE2, b2⟩
      have bz2 := bw_tr bz1 b2
      obtain ⟨s2, n2, f2⟩ := unhide HZ z2 bz2
      go_wp2_with fail
      refine hK.out _ _ s2 (fun _ => ?_)
      clear hK K
      try simp only [Act.put, List.setIfInBounds_toArray, List.set_cons_zero, List.set_cons_succ]
      refine wpAnyH_ready (rs := [8]) (by kernel_rfl) (by simp) ?_
      refine AllReadyH.cons (o := { dst := none, op := Op.store 27 (Operand.tmp 10) (Operand.tmp 34), type := 0, pos := "roster.go:62", after := #[{ on := 7, ground := Ground.data }, { on := 7, ground := Ground.chain }, { on := 0, ground := Ground.phase }, { on := 1, ground := Ground.phase }, { on := 2, ground := Ground.phase }, { on := 3, ground := Ground.phase }, { on := 4, ground := Ground.phase }, { on := 5, ground := Ground.phase }, { on := 6, ground := Ground.phase }, { on := 7, ground := Ground.phase }], guard := none }) rfl (fun K hK => ?_) AllReadyH.nil
      go_simp
      refine hK.out _ _ (unhide HZ2 z2 xa' xn' xc' xs' bz2 hE2) (fun _ => ?_)
      clear hK K
      try simp only [Act.put, List.setIfInBounds_toArray, List.set_cons_zero, List.set_cons_succ]
      refine wpAnyH_done (by kernel_rfl) ?_ _
      exact unhide HP z2 xa' xn' xc' xs' bz2 hE2 { tmps := #[], defers := [] }
  case done =>
    rintro D qv ql X hD ⟨xa', xn', xc', ys, hE⟩ hK
    have b2 : X.heap[nb]? = some (.cells #[.slice xa' xn' xc'] 27 (0, 0)) := hE.nthR 2 rfl
    have cc := blk_c (i := 0) b2 rfl
    have E1 : Env w X (rsX (.slice xa' xn' xc') (stls l m T2 OV) ys :: rsC nb #[.slice xa' xn' xc'] 27 :: RS) := by
      have := hE.drop
      rw [List.take_length] at this
      exact this
    have HL : Hid (∀ (tmps : Array Value), tmps[8]?.getD undef = .slice xa' xn' xc' → tmps[9]?.getD undef = .int .i64 0 → LeavesInM Fence.wide 2 Tryz.prog Tryz.f16 tmps (fun e W' => ∃ v' er, e = .returned (.tuple #[v', .int .i64 er]) ∧ Below w.heap.size w W' ∧ (er = 0 ∧ ∃ xs', OwL kBx 0 W' v' (stls l m T2 OV) xs' ∧ ∀ z ∈ zK kBx v' xs', w.heap.size ≤ z)) [{ target := .collected D, args := #[] }] .returning X) := fun tmps h8 h9 =>
      settle_leave E1 (fun r hr => by
        rcases List.mem_cons.1 hr with rfl | hr
        · exact solidR_C _ _ _
        · exact hsolR r hr) hK (hbD D hD) h8 h9
    clear hE hK E1 b2
    go_wp2_with fail
    exact unhide HL _ rfl rfl
  case stop =>
    rintro D k X hD hk hf
    exact hf.elim
end Go.Proofs.YtihniafidgjlcaaGreatDoor

/- Devices of package roster; Settle, whatever comes of it. -/
namespace Go.Proofs.YtihniafidgjlcaaGreatDoor
open Go.RowKit Go.Maps
def dvL (l : List Bx) (u : Int) : List Int := (l.filter fun b => decide (b.dev.tdiv 8 = u) && !b.out).map (·.dev)
theorem dvL_snoc (l : List Bx) (u : Int) (i : Nat) {b : Bx} (h : l[i]? = some b) : dvL (l.take (i + 1)) u = dvL (l.take i) u ++ (if b.dev.tdiv 8 = u ∧ b.out = false then [b.dev] else []) := by
  unfold dvL
  rw [List.take_add_one, h, List.filter_append, List.map_append]
  congr 1
  simp only [Option.toList_some]
  by_cases c1 : b.dev.tdiv 8 = u <;> cases c2 : b.out <;> simp [c1, c2]
set_option maxRecDepth 100000 in
set_option maxHeartbeats 4000000 in
theorem devices_any {w : World} {v : Value} {l : List Bx} {xs : List (Value × List Mx)} (h : RdL kBx w v l xs) (hs : SmX l) (u : Int) :
    Calls Tryz.prog 32 #[v, .int .i64 u] w fun e w' => ∃ v' er, e = .returned (.tuple #[v', .int .i64 er]) ∧ Below w.heap.size w w' ∧ ((er = 1 ∧ (mayX l = false ∨ usrOk u = false) ∧ v' = .slice none 0 0) ∨ (er = 0 ∧ mayP l ∧ usrOk u = true ∧ Ints w.heap.size w' v' (dvL l u))) := by
  obtain ⟨i0, hi0, hz0, hz1, hz2⟩ := info_parts Tryz.infoInt
  have K1 := poCheck_any h hs.n
  obtain ⟨a, cap, hv⟩ := rdl_slice h
  obtain ⟨N, hN⟩ : ∃ N, N = l.length := ⟨_, rfl⟩
  rw [← hN] at hv
  subst hv
  have hNI : (N : Int) ≤ 1073741824 := by have := hs.n; omega
  obtain ⟨r, hr⟩ : ∃ r, r = mayX l := ⟨_, rfl⟩
  rw [← hr] at K1
  have HH := hide (And.intro h (And.intro hN hr))
  have HKU : Hid (∀ W, Calls Tryz.prog 29 #[.int .i64 u] W fun e w' => e = .returned (.bool (usrOk u)) ∧ w' = W) := fun W => roIsUser_any u W
  clear h hs hN hr
  cases r with
  | false =>
    have K1' : Hid (Calls Tryz.prog 17 #[.slice a N cap] w fun e w' => e = .returned (.int .i64 1) ∧ Below w.heap.size w w') := K1
    clear K1 HKU
    go_enter Tryz.func32, Tryz.ntmps32
    go_wp2_with fail
    refine (unhide K1').mono ?_
    rintro e w1 ⟨rfl, b1⟩
    have HB := hide b1
    clear b1 K1'
    go_wp2_with fail
    go_ret2
    exact ⟨_, 1, rfl, unhide HB, Or.inl ⟨rfl, Or.inl (unhide HH).2.2.symm, rfl⟩⟩
  | true =>
    have K1' : Hid (Calls Tryz.prog 17 #[.slice a N cap] w fun e w' => e = .returned (.int .i64 0) ∧ Below w.heap.size w w') := K1
    clear K1
    have hmy := mayX_iff.1 (unhide HH).2.2.symm
    have HM := hide hmy
    obtain ⟨q, hq⟩ : ∃ q, q = usrOk u := ⟨_, rfl⟩
    rw [← hq] at HKU
    have HQ := hide hq
    clear hq
    cases q with
    | false =>
      go_enter Tryz.func32, Tryz.ntmps32
      go_wp2_with fail
      refine (unhide K1').mono ?_
      rintro e w1 ⟨rfl, b1⟩
      have HB := hide b1
      clear b1 K1' hmy
      go_wp2_with fail
      refine (unhide HKU w1).mono ?_
      rintro e w2 ⟨rfl, rfl⟩
      go_wp2_with fail
      go_ret2
      exact ⟨_, 1, rfl, unhide HB, Or.inl ⟨rfl, Or.inr (unhide HQ).symm, rfl⟩⟩
    | true =>
      go_enter Tryz.func32, Tryz.ntmps32
      go_wp2_with fail
      refine (unhide K1').mono ?_
      rintro e w1 ⟨rfl, b1⟩
      have HB := hide b1
      clear b1 K1' hmy
      go_wp2_with fail
      refine (unhide HKU w1).mono ?_
      rintro e w2 ⟨rfl, hw2⟩
      subst hw2
      clear HKU
      go_wp2_with fail
      go_loopw [6, 21] (fun ov iv wr => ∃ (i : Nat) (oa : Option Addr) (on oc : Nat), ov = .slice oa on oc ∧ iv = .int .i64 (i : Int) ∧ i ≤ N ∧ Hid (Below w.heap.size w wr ∧ Ints w.heap.size wr (.slice oa on oc) (dvL (l.take i) u))) (fun _ iv _ => (N - intOf iv).toNat)
      case atStart => exact ⟨0, none, 0, 0, rfl, rfl, Nat.zero_le _, unhide HB, by simpa [dvL] using ints_nil _ _⟩
      case round =>
        clear HB
        obtain ⟨i, oa, on, oc, rfl, rfl, hi, HR⟩ := hrel
        by_cases hlt : i < N
        · have hiI : (i : Int) < (N : Int) := by omega
          have h0 : (0 : Int) ≤ (i : Int) := by omega
          obtain ⟨h, hN, -⟩ := unhide HH
          obtain ⟨p, hp⟩ : ∃ p, l[i]? = some p := ⟨_, List.getElem?_eq_getElem (by omega)⟩
          obtain ⟨gb, o, x, rfl, hx, hR, hc⟩ := h.get hp
          obtain ⟨a2, c2, hcv2⟩ := rdl_slice hR.1
          have hok := (unhide HM i p hp).1
          obtain ⟨pd, hpd⟩ : ∃ z, z = p.dev := ⟨_, rfl⟩
          obtain ⟨ou, hou⟩ : ∃ z, z = p.out := ⟨_, rfl⟩
          obtain ⟨dn, hdn⟩ : ∃ z, z = p.dn := ⟨_, rfl⟩
          obtain ⟨M, hM⟩ : ∃ z, z = p.ml.length := ⟨_, rfl⟩
          have d0 : w.cell? ⟨gb, o + i * 4, none⟩ = some (.int .i64 pd) := by rw [hpd]; exact hc 0 _ rfl
          have d1 : w.cell? ⟨gb, o + i * 4 + 1, none⟩ = some (.bool ou) := by rw [hou]; exact hc 1 _ rfl
          have d2 : w.cell? ⟨gb, o + i * 4 + 2, none⟩ = some (.slice a2 M c2) := by rw [hM, ← hcv2]; exact hc 2 _ rfl
          have d3 : w.cell? ⟨gb, o + i * 4 + 3, none⟩ = some (.int .i64 dn) := by rw [hdn]; exact hc 3 _ rfl
          have f0 : wr.cell? ⟨gb, o + i * 4, none⟩ = some (.int .i64 pd) := by rw [(unhide HR).1.cell (lt_of_cell d0)]; exact d0
          have fo : wr.cell? ⟨gb, o + i * 4 + 1, none⟩ = some (.bool ou) := by rw [(unhide HR).1.cell (lt_of_cell d1)]; exact d1
          have f1 : wr.cell? ⟨gb, o + i * 4 + 2, none⟩ = some (.slice a2 M c2) := by rw [(unhide HR).1.cell (lt_of_cell d2)]; exact d2
          have f3 : wr.cell? ⟨gb, o + i * 4 + 3, none⟩ = some (.int .i64 dn) := by rw [(unhide HR).1.cell (lt_of_cell d3)]; exact d3
          obtain ⟨W1, hW1⟩ : ∃ W1, W1 = wr.alloc (.cells #[.int .i64 pd, .bool ou, .slice a2 M c2, .int .i64 dn] 109) := ⟨_, rfl⟩
          have bl : Below wr.heap.size wr W1 := by rw [hW1]; exact bwA _ _
          have kk : W1.heap[wr.heap.size]? = some (.cells #[.int .i64 pd, .bool ou, .slice a2 M c2, .int .i64 dn] 109 (0, 0)) := by rw [hW1]; exact heap_alloc_new _ _
          have g0 : W1.cell? ⟨wr.heap.size, 0, none⟩ = some (.int .i64 pd) := blk_c kk rfl
          have g1 : W1.cell? ⟨wr.heap.size, 1, none⟩ = some (.bool ou) := blk_c kk rfl
          have KU := roUser_any pd W1
          obtain ⟨uq, huq⟩ : ∃ z, z = pd.tdiv 8 := ⟨_, rfl⟩
          have hdv : devOk pd = true := by unfold devOk; rw [hpd]; exact decide_eq_true ⟨hok.1, hok.2.1⟩
          have eV : usrV pd = uq := by unfold usrV; rw [if_pos hdv]; exact huq.symm
          have eE : usrE pd = 0 := by unfold usrE; rw [if_pos hdv]
          rw [eV, eE] at KU
          have KUh := hide KU
          have hsn := dvL_snoc l u i hp
          rw [← hpd, ← hou, ← huq] at hsn
          have hI1 : Ints w.heap.size W1 (.slice oa on oc) (dvL (l.take i) u) := own_keep (unhide HR).2 (fun k hk => bl.block k (World.ownsRow.lt (unhide HR).2 k hk).2)
          have hB1 := bw_tr (unhide HR).1 bl
          have hlen : (dvL (l.take i) u).length ≤ 1073741824 := by
            have e1 : (dvL (l.take i) u).length ≤ (l.take i).length := by unfold dvL; rw [List.length_map]; exact List.length_filter_le _ _
            rw [List.length_take] at e1
            omega
          have HX := hide (And.intro hsn (And.intro hI1 (And.intro hB1 hlen)))
          have HW := hide hW1
          clear HR h hN hp hx hR hc hcv2 hok hpd hou hdn hM d0 d1 d2 d3 hW1 bl kk KU hdv eV eE hsn hI1 hB1 hlen huq
          go_upto_region 7 with fail
          rw [← unhide HW]
          clear HW f0 fo f1 f3
          go_wp2_with fail
          refine (unhide KUh).mono ?_
          rintro e W2 ⟨rfl, hW2⟩
          subst hW2
          clear KUh
          by_cases hu : uq = u
          · cases ou with
            | false =>
              have HE : Hid (dvL (l.take (i + 1)) u = dvL (l.take i) u ++ [pd]) := by rw [(unhide HX).1, if_pos ⟨hu, rfl⟩]; rfl
              have hu2 : (uq == u) = true := by simp [hu]
              have hu3 : decide (uq = u) = true := decide_eq_true hu
              obtain ⟨on', hon⟩ : ∃ n, n = (dvL (l.take i) u).length := ⟨_, rfl⟩
              go_wp2_with (at_builtin; refine wpList_append_own _ rfl (.tmp 39) (.tmp 42) 38 rfl w.heap.size 3 i0 (.int .i64 0) 1 8 Tryz.underlying38 hi0 hz0 hz1 hz2 rfl (by decide) (.slice oa on oc) (dvL (l.take i) u).length _ rfl (World.ownsRow.alloc (unhide HX).2.1 _) ⟨W2.heap.size, 0, none⟩ 1 1 [_] rfl rfl (cell_one_new _ _ _) ?c2 ?c3 ?c4 ?c5 ?nx)
              case c2 => intro y hy; simp at hy; subst hy; rfl
              case c3 => have := (unhide HX).2.2.2; unfold maxLen; omega
              case c4 => have := (unhide HX).2.2.2; omega
              case c5 => have := (unhide HX).2.2.1.size; simp; omega
              case nx =>
                intro v' w3 hown hgr _
                obtain ⟨oa', oc', hoe⟩ := own_slice hown
                have HR3 : Hid (Below w.heap.size w w3 ∧ Ints w.heap.size w3 v' (dvL (l.take (i + 1)) u)) := by
                  refine ⟨Fr.toBase (bw_tr (unhide HX).2.2.1 (bwA _ _)) (Fr.ofGrown hgr) (fun z hz => (World.ownsRow.lt (unhide HX).2.1 z (by simpa using hz)).1), ?_⟩
                  rw [unhide HE]
                  unfold Ints
                  rw [List.length_append, List.map_append]
                  exact hown
                subst hoe
                clear hown hgr HX HE hon g0 g1
                go_wp2_with fail
                go_roundw
                case rel => exact ⟨i + 1, _, _, _, rfl, by go_num, by omega, HR3⟩
                case measure => simp only [intOf]; omega
            | true =>
              have HR3 : Hid (Below w.heap.size w W2 ∧ Ints w.heap.size W2 (.slice oa on oc) (dvL (l.take (i + 1)) u)) := by
                rw [show dvL (l.take (i + 1)) u = dvL (l.take i) u by rw [(unhide HX).1, if_neg (by simp)]; simp]
                exact ⟨(unhide HX).2.2.1, (unhide HX).2.1⟩
              have hu2 : (uq == u) = true := by simp [hu]
              have hu3 : decide (uq = u) = true := decide_eq_true hu
              clear HX
              go_wp2_with fail
              go_roundw
              case rel => exact ⟨i + 1, _, _, _, rfl, by go_num, by omega, HR3⟩
              case measure => simp only [intOf]; omega
          · have HR3 : Hid (Below w.heap.size w W2 ∧ Ints w.heap.size W2 (.slice oa on oc) (dvL (l.take (i + 1)) u)) := by
              rw [show dvL (l.take (i + 1)) u = dvL (l.take i) u by rw [(unhide HX).1, if_neg (fun q => hu q.1)]; simp]
              exact ⟨(unhide HX).2.2.1, (unhide HX).2.1⟩
            have hu2 : (uq == u) = false := by simp [hu]
            have hu3 : decide (uq = u) = false := decide_eq_false hu
            clear HX
            go_wp2_with fail
            go_roundw
            case rel => exact ⟨i + 1, _, _, _, rfl, by go_num, by omega, HR3⟩
            case measure => simp only [intOf]; omega
        · obtain rfl : i = N := by omega
          have HR1 : Hid (Below w.heap.size w wr ∧ Ints w.heap.size wr (.slice oa on oc) (dvL l u)) := by
            have := unhide HR
            rw [List.take_of_length_le (by rw [(unhide HH).2.1]; exact Nat.le_refl _)] at this
            exact this
          clear HR
          go_wp2_with fail
          go_ret2
          exact ⟨_, 0, rfl, (unhide HR1).1, Or.inr ⟨rfl, unhide HM, (unhide HQ).symm, (unhide HR1).2⟩⟩
end Go.Proofs.YtihniafidgjlcaaGreatDoor

/- Settle, whatever comes of it; what is so of whoever does something at all: alive of layer 16. mkRoM.py writes it (out of RoM.part). -/
namespace Go.Proofs.YtihniafidgjlcaaGreatDoor
open Go.RowKit Go.Maps
theorem up_ext : ∀ {a b : List Int}, a.Pairwise (· < ·) → b.Pairwise (· < ·) → (∀ x, x ∈ a ↔ x ∈ b) → a = b
  | [], [], _, _, _ => rfl
  | [], y :: b, _, _, h => by have := (h y).2 (by simp); simp at this
  | x :: a, [], _, _, h => by have := (h x).1 (by simp); simp at this
  | x :: a, y :: b, ha, hb, h => by
    have ha1 := List.pairwise_cons.1 ha
    have hb1 := List.pairwise_cons.1 hb
    have hxy : x = y := by
      rcases List.mem_cons.1 ((h x).1 (by simp)) with q | q
      · exact q
      · rcases List.mem_cons.1 ((h y).2 (by simp)) with r | r
        · exact r.symm
        · have := hb1.1 x q; have := ha1.1 y r; omega
    subst hxy
    rw [up_ext ha1.2 hb1.2 (fun z => ?_)]
    constructor
    · intro hz
      have hne : z ≠ x := fun q => by subst q; have := ha1.1 z hz; omega
      rcases List.mem_cons.1 ((h z).1 (List.mem_cons_of_mem _ hz)) with q | q
      · exact absurd q hne
      · exact q
    · intro hz
      have hne : z ≠ x := fun q => by subst q; have := hb1.1 z hz; omega
      rcases List.mem_cons.1 ((h z).2 (List.mem_cons_of_mem _ hz)) with q | q
      · exact absurd q hne
      · exact q
def lvT : List Nd := [⟨1, 0, 0, []⟩, ⟨0, 0, 0, []⟩, ⟨2, 1, 0, []⟩]
def lvT1 : List Nd := [⟨1, 0, 0, []⟩]
theorem lv_uni0 : uni (mems []) (mems lvT) = [0, 1] := up_ext (uni_up _ _) (by decide) (fun x => by
  rw [uni_mem]
  have e1 : mems lvT = [0, 1] := by decide +kernel
  have e2 : mems [] = [] := by decide +kernel
  rw [e1, e2]
  simp)
theorem lv_uni1 : uni (mems lvT) (mems lvT1) = [0, 1] := up_ext (uni_up _ _) (by decide) (fun x => by
  rw [uni_mem]
  have e1 : mems lvT = [0, 1] := by decide +kernel
  have e2 : mems lvT1 = [0] := by decide +kernel
  rw [e1, e2]
  simp
  omega)
theorem lv_dv0 : dvB [] lvT = true := by
  unfold dvB
  rw [lv_uni0]
  decide +kernel
theorem lv_dv1 : dvB lvT lvT1 = true := by
  unfold dvB
  rw [lv_uni1]
  decide +kernel
theorem lv_trd {w : World} {nb : Nat} (h : w.heap[nb]? = some (.cells #[.int .i64 1, .int .i64 0, .int .i64 0, .slice none 0 0, .int .i64 0, .int .i64 0, .int .i64 0, .slice none 0 0, .int .i64 2, .int .i64 1, .int .i64 0, .slice none 0 0] 102 (0, 0))) : Trd w (.slice (some ⟨nb, 0, none⟩) 3 3) lvT ∧ Trd w (.slice (some ⟨nb, 0, none⟩) 1 3) lvT1 := by
  constructor
  · refine ⟨by simp [lvT], by simp [lvT], Or.inr ⟨nb, 0, 3, rfl, lt_of_blk h, fun i n hi => ?_⟩⟩
    match i, hi with
    | 0, hi => cases hi; exact ⟨.slice none 0 0, ⟨blk_c h rfl, blk_c h rfl, blk_c h rfl, blk_c h rfl⟩, Or.inl ⟨rfl, none, 0, rfl, fun _ => rfl⟩⟩
    | 1, hi => cases hi; exact ⟨.slice none 0 0, ⟨blk_c h rfl, blk_c h rfl, blk_c h rfl, blk_c h rfl⟩, Or.inl ⟨rfl, none, 0, rfl, fun _ => rfl⟩⟩
    | 2, hi => cases hi; exact ⟨.slice none 0 0, ⟨blk_c h rfl, blk_c h rfl, blk_c h rfl, blk_c h rfl⟩, Or.inl ⟨rfl, none, 0, rfl, fun _ => rfl⟩⟩
    | (i + 3), hi => simp [lvT] at hi
  · refine ⟨by simp [lvT1], by simp [lvT1], Or.inr ⟨nb, 0, 3, rfl, lt_of_blk h, fun i n hi => ?_⟩⟩
    match i, hi with
    | 0, hi => cases hi; exact ⟨.slice none 0 0, ⟨blk_c h rfl, blk_c h rfl, blk_c h rfl, blk_c h rfl⟩, Or.inl ⟨rfl, none, 0, rfl, fun _ => rfl⟩⟩
    | (i + 1), hi => simp [lvT1] at hi
def lvL (m : Ml) : List Bx := [⟨0, false, [m], 0⟩, ⟨1, false, [m], 0⟩]
def lvN (m n : Ml) : List Bx := [⟨0, false, [m, n], 0⟩, ⟨1, true, [m, n], 0⟩]
theorem lv_f0 : decide (0 ≤ fnd lvT 0) = true := by decide +kernel
theorem lv_f1 : decide (0 ≤ fnd lvT 1) = true := by decide +kernel
theorem lv_g0 : decide (0 ≤ fnd lvT1 0) = true := by decide +kernel
theorem lv_g1 : decide (0 ≤ fnd lvT1 1) = false := by decide +kernel
theorem lv_st0 (m : Ml) : stls [] m lvT [0, 1] = lvL m := by
  simp only [stls, List.foldl_cons, List.foldl_nil, lv_f0, lv_f1]
  simp [stl, hvL, hasD, opL, mapD, stB, putN, nbx, lvL]
theorem lv_st1 (m n : Ml) : stls (lvL m) n lvT1 [0, 1] = lvN m n := by
  simp only [stls, List.foldl_cons, List.foldl_nil, lv_g0, lv_g1]
  simp [stl, hvL, hasD, mapD, stB, putN, cloN, lvL, lvN]
theorem lv_may (m : Ml) : mayP (lvL m) := mayP_pw.2 ⟨fun b hb => by simp [lvL] at hb; rcases hb with rfl | rfl <;> (unfold okB; simp), by simp [lvL]⟩
theorem lv_mayN (m n : Ml) : mayP (lvN m n) := mayP_pw.2 ⟨fun b hb => by simp [lvN] at hb; rcases hb with rfl | rfl <;> (unfold okB; simp), by simp [lvN]⟩
theorem lv_sz (m : Ml) (hm : SmM m) : SzX 2 (lvL m) := ⟨by simp [lvL], fun b hb => by
  simp [lvL] at hb
  rcases hb with rfl | rfl
  · exact ⟨by simp, fun x hx => by simp at hx; subst hx; exact hm⟩
  · exact ⟨by simp, fun x hx => by simp at hx; subst hx; exact hm⟩⟩
theorem lv_szN (m n : Ml) (hm : SmM m) (hn : SmM n) : SzX 2 (lvN m n) := ⟨by simp [lvN], fun b hb => by
  simp [lvN] at hb
  rcases hb with rfl | rfl
  · exact ⟨by simp, fun x hx => by simp at hx; rcases hx with rfl | rfl; exact hm; exact hn⟩
  · exact ⟨by simp, fun x hx => by simp at hx; rcases hx with rfl | rfl; exact hm; exact hn⟩⟩
theorem lv_dev (m n : Ml) : dvL (lvN m n) 0 = [0] := by simp [dvL, lvN]
theorem owl_two {B : Nat} {w : World} {v : Value} {l : List Bx} {xs : List (Value × List Mx)} (h : OwL kBx B w v l xs) (hl : l.length = 2) : ∃ a c, v = .slice a 2 c := by
  obtain ⟨a, c, hv⟩ := own_slice h.row
  exact ⟨a, c, by rw [hv, hl]⟩
set_option maxRecDepth 100000 in
set_option maxHeartbeats 4000000 in
theorem alive16_any {w : World} (hT : Tab w) : Calls Tryz.prog 12 #[] w fun e w' => e = .returned (.bool true) ∧ Below w.heap.size w w' := by
  have K1 : Hid (∀ W, Calls Tryz.prog 7 #[.int .i64 (-6)] W fun e w' => e = .returned (.tuple #[.int .i64 1, .int .i64 0]) ∧ w' = W) := fun W => roGroupHome_any (-6) W (by decide)
  have K2 : Hid (∀ W, Calls Tryz.prog 8 #[.int .i64 17] W fun e w' => e = .returned (.tuple #[.int .i64 2, .int .i64 0]) ∧ w' = W) := fun W => roUser_any 17 W
  obtain ⟨nb, hnb⟩ : ∃ nb, nb = w.heap.size := ⟨_, rfl⟩
  obtain ⟨w0, hw0⟩ : ∃ w0, w0 = (w.alloc (.cells #[.int .i64 1, .int .i64 0, .int .i64 0, .slice none 0 0, .int .i64 0, .int .i64 0, .int .i64 0, .slice none 0 0, .int .i64 2, .int .i64 1, .int .i64 0, .slice none 0 0] 102)).alloc (.cells #[.slice (some ⟨nb, 0, none⟩) 3 3] 30) := ⟨_, rfl⟩
  have e0 : Env w w0 [rsC (nb + 1) #[.slice (some ⟨nb, 0, none⟩) 3 3] 30, rsC nb #[.int .i64 1, .int .i64 0, .int .i64 0, .slice none 0 0, .int .i64 0, .int .i64 0, .int .i64 0, .slice none 0 0, .int .i64 2, .int .i64 1, .int .i64 0, .slice none 0 0] 102] := by
    have := ((Env.nil w).newC #[.int .i64 1, .int .i64 0, .int .i64 0, .slice none 0 0, .int .i64 0, .int .i64 0, .int .i64 0, .slice none 0 0, .int .i64 2, .int .i64 1, .int .i64 0, .slice none 0 0] 102).newC #[.slice (some ⟨nb, 0, none⟩) 3 3] 30
    simp only [World.size_alloc] at this
    rw [hw0, hnb]
    rw [hnb] at this
    exact this
  have hm1 := lvMl_sm 1 0
  have hm2 := lvMl_sm 0 0
  obtain ⟨M1, hM1⟩ : ∃ m, m = lvMl 1 0 := ⟨_, rfl⟩
  obtain ⟨M2, hM2⟩ : ∃ m, m = lvMl 0 0 := ⟨_, rfl⟩
  rw [← hM1] at hm1
  rw [← hM2] at hm2
  have HS1 : Hid (Calls Tryz.prog 16 #[.slice none 0 0, .agg #[.slice none 0 0], .agg #[.slice (some ⟨nb, 0, none⟩) 3 3], .agg #[.int .u8 1, .int .i64 0, .int .i64 0, .int .i64 0, .int .i64 0, .int .i64 0, .bool false, .slice none 0 0, .slice none 0 0, .slice none 0 0, .slice none 0 0, .int .i64 0, .int .i64 0, .slice none 0 0, .int .i64 0, .int .i64 0, .int .i64 0, .int .i64 0, .int .i64 0, .int .i64 0, .int .i64 0, .int .i64 0, .int .i64 0, .slice none 0 0, .int .i64 0, .int .i64 0, .int .i64 0, .int .i64 0, .int .i64 0, .int .i64 0]] w0 fun e w' => ∃ xa xc, e = .returned (.tuple #[.slice xa 2 xc, .int .i64 0]) ∧ Hid (∃ xs', RdL kBx w' (.slice xa 2 xc) (lvL M1) xs') ∧ Below w0.heap.size w0 w') := by
    have hr : MlR w0 (lvMl 1 0) lvMx := lvMl_r w0 1 0
    have hT2 := (lv_trd (w := w0) (nb := nb) (e0.nthR 1 rfl)).1
    have K := settle_ok (w := w0) (l := []) (xs := []) (n0 := 0) (T1 := []) (v1 := .slice none 0 0) ⟨rfl, by simp, none, 0, rfl, Or.inl rfl⟩ ⟨by simp, by simp⟩ (by omega) (trd_nilM w0) hT2 (hT.bw e0.bel) hr (lvMl_sm 1 0) may0 lv_dv0
    rw [lv_uni0, lv_st0] at K
    refine Calls.mono K ?_
    rintro e w' ⟨v', er, rfl, hb, rfl, xs', ho, _⟩
    obtain ⟨xa, xc, rfl⟩ := owl_two ho rfl
    rw [hM1]
    exact ⟨xa, xc, rfl, ⟨xs', ho.bxs ((lv_sz _ (lvMl_sm 1 0)).sm (by omega)).b⟩, hb⟩
  have HS2 : Hid (∀ (W : World) (xa : Option Addr) (xc : Nat), Below w0.heap.size w0 W → (∃ xs', RdL kBx W (.slice xa 2 xc) (lvL M1) xs') → Calls Tryz.prog 16 #[.slice xa 2 xc, .agg #[.slice (some ⟨nb, 0, none⟩) 3 3], .agg #[.slice (some ⟨nb, 0, none⟩) 1 3], .agg #[.int .u8 0, .int .i64 0, .int .i64 0, .int .i64 0, .int .i64 0, .int .i64 0, .bool false, .slice none 0 0, .slice none 0 0, .slice none 0 0, .slice none 0 0, .int .i64 0, .int .i64 0, .slice none 0 0, .int .i64 0, .int .i64 0, .int .i64 0, .int .i64 0, .int .i64 0, .int .i64 0, .int .i64 0, .int .i64 0, .int .i64 0, .slice none 0 0, .int .i64 0, .int .i64 0, .int .i64 0, .int .i64 0, .int .i64 0, .int .i64 0]] W fun e w' => ∃ xa xc, e = .returned (.tuple #[.slice xa 2 xc, .int .i64 0]) ∧ Hid (∃ xs', RdL kBx w' (.slice xa 2 xc) (lvN M1 M2) xs') ∧ Below W.heap.size W w') := fun W xa xc hW hl => by
    obtain ⟨xs, hl⟩ := hl
    have E := e0.new hW
    have hTT := lv_trd (w := W) (nb := nb) (E.nthR 1 rfl)
    have K := settle_ok (w := W) (n0 := 2) hl (lv_sz M1 hm1) (by omega) hTT.1 hTT.2 (hT.bw E.bel) (lvMl_r W 0 0) (lvMl_sm 0 0) (lv_may M1) lv_dv1
    rw [lv_uni1, lv_st1] at K
    refine Calls.mono K ?_
    rintro e w' ⟨v', er, rfl, hb, rfl, xs', ho, _⟩
    obtain ⟨xa, xc, rfl⟩ := owl_two ho rfl
    rw [hM2]
    exact ⟨xa, xc, rfl, ⟨xs', ho.bxs ((lv_szN _ _ hm1 (lvMl_sm 0 0)).sm (by omega)).b⟩, hb⟩
  have HDv : Hid (∀ (W : World) (xa : Option Addr) (xc : Nat), (∃ xs', RdL kBx W (.slice xa 2 xc) (lvN M1 M2) xs') → Calls Tryz.prog 32 #[.slice xa 2 xc, .int .i64 0] W fun e w' => ∃ ya yc, e = .returned (.tuple #[.slice ya 1 yc, .int .i64 0]) ∧ Hid (Nums w' (.slice ya 1 yc) [0]) ∧ Below W.heap.size W w') := fun W xa xc hl => by
    obtain ⟨xs, hl⟩ := hl
    refine Calls.mono (devices_any hl ((lv_szN M1 M2 hm1 hm2).sm (by omega)) 0) ?_
    rintro e w' ⟨v', er, rfl, hb, ht⟩
    rcases ht with q | ⟨rfl, _, _, hi⟩
    · rw [mayX_iff.2 (lv_mayN M1 M2)] at q
      rcases q.2.1 with c | c
      · exact absurd c (by simp)
      · exact absurd c (by decide)
    · rw [lv_dev] at hi
      obtain ⟨ya, yc, rfl⟩ := own_slice hi
      exact ⟨ya, yc, rfl, Ints.nums hi, hb⟩
  have HSc : Hid (∀ W, Calls Tryz.prog 22 #[.slice none 0 0, .agg #[.int .i64 5, .int .i64 0, .int .i64 1]] W fun e w' => ∃ ca cc, e = .returned (.tuple #[.slice ca 1 cc, .int .i64 0]) ∧ Hid (∃ xs', RdL Cd.kCd w' (.slice ca 1 cc) [⟨5, 0, 1⟩] xs') ∧ Below W.heap.size W w') := fun W => by
    refine Calls.mono (Cd.setcard_any (w := W) (l := []) (xs := []) ⟨rfl, by simp, none, 0, rfl, Or.inl rfl⟩ (by simp) 5 0 1) ?_
    rintro e w' ⟨v', er, rfl, ht, hb⟩
    rcases ht with q | ⟨rfl, _, _, k, xs', q⟩
    · exact absurd ⟨⟨by decide, by decide, by decide, by decide⟩, fun j b hb => by simp at hb⟩ q.2.1
    · rcases q with ⟨hk, _, ho⟩ | ⟨⟨p, hp, _⟩, _⟩
      · obtain rfl : k = 0 := by have := hk.le; simp at this; exact this
        have ho' : OwL Cd.kCd W.heap.size w' v' [⟨5, 0, 1⟩] xs' := ho
        obtain ⟨ca, cc, rfl⟩ := own_slice ho'.row
        exact ⟨ca, cc, rfl, ⟨xs', Cd.owl_rd ho'⟩, hb⟩
      · simp at hp
  have HCd : Hid (∀ (W : World) (ca : Option Addr) (cc : Nat), (∃ xs', RdL Cd.kCd W (.slice ca 1 cc) [⟨5, 0, 1⟩] xs') → Calls Tryz.prog 21 #[.slice ca 1 cc, .int .i64 5] W fun e w' => e = .returned (.tuple #[.agg #[.int .i64 5, .int .i64 0, .int .i64 1], .bool true]) ∧ Below W.heap.size W w') := fun W ca cc hl => by
    obtain ⟨xs, hl⟩ := hl
    refine Calls.mono (Cd.card_any hl (by simp) 5) ?_
    rintro e w' ⟨c, ok, rfl, ht, hb⟩
    rcases ht with q | ⟨rfl, _, k, hk, _⟩
    · rcases q.2.1 with z | z
      · have : Cd.mayX [⟨5, 0, 1⟩] = true := Cd.may_one.2 ⟨by decide, by decide, by decide, by decide⟩
        rw [this] at z; cases z
      · exact absurd rfl (z ⟨5, 0, 1⟩ (by simp))
    · match k, hk with
      | 0, hk => cases hk; exact ⟨rfl, hb⟩
      | (k + 1), hk => simp at hk
  have HSb : Hid (∀ z, Below w0.heap.size w0 z → z.cell? ⟨nb + 1, 0, none⟩ = some (.slice (some ⟨nb, 0, none⟩) 3 3)) := fun z hz => blk_c (i := 0) (show z.heap[nb + 1]? = some (.cells #[.slice (some ⟨nb, 0, none⟩) 3 3] 30 (0, 0)) from (e0.new hz).nthR 0 rfl) rfl
  have HSN : Hid (∀ (W : World) (ya : Option Addr) (yc : Nat) (b : Nat), Nums W (.slice ya 1 yc) [0] → W.cell? ⟨b, 0, none⟩ = some (.int .i64 0) → Calls Tryz.prog 33 #[.slice ya 1 yc, .slice (some ⟨b, 0, none⟩) 1 1] W fun e w' => e = .returned (.bool true) ∧ Below W.heap.size W w') := fun W ya yc b h1 h2 => by
    have h3 : Nums W (.slice (some ⟨b, 0, none⟩) 1 1) [0] := Or.inr ⟨b, 0, 1, rfl, by simp, by unfold maxLen; omega, fun j z hj => by
      match j, hj with
      | 0, hj => cases hj; exact h2
      | (j + 1), hj => simp at hj⟩
    have := same_any _ _ [0] [0] W h1 h3
    simpa using this
  have HB0 := hide e0.bel
  have HW := hide (And.intro hw0 hnb)
  clear hT e0 hw0 hnb hm1 hm2 hM1 hM2
  go_enter Tryz.func12, Tryz.ntmps12
  go_wp2_with fail
  refine (unhide K1 w).mono ?_
  rintro e w' ⟨rfl, hw'⟩
  subst hw'
  go_wp2_with fail
  refine (unhide K2 w').mono ?_
  rintro e w'' ⟨rfl, hw''⟩
  subst hw''
  clear K1 K2
  go_upto_region 4 with fail
  rw [← (unhide HW).2]
  rw [← (unhide HW).1]
  clear HW
  have s0 := unhide HSb w0 (Below.refl _ _)
  go_wp2_with fail
  refine (unhide HS1).mono ?_
  rintro e z1 ⟨xa1, xc1, rfl, hl1, b1⟩
  have s1 := unhide HSb z1 b1
  have s0 := unhide HSb z1.drew (bw_tr b1 (bw_drewR _))
  have KS2 := hide (unhide HS2 z1.drew xa1 xc1 (bw_tr b1 (bw_drewR _)) (by obtain ⟨xs', q⟩ := unhide hl1; exact ⟨xs', q.bw (bw_drewR _)⟩))
  have HB1 := hide (And.intro b1 (bw_tr (unhide HB0) b1))
  have HSb2 := hide (fun (z : World) (hz : Below z1.heap.size z1 z) => unhide HSb z (bw_tr b1 hz))
  clear HS1 HS2 b1 hl1 HSb
  have HSb := HSb2
  clear HSb2
  go_upto_region 5 with fail
  refine wp_region_held_drew (S := fun w' : World => w'.cell? ⟨nb + 1, 0, none⟩ = some (.slice (some ⟨nb, 0, none⟩) 3 3)) (by kernel_rfl) s0 (fun hHeld => ?_)
  refine wpAnyH_take (i := 0) (oi := { dst := some 37, op := Op.move (Operand.tmp 6), type := 27, pos := "law.go:19", after := #[], guard := none }) (v := ?v0) rfl (by kernel_rfl) (by kernel_rfl) (by kernel_rfl) (fun _ _ _ h => h) (Or.inl ⟨by rfl, ?hy0⟩) (by exact hHeld) ?_
  case hy0 => (intro w hSw; (try dsimp only at hSw); go_simp; try (with_reducible rfl))
  try simp only [Act.put, List.setIfInBounds_toArray, List.set_cons_zero, List.set_cons_succ]
  refine wpAnyH_take (i := 1) (oi := { dst := some 38, op := Op.load 30 (Operand.tmp 5), type := 30, pos := "law.go:19", after := #[], guard := none }) (v := ?v1) rfl (by kernel_rfl) (by kernel_rfl) (by kernel_rfl) (fun _ _ _ h => h) (Or.inl ⟨by rfl, ?hy1⟩) (by exact hHeld) ?_
  case hy1 => (intro w hSw; (try dsimp only at hSw); go_simp; try (with_reducible rfl))
  try simp only [Act.put, List.setIfInBounds_toArray, List.set_cons_zero, List.set_cons_succ]
  refine wpAnyH_take (i := 2) (oi := { dst := some 39, op := Op.fieldAddr 30 (Operand.tmp 5) 0, type := 0, pos := "law.go:19", after := #[], guard := none }) (v := ?v2) rfl (by kernel_rfl) (by kernel_rfl) (by kernel_rfl) (fun _ _ _ h => h) (Or.inl ⟨by rfl, ?hy2⟩) (by exact hHeld) ?_
  case hy2 => (intro w hSw; (try dsimp only at hSw); go_simp; try (with_reducible rfl))
  try simp only [Act.put, List.setIfInBounds_toArray, List.set_cons_zero, List.set_cons_succ]
  refine wpAnyH_take (i := 3) (oi := { dst := some 40, op := Op.load 28 (Operand.tmp 39), type := 28, pos := "law.go:19", after := #[{ on := 2, ground := Ground.data }], guard := none }) (v := ?v3) rfl (by kernel_rfl) (by kernel_rfl) (by kernel_rfl) (fun _ _ _ h => h) (Or.inl ⟨by rfl, ?hy3⟩) (by exact hHeld) ?_
  case hy3 => (intro w hSw; (try dsimp only at hSw); go_simp; try (with_reducible rfl))
  try simp only [Act.put, List.setIfInBounds_toArray, List.set_cons_zero, List.set_cons_succ]
  refine wpAnyH_take (i := 4) (oi := { dst := some 41, op := Op.slice 28 (Operand.tmp 40) none (some (Operand.const (Value.int IntKind.i64 1))) none, type := 28, pos := "law.go:19", after := #[{ on := 3, ground := Ground.data }], guard := none }) (v := ?v4) rfl (by kernel_rfl) (by kernel_rfl) (by kernel_rfl) (fun _ _ _ h => h) (Or.inl ⟨by rfl, ?hy4⟩) (by exact hHeld) ?_
  case hy4 => (intro w hSw; (try dsimp only at hSw); go_simp; try (with_reducible rfl))
  try simp only [Act.put, List.setIfInBounds_toArray, List.set_cons_zero, List.set_cons_succ]
  refine wpAnyH_take (i := 5) (oi := { dst := some 42, op := Op.build 30 #[(0, Operand.tmp 41)], type := 30, pos := "law.go:19", after := #[{ on := 4, ground := Ground.data }], guard := none }) (v := ?v5) rfl (by kernel_rfl) (by kernel_rfl) (by kernel_rfl) (fun _ _ _ h => h) (Or.inl ⟨by rfl, ?hy5⟩) (by exact hHeld) ?_
  case hy5 => (intro w hSw; (try dsimp only at hSw); go_simp; try (with_reducible rfl))
  try simp only [Act.put, List.setIfInBounds_toArray, List.set_cons_zero, List.set_cons_succ]
  refine wpAnyH_take (i := 6) (oi := { dst := some 43, op := Op.build 50 #[], type := 50, pos := "law.go:19", after := #[], guard := none }) (v := ?v6) rfl (by kernel_rfl) (by kernel_rfl) (by kernel_rfl) (fun _ _ _ h => h) (Or.inl ⟨by rfl, ?hy6⟩) (by exact hHeld) ?_
  case hy6 => (intro w hSw; (try dsimp only at hSw); go_simp; try (with_reducible rfl))
  try simp only [Act.put, List.setIfInBounds_toArray, List.set_cons_zero, List.set_cons_succ]
  refine wpAnyH_ready (rs := [7]) (by kernel_rfl) (by simp) ?_
  refine AllReadyH.cons (o := { dst := some 44, op := Op.call { callee := Callee.value (Operand.func 16), args := #[Operand.tmp 37, Operand.tmp 38, Operand.tmp 42, Operand.tmp 43], argTypes := #[27, 30, 30, 50] }, type := 34, pos := "law.go:19", after := #[{ on := 0, ground := Ground.data }, { on := 1, ground := Ground.data }, { on := 5, ground := Ground.data }, { on := 6, ground := Ground.data }], guard := none }) rfl (fun K hK => ?_) AllReadyH.nil
  go_simp
  refine (unhide KS2).mono ?_
  rintro e z5 ⟨xa5, xc5, rfl, hl5, b5⟩
  have s5 := unhide HSb z5 (bw_tr (bw_drewR _) b5)
  go_wp2_with fail
  refine hK.out _ _ s5 (fun _ => ?_)
  clear hK K
  try simp only [Act.put, List.setIfInBounds_toArray, List.set_cons_zero, List.set_cons_succ]
  refine wpAnyH_take (i := 8) (oi := { dst := some 36, op := Op.move (Operand.tmp 44), type := 34, pos := "law.go:19", after := #[{ on := 7, ground := Ground.data }], guard := none }) (v := ?v8) rfl (by kernel_rfl) (by kernel_rfl) (by kernel_rfl) (fun _ _ _ h => h) (Or.inl ⟨by rfl, ?hy8⟩) (by exact s5) ?_
  case hy8 => (intro w hSw; (try dsimp only at hSw); go_simp; try (with_reducible rfl))
  try simp only [Act.put, List.setIfInBounds_toArray, List.set_cons_zero, List.set_cons_succ]
  refine wpAnyH_take (i := 9) (oi := { dst := some 45, op := Op.extract (Operand.tmp 36) 0, type := 27, pos := "law.go:19", after := #[{ on := 8, ground := Ground.data }], guard := none }) (v := ?v9) rfl (by kernel_rfl) (by kernel_rfl) (by kernel_rfl) (fun _ _ _ h => h) (Or.inl ⟨by rfl, ?hy9⟩) (by exact s5) ?_
  case hy9 => (intro w hSw; (try dsimp only at hSw); go_simp; try (with_reducible rfl))
  try simp only [Act.put, List.setIfInBounds_toArray, List.set_cons_zero, List.set_cons_succ]
  refine wpAnyH_take (i := 10) (oi := { dst := some 46, op := Op.extract (Operand.tmp 36) 1, type := 22, pos := "law.go:19", after := #[{ on := 8, ground := Ground.data }, { on := 11, ground := Ground.gcOnly Departure.lateStores }], guard := none }) (v := ?v10) rfl (by kernel_rfl) (by kernel_rfl) (by kernel_rfl) (fun _ _ _ h => h) (Or.inl ⟨by rfl, ?hy10⟩) (by exact s5) ?_
  case hy10 => (intro w hSw; (try dsimp only at hSw); go_simp; try (with_reducible rfl))
  try simp only [Act.put, List.setIfInBounds_toArray, List.set_cons_zero, List.set_cons_succ]
  refine wpAnyH_take (i := 11) (oi := { dst := some 8, op := Op.assign (Operand.tmp 45), type := 27, pos := "law.go:19", after := #[{ on := 9, ground := Ground.data }, { on := 7, ground := Ground.chain }, { on := 0, ground := Ground.phase }, { on := 1, ground := Ground.phase }, { on := 2, ground := Ground.phase }, { on := 3, ground := Ground.phase }, { on := 4, ground := Ground.phase }, { on := 5, ground := Ground.phase }, { on := 6, ground := Ground.phase }, { on := 7, ground := Ground.phase }, { on := 8, ground := Ground.phase }, { on := 9, ground := Ground.phase }, { on := 10, ground := Ground.textOnly Departure.lateStores }], guard := none }) (v := ?v11) rfl (by kernel_rfl) (by kernel_rfl) (by kernel_rfl) (fun _ _ _ h => h) (Or.inl ⟨by rfl, ?hy11⟩) (by exact s5) ?_
  case hy11 => (intro w hSw; (try dsimp only at hSw); go_simp; try (with_reducible rfl))
  try simp only [Act.put, List.setIfInBounds_toArray, List.set_cons_zero, List.set_cons_succ]
  refine wpAnyH_take (i := 12) (oi := { dst := some 9, op := Op.assign (Operand.tmp 46), type := 22, pos := "law.go:19", after := #[{ on := 10, ground := Ground.data }, { on := 11, ground := Ground.chain }, { on := 0, ground := Ground.phase }, { on := 1, ground := Ground.phase }, { on := 2, ground := Ground.phase }, { on := 3, ground := Ground.phase }, { on := 4, ground := Ground.phase }, { on := 5, ground := Ground.phase }, { on := 6, ground := Ground.phase }, { on := 7, ground := Ground.phase }, { on := 8, ground := Ground.phase }, { on := 9, ground := Ground.phase }, { on := 10, ground := Ground.phase }, { on := 11, ground := Ground.phase }], guard := none }) (v := ?v12) rfl (by kernel_rfl) (by kernel_rfl) (by kernel_rfl) (fun _ _ _ h => h) (Or.inl ⟨by rfl, ?hy12⟩) (by exact s5) ?_
  case hy12 => (intro w hSw; (try dsimp only at hSw); go_simp; try (with_reducible rfl))
  try simp only [Act.put, List.setIfInBounds_toArray, List.set_cons_zero, List.set_cons_succ]
  refine wpAnyH_done (by kernel_rfl) ?_ _
  have HB5 := hide (bw_tr (bw_tr (unhide HB1).2 (bw_drewR _)) b5)
  have KDv := hide (unhide HDv z5 xa5 xc5 (unhide hl5))
  clear HDv hl5 b5 s0 s1 s5 KS2 HSb HB1 hHeld
  go_wp2_with fail
  refine (unhide KDv).mono ?_
  rintro e z6 ⟨ya, yc, rfl, hn6, b6⟩
  have HB6 := hide (bw_tr (unhide HB5) b6)
  have KSc := hide (unhide HSc z6)
  clear KDv b6 HB5 HSc
  go_wp2_with fail
  refine (unhide KSc).mono ?_
  rintro e z7 ⟨ca, cc, rfl, hc7, b7⟩
  have HB7 := hide (bw_tr (unhide HB6) b7)
  have HN7 := hide ((unhide hn6).bwR b7)
  have KCd := hide (unhide HCd z7 ca cc (unhide hc7))
  clear KSc b7 HB6 HCd hc7 hn6
  go_wp2_with fail
  refine (unhide KCd).mono ?_
  rintro e z8 ⟨rfl, b8⟩
  obtain ⟨W9, hW9⟩ : ∃ W, W = z8.alloc (.cells #[.int .i64 5, .int .i64 0, .int .i64 1] 44) := ⟨_, rfl⟩
  have b9 : Below z8.heap.size z8 W9 := by rw [hW9]; exact bwA _ _
  have k9 : W9.heap[z8.heap.size]? = some (.cells #[.int .i64 5, .int .i64 0, .int .i64 1] 44 (0, 0)) := by rw [hW9]; exact heap_alloc_new _ _
  obtain ⟨W10, hW10⟩ : ∃ W, W = W9.alloc (.cells #[.int .i64 0] 3) := ⟨_, rfl⟩
  have b10 : Below W9.heap.size W9 W10 := by rw [hW10]; exact bwA _ _
  have KN := hide (unhide HSN W10 ya yc W9.heap.size (((unhide HN7).bwR b8).bwR (bw_tr b9 b10)) (by rw [hW10]; exact blk_c (heap_alloc_new _ _) rfl))
  have HK9 : Hid (∀ z, Below W10.heap.size W10 z → z.cell? ⟨z8.heap.size, 2, none⟩ = some (.int .i64 1)) := fun z hz => blk_c (kept_b k9 (lt_of_blk k9) (bw_tr b10 hz)) rfl
  have HB10 := hide (bw_tr (bw_tr (bw_tr (unhide HB7) b8) b9) b10)
  have HW9 := hide hW9
  have HW10 := hide hW10
  clear KCd b8 HB7 hW9 b9 k9 hW10 b10 HSN HN7
  go_upto_region 9 with fail
  rw [← unhide HW9]
  clear HW9
  go_wp2_with fail
  rw [← unhide HW10]
  refine (unhide KN).mono ?_
  rintro e z11 ⟨rfl, b11⟩
  have y2 := unhide HK9 z11 b11
  have HB11 := hide (bw_tr (unhide HB10) b11)
  clear KN b11 HK9 HB10 HW10
  go_wp2_with fail
  go_ret
  exact ⟨rfl, unhide HB11⟩
end Go.Proofs.YtihniafidgjlcaaGreatDoor
