/- Texts joined: PoS PoT. -/
import Derived.Test.YtgmlkofogeoocaaGreatDoorZ14
import Derived.Test.YtgmlkofogeoocaaGreatDoorZ17
import Derived.Deep.MidRow
import Derived.Test.YtgmlkofogeoocaaGreatDoorZ12
/- SameFace, SameMail, SameMails, SameBox of equal ones. -/
namespace Go.Proofs.YtgmlkofogeoocaaGreatDoor
open Go.RowKit Go.Maps
theorem infoMlS : (Tryz.prog.info? 50).map (·.size) = some 30 := by kernel_rfl
theorem blk_rng {W : World} {b : Nat} {cs : List Value} {t : TypeId} (h : W.heap[b]? = some (.cells cs.toArray t (0, 0))) {o : Nat} {ds : List Value} (hd : ∀ j u, ds[j]? = some u → cs[o + j]? = some u) : W.rangeAt b o ds := fun j u hj => blk_c h (by rw [List.getElem?_toArray]; exact hd j u hj)
end Go.Proofs.YtgmlkofogeoocaaGreatDoor

/- How great a mail, mails, boxes are: MailSize, MailsSize, size. -/
namespace Go.Proofs.YtgmlkofogeoocaaGreatDoor
open Go.RowKit Go.Maps
def mlN (m : Ml) : Nat := cmN m.cm + (m.tr.length + usum m.tr)
def msN (l : List Ml) : Nat := (l.map mlN).foldr (· + ·) 0
def bxN (b : Bx) : Nat := b.ml.length + msN b.ml
def bsN (l : List Bx) : Nat := (l.map bxN).foldr (· + ·) 0
theorem msN_take {l : List Ml} {i : Nat} {m : Ml} (h : l[i]? = some m) : msN (l.take (i + 1)) = msN (l.take i) + mlN m := by
  unfold msN
  rw [List.take_add_one, h, List.map_append]
  exact sum_snoc _ _
theorem bsN_take {l : List Bx} {i : Nat} {b : Bx} (h : l[i]? = some b) : bsN (l.take (i + 1)) = bsN (l.take i) + bxN b := by
  unfold bsN
  rw [List.take_add_one, h, List.map_append]
  exact sum_snoc _ _
set_option maxRecDepth 100000 in
set_option maxHeartbeats 4000000 in
theorem mlsize_any {w : World} {m : Ml} {x : Mx} (h : MlR w m x) :
    Calls Tryz.prog 40 #[.agg (mlC m x).toArray] w fun e w' => ∃ n : Nat, e = .returned (.int .i64 (n : Int)) ∧ n ≤ 3377699720527872 ∧ (n ≤ 262144 → n = mlN m) ∧ Below w.heap.size w w' := by
  obtain ⟨w0, hw0⟩ : ∃ w0, w0 = w.alloc (.cells (mlC m x).toArray 50) := ⟨_, rfl⟩
  have bl : Below w.heap.size w w0 := by rw [hw0]; exact bwA _ _
  have kk : w0.heap[w.heap.size]? = some (.cells (mlC m x).toArray 50 (0, 0)) := by rw [hw0]; exact heap_alloc_new _ _
  have bd : Below w0.heap.size w0 w0.drew := (Below.refl _ _).drew
  have KC : Calls Tryz.prog 65 #[.agg (cmC m.cm x.cx).toArray] w0.drew fun e w' => ∃ n : Nat, e = .returned (.int .i64 (n : Int)) ∧ n ≤ 2251799813685248 ∧ (n ≤ 262144 → n = cmN m.cm) ∧ Below w0.heap.size w0 w' := by
    refine Calls.mono (cmsize_any (h.c.bw (bw_tr bl bd))) ?_
    rintro e w' ⟨n, q1, q2, q3, q4⟩
    exact ⟨n, q1, q2, q3, bw_tr bd q4⟩
  have KT : Hid (∀ W, Below w0.heap.size w0 W → Calls Tryz.prog 14 #[.agg #[x.tv]] W fun e w' => ∃ n : Nat, e = .returned (.int .i64 (n : Int)) ∧ n ≤ 1125899906842624 ∧ (n ≤ 262144 → n = m.tr.length + usum m.tr) ∧ Below w0.heap.size w0 w') := fun W hW => by
    refine Calls.mono (treeSize2_any (h.t.bw (bw_tr bl hW))) ?_
    rintro e w' ⟨n, q1, q2, q3, q4⟩
    exact ⟨n, q1, q2, q3, bw_tr hW q4⟩
  obtain ⟨a1, k1, e1⟩ := h.c.adds.slice
  obtain ⟨a2, k2, e2⟩ := nums_slice h.c.rem
  obtain ⟨a3, k3, e3⟩ := h.c.seals.slice
  obtain ⟨a4, k4, e4⟩ := h.c.joins.slice
  obtain ⟨a5, k5, e5⟩ := h.c.next.slice
  obtain ⟨a6, k6, e6⟩ := h.t.slice
  have HN : Hid (mlN m = cmN m.cm + (m.tr.length + usum m.tr)) := rfl
  obtain ⟨CX, hCX⟩ : ∃ z, z = mlC m x := ⟨_, rfl⟩
  obtain ⟨MN, hMN⟩ : ∃ z, z = mlN m := ⟨_, rfl⟩
  obtain ⟨CN, hCN⟩ : ∃ z, z = cmN m.cm := ⟨_, rfl⟩
  obtain ⟨TN, hTN⟩ : ∃ z, z = m.tr.length + usum m.tr := ⟨_, rfl⟩
  rw [← hTN] at KT HN
  rw [← hCN] at KC HN
  rw [← hMN] at HN ⊢
  have HW := hide hw0
  rw [← hCX] at HW ⊢
  clear h hw0 hCX hMN hCN hTN
  obtain ⟨g0, ⟨g1, g2, g3, g4, g5, g6, adds, rem, seals, joins, g11, g12, next, g14, g15⟩, g16, g17, g18, g19, g20, g21, g22, tr, g24, g25, g26, g27, g28, g29⟩ := m
  obtain ⟨⟨av, rv, qv, jv, nv⟩, us, tv, ts⟩ := x
  unfold cmC at KC
  simp only at KC KT e1 e2 e3 e4 e5 e6 kk
  obtain ⟨LN, hLN⟩ : ∃ z, z = next.length := ⟨_, rfl⟩
  obtain ⟨LA, hLA⟩ : ∃ z, z = adds.length := ⟨_, rfl⟩
  obtain ⟨LR, hLR⟩ : ∃ z, z = rem.length := ⟨_, rfl⟩
  obtain ⟨LQ, hLQ⟩ : ∃ z, z = seals.length := ⟨_, rfl⟩
  obtain ⟨LJ, hLJ⟩ : ∃ z, z = joins.length := ⟨_, rfl⟩
  obtain ⟨LT, hLT⟩ : ∃ z, z = tr.length := ⟨_, rfl⟩
  rw [← hLA] at e1
  rw [← hLR] at e2
  rw [← hLQ] at e3
  rw [← hLJ] at e4
  rw [← hLN] at e5
  rw [← hLT] at e6
  clear hLN hLA hLR hLQ hLJ hLT
  subst e1 e2 e3 e4 e5 e6
  have KC : Hid (Calls Tryz.prog 65 #[.agg #[.int .i64 g1, .int .i64 g2, .int .i64 g3, .int .i64 g4, .int .i64 g5, .bool g6, .slice a1 LA k1, .slice a2 LR k2, .slice a3 LQ k3, .slice a4 LJ k4, .int .i64 g11, .int .i64 g12, .slice a5 LN k5, .int .i64 g14, .int .i64 g15]] w0.drew fun e w' => ∃ n : Nat, e = .returned (.int .i64 (n : Int)) ∧ n ≤ 2251799813685248 ∧ (n ≤ 262144 → n = CN) ∧ Below w0.heap.size w0 w') := KC
  have HS : Hid (∀ W, Below w0.heap.size w0 W → (W.cell? ⟨w.heap.size, 1, none⟩ = some (.int .i64 g1) ∧ W.cell? ⟨w.heap.size, 2, none⟩ = some (.int .i64 g2) ∧ W.cell? ⟨w.heap.size, 3, none⟩ = some (.int .i64 g3) ∧ W.cell? ⟨w.heap.size, 4, none⟩ = some (.int .i64 g4) ∧ W.cell? ⟨w.heap.size, 5, none⟩ = some (.int .i64 g5) ∧ W.cell? ⟨w.heap.size, 6, none⟩ = some (.bool g6) ∧ W.cell? ⟨w.heap.size, 7, none⟩ = some (.slice a1 LA k1) ∧ W.cell? ⟨w.heap.size, 8, none⟩ = some (.slice a2 LR k2) ∧ W.cell? ⟨w.heap.size, 9, none⟩ = some (.slice a3 LQ k3) ∧ W.cell? ⟨w.heap.size, 10, none⟩ = some (.slice a4 LJ k4) ∧ W.cell? ⟨w.heap.size, 11, none⟩ = some (.int .i64 g11) ∧ W.cell? ⟨w.heap.size, 12, none⟩ = some (.int .i64 g12) ∧ W.cell? ⟨w.heap.size, 13, none⟩ = some (.slice a5 LN k5) ∧ W.cell? ⟨w.heap.size, 14, none⟩ = some (.int .i64 g14) ∧ W.cell? ⟨w.heap.size, 15, none⟩ = some (.int .i64 g15) ∧ W.cell? ⟨w.heap.size, 23, none⟩ = some (.slice a6 LT k6)) ∧ Below w.heap.size w W) := fun W hW => by
    have k := kept_b kk (lt_of_blk kk) hW
    exact ⟨⟨blk_c k rfl, blk_c k rfl, blk_c k rfl, blk_c k rfl, blk_c k rfl, blk_c k rfl, blk_c k rfl, blk_c k rfl, blk_c k rfl, blk_c k rfl, blk_c k rfl, blk_c k rfl, blk_c k rfl, blk_c k rfl, blk_c k rfl, blk_c k rfl⟩, bw_tr bl hW⟩
  have S0 := (unhide HS w0 (Below.refl _ _)).1
  have S00 := (unhide HS w0.drew bd).1
  clear bl kk bd
  go_enter Tryz.func40, Tryz.ntmps40
  go_upto_region 1 with fail
  rw [← unhide HW]
  clear HW
  go_region_held3 (fun w' : World => w'.cell? ⟨w.heap.size, 1, none⟩ = some (.int .i64 g1) ∧ w'.cell? ⟨w.heap.size, 2, none⟩ = some (.int .i64 g2) ∧ w'.cell? ⟨w.heap.size, 3, none⟩ = some (.int .i64 g3) ∧ w'.cell? ⟨w.heap.size, 4, none⟩ = some (.int .i64 g4) ∧ w'.cell? ⟨w.heap.size, 5, none⟩ = some (.int .i64 g5) ∧ w'.cell? ⟨w.heap.size, 6, none⟩ = some (.bool g6) ∧ w'.cell? ⟨w.heap.size, 7, none⟩ = some (.slice a1 LA k1) ∧ w'.cell? ⟨w.heap.size, 8, none⟩ = some (.slice a2 LR k2) ∧ w'.cell? ⟨w.heap.size, 9, none⟩ = some (.slice a3 LQ k3) ∧ w'.cell? ⟨w.heap.size, 10, none⟩ = some (.slice a4 LJ k4) ∧ w'.cell? ⟨w.heap.size, 11, none⟩ = some (.int .i64 g11) ∧ w'.cell? ⟨w.heap.size, 12, none⟩ = some (.int .i64 g12) ∧ w'.cell? ⟨w.heap.size, 13, none⟩ = some (.slice a5 LN k5) ∧ w'.cell? ⟨w.heap.size, 14, none⟩ = some (.int .i64 g14) ∧ w'.cell? ⟨w.heap.size, 15, none⟩ = some (.int .i64 g15) ∧ w'.cell? ⟨w.heap.size, 23, none⟩ = some (.slice a6 LT k6)) (first | with_reducible exact S0 | with_reducible exact S00 | with_reducible exact S1 | with_reducible exact S2) (first
    | (go_at_call 65; refine (unhide KC).mono ?_; rintro e z1 ⟨n, rfl, hn1, hn2, b1⟩; obtain ⟨S1, B1⟩ := unhide HS z1 b1; have K2 := hide (unhide KT z1 b1))
    | (go_at_call 14; refine (unhide K2).mono ?_; rintro e z2 ⟨n2, rfl, hm1, hm2, b2⟩; obtain ⟨S2, B2⟩ := unhide HS z2 b2; have hv : IntKind.i64.wrap ((n : Int) + (n2 : Int)) = ((n + n2 : Nat) : Int) := (by rw [wrap_id (by omega)]; omega)))
  all_goals
    go_wp2_with fail
    go_ret
    refine ⟨n + n2, ?_, by omega, fun hq => ?_, B2⟩
    · first | rfl | (simp [hv])
    · have := hn2 (by omega)
      have := hm2 (by omega)
      have := unhide HN
      omega
set_option maxRecDepth 100000 in
set_option maxHeartbeats 4000000 in
theorem mlssize_any {w : World} {v : Value} {l : List Ml} {xs : List Mx} (hx : xs.length = l.length) (hl : l.length ≤ 140737488355328) (hf : ∃ ad cap, v = .slice ad l.length cap ∧ (l = [] ∨ ∃ g o, ad = some ⟨g, o, none⟩ ∧ ∀ j u, (cellK kMl l xs)[j]? = some u → w.cell? ⟨g, o + j, none⟩ = some u)) (he : ∀ (i : Nat) (m : Ml) (x : Mx), l[i]? = some m → xs[i]? = some x → MlR w m x) :
    Calls Tryz.prog 26 #[v] w fun e w' => ∃ n : Nat, e = .returned (.int .i64 (n : Int)) ∧ n ≤ 4503599627370496 ∧ (n ≤ 262144 → n = l.length + msN l) ∧ Below w.heap.size w w' := by
  obtain ⟨a, cap, rfl, hc⟩ := hf
  have HC : Hid (∀ (wr : World) (i : Nat), Below w.heap.size w wr → i < l.length → ∃ (m : Ml) (cs : List Value) (g o : Nat), a = some ⟨g, o, none⟩ ∧ l[i]? = some m ∧ cs.length = 30 ∧ wr.rangeAt g (o + i * 30) cs ∧ Calls Tryz.prog 40 #[.agg cs.toArray] wr fun e w' => ∃ n : Nat, e = .returned (.int .i64 (n : Int)) ∧ n ≤ 3377699720527872 ∧ (n ≤ 262144 → n = mlN m) ∧ Below wr.heap.size wr w') := fun wr i hb hi => by
    have h1 : l[i]? = some l[i] := List.getElem?_eq_getElem hi
    have h2 : xs[i]? = some (xs[i]'(by rw [hx]; exact hi)) := List.getElem?_eq_getElem _
    rcases hc with c | ⟨g, o, rfl, hc⟩
    · rw [c] at hi; simp at hi
    · refine ⟨l[i], mlC l[i] (xs[i]'(by rw [hx]; exact hi)), g, o, rfl, h1, rfl, fun j u hj => ?_, mlsize_any ((he i _ _ h1 h2).bw hb)⟩
      have := hc _ _ (cellK_get (K := kMl) h1 h2 hj)
      rw [show o + i * 30 + j = o + (i * 30 + j) from Nat.add_assoc _ _ _]
      have this : w.cell? ⟨g, o + (i * 30 + j), none⟩ = some u := this
      rw [hb.cell (lt_of_cell this)]
      exact this
  obtain ⟨N, hN⟩ : ∃ N, N = l.length := ⟨_, rfl⟩
  rw [← hN] at hl HC ⊢
  have hNI : (N : Int) ≤ 140737488355328 := by omega
  obtain ⟨G, hG⟩ : ∃ G, G = N + msN l := ⟨_, rfl⟩
  rw [← hG]
  have HG := hide hG
  have HL := hide hN
  clear hx hc he hN hl hG
  go_enter Tryz.func26, Tryz.ntmps26
  go_wp2_with fail
  go_loopw [3, 4] (fun nv iv wr => ∃ (i n : Nat), i ≤ N ∧ iv = .int .i64 (i : Int) ∧ nv = .int .i64 (n : Int) ∧ n ≤ 262144 + 140737488355328 + 3377699720527872 ∧ Hid (Below w.heap.size w wr ∧ (n ≤ 262144 → n = N + msN (l.take i)))) (fun _ iv _ => (N - intOf iv).toNat)
  case atStart => exact ⟨0, N, Nat.zero_le _, rfl, rfl, by omega, Below.refl _ _, fun _ => by simp [msN]⟩
  case round =>
    obtain ⟨i, n, hi, rfl, rfl, hn, HR⟩ := hrel
    have hnI : (n : Int) ≤ 9007199254740992 := by omega
    by_cases hlt : i < N
    · have hiI : (i : Int) < (N : Int) := by omega
      by_cases hnb : n ≤ 262144
      · have hnbI : (n : Int) ≤ 262144 := by omega
        obtain ⟨m, cs, g, o, rfl, hm, hcl, hrg, K⟩ := unhide HC wr i (unhide HR).1 hlt
        have HN2 : Hid (msN (l.take (i + 1)) = msN (l.take i) + mlN m) := msN_take hm
        obtain ⟨CN, hCN⟩ : ∃ CN, CN = mlN m := ⟨_, rfl⟩
        rw [← hCN] at K HN2
        have z1 : (Tryz.prog.info? 50).map (·.size) = some cs.length := by rw [hcl]; exact infoMlS
        have HZ := hide (And.intro hrg z1)
        have KH := hide K
        clear hm hcl hrg K hCN z1
        go_wp2_with (refine wpList_load_mid rfl 50 (.tmp 20) rfl g (o + i * 30) (by simp [Act.eval]) cs _ (unhide HZ).1 Tryz.underlying50 rfl (unhide HZ).2 ?_)
        refine (unhide KH).mono ?_
        rintro e2 w2 ⟨q, rfl, m1, m2, b2⟩
        have hmI : (q : Int) ≤ 3377699720527872 := by omega
        have HR2 : Hid (Below w.heap.size w w2 ∧ (n + q ≤ 262144 → n + q = N + msN (l.take (i + 1)))) := ⟨bw_tr (unhide HR).1 b2, fun c => by
          have := (unhide HR).2 (by omega)
          have := m2 (by omega)
          rw [unhide HN2]; omega⟩
        clear KH HZ HN2 m2 b2 HR
        go_wp2_with fail
        go_roundw
        case rel => exact ⟨i + 1, n + q, by omega, by go_num, by go_num, by omega, HR2⟩
        case measure => simp only [intOf]; omega
      · have hnbI : (262144 : Int) < (n : Int) := by omega
        have hnd : decide ((n : Int) ≤ 262144) = false := decide_eq_false (by omega)
        have B := hide (unhide HR).1
        clear HG HR
        go_wp2
        go_ret
        exact ⟨n, rfl, by omega, fun c => absurd c (by omega), unhide B⟩
    · obtain rfl : i = N := by omega
      have HE : Hid (Below w.heap.size w wr ∧ (n ≤ 262144 → n = G)) := ⟨(unhide HR).1, fun c => by
        have h1 := (unhide HR).2 c
        rw [unhide HL, List.take_length, ← unhide HL] at h1
        rw [unhide HG]; exact h1⟩
      clear HR HG
      go_wp2
      go_ret
      exact ⟨n, rfl, by omega, (unhide HE).2, (unhide HE).1⟩
structure Bxs (w : World) (v : Value) (l : List Bx) (xs : List (Value × List Mx)) : Prop where
  len : l.length ≤ 140737488355328
  xl : xs.length = l.length
  el : ∀ (i : Nat) (b : Bx) (x : Value × List Mx), l[i]? = some b → xs[i]? = some x → b.ml.length ≤ 140737488355328 ∧ x.2.length = b.ml.length ∧ (∃ ad cap, x.1 = .slice ad b.ml.length cap ∧ (b.ml = [] ∨ ∃ g o, ad = some ⟨g, o, none⟩ ∧ ∀ j u, (cellK kMl b.ml x.2)[j]? = some u → w.cell? ⟨g, o + j, none⟩ = some u)) ∧ ∀ (i : Nat) (m : Ml) (y : Mx), b.ml[i]? = some m → x.2[i]? = some y → MlR w m y ∧ ∀ z ∈ [m.c0, m.c1, m.c2, m.n0, m.n1, m.n2, m.n3, m.n4], -9223372036854775808 ≤ z ∧ z ≤ 9223372036854775807
  form : ∃ ad cap, v = .slice ad l.length cap ∧ (l = [] ∨ ∃ g o, ad = some ⟨g, o, none⟩ ∧ ∀ j u, (cellK kBx l xs)[j]? = some u → w.cell? ⟨g, o + j, none⟩ = some u)
end Go.Proofs.YtgmlkofogeoocaaGreatDoor
