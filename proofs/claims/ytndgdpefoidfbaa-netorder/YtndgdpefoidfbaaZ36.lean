/- Texts joined: NeT NeLawOrder NetOrder. -/
import Derived.Test.YtndgdpefoidfbaaZ35
import Derived.Test.YtndgdpefoidfbaaQuSm
import Derived.Deep.RegionLaw
import Derived.Deep.RegionHeld3
import Derived.Test.YtndgdpefoidfbaaZ31
/- What is sent without one of it, put together anew; what All tells stands beside it. No walk is in this text. -/
namespace Go.Proofs.Ytndgdpefoidfbaa
open Go.RowKit Go.Maps
end Go.Proofs.Ytndgdpefoidfbaa

/- NetOrder: the walk. mkNeOr.py writes it. -/
namespace Go.Proofs.Ytndgdpefoidfbaa
open Go.RowKit Go.Maps
theorem step_storeW {P : Program} {ops : Array Oper} {o : Oper} {a : Act} {w : World} {K : Act → World → Prop} {Q : Exit → Act → World → Prop} {E : Prop} (hg : o.guard = none) (ty : TypeId) (x y : Operand) (ho : o.op = .store ty x y)
    (g : Nat) (cells : Array Value) (hx : a.eval x = .pointer (some ⟨g, 0, none⟩)) (hy : a.eval y = .agg cells)
    (t : TypeId) (old : Array Value) (hgg : w.heap[g]? = some (.cells old t (0, 0))) (hi : (P.info? ty).map (·.size) = some cells.size)
    (hold : old.size = cells.size) (h1 : cells.all (·.oneCell') = true)
    (h : K (a.put o.dst undef) (w.setRow g cells)) : if Region.wanted o (yielded ops a.tmps) = true then Oper.wp P o a w K Q else E := by
  have hw : Region.wanted o (yielded ops a.tmps) = true := by simp [Region.wanted, hg]
  rw [if_pos hw]
  exact wp_store_row ty x y ho g cells hx hy t old hgg hi hold h1 h
theorem DrS.other {W0 w : World} {nb k : Nat} {gv : Value} {P : List Py} {sv : Value} {L : List Pt} {xs : List Fx} {C : Array Value} (h : DrS W0 w nb gv P sv L xs) (h1 : sv.ownBlock ≠ some k) (h2 : k ≠ nb) (h3 : gv.ownBlock ≠ some k) (h4 : ∀ q ∈ P, k ∉ pyZ q) (h5 : W0.heap.size ≤ k) : DrS W0 (w.setRow k C) nb gv P sv L xs := by
  have ho : ∀ z, z ≠ k → (w.setRow k C).heap[z]? = w.heap[z]? := fun z hz => setRow_other _ _ _ _ hz
  refine ⟨⟨h.k.ns.keepB (fun z hz => ho z ?_), below_setRow' h.k.bel h5 _, fun k o hk => by cases hk⟩, h.xl, ne_blocks h.row (fun z hz => ho z (fun c => h1 (by rw [← c]; exact hz))), h.rd, h.ap⟩
  rcases hz with c | c | ⟨q, hq, c⟩
  · rw [c]; exact Ne.symm h2
  · exact fun d => h3 (by rw [← d]; exact c)
  · exact fun d => h4 q hq (by rw [← d]; exact c)
set_option maxRecDepth 100000 in
set_option maxHeartbeats 2000000 in
theorem order_net_any {w : World} {v : Value} {l : List Pt} {xs : List Fx} (h : RdL kPw w v l xs) (hl : l.length ≤ 140737488355328) (bk : Bool) :
    Calls Try.prog 5 #[v, .bool bk] w fun e w' => e = .returned (.bool true) ∧ Below w.heap.size w w' := by
  have KZ := hide (psize_any h hl)
  have KAL : Hid (∀ V2, Calls Try.prog 10 #[] V2 fun e w' => e = .returned (.bool true) ∧ Below V2.heap.size V2 w') := fun V2 => alive18_any V2
  obtain ⟨j0, hj, hy0, hy1, hyb⟩ := info_parts infoPkZ
  have HJ := hide (And.intro hj (And.intro hy0 (And.intro hy1 hyb)))
  obtain ⟨a, cap, rfl⟩ := rdl_slice h
  have HEL : Hid (∀ (W : World) (i : Nat), Below w.heap.size w W → i < l.length → ∃ (p : Pt) (y : Fx) (g o : Nat), a = some ⟨g, o, none⟩ ∧ l[i]? = some p ∧ FdR W p.fd y ∧ fdB p.fd ∧ W.rangeAt g (o + i * 57) (ptC p y)) := fun W i hW hi => by
    obtain ⟨p, y, g, o, e1, e2, _, e3, e4⟩ := rdl_at (h.bw hW) hi
    exact ⟨p, y, g, o, e1, e2, e3.1, e3.2, e4⟩
  have HSMA : Hid (ptsN l ≤ 262144 → ∀ (i : Nat) p, l[i]? = some p → SmF p.fd) := fun q i p hp => by
    obtain ⟨x, hx⟩ : ∃ x, xs[i]? = some x := ⟨_, List.getElem?_eq_getElem (by rw [h.xl]; exact (List.getElem?_eq_some_iff.1 hp).1)⟩
    exact smF_of (h.el i p x hp hx) (Nat.le_trans (ptsN_mem (List.mem_of_getElem? hp)) (by omega))
  obtain ⟨N, hN⟩ : ∃ N, N = l.length := ⟨_, rfl⟩
  rw [← hN] at HEL hl KZ ⊢
  have hNI : (N : Int) ≤ 140737488355328 := by omega
  have HN := hide hN
  clear h hN hj hy0 hy1 hyb hl
  go_enter Try.func5, Try.ntmps5
  go_wp2_with fail
  refine (unhide KZ).mono ?_
  rintro e w1 ⟨n, rfl, hn, hm, b1⟩
  have HB1 := hide b1
  have HM := hide hm
  clear KZ hm b1
  go_wp2_with fail
  refine (beyond17a w1.heap.size n 1 _ (by omega) (blk_c (heap_alloc_new _ _) rfl)).mono ?_
  rintro e w2 ⟨rfl, rfl⟩
  generalize hV : World.alloc w1 _ = V
  have HV : Hid (Below w.heap.size w V) := by rw [← hV]; exact bw_tr (unhide HB1) (bwA _ _)
  clear hV HB1
  by_cases hz : 262144 < n
  · rw [decide_eq_true hz]
    clear HEL HSMA KAL
    go_wp2_with fail
    go_ret
    exact ⟨rfl, unhide HV⟩
  rw [decide_eq_false hz]
  by_cases h5 : 500 < N
  · have h5I : (500 : Int) < (N : Int) := by omega
    clear HEL HSMA KAL
    go_wp2_with fail
    go_ret
    exact ⟨rfl, unhide HV⟩
  have h5I : (N : Int) ≤ 500 := by omega
  have HSM : Hid (∀ (i : Nat) p, l[i]? = some p → SmF p.fd) := unhide HSMA (by have := unhide HM (by omega); have := unhide HN; omega)
  clear hz hn HM HSMA
  go_wp2_with fail
  refine (neNew_any V).mono ?_
  rintro e w5 ⟨rfl, b5, hs5⟩
  have HS0 : Hid (∃ gv P L ys, DrS V w5 V.heap.size gv P (.slice none 0 0) L ys ∧ L.length = 0 ∧ P.map (·.p) = L ∧ P.length ≤ 0 ∧ ∀ q ∈ P, SmF q.p.fd) :=
    ⟨_, [], [], [], DrS.start (NetK.start (hs5 _ (Nat.le_refl _)) b5), rfl, rfl, Nat.le_refl _, fun q hq => by cases hq⟩
  clear hs5 b5
  go_wp2_with fail
  go_loopw [6, 7] (fun sv iv wr => ∃ (i m : Nat) (sa : Option Addr) (sc : Nat), i ≤ N ∧ m ≤ i ∧ iv = .int .i64 (i : Int) ∧ sv = .slice sa m sc ∧ Hid (∃ gv P L ys, DrS V wr V.heap.size gv P (.slice sa m sc) L ys ∧ L.length = m ∧ P.map (·.p) = L ∧ P.length ≤ i ∧ ∀ q ∈ P, SmF q.p.fd)) (fun _ iv _ => (N - intOf iv).toNat)
  case atStart => exact ⟨0, 0, none, 0, Nat.zero_le _, Nat.le_refl _, rfl, rfl, HS0⟩
  case round =>
    clear HS0
    obtain ⟨i, m, sa, sc, hi, hmi, rfl, rfl, HS⟩ := hrel
    obtain ⟨gv, P, L, ys, h, hL, hP, hPl, hPs⟩ := unhide HS
    have H := hide h
    have HLL := hide (And.intro hL (And.intro hP (And.intro hPl hPs)))
    have hbw := bw_tr (unhide HV) h.k.bel
    by_cases hlt : i < N
    · have hiI : (i : Int) < (N : Int) := by omega
      have hi0 : (0 : Int) ≤ (i : Int) := by omega
      obtain ⟨p, y, g, o, rfl, hp, hR, hB, hrg⟩ := unhide HEL wr i hbw hlt
      have hsm := unhide HSM i p hp
      obtain ⟨tk, htk⟩ := ex_bool (TakenP p)
      obtain ⟨CL, hCL⟩ : ∃ z, z = ptC p y := ⟨_, rfl⟩
      have KM : Hid (Calls Try.prog 9 #[.agg CL.toArray] wr fun e w' => e = .returned (.bool tk) ∧ Below wr.heap.size wr w') := by rw [hCL]; exact q17may_any p y htk
      have HTK := hide htk
      rw [← hCL] at hrg
      have HRG := hide hrg
      have hcl : CL.length = 57 := by rw [hCL]; rfl
      have HI : Hid ((Try.prog.info? 44).map (·.size) = some CL.length) := by rw [hCL]; exact infoPkS
      have HPP := hide (And.intro hp (And.intro hsm (And.intro hCL hlt)))
      have HONE : Hid (∀ u ∈ CL, u.oneCell' = true) := by rw [hCL]; exact pt_one hR
      clear HS h hL hP hPl hPs hp hB hsm hrg htk hCL
      go_wp2_with (refine wpList_load_mid rfl 44 (.tmp 33) rfl g (o + i * 57) (by simp [Act.eval]) CL _ (unhide HRG) Try.underlying44 rfl (unhide HI) ?_)
      refine (unhide KM).mono ?_
      rintro e w6 ⟨rfl, b6⟩
      have H6 := hide ((unhide H).bw b6)
      have HR6 := hide (hR.bw b6)
      have HRG6 := hide (rng_bw (unhide HRG) b6)
      clear KM HRG b6 hR hbw
      cases tk with
      | false =>
        have HX : Hid (∃ gv P L ys, DrS V w6 V.heap.size gv P (.slice sa m sc) L ys ∧ L.length = m ∧ P.map (·.p) = L ∧ P.length ≤ i + 1 ∧ ∀ q ∈ P, SmF q.p.fd) := by
          obtain ⟨q1, q2, q3, q4⟩ := unhide HLL
          exact ⟨gv, P, L, ys, unhide H6, q1, q2, by omega, q4⟩
        clear HLL H H6 HPP HI HR6 HRG6 HTK HONE
        go_wp2_with fail
        go_roundw
        case rel => exact ⟨i + 1, m, sa, sc, by omega, by omega, by go_num, rfl, HX⟩
        case measure => simp only [intOf]; omega
      | true =>
        have HT : Hid (TakenP p) := (unhide HTK).1 rfl
        have hrow : w6.ownsRow V.heap.size 44 57 (.slice sa m sc) m (cellK kPk L ys) := by have := (unhide H6).row; rw [(unhide HLL).1] at this; exact this
        have hBw : V.heap.size ≤ w6.heap.size := (unhide H6).k.bel.size
        obtain ⟨p3, y3, g3, o3, hg3, hp3, hR3, _, hrg3⟩ := unhide HEL V i (unhide HV) (unhide HPP).2.2.2
        obtain rfl : p3 = p := by have := (unhide HPP).1; rw [hp3] at this; simpa using this
        simp only [Option.some.injEq, Addr.mk.injEq, and_true] at hg3
        obtain ⟨rfl, rfl⟩ := hg3
        have hyy : ptC p3 y3 = CL := by
          apply List.ext_getElem?
          intro j
          by_cases hj : j < 57
          · obtain ⟨u, hu⟩ : ∃ u, (ptC p3 y3)[j]? = some u := ⟨_, List.getElem?_eq_getElem (by rw [ptC_len]; exact hj)⟩
            obtain ⟨u2, hu2⟩ : ∃ u, CL[j]? = some u := ⟨_, List.getElem?_eq_getElem (by rw [hcl]; exact hj)⟩
            have c1 := hrg3 j u hu
            have c2 := unhide HRG6 j u2 hu2
            rw [(unhide H6).k.bel.cell (lt_of_cell c1), c1] at c2
            rw [hu, hu2]; exact c2
          · rw [List.getElem?_eq_none (by rw [ptC_len]; omega), List.getElem?_eq_none (by rw [hcl]; omega)]
        have HD := hide (And.intro hR3 hyy)
        have HROW := hide (And.intro hrow hBw)
        have h57 : CL.length = 1 * 57 := by omega
        clear hrow hBw hp3 hR3 hyy hrg3 H HTK
        go_upto_region 12 with (first
          | refine wpList_load_mid rfl 44 (.tmp 39) rfl _ _ (by simp [Act.eval]) CL _ (unhide HRG6) Try.underlying44 rfl (unhide HI) ?_
          | refine wpList_buildW rfl 62 44 (.tmp 40) rfl CL rfl j0 (.agg pt0) Try.underlying62 (unhide HJ).1 (unhide HJ).2.1 (by rw [hcl]; exact (unhide HJ).2.2.1) (by rw [hcl]; decide) (by rw [hcl]; decide) (some 41) rfl ?_
          | (at_builtin; refine wpList_append_own_at _ rfl (.tmp 36) (.tmp 41) 62 rfl V.heap.size 44 j0 (.agg pt0) 57 632 Try.underlying62 (unhide HJ).1 (unhide HJ).2.1 (unhide HJ).2.2.1 (unhide HJ).2.2.2 rfl (by decide) _ m _ rfl (World.ownsRow.alloc (unhide HROW).1 _) ⟨w6.heap.size, 0, none⟩ 1 1 CL rfl h57 (cells_newM w6 CL 44) (unhide HONE) (by unfold maxLen; omega) (by omega) (by have := (unhide HROW).2; simp; omega) ?_; intro v' W hown hgrow _ hpl))
        have HDW : Hid (DrS V W V.heap.size gv P v' (L ++ [p3]) (ys ++ [y3])) := by
          obtain ⟨hR3, hyy⟩ := unhide HD
          rw [← hyy, ← (unhide HLL).1] at hown
          exact (unhide H6).more ⟨hR3, (unhide HPP).2.1⟩ hown hgrow (hpl.imp id (fun q => q.trans (by simp)))
        obtain ⟨av, nv, cv, hv, hnv⟩ : ∃ av nv cv, v' = .slice av nv cv ∧ nv = m + 1 := by
          obtain ⟨x1, x2, x3⟩ := own_slice hown
          exact ⟨x1, m + 1, x2, x3, rfl⟩
        subst hv hnv
        -- the packet reads behind the append, too
        obtain ⟨p4, y4, g4, o4, hg4, hp4, hR4, _, hrg4⟩ := unhide HEL W i (bw_tr (unhide HV) (unhide HDW).k.bel) (unhide HPP).2.2.2
        obtain rfl : p4 = p3 := by have := (unhide HPP).1; rw [hp4] at this; simpa using this
        simp only [Option.some.injEq, Addr.mk.injEq, and_true] at hg4
        obtain ⟨rfl, rfl⟩ := hg4
        have KS := hide (dsend_any (unhide HDW) hR4 (unhide HPP).2.1 (by have := (unhide HLL).2.2.1; omega))
        obtain ⟨C4, hC4⟩ : ∃ z, z = ptC p4 y4 := ⟨_, rfl⟩
        rw [← hC4] at KS hrg4
        have HRG4 := hide hrg4
        have HI4 : Hid ((Try.prog.info? 44).map (·.size) = some C4.length) := by rw [hC4]; exact infoPkS
        clear hown hgrow hpl HROW HD HRG6 HI HONE hp4 hR4 hC4 hrg4 H6 HR6 HDW
        go_wp2_with (refine wpList_load_mid rfl 44 (.tmp 46) rfl _ _ (by simp [Act.eval]) C4 _ (unhide HRG4) Try.underlying44 rfl (unhide HI4) ?_)
        refine (unhide KS).mono ?_
        rintro e w8 ⟨er, rfl, hcase⟩
        obtain ⟨rfl, HC⟩ : er = 0 ∧ Hid (TakenP p4 ∧ ∃ gv' q, q.p = p4 ∧ DrS V w8 V.heap.size gv' (P ++ [q]) (.slice av (m + 1) cv) (L ++ [p4]) (ys ++ [y3])) := by
          rcases hcase with ⟨_, c⟩ | ⟨c1, c2⟩
          · exact absurd (unhide HT) (unhide c).1
          · exact ⟨c1, c2⟩
        have HX : Hid (∃ gv P L ys, DrS V w8 V.heap.size gv P (.slice av (m + 1) cv) L ys ∧ L.length = m + 1 ∧ P.map (·.p) = L ∧ P.length ≤ i + 1 ∧ ∀ q ∈ P, SmF q.p.fd) := by
          obtain ⟨_, gv', q', hqp, h'⟩ := unhide HC
          obtain ⟨q1, q2, q3, q4⟩ := unhide HLL
          refine ⟨gv', P ++ [q'], L ++ [p4], _, h', by rw [List.length_append, q1]; rfl, by rw [List.map_append, q2]; simp [hqp], by rw [List.length_append]; simp; exact q3, fun q hq => ?_⟩
          rcases List.mem_append.1 hq with c | c
          · exact q4 q c
          · simp at c; rw [c, hqp]; exact (unhide HPP).2.1
        clear KS HRG4 HI4 hcase HC HLL HPP HT
        go_wp2_with fail
        go_roundw
        case rel => exact ⟨i + 1, m + 1, _, _, by omega, by omega, by go_num, rfl, HX⟩
        case measure => simp only [intOf]; omega
    · obtain rfl : i = N := by omega
      have hPN : P.length = m := by have := congrArg List.length hP; rw [List.length_map] at this; omega
      have hm5 : m ≤ 500 := by omega
      have hm5I : (m : Int) ≤ 500 := by omega
      have HS2 : Hid (∃ gv P, DrS V wr V.heap.size gv P (.slice sa m sc) L ys ∧ P.map (·.p) = (if bk then L.take (m - 0) else L.drop 0)) := by
        refine ⟨gv, P, h, ?_⟩
        rw [hP]
        cases bk with
        | true => show L = L.take (m - 0); rw [Nat.sub_zero, ← hL, List.take_length]
        | false => rfl
      have HLS : Hid (L.length = m ∧ ∀ p ∈ L, SmF p.fd) := ⟨hL, fun p hp => by
        rw [← hP] at hp
        obtain ⟨q, hq, rfl⟩ := List.mem_map.1 hp
        exact hPs q hq⟩
      clear HS h hL hP hPl hPs hbw H HLL hPN
      clear hi hlt hmi
      go_wp2_with fail
      go_loopw [8] (fun iv wq => ∃ i : Nat, i ≤ m ∧ iv = .int .i64 (i : Int) ∧ Hid (∃ gv P, DrS V wq V.heap.size gv P (.slice sa m sc) L ys ∧ P.map (·.p) = (if bk then L.take (m - i) else L.drop i))) (fun iv _ => (m - intOf iv).toNat)
      case atStart => exact ⟨0, Nat.zero_le _, rfl, HS2⟩
      case round =>
        clear HS2
        obtain ⟨i, hi, rfl, HS⟩ := hrel
        obtain ⟨gv, P, h, hP⟩ := unhide HS
        have hPl : P.length = m - i := by
          have := congrArg List.length hP
          rw [List.length_map] at this
          cases bk with
          | true => rw [if_pos rfl, List.length_take, (unhide HLS).1] at this; omega
          | false => rw [if_neg (by simp), List.length_drop, (unhide HLS).1] at this; omega
        have HPL := hide (And.intro hP hPl)
        have H := hide h
        by_cases hlt : i < m
        · have hiI : (i : Int) < (m : Int) := by omega
          have hi0 : (0 : Int) ≤ (i : Int) := by omega
          obtain ⟨gs, rfl⟩ : ∃ gs, sa = some ⟨gs, 0, none⟩ := by
            obtain ⟨gs, c_, hv_, _, _, _⟩ := own_open h.row (by rw [(unhide HLS).1]; omega)
            simp only [Value.slice.injEq] at hv_
            exact ⟨gs, hv_.1⟩
          obtain ⟨a1, hp1⟩ : ∃ p, L[i]? = some p := ⟨_, List.getElem?_eq_getElem (by rw [(unhide HLS).1]; exact hlt)⟩
          obtain ⟨y1, hy1'⟩ : ∃ y, ys[i]? = some y := ⟨_, List.getElem?_eq_getElem (by rw [h.xl, (unhide HLS).1]; exact hlt)⟩
          have HR1 : Hid (FdR V a1.fd y1) := (h.rd i a1 y1 hp1 hy1').1
          obtain ⟨CL, hCL⟩ : ∃ z, z = ptC a1 y1 := ⟨_, rfl⟩
          have hcl : CL.length = 57 := by rw [hCL]; rfl
          have hrng : ∀ (W : World), Below wr.heap.size wr W → W.rangeAt gs (i * 57) CL := fun W hW j u hj => by
            have := own_cell (h.bw hW).row rfl (cellK_get (K := kPk) hp1 hy1' (by rw [hCL] at hj; exact hj))
            exact this
          obtain ⟨W, hWd⟩ : ∃ z, z = wr.drew := ⟨_, rfl⟩
          have bW : Below wr.heap.size wr W := by rw [hWd]; exact (Below.refl _ _).drew
          have S0 : W.rangeAt gs (i * 57) CL := hrng W bW
          have SZ : ∀ o, (W.alloc o).rangeAt gs (i * 57) CL := fun o => hrng _ (bw_tr bW (bwA W o))
          have HSF : Hid (∀ X : World, X = (W.alloc (.cells pt0 44)).setRow W.heap.size CL.toArray → X.rangeAt gs (i * 57) CL) := fun X hX => by
            rw [hX]; exact hrng _ (bw_tr bW (below_setRow' (bwA _ _) (Nat.le_refl _) _))
          have HI : Hid ((Try.prog.info? 44).map (·.size) = some CL.length) := by rw [hcl]; exact infoPkS2
          have HST : Hid ((Try.prog.info? 44).map (·.size) = some CL.toArray.size ∧ pt0.size = CL.toArray.size ∧ CL.toArray.all (·.oneCell') = true) := by
            have q : CL.toArray.size = 57 := (by rw [List.size_toArray, hcl])
            exact ⟨by rw [q]; exact infoPkS2, by rw [q]; rfl, all_oneCell_toArray (by rw [hCL]; exact pt_one (unhide HR1))⟩
          have HWD := hide hWd
          have HBW := hide bW
          have HP1 := hide hp1
          have HCL := hide hCL
          have hnlt := lt_of_blk h.k.ns.box
          have HGV : Hid (∀ k, wr.heap.size ≤ k → k ≠ V.heap.size ∧ gv.ownBlock ≠ some k) := fun k hk => ⟨by omega, fun c => by have := (World.ownsRow.lt h.k.ns.row k c).2; omega⟩
          clear HS h hP hPl hp1 hy1' hCL hrng hWd bW hnlt
          go_upto_region 17 with fail
          refine wp_region_held_drew (S := fun w' : World => (w').rangeAt gs (i * 57) CL) (by kernel_rfl) (by rw [← unhide HWD]; exact S0) (fun hHeld => ?_)
          revert hHeld
          rw [← unhide HWD]
          intro hHeld
          refine wpAnyH_take (i := 0) (oi := { dst := some 56, op := Op.move (Operand.tmp 6), type := 62, pos := "more.go:38", after := #[{ on := 5, ground := Ground.gcOnly Departure.lateStores }], guard := none }) (v := ?v0r1) rfl (by kernel_rfl) (by kernel_rfl) (by kernel_rfl) (fun _ _ _ h => h) (Or.inl ⟨by rfl, ?hy0r1⟩) (by exact hHeld) ?_
          case hy0r1 => (intro w hSw; (try dsimp only at hSw); go_simp; try (with_reducible rfl))
          try simp only [Act.put, List.setIfInBounds_toArray, List.set_cons_zero, List.set_cons_succ]
          refine wpAnyH_take (i := 1) (oi := { dst := some 57, op := Op.move (Operand.tmp 8), type := 3, pos := "more.go:38", after := #[{ on := 5, ground := Ground.gcOnly Departure.lateStores }], guard := none }) (v := ?v1r1) rfl (by kernel_rfl) (by kernel_rfl) (by kernel_rfl) (fun _ _ _ h => h) (Or.inl ⟨by rfl, ?hy1r1⟩) (by exact hHeld) ?_
          case hy1r1 => (intro w hSw; (try dsimp only at hSw); go_simp; try (with_reducible rfl))
          try simp only [Act.put, List.setIfInBounds_toArray, List.set_cons_zero, List.set_cons_succ]
          refine wpAnyH_take (i := 2) (oi := { dst := some 58, op := Op.indexAddr 62 (Operand.tmp 56) (Operand.tmp 57), type := 0, pos := "more.go:38", after := #[{ on := 0, ground := Ground.data }, { on := 1, ground := Ground.data }, { on := 5, ground := Ground.gcOnly Departure.lateStores }], guard := none }) (v := .pointer (some ⟨gs, i * 57, none⟩)) rfl (by kernel_rfl) (by kernel_rfl) (by kernel_rfl) (fun _ _ _ h => h) (Or.inl ⟨by rfl, ?hy2r1⟩) (by exact hHeld) ?_
          case hy2r1 => (intro w hSw; (try dsimp only at hSw); go_simp)
          try simp only [Act.put, List.setIfInBounds_toArray, List.set_cons_zero, List.set_cons_succ]
          refine wpAnyH_take (i := 3) (oi := { dst := some 59, op := Op.load 44 (Operand.tmp 58), type := 44, pos := "more.go:38", after := #[{ on := 2, ground := Ground.data }, { on := 5, ground := Ground.gcOnly Departure.lateStores }], guard := none }) (v := .agg CL.toArray) rfl (by kernel_rfl) (by kernel_rfl) (by kernel_rfl) (fun _ _ _ h => h) (yieldsIf_load_mid (by rfl) 44 (.tmp 58) rfl gs (i * 57) (by rfl) CL _ (fun _ h => h) Try.underlying44 rfl (unhide HI)) (by exact hHeld) ?_
          try simp only [Act.put, List.setIfInBounds_toArray, List.set_cons_zero, List.set_cons_succ]
          refine wpAnyH_ready (rs := [4]) (by kernel_rfl) (by simp) ?_
          refine AllReadyH.cons (o := { dst := some 10, op := Op.alloc 44, type := 0, pos := "more.go:38", after := #[], guard := none }) rfl (fun K hK => ?_) AllReadyH.nil
          go_simp
          refine hK.out _ _ (SZ _) (fun _ => ?_)
          clear hK K
          try simp only [Act.put, List.setIfInBounds_toArray, List.set_cons_zero, List.set_cons_succ]
          refine wpAnyH_take (i := 5) (oi := { dst := some 9, op := Op.assign (Operand.const (Value.int IntKind.i64 0)), type := 3, pos := "more.go:38", after := #[{ on := 0, ground := Ground.textOnly Departure.lateStores }, { on := 1, ground := Ground.textOnly Departure.lateStores }, { on := 2, ground := Ground.textOnly Departure.lateStores }, { on := 3, ground := Ground.textOnly Departure.lateStores }, { on := 4, ground := Ground.phase }], guard := none }) (v := .int .i64 0) rfl (by kernel_rfl) (by kernel_rfl) (by kernel_rfl) (fun _ _ _ h => h) (Or.inl ⟨by rfl, ?hy5r1⟩) (by exact (SZ _)) ?_
          case hy5r1 => (intro w hSw; (try dsimp only at hSw); go_simp)
          try simp only [Act.put, List.setIfInBounds_toArray, List.set_cons_zero, List.set_cons_succ]
          refine wpAnyH_ready (rs := [6]) (by kernel_rfl) (by simp) ?_
          refine AllReadyH.cons (o := { dst := none, op := Op.store 44 (Operand.tmp 10) (Operand.tmp 59), type := 0, pos := "more.go:38", after := #[{ on := 4, ground := Ground.data }, { on := 3, ground := Ground.data }, { on := 5, ground := Ground.chain }, { on := 0, ground := Ground.phase }, { on := 1, ground := Ground.phase }, { on := 2, ground := Ground.phase }, { on := 3, ground := Ground.phase }, { on := 4, ground := Ground.phase }, { on := 5, ground := Ground.phase }], guard := none }) rfl (fun K hK => ?_) AllReadyH.nil
          refine step_storeW rfl 44 (.tmp 10) (.tmp 59) rfl W.heap.size CL.toArray (by first | rfl | simp [Act.eval, Act.put]) (by first | rfl | simp [Act.eval, Act.put]) 44 pt0 (heap_alloc_new _ _) (unhide HST).1 (unhide HST).2.1 (unhide HST).2.2 ?_
          refine hK.out _ _ (unhide HSF _ rfl) (fun _ => ?_)
          clear hK K
          try simp only [Act.put]
          refine wpAnyH_done (by kernel_rfl) ?_ _
          generalize hV1 : World.setRow _ _ _ = V1
          obtain ⟨k10, hk10⟩ : ∃ z, z = W.heap.size := ⟨_, rfl⟩
          have HBX0 : Hid (V1.heap[k10]? = some (.cells CL.toArray 44 (0, 0)) ∧ k10 ≠ V.heap.size ∧ gv.ownBlock ≠ some k10) := by
            rw [hk10, ← hV1]
            refine ⟨setRow_heap _ _ _ _ _ _ (heap_alloc_new W (.cells pt0 44)), unhide HGV _ (unhide HBW).size⟩
          have HNG : Hid (gs ≠ k10) := by rw [hk10]; intro c; have := (World.ownsRow.lt (unhide H).row gs rfl).2; have := (unhide HBW).size; omega
          have HNP : Hid (∀ q ∈ P, k10 ∉ pyZ q) := fun q hq c => by rw [hk10] at c; have := (((unhide H).k.ns.el q hq).lt _ c).2; have := (unhide HBW).size; omega
          have HVK : Hid (V.heap.size ≤ k10) := by rw [hk10]; have := (unhide H).k.bel.size; have := (unhide HBW).size; unfold Hid; omega
          have H1 : Hid (DrS V V1 V.heap.size gv P (.slice (some ⟨gs, 0, none⟩) m sc) L ys) := by
            rw [← hV1]; exact (unhide H).bw (bw_tr (unhide HBW) (below_setRow' (bwA _ _) (Nat.le_refl _) _))
          rw [← hk10]
          clear hV1 hk10 S0 SZ HSF hHeld HST HWD HBW H
          cases bk with
          | false =>
            have HQ : Hid (∀ q, P[0]? = some q → q.p = a1) := fun q hq => by
              have := (unhide HPL).1
              rw [if_neg (by simp)] at this
              have h2 : (P.map (·.p))[0]? = some q.p := by rw [List.getElem?_map, hq]; rfl
              rw [this, List.getElem?_drop, Nat.add_zero, unhide HP1] at h2
              simpa using h2.symm
            have KD : Hid (Calls Try.prog 15 #[.pointer (some ⟨V.heap.size, 0, none⟩), .int .i64 0] V1 _) := ddel_any (unhide H1) 0 (by rw [(unhide HPL).2]; omega) (by rw [(unhide HPL).2]; omega)
            go_wp2_with fail
            refine (unhide KD).mono ?_
            rintro e w9 ⟨q9, y9, gv9, rfl, H9⟩
            obtain ⟨CQ, hCQ⟩ : ∃ z, z = (ptC q9.p y9).toArray := ⟨_, rfl⟩
            have HCQ : Hid ((Try.prog.info? 44).map (·.size) = some CQ.size ∧ pt0.size = CQ.size ∧ CQ.all (·.oneCell') = true) := by
              rw [hCQ]
              exact ⟨by rw [List.size_toArray]; exact infoPkS2, by rw [List.size_toArray]; rfl, all_oneCell_toArray (pt_one (unhide H9).2.2.1)⟩
            rw [← hCQ]
            have HCE := hide hCQ
            have HCQS : Hid ((Try.prog.info? 44).map (·.size) = some CQ.size) := (unhide HCQ).1
            clear KD hCQ
            go_upto_region 21 with (refine wpList_store_row rfl 44 (.tmp 11) (.tmp 76) rfl w9.heap.size CQ rfl rfl 44 pt0 (heap_alloc_new _ _) (unhide HCQ).1 (unhide HCQ).2.1 (unhide HCQ).2.2 ?_)
            generalize hV11 : World.setRow _ _ _ = V11
            have HV11 : Hid (Below w9.heap.size w9 V11 ∧ V11.heap[w9.heap.size]? = some (.cells CQ 44 (0, 0))) := by
              rw [← hV11]
              exact ⟨below_setRow' (bwA _ _) (Nat.le_refl _) _, setRow_heap _ _ _ _ _ _ (heap_alloc_new w9 (.cells pt0 44))⟩
            have HXB : Hid (V11.heap[k10]? = some (.cells CL.toArray 44 (0, 0)) ∧ (Try.prog.info? 44).map (·.size) = some CL.toArray.size) := by
              obtain ⟨_, _, _, _, f9⟩ := unhide H9
              have hb := (unhide HBX0).1
              have h1 : w9.heap[k10]? = some (.cells CL.toArray 44 (0, 0)) := by rw [f9.block k10 (blk_lt hb) (nsZ_not (unhide HBX0).2.1 (unhide HBX0).2.2)]; exact hb
              refine ⟨by rw [(unhide HV11).1.block k10 (blk_lt h1)]; exact h1, by rw [List.size_toArray, hcl]; exact infoPkS2⟩
            have H11 := hide ((unhide H9).2.1.bw (unhide HV11).1)
            have KSP : Hid (Calls Try.prog 16 #[.agg CQ, .agg CL.toArray] V11 fun e w' => e = .returned (.bool true) ∧ Below V11.heap.size V11 w') := by
              obtain ⟨c1, _, c3, c4, _⟩ := unhide H9
              have hqa : q9.p = a1 := unhide HQ q9 c1
              rw [unhide HCE, unhide HCL, hqa]
              rw [hqa] at c3 c4
              exact samePt_any (c3.bw (unhide HV11).1) ((unhide HR1).bw (unhide H11).k.bel) c4
            have HNEXT : Hid (∃ gv P, DrS V V11 V.heap.size gv P (.slice (some ⟨gs, 0, none⟩) m sc) L ys ∧ P.map (·.p) = (if false then L.take (m - (i + 1)) else L.drop (i + 1))) := by
              refine ⟨_, _, unhide H11, ?_⟩
              rw [if_neg (by simp)]
              have := (unhide HPL).1
              rw [if_neg (by simp)] at this
              rw [List.eraseIdx_zero, List.map_tail, this, List.tail_drop]
            clear hV11 H9 H11 HCQ HCE HBX0
            go_wp2_with (first
              | refine wpList_load_rowG (by first | rfl | simp [Region.wanted, yielded]) 44 (.tmp 11) rfl w9.heap.size rfl 44 CQ (0, 0) _ (unhide HV11).2 Try.underlying44 rfl (by first | exact (unhide HCQS)) ?_
              | refine wpList_load_rowG (by first | rfl | simp [Region.wanted, yielded]) 44 (.tmp 10) rfl k10 rfl 44 CL.toArray (0, 0) _ (unhide HXB).1 Try.underlying44 rfl (unhide HXB).2 ?_)
            refine (unhide KSP).mono ?_
            rintro e w12 ⟨rfl, b12⟩
            have HN2 : Hid (∃ gv P, DrS V w12 V.heap.size gv P (.slice (some ⟨gs, 0, none⟩) m sc) L ys ∧ P.map (·.p) = (if false then L.take (m - (i + 1)) else L.drop (i + 1))) := by
              obtain ⟨gvn, Pn, n1, n2⟩ := unhide HNEXT
              exact ⟨gvn, Pn, n1.bw b12, n2⟩
            clear KSP HXB HNEXT b12 HV11
            go_wp2_with fail
            go_roundw
            case rel => exact ⟨i + 1, by omega, by go_num, HN2⟩
            case measure => simp only [intOf]; omega
          | true =>
            obtain ⟨m1, hm1⟩ : ∃ m1, m = m1 + 1 := ⟨m - 1, by omega⟩
            obtain ⟨j2, hj2⟩ : ∃ j2, j2 = m1 - i := ⟨_, rfl⟩
            have hj2m : j2 < m := by omega
            have hj2I : (j2 : Int) < (m : Int) := by omega
            have hj20 : (0 : Int) ≤ (j2 : Int) := by omega
            have HW1 : Hid (IntKind.i64.wrap ((m : Int) - 1) = (m1 : Int)) := by unfold Hid; rw [IntKind.wrap_i64]; omega
            have HW2 : Hid (IntKind.i64.wrap ((m1 : Int) - (i : Int)) = (j2 : Int)) := by unfold Hid; rw [IntKind.wrap_i64]; omega
            have HW3 : Hid (IntKind.i64.wrap (((j2 + 1 : Nat) : Int) - 1) = (j2 : Int)) := by unfold Hid; rw [IntKind.wrap_i64]; omega
            have HW4 : Hid (IntKind.i64.wrap (j2 : Int) = (j2 : Int)) := by unfold Hid; rw [IntKind.wrap_i64]; omega
            obtain ⟨a2, hp2⟩ : ∃ p, L[j2]? = some p := ⟨_, List.getElem?_eq_getElem (by rw [(unhide HLS).1]; exact hj2m)⟩
            obtain ⟨y2, hy2'⟩ : ∃ y, ys[j2]? = some y := ⟨_, List.getElem?_eq_getElem (by rw [(unhide H1).xl, (unhide HLS).1]; exact hj2m)⟩
            have HR2 : Hid (FdR V a2.fd y2) := ((unhide H1).rd j2 a2 y2 hp2 hy2').1
            obtain ⟨C2, hC2⟩ : ∃ z, z = ptC a2 y2 := ⟨_, rfl⟩
            have hc2 : C2.length = 57 := by rw [hC2]; rfl
            have hrng : ∀ (W : World), DrS V W V.heap.size gv P (.slice (some ⟨gs, 0, none⟩) m sc) L ys → W.rangeAt gs (j2 * 57) C2 := fun W hW j u hj => by
              have := own_cell hW.row rfl (cellK_get (K := kPk) hp2 hy2' (by rw [hC2] at hj; exact hj))
              exact this
            obtain ⟨W2, hWd2⟩ : ∃ z, z = V1.drew := ⟨_, rfl⟩
            have hD2 : DrS V W2 V.heap.size gv P (.slice (some ⟨gs, 0, none⟩) m sc) L ys := by rw [hWd2]; exact (unhide H1).bw (Below.refl _ _).drew
            have T0 : W2.rangeAt gs (j2 * 57) C2 := hrng W2 hD2
            have HBX : Hid (W2.heap[k10]? = some (.cells CL.toArray 44 (0, 0))) := by rw [hWd2]; exact (unhide HBX0).1
            have hgs : gs ≠ k10 := fun c => by
              exact (unhide HNG) c
            have hset : ∀ X : World, X = W2.setRow k10 C2.toArray → DrS V X V.heap.size gv P (.slice (some ⟨gs, 0, none⟩) m sc) L ys ∧ X.heap[k10]? = some (.cells C2.toArray 44 (0, 0)) := fun X hX => by
              rw [hX]
              exact ⟨hD2.other (fun c => hgs (by simpa [Value.ownBlock] using c)) (unhide HBX0).2.1 (unhide HBX0).2.2 (fun q hq c => unhide HNP q hq c) (unhide HVK), setRow_heap _ _ _ _ _ _ (unhide HBX)⟩
            have HTF : Hid (∀ X : World, X = W2.setRow k10 C2.toArray → X.rangeAt gs (j2 * 57) C2) := fun X hX => hrng X (hset X hX).1
            have HI2 : Hid ((Try.prog.info? 44).map (·.size) = some C2.length) := by rw [hc2]; exact infoPkS2
            have HST2 : Hid ((Try.prog.info? 44).map (·.size) = some C2.toArray.size ∧ CL.toArray.size = C2.toArray.size ∧ C2.toArray.all (·.oneCell') = true) := by
              have q : C2.toArray.size = 57 := (by rw [List.size_toArray, hc2])
              have q2 : CL.toArray.size = 57 := (by rw [List.size_toArray, hcl])
              exact ⟨by rw [q]; exact infoPkS2, by rw [q, q2], all_oneCell_toArray (by rw [hC2]; exact pt_one (unhide HR2))⟩
            have KL : Hid (Calls Try.prog 14 #[.pointer (some ⟨V.heap.size, 0, none⟩)] W2 fun e w' => e = .returned (.int .i64 ((j2 + 1 : Nat) : Int)) ∧ w' = W2) := by
              have := lenK_any hD2.k
              rw [(unhide HPL).2, show m - i = j2 + 1 by omega] at this; exact this
            have HWD2 := hide hWd2
            have HSET := hide hset
            have HP2 := hide hp2
            have HC2 := hide hC2
            have HJ2 := hide (And.intro hj2 hm1)
            clear hp2 hy2' hC2 hrng hWd2 hD2 hgs hset hj2 hm1 H1
            go_upto_region 19 with fail
            refine wp_region_held_drew (S := fun w' : World => (w').rangeAt gs (j2 * 57) C2) (by kernel_rfl) (by rw [← unhide HWD2]; exact T0) (fun hHeld => ?_)
            revert hHeld
            rw [← unhide HWD2]
            intro hHeld
            refine wpAnyH_take (i := 0) (oi := { dst := some 61, op := Op.move (Operand.tmp 5), type := 49, pos := "more.go:40", after := #[], guard := none }) (v := ?v0r2) rfl (by kernel_rfl) (by kernel_rfl) (by kernel_rfl) (fun _ _ _ h => h) (Or.inl ⟨by rfl, ?hy0r2⟩) (by exact hHeld) ?_
            case hy0r2 => (intro w hSw; (try dsimp only at hSw); go_simp; try (with_reducible rfl))
            try simp only [Act.put, List.setIfInBounds_toArray, List.set_cons_zero, List.set_cons_succ]
            refine wpAnyH_take (i := 3) (oi := { dst := some 64, op := Op.move (Operand.tmp 6), type := 62, pos := "more.go:40", after := #[{ on := 11, ground := Ground.gcOnly Departure.lateStores }], guard := none }) (v := ?v3r2) rfl (by kernel_rfl) (by kernel_rfl) (by kernel_rfl) (fun _ _ _ h => h) (Or.inl ⟨by rfl, ?hy3r2⟩) (by exact hHeld) ?_
            case hy3r2 => (intro w hSw; (try dsimp only at hSw); go_simp; try (with_reducible rfl))
            try simp only [Act.put, List.setIfInBounds_toArray, List.set_cons_zero, List.set_cons_succ]
            refine wpAnyH_take (i := 4) (oi := { dst := some 65, op := Op.move (Operand.tmp 6), type := 62, pos := "more.go:40", after := #[], guard := none }) (v := ?v4r2) rfl (by kernel_rfl) (by kernel_rfl) (by kernel_rfl) (fun _ _ _ h => h) (Or.inl ⟨by rfl, ?hy4r2⟩) (by exact hHeld) ?_
            case hy4r2 => (intro w hSw; (try dsimp only at hSw); go_simp; try (with_reducible rfl))
            try simp only [Act.put, List.setIfInBounds_toArray, List.set_cons_zero, List.set_cons_succ]
            refine wpAnyH_take (i := 5) (oi := { dst := some 66, op := Op.call { callee := Callee.builtin Builtin.len, args := #[Operand.tmp 65], argTypes := #[62] }, type := 3, pos := "more.go:40", after := #[{ on := 4, ground := Ground.data }], guard := none }) (v := ?v5r2) rfl (by kernel_rfl) (by kernel_rfl) (by kernel_rfl) (fun _ _ _ h => h) (Or.inl ⟨by rfl, ?hy5r2⟩) (by exact hHeld) ?_
            case hy5r2 => (intro w hSw; (try dsimp only at hSw); go_simp; try (with_reducible rfl))
            try simp only [Act.put, List.setIfInBounds_toArray, List.set_cons_zero, List.set_cons_succ]
            refine wpAnyH_take (i := 6) (oi := { dst := some 67, op := Op.binOp BinOp.sub 3 (Operand.tmp 66) (Operand.const (Value.int IntKind.i64 1)) 3, type := 3, pos := "more.go:40", after := #[{ on := 5, ground := Ground.data }, { on := 11, ground := Ground.gcOnly Departure.lateStores }], guard := none }) (v := .int .i64 (m1 : Int)) rfl (by kernel_rfl) (by kernel_rfl) (by kernel_rfl) (fun _ _ _ h => h) (Or.inl ⟨by rfl, ?hy6r2⟩) (by exact hHeld) ?_
            case hy6r2 => (intro w hSw; (try dsimp only at hSw); go_simp; try (exact unhide HW1))
            try simp only [Act.put, List.setIfInBounds_toArray, List.set_cons_zero, List.set_cons_succ]
            refine wpAnyH_take (i := 7) (oi := { dst := some 68, op := Op.move (Operand.tmp 8), type := 3, pos := "more.go:40", after := #[{ on := 11, ground := Ground.gcOnly Departure.lateStores }], guard := none }) (v := ?v7r2) rfl (by kernel_rfl) (by kernel_rfl) (by kernel_rfl) (fun _ _ _ h => h) (Or.inl ⟨by rfl, ?hy7r2⟩) (by exact hHeld) ?_
            case hy7r2 => (intro w hSw; (try dsimp only at hSw); go_simp; try (with_reducible rfl))
            try simp only [Act.put, List.setIfInBounds_toArray, List.set_cons_zero, List.set_cons_succ]
            refine wpAnyH_take (i := 8) (oi := { dst := some 69, op := Op.binOp BinOp.sub 3 (Operand.tmp 67) (Operand.tmp 68) 3, type := 3, pos := "more.go:40", after := #[{ on := 6, ground := Ground.data }, { on := 7, ground := Ground.data }, { on := 11, ground := Ground.gcOnly Departure.lateStores }], guard := none }) (v := .int .i64 (j2 : Int)) rfl (by kernel_rfl) (by kernel_rfl) (by kernel_rfl) (fun _ _ _ h => h) (Or.inl ⟨by rfl, ?hy8r2⟩) (by exact hHeld) ?_
            case hy8r2 => (intro w hSw; (try dsimp only at hSw); go_simp; try (exact unhide HW2))
            try simp only [Act.put, List.setIfInBounds_toArray, List.set_cons_zero, List.set_cons_succ]
            refine wpAnyH_take (i := 9) (oi := { dst := some 70, op := Op.indexAddr 62 (Operand.tmp 64) (Operand.tmp 69), type := 0, pos := "more.go:40", after := #[{ on := 3, ground := Ground.data }, { on := 8, ground := Ground.data }, { on := 11, ground := Ground.gcOnly Departure.lateStores }], guard := none }) (v := .pointer (some ⟨gs, j2 * 57, none⟩)) rfl (by kernel_rfl) (by kernel_rfl) (by kernel_rfl) (fun _ _ _ h => h) (Or.inl ⟨by rfl, ?hy9r2⟩) (by exact hHeld) ?_
            case hy9r2 => (intro w hSw; (try dsimp only at hSw); go_simp)
            try simp only [Act.put, List.setIfInBounds_toArray, List.set_cons_zero, List.set_cons_succ]
            refine wpAnyH_take (i := 10) (oi := { dst := some 71, op := Op.load 44 (Operand.tmp 70), type := 44, pos := "more.go:40", after := #[{ on := 9, ground := Ground.data }, { on := 11, ground := Ground.gcOnly Departure.lateStores }], guard := none }) (v := .agg C2.toArray) rfl (by kernel_rfl) (by kernel_rfl) (by kernel_rfl) (fun _ _ _ h => h) (yieldsIf_load_mid (by rfl) 44 (.tmp 70) rfl gs (j2 * 57) (by rfl) C2 _ (fun _ h => h) Try.underlying44 rfl (unhide HI2)) (by exact hHeld) ?_
            try simp only [Act.put, List.setIfInBounds_toArray, List.set_cons_zero, List.set_cons_succ]
            refine wpAnyH_ready (rs := [1]) (by kernel_rfl) (by simp) ?_
            refine AllReadyH.cons (o := { dst := some 62, op := Op.call { callee := Callee.value (Operand.func 14), args := #[Operand.tmp 61], argTypes := #[49] }, type := 3, pos := "more.go:40", after := #[{ on := 0, ground := Ground.data }], guard := none }) rfl (fun K hK => ?_) AllReadyH.nil
            go_simp
            go_at_call 14
            refine (unhide KL).mono ?_
            rintro e_ z1 ⟨rfl, rfl⟩
            go_wp2_with fail
            refine hK.out _ _ T0 (fun _ => ?_)
            clear hK K
            try simp only [Act.put, List.setIfInBounds_toArray, List.set_cons_zero, List.set_cons_succ]
            refine wpAnyH_take (i := 2) (oi := { dst := some 63, op := Op.binOp BinOp.sub 3 (Operand.tmp 62) (Operand.const (Value.int IntKind.i64 1)) 3, type := 3, pos := "more.go:40", after := #[{ on := 1, ground := Ground.data }], guard := none }) (v := .int .i64 (j2 : Int)) rfl (by kernel_rfl) (by kernel_rfl) (by kernel_rfl) (fun _ _ _ h => h) (Or.inl ⟨by rfl, ?hy2r2⟩) (by exact T0) ?_
            case hy2r2 => (intro w hSw; (try dsimp only at hSw); go_simp; try (first | exact unhide HW3 | exact unhide HW4))
            try simp only [Act.put, List.setIfInBounds_toArray, List.set_cons_zero, List.set_cons_succ]
            refine wpAnyH_take (i := 11) (oi := { dst := some 9, op := Op.assign (Operand.tmp 63), type := 3, pos := "more.go:40", after := #[{ on := 2, ground := Ground.data }, { on := 1, ground := Ground.chain }, { on := 0, ground := Ground.phase }, { on := 1, ground := Ground.phase }, { on := 2, ground := Ground.phase }, { on := 3, ground := Ground.textOnly Departure.lateStores }, { on := 4, ground := Ground.textOnly Departure.lateStores }, { on := 5, ground := Ground.textOnly Departure.lateStoresUnsure }, { on := 6, ground := Ground.textOnly Departure.lateStores }, { on := 7, ground := Ground.textOnly Departure.lateStores }, { on := 8, ground := Ground.textOnly Departure.lateStores }, { on := 9, ground := Ground.textOnly Departure.lateStores }, { on := 10, ground := Ground.textOnly Departure.lateStores }], guard := none }) (v := .int .i64 (j2 : Int)) rfl (by kernel_rfl) (by kernel_rfl) (by kernel_rfl) (fun _ _ _ h => h) (Or.inl ⟨by rfl, ?hy11r2⟩) (by exact T0) ?_
            case hy11r2 => (intro w hSw; (try dsimp only at hSw); go_simp)
            try simp only [Act.put, List.setIfInBounds_toArray, List.set_cons_zero, List.set_cons_succ]
            refine wpAnyH_ready (rs := [12]) (by kernel_rfl) (by simp) ?_
            refine AllReadyH.cons (o := { dst := none, op := Op.store 44 (Operand.tmp 10) (Operand.tmp 71), type := 0, pos := "more.go:40", after := #[{ on := 10, ground := Ground.data }, { on := 11, ground := Ground.chain }, { on := 0, ground := Ground.phase }, { on := 1, ground := Ground.phase }, { on := 2, ground := Ground.phase }, { on := 3, ground := Ground.phase }, { on := 4, ground := Ground.phase }, { on := 5, ground := Ground.phase }, { on := 6, ground := Ground.phase }, { on := 7, ground := Ground.phase }, { on := 8, ground := Ground.phase }, { on := 9, ground := Ground.phase }, { on := 10, ground := Ground.phase }, { on := 11, ground := Ground.phase }], guard := none }) rfl (fun K hK => ?_) AllReadyH.nil
            refine step_storeW rfl 44 (.tmp 10) (.tmp 71) rfl k10 C2.toArray (by first | rfl | simp [Act.eval, Act.put]) (by first | rfl | simp [Act.eval, Act.put]) 44 CL.toArray (unhide HBX) (unhide HST2).1 (unhide HST2).2.1 (unhide HST2).2.2 ?_
            refine hK.out _ _ (unhide HTF _ rfl) (fun _ => ?_)
            clear hK K
            try simp only [Act.put]
            refine wpAnyH_done (by kernel_rfl) ?_ _
            generalize hV2 : World.setRow _ _ _ = V2
            have HS2 : Hid (DrS V V2 V.heap.size gv P (.slice (some ⟨gs, 0, none⟩) m sc) L ys ∧ V2.heap[k10]? = some (.cells C2.toArray 44 (0, 0))) := unhide HSET V2 hV2.symm
            have HBX2 : Hid (V2.heap[k10]? = some (.cells C2.toArray 44 (0, 0)) ∧ k10 ≠ V.heap.size ∧ gv.ownBlock ≠ some k10) := ⟨(unhide HS2).2, (unhide HBX0).2⟩
            have HQ : Hid (∀ q, P[j2]? = some q → q.p = a2) := fun q hq => by
              have := (unhide HPL).1
              rw [if_pos trivial] at this
              have h2 : (P.map (·.p))[j2]? = some q.p := by rw [List.getElem?_map, hq]; rfl
              rw [this, List.getElem?_take, if_pos (by have := unhide HJ2; omega), unhide HP2] at h2
              simpa using h2.symm
            have KD := hide (ddel_any (unhide HS2).1 j2 (by rw [(unhide HPL).2]; have := unhide HJ2; omega) (by rw [(unhide HPL).2]; omega))
            clear hV2 T0 HTF hHeld HST2 HWD2 HSET KL HBX HBX0 HW1 HW2 HW3 HW4 HS2
            go_wp2_with fail
            refine (unhide KD).mono ?_
            rintro e w9 ⟨q9, y9, gv9, rfl, H9⟩
            obtain ⟨CQ, hCQ⟩ : ∃ z, z = (ptC q9.p y9).toArray := ⟨_, rfl⟩
            have HCQ : Hid ((Try.prog.info? 44).map (·.size) = some CQ.size ∧ pt0.size = CQ.size ∧ CQ.all (·.oneCell') = true) := by
              rw [hCQ]
              exact ⟨by rw [List.size_toArray]; exact infoPkS2, by rw [List.size_toArray]; rfl, all_oneCell_toArray (pt_one (unhide H9).2.2.1)⟩
            rw [← hCQ]
            have HCE := hide hCQ
            have HCQS : Hid ((Try.prog.info? 44).map (·.size) = some CQ.size) := (unhide HCQ).1
            clear KD hCQ
            go_upto_region 21 with (refine wpList_store_row rfl 44 (.tmp 11) (.tmp 76) rfl w9.heap.size CQ rfl rfl 44 pt0 (heap_alloc_new _ _) (unhide HCQ).1 (unhide HCQ).2.1 (unhide HCQ).2.2 ?_)
            generalize hV11 : World.setRow _ _ _ = V11
            have HV11 : Hid (Below w9.heap.size w9 V11 ∧ V11.heap[w9.heap.size]? = some (.cells CQ 44 (0, 0))) := by
              rw [← hV11]
              exact ⟨below_setRow' (bwA _ _) (Nat.le_refl _) _, setRow_heap _ _ _ _ _ _ (heap_alloc_new w9 (.cells pt0 44))⟩
            have HXB : Hid (V11.heap[k10]? = some (.cells C2.toArray 44 (0, 0)) ∧ (Try.prog.info? 44).map (·.size) = some C2.toArray.size) := by
              obtain ⟨_, _, _, _, f9⟩ := unhide H9
              have hb := (unhide HBX2).1
              have h1 : w9.heap[k10]? = some (.cells C2.toArray 44 (0, 0)) := by rw [f9.block k10 (blk_lt hb) (nsZ_not (unhide HBX2).2.1 (unhide HBX2).2.2)]; exact hb
              refine ⟨by rw [(unhide HV11).1.block k10 (blk_lt h1)]; exact h1, by rw [List.size_toArray, hc2]; exact infoPkS2⟩
            have H11 := hide ((unhide H9).2.1.bw (unhide HV11).1)
            have KSP : Hid (Calls Try.prog 16 #[.agg CQ, .agg C2.toArray] V11 fun e w' => e = .returned (.bool true) ∧ Below V11.heap.size V11 w') := by
              obtain ⟨c1, _, c3, c4, _⟩ := unhide H9
              have hqa : q9.p = a2 := unhide HQ q9 c1
              rw [unhide HCE, unhide HC2, hqa]
              rw [hqa] at c3 c4
              exact samePt_any (c3.bw (unhide HV11).1) ((unhide HR2).bw (unhide H11).k.bel) c4
            have HNEXT : Hid (∃ gv P, DrS V V11 V.heap.size gv P (.slice (some ⟨gs, 0, none⟩) m sc) L ys ∧ P.map (·.p) = (if true then L.take (m - (i + 1)) else L.drop (i + 1))) := by
              refine ⟨_, _, unhide H11, ?_⟩
              rw [if_pos rfl]
              have := (unhide HPL).1
              rw [if_pos trivial] at this
              rw [List.eraseIdx_eq_take_drop_succ, List.map_append, List.map_take, List.map_drop, this]
              have hl := (unhide HLS).1
              have := unhide HJ2
              rw [List.drop_of_length_le (by rw [List.length_take]; omega), List.append_nil, List.take_take]
              congr 1
              omega
            clear hV11 H9 H11 HCQ HCE HBX2
            go_wp2_with (first
              | refine wpList_load_rowG (by first | rfl | simp [Region.wanted, yielded]) 44 (.tmp 11) rfl w9.heap.size rfl 44 CQ (0, 0) _ (unhide HV11).2 Try.underlying44 rfl (by first | exact (unhide HCQS)) ?_
              | refine wpList_load_rowG (by first | rfl | simp [Region.wanted, yielded]) 44 (.tmp 10) rfl k10 rfl 44 C2.toArray (0, 0) _ (unhide HXB).1 Try.underlying44 rfl (unhide HXB).2 ?_)
            refine (unhide KSP).mono ?_
            rintro e w12 ⟨rfl, b12⟩
            have HN2 : Hid (∃ gv P, DrS V w12 V.heap.size gv P (.slice (some ⟨gs, 0, none⟩) m sc) L ys ∧ P.map (·.p) = (if true then L.take (m - (i + 1)) else L.drop (i + 1))) := by
              obtain ⟨gvn, Pn, n1, n2⟩ := unhide HNEXT
              exact ⟨gvn, Pn, n1.bw b12, n2⟩
            clear KSP HXB HNEXT b12 HV11
            go_wp2_with fail
            go_roundw
            case rel => exact ⟨i + 1, by omega, by go_num, HN2⟩
            case measure => simp only [intOf]; omega
        · obtain rfl : i = m := by omega
          have KL : Hid (Calls Try.prog 14 #[.pointer (some ⟨V.heap.size, 0, none⟩)] wr fun e w' => e = .returned (.int .i64 0) ∧ w' = wr) := by
            have := lenK_any h.k
            rw [hPl, Nat.sub_self] at this; exact this
          have HB := hide (bw_tr (unhide HV) h.k.bel)
          clear HS h hP hPl HPL H
          go_wp2_with fail
          refine (unhide KL).mono ?_
          rintro e w9 ⟨rfl, rfl⟩
          clear KL
          go_wp2_with fail
          refine (unhide KAL _).mono ?_
          rintro e w10 ⟨rfl, b10⟩
          clear KAL
          go_wp2_with fail
          go_ret
          exact ⟨rfl, bw_tr (unhide HB) b10⟩
end Go.Proofs.Ytndgdpefoidfbaa

/- NetOrder: for all rows of packets the law answers true: packets that are delivered from the beginning come out in the order in which they were sent, from the end in the other one. No condition (the law itself claims nothing of more than 500 packets or of more than 262144 values). -/
namespace Go.Proofs.Ytndgdpefoidfbaa
open Go.ChangeShapes Go.WideShapes Go.ChangeAt Go.RowKit Go.Joins Go.Deep Go.Maps
set_option maxRecDepth 100000 in
theorem NetOrder_lifted (os : Os) (started : os.Started) (H : Type) (enc : TypeId × Value → H) :
    ReturnsInHanded {} Try.checked os 5 .any (Rows.netOrderSpec.pre6 enc Try.prog Try.f5 Rows.netOrderRow.domain false) (Rows.netOrderSpec.post enc Try.prog Try.f5 false true false false) := by
  refine returnsInHanded_of_change_sized (C := Try.checked) own started (by kernel_rfl) Try.func5
    (ChangeSpec.witness6 (enc := enc) (C := Try.checked) false ⟨#[], #[.slice none 0 0, .bool false], []⟩ 8 (by kernel_rfl) (by kernel_rfl) (by kernel_rfl) (by kernel_rfl)) ?_
  intro W base args ds gs before hval0 hW hcnd hsz0 _
  have hval : ∀ (j : Nat) t v, Try.f5.params[j]? = some t → args[j]? = some v → Value.okWide Try.prog W .any base t v := hval0
  have hsz : (DataW.weightsEach Try.prog (Try.f5.params.toList ++ Rows.netOrderSpec.plain.varTypes Try.prog) (ds ++ gs)).all (· ≤ reachBytes) = true := hsz0
  have hW' := hW
  obtain ⟨p, q, hA0, hV, rfl, hfz, hnd⟩ := hW
  have hA : DataW.TrodAll enc Try.prog W 0 (fun _ => true) true Try.f5.params.toList args.toList ds p := hA0
  rw [Try.params5] at hA hval hsz
  obtain ⟨v0, vs0, d0, ds0, p0, q0, hargs, rfl, rfl, h0, r0⟩ := trodAll_cons hA
  obtain ⟨v1, vs1, d1, ds1, p1, q1, rfl, rfl, rfl, h1, r1⟩ := trodAll_cons r0
  obtain ⟨rfl, rfl, rfl⟩ := trodAll_nil r1
  obtain rfl : args = #[v0, v1] := by cases args; simp_all
  obtain ⟨rfl, rfl⟩ := trodVars_none hV
  have k0 := h0
  have lt0 : ∀ x ∈ p0, x.block < W.heap.size := by obtain ⟨m, hm⟩ := k0; exact DataW.trod_lt m _ _ _ hm
  obtain ⟨ad0, len0, cap0, rfl⟩ := okWide_slice Try.underlying62 (hval 0 62 v0 rfl rfl)
  obtain ⟨fu0, hf0⟩ := h0
  have hg0 : DataW.trod enc Try.prog W 0 (fun _ => true) true fu0 62 [.slice ad0 len0 cap0] = some (d0, p0) := by simpa [Value.cells] using hf0
  obtain ⟨l0, y0, n0, m0⟩ := open_ptsT hg0 (fun n hn => by simpa using List.all_eq_true.1 hsz n (DataW.weights_mem_each (j := 0) (t := 62) rfl rfl n hn))
  obtain ⟨a1, rfl, rfl, rfl⟩ := open_bool Try.underlying4 (hval 1 4 v1 rfl rfl) h1
  clear hA0 hval0
  refine (order_net_any n0 m0 a1).mono fun e W' ⟨he, bel⟩ => ?_
  subst he
  exact ⟨_, rfl, _, _, _, [], _, [], hW', trodAll_mk1 (shut_bool Try.underlying4 _), (trodAll_cons_mk (Below.trod laidOut (by kernel_rfl) (of_decide_eq_true (by kernel_rfl)) k0 bel lt0) (trodAll_cons_mk (shut_bool Try.underlying4 a1) trodAll_mk0)), rfl, bel.frame _, fun h => by cases h⟩
theorem NetOrder_over : Rows.netOrderRow.holds Try.pinned (OpenSpec.ofChange Rows.netOrderSpec) :=
  OpenClaim.holds_of_wide 5 Try.f5 rfl rfl rfl rfl rfl rfl rfl ⟨rfl, rfl, rfl, rfl, rfl⟩ rfl rfl rfl rfl rfl (by kernel_rfl) Try.func5 (by kernel_rfl)
    (of_decide_eq_true (by kernel_rfl)) (by unfold Func.isWrapper; first | (rw [if_pos (by decide +kernel)]; kernel_rfl) | (rw [if_neg (by decide +kernel)]; exact ⟨rfl, rfl⟩))
    (fun os started H enc _ => NetOrder_lifted os started H enc)
theorem NetOrder_holds : Rows.NetOrderSaid := NetOrder_over
#print axioms NetOrder_holds
end Go.Proofs.Ytndgdpefoidfbaa
