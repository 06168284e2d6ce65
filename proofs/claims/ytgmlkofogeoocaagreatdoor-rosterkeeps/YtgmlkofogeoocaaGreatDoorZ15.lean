/- Texts joined: PoKMail PoD PoKBox. -/
import Derived.Test.YtgmlkofogeoocaaGreatDoorPoC
import Derived.Deep.MidRow
import Derived.Laws.IdiomCopy
/- fresh.List of mails: a list of copies, in memory of its own. -/
namespace Go.Proofs.YtgmlkofogeoocaaGreatDoor
open Go.RowKit Go.Maps
theorem infoM : (Tryz.prog.info? 50).map (·.size) = some 30 := by
  obtain ⟨j0, hj, _, hy1, _⟩ := info_parts infoKMail
  rw [hj]; simp [hy1]
theorem mlC_len (m : Ml) (x : Mx) : (mlC m x).length = 30 := rfl
theorem setCells_pokesM (b : Nat) : ∀ (vs : List Value) (o : Nat) (w : World), w.setCells b o vs = pokes w b o vs
  | [], _, _ => rfl
  | v :: r, o, w => by rw [World.setCells, pokes, setCells_pokesM b r]
set_option maxRecDepth 100000 in
set_option maxHeartbeats 8000000 in
theorem listMail_any {w : World} {v : Value} {l : List Ml} {xs : List Mx} (h : RdL kMl w v l xs) (hl : l.length ≤ 1073741824) :
    Calls Tryz.prog 43 #[v, .func (.func 44) #[] #[]] w fun e w' => ∃ v' xs', e = .returned v' ∧ OwL kMl w.heap.size w' v' l xs' ∧ Below w.heap.size w w' := by
  obtain ⟨ad, cap, rfl, hsrc⟩ := h.form
  have KC := hide (cloneMail_any (w := w) (a := ad) (cap := cap) (cs := cellK kMl l xs) (cellK_len h.xl) (cellK_one h.xl h.el) hl (hsrc.imp (fun c => by rw [c]; rfl) (fun c => c)))
  have HC : Hid (∀ (w1 wr : World) (v : Value) (g : Nat) (xs : List Mx) (i : Nat), CpL kMl w.heap.size w w1 wr v g l xs i → i < l.length → ∃ (a : Ml) (cs : List Value), l[i]? = some a ∧ cs.length = 30 ∧ (∀ u ∈ cs, u.oneCell' = true) ∧ wr.rangeAt g (i * 30) cs ∧ wr.there g (i * 30) 30 ∧
      ∀ W, Below w.heap.size w W → Calls Tryz.prog 44 #[.agg cs.toArray] W fun x w' => ∃ (x' : Mx) (cs' : List Value), x = .returned (.agg cs'.toArray) ∧ Hid (cs'.length = 30 ∧ (∀ u ∈ cs', u.oneCell' = true) ∧ OM W.heap.size w' a x' ∧ mlC a x' = cs') ∧ Below W.heap.size W w') := by
    intro w1 wr v g xs i hcp hi
    obtain ⟨a, x, ha, hx, hR, hc⟩ := hcp.at hi
    refine ⟨a, mlC a x, ha, rfl, ml_one hR.1, hc, fun j hj => ⟨?_, own_frozen hcp.row hcp.own _⟩, fun W hW => ?_⟩
    · have : (mlC a x)[j]? = some ((mlC a x)[j]'(by rw [mlC_len]; exact hj)) := List.getElem?_eq_getElem _
      rw [show wr.cell? ⟨g, i * 30 + j, none⟩ = _ from hc j _ this]; rfl
    · refine (frMail_any (w := W) (hR.1.bw hW) hR.2).mono ?_
      rintro y w' ⟨x', rfl, ho, hb⟩
      exact ⟨x', _, rfl, ⟨rfl, ml_one (OM.rd ho hR.2), ho, rfl⟩, hb⟩
  have HR := hide h
  obtain ⟨N, hN⟩ : ∃ N, N = l.length := ⟨_, rfl⟩
  rw [← hN] at KC HC hl ⊢
  have hNI : (N : Int) ≤ 1073741824 := by omega
  have HN := hide hN
  clear h hsrc hl hN
  rcases Nat.eq_zero_or_pos N with h0 | h0
  · subst h0
    go_enter Tryz.func43, Tryz.ntmps43
    go_wp2_with fail
    refine (unhide KC).mono ?_
    rintro e w1 ⟨v1, rfl, ho, b1⟩
    obtain ⟨a1, c1, rfl⟩ := own_slice ho
    have HO := hide (And.intro ho b1)
    clear ho b1 KC HC
    go_wp2_with fail
    go_loopw [12] (fun iv wr => iv = .int .i64 0 ∧ wr = w1) (fun _ _ => 0)
    case atStart => exact ⟨rfl, rfl⟩
    case round =>
      obtain ⟨rfl, rfl⟩ := hrel
      go_wp2_with fail
      go_ret
      have hl0 : l = [] := List.eq_nil_of_length_eq_zero (unhide HN).symm
      have hx0 : xs = [] := List.eq_nil_of_length_eq_zero (by rw [(unhide HR).xl, hl0]; rfl)
      subst hl0 hx0
      exact ⟨_, [], rfl, ⟨rfl, (unhide HO).1, by simp, by simp, by simp⟩, (unhide HO).2⟩
  · go_enter Tryz.func43, Tryz.ntmps43
    go_wp2_with fail
    refine (unhide KC).mono ?_
    rintro e w1 ⟨v1, rfl, ho, b1⟩
    obtain ⟨g, c1, rfl, hg, _, _⟩ := own_open ho h0
    have S0 : Hid (CpL kMl w.heap.size w w1 w1 (.slice (some ⟨g, 0, none⟩) N c1) g l xs 0) := CpL.start (unhide HR) (by rw [← unhide HN]; exact ho) rfl
    have HB := hide (And.intro b1 hg)
    clear ho b1 KC hg
    go_wp2_with fail
    go_loopw [12] (fun iv wr => ∃ (i : Nat) (xs' : List Mx), iv = .int .i64 (i : Int) ∧ i ≤ N ∧ Hid (CpL kMl w.heap.size w w1 wr (.slice (some ⟨g, 0, none⟩) N c1) g l xs' i)) (fun iv _ => (N - intOf iv).toNat)
    case atStart => exact ⟨0, xs, rfl, Nat.zero_le _, S0⟩
    case round =>
      clear S0
      obtain ⟨i, xs', rfl, hi, HS⟩ := hrel
      by_cases hlt : i < N
      · obtain ⟨a, cs, ha, hcl, hc1, hrg, hth, KF⟩ := unhide HC w1 wr _ g xs' i (unhide HS) hlt
        have q1 : (i : Int) < (N : Int) := by omega
        have q0 : (0 : Int) ≤ (i : Int) := by omega
        have z1 : (Tryz.prog.info? 50).map (·.size) = some cs.length := by rw [hcl]; exact infoM
        have z2 : (Tryz.prog.info? 50).map (·.size) = some cs.toArray.size := by rw [List.size_toArray, hcl]; exact infoM
        have z3 : ml0.size = cs.toArray.size := by
          have q : cs.toArray.size = 30 := by simpa using hcl
          rw [q]; rfl
        have z4 := all_oneCell_toArray hc1
        have HZ := hide (And.intro hrg (And.intro z1 (And.intro z2 (And.intro z3 z4))))
        have bw0 : Below w.heap.size w wr := Fr.toBase (unhide HB).1 (unhide HS).fr (by intro x hx; rw [List.mem_singleton] at hx; subst hx; exact (World.ownsRow.lt (unhide HS).row x (unhide HS).own).1)
        have HF := hide (And.intro ha (And.intro hth (And.intro bw0 KF)))
        clear hrg z1 z2 z3 z4 hc1 hcl ha hth KF bw0
        go_upto_region 5 with (first | refine wpList_load_mid rfl 50 (.tmp 15) rfl g (i * 30) (by simp [Act.eval]) cs _ (unhide HZ).1 Tryz.underlying50 rfl (unhide HZ).2.1 ?_ | refine wpList_store_row rfl 50 (.tmp 7) (.tmp 16) rfl wr.heap.size cs.toArray rfl rfl 50 ml0 (heap_alloc_new _ _) (unhide HZ).2.2.1 (unhide HZ).2.2.2.1 (unhide HZ).2.2.2.2 ?_)
        generalize hW : World.setRow (wr.alloc _) wr.heap.size cs.toArray = W2
        have g0 : W2.heap[wr.heap.size]? = some (.cells cs.toArray 50 (0, 0)) := by rw [← hW]; exact setRow_heap _ _ _ _ _ _ (heap_alloc_new _ _)
        have g1 : Below wr.heap.size wr W2 := by rw [← hW]; exact below_setRow' (bwA _ _) (Nat.le_refl _) _
        clear hW
        have KF1 := hide ((unhide HF).2.2.2 W2 (bw_tr (unhide HF).2.2.1 g1))
        have HG := hide (And.intro g0 g1)
        clear g0 g1
        go_wp2_with (refine wpList_load_row rfl 50 (.tmp 7) rfl wr.heap.size rfl 50 cs.toArray (0, 0) _ (unhide HG).1 Tryz.underlying50 rfl (unhide HZ).2.2.1 ?_)
        refine (unhide KF1).mono ?_
        rintro x w2 ⟨x', cs', rfl, hO, b2⟩
        have th2 : w2.there g (i * 30) cs'.toArray.size := fun j hj => by
          have hj' : j < 30 := by rw [List.size_toArray, (unhide hO).1] at hj; exact hj
          have b9 := bw_tr (unhide HG).2 b2
          have hg9 : g < wr.heap.size := (unhide HS).glt
          have e9 := b9.block g hg9
          obtain ⟨p1, p2⟩ := (unhide HF).2.1 j hj'
          exact ⟨by rw [World.cell?_of_block (w := wr) e9]; exact p1, by rw [World.frozen?_of_block (w := wr) e9]; exact p2⟩
        have y1 : (Tryz.prog.info? 50).map (·.size) = some cs'.toArray.size := by rw [List.size_toArray, (unhide hO).1]; exact infoM
        have y2 := all_oneCell_toArray (unhide hO).2.1
        have HX : Hid (CpL kMl w.heap.size w w1 (w2.setCells g (i * 30) cs'.toArray.toList) (.slice (some ⟨g, 0, none⟩) N c1) g l (xs'.set i x') (i + 1)) := by
          have := ((unhide HS).bw (unhide HG).2).step (unhide HF).1 b2 (unhide hO).2.2.1 (unhide HB).2
          rw [show kMl.C a x' = cs' from (unhide hO).2.2.2] at this
          rw [setCells_pokesM]
          exact this
        have HY := hide (And.intro th2 (And.intro y1 y2))
        clear th2 y1 y2 hO b2 KF1 HF HZ HG
        go_wp2_with (refine wpList_store_mid rfl 50 (.tmp 22) (.tmp 21) rfl g (i * 30) cs'.toArray (by simp [Act.eval]) rfl (unhide HY).1 (unhide HY).2.1 (unhide HY).2.2 ?_)
        go_roundw
        case rel => exact ⟨i + 1, _, by go_num, by omega, HX⟩
        case measure => simp [intOf]; omega
      · obtain rfl : i = N := by omega
        have HO : Hid (OwL kMl w.heap.size wr (.slice (some ⟨g, 0, none⟩) i c1) l xs' ∧ Below w.heap.size w wr) := by
          have hS := unhide HS
          refine ⟨?_, Fr.toBase (unhide HB).1 hS.fr (by intro x hx; rw [List.mem_singleton] at hx; subst hx; exact (World.ownsRow.lt hS.row x hS.own).1)⟩
          have e := unhide HN
          have hS' : CpL kMl w.heap.size w w1 wr (.slice (some ⟨g, 0, none⟩) i c1) g l xs' l.length := by rw [← e]; exact hS
          exact hS'.done (unhide HB).1.size (unhide HB).2
        clear HS HC
        go_wp2_with fail
        go_ret
        exact ⟨_, xs', rfl, (unhide HO).1, (unhide HO).2⟩
end Go.Proofs.YtgmlkofogeoocaaGreatDoor

/- A box's copy (fresh.Box). -/
namespace Go.Proofs.YtgmlkofogeoocaaGreatDoor
open Go.RowKit Go.Maps
set_option maxRecDepth 100000 in
set_option maxHeartbeats 4000000 in
theorem frBox_any {w : World} {b : Bx} {v : Value} {xs : List Mx} (h : RdL kMl w v b.ml xs) (hs : SmB b) :
    Calls Tryz.prog 29 #[.agg (bxC b v).toArray] w fun e w' => ∃ v' xs', e = .returned (.agg (bxC b v').toArray) ∧ OwL kMl w.heap.size w' v' b.ml xs' ∧ Below w.heap.size w w' := by
  obtain ⟨w0, hw0⟩ : ∃ w0, w0 = (w.alloc (.cells (bxC b v).toArray 69)).alloc (.cells #[.int .i64 0, .bool false, .slice none 0 0, .int .i64 0] 69) := ⟨_, rfl⟩
  have s0 : TwoB w w0 69 (bxC b v).toArray #[.int .i64 0, .bool false, .slice none 0 0, .int .i64 0] := by rw [hw0]; exact TwoB.start _ _ _ _
  have KL := hide (listMail_any (h.bw s0.bel) hs.n)
  obtain ⟨a, c, rfl⟩ := rdl_slice h
  have S0 := hide s0
  have HW := hide hw0
  clear h hs s0 hw0
  obtain ⟨G, ou, l, dn⟩ := b
  unfold bxC at S0 HW ⊢
  simp only at KL S0 HW ⊢
  generalize hN : l.length = N at *
  have HN := hide hN
  clear hN
  go_enter Tryz.func29, Tryz.ntmps29
  go_upto_region 1 with fail
  rw [← unhide HW]
  clear HW
  have c1 : w0.cell? ⟨w.heap.size, 2, none⟩ = some (.slice a N c) := blk_c (unhide S0).k1 rfl
  go_wp2_with fail
  refine (unhide KL).mono ?_
  rintro e w1 ⟨v', xs', rfl, ho, b1⟩
  obtain ⟨a', c', hv⟩ := own_slice ho.row
  have s1 := (unhide S0).bw b1
  have p1 := s1.poke 2 v'
  obtain ⟨V1, hV1⟩ : ∃ V, V = w1.setCell ⟨w.heap.size, 2, none⟩ v' := ⟨_, rfl⟩
  rw [← hV1] at p1
  have s2 : TwoB w V1 69 #[.int .i64 G, .bool ou, v', .int .i64 dn] #[.int .i64 0, .bool false, .slice none 0 0, .int .i64 0] := p1.1
  have an := s2.answer [.int .i64 G, .bool ou, v', .int .i64 dn] rfl
  obtain ⟨WZ, hWZ⟩ : ∃ W, W = pokes V1 (w.heap.size + 1) 0 [.int .i64 G, .bool ou, v', .int .i64 dn] := ⟨_, rfl⟩
  rw [← hWZ] at an
  have HO : Hid (OwL kMl w.heap.size WZ v' l xs' ∧ Below w.heap.size w WZ) := by
    have h2 := (unhide S0).two
    refine ⟨(ho.keep (fun k hk => ?_)).mono (by omega), an.2.1⟩
    have h1 := (ho.lt k hk).1
    rw [an.2.2 k (by omega), p1.2 k (by omega)]
  subst hv
  have c1 : w1.cell? ⟨w.heap.size, 2, none⟩ = some (.slice a N c) := blk_c s1.k1 rfl
  have f3 := fun j => froz_b' (i := j) s1.k1
  have d0 : V1.cell? ⟨w.heap.size, 0, none⟩ = some (.int .i64 G) := blk_c s2.k1 rfl
  have d1 : V1.cell? ⟨w.heap.size, 1, none⟩ = some (.bool ou) := blk_c s2.k1 rfl
  have d2 : V1.cell? ⟨w.heap.size, 2, none⟩ = some (.slice a' l.length c') := blk_c s2.k1 rfl
  have d3 : V1.cell? ⟨w.heap.size, 3, none⟩ = some (.int .i64 dn) := blk_c s2.k1 rfl
  have e0 : V1.cell? ⟨w.heap.size + 1, 0, none⟩ = some (.int .i64 0) := blk_c s2.k2 rfl
  have e1 : V1.cell? ⟨w.heap.size + 1, 1, none⟩ = some (.bool false) := blk_c s2.k2 rfl
  have e2 : V1.cell? ⟨w.heap.size + 1, 2, none⟩ = some (.slice none 0 0) := blk_c s2.k2 rfl
  have e3 : V1.cell? ⟨w.heap.size + 1, 3, none⟩ = some (.int .i64 0) := blk_c s2.k2 rfl
  have fe := fun j => froz_b' (i := j) s2.k2
  have z0 : WZ.cell? ⟨w.heap.size + 1, 0, none⟩ = some (.int .i64 G) := blk_c an.1 rfl
  have z1 : WZ.cell? ⟨w.heap.size + 1, 1, none⟩ = some (.bool ou) := blk_c an.1 rfl
  have z2 : WZ.cell? ⟨w.heap.size + 1, 2, none⟩ = some (.slice a' l.length c') := blk_c an.1 rfl
  have z3 : WZ.cell? ⟨w.heap.size + 1, 3, none⟩ = some (.int .i64 dn) := blk_c an.1 rfl
  have HV := hide hV1
  have HZ : Hid (WZ = (((V1.setCell ⟨w.heap.size + 1, 0, none⟩ (.int .i64 G)).setCell ⟨w.heap.size + 1, 1, none⟩ (.bool ou)).setCell ⟨w.heap.size + 1, 2, none⟩ (.slice a' l.length c')).setCell ⟨w.heap.size + 1, 3, none⟩ (.int .i64 dn)) := hWZ
  clear S0 KL ho b1 s1 p1 hV1 s2 an hWZ
  go_upto_region 2 with fail
  rw [← unhide HV]
  clear HV c1 f3
  go_wp2_with fail
  rw [← unhide HZ]
  exact bodyPost_ret (v := .agg #[.int .i64 G, .bool ou, .slice a' l.length c', .int .i64 dn]) (by simp [results, Tryz.results29, go_sem, z0, z1, z2, z3]) rfl ⟨_, xs', rfl, (unhide HO).1, (unhide HO).2⟩
end Go.Proofs.YtgmlkofogeoocaaGreatDoor

/- fresh.List of Boxs: a list of copies, in memory of its own. -/
namespace Go.Proofs.YtgmlkofogeoocaaGreatDoor
open Go.RowKit Go.Maps
set_option maxRecDepth 100000 in
set_option maxHeartbeats 8000000 in
theorem listBox_any {w : World} {v : Value} {l : List Bx} {xs : List (Value × List Mx)} (h : RdL kBx w v l xs) (hl : l.length ≤ 1073741824) :
    Calls Tryz.prog 28 #[v, .func (.func 29) #[] #[]] w fun e w' => ∃ v' xs', e = .returned v' ∧ OwL kBx w.heap.size w' v' l xs' ∧ Below w.heap.size w w' := by
  obtain ⟨ad, cap, rfl, hsrc⟩ := h.form
  have KC := hide (cloneBox_any (w := w) (a := ad) (cap := cap) (cs := cellK kBx l xs) (cellK_len h.xl) (cellK_one h.xl h.el) hl (hsrc.imp (fun c => by rw [c]; rfl) (fun c => c)))
  have HC : Hid (∀ (w1 wr : World) (v : Value) (g : Nat) (xs : List (Value × List Mx)) (i : Nat), CpL kBx w.heap.size w w1 wr v g l xs i → i < l.length → ∃ (a : Bx) (g0 : Int) (g1 : Bool) (a1 : Option Addr) (LA : Nat) (k1 : Nat) (g3 : Int), l[i]? = some a ∧ (∀ W, Below wr.heap.size wr W → (W.cell? ⟨g, i * 4, none⟩ = some (.int .i64 g0) ∧ W.cell? ⟨g, i * 4 + 1, none⟩ = some (.bool g1) ∧ W.cell? ⟨g, i * 4 + 2, none⟩ = some (.slice a1 LA k1) ∧ W.cell? ⟨g, i * 4 + 3, none⟩ = some (.int .i64 g3))) ∧
      ∀ W, Below w.heap.size w W → Calls Tryz.prog 29 #[.agg #[.int .i64 g0, .bool g1, .slice a1 LA k1, .int .i64 g3]] W fun x w' => ∃ a1' k1' x', x = .returned (.agg #[.int .i64 g0, .bool g1, .slice a1' LA k1', .int .i64 g3]) ∧ Hid (kBx.O W.heap.size w' a x' ∧ kBx.C a x' = [.int .i64 g0, .bool g1, .slice a1' LA k1', .int .i64 g3]) ∧ Below W.heap.size W w') := by
    intro w1 wr v g xs i hcp hi
    obtain ⟨a, x, ha, hx, hR, hc⟩ := hcp.at hi
    obtain ⟨a1, k1, e1⟩ := rdl_slice hR.1
    have KF := fun W hW => frBox_any (w := W) (b := a) (hR.1.bw hW) hR.2
    obtain ⟨cv, xs0⟩ := x
    simp only at e1
    subst e1
    refine ⟨a, a.dev, a.out, a1, a.ml.length, k1, a.dn, ha, fun W hW => ?_, fun W hW => ?_⟩
    · have e := fun j u hu => by have := hc j u hu; rw [← (hW.cell (lt_of_cell this))] at this; exact this
      exact ⟨e 0 _ rfl, e 1 _ rfl, e 2 _ rfl, e 3 _ rfl⟩
    · have hR' := hR
      refine (KF W hW).mono ?_
      rintro y w' ⟨v', xs', rfl, ho, hb⟩
      obtain ⟨a1', k1', e1⟩ := own_slice ho.row
      subst e1
      exact ⟨a1', k1', (_, xs'), rfl, ⟨ho, rfl⟩, hb⟩
  have HR := hide h
  obtain ⟨N, hN⟩ : ∃ N, N = l.length := ⟨_, rfl⟩
  rw [← hN] at KC HC hl ⊢
  have hNI : (N : Int) ≤ 1073741824 := by omega
  have HN := hide hN
  clear h hsrc hl hN
  rcases Nat.eq_zero_or_pos N with h0 | h0
  · subst h0
    go_enter Tryz.func28, Tryz.ntmps28
    go_wp2_with fail
    refine (unhide KC).mono ?_
    rintro e w1 ⟨v1, rfl, ho, b1⟩
    obtain ⟨a1, c1, rfl⟩ := own_slice ho
    have HO := hide (And.intro ho b1)
    clear ho b1 KC HC
    go_wp2_with fail
    go_loopw [12] (fun iv wr => iv = .int .i64 0 ∧ wr = w1) (fun _ _ => 0)
    case atStart => exact ⟨rfl, rfl⟩
    case round =>
      obtain ⟨rfl, rfl⟩ := hrel
      go_wp2_with fail
      go_ret
      have hl0 : l = [] := List.eq_nil_of_length_eq_zero (unhide HN).symm
      have hx0 : xs = [] := List.eq_nil_of_length_eq_zero (by rw [(unhide HR).xl, hl0]; rfl)
      subst hl0 hx0
      exact ⟨_, [], rfl, ⟨rfl, (unhide HO).1, by simp, by simp, by simp⟩, (unhide HO).2⟩
  · go_enter Tryz.func28, Tryz.ntmps28
    go_wp2_with fail
    refine (unhide KC).mono ?_
    rintro e w1 ⟨v1, rfl, ho, b1⟩
    obtain ⟨g, c1, rfl, hg, _, _⟩ := own_open ho h0
    have S0 : Hid (CpL kBx w.heap.size w w1 w1 (.slice (some ⟨g, 0, none⟩) N c1) g l xs 0) := CpL.start (unhide HR) (by rw [← unhide HN]; exact ho) rfl
    have HB := hide (And.intro b1 hg)
    clear ho b1 KC hg
    go_wp2_with fail
    go_loopw [12] (fun iv wr => ∃ (i : Nat) (xs' : List (Value × List Mx)), iv = .int .i64 (i : Int) ∧ i ≤ N ∧ Hid (CpL kBx w.heap.size w w1 wr (.slice (some ⟨g, 0, none⟩) N c1) g l xs' i)) (fun iv _ => (N - intOf iv).toNat)
    case atStart => exact ⟨0, xs, rfl, Nat.zero_le _, S0⟩
    case round =>
      clear S0
      obtain ⟨i, xs', rfl, hi, HS⟩ := hrel
      by_cases hlt : i < N
      · obtain ⟨a, g0, g1, a1, LA, k1, g3, ha, hcl, KF⟩ := unhide HC w1 wr _ g xs' i (unhide HS) hlt
        obtain ⟨c0_, c1_, c2_, c3_⟩ := hcl wr (Below.refl _ _)
        obtain ⟨W1, hW1⟩ : ∃ W, W = wr.alloc (.cells #[.int .i64 g0, .bool g1, .slice a1 LA k1, .int .i64 g3] 69) := ⟨_, rfl⟩
        have hz : W1.heap[wr.heap.size]? = some (.cells #[.int .i64 g0, .bool g1, .slice a1 LA k1, .int .i64 g3] 69 (0, 0)) := by
          rw [hW1]; exact heap_alloc_new _ _
        have bz : Below wr.heap.size wr W1 := by rw [hW1]; exact bwA _ _
        have bw1 : Below w.heap.size w W1 := bw_tr (Fr.toBase (unhide HB).1 (unhide HS).fr (by intro x hx; rw [List.mem_singleton] at hx; subst hx; exact (World.ownsRow.lt (unhide HS).row x (unhide HS).own).1)) bz
        have q1 : (i : Int) < (N : Int) := by omega
        have q0 : (0 : Int) ≤ (i : Int) := by omega
        have z0_ : W1.cell? ⟨wr.heap.size, 0, none⟩ = some (.int .i64 g0) := blk_c hz rfl
        have z1_ : W1.cell? ⟨wr.heap.size, 1, none⟩ = some (.bool g1) := blk_c hz rfl
        have z2_ : W1.cell? ⟨wr.heap.size, 2, none⟩ = some (.slice a1 LA k1) := blk_c hz rfl
        have z3_ : W1.cell? ⟨wr.heap.size, 3, none⟩ = some (.int .i64 g3) := blk_c hz rfl
        have HW : Hid (W1 = wr.alloc (.cells #[.int .i64 g0, .bool g1, .slice a1 LA k1, .int .i64 g3] 69)) := hW1
        have KF1 := hide (KF W1 bw1)
        have HX0 := hide (And.intro ha (And.intro bz (fun W hW => hcl W hW)))
        clear hW1 hz bz bw1 KF ha hcl
        go_upto_region 5 with fail
        rw [← unhide HW]
        clear HW c0_ c1_ c2_ c3_
        go_wp2_with fail
        refine (unhide KF1).mono ?_
        rintro x w2 ⟨a1', k1', x', rfl, hO, b2⟩
        obtain ⟨d0_, d1_, d2_, d3_⟩ := (unhide HX0).2.2 w2 (bw_tr (unhide HX0).2.1 b2)
        have hS2 := (unhide HS).bw (bw_tr (unhide HX0).2.1 b2)
        have fz := fun j => own_frozen hS2.row (g := g) rfl j
        have HX : Hid (CpL kBx w.heap.size w w1 (((((w2).setCell ⟨g, i * 4, none⟩ (.int .i64 g0)).setCell ⟨g, i * 4 + 1, none⟩ (.bool g1)).setCell ⟨g, i * 4 + 2, none⟩ (.slice a1' LA k1')).setCell ⟨g, i * 4 + 3, none⟩ (.int .i64 g3)) (.slice (some ⟨g, 0, none⟩) N c1) g l (xs'.set i x') (i + 1)) := by
          have := ((unhide HS).bw (unhide HX0).2.1).step (unhide HX0).1 b2 (unhide hO).1 (unhide HB).2
          rw [(unhide hO).2] at this
          exact this
        clear hS2 HX0 hO b2 KF1 z0_ z1_ z2_ z3_
        go_wp2_with fail
        go_roundw
        case rel => exact ⟨i + 1, _, by go_num, by omega, HX⟩
        case measure => simp [intOf]; omega
      · obtain rfl : i = N := by omega
        have HO : Hid (OwL kBx w.heap.size wr (.slice (some ⟨g, 0, none⟩) i c1) l xs' ∧ Below w.heap.size w wr) := by
          have hS := unhide HS
          refine ⟨?_, Fr.toBase (unhide HB).1 hS.fr (by intro x hx; rw [List.mem_singleton] at hx; subst hx; exact (World.ownsRow.lt hS.row x hS.own).1)⟩
          have e := unhide HN
          have hS' : CpL kBx w.heap.size w w1 wr (.slice (some ⟨g, 0, none⟩) i c1) g l xs' l.length := by rw [← e]; exact hS
          exact hS'.done (unhide HB).1.size (unhide HB).2
        clear HS HC
        go_wp2_with fail
        go_ret
        exact ⟨_, xs', rfl, (unhide HO).1, (unhide HO).2⟩
end Go.Proofs.YtgmlkofogeoocaaGreatDoor
