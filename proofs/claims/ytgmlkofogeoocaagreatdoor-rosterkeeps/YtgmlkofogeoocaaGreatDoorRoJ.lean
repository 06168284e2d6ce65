/- Card, SetCard of package roster. -/
import Derived.Test.YtgmlkofogeoocaaGreatDoorZ24
namespace Go.Proofs.YtgmlkofogeoocaaGreatDoor.Cd
open Go.RowKit Go.Maps
def CrdX (l : List Cd) (u : Int) (c : Cd) (ok : Bool) : Prop :=
  (ok = false ∧ (mayX l = false ∨ ∀ p ∈ l, p.us ≠ u) ∧ c = ⟨0, 0, 0⟩) ∨ (ok = true ∧ mayP l ∧ ∃ k : Nat, l[k]? = some c ∧ c.us = u)
set_option maxRecDepth 100000 in
set_option maxHeartbeats 4000000 in
theorem card_any {w : World} {v : Value} {l : List Cd} {xs : List Unit} (h : RdL kCd w v l xs) (hl : l.length ≤ 1073741824) (u : Int) :
    Calls Tryz.prog 24 #[v, .int .i64 u] w fun e w' => ∃ c ok, e = .returned (.tuple #[.agg (cdC c).toArray, .bool ok]) ∧ CrdX l u c ok ∧ Below w.heap.size w w' := by
  obtain ⟨w0, hw0⟩ : ∃ w0, w0 = w.alloc (.cells #[.int .i64 0, .int .i64 0, .int .i64 0] 44) := ⟨_, rfl⟩
  have bl : Below w.heap.size w w0 := by rw [hw0]; exact bwA _ _
  have kk : w0.heap[w.heap.size]? = some (.cells #[.int .i64 0, .int .i64 0, .int .i64 0] 44 (0, 0)) := by rw [hw0]; exact heap_alloc_new _ _
  have K1 := hide (mayBeX_any (h.bw bl) hl)
  have K2 : Hid (mayP l → ∀ W, Below w0.heap.size w0 W → Calls Tryz.prog 38 #[v, .int .i64 u] W fun e w' => ∃ (k : Nat) (th : Bool), e = .returned (.tuple #[.int .i64 (k : Int), .bool th]) ∧ Hid (FnX l u k th) ∧ Below W.heap.size W w') := fun hm W hW => findBx_any (h.bw bl) hW hm hl u
  obtain ⟨a, cap, hv⟩ := rdl_slice h
  obtain ⟨N, hN⟩ : ∃ N, N = l.length := ⟨_, rfl⟩
  rw [← hN] at hv
  subst hv
  have HW := hide hw0
  have HH := hide (And.intro (h.bw bl) (And.intro bl (And.intro kk hN)))
  have hNI : (N : Int) ≤ 1073741824 := by omega
  obtain ⟨r, hr⟩ : ∃ r, r = mayX l := ⟨_, rfl⟩
  rw [← hr] at K1
  have HR := hide hr
  clear h hl hw0 bl kk hN hr
  go_enter Tryz.func24, Tryz.ntmps24
  go_upto_region 1 with fail
  rw [← unhide HW]
  clear HW
  cases r with
  | false =>
    go_wp2_with fail
    refine (unhide K1).mono ?_
    rintro e w1 ⟨rfl, b1⟩
    have k1 := kept_b (unhide HH).2.2.1 (lt_of_blk (unhide HH).2.2.1) b1
    have c0 : w1.cell? ⟨w.heap.size, 0, none⟩ = some (.int .i64 0) := blk_c k1 rfl
    have c1 : w1.cell? ⟨w.heap.size, 1, none⟩ = some (.int .i64 0) := blk_c k1 rfl
    have c2 : w1.cell? ⟨w.heap.size, 2, none⟩ = some (.int .i64 0) := blk_c k1 rfl
    have fz := fun j => froz_b' (i := j) k1
    have p1 := pokes_at [.int .i64 0, .int .i64 0, .int .i64 0] w1 0 _ k1
    obtain ⟨V, hV⟩ : ∃ V, V = pokes w1 w.heap.size 0 [.int .i64 0, .int .i64 0, .int .i64 0] := ⟨_, rfl⟩
    rw [← hV] at p1
    have z0 : V.cell? ⟨w.heap.size, 0, none⟩ = some (.int .i64 0) := blk_c p1 rfl
    have z1 : V.cell? ⟨w.heap.size, 1, none⟩ = some (.int .i64 0) := blk_c p1 rfl
    have z2 : V.cell? ⟨w.heap.size, 2, none⟩ = some (.int .i64 0) := blk_c p1 rfl
    have HB : Hid (Below w.heap.size w V) := by
      rw [hV]
      exact Fr.toBase (bw_tr (unhide HH).2.1 b1) (pokes_fr (g := w.heap.size) _ _ _ (Fr.refl _ _)) (by simp)
    have HV : Hid (V = ((w1.setCell ⟨w.heap.size, 0, none⟩ (.int .i64 0)).setCell ⟨w.heap.size, 1, none⟩ (.int .i64 0)).setCell ⟨w.heap.size, 2, none⟩ (.int .i64 0)) := hV
    clear K1 K2 b1 k1 p1 hV HH
    go_wp2_with fail
    rw [← unhide HV]
    exact bodyPost_ret (v := .tuple #[.agg #[.int .i64 0, .int .i64 0, .int .i64 0], .bool false]) (by simp [results, Tryz.results24, go_sem, z0, z1, z2]) rfl ⟨⟨0, 0, 0⟩, false, rfl, Or.inl ⟨rfl, Or.inl (unhide HR).symm, rfl⟩, unhide HB⟩
  | true =>
    have hmy := mayX_iff.1 (unhide HR).symm
    have HM := hide hmy
    go_wp2_with fail
    refine (unhide K1).mono ?_
    rintro e w1 ⟨rfl, b1⟩
    have K3 := hide (unhide K2 hmy w1 b1)
    have HB1 := hide b1
    clear K1 K2 b1 hmy
    go_wp2_with fail
    refine (unhide K3).mono ?_
    rintro e w2 ⟨k, th, rfl, hf, b2⟩
    have b12 := bw_tr (unhide HB1) b2
    have k1 := kept_b (unhide HH).2.2.1 (lt_of_blk (unhide HH).2.2.1) b12
    have c0 : w2.cell? ⟨w.heap.size, 0, none⟩ = some (.int .i64 0) := blk_c k1 rfl
    have c1 : w2.cell? ⟨w.heap.size, 1, none⟩ = some (.int .i64 0) := blk_c k1 rfl
    have c2 : w2.cell? ⟨w.heap.size, 2, none⟩ = some (.int .i64 0) := blk_c k1 rfl
    have fz := fun j => froz_b' (i := j) k1
    have key : ∃ c : Cd, (th = false → c = ⟨0, 0, 0⟩) ∧ CrdX l u c th ∧ (th = true → l[k]? = some c) := by
      rcases (unhide hf).2 with ⟨q1, q2⟩ | ⟨q1, p, q2, q3⟩
      · exact ⟨⟨0, 0, 0⟩, fun _ => rfl, Or.inl ⟨q1, Or.inr q2, rfl⟩, fun q => (by rw [q1] at q; cases q)⟩
      · exact ⟨p, fun q => (by rw [q1] at q; cases q), Or.inr ⟨q1, unhide HM, k, q2, q3⟩, fun _ => q2⟩
    obtain ⟨c, hc1, hc2, hc3⟩ := key
    obtain ⟨us, hus⟩ : ∃ z, z = c.us := ⟨_, rfl⟩
    obtain ⟨ep, hep⟩ : ∃ z, z = c.ep := ⟨_, rfl⟩
    obtain ⟨pb, hpb⟩ : ∃ z, z = c.pb := ⟨_, rfl⟩
    have hce : c = ⟨us, ep, pb⟩ := by rw [hus, hep, hpb]
    have p1 := pokes_at [.int .i64 us, .int .i64 ep, .int .i64 pb] w2 0 _ k1
    obtain ⟨V, hV⟩ : ∃ V, V = pokes w2 w.heap.size 0 [.int .i64 us, .int .i64 ep, .int .i64 pb] := ⟨_, rfl⟩
    rw [← hV] at p1
    have z0 : V.cell? ⟨w.heap.size, 0, none⟩ = some (.int .i64 us) := blk_c p1 rfl
    have z1 : V.cell? ⟨w.heap.size, 1, none⟩ = some (.int .i64 ep) := blk_c p1 rfl
    have z2 : V.cell? ⟨w.heap.size, 2, none⟩ = some (.int .i64 pb) := blk_c p1 rfl
    have HB : Hid (Below w.heap.size w V) := by
      rw [hV]
      exact Fr.toBase (bw_tr (unhide HH).2.1 b12) (pokes_fr (g := w.heap.size) _ _ _ (Fr.refl _ _)) (by simp)
    have HV : Hid (V = ((w2.setCell ⟨w.heap.size, 0, none⟩ (.int .i64 us)).setCell ⟨w.heap.size, 1, none⟩ (.int .i64 ep)).setCell ⟨w.heap.size, 2, none⟩ (.int .i64 pb)) := hV
    have HC : Hid (CrdX l u ⟨us, ep, pb⟩ th) := by rw [hce] at hc2; exact hc2
    cases th with
    | false =>
      have hz := hc1 rfl
      rw [hce] at hz
      injection hz with e1 e2 e3
      subst e1 e2 e3
      clear K3 b2 b12 k1 p1 hV HH hf hc1 hc2 hc3 hus hep hpb hce HB1
      go_wp2_with fail
      rw [← unhide HV]
      exact bodyPost_ret (v := .tuple #[.agg #[.int .i64 0, .int .i64 0, .int .i64 0], .bool false]) (by simp [results, Tryz.results24, go_sem, z0, z1, z2]) rfl ⟨⟨0, 0, 0⟩, false, rfl, unhide HC, unhide HB⟩
    | true =>
      have hk3 := hc3 rfl
      obtain ⟨gb, o, x0, rfl, _, _, hcc⟩ := (unhide HH).1.get hk3
      have hkN : k < N := by rw [(unhide HH).2.2.2]; exact (List.getElem?_eq_some_iff.1 hk3).1
      have y0 : w2.cell? ⟨gb, o + k * 3, none⟩ = some (.int .i64 us) := by
        have : w0.cell? ⟨gb, o + k * 3, none⟩ = some (.int .i64 us) := by rw [hus]; exact hcc 0 _ rfl
        rw [b12.cell (lt_of_cell this)]; exact this
      have y1 : w2.cell? ⟨gb, o + k * 3 + 1, none⟩ = some (.int .i64 ep) := by
        have : w0.cell? ⟨gb, o + k * 3 + 1, none⟩ = some (.int .i64 ep) := by rw [hep]; exact hcc 1 _ rfl
        rw [b12.cell (lt_of_cell this)]; exact this
      have y2 : w2.cell? ⟨gb, o + k * 3 + 2, none⟩ = some (.int .i64 pb) := by
        have : w0.cell? ⟨gb, o + k * 3 + 2, none⟩ = some (.int .i64 pb) := by rw [hpb]; exact hcc 2 _ rfl
        rw [b12.cell (lt_of_cell this)]; exact this
      have q1 : (k : Int) < (N : Int) := by omega
      have q0 : (0 : Int) ≤ (k : Int) := by omega
      clear K3 b2 b12 k1 p1 hV HH hf hc1 hc2 hc3 hus hep hpb hce HB1 hk3 hcc hkN
      go_wp2_with fail
      rw [← unhide HV]
      exact bodyPost_ret (v := .tuple #[.agg #[.int .i64 us, .int .i64 ep, .int .i64 pb], .bool true]) (by simp [results, Tryz.results24, go_sem, z0, z1, z2]) rfl ⟨⟨us, ep, pb⟩, true, rfl, unhide HC, unhide HB⟩
theorem cellK_putC {α ξ : Type} {K : EK α ξ} {l : List α} {xs : List ξ} {k : Nat} {a a' : α} {x x' : ξ} (ha : l[k]? = some a) (hx : xs[k]? = some x) : (pk (cellK K l xs).toArray (k * K.c) (K.C a' x')).toList = cellK K (l.set k a') (xs.set k x') := by
  have hk : k < l.length := (List.getElem?_eq_some_iff.1 ha).1
  have hkx : k < xs.length := (List.getElem?_eq_some_iff.1 hx).1
  have hR : k < (rowsK K l xs).length := by unfold rowsK; rw [List.length_zipWith]; omega
  unfold cellK
  rw [fl_set K.pos rowsK_len hR (K.Cl _ _), List.toList_toArray]
  congr 1
  unfold rowsK
  apply List.ext_getElem?
  intro i
  by_cases c : k = i
  · subst c
    rw [List.getElem?_set_self (by rw [List.length_zipWith]; omega), List.getElem?_zipWith, List.getElem?_set_self hk, List.getElem?_set_self hkx]
  · rw [List.getElem?_set_ne c, List.getElem?_zipWith, List.getElem?_zipWith, List.getElem?_set_ne c, List.getElem?_set_ne c]
def okC (c : Cd) : Prop := 0 ≤ c.us ∧ c.us < 64 ∧ 0 ≤ c.ep ∧ 0 < c.pb
theorem may_one {c : Cd} : mayX [c] = true ↔ okC c := by
  rw [mayX_iff]
  constructor
  · intro h; exact (h 0 c rfl).1
  · intro h j b hb
    match j, hb with
    | 0, hb => cases hb; exact ⟨h, fun q i hi => by omega⟩
def SetX (B : Nat) (w' : World) (v' : Value) (er : Int) (l : List Cd) (c : Cd) : Prop :=
  (er = 1 ∧ ¬ (okC c ∧ mayP l) ∧ v' = .slice none 0 0) ∨ (er = 0 ∧ okC c ∧ mayP l ∧ ∃ (k : Nat) (xs' : List Unit), (AtX l c.us k ∧ (∀ p ∈ l, p.us ≠ c.us) ∧ OwL kCd B w' v' (insAt l k c) xs') ∨ ((∃ p, l[k]? = some p ∧ p.us = c.us) ∧ OwL kCd B w' v' (l.set k c) xs'))
theorem row_one (w : World) (c : Cd) : RdL kCd (w.alloc (.cells #[.int .i64 c.us, .int .i64 c.ep, .int .i64 c.pb] 44)) (.slice (some ⟨w.heap.size, 0, none⟩) 1 1) [c] [()] := by
  refine ⟨rfl, fun _ _ _ _ _ => trivial, some ⟨w.heap.size, 0, none⟩, 1, rfl, Or.inr ⟨w.heap.size, 0, rfl, fun j u hj => ?_⟩⟩
  rw [Nat.zero_add]
  exact blk_c (heap_alloc_new _ _) (by simpa [cellK, rowsK, kCd, cdC] using hj)
set_option maxRecDepth 100000 in
set_option maxHeartbeats 4000000 in
theorem setcard_any {w : World} {v : Value} {l : List Cd} {xs : List Unit} (h : RdL kCd w v l xs) (hl : l.length ≤ 1000000) (cu ce cp : Int) :
    Calls Tryz.prog 23 #[v, .agg #[.int .i64 cu, .int .i64 ce, .int .i64 cp]] w fun e w' => ∃ v' er, e = .returned (.tuple #[v', .int .i64 er]) ∧ SetX w.heap.size w' v' er l ⟨cu, ce, cp⟩ ∧ Below w.heap.size w w' := by
  obtain ⟨w0, hw0⟩ : ∃ w0, w0 = w.alloc (.cells #[.int .i64 cu, .int .i64 ce, .int .i64 cp] 44) := ⟨_, rfl⟩
  have bl : Below w.heap.size w w0 := by rw [hw0]; exact bwA _ _
  have kk : w0.heap[w.heap.size]? = some (.cells #[.int .i64 cu, .int .i64 ce, .int .i64 cp] 44 (0, 0)) := by rw [hw0]; exact heap_alloc_new _ _
  obtain ⟨w1, hw1⟩ : ∃ w1, w1 = w0.alloc (.cells #[.int .i64 cu, .int .i64 ce, .int .i64 cp] 44) := ⟨_, rfl⟩
  have bl1 : Below w0.heap.size w0 w1 := by rw [hw1]; exact bwA _ _
  have K1 : Hid (Calls Tryz.prog 36 #[.slice (some ⟨w0.heap.size, 0, none⟩) 1 1] w1 fun e w' => e = .returned (.bool (mayX [⟨cu, ce, cp⟩])) ∧ Below w1.heap.size w1 w') := by
    rw [hw1]; exact mayBeX_any (row_one w0 ⟨cu, ce, cp⟩) (by simp)
  have K2 : Hid (∀ W, Below w0.heap.size w0 W → Calls Tryz.prog 36 #[v] W fun e w' => e = .returned (.bool (mayX l)) ∧ Below W.heap.size W w') := fun W hW => mayBeX_any ((h.bw bl).bw hW) (by omega)
  have K3 : Hid (∀ W, Below w0.heap.size w0 W → Calls Tryz.prog 37 #[v] W fun e w' => ∃ v', e = .returned v' ∧ OwL kCd W.heap.size w' v' l xs ∧ Below W.heap.size W w') := fun W hW => clone_cards ((h.bw bl).bw hW) (by omega)
  have K4 : Hid (mayP l → ∀ (B : Nat) (W : World) (v' : Value), OwL kCd B W v' l xs → Calls Tryz.prog 38 #[v', .int .i64 cu] W fun e w' => ∃ (k : Nat) (th : Bool), e = .returned (.tuple #[.int .i64 (k : Int), .bool th]) ∧ Hid (FnX l cu k th) ∧ Below W.heap.size W w') := fun hm B W v' ho => findBx_any (owl_rd ho) (Below.refl _ _) hm (by omega) cu
  have HKK : Hid (∀ W, Below w0.heap.size w0 W → W.heap[w.heap.size]? = some (.cells #[.int .i64 cu, .int .i64 ce, .int .i64 cp] 44 (0, 0))) := fun W hW => kept_b kk (lt_of_blk kk) hW
  have k0 : w0.cell? ⟨w.heap.size, 0, none⟩ = some (.int .i64 cu) := blk_c kk rfl
  have k1 : w0.cell? ⟨w.heap.size, 1, none⟩ = some (.int .i64 ce) := blk_c kk rfl
  have k2 : w0.cell? ⟨w.heap.size, 2, none⟩ = some (.int .i64 cp) := blk_c kk rfl
  have HB0 := hide (And.intro bl bl1)
  have HW := hide hw0
  have HW1 := hide hw1
  have HL := hide hl
  obtain ⟨r1, hr1⟩ : ∃ r, r = mayX [⟨cu, ce, cp⟩] := ⟨_, rfl⟩
  obtain ⟨r2, hr2⟩ : ∃ r, r = mayX l := ⟨_, rfl⟩
  rw [← hr1] at K1
  rw [← hr2] at K2
  have HR := hide (And.intro hr1 hr2)
  obtain ⟨a, cap, hv⟩ := rdl_slice h
  obtain ⟨N, hN⟩ : ∃ N, N = l.length := ⟨_, rfl⟩
  rw [← hN] at hv
  subst hv
  have hNI : (N : Int) ≤ 1000000 := by omega
  have HN := hide hN
  clear h hl hw0 hw1 bl bl1 kk hr1 hr2 hN
  cases r1 with
  | false =>
    have HF : Hid (¬ (okC ⟨cu, ce, cp⟩ ∧ mayP l)) := fun q => by
      have := may_one.2 q.1
      rw [← (unhide HR).1] at this; cases this
    go_enter Tryz.func23, Tryz.ntmps23
    go_upto_region 1 with fail
    rw [← unhide HW]
    clear HW
    go_wp2_with fail
    rw [← unhide HW1]
    refine (unhide K1).mono ?_
    rintro e w2 ⟨rfl, b2⟩
    have HB2 := hide (bw_tr (bw_tr (unhide HB0).1 (unhide HB0).2) b2)
    clear K1 K2 K3 K4 b2 HW1 k0 k1 k2
    go_wp2_with fail
    go_ret2
    exact ⟨_, 1, rfl, Or.inl ⟨rfl, unhide HF, rfl⟩, unhide HB2⟩
  | true =>
    cases r2 with
    | false =>
      have HF : Hid (¬ (okC ⟨cu, ce, cp⟩ ∧ mayP l)) := fun q => by
        have := mayX_iff.2 q.2
        rw [← (unhide HR).2] at this; cases this
      go_enter Tryz.func23, Tryz.ntmps23
      go_upto_region 1 with fail
      rw [← unhide HW]
      clear HW
      go_wp2_with fail
      rw [← unhide HW1]
      refine (unhide K1).mono ?_
      rintro e w2 ⟨rfl, b2⟩
      have K22 := hide (unhide K2 w2 (bw_tr (unhide HB0).2 b2))
      have HB2 := hide (bw_tr (unhide HB0).2 b2)
      clear K1 K2 K3 K4 b2 HW1 k0 k1 k2
      go_wp2_with fail
      refine (unhide K22).mono ?_
      rintro e w3 ⟨rfl, b3⟩
      have HB3 := hide (bw_tr (unhide HB0).1 (bw_tr (unhide HB2) b3))
      clear K22 b3
      go_wp2_with fail
      go_ret2
      exact ⟨_, 1, rfl, Or.inl ⟨rfl, unhide HF, rfl⟩, unhide HB3⟩
    | true =>
      have hoc := may_one.1 (unhide HR).1.symm
      have hmy := mayX_iff.1 (unhide HR).2.symm
      have HM := hide (And.intro hoc hmy)
      have K4' := hide (unhide K4 hmy)
      clear hoc hmy K4
      go_enter Tryz.func23, Tryz.ntmps23
      go_upto_region 1 with fail
      rw [← unhide HW]
      clear HW
      go_wp2_with fail
      rw [← unhide HW1]
      refine (unhide K1).mono ?_
      rintro e w2 ⟨rfl, b2⟩
      have K22 := hide (unhide K2 w2 (bw_tr (unhide HB0).2 b2))
      have HB2 := hide (bw_tr (unhide HB0).2 b2)
      clear K1 K2 b2 HW1 k0 k1 k2
      go_wp2_with fail
      refine (unhide K22).mono ?_
      rintro e w3 ⟨rfl, b3⟩
      have HB3 := hide (bw_tr (unhide HB2) b3)
      have K33 := hide (unhide K3 w3 (unhide HB3))
      clear K22 b3 K3 HB2
      go_wp2_with fail
      refine (unhide K33).mono ?_
      rintro e w4 ⟨v4, rfl, ho4, b4⟩
      obtain ⟨a4, c4, hv4⟩ := own_slice ho4.row
      rw [← unhide HN] at hv4
      subst hv4
      have kk4 := unhide HKK w4 (bw_tr (unhide HB3) b4)
      have k0 : w4.cell? ⟨w.heap.size, 0, none⟩ = some (.int .i64 cu) := blk_c kk4 rfl
      have K44 := hide (unhide K4' _ w4 _ ho4)
      have HO4 := hide (And.intro ho4 (bw_tr (unhide HB3) b4))
      have HB34 := hide b4.size
      clear K33 ho4 b4 K4' kk4
      go_wp2_with fail
      refine (unhide K44).mono ?_
      rintro e w5 ⟨k, th, rfl, hf, b5⟩
      have b05 := bw_tr (unhide HO4).2 b5
      have kk5 := unhide HKK w5 b05
      have j0 : w5.cell? ⟨w.heap.size, 0, none⟩ = some (.int .i64 cu) := blk_c kk5 rfl
      have j1 : w5.cell? ⟨w.heap.size, 1, none⟩ = some (.int .i64 ce) := blk_c kk5 rfl
      have j2 : w5.cell? ⟨w.heap.size, 2, none⟩ = some (.int .i64 cp) := blk_c kk5 rfl
      have ho5 := (unhide HO4).1.bw b5
      have hwB : w.heap.size ≤ w3.heap.size := Nat.le_trans (unhide HB0).1.size (unhide HB3).size
      have bW5 : Below w.heap.size w w5 := bw_tr (unhide HB0).1 b05
      cases th with
      | false =>
        have hfn : AtX l cu k ∧ ∀ p ∈ l, p.us ≠ cu := by
          rcases (unhide hf).2 with q | q
          · exact ⟨(unhide hf).1, q.2⟩
          · exact absurd q.1 (by simp)
        have hB3 : w3.heap.size ≤ w5.heap.size := by
          have q1 := unhide HB34
          have q2 := b5.size
          omega
        have KI := hide (ins_any (G := cu) (E := ce) (Pb := cp) ho5 hB3 (cellK_one (w := w5) ho5.xl (fun _ _ _ _ _ => trivial)) hfn.1.le (by have := unhide HL; omega))
        have HFN := hide (And.intro hfn (And.intro hwB (And.intro bW5 ho5)))
        clear K44 hf b5 b05 kk5 ho5 hwB bW5 hfn hB3 k0
        go_wp2_with fail
        refine (unhide KI).mono ?_
        rintro e w6 ⟨v6, rfl, ho6, hf6⟩
        have HF : Hid (SetX w.heap.size w6 v6 0 l ⟨cu, ce, cp⟩ ∧ Below w.heap.size w w6) := by
          refine ⟨Or.inr ⟨rfl, (unhide HM).1, (unhide HM).2, k, _, Or.inl ⟨(unhide HFN).1.1, (unhide HFN).1.2, ho6.mono (unhide HFN).2.1⟩⟩, Fr.toBase (unhide HFN).2.2.1 hf6 (fun z hz => ?_)⟩
          have := (World.ownsRow.lt (unhide HFN).2.2.2.row z (by simpa using hz)).1
          have := (unhide HFN).2.1
          omega
        clear KI ho6 hf6 HFN
        go_wp2_with fail
        go_ret2
        exact ⟨_, 0, rfl, (unhide HF).1, (unhide HF).2⟩
      | true =>
        obtain ⟨p, hp1, hp2⟩ : ∃ p, l[k]? = some p ∧ p.us = cu := by
          rcases (unhide hf).2 with q | q
          · exact absurd q.1 (by simp)
          · exact q.2
        have hkl := (List.getElem?_eq_some_iff.1 hp1).1
        obtain ⟨g, cp4, hge, hg, _, _⟩ := own_open ho5.row (by omega)
        rw [← unhide HN] at hge
        simp only [Value.slice.injEq, true_and] at hge
        obtain ⟨rfl, rfl⟩ := hge
        have hx : xs[k]? = some () := by
          rw [List.getElem?_eq_getElem (by rw [ho5.xl]; exact hkl)]
        have y0 : w5.cell? ⟨g, k * 3, none⟩ = some (.int .i64 p.us) := own_cell ho5.row rfl (cellK_get (K := kCd) (j := 0) hp1 hx rfl)
        have y1 : w5.cell? ⟨g, k * 3 + 1, none⟩ = some (.int .i64 p.ep) := own_cell ho5.row rfl (cellK_get (K := kCd) (j := 1) hp1 hx rfl)
        have y2 : w5.cell? ⟨g, k * 3 + 2, none⟩ = some (.int .i64 p.pb) := own_cell ho5.row rfl (cellK_get (K := kCd) (j := 2) hp1 hx rfl)
        have fz : ∀ j, w5.frozen? ⟨g, j, none⟩ = false := fun j => own_frozen ho5.row rfl j
        have row2 := own_pokes rfl (cdC ⟨cu, ce, cp⟩) w5 (k * 3) _ ho5.row
        rw [show k * 3 = k * kCd.c from rfl, show cdC ⟨cu, ce, cp⟩ = kCd.C ⟨cu, ce, cp⟩ () from rfl, cellK_putC hp1 hx] at row2
        obtain ⟨V, hV⟩ : ∃ V, V = pokes w5 g (k * 3) [.int .i64 cu, .int .i64 ce, .int .i64 cp] := ⟨_, rfl⟩
        have HF : Hid (SetX w.heap.size V (.slice (some ⟨g, 0, none⟩) N c4) 0 l ⟨cu, ce, cp⟩ ∧ Below w.heap.size w V) := by
          have hrow : V.ownsRow w3.heap.size 44 3 (.slice (some ⟨g, 0, none⟩) N c4) (l.set k ⟨cu, ce, cp⟩).length (cellK kCd (l.set k ⟨cu, ce, cp⟩) (xs.set k ())) := by
            rw [hV, List.length_set]; exact row2
          refine ⟨Or.inr ⟨rfl, (unhide HM).1, (unhide HM).2, k, xs.set k (), Or.inr ⟨⟨p, hp1, hp2⟩, (owl_of (by rw [List.length_set, List.length_set]; exact ho5.xl) hrow).mono hwB⟩⟩, ?_⟩
          rw [hV]
          have hgl := (World.ownsRow.lt ho5.row g rfl).1
          exact Fr.toBase bW5 (pokes_fr (g := g) _ _ _ (Fr.refl _ _)) (fun z hz => by simp at hz; omega)
        have q1 : (k : Int) < (N : Int) := by have := unhide HN; omega
        have q0 : (0 : Int) ≤ (k : Int) := by omega
        have HV : Hid (V = ((w5.setCell ⟨g, k * 3, none⟩ (.int .i64 cu)).setCell ⟨g, k * 3 + 1, none⟩ (.int .i64 ce)).setCell ⟨g, k * 3 + 2, none⟩ (.int .i64 cp)) := hV
        clear K44 hf b5 b05 kk5 ho5 hwB bW5 hp1 hp2 hkl hx row2 hV hg k0
        go_wp2_with fail
        rw [← unhide HV]
        go_ret2
        exact ⟨_, 0, rfl, (unhide HF).1, (unhide HF).2⟩
end Go.Proofs.YtgmlkofogeoocaaGreatDoor.Cd
