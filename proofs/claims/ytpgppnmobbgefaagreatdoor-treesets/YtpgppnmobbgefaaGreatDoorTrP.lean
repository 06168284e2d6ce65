/- The contract of SetPath, where it comes off. -/
import Derived.Test.YtpgppnmobbgefaaGreatDoorTrLib2
import Derived.Deep.CutRange
namespace Go.Proofs.YtpgppnmobbgefaaGreatDoor
open Go.RowKit Go.Maps

def setPL (T : List Nd) (l : List (Int × Int)) : List Nd := l.foldl (fun T q => T.set q.1.toNat ⟨q.2, (ndAt T q.1.toNat).mem, (ndAt T q.1.toNat).ep, (ndAt T q.1.toNat).un⟩) T
theorem setP_eq (T : List Nd) (xs ps : List Int) : setP T xs ps = setPL T (xs.zip ps) := rfl
theorem setPL_snoc (T : List Nd) (l : List (Int × Int)) (x p : Int) : setPL T (l ++ [(x, p)]) = (setPL T l).set x.toNat ⟨p, (ndAt (setPL T l) x.toNat).mem, (ndAt (setPL T l) x.toNat).ep, (ndAt (setPL T l) x.toNat).un⟩ := by
  unfold setPL; rw [List.foldl_append]; rfl
theorem setPL_len (T : List Nd) (l : List (Int × Int)) : (setPL T l).length = T.length := by
  unfold setPL
  induction l generalizing T with
  | nil => rfl
  | cons q l ih => rw [List.foldl_cons, ih]; simp
theorem prs_mem {T : List Nd} {i : Nat} {p : Nat × List Int} (h : p ∈ prs T i) : p.1 ∈ upN (nlv T) i ∧ p.2 ≠ [] ∧ ∃ s, (p.1, s) ∈ (upN (nlv T) i).zip (sdN (nlv T) i) ∧ p.2 = rsl T s := by
  unfold prs at h
  rw [List.mem_filter, List.mem_map] at h
  obtain ⟨⟨⟨x, s⟩, hq, rfl⟩, h2⟩ := h
  refine ⟨(List.of_mem_zip hq).1, fun c => ?_, s, hq, rfl⟩
  rw [c] at h2; simp at h2
theorem prs_len (T : List Nd) (i : Nat) : (prs T i).length ≤ (upN (nlv T) i).length := by
  rw [prs_eq]
  refine Nat.le_trans (prsL_len _ _) ?_
  simp; omega
set_option maxRecDepth 100000 in
set_option maxHeartbeats 8000000 in
theorem set_ok {w : World} {v pv : Value} {T : List Nd} {ps : List Int} (h : Trd w v T) (hpv : Nums w pv ps) (hT : Tab w) (li ee pp : Int) (hE : setE T li ee pp ps = 0) :
    Calls Tryz.prog 40 #[.agg #[v], .int .i64 li, .int .i64 ee, .int .i64 pp, pv] w fun e w' => ∃ r us, e = .returned (.tuple #[.agg #[r], .int .i64 0]) ∧ OTr w.heap.size w' r (setT T li.toNat ee pp ps) us ∧ Below w.heap.size w w' := by
  have q : mayB T = true ∧ 0 ≤ ee ∧ 1 ≤ pp ∧ hasL T li = true ∧ ps.length = (pth T li.toNat).length ∧ ps.any (fun q => decide (q < 1)) = false := by
    unfold setE at hE
    split at hE
    · cases hE
    · rename_i hh
      simp only [not_or, Bool.not_eq_false] at hh
      split at hE
      · cases hE
      · rename_i h2
        split at hE
        · cases hE
        · rename_i h3
          simp only [not_or, Bool.not_eq_true] at h3
          exact ⟨hh.1, by omega, by omega, by simpa using h2, by omega, h3.2⟩
  obtain ⟨qm, q1, q2, q3, q4, q5⟩ := q
  have hli : 0 ≤ li := by
    apply Decidable.byContradiction; intro c; unfold hasL at q3; rw [decide_eq_false c] at q3; simp at q3
  obtain ⟨i, rfl⟩ : ∃ n : Nat, li = n := ⟨li.toNat, by omega⟩
  rw [Int.toNat_natCast] at *
  obtain ⟨hil, hpi⟩ := hasL_pos q3
  have ok := mayB_okn qm (nlv_pos (by omega))
  obtain ⟨r1, g2, g3, g4, g5⟩ := ok.wd.facts
  obtain ⟨d1, d2, d3, d4, d5, d6⟩ := up_of r1 hil
  have d7 := up_len r1 hil
  have hpl := prs_len T i
  have HPT : Hid (pth T i = (prs T i).map fun p => (p.1 : Int)) := rfl
  have HPM : Hid (∀ y ∈ pth T i, ∃ x : Nat, y = x ∧ x ∈ upN (nlv T) i) := fun y hy => by
    rw [unhide HPT] at hy
    obtain ⟨p, hp, rfl⟩ := List.mem_map.1 hy
    exact ⟨p.1, rfl, (prs_mem hp).1⟩
  have hpt3 : (pth T i).length ≤ 3 := by rw [unhide HPT, List.length_map]; omega
  have HSET : Hid (setT T i ee pp ps = setPL (onAll (fun _ => nd0) (upN (nlv T) i) (T.set (2 * i) ⟨pp, (ndAt T (2 * i)).mem, ee, (ndAt T (2 * i)).un⟩)) ((pth T i).zip ps)) := rfl
  have KP : Hid (∀ W, Below w.heap.size w W → Calls Tryz.prog 169 #[.agg #[v], .int .i64 (i : Int)] W fun e w' => ∃ nv ov us, e = .returned (.tuple #[nv, ov]) ∧ PI W.heap.size w' nv ov (prs T i) us ∧ Below W.heap.size W w') := fun W hW => path_any (h.bw hW) ok.wd ok.sm (hT.bw hW) hil
  have KH : Hid (∀ W, Below w.heap.size w W → Calls Tryz.prog 168 #[.agg #[v], .int .i64 (i : Int)] W fun e w' => e = .returned (.bool true) ∧ Below W.heap.size W w') := fun W hW => by
    have := hasLeaf_any (h.bw hW) (mayB_15 qm).1 (i : Int); rw [q3] at this; exact this
  have KCF : Hid (∀ W, Below w.heap.size w W → Calls Tryz.prog 179 #[pv, .func (.func 180) #[] #[]] W fun e w' => e = .returned (.bool false) ∧ ∃ q, w' = W.drewN q) := fun W hW => by
    have := contains_lt (hpv.bw hW) (by omega); rw [q5] at this; exact this
  obtain ⟨pa, pc, rfl⟩ := nums_slice hpv
  have HPV : Hid (∀ W, Below w.heap.size w W → Nums W (.slice pa ps.length pc) ps) := fun W hW => hpv.bw hW
  obtain ⟨a, c, rfl⟩ := h.slice
  obtain ⟨W0, hW0⟩ : ∃ W0, W0 = (bxw w (.slice a T.length c)).alloc (.cells #[.slice none 0 0] 24) := ⟨_, rfl⟩
  have hb0 : Below w.heap.size w W0 := by rw [hW0]; exact (bwA _ _).alloc (by simp) _
  have hs0 : W0.heap.size = w.heap.size + 2 := by rw [hW0]; simp
  have HB : Hid (∀ W, Below W0.heap.size W0 W → W.cell? ⟨w.heap.size, 0, none⟩ = some (.slice a T.length c) ∧ (W.heap[w.heap.size + 1]? = some (.cells #[.slice none 0 0] 24 (0, 0)) ∧ W.cell? ⟨w.heap.size + 1, 0, none⟩ = some (.slice none 0 0) ∧ W.frozen? ⟨w.heap.size + 1, 0, none⟩ = false) ∧ Below w.heap.size w W) := fun W hW => by
    have e0 : W.heap[w.heap.size]? = some (.cells #[.slice a T.length c] 24 (0, 0)) := by
      rw [hW.block _ (by omega), hW0, Below.heap_alloc _ _ _ (by simp)]; exact heap_alloc_new _ _
    have e2 : W.heap[w.heap.size + 1]? = some (.cells #[.slice none 0 0] 24 (0, 0)) := by
      rw [hW.block _ (by omega), hW0]
      have := heap_alloc_new (bxw w (.slice a T.length c)) (.cells #[.slice none 0 0] 24)
      simpa using this
    exact ⟨cell_of_blk e0 rfl, ⟨e2, cell_of_blk e2 rfl, by simp [World.frozen?, e2]⟩, bw_tr hb0 hW⟩
  have KM : Hid (∀ W, Below w.heap.size w W → Calls Tryz.prog 44 #[.agg #[.slice a T.length c]] W fun e w' => e = .returned (.bool true) ∧ Below W.heap.size W w') := fun W hW => by
    have := mayBe_any (h.bw hW) (hT.bw hW); rw [qm] at this; exact this
  have KL : Hid (∀ W, Calls Tryz.prog 45 #[.agg #[.slice a T.length c]] W fun e w' => e = .returned (.int .i64 (nlv T : Nat)) ∧ Below W.heap.size W w') := fun W => leaves_any a T.length c W h.len
  have KC : Hid (∀ W, Below W0.heap.size W0 W → Calls Tryz.prog 156 #[.agg #[.slice a T.length c], .int .i64 (nlv T : Nat)] W fun e w' => ∃ g us, e = .returned (.agg #[.slice (some ⟨g, 0, none⟩) T.length T.length]) ∧ OTr W.heap.size w' (.slice (some ⟨g, 0, none⟩) T.length T.length) T us ∧ Below W.heap.size W w') := fun W hW => by
    have hW := (unhide HB _ hW).2.2
    have := copied_any (h.bw hW) (mayB_15 qm).1 (un_len qm) r1
    rw [← g2, fit_self rfl] at this; exact this
  have HTr : Hid (∀ W, Below w.heap.size w W → Tab W) := fun W hW => hT.bw hW
  have HW : Hid (W0 = (w.alloc (.cells #[.slice a T.length c] 24)).alloc (.cells #[.slice none 0 0] 24)) := hW0
  have n1 : decide (ee < 0) = false := decide_eq_false (by omega)
  have n2 : decide (pp < 1) = false := decide_eq_false (by omega)
  have n7 : (i : Int) ≤ 8 := by omega
  have HUN : Hid (∀ x, (ndAt T x).un.length ≤ 8) := fun x => (un_ok qm x).2
  have HR := hide (And.intro r1 (And.intro hil (And.intro d1 (And.intro d4 (And.intro d5 d7)))))
  have HS0 := hide hs0
  have HG := hide (And.intro g2 (And.intro g3 g4))
  obtain ⟨M2, hM2⟩ : ∃ M2, M2 = ps.length := ⟨_, rfl⟩
  rw [← hM2] at q4 KCF HPV ⊢
  have HM2 : Hid (M2 = ps.length ∧ M2 = (pth T i).length ∧ M2 = (prs T i).length) := ⟨hM2, q4, by rw [q4, unhide HPT, List.length_map]⟩
  have hM3 : (M2 : Int) ≤ 3 := by omega
  have n3 : ((M2 : Int) != (M2 : Int)) = false := by simp
  clear hE q1 q2 q3 q4 q5 r1 d1 d2 d3 d4 d5 d6 d7 hW0 h hT qm hs0 ok g2 g3 g4 g5 hpv hM2 hpi hpl hpt3 hli
  obtain ⟨n, hn⟩ : ∃ n, n = nlv T := ⟨_, rfl⟩
  simp only [← hn] at KL KC HR HG HSET HPM
  have HN := hide hn
  clear hn hil
  obtain ⟨mn, hmn⟩ : ∃ mn, mn = T.length := ⟨_, rfl⟩
  simp only [← hmn] at KM KH KP KL KC HB HW HG
  go_enter Tryz.func40, Tryz.ntmps40
  go_wp2_with fail
  rw [← hmn, ← unhide HW]
  have HMN := hide hmn
  clear hmn
  refine (unhide KM _ hb0).mono ?_
  rintro e W1 ⟨rfl, b1⟩
  obtain ⟨c0, -, hw1⟩ := unhide HB _ b1
  clear KM HW
  go_wp2_with fail
  refine (unhide KH _ hw1).mono ?_
  rintro e W2 ⟨rfl, b2⟩
  have b3 := bw_tr b1 b2
  clear c0 KH b2
  obtain ⟨c0, -, hw3⟩ := unhide HB _ b3
  go_wp2_with fail
  refine (unhide KP _ hw3).mono ?_
  rintro e W2b ⟨nv, ov, us0, rfl, hPI, b4⟩
  have b5 := bw_tr b3 b4
  obtain ⟨na, nc, hne⟩ := own_slice hPI.ns
  rw [List.length_map, ← (unhide HM2).2.2] at hne
  subst hne
  have HNV0 : Hid (Ints W0.heap.size W2b (.slice na M2 nc) (pth T i)) := by unfold Hid; rw [unhide HPT]; exact hPI.ns.mono b3.size
  clear c0 KP b4 b3 b1 hw1 hw3 hPI
  obtain ⟨c0, -, hw5⟩ := unhide HB _ b5
  clear n1 n2
  go_wp2_with fail
  refine (unhide KCF _ hw5).mono ?_
  rintro e W3 ⟨rfl, qd, rfl⟩
  have y5 : Below W2b.heap.size W2b (W2b.drewN qd) := below_drewN (Below.refl _ _) _
  have b6 := bw_tr b5 y5
  have HNV : Hid (Ints W0.heap.size (W2b.drewN qd) (.slice na M2 nc) (pth T i)) := (unhide HNV0).bw y5
  clear c0 b5 hw5 KCF y5 HNV0 n3
  generalize W2b.drewN qd = W3 at *
  obtain ⟨c0, -, hw5⟩ := unhide HB _ b6
  have b5 := b6
  clear b6
  have HB3 : Hid (∀ W, Below W3.heap.size W3 W → W.cell? ⟨w.heap.size, 0, none⟩ = some (.slice a mn c) ∧ (W.heap[w.heap.size + 1]? = some (.cells #[.slice none 0 0] 24 (0, 0)) ∧ W.cell? ⟨w.heap.size + 1, 0, none⟩ = some (.slice none 0 0) ∧ W.frozen? ⟨w.heap.size + 1, 0, none⟩ = false) ∧ Below w.heap.size w W) := fun W hW => unhide HB _ (bw_tr b5 hW)
  have KC3 : Hid (∀ W, Below W3.heap.size W3 W → Calls Tryz.prog 156 #[.agg #[.slice a mn c], .int .i64 (n : Int)] W fun e w' => ∃ g us, e = .returned (.agg #[.slice (some ⟨g, 0, none⟩) mn mn]) ∧ OTr W.heap.size w' (.slice (some ⟨g, 0, none⟩) mn mn) T us ∧ Below W.heap.size W w') := fun W hW => unhide KC W (bw_tr b5 hW)
  have HS3 : Hid (w.heap.size + 2 ≤ W3.heap.size) := by have h1 := b5.size; have h2 := unhide HS0; unfold Hid; omega
  clear KC HB HS0
  go_upto_region 8 with fail
  have bA : Below W3.heap.size W3 W3.drew := (Below.refl _ _).drew
  have bB : Below W3.heap.size W3 (W3.alloc (.cells #[.slice none 0 0] 24)).drew := (bwA _ _).drew
  have k0 : (W3.alloc (.cells #[.slice none 0 0] 24)).drew.heap[W3.heap.size]? = some (.cells #[.slice none 0 0] 24 (0, 0)) := heap_alloc_new W3 _
  have S0 := (unhide HB3 _ bA).1
  have S0b := (unhide HB3 _ bB).1
  have hA3 : W3.heap.size ≤ W3.heap.size := Nat.le_refl _
  go_cut [14] from 52 to 56 (fun s8 wx => ∃ nb g us, s8 = .pointer (some ⟨nb, 0, none⟩) ∧ Hid (NX W3 wx nb g mn T us))
  case first =>
    go_region_held3 (fun w' : World => w'.cell? ⟨w.heap.size, 0, none⟩ = some (.slice a mn c)) (first | with_reducible exact S0 | with_reducible exact S0b | with_reducible exact S1 | with_reducible exact S1b | with_reducible exact S3 | with_reducible exact S3b | with_reducible exact S3c | with_reducible exact S3d) (first
      | (go_at_call 45; refine (unhide KL _).mono ?_; rintro e z1 ⟨rfl, y1⟩; first
        | (have x1 : Below W3.heap.size W3 z1 := bw_tr bA y1; have S1 := (unhide HB3 _ x1).1; have x1b := x1.alloc x1.size (.cells #[.slice none 0 0] 24); have S1b := (unhide HB3 _ x1b).1)
        | (have x1 : Below W3.heap.size W3 z1 := bw_tr bB y1; have S1 := (unhide HB3 _ x1).1; have k1 := kept1 k0 y1) | fail)
      | (go_at_call 156; first
        | (with_reducible refine (unhide KC3 _ x1).mono ?_; rintro e z3 ⟨g, us, rfl, hO, y3⟩; have x3 := bw_tr x1 y3; have O3 := hO.mono x1.size; have S3 := (unhide HB3 _ x3).1; have S3b := (unhide HB3 _ (x3.alloc x3.size (.cells #[.slice (some ⟨g, 0, none⟩) mn mn] 24))).1; have S3d := (unhide HB3 _ (x3.alloc x3.size (.cells #[.slice none 0 0] 24))).1; try (have k3 : z3.heap[W3.heap.size]? = some (.cells #[.slice none 0 0] 24 (0, 0)) := kept1 k1 y3; have k4 : z3.cell? ⟨W3.heap.size, 0, none⟩ = some (.slice none 0 0) := cell_of_blk k3 rfl; have k5 : z3.frozen? ⟨W3.heap.size, 0, none⟩ = false := frozen_of_blk k3; have hN := nx_put x3 O3 k3 hA3; have S3c := (unhide HB3 _ hN.bel).1))
        | (with_reducible refine (unhide KC3 _ x1b).mono ?_; rintro e z3 ⟨g, us, rfl, hO, y3⟩; have x3 := bw_tr x1b y3; have O3 := hO.mono x1b.size; have S3 := (unhide HB3 _ x3).1; have k3 := new1 y3; have k4 : z3.cell? ⟨z1.heap.size, 0, none⟩ = some (.slice none 0 0) := cell_of_blk k3 rfl; have k5 : z3.frozen? ⟨z1.heap.size, 0, none⟩ = false := frozen_of_blk k3; have hN := nx_put x3 O3 k3 x1.size; have S3c := (unhide HB3 _ hN.bel).1) | fail) | fail)
    all_goals
      go_wp2_with fail
      go_meet
      case rel => first | exact ⟨_, _, _, rfl, hN⟩ | exact ⟨_, _, _, rfl, nx_new x3 O3⟩
  case rest =>
    obtain ⟨nb, g, us, rfl, hNX⟩ := hcut
    clear bA bB k0 S0 S0b KC3 KL c0 b5 hw5 hA3
    obtain ⟨r1, r2, d1, d4, d5, d7⟩ := unhide HR
    obtain ⟨G1, G2, G3⟩ := unhide HG
    obtain ⟨x2, hx2⟩ : ∃ x2, x2 = 2 * i := ⟨_, rfl⟩
    rw [← hx2] at d1 HSET
    have hmn := unhide HMN
    have hx2l : x2 < T.length := by omega
    obtain ⟨u2, hu2, ⟨e0, e1, e2, e3⟩, hfz⟩ := (unhide hNX).at hx2l
    have f0 := hfz (x2 * 4); have f2 := hfz (x2 * 4 + 2)
    have cN := (unhide hNX).cell
    have p1 : 2 * (i : Int) = (x2 : Int) := by omega
    have p2 : (x2 : Int) < (mn : Int) := by omega
    have p3 : (0 : Int) ≤ (x2 : Int) := by omega
    have p4 : (mn : Int) ≤ 15 := by omega
    have hNX3 : Hid (NX W3 (wc.setCell ⟨g, x2 * 4 + 2, none⟩ (.int .i64 ee)) nb g mn (T.set x2 ⟨(ndAt T x2).pub, (ndAt T x2).mem, ee, (ndAt T x2).un⟩) us) := (unhide hNX).set1 (by decide) hx2l _ ee rfl (fun u => rfl)
    obtain ⟨T0, hT0⟩ : ∃ T0, T0 = T.set x2 ⟨(ndAt T x2).pub, (ndAt T x2).mem, ee, (ndAt T x2).un⟩ := ⟨_, rfl⟩
    rw [← hT0] at hNX3
    have hT0l : x2 < T0.length := by rw [hT0, List.length_set]; exact hx2l
    have hT0a : ndAt T0 x2 = ⟨(ndAt T x2).pub, (ndAt T x2).mem, ee, (ndAt T x2).un⟩ := by rw [hT0, ndAt_set, if_pos ⟨rfl, hx2l⟩]
    have HNX4 : Hid (∀ W, NX W3 W nb g mn T0 us → NX W3 (W.setCell ⟨g, x2 * 4, none⟩ (.int .i64 pp)) nb g mn (T.set x2 ⟨pp, (ndAt T x2).mem, ee, (ndAt T x2).un⟩) us) := fun W hW => by
      have := hW.set1 (k := 0) (by decide) hT0l ⟨pp, (ndAt T x2).mem, ee, (ndAt T x2).un⟩ pp (by rw [hT0a]) (fun u => by rw [hT0a]; rfl)
      rw [hT0, List.set_set] at this
      simpa using this
    obtain ⟨T1, hT1⟩ : ∃ T1, T1 = T.set x2 ⟨pp, (ndAt T x2).mem, ee, (ndAt T x2).un⟩ := ⟨_, rfl⟩
    rw [← hT1] at HNX4 HSET
    have hT1l : T1.length = mn := by rw [hT1, List.length_set, hmn]
    have hnl1 : nlv T1 = n := by unfold nlv; simp [sizes] at r1; omega
    have HU2 : Hid (∀ y, (ndAt T1 y).un.length ≤ 8) := fun k => by
      rw [hT1, ndAt_set]
      split
      · exact unhide HUN x2
      · exact unhide HUN k
    have HN1 := hide (And.intro hT1l (And.intro hnl1 (And.intro r2 (And.intro d4 (And.intro d5 r1)))))
    have HD1 := hide d1
    clear hNX hT1 hT1l hnl1 r1 r2 d1 d4 d5 hmn hx2l HR hu2 hfz hx2 HUN HMN HN G1 G3 hT0a hT0
    obtain ⟨U, hU⟩ : ∃ U, U = upN n i := ⟨_, rfl⟩
    rw [← hU] at HSET HN1 HD1 d7 HPM
    clear hU
    go_upto_region 10 with fail
    generalize wc.setCell ⟨g, x2 * 4 + 2, none⟩ (.int .i64 ee) = W3b at *
    clear e0 e1 e2 e3 f0 f2 cN
    obtain ⟨u2, hu2, ⟨e0, e1, e2, e3⟩, hfz⟩ := (unhide hNX3).at hT0l
    have f0 := hfz (x2 * 4)
    have cN := (unhide hNX3).cell
    have hNX4 := hide (unhide HNX4 _ (unhide hNX3))
    clear HNX4 hNX3 hfz hu2 hT0l
    go_upto_region 11 with fail
    generalize W3b.setCell ⟨g, x2 * 4, none⟩ (.int .i64 pp) = W4 at *
    have cN4 := (unhide hNX4).cell
    have HTRD : Hid (∀ y ∈ T1, y.un.length ≤ 140737488355328) := fun y hy => by
      obtain ⟨k, hk⟩ := List.mem_iff_getElem?.1 hy
      have hlt := (List.getElem?_eq_some_iff.1 hk).1
      rw [ndAt_of hlt] at hk
      cases hk
      have := unhide HU2 k; omega
    obtain ⟨t1, t2, t3, t4, t5, t6⟩ := unhide HN1
    have KA := hide (above_tr ((unhide hNX4).tr.trd (by omega) (unhide HTRD)) (by omega) (unhide HTr _ (unhide HB3 _ (unhide hNX4).bel).2.2) (show i < nlv T1 by omega))
    rw [t2, show ((2 * i : Nat) : Int) = ((x2 : Nat) : Int) by omega, unhide HD1] at KA
    clear e0 e1 e2 e3 f0 cN t1 t2 t3 t4 t5 t6 HTRD HD1 HU2
    obtain ⟨M, hM⟩ : ∃ M, M = U.length := ⟨_, rfl⟩
    have HM := hide hM
    rw [← hM] at d7
    clear hM
    go_wp2_with fail
    refine (unhide KA).mono ?_
    rintro e W5 ⟨rv, rfl, hrv, y5⟩
    have hNX5 := hide ((unhide hNX4).bw y5)
    obtain ⟨ra, rc, hre⟩ := own_slice hrv
    rw [List.length_map, ← unhide HM] at hre
    subst hre
    have HRV : Hid (Ints W4.heap.size W5 (.slice ra M rc) (U.map (fun (x : Nat) => (x : Int))) ∧ ∀ k, (Value.slice ra M rc).ownBlock = some k → k ≠ g) := ⟨hrv, fun k hk c => by
      have h1 := (World.ownsRow.lt hrv k hk).1
      have h2 := ((unhide hNX4).tr.blocks g (by simp)).2
      omega⟩
    clear KA cN4 hNX4 hrv y5 p2 p3
    go_wp2_with fail
    go_loopw [74] (fun iv wr => ∃ (j : Nat) (us' : List Value), iv = .int .i64 (j : Int) ∧ j ≤ M ∧ Hid (NX W3 wr nb g mn (onAll (fun _ => nd0) (U.take j) T1) us') ∧ Hid (Ints W4.heap.size wr (.slice ra M rc) (U.map (fun (x : Nat) => (x : Int))) ∧ ∀ k, (Value.slice ra M rc).ownBlock = some k → k ≠ g)) (fun iv _ => (M - (intOf iv)).toNat)
    case atStart => exact ⟨0, us, rfl, by omega, by rw [List.take_zero, onAll_nil]; exact hNX5, HRV⟩
    case round =>
      clear HRV hNX5
      obtain ⟨j, us', rfl, hjM, hNX, hRV⟩ := hrel
      by_cases hlt : j < M
      · obtain ⟨x, hx⟩ : ∃ x, U[j]? = some x := ⟨_, List.getElem?_eq_getElem (by have := unhide HM; omega)⟩
        have hxm : x ∈ U := List.mem_of_getElem? hx
        obtain ⟨gu, ou, cu, hue, hcu⟩ := (unhide hRV).1.nums.open (by simp; have := unhide HM; omega)
        rw [List.length_map, ← unhide HM] at hue
        cases hue
        have k1 : wr.cell? ⟨gu, ou + j, none⟩ = some (.int .i64 (x : Int)) := hcu j (x : Int) (by simp [hx])
        obtain ⟨t1, t2, t3, t4, t5, t6⟩ := unhide HN1
        have ht5 := t5 x hxm
        have hTl : (onAll (fun _ => nd0) (U.take j) T1).length = mn := by rw [onAll_len, t1]
        have hsn : Hid (onAll (fun _ => nd0) (U.take (j + 1)) T1 = (onAll (fun _ => nd0) (U.take j) T1).set x nd0) := by
          unfold Hid; rw [List.take_add_one, hx]; show onAll _ (U.take j ++ [x]) _ = _; rw [onAll_snoc]
        have G1 := (unhide HG).1
        have hxl : x < (onAll (fun _ => nd0) (U.take j) T1).length := by omega
        obtain ⟨u2, hu2, ⟨e0, e1, e2, e3⟩, hfz⟩ := (unhide hNX).at hxl
        have f0 := hfz (x * 4); have f1 := hfz (x * 4 + 1); have f2 := hfz (x * 4 + 2); have f3 := hfz (x * 4 + 3)
        have cN := (unhide hNX).cell
        have hNX9 : Hid (NX W3 ((((wr.setCell ⟨g, x * 4, none⟩ (.int .i64 0)).setCell ⟨g, x * 4 + 1, none⟩ (.int .i64 0)).setCell ⟨g, x * 4 + 2, none⟩ (.int .i64 0)).setCell ⟨g, x * 4 + 3, none⟩ (.slice none 0 0)) nb g mn ((onAll (fun _ => nd0) (U.take j) T1).set x nd0) (us'.set x (.slice none 0 0))) := (unhide hNX).set4 hxl nd0 rfl
        have hRV9 : Hid (Ints W4.heap.size ((((wr.setCell ⟨g, x * 4, none⟩ (.int .i64 0)).setCell ⟨g, x * 4 + 1, none⟩ (.int .i64 0)).setCell ⟨g, x * 4 + 2, none⟩ (.int .i64 0)).setCell ⟨g, x * 4 + 3, none⟩ (.slice none 0 0)) (.slice (some ⟨gu, ou, none⟩) M rc) (U.map (fun (x : Nat) => (x : Int))) ∧ ∀ k, (Value.slice (some ⟨gu, ou, none⟩) M rc).ownBlock = some k → k ≠ g) := by
          have f9 : Fr [g] wr ((((wr.setCell ⟨g, x * 4, none⟩ (.int .i64 0)).setCell ⟨g, x * 4 + 1, none⟩ (.int .i64 0)).setCell ⟨g, x * 4 + 2, none⟩ (.int .i64 0)).setCell ⟨g, x * 4 + 3, none⟩ (.slice none 0 0)) :=
            (((((Fr.refl [g] wr).setCell (a := ⟨g, x * 4, none⟩) (Or.inr (by simp)) _).setCell (a := ⟨g, x * 4 + 1, none⟩) (Or.inr (by simp)) _).setCell (a := ⟨g, x * 4 + 2, none⟩) (Or.inr (by simp)) _).setCell (a := ⟨g, x * 4 + 3, none⟩) (Or.inr (by simp)) _)
          exact ⟨own_keep (unhide hRV).1 (fun k hk => f9.block k (World.ownsRow.lt (unhide hRV).1 k hk).2 (by have := (unhide hRV).2 k hk; simpa using this)), (unhide hRV).2⟩
        have q1 : (j : Int) < (M : Int) := by omega
        have q0 : (0 : Int) ≤ (j : Int) := by omega
        have p2 : (x : Int) < (mn : Int) := by omega
        have p3 : (0 : Int) ≤ (x : Int) := by omega
        have hM3 : (M : Int) ≤ 3 := by omega
        generalize onAll (fun _ => nd0) (U.take j) T1 = Tj at *
        clear hcu hx hxm t1 t2 t3 t4 t5 t6 ht5 hTl hxl hfz hu2 hNX hRV G1
        go_wp2_with fail
        generalize ((((wr.setCell ⟨g, x * 4, none⟩ (.int .i64 0)).setCell ⟨g, x * 4 + 1, none⟩ (.int .i64 0)).setCell ⟨g, x * 4 + 2, none⟩ (.int .i64 0)).setCell ⟨g, x * 4 + 3, none⟩ (.slice none 0 0)) = W9 at *
        go_roundw
        case rel => exact ⟨j + 1, _, by go_num, by omega, by rw [unhide hsn]; exact hNX9, hRV9⟩
        case measure => simp [intOf]; omega
      · obtain rfl : j = M := by omega
        have e9 : U.take j = U := List.take_of_length_le (by have := unhide HM; omega)
        rw [e9] at hNX
        obtain ⟨T2, hT2⟩ : ∃ T2, T2 = onAll (fun _ => nd0) U T1 := ⟨_, rfl⟩
        rw [← hT2] at hNX HSET
        have hT2l : T2.length = mn := by rw [hT2, onAll_len]; exact (unhide HN1).1
        have HXL : Hid (∀ y ∈ pth T i, ∃ x : Nat, y = x ∧ x < mn) := fun y hy => by
          obtain ⟨x, h1, h2⟩ := unhide HPM y hy
          exact ⟨x, h1, by have := (unhide HN1).2.2.2.2.1 x h2; have := (unhide HG).1; omega⟩
        have HT2L := hide hT2l
        clear hT2 hT2l hRV HN1 HM HPM
        go_wp2_with fail
        go_loopw [86] (fun iv wr2 => ∃ (j2 : Nat) , iv = .int .i64 (j2 : Int) ∧ j2 ≤ M2 ∧ Hid (NX W3 wr2 nb g mn (setPL T2 (((pth T i).zip ps).take j2)) us')) (fun iv _ => (M2 - (intOf iv)).toNat)
        case atStart => exact ⟨0, rfl, by omega, by rw [List.take_zero]; exact hNX⟩
        case round =>
          rename World => wz
          obtain ⟨j2, rfl, hj2, hNX2⟩ := hrel
          have hbz := (unhide hNX2).bel
          by_cases hlt2 : j2 < M2
          · obtain ⟨y, hy⟩ : ∃ y, (pth T i)[j2]? = some y := ⟨_, List.getElem?_eq_getElem (by have := (unhide HM2).2.1; omega)⟩
            obtain ⟨p, hp⟩ : ∃ p, ps[j2]? = some p := ⟨_, List.getElem?_eq_getElem (by have := (unhide HM2).1; omega)⟩
            obtain ⟨x, rfl, hxl⟩ := unhide HXL y (List.mem_of_getElem? hy)
            obtain ⟨gn, on, cn, hne, hcn⟩ := (unhide HNV).nums.open (by have := (unhide HM2).2.1; omega)
            rw [← (unhide HM2).2.1] at hne
            cases hne
            obtain ⟨gp, op, cp, hpe, hcp⟩ := (unhide HPV _ (unhide HB3 _ hbz).2.2).open (by have := (unhide HM2).1; omega)
            rw [← (unhide HM2).1] at hpe
            cases hpe
            have k1 : wz.cell? ⟨gn, on + j2, none⟩ = some (.int .i64 (x : Int)) := by
              have hcc := hcn j2 _ hy
              rw [hbz.cell (p := ⟨gn, on + j2, none⟩) (lt_of_cell (a := ⟨gn, on + j2, none⟩) hcc)]; exact hcc
            have k2 : wz.cell? ⟨gp, op + j2, none⟩ = some (.int .i64 p) := hcp j2 _ hp
            have hxl2 : x < (setPL T2 (((pth T i).zip ps).take j2)).length := by rw [setPL_len, unhide HT2L]; exact hxl
            obtain ⟨u2, hu2, ⟨e0, e1, e2, e3⟩, hfz⟩ := (unhide hNX2).at hxl2
            have f0 : wz.drew.frozen? ⟨g, x * 4, none⟩ = false := hfz (x * 4)
            have e0d : wz.drew.cell? ⟨g, x * 4, none⟩ = some (.int .i64 (ndAt (setPL T2 (((pth T i).zip ps).take j2)) x).pub) := e0
            have cN := (unhide hNX2).cell
            have hgl := ((unhide hNX2).tr.blocks g (by simp))
            have hnbg : nb ≠ g := fun hc => (unhide hNX2).notin (by rw [hc]; simp)
            have hpg : gp ≠ g := by
              intro hc; subst hc
              obtain ⟨cur, q1⟩ := own_kind (unhide hNX2).tr.row (k := gp) rfl
              obtain ⟨gp', op', cp', hpe', hcp'⟩ := (unhide HPV _ (Below.refl _ _)).open (by have := (unhide HM2).1; omega)
              cases hpe'
              have q2 := lt_of_cell (a := ⟨gp, op + j2, none⟩) (hcp' j2 _ hp)
              have q3 := hgl.1
              have q4 := unhide HS3
              simp at q2; omega
            have S0 : wz.drew.cell? ⟨nb, 0, none⟩ = some (.slice (some ⟨g, 0, none⟩) mn mn) ∧ wz.drew.cell? ⟨gp, op + j2, none⟩ = some (.int .i64 p) := ⟨cN, k2⟩
            have S1 : (wz.setCell ⟨g, x * 4, none⟩ (.int .i64 p)).drew.cell? ⟨nb, 0, none⟩ = some (.slice (some ⟨g, 0, none⟩) mn mn) ∧ (wz.setCell ⟨g, x * 4, none⟩ (.int .i64 p)).drew.cell? ⟨gp, op + j2, none⟩ = some (.int .i64 p) := ⟨cell_keep S0.1 (Below.heap_setCell _ _ _ _ hnbg), cell_keep S0.2 (Below.heap_setCell _ _ _ _ hpg)⟩
            have hsn : Hid (setPL T2 (((pth T i).zip ps).take (j2 + 1)) = (setPL T2 (((pth T i).zip ps).take j2)).set x ⟨p, (ndAt (setPL T2 (((pth T i).zip ps).take j2)) x).mem, (ndAt (setPL T2 (((pth T i).zip ps).take j2)) x).ep, (ndAt (setPL T2 (((pth T i).zip ps).take j2)) x).un⟩) := by
              unfold Hid
              have ez : ((pth T i).zip ps)[j2]? = some ((x : Int), p) := by rw [List.getElem?_zip_eq_some]; exact ⟨hy, hp⟩
              rw [List.take_add_one, ez]
              have := setPL_snoc T2 (((pth T i).zip ps).take j2) (x : Int) p
              rw [Int.toNat_natCast] at this; exact this
            have hNX9 : Hid (NX W3 (wz.setCell ⟨g, x * 4, none⟩ (.int .i64 p)).drew nb g mn ((setPL T2 (((pth T i).zip ps).take j2)).set x ⟨p, (ndAt (setPL T2 (((pth T i).zip ps).take j2)) x).mem, (ndAt (setPL T2 (((pth T i).zip ps).take j2)) x).ep, (ndAt (setPL T2 (((pth T i).zip ps).take j2)) x).un⟩) us') := by
              have := ((unhide hNX2)).set1 (k := 0) (by decide) hxl2 ⟨p, (ndAt (setPL T2 (((pth T i).zip ps).take j2)) x).mem, (ndAt (setPL T2 (((pth T i).zip ps).take j2)) x).ep, (ndAt (setPL T2 (((pth T i).zip ps).take j2)) x).un⟩ p rfl (fun u => rfl)
              exact NX.bw (by simpa using this) (Below.refl _ _).drew
            have q1 : (j2 : Int) < (M2 : Int) := by omega
            have q0 : (0 : Int) ≤ (j2 : Int) := by omega
            have p2 : (x : Int) < (mn : Int) := by omega
            have p3 : (0 : Int) ≤ (x : Int) := by omega
            generalize setPL T2 (((pth T i).zip ps).take j2) = Tj at *
            generalize (ndAt Tj x).pub = pub0 at *
            clear hcn hcp hy hp hxl hxl2 hfz hu2 hNX2 hNX e1 e2 e3 hgl hpg hnbg
            go_upto_region 19 with fail
            go_region_held3 (fun w' : World => w'.cell? ⟨nb, 0, none⟩ = some (.slice (some ⟨g, 0, none⟩) mn mn) ∧ w'.cell? ⟨gp, op + j2, none⟩ = some (.int .i64 p)) (first | with_reducible exact S0 | with_reducible exact S1) (fail)
            all_goals
              generalize (wz.setCell ⟨g, x * 4, none⟩ (.int .i64 p)).drew = W9 at *
              go_wp2_with fail
              go_roundw
              case rel => exact ⟨j2 + 1, by go_num, by omega, by rw [unhide hsn]; exact hNX9⟩
              case measure => simp [intOf]; omega
          · obtain rfl : j2 = M2 := by omega
            have e9 : ((pth T i).zip ps).take j2 = (pth T i).zip ps := List.take_of_length_le (by have := unhide HM2; simp; omega)
            rw [e9, ← unhide HSET] at hNX2
            have cN := (unhide hNX2).cell
            obtain ⟨-, ⟨-, cR, fR⟩, cW⟩ := unhide HB3 _ hbz
            have HS := unhide HS3
            have HF : Hid (OTr w.heap.size (wz.setCell ⟨w.heap.size + 1, 0, none⟩ (.slice (some ⟨g, 0, none⟩) mn mn)) (.slice (some ⟨g, 0, none⟩) mn mn) (setT T i ee pp ps) us' ∧ Below w.heap.size w (wz.setCell ⟨w.heap.size + 1, 0, none⟩ (.slice (some ⟨g, 0, none⟩) mn mn))) :=
              ⟨((unhide hNX2).tr.keepB (fun k hk => Below.heap_setCell _ _ _ _ (by simp; omega))).mono (by omega), cW.setCell (by simp) _⟩
            have cZ : (wz.setCell ⟨w.heap.size + 1, 0, none⟩ (.slice (some ⟨g, 0, none⟩) mn mn)).cell? ⟨w.heap.size + 1, 0, none⟩ = some (.slice (some ⟨g, 0, none⟩) mn mn) := cell_set_same cR _
            clear hNX2 hNX HS cW
            go_wp2_with fail
            generalize wz.setCell ⟨w.heap.size + 1, 0, none⟩ (.slice (some ⟨g, 0, none⟩) mn mn) = WZ at *
            exact bodyPost_ret (v := .tuple #[.agg #[.slice (some ⟨g, 0, none⟩) mn mn], .int .i64 0]) (by simp [results, Tryz.results40, go_sem, cZ]) rfl ⟨_, _, rfl, (unhide HF).1, (unhide HF).2⟩
end Go.Proofs.YtpgppnmobbgefaaGreatDoor
