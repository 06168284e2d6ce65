/- Texts joined: TeO TeP TeQ TeR. -/
import Derived.Test.YtaanacnloljlmaaGreatDoorZ19
import Derived.Test.YtaanacnloljlmaaGreatDoorZ16
/- The contract of the document's SetPath, refused. -/
namespace Go.Proofs.YtaanacnloljlmaaGreatDoor
open Go.RowKit Go.Maps

set_option maxRecDepth 100000 in
set_option maxHeartbeats 4000000 in
theorem rset_err {w : World} {v pv : Value} {T : List Nd} {ps : List Int} (h : Trd w v T) (hpv : Nums w pv ps) (hps : ps.length ≤ 1048576) (li ee pp : Int) (hE : setE T li ee pp ps ≠ 0) :
    Calls Tryz.prog 33 #[.agg #[v], .int .i64 li, .int .i64 ee, .int .i64 pp, pv] w fun e w' => e = .returned (.tuple #[.agg #[.slice none 0 0], .int .i64 (setE T li ee pp ps)]) ∧ Below w.heap.size w w' := by
  obtain ⟨W0, hW0⟩ : ∃ W0, W0 = (bxw w v).alloc (.cells #[.slice none 0 0] 24) := ⟨_, rfl⟩
  have hb0 : Below w.heap.size w W0 := by rw [hW0]; exact (bwA _ _).alloc (by simp) _
  have hs0 : W0.heap.size = w.heap.size + 2 := by rw [hW0]; simp
  have HB : Hid (∀ W, Below W0.heap.size W0 W → W.cell? ⟨w.heap.size, 0, none⟩ = some v ∧ (W.cell? ⟨w.heap.size + 1, 0, none⟩ = some (.slice none 0 0) ∧ W.frozen? ⟨w.heap.size + 1, 0, none⟩ = false ∧ (W.setCell ⟨w.heap.size + 1, 0, none⟩ (.slice none 0 0)).cell? ⟨w.heap.size + 1, 0, none⟩ = some (.slice none 0 0)) ∧ Below w.heap.size w W) := fun W hW => by
    have e0 : W.heap[w.heap.size]? = some (.cells #[v] 24 (0, 0)) := by
      rw [hW.block _ (by omega), hW0, Below.heap_alloc _ _ _ (by simp)]; exact heap_alloc_new _ _
    have e2 : W.heap[w.heap.size + 1]? = some (.cells #[.slice none 0 0] 24 (0, 0)) := by
      rw [hW.block _ (by omega), hW0]
      have := heap_alloc_new (bxw w v) (.cells #[.slice none 0 0] 24)
      simpa using this
    exact ⟨cell_of_blk e0 rfl, ⟨cell_of_blk e2 rfl, by simp [World.frozen?, e2], cell_set_same (cell_of_blk e2 rfl) _⟩, bw_tr hb0 hW⟩
  have KM : Hid (∀ W, Below w.heap.size w W → Calls Tryz.prog 14 #[.agg #[v]] W fun e w' => e = .returned (.int .i64 (if mayB T = true then 0 else 1)) ∧ Below W.heap.size W w') := fun W hW => rcheck_any (h.bw hW)
  have KH : Hid (mayB T = true → hasL T li = false → ∀ W, Below w.heap.size w W → Calls Tryz.prog 26 #[.agg #[v], .int .i64 li] W fun e w' => e = .returned (.tuple #[.slice none 0 0, .int .i64 7]) ∧ Below W.heap.size W w') := fun q q2 W hW => by
    have e7 : askE T li = 7 := by unfold askE; rw [if_neg (by simp [q]), if_pos q2]
    have := rpath_err (h.bw hW) li (by rw [e7]; decide)
    rw [e7] at this
    exact this
  have KP : Hid (mayB T = true → hasL T li = true → ∀ W, Below w.heap.size w W → Calls Tryz.prog 26 #[.agg #[v], .int .i64 li] W fun e w' => ∃ r, e = .returned (.tuple #[r, .int .i64 0]) ∧ Ints W.heap.size w' r (pth T li.toNat) ∧ Below W.heap.size W w') := fun q q2 W hW => by
    have e0 : askE T li = 0 := by unfold askE; rw [if_neg (by simp [q]), if_neg (by simp [q2])]
    have := rpath_any (h.bw hW) li
    rw [e0, if_pos rfl] at this
    exact this
  have KN : Hid (∀ W, Below w.heap.size w W → Nums W pv ps) := fun W hW => hpv.bw hW
  have HW : Hid (W0 = (w.alloc (.cells #[v] 24)).alloc (.cells #[.slice none 0 0] 24)) := hW0
  obtain ⟨pa, pc, rfl⟩ := nums_slice hpv
  obtain ⟨E, hEE⟩ : ∃ E, E = setE T li ee pp ps := ⟨_, rfl⟩
  rw [← hEE] at hE ⊢
  unfold setE at hEE
  obtain ⟨L, hL⟩ : ∃ L, L = (pth T li.toNat).length := ⟨_, rfl⟩
  rw [← hL] at hEE
  have HPL : Hid (L = (prs T li.toNat).length) := by unfold Hid; rw [hL]; unfold pth; rw [List.length_map]
  have HE := hide hEE
  have HE0 := hide hE
  have HBS : Hid (∀ W, Below W0.heap.size W0 W → Below w.heap.size w (W.setCell ⟨w.heap.size + 1, 0, none⟩ (.slice none 0 0))) := fun W hW => (unhide HB _ hW).2.2.setCell (by simp) _
  have hL3 : L ≤ 3 ∨ ¬ (mayB T = true ∧ hasL T li = true) := by
    by_cases c : mayB T = true ∧ hasL T li = true
    · left
      obtain ⟨q, q2⟩ := c
      have h0 : 0 ≤ li := by
        apply Decidable.byContradiction; intro c; unfold hasL at q2; rw [decide_eq_false c] at q2; simp at q2
      obtain ⟨n, rfl⟩ : ∃ n : Nat, li = n := ⟨li.toNat, by omega⟩
      obtain ⟨h1, h2⟩ := hasL_pos q2
      have ok := mayB_okn q (nlv_pos (by omega))
      obtain ⟨g1, -⟩ := ok.wd.facts
      have h3 := up_len g1 h1
      have h4 := prs_len T n
      have h5 := unhide HPL
      rw [Int.toNat_natCast] at h5
      omega
    · right; exact c
  have hpl : ((ps.length : Nat) : Int) ≤ 1048576 := by omega
  have HLP : Hid (L = (pth T li.toNat).length) := hL
  clear h hEE hE hW0 hs0 hpv hL hps
  generalize mayB T = p at *
  generalize hasL T li = q at *
  obtain ⟨an, han⟩ : ∃ an, an = ps.any fun q => decide (q < 1) := ⟨_, rfl⟩
  rw [← han] at HE
  have HAN := hide han
  clear han
  obtain ⟨PL, hPL⟩ : ∃ PL, PL = ps.length := ⟨_, rfl⟩
  rw [← hPL] at HE KN hpl ⊢
  have HPN := hide hPL
  clear hPL
  cases p
  · obtain rfl : E = 1 := by rw [unhide HE]; simp
    clear KH KP KN HE HPL hL3 HLP HAN HPN
    go_enter Tryz.func33, Tryz.ntmps33
    go_wp2_with fail
    rw [← unhide HW]
    refine (unhide KM _ hb0).mono ?_
    rintro e W1 ⟨rfl, b1⟩
    clear KM HW
    obtain ⟨-, ⟨c4, c5, c6⟩, -⟩ := unhide HB _ b1
    have c7 := unhide HBS _ b1
    clear HB HBS
    go_wp2
    generalize W1.setCell ⟨w.heap.size + 1, 0, none⟩ (.slice none 0 0) = WZ at *
    exact bodyPost_ret (v := .tuple #[.agg #[.slice none 0 0], .int .i64 1]) (by simp [results, Tryz.results33, go_sem, c6]) rfl ⟨rfl, c7⟩
  by_cases n1 : ee < 0
  · obtain rfl : E = 1 := by rw [unhide HE]; simp [n1]
    have n1' : decide (ee < 0) = true := decide_eq_true n1
    clear KH KP KN HE HPL hL3 HLP HAN HPN
    go_enter Tryz.func33, Tryz.ntmps33
    go_wp2_with fail
    rw [← unhide HW]
    refine (unhide KM _ hb0).mono ?_
    rintro e W1 ⟨rfl, b1⟩
    clear KM HW
    obtain ⟨-, ⟨c4, c5, c6⟩, -⟩ := unhide HB _ b1
    have c7 := unhide HBS _ b1
    clear HB HBS
    go_wp2
    generalize W1.setCell ⟨w.heap.size + 1, 0, none⟩ (.slice none 0 0) = WZ at *
    exact bodyPost_ret (v := .tuple #[.agg #[.slice none 0 0], .int .i64 1]) (by simp [results, Tryz.results33, go_sem, c6]) rfl ⟨rfl, c7⟩
  have n1' : decide (ee < 0) = false := decide_eq_false n1
  by_cases n2 : pp < 1
  · obtain rfl : E = 1 := by rw [unhide HE]; simp [n2]
    have n2' : decide (pp < 1) = true := decide_eq_true n2
    clear KH KP KN HE HPL hL3 HLP HAN HPN
    go_enter Tryz.func33, Tryz.ntmps33
    go_wp2_with fail
    rw [← unhide HW]
    refine (unhide KM _ hb0).mono ?_
    rintro e W1 ⟨rfl, b1⟩
    clear KM HW
    obtain ⟨-, ⟨c4, c5, c6⟩, -⟩ := unhide HB _ b1
    have c7 := unhide HBS _ b1
    clear HB HBS
    go_wp2
    generalize W1.setCell ⟨w.heap.size + 1, 0, none⟩ (.slice none 0 0) = WZ at *
    exact bodyPost_ret (v := .tuple #[.agg #[.slice none 0 0], .int .i64 1]) (by simp [results, Tryz.results33, go_sem, c6]) rfl ⟨rfl, c7⟩
  have n2' : decide (pp < 1) = false := decide_eq_false n2
  have HE2 : Hid (E = if q = false then 7 else if PL ≠ L ∨ an = true then 1 else 0) := by unfold Hid; rw [unhide HE, if_neg (by simp [n1, n2])]
  have KH1 := hide (unhide KH rfl)
  have KP1 := hide (unhide KP rfl)
  clear HE n1 n2 KH KP
  cases q
  · obtain rfl : E = 7 := by rw [unhide HE2]; simp
    have KH2 := hide (unhide KH1 rfl)
    clear KH1 KP1 KN HE2 HPL hL3 HLP HAN HPN
    go_enter Tryz.func33, Tryz.ntmps33
    go_wp2_with fail
    rw [← unhide HW]
    refine (unhide KM _ hb0).mono ?_
    rintro e W1 ⟨rfl, b1⟩
    clear KM HW
    obtain ⟨c0, -, hw1⟩ := unhide HB _ b1
    go_wp2_with fail
    refine (unhide KH2 _ hw1).mono ?_
    rintro e W2 ⟨rfl, b2⟩
    have b3 := bw_tr b1 b2
    clear c0 KH2 b1 b2 hw1
    obtain ⟨-, ⟨c4, c5, c6⟩, -⟩ := unhide HB _ b3
    have c7 := unhide HBS _ b3
    clear HB HBS
    go_wp2
    generalize W2.setCell ⟨w.heap.size + 1, 0, none⟩ (.slice none 0 0) = WZ at *
    exact bodyPost_ret (v := .tuple #[.agg #[.slice none 0 0], .int .i64 7]) (by simp [results, Tryz.results33, go_sem, c6]) rfl ⟨rfl, c7⟩
  have hL4 : L ≤ 3 := by rcases hL3 with c | c; exact c; exact absurd ⟨rfl, rfl⟩ c
  have KP2 := hide (unhide KP1 rfl)
  clear hL3 KP1 KH1
  by_cases n3 : PL = L
  · subst n3
    obtain rfl : an = true := by
      cases an
      · exact absurd (by rw [unhide HE2]; simp) (unhide HE0)
      · rfl
    obtain rfl : E = 1 := by rw [unhide HE2]; simp
    clear HE2 HE0
    go_enter Tryz.func33, Tryz.ntmps33
    go_wp2_with fail
    rw [← unhide HW]
    refine (unhide KM _ hb0).mono ?_
    rintro e W1 ⟨rfl, b1⟩
    clear KM HW
    obtain ⟨c0, -, hw1⟩ := unhide HB _ b1
    go_wp2_with fail
    refine (unhide KP2 _ hw1).mono ?_
    rintro e W4 ⟨nv, rfl, hNV, b4⟩
    have b5 := bw_tr b1 b4
    obtain ⟨na, nc, hne⟩ := own_slice hNV
    rw [← unhide HLP] at hne
    subst hne
    clear c0 KP2 b4 b1 hw1 hNV HPL HLP
    obtain ⟨-, ⟨c4, c5, c6⟩, hw5⟩ := unhide HB _ b5
    have c7 := unhide HBS _ b5
    have HNU := hide (unhide KN _ hw5)
    have hPL3 : (PL : Int) ≤ 3 := by omega
    clear HB HBS KN b5 hw5
    go_wp2_with fail
    go_loopw [14] (fun iv wr => ∃ j : Nat, iv = .int .i64 (j : Int) ∧ j ≤ PL ∧ Hid (∀ k q, k < j → ps[k]? = some q → ¬ q < 1) ∧ wr = W4) (fun iv _ => (PL - (intOf iv)).toNat)
    case atStart => exact ⟨0, rfl, by omega, fun k q hk => by omega, rfl⟩
    case round =>
      obtain ⟨j, rfl, hjP, hall, rfl⟩ := hrel
      by_cases hlt : j < PL
      · obtain ⟨z, hz⟩ : ∃ z, ps[j]? = some z := ⟨_, List.getElem?_eq_getElem (by have := unhide HPN; omega)⟩
        obtain ⟨gp, op, cp, hpe, hcp⟩ := (unhide HNU).open (by have := unhide HPN; omega)
        rw [← unhide HPN] at hpe
        cases hpe
        have k1 := hcp j z hz
        have q1 : (j : Int) < (PL : Int) := by omega
        have q0 : (0 : Int) ≤ (j : Int) := by omega
        by_cases hz1 : z < 1
        · have hz2 : decide (z < 1) = true := decide_eq_true hz1
          clear hcp hz hall HNU HAN HPN
          go_wp2
          generalize wr.setCell ⟨w.heap.size + 1, 0, none⟩ (.slice none 0 0) = WZ at *
          exact bodyPost_ret (v := .tuple #[.agg #[.slice none 0 0], .int .i64 1]) (by simp [results, Tryz.results33, go_sem, c6]) rfl ⟨rfl, c7⟩
        · have hz2 : decide (z < 1) = false := decide_eq_false hz1
          have hall2 : Hid (∀ k q, k < j + 1 → ps[k]? = some q → ¬ q < 1) := fun k q hk hq => by
            rcases Nat.lt_or_ge k j with c | c
            · exact unhide hall k q c hq
            · obtain rfl : k = j := by omega
              rw [hz] at hq; cases hq; exact hz1
          clear hcp hz hall HNU HAN HPN hz1
          go_wp2_with fail
          go_roundw
          case rel => exact ⟨j + 1, by go_num, by omega, hall2, trivial⟩
          case measure => simp [intOf]; omega
      · exfalso
        have ha := unhide HAN
        obtain ⟨q, hq, hq1⟩ := List.any_eq_true.1 ha.symm
        obtain ⟨k, hk⟩ := List.mem_iff_getElem?.1 hq
        have hkl := (List.getElem?_eq_some_iff.1 hk).1
        exact unhide hall k q (by have := unhide HPN; omega) hk (by simpa using hq1)
  · obtain rfl : E = 1 := by rw [unhide HE2]; simp [n3]
    have n4 : ((PL : Int) == (L : Int)) = false := beq_eq_false_iff_ne.2 (by omega)
    have n5 : decide ((PL : Int) = (L : Int)) = false := decide_eq_false (by omega)
    have n6 : ((PL : Int) != (L : Int)) = true := by simp [bne, n4]
    clear HE2 HE0 KN n3 HAN HPN
    go_enter Tryz.func33, Tryz.ntmps33
    go_wp2_with fail
    rw [← unhide HW]
    refine (unhide KM _ hb0).mono ?_
    rintro e W1 ⟨rfl, b1⟩
    clear KM HW
    obtain ⟨c0, -, hw1⟩ := unhide HB _ b1
    go_wp2_with fail
    refine (unhide KP2 _ hw1).mono ?_
    rintro e W4 ⟨nv, rfl, hNV, b4⟩
    have b5 := bw_tr b1 b4
    obtain ⟨na, nc, hne⟩ := own_slice hNV
    rw [← unhide HLP] at hne
    subst hne
    clear c0 KP2 b4 b1 hw1 hNV HPL HLP
    obtain ⟨-, ⟨c4, c5, c6⟩, -⟩ := unhide HB _ b5
    have c7 := unhide HBS _ b5
    clear HB HBS
    go_wp2
    generalize W4.setCell ⟨w.heap.size + 1, 0, none⟩ (.slice none 0 0) = WZ at *
    exact bodyPost_ret (v := .tuple #[.agg #[.slice none 0 0], .int .i64 1]) (by simp [results, Tryz.results33, go_sem, c6]) rfl ⟨rfl, c7⟩
end Go.Proofs.YtaanacnloljlmaaGreatDoor

/- The contract of the document's SetPath, where it is not refused. -/
namespace Go.Proofs.YtaanacnloljlmaaGreatDoor
open Go.RowKit Go.Maps

theorem setPL_keep (T : List Nd) (l : List (Int × Int)) (y : Nat) : (ndAt (setPL T l) y).mem = (ndAt T y).mem ∧ (ndAt (setPL T l) y).ep = (ndAt T y).ep ∧ (ndAt (setPL T l) y).un = (ndAt T y).un := by
  have key : ∀ (l : List (Int × Int)) (T : List Nd), (ndAt (setPL T l) y).mem = (ndAt T y).mem ∧ (ndAt (setPL T l) y).ep = (ndAt T y).ep ∧ (ndAt (setPL T l) y).un = (ndAt T y).un := by
    intro l
    induction l with
    | nil => intro T; exact ⟨rfl, rfl, rfl⟩
    | cons p l ih =>
      intro T
      have e : setPL T (p :: l) = setPL (T.set p.1.toNat ⟨p.2, (ndAt T p.1.toNat).mem, (ndAt T p.1.toNat).ep, (ndAt T p.1.toNat).un⟩) l := rfl
      rw [e]
      obtain ⟨h1, h2, h3⟩ := ih (T.set p.1.toNat ⟨p.2, (ndAt T p.1.toNat).mem, (ndAt T p.1.toNat).ep, (ndAt T p.1.toNat).un⟩)
      rw [h1, h2, h3, ndAt_set]
      split
      · next c => rw [c.1]; exact ⟨rfl, rfl, rfl⟩
      · exact ⟨rfl, rfl, rfl⟩
  exact key l T
set_option maxRecDepth 100000 in
set_option maxHeartbeats 8000000 in
theorem rset_ok {w : World} {v pv : Value} {T : List Nd} {ps : List Int} (h : Trd w v T) (hpv : Nums w pv ps) (li ee pp : Int) (hE : setE T li ee pp ps = 0) :
    Calls Tryz.prog 33 #[.agg #[v], .int .i64 li, .int .i64 ee, .int .i64 pp, pv] w fun e w' => ∃ r us, e = .returned (.tuple #[.agg #[r], .int .i64 0]) ∧ OTr w.heap.size w' r (setT T li.toNat ee pp ps) us ∧ Below w.heap.size w w' := by
  have q : mayB T = true ∧ 0 ≤ ee ∧ 1 ≤ pp ∧ hasL T li = true ∧ ps.length = (pth T li.toNat).length ∧ ps.any (fun q => decide (q < 1)) = false := by
    unfold setE at hE
    split at hE
    · cases hE
    · rename_i hh
      simp only [not_or, Bool.not_eq_false] at hh
      split at hE
      · cases hE
      · rename_i h2
        split at hE
        · cases hE
        · rename_i h3
          simp only [not_or, Bool.not_eq_true] at h3
          exact ⟨hh.1, by omega, by omega, by simpa using h2, by omega, h3.2⟩
  obtain ⟨qm, q1, q2, q3, q4, q5⟩ := q
  have hli : 0 ≤ li := by
    apply Decidable.byContradiction; intro c; unfold hasL at q3; rw [decide_eq_false c] at q3; simp at q3
  obtain ⟨i, rfl⟩ : ∃ n : Nat, li = n := ⟨li.toNat, by omega⟩
  rw [Int.toNat_natCast] at *
  obtain ⟨hil, hpi⟩ := hasL_pos q3
  have ok := mayB_okn qm (nlv_pos (by omega))
  obtain ⟨r1, g2, g3, g4, g5⟩ := ok.wd.facts
  obtain ⟨d1, d2, d3, d4, d5, d6⟩ := up_of r1 hil
  have d7 := up_len r1 hil
  have hpl := prs_len T i
  have HPT : Hid (pth T i = (prs T i).map fun p => (p.1 : Int)) := rfl
  have HPM : Hid (∀ y ∈ pth T i, ∃ x : Nat, y = x ∧ x ∈ upN (nlv T) i) := fun y hy => by
    rw [unhide HPT] at hy
    obtain ⟨p, hp, rfl⟩ := List.mem_map.1 hy
    exact ⟨p.1, rfl, (prs_mem hp).1⟩
  have hpt3 : (pth T i).length ≤ 3 := by rw [unhide HPT, List.length_map]; omega
  have HSET : Hid (setT T i ee pp ps = setPL (onAll (fun _ => nd0) (upN (nlv T) i) (T.set (2 * i) ⟨pp, (ndAt T (2 * i)).mem, ee, (ndAt T (2 * i)).un⟩)) ((pth T i).zip ps)) := rfl
  have KP : Hid (∀ W, Below w.heap.size w W → Calls Tryz.prog 26 #[.agg #[v], .int .i64 (i : Int)] W fun e w' => ∃ r, e = .returned (.tuple #[r, .int .i64 0]) ∧ Ints W.heap.size w' r (pth T i) ∧ Below W.heap.size W w') := fun W hW => by
    have e0 : askE T (i : Int) = 0 := by unfold askE; rw [if_neg (by simp [qm]), if_neg (by simp [q3])]
    exact rpath_ok (h.bw hW) qm e0 hil
  obtain ⟨pa, pc, rfl⟩ := nums_slice hpv
  have HPV : Hid (∀ W, Below w.heap.size w W → Nums W (.slice pa ps.length pc) ps) := fun W hW => hpv.bw hW
  obtain ⟨a, c, rfl⟩ := h.slice
  obtain ⟨W0, hW0⟩ : ∃ W0, W0 = (bxw w (.slice a T.length c)).alloc (.cells #[.slice none 0 0] 24) := ⟨_, rfl⟩
  have hb0 : Below w.heap.size w W0 := by rw [hW0]; exact (bwA _ _).alloc (by simp) _
  have hs0 : W0.heap.size = w.heap.size + 2 := by rw [hW0]; simp
  have HB : Hid (∀ W, Below W0.heap.size W0 W → W.cell? ⟨w.heap.size, 0, none⟩ = some (.slice a T.length c) ∧ (W.heap[w.heap.size + 1]? = some (.cells #[.slice none 0 0] 24 (0, 0)) ∧ W.cell? ⟨w.heap.size + 1, 0, none⟩ = some (.slice none 0 0) ∧ W.frozen? ⟨w.heap.size + 1, 0, none⟩ = false) ∧ Below w.heap.size w W) := fun W hW => by
    have e0 : W.heap[w.heap.size]? = some (.cells #[.slice a T.length c] 24 (0, 0)) := by
      rw [hW.block _ (by omega), hW0, Below.heap_alloc _ _ _ (by simp)]; exact heap_alloc_new _ _
    have e2 : W.heap[w.heap.size + 1]? = some (.cells #[.slice none 0 0] 24 (0, 0)) := by
      rw [hW.block _ (by omega), hW0]
      have := heap_alloc_new (bxw w (.slice a T.length c)) (.cells #[.slice none 0 0] 24)
      simpa using this
    exact ⟨cell_of_blk e0 rfl, ⟨e2, cell_of_blk e2 rfl, by simp [World.frozen?, e2]⟩, bw_tr hb0 hW⟩
  have KM : Hid (∀ W, Below w.heap.size w W → Calls Tryz.prog 14 #[.agg #[.slice a T.length c]] W fun e w' => e = .returned (.int .i64 0) ∧ Below W.heap.size W w') := fun W hW => by
    have := rcheck_any (h.bw hW); rw [qm] at this; exact this
  have KT : Hid (∀ W, Below w.heap.size w W → Calls Tryz.prog 169 #[.agg #[.slice a T.length c]] W fun e w' => ∃ r us, e = .returned (.agg #[r]) ∧ OTr W.heap.size w' r T us ∧ Below W.heap.size W w') := fun W hW => rtwin_any (h.bw hW) (mayB_15 qm).1 (fun x hx => by have := un_len qm x hx; omega)
  have hrl : rlv T.length = nlv T := by have := rlv_of r1; rw [← g2] at this; exact this
  have KL : Hid (∀ W, Calls Tryz.prog 41 #[.agg #[.slice a T.length c]] W fun e w' => e = .returned (.int .i64 (nlv T : Nat)) ∧ Below W.heap.size W w') := fun W => by have := rleaves_any a T.length c W h.len; rw [hrl] at this; exact this
  have HW : Hid (W0 = (w.alloc (.cells #[.slice a T.length c] 24)).alloc (.cells #[.slice none 0 0] 24)) := hW0
  have n1 : decide (ee < 0) = false := decide_eq_false (by omega)
  have n2 : decide (pp < 1) = false := decide_eq_false (by omega)
  have n7 : (i : Int) ≤ 8 := by omega
  have HG := hide (And.intro g2 (And.intro r1 (And.intro hil (And.intro d4 (And.intro d5 d7)))))
  have HD1 := hide d1
  have HS0 := hide hs0
  have HALL : Hid (∀ (k : Nat) (q : Int), ps[k]? = some q → ¬ q < 1) := fun k q hk hq => by
    have := List.any_eq_false.1 q5 q (List.mem_of_getElem? hk); simp [hq] at this
  obtain ⟨M2, hM2⟩ : ∃ M2, M2 = ps.length := ⟨_, rfl⟩
  rw [← hM2] at q4 HPV ⊢
  have HM2 : Hid (M2 = ps.length ∧ M2 = (pth T i).length) := ⟨hM2, q4⟩
  have hM3 : (M2 : Int) ≤ 3 := by omega
  clear hE q1 q2 q3 q4 q5 r1 g2 g3 g4 g5 d1 d2 d3 d4 d5 d6 d7 hW0 h qm hil hs0 hrl ok hpv hM2 hpi hpl hpt3 hli
  obtain ⟨n, hn⟩ : ∃ n, n = nlv T := ⟨_, rfl⟩
  simp only [← hn] at KL HG HD1 HSET HPM
  clear hn
  obtain ⟨mn, hmn⟩ : ∃ mn, mn = T.length := ⟨_, rfl⟩
  simp only [← hmn] at HB KM KP KT KL HW HG
  go_enter Tryz.func33, Tryz.ntmps33
  go_wp2_with fail
  rw [← hmn, ← unhide HW]
  have HN := hide hmn
  clear hmn
  refine (unhide KM _ hb0).mono ?_
  rintro e W1 ⟨rfl, b1⟩
  obtain ⟨c0, -, hw1⟩ := unhide HB _ b1
  clear KM HW
  go_wp2_with fail
  refine (unhide KP _ hw1).mono ?_
  rintro e W2 ⟨nv, rfl, hNV, b2⟩
  have b3 := bw_tr b1 b2
  obtain ⟨na, nc, hne⟩ := own_slice hNV
  rw [← (unhide HM2).2] at hne
  subst hne
  have HNV0 : Hid (Ints W0.heap.size W2 (.slice na M2 nc) (pth T i)) := hNV.mono b1.size
  clear c0 KP b2 b1 hw1 hNV n1 n2
  obtain ⟨c0, -, hw3⟩ := unhide HB _ b3
  have HNU := hide (unhide HPV _ hw3)
  go_wp2_with fail
  go_loopw [14] (fun iv wr => ∃ j : Nat, iv = .int .i64 (j : Int) ∧ j ≤ M2 ∧ wr = W2) (fun iv _ => (M2 - (intOf iv)).toNat)
  case atStart => exact ⟨0, rfl, by omega, rfl⟩
  case round =>
    obtain ⟨j, rfl, hjP, hwr⟩ := hrel
    subst hwr
    by_cases hlt : j < M2
    · obtain ⟨z, hz⟩ : ∃ z, ps[j]? = some z := ⟨_, List.getElem?_eq_getElem (by have := (unhide HM2).1; omega)⟩
      obtain ⟨gp, op, cp, hpe, hcp⟩ := (unhide HNU).open (by have := (unhide HM2).1; omega)
      rw [← (unhide HM2).1] at hpe
      cases hpe
      have k1 := hcp j z hz
      have q1 : (j : Int) < (M2 : Int) := by omega
      have q0 : (0 : Int) ≤ (j : Int) := by omega
      have hz2 : decide (z < 1) = false := decide_eq_false (by have := unhide HALL j z hz; omega)
      clear hcp hz HNU
      go_wp2_with fail
      go_roundw
      case rel => exact ⟨j + 1, by go_num, by omega, trivial⟩
      case measure => simp [intOf]; omega
    obtain rfl : M2 = j := by omega
    clear HNU HALL
    go_wp2_with fail
    refine (unhide KT _ hw3).mono ?_
    rintro e W4 ⟨rr, us0, rfl, hO0, b6⟩
    have b7 := bw_tr b3 b6
    obtain ⟨ra0, rc0, hre0⟩ := own_slice hO0.row
    rw [← unhide HN] at hre0
    subst hre0
    have hDV0 : Hid (DV W0 (W4.alloc (.cells #[.slice ra0 mn rc0] 24)) W4.heap.size (.slice ra0 mn rc0) T us0) := DV.new b7 (hO0.mono b3.size)
    have HNV1 : Hid (Ints W0.heap.size (W4.alloc (.cells #[.slice ra0 mn rc0] 24)) (.slice na M2 nc) (pth T i)) := ((unhide HNV0).bw b6).bw (bwA _ _)
    obtain ⟨wc, hwc⟩ : ∃ wc, wc = W4.alloc (.cells #[.slice ra0 mn rc0] 24) := ⟨_, rfl⟩
    have HWX := hide hwc
    rw [← hwc] at hDV0 HNV1
    obtain ⟨nb, hnb⟩ : ∃ nb, nb = W4.heap.size := ⟨_, rfl⟩
    have hTpos : 0 < T.length := by
      obtain ⟨t2, t3, t4, t5, t6, t7⟩ := unhide HG
      have h2 := unhide HN
      simp [sizes] at t3
      omega
    obtain ⟨g, mc, hge, hDXT⟩ := (unhide hDV0).dx hTpos
    rw [← unhide HN] at hge hDXT
    cases hge
    generalize rc0 = mc at *
    rw [← hnb] at hDXT
    have hDX : Hid (DX W0 wc nb g mn mc T us0) := hDXT
    clear c0 KT b6 hO0 hwc b7 hDV0 hDXT hlt hw3 b3 HNV0
    go_upto_region 14 with fail
    rw [← unhide HWX, ← hnb]
    clear HWX hnb
    obtain ⟨t2, t3, t4, t5, t6, t7⟩ := unhide HG
    obtain ⟨x2, hx2⟩ : ∃ x2, x2 = 2 * i := ⟨_, rfl⟩
    rw [← hx2] at HD1 HSET
    have hx2l : x2 < T.length := by have := unhide HN; omega
    obtain ⟨u2, hu2, ⟨e0, e1, e2, e3⟩, hfz⟩ := (unhide hDX).at hx2l
    have f0 := hfz (x2 * 4); have f2 := hfz (x2 * 4 + 2)
    have cN := (unhide hDX).cell
    have hmn15 : mn ≤ 15 := by simp [sizes] at t3; omega
    have p1 : 2 * (i : Int) = (x2 : Int) := by omega
    have p2 : (x2 : Int) < (mn : Int) := by have := unhide HN; omega
    have p3 : (0 : Int) ≤ (x2 : Int) := by omega
    have p4 : (mn : Int) ≤ 15 := by omega
    have hDX3 := (unhide hDX).set1 (k := 2) (by decide) hx2l ⟨(ndAt T x2).pub, (ndAt T x2).mem, ee, (ndAt T x2).un⟩ ee rfl (fun u => rfl)
    have hDX4 : Hid (DX W0 ((wc.setCell ⟨g, x2 * 4 + 2, none⟩ (.int .i64 ee)).setCell ⟨g, x2 * 4, none⟩ (.int .i64 pp)) nb g mn mc (T.set x2 ⟨pp, (ndAt T x2).mem, ee, (ndAt T x2).un⟩) us0) := by
      have hl : x2 < (T.set x2 ⟨(ndAt T x2).pub, (ndAt T x2).mem, ee, (ndAt T x2).un⟩).length := by rw [List.length_set]; exact hx2l
      have ha : ndAt (T.set x2 ⟨(ndAt T x2).pub, (ndAt T x2).mem, ee, (ndAt T x2).un⟩) x2 = ⟨(ndAt T x2).pub, (ndAt T x2).mem, ee, (ndAt T x2).un⟩ := by rw [ndAt_set, if_pos ⟨rfl, hx2l⟩]
      have := hDX3.set1 (k := 0) (by decide) hl ⟨pp, (ndAt T x2).mem, ee, (ndAt T x2).un⟩ pp (by rw [ha]) (fun u => by rw [ha]; rfl)
      rw [List.set_set] at this
      simpa [Hid] using this
    have cN3 := hDX3.cell
    have HNV4 : Hid (Ints W0.heap.size ((wc.setCell ⟨g, x2 * 4 + 2, none⟩ (.int .i64 ee)).setCell ⟨g, x2 * 4, none⟩ (.int .i64 pp)) (.slice na M2 nc) (pth T i)) := by
      have h9 := unhide HNV1
      have f : Fr [g] wc ((wc.setCell ⟨g, x2 * 4 + 2, none⟩ (.int .i64 ee)).setCell ⟨g, x2 * 4, none⟩ (.int .i64 pp)) := ((Fr.refl [g] wc).setCell (a := ⟨g, x2 * 4 + 2, none⟩) (Or.inr (by simp)) _).setCell (a := ⟨g, x2 * 4, none⟩) (Or.inr (by simp)) _
      exact own_keep h9 (fun k hk => f.block k (World.ownsRow.lt h9 k hk).2 (by simp; rintro rfl; exact own_apart h9 (unhide hDX).tr.row (show (3 : Nat) ≠ 88 by decide) hk rfl))
    obtain ⟨T1, hT1⟩ : ∃ T1, T1 = T.set x2 ⟨pp, (ndAt T x2).mem, ee, (ndAt T x2).un⟩ := ⟨_, rfl⟩
    rw [← hT1] at hDX4 HSET
    have hT1l : T1.length = mn := by rw [hT1, List.length_set, ← unhide HN]
    obtain ⟨U, hU⟩ : ∃ U, U = upN n i := ⟨_, rfl⟩
    rw [← hU] at HSET HD1 t5 t6 t7 HPM
    have HN1 := hide (And.intro hT1l (And.intro t2 (And.intro t3 (And.intro t5 t6))))
    clear hDX hDX3 hT1 hT1l t2 t3 t4 t5 t6 hx2l hu2 hfz hx2 hU hTpos HG HNV1
    obtain ⟨c0, -, -⟩ := unhide HB _ (unhide hDX4).bel
    go_upto_region 16 with fail
    generalize (wc.setCell ⟨g, x2 * 4 + 2, none⟩ (.int .i64 ee)).setCell ⟨g, x2 * 4, none⟩ (.int .i64 pp) = W5 at *
    clear e0 e1 e2 e3 f0 f2 cN cN3
    obtain ⟨M, hM⟩ : ∃ M, M = U.length := ⟨_, rfl⟩
    have HM := hide hM
    rw [← hM] at t7
    clear hM
    go_wp2_with fail
    refine (unhide KL W5).mono ?_
    rintro e W5b ⟨rfl, y4⟩
    have hDX4b := hide ((unhide hDX4).bw y4)
    have HNV5 := hide ((unhide HNV4).bw y4)
    have KD := hide (rdirect_any ((x2 : Nat) : Int) ((n : Nat) : Int) W5b)
    rw [unhide HD1] at KD
    clear c0 hDX4 y4 KL HNV4
    go_wp2_with fail
    refine (unhide KD).mono ?_
    rintro e W6 ⟨rv, rfl, hrv, y5⟩
    have hDX5 := hide ((unhide hDX4b).bw y5)
    have HNV6 := hide ((unhide HNV5).bw y5)
    obtain ⟨ra, rc, hre⟩ := own_slice hrv
    rw [List.length_map, ← unhide HM] at hre
    subst hre
    have HRV : Hid (Ints W5b.heap.size W6 (.slice ra M rc) (U.map (fun (x : Nat) => (x : Int)))) := hrv
    clear KD hDX4b hrv y5 p2 p3 HNV5
    go_wp2_with fail
    rename World => wo
    go_loopw [18] (fun iv wr => ∃ (j : Nat) (us' : List Value), iv = .int .i64 (j : Int) ∧ j ≤ M ∧ Hid (DX W0 wr nb g mn mc (onAll (fun _ => nd0) (U.take j) T1) us') ∧ Hid (Ints W5b.heap.size wr (.slice ra M rc) (U.map (fun (x : Nat) => (x : Int)))) ∧ Hid (Ints W0.heap.size wr (.slice na M2 nc) (pth T i))) (fun iv _ => (M - (intOf iv)).toNat)
    case atStart => exact ⟨0, us0, rfl, by omega, by rw [List.take_zero, onAll_nil]; exact hDX5, HRV, HNV6⟩
    case round =>
      clear HRV hDX5 HNV6
      obtain ⟨j, us', rfl, hjM, hDX, hRV, hNP⟩ := hrel
      by_cases hlt : j < M
      · obtain ⟨x, hx⟩ : ∃ x, U[j]? = some x := ⟨_, List.getElem?_eq_getElem (by have := unhide HM; omega)⟩
        have hxm : x ∈ U := List.mem_of_getElem? hx
        obtain ⟨gu, ou, cu, hue, hcu⟩ := (unhide hRV).nums.open (by simp; have := unhide HM; omega)
        rw [List.length_map, ← unhide HM] at hue
        cases hue
        have k1 : wr.cell? ⟨gu, ou + j, none⟩ = some (.int .i64 (x : Int)) := hcu j (x : Int) (by simp [hx])
        obtain ⟨t1, t2, t3, t4, t5⟩ := unhide HN1
        have ht5 := t5 x hxm
        have hTl : (onAll (fun _ => nd0) (U.take j) T1).length = mn := by rw [onAll_len, t1]
        have hsn : Hid (onAll (fun _ => nd0) (U.take (j + 1)) T1 = (onAll (fun _ => nd0) (U.take j) T1).set x nd0) := by
          unfold Hid; rw [List.take_add_one, hx]; show onAll _ (U.take j ++ [x]) _ = _; rw [onAll_snoc]
        have hxl : x < (onAll (fun _ => nd0) (U.take j) T1).length := by omega
        have bd : Below wr.heap.size wr wr.drew := (Below.refl _ _).drew
        have hDXd := (unhide hDX).bw bd
        obtain ⟨u2, hu2, ⟨e0, e1, e2, e3⟩, hfz⟩ := hDXd.at hxl
        have f0 := hfz (x * 4); have f1 := hfz (x * 4 + 1); have f2 := hfz (x * 4 + 2); have f3 := hfz (x * 4 + 3)
        obtain ⟨u2w, hu2w, ⟨e0w, e1w, e2w, e3w⟩, hfzw⟩ := (unhide hDX).at hxl
        have f0w := hfzw (x * 4); have f1w := hfzw (x * 4 + 1); have f2w := hfzw (x * 4 + 2); have f3w := hfzw (x * 4 + 3)
        have cN := (unhide hDX).cell
        have hgn : nb ≠ g := by rintro rfl; exact (unhide hDX).notin (by simp)
        have hgu : gu ≠ g := by
          rintro rfl
          exact own_apart (unhide hRV) (unhide hDX).tr.row (show (3 : Nat) ≠ 88 by decide) (k := gu) (own_blk (unhide hRV)) rfl
        have S0 : wr.drew.cell? ⟨nb, 0, none⟩ = some (.slice (some ⟨g, 0, none⟩) mn mc) ∧ wr.drew.cell? ⟨gu, ou + j, none⟩ = some (.int .i64 (x : Int)) := ⟨cN, k1⟩
        have S1 : ((((wr.drew.setCell ⟨g, x * 4, none⟩ (.int .i64 0)).setCell ⟨g, x * 4 + 1, none⟩ (.int .i64 0)).setCell ⟨g, x * 4 + 2, none⟩ (.int .i64 0)).setCell ⟨g, x * 4 + 3, none⟩ (.slice none 0 0)).cell? ⟨nb, 0, none⟩ = some (.slice (some ⟨g, 0, none⟩) mn mc) ∧ ((((wr.drew.setCell ⟨g, x * 4, none⟩ (.int .i64 0)).setCell ⟨g, x * 4 + 1, none⟩ (.int .i64 0)).setCell ⟨g, x * 4 + 2, none⟩ (.int .i64 0)).setCell ⟨g, x * 4 + 3, none⟩ (.slice none 0 0)).cell? ⟨gu, ou + j, none⟩ = some (.int .i64 (x : Int)) := by
          rw [cell_set_other hgn, cell_set_other hgn, cell_set_other hgn, cell_set_other hgn, cell_set_other hgu, cell_set_other hgu, cell_set_other hgu, cell_set_other hgu]; exact S0
        have hDX9 : Hid (DX W0 ((((wr.setCell ⟨g, x * 4, none⟩ (.int .i64 0)).setCell ⟨g, x * 4 + 1, none⟩ (.int .i64 0)).setCell ⟨g, x * 4 + 2, none⟩ (.int .i64 0)).setCell ⟨g, x * 4 + 3, none⟩ (.slice none 0 0)).drew nb g mn mc ((onAll (fun _ => nd0) (U.take j) T1).set x nd0) (us'.set x (.slice none 0 0))) := ((unhide hDX).set4 hxl nd0 rfl).bw ((Below.refl _ _).drew)
        have hRV9 : Hid (Ints W5b.heap.size ((((wr.setCell ⟨g, x * 4, none⟩ (.int .i64 0)).setCell ⟨g, x * 4 + 1, none⟩ (.int .i64 0)).setCell ⟨g, x * 4 + 2, none⟩ (.int .i64 0)).setCell ⟨g, x * 4 + 3, none⟩ (.slice none 0 0)).drew (.slice (some ⟨gu, ou, none⟩) M rc) (U.map (fun (x : Nat) => (x : Int)))) := by
          have h9 := unhide hRV
          exact (own_keep h9 (fun k hk => (fr_set4 wr g (x * 4) _ _ _ _).block k (World.ownsRow.lt h9 k hk).2 (by simp; rintro rfl; exact own_apart h9 (unhide hDX).tr.row (show (3 : Nat) ≠ 88 by decide) hk rfl))).drew
        have hNP9 : Hid (Ints W0.heap.size ((((wr.setCell ⟨g, x * 4, none⟩ (.int .i64 0)).setCell ⟨g, x * 4 + 1, none⟩ (.int .i64 0)).setCell ⟨g, x * 4 + 2, none⟩ (.int .i64 0)).setCell ⟨g, x * 4 + 3, none⟩ (.slice none 0 0)).drew (.slice na M2 nc) (pth T i)) := by
          have h9 := unhide hNP
          exact (own_keep h9 (fun k hk => (fr_set4 wr g (x * 4) _ _ _ _).block k (World.ownsRow.lt h9 k hk).2 (by simp; rintro rfl; exact own_apart h9 (unhide hDX).tr.row (show (3 : Nat) ≠ 88 by decide) hk rfl))).drew
        have q1 : (j : Int) < (M : Int) := by omega
        have q0 : (0 : Int) ≤ (j : Int) := by omega
        have p2 : (x : Int) < (mn : Int) := by omega
        have p3 : (0 : Int) ≤ (x : Int) := by omega
        have hM3 : (M : Int) ≤ 3 := by omega
        generalize onAll (fun _ => nd0) (U.take j) T1 = Tj at *
        clear hcu hx hxm t1 t2 t3 t4 t5 ht5 hTl hxl hfz hu2 hDX hRV hDXd bd hfzw hu2w hNP
        go_wp2_with fail
        first
        | go_region_held3 (fun w' : World => w'.cell? ⟨nb, 0, none⟩ = some (.slice (some ⟨g, 0, none⟩) mn mc) ∧ w'.cell? ⟨gu, ou + j, none⟩ = some (.int .i64 (x : Int))) (first | with_reducible exact S0 | exact S1) (fail)
        | fail
        all_goals
          go_wp2_with fail
          generalize ((((wr.setCell ⟨g, x * 4, none⟩ (.int .i64 0)).setCell ⟨g, x * 4 + 1, none⟩ (.int .i64 0)).setCell ⟨g, x * 4 + 2, none⟩ (.int .i64 0)).setCell ⟨g, x * 4 + 3, none⟩ (.slice none 0 0)).drew = W9 at *
          go_roundw
          case rel => exact ⟨j + 1, _, by go_num, by omega, by rw [unhide hsn]; exact hDX9, hRV9, hNP9⟩
          case measure => simp [intOf]; omega
      · obtain rfl : M = j := by omega
        have e9 : U.take M = U := List.take_of_length_le (by have := unhide HM; omega)
        rw [e9] at hDX
        obtain ⟨T2, hT2⟩ : ∃ T2, T2 = onAll (fun _ => nd0) U T1 := ⟨_, rfl⟩
        rw [← hT2] at hDX HSET
        have HT2 : Hid (T2.length = mn ∧ ∀ x ∈ U, x < mn ∧ ndAt T2 x = nd0) := by
          obtain ⟨t1, t2, t3, t4, t5⟩ := unhide HN1
          refine ⟨by rw [hT2, onAll_len, t1], fun x hx => ?_⟩
          have h5 := t5 x hx
          have hl : x < mn := by omega
          exact ⟨hl, by rw [hT2, ndAt_onAll _ _ _ _ t4, if_pos ⟨hx, by omega⟩]⟩
        clear hT2 hRV HN1 HM HD1 hlt e9
        go_wp2_with fail
        go_loopw [19] (fun iv wr2 => ∃ (j2 : Nat) (us2 : List Value), iv = .int .i64 (j2 : Int) ∧ j2 ≤ M2 ∧ Hid (DX W0 wr2 nb g mn mc (setPL T2 (((pth T i).zip ps).take j2)) us2) ∧ Hid (Ints W0.heap.size wr2 (.slice na M2 nc) (pth T i))) (fun iv _ => (M2 - (intOf iv)).toNat)
        case atStart => exact ⟨0, us', rfl, by omega, by rw [List.take_zero]; exact hDX, hNP⟩
        case round =>
          rename World => wz
          clear hDX hNP
          obtain ⟨j2, us2, rfl, hj2, hDX, hNP⟩ := hrel
          have hbz := (unhide hDX).bel
          by_cases hlt2 : j2 < M2
          · obtain ⟨y, hy⟩ : ∃ y, (pth T i)[j2]? = some y := ⟨_, List.getElem?_eq_getElem (by have := (unhide HM2).2; omega)⟩
            obtain ⟨p, hp⟩ : ∃ p, ps[j2]? = some p := ⟨_, List.getElem?_eq_getElem (by have := (unhide HM2).1; omega)⟩
            obtain ⟨x, rfl, hxU⟩ := unhide HPM y (List.mem_of_getElem? hy)
            obtain ⟨hxm, hx0⟩ := (unhide HT2).2 x hxU
            obtain ⟨gn, on, cn, hne, hcn⟩ := (unhide hNP).nums.open (by have := (unhide HM2).2; omega)
            rw [← (unhide HM2).2] at hne
            cases hne
            obtain ⟨gp, op, cp, hpe, hcp⟩ := (unhide HPV _ (unhide HB _ hbz).2.2).open (by have := (unhide HM2).1; omega)
            rw [← (unhide HM2).1] at hpe
            cases hpe
            have k1 : wz.cell? ⟨gn, on + j2, none⟩ = some (.int .i64 (x : Int)) := hcn j2 _ hy
            have k2 : wz.cell? ⟨gp, op + j2, none⟩ = some (.int .i64 p) := hcp j2 _ hp
            have hxl : x < (setPL T2 (((pth T i).zip ps).take j2)).length := by rw [setPL_len, (unhide HT2).1]; exact hxm
            have hsn : Hid (setPL T2 (((pth T i).zip ps).take (j2 + 1)) = (setPL T2 (((pth T i).zip ps).take j2)).set x ⟨p, 0, 0, []⟩) := by
              unfold Hid
              have ez : ((pth T i).zip ps)[j2]? = some ((x : Int), p) := by rw [List.getElem?_zip_eq_some]; exact ⟨hy, hp⟩
              rw [List.take_add_one, ez]
              have h1 := setPL_snoc T2 (((pth T i).zip ps).take j2) (x : Int) p
              obtain ⟨v1, v2, v3⟩ := setPL_keep T2 (((pth T i).zip ps).take j2) x
              rw [hx0] at v1 v2 v3
              rw [Int.toNat_natCast, v1, v2, v3] at h1
              exact h1
            have bd : Below wz.heap.size wz wz.drew := (Below.refl _ _).drew
            have hDXd := (unhide hDX).bw bd
            obtain ⟨u2, hu2, ⟨e0, e1, e2, e3⟩, hfz⟩ := hDXd.at hxl
            have f0 := hfz (x * 4); have f1 := hfz (x * 4 + 1); have f2 := hfz (x * 4 + 2); have f3 := hfz (x * 4 + 3)
            obtain ⟨u2w, hu2w, ⟨e0w, e1w, e2w, e3w⟩, hfzw⟩ := (unhide hDX).at hxl
            have f0w := hfzw (x * 4); have f1w := hfzw (x * 4 + 1); have f2w := hfzw (x * 4 + 2); have f3w := hfzw (x * 4 + 3)
            have cN := (unhide hDX).cell
            have hnbg : nb ≠ g := by rintro rfl; exact (unhide hDX).notin (by simp)
            have hng : gn ≠ g := by
              rintro rfl
              exact own_apart (unhide hNP) (unhide hDX).tr.row (show (3 : Nat) ≠ 88 by decide) (k := gn) (own_blk (unhide hNP)) rfl
            have hpg : gp ≠ g := by
              intro hc; subst hc
              obtain ⟨gp', op', cp', hpe', hcp'⟩ := (unhide HPV _ (Below.refl _ _)).open (by have := (unhide HM2).1; omega)
              cases hpe'
              have q2 := lt_of_cell (a := ⟨gp, op + j2, none⟩) (hcp' j2 _ hp)
              have q3 := ((unhide hDX).tr.blocksC gp (by simp)).1
              have q4 := unhide HS0
              simp at q2; omega
            have S0 : wz.drew.cell? ⟨nb, 0, none⟩ = some (.slice (some ⟨g, 0, none⟩) mn mc) ∧ wz.drew.cell? ⟨gn, on + j2, none⟩ = some (.int .i64 (x : Int)) ∧ wz.drew.cell? ⟨gp, op + j2, none⟩ = some (.int .i64 p) := ⟨cN, k1, k2⟩
            have S1 : ((((wz.drew.setCell ⟨g, x * 4, none⟩ (.int .i64 p)).setCell ⟨g, x * 4 + 1, none⟩ (.int .i64 0)).setCell ⟨g, x * 4 + 2, none⟩ (.int .i64 0)).setCell ⟨g, x * 4 + 3, none⟩ (.slice none 0 0)).cell? ⟨nb, 0, none⟩ = some (.slice (some ⟨g, 0, none⟩) mn mc) ∧ ((((wz.drew.setCell ⟨g, x * 4, none⟩ (.int .i64 p)).setCell ⟨g, x * 4 + 1, none⟩ (.int .i64 0)).setCell ⟨g, x * 4 + 2, none⟩ (.int .i64 0)).setCell ⟨g, x * 4 + 3, none⟩ (.slice none 0 0)).cell? ⟨gn, on + j2, none⟩ = some (.int .i64 (x : Int)) ∧ ((((wz.drew.setCell ⟨g, x * 4, none⟩ (.int .i64 p)).setCell ⟨g, x * 4 + 1, none⟩ (.int .i64 0)).setCell ⟨g, x * 4 + 2, none⟩ (.int .i64 0)).setCell ⟨g, x * 4 + 3, none⟩ (.slice none 0 0)).cell? ⟨gp, op + j2, none⟩ = some (.int .i64 p) := by
              rw [cell_set_other hnbg, cell_set_other hnbg, cell_set_other hnbg, cell_set_other hnbg, cell_set_other hng, cell_set_other hng, cell_set_other hng, cell_set_other hng, cell_set_other hpg, cell_set_other hpg, cell_set_other hpg, cell_set_other hpg]; exact S0
            have hDX9 : Hid (DX W0 ((((wz.setCell ⟨g, x * 4, none⟩ (.int .i64 p)).setCell ⟨g, x * 4 + 1, none⟩ (.int .i64 0)).setCell ⟨g, x * 4 + 2, none⟩ (.int .i64 0)).setCell ⟨g, x * 4 + 3, none⟩ (.slice none 0 0)).drew nb g mn mc ((setPL T2 (((pth T i).zip ps).take j2)).set x ⟨p, 0, 0, []⟩) (us2.set x (.slice none 0 0))) := ((unhide hDX).set4 hxl ⟨p, 0, 0, []⟩ rfl).bw ((Below.refl _ _).drew)
            have hNP9 : Hid (Ints W0.heap.size ((((wz.setCell ⟨g, x * 4, none⟩ (.int .i64 p)).setCell ⟨g, x * 4 + 1, none⟩ (.int .i64 0)).setCell ⟨g, x * 4 + 2, none⟩ (.int .i64 0)).setCell ⟨g, x * 4 + 3, none⟩ (.slice none 0 0)).drew (.slice (some ⟨gn, on, none⟩) M2 nc) (pth T i)) := by
              have h9 := unhide hNP
              exact (own_keep h9 (fun k hk => (fr_set4 wz g (x * 4) _ _ _ _).block k (World.ownsRow.lt h9 k hk).2 (by simp; rintro rfl; exact own_apart h9 (unhide hDX).tr.row (show (3 : Nat) ≠ 88 by decide) hk rfl))).drew
            have q1 : (j2 : Int) < (M2 : Int) := by omega
            have q0 : (0 : Int) ≤ (j2 : Int) := by omega
            have p2 : (x : Int) < (mn : Int) := by omega
            have p3 : (0 : Int) ≤ (x : Int) := by omega
            generalize setPL T2 (((pth T i).zip ps).take j2) = Tj at *
            clear hcn hcp hy hp hxU hxm hx0 hxl hfz hu2 hDX hNP hDXd bd hfzw hu2w hbz hng hpg hnbg
            go_wp2_with fail
            first
            | go_region_held3 (fun w' : World => w'.cell? ⟨nb, 0, none⟩ = some (.slice (some ⟨g, 0, none⟩) mn mc) ∧ w'.cell? ⟨gn, on + j2, none⟩ = some (.int .i64 (x : Int)) ∧ w'.cell? ⟨gp, op + j2, none⟩ = some (.int .i64 p)) (first | with_reducible exact S0 | exact S1) (fail)
            | fail
            all_goals
              go_wp2_with fail
              generalize ((((wz.setCell ⟨g, x * 4, none⟩ (.int .i64 p)).setCell ⟨g, x * 4 + 1, none⟩ (.int .i64 0)).setCell ⟨g, x * 4 + 2, none⟩ (.int .i64 0)).setCell ⟨g, x * 4 + 3, none⟩ (.slice none 0 0)).drew = W9 at *
              go_roundw
              case rel => exact ⟨j2 + 1, _, by go_num, by omega, by rw [unhide hsn]; exact hDX9, hNP9⟩
              case measure => simp [intOf]; omega
          · have e9 : ((pth T i).zip ps).take j2 = (pth T i).zip ps := List.take_of_length_le (by have := unhide HM2; simp; omega)
            rw [e9, ← unhide HSET] at hDX
            have cN := (unhide hDX).cell
            obtain ⟨-, ⟨-, cR, fR⟩, cW⟩ := unhide HB _ hbz
            have HS := unhide HS0
            have HF : Hid (OTr w.heap.size (wz.setCell ⟨w.heap.size + 1, 0, none⟩ (.slice (some ⟨g, 0, none⟩) mn mc)) (.slice (some ⟨g, 0, none⟩) mn mc) (setT T i ee pp ps) us2 ∧ Below w.heap.size w (wz.setCell ⟨w.heap.size + 1, 0, none⟩ (.slice (some ⟨g, 0, none⟩) mn mc))) :=
              ⟨((unhide hDX).tr.keepB (fun k hk => Below.heap_setCell _ _ _ _ (by simp; omega))).mono (by omega), cW.setCell (by simp) _⟩
            have cZ : (wz.setCell ⟨w.heap.size + 1, 0, none⟩ (.slice (some ⟨g, 0, none⟩) mn mc)).cell? ⟨w.heap.size + 1, 0, none⟩ = some (.slice (some ⟨g, 0, none⟩) mn mc) := cell_set_same cR _
            have hje : j2 = M2 := by omega
            subst hje
            clear hDX hNP HS cW e9 hlt2 hbz
            go_wp2_with fail
            generalize wz.setCell ⟨w.heap.size + 1, 0, none⟩ (.slice (some ⟨g, 0, none⟩) mn mc) = WZ at *
            exact bodyPost_ret (v := .tuple #[.agg #[(.slice (some ⟨g, 0, none⟩) mn mc)], .int .i64 0]) (by simp [results, Tryz.results33, go_sem, cZ]) rfl ⟨_, _, rfl, (unhide HF).1, (unhide HF).2⟩
end Go.Proofs.YtaanacnloljlmaaGreatDoor

/- The contracts of SetPath, the program's and the document's, whatever comes of it. -/
namespace Go.Proofs.YtaanacnloljlmaaGreatDoor
open Go.RowKit Go.Maps

def setR (T : List Nd) (i e p : Int) (ps : List Int) : List Nd := if setE T i e p ps = 0 then setT T i.toNat e p ps else []
theorem set_any {w : World} {v pv : Value} {T : List Nd} {ps : List Int} (h : Trd w v T) (hpv : Nums w pv ps) (hps : ps.length ≤ 1048576) (hT : Tab w) (li ee pp : Int) :
    Calls Tryz.prog 32 #[.agg #[v], .int .i64 li, .int .i64 ee, .int .i64 pp, pv] w fun e w' => ∃ r us, e = .returned (.tuple #[.agg #[r], .int .i64 (setE T li ee pp ps)]) ∧ OTr w.heap.size w' r (setR T li ee pp ps) us ∧ Below w.heap.size w w' := by
  by_cases hE : setE T li ee pp ps = 0
  · refine (set_ok h hpv hT li ee pp hE).mono ?_
    rintro e w' ⟨r, us, h1, h2, h3⟩
    refine ⟨r, us, ?_, ?_, h3⟩
    · rw [h1, hE]
    · unfold setR; rw [if_pos hE]; exact h2
  · refine (set_err h hpv hps hT li ee pp hE).mono ?_
    rintro e w' ⟨h1, h3⟩
    refine ⟨.slice none 0 0, [], ?_, ?_, h3⟩
    · rw [h1]
    · unfold setR; rw [if_neg hE]; exact otr_nil _ _
theorem rset_any {w : World} {v pv : Value} {T : List Nd} {ps : List Int} (h : Trd w v T) (hpv : Nums w pv ps) (hps : ps.length ≤ 1048576) (li ee pp : Int) :
    Calls Tryz.prog 33 #[.agg #[v], .int .i64 li, .int .i64 ee, .int .i64 pp, pv] w fun e w' => ∃ r us, e = .returned (.tuple #[.agg #[r], .int .i64 (setE T li ee pp ps)]) ∧ OTr w.heap.size w' r (setR T li ee pp ps) us ∧ Below w.heap.size w w' := by
  by_cases hE : setE T li ee pp ps = 0
  · refine (rset_ok h hpv li ee pp hE).mono ?_
    rintro e w' ⟨r, us, h1, h2, h3⟩
    refine ⟨r, us, ?_, ?_, h3⟩
    · rw [h1, hE]
    · unfold setR; rw [if_pos hE]; exact h2
  · refine (rset_err h hpv hps li ee pp hE).mono ?_
    rintro e w' ⟨h1, h3⟩
    refine ⟨.slice none 0 0, [], ?_, ?_, h3⟩
    · rw [h1]
    · unfold setR; rw [if_neg hE]; exact otr_nil _ _
end Go.Proofs.YtaanacnloljlmaaGreatDoor

/- Beyond of two numbers; how great a tree behind SetPath is. -/
namespace Go.Proofs.YtaanacnloljlmaaGreatDoor
open Go.RowKit Go.Maps

set_option maxRecDepth 100000 in
set_option maxHeartbeats 2000000 in
theorem beyond9 (b : Nat) (n m : Nat) (c : Nat) (w : World) (hn : n ≤ 1125899906842624) (hm : m ≤ 1125899906842624) (h0 : w.cell? ⟨b, 0, none⟩ = some (.int .i64 n)) (h1 : w.cell? ⟨b, 1, none⟩ = some (.int .i64 m)) :
    Calls Tryz.prog 6 #[.slice (some ⟨b, 0, none⟩) 2 c] w fun e w' => ∃ r, e = .returned (.bool r) ∧ (r = false → n ≤ 262144 ∧ m ≤ 262144) ∧ w' = w := by
  by_cases hb : 262144 < n
  · go_enter Tryz.func6, Tryz.ntmps6
    go_wp2
    refine wp_loop_rounds 1 ?_
    rw [rounds_succ]
    go_wp2
    go_ret
    exact ⟨_, rfl, (fun q => by cases q), rfl⟩
  by_cases hc : 262144 < m
  · go_enter Tryz.func6, Tryz.ntmps6
    go_wp2
    refine wp_loop_rounds 2 ?_
    rw [rounds_succ]
    go_wp2
    rw [rounds_succ]
    go_wp2
    go_ret
    exact ⟨_, rfl, (fun q => by cases q), rfl⟩
  by_cases hd : 262144 < n + m
  · have hd' : (262144 : Int) < (n : Int) + (m : Int) := by omega
    go_enter Tryz.func6, Tryz.ntmps6
    go_wp2
    refine wp_loop_rounds 2 ?_
    rw [rounds_succ]
    go_wp2
    rw [rounds_succ]
    go_wp2
    go_ret
    exact ⟨_, rfl, (fun q => by cases q), rfl⟩
  · have hd' : (n : Int) + (m : Int) ≤ 262144 := by omega
    go_enter Tryz.func6, Tryz.ntmps6
    go_wp2
    refine wp_loop_rounds 3 ?_
    rw [rounds_succ]
    go_wp2
    rw [rounds_succ]
    go_wp2
    rw [rounds_succ]
    go_wp2
    go_ret
    exact ⟨_, rfl, fun _ => ⟨by omega, by omega⟩, rfl⟩
theorem setE_ok {T : List Nd} {li ee pp : Int} {ps : List Int} (hE : setE T li ee pp ps = 0) : mayB T = true ∧ 0 ≤ ee ∧ 1 ≤ pp ∧ hasL T li = true ∧ ps.length = (pth T li.toNat).length ∧ ps.any (fun q => decide (q < 1)) = false := by
  unfold setE at hE
  split at hE
  · cases hE
  · rename_i hh
    simp only [not_or, Bool.not_eq_false] at hh
    split at hE
    · cases hE
    · rename_i h2
      split at hE
      · cases hE
      · rename_i h3
        simp only [not_or, Bool.not_eq_true] at h3
        exact ⟨hh.1, by omega, by omega, by simpa using h2, by omega, h3.2⟩
theorem setR_bnd (T : List Nd) (li e p : Int) (ps : List Int) : (setR T li e p ps).length ≤ 15 ∧ ∀ x ∈ setR T li e p ps, x.un.length ≤ 8 := by
  unfold setR; split
  · next h =>
    obtain ⟨qm, q1, q2, q3, q4, q5⟩ := setE_ok h
    have hli : 0 ≤ li := by
      apply Decidable.byContradiction; intro c; unfold hasL at q3; rw [decide_eq_false c] at q3; simp at q3
    obtain ⟨i, rfl⟩ : ∃ n : Nat, li = n := ⟨li.toNat, by omega⟩
    rw [Int.toNat_natCast] at *
    obtain ⟨hil, hpi⟩ := hasL_pos q3
    have ok := mayB_okn qm (nlv_pos (by omega))
    have e : setT T i e p ps = setPL (onAll (fun _ => nd0) (upN (nlv T) i) (T.set (2 * i) ⟨p, (ndAt T (2 * i)).mem, e, (ndAt T (2 * i)).un⟩)) ((pth T i).zip ps) := rfl
    rw [e]
    obtain ⟨g1, g2, g3, g4, g5⟩ := ok.wd.facts
    obtain ⟨d1, d2, d3, d4, d5, d6⟩ := up_of g1 hil
    have hun : ∀ y, (ndAt T y).un.length ≤ 8 := fun y => (un_ok qm y).2
    refine ⟨by rw [setPL_len, onAll_len, List.length_set]; exact g3, fun x hx => ?_⟩
    obtain ⟨k, hk⟩ := List.mem_iff_getElem?.1 hx
    have hlt := (List.getElem?_eq_some_iff.1 hk).1
    rw [ndAt_of hlt] at hk
    cases hk
    rw [(setPL_keep _ _ k).2.2, ndAt_onAll _ _ _ _ d4]
    split
    · simp [nd0]
    · rw [ndAt_set]
      split
      · exact hun (2 * i)
      · exact hun k
  · simp
end Go.Proofs.YtaanacnloljlmaaGreatDoor
