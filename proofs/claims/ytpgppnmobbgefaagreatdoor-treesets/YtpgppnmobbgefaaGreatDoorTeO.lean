/- The contract of the document's SetPath, refused. -/
import Derived.Test.YtpgppnmobbgefaaGreatDoorTeN
namespace Go.Proofs.YtpgppnmobbgefaaGreatDoor
open Go.RowKit Go.Maps

set_option maxRecDepth 100000 in
set_option maxHeartbeats 4000000 in
theorem rset_err {w : World} {v pv : Value} {T : List Nd} {ps : List Int} (h : Trd w v T) (hpv : Nums w pv ps) (hps : ps.length ≤ 1048576) (li ee pp : Int) (hE : setE T li ee pp ps ≠ 0) :
    Calls Tryz.prog 41 #[.agg #[v], .int .i64 li, .int .i64 ee, .int .i64 pp, pv] w fun e w' => e = .returned (.tuple #[.agg #[.slice none 0 0], .int .i64 (setE T li ee pp ps)]) ∧ Below w.heap.size w w' := by
  obtain ⟨W0, hW0⟩ : ∃ W0, W0 = (bxw w v).alloc (.cells #[.slice none 0 0] 24) := ⟨_, rfl⟩
  have hb0 : Below w.heap.size w W0 := by rw [hW0]; exact (bwA _ _).alloc (by simp) _
  have hs0 : W0.heap.size = w.heap.size + 2 := by rw [hW0]; simp
  have HB : Hid (∀ W, Below W0.heap.size W0 W → W.cell? ⟨w.heap.size, 0, none⟩ = some v ∧ (W.cell? ⟨w.heap.size + 1, 0, none⟩ = some (.slice none 0 0) ∧ W.frozen? ⟨w.heap.size + 1, 0, none⟩ = false ∧ (W.setCell ⟨w.heap.size + 1, 0, none⟩ (.slice none 0 0)).cell? ⟨w.heap.size + 1, 0, none⟩ = some (.slice none 0 0)) ∧ Below w.heap.size w W) := fun W hW => by
    have e0 : W.heap[w.heap.size]? = some (.cells #[v] 24 (0, 0)) := by
      rw [hW.block _ (by omega), hW0, Below.heap_alloc _ _ _ (by simp)]; exact heap_alloc_new _ _
    have e2 : W.heap[w.heap.size + 1]? = some (.cells #[.slice none 0 0] 24 (0, 0)) := by
      rw [hW.block _ (by omega), hW0]
      have := heap_alloc_new (bxw w v) (.cells #[.slice none 0 0] 24)
      simpa using this
    exact ⟨cell_of_blk e0 rfl, ⟨cell_of_blk e2 rfl, by simp [World.frozen?, e2], cell_set_same (cell_of_blk e2 rfl) _⟩, bw_tr hb0 hW⟩
  have KM : Hid (∀ W, Below w.heap.size w W → Calls Tryz.prog 15 #[.agg #[v]] W fun e w' => e = .returned (.int .i64 (if mayB T = true then 0 else 1)) ∧ Below W.heap.size W w') := fun W hW => rcheck_any (h.bw hW)
  have KH : Hid (mayB T = true → hasL T li = false → ∀ W, Below w.heap.size w W → Calls Tryz.prog 35 #[.agg #[v], .int .i64 li] W fun e w' => e = .returned (.tuple #[.slice none 0 0, .int .i64 7]) ∧ Below W.heap.size W w') := fun q q2 W hW => by
    have e7 : askE T li = 7 := by unfold askE; rw [if_neg (by simp [q]), if_pos q2]
    have := rpath_err (h.bw hW) li (by rw [e7]; decide)
    rw [e7] at this
    exact this
  have KP : Hid (mayB T = true → hasL T li = true → ∀ W, Below w.heap.size w W → Calls Tryz.prog 35 #[.agg #[v], .int .i64 li] W fun e w' => ∃ r, e = .returned (.tuple #[r, .int .i64 0]) ∧ Ints W.heap.size w' r (pth T li.toNat) ∧ Below W.heap.size W w') := fun q q2 W hW => by
    have e0 : askE T li = 0 := by unfold askE; rw [if_neg (by simp [q]), if_neg (by simp [q2])]
    have := rpath_any (h.bw hW) li
    rw [e0, if_pos rfl] at this
    exact this
  have KN : Hid (∀ W, Below w.heap.size w W → Nums W pv ps) := fun W hW => hpv.bw hW
  have HW : Hid (W0 = (w.alloc (.cells #[v] 24)).alloc (.cells #[.slice none 0 0] 24)) := hW0
  obtain ⟨pa, pc, rfl⟩ := nums_slice hpv
  obtain ⟨E, hEE⟩ : ∃ E, E = setE T li ee pp ps := ⟨_, rfl⟩
  rw [← hEE] at hE ⊢
  unfold setE at hEE
  obtain ⟨L, hL⟩ : ∃ L, L = (pth T li.toNat).length := ⟨_, rfl⟩
  rw [← hL] at hEE
  have HPL : Hid (L = (prs T li.toNat).length) := by unfold Hid; rw [hL]; unfold pth; rw [List.length_map]
  have HE := hide hEE
  have HE0 := hide hE
  have HBS : Hid (∀ W, Below W0.heap.size W0 W → Below w.heap.size w (W.setCell ⟨w.heap.size + 1, 0, none⟩ (.slice none 0 0))) := fun W hW => (unhide HB _ hW).2.2.setCell (by simp) _
  have hL3 : L ≤ 3 ∨ ¬ (mayB T = true ∧ hasL T li = true) := by
    by_cases c : mayB T = true ∧ hasL T li = true
    · left
      obtain ⟨q, q2⟩ := c
      have h0 : 0 ≤ li := by
        apply Decidable.byContradiction; intro c; unfold hasL at q2; rw [decide_eq_false c] at q2; simp at q2
      obtain ⟨n, rfl⟩ : ∃ n : Nat, li = n := ⟨li.toNat, by omega⟩
      obtain ⟨h1, h2⟩ := hasL_pos q2
      have ok := mayB_okn q (nlv_pos (by omega))
      obtain ⟨g1, -⟩ := ok.wd.facts
      have h3 := up_len g1 h1
      have h4 := prs_len T n
      have h5 := unhide HPL
      rw [Int.toNat_natCast] at h5
      omega
    · right; exact c
  have hpl : ((ps.length : Nat) : Int) ≤ 1048576 := by omega
  have HLP : Hid (L = (pth T li.toNat).length) := hL
  clear h hEE hE hW0 hs0 hpv hL hps
  generalize mayB T = p at *
  generalize hasL T li = q at *
  obtain ⟨an, han⟩ : ∃ an, an = ps.any fun q => decide (q < 1) := ⟨_, rfl⟩
  rw [← han] at HE
  have HAN := hide han
  clear han
  obtain ⟨PL, hPL⟩ : ∃ PL, PL = ps.length := ⟨_, rfl⟩
  rw [← hPL] at HE KN hpl ⊢
  have HPN := hide hPL
  clear hPL
  cases p
  · obtain rfl : E = 1 := by rw [unhide HE]; simp
    clear KH KP KN HE HPL hL3 HLP HAN HPN
    go_enter Tryz.func41, Tryz.ntmps41
    go_wp2_with fail
    rw [← unhide HW]
    refine (unhide KM _ hb0).mono ?_
    rintro e W1 ⟨rfl, b1⟩
    clear KM HW
    obtain ⟨-, ⟨c4, c5, c6⟩, -⟩ := unhide HB _ b1
    have c7 := unhide HBS _ b1
    clear HB HBS
    go_wp2
    generalize W1.setCell ⟨w.heap.size + 1, 0, none⟩ (.slice none 0 0) = WZ at *
    exact bodyPost_ret (v := .tuple #[.agg #[.slice none 0 0], .int .i64 1]) (by simp [results, Tryz.results41, go_sem, c6]) rfl ⟨rfl, c7⟩
  by_cases n1 : ee < 0
  · obtain rfl : E = 1 := by rw [unhide HE]; simp [n1]
    have n1' : decide (ee < 0) = true := decide_eq_true n1
    clear KH KP KN HE HPL hL3 HLP HAN HPN
    go_enter Tryz.func41, Tryz.ntmps41
    go_wp2_with fail
    rw [← unhide HW]
    refine (unhide KM _ hb0).mono ?_
    rintro e W1 ⟨rfl, b1⟩
    clear KM HW
    obtain ⟨-, ⟨c4, c5, c6⟩, -⟩ := unhide HB _ b1
    have c7 := unhide HBS _ b1
    clear HB HBS
    go_wp2
    generalize W1.setCell ⟨w.heap.size + 1, 0, none⟩ (.slice none 0 0) = WZ at *
    exact bodyPost_ret (v := .tuple #[.agg #[.slice none 0 0], .int .i64 1]) (by simp [results, Tryz.results41, go_sem, c6]) rfl ⟨rfl, c7⟩
  have n1' : decide (ee < 0) = false := decide_eq_false n1
  by_cases n2 : pp < 1
  · obtain rfl : E = 1 := by rw [unhide HE]; simp [n2]
    have n2' : decide (pp < 1) = true := decide_eq_true n2
    clear KH KP KN HE HPL hL3 HLP HAN HPN
    go_enter Tryz.func41, Tryz.ntmps41
    go_wp2_with fail
    rw [← unhide HW]
    refine (unhide KM _ hb0).mono ?_
    rintro e W1 ⟨rfl, b1⟩
    clear KM HW
    obtain ⟨-, ⟨c4, c5, c6⟩, -⟩ := unhide HB _ b1
    have c7 := unhide HBS _ b1
    clear HB HBS
    go_wp2
    generalize W1.setCell ⟨w.heap.size + 1, 0, none⟩ (.slice none 0 0) = WZ at *
    exact bodyPost_ret (v := .tuple #[.agg #[.slice none 0 0], .int .i64 1]) (by simp [results, Tryz.results41, go_sem, c6]) rfl ⟨rfl, c7⟩
  have n2' : decide (pp < 1) = false := decide_eq_false n2
  have HE2 : Hid (E = if q = false then 7 else if PL ≠ L ∨ an = true then 1 else 0) := by unfold Hid; rw [unhide HE, if_neg (by simp [n1, n2])]
  have KH1 := hide (unhide KH rfl)
  have KP1 := hide (unhide KP rfl)
  clear HE n1 n2 KH KP
  cases q
  · obtain rfl : E = 7 := by rw [unhide HE2]; simp
    have KH2 := hide (unhide KH1 rfl)
    clear KH1 KP1 KN HE2 HPL hL3 HLP HAN HPN
    go_enter Tryz.func41, Tryz.ntmps41
    go_wp2_with fail
    rw [← unhide HW]
    refine (unhide KM _ hb0).mono ?_
    rintro e W1 ⟨rfl, b1⟩
    clear KM HW
    obtain ⟨c0, -, hw1⟩ := unhide HB _ b1
    go_wp2_with fail
    refine (unhide KH2 _ hw1).mono ?_
    rintro e W2 ⟨rfl, b2⟩
    have b3 := bw_tr b1 b2
    clear c0 KH2 b1 b2 hw1
    obtain ⟨-, ⟨c4, c5, c6⟩, -⟩ := unhide HB _ b3
    have c7 := unhide HBS _ b3
    clear HB HBS
    go_wp2
    generalize W2.setCell ⟨w.heap.size + 1, 0, none⟩ (.slice none 0 0) = WZ at *
    exact bodyPost_ret (v := .tuple #[.agg #[.slice none 0 0], .int .i64 7]) (by simp [results, Tryz.results41, go_sem, c6]) rfl ⟨rfl, c7⟩
  have hL4 : L ≤ 3 := by rcases hL3 with c | c; exact c; exact absurd ⟨rfl, rfl⟩ c
  have KP2 := hide (unhide KP1 rfl)
  clear hL3 KP1 KH1
  by_cases n3 : PL = L
  · subst n3
    obtain rfl : an = true := by
      cases an
      · exact absurd (by rw [unhide HE2]; simp) (unhide HE0)
      · rfl
    obtain rfl : E = 1 := by rw [unhide HE2]; simp
    clear HE2 HE0
    go_enter Tryz.func41, Tryz.ntmps41
    go_wp2_with fail
    rw [← unhide HW]
    refine (unhide KM _ hb0).mono ?_
    rintro e W1 ⟨rfl, b1⟩
    clear KM HW
    obtain ⟨c0, -, hw1⟩ := unhide HB _ b1
    go_wp2_with fail
    refine (unhide KP2 _ hw1).mono ?_
    rintro e W4 ⟨nv, rfl, hNV, b4⟩
    have b5 := bw_tr b1 b4
    obtain ⟨na, nc, hne⟩ := own_slice hNV
    rw [← unhide HLP] at hne
    subst hne
    clear c0 KP2 b4 b1 hw1 hNV HPL HLP
    obtain ⟨-, ⟨c4, c5, c6⟩, hw5⟩ := unhide HB _ b5
    have c7 := unhide HBS _ b5
    have HNU := hide (unhide KN _ hw5)
    have hPL3 : (PL : Int) ≤ 3 := by omega
    clear HB HBS KN b5 hw5
    go_wp2_with fail
    go_loopw [14] (fun iv wr => ∃ j : Nat, iv = .int .i64 (j : Int) ∧ j ≤ PL ∧ Hid (∀ k q, k < j → ps[k]? = some q → ¬ q < 1) ∧ wr = W4) (fun iv _ => (PL - (intOf iv)).toNat)
    case atStart => exact ⟨0, rfl, by omega, fun k q hk => by omega, rfl⟩
    case round =>
      obtain ⟨j, rfl, hjP, hall, rfl⟩ := hrel
      by_cases hlt : j < PL
      · obtain ⟨z, hz⟩ : ∃ z, ps[j]? = some z := ⟨_, List.getElem?_eq_getElem (by have := unhide HPN; omega)⟩
        obtain ⟨gp, op, cp, hpe, hcp⟩ := (unhide HNU).open (by have := unhide HPN; omega)
        rw [← unhide HPN] at hpe
        cases hpe
        have k1 := hcp j z hz
        have q1 : (j : Int) < (PL : Int) := by omega
        have q0 : (0 : Int) ≤ (j : Int) := by omega
        by_cases hz1 : z < 1
        · have hz2 : decide (z < 1) = true := decide_eq_true hz1
          clear hcp hz hall HNU HAN HPN
          go_wp2
          generalize wr.setCell ⟨w.heap.size + 1, 0, none⟩ (.slice none 0 0) = WZ at *
          exact bodyPost_ret (v := .tuple #[.agg #[.slice none 0 0], .int .i64 1]) (by simp [results, Tryz.results41, go_sem, c6]) rfl ⟨rfl, c7⟩
        · have hz2 : decide (z < 1) = false := decide_eq_false hz1
          have hall2 : Hid (∀ k q, k < j + 1 → ps[k]? = some q → ¬ q < 1) := fun k q hk hq => by
            rcases Nat.lt_or_ge k j with c | c
            · exact unhide hall k q c hq
            · obtain rfl : k = j := by omega
              rw [hz] at hq; cases hq; exact hz1
          clear hcp hz hall HNU HAN HPN hz1
          go_wp2_with fail
          go_roundw
          case rel => exact ⟨j + 1, by go_num, by omega, hall2, trivial⟩
          case measure => simp [intOf]; omega
      · exfalso
        have ha := unhide HAN
        obtain ⟨q, hq, hq1⟩ := List.any_eq_true.1 ha.symm
        obtain ⟨k, hk⟩ := List.mem_iff_getElem?.1 hq
        have hkl := (List.getElem?_eq_some_iff.1 hk).1
        exact unhide hall k q (by have := unhide HPN; omega) hk (by simpa using hq1)
  · obtain rfl : E = 1 := by rw [unhide HE2]; simp [n3]
    have n4 : ((PL : Int) == (L : Int)) = false := beq_eq_false_iff_ne.2 (by omega)
    have n5 : decide ((PL : Int) = (L : Int)) = false := decide_eq_false (by omega)
    have n6 : ((PL : Int) != (L : Int)) = true := by simp [bne, n4]
    clear HE2 HE0 KN n3 HAN HPN
    go_enter Tryz.func41, Tryz.ntmps41
    go_wp2_with fail
    rw [← unhide HW]
    refine (unhide KM _ hb0).mono ?_
    rintro e W1 ⟨rfl, b1⟩
    clear KM HW
    obtain ⟨c0, -, hw1⟩ := unhide HB _ b1
    go_wp2_with fail
    refine (unhide KP2 _ hw1).mono ?_
    rintro e W4 ⟨nv, rfl, hNV, b4⟩
    have b5 := bw_tr b1 b4
    obtain ⟨na, nc, hne⟩ := own_slice hNV
    rw [← unhide HLP] at hne
    subst hne
    clear c0 KP2 b4 b1 hw1 hNV HPL HLP
    obtain ⟨-, ⟨c4, c5, c6⟩, -⟩ := unhide HB _ b5
    have c7 := unhide HBS _ b5
    clear HB HBS
    go_wp2
    generalize W4.setCell ⟨w.heap.size + 1, 0, none⟩ (.slice none 0 0) = WZ at *
    exact bodyPost_ret (v := .tuple #[.agg #[.slice none 0 0], .int .i64 1]) (by simp [results, Tryz.results41, go_sem, c6]) rfl ⟨rfl, c7⟩
end Go.Proofs.YtpgppnmobbgefaaGreatDoor
