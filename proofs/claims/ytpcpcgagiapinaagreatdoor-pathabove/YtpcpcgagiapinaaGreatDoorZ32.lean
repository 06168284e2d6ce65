/- Texts joined: PdA PdB PdD PdG PdI. -/
import Derived.Test.YtpcpcgagiapinaaGreatDoorZ31
import Derived.Test.YtpcpcgagiapinaaGreatDoorZ24
import Derived.Test.YtpcpcgagiapinaaGreatDoorZ03
import Derived.Test.YtpcpcgagiapinaaGreatDoorZ23
/- The contract of the document's Put. -/
namespace Go.Proofs.YtpcpcgagiapinaaGreatDoor.Tn.Pa
open Go.RowKit Go.Maps
def putS (k : Int × Int) (st : List (Int × Int) × Bool) (p : Int × Int) : List (Int × Int) × Bool :=
  let s1 := if (decide (k.1 ≤ p.1) && !st.2) = true then (st.1 ++ [k], true) else st
  if p.1 = k.1 then s1 else (s1.1 ++ [p], s1.2)
def putW (k : Int × Int) (l : List (Int × Int)) : List (Int × Int) × Bool := l.foldl (putS k) ([], false)
def putF (l : List (Int × Int)) (k : Int × Int) : List (Int × Int) := if (putW k l).2 = true then (putW k l).1 else (putW k l).1 ++ [k]
theorem putW_snoc (k : Int × Int) (l : List (Int × Int)) (p : Int × Int) : putW k (l ++ [p]) = putS k (putW k l) p := by simp [putW]
theorem putS_len (k : Int × Int) (st : List (Int × Int) × Bool) (p : Int × Int) : (putS k st p).1.length ≤ st.1.length + 2 := by
  unfold putS
  simp only
  split <;> split <;> simp
theorem putW_len0 (k : Int × Int) (l : List (Int × Int)) : ∀ st, (l.foldl (putS k) st).1.length ≤ st.1.length + 2 * l.length := by
  induction l with
  | nil => intro st; simp
  | cons p l ih => intro st; rw [List.foldl_cons]; have := ih (putS k st p); have := putS_len k st p; rw [List.length_cons]; omega
theorem putW_len (k : Int × Int) (l : List (Int × Int)) : (putW k l).1.length ≤ 2 * l.length := by have := putW_len0 k l ([], false); simpa [putW] using this
theorem EF.key {F : List Nat} {w W W5 : World} {kv v' : Value} {ks : List (Int × Int)} {x y : Int} {ob : Obj} {rs : List Res} (h : EF F w W (resW 71 2 kv ks.length (kysC ks) :: rs)) (hown : W5.ownsRow 0 71 2 v' (ks.length + 1) (kysC ks ++ [.int .i64 x, .int .i64 y])) (hg : (W.alloc ob).grownBy W5 kv.ownBlock) (hat : v'.ownBlock = kv.ownBlock ∨ v'.ownBlock = some (W.alloc ob).heap.size) :
    EF F w W5 (resW 71 2 v' (ks ++ [(x, y)]).length (kysC (ks ++ [(x, y)])) :: rs) := by
  rw [kysC_snoc, List.length_append]
  exact h.grow hown hg hat
set_option maxRecDepth 100000 in
set_option maxHeartbeats 4000000 in
theorem put_any {w : World} {kv : Value} {l : List (Int × Int)} (hk : Kfix (fun W => Below w.heap.size w W) kv l) (hl : l.length ≤ 1000) (n s : Int) :
    Calls Tryz.prog 57 #[kv, .agg #[.int .i64 n, .int .i64 s]] w fun e w' => ∃ rv, e = .returned rv ∧ EF [] w w' [resW 71 2 rv (putF l (n, s)).length (kysC (putF l (n, s)))] := by
  obtain ⟨i0, hi, hz0, hz1, hz2⟩ := info_parts infoKey
  obtain ⟨ka, kc, rfl, hka⟩ := hk
  obtain ⟨nk, hnk⟩ : ∃ nk, nk = l.length := ⟨_, rfl⟩
  rw [← hnk] at hka hl ⊢
  obtain ⟨res, hres⟩ : ∃ res, res = putF l (n, s) := ⟨_, rfl⟩
  rw [← hres]
  have HRES := hide hres
  clear hres
  obtain ⟨kb, hkb⟩ : ∃ kb, kb = w.heap.size := ⟨_, rfl⟩
  obtain ⟨w0, hw0⟩ : ∃ w0, w0 = w.alloc (.cells #[.int .i64 n, .int .i64 s] 71) := ⟨_, rfl⟩
  have E0 : EF [] w w0 [resW 71 2 nilV ([] : List (Int × Int)).length (kysC []), resC kb #[.int .i64 n, .int .i64 s] 71] := by
    rw [hw0, hkb]; exact ((EF.nil w).newC #[.int .i64 n, .int .i64 s] 71).nilW 71 2
  have HE0 := hide E0
  have HKA := hide hka
  have HN := hide (And.intro hnk hl)
  have HW := hide (And.intro hw0 hkb)
  have q0 : (nk : Int) ≤ 1000 := by omega
  have HC : Hid (∀ W rv ks, EF [] w W [resW 71 2 rv (List.length ks) (kysC ks), resC kb #[.int .i64 n, .int .i64 s] 71] → W.cell? ⟨kb, 0, none⟩ = some (.int .i64 n) ∧ W.cell? ⟨kb, 1, none⟩ = some (.int .i64 s)) := fun W rv ks h => by
    have h1 : W.heap[kb]? = some (.cells #[.int .i64 n, .int .i64 s] 71 (0, 0)) := h.nth 1 rfl
    exact ⟨blk_cell (i := 0) h1 rfl, blk_cell (i := 1) h1 rfl⟩
  clear hka hnk hl E0 hw0 hkb
  go_enter Tryz.func57, Tryz.ntmps57
  go_upto_region 1 with fail
  rw [← (unhide HW).1, ← (unhide HW).2]
  clear HW
  go_wp2_with fail
  go_loopw [5, 6, 7] (fun rv dv iv wr => ∃ i : Nat, iv = .int .i64 (i : Int) ∧ i ≤ nk ∧ dv = .bool (putW (n, s) (l.take i)).2 ∧ Hid (EF [] w wr [resW 71 2 rv (putW (n, s) (l.take i)).1.length (kysC (putW (n, s) (l.take i)).1), resC kb #[.int .i64 n, .int .i64 s] 71])) (fun _ _ iv _ => (nk - intOf iv).toNat)
  case atStart => exact ⟨0, rfl, by omega, rfl, HE0⟩
  case round =>
    clear HE0
    obtain ⟨i, rfl, hile, rfl, HR⟩ := hrel
    by_cases hlt : i < nk
    · obtain ⟨p, hp⟩ : ∃ p, l[i]? = some p := ⟨_, List.getElem?_eq_getElem (by have := (unhide HN).1; omega)⟩
      obtain ⟨g, o, hga, hgc⟩ := unhide HKA (by omega)
      subst hga
      have hf1 : putW (n, s) (l.take (i + 1)) = putS (n, s) (putW (n, s) (l.take i)) p := by rw [List.take_add_one, hp, ← putW_snoc]; rfl
      have hlen := putW_len (n, s) (l.take i)
      rw [List.length_take] at hlen
      obtain ⟨st, hst⟩ : ∃ st, st = putW (n, s) (l.take i) := ⟨_, rfl⟩
      rw [← hst] at HR hf1 hlen ⊢
      obtain ⟨ks, dn⟩ := st
      obtain ⟨p1, p2⟩ := p
      have HS : Hid (∀ W rv ks, EF [] w W [resW 71 2 rv (List.length ks) (kysC ks), resC kb #[.int .i64 n, .int .i64 s] 71] → W.cell? ⟨g, o + i * 2, none⟩ = some (.int .i64 p1) ∧ W.cell? ⟨g, o + i * 2 + 1, none⟩ = some (.int .i64 p2) ∧ W.cell? ⟨kb, 0, none⟩ = some (.int .i64 n) ∧ W.cell? ⟨kb, 1, none⟩ = some (.int .i64 s)) := fun W rv ks h => ⟨(hgc W h.toB i _ hp).1, (hgc W h.toB i _ hp).2, unhide HC W rv ks h⟩
      have hm : ks.length + 2 ≤ maxLen ∧ (ks.length + 2) * 16 ≤ 140737488355328 := by simp only at hlen; unfold maxLen; omega
      have HM := hide hm
      have HF := hide hf1
      have z1 : (i : Int) < (nk : Int) := by omega
      clear hgc hp hf1 hst hlen hm HC
      have S0 := unhide HS wr u5 ks (unhide HR)
      have HE := hide ((unhide HR).new (bw_drewA wr))
      have S1 := unhide HS wr.drew u5 ks (unhide HE)
      cases dn
      · by_cases hA : n ≤ p1
        · have a1 : decide (n ≤ p1) = true := decide_eq_true hA
          go_upto_region 6 with fail
          go_region_held3 (fun w' : World => w'.cell? ⟨g, o + i * 2, none⟩ = some (.int .i64 p1) ∧ w'.cell? ⟨g, o + i * 2 + 1, none⟩ = some (.int .i64 p2) ∧ w'.cell? ⟨kb, 0, none⟩ = some (.int .i64 n) ∧ w'.cell? ⟨kb, 1, none⟩ = some (.int .i64 s)) (first | with_reducible exact S0 | with_reducible exact S1 | go_keep) (fail)
          clear S0
          obtain ⟨-, -, d3, d4⟩ := S1
          go_upto_region 7 with fail
          have hrow : wr.drew.ownsRow 0 71 2 u5 (List.length ks) (kysC ks) := (unhide HE).hd
          go_wp2_with (at_builtin; refine wpList_append_own_at _ rfl (.tmp 26) (.tmp 28) 47 rfl 0 71 i0 (.agg #[.int .i64 0, .int .i64 0]) 2 16 Tryz.underlying47 hi hz0 hz1 hz2 rfl (by decide) u5 (List.length ks) (kysC ks) rfl (World.ownsRow.alloc hrow _) ⟨wr.drew.heap.size, 0, none⟩ 1 1 [_, _] rfl rfl (cells_new2 _ _ _ _) (one2 _ _) (by have := (unhide HM).1; simp at *; omega) (by have := (unhide HM).2; simp at *; omega) (Nat.zero_le _) ?nx)
          case nx =>
            intro v' w5 hown' hgrow _ hat
            have HE5 := hide ((unhide HE).key (x := n) (y := s) hown' hgrow (by simpa using hat))
            clear hown' hgrow hat hrow HE
            clear d3 d4
            have HE := HE5
            clear HE5
            obtain ⟨k2, hk2⟩ : ∃ k2, k2 = ks ++ [(n, s)] := ⟨_, rfl⟩
            rw [← hk2] at HE
            have HM : Hid (k2.length + 1 ≤ maxLen ∧ (k2.length + 1) * 16 ≤ 140737488355328) := by have := unhide HM; rw [hk2, List.length_append]; exact this
            have HK2 := hide hk2
            clear hk2
            have S0 := unhide HS w5 v' k2 (unhide HE)
            have HD := hide ((unhide HE).new (bw_drewA w5))
            have S1 := unhide HS w5.drew v' k2 (unhide HD)
            clear HE
            go_upto_region 9 with fail
            go_region_held3 (fun w' : World => w'.cell? ⟨g, o + i * 2, none⟩ = some (.int .i64 p1) ∧ w'.cell? ⟨g, o + i * 2 + 1, none⟩ = some (.int .i64 p2) ∧ w'.cell? ⟨kb, 0, none⟩ = some (.int .i64 n) ∧ w'.cell? ⟨kb, 1, none⟩ = some (.int .i64 s)) (first | with_reducible exact S0 | with_reducible exact S1 | go_keep) (fail)
            clear S0
            have HE := HD
            clear HD
            by_cases hB : p1 = n
            · have b1 : (p1 != n) = false := by simpa using hB
              have b2 : decide (p1 = n) = true := by simpa using hB
              clear S1
              have HX : Hid (EF [] w w5.drew [resW 71 2 v' (putW (n, s) (l.take (i + 1))).1.length (kysC (putW (n, s) (l.take (i + 1))).1), resC kb #[.int .i64 n, .int .i64 s] 71] ∧ (putW (n, s) (l.take (i + 1))).2 = true) := by
                unfold Hid
                rw [unhide HF]
                unfold putS
                simp only [a1, Bool.not_false, Bool.and_true, if_true, if_pos hB]
                exact ⟨(by have q := unhide HE; rw [unhide HK2] at q; exact q), by first | rfl | trivial⟩
              clear HF HE HM
              go_wp2_with fail
              go_roundw
              case rel => exact ⟨i + 1, by go_num, by omega, by rw [(unhide HX).2], (unhide HX).1⟩
              case measure => simp only [intOf]; omega
            · have b1 : (p1 != n) = true := by simpa using hB
              have b2 : decide (p1 = n) = false := by simpa using hB
              obtain ⟨d1, d2, -, -⟩ := S1
              go_upto_region 10 with fail
              have hrow : w5.drew.ownsRow 0 71 2 v' (List.length k2) (kysC k2) := (unhide HE).hd
              go_wp2_with (at_builtin; refine wpList_append_own_at _ rfl (.tmp 38) (.tmp 43) 47 rfl 0 71 i0 (.agg #[.int .i64 0, .int .i64 0]) 2 16 Tryz.underlying47 hi hz0 hz1 hz2 rfl (by decide) v' (List.length k2) (kysC k2) rfl (World.ownsRow.alloc hrow _) ⟨w5.drew.heap.size, 0, none⟩ 1 1 [_, _] rfl rfl (cells_new2 _ _ _ _) (one2 _ _) (by have := (unhide HM).1; simp at *; omega) (by have := (unhide HM).2; simp at *; omega) (Nat.zero_le _) ?nx)
              case nx =>
                intro v' w5 hown' hgrow _ hat
                have HE5 := hide ((unhide HE).key (x := p1) (y := p2) hown' hgrow (by simpa using hat))
                clear hown' hgrow hat hrow HE
                have HE := HE5
                clear HE5 d1 d2
                have HX : Hid (EF [] w w5 [resW 71 2 v' (putW (n, s) (l.take (i + 1))).1.length (kysC (putW (n, s) (l.take (i + 1))).1), resC kb #[.int .i64 n, .int .i64 s] 71] ∧ (putW (n, s) (l.take (i + 1))).2 = true) := by
                  unfold Hid
                  rw [unhide HF]
                  unfold putS
                  simp only [a1, Bool.not_false, Bool.and_true, if_true, if_neg hB]
                  exact ⟨(by have q := unhide HE; rw [unhide HK2] at q; exact q), by first | rfl | trivial⟩
                clear HF HE HM
                go_wp2_with fail
                go_roundw
                case rel => exact ⟨i + 1, by go_num, by omega, by rw [(unhide HX).2], (unhide HX).1⟩
                case measure => simp only [intOf]; omega
        · have a1 : decide (n ≤ p1) = false := decide_eq_false hA
          clear HE
          go_upto_region 6 with fail
          obtain ⟨d1, d2, d3, d4⟩ := S0
          have HQ : Hid (∀ m, EF [] w (wr.drewN m) [resW 71 2 u5 (List.length ks) (kysC ks), resC kb #[.int .i64 n, .int .i64 s] 71]) := fun m => (unhide HR).drewN m
          go_quiet (fail)
          obtain ⟨V, hV⟩ : ∃ V, V = wr.drewN nq := ⟨_, rfl⟩
          rw [← hV]
          have HE : Hid (EF [] w V [resW 71 2 u5 (List.length ks) (kysC ks), resC kb #[.int .i64 n, .int .i64 s] 71]) := by rw [hV]; exact unhide HQ nq
          clear S1 hV HQ d1 d2 d3 d4
          have S0 := unhide HS V u5 ks (unhide HE)
          have HD := hide ((unhide HE).new (bw_drewA V))
          have S1 := unhide HS V.drew u5 ks (unhide HD)
          clear HE
          go_upto_region 9 with fail
          go_region_held3 (fun w' : World => w'.cell? ⟨g, o + i * 2, none⟩ = some (.int .i64 p1) ∧ w'.cell? ⟨g, o + i * 2 + 1, none⟩ = some (.int .i64 p2) ∧ w'.cell? ⟨kb, 0, none⟩ = some (.int .i64 n) ∧ w'.cell? ⟨kb, 1, none⟩ = some (.int .i64 s)) (first | with_reducible exact S0 | with_reducible exact S1 | go_keep) (fail)
          clear S0
          have HE := HD
          clear HD
          by_cases hB : p1 = n
          · exact absurd (show n ≤ p1 by omega) hA
          · have b1 : (p1 != n) = true := by simpa using hB
            have b2 : decide (p1 = n) = false := by simpa using hB
            obtain ⟨d1, d2, -, -⟩ := S1
            go_upto_region 10 with fail
            have hrow : V.drew.ownsRow 0 71 2 u5 (List.length ks) (kysC ks) := (unhide HE).hd
            go_wp2_with (at_builtin; refine wpList_append_own_at _ rfl (.tmp 38) (.tmp 43) 47 rfl 0 71 i0 (.agg #[.int .i64 0, .int .i64 0]) 2 16 Tryz.underlying47 hi hz0 hz1 hz2 rfl (by decide) u5 (List.length ks) (kysC ks) rfl (World.ownsRow.alloc hrow _) ⟨V.drew.heap.size, 0, none⟩ 1 1 [_, _] rfl rfl (cells_new2 _ _ _ _) (one2 _ _) (by have := (unhide HM).1; simp at *; omega) (by have := (unhide HM).2; simp at *; omega) (Nat.zero_le _) ?nx)
            case nx =>
              intro v' w5 hown' hgrow _ hat
              have HE5 := hide ((unhide HE).key (x := p1) (y := p2) hown' hgrow (by simpa using hat))
              clear hown' hgrow hat hrow HE
              have HE := HE5
              clear HE5 d1 d2
              have HX : Hid (EF [] w w5 [resW 71 2 v' (putW (n, s) (l.take (i + 1))).1.length (kysC (putW (n, s) (l.take (i + 1))).1), resC kb #[.int .i64 n, .int .i64 s] 71] ∧ (putW (n, s) (l.take (i + 1))).2 = false) := by
                unfold Hid
                rw [unhide HF]
                unfold putS
                simp only [a1, Bool.false_and, Bool.false_eq_true, if_false, if_neg hB]
                exact ⟨unhide HE, by first | rfl | trivial⟩
              clear HF HE HM
              go_wp2_with fail
              go_roundw
              case rel => exact ⟨i + 1, by go_num, by omega, by rw [(unhide HX).2], (unhide HX).1⟩
              case measure => simp only [intOf]; omega
      · by_cases hA : n ≤ p1
        · have a1 : decide (n ≤ p1) = true := decide_eq_true hA
          go_upto_region 6 with fail
          go_region_held3 (fun w' : World => w'.cell? ⟨g, o + i * 2, none⟩ = some (.int .i64 p1) ∧ w'.cell? ⟨g, o + i * 2 + 1, none⟩ = some (.int .i64 p2) ∧ w'.cell? ⟨kb, 0, none⟩ = some (.int .i64 n) ∧ w'.cell? ⟨kb, 1, none⟩ = some (.int .i64 s)) (first | with_reducible exact S0 | with_reducible exact S1 | go_keep) (fail)
          clear S0 S1
          have S0 := unhide HS wr.drew u5 ks (unhide HE)
          have HD := hide ((unhide HE).new (bw_drewA wr.drew))
          have S1 := unhide HS wr.drew.drew u5 ks (unhide HD)
          clear HE
          go_upto_region 9 with fail
          go_region_held3 (fun w' : World => w'.cell? ⟨g, o + i * 2, none⟩ = some (.int .i64 p1) ∧ w'.cell? ⟨g, o + i * 2 + 1, none⟩ = some (.int .i64 p2) ∧ w'.cell? ⟨kb, 0, none⟩ = some (.int .i64 n) ∧ w'.cell? ⟨kb, 1, none⟩ = some (.int .i64 s)) (first | with_reducible exact S0 | with_reducible exact S1 | go_keep) (fail)
          clear S0
          have HE := HD
          clear HD
          by_cases hB : p1 = n
          · have b1 : (p1 != n) = false := by simpa using hB
            have b2 : decide (p1 = n) = true := by simpa using hB
            clear S1
            have HX : Hid (EF [] w wr.drew.drew [resW 71 2 u5 (putW (n, s) (l.take (i + 1))).1.length (kysC (putW (n, s) (l.take (i + 1))).1), resC kb #[.int .i64 n, .int .i64 s] 71] ∧ (putW (n, s) (l.take (i + 1))).2 = true) := by
              unfold Hid
              rw [unhide HF]
              unfold putS
              simp only [Bool.not_true, Bool.and_false, Bool.false_eq_true, if_false, if_pos hB]
              exact ⟨unhide HE, by first | rfl | trivial⟩
            clear HF HE HM
            go_wp2_with fail
            go_roundw
            case rel => exact ⟨i + 1, by go_num, by omega, by rw [(unhide HX).2], (unhide HX).1⟩
            case measure => simp only [intOf]; omega
          · have b1 : (p1 != n) = true := by simpa using hB
            have b2 : decide (p1 = n) = false := by simpa using hB
            obtain ⟨d1, d2, -, -⟩ := S1
            go_upto_region 10 with fail
            have hrow : wr.drew.drew.ownsRow 0 71 2 u5 (List.length ks) (kysC ks) := (unhide HE).hd
            go_wp2_with (at_builtin; refine wpList_append_own_at _ rfl (.tmp 38) (.tmp 43) 47 rfl 0 71 i0 (.agg #[.int .i64 0, .int .i64 0]) 2 16 Tryz.underlying47 hi hz0 hz1 hz2 rfl (by decide) u5 (List.length ks) (kysC ks) rfl (World.ownsRow.alloc hrow _) ⟨wr.drew.drew.heap.size, 0, none⟩ 1 1 [_, _] rfl rfl (cells_new2 _ _ _ _) (one2 _ _) (by have := (unhide HM).1; simp at *; omega) (by have := (unhide HM).2; simp at *; omega) (Nat.zero_le _) ?nx)
            case nx =>
              intro v' w5 hown' hgrow _ hat
              have HE5 := hide ((unhide HE).key (x := p1) (y := p2) hown' hgrow (by simpa using hat))
              clear hown' hgrow hat hrow HE
              have HE := HE5
              clear HE5 d1 d2
              have HX : Hid (EF [] w w5 [resW 71 2 v' (putW (n, s) (l.take (i + 1))).1.length (kysC (putW (n, s) (l.take (i + 1))).1), resC kb #[.int .i64 n, .int .i64 s] 71] ∧ (putW (n, s) (l.take (i + 1))).2 = true) := by
                unfold Hid
                rw [unhide HF]
                unfold putS
                simp only [Bool.not_true, Bool.and_false, Bool.false_eq_true, if_false, if_neg hB]
                exact ⟨unhide HE, by first | rfl | trivial⟩
              clear HF HE HM
              go_wp2_with fail
              go_roundw
              case rel => exact ⟨i + 1, by go_num, by omega, by rw [(unhide HX).2], (unhide HX).1⟩
              case measure => simp only [intOf]; omega
        · have a1 : decide (n ≤ p1) = false := decide_eq_false hA
          clear HE
          go_upto_region 6 with fail
          obtain ⟨d1, d2, d3, d4⟩ := S0
          have HQ : Hid (∀ m, EF [] w (wr.drewN m) [resW 71 2 u5 (List.length ks) (kysC ks), resC kb #[.int .i64 n, .int .i64 s] 71]) := fun m => (unhide HR).drewN m
          go_quiet (fail)
          obtain ⟨V, hV⟩ : ∃ V, V = wr.drewN nq := ⟨_, rfl⟩
          rw [← hV]
          have HE : Hid (EF [] w V [resW 71 2 u5 (List.length ks) (kysC ks), resC kb #[.int .i64 n, .int .i64 s] 71]) := by rw [hV]; exact unhide HQ nq
          clear S1 hV HQ d1 d2 d3 d4
          have S0 := unhide HS V u5 ks (unhide HE)
          have HD := hide ((unhide HE).new (bw_drewA V))
          have S1 := unhide HS V.drew u5 ks (unhide HD)
          clear HE
          go_upto_region 9 with fail
          go_region_held3 (fun w' : World => w'.cell? ⟨g, o + i * 2, none⟩ = some (.int .i64 p1) ∧ w'.cell? ⟨g, o + i * 2 + 1, none⟩ = some (.int .i64 p2) ∧ w'.cell? ⟨kb, 0, none⟩ = some (.int .i64 n) ∧ w'.cell? ⟨kb, 1, none⟩ = some (.int .i64 s)) (first | with_reducible exact S0 | with_reducible exact S1 | go_keep) (fail)
          clear S0
          have HE := HD
          clear HD
          by_cases hB : p1 = n
          · exact absurd (show n ≤ p1 by omega) hA
          · have b1 : (p1 != n) = true := by simpa using hB
            have b2 : decide (p1 = n) = false := by simpa using hB
            obtain ⟨d1, d2, -, -⟩ := S1
            go_upto_region 10 with fail
            have hrow : V.drew.ownsRow 0 71 2 u5 (List.length ks) (kysC ks) := (unhide HE).hd
            go_wp2_with (at_builtin; refine wpList_append_own_at _ rfl (.tmp 38) (.tmp 43) 47 rfl 0 71 i0 (.agg #[.int .i64 0, .int .i64 0]) 2 16 Tryz.underlying47 hi hz0 hz1 hz2 rfl (by decide) u5 (List.length ks) (kysC ks) rfl (World.ownsRow.alloc hrow _) ⟨V.drew.heap.size, 0, none⟩ 1 1 [_, _] rfl rfl (cells_new2 _ _ _ _) (one2 _ _) (by have := (unhide HM).1; simp at *; omega) (by have := (unhide HM).2; simp at *; omega) (Nat.zero_le _) ?nx)
            case nx =>
              intro v' w5 hown' hgrow _ hat
              have HE5 := hide ((unhide HE).key (x := p1) (y := p2) hown' hgrow (by simpa using hat))
              clear hown' hgrow hat hrow HE
              have HE := HE5
              clear HE5 d1 d2
              have HX : Hid (EF [] w w5 [resW 71 2 v' (putW (n, s) (l.take (i + 1))).1.length (kysC (putW (n, s) (l.take (i + 1))).1), resC kb #[.int .i64 n, .int .i64 s] 71] ∧ (putW (n, s) (l.take (i + 1))).2 = true) := by
                unfold Hid
                rw [unhide HF]
                unfold putS
                simp only [Bool.not_true, Bool.and_false, Bool.false_eq_true, if_false, if_neg hB]
                exact ⟨unhide HE, by first | rfl | trivial⟩
              clear HF HE HM
              go_wp2_with fail
              go_roundw
              case rel => exact ⟨i + 1, by go_num, by omega, by rw [(unhide HX).2], (unhide HX).1⟩
              case measure => simp only [intOf]; omega
    · obtain rfl : i = nk := by omega
      have hT : l.take i = l := by rw [(unhide HN).1, List.take_length]
      rw [hT] at HR ⊢
      have hlen := putW_len (n, s) l
      have HPF : Hid (res = if (putW (n, s) l).2 = true then (putW (n, s) l).1 else (putW (n, s) l).1 ++ [(n, s)]) := unhide HRES
      obtain ⟨st, hst⟩ : ∃ st, st = putW (n, s) l := ⟨_, rfl⟩
      rw [← hst] at HR HPF hlen ⊢
      obtain ⟨ks, dn⟩ := st
      simp only at HR HPF hlen ⊢
      have HM : Hid (ks.length + 2 ≤ maxLen ∧ (ks.length + 2) * 16 ≤ 140737488355328) := by have := (unhide HN).2; have := (unhide HN).1; unfold Hid maxLen; omega
      have z1 : decide ((i : Int) < (i : Int)) = false := by simp
      have HE := HR
      obtain ⟨d3, d4⟩ := unhide HC wr u5 ks (unhide HE)
      clear HR hst hlen hT hlt hile HKA HC HRES
      cases dn
      · obtain rfl : res = ks ++ [(n, s)] := unhide HPF
        clear HPF
        go_upto_region 12 with fail
        have hrow : wr.ownsRow 0 71 2 u5 (List.length ks) (kysC ks) := (unhide HE).hd
        go_wp2_with (at_builtin; refine wpList_append_own_at _ rfl (.tmp 47) (.tmp 49) 47 rfl 0 71 i0 (.agg #[.int .i64 0, .int .i64 0]) 2 16 Tryz.underlying47 hi hz0 hz1 hz2 rfl (by decide) u5 (List.length ks) (kysC ks) rfl (World.ownsRow.alloc hrow _) ⟨wr.heap.size, 0, none⟩ 1 1 [_, _] rfl rfl (cells_new2 _ _ _ _) (one2 _ _) (by have := (unhide HM).1; simp at *; omega) (by have := (unhide HM).2; simp at *; omega) (Nat.zero_le _) ?nx)
        case nx =>
          intro v' w5 hown' hgrow _ hat
          have HE5 := hide ((unhide HE).key (x := n) (y := s) hown' hgrow (by simpa using hat))
          clear hown' hgrow hat hrow HE
          have HF := hide ((unhide HE5).up 1 rfl).drop
          clear HE5 d3 d4
          go_wp2_with fail
          go_ret
          exact ⟨_, rfl, unhide HF⟩
      · obtain rfl : res = ks := unhide HPF
        have HF := hide ((unhide HE).up 1 rfl).drop
        clear HPF HE HM d3 d4
        go_wp2_with fail
        go_ret
        exact ⟨_, rfl, unhide HF⟩
end Go.Proofs.YtpcpcgagiapinaaGreatDoor.Tn.Pa

/- The contracts of the document's over and of Map.Keys. -/
namespace Go.Proofs.YtpcpcgagiapinaaGreatDoor.Tn.Pa
open Go.RowKit Go.Maps
set_option maxRecDepth 100000 in
set_option maxHeartbeats 4000000 in
theorem over_any {w : World} {v : Value} {T : List Nd} (h : Trd w v T) (hm : mayB T = true) (x : Nat) (hx : x < T.length) :
    Calls Tryz.prog 56 #[.agg #[v], .int .i64 (x : Int)] w fun e w' => ∃ r, e = .returned r ∧ EF [] w w' [resI r (ov T (x : Int))] := by
  obtain ⟨i0, hi, hz0, hz1, hz2⟩ := info_parts Tryz.infoInt
  have ok := mayB_okn hm (by omega)
  obtain ⟨hd1, hd2⟩ := dir_in ok hx
  have h15 := (mayB_15 hm).1
  obtain ⟨d, hd⟩ : ∃ d, d = dir (x : Int) (nlv T : Nat) := ⟨_, rfl⟩
  have hov : ov T (x : Int) = ovL T d := by unfold ov; rw [hd]
  rw [hov]
  rw [← hd] at hd1 hd2
  obtain ⟨a, c, rfl⟩ := h.slice
  obtain ⟨N, hN⟩ : ∃ N, N = T.length := ⟨_, rfl⟩
  obtain ⟨-, hat⟩ := h.at
  obtain ⟨g, o, hga, hc⟩ := hat (by omega)
  obtain ⟨tb, htb⟩ : ∃ tb, tb = w.heap.size := ⟨_, rfl⟩
  obtain ⟨w0, hw0⟩ : ∃ w0, w0 = w.alloc (.cells #[.slice a N c] 44) := ⟨_, rfl⟩
  have E0 : EF [] w w0 [resC tb #[.slice a N c] 44] := by rw [hw0, htb]; exact (EF.nil w).newC #[.slice a N c] 44
  obtain ⟨nl, hnl⟩ : ∃ nl, nl = nlv T := ⟨_, rfl⟩
  have KS : Hid (Calls Tryz.prog 77 #[.agg #[.slice a N c]] w0 fun e w' => e = .returned (.int .i64 (nl : Nat)) ∧ Below w0.heap.size w0 w') := by
    have := Go.Proofs.YtpcpcgagiapinaaGreatDoor.rsize_any (h.bw E0.toB)
    rw [if_pos hm, ← hN, ← hnl] at this
    exact this
  have KD : Hid (∀ W, Calls Tryz.prog 76 #[.int .i64 (x : Int), .int .i64 (nl : Nat)] W fun e w' => ∃ v, e = .returned v ∧ Ints W.heap.size w' v d ∧ Below W.heap.size W w') := fun W => by
    rw [hd, hnl]; exact Go.Proofs.YtpcpcgagiapinaaGreatDoor.rdirect_any (x : Int) (nlv T : Nat) W
  have HC : Hid (∀ W, Below w.heap.size w W → ∀ y, y < N → W.cell? ⟨g, o + y * 4, none⟩ = some (.int .i64 (ndAt T y).pub)) := fun W hW y hy => by
    obtain ⟨u, h1, _⟩ := hc W hW y (by omega)
    exact h1.c0
  have HD := hide (And.intro hd1 hd2)
  have HN := hide hN
  have HE0 := hide E0
  have HW := hide (And.intro hw0 htb)
  have c0 := blk_cell (i := 0) (show w0.heap[tb]? = some (.cells #[.slice a N c] 44 (0, 0)) from E0.hd) rfl
  have hNb : (N : Int) ≤ 15 := by omega
  rw [← hN]
  subst hga
  clear h hm hx ok hd1 hd2 h15 hd hov hN hat hc htb hw0 E0 hnl
  go_enter Tryz.func56, Tryz.ntmps56
  go_upto_region 1 with fail
  rw [← (unhide HW).1, ← (unhide HW).2]
  clear HW
  go_wp2_with fail
  refine (unhide KS).mono ?_
  rintro e w1 ⟨rfl, b1⟩
  have HE1 := hide ((unhide HE0).new b1)
  have K1 := hide (unhide KD w1)
  clear KS KD b1 HE0 c0
  go_wp2_with fail
  refine (unhide K1).mono ?_
  rintro e w2 ⟨dv, rfl, hdv, b2⟩
  obtain ⟨da, dc, hde⟩ := own_slice hdv
  subst hde
  obtain ⟨M, hM⟩ : ∃ M, M = d.length := ⟨_, rfl⟩
  have E2 : EF [] w w2 [resI nilV (ovL T (d.take 0)), resW 3 1 (.slice da M dc) M (d.map I64), resC tb #[.slice (some ⟨g, o, none⟩) N c] 44] := by
    rw [hM]
    exact ((unhide HE1).add (resI (.slice da d.length dc) d) b2 (own_base hdv (Nat.zero_le _)) (fun x hx => (World.ownsRow.lt hdv x (by simpa [resW] using hx)).1)).nilW 3 1
  rw [← hM]
  have HE2 := hide E2
  have HM := hide hM
  have hMb : (M : Int) ≤ 3 := by have := (unhide HD).2; omega
  clear K1 HE1 hdv b2 E2 hM
  go_wp2_with fail
  go_loopw [6, 7] (fun lv iv wr => ∃ k : Nat, iv = .int .i64 (k : Int) ∧ k ≤ M ∧ Hid (EF [] w wr [resI lv (ovL T (d.take k)), resW 3 1 (.slice da M dc) M (d.map I64), resC tb #[.slice (some ⟨g, o, none⟩) N c] 44])) (fun _ iv _ => (M - intOf iv).toNat)
  case atStart => exact ⟨0, rfl, by omega, HE2⟩
  case round =>
    clear HE2
    obtain ⟨k, rfl, hk, HR⟩ := hrel
    by_cases hlt : k < M
    · obtain ⟨y0, hy0⟩ : ∃ y, d[k]? = some y := ⟨_, List.getElem?_eq_getElem (by have := unhide HM; omega)⟩
      obtain ⟨y, rfl, hyl⟩ := (unhide HD).1 y0 (List.mem_of_getElem? hy0)
      have hrow : wr.ownsRow 0 3 1 (.slice da M dc) M (d.map I64) := (unhide HR).nth 1 rfl
      obtain ⟨dg, cp, hde, -⟩ := own_open hrow (by omega)
      simp only [Value.slice.injEq] at hde
      obtain ⟨rfl, -, -⟩ := hde
      obtain ⟨P, hP⟩ : ∃ P, P = (ndAt T y).pub := ⟨_, rfl⟩
      have HS : Hid (∀ W lv l, EF [] w W [resI lv l, resW 3 1 (.slice (some ⟨dg, 0, none⟩) M dc) M (d.map I64), resC tb #[.slice (some ⟨g, o, none⟩) N c] 44] → W.cell? ⟨tb, 0, none⟩ = some (.slice (some ⟨g, o, none⟩) N c) ∧ W.cell? ⟨dg, k, none⟩ = some (.int .i64 (y : Int)) ∧ W.cell? ⟨g, o + y * 4, none⟩ = some (.int .i64 P)) := fun W lv l hW => by
        have h1 : W.heap[tb]? = some (.cells #[.slice (some ⟨g, o, none⟩) N c] 44 (0, 0)) := hW.nth 2 rfl
        have h2 : W.ownsRow 0 3 1 (.slice (some ⟨dg, 0, none⟩) M dc) M (d.map I64) := hW.nth 1 rfl
        exact ⟨blk_cell (i := 0) h1 rfl, own_cell h2 (g := dg) rfl (j := k) (u := I64 (y : Int)) (by simp [hy0]), by rw [hP]; exact unhide HC W hW.toB y (by have := unhide HN; omega)⟩
      have S0 := unhide HS wr _ _ (unhide HR)
      have E1 := (unhide HR).new (bw_drewA wr)
      have S1 := unhide HS wr.drew _ _ E1
      have HE := hide E1
      have hsn := ovL_snoc T d k hy0
      have hpp : Go.Proofs.YtpcpcgagiapinaaGreatDoor.pos (ndAt T ((y : Int)).toNat) = decide (P ≠ 0) := by rw [hP, Int.toNat_natCast]; unfold Go.Proofs.YtpcpcgagiapinaaGreatDoor.pos; by_cases q : (ndAt T y).pub = 0 <;> simp [q]
      rw [hpp] at hsn
      obtain ⟨acc, hacc⟩ : ∃ acc, acc = ovL T (d.take k) := ⟨_, rfl⟩
      rw [← hacc] at HE hsn
      have hal : acc.length ≤ 3 := by
        have h1 : acc.length ≤ (d.take k).length := by rw [hacc]; exact List.length_filter_le _ _
        rw [List.length_take] at h1
        omega
      have HSN := hide (And.intro hsn hal)
      have z1 : (k : Int) < (M : Int) := by omega
      have z2 : (y : Int) < (N : Int) := by have := unhide HN; omega
      clear hrow hy0 hP hsn hpp hacc E1 HR hyl hal
      go_upto_region 6 with fail
      go_region_held3 (fun w' : World => w'.cell? ⟨tb, 0, none⟩ = some (.slice (some ⟨g, o, none⟩) N c) ∧ w'.cell? ⟨dg, k, none⟩ = some (.int .i64 (y : Int)) ∧ w'.cell? ⟨g, o + y * 4, none⟩ = some (.int .i64 P)) (first | with_reducible exact S0 | with_reducible exact S1 | go_keep) (fail)
      clear S0
      obtain ⟨d1, d2, d3⟩ := S1
      by_cases hP : P = 0
      · have b1 : (P != 0) = false := by simpa using hP
        have HX : Hid (EF [] w wr.drew [resI u6 (ovL T (d.take (k + 1))), resW 3 1 (.slice (some ⟨dg, 0, none⟩) M dc) M (d.map I64), resC tb #[.slice (some ⟨g, o, none⟩) N c] 44]) := by
          unfold Hid
          rw [(unhide HSN).1]
          simp only [hP, ne_eq, not_true_eq_false, decide_false, Bool.false_eq_true, if_false, List.append_nil]
          exact unhide HE
        clear HSN HE d1 d2 d3
        go_wp2_with fail
        go_roundw
        case rel => exact ⟨k + 1, by go_num, by omega, HX⟩
        case measure => simp only [intOf]; omega
      · have b1 : (P != 0) = true := by simpa using hP
        have hrow : wr.drew.ownsRow 0 3 1 u6 acc.length (acc.map I64) := (unhide HE).hd
        clear d1 d3
        go_upto_region 7 with fail
        go_wp2_with (at_builtin; refine wpList_append_own_at _ rfl (.tmp 28) (.tmp 33) 27 rfl 0 3 i0 (.int .i64 0) 1 8 Tryz.underlying27 hi hz0 hz1 hz2 rfl (by decide) u6 acc.length (acc.map I64) rfl (World.ownsRow.alloc hrow _) ⟨wr.drew.heap.size, 0, none⟩ 1 1 [_] rfl rfl (cell_one_new _ _ _) (fun u hu => by simp at hu; subst hu; rfl) (by have := (unhide HSN).2; unfold maxLen; omega) (by have := (unhide HSN).2; omega) (Nat.zero_le _) ?nx)
        case nx =>
          intro v' w5 hown' hgrow _ hat
          have E5 := (unhide HE).grow hown' hgrow (by simpa using hat)
          have HX : Hid (EF [] w w5 [resI v' (ovL T (d.take (k + 1))), resW 3 1 (.slice (some ⟨dg, 0, none⟩) M dc) M (d.map I64), resC tb #[.slice (some ⟨g, o, none⟩) N c] 44]) := by
            unfold Hid resI
            rw [(unhide HSN).1]
            simp only [ne_eq, hP, not_false_eq_true, decide_true, if_true, List.map_append, List.length_append, List.map_cons, List.map_nil, List.length_cons, List.length_nil, Nat.zero_add]
            exact E5
          clear hown' hgrow hat E5 hrow HSN HE d2
          go_wp2_with fail
          go_roundw
          case rel => exact ⟨k + 1, by go_num, by omega, HX⟩
          case measure => simp only [intOf]; omega
    · obtain rfl : k = M := by omega
      have HF : Hid (EF [] w wr [resI u6 (ovL T d)]) := by
        have := unhide HR
        rw [unhide HM, List.take_length] at this
        exact (this.up 2 rfl).drop.up 1 rfl |>.drop
      have z2 : decide ((k : Int) < (k : Int)) = false := by simp
      clear HR hlt hk HC HD HN HM
      go_wp2_with fail
      go_ret
      exact ⟨_, rfl, unhide HF⟩
end Go.Proofs.YtpcpcgagiapinaaGreatDoor.Tn.Pa

/- The document's Above, plainly, and its contract where its arguments may be. -/
namespace Go.Proofs.YtpcpcgagiapinaaGreatDoor.Tn.Pa
open Go.RowKit Go.Maps
def resQ (b : Nat) (sv : Value) (L : List Tm) : Res := ⟨rfoot b sv, fun w => Rs w b sv L, fun _ _ _ h hf hd => h.keep hf hd, fun _ h => h.lt⟩
theorem goR {w w' : World} {b : Nat} {sv sv' : Value} {L' : List Tm} (h : RStep w w' b sv sv' L') : Mv w w' (rfoot b sv) (rfoot b sv') :=
  ⟨h.fr, fun x hx => by
    rcases mem_rfoot.1 hx with c | c
    · exact Or.inl (mem_rfoot.2 (Or.inl c))
    · rcases h.place x c with c | c
      · exact Or.inl (mem_rfoot.2 (Or.inr c))
      · exact Or.inr c⟩
theorem EF.rstep {F : List Nat} {w W W' : World} {b : Nat} {sv sv' : Value} {L L' : List Tm} {rs : List Res} (h : EF F w W (resQ b sv L :: rs)) (s : RStep W W' b sv sv' L') : EF F w W' (resQ b sv' L' :: rs) := h.step (r' := resQ b sv' L') (goR s) s.st
def kept (p : List Tm × Nat) : List Tm × Nat := ((pub p).1, p.2)
abbrev DSt := Bool × (List Tm × Nat) × List (Int × Int)
def dBeg (T : List Nd) (p : List Tm × Nat) (node : Int) : DSt := if pubAt T node = ((pub p).2 : Int) then (true, kept p, [(node, ((key p).2 : Int))]) else (false, kept p, [])
def dStep (T : List Nd) (st : DSt) (x : Int) : DSt :=
  if st.1 = true then (if pubAt T x = ((pub (nxt st.2.1)).2 : Int) then (true, kept (nxt st.2.1), putF st.2.2 (x, ((key (nxt st.2.1)).2 : Int))) else (false, kept (nxt st.2.1), [])) else st
def dW (T : List Nd) (p : List Tm × Nat) (node : Int) (xs : List Int) : DSt := xs.foldl (dStep T) (dBeg T p node)
theorem dW_snoc (T : List Nd) (p : List Tm × Nat) (node : Int) (xs : List Int) (x : Int) : dW T p node (xs ++ [x]) = dStep T (dW T p node xs) x := by simp [dW]
theorem dW_off (T : List Nd) (xs : List Int) : ∀ st : DSt, st.1 = false → xs.foldl (dStep T) st = st := by
  induction xs with
  | nil => intro st _; rfl
  | cons x xs ih => intro st h; rw [List.foldl_cons, show dStep T st x = st by unfold dStep; simp [h]]; exact ih st h
theorem dW_app_off {T : List Nd} {p : List Tm × Nat} {node : Int} {xs ys : List Int} (h : (dW T p node xs).1 = false) : dW T p node (xs ++ ys) = dW T p node xs := by
  unfold dW at h ⊢
  rw [List.foldl_append]
  exact dW_off T ys _ h
theorem kept_gd {p : List Tm × Nat} (h : Gd p) : Gd (kept p) ∧ (kept p).1.length ≤ p.1.length + 2 ∧ p.1.length ≤ (kept p).1.length := by
  have q := key_len p
  have p1 : (pub p).1.length ≤ (key p).1.length + 1 := mkL_len _ _
  have p2 : (key p).1.length ≤ (pub p).1.length := mkL_le _ _
  have := h.1
  have := h.2
  unfold kept Gd
  exact ⟨⟨by simp; omega, by simp; omega⟩, by simp; omega, by simp; omega⟩
theorem putF_len (l : List (Int × Int)) (k : Int × Int) : (putF l k).length ≤ 2 * l.length + 1 := by
  have := putW_len k l
  unfold putF
  split
  · omega
  · rw [List.length_append, List.length_singleton]; omega
theorem dF_facts (T : List Nd) (base : Nat) : ∀ (xs : List Int) (st : DSt) (n0 l0 : Nat), Gd st.2.1 → st.2.1.1.length ≤ n0 → base ≤ st.2.1.1.length → st.2.2.length + 1 ≤ l0 → n0 + 98 + 3 * xs.length ≤ 1048575 →
    Gd (xs.foldl (dStep T) st).2.1 ∧ (xs.foldl (dStep T) st).2.1.1.length ≤ n0 + 3 * xs.length ∧ base ≤ (xs.foldl (dStep T) st).2.1.1.length ∧ (xs.foldl (dStep T) st).2.2.length + 1 ≤ l0 * 2 ^ xs.length := by
  intro xs
  induction xs with
  | nil => intro st n0 l0 h1 h2 h3 h4 _; exact ⟨h1, by simpa using h2, h3, by simpa using h4⟩
  | cons x xs ih =>
    intro st n0 l0 g g1 g2 g3 hl
    rw [List.length_cons] at hl
    have hx := nxt_gd g (by omega)
    have hy := nxt_len st.2.1
    obtain ⟨h1, h2, h3⟩ := kept_gd hx
    have hq : Gd (dStep T st x).2.1 ∧ (dStep T st x).2.1.1.length ≤ n0 + 3 ∧ base ≤ (dStep T st x).2.1.1.length ∧ (dStep T st x).2.2.length + 1 ≤ 2 * l0 := by
      unfold dStep
      split
      · split
        · have := putF_len st.2.2 (x, ((key (nxt st.2.1)).2 : Int))
          exact ⟨h1, by simp only; omega, by simp only; omega, by simp only; omega⟩
        · exact ⟨h1, by simp only; omega, by simp only; omega, by simp only [List.length_nil]; omega⟩
      · exact ⟨g, by omega, g2, by omega⟩
    obtain ⟨q1, q2, q3, q4⟩ := ih (dStep T st x) (n0 + 3) (2 * l0) hq.1 hq.2.1 hq.2.2.1 hq.2.2.2 (by omega)
    rw [List.foldl_cons, List.length_cons]
    refine ⟨q1, by omega, q3, ?_⟩
    rw [Nat.pow_succ]
    have : l0 * (2 ^ xs.length * 2) = 2 * l0 * 2 ^ xs.length := by rw [Nat.mul_comm (2 ^ xs.length) 2, ← Nat.mul_assoc, Nat.mul_comm l0 2]
    omega
theorem dW_facts {T : List Nd} {p : List Tm × Nat} (hg : Gd p) (node : Int) (xs : List Int) (hl : p.1.length + 100 + 3 * xs.length ≤ 1048575) : Gd (dW T p node xs).2.1 ∧ (dW T p node xs).2.1.1.length ≤ p.1.length + 2 + 3 * xs.length ∧ p.1.length ≤ (dW T p node xs).2.1.1.length ∧ (dW T p node xs).2.2.length + 1 ≤ 2 ^ (xs.length + 1) := by
  obtain ⟨h1, h2, h3⟩ := kept_gd hg
  have hb : Gd (dBeg T p node).2.1 ∧ (dBeg T p node).2.1.1.length ≤ p.1.length + 2 ∧ p.1.length ≤ (dBeg T p node).2.1.1.length ∧ (dBeg T p node).2.2.length + 1 ≤ 2 := by
    unfold dBeg
    split
    · exact ⟨h1, by simp only; omega, by simp only; omega, by simp⟩
    · exact ⟨h1, by simp only; omega, by simp only; omega, by simp⟩
  have := dF_facts T p.1.length xs (dBeg T p node) (p.1.length + 2) 2 hb.1 hb.2.1 hb.2.2.1 hb.2.2.2 (by omega)
  rw [Nat.pow_succ, Nat.mul_comm (2 ^ xs.length) 2]
  exact this
def dPost (b : Nat) (sv : Value) (w : World) (st : DSt) (e : Ending) (w' : World) : Prop :=
  if st.1 = true then ∃ lv sv', e = .returned (.tuple #[lv, .int .i64 ((nxt st.2.1).2 : Nat), .int .i64 0]) ∧ EF (rfoot b sv) w w' [resQ b sv' (nxt st.2.1).1, resW 71 2 lv st.2.2.length (kysC st.2.2)]
  else ∃ sv', e = .returned (.tuple #[nilV, .int .i64 0, .int .i64 12]) ∧ EF (rfoot b sv) w w' [resQ b sv' st.2.1.1]
set_option maxRecDepth 100000 in
set_option maxHeartbeats 8000000 in
theorem dAbove_ok {b : Nat} {sv : Value} {R : List Tm} {w : World} (h : Rs w b sv R) {v : Value} {T : List Nd} (hT : Tfix (fun W => Fr (rfoot b sv) w W) v T) (hm : mayB T = true) (hh : pubsB R T = true) (node : Nat) (hn : node < T.length) (s : Nat) (hs : Gd (R, s)) (hl : R.length + 200 ≤ 1048575) :
    Calls Tryz.prog 19 #[.pointer (some ⟨b, 0, none⟩), .agg #[v], .int .i64 (node : Int), .int .i64 (s : Nat)] w (dPost b sv w (dW T (R, s) (node : Int) (ov T (node : Int)))) := by
  have ok := mayB_okn hm (by omega)
  have h15 := (mayB_15 hm).1
  have hun : ∀ n ∈ T, n.un.length ≤ 140737488355328 := fun n hn => by
    obtain ⟨j, hj⟩ := List.mem_iff_getElem?.1 hn
    have hlt := (List.getElem?_eq_some_iff.1 hj).1
    have e1 : ndAt T j = n := by have := ndAt_of hlt; rw [hj] at this; simpa using this.symm
    have := (ok.sm j hlt).1
    rw [e1] at this
    omega
  have HTD : Hid (∀ W, Fr (rfoot b sv) w W → Trd W v T) := fun W hW => trd_of_fix hT hW (by omega) hun
  obtain ⟨va, c, rfl⟩ := hT.slice
  obtain ⟨g, o, us, rfl, hcell⟩ : ∃ g o, ∃ us : Nat → Value, va = some ⟨g, o, none⟩ ∧ ∀ W, Fr (rfoot b sv) w W → ∀ i, i < T.length → NdC W g (o + i * 4) (ndAt T i) (us i) ∧ Nums W (us i) (ndAt T i).un := by
    rcases hT with ⟨rfl, _⟩ | ⟨g, o, c', us, e, hh⟩
    · simp at hn
    · simp only [Value.slice.injEq] at e
      exact ⟨g, o, us, e.1, hh⟩
  obtain ⟨N, hN⟩ : ∃ N, N = T.length := ⟨_, rfl⟩
  have HC : Hid (∀ W, Fr (rfoot b sv) w W → ∀ y : Nat, y < N → W.cell? ⟨g, o + y * 4, none⟩ = some (.int .i64 (pubAt T (y : Int)))) := fun W hW y hy => (hcell W hW y (by omega)).1.c0
  rw [← hN] at HTD ⊢
  obtain ⟨tb, htb⟩ : ∃ tb, tb = w.heap.size := ⟨_, rfl⟩
  obtain ⟨w0, hw0⟩ : ∃ w0, w0 = w.alloc (.cells #[.slice (some ⟨g, o, none⟩) N c] 44) := ⟨_, rfl⟩
  have E0 : EF (rfoot b sv) w w0 [resQ b sv R, resC tb #[.slice (some ⟨g, o, none⟩) N c] 44] := by
    rw [hw0, htb]
    exact ((EF.one w (resQ b sv R) h).newC #[.slice (some ⟨g, o, none⟩) N c] 44).up 1 rfl
  have HB : Hid (∀ W sv' L rs, EF (rfoot b sv) w W (resQ b sv' L :: resC tb #[.slice (some ⟨g, o, none⟩) N c] 44 :: rs) → W.cell? ⟨tb, 0, none⟩ = some (.slice (some ⟨g, o, none⟩) N c)) := fun W sv' L rs hW => blk_cell (i := 0) (show W.heap[tb]? = some (.cells #[.slice (some ⟨g, o, none⟩) N c] 44 (0, 0)) from hW.nth 1 rfl) rfl
  have KC : Hid (∀ W, EF (rfoot b sv) w W [resQ b sv R, resC tb #[.slice (some ⟨g, o, none⟩) N c] 44] → Calls Tryz.prog 54 #[.agg #[.slice (some ⟨g, o, none⟩) N c]] W fun e w' => e = .returned (.int .i64 0) ∧ Below W.heap.size W w') := fun W hW => by
    have := Go.Proofs.YtpcpcgagiapinaaGreatDoor.rcheck_any (unhide HTD W hW.fr)
    rw [if_pos hm] at this
    exact this
  have KH : Hid (∀ W, EF (rfoot b sv) w W [resQ b sv R, resC tb #[.slice (some ⟨g, o, none⟩) N c] 44] → Calls Tryz.prog 55 #[.pointer (some ⟨b, 0, none⟩), .agg #[.slice (some ⟨g, o, none⟩) N c]] W fun e w' => e = .returned (.bool true) ∧ Below W.heap.size W w') := fun W hW => by
    have := q9held_any (show Rs W b sv R from hW.hd) _ T (unhide HTD W hW.fr)
    rw [hh] at this
    exact this
  have KI : Hid (∀ W, EF (rfoot b sv) w W [resQ b sv R, resC tb #[.slice (some ⟨g, o, none⟩) N c] 44] → Calls Tryz.prog 38 #[.pointer (some ⟨b, 0, none⟩), .int .i64 (s : Nat)] W fun e w' => e = .returned (.bool true) ∧ Below W.heap.size W w') := fun W hW => by
    have := ris (show Rs W b sv R from hW.hd) (s : Nat)
    rw [hs.thr] at this
    exact this
  have KN : Hid (∀ W sv' q rs, Gd q → q.1.length + 100 ≤ 1048575 → EF (rfoot b sv) w W (resQ b sv' q.1 :: rs) → Calls Tryz.prog 11 #[.pointer (some ⟨b, 0, none⟩), .int .i64 ((q : List Tm × Nat).2 : Nat)] W fun e w' => e = .returned (.tuple #[.int .i64 ((key q).2 : Nat), .int .i64 ((pub q).2 : Nat), .int .i64 0]) ∧ ∃ sv2, EF (rfoot b sv) w w' (resQ b sv2 (kept q).1 :: rs)) := fun W sv' q rs hg hl hW => by
    refine (qNode_ok q (show Rs W b sv' q.1 from hW.hd) hg hl).mono ?_
    rintro e w' ⟨rfl, sv2, k⟩
    exact ⟨rfl, sv2, hW.rstep k⟩
  have KK : Hid (∀ W sv' q rs, Gd q → q.1.length + 100 ≤ 1048575 → EF (rfoot b sv) w W (resQ b sv' q.1 :: rs) → Calls Tryz.prog 39 #[.pointer (some ⟨b, 0, none⟩), .int .i64 1, .int .i64 ((q : List Tm × Nat).2 : Nat), .int .i64 0] W fun e w' => e = .returned (.int .i64 ((nxt q).2 : Nat)) ∧ ∃ sv2, EF (rfoot b sv) w w' (resQ b sv2 (nxt q).1 :: rs)) := fun W sv' q rs hg hl hW => by
    refine (rkdf (show Rs W b sv' q.1 from hW.hd) 1 _ 0 (ok_nx hg 1 (by omega) (by omega)) (may_nx hg 1 (by omega)) (by omega)).mono ?_
    rintro e w' ⟨rfl, sv2, k⟩
    exact ⟨rfl, sv2, hW.rstep k⟩
  obtain ⟨ups, hups⟩ : ∃ ups, ups = ov T (node : Int) := ⟨_, rfl⟩
  have hul : ups.length ≤ 3 := by rw [hups]; exact ov_len ok hn
  have hua : ∀ y ∈ ups, ∃ m : Nat, y = (m : Int) ∧ m < N := fun y hy => by rw [hups] at hy; rw [hN]; exact ov_at ok hn y hy
  have KV : Hid (∀ W sv' L rs, EF (rfoot b sv) w W (resQ b sv' L :: rs) → Calls Tryz.prog 56 #[.agg #[.slice (some ⟨g, o, none⟩) N c], .int .i64 (node : Int)] W fun e w' => ∃ r, e = .returned r ∧ EF (rfoot b sv) w w' (resI r ups :: resQ b sv' L :: rs)) := fun W sv' L rs hW => by
    refine (over_any (unhide HTD W hW.fr) hm node hn).mono ?_
    rintro e w' ⟨r, rfl, k⟩
    rw [← hups] at k
    exact ⟨r, rfl, hW.add _ k.toB k.hd (fun x hx => (k.low _ (by simp) x hx).resolve_left (by simp))⟩
  have HF : Hid (∀ xs : List Int, xs.length ≤ 3 → Gd (dW T (R, s) (node : Int) xs).2.1 ∧ (dW T (R, s) (node : Int) xs).2.1.1.length ≤ R.length + 2 + 3 * xs.length ∧ R.length ≤ (dW T (R, s) (node : Int) xs).2.1.1.length ∧ (dW T (R, s) (node : Int) xs).2.2.length + 1 ≤ 2 ^ (xs.length + 1)) := fun xs hx => dW_facts hs (node : Int) xs (by simp only; omega)
  rw [← hups]
  obtain ⟨fin, hfin⟩ : ∃ fin, fin = dW T (R, s) (node : Int) ups := ⟨_, rfl⟩
  rw [← hfin]
  have HFIN := hide hfin
  have HE0 := hide E0
  have HW := hide (And.intro hw0 htb)
  have HL := hide (And.intro hl (And.intro hul hua))
  have HG := hide hs
  have z1 : (node : Int) < (N : Int) := by omega
  have z2 : (N : Int) ≤ 15 := by omega
  have hz0' : decide ((node : Int) < 0) = false := decide_eq_false (by omega)
  have hB0 : Hid (dW T (R, s) (node : Int) [] = if pubAt T (node : Int) = ((pub (R, s)).2 : Int) then (true, kept (R, s), [((node : Int), ((key (R, s)).2 : Int))]) else (false, kept (R, s), [])) := rfl
  clear h hT hm hh hn hs hl ok h15 hun HTD hcell hN htb hw0 E0 hups hul hua hfin
  go_enter Tryz.func19, Tryz.ntmps19
  go_upto_region 1 with fail
  rw [← (unhide HW).1, ← (unhide HW).2]
  clear HW
  have c0 := unhide HB _ _ _ _ (unhide HE0)
  go_wp2_with fail
  refine (unhide KC _ (unhide HE0)).mono ?_
  rintro e w1 ⟨rfl, b1⟩
  have HE1 := hide ((unhide HE0).new b1)
  have c1 := unhide HB _ _ _ _ (unhide HE1)
  clear KC b1 HE0 c0
  go_wp2_with fail
  refine (unhide KH _ (unhide HE1)).mono ?_
  rintro e w2 ⟨rfl, b1⟩
  have HE2 := hide ((unhide HE1).new b1)
  have c2 := unhide HB _ _ _ _ (unhide HE2)
  clear KH b1 HE1 c1
  go_wp2_with fail
  refine (unhide KI _ (unhide HE2)).mono ?_
  rintro e w3 ⟨rfl, b1⟩
  have HE3 := hide ((unhide HE2).new b1)
  clear KI b1 HE2 c2
  have Q3 := hide (unhide KN w3 sv (R, s) _ (unhide HG) (by have := (unhide HL).1; simp only; omega) (unhide HE3))
  go_wp2_with fail
  refine (unhide Q3).mono ?_
  rintro e w4 ⟨rfl, sv4, E4⟩
  have c4 := unhide HB _ _ _ _ E4
  have p4 := unhide HC w4 E4.fr node (by omega)
  have HE4 := hide E4
  have HB1 := hide (unhide HF [] (by simp))
  clear E4 HE3 Q3
  obtain ⟨nk, hnk⟩ : ∃ nk : Nat, nk = (key (R, s)).2 := ⟨_, rfl⟩
  obtain ⟨np, hnp⟩ : ∃ np : Nat, np = (pub (R, s)).2 := ⟨_, rfl⟩
  rw [← hnk, ← hnp] at hB0 ⊢
  obtain ⟨P, hP⟩ : ∃ P, P = pubAt T (node : Int) := ⟨_, rfl⟩
  rw [← hP] at hB0 p4
  have HPP := hide hP
  clear hnk hnp hP
  by_cases hpe : P = (np : Int)
  case neg =>
    obtain ⟨b1, b2⟩ : (P != (np : Int)) = true ∧ decide (P = (np : Int)) = false := ⟨by simpa using hpe, by simpa using hpe⟩
    have hfe : fin = (false, kept (R, s), []) := by
      have h0 := unhide hB0
      rw [if_neg hpe] at h0
      rw [unhide HFIN, ← List.nil_append ups, dW_app_off (by rw [h0]), h0]
    subst hfe
    have HQ : Hid (EF (rfoot b sv) w w4 [resQ b sv4 (kept (R, s)).1]) := ((unhide HE4).up 1 rfl).drop
    clear HFIN HE4 KN KK KV HF HL HG hB0 HB1 HB HC
    go_wp2_with fail
    go_ret3
    exact ⟨sv4, rfl, unhide HQ⟩
  subst hpe
  have b0 : ((np : Int) != (np : Int)) = false := by simp
  obtain ⟨w5, hw5⟩ : ∃ w5, w5 = w4.alloc (.cells #[.int .i64 (node : Int), .int .i64 (nk : Int)] 71) := ⟨_, rfl⟩
  obtain ⟨lb, hlb⟩ : ∃ lb, lb = w4.heap.size := ⟨_, rfl⟩
  have E5 : EF (rfoot b sv) w w5 (resW 71 2 (.slice (some ⟨lb, 0, none⟩) 1 1) 1 (kysC [((node : Int), (nk : Int))]) :: resQ b sv4 (kept (R, s)).1 :: [resC tb #[.slice (some ⟨g, o, none⟩) N c] 44]) := by
    rw [hw5, hlb]
    exact (unhide HE4).add (resW 71 2 (.slice (some ⟨w4.heap.size, 0, none⟩) 1 1) 1 (kysC [((node : Int), (nk : Int))])) (bwA' _ _) ⟨rfl, Or.inr ⟨w4.heap.size, 1, #[.int .i64 (node : Int), .int .i64 (nk : Int)], rfl, Nat.zero_le _, heap_alloc_new _ _, Nat.le_refl _, by unfold maxLen; omega, rfl, rfl⟩⟩ (fun x hx => by simp [resW, Value.ownBlock] at hx; omega)
  have E5b := E5.up 1 rfl
  have c5 := blk_cell (i := 0) (show w5.heap[tb]? = some (.cells #[.slice (some ⟨g, o, none⟩) N c] 44 (0, 0)) from E5b.nth 2 rfl) rfl
  have Q5 := hide (unhide KV w5 sv4 _ _ E5b)
  have HW5 := hide (And.intro hw5 hlb)
  clear E5 E5b hw5 hlb HE4 KV
  go_upto_region 7 with fail
  rw [← (unhide HW5).1, ← (unhide HW5).2]
  clear HW5 c4 p4
  go_wp2_with fail
  refine (unhide Q5).mono ?_
  rintro e w6 ⟨uv, rfl, E6⟩
  clear Q5 c5
  obtain ⟨ua, uc, hue⟩ := own_slice (show w6.ownsRow 0 3 1 uv ups.length (ups.map I64) from E6.hd)
  subst hue
  obtain ⟨M, hM⟩ : ∃ M, M = ups.length := ⟨_, rfl⟩
  have h0 := unhide hB0
  simp only [if_true] at h0
  have E6b : EF (rfoot b sv) w w6 [resQ b sv4 (dW T (R, s) (node : Int) (ups.take 0)).2.1.1, resW 71 2 (.slice (some ⟨lb, 0, none⟩) 1 1) (dW T (R, s) (node : Int) (ups.take 0)).2.2.length (kysC (dW T (R, s) (node : Int) (ups.take 0)).2.2), resW 3 1 (.slice ua M uc) M (ups.map I64), resC tb #[.slice (some ⟨g, o, none⟩) N c] 44] := by
    rw [List.take_zero, h0, hM]
    exact (E6.up 2 rfl).up 2 rfl
  have HE6 := hide E6b
  have hs0 : Hid ((dW T (R, s) (node : Int) (ups.take 0)).1 = true ∧ (dW T (R, s) (node : Int) (ups.take 0)).2.1.2 = s) := by unfold Hid; rw [List.take_zero, h0]; exact ⟨rfl, rfl⟩
  rw [← hM]
  have HM := hide hM
  have hMb : (M : Int) ≤ 3 := by have := (unhide HL).2.1; omega
  clear E6 E6b hM h0 hB0 HB1 b0
  go_wp2_with fail
  go_loopw [14, 16, 17] (fun lv pv iv wr => ∃ k : Nat, iv = .int .i64 (k : Int) ∧ k ≤ M ∧ pv = .int .i64 ((dW T (R, s) (node : Int) (ups.take k)).2.1.2 : Nat) ∧ Hid ((dW T (R, s) (node : Int) (ups.take k)).1 = true) ∧ Hid (∃ sv', EF (rfoot b sv) w wr [resQ b sv' (dW T (R, s) (node : Int) (ups.take k)).2.1.1, resW 71 2 lv (dW T (R, s) (node : Int) (ups.take k)).2.2.length (kysC (dW T (R, s) (node : Int) (ups.take k)).2.2), resW 3 1 (.slice ua M uc) M (ups.map I64), resC tb #[.slice (some ⟨g, o, none⟩) N c] 44])) (fun _ _ iv _ => (M - intOf iv).toNat)
  case atStart => exact ⟨0, rfl, by omega, by rw [(unhide hs0).2], (unhide hs0).1, sv4, unhide HE6⟩
  case round =>
    clear HE6 hs0
    obtain ⟨k, rfl, hk, rfl, HT, HR⟩ := hrel
    obtain ⟨g1, g2, g3, g4⟩ := unhide HF (ups.take k) (by rw [List.length_take]; have := (unhide HL).2.1; omega)
    obtain ⟨sv7, E7⟩ := unhide HR
    have hkl : (ups.take k).length ≤ 3 := by rw [List.length_take]; have := (unhide HL).2.1; omega
    have hpow : 2 ^ ((ups.take k).length + 1) ≤ 16 := Nat.le_trans (Nat.pow_le_pow_right (by omega) (show (ups.take k).length + 1 ≤ 4 by omega)) (by decide)
    by_cases hlt : k < M
    · obtain ⟨y0, hy0⟩ : ∃ y, ups[k]? = some y := ⟨_, List.getElem?_eq_getElem (by have := unhide HM; omega)⟩
      obtain ⟨y, rfl, hyl⟩ := (unhide HL).2.2 y0 (List.mem_of_getElem? hy0)
      have hst : dW T (R, s) (node : Int) (ups.take (k + 1)) = dStep T (dW T (R, s) (node : Int) (ups.take k)) (y : Int) := by rw [List.take_add_one, hy0, ← dW_snoc]; rfl
      have hcut : ups = ups.take (k + 1) ++ ups.drop (k + 1) := (List.take_append_drop _ _).symm
      obtain ⟨st, hste⟩ : ∃ st, st = dW T (R, s) (node : Int) (ups.take k) := ⟨_, rfl⟩
      rw [← hste] at E7 hst g1 g2 g3 g4 HT ⊢
      obtain ⟨t1, q, l⟩ := st
      obtain rfl : t1 = true := unhide HT
      simp only at E7 g1 g2 g3 g4 hst ⊢
      have Q7 := hide (unhide KK wr sv7 q _ g1 (by have := (unhide HL).1; omega) E7)
      have gx := nxt_gd g1 (by have := (unhide HL).1; omega)
      have gl := nxt_len q
      have HX := hide (And.intro gx (show (nxt q).1.length + 100 ≤ 1048575 by have := (unhide HL).1; omega))
      have HLL := hide (show l.length ≤ 1000 by omega)
      have hrow : wr.ownsRow 0 3 1 (.slice ua M uc) M (ups.map I64) := E7.nth 2 rfl
      obtain ⟨ug, cp, hde, -⟩ := own_open hrow (by omega)
      simp only [Value.slice.injEq] at hde
      obtain ⟨rfl, -, -⟩ := hde
      obtain ⟨P, hP⟩ : ∃ P, P = pubAt T (y : Int) := ⟨_, rfl⟩
      have HS : Hid (∀ W sv' L lv n xs, EF (rfoot b sv) w W [resQ b sv' L, resW 71 2 lv n xs, resW 3 1 (.slice (some ⟨ug, 0, none⟩) M uc) M (ups.map I64), resC tb #[.slice (some ⟨g, o, none⟩) N c] 44] → W.cell? ⟨tb, 0, none⟩ = some (.slice (some ⟨g, o, none⟩) N c) ∧ W.cell? ⟨ug, k, none⟩ = some (.int .i64 (y : Int)) ∧ W.cell? ⟨g, o + y * 4, none⟩ = some (.int .i64 P)) := fun W sv' L lv n xs hW => by
        have h1 : W.heap[tb]? = some (.cells #[.slice (some ⟨g, o, none⟩) N c] 44 (0, 0)) := hW.nth 3 rfl
        have h2 : W.ownsRow 0 3 1 (.slice (some ⟨ug, 0, none⟩) M uc) M (ups.map I64) := hW.nth 2 rfl
        exact ⟨blk_cell (i := 0) h1 rfl, own_cell h2 (g := ug) rfl (j := k) (u := I64 (y : Int)) (by simp [hy0]), by rw [hP]; exact unhide HC W hW.fr y (by omega)⟩
      have HST : Hid (dW T (R, s) (node : Int) (ups.take (k + 1)) = if P = ((pub (nxt q)).2 : Int) then (true, kept (nxt q), putF l ((y : Int), ((key (nxt q)).2 : Int))) else (false, kept (nxt q), [])) := by
        unfold Hid
        rw [hst, hP]
        unfold dStep
        simp
      have HCT := hide hcut
      have z3 : (k : Int) < (M : Int) := by omega
      have z4 : (y : Int) < (N : Int) := by omega
      clear HR HT E7 g1 g2 g3 g4 hst hcut hste hy0 hyl gx gl hrow hP hkl hpow KK HF HC
      go_wp2_with fail
      refine (unhide Q7).mono ?_
      rintro e w8 ⟨rfl, sv8, E8⟩
      have Q8 := hide (unhide KN w8 sv8 (nxt q) _ (unhide HX).1 (unhide HX).2 E8)
      clear Q7 E8 KN
      go_wp2_with fail
      refine (unhide Q8).mono ?_
      rintro e w9 ⟨rfl, sv9, E9⟩
      have S0 := unhide HS _ _ _ _ _ _ E9
      have E10 := E9.new (bw_drewA w9)
      have S1 := unhide HS _ _ _ _ _ _ E10
      have HE10 := hide E10
      obtain ⟨kq, hkq⟩ : ∃ kq : Nat, kq = (key (nxt q)).2 := ⟨_, rfl⟩
      obtain ⟨pq, hpq⟩ : ∃ pq : Nat, pq = (pub (nxt q)).2 := ⟨_, rfl⟩
      obtain ⟨Lq, hLq⟩ : ∃ Lq, Lq = kept (nxt q) := ⟨_, rfl⟩
      rw [← hkq, ← hpq, ← hLq] at HST
      rw [← hkq, ← hpq]
      rw [← hLq] at HE10
      have HLQ : Hid ((nxt q).2 = Lq.2) := by unfold Hid; rw [hLq]; rfl
      clear Q8 E9 E10 hkq hpq hLq
      go_upto_region 14 with fail
      go_region_held3 (fun w' : World => w'.cell? ⟨tb, 0, none⟩ = some (.slice (some ⟨g, o, none⟩) N c) ∧ w'.cell? ⟨ug, k, none⟩ = some (.int .i64 (y : Int)) ∧ w'.cell? ⟨g, o + y * 4, none⟩ = some (.int .i64 P)) (first | with_reducible exact S0 | with_reducible exact S1 | go_keep) (fail)
      clear S0
      by_cases hpe : P = (pq : Int)
      case neg =>
        obtain ⟨b1, b2⟩ : (P != (pq : Int)) = true ∧ decide (P = (pq : Int)) = false := ⟨by simpa using hpe, by simpa using hpe⟩
        have hfe : fin = (false, Lq, []) := by
          have h0 := unhide HST
          rw [if_neg hpe] at h0
          rw [unhide HFIN, unhide HCT, dW_app_off (by rw [h0]), h0]
        subst hfe
        have HQ : Hid (EF (rfoot b sv) w w9.drew [resQ b sv9 Lq.1]) := (unhide HE10).sub (.cons_cons _ (List.nil_sublist _))
        clear HFIN HE10 HL HG HB HST HCT HS HX HLL S1
        go_wp2_with fail
        go_ret3
        exact ⟨sv9, rfl, unhide HQ⟩
      obtain ⟨b1, b2⟩ : (P != (pq : Int)) = false ∧ decide (P = (pq : Int)) = true := ⟨by simpa using hpe, by simpa using hpe⟩
      have hst1 := unhide HST
      rw [if_pos hpe] at hst1
      have HS1 := hide hst1
      have KP := hide (put_any (kfix_own (show w9.drew.ownsRow 0 71 2 u14 l.length (kysC l) from (unhide HE10).nth 1 rfl) rfl) (unhide HLL) (y : Int) (kq : Int))
      obtain ⟨d1, d2, d3⟩ := S1
      clear HST hst1 d1 d3 HCT HX HLL HS
      go_wp2_with fail
      refine (unhide KP).mono ?_
      rintro e w11 ⟨rv, rfl, E11⟩
      have HX : Hid ((dW T (R, s) (node : Int) (ups.take (k + 1))).2.1.2 = Lq.2 ∧ (dW T (R, s) (node : Int) (ups.take (k + 1))).1 = true ∧ EF (rfoot b sv) w w11 [resQ b sv9 (dW T (R, s) (node : Int) (ups.take (k + 1))).2.1.1, resW 71 2 rv (dW T (R, s) (node : Int) (ups.take (k + 1))).2.2.length (kysC (dW T (R, s) (node : Int) (ups.take (k + 1))).2.2), resW 3 1 (.slice (some ⟨ug, 0, none⟩) M uc) M (ups.map I64), resC tb #[.slice (some ⟨g, o, none⟩) N c] 44]) := by
        unfold Hid
        rw [unhide HS1]
        refine ⟨rfl, rfl, ?_⟩
        have := (unhide HE10).add _ E11.toB E11.hd (fun x hx => (E11.low _ (by simp) x hx).resolve_left (by simp))
        exact ((this.up 2 rfl).drop.up 1 rfl)
      clear KP E11 HS1 d2 HE10
      go_wp2_with fail
      go_roundw
      case rel => exact ⟨k + 1, by go_num, by omega, by rw [(unhide HX).1, unhide HLQ], (unhide HX).2.1, sv9, (unhide HX).2.2⟩
      case measure => simp only [intOf]; omega
    · obtain rfl : k = M := by omega
      rw [unhide HM, List.take_length, ← unhide HFIN] at HT E7 g1 g2
      have hpe : (dW T (R, s) (node : Int) (ups.take k)) = fin := by rw [unhide HM, List.take_length, ← unhide HFIN]
      rw [hpe]
      obtain ⟨t1, q, l⟩ := fin
      obtain rfl : t1 = true := unhide HT
      simp only at E7 g1 g2 ⊢
      have Q7 := hide (unhide KK wr sv7 q _ g1 (by have := (unhide HL).1; have := (unhide HL).2.1; omega) E7)
      have z2 : decide ((k : Int) < (k : Int)) = false := by simp
      clear HR HT E7 g1 g2 g3 g4 hkl hpow KK KN HF HC HFIN hpe hlt hk HB HL HG
      go_wp2_with fail
      refine (unhide Q7).mono ?_
      rintro e w8 ⟨rfl, sv8, E8⟩
      have HQ : Hid (EF (rfoot b sv) w w8 [resQ b sv8 (nxt q).1, resW 71 2 u14 l.length (kysC l)]) := E8.sub (.cons_cons _ (.cons_cons _ (List.nil_sublist _)))
      clear Q7 E8
      go_wp2_with fail
      go_ret3
      exact ⟨u14, sv8, rfl, unhide HQ⟩
end Go.Proofs.YtpcpcgagiapinaaGreatDoor.Tn.Pa

/- What the two Aboves find is the same, plainly: one node. No walk is in this text. -/
namespace Go.Proofs.YtpcpcgagiapinaaGreatDoor.Tn.Pa
open Go.RowKit Go.Maps
theorem mk_in {L : List Tm} {t : Tm} (hm : may L.length t = true) (h : t ∈ L) : mkL L t = L ∧ mkN L t = num L t := by
  unfold mkL mkN
  exact ⟨if_neg (fun c => c.2.1 h), by rw [if_pos hm, if_pos h]⟩
theorem mk_out {L : List Tm} {t : Tm} (hm : may L.length t = true) (hl : L.length < 1048576) (h : t ∉ L) : mkL L t = L ++ [t] ∧ mkN L t = L.length + 1 := by
  unfold mkL mkN
  exact ⟨if_pos ⟨hm, h, hl⟩, by rw [if_pos hm, if_neg h, if_pos hl]⟩
theorem getT_num {L : List Tm} {t : Tm} (h : t ∈ L) : thr L.length (num L t : Nat) = true ∧ getT L (num L t : Nat) = t := by
  obtain ⟨h1, h2⟩ := num_get h
  have h3 := num_le L t
  have ht : thr L.length (num L t : Nat) = true := thr_iff.2 (by omega)
  obtain ⟨i, u, e, hi, -, hu⟩ := thr_open ht
  refine ⟨ht, ?_⟩
  rw [hu]
  have : i = num L t - 1 := by omega
  rw [this, h1] at hi
  exact (Option.some.inj hi).symm
theorem num_getT {L : List Tm} (hG : Good L) {x : Int} {t : Tm} (hx : thr L.length x = true) (h : getT L x = t) : t ∈ L ∧ (num L t : Int) = x := by
  obtain ⟨i, u, e, hi, hlt, hu⟩ := thr_open hx
  rw [h] at hu
  subst hu
  have hm := List.mem_of_getElem? hi
  obtain ⟨h1, h2⟩ := num_get hm
  refine ⟨hm, ?_⟩
  have h3 := num_le L t
  have := (List.getElem?_inj hlt hG.nodup).1 (hi.trans h1.symm)
  omega
theorem getT_kd {L : List Tm} {x : Int} (h : (getT L x).kd ≠ 0) : thr L.length x = true := by
  cases ht : thr L.length x
  · exact absurd (by simp [getT, ht]) h
  · rfl
theorem node_in {L : List Tm} (hG : Good L) {s : Nat} (hs : Gd (L, s)) (hl : L.length + 100 ≤ 1048575) (hP : ((pub (L, s)).2 : Nat) ≤ L.length) :
    (pub (L, s)).1 = L ∧ orgB L ((pub (L, s)).2 : Nat) = true ∧ orgS L ((pub (L, s)).2 : Nat) = (s : Int) ∧ orgK L ((pub (L, s)).2 : Nat) = ((key (L, s)).2 : Int) := by
  have m4 : may L.length ⟨4, 2, (s : Int), 0⟩ = true := may_nx hs 2 (by omega)
  have gk := key_gd hs (by simp only; omega)
  have m5 := may_pb gk
  have hkl := key_len (L, s)
  simp only at hkl
  by_cases h4 : (⟨4, 2, (s : Int), 0⟩ : Tm) ∈ L
  · obtain ⟨e1, e2⟩ := mk_in m4 h4
    have ek : key (L, s) = (L, num L ⟨4, 2, (s : Int), 0⟩) := by unfold key; simp only; rw [e1, e2]
    unfold pub at hP ⊢
    rw [ek] at m5 hP ⊢
    simp only at m5 hP ⊢
    by_cases h5 : (⟨5, 0, ((num L ⟨4, 2, (s : Int), 0⟩ : Nat) : Int), 0⟩ : Tm) ∈ L
    · obtain ⟨f1, f2⟩ := mk_in m5 h5
      rw [f1, f2]
      have g5 := (getT_num h5).2
      have g4 := (getT_num h4).2
      have hB : orgB L ((num L ⟨5, 0, ((num L ⟨4, 2, (s : Int), 0⟩ : Nat) : Int), 0⟩ : Nat) : Int) = true := by
        unfold orgB
        rw [g5, g4]
        simp
      refine ⟨rfl, hB, ?_, ?_⟩
      · unfold orgS; rw [if_pos hB, g5, g4]
      · unfold orgK; rw [if_pos hB, g5]
    · have := (mk_out m5 (by omega) h5).2
      omega
  · obtain ⟨e1, e2⟩ := mk_out m4 (by omega) h4
    have ek : key (L, s) = (L ++ [⟨4, 2, (s : Int), 0⟩], L.length + 1) := by unfold key; simp only; rw [e1, e2]
    exfalso
    unfold pub at hP
    rw [ek] at m5 hP
    simp only at m5 hP
    by_cases h5 : (⟨5, 0, ((L.length + 1 : Nat) : Int), 0⟩ : Tm) ∈ L ++ [⟨4, 2, (s : Int), 0⟩]
    · rcases List.mem_append.1 h5 with c | c
      · obtain ⟨i, hi⟩ := List.mem_iff_getElem?.1 c
        have h6 := hG.may i _ hi
        have hlt := (List.getElem?_eq_some_iff.1 hi).1
        simp [may, thr] at h6
        omega
      · simp at c
    · have := (mk_out m5 (by simp; omega) h5).2
      rw [List.length_append] at this
      omega
theorem node_of {L : List Tm} (hG : Good L) {s : Nat} (hs : Gd (L, s)) {P : Int} (hP : thr L.length P = true) (hO : orgS L P = (s : Int)) : ((pub (L, s)).2 : Int) = P := by
  have hs1 := hs.1
  simp only at hs1
  have hB : orgB L P = true := by
    cases c : orgB L P
    · unfold orgS at hO; rw [c] at hO; simp at hO; omega
    · rfl
  unfold orgS at hO
  rw [if_pos hB] at hO
  unfold orgB at hB
  simp only [Bool.and_eq_true, decide_eq_true_eq] at hB
  obtain ⟨h5, h4⟩ := hB
  rw [hO] at h4
  have ha : thr L.length (getT L P).a = true := getT_kd (by rw [h4]; simp)
  obtain ⟨i4, n4⟩ := num_getT hG ha h4
  have m4 : may L.length ⟨4, 2, (s : Int), 0⟩ = true := may_nx hs 2 (by omega)
  obtain ⟨e1, e2⟩ := mk_in m4 i4
  have ek : key (L, s) = (L, num L ⟨4, 2, (s : Int), 0⟩) := by unfold key; simp only; rw [e1, e2]
  obtain ⟨i, t, e, hi, hlt, ht⟩ := thr_open hP
  have hmay := hG.may i t hi
  rw [ht] at h5 n4
  have ht5 : t = ⟨5, 0, t.a, 0⟩ := by
    obtain ⟨kd, n, a, b⟩ := t
    simp only at h5
    subst h5
    simp [may] at hmay
    simp [hmay]
  rw [ht5] at ht
  rw [show t.a = ((num L ⟨4, 2, (s : Int), 0⟩ : Nat) : Int) from n4.symm] at ht
  obtain ⟨i5, n5⟩ := num_getT hG hP ht
  unfold pub
  rw [ek]
  simp only
  have m5 : may L.length ⟨5, 0, ((num L ⟨4, 2, (s : Int), 0⟩ : Nat) : Int), 0⟩ = true := by
    have := (getT_num i4).1
    simp [may, this]
  rw [(mk_in m5 i5).2]
  exact n5
theorem nxt_in {L : List Tm} (hG : Good L) {s : Nat} (hs : Gd (L, s)) (hl : L.length + 200 ≤ 1048575) (hP : ((pub (nxt (L, s))).2 : Nat) ≤ L.length) :
    nxt (L, s) = (L, (nxt (L, s)).2) ∧ thr L.length ((nxt (L, s)).2 : Nat) = true ∧ getT L ((nxt (L, s)).2 : Nat) = ⟨4, 1, (s : Int), 0⟩ := by
  have m1 : may L.length ⟨4, 1, (s : Int), 0⟩ = true := may_nx hs 1 (by omega)
  by_cases h1 : (⟨4, 1, (s : Int), 0⟩ : Tm) ∈ L
  · obtain ⟨e1, e2⟩ := mk_in m1 h1
    have en : nxt (L, s) = (L, num L ⟨4, 1, (s : Int), 0⟩) := by unfold nxt; simp only; rw [e1, e2]
    rw [en]
    exact ⟨rfl, getT_num h1⟩
  · exfalso
    obtain ⟨e1, e2⟩ := mk_out m1 (by omega) h1
    have en : nxt (L, s) = (L ++ [⟨4, 1, (s : Int), 0⟩], L.length + 1) := by unfold nxt; simp only; rw [e1, e2]
    have gn := nxt_gd hs (by simp only; omega)
    have hG' : Good (L ++ [⟨4, 1, (s : Int), 0⟩]) := by have := hG.made ⟨4, 1, (s : Int), 0⟩; rw [e1] at this; exact this
    rw [en] at gn hP
    obtain ⟨-, hB, hS, hK⟩ := node_in hG' gn (by simp; omega) (Nat.le_trans hP (by simp))
    generalize (pub (L ++ [⟨4, 1, (s : Int), 0⟩], L.length + 1)).2 = P at *
    unfold orgS at hS
    rw [if_pos hB] at hS
    unfold orgB at hB
    simp only [Bool.and_eq_true, decide_eq_true_eq] at hB
    obtain ⟨h5, h4⟩ := hB
    have tP : thr (L ++ [(⟨4, 1, (s : Int), 0⟩ : Tm)]).length (P : Int) = true := getT_kd (by rw [h5]; simp)
    obtain ⟨i, t, e, hi, hlt, ht⟩ := thr_open tP
    have mt := hG'.may i t hi
    rw [ht] at h5 h4 hS
    have ta : thr i t.a = true := by
      obtain ⟨kd, n, a, b⟩ := t
      simp only at h5
      subst h5
      simp [may] at mt
      exact mt.1.2
    have ha : thr (L ++ [(⟨4, 1, (s : Int), 0⟩ : Tm)]).length t.a = true := thr_mono ta (by omega)
    obtain ⟨j, u, f, hj, hjl, hu⟩ := thr_open ha
    have mu := hG'.may j u hj
    rw [hu] at h4 hS
    rw [h4] at mu
    rw [hS] at mu
    have ta' := thr_iff.1 ta
    simp [may, thr] at mu
    omega
theorem nxt_of {L : List Tm} (hG : Good L) {s : Nat} (hs : Gd (L, s)) {x : Int} (hf : folB L x (s : Int) = true) : nxt (L, s) = (L, x.toNat) ∧ ((x.toNat : Nat) : Int) = x ∧ Gd (L, x.toNat) := by
  unfold folB at hf
  simp only [Bool.and_eq_true, decide_eq_true_eq] at hf
  obtain ⟨h1, h2⟩ := num_getT hG hf.1 hf.2
  have m1 : may L.length ⟨4, 1, (s : Int), 0⟩ = true := may_nx hs 1 (by omega)
  obtain ⟨e1, e2⟩ := mk_in m1 h1
  have ht := thr_iff.1 hf.1
  refine ⟨?_, by omega, ⟨by simp; omega, by simp; omega⟩⟩
  unfold nxt
  simp only
  rw [e1, e2]
  congr 1
  omega
theorem putW_ends {k : Int × Int} : ∀ (l : List (Int × Int)) (acc : List (Int × Int)), (∀ p ∈ l, p.1 ≠ k.1) → l.foldl (putS k) (acc, true) = (acc ++ l, true)
  | [], acc, _ => by simp
  | p :: l, acc, h => by
    have hp := h p (by simp)
    have e : putS k (acc, true) p = (acc ++ [p], true) := by unfold putS; simp [hp]
    rw [List.foldl_cons, e, putW_ends l _ (fun q hq => h q (List.mem_cons_of_mem _ hq))]
    simp
def pend (k : Int × Int) (st : List (Int × Int) × Bool) : List (Int × Int) := if st.2 = true then st.1 else st.1 ++ [k]
theorem putF_ins0 {k : Int × Int} : ∀ (l acc : List (Int × Int)), (∀ p ∈ l, p.1 ≠ k.1) → pend k (l.foldl (putS k) (acc, false)) = acc ++ insK k l
  | [], acc, _ => by simp [insK, pend]
  | p :: l, acc, h => by
    have hp := h p (by simp)
    have hr : ∀ q ∈ l, q.1 ≠ k.1 := fun q hq => h q (List.mem_cons_of_mem _ hq)
    rw [List.foldl_cons]
    by_cases c : p.1 < k.1
    · have e : putS k (acc, false) p = (acc ++ [p], false) := by
        unfold putS
        have : decide (k.1 ≤ p.1) = false := decide_eq_false (by omega)
        simp [this, hp]
      rw [e, putF_ins0 l (acc ++ [p]) hr]
      conv => rhs; unfold insK
      rw [if_pos c]
      simp
    · have e : putS k (acc, false) p = (acc ++ [k] ++ [p], true) := by
        unfold putS
        have : decide (k.1 ≤ p.1) = true := decide_eq_true (by omega)
        simp [this, hp]
      rw [e, putW_ends l _ hr]
      conv => rhs; unfold insK
      rw [if_neg c]
      simp [pend]
theorem putF_ins {k : Int × Int} {l : List (Int × Int)} (h : ∀ p ∈ l, p.1 ≠ k.1) : putF l k = insK k l := by
  have := putF_ins0 l [] h
  simp only [List.nil_append] at this
  exact this
theorem rise_eq {l m : List (Int × Int)} (hl : l.Pairwise (fun a b => a.1 < b.1)) (hm : m.Pairwise (fun a b => a.1 < b.1)) (hp : l.Perm m) : l = m :=
  hp.eq_of_pairwise (fun a b _ _ h1 h2 => by omega) hl hm
theorem srt_snoc {l : List (Int × Int)} {k : Int × Int} (h : ((l ++ [k]).map (·.1)).Nodup) : insK k (srt l) = srt (l ++ [k]) := by
  have h0 : (l.map (·.1)).Nodup := by rw [List.map_append] at h; exact (List.nodup_append.1 h).1
  have hk : ∀ a ∈ srt l, a.1 ≠ k.1 := fun a ha c => by
    rw [List.map_append] at h
    exact (List.nodup_append.1 h).2.2 a.1 (List.mem_map.2 ⟨a, (srt_perm l).mem_iff.1 ha, rfl⟩) k.1 (by simp) c
  exact rise_eq (insK_sorted (srt_sorted h0) hk) (srt_sorted h) ((insK_perm k _).trans ((((srt_perm l).cons k)).trans ((List.perm_append_singleton k l).symm.trans (srt_perm _).symm)))
end Go.Proofs.YtpcpcgagiapinaaGreatDoor.Tn.Pa

/- What the two Aboves find is the same, plainly. No walk is in this text. -/
namespace Go.Proofs.YtpcpcgagiapinaaGreatDoor.Tn.Pa
open Go.RowKit Go.Maps
def abM (L : List Tm) (T : List Nd) (node : Int) (s : Nat) (us : List Int) (r : Option AbSt) : Prop :=
  match r with
  | some st => dW T (L, s) node us = (true, (L, st.2.toNat), srt st.1) ∧ ((st.2.toNat : Nat) : Int) = st.2 ∧ Gd (L, st.2.toNat) ∧ st.1.map (·.1) = node :: us
  | none => (dW T (L, s) node us).1 = false
theorem gd_pub {L : List Tm} {s : Nat} (hs : Gd (L, s)) (hl : L.length + 200 ≤ 1048575) : 1 ≤ (pub (L, s)).2 := by
  have g := key_gd hs (by simp only; omega)
  have q := key_len (L, s)
  simp only at q
  have g2 : Gd (pub (L, s)) := gd_of (may_pb g) (by omega)
  exact g2.1
theorem abM_beg {L : List Tm} (hG : Good L) {T : List Nd} {node : Int} {s : Nat} (hs : Gd (L, s)) (hl : L.length + 200 ≤ 1048575) (hP : pubAt T node = 0 ∨ thr L.length (pubAt T node) = true) : abM L T node s [] (abF L T node (s : Int) [node]) := by
  have e : abF L T node (s : Int) [node] = if stpB L T node (s : Int) (s : Int) node = true then some ([(node, orgK L (pubAt T node))], orgS L (pubAt T node)) else none := by unfold abF ab1; simp
  have e2 : stpB L T node (s : Int) (s : Int) node = decide (orgS L (pubAt T node) = (s : Int)) := by unfold stpB; simp
  rw [e, e2]
  have hs1 := hs.1
  simp only at hs1
  have ed : dW T (L, s) node [] = dBeg T (L, s) node := rfl
  have hp1 := gd_pub hs hl
  have ed2 : dW T (L, s) node [] = if pubAt T node = ((pub (L, s)).2 : Int) then (true, kept (L, s), [(node, ((key (L, s)).2 : Int))]) else (false, kept (L, s), []) := rfl
  generalize pubAt T node = P at hP e e2 ed2 ⊢
  by_cases hO : orgS L P = (s : Int)
  · rw [if_pos (by simpa using hO)]
    have tP : thr L.length P = true := by
      rcases hP with c | c
      · exfalso
        have : orgB L P = false := by unfold orgB; rw [c]; have : getT L 0 = ⟨0, 0, 0, 0⟩ := by unfold getT thr; simp
                                      rw [this]; simp
        unfold orgS at hO
        rw [this] at hO
        simp at hO
        omega
      · exact c
    have hn := node_of hG hs tP hO
    have hle : (pub (L, s)).2 ≤ L.length := by have := thr_iff.1 tP; omega
    obtain ⟨n1, n2, n3, n4⟩ := node_in hG hs (by omega) hle
    rw [hn] at n4
    rw [if_pos hn.symm] at ed2
    refine ⟨?_, ?_, ?_, rfl⟩
    · rw [ed2]
      simp only
      rw [hO, n4]
      unfold kept
      rw [n1]
      simp [srt, insK]
    · simp only; omega
    · simp only
      rw [hO]
      exact hs
  · rw [if_neg (by simpa using hO)]
    show (dW T (L, s) node []).1 = false
    rw [ed2, if_neg ?_]
    intro c
    have hle : (pub (L, s)).2 ≤ L.length := by
      rcases hP with q | q
      · omega
      · have := thr_iff.1 q; omega
    obtain ⟨n1, n2, n3, n4⟩ := node_in hG hs (by omega) hle
    rw [← c] at n3
    exact hO n3
theorem abM_step {L : List Tm} (hG : Good L) {T : List Nd} {node : Int} {s : Nat} (hl : L.length + 200 ≤ 1048575) {us : List Int} {x : Int} (hx : x ≠ node) (hP : thr L.length (pubAt T x) = true) (hnd : (node :: (us ++ [x])).Nodup) (ih : abM L T node s us (abF L T node (s : Int) (node :: us))) :
    abM L T node s (us ++ [x]) (abF L T node (s : Int) (node :: (us ++ [x]))) := by
  rw [← List.cons_append, abF_snoc]
  have ed := dW_snoc T (L, s) node us x
  cases hr : abF L T node (s : Int) (node :: us) with
  | none =>
    rw [hr] at ih
    show (dW T (L, s) node (us ++ [x])).1 = false
    have ih' : (dW T (L, s) node us).1 = false := ih
    rw [dW_app_off ih']
    exact ih'
  | some st =>
    rw [hr] at ih
    obtain ⟨h1, h2, h3, h4⟩ := ih
    obtain ⟨ks, last⟩ := st
    simp only at h1 h2 h3 h4
    have e1 : ab1 L T node (s : Int) (some (ks, last)) x = if folB L (orgS L (pubAt T x)) last = true then some (ks ++ [(x, orgK L (pubAt T x))], orgS L (pubAt T x)) else none := by
      unfold ab1 stpB
      simp [hx]
    rw [e1]
    have e2 : dStep T (true, (L, last.toNat), srt ks) x = if pubAt T x = ((pub (nxt (L, last.toNat))).2 : Int) then (true, kept (nxt (L, last.toNat)), putF (srt ks) (x, ((key (nxt (L, last.toNat))).2 : Int))) else (false, kept (nxt (L, last.toNat)), []) := by
      unfold dStep
      simp
    rw [h1, e2] at ed
    generalize pubAt T x = P at hP e1 e2 ed ⊢
    by_cases hf : folB L (orgS L P) last = true
    · rw [if_pos hf]
      obtain ⟨x1, x2, x3⟩ := nxt_of hG h3 (by rw [h2]; exact hf)
      have hn := node_of hG x3 hP x2.symm
      rw [x1, if_pos hn.symm] at ed
      have hle : (pub (L, (orgS L P).toNat)).2 ≤ L.length := by have := thr_iff.1 hP; omega
      obtain ⟨n1, n2, n3, n4⟩ := node_in hG x3 (by omega) hle
      rw [hn] at n4
      have hkeys : (ks ++ [(x, orgK L P)]).map (·.1) = node :: (us ++ [x]) := by rw [List.map_append, h4]; rfl
      have hni : ∀ p ∈ srt ks, p.1 ≠ x := fun p hp c => by
        have hm : x ∈ node :: us := by rw [← h4]; exact List.mem_map.2 ⟨p, (srt_perm ks).mem_iff.1 hp, c⟩
        rw [← List.cons_append] at hnd
        exact (List.nodup_append.1 hnd).2.2 x hm x (by simp) rfl
      refine ⟨?_, x2, x3, hkeys⟩
      rw [ed]
      simp only
      rw [← n4, putF_ins hni, srt_snoc (by rw [hkeys]; exact hnd)]
      unfold kept
      rw [n1]
    · rw [if_neg hf]
      show (dW T (L, s) node (us ++ [x])).1 = false
      rw [ed, if_neg ?_]
      intro c
      have hle : (pub (nxt (L, last.toNat))).2 ≤ L.length := by have := thr_iff.1 hP; omega
      obtain ⟨n1, n2, n3⟩ := nxt_in hG h3 hl hle
      generalize (nxt (L, last.toNat)).2 = m at n1 n2 n3
      rw [n1] at c hle
      have gm : Gd (L, m) := by have := thr_iff.1 n2; exact ⟨by simp only; omega, by simp only; omega⟩
      obtain ⟨k1, k2, k3, k4⟩ := node_in hG gm (by omega) hle
      rw [← c] at k3
      apply hf
      unfold folB
      rw [k3, n2, n3, h2]
      simp
theorem abM_all {L : List Tm} (hG : Good L) {T : List Nd} {node : Int} {s : Nat} (hs : Gd (L, s)) (hl : L.length + 200 ≤ 1048575) (hP : pubAt T node = 0 ∨ thr L.length (pubAt T node) = true) : ∀ (n : Nat) (us : List Int), us.length = n → (node :: us).Nodup → (∀ y ∈ us, thr L.length (pubAt T y) = true) → abM L T node s us (abF L T node (s : Int) (node :: us))
  | 0, us, h0, _, _ => by
    obtain rfl : us = [] := List.eq_nil_of_length_eq_zero h0
    exact abM_beg hG hs hl hP
  | n + 1, us, h0, hnd, hy => by
    have hne : us ≠ [] := by intro c; rw [c] at h0; simp at h0
    have e := List.dropLast_concat_getLast hne
    rw [← e] at hnd hy ⊢
    have hd : (us.dropLast).length = n := by rw [List.length_dropLast, h0]; rfl
    have hx : us.getLast hne ≠ node := fun c => by
      have := (List.nodup_cons.1 hnd).1
      exact this (by rw [← c]; simp)
    refine abM_step hG hl hx (hy _ (by simp)) hnd (abM_all hG hs hl hP n _ hd ?_ (fun y q => hy y (List.mem_append_left _ q)))
    rw [← List.cons_append] at hnd
    exact (List.nodup_append.1 hnd).1
end Go.Proofs.YtpcpcgagiapinaaGreatDoor.Tn.Pa
