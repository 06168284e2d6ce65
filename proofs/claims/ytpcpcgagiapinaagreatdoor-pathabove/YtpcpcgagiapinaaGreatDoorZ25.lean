/- Texts joined: PbD PbE PbF. -/
import Derived.Test.YtpcpcgagiapinaaGreatDoorZ22
import Derived.Test.YtpcpcgagiapinaaGreatDoorZ19
import Derived.Test.YtpcpcgagiapinaaGreatDoorZ24
import Derived.Test.YtpcpcgagiapinaaGreatDoorZ06
/- The contract of path.newRow. -/
namespace Go.Proofs.YtpcpcgagiapinaaGreatDoor.Tn.Pa
open Go.RowKit Go.Maps
theorem getD_of {α : Type} {l : List α} {i : Nat} {x d : α} (h : l[i]? = some x) : l.getD i d = x := by simp [List.getD, h]
set_option maxRecDepth 100000 in
set_option maxHeartbeats 8000000 in
theorem newRow_any {b : Nat} {sv : Value} {mb : Nat} {w : World} (p : List Tm × Nat) (T : List Nd) (v pv0 tv0 : Value) (pl : List Int) (tg : List (List Int))
    (h : St w b sv mb p.1) (hg : Gd p) (hT : Tfix (fun W => Fr (foot b sv mb) w W) v T) (hP : Nfix (fun W => Fr (foot b sv mb) w W) pv0 pl) (hR : Rfix (fun W => Fr (foot b sv mb) w W) tv0 tg)
    (hp1 : 1 ≤ pl.length) (hp10 : pl.length ≤ 10) (htl : tg.length + 1 ≤ pl.length) (hlen : ∀ l ∈ tg, l.length ≤ 72) (hin : ∀ l ∈ tg, ∀ y ∈ l, 0 ≤ y ∧ y.toNat < T.length ∧ thr p.1.length (ndAt T y.toNat).pub = true) (hTl : T.length ≤ 15) (hl : p.1.length + 1000 ≤ 1048575) :
    Calls Tryz.prog 69 #[.func (.func 22) #[.pointer (some ⟨b, 0, none⟩)] #[], .agg #[v], pv0, tv0, .int .i64 (p.2 : Nat)] w fun e w' => ∃ kv pv qv, e = .returned (.tuple #[.agg #[kv, pv, qv, .int .i64 ((sec p pl.length).2 : Nat)], .int .i64 0]) ∧ ∃ sv', EF (foot b sv mb) w w' [resS b sv' mb (nrQ T pl tg p).1, resW 71 2 kv (nrK pl p).2.1.length (kysC (nrK pl p).2.1), resN pv (nrK pl p).2.2, resW 76 3 qv (nrQ T pl tg p).2.length (slsC (nrQ T pl tg p).2)] := by
  obtain ⟨j0, hj, hy0, hy1, hy2⟩ := info_parts Tryz.infoInt
  obtain ⟨i0, hi, hz0, hz1, hz2⟩ := info_parts infoKey
  obtain ⟨k0, hk, hx0, hx1, hx2⟩ := info_parts infoSeal
  obtain ⟨ta, tc, rfl⟩ := hT.slice
  obtain ⟨pa, pc, rfl, hPc⟩ := hP
  obtain ⟨ra, rc, rfl, hRc⟩ := hR
  obtain ⟨n, hn⟩ : ∃ n, n = pl.length := ⟨_, rfl⟩
  obtain ⟨tn, htn⟩ : ∃ tn, tn = tg.length := ⟨_, rfl⟩
  obtain ⟨NT, hNT⟩ : ∃ NT, NT = T.length := ⟨_, rfl⟩
  obtain ⟨w0, hw0⟩ : ∃ w0, w0 = (w.alloc (.cells #[.slice ta NT tc] 44)).alloc (.cells #[nilV, nilV, nilV, .int .i64 0] 137) := ⟨_, rfl⟩
  have e0 : EF (foot b sv mb) w w0 [resS b sv mb p.1, resC (w.heap.size + 1) #[nilV, nilV, nilV, .int .i64 0] 137, resC w.heap.size #[.slice ta NT tc] 44] := by
    have := ((EF.one w (resS b sv mb p.1) h).newC #[.slice ta NT tc] 44).newC #[nilV, nilV, nilV, .int .i64 0] 137
    rw [World.size_alloc] at this
    rw [hw0]
    exact this.up 2 rfl
  have hs0 : w0.heap.size = w.heap.size + 2 := by rw [hw0]; simp
  have KS := hide (secrets_any p n e0.hd hg (by omega) (by omega))
  obtain ⟨ls, hls⟩ : ∃ ls, ls = row p n := ⟨_, rfl⟩
  obtain ⟨L1, hL1⟩ : ∃ L1, L1 = (sec p n).1 := ⟨_, rfl⟩
  obtain ⟨cm, hcm⟩ : ∃ cm, cm = (sec p n).2 := ⟨_, rfl⟩
  obtain ⟨z, hz⟩ : ∃ z, z = ls.zip pl := ⟨_, rfl⟩
  obtain ⟨RS, hRS⟩ : ∃ RS, RS = [resC (w.heap.size + 1) #[nilV, nilV, nilV, .int .i64 0] 137, resC w.heap.size #[.slice ta NT tc] 44] := ⟨_, rfl⟩
  have hlsl : ls.length = n + 1 := by rw [hls, row_len]
  have hL1l : L1.length ≤ p.1.length + n ∧ p.1.length ≤ L1.length := by rw [hL1]; exact sec_len p n
  have hlast : ls[n]? = some cm := by rw [hls, hcm]; exact row_last p n
  have hrng : ∀ x ∈ ls, 1 ≤ x ∧ x ≤ L1.length := by rw [hls, hL1]; exact row_rng hg n (by omega)
  -- what the key pairs are
  have HKP : Hid (∀ i, i < n → ∃ (s : Nat) (x : Int), ls[i]? = some s ∧ pl[i]? = some x ∧ kpF z L1 (i + 1) = kpS (kpF z L1 i) (s, x) ∧ 1 ≤ s ∧ s ≤ (kpF z L1 i).1.length ∧ (kpF z L1 i).1.length + 2 ≤ 1048576 ∧ (kpF z L1 i).2.1.length = i ∧ (kpF z L1 i).2.2.length = i) := fun i hi => by
    obtain ⟨s, hs⟩ : ∃ s, ls[i]? = some s := ⟨_, List.getElem?_eq_getElem (by omega)⟩
    obtain ⟨x, hx⟩ : ∃ x, pl[i]? = some x := ⟨_, List.getElem?_eq_getElem (by omega)⟩
    have hzi : z[i]? = some (s, x) := by rw [hz, List.getElem?_zip_eq_some]; exact ⟨hs, hx⟩
    have hle := kpF_len z L1 i
    have hr := hrng s (List.mem_of_getElem? hs)
    exact ⟨s, x, hs, hx, by simp only [kpF]; rw [getD_of hzi], hr.1, by omega, by omega, hle.2.2.1, hle.2.2.2⟩
  have HSL : Hid (∀ i l j y, tg[i]? = some l → l[j]? = some y → ∃ (s yn : Nat) (x : Int), ls[i + 1]? = some s ∧ pl[i + 1]? = some x ∧ y = (yn : Int) ∧ yn < NT ∧ sq T ls pl i y = ((ndAt T yn).pub, s, x, y) ∧ thr p.1.length (ndAt T yn).pub = true ∧ 1 ≤ s ∧ s ≤ L1.length) := fun i l j y hl1 hy => by
    have hi : i < tg.length := (List.getElem?_eq_some_iff.1 hl1).1
    obtain ⟨s, hs⟩ : ∃ s, ls[i + 1]? = some s := ⟨_, List.getElem?_eq_getElem (by omega)⟩
    obtain ⟨x, hx⟩ : ∃ x, pl[i + 1]? = some x := ⟨_, List.getElem?_eq_getElem (by omega)⟩
    obtain ⟨q1, q2, q3⟩ := hin l (List.mem_of_getElem? hl1) y (List.mem_of_getElem? hy)
    have hr := hrng s (List.mem_of_getElem? hs)
    exact ⟨s, y.toNat, x, hs, hx, by omega, by omega, by unfold sq; rw [getD_of hs, getD_of hx], q3, hr.1, hr.2⟩
  have HDL : Hid (∀ i l j, tg[i]? = some l → (dn T ls pl tg i ++ (l.take j).map (sq T ls pl i)).length ≤ 720 ∧ dn T ls pl tg (i + 1) = dn T ls pl tg i ++ l.map (sq T ls pl i)) := fun i l j hl1 => by
    have hi : i < tg.length := (List.getElem?_eq_some_iff.1 hl1).1
    have h1 := dn_len T ls pl tg 72 hlen i
    have h2 := hlen l (List.mem_of_getElem? hl1)
    refine ⟨?_, by simp only [dn]; rw [getD_of hl1]⟩
    rw [List.length_append, List.length_map, List.length_take]
    have : min j l.length ≤ l.length := Nat.min_le_right _ _
    have : i ≤ 8 := by omega
    omega
  have HLK := hide (show (kpF z L1 n).1.length ≤ p.1.length + 40 ∧ p.1.length ≤ (kpF z L1 n).1.length ∧ L1.length ≤ (kpF z L1 n).1.length by have := kpF_len z L1 n; omega)
  have HTn := hide hT
  have HT : Hid (∀ W, Fr (foot b sv mb) w W → ∀ yn, yn < NT → ∃ g o, ta = some ⟨g, o, none⟩ ∧ W.cell? ⟨g, o + yn * 4, none⟩ = some (.int .i64 (ndAt T yn).pub)) := fun W hW yn hy => by
    rcases hT with ⟨rfl, _⟩ | ⟨g, o, c, us, e, hh⟩
    · simp at hNT; omega
    · simp only [Value.slice.injEq] at e
      exact ⟨g, o, e.1, (hh W hW yn (by omega)).1.c0⟩
  have HPc : Hid (∃ g o, pa = some ⟨g, o, none⟩ ∧ ∀ W, Fr (foot b sv mb) w W → ∀ i x, pl[i]? = some x → W.cell? ⟨g, o + i, none⟩ = some (.int .i64 x)) := hPc (by omega)
  have HRc : Hid (0 < tn → ∃ g o, ra = some ⟨g, o, none⟩ ∧ ∀ i l, tg[i]? = some l → ∃ u, (∀ W, Fr (foot b sv mb) w W → W.cell? ⟨g, o + i, none⟩ = some u) ∧ Nfix (fun W => Fr (foot b sv mb) w W) u l) := fun q => hRc (by omega)
  have hnb : (n : Int) ≤ 10 := by omega
  have htb : (tn : Int) ≤ 10 := by omega
  have HN := hide (And.intro hlsl (And.intro hlast (And.intro htn (And.intro htl (And.intro hn (And.intro hl hlen))))))
  have HQ : Hid (nrK pl p = kpF z L1 n ∧ nrQ T pl tg p = slF (kpF z L1 n).1 (dn T ls pl tg tn)) := by
    refine ⟨?_, ?_⟩
    · unfold nrK; rw [← hn, ← hls, ← hL1, ← hz]
    · unfold nrQ nrK; rw [← hn, ← htn, ← hls, ← hL1, ← hz]
  rw [← hn, ← hcm, (unhide HQ).1, (unhide HQ).2]
  rw [← hls, ← hL1] at KS
  rw [← hNT, ← htn]
  have HE0 := hide (And.intro e0 hs0)
  have HRS := hide hRS
  have HW := hide hw0
  clear h hg hT hin hTl hp1 hp10 htl hlen hl hls hL1 hcm hz hlsl hL1l hlast hrng hPc hRc hn htn hNT e0 hs0 hw0 hRS HQ HTn
  generalize p.2 = seed at *
  generalize p.1.length = LP at *
  generalize p.1 = L0 at *
  go_enter Tryz.func69, Tryz.ntmps69
  go_wp2_with fail
  rw [← unhide HW]
  refine (unhide KS).mono ?_
  rintro e w1 ⟨la, lcap, rfl, sv1, k1⟩
  have e1 := (unhide HE0).1.rw k1
  obtain ⟨g, cp, el, -⟩ := own_open k1.r (by rw [(unhide HN).1]; omega)
  simp only [Value.slice.injEq] at el
  obtain ⟨rfl, -, -⟩ := el
  have dx := k1.r.at (g := g) rfl (unhide HN).2.1
  have HE1 := hide (nr_start (cm := cm) e1)
  obtain ⟨w2, hw2⟩ : ∃ w2, w2 = w1.alloc (.cells #[nilV, nilV, nilV, .int .i64 (cm : Int)] 137) := ⟨_, rfl⟩
  obtain ⟨rb, hrb⟩ : ∃ rb, rb = w1.heap.size := ⟨_, rfl⟩
  rw [← hw2, ← hrb] at HE1
  obtain ⟨lv, hlv⟩ : ∃ lv, lv = Value.slice (some ⟨g, 0, none⟩) (n + 1) lcap := ⟨_, rfl⟩
  rw [← hlv, ← unhide HRS] at HE1
  have HLV := hide hlv
  have HW2 := hide (And.intro hw2 hrb)
  have q0 : (n : Int) < ((n + 1 : Nat) : Int) := by omega
  clear KS HE0 HW e1 k1 hw2 hrb hlv
  go_upto_region 5 with fail
  rw [← (unhide HW2).1, ← (unhide HW2).2]
  clear HW2 dx
  go_wp2_with fail
  go_loopw [45] (fun iv wr => ∃ i : Nat, iv = .int .i64 (i : Int) ∧ i ≤ n ∧ Hid (∃ sv' kv pv, EF (foot b sv mb) w wr (nrR b sv' mb (kpF z L1 i).1 lv ls rb kv pv nilV cm (kpF z L1 i).2.1 (kpF z L1 i).2.2 [] RS))) (fun iv _ => (n - intOf iv).toNat)
  case atStart => exact ⟨0, rfl, by omega, ⟨sv1, nilV, nilV, unhide HE1⟩⟩
  case round =>
    clear HE1
    obtain ⟨i, rfl, hile, HR⟩ := hrel
    by_cases hlt : i < n
    · obtain ⟨sv', kv, pv, e2⟩ := unhide HR
      obtain ⟨s, x, hs, hx, hkp, hs1, hs2, hs3, hs4, hs5⟩ := unhide HKP i hlt
      obtain ⟨pg, po, hpa, hpc⟩ := unhide HPc
      subst hpa
      have d1 := hpc wr e2.fr i x hx
      have d2 := (show NRow 0 wr lv ls from e2.nth 5 rfl)
      rw [unhide HLV] at d2
      have d2 := d2.at (g := g) rfl hs
      obtain ⟨La, hLa⟩ : ∃ La, La = (kpF z L1 i).1 := ⟨_, rfl⟩
      obtain ⟨ks, hks⟩ : ∃ ks, ks = (kpF z L1 i).2.1 := ⟨_, rfl⟩
      obtain ⟨ps, hps⟩ : ∃ ps, ps = (kpF z L1 i).2.2 := ⟨_, rfl⟩
      have KP := keyPair_any (La, s) (hLa ▸ e2.hd) ⟨hs1, hLa ▸ hs2⟩ (hLa ▸ hs3)
      rw [← hLa, ← hks, ← hps] at e2
      rw [← hks] at hs4
      rw [← hps] at hs5
      obtain ⟨kk, hkk⟩ : ∃ kk, kk = (key (La, s)).2 := ⟨_, rfl⟩
      obtain ⟨pp, hpp⟩ : ∃ pp, pp = (pub (La, s)).2 := ⟨_, rfl⟩
      obtain ⟨Lb, hLb⟩ : ∃ Lb, Lb = (pub (La, s)).1 := ⟨_, rfl⟩
      have hnx : Hid (kpF z L1 (i + 1) = (Lb, ks ++ [(x, (kk : Int))], ps ++ [pp])) := by
        unfold Hid; rw [hkp, kpS, ← hLa, ← hks, ← hps, ← hkk, ← hpp, ← hLb]
      rw [← hkk, ← hpp, ← hLb] at KP
      have HK := hide KP
      have HE2 := hide e2
      have q1 : (i : Int) < (n : Int) := by omega
      have q2 : (i : Int) < ((n + 1 : Nat) : Int) := by omega
      have HX := hide (And.intro hs4 hs5)
      clear HR e2 hs hx hkp hs1 hs2 hs3 hs4 hs5 hpc KP hLa hks hps hkk hpp hLb
      go_wp2_with fail
      refine (unhide HK).mono ?_
      rintro e w3 ⟨rfl, sv3, s3⟩
      have e3 := ((unhide HE2).term s3).newC #[.int .i64 (kk : Int), .int .i64 (pp : Int)] 91
      obtain ⟨w4, hw4⟩ : ∃ w4, w4 = w3.alloc (.cells #[.int .i64 (kk : Int), .int .i64 (pp : Int)] 91) := ⟨_, rfl⟩
      obtain ⟨bb, hbb⟩ : ∃ bb, bb = w3.heap.size := ⟨_, rfl⟩
      rw [← hw4, ← hbb] at e3
      have e4 := nr_put (rest := RS) e3
      have c0 := blk_cell (i := 0) (show w4.heap[rb]? = some (.cells #[kv, pv, nilV, .int .i64 (cm : Int)] 137 (0, 0)) from e4.nth 1 rfl) rfl
      have c2 := blk_cell (i := 0) (show w4.heap[bb]? = some (.cells #[.int .i64 (kk : Int), .int .i64 (pp : Int)] 91 (0, 0)) from e4.nth 6 rfl) rfl
      have hrow : w4.ownsRow 0 71 2 kv ks.length (kysC ks) := e4.nth 2 rfl
      have HE4 := hide e4
      have HW4 := hide (And.intro hw4 hbb)
      have hm1 : ks.length + 1 ≤ maxLen := by have := (unhide HX).1; unfold maxLen; omega
      have hm2 : (ks.length + 1) * 16 ≤ 140737488355328 := by have := (unhide HX).1; omega
      clear s3 e3 e4 hw4 hbb HE2 HK d1 d2
      go_upto_region 11 with fail
      rw [← (unhide HW4).1, ← (unhide HW4).2]
      clear HW4
      go_wp2_with (at_builtin; refine wpList_append_own_at _ rfl (.tmp 64) (.tmp 69) 47 rfl 0 71 i0 (.agg #[.int .i64 0, .int .i64 0]) 2 16 Tryz.underlying47 hi hz0 hz1 hz2 rfl (by decide) kv ks.length (kysC ks) rfl (World.ownsRow.alloc hrow _) ⟨w4.heap.size, 0, none⟩ 1 1 [_, _] rfl rfl (cells_new2 _ _ _ _) (one2 _ _) hm1 hm2 (Nat.zero_le _) ?nx)
      case nx =>
        intro v' w5 hown' hgrow _ hat
        obtain ⟨e5, b5⟩ := nr_key (unhide HE4) hown' hgrow (by simpa using hat)
        obtain ⟨a5, cap5, rfl⟩ := own_slice hown'
        obtain ⟨kv5, hkv5⟩ : ∃ kv5, kv5 = Value.slice a5 (ks.length + 1) cap5 := ⟨_, rfl⟩
        have c5 := blk_cell (i := 0) b5 rfl
        have f5 := blk_froz (i := 0) b5
        obtain ⟨W5, hW5⟩ : ∃ W5, W5 = w5.setCell ⟨rb, 0, none⟩ (.slice a5 (ks.length + 1) cap5) := ⟨_, rfl⟩
        rw [← hW5, ← hkv5] at e5
        have c6 := blk_cell (i := 1) (show W5.heap[rb]? = some (.cells #[kv5, pv, nilV, .int .i64 (cm : Int)] 137 (0, 0)) from e5.nth 1 rfl) rfl
        have c7 := blk_cell (i := 1) (show W5.heap[bb]? = some (.cells #[.int .i64 (kk : Int), .int .i64 (pp : Int)] 91 (0, 0)) from e5.nth 6 rfl) rfl
        have hrow5 : W5.ownsRow 0 3 1 pv ps.length (ps.map (fun m => .int .i64 ((m : Nat) : Int))) := e5.nth 3 rfl
        have HE5 := hide e5
        have HW5 := hide hW5
        have hm3 : ps.length + 1 ≤ maxLen := by have := (unhide HX).2; unfold maxLen; omega
        have hm4 : (ps.length + 1) * 8 ≤ 140737488355328 := by have := (unhide HX).2; omega
        clear hown' hgrow hat e5 b5 hkv5 hW5 HE4 hrow c0 c2
        go_upto_region 12 with fail
        rw [← unhide HW5]
        clear HW5 c5 f5
        go_wp2_with (at_builtin; refine wpList_append_own_at _ rfl (.tmp 73) (.tmp 76) 27 rfl 0 3 j0 (.int .i64 0) 1 8 Tryz.underlying27 hj hy0 hy1 hy2 rfl (by decide) pv ps.length _ rfl (World.ownsRow.alloc hrow5 _) ⟨W5.heap.size, 0, none⟩ 1 1 [_] rfl rfl (cell_one_new _ _ _) (one_int _) hm3 hm4 (Nat.zero_le _) ?nx2)
        case nx2 =>
          intro v7 w7 hown7 hgrow7 _ hat7
          obtain ⟨e7, b7⟩ := nr_pub (unhide HE5) hown7 hgrow7 (by simpa using hat7)
          obtain ⟨a7, cap7, rfl⟩ := own_slice hown7
          have c8 := blk_cell (i := 1) b7 rfl
          have f8 := blk_froz (i := 1) b7
          have HE7 : Hid (∃ sv' kv pv, EF (foot b sv mb) w (w7.setCell ⟨rb, 1, none⟩ (.slice a7 (ps.length + 1) cap7)) (nrR b sv' mb (kpF z L1 (i + 1)).1 lv ls rb kv pv nilV cm (kpF z L1 (i + 1)).2.1 (kpF z L1 (i + 1)).2.2 [] RS)) := by
            rw [unhide hnx]; exact ⟨sv3, kv5, _, nr_drop e7⟩
          clear hown7 hgrow7 hat7 e7 b7 HE5 hrow5 c6 c7
          go_wp2_with fail
          go_roundw
          case rel => exact ⟨i + 1, by go_num, by omega, HE7⟩
          case measure => simp only [intOf]; omega
    · have hie : i = n := by omega
      subst hie
      obtain ⟨sv', kv, pv, e2⟩ := unhide HR
      obtain ⟨LK, hLK⟩ : ∃ LK, LK = (kpF z L1 i).1 := ⟨_, rfl⟩
      obtain ⟨ks, hks⟩ : ∃ ks, ks = (kpF z L1 i).2.1 := ⟨_, rfl⟩
      obtain ⟨ps, hps⟩ : ∃ ps, ps = (kpF z L1 i).2.2 := ⟨_, rfl⟩
      rw [← hLK, ← hks, ← hps] at e2
      rw [← hLK] at HLK
      have HLKs := hide (And.intro hLK (And.intro hks hps))
      have HE2 := hide e2
      clear HR e2 hLK hks hps HKP hlt hile
      rename World => wo
      go_wp2_with fail
      go_loopw [82] (fun iv wr => ∃ k : Nat, iv = .int .i64 (k : Int) ∧ k ≤ tn ∧ Hid (∃ sv' qv, EF (foot b sv mb) w wr (nrR b sv' mb (slF LK (dn T ls pl tg k)).1 lv ls rb kv pv qv cm ks ps (slF LK (dn T ls pl tg k)).2 RS))) (fun iv _ => (tn - intOf iv).toNat)
      case atStart => exact ⟨0, rfl, by omega, ⟨sv', nilV, unhide HE2⟩⟩
      case round =>
        clear HE2
        obtain ⟨k, rfl, hkt, HR⟩ := hrel
        by_cases hklt : k < tn
        · obtain ⟨l, hl⟩ : ∃ l, tg[k]? = some l := ⟨_, List.getElem?_eq_getElem (by have := (unhide HN).2.2.1; omega)⟩
          obtain ⟨rg, ro, hra, hrc⟩ := unhide HRc (by omega)
          subst hra
          obtain ⟨u, hu, ua, uc, rfl, huc⟩ := hrc k l hl
          obtain ⟨M, hM⟩ : ∃ M, M = l.length := ⟨_, rfl⟩
          rw [← hM] at hu huc
          obtain ⟨sv2, qv2, e3⟩ := unhide HR
          have d1 := hu wr e3.fr
          have hMb : (M : Int) ≤ 72 := by have := (unhide HN).2.2.2.2.2.2 l (List.mem_of_getElem? hl); omega
          have HS : Hid (∃ sv' qv, EF (foot b sv mb) w wr (nrR b sv' mb (slF LK (dn T ls pl tg k ++ (l.take 0).map (sq T ls pl k))).1 lv ls rb kv pv qv cm ks ps (slF LK (dn T ls pl tg k ++ (l.take 0).map (sq T ls pl k))).2 RS)) := by
            rw [List.take_zero, List.map_nil, List.append_nil]; exact ⟨sv2, qv2, e3⟩
          have HL := hide (And.intro hl hM)
          have HUC := hide huc
          have q1 : (k : Int) < (tn : Int) := by omega
          clear HR e3 hu hrc hl hM huc
          rename World => wo2
          go_wp2_with fail
          go_loopw [89] (fun iv wr => ∃ j : Nat, iv = .int .i64 (j : Int) ∧ j ≤ M ∧ Hid (∃ sv' qv, EF (foot b sv mb) w wr (nrR b sv' mb (slF LK (dn T ls pl tg k ++ (l.take j).map (sq T ls pl k))).1 lv ls rb kv pv qv cm ks ps (slF LK (dn T ls pl tg k ++ (l.take j).map (sq T ls pl k))).2 RS))) (fun iv _ => (M - intOf iv).toNat)
          case atStart => exact ⟨0, rfl, by omega, HS⟩
          case round =>
            clear HS d1
            obtain ⟨j, rfl, hjM, HR⟩ := hrel
            by_cases hjlt : j < M
            · obtain ⟨hl, hM⟩ := unhide HL
              obtain ⟨y, hy⟩ : ∃ y, l[j]? = some y := ⟨_, List.getElem?_eq_getElem (by omega)⟩
              obtain ⟨s, yn, x, hs, hx, rfl, hyn, hsq, ht, hs1, hs2⟩ := unhide HSL k l j y hl hy
              obtain ⟨D, hD⟩ : ∃ D, D = dn T ls pl tg k ++ (l.take j).map (sq T ls pl k) := ⟨_, rfl⟩
              have hDn : dn T ls pl tg k ++ (l.take (j + 1)).map (sq T ls pl k) = D ++ [((ndAt T yn).pub, s, x, (yn : Int))] := by
                rw [hD, List.take_add_one, hy, List.map_append, ← hsq, List.append_assoc]; rfl
              have hDl := (unhide HDL k l j hl).1
              rw [← hD] at hDl
              obtain ⟨sv2, qv2, e3⟩ := unhide HR
              rw [← hD] at e3
              obtain ⟨ug, uo, hua, huc⟩ := unhide HUC (by omega)
              subst hua
              have d1 := huc wr e3.fr j _ hy
              obtain ⟨Lc, hLc⟩ : ∃ Lc, Lc = (slF LK D).1 := ⟨_, rfl⟩
              obtain ⟨qs, hqs⟩ : ∃ qs, qs = (slF LK D).2 := ⟨_, rfl⟩
              have hsl := slF_len LK D
              rw [← hLc, ← hqs] at e3 hsl
              obtain ⟨a, ha⟩ : ∃ a, a = (ndAt T yn).pub := ⟨_, rfl⟩
              have hLK := unhide HLK
              have hln := (unhide HN).2.2.2.2.2.1
              have hta : thr Lc.length a = true := by rw [ha]; exact thr_more ht (by omega)
              have hts : thr Lc.length (s : Int) = true := thr_iff.2 (by omega)
              have hb1 : Below wr.heap.size wr wr.drew := (Below.refl _ _).drew
              have e4 := e3.new hb1
              have KM := make_ok (show St wr.drew b sv2 mb Lc from e4.hd) 6 0 a (s : Int) (ok_seal (by have := thr_rng hta (by omega); omega)) (may_seal hta hts) (by omega)
              obtain ⟨N, hN⟩ : ∃ N : Nat, N = mkN Lc ⟨6, 0, a, (s : Int)⟩ := ⟨_, rfl⟩
              obtain ⟨Ld, hLd⟩ : ∃ Ld, Ld = mkL Lc ⟨6, 0, a, (s : Int)⟩ := ⟨_, rfl⟩
              rw [← hN, ← hLd] at KM
              have HNX : Hid (slF LK (dn T ls pl tg k ++ (l.take (j + 1)).map (sq T ls pl k)) = (Ld, qs ++ [(x, (yn : Int), (N : Int))])) := by
                unfold Hid; rw [hDn, slF_snoc, slS, ← hLc, ← hqs, ← ha]; simp only; rw [← hN, ← hLd]
              obtain ⟨tg1, to1, hta1, d2⟩ := unhide HT wr e3.fr yn hyn
              obtain ⟨tg2, to2, hta2, d3⟩ := unhide HT wr.drew e4.fr yn hyn
              rw [hta1] at hta2
              simp only [Option.some.injEq, Addr.mk.injEq, and_true] at hta2
              obtain ⟨rfl, rfl⟩ := hta2
              subst hta1
              rw [← ha] at d2 d3
              have d4 := blk_cell (i := 0) (show wr.heap[w.heap.size]? = some (.cells #[.slice (some ⟨tg1, to1, none⟩) NT tc] 44 (0, 0)) by have := e3; rw [unhide HRS] at this; exact this.nth 7 rfl) rfl
              have d5 := blk_cell (i := 0) (show wr.drew.heap[w.heap.size]? = some (.cells #[.slice (some ⟨tg1, to1, none⟩) NT tc] 44 (0, 0)) by have := e4; rw [unhide HRS] at this; exact this.nth 7 rfl) rfl
              have d6 := show NRow 0 wr lv ls from e3.nth 5 rfl
              have d7 := show NRow 0 wr.drew lv ls from e4.nth 5 rfl
              rw [unhide HLV] at d6 d7
              have d6 := d6.at (g := g) rfl hs
              have d7 := d7.at (g := g) rfl hs
              obtain ⟨k1, hk1⟩ : ∃ k1 : Nat, k1 = k + 1 := ⟨_, rfl⟩
              rw [← hk1] at d6 d7
              have r2 : IntKind.i64.wrap ((k : Int) + 1) = (k1 : Int) := by rw [IntKind.wrap_i64]; omega
              have r3 : IntKind.i64.wrap (k1 : Int) = (k1 : Int) := by rw [IntKind.wrap_i64]; omega
              have r4 : (k1 : Int) < ((i + 1 : Nat) : Int) := by have := (unhide HN).2.2.1; have := (unhide HN).2.2.2.1; have := (unhide HN).2.2.2.2.1; omega
              have r4a : (k1 : Int) < (i : Int) + 1 := by omega
              have r4b : k1 < i + 1 := by omega
              have r4c : (0 : Int) ≤ (k1 : Int) := by omega
              have r5 : (yn : Int) < (NT : Int) := by omega
              have r6 : (j : Int) < (M : Int) := by omega
              have r7 : (k1 : Int) < (i : Int) := by have := (unhide HN).2.2.1; have := (unhide HN).2.2.2.1; have := (unhide HN).2.2.2.2.1; omega
              obtain ⟨pg, po, hpa, hpc⟩ := unhide HPc
              subst hpa
              have HPX : Hid (∀ W, Fr (foot b sv mb) w W → W.cell? ⟨pg, po + k1, none⟩ = some (.int .i64 x)) := fun W hW => by rw [hk1]; exact hpc W hW _ _ hx
              have hqb : qs.length ≤ 720 := by omega
              have HK := hide KM
              have HE4 := hide e4
              clear HR hl hM hy hs hx hsq ht hs1 hs2 hDn hDl huc hsl hLK hln hta hts hb1 e3 e4 KM hN hLd hpc hD hLc hqs ha hyn hk1
              go_upto_region 20 with fail
              go_region_law ((go_simp; go_wp2_with (first | (go_at_call 22; refine (unhide HK).mono ?_; rintro e_ zz ⟨rfl, sv5, s5⟩))))
              all_goals
                have e6 := (unhide HE4).term s5
                have c0 := blk_cell (i := 2) (show zz.heap[rb]? = some (.cells #[kv, pv, qv2, .int .i64 (cm : Int)] 137 (0, 0)) from e6.nth 1 rfl) rfl
                have c1 := unhide HPX zz e6.fr
                have hrow : zz.ownsRow 0 76 3 qv2 qs.length (slsC qs) := e6.nth 4 rfl
                have hb6 := bwA' zz (.cells #[.int .i64 x, .int .i64 (yn : Int), .int .i64 (N : Int)] 76)
                have e7 := e6.new hb6
                have c2 := blk_cell (i := 2) (show (zz.alloc (.cells #[.int .i64 x, .int .i64 (yn : Int), .int .i64 (N : Int)] 76)).heap[rb]? = some (.cells #[kv, pv, qv2, .int .i64 (cm : Int)] 137 (0, 0)) from e7.nth 1 rfl) rfl
                have hm1 : qs.length + 1 ≤ maxLen := by unfold maxLen; omega
                have hm2 : (qs.length + 1) * 24 ≤ 140737488355328 := by omega
                have HM := hide (And.intro hm1 hm2)
                have HE6 := hide e6
                have HROW := hide hrow
                clear e6 e7 s5 hrow hb6 hm1 hm2 HE4 HK d1 d2 d3 d4 d5 d6 d7 hqb
                go_upto_region 23 with fail
                go_region_law (refine step_append_own rfl (.tmp 115) (.tmp 124) 65 rfl 0 76 k0 (.agg #[.int .i64 0, .int .i64 0, .int .i64 0]) 3 24 Tryz.underlying65 hk hx0 hx1 hx2 rfl (by decide) qv2 qs.length (slsC qs) (by simp [Act.eval]) ((unhide HROW).drew.alloc _) ⟨zz.heap.size, 0, none⟩ 1 1 [.int .i64 x, .int .i64 (yn : Int), .int .i64 (N : Int)] (by simp [Act.eval]) rfl (cells_new3 zz.drew _ _ _ _) (one3 _ _ _) (unhide HM).1 (unhide HM).2 (Nat.zero_le _) ?_; intro v' w9 hown' hgrow hat; obtain ⟨E9, B9⟩ := nr_seal ((unhide HE6).new (Below.refl _ _).drew) hown' hgrow (by simpa using hat); have c9 := blk_cell (i := 2) B9 rfl; have f9 := blk_froz (i := 2) B9; obtain ⟨a9, cap9, rfl⟩ := own_slice hown')
                all_goals
                  have HE9 : Hid (∃ sv' qv, EF (foot b sv mb) w (w9.setCell ⟨rb, 2, none⟩ (.slice a9 (qs.length + 1) cap9)) (nrR b sv' mb (slF LK (dn T ls pl tg k ++ (l.take (j + 1)).map (sq T ls pl k))).1 lv ls rb kv pv qv cm ks ps (slF LK (dn T ls pl tg k ++ (l.take (j + 1)).map (sq T ls pl k))).2 RS)) := by
                    rw [unhide HNX]; exact ⟨sv5, _, E9⟩
                  clear hown' hgrow hat E9 B9 c9 f9 c0 c1 c2 HE6 HROW HM
                  go_wp2_with fail
                  go_roundw
                  case rel => exact ⟨j + 1, by go_num, by omega, HE9⟩
                  case measure => simp only [intOf]; omega
            · have hje : j = M := by omega
              subst hje
              have HX : Hid (∃ sv' qv, EF (foot b sv mb) w wr (nrR b sv' mb (slF LK (dn T ls pl tg (k + 1))).1 lv ls rb kv pv qv cm ks ps (slF LK (dn T ls pl tg (k + 1))).2 RS)) := by
                have := unhide HR
                rw [(unhide HDL k l 0 (unhide HL).1).2]
                rw [(unhide HL).2, List.take_length] at this
                exact this
              clear HR hjlt hjM
              go_wp2_with fail
              go_roundw
              case rel => exact ⟨k + 1, by go_num, by omega, HX⟩
              case measure => simp only [intOf]; omega
        · have hke : k = tn := by omega
          subst hke
          obtain ⟨sv2, qv2, e3⟩ := unhide HR
          obtain ⟨ka, kc, rfl⟩ := own_slice (show wr.ownsRow 0 71 2 kv _ _ from e3.nth 2 rfl)
          obtain ⟨ja, jc, rfl⟩ := own_slice (show wr.ownsRow 0 3 1 pv _ _ from e3.nth 3 rfl)
          obtain ⟨qa, qc, rfl⟩ := own_slice (show wr.ownsRow 0 76 3 qv2 _ _ from e3.nth 4 rfl)
          generalize hk0 : ks.length = KN at *
          generalize hk1 : ps.length = PN at *
          generalize hk2 : (slF LK (dn T ls pl tg k)).2.length = QN at *
          obtain ⟨kv, hkv⟩ : ∃ kv, kv = Value.slice ka KN kc := ⟨_, rfl⟩
          obtain ⟨pv, hpv⟩ : ∃ pv, pv = Value.slice ja PN jc := ⟨_, rfl⟩
          obtain ⟨qv2, hqv⟩ : ∃ qv2, qv2 = Value.slice qa QN qc := ⟨_, rfl⟩
          rw [← hkv, ← hpv, ← hqv] at e3
          have hb3 : wr.heap[rb]? = some (.cells #[kv, pv, qv2, .int .i64 (cm : Int)] 137 (0, 0)) := e3.nth 1 rfl
          have e4 := e3
          rw [unhide HRS] at e4
          have hb4 : wr.heap[w.heap.size + 1]? = some (.cells #[nilV, nilV, nilV, .int .i64 0] 137 (0, 0)) := e4.nth 6 rfl
          have e5 := (((((e4.up 6 rfl).poke (i := 0) kv).poke (i := 1) pv).poke (i := 2) qv2).poke (i := 3) (.int .i64 (cm : Int)))
          have g0 := blk_cell (i := 0) hb3 rfl
          have g1 := blk_cell (i := 1) hb3 rfl
          have g2 := blk_cell (i := 2) hb3 rfl
          have g3 := blk_cell (i := 3) hb3 rfl
          have y0 := blk_cell (i := 0) hb4 rfl
          have y1 := blk_cell (i := 1) hb4 rfl
          have y2 := blk_cell (i := 2) hb4 rfl
          have y3 := blk_cell (i := 3) hb4 rfl
          have yf := fun j => blk_froz (i := j) hb4
          have HE5 := hide e5
          obtain ⟨V, hV⟩ : ∃ V, V = (((wr.setCell ⟨w.heap.size + 1, 0, none⟩ kv).setCell ⟨w.heap.size + 1, 1, none⟩ pv).setCell ⟨w.heap.size + 1, 2, none⟩ qv2).setCell ⟨w.heap.size + 1, 3, none⟩ (.int .i64 (cm : Int)) := ⟨_, rfl⟩
          rw [← hV] at HE5
          rw [hkv, hpv, hqv] at hV
          rw [hkv] at g0
          rw [hpv] at g1
          rw [hqv] at g2
          have HV := hide hV
          have HVs := hide (And.intro hkv (And.intro hpv hqv))
          clear HR e3 e4 e5 hb3 hb4 hV hkv hpv hqv hk0 hk1 hk2
          go_wp2_with fail
          rw [← unhide HV]
          have hb5 : V.heap[w.heap.size + 1]? = some (.cells #[kv, pv, qv2, .int .i64 (cm : Int)] 137 (0, 0)) := (unhide HE5).hd
          have k0 := blk_cell (i := 0) hb5 rfl
          have k1 := blk_cell (i := 1) hb5 rfl
          have k2 := blk_cell (i := 2) hb5 rfl
          have k3 := blk_cell (i := 3) hb5 rfl
          obtain ⟨rfl, rfl, rfl⟩ := unhide HLKs
          obtain ⟨rfl, rfl, rfl⟩ := unhide HVs
          refine bodyPost_ret (v := .tuple #[.agg #[.slice ka KN kc, .slice ja PN jc, .slice qa QN qc, .int .i64 (cm : Int)], .int .i64 0]) (by simp [results, Tryz.results69, go_sem, k0, k1, k2, k3]) rfl ⟨_, _, _, rfl, sv2, ?_⟩
          exact (unhide HE5).sub (.cons _ (.cons_cons _ (.cons _ (.cons_cons _ (.cons_cons _ (.cons_cons _ (List.nil_sublist _)))))))
end Go.Proofs.YtpcpcgagiapinaaGreatDoor.Tn.Pa

/- The contract of the closure of path.Make. -/
namespace Go.Proofs.YtpcpcgagiapinaaGreatDoor.Tn.Pa
open Go.RowKit Go.Maps
theorem Nfix.mono {F G : World → Prop} {v : Value} {l : List Int} (h : Nfix F v l) (hG : ∀ W, G W → F W) : Nfix G v l := by
  obtain ⟨a, c, e, h⟩ := h
  refine ⟨a, c, e, fun q => ?_⟩
  obtain ⟨g, o, e2, hh⟩ := h q
  exact ⟨g, o, e2, fun W hW => hh W (hG W hW)⟩
theorem Rfix.mono {F G : World → Prop} {v : Value} {ls : List (List Int)} (h : Rfix F v ls) (hG : ∀ W, G W → F W) : Rfix G v ls := by
  obtain ⟨a, c, e, h⟩ := h
  refine ⟨a, c, e, fun q => ?_⟩
  obtain ⟨g, o, e2, hh⟩ := h q
  refine ⟨g, o, e2, fun i l hl => ?_⟩
  obtain ⟨u, h1, h2⟩ := hh i l hl
  exact ⟨u, fun W hW => h1 W (hG W hW), h2.mono hG⟩
theorem nfix_ints {B : Nat} {w : World} {b : Nat} {sv : Value} {mb : Nat} {L : List Tm} {v : Value} {l : List Int} (h : Ints B w v l) (hs : St w b sv mb L) : Nfix (fun W => Fr (foot b sv mb) w W) v l := by
  obtain ⟨a, c, rfl⟩ := own_slice h
  refine ⟨a, c, rfl, fun q => ?_⟩
  obtain ⟨g, cp, e, hg, -⟩ := own_open h q
  simp only [Value.slice.injEq] at e
  obtain ⟨rfl, -, -⟩ := e
  refine ⟨g, 0, rfl, fun W hW i x hx => ?_⟩
  obtain ⟨cur, hb⟩ := own_kind h (k := g) rfl
  have h' : W.ownsRow B 3 1 (.slice (some ⟨g, 0, none⟩) l.length c) l.length (l.map I64) := own_keep h (fun k hk => by simp [Value.ownBlock] at hk; subst hk; rw [hW.block _ (lt_of_blk hb) (hs.notin hb (by decide) (by decide))])
  have := own_cell h' (g := g) rfl (j := i) (u := I64 x) (by simp [hx])
  rw [Nat.zero_add]
  exact this
theorem mv_grown0 {W W5 : World} {v v' : Value} (hg : W.grownBy W5 v.ownBlock) (hat : v'.ownBlock = v.ownBlock ∨ v'.ownBlock = some W.heap.size) : Mv W W5 v.ownBlock.toList v'.ownBlock.toList := by
  refine ⟨Fr.ofGrown hg, fun x hx => ?_⟩
  rcases hat with c | c
  · rw [c] at hx; exact Or.inl hx
  · rw [c] at hx; simp at hx; right; omega
theorem EF.alloc {F : List Nat} {w W : World} {rs : List Res} (h : EF F w W rs) (ob : Obj) : EF F w (W.alloc ob) rs := h.new (bwA' _ _)
theorem EF.newW1 {F : List Nat} {w W : World} {rs : List Res} (h : EF F w W rs) (x : Int) : EF F w (W.alloc (.cells #[.int .i64 x] 3)) (resW 3 1 (.slice (some ⟨W.heap.size, 0, none⟩) 1 1) 1 [.int .i64 x] :: rs) :=
  h.add _ (bwA' _ _) (show World.ownsRow _ _ _ _ _ _ _ from ⟨rfl, Or.inr ⟨W.heap.size, 1, #[.int .i64 x], rfl, Nat.zero_le _, heap_alloc_new _ _, Nat.le_refl _, by unfold maxLen; omega, rfl, rfl⟩⟩) (by intro y hy; simp [resW, Value.ownBlock] at hy; omega)
def mkR (b : Nat) (sv : Value) (mb : Nat) (T : List Nd) (pl : List Int) (tg : List (List Int)) (p : List Tm × Nat) (kv pv qv : Value) : List Res :=
  [resS b sv mb (nrQ T pl tg p).1, resW 71 2 kv (nrK pl p).2.1.length (kysC (nrK pl p).2.1), resN pv (nrK pl p).2.2, resW 76 3 qv (nrQ T pl tg p).2.length (slsC (nrQ T pl tg p).2)]
set_option maxRecDepth 100000 in
set_option maxHeartbeats 8000000 in
theorem make1_any {b : Nat} {sv : Value} {mb : Nat} {w : World} (p : List Tm × Nat) (T : List Nd) (v nv tv : Value) (i : Nat) (nds : List Int) (tg : List (List Int)) (p1 p2 p3 p4 p5 : Nat)
    (h : St w b sv mb p.1) (hg : Gd p) (hT : Tfix (fun W => Fr (foot b sv mb) w W) v T) (hN : Ints 0 w nv nds) (hR : Rfix (fun W => Fr (foot b sv mb) w W) tv tg)
    (k1 : w.heap[p1]? = some (.cells #[v] 44 (0, 0))) (k2 : w.heap[p2]? = some (.cells #[.int .i64 (i : Int)] 3 (0, 0))) (k3 : w.heap[p3]? = some (.cells #[nv] 27 (0, 0))) (k4 : w.heap[p4]? = some (.cells #[tv] 133 (0, 0))) (k5 : w.heap[p5]? = some (.cells #[.int .i64 (p.2 : Nat)] 3 (0, 0)))
    (hi : i ≤ 7) (hp10 : nds.length ≤ 3) (htl : tg.length ≤ nds.length) (hlen : ∀ l ∈ tg, l.length ≤ 72) (hin : ∀ l ∈ tg, ∀ y ∈ l, 0 ≤ y ∧ y.toNat < T.length ∧ thr p.1.length (ndAt T y.toNat).pub = true) (hTl : T.length ≤ 15) (hl : p.1.length + 1000 ≤ 1048575) :
    Calls Tryz.prog 68 #[.func (.func 22) #[.pointer (some ⟨b, 0, none⟩)] #[], .pointer (some ⟨p1, 0, none⟩), .pointer (some ⟨p2, 0, none⟩), .pointer (some ⟨p3, 0, none⟩), .pointer (some ⟨p4, 0, none⟩), .pointer (some ⟨p5, 0, none⟩)] w fun e w' => ∃ kv pv qv, e = .returned (.tuple #[.agg #[kv, pv, qv, .int .i64 ((sec p (nds.length + 1)).2 : Nat)], .int .i64 0]) ∧ ∃ sv', EF (foot b sv mb) w w' (mkR b sv' mb T (((2 * i : Nat) : Int) :: nds) tg p kv pv qv) := by
  obtain ⟨ta, tc, rfl⟩ := hT.slice
  obtain ⟨na, nc, rfl⟩ := own_slice hN
  obtain ⟨ra, rc, rfl, hRc⟩ := hR
  have hR : Rfix (fun W => Fr (foot b sv mb) w W) (.slice ra tg.length rc) tg := ⟨ra, rc, rfl, hRc⟩
  obtain ⟨w0, hw0⟩ : ∃ w0, w0 = w.alloc (.cells #[nilV, nilV, nilV, .int .i64 0] 137) := ⟨_, rfl⟩
  have e0 : EF (foot b sv mb) w w0.drew [resS b sv mb p.1, resC w.heap.size #[nilV, nilV, nilV, .int .i64 0] 137] := by
    rw [hw0]
    exact (((EF.one w (resS b sv mb p.1) h).newC #[nilV, nilV, nilV, .int .i64 0] 137).up 1 rfl).new (Below.refl _ _).drew
  have HC : Hid (∀ W, Fr (foot b sv mb) w W → W.cell? ⟨p1, 0, none⟩ = some (.slice ta T.length tc) ∧ W.cell? ⟨p2, 0, none⟩ = some (.int .i64 (i : Int)) ∧ W.cell? ⟨p3, 0, none⟩ = some (.slice na nds.length nc) ∧ W.cell? ⟨p4, 0, none⟩ = some (.slice ra tg.length rc) ∧ W.cell? ⟨p5, 0, none⟩ = some (.int .i64 (p.2 : Nat))) := fun W hW =>
    ⟨blk_cell (kept_fr k1 h hW (by decide) (by decide)) rfl, blk_cell (kept_fr k2 h hW (by decide) (by decide)) rfl, blk_cell (kept_fr k3 h hW (by decide) (by decide)) rfl, blk_cell (kept_fr k4 h hW (by decide) (by decide)) rfl, blk_cell (kept_fr k5 h hW (by decide) (by decide)) rfl⟩
  obtain ⟨I2, hI2⟩ : ∃ I2 : Nat, I2 = 2 * i := ⟨_, rfl⟩
  rw [← hI2]
  have HNW : Hid (∀ W, EF (foot b sv mb) w W [resS b sv mb p.1, resC w.heap.size #[nilV, nilV, nilV, .int .i64 0] 137] → ∀ va vc m, Ints 0 W (.slice va m vc) ((I2 : Int) :: nds) → Calls Tryz.prog 69 #[.func (.func 22) #[.pointer (some ⟨b, 0, none⟩)] #[], .agg #[.slice ta T.length tc], .slice va m vc, .slice ra tg.length rc, .int .i64 (p.2 : Nat)] W fun e w' => ∃ kv pv qv, e = .returned (.tuple #[.agg #[kv, pv, qv, .int .i64 ((sec p (nds.length + 1)).2 : Nat)], .int .i64 0]) ∧ ∃ sv', EF (foot b sv mb) w w' (mkR b sv' mb T ((I2 : Int) :: nds) tg p kv pv qv ++ [resC w.heap.size #[nilV, nilV, nilV, .int .i64 0] 137])) := fun W hE va vc m hI => by
    have hmn : ∀ V, Fr (foot b sv mb) W V → Fr (foot b sv mb) w V := fun V hV => hE.fr.trans hV (fun _ _ c => c) (fun _ _ c => c)
    refine (newRow_any p T _ _ _ ((I2 : Int) :: nds) tg hE.hd hg (hT.mono hmn) (nfix_ints hI hE.hd) (hR.mono hmn) (by simp) (by simp; omega) (by simp; omega) hlen hin hTl hl).mono ?_
    rintro e w' ⟨kv, pv, qv, rfl, sv', k⟩
    exact ⟨kv, pv, qv, rfl, sv', hE.join k⟩
  have HNM : Hid (∀ W, Fr (foot b sv mb) w W → Nums W (.slice na nds.length nc) nds) := fun W hW => by
    have h' : Ints 0 W (.slice na nds.length nc) nds := own_keep hN (fun k hk => by obtain ⟨cur, hb⟩ := own_kind hN hk; rw [hW.block _ (lt_of_blk hb) (h.notin hb (by decide) (by decide))])
    exact Ints.nums h'
  obtain ⟨CMt, hCM⟩ : ∃ CM : Nat, CM = (sec p (nds.length + 1)).2 := ⟨_, rfl⟩
  rw [← hCM] at HNW ⊢
  obtain ⟨NN, hNN⟩ : ∃ NN, NN = nds.length := ⟨_, rfl⟩
  obtain ⟨TN, hTN⟩ : ∃ TN, TN = tg.length := ⟨_, rfl⟩
  obtain ⟨NT, hNT⟩ : ∃ NT, NT = T.length := ⟨_, rfl⟩
  rw [← hNT, ← hNN, ← hTN] at HC
  rw [← hNT, ← hTN] at HNW
  rw [← hNN] at HNM
  have HLN : Hid ([(I2 : Int)].length + nds.length ≤ 100000) := by unfold Hid; simp; omega
  have S0 := unhide HC _ e0.fr
  have e1 := (e0.newW1 (I2 : Int)).up 1 rfl
  have S1 := unhide HC _ e1.fr
  have HE0 := hide e0
  have HE1 := hide e1
  have HW := hide hw0
  obtain ⟨q1, q2⟩ : IntKind.i64.wrap (2 * (i : Int)) = (I2 : Int) ∧ IntKind.i64.wrap (I2 : Int) = (I2 : Int) := by constructor <;> (rw [IntKind.wrap_i64]; omega)
  have SX : w0.cell? ⟨p1, 0, none⟩ = _ ∧ w0.cell? ⟨p2, 0, none⟩ = _ ∧ w0.cell? ⟨p3, 0, none⟩ = _ ∧ w0.cell? ⟨p4, 0, none⟩ = _ ∧ w0.cell? ⟨p5, 0, none⟩ = _ := S0
  clear h hg hT hN hR hRc k1 k2 k3 k4 k5 hi hp10 htl hlen hin hTl hl e0 e1 hw0 hI2 hCM hNN hTN hNT
  generalize p.2 = seed at *
  go_enter Tryz.func68, Tryz.ntmps68
  go_upto_region 1 with fail
  rw [← unhide HW]
  go_region_held3 (fun w' : World => w'.cell? ⟨p1, 0, none⟩ = some (.slice ta NT tc) ∧ w'.cell? ⟨p2, 0, none⟩ = some (.int .i64 (i : Int)) ∧ w'.cell? ⟨p3, 0, none⟩ = some (.slice na NN nc) ∧ w'.cell? ⟨p4, 0, none⟩ = some (.slice ra TN rc) ∧ w'.cell? ⟨p5, 0, none⟩ = some (.int .i64 (seed : Nat))) (first | with_reducible exact SX | with_reducible exact S0 | with_reducible exact S1 | with_reducible exact S2 | with_reducible exact S3 | with_reducible exact S4 | go_keep) (first
      | (go_at_call 69; refine (unhide HNW z1 E2 va vc _ R1).mono ?_; rintro e_ z2 ⟨kv, pv, qv, rfl, sv2, E3⟩; have S3 := unhide HC _ E3.fr; obtain ⟨ka, kc, rfl⟩ := own_slice (show World.ownsRow z2 0 71 2 kv _ _ from E3.nth 1 rfl); obtain ⟨ja, jc, rfl⟩ := own_slice (show World.ownsRow z2 0 3 1 pv _ _ from E3.nth 2 rfl); obtain ⟨qa, qc, rfl⟩ := own_slice (show World.ownsRow z2 0 76 3 qv _ _ from E3.nth 3 rfl); have B3 : z2.heap[w.heap.size]? = some (.cells #[nilV, nilV, nilV, .int .i64 0] 137 (0, 0)) := E3.nth 4 rfl; have y0 := blk_cell (i := 0) B3 rfl; have y1 := blk_cell (i := 1) B3 rfl; have y2 := blk_cell (i := 2) B3 rfl; have y3 := blk_cell (i := 3) B3 rfl; have yf := fun j => blk_froz (i := j) B3; have E4 := (((((E3.up 4 rfl).poke (i := 0) (.slice ka (nrK ((I2 : Int) :: nds) p).2.1.length kc)).poke (i := 1) (.slice ja (nrK ((I2 : Int) :: nds) p).2.2.length jc)).poke (i := 2) (.slice qa (nrQ T ((I2 : Int) :: nds) tg p).2.length qc)).poke (i := 3) (.int .i64 (CMt : Int))); have S4 := unhide HC _ E4.fr)
      | (refine step_join rfl (.tmp 13) (.tmp 14) rfl 0 (.slice (some ⟨w0.heap.size, 0, none⟩) 1 1) (.slice na NN nc) [(I2 : Int)] nds (by simp [Act.eval]) (show Ints 0 _ _ [(I2 : Int)] from (unhide HE1).nth 1 rfl) (by simp [Act.eval]) (unhide HNM _ (unhide HE1).fr) (unhide HLN) (Nat.zero_le _) ?_; intro v' z1 R1 hgr hpl; obtain ⟨va, vc, rfl⟩ := own_slice R1; have E2 := (((unhide HE1).up 1 rfl).step (r' := resW 3 1 (.slice va ([(I2 : Int)] ++ nds).length vc) _ _) (mv_grown0 hgr hpl) R1).drop; have S2 := unhide HC _ E2.fr)
      | fail)
  all_goals
    obtain ⟨V, hV⟩ : ∃ V, V = (((z2.setCell ⟨w.heap.size, 0, none⟩ (.slice ka (nrK ((I2 : Int) :: nds) p).2.1.length kc)).setCell ⟨w.heap.size, 1, none⟩ (.slice ja (nrK ((I2 : Int) :: nds) p).2.2.length jc)).setCell ⟨w.heap.size, 2, none⟩ (.slice qa (nrQ T ((I2 : Int) :: nds) tg p).2.length qc)).setCell ⟨w.heap.size, 3, none⟩ (.int .i64 (CMt : Int)) := ⟨_, rfl⟩
    rw [← hV] at E4
    have hb5 : V.heap[w.heap.size]? = some (.cells #[.slice ka (nrK ((I2 : Int) :: nds) p).2.1.length kc, .slice ja (nrK ((I2 : Int) :: nds) p).2.2.length jc, .slice qa (nrQ T ((I2 : Int) :: nds) tg p).2.length qc, .int .i64 (CMt : Int)] 137 (0, 0)) := E4.hd
    have k0 := blk_cell (i := 0) hb5 rfl
    have k1 := blk_cell (i := 1) hb5 rfl
    have k2 := blk_cell (i := 2) hb5 rfl
    have k3 := blk_cell (i := 3) hb5 rfl
    have HE4 := hide E4.drop
    have HV := hide hV
    clear E2 E3 E4 S0 S1 S2 S3 S4 SX y0 y1 y2 y3 yf B3 R1 hgr hpl hb5 HNW HNM HE0 HE1 hV
    go_wp2_with fail
    rw [← unhide HV]
    exact bodyPost_ret (v := .tuple #[.agg #[.slice ka (nrK ((I2 : Int) :: nds) p).2.1.length kc, .slice ja (nrK ((I2 : Int) :: nds) p).2.2.length jc, .slice qa (nrQ T ((I2 : Int) :: nds) tg p).2.length qc, .int .i64 (CMt : Int)], .int .i64 0]) (by simp [results, Tryz.results68, go_sem, k0, k1, k2, k3]) rfl ⟨_, _, _, rfl, sv2, unhide HE4⟩
end Go.Proofs.YtpcpcgagiapinaaGreatDoor.Tn.Pa

/- The contract of AllOrNone of a path's row. -/
namespace Go.Proofs.YtpcpcgagiapinaaGreatDoor.Tn.Pa
open Go.RowKit Go.Maps
theorem EF.four {F : List Nat} {w W : World} {k : Nat} {a0 a1 a2 a3 : Value} {t : TypeId} {rs : List Res} (h : EF F w W (resC k #[a0, a1, a2, a3] t :: rs)) (v0 v1 v2 v3 : Value) :
    EF F w ((((W.setCell ⟨k, 0, none⟩ v0).setCell ⟨k, 1, none⟩ v1).setCell ⟨k, 2, none⟩ v2).setCell ⟨k, 3, none⟩ v3) (resC k #[v0, v1, v2, v3] t :: rs) :=
  (((h.poke (i := 0) v0).poke (i := 1) v1).poke (i := 2) v2).poke (i := 3) v3
set_option maxRecDepth 100000 in
set_option maxHeartbeats 4000000 in
theorem aonR {b : Nat} {sv : Value} {mb : Nat} {L : List Tm} {w : World} (h : St w b sv mb L) (m : Int) (hm : 0 ≤ m) (hl : (L.length : Int) + m ≤ 1048575) (cb : Array Value) (cm : Nat) (R : Value → Value → Value → Value → List Res) (kl pl ql : Nat)
    (hR : ∀ F sv kv pv qv w W, EF F w W (R sv kv pv qv) → (∃ a c, kv = .slice a kl c) ∧ (∃ a c, pv = .slice a pl c) ∧ (∃ a c, qv = .slice a ql c))
    (K : ∀ W, Below w.heap.size w W → Calls Tryz.prog 68 (#[.func (.func 22) #[.pointer (some ⟨b, 0, none⟩)] #[]] ++ cb) W fun e w' => ∃ kv pv qv, e = .returned (.tuple #[.agg #[kv, pv, qv, .int .i64 (cm : Int)], .int .i64 0]) ∧ ∃ sv', EF (foot b sv mb) W w' (R sv' kv pv qv)) :
    Calls Tryz.prog 67 #[.pointer (some ⟨b, 0, none⟩), .int .i64 m, .func (.func 68) #[] cb] w fun e w' => ∃ kv pv qv, e = .returned (.tuple #[.agg #[kv, pv, qv, .int .i64 (cm : Int)], .int .i64 0]) ∧ ∃ sv', EF (foot b sv mb) w w' (R sv' kv pv qv) := by
  obtain ⟨w0, hw0⟩ : ∃ w0, w0 = w.alloc (.cells #[nilV, nilV, nilV, .int .i64 0] 137) := ⟨_, rfl⟩
  have x0 : Below w.heap.size w w0 := by rw [hw0]; exact bwA' _ _
  have e0 : EF (foot b sv mb) w w0 [resS b sv mb L, resC w.heap.size #[nilV, nilV, nilV, .int .i64 0] 137] := by
    rw [hw0]
    exact (((EF.one w (resS b sv mb L) h).newC #[nilV, nilV, nilV, .int .i64 0] 137).up 1 rfl)
  have HW := hide hw0
  have KL := hide (len_any b sv mb L w0 e0.hd)
  have KF := hide (K w0 x0)
  have HE0 := hide e0
  have HRR := hide hR
  obtain ⟨N, hN⟩ : ∃ N : Int, N = (L.length : Int) := ⟨_, rfl⟩
  rw [← hN] at KL
  obtain ⟨RR, hRR⟩ : ∃ RR : Int, RR = 1048576 - N := ⟨_, rfl⟩
  have q0 : (1048576 : Int) - N = RR := hRR.symm
  have q1 : IntKind.i64.wrap RR = RR := by rw [IntKind.wrap_i64]; omega
  have q2 : 0 < RR := by omega
  have q3 : decide (RR < m) = false := decide_eq_false (by omega)
  have q4 : m ≤ RR := by omega
  clear h hl hw0 x0 hN hRR K hm hR e0
  go_enter Tryz.func67, Tryz.ntmps67
  go_wp2_with fail
  rw [← unhide HW]
  refine (unhide KL).mono ?_
  rintro e w0 ⟨rfl, rfl⟩
  clear KL HW
  go_wp2_with fail
  refine (unhide KF).mono ?_
  rintro e w4 ⟨kv, pv, qv, rfl, sv4, s4⟩
  have E4 := ((unhide HE0).join s4)
  obtain ⟨⟨ka, kc, rfl⟩, ⟨ja, jc, rfl⟩, ⟨qa, qc, rfl⟩⟩ := unhide HRR _ _ _ _ _ _ _ s4
  have E5 := E4.perm (List.perm_append_comm)
  have B3 : w4.heap[w.heap.size]? = some (.cells #[nilV, nilV, nilV, .int .i64 0] 137 (0, 0)) := E5.hd
  have E6 := E5.four (.slice ka kl kc) (.slice ja pl jc) (.slice qa ql qc) (.int .i64 (cm : Int))
  have y0 := blk_cell (i := 0) B3 rfl
  have y1 := blk_cell (i := 1) B3 rfl
  have y2 := blk_cell (i := 2) B3 rfl
  have y3 := blk_cell (i := 3) B3 rfl
  have yf := fun j => blk_froz (i := j) B3
  obtain ⟨V, hV⟩ : ∃ V, V = (((w4.setCell ⟨w.heap.size, 0, none⟩ (.slice ka kl kc)).setCell ⟨w.heap.size, 1, none⟩ (.slice ja pl jc)).setCell ⟨w.heap.size, 2, none⟩ (.slice qa ql qc)).setCell ⟨w.heap.size, 3, none⟩ (.int .i64 (cm : Int)) := ⟨_, rfl⟩
  rw [← hV] at E6
  have HE6 := hide E6
  have HV := hide hV
  clear s4 E4 E5 E6 KF q0 q1 q2 q3 q4 HE0 B3 hV HRR
  go_wp2_with fail
  rw [← unhide HV]
  have hb5 : V.heap[w.heap.size]? = some (.cells #[.slice ka kl kc, .slice ja pl jc, .slice qa ql qc, .int .i64 (cm : Int)] 137 (0, 0)) := (unhide HE6).hd
  have k0 := blk_cell (i := 0) hb5 rfl
  have k1 := blk_cell (i := 1) hb5 rfl
  have k2 := blk_cell (i := 2) hb5 rfl
  have k3 := blk_cell (i := 3) hb5 rfl
  exact bodyPost_ret (v := .tuple #[.agg #[.slice ka kl kc, .slice ja pl jc, .slice qa ql qc, .int .i64 (cm : Int)], .int .i64 0]) (by simp [results, Tryz.results67, go_sem, k0, k1, k2, k3]) rfl ⟨_, _, _, rfl, sv4, (unhide HE6).drop⟩
end Go.Proofs.YtpcpcgagiapinaaGreatDoor.Tn.Pa
