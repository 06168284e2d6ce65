/- Touched of package ledger: what it answers is a row of one's own. mkLgRg.py writes it. -/
import Derived.Test.YtnfhbmlmemifjaaGreatDoorZ26
import Derived.Test.YtnfhbmlmemifjaaGreatDoorZ23
import Derived.Test.YtnfhbmlmemifjaaGreatDoorZ30
import Derived.Test.YtnfhbmlmemifjaaGreatDoorZ05
namespace Go.Proofs.YtnfhbmlmemifjaaGreatDoor
open Go.Shelf Go.RowKit Go.Maps Go.Sort
set_option maxRecDepth 100000 in
set_option maxHeartbeats 2000000 in
theorem lgTouchedO_any {w : World} {v : Value} {l : List Lg} (h : Lgs w v l) (hs : SmL l) (hT : Tab w) (g e : Int) :
    Calls Tryz.prog 10 #[v, .int .i64 g, .int .i64 e] w fun r w' => ∃ v', r = .returned (.tuple #[v', .bool (decide (0 ≤ e ∧ e < (lenL l g : Int)))]) ∧ Ints w.heap.size w' v' (tchL l g e) ∧ Below w.heap.size w w' := by
  obtain ⟨j0, hj, hy0, hy1, hyb⟩ := info_parts infoKint
  have K1 := hide (commits_any h (Below.refl _ _) hs hT g)
  have hsm := cmsL_sm hs g
  have hlen := cmsL_len l g
  have hmay : ∀ (i : Nat) (c : Cm), (cmsL l g)[i]? = some c → mayB c.next = true ∧ c.next.length ≠ 0 := fun i c hc => ⟨(cmsL_may hc).2.2.2.1, (cmsL_may hc).2.2.2.2⟩
  obtain ⟨L, hL⟩ : ∃ z, z = lenL l g := ⟨_, rfl⟩
  obtain ⟨cs, hcs⟩ : ∃ z, z = cmsL l g := ⟨_, rfl⟩
  obtain ⟨TT, hTT⟩ : ∃ z, z = tchL l g e := ⟨_, rfl⟩
  have HTN : Hid (¬ (0 ≤ e ∧ e < (L : Int)) → TT = []) := fun q => by
    rw [hTT]
    unfold tchL
    split
    · unfold tchA
      rw [List.getElem?_eq_none (by rw [hlen, ← hL]; omega)]
    · rfl
  have HTP : Hid (∀ i : Nat, e = (i : Int) → TT = tchA cs i) := fun i hi => by
    rw [hTT, hcs]
    unfold tchL
    rw [if_pos (by omega), hi, Int.toNat_natCast]
  rw [← hL, ← hcs] at K1
  rw [← hcs] at hsm hmay
  rw [← hcs, ← hL] at hlen
  rw [← hL, ← hTT]
  have hLb : L ≤ 1073741824 := by rw [← hlen]; exact hsm.n
  obtain ⟨a, cap0, rfl⟩ := h.slice
  generalize l.length = NL at *
  have HS := hide (And.intro hmay (And.intro hlen hT))
  have KH := hide (fun (W : World) (a : Option Addr) (c : Nat) => has_any W a L c e hLb)
  have hLI : (L : Int) ≤ 1073741824 := by omega
  clear h hL hLb hs hT hcs hsm hlen hmay hTT
  by_cases hin : 0 ≤ e ∧ e < (L : Int)
  · rw [decide_eq_true hin] at KH ⊢
    obtain ⟨idx, rfl⟩ : ∃ n : Nat, e = (n : Int) := ⟨e.toNat, by omega⟩
    have q1 : (idx : Int) < (L : Int) := hin.2
    have q0 : (0 : Int) ≤ (idx : Int) := hin.1
    have HT1 := hide (unhide HTP idx rfl)
    clear HTN HTP hin
    go_enter Tryz.func10, Tryz.ntmps10
    go_wp2_with fail
    refine (unhide K1).mono ?_
    rintro y w1 ⟨a9, c9, rfl, hcm, b1⟩
    have HCM := hide (And.intro hcm b1)
    clear hcm b1 K1
    go_wp2_with fail
    refine (unhide KH w1 a9 c9).mono ?_
    rintro y w1 ⟨rfl, rfl⟩
    clear KH
    obtain ⟨c, hc⟩ : ∃ c, cs[idx]? = some c := ⟨_, List.getElem?_eq_getElem (by have := (unhide HS).2.1; omega)⟩
    obtain ⟨b', o', ea, x, hx, hcc⟩ := (unhide HCM).1.get hc
    subst ea
    have b1 := (unhide HCM).2
    obtain ⟨a5, k5, e5⟩ := hx.next.slice
    have KM1 := membersX_any (hx.next.bw b1) ((unhide HS).2.2.bw b1)
    have hm1 := (unhide HS).1 idx c hc
    rw [hm1.1, if_pos rfl] at KM1
    have y12 : w1.cell? ⟨b', o' + idx * 15 + 12, none⟩ = some x.nv := by have := hcc 12 _ rfl; rw [b1.cell (lt_of_cell this)]; exact this
    rw [e5] at KM1 y12
    obtain ⟨LN, hLN⟩ : ∃ z, z = c.next.length := ⟨_, rfl⟩
    rw [← hLN] at KM1 y12
    obtain ⟨mA, hmA⟩ : ∃ z, z = mems c.next := ⟨_, rfl⟩
    rw [← hmA] at KM1
    have HA : Hid (mA ≠ [] ∧ mA.length ≤ 8) := by unfold Hid; rw [hmA]; exact ⟨mems_ne hm1.1 hm1.2, mems_len hm1.1⟩
    have HT2 : Hid (TT = tchO mA (if idx = 0 then [] else match cs[idx - 1]? with | none => [] | some d => mems d.next)) := by unfold Hid; rw [unhide HT1, hmA]; unfold tchA; rw [hc]; rfl
    have KMh := hide KM1
    clear KM1 hLN hmA hm1 hx hcc hc e5 HT1 b1
    go_wp2_with fail
    refine (unhide KMh).mono ?_
    rintro y w2 ⟨r1, rfl, hr1, b2⟩
    obtain ⟨a1, k1, rfl⟩ := own_slice hr1
    have HR1 := hide (And.intro hr1 b2)
    clear hr1 b2 KMh y12
    by_cases hi0 : idx = 0
    · subst hi0
      have hr0 := (unhide HR1).1
      have HB : Hid (Below w.heap.size w w2) := bw_tr (unhide HCM).2 (unhide HR1).2
      obtain ⟨l0, hl0⟩ : ∃ z, z = mA := ⟨_, rfl⟩
      have HTT : Hid (TT = Lib.compact (srt l0)) := by unfold Hid; rw [unhide HT2, hl0]; simp [tchO]
      have hpos : 0 < l0.length := by rw [hl0]; exact List.length_pos_iff.2 (unhide HA).1
      have hl16 : l0.length ≤ 16 := by rw [hl0]; have := (unhide HA).2; omega
      rw [← hl0] at hr0
      have hr : w2.ownsRow w.heap.size 3 1 (.slice a1 l0.length k1) l0.length (l0.map I64) := own_mono hr0 (unhide HCM).2.size
      rw [← hl0]
      obtain ⟨wz, hwz⟩ : ∃ z, z = w2 := ⟨_, rfl⟩
      rw [← hwz] at hr HB ⊢
      clear hwz hr0 hl0 HT2 HA HR1 HS HCM
      have K1 := hide (sortI_any (l := l0) hr (by omega))
      obtain ⟨N0, hN0⟩ : ∃ z, z = l0.length := ⟨_, rfl⟩
      have HP : Hid ((∀ z, (Value.slice a1 N0 k1).ownBlock = some z → w.heap.size ≤ z) ∧ l0.length ≤ 16) := ⟨fun z hz => (World.ownsRow.lt hr z (by rw [← hN0]; exact hz)).1, hl16⟩
      rw [← hN0] at K1 ⊢
      have HN0 := hide hN0
      clear hr hpos hl16 hN0
      go_wp2_with fail
      refine (unhide K1).mono ?_
      rintro e w7 ⟨rfl, h7, f7⟩
      have K2 := hide (compactI_any h7 (by rw [srI_len]; have := (unhide HP).2; omega))
      have HQ := hide f7
      clear h7 f7 K1
      go_wp2_with fail
      refine (unhide K2).mono ?_
      rintro e w8 ⟨v8, rfl, h8, f8⟩
      have HR : Hid (Ints w.heap.size w8 v8 TT ∧ Below w.heap.size w w8) := ⟨by rw [unhide HTT]; exact h8, Fr.toBase (unhide HB) ((unhide HQ).tr f8) (fun z hz => (unhide HP).1 z (by simpa using hz))⟩
      clear h8 f8 K2 HP HQ
      go_wp2_with fail
      go_ret2
      exact ⟨_, rfl, (unhide HR).1, (unhide HR).2⟩
    · obtain ⟨i', hi'⟩ : ∃ z, z = idx - 1 := ⟨_, rfl⟩
      have v1 : (idx : Int) - 1 = (i' : Int) := by omega
      have v2 : (i' : Int) < (L : Int) := by omega
      have v3 : (0 : Int) ≤ (i' : Int) := by omega
      have v4 : (0 : Int) < (idx : Int) := by omega
      have v5 : IntKind.i64.wrap (i' : Int) = (i' : Int) := by rw [IntKind.wrap_i64]; omega
      have v8 : 0 < idx := by omega
      obtain ⟨d, hd⟩ : ∃ d, cs[i']? = some d := ⟨_, List.getElem?_eq_getElem (by have := (unhide HS).2.1; omega)⟩
      obtain ⟨b2', o2', ea, x2, hx2, hcc2⟩ := (unhide HCM).1.get hd
      cases ea
      have bw2 : Below w.heap.size w w2 := bw_tr (unhide HCM).2 (unhide HR1).2
      obtain ⟨a6, k6, e6⟩ := hx2.next.slice
      have KM1 := membersX_any (hx2.next.bw bw2) ((unhide HS).2.2.bw bw2)
      have hm1 := (unhide HS).1 i' d hd
      rw [hm1.1, if_pos rfl] at KM1
      have y12 : w2.cell? ⟨b', o' + i' * 15 + 12, none⟩ = some x2.nv := by have := hcc2 12 _ rfl; rw [bw2.cell (lt_of_cell this)]; exact this
      rw [e6] at KM1 y12
      obtain ⟨LN2, hLN2⟩ : ∃ z, z = d.next.length := ⟨_, rfl⟩
      rw [← hLN2] at KM1 y12
      obtain ⟨mB, hmB⟩ : ∃ z, z = mems d.next := ⟨_, rfl⟩
      rw [← hmB] at KM1
      have HBm : Hid (mB ≠ [] ∧ mB.length ≤ 8) := by unfold Hid; rw [hmB]; exact ⟨mems_ne hm1.1 hm1.2, mems_len hm1.1⟩
      have HTT0 : Hid (TT = Lib.compact (srt (mA ++ mB))) := by unfold Hid; rw [unhide HT2, if_neg hi0, ← hi', hd, hmB]; rfl
      have KMh := hide KM1
      have HB2 := hide bw2
      clear KM1 hLN2 hmB hm1 hx2 hcc2 hd e6 HT2 bw2 hi0 hi'
      go_wp2_with fail
      refine (unhide KMh).mono ?_
      rintro y w3 ⟨r2, rfl, hr2, b3⟩
      obtain ⟨g2, k2, hv2, _, _, _⟩ := own_open hr2 (List.length_pos_iff.2 (unhide HBm).1)
      have hcell2 : ∀ j u, (mB.map I64)[j]? = some u → w3.cell? ((⟨g2, 0, none⟩ : Addr).add j) = some u := fun j u hu => by
        have e0 : (⟨g2, 0, none⟩ : Addr).add j = ⟨g2, j, none⟩ := by unfold Addr.add; by_cases hz : j = 0 <;> simp [hz]
        rw [e0]; exact own_cell hr2 (by rw [hv2]; rfl) hu
      have hrA : w3.ownsRow w.heap.size 3 1 (.slice a1 mA.length k1) mA.length (mA.map I64) := own_mono (own_keep (unhide HR1).1 (fun z hz => b3.block z (World.ownsRow.lt (unhide HR1).1 z hz).2)) (unhide HCM).2.size
      obtain ⟨nB, hnB⟩ : ∃ z, z = mB.length := ⟨_, rfl⟩
      obtain ⟨nA, hnA⟩ : ∃ z, z = mA.length := ⟨_, rfl⟩
      rw [← hnB] at hv2
      subst hv2
      rw [← hnA] at hrA
      have HAP := hide (And.intro hrA (And.intro hcell2 (And.intro hnB (And.intro hnA (And.intro (unhide HBm).2 (And.intro (unhide HA).2 (And.intro (bw_tr (unhide HB2) b3) (unhide HA).1)))))))
      rw [← hnA]
      clear hr2 b3 hcell2 hrA hnB hnA KMh y12 HR1 HB2 HS HCM HA HBm
      go_wp2_with (at_builtin; refine wpList_append_own_at _ rfl (.tmp 25) (.tmp 32) 27 rfl w.heap.size 3 j0 (.int .i64 0) 1 8 Tryz.underlying27 hj hy0 hy1 hyb rfl (by decide) _ nA (mA.map I64) rfl (unhide HAP).1 ⟨g2, 0, none⟩ nB k2 (mB.map I64) rfl (by rw [(unhide HAP).2.2.1]; simp) (unhide HAP).2.1 (i64_one mB) ?c3 ?c4 ?c5 ?nx)
      case c3 => have := unhide HAP; unfold maxLen; omega
      case c4 => have := unhide HAP; omega
      case c5 => exact (unhide HAP).2.2.2.2.2.2.1.size
      case nx =>
        intro v3 w4 hown3 hgrow3 _ _
        obtain ⟨_, _, hnB, hnA, hlB, hlA, hbw3, hne⟩ := unhide HAP
        have HB : Hid (Below w.heap.size w w4) := by
          refine Fr.toBase hbw3 (Fr.ofGrown hgrow3) (fun z hz => ?_)
          exact (World.ownsRow.lt (unhide HAP).1 z (by simpa using hz)).1
        obtain ⟨a3, k3, e3⟩ := own_slice hown3
        subst e3
        obtain ⟨l0, hl0⟩ : ∃ z, z = mA ++ mB := ⟨_, rfl⟩
        have hl0l : l0.length = nA + nB := by rw [hl0, List.length_append, hnA, hnB]
        have HTT : Hid (TT = Lib.compact (srt l0)) := by unfold Hid; rw [unhide HTT0, hl0]
        have hpos : 0 < l0.length := by rw [hl0l, hnA]; have := List.length_pos_iff.2 hne; omega
        have hl16 : l0.length ≤ 16 := by rw [hl0l]; omega
        have hr : w4.ownsRow w.heap.size 3 1 (.slice a3 l0.length k3) l0.length (l0.map I64) := by rw [hl0l, hl0, List.map_append]; exact hown3
        rw [← hl0l]
        obtain ⟨wz, hwz⟩ : ∃ z, z = w4 := ⟨_, rfl⟩
        rw [← hwz] at hr HB ⊢
        clear hwz hl0 hl0l hnA hnB hlB hlA hbw3 hne HAP HTT0 hown3 hgrow3
        have K1 := hide (sortI_any (l := l0) hr (by omega))
        obtain ⟨N0, hN0⟩ : ∃ z, z = l0.length := ⟨_, rfl⟩
        have HP : Hid ((∀ z, (Value.slice a3 N0 k3).ownBlock = some z → w.heap.size ≤ z) ∧ l0.length ≤ 16) := ⟨fun z hz => (World.ownsRow.lt hr z (by rw [← hN0]; exact hz)).1, hl16⟩
        rw [← hN0] at K1 ⊢
        have HN0 := hide hN0
        clear hr hpos hl16 hN0
        go_wp2_with fail
        refine (unhide K1).mono ?_
        rintro e w7 ⟨rfl, h7, f7⟩
        have K2 := hide (compactI_any h7 (by rw [srI_len]; have := (unhide HP).2; omega))
        have HQ := hide f7
        clear h7 f7 K1
        go_wp2_with fail
        refine (unhide K2).mono ?_
        rintro e w8 ⟨v8, rfl, h8, f8⟩
        have HR : Hid (Ints w.heap.size w8 v8 TT ∧ Below w.heap.size w w8) := ⟨by rw [unhide HTT]; exact h8, Fr.toBase (unhide HB) ((unhide HQ).tr f8) (fun z hz => (unhide HP).1 z (by simpa using hz))⟩
        clear h8 f8 K2 HP HQ
        go_wp2_with fail
        go_ret2
        exact ⟨_, rfl, (unhide HR).1, (unhide HR).2⟩
  · rw [decide_eq_false hin] at KH ⊢
    have HN := hide (unhide HTN hin)
    clear HTN HTP HS hin
    go_enter Tryz.func10, Tryz.ntmps10
    go_wp2_with fail
    refine (unhide K1).mono ?_
    rintro y w1 ⟨a9, c9, rfl, hcm, b1⟩
    have HB1 := hide b1
    clear hcm b1 K1
    go_wp2_with fail
    refine (unhide KH w1 a9 c9).mono ?_
    rintro y w1 ⟨rfl, rfl⟩
    clear KH
    go_wp2_with fail
    go_ret2
    exact ⟨_, rfl, by rw [unhide HN]; exact ints_nil _ _, unhide HB1⟩
end Go.Proofs.YtnfhbmlmemifjaaGreatDoor
