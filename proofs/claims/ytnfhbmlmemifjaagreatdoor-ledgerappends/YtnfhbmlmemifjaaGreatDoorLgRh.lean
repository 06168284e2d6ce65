/- The document's Append. mkLgRh.py writes it. -/
import Derived.Test.YtnfhbmlmemifjaaGreatDoorZ30
import Derived.Test.YtnfhbmlmemifjaaGreatDoorLgRg
import Derived.Test.YtnfhbmlmemifjaaGreatDoorZ32
import Derived.Test.YtnfhbmlmemifjaaGreatDoorZ27
import Derived.Deep.QuietTactic
import Derived.BigQuiet
namespace Go.Proofs.YtnfhbmlmemifjaaGreatDoor
open Go.RowKit Go.Maps
theorem own_mtC {B b : Nat} {w : World} {t : TypeId} (h : w.heap[b]? = some (.cells #[] t (0, 0))) (hB : B ≤ b) : w.ownsRow B t 15 (.slice (some ⟨b, 0, none⟩) 0 0) 0 [] :=
  ⟨rfl, Or.inr ⟨b, 0, #[], rfl, hB, h, Nat.le_refl _, by unfold maxLen; omega, by simp, by simp⟩⟩
theorem add_ato (g o j : Nat) : (⟨g, o, none⟩ : Addr).add j = ⟨g, o + j, none⟩ := by unfold Addr.add; by_cases hz : j = 0 <;> simp [hz]
theorem fin15 {wq z : World} {xb n : Nat} {u : Value} {xs : List Value} (hz : z.heap[xb]? = some (.cells #[.int .i64 0, .slice none 0 0] 95 (0, 0))) (hb : Below wq.heap.size wq z) (hx : wq.heap.size ≤ xb) (ho : z.ownsRow wq.heap.size 34 15 u n xs) (g : Int) :
    z.there xb 0 (#[Value.int .i64 g, u] : Array Value).size ∧ (z.setCells xb 0 (#[Value.int .i64 g, u] : Array Value).toList).heap[xb]? = some (.cells #[.int .i64 g, u] 95 (0, 0)) ∧ Below wq.heap.size wq (z.setCells xb 0 (#[Value.int .i64 g, u] : Array Value).toList) ∧ (z.setCells xb 0 (#[Value.int .i64 g, u] : Array Value).toList).ownsRow wq.heap.size 34 15 u n xs ∧ wq.heap.size ≤ xb := by
  refine ⟨fun j hj => ?_, ?_, ?_, ?_, hx⟩
  · have hj' : j < 2 := hj
    rw [Nat.zero_add]
    have hy := Array.getElem?_eq_getElem (xs := #[Value.int .i64 0, .slice none 0 0]) (i := j) hj'
    exact ⟨by rw [cell_of_blk hz hy]; rfl, frozen_of_blk0 hz _⟩
  · rw [bg_pokes]
    have q := pokes_at [Value.int .i64 g, u] z 0 _ hz
    exact q
  · rw [bg_pokes]; exact pokes_below hx _ _ _ hb
  · rw [bg_pokes]
    refine own_keep ho (fun k hk => pokes_other (fun e => ?_) _ _ _)
    obtain ⟨cur, hc⟩ := own_kind ho hk
    rw [e, hz] at hc
    simp at hc
theorem cells_at2 (w : World) (n : Nat) (x y : Value) (t : TypeId) (hn : n = w.heap.size) : ∀ j u, [x, y][j]? = some u → (w.alloc (.cells #[x, y] t)).cell? ((⟨n, 0, none⟩ : Addr).add j) = some u := by subst hn; exact cells_newB2 w x y t
theorem one_log (g : Int) (a : Option Addr) (n c : Nat) : ∀ u ∈ [Value.int .i64 g, .slice a n c], u.oneCell' = true := by
  intro u hu
  simp only [List.mem_cons, List.not_mem_nil, or_false] at hu
  rcases hu with rfl | rfl <;> rfl
theorem cells_newK (w : World) (xs : Array Value) (t : TypeId) : ∀ j u, xs.toList[j]? = some u → (w.alloc (.cells xs t)).cell? ((⟨w.heap.size, 0, none⟩ : Addr).add j) = some u := fun j u h => by
  rw [add_ato, Nat.zero_add]
  exact blk_c (heap_alloc_new w (.cells xs t)) (by simpa using h)
theorem one_cm (g e d m k o n f r : Int) (x : Bool) (a1 a2 a3 a4 a5 : Option Addr) (n1 n2 n3 n4 n5 k1 k2 k3 k4 k5 : Nat) : ∀ u ∈ [Value.int .i64 g, .int .i64 e, .int .i64 d, .int .i64 m, .int .i64 k, .bool x, .slice a1 n1 k1, .slice a2 n2 k2, .slice a3 n3 k3, .slice a4 n4 k4, .int .i64 o, .int .i64 n, .slice a5 n5 k5, .int .i64 f, .int .i64 r], u.oneCell' = true := by
  intro u hu
  simp only [List.mem_cons, List.not_mem_nil, or_false] at hu
  rcases hu with rfl | rfl | rfl | rfl | rfl | rfl | rfl | rfl | rfl | rfl | rfl | rfl | rfl | rfl | rfl <;> rfl
theorem two_x6 (w : World) (a b : Obj) : ((w.alloc a).alloc b).heap[w.heap.size]? = some a := by
  rw [Below.heap_alloc _ _ _ (by simp)]
  exact heap_alloc_new w a
theorem lgs_nil (w : World) : Lgs w (.slice none 0 0) [] := ⟨by simp, none, 0, rfl, Or.inl rfl⟩
theorem infoLgL : (Tryz.prog.info? 95).map (fun i => (i.zero, i.size, i.bytes)) = some (some (.agg lg0), 2, 32) := by kernel_rfl
set_option maxRecDepth 100000 in
set_option maxHeartbeats 16000000 in
theorem rappend_any {W : World} {v : Value} {l : List Lg} {c : Cm} {x : Cv} (h : Lgs W v l) (hs : SmL l) (hB : ∀ p ∈ l, p.2.length ≤ 262144) (hc : CmR W c x) (hsc : SmC c) :
    Calls Tryz.prog 29 #[v, cmV c x] W fun e w' => ∃ v', e = .returned (.tuple #[v', .int .i64 (appE l c)]) ∧ Lgs w' v' (appL l c) ∧ Below W.heap.size W w' := by
  obtain ⟨j0, hj, hy0, hy1, hyb⟩ := info_parts infoLgL
  obtain ⟨j1, hj1, hx0, hx1, hxb⟩ := info_parts infoKCommit
  obtain ⟨a1, k1, a2, k2, a3, k3, a4, k4, a5, k5, hv, -⟩ := cmV_expl hc
  have hcl : (cmC c x).toArray = #[.int .i64 c.gr, .int .i64 c.ep, .int .i64 c.dev, .int .i64 c.mem, .int .i64 c.ke, .bool c.ext, .slice a1 c.adds.length k1, .slice a2 c.rem.length k2, .slice a3 c.seals.length k3, .slice a4 c.joins.length k4, .int .i64 c.own, .int .i64 c.ent, .slice a5 c.next.length k5, .int .i64 c.face, .int .i64 c.card] := by have := hv; unfold cmV at this; exact Value.agg.inj this
  obtain ⟨W0, hW0⟩ : ∃ Z, Z = W.alloc (.cells #[.int .i64 c.gr, .int .i64 c.ep, .int .i64 c.dev, .int .i64 c.mem, .int .i64 c.ke, .bool c.ext, .slice a1 c.adds.length k1, .slice a2 c.rem.length k2, .slice a3 c.seals.length k3, .slice a4 c.joins.length k4, .int .i64 c.own, .int .i64 c.ent, .slice a5 c.next.length k5, .int .i64 c.face, .int .i64 c.card] 34) := ⟨_, rfl⟩
  have hb0 : Below W.heap.size W W0 := by rw [hW0]; exact bwA _ _
  have k0 : W0.heap[W.heap.size]? = some (.cells #[.int .i64 c.gr, .int .i64 c.ep, .int .i64 c.dev, .int .i64 c.mem, .int .i64 c.ke, .bool c.ext, .slice a1 c.adds.length k1, .slice a2 c.rem.length k2, .slice a3 c.seals.length k3, .slice a4 c.joins.length k4, .int .i64 c.own, .int .i64 c.ent, .slice a5 c.next.length k5, .int .i64 c.face, .int .i64 c.card] 34 (0, 0)) := by rw [hW0]; exact heap_alloc_new _ _
  have HCc : Hid (∀ w, Below W0.heap.size W0 w → w.cell? ⟨W.heap.size, 0, none⟩ = some (.int .i64 c.gr) ∧ w.cell? ⟨W.heap.size, 1, none⟩ = some (.int .i64 c.ep) ∧ w.cell? ⟨W.heap.size, 2, none⟩ = some (.int .i64 c.dev) ∧ w.cell? ⟨W.heap.size, 3, none⟩ = some (.int .i64 c.mem) ∧ w.cell? ⟨W.heap.size, 4, none⟩ = some (.int .i64 c.ke) ∧ w.cell? ⟨W.heap.size, 5, none⟩ = some (.bool c.ext) ∧ w.cell? ⟨W.heap.size, 6, none⟩ = some (.slice a1 c.adds.length k1) ∧ w.cell? ⟨W.heap.size, 7, none⟩ = some (.slice a2 c.rem.length k2) ∧ w.cell? ⟨W.heap.size, 8, none⟩ = some (.slice a3 c.seals.length k3) ∧ w.cell? ⟨W.heap.size, 9, none⟩ = some (.slice a4 c.joins.length k4) ∧ w.cell? ⟨W.heap.size, 10, none⟩ = some (.int .i64 c.own) ∧ w.cell? ⟨W.heap.size, 11, none⟩ = some (.int .i64 c.ent) ∧ w.cell? ⟨W.heap.size, 12, none⟩ = some (.slice a5 c.next.length k5) ∧ w.cell? ⟨W.heap.size, 13, none⟩ = some (.int .i64 c.face) ∧ w.cell? ⟨W.heap.size, 14, none⟩ = some (.int .i64 c.card)) := fun w hw => by
    have q := kept_b k0 (lt_of_blk k0) hw
    exact ⟨blk_c q rfl, blk_c q rfl, blk_c q rfl, blk_c q rfl, blk_c q rfl, blk_c q rfl, blk_c q rfl, blk_c q rfl, blk_c q rfl, blk_c q rfl, blk_c q rfl, blk_c q rfl, blk_c q rfl, blk_c q rfl, blk_c q rfl⟩
  have HI1 : Hid (∀ z ov out vs, OuS W0 z ov out vs → ∀ v' w3, w3.ownsRow W0.heap.size 95 2 v' (out.length + 1) (ouC out vs ++ [.int .i64 c.gr, .slice (some ⟨z.heap.size, 0, none⟩) 1 1]) → ((z.alloc (.cells #[.int .i64 c.gr, .int .i64 c.ep, .int .i64 c.dev, .int .i64 c.mem, .int .i64 c.ke, .bool c.ext, .slice a1 c.adds.length k1, .slice a2 c.rem.length k2, .slice a3 c.seals.length k3, .slice a4 c.joins.length k4, .int .i64 c.own, .int .i64 c.ent, .slice a5 c.next.length k5, .int .i64 c.face, .int .i64 c.card] 34)).alloc (.cells #[.int .i64 c.gr, .slice (some ⟨z.heap.size, 0, none⟩) 1 1] 95)).grownBy w3 ov.ownBlock → OuS W0 w3 v' (out ++ [(c.gr, [c])]) (vs ++ [.slice (some ⟨z.heap.size, 0, none⟩) 1 1])) := fun z ov out vs ho v' w3 h1 h2 => by
    have h3 := CoS.one (W := W0) (w := z) (hc.bw hb0) hsc ho.bel.size
    rw [hcl] at h3
    exact ho.app (p := (c.gr, [c])) (bw_tr (bwA _ _) (bwA _ _)) (h3.bw (bwA _ _)) h1 h2
  have HCM : Hid (CmR W0 c x ∧ SmC c) := ⟨hc.bw hb0, hsc⟩
  have KC1 := hide (rchk_any (h.bw hb0))
  have KM : Hid (∀ w, Below W.heap.size W w → Calls Tryz.prog 44 #[.agg #[.int .i64 c.gr, .int .i64 c.ep, .int .i64 c.dev, .int .i64 c.mem, .int .i64 c.ke, .bool c.ext, .slice a1 c.adds.length k1, .slice a2 c.rem.length k2, .slice a3 c.seals.length k3, .slice a4 c.joins.length k4, .int .i64 c.own, .int .i64 c.ent, .slice a5 c.next.length k5, .int .i64 c.face, .int .i64 c.card]] w fun e w' => e = .returned (.bool (mayC c)) ∧ Below w.heap.size w w') := fun w hw => by rw [← hv]; exact rmay_any (hc.bw hw)
  have KL : Hid (∀ w, Below W.heap.size W w → Calls Tryz.prog 17 #[v, .int .i64 c.gr] w fun e w' => e = .returned (.int .i64 (lenL l c.gr : Nat)) ∧ Below w.heap.size w w') := fun w hw => rlen_any (h.bw hw) c.gr
  have HE1 : Hid ((chkB l && mayC c) = false → appE l c = 1 ∧ appL l c = []) := fun q => by
    have e : appE l c = 1 := by unfold appE; rw [q]; rfl
    exact ⟨e, by unfold appL; rw [e]; rfl⟩
  have HE2 : Hid (chkB l = true → mayC c = true → c.ep ≠ (lenL l c.gr : Int) → appE l c = 10 ∧ appL l c = []) := fun q1 q2 q3 => by
    have e : appE l c = 10 := by unfold appE; rw [if_pos (by simp [q1, q2]), if_neg q3]
    exact ⟨e, by unfold appL; rw [e]; rfl⟩
  have hz : chkB l = true → c.ep = (lenL l c.gr : Int) → (c.ep = 0 ↔ fndL l c.gr = none) := fun q1 q3 => by
    unfold lenL at q3
    rw [if_pos q1] at q3
    cases hf : fndL l c.gr with
    | none => rw [hf] at q3; simp at q3; simp [q3]
    | some cs =>
      rw [hf] at q3
      have := (log_iff.1 ((chk_parts q1).2.2 _ (fndL_mem hf))).1
      simp at q3
      simp
      intro q4
      rw [q4] at q3
      have : cs.length = 0 := by omega
      contradiction
  have HE3 : Hid (chkB l = true → mayC c = true → c.ep = (lenL l c.gr : Int) → c.ep = 0 ∧ 16 ≤ l.length → appE l c = 3 ∧ appL l c = []) := fun q1 q2 q3 q4 => by
    have e : appE l c = 3 := by unfold appE; rw [if_pos (by simp [q1, q2]), if_pos q3, if_pos ⟨(hz q1 q3).1 q4.1, q4.2⟩]
    exact ⟨e, by unfold appL; rw [e]; rfl⟩
  have HE4 : Hid (chkB l = true → mayC c = true → c.ep = (lenL l c.gr : Int) → ¬ (c.ep = 0 ∧ 16 ≤ l.length) → appE l c = 0 ∧ appL l c = insl l c) := fun q1 q2 q3 q4 => by
    have e := appE_of q1 q2 q3 (fun q5 => by have := (hz q1 q3).2 q5; omega)
    exact ⟨e, by unfold appL; rw [if_pos e]⟩
  have HRS : Hid (chkB l = true → risB l = true ∧ l.length ≤ 16 ∧ ∀ p ∈ l, p.2.length ≠ 0) := fun q => ⟨(chk_parts q).2.1, (chk_parts q).1, fun p hp => (log_iff.1 ((chk_parts q).2.2 p hp)).1⟩
  obtain ⟨a, cap, hva⟩ := h.slice
  subst hva
  have HI : Hid (chkB l = true → ∀ i, i < l.length → ∃ gl ol p g2 o2 cv xs, a = some ⟨gl, ol, none⟩ ∧ l[i]? = some p ∧ (∀ w, Below W0.heap.size W0 w → w.cell? ⟨gl, ol + i * 2, none⟩ = some (.int .i64 p.1) ∧ w.cell? ⟨gl, ol + i * 2 + 1, none⟩ = some (.slice (some ⟨g2, o2, none⟩) p.2.length cv)) ∧
      xs.length = p.2.length ∧ (∀ (j : Nat) (d : Cm) (y : Cv × List Value), p.2[j]? = some d → xs[j]? = some y → CmR W0 d y.1 ∧ SmC d) ∧ (∀ u ∈ cellK kCm p.2 xs, u.oneCell' = true) ∧ ∀ w, Below W0.heap.size W0 w → ∀ j u, (cellK kCm p.2 xs)[j]? = some u → w.cell? ⟨g2, o2 + j, none⟩ = some u) := fun hk i hi => by
    obtain ⟨p, hp⟩ : ∃ p, l[i]? = some p := ⟨_, List.getElem?_eq_getElem hi⟩
    have hm := List.mem_of_getElem? hp
    obtain ⟨gl, ol, ea, cv0, hcv, d0, d1⟩ := h.get hp
    obtain ⟨xs, hr⟩ := hcv.rdl (hs.g p hm).c
    obtain ⟨ad, cv, e1, hsrc⟩ := hr.form
    rcases hsrc with q | ⟨g2, o2, e2, hcell⟩
    · have := (log_iff.1 ((chk_parts hk).2.2 p hm)).1
      rw [q] at this
      simp at this
    · subst e2 e1
      refine ⟨gl, ol, p, g2, o2, cv, xs, ea, hp, fun w hw => ?_, hr.xl, fun j d y hd hy => ?_, cellK_one hr.xl hr.el, fun w hw j u hj => ?_⟩
      · exact ⟨by rw [(bw_tr hb0 hw).cell (lt_of_cell d0)]; exact d0, by rw [(bw_tr hb0 hw).cell (lt_of_cell d1)]; exact d1⟩
      · have := hr.el j d y hd hy
        exact ⟨this.1.bw hb0, this.2⟩
      · have q := hcell j u hj
        rw [(bw_tr hb0 hw).cell (lt_of_cell q)]; exact q
  have HBn : Hid (∀ p ∈ l, p.2.length ≤ 262144) := hB
  obtain ⟨N, hN⟩ : ∃ N, N = l.length := ⟨_, rfl⟩
  have HN := hide hN
  rw [← hN] at KC1 KL HE3 HE4 HRS HI ⊢
  rw [hv]
  have HB0 := hide hb0
  have HW0 := hide hW0
  obtain ⟨E, hE⟩ : ∃ z, z = appE l c := ⟨_, rfl⟩
  obtain ⟨LA, hLA⟩ : ∃ z, z = appL l c := ⟨_, rfl⟩
  obtain ⟨rb, hrb⟩ : ∃ z, z = chkB l := ⟨_, rfl⟩
  obtain ⟨tb, htb⟩ : ∃ z, z = mayC c := ⟨_, rfl⟩
  obtain ⟨L, hL⟩ : ∃ z, z = lenL l c.gr := ⟨_, rfl⟩
  rw [← hE, ← hLA] at HE1 HE2 HE3 HE4
  rw [← hE, ← hLA]
  rw [← hrb] at HE1 HE2 HE3 HE4 HRS HI KC1
  rw [← htb] at HE1 HE2 HE3 HE4 KM
  rw [← hL] at HE2 HE3 HE4 KL
  have HCL0 : Hid ((cmC c x).toArray = #[.int .i64 c.gr, .int .i64 c.ep, .int .i64 c.dev, .int .i64 c.mem, .int .i64 c.ke, .bool c.ext, .slice a1 c.adds.length k1, .slice a2 c.rem.length k2, .slice a3 c.seals.length k3, .slice a4 c.joins.length k4, .int .i64 c.own, .int .i64 c.ent, .slice a5 c.next.length k5, .int .i64 c.face, .int .i64 c.card]) := hcl
  clear h hs hB hc hsc hcl hb0 k0 hz hN hW0 hv hE hLA hrb htb hL
  go_enter Tryz.func29, Tryz.ntmps29
  go_upto_region 1 with fail
  rw [← unhide HW0]
  clear HW0
  go_wp2_with fail
  refine (unhide KC1).mono ?_
  rintro r w1 ⟨rfl, b1⟩
  have B1 := hide b1
  clear b1 KC1
  cases rb with
  | false =>
    have HF := hide ((unhide HE1) (by first | rfl | trivial))
    clear HE1 HE2 HE3 HE4 HRS HI KM KL
    go_wp2_with fail
    go_ret2
    exact ⟨_, by rw [(unhide HF).1]; rfl, by rw [(unhide HF).2]; exact lgs_nil _, bw_tr (unhide HB0) (unhide B1)⟩
  | true =>
    obtain ⟨s0, s1, s2, s3, s4, s5, s6, s7, s8, s9, s10, s11, s12, s13, s14⟩ := unhide HCc w1 (unhide B1)
    go_wp2_with fail
    refine (unhide KM w1 (bw_tr (unhide HB0) (unhide B1))).mono ?_
    rintro r w2 ⟨rfl, b2⟩
    have B2 := hide (bw_tr (unhide B1) b2)
    clear b2 KM s0 s1 s2 s3 s4 s5 s6 s7 s8 s9 s10 s11 s12 s13 s14
    cases tb with
    | false =>
      have HF := hide ((unhide HE1) (by first | rfl | trivial))
      clear HE1 HE2 HE3 HE4 HRS HI KL
      go_wp2_with fail
      go_ret2
      exact ⟨_, by rw [(unhide HF).1]; rfl, by rw [(unhide HF).2]; exact lgs_nil _, bw_tr (unhide HB0) (unhide B2)⟩
    | true =>
      clear HE1
      by_cases hep : c.ep = (L : Int)
      · have HE3' := hide ((unhide HE3) (by first | rfl | trivial) (by first | rfl | trivial) hep)
        have HE4' := hide ((unhide HE4) (by first | rfl | trivial) (by first | rfl | trivial) hep)
        have HI' := hide ((unhide HI) (by first | rfl | trivial))
        have HRS' := hide ((unhide HRS) (by first | rfl | trivial))
        clear HE2 HE3 HE4 HI HRS
        have e1 : (c.ep != (L : Int)) = false := by simp [hep]
        go_upto_region 3 with fail
        go_cut [24] from 18 to 25 (fun s24 wx => s24 = .bool false ∧ Hid (Below W0.heap.size W0 wx))
        case first =>
          have BD : Below W0.heap.size W0 w2.drew := (unhide B2).drew
          obtain ⟨s0, s1, -⟩ := unhide HCc w2.drew BD
          go_region_law (go_simp; go_wp2_with (first | (go_at_call 17; refine (unhide KL _ (bw_tr (unhide HB0) BD)).mono ?_; rintro r z ⟨rfl, b3⟩; have B3 := hide (bw_tr BD b3); obtain ⟨t0, t1, -⟩ := unhide HCc z (unhide B3); clear b3)))
          all_goals
            go_wp2_with fail
            go_meet
            case rel => exact ⟨by first | rfl | simp [hep], unhide B3⟩
        case rest =>
        obtain ⟨rfl, hb3⟩ := hcut
        have B3 : Hid (Below W0.heap.size W0 wc) := hb3
        clear hb3 B2 KL e1 hep
        rename World => wA
        by_cases hlim : c.ep = 0 ∧ 16 ≤ N
        · have HF := hide ((unhide HE3') hlim)
          obtain ⟨l0, l1⟩ := hlim
          have l2 : (16 : Int) ≤ (N : Int) := by omega
          have l3 : decide (16 ≤ N) = true := decide_eq_true l1
          clear HE3' HE4' HI' HRS'
          obtain ⟨s0, s1, -⟩ := unhide HCc wA (unhide B3)
          rw [l0] at s1
          go_wp2_with fail
          go_ret2
          exact ⟨_, by rw [(unhide HF).1]; rfl, by rw [(unhide HF).2]; exact lgs_nil _, bw_tr (unhide HB0) (unhide B3)⟩
        · have HF := hide ((unhide HE4') hlim)
          clear HE3' HE4'
          go_upto_region 5 with fail
          go_cut [32] from 25 to 33 (fun s32 wx => s32 = .bool false ∧ Hid (Below W0.heap.size W0 wx))
          case first =>
            obtain ⟨s0, s1, -⟩ := unhide HCc wA (unhide B3)
            by_cases h0 : c.ep = 0
            · have l1 : N < 16 := by omega
              have l2 : ¬ (16 : Int) ≤ (N : Int) := by omega
              have l3 : decide (16 ≤ N) = false := decide_eq_false (by omega)
              rw [h0] at s1
              go_wp2_with fail
              go_meet
              case rel => exact ⟨by first | rfl | simp; omega, unhide B3⟩
            · have l1 : (c.ep == 0) = false := by simp [h0]
              have l3 : decide (c.ep = 0) = false := decide_eq_false h0
              go_wp2_with fail
              go_meet
              case rel => exact ⟨by first | rfl | simp, unhide B3⟩
          case rest =>
          obtain ⟨rfl, hb4⟩ := hcut
          have HO0 : Hid (OuS W0 wc (.slice none 0 0) [] []) := OuS.nil W0 wc hb4
          clear hb4 B3 hlim
          rename World => wB
          obtain ⟨hris, h16, hne⟩ := unhide HRS'
          have HRI := hide hris
          have HNE := hide hne
          clear HRS' hris hne
          have hNI : (N : Int) ≤ 16 := by omega
          go_wp2_with fail
          go_loopw [6, 7, 8] (fun ov dv iv wr => ∃ (i : Nat) (out : List Lg) (vs : List Value) (d : Bool), iv = .int .i64 (i : Int) ∧ dv = .bool d ∧ i ≤ N ∧ Hid (Ds l c i out d) ∧ Hid (OuS W0 wr ov out vs)) (fun _ _ iv _ => (N - intOf iv).toNat)
          case atStart => exact ⟨0, [], [], false, rfl, rfl, by omega, Ds.start l c, HO0⟩
          case round =>
            clear HO0
            obtain ⟨i, out, vs, d, rfl, rfl, hi, HD, HO⟩ := hrel
            have HMB : Hid (out.length ≤ 18) := by have := (unhide HD).le; have := unhide HN; unfold Hid; omega
            by_cases hin : i < N
            · obtain ⟨gl, ol, p, g2, o2, cv, xs, rfl, hp, hcell, hxs, hel, hone, hrow⟩ := unhide HI' i hin
              obtain ⟨n, hn⟩ : ∃ z, z = p.2.length := ⟨_, rfl⟩
              obtain ⟨g0, hg0⟩ : ∃ z, z = p.1 := ⟨_, rfl⟩
              obtain ⟨CK, hCK⟩ : ∃ z, z = cellK kCm p.2 xs := ⟨_, rfl⟩
              rw [← hn, ← hg0] at hcell
              rw [← hCK] at hone hrow
              have hnb : n ≤ 262144 := by rw [hn]; exact (unhide HBn) p (List.mem_of_getElem? hp)
              have HCK : Hid (CK.length = n * 15 ∧ (∀ u ∈ CK, u.oneCell' = true) ∧ n ≤ 262144) := ⟨by rw [hCK, cellK_len hxs, hn]; rfl, hone, hnb⟩
              have HEL : Hid (xs.length = p.2.length ∧ ∀ (j : Nat) (d : Cm) (y : Cv × List Value), p.2[j]? = some d → xs[j]? = some y → CmR W0 d y.1 ∧ SmC d) := ⟨hxs, hel⟩
              have HCL := hide hcell
              have HROW := hide hrow
              have HP := hide hp
              have HNM := hide (And.intro hn (And.intro hg0 hCK))
              have q1 : (i : Int) < (N : Int) := by omega
              have q0 : (0 : Int) ≤ (i : Int) := by omega
              have hg0' := hide hg0
              clear hcell hxs hel hone hrow hn hCK hnb HI' hg0 hp
              obtain ⟨bt, hbt⟩ : ∃ z, z = (!d && decide (c.gr < g0)) := ⟨_, rfl⟩
              have HBT := hide hbt
              clear hbt
              go_upto_region 12 with fail
              go_cut [50] from 39 to 51 (fun s50 wx => s50 = .bool bt ∧ Hid (Below wr.heap.size wr wx))
              case first =>
                obtain ⟨d0, -⟩ := unhide HCL wr (unhide HO).bel
                obtain ⟨s0, -⟩ := unhide HCc wr (unhide HO).bel
                cases d
                · by_cases hlt : c.gr < g0
                  · have r1 : decide (c.gr < g0) = true := decide_eq_true hlt
                    have r2 : g0 > c.gr := hlt
                    go_quiet (fail)
                    go_wp2_with fail
                    go_meet
                    case rel => exact ⟨by rw [unhide HBT]; first | rfl | simp [hlt], below_drewN (Below.refl _ _) _⟩
                  · have r1 : decide (c.gr < g0) = false := decide_eq_false hlt
                    have r2 : ¬ g0 > c.gr := hlt
                    go_quiet (fail)
                    go_wp2_with fail
                    go_meet
                    case rel => exact ⟨by rw [unhide HBT]; first | rfl | simp [hlt], below_drewN (Below.refl _ _) _⟩
                · go_quiet (fail)
                  go_wp2_with fail
                  go_meet
                  case rel => exact ⟨by rw [unhide HBT]; first | rfl | simp, below_drewN (Below.refl _ _) _⟩
              case rest =>
              obtain ⟨rfl, hb5⟩ := hcut
              have HOb : Hid (OuS W0 wc u6 out vs) := (unhide HO).bw hb5
              clear hb5 HO
              rename World => wD
              go_upto_if 50 with fail
              go_cut [6, 7] from 51 to 59 (fun s6 s7 wx => ∃ (out' : List Lg) (vs' : List Value) (d' : Bool), s7 = .bool d' ∧ Hid (OuS W0 wx s6 out' vs') ∧ Hid (Ds l c i out' d' ∧ (d' = false → ¬ c.gr < g0)))
              case first =>
                cases bt with
                | true =>
                  have hd : d = false ∧ c.gr < g0 := by have := unhide HBT; simpa using this.symm
                  obtain ⟨hd1, hd2⟩ := hd
                  subst hd1
                  have HD2 := hide ((unhide HD).ins (unhide HRI) (unhide HP) (by rw [← (unhide HNM).2.1]; exact hd2))
                  clear HD
                  obtain ⟨s0, s1, s2, s3, s4, s5, s6, s7, s8, s9, s10, s11, s12, s13, s14⟩ := unhide HCc wD (unhide HOb).bel
                  have hmb := unhide HMB
                  go_wp2_with (at_builtin; refine wpList_append_own_at _ rfl (.tmp 51) (.tmp 57) 22 rfl W0.heap.size 95 j0 (.agg lg0) 2 32 Tryz.underlying22 hj hy0 hy1 hyb rfl (by decide) u6 out.length (ouC out vs) (by rfl) (((unhide HOb).bw (bw_tr (bwA _ _) (bwA _ _))).row) ⟨wD.heap.size + 1, 0, none⟩ 1 1 [.int .i64 c.gr, .slice (some ⟨wD.heap.size, 0, none⟩) 1 1] rfl rfl (cells_at2 _ _ _ _ _ (by simp)) (one_log _ _ _ _) ?c3 ?c4 ?c5 ?nx)
                  case c3 => unfold maxLen; omega
                  case c4 => omega
                  case c5 => have := (unhide HOb).bel.size; omega
                  case nx =>
                    intro v' w7 hown7 hg7 _ _
                    have HO7 : Hid (OuS W0 w7 v' (out ++ [(c.gr, [c])]) (vs ++ [.slice (some ⟨wD.heap.size, 0, none⟩) 1 1])) := unhide HI1 wD u6 out vs (unhide HOb) v' w7 hown7 hg7
                    clear hown7 hg7 s0 s1 s2 s3 s4 s5 s6 s7 s8 s9 s10 s11 s12 s13 s14
                    go_wp2_with fail
                    go_meet
                    case rel => exact ⟨_, _, true, rfl, HO7, ⟨unhide HD2, fun q => by cases q⟩⟩
                | false =>
                  have hd : d = false → ¬ c.gr < g0 := fun q => by have := unhide HBT; subst q; simpa using this.symm
                  have HDD : Hid (Ds l c i out d ∧ (d = false → ¬ c.gr < g0)) := ⟨unhide HD, hd⟩
                  go_wp2_with fail
                  go_meet
                  case rel => exact ⟨out, vs, d, rfl, HOb, HDD⟩
              case rest =>
              obtain ⟨out', vs', d', rfl, HOc, HDc⟩ := hcut
              clear HOb HD HBT
              rename World => wq
              go_upto_region 15 with fail
              go_cut [9] from 59 to 72 (fun s9 wx => ∃ xb av1 cv1, s9 = .pointer (some ⟨xb, 0, none⟩) ∧ Hid (wx.heap[xb]? = some (.cells #[.int .i64 g0, .slice av1 n cv1] 95 (0, 0)) ∧ Below wq.heap.size wq wx ∧ wx.ownsRow wq.heap.size 34 15 (.slice av1 n cv1) n CK ∧ wq.heap.size ≤ xb))
              case first =>
                have HSl : Hid (∀ z, Below wq.heap.size wq z → z.cell? ⟨gl, ol + i * 2, none⟩ = some (.int .i64 g0) ∧ z.cell? ⟨gl, ol + i * 2 + 1, none⟩ = some (.slice (some ⟨g2, o2, none⟩) n cv)) := fun z hz => unhide HCL z (bw_tr (unhide HOc).bel hz)
                have HCC : Hid (∀ z, Below wq.heap.size wq z → ∀ j u, CK[j]? = some u → z.cell? ⟨g2, o2 + j, none⟩ = some u) := fun z hz => unhide HROW z (bw_tr (unhide HOc).bel hz)
                have BD : Hid (Below wq.heap.size wq wq.drew) := (Below.refl _ _).drew
                refine wp_region_held_drew (S := fun w' : World => w'.cell? ⟨gl, ol + i * 2, none⟩ = some (.int .i64 g0) ∧ w'.cell? ⟨gl, ol + i * 2 + 1, none⟩ = some (.slice (some ⟨g2, o2, none⟩) n cv)) (by kernel_rfl) (unhide HSl _ (unhide BD)) (fun hHeld => ?_)
                refine wpAnyH_take (i := 0) (oi := { dst := some 59, op := Op.move (Operand.tmp 0), type := 22, pos := "ref.go:81", after := #[], guard := none }) (v := .slice (some ⟨gl, ol, none⟩) N cap) rfl (by kernel_rfl) (by kernel_rfl) (by kernel_rfl) (fun _ _ _ h => h) (Or.inl ⟨by rfl, fun w hSw => by (try dsimp only at hSw); go_simp⟩) (by exact hHeld) ?_
                try simp only [Act.put, List.setIfInBounds_toArray, List.set_cons_zero, List.set_cons_succ]
                refine wpAnyH_take (i := 1) (oi := { dst := some 60, op := Op.move (Operand.tmp 8), type := 3, pos := "ref.go:81", after := #[], guard := none }) (v := .int .i64 (i : Int)) rfl (by kernel_rfl) (by kernel_rfl) (by kernel_rfl) (fun _ _ _ h => h) (Or.inl ⟨by rfl, fun w hSw => by (try dsimp only at hSw); go_simp⟩) (by exact hHeld) ?_
                try simp only [Act.put, List.setIfInBounds_toArray, List.set_cons_zero, List.set_cons_succ]
                refine wpAnyH_take (i := 6) (oi := { dst := some 65, op := Op.move (Operand.tmp 0), type := 22, pos := "ref.go:81", after := #[], guard := none }) (v := .slice (some ⟨gl, ol, none⟩) N cap) rfl (by kernel_rfl) (by kernel_rfl) (by kernel_rfl) (fun _ _ _ h => h) (Or.inl ⟨by rfl, fun w hSw => by (try dsimp only at hSw); go_simp⟩) (by exact hHeld) ?_
                try simp only [Act.put, List.setIfInBounds_toArray, List.set_cons_zero, List.set_cons_succ]
                refine wpAnyH_take (i := 7) (oi := { dst := some 66, op := Op.move (Operand.tmp 8), type := 3, pos := "ref.go:81", after := #[], guard := none }) (v := .int .i64 (i : Int)) rfl (by kernel_rfl) (by kernel_rfl) (by kernel_rfl) (fun _ _ _ h => h) (Or.inl ⟨by rfl, fun w hSw => by (try dsimp only at hSw); go_simp⟩) (by exact hHeld) ?_
                try simp only [Act.put, List.setIfInBounds_toArray, List.set_cons_zero, List.set_cons_succ]
                refine wpAnyH_take (i := 2) (oi := { dst := some 61, op := Op.indexAddr 22 (Operand.tmp 59) (Operand.tmp 60), type := 0, pos := "ref.go:81", after := #[{ on := 0, ground := Ground.data }, { on := 1, ground := Ground.data }], guard := none }) (v := .pointer (some ⟨gl, ol + i * 2, none⟩)) rfl (by kernel_rfl) (by kernel_rfl) (by kernel_rfl) (fun _ _ _ h => h) (Or.inl ⟨by rfl, fun w hSw => by (try dsimp only at hSw); go_simp⟩) (by exact hHeld) ?_
                try simp only [Act.put, List.setIfInBounds_toArray, List.set_cons_zero, List.set_cons_succ]
                refine wpAnyH_take (i := 8) (oi := { dst := some 67, op := Op.indexAddr 22 (Operand.tmp 65) (Operand.tmp 66), type := 0, pos := "ref.go:81", after := #[{ on := 6, ground := Ground.data }, { on := 7, ground := Ground.data }], guard := none }) (v := .pointer (some ⟨gl, ol + i * 2, none⟩)) rfl (by kernel_rfl) (by kernel_rfl) (by kernel_rfl) (fun _ _ _ h => h) (Or.inl ⟨by rfl, fun w hSw => by (try dsimp only at hSw); go_simp⟩) (by exact hHeld) ?_
                try simp only [Act.put, List.setIfInBounds_toArray, List.set_cons_zero, List.set_cons_succ]
                refine wpAnyH_take (i := 3) (oi := { dst := some 62, op := Op.fieldAddr 95 (Operand.tmp 61) 0, type := 0, pos := "ref.go:81", after := #[{ on := 2, ground := Ground.data }], guard := none }) (v := .pointer (some ⟨gl, ol + i * 2, none⟩)) rfl (by kernel_rfl) (by kernel_rfl) (by kernel_rfl) (fun _ _ _ h => h) (Or.inl ⟨by rfl, fun w hSw => by (try dsimp only at hSw); go_simp⟩) (by exact hHeld) ?_
                try simp only [Act.put, List.setIfInBounds_toArray, List.set_cons_zero, List.set_cons_succ]
                refine wpAnyH_take (i := 9) (oi := { dst := some 68, op := Op.fieldAddr 95 (Operand.tmp 67) 1, type := 0, pos := "ref.go:81", after := #[{ on := 8, ground := Ground.data }], guard := none }) (v := .pointer (some ⟨gl, ol + i * 2 + 1, none⟩)) rfl (by kernel_rfl) (by kernel_rfl) (by kernel_rfl) (fun _ _ _ h => h) (Or.inl ⟨by rfl, fun w hSw => by (try dsimp only at hSw); go_simp⟩) (by exact hHeld) ?_
                try simp only [Act.put, List.setIfInBounds_toArray, List.set_cons_zero, List.set_cons_succ]
                refine wpAnyH_take (i := 4) (oi := { dst := some 63, op := Op.load 3 (Operand.tmp 62), type := 3, pos := "ref.go:81", after := #[{ on := 3, ground := Ground.data }], guard := none }) (v := .int .i64 g0) rfl (by kernel_rfl) (by kernel_rfl) (by kernel_rfl) (fun _ _ _ h => h) (Or.inl ⟨by rfl, fun w hSw => by (try dsimp only at hSw); go_simp⟩) (by exact hHeld) ?_
                try simp only [Act.put, List.setIfInBounds_toArray, List.set_cons_zero, List.set_cons_succ]
                refine wpAnyH_take (i := 10) (oi := { dst := some 69, op := Op.load 93 (Operand.tmp 68), type := 93, pos := "ref.go:81", after := #[{ on := 9, ground := Ground.data }], guard := none }) (v := .slice (some ⟨g2, o2, none⟩) n cv) rfl (by kernel_rfl) (by kernel_rfl) (by kernel_rfl) (fun _ _ _ h => h) (Or.inl ⟨by rfl, fun w hSw => by (try dsimp only at hSw); go_simp⟩) (by exact hHeld) ?_
                try simp only [Act.put, List.setIfInBounds_toArray, List.set_cons_zero, List.set_cons_succ]
                refine wpAnyH_ready (rs := [5, 13]) (by kernel_rfl) (by simp) ?_
                refine (AllReadyH.cons (o := { dst := some 64, op := Op.buildSlice 93 0 #[], type := 93, pos := "ref.go:81", after := #[], guard := none }) rfl (fun K hK => ?_) (AllReadyH.cons (o := { dst := some 9, op := Op.alloc 95, type := 0, pos := "ref.go:81", after := #[], guard := none }) rfl (fun K hK => ?_) AllReadyH.nil))
                · go_simp
                  refine hK.out _ _ (unhide HSl _ (bw_tr (unhide BD) (bwA _ _))) (fun _ => ?_)
                  clear hK K
                  try simp only [Act.put, List.setIfInBounds_toArray, List.set_cons_zero, List.set_cons_succ]
                  refine wpAnyH_ready (rs := [11, 13]) (by kernel_rfl) (by simp) ?_
                  refine (AllReadyH.cons (o := { dst := some 70, op := Op.call { callee := Callee.builtin Builtin.append, args := #[Operand.tmp 64, Operand.tmp 69], argTypes := #[93, 93] }, type := 93, pos := "ref.go:81", after := #[{ on := 5, ground := Ground.data }, { on := 10, ground := Ground.data }], guard := none }) rfl (fun K hK => ?_) (AllReadyH.cons (o := { dst := some 9, op := Op.alloc 95, type := 0, pos := "ref.go:81", after := #[], guard := none }) rfl (fun K hK => ?_) AllReadyH.nil))
                  · have B5 : Hid (Below wq.heap.size wq (wq.drew.alloc (.cells #[] 34))) := (bw_tr (unhide BD) (bwA _ _))
                    have hmt : (wq.drew.alloc (.cells #[] 34)).ownsRow wq.heap.size 34 15 (.slice (some ⟨wq.drew.heap.size, 0, none⟩) 0 0) 0 [] := own_mtC (heap_alloc_new _ _) (Nat.le_refl _)
                    refine bg_app rfl (.tmp 64) (.tmp 69) 93 rfl wq.heap.size 34 j1 (.agg cm0) 15 200 Tryz.underlying93 hj1 hx0 hx1 hxb rfl (by decide) (.slice (some ⟨wq.drew.heap.size, 0, none⟩) 0 0) 0 [] (by first | rfl | simp [Act.eval, Act.put]) hmt ⟨g2, o2, none⟩ n cv CK (by first | rfl | simp [Act.eval, Act.put]) (unhide HCK).1 (fun j u hj => by rw [add_ato]; exact unhide HCC _ (unhide B5) j u hj) (unhide HCK).2.1 (by have := (unhide HCK).2.2; unfold maxLen; omega) (by have := (unhide HCK).2.2; omega) (unhide B5).size ?_
                    intro v1 w6 hown6 hg6 _
                    have B6 : Hid (Below wq.heap.size wq w6) := Fr.toBase (unhide B5) (Fr.ofGrown hg6) (fun z hz => (World.ownsRow.lt hmt z (by simpa using hz)).1)
                    rw [Nat.zero_add, List.nil_append] at hown6
                    obtain ⟨av1, cv1, hv1⟩ := own_slice hown6
                    subst hv1
                    clear hmt hg6
                    refine hK.out _ _ (unhide HSl _ (unhide B6)) (fun _ => ?_)
                    clear hK K
                    try simp only [Act.put, List.setIfInBounds_toArray, List.set_cons_zero, List.set_cons_succ]
                    refine wpAnyH_take (i := 12) (oi := { dst := some 71, op := Op.build 95 #[(0, Operand.tmp 63), (1, Operand.tmp 70)], type := 95, pos := "ref.go:81", after := #[{ on := 4, ground := Ground.data }, { on := 11, ground := Ground.data }], guard := none }) (v := .agg #[.int .i64 g0, .slice av1 n cv1]) rfl (by kernel_rfl) (by kernel_rfl) (by kernel_rfl) (fun _ _ _ h => h) (Or.inl ⟨by rfl, fun w hSw => by (try dsimp only at hSw); go_simp⟩) (by exact (unhide HSl _ (unhide B6))) ?_
                    try simp only [Act.put, List.setIfInBounds_toArray, List.set_cons_zero, List.set_cons_succ]
                    refine wpAnyH_ready (rs := [13]) (by kernel_rfl) (by simp) ?_
                    refine (AllReadyH.cons (o := { dst := some 9, op := Op.alloc 95, type := 0, pos := "ref.go:81", after := #[], guard := none }) rfl (fun K hK => ?_) AllReadyH.nil)
                    go_simp
                    refine hK.out _ _ (unhide HSl _ (bw_tr (unhide B6) (bwA _ _))) (fun _ => ?_)
                    clear hK K
                    try simp only [Act.put, List.setIfInBounds_toArray, List.set_cons_zero, List.set_cons_succ]
                    refine wpAnyH_ready (rs := [14]) (by kernel_rfl) (by simp) ?_
                    refine (AllReadyH.cons (o := { dst := none, op := Op.store 95 (Operand.tmp 9) (Operand.tmp 71), type := 0, pos := "ref.go:81", after := #[{ on := 13, ground := Ground.data }, { on := 12, ground := Ground.data }, { on := 11, ground := Ground.chain }, { on := 0, ground := Ground.phase }, { on := 1, ground := Ground.phase }, { on := 2, ground := Ground.phase }, { on := 3, ground := Ground.phase }, { on := 4, ground := Ground.phase }, { on := 5, ground := Ground.phase }, { on := 6, ground := Ground.phase }, { on := 7, ground := Ground.phase }, { on := 8, ground := Ground.phase }, { on := 9, ground := Ground.phase }, { on := 10, ground := Ground.phase }, { on := 11, ground := Ground.phase }, { on := 12, ground := Ground.phase }, { on := 13, ground := Ground.phase }], guard := none }) rfl (fun K hK => ?_) AllReadyH.nil)
                    have F := hide (fin15 (heap_alloc_new w6 _) (bw_tr (unhide B6) (bwA _ _)) (unhide B6).size (own_keep hown6 (fun k hk => (bwA w6 _).block k (World.ownsRow.lt hown6 k hk).2)) g0)
                    obtain ⟨xb, hxb9⟩ : ∃ b, b = w6.heap.size := ⟨_, rfl⟩
                    rw [← hxb9] at F
                    have HX9 := hide hxb9
                    clear hxb9
                    refine bg_store rfl 95 (.tmp 9) (.tmp 71) rfl xb 0 #[.int .i64 g0, .slice av1 n cv1] (by rw [unhide HX9]; first | rfl | simp [Act.eval, Act.put]) (by first | rfl | simp [Act.eval, Act.put]) (unhide F).1 (by kernel_rfl) (by first | rfl | simp [Value.oneCell']) ?_
                    refine hK.out _ _ (unhide HSl _ (unhide F).2.2.1) (fun _ => ?_)
                    clear hK K
                    try simp only [Act.put]
                    refine wpAnyH_done (by kernel_rfl) ?_ _
                    go_wp2_with fail
                    go_meet
                    case rel => exact ⟨xb, av1, cv1, by first | (rw [unhide HX9]; done) | (rw [unhide HX9]; rfl) | (rw [unhide HX9]; simp), (unhide F).2⟩
                  · go_simp
                    refine hK.out _ _ (unhide HSl _ (bw_tr (bw_tr (unhide BD) (bwA _ _)) (bwA _ _))) (fun _ => ?_)
                    clear hK K
                    try simp only [Act.put, List.setIfInBounds_toArray, List.set_cons_zero, List.set_cons_succ]
                    refine wpAnyH_ready (rs := [11]) (by kernel_rfl) (by simp) ?_
                    refine (AllReadyH.cons (o := { dst := some 70, op := Op.call { callee := Callee.builtin Builtin.append, args := #[Operand.tmp 64, Operand.tmp 69], argTypes := #[93, 93] }, type := 93, pos := "ref.go:81", after := #[{ on := 5, ground := Ground.data }, { on := 10, ground := Ground.data }], guard := none }) rfl (fun K hK => ?_) AllReadyH.nil)
                    have B5 : Hid (Below wq.heap.size wq ((wq.drew.alloc (.cells #[] 34)).alloc (.cells #[.int .i64 0, .slice none 0 0] 95))) := (bw_tr (bw_tr (unhide BD) (bwA _ _)) (bwA _ _))
                    have hmt : ((wq.drew.alloc (.cells #[] 34)).alloc (.cells #[.int .i64 0, .slice none 0 0] 95)).ownsRow wq.heap.size 34 15 (.slice (some ⟨wq.drew.heap.size, 0, none⟩) 0 0) 0 [] := own_mtC (by rw [Below.heap_alloc _ _ _ (by simp)]; exact heap_alloc_new _ _) (Nat.le_refl _)
                    refine bg_app rfl (.tmp 64) (.tmp 69) 93 rfl wq.heap.size 34 j1 (.agg cm0) 15 200 Tryz.underlying93 hj1 hx0 hx1 hxb rfl (by decide) (.slice (some ⟨wq.drew.heap.size, 0, none⟩) 0 0) 0 [] (by first | rfl | simp [Act.eval, Act.put]) hmt ⟨g2, o2, none⟩ n cv CK (by first | rfl | simp [Act.eval, Act.put]) (unhide HCK).1 (fun j u hj => by rw [add_ato]; exact unhide HCC _ (unhide B5) j u hj) (unhide HCK).2.1 (by have := (unhide HCK).2.2; unfold maxLen; omega) (by have := (unhide HCK).2.2; omega) (unhide B5).size ?_
                    intro v1 w6 hown6 hg6 _
                    have B6 : Hid (Below wq.heap.size wq w6) := Fr.toBase (unhide B5) (Fr.ofGrown hg6) (fun z hz => (World.ownsRow.lt hmt z (by simpa using hz)).1)
                    rw [Nat.zero_add, List.nil_append] at hown6
                    obtain ⟨av1, cv1, hv1⟩ := own_slice hown6
                    subst hv1
                    have hx6 : w6.heap[(wq.drew.alloc (.cells #[] 34)).heap.size]? = some (.cells #[.int .i64 0, .slice none 0 0] 95 (0, 0)) := by rw [hg6.block _ (by simp) (by simp [Value.ownBlock])]; exact heap_alloc_new _ _
                    clear hmt hg6
                    refine hK.out _ _ (unhide HSl _ (unhide B6)) (fun _ => ?_)
                    clear hK K
                    try simp only [Act.put, List.setIfInBounds_toArray, List.set_cons_zero, List.set_cons_succ]
                    refine wpAnyH_take (i := 12) (oi := { dst := some 71, op := Op.build 95 #[(0, Operand.tmp 63), (1, Operand.tmp 70)], type := 95, pos := "ref.go:81", after := #[{ on := 4, ground := Ground.data }, { on := 11, ground := Ground.data }], guard := none }) (v := .agg #[.int .i64 g0, .slice av1 n cv1]) rfl (by kernel_rfl) (by kernel_rfl) (by kernel_rfl) (fun _ _ _ h => h) (Or.inl ⟨by rfl, fun w hSw => by (try dsimp only at hSw); go_simp⟩) (by exact (unhide HSl _ (unhide B6))) ?_
                    try simp only [Act.put, List.setIfInBounds_toArray, List.set_cons_zero, List.set_cons_succ]
                    refine wpAnyH_ready (rs := [14]) (by kernel_rfl) (by simp) ?_
                    refine (AllReadyH.cons (o := { dst := none, op := Op.store 95 (Operand.tmp 9) (Operand.tmp 71), type := 0, pos := "ref.go:81", after := #[{ on := 13, ground := Ground.data }, { on := 12, ground := Ground.data }, { on := 11, ground := Ground.chain }, { on := 0, ground := Ground.phase }, { on := 1, ground := Ground.phase }, { on := 2, ground := Ground.phase }, { on := 3, ground := Ground.phase }, { on := 4, ground := Ground.phase }, { on := 5, ground := Ground.phase }, { on := 6, ground := Ground.phase }, { on := 7, ground := Ground.phase }, { on := 8, ground := Ground.phase }, { on := 9, ground := Ground.phase }, { on := 10, ground := Ground.phase }, { on := 11, ground := Ground.phase }, { on := 12, ground := Ground.phase }, { on := 13, ground := Ground.phase }], guard := none }) rfl (fun K hK => ?_) AllReadyH.nil)
                    have F := hide (fin15 hx6 (unhide B6) (by simp) hown6 g0)
                    obtain ⟨xb, hxb9⟩ : ∃ b, b = (wq.drew.alloc (.cells #[] 34)).heap.size := ⟨_, rfl⟩
                    rw [← hxb9] at F
                    have HX9 := hide hxb9
                    clear hxb9
                    refine bg_store rfl 95 (.tmp 9) (.tmp 71) rfl xb 0 #[.int .i64 g0, .slice av1 n cv1] (by rw [unhide HX9]; first | rfl | simp [Act.eval, Act.put]) (by first | rfl | simp [Act.eval, Act.put]) (unhide F).1 (by kernel_rfl) (by first | rfl | simp [Value.oneCell']) ?_
                    refine hK.out _ _ (unhide HSl _ (unhide F).2.2.1) (fun _ => ?_)
                    clear hK K
                    try simp only [Act.put]
                    refine wpAnyH_done (by kernel_rfl) ?_ _
                    go_wp2_with fail
                    go_meet
                    case rel => exact ⟨xb, av1, cv1, by first | (rw [unhide HX9]; done) | (rw [unhide HX9]; rfl) | (rw [unhide HX9]; simp), (unhide F).2⟩
                · go_simp
                  refine hK.out _ _ (unhide HSl _ (bw_tr (unhide BD) (bwA _ _))) (fun _ => ?_)
                  clear hK K
                  try simp only [Act.put, List.setIfInBounds_toArray, List.set_cons_zero, List.set_cons_succ]
                  refine wpAnyH_ready (rs := [5]) (by kernel_rfl) (by simp) ?_
                  refine (AllReadyH.cons (o := { dst := some 64, op := Op.buildSlice 93 0 #[], type := 93, pos := "ref.go:81", after := #[], guard := none }) rfl (fun K hK => ?_) AllReadyH.nil)
                  go_simp
                  refine hK.out _ _ (unhide HSl _ (bw_tr (bw_tr (unhide BD) (bwA _ _)) (bwA _ _))) (fun _ => ?_)
                  clear hK K
                  try simp only [Act.put, List.setIfInBounds_toArray, List.set_cons_zero, List.set_cons_succ]
                  refine wpAnyH_ready (rs := [11]) (by kernel_rfl) (by simp) ?_
                  refine (AllReadyH.cons (o := { dst := some 70, op := Op.call { callee := Callee.builtin Builtin.append, args := #[Operand.tmp 64, Operand.tmp 69], argTypes := #[93, 93] }, type := 93, pos := "ref.go:81", after := #[{ on := 5, ground := Ground.data }, { on := 10, ground := Ground.data }], guard := none }) rfl (fun K hK => ?_) AllReadyH.nil)
                  have B5 : Hid (Below wq.heap.size wq ((wq.drew.alloc (.cells #[.int .i64 0, .slice none 0 0] 95)).alloc (.cells #[] 34))) := (bw_tr (bw_tr (unhide BD) (bwA _ _)) (bwA _ _))
                  have hmt : ((wq.drew.alloc (.cells #[.int .i64 0, .slice none 0 0] 95)).alloc (.cells #[] 34)).ownsRow wq.heap.size 34 15 (.slice (some ⟨(wq.drew.alloc (.cells #[.int .i64 0, .slice none 0 0] 95)).heap.size, 0, none⟩) 0 0) 0 [] := own_mtC (heap_alloc_new _ _) (by simp)
                  refine bg_app rfl (.tmp 64) (.tmp 69) 93 rfl wq.heap.size 34 j1 (.agg cm0) 15 200 Tryz.underlying93 hj1 hx0 hx1 hxb rfl (by decide) (.slice (some ⟨(wq.drew.alloc (.cells #[.int .i64 0, .slice none 0 0] 95)).heap.size, 0, none⟩) 0 0) 0 [] (by first | rfl | simp [Act.eval, Act.put]) hmt ⟨g2, o2, none⟩ n cv CK (by first | rfl | simp [Act.eval, Act.put]) (unhide HCK).1 (fun j u hj => by rw [add_ato]; exact unhide HCC _ (unhide B5) j u hj) (unhide HCK).2.1 (by have := (unhide HCK).2.2; unfold maxLen; omega) (by have := (unhide HCK).2.2; omega) (unhide B5).size ?_
                  intro v1 w6 hown6 hg6 _
                  have B6 : Hid (Below wq.heap.size wq w6) := Fr.toBase (unhide B5) (Fr.ofGrown hg6) (fun z hz => (World.ownsRow.lt hmt z (by simpa using hz)).1)
                  rw [Nat.zero_add, List.nil_append] at hown6
                  obtain ⟨av1, cv1, hv1⟩ := own_slice hown6
                  subst hv1
                  have hx6 : w6.heap[wq.drew.heap.size]? = some (.cells #[.int .i64 0, .slice none 0 0] 95 (0, 0)) := (hg6.block _ (by simp; omega) (by simp [Value.ownBlock])).trans (two_x6 wq _ _)
                  clear hmt hg6
                  refine hK.out _ _ (unhide HSl _ (unhide B6)) (fun _ => ?_)
                  clear hK K
                  try simp only [Act.put, List.setIfInBounds_toArray, List.set_cons_zero, List.set_cons_succ]
                  refine wpAnyH_take (i := 12) (oi := { dst := some 71, op := Op.build 95 #[(0, Operand.tmp 63), (1, Operand.tmp 70)], type := 95, pos := "ref.go:81", after := #[{ on := 4, ground := Ground.data }, { on := 11, ground := Ground.data }], guard := none }) (v := .agg #[.int .i64 g0, .slice av1 n cv1]) rfl (by kernel_rfl) (by kernel_rfl) (by kernel_rfl) (fun _ _ _ h => h) (Or.inl ⟨by rfl, fun w hSw => by (try dsimp only at hSw); go_simp⟩) (by exact (unhide HSl _ (unhide B6))) ?_
                  try simp only [Act.put, List.setIfInBounds_toArray, List.set_cons_zero, List.set_cons_succ]
                  refine wpAnyH_ready (rs := [14]) (by kernel_rfl) (by simp) ?_
                  refine (AllReadyH.cons (o := { dst := none, op := Op.store 95 (Operand.tmp 9) (Operand.tmp 71), type := 0, pos := "ref.go:81", after := #[{ on := 13, ground := Ground.data }, { on := 12, ground := Ground.data }, { on := 11, ground := Ground.chain }, { on := 0, ground := Ground.phase }, { on := 1, ground := Ground.phase }, { on := 2, ground := Ground.phase }, { on := 3, ground := Ground.phase }, { on := 4, ground := Ground.phase }, { on := 5, ground := Ground.phase }, { on := 6, ground := Ground.phase }, { on := 7, ground := Ground.phase }, { on := 8, ground := Ground.phase }, { on := 9, ground := Ground.phase }, { on := 10, ground := Ground.phase }, { on := 11, ground := Ground.phase }, { on := 12, ground := Ground.phase }, { on := 13, ground := Ground.phase }], guard := none }) rfl (fun K hK => ?_) AllReadyH.nil)
                  have F := hide (fin15 hx6 (unhide B6) (Nat.le_refl _) hown6 g0)
                  obtain ⟨xb, hxb9⟩ : ∃ b, b = wq.drew.heap.size := ⟨_, rfl⟩
                  rw [← hxb9] at F
                  have HX9 := hide hxb9
                  clear hxb9
                  refine bg_store rfl 95 (.tmp 9) (.tmp 71) rfl xb 0 #[.int .i64 g0, .slice av1 n cv1] (by rw [unhide HX9]; first | rfl | simp [Act.eval, Act.put]) (by first | rfl | simp [Act.eval, Act.put]) (unhide F).1 (by kernel_rfl) (by first | rfl | simp [Value.oneCell']) ?_
                  refine hK.out _ _ (unhide HSl _ (unhide F).2.2.1) (fun _ => ?_)
                  clear hK K
                  try simp only [Act.put]
                  refine wpAnyH_done (by kernel_rfl) ?_ _
                  go_wp2_with fail
                  go_meet
                  case rel => exact ⟨xb, av1, cv1, by first | (rw [unhide HX9]; done) | (rw [unhide HX9]; rfl) | (rw [unhide HX9]; simp), (unhide F).2⟩
              case rest =>
              obtain ⟨xb, av1, cv1, rfl, HXB⟩ := hcut
              rename World => wE
              have BQ : Hid (Below W0.heap.size W0 wE) := bw_tr (unhide HOc).bel (unhide HXB).2.1
              obtain ⟨be, hbe⟩ : ∃ z, z = (g0 == c.gr) := ⟨_, rfl⟩
              have HBE := hide hbe
              clear hbe
              go_upto_region 16 with fail
              go_cut [76] from 72 to 77 (fun s76 wx => s76 = .bool be ∧ wx = wE)
              case first =>
                have x0 : wE.cell? ⟨xb, 0, none⟩ = some (.int .i64 g0) := blk_c (unhide HXB).1 rfl
                obtain ⟨s0, -⟩ := unhide HCc wE (unhide BQ)
                go_wp2_with fail
                go_meet
                case rel => exact ⟨by first | (rw [unhide HBE]; done) | (rw [unhide HBE]; rfl) | (rw [unhide HBE]; simp), rfl⟩
              case rest =>
              obtain ⟨rfl, hwc⟩ := hcut
              subst hwc
              rename World => wE
              go_upto_if 76 with fail
              go_cut [7] from 77 to 83 (fun s7 wx => ∃ (d2 : Bool) (q : Lg) (u : Value), s7 = .bool d2 ∧ wx.cell? ⟨xb, 0, none⟩ = some (.int .i64 q.1) ∧ wx.cell? ⟨xb, 1, none⟩ = some u ∧ Hid (CoS W0 wx u q.2 ∧ OuS W0 wx u6 out' vs' ∧ Ds l c (i + 1) (out' ++ [q]) d2))
              case first =>
                have x0 : wE.cell? ⟨xb, 0, none⟩ = some (.int .i64 g0) := blk_c (unhide HXB).1 rfl
                have x1 : wE.cell? ⟨xb, 1, none⟩ = some (.slice av1 n cv1) := blk_c (unhide HXB).1 rfl
                cases be with
                | true =>
                  have heq : g0 = c.gr := by have := unhide HBE; simpa using this.symm
                  have hdo := (unhide HDc).1.own (unhide HRI) (unhide HP) (by rw [← (unhide HNM).2.1]; exact heq)
                  obtain ⟨rfl, hdo⟩ := hdo
                  have HD2 := hide hdo
                  clear heq
                  have KO : Hid (∀ v' w8, w8.ownsRow wq.heap.size 34 15 v' (n + 1) (CK ++ [.int .i64 c.gr, .int .i64 c.ep, .int .i64 c.dev, .int .i64 c.mem, .int .i64 c.ke, .bool c.ext, .slice a1 c.adds.length k1, .slice a2 c.rem.length k2, .slice a3 c.seals.length k3, .slice a4 c.joins.length k4, .int .i64 c.own, .int .i64 c.ent, .slice a5 c.next.length k5, .int .i64 c.face, .int .i64 c.card]) → (wE.alloc (.cells #[.int .i64 c.gr, .int .i64 c.ep, .int .i64 c.dev, .int .i64 c.mem, .int .i64 c.ke, .bool c.ext, .slice a1 c.adds.length k1, .slice a2 c.rem.length k2, .slice a3 c.seals.length k3, .slice a4 c.joins.length k4, .int .i64 c.own, .int .i64 c.ent, .slice a5 c.next.length k5, .int .i64 c.face, .int .i64 c.card] 34)).grownBy w8 (Value.slice av1 n cv1).ownBlock → w8.heap[xb]? = some (.cells #[.int .i64 g0, .slice av1 n cv1] 95 (0, 0)) ∧ (w8.setCell ⟨xb, 1, none⟩ v').cell? ⟨xb, 0, none⟩ = some (.int .i64 g0) ∧ (w8.setCell ⟨xb, 1, none⟩ v').cell? ⟨xb, 1, none⟩ = some v' ∧ CoS W0 (w8.setCell ⟨xb, 1, none⟩ v') v' (p.2 ++ [c]) ∧ OuS W0 (w8.setCell ⟨xb, 1, none⟩ v') u6 out' vs') := fun v' w8 h1 h2 =>
                    own17 (unhide HOc) (unhide HXB) (unhide HEL).1 (unhide HEL).2 (unhide HCM) (unhide HNM).1 (unhide HNM).2.2 (by have e := congrArg Array.toList (unhide HCL0); simp only [List.toList_toArray] at e; rw [e]; exact h1) h2
                  clear hdo HDc
                  obtain ⟨s0, s1, s2, s3, s4, s5, s6, s7, s8, s9, s10, s11, s12, s13, s14⟩ := unhide HCc wE (unhide BQ)
                  have hnb := (unhide HCK).2.2
                  have hsq := (unhide HOc).bel.size
                  have hsx := (unhide HXB).2.1.size
                  go_wp2_with (at_builtin; refine wpList_append_own_at _ rfl (.tmp 78) (.tmp 80) 93 rfl wq.heap.size 34 j1 (.agg cm0) 15 200 Tryz.underlying93 hj1 hx0 hx1 hxb rfl (by decide) (.slice av1 n cv1) n CK (by rfl) (World.ownsRow.alloc (unhide HXB).2.2.1 _) ⟨wE.heap.size, 0, none⟩ 1 1 [.int .i64 c.gr, .int .i64 c.ep, .int .i64 c.dev, .int .i64 c.mem, .int .i64 c.ke, .bool c.ext, .slice a1 c.adds.length k1, .slice a2 c.rem.length k2, .slice a3 c.seals.length k3, .slice a4 c.joins.length k4, .int .i64 c.own, .int .i64 c.ent, .slice a5 c.next.length k5, .int .i64 c.face, .int .i64 c.card] rfl rfl (cells_newK wE #[.int .i64 c.gr, .int .i64 c.ep, .int .i64 c.dev, .int .i64 c.mem, .int .i64 c.ke, .bool c.ext, .slice a1 c.adds.length k1, .slice a2 c.rem.length k2, .slice a3 c.seals.length k3, .slice a4 c.joins.length k4, .int .i64 c.own, .int .i64 c.ent, .slice a5 c.next.length k5, .int .i64 c.face, .int .i64 c.card] 34) (one_cm _ _ _ _ _ _ _ _ _ _ _ _ _ _ _ _ _ _ _ _ _ _ _ _ _) ?c3 ?c4 ?c5 ?nx)
                  case c3 => unfold maxLen; omega
                  case c4 => omega
                  case c5 => first | omega | (simp; omega)
                  case nx =>
                    intro v' w8 hown8 hg8 _ _
                    obtain ⟨av2, cv2, hv2⟩ := own_slice hown8
                    subst hv2
                    obtain ⟨k8, y0, y1, y2, y3⟩ := unhide KO (.slice av2 (n + 1) cv2) w8 hown8 hg8
                    have z1 : w8.cell? ⟨xb, 1, none⟩ = some (.slice av1 n cv1) := blk_c k8 rfl
                    have z2 : w8.frozen? ⟨xb, 1, none⟩ = false := frozen_of_blk0 k8 _
                    have HZ := hide (And.intro y0 (And.intro y1 (And.intro y2 y3)))
                    clear k8 y0 y1 y2 y3 hown8 hg8 KO s0 s1 s2 s3 s4 s5 s6 s7 s8 s9 s10 s11 s12 s13 s14
                    go_wp2_with fail
                    go_meet
                    case rel => exact ⟨true, (p.1, p.2 ++ [c]), .slice av2 (n + 1) cv2, rfl, by rw [← (unhide HNM).2.1]; exact (unhide HZ).1, (unhide HZ).2.1, (unhide HZ).2.2.1, (unhide HZ).2.2.2, unhide HD2⟩
                | false =>
                  have heq : ¬ g0 = c.gr := by have := unhide HBE; simpa using this.symm
                  have hnx := (unhide HDc).1.next (unhide HP) (fun q => by have := (unhide HDc).2 q; have := (unhide HNM).2.1; omega)
                  have HD2 := hide hnx.1
                  have HZ := hide (And.intro (CoS.of (unhide HOc).bel.size (unhide HXB) (unhide HEL).1 (unhide HEL).2 (unhide HNM).1 (unhide HNM).2.2) ((unhide HOc).bw (unhide HXB).2.1))
                  obtain ⟨s0, -⟩ := unhide HCc wE (unhide BQ)
                  clear hnx HDc
                  go_wp2_with fail
                  go_meet
                  case rel => exact ⟨d', p, .slice av1 n cv1, rfl, by rw [← (unhide HNM).2.1]; exact x0, x1, (unhide HZ).1, (unhide HZ).2, unhide HD2⟩
              case rest =>
              obtain ⟨d2, q, u, rfl, c0, c1, HG⟩ := hcut
              obtain ⟨ua, uc, rfl⟩ := (unhide HG).1.slice
              clear HXB HOc HDc BQ HCK HEL HCL HROW HP HNM
              rename World => wF
              have HMB2 : Hid (out'.length + 1 ≤ 18) := by have := (unhide HG).2.2.le; rw [List.length_append, List.length_singleton] at this; have := unhide HN; unfold Hid; omega
              have hmb := unhide HMB2
              have hsq := (unhide HG).2.1.bel.size
              go_wp2_with (at_builtin; refine wpList_append_own_at _ rfl (.tmp 83) (.tmp 85) 22 rfl W0.heap.size 95 j0 (.agg lg0) 2 32 Tryz.underlying22 hj hy0 hy1 hyb rfl (by decide) u6 out'.length (ouC out' vs') (by rfl) (((unhide HG).2.1.bw (bwA _ _)).row) ⟨wF.heap.size, 0, none⟩ 1 1 [.int .i64 q.1, .slice ua q.2.length uc] rfl rfl (cells_at2 _ _ _ _ _ rfl) (one_log _ _ _ _) ?c3 ?c4 ?c5 ?nx)
              case c3 => unfold maxLen; omega
              case c4 => omega
              case c5 => first | omega | (simp; omega)
              case nx =>
                intro v' w7 hown7 hg7 _ _
                have HO7 : Hid (OuS W0 w7 v' (out' ++ [q]) (vs' ++ [.slice ua q.2.length uc])) := (unhide HG).2.1.app (p := q) (bwA _ _) ((unhide HG).1.bw (bwA _ _)) hown7 hg7
                have HD7 := hide (unhide HG).2.2
                clear hown7 hg7 HG c0 c1
                go_wp2_with fail
                go_roundw
                case rel => exact ⟨i + 1, out' ++ [q], vs' ++ [.slice ua q.2.length uc], d2, by go_num, rfl, by omega, HD7, HO7⟩
                case measure => simp only [intOf]; omega
            · obtain rfl : i = N := by omega
              have q1 : ¬ ((i : Int) < (i : Int)) := by omega
              have HFN : Hid ((if d = true then out else out ++ [(c.gr, [c])]) = insl l c) := by have := unhide HD; rw [unhide HN] at this; exact this.fin
              have HB5 : Hid (∀ q ∈ insl l c, q.2.length ≤ 1073741824) := fun q hq => by have := insl_sz (unhide HBn) q hq; omega
              clear HI' HRI HNE HD
              cases d with
              | true =>
                have HL : Hid (Lgs wr u6 (insl l c) ∧ Below W0.heap.size W0 wr) := by
                  have e := unhide HFN
                  rw [if_pos rfl] at e
                  rw [← e]
                  exact ⟨(unhide HO).lgs (by have := unhide HMB; omega) (by rw [e]; exact unhide HB5), (unhide HO).bel⟩
                clear HO
                go_wp2_with fail
                go_ret2
                exact ⟨_, by rw [(unhide HF).1]; rfl, by rw [(unhide HF).2]; exact (unhide HL).1, bw_tr (unhide HB0) (unhide HL).2⟩
              | false =>
                have HOb := HO
                clear HO
                obtain ⟨s0, s1, s2, s3, s4, s5, s6, s7, s8, s9, s10, s11, s12, s13, s14⟩ := unhide HCc wr (unhide HOb).bel
                have hmb := unhide HMB
                go_wp2_with (at_builtin; refine wpList_append_own_at _ rfl (.tmp 89) (.tmp 95) 22 rfl W0.heap.size 95 j0 (.agg lg0) 2 32 Tryz.underlying22 hj hy0 hy1 hyb rfl (by decide) u6 out.length (ouC out vs) (by rfl) (((unhide HOb).bw (bw_tr (bwA _ _) (bwA _ _))).row) ⟨wr.heap.size + 1, 0, none⟩ 1 1 [.int .i64 c.gr, .slice (some ⟨wr.heap.size, 0, none⟩) 1 1] rfl rfl (cells_at2 _ _ _ _ _ (by simp)) (one_log _ _ _ _) ?c3 ?c4 ?c5 ?nx)
                case c3 => unfold maxLen; omega
                case c4 => omega
                case c5 => have := (unhide HOb).bel.size; omega
                case nx =>
                  intro v' w7 hown7 hg7 _ _
                  have HO7 : Hid (OuS W0 w7 v' (out ++ [(c.gr, [c])]) (vs ++ [.slice (some ⟨wr.heap.size, 0, none⟩) 1 1])) := unhide HI1 wr u6 out vs (unhide HOb) v' w7 hown7 hg7
                  clear hown7 hg7 s0 s1 s2 s3 s4 s5 s6 s7 s8 s9 s10 s11 s12 s13 s14
                  have HL : Hid (Lgs w7 v' (insl l c) ∧ Below W0.heap.size W0 w7) := by
                    have e := unhide HFN
                    rw [if_neg (by decide)] at e
                    rw [← e]
                    exact ⟨(unhide HO7).lgs (by have := unhide HMB; rw [List.length_append, List.length_singleton]; omega) (by rw [e]; exact unhide HB5), (unhide HO7).bel⟩
                  clear HO7
                  go_wp2_with fail
                  go_ret2
                  exact ⟨_, by rw [(unhide HF).1]; rfl, by rw [(unhide HF).2]; exact (unhide HL).1, bw_tr (unhide HB0) (unhide HL).2⟩
      · have HF := hide ((unhide HE2) (by first | rfl | trivial) (by first | rfl | trivial) hep)
        have e1 : (c.ep != (L : Int)) = true := by simp [hep]
        have e2 : ¬ c.ep = (L : Int) := hep
        have BD : Below W0.heap.size W0 w2.drew := (unhide B2).drew
        obtain ⟨s0, s1, -⟩ := unhide HCc w2.drew BD
        clear HE2 HE3 HE4 HI HRS hep
        go_wp2_with fail
        go_region_law (go_simp; go_wp2_with (first | (go_at_call 17; refine (unhide KL _ (bw_tr (unhide HB0) BD)).mono ?_; rintro r z ⟨rfl, b3⟩; have B3 := hide (bw_tr BD b3); obtain ⟨t0, t1, -⟩ := unhide HCc z (unhide B3); clear b3)))
        all_goals
          go_wp2_with fail
          go_ret2
          exact ⟨_, by rw [(unhide HF).1]; rfl, by rw [(unhide HF).2]; exact lgs_nil _, bw_tr (unhide HB0) (unhide B3)⟩
end Go.Proofs.YtnfhbmlmemifjaaGreatDoor
