/- The contract of Dag of package term. -/
import Derived.Test.YtfpimmbjjcpobaaGreatDoorTmD
namespace Go.Proofs.YtfpimmbjjcpobaaGreatDoor
open Go.RowKit Go.Maps

def lenOf : Value → Nat
  | .slice _ n _ => n
  | _ => 0
/-- What is begun next. -/
theorem unt_step {L : List Tm} (hG : Good L) {m : Nat} {o : List Nat} (h1 : 1 ≤ m) (h2 : m ≤ L.length) (ho : m ∉ o) (h : unt o (pA L m) (pB L m) ≠ 0) :
    1 ≤ unt o (pA L m) (pB L m) ∧ unt o (pA L m) (pB L m) < m ∧ unt o (pA L m) (pB L m) ∉ o ∧ ordF L L.length m (ordF L L.length (unt o (pA L m) (pB L m)) o) = ordF L L.length m o := by
  obtain ⟨p1, p2⟩ := hG.parts h1 h2
  unfold unt at h ⊢
  by_cases c1 : pA L m ≠ 0 ∧ pA L m ∉ o
  · rw [if_pos c1]
    exact ⟨by omega, p1, c1.2, ordF_pushA hG h1 h2 h2 ho⟩
  · rw [if_neg c1] at h ⊢
    by_cases c2 : pB L m ≠ 0 ∧ pB L m ∉ o
    · rw [if_pos c2]
      refine ⟨by omega, p2, c2.2, ordF_pushB hG h1 h2 h2 ho ?_⟩
      by_cases c : pA L m = 0
      · exact Or.inl c
      · exact Or.inr (Classical.byContradiction fun q => c1 ⟨c, q⟩)
    · rw [if_neg c2] at h; exact absurd rfl h
theorem unt_none {o : List Nat} {a b : Nat} (h : unt o a b = 0) : (a = 0 ∨ a ∈ o) ∧ (b = 0 ∨ b ∈ o) := by
  unfold unt at h
  split at h
  · rename_i c; exact absurd h c.1
  · rename_i c1
    split at h
    · rename_i c; exact absurd h c.1
    · rename_i c2
      exact ⟨Classical.byContradiction fun q => c1 ⟨fun z => q (Or.inl z), fun z => q (Or.inr z)⟩, Classical.byContradiction fun q => c2 ⟨fun z => q (Or.inl z), fun z => q (Or.inr z)⟩⟩

theorem Dg.start {w : World} {L : List Tm} {n : Nat} (h1 : 1 ≤ n) (h2 : n ≤ L.length) : Dg w ((w.alloc (.map #[] 0)).alloc (.cells #[.int .i64 (n : Int)] 3)) L w.heap.size (.slice none 0 0) (.slice (some ⟨w.heap.size + 1, 0, none⟩) 1 1) [n] [] := by
  have e : (w.alloc (.map #[] 0)).heap.size = w.heap.size + 1 := by simp
  refine ⟨⟨by simp; omega, by simp⟩, told_nil L, TmRow.nil _ _, ?_, ?_, Nat.le_refl _, ?_⟩
  · refine ⟨rfl, Or.inr ⟨w.heap.size + 1, 1, #[.int .i64 (n : Int)], rfl, by omega, ?_, Nat.le_refl _, by unfold maxLen; omega, rfl, rfl⟩⟩
    rw [← e]; exact heap_alloc_new _ _
  · exact (PMap.made w).bw ((Below.refl _ _).alloc (Nat.le_refl _) _)
  · exact ((Below.refl _ _).alloc (Nat.le_refl _) _).alloc (by simp) _

theorem slice_upto (w : World) (g n cap i : Nat) (hi : i ≤ n) (hc : n ≤ cap) : (Instr.slice 23 (.slice (some ⟨g, 0, none⟩) n cap) none (some (.int .i64 (i : Int))) none).run Tryz.prog w = .ok (.slice (some ⟨g, 0, none⟩) i cap) w := by
  have ht : Tryz.prog.underlying 23 = some (.slice (Tryz.prog.elem 23)) := by kernel_rfl
  have he : Tryz.prog.elem 23 = 3 := by kernel_rfl
  have hs : (Go.sizeOf 3).run Tryz.prog w = .ok 1 w := by kernel_rfl
  rw [run_slice_h (P := Tryz.prog) w 23 (some ⟨g, 0, none⟩) n cap ht .i64 i (by omega) (by omega), he, hs]
  simp [Result.andThen, sliced, Addr.add]
theorem own_form {B : Nat} {w : World} {e : TypeId} {c : Nat} {v : Value} {n : Nat} {xs : List Value} (h : w.ownsRow B e c v (n + 1) xs) : ∃ g cap, v = .slice (some ⟨g, 0, none⟩) (n + 1) cap := by
  rcases h.2 with ⟨_, h⟩ | ⟨g, cap, _, h, _⟩
  · omega
  · exact ⟨g, cap, h⟩
theorem fin_snoc (L : List Tm) (f : Nat) (s o : List Nat) (m : Nat) : fin L f (s ++ [m]).reverse o = fin L f s.reverse (ordF L f m o) := by
  rw [List.reverse_append]; rfl
theorem lenOf_row {B : Nat} {w : World} {v : Value} {l : List Tm} (h : TmRow B w v l) : lenOf v = l.length := by
  rcases h.form with ⟨rfl, rfl⟩ | ⟨g, cap, rfl, _⟩ <;> rfl

theorem meas {N a q : Nat} (h : a < N) (hq : q + 1 ≤ N) : (N - (a + 1)) * (N + 2) + (N + 1 - q) < (N - a) * (N + 2) + (N + 1 - (q + 1)) := by
  have e : N - a = (N - (a + 1)) + 1 := by omega
  rw [e, Nat.succ_mul]
  generalize (N - (a + 1)) * (N + 2) = Z
  omega

set_option maxRecDepth 100000 in
set_option maxHeartbeats 4000000 in
theorem dag_any (b : Nat) (sv : Value) (mb : Nat) (L : List Tm) (x : Int) (w : World) (h : St w b sv mb L) :
    Calls Tryz.prog 8 #[.pointer (some ⟨b, 0, none⟩), .int .i64 x] w fun e w' => ∃ v, e = .returned v ∧ TmRow w.heap.size w' v (dag L x) ∧ Below w.heap.size w w' := by
  have K := has_any b sv mb L x w h
  cases hx : thr L.length x
  · have e : dag L x = [] := by simp [dag, hx]
    rw [e]
    rw [hx] at K
    clear e hx h
    go_enter Tryz.func8, Tryz.ntmps8
    go_wp2_with fail
    refine K.mono ?_
    rintro e w ⟨rfl, rfl⟩
    go_wp2
    go_ret
    exact ⟨_, rfl, TmRow.nil _ _, Below.refl _ _⟩
  · rw [hx] at K
    obtain ⟨n, rfl⟩ : ∃ n : Nat, x = n := ⟨x.toNat, by have := thr_iff.1 hx; omega⟩
    have hn := thr_iff.1 hx
    have hn1 : 1 ≤ n := by omega
    have hn2 : n ≤ L.length := by omega
    have e : dag L (n : Int) = outs L (ord L n) := by simp [dag, hx]
    rw [e]
    have hG := h.good
    have hL := h.len
    obtain ⟨i0, hi, hz0, hz1, hz2⟩ := info_parts Tryz.infoTerm
    obtain ⟨j0, hj, hy0, hy1, hy2⟩ := info_parts Tryz.infoInt
    have hmm := @run_makeMap Tryz.prog
    have HS := hide h
    have HN := hide (And.intro hn1 (And.intro hn2 (And.intro hG hL)))
    clear e hx hn hn1 hn2 h hL hG
    go_enter Tryz.func8, Tryz.ntmps8
    go_wp2_with fail
    refine K.mono ?_
    rintro e w ⟨rfl, rfl⟩
    clear K
    go_wp2_with fail
    go_loopw [5, 7] (fun lv bv wr => ∃ stk o : List Nat, Hid (fin L L.length stk.reverse o = ord L n) ∧ Dg w wr L w.heap.size lv bv stk o) (fun lv bv _ => (L.length - lenOf lv) * (L.length + 2) + (L.length + 1 - lenOf bv))
    case atStart =>
      obtain ⟨q1, q2, q3, _⟩ := unhide HN
      exact ⟨[n], [], by unfold Hid; simp [fin]; exact ord_fuel q3 q2 q2, Dg.start q1 q2⟩
    case round =>
      obtain ⟨stk, o, HF, hD⟩ := hrel
      rcases List.eq_nil_or_concat stk with rfl | ⟨s, m, hstk⟩
      · have e : o = ord L n := by have := unhide HF; simpa [fin] using this
        subst e
        obtain ⟨ba, bc, rfl⟩ : ∃ a c, u7 = .slice a 0 c := by
          rcases hD.rb.form with ⟨h, _⟩ | ⟨g, cap, h, _⟩
          · exact ⟨_, _, h⟩
          · exact ⟨_, cap, h⟩
        have HD := hide hD
        clear hD HF HS
        go_wp2_with fail
        go_ret
        exact ⟨_, rfl, (unhide HD).rl, (unhide HD).bel⟩
      · obtain rfl : stk = s ++ [m] := by rw [hstk]; simp
        clear hstk
        obtain ⟨hn1, hn2, hG, hL⟩ := unhide HN
        obtain ⟨hm1, hm2, hmo⟩ := hD.beg.rng m (by simp)
        have hsl := hD.beg.len
        have hol := hD.told.len_lt hm1 hm2 hmo
        obtain ⟨pa1, pb1⟩ := hG.parts hm1 hm2
        obtain ⟨ta, tb⟩ := hG.tmAt_parts hm1 hm2
        obtain ⟨q, hq⟩ : ∃ q, q = s.length := ⟨_, rfl⟩
        obtain ⟨g, cap, hbv, hg1, hg2, hg3, hg4⟩ : ∃ g cap, u7 = .slice (some ⟨g, 0, none⟩) (q + 1) cap ∧ w.heap.size ≤ g ∧ g < wr.heap.size ∧ q + 1 ≤ cap ∧ cap ≤ maxLen := by
          rcases hD.rb.form with ⟨_, h⟩ | ⟨g, cap, h, h1, h2, h3, h4⟩
          · simp at h
          · rw [List.length_append] at h h3; rw [hq]; exact ⟨g, cap, h, h1, h2, h3, h4⟩
        subst hbv
        obtain ⟨i, rfl⟩ : ∃ i, m = i + 1 := ⟨m - 1, by omega⟩
        have cm : wr.cell? ⟨g, q, none⟩ = some (.int .i64 ((i : Int) + 1)) := by
          have := hD.rb.at (g := g) rfl (i := q) (m := i + 1) (by rw [hq]; simp)
          rw [this]; rfl
        have hS1 : St wr b sv mb L := (unhide HS).new ⟨hD.bel.os, hD.bel.tape, hD.bel.output, hD.bel.size, fun k hk _ => hD.bel.block k hk⟩
        obtain ⟨c0, c1, _⟩ := hS1.cells
        have hbw := lt_of_blk hS1.blk
        obtain ⟨t, ht⟩ : ∃ t, t = tmAt L (i + 1) := ⟨_, rfl⟩
        have hti : L[i]? = some t := by rw [ht]; simp [tmAt, List.getD, List.getElem?_eq_getElem (show i < L.length by omega)]
        obtain ⟨g2, cap2, rfl, hg5, t0, t1, t2, t3⟩ : ∃ g cap, sv = .slice (some ⟨g, 0, none⟩) L.length cap ∧ g < wr.heap.size ∧ TAt wr g (i * 4) t := by
          rcases hS1.row.form with ⟨_, h⟩ | ⟨g, cap, hv, _, hg, _⟩
          · rw [h] at hti; simp at hti
          · exact ⟨g, cap, hv, hg, hS1.row.at (by rw [hv]; rfl) hti⟩
        rw [← ht] at ta tb
        rw [ta] at t2
        rw [tb] at t3
        obtain ⟨A, hA⟩ : ∃ A, A = pA L (i + 1) := ⟨_, rfl⟩
        obtain ⟨B, hB⟩ : ∃ B, B = pB L (i + 1) := ⟨_, rfl⟩
        rw [← hA] at t2 pa1
        rw [← hB] at t3 pb1
        have KU := untold_any t.kd t.n A B w.heap.size o (wr.alloc (.cells #[.int .u8 t.kd, .int .i64 t.n, .int .i64 (A : Int), .int .i64 (B : Int)] 69)) (hD.pm.bw ((Below.refl _ _).alloc (Nat.le_refl _) _)) (by omega) (by omega)
        obtain ⟨N, hN⟩ : ∃ N, N = L.length := ⟨_, rfl⟩
        rw [← hN] at c0 ⊢
        have hiN : (i : Int) < (N : Int) := by omega
        have hqb : (q : Int) ≤ 1048577 := by rw [List.length_append] at hsl; omega
        have hib : (i : Int) ≤ 1048577 := by omega
        have hNb : (N : Int) ≤ 1048577 := by omega
        have HT := hide (And.intro ht (And.intro ta (And.intro tb (And.intro hA (And.intro hB (And.intro hq hN))))))
        have HD := hide hD
        have HQ := hide (And.intro hm1 (And.intro hm2 (And.intro hmo (And.intro hsl (And.intro hol (And.intro hL hG))))))
        have HP := hide (And.intro pa1 pb1)
        clear ht ta tb hA hB hq hN hD hm1 hm2 hmo hsl hol hL hG pa1 pb1 hn1 hn2 hti hS1 hg4
        go_wp2_with fail
        refine KU.mono ?_
        rintro e w1 ⟨rfl, hb1⟩
        have hb01 : Below wr.heap.size wr w1 := bw_tr ((Below.refl _ _).alloc (Nat.le_refl _) _) hb1
        have D1 := (unhide HD).new hb01
        have hz : wr.heap.size < w1.heap.size := by have := hb1.size; simp at this; omega
        have hblk : w1.heap[wr.heap.size]? = some (.cells #[.int .u8 t.kd, .int .i64 t.n, .int .i64 (A : Int), .int .i64 (B : Int)] 69 (0, 0)) := by
          rw [hb1.block _ (by simp)]; exact heap_alloc_new _ _
        have x0 : TAt w1 wr.heap.size 0 ⟨t.kd, t.n, A, B⟩ := by
          have e : TAt (wr.alloc (.cells #[.int .u8 t.kd, .int .i64 t.n, .int .i64 (A : Int), .int .i64 (B : Int)] 69)) wr.heap.size 0 ⟨t.kd, t.n, A, B⟩ := by
            unfold TAt World.cell?; simp only [heap_alloc_new]; exact ⟨rfl, rfl, rfl, rfl⟩
          exact e.keep (hb1.block _ (by simp))
        have HW1 := hide hb01
        clear hb1 hb01 KU c0 c1 cm t0 t1 t2 t3 hg5 hiN hib HS
        by_cases hp : unt o A B = 0
        · rw [hp]
          obtain ⟨uA, uB⟩ := unt_none hp
          obtain ⟨htt, _, _, hA, hB, hq, hN⟩ := unhide HT
          have hmQ := unhide HQ
          have hPb := unhide HP
          have hb5 := hmQ.2.1
          have hb6 := hmQ.2.2.2.2.2.1
          have HF' : Hid (fin L L.length s.reverse (o ++ [i + 1]) = ord L n) := by
            unfold Hid
            have e := unhide HF
            rw [fin_snoc, ordF_pop hmQ.2.2.2.2.2.2 hmQ.1 hmQ.2.1 hmQ.2.1 hmQ.2.2.1 (by rw [← hA]; exact uA) (by rw [← hB]; exact uB)] at e
            exact e
          have HLA : (Instr.lookup 86 (.map (some w.heap.size)) (.int .i64 (A : Int)) false).run Tryz.prog w1.drew = .ok (.int .i64 (pos o A : Nat)) w1.drew := PMap.look (w := w1.drew) (k := A) (D1.pm.keep rfl) (by omega)
          have HLB : (Instr.lookup 86 (.map (some w.heap.size)) (.int .i64 (B : Int)) false).run Tryz.prog w1.drew = .ok (.int .i64 (pos o B : Nat)) w1.drew := PMap.look (w := w1.drew) (k := B) (D1.pm.keep rfl) (by omega)
          have HLC : (Instr.lookup 86 (.map (some w.heap.size)) (.int .i64 (B : Int)) false).run Tryz.prog (w1.setCell ⟨wr.heap.size, 2, none⟩ (.int .i64 (pos o A : Nat))).drew = .ok (.int .i64 (pos o B : Nat)) (w1.setCell ⟨wr.heap.size, 2, none⟩ (.int .i64 (pos o A : Nat))).drew := PMap.look (w := (w1.setCell ⟨wr.heap.size, 2, none⟩ (.int .i64 (pos o A : Nat))).drew) (k := B) (D1.pm.keep (Below.heap_setCell _ _ _ _ (by simp only []; omega))) (by omega)
          have hsl : ∀ W, (Instr.slice 23 (.slice (some ⟨g, 0, none⟩) (q + 1) cap) none (some (.int .i64 (q : Int))) none).run Tryz.prog W = .ok (.slice (some ⟨g, 0, none⟩) q cap) W := fun W => slice_upto W g (q + 1) cap q (by omega) hg3
          have etr : tr o (tmAt L (i + 1)) = ⟨t.kd, t.n, (pos o A : Nat), (pos o B : Nat)⟩ := by rw [tr_at, ← htt, ← hA, ← hB]
          obtain ⟨y0, y1, y2, y3⟩ := x0
          simp only [Nat.zero_add] at y1 y2 y3
          have hfz : ∀ j, w1.frozen? ⟨wr.heap.size, j, none⟩ = false := fun j => by simp [World.frozen?, hblk]
          have HBk := hide hblk
          clear hblk
          have HD1 := hide D1
          have HU := hide (And.intro uA (And.intro uB (And.intro hA (And.intro hB (And.intro hq (And.intro hN (And.intro hmQ (And.intro etr hPb))))))))
          clear hp uA uB htt hA hB hq hN hmQ etr hPb HF D1 hb5 hb6
          generalize pos o A = PA at *
          generalize pos o B = PB at *
          have q0 : (w1.setCell ⟨wr.heap.size, 2, none⟩ (.int .i64 (PA : Int))).cell? ⟨wr.heap.size, 3, none⟩ = some (.int .i64 (B : Int)) := by
            simp [World.cell?, World.setCell, Array.getElem?_modify, (unhide HBk)]
          obtain ⟨wx0, hwx0⟩ : ∃ wx0, wx0 = (w1.setCell ⟨wr.heap.size, 2, none⟩ (.int .i64 (PA : Int))).setCell ⟨wr.heap.size, 3, none⟩ (.int .i64 (PB : Int)) := ⟨_, rfl⟩
          have hbx : wx0.heap[wr.heap.size]? = some (.cells #[.int .u8 t.kd, .int .i64 t.n, .int .i64 (PA : Int), .int .i64 (PB : Int)] 69 (0, 0)) := by
            rw [hwx0]; simp [World.setCell, Array.getElem?_modify, (unhide HBk)]
          have hwx : Below wr.heap.size wr wx0 := by
            rw [hwx0]; exact ((unhide HW1).setCell (by simp) _).setCell (by simp) _
          have HX := hide (And.intro hbx (And.intro ((unhide HD).new hwx) hwx0))
          have HK : Hid (∀ W : World, W.heap = wx0.heap → W.cell? ⟨wr.heap.size, 0, none⟩ = some (.int .u8 t.kd) ∧ W.cell? ⟨wr.heap.size, 1, none⟩ = some (.int .i64 t.n) ∧ W.cell? ⟨wr.heap.size, 2, none⟩ = some (.int .i64 (PA : Int)) ∧ W.cell? ⟨wr.heap.size, 3, none⟩ = some (.int .i64 (PB : Int))) := by
            intro W e
            simp [World.cell?, e, hbx]
          clear hbx hwx hwx0
          go_upto_region 13 with fail
          go_cut [49] from 49 to 58 (fun s49 wx => s49 = .map (some w.heap.size) ∧ Hid (wx.heap = wx0.heap ∧ Dg w wx L w.heap.size u5 (.slice (some ⟨g, 0, none⟩) (q + 1) cap) (s ++ [i + 1]) o) ∧ wx.cell? ⟨wr.heap.size, 0, none⟩ = some (.int .u8 t.kd) ∧ wx.cell? ⟨wr.heap.size, 1, none⟩ = some (.int .i64 t.n) ∧ wx.cell? ⟨wr.heap.size, 2, none⟩ = some (.int .i64 (PA : Int)) ∧ wx.cell? ⟨wr.heap.size, 3, none⟩ = some (.int .i64 (PB : Int)))
          case first =>
            go_region_with fail
            all_goals
              go_wp2_with fail
              go_meet
              case rel =>
                have e0 := (unhide HX).2.2
                exact ⟨rfl, ⟨by rw [e0]; rfl, (unhide HD).new ((((unhide HW1).setCell (by simp) _).setCell (by simp) _).drew)⟩, unhide HK _ (by rw [e0]; rfl)⟩
          case rest =>
            obtain ⟨rfl, HXX, x0, x1, x2, x3⟩ := hcut
            clear HD HW1 HK HX HLA HLB HLC y0 y1 y2 y3 hfz HBk HD1 hsl q0
            obtain ⟨ol, hol⟩ : ∃ ol, ol = (outs L o).length := ⟨_, rfl⟩
            have hol2 : ol = o.length := by rw [hol, outs_len]
            have DX := (unhide HXX).2
            have hrow : wc.ownsRow w.heap.size 69 4 u5 ol ((outs L o).flatMap tmC) := by rw [hol]; exact DX.rl
            have hlv : lenOf u5 = ol := by rw [hol]; exact lenOf_row DX.rl
            obtain ⟨uA, uB, hA, hB, hq, hN, hmQ, etr, _⟩ := unhide HU
            have hb5 : ol < N := by rw [hol2, hN]; exact hmQ.2.2.2.2.1
            have hb6 : N ≤ 1048576 := by rw [hN]; exact hmQ.2.2.2.2.2.1
            have hb7 : q + 1 ≤ N := by have := hmQ.2.2.2.1; rw [List.length_append, ← hq, ← hN] at this; exact this
            have hs1 := DX.bel.size
            have HV := hide (And.intro hlv (And.intro hol2 (And.intro hol (And.intro uA (And.intro uB (And.intro hA (And.intro hB (And.intro hq (And.intro hN (And.intro hmQ etr))))))))))
            have HC3 : ol + 1 ≤ maxLen := by unfold maxLen; omega
            have HC4 : (ol + 1) * 32 ≤ 140737488355328 := by omega
            have HBD := hide (And.intro hb5 (And.intro hb6 (And.intro hb7 (And.intro HC3 (And.intro HC4 DX)))))
            clear hlv hol2 hol uA uB hA hB hq hN hmQ etr DX hb5 hb6 hb7 HC3 HC4 HU HXX HT HQ HP
            go_wp2_with (at_builtin; refine wpList_append_own_at _ rfl (.tmp 59) (.tmp 61) 22 rfl w.heap.size 69 i0 (.agg #[.int .u8 0, .int .i64 0, .int .i64 0, .int .i64 0]) 4 32 Tryz.underlying22 hi hz0 hz1 hz2 rfl (by decide) _ ol _ rfl (World.ownsRow.alloc hrow _) ⟨wc.heap.size, 0, none⟩ 1 1 [.int .u8 t.kd, .int .i64 t.n, .int .i64 (PA : Int), .int .i64 (PB : Int)] rfl rfl (cells_new4 _ _ _ _ _ _) (tmC_one ⟨t.kd, t.n, PA, PB⟩) ?c3 ?c4 ?c5 ?nx)
            case c3 => exact (unhide HBD).2.2.2.1
            case c4 => exact (unhide HBD).2.2.2.2.1
            case c5 => simp; omega
            case nx =>
              intro v' w3 hown' hgrow _ hat
              obtain ⟨g', cap', rfl⟩ := own_form hown'
              obtain ⟨hlv, hol2, hol, uA, uB, hA, hB, hq, hN, hmQ, etr⟩ := unhide HV
              obtain ⟨hb5, hb6, hb7, _, _, DX⟩ := unhide HBD
              obtain ⟨w4, hst, hpm4, hg4⟩ : ∃ w4, (Instr.mapUpdate 86 (.map (some w.heap.size)) (.int .i64 ((i : Int) + 1)) (.int .i64 ((ol : Int) + 1))).run Tryz.prog w3 = .ok () w4 ∧ PMap w4 w.heap.size (o ++ [i + 1]) ∧ w3.grownBy w4 (some w.heap.size) := by
                have hpm3 : PMap w3 w.heap.size o := DX.pm.keep (by
                  rw [hgrow.block _ (by have := DX.pm.lt; simp; omega) (fun c => DX.apart.1 c.symm), Below.heap_alloc _ _ _ DX.pm.lt])
                have := PMap.store hpm3 (m := i + 1) hmQ.2.2.1 (by omega) (by omega)
                rw [← hol2] at this
                exact this
              have D4 : Dg w w4 L w.heap.size (.slice (some ⟨g', 0, none⟩) (ol + 1) cap') (.slice (some ⟨g, 0, none⟩) q cap) s (o ++ [i + 1]) := by
                refine DX.tell (Below.refl _ _) rfl ?_ ?_ hgrow (by simpa using hat) hpm4 hg4 (by rw [← hA]; exact uA) (by rw [← hB]; exact uB)
                · have := DX.rb
                  rw [hq] at this ⊢
                  exact this.pop
                · rw [← hol, etr]; exact hown'
              have HD4 := hide D4
              have HM := hide (And.intro hlv (And.intro hb5 (And.intro hb7 hN)))
              clear hown' hgrow hat hlv hol2 hol uA uB hA hB hq hN hmQ etr hb5 hb6 hb7 DX hpm4 hg4 D4 HV HBD hrow
              have hst2 : (Instr.mapUpdate 86 (.map (some w.heap.size)) (.int .i64 ((i : Int) + 1)) (.int .i64 ((ol + 1 : Nat) : Int))).run Tryz.prog w3 = .ok () w4 := hst
              go_wp2_with fail
              go_roundw
              case rel => exact ⟨s, o ++ [i + 1], by rw [(unhide HM).2.2.2]; exact HF', unhide HD4⟩
              case measure =>
                have e := (unhide HM).1
                show (N - (ol + 1)) * (N + 2) + (N + 1 - q) < (N - lenOf u5) * (N + 2) + (N + 1 - (q + 1))
                rw [e]
                exact meas (unhide HM).2.1 (unhide HM).2.2.1
        · have hp1 : unt o A B ≤ 1048576 := by
            have := (unhide HP)
            have h2 := (unhide HQ)
            unfold unt; split
            · omega
            · split <;> omega
          clear hblk x0
          obtain ⟨hA, hB, hq, hN⟩ := (unhide HT).2.2.2
          obtain ⟨e1, e2, e3, e4⟩ := unt_step (unhide HQ).2.2.2.2.2.2 (unhide HQ).1 (unhide HQ).2.1 (unhide HQ).2.2.1 (by rw [← hA, ← hB]; exact hp)
          rw [← hA, ← hB] at e1 e2 e3 e4
          have HF' : Hid (fin L L.length (s ++ [i + 1] ++ [unt o A B]).reverse o = ord L n) := by
            unfold Hid
            rw [fin_snoc, fin_snoc, e4, ← fin_snoc]
            exact unhide HF
          have hrb : w1.ownsRow w.heap.size 3 1 (.slice (some ⟨g, 0, none⟩) (q + 1) cap) (q + 1) ((s ++ [i + 1]).map (fun m => .int .i64 ((m : Nat) : Int))) := by
            have := D1.rb; unfold NRow at this; rw [List.length_append, ← hq] at this; exact this
          have hqN : q + 1 ≤ N := by have := (unhide HQ).2.2.2.1; rw [List.length_append] at this; simp at this; omega
          have hq0 : q ≤ 1048577 := by omega
          have HE := hide (And.intro e1 (And.intro e2 (And.intro e3 hq)))
          have HD1 := hide D1
          have hs1 := D1.bel.size
          clear hA hB hq hN e1 e2 e3 e4 HF D1
          have z1 : (((unt o A B : Nat) : Int) == 0) = false := by rw [beq_eq_false_iff_ne]; omega
          have z2 : ¬ (((unt o A B : Nat) : Int) = 0) := by omega
          generalize unt o A B = p at *
          go_wp2_with (at_builtin; refine wpList_append_own_at _ rfl (.tmp 40) (.tmp 42) 23 rfl w.heap.size 3 j0 (.int .i64 0) 1 8 Tryz.underlying23 hj hy0 hy1 hy2 rfl (by decide) _ (q + 1) _ rfl (World.ownsRow.alloc hrb _) ⟨w1.heap.size, 0, none⟩ 1 1 [_] rfl rfl (cell_one_new _ _ _) ?c2 ?c3 ?c4 ?c5 ?nx)
          case c2 => intro u hu; simp at hu; subst hu; rfl
          case c3 => unfold maxLen; omega
          case c4 => omega
          case c5 => simp; omega
          case nx =>
            intro v' w2 hown' hgrow _ _
            obtain ⟨g', cap', rfl⟩ := own_form hown'
            have D2 : Dg w w2 L w.heap.size u5 (.slice (some ⟨g', 0, none⟩) (q + 1 + 1) cap') (s ++ [i + 1] ++ [p]) o := by
              refine (unhide HD1).push ?_ hgrow (unhide HE).1 (unhide HE).2.1 (unhide HE).2.2.1
              have hq := (unhide HE).2.2.2
              subst hq
              simpa using hown'
            have HD2 := hide D2
            clear hown' hgrow D2 HD1
            go_wp2_with fail
            go_roundw
            case rel => exact ⟨s ++ [i + 1] ++ [p], o, by rw [(unhide HT).2.2.2.2.2.2]; exact HF', unhide HD2⟩
            case measure => simp only [lenOf]; omega

end Go.Proofs.YtfpimmbjjcpobaaGreatDoor
