/- Texts joined: TeD TeE TeF0. -/
import Derived.Test.YtpcpcgagiapinaaGreatDoorTeC
import Derived.Test.YtpcpcgagiapinaaGreatDoorBoB
import Derived.Test.YtpcpcgagiapinaaGreatDoorZ07
import Derived.Test.YtpcpcgagiapinaaGreatDoorZ09
/- The contract of the document's Twin. -/
namespace Go.Proofs.YtpcpcgagiapinaaGreatDoor
open Go.RowKit Go.Maps
set_option maxRecDepth 100000 in
set_option maxHeartbeats 4000000 in
theorem rtwin_any {w : World} {v : Value} {T : List Nd} (h : Trd w v T) (hs : T.length ≤ 15) (hu : ∀ n ∈ T, n.un.length ≤ 1000) :
    Calls Tryz.prog 103 #[.agg #[v]] w fun e w' => ∃ r us, e = .returned (.agg #[r]) ∧ OTr w.heap.size w' r T us ∧ Below w.heap.size w w' := by
  obtain ⟨i0, hi0, hz0, hz1, hz2⟩ := info_parts infoNode
  obtain ⟨a, c, rfl⟩ := h.slice
  obtain ⟨W0, hW0⟩ : ∃ W0, W0 = (w.alloc (.cells #[.slice a T.length c] 44)).alloc (.cells #[.slice none 0 0] 44) := ⟨_, rfl⟩
  have hb0 : Below w.heap.size w W0 := by rw [hW0]; exact (bwA _ _).alloc (by simp) _
  have hs0 : W0.heap.size = w.heap.size + 2 := by rw [hW0]; simp
  have HB : Hid (∀ W, Below W0.heap.size W0 W → W.heap[w.heap.size]? = some (.cells #[.slice a T.length c] 44 (0, 0)) ∧ W.heap[w.heap.size + 1]? = some (.cells #[.slice none 0 0] 44 (0, 0)) ∧ Below w.heap.size w W) := fun W hW => by
    refine ⟨?_, ?_, bw_tr hb0 hW⟩
    · rw [hW.block _ (by omega), hW0, Below.heap_alloc _ _ _ (by simp)]; exact heap_alloc_new _ _
    · rw [hW.block _ (by omega), hW0]
      have := heap_alloc_new (w.alloc (.cells #[.slice a T.length c] 44)) (.cells #[.slice none 0 0] 44)
      simpa using this
  have HW : Hid (W0 = (w.alloc (.cells #[.slice a T.length c] 44)).alloc (.cells #[.slice none 0 0] 44)) := hW0
  have HS := hide hs0
  obtain ⟨-, h2⟩ := h.at
  have HC : Hid (∀ i, i < T.length → ∃ b o p m e ua ul uc l, a = some ⟨b, o, none⟩ ∧ T[i]? = some ⟨p, m, e, l⟩ ∧ l.length = ul ∧ ul ≤ 1000 ∧ ∀ W, Below w.heap.size w W → (W.cell? ⟨b, o + i * 4, none⟩ = some (.int .i64 p) ∧ W.cell? ⟨b, o + i * 4 + 1, none⟩ = some (.int .i64 m) ∧ W.cell? ⟨b, o + i * 4 + 2, none⟩ = some (.int .i64 e) ∧ W.cell? ⟨b, o + i * 4 + 3, none⟩ = some (.slice ua ul uc)) ∧ Nums W (.slice ua ul uc) l) := fun i hi => by
    obtain ⟨b, o, e, h3⟩ := h2 (by omega)
    obtain ⟨u, k1, k2⟩ := h3 w (Below.refl _ _) i hi
    obtain ⟨ua, uc, rfl⟩ := nums_slice k2
    have hB : b < w.heap.size := lt_of_cell k1.c3
    exact ⟨b, o, (ndAt T i).pub, (ndAt T i).mem, (ndAt T i).ep, ua, (ndAt T i).un.length, uc, (ndAt T i).un, e, ndAt_of hi, rfl, hu _ (ndAt_mem hi), fun W hW => ⟨⟨(k1.bw hB hW).c0, (k1.bw hB hW).c1, (k1.bw hB hW).c2, (k1.bw hB hW).c3⟩, k2.bw hW⟩⟩
  obtain ⟨N, hN⟩ : ∃ N, N = T.length := ⟨_, rfl⟩
  rw [← hN] at HB HW HC hs ⊢
  have HN := hide hN
  have hNI : (N : Int) ≤ 15 := by omega
  clear h h2 hu hs0 hW0 hN hb0
  go_enter Tryz.func103, Tryz.ntmps103
  go_upto_region 1 with fail
  rw [← unhide HW]
  go_wp2_with fail
  go_loopw [3, 4] (fun lv iv wr => ∃ (i : Nat) (us : List Value), iv = .int .i64 (i : Int) ∧ i ≤ N ∧ Hid (OTr W0.heap.size wr lv (T.take i) us) ∧ Below W0.heap.size W0 wr) (fun _ iv _ => (N - (intOf iv)).toNat)
  case atStart => exact ⟨0, [], rfl, by omega, otr_nil _ _, Below.refl _ _⟩
  case round =>
    obtain ⟨i, us, rfl, hi, hO, hbel⟩ := hrel
    obtain ⟨kA, kR, hbw⟩ := unhide HB _ hbel
    have cA := cell_of_blk kA (o := 0) rfl
    by_cases hin : i < N
    · obtain ⟨b, o, p, m, e, ua, ul, uc, l, rfl, hTi, hll, hul, hc⟩ := unhide HC i hin
      obtain ⟨⟨c0, c1, c2, c3⟩, hnums⟩ := hc _ hbw
      have hlt : (T.take i).length = i := by rw [List.length_take]; have := unhide HN; omega
      obtain ⟨la, lc, hle⟩ := own_slice (unhide hO).row
      rw [hlt] at hle
      subst hle
      have q1 : (i : Int) < (N : Int) := by omega
      have q0 : (0 : Int) ≤ (i : Int) := by omega
      -- the node's own box
      obtain ⟨W1, hW1⟩ : ∃ W1, W1 = wr.alloc (.cells #[.int .i64 p, .int .i64 m, .int .i64 e, .slice ua ul uc] 59) := ⟨_, rfl⟩
      have b1 : Below wr.heap.size wr W1 := by rw [hW1]; exact bwA _ _
      have k1 : W1.heap[wr.heap.size]? = some (.cells #[.int .i64 p, .int .i64 m, .int .i64 e, .slice ua ul uc] 59 (0, 0)) := by rw [hW1]; exact heap_alloc_new _ _
      have s1 : W1.heap.size = wr.heap.size + 1 := by rw [hW1]; simp
      have d3 := cell_of_blk k1 (o := 3) rfl
      obtain ⟨W2, hW2⟩ : ∃ W2, W2 = W1.alloc (.cells #[] 3) := ⟨_, rfl⟩
      have hE : Ints W1.heap.size W2 (.slice (some ⟨W1.heap.size, 0, none⟩) 0 0) [] := by rw [hW2]; exact empty_own W1
      have b2 : Below W1.heap.size W1 W2 := by rw [hW2]; exact bwA _ _
      have hn2 : Nums W2 (.slice ua ul uc) l := (hnums.bw b1).bw b2
      have HTi := hide hTi
      have HLL := hide hll
      have HW1 := hide hW1
      have HW2 := hide hW2
      have d3' : W2.cell? ⟨wr.heap.size, 3, none⟩ = some (.slice ua ul uc) := by rw [b2.cell (p := ⟨wr.heap.size, 3, none⟩) (lt_of_blk k1)]; exact d3
      have d3a : (W1.alloc (.cells #[] 3)).cell? ⟨wr.heap.size, 3, none⟩ = some (.slice ua ul uc) := by rw [← hW2]; exact d3'
      have HS1 := hide s1
      have HE := hide hE
      have HN2 := hide hn2
      have HK1 := hide k1
      have HB12 := hide (bw_tr b1 b2)
      clear hTi hll hW1 hW2 hE hn2 hnums hc s1 b1 b2 k1
      go_upto_region 6 with fail
      rw [← unhide HW1]
      go_wp2_with (first | (at_builtin; rw [← unhide HW2]; refine wpList_joinN rfl (.tmp 18) (.tmp 20) rfl W1.heap.size _ _ [] l (by simp [Act.eval]) (unhide HE) (by simp [Act.eval]) (unhide HN2) (by have := unhide HLL; simp; omega) (by have := World.ownsRow.lt (unhide HE) W1.heap.size rfl; omega) ?nx))
      case nx =>
        intro v' w3 hI3 hB3
        obtain ⟨va, vc, hve⟩ := own_slice hI3
        rw [unhide HLL] at hve
        subst hve
        have hB12 := unhide HB12
        have hs1 := unhide HS1
        have hB13 : Below wr.heap.size wr w3 := hB12.trans (bw_mono hB3 (by omega))
        have k3 : w3.heap[wr.heap.size]? = some (.cells #[.int .i64 p, .int .i64 m, .int .i64 e, .slice ua ul uc] 59 (0, 0)) := by
          rw [hB3.block wr.heap.size (by omega), unhide HW2, Below.heap_alloc _ _ _ (by omega)]; exact unhide HK1
        have e0 := cell_of_blk k3 (o := 0) rfl; have e1 := cell_of_blk k3 (o := 1) rfl; have e2 := cell_of_blk k3 (o := 2) rfl; have e3 := cell_of_blk k3 (o := 3) rfl
        have f3 := frozen_of_blk0 k3 3
        obtain ⟨W4, hW4⟩ : ∃ W4, W4 = w3.setCell ⟨wr.heap.size, 3, none⟩ (.slice va ul vc) := ⟨_, rfl⟩
        have b4 : Below wr.heap.size wr W4 := by rw [hW4]; exact hB13.setCell (Nat.le_refl _) _
        have k4 : W4.heap[wr.heap.size]? = some (.cells #[.int .i64 p, .int .i64 m, .int .i64 e, .slice va ul vc] 59 (0, 0)) := by rw [hW4, setCell_blk k3]; rfl
        have g0 := cell_of_blk k4 (o := 0) rfl; have g1 := cell_of_blk k4 (o := 1) rfl; have g2 := cell_of_blk k4 (o := 2) rfl; have g3 := cell_of_blk k4 (o := 3) rfl
        have hI4 : Ints W1.heap.size W4 (.slice va ul vc) l := own_keep hI3 (fun q hq => by
          have := (World.ownsRow.lt hI3 q hq).1
          rw [hW4, Below.heap_setCell _ _ _ _ (by simp; omega)])
        have hO4 := (unhide hO).bw b4
        have hrow := hO4.row
        rw [hlt] at hrow
        have HW4 := hide hW4
        have bel4 := bw_tr hbel b4
        have hsz4 := bel4.size
        have HP : Hid (∀ v5 w5, (W4.alloc (.cells #[.int .i64 p, .int .i64 m, .int .i64 e, .slice va ul vc] 59)).grownBy w5 (Value.slice la i lc).ownBlock → w5.ownsRow W0.heap.size 59 4 v5 (i + 1) (treeC (T.take i) us ++ [.int .i64 p, .int .i64 m, .int .i64 e, .slice va ul vc]) → OTr W0.heap.size w5 v5 (T.take (i + 1)) (us ++ [.slice va ul vc]) ∧ Below W0.heap.size W0 w5) := fun v5 w5 hg hown => by
          have htk : T.take (i + 1) = T.take i ++ [⟨p, m, e, l⟩] := by rw [List.take_add_one, unhide HTi]; rfl
          have hf : Fr (Value.slice la i lc).ownBlock.toList W4 w5 := (((Fr.refl [] W4).alloc _).trans (Fr.ofGrown hg) (fun _ _ c => by cases c) (fun _ _ c => c))
          rw [htk]
          refine ⟨hO4.push (n := ⟨p, m, e, l⟩) (hI4.mono (by have := hbel.size; omega)) (fun k hk j u' hu' hk2 => ?_) hf (by rw [hlt]; exact hown), ?_⟩
          · obtain ⟨nn, hnn⟩ : ∃ nn, (T.take i)[j]? = some nn := ⟨_, List.getElem?_eq_getElem (by rw [← (unhide hO).ul]; exact (List.getElem?_eq_some_iff.1 hu').1)⟩
            have q1 := (World.ownsRow.lt ((unhide hO).un j nn u' hnn hu') k hk2).2
            have q2 := (World.ownsRow.lt hI4 k hk).1
            omega
          · exact Fr.toBase bel4 hf (fun x hx => by
              have hx' : (Value.slice la i lc).ownBlock = some x := by simpa using hx
              exact (World.ownsRow.lt (unhide hO).row x hx').1)
        have HU := hide (unhide hO).ul
        clear hB12 hs1 hB13 k3 hI3 hB3 hI4 hO4 b4 k4 hW4 hO cA c0 c1 c2 c3 d3 d3' d3a HE HN2 HK1 HB12 HTi hbw kA kR
        go_upto_region 7 with fail
        rw [← unhide HW4]
        clear e0 e1 e2 e3 f3 HW4
        go_wp2_with (at_builtin; refine wpList_append_own _ rfl (.tmp 23) (.tmp 25) 42 rfl W0.heap.size 59 i0 (.agg #[.int .i64 0, .int .i64 0, .int .i64 0, .slice none 0 0]) 4 48 Tryz.underlying42 hi0 hz0 hz1 hz2 rfl (by decide) _ i _ rfl (World.ownsRow.alloc hrow _) ⟨W4.heap.size, 0, none⟩ 1 1 [.int .i64 p, .int .i64 m, .int .i64 e, .slice va ul vc] rfl rfl (cells_newB4 W4 _ _ _ _ _) ?c2 ?c3 ?c4 ?c5 ?ny)
        case c2 =>
          intro u hu
          simp only [List.mem_cons, List.not_mem_nil, or_false] at hu
          rcases hu with rfl | rfl | rfl | rfl <;> rfl
        case c3 => unfold maxLen; omega
        case c4 => omega
        case c5 => simp; omega
        case ny =>
          intro v5 w5 hown' hgrow _
          have HZ := hide (unhide HP v5 w5 hgrow hown')
          clear hown' hgrow HP hrow
          go_wp2_with fail
          go_roundw
          case rel => exact ⟨i + 1, _, by go_num, by omega, (unhide HZ).1, (unhide HZ).2⟩
          case measure => simp [intOf]; omega
    · obtain rfl : i = N := by omega
      have hTk : T.take i = T := List.take_of_length_le (by have := unhide HN; omega)
      obtain ⟨la, lc, hle⟩ := own_slice (unhide hO).row
      rw [hTk, ← unhide HN] at hle
      subst hle
      have cR := cell_of_blk kR (o := 0) rfl
      have fR := frozen_of_blk0 kR 0
      obtain ⟨WZ, hWZ⟩ : ∃ WZ, WZ = wr.setCell ⟨w.heap.size + 1, 0, none⟩ (.slice la i lc) := ⟨_, rfl⟩
      have z0 : WZ.cell? ⟨w.heap.size + 1, 0, none⟩ = some (.slice la i lc) := cell_of_blk (by rw [hWZ, setCell_blk kR]) rfl
      have HF : Hid (OTr w.heap.size WZ (.slice la i lc) T us ∧ Below w.heap.size w WZ) := by
        have hs := unhide HS
        have hO2 := unhide hO
        rw [hTk] at hO2
        refine ⟨(hO2.keepB (fun k hk => by rw [hWZ]; exact Below.heap_setCell _ _ _ _ (by simp; omega))).mono (by omega), by rw [hWZ]; exact hbw.setCell (by simp) _⟩
      have HZ := hide hWZ
      clear hWZ hO hTk kA kR hbw
      go_wp2_with fail
      rw [← unhide HZ]
      exact bodyPost_ret (v := .agg #[.slice la i lc]) (by simp [results, Tryz.results103, go_sem, z0]) rfl ⟨_, us, rfl, (unhide HF).1, (unhide HF).2⟩
end Go.Proofs.YtpcpcgagiapinaaGreatDoor

/- A tree in a variable, of whatever room: what steps leave of it. No walk is in this text. -/
namespace Go.Proofs.YtpcpcgagiapinaaGreatDoor
open Go.RowKit Go.Maps
structure DX (W0 wr : World) (nb g m mc : Nat) (T : List Nd) (us : List Value) : Prop where
  bel : Below W0.heap.size W0 wr
  tr : OTr W0.heap.size wr (.slice (some ⟨g, 0, none⟩) m mc) T us
  box : wr.heap[nb]? = some (.cells #[.slice (some ⟨g, 0, none⟩) m mc] 44 (0, 0))
theorem DX.notin {W0 wr : World} {nb g m mc : Nat} {T : List Nd} {us : List Value} (h : DX W0 wr nb g m mc T us) : nb ∉ g :: rrB us := by
  intro c
  rcases List.mem_cons.1 c with rfl | c
  · obtain ⟨cur, e⟩ := own_kind h.tr.row (k := nb) rfl
    rw [h.box] at e
    simp at e
  · obtain ⟨i, u, hu, hk⟩ := mem_rrB.1 c
    obtain ⟨n, hn⟩ : ∃ n, T[i]? = some n := ⟨_, List.getElem?_eq_getElem (by rw [← h.tr.ul]; exact (List.getElem?_eq_some_iff.1 hu).1)⟩
    obtain ⟨cur, e⟩ := own_kind (h.tr.un i n u hn hu) hk
    rw [h.box] at e
    simp at e
theorem OTr.blocksC {B : Nat} {w : World} {g m mc : Nat} {T : List Nd} {us : List Value} (h : OTr B w (.slice (some ⟨g, 0, none⟩) m mc) T us) : ∀ k ∈ g :: rrB us, B ≤ k ∧ k < w.heap.size := by
  intro k c
  rcases List.mem_cons.1 c with rfl | c
  · exact World.ownsRow.lt h.row k rfl
  · obtain ⟨i, u, hu, hk⟩ := mem_rrB.1 c
    obtain ⟨n, hn⟩ : ∃ n, T[i]? = some n := ⟨_, List.getElem?_eq_getElem (by rw [← h.ul]; exact (List.getElem?_eq_some_iff.1 hu).1)⟩
    exact World.ownsRow.lt (h.un i n u hn hu) k hk
theorem DX.fr {W0 wr w' : World} {nb g m mc : Nat} {T T' : List Nd} {us us' : List Value} (h : DX W0 wr nb g m mc T us) (h' : OTr W0.heap.size w' (.slice (some ⟨g, 0, none⟩) m mc) T' us') (hf : Fr (g :: rrB us) wr w') : DX W0 w' nb g m mc T' us' :=
  ⟨Fr.toBase h.bel hf (fun k hk => (h.tr.blocksC k hk).1), h', by rw [hf.block nb (lt_of_blk h.box) h.notin]; exact h.box⟩
theorem DX.bw {W0 wr w' : World} {nb g m mc : Nat} {T : List Nd} {us : List Value} (h : DX W0 wr nb g m mc T us) (hb : Below wr.heap.size wr w') : DX W0 w' nb g m mc T us :=
  ⟨bw_tr h.bel hb, h.tr.bw hb, by rw [hb.block nb (lt_of_blk h.box)]; exact h.box⟩
theorem DX.cell {W0 wr : World} {nb g m mc : Nat} {T : List Nd} {us : List Value} (h : DX W0 wr nb g m mc T us) : wr.cell? ⟨nb, 0, none⟩ = some (.slice (some ⟨g, 0, none⟩) m mc) := cell_of_blk h.box rfl
theorem DX.at {W0 wr : World} {nb g m mc : Nat} {T : List Nd} {us : List Value} (h : DX W0 wr nb g m mc T us) {x : Nat} (hx : x < T.length) : ∃ u, us[x]? = some u ∧ NdC wr g (x * 4) (ndAt T x) u ∧ ∀ j, wr.frozen? ⟨g, j, none⟩ = false := by
  obtain ⟨u, hu⟩ : ∃ u, us[x]? = some u := ⟨_, List.getElem?_eq_getElem (by rw [h.tr.ul]; exact hx)⟩
  have hn := ndAt_of hx
  refine ⟨u, hu, ⟨?_, ?_, ?_, ?_⟩, fun j => own_frozen h.tr.row rfl j⟩
  · simpa using own_cell h.tr.row rfl (treeC_get hn hu (j := 0) rfl)
  · exact own_cell h.tr.row rfl (treeC_get hn hu (j := 1) rfl)
  · exact own_cell h.tr.row rfl (treeC_get hn hu (j := 2) rfl)
  · exact own_cell h.tr.row rfl (treeC_get hn hu (j := 3) rfl)
theorem DX.set4 {W0 wr : World} {nb g m mc : Nat} {T : List Nd} {us : List Value} (h : DX W0 wr nb g m mc T us) {x : Nat} (hx : x < T.length) (n : Nd) (hn : n.un = []) :
    DX W0 ((((wr.setCell ⟨g, x * 4, none⟩ (.int .i64 n.pub)).setCell ⟨g, x * 4 + 1, none⟩ (.int .i64 n.mem)).setCell ⟨g, x * 4 + 2, none⟩ (.int .i64 n.ep)).setCell ⟨g, x * 4 + 3, none⟩ (.slice none 0 0)) nb g m mc (T.set x n) (us.set x (.slice none 0 0)) := by
  obtain ⟨u, hu, _⟩ := h.at hx
  have r1 := own_set h.tr.row (g := g) rfl (j := x * 4) (.int .i64 n.pub)
  have r2 := own_set r1 (g := g) rfl (j := x * 4 + 1) (.int .i64 n.mem)
  have r3 := own_set r2 (g := g) rfl (j := x * 4 + 2) (.int .i64 n.ep)
  have r4 := own_set r3 (g := g) rfl (j := x * 4 + 3) (.slice none 0 0)
  rw [treeC_set n (.slice none 0 0) h.tr.ul hx] at r4
  have f : Fr [g] wr ((((wr.setCell ⟨g, x * 4, none⟩ (.int .i64 n.pub)).setCell ⟨g, x * 4 + 1, none⟩ (.int .i64 n.mem)).setCell ⟨g, x * 4 + 2, none⟩ (.int .i64 n.ep)).setCell ⟨g, x * 4 + 3, none⟩ (.slice none 0 0)) :=
    (((((Fr.refl [g] wr).setCell (a := ⟨g, x * 4, none⟩) (Or.inr (by simp)) _).setCell (a := ⟨g, x * 4 + 1, none⟩) (Or.inr (by simp)) _).setCell (a := ⟨g, x * 4 + 2, none⟩) (Or.inr (by simp)) _).setCell (a := ⟨g, x * 4 + 3, none⟩) (Or.inr (by simp)) _)
  generalize ((((wr.setCell ⟨g, x * 4, none⟩ (.int .i64 n.pub)).setCell ⟨g, x * 4 + 1, none⟩ (.int .i64 n.mem)).setCell ⟨g, x * 4 + 2, none⟩ (.int .i64 n.ep)).setCell ⟨g, x * 4 + 3, none⟩ (.slice none 0 0)) = W at *
  refine h.fr (OTr.nodeC h.tr (ndAt_of hx) hu (Fr.refl [] wr) (by simp) (n' := n) (u' := .slice none 0 0) (by rw [hn]; exact ints_nil _ _) (Or.inr (Or.inl rfl)) r4 f) (f.mono (fun k _ hk => by simp at hk; simp [hk]))
theorem DX.setU {W0 wr : World} {nb g m mc : Nat} {T : List Nd} {us : List Value} (h : DX W0 wr nb g m mc T us) {x : Nat} (hx : x < T.length) {u' : Value} {l' : List Int} (hr : Ints W0.heap.size wr u' l') (hp : u'.ownBlock = none ∨ ∀ q, u'.ownBlock = some q → q ∉ g :: rrB us) :
    DX W0 (wr.setCell ⟨g, x * 4 + 3, none⟩ u') nb g m mc (T.set x ⟨(ndAt T x).pub, (ndAt T x).mem, (ndAt T x).ep, l'⟩) (us.set x u') := by
  obtain ⟨u, hu, _⟩ := h.at hx
  have r1 := own_set h.tr.row (g := g) rfl (j := x * 4 + 3) u'
  rw [treeC_setk (n' := ⟨(ndAt T x).pub, (ndAt T x).mem, (ndAt T x).ep, l'⟩) (u' := u') (by omega) (ndAt_of hx) hu rfl] at r1
  have f : Fr [g] wr (wr.setCell ⟨g, x * 4 + 3, none⟩ u') := (Fr.refl [g] wr).setCell (a := ⟨g, x * 4 + 3, none⟩) (Or.inr (by simp)) _
  have hgq : ∀ q, u'.ownBlock = some q → q ≠ g := fun q hq c => by
    rcases hp with e | e
    · rw [e] at hq; cases hq
    · exact e q hq (by simp [c])
  have hr2 : Ints W0.heap.size (wr.setCell ⟨g, x * 4 + 3, none⟩ u') u' l' := own_keep hr (fun q hq => Below.heap_setCell _ _ _ _ (by simp; exact hgq q hq))
  have hk : ∀ (v : Value) (l : List Int), Ints W0.heap.size wr v l → Ints W0.heap.size (wr.setCell ⟨g, x * 4 + 3, none⟩ u') v l := fun v l hv => own_keep hv (fun q hq => Below.heap_setCell _ _ _ _ (by simp; rintro rfl; exact own_apart hv h.tr.row (show (3 : Nat) ≠ 59 by decide) hq rfl))
  have hO : OTr W0.heap.size (wr.setCell ⟨g, x * 4 + 3, none⟩ u') (.slice (some ⟨g, 0, none⟩) m mc) (T.set x ⟨(ndAt T x).pub, (ndAt T x).mem, (ndAt T x).ep, l'⟩) (us.set x u') := by
    refine ⟨by simp [h.tr.ul], by simpa using r1, fun i n v hn hv => ?_, fun i j v1 v2 k h1 h2 k1 k2 => ?_⟩
    · by_cases c : i = x
      · subst c
        rw [List.getElem?_set_self hx] at hn
        rw [List.getElem?_set_self (by rw [h.tr.ul]; exact hx)] at hv
        cases hn; cases hv
        exact hr2
      · rw [List.getElem?_set_ne (Ne.symm c)] at hn hv
        exact hk _ _ (h.tr.un i n v hn hv)
    · have hno : ∀ (j : Nat) (v : Value), us[j]? = some v → v.ownBlock = some k → u'.ownBlock ≠ some k := fun j v hj hvk hk2 => by
        rcases hp with e | e
        · rw [e] at hk2; cases hk2
        · exact e k hk2 (List.mem_cons_of_mem _ (mem_rrB.2 ⟨j, v, hj, hvk⟩))
      by_cases c1 : i = x
      · subst c1
        rw [List.getElem?_set_self (by rw [h.tr.ul]; exact hx)] at h1
        cases h1
        by_cases c2 : j = i
        · exact c2.symm
        · rw [List.getElem?_set_ne (Ne.symm c2)] at h2
          exact absurd k1 (hno j v2 h2 k2)
      · rw [List.getElem?_set_ne (Ne.symm c1)] at h1
        by_cases c2 : j = x
        · subst c2
          rw [List.getElem?_set_self (by rw [h.tr.ul]; exact hx)] at h2
          cases h2
          exact absurd k2 (hno i v1 h1 k1)
        · rw [List.getElem?_set_ne (Ne.symm c2)] at h2
          exact h.tr.apart i j v1 v2 k h1 h2 k1 k2
  exact h.fr hO (f.mono (fun k _ hk => by simp at hk; simp [hk]))
structure DV (W0 wr : World) (nb : Nat) (v : Value) (T : List Nd) (us : List Value) : Prop where
  bel : Below W0.heap.size W0 wr
  low : W0.heap.size ≤ nb
  tr : OTr W0.heap.size wr v T us
  box : wr.heap[nb]? = some (.cells #[v] 44 (0, 0))
theorem DV.dx {W0 wr : World} {nb : Nat} {v : Value} {T : List Nd} {us : List Value} (h : DV W0 wr nb v T us) (h0 : 0 < T.length) : ∃ g mc, v = .slice (some ⟨g, 0, none⟩) T.length mc ∧ DX W0 wr nb g T.length mc T us := by
  obtain ⟨g, cap, e, -⟩ := own_open h.tr.row h0
  subst e
  exact ⟨g, cap, rfl, h.bel, h.tr, h.box⟩
theorem DV.bw {W0 wr w' : World} {nb : Nat} {v : Value} {T : List Nd} {us : List Value} (h : DV W0 wr nb v T us) (hb : Below wr.heap.size wr w') : DV W0 w' nb v T us :=
  ⟨bw_tr h.bel hb, h.low, h.tr.bw hb, by rw [hb.block nb (lt_of_blk h.box)]; exact h.box⟩
theorem DV.new {W0 wr : World} {v : Value} {T : List Nd} {us : List Value} (hb : Below W0.heap.size W0 wr) (h : OTr W0.heap.size wr v T us) : DV W0 (wr.alloc (.cells #[v] 44)) wr.heap.size v T us :=
  ⟨hb.alloc hb.size _, hb.size, h.bw (bwA _ _), heap_alloc_new _ _⟩
theorem DV.blank {W0 wr w1 : World} {nb : Nat} {v v' : Value} {T : List Nd} {us : List Value} {o : Obj} (h : DV W0 wr nb v T us) (hg : (wr.alloc o).grownBy w1 v.ownBlock) (hown : w1.ownsRow W0.heap.size 59 4 v' (T.length + 1) (treeC T us ++ [.int .i64 0, .int .i64 0, .int .i64 0, .slice none 0 0])) :
    DV W0 (w1.setCell ⟨nb, 0, none⟩ v') nb v' (T ++ [nd0]) (us ++ [.slice none 0 0]) ∧ w1.cell? ⟨nb, 0, none⟩ = some v ∧ w1.frozen? ⟨nb, 0, none⟩ = false := by
  have hf : Fr v.ownBlock.toList wr w1 := (((Fr.refl [] wr).alloc _).trans (Fr.ofGrown hg) (fun _ _ c => by cases c) (fun _ _ c => c))
  have hO := h.tr.push (n := nd0) (u := .slice none 0 0) (ints_nil _ _) (fun k hk => by cases hk) hf hown
  have hnb : v.ownBlock ≠ some nb := own_block_ne h.tr.row h.box (by decide)
  have hbx : w1.heap[nb]? = some (.cells #[v] 44 (0, 0)) := by
    rw [hf.block nb (lt_of_blk h.box) (fun c => hnb (by simpa using c))]; exact h.box
  have hnb' : v'.ownBlock ≠ some nb := own_block_ne hown hbx (by decide)
  refine ⟨⟨?_, h.low, ⟨hO.ul, own_keep hO.row (fun k hk => Below.heap_setCell _ _ _ _ (by simp; rintro rfl; exact hnb' hk)), fun i n u hn hu => own_keep (hO.un i n u hn hu) (fun k hk => Below.heap_setCell _ _ _ _ (by simp; rintro rfl; exact own_block_ne (hO.un i n u hn hu) hbx (by decide) hk)), hO.apart⟩, by rw [setCell_blk hbx]; rfl⟩, cell_of_blk hbx rfl, frozen_of_blk0 hbx 0⟩
  exact (Fr.toBase h.bel hf (fun x hx => by
    have hx' : v.ownBlock = some x := by simpa using hx
    exact (World.ownsRow.lt h.tr.row x hx').1)).setCell h.low _
end Go.Proofs.YtpcpcgagiapinaaGreatDoor

/- Plain facts for the document's Add. -/
namespace Go.Proofs.YtpcpcgagiapinaaGreatDoor
open Go.RowKit Go.Maps
theorem unM_mem {T : List Nd} {L : Int} : ∀ {l : List Int} {f : Int}, unM T f L l = true → ∀ u ∈ l, pos (ndAt T (2 * u.toNat)) = true
  | [], _, _ => by simp
  | a :: l, f, h => by
    simp only [unM, Bool.and_eq_true, decide_eq_true_eq] at h
    obtain ⟨⟨⟨h1, h2⟩, h3⟩, h4⟩ := h
    intro u hu
    rcases List.mem_cons.1 hu with rfl | hu
    · exact h3
    · exact unM_mem h4 u hu
theorem fb_blank9 {T : List Nd} (hl : T.length ≤ 2 * nlv T) : pos (ndAt T (2 * fb T)) = false := by
  rcases Nat.lt_or_ge (fb T) (nlv T) with c | c
  · have h1 : (lvs T).findIdx (fun n => !pos n) < (lvs T).length := by rw [lvs_len]; exact c
    have h2 := List.findIdx_getElem (w := h1)
    have h3 := lvs_get (T := T) (i := fb T) c
    have h4 : (lvs T)[(lvs T).findIdx (fun n => !pos n)] = ndAt T (2 * fb T) := (List.getElem?_eq_some_iff.1 h3).2
    rw [h4] at h2
    simpa using h2
  · rw [ndAt_ge (by have := fb_le T; omega)]; rfl
theorem fb_notin {T : List Nd} (h : mayB T = true) (x : Nat) : ((fb T : Nat) : Int) ∉ (ndAt T x).un := by
  intro c
  rcases Nat.lt_or_ge x T.length with hx | hx
  · have ok := mayB_okn h (by omega)
    obtain ⟨g1, g2, g3, g4, g5⟩ := ok.wd.facts
    rcases ndM_un (ok.nd x hx) with e | ⟨_, _, e⟩
    · rw [e] at c; cases c
    · have h1 := unM_mem e _ c
      rw [Int.toNat_natCast, fb_blank9 (by omega)] at h1
      cases h1
  · rw [ndAt_ge hx] at c; simp [nd0] at c
theorem fit_push {T : List Nd} {j : Nat} : T ++ List.replicate j nd0 = fit (T.length + j) T := by
  rw [fit_eq, List.take_of_length_le (by omega), Nat.add_sub_cancel_left]
theorem addU_rs {n : Nd} {u : Int} (hp : n.pub ≠ 0) (h : u ∉ n.un) : addU u n = ⟨n.pub, n.mem, n.ep, rsU u n.un⟩ := by
  have : pos n = true := by simp [pos, hp]
  unfold addU; rw [if_pos this, rsU_ins h]
theorem addU_blank {n : Nd} {u : Int} (hp : n.pub = 0) : addU u n = n := by
  have : pos n = false := by simp [pos, hp]
  unfold addU; rw [this]; simp
theorem set_nd {T : List Nd} {x : Nat} (hx : x < T.length) : T.set x (ndAt T x) = T := by
  apply List.ext_getElem?
  intro i
  rw [List.getElem?_set]
  split
  · next e => subst e; first | rw [if_pos hx, ndAt_of hx] | rw [ndAt_of hx]
  · rfl
def lenW (nb : Nat) (w : World) : Nat := match w.cell? ⟨nb, 0, none⟩ with | some (.slice _ n _) => n | _ => 0
end Go.Proofs.YtpcpcgagiapinaaGreatDoor
