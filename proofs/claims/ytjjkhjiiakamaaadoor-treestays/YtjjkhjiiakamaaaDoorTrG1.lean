/- The contract of resolution, of a node that is not blank. -/
import Derived.Test.YtjjkhjiiakamaaaDoorTrG0
namespace Go.Proofs.YtjjkhjiiakamaaaDoor
open Go.RowKit Go.Maps

set_option maxRecDepth 100000 in
set_option maxHeartbeats 4000000 in
theorem resolution_pos {T : List Nd} (hw : Wd T) (hs : Sm T) (x : Nat) (hx : x < 2 * nlv T - 1) (hp : pos (ndAt T x) = true) {w : World} {v : Value} (h : Trd w v T) :
    Calls Tryd.prog 41 #[.agg #[v], .int .i64 (x : Int)] w fun e w' => ∃ r, e = .returned r ∧ Ints w.heap.size w' r (rsl T x) ∧ Below w.heap.size w w' := by
  obtain ⟨g1, g2, g3, g4, g5⟩ := hw.facts
  obtain ⟨i0, hi, hz0, hz1, hz2⟩ := info_parts Tryd.infoInt
  rw [rsl_pos hp]
  have hxT : x < T.length := by omega
  clear g1 g2 g4 g5 hw
  obtain ⟨a, c, rfl⟩ := h.slice
  obtain ⟨w0, hw0⟩ : ∃ w0, w0 = bxw w (.slice a T.length c) := ⟨_, rfl⟩
  have HB : Hid (∀ W, Below w0.heap.size w0 W → W.cell? ⟨w.heap.size, 0, none⟩ = some (.slice a T.length c) ∧ Below w.heap.size w W) := fun W hW => by subst hw0; exact ⟨bx_cell hW, bx_bel hW⟩
  have b0 : Below w.heap.size w w0 := by rw [hw0]; exact bwA _ _
  have KB := blank_any (h.bw b0) hxT
  rw [hp] at KB
  obtain ⟨-, h2⟩ := h.at
  obtain ⟨b, o, rfl, h3⟩ := h2 (by omega)
  obtain ⟨u, k1, k2⟩ := h3 w (Below.refl _ _) x hxT
  have hB : b < w.heap.size := lt_of_cell k1.c3
  have HU : Hid (∀ W, Below w.heap.size w W → W.cell? ⟨b, o + x * 4 + 3, none⟩ = some u) := fun W hW => (k1.bw hB hW).c3
  obtain ⟨au, cu, rfl⟩ := nums_slice k2
  obtain ⟨s1, s2⟩ := hs x hxT
  generalize (ndAt T x).un = l at *
  have HL : Hid (∀ i z, l[i]? = some z → 0 ≤ z ∧ z ≤ 7 ∧ ∃ g o', au = some ⟨g, o', none⟩ ∧ ∀ W, Below w.heap.size w W → W.cell? ⟨g, o' + i, none⟩ = some (.int .i64 z)) := fun i z hz => by
    have hm := s2 z (List.mem_of_getElem? hz)
    refine ⟨hm.1, hm.2, ?_⟩
    obtain ⟨g, o', cap, e, hc⟩ := k2.open (by have := (List.getElem?_eq_some_iff.1 hz).1; omega)
    cases e
    refine ⟨g, o', rfl, fun W hW => ?_⟩
    have hcc := hc i z hz
    rw [hW.cell (p := ⟨g, o' + i, none⟩) (lt_of_cell (a := ⟨g, o' + i, none⟩) hcc)]; exact hcc
  have HW : Hid (w0 = w.alloc (.cells #[.slice (some ⟨b, o, none⟩) T.length c] 24)) := hw0
  have hx1 : (x : Int) < (T.length : Int) := by omega
  have hx2 : (0 : Int) ≤ (x : Int) := by omega
  have hx3 : (x : Int) ≤ 15 := by omega
  clear h h2 h3 k1 k2 hw0 hp hx s2
  obtain ⟨M, hM⟩ : ∃ M, M = l.length := ⟨_, rfl⟩
  rw [← hM] at HU s1
  have HM := hide hM
  clear hM
  have g3' : (T.length : Int) ≤ 15 := by omega
  generalize T.length = N at *
  go_enter Tryd.func41, Tryd.ntmps41
  go_wp2_with fail
  rw [← unhide HW]
  refine KB.mono ?_
  rintro e w1 ⟨rfl, b1⟩
  obtain ⟨c1, hbw⟩ := unhide HB _ b1
  have hbw2 : Below w.heap.size w (w1.alloc (.cells #[.int .i64 (x : Int)] 3)) := hbw.alloc hbw.size _
  have c2 := unhide HU _ hbw2
  have c3 := (unhide HB _ (b1.alloc b1.size (.cells #[.int .i64 (x : Int)] 3))).1
  clear KB
  go_wp2_with fail
  go_loopw [5, 25] (fun lv iv wr => ∃ i : Nat, iv = .int .i64 (i : Int) ∧ i ≤ M ∧ Ints w0.heap.size wr lv ((x : Int) :: (l.take i).map (2 * ·)) ∧ Below w0.heap.size w0 wr) (fun _ iv _ => (M - (intOf iv)).toNat)
  case atStart => exact ⟨0, rfl, by omega, (one_own w1 (x : Int)).mono b1.size, b1.alloc b1.size _⟩
  case round =>
    clear c1 c2 c3 hbw hbw2 b1
    obtain ⟨i, rfl, hin, hown, hbel⟩ := hrel
    obtain ⟨c1, hbw⟩ := unhide HB _ hbel
    by_cases hlt : i < M
    · obtain ⟨z, hz⟩ : ∃ z, l[i]? = some z := ⟨_, List.getElem?_eq_getElem (by have := unhide HM; omega)⟩
      obtain ⟨z0, z7, g, o', rfl, hc⟩ := unhide HL i z hz
      have c2 := hc _ hbw
      have q1 : (i : Int) < (M : Int) := by omega
      have q0 : (0 : Int) ≤ (i : Int) := by omega
      have hsn : Hid ((x : Int) :: (l.take (i + 1)).map (2 * ·) = ((x : Int) :: (l.take i).map (2 * ·)) ++ [2 * z]) := by
        unfold Hid; rw [List.take_add_one, hz]; simp
      have hlen : ((x : Int) :: (l.take i).map (2 * ·)).length ≤ 9 := by simp; omega
      generalize (x : Int) :: (l.take i).map (2 * ·) = cur at *
      have hsz := hbel.size
      clear hz hc
      go_wp2_with (at_builtin; refine wpList_append_own _ rfl (.tmp 29) (.tmp 32) 32 rfl w0.heap.size 3 i0 (.int .i64 0) 1 8 Tryd.underlying32 hi hz0 hz1 hz2 rfl (by decide) _ cur.length _ rfl (World.ownsRow.alloc hown _) ⟨wr.heap.size, 0, none⟩ 1 1 [_] rfl rfl (cell_one_new _ _ _) ?c2 ?c3 ?c4 ?c5 ?nx)
      case c2 => intro u hu; simp at hu; subst hu; rfl
      case c3 => unfold maxLen; omega
      case c4 => omega
      case c5 => simp; omega
      case nx =>
        intro v' w3 hown' hgrow _
        obtain ⟨R1, R2⟩ := ints_snoc (2 * z) hbel hown hown' hgrow
        clear hown' hgrow
        go_wp2_with fail
        go_roundw
        case rel => exact ⟨i + 1, by go_num, by omega, by rw [unhide hsn]; exact R1, R2⟩
        case measure => simp [intOf]; omega
    · have hie : i = M := by omega
      have e : l.take i = l := List.take_of_length_le (by have := unhide HM; omega)
      rw [e] at hown
      subst hie
      have hs0 := b0.size
      go_wp2_with fail
      go_ret
      exact ⟨_, rfl, hown.mono hs0, hbw⟩
end Go.Proofs.YtjjkhjiiakamaaaDoor
