/- The contract of Dag of the document's store. -/
import Derived.Test.YtfpimmbjjcpobaaGreatDoorTmPut
namespace Go.Proofs.YtfpimmbjjcpobaaGreatDoor
open Go.RowKit Go.Maps

theorem made_zero (n k : Nat) (h : k < n) : (madeCells (Value.int .i64 0).cells (n * 1)).toList[k]? = some (.int .i64 0) := by
  have hs : (Value.int .i64 0).cells = #[Value.int .i64 0] := rfl
  rw [hs]
  simp [madeCells, h, Nat.mod_one]
theorem Pt.start {w w1 : World} {L : List Tm} (hg : w.grownBy w1 none) (hrow : w1.ownsRow w.heap.size 3 1 (.slice (some ⟨w.heap.size, 0, none⟩) (L.length + 1) (L.length + 1)) (L.length + 1) (madeCells (Value.int .i64 0).cells ((L.length + 1) * 1)).toList) : Pt w w1 L (.slice none 0 0) w.heap.size [] := by
  refine ⟨told_nil L, TmRow.nil _ _, ?_, Nat.le_refl _, ⟨hg.os, hg.tape, hg.output, hg.size, fun k hk => hg.block k hk (by simp)⟩⟩
  rcases hrow.2 with ⟨c, _⟩ | ⟨g, cap, cur, hv, _, hgg, _, _, _, ht⟩
  · cases c
  · cases hv
    refine ⟨cur, hgg, fun k hk => ?_⟩
    have e := made_zero (L.length + 1) k (by omega)
    rw [← ht, List.getElem?_take, if_pos (by omega)] at e
    simpa [pos] using e

set_option maxRecDepth 100000 in
set_option maxHeartbeats 2000000 in
theorem rdag_any (rb : Nat) (rv : Value) (L : List Tm) (x : Int) (w : World) (h : Rs w rb rv L) :
    Calls Tryz.prog 10 #[.pointer (some ⟨rb, 0, none⟩), .int .i64 x] w fun e w' => ∃ v, e = .returned v ∧ TmRow w.heap.size w' v (dag L x) ∧ Below w.heap.size w w' := by
  have K := there_any rb rv L x w h
  cases hx : thr L.length x
  · have e : dag L x = [] := by simp [dag, hx]
    rw [e]
    rw [hx] at K
    clear e hx h
    go_enter Tryz.func10, Tryz.ntmps10
    go_wp2_with fail
    refine K.mono ?_
    rintro e w ⟨rfl, rfl⟩
    go_wp2
    go_ret
    exact ⟨_, rfl, TmRow.nil _ _, Below.refl _ _⟩
  · rw [hx] at K
    obtain ⟨n, rfl⟩ : ∃ n : Nat, x = n := ⟨x.toNat, by have := thr_iff.1 hx; omega⟩
    have hn := thr_iff.1 hx
    have e : dag L (n : Int) = outs L (ord L n) := by simp [dag, hx]
    rw [e]
    obtain ⟨c0, _⟩ := h.cells
    obtain ⟨sa, cap, rfl⟩ := h.form
    obtain ⟨j0, hj, hy0, hy1, hy2⟩ := info_parts Tryz.infoInt
    have hL := h.len
    have KP := fun w1 (hP : Pt w w1 L (.slice none 0 0) w.heap.size []) => put_any w rb _ L h w.heap.size (L.length + 1) n n (Nat.le_refl _) (by omega) w1 _ [] hP
    have hLb : (L.length : Int) ≤ 1048577 := by omega
    have HKP := hide KP
    have hb5 : j0.bytes * (L.length + 1) ≤ 281474976710656 := by rw [hy2]; omega
    have hb6 : L.length + 1 ≤ maxLen := by unfold maxLen; omega
    have HB := hide (And.intro hb5 hb6)
    clear e hx hn h KP hb5 hb6 hL
    go_enter Tryz.func10, Tryz.ntmps10
    go_wp2_with fail
    refine K.mono ?_
    rintro e w ⟨rfl, rfl⟩
    clear K
    go_wp2_with (first | (at_make; refine wpList_make_full _ rfl _ _ 23 rfl w.heap.size 3 j0 (.int .i64 0) 1 Tryz.underlying23 hj hy0 hy1 _ _ _ _ (L.length + 1) rfl rfl (by first | rfl | omega) (by first | rfl | omega) (unhide HB).1 (unhide HB).2 (Nat.le_refl _) ?_; intro w1 hrow1 hgr1))
    have K1 := unhide HKP w1 (Pt.start hgr1 hrow1)
    clear hrow1 hgr1 HKP
    go_wp2_with fail
    refine K1.mono ?_
    rintro e w2 ⟨ov, rfl, hP, _⟩
    have hrl := hP.rl
    have hbl := hP.bel
    have HE := hide (And.intro hrl hbl)
    clear hP hrl hbl K1
    go_wp2_with fail
    go_ret
    exact ⟨_, rfl, (unhide HE).1, (unhide HE).2⟩

end Go.Proofs.YtfpimmbjjcpobaaGreatDoor
