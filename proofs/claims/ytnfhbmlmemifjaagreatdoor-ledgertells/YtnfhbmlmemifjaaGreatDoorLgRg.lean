/- The document's Touched. mkLgRg.py writes it. -/
import Derived.Test.YtnfhbmlmemifjaaGreatDoorLgUn
import Derived.Test.YtnfhbmlmemifjaaGreatDoorZ32
import Derived.Test.YtnfhbmlmemifjaaGreatDoorZ26
namespace Go.Proofs.YtnfhbmlmemifjaaGreatDoor
open Go.RowKit Go.Maps
theorem cmV_expl {w : World} {c : Cm} {x : Cv} (h : CmR w c x) : ∃ a1 k1 a2 k2 a3 k3 a4 k4 a5 k5, cmV c x = .agg #[.int .i64 c.gr, .int .i64 c.ep, .int .i64 c.dev, .int .i64 c.mem, .int .i64 c.ke, .bool c.ext, .slice a1 c.adds.length k1, .slice a2 c.rem.length k2, .slice a3 c.seals.length k3, .slice a4 c.joins.length k4, .int .i64 c.own, .int .i64 c.ent, .slice a5 c.next.length k5, .int .i64 c.face, .int .i64 c.card] ∧ Trd w (.slice a5 c.next.length k5) c.next := by
  obtain ⟨a1, k1, e1⟩ := h.adds.slice
  obtain ⟨a2, k2, e2⟩ := nums_slice h.rem
  obtain ⟨a3, k3, e3⟩ := h.seals.slice
  obtain ⟨a4, k4, e4⟩ := h.joins.slice
  obtain ⟨a5, k5, e5⟩ := h.next.slice
  exact ⟨a1, k1, a2, k2, a3, k3, a4, k4, a5, k5, by unfold cmV cmC; rw [e1, e2, e3, e4, e5], by rw [← e5]; exact h.next⟩
theorem uni_comm (a b : List Int) : uni a b = uni b a := eq_up (uni_up _ _) (uni_up _ _) (fun x => by rw [uni_mem, uni_mem]; exact Or.comm)
theorem mmb_may {T : List Nd} (h : mayB T = true) : mmb T = mems T := by unfold mmb; rw [if_pos h]
theorem tchL_none {l : List Lg} {g e : Int} (h : getL l g e = none) : tchL l g e = [] := by
  unfold tchL
  split
  · next q =>
    rw [getL_cms l g q] at h
    unfold tchA
    rw [h]
  · rfl
theorem tchL_some {l : List Lg} {g e : Int} {c : Cm} (h : getL l g e = some c) : 0 ≤ e ∧ mmb c.next ≠ [] ∧ tchL l g e = uni (mmb ((getL l g (e - 1)).getD cm00).next) (mmb c.next) := by
  have h0 : 0 ≤ e := by
    by_cases q : 0 ≤ e
    · exact q
    · rw [getL_neg l g (by omega)] at h; cases h
  rw [getL_cms l g h0] at h
  obtain ⟨-, -, -, m1, m2⟩ := cmsL_may h
  refine ⟨h0, by rw [mmb_may m1]; exact mems_ne m1 m2, ?_⟩
  rw [mmb_may m1, uni_comm]
  unfold tchL
  rw [if_pos h0]
  unfold tchA
  rw [h]
  show tchO (mems c.next) _ = uni (mems c.next) _
  by_cases q : e.toNat = 0
  · rw [if_pos q, getL_neg l g (by omega)]
    rfl
  · rw [if_neg q, getL_cms l g (by omega), show (e - 1).toNat = e.toNat - 1 by omega]
    cases hd : (cmsL l g)[e.toNat - 1]? with
    | none => rfl
    | some d =>
      rw [Option.getD_some, mmb_may (cmsL_may hd).2.2.2.1]
      rfl
set_option maxRecDepth 100000 in
set_option maxHeartbeats 4000000 in
theorem rtouched_any {w : World} {v : Value} {l : List Lg} (h : Lgs w v l) (g e : Int) (hhi : e ≤ 9223372036854775807) :
    Calls Tryz.prog 13 #[v, .int .i64 g, .int .i64 e] w fun r w' => ∃ v', r = .returned (.tuple #[v', .bool (getL l g e).isSome]) ∧ Ints w.heap.size w' v' (tchL l g e) ∧ Below w.heap.size w w' := by
  have K1 := rget_any h g e
  cases hg : getL l g e with
  | none =>
    rw [hg] at K1
    rw [tchL_none hg]
    obtain ⟨a, cap, rfl⟩ := h.slice
    have KH := hide K1
    clear K1 hg h
    generalize l.length = N at *
    show Calls Tryz.prog 13 #[.slice a N cap, .int .i64 g, .int .i64 e] w fun r w' => ∃ v', r = .returned (.tuple #[v', .bool false]) ∧ Ints w.heap.size w' v' [] ∧ Below w.heap.size w w'
    go_enter Tryz.func13, Tryz.ntmps13
    go_wp2_with fail
    refine (unhide KH).mono ?_
    rintro r w1 ⟨x, rfl, hx, b1⟩
    obtain ⟨a1, k1, a2, k2, a3, k3, a4, k4, a5, k5, hv, -⟩ := cmV_expl hx
    rw [show ((none : Option Cm).getD cm00) = cm00 from rfl] at hv ⊢
    rw [hv]
    have HB := hide b1
    clear hv hx b1 KH
    generalize cm00 = c0 at *
    go_wp2_with fail
    go_ret2
    exact ⟨_, rfl, ints_nil _ _, bw_tr (unhide HB) (bwA _ _)⟩
  | some c =>
    obtain ⟨h0, hne, hT⟩ := tchL_some hg
    rw [hg] at K1
    rw [hT]
    have K2 : Hid (∀ W, Below w.heap.size w W → Calls Tryz.prog 11 #[v, .int .i64 g, .int .i64 (e - 1)] W fun r w' => ∃ x, r = .returned (.tuple #[cmV ((getL l g (e - 1)).getD cm00) x, .bool (getL l g (e - 1)).isSome]) ∧ CmR W ((getL l g (e - 1)).getD cm00) x ∧ Below W.heap.size W w') := fun W hW => rget_any (h.bw hW) g (e - 1)
    obtain ⟨a, cap, rfl⟩ := h.slice
    have KH := hide K1
    have HNE := hide hne
    clear K1 hg h hT hne
    generalize l.length = N at *
    generalize (getL l g (e - 1)).isSome = ok2 at *
    generalize (getL l g (e - 1)).getD cm00 = d at *
    obtain ⟨e1, he1⟩ : ∃ z, z = e - 1 := ⟨_, rfl⟩
    have w1' : IntKind.i64.wrap (e - 1) = e1 := by rw [IntKind.wrap_i64, ← he1]; omega
    have w2' : e - 1 = e1 := he1.symm
    rw [← he1] at K2
    clear he1
    show Calls Tryz.prog 13 #[.slice a N cap, .int .i64 g, .int .i64 e] w fun r w' => ∃ v', r = .returned (.tuple #[v', .bool true]) ∧ Ints w.heap.size w' v' (uni (mmb d.next) (mmb c.next)) ∧ Below w.heap.size w w'
    go_enter Tryz.func13, Tryz.ntmps13
    go_wp2_with fail
    refine (unhide KH).mono ?_
    rintro r w1 ⟨x, rfl, hx, b1⟩
    obtain ⟨a1, k1, a2, k2, a3, k3, a4, k4, a5, k5, hv, ht⟩ := cmV_expl hx
    rw [show ((some c : Option Cm).getD cm00) = c from rfl] at hv ht ⊢
    rw [hv]
    obtain ⟨W1, hW1⟩ : ∃ W, W = w1.alloc (.cells #[.int .i64 c.gr, .int .i64 c.ep, .int .i64 c.dev, .int .i64 c.mem, .int .i64 c.ke, .bool c.ext, .slice a1 c.adds.length k1, .slice a2 c.rem.length k2, .slice a3 c.seals.length k3, .slice a4 c.joins.length k4, .int .i64 c.own, .int .i64 c.ent, .slice a5 c.next.length k5, .int .i64 c.face, .int .i64 c.card] 34) := ⟨_, rfl⟩
    have q1 : W1.heap[w1.heap.size]? = some (.cells #[.int .i64 c.gr, .int .i64 c.ep, .int .i64 c.dev, .int .i64 c.mem, .int .i64 c.ke, .bool c.ext, .slice a1 c.adds.length k1, .slice a2 c.rem.length k2, .slice a3 c.seals.length k3, .slice a4 c.joins.length k4, .int .i64 c.own, .int .i64 c.ent, .slice a5 c.next.length k5, .int .i64 c.face, .int .i64 c.card] 34 (0, 0)) := by rw [hW1]; exact heap_alloc_new _ _
    have hbW : Below w.heap.size w W1 := bw_tr b1 (by rw [hW1]; exact bwA _ _)
    have HC1 : Hid (∀ W, Below W1.heap.size W1 W → W.cell? ⟨w1.heap.size, 12, none⟩ = some (.slice a5 c.next.length k5)) := fun W hW => blk_c (kept_b q1 (lt_of_blk q1) hW) rfl
    have HT1 := hide ht
    have HB1 := hide hbW
    have HW1 := hide hW1
    have KG := hide (unhide K2 W1 hbW)
    clear hv hx b1 ht q1 hbW hW1 KH K2
    go_upto_region 2 with fail
    rw [← unhide HW1]
    clear HW1
    go_wp2_with fail
    refine (unhide KG).mono ?_
    rintro r w3 ⟨x2, rfl, hx2, b3⟩
    obtain ⟨a1', k1', a2', k2', a3', k3', a4', k4', a5', k5', hv, ht⟩ := cmV_expl hx2
    rw [hv]
    obtain ⟨W3, hW3⟩ : ∃ W, W = w3.alloc (.cells #[.int .i64 d.gr, .int .i64 d.ep, .int .i64 d.dev, .int .i64 d.mem, .int .i64 d.ke, .bool d.ext, .slice a1' d.adds.length k1', .slice a2' d.rem.length k2', .slice a3' d.seals.length k3', .slice a4' d.joins.length k4', .int .i64 d.own, .int .i64 d.ent, .slice a5' d.next.length k5', .int .i64 d.face, .int .i64 d.card] 34) := ⟨_, rfl⟩
    have q3 : W3.heap[w3.heap.size]? = some (.cells #[.int .i64 d.gr, .int .i64 d.ep, .int .i64 d.dev, .int .i64 d.mem, .int .i64 d.ke, .bool d.ext, .slice a1' d.adds.length k1', .slice a2' d.rem.length k2', .slice a3' d.seals.length k3', .slice a4' d.joins.length k4', .int .i64 d.own, .int .i64 d.ent, .slice a5' d.next.length k5', .int .i64 d.face, .int .i64 d.card] 34 (0, 0)) := by rw [hW3]; exact heap_alloc_new _ _
    have hb3 : Below W1.heap.size W1 W3 := bw_tr b3 (by rw [hW3]; exact bwA _ _)
    have c3 : W3.cell? ⟨w3.heap.size, 12, none⟩ = some (.slice a5' d.next.length k5') := blk_c q3 rfl
    have c1 := unhide HC1 W3 hb3
    have KU := hide (runion_any (ht.bw hb3) ((unhide HT1).bw (bw_tr (unhide HB1) hb3)) (unhide HNE))
    have HB3 := hide (bw_tr (unhide HB1) hb3)
    have HW3 := hide hW3
    clear hv hx2 b3 ht q3 hb3 hW3 KG HC1 HT1 HNE
    go_upto_region 5 with fail
    rw [← unhide HW3]
    clear HW3
    go_wp2_with fail
    refine (unhide KU).mono ?_
    rintro r w5 ⟨v', rfl, hI, b5⟩
    have HZ : Hid (Ints w.heap.size w5 v' (uni (mmb d.next) (mmb c.next)) ∧ Below w.heap.size w w5) := ⟨hI.mono (unhide HB3).size, bw_tr (unhide HB3) b5⟩
    clear hI b5
    go_wp2_with fail
    go_ret2
    exact ⟨_, rfl, (unhide HZ).1, (unhide HZ).2⟩
end Go.Proofs.YtnfhbmlmemifjaaGreatDoor
