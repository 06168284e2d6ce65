/- The document's Card, SetCard (package phratryref16). mkRoCq.py writes it. -/
import Derived.Test.YtihniafidgjlcaaGreatDoorRoCq
namespace Go.Proofs.YtihniafidgjlcaaGreatDoor.Cd
open Go.RowKit Go.Maps
theorem card_one (a b c : Int) : ∀ u ∈ [Value.int .i64 a, .int .i64 b, .int .i64 c], u.oneCell' = true := by
  intro u hu
  simp only [List.mem_cons, List.not_mem_nil, or_false] at hu
  rcases hu with rfl | rfl | rfl <;> rfl
theorem own_snocC {w0 W w' : World} {v v' : Value} {L : List Cd} {xs : List Unit} {c : Cd} {ob : Obj} (ho : OwL kCd w0.heap.size W v L xs) (hb : Below w0.heap.size w0 W) (hown : w'.ownsRow w0.heap.size 44 3 v' (L.length + 1) (cellK kCd L xs ++ cdC c)) (hg : (W.alloc ob).grownBy w' v.ownBlock) :
    OwL kCd w0.heap.size w' v' (L ++ [c]) (xs ++ [()]) ∧ Below w0.heap.size w0 w' := by
  refine ⟨owl_of (by simp [ho.xl]) ?_, ?_⟩
  · rw [cellK_snocM ho.xl, List.length_append]
    exact hown
  · exact (bw_tr hb (bwA W ob)).grown hg (by have := hb.size; simp; omega) (fun k hk => (World.ownsRow.lt ho.row k hk).1)
theorem dstep_a {c p : Cd} {L : List Cd} (h1 : c.us ≤ p.us) (h2 : p.us ≠ c.us) : dstep c (L, false) p = (L ++ [c] ++ [p], true) := by unfold dstep; rw [if_pos ⟨rfl, h1⟩, if_neg h2]
theorem dstep_b {c p : Cd} {L : List Cd} (h1 : c.us ≤ p.us) (h2 : p.us = c.us) : dstep c (L, false) p = (L ++ [c], true) := by unfold dstep; rw [if_pos ⟨rfl, h1⟩, if_pos h2]
theorem dstep_c {c p : Cd} {L : List Cd} (h1 : ¬ c.us ≤ p.us) (h2 : p.us ≠ c.us) : dstep c (L, false) p = (L ++ [p], false) := by unfold dstep; rw [if_neg (fun q => h1 q.2), if_neg h2]
theorem dstep_t {c p : Cd} {L : List Cd} (h2 : p.us ≠ c.us) : dstep c (L, true) p = (L ++ [p], true) := by unfold dstep; rw [if_neg (by simp), if_neg h2]
theorem dstep_u {c p : Cd} {L : List Cd} (h2 : p.us = c.us) : dstep c (L, true) p = (L, true) := by unfold dstep; rw [if_neg (by simp), if_pos h2]
def RSetX (B : Nat) (w' : World) (v' : Value) (er : Int) (l : List Cd) (c : Cd) : Prop :=
  (er = 1 ∧ ¬ (okC c ∧ mayP l) ∧ v' = .slice none 0 0) ∨ (er = 0 ∧ okC c ∧ mayP l ∧ ∃ xs', OwL kCd B w' v' (dset c l) xs')
theorem crdX_uniq {l : List Cd} {u : Int} {c1 c2 : Cd} {b1 b2 : Bool} (h1 : CrdX l u c1 b1) (h2 : CrdX l u c2 b2) : c1 = c2 ∧ b1 = b2 := by
  rcases h1 with ⟨r1, q1, e1⟩ | ⟨r1, q1, k1, e1, f1⟩ <;> rcases h2 with ⟨r2, q2, e2⟩ | ⟨r2, q2, k2, e2, f2⟩
  · exact ⟨by rw [e1, e2], by rw [r1, r2]⟩
  · rcases q1 with q | q
    · rw [mayX_iff.2 q2] at q; cases q
    · exact absurd f2 (q _ (List.mem_of_getElem? e2))
  · rcases q2 with q | q
    · rw [mayX_iff.2 q1] at q; cases q
    · exact absurd f1 (q _ (List.mem_of_getElem? e1))
  · rcases Nat.lt_trichotomy k1 k2 with c | c | c
    · have := ris_monoX q1 k1 k2 _ _ c e1 e2; omega
    · subst c; rw [e1] at e2; cases e2; exact ⟨rfl, by rw [r1, r2]⟩
    · have := ris_monoX q1 k2 k1 _ _ c e2 e1; omega
set_option maxRecDepth 100000 in
set_option maxHeartbeats 4000000 in
theorem rcard_any {w : World} {v : Value} {l : List Cd} {xs : List Unit} (h : RdL kCd w v l xs) (hl : l.length ≤ 1073741824) (u : Int) :
    Calls Tryz.prog 23 #[v, .int .i64 u] w fun e w' => ∃ c ok, e = .returned (.tuple #[.agg (cdC c).toArray, .bool ok]) ∧ CrdX l u c ok ∧ Below w.heap.size w w' := by
  obtain ⟨w0, hw0⟩ : ∃ w0, w0 = w.alloc (.cells #[.int .i64 0, .int .i64 0, .int .i64 0] 44) := ⟨_, rfl⟩
  have bl : Below w.heap.size w w0 := by rw [hw0]; exact bwA _ _
  have kk : w0.heap[w.heap.size]? = some (.cells #[.int .i64 0, .int .i64 0, .int .i64 0] 44 (0, 0)) := by rw [hw0]; exact heap_alloc_new _ _
  obtain ⟨r, hr⟩ : ∃ r, r = mayX l := ⟨_, rfl⟩
  have KM : Hid (∀ W, Below w0.heap.size w0 W → Calls Tryz.prog 49 #[v] W fun e w' => e = .returned (.bool r) ∧ Below W.heap.size W w') := fun W hW => by rw [hr]; exact rmay_any ((h.bw bl).bw hW) hl
  have HK : Hid (∀ W, Below w0.heap.size w0 W → (W.cell? ⟨w.heap.size, 0, none⟩ = some (.int .i64 0) ∧ W.cell? ⟨w.heap.size, 1, none⟩ = some (.int .i64 0) ∧ W.cell? ⟨w.heap.size, 2, none⟩ = some (.int .i64 0) ∧ ∀ j, W.frozen? ⟨w.heap.size, j, none⟩ = false) ∧ ∀ a b c : Int, ∃ V, V = ((W.setCell ⟨w.heap.size, 0, none⟩ (.int .i64 a)).setCell ⟨w.heap.size, 1, none⟩ (.int .i64 b)).setCell ⟨w.heap.size, 2, none⟩ (.int .i64 c) ∧ V.cell? ⟨w.heap.size, 0, none⟩ = some (.int .i64 a) ∧ V.cell? ⟨w.heap.size, 1, none⟩ = some (.int .i64 b) ∧ V.cell? ⟨w.heap.size, 2, none⟩ = some (.int .i64 c) ∧ Hid (Below w.heap.size w V)) := fun W hW => by
    have k1 := kept_b kk (lt_of_blk kk) hW
    refine ⟨⟨blk_c k1 rfl, blk_c k1 rfl, blk_c k1 rfl, fun j => froz_b' (i := j) k1⟩, fun a b c => ?_⟩
    have p1 := pokes_at [.int .i64 a, .int .i64 b, .int .i64 c] W 0 _ k1
    refine ⟨pokes W w.heap.size 0 [.int .i64 a, .int .i64 b, .int .i64 c], rfl, blk_c p1 rfl, blk_c p1 rfl, blk_c p1 rfl, ?_⟩
    exact Fr.toBase (bw_tr bl hW) (pokes_fr (g := w.heap.size) _ _ _ (Fr.refl _ _)) (by simp)
  obtain ⟨a, cap, rfl⟩ := rdl_slice h
  obtain ⟨N, hN⟩ : ∃ N, N = l.length := ⟨_, rfl⟩
  rw [← hN] at KM ⊢
  have hNI : (N : Int) ≤ 1073741824 := by omega
  have HP : Hid (∀ i, i < N → ∃ p gb o, l[i]? = some p ∧ a = some ⟨gb, o, none⟩ ∧ ∀ W, Below w0.heap.size w0 W → W.cell? ⟨gb, o + i * 3, none⟩ = some (.int .i64 p.us) ∧ W.cell? ⟨gb, o + i * 3 + 1, none⟩ = some (.int .i64 p.ep) ∧ W.cell? ⟨gb, o + i * 3 + 2, none⟩ = some (.int .i64 p.pb)) := fun i hi => by
    obtain ⟨p, hp⟩ : ∃ p, l[i]? = some p := ⟨_, List.getElem?_eq_getElem (by omega)⟩
    rw [← hN] at h
    obtain ⟨gb, o, x, e, hx, hR, hc⟩ := h.get hp
    refine ⟨p, gb, o, hp, e, fun W hW => ?_⟩
    have q := bw_tr bl hW
    have d0 : w.cell? ⟨gb, o + i * 3, none⟩ = some (.int .i64 p.us) := hc 0 _ rfl
    have d1 : w.cell? ⟨gb, o + i * 3 + 1, none⟩ = some (.int .i64 p.ep) := hc 1 _ rfl
    have d2 : w.cell? ⟨gb, o + i * 3 + 2, none⟩ = some (.int .i64 p.pb) := hc 2 _ rfl
    exact ⟨by rw [q.cell (lt_of_cell d0)]; exact d0, by rw [q.cell (lt_of_cell d1)]; exact d1, by rw [q.cell (lt_of_cell d2)]; exact d2⟩
  have HR := hide (And.intro hr hN)
  have HW := hide hw0
  clear h hl hw0 bl kk hr hN
  go_enter Tryz.func23, Tryz.ntmps23
  go_upto_region 1 with fail
  rw [← unhide HW]
  clear HW
  go_wp2_with fail
  go_loopw [6] (fun iv wr => ∃ i : Nat, i ≤ N ∧ iv = .int .i64 (i : Int) ∧ Hid (Below w0.heap.size w0 wr ∧ ∀ (j : Nat) p, j < i → l[j]? = some p → p.us ≠ u)) (fun iv _ => (N - intOf iv).toNat)
  case atStart => exact ⟨0, Nat.zero_le _, rfl, Below.refl _ _, fun j p hj => absurd hj (by omega)⟩
  case round =>
    obtain ⟨i, hi, rfl, HI⟩ := hrel
    by_cases hlt : i < N
    · have hiI : (i : Int) < (N : Int) := by omega
      have h0 : (0 : Int) ≤ (i : Int) := by omega
      have K := hide (unhide KM wr (unhide HI).1)
      cases r with
      | false =>
        go_wp2_with fail
        refine (unhide K).mono ?_
        rintro e w1 ⟨rfl, b1⟩
        obtain ⟨⟨c0, c1, c2, fz⟩, HZ⟩ := unhide HK w1 (bw_tr (unhide HI).1 b1)
        obtain ⟨V, hV, z0, z1, z2, HB⟩ := HZ 0 0 0
        have HV := hide hV
        clear K b1 HZ hV
        go_wp2_with fail
        rw [← unhide HV]
        exact bodyPost_ret (v := .tuple #[.agg #[.int .i64 0, .int .i64 0, .int .i64 0], .bool false]) (by simp [results, Tryz.results23, go_sem, z0, z1, z2]) rfl ⟨⟨0, 0, 0⟩, false, rfl, Or.inl ⟨rfl, Or.inl (unhide HR).1.symm, rfl⟩, unhide HB⟩
      | true =>
        obtain ⟨p, gb, o, hp, rfl, hc⟩ := unhide HP i hlt
        have HC := hide hc
        obtain ⟨us, hus⟩ : ∃ z, z = p.us := ⟨_, rfl⟩
        obtain ⟨ep, hep⟩ : ∃ z, z = p.ep := ⟨_, rfl⟩
        obtain ⟨pb, hpb⟩ : ∃ z, z = p.pb := ⟨_, rfl⟩
        have hpe : p = ⟨us, ep, pb⟩ := by rw [hus, hep, hpb]
        have HPP := hide (And.intro hp hpe)
        rw [← hus, ← hep, ← hpb] at hc
        have HC2 := hide hc
        clear hc HC hp hpe hus hep hpb
        go_wp2_with fail
        refine (unhide K).mono ?_
        rintro e w1 ⟨rfl, b1⟩
        have b01 := bw_tr (unhide HI).1 b1
        obtain ⟨f0, f1, f2⟩ := unhide HC2 w1 b01
        by_cases hu : us = u
        · subst hu
          obtain ⟨⟨c0, c1, c2, fz⟩, HZ⟩ := unhide HK w1 b01
          obtain ⟨V, hV, z0, z1, z2, HB⟩ := HZ us ep pb
          have HV := hide hV
          have HF : Hid (CrdX l us ⟨us, ep, pb⟩ true) := by
            obtain ⟨q1, q2⟩ := unhide HPP
            subst q2
            exact Or.inr ⟨rfl, mayX_iff.1 (unhide HR).1.symm, i, q1, rfl⟩
          clear K b1 HZ hV b01 HPP
          go_wp2_with fail
          rw [← unhide HV]
          exact bodyPost_ret (v := .tuple #[.agg #[.int .i64 us, .int .i64 ep, .int .i64 pb], .bool true]) (by simp [results, Tryz.results23, go_sem, z0, z1, z2]) rfl ⟨⟨us, ep, pb⟩, true, rfl, unhide HF, unhide HB⟩
        · have HX : Hid (Below w0.heap.size w0 w1 ∧ ∀ (j : Nat) p, j < i + 1 → l[j]? = some p → p.us ≠ u) := by
            refine ⟨b01, fun j p' hj hp' => ?_⟩
            rcases Nat.lt_or_ge j i with c | c
            · exact (unhide HI).2 j p' c hp'
            · obtain rfl : j = i := by omega
              obtain ⟨q1, q2⟩ := unhide HPP
              rw [q1] at hp'; cases hp'
              rw [q2]; exact hu
          clear K b1 b01 HPP HC2
          go_wp2_with fail
          go_roundw
          case rel => exact ⟨i + 1, by omega, by go_num, HX⟩
          case measure => simp only [intOf]; omega
    · obtain rfl : i = N := by omega
      have HF : Hid (CrdX l u ⟨0, 0, 0⟩ false) := Or.inl ⟨rfl, Or.inr (fun p hp => by
        obtain ⟨j, hj⟩ := List.mem_iff_getElem?.1 hp
        exact (unhide HI).2 j p (by have := (List.getElem?_eq_some_iff.1 hj).1; have := (unhide HR).2; omega) hj), rfl⟩
      obtain ⟨⟨c0, c1, c2, fz⟩, HZ⟩ := unhide HK wr (unhide HI).1
      obtain ⟨V, hV, z0, z1, z2, HB⟩ := HZ 0 0 0
      have HV := hide hV
      clear HZ hV KM HP HK
      go_wp2_with fail
      rw [← unhide HV]
      exact bodyPost_ret (v := .tuple #[.agg #[.int .i64 0, .int .i64 0, .int .i64 0], .bool false]) (by simp [results, Tryz.results23, go_sem, z0, z1, z2]) rfl ⟨⟨0, 0, 0⟩, false, rfl, unhide HF, unhide HB⟩
end Go.Proofs.YtihniafidgjlcaaGreatDoor.Cd
