/- The contract of Make of the document's store. -/
import Derived.Test.YtokdflbajnecpaaNTmR
namespace Go.Proofs.Ytokdflbajnecpaa.Tn
open Go.RowKit Go.Maps

theorem num_at {L : List Tm} (h : L.Nodup) {i : Nat} {t : Tm} (hi : L[i]? = some t) : num L t = i + 1 := by
  have hm := List.mem_of_getElem? hi
  obtain ⟨l1, g1⟩ := List.getElem?_eq_some_iff.1 hi
  have q := num_get hm
  obtain ⟨l2, g2⟩ := List.getElem?_eq_some_iff.1 q.1
  have := (List.getElem_inj h).1 (g1.trans g2.symm)
  omega

set_option maxRecDepth 100000 in
set_option maxHeartbeats 8000000 in
theorem rmake_any (b : Nat) (sv : Value) (L : List Tm) (t : Tm) (w : World) (h : Rs w b sv L) (ht : t.ok) :
    Calls Try.prog 28 #[.pointer (some ⟨b, 0, none⟩), .agg #[.int .u8 t.kd, .int .i64 t.n, .int .i64 t.a, .int .i64 t.b]] w fun e w' => e = .returned (.tuple #[.int .i64 (mkN L t : Nat), .int .i64 (mkE L t)]) ∧ ∃ sv', RStep w w' b sv sv' (mkL L t) := by
  obtain ⟨k, n, x, y⟩ := t
  obtain ⟨w0, hw0⟩ : ∃ w0, w0 = w.alloc (.cells #[.int .u8 k, .int .i64 n, .int .i64 x, .int .i64 y] 55) := ⟨_, rfl⟩
  have hb0 : Below w.heap.size w w0 := by rw [hw0]; exact (Below.refl _ _).alloc (Nat.le_refl _) _
  have h0 := h.bw hb0
  have K2 := rmay_any b sv L k n x y w0 h0
  have hsz : w0.heap.size = w.heap.size + 1 := by rw [hw0]; simp
  have bx : TAt w0 w.heap.size 0 ⟨k, n, x, y⟩ := by
    rw [hw0]; unfold TAt World.cell?; simp only [heap_alloc_new]; exact ⟨rfl, rfl, rfl, rfl⟩
  cases hm : may L.length ⟨k, n, x, y⟩
  · have e1 : mkN L ⟨k, n, x, y⟩ = 0 := by simp [mkN, hm]
    have e2 : mkE L ⟨k, n, x, y⟩ = 1 := by simp [mkE, hm]
    have e3 : mkL L ⟨k, n, x, y⟩ = L := by simp [mkL, hm]
    rw [e1, e2, e3]
    rw [hm] at K2
    rw [hw0] at K2 hb0
    clear e1 e2 e3 h0 hm hsz bx hw0
    go_enter Try.func28, Try.ntmps28
    go_wp2_with fail
    refine K2.mono ?_
    rintro e w1 ⟨rfl, hb1⟩
    go_wp2
    go_ret2
    exact ⟨rfl, sv, RStep.same h (bw_tr hb0 hb1)⟩
  · rw [hm] at K2
    have K2' : Calls Try.prog 62 #[.pointer (some ⟨b, 0, none⟩), .agg #[.int .u8 k, .int .i64 n, .int .i64 x, .int .i64 y]] w0 fun e w1 => e = .returned (.bool true) ∧ Below w.heap.size w w1 ∧ Rs w1 b sv L ∧ w.heap.size < w1.heap.size ∧ TAt w1 w.heap.size 0 ⟨k, n, x, y⟩ := by
      refine K2.mono ?_
      rintro e w1 ⟨rfl, hb1⟩
      exact ⟨rfl, bw_tr hb0 hb1, h0.bw hb1, by have := hb1.size; omega, bx.keep (hb1.block _ (by omega))⟩
    rw [hw0] at K2'
    clear K2 h0 hsz bx hb0 hw0
    obtain ⟨i0, hi, hz0, hz1, hz2⟩ := info_parts Try.infoTerm
    obtain ⟨sa, cap, rfl⟩ := h.form
    obtain ⟨N, hN⟩ : ∃ N, N = L.length := ⟨_, rfl⟩
    have hNb : (N : Int) ≤ 1048577 := by have := h.len; omega
    have HH := hide (And.intro h (And.intro ht (And.intro hm hN)))
    rw [← hN] at K2'
    clear h ht hm
    go_enter Try.func28, Try.ntmps28
    rw [← hN]
    clear hN
    go_wp2_with fail
    refine K2'.mono ?_
    rintro e w1 ⟨rfl, hb1, h1, hs1, hT1⟩
    have HS : Hid (Rs w1 b (.slice sa N cap) L ∧ TAt w1 w.heap.size 0 ⟨k, n, x, y⟩ ∧ Below w.heap.size w w1 ∧ w.heap.size < w1.heap.size ∧ ∀ j, j < 0 → L[j]? ≠ some ⟨k, n, x, y⟩) := ⟨h1, hT1, hb1, hs1, fun j hj => by omega⟩
    clear hb1 h1 hs1 hT1 K2'
    go_wp2_with fail
    go_loopw [6] (fun iv wr => ∃ i : Nat, i ≤ N ∧ iv = .int .i64 (i : Int) ∧ Hid (Rs wr b (.slice sa N cap) L ∧ TAt wr w.heap.size 0 ⟨k, n, x, y⟩ ∧ Below w.heap.size w wr ∧ w.heap.size < wr.heap.size ∧ ∀ j, j < i → L[j]? ≠ some ⟨k, n, x, y⟩)) (fun iv _ => (N - intOf iv).toNat)
    case atStart => exact ⟨0, by omega, rfl, HS⟩
    case round =>
      clear HS
      obtain ⟨i, hiN, rfl, HS⟩ := hrel
      obtain ⟨hR, hT, hB, hs1, hno⟩ := unhide HS
      obtain ⟨c0, f0⟩ := hR.cells
      obtain ⟨t0, t1, t2, t3⟩ := hT
      simp only [Nat.zero_add] at t1 t2 t3
      by_cases hlt : i < N
      · have hi1 : (i : Int) < (N : Int) := by omega
        obtain ⟨u, hu⟩ : ∃ u, L[i]? = some u := ⟨_, List.getElem?_eq_getElem (by rw [← (unhide HH).2.2.2]; exact hlt)⟩
        obtain ⟨g, rfl, hg, s0, s1, s2, s3⟩ : ∃ g, sa = some ⟨g, 0, none⟩ ∧ g < wr.heap.size ∧ TAt wr g (i * 4) u := by
          rcases hR.row.form with ⟨_, c⟩ | ⟨g, cp, hv, _, hg, _⟩
          · rw [c] at hu; simp at hu
          · cases hv; exact ⟨g, rfl, hg, hR.row.at rfl hu⟩
        by_cases hab : u = ⟨k, n, x, y⟩
        · subst hab
          have e1 : mkN L ⟨k, n, x, y⟩ = i + 1 := by
            have hmem := List.mem_of_getElem? hu
            simp [mkN, (unhide HH).2.2.1, hmem, num_at (unhide HH).1.good.nodup hu]
          have e2 : mkE L ⟨k, n, x, y⟩ = 0 := by simp [mkE, (unhide HH).2.2.1, List.mem_of_getElem? hu]
          have e3 : mkL L ⟨k, n, x, y⟩ = L := by simp [mkL, List.mem_of_getElem? hu]
          have HE := hide (And.intro e1 (And.intro e2 e3))
          have HB2 := hide hB
          clear e1 e2 e3 hu hR hB hno HS
          simp only at s0 s1 s2 s3
          go_wp2_with fail
          go_quiet (fail)
          go_wp2_with fail
          go_ret2
          refine ⟨?_, .slice (some ⟨g, 0, none⟩) L.length cap, ?_⟩
          · rw [(unhide HE).1, (unhide HE).2.1]; exact ret_pair (by omega) rfl
          · rw [(unhide HE).2.2, (unhide HH).2.2.2]
            have hh := (unhide HH).1
            exact RStep.same hh (below_drewN (unhide HB2) _)
        · have HR2 : ∀ q, Hid (Rs (wr.drewN q) b (.slice (some ⟨g, 0, none⟩) N cap) L ∧ TAt (wr.drewN q) w.heap.size 0 ⟨k, n, x, y⟩ ∧ Below w.heap.size w (wr.drewN q) ∧ w.heap.size < (wr.drewN q).heap.size ∧ ∀ j, j < i + 1 → L[j]? ≠ some ⟨k, n, x, y⟩) := fun q => by
            refine ⟨hR.bw (below_drewN (Below.refl _ _) _), (unhide HS).2.1, below_drewN hB _, hs1, fun j hj => ?_⟩
            by_cases e : j = i
            · subst e; rw [hu]; intro c; exact hab (Option.some.inj c)
            · exact hno j (by omega)
          have hne := tm_ne hab
          obtain ⟨k', m', a', b'⟩ := u
          simp only at s0 s1 s2 s3 hne
          have HR3 := hide HR2
          clear hab hu hR hB hno HS HR2
          rcases hne with h | ⟨rfl, h⟩ | ⟨rfl, rfl, h⟩ | ⟨rfl, rfl, rfl, h⟩
          all_goals
            have h' := beq_eq_false_iff_ne.2 h
            clear h
            go_wp2_with fail
            go_quiet (fail)
            go_wp2_with fail
            go_roundw
            case rel => exact ⟨i + 1, by omega, by go_num, unhide HR3 _⟩
            case measure => simp only [intOf]; omega
      · obtain rfl : i = N := by omega
        have hnot : (⟨k, n, x, y⟩ : Tm) ∉ L := fun c => by
          obtain ⟨j, hj⟩ := List.getElem?_of_mem c
          refine hno j ?_ hj
          rw [(unhide HH).2.2.2]
          rcases Nat.lt_or_ge j L.length with q | q
          · exact q
          · rw [List.getElem?_eq_none q] at hj; cases hj
        have hL := (unhide HH).2.2.2
        have hm := (unhide HH).2.2.1
        clear hno hlt hiN
        by_cases hlen : i < 1048576
        · have hlen' : L.length < 1048576 := by omega
          have e1 : mkN L ⟨k, n, x, y⟩ = i + 1 := by simp [mkN, hm, hnot, hlen', hL]
          have e2 : mkE L ⟨k, n, x, y⟩ = 0 := by simp [mkE, hm, hnot, hlen']
          have e3 : mkL L ⟨k, n, x, y⟩ = L ++ [⟨k, n, x, y⟩] := by simp [mkL, hm, hnot, hlen']
          have hgood := (unhide HH).1.good.made ⟨k, n, x, y⟩
          rw [e3] at hgood
          have hfit : ∀ u ∈ L ++ [(⟨k, n, x, y⟩ : Tm)], u.ok := fun u hu => by
            rcases List.mem_append.1 hu with c | c
            · exact (unhide HH).1.fit u c
            · simp at c; subst c; exact (unhide HH).2.1
          have HE := hide (And.intro e1 (And.intro e2 (And.intro e3 (And.intro hgood hfit))))
          have hd1 : decide ((1048576 : Int) ≤ (i : Int)) = false := decide_eq_false (by omega)
          have hbw := lt_of_blk hR.blk
          have c0a : (wr.alloc (.cells #[.int .u8 k, .int .i64 n, .int .i64 x, .int .i64 y] 55)).cell? ⟨b, 0, none⟩ = some (.slice sa i cap) := by
            rw [World.cell?_of_block (w := wr) (Below.heap_alloc _ _ _ hbw)]; exact c0
          have hrow : wr.ownsRow 0 55 4 (.slice sa i cap) i (L.flatMap tmC) := by have := hR.row; unfold TmRow at this; rw [← hL] at this; exact this
          have hF : Fr [] wr (wr.drew.alloc (.cells #[.int .u8 k, .int .i64 n, .int .i64 x, .int .i64 y] 55)) := ((Fr.refl [] wr).drew).alloc _
          have hmx : i + 1 ≤ maxLen := by unfold maxLen; omega
          have hby : (i + 1) * 32 ≤ 140737488355328 := by omega
          have HB := hide (And.intro hmx (And.intro hby (And.intro hF (And.intro hrow (And.intro hR (And.intro hB hL))))))
          clear e1 e2 e3 hgood hfit hnot hm hL hlen hlen' hF hmx hby hrow hR hB HS
          go_wp2_with fail
          go_region_law (refine step_append_own rfl (.tmp 41) (.tmp 43) 22 rfl 0 55 i0 (.agg #[.int .u8 0, .int .i64 0, .int .i64 0, .int .i64 0]) 4 32 Try.underlying22 hi hz0 hz1 hz2 rfl (by decide) (.slice sa i cap) i (L.flatMap tmC) (by simp [Act.eval]) ((unhide HB).2.2.2.1.drew.alloc _) ⟨wr.heap.size, 0, none⟩ 1 1 [.int .u8 k, .int .i64 n, .int .i64 x, .int .i64 y] (by simp [Act.eval]) rfl (cells_new4 wr.drew _ _ _ _ _) (tmC_one ⟨k, n, x, y⟩) (unhide HB).1 (unhide HB).2.1 (Nat.zero_le _) ?_; intro v' w2 hown' hgrow hat; obtain ⟨k1, k2, k3, k4, ⟨g', cap', rfl⟩⟩ := (unhide HB).2.2.2.2.1.appended (t := ⟨k, n, x, y⟩) (unhide HB).2.2.2.2.2.2 (unhide HB).2.2.1 hown' hgrow hat (unhide HE).2.2.2.1 (unhide HE).2.2.2.2)
          all_goals
            have HK := hide k3
            clear k3 hown' hgrow hat
            go_wp2_with fail
            go_ret2
            refine ⟨?_, .slice (some ⟨g', 0, none⟩) (i + 1) cap', ?_⟩
            · rw [(unhide HE).1, (unhide HE).2.1]; exact ret_pair (by omega) rfl
            · rw [(unhide HE).2.2.1]
              exact (unhide HK).before (unhide HB).2.2.2.2.2.1
        · have hlen' : ¬ L.length < 1048576 := by omega
          have e1 : mkN L ⟨k, n, x, y⟩ = 0 := by simp [mkN, hm, hnot, hlen']
          have e2 : mkE L ⟨k, n, x, y⟩ = 3 := by simp [mkE, hm, hnot, hlen']
          have e3 : mkL L ⟨k, n, x, y⟩ = L := by simp [mkL, hlen']
          have HE := hide (And.intro e1 (And.intro e2 e3))
          have hge : (1048576 : Int) ≤ (i : Int) := by omega
          have HB2 := hide hB
          clear e1 e2 e3 hnot hm hL hlen hlen' hR hB HS
          go_wp2_with fail
          go_ret2
          refine ⟨?_, .slice sa L.length cap, ?_⟩
          · rw [(unhide HE).1, (unhide HE).2.1]; rfl
          · rw [(unhide HE).2.2, (unhide HH).2.2.2]
            have hh := (unhide HH).1
            exact RStep.same hh (unhide HB2)

end Go.Proofs.Ytokdflbajnecpaa.Tn
