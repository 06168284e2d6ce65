/- The contract of lookAt of package deduce. -/
import Derived.Test.YtkaioidneknmjaaNDdC
namespace Go.Proofs.Ytkaioidneknmjaa.Tn
open Go.RowKit Go.Maps

/-- A row of numbers that has grown. -/
structure Nw (W W' : World) (v v' : Value) (l : List Nat) : Prop where
  row : NRow 0 W' v' l
  fr : Fr v.ownBlock.toList W W'
  pl : ∀ k, v'.ownBlock = some k → v.ownBlock = some k ∨ W.heap.size ≤ k
theorem Nw.same {W W' : World} {v : Value} {l : List Nat} (h : NRow 0 W v l) (hb : Below W.heap.size W W') : Nw W W' v v l :=
  ⟨h.keep (fun k hk => hb.block k (h.lt k hk).2), (Fr.ofBelow hb).mono (fun _ _ c => by cases c), fun _ hk => Or.inl hk⟩
theorem Nw.grown {W W1 W2 : World} {v v' : Value} {l : List Nat} {x : List Nat} {ob : Obj} (_h : NRow 0 W v l) (hb : Below W.heap.size W W1) (hown : W2.ownsRow 0 3 1 v' (l.length + x.length) (l.map (fun m => .int .i64 ((m : Nat) : Int)) ++ x.map (fun m => .int .i64 ((m : Nat) : Int)))) (hg : (W1.alloc ob).grownBy W2 v.ownBlock) (hat : v'.ownBlock = v.ownBlock ∨ v'.ownBlock = some (W1.heap.size + 1)) : Nw W W2 v v' (l ++ x) := by
  refine ⟨by unfold NRow; rw [List.length_append, List.map_append]; exact hown, ?_, fun k hk => ?_⟩
  · exact ((Fr.ofBelow hb).alloc ob).trans (Fr.ofGrown hg) (fun _ _ c => by cases c) (fun _ _ c => c)
  · rcases hat with c | c
    · left; rw [← c]; exact hk
    · right; rw [c] at hk; simp at hk; have := hb.size; omega
theorem one_two (x y : Int) : ∀ u ∈ [Value.int .i64 x, .int .i64 y], u.oneCell' = true := by
  intro u hu; simp at hu; rcases hu with rfl | rfl <;> rfl
theorem cells_new2b (w : World) (n : Nat) (hn : n = w.heap.size) (x0 x1 : Value) (t : TypeId) : ∀ j u, [x0, x1][j]? = some u → (w.alloc (.cells #[x0, x1] t)).cell? ((⟨n, 0, none⟩ : Addr).add j) = some u := by
  subst hn; exact cells_new2 w x0 x1 t
theorem ret_v {a b : Value} (h : a = b) : Ending.returned a = .returned b := by rw [h]

set_option maxRecDepth 100000 in
set_option maxHeartbeats 8000000 in
theorem lookAt_any (kb : Nat) (fv tv lv : Value) (b : Nat) (F : List Bool) (fs : List Nat) (ls : List (Nat × Nat)) (sv : Value) (mb : Nat) (L : List Tm) (m : Nat) (a : Option Addr) (cap : Nat) (l : List Nat) (w : World) (h : Kn w kb fv tv lv b F fs ls) (hS : St w b sv mb L) (hF : F.length ≤ L.length + 1) (h1 : 1 ≤ m) (h2 : m < F.length) (h0 : On F 0) (hr : NRow 0 w (.slice a l.length cap) l) (hl : l.length + 2 ≤ 17000000000000) :
    Calls Try.prog 56 #[.pointer (some ⟨kb, 0, none⟩), .int .i64 (m : Int), .slice a l.length cap] w fun e w' => ∃ v', e = .returned v' ∧ Nw w w' (.slice a l.length cap) v' (l ++ lkA L F m) := by
  obtain ⟨j0, hj, hy0, hy1, hyb⟩ := info_parts Try.infoInt
  have hG := hS.good
  have hL := hS.len
  have hmL : m ≤ L.length := by omega
  have KG := get_nat b sv mb L m w hS h1 hmL
  obtain ⟨d0, d1, _, _, _⟩ := h.cells
  obtain ⟨g, capF, hfv, hg, hmk, _⟩ := h.marks (by omega)
  have hk := lt_of_blk h.blk
  obtain ⟨hp1, hp2⟩ := hG.parts h1 hmL
  obtain ⟨kd, u0⟩ : ∃ x, x = kdOf L m := ⟨_, rfl⟩
  obtain ⟨nn, u1⟩ : ∃ x, x = (tmAt L m).n := ⟨_, rfl⟩
  obtain ⟨A, u2⟩ : ∃ x, x = pA L m := ⟨_, rfl⟩
  obtain ⟨B, u3⟩ : ∃ x, x = pB L m := ⟨_, rfl⟩
  rw [← u0, ← u1, ← u2, ← u3] at KG
  obtain ⟨N, hN⟩ : ∃ N, N = F.length := ⟨_, rfl⟩
  obtain ⟨q, hq⟩ : ∃ q, q = l.length := ⟨_, rfl⟩
  obtain ⟨R, hR⟩ : ∃ R, R = lkA L F m := ⟨_, rfl⟩
  rw [← hR]
  rw [hfv, ← hN] at d1
  have mF : ∀ V, Below w.heap.size w V → ∀ x, x < N → V.cell? ⟨g, x, none⟩ = some (.bool (onB F x)) := fun V hV x hx => by
    rw [World.cell?_of_block (w := w) (hV.block _ hg)]; exact hmk x (by omega)
  have cK : ∀ V, Below w.heap.size w V → V.cell? ⟨kb, 1, none⟩ = some (.slice (some ⟨g, 0, none⟩) N capF) := fun V hV => by
    rw [World.cell?_of_block (w := w) (hV.block _ hk)]; exact d1
  have cM : ∀ V, Below w.heap.size w V → _ := fun V hV => canMake_any kb fv tv lv b F fs ls kd nn A B V (h.bw hV) (by omega) (by omega) (by omega)
  have hmN : (m : Int) < (N : Int) := by omega
  have hNb : (N : Int) ≤ 1048577 := by omega
  have hqb : (q : Int) ≤ 17000000000000 := by omega
  have HU := hide (And.intro u0 (And.intro u2 (And.intro u3 (And.intro hp1 (And.intro hp2 (And.intro h1 (And.intro hmL (And.intro hN (And.intro hG (And.intro hL (And.intro hR (And.intro hq h2))))))))))))
  have HM := hide mF
  have HK := hide cK
  have HC := hide cM
  have HS := hide (And.intro h (And.intro hS (And.intro h0 (And.intro hr hl))))
  have mm := mF w (Below.refl _ _) m (by omega)
  rw [← hq]
  have hrw : ∀ V ob, Below w.heap.size w V → (V.alloc ob).ownsRow 0 3 1 (.slice a q cap) q (l.map (fun m => .int .i64 ((m : Nat) : Int))) := fun V ob hV => by
    have := (Nw.same hr hV).row
    unfold NRow at this
    rw [← hq] at this
    exact World.ownsRow.alloc this ob
  have HW := hide hrw
  have hx1 : q + 1 ≤ maxLen := by unfold maxLen; omega
  have hx2 : (q + 1) * 8 ≤ 140737488355328 := by omega
  have hx3 : q + 2 ≤ maxLen := by unfold maxLen; omega
  have hx4 : (q + 2) * 8 ≤ 140737488355328 := by omega
  have HX := hide (And.intro hx1 (And.intro hx2 (And.intro hx3 hx4)))
  have end1 : ∀ (V W2 : World) (ob : Obj) (v' : Value) (xs : List Nat), Below w.heap.size w V → W2.ownsRow 0 3 1 v' (q + xs.length) (l.map (fun m => .int .i64 ((m : Nat) : Int)) ++ xs.map (fun m => .int .i64 ((m : Nat) : Int))) → (V.alloc ob).grownBy W2 (Value.slice a q cap).ownBlock → (v'.ownBlock = (Value.slice a q cap).ownBlock ∨ v'.ownBlock = some (V.heap.size + 1)) → R = xs → Nw w W2 (.slice a q cap) v' (l ++ R) := fun V W2 ob v' xs hV h1 h2 h3 e => by
    rw [e]; rw [hq] at h1 h2 h3 ⊢; exact Nw.grown hr hV h1 h2 h3
  have HE := hide end1
  have end0 : ∀ V, Below w.heap.size w V → R = [] → Nw w V (.slice a q cap) (.slice a q cap) (l ++ R) := fun V hV e => by
    rw [e, List.append_nil, hq]; exact Nw.same hr hV
  have HE0 := hide end0
  clear h hS hF h1 h2 h0 hr hl hG hL hmL hp1 hp2 hN hq hR u0 u1 u2 u3 hfv hmk mF cK cM hrw hx1 hx2 hx3 hx4 end1 end0
  cases om : onB F m
  · rw [om] at mm
    have OM := hide om
    cases ocm : (!decide (kd = 1) && onB F A && onB F B)
    · rw [ocm] at HC
      have HR0 : Hid (R = []) := by
        obtain ⟨v0, v2, v3, _, _, _, _, _, _, _, hR, _, _⟩ := unhide HU
        have : cmk L F m = false := by unfold cmk; rw [← v0, ← v2, ← v3]; exact ocm
        unfold Hid; rw [hR]; simp [lkA, om, this]
      clear ocm om
      go_enter Try.func56, Try.ntmps56
      go_wp2_with fail
      refine KG.mono ?_
      rintro e z1 ⟨rfl, b1⟩
      have b2 := b1.alloc b1.size (.cells #[.int .u8 kd, .int .i64 nn, .int .i64 (A : Int), .int .i64 (B : Int)] 40)
      have y1 := unhide HK _ b2
      have y2 := unhide HM _ b2 m (by have := unhide HU; omega)
      rw [unhide OM] at y2
      clear KG
      have KC := unhide HC _ b2
      go_wp2_with fail
      refine KC.mono ?_
      rintro e z2 ⟨rfl, b3⟩
      have b4 := bw_tr b2 b3
      have y3 := unhide HK _ b4
      have y4 := unhide HM _ b4 m (by have := unhide HU; omega)
      rw [unhide OM] at y4
      have HN := unhide HE0 _ b4 (unhide HR0)
      clear KC y1 y2
      go_wp2_with fail
      go_ret
      exact ⟨_, rfl, HN⟩
    · rw [ocm] at HC
      have HR0 : Hid (R = [m]) := by
        obtain ⟨v0, v2, v3, _, _, _, _, _, _, _, hR, _, _⟩ := unhide HU
        have : cmk L F m = true := by unfold cmk; rw [← v0, ← v2, ← v3]; exact ocm
        unfold Hid; rw [hR]; simp [lkA, om, this]
      clear ocm om
      go_enter Try.func56, Try.ntmps56
      go_wp2_with fail
      refine KG.mono ?_
      rintro e z1 ⟨rfl, b1⟩
      have b2 := b1.alloc b1.size (.cells #[.int .u8 kd, .int .i64 nn, .int .i64 (A : Int), .int .i64 (B : Int)] 40)
      have y1 := unhide HK _ b2
      have y2 := unhide HM _ b2 m (by have := unhide HU; omega)
      rw [unhide OM] at y2
      clear KG
      have KC := unhide HC _ b2
      go_wp2_with fail
      refine KC.mono ?_
      rintro e z2 ⟨rfl, b3⟩
      have b4 := bw_tr b2 b3
      clear KC y1 y2
      go_wp2_with (at_builtin; refine wpList_append_own_at _ rfl (.tmp 32) (.tmp 34) 37 rfl 0 3 j0 (.int .i64 0) 1 8 Try.underlying37 hj hy0 hy1 hyb rfl (by decide) _ q _ rfl (unhide HW _ _ b4) ⟨_, 0, none⟩ 1 1 [.int .i64 (m : Int)] rfl rfl (cell_one_new _ _ _) (one_int _) (unhide HX).1 (unhide HX).2.1 (Nat.zero_le _) ?nx)
      case nx =>
        intro v' w3 hown' hgrow _ hat
        have HN := unhide HE _ w3 _ v' [m] b4 hown' hgrow (by simpa using hat) (unhide HR0)
        clear hown' hgrow hat
        go_wp2_with fail
        go_ret
        exact ⟨_, rfl, HN⟩
  · rw [om] at mm
    have OM := hide om
    by_cases k3 : kd = 3
    · have HR0 : Hid (R = [A, B]) := by
        obtain ⟨v0, v2, v3, _, _, _, _, _, _, _, hR, _, _⟩ := unhide HU
        unfold Hid; rw [hR, v2, v3]; rw [k3] at v0; simp [lkA, om, ← v0]
      clear om
      subst k3
      go_enter Try.func56, Try.ntmps56
      go_wp2_with fail
      refine KG.mono ?_
      rintro e z1 ⟨rfl, b1⟩
      have b2 := b1.alloc b1.size (.cells #[.int .u8 3, .int .i64 nn, .int .i64 (A : Int), .int .i64 (B : Int)] 40)
      have y1 := unhide HK _ b2
      have y2 := unhide HM _ b2 m (by have := unhide HU; omega)
      rw [unhide OM] at y2
      clear KG
      go_wp2_with (at_builtin; refine wpList_append_own_at _ rfl (.tmp 50) (.tmp 55) 37 rfl 0 3 j0 (.int .i64 0) 1 8 Try.underlying37 hj hy0 hy1 hyb rfl (by decide) _ q _ rfl (unhide HW _ _ b2) ⟨_, 0, none⟩ 2 2 [.int .i64 (A : Int), .int .i64 (B : Int)] rfl rfl (cells_new2b _ _ (by simp) _ _ _) (one_two _ _) (unhide HX).2.2.1 (unhide HX).2.2.2 (Nat.zero_le _) ?nx)
      case nx =>
        intro v' w3 hown' hgrow _ hat
        have HN := unhide HE _ w3 _ v' [A, B] b2 hown' hgrow (by simpa using hat) (unhide HR0)
        clear hown' hgrow hat
        go_wp2_with fail
        go_ret
        exact ⟨_, rfl, HN⟩
    · have k3b : (kd == 3) = false := by simp [k3]
      have k3c : decide (kd = 3) = false := by simp [k3]
      by_cases k6 : kd = 6
      · have HO : Hid (1 ≤ A ∧ A ≤ L.length ∧ opA L A < N ∧ opA L A = opn L m) := by
          obtain ⟨v0, v2, v3, hp1, hp2, hm1, hc, hN, hG, hL, _, _, h2⟩ := unhide HU
          have k6' : kdOf L m = 6 := by rw [← v0]; exact k6
          have q1 := hG.pos2 hm1 hc (Or.inr k6')
          have q2 := hG.opn hm1 hc k6'
          have eo : opA L A = opn L m := by rw [v2]; rfl
          refine ⟨by omega, by omega, ?_, eo⟩
          rw [eo]; omega
        have KO : ∀ V, Below w.heap.size w V → _ := fun V hV => opener_any kb b sv mb L kd nn A (B : Int) V ((unhide HS).2.1.bw hV) (by rw [World.cell?_of_block (w := w) (hV.block _ hk)]; exact d0) (unhide HO).1 (unhide HO).2.1
        have KOH := hide KO
        have mO : ∀ V, Below w.heap.size w V → V.cell? ⟨g, opA L A, none⟩ = some (.bool (onB F (opA L A))) := fun V hV => unhide HM V hV _ (unhide HO).2.2.1
        have hoN : ((opA L A : Nat) : Int) < (N : Int) := by have := (unhide HO).2.2.1; omega
        have HR1 : Hid (R = if onB F (opA L A) = true then [B] else []) := by
          obtain ⟨v0, v2, v3, _, _, _, _, _, _, _, hR, _, _⟩ := unhide HU
          unfold Hid; rw [hR, (unhide HO).2.2.2, v3]; rw [k6] at v0; simp [lkA, om, ← v0]
        have HMO := hide mO
        subst k6
        clear KO mO om
        generalize opA L A = oA at *
        go_enter Try.func56, Try.ntmps56
        go_wp2_with fail
        refine KG.mono ?_
        rintro e z1 ⟨rfl, b1⟩
        have b2 := b1.alloc b1.size (.cells #[.int .u8 6, .int .i64 nn, .int .i64 (A : Int), .int .i64 (B : Int)] 40)
        have y1 := unhide HK _ b2
        have y2 := unhide HM _ b2 m (by have := unhide HU; omega)
        rw [unhide OM] at y2
        clear KG
        go_upto_region 8 with fail
        obtain ⟨W, hW⟩ : ∃ W, W = z1.alloc (.cells #[.int .u8 6, .int .i64 nn, .int .i64 (A : Int), .int .i64 (B : Int)] 40) := ⟨_, rfl⟩
        have t2 : TAt W z1.heap.size 0 ⟨6, nn, A, B⟩ := by rw [hW]; exact tat_new z1 ⟨6, nn, A, B⟩ _
        rw [← hW] at b2 y1 ⊢
        generalize z1.heap.size = hx at t2 ⊢
        have bW : Below w.heap.size w W.drew := b2.drew
        have bWW : Below W.heap.size W W.drew := (Below.refl _ _).drew
        have sof : Hid (∀ V, Below W.heap.size W V → (V.cell? ⟨hx, 0, none⟩ = some (.int .u8 6) ∧ V.cell? ⟨hx, 1, none⟩ = some (.int .i64 nn) ∧ V.cell? ⟨hx, 2, none⟩ = some (.int .i64 (A : Int)) ∧ V.cell? ⟨hx, 3, none⟩ = some (.int .i64 (B : Int)) ∧ V.cell? ⟨kb, 1, none⟩ = some (.slice (some ⟨g, 0, none⟩) N capF) ∧ V.cell? ⟨g, oA, none⟩ = some (.bool (onB F oA)))) := fun V hV => by
          have t3 := t2.keep (hV.block hx t2.lt)
          unfold TAt at t3
          simp only [Nat.zero_add] at t3
          exact ⟨t3.1, t3.2.1, t3.2.2.1, t3.2.2.2, unhide HK _ (bw_tr b2 hV), unhide HMO _ (bw_tr b2 hV)⟩
        have S0 := unhide sof _ bWW
        clear hW y2 mm b1 z1 y1
        cases oo : onB F oA
        · rw [oo] at sof HR1 S0
          have HR0 : Hid (R = []) := by have := unhide HR1; unfold Hid; simpa using this
          clear oo
          go_region_held3 (fun V : World => V.cell? ⟨hx, 0, none⟩ = some (.int .u8 6) ∧ V.cell? ⟨hx, 1, none⟩ = some (.int .i64 nn) ∧ V.cell? ⟨hx, 2, none⟩ = some (.int .i64 (A : Int)) ∧ V.cell? ⟨hx, 3, none⟩ = some (.int .i64 (B : Int)) ∧ V.cell? ⟨kb, 1, none⟩ = some (.slice (some ⟨g, 0, none⟩) N capF) ∧ V.cell? ⟨g, oA, none⟩ = some (.bool false)) (first | with_reducible exact S0 | with_reducible exact S1) (first
            | (go_at_call 55; refine (unhide KOH _ bW).mono ?_; rintro e z2 ⟨rfl, b3⟩; have S1 := unhide sof _ (bw_tr bWW b3)))
          all_goals
            have HN := unhide HE0 _ (bw_tr bW b3) (unhide HR0)
            go_wp2_with fail
            go_ret
            exact ⟨_, rfl, HN⟩
        · rw [oo] at sof HR1 S0
          have HR0 : Hid (R = [B]) := by have := unhide HR1; unfold Hid; simpa using this
          clear oo
          go_region_held3 (fun V : World => V.cell? ⟨hx, 0, none⟩ = some (.int .u8 6) ∧ V.cell? ⟨hx, 1, none⟩ = some (.int .i64 nn) ∧ V.cell? ⟨hx, 2, none⟩ = some (.int .i64 (A : Int)) ∧ V.cell? ⟨hx, 3, none⟩ = some (.int .i64 (B : Int)) ∧ V.cell? ⟨kb, 1, none⟩ = some (.slice (some ⟨g, 0, none⟩) N capF) ∧ V.cell? ⟨g, oA, none⟩ = some (.bool true)) (first | with_reducible exact S0 | with_reducible exact S1) (first
            | (go_at_call 55; refine (unhide KOH _ bW).mono ?_; rintro e z2 ⟨rfl, b3⟩; have S1 := unhide sof _ (bw_tr bWW b3)))
          all_goals
            have b5 := bw_tr bW b3
            obtain ⟨s0, s1, s2, s3, s4, s5⟩ := S1
            go_wp2_with (at_builtin; refine wpList_append_own_at _ rfl (.tmp 72) (.tmp 75) 37 rfl 0 3 j0 (.int .i64 0) 1 8 Try.underlying37 hj hy0 hy1 hyb rfl (by decide) _ q _ rfl (unhide HW _ _ b5) ⟨_, 0, none⟩ 1 1 [.int .i64 (B : Int)] rfl rfl (cell_one_new _ _ _) (one_int _) (unhide HX).1 (unhide HX).2.1 (Nat.zero_le _) ?nx)
            case nx =>
              intro v' w3 hown' hgrow _ hat
              have HN := unhide HE _ w3 _ v' [B] b5 hown' hgrow (by simpa using hat) (unhide HR0)
              clear hown' hgrow hat
              go_wp2_with fail
              go_ret
              exact ⟨_, rfl, HN⟩
      · have k6b : (kd == 6) = false := by simp [k6]
        have k6c : decide (kd = 6) = false := by simp [k6]
        have HR0 : Hid (R = []) := by
          obtain ⟨v0, v2, v3, _, _, _, _, _, _, _, hR, _, _⟩ := unhide HU
          unfold Hid; rw [hR]; rw [v0] at k3 k6; simp [lkA, om, k3, k6]
        clear om
        go_enter Try.func56, Try.ntmps56
        go_wp2_with fail
        refine KG.mono ?_
        rintro e z1 ⟨rfl, b1⟩
        have b2 := b1.alloc b1.size (.cells #[.int .u8 kd, .int .i64 nn, .int .i64 (A : Int), .int .i64 (B : Int)] 40)
        have y1 := unhide HK _ b2
        have y2 := unhide HM _ b2 m (by have := unhide HU; omega)
        rw [unhide OM] at y2
        clear KG
        go_wp2_with fail
        go_quiet (fail)
        have HN := fun n => unhide HE0 _ (below_drewN b2 n) (unhide HR0)
        go_wp2_with fail
        go_ret
        exact ⟨_, rfl, HN _⟩

end Go.Proofs.Ytkaioidneknmjaa.Tn
