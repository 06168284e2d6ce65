/- Texts joined: NDdD NDdE NDdF AcK. -/
import Derived.Test.YtokdflbajnecpaaZ12
import Derived.Test.YtokdflbajnecpaaZ08
/- The contract of lookAt of package deduce. -/
namespace Go.Proofs.Ytokdflbajnecpaa.Tn
open Go.RowKit Go.Maps
structure Nw (W W' : World) (v v' : Value) (l : List Nat) : Prop where
  row : NRow 0 W' v' l
  fr : Fr v.ownBlock.toList W W'
  pl : ∀ k, v'.ownBlock = some k → v.ownBlock = some k ∨ W.heap.size ≤ k
theorem Nw.same {W W' : World} {v : Value} {l : List Nat} (h : NRow 0 W v l) (hb : Below W.heap.size W W') : Nw W W' v v l :=
  ⟨h.keep (fun k hk => hb.block k (h.lt k hk).2), (Fr.ofBelow hb).mono (fun _ _ c => by cases c), fun _ hk => Or.inl hk⟩
theorem Nw.grown {W W1 W2 : World} {v v' : Value} {l : List Nat} {x : List Nat} {ob : Obj} (_h : NRow 0 W v l) (hb : Below W.heap.size W W1) (hown : W2.ownsRow 0 3 1 v' (l.length + x.length) (l.map (fun m => .int .i64 ((m : Nat) : Int)) ++ x.map (fun m => .int .i64 ((m : Nat) : Int)))) (hg : (W1.alloc ob).grownBy W2 v.ownBlock) (hat : v'.ownBlock = v.ownBlock ∨ v'.ownBlock = some (W1.heap.size + 1)) : Nw W W2 v v' (l ++ x) := by
  refine ⟨by unfold NRow; rw [List.length_append, List.map_append]; exact hown, ?_, fun k hk => ?_⟩
  · exact ((Fr.ofBelow hb).alloc ob).trans (Fr.ofGrown hg) (fun _ _ c => by cases c) (fun _ _ c => c)
  · rcases hat with c | c
    · left; rw [← c]; exact hk
    · right; rw [c] at hk; simp at hk; have := hb.size; omega
theorem one_two (x y : Int) : ∀ u ∈ [Value.int .i64 x, .int .i64 y], u.oneCell' = true := by
  intro u hu; simp at hu; rcases hu with rfl | rfl <;> rfl
theorem cells_new2b (w : World) (n : Nat) (hn : n = w.heap.size) (x0 x1 : Value) (t : TypeId) : ∀ j u, [x0, x1][j]? = some u → (w.alloc (.cells #[x0, x1] t)).cell? ((⟨n, 0, none⟩ : Addr).add j) = some u := by
  subst hn; exact cells_new2 w x0 x1 t
set_option maxRecDepth 100000 in
set_option maxHeartbeats 8000000 in
theorem lookAt_any (kb : Nat) (fv tv lv : Value) (b : Nat) (F : List Bool) (fs : List Nat) (ls : List (Nat × Nat)) (sv : Value) (mb : Nat) (L : List Tm) (m : Nat) (a : Option Addr) (cap : Nat) (l : List Nat) (w : World) (h : Kn w kb fv tv lv b F fs ls) (hS : St w b sv mb L) (hF : F.length ≤ L.length + 1) (h1 : 1 ≤ m) (h2 : m < F.length) (h0 : On F 0) (hr : NRow 0 w (.slice a l.length cap) l) (hl : l.length + 2 ≤ 17000000000000) :
    Calls Try.prog 71 #[.pointer (some ⟨kb, 0, none⟩), .int .i64 (m : Int), .slice a l.length cap] w fun e w' => ∃ v', e = .returned v' ∧ Nw w w' (.slice a l.length cap) v' (l ++ lkA L F m) := by
  obtain ⟨j0, hj, hy0, hy1, hyb⟩ := info_parts Try.infoInt
  have hG := hS.good
  have hL := hS.len
  have hmL : m ≤ L.length := by omega
  have KG := get_nat b sv mb L m w hS h1 hmL
  obtain ⟨d0, d1, _, _, _⟩ := h.cells
  obtain ⟨g, capF, hfv, hg, hmk, _⟩ := h.marks (by omega)
  have hk := lt_of_blk h.blk
  obtain ⟨hp1, hp2⟩ := hG.parts h1 hmL
  obtain ⟨kd, u0⟩ : ∃ x, x = kdOf L m := ⟨_, rfl⟩
  obtain ⟨nn, u1⟩ : ∃ x, x = (tmAt L m).n := ⟨_, rfl⟩
  obtain ⟨A, u2⟩ : ∃ x, x = pA L m := ⟨_, rfl⟩
  obtain ⟨B, u3⟩ : ∃ x, x = pB L m := ⟨_, rfl⟩
  rw [← u0, ← u1, ← u2, ← u3] at KG
  obtain ⟨N, hN⟩ : ∃ N, N = F.length := ⟨_, rfl⟩
  obtain ⟨q, hq⟩ : ∃ q, q = l.length := ⟨_, rfl⟩
  obtain ⟨R, hR⟩ : ∃ R, R = lkA L F m := ⟨_, rfl⟩
  rw [← hR]
  rw [hfv, ← hN] at d1
  have mF : ∀ V, Below w.heap.size w V → ∀ x, x < N → V.cell? ⟨g, x, none⟩ = some (.bool (onB F x)) := fun V hV x hx => by
    rw [World.cell?_of_block (w := w) (hV.block _ hg)]; exact hmk x (by omega)
  have cK : ∀ V, Below w.heap.size w V → V.cell? ⟨kb, 1, none⟩ = some (.slice (some ⟨g, 0, none⟩) N capF) := fun V hV => by
    rw [World.cell?_of_block (w := w) (hV.block _ hk)]; exact d1
  have cM : ∀ V, Below w.heap.size w V → _ := fun V hV => canMake_any kb fv tv lv b F fs ls kd nn A B V (h.bw hV) (by omega) (by omega) (by omega)
  have hmN : (m : Int) < (N : Int) := by omega
  have hNb : (N : Int) ≤ 1048577 := by omega
  have hqb : (q : Int) ≤ 17000000000000 := by omega
  have HU := hide (And.intro u0 (And.intro u2 (And.intro u3 (And.intro hp1 (And.intro hp2 (And.intro h1 (And.intro hmL (And.intro hN (And.intro hG (And.intro hL (And.intro hR (And.intro hq h2))))))))))))
  have HM := hide mF
  have HK := hide cK
  have HC := hide cM
  have HS := hide (And.intro h (And.intro hS (And.intro h0 (And.intro hr hl))))
  have mm := mF w (Below.refl _ _) m (by omega)
  rw [← hq]
  have hrw : ∀ V ob, Below w.heap.size w V → (V.alloc ob).ownsRow 0 3 1 (.slice a q cap) q (l.map (fun m => .int .i64 ((m : Nat) : Int))) := fun V ob hV => by
    have := (Nw.same hr hV).row
    unfold NRow at this
    rw [← hq] at this
    exact World.ownsRow.alloc this ob
  have HW := hide hrw
  have hx1 : q + 1 ≤ maxLen := by unfold maxLen; omega
  have hx2 : (q + 1) * 8 ≤ 140737488355328 := by omega
  have hx3 : q + 2 ≤ maxLen := by unfold maxLen; omega
  have hx4 : (q + 2) * 8 ≤ 140737488355328 := by omega
  have HX := hide (And.intro hx1 (And.intro hx2 (And.intro hx3 hx4)))
  have end1 : ∀ (V W2 : World) (ob : Obj) (v' : Value) (xs : List Nat), Below w.heap.size w V → W2.ownsRow 0 3 1 v' (q + xs.length) (l.map (fun m => .int .i64 ((m : Nat) : Int)) ++ xs.map (fun m => .int .i64 ((m : Nat) : Int))) → (V.alloc ob).grownBy W2 (Value.slice a q cap).ownBlock → (v'.ownBlock = (Value.slice a q cap).ownBlock ∨ v'.ownBlock = some (V.heap.size + 1)) → R = xs → Nw w W2 (.slice a q cap) v' (l ++ R) := fun V W2 ob v' xs hV h1 h2 h3 e => by
    rw [e]; rw [hq] at h1 h2 h3 ⊢; exact Nw.grown hr hV h1 h2 h3
  have HE := hide end1
  have end0 : ∀ V, Below w.heap.size w V → R = [] → Nw w V (.slice a q cap) (.slice a q cap) (l ++ R) := fun V hV e => by
    rw [e, List.append_nil, hq]; exact Nw.same hr hV
  have HE0 := hide end0
  clear h hS hF h1 h2 h0 hr hl hG hL hmL hp1 hp2 hN hq hR u0 u1 u2 u3 hfv hmk mF cK cM hrw hx1 hx2 hx3 hx4 end1 end0
  cases om : onB F m
  · rw [om] at mm
    have OM := hide om
    cases ocm : (!decide (kd = 1) && onB F A && onB F B)
    · rw [ocm] at HC
      have HR0 : Hid (R = []) := by
        obtain ⟨v0, v2, v3, _, _, _, _, _, _, _, hR, _, _⟩ := unhide HU
        have : cmk L F m = false := by unfold cmk; rw [← v0, ← v2, ← v3]; exact ocm
        unfold Hid; rw [hR]; simp [lkA, om, this]
      clear ocm om
      go_enter Try.func71, Try.ntmps71
      go_wp2_with fail
      refine KG.mono ?_
      rintro e z1 ⟨rfl, b1⟩
      have b2 := b1.alloc b1.size (.cells #[.int .u8 kd, .int .i64 nn, .int .i64 (A : Int), .int .i64 (B : Int)] 55)
      have y1 := unhide HK _ b2
      have y2 := unhide HM _ b2 m (by have := unhide HU; omega)
      rw [unhide OM] at y2
      clear KG
      have KC := unhide HC _ b2
      go_wp2_with fail
      refine KC.mono ?_
      rintro e z2 ⟨rfl, b3⟩
      have b4 := bw_tr b2 b3
      have y3 := unhide HK _ b4
      have y4 := unhide HM _ b4 m (by have := unhide HU; omega)
      rw [unhide OM] at y4
      have HN := unhide HE0 _ b4 (unhide HR0)
      clear KC y1 y2
      go_wp2_with fail
      go_ret
      exact ⟨_, rfl, HN⟩
    · rw [ocm] at HC
      have HR0 : Hid (R = [m]) := by
        obtain ⟨v0, v2, v3, _, _, _, _, _, _, _, hR, _, _⟩ := unhide HU
        have : cmk L F m = true := by unfold cmk; rw [← v0, ← v2, ← v3]; exact ocm
        unfold Hid; rw [hR]; simp [lkA, om, this]
      clear ocm om
      go_enter Try.func71, Try.ntmps71
      go_wp2_with fail
      refine KG.mono ?_
      rintro e z1 ⟨rfl, b1⟩
      have b2 := b1.alloc b1.size (.cells #[.int .u8 kd, .int .i64 nn, .int .i64 (A : Int), .int .i64 (B : Int)] 55)
      have y1 := unhide HK _ b2
      have y2 := unhide HM _ b2 m (by have := unhide HU; omega)
      rw [unhide OM] at y2
      clear KG
      have KC := unhide HC _ b2
      go_wp2_with fail
      refine KC.mono ?_
      rintro e z2 ⟨rfl, b3⟩
      have b4 := bw_tr b2 b3
      clear KC y1 y2
      go_wp2_with (at_builtin; refine wpList_append_own_at _ rfl (.tmp 32) (.tmp 34) 24 rfl 0 3 j0 (.int .i64 0) 1 8 Try.underlying24 hj hy0 hy1 hyb rfl (by decide) _ q _ rfl (unhide HW _ _ b4) ⟨_, 0, none⟩ 1 1 [.int .i64 (m : Int)] rfl rfl (cell_one_new _ _ _) (one_int _) (unhide HX).1 (unhide HX).2.1 (Nat.zero_le _) ?nx)
      case nx =>
        intro v' w3 hown' hgrow _ hat
        have HN := unhide HE _ w3 _ v' [m] b4 hown' hgrow (by simpa using hat) (unhide HR0)
        clear hown' hgrow hat
        go_wp2_with fail
        go_ret
        exact ⟨_, rfl, HN⟩
  · rw [om] at mm
    have OM := hide om
    by_cases k3 : kd = 3
    · have HR0 : Hid (R = [A, B]) := by
        obtain ⟨v0, v2, v3, _, _, _, _, _, _, _, hR, _, _⟩ := unhide HU
        unfold Hid; rw [hR, v2, v3]; rw [k3] at v0; simp [lkA, om, ← v0]
      clear om
      subst k3
      go_enter Try.func71, Try.ntmps71
      go_wp2_with fail
      refine KG.mono ?_
      rintro e z1 ⟨rfl, b1⟩
      have b2 := b1.alloc b1.size (.cells #[.int .u8 3, .int .i64 nn, .int .i64 (A : Int), .int .i64 (B : Int)] 55)
      have y1 := unhide HK _ b2
      have y2 := unhide HM _ b2 m (by have := unhide HU; omega)
      rw [unhide OM] at y2
      clear KG
      go_wp2_with (at_builtin; refine wpList_append_own_at _ rfl (.tmp 50) (.tmp 55) 24 rfl 0 3 j0 (.int .i64 0) 1 8 Try.underlying24 hj hy0 hy1 hyb rfl (by decide) _ q _ rfl (unhide HW _ _ b2) ⟨_, 0, none⟩ 2 2 [.int .i64 (A : Int), .int .i64 (B : Int)] rfl rfl (cells_new2b _ _ (by simp) _ _ _) (one_two _ _) (unhide HX).2.2.1 (unhide HX).2.2.2 (Nat.zero_le _) ?nx)
      case nx =>
        intro v' w3 hown' hgrow _ hat
        have HN := unhide HE _ w3 _ v' [A, B] b2 hown' hgrow (by simpa using hat) (unhide HR0)
        clear hown' hgrow hat
        go_wp2_with fail
        go_ret
        exact ⟨_, rfl, HN⟩
    · have k3b : (kd == 3) = false := by simp [k3]
      have k3c : decide (kd = 3) = false := by simp [k3]
      by_cases k6 : kd = 6
      · have HO : Hid (1 ≤ A ∧ A ≤ L.length ∧ opA L A < N ∧ opA L A = opn L m) := by
          obtain ⟨v0, v2, v3, hp1, hp2, hm1, hc, hN, hG, hL, _, _, h2⟩ := unhide HU
          have k6' : kdOf L m = 6 := by rw [← v0]; exact k6
          have q1 := hG.pos2 hm1 hc (Or.inr k6')
          have q2 := hG.opn hm1 hc k6'
          have eo : opA L A = opn L m := by rw [v2]; rfl
          refine ⟨by omega, by omega, ?_, eo⟩
          rw [eo]; omega
        have KO : ∀ V, Below w.heap.size w V → _ := fun V hV => opener_any kb b sv mb L kd nn A (B : Int) V ((unhide HS).2.1.bw hV) (by rw [World.cell?_of_block (w := w) (hV.block _ hk)]; exact d0) (unhide HO).1 (unhide HO).2.1
        have KOH := hide KO
        have mO : ∀ V, Below w.heap.size w V → V.cell? ⟨g, opA L A, none⟩ = some (.bool (onB F (opA L A))) := fun V hV => unhide HM V hV _ (unhide HO).2.2.1
        have hoN : ((opA L A : Nat) : Int) < (N : Int) := by have := (unhide HO).2.2.1; omega
        have HR1 : Hid (R = if onB F (opA L A) = true then [B] else []) := by
          obtain ⟨v0, v2, v3, _, _, _, _, _, _, _, hR, _, _⟩ := unhide HU
          unfold Hid; rw [hR, (unhide HO).2.2.2, v3]; rw [k6] at v0; simp [lkA, om, ← v0]
        have HMO := hide mO
        subst k6
        clear KO mO om
        generalize opA L A = oA at *
        go_enter Try.func71, Try.ntmps71
        go_wp2_with fail
        refine KG.mono ?_
        rintro e z1 ⟨rfl, b1⟩
        have b2 := b1.alloc b1.size (.cells #[.int .u8 6, .int .i64 nn, .int .i64 (A : Int), .int .i64 (B : Int)] 55)
        have y1 := unhide HK _ b2
        have y2 := unhide HM _ b2 m (by have := unhide HU; omega)
        rw [unhide OM] at y2
        clear KG
        go_upto_region 8 with fail
        obtain ⟨W, hW⟩ : ∃ W, W = z1.alloc (.cells #[.int .u8 6, .int .i64 nn, .int .i64 (A : Int), .int .i64 (B : Int)] 55) := ⟨_, rfl⟩
        have t2 : TAt W z1.heap.size 0 ⟨6, nn, A, B⟩ := by rw [hW]; exact tat_new z1 ⟨6, nn, A, B⟩ _
        rw [← hW] at b2 y1 ⊢
        generalize z1.heap.size = hx at t2 ⊢
        have bW : Below w.heap.size w W.drew := b2.drew
        have bWW : Below W.heap.size W W.drew := (Below.refl _ _).drew
        have sof : Hid (∀ V, Below W.heap.size W V → (V.cell? ⟨hx, 0, none⟩ = some (.int .u8 6) ∧ V.cell? ⟨hx, 1, none⟩ = some (.int .i64 nn) ∧ V.cell? ⟨hx, 2, none⟩ = some (.int .i64 (A : Int)) ∧ V.cell? ⟨hx, 3, none⟩ = some (.int .i64 (B : Int)) ∧ V.cell? ⟨kb, 1, none⟩ = some (.slice (some ⟨g, 0, none⟩) N capF) ∧ V.cell? ⟨g, oA, none⟩ = some (.bool (onB F oA)))) := fun V hV => by
          have t3 := t2.keep (hV.block hx t2.lt)
          unfold TAt at t3
          simp only [Nat.zero_add] at t3
          exact ⟨t3.1, t3.2.1, t3.2.2.1, t3.2.2.2, unhide HK _ (bw_tr b2 hV), unhide HMO _ (bw_tr b2 hV)⟩
        have S0 := unhide sof _ bWW
        clear hW y2 mm b1 z1 y1
        cases oo : onB F oA
        · rw [oo] at sof HR1 S0
          have HR0 : Hid (R = []) := by have := unhide HR1; unfold Hid; simpa using this
          clear oo
          go_region_held3 (fun V : World => V.cell? ⟨hx, 0, none⟩ = some (.int .u8 6) ∧ V.cell? ⟨hx, 1, none⟩ = some (.int .i64 nn) ∧ V.cell? ⟨hx, 2, none⟩ = some (.int .i64 (A : Int)) ∧ V.cell? ⟨hx, 3, none⟩ = some (.int .i64 (B : Int)) ∧ V.cell? ⟨kb, 1, none⟩ = some (.slice (some ⟨g, 0, none⟩) N capF) ∧ V.cell? ⟨g, oA, none⟩ = some (.bool false)) (first | with_reducible exact S0 | with_reducible exact S1) (first
            | (go_at_call 70; refine (unhide KOH _ bW).mono ?_; rintro e z2 ⟨rfl, b3⟩; have S1 := unhide sof _ (bw_tr bWW b3)))
          all_goals
            have HN := unhide HE0 _ (bw_tr bW b3) (unhide HR0)
            go_wp2_with fail
            go_ret
            exact ⟨_, rfl, HN⟩
        · rw [oo] at sof HR1 S0
          have HR0 : Hid (R = [B]) := by have := unhide HR1; unfold Hid; simpa using this
          clear oo
          go_region_held3 (fun V : World => V.cell? ⟨hx, 0, none⟩ = some (.int .u8 6) ∧ V.cell? ⟨hx, 1, none⟩ = some (.int .i64 nn) ∧ V.cell? ⟨hx, 2, none⟩ = some (.int .i64 (A : Int)) ∧ V.cell? ⟨hx, 3, none⟩ = some (.int .i64 (B : Int)) ∧ V.cell? ⟨kb, 1, none⟩ = some (.slice (some ⟨g, 0, none⟩) N capF) ∧ V.cell? ⟨g, oA, none⟩ = some (.bool true)) (first | with_reducible exact S0 | with_reducible exact S1) (first
            | (go_at_call 70; refine (unhide KOH _ bW).mono ?_; rintro e z2 ⟨rfl, b3⟩; have S1 := unhide sof _ (bw_tr bWW b3)))
          all_goals
            have b5 := bw_tr bW b3
            obtain ⟨s0, s1, s2, s3, s4, s5⟩ := S1
            go_wp2_with (at_builtin; refine wpList_append_own_at _ rfl (.tmp 72) (.tmp 75) 24 rfl 0 3 j0 (.int .i64 0) 1 8 Try.underlying24 hj hy0 hy1 hyb rfl (by decide) _ q _ rfl (unhide HW _ _ b5) ⟨_, 0, none⟩ 1 1 [.int .i64 (B : Int)] rfl rfl (cell_one_new _ _ _) (one_int _) (unhide HX).1 (unhide HX).2.1 (Nat.zero_le _) ?nx)
            case nx =>
              intro v' w3 hown' hgrow _ hat
              have HN := unhide HE _ w3 _ v' [B] b5 hown' hgrow (by simpa using hat) (unhide HR0)
              clear hown' hgrow hat
              go_wp2_with fail
              go_ret
              exact ⟨_, rfl, HN⟩
      · have k6b : (kd == 6) = false := by simp [k6]
        have k6c : decide (kd = 6) = false := by simp [k6]
        have HR0 : Hid (R = []) := by
          obtain ⟨v0, v2, v3, _, _, _, _, _, _, _, hR, _, _⟩ := unhide HU
          unfold Hid; rw [hR]; rw [v0] at k3 k6; simp [lkA, om, k3, k6]
        clear om
        go_enter Try.func71, Try.ntmps71
        go_wp2_with fail
        refine KG.mono ?_
        rintro e z1 ⟨rfl, b1⟩
        have b2 := b1.alloc b1.size (.cells #[.int .u8 kd, .int .i64 nn, .int .i64 (A : Int), .int .i64 (B : Int)] 55)
        have y1 := unhide HK _ b2
        have y2 := unhide HM _ b2 m (by have := unhide HU; omega)
        rw [unhide OM] at y2
        clear KG
        go_wp2_with fail
        go_quiet (fail)
        have HN := fun n => unhide HE0 _ (below_drewN b2 n) (unhide HR0)
        go_wp2_with fail
        go_ret
        exact ⟨_, rfl, HN _⟩
end Go.Proofs.Ytokdflbajnecpaa.Tn

/- The contract of learn of package deduce. -/
namespace Go.Proofs.Ytokdflbajnecpaa.Tn
open Go.RowKit Go.Maps
def nfW (w : World) (kb : Nat) : Nat :=
  match w.cell? ⟨kb, 1, none⟩ with
  | some (.slice (some a) n _) => (List.range n).countP (fun i => match w.cell? ⟨a.block, i, none⟩ with | some (.bool x) => !x | _ => false)
  | _ => 0
theorem nf_range (F : List Bool) : nf F = (List.range F.length).countP (fun i => !onB F i) := by
  have e : F = (List.range F.length).map (onB F) := by
    apply List.ext_getElem
    · simp
    · intro i h1 h2; simp [onB, List.getD, List.getElem?_eq_getElem h1]
  unfold nf
  conv => lhs; rw [e]
  rw [List.countP_map]
  rfl
theorem Kn.nf {w : World} {kb : Nat} {fv tv lv : Value} {b : Nat} {F : List Bool} {fs : List Nat} {ls : List (Nat × Nat)} (h : Kn w kb fv tv lv b F fs ls) (h0 : 0 < F.length) : nfW w kb = nf F := by
  obtain ⟨g, cap, hfv, hg, hm, _⟩ := h.marks h0
  have c1 := h.cells.2.1
  rw [hfv] at c1
  unfold nfW
  rw [c1, nf_range]
  simp only
  refine List.countP_congr fun i hi => ?_
  rw [hm i (by simpa using hi)]
theorem Sm.weakT {L : List Tm} {K : Nat → Prop} {F : List Bool} {l : List Nat} {T T' : Nat → Prop} (h : Sm L K F l T) (hT : ∀ x, T x → T' x) : Sm L K F l T' :=
  ⟨h.sound, h.psound, h.krng, h.known, fun m a b c d => h.make m a b (fun q => c (hT m q)) d, fun m a b c d => h.pair m a b (fun q => c (hT m q)) d, fun m a b c d e => h.opens m a b (fun q => c (hT m q)) d e⟩
structure Le (w W : World) (kb b : Nat) (sv : Value) (mb : Nat) (L : List Tm) (fv tv lv v0 v : Value) (l : List Nat) (F : List Bool) (fs : List Nat) (ls : List (Nat × Nat)) : Prop where
  kn : Kn W kb fv tv lv b F fs ls
  st : St W b sv mb L
  row : NRow 0 W v l
  fr : Fr (kfoot kb fv tv lv ++ v0.ownBlock.toList) w W
  pl : ∀ k, v.ownBlock = some k → v0.ownBlock = some k ∨ w.heap.size ≤ k
  sep : ∀ k, v.ownBlock = some k → k ∉ kfoot kb fv tv lv ∧ k ∉ foot b sv mb
  dis : ∀ x ∈ kfoot kb fv tv lv, x ∉ foot b sv mb
theorem Le.look {w W W' : World} {kb b : Nat} {sv : Value} {mb : Nat} {L : List Tm} {fv tv lv v0 v v' : Value} {l l' : List Nat} {F : List Bool} {fs : List Nat} {ls : List (Nat × Nat)} (h : Le w W kb b sv mb L fv tv lv v0 v l F fs ls) (k : Nw W W' v v' l') : Le w W' kb b sv mb L fv tv lv v0 v' l' F fs ls := by
  refine ⟨h.kn.keep k.fr (fun x hx c => (h.sep x (by simpa using c)).1 hx), h.st.keep k.fr (fun x hx c => (h.sep x (by simpa using c)).2 hx), k.row, ?_, fun x hx => ?_, fun x hx => ?_, h.dis⟩
  · refine h.fr.trans k.fr (fun _ _ c => c) (fun x hx c => ?_)
    rcases h.pl x (by simpa using c) with q | q
    · exact List.mem_append_right _ (by simpa using q)
    · omega
  · rcases k.pl x hx with q | q
    · exact h.pl x q
    · exact Or.inr (Nat.le_trans h.fr.size q)
  · rcases k.pl x hx with q | q
    · exact h.sep x q
    · exact ⟨fun c => by have := h.kn.lt x c; omega, fun c => by have := h.st.lt x c; omega⟩
theorem Le.mark {w W : World} {kb b : Nat} {sv : Value} {mb : Nat} {L : List Tm} {g n cap : Nat} {tv lv v0 v : Value} {l : List Nat} {F : List Bool} {fs : List Nat} {ls : List (Nat × Nat)} (h : Le w W kb b sv mb L (.slice (some ⟨g, 0, none⟩) n cap) tv lv v0 v l F fs ls) (m : Nat) (x : Bool) :
    Le w (W.setCell ⟨g, m, none⟩ (.bool x)) kb b sv mb L (.slice (some ⟨g, 0, none⟩) n cap) tv lv v0 v l (F.set m x) fs ls := by
  obtain ⟨k1, k2⟩ := h.kn.setF m x
  have hz : g ∈ kfoot kb (.slice (some ⟨g, 0, none⟩) n cap) tv lv := mem_kfoot.2 (Or.inr (Or.inl rfl))
  refine ⟨k1, h.st.keep k2.fr (fun x hx c => h.dis x c hx), h.row.keep (fun k hk => k2.fr.block k (h.row.lt k hk).2 (fun c => (h.sep k hk).1 c)), ?_, h.pl, h.sep, h.dis⟩
  exact h.fr.trans k2.fr (fun _ _ c => c) (fun x _ c => List.mem_append_left _ c)
theorem Le.row_to {w W : World} {kb b : Nat} {sv : Value} {mb : Nat} {L : List Tm} {fv tv lv v0 v v' : Value} {l l' : List Nat} {F : List Bool} {fs : List Nat} {ls : List (Nat × Nat)} (h : Le w W kb b sv mb L fv tv lv v0 v l F fs ls) (hr : NRow 0 W v' l') (hv : v'.ownBlock = v.ownBlock) : Le w W kb b sv mb L fv tv lv v0 v' l' F fs ls :=
  ⟨h.kn, h.st, hr, h.fr, by rw [hv]; exact h.pl, by rw [hv]; exact h.sep, h.dis⟩
theorem meas_mark {M q x a b : Nat} (h : b = a + 1) (hx : x ≤ q + 2 + 2 * M) : x + (2 * M + 3) * a < q + 1 + (2 * M + 3) * b := by
  subst h
  rw [Nat.mul_succ]
  generalize (2 * M + 3) * a = Z
  omega
set_option maxRecDepth 100000 in
set_option maxHeartbeats 8000000 in
theorem learn_any (kb : Nat) (fv tv lv : Value) (b : Nat) (F : List Bool) (fs : List Nat) (ls : List (Nat × Nat)) (sv : Value) (mb : Nat) (L : List Tm) (K : Nat → Prop) (v : Value) (l : List Nat) (w : World) (h : Kn w kb fv tv lv b F fs ls) (hS : St w b sv mb L) (hd : ∀ x ∈ kfoot kb fv tv lv, x ∉ foot b sv mb)
    (hl : Lk L F fs ls none2 0) (hr : NRow 0 w v l) (hsep : ∀ k, v.ownBlock = some k → k ∉ kfoot kb fv tv lv ∧ k ∉ foot b sv mb) (hs : Sm L K F l none1) (hb : l.length + (2 * ls.length + 3) * nf F ≤ 16000000000000) :
    Calls Try.prog 57 #[.pointer (some ⟨kb, 0, none⟩), v] w fun e w' => e = .returned (.tuple #[]) ∧ ∃ F' v' l', Le w w' kb b sv mb L fv tv lv v v' l' F' fs ls ∧ Lk L F' fs ls none2 0 ∧ Sm L K F' [] none1 ∧ F'.length = F.length := by
  have hG := hS.good
  have hL := hS.len
  have h0 : Le w w kb b sv mb L fv tv lv v v l F fs ls := ⟨h, hS, hr, Fr.refl _ _, fun _ hk => Or.inl hk, hsep, hd⟩
  obtain ⟨M, hM⟩ : ∃ M, M = ls.length := ⟨_, rfl⟩
  rw [← hM] at hb
  have HI : Hid (∃ l' F', Le w w kb b sv mb L fv tv lv v v l' F' fs ls ∧ Lk L F' fs ls none2 0 ∧ Sm L K F' l' none1 ∧ F'.length = F.length ∧ l'.length + (2 * M + 3) * nf F' ≤ 16000000000000) := ⟨l, F, h0, hl, hs, rfl, hb⟩
  have HN := hide (And.intro hM (And.intro hG hL))
  have hfs := hl.lenf
  obtain ⟨g, capF, hfv, _, _, _⟩ := h.marks hl.zero.lt
  obtain ⟨g2, capT, htv, _, _, _⟩ := h.firsts (by have := hl.zero.lt; omega)
  obtain ⟨g3, capL, hlv, _, _⟩ := h.lnks hl.lpos
  obtain ⟨N, hNF⟩ : ∃ N, N = F.length := ⟨_, rfl⟩
  rw [← hNF] at hfv
  rw [hfs, ← hNF] at htv
  rw [← hM] at hlv
  have hNb : (N : Int) ≤ 1048577 := by have := hl.lenF; omega
  have hMb : (M : Int) ≤ 3145731 := by have := hl.lenF; have := hl.lenl; omega
  have HNF := hide (And.intro hNF hfs)
  clear h hS hd hl hr hsep hs hb h0 hG hL hM hNF hfs
  subst hfv htv hlv
  go_enter Try.func57, Try.ntmps57
  go_wp2_with fail
  go_loopw [1] (fun vv wr => Hid (∃ l' F', Le w wr kb b sv mb L (.slice (some ⟨g, 0, none⟩) N capF) (.slice (some ⟨g2, 0, none⟩) N capT) (.slice (some ⟨g3, 0, none⟩) M capL) v vv l' F' fs ls ∧ Lk L F' fs ls none2 0 ∧ Sm L K F' l' none1 ∧ F'.length = F.length ∧ l'.length + (2 * M + 3) * nf F' ≤ 16000000000000)) (fun vv wr => lenOf vv + (2 * M + 3) * nfW wr kb)
  case atStart => exact HI
  case round =>
    clear HI
    obtain ⟨l1, F1, e1, k1, s1, n1, b1⟩ := unhide hrel
    obtain ⟨hM, hG, hL⟩ := unhide HN
    rcases List.eq_nil_or_concat l1 with rfl | ⟨s, n, hl1⟩
    · obtain ⟨va, vc, rfl⟩ := own_slice e1.row
      have HE : Hid (∃ F' v' l', Le w wr kb b sv mb L (.slice (some ⟨g, 0, none⟩) N capF) (.slice (some ⟨g2, 0, none⟩) N capT) (.slice (some ⟨g3, 0, none⟩) M capL) v v' l' F' fs ls ∧ Lk L F' fs ls none2 0 ∧ Sm L K F' [] none1 ∧ F'.length = F.length) := ⟨F1, _, _, e1, k1, s1, n1⟩
      clear e1 k1 s1 n1 b1 hrel hM hG hL
      go_wp2_with fail
      go_end0
      exact ⟨rfl, unhide HE⟩
    · obtain rfl : l1 = s ++ [n] := by rw [hl1]; simp
      clear hl1
      obtain ⟨hNF, hfs⟩ := unhide HNF
      obtain ⟨hfn, hnN⟩ := s1.psound n (by simp)
      have hn1 := (hfn.rng hG).1
      have hn2 : n < N := by omega
      obtain ⟨q, hq⟩ : ∃ q, q = s.length := ⟨_, rfl⟩
      obtain ⟨g5, cap5, hv5, hg5, hc5, _⟩ := own_open e1.row (by simp)
      have hlen : (s ++ [n]).length = q + 1 := by rw [hq]; simp
      rw [hlen] at hv5 hc5
      have cq : wr.cell? ⟨g5, q, none⟩ = some (.int .i64 (n : Int)) := e1.row.at (by rw [hv5]; rfl) (by rw [hq]; simp)
      obtain ⟨_, c1, c2, c3, _⟩ := e1.kn.cells
      have cF := e1.kn.rf.cell rfl (m := n) (by omega)
      have cT := nrow_cell e1.kn.rt rfl (m := n) (by omega)
      have fz := own_frozen e1.kn.rf (g := g) rfl n
      have hgl := (World.ownsRow.lt e1.kn.rf g rfl).2
      have hqb : (q : Int) ≤ 16000000000000 := by rw [hlen] at b1; omega
      have hnN' : (n : Int) < (N : Int) := by omega
      have hsl : ∀ W, (Instr.slice 24 (.slice (some ⟨g5, 0, none⟩) (q + 1) cap5) none (some (.int .i64 (q : Int))) none).run Try.prog W = .ok (.slice (some ⟨g5, 0, none⟩) q cap5) W := fun W => slice_upto W g5 (q + 1) cap5 q (by omega) hc5
      subst hv5
      have hpop : NRow 0 wr (.slice (some ⟨g5, 0, none⟩) q cap5) s := by have := e1.row; rw [hq] at this ⊢; exact this.pop
      have e2 := e1.row_to hpop rfl
      have HB := hide (And.intro hM (And.intro hG (And.intro hL (And.intro hNF (And.intro hfs (And.intro hn1 (And.intro hn2 (And.intro hq (And.intro b1 (And.intro hlen (And.intro n1 (And.intro k1 s1))))))))))))
      have HE2 := hide e2
      have hnf := e1.kn.nf k1.zero.lt
      have HNFW := hide hnf
      clear hrel e1 k1 s1 n1 b1 hM hG hL hNF hfs hfn hnN hn1 hn2 hq hlen hpop e2 hnf hc5
      cases on : onB F1 n
      · rw [on] at cF
        have hz := hide on
        have e3 := (unhide HE2).mark n true
        have HL2 : Hid (Lk L (F1.set n true) fs ls none2 0 ∧ Sm L K (F1.set n true) (s ++ lkA L (F1.set n true) n) (fun m => InCh ls (fs.getD n 0) m) ∧ (F1.set n true).length = F.length ∧ nf F1 = nf (F1.set n true) + 1 ∧ fs.getD n 0 < M) := by
          obtain ⟨hM, hG, hL, hNF, hfs, hn1, hn2, hq, b1, hlen, n1, k1, s1⟩ := unhide HB
          have hno : ¬ On F1 n := fun c => by have := onB_iff.2 c; rw [on] at this; cases this
          have k2 := k1.mark (n := n) (by omega)
          refine ⟨k2, ?_, by simpa using n1, nf_set (by omega) hno, ?_⟩
          · exact (s1.mark k1 hno).look hG k2.lenF hn1 (by simp; omega) (fun x hx => hx)
          · rw [hM]; exact k1.fst n _ (by simp [List.getD, List.getElem?_eq_getElem (show n < fs.length by omega)])
        have KA : Calls Try.prog 71 #[.pointer (some ⟨kb, 0, none⟩), .int .i64 (n : Int), .slice (some ⟨g5, 0, none⟩) q cap5] (wr.setCell ⟨g, n, none⟩ (.bool true)) fun e w' => ∃ v', e = .returned v' ∧ Nw (wr.setCell ⟨g, n, none⟩ (.bool true)) w' (.slice (some ⟨g5, 0, none⟩) q cap5) v' (s ++ lkA L (F1.set n true) n) := by
          obtain ⟨hM, hG, hL, hNF, hfs, hn1, hn2, hq, b1, hlen, n1, k1, s1⟩ := unhide HB
          have k2 := (unhide HL2).1
          have := e3.row
          rw [hq] at this ⊢
          exact lookAt_any kb _ _ _ b _ fs ls sv mb L n (some ⟨g5, 0, none⟩) cap5 s _ e3.kn e3.st k2.lenF hn1 (by simp; omega) k2.zero this (by rw [hlen] at b1; omega)
        have HE3 := hide e3
        have hkl := lt_of_cell c1
        clear e3 on
        generalize (F1.set n true) = F2 at *
        obtain ⟨x, hx⟩ : ∃ x, x = fs.getD n 0 := ⟨_, rfl⟩
        rw [← hx] at HL2
        have HX := hide hx
        clear hx cT
        go_wp2_with fail
        refine KA.mono ?_
        rintro e w3 ⟨v3, rfl, nw3⟩
        have e4 := (unhide HE3).look nw3
        obtain ⟨_, d1, d2, d3, _⟩ := e4.kn.cells
        have dT := nrow_cell e4.kn.rt rfl (m := n) (by obtain ⟨hM, hG, hL, hNF, hfs, hn1, hn2, hq, b1, hlen, n1, k1, s1⟩ := unhide HB; omega)
        rw [← unhide HX] at dT
        have HE4 := hide e4
        obtain ⟨q4, hq4⟩ : ∃ q4, q4 = (s ++ lkA L F2 n).length := ⟨_, rfl⟩
        obtain ⟨va, vc, hv4⟩ := own_slice e4.row
        rw [← hq4] at hv4
        subst hv4
        clear hq4
        clear KA e4 nw3 c1 c2 c3 cF cq fz HE2 HE3 hsl d1 d3 hgl
        go_wp2_with fail
        have HI2 : Hid (∃ l2, Le w w3 kb b sv mb L (.slice (some ⟨g, 0, none⟩) N capF) (.slice (some ⟨g2, 0, none⟩) N capT) (.slice (some ⟨g3, 0, none⟩) M capL) v (.slice va q4 vc) l2 F2 fs ls ∧ Sm L K F2 l2 (fun m => InCh ls x m) ∧ l2.length + 2 * x ≤ q + 2 + 2 * x) := by
          refine ⟨_, unhide HE4, (unhide HL2).2.1, ?_⟩
          have := lkA_len L F2 n
          have hq := (unhide HB).2.2.2.2.2.2.2.1
          rw [List.length_append]; omega
        have hxM := (unhide HL2).2.2.2.2
        obtain ⟨zo, hzo⟩ : ∃ zo, zo = nfW wr kb := ⟨_, rfl⟩
        have HZ := hide hzo
        clear d2 dT HE4 hzo
        go_loopw [1, 5] (fun vv av w4 => ∃ at' : Nat, av = .int .i64 (at' : Int) ∧ at' ≤ x ∧ Hid (∃ l2, Le w w4 kb b sv mb L (.slice (some ⟨g, 0, none⟩) N capF) (.slice (some ⟨g2, 0, none⟩) N capT) (.slice (some ⟨g3, 0, none⟩) M capL) v vv l2 F2 fs ls ∧ Sm L K F2 l2 (fun m => InCh ls at' m) ∧ l2.length + 2 * at' ≤ q + 2 + 2 * x)) (fun _ av _ => (intOf av).toNat)
        case atStart => exact ⟨x, rfl, Nat.le_refl _, HI2⟩
        case round =>
          clear HI2
          obtain ⟨at', rfl, hax, HR2⟩ := hrel
          obtain ⟨l2, e5, s5, b5⟩ := unhide HR2
          by_cases ha : at' = 0
          · subst ha
            have HE : Hid ((∃ l' F', Le w wr kb b sv mb L (.slice (some ⟨g, 0, none⟩) N capF) (.slice (some ⟨g2, 0, none⟩) N capT) (.slice (some ⟨g3, 0, none⟩) M capL) v u1 l' F' fs ls ∧ Lk L F' fs ls none2 0 ∧ Sm L K F' l' none1 ∧ F'.length = F.length ∧ l'.length + (2 * M + 3) * nf F' ≤ 16000000000000) ∧ lenOf u1 + (2 * M + 3) * nfW wr kb < q + 1 + (2 * M + 3) * zo) := by
              obtain ⟨hM, hG, hL, hNF, hfs, hn1, hn2, hq, b1, hlen, n1, k1, s1⟩ := unhide HB
              obtain ⟨m1, m2, m3, m4, m5⟩ := unhide HL2
              have hlt : l2.length + (2 * M + 3) * nf F2 < q + 1 + (2 * M + 3) * nf F1 := meas_mark m4 (by omega)
              obtain ⟨ua, uc, hu⟩ := own_slice e5.row
              refine ⟨⟨l2, F2, e5, m1, s5.weakT (fun y hy => hy.zero), m3, by rw [hlen] at b1; omega⟩, ?_⟩
              rw [e5.kn.nf m1.zero.lt, unhide HZ, unhide HNFW, hu]
              exact hlt
            clear e5 s5 b5 HR2
            go_wp2_with fail
            go_roundw
            case rel => exact (unhide HE).1
            case measure => have := (unhide HE).2; rw [unhide HZ] at this; exact this
          · obtain ⟨p, hp⟩ : ∃ p, ls[at']? = some p := ⟨_, List.getElem?_eq_getElem (by obtain ⟨hM, _⟩ := unhide HB; omega)⟩
            have HP : Hid (1 ≤ p.1 ∧ p.1 < F2.length ∧ p.2 < at') := (unhide HL2).1.lnk at' p (by omega) hp
            have KA : ∃ ua uc q6, u1 = .slice ua q6 uc ∧ Calls Try.prog 71 #[.pointer (some ⟨kb, 0, none⟩), .int .i64 (p.1 : Int), .slice ua q6 uc] wr fun e w' => ∃ v', e = .returned v' ∧ Nw wr w' (.slice ua q6 uc) v' (l2 ++ lkA L F2 p.1) := by
              obtain ⟨hM, hG, hL, hNF, hfs, hn1, hn2, hq, b1, hlen, n1, k1, s1⟩ := unhide HB
              obtain ⟨m1, m2, m3, m4, m5⟩ := unhide HL2
              obtain ⟨ua, uc, hu⟩ := own_slice e5.row
              have hr := e5.row
              rw [hu] at hr
              refine ⟨ua, uc, l2.length, hu, lookAt_any kb _ _ _ b _ fs ls sv mb L p.1 ua uc l2 _ e5.kn e5.st m1.lenF (unhide HP).1 (unhide HP).2.1 m1.zero hr ?_⟩
              have hb4 : (2 * M + 3) * nf F1 = (2 * M + 3) * nf F2 + (2 * M + 3) := by rw [m4, Nat.mul_succ]
              rw [hlen, hb4] at b1
              generalize (2 * M + 3) * nf F2 = ZZ at b1
              omega
            obtain ⟨ua, uc, q6, rfl, KA⟩ := KA
            obtain ⟨_, _, _, d3, _⟩ := e5.kn.cells
            obtain ⟨r0, r1⟩ := e5.kn.rl.cell (g := g3) rfl hp
            have hp2 : Hid (∀ W V l', Le w W kb b sv mb L (.slice (some ⟨g, 0, none⟩) N capF) (.slice (some ⟨g2, 0, none⟩) N capT) (.slice (some ⟨g3, 0, none⟩) M capL) v V l' F2 fs ls → W.cell? ⟨kb, 3, none⟩ = some (.slice (some ⟨g3, 0, none⟩) M capL) ∧ W.cell? ⟨g3, at' * 2, none⟩ = some (.int .i64 (p.1 : Int)) ∧ W.cell? ⟨g3, at' * 2 + 1, none⟩ = some (.int .i64 (p.2 : Int))) := fun W V l' hle => by
              obtain ⟨_, _, _, d3, _⟩ := hle.kn.cells
              obtain ⟨r0, r1⟩ := hle.kn.rl.cell (g := g3) rfl hp
              exact ⟨d3, r0, r1⟩
            have haM : (at' : Int) < (M : Int) := by omega
            have ha2 : (at' == 0) = false := by simp [ha]
            have ha3 : ((at' : Int) == 0) = false := by simp; omega
            have ha4 : ¬ ((at' : Int) = 0) := by omega
            have HE5 := hide (And.intro e5 (And.intro s5 (And.intro b5 (And.intro hp hax))))
            clear e5 s5 b5 hp HR2
            obtain ⟨P1, hp1⟩ : ∃ P1, P1 = p.1 := ⟨_, rfl⟩
            obtain ⟨P2, hp2'⟩ : ∃ P2, P2 = p.2 := ⟨_, rfl⟩
            rw [← hp1] at KA r0
            rw [← hp2'] at r1
            rw [← hp1, ← hp2'] at hp2
            have HPP := hide (And.intro hp1 hp2')
            have HH3 := hide hp2
            clear hp1 hp2' hp2
            go_wp2_with fail
            refine KA.mono ?_
            rintro e w6 ⟨v6, rfl, nw6⟩
            have e6 := (unhide HE5).1.look nw6
            obtain ⟨d3', r0', r1'⟩ := unhide (unhide HH3) _ _ _ e6
            have HE : Hid (∃ l2, Le w w6 kb b sv mb L (.slice (some ⟨g, 0, none⟩) N capF) (.slice (some ⟨g2, 0, none⟩) N capT) (.slice (some ⟨g3, 0, none⟩) M capL) v v6 l2 F2 fs ls ∧ Sm L K F2 l2 (fun m => InCh ls P2 m) ∧ l2.length + 2 * P2 ≤ q + 2 + 2 * x) := by
              obtain ⟨hM, hG, hL, hNF, hfs, hn1, hn2, hq, b1, hlen, n1, k1, s1⟩ := unhide HB
              obtain ⟨m1, m2, m3, m4, m5⟩ := unhide HL2
              obtain ⟨_, s5, b5, hp, _⟩ := unhide HE5
              obtain ⟨p1, p2⟩ := unhide HPP
              obtain ⟨o1, o2, o3⟩ := unhide HP
              rw [p1] at e6
              refine ⟨_, e6, ?_, ?_⟩
              · rw [p2]; exact s5.look hG m1.lenF o1 o2 (fun y hy => hy.open_ hp)
              · have := lkA_len L F2 p.1
                rw [List.length_append, p2]
                omega
            have hP2 : P2 < at' := by rw [(unhide HPP).2]; exact (unhide HP).2.2
            clear KA nw6 e6 d3 r0 r1 r0'
            go_wp2_with fail
            go_roundw
            case rel => exact ⟨P2, rfl, by omega, HE⟩
            case measure => simp only [intOf]; omega
      · rw [on] at cF
        have HE : Hid (∃ l' F', Le w wr kb b sv mb L (.slice (some ⟨g, 0, none⟩) N capF) (.slice (some ⟨g2, 0, none⟩) N capT) (.slice (some ⟨g3, 0, none⟩) M capL) v (.slice (some ⟨g5, 0, none⟩) q cap5) l' F' fs ls ∧ Lk L F' fs ls none2 0 ∧ Sm L K F' l' none1 ∧ F'.length = F.length ∧ l'.length + (2 * M + 3) * nf F' ≤ 16000000000000) := by
          obtain ⟨hM, hG, hL, hNF, hfs, hn1, hn2, hq, b1, hlen, n1, k1, s1⟩ := unhide HB
          exact ⟨s, F1, unhide HE2, k1, s1.skip (onB_iff.1 on), n1, by rw [hlen] at b1; omega⟩
        clear on
        go_wp2_with fail
        go_roundw
        case rel => exact HE
        case measure => simp only [lenOf]; omega
end Go.Proofs.Ytokdflbajnecpaa.Tn

/- Contracts of Has, Learn and Clone of package deduce. -/
namespace Go.Proofs.Ytokdflbajnecpaa.Tn
open Go.RowKit Go.Maps
noncomputable def hasB (L : List Tm) (K : Nat → Prop) (x : Int) : Bool := @decide (1 ≤ x ∧ Fol L K x.toNat) (Classical.propDecidable _)
theorem hasB_iff {L : List Tm} {K : Nat → Prop} {x : Int} : hasB L K x = true ↔ 1 ≤ x ∧ Fol L K x.toNat := by
  unfold hasB; exact @decide_eq_true_iff _ (Classical.propDecidable _)
theorem hasB_nat {L : List Tm} {K : Nat → Prop} (hG : Good L) {m : Nat} : hasB L K (m : Int) = true ↔ Fol L K m := by
  rw [hasB_iff, Int.toNat_natCast]
  exact ⟨fun h => h.2, fun h => ⟨by have := h.rng hG; omega, h⟩⟩
theorem hasB_out {L : List Tm} {K : Nat → Prop} (hG : Good L) {x : Int} (h : thr L.length x = false) : hasB L K x = false := by
  cases e : hasB L K x
  · rfl
  · obtain ⟨h1, h2⟩ := hasB_iff.1 e
    have := h2.rng hG
    exact absurd (by omega : 1 ≤ x ∧ x ≤ (L.length : Int)) (thr_false.1 h)
set_option maxRecDepth 100000 in
set_option maxHeartbeats 4000000 in
theorem kHas_any (kb b : Nat) (sv : Value) (mb : Nat) (L : List Tm) (K : Nat → Prop) (Z : List Nat) (x : Int) (w : World) (h : KS w kb b L K Z) (hS : St w b sv mb L) (hd : ∀ y ∈ Z, y ∉ foot b sv mb) :
    Calls Try.prog 24 #[.pointer (some ⟨kb, 0, none⟩), .int .i64 x] w fun e w' => e = .returned (.bool (hasB L K x)) ∧ ∃ Z', KS w' kb b L K Z' ∧ Mv w w' Z Z' := by
  obtain ⟨fv, tv, lv, F, fs, ls, rfl, hK, hl, hs⟩ := h
  obtain ⟨c0, _, _, _, _⟩ := hK.cells
  have K0 := kmissing_any kb _ w c0
  have KG := get_any b sv mb L x w hS
  have hG := hS.good
  cases hx : thr L.length x
  · have e : hasB L K x = false := hasB_out hG hx
    rw [e]
    rw [hx] at KG
    have HE : Hid (∀ W, Below w.heap.size w W → ∃ Z', KS W kb b L K Z' ∧ Mv w W (kfoot kb fv tv lv) Z') := fun W hW => ⟨_, ⟨fv, tv, lv, F, fs, ls, rfl, hK.bw hW, hl, hs⟩, Mv.same _ hW⟩
    clear e hx hG hS hd hK hl hs
    generalize getT L x = t at *
    go_enter Try.func24, Try.ntmps24
    go_wp2_with fail
    refine K0.mono ?_
    rintro e w ⟨rfl, rfl⟩
    go_wp2_with fail
    refine KG.mono ?_
    rintro e w1 ⟨rfl, b1⟩
    have b2 := b1.alloc b1.size (.cells #[.int .u8 t.kd, .int .i64 t.n, .int .i64 t.a, .int .i64 t.b] 55)
    go_wp2_with fail
    go_ret
    exact ⟨rfl, unhide HE _ b2⟩
  · rw [hx] at KG
    obtain ⟨m, rfl⟩ : ∃ m : Nat, x = m := ⟨x.toNat, by have := thr_iff.1 hx; omega⟩
    have hm := thr_iff.1 hx
    have HI := hide (And.intro hK (And.intro hl (And.intro hs (And.intro hS (And.intro hd (And.intro hG hm))))))
    obtain ⟨rb, hrb⟩ : ∃ rb, rb = hasB L K (m : Int) := ⟨_, rfl⟩
    rw [← hrb]
    have HRB := hide hrb
    clear hx hG hS hd hK hl hs hm hrb
    generalize getT L (m : Int) = t at *
    go_enter Try.func24, Try.ntmps24
    go_wp2_with fail
    refine K0.mono ?_
    rintro e w ⟨rfl, rfl⟩
    go_wp2_with fail
    refine KG.mono ?_
    rintro e w1 ⟨rfl, b1⟩
    have b2 := b1.alloc b1.size (.cells #[.int .u8 t.kd, .int .i64 t.n, .int .i64 t.a, .int .i64 t.b] 55)
    obtain ⟨hK, hl, hs, hS, hd, hG, hm⟩ := unhide HI
    have KR := read_any kb fv tv lv b F fs ls sv mb L K _ (hK.bw b2) hl hs (hS.bw b2) hd
    have HB := hide b2
    clear K0 KG hK hl hs hS hd hG hm b1 b2 c0
    go_wp2_with fail
    refine KR.mono ?_
    rintro e w2 ⟨rfl, fv2, tv2, lv2, F2, fs2, ls2, k2, l2, s2, n2⟩
    obtain ⟨hK, hl, hs, hS, hd, hG, hm⟩ := unhide HI
    obtain ⟨_, d1, _, _, _⟩ := k2.kn.cells
    obtain ⟨g, cap, hfv, _, hmk, _⟩ := k2.kn.marks l2.zero.lt
    have mm := hmk m (by omega)
    have eb : onB F2 m = hasB L K (m : Int) := by
      rw [Bool.eq_iff_iff, onB_iff, hasB_nat hG]
      exact s2.tells hG n2 l2.zero (by omega)
    rw [eb, ← unhide HRB] at mm
    rw [hfv, n2] at d1
    have hmb : (m : Int) < ((L.length + 1 : Nat) : Int) := by omega
    have hLb : ((L.length + 1 : Nat) : Int) ≤ 1048577 := by have := hS.len; omega
    have HE : Hid (∃ Z', KS w2 kb b L K Z' ∧ Mv w w2 (kfoot kb fv tv lv) Z') := ⟨_, ⟨fv2, tv2, lv2, F2, fs2, ls2, rfl, k2.kn, l2, s2⟩, k2.mv.before (unhide HB)⟩
    clear KR hK hl hs hS hd hG hm k2 l2 s2 n2 hfv hmk eb HI HB
    generalize L.length + 1 = N at *
    go_wp2_with fail
    go_ret
    exact ⟨rfl, unhide HE⟩
theorem mul_bound {M n : Nat} (hM : M ≤ 3145731) (hn : n ≤ 1048577) : (2 * M + 3) * n ≤ 7000000000000 :=
  Nat.le_trans (Nat.mul_le_mul (show 2 * M + 3 ≤ 6291465 by omega) hn) (by decide)
theorem Lk.cap {L : List Tm} {F : List Bool} {fs : List Nat} {ls : List (Nat × Nat)} (h : Lk L F fs ls none2 0) (hL : L.length ≤ 1048576) : (2 * ls.length + 3) * nf F ≤ 7000000000000 := by
  have h1 := h.lenF
  have h2 := h.lenl
  have h3 := nf_le F
  exact mul_bound (by omega) (by omega)
theorem Le.done {w W : World} {kb b : Nat} {sv : Value} {mb : Nat} {L : List Tm} {fv tv lv v0 v : Value} {l : List Nat} {F : List Bool} {fs : List Nat} {ls : List (Nat × Nat)} {K : Nat → Prop} (h : Le w W kb b sv mb L fv tv lv v0 v l F fs ls) (hl : Lk L F fs ls none2 0) (hs : Sm L K F [] none1) : KS W kb b L K (kfoot kb fv tv lv) := ⟨fv, tv, lv, F, fs, ls, rfl, h.kn, hl, hs⟩
end Go.Proofs.Ytokdflbajnecpaa.Tn

/- AccountApart, plainly: which terms digests and seeds are; what follows from a seed, a card's key and the key for own devices. -/
namespace Go.Proofs.Ytokdflbajnecpaa.Tn.Ax
open Go.RowKit Go.Maps
def At (L : List Tm) (x : Nat) (t : Tm) : Prop := 1 ≤ x ∧ L[x - 1]? = some t
def Pre (L L' : List Tm) : Prop := ∃ r, L' = L ++ r
theorem Pre.refl (L : List Tm) : Pre L L := ⟨[], by simp⟩
theorem Pre.trans {L L' L'' : List Tm} (h : Pre L L') (k : Pre L' L'') : Pre L L'' := by obtain ⟨r, rfl⟩ := h; obtain ⟨q, rfl⟩ := k; exact ⟨r ++ q, by simp⟩
theorem Pre.mk (L : List Tm) (t : Tm) : Pre L (mkL L t) := mkL_prefix L t
theorem Pre.len {L L' : List Tm} (h : Pre L L') : L.length ≤ L'.length := by obtain ⟨r, rfl⟩ := h; simp
theorem At.le {L : List Tm} {x : Nat} {t : Tm} (h : At L x t) : 1 ≤ x ∧ x ≤ L.length := ⟨h.1, by have := (List.getElem?_eq_some_iff.1 h.2).1; have := h.1; omega⟩
theorem At.pre {L L' : List Tm} {x : Nat} {t : Tm} (h : At L x t) (hp : Pre L L') : At L' x t := by
  obtain ⟨r, rfl⟩ := hp
  refine ⟨h.1, ?_⟩
  rw [List.getElem?_append_left (List.getElem?_eq_some_iff.1 h.2).1]
  exact h.2
theorem At.back {L L' : List Tm} {x : Nat} {t : Tm} (h : At L' x t) (hp : Pre L L') (hx : x ≤ L.length) : At L x t := by
  obtain ⟨r, rfl⟩ := hp
  refine ⟨h.1, ?_⟩
  have := h.1
  rw [← List.getElem?_append_left (l₂ := r) (by omega)]
  exact h.2
theorem At.fn {L : List Tm} {x : Nat} {t t' : Tm} (h : At L x t) (k : At L x t') : t = t' := by have := h.2.symm.trans k.2; simpa using this
theorem At.tm {L : List Tm} {x : Nat} {t : Tm} (h : At L x t) : tmAt L x = t := by unfold tmAt; rw [List.getD, h.2]; rfl
theorem At.inj {L : List Tm} {x y : Nat} {t : Tm} (hG : Good L) (h : At L x t) (k : At L y t) : x = y :=
  hG.tmAt_inj h.le.1 h.le.2 k.le.1 k.le.2 (h.tm.trans k.tm.symm)
theorem at_mk {L : List Tm} {t : Tm} (hm : may L.length t = true) (hl : L.length < 1048576) : At (mkL L t) (mkN L t) t := by
  obtain ⟨_, h2, h3⟩ := mk_ok hm hl
  rw [h2]
  exact ⟨(num_get h3).2, (num_get h3).1⟩
theorem At.kd {L : List Tm} {x : Nat} {t : Tm} (h : At L x t) : kdOf L x = t.kd := by unfold kdOf; rw [h.tm]
theorem At.pa {L : List Tm} {x : Nat} {t : Tm} (h : At L x t) : pA L x = t.a.toNat := by unfold pA; rw [h.tm]
theorem At.pb {L : List Tm} {x : Nat} {t : Tm} (h : At L x t) : pB L x = t.b.toNat := by unfold pB; rw [h.tm]
theorem at_of {L : List Tm} {m : Nat} (h1 : 1 ≤ m) (h2 : m ≤ L.length) : At L m (tmAt L m) := ⟨h1, tmAt_get h1 h2⟩
def PubN (L : List Tm) (m : Nat) : Prop := ∃ t, At L m t ∧ t.kd ≠ 1 ∧ t.kd ≠ 4
theorem PubN.pre {L L' : List Tm} {m : Nat} (h : PubN L m) (hp : Pre L L') : PubN L' m := by obtain ⟨t, a, b⟩ := h; exact ⟨t, a.pre hp, b⟩
structure Iv (L : List Tm) : Prop where
  good : Good L
  one : ∃ n, At L 1 ⟨1, n, 0, 0⟩
  all : ∀ m t, At L m t → t.kd ≠ 6 ∧ (t.kd = 1 → m = 1) ∧ (t.kd = 4 → t.a = 1) ∧ (t.kd = 3 → PubN L t.a.toNat ∧ PubN L t.b.toNat)
theorem Iv.made {L : List Tm} (h : Iv L) (t : Tm) (h6 : t.kd ≠ 6) (h1 : t.kd ≠ 1) (h4 : t.kd = 4 → t.a = 1) (h3 : t.kd = 3 → PubN L t.a.toNat ∧ PubN L t.b.toNat) : Iv (mkL L t) := by
  have hp := Pre.mk L t
  refine ⟨h.good.made t, ?_, fun m u hu => ?_⟩
  · obtain ⟨n, a⟩ := h.one; exact ⟨n, a.pre hp⟩
  · rcases Nat.lt_or_ge L.length m with q | q
    · have e : u = t := by
        have hle := hu.le
        have h2 := hu.2
        unfold mkL at h2 hle
        split at h2
        · rename_i c
          rw [if_pos c] at hle
          simp at hle
          have : m = L.length + 1 := by omega
          subst this
          simpa using h2.symm
        · rename_i c
          rw [if_neg c] at hle
          omega
      subst e
      exact ⟨h6, fun c => absurd c h1, h4, fun c => ⟨(h3 c).1.pre hp, (h3 c).2.pre hp⟩⟩
    · obtain ⟨a, b, c, d⟩ := h.all m u (hu.back hp q)
      exact ⟨a, b, c, fun x => ⟨(d x).1.pre hp, (d x).2.pre hp⟩⟩
theorem Iv.data {L : List Tm} (h : Iv L) (z : Int) : Iv (mkL L ⟨2, z, 0, 0⟩) := h.made _ (by simp) (by simp) (by simp) (by simp)
def DL (L : List Tm) : List Nat → List Int → Prop
  | [], [] => True
  | m :: r, z :: s => At L m ⟨2, z, 0, 0⟩ ∧ DL L r s
  | _, _ => False
theorem DL.pre {L L' : List Tm} (hp : Pre L L') : ∀ {l : List Nat} {z : List Int}, DL L l z → DL L' l z
  | [], [], _ => trivial
  | _ :: _, _ :: _, h => ⟨h.1.pre hp, DL.pre hp h.2⟩
  | [], _ :: _, h => h.elim
  | _ :: _, [], h => h.elim
theorem DL.snoc {L : List Tm} {m : Nat} {z : Int} (ha : At L m ⟨2, z, 0, 0⟩) : ∀ {l : List Nat} {s : List Int}, DL L l s → DL L (l ++ [m]) (s ++ [z])
  | [], [], _ => ⟨ha, trivial⟩
  | _ :: _, _ :: _, h => ⟨h.1, DL.snoc ha h.2⟩
  | [], _ :: _, h => h.elim
  | _ :: _, [], h => h.elim
theorem DL.fn {L : List Tm} : ∀ {l : List Nat} {s s' : List Int}, DL L l s → DL L l s' → s = s'
  | [], [], [], _, _ => rfl
  | _ :: _, _ :: _, _ :: _, h, k => by
    have := h.1.fn k.1
    simp at this
    rw [this, DL.fn h.2 k.2]
  | [], _ :: _, _, h, _ => h.elim
  | [], [], _ :: _, _, k => k.elim
  | _ :: _, [], _, h, _ => h.elim
  | _ :: _, _ :: _, [], _, k => k.elim
theorem DL.inj {L : List Tm} (hG : Good L) : ∀ {l l' : List Nat} {s : List Int}, DL L l s → DL L l' s → l = l'
  | [], [], [], _, _ => rfl
  | _ :: _, _ :: _, _ :: _, h, k => by rw [h.1.inj hG k.1, DL.inj hG h.2 k.2]
  | [], _ :: _, [], _, k => k.elim
  | [], _, _ :: _, h, _ => h.elim
  | _ :: _, _, [], h, _ => h.elim
  | _ :: _, [], _ :: _, _, k => k.elim
theorem DL.mem {L : List Tm} : ∀ {l : List Nat} {s : List Int}, DL L l s → ∀ m ∈ l, ∃ z, At L m ⟨2, z, 0, 0⟩
  | _ :: _, _ :: _, h, m, hm => by
    rcases List.mem_cons.1 hm with rfl | c
    · exact ⟨_, h.1⟩
    · exact DL.mem h.2 m c
  | [], _, _, m, hm => by cases hm
  | _ :: _, [], h, _, _ => h.elim
theorem dats_at (zs : List Int) : ∀ {P : List Tm × List Nat} {s : List Int}, Iv P.1 → DL P.1 P.2 s → P.1.length + zs.length ≤ 1048576 → Iv (dats P zs).1 ∧ Pre P.1 (dats P zs).1 ∧ DL (dats P zs).1 (dats P zs).2 (s ++ zs) := by
  induction zs with
  | nil => intro P s h k _; exact ⟨h, Pre.refl _, by simpa [dats] using k⟩
  | cons z r ih =>
    intro P s h k hl
    simp only [List.length_cons] at hl
    have hp := Pre.mk P.1 ⟨2, z, 0, 0⟩
    have hd : DL (dat P z).1 (dat P z).2 (s ++ [z]) := DL.snoc (at_mk (may_dat P.1.length z) (by omega)) (k.pre hp)
    obtain ⟨a, b, c⟩ := ih (P := dat P z) (s := s ++ [z]) (h.data z) hd (by have := (dat_len P z).1; omega)
    exact ⟨a, hp.trans b, by simpa [dats] using c⟩
def IsL (L : List Tm) : Nat → List Nat → Prop
  | _, [] => False
  | n, [m] => n = m
  | n, a :: b :: r => ∃ k : Nat, At L n ⟨3, 0, (a : Nat), (k : Nat)⟩ ∧ IsL L k (b :: r)
theorem IsL.pre {L L' : List Tm} (hp : Pre L L') : ∀ {l : List Nat} {n : Nat}, IsL L n l → IsL L' n l
  | [], _, h => h.elim
  | [_], _, h => h
  | _ :: b :: r, _, ⟨k, h1, h2⟩ => ⟨k, h1.pre hp, IsL.pre (l := b :: r) hp h2⟩
theorem IsL.inj {L : List Tm} (hG : Good L) : ∀ {l : List Nat} {n n' : Nat}, IsL L n l → IsL L n' l → n = n'
  | [], _, _, h, _ => h.elim
  | [_], _, _, h, k => by have h' : _ = _ := h; have k' : _ = _ := k; rw [h', k']
  | a :: b :: r, _, _, ⟨k, h1, h2⟩, ⟨k', h1', h2'⟩ => by
    have := IsL.inj hG (l := b :: r) h2 h2'
    subst this
    exact h1.inj hG h1'
theorem IsL.fn {L : List Tm} : ∀ {l l' : List Nat} {n : Nat}, (∀ m ∈ l, ∃ z, At L m ⟨2, z, 0, 0⟩) → (∀ m ∈ l', ∃ z, At L m ⟨2, z, 0, 0⟩) → IsL L n l → IsL L n l' → l = l'
  | [], _, _, _, _, h, _ => h.elim
  | _ :: _, [], _, _, _, _, k => k.elim
  | [a], [b], _, _, _, h, k => by have h' : _ = a := h; have k' : _ = b := k; rw [← h', ← k']
  | [a], b :: c :: r, n, ha, _, h, ⟨k, h1, _⟩ => by
    have h' : n = a := h
    obtain ⟨z, hz⟩ := ha a (by simp)
    rw [← h'] at hz
    have := hz.fn h1
    simp at this
  | a :: b :: r, [c], n, _, hb, ⟨k, h1, _⟩, h => by
    have h' : n = c := h
    obtain ⟨z, hz⟩ := hb c (by simp)
    rw [← h'] at hz
    have := hz.fn h1
    simp at this
  | a :: b :: r, a' :: b' :: r', n, ha, hb, ⟨k, h1, h2⟩, ⟨k', h1', h2'⟩ => by
    have e := h1.fn h1'
    simp at e
    obtain ⟨e1, e2⟩ := e
    have e1 : a = a' := by omega
    have e2 : k = k' := by omega
    subst e1; subst e2
    rw [IsL.fn (l := b :: r) (l' := b' :: r') (fun m hm => ha m (by simp at hm ⊢; exact Or.inr hm)) (fun m hm => hb m (by simp at hm ⊢; exact Or.inr hm)) h2 h2']
theorem IsL.snoc {L : List Tm} {a n n0 : Nat} (h : At L n ⟨3, 0, (a : Nat), (n0 : Nat)⟩) {l : List Nat} (k : IsL L n0 l) : IsL L n (a :: l) := by
  match l, k with
  | b :: r, k => exact ⟨n0, h, k⟩
theorem lsF_at : ∀ (r : List Nat) (L : List Tm) (n : Nat) (l : List Nat), Iv L → (∀ m ∈ r, PubN L m) → PubN L n → IsL L n l → L.length + r.length ≤ 1048576 →
    ∃ m : Nat, (lsF L (cI r) (n : Int)).2.1 = m ∧ Iv (lsF L (cI r) (n : Int)).1 ∧ Pre L (lsF L (cI r) (n : Int)).1 ∧ PubN (lsF L (cI r) (n : Int)).1 m ∧ IsL (lsF L (cI r) (n : Int)).1 m (r.reverse ++ l) := by
  intro r
  induction r with
  | nil => intro L n l h _ hn hl _; exact ⟨n, rfl, h, Pre.refl _, hn, by simpa [lsF, cI] using hl⟩
  | cons a r ih =>
    intro L n l h ha hn hl hb
    simp only [List.length_cons] at hb
    have pa := ha a (by simp)
    have ta : thr L.length (a : Int) = true := by obtain ⟨t, x, _⟩ := pa; have := x.le; exact thr_iff.2 (by omega)
    have tn : thr L.length (n : Int) = true := by obtain ⟨t, x, _⟩ := hn; have := x.le; exact thr_iff.2 (by omega)
    have hm : may L.length ⟨3, 0, (a : Int), (n : Int)⟩ = true := by simp [may, ta, tn]
    obtain ⟨h1, _, _⟩ := mk_ok hm (by omega : L.length < 1048576)
    have hat := at_mk hm (by omega : L.length < 1048576)
    have hp := Pre.mk L ⟨3, 0, (a : Int), (n : Int)⟩
    have l1 := mkL_len L ⟨3, 0, (a : Int), (n : Int)⟩
    have e : lsF L (cI (a :: r)) (n : Int) = lsF (mkL L ⟨3, 0, (a : Int), (n : Int)⟩) (cI r) (mkN L ⟨3, 0, (a : Int), (n : Int)⟩ : Nat) := by
      show (if mkE L ⟨3, 0, (a : Int), (n : Int)⟩ = 0 then _ else _) = _
      rw [if_pos h1]; rfl
    rw [e]
    obtain ⟨m, q1, q2, q3, q4, q5⟩ := ih (mkL L ⟨3, 0, (a : Int), (n : Int)⟩) (mkN L ⟨3, 0, (a : Int), (n : Int)⟩) (a :: l) (h.made _ (by simp) (by simp) (by simp) (fun _ => ⟨by simpa using pa, by simpa using hn⟩)) (fun x hx => (ha x (by simp [hx])).pre hp) ⟨_, hat, by simp, by simp⟩ (IsL.snoc hat (hl.pre hp)) (by omega)
    exact ⟨m, q1, q2, hp.trans q3, q4, by simpa using q5⟩
theorem ls_at {L : List Tm} {acc : List Nat} (h : Iv L) (hp : ∀ m ∈ acc, PubN L m) (hne : acc ≠ []) (hl : L.length + acc.length ≤ 1048576) :
    ∃ m : Nat, (ls L (cI acc)).2.1 = m ∧ Iv (ls L (cI acc)).1 ∧ Pre L (ls L (cI acc)).1 ∧ PubN (ls L (cI acc)).1 m ∧ IsL (ls L (cI acc)).1 m acc := by
  have hall : ∀ a ∈ cI acc, thr L.length a = true := fun a ha => by
    obtain ⟨m, hm, rfl⟩ := List.mem_map.1 ha
    obtain ⟨t, x, _⟩ := hp m hm
    have := x.le
    exact thr_iff.2 (by omega)
  have hrev : (cI acc).reverse = cI acc.reverse := by simp [cI]
  unfold ls
  rw [if_pos (List.all_eq_true.2 hall), hrev]
  cases hq : acc.reverse with
  | nil => exact absurd (List.reverse_eq_nil_iff.1 hq) hne
  | cons n r =>
    have hmem : ∀ m ∈ n :: r, PubN L m := fun m hm => hp m (by rw [← hq] at hm; simpa using hm)
    have hlen : (n :: r).length = acc.length := by rw [← hq]; simp
    simp only [List.length_cons] at hlen
    obtain ⟨m, q1, q2, q3, q4, q5⟩ := lsF_at r L n [n] h (fun m hm => hmem m (by simp [hm])) (hmem n (by simp)) rfl (by omega)
    have e : r.reverse ++ [n] = acc := by
      have : acc = (n :: r).reverse := by rw [← hq]; simp
      rw [this]; simp
    rw [e] at q5
    exact ⟨m, q1, q2, q3, q4, q5⟩
end Go.Proofs.Ytokdflbajnecpaa.Tn.Ax
