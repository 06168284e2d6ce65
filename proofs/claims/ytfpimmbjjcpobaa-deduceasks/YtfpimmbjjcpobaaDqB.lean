/- The contract of the document's give. -/
import Derived.Test.YtfpimmbjjcpobaaDqA
namespace Go.Proofs.Ytfpimmbjjcpobaa
open Go.RowKit Go.Maps

/-- While a term gives: the marks, the term beside. -/
structure Gv (w W : World) (qb : Nat) (gv : Value) (rb : Nat) (G : List Bool) (hx : Nat) (u : Tm) : Prop where
  kq : Kq W qb gv rb G
  lay : TAt W hx 0 u
  fr : Fr (qfoot qb gv) w W
  pl : w.heap.size ≤ hx
  old : ∀ x ∈ qfoot qb gv, x < w.heap.size
theorem Gv.new {w W W' : World} {qb : Nat} {gv : Value} {rb : Nat} {G : List Bool} {hx : Nat} {u : Tm} (h : Gv w W qb gv rb G hx u) (hb : Below W.heap.size W W') : Gv w W' qb gv rb G hx u :=
  ⟨h.kq.bw hb, h.lay.keep (hb.block hx h.lay.lt), h.fr.below hb, h.pl, h.old⟩
theorem Gv.set {w W : World} {qb g n cap : Nat} {rb : Nat} {G : List Bool} {hx : Nat} {u : Tm} (h : Gv w W qb (.slice (some ⟨g, 0, none⟩) n cap) rb G hx u) (m : Nat) : Gv w (W.setCell ⟨g, m, none⟩ (.bool true)).drew qb (.slice (some ⟨g, 0, none⟩) n cap) rb (G.set m true) hx u := by
  obtain ⟨k1, k2⟩ := h.kq.set m
  have hg : g < w.heap.size := h.old g (mem_qfoot.2 (Or.inr rfl))
  have h1 : Gv w (W.setCell ⟨g, m, none⟩ (.bool true)) qb (.slice (some ⟨g, 0, none⟩) n cap) rb (G.set m true) hx u :=
    ⟨k1, h.lay.keep (Below.heap_setCell _ _ _ _ (by have := h.pl; simp only []; omega)), h.fr.tr k2, h.pl, h.old⟩
  exact h1.new (Below.refl _ _).drew
theorem Gv.cells {w W : World} {qb g n cap : Nat} {rb : Nat} {G : List Bool} {hx : Nat} {u : Tm} (h : Gv w W qb (.slice (some ⟨g, 0, none⟩) n cap) rb G hx u) :
    W.cell? ⟨qb, 0, none⟩ = some (.pointer (some ⟨rb, 0, none⟩)) ∧ W.cell? ⟨qb, 1, none⟩ = some (.slice (some ⟨g, 0, none⟩) n cap) ∧ (∀ m, m < G.length → W.cell? ⟨g, m, none⟩ = some (.bool (onB G m))) ∧ (∀ j, W.frozen? ⟨g, j, none⟩ = false) ∧ W.cell? ⟨hx, 0, none⟩ = some (.int .u8 u.kd) ∧ W.cell? ⟨hx, 1, none⟩ = some (.int .i64 u.n) ∧ W.cell? ⟨hx, 2, none⟩ = some (.int .i64 u.a) ∧ W.cell? ⟨hx, 3, none⟩ = some (.int .i64 u.b) := by
  obtain ⟨c0, c1, _⟩ := h.kq.cells
  have t := h.lay
  unfold TAt at t
  simp only [Nat.zero_add] at t
  exact ⟨c0, c1, fun m hm => h.kq.rg.cell rfl hm, own_frozen h.kq.rg rfl, t.1, t.2.1, t.2.2.1, t.2.2.2⟩

set_option maxRecDepth 100000 in
set_option maxHeartbeats 8000000 in
theorem give_any (qb : Nat) (gv : Value) (rb : Nat) (rv : Value) (G : List Bool) (L : List Tm) (m : Nat) (w : World) (h : Kq w qb gv rb G) (hS : Rs w rb rv L) (hd : ∀ x ∈ qfoot qb gv, x ∉ rfoot rb rv) (hGl : G.length = L.length + 1) (h1 : 1 ≤ m) (h2 : m ≤ L.length) :
    Calls Try.prog 45 #[.pointer (some ⟨qb, 0, none⟩), .int .i64 (m : Int)] w fun e w' => e = .returned (.bool (gvM L G m)) ∧ Kq w' qb gv rb (gvG L G m) ∧ Fr (qfoot qb gv) w w' := by
  have KG := rget_nat rb rv L m w hS h1 h2
  have hL := hS.len
  have hG := hS.good
  have c0 := h.cells.1
  obtain ⟨hp1, hp2⟩ := hG.parts h1 h2
  obtain ⟨g, cap, rfl, hgl, hmm0, hff0, hqg, hql⟩ := h.marks (by omega)
  clear hmm0 hff0
  obtain ⟨r, hr⟩ : ∃ r, r = gvM L G m := ⟨_, rfl⟩
  obtain ⟨G', hG'⟩ : ∃ G', G' = gvG L G m := ⟨_, rfl⟩
  rw [← hr, ← hG']
  unfold gvM at hr
  unfold gvG at hG'
  have hopn := opn_opA L m
  obtain ⟨kd, u0⟩ : ∃ x, x = kdOf L m := ⟨_, rfl⟩
  obtain ⟨nn, u1⟩ : ∃ x, x = (tmAt L m).n := ⟨_, rfl⟩
  obtain ⟨A, u2⟩ : ∃ x, x = pA L m := ⟨_, rfl⟩
  obtain ⟨B, u3⟩ : ∃ x, x = pB L m := ⟨_, rfl⟩
  have h6 : kd = 6 → 1 ≤ A ∧ A ≤ L.length := fun k => by
    have := hG.pos2 h1 h2 (Or.inr (by rw [← u0]; exact k)); omega
  rw [← u2] at hopn
  rw [hopn] at hr hG'
  rw [← u0, ← u1, ← u2, ← u3] at KG
  rw [← u0, ← u2, ← u3] at hr hG'
  rw [← u2] at hp1
  rw [← u3] at hp2
  obtain ⟨N, hN⟩ : ∃ N, N = G.length := ⟨_, rfl⟩
  rw [← hN] at h hd ⊢
  have hA : (A : Int) < (N : Int) := by omega
  have hB : (B : Int) < (N : Int) := by omega
  have hNb : (N : Int) ≤ 1048577 := by omega
  have HI := hide (And.intro h (And.intro hS (And.intro hd (And.intro hG (And.intro h6 (And.intro hN (And.intro hr hG')))))))
  have bA : A < N := by omega
  have bB : B < N := by omega
  have HAB := hide (And.intro bA (And.intro bB (And.intro hGl hL)))
  clear h hS hd hG hGl h1 h2 hp1 hp2 u0 u1 u2 u3 hopn h6 hN hr hG' bA bB hL
  have start : ∀ z1, Below w.heap.size w z1 → Gv w (z1.alloc (.cells #[.int .u8 kd, .int .i64 nn, .int .i64 (A : Int), .int .i64 (B : Int)] 46)) qb (.slice (some ⟨g, 0, none⟩) N cap) rb G z1.heap.size ⟨kd, nn, A, B⟩ := fun z1 b1 => by
    have b2 := b1.alloc b1.size (.cells #[.int .u8 kd, .int .i64 nn, .int .i64 (A : Int), .int .i64 (B : Int)] 46)
    exact ⟨(unhide HI).1.bw b2, tat_new z1 ⟨kd, nn, A, B⟩ _, (Fr.ofBelow b2).mono (fun _ _ c => by cases c), b1.size, (unhide HI).1.lt⟩
  have HST := hide start
  clear start
  by_cases k3 : kd = 3
  · subst k3
    go_enter Try.func45, Try.ntmps45
    go_wp2_with fail
    refine KG.mono ?_
    rintro e z1 ⟨rfl, b1⟩
    have V0 := hide (unhide HST z1 b1)
    clear KG b1
    go_upto_region 5 with fail
    obtain ⟨W, hW⟩ : ∃ W, W = z1.alloc (.cells #[.int .u8 3, .int .i64 nn, .int .i64 (A : Int), .int .i64 (B : Int)] 46) := ⟨_, rfl⟩
    rw [← hW] at V0 ⊢
    generalize z1.heap.size = hx at V0 ⊢
    clear hW z1 HST
    obtain ⟨e0, e1, e2, e3, x0, x1, x2, x3⟩ := (unhide V0).cells
    simp only at x0 x1 x2 x3
    have eA := e2 A (by have := (unhide HAB).1; have := (unhide HI).2.2.2.2.2.1; omega)
    have eB := e2 B (by have := (unhide HAB).2.1; have := (unhide HI).2.2.2.2.2.1; omega)
    have hxg : hx ≠ g := by have := (unhide V0).pl; omega
    have hxq : hx ≠ qb := by have := (unhide V0).pl; omega
    -- region 5: what comes
    have HR : Hid (r = (!onB G A || !onB G B) ∧ G' = (G.set A true).set B true) := by
      obtain ⟨_, _, _, _, _, _, hr, hG'⟩ := unhide HI
      rw [if_pos trivial] at hr hG'
      exact ⟨hr, hG'⟩
    obtain ⟨oa, hoa⟩ : ∃ oa, oa = onB G A := ⟨_, rfl⟩
    obtain ⟨ob, hob⟩ : ∃ ob, ob = onB G B := ⟨_, rfl⟩
    rw [← hoa] at eA HR
    rw [← hob] at eB HR
    clear hoa hob e2 c0 e0
    go_cut [7] from 7 to 43 (fun s7 wx => s7 = .bool (!oa || !ob) ∧ Hid (Gv w wx qb (.slice (some ⟨g, 0, none⟩) N cap) rb G hx ⟨3, nn, A, B⟩))
    case first =>
      cases oa
      · go_quiet (fail)
        go_wp2_with fail
        go_meet
        case rel => exact ⟨rfl, (unhide V0).new (below_drewN (Below.refl _ _) _)⟩
      · go_quiet (fail)
        go_wp2_with fail
        go_meet
        case rel => exact ⟨rfl, (unhide V0).new (below_drewN (Below.refl _ _) _)⟩
    case rest =>
      obtain ⟨rfl, V1⟩ := hcut
      clear V0 e1 e3 x0 x1 x2 x3 eA eB
      obtain ⟨e0, e1, e2, e3, x0, x1, x2, x3⟩ := (unhide V1).cells
      simp only at x0 x1 x2 x3
      have eA := e2 A (by have := (unhide HAB).1; have := (unhide HI).2.2.2.2.2.1; omega)
      have ef := e3 A
      have hgw := lt_of_cell eA
      have hxw := lt_of_cell x0
      clear e0 e2 e3
      generalize (!oa || !ob) = rr at *
      go_wp2_with fail
      go_region
      all_goals
        have V2 := hide ((unhide V1).set A)
        go_upto_region 7 with fail
        obtain ⟨W2, hW2⟩ : ∃ W2, W2 = (wc.setCell ⟨g, A, none⟩ (.bool true)).drew := ⟨_, rfl⟩
        rw [← hW2] at V2 ⊢
        clear hW2 e1 x0 x1 x2 x3 eA ef hgw hxw V1
        obtain ⟨e0, e1, e2, e3, x0, x1, x2, x3⟩ := (unhide V2).cells
        simp only at x0 x1 x2 x3
        have eB := e2 B (by have := (unhide HAB).2.1; have := (unhide HI).2.2.2.2.2.1; simp; omega)
        have ef := e3 B
        have hgw := lt_of_cell eB
        have hxw := lt_of_cell x0
        clear e0 e2 e3
        go_wp2_with fail
        go_region
        all_goals
          have V3 := hide ((unhide V2).set B)
          go_wp2_with fail
          go_ret
          exact ⟨by rw [(unhide HR).1]; rfl, by rw [(unhide HR).2]; exact (unhide V3).kq, (unhide V3).fr⟩
  · have z1 : (kd == 3) = false := by simp [k3]
    have z2 : decide (kd = 3) = false := by simp [k3]
    by_cases k6 : kd = 6
    · have HK : Hid (1 ≤ A ∧ A ≤ L.length) := (unhide HI).2.2.2.2.1 k6
      have HR : Hid (r = (if onB G (opA L A) = true then !onB G B else false) ∧ G' = if onB G (opA L A) = true then G.set B true else G) := by
        obtain ⟨_, _, _, _, _, _, hr, hG'⟩ := unhide HI
        rw [if_neg k3] at hr hG'
        simp only [k6, true_and] at hr hG'
        exact ⟨hr, hG'⟩
      have KK : ∀ V, Fr (qfoot qb (.slice (some ⟨g, 0, none⟩) N cap)) w V → _ := fun V hV => rget_nat rb rv L A V ((unhide HI).2.1.keep hV (fun x hx c => (unhide HI).2.2.1 x c hx)) (unhide HK).1 (unhide HK).2
      have HKK := hide KK
      have hpk := (unhide HI).2.2.2.1.parts (unhide HK).1 (unhide HK).2
      obtain ⟨kk, v0⟩ : ∃ x, x = kdOf L A := ⟨_, rfl⟩
      obtain ⟨nk, v1⟩ : ∃ x, x = (tmAt L A).n := ⟨_, rfl⟩
      obtain ⟨ak, v2⟩ : ∃ x, x = pA L A := ⟨_, rfl⟩
      obtain ⟨bk, v3⟩ : ∃ x, x = pB L A := ⟨_, rfl⟩
      rw [← v0, ← v1, ← v2, ← v3] at HKK
      have hopA : opA L A = if kk = 5 then ak else A := by unfold opA; rw [v0, v2]
      have hak : ak < N := by rw [v2]; have := (unhide HAB).1; omega
      rw [hopA] at HR
      have hak' : (ak : Int) < (N : Int) := by omega
      have HAK := hide hak
      clear v0 v1 v2 v3 hopA KK hpk hak
      subst k6
      clear k3 z1 z2
      go_enter Try.func45, Try.ntmps45
      go_wp2_with fail
      refine KG.mono ?_
      rintro e z1 ⟨rfl, b1⟩
      have V0 := hide (unhide HST z1 b1)
      clear KG b1
      go_upto_region 9 with fail
      obtain ⟨W, hW⟩ : ∃ W, W = z1.alloc (.cells #[.int .u8 6, .int .i64 nn, .int .i64 (A : Int), .int .i64 (B : Int)] 46) := ⟨_, rfl⟩
      rw [← hW] at V0 ⊢
      generalize z1.heap.size = hx at V0 ⊢
      clear hW z1 HST c0
      have sof : ∀ V, Below W.heap.size W V → V.cell? ⟨qb, 0, none⟩ = some (.pointer (some ⟨rb, 0, none⟩)) ∧ V.cell? ⟨hx, 2, none⟩ = some (.int .i64 (A : Int)) := fun V hV => by
        obtain ⟨e0, _, _, _, _, _, x2, _⟩ := ((unhide V0).new hV).cells
        exact ⟨e0, x2⟩
      have bA : Below W.heap.size W W.drew := (Below.refl _ _).drew
      have bB : Below W.heap.size W (W.alloc (.cells #[.int .u8 0, .int .i64 0, .int .i64 0, .int .i64 0] 46)).drew := (bw_alloc _ _).drew
      have S0 := sof _ bA
      have S0' := sof _ bB
      have HS := hide sof
      have hkq : qb < W.heap.size := lt_of_cell S0.1
      have hkx : hx < W.heap.size := lt_of_cell S0.2
      clear sof
      go_cut [8] from 8 to 69 (fun s8 wx => ∃ hk, s8 = .pointer (some ⟨hk, 0, none⟩) ∧ Hid (Gv w wx qb (.slice (some ⟨g, 0, none⟩) N cap) rb G hx ⟨6, nn, A, B⟩ ∧ Gt W wx hk ⟨kk, nk, ak, bk⟩))
      case first =>
        go_region_held3 (fun w' : World => w'.cell? ⟨qb, 0, none⟩ = some (.pointer (some ⟨rb, 0, none⟩)) ∧ w'.cell? ⟨hx, 2, none⟩ = some (.int .i64 (A : Int))) (first | with_reducible exact S0 | with_reducible exact S0' | with_reducible exact S1 | with_reducible exact unhide HS _ (bw_put4 b2 (Nat.le_refl _) _ _ _ _) | exact unhide HS _ (b2.alloc b2.size _)) (first
          | (go_at_call 47; first
            | (refine (unhide HKK _ ((unhide V0).new bA).fr).mono ?_; rintro e z1 ⟨rfl, b1⟩; have b2 := bw_tr bA b1; have S1 := unhide HS _ b2)
            | (refine (unhide HKK _ ((unhide V0).new bB).fr).mono ?_; rintro e z1 ⟨rfl, b1⟩; have b2 := bw_tr bB b1; have S1 := unhide HS _ b2; obtain ⟨y0, y1, y2, y3, y4, y5, y6⟩ := new4_kept (w := W.drew) b1; simp only [World.size_drew] at y0 y1 y2 y3 y4 y5 y6)))
        all_goals
          go_wp2_with fail
          go_meet
          case rel => first | exact ⟨_, rfl, (unhide V0).new (b2.alloc b2.size _), gt_new ⟨kk, nk, ak, bk⟩ _ b2⟩ | exact ⟨_, rfl, (unhide V0).new (bw_put4 b2 (Nat.le_refl _) _ _ _ _), gt_put ⟨kk, nk, ak, bk⟩ b2 (Nat.le_refl _) y6⟩
      case rest =>
        obtain ⟨hk, rfl, V1⟩ := hcut
        clear V0 S0 S0' HS bA bB HKK
        obtain ⟨e0, e1, e2, e3, x0, x1, x2, x3⟩ := (unhide V1).1.cells
        obtain ⟨y0, y1, y2, y3⟩ := (unhide V1).2.cells
        simp only at x0 x1 x2 x3 y0 y1 y2 y3
        have eA := e2 A (by have := (unhide HAB).1; have := (unhide HI).2.2.2.2.2.1; omega)
        have eB := e2 B (by have := (unhide HAB).2.1; have := (unhide HI).2.2.2.2.2.1; omega)
        have eK := e2 ak (by have := unhide HAK; have := (unhide HI).2.2.2.2.2.1; omega)
        clear e0 e2 e3
        obtain ⟨cnd, hcnd⟩ : ∃ cnd, cnd = onB G (if kk = 5 then ak else A) := ⟨_, rfl⟩
        rw [← hcnd] at HR
        have hxg : hx ≠ g := by have := (unhide V1).1.pl; omega
        -- region 10: does it open?
        go_upto_region 10 with fail
        go_cut [96] from 69 to 97 (fun s96 wx => s96 = .bool cnd ∧ Hid (Gv w wx qb (.slice (some ⟨g, 0, none⟩) N cap) rb G hx ⟨6, nn, A, B⟩))
        case first =>
          by_cases k5 : kk = 5
          · rw [if_pos k5] at hcnd
            subst k5
            rw [← hcnd] at eK
            clear hcnd eA eB
            cases cnd
            · go_quiet (fail)
              go_wp2_with fail
              go_meet
              case rel => exact ⟨rfl, (unhide V1).1.new (below_drewN (Below.refl _ _) _)⟩
            · go_quiet (fail)
              go_wp2_with fail
              go_meet
              case rel => exact ⟨rfl, (unhide V1).1.new (below_drewN (Below.refl _ _) _)⟩
          · rw [if_neg k5] at hcnd
            rw [← hcnd] at eA
            have q1 : (kk == 5) = false := by simp [k5]
            have q2 : decide (kk = 5) = false := by simp [k5]
            have q3 : (kk != 5) = true := by simp [bne, q1]
            clear hcnd eK eB
            go_quiet (fail)
            go_wp2_with fail
            go_meet
            case rel => exact ⟨rfl, (unhide V1).1.new (below_drewN (Below.refl _ _) _)⟩
        case rest =>
          obtain ⟨rfl, V2⟩ := hcut
          clear V1 e1 x0 x1 x2 x3 y0 y1 y2 y3 eA eB eK hcnd
          cases cnd
          · have HR2 : Hid (r = false ∧ G' = G) := by have := unhide HR; unfold Hid; simpa using this
            clear HR
            go_wp2_with fail
            go_ret
            exact ⟨by rw [(unhide HR2).1]; rfl, by rw [(unhide HR2).2]; exact (unhide V2).kq, (unhide V2).fr⟩
          · have HR2 : Hid (r = !onB G B ∧ G' = G.set B true) := by have := unhide HR; unfold Hid; simpa using this
            clear HR
            obtain ⟨e0, e1, e2, e3, x0, x1, x2, x3⟩ := (unhide V2).cells
            simp only at x0 x1 x2 x3
            have eB := e2 B (by have := (unhide HAB).2.1; have := (unhide HI).2.2.2.2.2.1; omega)
            obtain ⟨ob, hob⟩ : ∃ ob, ob = onB G B := ⟨_, rfl⟩
            rw [← hob] at eB HR2
            clear e0 e2 e3 hob
            go_upto_region 11 with fail
            go_quiet (fail)
            generalize hW3 : World.drewN _ _ = W3
            have V3 : Hid (Gv w W3 qb (.slice (some ⟨g, 0, none⟩) N cap) rb G hx ⟨6, nn, A, B⟩) := by rw [← hW3]; exact (unhide V2).new (below_drewN (Below.refl _ _) _)
            clear hW3 e1 x0 x1 x2 x3 eB V2
            obtain ⟨e0, e1, e2, e3, x0, x1, x2, x3⟩ := (unhide V3).cells
            simp only at x0 x1 x2 x3
            have eB := e2 B (by have := (unhide HAB).2.1; have := (unhide HI).2.2.2.2.2.1; omega)
            have ef := e3 B
            have hgw := lt_of_cell eB
            have hxw := lt_of_cell x0
            clear e0 e2 e3
            go_wp2_with fail
            go_region
            all_goals
              have V4 := hide ((unhide V3).set B)
              go_wp2_with fail
              go_ret
              exact ⟨by rw [(unhide HR2).1]; rfl, by rw [(unhide HR2).2]; exact (unhide V4).kq, (unhide V4).fr⟩
    · have y1 : (kd == 6) = false := by simp [k6]
      have y2 : decide (kd = 6) = false := by simp [k6]
      have HR : Hid (r = false ∧ G' = G) := by
        obtain ⟨_, _, _, _, _, _, hr, hG'⟩ := unhide HI
        rw [if_neg k3] at hr hG'
        simp only [k6, false_and, if_false] at hr hG'
        exact ⟨hr, hG'⟩
      go_enter Try.func45, Try.ntmps45
      go_wp2_with fail
      refine KG.mono ?_
      rintro e z1 ⟨rfl, b1⟩
      have V0 := hide (unhide HST z1 b1)
      clear KG b1
      go_wp2_with fail
      go_ret
      exact ⟨by rw [(unhide HR).1]; rfl, by rw [(unhide HR).2]; exact (unhide V0).kq, (unhide V0).fr⟩

end Go.Proofs.Ytfpimmbjjcpobaa
