/- The contract of the document's goes: the rules are gone through until nothing comes. -/
import Derived.Test.YtfpimmbjjcpobaaDqB
import Derived.Test.YtfpimmbjjcpobaaDdE
namespace Go.Proofs.Ytfpimmbjjcpobaa
open Go.RowKit Go.Maps

theorem Kq.nf {w : World} {qb : Nat} {gv : Value} {rb : Nat} {G : List Bool} (h : Kq w qb gv rb G) (h0 : 0 < G.length) : nfW w qb = nf G := by
  obtain ⟨g, cap, hfv, hg, hm, _⟩ := h.marks h0
  have c1 := h.cells.2.1
  rw [hfv] at c1
  unfold nfW
  rw [c1, nf_range]
  simp only
  refine List.countP_congr fun i hi => ?_
  rw [hm i (by simpa using hi)]
/-- While it goes. -/
structure Gq (w W : World) (qb : Nat) (gv : Value) (rb : Nat) (rv : Value) (L : List Tm) (G : List Bool) : Prop where
  kq : Kq W qb gv rb G
  rs : Rs W rb rv L
  fr : Fr (qfoot qb gv) w W
theorem Gq.step {w W W' : World} {qb : Nat} {gv : Value} {rb : Nat} {rv : Value} {L : List Tm} {G G' : List Bool} (h : Gq w W qb gv rb rv L G) (hd : ∀ x ∈ qfoot qb gv, x ∉ rfoot rb rv) (k : Kq W' qb gv rb G') (f : Fr (qfoot qb gv) W W') : Gq w W' qb gv rb rv L G' :=
  ⟨k, h.rs.keep f (fun x hx c => hd x c hx), h.fr.tr f⟩
theorem Gq.new {w W W' : World} {qb : Nat} {gv : Value} {rb : Nat} {rv : Value} {L : List Tm} {G : List Bool} (h : Gq w W qb gv rb rv L G) (hb : Below W.heap.size W W') : Gq w W' qb gv rb rv L G :=
  ⟨h.kq.bw hb, h.rs.bw hb, h.fr.below hb⟩
theorem Gq.set {w W : World} {qb g n cap : Nat} {rb : Nat} {rv : Value} {L : List Tm} {G : List Bool} (h : Gq w W qb (.slice (some ⟨g, 0, none⟩) n cap) rb rv L G) (hd : ∀ x ∈ qfoot qb (.slice (some ⟨g, 0, none⟩) n cap), x ∉ rfoot rb rv) (m : Nat) : Gq w (W.setCell ⟨g, m, none⟩ (.bool true)) qb (.slice (some ⟨g, 0, none⟩) n cap) rb rv L (G.set m true) := by
  obtain ⟨k1, k2⟩ := h.kq.set m
  exact h.step hd k1 k2

set_option maxRecDepth 100000 in
set_option maxHeartbeats 8000000 in
theorem goes_any (qb : Nat) (gv : Value) (rb : Nat) (rv : Value) (G : List Bool) (L : List Tm) (K : Nat → Prop) (w : World) (h : Kq w qb gv rb G) (hS : Rs w rb rv L) (hd : ∀ x ∈ qfoot qb gv, x ∉ rfoot rb rv) (hq : Sq L K G) :
    Calls Try.prog 30 #[.pointer (some ⟨qb, 0, none⟩)] w fun e w' => e = .returned (.tuple #[]) ∧ ∃ G', Gq w w' qb gv rb rv L G' ∧ Sq L K G' ∧ ∀ m, 1 ≤ m → m ≤ L.length → Okm L G' m := by
  have hG := hS.good
  have hL := hS.len
  have hlen := hq.len
  obtain ⟨g, cap, rfl, hgl, hmm0, hff0, hqg, hql⟩ := h.marks (by omega)
  clear hmm0 hff0
  obtain ⟨N, hN⟩ : ∃ N, N = G.length := ⟨_, rfl⟩
  rw [← hN] at h hd ⊢
  have HI0 : Hid (∃ G', Gq w w qb (.slice (some ⟨g, 0, none⟩) N cap) rb rv L G' ∧ Sq L K G' ∧ (true = false → ∀ m, 1 ≤ m → m ≤ L.length → Okm L G' m)) := ⟨G, ⟨h, hS, Fr.refl _ _⟩, hq, fun c => by cases c⟩
  have HN := hide (And.intro hd (And.intro hG (And.intro hL (show N = L.length + 1 by omega))))
  have hNb : (N : Int) ≤ 1048577 := by omega
  have hN1 : 1 ≤ N := by omega
  clear h hS hd hq hG hL hlen hN hgl hqg hql
  go_enter Try.func30, Try.ntmps30
  go_wp2_with fail
  go_loopw [2] (fun mv wr => ∃ more : Bool, mv = .bool more ∧ Hid (∃ G', Gq w wr qb (.slice (some ⟨g, 0, none⟩) N cap) rb rv L G' ∧ Sq L K G' ∧ (more = false → ∀ m, 1 ≤ m → m ≤ L.length → Okm L G' m))) (fun mv wr => match mv with | .bool true => nfW wr qb + 1 | _ => 0)
  case atStart => exact ⟨true, rfl, HI0⟩
  case round =>
    clear HI0
    obtain ⟨more, rfl, HR⟩ := hrel
    obtain ⟨G0, q0, sq0, ok0⟩ := unhide HR
    cases more
    · have HE : Hid (∃ G', Gq w wr qb (.slice (some ⟨g, 0, none⟩) N cap) rb rv L G' ∧ Sq L K G' ∧ ∀ m, 1 ≤ m → m ≤ L.length → Okm L G' m) := ⟨G0, q0, sq0, ok0 rfl⟩
      clear HR q0 sq0 ok0
      go_wp2_with fail
      go_end0
      exact ⟨rfl, unhide HE⟩
    · obtain ⟨zo, hzo⟩ : ∃ zo, zo = nfW wr qb := ⟨_, rfl⟩
      have hz2 : zo = nf G0 := by rw [hzo]; exact q0.kq.nf (by have := sq0.len; omega)
      have HZ := hide (And.intro hzo hz2)
      have HP : Hid (∃ G1, Gq w wr qb (.slice (some ⟨g, 0, none⟩) N cap) rb rv L G1 ∧ Ps L K G0 G1 false 1) := ⟨G0, q0, Ps.start sq0⟩
      clear HR q0 sq0 ok0 hzo hz2
      go_wp2_with fail
      go_loopw [2, 3] (fun mv nv wr => ∃ (more : Bool) (n : Nat), mv = .bool more ∧ nv = .int .i64 (n : Int) ∧ 1 ≤ n ∧ n ≤ N ∧ Hid (∃ G1, Gq w wr qb (.slice (some ⟨g, 0, none⟩) N cap) rb rv L G1 ∧ Ps L K G0 G1 more n)) (fun _ nv _ => (N - intOf nv).toNat)
      case atStart => exact ⟨false, 1, rfl, rfl, by omega, hN1, HP⟩
      case round =>
        clear HP
        obtain ⟨more, n, rfl, rfl, hn1, hnN, HR⟩ := hrel
        obtain ⟨G1, q1, p1⟩ := unhide HR
        have c1 := q1.kq.cells.2.1
        by_cases hlt : n < N
        · have hlen := p1.sq.len
          obtain ⟨hd, hG, hL, hNL⟩ := unhide HN
          have cm := q1.kq.rg.cell (g := g) rfl (m := n) (by omega)
          have ef := own_frozen q1.kq.rg (g := g) rfl n
          have KM := makes_any qb _ rb rv G1 L n wr q1.kq q1.rs hlen hn1 (by omega)
          have hn' : (n : Int) < (N : Int) := by omega
          have HQ := hide (And.intro q1 (And.intro p1 hlen))
          have hgw := lt_of_cell cm
          have hqw := lt_of_cell c1
          clear q1 p1 hlen hd hG hL hNL HR
          cases on : onB G1 n
          · rw [on] at cm
            cases mk : mkR L G1 n
            · rw [mk] at KM
              have HX : Hid (∀ W', Below wr.heap.size wr W' → (Gq w W' qb (.slice (some ⟨g, 0, none⟩) N cap) rb rv L G1 ∧ Ps L K G0 G1 more (n + 1)) ∧ W'.cell? ⟨qb, 1, none⟩ = some (.slice (some ⟨g, 0, none⟩) N cap) ∧ W'.cell? ⟨g, n, none⟩ = some (.bool false)) := fun W' hb => by
                obtain ⟨q1, p1, hlen⟩ := unhide HQ
                obtain ⟨hd, hG, hL, hNL⟩ := unhide HN
                have q2 := q1.new hb
                have := q2.kq.rg.cell (g := g) rfl (m := n) (by omega)
                rw [on] at this
                exact ⟨⟨q2, p1.skip on mk⟩, q2.kq.cells.2.1, this⟩
              clear on mk
              go_wp2_with fail
              refine KM.mono ?_
              rintro e w4 ⟨rfl, b4⟩
              obtain ⟨X, d1, d2⟩ := unhide HX _ b4
              have HX4 := hide X
              clear KM b4 X c1 cm ef
              go_wp2_with fail
              go_roundw
              case rel => exact ⟨more, n + 1, rfl, by go_num, by omega, by omega, G1, unhide HX4⟩
              case measure => simp only [intOf]; omega
            · rw [mk] at KM
              have HX : Hid (∀ W', Below wr.heap.size wr W' → (Gq w (W'.setCell ⟨g, n, none⟩ (.bool true)) qb (.slice (some ⟨g, 0, none⟩) N cap) rb rv L (G1.set n true) ∧ Ps L K G0 (G1.set n true) true n) ∧ W'.cell? ⟨qb, 1, none⟩ = some (.slice (some ⟨g, 0, none⟩) N cap) ∧ W'.cell? ⟨g, n, none⟩ = some (.bool false) ∧ W'.frozen? ⟨g, n, none⟩ = false) := fun W' hb => by
                obtain ⟨q1, p1, hlen⟩ := unhide HQ
                obtain ⟨hd, hG, hL, hNL⟩ := unhide HN
                have q2 := q1.new hb
                have := q2.kq.rg.cell (g := g) rfl (m := n) (by omega)
                rw [on] at this
                exact ⟨⟨q2.set hd n, p1.made hn1 (by omega) on mk⟩, q2.kq.cells.2.1, this, own_frozen q2.kq.rg (g := g) rfl n⟩
              clear on mk
              go_wp2_with fail
              refine KM.mono ?_
              rintro e w4 ⟨rfl, b4⟩
              obtain ⟨⟨q3, p3⟩, d1, d2, d3⟩ := unhide HX _ b4
              have hs4 := b4.size
              have KV : Calls Try.prog 45 #[.pointer (some ⟨qb, 0, none⟩), .int .i64 (n : Int)] (w4.setCell ⟨g, n, none⟩ (.bool true)) fun e w' => e = .returned (.bool (gvM L (G1.set n true) n)) ∧ Kq w' qb (.slice (some ⟨g, 0, none⟩) N cap) rb (gvG L (G1.set n true) n) ∧ Fr (qfoot qb (.slice (some ⟨g, 0, none⟩) N cap)) (w4.setCell ⟨g, n, none⟩ (.bool true)) w' := by
                obtain ⟨hd, hG, hL, hNL⟩ := unhide HN
                exact give_any qb _ rb rv _ L n _ q3.kq q3.rs hd p3.sq.len hn1 (by omega)
              have HY : Hid (∀ W' r, r = gvM L (G1.set n true) n → Kq W' qb (.slice (some ⟨g, 0, none⟩) N cap) rb (gvG L (G1.set n true) n) → Fr (qfoot qb (.slice (some ⟨g, 0, none⟩) N cap)) (w4.setCell ⟨g, n, none⟩ (.bool true)) W' → ∃ G2, Gq w W' qb (.slice (some ⟨g, 0, none⟩) N cap) rb rv L G2 ∧ Ps L K G0 G2 true (n + 1)) := fun W' r er k f => by
                obtain ⟨hd, hG, hL, hNL⟩ := unhide HN
                have on2 : On (G1.set n true) n := (on_set (by have := (unhide HQ).2.2; omega)).2 (Or.inl rfl)
                refine ⟨_, q3.step hd k f, ?_⟩
                cases hg : gvM L (G1.set n true) n
                · exact p3.gave0 on2 hg
                · exact p3.gave hG hn1 (by omega) on2 hg
              have e5 : (w4.setCell ⟨g, n, none⟩ (.bool true)).cell? ⟨qb, 1, none⟩ = some (.slice (some ⟨g, 0, none⟩) N cap) := q3.kq.cells.2.1
              have e6 : (w4.setCell ⟨g, n, none⟩ (.bool true)).cell? ⟨g, n, none⟩ = some (.bool true) := by
                have := q3.kq.rg.cell (g := g) rfl (m := n) (by have := (unhide HQ).2.2; have := (unhide HN).2.2.2; simp; omega)
                rw [onB_iff.2 ((on_set (by have := (unhide HQ).2.2; have := (unhide HN).2.2.2; omega)).2 (Or.inl rfl))] at this
                exact this
              clear KM b4 q3 p3 c1 cm ef
              go_upto_region 9 with fail
              obtain ⟨W5, hW5⟩ : ∃ W5, W5 = w4.setCell ⟨g, n, none⟩ (.bool true) := ⟨_, rfl⟩
              rw [← hW5] at KV HY e5 e6 ⊢
              clear hW5 d1 d2 d3
              obtain ⟨rr, hrr⟩ : ∃ rr, rr = gvM L (G1.set n true) n := ⟨_, rfl⟩
              rw [← hrr] at KV
              have HRR := hide hrr
              clear hrr
              go_wp2_with fail
              refine KV.mono ?_
              rintro e w6 ⟨rfl, k6, f6⟩
              have HX6 := hide (unhide HY _ _ (unhide HRR) k6 f6)
              clear KV k6 f6
              cases rr
              · go_wp2_with fail
                go_roundw
                case rel => exact ⟨true, n + 1, rfl, by go_num, by omega, by omega, HX6⟩
                case measure => simp only [intOf]; omega
              · go_wp2_with fail
                go_roundw
                case rel => exact ⟨true, n + 1, rfl, by go_num, by omega, by omega, HX6⟩
                case measure => simp only [intOf]; omega
          · rw [on] at cm
            have HON := hide (onB_iff.1 on)
            clear KM
            have KV : Calls Try.prog 45 #[.pointer (some ⟨qb, 0, none⟩), .int .i64 (n : Int)] wr fun e w' => e = .returned (.bool (gvM L G1 n)) ∧ Kq w' qb (.slice (some ⟨g, 0, none⟩) N cap) rb (gvG L G1 n) ∧ Fr (qfoot qb (.slice (some ⟨g, 0, none⟩) N cap)) wr w' := by
              obtain ⟨hd, hG, hL, hNL⟩ := unhide HN
              obtain ⟨q1, p1, hlen⟩ := unhide HQ
              exact give_any qb _ rb rv _ L n _ q1.kq q1.rs hd hlen hn1 (by omega)
            have HY : Hid (∀ W', Kq W' qb (.slice (some ⟨g, 0, none⟩) N cap) rb (gvG L G1 n) → Fr (qfoot qb (.slice (some ⟨g, 0, none⟩) N cap)) wr W' → Gq w W' qb (.slice (some ⟨g, 0, none⟩) N cap) rb rv L (gvG L G1 n)) := fun W' k f => (unhide HQ).1.step (unhide HN).1 k f
            have HY0 : Hid (gvM L G1 n = false → Ps L K G0 (gvG L G1 n) more (n + 1)) := fun hg => (unhide HQ).2.1.gave0 (unhide HON) hg
            have HY1 : Hid (gvM L G1 n = true → Ps L K G0 (gvG L G1 n) true (n + 1)) := fun hg => (unhide HQ).2.1.gave (unhide HN).2.1 hn1 (by have := (unhide HN).2.2.2; omega) (unhide HON) hg
            obtain ⟨rr, hrr⟩ : ∃ rr, rr = gvM L G1 n := ⟨_, rfl⟩
            rw [← hrr] at KV HY0 HY1
            clear hrr on
            go_wp2_with fail
            refine KV.mono ?_
            rintro e w6 ⟨rfl, k6, f6⟩
            have HX6 := hide (unhide HY _ k6 f6)
            clear KV k6 f6
            cases rr
            · go_wp2_with fail
              go_roundw
              case rel => exact ⟨more, n + 1, rfl, by go_num, by omega, by omega, _, unhide HX6, unhide HY0 trivial⟩
              case measure => simp only [intOf]; omega
            · go_wp2_with fail
              go_roundw
              case rel => exact ⟨true, n + 1, rfl, by go_num, by omega, by omega, _, unhide HX6, unhide HY1 trivial⟩
              case measure => simp only [intOf]; omega
        · obtain rfl : n = N := by omega
          have hn' : ¬ ((n : Int) < (n : Int)) := by omega
          have HE : Hid ((∃ G', Gq w wr qb (.slice (some ⟨g, 0, none⟩) n cap) rb rv L G' ∧ Sq L K G' ∧ (more = false → ∀ m, 1 ≤ m → m ≤ L.length → Okm L G' m)) ∧ (match Value.bool more with | .bool true => nfW wr qb + 1 | _ => 0) < zo + 1) := by
            obtain ⟨hd, hG, hL, hNL⟩ := unhide HN
            refine ⟨⟨G1, q1, p1.sq, fun c m h1 h2 => p1.ok c m h1 (by omega)⟩, ?_⟩
            cases more
            · simp
            · have := p1.lt rfl
              have h2 := q1.kq.nf (by have := p1.sq.len; omega)
              simp only
              rw [h2, (unhide HZ).2]
              omega
          clear q1 p1 HR
          go_wp2_with fail
          go_roundw
          case rel => exact ⟨more, rfl, (unhide HE).1⟩
          case measure => have := (unhide HE).2; rw [(unhide HZ).1] at this; exact this

end Go.Proofs.Ytfpimmbjjcpobaa
