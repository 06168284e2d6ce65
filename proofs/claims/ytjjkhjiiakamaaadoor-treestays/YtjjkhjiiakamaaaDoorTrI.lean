/- The contracts of Resolution and Path. -/
import Derived.Test.YtjjkhjiiakamaaaDoorTrH
namespace Go.Proofs.YtjjkhjiiakamaaaDoor
open Go.RowKit Go.Maps

def resE (T : List Nd) (x : Int) : Int := if mayB T = false then 1 else if x < 0 ∨ (T.length : Int) ≤ x then 7 else 0
theorem mayB_okn {T : List Nd} (h : mayB T = true) (h0 : 0 < T.length) : Ok T := by
  rcases mayB_ok h with rfl | h
  · simp at h0
  · exact h
theorem nlv_pos {T : List Nd} (h : 0 < nlv T) : 0 < T.length := by unfold nlv at h; omega
set_option maxRecDepth 100000 in
set_option maxHeartbeats 1000000 in
theorem resolutionX_any {w : World} {v : Value} {T : List Nd} (h : Trd w v T) (hT : Tab w) (x : Int) :
    Calls Tryd.prog 19 #[.agg #[v], .int .i64 x] w fun e w' => ∃ r, e = .returned (.tuple #[r, .int .i64 (resE T x)]) ∧ Ints w.heap.size w' r (if resE T x = 0 then rsl T x.toNat else []) ∧ Below w.heap.size w w' := by
  have K := mayBe_any (h.bw (bwA w (.cells #[v] 24))) (hT.bw (bwA _ _))
  have KR : Hid (∀ W, mayB T = true → 0 ≤ x → x < (T.length : Int) → Below w.heap.size w W → Calls Tryd.prog 41 #[.agg #[v], .int .i64 x] W fun e w' => ∃ r, e = .returned r ∧ Ints W.heap.size w' r (rsl T x.toNat) ∧ Below W.heap.size W w') := fun W q h1 h2 hW => by
    have ok := mayB_okn q (by omega)
    obtain ⟨g1, g2, g3, g4, g5⟩ := ok.wd.facts
    obtain ⟨n, rfl⟩ : ∃ n : Nat, x = n := ⟨x.toNat, by omega⟩
    exact resolution_at ok.wd ok.sm n (by omega) (h.bw hW) (hT.bw hW)
  obtain ⟨a, c, rfl⟩ := h.slice
  have hl : (T.length : Int) ≤ 140737488355328 := by have := h.len; omega
  obtain ⟨E, hE⟩ : ∃ E, E = resE T x := ⟨_, rfl⟩
  rw [← hE]
  unfold resE at hE
  have HE := hide hE
  clear h hT hE
  generalize mayB T = p at *
  generalize T.length = N at *
  generalize rsl T x.toNat = L at *
  go_enter Tryd.func19, Tryd.ntmps19
  go_wp2_with fail
  refine K.mono ?_
  rintro e w1 ⟨rfl, b1⟩
  have c1 := bx_cell b1
  have b2 := bx_bel b1
  cases p
  · obtain rfl : E = 1 := by rw [unhide HE]; simp
    clear KR HE
    go_wp2
    go_ret2
    exact ⟨_, rfl, ints_nil _ _, b2⟩
  · by_cases g1 : x < 0
    · obtain rfl : E = 7 := by rw [unhide HE]; simp [g1]
      clear KR HE
      go_wp2
      go_ret2
      exact ⟨_, rfl, ints_nil _ _, b2⟩
    · have g1' : decide (x < 0) = false := decide_eq_false g1
      by_cases g2 : (N : Int) ≤ x
      · obtain rfl : E = 7 := by rw [unhide HE]; simp [g2]
        clear KR HE
        go_wp2
        go_ret2
        exact ⟨_, rfl, ints_nil _ _, b2⟩
      · have g2' : decide ((N : Int) ≤ x) = false := decide_eq_false g2
        obtain rfl : E = 0 := by rw [unhide HE]; simp [g1, g2]
        have KR2 := unhide KR w1 rfl (by omega) (by omega) b2
        have hsz := b2.size
        clear KR HE
        go_wp2_with fail
        refine KR2.mono ?_
        rintro e w3 ⟨r, rfl, hr, b3⟩
        go_wp2
        go_ret2
        exact ⟨_, rfl, by simpa using hr.mono hsz, bw_tr b2 b3⟩
set_option maxRecDepth 100000 in
set_option maxHeartbeats 1000000 in
theorem pathX_any {w : World} {v : Value} {T : List Nd} (h : Trd w v T) (hT : Tab w) (i : Int) :
    Calls Tryd.prog 17 #[.agg #[v], .int .i64 i] w fun e w' => ∃ r, e = .returned (.tuple #[r, .int .i64 (askE T i)]) ∧ Ints w.heap.size w' r (if askE T i = 0 then pth T i.toNat else []) ∧ Below w.heap.size w w' := by
  have K := mayBe_any (h.bw (bwA w (.cells #[v] 24))) (hT.bw (bwA _ _))
  have KH : Hid (∀ W, mayB T = true → Below w.heap.size w W → Calls Tryd.prog 37 #[.agg #[v], .int .i64 i] W fun e w' => e = .returned (.bool (hasL T i)) ∧ Below W.heap.size W w') := fun W q hW => hasLeaf_any (h.bw hW) (mayB_15 q).1 i
  have KP : Hid (∀ W, mayB T = true → hasL T i = true → Below w.heap.size w W → Calls Tryd.prog 38 #[.agg #[v], .int .i64 i] W fun e w' => ∃ nv ov us, e = .returned (.tuple #[nv, ov]) ∧ PI W.heap.size w' nv ov (prs T i.toNat) us ∧ Below W.heap.size W w') := fun W q q2 hW => by
    have h0 : 0 ≤ i := by
      apply Decidable.byContradiction; intro c; unfold hasL at q2; rw [decide_eq_false c] at q2; simp at q2
    obtain ⟨n, rfl⟩ : ∃ n : Nat, i = n := ⟨i.toNat, by omega⟩
    obtain ⟨h1, h2⟩ := hasL_pos q2
    have ok := mayB_okn q (nlv_pos (by omega))
    exact path_any (h.bw hW) ok.wd ok.sm (hT.bw hW) h1
  obtain ⟨E, hE⟩ : ∃ E, E = askE T i := ⟨_, rfl⟩
  rw [← hE]
  unfold askE at hE
  have HE := hide hE
  have HPth : Hid (pth T i.toNat = (prs T i.toNat).map fun p => (p.1 : Int)) := rfl
  clear h hT hE
  generalize mayB T = p at *
  generalize hasL T i = q at *
  generalize pth T i.toNat = L at *
  generalize prs T i.toNat = PP at *
  go_enter Tryd.func17, Tryd.ntmps17
  go_wp2_with fail
  refine K.mono ?_
  rintro e w1 ⟨rfl, b1⟩
  have c1 := bx_cell b1
  have b2 := bx_bel b1
  cases p
  · obtain rfl : E = 1 := by rw [unhide HE]; simp
    clear KH KP HE
    go_wp2
    go_ret2
    exact ⟨_, rfl, ints_nil _ _, b2⟩
  · have KH2 := unhide KH w1 rfl b2
    have KP1 := hide (fun W => unhide KP W rfl)
    clear KH KP
    go_wp2_with fail
    refine KH2.mono ?_
    rintro e w2 ⟨rfl, b3⟩
    have b4 := bw_tr b1 b3
    have c2 := bx_cell b4
    have b5 := bx_bel b4
    cases q
    · obtain rfl : E = 7 := by rw [unhide HE]; simp
      clear KP1 HE KH2
      go_wp2
      go_ret2
      exact ⟨_, rfl, ints_nil _ _, b5⟩
    · obtain rfl : E = 0 := by rw [unhide HE]; simp
      have KP2 := unhide KP1 w2 rfl b5
      have hsz := b5.size
      clear KP1 HE KH2 c1
      go_wp2_with fail
      refine KP2.mono ?_
      rintro e w3 ⟨nv, ov, us, rfl, hPI, b6⟩
      have hr := hPI.ns
      rw [← unhide HPth] at hr
      clear hPI HPth
      go_wp2
      go_ret2
      exact ⟨_, rfl, by simpa using hr.mono hsz, bw_tr b5 b6⟩
end Go.Proofs.YtjjkhjiiakamaaaDoor
