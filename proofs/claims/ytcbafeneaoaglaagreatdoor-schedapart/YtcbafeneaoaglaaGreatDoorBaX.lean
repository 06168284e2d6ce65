/- Texts joined: TrC TrLib TrD TrE TrF. -/
import Derived.Test.YtcbafeneaoaglaaGreatDoorTrB
import Derived.Shelf.SortM.Plain
import Derived.Shelf.SortM.SortNone
import Derived.Shelf.Slices.CompactI
import Derived.Shelf.Slices.SearchI
import Derived.Shelf.Slices.Empties
/- Contracts of unmergedMayBe and nodeMayBe. -/
namespace Go.Proofs.YtcbafeneaoaglaaGreatDoor
open Go.RowKit Go.Maps

/-- A tree's number of nodes. -/
def Wd (T : List Nd) : Prop := ∃ n ∈ sizes, T.length = 2 * n - 1
theorem Wd.facts {T : List Nd} (h : Wd T) : nlv T ∈ sizes ∧ T.length = 2 * nlv T - 1 ∧ T.length ≤ 15 ∧ nlv T ≤ 8 ∧ 0 < nlv T := by
  obtain ⟨n, hn, e⟩ := h
  have : nlv T = n := by unfold nlv; simp [sizes] at hn; omega
  rw [this]
  refine ⟨hn, e, ?_, ?_, ?_⟩ <;> (simp [sizes] at hn; omega)
theorem span_of {n x : Nat} (hn : n ∈ sizes) (hx : x < 2 * n - 1) : (0 ≤ spF (x : Nat) ∧ spF (x : Nat) ≤ spT (x : Nat) ∧ spT (x : Nat) < (n : Nat) ∧ (x % 2 = 1 ∨ (2 * spF (x : Nat) = (x : Nat) ∧ 2 * spT (x : Nat) = (x : Nat)))) ∧
    (x % 2 = 1 → lfV (x : Nat) = (lN x : Nat) ∧ rtV (x : Nat) = (rN x : Nat) ∧ lfB (x : Nat) = true ∧ rtB (x : Nat) = true ∧ lN x < 2 * n - 1 ∧ rN x < 2 * n - 1 ∧ lvl (lN x : Nat) + 1 = lvl (x : Nat) ∧ lvl (rN x : Nat) + 1 = lvl (x : Nat) ∧ spF (lN x : Nat) = spF (x : Nat) ∧ spT (lN x : Nat) + 1 = spF (rN x : Nat) ∧ spT (rN x : Nat) = spT (x : Nat)) ∧
    0 ≤ lvl (x : Nat) ∧ lvl (x : Nat) ≤ 3 ∧ (lvl (x : Nat) = 0 ↔ x % 2 = 0) ∧ lfB (x : Nat) = decide (x % 2 = 1) := by
  have h := List.all_eq_true.1 fin_span n hn
  have h := List.all_eq_true.1 h x (List.mem_range.2 hx)
  simp only [Bool.and_eq_true, Bool.or_eq_true, decide_eq_true_eq] at h
  obtain ⟨⟨⟨⟨⟨⟨⟨⟨h1, h2⟩, h3⟩, h4⟩, h5⟩, h6⟩, h7⟩, h8⟩, h9⟩ := h
  refine ⟨⟨h1, h2, h3, h4⟩, fun hp => ?_, h6, h7, h8, h9⟩
  rcases h5 with c | ⟨⟨⟨⟨⟨⟨⟨⟨⟨⟨a1, a2⟩, a3⟩, a4⟩, a5⟩, a6⟩, a7⟩, a8⟩, a9⟩, a10⟩, a11⟩
  · omega
  · exact ⟨a1, a2, a3, a4, a5, a6, a7, a8, a9, a10, a11⟩
set_option maxRecDepth 100000 in
set_option maxHeartbeats 2000000 in
theorem unmerged_any {w : World} {v : Value} {T : List Nd} (h : Trd w v T) (hw : Wd T) (hT : Tab w) {x : Nat} (hx : x < T.length) :
    Calls Tryz.prog 102 #[.agg #[v], .int .i64 (x : Int)] w fun e w' => e = .returned (.bool (unM T (spF (x : Nat)) (spT (x : Nat)) (ndAt T x).un)) ∧ Below w.heap.size w w' := by
  obtain ⟨g1, g2, g3, g4, g5⟩ := hw.facts
  obtain ⟨⟨s1, s2, s3, -⟩, -⟩ := span_of g1 (show x < 2 * nlv T - 1 by omega)
  obtain ⟨a, c, rfl⟩ := h.slice
  obtain ⟨w0, hw0⟩ : ∃ w0, w0 = bxw w (.slice a T.length c) := ⟨_, rfl⟩
  have HB : Hid (∀ W, Below w0.heap.size w0 W → W.cell? ⟨w.heap.size, 0, none⟩ = some (.slice a T.length c) ∧ Below w.heap.size w W) := fun W hW => by subst hw0; exact ⟨bx_cell hW, bx_bel hW⟩
  have KS := span_any (x : Int) w0 (by omega) (hT.bw (by rw [hw0]; exact bwA _ _))
  have KB : Hid (∀ (W : World) (y : Nat), Below w.heap.size w W → y < T.length → Calls Tryz.prog 106 #[.agg #[.slice a T.length c], .int .i64 (y : Int)] W fun e w' => e = .returned (.bool (!pos (ndAt T y))) ∧ Below W.heap.size W w') := fun W y hW hy => blank_any (h.bw hW) hy
  obtain ⟨-, h2⟩ := h.at
  obtain ⟨b, o, rfl, h3⟩ := h2 (by omega)
  obtain ⟨u, k1, k2⟩ := h3 w (Below.refl _ _) x hx
  have hB : b < w.heap.size := lt_of_cell k1.c3
  have HU : Hid (∀ W, Below w.heap.size w W → W.cell? ⟨b, o + x * 4 + 3, none⟩ = some u) := fun W hW => (k1.bw hB hW).c3
  obtain ⟨au, cu, rfl⟩ := nums_slice k2
  have hul := h.unl _ (ndAt_mem hx)
  generalize (ndAt T x).un = l at *
  have HL : Hid (∀ i z, l[i]? = some z → ∃ g o', au = some ⟨g, o', none⟩ ∧ ∀ W, Below w.heap.size w W → W.cell? ⟨g, o' + i, none⟩ = some (.int .i64 z)) := fun i z hz => by
    obtain ⟨g, o', cap, e, hc⟩ := k2.open (by have := (List.getElem?_eq_some_iff.1 hz).1; omega)
    cases e
    refine ⟨g, o', rfl, fun W hW => ?_⟩
    have hcc := hc i z hz
    rw [hW.cell (p := ⟨g, o' + i, none⟩) (lt_of_cell (a := ⟨g, o' + i, none⟩) hcc)]; exact hcc
  have HX : Hid (∀ i : Nat, (i : Int) ≤ spT (x : Nat) → 2 * i < T.length) := fun i hi => by omega
  have hF : spT (x : Nat) ≤ 7 := by omega
  have hF0 : (0 : Int) ≤ spF (x : Nat) := s1
  have hF1 : spF (x : Nat) ≤ 7 := by omega
  have HW : Hid (w0 = w.alloc (.cells #[.slice (some ⟨b, o, none⟩) T.length c] 25)) := hw0
  obtain ⟨r, hr⟩ : ∃ r, r = unM T (spF (x : Nat)) (spT (x : Nat)) l := ⟨_, rfl⟩
  rw [← hr]
  have HR := hide hr
  have hx1 : (x : Int) < (T.length : Int) := by omega
  have hx2 : (0 : Int) ≤ (x : Int) := by omega
  clear hr h h2 h3 k1 k2 hw0 g1 g2 g4 g5 s1 s2 s3 hw hx
  generalize spF (x : Nat) = F at *
  generalize spT (x : Nat) = L at *
  obtain ⟨M, hM⟩ : ∃ M, M = l.length := ⟨_, rfl⟩
  have hM1 : (M : Int) ≤ 140737488355328 := by omega
  rw [← hM] at HU
  have HM := hide hM
  have g3' : (T.length : Int) ≤ 15 := by omega
  clear hM hul g3
  generalize hN : T.length = N at *
  clear hN
  go_enter Tryz.func102, Tryz.ntmps102
  go_wp2_with fail
  rw [← unhide HW]
  refine KS.mono ?_
  rintro e w0 ⟨rfl, rfl⟩
  obtain ⟨c1, hbw⟩ := unhide HB _ (Below.refl _ _)
  have c2 := unhide HU _ hbw
  clear KS
  go_wp2_with fail
  go_loopw [5, 21] (fun fv iv wr => ∃ (i : Nat) (f : Int), iv = .int .i64 (i : Int) ∧ fv = .int .i64 f ∧ i ≤ M ∧ 0 ≤ f ∧ f ≤ 8 ∧ Hid (unM T f L (l.drop i) = r) ∧ Below w0.heap.size w0 wr) (fun _ iv _ => (M - (intOf iv)).toNat)
  case atStart => exact ⟨0, F, rfl, rfl, by omega, hF0, by omega, (unhide HR).symm, Below.refl _ _⟩
  case round =>
    clear c1 c2 hbw
    obtain ⟨i, f, rfl, rfl, hin, hf0, hf8, hrem, hbel⟩ := hrel
    obtain ⟨c1, hbw⟩ := unhide HB _ hbel
    by_cases hlt : i < M
    · obtain ⟨z, hz⟩ : ∃ z, l[i]? = some z := ⟨_, List.getElem?_eq_getElem (by have := unhide HM; omega)⟩
      obtain ⟨g, o', rfl, hc⟩ := unhide HL i z hz
      have c2 := hc _ hbw
      have q1 : (i : Int) < (M : Int) := by omega
      have q0 : (0 : Int) ≤ (i : Int) := by omega
      have hd : l.drop i = z :: l.drop (i + 1) := by
        rw [List.drop_eq_getElem_cons (by have := unhide HM; omega)]; congr 1
        have := List.getElem?_eq_some_iff.1 hz; exact this.2
      have HD : Hid ((decide (f ≤ z) && decide (z ≤ L) && pos (ndAt T (2 * z.toNat)) && unM T (z + 1) L (l.drop (i + 1))) = r) := by
        have := unhide hrem; rw [hd] at this; exact this
      clear hd hz hrem hc
      by_cases k1 : z < f
      · have e : r = false := by rw [← unhide HD, decide_eq_false (by omega)]; simp
        subst e
        go_wp2_with fail
        go_ret
        exact ⟨rfl, hbw⟩
      · have k1' : decide (z < f) = false := by simp; omega
        by_cases k2 : L < z
        · have e : r = false := by rw [← unhide HD, decide_eq_false (show ¬ z ≤ L by omega)]; simp
          subst e
          go_wp2_with fail
          go_ret
          exact ⟨rfl, hbw⟩
        · have k2' : decide (L < z) = false := by simp; omega
          obtain ⟨y, hy⟩ : ∃ y : Nat, y = 2 * z.toNat := ⟨_, rfl⟩
          have K := unhide KB wr y hbw (by rw [hy]; exact unhide HX z.toNat (by omega))
          have q3 : 2 * z = (y : Int) := by omega
          have HD2 : Hid ((pos (ndAt T y) && unM T (z + 1) L (l.drop (i + 1))) = r) := by
            have := unhide HD; rw [decide_eq_true (show f ≤ z by omega), decide_eq_true (show z ≤ L by omega), ← hy] at this; simpa [Hid] using this
          have z0 : 0 ≤ z := by omega
          have z7 : z ≤ 7 := by omega
          clear hy HD
          generalize pos (ndAt T y) = p at *
          go_wp2_with fail
          refine K.mono ?_
          rintro e w2 ⟨rfl, b2⟩
          have hbel2 := bw_tr hbel b2
          cases p
          · have e : r = false := by rw [← unhide HD2]; rfl
            subst e
            go_wp2_with fail
            go_ret
            exact ⟨rfl, (unhide HB _ hbel2).2⟩
          · have HD3 : Hid (unM T (z + 1) L (l.drop (i + 1)) = r) := by have := unhide HD2; simpa [Hid] using this
            clear HD2 K
            go_wp2_with fail
            go_roundw
            case rel => exact ⟨i + 1, z + 1, by go_num, by go_num, by omega, by omega, by omega, HD3, hbel2⟩
            case measure => simp [intOf]; omega
    · have e : r = true := by
        rw [← unhide hrem, List.drop_of_length_le (by have := unhide HM; omega)]; rfl
      subst e
      have hie : i = M := by omega
      subst hie
      go_wp2_with fail
      go_ret
      exact ⟨rfl, hbw⟩

theorem ndM_def (T : List Nd) (x : Nat) {p m e : Int} {l : List Int} (hp : (ndAt T x).pub = p) (hm : (ndAt T x).mem = m) (he : (ndAt T x).ep = e) (hl : (ndAt T x).un = l) : ndM T x = if p = 0 then m == 0 && e == 0 && l.isEmpty else if p < 0 then false else if x % 2 = 0 then decide (0 ≤ m) && decide (0 ≤ e) && l.isEmpty else m == 0 && e == 0 && unM T (spF (x : Nat)) (spT (x : Nat)) l := by
  unfold ndM; rw [hp, hm, he, hl]
set_option maxRecDepth 100000 in
set_option maxHeartbeats 4000000 in
theorem nodeMay_any {w : World} {v : Value} {T : List Nd} (h : Trd w v T) (hw : Wd T) (hT : Tab w) {x : Nat} (hx : x < T.length) :
    Calls Tryz.prog 93 #[.agg #[v], .int .i64 (x : Int)] w fun e w' => e = .returned (.bool (ndM T x)) ∧ Below w.heap.size w w' := by
  obtain ⟨g1, g2, g3, g4, g5⟩ := hw.facts
  obtain ⟨-, -, -, -, s4, -⟩ := span_of g1 (show x < 2 * nlv T - 1 by omega)
  obtain ⟨a, c, rfl⟩ := h.slice
  obtain ⟨-, h2⟩ := h.at
  obtain ⟨b, o, rfl, h3⟩ := h2 (by omega)
  obtain ⟨u, k1, k2⟩ := h3 _ (bwA w (.cells #[.slice (some ⟨b, o, none⟩) T.length c] 25)) x hx
  obtain ⟨au, cu, rfl⟩ := nums_slice k2
  obtain ⟨c0, c1, c2, c3⟩ := k1
  have hul := h.unl _ (ndAt_mem hx)
  obtain ⟨p, hp⟩ : ∃ p, (ndAt T x).pub = p := ⟨_, rfl⟩
  obtain ⟨m, hm⟩ : ∃ p, (ndAt T x).mem = p := ⟨_, rfl⟩
  obtain ⟨e, he⟩ : ∃ p, (ndAt T x).ep = p := ⟨_, rfl⟩
  obtain ⟨l, hl⟩ : ∃ p, (ndAt T x).un = p := ⟨_, rfl⟩
  have HD := hide (ndM_def T x hp hm he hl)
  have KU : Hid (∀ W, Below w.heap.size w W → Calls Tryz.prog 102 #[.agg #[.slice (some ⟨b, o, none⟩) T.length c], .int .i64 (x : Int)] W fun e w' => e = .returned (.bool (unM T (spF (x : Nat)) (spT (x : Nat)) l)) ∧ Below W.heap.size W w') := fun W hW => by rw [← hl]; exact unmerged_any (h.bw hW) hw (hT.bw hW) hx
  have KV : Hid (∀ W, Below w.heap.size w W → Calls Tryz.prog 101 #[.int .i64 (x : Int)] W fun e w' => e = .returned (.int .i64 (lvl (x : Nat))) ∧ w' = W) := fun W hW => level_any (x : Int) W (by omega) (hT.bw hW)
  rw [hp] at c0
  rw [hm] at c1
  rw [he] at c2
  rw [hl] at c3 hul
  have hemp : l.isEmpty = ((l.length : Int) == 0) := by cases l <;> simp <;> omega
  rw [hemp] at HD
  have s5 : (lvl (x : Nat) == 0) = decide (x % 2 = 0) := by
    by_cases q : x % 2 = 0
    · rw [s4.2 q]; simp [q]
    · have : lvl (x : Nat) ≠ 0 := fun k => q (s4.1 k)
      simp [q, this]
  obtain ⟨M, hM⟩ : ∃ M, M = l.length := ⟨_, rfl⟩
  rw [← hM] at c3 hul HD
  have hM1 : (M : Int) ≤ 140737488355328 := by omega
  obtain ⟨r, hr⟩ : ∃ r, r = ndM T x := ⟨_, rfl⟩
  rw [← hr] at HD ⊢
  generalize unM T (spF (x : Nat)) (spT (x : Nat)) l = um at *
  have hx1 : (x : Int) < (T.length : Int) := by omega
  have hx2 : (0 : Int) ≤ (x : Int) := by omega
  have g3' : (T.length : Int) ≤ 15 := by omega
  clear h h2 h3 k2 hul hp hm he hl hemp s4 hM hr hT hw g1 g2 g3 g4 g5 hx
  generalize T.length = N at *
  generalize lvl (x : Nat) = lv at *
  by_cases k0 : p = 0
  · subst k0
    rw [if_pos rfl] at HD
    by_cases k1 : m = 0
    · subst k1
      by_cases k2 : e = 0
      · subst k2
        obtain rfl : r = ((M : Int) == 0) := by rw [unhide HD]; simp
        clear HD
        go_enter Tryz.func93, Tryz.ntmps93
        go_wp2
        go_ret
        exact ⟨rfl, (bwA _ _).alloc (by simp) _⟩
      · have k2' : (e == 0) = false := by simp [k2]
        have k2'' : decide (e = 0) = false := by simp [k2]
        obtain rfl : r = false := by rw [unhide HD, k2']; simp
        clear HD
        go_enter Tryz.func93, Tryz.ntmps93
        go_wp2
        go_ret
        exact ⟨rfl, (bwA _ _).alloc (by simp) _⟩
    · have k2' : (m == 0) = false := by simp [k1]
      have k2'' : decide (m = 0) = false := by simp [k1]
      obtain rfl : r = false := by rw [unhide HD, k2']; simp
      clear HD
      go_enter Tryz.func93, Tryz.ntmps93
      go_wp2
      go_ret
      exact ⟨rfl, (bwA _ _).alloc (by simp) _⟩
  · rw [if_neg k0] at HD
    have k0' : (p == 0) = false := by simp [k0]
    have k0'' : decide (p = 0) = false := by simp [k0]
    by_cases kn : p < 0
    · rw [if_pos kn] at HD
      obtain rfl := unhide HD
      clear HD
      go_enter Tryz.func93, Tryz.ntmps93
      go_wp2
      go_ret
      exact ⟨rfl, (bwA _ _).alloc (by simp) _⟩
    · rw [if_neg kn] at HD
      have KV2 := hide (unhide KV _ ((bwA w (.cells #[.slice (some ⟨b, o, none⟩) N c] 25)).alloc (by simp) (.cells #[.int .i64 p, .int .i64 m, .int .i64 e, .slice au M cu] 62)))
      have KU2 := hide (unhide KU _ ((bwA w (.cells #[.slice (some ⟨b, o, none⟩) N c] 25)).alloc (by simp) (.cells #[.int .i64 p, .int .i64 m, .int .i64 e, .slice au M cu] 62)))
      clear KV KU
      by_cases kl : x % 2 = 0
      · rw [if_pos kl] at HD
        have s6 : (lv == 0) = true := by rw [s5]; simp [kl]
        clear s5
        obtain rfl : lv = 0 := by simpa using s6
        clear s6
        by_cases k1 : 0 ≤ m
        · by_cases k2 : 0 ≤ e
          · obtain rfl : r = ((M : Int) == 0) := by rw [unhide HD, decide_eq_true k1, decide_eq_true k2]; simp
            clear HD
            go_enter Tryz.func93, Tryz.ntmps93
            go_wp2_with fail
            refine (unhide KV2).mono ?_
            rintro e1 w1 ⟨rfl, rfl⟩
            clear KV2
            go_wp2
            go_ret
            exact ⟨rfl, (bwA _ _).alloc (by simp) _⟩
          · have k2' : decide (0 ≤ e) = false := by simp; omega
            obtain rfl : r = false := by rw [unhide HD, k2']; simp
            clear HD
            go_enter Tryz.func93, Tryz.ntmps93
            go_wp2_with fail
            refine (unhide KV2).mono ?_
            rintro e1 w1 ⟨rfl, rfl⟩
            clear KV2
            go_wp2
            go_ret
            exact ⟨rfl, (bwA _ _).alloc (by simp) _⟩
        · have k2' : decide (0 ≤ m) = false := by simp; omega
          obtain rfl : r = false := by rw [unhide HD, k2']; simp
          clear HD
          go_enter Tryz.func93, Tryz.ntmps93
          go_wp2_with fail
          refine (unhide KV2).mono ?_
          rintro e1 w1 ⟨rfl, rfl⟩
          clear KV2
          go_wp2
          go_ret
          exact ⟨rfl, (bwA _ _).alloc (by simp) _⟩
      · rw [if_neg kl] at HD
        have s6 : (lv == 0) = false := by rw [s5]; simp [kl]
        have s7 : decide (lv = 0) = false := by simpa using s6
        clear s5
        by_cases k1 : m = 0
        · subst k1
          by_cases k2 : e = 0
          · subst k2
            obtain rfl : r = um := by rw [unhide HD]; simp
            clear HD
            go_enter Tryz.func93, Tryz.ntmps93
            go_wp2_with fail
            refine (unhide KV2).mono ?_
            rintro e1 w1 ⟨rfl, rfl⟩
            clear KV2
            go_wp2_with fail
            refine (unhide KU2).mono ?_
            rintro e1 w1 ⟨rfl, b1⟩
            go_wp2
            go_ret
            exact ⟨rfl, bw_tr ((bwA _ _).alloc (by simp) _) b1⟩
          · have k2' : (e == 0) = false := by simp [k2]
            have k2'' : decide (e = 0) = false := by simp [k2]
            obtain rfl : r = false := by rw [unhide HD, k2']; simp
            clear HD
            go_enter Tryz.func93, Tryz.ntmps93
            go_wp2_with fail
            refine (unhide KV2).mono ?_
            rintro e1 w1 ⟨rfl, rfl⟩
            clear KV2
            go_wp2
            go_ret
            exact ⟨rfl, (bwA _ _).alloc (by simp) _⟩
        · have k2' : (m == 0) = false := by simp [k1]
          have k2'' : decide (m = 0) = false := by simp [k1]
          obtain rfl : r = false := by rw [unhide HD, k2']; simp
          clear HD
          go_enter Tryz.func93, Tryz.ntmps93
          go_wp2_with fail
          refine (unhide KV2).mono ?_
          rintro e1 w1 ⟨rfl, rfl⟩
          clear KV2
          go_wp2
          go_ret
          exact ⟨rfl, (bwA _ _).alloc (by simp) _⟩
end Go.Proofs.YtcbafeneaoaglaaGreatDoor

/- The library's slices.Sort, slices.Compact and slices.BinarySearch at []int, laid off the shelf. -/
namespace Go.Proofs.YtcbafeneaoaglaaGreatDoor
open Go.Shelf Go.RowKit Go.Maps Go.Sort
def renSo : Go.Shelf.Ren := ⟨fun | 0 => 0 | 1 => 1 | 2 => 2 | 5 => 104 | 7 => 113 | 8 => 114 | 10 => 116 | 11 => 117 | 12 => 118 | 13 => 119 | 14 => 120 | 15 => 121 | 16 => 122 | 17 => 123 | 18 => 124 | 19 => 125 | 20 => 126 | 30 => 127 | 31 => 128 | 32 => 129 | 33 => 130 | 34 => 131 | 35 => 132 | 40 => 133 | 42 => 134 | 43 => 135 | 44 => 136 | 45 => 137 | 46 => 138 | 47 => 139 | 48 => 140 | 49 => 141 | 50 => 142 | 51 => 143 | 52 => 144 | 53 => 145 | 54 => 146 | 55 => 147 | 56 => 148 | 57 => 150 | n => n, fun | 0 => 0 | 1 => 1 | 2 => 2 | 3 => 3 | 4 => 4 | 5 => 5 | 6 => 6 | 7 => 7 | 8 => 8 | 9 => 9 | 10 => 10 | 11 => 11 | 12 => 12 | 13 => 13 | 14 => 14 | 15 => 15 | 16 => 16 | 17 => 17 | 18 => 18 | 19 => 19 | 20 => 20 | 21 => 21 | 22 => 55 | 23 => 55 | 24 => 101 | 25 => 3 | 30 => 142 | 31 => 143 | 32 => 144 | 34 => 146 | 35 => 147 | 36 => 148 | 37 => 149 | 38 => 150 | 39 => 47 | 40 => 151 | 41 => 109 | 42 => 152 | 43 => 153 | 44 => 154 | 45 => 140 | 46 => 141 | 53 => 155 | 54 => 156 | 55 => 157 | 56 => 158 | 57 => 159 | 58 => 160 | 59 => 59 | 63 => 161 | 64 => 129 | 65 => 162 | 67 => 163 | 68 => 164 | 69 => 165 | 70 => 166 | 71 => 167 | 72 => 168 | 73 => 89 | 74 => 169 | 75 => 170 | 76 => 171 | 77 => 172 | 78 => 173 | 79 => 174 | 80 => 175 | 81 => 176 | 82 => 177 | n => n, fun | n => n⟩
set_option maxRecDepth 100000 in
theorem laysSo : Go.Proofs.SlLaysM.n5 Tryz.prog renSo := {
  mixed := by kernel_rfl
  f5 := ⟨Tryz.f104.name, by decide, Tryz.func104.trans (congrArg some (by kernel_rfl))⟩
  f7 := ⟨Tryz.f113.name, by decide, Tryz.func113.trans (congrArg some (by kernel_rfl))⟩
  f8 := Tryz.func114.trans (congrArg some (by kernel_rfl))
  f10 := ⟨Tryz.f116.name, by decide, Tryz.func116.trans (congrArg some (by kernel_rfl))⟩
  f11 := ⟨Tryz.f117.name, by decide, Tryz.func117.trans (congrArg some (by kernel_rfl))⟩
  f12 := ⟨Tryz.f118.name, by decide, Tryz.func118.trans (congrArg some (by kernel_rfl))⟩
  f13 := ⟨Tryz.f119.name, by decide, Tryz.func119.trans (congrArg some (by kernel_rfl))⟩
  f14 := ⟨Tryz.f120.name, by decide, Tryz.func120.trans (congrArg some (by kernel_rfl))⟩
  f15 := ⟨Tryz.f121.name, by decide, Tryz.func121.trans (congrArg some (by kernel_rfl))⟩
  f16 := ⟨Tryz.f122.name, by decide, Tryz.func122.trans (congrArg some (by kernel_rfl))⟩
  f17 := ⟨Tryz.f123.name, by decide, Tryz.func123.trans (congrArg some (by kernel_rfl))⟩
  f18 := ⟨Tryz.f124.name, by decide, Tryz.func124.trans (congrArg some (by kernel_rfl))⟩
  f19 := Tryz.func125.trans (congrArg some (by kernel_rfl))
  f20 := Tryz.func126.trans (congrArg some (by kernel_rfl))
  f30 := ⟨Tryz.f127.name, by decide, Tryz.func127.trans (congrArg some (by kernel_rfl))⟩
  f31 := Tryz.func128.trans (congrArg some (by kernel_rfl))
  f32 := Tryz.func129.trans (congrArg some (by kernel_rfl))
  f33 := ⟨Tryz.f130.name, by decide, Tryz.func130.trans (congrArg some (by kernel_rfl))⟩
  f34 := ⟨Tryz.f131.name, by decide, Tryz.func131.trans (congrArg some (by kernel_rfl))⟩
  f35 := ⟨Tryz.f132.name, by decide, Tryz.func132.trans (congrArg some (by kernel_rfl))⟩
  f40 := ⟨Tryz.f133.name, by decide, Tryz.func133.trans (congrArg some (by kernel_rfl))⟩
  t0 := Tryz.underlying0
  a0 := Tryz.isAgg0
  z0 := Tryz.sizeOf0
  v0 := Tryz.zeroValue0
  t3 := Tryz.underlying3
  a3 := Tryz.isAgg3
  z3 := Tryz.sizeOf3
  v3 := Tryz.zeroValue3
  t4 := Tryz.underlying4
  a4 := Tryz.isAgg4
  z4 := Tryz.sizeOf4
  v4 := Tryz.zeroValue4
  t5 := Tryz.underlying5
  a5 := Tryz.isAgg5
  z5 := Tryz.sizeOf5
  v5 := Tryz.zeroValue5
  t9 := Tryz.underlying9
  a9 := Tryz.isAgg9
  z9 := Tryz.sizeOf9
  v9 := Tryz.zeroValue9
  t22 := Tryz.underlying55
  a22 := Tryz.isAgg55
  z22 := Tryz.sizeOf55
  v22 := Tryz.zeroValue55
  t23 := Tryz.underlying55
  a23 := Tryz.isAgg55
  z23 := Tryz.sizeOf55
  v23 := Tryz.zeroValue55
  t25 := Tryz.underlying3
  a25 := Tryz.isAgg3
  z25 := Tryz.sizeOf3
  v25 := Tryz.zeroValue3
  t32 := Tryz.underlying144
  a32 := Tryz.isAgg144
  z32 := Tryz.sizeOf144
  v32 := Tryz.zeroValue144
  t35 := Tryz.underlying147
  a35 := Tryz.isAgg147
  z35 := Tryz.sizeOf147
  v35 := Tryz.zeroValue147
  t36 := Tryz.underlying148
  a36 := Tryz.isAgg148
  z36 := Tryz.sizeOf148
  v36 := Tryz.zeroValue148
  t41 := Tryz.underlying109
  a41 := Tryz.isAgg109
  z41 := Tryz.sizeOf109
  v41 := Tryz.zeroValue109
  t44 := Tryz.underlying154
  a44 := Tryz.isAgg154
  z44 := Tryz.sizeOf154
  v44 := Tryz.zeroValue154
  t46 := Tryz.underlying141
  a46 := Tryz.isAgg141
  z46 := Tryz.sizeOf141
  v46 := Tryz.zeroValue141
  t53 := Tryz.underlying155
  a53 := Tryz.isAgg155
  z53 := Tryz.sizeOf155
  v53 := Tryz.zeroValue155
  t57 := Tryz.underlying159
  a57 := Tryz.isAgg159
  z57 := Tryz.sizeOf159
  v57 := Tryz.zeroValue159
  t63 := Tryz.underlying161
  a63 := Tryz.isAgg161
  z63 := Tryz.sizeOf161
  v63 := Tryz.zeroValue161
  t64 := Tryz.underlying129
  a64 := Tryz.isAgg129
  z64 := Tryz.sizeOf129
  v64 := Tryz.zeroValue129 }

def renCo : Go.Shelf.Ren := ⟨fun | 0 => 0 | 1 => 1 | 2 => 2 | 15 => 52 | 20 => 105 | 31 => 122 | 37 => 132 | 40 => 134 | 41 => 135 | 42 => 136 | 43 => 137 | 44 => 138 | 45 => 139 | 46 => 140 | 47 => 141 | 48 => 142 | 49 => 143 | 50 => 144 | 51 => 145 | 52 => 146 | 53 => 147 | 54 => 148 | 55 => 150 | n => n, fun | 0 => 0 | 1 => 1 | 2 => 2 | 3 => 3 | 4 => 4 | 5 => 5 | 6 => 6 | 7 => 7 | 8 => 8 | 9 => 9 | 10 => 10 | 11 => 11 | 12 => 12 | 13 => 13 | 14 => 14 | 15 => 15 | 16 => 16 | 17 => 17 | 18 => 18 | 19 => 19 | 20 => 20 | 21 => 21 | 22 => 55 | 23 => 102 | 33 => 109 | 36 => 131 | 40 => 144 | 41 => 47 | 42 => 59 | 45 => 101 | 46 => 163 | 47 => 164 | 48 => 165 | 49 => 166 | 50 => 167 | 51 => 168 | 52 => 89 | 53 => 154 | 54 => 169 | 55 => 170 | 56 => 171 | 57 => 172 | 58 => 173 | 59 => 174 | 60 => 175 | 61 => 176 | 62 => 177 | n => n, fun | n => n⟩
set_option maxRecDepth 100000 in
theorem laysCo : Go.Proofs.Lays2.n20 Tryz.prog renCo := {
  mixed := by kernel_rfl
  f20 := Tryz.func105.trans (congrArg some (by kernel_rfl))
  t0 := Tryz.underlying0
  a0 := Tryz.isAgg0
  z0 := Tryz.sizeOf0
  v0 := Tryz.zeroValue0
  t3 := Tryz.underlying3
  a3 := Tryz.isAgg3
  z3 := Tryz.sizeOf3
  v3 := Tryz.zeroValue3
  t4 := Tryz.underlying4
  a4 := Tryz.isAgg4
  z4 := Tryz.sizeOf4
  v4 := Tryz.zeroValue4
  t22 := Tryz.underlying55
  a22 := Tryz.isAgg55
  z22 := Tryz.sizeOf55
  v22 := Tryz.zeroValue55
  i3 := by kernel_rfl }

-- Lays2.n25: no function slices.BinarySearch[[]int,int]

end Go.Proofs.YtcbafeneaoaglaaGreatDoor

/- The contract of memberTwice: the members sorted, equal neighbours struck. -/
namespace Go.Proofs.YtcbafeneaoaglaaGreatDoor
open Go.Shelf Go.RowKit Go.Maps Go.Sort

theorem fr_putRow (w : World) (blk off q : Nat) (d : Array Int) : Fr [blk] w (putRow (Value.int .i64) (Sort.ahead w q) blk off d) := by
  refine ⟨rfl, rfl, rfl, by simp, fun k hk hn => ?_⟩
  simp only [putRow, mapBlock, Sort.ahead, Array.getElem?_modify]
  have : blk ≠ k := fun c => hn (by simp [c])
  simp [this]
theorem fr_grow (S : List Nat) (w : World) (os : Array Obj) : Fr S w (grow w os) :=
  ⟨rfl, rfl, rfl, by simp, fun k hk _ => by simp [grow, Array.getElem?_append, hk]⟩
theorem compact_twice {l : List Int} (hs : l.Pairwise (· ≤ ·)) : decide ((Lib.compact l).length < l.length) = decide (¬ l.Nodup) := by
  by_cases hn : l.Nodup
  · rw [Lib.compact_all l (fun j hj => ?_)]
    · simp [hn]
    · by_cases h0 : j = 0
      · subst h0; exact Lib.keeps_lt_one _ 0 (by omega)
      · refine Lib.keeps_pos (fun c => ?_)
        rw [getElem!_pos _ j (by simpa using hj), getElem!_pos _ (j - 1) (by simp; omega)] at c
        simp only [List.getElem_toArray] at c
        have hp := List.pairwise_iff_getElem.1 (List.nodup_iff_pairwise_ne.1 hn) (j - 1) j (by omega) hj (by omega)
        exact hp c.symm
  · rw [decide_eq_true hn, decide_eq_true_eq]
    have : ∃ j, j < l.length ∧ Lib.keeps l.toArray j = false := by
      apply Decidable.byContradiction
      intro hc
      apply hn
      have hk : ∀ j, 0 < j → (hj : j < l.length) → l[j - 1]'(by omega) < l[j] := by
        intro j h0 hj
        have h1 := (List.pairwise_iff_getElem.1 hs) (j - 1) j (by omega) hj (by omega)
        rcases Int.lt_or_eq_of_le h1 with h2 | h2
        · exact h2
        · exfalso; apply hc
          refine ⟨j, hj, Lib.keeps_neg h0 ?_⟩
          rw [getElem!_pos _ j (by simpa using hj), getElem!_pos _ (j - 1) (by simp; omega)]
          simp [h2]
      have hlt : ∀ i j, (hij : i < j) → (hj : j < l.length) → l[i]'(by omega) < l[j] := by
        intro i j hij hj
        have h1 := hk j (by omega) hj
        rcases Nat.lt_or_ge i (j - 1) with c | c
        · have := (List.pairwise_iff_getElem.1 hs) i (j - 1) (by omega) (by omega) c
          omega
        · obtain rfl : i = j - 1 := by omega
          exact h1
      rw [List.nodup_iff_pairwise_ne, List.pairwise_iff_getElem]
      intro i j hi hj hij e
      have := hlt i j hij hj
      omega
    obtain ⟨j, hj, hkj⟩ := this
    unfold Lib.compact Lib.compactUpTo
    rw [List.length_map]
    have hlen : (List.range l.length).length = l.length := by simp
    rcases Nat.lt_or_ge ((List.range l.length).filter (Lib.keeps l.toArray)).length l.length with c | c
    · exact c
    · exfalso
      have := List.length_filter_eq_length_iff.1 (Nat.le_antisymm (List.length_filter_le _ _) (by rw [hlen]; exact c)) j (List.mem_range.2 hj)
      rw [hkj] at this; cases this
theorem compact_le (S : List Int) : (Lib.compact S).length ≤ S.length := by
  unfold Lib.compact Lib.compactUpTo
  rw [List.length_map]
  exact Nat.le_trans (List.length_filter_le _ _) (by simp)
theorem sorted_of (l : List Int) : (l.mergeSort fun x y => decide (x ≤ y)).Pairwise (· ≤ ·) := by
  have := List.pairwise_mergeSort (le := fun x y : Int => decide (x ≤ y)) (by intro a b c; simp; omega) (by intro a b; simp; omega) l
  exact this.imp (fun h => by simpa using h)
theorem nodup_sorted (l : List Int) : (l.mergeSort fun x y => decide (x ≤ y)).Nodup ↔ l.Nodup := (List.mergeSort_perm l _).nodup_iff
set_option maxRecDepth 100000 in
set_option maxHeartbeats 1000000 in
theorem twice_any {w : World} {v : Value} {T : List Nd} (h : Trd w v T) (hs : T.length ≤ 15) :
    Calls Tryz.prog 94 #[.agg #[v]] w fun e w' => e = .returned (.bool (decide (¬ (mems T).Nodup))) ∧ Below w.heap.size w w' := by
  obtain ⟨w0, hw0⟩ : ∃ w0, w0 = bxw w v := ⟨_, rfl⟩
  have b0 : Below w.heap.size w w0 := by rw [hw0]; exact bwA _ _
  have K := members_any (h.bw b0) hs
  have HW : Hid (w0 = w.alloc (.cells #[v] 25)) := hw0
  have hl : (mems T).length ≤ 8 := by
    have := memsOf_len (lvs T); rw [lvs_len] at this; unfold nlv at this; unfold mems; omega
  generalize mems T = l at *
  clear hw0 h hs
  go_enter Tryz.func94, Tryz.ntmps94
  go_wp2_with fail
  rw [← unhide HW]
  refine K.mono ?_
  rintro e w1 ⟨r, rfl, hr, b1⟩
  clear K HW
  rcases Nat.eq_zero_or_pos l.length with h0 | h0
  · obtain ⟨a, c, rfl⟩ := own_slice hr
    obtain rfl := List.eq_nil_of_length_eq_zero h0
    have K1 := AnyM.slices_Sort_int_none laysSo a c w1
    have K2 := Any.slices_Compact_int_empty laysCo a c w1
    clear hr
    go_wp2_with fail
    refine K1.mono ?_
    rintro e w1 ⟨rfl, rfl⟩
    go_wp2_with fail
    refine K2.mono ?_
    rintro e w1 ⟨rfl, rfl⟩
    go_wp2
    go_ret
    exact ⟨by simp, bw_tr b0 b1⟩
  · obtain ⟨g, cap, rfl, hg, hcap, _⟩ := own_open hr h0
    have hH : Holds (Value.int .i64) w1 g 0 l.toArray := fun j hj => by
      have hj' : j < l.length := by simpa using hj
      refine ⟨?_, ?_⟩
      · have := own_cell hr (g := g) rfl (j := j) (u := .int .i64 l[j]) (by simp [I64, List.getElem?_eq_getElem hj'])
        rw [getElem!_pos _ j hj]; simpa using this
      · have := own_frozen hr (g := g) rfl j; simpa using this
    have hge : w0.heap.size ≤ g := (World.ownsRow.lt hr g rfl).1
    have K1 := AnyM.slices_Sort_int laysSo g 0 cap l w1 hH hg (by omega)
    have hsl : (l.mergeSort fun x y => decide (x ≤ y)).length = l.length := by simp
    go_wp2_with fail
    refine K1.mono ?_
    rintro e w2 ⟨rfl, n, os, rfl⟩
    clear K1
    have hH2 : Holds (Value.int .i64) (grow (putRow (Value.int .i64) (Sort.ahead w1 n) g 0 (l.mergeSort fun x y => decide (x ≤ y)).toArray) os) g 0 (l.mergeSort fun x y => decide (x ≤ y)).toArray :=
      holds_grow _ _ _ _ _ _ (by simpa using hg) (holds_putRow _ _ _ _ _ _ (holds_ahead _ _ _ _ _ _ hH) (by simp))
    have f2 : Fr [g] w1 (grow (putRow (Value.int .i64) (Sort.ahead w1 n) g 0 (l.mergeSort fun x y => decide (x ≤ y)).toArray) os) := (fr_putRow w1 g 0 n _).tr (fr_grow _ _ _)
    generalize grow (putRow (Value.int .i64) (Sort.ahead w1 n) g 0 (l.mergeSort fun x y => decide (x ≤ y)).toArray) os = w2 at *
    have K2 := Any.slices_Compact_int laysCo g 0 cap _ w2 hH2 (by rw [hsl]; omega) (by rw [hsl]; omega)
    have HC := hide (compact_twice (sorted_of l))
    have HN := hide (nodup_sorted l)
    generalize (l.mergeSort fun x y => decide (x ≤ y)) = S at *
    rw [hsl] at K2 HC
    have hSn : (Lib.compact S).length ≤ 8 := by have := compact_le S; omega
    clear hH hH2 hr
    generalize l.length = N at *
    clear hsl
    generalize (Lib.compact S).length = M at *
    go_wp2_with fail
    refine K2.mono ?_
    rintro e w3 ⟨rfl, q, rfl⟩
    have f3 := fr_putRow w2 g 0 q (Lib.compact S ++ List.replicate (N - M) 0).toArray
    clear K2
    generalize putRow (Value.int .i64) (Sort.ahead w2 q) g 0 (Lib.compact S ++ List.replicate (N - M) 0).toArray = w3 at *
    go_wp2
    go_ret
    refine ⟨?_, bw_tr b0 (Fr.toBase b1 (f2.tr f3) (by simp; exact hge))⟩
    have := unhide HC
    simp only [this, unhide HN]
    rfl
end Go.Proofs.YtcbafeneaoaglaaGreatDoor

/- The contracts of mayBe, Check, Size, Members and Find. -/
namespace Go.Proofs.YtcbafeneaoaglaaGreatDoor
open Go.RowKit Go.Maps

theorem wid_small {n N : Nat} (h8 : n ≤ 8) (hN : 0 < N) (h : wid (n : Nat) = (N : Nat)) : n ∈ sizes ∧ N = 2 * n - 1 := by
  have hh : ∀ n ∈ List.range 9, (n ∈ sizes ∧ wid (n : Nat) = ((2 * n - 1 : Nat) : Int)) ∨ wid (n : Nat) = 0 := by decide +kernel
  rcases hh n (List.mem_range.2 (by omega)) with ⟨c1, c2⟩ | c
  · exact ⟨c1, by omega⟩
  · omega
/-- Of nodes one after the other. -/
theorem all_succ (p : Nat → Bool) (i : Nat) : (List.range (i + 1)).all p = ((List.range i).all p && p i) := by
  rw [List.range_succ, List.all_append]; simp
set_option maxRecDepth 100000 in
set_option maxHeartbeats 2000000 in
theorem mayBe_any {w : World} {v : Value} {T : List Nd} (h : Trd w v T) (hT : Tab w) :
    Calls Tryz.prog 80 #[.agg #[v]] w fun e w' => e = .returned (.bool (mayB T)) ∧ Below w.heap.size w w' := by
  obtain ⟨a, c, rfl⟩ := h.slice
  have hl := h.len
  obtain ⟨w0, hw0⟩ : ∃ w0, w0 = bxw w (.slice a T.length c) := ⟨_, rfl⟩
  have HB : Hid (∀ W, Below w0.heap.size w0 W → W.cell? ⟨w.heap.size, 0, none⟩ = some (.slice a T.length c) ∧ Below w.heap.size w W) := fun W hW => by subst hw0; exact ⟨bx_cell hW, bx_bel hW⟩
  have b0 : Below w.heap.size w w0 := by rw [hw0]; exact bwA _ _
  have KL := hide (leaves_any a T.length c w0 hl)
  have HW : Hid (w0 = w.alloc (.cells #[.slice a T.length c] 25)) := hw0
  obtain ⟨r, hr⟩ : ∃ r, r = mayB T := ⟨_, rfl⟩
  rw [← hr]
  have KW : Hid (∀ W, Calls Tryz.prog 92 #[.int .i64 (nlv T : Nat)] W fun e w' => e = .returned (.int .i64 (wid (nlv T : Nat))) ∧ w' = W) := fun W => width_any _ W
  have KN : Hid (Wd T → ∀ W (x : Nat), Below w.heap.size w W → x < T.length → Calls Tryz.prog 93 #[.agg #[.slice a T.length c], .int .i64 (x : Int)] W fun e w' => e = .returned (.bool (ndM T x)) ∧ Below W.heap.size W w') := fun hw W x hW hx => nodeMay_any (h.bw hW) hw (hT.bw hW) hx
  have KT : Hid (T.length ≤ 15 → ∀ W, Below w.heap.size w W → Calls Tryz.prog 94 #[.agg #[.slice a T.length c]] W fun e w' => e = .returned (.bool (decide (¬ (mems T).Nodup))) ∧ Below W.heap.size W w') := fun hs W hW => twice_any (h.bw hW) hs
  have KA : Hid (T.length ≤ 15 → ∀ W, Below w.heap.size w W → Calls Tryz.prog 95 #[.agg #[.slice a T.length c], .int .i64 ((nlv T / 2 : Nat) : Int), .int .i64 (nlv T : Nat)] W fun e w' => e = .returned (.bool (anyM T (nlv T / 2) (nlv T))) ∧ Below W.heap.size W w') := fun hs W hW => anyMember_any (h.bw hW) hs _ _ (by omega) (Nat.le_refl _)
  have hnl : nlv T = (T.length + 1) / 2 := rfl
  have hlI : (T.length : Int) ≤ 140737488355328 := by omega
  rw [← hnl] at KL
  have HD : Hid (r = mayB T) := hr
  by_cases e0 : T.length = 0
  · obtain rfl : r = true := by
      rw [hr]; obtain rfl := List.eq_nil_of_length_eq_zero e0; rfl
    rw [e0] at *
    have hz := bx_bel (w := w) (v := .slice a 0 c) (Below.refl _ _)
    clear h hl hw0 hnl hr KL KW KN KT KA HD HB
    go_enter Tryz.func80, Tryz.ntmps80
    go_wp2
    go_ret
    exact ⟨rfl, bwA _ _⟩
  · have e1 : ((T.length : Int) == 0) = false := beq_false_of_ne (by omega)
    have e2 : decide ((T.length : Int) = 0) = false := decide_eq_false (by omega)
    have HE : Hid (r = (decide (nlv T ≤ 8) && decide (wid (nlv T : Nat) = (T.length : Nat)) && (List.range T.length).all (ndM T) && decide (mems T).Nodup && anyM T (nlv T / 2) (nlv T))) := by
      unfold Hid; rw [hr]; unfold mayB
      have : T.isEmpty = false := by cases T <;> simp_all
      rw [this]; simp
    have HS : Hid (nlv T ≤ 8 → wid (nlv T : Nat) = (T.length : Nat) → Wd T ∧ T.length ≤ 15) := fun q1 q2 => by
      obtain ⟨s1, s2⟩ := wid_small q1 (by omega) q2
      exact ⟨⟨nlv T, s1, s2⟩, by omega⟩
    generalize hn : nlv T = n at *
    have hn1 : (n : Int) ≤ 140737488355328 := by omega
    generalize hN : T.length = N at *
    have hNn : 0 < N := by omega
    clear h hl hw0 hnl hr HD e0 hn hN
    go_enter Tryz.func80, Tryz.ntmps80
    go_wp2_with fail
    rw [← unhide HW]
    refine (unhide KL).mono ?_
    rintro e w1 ⟨rfl, b1⟩
    clear KL HW
    obtain ⟨c1, hbw⟩ := unhide HB _ b1
    by_cases g1 : n ≤ 8
    · have g2 : decide ((8 : Int) < (n : Int)) = false := decide_eq_false (by omega)
      have KW2 := fun m => unhide KW (w1.drewN m)
      have HS2 := hide (unhide HS g1)
      obtain ⟨wd, hwd⟩ : ∃ wd, wd = wid (n : Int) := ⟨_, rfl⟩
      rw [← hwd] at KW2 HE HS2
      clear hwd KW HS
      by_cases g3 : wd = (N : Int)
      · subst g3
        obtain ⟨hw, h15⟩ := unhide HS2 rfl
        have KN2 := hide (unhide KN hw)
        have KT2 := hide (unhide KT h15)
        have KA2 := hide (unhide KA h15)
        have HE2 : Hid (r = ((List.range N).all (ndM T) && (decide (mems T).Nodup && anyM T (n / 2) n))) := by
          unfold Hid; rw [unhide HE, decide_eq_true g1]; simp [Bool.and_assoc]
        have g4 : ((N : Int) != (N : Int)) = false := by simp
        clear KN KT KA HS2 HE hw
        go_wp2_with fail
        go_quiet (first | (go_at_call 92; exact Calls.quiet_of_same (KW2 _)))
        have b2 : Below w0.heap.size w0 (w1.drewN nq) := bw_tr b1 (below_drewN (Below.refl _ _) _)
        clear KW2
        generalize w1.drewN nq = w2 at *
        obtain ⟨c2, hbw2⟩ := unhide HB _ b2
        clear c1 hbw b1
        go_wp2_with fail
        go_loopw [24] (fun iv wr => ∃ i : Nat, iv = .int .i64 (i : Int) ∧ i ≤ N ∧ Hid ((List.range i).all (ndM T) = true) ∧ Below w0.heap.size w0 wr) (fun iv _ => (N - (intOf iv)).toNat)
        case atStart => exact ⟨0, rfl, by omega, rfl, b2⟩
        case round =>
          obtain ⟨i, rfl, hin, hall, hbel⟩ := hrel
          obtain ⟨c3, hbw3⟩ := unhide HB _ hbel
          clear c2 hbw2 b2
          by_cases hlt : i < N
          · have q1 : (i : Int) < (N : Int) := by omega
            have K := unhide KN2 wr i hbw3 hlt
            have HA : Hid ((List.range (i + 1)).all (ndM T) = ndM T i) := by unfold Hid; rw [all_succ, unhide hall]; rfl
            have HF : Hid (ndM T i = false → r = false) := fun q => by
              rw [unhide HE2]
              have : (List.range N).all (ndM T) = false := by
                rw [List.all_eq_false]; exact ⟨i, List.mem_range.2 hlt, by simp [q]⟩
              rw [this]; rfl
            generalize ndM T i = p at *
            go_wp2_with fail
            refine K.mono ?_
            rintro e w4 ⟨rfl, b4⟩
            have hbel4 := bw_tr hbel b4
            cases p
            · obtain rfl := unhide HF rfl
              clear HF
              go_wp2_with fail
              go_ret
              exact ⟨rfl, (unhide HB _ hbel4).2⟩
            · clear HF K
              go_wp2_with fail
              go_roundw
              case rel => exact ⟨i + 1, by go_num, by omega, HA, hbel4⟩
              case measure => simp [intOf]; omega
          · obtain rfl : i = N := by omega
            have HE3 : Hid (r = (decide (mems T).Nodup && anyM T (n / 2) n)) := by unfold Hid; rw [unhide HE2, unhide hall]; rfl
            have K := unhide KT2 wr hbw3
            have hn2 : (n : Int) / 2 = ((n / 2 : Nat) : Int) := by omega
            have hn8 : (n : Int) ≤ 8 := by omega
            have KA3 : Hid (∀ W, Below w0.heap.size w0 W → Calls Tryz.prog 95 #[.agg #[.slice a i c], .int .i64 ((n / 2 : Nat) : Int), .int .i64 (n : Nat)] W fun e w' => e = .returned (.bool (anyM T (n / 2) n)) ∧ Below W.heap.size W w') := fun W hW => unhide KA2 W (unhide HB _ hW).2
            obtain ⟨n2, hn3⟩ : ∃ n2, n2 = n / 2 := ⟨_, rfl⟩
            rw [← hn3] at KA3 HE3 hn2
            clear KA2 KT2 KN2 HE2 hn3
            by_cases hd : (mems T).Nodup
            · have e9 : decide (¬ (mems T).Nodup) = false := by simp [hd]
              rw [e9] at K
              obtain rfl : r = anyM T n2 n := by rw [unhide HE3, decide_eq_true hd]; rfl
              clear HE3 e9 hd
              go_wp2_with fail
              refine K.mono ?_
              rintro e w4 ⟨rfl, b4⟩
              have hbel4 := bw_tr hbel b4
              obtain ⟨c4, hbw4⟩ := unhide HB _ hbel4
              have K5 := unhide KA3 _ hbel4
              clear K KA3
              go_wp2_with fail
              refine K5.mono ?_
              rintro e w5 ⟨rfl, b5⟩
              go_wp2
              go_ret
              exact ⟨rfl, bw_tr hbw4 b5⟩
            · have e9 : decide (¬ (mems T).Nodup) = true := by simp [hd]
              rw [e9] at K
              obtain rfl : r = false := by rw [unhide HE3, decide_eq_false hd]; rfl
              clear HE3 e9 hd
              go_wp2_with fail
              refine K.mono ?_
              rintro e w4 ⟨rfl, b4⟩
              have hbel4 := bw_tr hbel b4
              obtain ⟨c4, hbw4⟩ := unhide HB _ hbel4
              go_wp2
              go_ret
              exact ⟨rfl, hbw4⟩
      · have g4 : (wd != (N : Int)) = true := by simp [g3]
        have g5 : decide (wd = (N : Int)) = false := decide_eq_false g3
        obtain rfl : r = false := by rw [unhide HE, g5]; simp
        clear HE HS2 KN KT KA g3
        go_wp2_with fail
        go_quiet (first | (go_at_call 92; exact Calls.quiet_of_same (KW2 _)))
        go_wp2
        go_ret
        exact ⟨rfl, bw_tr hbw (below_drewN (Below.refl _ _) _)⟩
    · have g2 : (8 : Int) < (n : Int) := by omega
      obtain rfl : r = false := by rw [unhide HE, decide_eq_false g1]; simp
      go_wp2_with fail
      go_quiet (fail)
      go_wp2
      go_ret
      exact ⟨rfl, bw_tr hbw (below_drewN (Below.refl _ _) _)⟩
end Go.Proofs.YtcbafeneaoaglaaGreatDoor

/- The contracts of Check, Size, Members and Find. -/
namespace Go.Proofs.YtcbafeneaoaglaaGreatDoor
open Go.RowKit Go.Maps

theorem mayB_wd {T : List Nd} (h : mayB T = true) : T = [] ∨ Wd T := by
  unfold mayB at h
  simp only [Bool.or_eq_true, Bool.and_eq_true, decide_eq_true_eq] at h
  rcases h with h | h
  · exact Or.inl (List.isEmpty_iff.1 h)
  · rcases Nat.eq_zero_or_pos T.length with h0 | h0
    · exact Or.inl (List.eq_nil_of_length_eq_zero h0)
    · obtain ⟨s1, s2⟩ := wid_small h.1.1.1.1 h0 h.1.1.1.2
      exact Or.inr ⟨nlv T, s1, s2⟩
theorem mayB_15 {T : List Nd} (h : mayB T = true) : T.length ≤ 15 ∧ nlv T ≤ 8 := by
  rcases mayB_wd h with rfl | h
  · exact ⟨by simp, by simp [nlv]⟩
  · exact ⟨h.facts.2.2.1, h.facts.2.2.2.1⟩
set_option maxHeartbeats 1000000 in
theorem check_any {w : World} {v : Value} {T : List Nd} (h : Trd w v T) (hT : Tab w) :
    Calls Tryz.prog 60 #[.agg #[v]] w fun e w' => e = .returned (.int .i64 (if mayB T = true then 0 else 1)) ∧ Below w.heap.size w w' := by
  have K := mayBe_any (h.bw (bwA w (.cells #[v] 25))) (hT.bw (bwA _ _))
  generalize mayB T = r at *
  clear h hT
  go_enter Tryz.func60, Tryz.ntmps60
  go_wp2_with fail
  refine K.mono ?_
  rintro e w1 ⟨rfl, b1⟩
  cases r
  · go_wp2
    go_ret
    exact ⟨rfl, bx_bel b1⟩
  · go_wp2
    go_ret
    exact ⟨rfl, bx_bel b1⟩
end Go.Proofs.YtcbafeneaoaglaaGreatDoor
