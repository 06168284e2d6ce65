/- Texts joined: TrC LgD TsA TsC. -/
import Derived.Test.YtgmlkofogeoocaaGreatDoorZ03
/- Contracts of unmergedMayBe and nodeMayBe. -/
namespace Go.Proofs.YtgmlkofogeoocaaGreatDoor
open Go.RowKit Go.Maps
def Wd (T : List Nd) : Prop := ∃ n ∈ sizes, T.length = 2 * n - 1
theorem Wd.facts {T : List Nd} (h : Wd T) : nlv T ∈ sizes ∧ T.length = 2 * nlv T - 1 ∧ T.length ≤ 15 ∧ nlv T ≤ 8 ∧ 0 < nlv T := by
  obtain ⟨n, hn, e⟩ := h
  have : nlv T = n := by unfold nlv; simp [sizes] at hn; omega
  rw [this]
  refine ⟨hn, e, ?_, ?_, ?_⟩ <;> (simp [sizes] at hn; omega)
theorem span_of {n x : Nat} (hn : n ∈ sizes) (hx : x < 2 * n - 1) : (0 ≤ spF (x : Nat) ∧ spF (x : Nat) ≤ spT (x : Nat) ∧ spT (x : Nat) < (n : Nat) ∧ (x % 2 = 1 ∨ (2 * spF (x : Nat) = (x : Nat) ∧ 2 * spT (x : Nat) = (x : Nat)))) ∧
    (x % 2 = 1 → lfV (x : Nat) = (lN x : Nat) ∧ rtV (x : Nat) = (rN x : Nat) ∧ lfB (x : Nat) = true ∧ rtB (x : Nat) = true ∧ lN x < 2 * n - 1 ∧ rN x < 2 * n - 1 ∧ lvl (lN x : Nat) + 1 = lvl (x : Nat) ∧ lvl (rN x : Nat) + 1 = lvl (x : Nat) ∧ spF (lN x : Nat) = spF (x : Nat) ∧ spT (lN x : Nat) + 1 = spF (rN x : Nat) ∧ spT (rN x : Nat) = spT (x : Nat)) ∧
    0 ≤ lvl (x : Nat) ∧ lvl (x : Nat) ≤ 3 ∧ (lvl (x : Nat) = 0 ↔ x % 2 = 0) ∧ lfB (x : Nat) = decide (x % 2 = 1) := by
  have h := List.all_eq_true.1 fin_span n hn
  have h := List.all_eq_true.1 h x (List.mem_range.2 hx)
  simp only [Bool.and_eq_true, Bool.or_eq_true, decide_eq_true_eq] at h
  obtain ⟨⟨⟨⟨⟨⟨⟨⟨h1, h2⟩, h3⟩, h4⟩, h5⟩, h6⟩, h7⟩, h8⟩, h9⟩ := h
  refine ⟨⟨h1, h2, h3, h4⟩, fun hp => ?_, h6, h7, h8, h9⟩
  rcases h5 with c | ⟨⟨⟨⟨⟨⟨⟨⟨⟨⟨a1, a2⟩, a3⟩, a4⟩, a5⟩, a6⟩, a7⟩, a8⟩, a9⟩, a10⟩, a11⟩
  · omega
  · exact ⟨a1, a2, a3, a4, a5, a6, a7, a8, a9, a10, a11⟩
set_option maxRecDepth 100000 in
set_option maxHeartbeats 2000000 in
theorem unmerged_any {w : World} {v : Value} {T : List Nd} (h : Trd w v T) (hw : Wd T) (hT : Tab w) {x : Nat} (hx : x < T.length) :
    Calls Tryz.prog 107 #[.agg #[v], .int .i64 (x : Int)] w fun e w' => e = .returned (.bool (unM T (spF (x : Nat)) (spT (x : Nat)) (ndAt T x).un)) ∧ Below w.heap.size w w' := by
  obtain ⟨g1, g2, g3, g4, g5⟩ := hw.facts
  obtain ⟨⟨s1, s2, s3, -⟩, -⟩ := span_of g1 (show x < 2 * nlv T - 1 by omega)
  obtain ⟨a, c, rfl⟩ := h.slice
  obtain ⟨w0, hw0⟩ : ∃ w0, w0 = bxw w (.slice a T.length c) := ⟨_, rfl⟩
  have HB : Hid (∀ W, Below w0.heap.size w0 W → W.cell? ⟨w.heap.size, 0, none⟩ = some (.slice a T.length c) ∧ Below w.heap.size w W) := fun W hW => by subst hw0; exact ⟨bx_cell hW, bx_bel hW⟩
  have KS := span_any (x : Int) w0 (by omega) (hT.bw (by rw [hw0]; exact bwA _ _))
  have KB : Hid (∀ (W : World) (y : Nat), Below w.heap.size w W → y < T.length → Calls Tryz.prog 82 #[.agg #[.slice a T.length c], .int .i64 (y : Int)] W fun e w' => e = .returned (.bool (!pos (ndAt T y))) ∧ Below W.heap.size W w') := fun W y hW hy => blank_any (h.bw hW) hy
  obtain ⟨-, h2⟩ := h.at
  obtain ⟨b, o, rfl, h3⟩ := h2 (by omega)
  obtain ⟨u, k1, k2⟩ := h3 w (Below.refl _ _) x hx
  have hB : b < w.heap.size := lt_of_cell k1.c3
  have HU : Hid (∀ W, Below w.heap.size w W → W.cell? ⟨b, o + x * 4 + 3, none⟩ = some u) := fun W hW => (k1.bw hB hW).c3
  obtain ⟨au, cu, rfl⟩ := nums_slice k2
  have hul := h.unl _ (ndAt_mem hx)
  generalize (ndAt T x).un = l at *
  have HL : Hid (∀ i z, l[i]? = some z → ∃ g o', au = some ⟨g, o', none⟩ ∧ ∀ W, Below w.heap.size w W → W.cell? ⟨g, o' + i, none⟩ = some (.int .i64 z)) := fun i z hz => by
    obtain ⟨g, o', cap, e, hc⟩ := k2.open (by have := (List.getElem?_eq_some_iff.1 hz).1; omega)
    cases e
    refine ⟨g, o', rfl, fun W hW => ?_⟩
    have hcc := hc i z hz
    rw [hW.cell (p := ⟨g, o' + i, none⟩) (lt_of_cell (a := ⟨g, o' + i, none⟩) hcc)]; exact hcc
  have HX : Hid (∀ i : Nat, (i : Int) ≤ spT (x : Nat) → 2 * i < T.length) := fun i hi => by omega
  have hF : spT (x : Nat) ≤ 7 := by omega
  have hF0 : (0 : Int) ≤ spF (x : Nat) := s1
  have hF1 : spF (x : Nat) ≤ 7 := by omega
  have HW : Hid (w0 = w.alloc (.cells #[.slice (some ⟨b, o, none⟩) T.length c] 30)) := hw0
  obtain ⟨r, hr⟩ : ∃ r, r = unM T (spF (x : Nat)) (spT (x : Nat)) l := ⟨_, rfl⟩
  rw [← hr]
  have HR := hide hr
  have hx1 : (x : Int) < (T.length : Int) := by omega
  have hx2 : (0 : Int) ≤ (x : Int) := by omega
  clear hr h h2 h3 k1 k2 hw0 g1 g2 g4 g5 s1 s2 s3 hw hx
  generalize spF (x : Nat) = F at *
  generalize spT (x : Nat) = L at *
  obtain ⟨M, hM⟩ : ∃ M, M = l.length := ⟨_, rfl⟩
  have hM1 : (M : Int) ≤ 140737488355328 := by omega
  rw [← hM] at HU
  have HM := hide hM
  have g3' : (T.length : Int) ≤ 15 := by omega
  clear hM hul g3
  generalize hN : T.length = N at *
  clear hN
  go_enter Tryz.func107, Tryz.ntmps107
  go_wp2_with fail
  rw [← unhide HW]
  refine KS.mono ?_
  rintro e w0 ⟨rfl, rfl⟩
  obtain ⟨c1, hbw⟩ := unhide HB _ (Below.refl _ _)
  have c2 := unhide HU _ hbw
  clear KS
  go_wp2_with fail
  go_loopw [5, 21] (fun fv iv wr => ∃ (i : Nat) (f : Int), iv = .int .i64 (i : Int) ∧ fv = .int .i64 f ∧ i ≤ M ∧ 0 ≤ f ∧ f ≤ 8 ∧ Hid (unM T f L (l.drop i) = r) ∧ Below w0.heap.size w0 wr) (fun _ iv _ => (M - (intOf iv)).toNat)
  case atStart => exact ⟨0, F, rfl, rfl, by omega, hF0, by omega, (unhide HR).symm, Below.refl _ _⟩
  case round =>
    clear c1 c2 hbw
    obtain ⟨i, f, rfl, rfl, hin, hf0, hf8, hrem, hbel⟩ := hrel
    obtain ⟨c1, hbw⟩ := unhide HB _ hbel
    by_cases hlt : i < M
    · obtain ⟨z, hz⟩ : ∃ z, l[i]? = some z := ⟨_, List.getElem?_eq_getElem (by have := unhide HM; omega)⟩
      obtain ⟨g, o', rfl, hc⟩ := unhide HL i z hz
      have c2 := hc _ hbw
      have q1 : (i : Int) < (M : Int) := by omega
      have q0 : (0 : Int) ≤ (i : Int) := by omega
      have hd : l.drop i = z :: l.drop (i + 1) := by
        rw [List.drop_eq_getElem_cons (by have := unhide HM; omega)]; congr 1
        have := List.getElem?_eq_some_iff.1 hz; exact this.2
      have HD : Hid ((decide (f ≤ z) && decide (z ≤ L) && pos (ndAt T (2 * z.toNat)) && unM T (z + 1) L (l.drop (i + 1))) = r) := by
        have := unhide hrem; rw [hd] at this; exact this
      clear hd hz hrem hc
      by_cases k1 : z < f
      · have e : r = false := by rw [← unhide HD, decide_eq_false (by omega)]; simp
        subst e
        go_wp2_with fail
        go_ret
        exact ⟨rfl, hbw⟩
      · have k1' : decide (z < f) = false := by simp; omega
        by_cases k2 : L < z
        · have e : r = false := by rw [← unhide HD, decide_eq_false (show ¬ z ≤ L by omega)]; simp
          subst e
          go_wp2_with fail
          go_ret
          exact ⟨rfl, hbw⟩
        · have k2' : decide (L < z) = false := by simp; omega
          obtain ⟨y, hy⟩ : ∃ y : Nat, y = 2 * z.toNat := ⟨_, rfl⟩
          have K := unhide KB wr y hbw (by rw [hy]; exact unhide HX z.toNat (by omega))
          have q3 : 2 * z = (y : Int) := by omega
          have HD2 : Hid ((pos (ndAt T y) && unM T (z + 1) L (l.drop (i + 1))) = r) := by
            have := unhide HD; rw [decide_eq_true (show f ≤ z by omega), decide_eq_true (show z ≤ L by omega), ← hy] at this; simpa [Hid] using this
          have z0 : 0 ≤ z := by omega
          have z7 : z ≤ 7 := by omega
          clear hy HD
          generalize pos (ndAt T y) = p at *
          go_wp2_with fail
          refine K.mono ?_
          rintro e w2 ⟨rfl, b2⟩
          have hbel2 := bw_tr hbel b2
          cases p
          · have e : r = false := by rw [← unhide HD2]; rfl
            subst e
            go_wp2_with fail
            go_ret
            exact ⟨rfl, (unhide HB _ hbel2).2⟩
          · have HD3 : Hid (unM T (z + 1) L (l.drop (i + 1)) = r) := by have := unhide HD2; simpa [Hid] using this
            clear HD2 K
            go_wp2_with fail
            go_roundw
            case rel => exact ⟨i + 1, z + 1, by go_num, by go_num, by omega, by omega, by omega, HD3, hbel2⟩
            case measure => simp [intOf]; omega
    · have e : r = true := by
        rw [← unhide hrem, List.drop_of_length_le (by have := unhide HM; omega)]; rfl
      subst e
      have hie : i = M := by omega
      subst hie
      go_wp2_with fail
      go_ret
      exact ⟨rfl, hbw⟩
theorem ndM_def (T : List Nd) (x : Nat) {p m e : Int} {l : List Int} (hp : (ndAt T x).pub = p) (hm : (ndAt T x).mem = m) (he : (ndAt T x).ep = e) (hl : (ndAt T x).un = l) : ndM T x = if p = 0 then m == 0 && e == 0 && l.isEmpty else if p < 0 then false else if x % 2 = 0 then decide (0 ≤ m) && decide (0 ≤ e) && l.isEmpty else m == 0 && e == 0 && unM T (spF (x : Nat)) (spT (x : Nat)) l := by
  unfold ndM; rw [hp, hm, he, hl]
set_option maxRecDepth 100000 in
set_option maxHeartbeats 4000000 in
theorem nodeMay_any {w : World} {v : Value} {T : List Nd} (h : Trd w v T) (hw : Wd T) (hT : Tab w) {x : Nat} (hx : x < T.length) :
    Calls Tryz.prog 79 #[.agg #[v], .int .i64 (x : Int)] w fun e w' => e = .returned (.bool (ndM T x)) ∧ Below w.heap.size w w' := by
  obtain ⟨g1, g2, g3, g4, g5⟩ := hw.facts
  obtain ⟨-, -, -, -, s4, -⟩ := span_of g1 (show x < 2 * nlv T - 1 by omega)
  obtain ⟨a, c, rfl⟩ := h.slice
  obtain ⟨-, h2⟩ := h.at
  obtain ⟨b, o, rfl, h3⟩ := h2 (by omega)
  obtain ⟨u, k1, k2⟩ := h3 _ (bwA w (.cells #[.slice (some ⟨b, o, none⟩) T.length c] 30)) x hx
  obtain ⟨au, cu, rfl⟩ := nums_slice k2
  obtain ⟨c0, c1, c2, c3⟩ := k1
  have hul := h.unl _ (ndAt_mem hx)
  obtain ⟨p, hp⟩ : ∃ p, (ndAt T x).pub = p := ⟨_, rfl⟩
  obtain ⟨m, hm⟩ : ∃ p, (ndAt T x).mem = p := ⟨_, rfl⟩
  obtain ⟨e, he⟩ : ∃ p, (ndAt T x).ep = p := ⟨_, rfl⟩
  obtain ⟨l, hl⟩ : ∃ p, (ndAt T x).un = p := ⟨_, rfl⟩
  have HD := hide (ndM_def T x hp hm he hl)
  have KU : Hid (∀ W, Below w.heap.size w W → Calls Tryz.prog 107 #[.agg #[.slice (some ⟨b, o, none⟩) T.length c], .int .i64 (x : Int)] W fun e w' => e = .returned (.bool (unM T (spF (x : Nat)) (spT (x : Nat)) l)) ∧ Below W.heap.size W w') := fun W hW => by rw [← hl]; exact unmerged_any (h.bw hW) hw (hT.bw hW) hx
  have KV : Hid (∀ W, Below w.heap.size w W → Calls Tryz.prog 106 #[.int .i64 (x : Int)] W fun e w' => e = .returned (.int .i64 (lvl (x : Nat))) ∧ w' = W) := fun W hW => level_any (x : Int) W (by omega) (hT.bw hW)
  rw [hp] at c0
  rw [hm] at c1
  rw [he] at c2
  rw [hl] at c3 hul
  have hemp : l.isEmpty = ((l.length : Int) == 0) := by cases l <;> simp <;> omega
  rw [hemp] at HD
  have s5 : (lvl (x : Nat) == 0) = decide (x % 2 = 0) := by
    by_cases q : x % 2 = 0
    · rw [s4.2 q]; simp [q]
    · have : lvl (x : Nat) ≠ 0 := fun k => q (s4.1 k)
      simp [q, this]
  obtain ⟨M, hM⟩ : ∃ M, M = l.length := ⟨_, rfl⟩
  rw [← hM] at c3 hul HD
  have hM1 : (M : Int) ≤ 140737488355328 := by omega
  obtain ⟨r, hr⟩ : ∃ r, r = ndM T x := ⟨_, rfl⟩
  rw [← hr] at HD ⊢
  generalize unM T (spF (x : Nat)) (spT (x : Nat)) l = um at *
  have hx1 : (x : Int) < (T.length : Int) := by omega
  have hx2 : (0 : Int) ≤ (x : Int) := by omega
  have g3' : (T.length : Int) ≤ 15 := by omega
  clear h h2 h3 k2 hul hp hm he hl hemp s4 hM hr hT hw g1 g2 g3 g4 g5 hx
  generalize T.length = N at *
  generalize lvl (x : Nat) = lv at *
  by_cases k0 : p = 0
  · subst k0
    rw [if_pos rfl] at HD
    by_cases k1 : m = 0
    · subst k1
      by_cases k2 : e = 0
      · subst k2
        obtain rfl : r = ((M : Int) == 0) := by rw [unhide HD]; simp
        clear HD
        go_enter Tryz.func79, Tryz.ntmps79
        go_wp2
        go_ret
        exact ⟨rfl, (bwA _ _).alloc (by simp) _⟩
      · have k2' : (e == 0) = false := by simp [k2]
        have k2'' : decide (e = 0) = false := by simp [k2]
        obtain rfl : r = false := by rw [unhide HD, k2']; simp
        clear HD
        go_enter Tryz.func79, Tryz.ntmps79
        go_wp2
        go_ret
        exact ⟨rfl, (bwA _ _).alloc (by simp) _⟩
    · have k2' : (m == 0) = false := by simp [k1]
      have k2'' : decide (m = 0) = false := by simp [k1]
      obtain rfl : r = false := by rw [unhide HD, k2']; simp
      clear HD
      go_enter Tryz.func79, Tryz.ntmps79
      go_wp2
      go_ret
      exact ⟨rfl, (bwA _ _).alloc (by simp) _⟩
  · rw [if_neg k0] at HD
    have k0' : (p == 0) = false := by simp [k0]
    have k0'' : decide (p = 0) = false := by simp [k0]
    by_cases kn : p < 0
    · rw [if_pos kn] at HD
      obtain rfl := unhide HD
      clear HD
      go_enter Tryz.func79, Tryz.ntmps79
      go_wp2
      go_ret
      exact ⟨rfl, (bwA _ _).alloc (by simp) _⟩
    · rw [if_neg kn] at HD
      have KV2 := hide (unhide KV _ ((bwA w (.cells #[.slice (some ⟨b, o, none⟩) N c] 30)).alloc (by simp) (.cells #[.int .i64 p, .int .i64 m, .int .i64 e, .slice au M cu] 57)))
      have KU2 := hide (unhide KU _ ((bwA w (.cells #[.slice (some ⟨b, o, none⟩) N c] 30)).alloc (by simp) (.cells #[.int .i64 p, .int .i64 m, .int .i64 e, .slice au M cu] 57)))
      clear KV KU
      by_cases kl : x % 2 = 0
      · rw [if_pos kl] at HD
        have s6 : (lv == 0) = true := by rw [s5]; simp [kl]
        clear s5
        obtain rfl : lv = 0 := by simpa using s6
        clear s6
        by_cases k1 : 0 ≤ m
        · by_cases k2 : 0 ≤ e
          · obtain rfl : r = ((M : Int) == 0) := by rw [unhide HD, decide_eq_true k1, decide_eq_true k2]; simp
            clear HD
            go_enter Tryz.func79, Tryz.ntmps79
            go_wp2_with fail
            refine (unhide KV2).mono ?_
            rintro e1 w1 ⟨rfl, rfl⟩
            clear KV2
            go_wp2
            go_ret
            exact ⟨rfl, (bwA _ _).alloc (by simp) _⟩
          · have k2' : decide (0 ≤ e) = false := by simp; omega
            obtain rfl : r = false := by rw [unhide HD, k2']; simp
            clear HD
            go_enter Tryz.func79, Tryz.ntmps79
            go_wp2_with fail
            refine (unhide KV2).mono ?_
            rintro e1 w1 ⟨rfl, rfl⟩
            clear KV2
            go_wp2
            go_ret
            exact ⟨rfl, (bwA _ _).alloc (by simp) _⟩
        · have k2' : decide (0 ≤ m) = false := by simp; omega
          obtain rfl : r = false := by rw [unhide HD, k2']; simp
          clear HD
          go_enter Tryz.func79, Tryz.ntmps79
          go_wp2_with fail
          refine (unhide KV2).mono ?_
          rintro e1 w1 ⟨rfl, rfl⟩
          clear KV2
          go_wp2
          go_ret
          exact ⟨rfl, (bwA _ _).alloc (by simp) _⟩
      · rw [if_neg kl] at HD
        have s6 : (lv == 0) = false := by rw [s5]; simp [kl]
        have s7 : decide (lv = 0) = false := by simpa using s6
        clear s5
        by_cases k1 : m = 0
        · subst k1
          by_cases k2 : e = 0
          · subst k2
            obtain rfl : r = um := by rw [unhide HD]; simp
            clear HD
            go_enter Tryz.func79, Tryz.ntmps79
            go_wp2_with fail
            refine (unhide KV2).mono ?_
            rintro e1 w1 ⟨rfl, rfl⟩
            clear KV2
            go_wp2_with fail
            refine (unhide KU2).mono ?_
            rintro e1 w1 ⟨rfl, b1⟩
            go_wp2
            go_ret
            exact ⟨rfl, bw_tr ((bwA _ _).alloc (by simp) _) b1⟩
          · have k2' : (e == 0) = false := by simp [k2]
            have k2'' : decide (e = 0) = false := by simp [k2]
            obtain rfl : r = false := by rw [unhide HD, k2']; simp
            clear HD
            go_enter Tryz.func79, Tryz.ntmps79
            go_wp2_with fail
            refine (unhide KV2).mono ?_
            rintro e1 w1 ⟨rfl, rfl⟩
            clear KV2
            go_wp2
            go_ret
            exact ⟨rfl, (bwA _ _).alloc (by simp) _⟩
        · have k2' : (m == 0) = false := by simp [k1]
          have k2'' : decide (m = 0) = false := by simp [k1]
          obtain rfl : r = false := by rw [unhide HD, k2']; simp
          clear HD
          go_enter Tryz.func79, Tryz.ntmps79
          go_wp2_with fail
          refine (unhide KV2).mono ?_
          rintro e1 w1 ⟨rfl, rfl⟩
          clear KV2
          go_wp2
          go_ret
          exact ⟨rfl, (bwA _ _).alloc (by simp) _⟩
end Go.Proofs.YtgmlkofogeoocaaGreatDoor

/- SameAdds, SameSeals, SameJoins of equal rows. -/
namespace Go.Proofs.YtgmlkofogeoocaaGreatDoor
open Go.RowKit Go.Maps
end Go.Proofs.YtgmlkofogeoocaaGreatDoor

/- Contracts of the document's blank, leaf, leaves and some. -/
namespace Go.Proofs.YtgmlkofogeoocaaGreatDoor
open Go.RowKit Go.Maps
end Go.Proofs.YtgmlkofogeoocaaGreatDoor

/- The contract of the document's twice. -/
namespace Go.Proofs.YtgmlkofogeoocaaGreatDoor
open Go.RowKit Go.Maps
end Go.Proofs.YtgmlkofogeoocaaGreatDoor
