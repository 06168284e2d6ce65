/- Texts joined: TrC LgD TsA TsC. -/
import Derived.Test.YtgmlkofogeoocaaGreatDoorZ03
/- Contracts of unmergedMayBe and nodeMayBe. -/
namespace Go.Proofs.YtgmlkofogeoocaaGreatDoor
open Go.RowKit Go.Maps
def Wd (T : List Nd) : Prop := ∃ n ∈ sizes, T.length = 2 * n - 1
theorem Wd.facts {T : List Nd} (h : Wd T) : nlv T ∈ sizes ∧ T.length = 2 * nlv T - 1 ∧ T.length ≤ 15 ∧ nlv T ≤ 8 ∧ 0 < nlv T := by
  obtain ⟨n, hn, e⟩ := h
  have : nlv T = n := by unfold nlv; simp [sizes] at hn; omega
  rw [this]
  refine ⟨hn, e, ?_, ?_, ?_⟩ <;> (simp [sizes] at hn; omega)
theorem span_of {n x : Nat} (hn : n ∈ sizes) (hx : x < 2 * n - 1) : (0 ≤ spF (x : Nat) ∧ spF (x : Nat) ≤ spT (x : Nat) ∧ spT (x : Nat) < (n : Nat) ∧ (x % 2 = 1 ∨ (2 * spF (x : Nat) = (x : Nat) ∧ 2 * spT (x : Nat) = (x : Nat)))) ∧
    (x % 2 = 1 → lfV (x : Nat) = (lN x : Nat) ∧ rtV (x : Nat) = (rN x : Nat) ∧ lfB (x : Nat) = true ∧ rtB (x : Nat) = true ∧ lN x < 2 * n - 1 ∧ rN x < 2 * n - 1 ∧ lvl (lN x : Nat) + 1 = lvl (x : Nat) ∧ lvl (rN x : Nat) + 1 = lvl (x : Nat) ∧ spF (lN x : Nat) = spF (x : Nat) ∧ spT (lN x : Nat) + 1 = spF (rN x : Nat) ∧ spT (rN x : Nat) = spT (x : Nat)) ∧
    0 ≤ lvl (x : Nat) ∧ lvl (x : Nat) ≤ 3 ∧ (lvl (x : Nat) = 0 ↔ x % 2 = 0) ∧ lfB (x : Nat) = decide (x % 2 = 1) := by
  have h := List.all_eq_true.1 fin_span n hn
  have h := List.all_eq_true.1 h x (List.mem_range.2 hx)
  simp only [Bool.and_eq_true, Bool.or_eq_true, decide_eq_true_eq] at h
  obtain ⟨⟨⟨⟨⟨⟨⟨⟨h1, h2⟩, h3⟩, h4⟩, h5⟩, h6⟩, h7⟩, h8⟩, h9⟩ := h
  refine ⟨⟨h1, h2, h3, h4⟩, fun hp => ?_, h6, h7, h8, h9⟩
  rcases h5 with c | ⟨⟨⟨⟨⟨⟨⟨⟨⟨⟨a1, a2⟩, a3⟩, a4⟩, a5⟩, a6⟩, a7⟩, a8⟩, a9⟩, a10⟩, a11⟩
  · omega
  · exact ⟨a1, a2, a3, a4, a5, a6, a7, a8, a9, a10, a11⟩
set_option maxRecDepth 100000 in
set_option maxHeartbeats 2000000 in
theorem unmerged_any {w : World} {v : Value} {T : List Nd} (h : Trd w v T) (hw : Wd T) (hT : Tab w) {x : Nat} (hx : x < T.length) :
    Calls Tryz.prog 107 #[.agg #[v], .int .i64 (x : Int)] w fun e w' => e = .returned (.bool (unM T (spF (x : Nat)) (spT (x : Nat)) (ndAt T x).un)) ∧ Below w.heap.size w w' := by
  obtain ⟨g1, g2, g3, g4, g5⟩ := hw.facts
  obtain ⟨⟨s1, s2, s3, -⟩, -⟩ := span_of g1 (show x < 2 * nlv T - 1 by omega)
  obtain ⟨a, c, rfl⟩ := h.slice
  obtain ⟨w0, hw0⟩ : ∃ w0, w0 = bxw w (.slice a T.length c) := ⟨_, rfl⟩
  have HB : Hid (∀ W, Below w0.heap.size w0 W → W.cell? ⟨w.heap.size, 0, none⟩ = some (.slice a T.length c) ∧ Below w.heap.size w W) := fun W hW => by subst hw0; exact ⟨bx_cell hW, bx_bel hW⟩
  have KS := span_any (x : Int) w0 (by omega) (hT.bw (by rw [hw0]; exact bwA _ _))
  have KB : Hid (∀ (W : World) (y : Nat), Below w.heap.size w W → y < T.length → Calls Tryz.prog 82 #[.agg #[.slice a T.length c], .int .i64 (y : Int)] W fun e w' => e = .returned (.bool (!pos (ndAt T y))) ∧ Below W.heap.size W w') := fun W y hW hy => blank_any (h.bw hW) hy
  obtain ⟨-, h2⟩ := h.at
  obtain ⟨b, o, rfl, h3⟩ := h2 (by omega)
  obtain ⟨u, k1, k2⟩ := h3 w (Below.refl _ _) x hx
  have hB : b < w.heap.size := lt_of_cell k1.c3
  have HU : Hid (∀ W, Below w.heap.size w W → W.cell? ⟨b, o + x * 4 + 3, none⟩ = some u) := fun W hW => (k1.bw hB hW).c3
  obtain ⟨au, cu, rfl⟩ := nums_slice k2
  have hul := h.unl _ (ndAt_mem hx)
  generalize (ndAt T x).un = l at *
  have HL : Hid (∀ i z, l[i]? = some z → ∃ g o', au = some ⟨g, o', none⟩ ∧ ∀ W, Below w.heap.size w W → W.cell? ⟨g, o' + i, none⟩ = some (.int .i64 z)) := fun i z hz => by
    obtain ⟨g, o', cap, e, hc⟩ := k2.open (by have := (List.getElem?_eq_some_iff.1 hz).1; omega)
    cases e
    refine ⟨g, o', rfl, fun W hW => ?_⟩
    have hcc := hc i z hz
    rw [hW.cell (p := ⟨g, o' + i, none⟩) (lt_of_cell (a := ⟨g, o' + i, none⟩) hcc)]; exact hcc
  have HX : Hid (∀ i : Nat, (i : Int) ≤ spT (x : Nat) → 2 * i < T.length) := fun i hi => by omega
  have hF : spT (x : Nat) ≤ 7 := by omega
  have hF0 : (0 : Int) ≤ spF (x : Nat) := s1
  have hF1 : spF (x : Nat) ≤ 7 := by omega
  have HW : Hid (w0 = w.alloc (.cells #[.slice (some ⟨b, o, none⟩) T.length c] 30)) := hw0
  obtain ⟨r, hr⟩ : ∃ r, r = unM T (spF (x : Nat)) (spT (x : Nat)) l := ⟨_, rfl⟩
  rw [← hr]
  have HR := hide hr
  have hx1 : (x : Int) < (T.length : Int) := by omega
  have hx2 : (0 : Int) ≤ (x : Int) := by omega
  clear hr h h2 h3 k1 k2 hw0 g1 g2 g4 g5 s1 s2 s3 hw hx
  generalize spF (x : Nat) = F at *
  generalize spT (x : Nat) = L at *
  obtain ⟨M, hM⟩ : ∃ M, M = l.length := ⟨_, rfl⟩
  have hM1 : (M : Int) ≤ 140737488355328 := by omega
  rw [← hM] at HU
  have HM := hide hM
  have g3' : (T.length : Int) ≤ 15 := by omega
  clear hM hul g3
  generalize hN : T.length = N at *
  clear hN
  go_enter Tryz.func107, Tryz.ntmps107
  go_wp2_with fail
  rw [← unhide HW]
  refine KS.mono ?_
  rintro e w0 ⟨rfl, rfl⟩
  obtain ⟨c1, hbw⟩ := unhide HB _ (Below.refl _ _)
  have c2 := unhide HU _ hbw
  clear KS
  go_wp2_with fail
  go_loopw [5, 21] (fun fv iv wr => ∃ (i : Nat) (f : Int), iv = .int .i64 (i : Int) ∧ fv = .int .i64 f ∧ i ≤ M ∧ 0 ≤ f ∧ f ≤ 8 ∧ Hid (unM T f L (l.drop i) = r) ∧ Below w0.heap.size w0 wr) (fun _ iv _ => (M - (intOf iv)).toNat)
  case atStart => exact ⟨0, F, rfl, rfl, by omega, hF0, by omega, (unhide HR).symm, Below.refl _ _⟩
  case round =>
    clear c1 c2 hbw
    obtain ⟨i, f, rfl, rfl, hin, hf0, hf8, hrem, hbel⟩ := hrel
    obtain ⟨c1, hbw⟩ := unhide HB _ hbel
    by_cases hlt : i < M
    · obtain ⟨z, hz⟩ : ∃ z, l[i]? = some z := ⟨_, List.getElem?_eq_getElem (by have := unhide HM; omega)⟩
      obtain ⟨g, o', rfl, hc⟩ := unhide HL i z hz
      have c2 := hc _ hbw
      have q1 : (i : Int) < (M : Int) := by omega
      have q0 : (0 : Int) ≤ (i : Int) := by omega
      have hd : l.drop i = z :: l.drop (i + 1) := by
        rw [List.drop_eq_getElem_cons (by have := unhide HM; omega)]; congr 1
        have := List.getElem?_eq_some_iff.1 hz; exact this.2
      have HD : Hid ((decide (f ≤ z) && decide (z ≤ L) && pos (ndAt T (2 * z.toNat)) && unM T (z + 1) L (l.drop (i + 1))) = r) := by
        have := unhide hrem; rw [hd] at this; exact this
      clear hd hz hrem hc
      by_cases k1 : z < f
      · have e : r = false := by rw [← unhide HD, decide_eq_false (by omega)]; simp
        subst e
        go_wp2_with fail
        go_ret
        exact ⟨rfl, hbw⟩
      · have k1' : decide (z < f) = false := by simp; omega
        by_cases k2 : L < z
        · have e : r = false := by rw [← unhide HD, decide_eq_false (show ¬ z ≤ L by omega)]; simp
          subst e
          go_wp2_with fail
          go_ret
          exact ⟨rfl, hbw⟩
        · have k2' : decide (L < z) = false := by simp; omega
          obtain ⟨y, hy⟩ : ∃ y : Nat, y = 2 * z.toNat := ⟨_, rfl⟩
          have K := unhide KB wr y hbw (by rw [hy]; exact unhide HX z.toNat (by omega))
          have q3 : 2 * z = (y : Int) := by omega
          have HD2 : Hid ((pos (ndAt T y) && unM T (z + 1) L (l.drop (i + 1))) = r) := by
            have := unhide HD; rw [decide_eq_true (show f ≤ z by omega), decide_eq_true (show z ≤ L by omega), ← hy] at this; simpa [Hid] using this
          have z0 : 0 ≤ z := by omega
          have z7 : z ≤ 7 := by omega
          clear hy HD
          generalize pos (ndAt T y) = p at *
          go_wp2_with fail
          refine K.mono ?_
          rintro e w2 ⟨rfl, b2⟩
          have hbel2 := bw_tr hbel b2
          cases p
          · have e : r = false := by rw [← unhide HD2]; rfl
            subst e
            go_wp2_with fail
            go_ret
            exact ⟨rfl, (unhide HB _ hbel2).2⟩
          · have HD3 : Hid (unM T (z + 1) L (l.drop (i + 1)) = r) := by have := unhide HD2; simpa [Hid] using this
            clear HD2 K
            go_wp2_with fail
            go_roundw
            case rel => exact ⟨i + 1, z + 1, by go_num, by go_num, by omega, by omega, by omega, HD3, hbel2⟩
            case measure => simp [intOf]; omega
    · have e : r = true := by
        rw [← unhide hrem, List.drop_of_length_le (by have := unhide HM; omega)]; rfl
      subst e
      have hie : i = M := by omega
      subst hie
      go_wp2_with fail
      go_ret
      exact ⟨rfl, hbw⟩
theorem ndM_def (T : List Nd) (x : Nat) {p m e : Int} {l : List Int} (hp : (ndAt T x).pub = p) (hm : (ndAt T x).mem = m) (he : (ndAt T x).ep = e) (hl : (ndAt T x).un = l) : ndM T x = if p = 0 then m == 0 && e == 0 && l.isEmpty else if p < 0 then false else if x % 2 = 0 then decide (0 ≤ m) && decide (0 ≤ e) && l.isEmpty else m == 0 && e == 0 && unM T (spF (x : Nat)) (spT (x : Nat)) l := by
  unfold ndM; rw [hp, hm, he, hl]
set_option maxRecDepth 100000 in
set_option maxHeartbeats 4000000 in
theorem nodeMay_any {w : World} {v : Value} {T : List Nd} (h : Trd w v T) (hw : Wd T) (hT : Tab w) {x : Nat} (hx : x < T.length) :
    Calls Tryz.prog 79 #[.agg #[v], .int .i64 (x : Int)] w fun e w' => e = .returned (.bool (ndM T x)) ∧ Below w.heap.size w w' := by
  obtain ⟨g1, g2, g3, g4, g5⟩ := hw.facts
  obtain ⟨-, -, -, -, s4, -⟩ := span_of g1 (show x < 2 * nlv T - 1 by omega)
  obtain ⟨a, c, rfl⟩ := h.slice
  obtain ⟨-, h2⟩ := h.at
  obtain ⟨b, o, rfl, h3⟩ := h2 (by omega)
  obtain ⟨u, k1, k2⟩ := h3 _ (bwA w (.cells #[.slice (some ⟨b, o, none⟩) T.length c] 30)) x hx
  obtain ⟨au, cu, rfl⟩ := nums_slice k2
  obtain ⟨c0, c1, c2, c3⟩ := k1
  have hul := h.unl _ (ndAt_mem hx)
  obtain ⟨p, hp⟩ : ∃ p, (ndAt T x).pub = p := ⟨_, rfl⟩
  obtain ⟨m, hm⟩ : ∃ p, (ndAt T x).mem = p := ⟨_, rfl⟩
  obtain ⟨e, he⟩ : ∃ p, (ndAt T x).ep = p := ⟨_, rfl⟩
  obtain ⟨l, hl⟩ : ∃ p, (ndAt T x).un = p := ⟨_, rfl⟩
  have HD := hide (ndM_def T x hp hm he hl)
  have KU : Hid (∀ W, Below w.heap.size w W → Calls Tryz.prog 107 #[.agg #[.slice (some ⟨b, o, none⟩) T.length c], .int .i64 (x : Int)] W fun e w' => e = .returned (.bool (unM T (spF (x : Nat)) (spT (x : Nat)) l)) ∧ Below W.heap.size W w') := fun W hW => by rw [← hl]; exact unmerged_any (h.bw hW) hw (hT.bw hW) hx
  have KV : Hid (∀ W, Below w.heap.size w W → Calls Tryz.prog 106 #[.int .i64 (x : Int)] W fun e w' => e = .returned (.int .i64 (lvl (x : Nat))) ∧ w' = W) := fun W hW => level_any (x : Int) W (by omega) (hT.bw hW)
  rw [hp] at c0
  rw [hm] at c1
  rw [he] at c2
  rw [hl] at c3 hul
  have hemp : l.isEmpty = ((l.length : Int) == 0) := by cases l <;> simp <;> omega
  rw [hemp] at HD
  have s5 : (lvl (x : Nat) == 0) = decide (x % 2 = 0) := by
    by_cases q : x % 2 = 0
    · rw [s4.2 q]; simp [q]
    · have : lvl (x : Nat) ≠ 0 := fun k => q (s4.1 k)
      simp [q, this]
  obtain ⟨M, hM⟩ : ∃ M, M = l.length := ⟨_, rfl⟩
  rw [← hM] at c3 hul HD
  have hM1 : (M : Int) ≤ 140737488355328 := by omega
  obtain ⟨r, hr⟩ : ∃ r, r = ndM T x := ⟨_, rfl⟩
  rw [← hr] at HD ⊢
  generalize unM T (spF (x : Nat)) (spT (x : Nat)) l = um at *
  have hx1 : (x : Int) < (T.length : Int) := by omega
  have hx2 : (0 : Int) ≤ (x : Int) := by omega
  have g3' : (T.length : Int) ≤ 15 := by omega
  clear h h2 h3 k2 hul hp hm he hl hemp s4 hM hr hT hw g1 g2 g3 g4 g5 hx
  generalize T.length = N at *
  generalize lvl (x : Nat) = lv at *
  by_cases k0 : p = 0
  · subst k0
    rw [if_pos rfl] at HD
    by_cases k1 : m = 0
    · subst k1
      by_cases k2 : e = 0
      · subst k2
        obtain rfl : r = ((M : Int) == 0) := by rw [unhide HD]; simp
        clear HD
        go_enter Tryz.func79, Tryz.ntmps79
        go_wp2
        go_ret
        exact ⟨rfl, (bwA _ _).alloc (by simp) _⟩
      · have k2' : (e == 0) = false := by simp [k2]
        have k2'' : decide (e = 0) = false := by simp [k2]
        obtain rfl : r = false := by rw [unhide HD, k2']; simp
        clear HD
        go_enter Tryz.func79, Tryz.ntmps79
        go_wp2
        go_ret
        exact ⟨rfl, (bwA _ _).alloc (by simp) _⟩
    · have k2' : (m == 0) = false := by simp [k1]
      have k2'' : decide (m = 0) = false := by simp [k1]
      obtain rfl : r = false := by rw [unhide HD, k2']; simp
      clear HD
      go_enter Tryz.func79, Tryz.ntmps79
      go_wp2
      go_ret
      exact ⟨rfl, (bwA _ _).alloc (by simp) _⟩
  · rw [if_neg k0] at HD
    have k0' : (p == 0) = false := by simp [k0]
    have k0'' : decide (p = 0) = false := by simp [k0]
    by_cases kn : p < 0
    · rw [if_pos kn] at HD
      obtain rfl := unhide HD
      clear HD
      go_enter Tryz.func79, Tryz.ntmps79
      go_wp2
      go_ret
      exact ⟨rfl, (bwA _ _).alloc (by simp) _⟩
    · rw [if_neg kn] at HD
      have KV2 := hide (unhide KV _ ((bwA w (.cells #[.slice (some ⟨b, o, none⟩) N c] 30)).alloc (by simp) (.cells #[.int .i64 p, .int .i64 m, .int .i64 e, .slice au M cu] 57)))
      have KU2 := hide (unhide KU _ ((bwA w (.cells #[.slice (some ⟨b, o, none⟩) N c] 30)).alloc (by simp) (.cells #[.int .i64 p, .int .i64 m, .int .i64 e, .slice au M cu] 57)))
      clear KV KU
      by_cases kl : x % 2 = 0
      · rw [if_pos kl] at HD
        have s6 : (lv == 0) = true := by rw [s5]; simp [kl]
        clear s5
        obtain rfl : lv = 0 := by simpa using s6
        clear s6
        by_cases k1 : 0 ≤ m
        · by_cases k2 : 0 ≤ e
          · obtain rfl : r = ((M : Int) == 0) := by rw [unhide HD, decide_eq_true k1, decide_eq_true k2]; simp
            clear HD
            go_enter Tryz.func79, Tryz.ntmps79
            go_wp2_with fail
            refine (unhide KV2).mono ?_
            rintro e1 w1 ⟨rfl, rfl⟩
            clear KV2
            go_wp2
            go_ret
            exact ⟨rfl, (bwA _ _).alloc (by simp) _⟩
          · have k2' : decide (0 ≤ e) = false := by simp; omega
            obtain rfl : r = false := by rw [unhide HD, k2']; simp
            clear HD
            go_enter Tryz.func79, Tryz.ntmps79
            go_wp2_with fail
            refine (unhide KV2).mono ?_
            rintro e1 w1 ⟨rfl, rfl⟩
            clear KV2
            go_wp2
            go_ret
            exact ⟨rfl, (bwA _ _).alloc (by simp) _⟩
        · have k2' : decide (0 ≤ m) = false := by simp; omega
          obtain rfl : r = false := by rw [unhide HD, k2']; simp
          clear HD
          go_enter Tryz.func79, Tryz.ntmps79
          go_wp2_with fail
          refine (unhide KV2).mono ?_
          rintro e1 w1 ⟨rfl, rfl⟩
          clear KV2
          go_wp2
          go_ret
          exact ⟨rfl, (bwA _ _).alloc (by simp) _⟩
      · rw [if_neg kl] at HD
        have s6 : (lv == 0) = false := by rw [s5]; simp [kl]
        have s7 : decide (lv = 0) = false := by simpa using s6
        clear s5
        by_cases k1 : m = 0
        · subst k1
          by_cases k2 : e = 0
          · subst k2
            obtain rfl : r = um := by rw [unhide HD]; simp
            clear HD
            go_enter Tryz.func79, Tryz.ntmps79
            go_wp2_with fail
            refine (unhide KV2).mono ?_
            rintro e1 w1 ⟨rfl, rfl⟩
            clear KV2
            go_wp2_with fail
            refine (unhide KU2).mono ?_
            rintro e1 w1 ⟨rfl, b1⟩
            go_wp2
            go_ret
            exact ⟨rfl, bw_tr ((bwA _ _).alloc (by simp) _) b1⟩
          · have k2' : (e == 0) = false := by simp [k2]
            have k2'' : decide (e = 0) = false := by simp [k2]
            obtain rfl : r = false := by rw [unhide HD, k2']; simp
            clear HD
            go_enter Tryz.func79, Tryz.ntmps79
            go_wp2_with fail
            refine (unhide KV2).mono ?_
            rintro e1 w1 ⟨rfl, rfl⟩
            clear KV2
            go_wp2
            go_ret
            exact ⟨rfl, (bwA _ _).alloc (by simp) _⟩
        · have k2' : (m == 0) = false := by simp [k1]
          have k2'' : decide (m = 0) = false := by simp [k1]
          obtain rfl : r = false := by rw [unhide HD, k2']; simp
          clear HD
          go_enter Tryz.func79, Tryz.ntmps79
          go_wp2_with fail
          refine (unhide KV2).mono ?_
          rintro e1 w1 ⟨rfl, rfl⟩
          clear KV2
          go_wp2
          go_ret
          exact ⟨rfl, (bwA _ _).alloc (by simp) _⟩
end Go.Proofs.YtgmlkofogeoocaaGreatDoor

/- SameAdds, SameSeals, SameJoins of equal rows. -/
namespace Go.Proofs.YtgmlkofogeoocaaGreatDoor
open Go.RowKit Go.Maps
end Go.Proofs.YtgmlkofogeoocaaGreatDoor

/- Contracts of the document's blank, leaf, leaves and some. -/
namespace Go.Proofs.YtgmlkofogeoocaaGreatDoor
open Go.RowKit Go.Maps
def blkB (p m e : Int) (M : Nat) : Bool := p == 0 && m == 0 && e == 0 && ((M : Int) == 0)
def leafB (p m e : Int) (M : Nat) : Bool := blkB p m e M || (decide (0 < p) && decide (0 ≤ m) && decide (0 ≤ e) && ((M : Int) == 0))
theorem rblank_any (p m e : Int) (ua : Option Addr) (M uc : Nat) (w : World) (_hM : (M : Int) ≤ 140737488355328) :
    Calls Tryz.prog 84 #[.agg #[.int .i64 p, .int .i64 m, .int .i64 e, .slice ua M uc]] w fun x w' => x = .returned (.bool (blkB p m e M)) ∧ Below w.heap.size w w' := by
  obtain ⟨r, hr⟩ : ∃ r, r = blkB p m e M := ⟨_, rfl⟩
  rw [← hr]
  have HR := hide hr
  clear hr
  by_cases k0 : p = 0
  · subst k0
    by_cases k1 : m = 0
    · subst k1
      by_cases k2 : e = 0
      · subst k2
        obtain rfl : r = ((M : Int) == 0) := by rw [unhide HR]; simp [blkB]
        clear HR
        go_enter Tryz.func84, Tryz.ntmps84
        go_wp2
        go_ret
        exact ⟨rfl, bwA _ _⟩
      · have k2' : (e == 0) = false := by simp [k2]
        have k2'' : decide (e = 0) = false := by simp [k2]
        obtain rfl : r = false := by rw [unhide HR]; unfold blkB; rw [k2']; simp
        clear HR
        go_enter Tryz.func84, Tryz.ntmps84
        go_wp2
        go_ret
        exact ⟨rfl, bwA _ _⟩
    · have k2' : (m == 0) = false := by simp [k1]
      have k2'' : decide (m = 0) = false := by simp [k1]
      obtain rfl : r = false := by rw [unhide HR]; unfold blkB; rw [k2']; simp
      clear HR
      go_enter Tryz.func84, Tryz.ntmps84
      go_wp2
      go_ret
      exact ⟨rfl, bwA _ _⟩
  · have k2' : (p == 0) = false := by simp [k0]
    have k2'' : decide (p = 0) = false := by simp [k0]
    obtain rfl : r = false := by rw [unhide HR]; unfold blkB; rw [k2']; simp
    clear HR
    go_enter Tryz.func84, Tryz.ntmps84
    go_wp2
    go_ret
    exact ⟨rfl, bwA _ _⟩
set_option maxHeartbeats 1000000 in
theorem rleaf_any (p m e : Int) (ua : Option Addr) (M uc : Nat) (w : World) (hM : (M : Int) ≤ 140737488355328) :
    Calls Tryz.prog 57 #[.agg #[.int .i64 p, .int .i64 m, .int .i64 e, .slice ua M uc]] w fun x w' => x = .returned (.bool (leafB p m e M)) ∧ Below w.heap.size w w' := by
  have K := hide (rblank_any p m e ua M uc (w.alloc (.cells #[.int .i64 p, .int .i64 m, .int .i64 e, .slice ua M uc] 57)) hM)
  obtain ⟨r, hr⟩ : ∃ r, r = leafB p m e M := ⟨_, rfl⟩
  rw [← hr]
  have HR : Hid (r = (blkB p m e M || (decide (0 < p) && decide (0 ≤ m) && decide (0 ≤ e) && ((M : Int) == 0)))) := hr
  have HB : Hid (∀ w', Below (w.alloc (.cells #[.int .i64 p, .int .i64 m, .int .i64 e, .slice ua M uc] 57)).heap.size (w.alloc (.cells #[.int .i64 p, .int .i64 m, .int .i64 e, .slice ua M uc] 57)) w' → (w'.cell? ⟨w.heap.size, 0, none⟩ = some (.int .i64 p) ∧ w'.cell? ⟨w.heap.size, 1, none⟩ = some (.int .i64 m) ∧ w'.cell? ⟨w.heap.size, 2, none⟩ = some (.int .i64 e) ∧ w'.cell? ⟨w.heap.size, 3, none⟩ = some (.slice ua M uc)) ∧ Below w.heap.size w w') := fun w' hb => by
    have e1 : w'.heap[w.heap.size]? = some (.cells #[.int .i64 p, .int .i64 m, .int .i64 e, .slice ua M uc] 57 (0, 0)) := by rw [hb.block _ (by simp)]; exact heap_alloc_new _ _
    exact ⟨⟨by simp [World.cell?, e1], by simp [World.cell?, e1], by simp [World.cell?, e1], by simp [World.cell?, e1]⟩, bw_tr (bwA _ _) hb⟩
  clear hr
  generalize blkB p m e M = bb at *
  cases bb
  · by_cases k0 : 0 < p
    · by_cases k1 : 0 ≤ m
      · by_cases k2 : 0 ≤ e
        · obtain rfl : r = ((M : Int) == 0) := by rw [unhide HR, decide_eq_true k0, decide_eq_true k1, decide_eq_true k2]; simp
          clear HR
          go_enter Tryz.func57, Tryz.ntmps57
          go_wp2_with fail
          refine (unhide K).mono ?_
          rintro x w1 ⟨rfl, b1⟩
          obtain ⟨⟨c0, c1, c2, c3⟩, b2⟩ := unhide HB _ b1
          clear K HB b1
          go_wp2
          go_ret
          exact ⟨rfl, b2⟩
        · have k2' : decide (0 ≤ e) = false := by simp; omega
          obtain rfl : r = false := by rw [unhide HR, k2']; simp
          clear HR
          go_enter Tryz.func57, Tryz.ntmps57
          go_wp2_with fail
          refine (unhide K).mono ?_
          rintro x w1 ⟨rfl, b1⟩
          obtain ⟨⟨c0, c1, c2, c3⟩, b2⟩ := unhide HB _ b1
          clear K HB b1
          go_wp2
          go_ret
          exact ⟨rfl, b2⟩
      · have k2' : decide (0 ≤ m) = false := by simp; omega
        obtain rfl : r = false := by rw [unhide HR, k2']; simp
        clear HR
        go_enter Tryz.func57, Tryz.ntmps57
        go_wp2_with fail
        refine (unhide K).mono ?_
        rintro x w1 ⟨rfl, b1⟩
        obtain ⟨⟨c0, c1, c2, c3⟩, b2⟩ := unhide HB _ b1
        clear K HB b1
        go_wp2
        go_ret
        exact ⟨rfl, b2⟩
    · have k2' : decide (0 < p) = false := by simp; omega
      obtain rfl : r = false := by rw [unhide HR, k2']; simp
      clear HR
      go_enter Tryz.func57, Tryz.ntmps57
      go_wp2_with fail
      refine (unhide K).mono ?_
      rintro x w1 ⟨rfl, b1⟩
      obtain ⟨⟨c0, c1, c2, c3⟩, b2⟩ := unhide HB _ b1
      clear K HB b1
      go_wp2
      go_ret
      exact ⟨rfl, b2⟩
  · obtain rfl : r = true := by rw [unhide HR]; simp
    clear HR
    go_enter Tryz.func57, Tryz.ntmps57
    go_wp2_with fail
    refine (unhide K).mono ?_
    rintro x w1 ⟨rfl, b1⟩
    obtain ⟨⟨c0, c1, c2, c3⟩, b2⟩ := unhide HB _ b1
    clear K HB b1
    go_wp2
    go_ret
    exact ⟨rfl, b2⟩
def rlv (N : Nat) : Nat := if N = 1 then 1 else if N = 3 then 2 else if N = 7 then 4 else if N = 15 then 8 else 0
theorem rleaves_any (a : Option Addr) (N c : Nat) (w : World) (hN : N ≤ 140737488355328) :
    Calls Tryz.prog 56 #[.agg #[.slice a N c]] w fun e w' => e = .returned (.int .i64 (rlv N : Nat)) ∧ Below w.heap.size w w' := by
  obtain ⟨r, hr⟩ : ∃ r, r = rlv N := ⟨_, rfl⟩
  rw [← hr]
  have HR : Hid (r = if N = 1 then 1 else if N = 3 then 2 else if N = 7 then 4 else if N = 15 then 8 else 0) := hr
  have hb := hide (bwA w (.cells #[.slice a N c] 30))
  have hNI : (N : Int) ≤ 140737488355328 := by omega
  clear hr hN
  go_enter Tryz.func56, Tryz.ntmps56
  go_wp2_with fail
  go_loopw [3] (fun iv wr => ((iv = .int .i64 1) ∨ (iv = .int .i64 2 ∧ Hid (N ≠ 1)) ∨ (iv = .int .i64 4 ∧ Hid (N ≠ 1 ∧ N ≠ 3)) ∨ (iv = .int .i64 8 ∧ Hid (N ≠ 1 ∧ N ≠ 3 ∧ N ≠ 7)) ∨ (iv = .int .i64 16 ∧ Hid (N ≠ 1 ∧ N ≠ 3 ∧ N ≠ 7 ∧ N ≠ 15))) ∧ wr = w.alloc (.cells #[.slice a N c] 30)) (fun iv _ => (16 - (intOf iv)).toNat)
  case atStart => exact ⟨Or.inl rfl, rfl⟩
  case round =>
    obtain ⟨hr, rfl⟩ := hrel
    rcases hr with rfl | ⟨rfl, h1⟩ | ⟨rfl, h1⟩ | ⟨rfl, h1⟩ | ⟨rfl, h1⟩
    · by_cases k : N = 1
      · subst k
        obtain rfl : r = 1 := by rw [unhide HR]; rfl
        go_wp2_with fail
        go_ret
        exact ⟨rfl, unhide hb⟩
      · have k1 : ((N : Int) == 1) = false := by simp; omega
        have k2 : decide ((N : Int) = 1) = false := decide_eq_false (by omega)
        have h2 := hide k
        clear k
        go_wp2_with fail
        go_roundw
        case rel => exact ⟨Or.inr (Or.inl ⟨by go_num, h2⟩), by trivial⟩
        case measure => simp [intOf]
    · by_cases k : N = 3
      · subst k
        obtain rfl : r = 2 := by rw [unhide HR]; rfl
        go_wp2_with fail
        go_ret
        exact ⟨rfl, unhide hb⟩
      · have k1 : ((N : Int) == 3) = false := by simp; omega
        have k2 : decide ((N : Int) = 3) = false := decide_eq_false (by omega)
        have h2 := hide (And.intro (unhide h1) k)
        clear k
        go_wp2_with fail
        go_roundw
        case rel => exact ⟨Or.inr (Or.inr (Or.inl ⟨by go_num, h2⟩)), by trivial⟩
        case measure => simp [intOf]
    · by_cases k : N = 7
      · subst k
        obtain rfl : r = 4 := by rw [unhide HR]; rfl
        go_wp2_with fail
        go_ret
        exact ⟨rfl, unhide hb⟩
      · have k1 : ((N : Int) == 7) = false := by simp; omega
        have k2 : decide ((N : Int) = 7) = false := decide_eq_false (by omega)
        have h2 : Hid (N ≠ 1 ∧ N ≠ 3 ∧ N ≠ 7) := ⟨(unhide h1).1, (unhide h1).2, k⟩
        clear k
        go_wp2_with fail
        go_roundw
        case rel => exact ⟨Or.inr (Or.inr (Or.inr (Or.inl ⟨by go_num, h2⟩))), by trivial⟩
        case measure => simp [intOf]
    · by_cases k : N = 15
      · subst k
        obtain rfl : r = 8 := by rw [unhide HR]; rfl
        go_wp2_with fail
        go_ret
        exact ⟨rfl, unhide hb⟩
      · have k1 : ((N : Int) == 15) = false := by simp; omega
        have k2 : decide ((N : Int) = 15) = false := decide_eq_false (by omega)
        have h2 : Hid (N ≠ 1 ∧ N ≠ 3 ∧ N ≠ 7 ∧ N ≠ 15) := ⟨(unhide h1).1, (unhide h1).2.1, (unhide h1).2.2, k⟩
        clear k
        go_wp2_with fail
        go_roundw
        case rel => exact ⟨Or.inr (Or.inr (Or.inr (Or.inr ⟨by go_num, h2⟩))), by trivial⟩
        case measure => simp [intOf]
    · obtain rfl : r = 0 := by
        have h := unhide h1
        rw [unhide HR, if_neg h.1, if_neg h.2.1, if_neg h.2.2.1, if_neg h.2.2.2]
      go_wp2_with fail
      go_ret
      exact ⟨rfl, unhide hb⟩
theorem rlv_wd {T : List Nd} (h : rlv T.length ≠ 0) : rlv T.length = nlv T ∧ nlv T ∈ sizes ∧ T.length = 2 * nlv T - 1 := by
  unfold rlv at h ⊢
  unfold nlv sizes
  by_cases h1 : T.length = 1
  · simp [h1]
  · by_cases h3 : T.length = 3
    · simp [h3]
    · by_cases h7 : T.length = 7
      · simp [h7]
      · by_cases h15 : T.length = 15
        · simp [h15]
        · simp [h1, h3, h7, h15] at h
theorem rlv_of {n : Nat} (hn : n ∈ sizes) : rlv (2 * n - 1) = n := by
  simp [sizes] at hn
  rcases hn with rfl | rfl | rfl | rfl <;> rfl
set_option maxRecDepth 100000 in
set_option maxHeartbeats 1000000 in
theorem rsome_any {w : World} {v : Value} {T : List Nd} (h : Trd w v T) (hs : T.length ≤ 15) (f : Nat) (hf : f ≤ nlv T) :
    Calls Tryz.prog 60 #[.agg #[v], .int .i64 (f : Int)] w fun e w' => e = .returned (.bool (anyM T f (nlv T))) ∧ Below w.heap.size w w' := by
  obtain ⟨a, c, rfl⟩ := h.slice
  obtain ⟨-, h2⟩ := h.at
  obtain ⟨w0, hw0⟩ : ∃ w0, w0 = bxw w (.slice a T.length c) := ⟨_, rfl⟩
  have hb0 : Below w.heap.size w w0 := by rw [hw0]; exact bwA _ _
  have c0 : w0.cell? ⟨w.heap.size, 0, none⟩ = some (.slice a T.length c) := by rw [hw0]; exact bx_cell (Below.refl _ _)
  have HW : Hid (w0 = w.alloc (.cells #[.slice a T.length c] 30)) := hw0
  have HC : Hid (∀ x, x < T.length → ∃ b o, a = some ⟨b, o, none⟩ ∧ w0.cell? ⟨b, o + x * 4, none⟩ = some (.int .i64 (ndAt T x).pub)) := fun x hx => by
    obtain ⟨b, o, e, h3⟩ := h2 (by omega)
    exact ⟨b, o, e, by obtain ⟨u, k, _⟩ := h3 w0 hb0 x hx; exact k.c0⟩
  have HN : Hid (nlv T = (T.length + 1) / 2) := rfl
  have hs1 : (T.length : Int) ≤ 15 := by omega
  have hf8 : (f : Int) ≤ 8 := by unfold nlv at hf; omega
  have HF := hide hf
  clear h h2 hw0 hs hf
  generalize hnn : nlv T = n at *
  clear hnn
  generalize T.length = N at *
  go_enter Tryz.func60, Tryz.ntmps60
  go_upto_region 1 with fail
  rw [← unhide HW]
  go_wp2_with fail
  go_loopw [5] (fun iv wr => ∃ i x : Nat, iv = .int .i64 (x : Int) ∧ Hid (x = 2 * i ∧ f ≤ i ∧ i ≤ n) ∧ Hid (anyM T f i = false) ∧ wr = w0) (fun iv _ => (N + 2 - (intOf iv)).toNat)
  case atStart => exact ⟨f, 2 * f, by go_num, ⟨rfl, Nat.le_refl _, unhide HF⟩, anyM_self T f, rfl⟩
  case round =>
    obtain ⟨i, x, rfl, hx, hno, rfl⟩ := hrel
    obtain ⟨hx1, hx2, hx3⟩ := unhide hx
    have hn := unhide HN
    by_cases hin : x < N
    · have q1 : (x : Int) < (N : Int) := by omega
      have q0 : (0 : Int) ≤ (x : Int) := by omega
      obtain ⟨b, o, rfl, cp⟩ := unhide HC x hin
      have HP : Hid (anyM T f (i + 1) = pos (ndAt T x)) := by unfold Hid; rw [anyM_succ, unhide hno, decide_eq_true hx2, hx1]; simp
      have HI : Hid (i + 1 ≤ n) := by unfold Hid; omega
      have HX := hide hx1
      have HF2 := hide hx2
      clear hx hx1 hx2 hx3 hn hin
      by_cases kp : (ndAt T x).pub = 0
      · have hp : pos (ndAt T x) = false := by simp [pos, kp]
        rw [kp] at cp
        have hp2 := hide hp
        clear hp kp
        go_wp2_with fail
        go_roundw
        case rel => exact ⟨i + 1, x + 2, by go_num, ⟨by rw [unhide HX]; omega, Nat.le_succ_of_le (unhide HF2), unhide HI⟩, (unhide HP).trans (unhide hp2), by trivial⟩
        case measure => simp [intOf]; omega
      · have hp : Hid (pos (ndAt T x) = true) := by simp [Hid, pos, kp]
        generalize (ndAt T x).pub = p at *
        have k1 : (p != 0) = true := by simp [kp]
        have k2 : decide (p = 0) = false := by simp [kp]
        have k3 : (p == 0) = false := by simp [kp]
        clear kp
        go_wp2_with fail
        go_ret
        rw [anyM_mono ((unhide HP).trans (unhide hp)) (unhide HI)]
        exact ⟨rfl, hb0⟩
    · have q1 : decide ((x : Int) < (N : Int)) = false := decide_eq_false (by omega)
      have hie : Hid (i = n) := by unfold Hid; omega
      clear hx hx1 hx2 hx3 hn
      go_wp2_with fail
      go_ret
      rw [← unhide hie, unhide hno]
      exact ⟨rfl, hb0⟩
end Go.Proofs.YtgmlkofogeoocaaGreatDoor

/- The contract of the document's twice. -/
namespace Go.Proofs.YtgmlkofogeoocaaGreatDoor
open Go.RowKit Go.Maps
def cls (T : List Nd) (i k : Nat) : Bool := pos (ndAt T (2 * i)) && pos (ndAt T (2 * k)) && ((ndAt T (2 * i)).mem == (ndAt T (2 * k)).mem)
theorem memsOf_mem {L : List Nd} {m : Int} : m ∈ memsOf L ↔ ∃ n ∈ L, pos n = true ∧ n.mem = m := by
  unfold memsOf; simp [List.mem_map, List.mem_filter, and_assoc]
theorem nodup_take {T : List Nd} : ∀ n, n ≤ nlv T → ((memsOf ((lvs T).take n)).Nodup ↔ ∀ i, i < n → ∀ k, k < i → cls T i k = false)
  | 0, _ => by simp [memsOf]
  | n + 1, h => by
    have ih := nodup_take (T := T) n (by omega)
    rw [lvs_take (T := T) (i := n) (by omega), memsOf_snoc]
    have key : pos (ndAt T (2 * n)) = true → ((ndAt T (2 * n)).mem ∈ memsOf ((lvs T).take n) ↔ ∃ k, k < n ∧ cls T n k = true) := fun hp => by
      rw [memsOf_mem]
      constructor
      · rintro ⟨x, hx, h1, h2⟩
        obtain ⟨k, hk, rfl⟩ := List.mem_iff_getElem.1 hx
        have hk2 : k < n := by simp at hk; omega
        have e : ((lvs T).take n)[k] = ndAt T (2 * k) := by
          have := lvs_get (T := T) (i := k) (by omega)
          rw [List.getElem_take]
          exact (List.getElem?_eq_some_iff.1 this).2
        rw [e] at h1 h2
        exact ⟨k, hk2, by simp [cls, hp, h1, h2]⟩
      · rintro ⟨k, hk, hc⟩
        simp only [cls, Bool.and_eq_true, beq_iff_eq] at hc
        refine ⟨ndAt T (2 * k), ?_, hc.1.2, hc.2.symm⟩
        have := lvs_get (T := T) (i := k) (by omega)
        exact List.mem_of_getElem? (i := k) (by rw [List.getElem?_take_of_lt hk]; exact this)
    cases hp : pos (ndAt T (2 * n))
    · simp only [Bool.false_eq_true, if_false, List.append_nil]
      rw [ih]
      constructor
      · intro h1 i hi k hk
        rcases Nat.lt_or_ge i n with c | c
        · exact h1 i c k hk
        · obtain rfl : i = n := by omega
          simp [cls, hp]
      · intro h1 i hi k hk; exact h1 i (by omega) k hk
    · simp only [if_true]
      rw [List.nodup_append]
      constructor
      · rintro ⟨h1, -, h3⟩ i hi k hk
        rcases Nat.lt_or_ge i n with c | c
        · exact ih.1 h1 i c k hk
        · obtain rfl : i = n := by omega
          cases hc : cls T i k
          · rfl
          · exact absurd rfl (h3 _ ((key hp).2 ⟨k, hk, hc⟩) (ndAt T (2 * i)).mem (by simp))
      · intro h1
        refine ⟨ih.2 fun i hi k hk => h1 i (by omega) k hk, by simp, ?_⟩
        intro a ha b hb
        simp at hb
        subst hb
        intro e
        subst e
        obtain ⟨k, hk, hc⟩ := (key hp).1 ha
        rw [h1 n (by omega) k hk] at hc
        cases hc
theorem nodup_cls {T : List Nd} : (mems T).Nodup ↔ ∀ i, i < nlv T → ∀ k, k < i → cls T i k = false := by
  rw [← nodup_take (T := T) (nlv T) (Nat.le_refl _)]
  unfold mems
  rw [← lvs_len, List.take_length]
set_option maxRecDepth 100000 in
set_option maxHeartbeats 2000000 in
theorem rtwice_any {w : World} {v : Value} {T : List Nd} (h : Trd w v T) (hs : T.length ≤ 15) :
    Calls Tryz.prog 59 #[.agg #[v]] w fun e w' => e = .returned (.bool (!decide (mems T).Nodup)) ∧ Below w.heap.size w w' := by
  obtain ⟨a, c, rfl⟩ := h.slice
  obtain ⟨-, h2⟩ := h.at
  obtain ⟨w0, hw0⟩ : ∃ w0, w0 = bxw w (.slice a T.length c) := ⟨_, rfl⟩
  have hb0 : Below w.heap.size w w0 := by rw [hw0]; exact bwA _ _
  have HBX : Hid (∀ W, Below w0.heap.size w0 W → W.cell? ⟨w.heap.size, 0, none⟩ = some (.slice a T.length c) ∧ Below w.heap.size w W) := fun W hW => by subst hw0; exact ⟨bx_cell hW, bx_bel hW⟩
  have HW : Hid (w0 = w.alloc (.cells #[.slice a T.length c] 30)) := hw0
  have HC : Hid (∀ x, x < T.length → ∃ b o, a = some ⟨b, o, none⟩ ∧ ∀ W, Below w.heap.size w W → (W.cell? ⟨b, o + x * 4, none⟩ = some (.int .i64 (ndAt T x).pub) ∧ W.cell? ⟨b, o + x * 4 + 1, none⟩ = some (.int .i64 (ndAt T x).mem))) := fun x hx => by
    obtain ⟨b, o, e, h3⟩ := h2 (by omega)
    exact ⟨b, o, e, fun W hW => by obtain ⟨u, k, _⟩ := h3 W hW x hx; exact ⟨k.c0, k.c1⟩⟩
  have HN : Hid (nlv T = (T.length + 1) / 2) := rfl
  have HR : Hid (((mems T).Nodup ↔ ∀ i, i < nlv T → ∀ k, k < i → cls T i k = false)) := nodup_cls
  have hs1 : (T.length : Int) ≤ 15 := by omega
  obtain ⟨r, hr⟩ : ∃ r, r = !decide (mems T).Nodup := ⟨_, rfl⟩
  rw [← hr]
  have HR1 : Hid (∀ i k, i < nlv T → k < i → cls T i k = true → r = true) := fun i k h1 h2 h3 => by
    rw [hr]
    have : ¬ (mems T).Nodup := fun hd => by rw [(unhide HR).1 hd i h1 k h2] at h3; cases h3
    simp [this]
  have HR2 : Hid ((∀ i, i < nlv T → ∀ k, k < i → cls T i k = false) → r = false) := fun h1 => by
    rw [hr, decide_eq_true ((unhide HR).2 h1)]; rfl
  clear h h2 hw0 hs hr HR
  generalize hnn : nlv T = n at *
  clear hnn
  generalize T.length = N at *
  go_enter Tryz.func59, Tryz.ntmps59
  go_upto_region 1 with fail
  rw [← unhide HW]
  go_wp2_with fail
  go_loopw [3] (fun iv wr => ∃ i x : Nat, iv = .int .i64 (x : Int) ∧ Hid (x = 2 * i ∧ i ≤ n ∧ ∀ i', i' < i → ∀ k, k < i' → cls T i' k = false) ∧ Below w0.heap.size w0 wr) (fun iv _ => (N + 2 - (intOf iv)).toNat)
  case atStart => exact ⟨0, 0, rfl, ⟨rfl, by omega, fun i' h => by omega⟩, Below.refl _ _⟩
  case round =>
    obtain ⟨i, x, rfl, hx, hbel⟩ := hrel
    obtain ⟨c0, hbw⟩ := unhide HBX _ hbel
    have hn := unhide HN
    by_cases hin : x < N
    · have q1 : (x : Int) < (N : Int) := by omega
      have q0 : (0 : Int) ≤ (x : Int) := by omega
      clear hn
      rename World => wo
      go_wp2_with fail
      go_loopw [4] (fun kv wr => ∃ k y : Nat, kv = .int .i64 (y : Int) ∧ Hid (y = 2 * k ∧ k ≤ i ∧ ∀ k', k' < k → cls T i k' = false) ∧ Below w0.heap.size w0 wr) (fun kv _ => (x + 2 - (intOf kv)).toNat)
      case atStart => exact ⟨0, 0, rfl, ⟨rfl, by omega, fun i' h => by omega⟩, hbel⟩
      case round =>
        obtain ⟨k, y, rfl, hy, hbel2⟩ := hrel
        obtain ⟨d0, hbw2⟩ := unhide HBX _ hbel2
        by_cases hyx : y < x
        · have y1 : (y : Int) < (x : Int) := by omega
          have y0 : (0 : Int) ≤ (y : Int) := by omega
          have y2 : (y : Int) < (N : Int) := by omega
          obtain ⟨b, o, rfl, hc1⟩ := unhide HC x hin
          obtain ⟨b', o', e', hc2⟩ := unhide HC y (by omega)
          cases e'
          obtain ⟨e1, e2⟩ := hc1 _ hbw2
          obtain ⟨f1, f2⟩ := hc2 _ hbw2
          have HK : Hid (cls T i k = (((ndAt T x).pub != 0) && ((ndAt T y).pub != 0) && ((ndAt T x).mem == (ndAt T y).mem))) := by
            unfold Hid; obtain ⟨hx1, -⟩ := unhide hx; obtain ⟨hy1, -⟩ := unhide hy; subst hx1 hy1; rfl
          have HK2 : Hid (i < n ∧ k < i) := by obtain ⟨hx1, -⟩ := unhide hx; obtain ⟨hy1, -⟩ := unhide hy; have := unhide HN; exact ⟨by omega, by omega⟩
          have HS : Hid (cls T i k = false → (y + 2 = 2 * (k + 1) ∧ k + 1 ≤ i ∧ ∀ k', k' < k + 1 → cls T i k' = false)) := fun q => by
            obtain ⟨hy1, hy2, hy3⟩ := unhide hy
            refine ⟨by omega, (unhide HK2).2, fun k' hk' => ?_⟩
            rcases Nat.lt_or_ge k' k with c | c
            · exact hy3 k' c
            · obtain rfl : k' = k := by omega
              exact q
          clear hc1 hc2 hy
          generalize (ndAt T x).pub = p at *
          generalize (ndAt T y).pub = p' at *
          generalize (ndAt T x).mem = m at *
          generalize (ndAt T y).mem = m' at *
          by_cases k1 : p = 0
          · have hcl := unhide HS (by rw [unhide HK, k1]; rfl)
            have HCL := hide hcl
            subst k1
            clear hcl HK HS HK2
            go_wp2_with fail
            go_quiet (fail)
            go_wp2_with fail
            go_roundw
            case rel => exact ⟨k + 1, y + 2, by go_num, unhide HCL, below_drewN hbel2 _⟩
            case measure => simp [intOf]; omega
          · have p1 : (p != 0) = true := by simp [k1]
            have p2 : decide (p = 0) = false := by simp [k1]
            have p3 : (p == 0) = false := by simp [k1]
            by_cases k2 : p' = 0
            · have hcl := unhide HS (by rw [unhide HK, k2]; simp)
              have HCL := hide hcl
              subst k2
              clear hcl HK HS HK2 k1
              go_wp2_with fail
              go_quiet (fail)
              go_wp2_with fail
              go_roundw
              case rel => exact ⟨k + 1, y + 2, by go_num, unhide HCL, below_drewN hbel2 _⟩
              case measure => simp [intOf]; omega
            · have r1 : (p' != 0) = true := by simp [k2]
              have r2 : decide (p' = 0) = false := by simp [k2]
              have r3 : (p' == 0) = false := by simp [k2]
              by_cases k3 : m = m'
              · subst k3
                obtain rfl : r = true := unhide HR1 i k (unhide HK2).1 (unhide HK2).2 (by rw [unhide HK, p1, r1]; simp)
                clear HK HS HK2 k1 k2 HR1 HR2
                go_wp2_with fail
                go_quiet (fail)
                go_wp2_with fail
                go_ret
                exact ⟨rfl, below_drewN hbw2 _⟩
              · have s1 : (m == m') = false := by simp [k3]
                have s2 : decide (m = m') = false := by simp [k3]
                have hcl := unhide HS (by rw [unhide HK, s1]; simp)
                have HCL := hide hcl
                clear hcl HK HS HK2 k1 k2 k3
                go_wp2_with fail
                go_quiet (fail)
                go_wp2_with fail
                go_roundw
                case rel => exact ⟨k + 1, y + 2, by go_num, unhide HCL, below_drewN hbel2 _⟩
                case measure => simp [intOf]; omega
        · have y1 : decide ((y : Int) < (x : Int)) = false := decide_eq_false (by omega)
          have HX2 : Hid (x + 2 = 2 * (i + 1) ∧ i + 1 ≤ n ∧ ∀ i', i' < i + 1 → ∀ k, k < i' → cls T i' k = false) := by
            obtain ⟨hx1, hx2, hx3⟩ := unhide hx
            obtain ⟨hy1, hy2, hy3⟩ := unhide hy
            have hn := unhide HN
            refine ⟨by omega, by omega, fun i' hi' k' hk' => ?_⟩
            rcases Nat.lt_or_ge i' i with c | c
            · exact hx3 i' c k' hk'
            · obtain rfl : i' = i := by omega
              exact hy3 k' (by omega)
          clear hy hx
          go_wp2_with fail
          go_roundw
          case rel => exact ⟨i + 1, x + 2, by go_num, unhide HX2, hbel2⟩
          case measure => simp [intOf]; omega
    · have q1 : decide ((x : Int) < (N : Int)) = false := decide_eq_false (by omega)
      obtain rfl : r = false := unhide HR2 (by
        obtain ⟨hx1, hx2, hx3⟩ := unhide hx
        intro i' hi' k hk
        exact hx3 i' (by omega) k hk)
      clear hx hn
      go_wp2_with fail
      go_ret
      exact ⟨rfl, hbw⟩
end Go.Proofs.YtgmlkofogeoocaaGreatDoor
