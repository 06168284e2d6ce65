/- Texts joined: TrC LgPure TsA TsC. -/
import Derived.Test.YthlbdajnkdkocaaDoorZ03
/- Contracts of unmergedMayBe and nodeMayBe. -/
namespace Go.Proofs.YthlbdajnkdkocaaDoor
open Go.RowKit Go.Maps
def Wd (T : List Nd) : Prop := ∃ n ∈ sizes, T.length = 2 * n - 1
theorem Wd.facts {T : List Nd} (h : Wd T) : nlv T ∈ sizes ∧ T.length = 2 * nlv T - 1 ∧ T.length ≤ 15 ∧ nlv T ≤ 8 ∧ 0 < nlv T := by
  obtain ⟨n, hn, e⟩ := h
  have : nlv T = n := by unfold nlv; simp [sizes] at hn; omega
  rw [this]
  refine ⟨hn, e, ?_, ?_, ?_⟩ <;> (simp [sizes] at hn; omega)
theorem span_of {n x : Nat} (hn : n ∈ sizes) (hx : x < 2 * n - 1) : (0 ≤ spF (x : Nat) ∧ spF (x : Nat) ≤ spT (x : Nat) ∧ spT (x : Nat) < (n : Nat) ∧ (x % 2 = 1 ∨ (2 * spF (x : Nat) = (x : Nat) ∧ 2 * spT (x : Nat) = (x : Nat)))) ∧
    (x % 2 = 1 → lfV (x : Nat) = (lN x : Nat) ∧ rtV (x : Nat) = (rN x : Nat) ∧ lfB (x : Nat) = true ∧ rtB (x : Nat) = true ∧ lN x < 2 * n - 1 ∧ rN x < 2 * n - 1 ∧ lvl (lN x : Nat) + 1 = lvl (x : Nat) ∧ lvl (rN x : Nat) + 1 = lvl (x : Nat) ∧ spF (lN x : Nat) = spF (x : Nat) ∧ spT (lN x : Nat) + 1 = spF (rN x : Nat) ∧ spT (rN x : Nat) = spT (x : Nat)) ∧
    0 ≤ lvl (x : Nat) ∧ lvl (x : Nat) ≤ 3 ∧ (lvl (x : Nat) = 0 ↔ x % 2 = 0) ∧ lfB (x : Nat) = decide (x % 2 = 1) := by
  have h := List.all_eq_true.1 fin_span n hn
  have h := List.all_eq_true.1 h x (List.mem_range.2 hx)
  simp only [Bool.and_eq_true, Bool.or_eq_true, decide_eq_true_eq] at h
  obtain ⟨⟨⟨⟨⟨⟨⟨⟨h1, h2⟩, h3⟩, h4⟩, h5⟩, h6⟩, h7⟩, h8⟩, h9⟩ := h
  refine ⟨⟨h1, h2, h3, h4⟩, fun hp => ?_, h6, h7, h8, h9⟩
  rcases h5 with c | ⟨⟨⟨⟨⟨⟨⟨⟨⟨⟨a1, a2⟩, a3⟩, a4⟩, a5⟩, a6⟩, a7⟩, a8⟩, a9⟩, a10⟩, a11⟩
  · omega
  · exact ⟨a1, a2, a3, a4, a5, a6, a7, a8, a9, a10, a11⟩
set_option maxRecDepth 100000 in
set_option maxHeartbeats 2000000 in
theorem unmerged_any {w : World} {v : Value} {T : List Nd} (h : Trd w v T) (hw : Wd T) (hT : Tab w) {x : Nat} (hx : x < T.length) :
    Calls Tryd.prog 84 #[.agg #[v], .int .i64 (x : Int)] w fun e w' => e = .returned (.bool (unM T (spF (x : Nat)) (spT (x : Nat)) (ndAt T x).un)) ∧ Below w.heap.size w w' := by
  obtain ⟨g1, g2, g3, g4, g5⟩ := hw.facts
  obtain ⟨⟨s1, s2, s3, -⟩, -⟩ := span_of g1 (show x < 2 * nlv T - 1 by omega)
  obtain ⟨a, c, rfl⟩ := h.slice
  obtain ⟨w0, hw0⟩ : ∃ w0, w0 = bxw w (.slice a T.length c) := ⟨_, rfl⟩
  have HB : Hid (∀ W, Below w0.heap.size w0 W → W.cell? ⟨w.heap.size, 0, none⟩ = some (.slice a T.length c) ∧ Below w.heap.size w W) := fun W hW => by subst hw0; exact ⟨bx_cell hW, bx_bel hW⟩
  have KS := span_any (x : Int) w0 (by omega) (hT.bw (by rw [hw0]; exact bwA _ _))
  have KB : Hid (∀ (W : World) (y : Nat), Below w.heap.size w W → y < T.length → Calls Tryd.prog 68 #[.agg #[.slice a T.length c], .int .i64 (y : Int)] W fun e w' => e = .returned (.bool (!pos (ndAt T y))) ∧ Below W.heap.size W w') := fun W y hW hy => blank_any (h.bw hW) hy
  obtain ⟨-, h2⟩ := h.at
  obtain ⟨b, o, rfl, h3⟩ := h2 (by omega)
  obtain ⟨u, k1, k2⟩ := h3 w (Below.refl _ _) x hx
  have hB : b < w.heap.size := lt_of_cell k1.c3
  have HU : Hid (∀ W, Below w.heap.size w W → W.cell? ⟨b, o + x * 4 + 3, none⟩ = some u) := fun W hW => (k1.bw hB hW).c3
  obtain ⟨au, cu, rfl⟩ := nums_slice k2
  have hul := h.unl _ (ndAt_mem hx)
  generalize (ndAt T x).un = l at *
  have HL : Hid (∀ i z, l[i]? = some z → ∃ g o', au = some ⟨g, o', none⟩ ∧ ∀ W, Below w.heap.size w W → W.cell? ⟨g, o' + i, none⟩ = some (.int .i64 z)) := fun i z hz => by
    obtain ⟨g, o', cap, e, hc⟩ := k2.open (by have := (List.getElem?_eq_some_iff.1 hz).1; omega)
    cases e
    refine ⟨g, o', rfl, fun W hW => ?_⟩
    have hcc := hc i z hz
    rw [hW.cell (p := ⟨g, o' + i, none⟩) (lt_of_cell (a := ⟨g, o' + i, none⟩) hcc)]; exact hcc
  have HX : Hid (∀ i : Nat, (i : Int) ≤ spT (x : Nat) → 2 * i < T.length) := fun i hi => by omega
  have hF : spT (x : Nat) ≤ 7 := by omega
  have hF0 : (0 : Int) ≤ spF (x : Nat) := s1
  have hF1 : spF (x : Nat) ≤ 7 := by omega
  have HW : Hid (w0 = w.alloc (.cells #[.slice (some ⟨b, o, none⟩) T.length c] 29)) := hw0
  obtain ⟨r, hr⟩ : ∃ r, r = unM T (spF (x : Nat)) (spT (x : Nat)) l := ⟨_, rfl⟩
  rw [← hr]
  have HR := hide hr
  have hx1 : (x : Int) < (T.length : Int) := by omega
  have hx2 : (0 : Int) ≤ (x : Int) := by omega
  clear hr h h2 h3 k1 k2 hw0 g1 g2 g4 g5 s1 s2 s3 hw hx
  generalize spF (x : Nat) = F at *
  generalize spT (x : Nat) = L at *
  obtain ⟨M, hM⟩ : ∃ M, M = l.length := ⟨_, rfl⟩
  have hM1 : (M : Int) ≤ 140737488355328 := by omega
  rw [← hM] at HU
  have HM := hide hM
  have g3' : (T.length : Int) ≤ 15 := by omega
  clear hM hul g3
  generalize hN : T.length = N at *
  clear hN
  go_enter Tryd.func84, Tryd.ntmps84
  go_wp2_with fail
  rw [← unhide HW]
  refine KS.mono ?_
  rintro e w0 ⟨rfl, rfl⟩
  obtain ⟨c1, hbw⟩ := unhide HB _ (Below.refl _ _)
  have c2 := unhide HU _ hbw
  clear KS
  go_wp2_with fail
  go_loopw [5, 21] (fun fv iv wr => ∃ (i : Nat) (f : Int), iv = .int .i64 (i : Int) ∧ fv = .int .i64 f ∧ i ≤ M ∧ 0 ≤ f ∧ f ≤ 8 ∧ Hid (unM T f L (l.drop i) = r) ∧ Below w0.heap.size w0 wr) (fun _ iv _ => (M - (intOf iv)).toNat)
  case atStart => exact ⟨0, F, rfl, rfl, by omega, hF0, by omega, (unhide HR).symm, Below.refl _ _⟩
  case round =>
    clear c1 c2 hbw
    obtain ⟨i, f, rfl, rfl, hin, hf0, hf8, hrem, hbel⟩ := hrel
    obtain ⟨c1, hbw⟩ := unhide HB _ hbel
    by_cases hlt : i < M
    · obtain ⟨z, hz⟩ : ∃ z, l[i]? = some z := ⟨_, List.getElem?_eq_getElem (by have := unhide HM; omega)⟩
      obtain ⟨g, o', rfl, hc⟩ := unhide HL i z hz
      have c2 := hc _ hbw
      have q1 : (i : Int) < (M : Int) := by omega
      have q0 : (0 : Int) ≤ (i : Int) := by omega
      have hd : l.drop i = z :: l.drop (i + 1) := by
        rw [List.drop_eq_getElem_cons (by have := unhide HM; omega)]; congr 1
        have := List.getElem?_eq_some_iff.1 hz; exact this.2
      have HD : Hid ((decide (f ≤ z) && decide (z ≤ L) && pos (ndAt T (2 * z.toNat)) && unM T (z + 1) L (l.drop (i + 1))) = r) := by
        have := unhide hrem; rw [hd] at this; exact this
      clear hd hz hrem hc
      by_cases k1 : z < f
      · have e : r = false := by rw [← unhide HD, decide_eq_false (by omega)]; simp
        subst e
        go_wp2_with fail
        go_ret
        exact ⟨rfl, hbw⟩
      · have k1' : decide (z < f) = false := by simp; omega
        by_cases k2 : L < z
        · have e : r = false := by rw [← unhide HD, decide_eq_false (show ¬ z ≤ L by omega)]; simp
          subst e
          go_wp2_with fail
          go_ret
          exact ⟨rfl, hbw⟩
        · have k2' : decide (L < z) = false := by simp; omega
          obtain ⟨y, hy⟩ : ∃ y : Nat, y = 2 * z.toNat := ⟨_, rfl⟩
          have K := unhide KB wr y hbw (by rw [hy]; exact unhide HX z.toNat (by omega))
          have q3 : 2 * z = (y : Int) := by omega
          have HD2 : Hid ((pos (ndAt T y) && unM T (z + 1) L (l.drop (i + 1))) = r) := by
            have := unhide HD; rw [decide_eq_true (show f ≤ z by omega), decide_eq_true (show z ≤ L by omega), ← hy] at this; simpa [Hid] using this
          have z0 : 0 ≤ z := by omega
          have z7 : z ≤ 7 := by omega
          clear hy HD
          generalize pos (ndAt T y) = p at *
          go_wp2_with fail
          refine K.mono ?_
          rintro e w2 ⟨rfl, b2⟩
          have hbel2 := bw_tr hbel b2
          cases p
          · have e : r = false := by rw [← unhide HD2]; rfl
            subst e
            go_wp2_with fail
            go_ret
            exact ⟨rfl, (unhide HB _ hbel2).2⟩
          · have HD3 : Hid (unM T (z + 1) L (l.drop (i + 1)) = r) := by have := unhide HD2; simpa [Hid] using this
            clear HD2 K
            go_wp2_with fail
            go_roundw
            case rel => exact ⟨i + 1, z + 1, by go_num, by go_num, by omega, by omega, by omega, HD3, hbel2⟩
            case measure => simp [intOf]; omega
    · have e : r = true := by
        rw [← unhide hrem, List.drop_of_length_le (by have := unhide HM; omega)]; rfl
      subst e
      have hie : i = M := by omega
      subst hie
      go_wp2_with fail
      go_ret
      exact ⟨rfl, hbw⟩
theorem ndM_def (T : List Nd) (x : Nat) {p m e : Int} {l : List Int} (hp : (ndAt T x).pub = p) (hm : (ndAt T x).mem = m) (he : (ndAt T x).ep = e) (hl : (ndAt T x).un = l) : ndM T x = if p = 0 then m == 0 && e == 0 && l.isEmpty else if p < 0 then false else if x % 2 = 0 then decide (0 ≤ m) && decide (0 ≤ e) && l.isEmpty else m == 0 && e == 0 && unM T (spF (x : Nat)) (spT (x : Nat)) l := by
  unfold ndM; rw [hp, hm, he, hl]
set_option maxRecDepth 100000 in
set_option maxHeartbeats 4000000 in
theorem nodeMay_any {w : World} {v : Value} {T : List Nd} (h : Trd w v T) (hw : Wd T) (hT : Tab w) {x : Nat} (hx : x < T.length) :
    Calls Tryd.prog 65 #[.agg #[v], .int .i64 (x : Int)] w fun e w' => e = .returned (.bool (ndM T x)) ∧ Below w.heap.size w w' := by
  obtain ⟨g1, g2, g3, g4, g5⟩ := hw.facts
  obtain ⟨-, -, -, -, s4, -⟩ := span_of g1 (show x < 2 * nlv T - 1 by omega)
  obtain ⟨a, c, rfl⟩ := h.slice
  obtain ⟨-, h2⟩ := h.at
  obtain ⟨b, o, rfl, h3⟩ := h2 (by omega)
  obtain ⟨u, k1, k2⟩ := h3 _ (bwA w (.cells #[.slice (some ⟨b, o, none⟩) T.length c] 29)) x hx
  obtain ⟨au, cu, rfl⟩ := nums_slice k2
  obtain ⟨c0, c1, c2, c3⟩ := k1
  have hul := h.unl _ (ndAt_mem hx)
  obtain ⟨p, hp⟩ : ∃ p, (ndAt T x).pub = p := ⟨_, rfl⟩
  obtain ⟨m, hm⟩ : ∃ p, (ndAt T x).mem = p := ⟨_, rfl⟩
  obtain ⟨e, he⟩ : ∃ p, (ndAt T x).ep = p := ⟨_, rfl⟩
  obtain ⟨l, hl⟩ : ∃ p, (ndAt T x).un = p := ⟨_, rfl⟩
  have HD := hide (ndM_def T x hp hm he hl)
  have KU : Hid (∀ W, Below w.heap.size w W → Calls Tryd.prog 84 #[.agg #[.slice (some ⟨b, o, none⟩) T.length c], .int .i64 (x : Int)] W fun e w' => e = .returned (.bool (unM T (spF (x : Nat)) (spT (x : Nat)) l)) ∧ Below W.heap.size W w') := fun W hW => by rw [← hl]; exact unmerged_any (h.bw hW) hw (hT.bw hW) hx
  have KV : Hid (∀ W, Below w.heap.size w W → Calls Tryd.prog 83 #[.int .i64 (x : Int)] W fun e w' => e = .returned (.int .i64 (lvl (x : Nat))) ∧ w' = W) := fun W hW => level_any (x : Int) W (by omega) (hT.bw hW)
  rw [hp] at c0
  rw [hm] at c1
  rw [he] at c2
  rw [hl] at c3 hul
  have hemp : l.isEmpty = ((l.length : Int) == 0) := by cases l <;> simp <;> omega
  rw [hemp] at HD
  have s5 : (lvl (x : Nat) == 0) = decide (x % 2 = 0) := by
    by_cases q : x % 2 = 0
    · rw [s4.2 q]; simp [q]
    · have : lvl (x : Nat) ≠ 0 := fun k => q (s4.1 k)
      simp [q, this]
  obtain ⟨M, hM⟩ : ∃ M, M = l.length := ⟨_, rfl⟩
  rw [← hM] at c3 hul HD
  have hM1 : (M : Int) ≤ 140737488355328 := by omega
  obtain ⟨r, hr⟩ : ∃ r, r = ndM T x := ⟨_, rfl⟩
  rw [← hr] at HD ⊢
  generalize unM T (spF (x : Nat)) (spT (x : Nat)) l = um at *
  have hx1 : (x : Int) < (T.length : Int) := by omega
  have hx2 : (0 : Int) ≤ (x : Int) := by omega
  have g3' : (T.length : Int) ≤ 15 := by omega
  clear h h2 h3 k2 hul hp hm he hl hemp s4 hM hr hT hw g1 g2 g3 g4 g5 hx
  generalize T.length = N at *
  generalize lvl (x : Nat) = lv at *
  by_cases k0 : p = 0
  · subst k0
    rw [if_pos rfl] at HD
    by_cases k1 : m = 0
    · subst k1
      by_cases k2 : e = 0
      · subst k2
        obtain rfl : r = ((M : Int) == 0) := by rw [unhide HD]; simp
        clear HD
        go_enter Tryd.func65, Tryd.ntmps65
        go_wp2
        go_ret
        exact ⟨rfl, (bwA _ _).alloc (by simp) _⟩
      · have k2' : (e == 0) = false := by simp [k2]
        have k2'' : decide (e = 0) = false := by simp [k2]
        obtain rfl : r = false := by rw [unhide HD, k2']; simp
        clear HD
        go_enter Tryd.func65, Tryd.ntmps65
        go_wp2
        go_ret
        exact ⟨rfl, (bwA _ _).alloc (by simp) _⟩
    · have k2' : (m == 0) = false := by simp [k1]
      have k2'' : decide (m = 0) = false := by simp [k1]
      obtain rfl : r = false := by rw [unhide HD, k2']; simp
      clear HD
      go_enter Tryd.func65, Tryd.ntmps65
      go_wp2
      go_ret
      exact ⟨rfl, (bwA _ _).alloc (by simp) _⟩
  · rw [if_neg k0] at HD
    have k0' : (p == 0) = false := by simp [k0]
    have k0'' : decide (p = 0) = false := by simp [k0]
    by_cases kn : p < 0
    · rw [if_pos kn] at HD
      obtain rfl := unhide HD
      clear HD
      go_enter Tryd.func65, Tryd.ntmps65
      go_wp2
      go_ret
      exact ⟨rfl, (bwA _ _).alloc (by simp) _⟩
    · rw [if_neg kn] at HD
      have KV2 := hide (unhide KV _ ((bwA w (.cells #[.slice (some ⟨b, o, none⟩) N c] 29)).alloc (by simp) (.cells #[.int .i64 p, .int .i64 m, .int .i64 e, .slice au M cu] 76)))
      have KU2 := hide (unhide KU _ ((bwA w (.cells #[.slice (some ⟨b, o, none⟩) N c] 29)).alloc (by simp) (.cells #[.int .i64 p, .int .i64 m, .int .i64 e, .slice au M cu] 76)))
      clear KV KU
      by_cases kl : x % 2 = 0
      · rw [if_pos kl] at HD
        have s6 : (lv == 0) = true := by rw [s5]; simp [kl]
        clear s5
        obtain rfl : lv = 0 := by simpa using s6
        clear s6
        by_cases k1 : 0 ≤ m
        · by_cases k2 : 0 ≤ e
          · obtain rfl : r = ((M : Int) == 0) := by rw [unhide HD, decide_eq_true k1, decide_eq_true k2]; simp
            clear HD
            go_enter Tryd.func65, Tryd.ntmps65
            go_wp2_with fail
            refine (unhide KV2).mono ?_
            rintro e1 w1 ⟨rfl, rfl⟩
            clear KV2
            go_wp2
            go_ret
            exact ⟨rfl, (bwA _ _).alloc (by simp) _⟩
          · have k2' : decide (0 ≤ e) = false := by simp; omega
            obtain rfl : r = false := by rw [unhide HD, k2']; simp
            clear HD
            go_enter Tryd.func65, Tryd.ntmps65
            go_wp2_with fail
            refine (unhide KV2).mono ?_
            rintro e1 w1 ⟨rfl, rfl⟩
            clear KV2
            go_wp2
            go_ret
            exact ⟨rfl, (bwA _ _).alloc (by simp) _⟩
        · have k2' : decide (0 ≤ m) = false := by simp; omega
          obtain rfl : r = false := by rw [unhide HD, k2']; simp
          clear HD
          go_enter Tryd.func65, Tryd.ntmps65
          go_wp2_with fail
          refine (unhide KV2).mono ?_
          rintro e1 w1 ⟨rfl, rfl⟩
          clear KV2
          go_wp2
          go_ret
          exact ⟨rfl, (bwA _ _).alloc (by simp) _⟩
      · rw [if_neg kl] at HD
        have s6 : (lv == 0) = false := by rw [s5]; simp [kl]
        have s7 : decide (lv = 0) = false := by simpa using s6
        clear s5
        by_cases k1 : m = 0
        · subst k1
          by_cases k2 : e = 0
          · subst k2
            obtain rfl : r = um := by rw [unhide HD]; simp
            clear HD
            go_enter Tryd.func65, Tryd.ntmps65
            go_wp2_with fail
            refine (unhide KV2).mono ?_
            rintro e1 w1 ⟨rfl, rfl⟩
            clear KV2
            go_wp2_with fail
            refine (unhide KU2).mono ?_
            rintro e1 w1 ⟨rfl, b1⟩
            go_wp2
            go_ret
            exact ⟨rfl, bw_tr ((bwA _ _).alloc (by simp) _) b1⟩
          · have k2' : (e == 0) = false := by simp [k2]
            have k2'' : decide (e = 0) = false := by simp [k2]
            obtain rfl : r = false := by rw [unhide HD, k2']; simp
            clear HD
            go_enter Tryd.func65, Tryd.ntmps65
            go_wp2_with fail
            refine (unhide KV2).mono ?_
            rintro e1 w1 ⟨rfl, rfl⟩
            clear KV2
            go_wp2
            go_ret
            exact ⟨rfl, (bwA _ _).alloc (by simp) _⟩
        · have k2' : (m == 0) = false := by simp [k1]
          have k2'' : decide (m = 0) = false := by simp [k1]
          obtain rfl : r = false := by rw [unhide HD, k2']; simp
          clear HD
          go_enter Tryd.func65, Tryd.ntmps65
          go_wp2_with fail
          refine (unhide KV2).mono ?_
          rintro e1 w1 ⟨rfl, rfl⟩
          clear KV2
          go_wp2
          go_ret
          exact ⟨rfl, (bwA _ _).alloc (by simp) _⟩
end Go.Proofs.YthlbdajnkdkocaaDoor

/- Logs, plainly: what may be, how many, which, what is taken; what follows. No program is in this text. -/
namespace Go.Proofs.YthlbdajnkdkocaaDoor
abbrev Lg : Type := Int × List Cm
def mayC (c : Cm) : Bool := decide (0 ≤ c.ep) && mayB c.next && decide (c.next.length ≠ 0)
def comB (g : Int) : Nat → List Cm → Bool
  | _, [] => true
  | k, c :: r => decide (c.gr = g) && decide (c.ep = (k : Int)) && mayC c && comB g (k + 1) r
def logB (p : Lg) : Bool := decide (p.2.length ≠ 0) && comB p.1 0 p.2
def risB : List Lg → Bool
  | [] => true
  | [_] => true
  | p :: q :: r => decide (p.1 < q.1) && risB (q :: r)
def chkB (l : List Lg) : Bool := decide (l.length ≤ 16) && risB l && l.all logB
def fndL (l : List Lg) (g : Int) : Option (List Cm) := (l.find? fun p => decide (p.1 = g)).map (·.2)
def lenL (l : List Lg) (g : Int) : Nat := if chkB l = true then ((fndL l g).getD []).length else 0
def getL (l : List Lg) (g e : Int) : Option Cm := if 0 ≤ e ∧ e < (lenL l g : Int) then ((fndL l g).getD [])[e.toNat]? else none
def insl : List Lg → Cm → List Lg
  | [], c => [(c.gr, [c])]
  | p :: r, c => if p.1 = c.gr then (p.1, p.2 ++ [c]) :: r else if c.gr < p.1 then (c.gr, [c]) :: p :: r else p :: insl r c
def appE (l : List Lg) (c : Cm) : Int :=
  if (chkB l && mayC c) = true then (if c.ep = (lenL l c.gr : Int) then (if fndL l c.gr = none ∧ 16 ≤ l.length then 3 else 0) else 10) else 1
def appL (l : List Lg) (c : Cm) : List Lg := if appE l c = 0 then insl l c else []
theorem appE_ok {l : List Lg} {c : Cm} (h : appE l c = 0) : chkB l = true ∧ mayC c = true ∧ c.ep = (lenL l c.gr : Int) ∧ (fndL l c.gr = none → l.length < 16) := by
  unfold appE at h
  split at h
  · next h1 =>
    simp only [Bool.and_eq_true] at h1
    split at h
    · next h2 =>
      split at h
      · cases h
      · next h3 => exact ⟨h1.1, h1.2, h2, fun c => by rcases Nat.lt_or_ge l.length 16 with q | q; exact q; exact absurd ⟨c, q⟩ h3⟩
    · cases h
  · cases h
theorem appE_of {l : List Lg} {c : Cm} (h1 : chkB l = true) (h2 : mayC c = true) (h3 : c.ep = (lenL l c.gr : Int)) (h4 : fndL l c.gr = none → l.length < 16) : appE l c = 0 := by
  unfold appE
  rw [if_pos (by simp [h1, h2]), if_pos h3, if_neg (fun ⟨a, b⟩ => by have := h4 a; omega)]
theorem chk_parts {l : List Lg} (h : chkB l = true) : l.length ≤ 16 ∧ risB l = true ∧ ∀ p ∈ l, logB p = true := by
  unfold chkB at h
  simp only [Bool.and_eq_true, decide_eq_true_eq, List.all_eq_true] at h
  exact ⟨h.1.1, h.1.2, h.2⟩
theorem ris_tail {p : Lg} {r : List Lg} (h : risB (p :: r) = true) : risB r = true := by
  cases r with
  | nil => rfl
  | cons q s => simp only [risB, Bool.and_eq_true] at h; exact h.2
theorem ris_lt {p : Lg} : ∀ {r : List Lg}, risB (p :: r) = true → ∀ q ∈ r, p.1 < q.1
  | [], _, q, hq => by cases hq
  | s :: r, h, q, hq => by
    simp only [risB, Bool.and_eq_true, decide_eq_true_eq] at h
    rcases List.mem_cons.1 hq with rfl | c
    · exact h.1
    · have := ris_lt (p := s) (r := r) h.2 q c
      omega
theorem ris_of {p : Lg} {r : List Lg} (h : ∀ q ∈ r, p.1 < q.1) (k : risB r = true) : risB (p :: r) = true := by
  cases r with
  | nil => rfl
  | cons q s => simp only [risB, Bool.and_eq_true, decide_eq_true_eq]; exact ⟨h q (by simp), k⟩
theorem insl_mem {c : Cm} : ∀ {l : List Lg} {q : Lg}, q ∈ insl l c → q ∈ l ∨ q.1 = c.gr
  | [], q, h => by simp only [insl, List.mem_singleton] at h; subst h; exact Or.inr rfl
  | p :: r, q, h => by
    unfold insl at h
    split at h
    · next e =>
      rcases List.mem_cons.1 h with rfl | c
      · exact Or.inr e
      · exact Or.inl (by simp [c])
    · split at h
      · rcases List.mem_cons.1 h with rfl | c
        · exact Or.inr rfl
        · exact Or.inl c
      · rcases List.mem_cons.1 h with rfl | c
        · exact Or.inl (by simp)
        · rcases insl_mem c with d | d
          · exact Or.inl (by simp [d])
          · exact Or.inr d
theorem insl_ris {c : Cm} : ∀ {l : List Lg}, risB l = true → risB (insl l c) = true
  | [], _ => rfl
  | p :: r, h => by
    unfold insl
    split
    · next e => exact ris_of (fun q hq => by have := ris_lt h q hq; exact this) (ris_tail h)
    · next e =>
      split
      · next e2 => exact ris_of (fun q hq => by
          rcases List.mem_cons.1 hq with rfl | d
          · exact e2
          · have := ris_lt h q d; show c.gr < q.1; omega) h
      · next e2 =>
        refine ris_of (fun q hq => ?_) (insl_ris (ris_tail h))
        rcases insl_mem hq with d | d
        · exact ris_lt h q d
        · rw [d]; omega
theorem fndL_ins_same {c : Cm} : ∀ {l : List Lg}, risB l = true → fndL (insl l c) c.gr = some ((fndL l c.gr).getD [] ++ [c])
  | [], _ => by simp [insl, fndL]
  | p :: r, h => by
    unfold insl
    split
    · next e => simp [fndL, e]
    · next e =>
      have hp : decide (p.1 = c.gr) = false := decide_eq_false e
      split
      · next e2 =>
        have hn : (p :: r).find? (fun q => decide (q.1 = c.gr)) = none := List.find?_eq_none.2 (fun q hq => by
          rcases List.mem_cons.1 hq with rfl | d
          · simpa using e
          · have := ris_lt h q d; simp; omega)
        simp [fndL, hn]
      · have ih := fndL_ins_same (ris_tail h) (c := c)
        unfold fndL at ih ⊢
        rw [List.find?_cons, List.find?_cons, hp]
        exact ih
theorem fndL_ins_other {c : Cm} {g : Int} (hg : g ≠ c.gr) : ∀ {l : List Lg}, fndL (insl l c) g = fndL l g
  | [] => by
    have : decide (c.gr = g) = false := decide_eq_false (fun h => hg h.symm)
    simp [insl, fndL, this]
  | p :: r => by
    have hc : decide (c.gr = g) = false := decide_eq_false (fun h => hg h.symm)
    unfold insl
    split
    · next e =>
      have hp : decide (p.1 = g) = false := decide_eq_false (fun h => hg (h.symm.trans e))
      unfold fndL
      rw [List.find?_cons, List.find?_cons, hp]
    · split
      · unfold fndL
        rw [List.find?_cons, hc]
      · have ih := fndL_ins_other hg (l := r)
        unfold fndL at ih ⊢
        rw [List.find?_cons, List.find?_cons]
        cases decide (p.1 = g)
        · exact ih
        · rfl
theorem fndL_mem {l : List Lg} {g : Int} {cs : List Cm} (h : fndL l g = some cs) : (g, cs) ∈ l := by
  unfold fndL at h
  cases hf : l.find? (fun p => decide (p.1 = g)) with
  | none => rw [hf] at h; cases h
  | some p =>
    rw [hf] at h
    simp at h
    have h1 := List.find?_some hf
    have h2 := List.mem_of_find?_eq_some hf
    simp at h1
    obtain ⟨a, b⟩ := p
    simp only at h1 h
    subst h1 h
    exact h2
theorem fndL_of {l : List Lg} (hr : risB l = true) {p : Lg} (hp : p ∈ l) : fndL l p.1 = some p.2 := by
  induction l with
  | nil => cases hp
  | cons q r ih =>
    unfold fndL
    rw [List.find?_cons]
    rcases List.mem_cons.1 hp with rfl | d
    · simp
    · have := ris_lt hr p d
      have e : decide (q.1 = p.1) = false := decide_eq_false (by omega)
      rw [e]
      exact ih (ris_tail hr) d
theorem insl_len {c : Cm} : ∀ {l : List Lg}, risB l = true → (insl l c).length = if fndL l c.gr = none then l.length + 1 else l.length
  | [], _ => by simp [insl, fndL]
  | p :: r, h => by
    unfold insl
    split
    · next e =>
      have : fndL (p :: r) c.gr ≠ none := by unfold fndL; rw [List.find?_cons, decide_eq_true e]; simp
      rw [if_neg this]; simp
    · next e =>
      have hp : decide (p.1 = c.gr) = false := decide_eq_false e
      split
      · next e2 =>
        have hn : fndL (p :: r) c.gr = none := by
          unfold fndL
          rw [List.find?_eq_none.2 (fun q hq => by
            rcases List.mem_cons.1 hq with rfl | d
            · simpa using e
            · have := ris_lt h q d; simp; omega)]
          rfl
        rw [if_pos hn]; simp
      · have ih := insl_len (ris_tail h) (c := c)
        have hf : fndL (p :: r) c.gr = fndL r c.gr := by unfold fndL; rw [List.find?_cons, hp]
        rw [hf]
        simp only [List.length_cons, ih]
        split <;> omega
theorem comB_snoc {g : Int} {c : Cm} : ∀ {l : List Cm} {k : Nat}, comB g k l = true → c.gr = g → c.ep = ((k + l.length : Nat) : Int) → mayC c = true → comB g k (l ++ [c]) = true
  | [], k, _, h1, h2, h3 => by simp [comB, h1, h3]; simpa using h2
  | d :: r, k, h, h1, h2, h3 => by
    simp only [comB, Bool.and_eq_true, decide_eq_true_eq, List.cons_append] at h ⊢
    exact ⟨h.1, comB_snoc h.2 h1 (by rw [h2]; simp only [List.length_cons]; congr 1; omega) h3⟩
theorem insl_log {c : Cm} (hm : mayC c = true) : ∀ {l : List Lg}, (∀ p ∈ l, logB p = true) → risB l = true → c.ep = (((fndL l c.gr).getD []).length : Int) → ∀ p ∈ insl l c, logB p = true
  | [], _, _, he, p, hp => by
    simp only [insl, List.mem_singleton] at hp
    subst hp
    have he' : c.ep = 0 := by simpa [fndL] using he
    simp [logB, comB, hm, he']
  | q :: r, h, hr, he, p, hp => by
    unfold insl at hp
    split at hp
    · next e =>
      rcases List.mem_cons.1 hp with rfl | d
      · have hq := h q (by simp)
        unfold logB at hq ⊢
        simp only [Bool.and_eq_true, decide_eq_true_eq] at hq ⊢
        have hf : fndL (q :: r) c.gr = some q.2 := by unfold fndL; rw [List.find?_cons, decide_eq_true e]; rfl
        rw [hf] at he
        exact ⟨by simp, comB_snoc hq.2 e.symm (by simpa using he) hm⟩
      · exact h p (by simp [d])
    · next e =>
      have hq : decide (q.1 = c.gr) = false := decide_eq_false e
      split at hp
      · next e2 =>
        rcases List.mem_cons.1 hp with rfl | d
        · have hn : fndL (q :: r) c.gr = none := by
            unfold fndL
            rw [List.find?_eq_none.2 (fun x hx => by
              rcases List.mem_cons.1 hx with rfl | d
              · simpa using e
              · have := ris_lt hr x d; simp; omega)]
            rfl
          rw [hn] at he
          have he' : c.ep = 0 := by simpa using he
          simp [logB, comB, hm, he']
        · exact h p d
      · rcases List.mem_cons.1 hp with rfl | d
        · exact h _ (by simp)
        · have hf : fndL (q :: r) c.gr = fndL r c.gr := by unfold fndL; rw [List.find?_cons, hq]
          rw [hf] at he
          exact insl_log hm (fun x hx => h x (by simp [hx])) (ris_tail hr) he p d
theorem app_chk {l : List Lg} {c : Cm} (h : appE l c = 0) : chkB (insl l c) = true := by
  obtain ⟨h1, h2, h3, h4⟩ := appE_ok h
  obtain ⟨c1, c2, c3⟩ := chk_parts h1
  have he : c.ep = (((fndL l c.gr).getD []).length : Int) := by rw [h3]; unfold lenL; rw [if_pos h1]
  have hl := insl_len c2 (c := c)
  unfold chkB
  simp only [Bool.and_eq_true, decide_eq_true_eq, List.all_eq_true]
  refine ⟨⟨?_, insl_ris c2⟩, insl_log h2 c3 c2 he⟩
  rw [hl]
  split
  · next q => have := h4 q; omega
  · exact c1
theorem app_len {l : List Lg} {c : Cm} (h : appE l c = 0) : lenL (insl l c) c.gr = lenL l c.gr + 1 ∧ ∀ g, g ≠ c.gr → lenL (insl l c) g = lenL l g := by
  obtain ⟨h1, h2, h3, h4⟩ := appE_ok h
  obtain ⟨c1, c2, c3⟩ := chk_parts h1
  have hk := app_chk h
  constructor
  · unfold lenL
    rw [if_pos hk, if_pos h1, fndL_ins_same c2]
    simp
  · intro g hg
    unfold lenL
    rw [if_pos hk, if_pos h1, fndL_ins_other hg]
theorem app_last {l : List Lg} {c : Cm} (h : appE l c = 0) : getL (insl l c) c.gr ((lenL (insl l c) c.gr : Int) - 1) = some c := by
  obtain ⟨h1, h2, h3, h4⟩ := appE_ok h
  obtain ⟨c1, c2, c3⟩ := chk_parts h1
  have hk := app_chk h
  have hl := (app_len h).1
  have e : lenL l c.gr = ((fndL l c.gr).getD []).length := by unfold lenL; rw [if_pos h1]
  unfold getL
  rw [if_pos (by omega), fndL_ins_same c2]
  have e2 : ((lenL (insl l c) c.gr : Int) - 1).toNat = ((fndL l c.gr).getD []).length := by omega
  rw [e2]
  simp
theorem app_old {l : List Lg} {c : Cm} (h : appE l c = 0) {p : Lg} (hp : p ∈ l) {n : Nat} {d : Cm} (hn : p.2[n]? = some d) : getL (insl l c) p.1 (n : Int) = some d := by
  obtain ⟨h1, h2, h3, h4⟩ := appE_ok h
  obtain ⟨c1, c2, c3⟩ := chk_parts h1
  have hk := app_chk h
  have hf := fndL_of c2 hp
  have hlt := (List.getElem?_eq_some_iff.1 hn).1
  by_cases hg : p.1 = c.gr
  · have hs := fndL_ins_same c2 (c := c)
    rw [← hg, hf] at hs
    have hl : lenL (insl l c) p.1 = p.2.length + 1 := by unfold lenL; rw [if_pos hk, hs]; simp
    unfold getL
    rw [if_pos (by omega), hs]
    simp only [Option.getD_some, Int.toNat_natCast]
    rw [List.getElem?_append_left hlt]; exact hn
  · have hs := fndL_ins_other hg (l := l)
    rw [hf] at hs
    have hl : lenL (insl l c) p.1 = p.2.length := by unfold lenL; rw [if_pos hk, hs]; simp
    unfold getL
    rw [if_pos (by omega), hs]
    simpa using hn
theorem app_twice {l : List Lg} {c d : Cm} (h : appE l c = 0) (hg : d.gr = c.gr) (he : d.ep = c.ep) : appE (insl l c) d = 1 ∨ appE (insl l c) d = 10 := by
  obtain ⟨h1, h2, h3, h4⟩ := appE_ok h
  have hk := app_chk h
  have hl := (app_len h).1
  unfold appE
  by_cases hm : mayC d = true
  · rw [if_pos (by simp [hk, hm]), if_neg (by rw [hg, he]; omega)]
    exact Or.inr rfl
  · rw [if_neg (by simp [hm])]
    exact Or.inl rfl
end Go.Proofs.YthlbdajnkdkocaaDoor

/- Contracts of the document's blank, leaf, leaves and some. -/
namespace Go.Proofs.YthlbdajnkdkocaaDoor
open Go.RowKit Go.Maps
end Go.Proofs.YthlbdajnkdkocaaDoor

/- The contract of the document's twice. -/
namespace Go.Proofs.YthlbdajnkdkocaaDoor
open Go.RowKit Go.Maps
end Go.Proofs.YthlbdajnkdkocaaDoor
