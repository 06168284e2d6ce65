/- Texts joined: TsD TsE. -/
import Derived.Test.YtnfhbmlmemifjaaGreatDoorZ14
import Derived.Test.YtnfhbmlmemifjaaGreatDoorZ05
/- The contracts of the document's Check and Size. -/
namespace Go.Proofs.YtnfhbmlmemifjaaGreatDoor
open Go.RowKit Go.Maps
theorem ndM_even (T : List Nd) (x : Nat) (hev : x % 2 = 0) {p m e : Int} {l : List Int} (hp : (ndAt T x).pub = p) (hm : (ndAt T x).mem = m) (he : (ndAt T x).ep = e) (hl : (ndAt T x).un = l) : ndM T x = leafB p m e l.length := by
  rw [ndM_def T x hp hm he hl]
  have hemp : l.isEmpty = ((l.length : Int) == 0) := by cases l <;> simp <;> omega
  rw [hemp, if_pos hev]
  unfold leafB blkB
  by_cases k0 : p = 0
  · subst k0; simp
  · have k1 : (p == 0) = false := by simp [k0]
    rw [if_neg k0, k1]
    by_cases k2 : p < 0
    · rw [if_pos k2, decide_eq_false (show ¬ 0 < p by omega)]; simp
    · rw [if_neg k2, decide_eq_true (show 0 < p by omega)]; simp
theorem mayB_of {T : List Nd} (hw : Wd T) : mayB T = ((List.range T.length).all (ndM T) && decide (mems T).Nodup && anyM T (nlv T / 2) (nlv T)) := by
  obtain ⟨g1, g2, g3, g4, g5⟩ := hw.facts
  unfold mayB
  have h0 : T.isEmpty = false := by cases T with | nil => simp [nlv] at g5 | cons a b => rfl
  have h1 : wid (nlv T : Nat) = (T.length : Nat) := by
    have : ∀ n ∈ sizes, wid (n : Nat) = ((2 * n - 1 : Nat) : Int) := by decide +kernel
    rw [this _ g1, ← g2]
  rw [h0, decide_eq_true g4, decide_eq_true h1]; simp
theorem mayB_rlv {T : List Nd} (h0 : T.length ≠ 0) (h : rlv T.length = 0) : mayB T = false := by
  cases hm : mayB T
  · rfl
  · rcases mayB_wd hm with rfl | hw
    · simp at h0
    · obtain ⟨g1, g2, g3, g4, g5⟩ := hw.facts
      have := rlv_of g1
      rw [← g2, h] at this
      omega
theorem anyM_from {T : List Nd} {a n : Nat} (h : anyM T a n = true) : anyM T 0 n = true := by
  unfold anyM at *
  rw [List.any_eq_true] at *
  obtain ⟨x, hx, h2⟩ := h
  refine ⟨x, hx, ?_⟩
  simp only [Bool.and_eq_true] at h2
  simp [h2.2]
set_option maxRecDepth 100000 in
set_option maxHeartbeats 2000000 in
theorem rcheck_any {w : World} {v : Value} {T : List Nd} (h : Trd w v T) :
    Calls Tryz.prog 188 #[.agg #[v]] w fun e w' => e = .returned (.int .i64 (if mayB T = true then 0 else 1)) ∧ Below w.heap.size w w' := by
  obtain ⟨r, hr⟩ : ∃ r : Int, r = if mayB T = true then 0 else 1 := ⟨_, rfl⟩
  rw [← hr]
  obtain ⟨a, c, rfl⟩ := h.slice
  obtain ⟨w0, hw0⟩ : ∃ w0, w0 = bxw w (.slice a T.length c) := ⟨_, rfl⟩
  have hb0 : Below w.heap.size w w0 := by rw [hw0]; exact bwA _ _
  have HBX : Hid (∀ W, Below w0.heap.size w0 W → W.cell? ⟨w.heap.size, 0, none⟩ = some (.slice a T.length c) ∧ Below w.heap.size w W) := fun W hW => by subst hw0; exact ⟨bx_cell hW, bx_bel hW⟩
  have HW : Hid (w0 = w.alloc (.cells #[.slice a T.length c] 32)) := hw0
  have hlen := h.len
  have KL : Hid (Calls Tryz.prog 289 #[.agg #[.slice a T.length c]] w0 fun e w' => e = .returned (.int .i64 (rlv T.length : Nat)) ∧ Below w0.heap.size w0 w') := rleaves_any a T.length c w0 hlen
  by_cases h0 : T.length = 0
  · obtain rfl : T = [] := List.eq_nil_of_length_eq_zero h0
    obtain rfl : r = 0 := by rw [hr]; rfl
    clear KL hr h hw0 h0
    go_enter Tryz.func188, Tryz.ntmps188
    go_wp2_with fail
    go_ret
    exact ⟨rfl, bwA _ _⟩
  · have hN0 : decide ((T.length : Int) = 0) = false := decide_eq_false (by omega)
    have hN1 : ((T.length : Int) == 0) = false := beq_eq_false_iff_ne.2 (by omega)
    have hN2 : decide (T.length = 0) = false := decide_eq_false h0
    by_cases hl : rlv T.length = 0
    · obtain rfl : r = 1 := by rw [hr, mayB_rlv h0 hl]; rfl
      rw [hl] at KL
      have hlI : (T.length : Int) ≤ 140737488355328 := by omega
      clear hr h hw0 hlen hl
      generalize T.length = N at *
      go_enter Tryz.func188, Tryz.ntmps188
      go_wp2_with fail
      rw [← unhide HW]
      refine (unhide KL).mono ?_
      rintro e w1 ⟨rfl, b1⟩
      go_wp2
      go_ret
      exact ⟨rfl, bw_tr hb0 b1⟩
    · obtain ⟨l1, l2, l3⟩ := rlv_wd hl
      have hw : Wd T := ⟨_, l2, l3⟩
      obtain ⟨g1, g2, g3, g4, g5⟩ := hw.facts
      rw [l1] at KL
      rw [mayB_of hw] at hr
      have HR := hide hr
      have KX : Hid (∀ x W, x < T.length → x % 2 = 1 → Below w.heap.size w W → Calls Tryz.prog 291 #[.agg #[.slice a T.length c], .int .i64 (x : Int)] W fun e w' => e = .returned (.bool (ndM T x)) ∧ Below W.heap.size W w') := fun x W hx ho hW => rpar8_any (h.bw hW) hw hx ho
      have KT : Hid (∀ W, Below w.heap.size w W → Calls Tryz.prog 292 #[.agg #[.slice a T.length c]] W fun e w' => e = .returned (.bool (!decide (mems T).Nodup)) ∧ Below W.heap.size W w') := fun W hW => rtwice_any (h.bw hW) g3
      have KS : Hid (∀ (f : Nat) W, f ≤ nlv T → Below w.heap.size w W → Calls Tryz.prog 293 #[.agg #[.slice a T.length c], .int .i64 (f : Int)] W fun e w' => e = .returned (.bool (anyM T f (nlv T))) ∧ Below W.heap.size W w') := fun f W hf hW => rsome_any (h.bw hW) g3 f hf
      obtain ⟨-, h2⟩ := h.at
      obtain ⟨b, o, rfl, h3⟩ := h2 (by omega)
      have KE : Hid (∀ x, x < T.length → x % 2 = 0 → ∃ p m e : Int, ∃ ua ul uc, (∀ W, Below w.heap.size w W → W.cell? ⟨b, o + x * 4, none⟩ = some (.int .i64 p) ∧ W.cell? ⟨b, o + x * 4 + 1, none⟩ = some (.int .i64 m) ∧ W.cell? ⟨b, o + x * 4 + 2, none⟩ = some (.int .i64 e) ∧ W.cell? ⟨b, o + x * 4 + 3, none⟩ = some (.slice ua ul uc)) ∧ ∀ W, Calls Tryz.prog 290 #[.agg #[.int .i64 p, .int .i64 m, .int .i64 e, .slice ua ul uc]] W fun e w' => e = .returned (.bool (ndM T x)) ∧ Below W.heap.size W w') := fun x hx he => by
        obtain ⟨u, k1, k2⟩ := h3 w (Below.refl _ _) x hx
        obtain ⟨ua, uc, rfl⟩ := nums_slice k2
        have hB : b < w.heap.size := lt_of_cell k1.c3
        refine ⟨_, _, _, ua, _, uc, fun W hW => ⟨(k1.bw hB hW).c0, (k1.bw hB hW).c1, (k1.bw hB hW).c2, (k1.bw hB hW).c3⟩, fun W => ?_⟩
        rw [ndM_even T x he rfl rfl rfl rfl]
        exact rleaf_any _ _ _ _ _ _ W (by have := h.unl _ (ndAt_mem hx); omega)
      have g5' : ((nlv T : Nat) : Int) ≠ 0 := by omega
      have hn0 : decide (((nlv T : Nat) : Int) = 0) = false := decide_eq_false g5'
      have hn1 : (((nlv T : Nat) : Int) == 0) = false := beq_eq_false_iff_ne.2 (by omega)
      have hn2 : decide (nlv T = 0) = false := decide_eq_false (by omega)
      have hn8 : ((nlv T : Nat) : Int) ≤ 8 := by omega
      have hN15 : (T.length : Int) ≤ 15 := by omega
      have HA1 : Hid (∀ x, x < T.length → ndM T x = false → r = 1) := fun x hx hf => by
        rw [unhide HR]
        have : (List.range T.length).all (ndM T) = false := by
          rw [List.all_eq_false]; exact ⟨x, List.mem_range.2 hx, by simp [hf]⟩
        rw [this]; rfl
      have HA2 : Hid ((∀ x, x < T.length → ndM T x = true) → r = if (decide (mems T).Nodup && anyM T (nlv T / 2) (nlv T)) = true then 0 else 1) := fun hx => by
        rw [unhide HR]
        have : (List.range T.length).all (ndM T) = true := List.all_eq_true.2 fun x hx' => hx x (List.mem_range.1 hx')
        rw [this]; simp
      have HA3 : Hid (anyM T (nlv T / 2) (nlv T) = true → anyM T 0 (nlv T) = true) := anyM_from
      obtain ⟨n2, hn2'⟩ : ∃ n2, n2 = nlv T / 2 := ⟨_, rfl⟩
      rw [← hn2'] at HA2 HA3
      have q2 : ((nlv T : Nat) : Int) / 2 = (n2 : Int) := by omega
      have q2' : Hid (n2 ≤ nlv T ∧ (nlv T = 1 → n2 = 0)) := ⟨by omega, by omega⟩
      have HN := hide g5
      clear hr h h2 h3 hw0 hlen hl l1 l2 l3 hw g1 g2 g3 g4 g5 g5' HR h0 hn2'
      generalize hnn : nlv T = n at *
      clear hnn
      generalize hNN : T.length = N at *
      clear hNN
      generalize decide (mems T).Nodup = nd at *
      go_enter Tryz.func188, Tryz.ntmps188
      go_wp2_with fail
      rw [← unhide HW]
      refine (unhide KL).mono ?_
      rintro e w1 ⟨rfl, b1⟩
      clear KL HW
      go_wp2_with fail
      go_loopw [4] (fun iv wr => ∃ i : Nat, iv = .int .i64 (i : Int) ∧ i ≤ N ∧ Hid (∀ x, x < i → ndM T x = true) ∧ Below w0.heap.size w0 wr) (fun iv _ => (N - (intOf iv)).toNat)
      case atStart => exact ⟨0, rfl, by omega, fun x hx => by omega, b1⟩
      case round =>
        clear b1
        obtain ⟨i, rfl, hi, hall, hbel⟩ := hrel
        obtain ⟨c0, hbw⟩ := unhide HBX _ hbel
        by_cases hin : i < N
        · have q1 : (i : Int) < (N : Int) := by omega
          have q0 : (0 : Int) ≤ (i : Int) := by omega
          have HS : Hid (ndM T i = true → ∀ x, x < i + 1 → ndM T x = true) := fun q x hx => by
            rcases Nat.lt_or_ge x i with c | c
            · exact unhide hall x c
            · obtain rfl : x = i := by omega
              exact q
          have HF := hide (unhide HA1 i hin)
          by_cases hev : i % 2 = 0
          · obtain ⟨p, m, e, ua, ul, uc, hcs, hK⟩ := unhide KE i hin hev
            obtain ⟨e0, e1, e2, e3⟩ := hcs _ hbw
            have v1 : (i : Int) % 2 = 0 := by omega
            clear hcs hev
            generalize ndM T i = nm at *
            go_wp2_with fail
            refine (hK _).mono ?_
            rintro x w2 ⟨rfl, b2⟩
            have hbel2 := bw_tr hbel b2
            obtain ⟨c0', hbw2⟩ := unhide HBX _ hbel2
            clear e0 e1 e2 e3 c0
            cases nm
            · obtain rfl : r = 1 := unhide HF rfl
              clear hK
              go_wp2_with fail
              go_ret
              exact ⟨rfl, hbw2⟩
            · have HS2 := hide (unhide HS rfl)
              clear hK HS HF
              go_wp2_with fail
              go_roundw
              case rel => exact ⟨i + 1, by go_num, by omega, HS2, hbel2⟩
              case measure => simp [intOf]; omega
          · have K := unhide KX i wr hin (by omega) hbw
            have v1 : (i : Int) % 2 = 1 := by omega
            clear hev
            generalize ndM T i = nm at *
            go_wp2_with fail
            refine K.mono ?_
            rintro x w2 ⟨rfl, b2⟩
            have hbel2 := bw_tr hbel b2
            obtain ⟨c0', hbw2⟩ := unhide HBX _ hbel2
            cases nm
            · obtain rfl : r = 1 := unhide HF rfl
              clear K
              go_wp2_with fail
              go_ret
              exact ⟨rfl, hbw2⟩
            · have HS2 := hide (unhide HS rfl)
              clear K HS HF
              go_wp2_with fail
              go_roundw
              case rel => exact ⟨i + 1, by go_num, by omega, HS2, hbel2⟩
              case measure => simp [intOf]; omega
        · obtain rfl : i = N := by omega
          have hr2 := unhide HA2 (unhide hall)
          have HR2 := hide hr2
          clear hr2 hall HA1 HA2 KE KX
          go_wp2_with fail
          refine (unhide KT _ hbw).mono ?_
          rintro x w2 ⟨rfl, b2⟩
          have hbel2 := bw_tr hbel b2
          obtain ⟨c0', hbw2⟩ := unhide HBX _ hbel2
          cases nd
          · obtain rfl : r = 1 := by rw [unhide HR2]; rfl
            go_wp2_with fail
            go_ret
            exact ⟨rfl, hbw2⟩
          · have K0 := unhide KS 0 w2 (by omega) hbw2
            have HE : Hid (n = 1 → anyM T n2 n = anyM T 0 n) := fun q => by rw [(unhide q2').2 q]
            generalize anyM T 0 n = s0 at *
            go_wp2_with fail
            refine K0.mono ?_
            rintro x w3 ⟨rfl, b3⟩
            have hbel3 := bw_tr hbel2 b3
            obtain ⟨c0'', hbw3⟩ := unhide HBX _ hbel3
            clear c0 c0'
            cases s0
            · obtain rfl : r = 1 := by
                rw [unhide HR2]
                cases hq : anyM T n2 n
                · rfl
                · exact absurd (unhide HA3 hq) (by simp)
              clear K0
              go_wp2_with fail
              go_ret
              exact ⟨rfl, hbw3⟩
            · clear K0
              by_cases h1 : n = 1
              · obtain rfl : r = 0 := by rw [unhide HR2, unhide HE h1]; rfl
                have h1' : decide ((1 : Int) < (n : Int)) = false := decide_eq_false (by omega)
                have h2' : decide (1 < n) = false := decide_eq_false (by omega)
                have h3' : ¬ (1 < n) := by omega
                clear h1
                go_wp2_with fail
                go_ret
                exact ⟨rfl, hbw3⟩
              · have h1' : (1 : Int) < (n : Int) := by have := unhide HN; omega
                have K2 := unhide KS n2 w3 (unhide q2').1 hbw3
                generalize anyM T n2 n = s2 at *
                go_wp2_with fail
                refine K2.mono ?_
                rintro x w4 ⟨rfl, b4⟩
                have hbel4 := bw_tr hbel3 b4
                obtain ⟨-, hbw4⟩ := unhide HBX _ hbel4
                cases s2
                · obtain rfl : r = 1 := by rw [unhide HR2]; rfl
                  go_wp2_with fail
                  go_ret
                  exact ⟨rfl, hbw4⟩
                · obtain rfl : r = 0 := by rw [unhide HR2]; rfl
                  go_wp2_with fail
                  go_ret
                  exact ⟨rfl, hbw4⟩
end Go.Proofs.YtnfhbmlmemifjaaGreatDoor

/- The contracts of the document's Members and Find. -/
namespace Go.Proofs.YtnfhbmlmemifjaaGreatDoor
open Go.RowKit Go.Maps
end Go.Proofs.YtnfhbmlmemifjaaGreatDoor
