/- What all statements of layer 11 end with: two keys, the second one first. -/
import Derived.Test.YtkaioidneknmjaaChI
namespace Go.Proofs.Ytkaioidneknmjaa.Tn
open Go.RowKit Go.Maps

theorem Cok.mono {s : Cst} {m m' : Nat} (h : Cok s m) (hm : m ≤ m') : Cok s m' := ⟨h.g, Nat.le_trans h.len hm, Nat.le_trans h.nx hm, h.ll, h.lf⟩
theorem Cok.take {s : Cst} {m : Nat} (h : Cok s m) (hm : m + 200 ≤ 1000000) (n : Int) : Cok (s.take n) (m + 200) := by
  unfold Cst.take
  split
  · refine ⟨h.g, Nat.le_trans h.len (by omega), Nat.le_trans h.nx (by omega), Nat.le_trans (List.length_filter_le _ _) h.ll, h.lf.rmv n⟩
  · split
    · next q =>
      unfold tkG at q
      simp only [Bool.and_eq_true, decide_eq_true_eq] at q
      obtain ⟨⟨⟨q1, -⟩, q2⟩, q3⟩ := q
      have hl := h.len
      have hx := h.nx
      have hd : (n - (s.nx : Int)).toNat + s.l.length ≤ 64 := by omega
      generalize (n - (s.nx : Int)).toNat = d at hd ⊢
      have hw := wkS_len (s.L, s.x) (d + 1)
      refine ⟨wkS_gd h.g (d + 1) (by simp only; omega), ?_, ?_, ?_, ?_⟩
      · show (wkS (s.L, s.x) (d + 1)).1.length ≤ _
        simp only at hw
        omega
      · show s.nx + d + 1 ≤ _
        omega
      · show (s.l ++ nlf (s.L, s.x) s.nx d).length ≤ _
        rw [List.length_append, nlf_len]
        omega
      · exact (lf_nlf h.lf d).mono (by show s.nx + d ≤ s.nx + d + 1; omega)
    · exact h.mono (by omega)
theorem cok_new {L : List Tm} {app snd : Int} (ha : thr L.length app = true) (hl : L.length ≤ 900000) : Cok ⟨(beg L app snd).1, [], 0, (beg L app snd).2⟩ (L.length + 2) :=
  ⟨beg_gd ha (by omega), (beg_len L app snd).1, by show 0 ≤ _; omega, by simp, Lf.nil _⟩
def lvL (n : Int) : List Tm := [⟨1, n, 0, 0⟩]
theorem terms1 (w : World) (n : Int) : Tms (w.alloc (.cells #[.int .u8 1, .int .i64 n, .int .i64 0, .int .i64 0] 40)) (.slice (some ⟨w.heap.size, 0, none⟩) 1 1) (lvL n) := by
  refine ⟨_, 1, rfl, by simp [lvL], Or.inr ⟨w.heap.size, 0, rfl, fun i t hi => ?_⟩⟩
  unfold TAt World.cell?
  simp only [heap_alloc_new]
  match i, hi with
  | 0, hi => simp [lvL] at hi; subst hi; exact ⟨rfl, rfl, rfl, rfl⟩
  | i + 1, hi => simp [lvL] at hi
theorem lvL_fill (n : Int) (hn : 0 ≤ n) : fillL [] (lvL n) = lvL n := by
  simp [fillL, lvL, mkL, may, hn]
theorem lvL_ok {n : Int} (h0 : 0 ≤ n) (h1 : n ≤ 9223372036854775807) : ∀ t ∈ lvL n, t.ok := by
  intro t ht; simp [lvL] at ht; subst ht; constructor <;> simp <;> omega
/-- A store of one term that is drawn, and the document's. -/
theorem build1 (w : World) (n : Int) (h0 : 0 ≤ n) (h1 : n ≤ 9223372036854775807) : Calls Try.prog 6 #[.slice (some ⟨w.heap.size, 0, none⟩) 1 1] (w.alloc (.cells #[.int .u8 1, .int .i64 n, .int .i64 0, .int .i64 0] 40)) fun e w' => ∃ b sv mb rb rv, e = .returned (.tuple #[.pointer (some ⟨b, 0, none⟩), .pointer (some ⟨rb, 0, none⟩), .bool true]) ∧ Env w w' [resS b sv mb (lvL n), resR rb rv (lvL n)] := by
  have KB := build_any (w.alloc (.cells #[.int .u8 1, .int .i64 n, .int .i64 0, .int .i64 0] 40)) (some ⟨w.heap.size, 0, none⟩) 1 (lvL n) (terms1 w n) (lvL_ok h0 h1) (by simp [lvL])
  rw [lvL_fill n h0] at KB
  refine KB.mono ?_
  rintro e w' ⟨b, sv, mb, rb, rv, h2, tw⟩
  refine ⟨b, sv, mb, rb, rv, h2, ?_⟩
  have e2 := Env.ofTwo tw
  have hx : Below w.heap.size w (w.alloc (.cells #[.int .u8 1, .int .i64 n, .int .i64 0, .int .i64 0] 40)) := bwA' _ _
  exact ⟨bw_tr hx e2.bel, e2.hold, fun r hr x hxx => Nat.le_trans hx.size (e2.low r hr x hxx), e2.dis⟩
def lv0s : Cst := ⟨(beg (lvL 1) 1 9).1, [], 0, (beg (lvL 1) 1 9).2⟩
theorem lv_facts : (lv0s.ans 1 = 6 ∧ tkE lv0s.l lv0s.nx 1 = 0) ∧ ((lv0s.take 1).ans 0 = 4 ∧ tkE (lv0s.take 1).l (lv0s.take 1).nx 0 = 0) ∧ (((lv0s.take 1).take 0).ans 0 = 0 ∧ tkE ((lv0s.take 1).take 0).l ((lv0s.take 1).take 0).nx 0 = 10) ∧ (keyP (((lv0s.take 1).take 0).take 0).L 1 9 0).2 = 4 ∧ keyE (((lv0s.take 1).take 0).take 0).L 1 0 = 0 ∧ (((lv0s.take 1).take 0).take 0).l = [] := by
  decide +kernel
set_option maxRecDepth 100000 in
set_option maxHeartbeats 4000000 in
theorem lives11 {w0 w : World} (hb0 : Below w0.heap.size w0 w) : Calls Try.prog 11 #[] w fun e w' => e = .returned (.bool true) ∧ Below w0.heap.size w0 w' := by
  have KB := hide (build1 w 1 (by omega) (by omega))
  have HX := hide hb0
  have q0 : Cok lv0s 3 := cok_new (by decide) (by decide)
  have q1 := q0.take (by omega) 1
  have q2 := q1.take (by omega) 0
  have q3 := q2.take (by omega) 0
  obtain ⟨⟨f1, f2⟩, ⟨f3, f4⟩, ⟨f5, f6⟩, f7, f8, f9⟩ := lv_facts
  have HQ := hide (And.intro q0 (And.intro q1 (And.intro q2 q3)))
  have HF9 := hide f9
  have KN : Hid (∀ W b sv mb rb rv, Env w W [resS b sv mb (lvL 1), resR rb rv (lvL 1)] → Calls Try.prog 12 #[.pointer (some ⟨b, 0, none⟩), .int .i64 1, .int .i64 9] W fun e W' => ∃ c, e = .returned (.tuple #[.pointer (some ⟨c, 0, none⟩), .int .i64 0]) ∧ ECh w W' c b mb lv0s [resR rb rv (lvL 1)]) := fun W b sv mb rb rv h => env_cnew h 1 9 (by decide) ⟨by omega, by omega⟩ (by decide)
  have KT1 : Hid (∀ W c b mb rs, ECh w W c b mb lv0s rs → Calls Try.prog 13 #[.pointer (some ⟨c, 0, none⟩), .int .i64 1] W fun e W' => e = .returned (.tuple #[.int .i64 6, .int .i64 0]) ∧ ECh w W' c b mb (lv0s.take 1) rs) := fun W c b mb rs h => by
    have := env_take h ((unhide HQ).1.mono (by omega)) 1 ⟨by omega, by omega⟩
    rw [f1, f2] at this
    exact this
  have KT2 : Hid (∀ W c b mb rs, ECh w W c b mb (lv0s.take 1) rs → Calls Try.prog 13 #[.pointer (some ⟨c, 0, none⟩), .int .i64 0] W fun e W' => e = .returned (.tuple #[.int .i64 4, .int .i64 0]) ∧ ECh w W' c b mb ((lv0s.take 1).take 0) rs) := fun W c b mb rs h => by
    have := env_take h ((unhide HQ).2.1.mono (by omega)) 0 ⟨by omega, by omega⟩
    rw [f3, f4] at this
    exact this
  have KT3 : Hid (∀ W c b mb rs, ECh w W c b mb ((lv0s.take 1).take 0) rs → Calls Try.prog 13 #[.pointer (some ⟨c, 0, none⟩), .int .i64 0] W fun e W' => e = .returned (.tuple #[.int .i64 0, .int .i64 10]) ∧ ECh w W' c b mb (((lv0s.take 1).take 0).take 0) rs) := fun W c b mb rs h => by
    have := env_take h ((unhide HQ).2.2.1.mono (by omega)) 0 ⟨by omega, by omega⟩
    rw [f5, f6] at this
    exact this
  have KK : Hid (∀ W c b mb rs, ECh w W c b mb (((lv0s.take 1).take 0).take 0) rs → Calls Try.prog 7 #[.pointer (some ⟨b, 0, none⟩), .int .i64 1, .int .i64 9, .int .i64 0] W fun e W' => e = .returned (.tuple #[.int .i64 4, .int .i64 0]) ∧ ECh w W' c b mb { (((lv0s.take 1).take 0).take 0) with L := (keyP (((lv0s.take 1).take 0).take 0).L 1 9 0).1 } rs) := fun W c b mb rs h => by
    have := env_ckey h 1 9 0 ⟨by omega, by omega⟩ (Nat.le_trans (Nat.add_le_add_right (unhide HQ).2.2.2.len _) (by decide))
    rw [f7, f8] at this
    exact this
  have KH : Hid (∀ W c b mb rs L, ECh w W c b mb { (((lv0s.take 1).take 0).take 0) with L := L } rs → Calls Try.prog 15 #[.pointer (some ⟨c, 0, none⟩)] W fun e W' => ∃ a cap, e = .returned (.slice a 1 cap) ∧ Below w.heap.size w W') := fun W c b mb rs L h => by
    refine (env_chas h (by show (((lv0s.take 1).take 0).take 0).l.length ≤ 100; rw [f9]; simp) (by show (((lv0s.take 1).take 0).take 0).nx ≤ _; exact Nat.le_trans (unhide HQ).2.2.2.nx (by decide))).mono ?_
    rintro e W' ⟨v, h1, h2, h3, h4⟩
    obtain ⟨a, cap, hv⟩ := own_slice h2
    have hl : ({ (((lv0s.take 1).take 0).take 0) with L := L } : Cst).l = [] := f9
    rw [hl] at hv
    obtain ⟨lm, sv, en⟩ := h4
    exact ⟨a, cap, by rw [h1, hv]; rfl, en.bel⟩
  clear hb0 q0 q1 q2 q3 f1 f2 f3 f4 f5 f6 f7 f8 f9 HQ HF9
  generalize (keyP (((lv0s.take 1).take 0).take 0).L 1 9 0).1 = LK at *
  generalize ((lv0s.take 1).take 0).take 0 = s3 at *
  generalize (lv0s.take 1).take 0 = s2 at *
  generalize lv0s.take 1 = s1 at *
  generalize lv0s = s0 at *
  go_enter Try.func11, Try.ntmps11
  go_wp2_with fail
  refine (unhide KB).mono ?_
  rintro e w1 ⟨b, sv, mb, rb, rv, rfl, E1⟩
  have K1 := hide (unhide KN _ _ _ _ _ _ E1)
  clear E1 KB KN
  go_wp2_with fail
  refine (unhide K1).mono ?_
  rintro e w2 ⟨c, rfl, E2⟩
  have K2 := hide (unhide KT1 _ _ _ _ _ E2)
  clear E2 K1 KT1
  go_wp2_with fail
  refine (unhide K2).mono ?_
  rintro e w3 ⟨rfl, E3⟩
  have K3 := hide (unhide KT2 _ _ _ _ _ E3)
  clear E3 K2 KT2
  go_wp2_with fail
  refine (unhide K3).mono ?_
  rintro e w4 ⟨rfl, E4⟩
  have K4 := hide (unhide KT3 _ _ _ _ _ E4)
  clear E4 K3 KT3
  go_wp2_with fail
  refine (unhide K4).mono ?_
  rintro e w5 ⟨rfl, E5⟩
  have K5 := hide (unhide KK _ _ _ _ _ E5)
  clear E5 K4 KK
  go_wp2_with fail
  refine (unhide K5).mono ?_
  rintro e w6 ⟨rfl, E6⟩
  have K6 := hide (unhide KH _ _ _ _ _ _ E6)
  clear E6 K5 KH
  go_wp2_with fail
  refine (unhide K6).mono ?_
  rintro e w7 ⟨a, cap, rfl, b7⟩
  have b8 := bw_tr (unhide HX) b7
  clear b7 K6 HX
  go_wp2
  go_ret
  exact ⟨rfl, b8⟩
end Go.Proofs.Ytkaioidneknmjaa.Tn
