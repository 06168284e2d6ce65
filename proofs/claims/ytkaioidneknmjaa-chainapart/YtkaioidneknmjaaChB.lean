/- The contracts of AllOrNone of a number, chain.Key and chain.New. -/
import Derived.Test.YtkaioidneknmjaaChA
namespace Go.Proofs.Ytkaioidneknmjaa.Tn
open Go.RowKit Go.Maps

theorem blk2c (w : World) (o1 o2 : Obj) : ((w.alloc o1).alloc o2).heap[w.heap.size]? = some o1 ∧ ((w.alloc o1).alloc o2).heap[w.heap.size + 1]? = some o2 ∧ Below w.heap.size w ((w.alloc o1).alloc o2) := by
  have h1 := heap_alloc_new w o1
  have h2 := heap_alloc_new (w.alloc o1) o2
  simp only [heap_size_alloc] at h1 h2
  exact ⟨blk_before h1, h2, (bwA' _ _).alloc (by simp) _⟩
def keyE (L : List Tm) (app n : Int) : Int := if (thr L.length app && decide (0 ≤ n)) = true then (if 65536 < n then 3 else 0) else 1
def keyP (L : List Tm) (app snd n : Int) : List Tm × Nat := if keyE L app n = 0 then kyS (secs (beg L app snd) n.toNat) else (L, 0)
def newCE (L : List Tm) (app : Int) : Int := if thr L.length app = true then 0 else 1
set_option maxRecDepth 100000 in
set_option maxHeartbeats 4000000 in
theorem aonI_key {b : Nat} {sv : Value} {mb : Nat} {L L' : List Tm} {w : World} (h : St w b sv mb L) (m : Int) (hm : 0 ≤ m) (hl : (L.length : Int) + m ≤ 1048575) (p1 p2 p3 : Nat) (r : Nat)
    (K : Calls Try.prog 24 #[.func (.func 19) #[.pointer (some ⟨b, 0, none⟩)] #[], .pointer (some ⟨p1, 0, none⟩), .pointer (some ⟨p2, 0, none⟩), .pointer (some ⟨p3, 0, none⟩)] w fun e w' => e = .returned (.tuple #[.int .i64 (r : Nat), .int .i64 0]) ∧ ∃ sv', SStep w w' b sv sv' mb L') :
    Calls Try.prog 23 #[.pointer (some ⟨b, 0, none⟩), .int .i64 m, .func (.func 24) #[] #[.pointer (some ⟨p1, 0, none⟩), .pointer (some ⟨p2, 0, none⟩), .pointer (some ⟨p3, 0, none⟩)]] w fun e w' => e = .returned (.tuple #[.int .i64 (r : Nat), .int .i64 0]) ∧ ∃ sv', SStep w w' b sv sv' mb L' := by
  have KL := hide (len_any b sv mb L w h)
  have KF := hide K
  obtain ⟨N, hN⟩ : ∃ N : Int, N = (L.length : Int) := ⟨_, rfl⟩
  rw [← hN] at KL
  obtain ⟨R, hR⟩ : ∃ R : Int, R = 1048576 - N := ⟨_, rfl⟩
  have r0 : (1048576 : Int) - N = R := hR.symm
  have r1 : IntKind.i64.wrap R = R := by rw [IntKind.wrap_i64]; omega
  have r2 : 0 < R := by omega
  have r3 : decide (R < m) = false := decide_eq_false (by omega)
  have r4 : m ≤ R := by omega
  clear h hl hN hR K hm
  go_enter Try.func23, Try.ntmps23
  go_wp2_with fail
  refine (unhide KL).mono ?_
  rintro e w0 ⟨rfl, rfl⟩
  clear KL
  go_wp2_with fail
  refine (unhide KF).mono ?_
  rintro e w4 ⟨rfl, s4⟩
  have S4 := hide s4
  clear s4 KF r0 r1 r2 r3 r4
  go_wp2
  go_ret2
  exact ⟨rfl, unhide S4⟩
set_option maxRecDepth 100000 in
set_option maxHeartbeats 4000000 in
theorem aonI_new {b : Nat} {sv : Value} {mb : Nat} {L L' : List Tm} {w : World} (h : St w b sv mb L) (m : Int) (hm : 0 ≤ m) (hl : (L.length : Int) + m ≤ 1048575) (p1 p2 : Nat) (r : Nat)
    (K : Calls Try.prog 32 #[.func (.func 19) #[.pointer (some ⟨b, 0, none⟩)] #[], .pointer (some ⟨p1, 0, none⟩), .pointer (some ⟨p2, 0, none⟩)] w fun e w' => e = .returned (.tuple #[.int .i64 (r : Nat), .int .i64 0]) ∧ ∃ sv', SStep w w' b sv sv' mb L') :
    Calls Try.prog 23 #[.pointer (some ⟨b, 0, none⟩), .int .i64 m, .func (.func 32) #[] #[.pointer (some ⟨p1, 0, none⟩), .pointer (some ⟨p2, 0, none⟩)]] w fun e w' => e = .returned (.tuple #[.int .i64 (r : Nat), .int .i64 0]) ∧ ∃ sv', SStep w w' b sv sv' mb L' := by
  have KL := hide (len_any b sv mb L w h)
  have KF := hide K
  obtain ⟨N, hN⟩ : ∃ N : Int, N = (L.length : Int) := ⟨_, rfl⟩
  rw [← hN] at KL
  obtain ⟨R, hR⟩ : ∃ R : Int, R = 1048576 - N := ⟨_, rfl⟩
  have r0 : (1048576 : Int) - N = R := hR.symm
  have r1 : IntKind.i64.wrap R = R := by rw [IntKind.wrap_i64]; omega
  have r2 : 0 < R := by omega
  have r3 : decide (R < m) = false := decide_eq_false (by omega)
  have r4 : m ≤ R := by omega
  clear h hl hN hR K hm
  go_enter Try.func23, Try.ntmps23
  go_wp2_with fail
  refine (unhide KL).mono ?_
  rintro e w0 ⟨rfl, rfl⟩
  clear KL
  go_wp2_with fail
  refine (unhide KF).mono ?_
  rintro e w4 ⟨rfl, s4⟩
  have S4 := hide s4
  clear s4 KF r0 r1 r2 r3 r4
  go_wp2
  go_ret2
  exact ⟨rfl, unhide S4⟩
set_option maxRecDepth 100000 in
set_option maxHeartbeats 4000000 in
theorem key_ok {b : Nat} {sv : Value} {mb : Nat} {L : List Tm} {w : World} (h : St w b sv mb L) (app snd : Int) (n : Nat) (ha : thr L.length app = true) (hs : i64r snd) (hn : n ≤ 65536) (hl : L.length + 65540 ≤ 1048575) :
    Calls Try.prog 7 #[.pointer (some ⟨b, 0, none⟩), .int .i64 app, .int .i64 snd, .int .i64 (n : Int)] w fun e w' => e = .returned (.tuple #[.int .i64 ((kyS (secs (beg L app snd) n)).2 : Nat), .int .i64 0]) ∧ ∃ sv', SStep w w' b sv sv' mb (kyS (secs (beg L app snd) n)).1 := by
  obtain ⟨w0, hw0⟩ : ∃ w0, w0 = ((w.alloc (.cells #[.int .i64 app] 3)).alloc (.cells #[.int .i64 snd] 3)).alloc (.cells #[.int .i64 (n : Int)] 3) := ⟨_, rfl⟩
  obtain ⟨y0, y1, y2, x0⟩ := blk3 w (.cells #[.int .i64 app] 3) (.cells #[.int .i64 snd] 3) (.cells #[.int .i64 (n : Int)] 3)
  rw [← hw0] at y0 y1 y2 x0
  have HW := hide hw0
  have S0 : Hid (SStep w w0 b sv sv mb L) := SStep.same h x0
  have KMi := hide (hmissing_any (unhide S0).st)
  have KH := hide (hhas_any (unhide S0).st app)
  rw [ha] at KH
  have KA : Hid (∀ W, Below w0.heap.size w0 W → Calls Try.prog 23 #[.pointer (some ⟨b, 0, none⟩), .int .i64 ((n : Int) + 3), .func (.func 24) #[] #[.pointer (some ⟨w.heap.size, 0, none⟩), .pointer (some ⟨w.heap.size + 1, 0, none⟩), .pointer (some ⟨w.heap.size + 1 + 1, 0, none⟩)]] W fun e w' => e = .returned (.tuple #[.int .i64 ((kyS (secs (beg L app snd) n)).2 : Nat), .int .i64 0]) ∧ ∃ sv', SStep W w' b sv sv' mb (kyS (secs (beg L app snd) n)).1) := fun W hW =>
    aonI_key ((unhide S0).st.bw hW) ((n : Int) + 3) (by omega) (by omega) _ _ _ _ (key1_any ((unhide S0).st.bw hW) app snd n ha hs (by omega) _ _ _ (blk_cell (kept_blk y0 hW) rfl) (blk_cell (kept_blk y1 hW) rfl) (kept_blk y2 hW))
  have YY : Hid (∀ W, Below w0.heap.size w0 W → (W.cell? ⟨w.heap.size, 0, none⟩ = some (.int .i64 app) ∧ W.cell? ⟨w.heap.size + 1 + 1, 0, none⟩ = some (.int .i64 (n : Int))) ∧ SStep w W b sv sv mb L) := fun W hW => ⟨⟨blk_cell (kept_blk y0 hW) rfl, blk_cell (kept_blk y2 hW) rfl⟩, (unhide S0).after hW⟩
  have q1 : (n : Int) ≤ 65536 := by omega
  have q0 : (0 : Int) ≤ (n : Int) := by omega
  have z0 := (unhide YY w0 (Below.refl _ _)).1
  clear h ha hs hn hl hw0 y0 y1 y2 x0 S0
  generalize (kyS (secs (beg L app snd) n)).1 = L2 at *
  generalize (kyS (secs (beg L app snd) n)).2 = x at *
  go_enter Try.func7, Try.ntmps7
  go_upto_region 1 with fail
  rw [← unhide HW]
  clear HW
  go_wp2_with fail
  refine (unhide KMi).mono ?_
  rintro e w1 ⟨rfl, rfl⟩
  clear KMi
  go_wp2_with fail
  refine (unhide KH).mono ?_
  rintro e w2 ⟨rfl, b2⟩
  obtain ⟨⟨c0, c2⟩, s2⟩ := unhide YY _ b2
  have S2 := hide s2
  have K2 := hide (unhide KA _ b2)
  clear s2 KH z0 KA YY b2
  go_wp2_with fail
  refine (unhide K2).mono ?_
  rintro e w4 ⟨rfl, sv4, s4⟩
  have S4 := hide ((unhide S2).trans s4)
  clear s4 S2 K2 c0 c2
  go_wp2
  go_ret2
  exact ⟨rfl, sv4, unhide S4⟩
set_option maxRecDepth 100000 in
set_option maxHeartbeats 4000000 in
theorem key_err {b : Nat} {sv : Value} {mb : Nat} {L : List Tm} {w : World} (h : St w b sv mb L) (app snd n : Int) (hE : keyE L app n ≠ 0) :
    Calls Try.prog 7 #[.pointer (some ⟨b, 0, none⟩), .int .i64 app, .int .i64 snd, .int .i64 n] w fun e w' => e = .returned (.tuple #[.int .i64 0, .int .i64 (keyE L app n)]) ∧ Below w.heap.size w w' := by
  obtain ⟨w0, hw0⟩ : ∃ w0, w0 = ((w.alloc (.cells #[.int .i64 app] 3)).alloc (.cells #[.int .i64 snd] 3)).alloc (.cells #[.int .i64 n] 3) := ⟨_, rfl⟩
  obtain ⟨y0, y1, y2, x0⟩ := blk3 w (.cells #[.int .i64 app] 3) (.cells #[.int .i64 snd] 3) (.cells #[.int .i64 n] 3)
  rw [← hw0] at y0 y1 y2 x0
  have HW := hide hw0
  have S0 := hide (h.bw x0)
  have KMi := hide (hmissing_any (unhide S0))
  have KH := hide (hhas_any (unhide S0) app)
  have YY : Hid (∀ W, Below w0.heap.size w0 W → (W.cell? ⟨w.heap.size, 0, none⟩ = some (.int .i64 app) ∧ W.cell? ⟨w.heap.size + 1 + 1, 0, none⟩ = some (.int .i64 n)) ∧ Below w.heap.size w W) := fun W hW => ⟨⟨blk_cell (kept_blk y0 hW) rfl, blk_cell (kept_blk y2 hW) rfl⟩, bw_tr x0 hW⟩
  obtain ⟨E, hEE⟩ : ∃ E, E = keyE L app n := ⟨_, rfl⟩
  rw [← hEE] at hE ⊢
  unfold keyE at hEE
  generalize thr L.length app = r at *
  have z0 := (unhide YY w0 (Below.refl _ _)).1
  have HE := hide (And.intro hE hEE)
  clear h hw0 y0 y1 y2 x0 S0 hE hEE
  go_enter Try.func7, Try.ntmps7
  go_upto_region 1 with fail
  rw [← unhide HW]
  clear HW
  go_wp2_with fail
  refine (unhide KMi).mono ?_
  rintro e w1 ⟨rfl, rfl⟩
  clear KMi
  go_wp2_with fail
  refine (unhide KH).mono ?_
  rintro e w2 ⟨rfl, b2⟩
  obtain ⟨⟨c0, c2⟩, B2⟩ := unhide YY _ b2
  clear KH z0 YY b2
  cases r
  · obtain rfl : E = 1 := by have := (unhide HE).2; simpa using this
    clear HE
    go_wp2
    go_ret2
    exact ⟨rfl, B2⟩
  · by_cases hn : n < 0
    · have hn' : decide (n < 0) = true := decide_eq_true hn
      obtain rfl : E = 1 := by have := (unhide HE).2; rw [this, if_neg (by simp; omega)]
      clear HE
      go_wp2
      go_ret2
      exact ⟨rfl, B2⟩
    · have hn' : decide (n < 0) = false := decide_eq_false hn
      have h3 : E = 3 ∧ 65536 < n := by
        obtain ⟨h1, h2⟩ := unhide HE
        rw [if_pos (by simp; omega)] at h2
        by_cases q : 65536 < n
        · rw [if_pos q] at h2; exact ⟨h2, q⟩
        · rw [if_neg q] at h2; exact absurd h2 h1
      obtain ⟨rfl, hbig⟩ := h3
      clear HE
      go_wp2
      go_ret2
      exact ⟨rfl, B2⟩
set_option maxRecDepth 100000 in
theorem key_nil (app snd n : Int) (w : World) :
    Calls Try.prog 7 #[.pointer none, .int .i64 app, .int .i64 snd, .int .i64 n] w fun e w' => e = .returned (.tuple #[.int .i64 0, .int .i64 2]) ∧ Below w.heap.size w w' := by
  obtain ⟨w0, hw0⟩ : ∃ w0, w0 = ((w.alloc (.cells #[.int .i64 app] 3)).alloc (.cells #[.int .i64 snd] 3)).alloc (.cells #[.int .i64 n] 3) := ⟨_, rfl⟩
  obtain ⟨-, -, -, x0⟩ := blk3 w (.cells #[.int .i64 app] 3) (.cells #[.int .i64 snd] 3) (.cells #[.int .i64 n] 3)
  rw [← hw0] at x0
  have HW := hide hw0
  have K := hide (hmissing_nil w0)
  clear hw0
  go_enter Try.func7, Try.ntmps7
  go_upto_region 1 with fail
  rw [← unhide HW]
  clear HW
  go_wp2_with fail
  refine (unhide K).mono ?_
  rintro e w1 ⟨rfl, rfl⟩
  clear K
  go_wp2
  go_ret2
  exact ⟨rfl, x0⟩
theorem key_any {b : Nat} {sv : Value} {mb : Nat} {L : List Tm} {w : World} (h : St w b sv mb L) (app snd n : Int) (hs : i64r snd) (hl : L.length + 65540 ≤ 1048575) :
    Calls Try.prog 7 #[.pointer (some ⟨b, 0, none⟩), .int .i64 app, .int .i64 snd, .int .i64 n] w fun e w' => e = .returned (.tuple #[.int .i64 ((keyP L app snd n).2 : Nat), .int .i64 (keyE L app n)]) ∧ ∃ sv', SStep w w' b sv sv' mb (keyP L app snd n).1 := by
  by_cases hE : keyE L app n = 0
  · have hE' := hE
    unfold keyE at hE'
    split at hE'
    · next q =>
      simp only [Bool.and_eq_true, decide_eq_true_eq] at q
      split at hE'
      · cases hE'
      · next q2 =>
        obtain ⟨m, rfl⟩ : ∃ m : Nat, n = m := ⟨n.toNat, by omega⟩
        unfold keyP
        rw [if_pos hE, hE]
        exact key_ok h app snd m q.1 hs (by omega) hl
    · cases hE'
  · unfold keyP
    rw [if_neg hE]
    refine (key_err h app snd n hE).mono ?_
    rintro e w' ⟨h1, h2⟩
    exact ⟨h1, sv, SStep.same h h2⟩
end Go.Proofs.Ytkaioidneknmjaa.Tn
