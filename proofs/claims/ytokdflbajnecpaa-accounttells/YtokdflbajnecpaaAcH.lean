/- Package account: Card and Own; each call without a store. -/
import Derived.Test.YtokdflbajnecpaaAcG
namespace Go.Proofs.Ytokdflbajnecpaa.Tn.Ax
open Go.RowKit Go.Maps

def cardK (L : List Tm) (s : Int) : List Tm × Nat := (mkL L ⟨4, 13, s, 0⟩, mkN L ⟨4, 13, s, 0⟩)
def cardU (L : List Tm) (s : Int) : List Tm × Nat := (mkL (cardK L s).1 ⟨5, 0, ((cardK L s).2 : Nat), 0⟩, mkN (cardK L s).1 ⟨5, 0, ((cardK L s).2 : Nat), 0⟩)
def argE (L : List Tm) (s : Int) : Int := if thr L.length s = true then 0 else 1
def cardL (L : List Tm) (s : Int) : List Tm := if thr L.length s = true then (cardU L s).1 else L
def cardA (L : List Tm) (s : Int) : Nat := if thr L.length s = true then (cardK L s).2 else 0
def cardB (L : List Tm) (s : Int) : Nat := if thr L.length s = true then (cardU L s).2 else 0
def ownL (L : List Tm) (s : Int) : List Tm := if thr L.length s = true then mkL L ⟨4, 14, s, 0⟩ else L
def ownA (L : List Tm) (s : Int) : Nat := if thr L.length s = true then mkN L ⟨4, 14, s, 0⟩ else 0
theorem may_pub {N : Nat} {a : Int} (ha : thr N a = true) : may N ⟨5, 0, a, 0⟩ = true := by simp [may, ha]
theorem ok_pub {a : Int} (h : 0 ≤ a ∧ a ≤ 1048577) : Tm.ok ⟨5, 0, a, 0⟩ := ⟨by simp, by simp, by simp, by simp, by simp; omega, by simp; omega, by simp, by simp⟩
theorem cardK_thr {L : List Tm} {s : Int} (hs : thr L.length s = true) (hl : L.length + 100 ≤ 1048576) : thr (cardK L s).1.length ((cardK L s).2 : Nat) = true ∧ (cardK L s).1.length ≤ L.length + 1 := ⟨(mkN_thr (may_kdf (by omega) hs (Or.inl rfl)) (by omega)).1, mkL_len _ _⟩
set_option maxRecDepth 100000 in
set_option maxHeartbeats 4000000 in
theorem card_ok {b : Nat} {sv : Value} {mb : Nat} {L : List Tm} {w : World} (h : St w b sv mb L) (s : Int) (hs : thr L.length s = true) (hl : L.length + 100 ≤ 1048576) :
    Calls Try.prog 48 #[.pointer (some ⟨b, 0, none⟩), .int .i64 s] w fun e w' => e = .returned (.tuple #[.agg #[.int .i64 ((cardK L s).2 : Nat), .int .i64 ((cardU L s).2 : Nat)], .int .i64 0]) ∧ ∃ sv', SStep w w' b sv sv' mb (cardU L s).1 := by
  obtain ⟨w0, hw0⟩ : ∃ w0, w0 = w.alloc (.cells #[.int .i64 0, .int .i64 0] 83) := ⟨_, rfl⟩
  have b0 : Below w.heap.size w w0 := by rw [hw0]; exact bwA' _ _
  have k0 : w0.heap[w.heap.size]? = some (.cells #[.int .i64 0, .int .i64 0] 83 (0, 0)) := by rw [hw0]; exact heap_alloc_new _ _
  obtain ⟨t1, l1⟩ := cardK_thr hs hl
  have h1 := h.bw b0
  have KD := hide (acderived_any w0 13 s 0)
  have K1 : Hid (∀ W, Below w0.heap.size w0 W → Calls Try.prog 27 #[.pointer (some ⟨b, 0, none⟩), .agg #[.int .u8 4, .int .i64 13, .int .i64 s, .int .i64 0]] W fun e w' => e = .returned (.tuple #[.int .i64 ((cardK L s).2 : Nat), .int .i64 0]) ∧ ∃ sv', SStep w0 w' b sv sv' mb (cardK L s).1) := fun W hW => make_kdf (SStep.same h1 hW) 13 s 0 (by omega) hs (Or.inl rfl) (by omega)
  have K2 : Hid (∀ W sv', SStep w0 W b sv sv' mb (cardK L s).1 → Calls Try.prog 27 #[.pointer (some ⟨b, 0, none⟩), .agg #[.int .u8 5, .int .i64 0, .int .i64 ((cardK L s).2 : Nat), .int .i64 0]] W fun e w' => e = .returned (.tuple #[.int .i64 ((cardU L s).2 : Nat), .int .i64 0]) ∧ ∃ sv', SStep w0 w' b sv sv' mb (cardU L s).1) := fun W sv' S => by
    refine (make_ok S.st 5 0 _ 0 (ok_pub (thr_rng t1 (by omega))) (may_pub t1) (by omega)).mono ?_
    rintro e w' ⟨h1, sv2, s⟩
    exact ⟨h1, sv2, S.trans s⟩
  have HF : Hid (∀ W sv', SStep w0 W b sv sv' mb (cardU L s).1 → W.heap[w.heap.size]? = some (.cells #[.int .i64 0, .int .i64 0] 83 (0, 0)) ∧ SStep w W b sv sv' mb (cardU L s).1) := fun W sv' S => ⟨kept_fr k0 h1 S.fr (by decide) (by decide), (SStep.same h b0).trans S⟩
  have HW := hide hw0
  clear h hs hl hw0 b0 k0 t1 l1 h1
  generalize (cardU L s).2 = Y at *
  generalize (cardU L s).1 = L2 at *
  generalize (cardK L s).2 = X at *
  generalize (cardK L s).1 = L1 at *
  go_enter Try.func48, Try.ntmps48
  go_upto_region 1 with fail
  rw [← unhide HW]
  clear HW
  go_wp2_with fail
  refine (unhide KD).mono ?_
  rintro e w1 ⟨rfl, b1⟩
  have Q1 := hide (unhide K1 _ b1)
  clear KD K1 b1
  go_wp2_with fail
  refine (unhide Q1).mono ?_
  rintro e w2 ⟨rfl, sv2, s2⟩
  have Q2 := hide (unhide K2 _ _ s2)
  clear Q1 K2 s2
  go_wp2_with fail
  refine (unhide Q2).mono ?_
  rintro e w3 ⟨rfl, sv3, s3⟩
  obtain ⟨k3, s3'⟩ := unhide HF _ _ s3
  have S3 := hide s3'
  have g0 : w3.cell? ⟨w.heap.size, 0, none⟩ = some (.int .i64 0) := blk_cell k3 rfl
  have g1 : w3.cell? ⟨w.heap.size, 1, none⟩ = some (.int .i64 0) := blk_cell k3 rfl
  have fz := fun j => blk_froz (i := j) k3
  have K3 := hide k3
  clear s3 s3' Q2 HF k3
  go_wp2
  obtain ⟨V, hV⟩ : ∃ V, V = (w3.setCell ⟨w.heap.size, 0, none⟩ (.int .i64 (X : Int))).setCell ⟨w.heap.size, 1, none⟩ (.int .i64 (Y : Int)) := ⟨_, rfl⟩
  rw [← hV]
  have kV : V.heap[w.heap.size]? = some (.cells #[.int .i64 (X : Int), .int .i64 (Y : Int)] 83 (0, 0)) := by
    rw [hV]
    have := poke_blk (i := 1) (poke_blk (i := 0) (unhide K3) (.int .i64 (X : Int))) (.int .i64 (Y : Int))
    simpa using this
  have SV : SStep w V b sv sv3 mb L2 := by
    rw [hV]
    exact ((unhide S3).poke (unhide K3) (by decide) (by decide) (Nat.le_refl _) _).poke (poke_blk (i := 0) (unhide K3) (.int .i64 (X : Int))) (by decide) (by decide) (Nat.le_refl _) _
  have v0 := blk_cell (i := 0) kV rfl
  have v1 := blk_cell (i := 1) kV rfl
  exact bodyPost_ret (v := .tuple #[.agg #[.int .i64 (X : Int), .int .i64 (Y : Int)], .int .i64 0]) (by simp [results, Try.results48, go_sem, v0, v1]) rfl ⟨rfl, sv3, SV⟩
set_option maxRecDepth 100000 in
set_option maxHeartbeats 4000000 in
theorem card1_ok {b : Nat} {sv : Value} {mb : Nat} {L : List Tm} {w : World} (h : St w b sv mb L) (s : Int) (hs : thr L.length s = true) (hl : L.length + 100 ≤ 1048576) (p1 : Nat) (c1 : w.heap[p1]? = some (.cells #[.int .i64 s] 3 (0, 0))) :
    Calls Try.prog 47 #[.pointer (some ⟨b, 0, none⟩), .pointer (some ⟨p1, 0, none⟩)] w fun e w' => e = .returned (.tuple #[.agg #[.int .i64 ((cardK L s).2 : Nat), .int .i64 ((cardU L s).2 : Nat)], .int .i64 0]) ∧ ∃ sv', SStep w w' b sv sv' mb (cardU L s).1 := by
  obtain ⟨w0, hw0⟩ : ∃ w0, w0 = w.alloc (.cells #[.int .i64 0, .int .i64 0] 83) := ⟨_, rfl⟩
  have b0 : Below w.heap.size w w0 := by rw [hw0]; exact bwA' _ _
  have k0 : w0.heap[w.heap.size]? = some (.cells #[.int .i64 0, .int .i64 0] 83 (0, 0)) := by rw [hw0]; exact heap_alloc_new _ _
  have h1 := h.bw b0
  have d1 : w0.cell? ⟨p1, 0, none⟩ = some (.int .i64 s) := blk_cell (kept_blk c1 b0) rfl
  have K1 := hide (card_ok h1 s hs hl)
  have HF : Hid (∀ W sv', SStep w0 W b sv sv' mb (cardU L s).1 → W.heap[w.heap.size]? = some (.cells #[.int .i64 0, .int .i64 0] 83 (0, 0)) ∧ SStep w W b sv sv' mb (cardU L s).1) := fun W sv' S => ⟨kept_fr k0 h1 S.fr (by decide) (by decide), (SStep.same h b0).trans S⟩
  have HW := hide hw0
  clear h hs hl hw0 b0 k0 h1 c1
  generalize (cardU L s).2 = Y at *
  generalize (cardU L s).1 = L2 at *
  generalize (cardK L s).2 = X at *
  go_enter Try.func47, Try.ntmps47
  go_upto_region 1 with fail
  rw [← unhide HW]
  clear HW
  go_wp2_with fail
  refine (unhide K1).mono ?_
  rintro e w3 ⟨rfl, sv3, s3⟩
  obtain ⟨k3, s3'⟩ := unhide HF _ _ s3
  have S3 := hide s3'
  have g0 : w3.cell? ⟨w.heap.size, 0, none⟩ = some (.int .i64 0) := blk_cell k3 rfl
  have g1 : w3.cell? ⟨w.heap.size, 1, none⟩ = some (.int .i64 0) := blk_cell k3 rfl
  have fz := fun j => blk_froz (i := j) k3
  have K3 := hide k3
  clear s3 s3' K1 HF k3 d1
  go_wp2
  obtain ⟨V, hV⟩ : ∃ V, V = (w3.setCell ⟨w.heap.size, 0, none⟩ (.int .i64 (X : Int))).setCell ⟨w.heap.size, 1, none⟩ (.int .i64 (Y : Int)) := ⟨_, rfl⟩
  rw [← hV]
  have kV : V.heap[w.heap.size]? = some (.cells #[.int .i64 (X : Int), .int .i64 (Y : Int)] 83 (0, 0)) := by
    rw [hV]
    have := poke_blk (i := 1) (poke_blk (i := 0) (unhide K3) (.int .i64 (X : Int))) (.int .i64 (Y : Int))
    simpa using this
  have SV : SStep w V b sv sv3 mb L2 := by
    rw [hV]
    exact ((unhide S3).poke (unhide K3) (by decide) (by decide) (Nat.le_refl _) _).poke (poke_blk (i := 0) (unhide K3) (.int .i64 (X : Int))) (by decide) (by decide) (Nat.le_refl _) _
  have v0 := blk_cell (i := 0) kV rfl
  have v1 := blk_cell (i := 1) kV rfl
  exact bodyPost_ret (v := .tuple #[.agg #[.int .i64 (X : Int), .int .i64 (Y : Int)], .int .i64 0]) (by simp [results, Try.results47, go_sem, v0, v1]) rfl ⟨rfl, sv3, SV⟩
set_option maxRecDepth 100000 in
set_option maxHeartbeats 4000000 in
theorem ccard_any {b : Nat} {sv : Value} {mb : Nat} {L : List Tm} {w : World} (h : St w b sv mb L) (s : Int) (hl : L.length + 200 ≤ 1048575) :
    Calls Try.prog 13 #[.pointer (some ⟨b, 0, none⟩), .int .i64 s] w fun e w' => e = .returned (.tuple #[.int .i64 (cardA L s : Nat), .int .i64 (cardB L s : Nat), .int .i64 (argE L s)]) ∧ ∃ sv', SStep w w' b sv sv' mb (cardL L s) := by
  obtain ⟨w0, hw0⟩ : ∃ w0, w0 = w.alloc (.cells #[.int .i64 s] 3) := ⟨_, rfl⟩
  have b0 : Below w.heap.size w w0 := by rw [hw0]; exact bwA' _ _
  have k0 : w0.heap[w.heap.size]? = some (.cells #[.int .i64 s] 3 (0, 0)) := by rw [hw0]; exact heap_alloc_new _ _
  have S0 := SStep.same h b0
  have KMi := hide (hmissing_any S0.st)
  have KH := hide (hhas_any S0.st s)
  have d0 : w0.cell? ⟨w.heap.size, 0, none⟩ = some (.int .i64 s) := blk_cell k0 rfl
  have YY : Hid (∀ W, Below w0.heap.size w0 W → W.cell? ⟨w.heap.size, 0, none⟩ = some (.int .i64 s) ∧ SStep w W b sv sv mb L) := fun W hW => ⟨blk_cell (kept_blk k0 hW) rfl, SStep.same h (bw_tr b0 hW)⟩
  have KW : Hid (thr L.length s = true → ∀ W, Below w0.heap.size w0 W → Calls Try.prog 46 #[.pointer (some ⟨b, 0, none⟩), .int .i64 2, .func (.func 47) #[] #[.pointer (some ⟨w.heap.size, 0, none⟩)]] W fun e w' => e = .returned (.tuple #[.agg #[.int .i64 (cardA L s : Nat), .int .i64 (cardB L s : Nat)], .int .i64 0]) ∧ ∃ sv', SStep w w' b sv sv' mb (cardL L s)) := fun hO W hW => by
    obtain ⟨-, S⟩ := unhide YY W hW
    rw [show cardA L s = (cardK L s).2 from if_pos hO, show cardB L s = (cardU L s).2 from if_pos hO, show cardL L s = (cardU L s).1 from if_pos hO]
    refine (whole_card S.st 2 (by omega) (by omega) w.heap.size ((cardK L s).2 : Nat) ((cardU L s).2 : Nat) (L' := (cardU L s).1) (fun V hV => ?_)).mono ?_
    · exact card1_ok (S.st.bw hV) s hO (by omega) _ (kept_blk k0 (bw_tr hW hV))
    · rintro ee w' ⟨h1, sv', s⟩
      exact ⟨h1, sv', S.trans s⟩
  have HN : Hid (thr L.length s = false → cardA L s = 0 ∧ cardB L s = 0 ∧ cardL L s = L ∧ argE L s = 1) := fun c => by simp [cardA, cardB, cardL, argE, c]
  have HP : Hid (thr L.length s = true → argE L s = 0) := fun c => by simp [argE, c]
  have HW := hide hw0
  clear h hl hw0 b0 k0 S0
  generalize thr L.length s = r at *
  generalize cardA L s = X at *
  generalize cardB L s = Y at *
  generalize cardL L s = L2 at *
  generalize argE L s = E at *
  go_enter Try.func13, Try.ntmps13
  go_upto_region 1 with fail
  rw [← unhide HW]
  clear HW
  go_wp2_with fail
  refine (unhide KMi).mono ?_
  rintro e w1 ⟨rfl, rfl⟩
  clear KMi
  go_wp2_with fail
  refine (unhide KH).mono ?_
  rintro e w2 ⟨rfl, b2⟩
  obtain ⟨e0, s2⟩ := unhide YY _ b2
  cases r
  · obtain ⟨rfl, rfl, rfl, rfl⟩ := unhide HN rfl
    have S := hide s2
    clear HN HP KW YY KH s2 b2
    go_wp2
    exact bodyPost_ret (v := .tuple #[.int .i64 0, .int .i64 0, .int .i64 1]) (by simp [results, Try.results13, go_sem]) rfl ⟨rfl, sv, unhide S⟩
  · obtain rfl := unhide HP rfl
    have K2 := hide (unhide KW rfl _ b2)
    clear HN HP KW YY KH s2 b2
    go_wp2_with fail
    refine (unhide K2).mono ?_
    rintro e w3 ⟨rfl, s3⟩
    have S3 := hide s3
    clear s3 K2 d0 e0
    go_wp2_with fail
    go_quiet (fail)
    go_wp2
    obtain ⟨sv3, s3⟩ := unhide S3
    exact bodyPost_ret (v := .tuple #[.int .i64 (X : Int), .int .i64 (Y : Int), .int .i64 0]) (by simp [results, Try.results13, go_sem]) rfl ⟨rfl, sv3, s3.trans (SStep.same s3.st (below_drewN (bwA' _ _) _))⟩
set_option maxRecDepth 100000 in
set_option maxHeartbeats 4000000 in
theorem own_any {b : Nat} {sv : Value} {mb : Nat} {L : List Tm} {w : World} (h : St w b sv mb L) (s : Int) (hl : L.length + 200 ≤ 1048575) :
    Calls Try.prog 15 #[.pointer (some ⟨b, 0, none⟩), .int .i64 s] w fun e w' => e = .returned (.tuple #[.int .i64 (ownA L s : Nat), .int .i64 (argE L s)]) ∧ ∃ sv', SStep w w' b sv sv' mb (ownL L s) := by
  have KMi := hide (hmissing_any h)
  have KH := hide (hhas_any h s)
  have KD : Hid (∀ W, Calls Try.prog 44 #[.int .i64 14, .int .i64 s, .int .i64 0] W fun e w' => e = .returned (.agg #[.int .u8 4, .int .i64 14, .int .i64 s, .int .i64 0]) ∧ Below W.heap.size W w') := fun W => acderived_any W 14 s 0
  have K1 : Hid (thr L.length s = true → ∀ W, Below w.heap.size w W → Calls Try.prog 27 #[.pointer (some ⟨b, 0, none⟩), .agg #[.int .u8 4, .int .i64 14, .int .i64 s, .int .i64 0]] W fun e w' => e = .returned (.tuple #[.int .i64 (ownA L s : Nat), .int .i64 0]) ∧ ∃ sv', SStep w w' b sv sv' mb (ownL L s)) := fun hs W hW => by
    rw [show ownA L s = mkN L ⟨4, 14, s, 0⟩ from if_pos hs, show ownL L s = mkL L ⟨4, 14, s, 0⟩ from if_pos hs]
    exact make_kdf (SStep.same h hW) 14 s 0 (by omega) hs (Or.inl rfl) (by omega)
  have HN : Hid (thr L.length s = false → ownA L s = 0 ∧ ownL L s = L ∧ argE L s = 1) := fun c => by simp [ownA, ownL, argE, c]
  have HP : Hid (thr L.length s = true → argE L s = 0) := fun c => by simp [argE, c]
  have HH := hide h
  clear h hl
  generalize thr L.length s = r at *
  generalize ownA L s = X at *
  generalize ownL L s = L2 at *
  generalize argE L s = E at *
  go_enter Try.func15, Try.ntmps15
  go_wp2_with fail
  refine (unhide KMi).mono ?_
  rintro e w1 ⟨rfl, rfl⟩
  clear KMi
  go_wp2_with fail
  refine (unhide KH).mono ?_
  rintro e w2 ⟨rfl, b2⟩
  cases r
  · obtain ⟨rfl, rfl, rfl⟩ := unhide HN rfl
    have S := hide (SStep.same (unhide HH) b2)
    clear HN HP K1 KH b2 HH KD
    go_wp2
    go_ret2
    exact ⟨rfl, sv, unhide S⟩
  · obtain rfl := unhide HP rfl
    have B2 := hide b2
    clear HN HP KH b2 HH
    go_wp2_with fail
    refine (unhide KD _).mono ?_
    rintro e w3 ⟨rfl, b3⟩
    have K2 := hide (unhide K1 (by first | rfl | trivial) _ (bw_tr (unhide B2) b3))
    clear KD b3 B2 K1
    go_wp2_with fail
    refine (unhide K2).mono ?_
    rintro e w4 ⟨rfl, s4⟩
    have S4 := hide s4
    clear s4 K2
    go_wp2
    go_ret2
    exact ⟨rfl, unhide S4⟩
set_option maxRecDepth 100000 in
set_option maxHeartbeats 2000000 in
theorem digest_nil (w : World) (a1 : Option Addr) (n1 c1 : Nat) (a2 : Option Addr) (n2 c2 : Nat) :
    Calls Try.prog 9 #[.pointer none, .slice a1 n1 c1, .slice a2 n2 c2] w fun e w' => e = .returned (.tuple #[.int .i64 0, .int .i64 2]) ∧ Below w.heap.size w w' := by
  obtain ⟨w0, hw0⟩ : ∃ w0, w0 = (w.alloc (.cells #[.slice a1 n1 c1] 23)).alloc (.cells #[.slice a2 n2 c2] 24) := ⟨_, rfl⟩
  have b0 : Hid (Below w.heap.size w w0) := by unfold Hid; rw [hw0]; exact (blk2 _ _ _).2.2
  have K := hide (hmissing_nil w0)
  have HW := hide hw0
  clear hw0
  go_enter Try.func9, Try.ntmps9
  go_upto_region 1 with fail
  rw [← unhide HW]
  clear HW
  go_wp2_with fail
  refine (unhide K).mono ?_
  rintro e w1 ⟨rfl, rfl⟩
  clear K
  go_wp2
  go_ret2
  exact ⟨rfl, unhide b0⟩
set_option maxRecDepth 100000 in
set_option maxHeartbeats 2000000 in
theorem seed_nil (w : World) (s g e d dg : Int) :
    Calls Try.prog 11 #[.pointer none, .int .i64 s, .int .i64 g, .int .i64 e, .int .i64 d, .int .i64 dg] w fun e w' => e = .returned (.tuple #[.int .i64 0, .int .i64 2]) ∧ Below w.heap.size w w' := by
  obtain ⟨w0, hw0⟩ : ∃ w0, w0 = ((((w.alloc (.cells #[.int .i64 s] 3)).alloc (.cells #[.int .i64 g] 3)).alloc (.cells #[.int .i64 e] 3)).alloc (.cells #[.int .i64 d] 3)).alloc (.cells #[.int .i64 dg] 3) := ⟨_, rfl⟩
  have b0 : Hid (Below w.heap.size w w0) := by unfold Hid; rw [hw0]; exact (blk5 _ _ _ _ _ _).2.2.2.2.2
  have K := hide (hmissing_nil w0)
  have HW := hide hw0
  clear hw0
  go_enter Try.func11, Try.ntmps11
  go_upto_region 1 with fail
  rw [← unhide HW]
  clear HW
  go_wp2_with fail
  refine (unhide K).mono ?_
  rintro e w1 ⟨rfl, rfl⟩
  clear K
  go_wp2
  go_ret2
  exact ⟨rfl, unhide b0⟩
set_option maxRecDepth 100000 in
set_option maxHeartbeats 2000000 in
theorem card_nil (w : World) (s : Int) :
    Calls Try.prog 13 #[.pointer none, .int .i64 s] w fun e w' => e = .returned (.tuple #[.int .i64 0, .int .i64 0, .int .i64 2]) ∧ Below w.heap.size w w' := by
  obtain ⟨w0, hw0⟩ : ∃ w0, w0 = w.alloc (.cells #[.int .i64 s] 3) := ⟨_, rfl⟩
  have b0 : Hid (Below w.heap.size w w0) := by unfold Hid; rw [hw0]; exact bwA' _ _
  have K := hide (hmissing_nil w0)
  have HW := hide hw0
  clear hw0
  go_enter Try.func13, Try.ntmps13
  go_upto_region 1 with fail
  rw [← unhide HW]
  clear HW
  go_wp2_with fail
  refine (unhide K).mono ?_
  rintro e w1 ⟨rfl, rfl⟩
  clear K
  go_wp2
  exact bodyPost_ret (v := .tuple #[.int .i64 0, .int .i64 0, .int .i64 2]) (by simp [results, Try.results13, go_sem]) rfl ⟨rfl, unhide b0⟩
set_option maxRecDepth 100000 in
set_option maxHeartbeats 2000000 in
theorem own_nil (w : World) (s : Int) :
    Calls Try.prog 15 #[.pointer none, .int .i64 s] w fun e w' => e = .returned (.tuple #[.int .i64 0, .int .i64 2]) ∧ Below w.heap.size w w' := by
  have b0 : Hid (Below w.heap.size w w) := Below.refl _ _
  have K := hide (hmissing_nil w)
  go_enter Try.func15, Try.ntmps15
  go_wp2_with fail
  refine (unhide K).mono ?_
  rintro e w ⟨rfl, rfl⟩
  clear K
  go_wp2
  go_ret2
  exact ⟨rfl, unhide b0⟩
end Go.Proofs.Ytokdflbajnecpaa.Tn.Ax
