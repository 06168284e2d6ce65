/- Keys of messages, plainly; the contracts of chain.derived, chain.first and of the closures of Key and New. -/
import Derived.Test.YtkaioidneknmjaaScC
namespace Go.Proofs.Ytkaioidneknmjaa.Tn
open Go.RowKit Go.Maps

theorem may_dat11 (N : Nat) (z : Int) : may N ⟨2, z, 0, 0⟩ = true := by simp [may]
def i64r (z : Int) : Prop := -9223372036854775808 ≤ z ∧ z ≤ 9223372036854775807
theorem ok_dat11 {z : Int} (h : i64r z) : Tm.ok ⟨2, z, 0, 0⟩ := ⟨by simp, by simp, h.1, h.2, by simp, by simp, by simp, by simp⟩
/-- The secret of the next number; the first secret of a sender; that of a number; a number's key. -/
def nxS (p : List Tm × Nat) : List Tm × Nat := (mkL p.1 ⟨4, 10, (p.2 : Int), 0⟩, mkN p.1 ⟨4, 10, (p.2 : Int), 0⟩)
def kyS (p : List Tm × Nat) : List Tm × Nat := (mkL p.1 ⟨4, 11, (p.2 : Int), 0⟩, mkN p.1 ⟨4, 11, (p.2 : Int), 0⟩)
def beg (L : List Tm) (app snd : Int) : List Tm × Nat :=
  (mkL (mkL L ⟨2, snd, 0, 0⟩) ⟨4, 9, app, (mkN L ⟨2, snd, 0, 0⟩ : Nat)⟩, mkN (mkL L ⟨2, snd, 0, 0⟩) ⟨4, 9, app, (mkN L ⟨2, snd, 0, 0⟩ : Nat)⟩)
def secs (p : List Tm × Nat) : Nat → List Tm × Nat
  | 0 => p
  | n + 1 => nxS (secs p n)
/-- The number is one of a term. -/
def Gd (p : List Tm × Nat) : Prop := 1 ≤ p.2 ∧ p.2 ≤ p.1.length
theorem Gd.thr {p : List Tm × Nat} (h : Gd p) : thr p.1.length (p.2 : Int) = true := thr_iff.2 (by have := h.1; have := h.2; omega)
theorem gd_of {L : List Tm} {t : Tm} (hm : may L.length t = true) (hl : L.length < 1048576) : Gd (mkL L t, mkN L t) := by
  have := thr_iff.1 (mkN_thr hm hl).1
  exact ⟨by simp; omega, by simp; omega⟩
theorem may_nx {p : List Tm × Nat} (h : Gd p) (l : Int) (hl : 0 ≤ l) : may p.1.length ⟨4, l, (p.2 : Int), 0⟩ = true := may_kdf hl h.thr (Or.inl rfl)
theorem ok_nx {p : List Tm × Nat} (h : Gd p) (l : Int) (hl : 0 ≤ l ∧ l ≤ 100) (hL : p.1.length ≤ 1048576) : Tm.ok ⟨4, l, (p.2 : Int), 0⟩ := ok_kdf (by have := h.2; omega)
theorem nxS_gd {p : List Tm × Nat} (h : Gd p) (hl : p.1.length < 1048576) : Gd (nxS p) := gd_of (may_nx h 10 (by omega)) hl
theorem kyS_gd {p : List Tm × Nat} (h : Gd p) (hl : p.1.length < 1048576) : Gd (kyS p) := gd_of (may_nx h 11 (by omega)) hl
theorem nxS_len (p : List Tm × Nat) : (nxS p).1.length ≤ p.1.length + 1 ∧ p.1.length ≤ (nxS p).1.length := ⟨mkL_len _ _, mkL_le _ _⟩
theorem kyS_len (p : List Tm × Nat) : (kyS p).1.length ≤ p.1.length + 1 ∧ p.1.length ≤ (kyS p).1.length := ⟨mkL_len _ _, mkL_le _ _⟩
theorem secs_len (p : List Tm × Nat) : ∀ n, (secs p n).1.length ≤ p.1.length + n ∧ p.1.length ≤ (secs p n).1.length
  | 0 => ⟨Nat.le_refl _, Nat.le_refl _⟩
  | n + 1 => by have h := secs_len p n; have h2 := nxS_len (secs p n); exact ⟨by show (nxS _).1.length ≤ _; omega, by show _ ≤ (nxS _).1.length; omega⟩
theorem secs_gd {p : List Tm × Nat} (h : Gd p) : ∀ n, p.1.length + n ≤ 1048576 → Gd (secs p n)
  | 0, _ => h
  | n + 1, hl => nxS_gd (secs_gd h n (by omega)) (by have := secs_len p n; omega)
theorem beg_len (L : List Tm) (app snd : Int) : (beg L app snd).1.length ≤ L.length + 2 ∧ L.length ≤ (beg L app snd).1.length := by
  have h1 := mkL_len L ⟨2, snd, 0, 0⟩
  have h2 := mkL_le L ⟨2, snd, 0, 0⟩
  have h3 := mkL_len (mkL L ⟨2, snd, 0, 0⟩) ⟨4, 9, app, (mkN L ⟨2, snd, 0, 0⟩ : Nat)⟩
  have h4 := mkL_le (mkL L ⟨2, snd, 0, 0⟩) ⟨4, 9, app, (mkN L ⟨2, snd, 0, 0⟩ : Nat)⟩
  exact ⟨by show (mkL _ _).length ≤ _; omega, by show _ ≤ (mkL _ _).length; omega⟩
theorem beg_gd {L : List Tm} {app snd : Int} (ha : thr L.length app = true) (hl : L.length + 2 ≤ 1048576) : Gd (beg L app snd) := by
  have t1 := mkN_thr (may_dat11 L.length snd) (by omega)
  have l1 := mkL_len L ⟨2, snd, 0, 0⟩
  exact gd_of (may_kdf (by omega) (thr_mono ha (mkL_le _ _)) (Or.inr t1.1)) (by omega)
set_option maxRecDepth 100000 in
theorem chderived_any (w : World) (l s c : Int) :
    Calls Try.prog 26 #[.int .i64 l, .int .i64 s, .int .i64 c] w fun e w' => e = .returned (.agg #[.int .u8 4, .int .i64 l, .int .i64 s, .int .i64 c]) ∧ Below w.heap.size w w' := by
  go_enter Try.func26, Try.ntmps26
  go_wp2
  exact bodyPost_ret (v := .agg #[.int .u8 4, .int .i64 l, .int .i64 s, .int .i64 c]) (by simp [results, Try.results26, go_sem]) rfl ⟨rfl, bwA' _ _⟩
/-- Put makes a key of a secret. -/
theorem put_kdf {b : Nat} {sv : Value} {mb : Nat} {L : List Tm} {w : World} {w0 : World} {sv0 : Value} (S : SStep w0 w b sv0 sv mb L) (l s c : Int) (ho : Tm.ok ⟨4, l, s, c⟩) (hm : may L.length ⟨4, l, s, c⟩ = true) (hl : L.length < 1048576) :
    Calls Try.prog 19 #[.pointer (some ⟨b, 0, none⟩), .agg #[.int .u8 4, .int .i64 l, .int .i64 s, .int .i64 c]] w fun e w' => e = .returned (.tuple #[.int .i64 (mkN L ⟨4, l, s, c⟩ : Nat), .int .i64 0]) ∧ ∃ sv', SStep w0 w' b sv0 sv' mb (mkL L ⟨4, l, s, c⟩) ∧ Fr (foot b sv mb) w w' := by
  refine (make_ok S.st 4 l s c ho hm hl).mono ?_
  rintro e w' ⟨h1, sv2, h2⟩
  exact ⟨h1, sv2, S.trans h2, h2.fr⟩
set_option maxRecDepth 100000 in
set_option maxHeartbeats 2000000 in
theorem chfirst_any {b : Nat} {sv : Value} {mb : Nat} {L : List Tm} {w : World} (h : St w b sv mb L) (app snd : Int) (ha : thr L.length app = true) (hs : i64r snd) (hl : L.length + 2 ≤ 1048576) :
    Calls Try.prog 25 #[.func (.func 19) #[.pointer (some ⟨b, 0, none⟩)] #[], .int .i64 app, .int .i64 snd] w fun e w' => e = .returned (.tuple #[.int .i64 ((beg L app snd).2 : Nat), .int .i64 0]) ∧ ∃ sv', SStep w w' b sv sv' mb (beg L app snd).1 := by
  have har := thr_rng ha (by omega)
  have K1 := hide (make_ok h 2 snd 0 0 (ok_dat11 hs) (may_dat11 _ _) (by omega))
  obtain ⟨D, hD⟩ : ∃ D : Nat, D = mkN L ⟨2, snd, 0, 0⟩ := ⟨_, rfl⟩
  obtain ⟨L1, hL1⟩ : ∃ L1, L1 = mkL L ⟨2, snd, 0, 0⟩ := ⟨_, rfl⟩
  have t1 := mkN_thr (may_dat11 L.length snd) (by omega)
  rw [← hD, ← hL1] at K1 t1
  have l1 : L1.length ≤ L.length + 1 := by rw [hL1]; exact mkL_len _ _
  have l1' : L.length ≤ L1.length := by rw [hL1]; exact mkL_le _ _
  have m2 : may L1.length ⟨4, 9, app, (D : Nat)⟩ = true := may_kdf (by omega) (thr_mono ha l1') (Or.inr t1.1)
  have o2 : Tm.ok ⟨4, 9, app, (D : Nat)⟩ := ok_kdf (by have := thr_iff.1 t1.1; omega)
  obtain ⟨x, hx⟩ : ∃ x : Nat, x = (beg L app snd).2 := ⟨_, rfl⟩
  obtain ⟨L2, hL2⟩ : ∃ L2, L2 = (beg L app snd).1 := ⟨_, rfl⟩
  have e2 : mkN L1 ⟨4, 9, app, (D : Nat)⟩ = x := by rw [hx, hL1, hD]; rfl
  have e3 : mkL L1 ⟨4, 9, app, (D : Nat)⟩ = L2 := by rw [hL2, hL1, hD]; rfl
  rw [← hx, ← hL2]
  have HM : Hid (∀ W sv', SStep w W b sv sv' mb L1 → Calls Try.prog 19 #[.pointer (some ⟨b, 0, none⟩), .agg #[.int .u8 4, .int .i64 9, .int .i64 app, .int .i64 (D : Nat)]] W fun e w' => e = .returned (.tuple #[.int .i64 (x : Nat), .int .i64 0]) ∧ ∃ sv2, SStep w w' b sv sv2 mb L2 ∧ Fr (foot b sv' mb) W w') := fun W sv' hs => by
    have := put_kdf hs 9 app (D : Nat) o2 m2 (by omega)
    rw [e2, e3] at this
    exact this
  clear h ha hs hl har hD hL1 t1 l1 l1' m2 o2 hx hL2 e2 e3
  go_enter Try.func25, Try.ntmps25
  go_wp2_with fail
  refine (unhide K1).mono ?_
  rintro e w1 ⟨rfl, sv1, s1⟩
  have S1 := hide s1
  have KD := hide (chderived_any w1 9 app (D : Nat))
  clear s1 K1
  go_wp2_with fail
  refine (unhide KD).mono ?_
  rintro e w2 ⟨rfl, y⟩
  have S2 : Hid (SStep w w2 b sv sv1 mb L1) := (unhide S1).after y
  have K2 := hide (unhide HM w2 sv1 (unhide S2))
  clear y S1 KD HM
  go_wp2_with fail
  refine (unhide K2).mono ?_
  rintro e w3 ⟨rfl, sv3, s3, f3⟩
  have S3 := hide s3
  clear s3 f3 K2 S2
  go_wp2
  go_ret2
  exact ⟨rfl, sv3, unhide S3⟩
set_option maxRecDepth 100000 in
set_option maxHeartbeats 2000000 in
theorem new1_any {b : Nat} {sv : Value} {mb : Nat} {L : List Tm} {w : World} (h : St w b sv mb L) (app snd : Int) (ha : thr L.length app = true) (hs : i64r snd) (hl : L.length + 2 ≤ 1048576) (p1 p2 : Nat) (c1 : w.cell? ⟨p1, 0, none⟩ = some (.int .i64 app)) (c2 : w.cell? ⟨p2, 0, none⟩ = some (.int .i64 snd)) :
    Calls Try.prog 32 #[.func (.func 19) #[.pointer (some ⟨b, 0, none⟩)] #[], .pointer (some ⟨p1, 0, none⟩), .pointer (some ⟨p2, 0, none⟩)] w fun e w' => e = .returned (.tuple #[.int .i64 ((beg L app snd).2 : Nat), .int .i64 0]) ∧ ∃ sv', SStep w w' b sv sv' mb (beg L app snd).1 := by
  have K := hide (chfirst_any h app snd ha hs hl)
  clear h ha hs hl
  generalize (beg L app snd).1 = L2 at *
  generalize (beg L app snd).2 = x at *
  go_enter Try.func32, Try.ntmps32
  go_wp2_with fail
  refine (unhide K).mono ?_
  rintro e w1 ⟨rfl, s1⟩
  have S1 := hide s1
  clear s1 K c1 c2
  go_wp2
  go_ret2
  exact ⟨rfl, unhide S1⟩
set_option maxRecDepth 100000 in
set_option maxHeartbeats 4000000 in
theorem key1_any {b : Nat} {sv : Value} {mb : Nat} {L : List Tm} {w : World} (h : St w b sv mb L) (app snd : Int) (n : Nat) (ha : thr L.length app = true) (hs : i64r snd) (hl : L.length + n + 3 ≤ 1048576) (p1 p2 p3 : Nat) (c1 : w.cell? ⟨p1, 0, none⟩ = some (.int .i64 app)) (c2 : w.cell? ⟨p2, 0, none⟩ = some (.int .i64 snd)) (c3 : w.heap[p3]? = some (.cells #[.int .i64 (n : Int)] 3 (0, 0))) :
    Calls Try.prog 24 #[.func (.func 19) #[.pointer (some ⟨b, 0, none⟩)] #[], .pointer (some ⟨p1, 0, none⟩), .pointer (some ⟨p2, 0, none⟩), .pointer (some ⟨p3, 0, none⟩)] w fun e w' => e = .returned (.tuple #[.int .i64 ((kyS (secs (beg L app snd) n)).2 : Nat), .int .i64 0]) ∧ ∃ sv', SStep w w' b sv sv' mb (kyS (secs (beg L app snd) n)).1 := by
  have K := hide (chfirst_any h app snd ha hs (by omega))
  have hg := beg_gd (snd := snd) ha (by omega)
  have hbl := beg_len L app snd
  have hst := hide h
  clear h ha hs
  generalize beg L app snd = p at *
  have HG : Hid (∀ i, i ≤ n → Gd (secs p i) ∧ (secs p i).1.length < 1048576) := fun i hi => ⟨secs_gd hg i (by omega), by have := secs_len p i; omega⟩
  have KD : Hid (∀ W l s c, Calls Try.prog 26 #[.int .i64 l, .int .i64 s, .int .i64 c] W fun e w' => e = .returned (.agg #[.int .u8 4, .int .i64 l, .int .i64 s, .int .i64 c]) ∧ Below W.heap.size W w') := fun W l s c => chderived_any W l s c
  have HN : Hid (∀ i, i ≤ n → ∀ W sv', SStep w W b sv sv' mb (secs p i).1 → Calls Try.prog 19 #[.pointer (some ⟨b, 0, none⟩), .agg #[.int .u8 4, .int .i64 10, .int .i64 ((secs p i).2 : Nat), .int .i64 0]] W fun e w' => e = .returned (.tuple #[.int .i64 ((secs p (i + 1)).2 : Nat), .int .i64 0]) ∧ ∃ sv2, SStep w w' b sv sv2 mb (secs p (i + 1)).1 ∧ Fr (foot b sv' mb) W w') := fun i hi W sv' S => by
    obtain ⟨g1, g2⟩ := unhide HG i hi
    exact put_kdf S 10 _ 0 (ok_nx g1 10 (by omega) (by omega)) (may_nx g1 10 (by omega)) g2
  have HKy : Hid (∀ W sv', SStep w W b sv sv' mb (secs p n).1 → Calls Try.prog 19 #[.pointer (some ⟨b, 0, none⟩), .agg #[.int .u8 4, .int .i64 11, .int .i64 ((secs p n).2 : Nat), .int .i64 0]] W fun e w' => e = .returned (.tuple #[.int .i64 ((kyS (secs p n)).2 : Nat), .int .i64 0]) ∧ ∃ sv2, SStep w w' b sv sv2 mb (kyS (secs p n)).1 ∧ Fr (foot b sv' mb) W w') := fun W sv' S => by
    obtain ⟨g1, g2⟩ := unhide HG n (Nat.le_refl _)
    exact put_kdf S 11 _ 0 (ok_nx g1 11 (by omega) (by omega)) (may_nx g1 11 (by omega)) g2
  obtain ⟨KL, hKL⟩ : ∃ KL, KL = (kyS (secs p n)).1 := ⟨_, rfl⟩
  obtain ⟨KN, hKN⟩ : ∃ KN : Nat, KN = (kyS (secs p n)).2 := ⟨_, rfl⟩
  rw [← hKL, ← hKN] at HKy ⊢
  have HE : Hid (secs p 0 = p) := rfl
  have hnI : (n : Int) ≤ 1048576 := by omega
  clear hg hbl hl HG hKL hKN
  go_enter Try.func24, Try.ntmps24
  go_wp2_with fail
  refine (unhide K).mono ?_
  rintro e w1 ⟨rfl, sv1, s1⟩
  have c4 := blk_cell (i := 0) (kept_fr c3 (unhide hst) s1.fr (by decide) (by decide)) rfl
  have S1 : Hid (SStep w w1 b sv sv1 mb (secs p 0).1) := s1
  have e0 : p.2 = (secs p 0).2 := rfl
  rw [e0]
  clear s1 K c1 c2 c3 hst e0 HE
  go_wp2_with fail
  clear c4
  go_loopw [7, 8, 17] (fun xv ev iv wr => ∃ (i : Nat), xv = .int .i64 ((secs p i).2 : Nat) ∧ ev = .int .i64 0 ∧ iv = .int .i64 (i : Int) ∧ i ≤ n ∧ Hid (∃ sv', SStep w wr b sv sv' mb (secs p i).1)) (fun _ _ iv _ => (n - intOf iv).toNat)
  case atStart => exact ⟨0, rfl, rfl, rfl, by omega, ⟨sv1, unhide S1⟩⟩
  case round =>
    clear S1
    obtain ⟨i, rfl, rfl, rfl, hi, hS⟩ := hrel
    by_cases hlt : i < n
    · have q1 : (i : Int) < (n : Int) := by omega
      have q0 : (0 : Int) ≤ (i : Int) := by omega
      have KN1 := hide (unhide HN i hi)
      obtain ⟨y, hy⟩ : ∃ y : Nat, y = (secs p (i + 1)).2 := ⟨_, rfl⟩
      rw [← hy] at KN1
      have HY := hide hy
      clear HN HKy hy
      generalize (secs p i).2 = x at *
      go_wp2_with fail
      refine (unhide KD _ _ _ _).mono ?_
      rintro e w2 ⟨rfl, b2⟩
      have S2 : Hid (∃ sv', SStep w w2 b sv sv' mb (secs p i).1) := by obtain ⟨sv', s⟩ := unhide hS; exact ⟨sv', s.after b2⟩
      have K2 : Hid (Calls Try.prog 19 #[.pointer (some ⟨b, 0, none⟩), .agg #[.int .u8 4, .int .i64 10, .int .i64 (x : Nat), .int .i64 0]] w2 fun e w' => e = .returned (.tuple #[.int .i64 (y : Nat), .int .i64 0]) ∧ ∃ sv2, SStep w w' b sv sv2 mb (secs p (i + 1)).1) := by
        obtain ⟨sv', s⟩ := unhide S2
        refine (unhide KN1 _ _ s).mono ?_
        rintro e w' ⟨h1, sv2, h2, -⟩
        exact ⟨h1, sv2, h2⟩
      clear b2 hS KN1 S2 KD
      go_wp2_with fail
      refine (unhide K2).mono ?_
      rintro e w3 ⟨rfl, s3⟩
      have S3 := hide s3
      clear s3 K2
      go_wp2_with fail
      go_roundw
      case rel => exact ⟨i + 1, by rw [unhide HY], rfl, by go_num, by omega, S3⟩
      case measure => simp only [intOf]; omega
    · obtain rfl : i = n := by omega
      obtain ⟨sv2, s2⟩ := unhide hS
      have S2 := hide s2
      clear hS s2 HN hlt hi
      generalize (secs p i).2 = x at *
      go_wp2_with fail
      refine (unhide KD _ _ _ _).mono ?_
      rintro e w2 ⟨rfl, b2⟩
      have K2 := hide (unhide HKy w2 sv2 ((unhide S2).after b2))
      clear b2 S2 KD HKy
      go_wp2_with fail
      refine (unhide K2).mono ?_
      rintro e w3 ⟨rfl, sv3, s3, -⟩
      have S3 := hide s3
      clear s3 K2
      go_wp2
      go_ret2
      exact ⟨rfl, sv3, unhide S3⟩
end Go.Proofs.Ytkaioidneknmjaa.Tn
