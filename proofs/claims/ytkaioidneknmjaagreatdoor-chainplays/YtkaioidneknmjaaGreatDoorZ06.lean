/- Texts joined: ChA ChB ChM NDdMem. -/
import Derived.Test.YtkaioidneknmjaaGreatDoorZ05
import Derived.Test.YtkaioidneknmjaaGreatDoorZ02
import Derived.Test.YtkaioidneknmjaaGreatDoorNDdPure
/- Keys of messages, plainly; the contracts of chain.derived, chain.first and of the closures of Key and New. -/
namespace Go.Proofs.YtkaioidneknmjaaGreatDoor.Tn
open Go.RowKit Go.Maps

theorem may_dat11 (N : Nat) (z : Int) : may N ⟨2, z, 0, 0⟩ = true := by simp [may]
def i64r (z : Int) : Prop := -9223372036854775808 ≤ z ∧ z ≤ 9223372036854775807
theorem ok_dat11 {z : Int} (h : i64r z) : Tm.ok ⟨2, z, 0, 0⟩ := ⟨by simp, by simp, h.1, h.2, by simp, by simp, by simp, by simp⟩
/-- The secret of the next number; the first secret of a sender; that of a number; a number's key. -/
def nxS (p : List Tm × Nat) : List Tm × Nat := (mkL p.1 ⟨4, 10, (p.2 : Int), 0⟩, mkN p.1 ⟨4, 10, (p.2 : Int), 0⟩)
def kyS (p : List Tm × Nat) : List Tm × Nat := (mkL p.1 ⟨4, 11, (p.2 : Int), 0⟩, mkN p.1 ⟨4, 11, (p.2 : Int), 0⟩)
def beg (L : List Tm) (app snd : Int) : List Tm × Nat :=
  (mkL (mkL L ⟨2, snd, 0, 0⟩) ⟨4, 9, app, (mkN L ⟨2, snd, 0, 0⟩ : Nat)⟩, mkN (mkL L ⟨2, snd, 0, 0⟩) ⟨4, 9, app, (mkN L ⟨2, snd, 0, 0⟩ : Nat)⟩)
def secs (p : List Tm × Nat) : Nat → List Tm × Nat
  | 0 => p
  | n + 1 => nxS (secs p n)
/-- The number is one of a term. -/
def Gd (p : List Tm × Nat) : Prop := 1 ≤ p.2 ∧ p.2 ≤ p.1.length
theorem Gd.thr {p : List Tm × Nat} (h : Gd p) : thr p.1.length (p.2 : Int) = true := thr_iff.2 (by have := h.1; have := h.2; omega)
theorem gd_of {L : List Tm} {t : Tm} (hm : may L.length t = true) (hl : L.length < 1048576) : Gd (mkL L t, mkN L t) := by
  have := thr_iff.1 (mkN_thr hm hl).1
  exact ⟨by simp; omega, by simp; omega⟩
theorem may_nx {p : List Tm × Nat} (h : Gd p) (l : Int) (hl : 0 ≤ l) : may p.1.length ⟨4, l, (p.2 : Int), 0⟩ = true := may_kdf hl h.thr (Or.inl rfl)
theorem ok_nx {p : List Tm × Nat} (h : Gd p) (l : Int) (hl : 0 ≤ l ∧ l ≤ 100) (hL : p.1.length ≤ 1048576) : Tm.ok ⟨4, l, (p.2 : Int), 0⟩ := ok_kdf (by have := h.2; omega)
theorem nxS_gd {p : List Tm × Nat} (h : Gd p) (hl : p.1.length < 1048576) : Gd (nxS p) := gd_of (may_nx h 10 (by omega)) hl
theorem kyS_gd {p : List Tm × Nat} (h : Gd p) (hl : p.1.length < 1048576) : Gd (kyS p) := gd_of (may_nx h 11 (by omega)) hl
theorem nxS_len (p : List Tm × Nat) : (nxS p).1.length ≤ p.1.length + 1 ∧ p.1.length ≤ (nxS p).1.length := ⟨mkL_len _ _, mkL_le _ _⟩
theorem kyS_len (p : List Tm × Nat) : (kyS p).1.length ≤ p.1.length + 1 ∧ p.1.length ≤ (kyS p).1.length := ⟨mkL_len _ _, mkL_le _ _⟩
theorem secs_len (p : List Tm × Nat) : ∀ n, (secs p n).1.length ≤ p.1.length + n ∧ p.1.length ≤ (secs p n).1.length
  | 0 => ⟨Nat.le_refl _, Nat.le_refl _⟩
  | n + 1 => by have h := secs_len p n; have h2 := nxS_len (secs p n); exact ⟨by show (nxS _).1.length ≤ _; omega, by show _ ≤ (nxS _).1.length; omega⟩
theorem secs_gd {p : List Tm × Nat} (h : Gd p) : ∀ n, p.1.length + n ≤ 1048576 → Gd (secs p n)
  | 0, _ => h
  | n + 1, hl => nxS_gd (secs_gd h n (by omega)) (by have := secs_len p n; omega)
theorem beg_len (L : List Tm) (app snd : Int) : (beg L app snd).1.length ≤ L.length + 2 ∧ L.length ≤ (beg L app snd).1.length := by
  have h1 := mkL_len L ⟨2, snd, 0, 0⟩
  have h2 := mkL_le L ⟨2, snd, 0, 0⟩
  have h3 := mkL_len (mkL L ⟨2, snd, 0, 0⟩) ⟨4, 9, app, (mkN L ⟨2, snd, 0, 0⟩ : Nat)⟩
  have h4 := mkL_le (mkL L ⟨2, snd, 0, 0⟩) ⟨4, 9, app, (mkN L ⟨2, snd, 0, 0⟩ : Nat)⟩
  exact ⟨by show (mkL _ _).length ≤ _; omega, by show _ ≤ (mkL _ _).length; omega⟩
theorem beg_gd {L : List Tm} {app snd : Int} (ha : thr L.length app = true) (hl : L.length + 2 ≤ 1048576) : Gd (beg L app snd) := by
  have t1 := mkN_thr (may_dat11 L.length snd) (by omega)
  have l1 := mkL_len L ⟨2, snd, 0, 0⟩
  exact gd_of (may_kdf (by omega) (thr_mono ha (mkL_le _ _)) (Or.inr t1.1)) (by omega)
set_option maxRecDepth 100000 in
theorem chderived_any (w : World) (l s c : Int) :
    Calls Tryz.prog 142 #[.int .i64 l, .int .i64 s, .int .i64 c] w fun e w' => e = .returned (.agg #[.int .u8 4, .int .i64 l, .int .i64 s, .int .i64 c]) ∧ Below w.heap.size w w' := by
  go_enter Tryz.func142, Tryz.ntmps142
  go_wp2
  exact bodyPost_ret (v := .agg #[.int .u8 4, .int .i64 l, .int .i64 s, .int .i64 c]) (by simp [results, Tryz.results142, go_sem]) rfl ⟨rfl, bwA' _ _⟩
/-- Put makes a key of a secret. -/
theorem put_kdf {b : Nat} {sv : Value} {mb : Nat} {L : List Tm} {w : World} {w0 : World} {sv0 : Value} (S : SStep w0 w b sv0 sv mb L) (l s c : Int) (ho : Tm.ok ⟨4, l, s, c⟩) (hm : may L.length ⟨4, l, s, c⟩ = true) (hl : L.length < 1048576) :
    Calls Tryz.prog 18 #[.pointer (some ⟨b, 0, none⟩), .agg #[.int .u8 4, .int .i64 l, .int .i64 s, .int .i64 c]] w fun e w' => e = .returned (.tuple #[.int .i64 (mkN L ⟨4, l, s, c⟩ : Nat), .int .i64 0]) ∧ ∃ sv', SStep w0 w' b sv0 sv' mb (mkL L ⟨4, l, s, c⟩) ∧ Fr (foot b sv mb) w w' := by
  refine (make_ok S.st 4 l s c ho hm hl).mono ?_
  rintro e w' ⟨h1, sv2, h2⟩
  exact ⟨h1, sv2, S.trans h2, h2.fr⟩
set_option maxRecDepth 100000 in
set_option maxHeartbeats 2000000 in
theorem chfirst_any {b : Nat} {sv : Value} {mb : Nat} {L : List Tm} {w : World} (h : St w b sv mb L) (app snd : Int) (ha : thr L.length app = true) (hs : i64r snd) (hl : L.length + 2 ≤ 1048576) :
    Calls Tryz.prog 24 #[.func (.func 18) #[.pointer (some ⟨b, 0, none⟩)] #[], .int .i64 app, .int .i64 snd] w fun e w' => e = .returned (.tuple #[.int .i64 ((beg L app snd).2 : Nat), .int .i64 0]) ∧ ∃ sv', SStep w w' b sv sv' mb (beg L app snd).1 := by
  have har := thr_rng ha (by omega)
  have K1 := hide (make_ok h 2 snd 0 0 (ok_dat11 hs) (may_dat11 _ _) (by omega))
  obtain ⟨D, hD⟩ : ∃ D : Nat, D = mkN L ⟨2, snd, 0, 0⟩ := ⟨_, rfl⟩
  obtain ⟨L1, hL1⟩ : ∃ L1, L1 = mkL L ⟨2, snd, 0, 0⟩ := ⟨_, rfl⟩
  have t1 := mkN_thr (may_dat11 L.length snd) (by omega)
  rw [← hD, ← hL1] at K1 t1
  have l1 : L1.length ≤ L.length + 1 := by rw [hL1]; exact mkL_len _ _
  have l1' : L.length ≤ L1.length := by rw [hL1]; exact mkL_le _ _
  have m2 : may L1.length ⟨4, 9, app, (D : Nat)⟩ = true := may_kdf (by omega) (thr_mono ha l1') (Or.inr t1.1)
  have o2 : Tm.ok ⟨4, 9, app, (D : Nat)⟩ := ok_kdf (by have := thr_iff.1 t1.1; omega)
  obtain ⟨x, hx⟩ : ∃ x : Nat, x = (beg L app snd).2 := ⟨_, rfl⟩
  obtain ⟨L2, hL2⟩ : ∃ L2, L2 = (beg L app snd).1 := ⟨_, rfl⟩
  have e2 : mkN L1 ⟨4, 9, app, (D : Nat)⟩ = x := by rw [hx, hL1, hD]; rfl
  have e3 : mkL L1 ⟨4, 9, app, (D : Nat)⟩ = L2 := by rw [hL2, hL1, hD]; rfl
  rw [← hx, ← hL2]
  have HM : Hid (∀ W sv', SStep w W b sv sv' mb L1 → Calls Tryz.prog 18 #[.pointer (some ⟨b, 0, none⟩), .agg #[.int .u8 4, .int .i64 9, .int .i64 app, .int .i64 (D : Nat)]] W fun e w' => e = .returned (.tuple #[.int .i64 (x : Nat), .int .i64 0]) ∧ ∃ sv2, SStep w w' b sv sv2 mb L2 ∧ Fr (foot b sv' mb) W w') := fun W sv' hs => by
    have := put_kdf hs 9 app (D : Nat) o2 m2 (by omega)
    rw [e2, e3] at this
    exact this
  clear h ha hs hl har hD hL1 t1 l1 l1' m2 o2 hx hL2 e2 e3
  go_enter Tryz.func24, Tryz.ntmps24
  go_wp2_with fail
  refine (unhide K1).mono ?_
  rintro e w1 ⟨rfl, sv1, s1⟩
  have S1 := hide s1
  have KD := hide (chderived_any w1 9 app (D : Nat))
  clear s1 K1
  go_wp2_with fail
  refine (unhide KD).mono ?_
  rintro e w2 ⟨rfl, y⟩
  have S2 : Hid (SStep w w2 b sv sv1 mb L1) := (unhide S1).after y
  have K2 := hide (unhide HM w2 sv1 (unhide S2))
  clear y S1 KD HM
  go_wp2_with fail
  refine (unhide K2).mono ?_
  rintro e w3 ⟨rfl, sv3, s3, f3⟩
  have S3 := hide s3
  clear s3 f3 K2 S2
  go_wp2
  go_ret2
  exact ⟨rfl, sv3, unhide S3⟩
set_option maxRecDepth 100000 in
set_option maxHeartbeats 2000000 in
theorem new1_any {b : Nat} {sv : Value} {mb : Nat} {L : List Tm} {w : World} (h : St w b sv mb L) (app snd : Int) (ha : thr L.length app = true) (hs : i64r snd) (hl : L.length + 2 ≤ 1048576) (p1 p2 : Nat) (c1 : w.cell? ⟨p1, 0, none⟩ = some (.int .i64 app)) (c2 : w.cell? ⟨p2, 0, none⟩ = some (.int .i64 snd)) :
    Calls Tryz.prog 23 #[.func (.func 18) #[.pointer (some ⟨b, 0, none⟩)] #[], .pointer (some ⟨p1, 0, none⟩), .pointer (some ⟨p2, 0, none⟩)] w fun e w' => e = .returned (.tuple #[.int .i64 ((beg L app snd).2 : Nat), .int .i64 0]) ∧ ∃ sv', SStep w w' b sv sv' mb (beg L app snd).1 := by
  have K := hide (chfirst_any h app snd ha hs hl)
  clear h ha hs hl
  generalize (beg L app snd).1 = L2 at *
  generalize (beg L app snd).2 = x at *
  go_enter Tryz.func23, Tryz.ntmps23
  go_wp2_with fail
  refine (unhide K).mono ?_
  rintro e w1 ⟨rfl, s1⟩
  have S1 := hide s1
  clear s1 K c1 c2
  go_wp2
  go_ret2
  exact ⟨rfl, unhide S1⟩
set_option maxRecDepth 100000 in
set_option maxHeartbeats 4000000 in
theorem key1_any {b : Nat} {sv : Value} {mb : Nat} {L : List Tm} {w : World} (h : St w b sv mb L) (app snd : Int) (n : Nat) (ha : thr L.length app = true) (hs : i64r snd) (hl : L.length + n + 3 ≤ 1048576) (p1 p2 p3 : Nat) (c1 : w.cell? ⟨p1, 0, none⟩ = some (.int .i64 app)) (c2 : w.cell? ⟨p2, 0, none⟩ = some (.int .i64 snd)) (c3 : w.heap[p3]? = some (.cells #[.int .i64 (n : Int)] 3 (0, 0))) :
    Calls Tryz.prog 151 #[.func (.func 18) #[.pointer (some ⟨b, 0, none⟩)] #[], .pointer (some ⟨p1, 0, none⟩), .pointer (some ⟨p2, 0, none⟩), .pointer (some ⟨p3, 0, none⟩)] w fun e w' => e = .returned (.tuple #[.int .i64 ((kyS (secs (beg L app snd) n)).2 : Nat), .int .i64 0]) ∧ ∃ sv', SStep w w' b sv sv' mb (kyS (secs (beg L app snd) n)).1 := by
  have K := hide (chfirst_any h app snd ha hs (by omega))
  have hg := beg_gd (snd := snd) ha (by omega)
  have hbl := beg_len L app snd
  have hst := hide h
  clear h ha hs
  generalize beg L app snd = p at *
  have HG : Hid (∀ i, i ≤ n → Gd (secs p i) ∧ (secs p i).1.length < 1048576) := fun i hi => ⟨secs_gd hg i (by omega), by have := secs_len p i; omega⟩
  have KD : Hid (∀ W l s c, Calls Tryz.prog 142 #[.int .i64 l, .int .i64 s, .int .i64 c] W fun e w' => e = .returned (.agg #[.int .u8 4, .int .i64 l, .int .i64 s, .int .i64 c]) ∧ Below W.heap.size W w') := fun W l s c => chderived_any W l s c
  have HN : Hid (∀ i, i ≤ n → ∀ W sv', SStep w W b sv sv' mb (secs p i).1 → Calls Tryz.prog 18 #[.pointer (some ⟨b, 0, none⟩), .agg #[.int .u8 4, .int .i64 10, .int .i64 ((secs p i).2 : Nat), .int .i64 0]] W fun e w' => e = .returned (.tuple #[.int .i64 ((secs p (i + 1)).2 : Nat), .int .i64 0]) ∧ ∃ sv2, SStep w w' b sv sv2 mb (secs p (i + 1)).1 ∧ Fr (foot b sv' mb) W w') := fun i hi W sv' S => by
    obtain ⟨g1, g2⟩ := unhide HG i hi
    exact put_kdf S 10 _ 0 (ok_nx g1 10 (by omega) (by omega)) (may_nx g1 10 (by omega)) g2
  have HKy : Hid (∀ W sv', SStep w W b sv sv' mb (secs p n).1 → Calls Tryz.prog 18 #[.pointer (some ⟨b, 0, none⟩), .agg #[.int .u8 4, .int .i64 11, .int .i64 ((secs p n).2 : Nat), .int .i64 0]] W fun e w' => e = .returned (.tuple #[.int .i64 ((kyS (secs p n)).2 : Nat), .int .i64 0]) ∧ ∃ sv2, SStep w w' b sv sv2 mb (kyS (secs p n)).1 ∧ Fr (foot b sv' mb) W w') := fun W sv' S => by
    obtain ⟨g1, g2⟩ := unhide HG n (Nat.le_refl _)
    exact put_kdf S 11 _ 0 (ok_nx g1 11 (by omega) (by omega)) (may_nx g1 11 (by omega)) g2
  obtain ⟨KL, hKL⟩ : ∃ KL, KL = (kyS (secs p n)).1 := ⟨_, rfl⟩
  obtain ⟨KN, hKN⟩ : ∃ KN : Nat, KN = (kyS (secs p n)).2 := ⟨_, rfl⟩
  rw [← hKL, ← hKN] at HKy ⊢
  have HE : Hid (secs p 0 = p) := rfl
  have hnI : (n : Int) ≤ 1048576 := by omega
  clear hg hbl hl HG hKL hKN
  go_enter Tryz.func151, Tryz.ntmps151
  go_wp2_with fail
  refine (unhide K).mono ?_
  rintro e w1 ⟨rfl, sv1, s1⟩
  have c4 := blk_cell (i := 0) (kept_fr c3 (unhide hst) s1.fr (by decide) (by decide)) rfl
  have S1 : Hid (SStep w w1 b sv sv1 mb (secs p 0).1) := s1
  have e0 : p.2 = (secs p 0).2 := rfl
  rw [e0]
  clear s1 K c1 c2 c3 hst e0 HE
  go_wp2_with fail
  clear c4
  go_loopw [7, 8, 17] (fun xv ev iv wr => ∃ (i : Nat), xv = .int .i64 ((secs p i).2 : Nat) ∧ ev = .int .i64 0 ∧ iv = .int .i64 (i : Int) ∧ i ≤ n ∧ Hid (∃ sv', SStep w wr b sv sv' mb (secs p i).1)) (fun _ _ iv _ => (n - intOf iv).toNat)
  case atStart => exact ⟨0, rfl, rfl, rfl, by omega, ⟨sv1, unhide S1⟩⟩
  case round =>
    clear S1
    obtain ⟨i, rfl, rfl, rfl, hi, hS⟩ := hrel
    by_cases hlt : i < n
    · have q1 : (i : Int) < (n : Int) := by omega
      have q0 : (0 : Int) ≤ (i : Int) := by omega
      have KN1 := hide (unhide HN i hi)
      obtain ⟨y, hy⟩ : ∃ y : Nat, y = (secs p (i + 1)).2 := ⟨_, rfl⟩
      rw [← hy] at KN1
      have HY := hide hy
      clear HN HKy hy
      generalize (secs p i).2 = x at *
      go_wp2_with fail
      refine (unhide KD _ _ _ _).mono ?_
      rintro e w2 ⟨rfl, b2⟩
      have S2 : Hid (∃ sv', SStep w w2 b sv sv' mb (secs p i).1) := by obtain ⟨sv', s⟩ := unhide hS; exact ⟨sv', s.after b2⟩
      have K2 : Hid (Calls Tryz.prog 18 #[.pointer (some ⟨b, 0, none⟩), .agg #[.int .u8 4, .int .i64 10, .int .i64 (x : Nat), .int .i64 0]] w2 fun e w' => e = .returned (.tuple #[.int .i64 (y : Nat), .int .i64 0]) ∧ ∃ sv2, SStep w w' b sv sv2 mb (secs p (i + 1)).1) := by
        obtain ⟨sv', s⟩ := unhide S2
        refine (unhide KN1 _ _ s).mono ?_
        rintro e w' ⟨h1, sv2, h2, -⟩
        exact ⟨h1, sv2, h2⟩
      clear b2 hS KN1 S2 KD
      go_wp2_with fail
      refine (unhide K2).mono ?_
      rintro e w3 ⟨rfl, s3⟩
      have S3 := hide s3
      clear s3 K2
      go_wp2_with fail
      go_roundw
      case rel => exact ⟨i + 1, by rw [unhide HY], rfl, by go_num, by omega, S3⟩
      case measure => simp only [intOf]; omega
    · obtain rfl : i = n := by omega
      obtain ⟨sv2, s2⟩ := unhide hS
      have S2 := hide s2
      clear hS s2 HN hlt hi
      generalize (secs p i).2 = x at *
      go_wp2_with fail
      refine (unhide KD _ _ _ _).mono ?_
      rintro e w2 ⟨rfl, b2⟩
      have K2 := hide (unhide HKy w2 sv2 ((unhide S2).after b2))
      clear b2 S2 KD HKy
      go_wp2_with fail
      refine (unhide K2).mono ?_
      rintro e w3 ⟨rfl, sv3, s3, -⟩
      have S3 := hide s3
      clear s3 K2
      go_wp2
      go_ret2
      exact ⟨rfl, sv3, unhide S3⟩
end Go.Proofs.YtkaioidneknmjaaGreatDoor.Tn

/- The contracts of AllOrNone of a number, chain.Key and chain.New. -/
namespace Go.Proofs.YtkaioidneknmjaaGreatDoor.Tn
open Go.RowKit Go.Maps

theorem blk2c (w : World) (o1 o2 : Obj) : ((w.alloc o1).alloc o2).heap[w.heap.size]? = some o1 ∧ ((w.alloc o1).alloc o2).heap[w.heap.size + 1]? = some o2 ∧ Below w.heap.size w ((w.alloc o1).alloc o2) := by
  have h1 := heap_alloc_new w o1
  have h2 := heap_alloc_new (w.alloc o1) o2
  simp only [heap_size_alloc] at h1 h2
  exact ⟨blk_before h1, h2, (bwA' _ _).alloc (by simp) _⟩
def keyE (L : List Tm) (app n : Int) : Int := if (thr L.length app && decide (0 ≤ n)) = true then (if 65536 < n then 3 else 0) else 1
def keyP (L : List Tm) (app snd n : Int) : List Tm × Nat := if keyE L app n = 0 then kyS (secs (beg L app snd) n.toNat) else (L, 0)
def newCE (L : List Tm) (app : Int) : Int := if thr L.length app = true then 0 else 1
set_option maxRecDepth 100000 in
set_option maxHeartbeats 4000000 in
theorem aonI_key {b : Nat} {sv : Value} {mb : Nat} {L L' : List Tm} {w : World} (h : St w b sv mb L) (m : Int) (hm : 0 ≤ m) (hl : (L.length : Int) + m ≤ 1048575) (p1 p2 p3 : Nat) (r : Nat)
    (K : Calls Tryz.prog 151 #[.func (.func 18) #[.pointer (some ⟨b, 0, none⟩)] #[], .pointer (some ⟨p1, 0, none⟩), .pointer (some ⟨p2, 0, none⟩), .pointer (some ⟨p3, 0, none⟩)] w fun e w' => e = .returned (.tuple #[.int .i64 (r : Nat), .int .i64 0]) ∧ ∃ sv', SStep w w' b sv sv' mb L') :
    Calls Tryz.prog 22 #[.pointer (some ⟨b, 0, none⟩), .int .i64 m, .func (.func 151) #[] #[.pointer (some ⟨p1, 0, none⟩), .pointer (some ⟨p2, 0, none⟩), .pointer (some ⟨p3, 0, none⟩)]] w fun e w' => e = .returned (.tuple #[.int .i64 (r : Nat), .int .i64 0]) ∧ ∃ sv', SStep w w' b sv sv' mb L' := by
  have KL := hide (len_any b sv mb L w h)
  have KF := hide K
  obtain ⟨N, hN⟩ : ∃ N : Int, N = (L.length : Int) := ⟨_, rfl⟩
  rw [← hN] at KL
  obtain ⟨R, hR⟩ : ∃ R : Int, R = 1048576 - N := ⟨_, rfl⟩
  have r0 : (1048576 : Int) - N = R := hR.symm
  have r1 : IntKind.i64.wrap R = R := by rw [IntKind.wrap_i64]; omega
  have r2 : 0 < R := by omega
  have r3 : decide (R < m) = false := decide_eq_false (by omega)
  have r4 : m ≤ R := by omega
  clear h hl hN hR K hm
  go_enter Tryz.func22, Tryz.ntmps22
  go_wp2_with fail
  refine (unhide KL).mono ?_
  rintro e w0 ⟨rfl, rfl⟩
  clear KL
  go_wp2_with fail
  refine (unhide KF).mono ?_
  rintro e w4 ⟨rfl, s4⟩
  have S4 := hide s4
  clear s4 KF r0 r1 r2 r3 r4
  go_wp2
  go_ret2
  exact ⟨rfl, unhide S4⟩
set_option maxRecDepth 100000 in
set_option maxHeartbeats 4000000 in
theorem aonI_new {b : Nat} {sv : Value} {mb : Nat} {L L' : List Tm} {w : World} (h : St w b sv mb L) (m : Int) (hm : 0 ≤ m) (hl : (L.length : Int) + m ≤ 1048575) (p1 p2 : Nat) (r : Nat)
    (K : Calls Tryz.prog 23 #[.func (.func 18) #[.pointer (some ⟨b, 0, none⟩)] #[], .pointer (some ⟨p1, 0, none⟩), .pointer (some ⟨p2, 0, none⟩)] w fun e w' => e = .returned (.tuple #[.int .i64 (r : Nat), .int .i64 0]) ∧ ∃ sv', SStep w w' b sv sv' mb L') :
    Calls Tryz.prog 22 #[.pointer (some ⟨b, 0, none⟩), .int .i64 m, .func (.func 23) #[] #[.pointer (some ⟨p1, 0, none⟩), .pointer (some ⟨p2, 0, none⟩)]] w fun e w' => e = .returned (.tuple #[.int .i64 (r : Nat), .int .i64 0]) ∧ ∃ sv', SStep w w' b sv sv' mb L' := by
  have KL := hide (len_any b sv mb L w h)
  have KF := hide K
  obtain ⟨N, hN⟩ : ∃ N : Int, N = (L.length : Int) := ⟨_, rfl⟩
  rw [← hN] at KL
  obtain ⟨R, hR⟩ : ∃ R : Int, R = 1048576 - N := ⟨_, rfl⟩
  have r0 : (1048576 : Int) - N = R := hR.symm
  have r1 : IntKind.i64.wrap R = R := by rw [IntKind.wrap_i64]; omega
  have r2 : 0 < R := by omega
  have r3 : decide (R < m) = false := decide_eq_false (by omega)
  have r4 : m ≤ R := by omega
  clear h hl hN hR K hm
  go_enter Tryz.func22, Tryz.ntmps22
  go_wp2_with fail
  refine (unhide KL).mono ?_
  rintro e w0 ⟨rfl, rfl⟩
  clear KL
  go_wp2_with fail
  refine (unhide KF).mono ?_
  rintro e w4 ⟨rfl, s4⟩
  have S4 := hide s4
  clear s4 KF r0 r1 r2 r3 r4
  go_wp2
  go_ret2
  exact ⟨rfl, unhide S4⟩
set_option maxRecDepth 100000 in
set_option maxHeartbeats 4000000 in
theorem key_ok {b : Nat} {sv : Value} {mb : Nat} {L : List Tm} {w : World} (h : St w b sv mb L) (app snd : Int) (n : Nat) (ha : thr L.length app = true) (hs : i64r snd) (hn : n ≤ 65536) (hl : L.length + 65540 ≤ 1048575) :
    Calls Tryz.prog 31 #[.pointer (some ⟨b, 0, none⟩), .int .i64 app, .int .i64 snd, .int .i64 (n : Int)] w fun e w' => e = .returned (.tuple #[.int .i64 ((kyS (secs (beg L app snd) n)).2 : Nat), .int .i64 0]) ∧ ∃ sv', SStep w w' b sv sv' mb (kyS (secs (beg L app snd) n)).1 := by
  obtain ⟨w0, hw0⟩ : ∃ w0, w0 = ((w.alloc (.cells #[.int .i64 app] 3)).alloc (.cells #[.int .i64 snd] 3)).alloc (.cells #[.int .i64 (n : Int)] 3) := ⟨_, rfl⟩
  obtain ⟨y0, y1, y2, x0⟩ := blk3 w (.cells #[.int .i64 app] 3) (.cells #[.int .i64 snd] 3) (.cells #[.int .i64 (n : Int)] 3)
  rw [← hw0] at y0 y1 y2 x0
  have HW := hide hw0
  have S0 : Hid (SStep w w0 b sv sv mb L) := SStep.same h x0
  have KMi := hide (hmissing_any (unhide S0).st)
  have KH := hide (hhas_any (unhide S0).st app)
  rw [ha] at KH
  have KA : Hid (∀ W, Below w0.heap.size w0 W → Calls Tryz.prog 22 #[.pointer (some ⟨b, 0, none⟩), .int .i64 ((n : Int) + 3), .func (.func 151) #[] #[.pointer (some ⟨w.heap.size, 0, none⟩), .pointer (some ⟨w.heap.size + 1, 0, none⟩), .pointer (some ⟨w.heap.size + 1 + 1, 0, none⟩)]] W fun e w' => e = .returned (.tuple #[.int .i64 ((kyS (secs (beg L app snd) n)).2 : Nat), .int .i64 0]) ∧ ∃ sv', SStep W w' b sv sv' mb (kyS (secs (beg L app snd) n)).1) := fun W hW =>
    aonI_key ((unhide S0).st.bw hW) ((n : Int) + 3) (by omega) (by omega) _ _ _ _ (key1_any ((unhide S0).st.bw hW) app snd n ha hs (by omega) _ _ _ (blk_cell (kept_blk y0 hW) rfl) (blk_cell (kept_blk y1 hW) rfl) (kept_blk y2 hW))
  have YY : Hid (∀ W, Below w0.heap.size w0 W → (W.cell? ⟨w.heap.size, 0, none⟩ = some (.int .i64 app) ∧ W.cell? ⟨w.heap.size + 1 + 1, 0, none⟩ = some (.int .i64 (n : Int))) ∧ SStep w W b sv sv mb L) := fun W hW => ⟨⟨blk_cell (kept_blk y0 hW) rfl, blk_cell (kept_blk y2 hW) rfl⟩, (unhide S0).after hW⟩
  have q1 : (n : Int) ≤ 65536 := by omega
  have q0 : (0 : Int) ≤ (n : Int) := by omega
  have z0 := (unhide YY w0 (Below.refl _ _)).1
  clear h ha hs hn hl hw0 y0 y1 y2 x0 S0
  generalize (kyS (secs (beg L app snd) n)).1 = L2 at *
  generalize (kyS (secs (beg L app snd) n)).2 = x at *
  go_enter Tryz.func31, Tryz.ntmps31
  go_upto_region 1 with fail
  rw [← unhide HW]
  clear HW
  go_wp2_with fail
  refine (unhide KMi).mono ?_
  rintro e w1 ⟨rfl, rfl⟩
  clear KMi
  go_wp2_with fail
  refine (unhide KH).mono ?_
  rintro e w2 ⟨rfl, b2⟩
  obtain ⟨⟨c0, c2⟩, s2⟩ := unhide YY _ b2
  have S2 := hide s2
  have K2 := hide (unhide KA _ b2)
  clear s2 KH z0 KA YY b2
  go_wp2_with fail
  refine (unhide K2).mono ?_
  rintro e w4 ⟨rfl, sv4, s4⟩
  have S4 := hide ((unhide S2).trans s4)
  clear s4 S2 K2 c0 c2
  go_wp2
  go_ret2
  exact ⟨rfl, sv4, unhide S4⟩
set_option maxRecDepth 100000 in
set_option maxHeartbeats 4000000 in
theorem key_err {b : Nat} {sv : Value} {mb : Nat} {L : List Tm} {w : World} (h : St w b sv mb L) (app snd n : Int) (hE : keyE L app n ≠ 0) :
    Calls Tryz.prog 31 #[.pointer (some ⟨b, 0, none⟩), .int .i64 app, .int .i64 snd, .int .i64 n] w fun e w' => e = .returned (.tuple #[.int .i64 0, .int .i64 (keyE L app n)]) ∧ Below w.heap.size w w' := by
  obtain ⟨w0, hw0⟩ : ∃ w0, w0 = ((w.alloc (.cells #[.int .i64 app] 3)).alloc (.cells #[.int .i64 snd] 3)).alloc (.cells #[.int .i64 n] 3) := ⟨_, rfl⟩
  obtain ⟨y0, y1, y2, x0⟩ := blk3 w (.cells #[.int .i64 app] 3) (.cells #[.int .i64 snd] 3) (.cells #[.int .i64 n] 3)
  rw [← hw0] at y0 y1 y2 x0
  have HW := hide hw0
  have S0 := hide (h.bw x0)
  have KMi := hide (hmissing_any (unhide S0))
  have KH := hide (hhas_any (unhide S0) app)
  have YY : Hid (∀ W, Below w0.heap.size w0 W → (W.cell? ⟨w.heap.size, 0, none⟩ = some (.int .i64 app) ∧ W.cell? ⟨w.heap.size + 1 + 1, 0, none⟩ = some (.int .i64 n)) ∧ Below w.heap.size w W) := fun W hW => ⟨⟨blk_cell (kept_blk y0 hW) rfl, blk_cell (kept_blk y2 hW) rfl⟩, bw_tr x0 hW⟩
  obtain ⟨E, hEE⟩ : ∃ E, E = keyE L app n := ⟨_, rfl⟩
  rw [← hEE] at hE ⊢
  unfold keyE at hEE
  generalize thr L.length app = r at *
  have z0 := (unhide YY w0 (Below.refl _ _)).1
  have HE := hide (And.intro hE hEE)
  clear h hw0 y0 y1 y2 x0 S0 hE hEE
  go_enter Tryz.func31, Tryz.ntmps31
  go_upto_region 1 with fail
  rw [← unhide HW]
  clear HW
  go_wp2_with fail
  refine (unhide KMi).mono ?_
  rintro e w1 ⟨rfl, rfl⟩
  clear KMi
  go_wp2_with fail
  refine (unhide KH).mono ?_
  rintro e w2 ⟨rfl, b2⟩
  obtain ⟨⟨c0, c2⟩, B2⟩ := unhide YY _ b2
  clear KH z0 YY b2
  cases r
  · obtain rfl : E = 1 := by have := (unhide HE).2; simpa using this
    clear HE
    go_wp2
    go_ret2
    exact ⟨rfl, B2⟩
  · by_cases hn : n < 0
    · have hn' : decide (n < 0) = true := decide_eq_true hn
      obtain rfl : E = 1 := by have := (unhide HE).2; rw [this, if_neg (by simp; omega)]
      clear HE
      go_wp2
      go_ret2
      exact ⟨rfl, B2⟩
    · have hn' : decide (n < 0) = false := decide_eq_false hn
      have h3 : E = 3 ∧ 65536 < n := by
        obtain ⟨h1, h2⟩ := unhide HE
        rw [if_pos (by simp; omega)] at h2
        by_cases q : 65536 < n
        · rw [if_pos q] at h2; exact ⟨h2, q⟩
        · rw [if_neg q] at h2; exact absurd h2 h1
      obtain ⟨rfl, hbig⟩ := h3
      clear HE
      go_wp2
      go_ret2
      exact ⟨rfl, B2⟩
set_option maxRecDepth 100000 in
theorem key_nil (app snd n : Int) (w : World) :
    Calls Tryz.prog 31 #[.pointer none, .int .i64 app, .int .i64 snd, .int .i64 n] w fun e w' => e = .returned (.tuple #[.int .i64 0, .int .i64 2]) ∧ Below w.heap.size w w' := by
  obtain ⟨w0, hw0⟩ : ∃ w0, w0 = ((w.alloc (.cells #[.int .i64 app] 3)).alloc (.cells #[.int .i64 snd] 3)).alloc (.cells #[.int .i64 n] 3) := ⟨_, rfl⟩
  obtain ⟨-, -, -, x0⟩ := blk3 w (.cells #[.int .i64 app] 3) (.cells #[.int .i64 snd] 3) (.cells #[.int .i64 n] 3)
  rw [← hw0] at x0
  have HW := hide hw0
  have K := hide (hmissing_nil w0)
  clear hw0
  go_enter Tryz.func31, Tryz.ntmps31
  go_upto_region 1 with fail
  rw [← unhide HW]
  clear HW
  go_wp2_with fail
  refine (unhide K).mono ?_
  rintro e w1 ⟨rfl, rfl⟩
  clear K
  go_wp2
  go_ret2
  exact ⟨rfl, x0⟩
theorem key_any {b : Nat} {sv : Value} {mb : Nat} {L : List Tm} {w : World} (h : St w b sv mb L) (app snd n : Int) (hs : i64r snd) (hl : L.length + 65540 ≤ 1048575) :
    Calls Tryz.prog 31 #[.pointer (some ⟨b, 0, none⟩), .int .i64 app, .int .i64 snd, .int .i64 n] w fun e w' => e = .returned (.tuple #[.int .i64 ((keyP L app snd n).2 : Nat), .int .i64 (keyE L app n)]) ∧ ∃ sv', SStep w w' b sv sv' mb (keyP L app snd n).1 := by
  by_cases hE : keyE L app n = 0
  · have hE' := hE
    unfold keyE at hE'
    split at hE'
    · next q =>
      simp only [Bool.and_eq_true, decide_eq_true_eq] at q
      split at hE'
      · cases hE'
      · next q2 =>
        obtain ⟨m, rfl⟩ : ∃ m : Nat, n = m := ⟨n.toNat, by omega⟩
        unfold keyP
        rw [if_pos hE, hE]
        exact key_ok h app snd m q.1 hs (by omega) hl
    · cases hE'
  · unfold keyP
    rw [if_neg hE]
    refine (key_err h app snd n hE).mono ?_
    rintro e w' ⟨h1, h2⟩
    exact ⟨h1, sv, SStep.same h h2⟩
end Go.Proofs.YtkaioidneknmjaaGreatDoor.Tn

/- A chain in memory: a map of numbers by numbers, the struct. No walk is in this text. -/
namespace Go.Proofs.YtkaioidneknmjaaGreatDoor.Tn
open Go.RowKit Go.Maps

/-! Keys that were left: by their numbers, rising. -/
abbrev Lfs := List (Nat × Nat)
def lkp (l : Lfs) (k : Int) : Option Nat := (l.find? fun p => decide ((p.1 : Int) = k)).map (·.2)
def rmv (l : Lfs) (k : Int) : Lfs := l.filter fun p => !decide ((p.1 : Int) = k)
theorem lkp_nil (k : Int) : lkp [] k = none := rfl
theorem lkp_cons (p : Nat × Nat) (l : Lfs) (k : Int) : lkp (p :: l) k = if (p.1 : Int) = k then some p.2 else lkp l k := by
  unfold lkp
  rw [List.find?_cons]
  by_cases h : (p.1 : Int) = k <;> simp [h]
theorem lkp_none {l : Lfs} {k : Int} (h : ∀ p ∈ l, (p.1 : Int) ≠ k) : lkp l k = none := by
  induction l with
  | nil => rfl
  | cons p l ih => rw [lkp_cons, if_neg (h p (by simp)), ih (fun q hq => h q (List.mem_cons_of_mem _ hq))]
theorem lkp_some {l : Lfs} {k : Int} {t : Nat} (h : lkp l k = some t) : ∃ p ∈ l, (p.1 : Int) = k ∧ p.2 = t := by
  induction l with
  | nil => cases h
  | cons p l ih =>
    rw [lkp_cons] at h
    split at h
    · next q => cases h; exact ⟨p, by simp, q, rfl⟩
    · obtain ⟨x, hx, e⟩ := ih h; exact ⟨x, List.mem_cons_of_mem _ hx, e⟩
theorem lkp_snoc (l : Lfs) (m t : Nat) (h : ∀ p ∈ l, p.1 < m) (k : Int) : lkp (l ++ [(m, t)]) k = if (m : Int) = k then some t else lkp l k := by
  induction l with
  | nil => rw [List.nil_append, lkp_cons, lkp_nil]
  | cons p l ih =>
    rw [List.cons_append, lkp_cons, lkp_cons, ih (fun q hq => h q (List.mem_cons_of_mem _ hq))]
    by_cases c : (p.1 : Int) = k
    · have := h p (by simp)
      rw [if_pos c, if_pos c, if_neg (by omega)]
    · rw [if_neg c, if_neg c]
theorem lkp_rmv (l : Lfs) (m k : Int) : lkp (rmv l m) k = if k = m then none else lkp l k := by
  induction l with
  | nil => simp [rmv, lkp]
  | cons p l ih =>
    unfold rmv at ih ⊢
    rw [List.filter_cons]
    by_cases c : (p.1 : Int) = m
    · simp only [c, decide_true, Bool.not_true, Bool.false_eq_true, if_false]
      rw [ih, lkp_cons]
      by_cases q : k = m
      · rw [if_pos q, if_pos q]
      · rw [if_neg q, if_neg q, if_neg (by omega)]
    · simp only [c, decide_false, Bool.not_false, if_true]
      rw [lkp_cons, ih, lkp_cons]
      by_cases q : k = m
      · subst q; rw [if_pos rfl, if_pos rfl, if_neg c]
      · rw [if_neg q, if_neg q]
/-- The numbers rise, and are below the next one. -/
structure Lf (nx : Nat) (l : Lfs) : Prop where
  up : l.Pairwise fun p q => p.1 < q.1
  lt : ∀ p ∈ l, p.1 < nx
theorem Lf.nil (nx : Nat) : Lf nx [] := ⟨List.Pairwise.nil, by simp⟩
theorem Lf.snoc {nx : Nat} {l : Lfs} (h : Lf nx l) (t : Nat) : Lf (nx + 1) (l ++ [(nx, t)]) := by
  refine ⟨List.pairwise_append.2 ⟨h.up, by simp, fun p hp q hq => ?_⟩, fun p hp => ?_⟩
  · simp at hq; subst hq; exact h.lt p hp
  · rcases List.mem_append.1 hp with c | c
    · have := h.lt p c; omega
    · simp at c; subst c; simp
theorem Lf.rmv {nx : Nat} {l : Lfs} (h : Lf nx l) (k : Int) : Lf nx (Tn.rmv l k) := ⟨h.up.filter _, fun p hp => h.lt p (List.mem_filter.1 hp).1⟩
theorem Lf.mono {nx nx' : Nat} {l : Lfs} (h : Lf nx l) (hn : nx ≤ nx') : Lf nx' l := ⟨h.up, fun p hp => by have := h.lt p hp; omega⟩
theorem Lf.rmv_len {nx : Nat} {l : Lfs} (h : Lf nx l) (k : Int) : (Tn.rmv l k).length + (if (lkp l k).isSome then 1 else 0) = l.length := by
  obtain ⟨up, -⟩ := h
  induction l with
  | nil => rfl
  | cons p l ih =>
    have h1 := (List.pairwise_cons.1 up).1
    have ih := ih (List.pairwise_cons.1 up).2
    unfold Tn.rmv at ih ⊢
    rw [List.filter_cons, lkp_cons]
    by_cases c : (p.1 : Int) = k
    · have e : lkp l k = none := lkp_none (fun q hq => by have := h1 q hq; omega)
      rw [e] at ih
      simp [c] at ih ⊢
      exact ih
    · simp only [c, decide_false, Bool.not_false, if_true, if_false, List.length_cons]
      omega
theorem lkp_of_mem {nx : Nat} {l : Lfs} (h : Lf nx l) {p : Nat × Nat} (hp : p ∈ l) : lkp l (p.1 : Int) = some p.2 := by
  obtain ⟨up, -⟩ := h
  induction l with
  | nil => cases hp
  | cons q l ih =>
    rw [lkp_cons]
    rcases List.mem_cons.1 hp with rfl | c
    · rw [if_pos rfl]
    · have := (List.pairwise_cons.1 up).1 p c
      rw [if_neg (by omega)]
      exact ih c (List.pairwise_cons.1 up).2

/-! A map of numbers. -/
def RI : Value → Option (DataW Unit × List MemPlace)
  | .int .i64 z => some (.lit (.int .i64 z), [])
  | _ => none
theorem RI_mk (z : Int) : RI (.int .i64 z) = some (.lit (.int .i64 z), []) := rfl
theorem RI_inv {v : Value} {z : DataW Unit × List MemPlace} (h : RI v = some z) : ∃ x, v = .int .i64 x ∧ z = (.lit (.int .i64 x), []) := by
  match v, h with
  | .int .i64 x, h => cases h; exact ⟨x, rfl, rfl⟩
theorem lawI : Keyed Tryz.prog 3 := int_keyed Tryz.underlying3
theorem keyI {k : Int} (h : i64r k) : keyOf Tryz.prog 3 (.int .i64 k) = some (.int .i64 k) := keyOf_int_mk Tryz.underlying3 (wf_i64 h.1 h.2)
structure ID (D : DataW Unit) (l : Lfs) : Prop where
  cnt : size D = l.length
  key : ∀ kl, Maps.has D kl = true → ∃ k : Int, kl = .int .i64 k
  has : ∀ k : Int, Maps.has D (.int .i64 k) = (lkp l k).isSome
  at_ : ∀ (k : Int) (t : Nat), lkp l k = some t → ∀ z, D.atKey (.int .i64 k) z = .lit (.int .i64 (t : Int))
def IMap (w : World) (b : Nat) (l : Lfs) : Prop := ∃ D : DataW Unit, w.ownsMap Tryz.prog 3 RI b l.length D ∧ ID D l
theorem IMap.made (w : World) : IMap (w.alloc (.map #[] 0)) w.heap.size [] := ⟨.map [], World.ownsMap_made w _ _ _, ⟨rfl, fun kl h => by simp [Maps.has] at h, fun k => by simp [Maps.has, lkp_nil], fun k t h => by simp [lkp_nil] at h⟩⟩
theorem IMap.lt {w : World} {b : Nat} {l : Lfs} (h : IMap w b l) : b < w.heap.size := by obtain ⟨D, h1, _⟩ := h; exact h1.lt
theorem IMap.block {w : World} {b : Nat} {l : Lfs} (h : IMap w b l) : ∃ es clock, w.heap[b]? = some (.map es clock) := by obtain ⟨D, ⟨es, clock, h1, _⟩, _⟩ := h; exact ⟨es, clock, h1⟩
theorem IMap.keep {w w' : World} {b : Nat} {l : Lfs} (h : IMap w b l) (hb : w'.heap[b]? = w.heap[b]?) : IMap w' b l := by
  obtain ⟨D, ⟨es, clock, h1, h2⟩, h3⟩ := h
  exact ⟨D, ⟨es, clock, by rw [hb]; exact h1, h2⟩, h3⟩
theorem lit_neI {a b : Int} (h : a ≠ b) : (Lit.int .i64 a) ≠ .int .i64 b := by intro c; simp only [Lit.int.injEq, true_and] at c; exact h c
theorem own_boundI {w : World} {b n m : Nat} {D : DataW Unit} (h : w.ownsMap Tryz.prog 3 RI b n D) (hs : size D ≤ m) : w.ownsMap Tryz.prog 3 RI b m D := by
  obtain ⟨es, clock, h1, h2, h3, rfl⟩ := h
  refine ⟨es, clock, h1, h2, ?_, rfl⟩
  simpa [size, length_sorted] using hs
set_option maxRecDepth 100000 in
theorem IMap.store {w : World} {b : Nat} {l : Lfs} (B : IMap w b l) (hc : l.length ≤ 1000000) (m t : Nat) (hm : ∀ p ∈ l, p.1 < m) (hr : i64r (m : Int)) :
    ∃ w', (Instr.mapUpdate 37 (.map (some b)) (.int .i64 (m : Int)) (.int .i64 (t : Int))).run Tryz.prog w = .ok () w' ∧ IMap w' b (l ++ [(m, t)]) ∧ w.grownBy w' (some b) := by
  obtain ⟨D, h1, h2⟩ := B
  obtain ⟨w', r, h3, h4⟩ := h1.update lawI Tryz.underlying37 (by unfold maxLen; omega) (keyI hr) (RI_mk (t : Int))
  have hT := h1.tidy lawI
  have hk : WideAt.IsKeyLit (.int .i64 (m : Int)) := trivial
  have h0 : lkp l (m : Int) = none := lkp_none (fun p hp => by have := hm p hp; omega)
  have hd : ID (D.put (.int .i64 (m : Int)) (.lit (.int .i64 (t : Int)))) (l ++ [(m, t)]) := by
    refine ⟨?_, ?_, ?_, ?_⟩
    · rw [size_put hT, h2.has, h0, h2.cnt]; simp
    · intro kl hh
      by_cases c : kl = .int .i64 (m : Int)
      · exact ⟨m, c⟩
      · rw [has_put_other c] at hh; exact h2.key kl hh
    · intro k
      rw [lkp_snoc l m t hm]
      by_cases c : (m : Int) = k
      · subst c; rw [has_put_same hT.isMap hk]; simp
      · rw [has_put_other (lit_neI (fun q => c q.symm)), h2.has, if_neg c]
    · intro k t' ht z
      rw [lkp_snoc l m t hm] at ht
      by_cases c : (m : Int) = k
      · subst c
        simp only [if_true, Option.some.injEq] at ht
        subst ht
        rw [atKey_put_same hT.isMap hk]
      · rw [if_neg c] at ht
        rw [atKey_put_other (lit_neI (fun q => c q.symm))]
        exact h2.at_ k t' ht z
  exact ⟨w', r, ⟨_, own_boundI h3 (by rw [hd.cnt]; exact Nat.le_refl _), hd⟩, h4⟩
set_option maxRecDepth 100000 in
theorem IMap.drop {w : World} {b nx : Nat} {l : Lfs} (B : IMap w b l) (hl : Lf nx l) (k : Int) (hr : i64r k) (ty : TypeId) :
    ∃ w', (Builtin.delete_ #[37, 3] ty #[.map (some b), .int .i64 k]).run Tryz.prog w = .ok (.tuple #[]) w' ∧ IMap w' b (rmv l k) ∧ w.grownBy w' (some b) := by
  obtain ⟨D, h1, h2⟩ := B
  obtain ⟨w', r, h3, h4⟩ := h1.drop lawI Tryz.underlying37 (keyI hr) ty
  have hd : ID (D.del (.int .i64 k)) (rmv l k) := by
    refine ⟨?_, ?_, ?_, ?_⟩
    · have e := size_del (k := .int .i64 k) (h1.tidy lawI)
      rw [h2.has, h2.cnt] at e
      have := hl.rmv_len k
      omega
    · intro kl hh
      by_cases c : kl = .int .i64 k
      · exact ⟨k, c⟩
      · rw [has_del_other c] at hh; exact h2.key kl hh
    · intro j
      rw [lkp_rmv]
      by_cases c : j = k
      · subst c; rw [has_del_same, if_pos rfl]; rfl
      · rw [has_del_other (lit_neI c), h2.has, if_neg c]
    · intro j t ht z
      rw [lkp_rmv] at ht
      by_cases c : j = k
      · rw [if_pos c] at ht; cases ht
      · rw [if_neg c] at ht
        rw [atKey_del_other (lit_neI c)]
        exact h2.at_ j t ht z
  exact ⟨w', r, ⟨_, own_boundI h3 (by rw [hd.cnt]; exact Nat.le_refl _), hd⟩, h4.grown⟩
def lkV (l : Lfs) (k : Int) : Int := match lkp l k with
  | some t => (t : Int)
  | none => 0
set_option maxRecDepth 100000 in
theorem IMap.lookOk {w : World} {b : Nat} {l : Lfs} (B : IMap w b l) {k : Int} (hr : i64r k) :
    (Instr.lookup 37 (.map (some b)) (.int .i64 k) true).run Tryz.prog w = .ok (.tuple #[.int .i64 (lkV l k), .bool (lkp l k).isSome]) w := by
  obtain ⟨D, h1, h2⟩ := B
  obtain ⟨v, ps, r, hv⟩ := h1.look_ok lawI Tryz.underlying37 (zeroInt w) (RI_mk 0) (keyI hr)
  obtain ⟨x, rfl, hz⟩ := RI_inv hv
  rw [r, h2.has]
  simp only [Prod.mk.injEq] at hz
  unfold lkV
  cases e : lkp l k with
  | none =>
    rw [atKey_of_not_has (by rw [h2.has, e]; rfl)] at hz
    simp only [DataW.lit.injEq, Lit.int.injEq, true_and] at hz
    rw [← hz.1]
  | some t =>
    rw [h2.at_ k t e] at hz
    simp only [DataW.lit.injEq, Lit.int.injEq, true_and] at hz
    rw [← hz.1]
set_option maxRecDepth 100000 in
theorem IMap.look {w : World} {b : Nat} {l : Lfs} (B : IMap w b l) {k : Int} (hr : i64r k) :
    (Instr.lookup 37 (.map (some b)) (.int .i64 k) false).run Tryz.prog w = .ok (.int .i64 (lkV l k)) w := by
  obtain ⟨D, h1, h2⟩ := B
  obtain ⟨v, ps, r, hv⟩ := h1.lookup lawI Tryz.underlying37 (zeroInt w) (RI_mk 0) (keyI hr)
  obtain ⟨x, rfl, hz⟩ := RI_inv hv
  rw [r]
  simp only [Prod.mk.injEq] at hz
  unfold lkV
  cases e : lkp l k with
  | none =>
    rw [atKey_of_not_has (by rw [h2.has, e]; rfl)] at hz
    simp only [DataW.lit.injEq, Lit.int.injEq, true_and] at hz
    rw [← hz.1]
  | some t =>
    rw [h2.at_ k t e] at hz
    simp only [DataW.lit.injEq, Lit.int.injEq, true_and] at hz
    rw [← hz.1]
theorem IMap.len {w : World} {b : Nat} {l : Lfs} (B : IMap w b l) (ty : TypeId) : (Builtin.len_ #[37] ty #[.map (some b)]).run Tryz.prog w = .ok (.int .i64 (l.length : Nat)) w := by
  obtain ⟨D, h1, h2⟩ := B
  rw [h1.len Tryz.underlying37 ty, h2.cnt]

/-! The struct. -/
def chC (b lm : Nat) (nx x : Nat) : Array Value := #[.pointer (some ⟨b, 0, none⟩), .map (some lm), .int .i64 (nx : Int), .int .i64 (x : Int)]
structure Cn (w : World) (c b lm : Nat) (l : Lfs) (nx x : Nat) : Prop where
  blk : w.heap[c]? = some (.cells (chC b lm nx x) 39 (0, 0))
  map : IMap w lm l
  lf : Lf nx l
theorem Cn.ne {w : World} {c b lm : Nat} {l : Lfs} {nx x : Nat} (h : Cn w c b lm l nx x) : c ≠ lm := by
  rintro rfl
  obtain ⟨es, cl, e⟩ := h.map.block
  rw [h.blk] at e; cases e
theorem Cn.keep {w w' : World} {c b lm : Nat} {l : Lfs} {nx x : Nat} (h : Cn w c b lm l nx x) (h1 : w'.heap[c]? = w.heap[c]?) (h2 : w'.heap[lm]? = w.heap[lm]?) : Cn w' c b lm l nx x := ⟨by rw [h1]; exact h.blk, h.map.keep h2, h.lf⟩
theorem Cn.bw {w w' : World} {c b lm : Nat} {l : Lfs} {nx x : Nat} (h : Cn w c b lm l nx x) (hb : Below w.heap.size w w') : Cn w' c b lm l nx x := h.keep (hb.block c (lt_of_blk h.blk)) (hb.block lm h.map.lt)
theorem Cn.cells {w : World} {c b lm : Nat} {l : Lfs} {nx x : Nat} (h : Cn w c b lm l nx x) : w.cell? ⟨c, 0, none⟩ = some (.pointer (some ⟨b, 0, none⟩)) ∧ w.cell? ⟨c, 1, none⟩ = some (.map (some lm)) ∧ w.cell? ⟨c, 2, none⟩ = some (.int .i64 (nx : Int)) ∧ w.cell? ⟨c, 3, none⟩ = some (.int .i64 (x : Int)) :=
  ⟨blk_cell h.blk rfl, blk_cell h.blk rfl, blk_cell h.blk rfl, blk_cell h.blk rfl⟩
end Go.Proofs.YtkaioidneknmjaaGreatDoor.Tn

/- What is known, in memory: the marks, the places and the links of package deduce. And resources that lie apart. No walk is in this text. -/
namespace Go.Proofs.YtkaioidneknmjaaGreatDoor.Tn
open Go.RowKit Go.Maps

/-! Rows of any kind. -/
theorem own_keep {B : Nat} {w w' : World} {e : TypeId} {c : Nat} {v : Value} {n : Nat} {xs : List Value} (h : w.ownsRow B e c v n xs) (hb : ∀ k, v.ownBlock = some k → w'.heap[k]? = w.heap[k]?) : w'.ownsRow B e c v n xs := by
  refine ⟨h.1, ?_⟩
  rcases h.2 with h2 | ⟨g, cap, cur, hv, h0, hg, r⟩
  · exact Or.inl h2
  · exact Or.inr ⟨g, cap, cur, hv, h0, by rw [hb g (by rw [hv]; rfl)]; exact hg, r⟩
theorem own_kind {B : Nat} {w : World} {e : TypeId} {c : Nat} {v : Value} {n : Nat} {xs : List Value} (h : w.ownsRow B e c v n xs) {k : Nat} (hk : v.ownBlock = some k) : ∃ cur, w.heap[k]? = some (.cells cur e (0, 0)) := by
  rcases h.2 with ⟨rfl, _⟩ | ⟨g, cap, cur, rfl, _, hg, _⟩
  · cases hk
  · simp [Value.ownBlock] at hk; subst hk; exact ⟨cur, hg⟩
theorem own_apart {B B' : Nat} {w : World} {e e' : TypeId} {c c' : Nat} {v v' : Value} {n n' : Nat} {xs xs' : List Value} (h : w.ownsRow B e c v n xs) (h' : w.ownsRow B' e' c' v' n' xs') (he : e ≠ e') {k : Nat} (hk : v.ownBlock = some k) : v'.ownBlock ≠ some k := by
  intro q
  obtain ⟨_, h1⟩ := own_kind h hk
  obtain ⟨_, h2⟩ := own_kind h' q
  rw [h1] at h2
  simp only [Option.some.injEq, Obj.cells.injEq] at h2
  exact he h2.2.1
theorem own_block_ne {B : Nat} {w : World} {e T : TypeId} {c : Nat} {v : Value} {n b : Nat} {xs : List Value} {cs : Array Value} {z : Nat × Nat} (h : w.ownsRow B e c v n xs) (hb : w.heap[b]? = some (.cells cs T z)) (he : e ≠ T) : v.ownBlock ≠ some b := by
  intro q
  obtain ⟨_, h1⟩ := own_kind h q
  rw [hb] at h1
  simp only [Option.some.injEq, Obj.cells.injEq] at h1
  exact he h1.2.1.symm
theorem own_cell {B : Nat} {w : World} {e : TypeId} {c : Nat} {v : Value} {n : Nat} {xs : List Value} (h : w.ownsRow B e c v n xs) {g : Nat} (hg : v.ownBlock = some g) {j : Nat} {u : Value} (hj : xs[j]? = some u) : w.cell? ⟨g, j, none⟩ = some u := by
  have := World.ownsRow.cells h hg j u hj
  cases j <;> simpa [Addr.add] using this
theorem own_open {B : Nat} {w : World} {e : TypeId} {c : Nat} {v : Value} {n : Nat} {xs : List Value} (h : w.ownsRow B e c v n xs) (hn : 0 < n) : ∃ g cap, v = .slice (some ⟨g, 0, none⟩) n cap ∧ g < w.heap.size ∧ n ≤ cap ∧ w.frozen? ⟨g, 0, none⟩ = false := by
  rcases h.2 with ⟨_, h2⟩ | ⟨g, cap, cur, hv, _, hg, h1, _⟩
  · omega
  · exact ⟨g, cap, hv, lt_of_blk hg, h1, by simp [World.frozen?, hg]⟩
theorem own_slice {B : Nat} {w : World} {e : TypeId} {c : Nat} {v : Value} {n : Nat} {xs : List Value} (h : w.ownsRow B e c v n xs) : ∃ a cap, v = .slice a n cap := by
  rcases h.2 with ⟨h1, h2⟩ | ⟨g, cap, cur, hv, _⟩
  · exact ⟨none, 0, by rw [h1, h2]⟩
  · exact ⟨_, cap, hv⟩
theorem own_set {B : Nat} {w : World} {e : TypeId} {c : Nat} {v : Value} {n : Nat} {xs : List Value} (h : w.ownsRow B e c v n xs) {g : Nat} (hg : v.ownBlock = some g) {j : Nat} (u : Value) : (w.setCell ⟨g, j, none⟩ u).ownsRow B e c v n (xs.set j u) := by
  have h1 := h.1
  refine ⟨by simpa using h1, ?_⟩
  rcases h.2 with ⟨rfl, _⟩ | ⟨g', cap, cur, rfl, hB, hb, q1, q2, q3, q4⟩
  · cases hg
  · simp [Value.ownBlock] at hg
    subst hg
    refine Or.inr ⟨g', cap, cur.setIfInBounds j u, rfl, hB, by simp [World.setCell, Array.getElem?_modify, hb], q1, q2, by simpa using q3, ?_⟩
    rw [Array.toList_setIfInBounds, ← q4, List.take_set]
theorem own_frozen {B : Nat} {w : World} {e : TypeId} {c : Nat} {v : Value} {n : Nat} {xs : List Value} (h : w.ownsRow B e c v n xs) {g : Nat} (hg : v.ownBlock = some g) (j : Nat) : w.frozen? ⟨g, j, none⟩ = false := by
  obtain ⟨cur, hb⟩ := own_kind h hg
  simp [World.frozen?, hb]

/-! What is known. -/
def lnC (p : Nat × Nat) : List Value := [.int .i64 (p.1 : Int), .int .i64 (p.2 : Int)]
def BRow (w : World) (v : Value) (F : List Bool) : Prop := w.ownsRow 0 4 1 v F.length (F.map .bool)
theorem BRow.cell {w : World} {v : Value} {F : List Bool} (h : BRow w v F) {g : Nat} (hg : v.ownBlock = some g) {m : Nat} (hm : m < F.length) : w.cell? ⟨g, m, none⟩ = some (.bool (onB F m)) :=
  own_cell h hg (by simp [onB, List.getD, List.getElem?_eq_getElem hm])
theorem BRow.set {w : World} {v : Value} {F : List Bool} (h : BRow w v F) {g : Nat} (hg : v.ownBlock = some g) {m : Nat} (x : Bool) : BRow (w.setCell ⟨g, m, none⟩ (.bool x)) v (F.set m x) := by
  have := own_set h hg (j := m) (.bool x)
  unfold BRow
  rw [List.length_set, List.map_set]
  exact this
theorem nrow_cell {B : Nat} {w : World} {v : Value} {l : List Nat} (h : NRow B w v l) {g : Nat} (hg : v.ownBlock = some g) {m : Nat} (hm : m < l.length) : w.cell? ⟨g, m, none⟩ = some (.int .i64 ((l.getD m 0 : Nat) : Int)) :=
  own_cell h hg (by simp [List.getD, List.getElem?_eq_getElem hm])
theorem nrow_set {B : Nat} {w : World} {v : Value} {l : List Nat} (h : NRow B w v l) {g : Nat} (hg : v.ownBlock = some g) {m : Nat} (x : Nat) : NRow B (w.setCell ⟨g, m, none⟩ (.int .i64 (x : Int))) v (l.set m x) := by
  have := own_set h hg (j := m) (.int .i64 (x : Int))
  unfold NRow
  rw [List.length_set, List.map_set]
  exact this
theorem lnC_len (l : List (Nat × Nat)) : (l.flatMap lnC).length = l.length * 2 := by
  induction l with
  | nil => rfl
  | cons t l ih => simp only [List.flatMap_cons, List.length_append, ih, List.length_cons]; simp [lnC]; omega
theorem lnC_get (l : List (Nat × Nat)) (i : Nat) (p : Nat × Nat) (h : l[i]? = some p) : (l.flatMap lnC)[i * 2]? = some (.int .i64 (p.1 : Int)) ∧ (l.flatMap lnC)[i * 2 + 1]? = some (.int .i64 (p.2 : Int)) := by
  induction l generalizing i with
  | nil => simp at h
  | cons u l ih =>
    cases i with
    | zero => simp at h; subst h; simp [lnC]
    | succ i =>
      have e : ∀ k, (i + 1) * 2 + k = i * 2 + k + 1 + 1 := by omega
      have := ih i (by simpa using h)
      have e0 := e 0
      simp only [Nat.add_zero] at e0
      simp only [List.flatMap_cons, lnC, List.cons_append, List.nil_append, e0, List.getElem?_cons_succ]
      exact this
def kfoot (kb : Nat) (fv tv lv : Value) : List Nat := kb :: (fv.ownBlock.toList ++ tv.ownBlock.toList ++ lv.ownBlock.toList)
theorem mem_kfoot {kb : Nat} {fv tv lv : Value} {x : Nat} : x ∈ kfoot kb fv tv lv ↔ x = kb ∨ fv.ownBlock = some x ∨ tv.ownBlock = some x ∨ lv.ownBlock = some x := by
  simp [kfoot, eq_comm]
/-- What a step leaves: changed are blocks of Z alone; those of Z' are of Z, or new. -/
structure Mv (w w' : World) (Z Z' : List Nat) : Prop where
  fr : Fr Z w w'
  place : ∀ x ∈ Z', x ∈ Z ∨ w.heap.size ≤ x
theorem Mv.refl (w : World) (Z : List Nat) : Mv w w Z Z := ⟨Fr.refl _ _, fun _ h => Or.inl h⟩
theorem Mv.same {w w' : World} (Z : List Nat) (h : Below w.heap.size w w') : Mv w w' Z Z := ⟨(Fr.ofBelow h).mono (fun _ _ c => by cases c), fun _ h => Or.inl h⟩
theorem Mv.trans {w w1 w2 : World} {Z Z1 Z2 : List Nat} (h : Mv w w1 Z Z1) (k : Mv w1 w2 Z1 Z2) : Mv w w2 Z Z2 := by
  refine ⟨h.fr.trans k.fr (fun _ _ c => c) (fun x hx c => ?_), fun x hx => ?_⟩
  · rcases h.place x c with c | c
    · exact c
    · omega
  · rcases k.place x hx with c | c
    · exact h.place x c
    · exact Or.inr (Nat.le_trans h.fr.size c)
theorem Mv.before {w w0 w1 : World} {Z Z1 : List Nat} (h : Below w.heap.size w w0) (k : Mv w0 w1 Z Z1) : Mv w w1 Z Z1 := (Mv.same Z h).trans k
theorem Mv.after {w w0 w1 : World} {Z Z1 : List Nat} (k : Mv w w0 Z Z1) (h : Below w0.heap.size w0 w1) : Mv w w1 Z Z1 := k.trans (Mv.same Z1 h)

/-! Resources that lie apart. -/
structure Res where
  Z : List Nat
  P : World → Prop
  keep : ∀ w w' S, P w → Fr S w w' → (∀ x ∈ Z, x ∉ S) → P w'
  lt : ∀ w, P w → ∀ x ∈ Z, x < w.heap.size
structure Env (w wr : World) (rs : List Res) : Prop where
  bel : Below w.heap.size w wr
  hold : ∀ r ∈ rs, r.P wr
  low : ∀ r ∈ rs, ∀ x ∈ r.Z, w.heap.size ≤ x
  dis : rs.Pairwise (fun r s => ∀ x ∈ r.Z, x ∉ s.Z)
theorem Env.nil (w : World) : Env w w [] := ⟨Below.refl _ _, by simp, by simp, List.Pairwise.nil⟩
theorem Env.new {w wr w1 : World} {rs : List Res} (h : Env w wr rs) (hb : Below wr.heap.size wr w1) : Env w w1 rs :=
  ⟨bw_tr h.bel hb, fun r hr => r.keep wr w1 [] (h.hold r hr) (Fr.ofBelow hb) (by simp), h.low, h.dis⟩
theorem Env.add {w wr w1 : World} {rs : List Res} (h : Env w wr rs) (r : Res) (hb : Below wr.heap.size wr w1) (hP : r.P w1) (hn : ∀ x ∈ r.Z, wr.heap.size ≤ x) : Env w w1 (r :: rs) := by
  have h1 := h.new hb
  refine ⟨h1.bel, ?_, ?_, ?_⟩
  · intro s hs
    rcases List.mem_cons.1 hs with rfl | hs
    · exact hP
    · exact h1.hold s hs
  · intro s hs x hx
    rcases List.mem_cons.1 hs with rfl | hs
    · have := hn x hx; have := h.bel.size; omega
    · exact h.low s hs x hx
  · refine List.Pairwise.cons (fun s hs x hx c => ?_) h.dis
    have := hn x hx
    have := s.lt wr (h.hold s hs) x c
    omega
theorem Env.step {w wr w1 : World} {r r' : Res} {rs : List Res} (h : Env w wr (r :: rs)) (hg : Mv wr w1 r.Z r'.Z) (hP : r'.P w1) : Env w w1 (r' :: rs) := by
  have hd := List.pairwise_cons.1 h.dis
  have hl : ∀ x ∈ r.Z, w.heap.size ≤ x := h.low r (by simp)
  refine ⟨Fr.toBase h.bel hg.fr hl, ?_, ?_, ?_⟩
  · intro s hs
    rcases List.mem_cons.1 hs with rfl | hs
    · exact hP
    · exact s.keep wr w1 r.Z (h.hold s (List.mem_cons_of_mem _ hs)) hg.fr (fun x hx c => hd.1 s hs x c hx)
  · intro s hs x hx
    rcases List.mem_cons.1 hs with rfl | hs
    · rcases hg.place x hx with c | c
      · exact hl x c
      · have := h.bel.size; omega
    · exact h.low s (List.mem_cons_of_mem _ hs) x hx
  · refine List.Pairwise.cons (fun s hs x hx c => ?_) hd.2
    rcases hg.place x hx with q | q
    · exact hd.1 s hs x q c
    · have := s.lt wr (h.hold s (List.mem_cons_of_mem _ hs)) x c; omega
theorem Env.swap {w wr : World} {r s : Res} {rs : List Res} (h : Env w wr (r :: s :: rs)) : Env w wr (s :: r :: rs) := by
  have hm : ∀ q, q ∈ s :: r :: rs → q ∈ r :: s :: rs := by intro q hq; simp at hq ⊢; rcases hq with h | h | h <;> simp [h]
  refine ⟨h.bel, fun q hq => h.hold q (hm q hq), fun q hq => h.low q (hm q hq), ?_⟩
  have h1 := List.pairwise_cons.1 h.dis
  have h2 := List.pairwise_cons.1 h1.2
  refine List.Pairwise.cons (fun q hq x hx c => ?_) (List.Pairwise.cons (fun q hq => h1.1 q (List.mem_cons_of_mem _ hq)) h2.2)
  rcases List.mem_cons.1 hq with rfl | hq
  · exact h1.1 s (by simp) x c hx
  · exact h2.1 q hq x hx c
theorem Env.rot3 {w wr : World} {r s t : Res} {rs : List Res} (h : Env w wr (r :: s :: t :: rs)) : Env w wr (t :: r :: s :: rs) := by
  have hm : ∀ q, q ∈ t :: r :: s :: rs → q ∈ r :: s :: t :: rs := by intro q hq; simp at hq ⊢; rcases hq with h | h | h | h <;> simp [h]
  refine ⟨h.bel, fun q hq => h.hold q (hm q hq), fun q hq => h.low q (hm q hq), ?_⟩
  have h1 := List.pairwise_cons.1 h.dis
  have h2 := List.pairwise_cons.1 h1.2
  have h3 := List.pairwise_cons.1 h2.2
  refine List.Pairwise.cons (fun q hq x hx c => ?_) (List.Pairwise.cons (fun q hq => ?_) (List.Pairwise.cons (fun q hq => h2.1 q (List.mem_cons_of_mem _ hq)) h3.2))
  · rcases List.mem_cons.1 hq with rfl | hq
    · exact h1.1 t (by simp) x c hx
    · rcases List.mem_cons.1 hq with rfl | hq
      · exact h2.1 t (by simp) x c hx
      · exact h3.1 q hq x hx c
  · rcases List.mem_cons.1 hq with rfl | hq
    · exact h1.1 q (by simp)
    · exact h1.1 q (List.mem_cons_of_mem _ (List.mem_cons_of_mem _ hq))
theorem Env.drop {w wr : World} {r : Res} {rs : List Res} (h : Env w wr (r :: rs)) : Env w wr rs :=
  ⟨h.bel, fun q hq => h.hold q (List.mem_cons_of_mem _ hq), fun q hq => h.low q (List.mem_cons_of_mem _ hq), (List.pairwise_cons.1 h.dis).2⟩
theorem Env.hd {w wr : World} {r : Res} {rs : List Res} (h : Env w wr (r :: rs)) : r.P wr := h.hold r (by simp)
theorem Env.sd {w wr : World} {r s : Res} {rs : List Res} (h : Env w wr (r :: s :: rs)) : s.P wr := h.hold s (by simp)
theorem Env.apart {w wr : World} {r s : Res} {rs : List Res} (h : Env w wr (r :: s :: rs)) : ∀ x ∈ r.Z, x ∉ s.Z := (List.pairwise_cons.1 h.dis).1 s (by simp)

/-- A store; what is known. -/
def resS (b : Nat) (sv : Value) (mb : Nat) (L : List Tm) : Res := ⟨foot b sv mb, fun w => St w b sv mb L, fun _ _ _ h hf hd => h.keep hf hd, fun _ h => h.lt⟩
theorem go_S {w w' : World} {b : Nat} {sv sv' : Value} {mb : Nat} {L' : List Tm} (h : SStep w w' b sv sv' mb L') : Mv w w' (foot b sv mb) (foot b sv' mb) :=
  ⟨h.fr, fun x hx => by
    rcases mem_foot.1 hx with c | c | c
    · exact Or.inl (mem_foot.2 (Or.inl c))
    · exact Or.inl (mem_foot.2 (Or.inr (Or.inl c)))
    · rcases h.place x c with c | c
      · exact Or.inl (mem_foot.2 (Or.inr (Or.inr c)))
      · exact Or.inr c⟩

end Go.Proofs.YtkaioidneknmjaaGreatDoor.Tn
