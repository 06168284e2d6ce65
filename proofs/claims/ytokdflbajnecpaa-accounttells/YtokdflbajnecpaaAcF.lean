/- Package account: Digest. -/
import Derived.Test.YtokdflbajnecpaaAcE
namespace Go.Proofs.Ytokdflbajnecpaa.Tn.Ax
open Go.RowKit Go.Maps

theorem may_hash {N : Nat} {a : Int} (ha : thr N a = true) : may N ⟨7, 0, a, 0⟩ = true := by simp [may, ha]
theorem ok_hash {a : Int} (h : 0 ≤ a ∧ a ≤ 1048577) : Tm.ok ⟨7, 0, a, 0⟩ := ⟨by simp, by simp, by simp, by simp, by simp; omega, by simp; omega, by simp, by simp⟩
def digR (L : List Tm) (adds : List Ad) (rem : List Int) : List Tm × Int × Int := ls (chP L adds rem).1 (cI (chP L adds rem).2)
def digO (L : List Tm) (adds : List Ad) (rem : List Int) : Bool := decide (adds.length ≤ 8) && decide (rem.length ≤ 8) && pubs L.length adds
def digE (L : List Tm) (adds : List Ad) (rem : List Int) : Int := if digO L adds rem = true then 0 else 1
def digP (L : List Tm) (adds : List Ad) (rem : List Int) : List Tm × Nat := if digO L adds rem = true then (mkL (digR L adds rem).1 ⟨7, 0, (digR L adds rem).2.1, 0⟩, mkN (digR L adds rem).1 ⟨7, 0, (digR L adds rem).2.1, 0⟩) else (L, 0)
theorem digO_iff {L : List Tm} {adds : List Ad} {rem : List Int} : digO L adds rem = true ↔ adds.length ≤ 8 ∧ rem.length ≤ 8 ∧ ∀ a ∈ adds, thr L.length a.p = true := by
  simp [digO, pubs, and_assoc]
theorem digR_ok {L : List Tm} {adds : List Ad} {rem : List Int} (h : digO L adds rem = true) (hl : L.length + 100 ≤ 1048576) : (digR L adds rem).2.2 = 0 ∧ thr (digR L adds rem).1.length (digR L adds rem).2.1 = true ∧ (digR L adds rem).1.length ≤ L.length + 60 ∧ L.length ≤ (digR L adds rem).1.length := by
  obtain ⟨h1, h2, h3⟩ := digO_iff.1 h
  have l4 := chP_len L adds rem
  have r4 := chP_rg rem h3 (by omega)
  have hne : (chP L adds rem).2 ≠ [] := fun c => by rw [c] at l4; simp at l4; omega
  obtain ⟨q1, q2, q3, q4⟩ := ls_ok r4 hne (by omega)
  exact ⟨q1, q2, by unfold digR; omega, by unfold digR; omega⟩
set_option maxRecDepth 100000 in
set_option maxHeartbeats 4000000 in
theorem dig1_ok {b : Nat} {sv : Value} {mb : Nat} {L : List Tm} {w : World} (h : St w b sv mb L) (va : Value) (adds : List Ad) (hva : ∀ V, Fr (foot b sv mb) w V → Ads V va adds) (vr : Value) (rem : List Int) (hvr : ∀ V, Fr (foot b sv mb) w V → NIs V vr rem) (hO : digO L adds rem = true) (hl : L.length + 100 ≤ 1048576) (p1 p2 : Nat) (c1 : w.cell? ⟨p1, 0, none⟩ = some va) (c2 : w.cell? ⟨p2, 0, none⟩ = some vr) :
    Calls Try.prog 34 #[.pointer (some ⟨b, 0, none⟩), .pointer (some ⟨p1, 0, none⟩), .pointer (some ⟨p2, 0, none⟩)] w fun e w' => e = .returned (.tuple #[.int .i64 ((digP L adds rem).2 : Nat), .int .i64 0]) ∧ ∃ sv', SStep w w' b sv sv' mb (digP L adds rem).1 := by
  obtain ⟨h1, h2, h3⟩ := digO_iff.1 hO
  obtain ⟨q1, q2, q3, q4⟩ := digR_ok hO hl
  have K1 := hide (change_ok h va adds hva vr rem hvr h1 h2 h3 hl)
  rw [show ls (chP L adds rem).1 (cI (chP L adds rem).2) = digR L adds rem from rfl, q1] at K1
  have ha := thr_rng q2 (by omega)
  have eP : digP L adds rem = (mkL (digR L adds rem).1 ⟨7, 0, (digR L adds rem).2.1, 0⟩, mkN (digR L adds rem).1 ⟨7, 0, (digR L adds rem).2.1, 0⟩) := by unfold digP; rw [if_pos hO]
  rw [eP]
  have K2 : Hid (∀ W sv', SStep w W b sv sv' mb (digR L adds rem).1 → Calls Try.prog 27 #[.pointer (some ⟨b, 0, none⟩), .agg #[.int .u8 7, .int .i64 0, .int .i64 (digR L adds rem).2.1, .int .i64 0]] W fun e w' => e = .returned (.tuple #[.int .i64 (mkN (digR L adds rem).1 ⟨7, 0, (digR L adds rem).2.1, 0⟩ : Nat), .int .i64 0]) ∧ ∃ sv', SStep w w' b sv sv' mb (mkL (digR L adds rem).1 ⟨7, 0, (digR L adds rem).2.1, 0⟩)) := fun W sv' S => by
    refine (make_ok S.st 7 0 _ 0 (ok_hash ha) (may_hash q2) (by omega)).mono ?_
    rintro e w' ⟨h1, sv2, s⟩
    exact ⟨h1, sv2, S.trans s⟩
  obtain ⟨a1, ca1, rfl⟩ := (hva w (Fr.refl _ _)).shape
  obtain ⟨a2, ca2, rfl⟩ := nis_shape (hvr w (Fr.refl _ _))
  clear h hva hvr hO hl h1 h2 h3 q1 q2 q3 q4 ha eP
  generalize mkN (digR L adds rem).1 ⟨7, 0, (digR L adds rem).2.1, 0⟩ = X at *
  generalize mkL (digR L adds rem).1 ⟨7, 0, (digR L adds rem).2.1, 0⟩ = L2 at *
  generalize (digR L adds rem).2.1 = Y at *
  generalize (digR L adds rem).1 = L1 at *
  generalize adds.length = N at *
  generalize rem.length = M at *
  go_enter Try.func34, Try.ntmps34
  go_wp2_with fail
  refine (unhide K1).mono ?_
  rintro e w1 ⟨rfl, sv1, s1⟩
  have Q2 := hide (unhide K2 _ _ s1)
  clear s1 K1 K2 c1 c2
  go_wp2_with fail
  refine (unhide Q2).mono ?_
  rintro e w2 ⟨rfl, s2⟩
  have S2 := hide s2
  clear s2 Q2
  go_wp2
  go_ret2
  exact ⟨rfl, unhide S2⟩
theorem blk2 (w : World) (o1 o2 : Obj) : ((w.alloc o1).alloc o2).heap[w.heap.size]? = some o1 ∧ ((w.alloc o1).alloc o2).heap[w.heap.size + 1]? = some o2 ∧ Below w.heap.size w ((w.alloc o1).alloc o2) := by
  have h1 := heap_alloc_new w o1
  have h2 := heap_alloc_new (w.alloc o1) o2
  simp only [heap_size_alloc] at h1 h2
  exact ⟨blk_before h1, h2, (bwA' _ _).alloc (by simp) _⟩
theorem fr_bel {S : List Nat} {w w0 V : World} (hb : Below w.heap.size w w0) (h : Fr S w0 V) : Fr S w V := ((Fr.ofBelow hb).mono (fun _ _ c => by cases c)).tr h
set_option maxRecDepth 100000 in
set_option maxHeartbeats 4000000 in
theorem digest_any {b : Nat} {sv : Value} {mb : Nat} {L : List Tm} {w : World} (h : St w b sv mb L) (va : Value) (adds : List Ad) (hva : ∀ V, Fr (foot b sv mb) w V → Ads V va adds) (vr : Value) (rem : List Int) (hvr : ∀ V, Fr (foot b sv mb) w V → NIs V vr rem) (hl : L.length + 200 ≤ 1048575) :
    Calls Try.prog 9 #[.pointer (some ⟨b, 0, none⟩), va, vr] w fun e w' => e = .returned (.tuple #[.int .i64 ((digP L adds rem).2 : Nat), .int .i64 (digE L adds rem)]) ∧ ∃ sv', SStep w w' b sv sv' mb (digP L adds rem).1 := by
  obtain ⟨a1, ca1, rfl⟩ := (hva w (Fr.refl _ _)).shape
  obtain ⟨a2, ca2, rfl⟩ := nis_shape (hvr w (Fr.refl _ _))
  have hlA : adds.length ≤ 140737488355328 := by obtain ⟨_, _, _, h, _⟩ := hva w (Fr.refl _ _); exact h
  have hlR : rem.length ≤ 140737488355328 := by obtain ⟨_, _, _, h, _⟩ := hvr w (Fr.refl _ _); exact h
  obtain ⟨N, hN⟩ : ∃ N, N = adds.length := ⟨_, rfl⟩
  obtain ⟨M, hM⟩ : ∃ M, M = rem.length := ⟨_, rfl⟩
  rw [← hN] at hva hlA ⊢
  rw [← hM] at hvr hlR ⊢
  obtain ⟨w0, hw0⟩ : ∃ w0, w0 = (w.alloc (.cells #[.slice a1 N ca1] 23)).alloc (.cells #[.slice a2 M ca2] 24) := ⟨_, rfl⟩
  obtain ⟨y0, y1, x0⟩ := blk2 w (.cells #[.slice a1 N ca1] 23) (.cells #[.slice a2 M ca2] 24)
  rw [← hw0] at y0 y1 x0
  have hNb : (N : Int) ≤ 140737488355328 := by omega
  have hMb : (M : Int) ≤ 140737488355328 := by omega
  have S0 := SStep.same h x0
  have KMi := hide (hmissing_any S0.st)
  have KH := hide (haspubs_any S0.st _ adds (hva w0 S0.fr))
  have YY : Hid (∀ W, Below w0.heap.size w0 W → (W.cell? ⟨w.heap.size, 0, none⟩ = some (.slice a1 N ca1) ∧ W.cell? ⟨w.heap.size + 1, 0, none⟩ = some (.slice a2 M ca2)) ∧ SStep w W b sv sv mb L) := fun W hW => ⟨⟨blk_cell (kept_blk y0 hW) rfl, blk_cell (kept_blk y1 hW) rfl⟩, SStep.same h (bw_tr x0 hW)⟩
  obtain ⟨z0, z1⟩ := (unhide YY w0 (Below.refl _ _)).1
  have KW : Hid (digO L adds rem = true → ∀ W, Below w0.heap.size w0 W → Calls Try.prog 33 #[.pointer (some ⟨b, 0, none⟩), .int .i64 60, .func (.func 34) #[] #[.pointer (some ⟨w.heap.size, 0, none⟩), .pointer (some ⟨w.heap.size + 1, 0, none⟩)]] W fun e w' => e = .returned (.tuple #[.int .i64 ((digP L adds rem).2 : Nat), .int .i64 0]) ∧ ∃ sv', SStep w w' b sv sv' mb (digP L adds rem).1) := fun hO W hW => by
    obtain ⟨-, S⟩ := unhide YY W hW
    refine (whole_dig S.st 60 (by omega) (by omega) w.heap.size (w.heap.size + 1) ((digP L adds rem).2 : Nat) (L' := (digP L adds rem).1) (fun V hV => ?_)).mono ?_
    · obtain ⟨⟨e1, e2⟩, S'⟩ := unhide YY V (bw_tr hW hV)
      refine (dig1_ok S'.st _ adds (fun U hU => hva U (fr_bel (bw_tr x0 (bw_tr hW hV)) hU)) _ rem (fun U hU => hvr U (fr_bel (bw_tr x0 (bw_tr hW hV)) hU)) hO (by omega) _ _ e1 e2).mono ?_
      rintro e w' ⟨h1, sv', s⟩
      exact ⟨h1, sv', (SStep.same S.st hV).trans s⟩
    · rintro e w' ⟨h1, sv', s⟩
      exact ⟨h1, sv', S.trans s⟩
  have HE : Hid (digO L adds rem = (decide (N ≤ 8) && decide (M ≤ 8) && pubs L.length adds)) := by rw [hN, hM]; rfl
  obtain ⟨E, hE⟩ : ∃ E, E = digE L adds rem := ⟨_, rfl⟩
  obtain ⟨P, hP⟩ : ∃ P, P = digP L adds rem := ⟨_, rfl⟩
  rw [← hP] at KW ⊢
  rw [← hE]
  unfold digE at hE
  unfold digP at hP
  have HEE := hide hE
  have HPP : Hid (digO L adds rem = false → P = (L, 0)) := fun c => by rw [hP, if_neg (by rw [c]; simp)]
  have HW := hide hw0
  clear h hva hvr hl hN hM hw0 y0 y1 x0 S0 hE hP hlA hlR
  generalize pubs L.length adds = r at *
  generalize digO L adds rem = O at *
  go_enter Try.func9, Try.ntmps9
  go_upto_region 1 with fail
  rw [← unhide HW]
  clear HW
  go_wp2_with fail
  refine (unhide KMi).mono ?_
  rintro e w1 ⟨rfl, rfl⟩
  clear KMi
  by_cases n8 : 8 < N
  · have n8' : (8 : Int) < (N : Int) := by omega
    obtain rfl : O = false := by rw [unhide HE]; simp; omega
    obtain rfl : E = 1 := by rw [unhide HEE]; simp
    obtain rfl := unhide HPP rfl
    have S := hide (unhide YY _ (Below.refl _ _)).2
    clear HE HEE HPP KW YY KH n8
    go_wp2
    go_ret2
    exact ⟨rfl, sv, unhide S⟩
  have n8' : decide ((8 : Int) < (N : Int)) = false := decide_eq_false (by omega)
  have n8'' : (N : Int) ≤ 8 := by omega
  by_cases m8 : 8 < M
  · have m8' : (8 : Int) < (M : Int) := by omega
    obtain rfl : O = false := by rw [unhide HE]; simp; omega
    obtain rfl : E = 1 := by rw [unhide HEE]; simp
    obtain rfl := unhide HPP rfl
    have S := hide (unhide YY _ (Below.refl _ _)).2
    clear HE HEE HPP KW YY KH m8 n8
    go_wp2
    go_ret2
    exact ⟨rfl, sv, unhide S⟩
  have m8' : decide ((8 : Int) < (M : Int)) = false := decide_eq_false (by omega)
  have m8'' : (M : Int) ≤ 8 := by omega
  have HO : Hid (O = r) := by unfold Hid; rw [unhide HE, decide_eq_true (by omega : N ≤ 8), decide_eq_true (by omega : M ≤ 8)]; rfl
  clear HE n8 m8
  go_wp2_with fail
  refine (unhide KH).mono ?_
  rintro e w2 ⟨rfl, b2⟩
  obtain ⟨⟨d0, d1⟩, s2⟩ := unhide YY _ b2
  cases r
  · obtain rfl : O = false := unhide HO
    obtain rfl : E = 1 := by rw [unhide HEE]; simp
    obtain rfl := unhide HPP rfl
    have S := hide s2
    clear HEE HPP KW YY KH HO s2 b2
    go_wp2
    go_ret2
    exact ⟨rfl, sv, unhide S⟩
  · obtain rfl : O = true := unhide HO
    obtain rfl : E = 0 := by rw [unhide HEE]; simp
    have K2 := hide (unhide KW rfl _ b2)
    clear HEE HPP KW YY KH HO s2 b2
    go_wp2_with fail
    refine (unhide K2).mono ?_
    rintro e w3 ⟨rfl, s3⟩
    have S3 := hide s3
    clear s3 K2 d0 d1 z0 z1
    go_wp2
    go_ret2
    exact ⟨rfl, unhide S3⟩
end Go.Proofs.Ytokdflbajnecpaa.Tn.Ax
