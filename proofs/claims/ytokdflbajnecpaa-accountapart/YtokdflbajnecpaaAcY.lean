/- What the laws of layer 13 share: lives; Beyond of two; both stores, and the copies of what was handed in. -/
import Derived.Test.YtokdflbajnecpaaZ09
import Derived.Test.YtokdflbajnecpaaZ10
import Derived.Test.YtokdflbajnecpaaZ08
import Derived.Test.YtokdflbajnecpaaZ11
namespace Go.Proofs.Ytokdflbajnecpaa.Tn.Ax
open Go.RowKit Go.Maps
def lvL (n : Int) : List Tm := [⟨1, n, 0, 0⟩]
theorem terms1 (w : World) (n : Int) : Tms (w.alloc (.cells #[.int .u8 1, .int .i64 n, .int .i64 0, .int .i64 0] 55)) (.slice (some ⟨w.heap.size, 0, none⟩) 1 1) (lvL n) := by
  refine ⟨_, 1, rfl, by simp [lvL], Or.inr ⟨w.heap.size, 0, rfl, fun i t hi => ?_⟩⟩
  unfold TAt World.cell?
  simp only [heap_alloc_new]
  match i, hi with
  | 0, hi => simp [lvL] at hi; subst hi; exact ⟨rfl, rfl, rfl, rfl⟩
  | i + 1, hi => simp [lvL] at hi
theorem lvL_fill (n : Int) (hn : 0 ≤ n) : fillL [] (lvL n) = lvL n := by
  simp [fillL, lvL, mkL, may, hn]
theorem lvL_ok {n : Int} (h0 : 0 ≤ n) (h1 : n ≤ 9223372036854775807) : ∀ t ∈ lvL n, t.ok := by
  intro t ht; simp [lvL] at ht; subst ht; constructor <;> simp <;> omega
theorem build13 (w : World) (n : Int) (h0 : 0 ≤ n) (h1 : n ≤ 9223372036854775807) : Calls Try.prog 6 #[.slice (some ⟨w.heap.size, 0, none⟩) 1 1] (w.alloc (.cells #[.int .u8 1, .int .i64 n, .int .i64 0, .int .i64 0] 55)) fun e w' => ∃ b sv mb rb rv, e = .returned (.tuple #[.pointer (some ⟨b, 0, none⟩), .pointer (some ⟨rb, 0, none⟩), .bool true]) ∧ Two w w' b sv mb rb rv (lvL n) (lvL n) := by
  have KB := build_any (w.alloc (.cells #[.int .u8 1, .int .i64 n, .int .i64 0, .int .i64 0] 55)) (some ⟨w.heap.size, 0, none⟩) 1 (lvL n) (terms1 w n) (lvL_ok h0 h1) (by simp [lvL])
  rw [lvL_fill n h0] at KB
  refine KB.mono ?_
  rintro e w' ⟨b, sv, mb, rb, rv, h2, tw⟩
  have hx : Below w.heap.size w (w.alloc (.cells #[.int .u8 1, .int .i64 n, .int .i64 0, .int .i64 0] 55)) := bwA' _ _
  exact ⟨b, sv, mb, rb, rv, h2, tw.st, tw.rs, fun x hq => Nat.le_trans hx.size (tw.low x hq), fun x hq => Nat.le_trans hx.size (tw.rlow x hq), tw.dis, bw_tr hx tw.bel⟩
theorem lv_facts : cardA (lvL 1) 1 = 2 ∧ cardB (lvL 1) 1 = 3 ∧ argE (lvL 1) 1 = 0 ∧ ownA (cardL (lvL 1) 1) 1 = 4 ∧ argE (cardL (lvL 1) 1) 1 = 0 ∧ (cardL (lvL 1) 1).length = 3 := by
  decide +kernel
set_option maxRecDepth 100000 in
set_option maxHeartbeats 4000000 in
theorem lives13 {w0 w : World} (hb0 : Below w0.heap.size w0 w) : Calls Try.prog 21 #[] w fun e w' => e = .returned (.bool true) ∧ Below w0.heap.size w0 w' := by
  have KB := hide (build13 w 1 (by omega) (by omega))
  have HX := hide hb0
  obtain ⟨f1, f2, f3, f4, f5, f6⟩ := lv_facts
  have KC : Hid (∀ W b sv mb rb rv, Two w W b sv mb rb rv (lvL 1) (lvL 1) → Calls Try.prog 13 #[.pointer (some ⟨b, 0, none⟩), .int .i64 1] W fun e W' => e = .returned (.tuple #[.int .i64 2, .int .i64 3, .int .i64 0]) ∧ ∃ sv', Two w W' b sv' mb rb rv (cardL (lvL 1) 1) (lvL 1)) := fun W b sv mb rb rv tw => by
    have := ccard_any tw.st 1 (by simp [lvL])
    rw [f1, f2, f3] at this
    refine Calls.mono this ?_
    rintro e W' ⟨h1, sv', s⟩
    exact ⟨h1, sv', tw.stepS s⟩
  have KO : Hid (∀ W b sv mb rb rv, Two w W b sv mb rb rv (cardL (lvL 1) 1) (lvL 1) → Calls Try.prog 15 #[.pointer (some ⟨b, 0, none⟩), .int .i64 1] W fun e W' => e = .returned (.tuple #[.int .i64 4, .int .i64 0]) ∧ Below w.heap.size w W') := fun W b sv mb rb rv tw => by
    have := own_any tw.st 1 (by omega)
    rw [f4, f5] at this
    refine Calls.mono this ?_
    rintro e W' ⟨h1, sv', s⟩
    exact ⟨h1, (tw.stepS s).bel⟩
  clear hb0 f1 f2 f3 f4 f5 f6
  generalize cardL (lvL 1) 1 = LC at *
  go_enter Try.func21, Try.ntmps21
  go_wp2_with fail
  refine (unhide KB).mono ?_
  rintro e w1 ⟨b, sv, mb, rb, rv, rfl, T1⟩
  have K1 := hide (unhide KC _ _ _ _ _ _ T1)
  clear T1 KB KC
  go_wp2_with fail
  refine (unhide K1).mono ?_
  rintro e w2 ⟨rfl, sv2, T2⟩
  have K2 := hide (unhide KO _ _ _ _ _ _ T2)
  clear T2 K1 KO
  go_wp2_with fail
  refine (unhide K2).mono ?_
  rintro e w3 ⟨rfl, b3⟩
  have B3 : Hid (Below w0.heap.size w0 w3) := bw_tr (unhide HX) b3
  clear b3 K2 HX
  go_wp2
  go_ret
  exact ⟨rfl, unhide B3⟩
theorem digP_rng {L : List Tm} (adds : List Ad) (rem : List Int) (hl : L.length + 200 ≤ 1048575) : (digP L adds rem).1.length ≤ L.length + 61 ∧ L.length ≤ (digP L adds rem).1.length ∧ (digP L adds rem).2 ≤ (digP L adds rem).1.length := by
  unfold digP
  split
  · next h =>
    obtain ⟨q1, q2, q3, q4⟩ := digR_ok h (by omega)
    have h1 := mkL_len (digR L adds rem).1 ⟨7, 0, (digR L adds rem).2.1, 0⟩
    have h2 := mkL_le (digR L adds rem).1 ⟨7, 0, (digR L adds rem).2.1, 0⟩
    have h3 := mkN_le (digR L adds rem).1 ⟨7, 0, (digR L adds rem).2.1, 0⟩
    exact ⟨by simp only; omega, by simp only; omega, h3⟩
  · exact ⟨by simp, by simp, by simp⟩
theorem seedP_rng {L : List Tm} (s g e d dg : Int) (hl : L.length + 200 ≤ 1048575) : (seedP L s g e d dg).1.length ≤ L.length + 8 ∧ L.length ≤ (seedP L s g e d dg).1.length ∧ (seedP L s g e d dg).2 ≤ (seedP L s g e d dg).1.length := by
  unfold seedP
  split
  · next h =>
    have hO : thr L.length s = true ∧ thr L.length dg = true := by simpa [seedO] using h
    obtain ⟨q1, q2, q3, q4⟩ := seedR_ok g e d hO.2 (by omega)
    have h1 := mkL_len (seedR L g e d dg).1 ⟨4, 12, s, (seedR L g e d dg).2.1⟩
    have h2 := mkL_le (seedR L g e d dg).1 ⟨4, 12, s, (seedR L g e d dg).2.1⟩
    have h3 := mkN_le (seedR L g e d dg).1 ⟨4, 12, s, (seedR L g e d dg).2.1⟩
    exact ⟨by simp only; omega, by simp only; omega, h3⟩
  · exact ⟨by simp, by simp, by simp⟩
theorem card_rng (L : List Tm) (s : Int) : (cardL L s).length ≤ L.length + 2 ∧ L.length ≤ (cardL L s).length ∧ cardA L s ≤ (cardL L s).length ∧ cardB L s ≤ (cardL L s).length := by
  unfold cardL cardA cardB
  split
  · have h1 : (cardK L s).1.length ≤ L.length + 1 := mkL_len _ _
    have h2 : L.length ≤ (cardK L s).1.length := mkL_le _ _
    have h3 : (cardK L s).2 ≤ (cardK L s).1.length := mkN_le _ _
    have k1 : (cardU L s).1.length ≤ (cardK L s).1.length + 1 := mkL_len _ _
    have k2 : (cardK L s).1.length ≤ (cardU L s).1.length := mkL_le _ _
    have k3 : (cardU L s).2 ≤ (cardU L s).1.length := mkN_le _ _
    omega
  · simp
theorem own_rng (L : List Tm) (s : Int) : (ownL L s).length ≤ L.length + 1 ∧ L.length ≤ (ownL L s).length ∧ ownA L s ≤ (ownL L s).length := by
  unfold ownL ownA
  split
  · exact ⟨mkL_len _ _, mkL_le _ _, mkN_le _ _⟩
  · simp
structure TT (w W : World) (b : Nat) (sv : Value) (mb rb : Nat) (rv : Value) (L R : List Tm) (g1 : Nat) (adds : List Ad) (g2 : Nat) (rem : List Int) : Prop where
  two : Two w W b sv mb rb rv L R
  ta : TwA W g1 adds
  ti : Twint W g2 rem
theorem TT.stepS {w W W' : World} {b : Nat} {sv sv1 : Value} {mb rb : Nat} {rv : Value} {L L1 R : List Tm} {g1 : Nat} {adds : List Ad} {g2 : Nat} {rem : List Int} (h : TT w W b sv mb rb rv L R g1 adds g2 rem) (s : SStep W W' b sv sv1 mb L1) : TT w W' b sv1 mb rb rv L1 R g1 adds g2 rem :=
  ⟨h.two.stepS s, kept_fr h.ta h.two.st s.fr (by decide) (by decide), kept_fr h.ti h.two.st s.fr (by decide) (by decide)⟩
end Go.Proofs.Ytokdflbajnecpaa.Tn.Ax
