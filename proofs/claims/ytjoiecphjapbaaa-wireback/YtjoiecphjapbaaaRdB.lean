/- The contract of takeNumber. -/
import Derived.Test.YtjoiecphjapbaaaRdA
namespace Go.Proofs.Ytjoiecphjapbaaa
open Go.RowKit

/-- What taking something leaves: o says what stands there, and the place behind it. -/
def Took (w : World) (b : Nat) (s : ByteArray) (zero : Value) (o : Option (Value × Nat)) (e : Ending) (w' : World) : Prop :=
  Fr [b] w w' ∧ match o with
    | some (v, j) => e = .returned (.tuple #[v, .int .i64 0]) ∧ RD w' b s j
    | none => e = .returned (.tuple #[zero, .int .i64 4]) ∧ ∃ j, RD w' b s j
def numO (o : Option (Int × Nat)) : Option (Value × Nat) := o.map fun p => (.int .i64 p.1, p.2)

theorem took_none {w w' : World} {b : Nat} {s : ByteArray} {o : Option (Int × Nat)} {e : Ending} (ho : o = none) (hf : Fr [b] w w') {j : Nat} (hr : RD w' b s j) (he : e = .returned (.tuple #[.int .i64 0, .int .i64 4])) :
    Took w b s (.int .i64 0) (numO o) e w' := by
  subst ho; exact ⟨hf, he, j, hr⟩
theorem took_some {w w' : World} {b : Nat} {s : ByteArray} {o : Option (Int × Nat)} {e : Ending} {n : Int} {j : Nat} (ho : o = some (n, j)) (hf : Fr [b] w w') (hr : RD w' b s j) (he : e = .returned (.tuple #[.int .i64 n, .int .i64 0])) :
    Took w b s (.int .i64 0) (numO o) e w' := by
  subst ho; exact ⟨hf, he, hr⟩

set_option maxRecDepth 100000 in
set_option maxHeartbeats 1600000 in
theorem takeNumber_any (b k : Nat) (s : ByteArray) (w : World) (h : RD w b s k) (hs : s.size ≤ 140737488355328) :
    Calls Try.prog 45 #[.pointer (some ⟨b, 0, none⟩)] w (Took w b s (.int .i64 0) (numO (tnum s.data.toList k))) := by
  go_enter Try.func45, Try.ntmps45
  go_wp2_with fail
  go_loopw [4, 8] (fun zv iv wr => ∃ (z i : Nat), i ≤ 9 ∧ zv = .int .u64 z ∧ iv = .int .i64 i ∧ z < 128 ^ i ∧ Hid (tnum s.data.toList k = tn s.data.toList (9 - i + 1) i (k + i) z) ∧ RD wr b s (k + i) ∧ Fr [b] w wr) (fun _ iv _ => 10 - (intOf iv).toNat)
  case atStart => exact ⟨0, 0, by omega, rfl, rfl, by decide, rfl, h, Fr.refl _ _⟩
  case round =>
    obtain ⟨z, i, hi, rfl, rfl, hz, htn, hr, hf⟩ := hrel
    by_cases hlt : k + i < s.size
    · obtain ⟨c, hc⟩ : ∃ c, c = s[k + i] := ⟨_, rfl⟩
      have HC : Hid (s.data.toList[k + i]? = some c) := by rw [hc]; exact byte_at s _ hlt
      have hcl := c.toNat_lt
      have K := takeByte_some b (k + i) s wr hr hlt hs
      rw [← hc] at K
      clear hc
      by_cases h1 : i = 9 ∧ 1 < c.toNat
      · obtain ⟨rfl, h1⟩ := h1
        go_wp2_with (go_at_call 43; refine K.mono ?_; rintro e w1 ⟨rfl, hr1, hf1⟩)
        go_ret2
        exact took_none (htn.out.trans (tn_nine _ _ _ _ c HC.out h1)) (hf.tr hf1) hr1 rfl
      · by_cases h2 : 0 < i ∧ c.toNat = 0
        · obtain ⟨h2, h2c⟩ := h2
          have hc0 : ((c.toNat : Int) == 0) = true := by simp [h2c]
          have hc1 : ¬ (1 : Int) < (c.toNat : Int) := by omega
          have HN := hide (htn.out.trans (tn_zero _ _ _ _ _ c HC.out h2 h2c))
          clear h1
          by_cases hi9 : i = 9
          · subst hi9
            go_wp2_with (go_at_call 43; refine K.mono ?_; rintro e w1 ⟨rfl, hr1, hf1⟩)
            go_ret2
            exact took_none (unhide HN) (hf.tr hf1) hr1 rfl
          · have hi9' : ((i : Int) == 9) = false := by simp; omega
            go_wp2_with (go_at_call 43; refine K.mono ?_; rintro e w1 ⟨rfl, hr1, hf1⟩)
            go_ret2
            exact took_none (unhide HN) (hf.tr hf1) hr1 rfl
        · have hor := or_step z i c.toNat hz hi (by omega)
          have hst := step_lt z i c.toNat hz hi (by omega)
          have hpw := step_pow z i c.toNat hz
          by_cases h128 : c.toNat < 128
          · have HN := hide (htn.out.trans (tn_last _ _ _ _ _ c HC.out h1 h2 h128))
            have HO := hide hor
            clear hor
            by_cases hi9 : i = 9
            · have hc0 : ((c.toNat : Int) == 0) = false := by simp; omega
              have hc1 : ¬ (1 : Int) < (c.toNat : Int) := by omega
              clear h1 h2
              subst hi9
              go_wp2_with (go_at_call 43; refine K.mono ?_; rintro e w1 ⟨rfl, hr1, hf1⟩)
              rw [or_step9 z _ hz (by omega)]
              refine (unfold_any _ _ hst.1).mono ?_
              rintro e w1 ⟨rfl, rfl⟩
              go_wp2
              go_ret2
              exact took_some (unhide HN) (hf.tr hf1) hr1 rfl
            · have hi9' : ((i : Int) == 9) = false := by simp; omega
              by_cases hi0 : i = 0
              · clear h1 h2
                subst hi0
                go_wp2_with (go_at_call 43; refine K.mono ?_; rintro e w1 ⟨rfl, hr1, hf1⟩)
                rw [or_step0 z _ hz]
                refine (unfold_any _ _ hst.1).mono ?_
                rintro e w1 ⟨rfl, rfl⟩
                go_wp2
                go_ret2
                exact took_some (unhide HN) (hf.tr hf1) hr1 (ret_pair (congrArg (fun x => Value.int .i64 (uz x)) (show z + c.toNat % 128 = z + c.toNat % 128 * 128 ^ 0 by simp)) rfl)
              · have hc0 : ((c.toNat : Int) == 0) = false := by simp; omega
                have hi1 : (0 : Int) < (i : Int) := by omega
                clear h1 h2
                go_wp2_with (go_at_call 43; refine K.mono ?_; rintro e w1 ⟨rfl, hr1, hf1⟩)
                rw [unhide HO]
                refine (unfold_any _ _ hst.1).mono ?_
                rintro e w1 ⟨rfl, rfl⟩
                go_wp2
                go_ret2
                exact took_some (unhide HN) (hf.tr hf1) hr1 rfl
          · have HN := hide (htn.out.trans (tn_more _ _ _ _ _ c HC.out h1 h2 h128))
            have HO := hide hor
            clear hor
            have hi9 : i ≠ 9 := by omega
            have hi9' : ((i : Int) == 9) = false := by simp; omega
            have hc0 : ((c.toNat : Int) == 0) = false := by simp; omega
            clear h1 h2
            by_cases hi0 : i = 0
            · subst hi0
              go_wp2_with (go_at_call 43; refine K.mono ?_; rintro e w1 ⟨rfl, hr1, hf1⟩)
              go_roundw
              case rel => exact ⟨z + c.toNat % 128 * 128 ^ 0, 1, by omega, congrArg (Value.int .u64) (or_step0 z _ hz), by go_num, hpw, unhide HN, hr1, hf.tr hf1⟩
              case measure => simp [intOf]
            · have hi1 : (0 : Int) < (i : Int) := by omega
              have ei : 9 - i = 9 - (i + 1) + 1 := by omega
              rw [ei] at HN
              go_wp2_with (go_at_call 43; refine K.mono ?_; rintro e w1 ⟨rfl, hr1, hf1⟩)
              go_roundw
              case rel => exact ⟨z + c.toNat % 128 * 128 ^ i, i + 1, by omega, congrArg (Value.int .u64) (unhide HO), by go_num, hpw, unhide HN, hr1, hf.tr hf1⟩
              case measure => simp [intOf]; omega
    · have K := takeByte_none b (k + i) s wr hr (by omega)
      have HN := hide (htn.out.trans (tn_end _ _ _ _ _ (byte_past s (k + i) (by omega))))
      go_wp2_with (go_at_call 43; refine K.mono ?_; rintro e w1 ⟨rfl, hr1, hf1⟩)
      go_ret2
      exact took_none (unhide HN) (hf.tr hf1) hr1 rfl
end Go.Proofs.Ytjoiecphjapbaaa
