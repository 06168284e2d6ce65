/- Contracts of package journal: takeHighFirst, headAt. -/
import Derived.Test.YtimhjheigejjmabJnC
import Derived.Test.YtimhjheigejjmabWiRdD
namespace Go.Proofs.Ytimhjheigejjmab
open Go.RowKit Go.Maps

theorem tbyte_some {l : List UInt8} {k : Nat} {c : UInt8} (h : l[k]? = some c) : Wi.tbyte l k = some (.int .i64 (c.toNat : Int), k + 1) := by simp [Wi.tbyte, h]
theorem rbyte_at (b k : Nat) (s : ByteArray) (w : World) (c : UInt8) (h : Wi.RD w b s k) (hs : s.size ≤ 140737488355328) (hc : s.data.toList[k]? = some c) :
    Calls Try.prog 79 #[.pointer (some ⟨b, 0, none⟩)] w fun e w' => e = .returned (.tuple #[.int .i64 (c.toNat : Int), .int .i64 0]) ∧ Wi.RD w' b s (k + 1) ∧ Wi.Fr [b] w w' := by
  have K := Wi.rByte_any b k s w h hs
  rw [tbyte_some hc] at K
  refine K.mono ?_
  rintro e w' ⟨hf, rfl, hr⟩
  exact ⟨rfl, hr, hf⟩
set_option maxRecDepth 100000 in
set_option maxHeartbeats 2000000 in
theorem takeHigh_any (b j k n : Nat) (s : ByteArray) (w : World) (h : Wi.RD w b s j) (hs : s.size ≤ 140737488355328) (hk : k ≤ 8) (hn : n < 256 ^ k) (hn2 : n < 9223372036854775808) (hb : ∀ t, t < k → s.data.toList[j + t]? = some (UInt8.ofNat (n / 256 ^ (k - 1 - t) % 256))) :
    Calls Try.prog 80 #[.pointer (some ⟨b, 0, none⟩), .int .i64 (k : Int)] w fun e w' => e = .returned (.int .i64 (n : Int)) ∧ Wi.RD w' b s (j + k) ∧ Wi.Fr [b] w w' := by
  have H0 : Hid (Wi.RD w b s (j + 0) ∧ Wi.Fr [b] w w) := ⟨h, Wi.Fr.refl _ _⟩
  have e0 : n / 256 ^ (k - 0) = 0 := by rw [Nat.sub_zero]; exact Nat.div_eq_of_lt hn
  have HN := hide (And.intro hs (And.intro hk (And.intro hn2 (And.intro hb e0))))
  have hk8 : k ≤ 140737488355328 := by omega
  clear h hs hk hn hn2 hb e0
  go_enter Try.func80, Try.ntmps80
  go_wp2_with fail
  go_loopw [5, 9] (fun nv tv wr => ∃ t a : Nat, t ≤ k ∧ tv = .int .i64 (t : Int) ∧ nv = .int .i64 (a : Int) ∧ Hid (a = n / 256 ^ (k - t) ∧ Wi.RD wr b s (j + t) ∧ Wi.Fr [b] w wr)) (fun _ tv _ => (k - intOf tv).toNat)
  case atStart => exact ⟨0, 0, by omega, rfl, rfl, (unhide HN).2.2.2.2.symm, unhide H0⟩
  case round =>
    clear H0
    obtain ⟨t, a, ht, rfl, rfl, HR⟩ := hrel
    by_cases hlt : t < k
    · have hb := (unhide HN).2.2.2.1 t hlt
      have KB := rbyte_at b (j + t) s wr _ (unhide HR).2.1 (unhide HN).1 hb
      have hc : (UInt8.ofNat (n / 256 ^ (k - 1 - t) % 256)).toNat = n / 256 ^ (k - 1 - t) % 256 := by
        rw [UInt8.toNat_ofNat']; exact Nat.mod_eq_of_lt (Nat.mod_lt _ (by decide))
      rw [hc] at KB
      have hst := div_step n k t hlt
      have hc8 : n / 256 ^ (k - 1 - t) % 256 < 256 := Nat.mod_lt _ (by decide)
      have hle : n / 256 ^ (k - (t + 1)) < 9223372036854775808 := Nat.lt_of_le_of_lt (Nat.div_le_self _ _) (unhide HN).2.2.1
      rw [hst, ← (unhide HR).1] at hle
      rw [← (unhide HR).1] at hst
      generalize n / 256 ^ (k - 1 - t) % 256 = c at *
      have ob := or_byte a c hle hc8
      have ec : ((a * 256 : Nat) : Int) = (a : Int) * 256 := by omega
      rw [ec] at ob
      have HF := hide (And.intro hst (unhide HR).2.2)
      have g1 : (t : Int) < (k : Int) := by omega
      have g2 : IntKind.i64.wrap ((a : Int) * 256) = (a : Int) * 256 := wrap_i64 (by omega) (by omega)
      have g3 : (a : Int) * 256 ≤ 9223372036854775807 := by omega
      generalize hz : ((a * 256 + c : Nat) : Int) = z at *
      have HZ := hide hz
      clear hb hc hst HR hle hz ec
      go_wp2_with fail
      refine KB.mono ?_
      rintro e w2 ⟨rfl, hr, hf⟩
      have HE : Hid (a * 256 + c = n / 256 ^ (k - (t + 1)) ∧ Wi.RD w2 b s (j + (t + 1)) ∧ Wi.Fr [b] w w2) := ⟨(unhide HF).1.symm, by rw [← Nat.add_assoc]; exact hr, (unhide HF).2.tr hf⟩
      clear KB hr hf HF
      go_wp2_with fail
      go_roundw
      case rel => exact ⟨t + 1, a * 256 + c, by omega, by go_num, by rw [unhide HZ], HE⟩
      case measure => simp only [intOf]; omega
    · obtain rfl : k = t := by omega
      have e : a = n := by rw [(unhide HR).1, Nat.sub_self, Nat.pow_zero, Nat.div_one]
      subst e
      clear hlt
      go_wp2_with fail
      go_ret
      exact ⟨rfl, (unhide HR).2⟩

end Go.Proofs.Ytimhjheigejjmab
