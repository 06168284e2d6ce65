/- The contract of reads: what a Reader answers is what the document says, at each place and for each kind. -/
import Derived.Test.YtjoiecphjapbaaaRefTakeB
namespace Go.Proofs.Ytjoiecphjapbaaa
open Go.RowKit

/-- The place behind what stands at k; k itself, if it is none of what may. -/
def nextP (k : Nat) : Option (Value × Nat) → Nat
  | some (_, j) => j
  | none => k
def kindO (l : List UInt8) (kd : Int) (k : Nat) : Option (Value × Nat) :=
  if kd = 0 then tbyte l k else if kd = 1 then numO (tnum l k) else if kd = 2 then flagO (tflag l k) else if kd = 3 then textO (ttext l k) else numO (tcnt l k)

set_option maxRecDepth 100000 in
set_option maxHeartbeats 800000 in
theorem reads0 (b k : Nat) (s : ByteArray) (w : World) (h : RD w b s k) (hs : s.size ≤ 140737488355328) (hk : k ≤ s.size)  :
    Calls Try.prog 17 #[.pointer (some ⟨b, 0, none⟩), .string s, .int .i64 0, .int .i64 k] w fun e w' => e = .returned (.tuple #[.int .i64 (nextP k (tbyte s.data.toList k)), .bool true]) ∧ RD w' b s (nextP k (tbyte s.data.toList k)) ∧ Fr [b] w w' := by
  have K1 := rByte_any b k s w h hs
  have K2 := fun w => refTakeByte_any s k w hs hk
  cases ho : (s.data.toList[k]?) with
  | some c =>
    have ho2 : tbyte s.data.toList k = some (.int .i64 c.toNat, k + 1) := by unfold tbyte; rw [ho]; rfl
    rw [ho2] at K1 K2 ⊢
    clear ho ho2
    go_enter Try.func17, Try.ntmps17
    go_wp2_with (first | (go_at_call 20; refine K1.mono ?_; rintro e w1 ⟨hf1, rfl, hr1⟩) | (go_at_call 36; refine (K2 _).mono ?_; rintro e w2 ⟨he, rfl⟩; simp only [refRes] at he; subst he))
    go_ret2
    exact ⟨rfl, hr1, hf1⟩
  | none =>
    have ho2 : tbyte s.data.toList k = none := by unfold tbyte; rw [ho]; rfl
    rw [ho2] at K1 K2 ⊢
    clear ho ho2
    go_enter Try.func17, Try.ntmps17
    go_wp2_with (first | (go_at_call 20; refine K1.mono ?_; rintro e w1 ⟨hf1, rfl, hr1⟩) | (go_at_call 36; refine (K2 _).mono ?_; rintro e w2 ⟨he, rfl⟩; simp only [refRes] at he; subst he))
    go_ret2
    exact ⟨rfl, hr1, hf1⟩

set_option maxRecDepth 100000 in
set_option maxHeartbeats 800000 in
theorem reads1 (b k : Nat) (s : ByteArray) (w : World) (h : RD w b s k) (hs : s.size ≤ 140737488355328) (hk : k ≤ s.size)  :
    Calls Try.prog 17 #[.pointer (some ⟨b, 0, none⟩), .string s, .int .i64 1, .int .i64 k] w fun e w' => e = .returned (.tuple #[.int .i64 (nextP k (numO (tnum s.data.toList k))), .bool true]) ∧ RD w' b s (nextP k (numO (tnum s.data.toList k))) ∧ Fr [b] w w' := by
  have K1 := rNumber_any b k s w h hs
  have K2 := fun w => refTakeNumber_any s k w hs hk
  cases ho : (tnum s.data.toList k) with
  | some p =>
    obtain ⟨n, j⟩ := p
    have ho2 : numO (tnum s.data.toList k) = some (.int .i64 n, j) := by rw [ho]; rfl
    rw [ho2] at K1 K2
    simp only [numO, Option.map, nextP]
    clear ho ho2
    go_enter Try.func17, Try.ntmps17
    go_wp2_with (first | (go_at_call 21; refine K1.mono ?_; rintro e w1 ⟨hf1, rfl, hr1⟩) | (go_at_call 37; refine (K2 _).mono ?_; rintro e w2 ⟨he, rfl⟩; simp only [refRes] at he; subst he))
    go_ret2
    exact ⟨rfl, hr1, hf1⟩
  | none =>
    have ho2 : numO (tnum s.data.toList k) = none := by rw [ho]; rfl
    rw [ho2] at K1 K2
    simp only [numO, Option.map, nextP]
    clear ho ho2
    go_enter Try.func17, Try.ntmps17
    go_wp2_with (first | (go_at_call 21; refine K1.mono ?_; rintro e w1 ⟨hf1, rfl, hr1⟩) | (go_at_call 37; refine (K2 _).mono ?_; rintro e w2 ⟨he, rfl⟩; simp only [refRes] at he; subst he))
    go_ret2
    exact ⟨rfl, hr1, hf1⟩

set_option maxRecDepth 100000 in
set_option maxHeartbeats 800000 in
theorem reads2 (b k : Nat) (s : ByteArray) (w : World) (h : RD w b s k) (hs : s.size ≤ 140737488355328) (hk : k ≤ s.size)  :
    Calls Try.prog 17 #[.pointer (some ⟨b, 0, none⟩), .string s, .int .i64 2, .int .i64 k] w fun e w' => e = .returned (.tuple #[.int .i64 (nextP k (flagO (tflag s.data.toList k))), .bool true]) ∧ RD w' b s (nextP k (flagO (tflag s.data.toList k))) ∧ Fr [b] w w' := by
  have K1 := rFlag_any b k s w h hs
  have K2 := fun w => refTakeFlag_any s k w hs hk
  cases ho : (tflag s.data.toList k) with
  | some p =>
    obtain ⟨n, j⟩ := p
    have ho2 : flagO (tflag s.data.toList k) = some (.bool n, j) := by rw [ho]; rfl
    rw [ho2] at K1 K2
    simp only [flagO, Option.map, nextP]
    clear ho ho2
    go_enter Try.func17, Try.ntmps17
    go_wp2_with (first | (go_at_call 22; refine K1.mono ?_; rintro e w1 ⟨hf1, rfl, hr1⟩) | (go_at_call 38; refine (K2 _).mono ?_; rintro e w2 ⟨he, rfl⟩; simp only [refRes] at he; subst he))
    go_ret2
    exact ⟨rfl, hr1, hf1⟩
  | none =>
    have ho2 : flagO (tflag s.data.toList k) = none := by rw [ho]; rfl
    rw [ho2] at K1 K2
    simp only [flagO, Option.map, nextP]
    clear ho ho2
    go_enter Try.func17, Try.ntmps17
    go_wp2_with (first | (go_at_call 22; refine K1.mono ?_; rintro e w1 ⟨hf1, rfl, hr1⟩) | (go_at_call 38; refine (K2 _).mono ?_; rintro e w2 ⟨he, rfl⟩; simp only [refRes] at he; subst he))
    go_ret2
    exact ⟨rfl, hr1, hf1⟩

set_option maxRecDepth 100000 in
set_option maxHeartbeats 800000 in
theorem reads3 (b k : Nat) (s : ByteArray) (w : World) (h : RD w b s k) (hs : s.size ≤ 140737488355328) (hk : k ≤ s.size)  :
    Calls Try.prog 17 #[.pointer (some ⟨b, 0, none⟩), .string s, .int .i64 3, .int .i64 k] w fun e w' => e = .returned (.tuple #[.int .i64 (nextP k (textO (ttext s.data.toList k))), .bool true]) ∧ RD w' b s (nextP k (textO (ttext s.data.toList k))) ∧ Fr [b] w w' := by
  have K1 := rText_any b k s w h hs
  have K2 := fun w => refTakeText_any s k w hs hk
  cases ho : (ttext s.data.toList k) with
  | some p =>
    obtain ⟨n, j⟩ := p
    have ho2 : textO (ttext s.data.toList k) = some (.string (str n), j) := by rw [ho]; rfl
    rw [ho2] at K1 K2
    simp only [textO, Option.map, nextP]
    clear ho ho2
    go_enter Try.func17, Try.ntmps17
    go_wp2_with (first | (go_at_call 23; refine K1.mono ?_; rintro e w1 ⟨hf1, rfl, hr1⟩) | (go_at_call 39; refine (K2 _).mono ?_; rintro e w2 ⟨he, rfl⟩; simp only [refRes] at he; subst he))
    go_ret2
    exact ⟨rfl, hr1, hf1⟩
  | none =>
    have ho2 : textO (ttext s.data.toList k) = none := by rw [ho]; rfl
    rw [ho2] at K1 K2
    simp only [textO, Option.map, nextP]
    clear ho ho2
    go_enter Try.func17, Try.ntmps17
    go_wp2_with (first | (go_at_call 23; refine K1.mono ?_; rintro e w1 ⟨hf1, rfl, hr1⟩) | (go_at_call 39; refine (K2 _).mono ?_; rintro e w2 ⟨he, rfl⟩; simp only [refRes] at he; subst he))
    go_ret2
    exact ⟨rfl, hr1, hf1⟩

set_option maxRecDepth 100000 in
set_option maxHeartbeats 800000 in
theorem reads4 (b k : Nat) (s : ByteArray) (w : World) (h : RD w b s k) (hs : s.size ≤ 140737488355328) (hk : k ≤ s.size) (kd : Int) (k0 : ¬ kd = 0) (k1 : ¬ kd = 1) (k2 : ¬ kd = 2) (k3 : ¬ kd = 3) :
    Calls Try.prog 17 #[.pointer (some ⟨b, 0, none⟩), .string s, .int .i64 kd, .int .i64 k] w fun e w' => e = .returned (.tuple #[.int .i64 (nextP k (numO (tcnt s.data.toList k))), .bool true]) ∧ RD w' b s (nextP k (numO (tcnt s.data.toList k))) ∧ Fr [b] w w' := by
  have t0 : (kd == 0) = false := by simp; omega
  have t1 : (kd == 1) = false := by simp; omega
  have t2 : (kd == 2) = false := by simp; omega
  have t3 : (kd == 3) = false := by simp; omega
  have K1 := rList_any b k s w h hs
  have K2 := fun w => refTakeList_any s k w hs hk
  cases ho : (tcnt s.data.toList k) with
  | some p =>
    obtain ⟨n, j⟩ := p
    have ho2 : numO (tcnt s.data.toList k) = some (.int .i64 n, j) := by rw [ho]; rfl
    rw [ho2] at K1 K2
    simp only [numO, Option.map, nextP]
    clear ho ho2
    go_enter Try.func17, Try.ntmps17
    go_wp2_with (first | (go_at_call 24; refine K1.mono ?_; rintro e w1 ⟨hf1, rfl, hr1⟩) | (go_at_call 40; refine (K2 _).mono ?_; rintro e w2 ⟨he, rfl⟩; simp only [refRes] at he; subst he))
    go_ret2
    exact ⟨rfl, hr1, hf1⟩
  | none =>
    have ho2 : numO (tcnt s.data.toList k) = none := by rw [ho]; rfl
    rw [ho2] at K1 K2
    simp only [numO, Option.map, nextP]
    clear ho ho2
    go_enter Try.func17, Try.ntmps17
    go_wp2_with (first | (go_at_call 24; refine K1.mono ?_; rintro e w1 ⟨hf1, rfl, hr1⟩) | (go_at_call 40; refine (K2 _).mono ?_; rintro e w2 ⟨he, rfl⟩; simp only [refRes] at he; subst he))
    go_ret2
    exact ⟨rfl, hr1, hf1⟩

theorem reads_any (b k : Nat) (s : ByteArray) (kd : Int) (w : World) (h : RD w b s k) (hs : s.size ≤ 140737488355328) (hk : k ≤ s.size) :
    Calls Try.prog 17 #[.pointer (some ⟨b, 0, none⟩), .string s, .int .i64 kd, .int .i64 k] w fun e w' => e = .returned (.tuple #[.int .i64 (nextP k (kindO s.data.toList kd k)), .bool true]) ∧ RD w' b s (nextP k (kindO s.data.toList kd k)) ∧ Fr [b] w w' := by
  unfold kindO
  by_cases k0 : kd = 0
  · rw [if_pos k0]; subst k0; exact reads0 b k s w h hs hk
  by_cases k1 : kd = 1
  · rw [if_neg k0, if_pos k1]; subst k1; exact reads1 b k s w h hs hk
  by_cases k2 : kd = 2
  · rw [if_neg k0, if_neg k1, if_pos k2]; subst k2; exact reads2 b k s w h hs hk
  by_cases k3 : kd = 3
  · rw [if_neg k0, if_neg k1, if_neg k2, if_pos k3]; subst k3; exact reads3 b k s w h hs hk
  rw [if_neg k0, if_neg k1, if_neg k2, if_neg k3]; exact reads4 b k s w h hs hk kd k0 k1 k2 k3

theorem next_le (l : List UInt8) (kd : Int) (k : Nat) (hk : k ≤ l.length) : nextP k (kindO l kd k) ≤ l.length := by
  have get_lt : ∀ c, l[k]? = some c → k + 1 ≤ l.length := fun c hc => by
    rcases Nat.lt_or_ge k l.length with q | q
    · omega
    · rw [List.getElem?_eq_none q] at hc; cases hc
  have cnt : nextP k (numO (tcnt l k)) ≤ l.length := by
    cases ho : tcnt l k with
    | none => exact hk
    | some p => exact (tcnt_place (n := p.1) (j := p.2) ho).2.2.1
  unfold kindO
  split
  · unfold tbyte
    cases ho : l[k]? with
    | none => exact hk
    | some c => exact get_lt c ho
  · split
    · cases ho : tnum l k with
      | none => exact hk
      | some p => exact (tnum_place (n := p.1) (k' := p.2) ho).2.2
    · split
      · unfold tflag
        cases ho : l[k]? with
        | none => exact hk
        | some c =>
          simp only
          split
          · exact hk
          · exact get_lt c ho
      · split
        · unfold ttext
          cases ho : tcnt l k with
          | none => exact hk
          | some p =>
            simp only
            split
            · exact hk
            · rename_i hq; simp only [textO, Option.map, nextP]; omega
        · exact cnt

end Go.Proofs.Ytjoiecphjapbaaa
