/- Contracts of takeFlag, takeCount, takeText. -/
import Derived.Test.YtjoiecphjapbaaaRdB
import Derived.Test.YtjoiecphjapbaaaClone
import Derived.Deep.RegionWith
namespace Go.Proofs.Ytjoiecphjapbaaa
open Go.RowKit

def tbyte (l : List UInt8) (k : Nat) : Option (Value × Nat) := (l[k]?).map fun c => (.int .i64 c.toNat, k + 1)
def tflag (l : List UInt8) (k : Nat) : Option (Bool × Nat) := match l[k]? with
  | some c => if 1 < c.toNat then none else some (decide (c.toNat = 1), k + 1)
  | none => none
def tcnt (l : List UInt8) (k : Nat) : Option (Int × Nat) := match tnum l k with
  | some (n, j) => if n < 0 ∨ 65536 < n then none else some (n, j)
  | none => none
def ttext (l : List UInt8) (k : Nat) : Option (List UInt8 × Nat) := match tcnt l k with
  | some (n, j) => if l.length < j + n.toNat then none else some ((l.drop j).take n.toNat, j + n.toNat)
  | none => none
def flagO (o : Option (Bool × Nat)) : Option (Value × Nat) := o.map fun p => (.bool p.1, p.2)
def textO (o : Option (List UInt8 × Nat)) : Option (Value × Nat) := o.map fun p => (.string (str p.1), p.2)

theorem takeByte_any (b k : Nat) (s : ByteArray) (w : World) (h : RD w b s k) (hs : s.size ≤ 140737488355328) :
    Calls Try.prog 43 #[.pointer (some ⟨b, 0, none⟩)] w (Took w b s (.int .i64 0) (tbyte s.data.toList k)) := by
  by_cases hk : k < s.size
  · refine (takeByte_some b k s w h hk hs).mono ?_
    rintro e w' ⟨rfl, hr, hf⟩
    unfold tbyte; rw [byte_at s k hk]; exact ⟨hf, rfl, hr⟩
  · refine (takeByte_none b k s w h (by omega)).mono ?_
    rintro e w' ⟨rfl, hr, hf⟩
    unfold tbyte; rw [byte_past s k (by omega)]; exact ⟨hf, rfl, k, hr⟩

set_option maxHeartbeats 400000 in
theorem takeFlag_any (b k : Nat) (s : ByteArray) (w : World) (h : RD w b s k) (hs : s.size ≤ 140737488355328) :
    Calls Try.prog 47 #[.pointer (some ⟨b, 0, none⟩)] w (Took w b s (.bool false) (flagO (tflag s.data.toList k))) := by
  by_cases hk : k < s.size
  · obtain ⟨c, hc⟩ : ∃ c, c = s[k] := ⟨_, rfl⟩
    have HC : Hid (s.data.toList[k]? = some c) := by rw [hc]; exact byte_at s _ hk
    have K := takeByte_some b k s w h hk hs
    rw [← hc] at K
    clear hc
    by_cases h1 : 1 < c.toNat
    · go_enter Try.func47, Try.ntmps47
      go_wp2_with (go_at_call 43; refine K.mono ?_; rintro e w1 ⟨rfl, hr1, hf1⟩)
      go_ret2
      unfold tflag; rw [HC.out]; simp only [if_pos h1]
      exact ⟨hf1, rfl, _, hr1⟩
    · go_enter Try.func47, Try.ntmps47
      go_wp2_with (go_at_call 43; refine K.mono ?_; rintro e w1 ⟨rfl, hr1, hf1⟩)
      go_ret2
      unfold tflag; rw [HC.out]; simp only [if_neg h1]
      refine ⟨hf1, ?_, hr1⟩
      have e1 : ((c.toNat : Int) == 1) = decide (c.toNat = 1) := by rw [Bool.eq_iff_iff]; simp; omega
      first | rfl | exact ret_pair (congrArg Value.bool e1) rfl | trace_state
  · have K := takeByte_none b k s w h (by omega)
    go_enter Try.func47, Try.ntmps47
    go_wp2_with (go_at_call 43; refine K.mono ?_; rintro e w1 ⟨rfl, hr1, hf1⟩)
    go_ret2
    unfold tflag; rw [byte_past s k (by omega)]
    exact ⟨hf1, rfl, _, hr1⟩

set_option maxHeartbeats 400000 in
theorem takeCount_any (b k : Nat) (s : ByteArray) (w : World) (h : RD w b s k) (hs : s.size ≤ 140737488355328) :
    Calls Try.prog 50 #[.pointer (some ⟨b, 0, none⟩)] w (Took w b s (.int .i64 0) (numO (tcnt s.data.toList k))) := by
  have K := takeNumber_any b k s w h hs
  cases ho : tnum s.data.toList k with
  | none =>
    rw [ho] at K
    have HT : Hid (tcnt s.data.toList k = none) := by unfold Hid tcnt; rw [ho]
    clear ho
    go_enter Try.func50, Try.ntmps50
    go_wp2_with (go_at_call 45; refine K.mono ?_; rintro e w1 ⟨hf1, rfl, j, hr1⟩)
    go_ret2
    rw [HT.out]
    exact ⟨hf1, rfl, _, hr1⟩
  | some p =>
    obtain ⟨n, j⟩ := p
    rw [ho] at K
    by_cases hn : n < 0 ∨ 65536 < n
    · have HT : Hid (tcnt s.data.toList k = none) := by unfold Hid tcnt; rw [ho]; simp only [if_pos hn]
      clear ho
      by_cases hn0 : n < 0
      · clear hn
        go_enter Try.func50, Try.ntmps50
        go_wp2_with (go_at_call 45; refine K.mono ?_; rintro e w1 ⟨hf1, rfl, hr1⟩)
        go_ret2
        rw [HT.out]
        exact ⟨hf1, rfl, _, hr1⟩
      · have hn1 : 65536 < n := by omega
        clear hn
        go_enter Try.func50, Try.ntmps50
        go_wp2_with (go_at_call 45; refine K.mono ?_; rintro e w1 ⟨hf1, rfl, hr1⟩)
        go_ret2
        rw [HT.out]
        exact ⟨hf1, rfl, _, hr1⟩
    · have HT : Hid (tcnt s.data.toList k = some (n, j)) := by unfold Hid tcnt; rw [ho]; simp only [if_neg hn]
      have hn0 : ¬ n < 0 := by omega
      have hn1 : ¬ 65536 < n := by omega
      clear ho hn
      go_enter Try.func50, Try.ntmps50
      go_wp2_with (go_at_call 45; refine K.mono ?_; rintro e w1 ⟨hf1, rfl, hr1⟩)
      go_ret2
      rw [HT.out]
      exact ⟨hf1, rfl, hr1⟩

theorem tcnt_place {l : List UInt8} {k : Nat} {n : Int} {j : Nat} (h : tcnt l k = some (n, j)) : k < j ∧ j ≤ k + 10 ∧ j ≤ l.length ∧ 0 ≤ n ∧ n ≤ 65536 := by
  unfold tcnt at h
  cases ho : tnum l k with
  | none => rw [ho] at h; cases h
  | some p =>
    obtain ⟨m, i⟩ := p
    rw [ho] at h
    have := tnum_place ho
    simp only at h
    split at h
    · cases h
    · simp at h; omega

theorem extract_str (s : ByteArray) (j m : Nat) : s.extract j (j + m) = str ((s.data.toList.drop j).take m) := by
  apply ByteArray.ext
  apply Array.ext'
  simp [str]

set_option maxHeartbeats 800000 in
theorem takeText_any (b k : Nat) (s : ByteArray) (w : World) (h : RD w b s k) (hs : s.size ≤ 140737488355328) :
    Calls Try.prog 49 #[.pointer (some ⟨b, 0, none⟩)] w (Took w b s (.string ⟨#[]⟩) (textO (ttext s.data.toList k))) := by
  have K := takeCount_any b k s w h hs
  cases ho : tcnt s.data.toList k with
  | none =>
    rw [ho] at K
    have HT : Hid (ttext s.data.toList k = none) := by unfold Hid ttext; rw [ho]
    clear ho
    go_enter Try.func49, Try.ntmps49
    go_wp2_with (go_at_call 50; refine K.mono ?_; rintro e w1 ⟨hf1, rfl, j, hr1⟩)
    go_ret2
    rw [HT.out]
    exact ⟨hf1, rfl, _, hr1⟩
  | some p =>
    obtain ⟨n, j⟩ := p
    rw [ho] at K
    obtain ⟨hkj, hj10, hjl, hn0, hn1⟩ := tcnt_place ho
    have hjs : j ≤ s.size := by simpa using hjl
    obtain ⟨m, rfl⟩ := Int.eq_ofNat_of_zero_le hn0
    by_cases hb : s.size < j + m
    · have HT : Hid (ttext s.data.toList k = none) := by unfold Hid ttext; rw [ho]; simp only; rw [if_pos (by simpa using hb)]
      clear ho
      have hb' : (s.size : Int) - (j : Int) < (m : Int) := by omega
      go_enter Try.func49, Try.ntmps49
      go_wp2_with (go_at_call 50; refine K.mono ?_; rintro e w1 ⟨hf1, rfl, hr1⟩; have c1 := hr1.c1; have c2 := hr1.c2)
      go_quiet (fail)
      go_wp2
      go_ret2
      rw [HT.out]
      exact ⟨hf1.drewN _, rfl, _, hr1.new ((Fr.refl _ _).drewN _)⟩
    · have HT : Hid (ttext s.data.toList k = some ((s.data.toList.drop j).take m, j + m)) := by unfold Hid ttext; rw [ho]; simp only; rw [if_neg (by simpa using hb)]; simp
      clear ho
      have hb' : (m : Int) ≤ (s.size : Int) - (j : Int) := by omega
      go_enter Try.func49, Try.ntmps49
      go_wp2_with (go_at_call 50; refine K.mono ?_; rintro e w1 ⟨hf1, rfl, hr1⟩; have c1 := hr1.c1; have c2 := hr1.c2; have f2 := hr1.f2)
      go_quiet (fail)
      go_wp2
      obtain ⟨W, hW⟩ : ∃ W : World, W = (w1.drewN nq).setCell ⟨b, 2, none⟩ (.int .i64 ((j : Int) + (m : Int))) := ⟨_, rfl⟩
      have hrW : RD W b s (j + m) := by
        have := (hr1.new ((Fr.refl _ w1).drewN nq)).set (j + m)
        rw [Int.natCast_add] at this; rw [hW]; exact this
      have hfW : Fr [b] w1 W := by rw [hW]; exact ((Fr.refl _ _).drewN _).setCell (Or.inr (by simp)) _
      rw [← hW]
      clear hW c1 c2 f2
      have c1 := hrW.c1
      have c2 := hrW.c2
      have hxs : (s.extract j (j + m)).size ≤ 281474976710656 := by rw [ByteArray.size_extract]; omega
      go_region_with (go_at_call 59; refine (clone_any _ _ hxs).mono ?_; rintro e w2 ⟨rfl, hb2⟩)
      all_goals
        try go_wp2
        go_ret2
        rw [HT.out]
        have hfB : Fr [] W w2 := ((Fr.refl [] W).drew).below hb2
        exact ⟨(hf1.tr hfW).trans hfB (fun _ _ c => c) (fun _ _ c => by cases c), ret_pair (congrArg Value.string (extract_str s j m)) rfl, hrW.new hfB⟩
end Go.Proofs.Ytjoiecphjapbaaa
