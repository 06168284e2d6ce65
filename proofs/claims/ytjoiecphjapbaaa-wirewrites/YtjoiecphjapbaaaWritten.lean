/- The contract of written: what the chapter says of an item, behind no bytes. -/
import Derived.Test.YtjoiecphjapbaaaRef
namespace Go.Proofs.Ytjoiecphjapbaaa
open Go.RowKit

theorem below_boxed {w w' : World} {o : Obj} (h : Below (w.alloc o).heap.size (w.alloc o) w') : Below w.heap.size w w' :=
  ((Below.refl w.heap.size w).alloc (Nat.le_refl _) o).trans (h.mono (by simp))

set_option maxHeartbeats 400000 in
theorem written_call0 (x : It) (w : World) (hk : x.kd = 0) (s : ByteArray) (E : Int) 
    (K : Calls Try.prog 25 #[.string ⟨#[]⟩, .int .i64 x.n] (w.alloc (.cells #[.int .i64 x.kd, .int .i64 x.n, .string x.s] 32)) fun e w' => e = .returned (.tuple #[.string s, .int .i64 E]) ∧ Below (w.alloc (.cells #[.int .i64 x.kd, .int .i64 x.n, .string x.s] 32)).heap.size (w.alloc (.cells #[.int .i64 x.kd, .int .i64 x.n, .string x.s] 32)) w') :
    Calls Try.prog 12 #[.string ⟨#[]⟩, x.val] w fun e w' => e = .returned (.tuple #[.string s, .int .i64 E]) ∧ Below w.heap.size w w' := by
  obtain ⟨kd, n, tx⟩ := x
  simp only [It.val] at *
  subst hk
  go_enter Try.func12, Try.ntmps12
  go_wp2_with (go_at_call 25; refine K.mono ?_; rintro e w1 ⟨rfl, hb⟩)
  go_ret2
  exact ⟨rfl, below_boxed hb⟩

set_option maxHeartbeats 400000 in
theorem written_call1 (x : It) (w : World) (hk : x.kd = 1) (s : ByteArray)  
    (K : Calls Try.prog 26 #[.string ⟨#[]⟩, .int .i64 x.n] (w.alloc (.cells #[.int .i64 x.kd, .int .i64 x.n, .string x.s] 32)) fun e w' => e = .returned (.string s) ∧ Below (w.alloc (.cells #[.int .i64 x.kd, .int .i64 x.n, .string x.s] 32)).heap.size (w.alloc (.cells #[.int .i64 x.kd, .int .i64 x.n, .string x.s] 32)) w') :
    Calls Try.prog 12 #[.string ⟨#[]⟩, x.val] w fun e w' => e = .returned (.tuple #[.string s, .int .i64 0]) ∧ Below w.heap.size w w' := by
  obtain ⟨kd, n, tx⟩ := x
  simp only [It.val] at *
  subst hk
  go_enter Try.func12, Try.ntmps12
  go_wp2_with (go_at_call 26; refine K.mono ?_; rintro e w1 ⟨rfl, hb⟩)
  go_ret2
  exact ⟨rfl, below_boxed hb⟩

set_option maxHeartbeats 400000 in
theorem written_call2 (x : It) (w : World) (hk : x.kd = 2) (s : ByteArray)  
    (K : Calls Try.prog 27 #[.string ⟨#[]⟩, .bool (decide (0 < x.n))] (w.alloc (.cells #[.int .i64 x.kd, .int .i64 x.n, .string x.s] 32)) fun e w' => e = .returned (.string s) ∧ Below (w.alloc (.cells #[.int .i64 x.kd, .int .i64 x.n, .string x.s] 32)).heap.size (w.alloc (.cells #[.int .i64 x.kd, .int .i64 x.n, .string x.s] 32)) w') :
    Calls Try.prog 12 #[.string ⟨#[]⟩, x.val] w fun e w' => e = .returned (.tuple #[.string s, .int .i64 0]) ∧ Below w.heap.size w w' := by
  obtain ⟨kd, n, tx⟩ := x
  simp only [It.val] at *
  subst hk
  go_enter Try.func12, Try.ntmps12
  go_wp2_with (go_at_call 27; refine K.mono ?_; rintro e w1 ⟨rfl, hb⟩)
  go_ret2
  exact ⟨rfl, below_boxed hb⟩

set_option maxHeartbeats 400000 in
theorem written_call3 (x : It) (w : World) (hk : x.kd = 3) (s : ByteArray) (E : Int) (hs : s.size ≤ 4611686018427387904) 
    (K : Calls Try.prog 28 #[.string ⟨#[]⟩, .string x.s] (w.alloc (.cells #[.int .i64 x.kd, .int .i64 x.n, .string x.s] 32)) fun e w' => e = .returned (.tuple #[.string s, .int .i64 E]) ∧ Below (w.alloc (.cells #[.int .i64 x.kd, .int .i64 x.n, .string x.s] 32)).heap.size (w.alloc (.cells #[.int .i64 x.kd, .int .i64 x.n, .string x.s] 32)) w') :
    Calls Try.prog 12 #[.string ⟨#[]⟩, x.val] w fun e w' => e = .returned (.tuple #[.string s, .int .i64 E]) ∧ Below w.heap.size w w' := by
  obtain ⟨kd, n, tx⟩ := x
  simp only [It.val] at *
  subst hk
  have hadd := add_empty s hs
  go_enter Try.func12, Try.ntmps12
  go_wp2_with (go_at_call 28; refine K.mono ?_; rintro e w1 ⟨rfl, hb⟩)
  go_ret2
  exact ⟨rfl, below_boxed hb⟩

set_option maxHeartbeats 400000 in
theorem written_call4 (x : It) (w : World) (k0 : ¬ x.kd = 0) (k1 : ¬ x.kd = 1) (k2 : ¬ x.kd = 2) (k3 : ¬ x.kd = 3) (s : ByteArray) (E : Int) 
    (K : Calls Try.prog 29 #[.string ⟨#[]⟩, .int .i64 x.n] (w.alloc (.cells #[.int .i64 x.kd, .int .i64 x.n, .string x.s] 32)) fun e w' => e = .returned (.tuple #[.string s, .int .i64 E]) ∧ Below (w.alloc (.cells #[.int .i64 x.kd, .int .i64 x.n, .string x.s] 32)).heap.size (w.alloc (.cells #[.int .i64 x.kd, .int .i64 x.n, .string x.s] 32)) w') :
    Calls Try.prog 12 #[.string ⟨#[]⟩, x.val] w fun e w' => e = .returned (.tuple #[.string s, .int .i64 E]) ∧ Below w.heap.size w w' := by
  obtain ⟨kd, n, tx⟩ := x
  simp only [It.val] at *
  have t0 : (kd == 0) = false := by simp; omega
  have t1 : (kd == 1) = false := by simp; omega
  have t2 : (kd == 2) = false := by simp; omega
  have t3 : (kd == 3) = false := by simp; omega
  go_enter Try.func12, Try.ntmps12
  go_wp2_with (go_at_call 29; refine K.mono ?_; rintro e w1 ⟨rfl, hb⟩)
  go_ret2
  exact ⟨rfl, below_boxed hb⟩

theorem str_nil : str [] = ⟨#[]⟩ := rfl
theorem written_any (x : It) (w : World) (h1 : -9223372036854775808 ≤ x.n) (h2 : x.n ≤ 9223372036854775807) :
    Calls Try.prog 12 #[.string ⟨#[]⟩, x.val] w fun e w' => e = .returned (.tuple #[.string (str (itB x)), .int .i64 (itE x)]) ∧ Below w.heap.size w w' := by
  by_cases k0 : x.kd = 0
  · by_cases hn : x.n < 0 ∨ 255 < x.n
    · have hE : itE x = 1 := by unfold itE; rw [if_pos k0, if_pos hn]
      rw [itB_bad (by rw [hE]; decide), hE]
      exact written_call0 x w k0 _ _ (refByte_bad x.n _ hn)
    · have hE : itE x = 0 := by unfold itE; rw [if_pos k0, if_neg hn]
      have hR : itR x = [UInt8.ofNat x.n.toNat] := by unfold itR; rw [if_pos k0]
      rw [itB_ok hE, hE, hR]
      exact written_call0 x w k0 _ _ (refByte_ok x.n _ (by omega) (by omega))
  by_cases k1 : x.kd = 1
  · have hE : itE x = 0 := by unfold itE; rw [if_neg k0, if_pos k1]
    have hR : itR x = enc x.n := by unfold itR; rw [if_neg k0, if_pos k1]
    rw [itB_ok hE, hE, hR]
    exact written_call1 x w k1 _ (refNumber_any x.n _ h1 h2)
  by_cases k2 : x.kd = 2
  · have hE : itE x = 0 := by unfold itE; rw [if_neg k0, if_neg k1, if_pos k2]
    have hR : itR x = [if decide (0 < x.n) then 1 else 0] := by unfold itR; rw [if_neg k0, if_neg k1, if_pos k2]
    rw [itB_ok hE, hE, hR]
    exact written_call2 x w k2 _ (refFlag_any _ _)
  by_cases k3 : x.kd = 3
  · by_cases hn : 65536 < x.s.size
    · have hE : itE x = 3 := by unfold itE; rw [if_neg k0, if_neg k1, if_neg k2, if_pos k3, if_pos hn]
      rw [itB_bad (by rw [hE]; decide), hE]
      exact written_call3 x w k3 _ _ (by decide) (refText_bad x.s _ hn)
    · have hE : itE x = 0 := by unfold itE; rw [if_neg k0, if_neg k1, if_neg k2, if_pos k3, if_neg hn]
      have hR : itR x = enc x.s.size ++ x.s.data.toList := by unfold itR; rw [if_neg k0, if_neg k1, if_neg k2, if_pos k3]
      rw [itB_ok hE, hE, hR]
      exact written_call3 x w k3 _ _ (by rw [size_str, List.length_append]; have := (enc_length x.s.size).2; simp; omega) (refText_ok x.s _ (by omega))
  by_cases hn : x.n < 0
  · have hE : itE x = 1 := by unfold itE; rw [if_neg k0, if_neg k1, if_neg k2, if_neg k3, if_pos hn]
    rw [itB_bad (by rw [hE]; decide), hE]
    exact written_call4 x w k0 k1 k2 k3 _ _ (refList_low x.n _ hn)
  by_cases hm : 65536 < x.n
  · have hE : itE x = 3 := by unfold itE; rw [if_neg k0, if_neg k1, if_neg k2, if_neg k3, if_neg hn, if_pos hm]
    rw [itB_bad (by rw [hE]; decide), hE]
    exact written_call4 x w k0 k1 k2 k3 _ _ (refList_high x.n _ hm)
  have hE : itE x = 0 := by unfold itE; rw [if_neg k0, if_neg k1, if_neg k2, if_neg k3, if_neg hn, if_neg hm]
  have hR : itR x = enc x.n := by unfold itR; rw [if_neg k0, if_neg k1, if_neg k2, if_neg k3]
  rw [itB_ok hE, hE, hR]
  exact written_call4 x w k0 k1 k2 k3 _ _ (refList_ok x.n _ (by omega) (by omega))

end Go.Proofs.Ytjoiecphjapbaaa
