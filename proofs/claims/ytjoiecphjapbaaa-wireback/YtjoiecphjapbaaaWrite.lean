/- Contracts of write: an item given to a Writer that was made, and to one that is not there. -/
import Derived.Test.YtjoiecphjapbaaaNil
import Derived.Test.YtjoiecphjapbaaaAlive
namespace Go.Proofs.Ytjoiecphjapbaaa
open Go.RowKit

/-- An item: its kind, its number, its text. -/
structure It where
  kd : Int
  n : Int
  s : ByteArray
def It.val (x : It) : Value := .agg #[.int .i64 x.kd, .int .i64 x.n, .string x.s]
/-- The error that writing it answers. -/
def itE (x : It) : Int :=
  if x.kd = 0 then (if x.n < 0 ∨ 255 < x.n then 1 else 0) else if x.kd = 1 then 0 else if x.kd = 2 then 0
  else if x.kd = 3 then (if 65536 < x.s.size then 3 else 0) else if x.n < 0 then 1 else if 65536 < x.n then 3 else 0
/-- The bytes that stand for it, if it may be. -/
def itR (x : It) : List UInt8 :=
  if x.kd = 0 then [UInt8.ofNat x.n.toNat] else if x.kd = 1 then enc x.n else if x.kd = 2 then [if decide (0 < x.n) then 1 else 0]
  else if x.kd = 3 then enc x.s.size ++ x.s.data.toList else enc x.n
/-- The bytes that writing it leaves. -/
def itB (x : It) : List UInt8 := if itE x = 0 then itR x else []

theorem step_none {w w' : World} {b : Nat} {sv : Value} {bs : List UInt8} (h : WR w b sv bs) (hf : Fr [] w w') : ∃ sv', WStep w w' b sv sv' (bs ++ []) :=
  ⟨sv, by rw [List.append_nil]; exact ⟨h.new hf, hf.mono (fun _ _ c => by cases c), fun _ hk => Or.inl hk⟩⟩
theorem step_some {w w0 w' : World} {b : Nat} {sv : Value} {bs l : List UInt8} (hf : Fr [] w w0) (h : ∃ sv', WStep w0 w' b sv sv' (bs ++ l)) : ∃ sv', WStep w w' b sv sv' (bs ++ l) := by
  obtain ⟨sv', hs⟩ := h; exact ⟨sv', WStep.before hf hs⟩
theorem itB_ok {x : It} (h : itE x = 0) : itB x = itR x := by unfold itB; rw [if_pos h]
theorem itB_bad {x : It} (h : itE x ≠ 0) : itB x = [] := by unfold itB; rw [if_neg h]

set_option maxHeartbeats 400000 in
theorem write_call0 (p : Value) (x : It) (w : World) (hk : x.kd = 0) (Q : Ending → World → Prop)
    (K : Calls Try.prog 30 #[p, .int .i64 x.n] (w.alloc (.cells #[.int .i64 x.kd, .int .i64 x.n, .string x.s] 32)) fun e w' => (∃ n, e = .returned (.int .i64 n)) ∧ Q e w') :
    Calls Try.prog 13 #[p, x.val] w Q := by
  obtain ⟨kd, n, s⟩ := x
  simp only [It.val] at *
  subst hk
  go_enter Try.func13, Try.ntmps13
  go_wp2_with (go_at_call 30; refine K.mono ?_; rintro e w1 ⟨⟨m, rfl⟩, hq⟩)
  exact hq

set_option maxHeartbeats 400000 in
theorem write_call1 (p : Value) (x : It) (w : World) (hk : x.kd = 1) (Q : Ending → World → Prop)
    (K : Calls Try.prog 31 #[p, .int .i64 x.n] (w.alloc (.cells #[.int .i64 x.kd, .int .i64 x.n, .string x.s] 32)) fun e w' => (∃ n, e = .returned (.int .i64 n)) ∧ Q e w') :
    Calls Try.prog 13 #[p, x.val] w Q := by
  obtain ⟨kd, n, s⟩ := x
  simp only [It.val] at *
  subst hk
  go_enter Try.func13, Try.ntmps13
  go_wp2_with (go_at_call 31; refine K.mono ?_; rintro e w1 ⟨⟨m, rfl⟩, hq⟩)
  exact hq

set_option maxHeartbeats 400000 in
theorem write_call2 (p : Value) (x : It) (w : World) (hk : x.kd = 2) (Q : Ending → World → Prop)
    (K : Calls Try.prog 32 #[p, .bool (decide (0 < x.n))] (w.alloc (.cells #[.int .i64 x.kd, .int .i64 x.n, .string x.s] 32)) fun e w' => (∃ n, e = .returned (.int .i64 n)) ∧ Q e w') :
    Calls Try.prog 13 #[p, x.val] w Q := by
  obtain ⟨kd, n, s⟩ := x
  simp only [It.val] at *
  subst hk
  go_enter Try.func13, Try.ntmps13
  go_wp2_with (go_at_call 32; refine K.mono ?_; rintro e w1 ⟨⟨m, rfl⟩, hq⟩)
  exact hq

set_option maxHeartbeats 400000 in
theorem write_call3 (p : Value) (x : It) (w : World) (hk : x.kd = 3) (Q : Ending → World → Prop)
    (K : Calls Try.prog 33 #[p, .string x.s] (w.alloc (.cells #[.int .i64 x.kd, .int .i64 x.n, .string x.s] 32)) fun e w' => (∃ n, e = .returned (.int .i64 n)) ∧ Q e w') :
    Calls Try.prog 13 #[p, x.val] w Q := by
  obtain ⟨kd, n, s⟩ := x
  simp only [It.val] at *
  subst hk
  go_enter Try.func13, Try.ntmps13
  go_wp2_with (go_at_call 33; refine K.mono ?_; rintro e w1 ⟨⟨m, rfl⟩, hq⟩)
  exact hq

set_option maxHeartbeats 400000 in
theorem write_call4 (p : Value) (x : It) (w : World) (k0 : ¬ x.kd = 0) (k1 : ¬ x.kd = 1) (k2 : ¬ x.kd = 2) (k3 : ¬ x.kd = 3) (Q : Ending → World → Prop)
    (K : Calls Try.prog 34 #[p, .int .i64 x.n] (w.alloc (.cells #[.int .i64 x.kd, .int .i64 x.n, .string x.s] 32)) fun e w' => (∃ n, e = .returned (.int .i64 n)) ∧ Q e w') :
    Calls Try.prog 13 #[p, x.val] w Q := by
  obtain ⟨kd, n, s⟩ := x
  simp only [It.val] at *
  have t0 : (kd == 0) = false := by simp; omega
  have t1 : (kd == 1) = false := by simp; omega
  have t2 : (kd == 2) = false := by simp; omega
  have t3 : (kd == 3) = false := by simp; omega
  go_enter Try.func13, Try.ntmps13
  go_wp2_with (go_at_call 34; refine K.mono ?_; rintro e w1 ⟨⟨m, rfl⟩, hq⟩)
  exact hq

theorem write_nil (p : Value) (x : It) (w : World) (hm : ∀ o, Calls Try.prog 35 #[p] (w.alloc o) fun e w' => e = .returned (.bool true) ∧ w' = w.alloc o) :
    Calls Try.prog 13 #[p, x.val] w fun e w' => e = .returned (.int .i64 2) ∧ Below w.heap.size w w' := by
  have fin : ∀ (o : Obj) (e : Ending) (w' : World), (e = .returned (.int .i64 2) ∧ w' = w.alloc o) → (∃ n, e = .returned (.int .i64 n)) ∧ e = .returned (.int .i64 2) ∧ Below w.heap.size w w' := by
    rintro o e w' ⟨rfl, rfl⟩
    exact ⟨⟨2, rfl⟩, rfl, (Below.refl _ _).alloc (Nat.le_refl _) _⟩
  by_cases k0 : x.kd = 0
  · exact write_call0 p x w k0 _ ((wByte_nil p x.n _ (hm _)).mono (fin _))
  by_cases k1 : x.kd = 1
  · exact write_call1 p x w k1 _ ((wNumber_nil p x.n _ (hm _)).mono (fin _))
  by_cases k2 : x.kd = 2
  · exact write_call2 p x w k2 _ ((wFlag_nil p _ _ (hm _)).mono (fin _))
  by_cases k3 : x.kd = 3
  · exact write_call3 p x w k3 _ ((wText_nil p x.s _ (hm _)).mono (fin _))
  exact write_call4 p x w k0 k1 k2 k3 _ ((wList_nil p x.n _ (hm _)).mono (fin _))

theorem write_any (b : Nat) (x : It) (sv : Value) (bs : List UInt8) (w : World) (h1 : -9223372036854775808 ≤ x.n) (h2 : x.n ≤ 9223372036854775807) (hw : WR w b sv bs) (hl : bs.length ≤ 1099511627000) :
    Calls Try.prog 13 #[.pointer (some ⟨b, 0, none⟩), x.val] w fun e w' => e = .returned (.int .i64 (itE x)) ∧ ∃ sv', WStep w w' b sv sv' (bs ++ itB x) := by
  have hF : ∀ o, Fr [] w (w.alloc o) := fun o => (Fr.refl _ _).alloc _
  have hw1 : ∀ o, WR (w.alloc o) b sv bs := fun o => hw.new (hF o)
  have bad : ∀ (E : Int) (o : Obj), itE x = E → E ≠ 0 → ∀ (e : Ending) (w' : World), (e = .returned (.int .i64 E) ∧ w' = w.alloc o) → (∃ n, e = .returned (.int .i64 n)) ∧ e = .returned (.int .i64 (itE x)) ∧ ∃ sv', WStep w w' b sv sv' (bs ++ itB x) := by
    rintro E o hE hne e w' ⟨rfl, rfl⟩
    rw [itB_bad (by rw [hE]; exact hne), hE]
    exact ⟨⟨_, rfl⟩, rfl, step_none hw (hF o)⟩
  have ok : ∀ (l : List UInt8) (o : Obj), itE x = 0 → itR x = l → ∀ (e : Ending) (w' : World), (e = .returned (.int .i64 0) ∧ ∃ sv', WStep (w.alloc o) w' b sv sv' (bs ++ l)) → (∃ n, e = .returned (.int .i64 n)) ∧ e = .returned (.int .i64 (itE x)) ∧ ∃ sv', WStep w w' b sv sv' (bs ++ itB x) := by
    rintro l o hE hR e w' ⟨rfl, hst⟩
    rw [itB_ok hE, hE, hR]
    exact ⟨⟨_, rfl⟩, rfl, step_some (hF o) hst⟩
  by_cases k0 : x.kd = 0
  · refine write_call0 _ x w k0 _ ?_
    by_cases hn : x.n < 0 ∨ 255 < x.n
    · exact (wByte_bad b x.n sv bs _ hn (hw1 _)).mono (bad 1 _ (by unfold itE; rw [if_pos k0, if_pos hn]) (by decide))
    · exact (wByte_ok b x.n sv bs _ (by omega) (by omega) (hw1 _) (by omega)).mono (ok _ _ (by unfold itE; rw [if_pos k0, if_neg hn]) (by unfold itR; rw [if_pos k0]))
  by_cases k1 : x.kd = 1
  · exact write_call1 _ x w k1 _ ((wNumber_any b x.n sv bs _ h1 h2 (hw1 _) (by omega)).mono (ok _ _ (by unfold itE; rw [if_neg k0, if_pos k1]) (by unfold itR; rw [if_neg k0, if_pos k1])))
  by_cases k2 : x.kd = 2
  · exact write_call2 _ x w k2 _ ((wFlag_any b _ sv bs _ (hw1 _) (by omega)).mono (ok _ _ (by unfold itE; rw [if_neg k0, if_neg k1, if_pos k2]) (by unfold itR; rw [if_neg k0, if_neg k1, if_pos k2])))
  by_cases k3 : x.kd = 3
  · refine write_call3 _ x w k3 _ ?_
    by_cases hn : 65536 < x.s.size
    · exact (wText_bad b x.s sv bs _ hn (hw1 _)).mono (bad 3 _ (by unfold itE; rw [if_neg k0, if_neg k1, if_neg k2, if_pos k3, if_pos hn]) (by decide))
    · exact (wText_ok b x.s sv bs _ (by omega) (hw1 _) hl).mono (ok _ _ (by unfold itE; rw [if_neg k0, if_neg k1, if_neg k2, if_pos k3, if_neg hn]) (by unfold itR; rw [if_neg k0, if_neg k1, if_neg k2, if_pos k3]))
  refine write_call4 _ x w k0 k1 k2 k3 _ ?_
  by_cases hn : x.n < 0
  · exact (wList_low b x.n sv bs _ hn (hw1 _)).mono (bad 1 _ (by unfold itE; rw [if_neg k0, if_neg k1, if_neg k2, if_neg k3, if_pos hn]) (by decide))
  by_cases hm : 65536 < x.n
  · exact (wList_high b x.n sv bs _ hm (hw1 _)).mono (bad 3 _ (by unfold itE; rw [if_neg k0, if_neg k1, if_neg k2, if_neg k3, if_neg hn, if_pos hm]) (by decide))
  exact (wList_ok b x.n sv bs _ (by omega) (by omega) (hw1 _) (by omega)).mono (ok _ _ (by unfold itE; rw [if_neg k0, if_neg k1, if_neg k2, if_neg k3, if_neg hn, if_neg hm]) (by unfold itR; rw [if_neg k0, if_neg k1, if_neg k2, if_neg k3]))

end Go.Proofs.Ytjoiecphjapbaaa
