/- Disks, plainly: rows of writes, falls with no bits and with the bits 0101.., halves, cuts. No program is in this text. -/
import Derived.Test.YtimhjheigejjmabDkPure
import Derived.Test.YtimhjheigejjmabDkFrame
namespace Go.Proofs.Ytimhjheigejjmab

theorem DS.write_plain {S : DS} (hu : S.up = true) (hc : S.cut = none) (a : Int) (s : ByteArray) : S.write a s = if a < 0 ∨ (S.N : Int) ≤ a ∨ s.size ≠ 64 then (S, 1) else ((S.put a.toNat s).did, 0) := by
  unfold DS.write
  rw [hu]
  simp only [Bool.true_eq_false, if_false]
  split
  · rfl
  · simp [DS.come, hc]
/-- The writes of a list, one behind the other. -/
def wrs (S : DS) (l : List Wr) : DS := l.foldl (fun S x => (S.write x.at_ x.s).1) S
theorem wrs_take {S : DS} {l : List Wr} {i : Nat} {x : Wr} (h : l[i]? = some x) : wrs S (l.take (i + 1)) = ((wrs S (l.take i)).write x.at_ x.s).1 := by
  unfold wrs
  rw [List.take_add_one, h]
  simp [List.foldl_append]
theorem wrs_snoc (S : DS) (l : List Wr) (x : Wr) : wrs S (l ++ [x]) = ((wrs S l).write x.at_ x.s).1 := by simp [wrs, List.foldl_append]
/-- What a row of writes leaves as it is, and what it adds. -/
structure Wrote (S T : DS) (l : List Wr) : Prop where
  up : T.up = true
  cut : T.cut = none
  N : T.N = S.N
  base : T.base = S.base
  cnt : T.cnt ≤ S.cnt + l.length
  len : T.since.length ≤ S.since.length + l.length
  mem : ∀ p ∈ T.since, p ∈ S.since ∨ ∃ x ∈ l, x.at_ = (p.1 : Int) ∧ x.s = p.2 ∧ x.s.size = 64
theorem wrote {S : DS} (hu : S.up = true) (hc : S.cut = none) (l : List Wr) : Wrote S (wrs S l) l := by
  induction l generalizing S with
  | nil => exact ⟨hu, hc, rfl, rfl, by simp [wrs], by simp [wrs], fun p hp => Or.inl hp⟩
  | cons x l ih =>
    have e : wrs S (x :: l) = wrs (S.write x.at_ x.s).1 l := rfl
    rw [e, DS.write_plain hu hc]
    split
    · have h := ih hu hc
      exact ⟨h.up, h.cut, h.N, h.base, by have := h.cnt; simp; omega, by have := h.len; simp; omega, fun p hp => (h.mem p hp).imp id (fun ⟨y, h1, h2⟩ => ⟨y, by simp [h1], h2⟩)⟩
    · rename_i hx
      have h := ih (S := (S.put x.at_.toNat x.s).did) hu hc
      refine ⟨h.up, h.cut, h.N, h.base, by have := h.cnt; simp [DS.did, DS.put] at this ⊢; omega, by have := h.len; simp [DS.did, DS.put] at this ⊢; omega, fun p hp => ?_⟩
      rcases h.mem p hp with hp | ⟨y, h1, h2⟩
      · simp only [DS.did, DS.put, List.mem_append, List.mem_singleton] at hp
        rcases hp with hp | rfl
        · exact Or.inl hp
        · exact Or.inr ⟨x, by simp, by simp only; omega, rfl, by omega⟩
      · exact Or.inr ⟨y, by simp [h1], h2⟩
theorem wrs_size {S : DS} (hu : S.up = true) (hc : S.cut = none) (l : List Wr) : (wrs S l).up = true ∧ (wrs S l).cut = none := ⟨(wrote hu hc l).up, (wrote hu hc l).cut⟩

theorem fate_zero (i : Nat) : fate 0 i = 0 := by unfold fate; rw [Int.zero_ediv]; decide
theorem upd_id (f : Nat → ByteArray) (k : Nat) : upd f k (f k) = f := by funext j; unfold upd; split <;> simp_all
theorem fl_zero (l : List (Nat × ByteArray)) (i : Nat) (f : Nat → ByteArray) : fl 0 i f l = f := by
  induction l generalizing i f with
  | nil => rfl
  | cons p l ih => simp only [fl, ih, fate_zero]; exact upd_id f p.1
theorem fall_zero (S : DS) : (S.fall 0).base = S.base := by simp [DS.fall, fl_zero]
theorem fate_kept : ∀ i, i < 31 → fate 6148914691236517205 i = 1 := by decide
theorem fl_kept (l : List (Nat × ByteArray)) (i : Nat) (f : Nat → ByteArray) (h : i + l.length ≤ 31) : fl 6148914691236517205 i f l = cur f l := by
  induction l generalizing i f with
  | nil => rfl
  | cons p l ih =>
    simp only [List.length_cons] at h
    simp only [fl, cur_cons]
    rw [ih _ _ (by omega), fate_kept i (by omega)]
    simp [torn]
theorem fall_kept (S : DS) (h : S.since.length ≤ 31) : (S.fall 6148914691236517205).base = S.now := by
  simp only [DS.fall, DS.now]
  rw [List.take_of_length_le h, fl_kept _ _ _ (by omega)]

/-! Halves. -/
def Half (a b : Nat) (l : List (Nat × ByteArray)) (f : Nat → ByteArray) (k : Nat) (s : ByteArray) : Prop := s.extract a b = (f k).extract a b ∨ ∃ p ∈ l, p.1 = k ∧ s.extract a b = p.2.extract a b
theorem ext_app1 {x y : ByteArray} (h : x.size = 32) : (x ++ y).extract 0 32 = x := by
  cases x with | mk x => cases y with | mk y =>
  have h : x.size = 32 := h
  apply ByteArray.ext
  simp [ByteArray.data_extract, ByteArray.data_append, ← h]
theorem ext_app2 {x y : ByteArray} (h : x.size = 32) (h2 : y.size = 32) : (x ++ y).extract 32 64 = y := by
  cases x with | mk x => cases y with | mk y =>
  have h : x.size = 32 := h
  have h2 : y.size = 32 := h2
  apply ByteArray.ext
  apply Array.ext'
  have e1 : x.toList.length = 32 := by simpa using h
  have e2 : y.toList.length = 32 := by simpa using h2
  simp only [ByteArray.data_extract, ByteArray.data_append, Array.toList_extract, List.extract_eq_take_drop, Array.toList_append]
  rw [List.drop_append_of_le_length (by omega), List.drop_of_length_le (by omega), List.nil_append, List.take_of_length_le (by omega)]
theorem ext_size {s : ByteArray} (h : s.size = 64) : (s.extract 0 32).size = 32 ∧ (s.extract 32 64).size = 32 := by simp [ByteArray.size_extract, h]
theorem torn_half1 {b s : ByteArray} (hb : b.size = 64) (hs : s.size = 64) (h : Int) : (torn b s h).extract 0 32 = b.extract 0 32 ∨ (torn b s h).extract 0 32 = s.extract 0 32 := by
  unfold torn
  split
  · exact Or.inr rfl
  · split
    · exact Or.inr (ext_app1 (ext_size hs).1)
    · split
      · exact Or.inl (ext_app1 (ext_size hb).1)
      · exact Or.inl rfl
theorem torn_half2 {b s : ByteArray} (hb : b.size = 64) (hs : s.size = 64) (h : Int) : (torn b s h).extract 32 64 = b.extract 32 64 ∨ (torn b s h).extract 32 64 = s.extract 32 64 := by
  unfold torn
  split
  · exact Or.inr rfl
  · split
    · exact Or.inl (ext_app2 (ext_size hs).1 (ext_size hb).2)
    · split
      · exact Or.inr (ext_app2 (ext_size hb).1 (ext_size hs).2)
      · exact Or.inl rfl
theorem fl_half {a b : Nat} (ht : ∀ (x s : ByteArray) (h : Int), x.size = 64 → s.size = 64 → (torn x s h).extract a b = x.extract a b ∨ (torn x s h).extract a b = s.extract a b) (bits : Int) (l : List (Nat × ByteArray)) (i : Nat) (f : Nat → ByteArray) (hf : ∀ k, (f k).size = 64) (hl : ∀ p ∈ l, p.2.size = 64) (k : Nat) : Half a b l f k (fl bits i f l k) := by
  induction l generalizing i f with
  | nil => exact Or.inl rfl
  | cons p l ih =>
    have hp := hl p (by simp)
    have hq : ∀ k, (upd f p.1 (torn (f p.1) p.2 (fate bits i)) k).size = 64 := by
      intro j; unfold upd; split
      · exact torn_size _ (hf _) hp
      · exact hf j
    rcases ih (i + 1) _ hq (fun q hh => hl q (by simp [hh])) with h | ⟨q, h1, h2, h3⟩
    · simp only [fl]
      by_cases hk : k = p.1
      · subst hk
        rw [upd_same] at h
        rcases ht (f p.1) p.2 (fate bits i) (hf _) hp with c | c
        · exact Or.inl (h.trans c)
        · exact Or.inr ⟨p, by simp, rfl, h.trans c⟩
      · rw [upd_other _ _ hk] at h
        exact Or.inl h
    · exact Or.inr ⟨q, by simp [h1], h2, h3⟩
theorem fall_half {S : DS} (h : S.ok) (bits : Int) (k : Nat) : Half 0 32 S.since S.base k ((S.fall bits).base k) ∧ Half 32 64 S.since S.base k ((S.fall bits).base k) := by
  have hm : ∀ p ∈ S.since.take 31, p.2.size = 64 := fun p hp => (h.ats p (List.mem_of_mem_take hp)).2
  constructor
  · rcases fl_half (a := 0) (b := 32) (fun x s h hx hs => torn_half1 hx hs h) bits (S.since.take 31) 0 S.base h.sz hm k with c | ⟨p, c1, c2⟩
    · exact Or.inl c
    · exact Or.inr ⟨p, List.mem_of_mem_take c1, c2⟩
  · rcases fl_half (a := 32) (b := 64) (fun x s h hx hs => torn_half2 hx hs h) bits (S.since.take 31) 0 S.base h.sz hm k with c | ⟨p, c1, c2⟩
    · exact Or.inl c
    · exact Or.inr ⟨p, List.mem_of_mem_take c1, c2⟩

end Go.Proofs.Ytimhjheigejjmab
