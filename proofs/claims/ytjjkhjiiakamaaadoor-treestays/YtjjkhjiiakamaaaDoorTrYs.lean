/- Plain facts of who is in a tree to which someone came, or that someone left. No walk is in this text. -/
import Derived.Test.YtjjkhjiiakamaaaDoorTrY2
namespace Go.Proofs.YtjjkhjiiakamaaaDoor
open Go.RowKit Go.Maps

theorem leaf_far {T : List Nd} {j : Nat} (h : nlv T ≤ j) : ndAt T (2 * j) = nd0 := ndAt_ge (by have := len_le T; omega)
/-- Who is in, by the eight leaves that there may be. -/
theorem mems8 {T : List Nd} (h : nlv T ≤ 8) : mems T = ((List.range 8).filter fun j => pos (ndAt T (2 * j))).map fun j => (ndAt T (2 * j)).mem := by
  have e : List.range 8 = List.range (nlv T) ++ (List.range (8 - nlv T)).map (nlv T + ·) := by rw [← List.range_add]; congr 1; omega
  have z : ((List.range (8 - nlv T)).map (nlv T + ·)).filter (fun j => pos (ndAt T (2 * j))) = [] := by
    rw [List.filter_eq_nil_iff]
    intro j hj
    obtain ⟨k, _, rfl⟩ := List.mem_map.1 hj
    rw [leaf_far (by omega)]; simp [pos, nd0]
  rw [e, List.filter_append, z, List.append_nil]
  unfold mems memsOf lvs
  rw [List.filter_map, List.map_map]; rfl
theorem mems_congr {T T' : List Nd} (h : nlv T ≤ 8) (h' : nlv T' ≤ 8) (hh : ∀ j, j < 8 → pos (ndAt T (2 * j)) = pos (ndAt T' (2 * j)) ∧ (pos (ndAt T (2 * j)) = true → (ndAt T (2 * j)).mem = (ndAt T' (2 * j)).mem)) : mems T = mems T' := by
  rw [mems8 h, mems8 h']
  have e : ((List.range 8).filter fun j => pos (ndAt T (2 * j))) = ((List.range 8).filter fun j => pos (ndAt T' (2 * j))) := List.filter_congr fun j hj => (hh j (List.mem_range.1 hj)).1
  rw [← e]
  refine List.map_congr_left fun j hj => ?_
  obtain ⟨h1, h2⟩ := List.mem_filter.1 hj
  exact (hh j (List.mem_range.1 h1)).2 h2
theorem filt_one {p q : Nat → Bool} {i : Nat} (h1 : p i = false) (h2 : q i = true) (h3 : ∀ j, j ≠ i → p j = q j) : ∀ l : List Nat, l.Nodup → i ∈ l → (l.filter q).length = (l.filter p).length + 1
  | [], _, h => by cases h
  | x :: l, hn, hm => by
    have hn := List.nodup_cons.1 hn
    by_cases c : x = i
    · subst c
      have e : l.filter q = l.filter p := List.filter_congr fun j hj => (h3 j (fun hc => hn.1 (hc ▸ hj))).symm
      rw [List.filter_cons, if_pos h2, List.filter_cons, h1, e]; simp
    · have ih := filt_one h1 h2 h3 l hn.2 ((List.mem_cons.1 hm).resolve_left (fun h => c h.symm))
      rw [List.filter_cons, List.filter_cons, h3 x c]
      split <;> simp [ih]
theorem mems_one {T T' : List Nd} (h : nlv T ≤ 8) (h' : nlv T' ≤ 8) {i : Nat} (hi : i < 8) (h1 : pos (ndAt T (2 * i)) = false) (h2 : pos (ndAt T' (2 * i)) = true) (h3 : ∀ j, j ≠ i → pos (ndAt T (2 * j)) = pos (ndAt T' (2 * j))) : (mems T').length = (mems T).length + 1 := by
  rw [mems8 h, mems8 h', List.length_map, List.length_map]
  exact filt_one h1 h2 h3 _ List.nodup_range (List.mem_range.2 hi)
/-- The leaves of a tree to which someone came. -/
theorem add_leaves {T : List Nd} {m e p : Int} (h : addE T m e p = 0) : fb T < 8 ∧ nlv (addT T m e p) ≤ 8 ∧ fb T < nlv (addT T m e p) ∧ ndAt (addT T m e p) (2 * fb T) = ⟨p, m, e, []⟩ ∧ ∀ j, j ≠ fb T → ndAt (addT T m e p) (2 * j) = ndAt T (2 * j) := by
  obtain ⟨hm, h0, h1, h2, h3, h4⟩ := addE_ok h
  obtain ⟨hR, hf, h8⟩ := wRoom_sizes hm h4
  have hn := add_nlv (T := T) (m := m) (e := e) (p := p) hR
  have hn8 := (ok_add h).wd.facts.2.2.2.1
  refine ⟨by omega, hn8, by omega, by rw [ndAt_add_leaf hR hf hf, if_pos rfl], fun j hj => ?_⟩
  rcases Nat.lt_or_ge j (nlv (addT T m e p)) with c | c
  · rw [ndAt_add_leaf hR hf (by omega), if_neg hj]
  · rw [leaf_far c, leaf_far]
    have := fb_le T
    unfold wRoom at hn
    split at hn <;> (try split at hn) <;> omega
theorem add_pos {T : List Nd} {m e p : Int} (h : addE T m e p = 0) : pos (⟨p, m, e, []⟩ : Nd) = true := by
  have := (addE_ok h).2.2.2.1; unfold pos; simp; omega
theorem add_mems {T : List Nd} {m e p : Int} (h : addE T m e p = 0) : (mems (addT T m e p)).length = (mems T).length + 1 := by
  obtain ⟨a1, a2, a3, a4, a5⟩ := add_leaves h
  exact mems_one (mayB_15 (addE_ok h).1).2 a2 a1 (fb_blank T) (by rw [a4]; exact add_pos h) (fun j hj => by rw [a5 j hj])
theorem add_fnd {T : List Nd} {m e p : Int} (h : addE T m e p = 0) : fnd (addT T m e p) m = (fb T : Nat) := by
  obtain ⟨a1, a2, a3, a4, a5⟩ := add_leaves h
  refine fnd_hit a3 (fun j hj => ?_) ?_
  · rw [a5 j (by omega)]
    exact fnd_no (addE_ok h).2.2.2.2.1 j (by have := fb_le T; omega)
  · rw [a4]; unfold hit; rw [add_pos h]; simp
/-- The leaves of a tree that someone left. -/
theorem Rm.leaves {T R : List Nd} {i : Nat} (h : Rm T R i) : nlv R ≤ 8 ∧ i < 8 ∧ pos (ndAt R (2 * i)) = false ∧ ∀ j, j ≠ i → pos (ndAt R (2 * j)) = pos (ndAt T (2 * j)) ∧ (pos (ndAt R (2 * j)) = true → ndAt R (2 * j) = ndAt T (2 * j)) := by
  have hn := h.n
  have hi := h.i8
  have h8 := h.t8
  refine ⟨by omega, by omega, ?_, fun j hj => ?_⟩
  · rcases Nat.lt_or_ge i (nlv R) with c | c
    · rw [h.gone c]; rfl
    · rw [leaf_far c]; rfl
  · rcases Nat.lt_or_ge j (nlv R) with c | c
    · rw [h.leaf j c hj]; exact ⟨rfl, fun _ => rfl⟩
    · rw [leaf_far c]
      refine ⟨?_, fun q => by cases q⟩
      rcases Nat.lt_or_ge j (nlv T) with c2 | c2
      · rw [h.far j c c2 hj]; rfl
      · rw [leaf_far c2]
theorem rem_mems {T : List Nd} {m : Int} (h : remE T m = 0) : (mems T).length = (mems (remT T m)).length + 1 ∧ fnd (remT T m) m = -1 := by
  obtain ⟨i, hf, hh, hr⟩ := rm_of h
  obtain ⟨a1, a2, a3, a4⟩ := hr.leaves
  have hip : pos (ndAt T (2 * i)) = true ∧ (ndAt T (2 * i)).mem = m := by unfold hit at hh; simpa using hh
  refine ⟨mems_one a1 hr.t8 a2 a3 hip.1 (fun j hj => (a4 j hj).1), fnd_none fun j hj => ?_⟩
  cases q : hit m (ndAt (remT T m) (2 * j))
  · rfl
  · exfalso
    unfold hit at q
    have q : pos (ndAt (remT T m) (2 * j)) = true ∧ (ndAt (remT T m) (2 * j)).mem = m := by simpa using q
    have hji : j ≠ i := fun hc => by subst hc; rw [a3] at q; cases q.1
    obtain ⟨b1, b2⟩ := a4 j hji
    rw [b2 q.1] at q
    have hjn : j < nlv T := by have := hr.n; omega
    have hd := mems_nodup.1 (nodup_all (remE_ok h).1)
    have hin := hr.i8
    rcases Nat.lt_or_gt_of_ne hji with c | c
    · exact hd j i c hin q.1 hip.1 (by rw [q.2, hip.2])
    · exact hd i j c hjn hip.1 q.1 (by rw [q.2, hip.2])
/-- Who came in and goes again leaves the same members. -/
theorem add_rem {T : List Nd} {m e p : Int} (h : addE T m e p = 0) (hne : mems T ≠ []) : remE (addT T m e p) m = 0 ∧ mems (remT (addT T m e p) m) = mems T := by
  obtain ⟨a1, a2, a3, a4, a5⟩ := add_leaves h
  have hE : remE (addT T m e p) m = 0 := by
    unfold remE
    rw [mayB_add h, add_fnd h, add_mems h]
    have : (mems T).length ≠ 0 := fun hc => hne (List.eq_nil_of_length_eq_zero hc)
    rw [if_neg (by simp), if_neg (by omega), if_neg (by omega)]
  refine ⟨hE, ?_⟩
  obtain ⟨i, hf, hh, hr⟩ := rm_of hE
  rw [add_fnd h] at hf
  obtain rfl : fb T = i := by omega
  obtain ⟨b1, b2, b3, b4⟩ := hr.leaves
  refine mems_congr b1 (mayB_15 (addE_ok h).1).2 fun j _ => ?_
  by_cases c : j = fb T
  · subst c; rw [b3, fb_blank]; exact ⟨rfl, fun q => by cases q⟩
  · obtain ⟨c1, c2⟩ := b4 j c
    rw [← a5 j c]
    exact ⟨c1, fun q => by rw [c2 q]⟩
end Go.Proofs.YtjjkhjiiakamaaaDoor
