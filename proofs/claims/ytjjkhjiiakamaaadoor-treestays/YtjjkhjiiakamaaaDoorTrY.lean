/- Plain facts of trees to which someone comes, and of trees that someone leaves: they may be. No walk is in this text. -/
import Derived.Test.YtjjkhjiiakamaaaDoorTrX
namespace Go.Proofs.YtjjkhjiiakamaaaDoor
open Go.RowKit Go.Maps

theorem unM_mk {T : List Nd} {L : Int} : ∀ {l : List Int} {f : Int}, l.Pairwise (· < ·) → (∀ u ∈ l, f ≤ u ∧ u ≤ L ∧ pos (ndAt T (2 * u.toNat)) = true) → unM T f L l = true
  | [], _, _, _ => rfl
  | u :: us, f, hp, h => by
    have hp := List.pairwise_cons.1 hp
    obtain ⟨h1, h2, h3⟩ := h u (by simp)
    have ih := unM_mk (T := T) (L := L) (l := us) (f := u + 1) hp.2 (fun z hz => by
      have := h z (by simp [hz]); have := hp.1 z hz
      exact ⟨by omega, (h z (by simp [hz])).2⟩)
    simp only [unM, Bool.and_eq_true, decide_eq_true_eq]
    exact ⟨⟨⟨h1, h2⟩, h3⟩, ih⟩
theorem insU_cons (u z : Int) (l : List Int) : insU u (z :: l) = if z < u then z :: insU u l else u :: z :: l := by
  unfold insU
  by_cases c : z < u <;> simp [c]
theorem insU_mem (u x : Int) : ∀ l : List Int, x ∈ insU u l ↔ x = u ∨ x ∈ l
  | [] => by simp [insU]
  | z :: l => by
    rw [insU_cons]
    split
    · rw [List.mem_cons, insU_mem u x l, List.mem_cons]
      constructor
      · rintro (h | h | h) <;> simp [h]
      · rintro (h | h | h) <;> simp [h]
    · simp
theorem insU_sorted (u : Int) : ∀ l : List Int, l.Pairwise (· < ·) → u ∉ l → (insU u l).Pairwise (· < ·)
  | [], _, _ => by simp [insU]
  | z :: l, hp, hn => by
    have hp := List.pairwise_cons.1 hp
    rw [insU_cons]
    have hzu : u ≠ z := fun h => hn (by simp [h])
    have hl : u ∉ l := fun h => hn (by simp [h])
    split
    · refine List.Pairwise.cons (fun x hx => ?_) (insU_sorted u l hp.2 hl)
      rcases (insU_mem u x l).1 hx with rfl | hx
      · assumption
      · exact hp.1 x hx
    · refine List.Pairwise.cons (fun x hx => ?_) (List.Pairwise.cons hp.1 hp.2)
      rcases List.mem_cons.1 hx with rfl | hx
      · omega
      · have := hp.1 x hx; omega
theorem anyM_iff (T : List Nd) (a b : Nat) : anyM T a b = true ↔ ∃ i, a ≤ i ∧ i < b ∧ pos (ndAt T (2 * i)) = true := by
  unfold anyM
  rw [List.any_eq_true]
  constructor
  · rintro ⟨i, hi, h⟩
    simp at h
    exact ⟨i, h.1, List.mem_range.1 hi, h.2⟩
  · rintro ⟨i, h1, h2, h3⟩
    exact ⟨i, List.mem_range.2 h2, by simp [h1, h3]⟩
theorem mems_nodup {T : List Nd} : (mems T).Nodup ↔ ∀ i j, i < j → j < nlv T → pos (ndAt T (2 * i)) = true → pos (ndAt T (2 * j)) = true → (ndAt T (2 * i)).mem ≠ (ndAt T (2 * j)).mem := by
  unfold mems memsOf lvs List.Nodup
  rw [List.pairwise_map, List.pairwise_filter, List.pairwise_map, List.pairwise_iff_getElem]
  simp only [List.length_range, List.getElem_range]
  constructor
  · intro h i j h1 h2; exact h i j (by omega) h2 h1
  · intro h i j h1 h2 h3; exact h i j h3 h2
theorem ndM_all {T : List Nd} (h : mayB T = true) (x : Nat) : ndM T x = true := by
  rcases Nat.lt_or_ge x T.length with c | c
  · exact (mayB_okn h (by omega)).nd x c
  · unfold ndM; rw [ndAt_ge c]; simp [nd0]
theorem nodup_all {T : List Nd} (h : mayB T = true) : (mems T).Nodup := by
  rcases mayB_ok h with rfl | h
  · decide +kernel
  · exact h.nodup
theorem fnd_no {T : List Nd} {m : Int} (h : fnd T m < 0) : ∀ i, i < nlv T → hit m (ndAt T (2 * i)) = false := fun i hi => by
  unfold fnd at h
  split at h
  · omega
  · rename_i c
    have hl := lvs_len T
    have he : (lvs T).findIdx (hit m) = (lvs T).length := by have := List.findIdx_le_length (p := hit m) (xs := lvs T); omega
    have := List.findIdx_eq_length.1 he (ndAt T (2 * i)) (by unfold lvs; exact List.mem_map.2 ⟨i, List.mem_range.2 hi, rfl⟩)
    simpa using this
theorem fb_pos {T : List Nd} {i : Nat} (h : i < fb T) : pos (ndAt T (2 * i)) = true := by
  unfold fb at h
  have hlt : i < (lvs T).length := by have := List.findIdx_le_length (p := fun n => !pos n) (xs := lvs T); omega
  have := List.not_of_lt_findIdx h
  simpa [lvs] using this
theorem len_le (T : List Nd) : T.length ≤ 2 * nlv T := by unfold nlv; omega
theorem fb_blank (T : List Nd) : pos (ndAt T (2 * fb T)) = false := by
  have hle := fb_le T
  rcases Nat.lt_or_ge (fb T) (nlv T) with c | c
  · have := List.findIdx_getElem (p := fun n => !pos n) (xs := lvs T) (w := by rw [lvs_len]; exact c)
    simpa [lvs, fb] using this
  · rw [ndAt_ge (by have := len_le T; omega)]; rfl
theorem addE_ok {T : List Nd} {m e p : Int} (h : addE T m e p = 0) : mayB T = true ∧ 0 ≤ m ∧ 0 ≤ e ∧ 1 ≤ p ∧ fnd T m < 0 ∧ fb T ≠ 8 := by
  unfold addE at h
  split at h
  · omega
  · rename_i c
    split at h
    · omega
    · split at h
      · omega
      · refine ⟨by cases q : mayB T <;> simp_all, ?_, ?_, ?_, by omega, by omega⟩ <;> (simp only [not_or] at c; omega)
theorem add_len (T : List Nd) (m e p : Int) : (addT T m e p).length = 2 * wRoom (nlv T) (fb T) - 1 := by
  unfold addT; rw [onAll_len, List.length_set, fit_len]
theorem add_nlv {T : List Nd} {m e p : Int} (hR : wRoom (nlv T) (fb T) ∈ sizes) : nlv (addT T m e p) = wRoom (nlv T) (fb T) := by
  have : 0 < wRoom (nlv T) (fb T) := by simp [sizes] at hR; omega
  unfold nlv at *; rw [add_len]; unfold nlv; omega
theorem ndAt_add {T : List Nd} {m e p : Int} (hR : wRoom (nlv T) (fb T) ∈ sizes) (hf : fb T < wRoom (nlv T) (fb T)) {y : Nat} (hy : y < 2 * wRoom (nlv T) (fb T) - 1) :
    ndAt (addT T m e p) y = if y % 2 = 0 then (if y = 2 * fb T then ⟨p, m, e, []⟩ else ndAt T y) else if spF (y : Nat) ≤ (fb T : Nat) ∧ (fb T : Nat) ≤ spT (y : Nat) then addU (fb T : Nat) (ndAt T y) else ndAt T y := by
  unfold addT
  obtain ⟨d1, d2, d3, d4, d5, d6⟩ := up_of hR hf
  rw [ndAt_onAll _ _ _ _ d4, List.length_set, fit_len, ndAt_set, fit_len, ndAt_fit hy]
  have hin := up_in hR hf hy
  simp only [hin]
  by_cases c : y % 2 = 0
  · have c1 : ¬ y % 2 = 1 := by omega
    by_cases c2 : 2 * fb T = y
    · simp [c, c2, hy]
    · have c3 : ¬ y = 2 * fb T := fun h => c2 h.symm
      simp [c, c2, c3]
  · have c1 : y % 2 = 1 := by omega
    have c2 : ¬ 2 * fb T = y := by omega
    simp [c1, c2, hy]
theorem ndAt_add_leaf {T : List Nd} {m e p : Int} (hR : wRoom (nlv T) (fb T) ∈ sizes) (hf : fb T < wRoom (nlv T) (fb T)) {i : Nat} (hi : i < wRoom (nlv T) (fb T)) :
    ndAt (addT T m e p) (2 * i) = if i = fb T then ⟨p, m, e, []⟩ else ndAt T (2 * i) := by
  rw [ndAt_add hR hf (by omega), if_pos (by omega)]
  by_cases c : i = fb T
  · simp [c]
  · have : ¬ 2 * i = 2 * fb T := by omega
    simp [c, this]
theorem nd_pub {T : List Nd} (h : mayB T = true) (x : Nat) : pos (ndAt T x) = true → 0 < (ndAt T x).pub := fun hp => by
  have hm := ndM_all h x
  unfold ndM at hm
  have c : ¬ (ndAt T x).pub = 0 := fun h => by unfold pos at hp; simp [h] at hp
  rw [if_neg c] at hm
  by_cases c2 : (ndAt T x).pub < 0
  · rw [if_pos c2] at hm; cases hm
  · omega
theorem ok_add {T : List Nd} {m e p : Int} (h : addE T m e p = 0) : Ok (addT T m e p) := by
  obtain ⟨hm, h0, h1, h2, h3, h4⟩ := addE_ok h
  obtain ⟨hR, hf, h8⟩ := wRoom_sizes hm h4
  have hn := add_nlv (T := T) (m := m) (e := e) (p := p) hR
  have hbl := fb_blank T
  have hp : pos (⟨p, m, e, []⟩ : Nd) = true := by unfold pos; simp; omega
  have hmono : ∀ u : Nat, u < wRoom (nlv T) (fb T) → pos (ndAt T (2 * u)) = true → pos (ndAt (addT T m e p) (2 * u)) = true := fun u hu hh => by
    rw [ndAt_add_leaf hR hf hu]; split
    · exact hp
    · exact hh
  refine ⟨⟨_, hR, add_len T m e p⟩, fun x hx => ?_, ?_, ?_⟩
  · rw [add_len] at hx
    have hT := ndM_all hm x
    have ha := ndAt_add (m := m) (e := e) (p := p) hR hf hx
    obtain ⟨⟨s1, s2, s3, s4⟩, _⟩ := span_of hR hx
    rcases Nat.mod_two_eq_zero_or_one x with c | c
    · rw [if_pos c] at ha
      unfold ndM at hT ⊢
      by_cases c2 : x = 2 * fb T
      · rw [if_pos c2] at ha
        rw [ha, if_neg (show ¬ p = 0 by omega), if_neg (show ¬ p < 0 by omega), if_pos c]
        simp [h0, h1]
      · rw [if_neg c2] at ha
        rw [ha]
        simpa [c] using hT
    · have c' : ¬ x % 2 = 0 := by omega
      rw [if_neg c'] at ha
      by_cases hz : (ndAt T x).pub = 0
      · have hq : pos (ndAt T x) = false := by unfold pos; simp [hz]
        have : ndAt (addT T m e p) x = ndAt T x := by
          rw [ha]; split
          · unfold addU; rw [hq]; simp
          · rfl
        unfold ndM at hT ⊢
        rw [this]
        rw [if_pos hz] at hT ⊢
        exact hT
      · have hq : pos (ndAt T x) = true := by unfold pos; simp [hz]
        have hpp := nd_pub hm x hq
        unfold ndM at hT ⊢
        rw [if_neg hz, if_neg (show ¬ (ndAt T x).pub < 0 by omega), if_neg c'] at hT
        simp only [Bool.and_eq_true] at hT
        obtain ⟨⟨t1, t2⟩, t3⟩ := hT
        obtain ⟨u1, u2⟩ := unM_sorted t3
        obtain ⟨_, u4⟩ := unM_bounds t3
        have base : ∀ u ∈ (ndAt T x).un, spF (x : Nat) ≤ u ∧ u ≤ spT (x : Nat) ∧ pos (ndAt (addT T m e p) (2 * u.toNat)) = true := fun u hu => by
          obtain ⟨a1, a2, a3⟩ := u4 u hu
          exact ⟨a1, a2, hmono _ (by omega) a3⟩
        by_cases c2 : spF (x : Nat) ≤ (fb T : Nat) ∧ (fb T : Nat) ≤ spT (x : Nat)
        · rw [if_pos c2] at ha
          unfold addU at ha
          rw [if_pos hq] at ha
          rw [ha]
          simp only
          rw [if_neg hz, if_neg (show ¬ (ndAt T x).pub < 0 by omega), if_neg c']
          simp only [Bool.and_eq_true]
          refine ⟨⟨t1, t2⟩, unM_mk (insU_sorted _ _ u1 (fun hc => ?_)) (fun u hu => ?_)⟩
          · have := (u4 _ hc).2.2
            rw [Int.toNat_natCast, hbl] at this; cases this
          · rcases (insU_mem _ _ _).1 hu with rfl | hu
            · refine ⟨c2.1, c2.2, ?_⟩
              rw [Int.toNat_natCast, ndAt_add_leaf hR hf hf, if_pos rfl]; exact hp
            · exact base u hu
        · rw [if_neg c2] at ha
          rw [ha]
          rw [if_neg hz, if_neg (show ¬ (ndAt T x).pub < 0 by omega), if_neg c']
          simp only [Bool.and_eq_true]
          exact ⟨⟨t1, t2⟩, unM_mk u1 base⟩
  · rw [mems_nodup, hn]
    intro i j hij hj hpi hpj
    have hd := mems_nodup.1 (nodup_all hm)
    have hnl : ∀ k, pos (ndAt T (2 * k)) = true → k < nlv T := fun k hk => by
      apply Decidable.byContradiction; intro c
      rw [ndAt_ge (by have := len_le T; omega)] at hk; cases hk
    rw [ndAt_add_leaf hR hf (by omega)] at hpi ⊢
    rw [ndAt_add_leaf hR hf hj] at hpj ⊢
    have hno : ∀ k, pos (ndAt T (2 * k)) = true → (ndAt T (2 * k)).mem ≠ m := fun k hk hc => by
      have := fnd_no h3 k (hnl k hk)
      unfold hit at this; rw [hk, hc] at this; simp at this
    by_cases ci : i = fb T
    · rw [if_pos ci] at hpi ⊢
      rw [if_neg (by omega)] at hpj ⊢
      exact fun hc => hno j hpj hc.symm
    · rw [if_neg ci] at hpi ⊢
      by_cases cj : j = fb T
      · rw [if_pos cj] at hpj ⊢
        exact hno i hpi
      · rw [if_neg cj] at hpj ⊢
        exact hd i j hij (hnl j hpj) hpi hpj
  · rw [hn, anyM_iff]
    have hle := fb_le T
    by_cases c : fb T < nlv T
    · have hw : wRoom (nlv T) (fb T) = nlv T := by unfold wRoom; rw [if_pos c]
      have ok := mayB_okn hm (nlv_pos (by omega))
      obtain ⟨i, i1, i2, i3⟩ := (anyM_iff _ _ _).1 ok.right
      exact ⟨i, by omega, by omega, hmono i (by omega) i3⟩
    · refine ⟨fb T, ?_, hf, ?_⟩
      · unfold wRoom; rw [if_neg c]; split <;> omega
      · rw [ndAt_add_leaf hR hf hf, if_pos rfl]; exact hp
theorem mayB_add {T : List Nd} {m e p : Int} (h : addE T m e p = 0) : mayB (addT T m e p) = true := (ok_add h).mayB
end Go.Proofs.YtjjkhjiiakamaaaDoor
