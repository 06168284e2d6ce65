/- Texts joined: TrY TrY2. -/
import Derived.Test.YtaanacnloljlmaaGreatDoorZ12
/- Plain facts of trees to which someone comes, and of trees that someone leaves: they may be. No walk is in this text. -/
namespace Go.Proofs.YtaanacnloljlmaaGreatDoor
open Go.RowKit Go.Maps

theorem unM_mk {T : List Nd} {L : Int} : ∀ {l : List Int} {f : Int}, l.Pairwise (· < ·) → (∀ u ∈ l, f ≤ u ∧ u ≤ L ∧ pos (ndAt T (2 * u.toNat)) = true) → unM T f L l = true
  | [], _, _, _ => rfl
  | u :: us, f, hp, h => by
    have hp := List.pairwise_cons.1 hp
    obtain ⟨h1, h2, h3⟩ := h u (by simp)
    have ih := unM_mk (T := T) (L := L) (l := us) (f := u + 1) hp.2 (fun z hz => by
      have := h z (by simp [hz]); have := hp.1 z hz
      exact ⟨by omega, (h z (by simp [hz])).2⟩)
    simp only [unM, Bool.and_eq_true, decide_eq_true_eq]
    exact ⟨⟨⟨h1, h2⟩, h3⟩, ih⟩
theorem insU_cons (u z : Int) (l : List Int) : insU u (z :: l) = if z < u then z :: insU u l else u :: z :: l := by
  unfold insU
  by_cases c : z < u <;> simp [c]
theorem insU_mem (u x : Int) : ∀ l : List Int, x ∈ insU u l ↔ x = u ∨ x ∈ l
  | [] => by simp [insU]
  | z :: l => by
    rw [insU_cons]
    split
    · rw [List.mem_cons, insU_mem u x l, List.mem_cons]
      constructor
      · rintro (h | h | h) <;> simp [h]
      · rintro (h | h | h) <;> simp [h]
    · simp
theorem insU_sorted (u : Int) : ∀ l : List Int, l.Pairwise (· < ·) → u ∉ l → (insU u l).Pairwise (· < ·)
  | [], _, _ => by simp [insU]
  | z :: l, hp, hn => by
    have hp := List.pairwise_cons.1 hp
    rw [insU_cons]
    have hzu : u ≠ z := fun h => hn (by simp [h])
    have hl : u ∉ l := fun h => hn (by simp [h])
    split
    · refine List.Pairwise.cons (fun x hx => ?_) (insU_sorted u l hp.2 hl)
      rcases (insU_mem u x l).1 hx with rfl | hx
      · assumption
      · exact hp.1 x hx
    · refine List.Pairwise.cons (fun x hx => ?_) (List.Pairwise.cons hp.1 hp.2)
      rcases List.mem_cons.1 hx with rfl | hx
      · omega
      · have := hp.1 x hx; omega
theorem anyM_iff (T : List Nd) (a b : Nat) : anyM T a b = true ↔ ∃ i, a ≤ i ∧ i < b ∧ pos (ndAt T (2 * i)) = true := by
  unfold anyM
  rw [List.any_eq_true]
  constructor
  · rintro ⟨i, hi, h⟩
    simp at h
    exact ⟨i, h.1, List.mem_range.1 hi, h.2⟩
  · rintro ⟨i, h1, h2, h3⟩
    exact ⟨i, List.mem_range.2 h2, by simp [h1, h3]⟩
theorem mems_nodup {T : List Nd} : (mems T).Nodup ↔ ∀ i j, i < j → j < nlv T → pos (ndAt T (2 * i)) = true → pos (ndAt T (2 * j)) = true → (ndAt T (2 * i)).mem ≠ (ndAt T (2 * j)).mem := by
  unfold mems memsOf lvs List.Nodup
  rw [List.pairwise_map, List.pairwise_filter, List.pairwise_map, List.pairwise_iff_getElem]
  simp only [List.length_range, List.getElem_range]
  constructor
  · intro h i j h1 h2; exact h i j (by omega) h2 h1
  · intro h i j h1 h2 h3; exact h i j h3 h2
theorem ndM_all {T : List Nd} (h : mayB T = true) (x : Nat) : ndM T x = true := by
  rcases Nat.lt_or_ge x T.length with c | c
  · exact (mayB_okn h (by omega)).nd x c
  · unfold ndM; rw [ndAt_ge c]; simp [nd0]
theorem nodup_all {T : List Nd} (h : mayB T = true) : (mems T).Nodup := by
  rcases mayB_ok h with rfl | h
  · decide +kernel
  · exact h.nodup
theorem fnd_no {T : List Nd} {m : Int} (h : fnd T m < 0) : ∀ i, i < nlv T → hit m (ndAt T (2 * i)) = false := fun i hi => by
  unfold fnd at h
  split at h
  · omega
  · rename_i c
    have hl := lvs_len T
    have he : (lvs T).findIdx (hit m) = (lvs T).length := by have := List.findIdx_le_length (p := hit m) (xs := lvs T); omega
    have := List.findIdx_eq_length.1 he (ndAt T (2 * i)) (by unfold lvs; exact List.mem_map.2 ⟨i, List.mem_range.2 hi, rfl⟩)
    simpa using this
theorem fb_pos {T : List Nd} {i : Nat} (h : i < fb T) : pos (ndAt T (2 * i)) = true := by
  unfold fb at h
  have hlt : i < (lvs T).length := by have := List.findIdx_le_length (p := fun n => !pos n) (xs := lvs T); omega
  have := List.not_of_lt_findIdx h
  simpa [lvs] using this
theorem len_le (T : List Nd) : T.length ≤ 2 * nlv T := by unfold nlv; omega
theorem fb_blank (T : List Nd) : pos (ndAt T (2 * fb T)) = false := by
  have hle := fb_le T
  rcases Nat.lt_or_ge (fb T) (nlv T) with c | c
  · have := List.findIdx_getElem (p := fun n => !pos n) (xs := lvs T) (w := by rw [lvs_len]; exact c)
    simpa [lvs, fb] using this
  · rw [ndAt_ge (by have := len_le T; omega)]; rfl
theorem addE_ok {T : List Nd} {m e p : Int} (h : addE T m e p = 0) : mayB T = true ∧ 0 ≤ m ∧ 0 ≤ e ∧ 1 ≤ p ∧ fnd T m < 0 ∧ fb T ≠ 8 := by
  unfold addE at h
  split at h
  · omega
  · rename_i c
    split at h
    · omega
    · split at h
      · omega
      · refine ⟨by cases q : mayB T <;> simp_all, ?_, ?_, ?_, by omega, by omega⟩ <;> (simp only [not_or] at c; omega)
theorem add_len (T : List Nd) (m e p : Int) : (addT T m e p).length = 2 * wRoom (nlv T) (fb T) - 1 := by
  unfold addT; rw [onAll_len, List.length_set, fit_len]
theorem add_nlv {T : List Nd} {m e p : Int} (hR : wRoom (nlv T) (fb T) ∈ sizes) : nlv (addT T m e p) = wRoom (nlv T) (fb T) := by
  have : 0 < wRoom (nlv T) (fb T) := by simp [sizes] at hR; omega
  unfold nlv at *; rw [add_len]; unfold nlv; omega
theorem ndAt_add {T : List Nd} {m e p : Int} (hR : wRoom (nlv T) (fb T) ∈ sizes) (hf : fb T < wRoom (nlv T) (fb T)) {y : Nat} (hy : y < 2 * wRoom (nlv T) (fb T) - 1) :
    ndAt (addT T m e p) y = if y % 2 = 0 then (if y = 2 * fb T then ⟨p, m, e, []⟩ else ndAt T y) else if spF (y : Nat) ≤ (fb T : Nat) ∧ (fb T : Nat) ≤ spT (y : Nat) then addU (fb T : Nat) (ndAt T y) else ndAt T y := by
  unfold addT
  obtain ⟨d1, d2, d3, d4, d5, d6⟩ := up_of hR hf
  rw [ndAt_onAll _ _ _ _ d4, List.length_set, fit_len, ndAt_set, fit_len, ndAt_fit hy]
  have hin := up_in hR hf hy
  simp only [hin]
  by_cases c : y % 2 = 0
  · have c1 : ¬ y % 2 = 1 := by omega
    by_cases c2 : 2 * fb T = y
    · simp [c, c2, hy]
    · have c3 : ¬ y = 2 * fb T := fun h => c2 h.symm
      simp [c, c2, c3]
  · have c1 : y % 2 = 1 := by omega
    have c2 : ¬ 2 * fb T = y := by omega
    simp [c1, c2, hy]
theorem ndAt_add_leaf {T : List Nd} {m e p : Int} (hR : wRoom (nlv T) (fb T) ∈ sizes) (hf : fb T < wRoom (nlv T) (fb T)) {i : Nat} (hi : i < wRoom (nlv T) (fb T)) :
    ndAt (addT T m e p) (2 * i) = if i = fb T then ⟨p, m, e, []⟩ else ndAt T (2 * i) := by
  rw [ndAt_add hR hf (by omega), if_pos (by omega)]
  by_cases c : i = fb T
  · simp [c]
  · have : ¬ 2 * i = 2 * fb T := by omega
    simp [c, this]
theorem nd_pub {T : List Nd} (h : mayB T = true) (x : Nat) : pos (ndAt T x) = true → 0 < (ndAt T x).pub := fun hp => by
  have hm := ndM_all h x
  unfold ndM at hm
  have c : ¬ (ndAt T x).pub = 0 := fun h => by unfold pos at hp; simp [h] at hp
  rw [if_neg c] at hm
  by_cases c2 : (ndAt T x).pub < 0
  · rw [if_pos c2] at hm; cases hm
  · omega
theorem ok_add {T : List Nd} {m e p : Int} (h : addE T m e p = 0) : Ok (addT T m e p) := by
  obtain ⟨hm, h0, h1, h2, h3, h4⟩ := addE_ok h
  obtain ⟨hR, hf, h8⟩ := wRoom_sizes hm h4
  have hn := add_nlv (T := T) (m := m) (e := e) (p := p) hR
  have hbl := fb_blank T
  have hp : pos (⟨p, m, e, []⟩ : Nd) = true := by unfold pos; simp; omega
  have hmono : ∀ u : Nat, u < wRoom (nlv T) (fb T) → pos (ndAt T (2 * u)) = true → pos (ndAt (addT T m e p) (2 * u)) = true := fun u hu hh => by
    rw [ndAt_add_leaf hR hf hu]; split
    · exact hp
    · exact hh
  refine ⟨⟨_, hR, add_len T m e p⟩, fun x hx => ?_, ?_, ?_⟩
  · rw [add_len] at hx
    have hT := ndM_all hm x
    have ha := ndAt_add (m := m) (e := e) (p := p) hR hf hx
    obtain ⟨⟨s1, s2, s3, s4⟩, _⟩ := span_of hR hx
    rcases Nat.mod_two_eq_zero_or_one x with c | c
    · rw [if_pos c] at ha
      unfold ndM at hT ⊢
      by_cases c2 : x = 2 * fb T
      · rw [if_pos c2] at ha
        rw [ha, if_neg (show ¬ p = 0 by omega), if_neg (show ¬ p < 0 by omega), if_pos c]
        simp [h0, h1]
      · rw [if_neg c2] at ha
        rw [ha]
        simpa [c] using hT
    · have c' : ¬ x % 2 = 0 := by omega
      rw [if_neg c'] at ha
      by_cases hz : (ndAt T x).pub = 0
      · have hq : pos (ndAt T x) = false := by unfold pos; simp [hz]
        have : ndAt (addT T m e p) x = ndAt T x := by
          rw [ha]; split
          · unfold addU; rw [hq]; simp
          · rfl
        unfold ndM at hT ⊢
        rw [this]
        rw [if_pos hz] at hT ⊢
        exact hT
      · have hq : pos (ndAt T x) = true := by unfold pos; simp [hz]
        have hpp := nd_pub hm x hq
        unfold ndM at hT ⊢
        rw [if_neg hz, if_neg (show ¬ (ndAt T x).pub < 0 by omega), if_neg c'] at hT
        simp only [Bool.and_eq_true] at hT
        obtain ⟨⟨t1, t2⟩, t3⟩ := hT
        obtain ⟨u1, u2⟩ := unM_sorted t3
        obtain ⟨_, u4⟩ := unM_bounds t3
        have base : ∀ u ∈ (ndAt T x).un, spF (x : Nat) ≤ u ∧ u ≤ spT (x : Nat) ∧ pos (ndAt (addT T m e p) (2 * u.toNat)) = true := fun u hu => by
          obtain ⟨a1, a2, a3⟩ := u4 u hu
          exact ⟨a1, a2, hmono _ (by omega) a3⟩
        by_cases c2 : spF (x : Nat) ≤ (fb T : Nat) ∧ (fb T : Nat) ≤ spT (x : Nat)
        · rw [if_pos c2] at ha
          unfold addU at ha
          rw [if_pos hq] at ha
          rw [ha]
          simp only
          rw [if_neg hz, if_neg (show ¬ (ndAt T x).pub < 0 by omega), if_neg c']
          simp only [Bool.and_eq_true]
          refine ⟨⟨t1, t2⟩, unM_mk (insU_sorted _ _ u1 (fun hc => ?_)) (fun u hu => ?_)⟩
          · have := (u4 _ hc).2.2
            rw [Int.toNat_natCast, hbl] at this; cases this
          · rcases (insU_mem _ _ _).1 hu with rfl | hu
            · refine ⟨c2.1, c2.2, ?_⟩
              rw [Int.toNat_natCast, ndAt_add_leaf hR hf hf, if_pos rfl]; exact hp
            · exact base u hu
        · rw [if_neg c2] at ha
          rw [ha]
          rw [if_neg hz, if_neg (show ¬ (ndAt T x).pub < 0 by omega), if_neg c']
          simp only [Bool.and_eq_true]
          exact ⟨⟨t1, t2⟩, unM_mk u1 base⟩
  · rw [mems_nodup, hn]
    intro i j hij hj hpi hpj
    have hd := mems_nodup.1 (nodup_all hm)
    have hnl : ∀ k, pos (ndAt T (2 * k)) = true → k < nlv T := fun k hk => by
      apply Decidable.byContradiction; intro c
      rw [ndAt_ge (by have := len_le T; omega)] at hk; cases hk
    rw [ndAt_add_leaf hR hf (by omega)] at hpi ⊢
    rw [ndAt_add_leaf hR hf hj] at hpj ⊢
    have hno : ∀ k, pos (ndAt T (2 * k)) = true → (ndAt T (2 * k)).mem ≠ m := fun k hk hc => by
      have := fnd_no h3 k (hnl k hk)
      unfold hit at this; rw [hk, hc] at this; simp at this
    by_cases ci : i = fb T
    · rw [if_pos ci] at hpi ⊢
      rw [if_neg (by omega)] at hpj ⊢
      exact fun hc => hno j hpj hc.symm
    · rw [if_neg ci] at hpi ⊢
      by_cases cj : j = fb T
      · rw [if_pos cj] at hpj ⊢
        exact hno i hpi
      · rw [if_neg cj] at hpj ⊢
        exact hd i j hij (hnl j hpj) hpi hpj
  · rw [hn, anyM_iff]
    have hle := fb_le T
    by_cases c : fb T < nlv T
    · have hw : wRoom (nlv T) (fb T) = nlv T := by unfold wRoom; rw [if_pos c]
      have ok := mayB_okn hm (nlv_pos (by omega))
      obtain ⟨i, i1, i2, i3⟩ := (anyM_iff _ _ _).1 ok.right
      exact ⟨i, by omega, by omega, hmono i (by omega) i3⟩
    · refine ⟨fb T, ?_, hf, ?_⟩
      · unfold wRoom; rw [if_neg c]; split <;> omega
      · rw [ndAt_add_leaf hR hf hf, if_pos rfl]; exact hp
theorem mayB_add {T : List Nd} {m e p : Int} (h : addE T m e p = 0) : mayB (addT T m e p) = true := (ok_add h).mayB
end Go.Proofs.YtaanacnloljlmaaGreatDoor

/- Plain facts of trees that someone leaves. No walk is in this text. -/
namespace Go.Proofs.YtaanacnloljlmaaGreatDoor
open Go.RowKit Go.Maps

theorem remE_ok {T : List Nd} {m : Int} (h : remE T m = 0) : mayB T = true ∧ ¬ fnd T m < 0 ∧ (mems T).length ≠ 1 := by
  unfold remE at h
  split at h
  · omega
  · rename_i c
    split at h
    · omega
    · split at h
      · omega
      · exact ⟨by cases q : mayB T <;> simp_all, by omega, by omega⟩
theorem blk_len (i : Nat) (T : List Nd) : (blk i T).length = T.length := by unfold blk; rw [onAll_len, List.length_set]
theorem ndAt_blk {T : List Nd} {i : Nat} (hn : nlv T ∈ sizes) (hl : T.length = 2 * nlv T - 1) (hi : i < nlv T) {y : Nat} (hy : y < T.length) :
    ndAt (blk i T) y = if y % 2 = 0 then (if y = 2 * i then nd0 else ndAt T y) else if spF (y : Nat) ≤ (i : Nat) ∧ (i : Nat) ≤ spT (y : Nat) then nd0 else ndAt T y := by
  unfold blk
  obtain ⟨d1, d2, d3, d4, d5, d6⟩ := up_of hn hi
  rw [ndAt_onAll _ _ _ _ d4, List.length_set, ndAt_set]
  have hin := up_in hn hi (show y < 2 * nlv T - 1 by omega)
  simp only [hin]
  by_cases c : y % 2 = 0
  · have c1 : ¬ y % 2 = 1 := by omega
    by_cases c2 : 2 * i = y
    · simp [c, c2, hy]
    · have c3 : ¬ y = 2 * i := fun h => c2 h.symm
      simp [c, c2, c3]
  · have c1 : y % 2 = 1 := by omega
    have c2 : ¬ 2 * i = y := by omega
    simp [c1, c2, hy]
theorem needF_facts (T : List Nd) : ∀ (f n : Nat), n ∈ sizes → n ≤ 2 ^ f → (∀ j, needF f T n ≤ j → j < n → pos (ndAt T (2 * j)) = false) ∧ (needF f T n = 1 ∨ anyM T (needF f T n / 2) (needF f T n) = true) := by
  intro f
  induction f with
  | zero =>
    intro n hn hle
    have : n = 1 := by simp [sizes] at hn; omega
    exact ⟨fun j h1 h2 => by unfold needF at h1; omega, Or.inl this⟩
  | succ f ih =>
    intro n hn hle
    unfold needF
    split
    · rename_i hc
      have h2 : n / 2 ∈ sizes := by simp [sizes] at hn ⊢; omega
      have hp : n / 2 ≤ 2 ^ f := by rw [Nat.pow_succ] at hle; omega
      obtain ⟨i1, i2⟩ := ih (n / 2) h2 hp
      refine ⟨fun j h3 h4 => ?_, i2⟩
      rcases Nat.lt_or_ge j (n / 2) with c | c
      · exact i1 j h3 c
      · cases q : pos (ndAt T (2 * j))
        · rfl
        · have := (anyM_iff T (n / 2) n).2 ⟨j, c, h4, q⟩
          rw [this] at hc; cases hc.2
    · rename_i hc
      refine ⟨fun j h3 h4 => by omega, ?_⟩
      by_cases h1 : n = 1
      · exact Or.inl h1
      · right
        have : 1 < n := by simp [sizes] at hn; omega
        cases q : anyM T (n / 2) n
        · exact absurd ⟨this, q⟩ hc
        · rfl
/-- Who is not alone has company. -/
theorem company {T : List Nd} {i : Nat} (hi : i < nlv T) (hp : pos (ndAt T (2 * i)) = true) (h : (mems T).length ≠ 1) : ∃ j, j < nlv T ∧ j ≠ i ∧ pos (ndAt T (2 * j)) = true := by
  apply Decidable.byContradiction
  intro hc
  apply h
  have hall : ∀ j, j < nlv T → pos (ndAt T (2 * j)) = true → j = i := fun j hj hq => by
    apply Decidable.byContradiction; intro c; exact hc ⟨j, hj, c, hq⟩
  have e : (mems T).length = ((List.range (nlv T)).filter fun j => pos (ndAt T (2 * j))).length := by
    unfold mems memsOf lvs
    rw [List.length_map, List.filter_map, List.length_map]; rfl
  rw [e]
  have hnd : ((List.range (nlv T)).filter fun j => pos (ndAt T (2 * j))).Nodup := List.Nodup.sublist List.filter_sublist List.nodup_range
  have hmem : ∀ x ∈ ((List.range (nlv T)).filter fun j => pos (ndAt T (2 * j))), x = i := fun x hx => by
    obtain ⟨h1, h2⟩ := List.mem_filter.1 hx
    exact hall x (List.mem_range.1 h1) h2
  have hin : i ∈ ((List.range (nlv T)).filter fun j => pos (ndAt T (2 * j))) := List.mem_filter.2 ⟨List.mem_range.2 hi, hp⟩
  generalize ((List.range (nlv T)).filter fun j => pos (ndAt T (2 * j))) = l at *
  match l with
  | [] => cases hin
  | [x] => rfl
  | x :: y :: r =>
    have h1 := hmem x (by simp)
    have h2 := hmem y (by simp)
    have := List.nodup_cons.1 hnd
    exact absurd (by simp [h1, h2]) this.1
/-- What a removal leaves. -/
structure Rm (T R : List Nd) (i : Nat) : Prop where
  ok : Ok R
  n : nlv R ≤ nlv T
  i8 : i < nlv T
  t8 : nlv T ≤ 8
  leaf : ∀ j, j < nlv R → j ≠ i → ndAt R (2 * j) = ndAt T (2 * j)
  gone : i < nlv R → ndAt R (2 * i) = nd0
  above : ∀ y, y < R.length → y % 2 = 1 → spF (y : Nat) ≤ (i : Nat) → (i : Nat) ≤ spT (y : Nat) → ndAt R y = nd0
  beside : ∀ y, y < R.length → y % 2 = 1 → ¬ (spF (y : Nat) ≤ (i : Nat) ∧ (i : Nat) ≤ spT (y : Nat)) → ndAt R y = ndAt T y
  far : ∀ j, nlv R ≤ j → j < nlv T → j ≠ i → pos (ndAt T (2 * j)) = false
theorem rm_of {T : List Nd} {m : Int} (h : remE T m = 0) : ∃ i : Nat, fnd T m = i ∧ hit m (ndAt T (2 * i)) = true ∧ Rm T (remT T m) i := by
  obtain ⟨hm, hf, hl⟩ := remE_ok h
  obtain ⟨i, hfe, hi, hh⟩ := fnd_range hf
  have ok := mayB_okn hm (nlv_pos (by omega))
  obtain ⟨g1, g2, g3, g4, g5⟩ := ok.wd.facts
  have hip : pos (ndAt T (2 * i)) = true := by unfold hit at hh; simp only [Bool.and_eq_true] at hh; exact hh.1
  refine ⟨i, hfe, hh, ?_⟩
  unfold remT
  rw [hfe, Int.toNat_natCast]
  have hB := fun {y} (hy : y < T.length) => ndAt_blk (T := T) (i := i) g1 g2 hi hy
  have hBl := blk_len i T
  have hBn : nlv (blk i T) = nlv T := by unfold nlv; rw [hBl]
  unfold need
  rw [hBn]
  obtain ⟨s1, s2⟩ := needF_sizes (blk i T) 4 (nlv T) g1
  obtain ⟨f1, f2⟩ := needF_facts (blk i T) 4 (nlv T) g1 (by omega)
  generalize needF 4 (blk i T) (nlv T) = n at *
  generalize blk i T = B at *
  have hn0 : 0 < n := by simp [sizes] at s1; omega
  obtain ⟨R, hR⟩ : ∃ R, R = fit (2 * n - 1) B := ⟨_, rfl⟩
  rw [← hR]
  have hRl : R.length = 2 * n - 1 := by rw [hR, fit_len]
  have hRn : nlv R = n := by unfold nlv; rw [hRl]; omega
  have hRB : ∀ y, y < 2 * n - 1 → ndAt R y = ndAt B y := fun y hy => by rw [hR, ndAt_fit hy]
  have hleaf : ∀ j, j < n → j ≠ i → ndAt R (2 * j) = ndAt T (2 * j) := fun j hj hji => by
    rw [hRB _ (by omega), hB (by omega), if_pos (by omega), if_neg (by omega)]
  have hgone : i < n → ndAt R (2 * i) = nd0 := fun hi' => by
    rw [hRB _ (by omega), hB (by omega), if_pos (by omega), if_pos rfl]
  have habove : ∀ y, y < 2 * n - 1 → y % 2 = 1 → spF (y : Nat) ≤ (i : Nat) → (i : Nat) ≤ spT (y : Nat) → ndAt R y = nd0 := fun y hy ho q1 q2 => by
    rw [hRB _ hy, hB (by omega), if_neg (by omega), if_pos ⟨q1, q2⟩]
  have hbeside : ∀ y, y < 2 * n - 1 → y % 2 = 1 → ¬ (spF (y : Nat) ≤ (i : Nat) ∧ (i : Nat) ≤ spT (y : Nat)) → ndAt R y = ndAt T y := fun y hy ho q => by
    rw [hRB _ hy, hB (by omega), if_neg (by omega), if_neg q]
  have hfar : ∀ j, n ≤ j → j < nlv T → j ≠ i → pos (ndAt T (2 * j)) = false := fun j h1 h2 h3 => by
    have := f1 j h1 h2
    rwa [hB (by omega), if_pos (by omega), if_neg (by omega)] at this
  have hnil : ∀ y, ndAt R y = nd0 → ndM R y = true := fun y hy => by unfold ndM; rw [hy]; simp [nd0]
  refine ⟨⟨⟨n, s1, hRl⟩, fun x hx => ?_, ?_, ?_⟩, by omega, hi, g4, by rw [hRn]; exact hleaf, by rw [hRn]; exact hgone, by rw [hRl]; exact habove, by rw [hRl]; exact hbeside, by rw [hRn]; exact hfar⟩
  · rw [hRl] at hx
    have hT := ok.nd x (by omega)
    obtain ⟨⟨p1, p2, p3, p4⟩, _⟩ := span_of s1 hx
    rcases Nat.mod_two_eq_zero_or_one x with c | c
    · obtain ⟨j, rfl⟩ : ∃ j, x = 2 * j := ⟨x / 2, by omega⟩
      by_cases cj : j = i
      · subst cj; exact hnil _ (hgone (by omega))
      · unfold ndM at hT ⊢
        rw [hleaf j (by omega) cj]
        simpa [c] using hT
    · have c' : ¬ x % 2 = 0 := by omega
      by_cases q : spF (x : Nat) ≤ (i : Nat) ∧ (i : Nat) ≤ spT (x : Nat)
      · exact hnil _ (habove x hx c q.1 q.2)
      · have he := hbeside x hx c q
        unfold ndM at hT ⊢
        rw [he]
        split at hT
        · rename_i z; rw [if_pos z]; exact hT
        · rename_i z
          rw [if_neg z]
          split at hT
          · cases hT
          · rename_i z2
            rw [if_neg z2, if_neg c']
            simp only [Bool.and_eq_true] at hT ⊢
            obtain ⟨⟨t1, t2⟩, t3⟩ := hT
            obtain ⟨u1, u2⟩ := unM_sorted t3
            obtain ⟨_, u4⟩ := unM_bounds t3
            refine ⟨⟨t1, t2⟩, unM_mk u1 (fun u hu => ?_)⟩
            obtain ⟨a1, a2, a3⟩ := u4 u hu
            refine ⟨a1, a2, ?_⟩
            rw [hleaf _ (by omega) (by omega)]; exact a3
  · rw [mems_nodup, hRn]
    intro a b hab hb ha' hb'
    have hd := mems_nodup.1 ok.nodup
    have hne : ∀ k, k < n → pos (ndAt R (2 * k)) = true → k ≠ i := fun k hk hp hc => by
      subst hc; rw [hgone hk] at hp; cases hp
    have na := hne a (by omega) ha'
    have nb := hne b hb hb'
    rw [hleaf a (by omega) na] at ha' ⊢
    rw [hleaf b hb nb] at hb' ⊢
    exact hd a b hab (by omega) ha' hb'
  · rw [hRn, anyM_iff]
    rcases f2 with c | c
    · obtain ⟨j, j1, j2, j3⟩ := company hi hip hl
      have : j < n := by
        apply Decidable.byContradiction; intro q
        have := hfar j (by omega) j1 j2
        rw [j3] at this; cases this
      exact ⟨j, by omega, this, by rw [hleaf j this j2]; exact j3⟩
    · obtain ⟨k, k1, k2, k3⟩ := (anyM_iff _ _ _).1 c
      exact ⟨k, k1, k2, by rw [hRB _ (by omega)]; exact k3⟩
/-- Nobody names a leaf that is blank, or no leaf. -/
theorem rsl_no {R : List Nd} (ok : Ok R) {l : Nat} (h : l < nlv R → pos (ndAt R (2 * l)) = false) : ∀ x, x < R.length → ((2 * l : Nat) : Int) ∉ rsl R x ∧ (l : Int) ∉ (ndAt R x).un := by
  obtain ⟨g1, g2, g3, g4, g5⟩ := ok.wd.facts
  have hun : ∀ x, x < R.length → (l : Int) ∉ (ndAt R x).un := fun x hx hc => by
    rcases ndM_un (ok.nd x hx) with e | ⟨ho, _, e⟩
    · rw [e] at hc; cases hc
    · obtain ⟨⟨s1, s2, s3, s4⟩, _⟩ := span_of g1 (show x < 2 * nlv R - 1 by omega)
      have := (unM_bounds e).2 _ hc
      rw [Int.toNat_natCast, h (by omega)] at this; cases this.2.2
  have hpos : ∀ x, x < R.length → pos (ndAt R x) = true → ((2 * l : Nat) : Int) ∉ rsl R x := fun x hx hp hc => by
    rw [rsl_pos hp] at hc
    rcases List.mem_cons.1 hc with e | hc
    · have e : x = 2 * l := by omega
      rw [e, h (by omega)] at hp; cases hp
    · obtain ⟨u, hu, e⟩ := List.mem_map.1 hc
      have : u = (l : Int) := by omega
      rw [this] at hu; exact hun x hx hu
  intro x hx
  refine ⟨?_, hun x hx⟩
  revert x
  rw [g2]
  refine node_ind g1 (fun x hx ho => ?_) (fun x hx ho i1 i2 => ?_)
  · cases hp : pos (ndAt R x)
    · rw [rsl_leaf hp ho]; simp
    · exact hpos x (by omega) hp
  · cases hp : pos (ndAt R x)
    · rw [rsl_par g1 hx hp ho]
      intro hc
      rcases List.mem_append.1 hc with h | h
      · exact i1 h
      · exact i2 h
    · exact hpos x (by omega) hp
end Go.Proofs.YtaanacnloljlmaaGreatDoor
