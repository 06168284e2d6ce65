/- Plain facts of who is in a tree to which someone came, or that someone left; and of a tree with new keys along a path. No walk is in this text. -/
import Derived.Test.YtjjkhjiiakamaaaDoorTrY2
namespace Go.Proofs.YtjjkhjiiakamaaaDoor
open Go.RowKit Go.Maps

theorem leaf_far {T : List Nd} {j : Nat} (h : nlv T ≤ j) : ndAt T (2 * j) = nd0 := ndAt_ge (by have := len_le T; omega)
/-- Who is in, by the eight leaves that there may be. -/
theorem mems8 {T : List Nd} (h : nlv T ≤ 8) : mems T = ((List.range 8).filter fun j => pos (ndAt T (2 * j))).map fun j => (ndAt T (2 * j)).mem := by
  have e : List.range 8 = List.range (nlv T) ++ (List.range (8 - nlv T)).map (nlv T + ·) := by rw [← List.range_add]; congr 1; omega
  have z : ((List.range (8 - nlv T)).map (nlv T + ·)).filter (fun j => pos (ndAt T (2 * j))) = [] := by
    rw [List.filter_eq_nil_iff]
    intro j hj
    obtain ⟨k, _, rfl⟩ := List.mem_map.1 hj
    rw [leaf_far (by omega)]; simp [pos, nd0]
  rw [e, List.filter_append, z, List.append_nil]
  unfold mems memsOf lvs
  rw [List.filter_map, List.map_map]; rfl
theorem mems_congr {T T' : List Nd} (h : nlv T ≤ 8) (h' : nlv T' ≤ 8) (hh : ∀ j, j < 8 → pos (ndAt T (2 * j)) = pos (ndAt T' (2 * j)) ∧ (pos (ndAt T (2 * j)) = true → (ndAt T (2 * j)).mem = (ndAt T' (2 * j)).mem)) : mems T = mems T' := by
  rw [mems8 h, mems8 h']
  have e : ((List.range 8).filter fun j => pos (ndAt T (2 * j))) = ((List.range 8).filter fun j => pos (ndAt T' (2 * j))) := List.filter_congr fun j hj => (hh j (List.mem_range.1 hj)).1
  rw [← e]
  refine List.map_congr_left fun j hj => ?_
  obtain ⟨h1, h2⟩ := List.mem_filter.1 hj
  exact (hh j (List.mem_range.1 h1)).2 h2
theorem filt_one {p q : Nat → Bool} {i : Nat} (h1 : p i = false) (h2 : q i = true) (h3 : ∀ j, j ≠ i → p j = q j) : ∀ l : List Nat, l.Nodup → i ∈ l → (l.filter q).length = (l.filter p).length + 1
  | [], _, h => by cases h
  | x :: l, hn, hm => by
    have hn := List.nodup_cons.1 hn
    by_cases c : x = i
    · subst c
      have e : l.filter q = l.filter p := List.filter_congr fun j hj => (h3 j (fun hc => hn.1 (hc ▸ hj))).symm
      rw [List.filter_cons, if_pos h2, List.filter_cons, h1, e]; simp
    · have ih := filt_one h1 h2 h3 l hn.2 ((List.mem_cons.1 hm).resolve_left (fun h => c h.symm))
      rw [List.filter_cons, List.filter_cons, h3 x c]
      split <;> simp [ih]
theorem mems_one {T T' : List Nd} (h : nlv T ≤ 8) (h' : nlv T' ≤ 8) {i : Nat} (hi : i < 8) (h1 : pos (ndAt T (2 * i)) = false) (h2 : pos (ndAt T' (2 * i)) = true) (h3 : ∀ j, j ≠ i → pos (ndAt T (2 * j)) = pos (ndAt T' (2 * j))) : (mems T').length = (mems T).length + 1 := by
  rw [mems8 h, mems8 h', List.length_map, List.length_map]
  exact filt_one h1 h2 h3 _ List.nodup_range (List.mem_range.2 hi)
/-- The leaves of a tree to which someone came. -/
theorem add_leaves {T : List Nd} {m e p : Int} (h : addE T m e p = 0) : fb T < 8 ∧ nlv (addT T m e p) ≤ 8 ∧ fb T < nlv (addT T m e p) ∧ ndAt (addT T m e p) (2 * fb T) = ⟨p, m, e, []⟩ ∧ ∀ j, j ≠ fb T → ndAt (addT T m e p) (2 * j) = ndAt T (2 * j) := by
  obtain ⟨hm, h0, h1, h2, h3, h4⟩ := addE_ok h
  obtain ⟨hR, hf, h8⟩ := wRoom_sizes hm h4
  have hn := add_nlv (T := T) (m := m) (e := e) (p := p) hR
  have hn8 := (ok_add h).wd.facts.2.2.2.1
  refine ⟨by omega, hn8, by omega, by rw [ndAt_add_leaf hR hf hf, if_pos rfl], fun j hj => ?_⟩
  rcases Nat.lt_or_ge j (nlv (addT T m e p)) with c | c
  · rw [ndAt_add_leaf hR hf (by omega), if_neg hj]
  · rw [leaf_far c, leaf_far]
    have := fb_le T
    unfold wRoom at hn
    split at hn <;> (try split at hn) <;> omega
theorem add_pos {T : List Nd} {m e p : Int} (h : addE T m e p = 0) : pos (⟨p, m, e, []⟩ : Nd) = true := by
  have := (addE_ok h).2.2.2.1; unfold pos; simp; omega
theorem add_mems {T : List Nd} {m e p : Int} (h : addE T m e p = 0) : (mems (addT T m e p)).length = (mems T).length + 1 := by
  obtain ⟨a1, a2, a3, a4, a5⟩ := add_leaves h
  exact mems_one (mayB_15 (addE_ok h).1).2 a2 a1 (fb_blank T) (by rw [a4]; exact add_pos h) (fun j hj => by rw [a5 j hj])
theorem add_fnd {T : List Nd} {m e p : Int} (h : addE T m e p = 0) : fnd (addT T m e p) m = (fb T : Nat) := by
  obtain ⟨a1, a2, a3, a4, a5⟩ := add_leaves h
  refine fnd_hit a3 (fun j hj => ?_) ?_
  · rw [a5 j (by omega)]
    exact fnd_no (addE_ok h).2.2.2.2.1 j (by have := fb_le T; omega)
  · rw [a4]; unfold hit; rw [add_pos h]; simp
/-- The leaves of a tree that someone left. -/
theorem Rm.leaves {T R : List Nd} {i : Nat} (h : Rm T R i) : nlv R ≤ 8 ∧ i < 8 ∧ pos (ndAt R (2 * i)) = false ∧ ∀ j, j ≠ i → pos (ndAt R (2 * j)) = pos (ndAt T (2 * j)) ∧ (pos (ndAt R (2 * j)) = true → ndAt R (2 * j) = ndAt T (2 * j)) := by
  have hn := h.n
  have hi := h.i8
  have h8 := h.t8
  refine ⟨by omega, by omega, ?_, fun j hj => ?_⟩
  · rcases Nat.lt_or_ge i (nlv R) with c | c
    · rw [h.gone c]; rfl
    · rw [leaf_far c]; rfl
  · rcases Nat.lt_or_ge j (nlv R) with c | c
    · rw [h.leaf j c hj]; exact ⟨rfl, fun _ => rfl⟩
    · rw [leaf_far c]
      refine ⟨?_, fun q => by cases q⟩
      rcases Nat.lt_or_ge j (nlv T) with c2 | c2
      · rw [h.far j c c2 hj]; rfl
      · rw [leaf_far c2]
theorem rem_mems {T : List Nd} {m : Int} (h : remE T m = 0) : (mems T).length = (mems (remT T m)).length + 1 ∧ fnd (remT T m) m = -1 := by
  obtain ⟨i, hf, hh, hr⟩ := rm_of h
  obtain ⟨a1, a2, a3, a4⟩ := hr.leaves
  have hip : pos (ndAt T (2 * i)) = true ∧ (ndAt T (2 * i)).mem = m := by unfold hit at hh; simpa using hh
  refine ⟨mems_one a1 hr.t8 a2 a3 hip.1 (fun j hj => (a4 j hj).1), fnd_none fun j hj => ?_⟩
  cases q : hit m (ndAt (remT T m) (2 * j))
  · rfl
  · exfalso
    unfold hit at q
    have q : pos (ndAt (remT T m) (2 * j)) = true ∧ (ndAt (remT T m) (2 * j)).mem = m := by simpa using q
    have hji : j ≠ i := fun hc => by subst hc; rw [a3] at q; cases q.1
    obtain ⟨b1, b2⟩ := a4 j hji
    rw [b2 q.1] at q
    have hjn : j < nlv T := by have := hr.n; omega
    have hd := mems_nodup.1 (nodup_all (remE_ok h).1)
    have hin := hr.i8
    rcases Nat.lt_or_gt_of_ne hji with c | c
    · exact hd j i c hin q.1 hip.1 (by rw [q.2, hip.2])
    · exact hd i j c hjn hip.1 q.1 (by rw [q.2, hip.2])
/-- Who came in and goes again leaves the same members. -/
theorem add_rem {T : List Nd} {m e p : Int} (h : addE T m e p = 0) (hne : mems T ≠ []) : remE (addT T m e p) m = 0 ∧ mems (remT (addT T m e p) m) = mems T := by
  obtain ⟨a1, a2, a3, a4, a5⟩ := add_leaves h
  have hE : remE (addT T m e p) m = 0 := by
    unfold remE
    rw [mayB_add h, add_fnd h, add_mems h]
    have : (mems T).length ≠ 0 := fun hc => hne (List.eq_nil_of_length_eq_zero hc)
    rw [if_neg (by simp), if_neg (by omega), if_neg (by omega)]
  refine ⟨hE, ?_⟩
  obtain ⟨i, hf, hh, hr⟩ := rm_of hE
  rw [add_fnd h] at hf
  obtain rfl : fb T = i := by omega
  obtain ⟨b1, b2, b3, b4⟩ := hr.leaves
  refine mems_congr b1 (mayB_15 (addE_ok h).1).2 fun j _ => ?_
  by_cases c : j = fb T
  · subst c; rw [b3, fb_blank]; exact ⟨rfl, fun q => by cases q⟩
  · obtain ⟨c1, c2⟩ := b4 j c
    rw [← a5 j c]
    exact ⟨c1, fun q => by rw [c2 q]⟩
theorem setPL_at : ∀ (l : List (Int × Int)) (S : List Nd) (y : Nat), y < S.length → (∀ q ∈ l, 0 ≤ q.1) →
    ((y : Int) ∉ l.map (·.1) → ndAt (setPL S l) y = ndAt S y) ∧ ((y : Int) ∈ l.map (·.1) → ∃ q, ((y : Int), q) ∈ l ∧ ndAt (setPL S l) y = ⟨q, (ndAt S y).mem, (ndAt S y).ep, (ndAt S y).un⟩)
  | [], S, y, _, _ => ⟨fun _ => rfl, fun h => by cases h⟩
  | x :: l, S, y, hy, h0 => by
    have e : setPL S (x :: l) = setPL (S.set x.1.toNat ⟨x.2, (ndAt S x.1.toNat).mem, (ndAt S x.1.toNat).ep, (ndAt S x.1.toNat).un⟩) l := rfl
    obtain ⟨i1, i2⟩ := setPL_at l (S.set x.1.toNat ⟨x.2, (ndAt S x.1.toNat).mem, (ndAt S x.1.toNat).ep, (ndAt S x.1.toNat).un⟩) y (by simpa using hy) (fun q hq => h0 q (by simp [hq]))
    have hx := h0 x (by simp)
    rw [e]
    rw [ndAt_set] at i1 i2
    by_cases c : x.1.toNat = y
    · have c2 : x.1 = (y : Int) := by omega
      rw [if_pos ⟨c, hy⟩, c] at i1 i2
      refine ⟨fun h => absurd (by simp [c2]) h, fun _ => ?_⟩
      by_cases hm : (y : Int) ∈ l.map (·.1)
      · obtain ⟨q, h1, h2⟩ := i2 hm
        exact ⟨q, by simp [h1], by rw [c]; exact h2⟩
      · refine ⟨x.2, ?_, by rw [c]; exact i1 hm⟩
        rw [← c2]; simp
    · rw [if_neg (fun hh => c hh.1)] at i1 i2
      refine ⟨fun h => i1 (fun hh => h (by rw [List.map_cons]; exact List.mem_cons_of_mem _ hh)), fun h => ?_⟩
      rw [List.map_cons] at h
      rcases List.mem_cons.1 h with h | h
      · omega
      · obtain ⟨q, h1, h2⟩ := i2 h
        exact ⟨q, by simp [h1], h2⟩
theorem pth_mem {T : List Nd} {i : Nat} {z : Int} (h : z ∈ pth T i) : ∃ y : Nat, z = (y : Int) ∧ y ∈ upN (nlv T) i := by
  unfold pth at h
  obtain ⟨p, hp, rfl⟩ := List.mem_map.1 h
  exact ⟨p.1, rfl, (prs_mem hp).1⟩
theorem zip_fst {α β : Type} : ∀ (a : List α) (b : List β), b.length = a.length → (a.zip b).map (·.1) = a
  | [], [], _ => rfl
  | x :: a, y :: b, h => by simp [zip_fst a b (by simpa using h)]
  | [], y :: b, h => by simp at h
  | x :: a, [], h => by simp at h
/-- The nodes behind SetPath. -/
structure St (T F : List Nd) (i : Nat) : Prop where
  len : F.length = T.length
  leaf : ∀ j, j ≠ i → ndAt F (2 * j) = ndAt T (2 * j)
  own : (ndAt F (2 * i)).mem = (ndAt T (2 * i)).mem ∧ 0 < (ndAt F (2 * i)).pub ∧ 0 ≤ (ndAt F (2 * i)).ep ∧ (ndAt F (2 * i)).un = []
  above : ∀ y, y < T.length → y % 2 = 1 → spF (y : Nat) ≤ (i : Nat) → (i : Nat) ≤ spT (y : Nat) → (((y : Int) ∈ pth T i ∧ ∃ q, 1 ≤ q ∧ ndAt F y = ⟨q, 0, 0, []⟩) ∨ ndAt F y = nd0)
  path : ∀ y : Nat, (y : Int) ∈ pth T i → y < T.length ∧ ∃ q, 1 ≤ q ∧ ndAt F y = ⟨q, 0, 0, []⟩
  beside : ∀ y, y < T.length → y % 2 = 1 → ¬ (spF (y : Nat) ≤ (i : Nat) ∧ (i : Nat) ≤ spT (y : Nat)) → ndAt F y = ndAt T y
theorem st_of {T : List Nd} (ok : Ok T) {i : Nat} (hi : i < nlv T) {e p : Int} (he : 0 ≤ e) (hp : 1 ≤ p) {ps : List Int} (hl : ps.length = (pth T i).length) (hps : ∀ q ∈ ps, 1 ≤ q) : St T (setT T i e p ps) i := by
  obtain ⟨g1, g2, g3, g4, g5⟩ := ok.wd.facts
  obtain ⟨d1, d2, d3, d4, d5, d6⟩ := up_of g1 hi
  obtain ⟨S, hS⟩ : ∃ S, S = onAll (fun _ => nd0) (upN (nlv T) i) (T.set (2 * i) ⟨p, (ndAt T (2 * i)).mem, e, (ndAt T (2 * i)).un⟩) := ⟨_, rfl⟩
  have hF : setT T i e p ps = setPL S ((pth T i).zip ps) := by unfold setT; rw [← hS, setP_eq]
  have hSl : S.length = T.length := by rw [hS, onAll_len, List.length_set]
  have hun : (ndAt T (2 * i)).un = [] := by
    rcases ndM_un (ok.nd (2 * i) (by omega)) with q | ⟨q, _⟩
    · exact q
    · omega
  have hSn : ∀ y, y < T.length → ndAt S y = if y % 2 = 0 then (if y = 2 * i then ⟨p, (ndAt T (2 * i)).mem, e, []⟩ else ndAt T y) else if spF (y : Nat) ≤ (i : Nat) ∧ (i : Nat) ≤ spT (y : Nat) then nd0 else ndAt T y := fun y hy => by
    rw [hS, ndAt_onAll _ _ _ _ d4, List.length_set, ndAt_set, hun]
    have hin := up_in g1 hi (show y < 2 * nlv T - 1 by omega)
    simp only [hin]
    by_cases c : y % 2 = 0
    · have c1 : ¬ y % 2 = 1 := by omega
      by_cases c2 : 2 * i = y
      · simp [c, c2, hy]
      · have c3 : ¬ y = 2 * i := fun h => c2 h.symm
        simp [c, c2, c3]
    · have c1 : y % 2 = 1 := by omega
      have c2 : ¬ 2 * i = y := by omega
      simp [c1, c2, hy]
  have hz : ∀ q ∈ (pth T i).zip ps, 0 ≤ q.1 := fun q hq => by
    obtain ⟨y, e1, _⟩ := pth_mem (List.of_mem_zip (a := q.1) (b := q.2) hq).1
    omega
  have hfst := zip_fst (pth T i) ps hl
  have hodd : ∀ y : Nat, (y : Int) ∈ pth T i → y % 2 = 1 ∧ y < T.length ∧ spF (y : Nat) ≤ (i : Nat) ∧ (i : Nat) ≤ spT (y : Nat) := fun y hy => by
    obtain ⟨x, e1, hx⟩ := pth_mem hy
    obtain rfl : y = x := by omega
    have := d5 y hx
    have h2 := (up_in g1 hi this.1).1 hx
    exact ⟨h2.1, by omega, h2.2.1, h2.2.2⟩
  have hno : ∀ y, y < T.length → (y : Int) ∉ pth T i → ndAt (setT T i e p ps) y = ndAt S y := fun y hy hn => by
    rw [hF]; exact (setPL_at _ S y (by omega) hz).1 (by rw [hfst]; exact hn)
  have hyes : ∀ y, y < T.length → (y : Int) ∈ pth T i → ∃ q, 1 ≤ q ∧ ndAt (setT T i e p ps) y = ⟨q, 0, 0, []⟩ := fun y hy hm => by
    obtain ⟨q, h1, h2⟩ := (setPL_at _ S y (by omega) hz).2 (by rw [hfst]; exact hm)
    obtain ⟨o1, o2, o3, o4⟩ := hodd y hm
    refine ⟨q, hps q (List.of_mem_zip h1).2, ?_⟩
    rw [hF, h2, hSn y hy, if_neg (by omega), if_pos ⟨o3, o4⟩]; rfl
  have hlen : (setT T i e p ps).length = T.length := by rw [hF, setPL_len, hSl]
  refine ⟨hlen, fun j hj => ?_, ?_, fun y hy ho q1 q2 => ?_, fun y hy => ?_, fun y hy ho q => ?_⟩
  · rcases Nat.lt_or_ge (2 * j) T.length with c | c
    · rw [hno _ c (fun hm => by have := (hodd _ hm).1; omega), hSn _ c, if_pos (by omega), if_neg (by omega)]
    · rw [ndAt_ge c, ndAt_ge (by omega)]
  · have c : 2 * i < T.length := by omega
    rw [hno _ c (fun hm => by have := (hodd _ hm).1; omega), hSn _ c, if_pos (by omega), if_pos rfl]
    exact ⟨rfl, by show (0 : Int) < p; omega, he, rfl⟩
  · by_cases hm : (y : Int) ∈ pth T i
    · exact Or.inl ⟨hm, hyes y hy hm⟩
    · exact Or.inr (by rw [hno y hy hm, hSn y hy, if_neg (by omega), if_pos ⟨q1, q2⟩])
  · exact ⟨(hodd y hy).2.1, hyes y (hodd y hy).2.1 hy⟩
  · rw [hno y hy (fun hm => q ⟨(hodd y hm).2.2.1, (hodd y hm).2.2.2⟩), hSn y hy, if_neg (by omega), if_neg q]
theorem St.facts {T F : List Nd} (ok : Ok T) {i : Nat} (hp : pos (ndAt T (2 * i)) = true) (h : St T F i) : Ok F ∧ mems F = mems T ∧ ∀ y : Nat, (y : Int) ∈ pth T i → y < F.length ∧ rsl F y = [(y : Int)] := by
  obtain ⟨g1, g2, g3, g4, g5⟩ := ok.wd.facts
  have hn : nlv F = nlv T := by unfold nlv; rw [h.len]
  have hpi : pos (ndAt F (2 * i)) = true := by have := h.own.2.1; unfold pos; simp; omega
  have hpos : ∀ j, pos (ndAt F (2 * j)) = pos (ndAt T (2 * j)) ∧ (ndAt F (2 * j)).mem = (ndAt T (2 * j)).mem := fun j => by
    by_cases c : j = i
    · subst c; exact ⟨by rw [hpi, hp], h.own.1⟩
    · rw [h.leaf j c]; exact ⟨rfl, rfl⟩
  have hme : mems F = mems T := mems_congr (by omega) g4 fun j _ => ⟨(hpos j).1, fun _ => (hpos j).2⟩
  refine ⟨⟨by rw [Wd, h.len]; exact ok.wd, fun x hx => ?_, by rw [hme]; exact ok.nodup, ?_⟩, hme, fun y hy => ?_⟩
  · rw [h.len] at hx
    have hT := ok.nd x hx
    rcases Nat.mod_two_eq_zero_or_one x with c | c
    · obtain ⟨j, rfl⟩ : ∃ j, x = 2 * j := ⟨x / 2, by omega⟩
      by_cases cj : j = i
      · subst cj
        obtain ⟨o1, o2, o3, o4⟩ := h.own
        have hm0 : 0 ≤ (ndAt T (2 * j)).mem := by
          unfold ndM at hT
          have c0 : ¬ (ndAt T (2 * j)).pub = 0 := fun hc => by unfold pos at hp; simp [hc] at hp
          rw [if_neg c0] at hT
          split at hT
          · cases hT
          · simp at hT; exact hT.1.1
        unfold ndM
        rw [if_neg (by omega), if_neg (by omega), if_pos c, o1, o4]
        simp [hm0, o3]
      · unfold ndM at hT ⊢
        rw [h.leaf j cj]
        simpa [c] using hT
    · have c' : ¬ x % 2 = 0 := by omega
      by_cases q : spF (x : Nat) ≤ (i : Nat) ∧ (i : Nat) ≤ spT (x : Nat)
      · rcases h.above x hx c q.1 q.2 with ⟨_, z, hz, e⟩ | e
        · unfold ndM; rw [e]
          simp only
          rw [if_neg (by omega), if_neg (by omega), if_neg c']; simp [unM]
        · unfold ndM; rw [e]; simp [nd0]
      · have he := h.beside x hx c q
        unfold ndM at hT ⊢
        rw [he]
        split at hT
        · rename_i z; rw [if_pos z]; exact hT
        · rename_i z
          rw [if_neg z]
          split at hT
          · cases hT
          · rename_i z2
            rw [if_neg z2, if_neg c']
            simp only [Bool.and_eq_true] at hT ⊢
            obtain ⟨⟨t1, t2⟩, t3⟩ := hT
            exact ⟨⟨t1, t2⟩, unM_mk (unM_sorted t3).1 (fun u hu => by
              obtain ⟨a1, a2, a3⟩ := (unM_bounds t3).2 u hu
              exact ⟨a1, a2, by rw [(hpos u.toNat).1]; exact a3⟩)⟩
  · rw [hn, anyM_iff]
    obtain ⟨k, k1, k2, k3⟩ := (anyM_iff _ _ _).1 ok.right
    exact ⟨k, k1, k2, by rw [(hpos k).1]; exact k3⟩
  · obtain ⟨h1, q, hq, e⟩ := h.path y hy
    refine ⟨by rw [h.len]; exact h1, ?_⟩
    rw [rsl_pos (by rw [e]; unfold pos; simp; omega), e]; rfl
end Go.Proofs.YtjjkhjiiakamaaaDoor
