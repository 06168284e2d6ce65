/- Plain facts of a tree with new keys along a path. No walk is in this text. -/
import Derived.Test.YtjjkhjiiakamaaaDoorTrYs
namespace Go.Proofs.YtjjkhjiiakamaaaDoor
open Go.RowKit Go.Maps

theorem setPL_at : ∀ (l : List (Int × Int)) (S : List Nd) (y : Nat), y < S.length → (∀ q ∈ l, 0 ≤ q.1) →
    ((y : Int) ∉ l.map (·.1) → ndAt (setPL S l) y = ndAt S y) ∧ ((y : Int) ∈ l.map (·.1) → ∃ q, ((y : Int), q) ∈ l ∧ ndAt (setPL S l) y = ⟨q, (ndAt S y).mem, (ndAt S y).ep, (ndAt S y).un⟩)
  | [], S, y, _, _ => ⟨fun _ => rfl, fun h => by cases h⟩
  | x :: l, S, y, hy, h0 => by
    have e : setPL S (x :: l) = setPL (S.set x.1.toNat ⟨x.2, (ndAt S x.1.toNat).mem, (ndAt S x.1.toNat).ep, (ndAt S x.1.toNat).un⟩) l := rfl
    obtain ⟨i1, i2⟩ := setPL_at l (S.set x.1.toNat ⟨x.2, (ndAt S x.1.toNat).mem, (ndAt S x.1.toNat).ep, (ndAt S x.1.toNat).un⟩) y (by simpa using hy) (fun q hq => h0 q (by simp [hq]))
    have hx := h0 x (by simp)
    rw [e]
    rw [ndAt_set] at i1 i2
    by_cases c : x.1.toNat = y
    · have c2 : x.1 = (y : Int) := by omega
      rw [if_pos ⟨c, hy⟩, c] at i1 i2
      refine ⟨fun h => absurd (by simp [c2]) h, fun _ => ?_⟩
      by_cases hm : (y : Int) ∈ l.map (·.1)
      · obtain ⟨q, h1, h2⟩ := i2 hm
        exact ⟨q, by simp [h1], by rw [c]; exact h2⟩
      · refine ⟨x.2, ?_, by rw [c]; exact i1 hm⟩
        rw [← c2]; simp
    · rw [if_neg (fun hh => c hh.1)] at i1 i2
      refine ⟨fun h => i1 (fun hh => h (by rw [List.map_cons]; exact List.mem_cons_of_mem _ hh)), fun h => ?_⟩
      rw [List.map_cons] at h
      rcases List.mem_cons.1 h with h | h
      · omega
      · obtain ⟨q, h1, h2⟩ := i2 h
        exact ⟨q, by simp [h1], h2⟩
theorem pth_mem {T : List Nd} {i : Nat} {z : Int} (h : z ∈ pth T i) : ∃ y : Nat, z = (y : Int) ∧ y ∈ upN (nlv T) i := by
  unfold pth at h
  obtain ⟨p, hp, rfl⟩ := List.mem_map.1 h
  exact ⟨p.1, rfl, (prs_mem hp).1⟩
theorem zip_fst {α β : Type} : ∀ (a : List α) (b : List β), b.length = a.length → (a.zip b).map (·.1) = a
  | [], [], _ => rfl
  | x :: a, y :: b, h => by simp [zip_fst a b (by simpa using h)]
  | [], y :: b, h => by simp at h
  | x :: a, [], h => by simp at h
/-- The nodes behind SetPath. -/
structure St (T F : List Nd) (i : Nat) : Prop where
  len : F.length = T.length
  leaf : ∀ j, j ≠ i → ndAt F (2 * j) = ndAt T (2 * j)
  own : (ndAt F (2 * i)).mem = (ndAt T (2 * i)).mem ∧ 0 < (ndAt F (2 * i)).pub ∧ 0 ≤ (ndAt F (2 * i)).ep ∧ (ndAt F (2 * i)).un = []
  above : ∀ y, y < T.length → y % 2 = 1 → spF (y : Nat) ≤ (i : Nat) → (i : Nat) ≤ spT (y : Nat) → (((y : Int) ∈ pth T i ∧ ∃ q, 1 ≤ q ∧ ndAt F y = ⟨q, 0, 0, []⟩) ∨ ndAt F y = nd0)
  path : ∀ y : Nat, (y : Int) ∈ pth T i → y < T.length ∧ ∃ q, 1 ≤ q ∧ ndAt F y = ⟨q, 0, 0, []⟩
  beside : ∀ y, y < T.length → y % 2 = 1 → ¬ (spF (y : Nat) ≤ (i : Nat) ∧ (i : Nat) ≤ spT (y : Nat)) → ndAt F y = ndAt T y
theorem st_of {T : List Nd} (ok : Ok T) {i : Nat} (hi : i < nlv T) {e p : Int} (he : 0 ≤ e) (hp : 1 ≤ p) {ps : List Int} (hl : ps.length = (pth T i).length) (hps : ∀ q ∈ ps, 1 ≤ q) : St T (setT T i e p ps) i := by
  obtain ⟨g1, g2, g3, g4, g5⟩ := ok.wd.facts
  obtain ⟨d1, d2, d3, d4, d5, d6⟩ := up_of g1 hi
  obtain ⟨S, hS⟩ : ∃ S, S = onAll (fun _ => nd0) (upN (nlv T) i) (T.set (2 * i) ⟨p, (ndAt T (2 * i)).mem, e, (ndAt T (2 * i)).un⟩) := ⟨_, rfl⟩
  have hF : setT T i e p ps = setPL S ((pth T i).zip ps) := by unfold setT; rw [← hS, setP_eq]
  have hSl : S.length = T.length := by rw [hS, onAll_len, List.length_set]
  have hun : (ndAt T (2 * i)).un = [] := by
    rcases ndM_un (ok.nd (2 * i) (by omega)) with q | ⟨q, _⟩
    · exact q
    · omega
  have hSn : ∀ y, y < T.length → ndAt S y = if y % 2 = 0 then (if y = 2 * i then ⟨p, (ndAt T (2 * i)).mem, e, []⟩ else ndAt T y) else if spF (y : Nat) ≤ (i : Nat) ∧ (i : Nat) ≤ spT (y : Nat) then nd0 else ndAt T y := fun y hy => by
    rw [hS, ndAt_onAll _ _ _ _ d4, List.length_set, ndAt_set, hun]
    have hin := up_in g1 hi (show y < 2 * nlv T - 1 by omega)
    simp only [hin]
    by_cases c : y % 2 = 0
    · have c1 : ¬ y % 2 = 1 := by omega
      by_cases c2 : 2 * i = y
      · simp [c, c2, hy]
      · have c3 : ¬ y = 2 * i := fun h => c2 h.symm
        simp [c, c2, c3]
    · have c1 : y % 2 = 1 := by omega
      have c2 : ¬ 2 * i = y := by omega
      simp [c1, c2, hy]
  have hz : ∀ q ∈ (pth T i).zip ps, 0 ≤ q.1 := fun q hq => by
    obtain ⟨y, e1, _⟩ := pth_mem (List.of_mem_zip (a := q.1) (b := q.2) hq).1
    omega
  have hfst := zip_fst (pth T i) ps hl
  have hodd : ∀ y : Nat, (y : Int) ∈ pth T i → y % 2 = 1 ∧ y < T.length ∧ spF (y : Nat) ≤ (i : Nat) ∧ (i : Nat) ≤ spT (y : Nat) := fun y hy => by
    obtain ⟨x, e1, hx⟩ := pth_mem hy
    obtain rfl : y = x := by omega
    have := d5 y hx
    have h2 := (up_in g1 hi this.1).1 hx
    exact ⟨h2.1, by omega, h2.2.1, h2.2.2⟩
  have hno : ∀ y, y < T.length → (y : Int) ∉ pth T i → ndAt (setT T i e p ps) y = ndAt S y := fun y hy hn => by
    rw [hF]; exact (setPL_at _ S y (by omega) hz).1 (by rw [hfst]; exact hn)
  have hyes : ∀ y, y < T.length → (y : Int) ∈ pth T i → ∃ q, 1 ≤ q ∧ ndAt (setT T i e p ps) y = ⟨q, 0, 0, []⟩ := fun y hy hm => by
    obtain ⟨q, h1, h2⟩ := (setPL_at _ S y (by omega) hz).2 (by rw [hfst]; exact hm)
    obtain ⟨o1, o2, o3, o4⟩ := hodd y hm
    refine ⟨q, hps q (List.of_mem_zip h1).2, ?_⟩
    rw [hF, h2, hSn y hy, if_neg (by omega), if_pos ⟨o3, o4⟩]; rfl
  have hlen : (setT T i e p ps).length = T.length := by rw [hF, setPL_len, hSl]
  refine ⟨hlen, fun j hj => ?_, ?_, fun y hy ho q1 q2 => ?_, fun y hy => ?_, fun y hy ho q => ?_⟩
  · rcases Nat.lt_or_ge (2 * j) T.length with c | c
    · rw [hno _ c (fun hm => by have := (hodd _ hm).1; omega), hSn _ c, if_pos (by omega), if_neg (by omega)]
    · rw [ndAt_ge c, ndAt_ge (by omega)]
  · have c : 2 * i < T.length := by omega
    rw [hno _ c (fun hm => by have := (hodd _ hm).1; omega), hSn _ c, if_pos (by omega), if_pos rfl]
    exact ⟨rfl, by show (0 : Int) < p; omega, he, rfl⟩
  · by_cases hm : (y : Int) ∈ pth T i
    · exact Or.inl ⟨hm, hyes y hy hm⟩
    · exact Or.inr (by rw [hno y hy hm, hSn y hy, if_neg (by omega), if_pos ⟨q1, q2⟩])
  · exact ⟨(hodd y hy).2.1, hyes y (hodd y hy).2.1 hy⟩
  · rw [hno y hy (fun hm => q ⟨(hodd y hm).2.2.1, (hodd y hm).2.2.2⟩), hSn y hy, if_neg (by omega), if_neg q]
theorem St.facts {T F : List Nd} (ok : Ok T) {i : Nat} (hp : pos (ndAt T (2 * i)) = true) (h : St T F i) : Ok F ∧ mems F = mems T ∧ ∀ y : Nat, (y : Int) ∈ pth T i → y < F.length ∧ rsl F y = [(y : Int)] := by
  obtain ⟨g1, g2, g3, g4, g5⟩ := ok.wd.facts
  have hn : nlv F = nlv T := by unfold nlv; rw [h.len]
  have hpi : pos (ndAt F (2 * i)) = true := by have := h.own.2.1; unfold pos; simp; omega
  have hpos : ∀ j, pos (ndAt F (2 * j)) = pos (ndAt T (2 * j)) ∧ (ndAt F (2 * j)).mem = (ndAt T (2 * j)).mem := fun j => by
    by_cases c : j = i
    · subst c; exact ⟨by rw [hpi, hp], h.own.1⟩
    · rw [h.leaf j c]; exact ⟨rfl, rfl⟩
  have hme : mems F = mems T := mems_congr (by omega) g4 fun j _ => ⟨(hpos j).1, fun _ => (hpos j).2⟩
  refine ⟨⟨by rw [Wd, h.len]; exact ok.wd, fun x hx => ?_, by rw [hme]; exact ok.nodup, ?_⟩, hme, fun y hy => ?_⟩
  · rw [h.len] at hx
    have hT := ok.nd x hx
    rcases Nat.mod_two_eq_zero_or_one x with c | c
    · obtain ⟨j, rfl⟩ : ∃ j, x = 2 * j := ⟨x / 2, by omega⟩
      by_cases cj : j = i
      · subst cj
        obtain ⟨o1, o2, o3, o4⟩ := h.own
        have hm0 : 0 ≤ (ndAt T (2 * j)).mem := by
          unfold ndM at hT
          have c0 : ¬ (ndAt T (2 * j)).pub = 0 := fun hc => by unfold pos at hp; simp [hc] at hp
          rw [if_neg c0] at hT
          split at hT
          · cases hT
          · simp at hT; exact hT.1.1
        unfold ndM
        rw [if_neg (by omega), if_neg (by omega), if_pos c, o1, o4]
        simp [hm0, o3]
      · unfold ndM at hT ⊢
        rw [h.leaf j cj]
        simpa [c] using hT
    · have c' : ¬ x % 2 = 0 := by omega
      by_cases q : spF (x : Nat) ≤ (i : Nat) ∧ (i : Nat) ≤ spT (x : Nat)
      · rcases h.above x hx c q.1 q.2 with ⟨_, z, hz, e⟩ | e
        · unfold ndM; rw [e]
          simp only
          rw [if_neg (by omega), if_neg (by omega), if_neg c']; simp [unM]
        · unfold ndM; rw [e]; simp [nd0]
      · have he := h.beside x hx c q
        unfold ndM at hT ⊢
        rw [he]
        split at hT
        · rename_i z; rw [if_pos z]; exact hT
        · rename_i z
          rw [if_neg z]
          split at hT
          · cases hT
          · rename_i z2
            rw [if_neg z2, if_neg c']
            simp only [Bool.and_eq_true] at hT ⊢
            obtain ⟨⟨t1, t2⟩, t3⟩ := hT
            exact ⟨⟨t1, t2⟩, unM_mk (unM_sorted t3).1 (fun u hu => by
              obtain ⟨a1, a2, a3⟩ := (unM_bounds t3).2 u hu
              exact ⟨a1, a2, by rw [(hpos u.toNat).1]; exact a3⟩)⟩
  · rw [hn, anyM_iff]
    obtain ⟨k, k1, k2, k3⟩ := (anyM_iff _ _ _).1 ok.right
    exact ⟨k, k1, k2, by rw [(hpos k).1]; exact k3⟩
  · obtain ⟨h1, q, hq, e⟩ := h.path y hy
    refine ⟨by rw [h.len]; exact h1, ?_⟩
    rw [rsl_pos (by rw [e]; unfold pos; simp; omega), e]; rfl
end Go.Proofs.YtjjkhjiiakamaaaDoor
