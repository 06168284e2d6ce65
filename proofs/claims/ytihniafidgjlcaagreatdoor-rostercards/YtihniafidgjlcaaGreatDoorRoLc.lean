/- Cards read in either way; what SetCard leaves, plainly. No walk is in this text. -/
import Derived.Test.YtihniafidgjlcaaGreatDoorRoCs
import Derived.Test.YtihniafidgjlcaaGreatDoorRoT
import Derived.Test.YtihniafidgjlcaaGreatDoorZ18
namespace Go.Proofs.YtihniafidgjlcaaGreatDoor.Cd
open Go.RowKit Go.Maps
def ccR (l : List Cd) : List (List Int) := l.map fun c => [c.us, c.ep, c.pb]
theorem ccR_len (l : List Cd) : (ccR l).length = l.length := by simp [ccR]
theorem ccR_get {l : List Cd} {i : Nat} {c : Cd} (h : l[i]? = some c) : (ccR l)[i]? = some [c.us, c.ep, c.pb] := by simp [ccR, h]
theorem cc_of : ∀ {l : List (List Int)}, (∀ x ∈ l, x.length = 3) → ∃ m, l = ccR m
  | [], _ => ⟨[], rfl⟩
  | x :: r, h => by
    obtain ⟨m, rfl⟩ := cc_of (l := r) (fun y hy => h y (by simp [hy]))
    match x, h x (by simp) with
    | [a, b, c], _ => exact ⟨⟨a, b, c⟩ :: m, rfl⟩
theorem rdl_of_ri {w : World} {v : Value} {l : List Cd} (h : RI 3 w v (ccR l)) : RdL kCd w v l (List.replicate l.length ()) := by
  refine ⟨by simp, fun _ _ _ _ _ => trivial, ?_⟩
  obtain ⟨a, cap, rfl, hc⟩ := h.form
  refine ⟨a, cap, by rw [ccR_len], ?_⟩
  rcases hc with hc | ⟨g, o, rfl, hc⟩
  · left
    cases l with
    | nil => rfl
    | cons x r => simp [ccR] at hc
  · right
    refine ⟨g, o, rfl, fun j u hj => ?_⟩
    obtain ⟨i, k, c, x, e, hk, hl, hx, hu⟩ := cellK_inv (K := kCd) (by simp) hj
    rw [e]
    have h1 := hc i _ (ccR_get hl)
    have e3 : kCd.c = 3 := rfl
    rw [e3] at hk ⊢
    rw [← Nat.add_assoc]
    match k, hk with
    | 0, _ => cases hu; exact h1 0 _ rfl
    | 1, _ => cases hu; exact h1 1 _ rfl
    | 2, _ => cases hu; exact h1 2 _ rfl
theorem ri_of_owl {B : Nat} {w : World} {v : Value} {l : List Cd} {xs : List Unit} (h : OwL kCd B w v l xs) (hl : l.length ≤ 140737488355328) (hf : ∀ c ∈ l, ∀ z ∈ [c.us, c.ep, c.pb], -9223372036854775808 ≤ z ∧ z ≤ 9223372036854775807) : RI 3 w v (ccR l) := by
  refine ⟨by rw [ccR_len]; exact hl, fun x hx => ?_, ?_⟩
  · obtain ⟨c, hc, rfl⟩ := List.mem_map.1 hx
    exact ⟨rfl, hf c hc⟩
  · obtain ⟨a, cap, hv⟩ := own_slice h.row
    refine ⟨a, cap, by rw [ccR_len]; exact hv, ?_⟩
    rcases Nat.eq_zero_or_pos l.length with h0 | h0
    · left
      have : l = [] := List.eq_nil_of_length_eq_zero h0
      rw [this]; rfl
    · obtain ⟨g, cap', hv', _, _, _⟩ := own_open h.row h0
      rw [hv] at hv'
      cases hv'
      refine Or.inr ⟨g, 0, rfl, fun i x hi j z hj => ?_⟩
      have hil : i < l.length := by have := (List.getElem?_eq_some_iff.1 hi).1; rw [ccR_len] at this; exact this
      have hc := List.getElem?_eq_getElem hil
      rw [ccR_get hc] at hi
      cases hi
      have hx : xs[i]? = some () := List.getElem?_eq_getElem (by rw [h.xl]; exact hil)
      rw [Nat.zero_add]
      have hjl := (List.getElem?_eq_some_iff.1 hj).1
      have key : ∀ u, (cdC l[i])[j]? = some u → w.cell? ⟨g, i * 3 + j, none⟩ = some u := fun u hu => own_cell h.row (by rw [hv]; rfl) (cellK_get (K := kCd) (i := i) (j := j) hc hx hu)
      match j, hjl, hj, key with
      | 0, _, hj, key => cases hj; exact key _ rfl
      | 1, _, hj, key => cases hj; exact key _ rfl
      | 2, _, hj, key => cases hj; exact key _ rfl
theorem may_iff {l : List Cd} : mayP l ↔ (∀ p ∈ l, okC p) ∧ l.Pairwise (fun a b => a.us < b.us) := by
  constructor
  · intro h
    refine ⟨fun p hp => ?_, ?_⟩
    · obtain ⟨j, hj⟩ := List.mem_iff_getElem?.1 hp
      exact (h j p hj).1
    · rw [List.pairwise_iff_getElem]
      intro i j hi hj hij
      exact ris_monoX h i j _ _ hij (List.getElem?_eq_getElem hi) (List.getElem?_eq_getElem hj)
  · intro ⟨h1, h2⟩ j b hb
    refine ⟨h1 b (List.mem_of_getElem? hb), fun q i hi hq => ?_⟩
    rw [List.pairwise_iff_getElem] at h2
    obtain ⟨x1, e1⟩ := List.getElem?_eq_some_iff.1 hb
    obtain ⟨x2, e2⟩ := List.getElem?_eq_some_iff.1 hq
    have := h2 i j x2 x1 (by omega)
    rw [e1, e2] at this
    exact this
theorem may_join {A B : List Cd} {c : Cd} (hc : okC c) (hA : mayP A) (hB : mayP B) (h1 : ∀ p ∈ A, p.us < c.us) (h2 : ∀ p ∈ B, c.us < p.us) : mayP (A ++ c :: B) := by
  rw [may_iff] at hA hB ⊢
  refine ⟨fun p hp => ?_, ?_⟩
  · rcases List.mem_append.1 hp with q | q
    · exact hA.1 p q
    · rcases List.mem_cons.1 q with rfl | q
      · exact hc
      · exact hB.1 p q
  · rw [List.pairwise_append]
    refine ⟨hA.2, List.pairwise_cons.2 ⟨h2, hB.2⟩, fun a ha b hb => ?_⟩
    rcases List.mem_cons.1 hb with rfl | q
    · exact h1 a ha
    · have := h1 a ha
      have := h2 b q
      omega
theorem may_take {l : List Cd} (h : mayP l) (k : Nat) : mayP (l.take k) := by
  rw [may_iff] at h ⊢
  exact ⟨fun p hp => h.1 p (List.mem_of_mem_take hp), h.2.sublist (List.take_sublist _ _)⟩
theorem may_drop {l : List Cd} (h : mayP l) (k : Nat) : mayP (l.drop k) := by
  rw [may_iff] at h ⊢
  exact ⟨fun p hp => h.1 p (List.mem_of_mem_drop hp), h.2.sublist (List.drop_sublist _ _)⟩
theorem take_lt {l : List Cd} {d : Int} {k : Nat} (h : ∀ (j : Nat) (p : Cd), j < k → l[j]? = some p → p.us < d) : ∀ p ∈ l.take k, p.us < d := fun p hp => by
  obtain ⟨j, hj⟩ := List.mem_iff_getElem?.1 hp
  have hjl := (List.getElem?_eq_some_iff.1 hj).1
  rw [List.length_take] at hjl
  rw [List.getElem?_take_of_lt (by omega)] at hj
  exact h j p (by omega) hj
theorem drop_lt {l : List Cd} {d : Int} {k : Nat} (h : ∀ (j : Nat) (p : Cd), k ≤ j → l[j]? = some p → d < p.us) : ∀ p ∈ l.drop k, d < p.us := fun p hp => by
  obtain ⟨j, hj⟩ := List.mem_iff_getElem?.1 hp
  rw [List.getElem?_drop] at hj
  exact h (k + j) p (by omega) hj
theorem dset_ins {l : List Cd} {c : Cd} {k : Nat} (hm : mayP l) (ho : okC c) (ha : AtX l c.us k) (hn : ∀ p ∈ l, p.us ≠ c.us) : insAt l k c = dset c l ∧ mayP (dset c l) ∧ (dset c l)[k]? = some c ∧ (dset c l).length ≤ l.length + 1 ∧ ∀ p ∈ dset c l, p ∈ l ∨ p = c := by
  have h1 : ∀ p ∈ l.take k, p.us < c.us := take_lt ha.lo
  have h2 : ∀ p ∈ l.drop k, c.us < p.us := drop_lt (fun j p hj hp => by
    have := ha.hi j p hj hp
    have := hn p (List.mem_of_getElem? hp)
    omega)
  have e : dset c l = l.take k ++ c :: l.drop k := by
    have := dset_at (c := c) h1 h2
    rw [List.take_append_drop] at this
    exact this
  refine ⟨by rw [e]; rfl, by rw [e]; exact may_join ho (may_take hm k) (may_drop hm k) h1 h2, ?_, ?_, fun p hp => ?_⟩
  · have := insAt_eq c ha.le
    rw [e]; exact this
  · rw [e]; simp; omega
  · rw [e] at hp
    rcases List.mem_append.1 hp with q | q
    · exact Or.inl (List.mem_of_mem_take q)
    · rcases List.mem_cons.1 q with rfl | q
      · exact Or.inr rfl
      · exact Or.inl (List.mem_of_mem_drop q)
theorem dset_set {l : List Cd} {c p : Cd} {k : Nat} (hm : mayP l) (ho : okC c) (hp : l[k]? = some p) (he : p.us = c.us) : l.set k c = dset c l ∧ mayP (dset c l) ∧ (dset c l)[k]? = some c ∧ (dset c l).length ≤ l.length + 1 ∧ ∀ q ∈ dset c l, q ∈ l ∨ q = c := by
  have hk := (List.getElem?_eq_some_iff.1 hp).1
  have h1 : ∀ p ∈ l.take k, p.us < c.us := take_lt (fun j q hj hq => by have := ris_monoX hm j k q p hj hq hp; omega)
  have h2 : ∀ p ∈ l.drop (k + 1), c.us < p.us := drop_lt (fun j q hj hq => by have := ris_monoX hm k j p q (by omega) hp hq; omega)
  have e0 : l = l.take k ++ p :: l.drop (k + 1) := by
    have : l.drop k = p :: l.drop (k + 1) := by
      rw [List.drop_eq_getElem_cons hk]
      congr 1
      exact (List.getElem?_eq_some_iff.1 hp).2
    rw [← this, List.take_append_drop]
  have e : dset c l = l.take k ++ c :: l.drop (k + 1) := by
    have := dset_on (c := c) h1 he h2
    rw [← e0] at this
    exact this
  have e2 : l.set k c = l.take k ++ c :: l.drop (k + 1) := List.set_eq_take_append_cons_drop.trans (if_pos hk)
  refine ⟨by rw [e2, e], by rw [e]; exact may_join ho (may_take hm k) (may_drop hm _) h1 h2, by rw [e, ← e2, List.getElem?_set_self hk], by rw [e, ← e2, List.length_set]; omega, fun q hq => ?_⟩
  rw [e, ← e2] at hq
  exact List.mem_or_eq_of_mem_set hq
theorem mem_tw {α : Type} {p : α → Bool} : ∀ {l : List α} {x : α}, x ∈ l.takeWhile p → p x = true
  | [], _, h => by simp at h
  | a :: l, x, h => by
    rw [List.takeWhile_cons] at h
    by_cases c : p a = true
    · rw [if_pos c] at h
      rcases List.mem_cons.1 h with rfl | q
      · exact c
      · exact mem_tw q
    · rw [if_neg c] at h; simp at h
theorem dw_head {α : Type} {p : α → Bool} : ∀ {l : List α} {y : α} {r : List α}, l.dropWhile p = y :: r → p y = false
  | [], _, _, h => by simp at h
  | a :: l, y, r, h => by
    rw [List.dropWhile_cons] at h
    by_cases c : p a = true
    · rw [if_pos c] at h; exact dw_head h
    · rw [if_neg c] at h
      cases h
      simpa using c
theorem set_both (l : List Cd) (c : Cd) : ∃ (ER : Int) (LB : List Cd), (ER = 0 ∨ ER = 1) ∧ (∀ B w' v' er, SetX B w' v' er l c → er = ER ∧ ∃ xs', OwL kCd B w' v' LB xs') ∧ (∀ B w' v' er, RSetX B w' v' er l c → er = ER ∧ ∃ xs', OwL kCd B w' v' LB xs') ∧
    (ER = 0 → CrdX LB c.us c true) ∧ LB.length ≤ l.length + 1 ∧ ∀ p ∈ LB, p ∈ l ∨ p = c := by
  by_cases hok : okC c ∧ mayP l
  · have key : ∃ k : Nat, (dset c l)[k]? = some c ∧ mayP (dset c l) ∧ (dset c l).length ≤ l.length + 1 ∧ (∀ p ∈ dset c l, p ∈ l ∨ p = c) := by
      obtain ⟨k, hk⟩ : ∃ k : Nat, AtX l c.us k := by
        refine ⟨(l.takeWhile fun p => decide (p.us < c.us)).length, (List.takeWhile_sublist _).length_le, fun j p hj hp => ?_, fun j p hj hp => ?_⟩
        · have e := List.getElem?_append_left (l₂ := l.dropWhile fun p => decide (p.us < c.us)) hj
          rw [List.takeWhile_append_dropWhile, hp] at e
          have := mem_tw (List.mem_of_getElem? e.symm)
          simpa using this
        · rcases Nat.lt_or_ge (l.takeWhile fun p => decide (p.us < c.us)).length l.length with q | q
          · have e := List.getElem?_append_right (l₁ := l.takeWhile fun p => decide (p.us < c.us)) (l₂ := l.dropWhile fun p => decide (p.us < c.us)) (Nat.le_refl _)
            rw [List.takeWhile_append_dropWhile, Nat.sub_self] at e
            obtain ⟨x, hx⟩ : ∃ x, l[(l.takeWhile fun p => decide (p.us < c.us)).length]? = some x := ⟨_, List.getElem?_eq_getElem q⟩
            rw [hx] at e
            have hd : ¬ x.us < c.us := by
              cases hw : (l.dropWhile fun p => decide (p.us < c.us)) with
              | nil => rw [hw] at e; cases e
              | cons y r =>
                rw [hw] at e
                cases e
                have := dw_head hw
                simpa using this
            rcases Nat.lt_or_ge (l.takeWhile fun p => decide (p.us < c.us)).length j with r | r
            · have := ris_monoX hok.2 _ j x p r hx hp; omega
            · have : j = (l.takeWhile fun p => decide (p.us < c.us)).length := by omega
              rw [← this, hp] at hx
              cases hx; omega
          · have := (List.getElem?_eq_some_iff.1 hp).1
            omega
      by_cases hn : ∀ p ∈ l, p.us ≠ c.us
      · obtain ⟨_, h2, h3, h4, h5⟩ := dset_ins hok.2 hok.1 hk hn
        exact ⟨k, h3, h2, h4, h5⟩
      · obtain ⟨p, hp⟩ := Classical.not_forall.1 hn
        obtain ⟨hp1, hp2⟩ := Classical.not_imp.1 hp
        obtain ⟨j, hj⟩ := List.mem_iff_getElem?.1 hp1
        obtain ⟨_, h2, h3, h4, h5⟩ := dset_set hok.2 hok.1 hj (Classical.not_not.1 hp2)
        exact ⟨j, h3, h2, h4, h5⟩
    obtain ⟨k, k1, k2, k3, k4⟩ := key
    refine ⟨0, dset c l, Or.inl rfl, fun B w' v' er h => ?_, fun B w' v' er h => ?_, fun _ => Or.inr ⟨rfl, k2, k, k1, rfl⟩, k3, k4⟩
    · rcases h with ⟨_, q, _⟩ | ⟨e, _, _, j, xs', q | ⟨⟨p, q1, q2⟩, q3⟩⟩
      · exact absurd hok q
      · rw [(dset_ins hok.2 hok.1 q.1 q.2.1).1] at q
        exact ⟨e, xs', q.2.2⟩
      · rw [(dset_set hok.2 hok.1 q1 q2).1] at q3
        exact ⟨e, xs', q3⟩
    · rcases h with ⟨_, q, _⟩ | ⟨e, _, _, xs', q⟩
      · exact absurd hok q
      · exact ⟨e, xs', q⟩
  · refine ⟨1, [], Or.inr rfl, fun B w' v' er h => ?_, fun B w' v' er h => ?_, fun h => absurd h (by decide), by simp, by simp⟩
    · rcases h with ⟨e, _, q⟩ | ⟨_, q1, q2, _⟩
      · rw [q]; exact ⟨e, [], OwL.nil _ _ _⟩
      · exact absurd ⟨q1, q2⟩ hok
    · rcases h with ⟨e, _, q⟩ | ⟨_, q1, q2, _⟩
      · rw [q]; exact ⟨e, [], OwL.nil _ _ _⟩
      · exact absurd ⟨q1, q2⟩ hok
end Go.Proofs.YtihniafidgjlcaaGreatDoor.Cd
