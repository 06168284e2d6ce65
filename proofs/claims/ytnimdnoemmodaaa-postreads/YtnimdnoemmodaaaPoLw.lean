/- What the laws of layer 15 share: sizes, what stays. No walk but Beyond's is in this text. -/
import Derived.Test.YtnimdnoemmodaaaPoFrame
import Derived.Test.YtnimdnoemmodaaaPoV
namespace Go.Proofs.Ytnimdnoemmodaaa
open Go.RowKit Go.Maps
theorem mem_sumP {α : Type} {f : α → Nat} : ∀ {l : List α} {a : α}, a ∈ l → f a ≤ (l.map f).foldr (· + ·) 0
  | [], _, h => by cases h
  | b :: r, a, h => by
    rcases List.mem_cons.1 h with rfl | h
    · simp
    · have := mem_sumP (f := f) h; simp only [List.map_cons, List.foldr_cons]; omega
theorem smC_of {w : World} {c : Cm} {x : Cv} (h : CmR w c x) (hb : cmN c ≤ 1048576) : SmC c := by
  unfold cmN at hb
  exact ⟨by omega, by omega, by omega, by omega, by omega, fun n hn => by have := usum_mem hn; omega, h.adds.fit, h.seals.fit, h.joins.fit⟩
theorem smM_of {w : World} {m : Ml} {x : Mx} (h : MlR w m x) (hb : mlB m) (hn : mlN m ≤ 1048576) : SmM m := by
  unfold mlN at hn
  exact ⟨smC_of h.c (by omega), by omega, fun n hq => by have := usum_mem hq; omega, hb⟩
theorem smX_of {w : World} {v : Value} {l : List Bx} {xs : List (Value × List Mx)} (h : Bxs w v l xs) (hn : l.length + bsN l ≤ 262144) : SmX l := by
  refine ⟨by omega, fun b hb => ?_⟩
  obtain ⟨i, hi⟩ := List.getElem?_of_mem hb
  have hil : i < xs.length := by rw [h.xl]; exact (List.getElem?_eq_some_iff.1 hi).1
  obtain ⟨_, e2, _, e4⟩ := h.el i b _ hi (List.getElem?_eq_getElem hil)
  have h1 : bxN b ≤ bsN l := mem_sumP (f := bxN) hb
  unfold bxN at h1
  refine ⟨by omega, fun m hm => ?_⟩
  obtain ⟨j, hj⟩ := List.getElem?_of_mem hm
  have hjl : j < (xs[i]).2.length := by rw [e2]; exact (List.getElem?_eq_some_iff.1 hj).1
  obtain ⟨q1, q2⟩ := e4 j m _ hj (List.getElem?_eq_getElem hjl)
  have h2 : mlN m ≤ msN b.ml := mem_sumP (f := mlN) hm
  exact smM_of q1 q2 (by omega)
theorem Bxs.rdl {w : World} {v : Value} {l : List Bx} {xs : List (Value × List Mx)} (h : Bxs w v l xs) (hs : SmX l) : RdL kBx w v l xs := by
  refine ⟨h.xl, fun i b x hb hx => ?_, h.form⟩
  obtain ⟨_, e2, e3, e4⟩ := h.el i b x hb hx
  have hsb := hs.b b (List.mem_of_getElem? hb)
  exact ⟨⟨e2, fun j m y hm hy => ⟨(e4 j m y hm hy).1, hsb.m m (List.mem_of_getElem? hm)⟩, e3⟩, hsb⟩
theorem mayP_set {l : List Bx} {k : Nat} {b b' : Bx} (h : mayP l) (hk : l[k]? = some b) (h1 : b'.dev = b.dev) (h2 : 0 ≤ b'.dn ∧ b'.dn ≤ 1099511627776) : mayP (l.set k b') := by
  have hkl : k < l.length := (List.getElem?_eq_some_iff.1 hk).1
  have hd : ∀ (i : Nat) (c : Bx), (l.set k b')[i]? = some c → ∃ c', l[i]? = some c' ∧ c.dev = c'.dev ∧ (0 ≤ c.dn ∧ c.dn ≤ 1099511627776) := fun i c hc => by
    by_cases q : k = i
    · subst q
      rw [List.getElem?_set_self hkl] at hc
      cases hc
      exact ⟨b, hk, h1, h2⟩
    · rw [List.getElem?_set_ne q] at hc
      exact ⟨c, hc, rfl, (h i c hc).1.2.2⟩
  intro j c hc
  obtain ⟨c', e1, e2, e3⟩ := hd j c hc
  obtain ⟨f1, f2⟩ := h j c' e1
  refine ⟨⟨by rw [e2]; exact f1.1, by rw [e2]; exact f1.2.1, e3⟩, fun q i hi hq => ?_⟩
  obtain ⟨q', g1, g2, _⟩ := hd i q hq
  rw [e2, g2]
  exact f2 q' i hi g1
end Go.Proofs.Ytnimdnoemmodaaa
