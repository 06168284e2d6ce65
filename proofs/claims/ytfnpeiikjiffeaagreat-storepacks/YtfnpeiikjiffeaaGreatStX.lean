/- A row of pairs, all of them, behind another row. -/
import Derived.Test.YtfnpeiikjiffeaaGreatBaP
import Derived.Laws.AppendOwnNone
namespace Go.Proofs.YtfnpeiikjiffeaaGreat
open Go.RowKit Go.Maps

theorem flat3_cell {W : World} {b off : Nat} {l : List PP} (h : ∀ i x, l[i]? = some x → PrAt W b (off + i * 3) x) : ∀ j u, (l.flatMap prC)[j]? = some u → W.cell? ((⟨b, off, none⟩ : Addr).add j) = some u := by
  intro j u hj
  have hlt : j < l.length * 3 := by
    have := (List.getElem?_eq_some_iff.1 hj).1
    rw [flat3_len] at this; exact this
  obtain ⟨i, k, hk, rfl⟩ : ∃ i k, k < 3 ∧ j = i * 3 + k := ⟨j / 3, j % 3, by omega, by omega⟩
  obtain ⟨x, hx⟩ : ∃ x, l[i]? = some x := ⟨_, List.getElem?_eq_getElem (by omega)⟩
  obtain ⟨v, hv⟩ : ∃ v, (prC x)[k]? = some v := ⟨_, List.getElem?_eq_getElem hk⟩
  rw [flat3 hx hv] at hj
  cases hj
  obtain ⟨h0, h1, h2⟩ := h i x hx
  have ea : ∀ j, (⟨b, off, none⟩ : Addr).add j = ⟨b, off + j, none⟩ := fun j => by
    unfold Addr.add; by_cases hj : j = 0 <;> simp [hj]
  rw [ea]
  match k, hk, hv with
  | 0, _, hv => cases hv; simpa [Nat.add_assoc] using h0
  | 1, _, hv => cases hv; simpa [Nat.add_assoc] using h1
  | 2, _, hv => cases hv; simpa [Nat.add_assoc] using h2
theorem wpList_joinP {w W : World} {v : Value} {l0 l : List PP} {ad : Option Addr} {c : Nat} {ops : Array Oper} {rest : List Oper} {o : Oper} {a : Act} {Q : Exit → Act → World → Prop} (hgd : o.guard = none) (s x : Operand)
    (ho : o.op = .call { callee := .builtin .append, args := #[s, x], argTypes := #[22, 22] }) (hs : a.eval s = v) {L : Nat} (hLl : L = l.length) (hx : a.eval x = .slice ad L c) (h : QRow w W v l0) (hA : PrsAt W ad l) (hz : ad = none → c = 0) (hl : l0.length + l.length ≤ 1000000)
    (hk : ∀ v' w', QRow w w' v' (l0 ++ l) → Fr v.ownBlock.toList W w' → wpList Tryz.prog ops Q rest (a.put o.dst v') w') : wpList Tryz.prog ops Q (o :: rest) a W := by
  subst hLl
  obtain ⟨i0, hi, hz0, hz1, hz2⟩ := info_pair
  obtain ⟨hb, hr, hn⟩ := h
  have key : ∀ (b : Addr), ad = some b → (∀ j u, (l.flatMap prC)[j]? = some u → W.cell? (b.add j) = some u) → wpList Tryz.prog ops Q (o :: rest) a W := fun b hab hcell => by
    subst hab
    refine wpList_append_own_at _ hgd s x 22 ho 0 48 i0 (pairV zpp) 3 40 Tryz.underlying22 hi hz0 hz1 hz2 rfl (by decide) v l0.length (l0.flatMap prC) hs hr b l.length c (l.flatMap prC) hx (flat3_len l) hcell ?_ (by unfold maxLen; omega) (by omega) (Nat.zero_le _) ?_
    · intro u hu
      obtain ⟨p, _, hp⟩ := List.mem_flatMap.1 hu
      simp only [prC, List.mem_cons, List.not_mem_nil, or_false] at hp
      rcases hp with rfl | rfl | rfl <;> rfl
    intro v' w' h1 h2 _ h4
    have hF : Fr v.ownBlock.toList W w' := Fr.ofGrown h2
    refine hk v' w' ⟨Fr.toBase hb hF (fun k hk => hn k (by simpa using hk)), ?_, fun k hk => ?_⟩ hF
    · unfold PRow
      rw [List.length_append, List.flatMap_append]; exact h1
    · rcases h4 with q | q
      · exact hn k (q.symm.trans hk)
      · rw [q] at hk; simp at hk; have := hb.size; omega
  rcases hA.cells with hnil | ⟨b, off, hab, hB, hc⟩
  · subst hnil
    cases ad with
    | none =>
      obtain rfl := hz rfl
      refine wpList_append_own_none hgd s x 22 ho 0 48 i0 3 Tryz.underlying22 hi v l0.length _ hs hr hx ?_
      exact hk v W ⟨hb, by simpa using hr, hn⟩ (Fr.refl _ _)
    | some b => exact key b rfl (fun j u hj => by simp at hj)
  · exact key _ hab (flat3_cell hc)
theorem qrow_empty (W : World) : QRow W (W.alloc (.cells #[] 48)) (.slice (some ⟨W.heap.size, 0, none⟩) 0 0) [] := by
  refine ⟨bw_alloc _ _, ⟨rfl, Or.inr ⟨W.heap.size, 0, #[], rfl, Nat.zero_le _, heap_alloc_new _ _, Nat.le_refl _, Nat.zero_le _, rfl, rfl⟩⟩, fun k hk => ?_⟩
  simp [Value.ownBlock] at hk; omega
end Go.Proofs.YtfnpeiikjiffeaaGreat
