/- What a change leaves, plainly: the changed names, the others. -/
import Derived.Test.YtckddmdgmjekdaaGreatBaP
namespace Go.Proofs.YtckddmdgmjekdaaGreat
open Go.RowKit Go.Maps

theorem map_filter {α β : Type} (f : α → β) (p : β → Bool) (l : List α) : (l.map f).filter p = (l.filter fun x => p (f x)).map f := by
  induction l with
  | nil => rfl
  | cons x l ih =>
    simp only [List.map_cons, List.filter_cons]
    cases h : p (f x) <;> simp [ih]
theorem others_eq {m : MM} {l : List PP} {a b : List ByteArray} (ha : Nm m a) (hb : Nm (m.chg l) b) : (pairsOf (m.chg l) b).filter (outB l) = (pairsOf m a).filter (outB l) := by
  have hout : ∀ k, namedB l k = false → m.chg l k = m k := fun k hk => chg_notin (fun p hp c => by
    have := namedB_iff.2 ⟨p, hp, c⟩; rw [hk] at this; cases this)
  unfold pairsOf
  rw [map_filter, map_filter]
  have hs : (b.filter fun k => outB l ⟨k, (m.chg l k).getD ByteArray.empty, false⟩) = a.filter fun k => outB l ⟨k, (m k).getD ByteArray.empty, false⟩ := by
    have key : ∀ (m' : MM) (ns : List ByteArray), Nm m' ns → (∀ k, namedB l k = false → m' k = m k) → Nm (fun k => if namedB l k = true then none else m k) (ns.filter fun k => !namedB l k) := fun m' ns hn he => by
      refine ⟨hn.rise.filter _, fun k => ?_⟩
      rw [List.mem_filter, hn.mem]
      cases hk : namedB l k with
      | true => simp
      | false => rw [he k hk]; simp
    exact (key _ _ hb hout).uniq (key _ _ ha (fun _ _ => rfl))
  rw [hs]
  refine List.map_congr_left (fun k hk => ?_)
  have hk2 := (List.mem_filter.1 hk).2
  have : namedB l k = false := by simpa [outB] using hk2
  rw [hout k this]
theorem chg_told {m : MM} {l : List PP} (h : chgE [] l = 0) {p : PP} (hp : p ∈ l) : (m.chg l p.n).isSome = !p.g ∧ ((m.chg l).at p.n).t = p.t := by
  obtain ⟨h1, h2⟩ := chgE_iff.1 h
  have e := chg_in (m := m) h2 hp
  cases hg : p.g with
  | true =>
    rw [hg, if_pos rfl] at e
    have ht : p.t = ⟨#[]⟩ := size_zero.1 (Classical.byContradiction fun c => (h1 p hp).2.1 ⟨hg, c⟩)
    refine ⟨by rw [e]; rfl, ?_⟩
    unfold MM.at; rw [e, ht]
  | false =>
    rw [hg, if_neg (by simp)] at e
    refine ⟨by rw [e]; rfl, ?_⟩
    unfold MM.at; rw [e]
end Go.Proofs.YtckddmdgmjekdaaGreat
