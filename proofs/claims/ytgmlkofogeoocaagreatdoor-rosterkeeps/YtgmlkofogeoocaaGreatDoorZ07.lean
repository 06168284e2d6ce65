/- Texts joined: TrJ0 TrJ. -/
import Derived.Test.YtgmlkofogeoocaaGreatDoorZ06
import Derived.Laws.CopyRow
/- The copy of a row of nodes; what a copied tree is, while it is made. No walk is in this text. -/
namespace Go.Proofs.YtgmlkofogeoocaaGreatDoor
open Go.RowKit Go.Maps
theorem Trd.cells {w : World} {a : Option Addr} {N c : Nat} {T : List Nd} (h : Trd w (.slice a N c) T) : ∃ us : List Value, us.length = T.length ∧ (∀ (i : Nat) (n : Nd) (u : Value), T[i]? = some n → us[i]? = some u → Nums w u n.un) ∧ (T = [] ∨ ∃ b o, a = some ⟨b, o, none⟩ ∧ ∀ j x, (treeC T us)[j]? = some x → w.cell? ⟨b, o + j, none⟩ = some x) := by
  rcases h.form with ⟨rfl, _⟩ | ⟨b, o, c', hv, hB, hc⟩
  · exact ⟨[], rfl, by simp, Or.inl rfl⟩
  · cases hv
    have hch : ∀ i, ∃ u, ∀ n, T[i]? = some n → NdC w b (o + i * 4) n u ∧ Nums w u n.un := fun i => by
      cases hT : T[i]? with
      | none => exact ⟨undef, fun n hn => by cases hn⟩
      | some n =>
        obtain ⟨u, h1, h2⟩ := hc i n hT
        exact ⟨u, fun m hm => by cases hm; exact ⟨h1, h2⟩⟩
    let f : Nat → Value := fun i => Classical.choose (hch i)
    have hf : ∀ i n, T[i]? = some n → NdC w b (o + i * 4) n (f i) ∧ Nums w (f i) n.un := fun i n hn => Classical.choose_spec (hch i) n hn
    refine ⟨(List.range T.length).map f, by simp, fun i n u hn hu => ?_, Or.inr ⟨b, o, rfl, fun j x hj => ?_⟩⟩
    · have hi : i < T.length := (List.getElem?_eq_some_iff.1 hn).1
      simp [hi] at hu
      subst hu
      exact (hf i n hn).2
    · have hlt : j < T.length * 4 := by
        have := (List.getElem?_eq_some_iff.1 hj).1
        rw [treeC_len (by simp)] at this; exact this
      obtain ⟨i, k, hk, rfl⟩ : ∃ i k, k < 4 ∧ j = i * 4 + k := ⟨j / 4, j % 4, by omega, by omega⟩
      have hi : i < T.length := by omega
      have hn : T[i]? = some T[i] := List.getElem?_eq_getElem hi
      have hu : ((List.range T.length).map f)[i]? = some (f i) := by simp [hi]
      obtain ⟨v, hv⟩ : ∃ v, (ndC T[i] (f i))[k]? = some v := ⟨_, List.getElem?_eq_getElem hk⟩
      rw [treeC_get hn hu hv] at hj
      cases hj
      obtain ⟨h0, h1, h2, h3⟩ := (hf i _ hn).1
      match k, hk, hv with
      | 0, _, hv => cases hv; simpa [Nat.add_assoc] using h0
      | 1, _, hv => cases hv; simpa [Nat.add_assoc] using h1
      | 2, _, hv => cases hv; simpa [Nat.add_assoc] using h2
      | 3, _, hv => cases hv; simpa [Nat.add_assoc] using h3
end Go.Proofs.YtgmlkofogeoocaaGreatDoor

/- The contract of copied. -/
namespace Go.Proofs.YtgmlkofogeoocaaGreatDoor
open Go.RowKit Go.Maps
theorem below_setRow' {B g : Nat} {w0 w : World} (hb : Below B w0 w) (hBg : B ≤ g) (cs : Array Value) : Below B w0 (w.setRow g cs) :=
  hb.trans ⟨rfl, rfl, rfl, by simp [World.setRow], fun k hk => setRow_other w g k cs (by omega)⟩
end Go.Proofs.YtgmlkofogeoocaaGreatDoor
