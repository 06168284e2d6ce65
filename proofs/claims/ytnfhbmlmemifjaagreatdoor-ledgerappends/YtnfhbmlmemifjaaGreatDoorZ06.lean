/- Texts joined: TrJ0 TrJ. -/
import Derived.Test.YtnfhbmlmemifjaaGreatDoorZ05
import Derived.Laws.CopyRow
/- The copy of a row of nodes; what a copied tree is, while it is made. No walk is in this text. -/
namespace Go.Proofs.YtnfhbmlmemifjaaGreatDoor
open Go.RowKit Go.Maps
theorem infoNode : (Tryz.prog.info? 256).map (fun i => (i.zero, i.size, i.bytes)) = some (some (.agg #[.int .i64 0, .int .i64 0, .int .i64 0, .slice none 0 0]), 4, 48) := by kernel_rfl
theorem treeC_app {T T' : List Nd} {us us' : List Value} (h : us.length = T.length) : treeC (T ++ T') (us ++ us') = treeC T us ++ treeC T' us' := by
  unfold treeC; rw [List.zipWith_append h.symm, List.flatten_append]
theorem Trd.cells {w : World} {a : Option Addr} {N c : Nat} {T : List Nd} (h : Trd w (.slice a N c) T) : ∃ us : List Value, us.length = T.length ∧ (∀ (i : Nat) (n : Nd) (u : Value), T[i]? = some n → us[i]? = some u → Nums w u n.un) ∧ (T = [] ∨ ∃ b o, a = some ⟨b, o, none⟩ ∧ ∀ j x, (treeC T us)[j]? = some x → w.cell? ⟨b, o + j, none⟩ = some x) := by
  rcases h.form with ⟨rfl, _⟩ | ⟨b, o, c', hv, hB, hc⟩
  · exact ⟨[], rfl, by simp, Or.inl rfl⟩
  · cases hv
    have hch : ∀ i, ∃ u, ∀ n, T[i]? = some n → NdC w b (o + i * 4) n u ∧ Nums w u n.un := fun i => by
      cases hT : T[i]? with
      | none => exact ⟨undef, fun n hn => by cases hn⟩
      | some n =>
        obtain ⟨u, h1, h2⟩ := hc i n hT
        exact ⟨u, fun m hm => by cases hm; exact ⟨h1, h2⟩⟩
    let f : Nat → Value := fun i => Classical.choose (hch i)
    have hf : ∀ i n, T[i]? = some n → NdC w b (o + i * 4) n (f i) ∧ Nums w (f i) n.un := fun i n hn => Classical.choose_spec (hch i) n hn
    refine ⟨(List.range T.length).map f, by simp, fun i n u hn hu => ?_, Or.inr ⟨b, o, rfl, fun j x hj => ?_⟩⟩
    · have hi : i < T.length := (List.getElem?_eq_some_iff.1 hn).1
      simp [hi] at hu
      subst hu
      exact (hf i n hn).2
    · have hlt : j < T.length * 4 := by
        have := (List.getElem?_eq_some_iff.1 hj).1
        rw [treeC_len (by simp)] at this; exact this
      obtain ⟨i, k, hk, rfl⟩ : ∃ i k, k < 4 ∧ j = i * 4 + k := ⟨j / 4, j % 4, by omega, by omega⟩
      have hi : i < T.length := by omega
      have hn : T[i]? = some T[i] := List.getElem?_eq_getElem hi
      have hu : ((List.range T.length).map f)[i]? = some (f i) := by simp [hi]
      obtain ⟨v, hv⟩ : ∃ v, (ndC T[i] (f i))[k]? = some v := ⟨_, List.getElem?_eq_getElem hk⟩
      rw [treeC_get hn hu hv] at hj
      cases hj
      obtain ⟨h0, h1, h2, h3⟩ := (hf i _ hn).1
      match k, hk, hv with
      | 0, _, hv => cases hv; simpa [Nat.add_assoc] using h0
      | 1, _, hv => cases hv; simpa [Nat.add_assoc] using h1
      | 2, _, hv => cases hv; simpa [Nat.add_assoc] using h2
      | 3, _, hv => cases hv; simpa [Nat.add_assoc] using h3
end Go.Proofs.YtnfhbmlmemifjaaGreatDoor

/- The contract of copied. -/
namespace Go.Proofs.YtnfhbmlmemifjaaGreatDoor
open Go.RowKit Go.Maps
theorem cell_of_blk {w : World} {b o : Nat} {cs : Array Value} {t : TypeId} {z : Nat × Nat} {v : Value} (h : w.heap[b]? = some (.cells cs t z)) (hv : cs[o]? = some v) : w.cell? ⟨b, o, none⟩ = some v := by simp [World.cell?, h, hv]
theorem own_cur {B : Nat} {w : World} {e : TypeId} {k g m : Nat} {xs : List Value} (h : w.ownsRow B e k (.slice (some ⟨g, 0, none⟩) m m) m xs) : ∃ cur : Array Value, w.heap[g]? = some (.cells cur e (0, 0)) ∧ cur.toList = xs ∧ B ≤ g ∧ m ≤ maxLen := by
  rcases h.2 with ⟨hv, _⟩ | ⟨g', cap, cur, hv, hB, hg, h1, h2, h3, h4⟩
  · cases hv
  · cases hv
    refine ⟨cur, hg, ?_, hB, h2⟩
    rw [← h4, List.take_of_length_le]
    simp; omega
theorem own_of_cur {B : Nat} {w : World} {e : TypeId} {k g m : Nat} {xs : List Value} (hg : w.heap[g]? = some (.cells xs.toArray e (0, 0))) (hx : xs.length = m * k) (hB : B ≤ g) (hm : m ≤ maxLen) : w.ownsRow B e k (.slice (some ⟨g, 0, none⟩) m m) m xs :=
  ⟨hx, Or.inr ⟨g, m, xs.toArray, rfl, hB, hg, Nat.le_refl _, hm, by simpa using hx, List.take_of_length_le (by simp; omega)⟩⟩
end Go.Proofs.YtnfhbmlmemifjaaGreatDoor
