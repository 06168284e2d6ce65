/- Rows of marks; what a mark is by its kind. No walk is in this text. -/
import Derived.Test.YtpcpcgagiapinaaGreatDoorBoA
import Derived.Deep.RegionLaw
import Derived.Deep.RegionWith
import Derived.Deep.CutRange
namespace Go.Proofs.YtpcpcgagiapinaaGreatDoor
open Go.RowKit Go.Maps
theorem cells_newB4 (w : World) (a b c d : Value) (t : TypeId) : ∀ j u, [a, b, c, d][j]? = some u → (w.alloc (.cells #[a, b, c, d] t)).cell? ((⟨w.heap.size, 0, none⟩ : Addr).add j) = some u := fun j u hj => by
  have h := heap_alloc_new w (.cells #[a, b, c, d] t)
  match j, hj with
  | 0, hj => simp at hj; subst hj; exact cell_of_blk h rfl
  | 1, hj => simp at hj; subst hj; exact cell_of_blk (o := 1) h rfl
  | 2, hj => simp at hj; subst hj; exact cell_of_blk (o := 2) h rfl
  | 3, hj => simp at hj; subst hj; exact cell_of_blk (o := 3) h rfl
  | j + 4, hj => simp at hj
def Mks (Mk : List Value → Prop) (c k : Nat) (xs : List Value) : Prop := ∃ L : List (List Value), xs = L.flatten ∧ L.length = k ∧ ∀ l ∈ L, l.length = c ∧ Mk l
theorem Mks.nil (Mk : List Value → Prop) (c : Nat) : Mks Mk c 0 [] := ⟨[], rfl, rfl, by simp⟩
theorem flat_len {c : Nat} : ∀ {L : List (List Value)}, (∀ l ∈ L, l.length = c) → L.flatten.length = L.length * c
  | [], _ => by simp
  | l :: L, h => by
    rw [List.flatten_cons, List.length_append, flat_len (fun x hx => h x (List.mem_cons_of_mem _ hx)), h l (by simp), List.length_cons, Nat.add_mul]; omega
theorem Mks.len {Mk : List Value → Prop} {c k : Nat} {xs : List Value} (h : Mks Mk c k xs) : xs.length = k * c := by
  obtain ⟨L, rfl, h2, h3⟩ := h
  rw [flat_len (fun l hl => (h3 l hl).1), h2]
theorem flat_get {c : Nat} : ∀ {L : List (List Value)} {j i : Nat} {l : List Value} {x : Value}, (∀ l ∈ L, l.length = c) → L[j]? = some l → l[i]? = some x → L.flatten[j * c + i]? = some x
  | [], j, i, l, x, _, h, _ => by simp at h
  | y :: L, 0, i, l, x, hc, h, hx => by
    simp at h; subst h
    rw [List.flatten_cons, Nat.zero_mul, Nat.zero_add, List.getElem?_append_left (List.getElem?_eq_some_iff.1 hx).1]; exact hx
  | y :: L, j + 1, i, l, x, hc, h, hx => by
    have hy := hc y (by simp)
    rw [List.flatten_cons, List.getElem?_append_right (by rw [hy, Nat.add_mul]; omega), hy, show (j + 1) * c + i - c = j * c + i by rw [Nat.add_mul]; omega]
    exact flat_get (fun l hl => hc l (List.mem_cons_of_mem _ hl)) (by simpa using h) hx
theorem Mks.get {Mk : List Value → Prop} {c m j : Nat} {xs : List Value} (h : Mks Mk c m xs) (hj : j < m) : ∃ l, l.length = c ∧ Mk l ∧ ∀ i x, l[i]? = some x → xs[j * c + i]? = some x := by
  obtain ⟨L, rfl, h2, h3⟩ := h
  obtain ⟨l, hl⟩ : ∃ l, L[j]? = some l := ⟨_, List.getElem?_eq_getElem (by omega)⟩
  exact ⟨l, (h3 l (List.mem_of_getElem? hl)).1, (h3 l (List.mem_of_getElem? hl)).2, fun i x hx => flat_get (fun y hy => (h3 y hy).1) hl hx⟩
theorem oneNode (z : Int) : ∀ u ∈ [Value.int .i64 z, .int .i64 0, .int .i64 0, .slice none 0 0], u.oneCell' = true := by
  intro u hu
  simp only [List.mem_cons, List.not_mem_nil, or_false] at hu
  rcases hu with rfl | rfl | rfl | rfl <;> rfl
end Go.Proofs.YtpcpcgagiapinaaGreatDoor
