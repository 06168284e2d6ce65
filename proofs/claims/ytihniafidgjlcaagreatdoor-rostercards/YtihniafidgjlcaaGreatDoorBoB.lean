/- Rows of marks; what a mark is by its kind. No walk is in this text. -/
import Derived.Test.YtihniafidgjlcaaGreatDoorZ24
import Derived.Deep.RegionLaw
import Derived.Deep.RegionWith
import Derived.Deep.CutRange
namespace Go.Proofs.YtihniafidgjlcaaGreatDoor
open Go.RowKit Go.Maps
theorem step_app {P : Program} {ops : Array Oper} {o : Oper} {a : Act} {w : World} {K : Act → World → Prop} {Q : Exit → Act → World → Prop} {E : Prop}
    (hg : o.guard = none) (s x : Operand) (t : TypeId) (hop : o.op = Op.call { callee := Callee.builtin Builtin.append, args := #[s, x], argTypes := #[t, t] })
    (base : Nat) (e : TypeId) (i : TypeInfo) (z : Value) (size bytes : Nat) (h1 : P.underlying t = some (.slice e)) (h2 : P.info? e = some i) (h3 : i.zero = some z) (h4 : i.size = size) (h5 : i.bytes = bytes) (h6 : z.cells.size = size) (h7 : 0 < size)
    (v : Value) (n : Nat) (xs : List Value) (hs : a.eval s = v) (hown : w.ownsRow base e size v n xs)
    (ad : Addr) (m c : Nat) (news : List Value) (hx : a.eval x = .slice (some ad) m c) (hn : news.length = m * size) (hc : ∀ j u, news[j]? = some u → w.cell? (ad.add j) = some u) (h1c : ∀ u ∈ news, u.oneCell' = true)
    (b1 : n + m ≤ maxLen) (b2 : (n + m) * bytes ≤ 140737488355328) (hbase : base ≤ w.heap.size)
    (hK : ∀ v' w', w'.ownsRow base e size v' (n + m) (xs ++ news) → w.grownBy w' v.ownBlock → (v'.ownBlock = v.ownBlock ∨ v'.ownBlock = some w.heap.size) → K (a.put o.dst v') w') :
    if Region.wanted o (yielded ops a.tmps) = true then Oper.wp P o a w K Q else E := by
  have hw : Region.wanted o (yielded ops a.tmps) = true := by simp [Region.wanted, hg]
  rw [if_pos hw]
  obtain ⟨v', w', hr, r2, r3, _, r5⟩ := run_append_own_at (P := P) w base t o.type e i z size bytes h1 h2 h3 h4 h5 h6 h7 v n xs hown ad m c news hn hc h1c b1 b2 hbase
  unfold Oper.wp
  simp [execOp, hop, resolve, invoke, builtin, hs, hx, hr, Result.andThen]
  exact hK v' w' r2 r3 r5
theorem cells_newB2 (w : World) (x y : Value) (t : TypeId) : ∀ j u, [x, y][j]? = some u → (w.alloc (.cells #[x, y] t)).cell? ((⟨w.heap.size, 0, none⟩ : Addr).add j) = some u := by
  intro j u hj
  match j, hj with
  | 0, hj =>
    simp at hj; subst hj
    show (w.alloc (.cells #[x, y] t)).cell? ⟨w.heap.size, 0, none⟩ = some x
    unfold World.cell?; rw [heap_alloc_new]; rfl
  | 1, hj =>
    simp at hj; subst hj
    show (w.alloc (.cells #[x, y] t)).cell? ⟨w.heap.size, 1, none⟩ = some y
    unfold World.cell?; rw [heap_alloc_new]; rfl
  | j + 2, hj => simp at hj
theorem row_formB {B c : Nat} {w : World} {e : TypeId} {v : Value} {n : Nat} {xs : List Value} (h : w.ownsRow B e c v (n + 1) xs) : ∃ g cap, v = .slice (some ⟨g, 0, none⟩) (n + 1) cap := by
  rcases h.2 with ⟨_, h⟩ | ⟨g, cap, _, h, _⟩
  · omega
  · exact ⟨g, cap, h⟩
def Mks (Mk : List Value → Prop) (c k : Nat) (xs : List Value) : Prop := ∃ L : List (List Value), xs = L.flatten ∧ L.length = k ∧ ∀ l ∈ L, l.length = c ∧ Mk l
theorem Mks.nil (Mk : List Value → Prop) (c : Nat) : Mks Mk c 0 [] := ⟨[], rfl, rfl, by simp⟩
theorem Mks.snoc {Mk : List Value → Prop} {c k : Nat} {xs l : List Value} (h : Mks Mk c k xs) (hl : l.length = c) (hm : Mk l) : Mks Mk c (k + 1) (xs ++ l) := by
  obtain ⟨L, rfl, h2, h3⟩ := h
  refine ⟨L ++ [l], by simp, by simp [h2], fun x hx => ?_⟩
  rcases List.mem_append.1 hx with q | q
  · exact h3 x q
  · simp at q; subst q; exact ⟨hl, hm⟩
theorem flat_len {c : Nat} : ∀ {L : List (List Value)}, (∀ l ∈ L, l.length = c) → L.flatten.length = L.length * c
  | [], _ => by simp
  | l :: L, h => by
    rw [List.flatten_cons, List.length_append, flat_len (fun x hx => h x (List.mem_cons_of_mem _ hx)), h l (by simp), List.length_cons, Nat.add_mul]; omega
theorem Mks.len {Mk : List Value → Prop} {c k : Nat} {xs : List Value} (h : Mks Mk c k xs) : xs.length = k * c := by
  obtain ⟨L, rfl, h2, h3⟩ := h
  rw [flat_len (fun l hl => (h3 l hl).1), h2]
theorem flat_get {c : Nat} : ∀ {L : List (List Value)} {j i : Nat} {l : List Value} {x : Value}, (∀ l ∈ L, l.length = c) → L[j]? = some l → l[i]? = some x → L.flatten[j * c + i]? = some x
  | [], j, i, l, x, _, h, _ => by simp at h
  | y :: L, 0, i, l, x, hc, h, hx => by
    simp at h; subst h
    rw [List.flatten_cons, Nat.zero_mul, Nat.zero_add, List.getElem?_append_left (List.getElem?_eq_some_iff.1 hx).1]; exact hx
  | y :: L, j + 1, i, l, x, hc, h, hx => by
    have hy := hc y (by simp)
    rw [List.flatten_cons, List.getElem?_append_right (by rw [hy, Nat.add_mul]; omega), hy, show (j + 1) * c + i - c = j * c + i by rw [Nat.add_mul]; omega]
    exact flat_get (fun l hl => hc l (List.mem_cons_of_mem _ hl)) (by simpa using h) hx
theorem Mks.get {Mk : List Value → Prop} {c m j : Nat} {xs : List Value} (h : Mks Mk c m xs) (hj : j < m) : ∃ l, l.length = c ∧ Mk l ∧ ∀ i x, l[i]? = some x → xs[j * c + i]? = some x := by
  obtain ⟨L, rfl, h2, h3⟩ := h
  obtain ⟨l, hl⟩ : ∃ l, L[j]? = some l := ⟨_, List.getElem?_eq_getElem (by omega)⟩
  exact ⟨l, (h3 l (List.mem_of_getElem? hl)).1, (h3 l (List.mem_of_getElem? hl)).2, fun i x hx => flat_get (fun y hy => (h3 y hy).1) hl hx⟩
theorem cell_set_other {w : World} {g b j k : Nat} {u : Value} (h : g ≠ b) : (w.setCell ⟨b, j, none⟩ u).cell? ⟨g, k, none⟩ = w.cell? ⟨g, k, none⟩ :=
  World.cell?_of_block (w := w) (Below.heap_setCell _ _ _ _ (by simpa using h))
theorem fr_set1 (w : World) (g p : Nat) (a : Value) : Fr [g] w (w.setCell ⟨g, p, none⟩ a) := (Fr.refl [g] w).setCell (a := ⟨g, p, none⟩) (Or.inr (by simp)) _
theorem Tf.fr1 {ts : List TypeId} {B : Nat} {w w1 w2 : World} {g : Nat} {cur : Array Value} {t : TypeId} {z : Nat × Nat} (h : Tf ts B w w1) (hf : Fr [g] w1 w2) (hg : w1.heap[g]? = some (.cells cur t z)) (ht : t ∈ ts) (hB : B ≤ g) : Tf ts B w w2 := by
  refine ⟨h.bel.trans ⟨hf.os, hf.tape, hf.output, hf.size, fun k hk => ?_⟩, fun k o hk ho => ?_⟩
  · rcases Nat.lt_or_ge k w1.heap.size with c | c
    · exact hf.block k c (by simp; omega)
    · have := lt_of_blk hg; omega
  · have h1 := h.keep k o hk ho
    have hne : k ≠ g := by rintro rfl; rw [hg] at h1; exact ho _ _ _ (Option.some.inj h1).symm ht
    rw [hf.block k (lt_of_blk h1) (by simpa using hne)]; exact h1
end Go.Proofs.YtihniafidgjlcaaGreatDoor
