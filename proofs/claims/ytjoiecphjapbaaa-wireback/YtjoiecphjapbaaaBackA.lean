/- What stands for an item is taken again as that item: the plain mathematics of WireBack, and the list of items that were taken, in memory. -/
import Derived.Test.YtjoiecphjapbaaaItems
namespace Go.Proofs.Ytjoiecphjapbaaa
open Go.RowKit

/-- From place k on stand the bytes b. -/
def Stands (l : List UInt8) (k : Nat) (b : List UInt8) : Prop := ∀ j, j < b.length → l[k + j]? = b[j]?
theorem Stands.left {l a b : List UInt8} {k : Nat} (h : Stands l k (a ++ b)) : Stands l k a := fun j hj => by
  rw [h j (by rw [List.length_append]; omega), List.getElem?_append_left hj]
theorem Stands.right {l a b : List UInt8} {k : Nat} (h : Stands l k (a ++ b)) : Stands l (k + a.length) b := fun j hj => by
  rw [Nat.add_assoc, h (a.length + j) (by rw [List.length_append]; omega), List.getElem?_append_right (by omega)]; simp
theorem stands_mid (a b c : List UInt8) : Stands (a ++ b ++ c) a.length b := fun j hj => by
  rw [List.append_assoc, List.getElem?_append_right (by omega), List.getElem?_append_left (by omega)]; simp

theorem back0 {l : List UInt8} {k : Nat} {n : Int} (h0 : 0 ≤ n) (h255 : n ≤ 255) (h : Stands l k [UInt8.ofNat n.toNat]) : tbyte l k = some (.int .i64 n, k + 1) := by
  have := h 0 (by simp)
  simp at this
  unfold tbyte
  rw [this]
  simp; omega
theorem back1 {l : List UInt8} {k : Nat} {n : Int} (h1 : -9223372036854775808 ≤ n) (h2 : n ≤ 9223372036854775807) (h : Stands l k (enc n)) : tnum l k = some (n, k + (enc n).length) :=
  tnum_enc l k n h1 h2 h
theorem back2 {l : List UInt8} {k : Nat} {y : Bool} (h : Stands l k [if y then 1 else 0]) : tflag l k = some (y, k + 1) := by
  have := h 0 (by simp)
  simp at this
  unfold tflag
  rw [this]
  cases y <;> simp
theorem back4 {l : List UInt8} {k : Nat} {n : Int} (h0 : 0 ≤ n) (h1 : n ≤ 65536) (h : Stands l k (enc n)) : tcnt l k = some (n, k + (enc n).length) := by
  unfold tcnt
  rw [back1 (by omega) (by omega) h]
  simp only
  rw [if_neg (by omega)]
theorem back3 {l t : List UInt8} {k : Nat} (hs : t.length ≤ 65536) (h : Stands l k (enc t.length ++ t)) : ttext l k = some (t, k + (enc t.length ++ t).length) := by
  unfold ttext
  rw [back4 (by omega) (by omega) h.left]
  have hr := h.right
  have hlen : k + (enc (t.length : Nat)).length + t.length ≤ l.length ∨ t = [] := by
    rcases Nat.eq_zero_or_pos t.length with q | q
    · exact Or.inr (List.eq_nil_of_length_eq_zero q)
    · left
      have := hr (t.length - 1) (by omega)
      rw [List.getElem?_eq_getElem (by omega : t.length - 1 < t.length)] at this
      rcases Nat.lt_or_ge (k + (enc (t.length : Nat)).length + (t.length - 1)) l.length with r | r
      · omega
      · rw [List.getElem?_eq_none r] at this; cases this
  have hpl : k + (enc (t.length : Nat)).length ≤ l.length := (tnum_place (back1 (by omega) (by omega) h.left)).2.2
  have ht : ((t.length : Nat) : Int).toNat = t.length := by omega
  simp only [ht]
  rw [if_neg (by
    rcases hlen with q | q
    · omega
    · subst q; simp at hpl ⊢; omega)]
  congr 1
  refine Prod.ext ?_ (by simp [Nat.add_assoc])
  apply List.ext_getElem?
  intro j
  simp only
  by_cases hj : j < t.length
  · rw [List.getElem?_take_of_lt hj, List.getElem?_drop]; exact hr j hj
  · rw [List.getElem?_eq_none (by simp; omega), List.getElem?_eq_none (by omega)]

/-- An item's cells, and those of a list. -/
def itCell (x : It) : List Value := [.int .i64 x.kd, .int .i64 x.n, .string x.s]
def itCells (l : List It) : List Value := l.flatMap itCell
theorem itCells_length (l : List It) : (itCells l).length = l.length * 3 := by
  induction l with
  | nil => rfl
  | cons x l ih => simp [itCells, itCell] at ih ⊢; omega
theorem itCells_at (l : List It) : ∀ (i : Nat) (x : It), l[i]? = some x → (itCells l)[i * 3]? = some (.int .i64 x.kd) ∧ (itCells l)[i * 3 + 1]? = some (.int .i64 x.n) ∧ (itCells l)[i * 3 + 2]? = some (.string x.s) := by
  induction l with
  | nil => intro i x h; simp at h
  | cons y l ih =>
    intro i x h
    cases i with
    | zero => simp at h; subst h; simp [itCells, itCell]
    | succ i =>
      simp at h
      have e : itCells (y :: l) = itCell y ++ itCells l := by simp [itCells]
      have hl : (itCell y).length = 3 := rfl
      obtain ⟨a, b, c⟩ := ih i x h
      rw [e]
      refine ⟨?_, ?_, ?_⟩
      · rw [List.getElem?_append_right (by omega), hl, show (i + 1) * 3 - 3 = i * 3 from by omega]; exact a
      · rw [List.getElem?_append_right (by omega), hl, show (i + 1) * 3 + 1 - 3 = i * 3 + 1 from by omega]; exact b
      · rw [List.getElem?_append_right (by omega), hl, show (i + 1) * 3 + 2 - 3 = i * 3 + 2 from by omega]; exact c

theorem own_row3 {w : World} {e : TypeId} {v : Value} {n : Nat} {xs : List Value} {k : Nat} (h : w.ownsRow 0 e 3 v n xs) (hk : v.ownBlock = some k) : ∃ cur, w.heap[k]? = some (.cells cur e (0, 0)) := by
  rcases h.2 with ⟨rfl, _⟩ | ⟨g, cap, cur, rfl, _, hg, _⟩
  · cases hk
  · simp [Value.ownBlock] at hk; subst hk; exact ⟨cur, hg⟩
theorem ownsRow3_of_blocks {w w' : World} {e : TypeId} {v : Value} {n : Nat} {xs : List Value} (h : w.ownsRow 0 e 3 v n xs) (hb : ∀ k, v.ownBlock = some k → w'.heap[k]? = w.heap[k]?) : w'.ownsRow 0 e 3 v n xs := by
  refine ⟨h.1, ?_⟩
  rcases h.2 with h2 | ⟨g, cap, cur, rfl, h0, hg, r⟩
  · exact Or.inl h2
  · exact Or.inr ⟨g, cap, cur, rfl, h0, by rw [hb g rfl]; exact hg, r⟩

theorem Try.infoItem : (Try.prog.info? 32).map (fun i => (i.zero, i.size, i.bytes)) = some (some (.agg #[.int .i64 0, .int .i64 0, .string ByteArray.empty]), 3, 32) := by kernel_rfl

/-- The Writer of the law, and the items that it took. -/
structure Bk (w wr : World) (b : Nat) (sv tv : Value) (xs : List UInt8) (tk : List It) : Prop where
  pw : WR wr b sv xs
  own : wr.ownsRow 0 32 3 tv tk.length (itCells tk)
  bel : Below w.heap.size w wr
  hb : w.heap.size ≤ b
  o1 : ∀ k, sv.ownBlock = some k → w.heap.size ≤ k
  o2 : ∀ k, tv.ownBlock = some k → w.heap.size ≤ k
theorem Bk.tlt {w wr : World} {b : Nat} {sv tv : Value} {xs : List UInt8} {tk : List It} (h : Bk w wr b sv tv xs tk) : ∀ k, tv.ownBlock = some k → k < wr.heap.size ∧ k ≠ b ∧ sv.ownBlock ≠ some k := by
  intro k hk
  obtain ⟨c, hc⟩ := own_row3 h.own hk
  refine ⟨lt_of_blk hc, ?_, ?_⟩
  · rintro rfl; rw [h.pw.blk] at hc; simp at hc
  · intro e
    obtain ⟨c2, hc2⟩ := own_row h.pw.own e
    rw [hc] at hc2; simp at hc2
theorem Bk.step {w wr w' : World} {b : Nat} {sv sv' tv : Value} {xs xs' : List UInt8} {tk : List It} (h : Bk w wr b sv tv xs tk) (s : WStep wr w' b sv sv' xs') : Bk w w' b sv' tv xs' tk := by
  obtain ⟨b1, b2⟩ := s.belowOf h.bel h.hb h.o1 h.bel.size
  refine ⟨s.wr, ownsRow3_of_blocks h.own fun k hk => s.fr.block k (h.tlt k hk).1 ?_, b1, h.hb, b2, h.o2⟩
  simp only [List.mem_cons, Option.mem_toList, not_or]
  exact ⟨(h.tlt k hk).2.1, (h.tlt k hk).2.2⟩
theorem Bk.grow {w wr w' : World} {b : Nat} {sv tv tv' : Value} {xs : List UInt8} {tk : List It} {x : It} {o : Obj} (h : Bk w wr b sv tv xs tk) (hown : w'.ownsRow 0 32 3 tv' (tk.length + 1) (itCells tk ++ itCell x)) (hg : (wr.alloc o).grownBy w' tv.ownBlock)
    (hat : tv'.ownBlock = tv.ownBlock ∨ tv'.ownBlock = some (wr.heap.size + 1)) : Bk w w' b sv tv' xs (tk ++ [x]) := by
  have hf0 : Fr [] wr (wr.alloc o) := (Fr.refl _ _).alloc o
  have hf := Fr.ofGrown hg
  have e : (tk ++ [x]).length = tk.length + 1 := by simp
  have ec : itCells (tk ++ [x]) = itCells tk ++ itCell x := by simp [itCells]
  refine ⟨(h.pw.new hf0).keep hf ?_ ?_, by rw [e, ec]; exact hown, (h.bel.alloc h.bel.size o).grown hg (by have := h.bel.size; simp; omega) h.o2, h.hb, h.o1, ?_⟩
  · simp only [Option.mem_toList]; intro q; exact (h.tlt b q).2.1 rfl
  · intro k hk; simp only [Option.mem_toList]; intro q; exact (h.tlt k q).2.2 hk
  · intro k hk
    rcases hat with q | q
    · exact h.o2 k (q ▸ hk)
    · rw [q] at hk; cases hk; have := h.bel.size; omega

end Go.Proofs.Ytjoiecphjapbaaa
