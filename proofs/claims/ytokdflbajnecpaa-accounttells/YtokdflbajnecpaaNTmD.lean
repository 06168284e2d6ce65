/- What Dag of package term keeps in memory while it works. No walk is in this text. -/
import Derived.Test.YtokdflbajnecpaaNTmC
namespace Go.Proofs.Ytokdflbajnecpaa.Tn
open Go.RowKit Go.Maps

/-- A row of numbers of its own. -/
def NRow (B : Nat) (w : World) (v : Value) (l : List Nat) : Prop := w.ownsRow B 3 1 v l.length (l.map fun m => .int .i64 ((m : Nat) : Int))
theorem NRow.keep {B : Nat} {w w' : World} {v : Value} {l : List Nat} (h : NRow B w v l) (hb : ∀ k, v.ownBlock = some k → w'.heap[k]? = w.heap[k]?) : NRow B w' v l := by
  refine ⟨h.1, ?_⟩
  rcases h.2 with h2 | ⟨g, cap, cur, hv, h0, hg, r⟩
  · exact Or.inl h2
  · exact Or.inr ⟨g, cap, cur, hv, h0, by rw [hb g (by rw [hv]; rfl)]; exact hg, r⟩
theorem NRow.lt {B : Nat} {w : World} {v : Value} {l : List Nat} (h : NRow B w v l) : ∀ k, v.ownBlock = some k → B ≤ k ∧ k < w.heap.size := World.ownsRow.lt h
theorem NRow.block {B : Nat} {w : World} {v : Value} {l : List Nat} {k : Nat} (h : NRow B w v l) (hk : v.ownBlock = some k) : ∃ cur, w.heap[k]? = some (.cells cur 3 (0, 0)) := by
  rcases h.2 with ⟨rfl, _⟩ | ⟨g, cap, cur, rfl, _, hg, _⟩
  · cases hk
  · simp [Value.ownBlock] at hk; subst hk; exact ⟨cur, hg⟩
theorem NRow.form {B : Nat} {w : World} {v : Value} {l : List Nat} (h : NRow B w v l) : (v = .slice none 0 0 ∧ l = []) ∨ ∃ g cap, v = .slice (some ⟨g, 0, none⟩) l.length cap ∧ B ≤ g ∧ g < w.heap.size ∧ l.length ≤ cap ∧ cap ≤ maxLen := by
  rcases h.2 with ⟨h1, h2⟩ | ⟨g, cap, cur, hv, hB, hg, h1, h2, _⟩
  · exact Or.inl ⟨h1, List.length_eq_zero_iff.1 h2⟩
  · exact Or.inr ⟨g, cap, hv, hB, lt_of_blk hg, h1, h2⟩
theorem NRow.at {B : Nat} {w : World} {v : Value} {l : List Nat} (h : NRow B w v l) {g : Nat} (hg : v.ownBlock = some g) {i m : Nat} (hi : l[i]? = some m) : w.cell? ⟨g, i, none⟩ = some (.int .i64 (m : Int)) := by
  have := World.ownsRow.cells h hg i (.int .i64 (m : Int)) (by simp [hi])
  cases i <;> simpa [Addr.add] using this
/-- The last number is left out. -/
theorem NRow.pop {B : Nat} {w : World} {g cap : Nat} {l : List Nat} {m : Nat} (h : NRow B w (.slice (some ⟨g, 0, none⟩) (l.length + 1) cap) (l ++ [m])) : NRow B w (.slice (some ⟨g, 0, none⟩) l.length cap) l := by
  refine ⟨by simp, ?_⟩
  rcases h.2 with ⟨h1, _⟩ | ⟨g', cap', cur, hv, hB, hg, h1, h2, h3, h4⟩
  · cases h1
  · simp only [Value.slice.injEq, Option.some.injEq, Addr.mk.injEq, and_true] at hv
    obtain ⟨rfl, _, rfl⟩ := hv
    refine Or.inr ⟨g, cap, cur, rfl, hB, hg, by simp at h1; omega, h2, h3, ?_⟩
    have e := congrArg (List.take l.length) h4
    rw [List.take_take] at e
    simp only [List.length_append, List.length_cons, List.length_nil, Nat.mul_one, List.map_append] at e
    rw [show min l.length (l.length + (0 + 1)) = l.length by omega] at e
    rw [Nat.mul_one, e]
    simp
theorem term_ne_int : (55 : TypeId) ≠ 3 := by decide
theorem rows_apart {B B' : Nat} {w : World} {u v : Value} {l : List Tm} {k : List Nat} {x : Nat} (h : TmRow B w u l) (h' : NRow B' w v k) (hx : u.ownBlock = some x) : v.ownBlock ≠ some x := by
  intro c
  obtain ⟨_, h1⟩ := h.block hx
  obtain ⟨_, h2⟩ := h'.block c
  rw [h1] at h2
  simp only [Option.some.injEq, Obj.cells.injEq] at h2
  exact term_ne_int h2.2.1
theorem PMap.block {w : World} {b : Nat} {o : List Nat} (h : PMap w b o) : ∃ es clock, w.heap[b]? = some (.map es clock) := by
  obtain ⟨D, ⟨es, clock, hb, _⟩, _⟩ := h; exact ⟨es, clock, hb⟩

/-- While a dag is worked off. -/
structure Dg (w wr : World) (L : List Tm) (M : Nat) (lv bv : Value) (stk o : List Nat) : Prop where
  beg : Begun L stk o
  told : Told L o
  rl : TmRow w.heap.size wr lv (outs L o)
  rb : NRow w.heap.size wr bv stk
  pm : PMap wr M o
  hM : w.heap.size ≤ M
  bel : Below w.heap.size w wr
theorem Dg.apart {w wr : World} {L : List Tm} {M : Nat} {lv bv : Value} {stk o : List Nat} (h : Dg w wr L M lv bv stk o) : lv.ownBlock ≠ some M ∧ bv.ownBlock ≠ some M ∧ ∀ x, lv.ownBlock = some x → bv.ownBlock ≠ some x := by
  obtain ⟨es, clock, hm⟩ := h.pm.block
  refine ⟨fun c => ?_, fun c => ?_, fun x hx => rows_apart h.rl h.rb hx⟩
  · obtain ⟨_, h1⟩ := h.rl.block c; rw [hm] at h1; simp at h1
  · obtain ⟨_, h1⟩ := h.rb.block c; rw [hm] at h1; simp at h1
theorem Dg.new {w wr w' : World} {L : List Tm} {M : Nat} {lv bv : Value} {stk o : List Nat} (h : Dg w wr L M lv bv stk o) (hb : Below wr.heap.size wr w') : Dg w w' L M lv bv stk o :=
  ⟨h.beg, h.told, h.rl.bw hb, h.rb.keep (fun k hk => hb.block k (h.rb.lt k hk).2), h.pm.bw hb, h.hM, bw_tr h.bel hb⟩
/-- A part is begun. -/
theorem Dg.push {w w1 w2 : World} {L : List Tm} {M : Nat} {lv bv v' : Value} {stk o : List Nat} {m p : Nat} {ob : Obj} (h : Dg w w1 L M lv bv (stk ++ [m]) o) (hown : w2.ownsRow w.heap.size 3 1 v' ((stk ++ [m]).length + 1) ((stk ++ [m]).map (fun m => .int .i64 ((m : Nat) : Int)) ++ [.int .i64 (p : Int)]))
    (hg : (w1.alloc ob).grownBy w2 bv.ownBlock) (h1 : 1 ≤ p) (h2 : p < m) (ho : p ∉ o) : Dg w w2 L M lv v' (stk ++ [m] ++ [p]) o := by
  obtain ⟨a1, a2, a3⟩ := h.apart
  have hs := h.bel.size
  have old : ∀ k, k < w1.heap.size → bv.ownBlock ≠ some k → w2.heap[k]? = w1.heap[k]? := fun k hk hn => by
    rw [hg.block k (by simp; omega) (fun c => hn c.symm), Below.heap_alloc _ _ _ hk]
  refine ⟨h.beg.push h1 h2 ho, h.told, h.rl.keep (fun k hk => old k (h.rl.lt k hk).2 (a3 k hk)), ?_, h.pm.keep (old M h.pm.lt a2), h.hM, ?_⟩
  · unfold NRow; simpa using hown
  · exact (h.bel.alloc hs ob).grown hg (by simp; omega) (fun k hk => (h.rb.lt k hk).1)
/-- A term is told. -/
theorem Dg.tell {w w1 w2 w3 w4 : World} {L : List Tm} {M : Nat} {lv bv bv' v' : Value} {stk o : List Nat} {m : Nat} {ob : Obj} (h : Dg w w1 L M lv bv (stk ++ [m]) o) (h12 : Below w1.heap.size w1 w2) (hbv : bv'.ownBlock = bv.ownBlock) (hrb : NRow w.heap.size w1 bv' stk)
    (hown : w3.ownsRow w.heap.size 55 4 v' ((outs L o).length + 1) ((outs L o).flatMap tmC ++ tmC (tr o (tmAt L m)))) (hg : (w2.alloc ob).grownBy w3 lv.ownBlock) (hat : v'.ownBlock = lv.ownBlock ∨ v'.ownBlock = some (w2.alloc ob).heap.size)
    (hpm : PMap w4 M (o ++ [m])) (hg4 : w3.grownBy w4 (some M)) (hA : pA L m = 0 ∨ pA L m ∈ o) (hB : pB L m = 0 ∨ pB L m ∈ o) : Dg w w4 L M v' bv' stk (o ++ [m]) := by
  obtain ⟨a1, a2, a3⟩ := h.apart
  have hm := h.beg.rng m (by simp)
  have hs := h.bel.size
  have hs2 := h12.size
  have old : ∀ k, k < w1.heap.size → lv.ownBlock ≠ some k → w3.heap[k]? = w1.heap[k]? := fun k hk hn => by
    rw [hg.block k (by simp; omega) (fun c => hn c.symm), Below.heap_alloc _ _ _ (by omega), h12.block k hk]
  have hvM : v'.ownBlock ≠ some M := by
    rcases hat with c | c
    · rw [c]; exact a1
    · rw [c]; intro e; have := h.pm.lt; simp at e; omega
  have hr3 : TmRow w.heap.size w3 v' (outs L (o ++ [m])) := by
    rw [outs_snoc h.told hm.1 hm.2.1 hm.2.2 hA hB]
    unfold TmRow; rw [flat_snoc, List.length_append]; exact hown
  refine ⟨h.beg.pop, h.told.snoc hm.1 hm.2.1 hm.2.2 hA hB, ?_, ?_, hpm, h.hM, ?_⟩
  · exact hr3.keep fun k hk => hg4.block k (hr3.lt k hk).2 (fun c => hvM (by rw [hk, c]))
  · refine hrb.keep fun k hk => ?_
    have hk1 := (hrb.lt k hk).2
    have hkl : lv.ownBlock ≠ some k := fun c => a3 k c (by rw [← hbv]; exact hk)
    have hkM : some k ≠ some M := fun c => a2 (by rw [← hbv, hk, c])
    rw [hg4.block k (by have := hg.size; simp at this; omega) hkM, old k hk1 hkl]
  · have b2 : Below w.heap.size w w2 := bw_tr h.bel h12
    have b3 : Below w.heap.size w w3 := (b2.alloc b2.size ob).grown hg (by simp; have := b2.size; omega) (fun k hk => (h.rl.lt k hk).1)
    exact b3.grown hg4 b3.size (fun k hk => by cases hk; exact h.hM)

end Go.Proofs.Ytokdflbajnecpaa.Tn
