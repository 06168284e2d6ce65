/- The held lists of a Book, each a row of its own: a store into one of them. -/
import Derived.Test.YtocopmbdjopljaaGreatDoorTbA
namespace Go.Proofs.YtocopmbdjopljaaGreatDoor
open Go.RowKit

/-- A Book at b whose held lists are rows of their own, of blocks that are unlike one another, and read as ls. -/
structure Hl (B : Nat) (w : World) (b : Nat) (lv : Value) (vs : List Value) (ls : List (List Int)) : Prop where
  bk : Bk B w b lv vs
  len : vs.length = ls.length
  row : ∀ (i : Nat) (v : Value) (l : List Int), vs[i]? = some v → ls[i]? = some l → Ints B w v l
  apart : ∀ (i j : Nat) (u v : Value) (k : Nat), i ≠ j → vs[i]? = some u → vs[j]? = some v → u.ownBlock = some k → v.ownBlock ≠ some k

theorem ints_block {B : Nat} {w : World} {v : Value} {l : List Int} {k : Nat} (h : Ints B w v l) (hk : v.ownBlock = some k) : ∃ cap cur, v = .slice (some ⟨k, 0, none⟩) l.length cap ∧ B ≤ k ∧ w.heap[k]? = some (.cells cur 3 (0, 0)) ∧ l.length ≤ cap ∧ cap ≤ maxLen ∧ cur.size = cap ∧ cur.toList.take l.length = l.map I64 := by
  rcases h.2 with ⟨rfl, _⟩ | ⟨g, cap, cur, hv, h0, hg, h1, h2, h3, h4⟩
  · cases hk
  · rw [hv] at hk; simp [Value.ownBlock] at hk; subst hk
    exact ⟨cap, cur, hv, h0, hg, h1, h2, by omega, by simpa using h4⟩

/-- Where the held list's entries stand. -/
theorem Bk.entry {B : Nat} {w : World} {b : Nat} {lv : Value} {vs : List Value} (h : Bk B w b lv vs) (i : Nat) (v : Value) (hv : vs[i]? = some v) :
    ∃ g cap, lv = .slice (some ⟨g, 0, none⟩) vs.length cap ∧ B ≤ g ∧ w.cell? ⟨g, 2 * i, none⟩ = some v ∧ w.cell? ⟨g, 2 * i + 1, none⟩ = some (.int .i64 (i : Int)) ∧ (∀ k, w.frozen? ⟨g, k, none⟩ = false) ∧ ∃ cur, w.heap[g]? = some (.cells cur 128 (0, 0)) := by
  have hi : i < vs.length := by
    rcases Nat.lt_or_ge i vs.length with h1 | h1
    · exact h1
    · rw [List.getElem?_eq_none h1] at hv; cases hv
  have hel_at : ∀ (vs : List Value) (n i : Nat) (v : Value), vs[i]? = some v → (hel n vs)[2 * i]? = some v ∧ (hel n vs)[2 * i + 1]? = some (.int .i64 ((n + i : Nat) : Int)) := by
    intro vs
    induction vs with
    | nil => intro n i v h; simp at h
    | cons u vs ih =>
      intro n i v h
      cases i with
      | zero => simp at h; subst h; simp [hel]
      | succ i =>
        have := ih (n + 1) i v (by simpa using h)
        have e1 : 2 * (i + 1) = 2 * i + 1 + 1 := by omega
        have e2 : 2 * (i + 1) + 1 = 2 * i + 1 + 1 + 1 := by omega
        rw [e1]
        simp only [hel, List.getElem?_cons_succ]
        refine ⟨this.1, ?_⟩
        have e3 : n + 1 + i = n + (i + 1) := by omega
        rw [e3] at this
        exact this.2
  obtain ⟨a1, a2⟩ := hel_at vs 0 i v hv
  rw [Nat.zero_add] at a2
  rcases h.own.2 with ⟨_, h0⟩ | ⟨g, cap, cur, hl, h0, hg, h1, h2, h3, h4⟩
  · omega
  · have hc : ∀ j u, (hel 0 vs)[j]? = some u → w.cell? ⟨g, j, none⟩ = some u := by
      intro j u hj
      have := h.own.cells (g := g) (by rw [hl]; rfl) j u hj
      cases j <;> simpa [Addr.add] using this
    exact ⟨g, cap, hl, h0, hc _ _ a1, hc _ _ a2, fun k => by simp [World.frozen?, hg], cur, hg⟩

/-- A store into one of the lists. -/
theorem Hl.store {B : Nat} {w : World} {b : Nat} {lv : Value} {vs : List Value} {ls : List (List Int)} (h : Hl B w b lv vs ls) {i g cap k : Nat} {l : List Int} (hv : vs[i]? = some (.slice (some ⟨g, 0, none⟩) l.length cap)) (hl : ls[i]? = some l) (hk : k < l.length) (c : Int) :
    Hl B (w.setCell ⟨g, k, none⟩ (.int .i64 c)) b lv vs (ls.set i (l.set k c)) ∧ (w.cell? ⟨g, k, none⟩).isSome = true ∧ w.frozen? ⟨g, k, none⟩ = false ∧ B ≤ g := by
  have hI := h.row i _ l hv hl
  obtain ⟨cap', cur, he, hB, hg, h1, h2, h3, h4⟩ := ints_block hI (k := g) rfl
  have hcap : cap' = cap := by cases he; rfl
  subst hcap
  have hgb : g ≠ b := by rintro rfl; rw [h.bk.blk] at hg; simp at hg
  have hgl : lv.ownBlock ≠ some g := by
    intro e
    rcases h.bk.own.2 with ⟨hv', _⟩ | ⟨g', cp', cur', hv', _, hg', _⟩
    · rw [hv'] at e; cases e
    · rw [hv'] at e; simp [Value.ownBlock] at e; subst e; rw [hg] at hg'; simp at hg'
  refine ⟨⟨⟨?_, ?_⟩, ?_, ?_, h.apart⟩, ?_, by simp [World.frozen?, hg], hB⟩
  · rw [Below.heap_setCell _ _ _ _ (Ne.symm hgb)]; exact h.bk.blk
  · refine ⟨h.bk.own.1, ?_⟩
    rcases h.bk.own.2 with h5 | ⟨g', cp', cur', hv', q0, hg', r⟩
    · exact Or.inl h5
    · refine Or.inr ⟨g', cp', cur', hv', q0, ?_, r⟩
      have : g' ≠ g := by rintro rfl; rw [hv'] at hgl; exact hgl rfl
      rw [Below.heap_setCell _ _ _ _ this]; exact hg'
  · rw [List.length_set]; exact h.len
  · intro j u m hu hm
    by_cases hji : j = i
    · subst hji
      rw [hv] at hu
      cases hu
      have hlt : j < ls.length := by
        rcases Nat.lt_or_ge j ls.length with q | q
        · exact q
        · rw [List.getElem?_eq_none q] at hl; cases hl
      rw [List.getElem?_set_self hlt] at hm
      cases hm
      refine ⟨by simp, Or.inr ⟨g, cap', cur.set! k (.int .i64 c), by simp, hB, ?_, by simpa using h1, h2, by simp [h3], ?_⟩⟩
      · simp [World.setCell, Array.getElem?_modify, hg]
      · have e : (cur.set! k (.int .i64 c)).toList = cur.toList.set k (.int .i64 c) := by simp [Array.set!_eq_setIfInBounds]
        simp only [List.length_set, Nat.mul_one]
        rw [e, List.take_set, h4, List.map_set]; rfl
    · rw [List.getElem?_set_ne (Ne.symm hji)] at hm
      have hIu := h.row j u m hu hm
      refine ⟨hIu.1, ?_⟩
      rcases hIu.2 with h5 | ⟨g', cp', cur', hv', q0, hg', r⟩
      · exact Or.inl h5
      · refine Or.inr ⟨g', cp', cur', hv', q0, ?_, r⟩
        have : g' ≠ g := by
          rintro rfl
          have := h.apart j i u _ g' hji hu hv (by rw [hv']; rfl)
          exact this rfl
        rw [Below.heap_setCell _ _ _ _ this]; exact hg'
  · have := World.ownsRow.cells hI (g := g) rfl k (I64 (l[k])) (by simp [hk])
    have e : (⟨g, 0, none⟩ : Addr).add k = ⟨g, k, none⟩ := by cases k <;> simp [Addr.add]
    rw [e] at this
    rw [this]; rfl

theorem Hl.drew {B : Nat} {w : World} {b : Nat} {lv : Value} {vs : List Value} {ls : List (List Int)} (h : Hl B w b lv vs ls) : Hl B w.drew b lv vs ls := ⟨⟨h.bk.blk, h.bk.own⟩, h.len, h.row, h.apart⟩

end Go.Proofs.YtocopmbdjopljaaGreatDoor
