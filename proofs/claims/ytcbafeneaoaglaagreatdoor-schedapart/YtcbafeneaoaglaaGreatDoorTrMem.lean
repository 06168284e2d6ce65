/- Trees in memory: to be read, and of one's own. No walk is in this text. -/
import Derived.Test.YtcbafeneaoaglaaGreatDoorBaR
namespace Go.Proofs.YtcbafeneaoaglaaGreatDoor
open Go.RowKit Go.Maps

/-- A node at a place, its Unmerged being the slice u. -/
structure NdC (w : World) (b o : Nat) (n : Nd) (u : Value) : Prop where
  c0 : w.cell? ⟨b, o, none⟩ = some (.int .i64 n.pub)
  c1 : w.cell? ⟨b, o + 1, none⟩ = some (.int .i64 n.mem)
  c2 : w.cell? ⟨b, o + 2, none⟩ = some (.int .i64 n.ep)
  c3 : w.cell? ⟨b, o + 3, none⟩ = some u
/-- The slice v reads as the tree T. -/
structure Trd (w : World) (v : Value) (T : List Nd) : Prop where
  len : T.length ≤ 140737488355328
  unl : ∀ n ∈ T, n.un.length ≤ 140737488355328
  form : (T = [] ∧ ∃ a c, v = .slice a 0 c) ∨ ∃ b o c, v = .slice (some ⟨b, o, none⟩) T.length c ∧ b < w.heap.size ∧ ∀ i n, T[i]? = some n → ∃ u, NdC w b (o + i * 4) n u ∧ Nums w u n.un

theorem NdC.bw {w w' : World} {b o : Nat} {n : Nd} {u : Value} (h : NdC w b o n u) (hB : b < w.heap.size) (hb : Below w.heap.size w w') : NdC w' b o n u := by
  obtain ⟨h0, h1, h2, h3⟩ := h
  exact ⟨by rw [hb.cell (p := ⟨b, o, none⟩) hB]; exact h0, by rw [hb.cell (p := ⟨b, o + 1, none⟩) hB]; exact h1, by rw [hb.cell (p := ⟨b, o + 2, none⟩) hB]; exact h2, by rw [hb.cell (p := ⟨b, o + 3, none⟩) hB]; exact h3⟩
theorem Trd.bw {w w' : World} {v : Value} {T : List Nd} (h : Trd w v T) (hb : Below w.heap.size w w') : Trd w' v T := by
  refine ⟨h.len, h.unl, ?_⟩
  rcases h.form with c | ⟨b, o, c, hv, hB, hc⟩
  · exact Or.inl c
  · refine Or.inr ⟨b, o, c, hv, Nat.lt_of_lt_of_le hB hb.size, fun i n hi => ?_⟩
    obtain ⟨u, h1, h2⟩ := hc i n hi
    exact ⟨u, h1.bw hB hb, h2.bw hb⟩
theorem Trd.slice {w : World} {v : Value} {T : List Nd} (h : Trd w v T) : ∃ a c, v = .slice a T.length c := by
  rcases h.form with ⟨rfl, a, c, rfl⟩ | ⟨b, o, c, hv, _⟩
  · exact ⟨a, c, rfl⟩
  · exact ⟨_, c, hv⟩
/-- All that a walk needs of a tree that it reads: its cells, in whatever world is behind. -/
theorem Trd.at {w : World} {a : Option Addr} {N c : Nat} {T : List Nd} (h : Trd w (.slice a N c) T) : N = T.length ∧ (0 < T.length → ∃ b o, a = some ⟨b, o, none⟩ ∧ ∀ w', Below w.heap.size w w' → ∀ i, i < T.length → ∃ u, NdC w' b (o + i * 4) (ndAt T i) u ∧ Nums w' u (ndAt T i).un) := by
  rcases h.form with ⟨rfl, a', c', hv⟩ | ⟨b, o, c', hv, hB, hc⟩
  · cases hv; exact ⟨rfl, fun h => by simp at h⟩
  · cases hv
    refine ⟨rfl, fun _ => ⟨b, o, rfl, fun w' hb i hi => ?_⟩⟩
    have hi' : T[i]? = some (ndAt T i) := by unfold ndAt; rw [List.getD_eq_getElem?_getD, List.getElem?_eq_getElem hi]; rfl
    obtain ⟨u, h1, h2⟩ := hc i _ hi'
    exact ⟨u, h1.bw hB hb, h2.bw hb⟩

theorem nums_slice {w : World} {v : Value} {l : List Int} (h : Nums w v l) : ∃ a c, v = .slice a l.length c := by
  rcases h with ⟨rfl, a, c, rfl, _⟩ | ⟨g, o, cap, rfl, h1, h2, _⟩
  · exact ⟨a, c, rfl⟩
  · exact ⟨_, cap, rfl⟩
theorem ndAt_of {T : List Nd} {i : Nat} (hi : i < T.length) : T[i]? = some (ndAt T i) := by
  unfold ndAt; rw [List.getD_eq_getElem?_getD, List.getElem?_eq_getElem hi]; rfl
theorem ndAt_mem {T : List Nd} {i : Nat} (hi : i < T.length) : ndAt T i ∈ T := List.mem_of_getElem? (ndAt_of hi)

/-! A tree of one's own. -/
def ndC (n : Nd) (u : Value) : List Value := [.int .i64 n.pub, .int .i64 n.mem, .int .i64 n.ep, u]
def treeC (T : List Nd) (us : List Value) : List Value := (List.zipWith ndC T us).flatten
theorem treeC_nil (us : List Value) : treeC [] us = [] := rfl
theorem treeC_cons (n : Nd) (T : List Nd) (u : Value) (us : List Value) : treeC (n :: T) (u :: us) = ndC n u ++ treeC T us := rfl
theorem treeC_len {T : List Nd} {us : List Value} (h : us.length = T.length) : (treeC T us).length = T.length * 4 := by
  induction T generalizing us with
  | nil => rfl
  | cons n T ih =>
    cases us with
    | nil => simp at h
    | cons u us => rw [treeC_cons, List.length_append, ih (by simpa using h)]; simp [ndC]; omega
theorem treeC_get {T : List Nd} {us : List Value} {i j : Nat} {n : Nd} {u x : Value} (hn : T[i]? = some n) (hu : us[i]? = some u) (hx : (ndC n u)[j]? = some x) : (treeC T us)[i * 4 + j]? = some x := by
  induction T generalizing us i with
  | nil => simp at hn
  | cons m T ih =>
    cases us with
    | nil => simp at hu
    | cons v us =>
      rw [treeC_cons]
      cases i with
      | zero =>
        simp at hn hu; subst hn hu
        rw [Nat.zero_mul, Nat.zero_add, List.getElem?_append_left ((List.getElem?_eq_some_iff.1 hx).1)]; exact hx
      | succ i =>
        have hm : (ndC m v).length = 4 := rfl
        rw [List.getElem?_append_right (by omega), hm, show (i + 1) * 4 + j - 4 = i * 4 + j by omega]
        exact ih (by simpa using hn) (by simpa using hu)
theorem treeC_set {T : List Nd} {us : List Value} {i : Nat} (n : Nd) (u : Value) (hl : us.length = T.length) (hi : i < T.length) :
    ((((treeC T us).set (i * 4) (.int .i64 n.pub)).set (i * 4 + 1) (.int .i64 n.mem)).set (i * 4 + 2) (.int .i64 n.ep)).set (i * 4 + 3) u = treeC (T.set i n) (us.set i u) := by
  induction T generalizing us i with
  | nil => simp at hi
  | cons m T ih =>
    cases us with
    | nil => simp at hl
    | cons v us =>
      rw [treeC_cons]
      cases i with
      | zero =>
        simp only [List.set_cons_zero, treeC_cons, Nat.zero_mul, Nat.zero_add]
        rfl
      | succ i =>
        have hm : (ndC m v).length = 4 := rfl
        simp only [List.set_cons_succ, treeC_cons]
        rw [← ih (us := us) (by simpa using hl) (by simpa using hi)]
        rw [List.set_append_right _ _ (by omega), hm, show (i + 1) * 4 - 4 = i * 4 by omega]
        rw [List.set_append_right _ _ (by omega), hm, show (i + 1) * 4 + 1 - 4 = i * 4 + 1 by omega]
        rw [List.set_append_right _ _ (by omega), hm, show (i + 1) * 4 + 2 - 4 = i * 4 + 2 by omega]
        rw [List.set_append_right _ _ (by omega), hm, show (i + 1) * 4 + 3 - 4 = i * 4 + 3 by omega]
/-- A tree of one's own, behind the block B: its nodes in one block, each Unmerged in one of its own. -/
structure OTr (B : Nat) (w : World) (v : Value) (T : List Nd) (us : List Value) : Prop where
  ul : us.length = T.length
  row : w.ownsRow B 62 4 v T.length (treeC T us)
  un : ∀ (i : Nat) (n : Nd) (u : Value), T[i]? = some n → us[i]? = some u → Ints B w u n.un
  apart : ∀ (i j : Nat) (u u' : Value) (k : Nat), us[i]? = some u → us[j]? = some u' → u.ownBlock = some k → u'.ownBlock = some k → i = j
theorem OTr.trd {B : Nat} {w : World} {v : Value} {T : List Nd} {us : List Value} (h : OTr B w v T us) (hl : T.length ≤ 140737488355328) (hu : ∀ n ∈ T, n.un.length ≤ 140737488355328) : Trd w v T := by
  refine ⟨hl, hu, ?_⟩
  rcases Nat.eq_zero_or_pos T.length with h0 | h0
  · obtain ⟨a, c, hv⟩ := own_slice h.row
    exact Or.inl ⟨List.eq_nil_of_length_eq_zero h0, a, c, by rw [hv, h0]⟩
  · obtain ⟨g, cap, hv, hg, hc, _⟩ := own_open h.row h0
    refine Or.inr ⟨g, 0, cap, hv, hg, fun i n hi => ?_⟩
    have hlt : i < us.length := by rw [h.ul]; exact (List.getElem?_eq_some_iff.1 hi).1
    have hu : us[i]? = some us[i] := List.getElem?_eq_getElem hlt
    have e : v.ownBlock = some g := by rw [hv]; rfl
    refine ⟨us[i], ⟨?_, ?_, ?_, ?_⟩, (h.un i n _ hi hu).nums⟩
    · simpa using own_cell h.row e (treeC_get hi hu (j := 0) rfl)
    · simpa using own_cell h.row e (treeC_get hi hu (j := 1) rfl)
    · simpa using own_cell h.row e (treeC_get hi hu (j := 2) rfl)
    · simpa using own_cell h.row e (treeC_get hi hu (j := 3) rfl)
theorem OTr.bw {B : Nat} {w w' : World} {v : Value} {T : List Nd} {us : List Value} (h : OTr B w v T us) (hb : Below w.heap.size w w') : OTr B w' v T us :=
  ⟨h.ul, own_keep h.row (fun k hk => hb.block k (World.ownsRow.lt h.row k hk).2), fun i n u h1 h2 => (h.un i n u h1 h2).bw hb, h.apart⟩
theorem otr_nil (B : Nat) (w : World) : OTr B w (.slice none 0 0) [] [] := ⟨rfl, World.ownsRow_nil _ _ _ _, fun i n u h => by simp at h, fun i j u u' k h => by simp at h⟩
end Go.Proofs.YtcbafeneaoaglaaGreatDoor
