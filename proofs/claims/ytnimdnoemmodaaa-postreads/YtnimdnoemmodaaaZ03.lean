/- Texts joined: TrRs TrMem TrA LgMem TrB. -/
import Derived.Test.YtnimdnoemmodaaaIxJoin
import Derived.Test.YtnimdnoemmodaaaZ02
import Derived.WalkKit
import Derived.WalkSpells
import Derived.WalkLawsBesides
import Derived.WalkSmall
import Derived.Maps.OwnSet
import Derived.Maps.RangeWalk
import Derived.Maps.AppendAt
import Derived.BigQuiet
import Derived.Deep.MidRow
import Derived.Deep.WholeRow
import Derived.Deep.RegionHeld3
import Derived.Deep.Cut
import Derived.Deep.QuietTactic
import Derived.Deep.RegionLaw
import Derived.Deep.RegionWith
import Derived.Laws.IdiomStrings
import Derived.Laws.EntriesVeiled
/- Frames, rows of any kind, and resources that lie apart, behind layer 2. No walk is in this text. -/
namespace Go.Proofs.Ytnimdnoemmodaaa
open Go.RowKit Go.Maps
structure Fr (S : List Nat) (w w' : World) : Prop where
  os : w'.os = w.os
  tape : w'.tape = w.tape
  output : w'.output = w.output
  size : w.heap.size ≤ w'.heap.size
  block : ∀ k, k < w.heap.size → k ∉ S → w'.heap[k]? = w.heap[k]?
theorem Fr.refl (S : List Nat) (w : World) : Fr S w w := ⟨rfl, rfl, rfl, Nat.le_refl _, fun _ _ _ => rfl⟩
theorem Fr.trans {S S' T : List Nat} {w w1 w2 : World} (h : Fr S w w1) (k : Fr S' w1 w2) (h1 : ∀ x, x < w.heap.size → x ∈ S → x ∈ T) (h2 : ∀ x, x < w.heap.size → x ∈ S' → x ∈ T) : Fr T w w2 :=
  ⟨k.os.trans h.os, k.tape.trans h.tape, k.output.trans h.output, Nat.le_trans h.size k.size,
   fun x hx hn => (k.block x (Nat.lt_of_lt_of_le hx h.size) (fun c => hn (h2 x hx c))).trans (h.block x hx (fun c => hn (h1 x hx c)))⟩
theorem Fr.mono {S T : List Nat} {w w1 : World} (h : Fr S w w1) (h1 : ∀ x, x < w.heap.size → x ∈ S → x ∈ T) : Fr T w w1 :=
  ⟨h.os, h.tape, h.output, h.size, fun x hx hn => h.block x hx (fun c => hn (h1 x hx c))⟩
theorem Fr.tr {S : List Nat} {w w1 w2 : World} (h : Fr S w w1) (k : Fr S w1 w2) : Fr S w w2 := h.trans k (fun _ _ c => c) (fun _ _ c => c)
theorem Fr.setCell {S : List Nat} {w w1 : World} (h : Fr S w w1) {a : Addr} (ha : w.heap.size ≤ a.block ∨ a.block ∈ S) (u : Value) : Fr S w (w1.setCell a u) :=
  h.trans (S' := [a.block]) ⟨rfl, rfl, rfl, by simp [World.setCell], fun k _ hn => Below.heap_setCell _ _ _ _ (by simpa using hn)⟩ (fun _ _ c => c)
    (fun x hx c => by simp at c; subst c; rcases ha with h | h; omega; exact h)
theorem Fr.drew {S : List Nat} {w w1 : World} (h : Fr S w w1) : Fr S w w1.drew := ⟨h.os, h.tape, h.output, h.size, h.block⟩
theorem Fr.ofBelow {w w' : World} (h : Below w.heap.size w w') : Fr [] w w' := ⟨h.os, h.tape, h.output, h.size, fun k hk _ => h.block k hk⟩
theorem Fr.below {S : List Nat} {w w1 w2 : World} (h : Fr S w w1) (hb : Below w1.heap.size w1 w2) : Fr S w w2 :=
  h.tr ⟨hb.os, hb.tape, hb.output, hb.size, fun k hk _ => hb.block k hk⟩
theorem Fr.toBelow {w w' : World} (h : Fr [] w w') : Below w.heap.size w w' := ⟨h.os, h.tape, h.output, h.size, fun k hk => h.block k hk (by simp)⟩
theorem Fr.ofGrown {w w' : World} {row : Option Nat} (hg : w.grownBy w' row) : Fr row.toList w w' :=
  ⟨hg.os, hg.tape, hg.output, hg.size, fun k hk hn => hg.block k hk (fun c => hn (by rw [← c]; simp))⟩
theorem Fr.toBase {S : List Nat} {w w1 w2 : World} (h : Below w.heap.size w w1) (k : Fr S w1 w2) (hS : ∀ x ∈ S, w.heap.size ≤ x) : Below w.heap.size w w2 :=
  ((Fr.ofBelow h).trans (T := []) k (fun _ _ c => by cases c) (fun x hx c => by have := hS x c; omega)).toBelow
theorem lt_of_blk {w : World} {b : Nat} {o : Obj} (h : w.heap[b]? = some o) : b < w.heap.size := by
  rcases Nat.lt_or_ge b w.heap.size with h1 | h1
  · exact h1
  · rw [Array.getElem?_eq_none h1] at h; cases h
theorem lt_of_cell {w : World} {a : Addr} {v : Value} (h : w.cell? a = some v) : a.block < w.heap.size := World.block_lt_of_cell? w a h
theorem own_keep {B : Nat} {w w' : World} {e : TypeId} {c : Nat} {v : Value} {n : Nat} {xs : List Value} (h : w.ownsRow B e c v n xs) (hb : ∀ k, v.ownBlock = some k → w'.heap[k]? = w.heap[k]?) : w'.ownsRow B e c v n xs := by
  refine ⟨h.1, ?_⟩
  rcases h.2 with h2 | ⟨g, cap, cur, hv, h0, hg, r⟩
  · exact Or.inl h2
  · exact Or.inr ⟨g, cap, cur, hv, h0, by rw [hb g (by rw [hv]; rfl)]; exact hg, r⟩
theorem own_kind {B : Nat} {w : World} {e : TypeId} {c : Nat} {v : Value} {n : Nat} {xs : List Value} (h : w.ownsRow B e c v n xs) {k : Nat} (hk : v.ownBlock = some k) : ∃ cur, w.heap[k]? = some (.cells cur e (0, 0)) := by
  rcases h.2 with ⟨rfl, _⟩ | ⟨g, cap, cur, rfl, _, hg, _⟩
  · cases hk
  · simp [Value.ownBlock] at hk; subst hk; exact ⟨cur, hg⟩
theorem own_apart {B B' : Nat} {w : World} {e e' : TypeId} {c c' : Nat} {v v' : Value} {n n' : Nat} {xs xs' : List Value} (h : w.ownsRow B e c v n xs) (h' : w.ownsRow B' e' c' v' n' xs') (he : e ≠ e') {k : Nat} (hk : v.ownBlock = some k) : v'.ownBlock ≠ some k := by
  intro q
  obtain ⟨_, h1⟩ := own_kind h hk
  obtain ⟨_, h2⟩ := own_kind h' q
  rw [h1] at h2
  simp only [Option.some.injEq, Obj.cells.injEq] at h2
  exact he h2.2.1
theorem own_cell {B : Nat} {w : World} {e : TypeId} {c : Nat} {v : Value} {n : Nat} {xs : List Value} (h : w.ownsRow B e c v n xs) {g : Nat} (hg : v.ownBlock = some g) {j : Nat} {u : Value} (hj : xs[j]? = some u) : w.cell? ⟨g, j, none⟩ = some u := by
  have := World.ownsRow.cells h hg j u hj
  cases j <;> simpa [Addr.add] using this
theorem own_open {B : Nat} {w : World} {e : TypeId} {c : Nat} {v : Value} {n : Nat} {xs : List Value} (h : w.ownsRow B e c v n xs) (hn : 0 < n) : ∃ g cap, v = .slice (some ⟨g, 0, none⟩) n cap ∧ g < w.heap.size ∧ n ≤ cap ∧ w.frozen? ⟨g, 0, none⟩ = false := by
  rcases h.2 with ⟨_, h2⟩ | ⟨g, cap, cur, hv, _, hg, h1, _⟩
  · omega
  · exact ⟨g, cap, hv, lt_of_blk hg, h1, by simp [World.frozen?, hg]⟩
theorem own_slice {B : Nat} {w : World} {e : TypeId} {c : Nat} {v : Value} {n : Nat} {xs : List Value} (h : w.ownsRow B e c v n xs) : ∃ a cap, v = .slice a n cap := by
  rcases h.2 with ⟨h1, h2⟩ | ⟨g, cap, cur, hv, _⟩
  · exact ⟨none, 0, by rw [h1, h2]⟩
  · exact ⟨_, cap, hv⟩
theorem own_set {B : Nat} {w : World} {e : TypeId} {c : Nat} {v : Value} {n : Nat} {xs : List Value} (h : w.ownsRow B e c v n xs) {g : Nat} (hg : v.ownBlock = some g) {j : Nat} (u : Value) : (w.setCell ⟨g, j, none⟩ u).ownsRow B e c v n (xs.set j u) := by
  have h1 := h.1
  refine ⟨by simpa using h1, ?_⟩
  rcases h.2 with ⟨rfl, _⟩ | ⟨g', cap, cur, rfl, hB, hb, q1, q2, q3, q4⟩
  · cases hg
  · simp [Value.ownBlock] at hg
    subst hg
    refine Or.inr ⟨g', cap, cur.setIfInBounds j u, rfl, hB, by simp [World.setCell, Array.getElem?_modify, hb], q1, q2, by simpa using q3, ?_⟩
    rw [Array.toList_setIfInBounds, ← q4, List.take_set]
theorem own_frozen {B : Nat} {w : World} {e : TypeId} {c : Nat} {v : Value} {n : Nat} {xs : List Value} (h : w.ownsRow B e c v n xs) {g : Nat} (hg : v.ownBlock = some g) (j : Nat) : w.frozen? ⟨g, j, none⟩ = false := by
  obtain ⟨cur, hb⟩ := own_kind h hg
  simp [World.frozen?, hb]
end Go.Proofs.Ytnimdnoemmodaaa

/- Trees in memory: to be read, and of one's own. No walk is in this text. -/
namespace Go.Proofs.Ytnimdnoemmodaaa
open Go.RowKit Go.Maps
structure NdC (w : World) (b o : Nat) (n : Nd) (u : Value) : Prop where
  c0 : w.cell? ⟨b, o, none⟩ = some (.int .i64 n.pub)
  c1 : w.cell? ⟨b, o + 1, none⟩ = some (.int .i64 n.mem)
  c2 : w.cell? ⟨b, o + 2, none⟩ = some (.int .i64 n.ep)
  c3 : w.cell? ⟨b, o + 3, none⟩ = some u
structure Trd (w : World) (v : Value) (T : List Nd) : Prop where
  len : T.length ≤ 140737488355328
  unl : ∀ n ∈ T, n.un.length ≤ 140737488355328
  form : (T = [] ∧ ∃ a c, v = .slice a 0 c) ∨ ∃ b o c, v = .slice (some ⟨b, o, none⟩) T.length c ∧ b < w.heap.size ∧ ∀ i n, T[i]? = some n → ∃ u, NdC w b (o + i * 4) n u ∧ Nums w u n.un
theorem NdC.bw {w w' : World} {b o : Nat} {n : Nd} {u : Value} (h : NdC w b o n u) (hB : b < w.heap.size) (hb : Below w.heap.size w w') : NdC w' b o n u := by
  obtain ⟨h0, h1, h2, h3⟩ := h
  exact ⟨by rw [hb.cell (p := ⟨b, o, none⟩) hB]; exact h0, by rw [hb.cell (p := ⟨b, o + 1, none⟩) hB]; exact h1, by rw [hb.cell (p := ⟨b, o + 2, none⟩) hB]; exact h2, by rw [hb.cell (p := ⟨b, o + 3, none⟩) hB]; exact h3⟩
theorem Trd.bw {w w' : World} {v : Value} {T : List Nd} (h : Trd w v T) (hb : Below w.heap.size w w') : Trd w' v T := by
  refine ⟨h.len, h.unl, ?_⟩
  rcases h.form with c | ⟨b, o, c, hv, hB, hc⟩
  · exact Or.inl c
  · refine Or.inr ⟨b, o, c, hv, Nat.lt_of_lt_of_le hB hb.size, fun i n hi => ?_⟩
    obtain ⟨u, h1, h2⟩ := hc i n hi
    exact ⟨u, h1.bw hB hb, h2.bw hb⟩
theorem Trd.slice {w : World} {v : Value} {T : List Nd} (h : Trd w v T) : ∃ a c, v = .slice a T.length c := by
  rcases h.form with ⟨rfl, a, c, rfl⟩ | ⟨b, o, c, hv, _⟩
  · exact ⟨a, c, rfl⟩
  · exact ⟨_, c, hv⟩
theorem Trd.at {w : World} {a : Option Addr} {N c : Nat} {T : List Nd} (h : Trd w (.slice a N c) T) : N = T.length ∧ (0 < T.length → ∃ b o, a = some ⟨b, o, none⟩ ∧ ∀ w', Below w.heap.size w w' → ∀ i, i < T.length → ∃ u, NdC w' b (o + i * 4) (ndAt T i) u ∧ Nums w' u (ndAt T i).un) := by
  rcases h.form with ⟨rfl, a', c', hv⟩ | ⟨b, o, c', hv, hB, hc⟩
  · cases hv; exact ⟨rfl, fun h => by simp at h⟩
  · cases hv
    refine ⟨rfl, fun _ => ⟨b, o, rfl, fun w' hb i hi => ?_⟩⟩
    have hi' : T[i]? = some (ndAt T i) := by unfold ndAt; rw [List.getD_eq_getElem?_getD, List.getElem?_eq_getElem hi]; rfl
    obtain ⟨u, h1, h2⟩ := hc i _ hi'
    exact ⟨u, h1.bw hB hb, h2.bw hb⟩
theorem nums_slice {w : World} {v : Value} {l : List Int} (h : Nums w v l) : ∃ a c, v = .slice a l.length c := by
  rcases h with ⟨rfl, a, c, rfl, _⟩ | ⟨g, o, cap, rfl, h1, h2, _⟩
  · exact ⟨a, c, rfl⟩
  · exact ⟨_, cap, rfl⟩
theorem ndAt_of {T : List Nd} {i : Nat} (hi : i < T.length) : T[i]? = some (ndAt T i) := by
  unfold ndAt; rw [List.getD_eq_getElem?_getD, List.getElem?_eq_getElem hi]; rfl
theorem ndAt_mem {T : List Nd} {i : Nat} (hi : i < T.length) : ndAt T i ∈ T := List.mem_of_getElem? (ndAt_of hi)
def ndC (n : Nd) (u : Value) : List Value := [.int .i64 n.pub, .int .i64 n.mem, .int .i64 n.ep, u]
def treeC (T : List Nd) (us : List Value) : List Value := (List.zipWith ndC T us).flatten
theorem treeC_cons (n : Nd) (T : List Nd) (u : Value) (us : List Value) : treeC (n :: T) (u :: us) = ndC n u ++ treeC T us := rfl
theorem treeC_len {T : List Nd} {us : List Value} (h : us.length = T.length) : (treeC T us).length = T.length * 4 := by
  induction T generalizing us with
  | nil => rfl
  | cons n T ih =>
    cases us with
    | nil => simp at h
    | cons u us => rw [treeC_cons, List.length_append, ih (by simpa using h)]; simp [ndC]; omega
theorem treeC_get {T : List Nd} {us : List Value} {i j : Nat} {n : Nd} {u x : Value} (hn : T[i]? = some n) (hu : us[i]? = some u) (hx : (ndC n u)[j]? = some x) : (treeC T us)[i * 4 + j]? = some x := by
  induction T generalizing us i with
  | nil => simp at hn
  | cons m T ih =>
    cases us with
    | nil => simp at hu
    | cons v us =>
      rw [treeC_cons]
      cases i with
      | zero =>
        simp at hn hu; subst hn hu
        rw [Nat.zero_mul, Nat.zero_add, List.getElem?_append_left ((List.getElem?_eq_some_iff.1 hx).1)]; exact hx
      | succ i =>
        have hm : (ndC m v).length = 4 := rfl
        rw [List.getElem?_append_right (by omega), hm, show (i + 1) * 4 + j - 4 = i * 4 + j by omega]
        exact ih (by simpa using hn) (by simpa using hu)
theorem treeC_set {T : List Nd} {us : List Value} {i : Nat} (n : Nd) (u : Value) (hl : us.length = T.length) (hi : i < T.length) :
    ((((treeC T us).set (i * 4) (.int .i64 n.pub)).set (i * 4 + 1) (.int .i64 n.mem)).set (i * 4 + 2) (.int .i64 n.ep)).set (i * 4 + 3) u = treeC (T.set i n) (us.set i u) := by
  induction T generalizing us i with
  | nil => simp at hi
  | cons m T ih =>
    cases us with
    | nil => simp at hl
    | cons v us =>
      rw [treeC_cons]
      cases i with
      | zero =>
        simp only [List.set_cons_zero, treeC_cons, Nat.zero_mul, Nat.zero_add]
        rfl
      | succ i =>
        have hm : (ndC m v).length = 4 := rfl
        simp only [List.set_cons_succ, treeC_cons]
        rw [← ih (us := us) (by simpa using hl) (by simpa using hi)]
        rw [List.set_append_right _ _ (by omega), hm, show (i + 1) * 4 - 4 = i * 4 by omega]
        rw [List.set_append_right _ _ (by omega), hm, show (i + 1) * 4 + 1 - 4 = i * 4 + 1 by omega]
        rw [List.set_append_right _ _ (by omega), hm, show (i + 1) * 4 + 2 - 4 = i * 4 + 2 by omega]
        rw [List.set_append_right _ _ (by omega), hm, show (i + 1) * 4 + 3 - 4 = i * 4 + 3 by omega]
structure OTr (B : Nat) (w : World) (v : Value) (T : List Nd) (us : List Value) : Prop where
  ul : us.length = T.length
  row : w.ownsRow B 87 4 v T.length (treeC T us)
  un : ∀ (i : Nat) (n : Nd) (u : Value), T[i]? = some n → us[i]? = some u → Ints B w u n.un
  apart : ∀ (i j : Nat) (u u' : Value) (k : Nat), us[i]? = some u → us[j]? = some u' → u.ownBlock = some k → u'.ownBlock = some k → i = j
theorem OTr.trd {B : Nat} {w : World} {v : Value} {T : List Nd} {us : List Value} (h : OTr B w v T us) (hl : T.length ≤ 140737488355328) (hu : ∀ n ∈ T, n.un.length ≤ 140737488355328) : Trd w v T := by
  refine ⟨hl, hu, ?_⟩
  rcases Nat.eq_zero_or_pos T.length with h0 | h0
  · obtain ⟨a, c, hv⟩ := own_slice h.row
    exact Or.inl ⟨List.eq_nil_of_length_eq_zero h0, a, c, by rw [hv, h0]⟩
  · obtain ⟨g, cap, hv, hg, hc, _⟩ := own_open h.row h0
    refine Or.inr ⟨g, 0, cap, hv, hg, fun i n hi => ?_⟩
    have hlt : i < us.length := by rw [h.ul]; exact (List.getElem?_eq_some_iff.1 hi).1
    have hu : us[i]? = some us[i] := List.getElem?_eq_getElem hlt
    have e : v.ownBlock = some g := by rw [hv]; rfl
    refine ⟨us[i], ⟨?_, ?_, ?_, ?_⟩, (h.un i n _ hi hu).nums⟩
    · simpa using own_cell h.row e (treeC_get hi hu (j := 0) rfl)
    · simpa using own_cell h.row e (treeC_get hi hu (j := 1) rfl)
    · simpa using own_cell h.row e (treeC_get hi hu (j := 2) rfl)
    · simpa using own_cell h.row e (treeC_get hi hu (j := 3) rfl)
end Go.Proofs.Ytnimdnoemmodaaa

/- Contracts of what package tree asks of a tree by itself: leaves, blank, hasLeaf, anyMember, members, find, firstBlank, withRoom. -/
namespace Go.Proofs.Ytnimdnoemmodaaa
open Go.RowKit Go.Maps
theorem bwA (w : World) (o : Obj) : Below w.heap.size w (w.alloc o) := (Below.refl _ _).alloc (Nat.le_refl _) _
end Go.Proofs.Ytnimdnoemmodaaa

/- Rows of structs of numbers, commits and logs in memory, as they came in: what they read as. No walk is in this text. -/
namespace Go.Proofs.Ytnimdnoemmodaaa
open Go.RowKit Go.Maps
structure RI (c : Nat) (w : World) (v : Value) (l : List (List Int)) : Prop where
  len : l.length ≤ 140737488355328
  fit : ∀ x ∈ l, x.length = c ∧ ∀ z ∈ x, -9223372036854775808 ≤ z ∧ z ≤ 9223372036854775807
  form : ∃ a cap, v = .slice a l.length cap ∧ (l = [] ∨ ∃ g o, a = some ⟨g, o, none⟩ ∧ ∀ i x, l[i]? = some x → ∀ j z, x[j]? = some z → w.cell? ⟨g, o + i * c + j, none⟩ = some (.int .i64 z))
theorem RI.bw {c : Nat} {w w' : World} {v : Value} {l : List (List Int)} (h : RI c w v l) (hb : Below w.heap.size w w') : RI c w' v l := by
  obtain ⟨h1, h2, a, cap, rfl, hc⟩ := h
  refine ⟨h1, h2, a, cap, rfl, ?_⟩
  rcases hc with hc | ⟨g, o, rfl, hc⟩
  · exact Or.inl hc
  · refine Or.inr ⟨g, o, rfl, fun i x hi j z hj => ?_⟩
    have := hc i x hi j z hj
    rw [hb.cell (World.block_lt_of_cell? w _ this)]
    exact this
theorem RI.slice {c : Nat} {w : World} {v : Value} {l : List (List Int)} (h : RI c w v l) : ∃ a cap, v = .slice a l.length cap := by obtain ⟨a, cap, h, _⟩ := h.form; exact ⟨a, cap, h⟩
theorem RI.get {c : Nat} {w : World} {a : Option Addr} {n cap : Nat} {l : List (List Int)} (h : RI c w (.slice a n cap) l) {i : Nat} {x : List Int} (hi : l[i]? = some x) : ∃ g o, a = some ⟨g, o, none⟩ ∧ ∀ j z, x[j]? = some z → w.cell? ⟨g, o + i * c + j, none⟩ = some (.int .i64 z) := by
  obtain ⟨_, _, a', cap', hv, hc⟩ := h
  cases hv
  rcases hc with hc | ⟨g, o, rfl, hc⟩
  · rw [hc] at hi; simp at hi
  · exact ⟨g, o, rfl, hc i x hi⟩
theorem RI.nil (c : Nat) (w : World) : RI c w (.slice none 0 0) [] := ⟨by simp, by simp, none, 0, rfl, Or.inl rfl⟩
structure Cm where
  gr : Int
  ep : Int
  dev : Int
  mem : Int
  ke : Int
  ext : Bool
  adds : List (List Int)
  rem : List Int
  seals : List (List Int)
  joins : List (List Int)
  own : Int
  ent : Int
  next : List Nd
  face : Int
  card : Int
structure Cv where
  av : Value
  rv : Value
  qv : Value
  jv : Value
  nv : Value
def cmC (c : Cm) (x : Cv) : List Value := [.int .i64 c.gr, .int .i64 c.ep, .int .i64 c.dev, .int .i64 c.mem, .int .i64 c.ke, .bool c.ext, x.av, x.rv, x.qv, x.jv, .int .i64 c.own, .int .i64 c.ent, x.nv, .int .i64 c.face, .int .i64 c.card]
def cmV (c : Cm) (x : Cv) : Value := .agg (cmC c x).toArray
structure CmR (w : World) (c : Cm) (x : Cv) : Prop where
  adds : RI 3 w x.av c.adds
  rem : Nums w x.rv c.rem
  rlen : c.rem.length ≤ 140737488355328
  seals : RI 3 w x.qv c.seals
  joins : RI 2 w x.jv c.joins
  next : Trd w x.nv c.next
theorem CmR.bw {w w' : World} {c : Cm} {x : Cv} (h : CmR w c x) (hb : Below w.heap.size w w') : CmR w' c x := ⟨h.adds.bw hb, h.rem.bw hb, h.rlen, h.seals.bw hb, h.joins.bw hb, h.next.bw hb⟩
end Go.Proofs.Ytnimdnoemmodaaa

/- Contracts of what package tree asks of a tree by itself, continued. -/
namespace Go.Proofs.Ytnimdnoemmodaaa
open Go.RowKit Go.Maps
abbrev bxw (w : World) (v : Value) : World := w.alloc (.cells #[v] 43)
theorem bx_cell {w w1 : World} {v : Value} (hb : Below (bxw w v).heap.size (bxw w v) w1) : w1.cell? ⟨w.heap.size, 0, none⟩ = some v := by
  have e : w1.heap[w.heap.size]? = some (.cells #[v] 43 (0, 0)) := by rw [hb.block _ (by simp)]; exact heap_alloc_new _ _
  simp [World.cell?, e]
end Go.Proofs.Ytnimdnoemmodaaa
