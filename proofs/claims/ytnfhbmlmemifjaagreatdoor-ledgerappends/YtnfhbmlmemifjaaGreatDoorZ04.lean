/- Texts joined: TrRs TrMem TrA LgMem TrB TrC. -/
import Derived.Test.YtnfhbmlmemifjaaGreatDoorZ03
import Derived.Test.YtnfhbmlmemifjaaGreatDoorZ02
import Derived.WalkKit
import Derived.WalkSpells
import Derived.WalkLawsBesides
import Derived.WalkSmall
import Derived.Maps.OwnSet
import Derived.Maps.RangeWalk
import Derived.Maps.AppendAt
import Derived.BigQuiet
import Derived.Deep.MidRow
import Derived.Deep.WholeRow
import Derived.Deep.RegionHeld3
import Derived.Deep.Cut
import Derived.Deep.QuietTactic
import Derived.Deep.RegionLaw
import Derived.Deep.RegionWith
import Derived.Laws.IdiomStrings
import Derived.Laws.EntriesVeiled
/- Frames, rows of any kind, and resources that lie apart, behind layer 2. No walk is in this text. -/
namespace Go.Proofs.YtnfhbmlmemifjaaGreatDoor
open Go.RowKit Go.Maps
structure Fr (S : List Nat) (w w' : World) : Prop where
  os : w'.os = w.os
  tape : w'.tape = w.tape
  output : w'.output = w.output
  size : w.heap.size ≤ w'.heap.size
  block : ∀ k, k < w.heap.size → k ∉ S → w'.heap[k]? = w.heap[k]?
theorem Fr.refl (S : List Nat) (w : World) : Fr S w w := ⟨rfl, rfl, rfl, Nat.le_refl _, fun _ _ _ => rfl⟩
theorem Fr.trans {S S' T : List Nat} {w w1 w2 : World} (h : Fr S w w1) (k : Fr S' w1 w2) (h1 : ∀ x, x < w.heap.size → x ∈ S → x ∈ T) (h2 : ∀ x, x < w.heap.size → x ∈ S' → x ∈ T) : Fr T w w2 :=
  ⟨k.os.trans h.os, k.tape.trans h.tape, k.output.trans h.output, Nat.le_trans h.size k.size,
   fun x hx hn => (k.block x (Nat.lt_of_lt_of_le hx h.size) (fun c => hn (h2 x hx c))).trans (h.block x hx (fun c => hn (h1 x hx c)))⟩
theorem Fr.mono {S T : List Nat} {w w1 : World} (h : Fr S w w1) (h1 : ∀ x, x < w.heap.size → x ∈ S → x ∈ T) : Fr T w w1 :=
  ⟨h.os, h.tape, h.output, h.size, fun x hx hn => h.block x hx (fun c => hn (h1 x hx c))⟩
theorem Fr.tr {S : List Nat} {w w1 w2 : World} (h : Fr S w w1) (k : Fr S w1 w2) : Fr S w w2 := h.trans k (fun _ _ c => c) (fun _ _ c => c)
theorem Fr.alloc {S : List Nat} {w w1 : World} (h : Fr S w w1) (o : Obj) : Fr S w (w1.alloc o) :=
  h.tr ⟨rfl, rfl, rfl, by simp, fun k hk _ => Below.heap_alloc _ _ _ hk⟩
theorem Fr.setCell {S : List Nat} {w w1 : World} (h : Fr S w w1) {a : Addr} (ha : w.heap.size ≤ a.block ∨ a.block ∈ S) (u : Value) : Fr S w (w1.setCell a u) :=
  h.trans (S' := [a.block]) ⟨rfl, rfl, rfl, by simp [World.setCell], fun k _ hn => Below.heap_setCell _ _ _ _ (by simpa using hn)⟩ (fun _ _ c => c)
    (fun x hx c => by simp at c; subst c; rcases ha with h | h; omega; exact h)
theorem Fr.drew {S : List Nat} {w w1 : World} (h : Fr S w w1) : Fr S w w1.drew := ⟨h.os, h.tape, h.output, h.size, h.block⟩
theorem Fr.ofBelow {w w' : World} (h : Below w.heap.size w w') : Fr [] w w' := ⟨h.os, h.tape, h.output, h.size, fun k hk _ => h.block k hk⟩
theorem Fr.below {S : List Nat} {w w1 w2 : World} (h : Fr S w w1) (hb : Below w1.heap.size w1 w2) : Fr S w w2 :=
  h.tr ⟨hb.os, hb.tape, hb.output, hb.size, fun k hk _ => hb.block k hk⟩
theorem Fr.toBelow {w w' : World} (h : Fr [] w w') : Below w.heap.size w w' := ⟨h.os, h.tape, h.output, h.size, fun k hk => h.block k hk (by simp)⟩
theorem Fr.ofGrown {w w' : World} {row : Option Nat} (hg : w.grownBy w' row) : Fr row.toList w w' :=
  ⟨hg.os, hg.tape, hg.output, hg.size, fun k hk hn => hg.block k hk (fun c => hn (by rw [← c]; simp))⟩
theorem Fr.toBase {S : List Nat} {w w1 w2 : World} (h : Below w.heap.size w w1) (k : Fr S w1 w2) (hS : ∀ x ∈ S, w.heap.size ≤ x) : Below w.heap.size w w2 :=
  ((Fr.ofBelow h).trans (T := []) k (fun _ _ c => by cases c) (fun x hx c => by have := hS x c; omega)).toBelow
theorem lt_of_blk {w : World} {b : Nat} {o : Obj} (h : w.heap[b]? = some o) : b < w.heap.size := by
  rcases Nat.lt_or_ge b w.heap.size with h1 | h1
  · exact h1
  · rw [Array.getElem?_eq_none h1] at h; cases h
theorem lt_of_cell {w : World} {a : Addr} {v : Value} (h : w.cell? a = some v) : a.block < w.heap.size := World.block_lt_of_cell? w a h
theorem own_keep {B : Nat} {w w' : World} {e : TypeId} {c : Nat} {v : Value} {n : Nat} {xs : List Value} (h : w.ownsRow B e c v n xs) (hb : ∀ k, v.ownBlock = some k → w'.heap[k]? = w.heap[k]?) : w'.ownsRow B e c v n xs := by
  refine ⟨h.1, ?_⟩
  rcases h.2 with h2 | ⟨g, cap, cur, hv, h0, hg, r⟩
  · exact Or.inl h2
  · exact Or.inr ⟨g, cap, cur, hv, h0, by rw [hb g (by rw [hv]; rfl)]; exact hg, r⟩
theorem own_kind {B : Nat} {w : World} {e : TypeId} {c : Nat} {v : Value} {n : Nat} {xs : List Value} (h : w.ownsRow B e c v n xs) {k : Nat} (hk : v.ownBlock = some k) : ∃ cur, w.heap[k]? = some (.cells cur e (0, 0)) := by
  rcases h.2 with ⟨rfl, _⟩ | ⟨g, cap, cur, rfl, _, hg, _⟩
  · cases hk
  · simp [Value.ownBlock] at hk; subst hk; exact ⟨cur, hg⟩
theorem own_apart {B B' : Nat} {w : World} {e e' : TypeId} {c c' : Nat} {v v' : Value} {n n' : Nat} {xs xs' : List Value} (h : w.ownsRow B e c v n xs) (h' : w.ownsRow B' e' c' v' n' xs') (he : e ≠ e') {k : Nat} (hk : v.ownBlock = some k) : v'.ownBlock ≠ some k := by
  intro q
  obtain ⟨_, h1⟩ := own_kind h hk
  obtain ⟨_, h2⟩ := own_kind h' q
  rw [h1] at h2
  simp only [Option.some.injEq, Obj.cells.injEq] at h2
  exact he h2.2.1
theorem own_block_ne {B : Nat} {w : World} {e T : TypeId} {c : Nat} {v : Value} {n b : Nat} {xs : List Value} {cs : Array Value} {z : Nat × Nat} (h : w.ownsRow B e c v n xs) (hb : w.heap[b]? = some (.cells cs T z)) (he : e ≠ T) : v.ownBlock ≠ some b := by
  intro q
  obtain ⟨_, h1⟩ := own_kind h q
  rw [hb] at h1
  simp only [Option.some.injEq, Obj.cells.injEq] at h1
  exact he h1.2.1.symm
theorem own_cell {B : Nat} {w : World} {e : TypeId} {c : Nat} {v : Value} {n : Nat} {xs : List Value} (h : w.ownsRow B e c v n xs) {g : Nat} (hg : v.ownBlock = some g) {j : Nat} {u : Value} (hj : xs[j]? = some u) : w.cell? ⟨g, j, none⟩ = some u := by
  have := World.ownsRow.cells h hg j u hj
  cases j <;> simpa [Addr.add] using this
theorem own_open {B : Nat} {w : World} {e : TypeId} {c : Nat} {v : Value} {n : Nat} {xs : List Value} (h : w.ownsRow B e c v n xs) (hn : 0 < n) : ∃ g cap, v = .slice (some ⟨g, 0, none⟩) n cap ∧ g < w.heap.size ∧ n ≤ cap ∧ w.frozen? ⟨g, 0, none⟩ = false := by
  rcases h.2 with ⟨_, h2⟩ | ⟨g, cap, cur, hv, _, hg, h1, _⟩
  · omega
  · exact ⟨g, cap, hv, lt_of_blk hg, h1, by simp [World.frozen?, hg]⟩
theorem own_slice {B : Nat} {w : World} {e : TypeId} {c : Nat} {v : Value} {n : Nat} {xs : List Value} (h : w.ownsRow B e c v n xs) : ∃ a cap, v = .slice a n cap := by
  rcases h.2 with ⟨h1, h2⟩ | ⟨g, cap, cur, hv, _⟩
  · exact ⟨none, 0, by rw [h1, h2]⟩
  · exact ⟨_, cap, hv⟩
theorem own_set {B : Nat} {w : World} {e : TypeId} {c : Nat} {v : Value} {n : Nat} {xs : List Value} (h : w.ownsRow B e c v n xs) {g : Nat} (hg : v.ownBlock = some g) {j : Nat} (u : Value) : (w.setCell ⟨g, j, none⟩ u).ownsRow B e c v n (xs.set j u) := by
  have h1 := h.1
  refine ⟨by simpa using h1, ?_⟩
  rcases h.2 with ⟨rfl, _⟩ | ⟨g', cap, cur, rfl, hB, hb, q1, q2, q3, q4⟩
  · cases hg
  · simp [Value.ownBlock] at hg
    subst hg
    refine Or.inr ⟨g', cap, cur.setIfInBounds j u, rfl, hB, by simp [World.setCell, Array.getElem?_modify, hb], q1, q2, by simpa using q3, ?_⟩
    rw [Array.toList_setIfInBounds, ← q4, List.take_set]
theorem own_frozen {B : Nat} {w : World} {e : TypeId} {c : Nat} {v : Value} {n : Nat} {xs : List Value} (h : w.ownsRow B e c v n xs) {g : Nat} (hg : v.ownBlock = some g) (j : Nat) : w.frozen? ⟨g, j, none⟩ = false := by
  obtain ⟨cur, hb⟩ := own_kind h hg
  simp [World.frozen?, hb]
end Go.Proofs.YtnfhbmlmemifjaaGreatDoor

/- Trees in memory: to be read, and of one's own. No walk is in this text. -/
namespace Go.Proofs.YtnfhbmlmemifjaaGreatDoor
open Go.RowKit Go.Maps
structure NdC (w : World) (b o : Nat) (n : Nd) (u : Value) : Prop where
  c0 : w.cell? ⟨b, o, none⟩ = some (.int .i64 n.pub)
  c1 : w.cell? ⟨b, o + 1, none⟩ = some (.int .i64 n.mem)
  c2 : w.cell? ⟨b, o + 2, none⟩ = some (.int .i64 n.ep)
  c3 : w.cell? ⟨b, o + 3, none⟩ = some u
structure Trd (w : World) (v : Value) (T : List Nd) : Prop where
  len : T.length ≤ 140737488355328
  unl : ∀ n ∈ T, n.un.length ≤ 140737488355328
  form : (T = [] ∧ ∃ a c, v = .slice a 0 c) ∨ ∃ b o c, v = .slice (some ⟨b, o, none⟩) T.length c ∧ b < w.heap.size ∧ ∀ i n, T[i]? = some n → ∃ u, NdC w b (o + i * 4) n u ∧ Nums w u n.un
theorem NdC.bw {w w' : World} {b o : Nat} {n : Nd} {u : Value} (h : NdC w b o n u) (hB : b < w.heap.size) (hb : Below w.heap.size w w') : NdC w' b o n u := by
  obtain ⟨h0, h1, h2, h3⟩ := h
  exact ⟨by rw [hb.cell (p := ⟨b, o, none⟩) hB]; exact h0, by rw [hb.cell (p := ⟨b, o + 1, none⟩) hB]; exact h1, by rw [hb.cell (p := ⟨b, o + 2, none⟩) hB]; exact h2, by rw [hb.cell (p := ⟨b, o + 3, none⟩) hB]; exact h3⟩
theorem Trd.bw {w w' : World} {v : Value} {T : List Nd} (h : Trd w v T) (hb : Below w.heap.size w w') : Trd w' v T := by
  refine ⟨h.len, h.unl, ?_⟩
  rcases h.form with c | ⟨b, o, c, hv, hB, hc⟩
  · exact Or.inl c
  · refine Or.inr ⟨b, o, c, hv, Nat.lt_of_lt_of_le hB hb.size, fun i n hi => ?_⟩
    obtain ⟨u, h1, h2⟩ := hc i n hi
    exact ⟨u, h1.bw hB hb, h2.bw hb⟩
theorem Trd.slice {w : World} {v : Value} {T : List Nd} (h : Trd w v T) : ∃ a c, v = .slice a T.length c := by
  rcases h.form with ⟨rfl, a, c, rfl⟩ | ⟨b, o, c, hv, _⟩
  · exact ⟨a, c, rfl⟩
  · exact ⟨_, c, hv⟩
theorem Trd.at {w : World} {a : Option Addr} {N c : Nat} {T : List Nd} (h : Trd w (.slice a N c) T) : N = T.length ∧ (0 < T.length → ∃ b o, a = some ⟨b, o, none⟩ ∧ ∀ w', Below w.heap.size w w' → ∀ i, i < T.length → ∃ u, NdC w' b (o + i * 4) (ndAt T i) u ∧ Nums w' u (ndAt T i).un) := by
  rcases h.form with ⟨rfl, a', c', hv⟩ | ⟨b, o, c', hv, hB, hc⟩
  · cases hv; exact ⟨rfl, fun h => by simp at h⟩
  · cases hv
    refine ⟨rfl, fun _ => ⟨b, o, rfl, fun w' hb i hi => ?_⟩⟩
    have hi' : T[i]? = some (ndAt T i) := by unfold ndAt; rw [List.getD_eq_getElem?_getD, List.getElem?_eq_getElem hi]; rfl
    obtain ⟨u, h1, h2⟩ := hc i _ hi'
    exact ⟨u, h1.bw hB hb, h2.bw hb⟩
theorem nums_slice {w : World} {v : Value} {l : List Int} (h : Nums w v l) : ∃ a c, v = .slice a l.length c := by
  rcases h with ⟨rfl, a, c, rfl, _⟩ | ⟨g, o, cap, rfl, h1, h2, _⟩
  · exact ⟨a, c, rfl⟩
  · exact ⟨_, cap, rfl⟩
theorem ndAt_of {T : List Nd} {i : Nat} (hi : i < T.length) : T[i]? = some (ndAt T i) := by
  unfold ndAt; rw [List.getD_eq_getElem?_getD, List.getElem?_eq_getElem hi]; rfl
theorem ndAt_mem {T : List Nd} {i : Nat} (hi : i < T.length) : ndAt T i ∈ T := List.mem_of_getElem? (ndAt_of hi)
def ndC (n : Nd) (u : Value) : List Value := [.int .i64 n.pub, .int .i64 n.mem, .int .i64 n.ep, u]
def treeC (T : List Nd) (us : List Value) : List Value := (List.zipWith ndC T us).flatten
theorem treeC_cons (n : Nd) (T : List Nd) (u : Value) (us : List Value) : treeC (n :: T) (u :: us) = ndC n u ++ treeC T us := rfl
theorem treeC_len {T : List Nd} {us : List Value} (h : us.length = T.length) : (treeC T us).length = T.length * 4 := by
  induction T generalizing us with
  | nil => rfl
  | cons n T ih =>
    cases us with
    | nil => simp at h
    | cons u us => rw [treeC_cons, List.length_append, ih (by simpa using h)]; simp [ndC]; omega
theorem treeC_get {T : List Nd} {us : List Value} {i j : Nat} {n : Nd} {u x : Value} (hn : T[i]? = some n) (hu : us[i]? = some u) (hx : (ndC n u)[j]? = some x) : (treeC T us)[i * 4 + j]? = some x := by
  induction T generalizing us i with
  | nil => simp at hn
  | cons m T ih =>
    cases us with
    | nil => simp at hu
    | cons v us =>
      rw [treeC_cons]
      cases i with
      | zero =>
        simp at hn hu; subst hn hu
        rw [Nat.zero_mul, Nat.zero_add, List.getElem?_append_left ((List.getElem?_eq_some_iff.1 hx).1)]; exact hx
      | succ i =>
        have hm : (ndC m v).length = 4 := rfl
        rw [List.getElem?_append_right (by omega), hm, show (i + 1) * 4 + j - 4 = i * 4 + j by omega]
        exact ih (by simpa using hn) (by simpa using hu)
theorem treeC_set {T : List Nd} {us : List Value} {i : Nat} (n : Nd) (u : Value) (hl : us.length = T.length) (hi : i < T.length) :
    ((((treeC T us).set (i * 4) (.int .i64 n.pub)).set (i * 4 + 1) (.int .i64 n.mem)).set (i * 4 + 2) (.int .i64 n.ep)).set (i * 4 + 3) u = treeC (T.set i n) (us.set i u) := by
  induction T generalizing us i with
  | nil => simp at hi
  | cons m T ih =>
    cases us with
    | nil => simp at hl
    | cons v us =>
      rw [treeC_cons]
      cases i with
      | zero =>
        simp only [List.set_cons_zero, treeC_cons, Nat.zero_mul, Nat.zero_add]
        rfl
      | succ i =>
        have hm : (ndC m v).length = 4 := rfl
        simp only [List.set_cons_succ, treeC_cons]
        rw [← ih (us := us) (by simpa using hl) (by simpa using hi)]
        rw [List.set_append_right _ _ (by omega), hm, show (i + 1) * 4 - 4 = i * 4 by omega]
        rw [List.set_append_right _ _ (by omega), hm, show (i + 1) * 4 + 1 - 4 = i * 4 + 1 by omega]
        rw [List.set_append_right _ _ (by omega), hm, show (i + 1) * 4 + 2 - 4 = i * 4 + 2 by omega]
        rw [List.set_append_right _ _ (by omega), hm, show (i + 1) * 4 + 3 - 4 = i * 4 + 3 by omega]
structure OTr (B : Nat) (w : World) (v : Value) (T : List Nd) (us : List Value) : Prop where
  ul : us.length = T.length
  row : w.ownsRow B 256 4 v T.length (treeC T us)
  un : ∀ (i : Nat) (n : Nd) (u : Value), T[i]? = some n → us[i]? = some u → Ints B w u n.un
  apart : ∀ (i j : Nat) (u u' : Value) (k : Nat), us[i]? = some u → us[j]? = some u' → u.ownBlock = some k → u'.ownBlock = some k → i = j
theorem OTr.trd {B : Nat} {w : World} {v : Value} {T : List Nd} {us : List Value} (h : OTr B w v T us) (hl : T.length ≤ 140737488355328) (hu : ∀ n ∈ T, n.un.length ≤ 140737488355328) : Trd w v T := by
  refine ⟨hl, hu, ?_⟩
  rcases Nat.eq_zero_or_pos T.length with h0 | h0
  · obtain ⟨a, c, hv⟩ := own_slice h.row
    exact Or.inl ⟨List.eq_nil_of_length_eq_zero h0, a, c, by rw [hv, h0]⟩
  · obtain ⟨g, cap, hv, hg, hc, _⟩ := own_open h.row h0
    refine Or.inr ⟨g, 0, cap, hv, hg, fun i n hi => ?_⟩
    have hlt : i < us.length := by rw [h.ul]; exact (List.getElem?_eq_some_iff.1 hi).1
    have hu : us[i]? = some us[i] := List.getElem?_eq_getElem hlt
    have e : v.ownBlock = some g := by rw [hv]; rfl
    refine ⟨us[i], ⟨?_, ?_, ?_, ?_⟩, (h.un i n _ hi hu).nums⟩
    · simpa using own_cell h.row e (treeC_get hi hu (j := 0) rfl)
    · simpa using own_cell h.row e (treeC_get hi hu (j := 1) rfl)
    · simpa using own_cell h.row e (treeC_get hi hu (j := 2) rfl)
    · simpa using own_cell h.row e (treeC_get hi hu (j := 3) rfl)
end Go.Proofs.YtnfhbmlmemifjaaGreatDoor

/- Contracts of what package tree asks of a tree by itself: leaves, blank, hasLeaf, anyMember, members, find, firstBlank, withRoom. -/
namespace Go.Proofs.YtnfhbmlmemifjaaGreatDoor
open Go.RowKit Go.Maps
theorem bwA (w : World) (o : Obj) : Below w.heap.size w (w.alloc o) := (Below.refl _ _).alloc (Nat.le_refl _) _
theorem leaves_any (a : Option Addr) (N c : Nat) (w : World) (hN : N ≤ 140737488355328) :
    Calls Tryz.prog 272 #[.agg #[.slice a N c]] w fun e w' => e = .returned (.int .i64 (((N + 1) / 2 : Nat) : Int)) ∧ Below w.heap.size w w' := by
  go_enter Tryz.func272, Tryz.ntmps272
  go_wp2
  go_ret
  exact ⟨by simp, bwA _ _⟩
set_option maxHeartbeats 1000000 in
theorem blank_any {w : World} {v : Value} {T : List Nd} (h : Trd w v T) {x : Nat} (hx : x < T.length) :
    Calls Tryz.prog 277 #[.agg #[v], .int .i64 (x : Int)] w fun e w' => e = .returned (.bool (!pos (ndAt T x))) ∧ Below w.heap.size w w' := by
  obtain ⟨a, c, rfl⟩ := h.slice
  obtain ⟨-, h2⟩ := h.at
  obtain ⟨b, o, rfl, h3⟩ := h2 (by omega)
  obtain ⟨u, ⟨c0, -, -, -⟩, -⟩ := h3 _ (bwA w (.cells #[.slice (some ⟨b, o, none⟩) T.length c] 32)) x hx
  have e : (!pos (ndAt T x)) = ((ndAt T x).pub == 0) := by unfold pos; simp [bne]
  rw [e]
  generalize (ndAt T x).pub = p at *
  have hl := h.len
  generalize T.length = N at *
  have x1 : (x : Int) < (N : Int) := by omega
  have x2 : (0 : Int) ≤ (x : Int) := by omega
  clear h h2 h3 e
  go_enter Tryz.func277, Tryz.ntmps277
  go_wp2
  go_ret
  exact ⟨rfl, bwA _ _⟩
end Go.Proofs.YtnfhbmlmemifjaaGreatDoor

/- Rows of structs of numbers, commits and logs in memory, as they came in: what they read as. No walk is in this text. -/
namespace Go.Proofs.YtnfhbmlmemifjaaGreatDoor
open Go.RowKit Go.Maps
structure RI (c : Nat) (w : World) (v : Value) (l : List (List Int)) : Prop where
  len : l.length ≤ 140737488355328
  fit : ∀ x ∈ l, x.length = c ∧ ∀ z ∈ x, -9223372036854775808 ≤ z ∧ z ≤ 9223372036854775807
  form : ∃ a cap, v = .slice a l.length cap ∧ (l = [] ∨ ∃ g o, a = some ⟨g, o, none⟩ ∧ ∀ i x, l[i]? = some x → ∀ j z, x[j]? = some z → w.cell? ⟨g, o + i * c + j, none⟩ = some (.int .i64 z))
theorem RI.bw {c : Nat} {w w' : World} {v : Value} {l : List (List Int)} (h : RI c w v l) (hb : Below w.heap.size w w') : RI c w' v l := by
  obtain ⟨h1, h2, a, cap, rfl, hc⟩ := h
  refine ⟨h1, h2, a, cap, rfl, ?_⟩
  rcases hc with hc | ⟨g, o, rfl, hc⟩
  · exact Or.inl hc
  · refine Or.inr ⟨g, o, rfl, fun i x hi j z hj => ?_⟩
    have := hc i x hi j z hj
    rw [hb.cell (World.block_lt_of_cell? w _ this)]
    exact this
theorem RI.slice {c : Nat} {w : World} {v : Value} {l : List (List Int)} (h : RI c w v l) : ∃ a cap, v = .slice a l.length cap := by obtain ⟨a, cap, h, _⟩ := h.form; exact ⟨a, cap, h⟩
theorem RI.get {c : Nat} {w : World} {a : Option Addr} {n cap : Nat} {l : List (List Int)} (h : RI c w (.slice a n cap) l) {i : Nat} {x : List Int} (hi : l[i]? = some x) : ∃ g o, a = some ⟨g, o, none⟩ ∧ ∀ j z, x[j]? = some z → w.cell? ⟨g, o + i * c + j, none⟩ = some (.int .i64 z) := by
  obtain ⟨_, _, a', cap', hv, hc⟩ := h
  cases hv
  rcases hc with hc | ⟨g, o, rfl, hc⟩
  · rw [hc] at hi; simp at hi
  · exact ⟨g, o, rfl, hc i x hi⟩
theorem RI.nil (c : Nat) (w : World) : RI c w (.slice none 0 0) [] := ⟨by simp, by simp, none, 0, rfl, Or.inl rfl⟩
structure Cm where
  gr : Int
  ep : Int
  dev : Int
  mem : Int
  ke : Int
  ext : Bool
  adds : List (List Int)
  rem : List Int
  seals : List (List Int)
  joins : List (List Int)
  own : Int
  ent : Int
  next : List Nd
  face : Int
  card : Int
structure Cv where
  av : Value
  rv : Value
  qv : Value
  jv : Value
  nv : Value
def cmC (c : Cm) (x : Cv) : List Value := [.int .i64 c.gr, .int .i64 c.ep, .int .i64 c.dev, .int .i64 c.mem, .int .i64 c.ke, .bool c.ext, x.av, x.rv, x.qv, x.jv, .int .i64 c.own, .int .i64 c.ent, x.nv, .int .i64 c.face, .int .i64 c.card]
def cmV (c : Cm) (x : Cv) : Value := .agg (cmC c x).toArray
structure CmR (w : World) (c : Cm) (x : Cv) : Prop where
  adds : RI 3 w x.av c.adds
  rem : Nums w x.rv c.rem
  rlen : c.rem.length ≤ 140737488355328
  seals : RI 3 w x.qv c.seals
  joins : RI 2 w x.jv c.joins
  next : Trd w x.nv c.next
theorem CmR.bw {w w' : World} {c : Cm} {x : Cv} (h : CmR w c x) (hb : Below w.heap.size w w') : CmR w' c x := ⟨h.adds.bw hb, h.rem.bw hb, h.rlen, h.seals.bw hb, h.joins.bw hb, h.next.bw hb⟩
structure Cms (w : World) (v : Value) (l : List Cm) : Prop where
  len : l.length ≤ 140737488355328
  form : ∃ a cap, v = .slice a l.length cap ∧ (l = [] ∨ ∃ g o, a = some ⟨g, o, none⟩ ∧ ∀ i c, l[i]? = some c → ∃ x, CmR w c x ∧ ∀ j u, (cmC c x)[j]? = some u → w.cell? ⟨g, o + i * 15 + j, none⟩ = some u)
theorem Cms.bw {w w' : World} {v : Value} {l : List Cm} (h : Cms w v l) (hb : Below w.heap.size w w') : Cms w' v l := by
  obtain ⟨h1, a, cap, rfl, hc⟩ := h
  refine ⟨h1, a, cap, rfl, ?_⟩
  rcases hc with hc | ⟨g, o, rfl, hc⟩
  · exact Or.inl hc
  · refine Or.inr ⟨g, o, rfl, fun i c hi => ?_⟩
    obtain ⟨x, h2, h3⟩ := hc i c hi
    refine ⟨x, h2.bw hb, fun j u hj => ?_⟩
    rw [hb.cell (World.block_lt_of_cell? w _ (h3 j u hj))]
    exact h3 j u hj
theorem Cms.slice {w : World} {v : Value} {l : List Cm} (h : Cms w v l) : ∃ a cap, v = .slice a l.length cap := by obtain ⟨a, cap, h, _⟩ := h.form; exact ⟨a, cap, h⟩
theorem Cms.get {w : World} {a : Option Addr} {n cap : Nat} {l : List Cm} (h : Cms w (.slice a n cap) l) {i : Nat} {c : Cm} (hi : l[i]? = some c) : ∃ g o, a = some ⟨g, o, none⟩ ∧ ∃ x, CmR w c x ∧ ∀ j u, (cmC c x)[j]? = some u → w.cell? ⟨g, o + i * 15 + j, none⟩ = some u := by
  obtain ⟨_, a', cap', hv, hc⟩ := h
  cases hv
  rcases hc with hc | ⟨g, o, rfl, hc⟩
  · rw [hc] at hi; simp at hi
  · exact ⟨g, o, rfl, hc i c hi⟩
structure Lgs (w : World) (v : Value) (l : List (Int × List Cm)) : Prop where
  len : l.length ≤ 140737488355328
  form : ∃ a cap, v = .slice a l.length cap ∧ (l = [] ∨ ∃ g o, a = some ⟨g, o, none⟩ ∧ ∀ i p, l[i]? = some p → ∃ cv, Cms w cv p.2 ∧ w.cell? ⟨g, o + i * 2, none⟩ = some (.int .i64 p.1) ∧ w.cell? ⟨g, o + i * 2 + 1, none⟩ = some cv)
theorem Lgs.bw {w w' : World} {v : Value} {l : List (Int × List Cm)} (h : Lgs w v l) (hb : Below w.heap.size w w') : Lgs w' v l := by
  obtain ⟨h1, a, cap, rfl, hc⟩ := h
  refine ⟨h1, a, cap, rfl, ?_⟩
  rcases hc with hc | ⟨g, o, rfl, hc⟩
  · exact Or.inl hc
  · refine Or.inr ⟨g, o, rfl, fun i p hi => ?_⟩
    obtain ⟨cv, h2, h3, h4⟩ := hc i p hi
    exact ⟨cv, h2.bw hb, by rw [hb.cell (World.block_lt_of_cell? w _ h3)]; exact h3, by rw [hb.cell (World.block_lt_of_cell? w _ h4)]; exact h4⟩
theorem Lgs.slice {w : World} {v : Value} {l : List (Int × List Cm)} (h : Lgs w v l) : ∃ a cap, v = .slice a l.length cap := by obtain ⟨a, cap, h, _⟩ := h.form; exact ⟨a, cap, h⟩
theorem Lgs.get {w : World} {a : Option Addr} {n cap : Nat} {l : List (Int × List Cm)} (h : Lgs w (.slice a n cap) l) {i : Nat} {p : Int × List Cm} (hi : l[i]? = some p) : ∃ g o, a = some ⟨g, o, none⟩ ∧ ∃ cv, Cms w cv p.2 ∧ w.cell? ⟨g, o + i * 2, none⟩ = some (.int .i64 p.1) ∧ w.cell? ⟨g, o + i * 2 + 1, none⟩ = some cv := by
  obtain ⟨_, a', cap', hv, hc⟩ := h
  cases hv
  rcases hc with hc | ⟨g, o, rfl, hc⟩
  · rw [hc] at hi; simp at hi
  · exact ⟨g, o, rfl, hc i p hi⟩
end Go.Proofs.YtnfhbmlmemifjaaGreatDoor

/- Contracts of what package tree asks of a tree by itself, continued. -/
namespace Go.Proofs.YtnfhbmlmemifjaaGreatDoor
open Go.RowKit Go.Maps
abbrev bxw (w : World) (v : Value) : World := w.alloc (.cells #[v] 32)
theorem bx_cell {w w1 : World} {v : Value} (hb : Below (bxw w v).heap.size (bxw w v) w1) : w1.cell? ⟨w.heap.size, 0, none⟩ = some v := by
  have e : w1.heap[w.heap.size]? = some (.cells #[v] 32 (0, 0)) := by rw [hb.block _ (by simp)]; exact heap_alloc_new _ _
  simp [World.cell?, e]
theorem bx_bel {w w1 : World} {v : Value} (hb : Below (bxw w v).heap.size (bxw w v) w1) : Below w.heap.size w w1 := bw_tr (bwA _ _) hb
theorem anyM_succ (T : List Nd) (a i : Nat) : anyM T a (i + 1) = (anyM T a i || (decide (a ≤ i) && pos (ndAt T (2 * i)))) := by
  unfold anyM; rw [List.range_succ, List.any_append]; simp
theorem anyM_self (T : List Nd) (a : Nat) : anyM T a a = false := by
  unfold anyM; rw [List.any_eq_false]; intro x hx; have := List.mem_range.1 hx; simp; intro; omega
theorem anyM_mono {T : List Nd} {a i b : Nat} (h : anyM T a i = true) (hb : i ≤ b) : anyM T a b = true := by
  unfold anyM at *
  rw [List.any_eq_true] at *
  obtain ⟨x, hx, h2⟩ := h
  exact ⟨x, by have := List.mem_range.1 hx; exact List.mem_range.2 (by omega), h2⟩
set_option maxHeartbeats 1000000 in
theorem anyMember_any {w : World} {v : Value} {T : List Nd} (h : Trd w v T) (hs : T.length ≤ 15) (a b : Nat) (hab : a ≤ b) (hb : b ≤ nlv T) :
    Calls Tryz.prog 276 #[.agg #[v], .int .i64 (a : Int), .int .i64 (b : Int)] w fun e w' => e = .returned (.bool (anyM T a b)) ∧ Below w.heap.size w w' := by
  have hl := h.len
  have hnl : nlv T = (T.length + 1) / 2 := rfl
  have KB : ∀ W, Below w.heap.size w W → ∀ x : Nat, x < T.length → _ := fun W hW x hx => blank_any (h.bw hW) hx
  have HX : Hid (∀ i, i < b → 2 * i < T.length) := fun i hi => by omega
  have hb2 : b ≤ 8 := by omega
  clear h hl hnl hb
  go_enter Tryz.func276, Tryz.ntmps276
  go_wp2_with fail
  go_loopw [7] (fun iv wr => ∃ i : Nat, iv = .int .i64 (i : Int) ∧ a ≤ i ∧ i ≤ b ∧ Hid (anyM T a i = false) ∧ Below (bxw w v).heap.size (bxw w v) wr) (fun iv _ => (b - (intOf iv)).toNat)
  case atStart => exact ⟨a, rfl, Nat.le_refl _, hab, anyM_self T a, Below.refl _ _⟩
  case round =>
    obtain ⟨i, rfl, hai, hi, hno, hbel⟩ := hrel
    by_cases hin : i < b
    · have q1 : (i : Int) < (b : Int) := by omega
      obtain ⟨x, hx⟩ : ∃ x : Nat, x = 2 * i := ⟨_, rfl⟩
      have q2 : (2 * (i : Int)) = (x : Int) := by omega
      have KB2 := KB wr (bx_bel hbel) x (by rw [hx]; exact unhide HX i hin)
      have c1 := bx_cell hbel
      have HP : Hid (anyM T a (i + 1) = pos (ndAt T x)) := by unfold Hid; rw [anyM_succ, unhide hno, decide_eq_true hai, hx]; simp
      clear hx
      generalize pos (ndAt T x) = p at *
      go_wp2_with fail
      refine KB2.mono ?_
      rintro e w1 ⟨rfl, b1⟩
      cases p
      · go_wp2_with fail
        go_roundw
        case rel => exact ⟨i + 1, by go_num, by omega, by omega, HP, bw_tr hbel b1⟩
        case measure => simp [intOf]; omega
      · go_wp2
        go_ret
        rw [anyM_mono (unhide HP) (by omega)]
        exact ⟨rfl, bw_tr (bx_bel hbel) b1⟩
    · have hie : i = b := by omega
      subst hie
      go_wp2_with fail
      go_ret
      rw [unhide hno]
      exact ⟨rfl, bx_bel hbel⟩
theorem lvs_len (T : List Nd) : (lvs T).length = nlv T := by simp [lvs]
theorem lvs_get {T : List Nd} {i : Nat} (h : i < nlv T) : (lvs T)[i]? = some (ndAt T (2 * i)) := by simp [lvs, h]
theorem lvs_take {T : List Nd} {i : Nat} (h : i < nlv T) : (lvs T).take (i + 1) = (lvs T).take i ++ [ndAt T (2 * i)] := by rw [List.take_add_one, lvs_get h]; rfl
theorem memsOf_snoc (L : List Nd) (n : Nd) : memsOf (L ++ [n]) = memsOf L ++ if pos n = true then [n.mem] else [] := by
  unfold memsOf; rw [List.filter_append, List.map_append]; cases h : pos n <;> simp [h]
theorem memsOf_len (L : List Nd) : (memsOf L).length ≤ L.length := by unfold memsOf; rw [List.length_map]; exact List.length_filter_le _ _
set_option maxRecDepth 100000 in
set_option maxHeartbeats 1000000 in
theorem members_any {w : World} {v : Value} {T : List Nd} (h : Trd w v T) (hs : T.length ≤ 15) :
    Calls Tryz.prog 183 #[.agg #[v]] w fun e w' => ∃ r, e = .returned r ∧ Ints w.heap.size w' r (mems T) ∧ Below w.heap.size w w' := by
  obtain ⟨i0, hi, hz0, hz1, hz2⟩ := info_parts Tryz.infoInt
  obtain ⟨a, c, rfl⟩ := h.slice
  have hl := h.len
  have KL := leaves_any a T.length c (bxw w (.slice a T.length c)) hl
  have KB : ∀ W, Below w.heap.size w W → ∀ x : Nat, x < T.length → _ := fun W hW x hx => blank_any (h.bw hW) hx
  obtain ⟨-, h2⟩ := h.at
  have HX : Hid (∀ i, i < nlv T → 2 * i < T.length) := fun i hi => by unfold nlv at hi; omega
  have HC : Hid (∀ i, i < nlv T → ∃ b o, a = some ⟨b, o, none⟩ ∧ ∀ W, Below w.heap.size w W → W.cell? ⟨b, o + 2 * i * 4 + 1, none⟩ = some (.int .i64 (ndAt T (2 * i)).mem)) := fun i hi => by
    have hx := unhide HX i hi
    obtain ⟨b, o, e, h3⟩ := h2 (by omega)
    exact ⟨b, o, e, fun W hW => by obtain ⟨u, k, _⟩ := h3 W hW (2 * i) hx; exact k.c1⟩
  have hnl : nlv T = (T.length + 1) / 2 := rfl
  rw [← hnl] at KL
  have hn8 : nlv T ≤ 8 := by omega
  have HL : Hid (∀ i, i < nlv T → memsOf ((lvs T).take (i + 1)) = memsOf ((lvs T).take i) ++ if pos (ndAt T (2 * i)) = true then [(ndAt T (2 * i)).mem] else []) := fun i hi => by rw [lvs_take hi, memsOf_snoc]
  have HE : Hid (memsOf ((lvs T).take (nlv T)) = mems T) := by unfold Hid mems; rw [← lvs_len, List.take_length]
  have HN : Hid (∀ i, (memsOf ((lvs T).take i)).length ≤ i) := fun i => Nat.le_trans (memsOf_len _) (by simp; omega)
  have hN15 : (T.length : Int) ≤ 15 := by omega
  clear hl h h2 hnl hs
  generalize hnn : nlv T = n at *
  clear hnn
  generalize T.length = N at *
  go_enter Tryz.func183, Tryz.ntmps183
  go_wp2_with fail
  refine KL.mono ?_
  rintro e w1 ⟨rfl, b1⟩
  go_wp2_with fail
  go_loopw [3, 7] (fun lv iv wr => ∃ i : Nat, iv = .int .i64 (i : Int) ∧ i ≤ n ∧ Ints (bxw w (.slice a N c)).heap.size wr lv (memsOf ((lvs T).take i)) ∧ Below (bxw w (.slice a N c)).heap.size (bxw w (.slice a N c)) wr) (fun _ iv _ => (n - (intOf iv)).toNat)
  case atStart => exact ⟨0, rfl, by omega, ints_nil _ _, b1⟩
  case round =>
    obtain ⟨i, rfl, hin, hown, hbel⟩ := hrel
    clear b1 KL
    by_cases hlt : i < n
    · have q1 : (i : Int) < (n : Int) := by omega
      have hx := unhide HX i hlt
      have KB2 := KB wr (bx_bel hbel) (2 * i) hx
      have c1 := bx_cell hbel
      have hlen := unhide HN i
      have HL2 := hide (unhide HL i hlt)
      obtain ⟨b, o, rfl, hC⟩ := unhide HC i hlt
      have q2 : ∃ x : Nat, x = 2 * i := ⟨_, rfl⟩
      obtain ⟨x, q2⟩ := q2
      rw [← q2] at hx KB2 HL2 hC
      have q3 : (2 * (i : Int)) = (x : Int) := by omega
      clear q2
      generalize (ndAt T x).mem = m at *
      generalize pos (ndAt T x) = p at *
      generalize memsOf ((lvs T).take i) = cur at *
      go_wp2_with fail
      refine KB2.mono ?_
      rintro e w2 ⟨rfl, b2⟩
      have hbel2 := bw_tr hbel b2
      have hown2 := hown.bw b2
      cases p
      · go_wp2_with fail
        go_roundw
        case rel => exact ⟨i + 1, by go_num, by omega, by have := unhide HL2; simp at this; rw [this]; exact hown2, hbel2⟩
        case measure => simp [intOf]; omega
      · have c2 := bx_cell hbel2
        have c3 := hC w2 (bx_bel hbel2)
        have x1 : (x : Int) < (N : Int) := by omega
        have x2 : (0 : Int) ≤ (x : Int) := by omega
        have hsz := hbel2.size
        have hlen2 : cur.length ≤ 8 := by omega
        have HL3 : Hid (memsOf ((lvs T).take (i + 1)) = cur ++ [m]) := by have := unhide HL2; unfold Hid; simpa using this
        clear hC c1 KB2 hown HL2 hlen
        go_wp2_with (at_builtin; refine wpList_append_own _ rfl (.tmp 15) (.tmp 23) 27 rfl (bxw w (.slice (some ⟨b, o, none⟩) N c)).heap.size 3 i0 (.int .i64 0) 1 8 Tryz.underlying27 hi hz0 hz1 hz2 rfl (by decide) _ cur.length _ rfl (World.ownsRow.alloc hown2 _) ⟨w2.heap.size, 0, none⟩ 1 1 [_] rfl rfl (cell_one_new _ _ _) ?c2 ?c3 ?c4 ?c5 ?nx)
        case c2 => intro u hu; simp at hu; subst hu; rfl
        case c3 => unfold maxLen; omega
        case c4 => omega
        case c5 => simp; simp at hsz; omega
        case nx =>
          intro v' w3 hown' hgrow _
          obtain ⟨R1, R2⟩ := ints_snoc m hbel2 hown2 (by simpa using hown') hgrow
          clear hown' hgrow
          go_wp2_with fail
          go_roundw
          case rel => exact ⟨i + 1, by go_num, by omega, by rw [unhide HL3]; exact R1, R2⟩
          case measure => simp [intOf]; omega
    · have hie : i = n := by omega
      subst hie
      rw [unhide HE] at hown
      go_wp2_with fail
      go_ret
      exact ⟨_, rfl, hown.mono (by simp), bx_bel hbel⟩
end Go.Proofs.YtnfhbmlmemifjaaGreatDoor

/- Contracts of unmergedMayBe and nodeMayBe. -/
namespace Go.Proofs.YtnfhbmlmemifjaaGreatDoor
open Go.RowKit Go.Maps
def Wd (T : List Nd) : Prop := ∃ n ∈ sizes, T.length = 2 * n - 1
theorem Wd.facts {T : List Nd} (h : Wd T) : nlv T ∈ sizes ∧ T.length = 2 * nlv T - 1 ∧ T.length ≤ 15 ∧ nlv T ≤ 8 ∧ 0 < nlv T := by
  obtain ⟨n, hn, e⟩ := h
  have : nlv T = n := by unfold nlv; simp [sizes] at hn; omega
  rw [this]
  refine ⟨hn, e, ?_, ?_, ?_⟩ <;> (simp [sizes] at hn; omega)
theorem span_of {n x : Nat} (hn : n ∈ sizes) (hx : x < 2 * n - 1) : (0 ≤ spF (x : Nat) ∧ spF (x : Nat) ≤ spT (x : Nat) ∧ spT (x : Nat) < (n : Nat) ∧ (x % 2 = 1 ∨ (2 * spF (x : Nat) = (x : Nat) ∧ 2 * spT (x : Nat) = (x : Nat)))) ∧
    (x % 2 = 1 → lfV (x : Nat) = (lN x : Nat) ∧ rtV (x : Nat) = (rN x : Nat) ∧ lfB (x : Nat) = true ∧ rtB (x : Nat) = true ∧ lN x < 2 * n - 1 ∧ rN x < 2 * n - 1 ∧ lvl (lN x : Nat) + 1 = lvl (x : Nat) ∧ lvl (rN x : Nat) + 1 = lvl (x : Nat) ∧ spF (lN x : Nat) = spF (x : Nat) ∧ spT (lN x : Nat) + 1 = spF (rN x : Nat) ∧ spT (rN x : Nat) = spT (x : Nat)) ∧
    0 ≤ lvl (x : Nat) ∧ lvl (x : Nat) ≤ 3 ∧ (lvl (x : Nat) = 0 ↔ x % 2 = 0) ∧ lfB (x : Nat) = decide (x % 2 = 1) := by
  have h := List.all_eq_true.1 fin_span n hn
  have h := List.all_eq_true.1 h x (List.mem_range.2 hx)
  simp only [Bool.and_eq_true, Bool.or_eq_true, decide_eq_true_eq] at h
  obtain ⟨⟨⟨⟨⟨⟨⟨⟨h1, h2⟩, h3⟩, h4⟩, h5⟩, h6⟩, h7⟩, h8⟩, h9⟩ := h
  refine ⟨⟨h1, h2, h3, h4⟩, fun hp => ?_, h6, h7, h8, h9⟩
  rcases h5 with c | ⟨⟨⟨⟨⟨⟨⟨⟨⟨⟨a1, a2⟩, a3⟩, a4⟩, a5⟩, a6⟩, a7⟩, a8⟩, a9⟩, a10⟩, a11⟩
  · omega
  · exact ⟨a1, a2, a3, a4, a5, a6, a7, a8, a9, a10, a11⟩
set_option maxRecDepth 100000 in
set_option maxHeartbeats 2000000 in
theorem unmerged_any {w : World} {v : Value} {T : List Nd} (h : Trd w v T) (hw : Wd T) (hT : Tab w) {x : Nat} (hx : x < T.length) :
    Calls Tryz.prog 306 #[.agg #[v], .int .i64 (x : Int)] w fun e w' => e = .returned (.bool (unM T (spF (x : Nat)) (spT (x : Nat)) (ndAt T x).un)) ∧ Below w.heap.size w w' := by
  obtain ⟨g1, g2, g3, g4, g5⟩ := hw.facts
  obtain ⟨⟨s1, s2, s3, -⟩, -⟩ := span_of g1 (show x < 2 * nlv T - 1 by omega)
  obtain ⟨a, c, rfl⟩ := h.slice
  obtain ⟨w0, hw0⟩ : ∃ w0, w0 = bxw w (.slice a T.length c) := ⟨_, rfl⟩
  have HB : Hid (∀ W, Below w0.heap.size w0 W → W.cell? ⟨w.heap.size, 0, none⟩ = some (.slice a T.length c) ∧ Below w.heap.size w W) := fun W hW => by subst hw0; exact ⟨bx_cell hW, bx_bel hW⟩
  have KS := span_any (x : Int) w0 (by omega) (hT.bw (by rw [hw0]; exact bwA _ _))
  have KB : Hid (∀ (W : World) (y : Nat), Below w.heap.size w W → y < T.length → Calls Tryz.prog 277 #[.agg #[.slice a T.length c], .int .i64 (y : Int)] W fun e w' => e = .returned (.bool (!pos (ndAt T y))) ∧ Below W.heap.size W w') := fun W y hW hy => blank_any (h.bw hW) hy
  obtain ⟨-, h2⟩ := h.at
  obtain ⟨b, o, rfl, h3⟩ := h2 (by omega)
  obtain ⟨u, k1, k2⟩ := h3 w (Below.refl _ _) x hx
  have hB : b < w.heap.size := lt_of_cell k1.c3
  have HU : Hid (∀ W, Below w.heap.size w W → W.cell? ⟨b, o + x * 4 + 3, none⟩ = some u) := fun W hW => (k1.bw hB hW).c3
  obtain ⟨au, cu, rfl⟩ := nums_slice k2
  have hul := h.unl _ (ndAt_mem hx)
  generalize (ndAt T x).un = l at *
  have HL : Hid (∀ i z, l[i]? = some z → ∃ g o', au = some ⟨g, o', none⟩ ∧ ∀ W, Below w.heap.size w W → W.cell? ⟨g, o' + i, none⟩ = some (.int .i64 z)) := fun i z hz => by
    obtain ⟨g, o', cap, e, hc⟩ := k2.open (by have := (List.getElem?_eq_some_iff.1 hz).1; omega)
    cases e
    refine ⟨g, o', rfl, fun W hW => ?_⟩
    have hcc := hc i z hz
    rw [hW.cell (p := ⟨g, o' + i, none⟩) (lt_of_cell (a := ⟨g, o' + i, none⟩) hcc)]; exact hcc
  have HX : Hid (∀ i : Nat, (i : Int) ≤ spT (x : Nat) → 2 * i < T.length) := fun i hi => by omega
  have hF : spT (x : Nat) ≤ 7 := by omega
  have hF0 : (0 : Int) ≤ spF (x : Nat) := s1
  have hF1 : spF (x : Nat) ≤ 7 := by omega
  have HW : Hid (w0 = w.alloc (.cells #[.slice (some ⟨b, o, none⟩) T.length c] 32)) := hw0
  obtain ⟨r, hr⟩ : ∃ r, r = unM T (spF (x : Nat)) (spT (x : Nat)) l := ⟨_, rfl⟩
  rw [← hr]
  have HR := hide hr
  have hx1 : (x : Int) < (T.length : Int) := by omega
  have hx2 : (0 : Int) ≤ (x : Int) := by omega
  clear hr h h2 h3 k1 k2 hw0 g1 g2 g4 g5 s1 s2 s3 hw hx
  generalize spF (x : Nat) = F at *
  generalize spT (x : Nat) = L at *
  obtain ⟨M, hM⟩ : ∃ M, M = l.length := ⟨_, rfl⟩
  have hM1 : (M : Int) ≤ 140737488355328 := by omega
  rw [← hM] at HU
  have HM := hide hM
  have g3' : (T.length : Int) ≤ 15 := by omega
  clear hM hul g3
  generalize hN : T.length = N at *
  clear hN
  go_enter Tryz.func306, Tryz.ntmps306
  go_wp2_with fail
  rw [← unhide HW]
  refine KS.mono ?_
  rintro e w0 ⟨rfl, rfl⟩
  obtain ⟨c1, hbw⟩ := unhide HB _ (Below.refl _ _)
  have c2 := unhide HU _ hbw
  clear KS
  go_wp2_with fail
  go_loopw [5, 21] (fun fv iv wr => ∃ (i : Nat) (f : Int), iv = .int .i64 (i : Int) ∧ fv = .int .i64 f ∧ i ≤ M ∧ 0 ≤ f ∧ f ≤ 8 ∧ Hid (unM T f L (l.drop i) = r) ∧ Below w0.heap.size w0 wr) (fun _ iv _ => (M - (intOf iv)).toNat)
  case atStart => exact ⟨0, F, rfl, rfl, by omega, hF0, by omega, (unhide HR).symm, Below.refl _ _⟩
  case round =>
    clear c1 c2 hbw
    obtain ⟨i, f, rfl, rfl, hin, hf0, hf8, hrem, hbel⟩ := hrel
    obtain ⟨c1, hbw⟩ := unhide HB _ hbel
    by_cases hlt : i < M
    · obtain ⟨z, hz⟩ : ∃ z, l[i]? = some z := ⟨_, List.getElem?_eq_getElem (by have := unhide HM; omega)⟩
      obtain ⟨g, o', rfl, hc⟩ := unhide HL i z hz
      have c2 := hc _ hbw
      have q1 : (i : Int) < (M : Int) := by omega
      have q0 : (0 : Int) ≤ (i : Int) := by omega
      have hd : l.drop i = z :: l.drop (i + 1) := by
        rw [List.drop_eq_getElem_cons (by have := unhide HM; omega)]; congr 1
        have := List.getElem?_eq_some_iff.1 hz; exact this.2
      have HD : Hid ((decide (f ≤ z) && decide (z ≤ L) && pos (ndAt T (2 * z.toNat)) && unM T (z + 1) L (l.drop (i + 1))) = r) := by
        have := unhide hrem; rw [hd] at this; exact this
      clear hd hz hrem hc
      by_cases k1 : z < f
      · have e : r = false := by rw [← unhide HD, decide_eq_false (by omega)]; simp
        subst e
        go_wp2_with fail
        go_ret
        exact ⟨rfl, hbw⟩
      · have k1' : decide (z < f) = false := by simp; omega
        by_cases k2 : L < z
        · have e : r = false := by rw [← unhide HD, decide_eq_false (show ¬ z ≤ L by omega)]; simp
          subst e
          go_wp2_with fail
          go_ret
          exact ⟨rfl, hbw⟩
        · have k2' : decide (L < z) = false := by simp; omega
          obtain ⟨y, hy⟩ : ∃ y : Nat, y = 2 * z.toNat := ⟨_, rfl⟩
          have K := unhide KB wr y hbw (by rw [hy]; exact unhide HX z.toNat (by omega))
          have q3 : 2 * z = (y : Int) := by omega
          have HD2 : Hid ((pos (ndAt T y) && unM T (z + 1) L (l.drop (i + 1))) = r) := by
            have := unhide HD; rw [decide_eq_true (show f ≤ z by omega), decide_eq_true (show z ≤ L by omega), ← hy] at this; simpa [Hid] using this
          have z0 : 0 ≤ z := by omega
          have z7 : z ≤ 7 := by omega
          clear hy HD
          generalize pos (ndAt T y) = p at *
          go_wp2_with fail
          refine K.mono ?_
          rintro e w2 ⟨rfl, b2⟩
          have hbel2 := bw_tr hbel b2
          cases p
          · have e : r = false := by rw [← unhide HD2]; rfl
            subst e
            go_wp2_with fail
            go_ret
            exact ⟨rfl, (unhide HB _ hbel2).2⟩
          · have HD3 : Hid (unM T (z + 1) L (l.drop (i + 1)) = r) := by have := unhide HD2; simpa [Hid] using this
            clear HD2 K
            go_wp2_with fail
            go_roundw
            case rel => exact ⟨i + 1, z + 1, by go_num, by go_num, by omega, by omega, by omega, HD3, hbel2⟩
            case measure => simp [intOf]; omega
    · have e : r = true := by
        rw [← unhide hrem, List.drop_of_length_le (by have := unhide HM; omega)]; rfl
      subst e
      have hie : i = M := by omega
      subst hie
      go_wp2_with fail
      go_ret
      exact ⟨rfl, hbw⟩
theorem ndM_def (T : List Nd) (x : Nat) {p m e : Int} {l : List Int} (hp : (ndAt T x).pub = p) (hm : (ndAt T x).mem = m) (he : (ndAt T x).ep = e) (hl : (ndAt T x).un = l) : ndM T x = if p = 0 then m == 0 && e == 0 && l.isEmpty else if p < 0 then false else if x % 2 = 0 then decide (0 ≤ m) && decide (0 ≤ e) && l.isEmpty else m == 0 && e == 0 && unM T (spF (x : Nat)) (spT (x : Nat)) l := by
  unfold ndM; rw [hp, hm, he, hl]
set_option maxRecDepth 100000 in
set_option maxHeartbeats 4000000 in
theorem nodeMay_any {w : World} {v : Value} {T : List Nd} (h : Trd w v T) (hw : Wd T) (hT : Tab w) {x : Nat} (hx : x < T.length) :
    Calls Tryz.prog 274 #[.agg #[v], .int .i64 (x : Int)] w fun e w' => e = .returned (.bool (ndM T x)) ∧ Below w.heap.size w w' := by
  obtain ⟨g1, g2, g3, g4, g5⟩ := hw.facts
  obtain ⟨-, -, -, -, s4, -⟩ := span_of g1 (show x < 2 * nlv T - 1 by omega)
  obtain ⟨a, c, rfl⟩ := h.slice
  obtain ⟨-, h2⟩ := h.at
  obtain ⟨b, o, rfl, h3⟩ := h2 (by omega)
  obtain ⟨u, k1, k2⟩ := h3 _ (bwA w (.cells #[.slice (some ⟨b, o, none⟩) T.length c] 32)) x hx
  obtain ⟨au, cu, rfl⟩ := nums_slice k2
  obtain ⟨c0, c1, c2, c3⟩ := k1
  have hul := h.unl _ (ndAt_mem hx)
  obtain ⟨p, hp⟩ : ∃ p, (ndAt T x).pub = p := ⟨_, rfl⟩
  obtain ⟨m, hm⟩ : ∃ p, (ndAt T x).mem = p := ⟨_, rfl⟩
  obtain ⟨e, he⟩ : ∃ p, (ndAt T x).ep = p := ⟨_, rfl⟩
  obtain ⟨l, hl⟩ : ∃ p, (ndAt T x).un = p := ⟨_, rfl⟩
  have HD := hide (ndM_def T x hp hm he hl)
  have KU : Hid (∀ W, Below w.heap.size w W → Calls Tryz.prog 306 #[.agg #[.slice (some ⟨b, o, none⟩) T.length c], .int .i64 (x : Int)] W fun e w' => e = .returned (.bool (unM T (spF (x : Nat)) (spT (x : Nat)) l)) ∧ Below W.heap.size W w') := fun W hW => by rw [← hl]; exact unmerged_any (h.bw hW) hw (hT.bw hW) hx
  have KV : Hid (∀ W, Below w.heap.size w W → Calls Tryz.prog 305 #[.int .i64 (x : Int)] W fun e w' => e = .returned (.int .i64 (lvl (x : Nat))) ∧ w' = W) := fun W hW => level_any (x : Int) W (by omega) (hT.bw hW)
  rw [hp] at c0
  rw [hm] at c1
  rw [he] at c2
  rw [hl] at c3 hul
  have hemp : l.isEmpty = ((l.length : Int) == 0) := by cases l <;> simp <;> omega
  rw [hemp] at HD
  have s5 : (lvl (x : Nat) == 0) = decide (x % 2 = 0) := by
    by_cases q : x % 2 = 0
    · rw [s4.2 q]; simp [q]
    · have : lvl (x : Nat) ≠ 0 := fun k => q (s4.1 k)
      simp [q, this]
  obtain ⟨M, hM⟩ : ∃ M, M = l.length := ⟨_, rfl⟩
  rw [← hM] at c3 hul HD
  have hM1 : (M : Int) ≤ 140737488355328 := by omega
  obtain ⟨r, hr⟩ : ∃ r, r = ndM T x := ⟨_, rfl⟩
  rw [← hr] at HD ⊢
  generalize unM T (spF (x : Nat)) (spT (x : Nat)) l = um at *
  have hx1 : (x : Int) < (T.length : Int) := by omega
  have hx2 : (0 : Int) ≤ (x : Int) := by omega
  have g3' : (T.length : Int) ≤ 15 := by omega
  clear h h2 h3 k2 hul hp hm he hl hemp s4 hM hr hT hw g1 g2 g3 g4 g5 hx
  generalize T.length = N at *
  generalize lvl (x : Nat) = lv at *
  by_cases k0 : p = 0
  · subst k0
    rw [if_pos rfl] at HD
    by_cases k1 : m = 0
    · subst k1
      by_cases k2 : e = 0
      · subst k2
        obtain rfl : r = ((M : Int) == 0) := by rw [unhide HD]; simp
        clear HD
        go_enter Tryz.func274, Tryz.ntmps274
        go_wp2
        go_ret
        exact ⟨rfl, (bwA _ _).alloc (by simp) _⟩
      · have k2' : (e == 0) = false := by simp [k2]
        have k2'' : decide (e = 0) = false := by simp [k2]
        obtain rfl : r = false := by rw [unhide HD, k2']; simp
        clear HD
        go_enter Tryz.func274, Tryz.ntmps274
        go_wp2
        go_ret
        exact ⟨rfl, (bwA _ _).alloc (by simp) _⟩
    · have k2' : (m == 0) = false := by simp [k1]
      have k2'' : decide (m = 0) = false := by simp [k1]
      obtain rfl : r = false := by rw [unhide HD, k2']; simp
      clear HD
      go_enter Tryz.func274, Tryz.ntmps274
      go_wp2
      go_ret
      exact ⟨rfl, (bwA _ _).alloc (by simp) _⟩
  · rw [if_neg k0] at HD
    have k0' : (p == 0) = false := by simp [k0]
    have k0'' : decide (p = 0) = false := by simp [k0]
    by_cases kn : p < 0
    · rw [if_pos kn] at HD
      obtain rfl := unhide HD
      clear HD
      go_enter Tryz.func274, Tryz.ntmps274
      go_wp2
      go_ret
      exact ⟨rfl, (bwA _ _).alloc (by simp) _⟩
    · rw [if_neg kn] at HD
      have KV2 := hide (unhide KV _ ((bwA w (.cells #[.slice (some ⟨b, o, none⟩) N c] 32)).alloc (by simp) (.cells #[.int .i64 p, .int .i64 m, .int .i64 e, .slice au M cu] 256)))
      have KU2 := hide (unhide KU _ ((bwA w (.cells #[.slice (some ⟨b, o, none⟩) N c] 32)).alloc (by simp) (.cells #[.int .i64 p, .int .i64 m, .int .i64 e, .slice au M cu] 256)))
      clear KV KU
      by_cases kl : x % 2 = 0
      · rw [if_pos kl] at HD
        have s6 : (lv == 0) = true := by rw [s5]; simp [kl]
        clear s5
        obtain rfl : lv = 0 := by simpa using s6
        clear s6
        by_cases k1 : 0 ≤ m
        · by_cases k2 : 0 ≤ e
          · obtain rfl : r = ((M : Int) == 0) := by rw [unhide HD, decide_eq_true k1, decide_eq_true k2]; simp
            clear HD
            go_enter Tryz.func274, Tryz.ntmps274
            go_wp2_with fail
            refine (unhide KV2).mono ?_
            rintro e1 w1 ⟨rfl, rfl⟩
            clear KV2
            go_wp2
            go_ret
            exact ⟨rfl, (bwA _ _).alloc (by simp) _⟩
          · have k2' : decide (0 ≤ e) = false := by simp; omega
            obtain rfl : r = false := by rw [unhide HD, k2']; simp
            clear HD
            go_enter Tryz.func274, Tryz.ntmps274
            go_wp2_with fail
            refine (unhide KV2).mono ?_
            rintro e1 w1 ⟨rfl, rfl⟩
            clear KV2
            go_wp2
            go_ret
            exact ⟨rfl, (bwA _ _).alloc (by simp) _⟩
        · have k2' : decide (0 ≤ m) = false := by simp; omega
          obtain rfl : r = false := by rw [unhide HD, k2']; simp
          clear HD
          go_enter Tryz.func274, Tryz.ntmps274
          go_wp2_with fail
          refine (unhide KV2).mono ?_
          rintro e1 w1 ⟨rfl, rfl⟩
          clear KV2
          go_wp2
          go_ret
          exact ⟨rfl, (bwA _ _).alloc (by simp) _⟩
      · rw [if_neg kl] at HD
        have s6 : (lv == 0) = false := by rw [s5]; simp [kl]
        have s7 : decide (lv = 0) = false := by simpa using s6
        clear s5
        by_cases k1 : m = 0
        · subst k1
          by_cases k2 : e = 0
          · subst k2
            obtain rfl : r = um := by rw [unhide HD]; simp
            clear HD
            go_enter Tryz.func274, Tryz.ntmps274
            go_wp2_with fail
            refine (unhide KV2).mono ?_
            rintro e1 w1 ⟨rfl, rfl⟩
            clear KV2
            go_wp2_with fail
            refine (unhide KU2).mono ?_
            rintro e1 w1 ⟨rfl, b1⟩
            go_wp2
            go_ret
            exact ⟨rfl, bw_tr ((bwA _ _).alloc (by simp) _) b1⟩
          · have k2' : (e == 0) = false := by simp [k2]
            have k2'' : decide (e = 0) = false := by simp [k2]
            obtain rfl : r = false := by rw [unhide HD, k2']; simp
            clear HD
            go_enter Tryz.func274, Tryz.ntmps274
            go_wp2_with fail
            refine (unhide KV2).mono ?_
            rintro e1 w1 ⟨rfl, rfl⟩
            clear KV2
            go_wp2
            go_ret
            exact ⟨rfl, (bwA _ _).alloc (by simp) _⟩
        · have k2' : (m == 0) = false := by simp [k1]
          have k2'' : decide (m = 0) = false := by simp [k1]
          obtain rfl : r = false := by rw [unhide HD, k2']; simp
          clear HD
          go_enter Tryz.func274, Tryz.ntmps274
          go_wp2_with fail
          refine (unhide KV2).mono ?_
          rintro e1 w1 ⟨rfl, rfl⟩
          clear KV2
          go_wp2
          go_ret
          exact ⟨rfl, (bwA _ _).alloc (by simp) _⟩
end Go.Proofs.YtnfhbmlmemifjaaGreatDoor
