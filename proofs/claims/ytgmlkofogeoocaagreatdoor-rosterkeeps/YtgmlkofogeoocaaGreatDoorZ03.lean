/- Texts joined: TrRs TrMem TrA LgMem TrB. -/
import Derived.Test.YtgmlkofogeoocaaGreatDoorIxJoin
import Derived.Test.YtgmlkofogeoocaaGreatDoorZ02
import Derived.WalkKit
import Derived.WalkSpells
import Derived.WalkLawsBesides
import Derived.WalkSmall
import Derived.Maps.OwnSet
import Derived.Maps.RangeWalk
import Derived.Maps.AppendAt
import Derived.BigQuiet
import Derived.Deep.MidRow
import Derived.Deep.WholeRow
import Derived.Deep.RegionHeld3
import Derived.Deep.Cut
import Derived.Deep.QuietTactic
import Derived.Deep.RegionLaw
import Derived.Deep.RegionWith
import Derived.Laws.IdiomStrings
import Derived.Laws.EntriesVeiled
/- Frames, rows of any kind, and resources that lie apart, behind layer 2. No walk is in this text. -/
namespace Go.Proofs.YtgmlkofogeoocaaGreatDoor
open Go.RowKit Go.Maps
structure Fr (S : List Nat) (w w' : World) : Prop where
  os : w'.os = w.os
  tape : w'.tape = w.tape
  output : w'.output = w.output
  size : w.heap.size ≤ w'.heap.size
  block : ∀ k, k < w.heap.size → k ∉ S → w'.heap[k]? = w.heap[k]?
theorem Fr.refl (S : List Nat) (w : World) : Fr S w w := ⟨rfl, rfl, rfl, Nat.le_refl _, fun _ _ _ => rfl⟩
theorem Fr.trans {S S' T : List Nat} {w w1 w2 : World} (h : Fr S w w1) (k : Fr S' w1 w2) (h1 : ∀ x, x < w.heap.size → x ∈ S → x ∈ T) (h2 : ∀ x, x < w.heap.size → x ∈ S' → x ∈ T) : Fr T w w2 :=
  ⟨k.os.trans h.os, k.tape.trans h.tape, k.output.trans h.output, Nat.le_trans h.size k.size,
   fun x hx hn => (k.block x (Nat.lt_of_lt_of_le hx h.size) (fun c => hn (h2 x hx c))).trans (h.block x hx (fun c => hn (h1 x hx c)))⟩
theorem Fr.mono {S T : List Nat} {w w1 : World} (h : Fr S w w1) (h1 : ∀ x, x < w.heap.size → x ∈ S → x ∈ T) : Fr T w w1 :=
  ⟨h.os, h.tape, h.output, h.size, fun x hx hn => h.block x hx (fun c => hn (h1 x hx c))⟩
theorem Fr.tr {S : List Nat} {w w1 w2 : World} (h : Fr S w w1) (k : Fr S w1 w2) : Fr S w w2 := h.trans k (fun _ _ c => c) (fun _ _ c => c)
theorem Fr.setCell {S : List Nat} {w w1 : World} (h : Fr S w w1) {a : Addr} (ha : w.heap.size ≤ a.block ∨ a.block ∈ S) (u : Value) : Fr S w (w1.setCell a u) :=
  h.trans (S' := [a.block]) ⟨rfl, rfl, rfl, by simp [World.setCell], fun k _ hn => Below.heap_setCell _ _ _ _ (by simpa using hn)⟩ (fun _ _ c => c)
    (fun x hx c => by simp at c; subst c; rcases ha with h | h; omega; exact h)
theorem Fr.drew {S : List Nat} {w w1 : World} (h : Fr S w w1) : Fr S w w1.drew := ⟨h.os, h.tape, h.output, h.size, h.block⟩
theorem Fr.ofBelow {w w' : World} (h : Below w.heap.size w w') : Fr [] w w' := ⟨h.os, h.tape, h.output, h.size, fun k hk _ => h.block k hk⟩
theorem Fr.below {S : List Nat} {w w1 w2 : World} (h : Fr S w w1) (hb : Below w1.heap.size w1 w2) : Fr S w w2 :=
  h.tr ⟨hb.os, hb.tape, hb.output, hb.size, fun k hk _ => hb.block k hk⟩
theorem Fr.toBelow {w w' : World} (h : Fr [] w w') : Below w.heap.size w w' := ⟨h.os, h.tape, h.output, h.size, fun k hk => h.block k hk (by simp)⟩
theorem Fr.ofGrown {w w' : World} {row : Option Nat} (hg : w.grownBy w' row) : Fr row.toList w w' :=
  ⟨hg.os, hg.tape, hg.output, hg.size, fun k hk hn => hg.block k hk (fun c => hn (by rw [← c]; simp))⟩
theorem Fr.toBase {S : List Nat} {w w1 w2 : World} (h : Below w.heap.size w w1) (k : Fr S w1 w2) (hS : ∀ x ∈ S, w.heap.size ≤ x) : Below w.heap.size w w2 :=
  ((Fr.ofBelow h).trans (T := []) k (fun _ _ c => by cases c) (fun x hx c => by have := hS x c; omega)).toBelow
theorem lt_of_blk {w : World} {b : Nat} {o : Obj} (h : w.heap[b]? = some o) : b < w.heap.size := by
  rcases Nat.lt_or_ge b w.heap.size with h1 | h1
  · exact h1
  · rw [Array.getElem?_eq_none h1] at h; cases h
theorem lt_of_cell {w : World} {a : Addr} {v : Value} (h : w.cell? a = some v) : a.block < w.heap.size := World.block_lt_of_cell? w a h
theorem own_keep {B : Nat} {w w' : World} {e : TypeId} {c : Nat} {v : Value} {n : Nat} {xs : List Value} (h : w.ownsRow B e c v n xs) (hb : ∀ k, v.ownBlock = some k → w'.heap[k]? = w.heap[k]?) : w'.ownsRow B e c v n xs := by
  refine ⟨h.1, ?_⟩
  rcases h.2 with h2 | ⟨g, cap, cur, hv, h0, hg, r⟩
  · exact Or.inl h2
  · exact Or.inr ⟨g, cap, cur, hv, h0, by rw [hb g (by rw [hv]; rfl)]; exact hg, r⟩
theorem own_kind {B : Nat} {w : World} {e : TypeId} {c : Nat} {v : Value} {n : Nat} {xs : List Value} (h : w.ownsRow B e c v n xs) {k : Nat} (hk : v.ownBlock = some k) : ∃ cur, w.heap[k]? = some (.cells cur e (0, 0)) := by
  rcases h.2 with ⟨rfl, _⟩ | ⟨g, cap, cur, rfl, _, hg, _⟩
  · cases hk
  · simp [Value.ownBlock] at hk; subst hk; exact ⟨cur, hg⟩
theorem own_apart {B B' : Nat} {w : World} {e e' : TypeId} {c c' : Nat} {v v' : Value} {n n' : Nat} {xs xs' : List Value} (h : w.ownsRow B e c v n xs) (h' : w.ownsRow B' e' c' v' n' xs') (he : e ≠ e') {k : Nat} (hk : v.ownBlock = some k) : v'.ownBlock ≠ some k := by
  intro q
  obtain ⟨_, h1⟩ := own_kind h hk
  obtain ⟨_, h2⟩ := own_kind h' q
  rw [h1] at h2
  simp only [Option.some.injEq, Obj.cells.injEq] at h2
  exact he h2.2.1
theorem own_cell {B : Nat} {w : World} {e : TypeId} {c : Nat} {v : Value} {n : Nat} {xs : List Value} (h : w.ownsRow B e c v n xs) {g : Nat} (hg : v.ownBlock = some g) {j : Nat} {u : Value} (hj : xs[j]? = some u) : w.cell? ⟨g, j, none⟩ = some u := by
  have := World.ownsRow.cells h hg j u hj
  cases j <;> simpa [Addr.add] using this
theorem own_open {B : Nat} {w : World} {e : TypeId} {c : Nat} {v : Value} {n : Nat} {xs : List Value} (h : w.ownsRow B e c v n xs) (hn : 0 < n) : ∃ g cap, v = .slice (some ⟨g, 0, none⟩) n cap ∧ g < w.heap.size ∧ n ≤ cap ∧ w.frozen? ⟨g, 0, none⟩ = false := by
  rcases h.2 with ⟨_, h2⟩ | ⟨g, cap, cur, hv, _, hg, h1, _⟩
  · omega
  · exact ⟨g, cap, hv, lt_of_blk hg, h1, by simp [World.frozen?, hg]⟩
theorem own_slice {B : Nat} {w : World} {e : TypeId} {c : Nat} {v : Value} {n : Nat} {xs : List Value} (h : w.ownsRow B e c v n xs) : ∃ a cap, v = .slice a n cap := by
  rcases h.2 with ⟨h1, h2⟩ | ⟨g, cap, cur, hv, _⟩
  · exact ⟨none, 0, by rw [h1, h2]⟩
  · exact ⟨_, cap, hv⟩
theorem own_set {B : Nat} {w : World} {e : TypeId} {c : Nat} {v : Value} {n : Nat} {xs : List Value} (h : w.ownsRow B e c v n xs) {g : Nat} (hg : v.ownBlock = some g) {j : Nat} (u : Value) : (w.setCell ⟨g, j, none⟩ u).ownsRow B e c v n (xs.set j u) := by
  have h1 := h.1
  refine ⟨by simpa using h1, ?_⟩
  rcases h.2 with ⟨rfl, _⟩ | ⟨g', cap, cur, rfl, hB, hb, q1, q2, q3, q4⟩
  · cases hg
  · simp [Value.ownBlock] at hg
    subst hg
    refine Or.inr ⟨g', cap, cur.setIfInBounds j u, rfl, hB, by simp [World.setCell, Array.getElem?_modify, hb], q1, q2, by simpa using q3, ?_⟩
    rw [Array.toList_setIfInBounds, ← q4, List.take_set]
theorem own_frozen {B : Nat} {w : World} {e : TypeId} {c : Nat} {v : Value} {n : Nat} {xs : List Value} (h : w.ownsRow B e c v n xs) {g : Nat} (hg : v.ownBlock = some g) (j : Nat) : w.frozen? ⟨g, j, none⟩ = false := by
  obtain ⟨cur, hb⟩ := own_kind h hg
  simp [World.frozen?, hb]
structure Mv (w w' : World) (Z Z' : List Nat) : Prop where
  fr : Fr Z w w'
  place : ∀ x ∈ Z', x ∈ Z ∨ w.heap.size ≤ x
structure Res where
  Z : List Nat
  P : World → Prop
  keep : ∀ w w' S, P w → Fr S w w' → (∀ x ∈ Z, x ∉ S) → P w'
  lt : ∀ w, P w → ∀ x ∈ Z, x < w.heap.size
structure Env (w wr : World) (rs : List Res) : Prop where
  bel : Below w.heap.size w wr
  hold : ∀ r ∈ rs, r.P wr
  low : ∀ r ∈ rs, ∀ x ∈ r.Z, w.heap.size ≤ x
  dis : rs.Pairwise (fun r s => ∀ x ∈ r.Z, x ∉ s.Z)
theorem Env.nil (w : World) : Env w w [] := ⟨Below.refl _ _, by simp, by simp, List.Pairwise.nil⟩
theorem Env.new {w wr w1 : World} {rs : List Res} (h : Env w wr rs) (hb : Below wr.heap.size wr w1) : Env w w1 rs :=
  ⟨bw_tr h.bel hb, fun r hr => r.keep wr w1 [] (h.hold r hr) (Fr.ofBelow hb) (by simp), h.low, h.dis⟩
theorem Env.add {w wr w1 : World} {rs : List Res} (h : Env w wr rs) (r : Res) (hb : Below wr.heap.size wr w1) (hP : r.P w1) (hn : ∀ x ∈ r.Z, wr.heap.size ≤ x) : Env w w1 (r :: rs) := by
  have h1 := h.new hb
  refine ⟨h1.bel, ?_, ?_, ?_⟩
  · intro s hs
    rcases List.mem_cons.1 hs with rfl | hs
    · exact hP
    · exact h1.hold s hs
  · intro s hs x hx
    rcases List.mem_cons.1 hs with rfl | hs
    · have := hn x hx; have := h.bel.size; omega
    · exact h.low s hs x hx
  · refine List.Pairwise.cons (fun s hs x hx c => ?_) h.dis
    have := hn x hx
    have := s.lt wr (h.hold s hs) x c
    omega
theorem Env.step {w wr w1 : World} {r r' : Res} {rs : List Res} (h : Env w wr (r :: rs)) (hg : Mv wr w1 r.Z r'.Z) (hP : r'.P w1) : Env w w1 (r' :: rs) := by
  have hd := List.pairwise_cons.1 h.dis
  have hl : ∀ x ∈ r.Z, w.heap.size ≤ x := h.low r (by simp)
  refine ⟨Fr.toBase h.bel hg.fr hl, ?_, ?_, ?_⟩
  · intro s hs
    rcases List.mem_cons.1 hs with rfl | hs
    · exact hP
    · exact s.keep wr w1 r.Z (h.hold s (List.mem_cons_of_mem _ hs)) hg.fr (fun x hx c => hd.1 s hs x c hx)
  · intro s hs x hx
    rcases List.mem_cons.1 hs with rfl | hs
    · rcases hg.place x hx with c | c
      · exact hl x c
      · have := h.bel.size; omega
    · exact h.low s (List.mem_cons_of_mem _ hs) x hx
  · refine List.Pairwise.cons (fun s hs x hx c => ?_) hd.2
    rcases hg.place x hx with q | q
    · exact hd.1 s hs x q c
    · have := s.lt wr (h.hold s (List.mem_cons_of_mem _ hs)) x c; omega
theorem Env.drop {w wr : World} {r : Res} {rs : List Res} (h : Env w wr (r :: rs)) : Env w wr rs :=
  ⟨h.bel, fun q hq => h.hold q (List.mem_cons_of_mem _ hq), fun q hq => h.low q (List.mem_cons_of_mem _ hq), (List.pairwise_cons.1 h.dis).2⟩
theorem Env.hd {w wr : World} {r : Res} {rs : List Res} (h : Env w wr (r :: rs)) : r.P wr := h.hold r (by simp)
end Go.Proofs.YtgmlkofogeoocaaGreatDoor

/- Trees in memory: to be read, and of one's own. No walk is in this text. -/
namespace Go.Proofs.YtgmlkofogeoocaaGreatDoor
open Go.RowKit Go.Maps
structure NdC (w : World) (b o : Nat) (n : Nd) (u : Value) : Prop where
  c0 : w.cell? ⟨b, o, none⟩ = some (.int .i64 n.pub)
  c1 : w.cell? ⟨b, o + 1, none⟩ = some (.int .i64 n.mem)
  c2 : w.cell? ⟨b, o + 2, none⟩ = some (.int .i64 n.ep)
  c3 : w.cell? ⟨b, o + 3, none⟩ = some u
structure Trd (w : World) (v : Value) (T : List Nd) : Prop where
  len : T.length ≤ 140737488355328
  unl : ∀ n ∈ T, n.un.length ≤ 140737488355328
  form : (T = [] ∧ ∃ a c, v = .slice a 0 c) ∨ ∃ b o c, v = .slice (some ⟨b, o, none⟩) T.length c ∧ b < w.heap.size ∧ ∀ i n, T[i]? = some n → ∃ u, NdC w b (o + i * 4) n u ∧ Nums w u n.un
theorem NdC.bw {w w' : World} {b o : Nat} {n : Nd} {u : Value} (h : NdC w b o n u) (hB : b < w.heap.size) (hb : Below w.heap.size w w') : NdC w' b o n u := by
  obtain ⟨h0, h1, h2, h3⟩ := h
  exact ⟨by rw [hb.cell (p := ⟨b, o, none⟩) hB]; exact h0, by rw [hb.cell (p := ⟨b, o + 1, none⟩) hB]; exact h1, by rw [hb.cell (p := ⟨b, o + 2, none⟩) hB]; exact h2, by rw [hb.cell (p := ⟨b, o + 3, none⟩) hB]; exact h3⟩
theorem Trd.bw {w w' : World} {v : Value} {T : List Nd} (h : Trd w v T) (hb : Below w.heap.size w w') : Trd w' v T := by
  refine ⟨h.len, h.unl, ?_⟩
  rcases h.form with c | ⟨b, o, c, hv, hB, hc⟩
  · exact Or.inl c
  · refine Or.inr ⟨b, o, c, hv, Nat.lt_of_lt_of_le hB hb.size, fun i n hi => ?_⟩
    obtain ⟨u, h1, h2⟩ := hc i n hi
    exact ⟨u, h1.bw hB hb, h2.bw hb⟩
theorem Trd.slice {w : World} {v : Value} {T : List Nd} (h : Trd w v T) : ∃ a c, v = .slice a T.length c := by
  rcases h.form with ⟨rfl, a, c, rfl⟩ | ⟨b, o, c, hv, _⟩
  · exact ⟨a, c, rfl⟩
  · exact ⟨_, c, hv⟩
theorem Trd.at {w : World} {a : Option Addr} {N c : Nat} {T : List Nd} (h : Trd w (.slice a N c) T) : N = T.length ∧ (0 < T.length → ∃ b o, a = some ⟨b, o, none⟩ ∧ ∀ w', Below w.heap.size w w' → ∀ i, i < T.length → ∃ u, NdC w' b (o + i * 4) (ndAt T i) u ∧ Nums w' u (ndAt T i).un) := by
  rcases h.form with ⟨rfl, a', c', hv⟩ | ⟨b, o, c', hv, hB, hc⟩
  · cases hv; exact ⟨rfl, fun h => by simp at h⟩
  · cases hv
    refine ⟨rfl, fun _ => ⟨b, o, rfl, fun w' hb i hi => ?_⟩⟩
    have hi' : T[i]? = some (ndAt T i) := by unfold ndAt; rw [List.getD_eq_getElem?_getD, List.getElem?_eq_getElem hi]; rfl
    obtain ⟨u, h1, h2⟩ := hc i _ hi'
    exact ⟨u, h1.bw hB hb, h2.bw hb⟩
theorem nums_slice {w : World} {v : Value} {l : List Int} (h : Nums w v l) : ∃ a c, v = .slice a l.length c := by
  rcases h with ⟨rfl, a, c, rfl, _⟩ | ⟨g, o, cap, rfl, h1, h2, _⟩
  · exact ⟨a, c, rfl⟩
  · exact ⟨_, cap, rfl⟩
theorem ndAt_of {T : List Nd} {i : Nat} (hi : i < T.length) : T[i]? = some (ndAt T i) := by
  unfold ndAt; rw [List.getD_eq_getElem?_getD, List.getElem?_eq_getElem hi]; rfl
theorem ndAt_mem {T : List Nd} {i : Nat} (hi : i < T.length) : ndAt T i ∈ T := List.mem_of_getElem? (ndAt_of hi)
def ndC (n : Nd) (u : Value) : List Value := [.int .i64 n.pub, .int .i64 n.mem, .int .i64 n.ep, u]
def treeC (T : List Nd) (us : List Value) : List Value := (List.zipWith ndC T us).flatten
theorem treeC_cons (n : Nd) (T : List Nd) (u : Value) (us : List Value) : treeC (n :: T) (u :: us) = ndC n u ++ treeC T us := rfl
theorem treeC_len {T : List Nd} {us : List Value} (h : us.length = T.length) : (treeC T us).length = T.length * 4 := by
  induction T generalizing us with
  | nil => rfl
  | cons n T ih =>
    cases us with
    | nil => simp at h
    | cons u us => rw [treeC_cons, List.length_append, ih (by simpa using h)]; simp [ndC]; omega
theorem treeC_get {T : List Nd} {us : List Value} {i j : Nat} {n : Nd} {u x : Value} (hn : T[i]? = some n) (hu : us[i]? = some u) (hx : (ndC n u)[j]? = some x) : (treeC T us)[i * 4 + j]? = some x := by
  induction T generalizing us i with
  | nil => simp at hn
  | cons m T ih =>
    cases us with
    | nil => simp at hu
    | cons v us =>
      rw [treeC_cons]
      cases i with
      | zero =>
        simp at hn hu; subst hn hu
        rw [Nat.zero_mul, Nat.zero_add, List.getElem?_append_left ((List.getElem?_eq_some_iff.1 hx).1)]; exact hx
      | succ i =>
        have hm : (ndC m v).length = 4 := rfl
        rw [List.getElem?_append_right (by omega), hm, show (i + 1) * 4 + j - 4 = i * 4 + j by omega]
        exact ih (by simpa using hn) (by simpa using hu)
structure OTr (B : Nat) (w : World) (v : Value) (T : List Nd) (us : List Value) : Prop where
  ul : us.length = T.length
  row : w.ownsRow B 57 4 v T.length (treeC T us)
  un : ∀ (i : Nat) (n : Nd) (u : Value), T[i]? = some n → us[i]? = some u → Ints B w u n.un
  apart : ∀ (i j : Nat) (u u' : Value) (k : Nat), us[i]? = some u → us[j]? = some u' → u.ownBlock = some k → u'.ownBlock = some k → i = j
theorem OTr.trd {B : Nat} {w : World} {v : Value} {T : List Nd} {us : List Value} (h : OTr B w v T us) (hl : T.length ≤ 140737488355328) (hu : ∀ n ∈ T, n.un.length ≤ 140737488355328) : Trd w v T := by
  refine ⟨hl, hu, ?_⟩
  rcases Nat.eq_zero_or_pos T.length with h0 | h0
  · obtain ⟨a, c, hv⟩ := own_slice h.row
    exact Or.inl ⟨List.eq_nil_of_length_eq_zero h0, a, c, by rw [hv, h0]⟩
  · obtain ⟨g, cap, hv, hg, hc, _⟩ := own_open h.row h0
    refine Or.inr ⟨g, 0, cap, hv, hg, fun i n hi => ?_⟩
    have hlt : i < us.length := by rw [h.ul]; exact (List.getElem?_eq_some_iff.1 hi).1
    have hu : us[i]? = some us[i] := List.getElem?_eq_getElem hlt
    have e : v.ownBlock = some g := by rw [hv]; rfl
    refine ⟨us[i], ⟨?_, ?_, ?_, ?_⟩, (h.un i n _ hi hu).nums⟩
    · simpa using own_cell h.row e (treeC_get hi hu (j := 0) rfl)
    · simpa using own_cell h.row e (treeC_get hi hu (j := 1) rfl)
    · simpa using own_cell h.row e (treeC_get hi hu (j := 2) rfl)
    · simpa using own_cell h.row e (treeC_get hi hu (j := 3) rfl)
end Go.Proofs.YtgmlkofogeoocaaGreatDoor

/- Contracts of what package tree asks of a tree by itself: leaves, blank, hasLeaf, anyMember, members, find, firstBlank, withRoom. -/
namespace Go.Proofs.YtgmlkofogeoocaaGreatDoor
open Go.RowKit Go.Maps
theorem bwA (w : World) (o : Obj) : Below w.heap.size w (w.alloc o) := (Below.refl _ _).alloc (Nat.le_refl _) _
theorem leaves_any (a : Option Addr) (N c : Nat) (w : World) (hN : N ≤ 140737488355328) :
    Calls Tryz.prog 77 #[.agg #[.slice a N c]] w fun e w' => e = .returned (.int .i64 (((N + 1) / 2 : Nat) : Int)) ∧ Below w.heap.size w w' := by
  go_enter Tryz.func77, Tryz.ntmps77
  go_wp2
  go_ret
  exact ⟨by simp, bwA _ _⟩
set_option maxHeartbeats 1000000 in
theorem blank_any {w : World} {v : Value} {T : List Nd} (h : Trd w v T) {x : Nat} (hx : x < T.length) :
    Calls Tryz.prog 82 #[.agg #[v], .int .i64 (x : Int)] w fun e w' => e = .returned (.bool (!pos (ndAt T x))) ∧ Below w.heap.size w w' := by
  obtain ⟨a, c, rfl⟩ := h.slice
  obtain ⟨-, h2⟩ := h.at
  obtain ⟨b, o, rfl, h3⟩ := h2 (by omega)
  obtain ⟨u, ⟨c0, -, -, -⟩, -⟩ := h3 _ (bwA w (.cells #[.slice (some ⟨b, o, none⟩) T.length c] 30)) x hx
  have e : (!pos (ndAt T x)) = ((ndAt T x).pub == 0) := by unfold pos; simp [bne]
  rw [e]
  generalize (ndAt T x).pub = p at *
  have hl := h.len
  generalize T.length = N at *
  have x1 : (x : Int) < (N : Int) := by omega
  have x2 : (0 : Int) ≤ (x : Int) := by omega
  clear h h2 h3 e
  go_enter Tryz.func82, Tryz.ntmps82
  go_wp2
  go_ret
  exact ⟨rfl, bwA _ _⟩
end Go.Proofs.YtgmlkofogeoocaaGreatDoor

/- Rows of structs of numbers, commits and logs in memory, as they came in: what they read as. No walk is in this text. -/
namespace Go.Proofs.YtgmlkofogeoocaaGreatDoor
open Go.RowKit Go.Maps
structure RI (c : Nat) (w : World) (v : Value) (l : List (List Int)) : Prop where
  len : l.length ≤ 140737488355328
  fit : ∀ x ∈ l, x.length = c ∧ ∀ z ∈ x, -9223372036854775808 ≤ z ∧ z ≤ 9223372036854775807
  form : ∃ a cap, v = .slice a l.length cap ∧ (l = [] ∨ ∃ g o, a = some ⟨g, o, none⟩ ∧ ∀ i x, l[i]? = some x → ∀ j z, x[j]? = some z → w.cell? ⟨g, o + i * c + j, none⟩ = some (.int .i64 z))
theorem RI.bw {c : Nat} {w w' : World} {v : Value} {l : List (List Int)} (h : RI c w v l) (hb : Below w.heap.size w w') : RI c w' v l := by
  obtain ⟨h1, h2, a, cap, rfl, hc⟩ := h
  refine ⟨h1, h2, a, cap, rfl, ?_⟩
  rcases hc with hc | ⟨g, o, rfl, hc⟩
  · exact Or.inl hc
  · refine Or.inr ⟨g, o, rfl, fun i x hi j z hj => ?_⟩
    have := hc i x hi j z hj
    rw [hb.cell (World.block_lt_of_cell? w _ this)]
    exact this
theorem RI.slice {c : Nat} {w : World} {v : Value} {l : List (List Int)} (h : RI c w v l) : ∃ a cap, v = .slice a l.length cap := by obtain ⟨a, cap, h, _⟩ := h.form; exact ⟨a, cap, h⟩
theorem RI.nil (c : Nat) (w : World) : RI c w (.slice none 0 0) [] := ⟨by simp, by simp, none, 0, rfl, Or.inl rfl⟩
structure Cm where
  gr : Int
  ep : Int
  dev : Int
  mem : Int
  ke : Int
  ext : Bool
  adds : List (List Int)
  rem : List Int
  seals : List (List Int)
  joins : List (List Int)
  own : Int
  ent : Int
  next : List Nd
  face : Int
  card : Int
structure Cv where
  av : Value
  rv : Value
  qv : Value
  jv : Value
  nv : Value
def cmC (c : Cm) (x : Cv) : List Value := [.int .i64 c.gr, .int .i64 c.ep, .int .i64 c.dev, .int .i64 c.mem, .int .i64 c.ke, .bool c.ext, x.av, x.rv, x.qv, x.jv, .int .i64 c.own, .int .i64 c.ent, x.nv, .int .i64 c.face, .int .i64 c.card]
def cmV (c : Cm) (x : Cv) : Value := .agg (cmC c x).toArray
structure CmR (w : World) (c : Cm) (x : Cv) : Prop where
  adds : RI 3 w x.av c.adds
  rem : Nums w x.rv c.rem
  rlen : c.rem.length ≤ 140737488355328
  seals : RI 3 w x.qv c.seals
  joins : RI 2 w x.jv c.joins
  next : Trd w x.nv c.next
theorem CmR.bw {w w' : World} {c : Cm} {x : Cv} (h : CmR w c x) (hb : Below w.heap.size w w') : CmR w' c x := ⟨h.adds.bw hb, h.rem.bw hb, h.rlen, h.seals.bw hb, h.joins.bw hb, h.next.bw hb⟩
end Go.Proofs.YtgmlkofogeoocaaGreatDoor

/- Contracts of what package tree asks of a tree by itself, continued. -/
namespace Go.Proofs.YtgmlkofogeoocaaGreatDoor
open Go.RowKit Go.Maps
abbrev bxw (w : World) (v : Value) : World := w.alloc (.cells #[v] 30)
theorem bx_cell {w w1 : World} {v : Value} (hb : Below (bxw w v).heap.size (bxw w v) w1) : w1.cell? ⟨w.heap.size, 0, none⟩ = some v := by
  have e : w1.heap[w.heap.size]? = some (.cells #[v] 30 (0, 0)) := by rw [hb.block _ (by simp)]; exact heap_alloc_new _ _
  simp [World.cell?, e]
theorem bx_bel {w w1 : World} {v : Value} (hb : Below (bxw w v).heap.size (bxw w v) w1) : Below w.heap.size w w1 := bw_tr (bwA _ _) hb
theorem anyM_succ (T : List Nd) (a i : Nat) : anyM T a (i + 1) = (anyM T a i || (decide (a ≤ i) && pos (ndAt T (2 * i)))) := by
  unfold anyM; rw [List.range_succ, List.any_append]; simp
theorem anyM_self (T : List Nd) (a : Nat) : anyM T a a = false := by
  unfold anyM; rw [List.any_eq_false]; intro x hx; have := List.mem_range.1 hx; simp; intro; omega
theorem anyM_mono {T : List Nd} {a i b : Nat} (h : anyM T a i = true) (hb : i ≤ b) : anyM T a b = true := by
  unfold anyM at *
  rw [List.any_eq_true] at *
  obtain ⟨x, hx, h2⟩ := h
  exact ⟨x, by have := List.mem_range.1 hx; exact List.mem_range.2 (by omega), h2⟩
set_option maxHeartbeats 1000000 in
theorem anyMember_any {w : World} {v : Value} {T : List Nd} (h : Trd w v T) (hs : T.length ≤ 15) (a b : Nat) (hab : a ≤ b) (hb : b ≤ nlv T) :
    Calls Tryz.prog 81 #[.agg #[v], .int .i64 (a : Int), .int .i64 (b : Int)] w fun e w' => e = .returned (.bool (anyM T a b)) ∧ Below w.heap.size w w' := by
  have hl := h.len
  have hnl : nlv T = (T.length + 1) / 2 := rfl
  have KB : ∀ W, Below w.heap.size w W → ∀ x : Nat, x < T.length → _ := fun W hW x hx => blank_any (h.bw hW) hx
  have HX : Hid (∀ i, i < b → 2 * i < T.length) := fun i hi => by omega
  have hb2 : b ≤ 8 := by omega
  clear h hl hnl hb
  go_enter Tryz.func81, Tryz.ntmps81
  go_wp2_with fail
  go_loopw [7] (fun iv wr => ∃ i : Nat, iv = .int .i64 (i : Int) ∧ a ≤ i ∧ i ≤ b ∧ Hid (anyM T a i = false) ∧ Below (bxw w v).heap.size (bxw w v) wr) (fun iv _ => (b - (intOf iv)).toNat)
  case atStart => exact ⟨a, rfl, Nat.le_refl _, hab, anyM_self T a, Below.refl _ _⟩
  case round =>
    obtain ⟨i, rfl, hai, hi, hno, hbel⟩ := hrel
    by_cases hin : i < b
    · have q1 : (i : Int) < (b : Int) := by omega
      obtain ⟨x, hx⟩ : ∃ x : Nat, x = 2 * i := ⟨_, rfl⟩
      have q2 : (2 * (i : Int)) = (x : Int) := by omega
      have KB2 := KB wr (bx_bel hbel) x (by rw [hx]; exact unhide HX i hin)
      have c1 := bx_cell hbel
      have HP : Hid (anyM T a (i + 1) = pos (ndAt T x)) := by unfold Hid; rw [anyM_succ, unhide hno, decide_eq_true hai, hx]; simp
      clear hx
      generalize pos (ndAt T x) = p at *
      go_wp2_with fail
      refine KB2.mono ?_
      rintro e w1 ⟨rfl, b1⟩
      cases p
      · go_wp2_with fail
        go_roundw
        case rel => exact ⟨i + 1, by go_num, by omega, by omega, HP, bw_tr hbel b1⟩
        case measure => simp [intOf]; omega
      · go_wp2
        go_ret
        rw [anyM_mono (unhide HP) (by omega)]
        exact ⟨rfl, bw_tr (bx_bel hbel) b1⟩
    · have hie : i = b := by omega
      subst hie
      go_wp2_with fail
      go_ret
      rw [unhide hno]
      exact ⟨rfl, bx_bel hbel⟩
theorem lvs_len (T : List Nd) : (lvs T).length = nlv T := by simp [lvs]
theorem lvs_get {T : List Nd} {i : Nat} (h : i < nlv T) : (lvs T)[i]? = some (ndAt T (2 * i)) := by simp [lvs, h]
theorem lvs_take {T : List Nd} {i : Nat} (h : i < nlv T) : (lvs T).take (i + 1) = (lvs T).take i ++ [ndAt T (2 * i)] := by rw [List.take_add_one, lvs_get h]; rfl
theorem memsOf_snoc (L : List Nd) (n : Nd) : memsOf (L ++ [n]) = memsOf L ++ if pos n = true then [n.mem] else [] := by
  unfold memsOf; rw [List.filter_append, List.map_append]; cases h : pos n <;> simp [h]
theorem memsOf_len (L : List Nd) : (memsOf L).length ≤ L.length := by unfold memsOf; rw [List.length_map]; exact List.length_filter_le _ _
set_option maxRecDepth 100000 in
set_option maxHeartbeats 1000000 in
theorem members_any {w : World} {v : Value} {T : List Nd} (h : Trd w v T) (hs : T.length ≤ 15) :
    Calls Tryz.prog 70 #[.agg #[v]] w fun e w' => ∃ r, e = .returned r ∧ Ints w.heap.size w' r (mems T) ∧ Below w.heap.size w w' := by
  obtain ⟨i0, hi, hz0, hz1, hz2⟩ := info_parts Tryz.infoInt
  obtain ⟨a, c, rfl⟩ := h.slice
  have hl := h.len
  have KL := leaves_any a T.length c (bxw w (.slice a T.length c)) hl
  have KB : ∀ W, Below w.heap.size w W → ∀ x : Nat, x < T.length → _ := fun W hW x hx => blank_any (h.bw hW) hx
  obtain ⟨-, h2⟩ := h.at
  have HX : Hid (∀ i, i < nlv T → 2 * i < T.length) := fun i hi => by unfold nlv at hi; omega
  have HC : Hid (∀ i, i < nlv T → ∃ b o, a = some ⟨b, o, none⟩ ∧ ∀ W, Below w.heap.size w W → W.cell? ⟨b, o + 2 * i * 4 + 1, none⟩ = some (.int .i64 (ndAt T (2 * i)).mem)) := fun i hi => by
    have hx := unhide HX i hi
    obtain ⟨b, o, e, h3⟩ := h2 (by omega)
    exact ⟨b, o, e, fun W hW => by obtain ⟨u, k, _⟩ := h3 W hW (2 * i) hx; exact k.c1⟩
  have hnl : nlv T = (T.length + 1) / 2 := rfl
  rw [← hnl] at KL
  have hn8 : nlv T ≤ 8 := by omega
  have HL : Hid (∀ i, i < nlv T → memsOf ((lvs T).take (i + 1)) = memsOf ((lvs T).take i) ++ if pos (ndAt T (2 * i)) = true then [(ndAt T (2 * i)).mem] else []) := fun i hi => by rw [lvs_take hi, memsOf_snoc]
  have HE : Hid (memsOf ((lvs T).take (nlv T)) = mems T) := by unfold Hid mems; rw [← lvs_len, List.take_length]
  have HN : Hid (∀ i, (memsOf ((lvs T).take i)).length ≤ i) := fun i => Nat.le_trans (memsOf_len _) (by simp; omega)
  have hN15 : (T.length : Int) ≤ 15 := by omega
  clear hl h h2 hnl hs
  generalize hnn : nlv T = n at *
  clear hnn
  generalize T.length = N at *
  go_enter Tryz.func70, Tryz.ntmps70
  go_wp2_with fail
  refine KL.mono ?_
  rintro e w1 ⟨rfl, b1⟩
  go_wp2_with fail
  go_loopw [3, 7] (fun lv iv wr => ∃ i : Nat, iv = .int .i64 (i : Int) ∧ i ≤ n ∧ Ints (bxw w (.slice a N c)).heap.size wr lv (memsOf ((lvs T).take i)) ∧ Below (bxw w (.slice a N c)).heap.size (bxw w (.slice a N c)) wr) (fun _ iv _ => (n - (intOf iv)).toNat)
  case atStart => exact ⟨0, rfl, by omega, ints_nil _ _, b1⟩
  case round =>
    obtain ⟨i, rfl, hin, hown, hbel⟩ := hrel
    clear b1 KL
    by_cases hlt : i < n
    · have q1 : (i : Int) < (n : Int) := by omega
      have hx := unhide HX i hlt
      have KB2 := KB wr (bx_bel hbel) (2 * i) hx
      have c1 := bx_cell hbel
      have hlen := unhide HN i
      have HL2 := hide (unhide HL i hlt)
      obtain ⟨b, o, rfl, hC⟩ := unhide HC i hlt
      have q2 : ∃ x : Nat, x = 2 * i := ⟨_, rfl⟩
      obtain ⟨x, q2⟩ := q2
      rw [← q2] at hx KB2 HL2 hC
      have q3 : (2 * (i : Int)) = (x : Int) := by omega
      clear q2
      generalize (ndAt T x).mem = m at *
      generalize pos (ndAt T x) = p at *
      generalize memsOf ((lvs T).take i) = cur at *
      go_wp2_with fail
      refine KB2.mono ?_
      rintro e w2 ⟨rfl, b2⟩
      have hbel2 := bw_tr hbel b2
      have hown2 := hown.bw b2
      cases p
      · go_wp2_with fail
        go_roundw
        case rel => exact ⟨i + 1, by go_num, by omega, by have := unhide HL2; simp at this; rw [this]; exact hown2, hbel2⟩
        case measure => simp [intOf]; omega
      · have c2 := bx_cell hbel2
        have c3 := hC w2 (bx_bel hbel2)
        have x1 : (x : Int) < (N : Int) := by omega
        have x2 : (0 : Int) ≤ (x : Int) := by omega
        have hsz := hbel2.size
        have hlen2 : cur.length ≤ 8 := by omega
        have HL3 : Hid (memsOf ((lvs T).take (i + 1)) = cur ++ [m]) := by have := unhide HL2; unfold Hid; simpa using this
        clear hC c1 KB2 hown HL2 hlen
        go_wp2_with (at_builtin; refine wpList_append_own _ rfl (.tmp 15) (.tmp 23) 38 rfl (bxw w (.slice (some ⟨b, o, none⟩) N c)).heap.size 3 i0 (.int .i64 0) 1 8 Tryz.underlying38 hi hz0 hz1 hz2 rfl (by decide) _ cur.length _ rfl (World.ownsRow.alloc hown2 _) ⟨w2.heap.size, 0, none⟩ 1 1 [_] rfl rfl (cell_one_new _ _ _) ?c2 ?c3 ?c4 ?c5 ?nx)
        case c2 => intro u hu; simp at hu; subst hu; rfl
        case c3 => unfold maxLen; omega
        case c4 => omega
        case c5 => simp; simp at hsz; omega
        case nx =>
          intro v' w3 hown' hgrow _
          obtain ⟨R1, R2⟩ := ints_snoc m hbel2 hown2 (by simpa using hown') hgrow
          clear hown' hgrow
          go_wp2_with fail
          go_roundw
          case rel => exact ⟨i + 1, by go_num, by omega, by rw [unhide HL3]; exact R1, R2⟩
          case measure => simp [intOf]; omega
    · have hie : i = n := by omega
      subst hie
      rw [unhide HE] at hown
      go_wp2_with fail
      go_ret
      exact ⟨_, rfl, hown.mono (by simp), bx_bel hbel⟩
theorem fnd_hit {T : List Nd} {m : Int} {i : Nat} (hi : i < nlv T) (hno : ∀ j, j < i → hit m (ndAt T (2 * j)) = false) (h : hit m (ndAt T (2 * i)) = true) : fnd T m = (i : Nat) := by
  have e : (lvs T).findIdx (hit m) = i := by
    rw [List.findIdx_eq (by rw [lvs_len]; exact hi)]
    refine ⟨by simpa [lvs] using h, fun j hj => by simpa [lvs] using hno j hj⟩
  unfold fnd; rw [e, if_pos hi]
theorem fnd_none {T : List Nd} {m : Int} (hno : ∀ j, j < nlv T → hit m (ndAt T (2 * j)) = false) : fnd T m = -1 := by
  have e : (lvs T).findIdx (hit m) = (lvs T).length := by
    rw [List.findIdx_eq_length]
    intro n hn
    simp only [lvs, List.mem_map, List.mem_range] at hn
    obtain ⟨j, hj, rfl⟩ := hn
    simpa using hno j hj
  unfold fnd; rw [e, lvs_len, if_neg (by omega)]
set_option maxRecDepth 100000 in
set_option maxHeartbeats 1000000 in
theorem find_any {w : World} {v : Value} {T : List Nd} (h : Trd w v T) (hs : T.length ≤ 15) (m : Int) :
    Calls Tryz.prog 54 #[.agg #[v], .int .i64 m] w fun e w' => e = .returned (.int .i64 (fnd T m)) ∧ Below w.heap.size w w' := by
  obtain ⟨a, c, rfl⟩ := h.slice
  have hl := h.len
  obtain ⟨w0, hw0⟩ : ∃ w0, w0 = bxw w (.slice a T.length c) := ⟨_, rfl⟩
  have HB : Hid (∀ W, Below w0.heap.size w0 W → W.cell? ⟨w.heap.size, 0, none⟩ = some (.slice a T.length c) ∧ Below w.heap.size w W) := fun W hW => by subst hw0; exact ⟨bx_cell hW, bx_bel hW⟩
  have KL := leaves_any a T.length c w0 hl
  have KB : ∀ W, Below w.heap.size w W → ∀ x : Nat, x < T.length → _ := fun W hW x hx => blank_any (h.bw hW) hx
  obtain ⟨-, h2⟩ := h.at
  have HX : Hid (∀ i, i < nlv T → 2 * i < T.length) := fun i hi => by unfold nlv at hi; omega
  have HC : Hid (∀ i, i < nlv T → ∃ b o, a = some ⟨b, o, none⟩ ∧ ∀ W, Below w.heap.size w W → W.cell? ⟨b, o + 2 * i * 4 + 1, none⟩ = some (.int .i64 (ndAt T (2 * i)).mem)) := fun i hi => by
    have hx := unhide HX i hi
    obtain ⟨b, o, e, h3⟩ := h2 (by omega)
    exact ⟨b, o, e, fun W hW => by obtain ⟨u, k, _⟩ := h3 W hW (2 * i) hx; exact k.c1⟩
  have hnl : nlv T = (T.length + 1) / 2 := rfl
  rw [← hnl] at KL
  have hn8 : nlv T ≤ 8 := by omega
  have HR1 : Hid (∀ i, i < nlv T → (∀ j, j < i → hit m (ndAt T (2 * j)) = false) → hit m (ndAt T (2 * i)) = true → fnd T m = (i : Nat)) := fun i hi h1 h2 => fnd_hit hi h1 h2
  have HR2 : Hid ((∀ j, j < nlv T → hit m (ndAt T (2 * j)) = false) → fnd T m = -1) := fnd_none
  have hN15 : (T.length : Int) ≤ 15 := by omega
  have HW : Hid (w0 = w.alloc (.cells #[.slice a T.length c] 30)) := hw0
  clear hl h h2 hnl hs hw0
  generalize hnn : nlv T = n at *
  clear hnn
  obtain ⟨N, hN⟩ : ∃ N, N = T.length := ⟨_, rfl⟩
  rw [← hN] at KL HB HW hN15
  go_enter Tryz.func54, Tryz.ntmps54
  go_wp2_with fail
  rw [← hN, ← unhide HW]
  refine KL.mono ?_
  rintro e w1 ⟨rfl, b1⟩
  simp only [← hN] at KB HX
  clear hN
  go_wp2_with fail
  go_loopw [8] (fun iv wr => ∃ i : Nat, iv = .int .i64 (i : Int) ∧ i ≤ n ∧ Hid (∀ j, j < i → hit m (ndAt T (2 * j)) = false) ∧ Below w0.heap.size w0 wr) (fun iv _ => (n - (intOf iv)).toNat)
  case atStart => exact ⟨0, rfl, by omega, fun j hj => by omega, b1⟩
  case round =>
    obtain ⟨i, rfl, hin, hno, hbel⟩ := hrel
    clear b1 KL
    obtain ⟨c1, hbw⟩ := unhide HB _ hbel
    by_cases hlt : i < n
    · have q1 : (i : Int) < (n : Int) := by omega
      have hx := unhide HX i hlt
      have KB2 := KB wr hbw (2 * i) hx
      have HT1 := hide (unhide HR1 i hlt (unhide hno))
      have HN1 : Hid (hit m (ndAt T (2 * i)) = false → ∀ j, j < i + 1 → hit m (ndAt T (2 * j)) = false) := fun q j hj => by
        rcases Nat.lt_or_ge j i with c | c
        · exact unhide hno j c
        · obtain rfl : j = i := by omega
          exact q
      obtain ⟨b, o, rfl, hC⟩ := unhide HC i hlt
      have hh : Hid (hit m (ndAt T (2 * i)) = (pos (ndAt T (2 * i)) && (ndAt T (2 * i)).mem == m)) := rfl
      obtain ⟨x, q2⟩ : ∃ x : Nat, x = 2 * i := ⟨_, rfl⟩
      rw [← q2] at hx KB2 hC HT1 HN1 hh
      have q3 : (2 * (i : Int)) = (x : Int) := by omega
      clear q2
      generalize (ndAt T x).mem = mm at *
      generalize hit m (ndAt T x) = hm at *
      generalize pos (ndAt T x) = p at *
      have x1 : (x : Int) < (N : Int) := by omega
      have x2 : (0 : Int) ≤ (x : Int) := by omega
      go_wp2_with fail
      refine KB2.mono ?_
      rintro e w2 ⟨rfl, b2⟩
      have hbel2 := bw_tr hbel b2
      obtain ⟨c2, hbw2⟩ := unhide HB _ hbel2
      have c3 := hC _ hbw2
      clear hC KB2 c1
      cases p
      · go_wp2_with fail
        go_roundw
        case rel => exact ⟨i + 1, by go_num, by omega, unhide HN1 (by rw [unhide hh]; rfl), hbel2⟩
        case measure => simp [intOf]; omega
      · by_cases hmm : mm = m
        · have k1 : (mm == m) = true := by simp [hmm]
          have HF := hide (unhide HT1 (by rw [unhide hh, k1]; rfl))
          clear k1 hh HT1 HN1
          go_wp2_with fail
          go_ret
          rw [unhide HF]
          exact ⟨rfl, hbw2⟩
        · have k1 : (mm == m) = false := by simp [hmm]
          have HF := hide (unhide HN1 (by rw [unhide hh, k1]; rfl))
          go_wp2_with fail
          go_roundw
          case rel => exact ⟨i + 1, by go_num, by omega, HF, hbel2⟩
          case measure => simp [intOf]; omega
    · have hie : i = n := by omega
      subst hie
      have HF := hide (unhide HR2 (unhide hno))
      go_wp2_with fail
      go_ret
      rw [unhide HF]
      exact ⟨rfl, hbw⟩
end Go.Proofs.YtgmlkofogeoocaaGreatDoor
