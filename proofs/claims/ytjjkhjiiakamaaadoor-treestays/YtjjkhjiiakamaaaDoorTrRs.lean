/- Frames, rows of any kind, and resources that lie apart, behind layer 2. No walk is in this text. -/
import Derived.Test.YtjjkhjiiakamaaaDoorIxJoin
import Derived.Test.YtjjkhjiiakamaaaDoorIxList
import Derived.WalkKit
import Derived.WalkSpells
import Derived.WalkLawsBesides
import Derived.WalkSmall
import Derived.Maps.OwnSet
import Derived.Maps.RangeWalk
import Derived.Maps.AppendAt
import Derived.BigQuiet
import Derived.Deep.MidRow
import Derived.Deep.WholeRow
import Derived.Deep.RegionHeld3
import Derived.Deep.Cut
import Derived.Deep.QuietTactic
import Derived.Deep.RegionLaw
import Derived.Deep.RegionWith
import Derived.Laws.IdiomStrings
import Derived.Laws.EntriesVeiled
namespace Go.Proofs.YtjjkhjiiakamaaaDoor
open Go.RowKit Go.Maps


/-- The world w' is as w was but for the blocks of S and new ones. -/
structure Fr (S : List Nat) (w w' : World) : Prop where
  os : w'.os = w.os
  tape : w'.tape = w.tape
  output : w'.output = w.output
  size : w.heap.size ≤ w'.heap.size
  block : ∀ k, k < w.heap.size → k ∉ S → w'.heap[k]? = w.heap[k]?

theorem Fr.refl (S : List Nat) (w : World) : Fr S w w := ⟨rfl, rfl, rfl, Nat.le_refl _, fun _ _ _ => rfl⟩
theorem Fr.trans {S S' T : List Nat} {w w1 w2 : World} (h : Fr S w w1) (k : Fr S' w1 w2) (h1 : ∀ x, x < w.heap.size → x ∈ S → x ∈ T) (h2 : ∀ x, x < w.heap.size → x ∈ S' → x ∈ T) : Fr T w w2 :=
  ⟨k.os.trans h.os, k.tape.trans h.tape, k.output.trans h.output, Nat.le_trans h.size k.size,
   fun x hx hn => (k.block x (Nat.lt_of_lt_of_le hx h.size) (fun c => hn (h2 x hx c))).trans (h.block x hx (fun c => hn (h1 x hx c)))⟩
theorem Fr.mono {S T : List Nat} {w w1 : World} (h : Fr S w w1) (h1 : ∀ x, x < w.heap.size → x ∈ S → x ∈ T) : Fr T w w1 :=
  ⟨h.os, h.tape, h.output, h.size, fun x hx hn => h.block x hx (fun c => hn (h1 x hx c))⟩
theorem Fr.tr {S : List Nat} {w w1 w2 : World} (h : Fr S w w1) (k : Fr S w1 w2) : Fr S w w2 := h.trans k (fun _ _ c => c) (fun _ _ c => c)
theorem Fr.alloc {S : List Nat} {w w1 : World} (h : Fr S w w1) (o : Obj) : Fr S w (w1.alloc o) :=
  h.tr ⟨rfl, rfl, rfl, by simp, fun k hk _ => Below.heap_alloc _ _ _ hk⟩
theorem Fr.setCell {S : List Nat} {w w1 : World} (h : Fr S w w1) {a : Addr} (ha : w.heap.size ≤ a.block ∨ a.block ∈ S) (u : Value) : Fr S w (w1.setCell a u) :=
  h.trans (S' := [a.block]) ⟨rfl, rfl, rfl, by simp [World.setCell], fun k _ hn => Below.heap_setCell _ _ _ _ (by simpa using hn)⟩ (fun _ _ c => c)
    (fun x hx c => by simp at c; subst c; rcases ha with h | h; omega; exact h)
theorem Fr.drew {S : List Nat} {w w1 : World} (h : Fr S w w1) : Fr S w w1.drew := ⟨h.os, h.tape, h.output, h.size, h.block⟩
theorem Fr.drewN {S : List Nat} {w w1 : World} (h : Fr S w w1) (n : Nat) : Fr S w (w1.drewN n) := by
  have hb : Below w1.heap.size w1 (w1.drewN n) := below_drewN (Below.refl _ _) n
  exact h.tr ⟨hb.os, hb.tape, hb.output, hb.size, fun k hk _ => hb.block k hk⟩
theorem Fr.ofBelow {w w' : World} (h : Below w.heap.size w w') : Fr [] w w' := ⟨h.os, h.tape, h.output, h.size, fun k hk _ => h.block k hk⟩
theorem Fr.below {S : List Nat} {w w1 w2 : World} (h : Fr S w w1) (hb : Below w1.heap.size w1 w2) : Fr S w w2 :=
  h.tr ⟨hb.os, hb.tape, hb.output, hb.size, fun k hk _ => hb.block k hk⟩
theorem Fr.toBelow {w w' : World} (h : Fr [] w w') : Below w.heap.size w w' := ⟨h.os, h.tape, h.output, h.size, fun k hk => h.block k hk (by simp)⟩
theorem Fr.ofGrown {w w' : World} {row : Option Nat} (hg : w.grownBy w' row) : Fr row.toList w w' :=
  ⟨hg.os, hg.tape, hg.output, hg.size, fun k hk hn => hg.block k hk (fun c => hn (by rw [← c]; simp))⟩
theorem Fr.toBase {S : List Nat} {w w1 w2 : World} (h : Below w.heap.size w w1) (k : Fr S w1 w2) (hS : ∀ x ∈ S, w.heap.size ≤ x) : Below w.heap.size w w2 :=
  ((Fr.ofBelow h).trans (T := []) k (fun _ _ c => by cases c) (fun x hx c => by have := hS x c; omega)).toBelow

theorem lt_of_blk {w : World} {b : Nat} {o : Obj} (h : w.heap[b]? = some o) : b < w.heap.size := by
  rcases Nat.lt_or_ge b w.heap.size with h1 | h1
  · exact h1
  · rw [Array.getElem?_eq_none h1] at h; cases h
theorem lt_of_cell {w : World} {a : Addr} {v : Value} (h : w.cell? a = some v) : a.block < w.heap.size := World.block_lt_of_cell? w a h

theorem wf_u8 {x : Int} (h1 : 0 ≤ x) (h2 : x ≤ 255) : (Lit.int .u8 x).wf = true := by
  simp [Lit.wf, IntKind.min, IntKind.max, IntKind.signed, IntKind.bits]; omega
theorem wf_i64 {x : Int} (h1 : -9223372036854775808 ≤ x) (h2 : x ≤ 9223372036854775807) : (Lit.int .i64 x).wf = true := by
  simp [Lit.wf, IntKind.min, IntKind.max, IntKind.signed, IntKind.bits]; omega

/-! Rows of any kind. -/
theorem own_keep {B : Nat} {w w' : World} {e : TypeId} {c : Nat} {v : Value} {n : Nat} {xs : List Value} (h : w.ownsRow B e c v n xs) (hb : ∀ k, v.ownBlock = some k → w'.heap[k]? = w.heap[k]?) : w'.ownsRow B e c v n xs := by
  refine ⟨h.1, ?_⟩
  rcases h.2 with h2 | ⟨g, cap, cur, hv, h0, hg, r⟩
  · exact Or.inl h2
  · exact Or.inr ⟨g, cap, cur, hv, h0, by rw [hb g (by rw [hv]; rfl)]; exact hg, r⟩
theorem own_kind {B : Nat} {w : World} {e : TypeId} {c : Nat} {v : Value} {n : Nat} {xs : List Value} (h : w.ownsRow B e c v n xs) {k : Nat} (hk : v.ownBlock = some k) : ∃ cur, w.heap[k]? = some (.cells cur e (0, 0)) := by
  rcases h.2 with ⟨rfl, _⟩ | ⟨g, cap, cur, rfl, _, hg, _⟩
  · cases hk
  · simp [Value.ownBlock] at hk; subst hk; exact ⟨cur, hg⟩
theorem own_apart {B B' : Nat} {w : World} {e e' : TypeId} {c c' : Nat} {v v' : Value} {n n' : Nat} {xs xs' : List Value} (h : w.ownsRow B e c v n xs) (h' : w.ownsRow B' e' c' v' n' xs') (he : e ≠ e') {k : Nat} (hk : v.ownBlock = some k) : v'.ownBlock ≠ some k := by
  intro q
  obtain ⟨_, h1⟩ := own_kind h hk
  obtain ⟨_, h2⟩ := own_kind h' q
  rw [h1] at h2
  simp only [Option.some.injEq, Obj.cells.injEq] at h2
  exact he h2.2.1
theorem own_block_ne {B : Nat} {w : World} {e T : TypeId} {c : Nat} {v : Value} {n b : Nat} {xs : List Value} {cs : Array Value} {z : Nat × Nat} (h : w.ownsRow B e c v n xs) (hb : w.heap[b]? = some (.cells cs T z)) (he : e ≠ T) : v.ownBlock ≠ some b := by
  intro q
  obtain ⟨_, h1⟩ := own_kind h q
  rw [hb] at h1
  simp only [Option.some.injEq, Obj.cells.injEq] at h1
  exact he h1.2.1.symm
theorem own_cell {B : Nat} {w : World} {e : TypeId} {c : Nat} {v : Value} {n : Nat} {xs : List Value} (h : w.ownsRow B e c v n xs) {g : Nat} (hg : v.ownBlock = some g) {j : Nat} {u : Value} (hj : xs[j]? = some u) : w.cell? ⟨g, j, none⟩ = some u := by
  have := World.ownsRow.cells h hg j u hj
  cases j <;> simpa [Addr.add] using this
theorem own_open {B : Nat} {w : World} {e : TypeId} {c : Nat} {v : Value} {n : Nat} {xs : List Value} (h : w.ownsRow B e c v n xs) (hn : 0 < n) : ∃ g cap, v = .slice (some ⟨g, 0, none⟩) n cap ∧ g < w.heap.size ∧ n ≤ cap ∧ w.frozen? ⟨g, 0, none⟩ = false := by
  rcases h.2 with ⟨_, h2⟩ | ⟨g, cap, cur, hv, _, hg, h1, _⟩
  · omega
  · exact ⟨g, cap, hv, lt_of_blk hg, h1, by simp [World.frozen?, hg]⟩
theorem own_slice {B : Nat} {w : World} {e : TypeId} {c : Nat} {v : Value} {n : Nat} {xs : List Value} (h : w.ownsRow B e c v n xs) : ∃ a cap, v = .slice a n cap := by
  rcases h.2 with ⟨h1, h2⟩ | ⟨g, cap, cur, hv, _⟩
  · exact ⟨none, 0, by rw [h1, h2]⟩
  · exact ⟨_, cap, hv⟩
theorem own_set {B : Nat} {w : World} {e : TypeId} {c : Nat} {v : Value} {n : Nat} {xs : List Value} (h : w.ownsRow B e c v n xs) {g : Nat} (hg : v.ownBlock = some g) {j : Nat} (u : Value) : (w.setCell ⟨g, j, none⟩ u).ownsRow B e c v n (xs.set j u) := by
  have h1 := h.1
  refine ⟨by simpa using h1, ?_⟩
  rcases h.2 with ⟨rfl, _⟩ | ⟨g', cap, cur, rfl, hB, hb, q1, q2, q3, q4⟩
  · cases hg
  · simp [Value.ownBlock] at hg
    subst hg
    refine Or.inr ⟨g', cap, cur.setIfInBounds j u, rfl, hB, by simp [World.setCell, Array.getElem?_modify, hb], q1, q2, by simpa using q3, ?_⟩
    rw [Array.toList_setIfInBounds, ← q4, List.take_set]
theorem own_frozen {B : Nat} {w : World} {e : TypeId} {c : Nat} {v : Value} {n : Nat} {xs : List Value} (h : w.ownsRow B e c v n xs) {g : Nat} (hg : v.ownBlock = some g) (j : Nat) : w.frozen? ⟨g, j, none⟩ = false := by
  obtain ⟨cur, hb⟩ := own_kind h hg
  simp [World.frozen?, hb]

/-- What a step leaves: changed are blocks of Z alone; those of Z' are of Z, or new. -/
structure Mv (w w' : World) (Z Z' : List Nat) : Prop where
  fr : Fr Z w w'
  place : ∀ x ∈ Z', x ∈ Z ∨ w.heap.size ≤ x
theorem Mv.refl (w : World) (Z : List Nat) : Mv w w Z Z := ⟨Fr.refl _ _, fun _ h => Or.inl h⟩
theorem Mv.same {w w' : World} (Z : List Nat) (h : Below w.heap.size w w') : Mv w w' Z Z := ⟨(Fr.ofBelow h).mono (fun _ _ c => by cases c), fun _ h => Or.inl h⟩
theorem Mv.trans {w w1 w2 : World} {Z Z1 Z2 : List Nat} (h : Mv w w1 Z Z1) (k : Mv w1 w2 Z1 Z2) : Mv w w2 Z Z2 := by
  refine ⟨h.fr.trans k.fr (fun _ _ c => c) (fun x hx c => ?_), fun x hx => ?_⟩
  · rcases h.place x c with c | c
    · exact c
    · omega
  · rcases k.place x hx with c | c
    · exact h.place x c
    · exact Or.inr (Nat.le_trans h.fr.size c)
theorem Mv.before {w w0 w1 : World} {Z Z1 : List Nat} (h : Below w.heap.size w w0) (k : Mv w0 w1 Z Z1) : Mv w w1 Z Z1 := (Mv.same Z h).trans k
theorem Mv.after {w w0 w1 : World} {Z Z1 : List Nat} (k : Mv w w0 Z Z1) (h : Below w0.heap.size w0 w1) : Mv w w1 Z Z1 := k.trans (Mv.same Z1 h)

/-! Resources that lie apart. -/
structure Res where
  Z : List Nat
  P : World → Prop
  keep : ∀ w w' S, P w → Fr S w w' → (∀ x ∈ Z, x ∉ S) → P w'
  lt : ∀ w, P w → ∀ x ∈ Z, x < w.heap.size
structure Env (w wr : World) (rs : List Res) : Prop where
  bel : Below w.heap.size w wr
  hold : ∀ r ∈ rs, r.P wr
  low : ∀ r ∈ rs, ∀ x ∈ r.Z, w.heap.size ≤ x
  dis : rs.Pairwise (fun r s => ∀ x ∈ r.Z, x ∉ s.Z)
theorem Env.nil (w : World) : Env w w [] := ⟨Below.refl _ _, by simp, by simp, List.Pairwise.nil⟩
theorem Env.new {w wr w1 : World} {rs : List Res} (h : Env w wr rs) (hb : Below wr.heap.size wr w1) : Env w w1 rs :=
  ⟨bw_tr h.bel hb, fun r hr => r.keep wr w1 [] (h.hold r hr) (Fr.ofBelow hb) (by simp), h.low, h.dis⟩
theorem Env.add {w wr w1 : World} {rs : List Res} (h : Env w wr rs) (r : Res) (hb : Below wr.heap.size wr w1) (hP : r.P w1) (hn : ∀ x ∈ r.Z, wr.heap.size ≤ x) : Env w w1 (r :: rs) := by
  have h1 := h.new hb
  refine ⟨h1.bel, ?_, ?_, ?_⟩
  · intro s hs
    rcases List.mem_cons.1 hs with rfl | hs
    · exact hP
    · exact h1.hold s hs
  · intro s hs x hx
    rcases List.mem_cons.1 hs with rfl | hs
    · have := hn x hx; have := h.bel.size; omega
    · exact h.low s hs x hx
  · refine List.Pairwise.cons (fun s hs x hx c => ?_) h.dis
    have := hn x hx
    have := s.lt wr (h.hold s hs) x c
    omega
theorem Env.step {w wr w1 : World} {r r' : Res} {rs : List Res} (h : Env w wr (r :: rs)) (hg : Mv wr w1 r.Z r'.Z) (hP : r'.P w1) : Env w w1 (r' :: rs) := by
  have hd := List.pairwise_cons.1 h.dis
  have hl : ∀ x ∈ r.Z, w.heap.size ≤ x := h.low r (by simp)
  refine ⟨Fr.toBase h.bel hg.fr hl, ?_, ?_, ?_⟩
  · intro s hs
    rcases List.mem_cons.1 hs with rfl | hs
    · exact hP
    · exact s.keep wr w1 r.Z (h.hold s (List.mem_cons_of_mem _ hs)) hg.fr (fun x hx c => hd.1 s hs x c hx)
  · intro s hs x hx
    rcases List.mem_cons.1 hs with rfl | hs
    · rcases hg.place x hx with c | c
      · exact hl x c
      · have := h.bel.size; omega
    · exact h.low s (List.mem_cons_of_mem _ hs) x hx
  · refine List.Pairwise.cons (fun s hs x hx c => ?_) hd.2
    rcases hg.place x hx with q | q
    · exact hd.1 s hs x q c
    · have := s.lt wr (h.hold s (List.mem_cons_of_mem _ hs)) x c; omega
theorem Env.swap {w wr : World} {r s : Res} {rs : List Res} (h : Env w wr (r :: s :: rs)) : Env w wr (s :: r :: rs) := by
  have hm : ∀ q, q ∈ s :: r :: rs → q ∈ r :: s :: rs := by intro q hq; simp at hq ⊢; rcases hq with h | h | h <;> simp [h]
  refine ⟨h.bel, fun q hq => h.hold q (hm q hq), fun q hq => h.low q (hm q hq), ?_⟩
  have h1 := List.pairwise_cons.1 h.dis
  have h2 := List.pairwise_cons.1 h1.2
  refine List.Pairwise.cons (fun q hq x hx c => ?_) (List.Pairwise.cons (fun q hq => h1.1 q (List.mem_cons_of_mem _ hq)) h2.2)
  rcases List.mem_cons.1 hq with rfl | hq
  · exact h1.1 s (by simp) x c hx
  · exact h2.1 q hq x hx c
theorem Env.rot3 {w wr : World} {r s t : Res} {rs : List Res} (h : Env w wr (r :: s :: t :: rs)) : Env w wr (t :: r :: s :: rs) := by
  have hm : ∀ q, q ∈ t :: r :: s :: rs → q ∈ r :: s :: t :: rs := by intro q hq; simp at hq ⊢; rcases hq with h | h | h | h <;> simp [h]
  refine ⟨h.bel, fun q hq => h.hold q (hm q hq), fun q hq => h.low q (hm q hq), ?_⟩
  have h1 := List.pairwise_cons.1 h.dis
  have h2 := List.pairwise_cons.1 h1.2
  have h3 := List.pairwise_cons.1 h2.2
  refine List.Pairwise.cons (fun q hq x hx c => ?_) (List.Pairwise.cons (fun q hq => ?_) (List.Pairwise.cons (fun q hq => h2.1 q (List.mem_cons_of_mem _ hq)) h3.2))
  · rcases List.mem_cons.1 hq with rfl | hq
    · exact h1.1 t (by simp) x c hx
    · rcases List.mem_cons.1 hq with rfl | hq
      · exact h2.1 t (by simp) x c hx
      · exact h3.1 q hq x hx c
  · rcases List.mem_cons.1 hq with rfl | hq
    · exact h1.1 q (by simp)
    · exact h1.1 q (List.mem_cons_of_mem _ (List.mem_cons_of_mem _ hq))
theorem Env.drop {w wr : World} {r : Res} {rs : List Res} (h : Env w wr (r :: rs)) : Env w wr rs :=
  ⟨h.bel, fun q hq => h.hold q (List.mem_cons_of_mem _ hq), fun q hq => h.low q (List.mem_cons_of_mem _ hq), (List.pairwise_cons.1 h.dis).2⟩
theorem Env.hd {w wr : World} {r : Res} {rs : List Res} (h : Env w wr (r :: rs)) : r.P wr := h.hold r (by simp)
theorem Env.sd {w wr : World} {r s : Res} {rs : List Res} (h : Env w wr (r :: s :: rs)) : s.P wr := h.hold s (by simp)
theorem Env.apart {w wr : World} {r s : Res} {rs : List Res} (h : Env w wr (r :: s :: rs)) : ∀ x ∈ r.Z, x ∉ s.Z := (List.pairwise_cons.1 h.dis).1 s (by simp)

end Go.Proofs.YtjjkhjiiakamaaaDoor
