/- Texts joined: RsMem DkPure DkMem. -/
import Derived.Test.YtfnpeiikjiffeaaGreatProg
import Derived.WalkKit
import Derived.WalkSpells
import Derived.WalkLawsBesides
import Derived.WalkSmall
import Derived.Maps.OwnSet
import Derived.Maps.RangeWalk
import Derived.Maps.AppendAt
import Derived.BigQuiet
import Derived.Deep.MidRow
import Derived.Deep.WholeRow
import Derived.Deep.RegionHeld3
import Derived.Deep.Cut
import Derived.Deep.QuietTactic
import Derived.Deep.RegionLaw
import Derived.Deep.RegionWith
import Derived.Laws.IdiomStrings
import Derived.Laws.EntriesVeiled
/- Frames, rows of any kind, and resources that lie apart. No walk is in this text. -/
namespace Go.Proofs.YtfnpeiikjiffeaaGreat
open Go.RowKit Go.Maps

theorem hide {p : Prop} (h : p) : Hid p := h
theorem unhide {p : Prop} (h : Hid p) : p := h

/-- The world w' is as w was but for the blocks of S and new ones. -/
structure Fr (S : List Nat) (w w' : World) : Prop where
  os : w'.os = w.os
  tape : w'.tape = w.tape
  output : w'.output = w.output
  size : w.heap.size ≤ w'.heap.size
  block : ∀ k, k < w.heap.size → k ∉ S → w'.heap[k]? = w.heap[k]?

theorem Fr.refl (S : List Nat) (w : World) : Fr S w w := ⟨rfl, rfl, rfl, Nat.le_refl _, fun _ _ _ => rfl⟩
theorem Fr.trans {S S' T : List Nat} {w w1 w2 : World} (h : Fr S w w1) (k : Fr S' w1 w2) (h1 : ∀ x, x < w.heap.size → x ∈ S → x ∈ T) (h2 : ∀ x, x < w.heap.size → x ∈ S' → x ∈ T) : Fr T w w2 :=
  ⟨k.os.trans h.os, k.tape.trans h.tape, k.output.trans h.output, Nat.le_trans h.size k.size,
   fun x hx hn => (k.block x (Nat.lt_of_lt_of_le hx h.size) (fun c => hn (h2 x hx c))).trans (h.block x hx (fun c => hn (h1 x hx c)))⟩
theorem Fr.mono {S T : List Nat} {w w1 : World} (h : Fr S w w1) (h1 : ∀ x, x < w.heap.size → x ∈ S → x ∈ T) : Fr T w w1 :=
  ⟨h.os, h.tape, h.output, h.size, fun x hx hn => h.block x hx (fun c => hn (h1 x hx c))⟩
theorem Fr.tr {S : List Nat} {w w1 w2 : World} (h : Fr S w w1) (k : Fr S w1 w2) : Fr S w w2 := h.trans k (fun _ _ c => c) (fun _ _ c => c)
theorem Fr.alloc {S : List Nat} {w w1 : World} (h : Fr S w w1) (o : Obj) : Fr S w (w1.alloc o) :=
  h.tr ⟨rfl, rfl, rfl, by simp, fun k hk _ => Below.heap_alloc _ _ _ hk⟩
theorem Fr.setCell {S : List Nat} {w w1 : World} (h : Fr S w w1) {a : Addr} (ha : w.heap.size ≤ a.block ∨ a.block ∈ S) (u : Value) : Fr S w (w1.setCell a u) :=
  h.trans (S' := [a.block]) ⟨rfl, rfl, rfl, by simp [World.setCell], fun k _ hn => Below.heap_setCell _ _ _ _ (by simpa using hn)⟩ (fun _ _ c => c)
    (fun x hx c => by simp at c; subst c; rcases ha with h | h; omega; exact h)
theorem Fr.drew {S : List Nat} {w w1 : World} (h : Fr S w w1) : Fr S w w1.drew := ⟨h.os, h.tape, h.output, h.size, h.block⟩
theorem Fr.drewN {S : List Nat} {w w1 : World} (h : Fr S w w1) (n : Nat) : Fr S w (w1.drewN n) := by
  have hb : Below w1.heap.size w1 (w1.drewN n) := below_drewN (Below.refl _ _) n
  exact h.tr ⟨hb.os, hb.tape, hb.output, hb.size, fun k hk _ => hb.block k hk⟩
theorem Fr.ofBelow {w w' : World} (h : Below w.heap.size w w') : Fr [] w w' := ⟨h.os, h.tape, h.output, h.size, fun k hk _ => h.block k hk⟩
theorem Fr.below {S : List Nat} {w w1 w2 : World} (h : Fr S w w1) (hb : Below w1.heap.size w1 w2) : Fr S w w2 :=
  h.tr ⟨hb.os, hb.tape, hb.output, hb.size, fun k hk _ => hb.block k hk⟩
theorem Fr.toBelow {w w' : World} (h : Fr [] w w') : Below w.heap.size w w' := ⟨h.os, h.tape, h.output, h.size, fun k hk => h.block k hk (by simp)⟩
theorem Fr.ofGrown {w w' : World} {row : Option Nat} (hg : w.grownBy w' row) : Fr row.toList w w' :=
  ⟨hg.os, hg.tape, hg.output, hg.size, fun k hk hn => hg.block k hk (fun c => hn (by rw [← c]; simp))⟩
theorem Fr.toBase {S : List Nat} {w w1 w2 : World} (h : Below w.heap.size w w1) (k : Fr S w1 w2) (hS : ∀ x ∈ S, w.heap.size ≤ x) : Below w.heap.size w w2 :=
  ((Fr.ofBelow h).trans (T := []) k (fun _ _ c => by cases c) (fun x hx c => by have := hS x c; omega)).toBelow

theorem bw_mono {B B' : Nat} {w w' : World} (h : Below B' w w') (hB : B ≤ B') : Below B w w' := ⟨h.os, h.tape, h.output, h.size, fun k hk => h.block k (by omega)⟩
theorem bw_tr {w w1 w2 : World} (h : Below w.heap.size w w1) (k : Below w1.heap.size w1 w2) : Below w.heap.size w w2 := h.trans (bw_mono k h.size)
theorem lt_of_blk {w : World} {b : Nat} {o : Obj} (h : w.heap[b]? = some o) : b < w.heap.size := by
  rcases Nat.lt_or_ge b w.heap.size with h1 | h1
  · exact h1
  · rw [Array.getElem?_eq_none h1] at h; cases h
theorem lt_of_cell {w : World} {a : Addr} {v : Value} (h : w.cell? a = some v) : a.block < w.heap.size := World.block_lt_of_cell? w a h

theorem wf_u8 {x : Int} (h1 : 0 ≤ x) (h2 : x ≤ 255) : (Lit.int .u8 x).wf = true := by
  simp [Lit.wf, IntKind.min, IntKind.max, IntKind.signed, IntKind.bits]; omega
theorem wf_i64 {x : Int} (h1 : -9223372036854775808 ≤ x) (h2 : x ≤ 9223372036854775807) : (Lit.int .i64 x).wf = true := by
  simp [Lit.wf, IntKind.min, IntKind.max, IntKind.signed, IntKind.bits]; omega

/-! Rows of any kind. -/
theorem own_keep {B : Nat} {w w' : World} {e : TypeId} {c : Nat} {v : Value} {n : Nat} {xs : List Value} (h : w.ownsRow B e c v n xs) (hb : ∀ k, v.ownBlock = some k → w'.heap[k]? = w.heap[k]?) : w'.ownsRow B e c v n xs := by
  refine ⟨h.1, ?_⟩
  rcases h.2 with h2 | ⟨g, cap, cur, hv, h0, hg, r⟩
  · exact Or.inl h2
  · exact Or.inr ⟨g, cap, cur, hv, h0, by rw [hb g (by rw [hv]; rfl)]; exact hg, r⟩
theorem own_kind {B : Nat} {w : World} {e : TypeId} {c : Nat} {v : Value} {n : Nat} {xs : List Value} (h : w.ownsRow B e c v n xs) {k : Nat} (hk : v.ownBlock = some k) : ∃ cur, w.heap[k]? = some (.cells cur e (0, 0)) := by
  rcases h.2 with ⟨rfl, _⟩ | ⟨g, cap, cur, rfl, _, hg, _⟩
  · cases hk
  · simp [Value.ownBlock] at hk; subst hk; exact ⟨cur, hg⟩
theorem own_apart {B B' : Nat} {w : World} {e e' : TypeId} {c c' : Nat} {v v' : Value} {n n' : Nat} {xs xs' : List Value} (h : w.ownsRow B e c v n xs) (h' : w.ownsRow B' e' c' v' n' xs') (he : e ≠ e') {k : Nat} (hk : v.ownBlock = some k) : v'.ownBlock ≠ some k := by
  intro q
  obtain ⟨_, h1⟩ := own_kind h hk
  obtain ⟨_, h2⟩ := own_kind h' q
  rw [h1] at h2
  simp only [Option.some.injEq, Obj.cells.injEq] at h2
  exact he h2.2.1
theorem own_block_ne {B : Nat} {w : World} {e T : TypeId} {c : Nat} {v : Value} {n b : Nat} {xs : List Value} {cs : Array Value} {z : Nat × Nat} (h : w.ownsRow B e c v n xs) (hb : w.heap[b]? = some (.cells cs T z)) (he : e ≠ T) : v.ownBlock ≠ some b := by
  intro q
  obtain ⟨_, h1⟩ := own_kind h q
  rw [hb] at h1
  simp only [Option.some.injEq, Obj.cells.injEq] at h1
  exact he h1.2.1.symm
theorem own_cell {B : Nat} {w : World} {e : TypeId} {c : Nat} {v : Value} {n : Nat} {xs : List Value} (h : w.ownsRow B e c v n xs) {g : Nat} (hg : v.ownBlock = some g) {j : Nat} {u : Value} (hj : xs[j]? = some u) : w.cell? ⟨g, j, none⟩ = some u := by
  have := World.ownsRow.cells h hg j u hj
  cases j <;> simpa [Addr.add] using this
theorem own_open {B : Nat} {w : World} {e : TypeId} {c : Nat} {v : Value} {n : Nat} {xs : List Value} (h : w.ownsRow B e c v n xs) (hn : 0 < n) : ∃ g cap, v = .slice (some ⟨g, 0, none⟩) n cap ∧ g < w.heap.size ∧ n ≤ cap ∧ w.frozen? ⟨g, 0, none⟩ = false := by
  rcases h.2 with ⟨_, h2⟩ | ⟨g, cap, cur, hv, _, hg, h1, _⟩
  · omega
  · exact ⟨g, cap, hv, lt_of_blk hg, h1, by simp [World.frozen?, hg]⟩
theorem own_slice {B : Nat} {w : World} {e : TypeId} {c : Nat} {v : Value} {n : Nat} {xs : List Value} (h : w.ownsRow B e c v n xs) : ∃ a cap, v = .slice a n cap := by
  rcases h.2 with ⟨h1, h2⟩ | ⟨g, cap, cur, hv, _⟩
  · exact ⟨none, 0, by rw [h1, h2]⟩
  · exact ⟨_, cap, hv⟩
theorem own_set {B : Nat} {w : World} {e : TypeId} {c : Nat} {v : Value} {n : Nat} {xs : List Value} (h : w.ownsRow B e c v n xs) {g : Nat} (hg : v.ownBlock = some g) {j : Nat} (u : Value) : (w.setCell ⟨g, j, none⟩ u).ownsRow B e c v n (xs.set j u) := by
  have h1 := h.1
  refine ⟨by simpa using h1, ?_⟩
  rcases h.2 with ⟨rfl, _⟩ | ⟨g', cap, cur, rfl, hB, hb, q1, q2, q3, q4⟩
  · cases hg
  · simp [Value.ownBlock] at hg
    subst hg
    refine Or.inr ⟨g', cap, cur.setIfInBounds j u, rfl, hB, by simp [World.setCell, Array.getElem?_modify, hb], q1, q2, by simpa using q3, ?_⟩
    rw [Array.toList_setIfInBounds, ← q4, List.take_set]
theorem own_frozen {B : Nat} {w : World} {e : TypeId} {c : Nat} {v : Value} {n : Nat} {xs : List Value} (h : w.ownsRow B e c v n xs) {g : Nat} (hg : v.ownBlock = some g) (j : Nat) : w.frozen? ⟨g, j, none⟩ = false := by
  obtain ⟨cur, hb⟩ := own_kind h hg
  simp [World.frozen?, hb]

/-- What a step leaves: changed are blocks of Z alone; those of Z' are of Z, or new. -/
structure Mv (w w' : World) (Z Z' : List Nat) : Prop where
  fr : Fr Z w w'
  place : ∀ x ∈ Z', x ∈ Z ∨ w.heap.size ≤ x
theorem Mv.refl (w : World) (Z : List Nat) : Mv w w Z Z := ⟨Fr.refl _ _, fun _ h => Or.inl h⟩
theorem Mv.same {w w' : World} (Z : List Nat) (h : Below w.heap.size w w') : Mv w w' Z Z := ⟨(Fr.ofBelow h).mono (fun _ _ c => by cases c), fun _ h => Or.inl h⟩
theorem Mv.trans {w w1 w2 : World} {Z Z1 Z2 : List Nat} (h : Mv w w1 Z Z1) (k : Mv w1 w2 Z1 Z2) : Mv w w2 Z Z2 := by
  refine ⟨h.fr.trans k.fr (fun _ _ c => c) (fun x hx c => ?_), fun x hx => ?_⟩
  · rcases h.place x c with c | c
    · exact c
    · omega
  · rcases k.place x hx with c | c
    · exact h.place x c
    · exact Or.inr (Nat.le_trans h.fr.size c)
theorem Mv.before {w w0 w1 : World} {Z Z1 : List Nat} (h : Below w.heap.size w w0) (k : Mv w0 w1 Z Z1) : Mv w w1 Z Z1 := (Mv.same Z h).trans k
theorem Mv.after {w w0 w1 : World} {Z Z1 : List Nat} (k : Mv w w0 Z Z1) (h : Below w0.heap.size w0 w1) : Mv w w1 Z Z1 := k.trans (Mv.same Z1 h)

/-! Resources that lie apart. -/
structure Res where
  Z : List Nat
  P : World → Prop
  keep : ∀ w w' S, P w → Fr S w w' → (∀ x ∈ Z, x ∉ S) → P w'
  lt : ∀ w, P w → ∀ x ∈ Z, x < w.heap.size
structure Env (w wr : World) (rs : List Res) : Prop where
  bel : Below w.heap.size w wr
  hold : ∀ r ∈ rs, r.P wr
  low : ∀ r ∈ rs, ∀ x ∈ r.Z, w.heap.size ≤ x
  dis : rs.Pairwise (fun r s => ∀ x ∈ r.Z, x ∉ s.Z)
theorem Env.nil (w : World) : Env w w [] := ⟨Below.refl _ _, by simp, by simp, List.Pairwise.nil⟩
theorem Env.new {w wr w1 : World} {rs : List Res} (h : Env w wr rs) (hb : Below wr.heap.size wr w1) : Env w w1 rs :=
  ⟨bw_tr h.bel hb, fun r hr => r.keep wr w1 [] (h.hold r hr) (Fr.ofBelow hb) (by simp), h.low, h.dis⟩
theorem Env.add {w wr w1 : World} {rs : List Res} (h : Env w wr rs) (r : Res) (hb : Below wr.heap.size wr w1) (hP : r.P w1) (hn : ∀ x ∈ r.Z, wr.heap.size ≤ x) : Env w w1 (r :: rs) := by
  have h1 := h.new hb
  refine ⟨h1.bel, ?_, ?_, ?_⟩
  · intro s hs
    rcases List.mem_cons.1 hs with rfl | hs
    · exact hP
    · exact h1.hold s hs
  · intro s hs x hx
    rcases List.mem_cons.1 hs with rfl | hs
    · have := hn x hx; have := h.bel.size; omega
    · exact h.low s hs x hx
  · refine List.Pairwise.cons (fun s hs x hx c => ?_) h.dis
    have := hn x hx
    have := s.lt wr (h.hold s hs) x c
    omega
theorem Env.step {w wr w1 : World} {r r' : Res} {rs : List Res} (h : Env w wr (r :: rs)) (hg : Mv wr w1 r.Z r'.Z) (hP : r'.P w1) : Env w w1 (r' :: rs) := by
  have hd := List.pairwise_cons.1 h.dis
  have hl : ∀ x ∈ r.Z, w.heap.size ≤ x := h.low r (by simp)
  refine ⟨Fr.toBase h.bel hg.fr hl, ?_, ?_, ?_⟩
  · intro s hs
    rcases List.mem_cons.1 hs with rfl | hs
    · exact hP
    · exact s.keep wr w1 r.Z (h.hold s (List.mem_cons_of_mem _ hs)) hg.fr (fun x hx c => hd.1 s hs x c hx)
  · intro s hs x hx
    rcases List.mem_cons.1 hs with rfl | hs
    · rcases hg.place x hx with c | c
      · exact hl x c
      · have := h.bel.size; omega
    · exact h.low s (List.mem_cons_of_mem _ hs) x hx
  · refine List.Pairwise.cons (fun s hs x hx c => ?_) hd.2
    rcases hg.place x hx with q | q
    · exact hd.1 s hs x q c
    · have := s.lt wr (h.hold s (List.mem_cons_of_mem _ hs)) x c; omega
theorem Env.swap {w wr : World} {r s : Res} {rs : List Res} (h : Env w wr (r :: s :: rs)) : Env w wr (s :: r :: rs) := by
  have hm : ∀ q, q ∈ s :: r :: rs → q ∈ r :: s :: rs := by intro q hq; simp at hq ⊢; rcases hq with h | h | h <;> simp [h]
  refine ⟨h.bel, fun q hq => h.hold q (hm q hq), fun q hq => h.low q (hm q hq), ?_⟩
  have h1 := List.pairwise_cons.1 h.dis
  have h2 := List.pairwise_cons.1 h1.2
  refine List.Pairwise.cons (fun q hq x hx c => ?_) (List.Pairwise.cons (fun q hq => h1.1 q (List.mem_cons_of_mem _ hq)) h2.2)
  rcases List.mem_cons.1 hq with rfl | hq
  · exact h1.1 s (by simp) x c hx
  · exact h2.1 q hq x hx c
theorem Env.rot3 {w wr : World} {r s t : Res} {rs : List Res} (h : Env w wr (r :: s :: t :: rs)) : Env w wr (t :: r :: s :: rs) := by
  have hm : ∀ q, q ∈ t :: r :: s :: rs → q ∈ r :: s :: t :: rs := by intro q hq; simp at hq ⊢; rcases hq with h | h | h | h <;> simp [h]
  refine ⟨h.bel, fun q hq => h.hold q (hm q hq), fun q hq => h.low q (hm q hq), ?_⟩
  have h1 := List.pairwise_cons.1 h.dis
  have h2 := List.pairwise_cons.1 h1.2
  have h3 := List.pairwise_cons.1 h2.2
  refine List.Pairwise.cons (fun q hq x hx c => ?_) (List.Pairwise.cons (fun q hq => ?_) (List.Pairwise.cons (fun q hq => h2.1 q (List.mem_cons_of_mem _ hq)) h3.2))
  · rcases List.mem_cons.1 hq with rfl | hq
    · exact h1.1 t (by simp) x c hx
    · rcases List.mem_cons.1 hq with rfl | hq
      · exact h2.1 t (by simp) x c hx
      · exact h3.1 q hq x hx c
  · rcases List.mem_cons.1 hq with rfl | hq
    · exact h1.1 q (by simp)
    · exact h1.1 q (List.mem_cons_of_mem _ (List.mem_cons_of_mem _ hq))
theorem Env.drop {w wr : World} {r : Res} {rs : List Res} (h : Env w wr (r :: rs)) : Env w wr rs :=
  ⟨h.bel, fun q hq => h.hold q (List.mem_cons_of_mem _ hq), fun q hq => h.low q (List.mem_cons_of_mem _ hq), (List.pairwise_cons.1 h.dis).2⟩
theorem Env.hd {w wr : World} {r : Res} {rs : List Res} (h : Env w wr (r :: rs)) : r.P wr := h.hold r (by simp)
theorem Env.sd {w wr : World} {r s : Res} {rs : List Res} (h : Env w wr (r :: s :: rs)) : s.P wr := h.hold s (by simp)
theorem Env.apart {w wr : World} {r s : Res} {rs : List Res} (h : Env w wr (r :: s :: rs)) : ∀ x ∈ r.Z, x ∉ s.Z := (List.pairwise_cons.1 h.dis).1 s (by simp)


theorem step_append_own {P : Program} {ops : Array Oper} {o : Oper} {a : Act} {w : World} {K : Act → World → Prop} {Q : Exit → Act → World → Prop} {E : Prop}
    (hg : o.guard = none) (s x : Operand) (t : TypeId) (hop : o.op = Op.call { callee := Callee.builtin Builtin.append, args := #[s, x], argTypes := #[t, t] })
    (base : Nat) (e : TypeId) (i : TypeInfo) (z : Value) (size bytes : Nat) (h1 : P.underlying t = some (.slice e)) (h2 : P.info? e = some i) (h3 : i.zero = some z) (h4 : i.size = size) (h5 : i.bytes = bytes) (h6 : z.cells.size = size) (h7 : 0 < size)
    (v : Value) (n : Nat) (xs : List Value) (hs : a.eval s = v) (hown : w.ownsRow base e size v n xs)
    (ad : Addr) (m c : Nat) (news : List Value) (hx : a.eval x = .slice (some ad) m c) (hn : news.length = m * size) (hc : ∀ j u, news[j]? = some u → w.cell? (ad.add j) = some u) (h1c : ∀ u ∈ news, u.oneCell' = true)
    (b1 : n + m ≤ maxLen) (b2 : (n + m) * bytes ≤ 140737488355328) (hbase : base ≤ w.heap.size)
    (hK : ∀ v' w', w'.ownsRow base e size v' (n + m) (xs ++ news) → w.grownBy w' v.ownBlock → (v'.ownBlock = v.ownBlock ∨ v'.ownBlock = some w.heap.size) → K (a.put o.dst v') w') :
    if Region.wanted o (yielded ops a.tmps) = true then Oper.wp P o a w K Q else E := by
  have hw : Region.wanted o (yielded ops a.tmps) = true := by simp [Region.wanted, hg]
  rw [if_pos hw]
  obtain ⟨v', w', hr, r2, r3, _, r5⟩ := run_append_own_at (P := P) w base t o.type e i z size bytes h1 h2 h3 h4 h5 h6 h7 v n xs hown ad m c news hn hc h1c b1 b2 hbase
  unfold Oper.wp
  simp [execOp, hop, resolve, invoke, builtin, hs, hx, hr, Result.andThen]
  exact hK v' w' r2 r3 r5


end Go.Proofs.YtfnpeiikjiffeaaGreat

/- Disks, plainly: what was synced, what was written since, what a fall leaves. No program is in this text. -/
namespace Go.Proofs.YtfnpeiikjiffeaaGreat

def upd (f : Nat → ByteArray) (k : Nat) (s : ByteArray) : Nat → ByteArray := fun j => if j = k then s else f j
theorem upd_same (f : Nat → ByteArray) (k : Nat) (s : ByteArray) : upd f k s k = s := by simp [upd]
theorem upd_other (f : Nat → ByteArray) {k j : Nat} (s : ByteArray) (h : j ≠ k) : upd f k s j = f j := by simp [upd, h]
def nought : ByteArray := ⟨(List.replicate 64 (0 : UInt8)).toArray⟩
theorem nought_size : nought.size = 64 := by decide
/-- What stands in the sectors behind the writes. -/
def cur (f : Nat → ByteArray) (l : List (Nat × ByteArray)) : Nat → ByteArray := l.foldl (fun f p => upd f p.1 p.2) f
theorem cur_nil (f : Nat → ByteArray) : cur f [] = f := rfl
theorem cur_snoc (f : Nat → ByteArray) (l : List (Nat × ByteArray)) (k : Nat) (s : ByteArray) : cur f (l ++ [(k, s)]) = upd (cur f l) k s := by simp [cur, List.foldl_append]
theorem cur_cons (f : Nat → ByteArray) (p : Nat × ByteArray) (l : List (Nat × ByteArray)) : cur f (p :: l) = cur (upd f p.1 p.2) l := rfl
def torn (b s : ByteArray) (how : Int) : ByteArray := if how = 1 then s else if how = 2 then s.extract 0 32 ++ b.extract 32 64 else if how = 3 then b.extract 0 32 ++ s.extract 32 64 else b
/-- What the bits say of the write number i. -/
def fate (bits : Int) (i : Nat) : Int := Go.bits BinOp.and IntKind.i64 (bits / 2 ^ (2 * (i : Int)).toNat) 3
def fl (bits : Int) : Nat → (Nat → ByteArray) → List (Nat × ByteArray) → Nat → ByteArray
  | _, f, [] => f
  | i, f, p :: l => fl bits (i + 1) (upd f p.1 (torn (f p.1) p.2 (fate bits i))) l
theorem fl_snoc (bits : Int) (l : List (Nat × ByteArray)) (p : Nat × ByteArray) (i : Nat) (f : Nat → ByteArray) : fl bits i f (l ++ [p]) = upd (fl bits i f l) p.1 (torn (fl bits i f l p.1) p.2 (fate bits (i + l.length))) := by
  induction l generalizing i f with
  | nil => simp [fl]
  | cons q l ih => simp only [List.cons_append, fl, ih, List.length_cons]; rw [show i + 1 + l.length = i + (l.length + 1) by omega]
theorem torn_size {b s : ByteArray} (h : Int) (hb : b.size = 64) (hs : s.size = 64) : (torn b s h).size = 64 := by
  unfold torn
  split
  · exact hs
  · split
    · simp [ByteArray.size_append, ByteArray.size_extract, hb, hs]
    · split
      · simp [ByteArray.size_append, ByteArray.size_extract, hb, hs]
      · exact hb
theorem cur_size {f : Nat → ByteArray} {l : List (Nat × ByteArray)} (hf : ∀ k, (f k).size = 64) (hl : ∀ p ∈ l, p.2.size = 64) : ∀ k, (cur f l k).size = 64 := by
  induction l generalizing f with
  | nil => exact hf
  | cons p l ih =>
    rw [cur_cons]
    refine ih (fun k => ?_) (fun q hq => hl q (by simp [hq]))
    unfold upd
    split
    · exact hl p (by simp)
    · exact hf k
theorem fl_size {bits : Int} {l : List (Nat × ByteArray)} {i : Nat} {f : Nat → ByteArray} (hf : ∀ k, (f k).size = 64) (hl : ∀ p ∈ l, p.2.size = 64) : ∀ k, (fl bits i f l k).size = 64 := by
  induction l generalizing f i with
  | nil => exact hf
  | cons p l ih =>
    refine ih (fun k => ?_) (fun q hq => hl q (by simp [hq]))
    unfold upd
    split
    · exact torn_size _ (hf _) (hl p (by simp))
    · exact hf k
/-- Where nothing was written all is as it was. -/
theorem cur_other {f : Nat → ByteArray} {l : List (Nat × ByteArray)} {k : Nat} (h : (l.any fun p => p.1 == k) = false) : cur f l k = f k := by
  induction l generalizing f with
  | nil => rfl
  | cons p l ih =>
    simp only [List.any_cons, Bool.or_eq_false_iff, beq_eq_false_iff_ne] at h
    rw [cur_cons, ih h.2, upd_other _ _ (Ne.symm h.1)]

/-- A disk: how many sectors, what was synced, what was written since, whether it is up, how many writes and syncs were done, the cut. -/
structure DS where
  N : Nat
  base : Nat → ByteArray
  since : List (Nat × ByteArray)
  up : Bool
  cnt : Nat
  cut : Option (Nat × Int)
structure DS.ok (S : DS) : Prop where
  n1 : 1 ≤ S.N
  n2 : S.N ≤ 4096
  sz : ∀ k, (S.base k).size = 64
  ats : ∀ p ∈ S.since, p.1 < S.N ∧ p.2.size = 64
def DS.now (S : DS) : Nat → ByteArray := cur S.base S.since
theorem DS.ok.now {S : DS} (h : S.ok) : ∀ k, (S.now k).size = 64 := cur_size h.sz (fun p hp => (h.ats p hp).2)
def DS.put (S : DS) (k : Nat) (s : ByteArray) : DS := { S with since := S.since ++ [(k, s)] }
def DS.settle (S : DS) : DS := { S with base := S.now, since := [] }
def DS.fall (S : DS) (bits : Int) : DS := { S with base := fl bits 0 S.base (S.since.take 31), since := [], up := false, cut := none }
def DS.did (S : DS) : DS := { S with cnt := S.cnt + 1 }
/-- A write or a sync comes: what is done with it, if it is done. -/
def DS.come (S : DS) (f : DS → DS) : DS × Int :=
  match S.cut with
  | none => ((f S).did, 0)
  | some (0, bits) => (S.fall bits, 6)
  | some (n + 1, bits) => ((f { S with cut := some (n, bits) }).did, 0)
def DS.write (S : DS) (at_ : Int) (s : ByteArray) : DS × Int :=
  if S.up = false then (S, 6) else if at_ < 0 ∨ (S.N : Int) ≤ at_ ∨ s.size ≠ 64 then (S, 1) else S.come (fun S => S.put at_.toNat s)
def DS.sync (S : DS) : DS × Int := if S.up = false then (S, 6) else S.come DS.settle
def DS.read (S : DS) (at_ : Int) : ByteArray × Int := if S.up = false then (ByteArray.empty, 6) else if at_ < 0 ∨ (S.N : Int) ≤ at_ then (ByteArray.empty, 1) else (S.now at_.toNat, 0)
def DS.doCut (S : DS) (n bits : Int) : DS × Int := if S.up = false then (S, 6) else if n < 0 then (S, 1) else ({ S with cut := some (n.toNat, bits) }, 0)
def DS.crash (S : DS) (bits : Int) : DS × Int := if S.up = false then (S, 6) else (S.fall bits, 0)
def DS.start (S : DS) : DS × Int := if S.up = false then ({ S with up := true, cut := none }, 0) else (S, 8)
def DS.new (N : Nat) : DS := ⟨N, fun _ => nought, [], true, 0, none⟩
theorem DS.new_ok {N : Nat} (h1 : 1 ≤ N) (h2 : N ≤ 4096) : (DS.new N).ok := ⟨h1, h2, fun _ => nought_size, by simp [DS.new]⟩
theorem DS.ok.fall {S : DS} (h : S.ok) (bits : Int) : (S.fall bits).ok :=
  ⟨h.n1, h.n2, fl_size h.sz (fun p hp => (h.ats p (List.mem_of_mem_take hp)).2), by simp [DS.fall]⟩
theorem DS.ok.put {S : DS} (h : S.ok) {k : Nat} {s : ByteArray} (hk : k < S.N) (hs : s.size = 64) : (S.put k s).ok :=
  ⟨h.n1, h.n2, h.sz, fun p hp => by
    simp only [DS.put, List.mem_append, List.mem_singleton] at hp
    rcases hp with hp | rfl
    · exact h.ats p hp
    · exact ⟨hk, hs⟩⟩
theorem DS.ok.did {S : DS} (h : S.ok) : S.did.ok := ⟨h.n1, h.n2, h.sz, h.ats⟩
theorem DS.ok.cutTo {S : DS} (h : S.ok) (c : Option (Nat × Int)) : ({ S with cut := c } : DS).ok := ⟨h.n1, h.n2, h.sz, h.ats⟩
theorem DS.ok.settle {S : DS} (h : S.ok) : S.settle.ok := ⟨h.n1, h.n2, h.now, by simp [DS.settle]⟩

/-! Bytes as cells. -/
def blkC (s : ByteArray) : List Value := s.data.toList.map fun b => .int .u8 (b.toNat : Int)
def blkV (s : ByteArray) : Value := .agg (blkC s).toArray
theorem blkC_len (s : ByteArray) : (blkC s).length = s.size := by unfold blkC; rw [List.length_map]; rfl
theorem blkC_one (s : ByteArray) : ∀ v ∈ blkC s, v.oneCell' = true := by
  intro v hv; obtain ⟨b, _, rfl⟩ := List.mem_map.1 hv; rfl
theorem blkC_app (s t : ByteArray) : blkC (s ++ t) = blkC s ++ blkC t := by
  simp [blkC, ByteArray.data_append]
theorem blkC_ext (s : ByteArray) (a b : Nat) : blkC (s.extract a b) = ((blkC s).take b).drop a := by
  simp [blkC, ByteArray.data_extract, Array.toList_extract, List.map_take, List.map_drop, List.drop_take]
theorem blkC_inj {s t : ByteArray} (h : blkC s = blkC t) : s = t := by
  cases s with | mk s => cases t with | mk t =>
  congr 1
  apply Array.ext'
  have : ∀ (a b : List UInt8), a.map (fun b => Value.int .u8 (b.toNat : Int)) = b.map (fun b => Value.int .u8 (b.toNat : Int)) → a = b := by
    intro a
    induction a with
    | nil => intro b h; cases b with | nil => rfl | cons _ _ => simp at h
    | cons x a ih =>
      intro b h
      cases b with
      | nil => simp at h
      | cons y b =>
        simp only [List.map_cons, List.cons.injEq, Value.int.injEq, true_and] at h
        have e : x = y := UInt8.toNat_inj.1 (by omega)
        rw [ih b h.2, e]
  exact this _ _ h
/-- How a block of bytes reads, as an element of a map. -/
def unB : Value → UInt8
  | .int .u8 n => UInt8.ofNat n.toNat
  | _ => 0
def isB : Value → Bool
  | .int .u8 n => decide (0 ≤ n ∧ n ≤ 255)
  | _ => false
def R5 : Value → Option (DataW Unit × List MemPlace)
  | .agg cs => if cs.size = 64 ∧ cs.toList.all isB = true then some (.lit (.string (cs.toList.map unB)), []) else none
  | _ => none
theorem isB_of {v : Value} (h : isB v = true) : v = .int .u8 ((unB v).toNat : Int) := by
  match v, h with
  | .int .u8 n, h =>
    simp only [isB, decide_eq_true_eq] at h
    simp only [unB]
    congr 1
    have : (UInt8.ofNat n.toNat).toNat = n.toNat := by rw [UInt8.toNat_ofNat']; omega
    rw [this]; omega
theorem unB_of (b : UInt8) : unB (.int .u8 (b.toNat : Int)) = b := by simp [unB]
theorem isB_mk (b : UInt8) : isB (.int .u8 (b.toNat : Int)) = true := by
  have := b.toNat_lt
  simp only [isB, decide_eq_true_eq]; omega
theorem R5_mk {s : ByteArray} (h : s.size = 64) : R5 (blkV s) = some (.lit (.string s.data.toList), []) := by
  have h1 : (blkC s).toArray.size = 64 := by simp [blkC_len, h]
  have h2 : (blkC s).all isB = true := by
    rw [List.all_eq_true]; intro v hv; obtain ⟨b, _, rfl⟩ := List.mem_map.1 hv; exact isB_mk b
  have h3 : (blkC s).map unB = s.data.toList := by
    unfold blkC
    rw [List.map_map]
    conv => rhs; rw [← List.map_id s.data.toList]
    exact List.map_congr_left (fun b _ => unB_of b)
  simp [blkV, R5, blkC_len, h, h2, h3]
theorem R5_inv {v : Value} {z : DataW Unit × List MemPlace} (h : R5 v = some z) : ∃ s : ByteArray, s.size = 64 ∧ v = blkV s ∧ z = (.lit (.string s.data.toList), []) := by
  match v, h with
  | .agg cs, h =>
    simp only [R5] at h
    split at h
    · rename_i hc
      obtain ⟨h1, h2⟩ := hc
      cases h
      refine ⟨⟨(cs.toList.map unB).toArray⟩, by simp [ByteArray.size, h1], ?_, by simp⟩
      unfold blkV blkC
      congr 1
      apply Array.ext'
      simp only [List.map_map]
      conv => lhs; rw [← List.map_id cs.toList]
      refine List.map_congr_left (fun v hv => ?_)
      exact isB_of (List.all_eq_true.1 h2 v hv)
    · cases h

end Go.Proofs.YtfnpeiikjiffeaaGreat

/- Disks in memory: maps of blocks, rows of writes, what a disk's struct leads to. No walk is in this text. -/
namespace Go.Proofs.YtfnpeiikjiffeaaGreat
open Go.RowKit Go.Maps

theorem lawInt : Keyed Tryz.prog 3 := int_keyed Tryz.underlying3
theorem Tryz.infoBlock : (Tryz.prog.info? 123).map (·.size) = some 64 := by kernel_rfl
theorem Tryz.infoWrite : (Tryz.prog.info? 125).map (·.size) = some 65 := by kernel_rfl
theorem Tryz.infoU8 : (Tryz.prog.info? 5).map (·.size) = some 1 := by kernel_rfl
set_option maxRecDepth 100000 in
theorem zeroBlock (w : World) : (zeroValue 123).run Tryz.prog w = .ok (blkV nought) w := by
  have h : (Tryz.prog.info? 123).map (fun i => (i.zero, i.size)) = some (some (blkV nought), 64) := by kernel_rfl
  exact (zero_of_info h).1 w
theorem keyN {k : Nat} (h : k ≤ 4096) : keyOf Tryz.prog 3 (.int .i64 (k : Int)) = some (.int .i64 (k : Int)) := keyOf_int_mk Tryz.underlying3 (wf_i64 (by omega) (by omega))

/-! Maps of blocks. -/
def cntB (h : Nat → Bool) : Nat → Nat
  | 0 => 0
  | n + 1 => cntB h n + if h n then 1 else 0
theorem cntB_le (h : Nat → Bool) (n : Nat) : cntB h n ≤ n := by
  induction n with
  | zero => simp [cntB]
  | succ n ih => simp only [cntB]; split <;> omega
theorem cntB_congr {h g : Nat → Bool} {n : Nat} (e : ∀ k, k < n → h k = g k) : cntB h n = cntB g n := by
  induction n with
  | zero => rfl
  | succ n ih => simp only [cntB]; rw [ih (fun k hk => e k (by omega)), e n (by omega)]
def setB (h : Nat → Bool) (m : Nat) : Nat → Bool := fun k => (k == m) || h k
theorem cntB_set {h : Nat → Bool} {m n : Nat} (hm : m < n) (h0 : h m = false) : cntB (setB h m) n = cntB h n + 1 := by
  induction n with
  | zero => omega
  | succ n ih =>
    simp only [cntB]
    by_cases c : m = n
    · subst c
      rw [cntB_congr (h := setB h m) (g := h) (fun k hk => by simp [setB]; omega), h0]
      simp [setB]
    · have : setB h m n = h n := by simp [setB]; omega
      rw [ih (by omega), this]; omega
theorem cntB_set_true {h : Nat → Bool} {m n : Nat} (h0 : h m = true) : cntB (setB h m) n = cntB h n := cntB_congr (fun k _ => by
  simp only [setB]
  by_cases c : k = m
  · subst c; simp [h0]
  · simp [c])

structure BD (D : DataW Unit) (N : Nat) (h : Nat → Bool) (f : Nat → ByteArray) : Prop where
  cnt : size D = cntB h N
  key : ∀ kl, Maps.has D kl = true → ∃ k : Nat, k < N ∧ kl = .int .i64 (k : Int)
  has : ∀ k : Nat, k < N → Maps.has D (.int .i64 (k : Int)) = h k
  at_ : ∀ k : Nat, k < N → h k = true → ∀ z, D.atKey (.int .i64 (k : Int)) z = .lit (.string (f k).data.toList)
/-- A map of blocks: which sectors it has, and with which bytes. -/
def BMap (w : World) (b N : Nat) (h : Nat → Bool) (f : Nat → ByteArray) : Prop := ∃ D : DataW Unit, w.ownsMap Tryz.prog 3 R5 b N D ∧ BD D N h f
theorem own_bound {w : World} {b n m : Nat} {D : DataW Unit} (h : w.ownsMap Tryz.prog 3 R5 b n D) (hs : size D ≤ m) : w.ownsMap Tryz.prog 3 R5 b m D := by
  obtain ⟨es, clock, h1, h2, h3, rfl⟩ := h
  refine ⟨es, clock, h1, h2, ?_, rfl⟩
  simpa [size, length_sorted] using hs
theorem lit_ne {a b : Nat} (h : a ≠ b) : (Lit.int .i64 (a : Int)) ≠ .int .i64 (b : Int) := by
  intro c; simp only [Lit.int.injEq, true_and] at c; omega
set_option maxRecDepth 100000 in
theorem BD.put {D : DataW Unit} {N : Nat} {h : Nat → Bool} {f : Nat → ByteArray} (B : BD D N h f) (hT : Tidy D) {m : Nat} (hm : m < N) (s : ByteArray) : BD (D.put (.int .i64 (m : Int)) (.lit (.string s.data.toList))) N (setB h m) (upd f m s) := by
  have hk : WideAt.IsKeyLit (.int .i64 (m : Int)) := trivial
  refine ⟨?_, ?_, ?_, ?_⟩
  · rw [size_put hT, B.has m hm]
    cases e : h m
    · rw [cntB_set hm e, B.cnt]; rfl
    · rw [cntB_set_true e, B.cnt]; rfl
  · intro kl hh
    by_cases c : kl = .int .i64 (m : Int)
    · exact ⟨m, hm, c⟩
    · rw [has_put_other c] at hh
      exact B.key kl hh
  · intro k hkN
    by_cases c : k = m
    · subst c; rw [has_put_same hT.isMap hk]; simp [setB]
    · rw [has_put_other (lit_ne c), B.has k hkN]; simp [setB, c]
  · intro k hkN hh z
    by_cases c : k = m
    · subst c; rw [atKey_put_same hT.isMap hk, upd_same]
    · rw [atKey_put_other (lit_ne c), upd_other _ _ c]
      exact B.at_ k hkN (by simpa [setB, c] using hh) z
theorem BD.congr {D : DataW Unit} {N : Nat} {h g : Nat → Bool} {f f' : Nat → ByteArray} (B : BD D N h f) (e1 : ∀ k, k < N → h k = g k) (e2 : ∀ k, k < N → h k = true → f k = f' k) : BD D N g f' :=
  ⟨by rw [B.cnt]; exact cntB_congr e1, B.key, fun k hk => by rw [B.has k hk, e1 k hk], fun k hk hh z => by rw [B.at_ k hk (by rw [e1 k hk]; exact hh) z, e2 k hk (by rw [e1 k hk]; exact hh)]⟩
theorem BD.made (N : Nat) (f : Nat → ByteArray) : BD (.map []) N (fun _ => false) f := by
  refine ⟨?_, fun kl h => by simp [Maps.has] at h, fun k _ => by simp [Maps.has], fun k _ h => by simp at h⟩
  have : cntB (fun _ => false) N = 0 := by
    induction N with
    | zero => rfl
    | succ N ih => simp only [cntB, ih]; rfl
  rw [this]; rfl
theorem BMap.made (w : World) (N : Nat) (f : Nat → ByteArray) : BMap (w.alloc (.map #[] 0)) w.heap.size N (fun _ => false) f := ⟨.map [], own_bound (World.ownsMap_made w _ _ _) (by simp [size]), BD.made N f⟩
theorem BMap.congr {w : World} {b N : Nat} {h g : Nat → Bool} {f f' : Nat → ByteArray} (B : BMap w b N h f) (e1 : ∀ k, k < N → h k = g k) (e2 : ∀ k, k < N → h k = true → f k = f' k) : BMap w b N g f' := by
  obtain ⟨D, h1, h2⟩ := B; exact ⟨D, h1, h2.congr e1 e2⟩
theorem BMap.lt {w : World} {b N : Nat} {h : Nat → Bool} {f : Nat → ByteArray} (B : BMap w b N h f) : b < w.heap.size := by obtain ⟨D, h1, _⟩ := B; exact h1.lt
theorem BMap.block {w : World} {b N : Nat} {h : Nat → Bool} {f : Nat → ByteArray} (B : BMap w b N h f) : ∃ es clock, w.heap[b]? = some (.map es clock) := by obtain ⟨D, ⟨es, clock, h1, _⟩, _⟩ := B; exact ⟨es, clock, h1⟩
theorem BMap.keep {w w' : World} {b N : Nat} {h : Nat → Bool} {f : Nat → ByteArray} (B : BMap w b N h f) (hb : w'.heap[b]? = w.heap[b]?) : BMap w' b N h f := by
  obtain ⟨D, ⟨es, clock, h1, h2⟩, h3⟩ := B
  exact ⟨D, ⟨es, clock, by rw [hb]; exact h1, h2⟩, h3⟩
set_option maxRecDepth 100000 in
theorem BMap.store {w : World} {b N : Nat} {h : Nat → Bool} {f : Nat → ByteArray} (B : BMap w b N h f) (hN : N ≤ 4096) {m : Nat} (hm : m < N) {s : ByteArray} (hs : s.size = 64) :
    ∃ w', (Instr.mapUpdate 73 (.map (some b)) (.int .i64 (m : Int)) (blkV s)).run Tryz.prog w = .ok () w' ∧ BMap w' b N (setB h m) (upd f m s) ∧ w.grownBy w' (some b) := by
  obtain ⟨D, h1, h2⟩ := B
  obtain ⟨w', r, h3, h4⟩ := h1.update lawInt Tryz.underlying73 (by unfold maxLen; omega) (keyN (k := m) (by omega)) (R5_mk hs)
  have hp := h2.put (h1.tidy lawInt) hm s
  exact ⟨w', r, ⟨_, own_bound h3 (by rw [hp.cnt]; exact cntB_le _ _), hp⟩, h4⟩
set_option maxRecDepth 100000 in
theorem BMap.look {w : World} {b N : Nat} {h : Nat → Bool} {f : Nat → ByteArray} (B : BMap w b N h f) (hN : N ≤ 4096) {m : Nat} (hm : m < N) :
    (Instr.lookup 73 (.map (some b)) (.int .i64 (m : Int)) false).run Tryz.prog w = .ok (blkV (if h m then f m else nought)) w := by
  obtain ⟨D, h1, h2⟩ := B
  obtain ⟨v, ps, r, hv⟩ := h1.lookup lawInt Tryz.underlying73 (zeroBlock w) (R5_mk nought_size) (keyN (k := m) (by omega))
  obtain ⟨s, hs, rfl, hz⟩ := R5_inv hv
  rw [r]
  congr 2
  simp only [Prod.mk.injEq] at hz
  cases e : h m
  · rw [atKey_of_not_has (by rw [h2.has m hm]; exact e)] at hz
    simp only [DataW.lit.injEq, Lit.string.injEq] at hz
    cases s; simp only [Bool.false_eq_true, if_false]
    cases hn : nought with | mk n => rw [hn] at hz; simp at hz; rw [hz.1]
  · rw [h2.at_ m hm e] at hz
    simp only [DataW.lit.injEq, Lit.string.injEq] at hz
    cases s; simp only [if_true]
    cases hn : f m with | mk n => rw [hn] at hz; simp at hz; rw [hz.1]
set_option maxRecDepth 100000 in
theorem BMap.lookOk {w : World} {b N : Nat} {h : Nat → Bool} {f : Nat → ByteArray} (B : BMap w b N h f) (hN : N ≤ 4096) {m : Nat} (hm : m < N) :
    (Instr.lookup 73 (.map (some b)) (.int .i64 (m : Int)) true).run Tryz.prog w = .ok (.tuple #[blkV (if h m then f m else nought), .bool (h m)]) w := by
  obtain ⟨D, h1, h2⟩ := B
  obtain ⟨v, ps, r, hv⟩ := h1.look_ok lawInt Tryz.underlying73 (zeroBlock w) (R5_mk nought_size) (keyN (k := m) (by omega))
  obtain ⟨s, hs, rfl, hz⟩ := R5_inv hv
  rw [r, h2.has m hm]
  have e : s = (if h m then f m else nought) := by
    simp only [Prod.mk.injEq] at hz
    cases e : h m
    · rw [atKey_of_not_has (by rw [h2.has m hm]; exact e)] at hz
      simp only [DataW.lit.injEq, Lit.string.injEq] at hz
      cases s; simp only [Bool.false_eq_true, if_false]
      cases hn : nought with | mk n => rw [hn] at hz; simp at hz; rw [hz.1]
    · rw [h2.at_ m hm e] at hz
      simp only [DataW.lit.injEq, Lit.string.injEq] at hz
      cases s; simp only [if_true]
      cases hn : f m with | mk n => rw [hn] at hz; simp at hz; rw [hz.1]
  rw [e]
/-- The sectors, as the map 'now' tells them: those that it has not are noughts. -/
def NMap (w : World) (b N : Nat) (f : Nat → ByteArray) : Prop := ∃ h, BMap w b N h f ∧ ∀ k, k < N → h k = false → f k = nought
theorem NMap.keep {w w' : World} {b N : Nat} {f : Nat → ByteArray} (B : NMap w b N f) (hb : w'.heap[b]? = w.heap[b]?) : NMap w' b N f := by obtain ⟨h, h1, h2⟩ := B; exact ⟨h, h1.keep hb, h2⟩
theorem NMap.lt {w : World} {b N : Nat} {f : Nat → ByteArray} (B : NMap w b N f) : b < w.heap.size := by obtain ⟨h, h1, h2⟩ := B; exact h1.lt
theorem NMap.block {w : World} {b N : Nat} {f : Nat → ByteArray} (B : NMap w b N f) : ∃ es clock, w.heap[b]? = some (.map es clock) := by obtain ⟨h, h1, h2⟩ := B; exact h1.block
theorem NMap.congr {w : World} {b N : Nat} {f g : Nat → ByteArray} (B : NMap w b N f) (e : ∀ k, k < N → f k = g k) : NMap w b N g := by
  obtain ⟨h, h1, h2⟩ := B
  exact ⟨h, h1.congr (fun _ _ => rfl) (fun k hk _ => e k hk), fun k hk hh => by rw [← e k hk]; exact h2 k hk hh⟩
theorem NMap.look {w : World} {b N : Nat} {f : Nat → ByteArray} (B : NMap w b N f) (hN : N ≤ 4096) {m : Nat} (hm : m < N) :
    (Instr.lookup 73 (.map (some b)) (.int .i64 (m : Int)) false).run Tryz.prog w = .ok (blkV (f m)) w := by
  obtain ⟨h, h1, h2⟩ := B
  rw [h1.look hN hm]
  cases e : h m
  · simp only [Bool.false_eq_true, if_false]; rw [h2 m hm e]
  · rfl
theorem NMap.store {w : World} {b N : Nat} {f : Nat → ByteArray} (B : NMap w b N f) (hN : N ≤ 4096) {m : Nat} (hm : m < N) {s : ByteArray} (hs : s.size = 64) :
    ∃ w', (Instr.mapUpdate 73 (.map (some b)) (.int .i64 (m : Int)) (blkV s)).run Tryz.prog w = .ok () w' ∧ NMap w' b N (upd f m s) ∧ w.grownBy w' (some b) := by
  obtain ⟨h, h1, h2⟩ := B
  obtain ⟨w', r, h3, h4⟩ := h1.store hN hm hs
  refine ⟨w', r, ⟨_, h3, fun k hk hh => ?_⟩, h4⟩
  simp only [setB, Bool.or_eq_false_iff, beq_eq_false_iff_ne] at hh
  rw [upd_other _ _ hh.1]; exact h2 k hk hh.2

/-! Rows of writes. -/
def wrC (p : Nat × ByteArray) : List Value := .int .i64 (p.1 : Int) :: blkC p.2
def FRow (w : World) (v : Value) (l : List (Nat × ByteArray)) : Prop := w.ownsRow 0 125 65 v l.length (l.flatMap wrC)
theorem wrC_len {p : Nat × ByteArray} (h : p.2.size = 64) : (wrC p).length = 65 := by simp [wrC, blkC_len, h]
theorem flat_get (l : List (Nat × ByteArray)) (hl : ∀ p ∈ l, p.2.size = 64) (i : Nat) (p : Nat × ByteArray) (h : l[i]? = some p) (j : Nat) (v : Value) (hv : (wrC p)[j]? = some v) : (l.flatMap wrC)[i * 65 + j]? = some v := by
  induction l generalizing i with
  | nil => simp at h
  | cons u l ih =>
    have hu := wrC_len (hl u (by simp))
    cases i with
    | zero =>
      simp at h; subst h
      simp only [Nat.zero_mul, Nat.zero_add, List.flatMap_cons]
      rw [List.getElem?_append_left ((List.getElem?_eq_some_iff.1 hv).1)]
      exact hv
    | succ i =>
      have := ih (fun p hp => hl p (by simp [hp])) i (by simpa using h)
      simp only [List.flatMap_cons]
      rw [List.getElem?_append_right (by omega), hu, show (i + 1) * 65 + j - 65 = i * 65 + j by omega]
      exact this
theorem FRow.range {w : World} {v : Value} {l : List (Nat × ByteArray)} (h : FRow w v l) (hl : ∀ p ∈ l, p.2.size = 64) {g : Nat} (hg : v.ownBlock = some g) {i : Nat} {p : Nat × ByteArray} (hi : l[i]? = some p) : w.rangeAt g (i * 65) (wrC p) := by
  intro j u hj
  exact own_cell h hg (flat_get l hl i p hi j u hj)

/-! A disk. -/
def ptr (b : Nat) : Value := .pointer (some ⟨b, 0, none⟩)
def comeF (d : Nat) : Value := .func (.func 39) #[ptr d] #[]
def cutF (c : Nat) : Value := .func (.func 46) #[ptr c] #[]
def ComeAt (w : World) (d cb : Nat) (cv : Value) (S : DS) : Prop :=
  (∃ fn fs cs, cv = .func fn fs cs) ∧ (S.up = true → match S.cut with
    | none => cv = comeF d
    | some (n, bits) => cv = cutF cb ∧ (n : Int) ≤ 9223372036854775807 ∧ w.heap[cb]? = some (.cells #[ptr d, .int .i64 (n : Int), .int .i64 bits] 90 (0, 0)))
structure Dk (w : World) (d nb sb cb : Nat) (fv cv : Value) (S : DS) : Prop where
  blk : w.heap[d]? = some (.cells #[.int .i64 (S.N : Int), .bool S.up, .int .i64 (S.cnt : Int), .int .i64 (S.since.length : Int), .map (some nb), .map (some sb), fv, cv] 77 (0, 0))
  now : NMap w nb S.N S.now
  syn : BMap w sb S.N (fun k => S.since.any (fun p => p.1 == k)) S.base
  row : FRow w fv (S.since.take 31)
  come : ComeAt w d cb cv S
  ok : S.ok
  ne : nb ≠ sb
def czone (S : DS) (cb : Nat) : List Nat := if S.up = true ∧ S.cut ≠ none then [cb] else []
def dfoot (d nb sb cb : Nat) (fv : Value) (S : DS) : List Nat := d :: nb :: sb :: (fv.ownBlock.toList ++ czone S cb)
theorem mem_dfoot {d nb sb cb x : Nat} {fv : Value} {S : DS} : x ∈ dfoot d nb sb cb fv S ↔ x = d ∨ x = nb ∨ x = sb ∨ fv.ownBlock = some x ∨ (x = cb ∧ S.up = true ∧ S.cut ≠ none) := by
  unfold dfoot czone
  split
  · rename_i c; simp [eq_comm, c]
  · rename_i c
    simp only [List.append_nil, List.mem_cons, Option.mem_toList]
    constructor
    · rintro (h | h | h | h) <;> simp [h]
    · rintro (h | h | h | h | ⟨_, h⟩)
      · exact Or.inl h
      · exact Or.inr (Or.inl h)
      · exact Or.inr (Or.inr (Or.inl h))
      · exact Or.inr (Or.inr (Or.inr h))
      · exact absurd h c
theorem ComeAt.cut {w : World} {d cb : Nat} {cv : Value} {S : DS} (h : ComeAt w d cb cv S) (h1 : S.up = true) (h2 : S.cut ≠ none) : ∃ n bits, S.cut = some (n, bits) ∧ cv = cutF cb ∧ (n : Int) ≤ 9223372036854775807 ∧ w.heap[cb]? = some (.cells #[ptr d, .int .i64 (n : Int), .int .i64 bits] 90 (0, 0)) := by
  have := h.2 h1
  cases e : S.cut with
  | none => exact absurd e h2
  | some p => obtain ⟨n, bits⟩ := p; rw [e] at this; exact ⟨n, bits, rfl, this.1, this.2.1, this.2.2⟩
theorem Dk.lt {w : World} {d nb sb cb : Nat} {fv cv : Value} {S : DS} (h : Dk w d nb sb cb fv cv S) : ∀ x ∈ dfoot d nb sb cb fv S, x < w.heap.size := by
  intro x hx
  rcases mem_dfoot.1 hx with rfl | rfl | rfl | hx | ⟨rfl, h1, h2⟩
  · exact lt_of_blk h.blk
  · exact h.now.lt
  · exact h.syn.lt
  · exact (World.ownsRow.lt h.row x hx).2
  · obtain ⟨_, _, _, _, _, hb⟩ := h.come.cut h1 h2
    exact lt_of_blk hb
theorem Dk.apart {w : World} {d nb sb cb : Nat} {fv cv : Value} {S : DS} (h : Dk w d nb sb cb fv cv S) : d ≠ nb ∧ d ≠ sb ∧ fv.ownBlock ≠ some d ∧ fv.ownBlock ≠ some nb ∧ fv.ownBlock ≠ some sb := by
  obtain ⟨e1, c1, hm⟩ := h.now.block
  obtain ⟨e2, c2, hs⟩ := h.syn.block
  refine ⟨?_, ?_, own_block_ne h.row h.blk (by decide), ?_, ?_⟩
  · rintro rfl; rw [h.blk] at hm; simp at hm
  · rintro rfl; rw [h.blk] at hs; simp at hs
  · intro c
    obtain ⟨cur, hc⟩ := own_kind h.row c
    rw [hm] at hc; simp at hc
  · intro c
    obtain ⟨cur, hc⟩ := own_kind h.row c
    rw [hs] at hc; simp at hc
theorem Dk.apartC {w : World} {d nb sb cb : Nat} {fv cv : Value} {S : DS} (h : Dk w d nb sb cb fv cv S) (h1 : S.up = true) (h2 : S.cut ≠ none) : cb ≠ d ∧ cb ≠ nb ∧ cb ≠ sb ∧ fv.ownBlock ≠ some cb := by
  obtain ⟨e1, c1, hm⟩ := h.now.block
  obtain ⟨e2, c2, hs⟩ := h.syn.block
  obtain ⟨_, _, _, _, _, hb⟩ := h.come.cut h1 h2
  refine ⟨?_, ?_, ?_, own_block_ne h.row hb (by decide)⟩
  · rintro rfl; rw [h.blk] at hb; simp at hb
  · rintro rfl; rw [hb] at hm; simp at hm
  · rintro rfl; rw [hb] at hs; simp at hs
theorem Dk.keep {w w' : World} {d nb sb cb : Nat} {fv cv : Value} {S : DS} {T : List Nat} (h : Dk w d nb sb cb fv cv S) (hf : Fr T w w') (hd : ∀ x ∈ dfoot d nb sb cb fv S, x ∉ T) : Dk w' d nb sb cb fv cv S := by
  have hb : ∀ x ∈ dfoot d nb sb cb fv S, w'.heap[x]? = w.heap[x]? := fun x hx => hf.block x (h.lt x hx) (hd x hx)
  refine ⟨by rw [hb d (mem_dfoot.2 (Or.inl rfl))]; exact h.blk, h.now.keep (hb nb (mem_dfoot.2 (Or.inr (Or.inl rfl)))), h.syn.keep (hb sb (mem_dfoot.2 (Or.inr (Or.inr (Or.inl rfl))))),
    own_keep h.row (fun k hk => hb k (mem_dfoot.2 (Or.inr (Or.inr (Or.inr (Or.inl hk)))))), ⟨h.come.1, fun hu => ?_⟩, h.ok, h.ne⟩
  have := h.come.2 hu
  cases e : S.cut with
  | none => rw [e] at this; exact this
  | some p =>
    obtain ⟨n, bits⟩ := p
    rw [e] at this
    exact ⟨this.1, this.2.1, by rw [hb cb (mem_dfoot.2 (Or.inr (Or.inr (Or.inr (Or.inr ⟨rfl, hu, by rw [e]; simp⟩)))))]; exact this.2.2⟩
theorem Dk.cells {w : World} {d nb sb cb : Nat} {fv cv : Value} {S : DS} (h : Dk w d nb sb cb fv cv S) :
    w.cell? ⟨d, 0, none⟩ = some (.int .i64 (S.N : Int)) ∧ w.cell? ⟨d, 1, none⟩ = some (.bool S.up) ∧ w.cell? ⟨d, 2, none⟩ = some (.int .i64 (S.cnt : Int)) ∧ w.cell? ⟨d, 3, none⟩ = some (.int .i64 (S.since.length : Int)) ∧ w.cell? ⟨d, 4, none⟩ = some (.map (some nb)) ∧ w.cell? ⟨d, 5, none⟩ = some (.map (some sb)) ∧ w.cell? ⟨d, 6, none⟩ = some fv ∧ w.cell? ⟨d, 7, none⟩ = some cv ∧ ∀ j, w.frozen? ⟨d, j, none⟩ = false := by
  refine ⟨?_, ?_, ?_, ?_, ?_, ?_, ?_, ?_, fun j => ?_⟩ <;> simp [World.cell?, World.frozen?, h.blk]
/-- A disk, its blocks Z. -/
def DkS (w : World) (d : Nat) (S : DS) (Z : List Nat) : Prop := ∃ nb sb cb fv cv, Z = dfoot d nb sb cb fv S ∧ Dk w d nb sb cb fv cv S
theorem DkS.keep {w w' : World} {d : Nat} {S : DS} {Z T : List Nat} (h : DkS w d S Z) (hf : Fr T w w') (hd : ∀ x ∈ Z, x ∉ T) : DkS w' d S Z := by
  obtain ⟨nb, sb, cb, fv, cv, rfl, h1⟩ := h
  exact ⟨nb, sb, cb, fv, cv, rfl, h1.keep hf hd⟩
theorem DkS.lt {w : World} {d : Nat} {S : DS} {Z : List Nat} (h : DkS w d S Z) : ∀ x ∈ Z, x < w.heap.size := by
  obtain ⟨nb, sb, cb, fv, cv, rfl, h1⟩ := h
  exact h1.lt
theorem DkS.bw {w w' : World} {d : Nat} {S : DS} {Z : List Nat} (h : DkS w d S Z) (hb : Below w.heap.size w w') : DkS w' d S Z := h.keep (Fr.ofBelow hb) (by simp)
theorem DkS.ok {w : World} {d : Nat} {S : DS} {Z : List Nat} (h : DkS w d S Z) : S.ok := by obtain ⟨nb, sb, cb, fv, cv, rfl, h1⟩ := h; exact h1.ok
def resD (d : Nat) (S : DS) (Z : List Nat) : Res := ⟨Z, fun w => DkS w d S Z, fun _ _ _ h hf hd => h.keep hf hd, fun _ h => h.lt⟩

end Go.Proofs.YtfnpeiikjiffeaaGreat
