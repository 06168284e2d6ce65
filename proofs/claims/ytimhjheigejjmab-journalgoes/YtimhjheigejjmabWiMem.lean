/- What a Writer and a Reader are in memory, and what a step of writing leaves. No walk is in this text. -/
import Derived.Test.YtimhjheigejjmabProg
import Derived.Test.YtimhjheigejjmabWiBase
import Derived.Maps.AppendAt
import Derived.Lib.AppendStr
namespace Go.Proofs.Ytimhjheigejjmab.Wi
open Go.RowKit

/-- The world w' is as w was but for the blocks of S and new ones. -/
structure Fr (S : List Nat) (w w' : World) : Prop where
  os : w'.os = w.os
  tape : w'.tape = w.tape
  output : w'.output = w.output
  size : w.heap.size ≤ w'.heap.size
  block : ∀ k, k < w.heap.size → k ∉ S → w'.heap[k]? = w.heap[k]?

set_option maxRecDepth 100000 in
theorem Fr.refl (S : List Nat) (w : World) : Fr S w w := ⟨rfl, rfl, rfl, Nat.le_refl _, fun _ _ _ => rfl⟩
set_option maxRecDepth 100000 in
theorem Fr.trans {S S' T : List Nat} {w w1 w2 : World} (h : Fr S w w1) (k : Fr S' w1 w2) (h1 : ∀ x, x < w.heap.size → x ∈ S → x ∈ T) (h2 : ∀ x, x < w.heap.size → x ∈ S' → x ∈ T) : Fr T w w2 :=
  ⟨k.os.trans h.os, k.tape.trans h.tape, k.output.trans h.output, Nat.le_trans h.size k.size,
   fun x hx hn => (k.block x (Nat.lt_of_lt_of_le hx h.size) (fun c => hn (h2 x hx c))).trans (h.block x hx (fun c => hn (h1 x hx c)))⟩
set_option maxRecDepth 100000 in
theorem Fr.mono {S T : List Nat} {w w1 : World} (h : Fr S w w1) (h1 : ∀ x, x < w.heap.size → x ∈ S → x ∈ T) : Fr T w w1 :=
  ⟨h.os, h.tape, h.output, h.size, fun x hx hn => h.block x hx (fun c => hn (h1 x hx c))⟩
set_option maxRecDepth 100000 in
theorem Fr.tr {S : List Nat} {w w1 w2 : World} (h : Fr S w w1) (k : Fr S w1 w2) : Fr S w w2 := h.trans k (fun _ _ c => c) (fun _ _ c => c)
set_option maxRecDepth 100000 in
theorem Fr.alloc {S : List Nat} {w w1 : World} (h : Fr S w w1) (o : Obj) : Fr S w (w1.alloc o) :=
  h.tr ⟨rfl, rfl, rfl, by simp, fun k hk _ => Below.heap_alloc _ _ _ hk⟩
set_option maxRecDepth 100000 in
theorem Fr.setCell {S : List Nat} {w w1 : World} (h : Fr S w w1) {a : Addr} (ha : w.heap.size ≤ a.block ∨ a.block ∈ S) (u : Value) : Fr S w (w1.setCell a u) :=
  h.trans (S' := [a.block]) ⟨rfl, rfl, rfl, by simp [World.setCell], fun k _ hn => Below.heap_setCell _ _ _ _ (by simpa using hn)⟩ (fun _ _ c => c)
    (fun x hx c => by simp at c; subst c; rcases ha with h | h; omega; exact h)
set_option maxRecDepth 100000 in
theorem Fr.drew {S : List Nat} {w w1 : World} (h : Fr S w w1) : Fr S w w1.drew := ⟨h.os, h.tape, h.output, h.size, h.block⟩
set_option maxRecDepth 100000 in
theorem Fr.drewN {S : List Nat} {w w1 : World} (h : Fr S w w1) (n : Nat) : Fr S w (w1.drewN n) := by
  have hb : Below w1.heap.size w1 (w1.drewN n) := below_drewN (Below.refl _ _) n
  exact h.tr ⟨hb.os, hb.tape, hb.output, hb.size, fun k hk _ => hb.block k hk⟩
set_option maxRecDepth 100000 in
theorem Fr.below {S : List Nat} {w w1 w2 : World} (h : Fr S w w1) (hb : Below w1.heap.size w1 w2) : Fr S w w2 :=
  h.tr ⟨hb.os, hb.tape, hb.output, hb.size, fun k hk _ => hb.block k hk⟩
set_option maxRecDepth 100000 in
theorem Fr.toBelow {w w' : World} (h : Fr [] w w') : Below w.heap.size w w' := ⟨h.os, h.tape, h.output, h.size, fun k hk => h.block k hk (by simp)⟩
set_option maxRecDepth 100000 in
theorem Fr.ofGrown {w w' : World} {row : Option Nat} (hg : w.grownBy w' row) : Fr row.toList w w' :=
  ⟨hg.os, hg.tape, hg.output, hg.size, fun k hk hn => hg.block k hk (fun c => hn (by rw [← c]; simp))⟩

def B8 (c : UInt8) : Value := .int .u8 c.toNat

/-- A Writer that was made, at block b, with the slice sv, in which stand the bytes bs. -/
structure WR (w : World) (b : Nat) (sv : Value) (bs : List UInt8) : Prop where
  blk : w.heap[b]? = some (.cells #[.bool true, sv] 137 (0, 0))
  own : w.ownsRow 0 5 1 sv bs.length (bs.map B8)

/-- What a step of writing leaves. -/
structure WStep (w w' : World) (b : Nat) (sv sv' : Value) (bs' : List UInt8) : Prop where
  wr : WR w' b sv' bs'
  fr : Fr (b :: sv.ownBlock.toList) w w'
  place : ∀ k, sv'.ownBlock = some k → sv.ownBlock = some k ∨ w.heap.size ≤ k

set_option maxRecDepth 100000 in
theorem lt_of_blk {w : World} {b : Nat} {o : Obj} (h : w.heap[b]? = some o) : b < w.heap.size := by
  rcases Nat.lt_or_ge b w.heap.size with h1 | h1
  · exact h1
  · rw [Array.getElem?_eq_none h1] at h; cases h

set_option maxRecDepth 100000 in
theorem own_row {w : World} {e : TypeId} {v : Value} {n : Nat} {xs : List Value} {k : Nat} (h : w.ownsRow 0 e 1 v n xs) (hk : v.ownBlock = some k) : ∃ cur, w.heap[k]? = some (.cells cur e (0, 0)) := by
  rcases h.2 with ⟨rfl, _⟩ | ⟨g, cap, cur, rfl, _, hg, _⟩
  · cases hk
  · simp [Value.ownBlock] at hk; subst hk; exact ⟨cur, hg⟩

set_option maxRecDepth 100000 in
theorem WR.ne {w : World} {b : Nat} {sv : Value} {bs : List UInt8} (h : WR w b sv bs) : sv.ownBlock ≠ some b := by
  intro c
  obtain ⟨cur, hc⟩ := own_row h.own c
  rw [h.blk] at hc; simp at hc

set_option maxRecDepth 100000 in
theorem ownsRow_of_blocks {w w' : World} {e : TypeId} {v : Value} {n : Nat} {xs : List Value} (h : w.ownsRow 0 e 1 v n xs) (hb : ∀ k, v.ownBlock = some k → w'.heap[k]? = w.heap[k]?) : w'.ownsRow 0 e 1 v n xs := by
  refine ⟨h.1, ?_⟩
  rcases h.2 with h2 | ⟨g, cap, cur, rfl, h0, hg, r⟩
  · exact Or.inl h2
  · exact Or.inr ⟨g, cap, cur, rfl, h0, by rw [hb g rfl]; exact hg, r⟩

set_option maxRecDepth 100000 in
/-- A Writer stays what it is while others' blocks are written. -/
theorem WR.keep {w w' : World} {b : Nat} {sv : Value} {bs : List UInt8} {S : List Nat} (h : WR w b sv bs) (hf : Fr S w w') (hb : b ∉ S) (hs : ∀ k, sv.ownBlock = some k → k ∉ S) : WR w' b sv bs :=
  ⟨by rw [hf.block b (lt_of_blk h.blk) hb]; exact h.blk,
   ownsRow_of_blocks h.own fun k hk => hf.block k (by obtain ⟨c, hc⟩ := own_row h.own hk; exact lt_of_blk hc) (hs k hk)⟩

set_option maxRecDepth 100000 in
theorem WStep.refl {w : World} {b : Nat} {sv : Value} {bs : List UInt8} (h : WR w b sv bs) : WStep w w b sv sv bs := ⟨h, Fr.refl _ _, fun _ hk => Or.inl hk⟩
set_option maxRecDepth 100000 in
theorem WStep.trans {w w1 w2 : World} {b : Nat} {sv sv1 sv2 : Value} {bs1 bs2 : List UInt8} (h : WStep w w1 b sv sv1 bs1) (k : WStep w1 w2 b sv1 sv2 bs2) : WStep w w2 b sv sv2 bs2 := by
  refine ⟨k.wr, h.fr.trans k.fr (fun _ _ c => c) (fun x hx c => ?_), fun x hx => ?_⟩
  · simp only [List.mem_cons, Option.mem_toList] at c ⊢
    rcases c with c | c
    · exact Or.inl c
    · rcases h.place x c with c | c
      · exact Or.inr c
      · omega
  · rcases k.place x hx with c | c
    · exact h.place x c
    · exact Or.inr (Nat.le_trans h.fr.size c)
set_option maxRecDepth 100000 in
/-- Steps ahead of which, and behind which, only new blocks are made. -/
theorem WStep.before {w w0 w1 : World} {b : Nat} {sv sv1 : Value} {bs1 : List UInt8} (h : Fr [] w w0) (k : WStep w0 w1 b sv sv1 bs1) : WStep w w1 b sv sv1 bs1 :=
  ⟨k.wr, h.trans k.fr (fun _ _ c => by cases c) (fun _ _ c => c), fun x hx => (k.place x hx).imp id (fun c => Nat.le_trans h.size c)⟩
set_option maxRecDepth 100000 in
theorem WR.new {w w' : World} {b : Nat} {sv : Value} {bs : List UInt8} (h : WR w b sv bs) (hf : Fr [] w w') : WR w' b sv bs := h.keep hf (by simp) (by simp)

set_option maxRecDepth 100000 in
theorem cell0_of_WR {w : World} {b : Nat} {sv : Value} {bs : List UInt8} (h : WR w b sv bs) : w.cell? ⟨b, 0, none⟩ = some (.bool true) := by simp [World.cell?, h.blk]
set_option maxRecDepth 100000 in
theorem cell1_of_WR {w : World} {b : Nat} {sv : Value} {bs : List UInt8} (h : WR w b sv bs) : w.cell? ⟨b, 1, none⟩ = some sv := by simp [World.cell?, h.blk]
set_option maxRecDepth 100000 in
theorem froz1_of_WR {w : World} {b : Nat} {sv : Value} {bs : List UInt8} (h : WR w b sv bs) : w.frozen? ⟨b, 1, none⟩ = false := by simp [World.frozen?, h.blk]

set_option maxRecDepth 100000 in
/-- The store of the new slice, behind an append. -/
theorem WR.stored {w w0 w1 : World} {b : Nat} {sv sv' : Value} {bs bs' : List UInt8} (h : WR w b sv bs) (h0 : Fr [] w w0) (hown : w1.ownsRow 0 5 1 sv' bs'.length (bs'.map B8)) (hg : w0.grownBy w1 sv.ownBlock)
    (hp : ∀ k, sv'.ownBlock = some k → sv.ownBlock = some k ∨ w0.heap.size ≤ k) :
    WStep w (w1.setCell ⟨b, 1, none⟩ sv') b sv sv' bs' ∧ w1.cell? ⟨b, 1, none⟩ = some sv ∧ w1.frozen? ⟨b, 1, none⟩ = false := by
  have hw0 := h.new h0
  have hb1 : w1.heap[b]? = some (.cells #[.bool true, sv] 137 (0, 0)) := by
    rw [hg.block b (lt_of_blk hw0.blk) (fun c => hw0.ne c.symm)]; exact hw0.blk
  have hne : sv'.ownBlock ≠ some b := by
    intro c
    obtain ⟨cur, hc⟩ := own_row hown c
    rw [hb1] at hc; simp at hc
  refine ⟨⟨⟨?_, ?_⟩, ?_, fun k hk => (hp k hk).imp id (fun c => Nat.le_trans h0.size c)⟩, by simp [World.cell?, hb1], by simp [World.frozen?, hb1]⟩
  · simp [World.setCell, Array.getElem?_modify, hb1]
  · exact ownsRow_of_blocks hown fun k hk => Below.heap_setCell _ _ _ _ (fun c => hne (by rw [hk, c]))
  · exact ((h0.trans (T := b :: sv.ownBlock.toList) (Fr.ofGrown hg) (fun _ _ c => by cases c) (fun x _ c => by simp at c ⊢; exact Or.inr c))).setCell (Or.inr (by simp)) _

set_option maxRecDepth 100000 in
/-- Behind the append of one byte: the slice's shape, and what the store leaves. -/
theorem WR.stored1 {w w1 : World} {b : Nat} {sv sv' x : Value} {bs : List UInt8} {o : Obj} (c : UInt8) (h : WR w b sv bs) (hown : w1.ownsRow 0 5 1 sv' (bs.length + 1) (bs.map B8 ++ [x])) (hx : x = B8 c)
    (hg : (w.alloc o).grownBy w1 sv.ownBlock) (hat : sv'.ownBlock = sv.ownBlock ∨ sv'.ownBlock = some (w.heap.size + 1)) :
    (∃ g cap, sv' = .slice (some ⟨g, 0, none⟩) (bs.length + 1) cap) ∧ WStep w (w1.setCell ⟨b, 1, none⟩ sv') b sv sv' (bs ++ [c]) ∧ w1.cell? ⟨b, 1, none⟩ = some sv ∧ w1.frozen? ⟨b, 1, none⟩ = false := by
  refine ⟨?_, h.stored ((Fr.refl [] w).alloc o) (by subst hx; simpa using hown) hg ?_⟩
  · rcases hown.2 with ⟨_, h⟩ | ⟨g, cap, _, h, _⟩
    · omega
    · exact ⟨g, cap, h⟩
  · intro k hk
    rcases hat with h | h
    · exact Or.inl (h ▸ hk)
    · rw [h] at hk; cases hk; exact Or.inr (by simp)

set_option maxRecDepth 100000 in
theorem append_string_place {P : Program} (w : World) (t u ty e : TypeId) (i : TypeInfo) (ht : P.underlying t = some (.slice e)) (hu : P.underlying u = some .string) (hi : P.info? e = some i) (hz : i.zero = some (.int .u8 0))
    (hsize : i.size = 1) (hby : i.bytes = 1) (v : Value) (n : Nat) (xs : List Value) (hown : w.ownsRow 0 e 1 v n xs) (s : ByteArray) (hbytes : n + s.size ≤ 140737488355328) :
    ∃ v' w', (Builtin.append_ #[t, u] ty #[v, .string s]).run P w = .ok v' w' ∧ w'.ownsRow 0 e 1 v' (n + s.size) (xs ++ Lib.strCells s) ∧ w.grownBy w' v.ownBlock ∧ (∀ k, v'.ownBlock = some k → v.ownBlock = some k ∨ w.heap.size ≤ k) := by
  obtain ⟨v', w', hr, h2, h3, h4⟩ := Lib.run_append_own_string (P := P) w 0 t u ty e i ht hu hi hz hsize hby v n xs hown s (by unfold maxLen; omega) hbytes (Nat.zero_le _)
  refine ⟨v', w', hr, h2, h3, ?_⟩
  rcases hown.2 with ⟨rfl, rfl⟩ | ⟨g, cap, cur, rfl, hbg, hg, hnc, hcm, hcs, htake⟩
  · obtain ⟨v2, w2, hr2, k2, _, _⟩ := Lib.run_append_own_string (P := P) w w.heap.size t u ty e i ht hu hi hz hsize hby (.slice none 0 0) 0 xs ⟨hown.1, Or.inl ⟨rfl, rfl⟩⟩ s (by unfold maxLen; omega) hbytes (Nat.le_refl _)
    rw [hr] at hr2; cases hr2
    intro k hk
    exact Or.inr (k2.lt k hk).1
  · by_cases hroom : n + s.size ≤ cap
    · have hr2 := Lib.run_append_room_string (P := P) w t u ty e i ht hu hi hsize g n cap cur hg s hroom (by omega)
      rw [hr] at hr2; cases hr2
      intro k hk; exact Or.inl hk
    · have hr2 := Lib.run_append_grow_string (P := P) w t u ty e i (.int .u8 0) ht hu hi hz ⟨g, 0, none⟩ n cap xs (by rw [hsize]; exact hown.1) (hown.cells (g := g) rfl) s (by omega) (by omega) (by rw [hby]; exact growslice_fits (by omega) (by omega))
      rw [hr] at hr2; cases hr2
      intro k hk; simp [Value.ownBlock] at hk; exact Or.inr (by omega)

set_option maxRecDepth 100000 in
theorem wpList_append_string_place {P : Program} (w : World) {ops : Array Oper} {rest : List Oper} {o : Oper} {a : Act} {Q : Exit → Act → World → Prop} (hgd : o.guard = none) (sl x : Operand) (t u : TypeId)
    (ho : o.op = .call { callee := .builtin .append, args := #[sl, x], argTypes := #[t, u] })
    (e : TypeId) (i : TypeInfo) (ht : P.underlying t = some (.slice e)) (hu : P.underlying u = some .string) (hi : P.info? e = some i) (hz : i.zero = some (.int .u8 0))
    (hsize : i.size = 1) (hby : i.bytes = 1)
    (v : Value) (n : Nat) (xs : List Value) (hs : a.eval sl = v) (hown : w.ownsRow 0 e 1 v n xs) (s : ByteArray) (hx : a.eval x = .string s) (hbytes : n + s.size ≤ 140737488355328)
    (h : ∀ v' w', w'.ownsRow 0 e 1 v' (n + s.size) (xs ++ Lib.strCells s) → w.grownBy w' v.ownBlock → (∀ k, v'.ownBlock = some k → v.ownBlock = some k ∨ w.heap.size ≤ k) → wpList P ops Q rest (a.put o.dst v') w') : wpList P ops Q (o :: rest) a w := by
  refine wpList_plain hgd fun K hK => ?_
  obtain ⟨v', w', hr, h2, h3, h4⟩ := append_string_place (P := P) w t u o.type e i ht hu hi hz hsize hby v n xs hown s hbytes
  unfold Oper.wp execOp
  simp only [ho, resolve, invoke, builtin, Sem.run_bind, Sem.run_pure, Result.andThen_ok, List.map_toArray, List.map_cons, List.map_nil, hs, hx, hr]
  exact hK _ _ (h v' w' h2 h3 h4)

set_option maxRecDepth 100000 in
theorem Try.infoU8 : (Try.prog.info? 5).map (fun i => (i.zero, i.size, i.bytes)) = some (some (.int .u8 0), 1, 1) := by kernel_rfl

end Go.Proofs.Ytimhjheigejjmab.Wi
