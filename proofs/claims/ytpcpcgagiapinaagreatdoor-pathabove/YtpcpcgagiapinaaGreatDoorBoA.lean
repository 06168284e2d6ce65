/- A Book of phratrylaw01 in memory: kept lists of any kind. No walk is in this text. -/
import Derived.Test.YtpcpcgagiapinaaGreatDoorZ07
import Derived.Test.YtpcpcgagiapinaaGreatDoorTtA
namespace Go.Proofs.YtpcpcgagiapinaaGreatDoor
open Go.RowKit Go.Maps
structure Kd where
  e : TypeId
  h : TypeId
  c : Nat
structure Ent where
  v : Value
  n : Nat
  m : Nat
def helE : List Ent → List Value
  | [] => []
  | x :: es => x.v :: .int .i64 (x.n : Int) :: helE es
structure Tf (ts : List TypeId) (B : Nat) (w w' : World) : Prop where
  bel : Below B w w'
  keep : ∀ (k : Nat) (o : Obj), w.heap[k]? = some o → (∀ cur t z, o = .cells cur t z → t ∉ ts) → w'.heap[k]? = some o
theorem Tf.refl (ts : List TypeId) (B : Nat) (w : World) : Tf ts B w w := ⟨Below.refl _ _, fun _ _ h _ => h⟩
theorem Tf.trans {ts : List TypeId} {B : Nat} {w w1 w2 : World} (h : Tf ts B w w1) (k : Tf ts B w1 w2) : Tf ts B w w2 :=
  ⟨h.bel.trans k.bel, fun x o hx ho => k.keep x o (h.keep x o hx ho) ho⟩
theorem Tf.mono {ts ts' : List TypeId} {B : Nat} {w w1 : World} (h : Tf ts B w w1) (hs : ∀ t ∈ ts, t ∈ ts') : Tf ts' B w w1 :=
  ⟨h.bel, fun x o hx ho => h.keep x o hx (fun cur t z e c => ho cur t z e (hs t c))⟩
theorem Tf.size {ts : List TypeId} {B : Nat} {w w' : World} (h : Tf ts B w w') : w.heap.size ≤ w'.heap.size := h.bel.size
theorem Tf.drew {ts : List TypeId} {B : Nat} {w w1 : World} (h : Tf ts B w w1) : Tf ts B w w1.drew := ⟨h.bel.drew, h.keep⟩
theorem Tf.setCell {ts : List TypeId} {B : Nat} {w w1 : World} {g j : Nat} {u : Value} {cur : Array Value} {t : TypeId} {z : Nat × Nat} (h : Tf ts B w w1) (hg : w1.heap[g]? = some (.cells cur t z)) (ht : t ∈ ts) (hB : B ≤ g) : Tf ts B w (w1.setCell ⟨g, j, none⟩ u) := by
  refine ⟨h.bel.setCell hB _, fun k o hk ho => ?_⟩
  have h1 := h.keep k o hk ho
  have hne : k ≠ g := by rintro rfl; rw [hg] at h1; exact ho _ _ _ (Option.some.inj h1).symm ht
  rw [Below.heap_setCell _ _ _ _ (by simpa using hne)]; exact h1
theorem Tf.blk {ts : List TypeId} {B : Nat} {w w' : World} {b : Nat} {cs : Array Value} {t : TypeId} {z : Nat × Nat} (h : Tf ts B w w') (hb : w.heap[b]? = some (.cells cs t z)) (ht : t ∉ ts) : w'.heap[b]? = some (.cells cs t z) :=
  h.keep b _ hb (fun cur t' z' e => by cases e; exact ht)
theorem Tf.own {ts : List TypeId} {B B' : Nat} {w w' : World} {e : TypeId} {c n : Nat} {v : Value} {xs : List Value} (h : Tf ts B w w') (ho : w.ownsRow B' e c v n xs) (he : e ∉ ts) : w'.ownsRow B' e c v n xs :=
  own_keep ho (fun k hk => by
    obtain ⟨cur, hc⟩ := own_kind ho hk
    rw [h.blk hc he, hc])
structure Ke (K : Kd) (B : Nat) (w : World) (lv : Value) (es : List Ent) (X : Nat → List Value) : Prop where
  own : w.ownsRow B K.h 2 lv es.length (helE es)
  row : ∀ (i : Nat) (x : Ent), es[i]? = some x → w.ownsRow B K.e K.c x.v x.m (X i)
  apart : ∀ (i j : Nat) (a b : Ent) (k : Nat), i ≠ j → es[i]? = some a → es[j]? = some b → a.v.ownBlock = some k → b.v.ownBlock ≠ some k
theorem Ke.nil (K : Kd) (B : Nat) (w : World) : Ke K B w (.slice none 0 0) [] (fun _ => []) :=
  ⟨World.ownsRow_nil _ _ _ _, fun i x h => by simp at h, fun i j a b k _ h => by simp at h⟩
theorem Ke.bw {K : Kd} {B : Nat} {w w' : World} {lv : Value} {es : List Ent} {X : Nat → List Value} (h : Ke K B w lv es X) (hb : Below w.heap.size w w') : Ke K B w' lv es X :=
  ⟨own_keep h.own (fun k hk => hb.block k (World.ownsRow.lt h.own k hk).2), fun i x hx => own_keep (h.row i x hx) (fun k hk => hb.block k (World.ownsRow.lt (h.row i x hx) k hk).2), h.apart⟩
theorem setCell_blk {w : World} {b k : Nat} {cs : Array Value} {t : TypeId} {z : Nat × Nat} {v : Value} (h : w.heap[b]? = some (.cells cs t z)) : (w.setCell ⟨b, k, none⟩ v).heap[b]? = some (.cells (cs.setIfInBounds k v) t z) := by simp [World.setCell, Array.getElem?_modify, h]
end Go.Proofs.YtpcpcgagiapinaaGreatDoor
