/- Texts joined: BoA TtB TtC TtD TtE. -/
import Derived.Test.YtnfhbmlmemifjaaGreatDoorZ06
import Derived.Test.YtnfhbmlmemifjaaGreatDoorTtA
/- A Book of phratrylaw01 in memory: kept lists of any kind. No walk is in this text. -/
namespace Go.Proofs.YtnfhbmlmemifjaaGreatDoor
open Go.RowKit Go.Maps
structure Kd where
  e : TypeId
  h : TypeId
  c : Nat
structure Ent where
  v : Value
  n : Nat
  m : Nat
def helE : List Ent → List Value
  | [] => []
  | x :: es => x.v :: .int .i64 (x.n : Int) :: helE es
theorem helE_snoc (es : List Ent) (x : Ent) : helE (es ++ [x]) = helE es ++ [x.v, .int .i64 (x.n : Int)] := by
  induction es with
  | nil => rfl
  | cons y es ih => simp only [List.cons_append, helE, ih]
theorem helE_get {es : List Ent} {i : Nat} {x : Ent} (h : es[i]? = some x) : (helE es)[i * 2]? = some x.v ∧ (helE es)[i * 2 + 1]? = some (.int .i64 (x.n : Int)) := by
  induction es generalizing i with
  | nil => simp at h
  | cons y es ih =>
    cases i with
    | zero => simp at h; subst h; exact ⟨rfl, rfl⟩
    | succ i =>
      have := ih (i := i) (by simpa using h)
      rw [show (i + 1) * 2 = i * 2 + 2 by omega]
      exact this
theorem helE_set {es : List Ent} {i : Nat} {x : Ent} (h : es[i]? = some x) (v' : Value) (m' : Nat) : (helE es).set (i * 2) v' = helE (es.set i ⟨v', x.n, m'⟩) := by
  induction es generalizing i with
  | nil => simp at h
  | cons y es ih =>
    cases i with
    | zero => simp at h; subst h; rfl
    | succ i =>
      have := ih (i := i) (by simpa using h)
      rw [show (i + 1) * 2 = i * 2 + 2 by omega]
      simp only [helE, List.set_cons_succ, this]
structure Tf (ts : List TypeId) (B : Nat) (w w' : World) : Prop where
  bel : Below B w w'
  keep : ∀ (k : Nat) (o : Obj), w.heap[k]? = some o → (∀ cur t z, o = .cells cur t z → t ∉ ts) → w'.heap[k]? = some o
theorem Tf.refl (ts : List TypeId) (B : Nat) (w : World) : Tf ts B w w := ⟨Below.refl _ _, fun _ _ h _ => h⟩
theorem Tf.trans {ts : List TypeId} {B : Nat} {w w1 w2 : World} (h : Tf ts B w w1) (k : Tf ts B w1 w2) : Tf ts B w w2 :=
  ⟨h.bel.trans k.bel, fun x o hx ho => k.keep x o (h.keep x o hx ho) ho⟩
theorem Tf.mono {ts ts' : List TypeId} {B : Nat} {w w1 : World} (h : Tf ts B w w1) (hs : ∀ t ∈ ts, t ∈ ts') : Tf ts' B w w1 :=
  ⟨h.bel, fun x o hx ho => h.keep x o hx (fun cur t z e c => ho cur t z e (hs t c))⟩
theorem Tf.ofBelow {ts : List TypeId} {B : Nat} {w w' : World} (h : Below w.heap.size w w') (hB : B ≤ w.heap.size) : Tf ts B w w' :=
  ⟨bw_mono h hB, fun k o hk _ => by rw [h.block k (lt_of_blk hk)]; exact hk⟩
theorem Tf.size {ts : List TypeId} {B : Nat} {w w' : World} (h : Tf ts B w w') : w.heap.size ≤ w'.heap.size := h.bel.size
theorem Tf.after {ts : List TypeId} {B : Nat} {w w1 w2 : World} (h : Tf ts B w w1) (hb : Below w1.heap.size w1 w2) (hB : B ≤ w.heap.size) : Tf ts B w w2 := h.trans (Tf.ofBelow hb (Nat.le_trans hB h.size))
theorem Tf.drew {ts : List TypeId} {B : Nat} {w w1 : World} (h : Tf ts B w w1) : Tf ts B w w1.drew := ⟨h.bel.drew, h.keep⟩
theorem Tf.setCell {ts : List TypeId} {B : Nat} {w w1 : World} {g j : Nat} {u : Value} {cur : Array Value} {t : TypeId} {z : Nat × Nat} (h : Tf ts B w w1) (hg : w1.heap[g]? = some (.cells cur t z)) (ht : t ∈ ts) (hB : B ≤ g) : Tf ts B w (w1.setCell ⟨g, j, none⟩ u) := by
  refine ⟨h.bel.setCell hB _, fun k o hk ho => ?_⟩
  have h1 := h.keep k o hk ho
  have hne : k ≠ g := by rintro rfl; rw [hg] at h1; exact ho _ _ _ (Option.some.inj h1).symm ht
  rw [Below.heap_setCell _ _ _ _ (by simpa using hne)]; exact h1
theorem Tf.blk {ts : List TypeId} {B : Nat} {w w' : World} {b : Nat} {cs : Array Value} {t : TypeId} {z : Nat × Nat} (h : Tf ts B w w') (hb : w.heap[b]? = some (.cells cs t z)) (ht : t ∉ ts) : w'.heap[b]? = some (.cells cs t z) :=
  h.keep b _ hb (fun cur t' z' e => by cases e; exact ht)
theorem Tf.own {ts : List TypeId} {B B' : Nat} {w w' : World} {e : TypeId} {c n : Nat} {v : Value} {xs : List Value} (h : Tf ts B w w') (ho : w.ownsRow B' e c v n xs) (he : e ∉ ts) : w'.ownsRow B' e c v n xs :=
  own_keep ho (fun k hk => by
    obtain ⟨cur, hc⟩ := own_kind ho hk
    rw [h.blk hc he, hc])
theorem Tf.grown {ts : List TypeId} {B : Nat} {w w0 w1 : World} {row : Option Nat} (h : Tf ts B w w0) (hg : w0.grownBy w1 row) (hr : ∀ k, row = some k → B ≤ k ∧ ∃ cur t z, w0.heap[k]? = some (.cells cur t z) ∧ t ∈ ts) (hB : B ≤ w0.heap.size) : Tf ts B w w1 := by
  refine h.trans ⟨⟨hg.os, hg.tape, hg.output, hg.size, fun k hk => hg.block k (by omega) (fun c => by have := (hr k c.symm).1; omega)⟩, fun k o hk ho => ?_⟩
  rw [hg.block k (lt_of_blk hk) (fun c => ?_)]
  · exact hk
  · obtain ⟨-, cur, t, z, h1, h2⟩ := hr k c.symm
    rw [hk] at h1
    exact ho _ _ _ (Option.some.inj h1) h2
structure Ke (K : Kd) (B : Nat) (w : World) (lv : Value) (es : List Ent) (X : Nat → List Value) : Prop where
  own : w.ownsRow B K.h 2 lv es.length (helE es)
  row : ∀ (i : Nat) (x : Ent), es[i]? = some x → w.ownsRow B K.e K.c x.v x.m (X i)
  apart : ∀ (i j : Nat) (a b : Ent) (k : Nat), i ≠ j → es[i]? = some a → es[j]? = some b → a.v.ownBlock = some k → b.v.ownBlock ≠ some k
theorem Ke.nil (K : Kd) (B : Nat) (w : World) : Ke K B w (.slice none 0 0) [] (fun _ => []) :=
  ⟨World.ownsRow_nil _ _ _ _, fun i x h => by simp at h, fun i j a b k _ h => by simp at h⟩
theorem Ke.tf {K : Kd} {B B' : Nat} {w w' : World} {lv : Value} {es : List Ent} {X : Nat → List Value} {ts : List TypeId} (h : Ke K B w lv es X) (ht : Tf ts B' w w') (he : K.e ∉ ts) (hh : K.h ∉ ts) : Ke K B w' lv es X :=
  ⟨ht.own h.own hh, fun i x hx => ht.own (h.row i x hx) he, h.apart⟩
theorem Ke.bw {K : Kd} {B : Nat} {w w' : World} {lv : Value} {es : List Ent} {X : Nat → List Value} (h : Ke K B w lv es X) (hb : Below w.heap.size w w') : Ke K B w' lv es X :=
  ⟨own_keep h.own (fun k hk => hb.block k (World.ownsRow.lt h.own k hk).2), fun i x hx => own_keep (h.row i x hx) (fun k hk => hb.block k (World.ownsRow.lt (h.row i x hx) k hk).2), h.apart⟩
theorem Ke.form {K : Kd} {B : Nat} {w : World} {lv : Value} {es : List Ent} {X : Nat → List Value} (h : Ke K B w lv es X) : ∃ a cap, lv = .slice a es.length cap := own_slice h.own
theorem Ke.entry {K : Kd} {B : Nat} {w : World} {a : Option Addr} {cap N : Nat} {es : List Ent} {X : Nat → List Value} (h : Ke K B w (.slice a N cap) es X) {i : Nat} {x : Ent} (hx : es[i]? = some x) :
    ∃ g, a = some ⟨g, 0, none⟩ ∧ B ≤ g ∧ w.cell? ⟨g, i * 2, none⟩ = some x.v ∧ w.cell? ⟨g, i * 2 + 1, none⟩ = some (.int .i64 (x.n : Int)) ∧ (∀ k, w.frozen? ⟨g, k, none⟩ = false) ∧ ∃ cur, w.heap[g]? = some (.cells cur K.h (0, 0)) := by
  have hi : 0 < es.length := by have := (List.getElem?_eq_some_iff.1 hx).1; omega
  obtain ⟨g, cap', e, hg, _, _⟩ := own_open h.own hi
  cases e
  obtain ⟨q1, q2⟩ := helE_get hx
  obtain ⟨cur, hc⟩ := own_kind h.own (k := g) rfl
  exact ⟨g, rfl, (World.ownsRow.lt h.own g rfl).1, own_cell h.own rfl q1, own_cell h.own rfl q2, fun k => frozen_of_blk0 hc k, cur, hc⟩
theorem Ke.put {K : Kd} {B : Nat} {w w' : World} {lv : Value} {es : List Ent} {X : Nat → List Value} (h : Ke K B w lv es X) {i : Nat} {x : Ent} (hx : es[i]? = some x) (hf : Fr x.v.ownBlock.toList w w') {xs : List Value} (ho : w'.ownsRow B K.e K.c x.v x.m xs) (hne : K.h ≠ K.e) : Ke K B w' lv es (fun j => if j = i then xs else X j) := by
  refine ⟨own_keep h.own (fun k hk => hf.block k (World.ownsRow.lt h.own k hk).2 (fun c => ?_)), fun j y hy => ?_, h.apart⟩
  · have c' : x.v.ownBlock = some k := by simpa using c
    exact own_apart h.own (h.row i x hx) hne hk c'
  · by_cases q : j = i
    · subst q
      rw [hx] at hy
      cases hy
      simpa using ho
    · simp only [q, if_false]
      refine own_keep (h.row j y hy) (fun k hk => hf.block k (World.ownsRow.lt (h.row j y hy) k hk).2 (fun c => ?_))
      have c' : x.v.ownBlock = some k := by simpa using c
      exact h.apart j i y x k q hy hx hk c'
theorem Ke.grown {K : Kd} {B : Nat} {w w0 w1 : World} {g cap N : Nat} {es : List Ent} {X : Nat → List Value} (h : Ke K B w (.slice (some ⟨g, 0, none⟩) N cap) es X) {i : Nat} {x : Ent} (hx : es[i]? = some x) (h0 : Fr [] w w0) {v' : Value} {news : List Value}
    (hown : w1.ownsRow B K.e K.c v' (x.m + 1) (X i ++ news)) (hg : w0.grownBy w1 x.v.ownBlock) (hat : v'.ownBlock = x.v.ownBlock ∨ v'.ownBlock = some w0.heap.size) (hB : B ≤ w.heap.size) (hne : K.h ≠ K.e) :
    Ke K B (w1.setCell ⟨g, i * 2, none⟩ v') (.slice (some ⟨g, 0, none⟩) N cap) (es.set i ⟨v', x.n, x.m + 1⟩) (fun j => if j = i then X i ++ news else X j) ∧ Tf [K.e, K.h] B w (w1.setCell ⟨g, i * 2, none⟩ v') ∧ w1.cell? ⟨g, i * 2, none⟩ = some x.v ∧ w1.frozen? ⟨g, i * 2, none⟩ = false := by
  have hI := h.row i x hx
  have hi : i < es.length := (List.getElem?_eq_some_iff.1 hx).1
  obtain ⟨gcur, hgt⟩ := own_kind h.own (k := g) rfl
  have hgw := lt_of_blk hgt
  have hs0 := h0.size
  have hvg : x.v.ownBlock ≠ some g := fun e => own_apart h.own hI hne (k := g) rfl e
  have hv'g : v'.ownBlock ≠ some g := by
    rcases hat with q | q
    · rw [q]; exact hvg
    · rw [q]; intro e; simp at e; omega
  have hbg : B ≤ g := (World.ownsRow.lt h.own g rfl).1
  have keep0 : ∀ k, k < w.heap.size → x.v.ownBlock ≠ some k → w1.heap[k]? = w.heap[k]? := fun k hk hn => by
    rw [hg.block k (by omega) (fun c => hn c.symm), h0.block k hk (by simp)]
  have hlv1 : w1.ownsRow B K.h 2 (.slice (some ⟨g, 0, none⟩) N cap) es.length (helE es) := own_keep h.own (fun k hk => keep0 k (World.ownsRow.lt h.own k hk).2 (fun e => own_apart h.own hI hne hk e))
  obtain ⟨gcur1, hgt1⟩ := own_kind hlv1 (k := g) rfl
  refine ⟨⟨?_, fun j y hy => ?_, fun j m a b k hjm ha hb hak hbk => ?_⟩, ?_, own_cell hlv1 rfl (helE_get hx).1, frozen_of_blk0 hgt1 _⟩
  · rw [List.length_set, ← helE_set hx v' (x.m + 1)]
    exact own_set hlv1 (g := g) rfl v'
  · by_cases q : j = i
    · subst q
      rw [List.getElem?_set_self hi] at hy
      cases hy
      simp only [if_true]
      exact own_keep hown (fun k hk => Below.heap_setCell _ _ _ _ (by simp; rintro rfl; exact hv'g hk))
    · rw [List.getElem?_set_ne (Ne.symm q)] at hy
      simp only [q, if_false]
      have hr := h.row j y hy
      refine own_keep hr (fun k hk => ?_)
      have hkg : k ≠ g := by rintro rfl; exact own_apart h.own hr hne (k := k) rfl hk
      rw [Below.heap_setCell _ _ _ _ (by simpa using hkg)]
      exact keep0 k (World.ownsRow.lt hr k hk).2 (fun e => h.apart j i y x k q hy hx hk e)
  · have lt : ∀ (j : Nat) (y : Ent) (k : Nat), es[j]? = some y → y.v.ownBlock = some k → k < w.heap.size := fun j y k hy hk => (World.ownsRow.lt (h.row j y hy) k hk).2
    by_cases q : j = i
    · subst q
      rw [List.getElem?_set_self hi] at ha
      cases ha
      rw [List.getElem?_set_ne hjm] at hb
      rcases hat with q2 | q2
      · rw [q2] at hak; exact h.apart j m x b k hjm hx hb hak hbk
      · rw [q2] at hak; simp at hak
        have := lt m b k hb hbk
        omega
    · rw [List.getElem?_set_ne (Ne.symm q)] at ha
      by_cases q3 : m = i
      · subst q3
        rw [List.getElem?_set_self hi] at hb
        cases hb
        rcases hat with q2 | q2
        · rw [q2] at hbk; exact h.apart j m a x k hjm ha hx hak hbk
        · rw [q2] at hbk; simp at hbk
          have := lt j a k ha hak
          omega
      · rw [List.getElem?_set_ne (Ne.symm q3)] at hb
        exact h.apart j m a b k hjm ha hb hak hbk
  · refine Tf.setCell (Tf.grown (Tf.ofBelow h0.toBelow hB) hg (fun k hk => ⟨(World.ownsRow.lt hI k hk).1, ?_⟩) (by omega)) hgt1 (by simp) hbg
    obtain ⟨cur, hc⟩ := own_kind hI hk
    exact ⟨cur, K.e, (0, 0), by rw [h0.block k (lt_of_blk hc) (by simp)]; exact hc, by simp⟩
def bookF (c : Int) (F : Nat → Value) : Array Value := (Array.range 35).map fun j => if j = 0 then .int .i64 c else F j
def updF (F : Nat → Value) (k : Nat) (v : Value) : Nat → Value := fun j => if j = k then v else F j
theorem bookF_get {c : Int} {F : Nat → Value} {k : Nat} (h0 : 0 < k) (h : k < 35) : (bookF c F)[k]? = some (F k) := by
  have : ¬ k = 0 := by omega
  simp [bookF, h, this]
theorem bookF_zero (c : Int) (F : Nat → Value) : (bookF c F)[0]? = some (.int .i64 c) := by simp [bookF]
theorem bookF_set {c : Int} {F : Nat → Value} {k : Nat} (h0 : 0 < k) (v : Value) : (bookF c F).setIfInBounds k v = bookF c (updF F k v) := by
  apply Array.ext_getElem?
  intro j
  rw [Array.getElem?_setIfInBounds]
  by_cases q : k = j
  · subst q
    rcases Nat.lt_or_ge k 35 with c | c
    · rw [if_pos rfl, bookF_get h0 c]; simp [bookF, updF, c]
    · simp [bookF, Nat.not_lt.2 c]
  · rw [if_neg q]
    rcases Nat.lt_or_ge j 35 with c | c
    · have q' : ¬ j = k := fun e => q e.symm
      simp [bookF, updF, c, q']
    · simp [bookF, Nat.not_lt.2 c]
theorem bookF_count {c c' : Int} {F : Nat → Value} : (bookF c F).setIfInBounds 0 (.int .i64 c') = bookF c' F := by
  apply Array.ext_getElem?
  intro j
  rw [Array.getElem?_setIfInBounds]
  by_cases q : 0 = j
  · subst q; simp [bookF]
  · rw [if_neg q]
    have q' : ¬ j = 0 := fun e => q e.symm
    rcases Nat.lt_or_ge j 35 with c | c
    · simp [bookF, c, q']
    · simp [bookF, Nat.not_lt.2 c]
theorem book_cell {w : World} {b : Nat} {c : Int} {F : Nat → Value} {t : TypeId} (h : w.heap[b]? = some (.cells (bookF c F) t (0, 0))) {k : Nat} (h0 : 0 < k) (h35 : k < 35) : w.cell? ⟨b, k, none⟩ = some (F k) := cell_of_blk h (bookF_get h0 h35)
theorem setCell_blk {w : World} {b k : Nat} {cs : Array Value} {t : TypeId} {z : Nat × Nat} {v : Value} (h : w.heap[b]? = some (.cells cs t z)) : (w.setCell ⟨b, k, none⟩ v).heap[b]? = some (.cells (cs.setIfInBounds k v) t z) := by simp [World.setCell, Array.getElem?_modify, h]
theorem Ke.kept {K : Kd} {B : Nat} {w w0 w1 : World} {b k n : Nat} {F : Nat → Value} {es : List Ent} {X : Nat → List Value} {lv' l : Value} {T : TypeId} (h : Ke K B w (F k) es X) (hb : w.heap[b]? = some (.cells (bookF (n : Int) F) T (0, 0))) (hT : K.h ≠ T) (hB : B ≤ b) (hBw : B ≤ w.heap.size) (k0 : 0 < k) (k35 : k < 35) (h0 : Fr [] w w0)
    (hown : w1.ownsRow B K.h 2 lv' (es.length + 1) (helE es ++ [l, .int .i64 (n : Int)])) (hg : w0.grownBy w1 (F k).ownBlock) (hat : lv'.ownBlock = (F k).ownBlock ∨ lv'.ownBlock = some w0.heap.size) :
    ((w1.setCell ⟨b, k, none⟩ lv').setCell ⟨b, 0, none⟩ (.int .i64 ((n : Int) + 1))).heap[b]? = some (.cells (bookF ((n + 1 : Nat) : Int) (updF F k lv')) T (0, 0)) ∧
    (∀ m, ((w1.setCell ⟨b, k, none⟩ lv').setCell ⟨b, 0, none⟩ (.int .i64 ((n : Int) + 1))).ownsRow B K.h 2 lv' (es ++ [Ent.mk l n m]).length (helE (es ++ [Ent.mk l n m]))) ∧
    Tf [T, K.h] B w ((w1.setCell ⟨b, k, none⟩ lv').setCell ⟨b, 0, none⟩ (.int .i64 ((n : Int) + 1))) ∧
    w1.cell? ⟨b, k, none⟩ = some (F k) ∧ w1.frozen? ⟨b, k, none⟩ = false ∧ w1.cell? ⟨b, 0, none⟩ = some (.int .i64 (n : Int)) ∧ w1.frozen? ⟨b, 0, none⟩ = false := by
  have hbw := lt_of_blk hb
  have hne : (F k).ownBlock ≠ some b := own_block_ne h.own hb hT
  have hs0 := h0.size
  have hb1 : w1.heap[b]? = some (.cells (bookF (n : Int) F) T (0, 0)) := by
    rw [hg.block b (by omega) (fun c => hne c.symm), h0.block b hbw (by simp)]; exact hb
  have hne' : lv'.ownBlock ≠ some b := by
    rcases hat with c | c
    · rw [c]; exact hne
    · rw [c]; intro e; simp at e; omega
  have hb2 : (w1.setCell ⟨b, k, none⟩ lv').heap[b]? = some (.cells (bookF (n : Int) (updF F k lv')) T (0, 0)) := by
    rw [setCell_blk hb1, bookF_set k0]
  refine ⟨?_, fun m => ?_, ?_, cell_of_blk hb1 (bookF_get k0 k35), frozen_of_blk0 hb1 _, cell_of_blk hb1 (bookF_zero _ _), frozen_of_blk0 hb1 _⟩
  · rw [setCell_blk hb2, bookF_count]
    rfl
  · rw [helE_snoc, List.length_append]
    refine own_keep hown (fun x hx => ?_)
    have hxb : x ≠ b := by rintro rfl; exact hne' hx
    rw [Below.heap_setCell _ _ _ _ (by simpa using hxb), Below.heap_setCell _ _ _ _ (by simpa using hxb)]
  · refine Tf.setCell (Tf.setCell (Tf.grown (Tf.ofBelow h0.toBelow hBw) hg (fun x hx => ⟨(World.ownsRow.lt h.own x hx).1, ?_⟩) (by omega)) hb1 (by simp) hB) hb2 (by simp) hB
    obtain ⟨cur, hc⟩ := own_kind h.own hx
    exact ⟨cur, K.h, (0, 0), by rw [h0.block x (lt_of_blk hc) (by simp)]; exact hc, by simp⟩
theorem Ke.snoc {K : Kd} {B : Nat} {w w' : World} {lv lv' : Value} {es : List Ent} {X : Nat → List Value} {T : TypeId} {x : Ent} {xs : List Value} (h : Ke K B w lv es X) (ht : Tf [T, K.h] B w w') (hT : K.e ≠ T) (hne : K.e ≠ K.h) (ho : w'.ownsRow B K.h 2 lv' (es ++ [x]).length (helE (es ++ [x]))) (hx : w.ownsRow B K.e K.c x.v x.m xs)
    (hap : ∀ (i : Nat) (y : Ent) (k : Nat), es[i]? = some y → y.v.ownBlock = some k → x.v.ownBlock ≠ some k) : Ke K B w' lv' (es ++ [x]) (fun j => if j = es.length then xs else X j) := by
  have hn : K.e ∉ [T, K.h] := by simp; exact ⟨hT, hne⟩
  have cs : ∀ (j : Nat) (y : Ent), (es ++ [x])[j]? = some y → (j < es.length ∧ es[j]? = some y) ∨ (j = es.length ∧ y = x) := fun j y hy => by
    rcases Nat.lt_or_ge j es.length with c | c
    · rw [List.getElem?_append_left c] at hy; exact Or.inl ⟨c, hy⟩
    · rw [List.getElem?_append_right c] at hy
      rcases Nat.eq_or_lt_of_le c with e | e
      · rw [← e] at hy; simp at hy; exact Or.inr ⟨e.symm, hy.symm⟩
      · rw [List.getElem?_eq_none (by simp; omega)] at hy; cases hy
  refine ⟨ho, fun j y hy => ?_, fun i j a b k hij ha hb hak hbk => ?_⟩
  · rcases cs j y hy with ⟨c, hy'⟩ | ⟨rfl, rfl⟩
    · have : ¬ j = es.length := by omega
      simp only [this, if_false]
      exact ht.own (h.row j y hy') hn
    · simp only [if_true]
      exact ht.own hx hn
  · rcases cs i a ha with ⟨c, ha'⟩ | ⟨rfl, rfl⟩
    · rcases cs j b hb with ⟨c', hb'⟩ | ⟨rfl, rfl⟩
      · exact h.apart i j a b k hij ha' hb' hak hbk
      · exact hap i a k ha' hak hbk
    · rcases cs j b hb with ⟨c', hb'⟩ | ⟨rfl, rfl⟩
      · exact hap j b k hb' hbk hak
      · exact hij rfl
end Go.Proofs.YtnfhbmlmemifjaaGreatDoor

/- Copies of rows of nodes with marks behind them: what they are in memory. TwinNode, markNode. -/
namespace Go.Proofs.YtnfhbmlmemifjaaGreatDoor
open Go.RowKit Go.Maps
theorem made_nodes (m : Nat) : (madeCells (Value.agg #[.int .i64 0, .int .i64 0, .int .i64 0, .slice none 0 0]).cells (m * 4)).toList = treeC (List.replicate m nd0) (List.replicate m (.slice none 0 0)) := by
  apply List.ext_getElem?
  intro i
  rcases Nat.lt_or_ge i (m * 4) with h | h
  · obtain ⟨q, r, hr, rfl⟩ : ∃ q r, r < 4 ∧ i = q * 4 + r := ⟨i / 4, i % 4, by omega, by omega⟩
    have hq : q < m := by omega
    have e : (madeCells (Value.agg #[.int .i64 0, .int .i64 0, .int .i64 0, .slice none 0 0]).cells (m * 4)).toList[q * 4 + r]? = some ((#[.int .i64 0, .int .i64 0, .int .i64 0, .slice none 0 0] : Array Value)[r]!) := by
      have e2 : (q * 4 + r) % 4 = r := by omega
      simp [madeCells, Value.cells, h, e2]
    rw [e]
    symm
    refine treeC_get (n := nd0) (u := .slice none 0 0) (by simp [hq]) (by simp [hq]) ?_
    match r, hr with
    | 0, _ => rfl
    | 1, _ => rfl
    | 2, _ => rfl
    | 3, _ => rfl
  · rw [List.getElem?_eq_none (by simp [madeCells]; exact h), List.getElem?_eq_none (by rw [treeC_len (by simp)]; simpa using h)]
def mkN (n : Nat) : Nd := ⟨mkI n, 0, 0, []⟩
set_option maxRecDepth 100000 in
set_option maxHeartbeats 2000000 in
theorem twinNode_any (w : World) (p m e : Int) (u : Value) (l : List Int) (hu : Nums w u l) (hl : l.length ≤ 1048576) :
    Calls Tryz.prog 299 #[.agg #[.int .i64 p, .int .i64 m, .int .i64 e, u]] w fun x w' => ∃ g, x = .returned (.agg #[.int .i64 p, .int .i64 m, .int .i64 e, .slice (some ⟨g, 0, none⟩) l.length (l.length + 2)]) ∧ w.heap.size ≤ g ∧ Twint w' g l ∧ Below w.heap.size w w' := by
  obtain ⟨a, c, rfl⟩ := nums_slice hu
  obtain ⟨W0, hW0⟩ : ∃ W0, W0 = (w.alloc (.cells #[.int .i64 p, .int .i64 m, .int .i64 e, .slice a l.length c] 256)).alloc (.cells #[.int .i64 0, .int .i64 0, .int .i64 0, .slice none 0 0] 256) := ⟨_, rfl⟩
  have hb0 : Below w.heap.size w W0 := by rw [hW0]; exact (bwA _ _).alloc (by simp) _
  have hs0 : W0.heap.size = w.heap.size + 2 := by rw [hW0]; simp
  have HB : Hid (∀ W, Below W0.heap.size W0 W → W.heap[w.heap.size]? = some (.cells #[.int .i64 p, .int .i64 m, .int .i64 e, .slice a l.length c] 256 (0, 0)) ∧ W.heap[w.heap.size + 1]? = some (.cells #[.int .i64 0, .int .i64 0, .int .i64 0, .slice none 0 0] 256 (0, 0)) ∧ Below w.heap.size w W) := fun W hW => by
    refine ⟨?_, ?_, bw_tr hb0 hW⟩
    · rw [hW.block _ (by omega), hW0, Below.heap_alloc _ _ _ (by simp)]; exact heap_alloc_new _ _
    · rw [hW.block _ (by omega), hW0]
      have := heap_alloc_new (w.alloc (.cells #[.int .i64 p, .int .i64 m, .int .i64 e, .slice a l.length c] 256)) (.cells #[.int .i64 0, .int .i64 0, .int .i64 0, .slice none 0 0] 256)
      simpa using this
  have KT := hide (twinint_any W0 _ l (hu.bw hb0) hl)
  have HW : Hid (W0 = (w.alloc (.cells #[.int .i64 p, .int .i64 m, .int .i64 e, .slice a l.length c] 256)).alloc (.cells #[.int .i64 0, .int .i64 0, .int .i64 0, .slice none 0 0] 256)) := hW0
  have HS := hide hs0
  clear hW0 hu hl hb0 hs0
  obtain ⟨L, hL⟩ : ∃ L, L = l.length := ⟨_, rfl⟩
  rw [← hL] at KT HW HB ⊢
  have HL := hide hL
  clear hL
  go_enter Tryz.func299, Tryz.ntmps299
  go_wp2_with fail
  rw [← unhide HW]
  refine (unhide KT).mono ?_
  rintro x w1 ⟨rfl, ht, b1⟩
  obtain ⟨k1, k2, b2⟩ := unhide HB _ b1
  have c0 := cell_of_blk k1 (o := 0) rfl; have c1 := cell_of_blk k1 (o := 1) rfl; have c2 := cell_of_blk k1 (o := 2) rfl; have c3 := cell_of_blk k1 (o := 3) rfl
  have d0 := cell_of_blk k2 (o := 0) rfl; have d1 := cell_of_blk k2 (o := 1) rfl; have d2 := cell_of_blk k2 (o := 2) rfl; have d3 := cell_of_blk k2 (o := 3) rfl
  have f3 := frozen_of_blk0 k1 3
  have e0 := frozen_of_blk0 k2 0; have e1 := frozen_of_blk0 k2 1; have e2 := frozen_of_blk0 k2 2; have e3 := frozen_of_blk0 k2 3
  have hs := unhide HS
  obtain ⟨sl, hsl⟩ : ∃ sl, sl = Value.slice (some ⟨W0.heap.size, 0, none⟩) L (L + 2) := ⟨_, rfl⟩
  obtain ⟨WZ, hWZ⟩ : ∃ WZ, WZ = ((((w1.setCell ⟨w.heap.size, 3, none⟩ (.slice (some ⟨W0.heap.size, 0, none⟩) L (L + 2))).setCell ⟨w.heap.size + 1, 0, none⟩ (.int .i64 p)).setCell ⟨w.heap.size + 1, 1, none⟩ (.int .i64 m)).setCell ⟨w.heap.size + 1, 2, none⟩ (.int .i64 e)).setCell ⟨w.heap.size + 1, 3, none⟩ (.slice (some ⟨W0.heap.size, 0, none⟩) L (L + 2)) := ⟨_, rfl⟩
  have z : WZ.heap[w.heap.size + 1]? = some (.cells #[.int .i64 p, .int .i64 m, .int .i64 e, .slice (some ⟨W0.heap.size, 0, none⟩) L (L + 2)] 256 (0, 0)) := by
    rw [hWZ]; simp [World.setCell, Array.getElem?_modify, k2]
  have z0 := cell_of_blk z (o := 0) rfl; have z1 := cell_of_blk z (o := 1) rfl; have z2 := cell_of_blk z (o := 2) rfl; have z3 := cell_of_blk z (o := 3) rfl
  have HF : Hid (Twint WZ W0.heap.size l ∧ Below w.heap.size w WZ) := by
    refine ⟨?_, ?_⟩
    · unfold Twint at ht ⊢
      rw [← ht, hWZ]
      have n1 : ¬ w.heap.size + 1 = W0.heap.size := by omega
      have n2 : ¬ w.heap.size = W0.heap.size := by omega
      simp [World.setCell, Array.getElem?_modify, n1, n2]
    · rw [hWZ]; exact ((((b2.setCell (by simp) _).setCell (by simp) _).setCell (by simp) _).setCell (by simp) _).setCell (by simp) _
  have HZ := hide hWZ
  clear hWZ z ht b1 b2 k1 k2 hsl hs
  go_wp2_with fail
  rw [← unhide HZ]
  exact bodyPost_ret (v := .agg #[.int .i64 p, .int .i64 m, .int .i64 e, .slice (some ⟨W0.heap.size, 0, none⟩) L (L + 2)]) (by simp [results, Tryz.results299, go_sem, z0, z1, z2, z3]) rfl ⟨W0.heap.size, rfl, by have := unhide HS; omega, (unhide HF).1, (unhide HF).2⟩
set_option maxHeartbeats 2000000 in
theorem markNode_any (n : Nat) (w : World) (h : (n : Int) ≤ 1125899906842624) :
    Calls Tryz.prog 213 #[.int .i64 (n : Int)] w fun e w' => e = .returned (.agg #[.int .i64 (mkI n), .int .i64 0, .int .i64 0, .slice none 0 0]) ∧ Below w.heap.size w w' := by
  have hm : -1000 - (n : Int) = mkI n := rfl
  go_enter Tryz.func213, Tryz.ntmps213
  go_wp2_with fail
  have z := heap_alloc_new w (.cells #[.int .i64 (mkI n), .int .i64 0, .int .i64 0, .slice none 0 0] 256)
  have hb := bwA w (.cells #[.int .i64 (mkI n), .int .i64 0, .int .i64 0, .slice none 0 0] 256)
  generalize w.alloc (.cells #[.int .i64 (mkI n), .int .i64 0, .int .i64 0, .slice none 0 0] 256) = WZ at *
  have z0 := cell_of_blk z (o := 0) rfl; have z1 := cell_of_blk z (o := 1) rfl; have z2 := cell_of_blk z (o := 2) rfl; have z3 := cell_of_blk z (o := 3) rfl
  exact bodyPost_ret (v := .agg #[.int .i64 (mkI n), .int .i64 0, .int .i64 0, .slice none 0 0]) (by simp [results, Tryz.results213, go_sem, z0, z1, z2, z3]) rfl ⟨rfl, hb⟩
end Go.Proofs.YtnfhbmlmemifjaaGreatDoor

/- TwinNodes and TwinTree: a copy of a tree, in memory of its own, with marks behind each list. -/
namespace Go.Proofs.YtnfhbmlmemifjaaGreatDoor
open Go.RowKit Go.Maps
structure TwS (w W : World) (G : Nat) (T F : List Nd) (us : List Value) (i : Nat) : Prop where
  bel : Below w.heap.size w W
  low : w.heap.size ≤ G
  own : W.ownsRow w.heap.size 256 4 (.slice (some ⟨G, 0, none⟩) (T.length + 2) (T.length + 2)) (T.length + 2) (treeC F us)
  fl : F.length = T.length + 2
  ul : us.length = T.length + 2
  done : ∀ j, j < i → F[j]? = T[j]?
  zero : ∀ j, i ≤ j → j < T.length + 2 → F[j]? = some nd0 ∧ us[j]? = some (.slice none 0 0)
  un : ∀ j n u, j < i → T[j]? = some n → us[j]? = some u → ∃ g, u = .slice (some ⟨g, 0, none⟩) n.un.length (n.un.length + 2) ∧ G < g ∧ Twint W g n.un
  apart : ∀ (j j' : Nat) (u u' : Value) (k : Nat), j < i → j' < i → us[j]? = some u → us[j']? = some u' → u.ownBlock = some k → u'.ownBlock = some k → j = j'
theorem Twint.keep {w w' : World} {g : Nat} {l : List Int} (h : Twint w g l) (hb : w'.heap[g]? = w.heap[g]?) : Twint w' g l := by
  unfold Twint at *; rw [hb]; exact h
theorem Twint.lt {w : World} {g : Nat} {l : List Int} (h : Twint w g l) : g < w.heap.size := lt_of_blk h
theorem TwS.start {w : World} {T : List Nd} {cur : Array Value} (hl : T.length ≤ 1048576) (hc : cur.toList = treeC (List.replicate (T.length + 2) nd0) (List.replicate (T.length + 2) (.slice none 0 0))) :
    TwS w (w.alloc (.cells cur 256)) w.heap.size T (List.replicate (T.length + 2) nd0) (List.replicate (T.length + 2) (.slice none 0 0)) 0 := by
  refine ⟨bwA _ _, Nat.le_refl _, ?_, by simp, by simp, fun j h => by omega, fun j _ h => by simp [h], fun j n u h => by omega, fun j j' u u' k h => by omega⟩
  have hg := heap_alloc_new w (.cells cur 256)
  have e : cur = (treeC (List.replicate (T.length + 2) nd0) (List.replicate (T.length + 2) (.slice none 0 0))).toArray := by rw [← hc]
  rw [e] at hg ⊢
  exact own_of_cur hg (by rw [treeC_len (by simp)]; simp) (Nat.le_refl _) (by unfold maxLen; omega)
theorem TwS.bw {w W W' : World} {G : Nat} {T F : List Nd} {us : List Value} {i : Nat} (h : TwS w W G T F us i) (hb : Below W.heap.size W W') : TwS w W' G T F us i :=
  ⟨bw_tr h.bel hb, h.low, own_keep h.own (fun k hk => hb.block k (World.ownsRow.lt h.own k hk).2), h.fl, h.ul, h.done, h.zero,
   fun j n u hj hn hu => by obtain ⟨g, h1, h2, h3⟩ := h.un j n u hj hn hu; exact ⟨g, h1, h2, h3.keep (hb.block g h3.lt)⟩, h.apart⟩
theorem TwS.step {w W : World} {G : Nat} {T F : List Nd} {us : List Value} {i g : Nat} {n : Nd} (h : TwS w W G T F us i) (hn : T[i]? = some n) (hG : G < g) (hT : Twint W g n.un) (hnew : ∀ j u, j < i → us[j]? = some u → u.ownBlock ≠ some g) :
    TwS w ((((W.setCell ⟨G, i * 4, none⟩ (.int .i64 n.pub)).setCell ⟨G, i * 4 + 1, none⟩ (.int .i64 n.mem)).setCell ⟨G, i * 4 + 2, none⟩ (.int .i64 n.ep)).setCell ⟨G, i * 4 + 3, none⟩ (.slice (some ⟨g, 0, none⟩) n.un.length (n.un.length + 2))) G T (F.set i n) (us.set i (.slice (some ⟨g, 0, none⟩) n.un.length (n.un.length + 2))) (i + 1) := by
  have hi : i < T.length := (List.getElem?_eq_some_iff.1 hn).1
  have r1 := own_set h.own (g := G) rfl (j := i * 4) (.int .i64 n.pub)
  have r2 := own_set r1 (g := G) rfl (j := i * 4 + 1) (.int .i64 n.mem)
  have r3 := own_set r2 (g := G) rfl (j := i * 4 + 2) (.int .i64 n.ep)
  have r4 := own_set r3 (g := G) rfl (j := i * 4 + 3) (.slice (some ⟨g, 0, none⟩) n.un.length (n.un.length + 2))
  rw [treeC_set n (.slice (some ⟨g, 0, none⟩) n.un.length (n.un.length + 2)) (by rw [h.fl, h.ul]) (by rw [h.fl]; omega)] at r4
  have hb : Below w.heap.size w ((((W.setCell ⟨G, i * 4, none⟩ (.int .i64 n.pub)).setCell ⟨G, i * 4 + 1, none⟩ (.int .i64 n.mem)).setCell ⟨G, i * 4 + 2, none⟩ (.int .i64 n.ep)).setCell ⟨G, i * 4 + 3, none⟩ (.slice (some ⟨g, 0, none⟩) n.un.length (n.un.length + 2))) :=
    (((h.bel.setCell h.low _).setCell h.low _).setCell h.low _).setCell h.low _
  have f : ∀ k, k ≠ G → ((((W.setCell ⟨G, i * 4, none⟩ (.int .i64 n.pub)).setCell ⟨G, i * 4 + 1, none⟩ (.int .i64 n.mem)).setCell ⟨G, i * 4 + 2, none⟩ (.int .i64 n.ep)).setCell ⟨G, i * 4 + 3, none⟩ (.slice (some ⟨g, 0, none⟩) n.un.length (n.un.length + 2))).heap[k]? = W.heap[k]? := fun k hk => by
    rw [Below.heap_setCell _ _ _ _ (by simpa using hk), Below.heap_setCell _ _ _ _ (by simpa using hk), Below.heap_setCell _ _ _ _ (by simpa using hk), Below.heap_setCell _ _ _ _ (by simpa using hk)]
  generalize ((((W.setCell ⟨G, i * 4, none⟩ (.int .i64 n.pub)).setCell ⟨G, i * 4 + 1, none⟩ (.int .i64 n.mem)).setCell ⟨G, i * 4 + 2, none⟩ (.int .i64 n.ep)).setCell ⟨G, i * 4 + 3, none⟩ (.slice (some ⟨g, 0, none⟩) n.un.length (n.un.length + 2))) = W' at *
  refine ⟨hb, h.low, r4, by simp [h.fl], by simp [h.ul], fun j hj => ?_, fun j hj hj2 => ?_, fun j m u hj hm hu => ?_, fun j j' u u' k hj hj' hu hu' hk hk' => ?_⟩
  · rcases Nat.lt_or_ge j i with c | c
    · rw [List.getElem?_set_ne (by omega)]; exact h.done j c
    · obtain rfl : j = i := by omega
      rw [List.getElem?_set_self (by rw [h.fl]; omega), hn]
  · rw [List.getElem?_set_ne (by omega), List.getElem?_set_ne (by omega)]; exact h.zero j (by omega) hj2
  · rcases Nat.lt_or_ge j i with c | c
    · rw [List.getElem?_set_ne (by omega)] at hu
      obtain ⟨g', h1, h2, h3⟩ := h.un j m u c hm hu
      exact ⟨g', h1, h2, h3.keep (f g' (by omega))⟩
    · obtain rfl : j = i := by omega
      rw [List.getElem?_set_self (by rw [h.ul]; omega)] at hu
      cases hu
      rw [hn] at hm
      cases hm
      exact ⟨g, rfl, hG, hT.keep (f g (by omega))⟩
  · rcases Nat.lt_or_ge j i with c | c
    · rw [List.getElem?_set_ne (by omega)] at hu
      rcases Nat.lt_or_ge j' i with c' | c'
      · rw [List.getElem?_set_ne (by omega)] at hu'
        exact h.apart j j' u u' k c c' hu hu' hk hk'
      · obtain rfl : j' = i := by omega
        rw [List.getElem?_set_self (by rw [h.ul]; omega)] at hu'
        cases hu'
        cases hk'
        exact absurd hk (hnew j u c hu)
    · obtain rfl : j = i := by omega
      rw [List.getElem?_set_self (by rw [h.ul]; omega)] at hu
      cases hu
      cases hk
      rcases Nat.lt_or_ge j' j with c' | c'
      · rw [List.getElem?_set_ne (by omega)] at hu'
        exact absurd hk' (hnew j' u' c' hu')
      · omega
structure TwT (B : Nat) (W : World) (G : Nat) (T : List Nd) (us : List Value) : Prop where
  low : B ≤ G
  ul : us.length = T.length
  own : W.ownsRow B 256 4 (.slice (some ⟨G, 0, none⟩) (T.length + 2) (T.length + 2)) (T.length + 2) (treeC (T ++ [mkN T.length, mkN (T.length + 1)]) (us ++ [.slice none 0 0, .slice none 0 0]))
  un : ∀ (j : Nat) (n : Nd) (u : Value), T[j]? = some n → us[j]? = some u → ∃ g, u = .slice (some ⟨g, 0, none⟩) n.un.length (n.un.length + 2) ∧ B ≤ g ∧ Twint W g n.un
  apart : ∀ (i j : Nat) (u u' : Value) (k : Nat), us[i]? = some u → us[j]? = some u' → u.ownBlock = some k → u'.ownBlock = some k → i = j
theorem TwT.bw {B : Nat} {W W' : World} {G : Nat} {T : List Nd} {us : List Value} (h : TwT B W G T us) (hb : Below W.heap.size W W') : TwT B W' G T us :=
  ⟨h.low, h.ul, own_keep h.own (fun k hk => hb.block k (World.ownsRow.lt h.own k hk).2),
   fun j n u hn hu => by obtain ⟨g, h1, h2, h3⟩ := h.un j n u hn hu; exact ⟨g, h1, h2, h3.keep (hb.block g h3.lt)⟩, h.apart⟩
theorem TwT.otr {B : Nat} {W : World} {G : Nat} {T : List Nd} {us : List Value} (h : TwT B W G T us) (hu : ∀ n ∈ T, n.un.length ≤ 1048576) : OTr B W (.slice (some ⟨G, 0, none⟩) T.length (T.length + 2)) T us := by
  refine ⟨h.ul, ?_, fun i n u hn hu' => ?_, h.apart⟩
  · obtain ⟨cur, hg, hc, hB, hm⟩ := own_cur h.own
    have hl : (treeC T us).length = T.length * 4 := treeC_len h.ul
    refine ⟨hl, Or.inr ⟨G, T.length + 2, cur, rfl, hB, hg, by omega, hm, ?_, ?_⟩⟩
    · have : cur.toList.length = (T.length + 2) * 4 := by rw [hc, treeC_len (by simp [h.ul])]; simp
      simpa using this
    · rw [hc, treeC_app h.ul, List.take_left' hl]
  · obtain ⟨g, rfl, h2, h3⟩ := h.un i n u hn hu'
    exact h3.ints (hu n (List.mem_of_getElem? hn)) h2
theorem TwT.marks {B : Nat} {W : World} {G : Nat} {T : List Nd} {us : List Value} (h : TwT B W G T us) : NdC W G (T.length * 4) (mkN T.length) (.slice none 0 0) ∧ NdC W G ((T.length + 1) * 4) (mkN (T.length + 1)) (.slice none 0 0) := by
  have n0 : (T ++ [mkN T.length, mkN (T.length + 1)])[T.length]? = some (mkN T.length) := by simp
  have n1 : (T ++ [mkN T.length, mkN (T.length + 1)])[T.length + 1]? = some (mkN (T.length + 1)) := by simp
  have u0 : (us ++ [Value.slice none 0 0, .slice none 0 0])[T.length]? = some (.slice none 0 0) := by rw [← h.ul]; simp
  have u1 : (us ++ [Value.slice none 0 0, .slice none 0 0])[T.length + 1]? = some (.slice none 0 0) := by rw [← h.ul]; simp
  exact ⟨⟨by simpa using own_cell h.own rfl (treeC_get n0 u0 (j := 0) rfl), own_cell h.own rfl (treeC_get n0 u0 (j := 1) rfl), own_cell h.own rfl (treeC_get n0 u0 (j := 2) rfl), own_cell h.own rfl (treeC_get n0 u0 (j := 3) rfl)⟩,
    ⟨by simpa using own_cell h.own rfl (treeC_get n1 u1 (j := 0) rfl), own_cell h.own rfl (treeC_get n1 u1 (j := 1) rfl), own_cell h.own rfl (treeC_get n1 u1 (j := 2) rfl), own_cell h.own rfl (treeC_get n1 u1 (j := 3) rfl)⟩⟩
structure TwM (w W : World) (G : Nat) (T : List Nd) (us : List Value) (k : Nat) : Prop where
  bel : Below w.heap.size w W
  low : w.heap.size ≤ G
  ul : us.length = T.length
  own : W.ownsRow w.heap.size 256 4 (.slice (some ⟨G, 0, none⟩) (T.length + 2) (T.length + 2)) (T.length + 2) (treeC (T ++ [if 1 ≤ k then mkN T.length else nd0, if 2 ≤ k then mkN (T.length + 1) else nd0]) (us ++ [.slice none 0 0, .slice none 0 0]))
  un : ∀ (j : Nat) (n : Nd) (u : Value), T[j]? = some n → us[j]? = some u → ∃ g, u = .slice (some ⟨g, 0, none⟩) n.un.length (n.un.length + 2) ∧ G < g ∧ Twint W g n.un
  apart : ∀ (i j : Nat) (u u' : Value) (k : Nat), us[i]? = some u → us[j]? = some u' → u.ownBlock = some k → u'.ownBlock = some k → i = j
theorem TwS.all {w W : World} {G : Nat} {T F : List Nd} {us : List Value} (h : TwS w W G T F us T.length) : ∃ us', TwM w W G T us' 0 := by
  have hF : F = T ++ [nd0, nd0] := by
    apply List.ext_getElem?
    intro j
    rcases Nat.lt_or_ge j T.length with c | c
    · rw [h.done j c, List.getElem?_append_left c]
    · rcases Nat.lt_or_ge j (T.length + 2) with d | d
      · rw [(h.zero j c d).1, List.getElem?_append_right c]
        rcases Nat.eq_or_lt_of_le c with e | e
        · rw [← e]; simp
        · obtain rfl : j = T.length + 1 := by omega
          simp
      · rw [List.getElem?_eq_none (by rw [h.fl]; exact d), List.getElem?_eq_none (by simp; omega)]
  have hU : us = us.take T.length ++ [.slice none 0 0, .slice none 0 0] := by
    apply List.ext_getElem?
    intro j
    have hlt : (us.take T.length).length = T.length := by simp [h.ul]
    rcases Nat.lt_or_ge j T.length with c | c
    · rw [List.getElem?_append_left (by omega), List.getElem?_take_of_lt c]
    · rcases Nat.lt_or_ge j (T.length + 2) with d | d
      · rw [(h.zero j c d).2, List.getElem?_append_right (by omega), hlt]
        rcases Nat.eq_or_lt_of_le c with e | e
        · rw [← e]; simp
        · obtain rfl : j = T.length + 1 := by omega
          simp
      · rw [List.getElem?_eq_none (by rw [h.ul]; exact d), List.getElem?_eq_none (by simp; omega)]
  have hlt : (us.take T.length).length = T.length := by simp [h.ul]
  have hget : ∀ (j : Nat) u, (us.take T.length)[j]? = some u → j < T.length ∧ us[j]? = some u := fun j u hu => by
    have c : j < T.length := by have := (List.getElem?_eq_some_iff.1 hu).1; omega
    rw [List.getElem?_take_of_lt c] at hu
    exact ⟨c, hu⟩
  refine ⟨us.take T.length, h.bel, h.low, hlt, ?_, fun j n u hn hu => ?_, fun i j u u' k hu hu' hk hk' => ?_⟩
  · have := h.own
    rw [hF, hU] at this
    simpa using this
  · obtain ⟨c, hu2⟩ := hget j u hu
    exact h.un j n u c hn hu2
  · obtain ⟨c, hu2⟩ := hget i u hu
    obtain ⟨c', hu2'⟩ := hget j u' hu'
    exact h.apart i j u u' k c c' hu2 hu2' hk hk'
theorem TwM.bw {w W W' : World} {G : Nat} {T : List Nd} {us : List Value} {k : Nat} (h : TwM w W G T us k) (hb : Below W.heap.size W W') : TwM w W' G T us k :=
  ⟨bw_tr h.bel hb, h.low, h.ul, own_keep h.own (fun k hk => hb.block k (World.ownsRow.lt h.own k hk).2),
   fun j n u hn hu => by obtain ⟨g, h1, h2, h3⟩ := h.un j n u hn hu; exact ⟨g, h1, h2, h3.keep (hb.block g h3.lt)⟩, h.apart⟩
theorem set_two {k : Nat} (hk : k < 2) {a : Value} : [a, a].set k a = [a, a] := by
  match k, hk with
  | 0, _ => rfl
  | 1, _ => rfl
theorem set_marks {k N : Nat} (hk : k < 2) : [if 1 ≤ k then mkN N else nd0, if 2 ≤ k then mkN (N + 1) else nd0].set k ⟨mkI (N + k), 0, 0, []⟩ = [if 1 ≤ k + 1 then mkN N else nd0, if 2 ≤ k + 1 then mkN (N + 1) else nd0] := by
  match k, hk with
  | 0, _ => rfl
  | 1, _ => rfl
theorem TwM.step {w W : World} {G : Nat} {T : List Nd} {us : List Value} {k x : Nat} (hk : k < 2) (hx : x = T.length + k) (h : TwM w W G T us k) {m : Int} (hm : m = mkI x) :
    TwM w ((((W.setCell ⟨G, x * 4, none⟩ (.int .i64 m)).setCell ⟨G, x * 4 + 1, none⟩ (.int .i64 0)).setCell ⟨G, x * 4 + 2, none⟩ (.int .i64 0)).setCell ⟨G, x * 4 + 3, none⟩ (.slice none 0 0)) G T us (k + 1) := by
  have hul : (us ++ [Value.slice none 0 0, .slice none 0 0]).length = (T ++ [if 1 ≤ k then mkN T.length else nd0, if 2 ≤ k then mkN (T.length + 1) else nd0]).length := by simp [h.ul]
  have r1 := own_set h.own (g := G) rfl (j := x * 4) (.int .i64 m)
  have r2 := own_set r1 (g := G) rfl (j := x * 4 + 1) (.int .i64 0)
  have r3 := own_set r2 (g := G) rfl (j := x * 4 + 2) (.int .i64 0)
  have r4 := own_set r3 (g := G) rfl (j := x * 4 + 3) (.slice none 0 0)
  have ts := treeC_set (i := x) ⟨m, 0, 0, []⟩ (.slice none 0 0) hul (by simp; omega)
  rw [ts] at r4
  have hu2 : (us ++ [Value.slice none 0 0, .slice none 0 0]).set x (.slice none 0 0) = us ++ [.slice none 0 0, .slice none 0 0] := by
    rw [hx, List.set_append_right _ _ (by rw [h.ul]; omega), h.ul, Nat.add_sub_cancel_left, set_two hk]
  have hF2 : (T ++ [if 1 ≤ k then mkN T.length else nd0, if 2 ≤ k then mkN (T.length + 1) else nd0]).set x ⟨m, 0, 0, []⟩ = T ++ [if 1 ≤ k + 1 then mkN T.length else nd0, if 2 ≤ k + 1 then mkN (T.length + 1) else nd0] := by
    rw [hm, hx, List.set_append_right _ _ (by omega), Nat.add_sub_cancel_left, set_marks hk]
  rw [hu2, hF2] at r4
  have f1 : Fr [G] W ((((W.setCell ⟨G, x * 4, none⟩ (.int .i64 m)).setCell ⟨G, x * 4 + 1, none⟩ (.int .i64 0)).setCell ⟨G, x * 4 + 2, none⟩ (.int .i64 0)).setCell ⟨G, x * 4 + 3, none⟩ (.slice none 0 0)) :=
    (((((Fr.refl [G] W).setCell (a := ⟨G, x * 4, none⟩) (Or.inr (by simp)) _).setCell (a := ⟨G, x * 4 + 1, none⟩) (Or.inr (by simp)) _).setCell (a := ⟨G, x * 4 + 2, none⟩) (Or.inr (by simp)) _).setCell (a := ⟨G, x * 4 + 3, none⟩) (Or.inr (by simp)) _)
  generalize ((((W.setCell ⟨G, x * 4, none⟩ (.int .i64 m)).setCell ⟨G, x * 4 + 1, none⟩ (.int .i64 0)).setCell ⟨G, x * 4 + 2, none⟩ (.int .i64 0)).setCell ⟨G, x * 4 + 3, none⟩ (.slice none 0 0)) = W' at *
  exact ⟨Fr.toBase h.bel f1 (fun y hy => by simp at hy; subst hy; exact h.low), h.low, h.ul, r4, fun j n u hn hu => by obtain ⟨g, h1, h2, h3⟩ := h.un j n u hn hu; exact ⟨g, h1, h2, h3.keep (f1.block g h3.lt (by simp; omega))⟩, h.apart⟩
theorem TwM.fin {w W : World} {G : Nat} {T : List Nd} {us : List Value} (h : TwM w W G T us 2) : TwT w.heap.size W G T us :=
  ⟨h.low, h.ul, h.own, fun j n u hn hu => by obtain ⟨g, h1, h2, h3⟩ := h.un j n u hn hu; exact ⟨g, h1, by have := h.low; omega, h3⟩, h.apart⟩
end Go.Proofs.YtnfhbmlmemifjaaGreatDoor

/- The contracts of TwinNodes and TwinTree. -/
namespace Go.Proofs.YtnfhbmlmemifjaaGreatDoor
open Go.RowKit Go.Maps
theorem slice_roomNode (w : World) (g n cap i : Nat) (hi : i ≤ cap) : (Instr.slice 30 (.slice (some ⟨g, 0, none⟩) n cap) none (some (.int .i64 (i : Int))) none).run Tryz.prog w = .ok (.slice (some ⟨g, 0, none⟩) i cap) w := by
  have ht : Tryz.prog.underlying 30 = some (.slice (Tryz.prog.elem 30)) := by kernel_rfl
  have he : Tryz.prog.elem 30 = 256 := by kernel_rfl
  have hs : (Go.sizeOf 256).run Tryz.prog w = .ok 4 w := by kernel_rfl
  rw [run_slice_h (P := Tryz.prog) w 30 (some ⟨g, 0, none⟩) n cap ht .i64 i (by omega) (by omega), he, hs]
  simp [Result.andThen, sliced, Addr.add]
theorem TwS.at {w W : World} {G : Nat} {T F : List Nd} {us : List Value} {i : Nat} (h : TwS w W G T F us i) (hi : i < T.length) : NdC W G (i * 4) nd0 (.slice none 0 0) ∧ ∀ j, W.frozen? ⟨G, j, none⟩ = false := by
  obtain ⟨hn, hu⟩ := h.zero i (Nat.le_refl _) (by omega)
  refine ⟨⟨?_, ?_, ?_, ?_⟩, fun j => own_frozen h.own rfl j⟩
  · simpa using own_cell h.own rfl (treeC_get hn hu (j := 0) rfl)
  · exact own_cell h.own rfl (treeC_get hn hu (j := 1) rfl)
  · exact own_cell h.own rfl (treeC_get hn hu (j := 2) rfl)
  · exact own_cell h.own rfl (treeC_get hn hu (j := 3) rfl)
theorem TwM.at {w W : World} {G : Nat} {T : List Nd} {us : List Value} {k x : Nat} (hk : k < 2) (hx : x = T.length + k) (h : TwM w W G T us k) : NdC W G (x * 4) nd0 (.slice none 0 0) ∧ ∀ j, W.frozen? ⟨G, j, none⟩ = false := by
  have hn : (T ++ [if 1 ≤ k then mkN T.length else nd0, if 2 ≤ k then mkN (T.length + 1) else nd0])[x]? = some nd0 := by
    rw [hx, List.getElem?_append_right (by omega), Nat.add_sub_cancel_left]
    match k, hk with
    | 0, _ => rfl
    | 1, _ => rfl
  have hu : (us ++ [Value.slice none 0 0, .slice none 0 0])[x]? = some (.slice none 0 0) := by
    rw [hx, List.getElem?_append_right (by rw [h.ul]; omega), h.ul, Nat.add_sub_cancel_left]
    match k, hk with
    | 0, _ => rfl
    | 1, _ => rfl
  refine ⟨⟨?_, ?_, ?_, ?_⟩, fun j => own_frozen h.own rfl j⟩
  · simpa using own_cell h.own rfl (treeC_get hn hu (j := 0) rfl)
  · exact own_cell h.own rfl (treeC_get hn hu (j := 1) rfl)
  · exact own_cell h.own rfl (treeC_get hn hu (j := 2) rfl)
  · exact own_cell h.own rfl (treeC_get hn hu (j := 3) rfl)
set_option maxRecDepth 100000 in
set_option maxHeartbeats 4000000 in
theorem twinNodes_any (w : World) (v : Value) (T : List Nd) (h : Trd w v T) (hl : T.length ≤ 1048576) (hu : ∀ n ∈ T, n.un.length ≤ 1048576) :
    Calls Tryz.prog 260 #[v] w fun e w' => ∃ us, e = .returned (.slice (some ⟨w.heap.size, 0, none⟩) T.length (T.length + 2)) ∧ TwT w.heap.size w' w.heap.size T us ∧ Below w.heap.size w w' := by
  obtain ⟨a, c, rfl⟩ := h.slice
  obtain ⟨i0, hi, hz0, hz1, hz2⟩ := info_parts infoNode
  have hmk := run_makeSlice (P := Tryz.prog) w 30 256 i0 (.agg #[.int .i64 0, .int .i64 0, .int .i64 0, .slice none 0 0]) Tryz.underlying30 hi hz0 .i64 .i64 (T.length : Int) ((T.length : Int) + 2) (by omega) (by omega) (by rw [hz1]; omega) (by rw [hz2]; omega) (by omega)
  rw [hz1] at hmk
  have e1 : ((T.length : Int) + 2).toNat * 4 = (T.length + 2) * 4 := by omega
  have e2 : ((T.length : Int) + 2).toNat = T.length + 2 := by omega
  rw [e1, e2, Int.toNat_natCast] at hmk
  have hS0 := hide (TwS.start (w := w) hl (made_nodes (T.length + 2)))
  generalize madeCells (Value.agg #[.int .i64 0, .int .i64 0, .int .i64 0, .slice none 0 0]).cells ((T.length + 2) * 4) = mc at *
  obtain ⟨-, h2⟩ := h.at
  have HC : Hid (∀ i, i < T.length → ∃ b o p m e ua ul uc, a = some ⟨b, o, none⟩ ∧ T[i]? = some (ndAt T i) ∧ (ndAt T i).pub = p ∧ (ndAt T i).mem = m ∧ (ndAt T i).ep = e ∧ (ndAt T i).un.length = ul ∧ ∀ W, Below w.heap.size w W → (W.cell? ⟨b, o + i * 4, none⟩ = some (.int .i64 p) ∧ W.cell? ⟨b, o + i * 4 + 1, none⟩ = some (.int .i64 m) ∧ W.cell? ⟨b, o + i * 4 + 2, none⟩ = some (.int .i64 e) ∧ W.cell? ⟨b, o + i * 4 + 3, none⟩ = some (.slice ua ul uc)) ∧
      Calls Tryz.prog 299 #[.agg #[.int .i64 p, .int .i64 m, .int .i64 e, .slice ua ul uc]] W fun x w' => ∃ g, x = .returned (.agg #[.int .i64 p, .int .i64 m, .int .i64 e, .slice (some ⟨g, 0, none⟩) ul (ul + 2)]) ∧ W.heap.size ≤ g ∧ Twint w' g (ndAt T i).un ∧ Below W.heap.size W w') := fun i hi => by
    obtain ⟨b, o, e, h3⟩ := h2 (by omega)
    obtain ⟨u, k1, k2⟩ := h3 w (Below.refl _ _) i hi
    obtain ⟨ua, uc, rfl⟩ := nums_slice k2
    have hB : b < w.heap.size := lt_of_cell k1.c3
    exact ⟨b, o, _, _, _, ua, _, uc, e, ndAt_of hi, rfl, rfl, rfl, rfl, fun W hW => ⟨⟨(k1.bw hB hW).c0, (k1.bw hB hW).c1, (k1.bw hB hW).c2, (k1.bw hB hW).c3⟩, twinNode_any W _ _ _ _ _ (k2.bw hW) (hu _ (ndAt_mem hi))⟩⟩
  obtain ⟨N, hN⟩ : ∃ N, N = T.length := ⟨_, rfl⟩
  have HN := hide hN
  rw [← hN] at hmk HC hS0 ⊢
  have hNI : (N : Int) ≤ 1048576 := by omega
  have hsl : ∀ W, (Instr.slice 30 (.slice (some ⟨w.heap.size, 0, none⟩) N (N + 2)) none (some (.int .i64 ((N : Int) + 2))) none).run Tryz.prog W = .ok (.slice (some ⟨w.heap.size, 0, none⟩) (N + 2) (N + 2)) W := fun W => by
    have := slice_roomNode W w.heap.size N (N + 2) (N + 2) (Nat.le_refl _)
    exact this
  clear e1 e2 hi hz0 hz1 hz2 h h2 hl hu hN
  go_enter Tryz.func260, Tryz.ntmps260
  go_wp2_with fail
  go_loopw [15] (fun iv wr => ∃ (i : Nat) (F : List Nd) (us : List Value), iv = .int .i64 (i : Int) ∧ i ≤ N ∧ Hid (TwS w wr w.heap.size T F us i)) (fun iv _ => (N - (intOf iv)).toNat)
  case atStart => exact ⟨0, _, _, rfl, by omega, unhide hS0⟩
  case round =>
    clear hS0
    obtain ⟨i, F, us, rfl, hi, hS⟩ := hrel
    by_cases hin : i < N
    · obtain ⟨b, o, p, m, e, ua, ul, uc, rfl, t1, t2, t3, t4, t5, hc⟩ := unhide HC i hin
      obtain ⟨⟨c0, c1, c2, c3⟩, K⟩ := hc _ (unhide hS).bel
      have q1 : (i : Int) < (N : Int) := by omega
      have q0 : (0 : Int) ≤ (i : Int) := by omega
      have HT := hide (And.intro t1 (And.intro t2 (And.intro t3 (And.intro t4 t5))))
      clear t1 t2 t3 t4 t5 hc
      go_wp2_with fail
      refine K.mono ?_
      rintro x w2 ⟨g, rfl, hg, hTw, b2⟩
      have hS2 := hide ((unhide hS).bw b2)
      obtain ⟨⟨d0, d1, d2, d3⟩, hfz⟩ := (unhide hS2).at (by rw [← unhide HN]; exact hin)
      have f0 := hfz (i * 4); have f1 := hfz (i * 4 + 1); have f2 := hfz (i * 4 + 2); have f3 := hfz (i * 4 + 3)
      have HX : Hid (TwS w ((((w2.setCell ⟨w.heap.size, i * 4, none⟩ (.int .i64 p)).setCell ⟨w.heap.size, i * 4 + 1, none⟩ (.int .i64 m)).setCell ⟨w.heap.size, i * 4 + 2, none⟩ (.int .i64 e)).setCell ⟨w.heap.size, i * 4 + 3, none⟩ (.slice (some ⟨g, 0, none⟩) ul (ul + 2))) w.heap.size T (F.set i (ndAt T i)) (us.set i (.slice (some ⟨g, 0, none⟩) ul (ul + 2))) (i + 1)) := by
        obtain ⟨t1, t2, t3, t4, t5⟩ := unhide HT
        have hlt := (World.ownsRow.lt (unhide hS).own w.heap.size rfl).2
        have := (unhide hS2).step t1 (g := g) (by omega) hTw (fun j u hj hu2 hk => by
          obtain ⟨n, hn⟩ : ∃ n, T[j]? = some n := ⟨_, List.getElem?_eq_getElem (by have := unhide HN; omega)⟩
          obtain ⟨g', rfl, h2, h3⟩ := (unhide hS).un j n u hj hn hu2
          cases hk
          have := h3.lt
          have hg2 : wr.heap.size ≤ g' := hg
          omega)
        rw [t2, t3, t4, t5] at this
        exact this
      clear c0 c1 c2 c3 K hS hS2 hTw hg hfz
      go_wp2_with fail
      go_roundw
      case rel => exact ⟨i + 1, _, _, by go_num, by omega, HX⟩
      case measure => simp [intOf]; omega
    · obtain rfl : i = N := by omega
      have hS' := unhide hS
      rw [unhide HN] at hS'
      obtain ⟨us', hM⟩ := hS'.all
      have HM := hide hM
      clear hS hS' hM HC hmk
      go_wp2_with fail
      go_loopw [6] (fun iv wr => ∃ (k x : Nat), iv = .int .i64 (x : Int) ∧ k ≤ 2 ∧ x = i + k ∧ Hid (TwM w wr w.heap.size T us' k)) (fun iv _ => (i + 2 - (intOf iv)).toNat)
      case atStart => exact ⟨0, i, rfl, by omega, rfl, HM⟩
      case round =>
        clear HM
        obtain ⟨k, x, rfl, hk, hx, hM⟩ := hrel
        by_cases hk2 : k < 2
        · have hx' : x = T.length + k := by rw [hx, ← unhide HN]
          have K := markNode_any x wr (by omega)
          have q1 : (x : Int) < (i : Int) + 2 := by omega
          have q0 : (0 : Int) ≤ (x : Int) := by omega
          have q5 : decide (x < i + 2) = true := decide_eq_true (by omega)
          have HX := hide hx
          have HX' := hide hx'
          have xb : (x : Int) ≤ 1048580 := by omega
          clear hx hx'
          go_wp2_with fail
          refine K.mono ?_
          rintro y w2 ⟨rfl, b2⟩
          have hM2 := hide ((unhide hM).bw b2)
          obtain ⟨⟨d0, d1, d2, d3⟩, hfz⟩ := (unhide hM2).at hk2 (unhide HX')
          have f0 := hfz (x * 4); have f1 := hfz (x * 4 + 1); have f2 := hfz (x * 4 + 2); have f3 := hfz (x * 4 + 3)
          have HX2 := hide ((unhide hM2).step hk2 (unhide HX') rfl)
          have hxi : x + 1 = i + (k + 1) := by have := unhide HX; omega
          have HXI := hide hxi
          clear K hM hM2 hfz hxi
          generalize mkI x = mm at *
          go_wp2_with fail
          go_roundw
          case rel => exact ⟨k + 1, x + 1, by go_num, by omega, unhide HXI, HX2⟩
          case measure => simp [intOf]; omega
        · obtain rfl : k = 2 := by omega
          subst hx
          have q1 : decide ((((i + 2 : Nat)) : Int) < (i : Int) + 2) = false := decide_eq_false (by omega)
          go_wp2_with fail
          go_ret
          exact ⟨_, rfl, (unhide hM).fin, (unhide hM).bel⟩
set_option maxHeartbeats 2000000 in
theorem twinTree_any (w : World) (v : Value) (T : List Nd) (h : Trd w v T) (hl : T.length ≤ 1048576) (hu : ∀ n ∈ T, n.un.length ≤ 1048576) :
    Calls Tryz.prog 160 #[.agg #[v]] w fun e w' => ∃ g us, e = .returned (.agg #[.slice (some ⟨g, 0, none⟩) T.length (T.length + 2)]) ∧ TwT w.heap.size w' g T us ∧ Below w.heap.size w w' := by
  obtain ⟨a, c, rfl⟩ := h.slice
  obtain ⟨W0, hW0⟩ : ∃ W0, W0 = (w.alloc (.cells #[.slice a T.length c] 32)).alloc (.cells #[.slice none 0 0] 32) := ⟨_, rfl⟩
  have hb0 : Below w.heap.size w W0 := by rw [hW0]; exact (bwA _ _).alloc (by simp) _
  have hs0 : W0.heap.size = w.heap.size + 2 := by rw [hW0]; simp
  have HB : Hid (∀ W, Below W0.heap.size W0 W → W.heap[w.heap.size]? = some (.cells #[.slice a T.length c] 32 (0, 0)) ∧ W.heap[w.heap.size + 1]? = some (.cells #[.slice none 0 0] 32 (0, 0)) ∧ Below w.heap.size w W) := fun W hW => by
    refine ⟨?_, ?_, bw_tr hb0 hW⟩
    · rw [hW.block _ (by omega), hW0, Below.heap_alloc _ _ _ (by simp)]; exact heap_alloc_new _ _
    · rw [hW.block _ (by omega), hW0]
      have := heap_alloc_new (w.alloc (.cells #[.slice a T.length c] 32)) (.cells #[.slice none 0 0] 32)
      simpa using this
  have KT := hide (twinNodes_any W0 _ T (h.bw hb0) hl hu)
  have HW : Hid (W0 = (w.alloc (.cells #[.slice a T.length c] 32)).alloc (.cells #[.slice none 0 0] 32)) := hW0
  have HS := hide hs0
  clear hW0 h hl hu hb0 hs0
  obtain ⟨L, hL⟩ : ∃ L, L = T.length := ⟨_, rfl⟩
  rw [← hL] at KT HW HB ⊢
  clear hL
  go_enter Tryz.func160, Tryz.ntmps160
  go_wp2_with fail
  rw [← unhide HW]
  refine (unhide KT).mono ?_
  rintro x w1 ⟨us, rfl, ht, b1⟩
  obtain ⟨k1, k2, b2⟩ := unhide HB _ b1
  have c0 := cell_of_blk k1 (o := 0) rfl
  have d0 := cell_of_blk k2 (o := 0) rfl
  have f3 := frozen_of_blk0 k1 0
  have e0 := frozen_of_blk0 k2 0
  obtain ⟨WZ, hWZ⟩ : ∃ WZ, WZ = (w1.setCell ⟨w.heap.size, 0, none⟩ (.slice (some ⟨W0.heap.size, 0, none⟩) L (L + 2))).setCell ⟨w.heap.size + 1, 0, none⟩ (.slice (some ⟨W0.heap.size, 0, none⟩) L (L + 2)) := ⟨_, rfl⟩
  have z : WZ.heap[w.heap.size + 1]? = some (.cells #[.slice (some ⟨W0.heap.size, 0, none⟩) L (L + 2)] 32 (0, 0)) := by
    rw [hWZ]; simp [World.setCell, Array.getElem?_modify, k2]
  have z0 := cell_of_blk z (o := 0) rfl
  have HF : Hid (TwT w.heap.size WZ W0.heap.size T us ∧ Below w.heap.size w WZ) := by
    have hs := unhide HS
    have f : Fr [w.heap.size, w.heap.size + 1] w1 WZ := by
      rw [hWZ]; exact ((Fr.refl _ w1).setCell (a := ⟨w.heap.size, 0, none⟩) (Or.inr (by simp)) _).setCell (a := ⟨w.heap.size + 1, 0, none⟩) (Or.inr (by simp)) _
    refine ⟨⟨by omega, ht.ul, own_mono (own_keep ht.own (fun k hk => ?_)) (by omega), fun j n u hn hu => ?_, ht.apart⟩, Fr.toBase b2 f (fun y hy => by simp at hy; omega)⟩
    · have := World.ownsRow.lt ht.own k hk
      exact f.block k this.2 (by simp; omega)
    · obtain ⟨g, h1, h2, h3⟩ := ht.un j n u hn hu
      exact ⟨g, h1, by omega, h3.keep (f.block g h3.lt (by simp; omega))⟩
  have HZ := hide hWZ
  clear hWZ z ht b1 b2 k1 k2
  go_wp2_with fail
  rw [← unhide HZ]
  exact bodyPost_ret (v := .agg #[.slice (some ⟨W0.heap.size, 0, none⟩) L (L + 2)]) (by simp [results, Tryz.results160, go_sem, z0]) rfl ⟨W0.heap.size, us, rfl, (unhide HF).1, (unhide HF).2⟩
end Go.Proofs.YtnfhbmlmemifjaaGreatDoor

/- The contracts of LeftNode, LeftNodes and LeftTree: of a copy that is as it was made they answer true. -/
namespace Go.Proofs.YtnfhbmlmemifjaaGreatDoor
open Go.RowKit Go.Maps
set_option maxHeartbeats 2000000 in
theorem leftNode_any (w : World) (g : Nat) (p m e : Int) (u : Value) (l : List Int) (ht : Twint w g l) (hu : Nums w u l) (hl : l.length ≤ 1048576) :
    Calls Tryz.prog 302 #[.agg #[.int .i64 p, .int .i64 m, .int .i64 e, .slice (some ⟨g, 0, none⟩) l.length (l.length + 2)], .agg #[.int .i64 p, .int .i64 m, .int .i64 e, u]] w fun x w' => x = .returned (.bool true) ∧ Below w.heap.size w w' := by
  obtain ⟨a, c, rfl⟩ := nums_slice hu
  obtain ⟨W0, hW0⟩ : ∃ W0, W0 = (w.alloc (.cells #[.int .i64 p, .int .i64 m, .int .i64 e, .slice (some ⟨g, 0, none⟩) l.length (l.length + 2)] 256)).alloc (.cells #[.int .i64 p, .int .i64 m, .int .i64 e, .slice a l.length c] 256) := ⟨_, rfl⟩
  have hb0 : Below w.heap.size w W0 := by rw [hW0]; exact (bwA _ _).alloc (by simp) _
  have K := hide (leftint_any W0 g _ l (ht.keep (hb0.block g ht.lt)) (hu.bw hb0) hl)
  have HW : Hid (W0 = (w.alloc (.cells #[.int .i64 p, .int .i64 m, .int .i64 e, .slice (some ⟨g, 0, none⟩) l.length (l.length + 2)] 256)).alloc (.cells #[.int .i64 p, .int .i64 m, .int .i64 e, .slice a l.length c] 256)) := hW0
  clear hW0 hu ht hl
  generalize l.length = L at *
  go_enter Tryz.func302, Tryz.ntmps302
  go_wp2_with fail
  rw [← unhide HW]
  refine (unhide K).mono ?_
  rintro x w1 ⟨rfl, b1⟩
  go_wp2
  go_ret
  exact ⟨rfl, bw_tr hb0 b1⟩
theorem isNode_any (n : Nat) (w : World) (h : (n : Int) ≤ 1125899906842624) :
    Calls Tryz.prog 245 #[.agg #[.int .i64 (mkI n), .int .i64 0, .int .i64 0, .slice none 0 0], .int .i64 (n : Int)] w fun e w' => e = .returned (.bool true) ∧ Below w.heap.size w w' := by
  have hm : -1000 - (n : Int) = mkI n := rfl
  go_enter Tryz.func245, Tryz.ntmps245
  go_wp2
  go_ret
  exact ⟨rfl, bwA _ _⟩
set_option maxRecDepth 100000 in
set_option maxHeartbeats 4000000 in
theorem leftNodes_any (w : World) (B G : Nat) (v : Value) (T : List Nd) (us : List Value) (ht : TwT B w G T us) (h : Trd w v T) (hl : T.length ≤ 1048576) (hu : ∀ n ∈ T, n.un.length ≤ 1048576) :
    Calls Tryz.prog 269 #[.slice (some ⟨G, 0, none⟩) T.length (T.length + 2), v] w fun e w' => e = .returned (.bool true) ∧ Below w.heap.size w w' := by
  obtain ⟨a, c, rfl⟩ := h.slice
  obtain ⟨-, h2⟩ := h.at
  have hot := (ht.otr hu).trd (by omega) (fun n hn => by have := hu n hn; omega)
  obtain ⟨-, h2'⟩ := hot.at
  have HC : Hid (∀ i, i < T.length → ∃ b o p m e ua ul uc g, a = some ⟨b, o, none⟩ ∧ ∀ W, Below w.heap.size w W → (W.cell? ⟨b, o + i * 4, none⟩ = some (.int .i64 p) ∧ W.cell? ⟨b, o + i * 4 + 1, none⟩ = some (.int .i64 m) ∧ W.cell? ⟨b, o + i * 4 + 2, none⟩ = some (.int .i64 e) ∧ W.cell? ⟨b, o + i * 4 + 3, none⟩ = some (.slice ua ul uc)) ∧
      (W.cell? ⟨G, i * 4, none⟩ = some (.int .i64 p) ∧ W.cell? ⟨G, i * 4 + 1, none⟩ = some (.int .i64 m) ∧ W.cell? ⟨G, i * 4 + 2, none⟩ = some (.int .i64 e) ∧ W.cell? ⟨G, i * 4 + 3, none⟩ = some (.slice (some ⟨g, 0, none⟩) ul (ul + 2))) ∧
      Calls Tryz.prog 302 #[.agg #[.int .i64 p, .int .i64 m, .int .i64 e, .slice (some ⟨g, 0, none⟩) ul (ul + 2)], .agg #[.int .i64 p, .int .i64 m, .int .i64 e, .slice ua ul uc]] W fun x w' => x = .returned (.bool true) ∧ Below W.heap.size W w') := fun i hi => by
    obtain ⟨b, o, e, h3⟩ := h2 (by omega)
    obtain ⟨u, k1, k2⟩ := h3 w (Below.refl _ _) i hi
    obtain ⟨ua, uc, rfl⟩ := nums_slice k2
    have hB : b < w.heap.size := lt_of_cell k1.c3
    obtain ⟨u', hu'⟩ : ∃ u', us[i]? = some u' := ⟨_, List.getElem?_eq_getElem (by rw [ht.ul]; exact hi)⟩
    obtain ⟨g, e', h4, h5⟩ := ht.un i _ u' (ndAt_of hi) hu'
    have hn1 : (T ++ [mkN T.length, mkN (T.length + 1)])[i]? = some (ndAt T i) := by rw [List.getElem?_append_left hi, ndAt_of hi]
    have hu1 : (us ++ [Value.slice none 0 0, .slice none 0 0])[i]? = some u' := by rw [List.getElem?_append_left (by rw [ht.ul]; exact hi), hu']
    refine ⟨b, o, (ndAt T i).pub, (ndAt T i).mem, (ndAt T i).ep, ua, (ndAt T i).un.length, uc, g, e, fun W hW => ?_⟩
    have ht' := ht.bw hW
    refine ⟨⟨(k1.bw hB hW).c0, (k1.bw hB hW).c1, (k1.bw hB hW).c2, (k1.bw hB hW).c3⟩, ⟨?_, ?_, ?_, ?_⟩, leftNode_any W g _ _ _ _ _ (h5.keep (hW.block g h5.lt)) (k2.bw hW) (hu _ (ndAt_mem hi))⟩
    · simpa using own_cell ht'.own rfl (treeC_get hn1 hu1 (j := 0) rfl)
    · exact own_cell ht'.own rfl (treeC_get hn1 hu1 (j := 1) rfl)
    · exact own_cell ht'.own rfl (treeC_get hn1 hu1 (j := 2) rfl)
    · rw [← e']; exact own_cell ht'.own rfl (treeC_get hn1 hu1 (j := 3) rfl)
  have HMK : Hid (∀ W, Below w.heap.size w W → ∀ k, k < 2 → NdC W G ((T.length + k) * 4) (mkN (T.length + k)) (.slice none 0 0)) := fun W hW k hk => by
    have := (ht.bw hW).marks
    match k, hk with
    | 0, _ => exact this.1
    | 1, _ => exact this.2
  obtain ⟨N, hN⟩ : ∃ N, N = T.length := ⟨_, rfl⟩
  rw [← hN] at HC HMK ⊢
  have hNI : (N : Int) ≤ 1048576 := by omega
  have hsl : ∀ W, (Instr.slice 30 (.slice (some ⟨G, 0, none⟩) N (N + 2)) none (some (.int .i64 ((N : Int) + 2))) none).run Tryz.prog W = .ok (.slice (some ⟨G, 0, none⟩) (N + 2) (N + 2)) W := fun W => by
    have := slice_roomNode W G N (N + 2) (N + 2) (Nat.le_refl _)
    exact this
  clear h h2 h2' hot hl hu hN ht
  go_enter Tryz.func269, Tryz.ntmps269
  go_wp2_with fail
  go_loopw [15] (fun iv wr => ∃ (i : Nat), iv = .int .i64 (i : Int) ∧ i ≤ N ∧ Below w.heap.size w wr) (fun iv _ => (N - (intOf iv)).toNat)
  case atStart => exact ⟨0, rfl, by omega, Below.refl _ _⟩
  case round =>
    obtain ⟨i, rfl, hi, hbel⟩ := hrel
    by_cases hin : i < N
    · obtain ⟨b, o, p, m, e, ua, ul, uc, g, rfl, hc⟩ := unhide HC i hin
      have q1 : (i : Int) < (N : Int) := by omega
      have q0 : (0 : Int) ≤ (i : Int) := by omega
      obtain ⟨x0, y0, -⟩ := hc _ hbel
      obtain ⟨x1, y1, K⟩ := hc _ hbel.drew
      have HC2 := hide hc
      have HK := hide K
      obtain ⟨c0, c1, c2, c3⟩ := x0
      obtain ⟨d0, d1, d2, d3⟩ := y0
      obtain ⟨e0, e1, e2, e3⟩ := x1
      obtain ⟨f0, f1, f2, f3⟩ := y1
      clear hc K
      go_wp2_with fail
      first
      | go_region_held3 (fun w' : World => w'.cell? ⟨b, o + i * 4, none⟩ = some (.int .i64 p) ∧ w'.cell? ⟨b, o + i * 4 + 1, none⟩ = some (.int .i64 m) ∧ w'.cell? ⟨b, o + i * 4 + 2, none⟩ = some (.int .i64 e) ∧ w'.cell? ⟨b, o + i * 4 + 3, none⟩ = some (.slice ua ul uc) ∧
          w'.cell? ⟨G, i * 4, none⟩ = some (.int .i64 p) ∧ w'.cell? ⟨G, i * 4 + 1, none⟩ = some (.int .i64 m) ∧ w'.cell? ⟨G, i * 4 + 2, none⟩ = some (.int .i64 e) ∧ w'.cell? ⟨G, i * 4 + 3, none⟩ = some (.slice (some ⟨g, 0, none⟩) ul (ul + 2)))
          (first | with_reducible exact ⟨c0, c1, c2, c3, d0, d1, d2, d3⟩ | with_reducible exact ⟨e0, e1, e2, e3, f0, f1, f2, f3⟩ | with_reducible exact ⟨g0, g1, g2, g3, h0, h1, h2, h3⟩) (first
          | (go_at_call 302; refine (unhide HK).mono ?_; rintro x w5 ⟨rfl, E5⟩; have b5 := bw_tr hbel.drew E5; obtain ⟨⟨g0, g1, g2, g3⟩, ⟨h0, h1, h2, h3⟩, -⟩ := unhide HC2 w5 b5) | fail)
      | fail
      all_goals
        clear E5 g0 g1 g2 g3 h0 h1 h2 h3
        go_wp2_with fail
        go_roundw
        case rel => exact ⟨i + 1, by go_num, by omega, b5⟩
        case measure => simp [intOf]; omega
    · obtain rfl : i = N := by omega
      clear HC
      have HB2 := hide hbel
      go_wp2_with fail
      go_loopw [7] (fun iv wq => ∃ (k x : Nat), iv = .int .i64 (x : Int) ∧ k ≤ 2 ∧ x = i + k ∧ Below w.heap.size w wq) (fun iv _ => (i + 2 - (intOf iv)).toNat)
      case atStart => exact ⟨0, i, rfl, by omega, rfl, hbel⟩
      case round =>
        obtain ⟨k, x, rfl, hk, hx, hbel2⟩ := hrel
        by_cases hk2 : k < 2
        · have NC := unhide HMK _ hbel2 k hk2
          rw [← hx] at NC
          obtain ⟨n0, n1, n2, n3⟩ := NC
          have n0' : wr.cell? ⟨G, x * 4, none⟩ = some (.int .i64 (mkI x)) := n0
          have n1' : wr.cell? ⟨G, x * 4 + 1, none⟩ = some (.int .i64 0) := n1
          have n2' : wr.cell? ⟨G, x * 4 + 2, none⟩ = some (.int .i64 0) := n2
          have K := isNode_any x wr (by omega)
          have q1 : (x : Int) < (i : Int) + 2 := by omega
          have q0 : (0 : Int) ≤ (x : Int) := by omega
          have q5 : decide (x < i + 2) = true := decide_eq_true (by omega)
          have xb : (x : Int) ≤ 1048580 := by omega
          have HX : Hid (x + 1 = i + (k + 1)) := by unfold Hid; omega
          clear hx n0 n1 n2
          generalize mkI x = mm at *
          go_wp2_with fail
          refine K.mono ?_
          rintro y w2 ⟨rfl, b2⟩
          have b3 := bw_tr hbel2 b2
          clear K n0' n1' n2' n3
          go_wp2_with fail
          go_roundw
          case rel => exact ⟨k + 1, x + 1, by go_num, by omega, unhide HX, b3⟩
          case measure => simp [intOf]; omega
        · obtain rfl : k = 2 := by omega
          subst hx
          have q1 : decide ((((i + 2 : Nat)) : Int) < (i : Int) + 2) = false := decide_eq_false (by omega)
          go_wp2_with fail
          go_ret
          exact ⟨rfl, hbel2⟩
set_option maxHeartbeats 1000000 in
theorem leftTree_any (w : World) (B G : Nat) (v : Value) (T : List Nd) (us : List Value) (ht : TwT B w G T us) (h : Trd w v T) (hl : T.length ≤ 1048576) (hu : ∀ n ∈ T, n.un.length ≤ 1048576) :
    Calls Tryz.prog 171 #[.agg #[.slice (some ⟨G, 0, none⟩) T.length (T.length + 2)], .agg #[v]] w fun e w' => e = .returned (.bool true) ∧ Below w.heap.size w w' := by
  obtain ⟨a, c, rfl⟩ := h.slice
  obtain ⟨W0, hW0⟩ : ∃ W0, W0 = (w.alloc (.cells #[.slice (some ⟨G, 0, none⟩) T.length (T.length + 2)] 32)).alloc (.cells #[.slice a T.length c] 32) := ⟨_, rfl⟩
  have hb0 : Below w.heap.size w W0 := by rw [hW0]; exact (bwA _ _).alloc (by simp) _
  have K := hide (leftNodes_any W0 B G _ T us (ht.bw hb0) (h.bw hb0) hl hu)
  have HW : Hid (W0 = (w.alloc (.cells #[.slice (some ⟨G, 0, none⟩) T.length (T.length + 2)] 32)).alloc (.cells #[.slice a T.length c] 32)) := hW0
  clear hW0 ht h hl hu
  generalize T.length = N at *
  go_enter Tryz.func171, Tryz.ntmps171
  go_wp2_with fail
  rw [← unhide HW]
  refine (unhide K).mono ?_
  rintro x w1 ⟨rfl, b1⟩
  go_wp2
  go_ret
  exact ⟨rfl, bw_tr hb0 b1⟩
end Go.Proofs.YtnfhbmlmemifjaaGreatDoor
