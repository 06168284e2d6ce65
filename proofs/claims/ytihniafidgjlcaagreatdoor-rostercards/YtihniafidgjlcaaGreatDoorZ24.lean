/- Texts joined: BoA TtB TtC TtD TtE. -/
import Derived.Test.YtihniafidgjlcaaGreatDoorZ07
import Derived.Test.YtihniafidgjlcaaGreatDoorTtA
/- A Book of phratrylaw01 in memory: kept lists of any kind. No walk is in this text. -/
namespace Go.Proofs.YtihniafidgjlcaaGreatDoor
open Go.RowKit Go.Maps
structure Kd where
  e : TypeId
  h : TypeId
  c : Nat
structure Ent where
  v : Value
  n : Nat
  m : Nat
def helE : List Ent → List Value
  | [] => []
  | x :: es => x.v :: .int .i64 (x.n : Int) :: helE es
theorem helE_snoc (es : List Ent) (x : Ent) : helE (es ++ [x]) = helE es ++ [x.v, .int .i64 (x.n : Int)] := by
  induction es with
  | nil => rfl
  | cons y es ih => simp only [List.cons_append, helE, ih]
theorem helE_get {es : List Ent} {i : Nat} {x : Ent} (h : es[i]? = some x) : (helE es)[i * 2]? = some x.v ∧ (helE es)[i * 2 + 1]? = some (.int .i64 (x.n : Int)) := by
  induction es generalizing i with
  | nil => simp at h
  | cons y es ih =>
    cases i with
    | zero => simp at h; subst h; exact ⟨rfl, rfl⟩
    | succ i =>
      have := ih (i := i) (by simpa using h)
      rw [show (i + 1) * 2 = i * 2 + 2 by omega]
      exact this
theorem helE_set {es : List Ent} {i : Nat} {x : Ent} (h : es[i]? = some x) (v' : Value) (m' : Nat) : (helE es).set (i * 2) v' = helE (es.set i ⟨v', x.n, m'⟩) := by
  induction es generalizing i with
  | nil => simp at h
  | cons y es ih =>
    cases i with
    | zero => simp at h; subst h; rfl
    | succ i =>
      have := ih (i := i) (by simpa using h)
      rw [show (i + 1) * 2 = i * 2 + 2 by omega]
      simp only [helE, List.set_cons_succ, this]
structure Tf (ts : List TypeId) (B : Nat) (w w' : World) : Prop where
  bel : Below B w w'
  keep : ∀ (k : Nat) (o : Obj), w.heap[k]? = some o → (∀ cur t z, o = .cells cur t z → t ∉ ts) → w'.heap[k]? = some o
theorem Tf.refl (ts : List TypeId) (B : Nat) (w : World) : Tf ts B w w := ⟨Below.refl _ _, fun _ _ h _ => h⟩
theorem Tf.trans {ts : List TypeId} {B : Nat} {w w1 w2 : World} (h : Tf ts B w w1) (k : Tf ts B w1 w2) : Tf ts B w w2 :=
  ⟨h.bel.trans k.bel, fun x o hx ho => k.keep x o (h.keep x o hx ho) ho⟩
theorem Tf.ofBelow {ts : List TypeId} {B : Nat} {w w' : World} (h : Below w.heap.size w w') (hB : B ≤ w.heap.size) : Tf ts B w w' :=
  ⟨bw_mono h hB, fun k o hk _ => by rw [h.block k (lt_of_blk hk)]; exact hk⟩
theorem Tf.size {ts : List TypeId} {B : Nat} {w w' : World} (h : Tf ts B w w') : w.heap.size ≤ w'.heap.size := h.bel.size
theorem Tf.after {ts : List TypeId} {B : Nat} {w w1 w2 : World} (h : Tf ts B w w1) (hb : Below w1.heap.size w1 w2) (hB : B ≤ w.heap.size) : Tf ts B w w2 := h.trans (Tf.ofBelow hb (Nat.le_trans hB h.size))
theorem Tf.drew {ts : List TypeId} {B : Nat} {w w1 : World} (h : Tf ts B w w1) : Tf ts B w w1.drew := ⟨h.bel.drew, h.keep⟩
theorem Tf.setCell {ts : List TypeId} {B : Nat} {w w1 : World} {g j : Nat} {u : Value} {cur : Array Value} {t : TypeId} {z : Nat × Nat} (h : Tf ts B w w1) (hg : w1.heap[g]? = some (.cells cur t z)) (ht : t ∈ ts) (hB : B ≤ g) : Tf ts B w (w1.setCell ⟨g, j, none⟩ u) := by
  refine ⟨h.bel.setCell hB _, fun k o hk ho => ?_⟩
  have h1 := h.keep k o hk ho
  have hne : k ≠ g := by rintro rfl; rw [hg] at h1; exact ho _ _ _ (Option.some.inj h1).symm ht
  rw [Below.heap_setCell _ _ _ _ (by simpa using hne)]; exact h1
theorem Tf.blk {ts : List TypeId} {B : Nat} {w w' : World} {b : Nat} {cs : Array Value} {t : TypeId} {z : Nat × Nat} (h : Tf ts B w w') (hb : w.heap[b]? = some (.cells cs t z)) (ht : t ∉ ts) : w'.heap[b]? = some (.cells cs t z) :=
  h.keep b _ hb (fun cur t' z' e => by cases e; exact ht)
theorem Tf.own {ts : List TypeId} {B B' : Nat} {w w' : World} {e : TypeId} {c n : Nat} {v : Value} {xs : List Value} (h : Tf ts B w w') (ho : w.ownsRow B' e c v n xs) (he : e ∉ ts) : w'.ownsRow B' e c v n xs :=
  own_keep ho (fun k hk => by
    obtain ⟨cur, hc⟩ := own_kind ho hk
    rw [h.blk hc he, hc])
theorem Tf.grown {ts : List TypeId} {B : Nat} {w w0 w1 : World} {row : Option Nat} (h : Tf ts B w w0) (hg : w0.grownBy w1 row) (hr : ∀ k, row = some k → B ≤ k ∧ ∃ cur t z, w0.heap[k]? = some (.cells cur t z) ∧ t ∈ ts) (hB : B ≤ w0.heap.size) : Tf ts B w w1 := by
  refine h.trans ⟨⟨hg.os, hg.tape, hg.output, hg.size, fun k hk => hg.block k (by omega) (fun c => by have := (hr k c.symm).1; omega)⟩, fun k o hk ho => ?_⟩
  rw [hg.block k (lt_of_blk hk) (fun c => ?_)]
  · exact hk
  · obtain ⟨-, cur, t, z, h1, h2⟩ := hr k c.symm
    rw [hk] at h1
    exact ho _ _ _ (Option.some.inj h1) h2
structure Ke (K : Kd) (B : Nat) (w : World) (lv : Value) (es : List Ent) (X : Nat → List Value) : Prop where
  own : w.ownsRow B K.h 2 lv es.length (helE es)
  row : ∀ (i : Nat) (x : Ent), es[i]? = some x → w.ownsRow B K.e K.c x.v x.m (X i)
  apart : ∀ (i j : Nat) (a b : Ent) (k : Nat), i ≠ j → es[i]? = some a → es[j]? = some b → a.v.ownBlock = some k → b.v.ownBlock ≠ some k
theorem Ke.nil (K : Kd) (B : Nat) (w : World) : Ke K B w (.slice none 0 0) [] (fun _ => []) :=
  ⟨World.ownsRow_nil _ _ _ _, fun i x h => by simp at h, fun i j a b k _ h => by simp at h⟩
theorem Ke.bw {K : Kd} {B : Nat} {w w' : World} {lv : Value} {es : List Ent} {X : Nat → List Value} (h : Ke K B w lv es X) (hb : Below w.heap.size w w') : Ke K B w' lv es X :=
  ⟨own_keep h.own (fun k hk => hb.block k (World.ownsRow.lt h.own k hk).2), fun i x hx => own_keep (h.row i x hx) (fun k hk => hb.block k (World.ownsRow.lt (h.row i x hx) k hk).2), h.apart⟩
theorem Ke.form {K : Kd} {B : Nat} {w : World} {lv : Value} {es : List Ent} {X : Nat → List Value} (h : Ke K B w lv es X) : ∃ a cap, lv = .slice a es.length cap := own_slice h.own
theorem Ke.entry {K : Kd} {B : Nat} {w : World} {a : Option Addr} {cap N : Nat} {es : List Ent} {X : Nat → List Value} (h : Ke K B w (.slice a N cap) es X) {i : Nat} {x : Ent} (hx : es[i]? = some x) :
    ∃ g, a = some ⟨g, 0, none⟩ ∧ B ≤ g ∧ w.cell? ⟨g, i * 2, none⟩ = some x.v ∧ w.cell? ⟨g, i * 2 + 1, none⟩ = some (.int .i64 (x.n : Int)) ∧ (∀ k, w.frozen? ⟨g, k, none⟩ = false) ∧ ∃ cur, w.heap[g]? = some (.cells cur K.h (0, 0)) := by
  have hi : 0 < es.length := by have := (List.getElem?_eq_some_iff.1 hx).1; omega
  obtain ⟨g, cap', e, hg, _, _⟩ := own_open h.own hi
  cases e
  obtain ⟨q1, q2⟩ := helE_get hx
  obtain ⟨cur, hc⟩ := own_kind h.own (k := g) rfl
  exact ⟨g, rfl, (World.ownsRow.lt h.own g rfl).1, own_cell h.own rfl q1, own_cell h.own rfl q2, fun k => frozen_of_blk0 hc k, cur, hc⟩
theorem Ke.put {K : Kd} {B : Nat} {w w' : World} {lv : Value} {es : List Ent} {X : Nat → List Value} (h : Ke K B w lv es X) {i : Nat} {x : Ent} (hx : es[i]? = some x) (hf : Fr x.v.ownBlock.toList w w') {xs : List Value} (ho : w'.ownsRow B K.e K.c x.v x.m xs) (hne : K.h ≠ K.e) : Ke K B w' lv es (fun j => if j = i then xs else X j) := by
  refine ⟨own_keep h.own (fun k hk => hf.block k (World.ownsRow.lt h.own k hk).2 (fun c => ?_)), fun j y hy => ?_, h.apart⟩
  · have c' : x.v.ownBlock = some k := by simpa using c
    exact own_apart h.own (h.row i x hx) hne hk c'
  · by_cases q : j = i
    · subst q
      rw [hx] at hy
      cases hy
      simpa using ho
    · simp only [q, if_false]
      refine own_keep (h.row j y hy) (fun k hk => hf.block k (World.ownsRow.lt (h.row j y hy) k hk).2 (fun c => ?_))
      have c' : x.v.ownBlock = some k := by simpa using c
      exact h.apart j i y x k q hy hx hk c'
theorem Ke.grown {K : Kd} {B : Nat} {w w0 w1 : World} {g cap N : Nat} {es : List Ent} {X : Nat → List Value} (h : Ke K B w (.slice (some ⟨g, 0, none⟩) N cap) es X) {i : Nat} {x : Ent} (hx : es[i]? = some x) (h0 : Fr [] w w0) {v' : Value} {news : List Value}
    (hown : w1.ownsRow B K.e K.c v' (x.m + 1) (X i ++ news)) (hg : w0.grownBy w1 x.v.ownBlock) (hat : v'.ownBlock = x.v.ownBlock ∨ v'.ownBlock = some w0.heap.size) (hB : B ≤ w.heap.size) (hne : K.h ≠ K.e) :
    Ke K B (w1.setCell ⟨g, i * 2, none⟩ v') (.slice (some ⟨g, 0, none⟩) N cap) (es.set i ⟨v', x.n, x.m + 1⟩) (fun j => if j = i then X i ++ news else X j) ∧ Tf [K.e, K.h] B w (w1.setCell ⟨g, i * 2, none⟩ v') ∧ w1.cell? ⟨g, i * 2, none⟩ = some x.v ∧ w1.frozen? ⟨g, i * 2, none⟩ = false := by
  have hI := h.row i x hx
  have hi : i < es.length := (List.getElem?_eq_some_iff.1 hx).1
  obtain ⟨gcur, hgt⟩ := own_kind h.own (k := g) rfl
  have hgw := lt_of_blk hgt
  have hs0 := h0.size
  have hvg : x.v.ownBlock ≠ some g := fun e => own_apart h.own hI hne (k := g) rfl e
  have hv'g : v'.ownBlock ≠ some g := by
    rcases hat with q | q
    · rw [q]; exact hvg
    · rw [q]; intro e; simp at e; omega
  have hbg : B ≤ g := (World.ownsRow.lt h.own g rfl).1
  have keep0 : ∀ k, k < w.heap.size → x.v.ownBlock ≠ some k → w1.heap[k]? = w.heap[k]? := fun k hk hn => by
    rw [hg.block k (by omega) (fun c => hn c.symm), h0.block k hk (by simp)]
  have hlv1 : w1.ownsRow B K.h 2 (.slice (some ⟨g, 0, none⟩) N cap) es.length (helE es) := own_keep h.own (fun k hk => keep0 k (World.ownsRow.lt h.own k hk).2 (fun e => own_apart h.own hI hne hk e))
  obtain ⟨gcur1, hgt1⟩ := own_kind hlv1 (k := g) rfl
  refine ⟨⟨?_, fun j y hy => ?_, fun j m a b k hjm ha hb hak hbk => ?_⟩, ?_, own_cell hlv1 rfl (helE_get hx).1, frozen_of_blk0 hgt1 _⟩
  · rw [List.length_set, ← helE_set hx v' (x.m + 1)]
    exact own_set hlv1 (g := g) rfl v'
  · by_cases q : j = i
    · subst q
      rw [List.getElem?_set_self hi] at hy
      cases hy
      simp only [if_true]
      exact own_keep hown (fun k hk => Below.heap_setCell _ _ _ _ (by simp; rintro rfl; exact hv'g hk))
    · rw [List.getElem?_set_ne (Ne.symm q)] at hy
      simp only [q, if_false]
      have hr := h.row j y hy
      refine own_keep hr (fun k hk => ?_)
      have hkg : k ≠ g := by rintro rfl; exact own_apart h.own hr hne (k := k) rfl hk
      rw [Below.heap_setCell _ _ _ _ (by simpa using hkg)]
      exact keep0 k (World.ownsRow.lt hr k hk).2 (fun e => h.apart j i y x k q hy hx hk e)
  · have lt : ∀ (j : Nat) (y : Ent) (k : Nat), es[j]? = some y → y.v.ownBlock = some k → k < w.heap.size := fun j y k hy hk => (World.ownsRow.lt (h.row j y hy) k hk).2
    by_cases q : j = i
    · subst q
      rw [List.getElem?_set_self hi] at ha
      cases ha
      rw [List.getElem?_set_ne hjm] at hb
      rcases hat with q2 | q2
      · rw [q2] at hak; exact h.apart j m x b k hjm hx hb hak hbk
      · rw [q2] at hak; simp at hak
        have := lt m b k hb hbk
        omega
    · rw [List.getElem?_set_ne (Ne.symm q)] at ha
      by_cases q3 : m = i
      · subst q3
        rw [List.getElem?_set_self hi] at hb
        cases hb
        rcases hat with q2 | q2
        · rw [q2] at hbk; exact h.apart j m a x k hjm ha hx hak hbk
        · rw [q2] at hbk; simp at hbk
          have := lt j a k ha hak
          omega
      · rw [List.getElem?_set_ne (Ne.symm q3)] at hb
        exact h.apart j m a b k hjm ha hb hak hbk
  · refine Tf.setCell (Tf.grown (Tf.ofBelow h0.toBelow hB) hg (fun k hk => ⟨(World.ownsRow.lt hI k hk).1, ?_⟩) (by omega)) hgt1 (by simp) hbg
    obtain ⟨cur, hc⟩ := own_kind hI hk
    exact ⟨cur, K.e, (0, 0), by rw [h0.block k (lt_of_blk hc) (by simp)]; exact hc, by simp⟩
def bookF (c : Int) (F : Nat → Value) : Array Value := (Array.range 35).map fun j => if j = 0 then .int .i64 c else F j
def updF (F : Nat → Value) (k : Nat) (v : Value) : Nat → Value := fun j => if j = k then v else F j
theorem bookF_get {c : Int} {F : Nat → Value} {k : Nat} (h0 : 0 < k) (h : k < 35) : (bookF c F)[k]? = some (F k) := by
  have : ¬ k = 0 := by omega
  simp [bookF, h, this]
theorem bookF_zero (c : Int) (F : Nat → Value) : (bookF c F)[0]? = some (.int .i64 c) := by simp [bookF]
theorem bookF_set {c : Int} {F : Nat → Value} {k : Nat} (h0 : 0 < k) (v : Value) : (bookF c F).setIfInBounds k v = bookF c (updF F k v) := by
  apply Array.ext_getElem?
  intro j
  rw [Array.getElem?_setIfInBounds]
  by_cases q : k = j
  · subst q
    rcases Nat.lt_or_ge k 35 with c | c
    · rw [if_pos rfl, bookF_get h0 c]; simp [bookF, updF, c]
    · simp [bookF, Nat.not_lt.2 c]
  · rw [if_neg q]
    rcases Nat.lt_or_ge j 35 with c | c
    · have q' : ¬ j = k := fun e => q e.symm
      simp [bookF, updF, c, q']
    · simp [bookF, Nat.not_lt.2 c]
theorem bookF_count {c c' : Int} {F : Nat → Value} : (bookF c F).setIfInBounds 0 (.int .i64 c') = bookF c' F := by
  apply Array.ext_getElem?
  intro j
  rw [Array.getElem?_setIfInBounds]
  by_cases q : 0 = j
  · subst q; simp [bookF]
  · rw [if_neg q]
    have q' : ¬ j = 0 := fun e => q e.symm
    rcases Nat.lt_or_ge j 35 with c | c
    · simp [bookF, c, q']
    · simp [bookF, Nat.not_lt.2 c]
theorem book_cell {w : World} {b : Nat} {c : Int} {F : Nat → Value} {t : TypeId} (h : w.heap[b]? = some (.cells (bookF c F) t (0, 0))) {k : Nat} (h0 : 0 < k) (h35 : k < 35) : w.cell? ⟨b, k, none⟩ = some (F k) := cell_of_blk h (bookF_get h0 h35)
theorem setCell_blk {w : World} {b k : Nat} {cs : Array Value} {t : TypeId} {z : Nat × Nat} {v : Value} (h : w.heap[b]? = some (.cells cs t z)) : (w.setCell ⟨b, k, none⟩ v).heap[b]? = some (.cells (cs.setIfInBounds k v) t z) := by simp [World.setCell, Array.getElem?_modify, h]
theorem Ke.kept {K : Kd} {B : Nat} {w w0 w1 : World} {b k n : Nat} {F : Nat → Value} {es : List Ent} {X : Nat → List Value} {lv' l : Value} {T : TypeId} (h : Ke K B w (F k) es X) (hb : w.heap[b]? = some (.cells (bookF (n : Int) F) T (0, 0))) (hT : K.h ≠ T) (hB : B ≤ b) (hBw : B ≤ w.heap.size) (k0 : 0 < k) (k35 : k < 35) (h0 : Fr [] w w0)
    (hown : w1.ownsRow B K.h 2 lv' (es.length + 1) (helE es ++ [l, .int .i64 (n : Int)])) (hg : w0.grownBy w1 (F k).ownBlock) (hat : lv'.ownBlock = (F k).ownBlock ∨ lv'.ownBlock = some w0.heap.size) :
    ((w1.setCell ⟨b, k, none⟩ lv').setCell ⟨b, 0, none⟩ (.int .i64 ((n : Int) + 1))).heap[b]? = some (.cells (bookF ((n + 1 : Nat) : Int) (updF F k lv')) T (0, 0)) ∧
    (∀ m, ((w1.setCell ⟨b, k, none⟩ lv').setCell ⟨b, 0, none⟩ (.int .i64 ((n : Int) + 1))).ownsRow B K.h 2 lv' (es ++ [Ent.mk l n m]).length (helE (es ++ [Ent.mk l n m]))) ∧
    Tf [T, K.h] B w ((w1.setCell ⟨b, k, none⟩ lv').setCell ⟨b, 0, none⟩ (.int .i64 ((n : Int) + 1))) ∧
    w1.cell? ⟨b, k, none⟩ = some (F k) ∧ w1.frozen? ⟨b, k, none⟩ = false ∧ w1.cell? ⟨b, 0, none⟩ = some (.int .i64 (n : Int)) ∧ w1.frozen? ⟨b, 0, none⟩ = false := by
  have hbw := lt_of_blk hb
  have hne : (F k).ownBlock ≠ some b := own_block_ne h.own hb hT
  have hs0 := h0.size
  have hb1 : w1.heap[b]? = some (.cells (bookF (n : Int) F) T (0, 0)) := by
    rw [hg.block b (by omega) (fun c => hne c.symm), h0.block b hbw (by simp)]; exact hb
  have hne' : lv'.ownBlock ≠ some b := by
    rcases hat with c | c
    · rw [c]; exact hne
    · rw [c]; intro e; simp at e; omega
  have hb2 : (w1.setCell ⟨b, k, none⟩ lv').heap[b]? = some (.cells (bookF (n : Int) (updF F k lv')) T (0, 0)) := by
    rw [setCell_blk hb1, bookF_set k0]
  refine ⟨?_, fun m => ?_, ?_, cell_of_blk hb1 (bookF_get k0 k35), frozen_of_blk0 hb1 _, cell_of_blk hb1 (bookF_zero _ _), frozen_of_blk0 hb1 _⟩
  · rw [setCell_blk hb2, bookF_count]
    rfl
  · rw [helE_snoc, List.length_append]
    refine own_keep hown (fun x hx => ?_)
    have hxb : x ≠ b := by rintro rfl; exact hne' hx
    rw [Below.heap_setCell _ _ _ _ (by simpa using hxb), Below.heap_setCell _ _ _ _ (by simpa using hxb)]
  · refine Tf.setCell (Tf.setCell (Tf.grown (Tf.ofBelow h0.toBelow hBw) hg (fun x hx => ⟨(World.ownsRow.lt h.own x hx).1, ?_⟩) (by omega)) hb1 (by simp) hB) hb2 (by simp) hB
    obtain ⟨cur, hc⟩ := own_kind h.own hx
    exact ⟨cur, K.h, (0, 0), by rw [h0.block x (lt_of_blk hc) (by simp)]; exact hc, by simp⟩
theorem Ke.snoc {K : Kd} {B : Nat} {w w' : World} {lv lv' : Value} {es : List Ent} {X : Nat → List Value} {T : TypeId} {x : Ent} {xs : List Value} (h : Ke K B w lv es X) (ht : Tf [T, K.h] B w w') (hT : K.e ≠ T) (hne : K.e ≠ K.h) (ho : w'.ownsRow B K.h 2 lv' (es ++ [x]).length (helE (es ++ [x]))) (hx : w.ownsRow B K.e K.c x.v x.m xs)
    (hap : ∀ (i : Nat) (y : Ent) (k : Nat), es[i]? = some y → y.v.ownBlock = some k → x.v.ownBlock ≠ some k) : Ke K B w' lv' (es ++ [x]) (fun j => if j = es.length then xs else X j) := by
  have hn : K.e ∉ [T, K.h] := by simp; exact ⟨hT, hne⟩
  have cs : ∀ (j : Nat) (y : Ent), (es ++ [x])[j]? = some y → (j < es.length ∧ es[j]? = some y) ∨ (j = es.length ∧ y = x) := fun j y hy => by
    rcases Nat.lt_or_ge j es.length with c | c
    · rw [List.getElem?_append_left c] at hy; exact Or.inl ⟨c, hy⟩
    · rw [List.getElem?_append_right c] at hy
      rcases Nat.eq_or_lt_of_le c with e | e
      · rw [← e] at hy; simp at hy; exact Or.inr ⟨e.symm, hy.symm⟩
      · rw [List.getElem?_eq_none (by simp; omega)] at hy; cases hy
  refine ⟨ho, fun j y hy => ?_, fun i j a b k hij ha hb hak hbk => ?_⟩
  · rcases cs j y hy with ⟨c, hy'⟩ | ⟨rfl, rfl⟩
    · have : ¬ j = es.length := by omega
      simp only [this, if_false]
      exact ht.own (h.row j y hy') hn
    · simp only [if_true]
      exact ht.own hx hn
  · rcases cs i a ha with ⟨c, ha'⟩ | ⟨rfl, rfl⟩
    · rcases cs j b hb with ⟨c', hb'⟩ | ⟨rfl, rfl⟩
      · exact h.apart i j a b k hij ha' hb' hak hbk
      · exact hap i a k ha' hak hbk
    · rcases cs j b hb with ⟨c', hb'⟩ | ⟨rfl, rfl⟩
      · exact hap j b k hb' hbk hak
      · exact hij rfl
end Go.Proofs.YtihniafidgjlcaaGreatDoor

/- Copies of rows of nodes with marks behind them: what they are in memory. TwinNode, markNode. -/
namespace Go.Proofs.YtihniafidgjlcaaGreatDoor
open Go.RowKit Go.Maps
end Go.Proofs.YtihniafidgjlcaaGreatDoor

/- TwinNodes and TwinTree: a copy of a tree, in memory of its own, with marks behind each list. -/
namespace Go.Proofs.YtihniafidgjlcaaGreatDoor
open Go.RowKit Go.Maps
end Go.Proofs.YtihniafidgjlcaaGreatDoor

/- The contracts of TwinNodes and TwinTree. -/
namespace Go.Proofs.YtihniafidgjlcaaGreatDoor
open Go.RowKit Go.Maps
end Go.Proofs.YtihniafidgjlcaaGreatDoor

/- The contracts of LeftNode, LeftNodes and LeftTree: of a copy that is as it was made they answer true. -/
namespace Go.Proofs.YtihniafidgjlcaaGreatDoor
open Go.RowKit Go.Maps
end Go.Proofs.YtihniafidgjlcaaGreatDoor
