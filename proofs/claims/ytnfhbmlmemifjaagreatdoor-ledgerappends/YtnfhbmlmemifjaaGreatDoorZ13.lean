/- Texts joined: BgA BgB BgC BgE. -/
import Derived.Test.YtnfhbmlmemifjaaGreatDoorZ08
import Derived.Test.YtnfhbmlmemifjaaGreatDoorZ12
import Derived.Great.BuildSlice
/- Kinds of a Book whose elements are structs: what fill, grow, look and keep need of a kind, for all kinds at once. No walk is in this text. -/
namespace Go.Proofs.YtnfhbmlmemifjaaGreatDoor
open Go.RowKit Go.Maps
theorem bg_store {P : Program} {ops : Array Oper} {o : Oper} {a : Act} {w : World} {K : Act → World → Prop} {Q : Exit → Act → World → Prop} {E : Prop} (hg : o.guard = none) (ty : TypeId) (x y : Operand) (hop : o.op = .store ty x y)
    (b off : Nat) (cells : Array Value) (hx : a.eval x = .pointer (some ⟨b, off, none⟩)) (hy : a.eval y = .agg cells) (ht : w.there b off cells.size) (hi : (P.info? ty).map (·.size) = some cells.size) (h1 : cells.all (·.oneCell') = true)
    (h : K (a.put o.dst undef) (w.setCells b off cells.toList)) : if Region.wanted o (yielded ops a.tmps) = true then Oper.wp P o a w K Q else E := by
  have hw : Region.wanted o (yielded ops a.tmps) = true := by simp [Region.wanted, hg]
  rw [if_pos hw]
  exact wp_store_mid ty x y hop b off cells hx hy ht hi h1 h
theorem bg_cells (w : World) (cs : List Value) (t : TypeId) : ∀ j u, cs[j]? = some u → (w.alloc (.cells cs.toArray t)).cell? ((⟨w.heap.size, 0, none⟩ : Addr).add j) = some u := by
  intro j u hj
  have e : (⟨w.heap.size, 0, none⟩ : Addr).add j = ⟨w.heap.size, j, none⟩ := by unfold Addr.add; by_cases hz : j = 0 <;> simp [hz]
  rw [e]
  exact cell_of_blk (heap_alloc_new _ _) (by rw [List.getElem?_toArray]; exact hj)
theorem bg_pokes (b : Nat) : ∀ (vs : List Value) (o : Nat) (w : World), w.setCells b o vs = pokes w b o vs
  | [], _, _ => rfl
  | v :: r, o, w => by rw [World.setCells, pokes, bg_pokes b r]
theorem pk_mid {pre rest vs : List Value} {p : Nat} (hp : pre.length = p) (hr : vs.length ≤ rest.length) : (pk (pre ++ rest).toArray p vs).toList = (pre ++ vs) ++ rest.drop vs.length := by
  apply List.ext_getElem?
  intro j
  rw [Array.getElem?_toList, pk_get _ _ _ (by simp; omega)]
  by_cases h1 : p ≤ j
  · by_cases h2 : j < p + vs.length
    · rw [if_pos ⟨h1, h2⟩, List.getElem?_append_left (by simp; omega), List.getElem?_append_right (by omega), hp]
    · rw [if_neg (by omega), List.getElem?_toArray, List.getElem?_append_right (by omega), List.getElem?_append_right (by simp; omega), List.getElem?_drop]
      congr 1
      simp
      omega
  · rw [if_neg (by omega), List.getElem?_toArray, List.getElem?_append_left (by omega), List.getElem?_append_left (by simp; omega), List.getElem?_append_left (by omega)]
structure Kg where
  k : Kd
  m : Nat → List Value
  len : ∀ n, (m n).length = k.c
  one : ∀ n, ∀ u ∈ m n, u.oneCell' = true
  ne : k.h ≠ k.e
  pos : 0 < k.c
def Kg.is (K : Kg) (n : Nat) (l : List Value) : Prop := l = K.m n
def Kg.Mkd (K : Kg) (es : List Ent) (X : Nat → List Value) : Prop := ∀ i x, es[i]? = some x → Mks (K.is x.n) K.k.c x.m (X i)
theorem Kg.all (K : Kg) (n : Nat) : (K.m n).toArray.all (·.oneCell') = true := by
  rw [List.all_toArray]; simpa using K.one n
def FSt (K : Kg) (B : Nat) (w : World) (a : Option Addr) (N cap : Nat) (es : List Ent) (i : Nat) (wr : World) : Prop :=
  ∃ X, Ke K.k B wr (.slice a N cap) es X ∧ (∀ j x, es[j]? = some x → j < i → Mks (K.is x.n) K.k.c x.m (X j)) ∧ Tf [K.k.e] B w wr
def FSr (K : Kg) (B : Nat) (w : World) (g N cap : Nat) (es : List Ent) (i n k : Nat) (wr : World) : Prop :=
  ∃ X, Ke K.k B wr (.slice (some ⟨g, 0, none⟩) N cap) es X ∧ (∀ j x, es[j]? = some x → j < i → Mks (K.is x.n) K.k.c x.m (X j)) ∧ (∃ pre rest, X i = pre ++ rest ∧ Mks (K.is n) K.k.c k pre) ∧ Tf [K.k.e] B w wr
theorem FSt.start {K : Kg} {B : Nat} {w : World} {a : Option Addr} {N cap : Nat} {es : List Ent} {X : Nat → List Value} (h : Ke K.k B w (.slice a N cap) es X) : FSt K B w a N cap es 0 w :=
  ⟨X, h, fun j x _ hj => by omega, Tf.refl _ _ _⟩
theorem FSt.tf {K : Kg} {B : Nat} {w : World} {a : Option Addr} {N cap : Nat} {es : List Ent} {i : Nat} {wr : World} (h : FSt K B w a N cap es i wr) : Tf [K.k.e] B w wr := by obtain ⟨_, _, _, h⟩ := h; exact h
theorem FSr.tf {K : Kg} {B : Nat} {w : World} {g N cap : Nat} {es : List Ent} {i n k : Nat} {wr : World} (h : FSr K B w g N cap es i n k wr) : Tf [K.k.e] B w wr := by obtain ⟨_, _, _, _, h⟩ := h; exact h
theorem FSt.in {K : Kg} {B : Nat} {w : World} {a : Option Addr} {N cap : Nat} {es : List Ent} {i : Nat} {wr : World} (h : FSt K B w a N cap es i wr) (hi : i < es.length) :
    ∃ g p M cp n, a = some ⟨g, 0, none⟩ ∧ es[i]? = some ⟨.slice p M cp, n, M⟩ ∧ wr.cell? ⟨g, i * 2, none⟩ = some (.slice p M cp) ∧ wr.cell? ⟨g, i * 2 + 1, none⟩ = some (.int .i64 (n : Int)) ∧ FSr K B w g N cap es i n 0 wr := by
  obtain ⟨X, hK, hm, ht⟩ := h
  obtain ⟨x, hx⟩ : ∃ x, es[i]? = some x := ⟨_, List.getElem?_eq_getElem hi⟩
  obtain ⟨g, rfl, -, d1, d2, -⟩ := hK.entry hx
  obtain ⟨p, cp, hxv⟩ := own_slice (hK.row i x hx)
  obtain ⟨v, n, m⟩ := x
  dsimp only at hxv d1 d2
  subst hxv
  exact ⟨g, p, m, cp, n, rfl, hx, d1, d2, X, hK, hm, ⟨[], X i, rfl, Mks.nil _ _⟩, ht⟩
theorem FSr.at {K : Kg} {B : Nat} {w : World} {g N cap : Nat} {es : List Ent} {i n k : Nat} {wr : World} (h : FSr K B w g N cap es i n k wr) (hB : B ≤ w.heap.size) {p : Option Addr} {M cp : Nat} (hx : es[i]? = some ⟨.slice p M cp, n, M⟩) (hk : k < M) :
    ∃ gv, p = some ⟨gv, 0, none⟩ ∧ ∀ z1, Below wr.heap.size wr z1 → z1.cell? ⟨g, i * 2, none⟩ = some (.slice p M cp) ∧ z1.cell? ⟨g, i * 2 + 1, none⟩ = some (.int .i64 (n : Int)) ∧ z1.there gv (k * K.k.c) (K.m n).toArray.size ∧ FSr K B w g N cap es i n (k + 1) (z1.setCells gv (k * K.k.c) (K.m n).toArray.toList) ∧ (z1.setCells gv (k * K.k.c) (K.m n).toArray.toList).cell? ⟨g, i * 2, none⟩ = some (.slice p M cp) ∧ (z1.setCells gv (k * K.k.c) (K.m n).toArray.toList).cell? ⟨g, i * 2 + 1, none⟩ = some (.int .i64 (n : Int)) := by
  obtain ⟨X, hK, hm, ⟨pre, rest, hXi, hpre⟩, ht⟩ := h
  have hr := hK.row i _ hx
  rw [hXi] at hr
  have hlen : (pre ++ rest).length = M * K.k.c := hr.1
  have hpl := hpre.len
  have hM : M * K.k.c = k * K.k.c + K.k.c + (M - (k + 1)) * K.k.c := by
    obtain ⟨d, rfl⟩ : ∃ d, M = k + 1 + d := ⟨M - (k + 1), by omega⟩
    rw [show k + 1 + d - (k + 1) = d by omega, Nat.add_mul, Nat.add_mul, Nat.one_mul]
  have hrl : K.k.c ≤ rest.length := by rw [List.length_append, hpl] at hlen; omega
  obtain ⟨gv, cp', e1, hgl, -, -⟩ := own_open hr (by dsimp only; omega)
  cases e1
  obtain ⟨g', e', -, d1, d2, -, cur, hgc⟩ := hK.entry hx
  cases e'
  obtain ⟨curv, hvc⟩ := own_kind hr (k := gv) rfl
  have hBv : B ≤ gv := (World.ownsRow.lt hr gv rfl).1
  have hne : g ≠ gv := by rintro rfl; rw [hgc] at hvc; simp at hvc; exact K.ne hvc.2
  refine ⟨gv, rfl, fun z1 b1 => ?_⟩
  have hgl2 := lt_of_blk hgc
  have hr1 : z1.ownsRow B K.k.e K.k.c (.slice (some ⟨gv, 0, none⟩) M cp) M (pre ++ rest) := own_keep hr (fun q hq => b1.block q (World.ownsRow.lt hr q hq).2)
  have hlm := K.len n
  have q1 : z1.cell? ⟨g, i * 2, none⟩ = some (.slice (some ⟨gv, 0, none⟩) M cp) := by rw [b1.cell (p := ⟨g, i * 2, none⟩) hgl2]; exact d1
  have q2 : z1.cell? ⟨g, i * 2 + 1, none⟩ = some (.int .i64 (n : Int)) := by rw [b1.cell (p := ⟨g, i * 2 + 1, none⟩) hgl2]; exact d2
  have q3 : (z1.setCells gv (k * K.k.c) (K.m n).toArray.toList).heap[g]? = z1.heap[g]? := by rw [bg_pokes]; exact pokes_other hne _ _ _
  refine ⟨q1, q2, fun j hj => ?_, ?_, by rw [World.cell?_of_block (w := z1) q3]; exact q1, by rw [World.cell?_of_block (w := z1) q3]; exact q2⟩
  · have hj' : j < K.k.c := by rw [List.size_toArray, hlm] at hj; exact hj
    have hy := List.getElem?_eq_getElem (l := pre ++ rest) (i := k * K.k.c + j) (by rw [hlen, hM]; omega)
    exact ⟨by rw [own_cell hr1 rfl hy]; rfl, own_frozen hr1 rfl _⟩
  · rw [bg_pokes]
    have hf : Fr [gv] z1 (pokes z1 gv (k * K.k.c) (K.m n).toArray.toList) := pokes_fr _ _ _ (Fr.refl _ _)
    have o1 := own_pokes (g := gv) rfl (K.m n).toArray.toList z1 (k * K.k.c) _ hr1
    rw [pk_mid hpl (by rw [List.toList_toArray, hlm]; exact hrl)] at o1
    have hK1 : Ke K.k B z1 (.slice (some ⟨g, 0, none⟩) N cap) es X := hK.bw b1
    have hvc1 : z1.heap[gv]? = some (.cells curv K.k.e (0, 0)) := by rw [b1.block gv hgl]; exact hvc
    refine ⟨_, hK1.put hx (by exact hf) o1 K.ne, fun j y hy hj => ?_, ⟨pre ++ K.m n, rest.drop (K.m n).length, by simp, hpre.snoc hlm rfl⟩, (ht.after b1 hB).fr1 hf hvc1 (by simp) hBv⟩
    have : ¬ j = i := by omega
    simp only [this, if_false]
    exact hm j y hy hj
theorem FSr.out {K : Kg} {B : Nat} {w : World} {g N cap : Nat} {es : List Ent} {i n k : Nat} {wr : World} (h : FSr K B w g N cap es i n k wr) {v : Value} (hx : es[i]? = some ⟨v, n, k⟩) : FSt K B w (some ⟨g, 0, none⟩) N cap es (i + 1) wr := by
  obtain ⟨X, hK, hm, ⟨pre, rest, hXi, hpre⟩, ht⟩ := h
  refine ⟨X, hK, fun j y hy hj => ?_, ht⟩
  rcases Nat.lt_or_ge j i with c | c
  · exact hm j y hy c
  · obtain rfl : j = i := by omega
    rw [hx] at hy
    cases hy
    have hlen : (X j).length = k * K.k.c := (hK.row j _ hx).1
    rw [hXi, List.length_append, hpre.len] at hlen
    have : rest = [] := List.eq_nil_of_length_eq_zero (by omega)
    subst this
    rw [hXi, List.append_nil]
    exact hpre
theorem FSt.done {K : Kg} {B : Nat} {w : World} {a : Option Addr} {cap : Nat} {es : List Ent} {wr : World} (h : FSt K B w a es.length cap es es.length wr) : (∃ X, Ke K.k B wr (.slice a es.length cap) es X ∧ K.Mkd es X) ∧ Tf [K.k.e] B w wr := by
  obtain ⟨X, hK, hm, ht⟩ := h
  exact ⟨⟨X, hK, fun i x hx => hm i x hx (List.getElem?_eq_some_iff.1 hx).1⟩, ht⟩
def GSt (K : Kg) (B : Nat) (w : World) (a : Option Addr) (N cap i k : Nat) (wr : World) : Prop :=
  ∃ es X, Ke K.k B wr (.slice a N cap) es X ∧ es.length = N ∧ K.Mkd es X ∧ (∀ (j : Nat) (x : Ent), es[j]? = some x → x.n ≤ 1150000 ∧ x.m ≤ 1150000 + (if j < i then 3 else if j = i then k else 0)) ∧ Tf [K.k.e, K.k.h] B w wr
theorem GSt.start {K : Kg} {B : Nat} {w : World} {a : Option Addr} {cap : Nat} {es : List Ent} {X : Nat → List Value} (h : Ke K.k B w (.slice a es.length cap) es X) (hm : K.Mkd es X) (hb : ∀ x ∈ es, x.n ≤ 1150000 ∧ x.m ≤ 1150000) : GSt K B w a es.length cap 0 0 w :=
  ⟨es, X, h, rfl, hm, fun _ x hx => ⟨(hb x (List.mem_of_getElem? hx)).1, Nat.le_trans (hb x (List.mem_of_getElem? hx)).2 (Nat.le_add_right _ _)⟩, Tf.refl _ _ _⟩
theorem GSt.tf {K : Kg} {B : Nat} {w : World} {a : Option Addr} {N cap i k : Nat} {wr : World} (h : GSt K B w a N cap i k wr) : Tf [K.k.e, K.k.h] B w wr := by obtain ⟨_, _, _, _, _, _, h⟩ := h; exact h
theorem GSt.ptr {K : Kg} {B : Nat} {w : World} {a : Option Addr} {N cap i k : Nat} {wr : World} (h : GSt K B w a N cap i k wr) (hi : i < N) : ∃ g, a = some ⟨g, 0, none⟩ := by
  obtain ⟨es, X, hK, hl, _⟩ := h
  obtain ⟨x, hx⟩ : ∃ x, es[i]? = some x := ⟨_, List.getElem?_eq_getElem (by omega)⟩
  obtain ⟨g, e, -⟩ := hK.entry hx
  exact ⟨g, e⟩
theorem GSt.out {K : Kg} {B : Nat} {w : World} {a : Option Addr} {N cap i : Nat} {wr : World} (h : GSt K B w a N cap i 3 wr) : GSt K B w a N cap (i + 1) 0 wr := by
  obtain ⟨es, X, h1, h2, h3, h4, h5⟩ := h
  refine ⟨es, X, h1, h2, h3, fun j x hx => ?_, h5⟩
  have := h4 j x hx
  refine ⟨this.1, Nat.le_trans this.2 (Nat.add_le_add_left ?_ _)⟩
  by_cases q : j < i
  · rw [if_pos q, if_pos (by omega)]; exact Nat.le_refl _
  · by_cases q2 : j = i
    · rw [if_neg q, if_pos q2, if_pos (by omega)]; exact Nat.le_refl _
    · rw [if_neg q, if_neg q2]; exact Nat.zero_le _
theorem GSt.done {K : Kg} {B : Nat} {w : World} {a : Option Addr} {N cap k : Nat} {wr : World} (h : GSt K B w a N cap N k wr) : (∃ es X, Ke K.k B wr (.slice a N cap) es X ∧ es.length = N ∧ (∀ x ∈ es, x.n ≤ 1150000 ∧ x.m ≤ 1150003) ∧ K.Mkd es X) ∧ Tf [K.k.e, K.k.h] B w wr := by
  obtain ⟨es, X, h1, h2, h3, h4, h5⟩ := h
  refine ⟨⟨es, X, h1, h2, fun x hx => ?_, h3⟩, h5⟩
  obtain ⟨j, hj⟩ := List.mem_iff_getElem?.1 hx
  have hjl := (List.getElem?_eq_some_iff.1 hj).1
  have := h4 j x hj
  rw [if_pos (by omega)] at this
  exact this
theorem GSt.at {K : Kg} {B : Nat} {w : World} {g N cap i k : Nat} {wr : World} (h : GSt K B w (some ⟨g, 0, none⟩) N cap i k wr) (hB : B ≤ w.heap.size) (hi : i < N) (hk : k < 3) :
    ∃ (p : Option Addr) (m cp n : Nat) (xs : List Value), n ≤ 1150000 ∧ m ≤ 1150003 ∧ wr.cell? ⟨g, i * 2 + 1, none⟩ = some (.int .i64 (n : Int)) ∧
      (∀ W, Below wr.heap.size wr W → W.cell? ⟨g, i * 2, none⟩ = some (.slice p m cp) ∧ W.cell? ⟨g, i * 2 + 1, none⟩ = some (.int .i64 (n : Int)) ∧ W.ownsRow B K.k.e K.k.c (.slice p m cp) m xs ∧ B ≤ W.heap.size) ∧
      (∀ z1 W0 v' w1, Below wr.heap.size wr z1 → Fr [] z1 W0 → w1.ownsRow B K.k.e K.k.c v' (m + 1) (xs ++ K.m n) → W0.grownBy w1 (Value.slice p m cp).ownBlock → (v'.ownBlock = (Value.slice p m cp).ownBlock ∨ v'.ownBlock = some W0.heap.size) →
        GSt K B w (some ⟨g, 0, none⟩) N cap i (k + 1) (w1.setCell ⟨g, i * 2, none⟩ v') ∧ w1.cell? ⟨g, i * 2, none⟩ = some (.slice p m cp) ∧ w1.frozen? ⟨g, i * 2, none⟩ = false) := by
  obtain ⟨es, X, hK, hl, hm, hb, ht⟩ := h
  obtain ⟨x, hx⟩ : ∃ x, es[i]? = some x := ⟨_, List.getElem?_eq_getElem (by omega)⟩
  obtain ⟨p, cp, hxv⟩ := own_slice (hK.row i x hx)
  obtain ⟨v, n, m⟩ := x
  dsimp only at hxv
  subst hxv
  have hbx := hb i _ hx
  have hm2 : m ≤ 1150003 := by have := hbx.2; rw [if_neg (by omega), if_pos rfl] at this; dsimp only at this; omega
  have hBw : B ≤ wr.heap.size := Nat.le_trans hB ht.size
  have hat : ∀ W, Below wr.heap.size wr W → W.cell? ⟨g, i * 2, none⟩ = some (.slice p m cp) ∧ W.cell? ⟨g, i * 2 + 1, none⟩ = some (.int .i64 (n : Int)) ∧ W.ownsRow B K.k.e K.k.c (.slice p m cp) m (X i) ∧ B ≤ W.heap.size := fun W hW => by
    obtain ⟨g2, e2, -, d1, d2, -⟩ := (hK.bw hW).entry hx
    cases e2
    exact ⟨d1, d2, (hK.bw hW).row i _ hx, Nat.le_trans hBw hW.size⟩
  refine ⟨p, m, cp, n, X i, hbx.1, hm2, (hat wr (Below.refl _ _)).2.1, hat, fun z1 W0 v' w1 b1 hf ho hg hv => ?_⟩
  obtain ⟨k1, k2, k3, k4⟩ := (hK.bw b1).grown hx hf (v' := v') (news := K.m n) ho hg hv (Nat.le_trans hBw b1.size) K.ne
  refine ⟨⟨_, _, k1, by rw [List.length_set]; exact hl, fun j y hy => ?_, fun j y hy => ?_, (ht.after b1 hB).trans k2⟩, k3, k4⟩
  · by_cases q : j = i
    · subst q
      rw [List.getElem?_set_self (by omega)] at hy
      cases hy
      simp only [if_true]
      exact (hm j _ hx).snoc (K.len n) rfl
    · rw [List.getElem?_set_ne (Ne.symm q)] at hy
      simp only [q, if_false]
      exact hm j y hy
  · by_cases q : j = i
    · subst q
      rw [List.getElem?_set_self (by omega)] at hy
      cases hy
      have := hbx
      simp only [Nat.lt_irrefl, if_false, if_true] at this ⊢
      omega
    · rw [List.getElem?_set_ne (Ne.symm q)] at hy
      have := hb j y hy
      simp only [q, if_false] at this ⊢
      exact this
theorem Kg.look {K : Kg} {B : Nat} {w : World} {a : Option Addr} {N cap : Nat} {es : List Ent} {X : Nat → List Value} (h : Ke K.k B w (.slice a N cap) es X) (hm : K.Mkd es X) (hb : ∀ x ∈ es, x.n ≤ 1150000 ∧ x.m ≤ 1150003) {i : Nat} (hi : i < es.length) :
    ∃ (g : Nat) (p : Option Addr) (M cp n : Nat), a = some ⟨g, 0, none⟩ ∧ n ≤ 1150000 ∧ M ≤ 1150003 ∧ (∀ W, Below w.heap.size w W → W.cell? ⟨g, i * 2, none⟩ = some (.slice p M cp) ∧ W.cell? ⟨g, i * 2 + 1, none⟩ = some (.int .i64 (n : Int))) ∧
      ∀ k, k < M → ∃ gv, p = some ⟨gv, 0, none⟩ ∧ ∀ W, Below w.heap.size w W → W.rangeAt gv (k * K.k.c) (K.m n) := by
  obtain ⟨x, hx⟩ : ∃ x, es[i]? = some x := ⟨_, List.getElem?_eq_getElem hi⟩
  obtain ⟨g, rfl, -, d1, d2, -, cur, hgc⟩ := h.entry hx
  have hr := h.row i x hx
  obtain ⟨p, cp, hxv⟩ := own_slice hr
  have hbx := hb x (List.mem_of_getElem? hx)
  have hmx := hm i x hx
  obtain ⟨v, n, m⟩ := x
  dsimp only at hxv
  subst hxv
  have hgl2 := lt_of_blk hgc
  refine ⟨g, p, m, cp, n, rfl, hbx.1, hbx.2, fun W hW => ⟨by rw [hW.cell (p := ⟨g, i * 2, none⟩) hgl2]; exact d1, by rw [hW.cell (p := ⟨g, i * 2 + 1, none⟩) hgl2]; exact d2⟩, fun k hk => ?_⟩
  obtain ⟨gv, cp', e1, hgl, -, -⟩ := own_open hr (by dsimp only; omega)
  cases e1
  refine ⟨gv, rfl, fun W hW j u hj => ?_⟩
  obtain ⟨l, -, hl2, hl3⟩ := hmx.get hk
  have e : l = K.m n := hl2
  subst e
  have hr2 := own_keep hr (w' := W) (fun q hq => hW.block q (World.ownsRow.lt hr q hq).2)
  exact own_cell hr2 rfl (hl3 j u hj)
theorem there_new (w : World) (cs : Array Value) (t : TypeId) {n : Nat} (h : n = cs.size) : (w.alloc (.cells cs t)).there w.heap.size 0 n := fun j hj => by
  have q := heap_alloc_new w (.cells cs t)
  have hy := Array.getElem?_eq_getElem (xs := cs) (i := j) (by omega)
  rw [Nat.zero_add]
  exact ⟨by rw [cell_of_blk q hy]; rfl, frozen_of_blk0 q _⟩
theorem bw_new (w : World) (cs : Array Value) (t : TypeId) (vs : List Value) : Below w.heap.size w ((w.alloc (.cells cs t)).setCells w.heap.size 0 vs) := by
  rw [bg_pokes]
  exact pokes_below (Nat.le_refl _) _ _ _ (bwA _ _)
theorem rng_new (w : World) (cs : Array Value) (t : TypeId) (vs : List Value) (h : vs.length = cs.size) : ((w.alloc (.cells cs t)).setCells w.heap.size 0 vs.toArray.toList).rangeAt w.heap.size 0 vs := fun j u hj => by
  rw [bg_pokes, List.toList_toArray]
  have q := pokes_at vs (w.alloc (.cells cs t)) 0 cs (heap_alloc_new _ _)
  rw [pk_all h] at q
  rw [Nat.zero_add]
  exact cell_of_blk q (by rw [List.getElem?_toArray]; exact hj)
end Go.Proofs.YtnfhbmlmemifjaaGreatDoor

/- A Book with lists of many kinds: what it keeps; which lists an element, and a row of elements, has for its own. No walk is in this text. -/
namespace Go.Proofs.YtnfhbmlmemifjaaGreatDoor
open Go.RowKit Go.Maps
def kdsOf (L : List (Nat × Kd)) (i : Nat) : Option Kd := (L.find? (fun p => p.1 == i)).map (·.2)
theorem kdsOf_mem {L : List (Nat × Kd)} {i : Nat} {K : Kd} (h : kdsOf L i = some K) : (i, K) ∈ L := by
  unfold kdsOf at h
  obtain ⟨p, hp, rfl⟩ := Option.map_eq_some_iff.1 h
  have h1 := List.find?_some hp
  have h2 := List.mem_of_find?_eq_some hp
  have : p.1 = i := by simpa using h1
  subst this
  exact h2
def kdsChk (L : List (Nat × Kd)) : Bool := L.all fun p => decide (0 < p.1 ∧ p.1 < 35 ∧ p.2.e ≠ 81 ∧ p.2.h ≠ 81) && L.all fun q => decide (p.2.e ≠ q.2.h ∧ (p.1 = q.1 ∨ (p.2.e ≠ q.2.e ∧ p.2.h ≠ q.2.h)))
structure KS where
  L : List (Nat × Kd)
  ok : kdsChk L = true
def KS.D (S : KS) (i : Nat) : Option Kd := kdsOf S.L i
def KS.ts (S : KS) : List TypeId := 81 :: S.L.map (·.2.h)
theorem KS.fact (S : KS) : ∀ p ∈ S.L, (0 < p.1 ∧ p.1 < 35 ∧ p.2.e ≠ 81 ∧ p.2.h ≠ 81) ∧ ∀ q ∈ S.L, p.2.e ≠ q.2.h ∧ (p.1 = q.1 ∨ (p.2.e ≠ q.2.e ∧ p.2.h ≠ q.2.h)) := fun p hp => by
  have h := List.all_eq_true.1 S.ok p hp
  rw [Bool.and_eq_true] at h
  exact ⟨of_decide_eq_true h.1, fun q hq => of_decide_eq_true (List.all_eq_true.1 h.2 q hq)⟩
theorem KS.eb (S : KS) {i : Nat} {K : Kd} (h : S.D i = some K) : K.e ≠ 81 ∧ K.h ≠ 81 := (S.fact _ (kdsOf_mem h)).1.2.2
theorem KS.eh (S : KS) {i j : Nat} {K L : Kd} (h : S.D i = some K) (h' : S.D j = some L) : K.e ≠ L.h := ((S.fact _ (kdsOf_mem h)).2 _ (kdsOf_mem h')).1
theorem KS.ee (S : KS) {i j : Nat} {K L : Kd} (hij : i ≠ j) (h : S.D i = some K) (h' : S.D j = some L) : K.e ≠ L.e ∧ K.h ≠ L.h := ((S.fact _ (kdsOf_mem h)).2 _ (kdsOf_mem h')).2.resolve_left hij
theorem KS.hin (S : KS) {i : Nat} {K : Kd} (h : S.D i = some K) : K.h ∈ S.ts := List.mem_cons_of_mem _ (List.mem_map.2 ⟨_, kdsOf_mem h, rfl⟩)
theorem KS.eout (S : KS) {i : Nat} {K : Kd} (h : S.D i = some K) : K.e ∉ S.ts := fun c => by
  rcases List.mem_cons.1 c with c | c
  · exact (S.eb h).1 c
  · obtain ⟨q, hq, e⟩ := List.mem_map.1 c
    exact ((S.fact _ (kdsOf_mem h)).2 q hq).1 e.symm
structure Bk (S : KS) (B : Nat) (w : World) (b n : Nat) (F : Nat → Value) (E : Nat → List Ent) (X : Nat → Nat → List Value) : Prop where
  blk : w.heap[b]? = some (.cells (bookF (n : Int) F) 81 (0, 0))
  low : B ≤ b
  ke : ∀ i K, S.D i = some K → Ke K B w (F i) (E i) (X i)
  nil : ∀ i, 0 < i → i < 35 → S.D i = none → F i = .slice none 0 0
  len : ∀ i, (E i).length ≤ n
  c : ∀ i, ∀ x ∈ E i, x.n ≤ n ∧ x.m ≤ 1150000
theorem Bk.bw {S : KS} {B : Nat} {w w' : World} {b n : Nat} {F : Nat → Value} {E : Nat → List Ent} {X : Nat → Nat → List Value} (h : Bk S B w b n F E X) (hb : Below w.heap.size w w') : Bk S B w' b n F E X :=
  ⟨by rw [hb.block b (lt_of_blk h.blk)]; exact h.blk, h.low, fun i K hi => (h.ke i K hi).bw hb, h.nil, h.len, h.c⟩
theorem Bk.start {S : KS} {B : Nat} {w : World} {b : Nat} (hb : w.heap[b]? = some (.cells (bookF 0 (fun _ => .slice none 0 0)) 81 (0, 0))) (hB : B ≤ b) : Bk S B w b 0 (fun _ => .slice none 0 0) (fun _ => []) (fun _ _ => []) :=
  ⟨hb, hB, fun _ _ _ => Ke.nil _ _ _, fun _ _ _ _ => rfl, by simp, by simp⟩
theorem Bk.kept {S : KS} {B : Nat} {w w' : World} {b n : Nat} {F : Nat → Value} {E : Nat → List Ent} {X : Nat → Nat → List Value} (h : Bk S B w b n F E X) {i : Nat} {K : Kd} (hi : S.D i = some K) {lv' : Value} {x : Ent} {xs : List Value}
    (h1 : w'.heap[b]? = some (.cells (bookF ((n + 1 : Nat) : Int) (updF F i lv')) 81 (0, 0))) (h2 : w'.ownsRow B K.h 2 lv' (E i ++ [x]).length (helE (E i ++ [x]))) (ht : Tf [81, K.h] B w w') (hx : w.ownsRow B K.e K.c x.v x.m xs) (hn : x.n = n) (hm : x.m ≤ 1150000)
    (hap : ∀ y ∈ E i, ∀ k, y.v.ownBlock = some k → x.v.ownBlock ≠ some k) : Bk S B w' b (n + 1) (updF F i lv') (fun j => if j = i then E i ++ [x] else E j) (fun j => if j = i then (fun q => if q = (E i).length then xs else X i q) else X j) := by
  refine ⟨h1, h.low, fun j K' hj => ?_, fun j j0 j35 hj => ?_, fun j => ?_, fun j y hy => ?_⟩
  · by_cases q : j = i
    · subst q
      rw [hi] at hj
      cases hj
      simp only [if_true, updF]
      exact (h.ke j K hi).snoc ht (S.eb hi).1 (S.eh hi hi) h2 hx (fun a y k hy hk => hap y (List.mem_of_getElem? hy) k hk)
    · simp only [q, if_false, updF]
      exact (h.ke j K' hj).tf ht (by simp; exact ⟨(S.eb hj).1, S.eh hj hi⟩) (by simp; exact ⟨(S.eb hj).2, (S.ee q hj hi).2⟩)
  · have : j ≠ i := by rintro rfl; rw [hi] at hj; cases hj
    simp only [updF, this, if_false]
    exact h.nil j j0 j35 hj
  · by_cases q : j = i
    · have := h.len i
      simp [q]
      omega
    · have := h.len j
      simp only [q, if_false]
      omega
  · by_cases q : j = i
    · simp only [q, if_true] at hy
      rcases List.mem_append.1 hy with c | c
      · have := h.c i y c; exact ⟨by omega, this.2⟩
      · have : y = x := by simpa using c
        subst this
        exact ⟨by omega, hm⟩
    · simp only [q, if_false] at hy
      have := h.c j y hy
      exact ⟨by omega, this.2⟩
structure Pc where
  i : Nat
  v : Value
  m : Nat
def PcO (S : KS) (H : Nat) (w : World) (p : Pc) : Prop := ∃ K xs, S.D p.i = some K ∧ w.ownsRow H K.e K.c p.v p.m xs ∧ p.m ≤ 1150000
def ApP (p q : Pc) : Prop := p.i = q.i → ∀ k, p.v.ownBlock = some k → q.v.ownBlock ≠ some k
theorem PcO.tf {S : KS} {H B : Nat} {w w' : World} {p : Pc} (h : PcO S H w p) (ht : Tf S.ts B w w') : PcO S H w' p := by
  obtain ⟨K, xs, h1, h2, h3⟩ := h
  exact ⟨K, xs, h1, ht.own h2 (S.eout h1), h3⟩
theorem PcO.same {S : KS} {H B : Nat} {w w' : World} {p : Pc} (h : PcO S H w p) (ht : Tf S.ts B w w') {k : Nat} (hk : p.v.ownBlock = some k) : w'.heap[k]? = w.heap[k]? := by
  obtain ⟨K, xs, h1, h2, h3⟩ := h
  obtain ⟨cur, hc⟩ := own_kind h2 hk
  rw [ht.blk hc (S.eout h1), hc]
theorem PcO.bw {S : KS} {H : Nat} {w w' : World} {p : Pc} (h : PcO S H w p) (hb : Below w.heap.size w w') : PcO S H w' p := by
  obtain ⟨K, xs, h1, h2, h3⟩ := h
  exact ⟨K, xs, h1, own_keep h2 (fun k hk => hb.block k (World.ownsRow.lt h2 k hk).2), h3⟩
def BK (S : KS) (B : Nat) (w : World) (b n H : Nat) (done : List Pc) : Prop :=
  ∃ F E X, Bk S B w b n F E X ∧ ∀ i x k, x ∈ E i → x.v.ownBlock = some k → k < H ∨ ∃ p ∈ done, p.i = i ∧ p.v = x.v
theorem BK.bw {S : KS} {B : Nat} {w w' : World} {b n H : Nat} {done : List Pc} (h : BK S B w b n H done) (hb : Below w.heap.size w w') : BK S B w' b n H done := by
  obtain ⟨F, E, X, h1, h2⟩ := h
  exact ⟨F, E, X, h1.bw hb, h2⟩
theorem BK.start {S : KS} {B : Nat} {w : World} {b : Nat} (hb : w.heap[b]? = some (.cells (bookF 0 (fun _ => .slice none 0 0)) 81 (0, 0))) (hB : B ≤ b) (H : Nat) : BK S B w b 0 H [] :=
  ⟨_, _, _, Bk.start hb hB, by simp⟩
theorem BK.up {S : KS} {B : Nat} {w : World} {b n H H' : Nat} {done : List Pc} (h : BK S B w b n H done) (hH : H ≤ H') (hd : ∀ p ∈ done, ∀ k, p.v.ownBlock = some k → k < H') : BK S B w b n H' [] := by
  obtain ⟨F, E, X, h1, h2⟩ := h
  refine ⟨F, E, X, h1, fun i x k hx hk => Or.inl ?_⟩
  rcases h2 i x k hx hk with c | ⟨p, hp, _, e⟩
  · omega
  · exact hd p hp k (by rw [e]; exact hk)
def KeepC (f : Nat) (i : Nat) (K : Kd) : Prop := ∀ (B b n : Nat) (F : Nat → Value) (es : List Ent) (X : Nat → List Value) (p : Option Addr) (m cap : Nat) (w : World), w.heap[b]? = some (.cells (bookF (n : Int) F) 81 (0, 0)) → Ke K B w (F i) es X → B ≤ b → B ≤ w.heap.size → es.length ≤ 1150000 → n ≤ 1150000 →
  Calls Tryz.prog f #[.pointer (some ⟨b, 0, none⟩), .slice p m cap] w fun e w' => e = .returned (.tuple #[]) ∧ ∃ lv', w'.heap[b]? = some (.cells (bookF ((n + 1 : Nat) : Int) (updF F i lv')) 81 (0, 0)) ∧ w'.ownsRow B K.h 2 lv' (es ++ [Ent.mk (.slice p m cap) n m]).length (helE (es ++ [Ent.mk (.slice p m cap) n m])) ∧ Tf [81, K.h] B w w'
def ListC (S : KS) (f : Nat) (i : Nat) : Prop := ∀ (B : Nat) (w : World) (b n H : Nat) (done : List Pc) (p : Pc), p.i = i → BK S B w b n H done → n ≤ 1149999 → B ≤ H → B ≤ w.heap.size → PcO S H w p → (∀ q ∈ done, ApP q p) →
  Calls Tryz.prog f #[.pointer (some ⟨b, 0, none⟩), p.v] w fun e w' => e = .returned (.tuple #[]) ∧ BK S B w' b (n + 1) H (done ++ [p]) ∧ Tf S.ts B w w'
theorem KeepC.list {S : KS} {f i : Nat} {K : Kd} (hC : KeepC f i K) (hi : S.D i = some K) : ListC S f i := by
  intro B w b n H done p hp h hn hBH hw ho hap
  obtain ⟨F, E, X, h1, h2⟩ := h
  obtain ⟨K', xs, k1, k2, k3⟩ := ho
  subst hp
  rw [hi] at k1
  cases k1
  obtain ⟨a, cap, hv⟩ := own_slice k2
  obtain ⟨pi, pv, pm⟩ := p
  dsimp only at *
  subst hv
  refine (hC B b n F (E pi) (X pi) a pm cap w h1.blk (h1.ke pi K hi) h1.low hw (by have := h1.len pi; omega) (by omega)).mono ?_
  rintro e w' ⟨rfl, lv', q1, q2, q3⟩
  have hk := h1.kept hi q1 q2 q3 (own_mono k2 hBH) rfl k3 (fun y hy k hk hk2 => by
    rcases h2 pi y k hy hk with c | ⟨q, hq, e1, e2⟩
    · have := (World.ownsRow.lt k2 k hk2).1; omega
    · exact hap q hq e1 k (by rw [e2]; exact hk) hk2)
  refine ⟨rfl, ⟨_, _, _, hk, fun j y k hy hk2 => ?_⟩, q3.mono (fun t ht => by
    simp at ht
    rcases ht with rfl | rfl
    · exact List.mem_cons_self
    · exact S.hin hi)⟩
  by_cases q : j = pi
  · subst q
    simp only [if_true] at hy
    rcases List.mem_append.1 hy with c | c
    · rcases h2 j y k c hk2 with d | ⟨p, hp, e⟩
      · exact Or.inl d
      · exact Or.inr ⟨p, List.mem_append_left _ hp, e⟩
    · simp at c
      subst c
      exact Or.inr ⟨_, List.mem_append_right _ List.mem_cons_self, rfl, rfl⟩
  · simp only [q, if_false] at hy
    rcases h2 j y k hy hk2 with d | ⟨p, hp, e⟩
    · exact Or.inl d
    · exact Or.inr ⟨p, List.mem_append_left _ hp, e⟩
structure PK (T : KS) {α ξ : Type} (K : EK α ξ) where
  P : α → ξ → List Pc
  S : α → Prop
  own : ∀ B w a x, K.O B w a x → S a → ∀ p ∈ P a x, PcO T B w p
  ap : ∀ B w a x, K.O B w a x → (P a x).Pairwise ApP
  blk : ∀ a x p k, p ∈ P a x → p.v.ownBlock = some k → k ∈ K.Z x
  cov : ∀ B w a x, K.O B w a x → ∀ k ∈ K.Z x, ∃ p ∈ P a x, p.v.ownBlock = some k
end Go.Proofs.YtnfhbmlmemifjaaGreatDoor

/- Which lists a row of elements has for its own, list by list. No walk is in this text. -/
namespace Go.Proofs.YtnfhbmlmemifjaaGreatDoor
open Go.RowKit Go.Maps
theorem mem_zf {α ξ : Type} {P : α → ξ → List Pc} {l : List α} {xs : List ξ} {p : Pc} (h : p ∈ (List.zipWith P l xs).flatten) : ∃ (i : Nat) (a : α) (x : ξ), l[i]? = some a ∧ xs[i]? = some x ∧ p ∈ P a x := by
  obtain ⟨q, hq, hp⟩ := List.mem_flatten.1 h
  obtain ⟨i, hi⟩ := List.mem_iff_getElem?.1 hq
  rw [List.getElem?_zipWith] at hi
  cases hl : l[i]? with
  | none => rw [hl] at hi; simp at hi
  | some a =>
    cases hx : xs[i]? with
    | none => rw [hl, hx] at hi; simp at hi
    | some x => rw [hl, hx] at hi; simp at hi; subst hi; exact ⟨i, a, x, hl, hx, hp⟩
theorem zf_mem {α ξ : Type} {P : α → ξ → List Pc} {l : List α} {xs : List ξ} {i : Nat} {a : α} {x : ξ} {p : Pc} (ha : l[i]? = some a) (hx : xs[i]? = some x) (hp : p ∈ P a x) : p ∈ (List.zipWith P l xs).flatten :=
  List.mem_flatten.2 ⟨P a x, List.mem_of_getElem? (i := i) (by rw [List.getElem?_zipWith, ha, hx]), hp⟩
theorem zf_take {α ξ : Type} {P : α → ξ → List Pc} : ∀ {l : List α} {xs : List ξ} {i : Nat} {a : α} {x : ξ}, l[i]? = some a → xs[i]? = some x → (List.zipWith P (l.take (i + 1)) (xs.take (i + 1))).flatten = (List.zipWith P (l.take i) (xs.take i)).flatten ++ P a x
  | [], _, _, _, _, h, _ => by simp at h
  | _ :: _, [], _, _, _, _, h => by simp at h
  | b :: l, y :: xs, 0, a, x, h, h' => by simp at h h'; subst h h'; simp
  | b :: l, y :: xs, i + 1, a, x, h, h' => by
    rw [List.getElem?_cons_succ] at h h'
    have := zf_take (P := P) h h'
    simp only [List.take_succ_cons, List.zipWith_cons_cons, List.flatten_cons] at this ⊢
    rw [this, List.append_assoc]
theorem zf_split {α ξ : Type} {P : α → ξ → List Pc} {l : List α} {xs : List ξ} {i : Nat} {a : α} {x : ξ} (ha : l[i]? = some a) (hx : xs[i]? = some x) : ∃ r, (List.zipWith P l xs).flatten = ((List.zipWith P (l.take i) (xs.take i)).flatten ++ P a x) ++ r := by
  refine ⟨(List.zipWith P (l.drop (i + 1)) (xs.drop (i + 1))).flatten, ?_⟩
  rw [← zf_take ha hx, ← List.flatten_append, ← List.zipWith_append (by
    have h1 := (List.getElem?_eq_some_iff.1 ha).1
    have h2 := (List.getElem?_eq_some_iff.1 hx).1
    simp; omega), List.take_append_drop, List.take_append_drop]
theorem pw_left {A B : List Pc} (h : (A ++ B).Pairwise ApP) : A.Pairwise ApP := (List.pairwise_append.1 h).1
theorem pw_mid {A B C : List Pc} (h : (A ++ (B ++ C)).Pairwise ApP) : (A ++ B).Pairwise ApP := by rw [← List.append_assoc] at h; exact pw_left h
theorem pw_assoc {A B C : List Pc} (h : (A ++ (B ++ C)).Pairwise ApP) : ((A ++ B) ++ C).Pairwise ApP := by rw [List.append_assoc]; exact h
theorem pw_one {A B : List Pc} {p : Pc} (h : (A ++ (p :: B)).Pairwise ApP) : ∀ q ∈ A, ApP q p := fun q hq => (List.pairwise_append.1 h).2.2 q hq p List.mem_cons_self
def PK.L {T : KS} {α ξ : Type} {K : EK α ξ} (Q : PK T K) (i : Nat) (v : Value) (l : List α) (xs : List ξ) : List Pc := (List.zipWith Q.P l xs).flatten ++ [⟨i, v, l.length⟩]
theorem PK.L_own {T : KS} {α ξ : Type} {K : EK α ξ} (Q : PK T K) {i : Nat} {h : TypeId} (hi : T.D i = some ⟨K.t, h, K.c⟩) {B : Nat} {w : World} {v : Value} {l : List α} {xs : List ξ} (ho : OwL K B w v l xs) (hs : ∀ a ∈ l, Q.S a) (hl : l.length ≤ 1150000) : ∀ p ∈ Q.L i v l xs, PcO T B w p := fun p hp => by
  rcases List.mem_append.1 hp with c | c
  · obtain ⟨j, a, x, ha, hx, hp⟩ := mem_zf c
    exact Q.own _ _ _ _ (ho.el j a x ha hx) (hs a (List.mem_of_getElem? ha)) p hp
  · have : p = ⟨i, v, l.length⟩ := by simpa using c
    subst this
    exact ⟨_, _, hi, ho.row, hl⟩
theorem PK.L_ap {T : KS} {α ξ : Type} {K : EK α ξ} (Q : PK T K) (i : Nat) {B : Nat} {w : World} {v : Value} {l : List α} {xs : List ξ} (ho : OwL K B w v l xs) : (Q.L i v l xs).Pairwise ApP := by
  unfold PK.L
  refine List.pairwise_append.2 ⟨List.pairwise_flatten.2 ⟨fun q hq => ?_, ?_⟩, by simp, fun p hp q hq e k hk hk2 => ?_⟩
  · obtain ⟨j, hj⟩ := List.mem_iff_getElem?.1 hq
    rw [List.getElem?_zipWith] at hj
    cases ha : l[j]? with
    | none => rw [ha] at hj; simp at hj
    | some a =>
      cases hx : xs[j]? with
      | none => rw [ha, hx] at hj; simp at hj
      | some x => rw [ha, hx] at hj; simp at hj; subst hj; exact Q.ap _ _ _ _ (ho.el j a x ha hx)
  · rw [List.pairwise_iff_getElem]
    intro a b ha hb hab p hp q hq e k hk hk2
    simp only [List.getElem_zipWith, List.length_zipWith] at hp hq ha hb
    have h1 := Q.blk _ _ p k hp hk
    have h2 := Q.blk _ _ q k hq hk2
    have := ho.ap a b _ _ k (List.getElem?_eq_getElem (by omega)) (List.getElem?_eq_getElem (by omega)) h1 h2
    omega
  · obtain ⟨j, a, x, ha, hx, hp⟩ := mem_zf hp
    have : q = ⟨i, v, l.length⟩ := by simpa using hq
    subst this
    exact ho.self k j x hk2 hx (Q.blk _ _ p k hp hk)
theorem PK.L_blk {T : KS} {α ξ : Type} {K : EK α ξ} (Q : PK T K) {i : Nat} {v : Value} {l : List α} {xs : List ξ} {p : Pc} {k : Nat} (hp : p ∈ Q.L i v l xs) (hk : p.v.ownBlock = some k) : k ∈ zK K v xs := by
  rcases List.mem_append.1 hp with c | c
  · obtain ⟨j, a, x, _, hx, hp⟩ := mem_zf c
    exact zK_el hx (Q.blk _ _ p k hp hk)
  · have : p = ⟨i, v, l.length⟩ := by simpa using c
    subst this
    exact zK_row hk
theorem PK.L_cov {T : KS} {α ξ : Type} {K : EK α ξ} (Q : PK T K) (i : Nat) {B : Nat} {w : World} {v : Value} {l : List α} {xs : List ξ} (ho : OwL K B w v l xs) {k : Nat} (hk : k ∈ zK K v xs) : ∃ p ∈ Q.L i v l xs, p.v.ownBlock = some k := by
  rcases zK_cases hk with c | ⟨j, x, hx, c⟩
  · exact ⟨_, List.mem_append_right _ List.mem_cons_self, c⟩
  · obtain ⟨a, ha⟩ : ∃ a, l[j]? = some a := ⟨_, List.getElem?_eq_getElem (by rw [← ho.xl]; exact (List.getElem?_eq_some_iff.1 hx).1)⟩
    obtain ⟨p, hp, e⟩ := Q.cov _ _ a x (ho.el j a x ha hx) k c
    exact ⟨p, List.mem_append_left _ (zf_mem ha hx hp), e⟩
theorem PK.tf {T : KS} {α ξ : Type} {K : EK α ξ} (Q : PK T K) {i : Nat} {h : TypeId} (hi : T.D i = some ⟨K.t, h, K.c⟩) {B B' : Nat} {w w' : World} {v : Value} {l : List α} {xs : List ξ} (ho : OwL K B w v l xs) (hs : ∀ a ∈ l, Q.S a) (hl : l.length ≤ 1150000) (ht : Tf T.ts B' w w') : OwL K B w' v l xs :=
  ho.keep (fun k hk => by
    obtain ⟨p, hp, e⟩ := Q.L_cov i ho hk
    exact (Q.L_own hi ho hs hl p hp).same ht e)
def ElC {T : KS} {α ξ : Type} {K : EK α ξ} (Q : PK T K) (f : Nat) : Prop := ∀ (B : Nat) (w : World) (b n H : Nat) (done : List Pc) (a : α) (x : ξ), BK T B w b n H done → n + (Q.P a x).length ≤ 1150000 → B ≤ H → B ≤ w.heap.size → K.O H w a x → Q.S a → (done ++ Q.P a x).Pairwise ApP →
  Calls Tryz.prog f #[.pointer (some ⟨b, 0, none⟩), .agg (K.C a x).toArray] w fun e w' => e = .returned (.tuple #[]) ∧ BK T B w' b (n + (Q.P a x).length) H (done ++ Q.P a x) ∧ Tf T.ts B w w'
def RwC {T : KS} {α ξ : Type} {K : EK α ξ} (Q : PK T K) (f i : Nat) : Prop := ∀ (B : Nat) (w : World) (b n H : Nat) (done : List Pc) (v : Value) (l : List α) (xs : List ξ), BK T B w b n H done → n + (Q.L i v l xs).length ≤ 1150000 → B ≤ H → B ≤ w.heap.size → OwL K H w v l xs → (∀ a ∈ l, Q.S a) → l.length ≤ 1150000 → (done ++ Q.L i v l xs).Pairwise ApP →
  Calls Tryz.prog f #[.pointer (some ⟨b, 0, none⟩), v] w fun e w' => e = .returned (.tuple #[]) ∧ BK T B w' b (n + (Q.L i v l xs).length) H (done ++ Q.L i v l xs) ∧ Tf T.ts B w w'
def RwS {T : KS} {α ξ : Type} {K : EK α ξ} (Q : PK T K) (B b n H : Nat) (done : List Pc) (l : List α) (xs : List ξ) (w : World) (i : Nat) (wr : World) : Prop :=
  BK T B wr b (n + (List.zipWith Q.P (l.take i) (xs.take i)).flatten.length) H (done ++ (List.zipWith Q.P (l.take i) (xs.take i)).flatten) ∧ Tf T.ts B w wr
theorem RwS.start {T : KS} {α ξ : Type} {K : EK α ξ} {Q : PK T K} {B b n H : Nat} {done : List Pc} {l : List α} {xs : List ξ} {w : World} (h : BK T B w b n H done) : RwS Q B b n H done l xs w 0 w := ⟨by simpa using h, Tf.refl _ _ _⟩
theorem RwS.at {T : KS} {α ξ : Type} {K : EK α ξ} {Q : PK T K} {f : Nat} (hE : ElC Q f) {i0 : Nat} {ht : TypeId} (hi0 : T.D i0 = some ⟨K.t, ht, K.c⟩) {B b n H : Nat} {done : List Pc} {v : Value} {l : List α} {xs : List ξ} {w wr : World} {i : Nat} (h : RwS Q B b n H done l xs w i wr) (hi : i < l.length)
    (hn : n + (Q.L i0 v l xs).length ≤ 1150000) (hBH : B ≤ H) (hB : B ≤ w.heap.size) (ho : OwL K H w v l xs) (hs : ∀ a ∈ l, Q.S a) (hl : l.length ≤ 1150000) (hap : (done ++ Q.L i0 v l xs).Pairwise ApP) :
    ∃ g cap CL, v = .slice (some ⟨g, 0, none⟩) l.length cap ∧ CL.length = K.c ∧ wr.rangeAt g (i * K.c) CL ∧ Calls Tryz.prog f #[.pointer (some ⟨b, 0, none⟩), .agg CL.toArray] wr fun e w' => e = .returned (.tuple #[]) ∧ RwS Q B b n H done l xs w (i + 1) w' := by
  obtain ⟨hb, htf⟩ := h
  obtain ⟨a, ha⟩ : ∃ a, l[i]? = some a := ⟨_, List.getElem?_eq_getElem hi⟩
  obtain ⟨x, hx⟩ : ∃ x, xs[i]? = some x := ⟨_, List.getElem?_eq_getElem (by rw [ho.xl]; exact hi)⟩
  obtain ⟨r, hr⟩ := zf_split (P := Q.P) ha hx
  have ho' := Q.tf hi0 ho hs hl htf
  obtain ⟨g, cap, hv, -, -, -⟩ := own_open ho'.row (by omega)
  subst hv
  have hap1 : ((done ++ (List.zipWith Q.P (l.take i) (xs.take i)).flatten) ++ Q.P a x).Pairwise ApP := by
    unfold PK.L at hap
    rw [hr, List.append_assoc, List.append_assoc] at hap
    have := pw_mid (pw_assoc hap)
    exact this
  have hn1 : n + (List.zipWith Q.P (l.take i) (xs.take i)).flatten.length + (Q.P a x).length ≤ 1150000 := by
    unfold PK.L at hn
    rw [hr] at hn
    simp only [List.length_append] at hn
    omega
  refine ⟨g, cap, K.C a x, rfl, K.Cl _ _, fun j u hj => ?_, ?_⟩
  · exact own_cell ho'.row rfl (cellK_get ha hx hj)
  · refine (hE B wr b _ H _ a x hb hn1 hBH (Nat.le_trans hB htf.size) (ho'.el i a x ha hx) (hs a (List.mem_of_getElem? ha)) hap1).mono ?_
    rintro e w' ⟨rfl, h1, h2⟩
    refine ⟨rfl, ?_, htf.trans h2⟩
    rw [zf_take ha hx, List.length_append, ← Nat.add_assoc, ← List.append_assoc]
    exact h1
theorem RwS.fin {T : KS} {α ξ : Type} {K : EK α ξ} {Q : PK T K} {fk i0 : Nat} (hC : ListC T fk i0) {ht : TypeId} (hi0 : T.D i0 = some ⟨K.t, ht, K.c⟩) {B b n H : Nat} {done : List Pc} {v : Value} {l : List α} {xs : List ξ} {w wr : World} (h : RwS Q B b n H done l xs w l.length wr)
    (hn : n + (Q.L i0 v l xs).length ≤ 1150000) (hBH : B ≤ H) (hB : B ≤ w.heap.size) (ho : OwL K H w v l xs) (hs : ∀ a ∈ l, Q.S a) (hl : l.length ≤ 1150000) (hap : (done ++ Q.L i0 v l xs).Pairwise ApP) :
    Calls Tryz.prog fk #[.pointer (some ⟨b, 0, none⟩), v] wr fun e w' => e = .returned (.tuple #[]) ∧ BK T B w' b (n + (Q.L i0 v l xs).length) H (done ++ Q.L i0 v l xs) ∧ Tf T.ts B w w' := by
  obtain ⟨hb, htf⟩ := h
  rw [List.take_of_length_le (Nat.le_refl _), List.take_of_length_le (by rw [ho.xl]; exact Nat.le_refl _)] at hb
  have ho' := Q.tf hi0 ho hs hl htf
  have hn1 : n + (List.zipWith Q.P l xs).flatten.length ≤ 1149999 := by
    unfold PK.L at hn
    simp only [List.length_append, List.length_singleton] at hn
    omega
  refine (hC B wr b _ H _ ⟨i0, v, l.length⟩ rfl hb hn1 hBH (Nat.le_trans hB htf.size) (Q.L_own hi0 ho' hs hl _ (List.mem_append_right _ List.mem_cons_self)) (pw_one (B := []) (pw_assoc hap))).mono ?_
  rintro e w' ⟨rfl, h1, h2⟩
  refine ⟨rfl, ?_, htf.trans h2⟩
  unfold PK.L
  rw [List.length_append, ← List.append_assoc, List.length_singleton, ← Nat.add_assoc]
  exact h1
end Go.Proofs.YtnfhbmlmemifjaaGreatDoor

/- While Apart goes through a Book of many kinds. No walk is in this text. mkBgP.py writes it. -/
namespace Go.Proofs.YtnfhbmlmemifjaaGreatDoor
open Go.RowKit Go.Maps
def upd {α : Type} (X : Nat → α) (i : Nat) (v : α) : Nat → α := fun j => if j = i then v else X j
theorem upd_self {α : Type} (X : Nat → α) (i : Nat) (v : α) : upd X i v i = v := if_pos rfl
theorem upd_ne {α : Type} (X : Nat → α) {i j : Nat} (v : α) (h : j ≠ i) : upd X i v j = X j := if_neg h
structure Ap (S : KS) (M : Nat → List Ent → (Nat → List Value) → Prop) (B : Nat) (w0 w : World) (b : Nat) (cnt : Int) (F : Nat → Value) (E : Nat → List Ent) (X : Nat → Nat → List Value) (done gr : List Nat) : Prop where
  blk : w.heap[b]? = some (.cells (bookF cnt F) 81 (0, 0))
  hB : B ≤ w0.heap.size
  bel : Below B w0 w
  ke : ∀ i K, S.D i = some K → Ke K B w (F i) (E i) (X i)
  nil : ∀ i, 0 < i → i < 35 → S.D i = none → F i = .slice none 0 0
  len : ∀ i, (E i).length ≤ 1150000
  c : ∀ i, ∀ x ∈ E i, x.n ≤ 1150000 ∧ x.m ≤ 1150003
  cc : ∀ i, i ∉ gr → ∀ x ∈ E i, x.n ≤ 1150000 ∧ x.m ≤ 1150000
  mks : ∀ i, i ∈ done → M i (E i) (X i)
theorem Ap.size {S : KS} {M : Nat → List Ent → (Nat → List Value) → Prop} {B : Nat} {w0 w : World} {b : Nat} {cnt : Int} {F : Nat → Value} {E : Nat → List Ent} {X : Nat → Nat → List Value} {done gr : List Nat} (h : Ap S M B w0 w b cnt F E X done gr) : B ≤ w.heap.size := Nat.le_trans h.hB h.bel.size
theorem Ap.cell {S : KS} {M : Nat → List Ent → (Nat → List Value) → Prop} {B : Nat} {w0 w : World} {b : Nat} {cnt : Int} {F : Nat → Value} {done gr : List Nat} (h : ∃ E X, Ap S M B w0 w b cnt F E X done gr) (k : Nat) (k0 : 0 < k) (k35 : k < 35) (hk : S.D k = none) : w.cell? ⟨b, k, none⟩ = some (.slice none 0 0) := by
  obtain ⟨E, X, h⟩ := h
  rw [book_cell h.blk k0 k35, h.nil k k0 k35 hk]
theorem Ap.fill {S : KS} {M : Nat → List Ent → (Nat → List Value) → Prop} {B : Nat} {w0 w w' : World} {b : Nat} {cnt : Int} {F : Nat → Value} {E : Nat → List Ent} {X : Nat → Nat → List Value} {done gr : List Nat} (h : Ap S M B w0 w b cnt F E X done gr) {i : Nat} {K : Kd} (hi : S.D i = some K) {X' : Nat → List Value} (hk : Ke K B w' (F i) (E i) X') (hm : M i (E i) X') (ht : Tf [K.e] B w w') : ∃ E X, Ap S M B w0 w' b cnt F E X (i :: done) gr := by
  refine ⟨E, upd X i X', ht.blk h.blk (by simp; exact fun e => (S.eb hi).1 e.symm), h.hB, h.bel.trans ht.bel, fun j L hj => ?_, h.nil, h.len, h.c, h.cc, fun j hj => ?_⟩
  · by_cases q : j = i
    · subst q
      rw [hi] at hj
      cases hj
      rw [upd_self]; exact hk
    · rw [upd_ne _ _ q]
      exact (h.ke j L hj).tf ht (by simp; exact (S.ee q hj hi).1) (by simp; exact fun e => S.eh hi hj e.symm)
  · by_cases q : j = i
    · subst q
      rw [upd_self]; exact hm
    · rw [upd_ne _ _ q]
      rcases List.mem_cons.1 hj with c | c
      · exact absurd c q
      · exact h.mks j c
theorem Ap.grow {S : KS} {M : Nat → List Ent → (Nat → List Value) → Prop} {B : Nat} {w0 w w' : World} {b : Nat} {cnt : Int} {F : Nat → Value} {E : Nat → List Ent} {X : Nat → Nat → List Value} {done gr : List Nat} (h : Ap S M B w0 w b cnt F E X done gr) {i : Nat} {K : Kd} (hi : S.D i = some K) {es' : List Ent} {X' : Nat → List Value} (hk : Ke K B w' (F i) es' X') (hl : es'.length = (E i).length) (hc : ∀ x ∈ es', x.n ≤ 1150000 ∧ x.m ≤ 1150003) (hm : M i es' X') (ht : Tf [K.e, K.h] B w w') : ∃ E X, Ap S M B w0 w' b cnt F E X done (i :: gr) := by
  refine ⟨upd E i es', upd X i X', ht.blk h.blk (by simp; exact ⟨fun e => (S.eb hi).1 e.symm, fun e => (S.eb hi).2 e.symm⟩), h.hB, h.bel.trans ht.bel, fun j L hj => ?_, h.nil, fun j => ?_, fun j x hx => ?_, fun j hj x hx => ?_, fun j hj => ?_⟩
  · by_cases q : j = i
    · subst q
      rw [hi] at hj
      cases hj
      rw [upd_self, upd_self]; exact hk
    · rw [upd_ne _ _ q, upd_ne _ _ q]
      exact (h.ke j L hj).tf ht (by simp; exact ⟨(S.ee q hj hi).1, S.eh hj hi⟩) (by simp; exact ⟨fun e => S.eh hi hj e.symm, (S.ee q hj hi).2⟩)
  · by_cases q : j = i
    · subst q; rw [upd_self, hl]; exact h.len j
    · rw [upd_ne _ _ q]; exact h.len j
  · by_cases q : j = i
    · subst q; rw [upd_self] at hx; exact hc x hx
    · rw [upd_ne _ _ q] at hx; exact h.c j x hx
  · have q : j ≠ i := by rintro rfl; exact hj List.mem_cons_self
    rw [upd_ne _ _ q] at hx
    exact h.cc j (fun c => hj (List.mem_cons_of_mem _ c)) x hx
  · by_cases q : j = i
    · subst q
      rw [upd_self, upd_self]; exact hm
    · rw [upd_ne _ _ q, upd_ne _ _ q]; exact h.mks j hj
theorem Ap.look {S : KS} {M : Nat → List Ent → (Nat → List Value) → Prop} {B : Nat} {w0 w w' : World} {b : Nat} {cnt : Int} {F : Nat → Value} {E : Nat → List Ent} {X : Nat → Nat → List Value} {done gr : List Nat} (h : Ap S M B w0 w b cnt F E X done gr) (hb : Below w.heap.size w w') : ∃ E X, Ap S M B w0 w' b cnt F E X done gr :=
  ⟨E, X, by rw [hb.block b (lt_of_blk h.blk)]; exact h.blk, h.hB, h.bel.trans (bw_mono hb h.size), fun j L hj => (h.ke j L hj).bw hb, h.nil, h.len, h.c, h.cc, h.mks⟩
theorem BK.ap {S : KS} {M : Nat → List Ent → (Nat → List Value) → Prop} {B : Nat} {w : World} {b n H : Nat} {d : List Pc} (h : BK S B w b n H d) (hB : B ≤ w.heap.size) (hn : n ≤ 1150000) : ∃ F E X, Ap S M B w w b (n : Int) F E X [] [] := by
  obtain ⟨F, E, X, h, -⟩ := h
  exact ⟨F, E, X, h.blk, hB, Below.refl _ _, h.ke, h.nil, fun i => Nat.le_trans (h.len i) hn, fun i x hx => ⟨Nat.le_trans (h.c i x hx).1 hn, Nat.le_trans (h.c i x hx).2 (by decide)⟩, fun i _ x hx => ⟨Nat.le_trans (h.c i x hx).1 hn, (h.c i x hx).2⟩, by simp⟩
end Go.Proofs.YtnfhbmlmemifjaaGreatDoor
