/- Texts joined: TrK0 TrK TrL0 TrL1. -/
import Derived.Shelf.Spec.SlicesInsert
import Derived.Shelf.Spec.SlicesInsertGrow
import Derived.Laws.AppendOwn
import Derived.Test.YtpcpcgagiapinaaGreatDoorZ07
/- The library's slices.Insert at []int: one number comes into a row of one's own. -/
namespace Go.Proofs.YtpcpcgagiapinaaGreatDoor
open Go.Shelf Go.RowKit Go.Maps
-- Lays2.n21: no function slices.Insert[[]int,int]
theorem ints_of_cells {B : Nat} {w : World} {b c : Nat} {cur : Array Value} {l : List Int} (hb : w.heap[b]? = some (.cells cur 3 (0, 0))) (hB : B ≤ b) (hs : cur.size = c) (hl : l.length ≤ c) (hc : c ≤ maxLen) (hx : ∀ j z, l[j]? = some z → w.cell? ⟨b, j, none⟩ = some (.int .i64 z)) : Ints B w (.slice (some ⟨b, 0, none⟩) l.length c) l := by
  refine ⟨by simp, Or.inr ⟨b, c, cur, rfl, hB, hb, hl, hc, by omega, ?_⟩⟩
  apply List.ext_getElem?
  intro j
  rcases Nat.lt_or_ge j l.length with h | h
  · have h1 := hx j l[j] (List.getElem?_eq_getElem h)
    have h2 : cur[j]? = some (.int .i64 l[j]) := by simpa [World.cell?, hb] using h1
    rw [List.getElem?_take_of_lt (by omega), Array.getElem?_toList, h2]
    simp [I64, List.getElem?_eq_getElem h]
  · rw [List.getElem?_eq_none (by simp; omega), List.getElem?_eq_none (by simp; omega)]
end Go.Proofs.YtpcpcgagiapinaaGreatDoor

/- The contract of addUnmerged, on a node of a tree of one's own. -/
namespace Go.Proofs.YtpcpcgagiapinaaGreatDoor
open Go.Shelf Go.RowKit Go.Maps
theorem OTr.node {B : Nat} {w w' : World} {g m : Nat} {T : List Nd} {us : List Value} {x : Nat} {n n' : Nd} {u u' : Value} {S : List Nat} (h : OTr B w (.slice (some ⟨g, 0, none⟩) m m) T us) (hn : T[x]? = some n) (hu : us[x]? = some u) (hf : Fr S w w') (hS : ∀ k ∈ S, u.ownBlock = some k) (hr : Ints B w' u' n'.un) (hp : u'.ownBlock = u.ownBlock ∨ u'.ownBlock = none ∨ ∃ q, u'.ownBlock = some q ∧ w.heap.size ≤ q)
    {W : World} (hW : W.ownsRow B 59 4 (.slice (some ⟨g, 0, none⟩) m m) T.length (treeC (T.set x n') (us.set x u'))) (hfW : Fr [g] w' W) : OTr B W (.slice (some ⟨g, 0, none⟩) m m) (T.set x n') (us.set x u') := by
  have hx : x < T.length := (List.getElem?_eq_some_iff.1 hn).1
  have hg : ∀ (v : Value) (l : List Int), Ints B w' v l → ∀ k, v.ownBlock = some k → k ≠ g → Ints B W v l := fun v l hv k hk hne => own_keep hv (fun j hj => hfW.block j (World.ownsRow.lt hv j hj).2 (by rw [hk] at hj; cases hj; simpa using hne))
  have hgk : ∀ (v : Value) (l : List Int), Ints B w' v l → Ints B W v l := fun v l hv => own_keep hv (fun j hj => hfW.block j (World.ownsRow.lt hv j hj).2 (by
    intro c
    have c : j = g := by simpa using c
    subst c
    have row' : w'.heap[j]? = w.heap[j]? := hf.block j (World.ownsRow.lt h.row j rfl).2 (fun c => by
      have := hS j c
      exact own_apart (h.un x n u hn hu) h.row (show (3 : Nat) ≠ 59 by decide) this rfl)
    obtain ⟨cur, h1⟩ := own_kind hv hj
    obtain ⟨cur2, h2⟩ := own_kind h.row (k := j) rfl
    rw [row', h2] at h1
    simp at h1))
  have kp : ∀ (j : Nat) (m' : Nd) (v : Value), j ≠ x → T[j]? = some m' → us[j]? = some v → Ints B w' v m'.un := fun j m' v hj hm hv => own_keep (h.un j m' v hm hv) (fun k hk => hf.block k (World.ownsRow.lt (h.un j m' v hm hv) k hk).2 (fun c => hj (h.apart j x v u k hv hu hk (hS k c))))
  refine ⟨by simpa using h.ul, by simpa using hW, ?_, ?_⟩
  · intro j m' v hm hv
    by_cases c : j = x
    · subst c
      rw [List.getElem?_set_self hx] at hm
      rw [List.getElem?_set_self (by rw [h.ul]; exact hx)] at hv
      cases hm; cases hv
      exact hgk _ _ hr
    · rw [List.getElem?_set_ne (Ne.symm c)] at hm hv
      exact hgk _ _ (kp j m' v c hm hv)
  · intro i j v1 v2 k h1 h2 k1 k2
    have lt1 : ∀ (i : Nat) (v : Value), us[i]? = some v → v.ownBlock = some k → k < w.heap.size := fun i v hi hk => by
      obtain ⟨m1, hm1⟩ : ∃ m1, T[i]? = some m1 := ⟨_, List.getElem?_eq_getElem (by rw [← h.ul]; exact (List.getElem?_eq_some_iff.1 hi).1)⟩
      exact (World.ownsRow.lt (h.un i m1 v hm1 hi) k hk).2
    by_cases c1 : i = x <;> by_cases c2 : j = x
    · omega
    · subst c1
      rw [List.getElem?_set_self (by rw [h.ul]; exact hx)] at h1
      cases h1
      rw [List.getElem?_set_ne (Ne.symm c2)] at h2
      rcases hp with q | q | ⟨q, q1, q2⟩
      · rw [q] at k1; exact h.apart i j u v2 k hu h2 k1 k2
      · rw [q] at k1; cases k1
      · rw [q1] at k1; cases k1; have := lt1 j v2 h2 k2; omega
    · subst c2
      rw [List.getElem?_set_self (by rw [h.ul]; exact hx)] at h2
      cases h2
      rw [List.getElem?_set_ne (Ne.symm c1)] at h1
      rcases hp with q | q | ⟨q, q1, q2⟩
      · rw [q] at k2; exact h.apart i j v1 u k h1 hu k1 k2
      · rw [q] at k2; cases k2
      · rw [q1] at k2; cases k2; have := lt1 i v1 h1 k1; omega
    · rw [List.getElem?_set_ne (Ne.symm c1)] at h1
      rw [List.getElem?_set_ne (Ne.symm c2)] at h2
      exact h.apart i j v1 v2 k h1 h2 k1 k2
end Go.Proofs.YtpcpcgagiapinaaGreatDoor

/- A tree of one's own in a variable: what steps leave of it. Plain facts of trees that change. No walk is in this text. -/
namespace Go.Proofs.YtpcpcgagiapinaaGreatDoor
open Go.RowKit Go.Maps
structure NX (W0 wr : World) (nb g m : Nat) (T : List Nd) (us : List Value) : Prop where
  bel : Below W0.heap.size W0 wr
  tr : OTr W0.heap.size wr (.slice (some ⟨g, 0, none⟩) m m) T us
  box : wr.heap[nb]? = some (.cells #[.slice (some ⟨g, 0, none⟩) m m] 44 (0, 0))
theorem OTr.len {B : Nat} {w : World} {g m c : Nat} {T : List Nd} {us : List Value} (h : OTr B w (.slice (some ⟨g, 0, none⟩) m c) T us) : m = T.length := by
  obtain ⟨a, c', e⟩ := own_slice h.row
  cases e; rfl
theorem NX.notin {W0 wr : World} {nb g m : Nat} {T : List Nd} {us : List Value} (h : NX W0 wr nb g m T us) : nb ∉ g :: rrB us := by
  intro c
  rcases List.mem_cons.1 c with rfl | c
  · obtain ⟨cur, e⟩ := own_kind h.tr.row (k := nb) rfl
    rw [h.box] at e
    simp at e
  · obtain ⟨i, u, hu, hk⟩ := mem_rrB.1 c
    obtain ⟨n, hn⟩ : ∃ n, T[i]? = some n := ⟨_, List.getElem?_eq_getElem (by rw [← h.tr.ul]; exact (List.getElem?_eq_some_iff.1 hu).1)⟩
    obtain ⟨cur, e⟩ := own_kind (h.tr.un i n u hn hu) hk
    rw [h.box] at e
    simp at e
theorem OTr.blocks {B : Nat} {w : World} {g m : Nat} {T : List Nd} {us : List Value} (h : OTr B w (.slice (some ⟨g, 0, none⟩) m m) T us) : ∀ k ∈ g :: rrB us, B ≤ k ∧ k < w.heap.size := by
  intro k c
  rcases List.mem_cons.1 c with rfl | c
  · exact World.ownsRow.lt h.row k rfl
  · obtain ⟨i, u, hu, hk⟩ := mem_rrB.1 c
    obtain ⟨n, hn⟩ : ∃ n, T[i]? = some n := ⟨_, List.getElem?_eq_getElem (by rw [← h.ul]; exact (List.getElem?_eq_some_iff.1 hu).1)⟩
    exact World.ownsRow.lt (h.un i n u hn hu) k hk
theorem NX.fr {W0 wr w' : World} {nb g m : Nat} {T T' : List Nd} {us us' : List Value} (h : NX W0 wr nb g m T us) (h' : OTr W0.heap.size w' (.slice (some ⟨g, 0, none⟩) m m) T' us') (hf : Fr (g :: rrB us) wr w') : NX W0 w' nb g m T' us' :=
  ⟨Fr.toBase h.bel hf (fun k hk => (h.tr.blocks k hk).1), h', by rw [hf.block nb (lt_of_blk h.box) h.notin]; exact h.box⟩
theorem NX.bw {W0 wr w' : World} {nb g m : Nat} {T : List Nd} {us : List Value} (h : NX W0 wr nb g m T us) (hb : Below wr.heap.size wr w') : NX W0 w' nb g m T us :=
  ⟨bw_tr h.bel hb, h.tr.bw hb, by rw [hb.block nb (lt_of_blk h.box)]; exact h.box⟩
theorem NX.cell {W0 wr : World} {nb g m : Nat} {T : List Nd} {us : List Value} (h : NX W0 wr nb g m T us) : wr.cell? ⟨nb, 0, none⟩ = some (.slice (some ⟨g, 0, none⟩) m m) := cell_of_blk h.box rfl
theorem NX.at {W0 wr : World} {nb g m : Nat} {T : List Nd} {us : List Value} (h : NX W0 wr nb g m T us) {x : Nat} (hx : x < T.length) : ∃ u, us[x]? = some u ∧ NdC wr g (x * 4) (ndAt T x) u ∧ ∀ j, wr.frozen? ⟨g, j, none⟩ = false := by
  obtain ⟨u, hu⟩ : ∃ u, us[x]? = some u := ⟨_, List.getElem?_eq_getElem (by rw [h.tr.ul]; exact hx)⟩
  have hn := ndAt_of hx
  refine ⟨u, hu, ⟨?_, ?_, ?_, ?_⟩, fun j => own_frozen h.tr.row rfl j⟩
  · simpa using own_cell h.tr.row rfl (treeC_get hn hu (j := 0) rfl)
  · exact own_cell h.tr.row rfl (treeC_get hn hu (j := 1) rfl)
  · exact own_cell h.tr.row rfl (treeC_get hn hu (j := 2) rfl)
  · exact own_cell h.tr.row rfl (treeC_get hn hu (j := 3) rfl)
theorem NX.set4 {W0 wr : World} {nb g m : Nat} {T : List Nd} {us : List Value} (h : NX W0 wr nb g m T us) {x : Nat} (hx : x < T.length) (n : Nd) (hn : n.un = []) :
    NX W0 ((((wr.setCell ⟨g, x * 4, none⟩ (.int .i64 n.pub)).setCell ⟨g, x * 4 + 1, none⟩ (.int .i64 n.mem)).setCell ⟨g, x * 4 + 2, none⟩ (.int .i64 n.ep)).setCell ⟨g, x * 4 + 3, none⟩ (.slice none 0 0)) nb g m (T.set x n) (us.set x (.slice none 0 0)) := by
  obtain ⟨u, hu, _⟩ := h.at hx
  have r1 := own_set h.tr.row (g := g) rfl (j := x * 4) (.int .i64 n.pub)
  have r2 := own_set r1 (g := g) rfl (j := x * 4 + 1) (.int .i64 n.mem)
  have r3 := own_set r2 (g := g) rfl (j := x * 4 + 2) (.int .i64 n.ep)
  have r4 := own_set r3 (g := g) rfl (j := x * 4 + 3) (.slice none 0 0)
  rw [treeC_set n (.slice none 0 0) h.tr.ul hx] at r4
  have f : Fr [g] wr ((((wr.setCell ⟨g, x * 4, none⟩ (.int .i64 n.pub)).setCell ⟨g, x * 4 + 1, none⟩ (.int .i64 n.mem)).setCell ⟨g, x * 4 + 2, none⟩ (.int .i64 n.ep)).setCell ⟨g, x * 4 + 3, none⟩ (.slice none 0 0)) :=
    (((((Fr.refl [g] wr).setCell (a := ⟨g, x * 4, none⟩) (Or.inr (by simp)) _).setCell (a := ⟨g, x * 4 + 1, none⟩) (Or.inr (by simp)) _).setCell (a := ⟨g, x * 4 + 2, none⟩) (Or.inr (by simp)) _).setCell (a := ⟨g, x * 4 + 3, none⟩) (Or.inr (by simp)) _)
  generalize ((((wr.setCell ⟨g, x * 4, none⟩ (.int .i64 n.pub)).setCell ⟨g, x * 4 + 1, none⟩ (.int .i64 n.mem)).setCell ⟨g, x * 4 + 2, none⟩ (.int .i64 n.ep)).setCell ⟨g, x * 4 + 3, none⟩ (.slice none 0 0)) = W at *
  refine h.fr (OTr.node h.tr (ndAt_of hx) hu (Fr.refl [] wr) (by simp) (n' := n) (u' := .slice none 0 0) (by rw [hn]; exact ints_nil _ _) (Or.inr (Or.inl rfl)) r4 f) (f.mono (fun k _ hk => by simp at hk; simp [hk]))
theorem NX.set1 {W0 wr : World} {nb g m : Nat} {T : List Nd} {us : List Value} (h : NX W0 wr nb g m T us) {x k : Nat} (hk : k < 3) (hx : x < T.length) (n : Nd) (z : Int) (hun : n.un = (ndAt T x).un) (hz : ∀ u, (ndC (ndAt T x) u).set k (.int .i64 z) = ndC n u) :
    NX W0 (wr.setCell ⟨g, x * 4 + k, none⟩ (.int .i64 z)) nb g m (T.set x n) us := by
  obtain ⟨u, hu, _⟩ := h.at hx
  have r1 := own_set h.tr.row (g := g) rfl (j := x * 4 + k) (.int .i64 z)
  rw [treeC_setk (n' := n) (u' := u) (by omega) (ndAt_of hx) hu (hz u)] at r1
  have f : Fr [g] wr (wr.setCell ⟨g, x * 4 + k, none⟩ (.int .i64 z)) := (Fr.refl [g] wr).setCell (a := ⟨g, x * 4 + k, none⟩) (Or.inr (by simp)) _
  generalize wr.setCell ⟨g, x * 4 + k, none⟩ (.int .i64 z) = W at *
  have hO := OTr.node h.tr (ndAt_of hx) hu (Fr.refl [] wr) (by simp) (n' := n) (u' := u) (by rw [hun]; exact h.tr.un x _ u (ndAt_of hx) hu) (Or.inl rfl) r1 f
  rw [set_same hu] at hO
  exact h.fr hO (f.mono (fun k _ hk => by simp at hk; simp [hk]))
theorem frozen_of_blk {w : World} {b o : Nat} {cs : Array Value} {t : TypeId} (h : w.heap[b]? = some (.cells cs t (0, 0))) : w.frozen? ⟨b, o, none⟩ = false := by simp [World.frozen?, h]
theorem new1 {Y z : World} {o : Obj} (h : Below (Y.alloc o).heap.size (Y.alloc o) z) : z.heap[Y.heap.size]? = some o := by
  rw [h.block _ (by simp)]; exact heap_alloc_new _ _
theorem kept1 {z z' : World} {b : Nat} {o : Obj} (h : z.heap[b]? = some o) (hb : Below z.heap.size z z') : z'.heap[b]? = some o := by rw [hb.block b (lt_of_blk h)]; exact h
theorem nx_new {W0 z : World} {g m : Nat} {T : List Nd} {us : List Value} (x : Below W0.heap.size W0 z) (O : OTr W0.heap.size z (.slice (some ⟨g, 0, none⟩) m m) T us) : NX W0 (z.alloc (.cells #[.slice (some ⟨g, 0, none⟩) m m] 44)) z.heap.size g m T us :=
  ⟨x.alloc x.size _, O.bw (bwA _ _), heap_alloc_new _ _⟩
theorem nx_put {W0 z : World} {nb g m : Nat} {T : List Nd} {us : List Value} (x : Below W0.heap.size W0 z) (O : OTr W0.heap.size z (.slice (some ⟨g, 0, none⟩) m m) T us) (k : z.heap[nb]? = some (.cells #[.slice none 0 0] 44 (0, 0))) (hnb : W0.heap.size ≤ nb) : NX W0 (z.setCell ⟨nb, 0, none⟩ (.slice (some ⟨g, 0, none⟩) m m)) nb g m T us := by
  have hn : nb ∉ g :: rrB us := by
    intro c
    rcases List.mem_cons.1 c with rfl | c
    · obtain ⟨cur, e⟩ := own_kind O.row (k := nb) rfl
      rw [k] at e; simp at e
    · obtain ⟨i, u, hu, hk⟩ := mem_rrB.1 c
      obtain ⟨n, hn⟩ : ∃ n, T[i]? = some n := ⟨_, List.getElem?_eq_getElem (by rw [← O.ul]; exact (List.getElem?_eq_some_iff.1 hu).1)⟩
      obtain ⟨cur, e⟩ := own_kind (O.un i n u hn hu) hk
      rw [k] at e; simp at e
  refine ⟨x.setCell hnb _, ?_, by simp [World.setCell, Array.getElem?_modify, k]⟩
  exact ⟨O.ul, own_keep O.row (fun j hj => Below.heap_setCell _ _ _ _ (by simp; intro c; subst c; cases hj; simp at hn)), fun i n u h1 h2 => own_keep (O.un i n u h1 h2) (fun j hj => Below.heap_setCell _ _ _ _ (by simp; intro c; subst c; exact hn (List.mem_cons_of_mem _ (mem_rrB.2 ⟨i, u, h2, hj⟩)))), O.apart⟩
end Go.Proofs.YtpcpcgagiapinaaGreatDoor

/- Plain facts of a tree to which someone comes. -/
namespace Go.Proofs.YtpcpcgagiapinaaGreatDoor
open Go.RowKit Go.Maps
theorem unM_sorted {T : List Nd} {L : Int} : ∀ {l : List Int} {f : Int}, unM T f L l = true → l.Pairwise (· < ·) ∧ ∀ u ∈ l, f ≤ u
  | [], _, _ => ⟨List.Pairwise.nil, by simp⟩
  | u :: us, f, h => by
    simp only [unM, Bool.and_eq_true, decide_eq_true_eq] at h
    obtain ⟨⟨⟨h1, h2⟩, h3⟩, h4⟩ := h
    obtain ⟨i1, i2⟩ := unM_sorted h4
    refine ⟨List.Pairwise.cons (fun z hz => by have := i2 z hz; omega) i1, fun z hz => ?_⟩
    rcases List.mem_cons.1 hz with rfl | hz
    · exact h1
    · have := i2 z hz; omega
theorem un_ok {T : List Nd} (h : mayB T = true) (x : Nat) : (ndAt T x).un.Pairwise (· ≤ ·) ∧ (ndAt T x).un.length ≤ 8 := by
  rcases Nat.lt_or_ge x T.length with c | c
  · have ok := mayB_okn h (by omega)
    refine ⟨?_, (ok.sm x c).1⟩
    rcases ndM_un (ok.nd x c) with e | ⟨_, _, e⟩
    · rw [e]; exact List.Pairwise.nil
    · exact (unM_sorted e).1.imp (fun h => by omega)
  · rw [ndAt_ge c]; exact ⟨List.Pairwise.nil, by simp [nd0]⟩
theorem un_len {T : List Nd} (h : mayB T = true) : ∀ n ∈ T, n.un.length ≤ 8 := by
  intro n hn
  obtain ⟨i, hi⟩ := List.mem_iff_getElem?.1 hn
  have hlt := (List.getElem?_eq_some_iff.1 hi).1
  rw [ndAt_of hlt] at hi
  cases hi
  exact (un_ok h i).2
theorem fb_le (T : List Nd) : fb T ≤ nlv T := by
  unfold fb; rw [← lvs_len]; exact List.findIdx_le_length
theorem nlv_sizes {T : List Nd} (h : mayB T = true) : nlv T = 0 ∨ nlv T ∈ sizes := by
  rcases mayB_wd h with rfl | h
  · exact Or.inl rfl
  · exact Or.inr h.facts.1
theorem wRoom_sizes {T : List Nd} (h : mayB T = true) (h8 : fb T ≠ 8) : wRoom (nlv T) (fb T) ∈ sizes ∧ fb T < wRoom (nlv T) (fb T) ∧ nlv T ≤ 8 := by
  have hle := fb_le T
  have hn := nlv_sizes h
  unfold wRoom
  simp [sizes] at hn ⊢
  split
  · omega
  · split <;> omega
theorem onAll_nil (f : Nd → Nd) (T : List Nd) : onAll f [] T = T := rfl
theorem onAll_snoc (f : Nd → Nd) (l : List Nat) (x : Nat) (T : List Nd) : onAll f (l ++ [x]) T = (onAll f l T).set x (f (ndAt (onAll f l T) x)) := by
  unfold onAll; rw [List.foldl_append]; rfl
theorem onAll_len (f : Nd → Nd) (l : List Nat) (T : List Nd) : (onAll f l T).length = T.length := by
  unfold onAll
  induction l generalizing T with
  | nil => rfl
  | cons x l ih => rw [List.foldl_cons, ih]; simp
theorem ndAt_set (T : List Nd) (x y : Nat) (n : Nd) : ndAt (T.set x n) y = if x = y ∧ y < T.length then n else ndAt T y := by
  unfold ndAt
  rw [List.getD_eq_getElem?_getD, List.getD_eq_getElem?_getD, List.getElem?_set]
  by_cases c : x = y
  · subst c
    by_cases c2 : x < T.length
    · simp [c2]
    · simp [c2]
  · simp [c]
theorem onAll_cons (f : Nd → Nd) (x : Nat) (l : List Nat) (T : List Nd) : onAll f (x :: l) T = onAll f l (T.set x (f (ndAt T x))) := rfl
theorem ndAt_onAll (f : Nd → Nd) : ∀ (l : List Nat) (T : List Nd) (y : Nat), l.Nodup → ndAt (onAll f l T) y = if y ∈ l ∧ y < T.length then f (ndAt T y) else ndAt T y := by
  intro l
  induction l with
  | nil => intro T y _; simp [onAll_nil]
  | cons x l ih =>
    intro T y hd
    have hd := List.nodup_cons.1 hd
    rw [onAll_cons, ih _ _ hd.2, ndAt_set, List.length_set]
    by_cases c : y = x
    · subst c
      have : y ∉ l := hd.1
      by_cases c2 : y < T.length <;> simp [this, c2]
    · have c' : ¬ x = y := fun h => c h.symm
      simp [c, c']
end Go.Proofs.YtpcpcgagiapinaaGreatDoor
