/- A tree that is put together node by node. No walk is in this text. -/
import Derived.Test.YtpcpcgagiapinaaGreatDoorZ13
import Derived.Test.YtpcpcgagiapinaaGreatDoorZ08
import Derived.Test.YtpcpcgagiapinaaGreatDoorTtA
namespace Go.Proofs.YtpcpcgagiapinaaGreatDoor
open Go.RowKit Go.Maps
theorem OTr.nodeC {B : Nat} {w w' : World} {g m mc : Nat} {T : List Nd} {us : List Value} {x : Nat} {n n' : Nd} {u u' : Value} {S : List Nat} (h : OTr B w (.slice (some ⟨g, 0, none⟩) m mc) T us) (hn : T[x]? = some n) (hu : us[x]? = some u) (hf : Fr S w w') (hS : ∀ k ∈ S, u.ownBlock = some k) (hr : Ints B w' u' n'.un) (hp : u'.ownBlock = u.ownBlock ∨ u'.ownBlock = none ∨ ∃ q, u'.ownBlock = some q ∧ w.heap.size ≤ q)
    {W : World} (hW : W.ownsRow B 59 4 (.slice (some ⟨g, 0, none⟩) m mc) T.length (treeC (T.set x n') (us.set x u'))) (hfW : Fr [g] w' W) : OTr B W (.slice (some ⟨g, 0, none⟩) m mc) (T.set x n') (us.set x u') := by
  have hx : x < T.length := (List.getElem?_eq_some_iff.1 hn).1
  have hg : ∀ (v : Value) (l : List Int), Ints B w' v l → ∀ k, v.ownBlock = some k → k ≠ g → Ints B W v l := fun v l hv k hk hne => own_keep hv (fun j hj => hfW.block j (World.ownsRow.lt hv j hj).2 (by rw [hk] at hj; cases hj; simpa using hne))
  have hgk : ∀ (v : Value) (l : List Int), Ints B w' v l → Ints B W v l := fun v l hv => own_keep hv (fun j hj => hfW.block j (World.ownsRow.lt hv j hj).2 (by
    intro c
    have c : j = g := by simpa using c
    subst c
    have row' : w'.heap[j]? = w.heap[j]? := hf.block j (World.ownsRow.lt h.row j rfl).2 (fun c => by
      have := hS j c
      exact own_apart (h.un x n u hn hu) h.row (show (3 : Nat) ≠ 59 by decide) this rfl)
    obtain ⟨cur, h1⟩ := own_kind hv hj
    obtain ⟨cur2, h2⟩ := own_kind h.row (k := j) rfl
    rw [row', h2] at h1
    simp at h1))
  have kp : ∀ (j : Nat) (m' : Nd) (v : Value), j ≠ x → T[j]? = some m' → us[j]? = some v → Ints B w' v m'.un := fun j m' v hj hm hv => own_keep (h.un j m' v hm hv) (fun k hk => hf.block k (World.ownsRow.lt (h.un j m' v hm hv) k hk).2 (fun c => hj (h.apart j x v u k hv hu hk (hS k c))))
  refine ⟨by simpa using h.ul, by simpa using hW, ?_, ?_⟩
  · intro j m' v hm hv
    by_cases c : j = x
    · subst c
      rw [List.getElem?_set_self hx] at hm
      rw [List.getElem?_set_self (by rw [h.ul]; exact hx)] at hv
      cases hm; cases hv
      exact hgk _ _ hr
    · rw [List.getElem?_set_ne (Ne.symm c)] at hm hv
      exact hgk _ _ (kp j m' v c hm hv)
  · intro i j v1 v2 k h1 h2 k1 k2
    have lt1 : ∀ (i : Nat) (v : Value), us[i]? = some v → v.ownBlock = some k → k < w.heap.size := fun i v hi hk => by
      obtain ⟨m1, hm1⟩ : ∃ m1, T[i]? = some m1 := ⟨_, List.getElem?_eq_getElem (by rw [← h.ul]; exact (List.getElem?_eq_some_iff.1 hi).1)⟩
      exact (World.ownsRow.lt (h.un i m1 v hm1 hi) k hk).2
    by_cases c1 : i = x <;> by_cases c2 : j = x
    · omega
    · subst c1
      rw [List.getElem?_set_self (by rw [h.ul]; exact hx)] at h1
      cases h1
      rw [List.getElem?_set_ne (Ne.symm c2)] at h2
      rcases hp with q | q | ⟨q, q1, q2⟩
      · rw [q] at k1; exact h.apart i j u v2 k hu h2 k1 k2
      · rw [q] at k1; cases k1
      · rw [q1] at k1; cases k1; have := lt1 j v2 h2 k2; omega
    · subst c2
      rw [List.getElem?_set_self (by rw [h.ul]; exact hx)] at h2
      cases h2
      rw [List.getElem?_set_ne (Ne.symm c1)] at h1
      rcases hp with q | q | ⟨q, q1, q2⟩
      · rw [q] at k2; exact h.apart i j v1 u k h1 hu k1 k2
      · rw [q] at k2; cases k2
      · rw [q1] at k2; cases k2; have := lt1 i v1 h1 k1; omega
    · rw [List.getElem?_set_ne (Ne.symm c1)] at h1
      rw [List.getElem?_set_ne (Ne.symm c2)] at h2
      exact h.apart i j v1 v2 k h1 h2 k1 k2
theorem treeC_snoc {T : List Nd} {us : List Value} (h : us.length = T.length) (n : Nd) (u : Value) : treeC (T ++ [n]) (us ++ [u]) = treeC T us ++ ndC n u := by
  rw [treeC_app h]; simp [treeC]
theorem OTr.push {B : Nat} {w w1 : World} {v v' : Value} {T : List Nd} {us : List Value} {n : Nd} {u : Value} (h : OTr B w v T us) (hu : Ints B w u n.un) (hnew : ∀ (k : Nat), u.ownBlock = some k → ∀ (j : Nat) (u' : Value), us[j]? = some u' → u'.ownBlock ≠ some k) (hf : Fr v.ownBlock.toList w w1)
    (hown : w1.ownsRow B 59 4 v' (T.length + 1) (treeC T us ++ ndC n u)) : OTr B w1 v' (T ++ [n]) (us ++ [u]) := by
  have keep : ∀ (v2 : Value) (l : List Int), Ints B w v2 l → Ints B w1 v2 l := fun v2 l hv => own_keep hv (fun k hk => hf.block k (World.ownsRow.lt hv k hk).2 (fun c => by
    have c' : v.ownBlock = some k := by simpa using c
    exact own_apart hv h.row (show (3 : Nat) ≠ 59 by decide) hk c'))
  have cs : ∀ {α : Type} (l : List α) (x y : α) (j : Nat), (l ++ [x])[j]? = some y → (j < l.length ∧ l[j]? = some y) ∨ (j = l.length ∧ y = x) := fun l x y j hy => by
    rcases Nat.lt_or_ge j l.length with c | c
    · rw [List.getElem?_append_left c] at hy; exact Or.inl ⟨c, hy⟩
    · rw [List.getElem?_append_right c] at hy
      rcases Nat.eq_or_lt_of_le c with e | e
      · rw [← e] at hy; simp at hy; exact Or.inr ⟨e.symm, hy.symm⟩
      · rw [List.getElem?_eq_none (by simp; omega)] at hy; cases hy
  refine ⟨by simp [h.ul], by rw [treeC_snoc h.ul, List.length_append]; exact hown, fun i m x hm hx => ?_, fun i j x y k hx hy hk hk2 => ?_⟩
  · rcases cs T n m i hm with ⟨c, hm'⟩ | ⟨rfl, rfl⟩
    · rcases cs us u x i hx with ⟨c2, hx'⟩ | ⟨c2, _⟩
      · exact keep _ _ (h.un i m x hm' hx')
      · have := h.ul; omega
    · rcases cs us u x _ hx with ⟨c2, _⟩ | ⟨_, rfl⟩
      · have := h.ul; omega
      · exact keep _ _ hu
  · rcases cs us u x i hx with ⟨c, hx'⟩ | ⟨rfl, rfl⟩
    · rcases cs us u y j hy with ⟨c2, hy'⟩ | ⟨rfl, rfl⟩
      · exact h.apart i j x y k hx' hy' hk hk2
      · exact absurd hk (hnew k hk2 i x hx')
    · rcases cs us x y j hy with ⟨c2, hy'⟩ | ⟨rfl, rfl⟩
      · exact absurd hk2 (hnew k hk j y hy')
      · rfl
theorem wpList_joinN {w : World} {ops : Array Oper} {rest : List Oper} {o : Oper} {a : Act} {Q : Exit → Act → World → Prop} (hgd : o.guard = none) (s x : Operand)
    (ho : o.op = .call { callee := .builtin .append, args := #[s, x], argTypes := #[27, 27] })
    (base : Nat) (v u : Value) (l l' : List Int) (hs : a.eval s = v) (hown : Ints base w v l) (hx : a.eval x = u) (hu : Nums w u l') (hlen : l.length + l'.length ≤ 100000) (hbase : base ≤ w.heap.size)
    (h : ∀ v' w', Ints base w' v' (l ++ l') → Below base w w' → wpList Tryz.prog ops Q rest (a.put o.dst v') w') : wpList Tryz.prog ops Q (o :: rest) a w := by
  obtain ⟨i0, hi, hz0, hz1, hz2⟩ := info_parts Tryz.infoInt
  have gen : ∀ (ad : Addr) (cap : Nat), u = .slice (some ad) l'.length cap → (∀ j y, (l'.map I64)[j]? = some y → w.cell? (ad.add j) = some y) → wpList Tryz.prog ops Q (o :: rest) a w := fun ad cap hue hc => by
    refine wpList_append_own _ hgd s x 27 ho base 3 i0 (.int .i64 0) 1 8 Tryz.underlying27 hi hz0 hz1 hz2 rfl (by decide) v l.length _ hs hown ad l'.length cap (l'.map I64) (hx.trans hue) (by simp) hc ?_ ?_ ?_ hbase ?_
    · intro y hy
      obtain ⟨z, _, rfl⟩ := List.mem_map.1 hy
      rfl
    · unfold maxLen; omega
    · omega
    · intro v' w' h1 h2 _
      refine h v' w' ?_ ((Below.refl base w).grown h2 hbase (fun k hk => (World.ownsRow.lt hown k hk).1))
      simpa [Ints] using h1
  rcases hu with ⟨rfl, ad, c, hue, hn⟩ | ⟨g, o', cap, hue, _, _, hc⟩
  · cases ad with
    | none =>
      have hc0 := hn rfl
      subst hc0
      refine wpList_append_own_none hgd s x 27 ho base 3 i0 1 Tryz.underlying27 hi v l.length _ hs hown (hx.trans hue) ?_
      exact h v w (by simpa using hown) (Below.refl _ _)
    | some ad => exact gen ad c (by simpa using hue) (fun j y hy => by simp at hy)
  · refine gen ⟨g, o', none⟩ cap hue (fun j y hy => ?_)
    rw [List.getElem?_map] at hy
    cases hz : l'[j]? with
    | none => rw [hz] at hy; cases hy
    | some z =>
      rw [hz] at hy
      simp only [Option.map_some, Option.some.injEq] at hy
      subst hy
      have e : (⟨g, o', none⟩ : Addr).add j = ⟨g, o' + j, none⟩ := by cases j <;> simp [Addr.add]
      rw [e]; exact hc j z hz
theorem empty_own (w : World) : Ints w.heap.size (w.alloc (.cells #[] 3)) (.slice (some ⟨w.heap.size, 0, none⟩) 0 0) [] :=
  ⟨rfl, Or.inr ⟨w.heap.size, 0, #[], rfl, Nat.le_refl _, heap_alloc_new w _, Nat.le_refl _, by unfold maxLen; omega, rfl, rfl⟩⟩
end Go.Proofs.YtpcpcgagiapinaaGreatDoor
