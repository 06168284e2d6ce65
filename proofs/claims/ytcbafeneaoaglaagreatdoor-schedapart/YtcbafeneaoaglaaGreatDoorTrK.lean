/- The contract of addUnmerged, on a node of a tree of one's own. -/
import Derived.Test.YtcbafeneaoaglaaGreatDoorTrK0
namespace Go.Proofs.YtcbafeneaoaglaaGreatDoor
open Go.Shelf Go.RowKit Go.Maps

theorem take_count {u : Int} : ∀ {l : List Int}, l.Pairwise (· ≤ ·) → l.take (l.countP (· < u)) = l.takeWhile (fun z => decide (z < u)) ∧ l.drop (l.countP (· < u)) = l.dropWhile (fun z => decide (z < u))
  | [], _ => by simp
  | z :: l, h => by
    have hp := List.pairwise_cons.1 h
    by_cases c : z < u
    · obtain ⟨i1, i2⟩ := take_count hp.2 (u := u)
      rw [List.countP_cons_of_pos (by simpa using c), List.take_succ_cons, List.drop_succ_cons, List.takeWhile_cons_of_pos (by simpa using c), List.dropWhile_cons_of_pos (by simpa using c), i1, i2]
      exact ⟨rfl, rfl⟩
    · have h0 : (z :: l).countP (fun y => decide (y < u)) = 0 := by
        rw [List.countP_eq_zero]
        intro y hy
        rcases List.mem_cons.1 hy with rfl | hy
        · simpa using c
        · have := hp.1 y hy; simp; omega
      rw [h0, List.takeWhile_cons_of_neg (by simpa using c), List.dropWhile_cons_of_neg (by simpa using c)]
      exact ⟨rfl, rfl⟩
theorem insU_eq {u : Int} {l : List Int} (h : l.Pairwise (· ≤ ·)) : l.take (l.countP (· < u)) ++ u :: l.drop (l.countP (· < u)) = insU u l := by
  obtain ⟨h1, h2⟩ := take_count h (u := u)
  unfold insU; rw [h1, h2]
/-- A node of a tree of one's own is written anew, with another row. -/
theorem OTr.node {B : Nat} {w w' : World} {g m : Nat} {T : List Nd} {us : List Value} {x : Nat} {n n' : Nd} {u u' : Value} {S : List Nat} (h : OTr B w (.slice (some ⟨g, 0, none⟩) m m) T us) (hn : T[x]? = some n) (hu : us[x]? = some u) (hf : Fr S w w') (hS : ∀ k ∈ S, u.ownBlock = some k) (hr : Ints B w' u' n'.un) (hp : u'.ownBlock = u.ownBlock ∨ u'.ownBlock = none ∨ ∃ q, u'.ownBlock = some q ∧ w.heap.size ≤ q)
    {W : World} (hW : W.ownsRow B 62 4 (.slice (some ⟨g, 0, none⟩) m m) T.length (treeC (T.set x n') (us.set x u'))) (hfW : Fr [g] w' W) : OTr B W (.slice (some ⟨g, 0, none⟩) m m) (T.set x n') (us.set x u') := by
  have hx : x < T.length := (List.getElem?_eq_some_iff.1 hn).1
  have hg : ∀ (v : Value) (l : List Int), Ints B w' v l → ∀ k, v.ownBlock = some k → k ≠ g → Ints B W v l := fun v l hv k hk hne => own_keep hv (fun j hj => hfW.block j (World.ownsRow.lt hv j hj).2 (by rw [hk] at hj; cases hj; simpa using hne))
  have hgk : ∀ (v : Value) (l : List Int), Ints B w' v l → Ints B W v l := fun v l hv => own_keep hv (fun j hj => hfW.block j (World.ownsRow.lt hv j hj).2 (by
    intro c
    have c : j = g := by simpa using c
    subst c
    have row' : w'.heap[j]? = w.heap[j]? := hf.block j (World.ownsRow.lt h.row j rfl).2 (fun c => by
      have := hS j c
      exact own_apart (h.un x n u hn hu) h.row (show (3 : Nat) ≠ 62 by decide) this rfl)
    obtain ⟨cur, h1⟩ := own_kind hv hj
    obtain ⟨cur2, h2⟩ := own_kind h.row (k := j) rfl
    rw [row', h2] at h1
    simp at h1))
  have kp : ∀ (j : Nat) (m' : Nd) (v : Value), j ≠ x → T[j]? = some m' → us[j]? = some v → Ints B w' v m'.un := fun j m' v hj hm hv => own_keep (h.un j m' v hm hv) (fun k hk => hf.block k (World.ownsRow.lt (h.un j m' v hm hv) k hk).2 (fun c => hj (h.apart j x v u k hv hu hk (hS k c))))
  refine ⟨by simpa using h.ul, by simpa using hW, ?_, ?_⟩
  · intro j m' v hm hv
    by_cases c : j = x
    · subst c
      rw [List.getElem?_set_self hx] at hm
      rw [List.getElem?_set_self (by rw [h.ul]; exact hx)] at hv
      cases hm; cases hv
      exact hgk _ _ hr
    · rw [List.getElem?_set_ne (Ne.symm c)] at hm hv
      exact hgk _ _ (kp j m' v c hm hv)
  · intro i j v1 v2 k h1 h2 k1 k2
    have lt1 : ∀ (i : Nat) (v : Value), us[i]? = some v → v.ownBlock = some k → k < w.heap.size := fun i v hi hk => by
      obtain ⟨m1, hm1⟩ : ∃ m1, T[i]? = some m1 := ⟨_, List.getElem?_eq_getElem (by rw [← h.ul]; exact (List.getElem?_eq_some_iff.1 hi).1)⟩
      exact (World.ownsRow.lt (h.un i m1 v hm1 hi) k hk).2
    by_cases c1 : i = x <;> by_cases c2 : j = x
    · omega
    · subst c1
      rw [List.getElem?_set_self (by rw [h.ul]; exact hx)] at h1
      cases h1
      rw [List.getElem?_set_ne (Ne.symm c2)] at h2
      rcases hp with q | q | ⟨q, q1, q2⟩
      · rw [q] at k1; exact h.apart i j u v2 k hu h2 k1 k2
      · rw [q] at k1; cases k1
      · rw [q1] at k1; cases k1; have := lt1 j v2 h2 k2; omega
    · subst c2
      rw [List.getElem?_set_self (by rw [h.ul]; exact hx)] at h2
      cases h2
      rw [List.getElem?_set_ne (Ne.symm c1)] at h1
      rcases hp with q | q | ⟨q, q1, q2⟩
      · rw [q] at k2; exact h.apart i j v1 u k h1 hu k1 k2
      · rw [q] at k2; cases k2
      · rw [q1] at k2; cases k2; have := lt1 i v1 h1 k1; omega
    · rw [List.getElem?_set_ne (Ne.symm c1)] at h1
      rw [List.getElem?_set_ne (Ne.symm c2)] at h2
      exact h.apart i j v1 v2 k h1 h2 k1 k2
end Go.Proofs.YtcbafeneaoaglaaGreatDoor
