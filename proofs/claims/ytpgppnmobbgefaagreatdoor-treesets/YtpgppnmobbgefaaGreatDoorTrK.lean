/- The contract of addUnmerged, on a node of a tree of one's own. -/
import Derived.Test.YtpgppnmobbgefaaGreatDoorTrK0
namespace Go.Proofs.YtpgppnmobbgefaaGreatDoor
open Go.Shelf Go.RowKit Go.Maps

theorem take_count {u : Int} : ∀ {l : List Int}, l.Pairwise (· ≤ ·) → l.take (l.countP (· < u)) = l.takeWhile (fun z => decide (z < u)) ∧ l.drop (l.countP (· < u)) = l.dropWhile (fun z => decide (z < u))
  | [], _ => by simp
  | z :: l, h => by
    have hp := List.pairwise_cons.1 h
    by_cases c : z < u
    · obtain ⟨i1, i2⟩ := take_count hp.2 (u := u)
      rw [List.countP_cons_of_pos (by simpa using c), List.take_succ_cons, List.drop_succ_cons, List.takeWhile_cons_of_pos (by simpa using c), List.dropWhile_cons_of_pos (by simpa using c), i1, i2]
      exact ⟨rfl, rfl⟩
    · have h0 : (z :: l).countP (fun y => decide (y < u)) = 0 := by
        rw [List.countP_eq_zero]
        intro y hy
        rcases List.mem_cons.1 hy with rfl | hy
        · simpa using c
        · have := hp.1 y hy; simp; omega
      rw [h0, List.takeWhile_cons_of_neg (by simpa using c), List.dropWhile_cons_of_neg (by simpa using c)]
      exact ⟨rfl, rfl⟩
theorem insU_eq {u : Int} {l : List Int} (h : l.Pairwise (· ≤ ·)) : l.take (l.countP (· < u)) ++ u :: l.drop (l.countP (· < u)) = insU u l := by
  obtain ⟨h1, h2⟩ := take_count h (u := u)
  unfold insU; rw [h1, h2]
/-- A node of a tree of one's own is written anew, with another row. -/
theorem OTr.node {B : Nat} {w w' : World} {g m : Nat} {T : List Nd} {us : List Value} {x : Nat} {n n' : Nd} {u u' : Value} {S : List Nat} (h : OTr B w (.slice (some ⟨g, 0, none⟩) m m) T us) (hn : T[x]? = some n) (hu : us[x]? = some u) (hf : Fr S w w') (hS : ∀ k ∈ S, u.ownBlock = some k) (hr : Ints B w' u' n'.un) (hp : u'.ownBlock = u.ownBlock ∨ u'.ownBlock = none ∨ ∃ q, u'.ownBlock = some q ∧ w.heap.size ≤ q)
    {W : World} (hW : W.ownsRow B 95 4 (.slice (some ⟨g, 0, none⟩) m m) T.length (treeC (T.set x n') (us.set x u'))) (hfW : Fr [g] w' W) : OTr B W (.slice (some ⟨g, 0, none⟩) m m) (T.set x n') (us.set x u') := by
  have hx : x < T.length := (List.getElem?_eq_some_iff.1 hn).1
  have hg : ∀ (v : Value) (l : List Int), Ints B w' v l → ∀ k, v.ownBlock = some k → k ≠ g → Ints B W v l := fun v l hv k hk hne => own_keep hv (fun j hj => hfW.block j (World.ownsRow.lt hv j hj).2 (by rw [hk] at hj; cases hj; simpa using hne))
  have hgk : ∀ (v : Value) (l : List Int), Ints B w' v l → Ints B W v l := fun v l hv => own_keep hv (fun j hj => hfW.block j (World.ownsRow.lt hv j hj).2 (by
    intro c
    have c : j = g := by simpa using c
    subst c
    have row' : w'.heap[j]? = w.heap[j]? := hf.block j (World.ownsRow.lt h.row j rfl).2 (fun c => by
      have := hS j c
      exact own_apart (h.un x n u hn hu) h.row (show (3 : Nat) ≠ 95 by decide) this rfl)
    obtain ⟨cur, h1⟩ := own_kind hv hj
    obtain ⟨cur2, h2⟩ := own_kind h.row (k := j) rfl
    rw [row', h2] at h1
    simp at h1))
  have kp : ∀ (j : Nat) (m' : Nd) (v : Value), j ≠ x → T[j]? = some m' → us[j]? = some v → Ints B w' v m'.un := fun j m' v hj hm hv => own_keep (h.un j m' v hm hv) (fun k hk => hf.block k (World.ownsRow.lt (h.un j m' v hm hv) k hk).2 (fun c => hj (h.apart j x v u k hv hu hk (hS k c))))
  refine ⟨by simpa using h.ul, by simpa using hW, ?_, ?_⟩
  · intro j m' v hm hv
    by_cases c : j = x
    · subst c
      rw [List.getElem?_set_self hx] at hm
      rw [List.getElem?_set_self (by rw [h.ul]; exact hx)] at hv
      cases hm; cases hv
      exact hgk _ _ hr
    · rw [List.getElem?_set_ne (Ne.symm c)] at hm hv
      exact hgk _ _ (kp j m' v c hm hv)
  · intro i j v1 v2 k h1 h2 k1 k2
    have lt1 : ∀ (i : Nat) (v : Value), us[i]? = some v → v.ownBlock = some k → k < w.heap.size := fun i v hi hk => by
      obtain ⟨m1, hm1⟩ : ∃ m1, T[i]? = some m1 := ⟨_, List.getElem?_eq_getElem (by rw [← h.ul]; exact (List.getElem?_eq_some_iff.1 hi).1)⟩
      exact (World.ownsRow.lt (h.un i m1 v hm1 hi) k hk).2
    by_cases c1 : i = x <;> by_cases c2 : j = x
    · omega
    · subst c1
      rw [List.getElem?_set_self (by rw [h.ul]; exact hx)] at h1
      cases h1
      rw [List.getElem?_set_ne (Ne.symm c2)] at h2
      rcases hp with q | q | ⟨q, q1, q2⟩
      · rw [q] at k1; exact h.apart i j u v2 k hu h2 k1 k2
      · rw [q] at k1; cases k1
      · rw [q1] at k1; cases k1; have := lt1 j v2 h2 k2; omega
    · subst c2
      rw [List.getElem?_set_self (by rw [h.ul]; exact hx)] at h2
      cases h2
      rw [List.getElem?_set_ne (Ne.symm c1)] at h1
      rcases hp with q | q | ⟨q, q1, q2⟩
      · rw [q] at k2; exact h.apart i j v1 u k h1 hu k1 k2
      · rw [q] at k2; cases k2
      · rw [q1] at k2; cases k2; have := lt1 i v1 h1 k1; omega
    · rw [List.getElem?_set_ne (Ne.symm c1)] at h1
      rw [List.getElem?_set_ne (Ne.symm c2)] at h2
      exact h.apart i j v1 v2 k h1 h2 k1 k2
set_option maxRecDepth 100000 in
set_option maxHeartbeats 4000000 in
theorem addUnmerged_any {B : Nat} {w : World} {g m : Nat} {T : List Nd} {us : List Value} (h : OTr B w (.slice (some ⟨g, 0, none⟩) m m) T us) {x : Nat} {n : Nd} (hn : T[x]? = some n) (hs : n.un.Pairwise (· ≤ ·)) (hl : n.un.length ≤ 8) {i : Nat} (hB : B ≤ w.heap.size) :
    Calls Tryz.prog 159 #[.pointer (some ⟨g, x * 4, none⟩), .int .i64 (i : Int)] w fun e w' => e = .returned (.tuple #[]) ∧ ∃ us', OTr B w' (.slice (some ⟨g, 0, none⟩) m m) (T.set x (addU (i : Nat) n)) us' ∧ Mv w w' (g :: rrB us) (g :: rrB us') := by
  obtain ⟨u, hu⟩ : ∃ u, us[x]? = some u := ⟨_, List.getElem?_eq_getElem (by rw [h.ul]; exact (List.getElem?_eq_some_iff.1 hn).1)⟩
  have c0 : w.cell? ⟨g, x * 4, none⟩ = some (.int .i64 n.pub) := by simpa using own_cell h.row rfl (treeC_get hn hu (j := 0) rfl)
  have c3 : w.cell? ⟨g, x * 4 + 3, none⟩ = some u := own_cell h.row rfl (treeC_get hn hu (j := 3) rfl)
  have hfz : w.frozen? ⟨g, x * 4 + 3, none⟩ = false := own_frozen h.row rfl _
  by_cases hp : n.pub = 0
  · have e : addU (i : Nat) n = n := by unfold addU pos; simp [hp]
    rw [e, set_same hn]
    rw [hp] at c0
    have HH := hide h
    clear h hn hs hl
    go_enter Tryz.func159, Tryz.ntmps159
    go_wp2
    exact bodyPost_ret (v := .tuple #[]) (by simp [results, Tryz.results159, go_sem]) rfl ⟨rfl, us, unhide HH, Mv.refl _ _⟩
  · have e : addU (i : Nat) n = ⟨n.pub, n.mem, n.ep, insU (i : Nat) n.un⟩ := by unfold addU pos; simp [hp]
    rw [e]
    have hr := h.un x n u hn hu
    obtain ⟨a, c, rfl⟩ := own_slice hr
    obtain ⟨k, hk⟩ : ∃ k, k = n.un.countP (· < (i : Int)) := ⟨_, rfl⟩
    have hkl : k ≤ n.un.length := by rw [hk]; exact List.countP_le_length
    have KS : Hid (Calls Tryz.prog 256 #[.slice a n.un.length c, .int .i64 (i : Int)] w fun e w' => ∃ b, e = .returned (.tuple #[.int .i64 (k : Nat), .bool b]) ∧ ∃ q, w' = w.drewN q) := by
      unfold Hid
      rcases Nat.eq_zero_or_pos n.un.length with h0 | h0
      · have e0 : n.un = [] := List.eq_nil_of_length_eq_zero h0
        have : k = 0 := by rw [hk, e0]; rfl
        rw [this, h0]
        refine (Any.slices_BinarySearch_int_empty laysSe a c (i : Int) w).mono ?_
        rintro e w' ⟨rfl, rfl⟩
        exact ⟨_, rfl, 0, rfl⟩
      · obtain ⟨b, cap, hv, _⟩ := own_open hr h0
        cases hv
        refine (Any.slices_BinarySearch_int laysSe b 0 n.un.length c n.un (i : Int) w (Nat.le_refl _) (by omega) (fun j hj => ?_) (by rw [List.take_length]; exact hs)).mono ?_
        · have := own_cell hr rfl (j := j) (u := .int .i64 n.un[j]) (by simp [I64, List.getElem?_eq_getElem hj])
          simpa [List.getD, List.getElem?_eq_getElem hj] using this
        · rintro e w' ⟨rfl, q, rfl⟩
          rw [List.take_length, ← hk]
          exact ⟨_, rfl, q, rfl⟩
    have KI : Hid (∀ q, Calls Tryz.prog 257 #[.slice a n.un.length c, .int .i64 (k : Int), .slice (some ⟨w.heap.size, 0, none⟩) 1 1] ((w.drewN q).alloc (.cells #[.int .i64 (i : Int)] 3)) fun e w' => ∃ u', e = .returned u' ∧ Ints B w' u' (insU (i : Nat) n.un) ∧ Fr (Value.slice a n.un.length c).ownBlock.toList w w' ∧ (u'.ownBlock = (Value.slice a n.un.length c).ownBlock ∨ ∃ q, u'.ownBlock = some q ∧ w.heap.size ≤ q)) := fun q => by
      have hq : Below w.heap.size w (w.drewN q) := below_drewN (Below.refl _ _) q
      have hsq : (w.drewN q).heap.size = w.heap.size := by rw [World.heap_drewN]
      have := insert_any (hr.bw hq) (i : Int) hkl hl (by rw [hsq]; exact hB)
      rw [hk, insU_eq hs, ← hk, hsq] at this
      refine this.mono ?_
      rintro e w' ⟨u', h1, h2, h3, h4⟩
      exact ⟨u', h1, h2, ((Fr.ofBelow hq).mono (by simp)).tr h3, h4⟩
    have hp1 : (n.pub == 0) = false := by simp [hp]
    have hp2 : decide (n.pub = 0) = false := by simp [hp]
    have hk8 : (k : Int) ≤ 8 := by omega
    have HN := hide hn
    have HU := hide hu
    have HH := hide h
    have HRW := hide hr
    clear hs hkl hk hr e hp hn hu h
    generalize insU (i : Nat) n.un = L at *
    generalize n.un.length = N at *
    go_enter Tryz.func159, Tryz.ntmps159
    go_wp2_with fail
    refine (unhide KS).mono ?_
    rintro e w1 ⟨b, rfl, q, rfl⟩
    have KI2 := unhide KI q
    have bq : Below w.heap.size w (w.drewN q) := below_drewN (Below.refl _ _) q
    have hsq : (w.drewN q).heap.size = w.heap.size := by rw [World.heap_drewN]
    have c3q : (w.drewN q).cell? ⟨g, x * 4 + 3, none⟩ = some (.slice a N c) := cell_keep c3 (by rw [World.heap_drewN])
    have HSQ := hide hsq
    clear hsq
    generalize w.drewN q = w1 at *
    clear KS KI c0
    have HKI := hide KI2
    have hb1 : w1.heap.size = w.heap.size := unhide HSQ
    clear KI2
    go_wp2_with fail
    refine (unhide HKI).mono ?_
    rintro e w2 ⟨u', rfl, hu', hf, hpl⟩
    obtain ⟨a', c', rfl⟩ := own_slice hu'
    have hgn : g ∉ (Value.slice a N c).ownBlock.toList := fun q => by
      have q : (Value.slice a N c).ownBlock = some g := by simpa using q
      exact own_apart (unhide HRW) (unhide HH).row (show (3 : Nat) ≠ 95 by decide) q rfl
    have hgl : g < w.heap.size := lt_of_cell (a := ⟨g, x * 4 + 3, none⟩) c3
    have c32 : w2.cell? ⟨g, x * 4 + 3, none⟩ = some (.slice a N c) := cell_keep c3 (hf.block g hgl hgn)
    have hfz2 : w2.frozen? ⟨g, x * 4 + 3, none⟩ = false := by have := hfz; unfold World.frozen? at *; rw [hf.block g hgl hgn]; exact this
    have HF : Hid (OTr B (w2.setCell ⟨g, x * 4 + 3, none⟩ (.slice a' L.length c')) (.slice (some ⟨g, 0, none⟩) m m) (T.set x ⟨n.pub, n.mem, n.ep, L⟩) (us.set x (.slice a' L.length c')) ∧ Mv w (w2.setCell ⟨g, x * 4 + 3, none⟩ (.slice a' L.length c')) (g :: rrB us) (g :: rrB (us.set x (.slice a' L.length c')))) := by
      have row2 : w2.ownsRow B 95 4 (.slice (some ⟨g, 0, none⟩) m m) T.length (treeC T us) := own_keep (unhide HH).row (fun j hj => by cases hj; exact hf.block g hgl hgn)
      have row3 := own_set row2 (g := g) rfl (j := x * 4 + 3) (.slice a' L.length c')
      rw [treeC_setk (n' := ⟨n.pub, n.mem, n.ep, L⟩) (u' := .slice a' L.length c') (by decide) (unhide HN) (unhide HU) rfl] at row3
      have f3 : Fr [g] w2 (w2.setCell ⟨g, x * 4 + 3, none⟩ (.slice a' L.length c')) := (Fr.refl [g] w2).setCell (a := ⟨g, x * 4 + 3, none⟩) (Or.inr (by simp)) _
      refine ⟨(unhide HH).node (unhide HN) (unhide HU) hf (fun k hk => by simpa using hk) hu' (hpl.imp id Or.inr) row3 f3, ?_⟩
      refine ⟨hf.trans f3 (fun k _ hk => List.mem_cons_of_mem _ (mem_rrB.2 ⟨x, _, unhide HU, by simpa using hk⟩)) (fun k _ hk => by simp at hk; simp [hk]), fun k hk => ?_⟩
      rcases List.mem_cons.1 hk with rfl | hk
      · exact Or.inl (by simp)
      · obtain ⟨y, v, hy, hv⟩ := mem_rrB.1 hk
        by_cases cy : x = y
        · subst cy
          rw [List.getElem?_set_self (List.getElem?_eq_some_iff.1 (unhide HU)).1] at hy
          cases hy
          rcases hpl with q | ⟨q, q1, q2⟩
          · rw [q] at hv; exact Or.inl (List.mem_cons_of_mem _ (mem_rrB.2 ⟨x, _, unhide HU, hv⟩))
          · rw [q1] at hv; cases hv; exact Or.inr q2
        · rw [List.getElem?_set_ne cy] at hy
          exact Or.inl (List.mem_cons_of_mem _ (mem_rrB.2 ⟨y, v, hy, hv⟩))
    clear hu' hf hpl HKI
    go_wp2_with fail
    exact bodyPost_end (v := .tuple #[]) (by simp [results, Tryz.results159, go_sem]) rfl ⟨rfl, _, (unhide HF).1, (unhide HF).2⟩
end Go.Proofs.YtpgppnmobbgefaaGreatDoor
