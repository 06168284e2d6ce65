/- Texts joined: TrH0 TrH TrI. -/
import Derived.Test.YtcbafeneaoaglaaGreatDoorBaV
/- Rows of rows of numbers, of one's own; plain facts of ways up. No walk is in this text. -/
namespace Go.Proofs.YtcbafeneaoaglaaGreatDoor
open Go.RowKit Go.Maps

structure RR (B : Nat) (w : World) (v : Value) (ls : List (List Int)) (us : List Value) : Prop where
  ul : us.length = ls.length
  row : w.ownsRow B 55 1 v ls.length us
  un : ∀ (i : Nat) (l : List Int) (u : Value), ls[i]? = some l → us[i]? = some u → Ints B w u l
  apart : ∀ (i j : Nat) (u u' : Value) (k : Nat), us[i]? = some u → us[j]? = some u' → u.ownBlock = some k → u'.ownBlock = some k → i = j
/-- The blocks of its rows. -/
def rrB (us : List Value) : List Nat := us.filterMap Value.ownBlock
theorem mem_rrB {us : List Value} {k : Nat} : k ∈ rrB us ↔ ∃ (i : Nat) (u : Value), us[i]? = some u ∧ u.ownBlock = some k := by
  unfold rrB
  rw [List.mem_filterMap]
  constructor
  · rintro ⟨u, hu, hk⟩
    obtain ⟨i, hi⟩ := List.mem_iff_getElem?.1 hu
    exact ⟨i, u, hi, hk⟩
  · rintro ⟨i, u, hu, hk⟩
    exact ⟨u, List.mem_of_getElem? hu, hk⟩
theorem RR.pick {B : Nat} {w : World} {v : Value} {ls : List (List Int)} {us : List Value} (h : RR B w v ls us) {i : Nat} {u : Value} (hu : us[i]? = some u) : ∃ l, ls[i]? = some l ∧ Ints B w u l := by
  have hlt : i < ls.length := by rw [← h.ul]; exact (List.getElem?_eq_some_iff.1 hu).1
  exact ⟨ls[i], List.getElem?_eq_getElem hlt, h.un i _ u (List.getElem?_eq_getElem hlt) hu⟩
theorem RR.lt {B : Nat} {w : World} {v : Value} {ls : List (List Int)} {us : List Value} (h : RR B w v ls us) {k : Nat} (hk : k ∈ rrB us) : B ≤ k ∧ k < w.heap.size := by
  obtain ⟨i, u, hu, hk⟩ := mem_rrB.1 hk
  obtain ⟨l, _, hl⟩ := h.pick hu
  exact World.ownsRow.lt hl k hk
theorem RR.keep {B : Nat} {w w' : World} {v : Value} {ls : List (List Int)} {us : List Value} (h : RR B w v ls us) {S : List Nat} (hf : Fr S w w') (h1 : ∀ k, v.ownBlock = some k → k ∉ S) (h2 : ∀ k ∈ rrB us, k ∉ S) : RR B w' v ls us :=
  ⟨h.ul, own_keep h.row (fun k hk => hf.block k (World.ownsRow.lt h.row k hk).2 (h1 k hk)), fun i l u hl hu => own_keep (h.un i l u hl hu) (fun k hk => hf.block k (World.ownsRow.lt (h.un i l u hl hu) k hk).2 (h2 k (mem_rrB.2 ⟨i, u, hu, hk⟩))), h.apart⟩
theorem RR.bw {B : Nat} {w w' : World} {v : Value} {ls : List (List Int)} {us : List Value} (h : RR B w v ls us) (hb : Below w.heap.size w w') : RR B w' v ls us := h.keep (Fr.ofBelow hb) (by simp) (by simp)
theorem rr_nil (B : Nat) (w : World) : RR B w (.slice none 0 0) [] [] := ⟨rfl, World.ownsRow_nil _ _ _ _, fun i n u h => by simp at h, fun i j u u' k h => by simp at h⟩
theorem infoInts : (Tryz.prog.info? 55).map (fun i => (i.zero, i.size, i.bytes)) = some (some (.slice none 0 0), 1, 24) := by kernel_rfl
theorem ints_one {B : Nat} {w : World} {u : Value} {l : List Int} (h : Ints B w u l) : u.oneCell' = true := by
  obtain ⟨a, c, rfl⟩ := own_slice h; rfl
/-- A row is laid behind the others. -/
theorem RR.push {B : Nat} {w w' : World} {v v' : Value} {ls : List (List Int)} {us : List Value} {u : Value} {l : List Int} (h : RR B w v ls us) (hu : Ints B w u l) (hn : ∀ k, u.ownBlock = some k → k ∉ rrB us)
    (hr : w'.ownsRow B 55 1 v' (ls.length + 1) (us ++ [u])) (hg : w.grownBy w' v.ownBlock) : RR B w' v' (ls ++ [l]) (us ++ [u]) := by
  have hf : Fr v.ownBlock.toList w w' := Fr.ofGrown hg
  have hne : ∀ (x : Value) (m : List Int), Ints B w x m → ∀ k, x.ownBlock = some k → k ∉ v.ownBlock.toList := fun x m hx k hk c => by
    have c : v.ownBlock = some k := by simpa using c
    exact own_apart hx h.row (show (3 : Nat) ≠ 55 by decide) hk c
  have kp : ∀ (x : Value) (m : List Int), Ints B w x m → Ints B w' x m := fun x m hx => own_keep hx (fun k hk => hf.block k (World.ownsRow.lt hx k hk).2 (hne x m hx k hk))
  refine ⟨by simp [h.ul], by simpa using hr, ?_, ?_⟩
  · intro i l' u' hl hu'
    rcases Nat.lt_or_ge i ls.length with c | c
    · rw [List.getElem?_append_left c] at hl
      rw [List.getElem?_append_left (by rw [h.ul]; exact c)] at hu'
      exact kp _ _ (h.un i l' u' hl hu')
    · rw [List.getElem?_append_right c] at hl
      rw [List.getElem?_append_right (by rw [h.ul]; exact c)] at hu'
      have e : i - ls.length = 0 := by
        have := (List.getElem?_eq_some_iff.1 hl).1; simpa using this
      rw [e] at hl
      rw [h.ul, e] at hu'
      simp at hl hu'
      subst hl hu'
      exact kp _ _ hu
  · intro i j u1 u2 k h1 h2 hk1 hk2
    have cs : ∀ i (x : Value), (us ++ [u])[i]? = some x → (us[i]? = some x) ∨ (i = us.length ∧ x = u) := fun i x hx => by
      rcases Nat.lt_or_ge i us.length with c | c
      · rw [List.getElem?_append_left c] at hx; exact Or.inl hx
      · rw [List.getElem?_append_right c] at hx
        have e : i - us.length = 0 := by have := (List.getElem?_eq_some_iff.1 hx).1; simpa using this
        rw [e] at hx; simp at hx; exact Or.inr ⟨by omega, hx.symm⟩
    rcases cs i u1 h1 with c1 | ⟨c1, rfl⟩ <;> rcases cs j u2 h2 with c2 | ⟨c2, rfl⟩
    · exact h.apart i j u1 u2 k c1 c2 hk1 hk2
    · exact absurd (mem_rrB.2 ⟨i, u1, c1, hk1⟩) (hn k hk2)
    · exact absurd (mem_rrB.2 ⟨j, u2, c2, hk2⟩) (hn k hk1)
    · omega

theorem up_of {n i : Nat} (hn : n ∈ sizes) (hi : i < n) : dir ((2 * i : Nat) : Int) (n : Nat) = (upN n i).map (fun (x : Nat) => (x : Int)) ∧ cop ((2 * i : Nat) : Int) (n : Nat) = (sdN n i).map (fun (x : Nat) => (x : Int)) ∧ (upN n i).length = (sdN n i).length ∧ (upN n i).Nodup ∧ (∀ x ∈ upN n i, x < 2 * n - 1 ∧ x % 2 = 1) ∧ (∀ x ∈ sdN n i, x < 2 * n - 1) := by
  have h := List.all_eq_true.1 fin_up n hn
  have h := List.all_eq_true.1 h i (List.mem_range.2 hi)
  simp only [Bool.and_eq_true, decide_eq_true_eq, List.all_eq_true] at h
  obtain ⟨⟨⟨⟨⟨h1, h2⟩, h3⟩, h4⟩, h5⟩, h6⟩ := h
  exact ⟨h1, h2, h3, h4, h5, h6⟩
theorem up_in {n i x : Nat} (hn : n ∈ sizes) (hi : i < n) (hx : x < 2 * n - 1) : x ∈ upN n i ↔ x % 2 = 1 ∧ spF (x : Nat) ≤ (i : Nat) ∧ (i : Nat) ≤ spT (x : Nat) := by
  have h := List.all_eq_true.1 fin_in n hn
  have h := List.all_eq_true.1 h i (List.mem_range.2 hi)
  have h := List.all_eq_true.1 h x (List.mem_range.2 hx)
  simp only [decide_eq_true_eq] at h
  rw [← List.contains_iff_mem, h]
  simp [and_assoc]
theorem fin_len : (sizes.all fun n => (List.range n).all fun i => decide ((upN n i).length ≤ 3)) = true := by decide +kernel
theorem up_len {n i : Nat} (hn : n ∈ sizes) (hi : i < n) : (upN n i).length ≤ 3 := by
  have h := List.all_eq_true.1 fin_len n hn
  have h := List.all_eq_true.1 h i (List.mem_range.2 hi)
  simpa using h
/-- The pairs of a way, looked at one by one. -/
def prsL (T : List Nd) (l : List (Nat × Nat)) : List (Nat × List Int) := (l.map fun p => (p.1, rsl T p.2)).filter fun p => !p.2.isEmpty
theorem prs_eq (T : List Nd) (i : Nat) : prs T i = prsL T ((upN (nlv T) i).zip (sdN (nlv T) i)) := rfl
theorem prsL_snoc (T : List Nd) (l : List (Nat × Nat)) (p : Nat × Nat) : prsL T (l ++ [p]) = prsL T l ++ if rsl T p.2 = [] then [] else [(p.1, rsl T p.2)] := by
  unfold prsL
  rw [List.map_append, List.filter_append]
  cases h : rsl T p.2 <;> simp [h]
theorem prsL_len (T : List Nd) (l : List (Nat × Nat)) : (prsL T l).length ≤ l.length := by
  unfold prsL; exact Nat.le_trans (List.length_filter_le _ _) (by simp)
end Go.Proofs.YtcbafeneaoaglaaGreatDoor

/- The contracts of above and path. -/
namespace Go.Proofs.YtcbafeneaoaglaaGreatDoor
open Go.RowKit Go.Maps

theorem own_mono {B B' : Nat} {w : World} {e : TypeId} {c : Nat} {v : Value} {n : Nat} {xs : List Value} (h : w.ownsRow B e c v n xs) (hb : B' ≤ B) : w.ownsRow B' e c v n xs := by
  refine ⟨h.1, ?_⟩
  rcases h.2 with h | ⟨g, cap, cur, hv, h0, r⟩
  · exact Or.inl h
  · exact Or.inr ⟨g, cap, cur, hv, Nat.le_trans hb h0, r⟩
theorem own_alloc' {B : Nat} {w : World} {e : TypeId} {c : Nat} {v : Value} {n : Nat} {xs : List Value} (h : w.ownsRow B e c v n xs) (o : Obj) : (w.alloc o).ownsRow B e c v n xs :=
  own_keep h (fun k hk => Below.heap_alloc _ _ _ (World.ownsRow.lt h k hk).2)
/-- Where path's loop stands. -/
structure PI (B : Nat) (w : World) (nv ov : Value) (P : List (Nat × List Int)) (us : List Value) : Prop where
  ns : Ints B w nv (P.map fun p => (p.1 : Int))
  rr : RR B w ov (P.map (·.2)) us
  ap : ∀ k, nv.ownBlock = some k → k ∉ rrB us
theorem RR.mono {B B' : Nat} {w : World} {v : Value} {ls : List (List Int)} {us : List Value} (h : RR B w v ls us) (hb : B' ≤ B) : RR B' w v ls us :=
  ⟨h.ul, own_mono h.row hb, fun i l u hl hu => (h.un i l u hl hu).mono hb, h.apart⟩
theorem PI.mono {B B' : Nat} {w : World} {nv ov : Value} {P : List (Nat × List Int)} {us : List Value} (h : PI B w nv ov P us) (hb : B' ≤ B) : PI B' w nv ov P us := ⟨h.ns.mono hb, h.rr.mono hb, h.ap⟩
/-- A node and its row come behind the others. -/
theorem PI.push {B : Nat} {w w1 w2 : World} {nv ov nv' ov' : Value} {P : List (Nat × List Int)} {us : List Value} {r : Value} {L : List Int} {y : Nat} (h : PI B w nv ov P us) (hr : Ints B w r L) (hrn : ∀ k, r.ownBlock = some k → k ∉ rrB us) (hrv : ∀ k, r.ownBlock = some k → nv.ownBlock ≠ some k) {o1 o2 : Obj}
    (hn : w1.ownsRow B 3 1 nv' (P.length + 1) (P.map (fun p => I64 (p.1 : Int)) ++ [.int .i64 (y : Int)])) (hg1 : (w.alloc o1).grownBy w1 nv.ownBlock) (hp1 : nv'.ownBlock = nv.ownBlock ∨ nv'.ownBlock = some (w.alloc o1).heap.size)
    (ho : w2.ownsRow B 55 1 ov' (P.length + 1) (us ++ [r])) (hg2 : (w1.alloc o2).grownBy w2 ov.ownBlock) : PI B w2 nv' ov' (P ++ [(y, L)]) (us ++ [r]) := by
  have f1 : Fr nv.ownBlock.toList w w1 := ((Fr.refl _ w).alloc _).tr (Fr.ofGrown hg1)
  have hne : ∀ k, nv.ownBlock = some k → ov.ownBlock ≠ some k := fun k hk => own_apart h.ns h.rr.row (show (3 : Nat) ≠ 55 by decide) hk
  have rr1 : RR B w1 ov (P.map (·.2)) us := h.rr.keep f1 (fun k hk c => hne k (by simpa using c) hk) (fun k hk c => h.ap k (by simpa using c) hk)
  have r1 : Ints B w1 r L := own_keep hr (fun k hk => f1.block k (World.ownsRow.lt hr k hk).2 (fun c => hrv k hk (by simpa using c)))
  have ho' : w2.ownsRow B 55 1 ov' ((P.map (·.2)).length + 1) (us ++ [r]) := by simpa using ho
  have rr2 : RR B w2 ov' (P.map (·.2) ++ [L]) (us ++ [r]) := (rr1.bw (bwA _ o2)).push (own_alloc' r1 o2) hrn ho' hg2
  have f2 : Fr ov.ownBlock.toList w1 w2 := ((Fr.refl _ w1).alloc _).tr (Fr.ofGrown hg2)
  have hnI : Ints B w1 nv' ((P ++ [(y, L)]).map fun p => (p.1 : Int)) := by
    unfold Ints; simpa [I64, Function.comp_def] using hn
  refine ⟨own_keep hnI (fun k hk => f2.block k (World.ownsRow.lt hnI k hk).2 (fun c => own_apart hnI rr1.row (show (3 : Nat) ≠ 55 by decide) hk (by simpa using c))), by simpa using rr2, ?_⟩
  intro k hk c
  have hlt : ∀ m, m ∈ rrB (us ++ [r]) → m < w.heap.size := fun m hm => by
    unfold rrB at hm; rw [List.filterMap_append, List.mem_append] at hm
    rcases hm with hm | hm
    · exact (h.rr.lt hm).2
    · simp at hm; exact (World.ownsRow.lt hr m hm).2
  rcases hp1 with e | e
  · rw [e] at hk
    unfold rrB at c; rw [List.filterMap_append, List.mem_append] at c
    rcases c with c | c
    · exact h.ap k hk c
    · simp at c; exact hrv k c hk
  · rw [e] at hk
    have hk : (w.alloc o1).heap.size = k := by simpa using hk
    have := hlt k c
    simp at hk; omega
theorem PI.bw {B : Nat} {w w' : World} {nv ov : Value} {P : List (Nat × List Int)} {us : List Value} (h : PI B w nv ov P us) (hb : Below w.heap.size w w') : PI B w' nv ov P us := ⟨h.ns.bw hb, h.rr.bw hb, h.ap⟩
end Go.Proofs.YtcbafeneaoaglaaGreatDoor

/- The contracts of Resolution and Path. -/
namespace Go.Proofs.YtcbafeneaoaglaaGreatDoor
open Go.RowKit Go.Maps

def resE (T : List Nd) (x : Int) : Int := if mayB T = false then 1 else if x < 0 ∨ (T.length : Int) ≤ x then 7 else 0
theorem mayB_okn {T : List Nd} (h : mayB T = true) (h0 : 0 < T.length) : Ok T := by
  rcases mayB_ok h with rfl | h
  · simp at h0
  · exact h
theorem nlv_pos {T : List Nd} (h : 0 < nlv T) : 0 < T.length := by unfold nlv at h; omega
end Go.Proofs.YtcbafeneaoaglaaGreatDoor
