/- Texts joined: TrH0 TrH TrI. -/
import Derived.Test.YtpgppnmobbgefaaGreatDoorBaV
/- Rows of rows of numbers, of one's own; plain facts of ways up. No walk is in this text. -/
namespace Go.Proofs.YtpgppnmobbgefaaGreatDoor
open Go.RowKit Go.Maps

structure RR (B : Nat) (w : World) (v : Value) (ls : List (List Int)) (us : List Value) : Prop where
  ul : us.length = ls.length
  row : w.ownsRow B 31 1 v ls.length us
  un : ∀ (i : Nat) (l : List Int) (u : Value), ls[i]? = some l → us[i]? = some u → Ints B w u l
  apart : ∀ (i j : Nat) (u u' : Value) (k : Nat), us[i]? = some u → us[j]? = some u' → u.ownBlock = some k → u'.ownBlock = some k → i = j
/-- The blocks of its rows. -/
def rrB (us : List Value) : List Nat := us.filterMap Value.ownBlock
theorem mem_rrB {us : List Value} {k : Nat} : k ∈ rrB us ↔ ∃ (i : Nat) (u : Value), us[i]? = some u ∧ u.ownBlock = some k := by
  unfold rrB
  rw [List.mem_filterMap]
  constructor
  · rintro ⟨u, hu, hk⟩
    obtain ⟨i, hi⟩ := List.mem_iff_getElem?.1 hu
    exact ⟨i, u, hi, hk⟩
  · rintro ⟨i, u, hu, hk⟩
    exact ⟨u, List.mem_of_getElem? hu, hk⟩
theorem RR.pick {B : Nat} {w : World} {v : Value} {ls : List (List Int)} {us : List Value} (h : RR B w v ls us) {i : Nat} {u : Value} (hu : us[i]? = some u) : ∃ l, ls[i]? = some l ∧ Ints B w u l := by
  have hlt : i < ls.length := by rw [← h.ul]; exact (List.getElem?_eq_some_iff.1 hu).1
  exact ⟨ls[i], List.getElem?_eq_getElem hlt, h.un i _ u (List.getElem?_eq_getElem hlt) hu⟩
theorem RR.lt {B : Nat} {w : World} {v : Value} {ls : List (List Int)} {us : List Value} (h : RR B w v ls us) {k : Nat} (hk : k ∈ rrB us) : B ≤ k ∧ k < w.heap.size := by
  obtain ⟨i, u, hu, hk⟩ := mem_rrB.1 hk
  obtain ⟨l, _, hl⟩ := h.pick hu
  exact World.ownsRow.lt hl k hk
theorem RR.keep {B : Nat} {w w' : World} {v : Value} {ls : List (List Int)} {us : List Value} (h : RR B w v ls us) {S : List Nat} (hf : Fr S w w') (h1 : ∀ k, v.ownBlock = some k → k ∉ S) (h2 : ∀ k ∈ rrB us, k ∉ S) : RR B w' v ls us :=
  ⟨h.ul, own_keep h.row (fun k hk => hf.block k (World.ownsRow.lt h.row k hk).2 (h1 k hk)), fun i l u hl hu => own_keep (h.un i l u hl hu) (fun k hk => hf.block k (World.ownsRow.lt (h.un i l u hl hu) k hk).2 (h2 k (mem_rrB.2 ⟨i, u, hu, hk⟩))), h.apart⟩
theorem RR.bw {B : Nat} {w w' : World} {v : Value} {ls : List (List Int)} {us : List Value} (h : RR B w v ls us) (hb : Below w.heap.size w w') : RR B w' v ls us := h.keep (Fr.ofBelow hb) (by simp) (by simp)
theorem rr_nil (B : Nat) (w : World) : RR B w (.slice none 0 0) [] [] := ⟨rfl, World.ownsRow_nil _ _ _ _, fun i n u h => by simp at h, fun i j u u' k h => by simp at h⟩
theorem infoInts : (Tryz.prog.info? 31).map (fun i => (i.zero, i.size, i.bytes)) = some (some (.slice none 0 0), 1, 24) := by kernel_rfl
theorem ints_one {B : Nat} {w : World} {u : Value} {l : List Int} (h : Ints B w u l) : u.oneCell' = true := by
  obtain ⟨a, c, rfl⟩ := own_slice h; rfl
/-- A row is laid behind the others. -/
theorem RR.push {B : Nat} {w w' : World} {v v' : Value} {ls : List (List Int)} {us : List Value} {u : Value} {l : List Int} (h : RR B w v ls us) (hu : Ints B w u l) (hn : ∀ k, u.ownBlock = some k → k ∉ rrB us)
    (hr : w'.ownsRow B 31 1 v' (ls.length + 1) (us ++ [u])) (hg : w.grownBy w' v.ownBlock) : RR B w' v' (ls ++ [l]) (us ++ [u]) := by
  have hf : Fr v.ownBlock.toList w w' := Fr.ofGrown hg
  have hne : ∀ (x : Value) (m : List Int), Ints B w x m → ∀ k, x.ownBlock = some k → k ∉ v.ownBlock.toList := fun x m hx k hk c => by
    have c : v.ownBlock = some k := by simpa using c
    exact own_apart hx h.row (show (3 : Nat) ≠ 31 by decide) hk c
  have kp : ∀ (x : Value) (m : List Int), Ints B w x m → Ints B w' x m := fun x m hx => own_keep hx (fun k hk => hf.block k (World.ownsRow.lt hx k hk).2 (hne x m hx k hk))
  refine ⟨by simp [h.ul], by simpa using hr, ?_, ?_⟩
  · intro i l' u' hl hu'
    rcases Nat.lt_or_ge i ls.length with c | c
    · rw [List.getElem?_append_left c] at hl
      rw [List.getElem?_append_left (by rw [h.ul]; exact c)] at hu'
      exact kp _ _ (h.un i l' u' hl hu')
    · rw [List.getElem?_append_right c] at hl
      rw [List.getElem?_append_right (by rw [h.ul]; exact c)] at hu'
      have e : i - ls.length = 0 := by
        have := (List.getElem?_eq_some_iff.1 hl).1; simpa using this
      rw [e] at hl
      rw [h.ul, e] at hu'
      simp at hl hu'
      subst hl hu'
      exact kp _ _ hu
  · intro i j u1 u2 k h1 h2 hk1 hk2
    have cs : ∀ i (x : Value), (us ++ [u])[i]? = some x → (us[i]? = some x) ∨ (i = us.length ∧ x = u) := fun i x hx => by
      rcases Nat.lt_or_ge i us.length with c | c
      · rw [List.getElem?_append_left c] at hx; exact Or.inl hx
      · rw [List.getElem?_append_right c] at hx
        have e : i - us.length = 0 := by have := (List.getElem?_eq_some_iff.1 hx).1; simpa using this
        rw [e] at hx; simp at hx; exact Or.inr ⟨by omega, hx.symm⟩
    rcases cs i u1 h1 with c1 | ⟨c1, rfl⟩ <;> rcases cs j u2 h2 with c2 | ⟨c2, rfl⟩
    · exact h.apart i j u1 u2 k c1 c2 hk1 hk2
    · exact absurd (mem_rrB.2 ⟨i, u1, c1, hk1⟩) (hn k hk2)
    · exact absurd (mem_rrB.2 ⟨j, u2, c2, hk2⟩) (hn k hk1)
    · omega

theorem up_of {n i : Nat} (hn : n ∈ sizes) (hi : i < n) : dir ((2 * i : Nat) : Int) (n : Nat) = (upN n i).map (fun (x : Nat) => (x : Int)) ∧ cop ((2 * i : Nat) : Int) (n : Nat) = (sdN n i).map (fun (x : Nat) => (x : Int)) ∧ (upN n i).length = (sdN n i).length ∧ (upN n i).Nodup ∧ (∀ x ∈ upN n i, x < 2 * n - 1 ∧ x % 2 = 1) ∧ (∀ x ∈ sdN n i, x < 2 * n - 1) := by
  have h := List.all_eq_true.1 fin_up n hn
  have h := List.all_eq_true.1 h i (List.mem_range.2 hi)
  simp only [Bool.and_eq_true, decide_eq_true_eq, List.all_eq_true] at h
  obtain ⟨⟨⟨⟨⟨h1, h2⟩, h3⟩, h4⟩, h5⟩, h6⟩ := h
  exact ⟨h1, h2, h3, h4, h5, h6⟩
theorem up_in {n i x : Nat} (hn : n ∈ sizes) (hi : i < n) (hx : x < 2 * n - 1) : x ∈ upN n i ↔ x % 2 = 1 ∧ spF (x : Nat) ≤ (i : Nat) ∧ (i : Nat) ≤ spT (x : Nat) := by
  have h := List.all_eq_true.1 fin_in n hn
  have h := List.all_eq_true.1 h i (List.mem_range.2 hi)
  have h := List.all_eq_true.1 h x (List.mem_range.2 hx)
  simp only [decide_eq_true_eq] at h
  rw [← List.contains_iff_mem, h]
  simp [and_assoc]
theorem fin_len : (sizes.all fun n => (List.range n).all fun i => decide ((upN n i).length ≤ 3)) = true := by decide +kernel
theorem up_len {n i : Nat} (hn : n ∈ sizes) (hi : i < n) : (upN n i).length ≤ 3 := by
  have h := List.all_eq_true.1 fin_len n hn
  have h := List.all_eq_true.1 h i (List.mem_range.2 hi)
  simpa using h
/-- The pairs of a way, looked at one by one. -/
def prsL (T : List Nd) (l : List (Nat × Nat)) : List (Nat × List Int) := (l.map fun p => (p.1, rsl T p.2)).filter fun p => !p.2.isEmpty
theorem prs_eq (T : List Nd) (i : Nat) : prs T i = prsL T ((upN (nlv T) i).zip (sdN (nlv T) i)) := rfl
theorem prsL_snoc (T : List Nd) (l : List (Nat × Nat)) (p : Nat × Nat) : prsL T (l ++ [p]) = prsL T l ++ if rsl T p.2 = [] then [] else [(p.1, rsl T p.2)] := by
  unfold prsL
  rw [List.map_append, List.filter_append]
  cases h : rsl T p.2 <;> simp [h]
theorem prsL_len (T : List Nd) (l : List (Nat × Nat)) : (prsL T l).length ≤ l.length := by
  unfold prsL; exact Nat.le_trans (List.length_filter_le _ _) (by simp)
end Go.Proofs.YtpgppnmobbgefaaGreatDoor

/- The contracts of above and path. -/
namespace Go.Proofs.YtpgppnmobbgefaaGreatDoor
open Go.RowKit Go.Maps

set_option maxHeartbeats 1000000 in
theorem above_tr {w : World} {v : Value} {T : List Nd} (h : Trd w v T) (hs : T.length ≤ 15) (hT : Tab w) {i : Nat} (hi : i < nlv T) :
    Calls Tryz.prog 158 #[.agg #[v], .int .i64 (i : Int)] w fun e w' => ∃ r, e = .returned r ∧ Ints w.heap.size w' r (dir ((2 * i : Nat) : Int) (nlv T : Nat)) ∧ Below w.heap.size w w' := by
  obtain ⟨a, c, rfl⟩ := h.slice
  have KL : ∀ W, _ := fun W => leaves_any a T.length c W h.len
  have hnl : nlv T = (T.length + 1) / 2 := rfl
  rw [← hnl] at KL
  obtain ⟨x, hx⟩ : ∃ x, x = 2 * i := ⟨_, rfl⟩
  have KD : ∀ W, Below w.heap.size w W → _ := fun W hW => direct_any (x : Int) (nlv T : Nat) W (hT.bw hW)
  rw [← hx]
  have q : 2 * (i : Int) = (x : Int) := by omega
  have hi8 : (i : Int) ≤ 8 := by omega
  clear h hT hnl hx hs
  generalize nlv T = n at *
  generalize dir (x : Int) (n : Int) = L at *
  generalize T.length = N at *
  go_enter Tryz.func158, Tryz.ntmps158
  go_wp2_with fail
  refine (KL _).mono ?_
  rintro e w1 ⟨rfl, b1⟩
  have b2 := bx_bel b1
  have K2 := KD _ b2
  have hsz := b2.size
  clear KL KD
  go_wp2_with fail
  refine K2.mono ?_
  rintro e w2 ⟨r, rfl, hr, b3⟩
  go_wp2
  go_ret
  exact ⟨_, rfl, hr.mono hsz, bw_tr b2 b3⟩

theorem own_mono {B B' : Nat} {w : World} {e : TypeId} {c : Nat} {v : Value} {n : Nat} {xs : List Value} (h : w.ownsRow B e c v n xs) (hb : B' ≤ B) : w.ownsRow B' e c v n xs := by
  refine ⟨h.1, ?_⟩
  rcases h.2 with h | ⟨g, cap, cur, hv, h0, r⟩
  · exact Or.inl h
  · exact Or.inr ⟨g, cap, cur, hv, Nat.le_trans hb h0, r⟩
theorem own_alloc' {B : Nat} {w : World} {e : TypeId} {c : Nat} {v : Value} {n : Nat} {xs : List Value} (h : w.ownsRow B e c v n xs) (o : Obj) : (w.alloc o).ownsRow B e c v n xs :=
  own_keep h (fun k hk => Below.heap_alloc _ _ _ (World.ownsRow.lt h k hk).2)
/-- Where path's loop stands. -/
structure PI (B : Nat) (w : World) (nv ov : Value) (P : List (Nat × List Int)) (us : List Value) : Prop where
  ns : Ints B w nv (P.map fun p => (p.1 : Int))
  rr : RR B w ov (P.map (·.2)) us
  ap : ∀ k, nv.ownBlock = some k → k ∉ rrB us
theorem RR.mono {B B' : Nat} {w : World} {v : Value} {ls : List (List Int)} {us : List Value} (h : RR B w v ls us) (hb : B' ≤ B) : RR B' w v ls us :=
  ⟨h.ul, own_mono h.row hb, fun i l u hl hu => (h.un i l u hl hu).mono hb, h.apart⟩
theorem PI.mono {B B' : Nat} {w : World} {nv ov : Value} {P : List (Nat × List Int)} {us : List Value} (h : PI B w nv ov P us) (hb : B' ≤ B) : PI B' w nv ov P us := ⟨h.ns.mono hb, h.rr.mono hb, h.ap⟩
/-- A node and its row come behind the others. -/
theorem PI.push {B : Nat} {w w1 w2 : World} {nv ov nv' ov' : Value} {P : List (Nat × List Int)} {us : List Value} {r : Value} {L : List Int} {y : Nat} (h : PI B w nv ov P us) (hr : Ints B w r L) (hrn : ∀ k, r.ownBlock = some k → k ∉ rrB us) (hrv : ∀ k, r.ownBlock = some k → nv.ownBlock ≠ some k) {o1 o2 : Obj}
    (hn : w1.ownsRow B 3 1 nv' (P.length + 1) (P.map (fun p => I64 (p.1 : Int)) ++ [.int .i64 (y : Int)])) (hg1 : (w.alloc o1).grownBy w1 nv.ownBlock) (hp1 : nv'.ownBlock = nv.ownBlock ∨ nv'.ownBlock = some (w.alloc o1).heap.size)
    (ho : w2.ownsRow B 31 1 ov' (P.length + 1) (us ++ [r])) (hg2 : (w1.alloc o2).grownBy w2 ov.ownBlock) : PI B w2 nv' ov' (P ++ [(y, L)]) (us ++ [r]) := by
  have f1 : Fr nv.ownBlock.toList w w1 := ((Fr.refl _ w).alloc _).tr (Fr.ofGrown hg1)
  have hne : ∀ k, nv.ownBlock = some k → ov.ownBlock ≠ some k := fun k hk => own_apart h.ns h.rr.row (show (3 : Nat) ≠ 31 by decide) hk
  have rr1 : RR B w1 ov (P.map (·.2)) us := h.rr.keep f1 (fun k hk c => hne k (by simpa using c) hk) (fun k hk c => h.ap k (by simpa using c) hk)
  have r1 : Ints B w1 r L := own_keep hr (fun k hk => f1.block k (World.ownsRow.lt hr k hk).2 (fun c => hrv k hk (by simpa using c)))
  have ho' : w2.ownsRow B 31 1 ov' ((P.map (·.2)).length + 1) (us ++ [r]) := by simpa using ho
  have rr2 : RR B w2 ov' (P.map (·.2) ++ [L]) (us ++ [r]) := (rr1.bw (bwA _ o2)).push (own_alloc' r1 o2) hrn ho' hg2
  have f2 : Fr ov.ownBlock.toList w1 w2 := ((Fr.refl _ w1).alloc _).tr (Fr.ofGrown hg2)
  have hnI : Ints B w1 nv' ((P ++ [(y, L)]).map fun p => (p.1 : Int)) := by
    unfold Ints; simpa [I64, Function.comp_def] using hn
  refine ⟨own_keep hnI (fun k hk => f2.block k (World.ownsRow.lt hnI k hk).2 (fun c => own_apart hnI rr1.row (show (3 : Nat) ≠ 31 by decide) hk (by simpa using c))), by simpa using rr2, ?_⟩
  intro k hk c
  have hlt : ∀ m, m ∈ rrB (us ++ [r]) → m < w.heap.size := fun m hm => by
    unfold rrB at hm; rw [List.filterMap_append, List.mem_append] at hm
    rcases hm with hm | hm
    · exact (h.rr.lt hm).2
    · simp at hm; exact (World.ownsRow.lt hr m hm).2
  rcases hp1 with e | e
  · rw [e] at hk
    unfold rrB at c; rw [List.filterMap_append, List.mem_append] at c
    rcases c with c | c
    · exact h.ap k hk c
    · simp at c; exact hrv k c hk
  · rw [e] at hk
    have hk : (w.alloc o1).heap.size = k := by simpa using hk
    have := hlt k c
    simp at hk; omega
theorem PI.bw {B : Nat} {w w' : World} {nv ov : Value} {P : List (Nat × List Int)} {us : List Value} (h : PI B w nv ov P us) (hb : Below w.heap.size w w') : PI B w' nv ov P us := ⟨h.ns.bw hb, h.rr.bw hb, h.ap⟩
set_option maxRecDepth 100000 in
set_option maxHeartbeats 4000000 in
theorem path_any {w : World} {v : Value} {T : List Nd} (h : Trd w v T) (hw : Wd T) (hs : Sm T) (hT : Tab w) {i : Nat} (hi : i < nlv T) :
    Calls Tryz.prog 169 #[.agg #[v], .int .i64 (i : Int)] w fun e w' => ∃ nv ov us, e = .returned (.tuple #[nv, ov]) ∧ PI w.heap.size w' nv ov (prs T i) us ∧ Below w.heap.size w w' := by
  obtain ⟨g1, g2, g3, g4, g5⟩ := hw.facts
  obtain ⟨d1, d2, d3, d4, d5, d6⟩ := up_of g1 hi
  have d7 := up_len g1 hi
  obtain ⟨i0, hi0, hz0, hz1, hz2⟩ := info_parts Tryz.infoInt
  obtain ⟨j0, hj0, hy0, hy1, hy2⟩ := info_parts infoInts
  obtain ⟨a, c, rfl⟩ := h.slice
  obtain ⟨w0, hw0⟩ : ∃ w0, w0 = bxw w (.slice a T.length c) := ⟨_, rfl⟩
  have b0 : Below w.heap.size w w0 := by rw [hw0]; exact bwA _ _
  have HB : Hid (∀ W, Below w0.heap.size w0 W → W.cell? ⟨w.heap.size, 0, none⟩ = some (.slice a T.length c) ∧ Below w.heap.size w W) := fun W hW => by subst hw0; exact ⟨bx_cell hW, bx_bel hW⟩
  have KL := hide (leaves_any a T.length c w0 h.len)
  have hnl : nlv T = (T.length + 1) / 2 := rfl
  rw [← hnl] at KL
  obtain ⟨x2, hx2⟩ : ∃ x2, x2 = 2 * i := ⟨_, rfl⟩
  have KC : Hid (∀ W, Below w.heap.size w W → Calls Tryz.prog 264 #[.int .i64 (x2 : Int), .int .i64 (nlv T : Nat)] W fun e w' => ∃ v, e = .returned v ∧ Ints W.heap.size w' v ((sdN (nlv T) i).map (fun (x : Nat) => (x : Int))) ∧ Below W.heap.size W w') := fun W hW => by
    have := copath_any (x2 : Int) (nlv T : Nat) W (hT.bw hW); rw [hx2, d2] at this; rw [hx2]; exact this
  have KA : Hid (∀ W, Below w.heap.size w W → Calls Tryz.prog 158 #[.agg #[.slice a T.length c], .int .i64 (i : Int)] W fun e w' => ∃ r, e = .returned r ∧ Ints W.heap.size w' r ((upN (nlv T) i).map (fun (x : Nat) => (x : Int))) ∧ Below W.heap.size W w') := fun W hW => by
    have := above_tr (h.bw hW) g3 (hT.bw hW) hi; rw [d1] at this; exact this
  have KR : Hid (∀ W (y : Nat), y ∈ sdN (nlv T) i → Below w.heap.size w W → Calls Tryz.prog 167 #[.agg #[.slice a T.length c], .int .i64 (y : Int)] W fun e w' => ∃ r, e = .returned r ∧ Ints W.heap.size w' r (rsl T y) ∧ Below W.heap.size W w') := fun W y hy hW => resolution_at hw hs y (d6 y hy) (h.bw hW) (hT.bw hW)
  have HP : Hid (prs T i = prsL T ((upN (nlv T) i).zip (sdN (nlv T) i))) := prs_eq T i
  have HL72 : Hid (∀ y ∈ sdN (nlv T) i, (rsl T y).length ≤ 72) := fun y hy => rsl_72 hw hs (by have := d6 y hy; omega)
  have q : 2 * (i : Int) = (x2 : Int) := by omega
  have hi8 : (i : Int) ≤ 8 := by omega
  have HW : Hid (w0 = w.alloc (.cells #[.slice a T.length c] 24)) := hw0
  clear h hT hnl hx2 hw0 hw hs g1 g2 g3 g5 d1 d2 d4 d5 d6 hi
  generalize nlv T = n at *
  generalize upN n i = U at *
  generalize sdN n i = D at *
  generalize T.length = N at *
  obtain ⟨M, hM⟩ : ∃ M, M = U.length := ⟨_, rfl⟩
  have hM3 : M ≤ 3 := by omega
  have HM : Hid (M = U.length ∧ M = D.length) := ⟨hM, by omega⟩
  clear hM d3 d7
  go_enter Tryz.func169, Tryz.ntmps169
  go_wp2_with fail
  rw [← unhide HW]
  refine (unhide KL).mono ?_
  rintro e w1 ⟨rfl, b1⟩
  obtain ⟨c1, hb1⟩ := unhide HB _ b1
  clear KL HW
  go_wp2_with fail
  refine (unhide KC _ hb1).mono ?_
  rintro e w2 ⟨sv, rfl, hsv, b2⟩
  have b3 := bw_tr b1 b2
  obtain ⟨c2, hb3⟩ := unhide HB _ b3
  clear KC c1
  go_wp2_with fail
  refine (unhide KA _ hb3).mono ?_
  rintro e w3 ⟨uv, rfl, huv, b4⟩
  have b5 := bw_tr b3 b4
  have HS := hide ((hsv.nums).bw b4)
  have HU := hide (huv.nums)
  obtain ⟨ua, uc, hue⟩ := own_slice huv
  rw [List.length_map, ← (unhide HM).1] at hue
  obtain ⟨sa, sc, hse⟩ := own_slice hsv
  rw [List.length_map, ← (unhide HM).2] at hse
  subst hue hse
  have s0 := b0.size
  clear KA hsv huv c2 hb1 hb3
  go_wp2_with fail
  go_loopw [4, 5, 19] (fun nv ov iv wr => ∃ (j : Nat) (us : List Value), iv = .int .i64 (j : Int) ∧ j ≤ M ∧ Hid (PI w3.heap.size wr nv ov (prsL T ((U.zip D).take j)) us) ∧ Below w3.heap.size w3 wr) (fun _ _ iv _ => (M - (intOf iv)).toNat)
  case atStart => exact ⟨0, [], rfl, by omega, ⟨ints_nil _ _, rr_nil _ _, fun k hk => by cases hk⟩, Below.refl _ _⟩
  case round =>
    obtain ⟨j, us, rfl, hjM, hPI, hbel⟩ := hrel
    have b6 := bw_tr b5 hbel
    obtain ⟨c1, hbw⟩ := unhide HB _ b6
    by_cases hlt : j < M
    · obtain ⟨y, hy⟩ : ∃ y, U[j]? = some y := ⟨_, List.getElem?_eq_getElem (by have := (unhide HM).1; omega)⟩
      obtain ⟨z, hz⟩ : ∃ z, D[j]? = some z := ⟨_, List.getElem?_eq_getElem (by have := (unhide HM).2; omega)⟩
      obtain ⟨gu, ou, cu, hue, hcu⟩ := (unhide HU).open (by simp; have := (unhide HM).1; omega)
      obtain ⟨gs, os', cs, hse, hcs⟩ := (unhide HS).open (by simp; have := (unhide HM).2; omega)
      rw [List.length_map, ← (unhide HM).1] at hue
      rw [List.length_map, ← (unhide HM).2] at hse
      cases hue
      cases hse
      have HUc : Hid (∀ W, Below w3.heap.size w3 W → W.cell? ⟨gu, ou + j, none⟩ = some (.int .i64 (y : Int)) ∧ W.cell? ⟨gs, os' + j, none⟩ = some (.int .i64 (z : Int))) := fun W hW => by
        have k1 := hcu j (y : Int) (by simp [hy])
        have k2 := hcs j (z : Int) (by simp [hz])
        refine ⟨?_, ?_⟩
        · rw [hW.cell (p := ⟨gu, ou + j, none⟩) (lt_of_cell (a := ⟨gu, ou + j, none⟩) k1)]; exact k1
        · rw [hW.cell (p := ⟨gs, os' + j, none⟩) (lt_of_cell (a := ⟨gs, os' + j, none⟩) k2)]; exact k2
      obtain ⟨cu1, cs1⟩ := unhide HUc _ hbel
      have hzm : z ∈ D := List.mem_of_getElem? hz
      have KR2 := hide (unhide KR · z hzm)
      have hl72 := unhide HL72 z hzm
      have hsn : Hid (prsL T ((U.zip D).take (j + 1)) = prsL T ((U.zip D).take j) ++ if rsl T z = [] then [] else [(y, rsl T z)]) := by
        unfold Hid
        have e : (U.zip D)[j]? = some (y, z) := by rw [List.getElem?_zip_eq_some]; exact ⟨hy, hz⟩
        rw [List.take_add_one, e]
        exact prsL_snoc T _ (y, z)
      have hpl : (prsL T ((U.zip D).take j)).length ≤ 3 := Nat.le_trans (prsL_len T _) (by simp; omega)
      generalize prsL T ((U.zip D).take j) = P at *
      generalize rsl T z = L at *
      have q1 : (j : Int) < (M : Int) := by omega
      have q0 : (0 : Int) ≤ (j : Int) := by omega
      have hM3' : (M : Int) ≤ 3 := by omega
      clear hy hz hcu hcs hzm KR HL72
      have HR : Hid (∀ W, Below w3.heap.size w3 W → W.cell? ⟨w.heap.size, 0, none⟩ = some (.slice a N c) ∧ W.cell? ⟨gs, os' + j, none⟩ = some (.int .i64 (z : Int))) := fun W hW => ⟨(unhide HB _ (bw_tr b5 hW)).1, (unhide HUc _ hW).2⟩
      have bd : Below w3.heap.size w3 wr.drew := hbel.drew
      have J1 := unhide KR2 wr.drew hbw.drew
      have S0 := unhide HR _ bd
      generalize ((z : Nat) : Int) = zi at *
      go_upto_region 5 with fail
      go_region_held3 (fun w' : World => w'.cell? ⟨w.heap.size, 0, none⟩ = some (.slice a N c) ∧ w'.cell? ⟨gs, os' + j, none⟩ = some (.int .i64 zi)) (first | with_reducible exact S0 | with_reducible exact S1) (first
        | (go_at_call 167; refine J1.mono ?_; rintro e z1 ⟨r1, rfl, R1, b7⟩; have b8 := bw_tr bd b7; have S1 := unhide HR _ b8))
      have hPI2 := hide ((unhide hPI).bw (bw_tr (Below.refl _ _).drew b7))
      have hnew : Hid (∀ k, r1.ownBlock = some k → wr.heap.size ≤ k ∧ k < z1.heap.size) := fun k hk => World.ownsRow.lt R1 k hk
      have HO : Hid (PI w3.heap.size wr u4 u5 P us) := hPI
      clear S0 S1 J1 HR cu1 cs1 HUc KR2 hPI
      obtain ⟨ra, rc, rfl⟩ := own_slice R1
      by_cases hL : L = []
      · subst hL
        clear R1
        go_wp2_with fail
        go_roundw
        case rel => exact ⟨j + 1, us, by go_num, by omega, by rw [unhide hsn]; simpa [Hid] using unhide hPI2, b8⟩
        case measure => simp [intOf]; omega
      · have hLne : L ≠ [] := hL
        have hLp : (0 : Int) < (L.length : Int) := by have := List.length_pos_iff.2 hL; omega
        have hl72' : (L.length : Int) ≤ 72 := by omega
        rw [if_neg hLne] at hsn
        have HR1 := hide R1
        clear hL hLne R1
        have N1 : z1.ownsRow w3.heap.size 3 1 u4 P.length (P.map fun p => I64 (p.1 : Int)) := by have := (unhide hPI2).ns; simpa [Ints, Function.comp_def] using this
        have N2 : Hid (z1.ownsRow w3.heap.size 31 1 u5 P.length us) := by have := (unhide hPI2).rr.row; simpa [Hid] using this
        have N3 : Hid (∀ k, u4.ownBlock = some k → u5.ownBlock ≠ some k) := fun k hk => own_apart (unhide hPI2).ns (unhide hPI2).rr.row (show (3 : Nat) ≠ 31 by decide) hk
        generalize hLL : L.length = LL at *
        have hsz := b8.size
        go_wp2_with (at_builtin; refine wpList_append_own_at _ rfl (.tmp 33) (.tmp 35) 31 rfl w3.heap.size 3 i0 (.int .i64 0) 1 8 Tryz.underlying31 hi0 hz0 hz1 hz2 rfl (by decide) u4 P.length _ rfl (own_alloc' N1 _) ⟨z1.heap.size, 0, none⟩ 1 1 [_] rfl rfl (cell_one_new _ _ _) ?c2 ?c3 ?c4 ?c5 ?nx)
        case c2 => intro u hu; simp at hu; subst hu; rfl
        case c3 => unfold maxLen; omega
        case c4 => omega
        case c5 => simp; omega
        case nx =>
          intro nv' w4 hown' hgrow _ hpl4
          have f1 : Fr u4.ownBlock.toList z1 w4 := ((Fr.refl _ z1).alloc _).tr (Fr.ofGrown hgrow)
          have N4 : w4.ownsRow w3.heap.size 31 1 u5 P.length us := own_keep (unhide N2) (fun k hk => f1.block k (World.ownsRow.lt (unhide N2) k hk).2 (fun c => unhide N3 k (by simpa using c) hk))
          have hs4 : w3.heap.size ≤ w4.heap.size := Nat.le_trans hsz f1.size
          have HF1 := hide f1
          have HG := hide (And.intro hown' (And.intro hgrow hpl4))
          clear hown' hgrow hpl4 f1 N1
          go_wp2_with (at_builtin; refine wpList_append_own_at _ rfl (.tmp 37) (.tmp 39) 85 rfl w3.heap.size 31 j0 (.slice none 0 0) 1 24 Tryz.underlying85 hj0 hy0 hy1 hy2 rfl (by decide) u5 P.length _ rfl (own_alloc' N4 _) ⟨w4.heap.size, 0, none⟩ 1 1 [_] rfl rfl (cell_one_new _ _ _) ?d2 ?d3 ?d4 ?d5 ?ny)
          case d2 => intro u hu; simp at hu; subst hu; rfl
          case d3 => unfold maxLen; omega
          case d4 => omega
          case d5 => simp; omega
          case ny =>
            intro ov' w5 hown2 hgrow2 _ hpl5
            obtain ⟨hown', hgrow, hpl4⟩ := unhide HG
            have R1w : Ints w3.heap.size z1 (.slice ra LL rc) L := by
              have := (unhide HR1).mono (show w3.heap.size ≤ wr.drew.heap.size from bd.size); exact this
            have hPI3 : PI w3.heap.size w5 nv' ov' (P ++ [(y, L)]) (us ++ [.slice ra LL rc]) :=
              (unhide hPI2).push R1w (fun k hk c => by have := unhide hnew k hk; have := ((unhide HO).rr.lt c).2; omega) (fun k hk c => by have := unhide hnew k hk; have := (World.ownsRow.lt (unhide HO).ns k c).2; omega) hown' hgrow (by simpa using hpl4) hown2 hgrow2
            have b9 : Below w3.heap.size w3 w5 := by
              have q1 : Below w3.heap.size w3 w4 := Fr.toBase b8 (unhide HF1) (fun k hk => (World.ownsRow.lt (unhide HO).ns k (by simpa using hk)).1)
              exact Fr.toBase q1 (((Fr.refl _ w4).alloc _).tr (Fr.ofGrown hgrow2)) (fun k hk => (World.ownsRow.lt N4 k (by simpa using hk)).1)
            have HPI3 := hide hPI3
            clear hPI3 hown2 hgrow2 hpl5 R1w hown' hgrow hpl4 HG N4 HR1 hPI2 HO
            go_wp2_with fail
            go_roundw
            case rel => exact ⟨j + 1, _, by go_num, by omega, by rw [unhide hsn]; exact HPI3, b9⟩
            case measure => simp [intOf]; omega
    · have hie : j = M := by omega
      subst hie
      have hE : Hid (PI w3.heap.size wr u4 u5 (prs T i) us) := by
        unfold Hid; rw [unhide HP]
        have e : (U.zip D).take j = U.zip D := List.take_of_length_le (by have := unhide HM; simp; omega)
        have := unhide hPI; rw [e] at this; exact this
      have hs3 := b5.size
      clear hPI
      go_wp2_with fail
      go_ret2
      exact ⟨_, _, _, rfl, (unhide hE).mono (by omega), hbw⟩
end Go.Proofs.YtpgppnmobbgefaaGreatDoor

/- The contracts of Resolution and Path. -/
namespace Go.Proofs.YtpgppnmobbgefaaGreatDoor
open Go.RowKit Go.Maps

def resE (T : List Nd) (x : Int) : Int := if mayB T = false then 1 else if x < 0 ∨ (T.length : Int) ≤ x then 7 else 0
theorem mayB_okn {T : List Nd} (h : mayB T = true) (h0 : 0 < T.length) : Ok T := by
  rcases mayB_ok h with rfl | h
  · simp at h0
  · exact h
theorem nlv_pos {T : List Nd} (h : 0 < nlv T) : 0 < T.length := by unfold nlv at h; omega
set_option maxRecDepth 100000 in
set_option maxHeartbeats 1000000 in
theorem resolutionX_any {w : World} {v : Value} {T : List Nd} (h : Trd w v T) (hT : Tab w) (x : Int) :
    Calls Tryz.prog 31 #[.agg #[v], .int .i64 x] w fun e w' => ∃ r, e = .returned (.tuple #[r, .int .i64 (resE T x)]) ∧ Ints w.heap.size w' r (if resE T x = 0 then rsl T x.toNat else []) ∧ Below w.heap.size w w' := by
  have K := mayBe_any (h.bw (bwA w (.cells #[v] 24))) (hT.bw (bwA _ _))
  have KR : Hid (∀ W, mayB T = true → 0 ≤ x → x < (T.length : Int) → Below w.heap.size w W → Calls Tryz.prog 167 #[.agg #[v], .int .i64 x] W fun e w' => ∃ r, e = .returned r ∧ Ints W.heap.size w' r (rsl T x.toNat) ∧ Below W.heap.size W w') := fun W q h1 h2 hW => by
    have ok := mayB_okn q (by omega)
    obtain ⟨g1, g2, g3, g4, g5⟩ := ok.wd.facts
    obtain ⟨n, rfl⟩ : ∃ n : Nat, x = n := ⟨x.toNat, by omega⟩
    exact resolution_at ok.wd ok.sm n (by omega) (h.bw hW) (hT.bw hW)
  obtain ⟨a, c, rfl⟩ := h.slice
  have hl : (T.length : Int) ≤ 140737488355328 := by have := h.len; omega
  obtain ⟨E, hE⟩ : ∃ E, E = resE T x := ⟨_, rfl⟩
  rw [← hE]
  unfold resE at hE
  have HE := hide hE
  clear h hT hE
  generalize mayB T = p at *
  generalize T.length = N at *
  generalize rsl T x.toNat = L at *
  go_enter Tryz.func31, Tryz.ntmps31
  go_wp2_with fail
  refine K.mono ?_
  rintro e w1 ⟨rfl, b1⟩
  have c1 := bx_cell b1
  have b2 := bx_bel b1
  cases p
  · obtain rfl : E = 1 := by rw [unhide HE]; simp
    clear KR HE
    go_wp2
    go_ret2
    exact ⟨_, rfl, ints_nil _ _, b2⟩
  · by_cases g1 : x < 0
    · obtain rfl : E = 7 := by rw [unhide HE]; simp [g1]
      clear KR HE
      go_wp2
      go_ret2
      exact ⟨_, rfl, ints_nil _ _, b2⟩
    · have g1' : decide (x < 0) = false := decide_eq_false g1
      by_cases g2 : (N : Int) ≤ x
      · obtain rfl : E = 7 := by rw [unhide HE]; simp [g2]
        clear KR HE
        go_wp2
        go_ret2
        exact ⟨_, rfl, ints_nil _ _, b2⟩
      · have g2' : decide ((N : Int) ≤ x) = false := decide_eq_false g2
        obtain rfl : E = 0 := by rw [unhide HE]; simp [g1, g2]
        have KR2 := unhide KR w1 rfl (by omega) (by omega) b2
        have hsz := b2.size
        clear KR HE
        go_wp2_with fail
        refine KR2.mono ?_
        rintro e w3 ⟨r, rfl, hr, b3⟩
        go_wp2
        go_ret2
        exact ⟨_, rfl, by simpa using hr.mono hsz, bw_tr b2 b3⟩
set_option maxRecDepth 100000 in
set_option maxHeartbeats 1000000 in
theorem pathX_any {w : World} {v : Value} {T : List Nd} (h : Trd w v T) (hT : Tab w) (i : Int) :
    Calls Tryz.prog 32 #[.agg #[v], .int .i64 i] w fun e w' => ∃ r, e = .returned (.tuple #[r, .int .i64 (askE T i)]) ∧ Ints w.heap.size w' r (if askE T i = 0 then pth T i.toNat else []) ∧ Below w.heap.size w w' := by
  have K := mayBe_any (h.bw (bwA w (.cells #[v] 24))) (hT.bw (bwA _ _))
  have KH : Hid (∀ W, mayB T = true → Below w.heap.size w W → Calls Tryz.prog 168 #[.agg #[v], .int .i64 i] W fun e w' => e = .returned (.bool (hasL T i)) ∧ Below W.heap.size W w') := fun W q hW => hasLeaf_any (h.bw hW) (mayB_15 q).1 i
  have KP : Hid (∀ W, mayB T = true → hasL T i = true → Below w.heap.size w W → Calls Tryz.prog 169 #[.agg #[v], .int .i64 i] W fun e w' => ∃ nv ov us, e = .returned (.tuple #[nv, ov]) ∧ PI W.heap.size w' nv ov (prs T i.toNat) us ∧ Below W.heap.size W w') := fun W q q2 hW => by
    have h0 : 0 ≤ i := by
      apply Decidable.byContradiction; intro c; unfold hasL at q2; rw [decide_eq_false c] at q2; simp at q2
    obtain ⟨n, rfl⟩ : ∃ n : Nat, i = n := ⟨i.toNat, by omega⟩
    obtain ⟨h1, h2⟩ := hasL_pos q2
    have ok := mayB_okn q (nlv_pos (by omega))
    exact path_any (h.bw hW) ok.wd ok.sm (hT.bw hW) h1
  obtain ⟨E, hE⟩ : ∃ E, E = askE T i := ⟨_, rfl⟩
  rw [← hE]
  unfold askE at hE
  have HE := hide hE
  have HPth : Hid (pth T i.toNat = (prs T i.toNat).map fun p => (p.1 : Int)) := rfl
  clear h hT hE
  generalize mayB T = p at *
  generalize hasL T i = q at *
  generalize pth T i.toNat = L at *
  generalize prs T i.toNat = PP at *
  go_enter Tryz.func32, Tryz.ntmps32
  go_wp2_with fail
  refine K.mono ?_
  rintro e w1 ⟨rfl, b1⟩
  have c1 := bx_cell b1
  have b2 := bx_bel b1
  cases p
  · obtain rfl : E = 1 := by rw [unhide HE]; simp
    clear KH KP HE
    go_wp2
    go_ret2
    exact ⟨_, rfl, ints_nil _ _, b2⟩
  · have KH2 := unhide KH w1 rfl b2
    have KP1 := hide (fun W => unhide KP W rfl)
    clear KH KP
    go_wp2_with fail
    refine KH2.mono ?_
    rintro e w2 ⟨rfl, b3⟩
    have b4 := bw_tr b1 b3
    have c2 := bx_cell b4
    have b5 := bx_bel b4
    cases q
    · obtain rfl : E = 7 := by rw [unhide HE]; simp
      clear KP1 HE KH2
      go_wp2
      go_ret2
      exact ⟨_, rfl, ints_nil _ _, b5⟩
    · obtain rfl : E = 0 := by rw [unhide HE]; simp
      have KP2 := unhide KP1 w2 rfl b5
      have hsz := b5.size
      clear KP1 HE KH2 c1
      go_wp2_with fail
      refine KP2.mono ?_
      rintro e w3 ⟨nv, ov, us, rfl, hPI, b6⟩
      have hr := hPI.ns
      rw [← unhide HPth] at hr
      clear hPI HPth
      go_wp2
      go_ret2
      exact ⟨_, rfl, by simpa using hr.mono hsz, bw_tr b5 b6⟩
end Go.Proofs.YtpgppnmobbgefaaGreatDoor
