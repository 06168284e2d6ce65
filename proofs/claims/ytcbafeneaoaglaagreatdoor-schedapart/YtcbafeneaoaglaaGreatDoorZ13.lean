/- Texts joined: TrS TrX TrY TrY2 TeA. -/
import Derived.Test.YtcbafeneaoaglaaGreatDoorTrR
import Derived.Test.YtcbafeneaoaglaaGreatDoorIxRefD
import Derived.Test.YtcbafeneaoaglaaGreatDoorZ07
/- What the laws of layer 8 ask besides: TreeSize, Beyond, SameNode, has, names. -/
namespace Go.Proofs.YtcbafeneaoaglaaGreatDoor
open Go.RowKit Go.Maps

set_option maxHeartbeats 400000 in
theorem beyond8 (b : Nat) (n : Nat) (c : Nat) (w : World) (hn : n ≤ 1125899906842624) (h0 : w.cell? ⟨b, 0, none⟩ = some (.int .i64 n)) :
    Calls Tryz.prog 5 #[.slice (some ⟨b, 0, none⟩) 1 c] w fun e w' => e = .returned (.bool (decide (262144 < n))) ∧ w' = w := by
  by_cases hb : 262144 < n
  · rw [decide_eq_true hb]
    go_enter Tryz.func5, Tryz.ntmps5
    go_wp2
    refine wp_loop_rounds 1 ?_
    rw [rounds_succ]
    go_wp2
    go_ret
    exact ⟨rfl, rfl⟩
  · rw [decide_eq_false hb]
    go_enter Tryz.func5, Tryz.ntmps5
    go_wp2
    refine wp_loop_rounds 2 ?_
    rw [rounds_succ]
    go_wp2
    rw [rounds_succ]
    go_wp2
    go_ret
    exact ⟨rfl, rfl⟩
set_option maxRecDepth 100000 in
set_option maxHeartbeats 2000000 in
theorem treeSize_any {w : World} {v : Value} {T : List Nd} (h : Trd w v T) :
    Calls Tryz.prog 6 #[.agg #[v]] w fun e w' => ∃ n : Nat, e = .returned (.int .i64 (n : Int)) ∧ n ≤ 1125899906842624 ∧ Below w.heap.size w w' := by
  obtain ⟨a, c, rfl⟩ := h.slice
  have hl := h.len
  obtain ⟨-, h2⟩ := h.at
  have HC : Hid (∀ i, i < T.length → ∃ b o ua ul uc, a = some ⟨b, o, none⟩ ∧ ul ≤ 140737488355328 ∧ ∀ W, Below w.heap.size w W → W.cell? ⟨b, o + i * 4 + 3, none⟩ = some (.slice ua ul uc)) := fun i hi => by
    obtain ⟨b, o, e, h3⟩ := h2 (by omega)
    obtain ⟨u, k1, k2⟩ := h3 w (Below.refl _ _) i hi
    obtain ⟨ua, uc, rfl⟩ := nums_slice k2
    have hB : b < w.heap.size := lt_of_cell k1.c3
    exact ⟨b, o, ua, _, uc, e, h.unl _ (ndAt_mem hi), fun W hW => (k1.bw hB hW).c3⟩
  obtain ⟨W0, hW0⟩ : ∃ W0, W0 = bxw w (.slice a T.length c) := ⟨_, rfl⟩
  have hb0 : Below w.heap.size w W0 := by rw [hW0]; exact bwA _ _
  have c0 : W0.cell? ⟨w.heap.size, 0, none⟩ = some (.slice a T.length c) := by rw [hW0]; exact bx_cell (Below.refl _ _)
  have HW : Hid (W0 = w.alloc (.cells #[.slice a T.length c] 25)) := hW0
  have hlI : (T.length : Int) ≤ 140737488355328 := by omega
  have HL := hide hl
  clear h h2 hW0 hl
  generalize T.length = N at *
  go_enter Tryz.func6, Tryz.ntmps6
  go_upto_region 2 with fail
  rw [← unhide HW]
  go_wp2_with fail
  go_loopw [3, 4] (fun nv iv wr => ∃ (n i : Nat), nv = .int .i64 (n : Int) ∧ iv = .int .i64 (i : Int) ∧ i ≤ N ∧ Hid (n ≤ 281474976710656) ∧ wr = W0) (fun _ iv _ => (N - (intOf iv)).toNat)
  case atStart => exact ⟨N, 0, rfl, rfl, by omega, by have := unhide HL; unfold Hid; omega, rfl⟩
  case round =>
    obtain ⟨n, i, rfl, rfl, hiN, hn, rfl⟩ := hrel
    by_cases hlt : i < N
    · have q1 : (i : Int) < (N : Int) := by omega
      have q0 : (0 : Int) ≤ (i : Int) := by omega
      by_cases hs : n ≤ 262144
      · have hs1 : (n : Int) ≤ 262144 := by omega
        obtain ⟨b, o, ua, ul, uc, rfl, hul, hc⟩ := unhide HC i hlt
        have c3 := hc _ hb0
        have hul1 : (ul : Int) ≤ 140737488355328 := by omega
        have HS := hide (And.intro hs hul)
        clear hs hul hc
        go_wp2_with fail
        go_roundw
        case rel => exact ⟨n + ul, i + 1, by go_num, by go_num, by omega, by have := unhide HS; unfold Hid; omega, by trivial⟩
        case measure => simp [intOf]; omega
      · have hs1 : decide ((n : Int) ≤ 262144) = false := decide_eq_false (by omega)
        clear hs
        go_wp2_with fail
        go_ret
        exact ⟨n, rfl, by have := unhide hn; omega, hb0⟩
    · obtain rfl : i = N := by omega
      go_wp2_with fail
      go_ret
      exact ⟨n, rfl, by have := unhide hn; omega, hb0⟩
/-- Does a node of a resolution name the leaf i? -/
def nm1 (T : List Nd) (i : Nat) (z : Int) : Bool := z == 2 * (i : Int) || (z % 2 == 1 && wi ((2 * i : Nat) : Int) z && !decide ((i : Int) ∈ (ndAt T z.toNat).un))
def nms (T : List Nd) (l : List Int) (i : Nat) : Nat := (l.filter (nm1 T i)).length
theorem nms_snoc (T : List Nd) (l : List Int) (z : Int) (i : Nat) : nms T (l ++ [z]) i = nms T l i + (if nm1 T i z = true then 1 else 0) := by
  unfold nms; rw [List.filter_append, List.length_append]; cases h : nm1 T i z <;> simp [h]
end Go.Proofs.YtcbafeneaoaglaaGreatDoor

/- What follows of plain trees: a tree stays one; a resolution covers who is below. -/
namespace Go.Proofs.YtcbafeneaoaglaaGreatDoor
open Go.RowKit Go.Maps

theorem wi_of {i x : Nat} (hi : i < 8) (hx : x < 15) : wi ((2 * i : Nat) : Int) (x : Nat) = (decide (spF (x : Nat) ≤ (i : Nat)) && decide ((i : Nat) ≤ spT (x : Nat))) := by
  have h := List.all_eq_true.1 fin_wi x (List.mem_range.2 hx)
  have h := List.all_eq_true.1 h i (List.mem_range.2 hi)
  simpa using h
theorem nms_nil (T : List Nd) (i : Nat) : nms T [] i = 0 := rfl
theorem nms_app (T : List Nd) (a b : List Int) (i : Nat) : nms T (a ++ b) i = nms T a i + nms T b i := by unfold nms; rw [List.filter_append, List.length_append]
theorem nms_cons (T : List Nd) (z : Int) (b : List Int) (i : Nat) : nms T (z :: b) i = (if nm1 T i z = true then 1 else 0) + nms T b i := by
  unfold nms; rw [List.filter_cons]; split <;> simp; omega
/-- Doubled numbers name their own leaves. -/
theorem nms_un (T : List Nd) (i : Nat) : ∀ l : List Int, l.Pairwise (· < ·) → nms T (l.map (2 * ·)) i = if (i : Int) ∈ l then 1 else 0
  | [], _ => rfl
  | u :: us, h => by
    have hp := List.pairwise_cons.1 h
    rw [List.map_cons, nms_cons, nms_un T i us hp.2]
    have e : nm1 T i (2 * u) = decide (u = (i : Int)) := by
      unfold nm1
      have h1 : (2 * u % 2 == 1) = false := by rw [beq_eq_false_iff_ne]; omega
      rw [h1]
      by_cases c : u = (i : Int)
      · rw [decide_eq_true c, c]; simp
      · rw [decide_eq_false c]; simp; omega
    rw [e]
    by_cases c : u = (i : Int)
    · have : (i : Int) ∉ us := fun hm => by have := hp.1 _ hm; omega
      simp [c, this]
    · have c' : ¬ (i : Int) = u := fun h => c h.symm
      simp [c, c']
/-- The resolution of a node names each member below it once, and nobody else. -/
theorem covers8 {T : List Nd} (ok : Ok T) {i : Nat} (hi : i < nlv T) (hp : pos (ndAt T (2 * i)) = true) : ∀ x, x < T.length → nms T (rsl T x) i = if wi ((2 * i : Nat) : Int) (x : Nat) = true then 1 else 0 := by
  obtain ⟨g1, g2, g3, g4, g5⟩ := ok.wd.facts
  rw [g2]
  have hpos : ∀ x, x < 2 * nlv T - 1 → pos (ndAt T x) = true → nms T (rsl T x) i = if wi ((2 * i : Nat) : Int) (x : Nat) = true then 1 else 0 := fun x hx hpx => by
    obtain ⟨⟨s1, s2, s3, s4⟩, _⟩ := span_of g1 hx
    rw [rsl_pos hpx, nms_cons]
    rcases ndM_un (ok.nd x (by omega)) with e | ⟨ho, _, e⟩
    · rw [e, List.map_nil, nms_nil, Nat.add_zero]
      congr 1
      unfold nm1
      rw [Int.toNat_natCast, e]
      simp only [List.not_mem_nil, decide_false, Bool.not_false, Bool.and_true]
      rcases Nat.mod_two_eq_zero_or_one x with c | c
      · have h1 : ((x : Nat) : Int) % 2 = 0 := by omega
        have hs := s4.resolve_left (by omega)
        rw [wi_of (by omega) (by omega), h1]
        by_cases q : x = 2 * i
        · have : ((x : Nat) : Int) = 2 * (i : Int) := by omega
          rw [decide_eq_true (show spF (x : Nat) ≤ (i : Nat) by omega), decide_eq_true (show ((i : Nat) : Int) ≤ spT (x : Nat) by omega)]
          simp [this]
        · have : ¬ ((x : Nat) : Int) = 2 * (i : Int) := by omega
          have hno : ¬ (spF (x : Nat) ≤ (i : Nat) ∧ ((i : Nat) : Int) ≤ spT (x : Nat)) := by omega
          simp only [Bool.and_eq_true, decide_eq_true_eq, Bool.or_eq_true, beq_iff_eq, this, false_or, hno]
          simp
      · have h1 : ((x : Nat) : Int) % 2 = 1 := by omega
        have : ¬ ((x : Nat) : Int) = 2 * (i : Int) := by omega
        rw [h1]
        generalize wi ((2 * i : Nat) : Int) (x : Nat) = wb
        simp [this]
    · obtain ⟨u1, u2⟩ := unM_sorted e
      obtain ⟨_, u4⟩ := unM_bounds e
      rw [nms_un T i _ u1]
      have h1 : ((x : Nat) : Int) % 2 = 1 := by omega
      have hne : ¬ ((x : Nat) : Int) = 2 * (i : Int) := by omega
      have e2 : nm1 T i (x : Nat) = (wi ((2 * i : Nat) : Int) (x : Nat) && !decide ((i : Int) ∈ (ndAt T x).un)) := by
        unfold nm1; rw [Int.toNat_natCast, h1]
        generalize wi ((2 * i : Nat) : Int) (x : Nat) = wb
        simp [hne]
      rw [e2]
      by_cases hm : (i : Int) ∈ (ndAt T x).un
      · have := u4 _ hm
        have hw : wi ((2 * i : Nat) : Int) (x : Nat) = true := by rw [wi_of (by omega) (by omega)]; simp; omega
        rw [hw]; simp [hm]
      · generalize wi ((2 * i : Nat) : Int) (x : Nat) = wb
        simp [hm]
  refine node_ind g1 (fun x hx ho => ?_) (fun x hx ho i1 i2 => ?_)
  · cases hpx : pos (ndAt T x)
    · rw [rsl_leaf hpx ho, nms_nil]
      obtain ⟨⟨s1, s2, s3, s4⟩, _⟩ := span_of g1 hx
      have hs := s4.resolve_left (by omega)
      rw [if_neg]
      rw [wi_of (by omega) (by omega)]
      simp
      intro q1
      by_cases c : x = 2 * i
      · rw [c, hp] at hpx; cases hpx
      · omega
    · exact hpos x hx hpx
  · cases hpx : pos (ndAt T x)
    · rw [rsl_par g1 hx hpx ho, nms_app, i1, i2]
      obtain ⟨a1, a2, a3, a4, a5, a6, a7, a8, a9, a10, a11⟩ := (span_of g1 hx).2.1 ho
      obtain ⟨⟨b1, b2, b3, _⟩, _⟩ := span_of g1 a5
      obtain ⟨⟨c1, c2, c3, _⟩, _⟩ := span_of g1 a6
      rw [wi_of (by omega) (by omega), wi_of (by omega) (by omega), wi_of (by omega) (by omega)]
      simp only [Bool.and_eq_true, decide_eq_true_eq]
      generalize spF (lN x : Nat) = A at *
      generalize spT (lN x : Nat) = A' at *
      generalize spF (rN x : Nat) = C at *
      generalize spT (rN x : Nat) = C' at *
      generalize spF (x : Nat) = D at *
      generalize spT (x : Nat) = D' at *
      split <;> split <;> split <;> omega
    · exact hpos x hx hpx
theorem sd_of {n i j : Nat} (hn : n ∈ sizes) (hi : i < n) (hj : j < n) : ((sdN n i).filter fun s => wi ((2 * j : Nat) : Int) (s : Nat)).length = if i = j then 0 else 1 := by
  have h := List.all_eq_true.1 fin_sd n hn
  have h := List.all_eq_true.1 h i (List.mem_range.2 hi)
  have h := List.all_eq_true.1 h j (List.mem_range.2 hj)
  simpa using h
theorem keepF_nil (x : Int) : keepF [] x = true := by unfold keepF; simp
theorem tgt_nil (T : List Nd) (i : Nat) : tgt T i [] = oth T i := by
  unfold tgt
  have : ∀ l : List Int, l.filter (keepF []) = l := fun l => List.filter_eq_self.2 (fun a _ => keepF_nil a)
  simp [this]
/-- The targets of a leaf name each other member once. -/
theorem covers_all {T : List Nd} (ok : Ok T) {i j : Nat} (hi : i < nlv T) (hj : j < nlv T) (hp : pos (ndAt T (2 * j)) = true) : nms T (oth T i).flatten j = if i = j then 0 else 1 := by
  obtain ⟨g1, g2, g3, g4, g5⟩ := ok.wd.facts
  obtain ⟨d1, d2, d3, d4, d5, d6⟩ := up_of g1 hi
  rw [← sd_of g1 hi hj]
  unfold oth prs
  have key : ∀ (us ss : List Nat), us.length = ss.length → (∀ s ∈ ss, s < T.length) → nms T ((((us.zip ss).map fun p => (p.1, rsl T p.2)).filter fun p => !p.2.isEmpty).map (·.2)).flatten j = (ss.filter fun s => wi ((2 * j : Nat) : Int) (s : Nat)).length := by
    intro us
    induction us with
    | nil =>
      intro ss h _
      have : ss = [] := List.eq_nil_of_length_eq_zero (by simpa using h.symm)
      subst this; rfl
    | cons u us ih =>
      intro ss h hs
      cases ss with
      | nil => simp at h
      | cons s ss =>
        have h1 := ih ss (by simpa using h) (fun y hy => hs y (by simp [hy]))
        have hc := covers8 ok hj hp s (hs s (by simp))
        simp only [List.zip_cons_cons, List.map_cons, List.filter_cons]
        by_cases e : rsl T s = []
        · rw [e] at hc ⊢
          rw [nms_nil] at hc
          simp only [List.isEmpty_nil, Bool.not_true, Bool.false_eq_true, if_false]
          rw [h1]
          have : wi ((2 * j : Nat) : Int) (s : Nat) = false := by
            cases q : wi ((2 * j : Nat) : Int) (s : Nat)
            · rfl
            · rw [q] at hc; simp at hc
          rw [this]; rfl
        · have e' : (!(rsl T s).isEmpty) = true := by simp [e]
          rw [if_pos e', List.map_cons, List.flatten_cons, nms_app, hc, h1]
          by_cases q : wi ((2 * j : Nat) : Int) (s : Nat) = true
          · rw [if_pos q, if_pos q, List.length_cons]; omega
          · rw [if_neg q, if_neg q]; omega
  exact key _ _ d3 (fun s hs => by have := d6 s hs; omega)
end Go.Proofs.YtcbafeneaoaglaaGreatDoor

/- Plain facts of trees to which someone comes, and of trees that someone leaves: they may be. No walk is in this text. -/
namespace Go.Proofs.YtcbafeneaoaglaaGreatDoor
open Go.RowKit Go.Maps

theorem unM_mk {T : List Nd} {L : Int} : ∀ {l : List Int} {f : Int}, l.Pairwise (· < ·) → (∀ u ∈ l, f ≤ u ∧ u ≤ L ∧ pos (ndAt T (2 * u.toNat)) = true) → unM T f L l = true
  | [], _, _, _ => rfl
  | u :: us, f, hp, h => by
    have hp := List.pairwise_cons.1 hp
    obtain ⟨h1, h2, h3⟩ := h u (by simp)
    have ih := unM_mk (T := T) (L := L) (l := us) (f := u + 1) hp.2 (fun z hz => by
      have := h z (by simp [hz]); have := hp.1 z hz
      exact ⟨by omega, (h z (by simp [hz])).2⟩)
    simp only [unM, Bool.and_eq_true, decide_eq_true_eq]
    exact ⟨⟨⟨h1, h2⟩, h3⟩, ih⟩
theorem insU_cons (u z : Int) (l : List Int) : insU u (z :: l) = if z < u then z :: insU u l else u :: z :: l := by
  unfold insU
  by_cases c : z < u <;> simp [c]
theorem insU_mem (u x : Int) : ∀ l : List Int, x ∈ insU u l ↔ x = u ∨ x ∈ l
  | [] => by simp [insU]
  | z :: l => by
    rw [insU_cons]
    split
    · rw [List.mem_cons, insU_mem u x l, List.mem_cons]
      constructor
      · rintro (h | h | h) <;> simp [h]
      · rintro (h | h | h) <;> simp [h]
    · simp
theorem insU_sorted (u : Int) : ∀ l : List Int, l.Pairwise (· < ·) → u ∉ l → (insU u l).Pairwise (· < ·)
  | [], _, _ => by simp [insU]
  | z :: l, hp, hn => by
    have hp := List.pairwise_cons.1 hp
    rw [insU_cons]
    have hzu : u ≠ z := fun h => hn (by simp [h])
    have hl : u ∉ l := fun h => hn (by simp [h])
    split
    · refine List.Pairwise.cons (fun x hx => ?_) (insU_sorted u l hp.2 hl)
      rcases (insU_mem u x l).1 hx with rfl | hx
      · assumption
      · exact hp.1 x hx
    · refine List.Pairwise.cons (fun x hx => ?_) (List.Pairwise.cons hp.1 hp.2)
      rcases List.mem_cons.1 hx with rfl | hx
      · omega
      · have := hp.1 x hx; omega
theorem anyM_iff (T : List Nd) (a b : Nat) : anyM T a b = true ↔ ∃ i, a ≤ i ∧ i < b ∧ pos (ndAt T (2 * i)) = true := by
  unfold anyM
  rw [List.any_eq_true]
  constructor
  · rintro ⟨i, hi, h⟩
    simp at h
    exact ⟨i, h.1, List.mem_range.1 hi, h.2⟩
  · rintro ⟨i, h1, h2, h3⟩
    exact ⟨i, List.mem_range.2 h2, by simp [h1, h3]⟩
theorem mems_nodup {T : List Nd} : (mems T).Nodup ↔ ∀ i j, i < j → j < nlv T → pos (ndAt T (2 * i)) = true → pos (ndAt T (2 * j)) = true → (ndAt T (2 * i)).mem ≠ (ndAt T (2 * j)).mem := by
  unfold mems memsOf lvs List.Nodup
  rw [List.pairwise_map, List.pairwise_filter, List.pairwise_map, List.pairwise_iff_getElem]
  simp only [List.length_range, List.getElem_range]
  constructor
  · intro h i j h1 h2; exact h i j (by omega) h2 h1
  · intro h i j h1 h2 h3; exact h i j h3 h2
theorem ndM_all {T : List Nd} (h : mayB T = true) (x : Nat) : ndM T x = true := by
  rcases Nat.lt_or_ge x T.length with c | c
  · exact (mayB_okn h (by omega)).nd x c
  · unfold ndM; rw [ndAt_ge c]; simp [nd0]
theorem nodup_all {T : List Nd} (h : mayB T = true) : (mems T).Nodup := by
  rcases mayB_ok h with rfl | h
  · decide +kernel
  · exact h.nodup
theorem fnd_no {T : List Nd} {m : Int} (h : fnd T m < 0) : ∀ i, i < nlv T → hit m (ndAt T (2 * i)) = false := fun i hi => by
  unfold fnd at h
  split at h
  · omega
  · rename_i c
    have hl := lvs_len T
    have he : (lvs T).findIdx (hit m) = (lvs T).length := by have := List.findIdx_le_length (p := hit m) (xs := lvs T); omega
    have := List.findIdx_eq_length.1 he (ndAt T (2 * i)) (by unfold lvs; exact List.mem_map.2 ⟨i, List.mem_range.2 hi, rfl⟩)
    simpa using this
theorem fb_pos {T : List Nd} {i : Nat} (h : i < fb T) : pos (ndAt T (2 * i)) = true := by
  unfold fb at h
  have hlt : i < (lvs T).length := by have := List.findIdx_le_length (p := fun n => !pos n) (xs := lvs T); omega
  have := List.not_of_lt_findIdx h
  simpa [lvs] using this
theorem len_le (T : List Nd) : T.length ≤ 2 * nlv T := by unfold nlv; omega
theorem fb_blank (T : List Nd) : pos (ndAt T (2 * fb T)) = false := by
  have hle := fb_le T
  rcases Nat.lt_or_ge (fb T) (nlv T) with c | c
  · have := List.findIdx_getElem (p := fun n => !pos n) (xs := lvs T) (w := by rw [lvs_len]; exact c)
    simpa [lvs, fb] using this
  · rw [ndAt_ge (by have := len_le T; omega)]; rfl
theorem addE_ok {T : List Nd} {m e p : Int} (h : addE T m e p = 0) : mayB T = true ∧ 0 ≤ m ∧ 0 ≤ e ∧ 1 ≤ p ∧ fnd T m < 0 ∧ fb T ≠ 8 := by
  unfold addE at h
  split at h
  · omega
  · rename_i c
    split at h
    · omega
    · split at h
      · omega
      · refine ⟨by cases q : mayB T <;> simp_all, ?_, ?_, ?_, by omega, by omega⟩ <;> (simp only [not_or] at c; omega)
theorem add_len (T : List Nd) (m e p : Int) : (addT T m e p).length = 2 * wRoom (nlv T) (fb T) - 1 := by
  unfold addT; rw [onAll_len, List.length_set, fit_len]
theorem add_nlv {T : List Nd} {m e p : Int} (hR : wRoom (nlv T) (fb T) ∈ sizes) : nlv (addT T m e p) = wRoom (nlv T) (fb T) := by
  have : 0 < wRoom (nlv T) (fb T) := by simp [sizes] at hR; omega
  unfold nlv at *; rw [add_len]; unfold nlv; omega
theorem ndAt_add {T : List Nd} {m e p : Int} (hR : wRoom (nlv T) (fb T) ∈ sizes) (hf : fb T < wRoom (nlv T) (fb T)) {y : Nat} (hy : y < 2 * wRoom (nlv T) (fb T) - 1) :
    ndAt (addT T m e p) y = if y % 2 = 0 then (if y = 2 * fb T then ⟨p, m, e, []⟩ else ndAt T y) else if spF (y : Nat) ≤ (fb T : Nat) ∧ (fb T : Nat) ≤ spT (y : Nat) then addU (fb T : Nat) (ndAt T y) else ndAt T y := by
  unfold addT
  obtain ⟨d1, d2, d3, d4, d5, d6⟩ := up_of hR hf
  rw [ndAt_onAll _ _ _ _ d4, List.length_set, fit_len, ndAt_set, fit_len, ndAt_fit hy]
  have hin := up_in hR hf hy
  simp only [hin]
  by_cases c : y % 2 = 0
  · have c1 : ¬ y % 2 = 1 := by omega
    by_cases c2 : 2 * fb T = y
    · simp [c, c2, hy]
    · have c3 : ¬ y = 2 * fb T := fun h => c2 h.symm
      simp [c, c2, c3]
  · have c1 : y % 2 = 1 := by omega
    have c2 : ¬ 2 * fb T = y := by omega
    simp [c1, c2, hy]
theorem ndAt_add_leaf {T : List Nd} {m e p : Int} (hR : wRoom (nlv T) (fb T) ∈ sizes) (hf : fb T < wRoom (nlv T) (fb T)) {i : Nat} (hi : i < wRoom (nlv T) (fb T)) :
    ndAt (addT T m e p) (2 * i) = if i = fb T then ⟨p, m, e, []⟩ else ndAt T (2 * i) := by
  rw [ndAt_add hR hf (by omega), if_pos (by omega)]
  by_cases c : i = fb T
  · simp [c]
  · have : ¬ 2 * i = 2 * fb T := by omega
    simp [c, this]
theorem nd_pub {T : List Nd} (h : mayB T = true) (x : Nat) : pos (ndAt T x) = true → 0 < (ndAt T x).pub := fun hp => by
  have hm := ndM_all h x
  unfold ndM at hm
  have c : ¬ (ndAt T x).pub = 0 := fun h => by unfold pos at hp; simp [h] at hp
  rw [if_neg c] at hm
  by_cases c2 : (ndAt T x).pub < 0
  · rw [if_pos c2] at hm; cases hm
  · omega
theorem ok_add {T : List Nd} {m e p : Int} (h : addE T m e p = 0) : Ok (addT T m e p) := by
  obtain ⟨hm, h0, h1, h2, h3, h4⟩ := addE_ok h
  obtain ⟨hR, hf, h8⟩ := wRoom_sizes hm h4
  have hn := add_nlv (T := T) (m := m) (e := e) (p := p) hR
  have hbl := fb_blank T
  have hp : pos (⟨p, m, e, []⟩ : Nd) = true := by unfold pos; simp; omega
  have hmono : ∀ u : Nat, u < wRoom (nlv T) (fb T) → pos (ndAt T (2 * u)) = true → pos (ndAt (addT T m e p) (2 * u)) = true := fun u hu hh => by
    rw [ndAt_add_leaf hR hf hu]; split
    · exact hp
    · exact hh
  refine ⟨⟨_, hR, add_len T m e p⟩, fun x hx => ?_, ?_, ?_⟩
  · rw [add_len] at hx
    have hT := ndM_all hm x
    have ha := ndAt_add (m := m) (e := e) (p := p) hR hf hx
    obtain ⟨⟨s1, s2, s3, s4⟩, _⟩ := span_of hR hx
    rcases Nat.mod_two_eq_zero_or_one x with c | c
    · rw [if_pos c] at ha
      unfold ndM at hT ⊢
      by_cases c2 : x = 2 * fb T
      · rw [if_pos c2] at ha
        rw [ha, if_neg (show ¬ p = 0 by omega), if_neg (show ¬ p < 0 by omega), if_pos c]
        simp [h0, h1]
      · rw [if_neg c2] at ha
        rw [ha]
        simpa [c] using hT
    · have c' : ¬ x % 2 = 0 := by omega
      rw [if_neg c'] at ha
      by_cases hz : (ndAt T x).pub = 0
      · have hq : pos (ndAt T x) = false := by unfold pos; simp [hz]
        have : ndAt (addT T m e p) x = ndAt T x := by
          rw [ha]; split
          · unfold addU; rw [hq]; simp
          · rfl
        unfold ndM at hT ⊢
        rw [this]
        rw [if_pos hz] at hT ⊢
        exact hT
      · have hq : pos (ndAt T x) = true := by unfold pos; simp [hz]
        have hpp := nd_pub hm x hq
        unfold ndM at hT ⊢
        rw [if_neg hz, if_neg (show ¬ (ndAt T x).pub < 0 by omega), if_neg c'] at hT
        simp only [Bool.and_eq_true] at hT
        obtain ⟨⟨t1, t2⟩, t3⟩ := hT
        obtain ⟨u1, u2⟩ := unM_sorted t3
        obtain ⟨_, u4⟩ := unM_bounds t3
        have base : ∀ u ∈ (ndAt T x).un, spF (x : Nat) ≤ u ∧ u ≤ spT (x : Nat) ∧ pos (ndAt (addT T m e p) (2 * u.toNat)) = true := fun u hu => by
          obtain ⟨a1, a2, a3⟩ := u4 u hu
          exact ⟨a1, a2, hmono _ (by omega) a3⟩
        by_cases c2 : spF (x : Nat) ≤ (fb T : Nat) ∧ (fb T : Nat) ≤ spT (x : Nat)
        · rw [if_pos c2] at ha
          unfold addU at ha
          rw [if_pos hq] at ha
          rw [ha]
          simp only
          rw [if_neg hz, if_neg (show ¬ (ndAt T x).pub < 0 by omega), if_neg c']
          simp only [Bool.and_eq_true]
          refine ⟨⟨t1, t2⟩, unM_mk (insU_sorted _ _ u1 (fun hc => ?_)) (fun u hu => ?_)⟩
          · have := (u4 _ hc).2.2
            rw [Int.toNat_natCast, hbl] at this; cases this
          · rcases (insU_mem _ _ _).1 hu with rfl | hu
            · refine ⟨c2.1, c2.2, ?_⟩
              rw [Int.toNat_natCast, ndAt_add_leaf hR hf hf, if_pos rfl]; exact hp
            · exact base u hu
        · rw [if_neg c2] at ha
          rw [ha]
          rw [if_neg hz, if_neg (show ¬ (ndAt T x).pub < 0 by omega), if_neg c']
          simp only [Bool.and_eq_true]
          exact ⟨⟨t1, t2⟩, unM_mk u1 base⟩
  · rw [mems_nodup, hn]
    intro i j hij hj hpi hpj
    have hd := mems_nodup.1 (nodup_all hm)
    have hnl : ∀ k, pos (ndAt T (2 * k)) = true → k < nlv T := fun k hk => by
      apply Decidable.byContradiction; intro c
      rw [ndAt_ge (by have := len_le T; omega)] at hk; cases hk
    rw [ndAt_add_leaf hR hf (by omega)] at hpi ⊢
    rw [ndAt_add_leaf hR hf hj] at hpj ⊢
    have hno : ∀ k, pos (ndAt T (2 * k)) = true → (ndAt T (2 * k)).mem ≠ m := fun k hk hc => by
      have := fnd_no h3 k (hnl k hk)
      unfold hit at this; rw [hk, hc] at this; simp at this
    by_cases ci : i = fb T
    · rw [if_pos ci] at hpi ⊢
      rw [if_neg (by omega)] at hpj ⊢
      exact fun hc => hno j hpj hc.symm
    · rw [if_neg ci] at hpi ⊢
      by_cases cj : j = fb T
      · rw [if_pos cj] at hpj ⊢
        exact hno i hpi
      · rw [if_neg cj] at hpj ⊢
        exact hd i j hij (hnl j hpj) hpi hpj
  · rw [hn, anyM_iff]
    have hle := fb_le T
    by_cases c : fb T < nlv T
    · have hw : wRoom (nlv T) (fb T) = nlv T := by unfold wRoom; rw [if_pos c]
      have ok := mayB_okn hm (nlv_pos (by omega))
      obtain ⟨i, i1, i2, i3⟩ := (anyM_iff _ _ _).1 ok.right
      exact ⟨i, by omega, by omega, hmono i (by omega) i3⟩
    · refine ⟨fb T, ?_, hf, ?_⟩
      · unfold wRoom; rw [if_neg c]; split <;> omega
      · rw [ndAt_add_leaf hR hf hf, if_pos rfl]; exact hp
theorem mayB_add {T : List Nd} {m e p : Int} (h : addE T m e p = 0) : mayB (addT T m e p) = true := (ok_add h).mayB
end Go.Proofs.YtcbafeneaoaglaaGreatDoor

/- Plain facts of trees that someone leaves. No walk is in this text. -/
namespace Go.Proofs.YtcbafeneaoaglaaGreatDoor
open Go.RowKit Go.Maps

theorem remE_ok {T : List Nd} {m : Int} (h : remE T m = 0) : mayB T = true ∧ ¬ fnd T m < 0 ∧ (mems T).length ≠ 1 := by
  unfold remE at h
  split at h
  · omega
  · rename_i c
    split at h
    · omega
    · split at h
      · omega
      · exact ⟨by cases q : mayB T <;> simp_all, by omega, by omega⟩
theorem blk_len (i : Nat) (T : List Nd) : (blk i T).length = T.length := by unfold blk; rw [onAll_len, List.length_set]
theorem ndAt_blk {T : List Nd} {i : Nat} (hn : nlv T ∈ sizes) (hl : T.length = 2 * nlv T - 1) (hi : i < nlv T) {y : Nat} (hy : y < T.length) :
    ndAt (blk i T) y = if y % 2 = 0 then (if y = 2 * i then nd0 else ndAt T y) else if spF (y : Nat) ≤ (i : Nat) ∧ (i : Nat) ≤ spT (y : Nat) then nd0 else ndAt T y := by
  unfold blk
  obtain ⟨d1, d2, d3, d4, d5, d6⟩ := up_of hn hi
  rw [ndAt_onAll _ _ _ _ d4, List.length_set, ndAt_set]
  have hin := up_in hn hi (show y < 2 * nlv T - 1 by omega)
  simp only [hin]
  by_cases c : y % 2 = 0
  · have c1 : ¬ y % 2 = 1 := by omega
    by_cases c2 : 2 * i = y
    · simp [c, c2, hy]
    · have c3 : ¬ y = 2 * i := fun h => c2 h.symm
      simp [c, c2, c3]
  · have c1 : y % 2 = 1 := by omega
    have c2 : ¬ 2 * i = y := by omega
    simp [c1, c2, hy]
theorem needF_facts (T : List Nd) : ∀ (f n : Nat), n ∈ sizes → n ≤ 2 ^ f → (∀ j, needF f T n ≤ j → j < n → pos (ndAt T (2 * j)) = false) ∧ (needF f T n = 1 ∨ anyM T (needF f T n / 2) (needF f T n) = true) := by
  intro f
  induction f with
  | zero =>
    intro n hn hle
    have : n = 1 := by simp [sizes] at hn; omega
    exact ⟨fun j h1 h2 => by unfold needF at h1; omega, Or.inl this⟩
  | succ f ih =>
    intro n hn hle
    unfold needF
    split
    · rename_i hc
      have h2 : n / 2 ∈ sizes := by simp [sizes] at hn ⊢; omega
      have hp : n / 2 ≤ 2 ^ f := by rw [Nat.pow_succ] at hle; omega
      obtain ⟨i1, i2⟩ := ih (n / 2) h2 hp
      refine ⟨fun j h3 h4 => ?_, i2⟩
      rcases Nat.lt_or_ge j (n / 2) with c | c
      · exact i1 j h3 c
      · cases q : pos (ndAt T (2 * j))
        · rfl
        · have := (anyM_iff T (n / 2) n).2 ⟨j, c, h4, q⟩
          rw [this] at hc; cases hc.2
    · rename_i hc
      refine ⟨fun j h3 h4 => by omega, ?_⟩
      by_cases h1 : n = 1
      · exact Or.inl h1
      · right
        have : 1 < n := by simp [sizes] at hn; omega
        cases q : anyM T (n / 2) n
        · exact absurd ⟨this, q⟩ hc
        · rfl
/-- Who is not alone has company. -/
theorem company {T : List Nd} {i : Nat} (hi : i < nlv T) (hp : pos (ndAt T (2 * i)) = true) (h : (mems T).length ≠ 1) : ∃ j, j < nlv T ∧ j ≠ i ∧ pos (ndAt T (2 * j)) = true := by
  apply Decidable.byContradiction
  intro hc
  apply h
  have hall : ∀ j, j < nlv T → pos (ndAt T (2 * j)) = true → j = i := fun j hj hq => by
    apply Decidable.byContradiction; intro c; exact hc ⟨j, hj, c, hq⟩
  have e : (mems T).length = ((List.range (nlv T)).filter fun j => pos (ndAt T (2 * j))).length := by
    unfold mems memsOf lvs
    rw [List.length_map, List.filter_map, List.length_map]; rfl
  rw [e]
  have hnd : ((List.range (nlv T)).filter fun j => pos (ndAt T (2 * j))).Nodup := List.Nodup.sublist List.filter_sublist List.nodup_range
  have hmem : ∀ x ∈ ((List.range (nlv T)).filter fun j => pos (ndAt T (2 * j))), x = i := fun x hx => by
    obtain ⟨h1, h2⟩ := List.mem_filter.1 hx
    exact hall x (List.mem_range.1 h1) h2
  have hin : i ∈ ((List.range (nlv T)).filter fun j => pos (ndAt T (2 * j))) := List.mem_filter.2 ⟨List.mem_range.2 hi, hp⟩
  generalize ((List.range (nlv T)).filter fun j => pos (ndAt T (2 * j))) = l at *
  match l with
  | [] => cases hin
  | [x] => rfl
  | x :: y :: r =>
    have h1 := hmem x (by simp)
    have h2 := hmem y (by simp)
    have := List.nodup_cons.1 hnd
    exact absurd (by simp [h1, h2]) this.1
/-- What a removal leaves. -/
structure Rm (T R : List Nd) (i : Nat) : Prop where
  ok : Ok R
  n : nlv R ≤ nlv T
  i8 : i < nlv T
  t8 : nlv T ≤ 8
  leaf : ∀ j, j < nlv R → j ≠ i → ndAt R (2 * j) = ndAt T (2 * j)
  gone : i < nlv R → ndAt R (2 * i) = nd0
  above : ∀ y, y < R.length → y % 2 = 1 → spF (y : Nat) ≤ (i : Nat) → (i : Nat) ≤ spT (y : Nat) → ndAt R y = nd0
  beside : ∀ y, y < R.length → y % 2 = 1 → ¬ (spF (y : Nat) ≤ (i : Nat) ∧ (i : Nat) ≤ spT (y : Nat)) → ndAt R y = ndAt T y
  far : ∀ j, nlv R ≤ j → j < nlv T → j ≠ i → pos (ndAt T (2 * j)) = false
theorem rm_of {T : List Nd} {m : Int} (h : remE T m = 0) : ∃ i : Nat, fnd T m = i ∧ hit m (ndAt T (2 * i)) = true ∧ Rm T (remT T m) i := by
  obtain ⟨hm, hf, hl⟩ := remE_ok h
  obtain ⟨i, hfe, hi, hh⟩ := fnd_range hf
  have ok := mayB_okn hm (nlv_pos (by omega))
  obtain ⟨g1, g2, g3, g4, g5⟩ := ok.wd.facts
  have hip : pos (ndAt T (2 * i)) = true := by unfold hit at hh; simp only [Bool.and_eq_true] at hh; exact hh.1
  refine ⟨i, hfe, hh, ?_⟩
  unfold remT
  rw [hfe, Int.toNat_natCast]
  have hB := fun {y} (hy : y < T.length) => ndAt_blk (T := T) (i := i) g1 g2 hi hy
  have hBl := blk_len i T
  have hBn : nlv (blk i T) = nlv T := by unfold nlv; rw [hBl]
  unfold need
  rw [hBn]
  obtain ⟨s1, s2⟩ := needF_sizes (blk i T) 4 (nlv T) g1
  obtain ⟨f1, f2⟩ := needF_facts (blk i T) 4 (nlv T) g1 (by omega)
  generalize needF 4 (blk i T) (nlv T) = n at *
  generalize blk i T = B at *
  have hn0 : 0 < n := by simp [sizes] at s1; omega
  obtain ⟨R, hR⟩ : ∃ R, R = fit (2 * n - 1) B := ⟨_, rfl⟩
  rw [← hR]
  have hRl : R.length = 2 * n - 1 := by rw [hR, fit_len]
  have hRn : nlv R = n := by unfold nlv; rw [hRl]; omega
  have hRB : ∀ y, y < 2 * n - 1 → ndAt R y = ndAt B y := fun y hy => by rw [hR, ndAt_fit hy]
  have hleaf : ∀ j, j < n → j ≠ i → ndAt R (2 * j) = ndAt T (2 * j) := fun j hj hji => by
    rw [hRB _ (by omega), hB (by omega), if_pos (by omega), if_neg (by omega)]
  have hgone : i < n → ndAt R (2 * i) = nd0 := fun hi' => by
    rw [hRB _ (by omega), hB (by omega), if_pos (by omega), if_pos rfl]
  have habove : ∀ y, y < 2 * n - 1 → y % 2 = 1 → spF (y : Nat) ≤ (i : Nat) → (i : Nat) ≤ spT (y : Nat) → ndAt R y = nd0 := fun y hy ho q1 q2 => by
    rw [hRB _ hy, hB (by omega), if_neg (by omega), if_pos ⟨q1, q2⟩]
  have hbeside : ∀ y, y < 2 * n - 1 → y % 2 = 1 → ¬ (spF (y : Nat) ≤ (i : Nat) ∧ (i : Nat) ≤ spT (y : Nat)) → ndAt R y = ndAt T y := fun y hy ho q => by
    rw [hRB _ hy, hB (by omega), if_neg (by omega), if_neg q]
  have hfar : ∀ j, n ≤ j → j < nlv T → j ≠ i → pos (ndAt T (2 * j)) = false := fun j h1 h2 h3 => by
    have := f1 j h1 h2
    rwa [hB (by omega), if_pos (by omega), if_neg (by omega)] at this
  have hnil : ∀ y, ndAt R y = nd0 → ndM R y = true := fun y hy => by unfold ndM; rw [hy]; simp [nd0]
  refine ⟨⟨⟨n, s1, hRl⟩, fun x hx => ?_, ?_, ?_⟩, by omega, hi, g4, by rw [hRn]; exact hleaf, by rw [hRn]; exact hgone, by rw [hRl]; exact habove, by rw [hRl]; exact hbeside, by rw [hRn]; exact hfar⟩
  · rw [hRl] at hx
    have hT := ok.nd x (by omega)
    obtain ⟨⟨p1, p2, p3, p4⟩, _⟩ := span_of s1 hx
    rcases Nat.mod_two_eq_zero_or_one x with c | c
    · obtain ⟨j, rfl⟩ : ∃ j, x = 2 * j := ⟨x / 2, by omega⟩
      by_cases cj : j = i
      · subst cj; exact hnil _ (hgone (by omega))
      · unfold ndM at hT ⊢
        rw [hleaf j (by omega) cj]
        simpa [c] using hT
    · have c' : ¬ x % 2 = 0 := by omega
      by_cases q : spF (x : Nat) ≤ (i : Nat) ∧ (i : Nat) ≤ spT (x : Nat)
      · exact hnil _ (habove x hx c q.1 q.2)
      · have he := hbeside x hx c q
        unfold ndM at hT ⊢
        rw [he]
        split at hT
        · rename_i z; rw [if_pos z]; exact hT
        · rename_i z
          rw [if_neg z]
          split at hT
          · cases hT
          · rename_i z2
            rw [if_neg z2, if_neg c']
            simp only [Bool.and_eq_true] at hT ⊢
            obtain ⟨⟨t1, t2⟩, t3⟩ := hT
            obtain ⟨u1, u2⟩ := unM_sorted t3
            obtain ⟨_, u4⟩ := unM_bounds t3
            refine ⟨⟨t1, t2⟩, unM_mk u1 (fun u hu => ?_)⟩
            obtain ⟨a1, a2, a3⟩ := u4 u hu
            refine ⟨a1, a2, ?_⟩
            rw [hleaf _ (by omega) (by omega)]; exact a3
  · rw [mems_nodup, hRn]
    intro a b hab hb ha' hb'
    have hd := mems_nodup.1 ok.nodup
    have hne : ∀ k, k < n → pos (ndAt R (2 * k)) = true → k ≠ i := fun k hk hp hc => by
      subst hc; rw [hgone hk] at hp; cases hp
    have na := hne a (by omega) ha'
    have nb := hne b hb hb'
    rw [hleaf a (by omega) na] at ha' ⊢
    rw [hleaf b hb nb] at hb' ⊢
    exact hd a b hab (by omega) ha' hb'
  · rw [hRn, anyM_iff]
    rcases f2 with c | c
    · obtain ⟨j, j1, j2, j3⟩ := company hi hip hl
      have : j < n := by
        apply Decidable.byContradiction; intro q
        have := hfar j (by omega) j1 j2
        rw [j3] at this; cases this
      exact ⟨j, by omega, this, by rw [hleaf j this j2]; exact j3⟩
    · obtain ⟨k, k1, k2, k3⟩ := (anyM_iff _ _ _).1 c
      exact ⟨k, k1, k2, by rw [hRB _ (by omega)]; exact k3⟩
/-- Nobody names a leaf that is blank, or no leaf. -/
theorem rsl_no {R : List Nd} (ok : Ok R) {l : Nat} (h : l < nlv R → pos (ndAt R (2 * l)) = false) : ∀ x, x < R.length → ((2 * l : Nat) : Int) ∉ rsl R x ∧ (l : Int) ∉ (ndAt R x).un := by
  obtain ⟨g1, g2, g3, g4, g5⟩ := ok.wd.facts
  have hun : ∀ x, x < R.length → (l : Int) ∉ (ndAt R x).un := fun x hx hc => by
    rcases ndM_un (ok.nd x hx) with e | ⟨ho, _, e⟩
    · rw [e] at hc; cases hc
    · obtain ⟨⟨s1, s2, s3, s4⟩, _⟩ := span_of g1 (show x < 2 * nlv R - 1 by omega)
      have := (unM_bounds e).2 _ hc
      rw [Int.toNat_natCast, h (by omega)] at this; cases this.2.2
  have hpos : ∀ x, x < R.length → pos (ndAt R x) = true → ((2 * l : Nat) : Int) ∉ rsl R x := fun x hx hp hc => by
    rw [rsl_pos hp] at hc
    rcases List.mem_cons.1 hc with e | hc
    · have e : x = 2 * l := by omega
      rw [e, h (by omega)] at hp; cases hp
    · obtain ⟨u, hu, e⟩ := List.mem_map.1 hc
      have : u = (l : Int) := by omega
      rw [this] at hu; exact hun x hx hu
  intro x hx
  refine ⟨?_, hun x hx⟩
  revert x
  rw [g2]
  refine node_ind g1 (fun x hx ho => ?_) (fun x hx ho i1 i2 => ?_)
  · cases hp : pos (ndAt R x)
    · rw [rsl_leaf hp ho]; simp
    · exact hpos x (by omega) hp
  · cases hp : pos (ndAt R x)
    · rw [rsl_par g1 hx hp ho]
      intro hc
      rcases List.mem_append.1 hc with h | h
      · exact i1 h
      · exact i2 h
    · exact hpos x (by omega) hp
end Go.Proofs.YtcbafeneaoaglaaGreatDoor

/- The contracts of SameNodes and SameTree, of two trees that read alike; the document's free and rising. -/
namespace Go.Proofs.YtcbafeneaoaglaaGreatDoor
open Go.RowKit Go.Maps

theorem fb_hit9 {T : List Nd} {i : Nat} (hi : i < nlv T) (hno : ∀ j, j < i → pos (ndAt T (2 * j)) = true) (h : pos (ndAt T (2 * i)) = false) : fb T = i := by
  unfold fb
  rw [List.findIdx_eq (by rw [lvs_len]; exact hi)]
  refine ⟨by simpa [lvs] using h, fun j hj => by simpa [lvs] using hno j hj⟩
theorem fb_none9 {T : List Nd} (hno : ∀ j, j < nlv T → pos (ndAt T (2 * j)) = true) : fb T = nlv T := by
  have e : (lvs T).findIdx (fun n => !pos n) = (lvs T).length := by
    rw [List.findIdx_eq_length]
    intro n hn
    simp only [lvs, List.mem_map, List.mem_range] at hn
    obtain ⟨j, hj, rfl⟩ := hn
    simpa using hno j hj
  unfold fb; rw [e, lvs_len]
set_option maxRecDepth 100000 in
set_option maxHeartbeats 1000000 in
theorem rfree_any {w : World} {v : Value} {T : List Nd} (h : Trd w v T) (hs : T.length ≤ 15) :
    Calls Tryz.prog 87 #[.agg #[v]] w fun e w' => e = .returned (.int .i64 (if fb T < nlv T then (fb T : Nat) else -1)) ∧ Below w.heap.size w w' := by
  obtain ⟨r, hr⟩ : ∃ r : Int, r = if fb T < nlv T then ((fb T : Nat) : Int) else -1 := ⟨_, rfl⟩
  rw [← hr]
  obtain ⟨a, c, rfl⟩ := h.slice
  obtain ⟨-, h2⟩ := h.at
  obtain ⟨w0, hw0⟩ : ∃ w0, w0 = bxw w (.slice a T.length c) := ⟨_, rfl⟩
  have hb0 : Below w.heap.size w w0 := by rw [hw0]; exact bwA _ _
  have c0 : w0.cell? ⟨w.heap.size, 0, none⟩ = some (.slice a T.length c) := by rw [hw0]; exact bx_cell (Below.refl _ _)
  have HW : Hid (w0 = w.alloc (.cells #[.slice a T.length c] 25)) := hw0
  have HC : Hid (∀ x, x < T.length → ∃ b o, a = some ⟨b, o, none⟩ ∧ w0.cell? ⟨b, o + x * 4, none⟩ = some (.int .i64 (ndAt T x).pub)) := fun x hx => by
    obtain ⟨b, o, e, h3⟩ := h2 (by omega)
    exact ⟨b, o, e, by obtain ⟨u, k, _⟩ := h3 w0 hb0 x hx; exact k.c0⟩
  have HN : Hid (nlv T = (T.length + 1) / 2) := rfl
  have HR1 : Hid (∀ i, i < nlv T → (∀ j, j < i → pos (ndAt T (2 * j)) = true) → pos (ndAt T (2 * i)) = false → r = (i : Nat)) := fun i hi h1 h2 => by rw [hr, fb_hit9 hi h1 h2, if_pos hi]
  have HR2 : Hid ((∀ j, j < nlv T → pos (ndAt T (2 * j)) = true) → r = -1) := fun h1 => by rw [hr, fb_none9 h1, if_neg (by omega)]
  have hs1 : (T.length : Int) ≤ 15 := by omega
  clear h h2 hw0 hs hr
  generalize hnn : nlv T = n at *
  clear hnn
  generalize T.length = N at *
  go_enter Tryz.func87, Tryz.ntmps87
  go_upto_region 1 with fail
  rw [← unhide HW]
  go_wp2_with fail
  go_loopw [3] (fun iv wr => ∃ i x : Nat, iv = .int .i64 (x : Int) ∧ Hid (x = 2 * i ∧ i ≤ n ∧ ∀ j, j < i → pos (ndAt T (2 * j)) = true) ∧ wr = w0) (fun iv _ => (N + 2 - (intOf iv)).toNat)
  case atStart => exact ⟨0, 0, rfl, ⟨rfl, by omega, fun j hj => by omega⟩, rfl⟩
  case round =>
    obtain ⟨i, x, rfl, hx, rfl⟩ := hrel
    by_cases hin : x < N
    · have q1 : (x : Int) < (N : Int) := by omega
      have q0 : (0 : Int) ≤ (x : Int) := by omega
      obtain ⟨b, o, rfl, cp⟩ := unhide HC x hin
      have HT : Hid (pos (ndAt T x) = false → r = (i : Nat)) := fun q => by
        have hx' := unhide hx
        have := unhide HN
        exact unhide HR1 i (by omega) hx'.2.2 (by rw [← hx'.1]; exact q)
      have HF : Hid (pos (ndAt T x) = true → x + 2 = 2 * (i + 1) ∧ i + 1 ≤ n ∧ ∀ j, j < i + 1 → pos (ndAt T (2 * j)) = true) := fun q => by
        have hx' := unhide hx
        have := unhide HN
        refine ⟨by omega, by omega, fun j hj => ?_⟩
        rcases Nat.lt_or_ge j i with c | c
        · exact hx'.2.2 j c
        · obtain rfl : j = i := by omega
          rw [← hx'.1]; exact q
      have hxi : (x : Int) / 2 = (i : Int) := by have := (unhide hx).1; omega
      have hh : pos (ndAt T x) = ((ndAt T x).pub != 0) := rfl
      rw [hh] at HT HF
      clear hx hh
      generalize (ndAt T x).pub = p at *
      by_cases k : p = 0
      · obtain rfl : r = (i : Nat) := unhide HT (by simp [k])
        subst k
        clear HT HF HR1 HR2
        go_wp2_with fail
        go_ret
        exact ⟨rfl, hb0⟩
      · have k1 : (p == 0) = false := by simp [k]
        have k2 : decide (p = 0) = false := by simp [k]
        have HX2 := hide (unhide HF (by simp [k]))
        clear HT HF k
        go_wp2_with fail
        go_roundw
        case rel => exact ⟨i + 1, x + 2, by go_num, HX2, by trivial⟩
        case measure => simp [intOf]; omega
    · have q1 : decide ((x : Int) < (N : Int)) = false := decide_eq_false (by omega)
      obtain rfl : r = -1 := unhide HR2 (by
        have hx' := unhide hx
        have := unhide HN
        intro j hj
        exact hx'.2.2 j (by omega))
      clear hx
      go_wp2_with fail
      go_ret
      exact ⟨rfl, hb0⟩
end Go.Proofs.YtcbafeneaoaglaaGreatDoor
