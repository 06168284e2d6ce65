/- What follows of plain trees: a tree stays one; a resolution covers who is below. -/
import Derived.Test.YtjjkhjiiakamaaaDoorTrS
namespace Go.Proofs.YtjjkhjiiakamaaaDoor
open Go.RowKit Go.Maps

theorem wi_of {i x : Nat} (hi : i < 8) (hx : x < 15) : wi ((2 * i : Nat) : Int) (x : Nat) = (decide (spF (x : Nat) ≤ (i : Nat)) && decide ((i : Nat) ≤ spT (x : Nat))) := by
  have h := List.all_eq_true.1 fin_wi x (List.mem_range.2 hx)
  have h := List.all_eq_true.1 h i (List.mem_range.2 hi)
  simpa using h
theorem nms_nil (T : List Nd) (i : Nat) : nms T [] i = 0 := rfl
theorem nms_app (T : List Nd) (a b : List Int) (i : Nat) : nms T (a ++ b) i = nms T a i + nms T b i := by unfold nms; rw [List.filter_append, List.length_append]
theorem nms_cons (T : List Nd) (z : Int) (b : List Int) (i : Nat) : nms T (z :: b) i = (if nm1 T i z = true then 1 else 0) + nms T b i := by
  unfold nms; rw [List.filter_cons]; split <;> simp; omega
/-- Doubled numbers name their own leaves. -/
theorem nms_un (T : List Nd) (i : Nat) : ∀ l : List Int, l.Pairwise (· < ·) → nms T (l.map (2 * ·)) i = if (i : Int) ∈ l then 1 else 0
  | [], _ => rfl
  | u :: us, h => by
    have hp := List.pairwise_cons.1 h
    rw [List.map_cons, nms_cons, nms_un T i us hp.2]
    have e : nm1 T i (2 * u) = decide (u = (i : Int)) := by
      unfold nm1
      have h1 : (2 * u % 2 == 1) = false := by rw [beq_eq_false_iff_ne]; omega
      rw [h1]
      by_cases c : u = (i : Int)
      · rw [decide_eq_true c, c]; simp
      · rw [decide_eq_false c]; simp; omega
    rw [e]
    by_cases c : u = (i : Int)
    · have : (i : Int) ∉ us := fun hm => by have := hp.1 _ hm; omega
      simp [c, this]
    · have c' : ¬ (i : Int) = u := fun h => c h.symm
      simp [c, c']
/-- The resolution of a node names each member below it once, and nobody else. -/
theorem covers8 {T : List Nd} (ok : Ok T) {i : Nat} (hi : i < nlv T) (hp : pos (ndAt T (2 * i)) = true) : ∀ x, x < T.length → nms T (rsl T x) i = if wi ((2 * i : Nat) : Int) (x : Nat) = true then 1 else 0 := by
  obtain ⟨g1, g2, g3, g4, g5⟩ := ok.wd.facts
  rw [g2]
  have hpos : ∀ x, x < 2 * nlv T - 1 → pos (ndAt T x) = true → nms T (rsl T x) i = if wi ((2 * i : Nat) : Int) (x : Nat) = true then 1 else 0 := fun x hx hpx => by
    obtain ⟨⟨s1, s2, s3, s4⟩, _⟩ := span_of g1 hx
    rw [rsl_pos hpx, nms_cons]
    rcases ndM_un (ok.nd x (by omega)) with e | ⟨ho, _, e⟩
    · rw [e, List.map_nil, nms_nil, Nat.add_zero]
      congr 1
      unfold nm1
      rw [Int.toNat_natCast, e]
      simp only [List.not_mem_nil, decide_false, Bool.not_false, Bool.and_true]
      rcases Nat.mod_two_eq_zero_or_one x with c | c
      · have h1 : ((x : Nat) : Int) % 2 = 0 := by omega
        have hs := s4.resolve_left (by omega)
        rw [wi_of (by omega) (by omega), h1]
        by_cases q : x = 2 * i
        · have : ((x : Nat) : Int) = 2 * (i : Int) := by omega
          rw [decide_eq_true (show spF (x : Nat) ≤ (i : Nat) by omega), decide_eq_true (show ((i : Nat) : Int) ≤ spT (x : Nat) by omega)]
          simp [this]
        · have : ¬ ((x : Nat) : Int) = 2 * (i : Int) := by omega
          have hno : ¬ (spF (x : Nat) ≤ (i : Nat) ∧ ((i : Nat) : Int) ≤ spT (x : Nat)) := by omega
          simp only [Bool.and_eq_true, decide_eq_true_eq, Bool.or_eq_true, beq_iff_eq, this, false_or, hno]
          simp
      · have h1 : ((x : Nat) : Int) % 2 = 1 := by omega
        have : ¬ ((x : Nat) : Int) = 2 * (i : Int) := by omega
        rw [h1]
        generalize wi ((2 * i : Nat) : Int) (x : Nat) = wb
        simp [this]
    · obtain ⟨u1, u2⟩ := unM_sorted e
      obtain ⟨_, u4⟩ := unM_bounds e
      rw [nms_un T i _ u1]
      have h1 : ((x : Nat) : Int) % 2 = 1 := by omega
      have hne : ¬ ((x : Nat) : Int) = 2 * (i : Int) := by omega
      have e2 : nm1 T i (x : Nat) = (wi ((2 * i : Nat) : Int) (x : Nat) && !decide ((i : Int) ∈ (ndAt T x).un)) := by
        unfold nm1; rw [Int.toNat_natCast, h1]
        generalize wi ((2 * i : Nat) : Int) (x : Nat) = wb
        simp [hne]
      rw [e2]
      by_cases hm : (i : Int) ∈ (ndAt T x).un
      · have := u4 _ hm
        have hw : wi ((2 * i : Nat) : Int) (x : Nat) = true := by rw [wi_of (by omega) (by omega)]; simp; omega
        rw [hw]; simp [hm]
      · generalize wi ((2 * i : Nat) : Int) (x : Nat) = wb
        simp [hm]
  refine node_ind g1 (fun x hx ho => ?_) (fun x hx ho i1 i2 => ?_)
  · cases hpx : pos (ndAt T x)
    · rw [rsl_leaf hpx ho, nms_nil]
      obtain ⟨⟨s1, s2, s3, s4⟩, _⟩ := span_of g1 hx
      have hs := s4.resolve_left (by omega)
      rw [if_neg]
      rw [wi_of (by omega) (by omega)]
      simp
      intro q1
      by_cases c : x = 2 * i
      · rw [c, hp] at hpx; cases hpx
      · omega
    · exact hpos x hx hpx
  · cases hpx : pos (ndAt T x)
    · rw [rsl_par g1 hx hpx ho, nms_app, i1, i2]
      obtain ⟨a1, a2, a3, a4, a5, a6, a7, a8, a9, a10, a11⟩ := (span_of g1 hx).2.1 ho
      obtain ⟨⟨b1, b2, b3, _⟩, _⟩ := span_of g1 a5
      obtain ⟨⟨c1, c2, c3, _⟩, _⟩ := span_of g1 a6
      rw [wi_of (by omega) (by omega), wi_of (by omega) (by omega), wi_of (by omega) (by omega)]
      simp only [Bool.and_eq_true, decide_eq_true_eq]
      generalize spF (lN x : Nat) = A at *
      generalize spT (lN x : Nat) = A' at *
      generalize spF (rN x : Nat) = C at *
      generalize spT (rN x : Nat) = C' at *
      generalize spF (x : Nat) = D at *
      generalize spT (x : Nat) = D' at *
      split <;> split <;> split <;> omega
    · exact hpos x hx hpx
theorem sd_of {n i j : Nat} (hn : n ∈ sizes) (hi : i < n) (hj : j < n) : ((sdN n i).filter fun s => wi ((2 * j : Nat) : Int) (s : Nat)).length = if i = j then 0 else 1 := by
  have h := List.all_eq_true.1 fin_sd n hn
  have h := List.all_eq_true.1 h i (List.mem_range.2 hi)
  have h := List.all_eq_true.1 h j (List.mem_range.2 hj)
  simpa using h
theorem keepF_nil (x : Int) : keepF [] x = true := by unfold keepF; simp
theorem tgt_nil (T : List Nd) (i : Nat) : tgt T i [] = oth T i := by
  unfold tgt
  have : ∀ l : List Int, l.filter (keepF []) = l := fun l => List.filter_eq_self.2 (fun a _ => keepF_nil a)
  simp [this]
/-- The targets of a leaf name each other member once. -/
theorem covers_all {T : List Nd} (ok : Ok T) {i j : Nat} (hi : i < nlv T) (hj : j < nlv T) (hp : pos (ndAt T (2 * j)) = true) : nms T (oth T i).flatten j = if i = j then 0 else 1 := by
  obtain ⟨g1, g2, g3, g4, g5⟩ := ok.wd.facts
  obtain ⟨d1, d2, d3, d4, d5, d6⟩ := up_of g1 hi
  rw [← sd_of g1 hi hj]
  unfold oth prs
  have key : ∀ (us ss : List Nat), us.length = ss.length → (∀ s ∈ ss, s < T.length) → nms T ((((us.zip ss).map fun p => (p.1, rsl T p.2)).filter fun p => !p.2.isEmpty).map (·.2)).flatten j = (ss.filter fun s => wi ((2 * j : Nat) : Int) (s : Nat)).length := by
    intro us
    induction us with
    | nil =>
      intro ss h _
      have : ss = [] := List.eq_nil_of_length_eq_zero (by simpa using h.symm)
      subst this; rfl
    | cons u us ih =>
      intro ss h hs
      cases ss with
      | nil => simp at h
      | cons s ss =>
        have h1 := ih ss (by simpa using h) (fun y hy => hs y (by simp [hy]))
        have hc := covers8 ok hj hp s (hs s (by simp))
        simp only [List.zip_cons_cons, List.map_cons, List.filter_cons]
        by_cases e : rsl T s = []
        · rw [e] at hc ⊢
          rw [nms_nil] at hc
          simp only [List.isEmpty_nil, Bool.not_true, Bool.false_eq_true, if_false]
          rw [h1]
          have : wi ((2 * j : Nat) : Int) (s : Nat) = false := by
            cases q : wi ((2 * j : Nat) : Int) (s : Nat)
            · rfl
            · rw [q] at hc; simp at hc
          rw [this]; rfl
        · have e' : (!(rsl T s).isEmpty) = true := by simp [e]
          rw [if_pos e', List.map_cons, List.flatten_cons, nms_app, hc, h1]
          by_cases q : wi ((2 * j : Nat) : Int) (s : Nat) = true
          · rw [if_pos q, if_pos q, List.length_cons]; omega
          · rw [if_neg q, if_neg q]; omega
  exact key _ _ d3 (fun s hs => by have := d6 s hs; omega)
end Go.Proofs.YtjjkhjiiakamaaaDoor
