/- Plain facts of who came in just now. No walk is in this text. -/
import Derived.Test.YtjjkhjiiakamaaaDoorTrY2
import Derived.Test.YtjjkhjiiakamaaaDoorTrLawCovers
import Derived.Deep.QuietTactic
import Derived.BigQuiet
namespace Go.Proofs.YtjjkhjiiakamaaaDoor
open Go.RowKit Go.Maps

/-- How often a list has the leaf f. -/
def cz (f : Nat) (l : List Int) : Nat := (l.filter fun z => z == 2 * (f : Int)).length
theorem cz_app (f : Nat) (a b : List Int) : cz f (a ++ b) = cz f a + cz f b := by unfold cz; rw [List.filter_append, List.length_append]
theorem cz_le (f : Nat) (a : List Int) : cz f a ≤ a.length := List.length_filter_le _ _
theorem keepF_one (f : Nat) (z : Int) : keepF [(f : Int)] z = !(z == 2 * (f : Int)) := by
  unfold keepF
  by_cases c : z = 2 * (f : Int)
  · subst c
    have h1 : (2 * (f : Int)) % 2 = 0 := by omega
    have h2 : (2 * (f : Int)) / 2 = (f : Int) := by omega
    simp [h1, h2]
  · have h3 : (z == 2 * (f : Int)) = false := by simp [c]
    rw [h3]
    by_cases h : z % 2 = 0
    · have : ¬ z / 2 = (f : Int) := by omega
      simp [h, this]
    · simp [h]
theorem rsl_node {T : List Nd} (hw : Wd T) : ∀ x, x < T.length → ∀ z ∈ rsl T x, z % 2 = 1 → ∃ y : Nat, z = (y : Int) ∧ y < T.length ∧ pos (ndAt T y) = true := by
  obtain ⟨g1, g2, g3, g4, g5⟩ := hw.facts
  rw [g2]
  have hpos : ∀ x, x < 2 * nlv T - 1 → pos (ndAt T x) = true → ∀ z ∈ rsl T x, z % 2 = 1 → ∃ y : Nat, z = (y : Int) ∧ y < 2 * nlv T - 1 ∧ pos (ndAt T y) = true := fun x hx hp z hz ho => by
    rw [rsl_pos hp] at hz
    rcases List.mem_cons.1 hz with rfl | hz
    · exact ⟨x, rfl, hx, hp⟩
    · obtain ⟨u, hu, rfl⟩ := List.mem_map.1 hz
      omega
  refine node_ind g1 (fun x hx ho => ?_) (fun x hx ho i1 i2 => ?_)
  · cases hp : pos (ndAt T x)
    · rw [rsl_leaf hp ho]; simp
    · exact hpos x hx hp
  · cases hp : pos (ndAt T x)
    · rw [rsl_par g1 hx hp ho]; intro z hz; rcases List.mem_append.1 hz with h | h
      · exact i1 z h
      · exact i2 z h
    · exact hpos x hx hp
/-- Who came in just now is named by its leaf alone. -/
theorem fresh_once {T : List Nd} {m e p : Int} (h : addE T m e p = 0) {i : Nat} (hi : i < nlv (addT T m e p)) (hne : i ≠ fb T) : cz (fb T) (oth (addT T m e p) i).flatten = 1 := by
  obtain ⟨hm, h0, h1, h2, h3, h4⟩ := addE_ok h
  obtain ⟨hR, hf, h8⟩ := wRoom_sizes hm h4
  have hn := add_nlv (T := T) (m := m) (e := e) (p := p) hR
  have ok := ok_add h
  obtain ⟨g1, g2, g3, g4, g5⟩ := ok.wd.facts
  obtain ⟨d1, d2, d3, d4, d5, d6⟩ := up_of g1 hi
  have hp : pos (ndAt (addT T m e p) (2 * fb T)) = true := by
    rw [ndAt_add_leaf hR hf hf, if_pos rfl]; unfold pos; simp; omega
  have hc := covers_all ok hi (by rw [hn]; exact hf) hp
  rw [if_neg hne] at hc
  rw [← hc]
  unfold cz nms
  congr 1
  refine List.filter_congr fun z hz => ?_
  unfold nm1
  have e2 : (z % 2 == 1 && wi ((2 * fb T : Nat) : Int) z && !decide ((fb T : Int) ∈ (ndAt (addT T m e p) z.toNat).un)) = false := by
    by_cases c : z % 2 = 1
    · obtain ⟨l, hl, hzl⟩ := List.mem_flatten.1 hz
      unfold oth at hl
      obtain ⟨pq, hq, rfl⟩ := List.mem_map.1 hl
      obtain ⟨_, _, s, hs, ers⟩ := prs_mem hq
      rw [ers] at hzl
      obtain ⟨y, rfl, hy, hpy⟩ := rsl_node ok.wd s (by have := d6 s (List.of_mem_zip hs).2; omega) z hzl c
      rw [Int.toNat_natCast, wi_of (by omega) (by omega)]
      by_cases q : spF (y : Nat) ≤ (fb T : Nat) ∧ (fb T : Nat) ≤ spT (y : Nat)
      · have ha := ndAt_add (T := T) (m := m) (e := e) (p := p) hR hf (y := y) (by rw [add_len] at hy; exact hy)
        rw [if_neg (show ¬ y % 2 = 0 by omega), if_pos q] at ha
        have hin : (fb T : Int) ∈ (ndAt (addT T m e p) y).un := by
          rw [ha] at hpy ⊢
          unfold addU at hpy ⊢
          by_cases c2 : pos (ndAt T y) = true
          · rw [if_pos c2]; exact (insU_mem _ _ _).2 (Or.inl rfl)
          · rw [if_neg c2] at hpy; exact absurd hpy c2
        simp [hin]
      · have : (decide (spF (y : Nat) ≤ (fb T : Nat)) && decide ((fb T : Nat) ≤ spT (y : Nat))) = false := by
          rw [Bool.and_eq_false_iff, decide_eq_false_iff_not, decide_eq_false_iff_not]; omega
        rw [this]; simp
    · simp [c]
  rw [e2]; simp
theorem keep_step {f : Nat} {m : List Int} {n : Nat} {z : Int} (h : m[n]? = some z) : (z = 2 * (f : Int) → cz f (m.take (n + 1)) = cz f (m.take n) + 1 ∧ ((m.take (n + 1)).filter (keepF [(f : Int)])).length = ((m.take n).filter (keepF [(f : Int)])).length) ∧
    (z ≠ 2 * (f : Int) → cz f (m.take (n + 1)) = cz f (m.take n) ∧ ((m.take (n + 1)).filter (keepF [(f : Int)])).length = ((m.take n).filter (keepF [(f : Int)])).length + 1 ∧ (m.filter (keepF [(f : Int)]))[((m.take n).filter (keepF [(f : Int)])).length]? = some z) := by
  have e1 : m.take (n + 1) = m.take n ++ [z] := by rw [List.take_add_one, h]; rfl
  have e2 : m = m.take n ++ z :: m.drop (n + 1) := by
    have hlt := (List.getElem?_eq_some_iff.1 h).1
    have hz := (List.getElem?_eq_some_iff.1 h).2
    rw [← hz, List.getElem_cons_drop, List.take_append_drop]
  refine ⟨fun hz => ?_, fun hz => ?_⟩
  · have hk : keepF [(f : Int)] z = false := by rw [keepF_one]; simp [hz]
    rw [e1, cz_app, List.filter_append, List.length_append]
    unfold cz
    simp [hz] at hk ⊢
    simp [hk]
  · have hk : keepF [(f : Int)] z = true := by rw [keepF_one]; simp [hz]
    have h0 : cz f [z] = 0 := by unfold cz; simp [hz]
    refine ⟨by rw [e1, cz_app, h0, Nat.add_zero], by rw [e1, List.filter_append, List.length_append]; simp [hk], ?_⟩
    have e3 : m.filter (keepF [(f : Int)]) = (m.take n).filter (keepF [(f : Int)]) ++ z :: (m.drop (n + 1)).filter (keepF [(f : Int)]) := by
      conv => lhs; rw [e2]
      rw [List.filter_append, List.filter_cons, if_pos hk]
    rw [e3, List.getElem?_append_right (Nat.le_refl _), Nat.sub_self]; rfl
theorem bx2_cellZ {w w1 : World} {v : Value} {cs : Array Value} {t : TypeId} (hb : Below ((bxw w v).alloc (.cells cs t)).heap.size ((bxw w v).alloc (.cells cs t)) w1) : w1.cell? ⟨w.heap.size, 0, none⟩ = some v ∧ w1.heap[w.heap.size + 1]? = some (.cells cs t (0, 0)) := by
  have e0 : w1.heap[w.heap.size]? = some (.cells #[v] 24 (0, 0)) := by
    rw [hb.block _ (by simp; omega), Below.heap_alloc _ _ _ (by simp)]; exact heap_alloc_new _ _
  have e1 : w1.heap[w.heap.size + 1]? = some (.cells cs t (0, 0)) := by
    rw [hb.block _ (by simp)]
    have := heap_alloc_new (bxw w v) (.cells cs t)
    simpa using this
  exact ⟨cell_of_blk e0 rfl, e1⟩
end Go.Proofs.YtjjkhjiiakamaaaDoor
