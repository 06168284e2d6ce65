/- Contracts of package store: tooLong, owned. -/
import Derived.Test.YtfnpeiikjiffeaaGreatStMem
import Derived.Test.YtfnpeiikjiffeaaGreatWiRdD
namespace Go.Proofs.YtfnpeiikjiffeaaGreat
open Go.RowKit Go.Maps

set_option maxRecDepth 100000 in
theorem tooLong_any (p : PP) (w : World) (h1 : p.n.size ≤ 140737488355328) (h2 : p.t.size ≤ 140737488355328) : Calls Tryz.prog 26 #[pairV p] w fun e w' => e = .returned (.bool (longB p)) ∧ Below w.heap.size w w' := by
  obtain ⟨n, t, g⟩ := p
  simp only [pairV, longB] at *
  by_cases a : 65536 < n.size
  · have ai : (65536 : Int) < (n.size : Int) := by omega
    rw [decide_eq_true a]
    go_enter Tryz.func26, Tryz.ntmps26
    go_wp2
    go_ret
    exact ⟨by simp, (Below.refl _ _).alloc (Nat.le_refl _) _⟩
  · have ai : ¬ (65536 : Int) < (n.size : Int) := by omega
    rw [decide_eq_false a]
    by_cases b : 65536 < t.size
    · have bi : (65536 : Int) < (t.size : Int) := by omega
      rw [decide_eq_true b]
      go_enter Tryz.func26, Tryz.ntmps26
      go_wp2
      go_ret
      exact ⟨by simp, (Below.refl _ _).alloc (Nat.le_refl _) _⟩
    · have bi : ¬ (65536 : Int) < (t.size : Int) := by omega
      rw [decide_eq_false b]
      go_enter Tryz.func26, Tryz.ntmps26
      go_wp2
      go_ret
      exact ⟨by simp, (Below.refl _ _).alloc (Nat.le_refl _) _⟩
theorem cells_new3 (w : World) (x y z : Value) (t : TypeId) : (w.alloc (.cells #[x, y, z] t)).cell? ⟨w.heap.size, 0, none⟩ = some x ∧ (w.alloc (.cells #[x, y, z] t)).cell? ⟨w.heap.size, 1, none⟩ = some y ∧ (w.alloc (.cells #[x, y, z] t)).cell? ⟨w.heap.size, 2, none⟩ = some z := by simp [go_sem]
theorem set3_same (z : World) {c : Nat} {u0 u1 u2 : Value} (h0 : (z.cell? ⟨c, 0, none⟩).isSome = true) (h1 : (z.cell? ⟨c, 1, none⟩).isSome = true) (h2 : (z.cell? ⟨c, 2, none⟩).isSome = true) :
    (((z.setCell ⟨c, 0, none⟩ u0).setCell ⟨c, 1, none⟩ u1).setCell ⟨c, 2, none⟩ u2).cell? ⟨c, 0, none⟩ = some u0 ∧ (((z.setCell ⟨c, 0, none⟩ u0).setCell ⟨c, 1, none⟩ u1).setCell ⟨c, 2, none⟩ u2).cell? ⟨c, 1, none⟩ = some u1 ∧ (((z.setCell ⟨c, 0, none⟩ u0).setCell ⟨c, 1, none⟩ u1).setCell ⟨c, 2, none⟩ u2).cell? ⟨c, 2, none⟩ = some u2 := by
  refine ⟨?_, ?_, ?_⟩ <;> simp [go_sem, h0, h1, h2]
theorem set3_other (z : World) {b c : Nat} (h : b ≠ c) (k : Nat) (u0 u1 u2 : Value) : (((z.setCell ⟨c, 0, none⟩ u0).setCell ⟨c, 1, none⟩ u1).setCell ⟨c, 2, none⟩ u2).cell? ⟨b, k, none⟩ = z.cell? ⟨b, k, none⟩ := by
  have e : (((z.setCell ⟨c, 0, none⟩ u0).setCell ⟨c, 1, none⟩ u1).setCell ⟨c, 2, none⟩ u2).heap[b]? = z.heap[b]? := by
    rw [Below.heap_setCell _ _ _ _ h, Below.heap_setCell _ _ _ _ h, Below.heap_setCell _ _ _ _ h]
  simp [World.cell?, e]
set_option maxRecDepth 100000 in
set_option maxHeartbeats 2000000 in
theorem owned_any (p : PP) (w : World) (h1 : p.n.size ≤ 140737488355328) (h2 : p.t.size ≤ 140737488355328) : Calls Tryz.prog 68 #[pairV p] w fun e w' => e = .returned (pairV ⟨p.n, p.t, false⟩) ∧ Below w.heap.size w w' := by
  obtain ⟨n, t, g⟩ := p
  simp only [pairV] at *
  have K1 := hide (fun X => Wi.clone_any n X (by omega))
  have K2 := hide (fun X => Wi.clone_any t X (by omega))
  clear h1 h2
  obtain ⟨X, hX⟩ : ∃ X, X = (w.alloc (.cells #[.string n, .string t, .bool g] 48)).alloc (.cells #[.string ⟨#[]⟩, .string ⟨#[]⟩, .bool false] 48) := ⟨_, rfl⟩
  have qX : X.heap[w.heap.size]? = some (.cells #[.string n, .string t, .bool g] 48 (0, 0)) := by rw [hX, Below.heap_alloc _ _ _ (by simp)]; exact heap_alloc_new _ _
  have bX : Below w.heap.size w X := by rw [hX]; exact bw_tr (bw_alloc _ _) (bw_alloc _ _)
  have hXs : X.heap.size = w.heap.size + 2 := by rw [hX]; simp
  have HC : Hid (∀ Y, Below X.heap.size X Y → Y.cell? ⟨w.heap.size, 0, none⟩ = some (.string n) ∧ Y.cell? ⟨w.heap.size, 1, none⟩ = some (.string t)) := fun Y hY => by
    have q' : Y.heap[w.heap.size]? = _ := (hY.block _ (lt_of_blk qX)).trans qX
    exact ⟨by simp [World.cell?, q'], by simp [World.cell?, q']⟩
  have qX2 : X.heap[w.heap.size + 1]? = some (.cells #[.string ⟨#[]⟩, .string ⟨#[]⟩, .bool false] 48 (0, 0)) := by rw [hX]; have := heap_alloc_new (w.alloc (.cells #[.string n, .string t, .bool g] 48)) (.cells #[.string ⟨#[]⟩, .string ⟨#[]⟩, .bool false] 48); simpa using this
  have HC2 : Hid (∀ Y, Below X.heap.size X Y → (Y.cell? ⟨w.heap.size + 1, 0, none⟩ = some (.string ⟨#[]⟩) ∧ Y.cell? ⟨w.heap.size + 1, 1, none⟩ = some (.string ⟨#[]⟩) ∧ Y.cell? ⟨w.heap.size + 1, 2, none⟩ = some (.bool false)) ∧ Y.frozen? ⟨w.heap.size + 1, 0, none⟩ = false ∧ Y.frozen? ⟨w.heap.size + 1, 1, none⟩ = false ∧ Y.frozen? ⟨w.heap.size + 1, 2, none⟩ = false) := fun Y hY => by
    have q' : Y.heap[w.heap.size + 1]? = _ := (hY.block _ (lt_of_blk qX2)).trans qX2
    refine ⟨⟨?_, ?_, ?_⟩, ?_, ?_, ?_⟩ <;> simp [World.cell?, World.frozen?, q']
  obtain ⟨c0, c1⟩ := unhide HC X (Below.refl _ _)
  obtain ⟨d0, d1⟩ := unhide HC X.drew (bw_drew _)
  have HXe := hide hX
  have HBX := hide (And.intro bX hXs)
  have K1f := hide (unhide K1 X.drew)
  clear K1 qX bX hXs qX2
  go_enter Tryz.func68, Tryz.ntmps68
  go_wp2_with fail
  rw [← unhide HXe]
  clear hX
  go_region_held3 (fun w' : World => w'.cell? ⟨w.heap.size, 0, none⟩ = some (.string n) ∧ w'.cell? ⟨w.heap.size, 1, none⟩ = some (.string t)) (first | exact ⟨c0, c1⟩ | exact ⟨d0, d1⟩ | exact p1 | exact p2 | exact ⟨(set3_other _ (Nat.ne_of_lt (Nat.lt_succ_self _)) _ _ _ _).trans p2.1, (set3_other _ (Nat.ne_of_lt (Nat.lt_succ_self _)) _ _ _ _).trans p2.2⟩) (first
      | (go_at_call 91; with_reducible refine (unhide K1f).mono ?_; rintro e z1 ⟨rfl, b1⟩; have p1 := unhide HC z1 (bw_tr (bw_drew X) b1); have K2f := hide (unhide K2 z1))
      | (go_at_call 91; with_reducible refine (unhide K2f).mono ?_; rintro e z2 ⟨rfl, b2⟩; have p2 := unhide HC z2 (bw_tr (bw_tr (bw_drew X) b1) b2); obtain ⟨⟨g0, g1, g2⟩, f0, f1, f2⟩ := unhide HC2 z2 (bw_tr (bw_tr (bw_drew X) b1) b2)))
  all_goals
    obtain ⟨Z, hZ⟩ : ∃ Z, Z = (((z2.setCell ⟨w.heap.size + 1, 0, none⟩ (.string n)).setCell ⟨w.heap.size + 1, 1, none⟩ (.string t)).setCell ⟨w.heap.size + 1, 2, none⟩ (.bool false)) := ⟨_, rfl⟩
    rw [← hZ]
    have uu := set3_same z2 (c := w.heap.size + 1) (u0 := .string n) (u1 := .string t) (u2 := .bool false) (by rw [g0]; rfl) (by rw [g1]; rfl) (by rw [g2]; rfl)
    rw [← hZ] at uu
    obtain ⟨u0, u1, u2⟩ := uu
    have HB : Hid (Below w.heap.size w Z) := by
      have h1 : Below w.heap.size w z2 := (unhide HBX).1.trans (bw_mono (bw_tr (bw_tr (bw_drew X) b1) b2) (by rw [(unhide HBX).2]; omega))
      rw [hZ]
      exact ((h1.setCell (p := ⟨w.heap.size + 1, 0, none⟩) (by simp) _).setCell (p := ⟨w.heap.size + 1, 1, none⟩) (by simp) _).setCell (p := ⟨w.heap.size + 1, 2, none⟩) (by simp) _
    clear hZ p1 p2 b1 b2 g0 g1 g2 f0 f1 f2 c0 c1 d0 d1 HC HC2 HXe
    go_wp2_with fail
    refine bodyPost_ret (v := .agg #[.string n, .string t, .bool false]) (by simp [results, Tryz.results68, go_sem, u0, u1, u2]) rfl ?_
    exact ⟨rfl, unhide HB⟩
end Go.Proofs.YtfnpeiikjiffeaaGreat
