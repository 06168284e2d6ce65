/- Contracts of New, missing, Len, has, mayBe and Get of package term. -/
import Derived.Test.YtpcpcgagiapinaaGreatDoorNTmMem
namespace Go.Proofs.YtpcpcgagiapinaaGreatDoor.Tn
open Go.RowKit Go.Maps
theorem missing_any (b : Nat) (sv : Value) (mb : Nat) (L : List Tm) (w : World) (h : St w b sv mb L) :
    Calls Tryz.prog 63 #[.pointer (some ⟨b, 0, none⟩)] w fun e w' => e = .returned (.bool false) ∧ w' = w := by
  obtain ⟨c0, c1, _⟩ := h.cells
  clear h
  have hq := fun (w : World) => run_eql_map_nil (P := Tryz.prog) w 129 64 3 (some mb) Tryz.underlying129
  go_enter Tryz.func63, Tryz.ntmps63
  go_wp2
  go_ret
  exact ⟨rfl, rfl⟩
theorem St.form {w : World} {b : Nat} {sv : Value} {mb : Nat} {L : List Tm} (h : St w b sv mb L) : ∃ a cap, sv = .slice a L.length cap := by
  rcases h.row.form with ⟨rfl, rfl⟩ | ⟨g, cap, hv, _⟩
  · exact ⟨none, 0, rfl⟩
  · exact ⟨_, cap, hv⟩
theorem len_any (b : Nat) (sv : Value) (mb : Nat) (L : List Tm) (w : World) (h : St w b sv mb L) :
    Calls Tryz.prog 44 #[.pointer (some ⟨b, 0, none⟩)] w fun e w' => e = .returned (.int .i64 (L.length : Int)) ∧ w' = w := by
  have K := missing_any b sv mb L w h
  obtain ⟨c0, c1, _⟩ := h.cells
  obtain ⟨a, cap, rfl⟩ := h.form
  have hl := h.len
  clear h
  go_enter Tryz.func44, Tryz.ntmps44
  go_wp2_with fail
  refine K.mono ?_
  rintro e w ⟨rfl, rfl⟩
  go_wp2
  go_ret
  exact ⟨rfl, rfl⟩
theorem has_of (p : Value) (N : Nat) (x : Int) (w : World) (K : Calls Tryz.prog 44 #[p] w fun e w' => e = .returned (.int .i64 (N : Int)) ∧ w' = w) :
    Calls Tryz.prog 89 #[p, .int .i64 x] w fun e w' => e = .returned (.bool (thr N x)) ∧ w' = w := by
  by_cases h1 : 1 ≤ x
  · have e : thr N x = decide (x ≤ (N : Int)) := by simp [thr, h1]
    rw [e]
    go_enter Tryz.func89, Tryz.ntmps89
    go_wp2_with fail
    refine K.mono ?_
    rintro e w ⟨rfl, rfl⟩
    go_wp2
    go_ret
    exact ⟨rfl, rfl⟩
  · have e : thr N x = false := by simp [thr, h1]
    rw [e]
    clear e K
    go_enter Tryz.func89, Tryz.ntmps89
    go_wp2
    go_ret
    exact ⟨rfl, rfl⟩
theorem has_any (b : Nat) (sv : Value) (mb : Nat) (L : List Tm) (x : Int) (w : World) (h : St w b sv mb L) :
    Calls Tryz.prog 89 #[.pointer (some ⟨b, 0, none⟩), .int .i64 x] w fun e w' => e = .returned (.bool (thr L.length x)) ∧ w' = w :=
  has_of _ _ _ _ (len_any b sv mb L w h)
theorem ret_bool {a b : Bool} (h : a = b) : Ending.returned (.bool a) = .returned (.bool b) := by rw [h]
set_option maxHeartbeats 1000000 in
theorem mayBe_1 (p : Value) (N : Nat) (n x y : Int) (w : World) (KH : ∀ z, Calls Tryz.prog 89 #[p, .int .i64 z] (w.alloc (.cells #[.int .u8 1, .int .i64 n, .int .i64 x, .int .i64 y] 64)) fun e w' => e = .returned (.bool (thr N z)) ∧ w' = (w.alloc (.cells #[.int .u8 1, .int .i64 n, .int .i64 x, .int .i64 y] 64))) :
    Calls Tryz.prog 64 #[p, .agg #[.int .u8 1, .int .i64 n, .int .i64 x, .int .i64 y]] w fun e w' => e = .returned (.bool (may N ⟨1, n, x, y⟩)) ∧ Below w.heap.size w w' := by
  by_cases hn : 0 ≤ n
  · by_cases hx : x = 0
    · subst hx
      by_cases hy : y = 0
      · subst hy
        have e : may N ⟨1, n, 0, 0⟩ = true := by simp [may, hn]
        rw [e]
        clear e KH
        go_enter Tryz.func64, Tryz.ntmps64
        go_wp2_with fail
        go_ret
        exact ⟨rfl, (Below.refl _ _).alloc (Nat.le_refl _) _⟩
      · have zy : (y == 0) = false := by simpa using hy
        have e : may N ⟨1, n, 0, y⟩ = false := by simp [may, hn, hy]
        rw [e]
        clear e KH
        go_enter Tryz.func64, Tryz.ntmps64
        go_wp2_with fail
        go_ret
        exact ⟨rfl, (Below.refl _ _).alloc (Nat.le_refl _) _⟩
    · have zx : (x == 0) = false := by simpa using hx
      have e : may N ⟨1, n, x, y⟩ = false := by simp [may, hn, hx]
      rw [e]
      clear e KH
      go_enter Tryz.func64, Tryz.ntmps64
      go_wp2_with fail
      go_ret
      exact ⟨rfl, (Below.refl _ _).alloc (Nat.le_refl _) _⟩
  · have e : may N ⟨1, n, x, y⟩ = false := by simp [may, hn]
    rw [e]
    clear e KH
    go_enter Tryz.func64, Tryz.ntmps64
    go_wp2_with fail
    go_ret
    exact ⟨rfl, (Below.refl _ _).alloc (Nat.le_refl _) _⟩
set_option maxHeartbeats 1000000 in
theorem mayBe_2 (p : Value) (N : Nat) (n x y : Int) (w : World) (KH : ∀ z, Calls Tryz.prog 89 #[p, .int .i64 z] (w.alloc (.cells #[.int .u8 2, .int .i64 n, .int .i64 x, .int .i64 y] 64)) fun e w' => e = .returned (.bool (thr N z)) ∧ w' = (w.alloc (.cells #[.int .u8 2, .int .i64 n, .int .i64 x, .int .i64 y] 64))) :
    Calls Tryz.prog 64 #[p, .agg #[.int .u8 2, .int .i64 n, .int .i64 x, .int .i64 y]] w fun e w' => e = .returned (.bool (may N ⟨2, n, x, y⟩)) ∧ Below w.heap.size w w' := by
  by_cases hx : x = 0
  · subst hx
    by_cases hy : y = 0
    · subst hy
      have e : may N ⟨2, n, 0, 0⟩ = true := by simp [may]
      rw [e]
      clear e KH
      go_enter Tryz.func64, Tryz.ntmps64
      go_wp2_with fail
      go_ret
      exact ⟨rfl, (Below.refl _ _).alloc (Nat.le_refl _) _⟩
    · have zy : (y == 0) = false := by simpa using hy
      have e : may N ⟨2, n, 0, y⟩ = false := by simp [may, hy]
      rw [e]
      clear e KH
      go_enter Tryz.func64, Tryz.ntmps64
      go_wp2_with fail
      go_ret
      exact ⟨rfl, (Below.refl _ _).alloc (Nat.le_refl _) _⟩
  · have zx : (x == 0) = false := by simpa using hx
    have e : may N ⟨2, n, x, y⟩ = false := by simp [may, hx]
    rw [e]
    clear e KH
    go_enter Tryz.func64, Tryz.ntmps64
    go_wp2_with fail
    go_ret
    exact ⟨rfl, (Below.refl _ _).alloc (Nat.le_refl _) _⟩
set_option maxHeartbeats 1000000 in
theorem mayBe_3 (p : Value) (N : Nat) (n x y : Int) (w : World) (KH : ∀ z, Calls Tryz.prog 89 #[p, .int .i64 z] (w.alloc (.cells #[.int .u8 3, .int .i64 n, .int .i64 x, .int .i64 y] 64)) fun e w' => e = .returned (.bool (thr N z)) ∧ w' = (w.alloc (.cells #[.int .u8 3, .int .i64 n, .int .i64 x, .int .i64 y] 64))) :
    Calls Tryz.prog 64 #[p, .agg #[.int .u8 3, .int .i64 n, .int .i64 x, .int .i64 y]] w fun e w' => e = .returned (.bool (may N ⟨3, n, x, y⟩)) ∧ Below w.heap.size w w' := by
  by_cases hn : n = 0
  · subst hn
    cases hx : thr N x
    · have e : may N ⟨3, 0, x, y⟩ = false := by simp [may, hx]
      rw [e]
      have Kx := KH x
      rw [hx] at Kx
      clear e KH
      go_enter Tryz.func64, Tryz.ntmps64
      go_wp2_with fail
      refine Kx.mono ?_
      rintro e w1 ⟨rfl, rfl⟩
      go_wp2_with fail
      go_ret
      exact ⟨rfl, (Below.refl _ _).alloc (Nat.le_refl _) _⟩
    · cases hy : thr N y
      · have e : may N ⟨3, 0, x, y⟩ = false := by simp [may, hx, hy]
        rw [e]
        have Kx := KH x
        rw [hx] at Kx
        have Ky := KH y
        rw [hy] at Ky
        clear e KH
        go_enter Tryz.func64, Tryz.ntmps64
        go_wp2_with fail
        refine Kx.mono ?_
        rintro e w1 ⟨rfl, rfl⟩
        go_wp2_with fail
        refine Ky.mono ?_
        rintro e w1 ⟨rfl, rfl⟩
        go_wp2_with fail
        go_ret
        exact ⟨rfl, (Below.refl _ _).alloc (Nat.le_refl _) _⟩
      · have e : may N ⟨3, 0, x, y⟩ = true := by simp [may, hx, hy]
        rw [e]
        have Kx := KH x
        rw [hx] at Kx
        have Ky := KH y
        rw [hy] at Ky
        clear e KH
        go_enter Tryz.func64, Tryz.ntmps64
        go_wp2_with fail
        refine Kx.mono ?_
        rintro e w1 ⟨rfl, rfl⟩
        go_wp2_with fail
        refine Ky.mono ?_
        rintro e w1 ⟨rfl, rfl⟩
        go_wp2_with fail
        go_ret
        exact ⟨rfl, (Below.refl _ _).alloc (Nat.le_refl _) _⟩
  · have zn : (n == 0) = false := by simpa using hn
    have e : may N ⟨3, n, x, y⟩ = false := by simp [may, hn]
    rw [e]
    clear e KH
    go_enter Tryz.func64, Tryz.ntmps64
    go_wp2_with fail
    go_ret
    exact ⟨rfl, (Below.refl _ _).alloc (Nat.le_refl _) _⟩
set_option maxHeartbeats 1000000 in
theorem mayBe_6 (p : Value) (N : Nat) (n x y : Int) (w : World) (KH : ∀ z, Calls Tryz.prog 89 #[p, .int .i64 z] (w.alloc (.cells #[.int .u8 6, .int .i64 n, .int .i64 x, .int .i64 y] 64)) fun e w' => e = .returned (.bool (thr N z)) ∧ w' = (w.alloc (.cells #[.int .u8 6, .int .i64 n, .int .i64 x, .int .i64 y] 64))) :
    Calls Tryz.prog 64 #[p, .agg #[.int .u8 6, .int .i64 n, .int .i64 x, .int .i64 y]] w fun e w' => e = .returned (.bool (may N ⟨6, n, x, y⟩)) ∧ Below w.heap.size w w' := by
  by_cases hn : n = 0
  · subst hn
    cases hx : thr N x
    · have e : may N ⟨6, 0, x, y⟩ = false := by simp [may, hx]
      rw [e]
      have Kx := KH x
      rw [hx] at Kx
      clear e KH
      go_enter Tryz.func64, Tryz.ntmps64
      go_wp2_with fail
      refine Kx.mono ?_
      rintro e w1 ⟨rfl, rfl⟩
      go_wp2_with fail
      go_ret
      exact ⟨rfl, (Below.refl _ _).alloc (Nat.le_refl _) _⟩
    · cases hy : thr N y
      · have e : may N ⟨6, 0, x, y⟩ = false := by simp [may, hx, hy]
        rw [e]
        have Kx := KH x
        rw [hx] at Kx
        have Ky := KH y
        rw [hy] at Ky
        clear e KH
        go_enter Tryz.func64, Tryz.ntmps64
        go_wp2_with fail
        refine Kx.mono ?_
        rintro e w1 ⟨rfl, rfl⟩
        go_wp2_with fail
        refine Ky.mono ?_
        rintro e w1 ⟨rfl, rfl⟩
        go_wp2_with fail
        go_ret
        exact ⟨rfl, (Below.refl _ _).alloc (Nat.le_refl _) _⟩
      · have e : may N ⟨6, 0, x, y⟩ = true := by simp [may, hx, hy]
        rw [e]
        have Kx := KH x
        rw [hx] at Kx
        have Ky := KH y
        rw [hy] at Ky
        clear e KH
        go_enter Tryz.func64, Tryz.ntmps64
        go_wp2_with fail
        refine Kx.mono ?_
        rintro e w1 ⟨rfl, rfl⟩
        go_wp2_with fail
        refine Ky.mono ?_
        rintro e w1 ⟨rfl, rfl⟩
        go_wp2_with fail
        go_ret
        exact ⟨rfl, (Below.refl _ _).alloc (Nat.le_refl _) _⟩
  · have zn : (n == 0) = false := by simpa using hn
    have e : may N ⟨6, n, x, y⟩ = false := by simp [may, hn]
    rw [e]
    clear e KH
    go_enter Tryz.func64, Tryz.ntmps64
    go_wp2_with fail
    go_ret
    exact ⟨rfl, (Below.refl _ _).alloc (Nat.le_refl _) _⟩
set_option maxHeartbeats 1000000 in
theorem mayBe_4 (p : Value) (N : Nat) (n x y : Int) (w : World) (KH : ∀ z, Calls Tryz.prog 89 #[p, .int .i64 z] (w.alloc (.cells #[.int .u8 4, .int .i64 n, .int .i64 x, .int .i64 y] 64)) fun e w' => e = .returned (.bool (thr N z)) ∧ w' = (w.alloc (.cells #[.int .u8 4, .int .i64 n, .int .i64 x, .int .i64 y] 64))) :
    Calls Tryz.prog 64 #[p, .agg #[.int .u8 4, .int .i64 n, .int .i64 x, .int .i64 y]] w fun e w' => e = .returned (.bool (may N ⟨4, n, x, y⟩)) ∧ Below w.heap.size w w' := by
  by_cases hn : 0 ≤ n
  · cases hx : thr N x
    · have e : may N ⟨4, n, x, y⟩ = false := by simp [may, hn, hx]
      rw [e]
      have Kx := KH x
      rw [hx] at Kx
      clear e KH
      go_enter Tryz.func64, Tryz.ntmps64
      go_wp2_with fail
      refine Kx.mono ?_
      rintro e w1 ⟨rfl, rfl⟩
      go_wp2_with fail
      go_ret
      exact ⟨rfl, (Below.refl _ _).alloc (Nat.le_refl _) _⟩
    · by_cases hz : y = 0
      · subst hz
        have e : may N ⟨4, n, x, 0⟩ = true := by simp [may, hn, hx]
        rw [e]
        have Kx := KH x
        rw [hx] at Kx
        clear e KH
        go_enter Tryz.func64, Tryz.ntmps64
        go_wp2_with fail
        refine Kx.mono ?_
        rintro e w1 ⟨rfl, rfl⟩
        go_wp2_with fail
        go_ret
        exact ⟨rfl, (Below.refl _ _).alloc (Nat.le_refl _) _⟩
      · have zy : (y == 0) = false := by simpa using hz
        cases hy : thr N y
        · have e : may N ⟨4, n, x, y⟩ = false := by simp [may, hn, hx, hz, hy]
          rw [e]
          have Kx := KH x
          rw [hx] at Kx
          have Ky := KH y
          rw [hy] at Ky
          clear e KH
          go_enter Tryz.func64, Tryz.ntmps64
          go_wp2_with fail
          refine Kx.mono ?_
          rintro e w1 ⟨rfl, rfl⟩
          go_wp2_with fail
          refine Ky.mono ?_
          rintro e w1 ⟨rfl, rfl⟩
          go_wp2_with fail
          go_ret
          exact ⟨rfl, (Below.refl _ _).alloc (Nat.le_refl _) _⟩
        · have e : may N ⟨4, n, x, y⟩ = true := by simp [may, hn, hx, hz, hy]
          rw [e]
          have Kx := KH x
          rw [hx] at Kx
          have Ky := KH y
          rw [hy] at Ky
          clear e KH
          go_enter Tryz.func64, Tryz.ntmps64
          go_wp2_with fail
          refine Kx.mono ?_
          rintro e w1 ⟨rfl, rfl⟩
          go_wp2_with fail
          refine Ky.mono ?_
          rintro e w1 ⟨rfl, rfl⟩
          go_wp2_with fail
          go_ret
          exact ⟨rfl, (Below.refl _ _).alloc (Nat.le_refl _) _⟩
  · have e : may N ⟨4, n, x, y⟩ = false := by simp [may, hn]
    rw [e]
    clear e KH
    go_enter Tryz.func64, Tryz.ntmps64
    go_wp2_with fail
    go_ret
    exact ⟨rfl, (Below.refl _ _).alloc (Nat.le_refl _) _⟩
set_option maxHeartbeats 1000000 in
theorem mayBe_5 (p : Value) (N : Nat) (n x y : Int) (w : World) (KH : ∀ z, Calls Tryz.prog 89 #[p, .int .i64 z] (w.alloc (.cells #[.int .u8 5, .int .i64 n, .int .i64 x, .int .i64 y] 64)) fun e w' => e = .returned (.bool (thr N z)) ∧ w' = (w.alloc (.cells #[.int .u8 5, .int .i64 n, .int .i64 x, .int .i64 y] 64))) :
    Calls Tryz.prog 64 #[p, .agg #[.int .u8 5, .int .i64 n, .int .i64 x, .int .i64 y]] w fun e w' => e = .returned (.bool (may N ⟨5, n, x, y⟩)) ∧ Below w.heap.size w w' := by
  by_cases hn : n = 0
  · subst hn
    cases hx : thr N x
    · have e : may N ⟨5, 0, x, y⟩ = false := by simp [may, hx]
      rw [e]
      have Kx := KH x
      rw [hx] at Kx
      clear e KH
      go_enter Tryz.func64, Tryz.ntmps64
      go_wp2_with fail
      refine Kx.mono ?_
      rintro e w1 ⟨rfl, rfl⟩
      go_wp2_with fail
      go_ret
      exact ⟨rfl, (Below.refl _ _).alloc (Nat.le_refl _) _⟩
    · by_cases hy : y = 0
      · subst hy
        have e : may N ⟨5, 0, x, 0⟩ = true := by simp [may, hx]
        rw [e]
        have Kx := KH x
        rw [hx] at Kx
        clear e KH
        go_enter Tryz.func64, Tryz.ntmps64
        go_wp2_with fail
        refine Kx.mono ?_
        rintro e w1 ⟨rfl, rfl⟩
        go_wp2_with fail
        go_ret
        exact ⟨rfl, (Below.refl _ _).alloc (Nat.le_refl _) _⟩
      · have zy : (y == 0) = false := by simpa using hy
        have e : may N ⟨5, 0, x, y⟩ = false := by simp [may, hx, hy]
        rw [e]
        have Kx := KH x
        rw [hx] at Kx
        clear e KH
        go_enter Tryz.func64, Tryz.ntmps64
        go_wp2_with fail
        refine Kx.mono ?_
        rintro e w1 ⟨rfl, rfl⟩
        go_wp2_with fail
        go_ret
        exact ⟨rfl, (Below.refl _ _).alloc (Nat.le_refl _) _⟩
  · have zn : (n == 0) = false := by simpa using hn
    have e : may N ⟨5, n, x, y⟩ = false := by simp [may, hn]
    rw [e]
    clear e KH
    go_enter Tryz.func64, Tryz.ntmps64
    go_wp2_with fail
    go_ret
    exact ⟨rfl, (Below.refl _ _).alloc (Nat.le_refl _) _⟩
set_option maxHeartbeats 1000000 in
theorem mayBe_7 (p : Value) (N : Nat) (n x y : Int) (w : World) (KH : ∀ z, Calls Tryz.prog 89 #[p, .int .i64 z] (w.alloc (.cells #[.int .u8 7, .int .i64 n, .int .i64 x, .int .i64 y] 64)) fun e w' => e = .returned (.bool (thr N z)) ∧ w' = (w.alloc (.cells #[.int .u8 7, .int .i64 n, .int .i64 x, .int .i64 y] 64))) :
    Calls Tryz.prog 64 #[p, .agg #[.int .u8 7, .int .i64 n, .int .i64 x, .int .i64 y]] w fun e w' => e = .returned (.bool (may N ⟨7, n, x, y⟩)) ∧ Below w.heap.size w w' := by
  by_cases hn : n = 0
  · subst hn
    cases hx : thr N x
    · have e : may N ⟨7, 0, x, y⟩ = false := by simp [may, hx]
      rw [e]
      have Kx := KH x
      rw [hx] at Kx
      clear e KH
      go_enter Tryz.func64, Tryz.ntmps64
      go_wp2_with fail
      refine Kx.mono ?_
      rintro e w1 ⟨rfl, rfl⟩
      go_wp2_with fail
      go_ret
      exact ⟨rfl, (Below.refl _ _).alloc (Nat.le_refl _) _⟩
    · by_cases hy : y = 0
      · subst hy
        have e : may N ⟨7, 0, x, 0⟩ = true := by simp [may, hx]
        rw [e]
        have Kx := KH x
        rw [hx] at Kx
        clear e KH
        go_enter Tryz.func64, Tryz.ntmps64
        go_wp2_with fail
        refine Kx.mono ?_
        rintro e w1 ⟨rfl, rfl⟩
        go_wp2_with fail
        go_ret
        exact ⟨rfl, (Below.refl _ _).alloc (Nat.le_refl _) _⟩
      · have zy : (y == 0) = false := by simpa using hy
        have e : may N ⟨7, 0, x, y⟩ = false := by simp [may, hx, hy]
        rw [e]
        have Kx := KH x
        rw [hx] at Kx
        clear e KH
        go_enter Tryz.func64, Tryz.ntmps64
        go_wp2_with fail
        refine Kx.mono ?_
        rintro e w1 ⟨rfl, rfl⟩
        go_wp2_with fail
        go_ret
        exact ⟨rfl, (Below.refl _ _).alloc (Nat.le_refl _) _⟩
  · have zn : (n == 0) = false := by simpa using hn
    have e : may N ⟨7, n, x, y⟩ = false := by simp [may, hn]
    rw [e]
    clear e KH
    go_enter Tryz.func64, Tryz.ntmps64
    go_wp2_with fail
    go_ret
    exact ⟨rfl, (Below.refl _ _).alloc (Nat.le_refl _) _⟩
set_option maxHeartbeats 1000000 in
theorem mayBe_of (p : Value) (N : Nat) (k n x y : Int) (w : World) (KH : ∀ z, Calls Tryz.prog 89 #[p, .int .i64 z] (w.alloc (.cells #[.int .u8 k, .int .i64 n, .int .i64 x, .int .i64 y] 64)) fun e w' => e = .returned (.bool (thr N z)) ∧ w' = (w.alloc (.cells #[.int .u8 k, .int .i64 n, .int .i64 x, .int .i64 y] 64))) :
    Calls Tryz.prog 64 #[p, .agg #[.int .u8 k, .int .i64 n, .int .i64 x, .int .i64 y]] w fun e w' => e = .returned (.bool (may N ⟨k, n, x, y⟩)) ∧ Below w.heap.size w w' := by
  by_cases h1 : k = 1
  · subst h1
    exact mayBe_1 p N n x y w KH
  by_cases h2 : k = 2
  · subst h2
    exact mayBe_2 p N n x y w KH
  by_cases h3 : k = 3
  · subst h3
    exact mayBe_3 p N n x y w KH
  by_cases h6 : k = 6
  · subst h6
    exact mayBe_6 p N n x y w KH
  by_cases h4 : k = 4
  · subst h4
    exact mayBe_4 p N n x y w KH
  by_cases h5 : k = 5
  · subst h5
    exact mayBe_5 p N n x y w KH
  by_cases h7 : k = 7
  · subst h7
    exact mayBe_7 p N n x y w KH
  have e : may N ⟨k, n, x, y⟩ = false := by simp [may, h1, h2, h3, h6, h4, h5, h7]
  rw [e]
  clear e KH
  have z1 : (k == 1) = false := by simpa using h1
  have z2 : (k == 2) = false := by simpa using h2
  have z3 : (k == 3) = false := by simpa using h3
  have z6 : (k == 6) = false := by simpa using h6
  have z4 : (k == 4) = false := by simpa using h4
  have z5 : (k == 5) = false := by simpa using h5
  have z7 : (k == 7) = false := by simpa using h7
  go_enter Tryz.func64, Tryz.ntmps64
  go_wp2
  go_ret
  exact ⟨rfl, (Below.refl _ _).alloc (Nat.le_refl _) _⟩
theorem mayBe_any (b : Nat) (sv : Value) (mb : Nat) (L : List Tm) (k n x y : Int) (w : World) (h : St w b sv mb L) :
    Calls Tryz.prog 64 #[.pointer (some ⟨b, 0, none⟩), .agg #[.int .u8 k, .int .i64 n, .int .i64 x, .int .i64 y]] w fun e w' => e = .returned (.bool (may L.length ⟨k, n, x, y⟩)) ∧ Below w.heap.size w w' :=
  mayBe_of _ _ k n x y w fun z => has_any b sv mb L z _ (h.bw ((Below.refl w.heap.size w).alloc (Nat.le_refl _) _))
end Go.Proofs.YtpcpcgagiapinaaGreatDoor.Tn
