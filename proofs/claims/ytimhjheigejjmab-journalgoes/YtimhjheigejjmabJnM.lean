/- Contracts of package journal: put, Put. -/
import Derived.Test.YtimhjheigejjmabJnL
import Derived.Test.YtimhjheigejjmabWiClone
namespace Go.Proofs.Ytimhjheigejjmab
open Go.RowKit Go.Maps

theorem jr_set {w W : World} {d : Nat} {S : DS} {rs : List Res} {jb n : Nat} {t : ByteArray} {lost : Bool} (h : ED w W d S (jr jb d n t lost :: rs)) (k : Nat) (v : Value) {n' : Nat} {t' : ByteArray} {lost' : Bool} (hv : Obj.cells ((#[.pointer (some ⟨d, 0, none⟩), .int .i64 (n : Int), .string t, .bool lost] : Array Value).setIfInBounds k v) 67 (0, 0) = jc d n' t' lost') : ED w (W.setCell ⟨jb, k, none⟩ v) d S (jr jb d n' t' lost' :: rs) := by
  refine ED.setBs h rfl ((Fr.refl _ W).setCell (Or.inr (by simp)) _) ?_
  intro p hp; simp at hp; subst hp
  rw [← hv]; exact setc_blk (jr_blk h)
theorem put_down {w W : World} {d : Nat} {S : DS} {rs : List Res} {jb n : Nat} {t : ByteArray} {lost : Bool} (h : ED w W d S (jr jb d n t lost :: rs)) (hd : lost = true ∨ S.up = false) (s : ByteArray) :
    Calls Try.prog 57 #[.pointer (some ⟨jb, 0, none⟩), .string s] W fun e W' => e = .returned (.int .i64 6) ∧ W' = W := by
  have KR := hide (jready_any h)
  rw [if_pos hd] at KR
  clear h hd
  go_enter Try.func57, Try.ntmps57
  go_wp2_with (go_at_call 61; refine (unhide KR).mono ?_; rintro e w1 ⟨rfl, rfl⟩)
  go_ret
  exact ⟨rfl, rfl⟩
theorem put_full {w W : World} {d : Nat} {S : DS} {rs : List Res} {jb n : Nat} {t : ByteArray} (h : ED w W d S (jr jb d n t false :: rs)) (hu : S.up = true) (h2 : 2 ≤ S.N) (s : ByteArray) (hs : (S.N - 2) / 2 * 64 < s.size) :
    Calls Try.prog 57 #[.pointer (some ⟨jb, 0, none⟩), .string s] W fun e W' => e = .returned (.int .i64 5) ∧ W' = W := by
  have KR := hide (jready_any h)
  rw [if_neg (by simp [hu])] at KR
  have KM := hide (jRoom_any h h2)
  obtain ⟨c0, c1, c2, c3, -⟩ := jr_cells (jr_blk h)
  have hlt : (((S.N - 2) / 2 * 64 : Nat) : Int) < (s.size : Int) := by omega
  generalize (S.N - 2) / 2 * 64 = rm at *
  clear h hs
  go_enter Try.func57, Try.ntmps57
  go_wp2_with (first | (go_at_call 61; refine (unhide KR).mono ?_; rintro e w1 ⟨rfl, rfl⟩) | (go_at_call 23; refine (unhide KM).mono ?_; rintro e w1 ⟨rfl, rfl⟩))
  go_ret
  exact ⟨rfl, rfl⟩
set_option maxRecDepth 100000 in
set_option maxHeartbeats 4000000 in
theorem put_go {w W : World} {d : Nat} {S : DS} {rs : List Res} {jb n : Nat} {t : ByteArray} (h : ED w W d S (jr jb d n t false :: rs)) (hsol : ∀ r ∈ rs, Solid r) (hu : S.up = true) (h4 : 4 ≤ S.N) (hn : n ≤ 4611686018427387000) (s : ByteArray) (hs : s.size ≤ (S.N - 2) / 2 * 64) (hcnt : S.cnt ≤ 1000000) (hsin : S.since.length ≤ 1000000) :
    Calls Try.prog 57 #[.pointer (some ⟨jb, 0, none⟩), .string s] W fun e W' => ∃ S' x, e = .returned (.int .i64 x) ∧ Saved S (n + 1) s S' x ∧ ED w W' d S' (jr jb d (if x = 0 then n + 1 else n) (if x = 0 then s else t) false :: rs) := by
  have hN := h.ok.n2
  have KR := hide (jready_any h)
  rw [if_neg (by simp [hu])] at KR
  have KM := hide (jRoom_any h (by omega))
  obtain ⟨c0, c1, c2, c3, -⟩ := jr_cells (jr_blk h)
  have hlt : ¬ ((((S.N - 2) / 2 * 64 : Nat) : Int) < (s.size : Int)) := by omega
  have hsz : (s.size : Int) ≤ 1000000 := by omega
  have hn2 : (n : Int) ≤ 4611686018427387000 := by omega
  obtain ⟨W1, hW1⟩ : ∃ X, X = W.alloc (.cells #[.int .i64 ((n + 1 : Nat) : Int), .int .i64 (s.size : Int)] 89) := ⟨_, rfl⟩
  have q1 : W1.heap[W.heap.size]? = some (.cells #[.int .i64 ((n + 1 : Nat) : Int), .int .i64 (s.size : Int)] 89 (0, 0)) := by rw [hW1]; exact heap_alloc_new _ _
  have E1 : ED w W1 d S (resBs [(W.heap.size, .cells #[.int .i64 ((n + 1 : Nat) : Int), .int .i64 (s.size : Int)] 89 (0, 0))] :: jr jb d n t false :: rs) := h.addBs _ (by rw [hW1]; exact bw_alloc _ _) (by intro p hp; simp at hp; subst hp; exact q1) (by intro p hp; simp at hp; subst hp; exact Nat.le_refl _)
  have KS := hide (save_any E1.drew (by
    intro r hr
    rcases List.mem_cons.1 hr with rfl | hr
    · exact solid_Bs (by intro p hp; simp at hp; subst hp; rfl)
    rcases List.mem_cons.1 hr with rfl | hr
    · exact jr_solid _ _ _ _ _
    · exact hsol r hr) h4 (n + 1) (by omega) s hs hcnt hsin)
  have HX : Hid (∀ (Y : World) (T : DS), ED w Y d T (resBs [(W.heap.size, .cells #[.int .i64 ((n + 1 : Nat) : Int), .int .i64 (s.size : Int)] 89 (0, 0))] :: jr jb d n t false :: rs) → (Y.cell? ⟨W.heap.size, 0, none⟩ = some (.int .i64 ((n + 1 : Nat) : Int)) ∧ Y.cell? ⟨W.heap.size, 1, none⟩ = some (.int .i64 (s.size : Int)) ∧ Y.cell? ⟨jb, 0, none⟩ = some (.pointer (some ⟨d, 0, none⟩))) ∧ Y.cell? ⟨jb, 1, none⟩ = some (.int .i64 (n : Int)) ∧ Y.cell? ⟨jb, 2, none⟩ = some (.string t) ∧ (∀ k, Y.frozen? ⟨jb, k, none⟩ = false)) := by
    intro Y T hY
    have q := ED.bs hY (W.heap.size, _) (by simp; rfl)
    obtain ⟨x0, x1, x2, x3, x4⟩ := jr_cells (jr_blk hY.drop1)
    exact ⟨⟨by simp [World.cell?, q], by simp [World.cell?, q], x0⟩, x1, x2, x4⟩
  obtain ⟨⟨d0, d1, d2⟩, d3, d4, -⟩ := unhide HX _ _ E1
  obtain ⟨⟨e0, e1, e2⟩, e3, e4, -⟩ := unhide HX _ _ E1.drew
  have ec : ((n + 1 : Nat) : Int) = (n : Int) + 1 := by omega
  rw [ec] at hW1 KS d0 e0
  simp only [ec] at HX
  have HW1 := hide hW1
  have hw : IntKind.i64.wrap ((n : Int) + 1) = (n : Int) + 1 := by rw [wrap_i64 (by omega) (by omega)]
  have hsl : s.size ≤ 281474976710656 := by omega
  clear h hs E1 q1 hsol hu
  generalize hrm : (S.N - 2) / 2 * 64 = rm at *
  have hf1 : ((n : Int) == 9223372036854775807) = false := by simp; omega
  have hf2 : decide (rm < s.size) = false := by simp; omega
  have hf3 : ¬ ((n : Int) = 9223372036854775807) := by omega
  have hf4 : ¬ (rm < s.size) := by omega
  clear hrm hcnt hsin hN h4 ec
  go_enter Try.func57, Try.ntmps57
  go_wp2_with (first | (go_at_call 61; refine (unhide KR).mono ?_; rintro e w1 ⟨rfl, rfl⟩) | (go_at_call 23; refine (unhide KM).mono ?_; rintro e w1 ⟨rfl, rfl⟩))
  rw [← unhide HW1]
  clear hW1
  go_region_held3 (fun w' : World => w'.cell? ⟨w1.heap.size, 0, none⟩ = some (.int .i64 ((n : Int) + 1)) ∧ w'.cell? ⟨w1.heap.size, 1, none⟩ = some (.int .i64 (s.size : Int)) ∧ w'.cell? ⟨jb, 0, none⟩ = some (.pointer (some ⟨d, 0, none⟩))) (first | exact ⟨d0, d1, d2⟩ | exact ⟨e0, e1, e2⟩ | exact p5) (first
      | (go_at_call 73; with_reducible refine (unhide KS).mono ?_; rintro e w5 ⟨T, x, rfl, hsv, E5⟩; have p5 := (unhide HX _ _ E5).1))
  all_goals
    obtain ⟨⟨g0, g1, g2⟩, g3, g4, g5⟩ := unhide HX _ _ E5
    clear p5 d0 d1 d2 d3 d4 e0 e1 e2 e3 e4 c0 c1 c2 c3 KR KM KS HX
    by_cases hx : x = 0
    · subst hx
      have E6 : ED w (w5.setCell ⟨jb, 1, none⟩ (.int .i64 ((n : Int) + 1))) d T (jr jb d (n + 1) t false :: rs) := jr_set E5.drop1 1 (.int .i64 ((n : Int) + 1)) rfl
      have HF : Hid (∀ Y, Below (w5.setCell ⟨jb, 1, none⟩ (.int .i64 ((n : Int) + 1))).heap.size (w5.setCell ⟨jb, 1, none⟩ (.int .i64 ((n : Int) + 1))) Y → (Y.cell? ⟨jb, 2, none⟩ = some (.string t) ∧ Y.frozen? ⟨jb, 2, none⟩ = false) ∧ ED w (Y.setCell ⟨jb, 2, none⟩ (.string s)) d T (jr jb d (n + 1) s false :: rs)) := fun Y hY => by
        have E7 := E6.new hY
        obtain ⟨x0, x1, x2, x3, x4⟩ := jr_cells (jr_blk E7)
        exact ⟨⟨x2, x4 2⟩, jr_set E7 2 (.string s) rfl⟩
      have HSV := hide hsv
      have KC := hide (Wi.clone_any s (w5.setCell ⟨jb, 1, none⟩ (.int .i64 ((n : Int) + 1))) hsl)
      have f1 := g5 1
      clear E5 E6 g5 hsv
      go_wp2_with (go_at_call 74; refine (unhide KC).mono ?_; rintro e y2 ⟨rfl, by2⟩; obtain ⟨⟨m0, m1⟩, m2⟩ := unhide HF y2 by2; have M2 := hide m2; clear m2)
      go_ret
      exact ⟨T, 0, rfl, unhide HSV, unhide M2⟩
    · have hne1 : (x != 0) = true := by simp [hx]
      have hne2 : (x == 0) = false := by simp [hx]
      have hne3 : decide (x = 0) = false := by simp [hx]
      have HF : Hid (∃ S' y, Ending.returned (.int .i64 x) = .returned (.int .i64 y) ∧ Saved S (n + 1) s S' y ∧ ED w w5 d S' (jr jb d (if y = 0 then n + 1 else n) (if y = 0 then s else t) false :: rs)) := ⟨T, x, rfl, hsv, by rw [if_neg hx, if_neg hx]; exact E5.drop1⟩
      clear hsv E5 g5
      go_wp2_with fail
      go_ret
      exact unhide HF
/-- What is left of a Journal by a Put that was tried. -/
theorem Put_down {w W : World} {d : Nat} {S : DS} {rs : List Res} {jb n : Nat} {t : ByteArray} {lost : Bool} (h : ED w W d S (jr jb d n t lost :: rs)) (hd : lost = true ∨ S.up = false) (s : ByteArray) :
    Calls Try.prog 22 #[.pointer (some ⟨jb, 0, none⟩), .string s] W fun e W' => e = .returned (.int .i64 6) ∧ ED w W' d S (jr jb d n t true :: rs) := by
  obtain ⟨c0, c1, c2, c3, cf⟩ := jr_cells (jr_blk h)
  have KM := hide (jmiss_at W jb d c0)
  have KP := hide (put_down h hd s)
  have HF := hide (jr_set h 3 (.bool true) rfl)
  have f3 := cf 3
  clear h cf hd
  go_enter Try.func22, Try.ntmps22
  go_wp2_with (first | (go_at_call 56; refine (unhide KM).mono ?_; rintro e w1 ⟨rfl, rfl⟩) | (go_at_call 57; refine (unhide KP).mono ?_; rintro e w1 ⟨rfl, rfl⟩))
  go_ret
  exact ⟨rfl, unhide HF⟩
theorem Put_full {w W : World} {d : Nat} {S : DS} {rs : List Res} {jb n : Nat} {t : ByteArray} (h : ED w W d S (jr jb d n t false :: rs)) (hu : S.up = true) (h2 : 2 ≤ S.N) (s : ByteArray) (hs : (S.N - 2) / 2 * 64 < s.size) :
    Calls Try.prog 22 #[.pointer (some ⟨jb, 0, none⟩), .string s] W fun e W' => e = .returned (.int .i64 5) ∧ ED w W' d S (jr jb d n t false :: rs) := by
  obtain ⟨c0, c1, c2, c3, cf⟩ := jr_cells (jr_blk h)
  have KM := hide (jmiss_at W jb d c0)
  have KP := hide (put_full h hu h2 s hs)
  have HF := hide (jr_set h 3 (.bool false) rfl)
  have f3 := cf 3
  clear h cf hs
  go_enter Try.func22, Try.ntmps22
  go_wp2_with (first | (go_at_call 56; refine (unhide KM).mono ?_; rintro e w1 ⟨rfl, rfl⟩) | (go_at_call 57; refine (unhide KP).mono ?_; rintro e w1 ⟨rfl, rfl⟩))
  go_ret
  exact ⟨rfl, unhide HF⟩
set_option maxHeartbeats 1000000 in
theorem Put_go {w W : World} {d : Nat} {S : DS} {rs : List Res} {jb n : Nat} {t : ByteArray} (h : ED w W d S (jr jb d n t false :: rs)) (hsol : ∀ r ∈ rs, Solid r) (hu : S.up = true) (h4 : 4 ≤ S.N) (hn : n ≤ 4611686018427387000) (s : ByteArray) (hs : s.size ≤ (S.N - 2) / 2 * 64) (hcnt : S.cnt ≤ 1000000) (hsin : S.since.length ≤ 1000000) :
    Calls Try.prog 22 #[.pointer (some ⟨jb, 0, none⟩), .string s] W fun e W' => ∃ S' x, e = .returned (.int .i64 x) ∧ Saved S (n + 1) s S' x ∧ ED w W' d S' (jr jb d (if x = 0 then n + 1 else n) (if x = 0 then s else t) (x == 6) :: rs) := by
  obtain ⟨c0, c1, c2, c3, -⟩ := jr_cells (jr_blk h)
  have KM := hide (jmiss_at W jb d c0)
  have KP := hide (put_go h hsol hu h4 hn s hs hcnt hsin)
  clear h hs hsol hu h4 hcnt hsin
  go_enter Try.func22, Try.ntmps22
  go_wp2_with (first | (go_at_call 56; refine (unhide KM).mono ?_; rintro e w1 ⟨rfl, rfl⟩) | (go_at_call 57; refine (unhide KP).mono ?_; rintro e y1 ⟨T, x, rfl, hsv, E1⟩; obtain ⟨x0, x1, x2, x3, xf⟩ := jr_cells (jr_blk E1); have f3 := xf 3; have HF := hide (And.intro hsv (jr_set E1 3 (.bool (x == 6)) rfl)); clear hsv E1 xf))
  go_ret
  exact ⟨T, x, rfl, (unhide HF).1, (unhide HF).2⟩
end Go.Proofs.Ytimhjheigejjmab
