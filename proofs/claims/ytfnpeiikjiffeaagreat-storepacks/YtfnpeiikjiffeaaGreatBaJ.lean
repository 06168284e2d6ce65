/- Texts joined: JnM JnN JnQ. -/
import Derived.Test.YtfnpeiikjiffeaaGreatBaI
import Derived.Test.YtfnpeiikjiffeaaGreatBaB
import Derived.Test.YtfnpeiikjiffeaaGreatBaH
/- Contracts of package journal: put, Put. -/
namespace Go.Proofs.YtfnpeiikjiffeaaGreat
open Go.RowKit Go.Maps

theorem jr_set {w W : World} {d : Nat} {S : DS} {rs : List Res} {jb n : Nat} {t : ByteArray} {lost : Bool} (h : ED w W d S (jr jb d n t lost :: rs)) (k : Nat) (v : Value) {n' : Nat} {t' : ByteArray} {lost' : Bool} (hv : Obj.cells ((#[.pointer (some ⟨d, 0, none⟩), .int .i64 (n : Int), .string t, .bool lost] : Array Value).setIfInBounds k v) 116 (0, 0) = jc d n' t' lost') : ED w (W.setCell ⟨jb, k, none⟩ v) d S (jr jb d n' t' lost' :: rs) := by
  refine ED.setBs h rfl ((Fr.refl _ W).setCell (Or.inr (by simp)) _) ?_
  intro p hp; simp at hp; subst hp
  rw [← hv]; exact setc_blk (jr_blk h)
theorem put_down {w W : World} {d : Nat} {S : DS} {rs : List Res} {jb n : Nat} {t : ByteArray} {lost : Bool} (h : ED w W d S (jr jb d n t lost :: rs)) (hd : lost = true ∨ S.up = false) (s : ByteArray) :
    Calls Tryz.prog 93 #[.pointer (some ⟨jb, 0, none⟩), .string s] W fun e W' => e = .returned (.int .i64 6) ∧ W' = W := by
  have KR := hide (jready_any h)
  rw [if_pos hd] at KR
  clear h hd
  go_enter Tryz.func93, Tryz.ntmps93
  go_wp2_with (go_at_call 89; refine (unhide KR).mono ?_; rintro e w1 ⟨rfl, rfl⟩)
  go_ret
  exact ⟨rfl, rfl⟩
theorem put_full {w W : World} {d : Nat} {S : DS} {rs : List Res} {jb n : Nat} {t : ByteArray} (h : ED w W d S (jr jb d n t false :: rs)) (hu : S.up = true) (h2 : 2 ≤ S.N) (s : ByteArray) (hs : (S.N - 2) / 2 * 64 < s.size) :
    Calls Tryz.prog 93 #[.pointer (some ⟨jb, 0, none⟩), .string s] W fun e W' => e = .returned (.int .i64 5) ∧ W' = W := by
  have KR := hide (jready_any h)
  rw [if_neg (by simp [hu])] at KR
  have KM := hide (jRoom_any h h2)
  obtain ⟨c0, c1, c2, c3, -⟩ := jr_cells (jr_blk h)
  have hlt : (((S.N - 2) / 2 * 64 : Nat) : Int) < (s.size : Int) := by omega
  generalize (S.N - 2) / 2 * 64 = rm at *
  clear h hs
  go_enter Tryz.func93, Tryz.ntmps93
  go_wp2_with (first | (go_at_call 89; refine (unhide KR).mono ?_; rintro e w1 ⟨rfl, rfl⟩) | (go_at_call 69; refine (unhide KM).mono ?_; rintro e w1 ⟨rfl, rfl⟩))
  go_ret
  exact ⟨rfl, rfl⟩
set_option maxRecDepth 100000 in
set_option maxHeartbeats 4000000 in
theorem put_go {w W : World} {d : Nat} {S : DS} {rs : List Res} {jb n : Nat} {t : ByteArray} (h : ED w W d S (jr jb d n t false :: rs)) (hsol : ∀ r ∈ rs, Solid r) (hu : S.up = true) (h4 : 4 ≤ S.N) (hn : n ≤ 4611686018427387000) (s : ByteArray) (hs : s.size ≤ (S.N - 2) / 2 * 64) (hcnt : S.cnt ≤ 1000000) (hsin : S.since.length ≤ 1000000) :
    Calls Tryz.prog 93 #[.pointer (some ⟨jb, 0, none⟩), .string s] W fun e W' => ∃ S' x, e = .returned (.int .i64 x) ∧ Saved S (n + 1) s S' x ∧ ED w W' d S' (jr jb d (if x = 0 then n + 1 else n) (if x = 0 then s else t) false :: rs) := by
  have hN := h.ok.n2
  have KR := hide (jready_any h)
  rw [if_neg (by simp [hu])] at KR
  have KM := hide (jRoom_any h (by omega))
  obtain ⟨c0, c1, c2, c3, -⟩ := jr_cells (jr_blk h)
  have hlt : ¬ ((((S.N - 2) / 2 * 64 : Nat) : Int) < (s.size : Int)) := by omega
  have hsz : (s.size : Int) ≤ 1000000 := by omega
  have hn2 : (n : Int) ≤ 4611686018427387000 := by omega
  obtain ⟨W1, hW1⟩ : ∃ X, X = W.alloc (.cells #[.int .i64 ((n + 1 : Nat) : Int), .int .i64 (s.size : Int)] 111) := ⟨_, rfl⟩
  have q1 : W1.heap[W.heap.size]? = some (.cells #[.int .i64 ((n + 1 : Nat) : Int), .int .i64 (s.size : Int)] 111 (0, 0)) := by rw [hW1]; exact heap_alloc_new _ _
  have E1 : ED w W1 d S (resBs [(W.heap.size, .cells #[.int .i64 ((n + 1 : Nat) : Int), .int .i64 (s.size : Int)] 111 (0, 0))] :: jr jb d n t false :: rs) := h.addBs _ (by rw [hW1]; exact bw_alloc _ _) (by intro p hp; simp at hp; subst hp; exact q1) (by intro p hp; simp at hp; subst hp; exact Nat.le_refl _)
  have KS := hide (save_any E1.drew (by
    intro r hr
    rcases List.mem_cons.1 hr with rfl | hr
    · exact solid_Bs (by intro p hp; simp at hp; subst hp; rfl)
    rcases List.mem_cons.1 hr with rfl | hr
    · exact jr_solid _ _ _ _ _
    · exact hsol r hr) h4 (n + 1) (by omega) s hs hcnt hsin)
  have HX : Hid (∀ (Y : World) (T : DS), ED w Y d T (resBs [(W.heap.size, .cells #[.int .i64 ((n + 1 : Nat) : Int), .int .i64 (s.size : Int)] 111 (0, 0))] :: jr jb d n t false :: rs) → (Y.cell? ⟨W.heap.size, 0, none⟩ = some (.int .i64 ((n + 1 : Nat) : Int)) ∧ Y.cell? ⟨W.heap.size, 1, none⟩ = some (.int .i64 (s.size : Int)) ∧ Y.cell? ⟨jb, 0, none⟩ = some (.pointer (some ⟨d, 0, none⟩))) ∧ Y.cell? ⟨jb, 1, none⟩ = some (.int .i64 (n : Int)) ∧ Y.cell? ⟨jb, 2, none⟩ = some (.string t) ∧ (∀ k, Y.frozen? ⟨jb, k, none⟩ = false)) := by
    intro Y T hY
    have q := ED.bs hY (W.heap.size, _) (by simp; rfl)
    obtain ⟨x0, x1, x2, x3, x4⟩ := jr_cells (jr_blk hY.drop1)
    exact ⟨⟨by simp [World.cell?, q], by simp [World.cell?, q], x0⟩, x1, x2, x4⟩
  obtain ⟨⟨d0, d1, d2⟩, d3, d4, -⟩ := unhide HX _ _ E1
  obtain ⟨⟨e0, e1, e2⟩, e3, e4, -⟩ := unhide HX _ _ E1.drew
  have ec : ((n + 1 : Nat) : Int) = (n : Int) + 1 := by omega
  rw [ec] at hW1 KS d0 e0
  simp only [ec] at HX
  have HW1 := hide hW1
  have hw : IntKind.i64.wrap ((n : Int) + 1) = (n : Int) + 1 := by rw [wrap_i64 (by omega) (by omega)]
  have hsl : s.size ≤ 281474976710656 := by omega
  clear h hs E1 q1 hsol hu
  generalize hrm : (S.N - 2) / 2 * 64 = rm at *
  have hf1 : ((n : Int) == 9223372036854775807) = false := by simp; omega
  have hf2 : decide (rm < s.size) = false := by simp; omega
  have hf3 : ¬ ((n : Int) = 9223372036854775807) := by omega
  have hf4 : ¬ (rm < s.size) := by omega
  clear hrm hcnt hsin hN h4 ec
  go_enter Tryz.func93, Tryz.ntmps93
  go_wp2_with (first | (go_at_call 89; refine (unhide KR).mono ?_; rintro e w1 ⟨rfl, rfl⟩) | (go_at_call 69; refine (unhide KM).mono ?_; rintro e w1 ⟨rfl, rfl⟩))
  rw [← unhide HW1]
  clear hW1
  go_region_held3 (fun w' : World => w'.cell? ⟨w1.heap.size, 0, none⟩ = some (.int .i64 ((n : Int) + 1)) ∧ w'.cell? ⟨w1.heap.size, 1, none⟩ = some (.int .i64 (s.size : Int)) ∧ w'.cell? ⟨jb, 0, none⟩ = some (.pointer (some ⟨d, 0, none⟩))) (first | exact ⟨d0, d1, d2⟩ | exact ⟨e0, e1, e2⟩ | exact p5) (first
      | (go_at_call 111; with_reducible refine (unhide KS).mono ?_; rintro e w5 ⟨T, x, rfl, hsv, E5⟩; have p5 := (unhide HX _ _ E5).1))
  all_goals
    obtain ⟨⟨g0, g1, g2⟩, g3, g4, g5⟩ := unhide HX _ _ E5
    clear p5 d0 d1 d2 d3 d4 e0 e1 e2 e3 e4 c0 c1 c2 c3 KR KM KS HX
    by_cases hx : x = 0
    · subst hx
      have E6 : ED w (w5.setCell ⟨jb, 1, none⟩ (.int .i64 ((n : Int) + 1))) d T (jr jb d (n + 1) t false :: rs) := jr_set E5.drop1 1 (.int .i64 ((n : Int) + 1)) rfl
      have HF : Hid (∀ Y, Below (w5.setCell ⟨jb, 1, none⟩ (.int .i64 ((n : Int) + 1))).heap.size (w5.setCell ⟨jb, 1, none⟩ (.int .i64 ((n : Int) + 1))) Y → (Y.cell? ⟨jb, 2, none⟩ = some (.string t) ∧ Y.frozen? ⟨jb, 2, none⟩ = false) ∧ ED w (Y.setCell ⟨jb, 2, none⟩ (.string s)) d T (jr jb d (n + 1) s false :: rs)) := fun Y hY => by
        have E7 := E6.new hY
        obtain ⟨x0, x1, x2, x3, x4⟩ := jr_cells (jr_blk E7)
        exact ⟨⟨x2, x4 2⟩, jr_set E7 2 (.string s) rfl⟩
      have HSV := hide hsv
      have KC := hide (Wi.clone_any s (w5.setCell ⟨jb, 1, none⟩ (.int .i64 ((n : Int) + 1))) hsl)
      have f1 := g5 1
      clear E5 E6 g5 hsv
      go_wp2_with (go_at_call 91; refine (unhide KC).mono ?_; rintro e y2 ⟨rfl, by2⟩; obtain ⟨⟨m0, m1⟩, m2⟩ := unhide HF y2 by2; have M2 := hide m2; clear m2)
      go_ret
      exact ⟨T, 0, rfl, unhide HSV, unhide M2⟩
    · have hne1 : (x != 0) = true := by simp [hx]
      have hne2 : (x == 0) = false := by simp [hx]
      have hne3 : decide (x = 0) = false := by simp [hx]
      have HF : Hid (∃ S' y, Ending.returned (.int .i64 x) = .returned (.int .i64 y) ∧ Saved S (n + 1) s S' y ∧ ED w w5 d S' (jr jb d (if y = 0 then n + 1 else n) (if y = 0 then s else t) false :: rs)) := ⟨T, x, rfl, hsv, by rw [if_neg hx, if_neg hx]; exact E5.drop1⟩
      clear hsv E5 g5
      go_wp2_with fail
      go_ret
      exact unhide HF
/-- What is left of a Journal by a Put that was tried. -/
theorem Put_down {w W : World} {d : Nat} {S : DS} {rs : List Res} {jb n : Nat} {t : ByteArray} {lost : Bool} (h : ED w W d S (jr jb d n t lost :: rs)) (hd : lost = true ∨ S.up = false) (s : ByteArray) :
    Calls Tryz.prog 70 #[.pointer (some ⟨jb, 0, none⟩), .string s] W fun e W' => e = .returned (.int .i64 6) ∧ ED w W' d S (jr jb d n t true :: rs) := by
  obtain ⟨c0, c1, c2, c3, cf⟩ := jr_cells (jr_blk h)
  have KM := hide (jmiss_at W jb d c0)
  have KP := hide (put_down h hd s)
  have HF := hide (jr_set h 3 (.bool true) rfl)
  have f3 := cf 3
  clear h cf hd
  go_enter Tryz.func70, Tryz.ntmps70
  go_wp2_with (first | (go_at_call 73; refine (unhide KM).mono ?_; rintro e w1 ⟨rfl, rfl⟩) | (go_at_call 93; refine (unhide KP).mono ?_; rintro e w1 ⟨rfl, rfl⟩))
  go_ret
  exact ⟨rfl, unhide HF⟩
theorem Put_full {w W : World} {d : Nat} {S : DS} {rs : List Res} {jb n : Nat} {t : ByteArray} (h : ED w W d S (jr jb d n t false :: rs)) (hu : S.up = true) (h2 : 2 ≤ S.N) (s : ByteArray) (hs : (S.N - 2) / 2 * 64 < s.size) :
    Calls Tryz.prog 70 #[.pointer (some ⟨jb, 0, none⟩), .string s] W fun e W' => e = .returned (.int .i64 5) ∧ ED w W' d S (jr jb d n t false :: rs) := by
  obtain ⟨c0, c1, c2, c3, cf⟩ := jr_cells (jr_blk h)
  have KM := hide (jmiss_at W jb d c0)
  have KP := hide (put_full h hu h2 s hs)
  have HF := hide (jr_set h 3 (.bool false) rfl)
  have f3 := cf 3
  clear h cf hs
  go_enter Tryz.func70, Tryz.ntmps70
  go_wp2_with (first | (go_at_call 73; refine (unhide KM).mono ?_; rintro e w1 ⟨rfl, rfl⟩) | (go_at_call 93; refine (unhide KP).mono ?_; rintro e w1 ⟨rfl, rfl⟩))
  go_ret
  exact ⟨rfl, unhide HF⟩
set_option maxHeartbeats 1000000 in
theorem Put_go {w W : World} {d : Nat} {S : DS} {rs : List Res} {jb n : Nat} {t : ByteArray} (h : ED w W d S (jr jb d n t false :: rs)) (hsol : ∀ r ∈ rs, Solid r) (hu : S.up = true) (h4 : 4 ≤ S.N) (hn : n ≤ 4611686018427387000) (s : ByteArray) (hs : s.size ≤ (S.N - 2) / 2 * 64) (hcnt : S.cnt ≤ 1000000) (hsin : S.since.length ≤ 1000000) :
    Calls Tryz.prog 70 #[.pointer (some ⟨jb, 0, none⟩), .string s] W fun e W' => ∃ S' x, e = .returned (.int .i64 x) ∧ Saved S (n + 1) s S' x ∧ ED w W' d S' (jr jb d (if x = 0 then n + 1 else n) (if x = 0 then s else t) (x == 6) :: rs) := by
  obtain ⟨c0, c1, c2, c3, -⟩ := jr_cells (jr_blk h)
  have KM := hide (jmiss_at W jb d c0)
  have KP := hide (put_go h hsol hu h4 hn s hs hcnt hsin)
  clear h hs hsol hu h4 hcnt hsin
  go_enter Tryz.func70, Tryz.ntmps70
  go_wp2_with (first | (go_at_call 73; refine (unhide KM).mono ?_; rintro e w1 ⟨rfl, rfl⟩) | (go_at_call 93; refine (unhide KP).mono ?_; rintro e y1 ⟨T, x, rfl, hsv, E1⟩; obtain ⟨x0, x1, x2, x3, xf⟩ := jr_cells (jr_blk E1); have f3 := xf 3; have HF := hide (And.intro hsv (jr_set E1 3 (.bool (x == 6)) rfl)); clear hsv E1 xf))
  go_ret
  exact ⟨T, x, rfl, (unhide HF).1, (unhide HF).2⟩
end Go.Proofs.YtfnpeiikjiffeaaGreat

/- Contracts of package journal: Open. -/
namespace Go.Proofs.YtfnpeiikjiffeaaGreat
open Go.RowKit Go.Maps

/-- The number and the length of the newer of two heads. -/
def nwN (n0 n1 : Nat) : Nat := if n1 < n0 then n0 else n1
def nwL (n0 l0 n1 l1 : Nat) : Nat := if n1 < n0 then l0 else l1
set_option maxRecDepth 100000 in
set_option maxHeartbeats 4000000 in
theorem open_any {w W : World} {d : Nat} {S : DS} {rs : List Res} (h : ED w W d S rs) {n0 l0 n1 l1 : Nat} (hh : Heads S n0 l0 n1 l1) :
    Calls Tryz.prog 40 #[.pointer (some ⟨d, 0, none⟩)] W fun e W' => ∃ jb, e = .returned (.tuple #[.pointer (some ⟨jb, 0, none⟩), .int .i64 0]) ∧ ED w W' d S (jr jb d (nwN n0 n1) (txt S (nwN n0 n1) (nwL n0 l0 n1 l1)) false :: rs) ∧ Below W.heap.size W W' := by
  have hN := h.ok.n2
  have h4 := hh.N
  have hu := hh.up
  have KR := hide (h.read 0)
  rw [show S.read 0 = (S.now 0, 0) from by have := now_read (S := S) hu (k := 0) (by omega); simpa using this] at KR
  have KL := hide (fun Y (hY : ED w Y d S rs) => hY.len)
  have KN := hide (fun Y (hY : ED w Y d S rs) => newest_any hY hh)
  have hb : nwN n0 n1 < 9223372036854775807 ∧ nwL n0 l0 n1 l1 ≤ (S.N - 2) / 2 * 64 := by
    have := hh.b0; have := hh.b1; have := hh.r0; have := hh.r1
    unfold nwN nwL; split <;> exact ⟨by omega, by omega⟩
  rw [show (if n1 < n0 then n0 else n1) = nwN n0 n1 from rfl, show (if n1 < n0 then l0 else l1) = nwL n0 l0 n1 l1 from rfl] at KN
  generalize nwN n0 n1 = n at *
  generalize nwL n0 l0 n1 l1 = len at *
  have KD := hide (fun Y (hY : ED w Y d S rs) => load_any hY hu h4 n len (by omega) hb.2)
  have hnb : (n : Int) ≤ 9223372036854775806 := by omega
  have h4i : (4 : Int) ≤ (S.N : Int) := by omega
  generalize txt S n len = tx at *
  have HH := hide h
  generalize S.now 0 = s0 at *
  generalize hNN : S.N = NN at KL
  rw [hNN] at h4i
  clear hh h hN h4 hu hb hNN
  go_enter Tryz.func40, Tryz.ntmps40
  go_wp2_with fail
  refine (unhide KR).mono ?_
  rintro e y1 ⟨rfl, E1, b1⟩
  go_wp2_with (first | (go_at_call 63; refine (unhide KL y1 E1).mono ?_; rintro e w1 ⟨rfl, rfl⟩))
  refine (unhide KN _ E1).mono ?_
  rintro e y2 ⟨rfl, E2, b2⟩
  obtain ⟨X, hX⟩ : ∃ X, X = y2.alloc (.cells #[.int .i64 (n : Int), .int .i64 (len : Int)] 111) := ⟨_, rfl⟩
  have q : X.heap[y2.heap.size]? = some (.cells #[.int .i64 (n : Int), .int .i64 (len : Int)] 111 (0, 0)) := by rw [hX]; exact heap_alloc_new _ _
  have bX : Below y2.heap.size y2 X := by rw [hX]; exact bw_alloc _ _
  have EX := E2.new bX
  have HC : Hid (∀ Y, Below X.heap.size X Y → Y.cell? ⟨y2.heap.size, 0, none⟩ = some (.int .i64 (n : Int)) ∧ Y.cell? ⟨y2.heap.size, 1, none⟩ = some (.int .i64 (len : Int))) := fun Y hY => by
    have q' : Y.heap[y2.heap.size]? = _ := (hY.block _ (lt_of_blk q)).trans q
    exact ⟨by simp [World.cell?, q'], by simp [World.cell?, q']⟩
  obtain ⟨c0, c1⟩ := unhide HC X (Below.refl _ _)
  obtain ⟨d0, d1⟩ := unhide HC X.drew (bw_drew _)
  have HXe := hide hX
  have KD2 := hide (unhide KD _ EX.drew)
  have HF : Hid (∀ z, Below X.drew.heap.size X.drew z → ED w (z.alloc (.cells #[.pointer (some ⟨d, 0, none⟩), .int .i64 (n : Int), .string tx, .bool false] 116)) d S (jr z.heap.size d n tx false :: rs) ∧ Below W.heap.size W (z.alloc (.cells #[.pointer (some ⟨d, 0, none⟩), .int .i64 (n : Int), .string tx, .bool false] 116))) := fun z hz => by
    have bz : Below X.heap.size X z := bw_tr (bw_drew X) hz
    refine ⟨(EX.new bz).addBs _ (bw_alloc _ _) ?_ ?_, bw_tr (bw_tr (bw_tr b1 b2) (bw_tr bX bz)) (bw_alloc _ _)⟩
    · intro p hp; simp at hp; subst hp; exact heap_alloc_new _ _
    · intro p hp; simp at hp; subst hp; exact Nat.le_refl _
  clear KN KD KR KL HH E1 b1 E2 b2 q bX EX
  go_wp2_with fail
  rw [← unhide HXe]
  clear hX
  go_region_held3 (fun w' : World => w'.cell? ⟨y2.heap.size, 0, none⟩ = some (.int .i64 (n : Int)) ∧ w'.cell? ⟨y2.heap.size, 1, none⟩ = some (.int .i64 (len : Int))) (first | exact ⟨c0, c1⟩ | exact ⟨d0, d1⟩ | exact p5 | exact p6) (first
      | (go_at_call 65; with_reducible refine (unhide KD2).mono ?_; rintro e z ⟨rfl, bz⟩; have p5 := unhide HC z (bw_tr (bw_drew X) bz); have p6 := unhide HC (z.alloc (.cells #[.pointer (some ⟨d, 0, none⟩), .int .i64 (n : Int), .string tx, .bool false] 116)) (bw_tr (bw_tr (bw_drew X) bz) (bw_alloc _ _))))
  all_goals
    have HG := hide (unhide HF z bz)
    clear HF HC c0 c1 d0 d1 p5 p6 bz KD2
    go_wp2_with fail
    go_ret2
    exact ⟨_, rfl, (unhide HG).1, (unhide HG).2⟩
end Go.Proofs.YtfnpeiikjiffeaaGreat

/- A journal's disk, plainly: what a Put leaves where nothing is cut. -/
namespace Go.Proofs.YtfnpeiikjiffeaaGreat

def room6 (S : DS) : Nat := (S.N - 2) / 2 * 64
/-- A synced disk with the text t of the number n. -/
structure Good (S : DS) (n : Nat) (t : ByteArray) : Prop where
  up : S.up = true
  N4 : 4 ≤ S.N
  sn : S.since = []
  nb : n ≤ 1000000
  hn : S.base ((n + 1) % 2) = hd n t.size
  ho : ∃ l, S.base (n % 2) = hd (n - 1) l ∧ l ≤ room6 S ∧ (n ≤ 1 → l = 0)
  z : n = 0 → t.size = 0
  r : t.size ≤ room6 S
  tx : txt S n t.size = t
theorem now_base {S : DS} (h : S.since = []) : S.now = S.base := by unfold DS.now; rw [h]; rfl
theorem good_new {N : Nat} (h : 4 ≤ N) : Good (DS.new N) 0 ByteArray.empty :=
  ⟨rfl, h, rfl, by omega, rfl, ⟨0, rfl, Nat.zero_le _, fun _ => rfl⟩, fun _ => rfl, Nat.zero_le _, rfl⟩
theorem Good.heads {S : DS} {n : Nat} {t : ByteArray} (h : Good S n t) : ∃ n0 l0 n1 l1, Heads S n0 l0 n1 l1 ∧ nwN n0 n1 = n ∧ nwL n0 l0 n1 l1 = t.size := by
  obtain ⟨l, o1, o2, o3⟩ := h.ho
  have hn := h.hn
  have hr := h.r
  have hz := h.z
  have hb := h.nb
  have hu := h.up
  have h4 := h.N4
  have hnow := now_base h.sn
  rcases Nat.mod_two_eq_zero_or_one n with c | c
  · have e1 : (n + 1) % 2 = 1 := by omega
    rw [c] at o1; rw [e1] at hn
    refine ⟨n - 1, l, n, t.size, ⟨hu, h4, by rw [hnow]; exact o1, by rw [hnow]; exact hn, by omega, by omega, fun c => o3 (by omega), hz, o2, hr, ?_⟩, ?_, ?_⟩
    · unfold pairB; by_cases c0 : n = 0
      · subst c0; rfl
      · rw [if_neg (by omega)]; simp only [Bool.and_eq_true, Bool.or_eq_true, beq_iff_eq]; omega
    · unfold nwN; rw [if_neg (by omega)]
    · unfold nwL; rw [if_neg (by omega)]
  · have e1 : (n + 1) % 2 = 0 := by omega
    rw [c] at o1; rw [e1] at hn
    refine ⟨n, t.size, n - 1, l, ⟨hu, h4, by rw [hnow]; exact hn, by rw [hnow]; exact o1, by omega, by omega, hz, fun c => o3 (by omega), hr, o2, ?_⟩, ?_, ?_⟩
    · unfold pairB; rw [if_neg (by omega)]; simp only [Bool.and_eq_true, Bool.or_eq_true, beq_iff_eq]; omega
    · unfold nwN; rw [if_pos (by omega)]
    · unfold nwL; rw [if_pos (by omega)]
/-- The writes of a text. -/
def wrL (A : Nat) (s : ByteArray) (i : Nat) : List (Nat × ByteArray) := (List.range i).map fun j => (A + j, chk s j)
theorem wrL_succ (A : Nat) (s : ByteArray) (i : Nat) : wrL A s (i + 1) = wrL A s i ++ [(A + i, chk s i)] := by simp [wrL, List.range_succ]
theorem wrI_plain {S : DS} (hu : S.up = true) (hc : S.cut = none) (A : Nat) (s : ByteArray) (i : Nat) (hi : A + i ≤ S.N) : wrI S A s i = { S with since := S.since ++ wrL A s i, cnt := S.cnt + i } ∧ ∀ j, j < i → wrE S A s j = 0 := by
  induction i with
  | zero => exact ⟨by simp [wrI, wrL], fun j hj => by omega⟩
  | succ i ih =>
    obtain ⟨e1, e2⟩ := ih (by omega)
    have hw : (wrI S A s i).write ((A + i : Nat) : Int) (chk s i) = ({ S with since := S.since ++ wrL A s (i + 1), cnt := S.cnt + (i + 1) }, 0) := by
      rw [e1]
      unfold DS.write
      rw [if_neg (by simp [hu]), if_neg (by simp only [chk_size]; omega)]
      simp only [DS.come, hc, DS.put, DS.did, wrL_succ, List.append_assoc, Nat.add_assoc]
      rfl
    refine ⟨by simp only [wrI]; rw [hw], fun j hj => ?_⟩
    by_cases c : j = i
    · subst c; simp only [wrE]; rw [hw]
    · exact e2 j (by omega)
theorem cur_wrL (f : Nat → ByteArray) (A : Nat) (s : ByteArray) (i k : Nat) : cur f (wrL A s i) k = if A ≤ k ∧ k < A + i then chk s (k - A) else f k := by
  induction i with
  | zero => rw [if_neg (by omega)]; rfl
  | succ i ih =>
    rw [wrL_succ, cur_snoc]
    unfold upd
    by_cases c : k = A + i
    · subst c; rw [if_pos rfl, if_pos (by omega)]; congr 1; omega
    · rw [if_neg c, ih]
      by_cases c2 : A ≤ k ∧ k < A + i
      · rw [if_pos c2, if_pos (by omega)]
      · rw [if_neg c2, if_neg (by omega)]
/-- The sectors of a text, one behind the other, are the text with noughts behind. -/
theorem cat_text {S : DS} {A : Nat} {s : ByteArray} (h : ∀ j, j < rnds s.size → S.now (A + j) = chk s j) (i : Nat) (hi : i ≤ rnds s.size) : cat S A i = (s.data.toList ++ List.replicate (64 * rnds s.size - s.size) 0).take (64 * i) := by
  have hl : s.data.toList.length = s.size := Array.length_toList
  induction i with
  | zero => simp [cat]
  | succ i ih =>
    have hi2 : 64 * i < s.size := by unfold rnds at hi; omega
    simp only [cat]
    rw [ih (by omega), h i (by omega), show 64 * (i + 1) = 64 * i + 64 from by omega, List.take_add]
    congr 1
    simp only [chk, fill]
    rw [List.drop_append, hl, show 64 * i - s.size = 0 from by omega, List.drop_zero, List.take_append, List.length_drop, hl, List.take_replicate]
    congr 2
    unfold rnds at hi ⊢; omega
theorem txt_text {S : DS} {n : Nat} {s : ByteArray} (h : ∀ j, j < rnds s.size → S.now (at0 S.N n + j) = chk s j) : txt S n s.size = s := by
  have hl : s.data.toList.length = s.size := Array.length_toList
  unfold txt
  rw [cat_text h _ (Nat.le_refl _), List.take_of_length_le (by simp [hl]; unfold rnds; omega)]
  apply ByteArray.ext
  apply Array.ext'
  simp only [ByteArray.data_extract, Array.toList_extract, List.extract_eq_take_drop, List.drop_zero, Nat.sub_zero]
  rw [← hl, List.take_append_of_le_length (Nat.le_refl _), List.take_length]
theorem at0_fit {N n len : Nat} (h : len ≤ (N - 2) / 2 * 64) (h4 : 4 ≤ N) : 2 ≤ at0 N n ∧ at0 N n + rnds len ≤ N := by
  have h1 : (n + 1) % 2 ≤ 1 := by omega
  have h2 := Nat.mul_le_mul h1 (Nat.le_refl ((N - 2) / 2))
  unfold rnds at0; omega
/-- What a Put leaves where nothing is cut. -/
theorem Good.putPlain {S : DS} {n : Nat} {t : ByteArray} (h : Good S n t) (hc : S.cut = none) (hnb : n < 1000000) {s : ByteArray} (hs : s.size ≤ room6 S) {S' : DS} {x : Int} (hv : Saved S (n + 1) s S' x) :
    x = 0 ∧ Good S' (n + 1) s ∧ S'.cut = none ∧ S'.cnt = S.cnt + costN s.size ∧ S'.N = S.N := by
  obtain ⟨f2, fN⟩ := at0_fit (n := n + 1) (len := s.size) hs h.N4
  obtain ⟨eW, e0⟩ := wrI_plain h.up hc (at0 S.N (n + 1)) s (rnds s.size) fN
  rw [h.sn, List.nil_append] at eW
  obtain ⟨T, hT⟩ : ∃ T : DS, T = { S with base := cur S.base (wrL (at0 S.N (n + 1)) s (rnds s.size)), since := [], cnt := S.cnt + rnds s.size + 1 } := ⟨_, rfl⟩
  have eS : (wrI S (at0 S.N (n + 1)) s (rnds s.size)).sync = (T, 0) := by
    rw [eW, hT]; unfold DS.sync; rw [if_neg (by simp [h.up])]; simp only [DS.come, hc, DS.settle, DS.did, DS.now]
  have hlt : ((n + 1 + 1) % 2) < 2 := by omega
  have h4 := h.N4
  have hcT : T.cut = none := by rw [hT]; exact hc
  obtain ⟨U, hU⟩ : ∃ U : DS, U = { T with since := [((n + 1 + 1) % 2, hd (n + 1) s.size)], cnt := T.cnt + 1 } := ⟨_, rfl⟩
  have eH : T.write (((n + 1 + 1) % 2 : Nat) : Int) (hd (n + 1) s.size) = (U, 0) := by
    unfold DS.write
    rw [if_neg (by simp [hT, h.up]), if_neg (by simp only [hd_size]; rw [hT]; simp only; omega)]
    have hsT : T.since = [] := by rw [hT]
    simp only [DS.come, hcT, DS.put, DS.did, hsT, List.nil_append, Int.toNat_natCast, hU]
  obtain ⟨V, hV⟩ : ∃ V : DS, V = { U with base := upd T.base ((n + 1 + 1) % 2) (hd (n + 1) s.size), since := [], cnt := U.cnt + 1 } := ⟨_, rfl⟩
  have eV : U.sync = (V, 0) := by
    unfold DS.sync
    rw [if_neg (by rw [hU]; simp only; rw [hT]; simp [h.up])]
    simp only [DS.come, DS.settle, DS.did, hV, DS.now, hU, hcT]
    rfl
  cases hv with
  | text i hi h0 he => exact absurd (e0 i hi) he
  | sync h0 he => rw [eS] at he; exact absurd rfl he
  | head h0 h1 he => rw [eS] at he; simp only at he; rw [eH] at he; exact absurd rfl he
  | last h0 h1 h2 =>
    rw [eS]; simp only; rw [eH]; simp only; rw [eV]; simp only
    have hb : ∀ k, V.base k = if k = (n + 1 + 1) % 2 then hd (n + 1) s.size else if at0 S.N (n + 1) ≤ k ∧ k < at0 S.N (n + 1) + rnds s.size then chk s (k - at0 S.N (n + 1)) else S.base k := by
      intro k; rw [hV]; simp only [upd]
      by_cases c : k = (n + 1 + 1) % 2
      · rw [if_pos c, if_pos c]
      · rw [if_neg c, if_neg c, hT]; simp only; exact cur_wrL _ _ _ _ _
    have hVN : V.N = S.N := by rw [hV, hU, hT]
    have hVs : V.since = [] := by rw [hV]
    refine ⟨trivial, ⟨by rw [hV, hU, hT]; exact h.up, by rw [hVN]; exact h4, hVs, by omega, ?_, ?_, by omega, by unfold room6; rw [hVN]; exact hs, ?_⟩, by rw [hV, hU, hT]; exact hc, ?_, hVN⟩
    · rw [hb, if_pos rfl]
    · refine ⟨t.size, ?_, by unfold room6; rw [hVN]; exact h.r, fun c => h.z (by omega)⟩
      rw [hb, if_neg (by omega), if_neg (by omega)]; exact h.hn
    · refine txt_text fun j hj => ?_
      rw [now_base hVs, hVN, hb, if_neg (by omega), if_pos (by omega)]; congr 1; omega
    · rw [hV, hU, hT]; simp only; unfold costN rnds; split <;> omega
end Go.Proofs.YtfnpeiikjiffeaaGreat
