/- Contracts of package journal: save. -/
import Derived.Test.YtfnpeiikjiffeaaGreatJnH
import Derived.Shelf.Abstract
import Derived.Shelf.RegionOpen
import Derived.Sort.CutIn
namespace Go.Proofs.YtfnpeiikjiffeaaGreat
open Go.RowKit Go.Maps
attribute [local go_sem] Oper.semAt_some

/-- The boxes of save. -/
def sbx (b d n len : Nat) (s : ByteArray) (e : Int) : List (Nat × Obj) :=
  [(b, .cells #[.pointer (some ⟨d, 0, none⟩)] 33 (0, 0)), (b + 1, .cells #[.int .i64 (n : Int), .int .i64 (len : Int)] 111 (0, 0)), (b + 1 + 1, .cells #[.string s] 9 (0, 0)), (b + 1 + 1 + 1, .cells #[.int .i64 e] 25 (0, 0)), (b + 1 + 1 + 1 + 1, .cells #[.pointer (some ⟨d, 0, none⟩)] 33 (0, 0)), (b + 1 + 1 + 1 + 1 + 1, .cells #[.int .i64 (n : Int), .int .i64 (len : Int)] 111 (0, 0))]
theorem sbx_solid (b d n len : Nat) (s : ByteArray) (e : Int) : ∀ p ∈ sbx b d n len s e, isLp p.2 = false := by
  intro p hp; simp only [sbx, List.mem_cons, List.not_mem_nil, or_false] at hp; rcases hp with rfl | rfl | rfl | rfl | rfl | rfl <;> rfl
theorem sbx_low (b d n len : Nat) (s : ByteArray) (e : Int) : ∀ p ∈ sbx b d n len s e, b ≤ p.1 := by
  intro p hp; simp only [sbx, List.mem_cons, List.not_mem_nil, or_false] at hp; rcases hp with rfl | rfl | rfl | rfl | rfl | rfl <;> simp only <;> omega
theorem six_new (w : World) (A B C E F G : Obj) : let W := (((((w.alloc A).alloc B).alloc C).alloc E).alloc F).alloc G
    W.heap[w.heap.size]? = some A ∧ W.heap[w.heap.size + 1]? = some B ∧ W.heap[w.heap.size + 2]? = some C ∧ W.heap[w.heap.size + 3]? = some E ∧ W.heap[w.heap.size + 4]? = some F ∧ W.heap[w.heap.size + 5]? = some G ∧ Below w.heap.size w W := by
  intro W
  have s1 : (w.alloc A).heap.size = w.heap.size + 1 := by simp
  have s2 : ((w.alloc A).alloc B).heap.size = w.heap.size + 2 := by simp
  have s3 : (((w.alloc A).alloc B).alloc C).heap.size = w.heap.size + 3 := by simp
  have s4 : ((((w.alloc A).alloc B).alloc C).alloc E).heap.size = w.heap.size + 4 := by simp
  have s5 : (((((w.alloc A).alloc B).alloc C).alloc E).alloc F).heap.size = w.heap.size + 5 := by simp
  refine ⟨?_, ?_, ?_, ?_, ?_, ?_, ?_⟩
  · show ((((((w.alloc A).alloc B).alloc C).alloc E).alloc F).alloc G).heap[w.heap.size]? = _
    rw [Below.heap_alloc _ _ _ (by omega), Below.heap_alloc _ _ _ (by omega), Below.heap_alloc _ _ _ (by omega), Below.heap_alloc _ _ _ (by omega), Below.heap_alloc _ _ _ (by omega)]; exact heap_alloc_new _ _
  · show ((((((w.alloc A).alloc B).alloc C).alloc E).alloc F).alloc G).heap[w.heap.size + 1]? = _
    rw [Below.heap_alloc _ _ _ (by omega), Below.heap_alloc _ _ _ (by omega), Below.heap_alloc _ _ _ (by omega), Below.heap_alloc _ _ _ (by omega), ← s1]; exact heap_alloc_new _ _
  · show ((((((w.alloc A).alloc B).alloc C).alloc E).alloc F).alloc G).heap[w.heap.size + 2]? = _
    rw [Below.heap_alloc _ _ _ (by omega), Below.heap_alloc _ _ _ (by omega), Below.heap_alloc _ _ _ (by omega), ← s2]; exact heap_alloc_new _ _
  · show ((((((w.alloc A).alloc B).alloc C).alloc E).alloc F).alloc G).heap[w.heap.size + 3]? = _
    rw [Below.heap_alloc _ _ _ (by omega), Below.heap_alloc _ _ _ (by omega), ← s3]; exact heap_alloc_new _ _
  · show ((((((w.alloc A).alloc B).alloc C).alloc E).alloc F).alloc G).heap[w.heap.size + 4]? = _
    rw [Below.heap_alloc _ _ _ (by omega), ← s4]; exact heap_alloc_new _ _
  · show ((((((w.alloc A).alloc B).alloc C).alloc E).alloc F).alloc G).heap[w.heap.size + 5]? = _
    rw [← s5]; exact heap_alloc_new _ _
  · exact (((((bw_tr (bw_alloc w A) (bw_alloc _ B)).trans (bw_mono (bw_alloc _ C) (by omega))).trans (bw_mono (bw_alloc _ E) (by omega))).trans (bw_mono (bw_alloc _ F) (by omega))).trans (bw_mono (bw_alloc _ G) (by omega)))
theorem sbx_set {w W : World} {d dd n len b : Nat} {s : ByteArray} {T : DS} {rs : List Res} {bx : Int → List (Nat × Obj)} (hbx : bx = sbx b dd n len s) {e : Int} (h : ED w W d T (resBs (bx e) :: rs)) (x : Int) : ED w (W.setCell ⟨b + 1 + 1 + 1, 0, none⟩ (.int .i64 x)) d T (resBs (bx x) :: rs) := by
  subst hbx
  have hb := h.bs
  refine h.setBs rfl ((Fr.refl _ W).setCell (Or.inr (by simp [sbx])) _) ?_
  intro p hp
  simp only [sbx, List.mem_cons, List.not_mem_nil, or_false] at hp
  have so : ∀ k, k ≠ b + 1 + 1 + 1 → (W.setCell ⟨b + 1 + 1 + 1, 0, none⟩ (.int .i64 x)).heap[k]? = W.heap[k]? := fun k hk => setc_other hk
  rcases hp with rfl | rfl | rfl | rfl | rfl | rfl
  · exact (so _ (by simp only; omega)).trans (hb (b, _) (by simp only [sbx, List.mem_cons]; simp))
  · exact (so _ (by simp only; omega)).trans (hb (b + 1, _) (by simp only [sbx, List.mem_cons]; simp))
  · exact (so _ (by simp only; omega)).trans (hb (b + 1 + 1, _) (by simp only [sbx, List.mem_cons]; simp))
  · exact (setc_blk (hb (b + 1 + 1 + 1, .cells #[.int .i64 e] 25 (0, 0)) (by simp only [sbx, List.mem_cons]; simp))).trans rfl
  · exact (so _ (by simp only; omega)).trans (hb (b + 1 + 1 + 1 + 1, _) (by simp only [sbx, List.mem_cons]; simp))
  · exact (so _ (by simp only; omega)).trans (hb (b + 1 + 1 + 1 + 1 + 1, _) (by simp only [sbx, List.mem_cons]; simp))
/-- Where save is left. -/
theorem save_leave {w X W : World} {d n D : Nat} {s : ByteArray} {S T : DS} {rs : List Res} {bx : Int → List (Nat × Obj)} (hbx : bx = sbx W.heap.size d n s.size s) (hs : ∀ e, ∀ r ∈ resBs (bx e) :: rs, Solid r) {e : Int} (hE : ED w X d T (resBs (bx e) :: rs)) (hK : X.heap[D]? = some (.deferred (some []))) (hD : w.heap.size ≤ D) (hsv : Saved S n s T e) (_hD6 : W.heap.size + 1 + 1 + 1 < D) {tmps : Array Value} (ht : tmps[6]?.getD undef = .pointer (some ⟨W.heap.size + 1 + 1 + 1, 0, none⟩)) :
    LeavesInM Fence.wide 2 Tryz.prog Tryz.f111 tmps (fun e W' => ∃ S' x, e = .returned (.int .i64 x) ∧ Saved S n s S' x ∧ ED w W' d S' rs) [{ target := .collected D, args := #[] }] .returning X := by
  have hE2 : ED w (X.putObj D (.deferred none)) d T (resBs (bx e) :: rs) := hE.putL (hs e) hK rfl hD
  have hb := hE2.bs (W.heap.size + 1 + 1 + 1, .cells #[.int .i64 e] 25 (0, 0)) (by rw [hbx]; simp only [sbx, List.mem_cons]; simp)
  have hc : (X.putObj D (.deferred none)).cell? ⟨W.heap.size + 1 + 1 + 1, 0, none⟩ = some (.int .i64 e) := by simp only [World.cell?]; simp [hb]
  refine ⟨by simp, .inl ⟨_, _, rfl, run_takeDeferred hK, ?_⟩⟩
  generalize X.putObj D (.deferred none) = Y at *
  refine ⟨.int .i64 e, ?_, T, e, rfl, hsv, hE2.drop1⟩
  simp [results, Tryz.results111, go_sem, ht, hc]
set_option maxRecDepth 100000 in
set_option maxHeartbeats 4000000 in
theorem save_any {w W : World} {d : Nat} {S : DS} {rs : List Res} (h : ED w W d S rs) (hsol : ∀ r ∈ rs, Solid r) (h4 : 4 ≤ S.N) (n : Nat) (hn : n ≤ 4611686018427387904) (s : ByteArray) (hlen : s.size ≤ (S.N - 2) / 2 * 64) (hcnt : S.cnt ≤ 1000000) (hsin : S.since.length ≤ 1000000) :
    Calls Tryz.prog 111 #[.pointer (some ⟨d, 0, none⟩), .agg #[.int .i64 (n : Int), .int .i64 (s.size : Int)], .string s] W fun e W' => ∃ S' x, e = .returned (.int .i64 x) ∧ Saved S n s S' x ∧ ED w W' d S' rs := by
  have hN := h.ok.n2
  have hsz : s.size ≤ 1000000 := by omega
  obtain ⟨W6, hW6⟩ : ∃ X, X = (((((W.alloc (.cells #[.pointer (some ⟨d, 0, none⟩)] 33)).alloc (.cells #[.int .i64 (n : Int), .int .i64 (s.size : Int)] 111)).alloc (.cells #[.string s] 9)).alloc (.cells #[.int .i64 0] 25)).alloc (.cells #[.pointer (some ⟨d, 0, none⟩)] 33)).alloc (.cells #[.int .i64 (n : Int), .int .i64 (s.size : Int)] 111) := ⟨_, rfl⟩
  have hsx := six_new W (.cells #[.pointer (some ⟨d, 0, none⟩)] 33) (.cells #[.int .i64 (n : Int), .int .i64 (s.size : Int)] 111) (.cells #[.string s] 9) (.cells #[.int .i64 0] 25) (.cells #[.pointer (some ⟨d, 0, none⟩)] 33) (.cells #[.int .i64 (n : Int), .int .i64 (s.size : Int)] 111)
  simp only at hsx
  rw [← hW6] at hsx
  obtain ⟨q0, q1, q2, q3, q4, q5, qb⟩ := hsx
  have E6 : ED w W6 d S (resBs (sbx W.heap.size d n s.size s 0) :: rs) := h.addBs _ qb (by
    intro p hp; simp only [sbx, List.mem_cons, List.not_mem_nil, or_false] at hp
    rcases hp with rfl | rfl | rfl | rfl | rfl | rfl
    · exact q0
    · exact q1
    · exact q2
    · exact q3
    · exact q4
    · exact q5) (sbx_low _ _ _ _ _ _)
  have HSQ := hide (seq_any E6 (by omega) (W.heap.size + 1 + 1 + 1 + 1 + 1) (W.heap.size + 1 + 1 + 1 + 1) n s.size (by omega) hsz q5 q4)
  have HE6 := hide E6
  have HW6 := hide hW6
  clear E6 q0 q1 q2 q3 q4 q5 qb
  refine (callsIn_wide (n := 2)).1 (callsIn_of_wp_marks Tryz.func111 rfl trivial ?_ rfl)
  simp only [Tryz.ntmps111, List.size_toArray, List.length_cons, List.length_nil, Nat.reduceAdd, Nat.reduceSub, Array.replicate_succ, Array.replicate_zero, List.push_toArray, List.append_toArray, List.nil_append, List.cons_append]
  refine wpIn_wide.2 ?_
  go_wp2_with fail
  refine (sectors_any d n s.size _).mono ?_
  rintro e w1 ⟨rfl, rfl⟩
  go_wp2_with fail
  rw [← unhide HW6]
  have hlow : w.heap.size ≤ W6.heap.size := (unhide HE6).bel.size
  have hlow2 : w.heap.size ≤ W.heap.size := h.bel.size
  obtain ⟨A0, hA0⟩ : ∃ A, A = at0 S.N n := ⟨_, rfl⟩
  obtain ⟨bx, hbx⟩ : ∃ bx, bx = sbx W.heap.size d n s.size s := ⟨_, rfl⟩
  have hsb : ∀ e, ∀ r ∈ resBs (bx e) :: rs, Solid r := fun e r hr => by
    rcases List.mem_cons.1 hr with rfl | hr
    · rw [hbx]; exact solid_Bs (sbx_solid _ _ _ _ _ _)
    · exact hsol r hr
  have hkl : W.heap.size + 1 + 1 + 1 + 1 + 1 < W6.heap.size := by have := unhide HW6; rw [this]; simp
  refine range_own (unhide HSQ) rfl (enters_of Tryz.func106 (by kernel_rfl) rfl) (fun _ => rfl)
    (fun i X => ED w X d (wrI S A0 s i) (resBs (bx 0) :: rs) ∧ ∀ j, j < i → wrE S A0 s j = 0)
    (fun i X => wrE S A0 s i ≠ 0 ∧ (∀ j, j < i → wrE S A0 s j = 0) ∧ ED w X d (wrI S A0 s (i + 1)) (resBs (bx (wrE S A0 s i)) :: rs))
    (fun i A B hi hb => ⟨hi.1.new hb, hi.2⟩)
    (fun i A b o o' hb hi hA ho => ⟨hi.1.putL (hsb 0) hA ho (by omega), hi.2⟩)
    (fun i A b o o' hb hi hA ho => ⟨hi.1, hi.2.1, hi.2.2.putL (hsb _) hA ho (by omega)⟩)
    (fun A b o o' hb hi hA ho => (World.putObj_heap_other (by omega)).trans hi)
    ⟨by rw [hbx]; exact unhide HE6, fun j hj => by omega⟩
    (fun i => { tmps := #[.pointer (some ⟨d, 0, none⟩), .agg #[.int .i64 (n : Int), .int .i64 (s.size : Int)], .string s, .pointer (some ⟨W.heap.size, 0, none⟩), .pointer (some ⟨W.heap.size + 1, 0, none⟩), .pointer (some ⟨W.heap.size + 1 + 1, 0, none⟩), .pointer (some ⟨W.heap.size + 1 + 1 + 1, 0, none⟩), .int .i64 ((at0 S.N n + i : Nat) : Int), .int .i64 ((64 * i : Nat) : Int), undef, undef, undef, .pointer (some ⟨d, 0, none⟩), .agg #[.int .i64 (n : Int), .int .i64 (s.size : Int)], .func (.func 106) #[] #[.pointer (some ⟨W.heap.size + 1 + 1 + 1 + 1 + 1, 0, none⟩), .pointer (some ⟨W.heap.size + 1 + 1 + 1 + 1, 0, none⟩)], .int .i64 ((at0 S.N n + i : Nat) : Int), .int .i64 ((64 * i : Nat) : Int), undef, undef, undef, undef, undef, undef, undef, undef, undef, undef, undef, undef, undef, undef, undef, undef, undef, undef, undef, undef, undef, undef, undef, undef, undef, undef], defers := [] })
    ?assign ?body ?done ?stop
  case assign =>
    intro l i X K hK
    unfold encN
    gi_wp2
    exact hK
  case body =>
    rintro D l i X r hD rfl hi ⟨hE, h0⟩ hK hl hDd
    have EL := hE.addL (hsb 0) hDd hl rfl rfl (by omega) (by omega)
    have hwb := wrI_bound S A0 s i
    have hri : i < 16000 := by unfold rnds at hi; omega
    have HC : Hid (∀ Y, ED w Y d (wrI S A0 s i) (resBs [(D, .deferred (some [])), (D + 1, .loop r)] :: resBs (bx 0) :: rs) → Y.cell? ⟨W.heap.size, 0, none⟩ = some (.pointer (some ⟨d, 0, none⟩)) ∧ Y.cell? ⟨W.heap.size + 1 + 1, 0, none⟩ = some (.string s)) := fun Y hY => by
      have hb := hY.drop1.bs
      rw [hbx] at hb
      have q0 := hb _ (List.mem_cons_self ..)
      have q2 := hb (W.heap.size + 1 + 1, .cells #[.string s] 9 (0, 0)) (by simp only [sbx, List.mem_cons]; simp)
      exact ⟨by simp [World.cell?, q0], by simp [World.cell?, q2]⟩
    have HEL := hide EL
    obtain ⟨c0, c2⟩ := unhide HC X EL
    obtain ⟨d0, d2⟩ := unhide HC X.drew EL.drew
    have g1 : ((64 * i : Nat) : Int) < (s.size : Int) := by unfold rnds at hi; omega
    have ec : fill (s.extract (64 * i) s.size).data.toList = chk s i := by
      unfold chk
      congr 1
      rw [ByteArray.data_extract, Array.toList_extract, List.extract_eq_take_drop]
      exact List.take_of_length_le (by rw [List.length_drop]; have : s.data.toList.length = s.size := Array.length_toList; omega)
    dsimp only
    rw [hA0] at *
    obtain ⟨fv, hfv⟩ : ∃ fv : Int, fv = ((64 * i : Nat) : Int) := ⟨_, rfl⟩
    obtain ⟨av, hav⟩ : ∃ av : Int, av = ((at0 S.N n + i : Nat) : Int) := ⟨_, rfl⟩
    have efv : fv.toNat = 64 * i := by omega
    rw [← efv] at ec
    have KF := hide (fun Y => jfilled_any (s.extract fv.toNat s.size) (by simp [ByteArray.size_extract]; omega) Y)
    rw [ec] at KF
    have KW := hide (fun Y (hY : ED w Y d (wrI S (at0 S.N n) s i) (resBs [(D, .deferred (some [])), (D + 1, .loop r)] :: resBs (bx 0) :: rs)) => hY.write (by omega) (by omega) ((at0 S.N n + i : Nat) : Int) (chk s i) (by rw [chk_size]; omega))
    rw [← hav] at KW
    rw [← hav, ← hfv]
    clear hE EL hwb ec
    have hmix : Tryz.prog.follows .mixedOrders = true := by kernel_rfl
    have hneg : 0 ≤ fv := by omega
    have gle : fv ≤ (s.size : Int) := by omega
    have hav0 : 0 ≤ av := by omega
    have hsz2 : (s.size : Int) ≤ 1000000 := by omega
    have HI := hide (And.intro hi (And.intro h0 (And.intro hD (And.intro hri (And.intro hav hfv)))))
    have HLD := hide (And.intro hl hDd)
    clear h0 hi hl hDd hri hK hav hfv efv g1
    have hme : (wrI S (at0 S.N n) s i).write av (chk s i) = (wrI S (at0 S.N n) s (i + 1), wrE S (at0 S.N n) s i) := by rw [(unhide HI).2.2.2.2.1]; rfl
    rw [hme] at KW
    clear hme
    have HCB : Hid (∀ (Y : World) (T : DS), ED w Y d T (resBs [(D, .deferred (some [])), (D + 1, .loop r)] :: resBs (bx 0) :: rs) → Y.heap[D + 1]? = X.heap[D + 1]? ∧ Y.heap[D]? = X.heap[D]? ∧ boxH (W.heap.size + 1 + 1 + 1 + 1 + 1) n s.size Y ∧ Y.heap[W.heap.size + 1 + 1 + 1]? = some (.cells #[.int .i64 0] 25 (0, 0)) ∧ ED w Y d T (resBs (bx 0) :: rs)) := fun Y T hY => by
      have hb := hY.drop1.bs
      rw [hbx] at hb
      have q5 := hb (W.heap.size + 1 + 1 + 1 + 1 + 1, .cells #[.int .i64 (n : Int), .int .i64 (s.size : Int)] 111 (0, 0)) (by simp only [sbx, List.mem_cons]; simp)
      have q3 := hb (W.heap.size + 1 + 1 + 1, .cells #[.int .i64 0] 25 (0, 0)) (by simp only [sbx, List.mem_cons]; simp)
      have l1 := hY.bs (D + 1, .loop r) (by simp)
      have l2 := hY.bs (D, .deferred (some [])) (by simp)
      exact ⟨l1.trans (unhide HLD).1.symm, l2.trans (unhide HLD).2.symm, q5, q3, hY.drop1⟩
    obtain ⟨S2, hS2⟩ : ∃ T, T = wrI S (at0 S.N n) s (i + 1) := ⟨_, rfl⟩
    obtain ⟨x, hx⟩ : ∃ x, x = wrE S (at0 S.N n) s i := ⟨_, rfl⟩
    rw [← hS2, ← hx] at KW
    have HSX := hide (And.intro hS2 hx)
    clear hS2 hx
    gi_wp2
    gi_cut [9] from 17 (fun s9 wx => s9 = .int .i64 x ∧ Hid (ED w wx d S2 (resBs [(D, .deferred (some [])), (D + 1, .loop r)] :: resBs (bx 0) :: rs)))
    case first =>
      gi_region_with_o (first
        | (refine ⟨trivial, rfl, ?_⟩; gi_at_call 121; refine (CallsIn.inRound _ (callsIn_wide.2 (unhide KW _ E2))).mono ?_; rintro e w5 ⟨rfl, E5⟩)
        | (refine ⟨trivial, rfl, ?_⟩; gi_at_call 119; refine (CallsIn.inRound _ (callsIn_wide.2 (unhide KF _))).mono ?_; rintro e z1 ⟨rfl, b1⟩; have E2 := (unhide HEL).drew.new b1; obtain ⟨v0, v2⟩ := unhide HC z1 E2))
      all_goals
        clear KW KF HC HEL HCB
        gi_wp2
        go_meet
        case rel => exact ⟨rfl, E5⟩
    case rest =>
      obtain ⟨rfl, HE5⟩ := hcut
      obtain ⟨k1, k2, k3, k4, k5⟩ := unhide HCB wc S2 (unhide HE5)
      by_cases hx0 : x = 0
      · subst hx0
        have HP : Hid (postN (fun i X => ED w X d (wrI S (at0 S.N n) s i) (resBs (bx 0) :: rs) ∧ ∀ j, j < i → wrE S (at0 S.N n) s j = 0) (fun i X => wrE S (at0 S.N n) s i ≠ 0 ∧ (∀ j, j < i → wrE S (at0 S.N n) s j = 0) ∧ ED w X d (wrI S (at0 S.N n) s (i + 1)) (resBs (bx (wrE S (at0 S.N n) s i)) :: rs)) (boxH (W.heap.size + 1 + 1 + 1 + 1 + 1) n s.size) D (D + 1) i X .normal { tmps := #[], defers := [] } wc) :=
          ⟨k1, k2, k3, by rw [← (unhide HSX).1]; exact k5, fun j hj => by
            by_cases c : j = i
            · subst c; exact (unhide HSX).2.symm
            · exact (unhide HI).2.1 j (by omega)⟩
        clear k1 k2 k3 k4 k5 HCB HE5 KW KF HC HEL
        gi_wp2
        exact unhide HP
      · have hne1 : (x != 0) = true := by simp [hx0]
        have hne2 : (x == 0) = false := by simp [hx0]
        have hne3 : decide (x = 0) = false := by simp [hx0]
        have c3 : wc.cell? ⟨W.heap.size + 1 + 1 + 1, 0, none⟩ = some (.int .i64 0) := by simp [World.cell?, k4]
        have f3 : wc.frozen? ⟨W.heap.size + 1 + 1 + 1, 0, none⟩ = false := by simp [World.frozen?, k4]
        have hD6 : W6.heap.size ≤ D := (unhide HI).2.2.1
        have hso : ∀ k, k ≠ W.heap.size + 1 + 1 + 1 → (wc.setCell ⟨W.heap.size + 1 + 1 + 1, 0, none⟩ (.int .i64 x)).heap[k]? = wc.heap[k]? := fun k hk => setc_other hk
        have HP : Hid (postN (fun i X => ED w X d (wrI S (at0 S.N n) s i) (resBs (bx 0) :: rs) ∧ ∀ j, j < i → wrE S (at0 S.N n) s j = 0) (fun i X => wrE S (at0 S.N n) s i ≠ 0 ∧ (∀ j, j < i → wrE S (at0 S.N n) s j = 0) ∧ ED w X d (wrI S (at0 S.N n) s (i + 1)) (resBs (bx (wrE S (at0 S.N n) s i)) :: rs)) (boxH (W.heap.size + 1 + 1 + 1 + 1 + 1) n s.size) D (D + 1) i X .ret { tmps := #[], defers := [] } (wc.setCell ⟨W.heap.size + 1 + 1 + 1, 0, none⟩ (.int .i64 x))) :=
          ⟨(hso (D + 1) (by omega)).trans k1, (hso D (by omega)).trans k2, by rw [← (unhide HSX).2]; exact hx0, (unhide HI).2.1, by
            rw [← (unhide HSX).1, ← (unhide HSX).2]
            exact sbx_set hbx k5 x⟩
        clear k1 k2 k3 k4 k5 HCB HE5 KW KF HC HEL hso
        gi_wp2
        exact unhide HP
  case done =>
    rintro D X hD ⟨hE, h0⟩ hK
    rw [hA0] at h0 hE
    have hwb := wrI_bound S (at0 S.N n) s (rnds s.size)
    have hrn : rnds s.size ≤ 16000 := by unfold rnds; omega
    have HS1 := hide (fun (he : (wrI S (at0 S.N n) s (rnds s.size)).sync.2 ≠ 0) => Saved.sync (S := S) (n := n) (s := s) h0 he)
    have HS2 := hide (fun h1 he => Saved.head (S := S) (n := n) (s := s) h0 h1 he)
    have HS3 := hide (fun h1 h2 => Saved.last (S := S) (n := n) (s := s) h0 h1 h2)
    have hsy := sync_bound (wrI S (at0 S.N n) s (rnds s.size))
    have hwt := write_bound (wrI S (at0 S.N n) s (rnds s.size)).sync.1 (((n + 1) % 2 : Nat) : Int) (hd n s.size)
    have EL := hE.addL (hsb 0) hK hK rfl rfl (by omega) (by omega)
    have K1 := hide (EL.sync (by omega))
    have K2 := hide (fun Y (hY : ED w Y d (wrI S (at0 S.N n) s (rnds s.size)).sync.1 (resBs [(D, .deferred (some [])), (D, .deferred (some []))] :: resBs (bx 0) :: rs)) => hY.write (by omega) (by omega) (((n + 1) % 2 : Nat) : Int) (hd n s.size) (by rw [hd_size]; omega))
    have K3 := hide (fun Y (hY : ED w Y d ((wrI S (at0 S.N n) s (rnds s.size)).sync.1.write (((n + 1) % 2 : Nat) : Int) (hd n s.size)).1 (resBs [(D, .deferred (some [])), (D, .deferred (some []))] :: resBs (bx 0) :: rs)) => hY.sync (by omega))
    have KH := hide (fun Y => half_any n s.size (by omega) Y)
    have KT := hide (fun Y => sector_any n s.size (by omega) (by omega) Y)
    have HC : Hid (∀ (Y : World) (T : DS), ED w Y d T (resBs [(D, .deferred (some [])), (D, .deferred (some []))] :: resBs (bx 0) :: rs) → (Y.cell? ⟨W.heap.size, 0, none⟩ = some (.pointer (some ⟨d, 0, none⟩)) ∧ Y.cell? ⟨W.heap.size + 1, 0, none⟩ = some (.int .i64 (n : Int)) ∧ Y.cell? ⟨W.heap.size + 1, 1, none⟩ = some (.int .i64 (s.size : Int))) ∧ Y.cell? ⟨W.heap.size + 1 + 1 + 1, 0, none⟩ = some (.int .i64 0) ∧ Y.frozen? ⟨W.heap.size + 1 + 1 + 1, 0, none⟩ = false) := fun Y T hY => by
      have hb := hY.drop1.bs
      rw [hbx] at hb
      have q0 := hb _ (List.mem_cons_self ..)
      have q1 := hb (W.heap.size + 1, .cells #[.int .i64 (n : Int), .int .i64 (s.size : Int)] 111 (0, 0)) (by simp only [sbx, List.mem_cons]; simp)
      have q3 := hb (W.heap.size + 1 + 1 + 1, .cells #[.int .i64 0] 25 (0, 0)) (by simp only [sbx, List.mem_cons]; simp)
      exact ⟨⟨by simp [World.cell?, q0], by simp [World.cell?, q1], by simp [World.cell?, q1]⟩, by simp [World.cell?, q3], by simp [World.frozen?, q3]⟩
    have HL := hide (fun (Y : World) (T : DS) (hY : ED w Y d T (resBs [(D, .deferred (some [])), (D, .deferred (some []))] :: resBs (bx 0) :: rs)) (x : Int) (hs : Saved S n s T x) (tmps : Array Value) (ht : tmps[6]?.getD undef = .pointer (some ⟨W.heap.size + 1 + 1 + 1, 0, none⟩)) => save_leave hbx hsb (sbx_set hbx hY.drop1 x) ((setc_other (by omega)).trans (hY.bs (D, .deferred (some [])) (by simp))) (by omega) hs (by omega) ht)
    clear hE h0 hK
    obtain ⟨⟨c0, c1, c2⟩, c3, c4⟩ := unhide HC X _ EL
    generalize wrI S (at0 S.N n) s (rnds s.size) = T0 at *
    generalize hT1 : T0.sync.1 = T1 at *
    generalize hx1 : T0.sync.2 = x1 at *
    generalize (n + 1) % 2 = hf at *
    generalize hd n s.size = hv at *
    generalize hw1 : T1.write (hf : Int) hv = q at *
    obtain ⟨T2, x2⟩ := q
    generalize hT3 : T2.sync.1 = T3 at *
    generalize hx3 : T2.sync.2 = x3 at *
    clear hwb hsy hwt EL
    dsimp only at K2 K3 HS2 HS3
    dsimp only
    go_wp2_with fail
    refine (unhide K1).mono ?_
    rintro e y1 ⟨rfl, E1⟩
    obtain ⟨⟨d0, d1, d2⟩, d3, d4⟩ := unhide HC y1 _ E1
    by_cases hx0 : x1 = 0
    case neg =>
      have hne1 : (x1 != 0) = true := by simp [hx0]
      have hne2 : (x1 == 0) = false := by simp [hx0]
      have hne3 : decide (x1 = 0) = false := by simp [hx0]
      have HF := hide (unhide HL y1 _ E1 x1 (unhide HS1 hx0))
      clear HL HC E1 K1 K2 K3 KH KT HS1 HS2 HS3
      go_wp2_with fail
      exact unhide HF _ rfl
    subst hx0
    obtain ⟨⟨e0, e1, e2⟩, e3, e4⟩ := unhide HC y1.drew _ E1.drew
    go_wp2_with fail
    clear c0 c1 c2 c3 c4 d3 d4 e3 e4
    go_region_held3 (fun w' : World => w'.cell? ⟨W.heap.size, 0, none⟩ = some (.pointer (some ⟨d, 0, none⟩)) ∧ w'.cell? ⟨W.heap.size + 1, 0, none⟩ = some (.int .i64 (n : Int)) ∧ w'.cell? ⟨W.heap.size + 1, 1, none⟩ = some (.int .i64 (s.size : Int))) (first | exact ⟨d0, d1, d2⟩ | exact ⟨e0, e1, e2⟩ | exact p5 | exact p3 | exact p2) (first
      | (go_at_call 121; with_reducible refine (unhide K2 _ E3).mono ?_; rintro e w5 ⟨rfl, E5⟩; have p5 := (unhide HC _ _ E5).1)
      | (go_at_call 107; with_reducible refine (unhide KH _).mono ?_; rintro e z1 ⟨rfl, b1⟩; first | (have E3 := E2.new b1; have p3 := (unhide HC _ _ E3).1) | (have E2 := E1.drew.new b1; have p2 := (unhide HC _ _ E2).1))
      | (go_at_call 105; with_reducible refine (unhide KT _).mono ?_; rintro e z2 ⟨rfl, b2⟩; first | (have E3 := E2.new b2; have p3 := (unhide HC _ _ E3).1) | (have E2 := E1.drew.new b2; have p2 := (unhide HC _ _ E2).1)))
    all_goals
      clear d0 d1 d2 e0 e1 e2 E1 E2 E3 p2 p3 b1 b2
      obtain ⟨⟨d0, d1, d2⟩, d3, d4⟩ := unhide HC w5 _ E5
      by_cases hx2 : x2 = 0
      case neg =>
        have hne1 : (x2 != 0) = true := by simp [hx2]
        have hne2 : (x2 == 0) = false := by simp [hx2]
        have hne3 : decide (x2 = 0) = false := by simp [hx2]
        have HF := hide (unhide HL w5 _ E5 x2 (unhide HS2 (by trivial) hx2))
        clear HL HC E5 K1 K2 K3 KH KT HS1 HS2 HS3
        go_wp2_with fail
        exact unhide HF _ rfl
      subst hx2
      go_wp2_with fail
      refine (unhide K3 _ E5).mono ?_
      rintro e y3 ⟨rfl, E6⟩
      obtain ⟨⟨d0, d1, d2⟩, d3, d4⟩ := unhide HC y3 _ E6
      have HF := hide (unhide HL y3 _ E6 x3 (unhide HS3 (by trivial) (by trivial)))
      clear HL HC E5 E6 K1 K2 K3 KH KT HS1 HS2 HS3
      go_wp2_with fail
      exact unhide HF _ rfl
  case stop =>
    rintro D i X hD hi ⟨e1, e2, hE⟩ hK
    rw [hA0] at e1 e2 hE
    refine (wpIn_wide (n := 2)).2 ?_
    have HL := hide (fun (tmps : Array Value) (ht : tmps[6]?.getD undef = .pointer (some ⟨W.heap.size + 1 + 1 + 1, 0, none⟩)) => save_leave hbx hsb hE hK (by omega) (Saved.text i hi e2 e1) (by omega) ht)
    clear hE e1 e2
    go_wp2_with fail
    exact unhide HL _ rfl

end Go.Proofs.YtfnpeiikjiffeaaGreat
