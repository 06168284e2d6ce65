/- Texts joined: RoL RoD RoE RoP RoF. -/
import Derived.Test.YtgmlkofogeoocaaGreatDoorZ21
import Derived.Test.YtgmlkofogeoocaaGreatDoorPoV
import Derived.RangeFuncNested
import Derived.RangeFuncBound
import Derived.RangeFuncCalls
import Derived.RangeFuncLeaves
import Derived.OwnWalkIn
import Derived.TacticsInMore
import Derived.LoopNIn
import Derived.LoopIn
import Derived.Deep.RegionHeld3
/- A law for a range over a function of one's own, as in layer 9 (mkRoL.py writes it out of PcL). -/
namespace Go.Proofs.YtgmlkofogeoocaaGreatDoor
open Go.RowKit Go.Maps
def isLq : Obj → Bool
  | .loop _ => true
  | .deferred _ => true
  | _ => false
def SeqR (P : Program) (gf : Nat) (lb : Array Value) (N : Nat) (enc : Nat → Array Value) (K0 : World → Prop) (W : World) : Prop :=
  ∀ (l : Nat) (J : Nat → Value → List Int → World → Prop) (Jx : Nat → World → Prop) (X : World), Below W.heap.size W X → (∀ i qv ql A B, J i qv ql A → Below A.heap.size A B → J i qv ql B) →
    (∀ i qv ql A B, J i (.slice none 0 0) [] A → Below A.heap.size A B → Ints A.heap.size B qv ql → J i qv ql B) → (∀ i qv ql A, J i qv ql A → Ints 0 A qv ql) →
    (∀ i qv ql W1, i < N → J i qv ql W1 → K0 W1 → YieldAt Fence.wide 0 P l (enc i) W1 fun e W' => (e = .returned (.bool true) ∧ J (i + 1) qv ql W' ∧ K0 W') ∨ (e = .returned (.bool false) ∧ Jx i W')) →
    J 0 (.slice none 0 0) [] X → CallsIn Fence.wide 1 P gf (#[.func (.yield l) #[] #[]] ++ lb) X fun e W' => (∃ v, e = .returned v) ∧ ((∃ qv ql, J N qv ql W') ∨ ∃ i, i < N ∧ Jx i W')
def postR (I : Nat → Value → List Int → World → Prop) (Ix : Nat → World → Prop) (K0 : World → Prop) (D l i : Nat) (qv : Value) (ql : List Int) (W : World) : Exit → Act → World → Prop
  | .normal, _, W' => W'.heap[l]? = W.heap[l]? ∧ W'.heap[D]? = W.heap[D]? ∧ K0 W' ∧ I (i + 1) qv ql W'
  | .ret, _, W' => W'.heap[l]? = W.heap[l]? ∧ W'.heap[D]? = W.heap[D]? ∧ Ix i W'
  | _, _, _ => False
theorem range_ownR {P : Program} {gf : Nat} {lb : Array Value} {N : Nat} {enc : Nat → Array Value} {K0 : World → Prop} {g : Operand} {ps : Array Tmp} {assign body : Code} {Q : Exit → Act → World → Prop} {a : Act} {w : World} (hseq : SeqR P gf lb N enc K0 w)
    (hg : a.eval g = .func (.func gf) #[] lb) (eg : ∀ args w, (callFunc gf args).run P w = .ok (.enter gf args) w) (hps : ∀ i, (enc i).size = ps.size)
    (I : Nat → Value → List Int → World → Prop) (Ix : Nat → World → Prop) (hIa : ∀ i qv ql A B, I i qv ql A → Below A.heap.size A B → I i qv ql B) (hIn : ∀ i qv ql A B, I i (.slice none 0 0) [] A → Below A.heap.size A B → Ints A.heap.size B qv ql → I i qv ql B) (hIh : ∀ i qv ql A, I i qv ql A → Ints 0 A qv ql) (hIl : ∀ i qv ql A b o o', w.heap.size ≤ b → I i qv ql A → A.heap[b]? = some o → isLq o = true → I i qv ql (A.putObj b o')) (hXl : ∀ i A b o o', w.heap.size ≤ b → Ix i A → A.heap[b]? = some o → isLq o = true → Ix i (A.putObj b o'))
    (hKl : ∀ A b o o', w.heap.size ≤ b → K0 A → A.heap[b]? = some o → isLq o = true → K0 (A.putObj b o')) (h0 : I 0 (.slice none 0 0) [] w) (a₁ : Nat → Act)
    (hassign : ∀ (l i : Nat) (W : World) (K : Act → World → Prop), K (a₁ i) W → assign.wpIn (Fence.wide.inRound l) 0 P (Exit.then K (fun _ _ _ => False)) { tmps := (ps.zip (enc i)).foldl (fun t (p, v) => t.setIfInBounds p v) a.tmps, defers := [] } W)
    (hbody : ∀ (D l i : Nat) (qv : Value) (ql : List Int) (W : World) (r : Loop), w.heap.size ≤ D → l = D + 1 → i < N → I i qv ql W → K0 W → W.heap[l]? = some (.loop r) → W.heap[D]? = some (.deferred (some [])) → body.wpIn (Fence.wide.inRound l) 0 P (postR I Ix K0 D l i qv ql W) (a₁ i) W)
    (hdone : ∀ (D : Nat) (qv : Value) (ql : List Int) (W : World), w.heap.size ≤ D → I N qv ql W → W.heap[D]? = some (.deferred (some [])) → Q .normal { a with defers := { target := .collected D, args := #[] } :: a.defers } W)
    (hstop : ∀ (D i : Nat) (W : World), w.heap.size ≤ D → i < N → Ix i W → W.heap[D]? = some (.deferred (some [])) → Code.ret.wpIn Fence.wide 2 P Q { a with defers := { target := .collected D, args := #[] } :: a.defers } W) :
    (Code.rangeFunc g ps assign body).wp P Q a w := by
  refine (wpIn_wide (n := 2)).1 (wpIn_rangeFunc ?_)
  intro fn hfn
  obtain ⟨rec, hrec⟩ : ∃ rec : LoopState → Option Code → Loop, rec = fun st pe => { state := st, pending := pe, fn, tmps := a.tmps, params := ps, assign, body, defers := w.heap.size } := ⟨_, rfl⟩
  obtain ⟨W1, hW1⟩ : ∃ W1, W1 = (w.alloc (.deferred (some []))).alloc (.loop (rec .ready none)) := ⟨_, rfl⟩
  have hl1 : W1.heap[w.heap.size + 1]? = some (.loop (rec .ready none)) := by
    have := heap_alloc_new (w.alloc (.deferred (some []))) (.loop (rec .ready none))
    rw [World.size_alloc] at this
    rw [hW1]; exact this
  have hD1 : W1.heap[w.heap.size]? = some (.deferred (some [])) := by
    rw [hW1, Below.heap_alloc _ _ _ (by simp)]; exact heap_alloc_new _ _
  have hb1 : Below w.heap.size w W1 := by rw [hW1]; exact ((Below.refl _ _).alloc (Nat.le_refl _) _).alloc (by simp) _
  refine ⟨w.heap.size + 1, [{ target := .collected w.heap.size, args := #[] }], W1, { target := .fn (.func gf) lb, args := #[.func (.yield (w.heap.size + 1)) #[] #[]] }, W1, gf, #[.func (.yield (w.heap.size + 1)) #[] #[]] ++ lb, W1, ?_, ?_, fun _ _ => trivial, ?_, (fun h => by cases h), ?_⟩
  · rw [hW1, hrec]; exact run_enterLoop_outer _ _ _ _ _
  · simp only [resolve, hg]
    simp [go_sem]
  · simp [invoke, go_sem, eg]
  · refine (hseq (w.heap.size + 1) (fun i qv ql W => I i qv ql W ∧ W.heap[w.heap.size + 1]? = some (.loop (rec .ready none)) ∧ W.heap[w.heap.size]? = some (.deferred (some []))) (fun i W => Ix i W ∧ W.heap[w.heap.size + 1]? = some (.loop (rec .done (some .ret))) ∧ W.heap[w.heap.size]? = some (.deferred (some []))) W1 hb1 ?_ ?_ ?_ ?_ ⟨hIa 0 _ _ w W1 h0 hb1, hl1, hD1⟩).mono ?_
    · rintro i qv ql A B ⟨q1, q2, q3⟩ hb
      exact ⟨hIa i qv ql A B q1 hb, (hb.block _ (lt_of_blk q2)).trans q2, (hb.block _ (lt_of_blk q3)).trans q3⟩
    · rintro i qv ql A B ⟨q1, q2, q3⟩ hb hq
      exact ⟨hIn i qv ql A B q1 hb hq, (hb.block _ (lt_of_blk q2)).trans q2, (hb.block _ (lt_of_blk q3)).trans q3⟩
    · rintro i qv ql A ⟨q1, q2, q3⟩
      exact hIh i qv ql A q1
    · rintro i qv ql W hiN ⟨hi, hl, hD⟩ hK
      have hlt := lt_of_blk hl
      have hy := run_yield (P := P) (args := enc i) hl (by rw [hrec]; exact hps i)
      rw [hrec] at hy
      refine ⟨fn, _, assign, body, hy, roundIn_of_wpIn hfn (hassign _ i W _ ⟨_, run_beginRound hl (by rw [hrec]), ?_⟩)⟩
      obtain ⟨X, hX⟩ : ∃ X, X = W.putObj (w.heap.size + 1) (.loop { rec .ready none with state := .busy }) := ⟨_, rfl⟩
      have hlX : X.heap[w.heap.size + 1]? = some (.loop { rec .ready none with state := .busy }) := by rw [hX]; exact World.putObj_heap_same hlt
      have hDX : X.heap[w.heap.size]? = some (.deferred (some [])) := by rw [hX, World.putObj_heap_other (by omega)]; exact hD
      rw [← hX]
      refine wpIn_mono (hbody w.heap.size _ i qv ql X _ (Nat.le_refl _) rfl hiN (by rw [hX]; exact hIl i qv ql W _ _ _ (by omega) hi hl rfl) (by rw [hX]; exact hKl W _ _ _ (by omega) hK hl rfl) hlX hDX) ?_
      rintro e a3 W3 hp
      cases e with
      | normal =>
        obtain ⟨k1, k2, k3, k4⟩ := hp
        have hl3 : W3.heap[w.heap.size + 1]? = _ := k1.trans hlX
        have hr := run_endRound (P := P) none hl3
        refine ⟨_, _, hr, Or.inl ⟨rfl, ⟨hIl _ _ _ _ _ _ _ (by omega) k4 hl3 rfl, ?_, ?_⟩, hKl _ _ _ _ (by omega) k3 hl3 rfl⟩⟩
        · rw [World.putObj_heap_same (lt_of_blk hl3), hrec]; rfl
        · rw [World.putObj_heap_other (by omega)]; exact k2.trans hDX
      | ret =>
        obtain ⟨k1, k2, k4⟩ := hp
        have hl3 : W3.heap[w.heap.size + 1]? = _ := k1.trans hlX
        have hr := run_endRound (P := P) (some .ret) hl3
        refine ⟨_, _, hr, Or.inr ⟨rfl, hXl _ _ _ _ _ (by omega) k4 hl3 rfl, ?_, ?_⟩⟩
        · rw [World.putObj_heap_same (lt_of_blk hl3), hrec]; rfl
        · rw [World.putObj_heap_other (by omega)]; exact k2.trans hDX
      | exit id => exact hp.elim
      | goto t => exact hp.elim
      | panic ch => exact hp.elim
      | outgrown => exact hp.elim
    · rintro e W2 ⟨⟨v, rfl⟩, ⟨qv, ql, hi, hl, hD⟩ | ⟨i, hiN, hi, hl, hD⟩⟩
      · have he := run_endLoop (P := P) hl (by rw [hrec]; simp)
        refine ⟨none, _, by rw [hrec] at he; exact he, hdone w.heap.size qv ql _ (Nat.le_refl _) (hIl _ _ _ _ _ _ _ (by omega) hi hl rfl) ?_⟩
        rw [World.putObj_heap_other (by omega)]; exact hD
      · have he := run_endLoop (P := P) hl (by rw [hrec]; simp)
        refine ⟨some .ret, _, by rw [hrec] at he; exact he, hstop w.heap.size i _ (Nat.le_refl _) hiN (hXl _ _ _ _ _ (by omega) hi hl rfl) ?_⟩
        rw [World.putObj_heap_other (by omega)]; exact hD
end Go.Proofs.YtgmlkofogeoocaaGreatDoor

/- The members of two trees, as roster.members hands them on. -/
namespace Go.Proofs.YtgmlkofogeoocaaGreatDoor
open Go.RowKit Go.Maps
attribute [local go_sem] Oper.semAt_some
set_option maxRecDepth 100000 in
theorem roMembers_any (v1 v2 : Value) (W : World) : Calls Tryz.prog 30 #[.agg #[v1], .agg #[v2]] W fun e W' => e = .returned (.func (.func 45) #[] #[.pointer (some ⟨W.heap.size, 0, none⟩), .pointer (some ⟨W.heap.size + 1, 0, none⟩)]) ∧ W' = (W.alloc (.cells #[v1] 30)).alloc (.cells #[v2] 30) := by
  go_enter Tryz.func30, Tryz.ntmps30
  go_wp2_with fail
  go_ret
  exact ⟨rfl, rfl⟩
def nthR (l : List Int) (i : Nat) : Int := l.getD i 0
def encR (l : List Int) (i : Nat) : Array Value := #[.int .i64 (nthR l i)]
theorem bw_drewR (w : World) : Below w.heap.size w w.drew := (Below.refl _ _).drew
theorem getD_ofR {l : List Int} {i : Nat} {x : Int} (h : l[i]? = some x) : l.getD i 0 = x := by simp [h]
theorem mems_lenR {T : List Nd} (h : mayB T = true) : (mems T).length ≤ 8 := by
  have h1 := memsOf_len (lvs T)
  rw [lvs_len] at h1
  have := (mayB_15 h).2
  unfold mems
  omega
set_option maxRecDepth 100000 in
set_option maxHeartbeats 2000000 in
theorem seqM_any {W : World} {v1 v2 : Value} {T1 T2 : List Nd} (tb1 tb2 : Nat) (h1 : Trd W v1 T1) (h2 : Trd W v2 T2) (hT : Tab W) (m1 : mayB T1 = true) (m2 : mayB T2 = true) (k1 : W.heap[tb1]? = some (.cells #[v1] 30 (0, 0))) (k2 : W.heap[tb2]? = some (.cells #[v2] 30 (0, 0))) :
    SeqR Tryz.prog 45 #[.pointer (some ⟨tb1, 0, none⟩), .pointer (some ⟨tb2, 0, none⟩)] (uni (mems T1) (mems T2)).length (encR (uni (mems T1) (mems T2))) (fun _ => True) W := by
  intro l J Jx X hX hJ hN hH hY h0
  obtain ⟨a1, c1, hv1⟩ := h1.slice
  obtain ⟨a2, c2, hv2⟩ := h2.slice
  obtain ⟨N1, hN1⟩ : ∃ N, N = T1.length := ⟨_, rfl⟩
  obtain ⟨N2, hN2⟩ : ∃ N, N = T2.length := ⟨_, rfl⟩
  rw [← hN1] at hv1
  rw [← hN2] at hv2
  have hl1 := mems_lenR m1
  have hl2 := mems_lenR m2
  obtain ⟨L1, hL1⟩ : ∃ N, N = (mems T1).length := ⟨_, rfl⟩
  obtain ⟨L2, hL2⟩ : ∃ N, N = (mems T2).length := ⟨_, rfl⟩
  have HS : Hid (∀ Y, Below X.heap.size X Y → Y.cell? ⟨tb1, 0, none⟩ = some (.slice a1 N1 c1) ∧ Y.cell? ⟨tb2, 0, none⟩ = some (.slice a2 N2 c2)) := fun Y hYb => by
    rw [← hv1, ← hv2]
    exact ⟨blk_c (kept_b k1 (lt_of_blk k1) (bw_tr hX hYb)) rfl, blk_c (kept_b k2 (lt_of_blk k2) (bw_tr hX hYb)) rfl⟩
  have KM1 : Hid (∀ Y, Below X.heap.size X Y → Calls Tryz.prog 47 #[.agg #[.slice a1 N1 c1]] Y fun e w' => ∃ ra rc, e = .returned (.slice ra L1 rc) ∧ Ints Y.heap.size w' (.slice ra L1 rc) (mems T1) ∧ Below Y.heap.size Y w') := fun Y hYb => by
    have := membersX_any (h1.bw (bw_tr hX hYb)) (hT.bw (bw_tr hX hYb))
    rw [if_pos m1, hv1] at this
    refine Calls.mono this ?_
    rintro e w' ⟨r, rfl, hr, hb⟩
    obtain ⟨ra, rc, rfl⟩ := own_slice hr
    rw [hL1]
    exact ⟨ra, rc, rfl, hr, hb⟩
  have KM2 : Hid (∀ Y, Below X.heap.size X Y → Calls Tryz.prog 47 #[.agg #[.slice a2 N2 c2]] Y fun e w' => ∃ ra rc, e = .returned (.slice ra L2 rc) ∧ Ints Y.heap.size w' (.slice ra L2 rc) (mems T2) ∧ Below Y.heap.size Y w') := fun Y hYb => by
    have := membersX_any (h2.bw (bw_tr hX hYb)) (hT.bw (bw_tr hX hYb))
    rw [if_pos m2, hv2] at this
    refine Calls.mono this ?_
    rintro e w' ⟨r, rfl, hr, hb⟩
    obtain ⟨ra, rc, rfl⟩ := own_slice hr
    rw [hL2]
    exact ⟨ra, rc, rfl, hr, hb⟩
  have KC : Hid (∀ (z1 z2 : World) (r1 r2 : Value), Ints X.heap.size z1 r1 (mems T1) → Below z1.heap.size z1 z2 → Ints z1.heap.size z2 r2 (mems T2) → Calls Tryz.prog 46 #[.slice (some ⟨z2.heap.size, 0, none⟩) 2 2] (z2.alloc (.cells #[r1, r2] 38)) fun e w' => ∃ v, e = .returned v ∧ Ints z2.heap.size w' v (mems T1 ++ mems T2) ∧ Below z2.heap.size z2 w') := fun z1 z2 r1 r2 i1 hb i2 => by
    have ba : Below z2.heap.size z2 (z2.alloc (.cells #[r1, r2] 38)) := bwA _ _
    have e1 : Nums (z2.alloc (.cells #[r1, r2] 38)) r1 (mems T1) := (Ints.nums i1).bwR (bw_tr hb ba)
    have e2 : Nums (z2.alloc (.cells #[r1, r2] 38)) r2 (mems T2) := (Ints.nums i2).bwR ba
    refine Calls.mono (concat2_any (b := z2.heap.size) (c := 2) (blk_c (heap_alloc_new _ _) rfl) (blk_c (heap_alloc_new _ _) rfl) e1 e2 (by omega) (by omega)) ?_
    rintro e w' ⟨v, rfl, hv, hb'⟩
    exact ⟨v, rfl, own_mono hv ba.size, bw_tr ba hb'⟩
  have HY := hide hY
  have HJ := hide (And.intro h0 (And.intro hJ (And.intro hN hH)))
  have S0 := unhide HS X (Below.refl _ _)
  have S1 := unhide HS X.drew (bw_drewR _)
  have HLn : Hid ((mems T1 ++ mems T2).length ≤ 16) := by apply hide; rw [List.length_append]; omega
  obtain ⟨ml, hml⟩ : ∃ m, m = mems T1 ++ mems T2 := ⟨_, rfl⟩
  have hu : uni (mems T1) (mems T2) = Lib.compact (srI ml) := by unfold uni; rw [hml]
  rw [← hml] at HLn KC
  rw [hu] at HY ⊢
  obtain ⟨ql, hql⟩ : ∃ q, q = Lib.compact (srI ml) := ⟨_, rfl⟩
  rw [← hql] at HY ⊢
  obtain ⟨M, hM⟩ : ∃ M, M = ql.length := ⟨_, rfl⟩
  rw [← hM] at HY ⊢
  have HQ := hide (And.intro hql hM)
  clear hql hM
  clear hL1 hL2 h1 h2 hT m1 m2 k1 k2 hX hJ hN hH hY h0 hv1 hv2 hN1 hN2 hl1 hl2 hu
  refine callsIn_of_wp Tryz.func45 rfl trivial ?_ rfl
  simp only [Tryz.ntmps45, List.size_toArray, List.length_cons, List.length_nil, Nat.reduceAdd, Nat.reduceSub, Array.replicate_succ, Array.replicate_zero, List.push_toArray, List.append_toArray, List.nil_append, List.cons_append]
  refine wpIn_wide.2 ?_
  go_wp2_with fail
  go_region_held3 (fun w' : World => w'.cell? ⟨tb1, 0, none⟩ = some (.slice a1 N1 c1) ∧ w'.cell? ⟨tb2, 0, none⟩ = some (.slice a2 N2 c2)) (first | with_reducible exact S0 | with_reducible exact S1 | with_reducible exact S2 | with_reducible exact S3 | with_reducible exact S4 | with_reducible exact S5 | go_keep) (first
    | (go_at_call 46; refine (unhide KC z1 z2 _ _ hr1 b3 hr2).mono ?_; rintro e_ z3 ⟨cv, rfl, hcv, b4⟩; have S5 := unhide HS z3 (bw_tr b23 b4))
    | (go_at_call 47; first | (refine (unhide KM2 z1 b2).mono ?_; rintro e_ z2 ⟨ra2, rc2, rfl, hr2, b3⟩; have b23 := bw_tr b2 b3; have S3 := unhide HS z2 b23; have S4 := unhide HS (z2.alloc (.cells #[.slice ra1 L1 rc1, .slice ra2 L2 rc2] 38)) (bw_tr b23 (bwA _ _))) | (refine (unhide KM1 _ (bw_drewR X)).mono ?_; rintro e_ z1 ⟨ra1, rc1, rfl, hr1', b1⟩; have b2 := bw_tr (bw_drewR X) b1; have hr1 := own_mono hr1' (bw_drewR X).size; have S2 := unhide HS z1 b2))
    | fail)
  all_goals
    obtain ⟨ca, cc, hcve⟩ := own_slice hcv
    obtain ⟨NL, hNL⟩ : ∃ n, n = ml.length := ⟨_, rfl⟩
    rw [← hNL] at hcve
    subst hcve
    have KSo := hide (sortI_any hcv (by have := unhide HLn; omega))
    have HJ2 : Hid (J 0 (.slice none 0 0) [] z2) := (unhide HJ).2.1 0 _ _ X z2 (unhide HJ).1 b23
    have HC := hide (And.intro b4 hcv)
    clear hcv b4 b1 b2 b3 b23 hr1 hr2 hr1' S0 S1 S2 S3 S4 S5 KM1 KM2 KC HS hNL
    go_wp2_with fail
    refine (unhide KSo).mono ?_
    rintro e_ z4 ⟨rfl, i4, f4⟩
    have KCo := hide (compactI_any i4 (by rw [srI_len]; have := unhide HLn; omega))
    have HC4 := hide (And.intro i4 f4)
    clear i4 f4 KSo
    go_wp2_with fail
    refine (unhide KCo).mono ?_
    rintro e_ z5 ⟨qv, rfl, i5, f5⟩
    obtain ⟨qa, qc, hqv⟩ := own_slice i5
    obtain ⟨hql, hM⟩ := unhide HQ
    rw [← hql] at i5 hqv
    rw [← hM] at hqv
    subst hqv
    have b5 : Below z2.heap.size z2 z5 := Fr.toBase (Fr.toBase (unhide HC).1 (unhide HC4).2 (fun z hz => (World.ownsRow.lt (unhide HC).2 z (by simpa using hz)).1)) f5 (fun z hz => (World.ownsRow.lt (unhide HC4).1 z (by simpa using hz)).1)
    have HI : Hid (J 0 (.slice qa M qc) ql z5) := (unhide HJ).2.2.1 0 _ _ z2 z5 (unhide HJ2) b5 i5
    have hMb : (M : Int) ≤ 16 := by
      have h1 := compact_le (srI ml)
      rw [srI_len, ← hql, ← hM] at h1
      have := unhide HLn
      omega
    have HM := hide hM
    clear i5 f5 b5 hql hM HC HC4 HJ2 KCo HLn
    go_wp2_with fail
    refine (wpIn_wide (n := 1)).1 ?_
    gi_loopw [18] (fun kv wr => ∃ k : Nat, k ≤ M ∧ kv = .int .i64 (k : Int) ∧ Hid (J k (.slice qa M qc) ql wr)) (fun kv _ => (M - intOf kv).toNat)
    case atStart => exact ⟨0, by omega, rfl, HI⟩
    case round =>
      clear HI
      obtain ⟨k, hk, rfl, HR⟩ := hrel
      by_cases hlt : k < M
      · obtain ⟨y, hy0⟩ : ∃ y, ql[k]? = some y := ⟨_, List.getElem?_eq_getElem (by have := unhide HM; omega)⟩
        have hrow := (unhide HJ).2.2.2 _ _ _ _ (unhide HR)
        obtain ⟨dg, cp, hde, -⟩ := own_open hrow (by have := unhide HM; omega)
        simp only [Value.slice.injEq] at hde
        obtain ⟨rfl, -, -⟩ := hde
        have cd : wr.cell? ⟨dg, k, none⟩ = some (.int .i64 y) := own_cell hrow (g := dg) rfl (j := k) (u := I64 y) (by simp [hy0])
        have q1 : (k : Int) < (M : Int) := by omega
        obtain ⟨fn, tmps, assign, body, hy, hR⟩ := unhide HY k _ _ wr hlt (unhide HR) trivial
        rw [encR, nthR, getD_ofR hy0] at hy
        have HI := hide hlt
        clear HR hrow hlt hk hy0
        gi_wp2
        refine hR.mono ?_
        rintro e W3 (⟨rfl, hJ3, -⟩ | ⟨rfl, hJx3⟩)
        · have HR3 := hide hJ3
          clear hJ3 hR hy cd
          gi_wp2
          go_roundw
          case rel => exact ⟨k + 1, by have := unhide HI; omega, by go_num, HR3⟩
          case measure => have := unhide HI; simp only [intOf]; omega
        · have HJ3 : Hid (Jx k W3) := hJx3
          clear hJx3 hR hy cd
          gi_wp2
          refine bodyPost_ret (results_none rfl _ _ _) rfl ?_
          exact ⟨⟨_, rfl⟩, Or.inr ⟨k, unhide HI, unhide HJ3⟩⟩
      · obtain rfl : k = M := by omega
        have HJ3 : Hid (∃ qv ql, J k qv ql wr) := ⟨_, _, unhide HR⟩
        clear HR hlt hk
        gi_wp2
        go_end0
        exact ⟨⟨_, rfl⟩, Or.inl (unhide HJ3)⟩
end Go.Proofs.YtgmlkofogeoocaaGreatDoor

/- Things that lie apart, and a loop's own blocks beside them; boxes as one thing. No walk is in this text. -/
namespace Go.Proofs.YtgmlkofogeoocaaGreatDoor
open Go.RowKit Go.Maps
theorem permR_up {α : Type} {l : List α} {n : Nat} {a : α} (h : l[n]? = some a) : l.Perm (a :: l.eraseIdx n) := by
  induction l generalizing n with
  | nil => simp at h
  | cons b l ih =>
    cases n with
    | zero => simp at h; subst h; simp
    | succ n => exact ((ih (by simpa using h)).cons b).trans (List.Perm.swap a b _)
theorem Env.permR {w wr : World} {rs rs' : List Res} (h : Env w wr rs) (hp : rs.Perm rs') : Env w wr rs' :=
  ⟨h.bel, fun r hr => h.hold r (hp.mem_iff.2 hr), fun r hr => h.low r (hp.mem_iff.2 hr), (hp.pairwise_iff (fun {_ _} hd x hx c => hd x c hx)).1 h.dis⟩
theorem Env.upR {w wr : World} {rs : List Res} {r : Res} (h : Env w wr rs) (n : Nat) (hn : rs[n]? = some r) : Env w wr (r :: rs.eraseIdx n) := h.permR (permR_up hn)
theorem Env.nthR {w wr : World} {rs : List Res} {r : Res} (h : Env w wr rs) (n : Nat) (hn : rs[n]? = some r) : r.P wr := h.hold r (List.mem_of_getElem? hn)
def rsC (k : Nat) (cs : Array Value) (t : TypeId) : Res := ⟨[k], fun w => w.heap[k]? = some (.cells cs t (0, 0)), fun w w' S h hf hd => (hf.block k (lt_of_blk h) (hd k (by simp))).trans h, fun w h x hx => by simp at hx; subst hx; exact lt_of_blk h⟩
def rsI (v : Value) (l : List Int) : Res := ⟨v.ownBlock.toList, fun w => Ints 0 w v l, fun _ _ _ h hf hd => own_keep h (fun k hk => hf.block k (World.ownsRow.lt h k hk).2 (hd k (by simpa using hk))), fun _ h x hx => (World.ownsRow.lt h x (by simpa using hx)).2⟩
def rsX (v : Value) (l : List Bx) (xs : List (Value × List Mx)) : Res := ⟨zK kBx v xs, fun w => OwL kBx 0 w v l xs, fun _ _ _ h hf hd => h.keep (fun k hk => hf.block k (h.lt k hk).2 (hd k hk)), fun _ h x hx => (h.lt x hx).2⟩
theorem Env.newC {w W : World} {rs : List Res} (h : Env w W rs) (cs : Array Value) (t : TypeId) : Env w (W.alloc (.cells cs t)) (rsC W.heap.size cs t :: rs) :=
  h.add (rsC W.heap.size cs t) (bwA _ _) (heap_alloc_new _ _) (by intro x hx; simp [rsC] at hx; omega)
theorem Env.nilI {w W : World} {rs : List Res} (h : Env w W rs) : Env w W (rsI (.slice none 0 0) [] :: rs) :=
  h.add (rsI (.slice none 0 0) []) (Below.refl _ _) (World.ownsRow_nil _ _ _ _) (by intro x hx; simp [rsI, Value.ownBlock] at hx)
theorem Env.swapI {w A B : World} {qv : Value} {ql : List Int} {rs : List Res} (h : Env w A (rsI (.slice none 0 0) [] :: rs)) (hb : Below A.heap.size A B) (hq : Ints A.heap.size B qv ql) : Env w B (rsI qv ql :: rs) :=
  h.drop.add (rsI qv ql) hb (own_mono hq (Nat.zero_le _)) (fun x hx => (World.ownsRow.lt hq x (by simpa [rsI] using hx)).1)
theorem Env.pokeC {w W : World} {k i : Nat} {cs : Array Value} {t : TypeId} {rs : List Res} (h : Env w W (rsC k cs t :: rs)) (v : Value) : Env w (W.setCell ⟨k, i, none⟩ v) (rsC k (cs.setIfInBounds i v) t :: rs) :=
  h.step (r' := rsC k (cs.setIfInBounds i v) t) ⟨(Fr.refl _ _).setCell (a := ⟨k, i, none⟩) (Or.inr (by simp [rsC])) v, fun _ hx => Or.inl hx⟩ (pokes_at [v] W i cs h.hd)
theorem Env.swapX {w A B : World} {v v' : Value} {l l' : List Bx} {xs xs' : List (Value × List Mx)} {rs : List Res} (h : Env w A (rsX v l xs :: rs)) (hb : Below A.heap.size A B) (ho : OwL kBx A.heap.size B v' l' xs') : Env w B (rsX v' l' xs' :: rs) :=
  h.drop.add (rsX v' l' xs') hb (ho.mono (Nat.zero_le _)) (fun x hx => (ho.lt x hx).1)
def SolidR (r : Res) : Prop := ∀ W, r.P W → ∀ x ∈ r.Z, ∀ o, W.heap[x]? = some o → isLq o = false
theorem own_cellsR {B : Nat} {w : World} {e : TypeId} {c : Nat} {v : Value} {n : Nat} {xs : List Value} (h : w.ownsRow B e c v n xs) {k : Nat} (hk : v.ownBlock = some k) {o : Obj} (ho : w.heap[k]? = some o) : isLq o = false := by
  rcases h.2 with ⟨rfl, _⟩ | ⟨g, cap, cur, rfl, _, hg, _⟩
  · cases hk
  · simp [Value.ownBlock] at hk; subst hk; rw [hg] at ho; cases ho; rfl
theorem solidR_C (k : Nat) (cs : Array Value) (t : TypeId) : SolidR (rsC k cs t) := fun W h x hx o ho => by
  simp [rsC] at hx; subst hx
  rw [show W.heap[x]? = some (.cells cs t (0, 0)) from h] at ho; injection ho with ho; subst ho; rfl
theorem solidR_I (v : Value) (l : List Int) : SolidR (rsI v l) := fun W h x hx o ho => own_cellsR (show W.ownsRow 0 3 1 v l.length _ from h) (by simpa [rsI] using hx) ho
theorem owl_solid {α ξ : Type} {K : EK α ξ} {B : Nat} {w : World} {v : Value} {l : List α} {xs : List ξ} (h : OwL K B w v l xs) (hK : ∀ a x, K.O B w a x → ∀ k ∈ K.Z x, ∀ o, w.heap[k]? = some o → isLq o = false) : ∀ k ∈ zK K v xs, ∀ o, w.heap[k]? = some o → isLq o = false := fun k hk o ho => by
  rcases zK_cases hk with c | ⟨i, x, hx, c⟩
  · exact own_cellsR h.row c ho
  · obtain ⟨a, _, hO⟩ := h.elx hx
    exact hK a x hO k c o ho
theorem otr_solid {B : Nat} {w : World} {v : Value} {T : List Nd} {us : List Value} (h : OTr B w v T us) : ∀ k ∈ zK kNd v us, ∀ o, w.heap[k]? = some o → isLq o = false :=
  owl_solid h.owl (fun _ x hO k hk o ho => own_cellsR (e := 3) (c := 1) (v := x) hO (by simpa [kNd] using hk) ho)
theorem om_solid {B : Nat} {w : World} {m : Ml} {x : Mx} (h : OM B w m x) : ∀ k ∈ mxZ x, ∀ o, w.heap[k]? = some o → isLq o = false := fun k hk o ho => by
  rcases List.mem_append.1 hk with q | q
  · rcases cvZ_cases q with c | c | c | c | c
    · exact own_cellsR h.c.adds c ho
    · exact own_cellsR h.c.rem c ho
    · exact own_cellsR h.c.seals c ho
    · exact own_cellsR h.c.joins c ho
    · exact otr_solid h.c.next k c o ho
  · exact otr_solid h.t k q o ho
theorem solidR_X (v : Value) (l : List Bx) (xs : List (Value × List Mx)) : SolidR (rsX v l xs) := fun W h x hx o ho =>
  owl_solid (show OwL kBx 0 W v l xs from h) (fun _ _ hO k hk o ho => owl_solid (K := kMl) hO (fun _ _ hm k hk o ho => om_solid hm k hk o ho) k hk o ho) x hx o ho
theorem frR_putObj (A : World) (b : Nat) (o' : Obj) : Fr [b] A (A.putObj b o') := ⟨rfl, rfl, rfl, by simp [World.putObj], fun k _ hn => World.putObj_heap_other (fun c => hn (by simp [c]))⟩
theorem Env.putL {w A : World} {rs : List Res} {b : Nat} {o o' : Obj} (h : Env w A rs) (hs : ∀ r ∈ rs, SolidR r) (ho : A.heap[b]? = some o) (hl : isLq o = true) (hb : w.heap.size ≤ b) : Env w (A.putObj b o') rs := by
  refine ⟨Fr.toBase h.bel (frR_putObj A b o') (fun x hx => by simp at hx; omega), fun r hr => ?_, h.low, h.dis⟩
  refine r.keep A _ [b] (h.hold r hr) (frR_putObj A b o') (fun x hx c => ?_)
  simp at c; subst c
  have := hs r hr A (h.hold r hr) x hx o ho
  rw [this] at hl; cases hl
def rsL (D l : Nat) (o1 o2 : Obj) : Res := ⟨[D, l], fun w => w.heap[D]? = some o1 ∧ w.heap[l]? = some o2, fun w w' S h hf hd => ⟨(hf.block D (lt_of_blk h.1) (hd D (by simp))).trans h.1, (hf.block l (lt_of_blk h.2) (hd l (by simp))).trans h.2⟩, fun w h x hx => by simp at hx; rcases hx with rfl | rfl; exact lt_of_blk h.1; exact lt_of_blk h.2⟩
theorem Env.addL {w A : World} {rs : List Res} {D l : Nat} {o1 o2 : Obj} (h : Env w A rs) (hs : ∀ r ∈ rs, SolidR r) (h1 : A.heap[D]? = some o1) (h2 : A.heap[l]? = some o2) (l1 : isLq o1 = true) (l2 : isLq o2 = true) (b1 : w.heap.size ≤ D) (b2 : w.heap.size ≤ l) : Env w A (rsL D l o1 o2 :: rs) := by
  refine ⟨h.bel, ?_, ?_, ?_⟩
  · intro r hr
    rcases List.mem_cons.1 hr with rfl | hr
    · exact ⟨h1, h2⟩
    · exact h.hold r hr
  · intro r hr x hx
    rcases List.mem_cons.1 hr with rfl | hr
    · simp [rsL] at hx; rcases hx with rfl | rfl <;> assumption
    · exact h.low r hr x hx
  · refine List.Pairwise.cons (fun s hsm x hx c => ?_) h.dis
    simp [rsL] at hx
    rcases hx with rfl | rfl
    · have := hs s hsm A (h.hold s hsm) x c _ h1; rw [this] at l1; cases l1
    · have := hs s hsm A (h.hold s hsm) x c _ h2; rw [this] at l2; cases l2
end Go.Proofs.YtgmlkofogeoocaaGreatDoor

/- Boxes behind a commit of an account, plainly. No walk is in this text. -/
namespace Go.Proofs.YtgmlkofogeoocaaGreatDoor
open Go.RowKit Go.Maps
theorem idx_devR {l : List Bx} (h : mayP l) {i j : Nat} {a c : Bx} (hi : l[i]? = some a) (hj : l[j]? = some c) (hd : a.dev = c.dev) : i = j := by
  rcases Nat.lt_trichotomy i j with q | q | q
  · have := ris_monoX h i j a c q hi hj; omega
  · exact q
  · have := ris_monoX h j i c a q hj hi; omega
def opL : List Bx → Int → List Bx
  | [], d => [nbx d]
  | p :: r, d => if p.dev < d then p :: opL r d else nbx d :: p :: r
def mapD (l : List Bx) (d : Int) (f : Bx → Bx) : List Bx := l.map fun b => if b.dev = d then f b else b
def hasD (l : List Bx) (d : Int) : Bool := l.any fun b => decide (b.dev = d)
def hvL (l : List Bx) (d : Int) : List Bx := if hasD l d = true then l else opL l d
def stB (m : Ml) (st : Bool) (b : Bx) : Bx := if st = true then (if b.out = true then b else putN m b) else cloN (if b.out = true then b else putN m b)
def stl (l : List Bx) (d : Int) (m : Ml) (st : Bool) : List Bx := mapD (hvL l d) d (stB m st)
theorem hasD_iff {l : List Bx} {d : Int} : hasD l d = true ↔ ∃ b ∈ l, b.dev = d := by unfold hasD; simp
theorem hasD_not {l : List Bx} {d : Int} (h : ∀ p ∈ l, p.dev ≠ d) : hasD l d = false := by
  cases q : hasD l d
  · rfl
  · obtain ⟨b, h1, h2⟩ := hasD_iff.1 q; exact absurd h2 (h b h1)
theorem insAt_opL {d : Int} : ∀ {l : List Bx} {k : Nat}, AtX l d k → insAt l k (nbx d) = opL l d
  | [], k, h => by
    have := h.le
    simp at this
    subst this
    rfl
  | p :: r, 0, h => by
    have h1 := h.hi 0 p (Nat.le_refl _) rfl
    unfold opL
    rw [if_neg (by omega)]
    rfl
  | p :: r, k + 1, h => by
    have h1 := h.lo 0 p (by omega) rfl
    have h2 : AtX r d k := ⟨by have := h.le; simp at this; exact this, fun i q hi hq => h.lo (i + 1) q (by omega) hq, fun i q hi hq => h.hi (i + 1) q (by omega) hq⟩
    unfold opL
    rw [if_pos h1, ← insAt_opL h2]
    rfl
theorem set_mapD {l : List Bx} {d : Int} {k : Nat} {b : Bx} {f : Bx → Bx} (h : mayP l) (hk : l[k]? = some b) (hd : b.dev = d) : l.set k (f b) = mapD l d f := by
  have hkl := (List.getElem?_eq_some_iff.1 hk).1
  apply List.ext_getElem?
  intro j
  unfold mapD
  rw [List.getElem?_map]
  by_cases c : k = j
  · subst c
    rw [List.getElem?_set_self hkl, hk]
    simp [hd]
  · rw [List.getElem?_set_ne c]
    cases hj : l[j]? with
    | none => rfl
    | some a =>
      have : a.dev ≠ d := fun q => c (idx_devR h hk hj (by rw [hd, q]))
      simp [this]
theorem mapD_mapD {l : List Bx} {d : Int} {f g : Bx → Bx} (hf : ∀ b, (f b).dev = b.dev) : mapD (mapD l d f) d g = mapD l d (fun b => g (f b)) := by
  unfold mapD
  rw [List.map_map]
  apply List.map_congr_left
  intro b _
  simp only [Function.comp]
  by_cases c : b.dev = d
  · rw [if_pos c, if_pos c, if_pos (by rw [hf]; exact c)]
  · rw [if_neg c, if_neg c, if_neg c]
theorem mapD_id {l : List Bx} {d : Int} {f : Bx → Bx} (h : ∀ b ∈ l, b.dev = d → f b = b) : mapD l d f = l := by
  unfold mapD
  induction l with
  | nil => rfl
  | cons b r ih =>
    rw [List.map_cons, ih (fun c hc => h c (List.mem_cons_of_mem _ hc))]
    by_cases q : b.dev = d
    · rw [if_pos q, h b (by simp) q]
    · rw [if_neg q]
theorem mapD_congr {l : List Bx} {d : Int} {f g : Bx → Bx} (h : ∀ b ∈ l, b.dev = d → f b = g b) : mapD l d f = mapD l d g := by
  unfold mapD
  apply List.map_congr_left
  intro b hb
  by_cases q : b.dev = d
  · rw [if_pos q, if_pos q, h b hb q]
  · rw [if_neg q, if_neg q]
theorem mayP_pw {l : List Bx} : mayP l ↔ (∀ b ∈ l, okB b) ∧ l.Pairwise (fun a b => a.dev < b.dev) := by
  constructor
  · intro h
    refine ⟨fun b hb => ?_, ?_⟩
    · obtain ⟨j, hj⟩ := List.getElem?_of_mem hb
      exact (h j b hj).1
    · rw [List.pairwise_iff_getElem]
      intro i j hi hj hij
      exact ris_monoX h i j _ _ hij (List.getElem?_eq_getElem hi) (List.getElem?_eq_getElem hj)
  · rintro ⟨h1, h2⟩ j b hb
    refine ⟨h1 b (List.mem_of_getElem? hb), fun q i hi hq => ?_⟩
    obtain ⟨hj, rfl⟩ := List.getElem?_eq_some_iff.1 hb
    obtain ⟨hi', rfl⟩ := List.getElem?_eq_some_iff.1 hq
    exact (List.pairwise_iff_getElem.1 h2) i j hi' hj (by omega)
theorem opL_mem {d : Int} : ∀ {l : List Bx} {b : Bx}, b ∈ opL l d ↔ b = nbx d ∨ b ∈ l
  | [], b => by simp [opL]
  | p :: r, b => by
    unfold opL
    by_cases c : p.dev < d
    · rw [if_pos c, List.mem_cons, opL_mem (l := r), List.mem_cons]
      constructor
      · rintro (h | h | h)
        · exact Or.inr (Or.inl h)
        · exact Or.inl h
        · exact Or.inr (Or.inr h)
      · rintro (h | h | h)
        · exact Or.inr (Or.inl h)
        · exact Or.inl h
        · exact Or.inr (Or.inr h)
    · rw [if_neg c]; simp
theorem opL_pw {d : Int} : ∀ {l : List Bx}, l.Pairwise (fun a b => a.dev < b.dev) → (∀ p ∈ l, p.dev ≠ d) → (opL l d).Pairwise (fun a b => a.dev < b.dev)
  | [], _, _ => by simp [opL]
  | p :: r, h, hn => by
    have h1 := List.pairwise_cons.1 h
    unfold opL
    by_cases c : p.dev < d
    · rw [if_pos c]
      refine List.Pairwise.cons (fun b hb => ?_) (opL_pw h1.2 (fun q hq => hn q (List.mem_cons_of_mem _ hq)))
      rcases opL_mem.1 hb with rfl | hb
      · exact c
      · exact h1.1 b hb
    · rw [if_neg c]
      have hp := hn p (by simp)
      have hlt : d < p.dev := by omega
      refine List.Pairwise.cons (fun b hb => ?_) h
      rcases List.mem_cons.1 hb with rfl | hb
      · exact hlt
      · have := h1.1 b hb; show d < b.dev; omega
theorem opL_len {d : Int} : ∀ (l : List Bx), (opL l d).length = l.length + 1
  | [] => rfl
  | p :: r => by
    unfold opL
    split
    · simp [opL_len r]
    · simp
theorem mapD_mem {l : List Bx} {d : Int} {f : Bx → Bx} {b : Bx} (h : b ∈ mapD l d f) : ∃ c ∈ l, (c.dev = d ∧ b = f c) ∨ (c.dev ≠ d ∧ b = c) := by
  obtain ⟨c, hc, rfl⟩ := List.mem_map.1 h
  by_cases q : c.dev = d
  · exact ⟨c, hc, Or.inl ⟨q, by rw [if_pos q]⟩⟩
  · exact ⟨c, hc, Or.inr ⟨q, by rw [if_neg q]⟩⟩
theorem mayP_mapD {l : List Bx} {d : Int} {f : Bx → Bx} (h : mayP l) (hf : ∀ b, (f b).dev = b.dev ∧ (f b).dn = b.dn) : mayP (mapD l d f) := by
  obtain ⟨h1, h2⟩ := mayP_pw.1 h
  refine mayP_pw.2 ⟨fun b hb => ?_, ?_⟩
  · obtain ⟨c, hc, ⟨_, rfl⟩ | ⟨_, rfl⟩⟩ := mapD_mem hb
    · have := h1 c hc; unfold okB at this ⊢; rw [(hf c).1, (hf c).2]; exact this
    · exact h1 _ hc
  · unfold mapD
    rw [List.pairwise_map]
    refine h2.imp (fun {a b} hab => ?_)
    have e : ∀ c : Bx, (if c.dev = d then f c else c).dev = c.dev := fun c => by
      by_cases q : c.dev = d
      · rw [if_pos q, (hf c).1]
      · rw [if_neg q]
    rw [e, e]; exact hab
theorem stB_dev (m : Ml) (st : Bool) (b : Bx) : (stB m st b).dev = b.dev ∧ (stB m st b).dn = b.dn := by
  unfold stB putN cloN
  by_cases c1 : st = true <;> by_cases c2 : b.out = true <;> simp [c1, c2]
theorem mayP_hvL {l : List Bx} {d : Int} (h : mayP l) (hd : 0 ≤ d ∧ d < 512) : mayP (hvL l d) := by
  unfold hvL
  split
  · exact h
  · next hn =>
    obtain ⟨h1, h2⟩ := mayP_pw.1 h
    refine mayP_pw.2 ⟨fun b hb => ?_, opL_pw h2 (fun p hp q => hn (hasD_iff.2 ⟨p, hp, q⟩))⟩
    rcases opL_mem.1 hb with rfl | hb
    · exact ⟨hd.1, hd.2, by simp [nbx], by simp [nbx]⟩
    · exact h1 b hb
theorem mayP_stl {l : List Bx} {d : Int} {m : Ml} {st : Bool} (h : mayP l) (hd : 0 ≤ d ∧ d < 512) : mayP (stl l d m st) := mayP_mapD (mayP_hvL h hd) (stB_dev m st)
structure SzX (k : Nat) (l : List Bx) : Prop where
  n : l.length ≤ k
  b : ∀ b ∈ l, b.ml.length ≤ k ∧ ∀ m ∈ b.ml, SmM m
theorem SzX.sm {n : Nat} {l : List Bx} (h : SzX n l) (hn : n ≤ 1073741824) : SmX l := ⟨Nat.le_trans h.n hn, fun b hb => ⟨Nat.le_trans (h.b b hb).1 hn, (h.b b hb).2⟩⟩
theorem SzX.mono {n k : Nat} {l : List Bx} (h : SzX n l) (hn : n ≤ k) : SzX k l := ⟨Nat.le_trans h.n hn, fun b hb => ⟨Nat.le_trans (h.b b hb).1 hn, (h.b b hb).2⟩⟩
theorem SzX.hv {n : Nat} {l : List Bx} (h : SzX n l) (d : Int) : SzX (n + 1) (hvL l d) := by
  unfold hvL
  split
  · exact h.mono (by omega)
  · refine ⟨by rw [opL_len]; have := h.n; omega, fun b hb => ?_⟩
    rcases opL_mem.1 hb with rfl | hb
    · exact ⟨by simp [nbx], by simp [nbx]⟩
    · exact ⟨Nat.le_succ_of_le (h.b b hb).1, (h.b b hb).2⟩
theorem SzX.st {n : Nat} {l : List Bx} (h : SzX n l) (d : Int) {m : Ml} (hm : SmM m) (st : Bool) : SzX (n + 1) (stl l d m st) := by
  refine ⟨by unfold stl mapD; rw [List.length_map]; exact (h.hv d).n, fun b hb => ?_⟩
  have base : ∀ c ∈ hvL l d, c.ml.length ≤ n ∧ ∀ x ∈ c.ml, SmM x := fun c hc => by
    unfold hvL at hc
    split at hc
    · exact h.b c hc
    · rcases opL_mem.1 hc with rfl | hc
      · exact ⟨by simp [nbx], by simp [nbx]⟩
      · exact h.b c hc
  obtain ⟨c, hc, ⟨_, rfl⟩ | ⟨_, rfl⟩⟩ := mapD_mem hb
  · have h1 := base c hc
    have h2 : (putN m c).ml.length ≤ n + 1 ∧ ∀ x ∈ (putN m c).ml, SmM x := by
      refine ⟨by unfold putN; simp; exact h1.1, fun x hx => ?_⟩
      rcases List.mem_append.1 hx with q | q
      · exact h1.2 x q
      · simp at q; subst q; exact hm
    have h3 : c.ml.length ≤ n + 1 ∧ ∀ x ∈ c.ml, SmM x := ⟨by omega, h1.2⟩
    unfold stB cloN
    by_cases c1 : st = true <;> by_cases c2 : c.out = true <;> simp only [c1, c2, if_true, if_false, Bool.false_eq_true]
    · exact h3
    · exact h2
    · exact h3
    · exact h2
  · exact ⟨Nat.le_succ_of_le (base _ hc).1, (base _ hc).2⟩
def hsB (l : List Bx) (e : Int) : Option Bool := (l.find? fun b => decide (b.dev = e)).map (·.out)
theorem hsB_mapD {d e : Int} {f : Bx → Bx} (hf : ∀ b, (f b).dev = b.dev) : ∀ (l : List Bx), hsB (mapD l d f) e = if e = d then (l.find? fun b => decide (b.dev = e)).map (fun b => (f b).out) else hsB l e
  | [] => by simp [hsB, mapD]
  | b :: r => by
    have ih := hsB_mapD (d := d) (e := e) hf r
    unfold hsB mapD at ih ⊢
    rw [List.map_cons, List.find?_cons, List.find?_cons]
    by_cases c : b.dev = d
    · rw [if_pos c, hf]
      by_cases q : b.dev = e
      · rw [decide_eq_true q]
        have : e = d := by rw [← q, c]
        simp [this]
      · rw [decide_eq_false q]; simpa using ih
    · rw [if_neg c]
      by_cases q : b.dev = e
      · rw [decide_eq_true q]
        have : e ≠ d := by rw [← q]; exact c
        simp [this]
      · rw [decide_eq_false q]; simpa using ih
theorem find_none {l : List Bx} {d : Int} (h : hasD l d = false) : (l.find? fun b => decide (b.dev = d)) = none := by
  rw [List.find?_eq_none]
  intro b hb q
  have := hasD_iff.2 ⟨b, hb, by simpa using q⟩
  rw [h] at this; cases this
theorem find_opL {d e : Int} : ∀ (l : List Bx), ((opL l d).find? fun b => decide (b.dev = e)) = if e = d then (if (∃ p ∈ l, p.dev = d ∧ False) then none else (opL l d).find? fun b => decide (b.dev = e)) else l.find? fun b => decide (b.dev = e)
  | [] => by
    by_cases c : e = d
    · simp [c]
    · simp [opL, nbx, c]
      exact fun q => c q.symm
  | p :: r => by
    by_cases c : e = d
    · simp [c]
    · rw [if_neg c]
      have ih := find_opL (d := d) (e := e) r
      rw [if_neg c] at ih
      unfold opL
      by_cases q : p.dev < d
      · rw [if_pos q, List.find?_cons, List.find?_cons, ih]
      · rw [if_neg q, List.find?_cons, decide_eq_false (show ¬ (nbx d).dev = e from fun z => c (by rw [← z]; rfl))]
theorem opL_self {d : Int} : ∀ {l : List Bx}, (∀ p ∈ l, p.dev ≠ d) → ((opL l d).find? fun b => decide (b.dev = d)) = some (nbx d)
  | [], _ => by simp [opL, nbx]
  | p :: r, h => by
    unfold opL
    by_cases q : p.dev < d
    · rw [if_pos q, List.find?_cons, decide_eq_false (by omega)]
      exact opL_self (fun z hz => h z (List.mem_cons_of_mem _ hz))
    · rw [if_neg q, List.find?_cons, decide_eq_true (show (nbx d).dev = d from rfl)]
theorem hsB_stl {l : List Bx} {d e : Int} {m : Ml} {st : Bool} : hsB (stl l d m st) e = if e = d then some (!st || (hsB l d).getD false) else hsB l e := by
  unfold stl
  rw [hsB_mapD (fun b => (stB_dev m st b).1)]
  have hout : ∀ b : Bx, (stB m st b).out = (!st || b.out) := fun b => by
    unfold stB putN cloN
    cases st <;> cases h : b.out <;> simp [h]
  by_cases c : e = d
  · subst c
    rw [if_pos rfl, if_pos rfl]
    unfold hvL
    by_cases q : hasD l e = true
    · rw [if_pos q]
      obtain ⟨b, hb, hd⟩ := hasD_iff.1 q
      unfold hsB
      cases hf : l.find? fun b => decide (b.dev = e) with
      | none => rw [List.find?_eq_none] at hf; exact absurd (by simpa using hd) (hf b hb)
      | some a => simp [hout]
    · rw [if_neg q]
      have q' : hasD l e = false := by simpa using q
      rw [opL_self (fun p hp z => q (hasD_iff.2 ⟨p, hp, z⟩))]
      unfold hsB
      rw [find_none q']
      simp [hout, nbx]
  · rw [if_neg c, if_neg c]
    unfold hvL
    split
    · rfl
    · unfold hsB
      have := find_opL (d := d) (e := e) l
      rw [if_neg c] at this
      rw [this]
end Go.Proofs.YtgmlkofogeoocaaGreatDoor

/- Where users, groups and devices are at home; what becomes of the boxes with one member (settled). mkRoF.py writes it. -/
namespace Go.Proofs.YtgmlkofogeoocaaGreatDoor
open Go.RowKit Go.Maps
def usrOk (n : Int) : Bool := decide (0 ≤ n ∧ n < 64)
def devOk (n : Int) : Bool := decide (0 ≤ n ∧ n < 512)
theorem roIsUser_any (n : Int) (w : World) : Calls Tryz.prog 19 #[.int .i64 n] w fun e w' => e = .returned (.bool (usrOk n)) ∧ w' = w := by
  unfold usrOk
  by_cases h0 : 0 ≤ n
  · by_cases h1 : n < 64
    · rw [decide_eq_true ⟨h0, h1⟩]
      go_enter Tryz.func19, Tryz.ntmps19
      go_wp2
      go_ret
      exact ⟨by simp, rfl⟩
    · rw [decide_eq_false (by omega)]
      go_enter Tryz.func19, Tryz.ntmps19
      go_wp2
      go_ret
      exact ⟨by simp, rfl⟩
  · rw [decide_eq_false (by omega)]
    have h1 : n < 64 := by omega
    go_enter Tryz.func19, Tryz.ntmps19
    go_wp2
    go_ret
    exact ⟨by simp, rfl⟩
theorem roIsDev_any (n : Int) (w : World) : Calls Tryz.prog 21 #[.int .i64 n] w fun e w' => e = .returned (.bool (devOk n)) ∧ w' = w := by
  unfold devOk
  by_cases h0 : 0 ≤ n
  · by_cases h1 : n < 512
    · rw [decide_eq_true ⟨h0, h1⟩]
      go_enter Tryz.func21, Tryz.ntmps21
      go_wp2
      go_ret
      exact ⟨by simp, rfl⟩
    · rw [decide_eq_false (by omega)]
      go_enter Tryz.func21, Tryz.ntmps21
      go_wp2
      go_ret
      exact ⟨by simp, rfl⟩
  · rw [decide_eq_false (by omega)]
    have h1 : n < 512 := by omega
    go_enter Tryz.func21, Tryz.ntmps21
    go_wp2
    go_ret
    exact ⟨by simp, rfl⟩
theorem roIsCon_any (n : Int) (w : World) : Calls Tryz.prog 20 #[.int .i64 n] w fun e w' => e = .returned (.bool (usrOk n)) ∧ w' = w := by
  unfold usrOk
  by_cases h0 : 0 ≤ n
  · by_cases h1 : n < 64
    · rw [decide_eq_true ⟨h0, h1⟩]
      go_enter Tryz.func20, Tryz.ntmps20
      go_wp2
      go_ret
      exact ⟨by simp, rfl⟩
    · rw [decide_eq_false (by omega)]
      go_enter Tryz.func20, Tryz.ntmps20
      go_wp2
      go_ret
      exact ⟨by simp, rfl⟩
  · rw [decide_eq_false (by omega)]
    have h1 : n < 64 := by omega
    go_enter Tryz.func20, Tryz.ntmps20
    go_wp2
    go_ret
    exact ⟨by simp, rfl⟩
def usrE (n : Int) : Int := if devOk n = true then 0 else 1
def usrV (n : Int) : Int := if devOk n = true then n.tdiv 8 else 0
theorem roUser_any (n : Int) (w : World) : Calls Tryz.prog 7 #[.int .i64 n] w fun e w' => e = .returned (.tuple #[.int .i64 (usrV n), .int .i64 (usrE n)]) ∧ w' = w := by
  unfold usrV usrE
  have K := roIsDev_any n w
  cases hd : devOk n
  · rw [hd] at K
    rw [if_neg (by simp), if_neg (by simp)]
    clear hd
    go_enter Tryz.func7, Tryz.ntmps7
    go_wp2_with fail
    refine K.mono ?_
    rintro e w' ⟨rfl, rfl⟩
    go_wp2
    go_ret2
    exact ⟨rfl, rfl⟩
  · rw [hd] at K
    rw [if_pos rfl, if_pos rfl]
    unfold devOk at hd
    have hq' : 0 ≤ n ∧ n < 512 := by simpa using hd
    obtain ⟨q, hq⟩ : ∃ q, q = n.tdiv 8 := ⟨_, rfl⟩
    have hq0 : q = n / 8 := by rw [hq]; exact Int.tdiv_eq_ediv_of_nonneg hq'.1
    have hq1 : IntKind.i64.wrap (n.tdiv 8) = q := by rw [IntKind.wrap_i64, ← hq]; omega
    have hq2 : 0 ≤ q ∧ q ≤ 63 := by omega
    have hq3 : n.tdiv 8 = q := hq.symm
    rw [← hq]
    clear hq0 hq hd
    go_enter Tryz.func7, Tryz.ntmps7
    go_wp2_with fail
    refine K.mono ?_
    rintro e w' ⟨rfl, rfl⟩
    go_wp2
    go_ret2
    exact ⟨rfl, rfl⟩
theorem has_mapD {l : List Bx} {d : Int} {f : Bx → Bx} (hf : ∀ b, (f b).dev = b.dev) (h : hasD l d = true) : hasD (mapD l d f) d = true := by
  obtain ⟨b, hb, hd⟩ := hasD_iff.1 h
  refine hasD_iff.2 ⟨f b, List.mem_map.2 ⟨b, hb, by rw [if_pos hd]⟩, by rw [hf]; exact hd⟩
theorem smx_put {n : Nat} {l : List Bx} {d : Int} {m : Ml} (h : SzX n l ∧ n ≤ 1000000) (hm : SmM m) : SmX (mapD l d (putN m)) := by
  refine ⟨by unfold mapD; rw [List.length_map]; have := h.1.n; omega, fun b hb => ?_⟩
  obtain ⟨c, hc, ⟨_, rfl⟩ | ⟨_, rfl⟩⟩ := mapD_mem hb
  · have h1 := h.1.b c hc
    refine ⟨by unfold putN; simp; omega, fun x hx => ?_⟩
    rcases List.mem_append.1 hx with q | q
    · exact h1.2 x q
    · simp at q; subst q; exact hm
  · have h1 := h.1.b _ hc
    exact ⟨by omega, h1.2⟩
theorem trn_d {B : Nat} {w' : World} {v' : Value} {er d : Int} {l : List Bx} {E : Bx → Int} {N : Bx → Bx} (hm : mayP l) (hh : hasD l d = true) (hE : ∀ b ∈ l, b.dev = d → E b = 0) (h : Trn B w' v' er l d E N) : er = 0 ∧ ∃ xs', OwL kBx B w' v' (mapD l d N) xs' := by
  obtain ⟨b0, hb0, hd0⟩ := hasD_iff.1 hh
  rcases h with q | q | ⟨k, b, _, q2, q3, q4, q5⟩
  · rw [mayX_iff.2 hm] at q; exact absurd q.2.1 (by simp)
  · exact absurd hd0 (q.2.2.1 b0 hb0)
  · have e0 := hE b (List.mem_of_getElem? q2) q3
    rcases q5 with q | ⟨q, xs', ho⟩
    · exact absurd (q4.trans e0) q.1
    · refine ⟨q, xs', ?_⟩
      rw [← set_mapD hm q2 q3]; exact ho
theorem put_d {w : World} {v : Value} {l : List Bx} {xs : List (Value × List Mx)} {d : Int} (h : RdL kBx w v l xs) (hs : SmX l) (hmy : mayP l) (hh : hasD l d = true) (ho : ∀ b ∈ l, b.dev = d → b.out = false) {m : Ml} {x : Mx} (hm : MlR w m x) (hsm : SmM m) :
    Calls Tryz.prog 51 #[v, .int .i64 d, .agg (mlC m x).toArray] w fun e w' => ∃ v', e = .returned (.tuple #[v', .int .i64 0]) ∧ ∃ xs', OwL kBx w.heap.size w' v' (mapD l d (putN m)) xs' ∧ Below w.heap.size w w' := by
  refine Calls.mono (poPut_any d h hs hm hsm) ?_
  rintro e w' ⟨v', er, rfl, b1, ht⟩
  obtain ⟨rfl, xs', ho'⟩ := trn_d hmy hh (fun b hb hd => by unfold putE; rw [ho b hb hd]; rfl) ht
  exact ⟨v', rfl, xs', ho', b1⟩
theorem close_d {w : World} {v : Value} {l : List Bx} {xs : List (Value × List Mx)} {d : Int} (h : RdL kBx w v l xs) (hs : SmX l) (hmy : mayP l) (hh : hasD l d = true) :
    Calls Tryz.prog 52 #[v, .int .i64 d] w fun e w' => ∃ v', e = .returned (.tuple #[v', .int .i64 0]) ∧ ∃ xs', OwL kBx w.heap.size w' v' (mapD l d cloN) xs' ∧ Below w.heap.size w w' := by
  refine Calls.mono (poClose_any d h hs) ?_
  rintro e w' ⟨v', er, rfl, b1, ht⟩
  rcases ht with q | ht
  · obtain ⟨b0, hb0, hd0⟩ := hasD_iff.1 hh
    have h1 := (mayP_pw.1 hmy).1 b0 hb0
    unfold okB at h1
    exact absurd ⟨by omega, by omega⟩ q.2.1
  · obtain ⟨rfl, xs', ho'⟩ := trn_d hmy hh (fun b hb hd => rfl) ht
    exact ⟨v', rfl, xs', ho', b1⟩
theorem open_d {w : World} {v : Value} {l : List Bx} {xs : List (Value × List Mx)} {d : Int} (h : RdL kBx w v l xs) (hs : SmX l) (hmy : mayP l) (hd : 0 ≤ d ∧ d < 512) (hh : hasD l d = false) :
    Calls Tryz.prog 50 #[v, .int .i64 d] w fun e w' => ∃ v', e = .returned (.tuple #[v', .int .i64 0]) ∧ ∃ xs', OwL kBx w.heap.size w' v' (opL l d) xs' ∧ Below w.heap.size w w' := by
  refine Calls.mono (poOpen_any d h hs) ?_
  rintro e w' ⟨v', er, rfl, b1, ht⟩
  rcases ht with q | q | ⟨rfl, _, _, _, k, xs', hk, ho⟩
  · rcases q.2.1 with c | c
    · rw [mayX_iff.2 hmy] at c; exact absurd c (by simp)
    · exact absurd hd c
  · obtain ⟨p, hp, hq⟩ := q.2.2.1
    rw [hasD_iff.2 ⟨p, hp, hq⟩] at hh; cases hh
  · rw [insAt_opL hk] at ho
    exact ⟨v', rfl, xs', ho, b1⟩
theorem stl_put {l : List Bx} {d : Int} {m : Ml} (ho : ∀ b ∈ hvL l d, b.dev = d → b.out = false) : stl l d m true = mapD (hvL l d) d (putN m) :=
  mapD_congr (fun b hb hd => by unfold stB; simp [ho b hb hd])
theorem stl_shut {l : List Bx} {d : Int} {m : Ml} (ho : ∀ b ∈ hvL l d, b.dev = d → b.out = false) : stl l d m false = mapD (mapD (hvL l d) d (putN m)) d cloN := by
  rw [mapD_mapD (f := putN m) (fun _ => rfl)]
  exact mapD_congr (fun b hb hd => by unfold stB; simp [ho b hb hd])
set_option maxRecDepth 100000 in
set_option maxHeartbeats 4000000 in
theorem settled_any {w : World} {v : Value} {l : List Bx} {xs : List (Value × List Mx)} {n : Nat} (h : RdL kBx w v l xs) (hs : SzX n l) (hn : n ≤ 999999) (hmy : mayP l) (d : Int) (hd : 0 ≤ d ∧ d < 512) {m : Ml} {x : Mx} (hm : MlR w m x) (hsm : SmM m) (st : Bool) :
    Calls Tryz.prog 31 #[v, .int .i64 d, .agg (mlC m x).toArray, .bool st] w fun e w' => ∃ v', e = .returned v' ∧ ((v' = v ∧ stl l d m st = l) ∨ ∃ xs', OwL kBx w.heap.size w' v' (stl l d m st) xs') ∧ Below w.heap.size w w' := by
  obtain ⟨w0, hw0⟩ : ∃ w0, w0 = w.alloc (.cells (mlC m x).toArray 50) := ⟨_, rfl⟩
  have bl : Below w.heap.size w w0 := by rw [hw0]; exact bwA _ _
  have kk : w0.heap[w.heap.size]? = some (.cells (mlC m x).toArray 50 (0, 0)) := by rw [hw0]; exact heap_alloc_new _ _
  have hsx := hs.sm (by omega)
  have KH := hide (poHas_any (w := w0) d (h.bw bl) hsx)
  have KO : Hid (hasD l d = false → ∀ W, Below w0.heap.size w0 W → Calls Tryz.prog 50 #[v, .int .i64 d] W fun e w' => ∃ v', e = .returned (.tuple #[v', .int .i64 0]) ∧ ∃ xs', OwL kBx W.heap.size w' v' (opL l d) xs' ∧ Below W.heap.size W w') := fun hh W hW => open_d ((h.bw bl).bw hW) hsx hmy hd hh
  have HM := hide (And.intro (hm.bw bl) hsm)
  have HB0 := hide bl
  have HW : Hid (w0 = w.alloc (.cells (mlC m x).toArray 50)) := hw0
  have HX := hide (And.intro (h.bw bl) (And.intro hs (And.intro hsx (And.intro hmy (And.intro hd hn)))))
  have HKB : Hid (∀ W, Below w0.heap.size w0 W → W.heap[w.heap.size]? = some (.cells (mlC m x).toArray 50 (0, 0))) := fun W hW => kept_b kk (lt_of_blk kk) hW
  have HI : Hid ((Tryz.prog.info? 50).map (·.size) = some (mlC m x).toArray.size) := infoMlS
  obtain ⟨a, cap, hv⟩ := rdl_slice h
  clear h hs hn hmy hd hm hsm hw0 bl kk hsx hv
  obtain ⟨CS, hCS⟩ : ∃ z, z = mlC m x := ⟨_, rfl⟩
  rw [← hCS] at HW HKB HI ⊢
  have HCS := hide hCS
  clear hCS
  go_enter Tryz.func31, Tryz.ntmps31
  go_upto_region 1 with fail
  rw [← unhide HW]
  clear HW
  go_wp2_with fail
  refine (unhide KH).mono ?_
  rintro e W1 ⟨th, ou, rfl, b1, hh⟩
  obtain ⟨hrd, hs, hsx, hmy, hd, hn⟩ := unhide HX
  rcases hh with ⟨rfl, rfl, hh⟩ | ⟨rfl, _, k, b, q2, q3, rfl⟩
  · have hnone : ∀ p ∈ l, p.dev ≠ d := by
      rcases hh with q | q
      · rw [mayX_iff.2 hmy] at q; cases q
      · exact q
    have hno := hasD_not hnone
    have KO1 := hide (unhide KO hno W1 b1)
    have hv0 : hvL l d = opL l d := by unfold hvL; rw [hno]; rfl
    have hoL' : ∀ b ∈ hvL l d, b.dev = d → b.out = false := by
      rw [hv0]
      intro b hb hbd
      rcases opL_mem.1 hb with rfl | hb
      · rfl
      · exact absurd hbd (hnone b hb)
    have HE := hide (And.intro hv0 hoL')
    have HB1 := hide b1
    clear KH KO hh hnone hno hv0 hoL' hrd hsx hs hn hmy hd b1
    go_wp2_with fail
    refine (unhide KO1).mono ?_
    rintro e W9 ⟨v1, rfl, xs1, ho1, b9⟩
    obtain ⟨_, hs, hsx, hmy, hd, hn⟩ := unhide HX
    have hz1 := hs.hv d
    rw [(unhide HE).1] at hz1
    have HSZ := hide (And.intro hz1 (show n + 1 ≤ 1000000 by omega))
    have hsL : SmX (opL l d) := hz1.sm (by omega)
    have hmL : mayP (opL l d) := by rw [← (unhide HE).1]; exact mayP_hvL hmy hd
    have hL := ho1.bxs hsL.b
    have hhL : hasD (opL l d) d = true := hasD_iff.2 ⟨nbx d, opL_mem.2 (Or.inl rfl), rfl⟩
    have hoL : ∀ b ∈ opL l d, b.dev = d → b.out = false := by rw [← (unhide HE).1]; exact (unhide HE).2
    have bL := bw_tr (unhide HB1) b9
    have KB := unhide HKB W9 bL
    clear ho1 b9 hz1 hs hsx hmy hd hn KO1 HB1
    have hmr := (unhide HM).1.bw bL
    have KP0 := put_d (d := d) hL hsL hmL hhL hoL hmr (unhide HM).2
    rw [← unhide HCS] at KP0
    have KP := hide KP0
    have HL := hide (And.intro hmL (And.intro hhL bL))
    clear hL hsL hmL hhL hoL bL hmr KP0
    go_wp2_with (refine wpList_load_row rfl 50 (.tmp 6) rfl w.heap.size rfl 50 CS.toArray (0, 0) _ KB Tryz.underlying50 rfl (unhide HI) ?_)
    refine (unhide KP).mono ?_
    rintro e W2 ⟨v2, rfl, xs2, ho2, b2⟩
    have b2' := bw_tr (unhide HL).2.2 b2
    cases st with
    | true =>
      have HF : Hid ((v2 = v ∧ stl l d m true = l ∨ ∃ xs', OwL kBx w.heap.size W2 v2 (stl l d m true) xs') ∧ Below w.heap.size w W2) := by
        refine ⟨Or.inr ⟨xs2, ?_⟩, bw_tr (unhide HB0) b2'⟩
        have := ho2.mono (Nat.le_trans (unhide HB0).size (unhide HL).2.2.size)
        rw [stl_put (unhide HE).2, (unhide HE).1]
        exact this
      clear ho2 b2 b2' KP HL
      go_wp2_with fail
      go_ret
      exact ⟨_, rfl, (unhide HF).1, (unhide HF).2⟩
    | false =>
      have KC := hide (close_d (d := d) (ho2.bxs (smx_put (unhide HSZ) (unhide HM).2).b) (smx_put (unhide HSZ) (unhide HM).2) (mayP_mapD (unhide HL).1 (fun b => ⟨rfl, rfl⟩)) (has_mapD (fun b => rfl) (unhide HL).2.1))
      have HO2 := hide (And.intro b2' (unhide HL).2.2)
      clear ho2 b2 b2' KP HL
      go_wp2_with fail
      refine (unhide KC).mono ?_
      rintro e W3 ⟨v3, rfl, xs3, ho3, b3⟩
      have HF : Hid ((v3 = v ∧ stl l d m false = l ∨ ∃ xs', OwL kBx w.heap.size W3 v3 (stl l d m false) xs') ∧ Below w.heap.size w W3) := by
        refine ⟨Or.inr ⟨xs3, ?_⟩, bw_tr (bw_tr (unhide HB0) (unhide HO2).1) b3⟩
        have := ho3.mono (Nat.le_trans (unhide HB0).size (unhide HO2).1.size)
        rw [stl_shut (unhide HE).2, (unhide HE).1]
        exact this
      clear ho3 b3 KC HO2
      go_wp2_with fail
      go_ret
      exact ⟨_, rfl, (unhide HF).1, (unhide HF).2⟩
  · have huniq : ∀ c ∈ l, c.dev = d → c = b := fun c hc hcd => by
      obtain ⟨j, hj⟩ := List.getElem?_of_mem hc
      obtain rfl := idx_devR hmy hj q2 (by rw [hcd, q3])
      rw [q2] at hj; cases hj; rfl
    have hyes : hasD l d = true := hasD_iff.2 ⟨b, List.mem_of_getElem? q2, q3⟩
    have hv0 : hvL l d = l := by unfold hvL; rw [if_pos hyes]
    obtain ⟨ou, hou⟩ : ∃ o, o = b.out := ⟨_, rfl⟩
    rw [← hou]
    cases ou with
    | false =>
      have hoL : ∀ c ∈ l, c.dev = d → c.out = false := fun c hc hcd => by rw [huniq c hc hcd]; exact hou.symm
      have HE : Hid (hvL l d = l ∧ ∀ b ∈ hvL l d, b.dev = d → b.out = false) := ⟨hv0, by rw [hv0]; exact hoL⟩
      have HSZ := hide (And.intro hs (show n ≤ 1000000 by omega))
      have hsL := hsx
      have hmL := hmy
      have hhL := hyes
      have hL := hrd.bw b1
      have bL := b1
      have KB := unhide HKB W1 b1
      clear KH KO hrd hsx hs hn hmy hd b1 q2 q3 huniq hyes hv0 hou
      have hmr := (unhide HM).1.bw bL
      have KP0 := put_d (d := d) hL hsL hmL hhL hoL hmr (unhide HM).2
      rw [← unhide HCS] at KP0
      have KP := hide KP0
      have HL := hide (And.intro hmL (And.intro hhL bL))
      clear hL hsL hmL hhL hoL bL hmr KP0
      go_wp2_with (refine wpList_load_row rfl 50 (.tmp 6) rfl w.heap.size rfl 50 CS.toArray (0, 0) _ KB Tryz.underlying50 rfl (unhide HI) ?_)
      refine (unhide KP).mono ?_
      rintro e W2 ⟨v2, rfl, xs2, ho2, b2⟩
      have b2' := bw_tr (unhide HL).2.2 b2
      cases st with
      | true =>
        have HF : Hid ((v2 = v ∧ stl l d m true = l ∨ ∃ xs', OwL kBx w.heap.size W2 v2 (stl l d m true) xs') ∧ Below w.heap.size w W2) := by
          refine ⟨Or.inr ⟨xs2, ?_⟩, bw_tr (unhide HB0) b2'⟩
          have := ho2.mono (Nat.le_trans (unhide HB0).size (unhide HL).2.2.size)
          rw [stl_put (unhide HE).2, (unhide HE).1]
          exact this
        clear ho2 b2 b2' KP HL
        go_wp2_with fail
        go_ret
        exact ⟨_, rfl, (unhide HF).1, (unhide HF).2⟩
      | false =>
        have KC := hide (close_d (d := d) (ho2.bxs (smx_put (unhide HSZ) (unhide HM).2).b) (smx_put (unhide HSZ) (unhide HM).2) (mayP_mapD (unhide HL).1 (fun b => ⟨rfl, rfl⟩)) (has_mapD (fun b => rfl) (unhide HL).2.1))
        have HO2 := hide (And.intro b2' (unhide HL).2.2)
        clear ho2 b2 b2' KP HL
        go_wp2_with fail
        refine (unhide KC).mono ?_
        rintro e W3 ⟨v3, rfl, xs3, ho3, b3⟩
        have HF : Hid ((v3 = v ∧ stl l d m false = l ∨ ∃ xs', OwL kBx w.heap.size W3 v3 (stl l d m false) xs') ∧ Below w.heap.size w W3) := by
          refine ⟨Or.inr ⟨xs3, ?_⟩, bw_tr (bw_tr (unhide HB0) (unhide HO2).1) b3⟩
          have := ho3.mono (Nat.le_trans (unhide HB0).size (unhide HO2).1.size)
          rw [stl_shut (unhide HE).2, (unhide HE).1]
          exact this
        clear ho3 b3 KC HO2
        go_wp2_with fail
        go_ret
        exact ⟨_, rfl, (unhide HF).1, (unhide HF).2⟩
    | true =>
      have hoL : ∀ c ∈ l, c.dev = d → c.out = true := fun c hc hcd => by rw [huniq c hc hcd]; exact hou.symm
      cases st with
      | true =>
        have HF : Hid ((v = v ∧ stl l d m true = l ∨ ∃ xs', OwL kBx w.heap.size W1 v (stl l d m true) xs') ∧ Below w.heap.size w W1) := by
          refine ⟨Or.inl ⟨rfl, ?_⟩, bw_tr (unhide HB0) b1⟩
          unfold stl
          rw [hv0]
          exact mapD_id (fun c hc hcd => by unfold stB; simp [hoL c hc hcd])
        clear KH KO hrd hsx hs hn hmy hd b1 q2 q3 huniq hyes hv0 hou hoL
        go_wp2_with fail
        go_ret
        first | exact ⟨_, rfl, (unhide HF).1, (unhide HF).2⟩ | exact ⟨_, rfl, by simpa using (unhide HF).1, (unhide HF).2⟩
      | false =>
        have KC := hide (close_d (d := d) (hrd.bw b1) hsx hmy hyes)
        have HE : Hid (stl l d m false = mapD l d cloN ∧ Below w0.heap.size w0 W1) := by
          refine ⟨?_, b1⟩
          unfold stl
          rw [hv0]
          exact mapD_congr (fun c hc hcd => by unfold stB; simp [hoL c hc hcd])
        clear KH KO hrd hsx hs hn hmy hd b1 q2 q3 huniq hyes hv0 hou hoL
        go_wp2_with fail
        refine (unhide KC).mono ?_
        rintro e W3 ⟨v3, rfl, xs3, ho3, b3⟩
        have HF : Hid ((v3 = v ∧ stl l d m false = l ∨ ∃ xs', OwL kBx w.heap.size W3 v3 (stl l d m false) xs') ∧ Below w.heap.size w W3) := by
          refine ⟨Or.inr ⟨xs3, ?_⟩, bw_tr (bw_tr (unhide HB0) (unhide HE).2) b3⟩
          rw [(unhide HE).1]
          exact ho3.mono (Nat.le_trans (unhide HB0).size (unhide HE).2.size)
        clear ho3 b3 KC HE
        go_wp2_with fail
        go_ret
        exact ⟨_, rfl, (unhide HF).1, (unhide HF).2⟩
end Go.Proofs.YtgmlkofogeoocaaGreatDoor
